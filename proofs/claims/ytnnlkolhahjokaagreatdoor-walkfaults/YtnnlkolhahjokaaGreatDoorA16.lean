import Derived.Test.YtnnlkolhahjokaaGreatDoorA15
import Derived.Maps.Views
import Derived.Maps.OwnSet
import Derived.Test.YtnnlkolhahjokaaGreatDoorA10
import Derived.Test.YtnnlkolhahjokaaGreatDoorA01
import Derived.WalkKit

/- PureE -/
namespace Go.Proofs.YtnnlkolhahjokaaGreatDoor
open Go.RowKit

theorem mostOf_pos (c : Nat) : 0 < mostOf c := by
  unfold mostOf
  repeat' split
  all_goals omega
theorem limOf_zero {S : List UInt8} {k : Nat} : limOf S k = 0 ↔ nums S ≤ k := by
  unfold limOf
  have := mostOf_pos (byteAt ⟨S.toArray⟩ k)
  split <;> constructor <;> intro h <;> omega
theorem limOf_pos {S : List UInt8} {k : Nat} : 0 < limOf S k ↔ k < nums S := by
  unfold limOf
  have := mostOf_pos (byteAt ⟨S.toArray⟩ k)
  split <;> constructor <;> intro h <;> omega
theorem limOf_lt {S : List UInt8} {k : Nat} (h : k < nums S) : limOf S k = mostOf (byteAt ⟨S.toArray⟩ k) := if_pos h
theorem size_mk (S : List UInt8) : (⟨S.toArray⟩ : ByteArray).size = S.length := by simp [ByteArray.size]

def fitsP (S : List UInt8) (x : Ins) : Prop := (limOf S 0 = 0 → x.a = 0) ∧ (limOf S 1 = 0 → x.b = 0) ∧ (limOf S 2 = 0 → x.c = 0) ∧ (hasTo S = false → x.to.toList = [])
def withinP (S : List UInt8) (x : Ins) : Prop := (0 < limOf S 0 → 0 ≤ x.a ∧ x.a < limOf S 0) ∧ (0 < limOf S 1 → 0 ≤ x.b ∧ x.b < limOf S 1) ∧ (0 < limOf S 2 → 0 ≤ x.c ∧ x.c < limOf S 2)

theorem fitsP_iff {S : List UInt8} (x : Ins) : fitsP S x ↔ ¬ (hasTo S = false ∧ ¬ x.to.toList = []) ∧ ¬ ∃ k, nums S ≤ k ∧ k < 3 ∧ x.n k ≠ 0 := by
  unfold fitsP
  simp only [limOf_zero]
  constructor
  · rintro ⟨h0, h1, h2, ht⟩
    refine ⟨fun ⟨a, b⟩ => b (ht a), fun ⟨k, k1, k2, k3⟩ => k3 ?_⟩
    match k, k2 with
    | 0, _ => exact h0 k1
    | 1, _ => exact h1 k1
    | 2, _ => exact h2 k1
  · rintro ⟨ht, hk⟩
    have hk' : ∀ k, nums S ≤ k → k < 3 → x.n k = 0 := fun k a b => Decidable.byContradiction fun c => hk ⟨k, a, b, c⟩
    exact ⟨fun h => hk' 0 h (by omega), fun h => hk' 1 h (by omega), fun h => hk' 2 h (by omega), fun h => Decidable.byContradiction fun c => ht ⟨h, c⟩⟩

theorem withinP_iff {S : List UInt8} (h3 : nums S ≤ 3) (x : Ins) : withinP S x ↔ ¬ ∃ k, k < nums S ∧ ¬ (0 ≤ x.n k ∧ x.n k < mostOf (byteAt ⟨S.toArray⟩ k)) := by
  unfold withinP
  simp only [limOf_pos]
  constructor
  · rintro ⟨h0, h1, h2⟩ ⟨k, k1, k2⟩
    apply k2
    have k3 : k < 3 := by omega
    rw [← limOf_lt k1]
    match k, k3 with
    | 0, _ => exact h0 k1
    | 1, _ => exact h1 k1
    | 2, _ => exact h2 k1
  · intro hk
    have hk' : ∀ k, k < nums S → (0 ≤ x.n k ∧ x.n k < limOf S k) := fun k a => by
      rw [limOf_lt a]
      exact Decidable.byContradiction fun c => hk ⟨k, a, c⟩
    exact ⟨hk' 0, hk' 1, hk' 2⟩

theorem insErr_none {x : Ins} (h : shape x.op.toList = none) : insErr x = 3 := by unfold insErr; rw [h]
theorem insErr_some {x : Ins} {S : List UInt8} (h : shape x.op.toList = some S) : insErr x = insBad x ⟨S.toArray⟩ := by unfold insErr; rw [h]

theorem insErr_fits {x : Ins} {S : List UInt8} (h : shape x.op.toList = some S) (hf : ¬ fitsP S x) : insErr x = 3 := by
  obtain ⟨⟨_, h3⟩, _⟩ := table_facts _ (shape_mem h)
  dsimp only at h3
  rw [fitsP_iff] at hf
  rw [insErr_some h]
  unfold insBad
  rw [size_mk]
  by_cases h1 : hasTo S = false ∧ ¬ x.to.toList = []
  · rw [if_pos h1]
  · by_cases h2 : ∃ k, nums S ≤ k ∧ k < 3 ∧ x.n k ≠ 0
    · rw [if_neg h1, if_pos h2]
    · exact absurd ⟨h1, h2⟩ hf
theorem insErr_within {x : Ins} {S : List UInt8} (h : shape x.op.toList = some S) (hf : fitsP S x) (hw : ¬ withinP S x) : insErr x = 2 := by
  obtain ⟨⟨_, h3⟩, _⟩ := table_facts _ (shape_mem h)
  dsimp only at h3
  rw [fitsP_iff] at hf
  rw [withinP_iff h3, Classical.not_not] at hw
  rw [insErr_some h]
  unfold insBad
  rw [size_mk, if_neg hf.1, if_neg hf.2, if_pos hw]
open Classical in
theorem insErr_ok {x : Ins} {S : List UInt8} (h : shape x.op.toList = some S) (hf : fitsP S x) (hw : withinP S x) : insErr x = if hasTo S = true ∧ ¬ isName x.to then 4 else 0 := by
  obtain ⟨⟨_, h3⟩, _⟩ := table_facts _ (shape_mem h)
  dsimp only at h3
  rw [fitsP_iff] at hf
  rw [withinP_iff h3] at hw
  rw [insErr_some h]
  unfold insBad
  rw [size_mk, if_neg hf.1, if_neg hf.2, if_neg hw]

theorem label_shape {op S : List UInt8} (h : shape op = some S) (h1 : hasTo S = false) : (op == [108, 97, 98, 101, 108]) = false := by
  have := (by decide +kernel : ∀ p ∈ table, hasTo p.2 = false → (p.1 == [108, 97, 98, 101, 108]) = false)
  exact this _ (shape_mem h) h1

open Classical in
theorem insFault_some {l : List Ins} {i : Nat} {x : Ins} {S : List UInt8} (h : shape x.op.toList = some S) : insFault l i x =
    if ¬ fitsP S x then 3 else if ¬ withinP S x then 2 else if hasTo S = false then 0 else if ¬ isName x.to then 4
    else if (x.op.toList == [108, 97, 98, 101, 108]) = true ∧ labelAt l x.to ≠ i then 4 else if labelAt l x.to < 0 then 5 else 0 := by
  by_cases hf : fitsP S x
  · rw [if_neg (fun h => h hf)]
    by_cases hw : withinP S x
    · rw [if_neg (fun h => h hw)]
      have hE := insErr_ok h hf hw
      cases ht : hasTo S with
      | false =>
        rw [if_pos rfl]
        rw [ht, if_neg (fun e => by cases e.1)] at hE
        unfold insFault
        rw [if_neg (fun e => e hE), if_neg (fun e => by rw [label_shape h ht] at e; cases e.1), if_neg]
        rintro ⟨e, _⟩
        rw [hf.2.2.2 ht] at e
        cases e
      | true =>
        rw [if_neg (fun e => by cases e)]
        by_cases hn : isName x.to
        · rw [if_neg (fun e => e hn)]
          rw [if_neg (fun e => e.2 hn)] at hE
          have hto : (x.to.toList == []) = false := by
            rw [beq_eq_false_iff_ne, toList_bl]
            intro e
            have := hn.1
            rw [size_bl, e] at this
            cases this
          unfold insFault
          rw [if_neg (fun e => e hE)]
          by_cases h1 : (x.op.toList == [108, 97, 98, 101, 108]) = true ∧ labelAt l x.to ≠ i
          · rw [if_pos h1, if_pos h1]
          · rw [if_neg h1, if_neg h1]
            by_cases h2 : labelAt l x.to < 0
            · rw [if_pos ⟨hto, h2⟩, if_pos h2]
            · rw [if_neg (fun e => h2 e.2), if_neg h2]
        · rw [if_pos hn]
          rw [ht, if_pos ⟨rfl, hn⟩] at hE
          unfold insFault
          rw [if_pos (by omega), hE]
    · rw [if_pos hw]
      have := insErr_within h hf hw
      unfold insFault
      rw [if_pos (by omega), this]
  · rw [if_pos hf]
    have := insErr_fits h hf
    unfold insFault
    rw [if_pos (by omega), this]
theorem insFault_none {l : List Ins} {i : Nat} {x : Ins} (h : shape x.op.toList = none) : insFault l i x = 3 := by
  have := insErr_none h
  unfold insFault
  rw [if_pos (by omega), this]

end Go.Proofs.YtnnlkolhahjokaaGreatDoor

/- PureF -/
namespace Go.Proofs.YtnnlkolhahjokaaGreatDoor
open Go.RowKit Go.Maps

def setD (l : List Ins) : Nat → DataW Unit
  | 0 => .map []
  | j + 1 => match l[j]? with
    | some x => if ((x.op.toList == [108, 97, 98, 101, 108]) && !Maps.has (setD l j) (.string (bl x.to))) = true then (setD l j).put (.string (bl x.to)) (.lit (.int .i64 j)) else setD l j
    | none => setD l j

theorem setD_succ {l : List Ins} {j : Nat} {x : Ins} (hx : l[j]? = some x) : setD l (j + 1) = if ((x.op.toList == [108, 97, 98, 101, 108]) && !Maps.has (setD l j) (.string (bl x.to))) = true then (setD l j).put (.string (bl x.to)) (.lit (.int .i64 j)) else setD l j := by
  rw [setD, hx]

theorem setD_isMap (l : List Ins) : ∀ j, IsMap (setD l j)
  | 0 => isMap_empty
  | j + 1 => by
    have ih := setD_isMap l j
    rw [setD]
    split
    · split
      · exact ih.put _ _
      · exact ih
    · exact ih

def tells (l : List Ins) (j : Nat) (to : ByteArray) : Prop :=
  (Maps.has (setD l j) (.string (bl to)) = false ∧ ∀ i y, i < j → l[i]? = some y → setsLabel y to = false) ∨
  (Maps.has (setD l j) (.string (bl to)) = true ∧ ∃ (i : Nat) (y : Ins), i < j ∧ l[i]? = some y ∧ setsLabel y to = true ∧ (∀ k z, k < i → l[k]? = some z → setsLabel z to = false) ∧ ∀ d, (setD l j).atKey (.string (bl to)) d = .lit (.int .i64 i))

theorem setD_tells (l : List Ins) (to : ByteArray) : ∀ j, tells l j to
  | 0 => .inl ⟨rfl, fun i y h => absurd h (Nat.not_lt_zero _)⟩
  | j + 1 => by
    have ih := setD_tells l to j
    have hm := setD_isMap l j
    cases hx : l[j]? with
    | none =>
      have e : setD l (j + 1) = setD l j := by rw [setD, hx]
      unfold tells
      rw [e]
      rcases ih with ⟨h1, h2⟩ | ⟨h1, i, y, hi, hy, r⟩
      · refine .inl ⟨h1, fun i y hi hy => ?_⟩
        by_cases e2 : i = j
        · subst e2; rw [hx] at hy; cases hy
        · exact h2 i y (by omega) hy
      · exact .inr ⟨h1, i, y, by omega, hy, r⟩
    | some x =>
      have hS := setD_succ hx
      unfold tells
      by_cases hp : ((x.op.toList == [108, 97, 98, 101, 108]) && !Maps.has (setD l j) (.string (bl x.to))) = true
      · rw [if_pos hp] at hS
        rw [hS]
        obtain ⟨hop, hh⟩ := (Bool.and_eq_true _ _).mp hp
        have hh : Maps.has (setD l j) (.string (bl x.to)) = false := by simpa using hh
        by_cases ht : to = x.to
        · subst ht
          refine .inr ⟨has_put_same hm (by trivial) _, j, x, by omega, hx, by unfold setsLabel; rw [hop]; simp, ?_, fun d => atKey_put_same hm (by trivial) _ _⟩
          rcases ih with ⟨_, h2⟩ | ⟨h1, _⟩
          · exact h2
          · rw [hh] at h1; cases h1
        · have hne : (Lit.string (bl to)) ≠ .string (bl x.to) := fun e => ht (bl_inj (by injection e))
          rw [has_put_other hne]
          have hset : setsLabel x to = false := by
            unfold setsLabel
            rw [hop, Bool.true_and, beq_eq_false_iff_ne, toList_bl, toList_bl]
            exact fun e => ht (bl_inj e).symm
          rcases ih with ⟨h1, h2⟩ | ⟨h1, i, y, hi, hy, r1, r2, r3⟩
          · refine .inl ⟨h1, fun i y hi hy => ?_⟩
            by_cases e2 : i = j
            · subst e2; rw [hx] at hy; cases hy; exact hset
            · exact h2 i y (by omega) hy
          · exact .inr ⟨h1, i, y, by omega, hy, r1, r2, fun d => by rw [atKey_put_other hne]; exact r3 d⟩
      · rw [if_neg hp] at hS
        rw [hS]
        rcases ih with ⟨h1, h2⟩ | ⟨h1, i, y, hi, hy, r⟩
        · refine .inl ⟨h1, fun i y hi hy => ?_⟩
          by_cases e2 : i = j
          · subst e2
            rw [hx] at hy
            cases hy
            cases hs : setsLabel x to with
            | false => rfl
            | true =>
              exfalso
              unfold setsLabel at hs
              obtain ⟨a, b⟩ := (Bool.and_eq_true _ _).mp hs
              have b := beq_iff_eq.1 b
              rw [toList_bl, toList_bl] at b
              apply hp
              rw [a, b, h1]
              rfl
          · exact h2 i y (by omega) hy
        · exact .inr ⟨h1, i, y, by omega, hy, r⟩

theorem setD_all (l : List Ins) (to : ByteArray) : (Maps.has (setD l l.length) (.string (bl to)) = false ∧ labelAt l to = -1) ∨
    (Maps.has (setD l l.length) (.string (bl to)) = true ∧ ∃ i : Nat, i < l.length ∧ labelAt l to = i ∧ ∀ d, (setD l l.length).atKey (.string (bl to)) d = .lit (.int .i64 i)) := by
  rcases setD_tells l to l.length with ⟨h1, h2⟩ | ⟨h1, i, y, hi, hy, r1, r2, r3⟩
  · exact .inl ⟨h1, labelAt_none fun k y hy => h2 k y (List.getElem?_eq_some_iff.1 hy).1 hy⟩
  · exact .inr ⟨h1, i, hi, labelAt_some hy r1 (fun k z hk hz => r2 k z hk hz), r3⟩
end Go.Proofs.YtnnlkolhahjokaaGreatDoor

/- CodeI -/
namespace Go.Proofs.YtnnlkolhahjokaaGreatDoor
open Go.RowKit Go.Extern.Stop Go.Stop Go.Extern

def insAt (ad : Option Addr) (l : List Ins) (w : World) : Prop := ∀ i x, l[i]? = some x → ∃ b off, ad = some ⟨b, off, none⟩ ∧
  w.cell? ⟨b, off + i * 5, none⟩ = some (.string x.op) ∧ w.cell? ⟨b, off + i * 5 + 1, none⟩ = some (.int .i64 x.a) ∧ w.cell? ⟨b, off + i * 5 + 2, none⟩ = some (.int .i64 x.b) ∧
  w.cell? ⟨b, off + i * 5 + 3, none⟩ = some (.int .i64 x.c) ∧ w.cell? ⟨b, off + i * 5 + 4, none⟩ = some (.string x.to)

theorem insAt_below {ad : Option Addr} {l : List Ins} {w w' : World} (h : insAt ad l w) (k : Below w.heap.size w w') : insAt ad l w' := fun i x hx => by
  obtain ⟨b, off, e, h0, h1, h2, h3, h4⟩ := h i x hx
  exact ⟨b, off, e, keep_cell k h0, keep_cell k h1, keep_cell k h2, keep_cell k h3, keep_cell k h4⟩
end Go.Proofs.YtnnlkolhahjokaaGreatDoor
