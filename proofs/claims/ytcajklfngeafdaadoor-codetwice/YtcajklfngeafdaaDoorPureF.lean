/- Plain Lean: the labels of code as a map. No program. -/
import Derived.Test.YtcajklfngeafdaaDoorPureE
import Derived.Maps.Views
import Derived.Maps.OwnSet
namespace Go.Proofs.YtcajklfngeafdaaDoor
open Go.RowKit Go.Maps

/-- The labels that the first j instructions set, each at its first place. -/
def setD (l : List Ins) : Nat → DataW Unit
  | 0 => .map []
  | j + 1 => match l[j]? with
    | some x => if ((x.op.toList == [108, 97, 98, 101, 108]) && !Maps.has (setD l j) (.string (bl x.to))) = true then (setD l j).put (.string (bl x.to)) (.lit (.int .i64 j)) else setD l j
    | none => setD l j

theorem setD_succ {l : List Ins} {j : Nat} {x : Ins} (hx : l[j]? = some x) : setD l (j + 1) = if ((x.op.toList == [108, 97, 98, 101, 108]) && !Maps.has (setD l j) (.string (bl x.to))) = true then (setD l j).put (.string (bl x.to)) (.lit (.int .i64 j)) else setD l j := by
  rw [setD, hx]

theorem setD_isMap (l : List Ins) : ∀ j, IsMap (setD l j)
  | 0 => isMap_empty
  | j + 1 => by
    have ih := setD_isMap l j
    rw [setD]
    split
    · split
      · exact ih.put _ _
      · exact ih
    · exact ih

/-- What the map tells of a label. -/
def tells (l : List Ins) (j : Nat) (to : ByteArray) : Prop :=
  (Maps.has (setD l j) (.string (bl to)) = false ∧ ∀ i y, i < j → l[i]? = some y → setsLabel y to = false) ∨
  (Maps.has (setD l j) (.string (bl to)) = true ∧ ∃ (i : Nat) (y : Ins), i < j ∧ l[i]? = some y ∧ setsLabel y to = true ∧ (∀ k z, k < i → l[k]? = some z → setsLabel z to = false) ∧ ∀ d, (setD l j).atKey (.string (bl to)) d = .lit (.int .i64 i))

theorem setD_tells (l : List Ins) (to : ByteArray) : ∀ j, tells l j to
  | 0 => .inl ⟨rfl, fun i y h => absurd h (Nat.not_lt_zero _)⟩
  | j + 1 => by
    have ih := setD_tells l to j
    have hm := setD_isMap l j
    cases hx : l[j]? with
    | none =>
      have e : setD l (j + 1) = setD l j := by rw [setD, hx]
      unfold tells
      rw [e]
      rcases ih with ⟨h1, h2⟩ | ⟨h1, i, y, hi, hy, r⟩
      · refine .inl ⟨h1, fun i y hi hy => ?_⟩
        by_cases e2 : i = j
        · subst e2; rw [hx] at hy; cases hy
        · exact h2 i y (by omega) hy
      · exact .inr ⟨h1, i, y, by omega, hy, r⟩
    | some x =>
      have hS := setD_succ hx
      unfold tells
      by_cases hp : ((x.op.toList == [108, 97, 98, 101, 108]) && !Maps.has (setD l j) (.string (bl x.to))) = true
      · rw [if_pos hp] at hS
        rw [hS]
        obtain ⟨hop, hh⟩ := (Bool.and_eq_true _ _).mp hp
        have hh : Maps.has (setD l j) (.string (bl x.to)) = false := by simpa using hh
        by_cases ht : to = x.to
        · subst ht
          refine .inr ⟨has_put_same hm (by trivial) _, j, x, by omega, hx, by unfold setsLabel; rw [hop]; simp, ?_, fun d => atKey_put_same hm (by trivial) _ _⟩
          rcases ih with ⟨_, h2⟩ | ⟨h1, _⟩
          · exact h2
          · rw [hh] at h1; cases h1
        · have hne : (Lit.string (bl to)) ≠ .string (bl x.to) := fun e => ht (bl_inj (by injection e))
          rw [has_put_other hne]
          have hset : setsLabel x to = false := by
            unfold setsLabel
            rw [hop, Bool.true_and, beq_eq_false_iff_ne, toList_bl, toList_bl]
            exact fun e => ht (bl_inj e).symm
          rcases ih with ⟨h1, h2⟩ | ⟨h1, i, y, hi, hy, r1, r2, r3⟩
          · refine .inl ⟨h1, fun i y hi hy => ?_⟩
            by_cases e2 : i = j
            · subst e2; rw [hx] at hy; cases hy; exact hset
            · exact h2 i y (by omega) hy
          · exact .inr ⟨h1, i, y, by omega, hy, r1, r2, fun d => by rw [atKey_put_other hne]; exact r3 d⟩
      · rw [if_neg hp] at hS
        rw [hS]
        rcases ih with ⟨h1, h2⟩ | ⟨h1, i, y, hi, hy, r⟩
        · refine .inl ⟨h1, fun i y hi hy => ?_⟩
          by_cases e2 : i = j
          · subst e2
            rw [hx] at hy
            cases hy
            cases hs : setsLabel x to with
            | false => rfl
            | true =>
              exfalso
              unfold setsLabel at hs
              obtain ⟨a, b⟩ := (Bool.and_eq_true _ _).mp hs
              have b := beq_iff_eq.1 b
              rw [toList_bl, toList_bl] at b
              apply hp
              rw [a, b, h1]
              rfl
          · exact h2 i y (by omega) hy
        · exact .inr ⟨h1, i, y, by omega, hy, r⟩

theorem setD_all (l : List Ins) (to : ByteArray) : (Maps.has (setD l l.length) (.string (bl to)) = false ∧ labelAt l to = -1) ∨
    (Maps.has (setD l l.length) (.string (bl to)) = true ∧ ∃ i : Nat, i < l.length ∧ labelAt l to = i ∧ ∀ d, (setD l l.length).atKey (.string (bl to)) d = .lit (.int .i64 i)) := by
  rcases setD_tells l to l.length with ⟨h1, h2⟩ | ⟨h1, i, y, hi, hy, r1, r2, r3⟩
  · exact .inl ⟨h1, labelAt_none fun k y hy => h2 k y (List.getElem?_eq_some_iff.1 hy).1 hy⟩
  · exact .inr ⟨h1, i, hi, labelAt_some hy r1 (fun k z hk hz => r2 k z hk hz), r3⟩
end Go.Proofs.YtcajklfngeafdaaDoor
