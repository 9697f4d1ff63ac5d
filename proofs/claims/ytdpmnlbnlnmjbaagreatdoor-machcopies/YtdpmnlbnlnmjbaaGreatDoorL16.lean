import Derived.Test.YtdpmnlbnlnmjbaaGreatDoorL15
import Derived.Lib.ConvBytes
import Derived.Lib.AtoiErrMem
import Derived.Maps.Views
import Derived.Maps.OwnSet

/- ProgC -/
namespace Go.Proofs.YtdpmnlbnlnmjbaaGreatDoor
open Go.RowKit Go.Extern.Stop Go.Stop Go.Extern

theorem isSmall_any (c : Nat) (w : World) :
    Calls Tryz.prog 147 #[.int .u8 c] w fun e w' => e = .returned (.bool (decide (97 ≤ c ∧ c ≤ 122))) ∧ w' = w := by
  have i1 : (97 : Int) ≤ c ↔ 97 ≤ c := by omega
  by_cases h1 : (97 : Int) ≤ c
  · by_cases h2 : (c : Int) ≤ 122
    · rw [decide_eq_true (show 97 ≤ c ∧ c ≤ 122 by omega)]
      go_enter Tryz.func147, Tryz.ntmps147
      go_wp2
      go_ret
      exact ⟨rfl, rfl⟩
    · rw [decide_eq_false (show ¬ (97 ≤ c ∧ c ≤ 122) by omega)]
      go_enter Tryz.func147, Tryz.ntmps147
      go_wp2
      go_ret
      exact ⟨rfl, rfl⟩
  · rw [decide_eq_false (show ¬ (97 ≤ c ∧ c ≤ 122) by omega)]
    go_enter Tryz.func147, Tryz.ntmps147
    go_wp2
    go_ret
    exact ⟨rfl, rfl⟩

open Classical in
set_option maxRecDepth 20000 in
theorem pisName_any (s : ByteArray) (w : World) :
    Calls Tryz.prog 129 #[.string s] w fun e w' => e = .returned (.bool (decide (isName s))) ∧ Below w.heap.size w w' := by
  by_cases h0 : s.size = 0
  · have HZ : decide (isName s) = false := decide_eq_false (fun h => by have := h.1; omega)
    have hb : (s.toList == []) = true := by rw [beq_iff_eq, toList_bl, ← List.length_eq_zero_iff, ← size_bl]; exact h0
    rw [HZ]
    go_enter Tryz.func129, Tryz.ntmps129
    go_wp2_with fail
    go_ret
    exact ⟨rfl, Below.refl _ _⟩
  have hb : (s.toList == []) = false := by rw [beq_eq_false_iff_ne, toList_bl]; intro e; apply h0; rw [size_bl, e]; rfl
  have hs0 : 0 < s.size := by omega
  by_cases h12 : 12 < s.size
  · have HZ : decide (isName s) = false := decide_eq_false (fun h => by have := h.2.1; omega)
    have i12 : 12 < (s.size : Int) := by omega
    rw [HZ]
    go_enter Tryz.func129, Tryz.ntmps129
    go_wp2_with fail
    go_ret
    exact ⟨rfl, Below.refl _ _⟩
  have i12 : ¬ 12 < (s.size : Int) := by omega
  have HS : Hid (∀ w', Calls Tryz.prog 147 #[.int .u8 (s[0]'hs0).toNat] w' fun e w'' => e = .returned (.bool (decide (97 ≤ (s[0]'hs0).toNat ∧ (s[0]'hs0).toNat ≤ 122))) ∧ w'' = w') := fun w' => isSmall_any _ w'
  by_cases hc : 97 ≤ (s[0]'hs0).toNat ∧ (s[0]'hs0).toNat ≤ 122
  rotate_left
  · have HZ : decide (isName s) = false := decide_eq_false (fun h => by
      have := h.2.2 0 hs0
      unfold nameOk at this
      have := of_decide_eq_true this
      omega)
    rw [HZ]
    rw [decide_eq_false hc] at HS
    clear hc
    go_enter Tryz.func129, Tryz.ntmps129
    go_wp2_with fail
    refine (HS.out _).mono ?_
    rintro e w1 ⟨rfl, rfl⟩
    go_wp2_with fail
    go_ret
    exact ⟨rfl, Below.refl _ _⟩
  have hc' := hide hc
  rw [decide_eq_true hc] at HS
  clear hc
  have hcv : ∀ w', (convert 9 257 (.string s)).run Tryz.prog w' = .ok (.slice (some ⟨w'.heap.size, 0, none⟩) s.size (grownCap w' s.size 0 5)) (Lib.bytesWorld w' 5 s) := fun w' => Lib.run_convert_string_bytes w' 9 257 5 s Tryz.underlying9 Tryz.underlying257 Tryz.underlying5
  have HD : Hid (∀ f : Bool, (f = true ↔ ∀ j, j < s.size → nameOk j (byteAt s j) = true) → decide (isName s) = f) := fun f hf => by
    cases f with
    | true => exact decide_eq_true ⟨by omega, by omega, fun j h => by have := hf.1 rfl j h; rwa [byteAt_lt h] at this⟩
    | false => exact decide_eq_false (fun h => by have := hf.2 (fun j hj => by rw [byteAt_lt hj]; exact h.2.2 j hj); cases this)
  generalize decide (isName s) = F at *
  go_enter Tryz.func129, Tryz.ntmps129
  go_wp2_with fail
  refine (HS.out _).mono ?_
  rintro e w1 ⟨rfl, rfl⟩
  obtain ⟨W, hW⟩ : ∃ W, W = Lib.bytesWorld w1 5 s := ⟨_, rfl⟩
  have hcell : Hid (∀ j, j < s.size → W.cell? ⟨w1.heap.size, j, none⟩ = some (.int .u8 (byteAt s j))) := fun j hj => by
    rw [hW, Lib.bytesWorld_cell _ _ _ _ hj]
    obtain ⟨h', e⟩ := byteAt_bl s j hj
    rw [e, List.getD_eq_getElem?_getD, List.getElem?_eq_getElem h']; rfl
  have HB : Hid (Below w1.heap.size w1 W) := by rw [hW]; exact Lib.bytesWorld_below _ _ _
  go_wp2_with fail
  rw [← hW]
  clear hW hcv HS
  go_loopw [4, 21] (fun _ i wr => wr = W ∧ ∃ j : Nat, j ≤ s.size ∧ i = .int .i64 j ∧ Hid (∀ k, k < j → nameOk k (byteAt s k) = true)) (fun _ i _ => s.size - (intOf i).toNat)
  case atStart => exact ⟨rfl, 0, Nat.zero_le _, rfl, fun k h => absurd h (Nat.not_lt_zero _)⟩
  case round =>
    obtain ⟨rfl, j, hj, rfl, HJ⟩ := hrel
    by_cases hlt : j < s.size
    · have hcj := hcell.out j hlt
      have ji : (j : Int) < s.size := by omega
      have HY : Hid (nameOk j (byteAt s j) = true → ∀ k, k < j + 1 → nameOk k (byteAt s k) = true) := fun hy k hk => by
        by_cases e : k = j
        · subst e; exact hy
        · exact HJ.out k (by omega)
      have HX : Hid (nameOk j (byteAt s j) = false → F = false) := fun hx => HD.out false ⟨(fun h => Bool.noConfusion h), (fun h => by rw [h j hlt] at hx; cases hx)⟩
      have H0 : Hid (j = 0 → 97 ≤ byteAt s j ∧ byteAt s j ≤ 122) := fun h => by subst h; rw [byteAt_lt hs0]; exact hc'.out
      generalize byteAt s j = c at *
      have HC : Hid (∀ w', Calls Tryz.prog 147 #[.int .u8 c] w' fun e w'' => e = .returned (.bool (decide (97 ≤ c ∧ c ≤ 122))) ∧ w'' = w') := fun w' => isSmall_any c w'
      have hor : (97 ≤ c ∧ c ≤ 122) ∨ (¬ (97 ≤ c ∧ c ≤ 122) ∧ 48 ≤ c ∧ c ≤ 57) ∨ (¬ (97 ≤ c ∧ c ≤ 122) ∧ c < 48 ∧ c = 46) ∨ (¬ (97 ≤ c ∧ c ≤ 122) ∧ c < 48 ∧ c ≠ 46) ∨ (¬ (97 ≤ c ∧ c ≤ 122) ∧ ¬ c < 48 ∧ 57 < c) := by omega
      rcases hor with q1 | ⟨q1, q2, q3⟩ | ⟨q1, q2, q3⟩ | ⟨q1, q2, q3⟩ | ⟨q1, q2, q3⟩
      · have HZ := hide (HY.out (decide_eq_true (by omega)))
        rw [decide_eq_true q1] at HC
        clear HX HY H0 q1 HJ
        go_wp2_with fail
        refine (HC.out _).mono ?_
        rintro e w1 ⟨rfl, rfl⟩
        go_wp2_with fail
        go_roundw
        case rel => exact ⟨trivial, j + 1, by omega, by go_num, HZ⟩
        case measure => simp [intOf]; omega
      · have HZ := hide (HY.out (decide_eq_true (by have := H0.out; omega)))
        rw [decide_eq_false q1] at HC
        have z1 : ¬ (c : Int) < 48 := by omega
        have z2 : ¬ 57 < (c : Int) := by omega
        clear HX HY H0 q1 q2 q3 HJ
        go_wp2_with fail
        refine (HC.out _).mono ?_
        rintro e w1 ⟨rfl, rfl⟩
        go_wp2_with fail
        go_roundw
        case rel => exact ⟨trivial, j + 1, by omega, by go_num, HZ⟩
        case measure => simp [intOf]; omega
      · have HZ := hide (HY.out (decide_eq_true (by have := H0.out; omega)))
        rw [decide_eq_false q1] at HC
        have z1 : (c : Int) < 48 := by omega
        have z2 : ((c : Int) != 46) = false := by rw [bne_eq_false_iff_eq]; omega
        clear HX HY H0 q1 q2 q3 HJ
        go_wp2_with fail
        refine (HC.out _).mono ?_
        rintro e w1 ⟨rfl, rfl⟩
        go_wp2_with fail
        go_roundw
        case rel => exact ⟨trivial, j + 1, by omega, by go_num, HZ⟩
        case measure => simp [intOf]; omega
      · have HZ := hide (HX.out (decide_eq_false (by omega)))
        rw [decide_eq_false q1] at HC
        have z1 : (c : Int) < 48 := by omega
        have z2 : ((c : Int) != 46) = true := by rw [bne_iff_ne]; omega
        clear HX HY H0 q1 q2 q3 HJ
        go_wp2_with fail
        refine (HC.out _).mono ?_
        rintro e w1 ⟨rfl, rfl⟩
        go_wp2_with fail
        go_ret
        exact ⟨by rw [HZ.out]; rfl, HB.out⟩
      · have HZ := hide (HX.out (decide_eq_false (by omega)))
        rw [decide_eq_false q1] at HC
        have z1 : ¬ (c : Int) < 48 := by omega
        have z2 : 57 < (c : Int) := by omega
        have z3 : ((c : Int) != 46) = true := by rw [bne_iff_ne]; omega
        clear HX HY H0 q1 q2 q3 HJ
        go_wp2_with fail
        refine (HC.out _).mono ?_
        rintro e w1 ⟨rfl, rfl⟩
        go_wp2_with fail
        go_ret
        exact ⟨by rw [HZ.out]; rfl, HB.out⟩
    · have HZ : Hid (F = true) := HD.out true ⟨fun _ k hk => HJ.out k (by omega), fun _ => rfl⟩
      obtain rfl : j = s.size := by omega
      clear HJ HD
      go_wp2_with fail
      go_ret
      exact ⟨by rw [HZ.out]; rfl, HB.out⟩
end Go.Proofs.YtdpmnlbnlnmjbaaGreatDoor

/- PureE -/
namespace Go.Proofs.YtdpmnlbnlnmjbaaGreatDoor
open Go.RowKit

theorem mostOf_pos (c : Nat) : 0 < mostOf c := by
  unfold mostOf
  repeat' split
  all_goals omega
theorem limOf_zero {S : List UInt8} {k : Nat} : limOf S k = 0 ↔ nums S ≤ k := by
  unfold limOf
  have := mostOf_pos (byteAt ⟨S.toArray⟩ k)
  split <;> constructor <;> intro h <;> omega
theorem limOf_pos {S : List UInt8} {k : Nat} : 0 < limOf S k ↔ k < nums S := by
  unfold limOf
  have := mostOf_pos (byteAt ⟨S.toArray⟩ k)
  split <;> constructor <;> intro h <;> omega
theorem limOf_lt {S : List UInt8} {k : Nat} (h : k < nums S) : limOf S k = mostOf (byteAt ⟨S.toArray⟩ k) := if_pos h
theorem size_mk (S : List UInt8) : (⟨S.toArray⟩ : ByteArray).size = S.length := by simp [ByteArray.size]

def fitsP (S : List UInt8) (x : Ins) : Prop := (limOf S 0 = 0 → x.a = 0) ∧ (limOf S 1 = 0 → x.b = 0) ∧ (limOf S 2 = 0 → x.c = 0) ∧ (hasTo S = false → x.to.toList = [])
def withinP (S : List UInt8) (x : Ins) : Prop := (0 < limOf S 0 → 0 ≤ x.a ∧ x.a < limOf S 0) ∧ (0 < limOf S 1 → 0 ≤ x.b ∧ x.b < limOf S 1) ∧ (0 < limOf S 2 → 0 ≤ x.c ∧ x.c < limOf S 2)

theorem fitsP_iff {S : List UInt8} (x : Ins) : fitsP S x ↔ ¬ (hasTo S = false ∧ ¬ x.to.toList = []) ∧ ¬ ∃ k, nums S ≤ k ∧ k < 3 ∧ x.n k ≠ 0 := by
  unfold fitsP
  simp only [limOf_zero]
  constructor
  · rintro ⟨h0, h1, h2, ht⟩
    refine ⟨fun ⟨a, b⟩ => b (ht a), fun ⟨k, k1, k2, k3⟩ => k3 ?_⟩
    match k, k2 with
    | 0, _ => exact h0 k1
    | 1, _ => exact h1 k1
    | 2, _ => exact h2 k1
  · rintro ⟨ht, hk⟩
    have hk' : ∀ k, nums S ≤ k → k < 3 → x.n k = 0 := fun k a b => Decidable.byContradiction fun c => hk ⟨k, a, b, c⟩
    exact ⟨fun h => hk' 0 h (by omega), fun h => hk' 1 h (by omega), fun h => hk' 2 h (by omega), fun h => Decidable.byContradiction fun c => ht ⟨h, c⟩⟩

theorem withinP_iff {S : List UInt8} (h3 : nums S ≤ 3) (x : Ins) : withinP S x ↔ ¬ ∃ k, k < nums S ∧ ¬ (0 ≤ x.n k ∧ x.n k < mostOf (byteAt ⟨S.toArray⟩ k)) := by
  unfold withinP
  simp only [limOf_pos]
  constructor
  · rintro ⟨h0, h1, h2⟩ ⟨k, k1, k2⟩
    apply k2
    have k3 : k < 3 := by omega
    rw [← limOf_lt k1]
    match k, k3 with
    | 0, _ => exact h0 k1
    | 1, _ => exact h1 k1
    | 2, _ => exact h2 k1
  · intro hk
    have hk' : ∀ k, k < nums S → (0 ≤ x.n k ∧ x.n k < limOf S k) := fun k a => by
      rw [limOf_lt a]
      exact Decidable.byContradiction fun c => hk ⟨k, a, c⟩
    exact ⟨hk' 0, hk' 1, hk' 2⟩

theorem insErr_none {x : Ins} (h : shape x.op.toList = none) : insErr x = 3 := by unfold insErr; rw [h]
theorem insErr_some {x : Ins} {S : List UInt8} (h : shape x.op.toList = some S) : insErr x = insBad x ⟨S.toArray⟩ := by unfold insErr; rw [h]

theorem insErr_fits {x : Ins} {S : List UInt8} (h : shape x.op.toList = some S) (hf : ¬ fitsP S x) : insErr x = 3 := by
  obtain ⟨⟨_, h3⟩, _⟩ := table_facts _ (shape_mem h)
  dsimp only at h3
  rw [fitsP_iff] at hf
  rw [insErr_some h]
  unfold insBad
  rw [size_mk]
  by_cases h1 : hasTo S = false ∧ ¬ x.to.toList = []
  · rw [if_pos h1]
  · by_cases h2 : ∃ k, nums S ≤ k ∧ k < 3 ∧ x.n k ≠ 0
    · rw [if_neg h1, if_pos h2]
    · exact absurd ⟨h1, h2⟩ hf
theorem insErr_within {x : Ins} {S : List UInt8} (h : shape x.op.toList = some S) (hf : fitsP S x) (hw : ¬ withinP S x) : insErr x = 2 := by
  obtain ⟨⟨_, h3⟩, _⟩ := table_facts _ (shape_mem h)
  dsimp only at h3
  rw [fitsP_iff] at hf
  rw [withinP_iff h3, Classical.not_not] at hw
  rw [insErr_some h]
  unfold insBad
  rw [size_mk, if_neg hf.1, if_neg hf.2, if_pos hw]
open Classical in
theorem insErr_ok {x : Ins} {S : List UInt8} (h : shape x.op.toList = some S) (hf : fitsP S x) (hw : withinP S x) : insErr x = if hasTo S = true ∧ ¬ isName x.to then 4 else 0 := by
  obtain ⟨⟨_, h3⟩, _⟩ := table_facts _ (shape_mem h)
  dsimp only at h3
  rw [fitsP_iff] at hf
  rw [withinP_iff h3] at hw
  rw [insErr_some h]
  unfold insBad
  rw [size_mk, if_neg hf.1, if_neg hf.2, if_neg hw]

theorem label_shape {op S : List UInt8} (h : shape op = some S) (h1 : hasTo S = false) : (op == [108, 97, 98, 101, 108]) = false := by
  have := (by decide +kernel : ∀ p ∈ table, hasTo p.2 = false → (p.1 == [108, 97, 98, 101, 108]) = false)
  exact this _ (shape_mem h) h1

open Classical in
theorem insFault_some {l : List Ins} {i : Nat} {x : Ins} {S : List UInt8} (h : shape x.op.toList = some S) : insFault l i x =
    if ¬ fitsP S x then 3 else if ¬ withinP S x then 2 else if hasTo S = false then 0 else if ¬ isName x.to then 4
    else if (x.op.toList == [108, 97, 98, 101, 108]) = true ∧ labelAt l x.to ≠ i then 4 else if labelAt l x.to < 0 then 5 else 0 := by
  by_cases hf : fitsP S x
  · rw [if_neg (fun h => h hf)]
    by_cases hw : withinP S x
    · rw [if_neg (fun h => h hw)]
      have hE := insErr_ok h hf hw
      cases ht : hasTo S with
      | false =>
        rw [if_pos rfl]
        rw [ht, if_neg (fun e => by cases e.1)] at hE
        unfold insFault
        rw [if_neg (fun e => e hE), if_neg (fun e => by rw [label_shape h ht] at e; cases e.1), if_neg]
        rintro ⟨e, _⟩
        rw [hf.2.2.2 ht] at e
        cases e
      | true =>
        rw [if_neg (fun e => by cases e)]
        by_cases hn : isName x.to
        · rw [if_neg (fun e => e hn)]
          rw [if_neg (fun e => e.2 hn)] at hE
          have hto : (x.to.toList == []) = false := by
            rw [beq_eq_false_iff_ne, toList_bl]
            intro e
            have := hn.1
            rw [size_bl, e] at this
            cases this
          unfold insFault
          rw [if_neg (fun e => e hE)]
          by_cases h1 : (x.op.toList == [108, 97, 98, 101, 108]) = true ∧ labelAt l x.to ≠ i
          · rw [if_pos h1, if_pos h1]
          · rw [if_neg h1, if_neg h1]
            by_cases h2 : labelAt l x.to < 0
            · rw [if_pos ⟨hto, h2⟩, if_pos h2]
            · rw [if_neg (fun e => h2 e.2), if_neg h2]
        · rw [if_pos hn]
          rw [ht, if_pos ⟨rfl, hn⟩] at hE
          unfold insFault
          rw [if_pos (by omega), hE]
    · rw [if_pos hw]
      have := insErr_within h hf hw
      unfold insFault
      rw [if_pos (by omega), this]
  · rw [if_pos hf]
    have := insErr_fits h hf
    unfold insFault
    rw [if_pos (by omega), this]
theorem insFault_none {l : List Ins} {i : Nat} {x : Ins} (h : shape x.op.toList = none) : insFault l i x = 3 := by
  have := insErr_none h
  unfold insFault
  rw [if_pos (by omega), this]

end Go.Proofs.YtdpmnlbnlnmjbaaGreatDoor

/- PureF -/
namespace Go.Proofs.YtdpmnlbnlnmjbaaGreatDoor
open Go.RowKit Go.Maps

def setD (l : List Ins) : Nat → DataW Unit
  | 0 => .map []
  | j + 1 => match l[j]? with
    | some x => if ((x.op.toList == [108, 97, 98, 101, 108]) && !Maps.has (setD l j) (.string (bl x.to))) = true then (setD l j).put (.string (bl x.to)) (.lit (.int .i64 j)) else setD l j
    | none => setD l j

theorem setD_succ {l : List Ins} {j : Nat} {x : Ins} (hx : l[j]? = some x) : setD l (j + 1) = if ((x.op.toList == [108, 97, 98, 101, 108]) && !Maps.has (setD l j) (.string (bl x.to))) = true then (setD l j).put (.string (bl x.to)) (.lit (.int .i64 j)) else setD l j := by
  rw [setD, hx]

theorem setD_isMap (l : List Ins) : ∀ j, IsMap (setD l j)
  | 0 => isMap_empty
  | j + 1 => by
    have ih := setD_isMap l j
    rw [setD]
    split
    · split
      · exact ih.put _ _
      · exact ih
    · exact ih

def tells (l : List Ins) (j : Nat) (to : ByteArray) : Prop :=
  (Maps.has (setD l j) (.string (bl to)) = false ∧ ∀ i y, i < j → l[i]? = some y → setsLabel y to = false) ∨
  (Maps.has (setD l j) (.string (bl to)) = true ∧ ∃ (i : Nat) (y : Ins), i < j ∧ l[i]? = some y ∧ setsLabel y to = true ∧ (∀ k z, k < i → l[k]? = some z → setsLabel z to = false) ∧ ∀ d, (setD l j).atKey (.string (bl to)) d = .lit (.int .i64 i))

theorem setD_tells (l : List Ins) (to : ByteArray) : ∀ j, tells l j to
  | 0 => .inl ⟨rfl, fun i y h => absurd h (Nat.not_lt_zero _)⟩
  | j + 1 => by
    have ih := setD_tells l to j
    have hm := setD_isMap l j
    cases hx : l[j]? with
    | none =>
      have e : setD l (j + 1) = setD l j := by rw [setD, hx]
      unfold tells
      rw [e]
      rcases ih with ⟨h1, h2⟩ | ⟨h1, i, y, hi, hy, r⟩
      · refine .inl ⟨h1, fun i y hi hy => ?_⟩
        by_cases e2 : i = j
        · subst e2; rw [hx] at hy; cases hy
        · exact h2 i y (by omega) hy
      · exact .inr ⟨h1, i, y, by omega, hy, r⟩
    | some x =>
      have hS := setD_succ hx
      unfold tells
      by_cases hp : ((x.op.toList == [108, 97, 98, 101, 108]) && !Maps.has (setD l j) (.string (bl x.to))) = true
      · rw [if_pos hp] at hS
        rw [hS]
        obtain ⟨hop, hh⟩ := (Bool.and_eq_true _ _).mp hp
        have hh : Maps.has (setD l j) (.string (bl x.to)) = false := by simpa using hh
        by_cases ht : to = x.to
        · subst ht
          refine .inr ⟨has_put_same hm (by trivial) _, j, x, by omega, hx, by unfold setsLabel; rw [hop]; simp, ?_, fun d => atKey_put_same hm (by trivial) _ _⟩
          rcases ih with ⟨_, h2⟩ | ⟨h1, _⟩
          · exact h2
          · rw [hh] at h1; cases h1
        · have hne : (Lit.string (bl to)) ≠ .string (bl x.to) := fun e => ht (bl_inj (by injection e))
          rw [has_put_other hne]
          have hset : setsLabel x to = false := by
            unfold setsLabel
            rw [hop, Bool.true_and, beq_eq_false_iff_ne, toList_bl, toList_bl]
            exact fun e => ht (bl_inj e).symm
          rcases ih with ⟨h1, h2⟩ | ⟨h1, i, y, hi, hy, r1, r2, r3⟩
          · refine .inl ⟨h1, fun i y hi hy => ?_⟩
            by_cases e2 : i = j
            · subst e2; rw [hx] at hy; cases hy; exact hset
            · exact h2 i y (by omega) hy
          · exact .inr ⟨h1, i, y, by omega, hy, r1, r2, fun d => by rw [atKey_put_other hne]; exact r3 d⟩
      · rw [if_neg hp] at hS
        rw [hS]
        rcases ih with ⟨h1, h2⟩ | ⟨h1, i, y, hi, hy, r⟩
        · refine .inl ⟨h1, fun i y hi hy => ?_⟩
          by_cases e2 : i = j
          · subst e2
            rw [hx] at hy
            cases hy
            cases hs : setsLabel x to with
            | false => rfl
            | true =>
              exfalso
              unfold setsLabel at hs
              obtain ⟨a, b⟩ := (Bool.and_eq_true _ _).mp hs
              have b := beq_iff_eq.1 b
              rw [toList_bl, toList_bl] at b
              apply hp
              rw [a, b, h1]
              rfl
          · exact h2 i y (by omega) hy
        · exact .inr ⟨h1, i, y, by omega, hy, r⟩

theorem setD_all (l : List Ins) (to : ByteArray) : (Maps.has (setD l l.length) (.string (bl to)) = false ∧ labelAt l to = -1) ∨
    (Maps.has (setD l l.length) (.string (bl to)) = true ∧ ∃ i : Nat, i < l.length ∧ labelAt l to = i ∧ ∀ d, (setD l l.length).atKey (.string (bl to)) d = .lit (.int .i64 i)) := by
  rcases setD_tells l to l.length with ⟨h1, h2⟩ | ⟨h1, i, y, hi, hy, r1, r2, r3⟩
  · exact .inl ⟨h1, labelAt_none fun k y hy => h2 k y (List.getElem?_eq_some_iff.1 hy).1 hy⟩
  · exact .inr ⟨h1, i, hi, labelAt_some hy r1 (fun k z hk hz => r2 k z hk hz), r3⟩
end Go.Proofs.YtdpmnlbnlnmjbaaGreatDoor
