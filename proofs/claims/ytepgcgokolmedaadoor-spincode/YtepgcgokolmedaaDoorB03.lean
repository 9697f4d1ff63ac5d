import Derived.Test.YtepgcgokolmedaaDoorB02
import Derived.Lib.Split
import Derived.Lib.IndexBytes
import Derived.Lib.Join
import Derived.Lib.ItoaNum
import Derived.Lib.Atoi
import Derived.WideShapes
import Derived.Test.YtepgcgokolmedaaDoorProg
import Derived.WalkKit
import Derived.Test.YtepgcgokolmedaaDoorB01
import Derived.Deep.QuietTactic
import Derived.Lib.ConvBytes
import Derived.Lib.AtoiErrMem
import Derived.BigQuiet

/- PureC -/
namespace Go.Proofs.YtepgcgokolmedaaDoor
open Go.RowKit Go.Lib

abbrev bl (s : ByteArray) : List UInt8 := s.data.toList
theorem toList_bl (s : ByteArray) : s.toList = bl s := ByteArray.toList_eq s
theorem mk_bl (s : ByteArray) : (⟨(bl s).toArray⟩ : ByteArray) = s := by cases s; simp
theorem size_bl (s : ByteArray) : s.size = (bl s).length := Lib.size_eq s
theorem byteAt_bl (s : ByteArray) (i : Nat) (h : i < s.size) : ∃ h', byteAt s i = ((bl s)[i]'h').toNat := by
  refine ⟨by rw [← size_bl]; exact h, ?_⟩
  rw [byteAt_lt h]
  simp [bl, ByteArray.getElem_eq_getElem_data]

def table : List (List UInt8 × List UInt8) :=
  [([99, 111, 110, 115, 116], [114, 118]), ([109, 111, 118, 101], [114, 114]), ([97, 100, 100], [114, 114, 114]), ([115, 117, 98], [114, 114, 114]), ([97, 110, 100], [114, 114, 114]), ([120, 111, 114], [114, 114, 114]),
   ([108, 111, 97, 100], [114, 114, 119]), ([115, 116, 111, 114, 101], [114, 114, 119]), ([115, 119, 97, 112], [114, 114, 119]), ([99, 97, 115], [114, 115, 119]), ([97, 108, 108, 111, 99], [114]), ([102, 114, 101, 101], [114]), ([109, 97, 114, 107], [114]), ([110, 101, 101, 100], [114]),
   ([102, 101, 110, 99, 101], []), ([102, 111, 114, 99, 101], []), ([115, 116, 111, 112], []), ([122, 101, 114, 111], [114, 108]), ([115, 97, 109, 101], [114, 114, 108]), ([103, 111, 116, 111], [108]), ([108, 97, 98, 101, 108], [108])]

theorem ite_some {op k l S : List UInt8} {e : Option (List UInt8)} (h : (if (op == k) = true then some l else e) = some S) (hl : (k, l) ∈ table) (he : e = some S → (op, S) ∈ table) : (op, S) ∈ table := by
  by_cases hc : (op == k) = true
  · rw [if_pos hc] at h; cases h; rw [beq_iff_eq.1 hc]; exact hl
  · rw [if_neg hc] at h; exact he h
set_option maxRecDepth 4000 in
theorem shape_mem {op S : List UInt8} (h : shape op = some S) : (op, S) ∈ table := by
  unfold shape at h
  iterate 21 (refine ite_some h (by decide) ?_; clear h; intro h)
  cases h

end Go.Proofs.YtepgcgokolmedaaDoor

/- ProgC -/
namespace Go.Proofs.YtepgcgokolmedaaDoor
open Go.RowKit Go.Extern.Stop Go.Stop Go.Extern

theorem isSmall_any (c : Nat) (w : World) :
    Calls Tryd.prog 61 #[.int .u8 c] w fun e w' => e = .returned (.bool (decide (97 ≤ c ∧ c ≤ 122))) ∧ w' = w := by
  have i1 : (97 : Int) ≤ c ↔ 97 ≤ c := by omega
  by_cases h1 : (97 : Int) ≤ c
  · by_cases h2 : (c : Int) ≤ 122
    · rw [decide_eq_true (show 97 ≤ c ∧ c ≤ 122 by omega)]
      go_enter Tryd.func61, Tryd.ntmps61
      go_wp2
      go_ret
      exact ⟨rfl, rfl⟩
    · rw [decide_eq_false (show ¬ (97 ≤ c ∧ c ≤ 122) by omega)]
      go_enter Tryd.func61, Tryd.ntmps61
      go_wp2
      go_ret
      exact ⟨rfl, rfl⟩
  · rw [decide_eq_false (show ¬ (97 ≤ c ∧ c ≤ 122) by omega)]
    go_enter Tryd.func61, Tryd.ntmps61
    go_wp2
    go_ret
    exact ⟨rfl, rfl⟩

open Classical in
set_option maxRecDepth 20000 in
theorem pisName_any (s : ByteArray) (w : World) :
    Calls Tryd.prog 47 #[.string s] w fun e w' => e = .returned (.bool (decide (isName s))) ∧ Below w.heap.size w w' := by
  by_cases h0 : s.size = 0
  · have HZ : decide (isName s) = false := decide_eq_false (fun h => by have := h.1; omega)
    have hb : (s.toList == []) = true := by rw [beq_iff_eq, toList_bl, ← List.length_eq_zero_iff, ← size_bl]; exact h0
    rw [HZ]
    go_enter Tryd.func47, Tryd.ntmps47
    go_wp2_with fail
    go_ret
    exact ⟨rfl, Below.refl _ _⟩
  have hb : (s.toList == []) = false := by rw [beq_eq_false_iff_ne, toList_bl]; intro e; apply h0; rw [size_bl, e]; rfl
  have hs0 : 0 < s.size := by omega
  by_cases h12 : 12 < s.size
  · have HZ : decide (isName s) = false := decide_eq_false (fun h => by have := h.2.1; omega)
    have i12 : 12 < (s.size : Int) := by omega
    rw [HZ]
    go_enter Tryd.func47, Tryd.ntmps47
    go_wp2_with fail
    go_ret
    exact ⟨rfl, Below.refl _ _⟩
  have i12 : ¬ 12 < (s.size : Int) := by omega
  have HS : Hid (∀ w', Calls Tryd.prog 61 #[.int .u8 (s[0]'hs0).toNat] w' fun e w'' => e = .returned (.bool (decide (97 ≤ (s[0]'hs0).toNat ∧ (s[0]'hs0).toNat ≤ 122))) ∧ w'' = w') := fun w' => isSmall_any _ w'
  by_cases hc : 97 ≤ (s[0]'hs0).toNat ∧ (s[0]'hs0).toNat ≤ 122
  rotate_left
  · have HZ : decide (isName s) = false := decide_eq_false (fun h => by
      have := h.2.2 0 hs0
      unfold nameOk at this
      have := of_decide_eq_true this
      omega)
    rw [HZ]
    rw [decide_eq_false hc] at HS
    clear hc
    go_enter Tryd.func47, Tryd.ntmps47
    go_wp2_with fail
    refine (HS.out _).mono ?_
    rintro e w1 ⟨rfl, rfl⟩
    go_wp2_with fail
    go_ret
    exact ⟨rfl, Below.refl _ _⟩
  have hc' := hide hc
  rw [decide_eq_true hc] at HS
  clear hc
  have hcv : ∀ w', (convert 9 125 (.string s)).run Tryd.prog w' = .ok (.slice (some ⟨w'.heap.size, 0, none⟩) s.size (grownCap w' s.size 0 5)) (Lib.bytesWorld w' 5 s) := fun w' => Lib.run_convert_string_bytes w' 9 125 5 s Tryd.underlying9 Tryd.underlying125 Tryd.underlying5
  have HD : Hid (∀ f : Bool, (f = true ↔ ∀ j, j < s.size → nameOk j (byteAt s j) = true) → decide (isName s) = f) := fun f hf => by
    cases f with
    | true => exact decide_eq_true ⟨by omega, by omega, fun j h => by have := hf.1 rfl j h; rwa [byteAt_lt h] at this⟩
    | false => exact decide_eq_false (fun h => by have := hf.2 (fun j hj => by rw [byteAt_lt hj]; exact h.2.2 j hj); cases this)
  generalize decide (isName s) = F at *
  go_enter Tryd.func47, Tryd.ntmps47
  go_wp2_with fail
  refine (HS.out _).mono ?_
  rintro e w1 ⟨rfl, rfl⟩
  obtain ⟨W, hW⟩ : ∃ W, W = Lib.bytesWorld w1 5 s := ⟨_, rfl⟩
  have hcell : Hid (∀ j, j < s.size → W.cell? ⟨w1.heap.size, j, none⟩ = some (.int .u8 (byteAt s j))) := fun j hj => by
    rw [hW, Lib.bytesWorld_cell _ _ _ _ hj]
    obtain ⟨h', e⟩ := byteAt_bl s j hj
    rw [e, List.getD_eq_getElem?_getD, List.getElem?_eq_getElem h']; rfl
  have HB : Hid (Below w1.heap.size w1 W) := by rw [hW]; exact Lib.bytesWorld_below _ _ _
  go_wp2_with fail
  rw [← hW]
  clear hW hcv HS
  go_loopw [4, 21] (fun _ i wr => wr = W ∧ ∃ j : Nat, j ≤ s.size ∧ i = .int .i64 j ∧ Hid (∀ k, k < j → nameOk k (byteAt s k) = true)) (fun _ i _ => s.size - (intOf i).toNat)
  case atStart => exact ⟨rfl, 0, Nat.zero_le _, rfl, fun k h => absurd h (Nat.not_lt_zero _)⟩
  case round =>
    obtain ⟨rfl, j, hj, rfl, HJ⟩ := hrel
    by_cases hlt : j < s.size
    · have hcj := hcell.out j hlt
      have ji : (j : Int) < s.size := by omega
      have HY : Hid (nameOk j (byteAt s j) = true → ∀ k, k < j + 1 → nameOk k (byteAt s k) = true) := fun hy k hk => by
        by_cases e : k = j
        · subst e; exact hy
        · exact HJ.out k (by omega)
      have HX : Hid (nameOk j (byteAt s j) = false → F = false) := fun hx => HD.out false ⟨(fun h => Bool.noConfusion h), (fun h => by rw [h j hlt] at hx; cases hx)⟩
      have H0 : Hid (j = 0 → 97 ≤ byteAt s j ∧ byteAt s j ≤ 122) := fun h => by subst h; rw [byteAt_lt hs0]; exact hc'.out
      generalize byteAt s j = c at *
      have HC : Hid (∀ w', Calls Tryd.prog 61 #[.int .u8 c] w' fun e w'' => e = .returned (.bool (decide (97 ≤ c ∧ c ≤ 122))) ∧ w'' = w') := fun w' => isSmall_any c w'
      have hor : (97 ≤ c ∧ c ≤ 122) ∨ (¬ (97 ≤ c ∧ c ≤ 122) ∧ 48 ≤ c ∧ c ≤ 57) ∨ (¬ (97 ≤ c ∧ c ≤ 122) ∧ c < 48 ∧ c = 46) ∨ (¬ (97 ≤ c ∧ c ≤ 122) ∧ c < 48 ∧ c ≠ 46) ∨ (¬ (97 ≤ c ∧ c ≤ 122) ∧ ¬ c < 48 ∧ 57 < c) := by omega
      rcases hor with q1 | ⟨q1, q2, q3⟩ | ⟨q1, q2, q3⟩ | ⟨q1, q2, q3⟩ | ⟨q1, q2, q3⟩
      · have HZ := hide (HY.out (decide_eq_true (by omega)))
        rw [decide_eq_true q1] at HC
        clear HX HY H0 q1 HJ
        go_wp2_with fail
        refine (HC.out _).mono ?_
        rintro e w1 ⟨rfl, rfl⟩
        go_wp2_with fail
        go_roundw
        case rel => exact ⟨trivial, j + 1, by omega, by go_num, HZ⟩
        case measure => simp [intOf]; omega
      · have HZ := hide (HY.out (decide_eq_true (by have := H0.out; omega)))
        rw [decide_eq_false q1] at HC
        have z1 : ¬ (c : Int) < 48 := by omega
        have z2 : ¬ 57 < (c : Int) := by omega
        clear HX HY H0 q1 q2 q3 HJ
        go_wp2_with fail
        refine (HC.out _).mono ?_
        rintro e w1 ⟨rfl, rfl⟩
        go_wp2_with fail
        go_roundw
        case rel => exact ⟨trivial, j + 1, by omega, by go_num, HZ⟩
        case measure => simp [intOf]; omega
      · have HZ := hide (HY.out (decide_eq_true (by have := H0.out; omega)))
        rw [decide_eq_false q1] at HC
        have z1 : (c : Int) < 48 := by omega
        have z2 : ((c : Int) != 46) = false := by rw [bne_eq_false_iff_eq]; omega
        clear HX HY H0 q1 q2 q3 HJ
        go_wp2_with fail
        refine (HC.out _).mono ?_
        rintro e w1 ⟨rfl, rfl⟩
        go_wp2_with fail
        go_roundw
        case rel => exact ⟨trivial, j + 1, by omega, by go_num, HZ⟩
        case measure => simp [intOf]; omega
      · have HZ := hide (HX.out (decide_eq_false (by omega)))
        rw [decide_eq_false q1] at HC
        have z1 : (c : Int) < 48 := by omega
        have z2 : ((c : Int) != 46) = true := by rw [bne_iff_ne]; omega
        clear HX HY H0 q1 q2 q3 HJ
        go_wp2_with fail
        refine (HC.out _).mono ?_
        rintro e w1 ⟨rfl, rfl⟩
        go_wp2_with fail
        go_ret
        exact ⟨by rw [HZ.out]; rfl, HB.out⟩
      · have HZ := hide (HX.out (decide_eq_false (by omega)))
        rw [decide_eq_false q1] at HC
        have z1 : ¬ (c : Int) < 48 := by omega
        have z2 : 57 < (c : Int) := by omega
        have z3 : ((c : Int) != 46) = true := by rw [bne_iff_ne]; omega
        clear HX HY H0 q1 q2 q3 HJ
        go_wp2_with fail
        refine (HC.out _).mono ?_
        rintro e w1 ⟨rfl, rfl⟩
        go_wp2_with fail
        go_ret
        exact ⟨by rw [HZ.out]; rfl, HB.out⟩
    · have HZ : Hid (F = true) := HD.out true ⟨fun _ k hk => HJ.out k (by omega), fun _ => rfl⟩
      obtain rfl : j = s.size := by omega
      clear HJ HD
      go_wp2_with fail
      go_ret
      exact ⟨by rw [HZ.out]; rfl, HB.out⟩
end Go.Proofs.YtepgcgokolmedaaDoor

/- Ints -/
namespace Go.Proofs.YtepgcgokolmedaaDoor
open Go.RowKit Go.Extern.Stop Go.Stop Go.Extern

def errVal (a : Nat → Addr) : Nat → Value
  | 0 => .nilIface
  | k + 1 => errAt (a k)

theorem code_err (a : Nat → Addr) (k : Nat) (hk : k ≤ 9) (w : World) (hE : Env a w) :
    Calls Tryd.prog 21 #[errVal a k] w fun ev w' => ev = .returned (.tuple #[.int .i64 k, .int .i64 (-1)]) ∧ Below w.heap.size w w' := by
  cases k with
  | zero => exact (code_nil w).mono fun _ _ ⟨h, h'⟩ => ⟨h, by rw [h']; exact Below.refl _ _⟩
  | succ k => exact code_sent a k (by omega) w hE

end Go.Proofs.YtepgcgokolmedaaDoor
