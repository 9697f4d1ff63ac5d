import Derived.Test.YtaiigfcfmcicjaaGreatDoorB03
import Derived.Lib.ConvBytes
import Derived.Lib.AtoiErrMem
import Derived.Test.YtaiigfcfmcicjaaGreatDoorB02
import Derived.Test.YtaiigfcfmcicjaaGreatDoorB01
import Derived.Deep.QuietTactic
import Derived.BigQuiet

/- ProgC -/
namespace Go.Proofs.YtaiigfcfmcicjaaGreatDoor
open Go.RowKit Go.Extern.Stop Go.Stop Go.Extern

theorem isSmall_any (c : Nat) (w : World) :
    Calls Tryz.prog 149 #[.int .u8 c] w fun e w' => e = .returned (.bool (decide (97 ≤ c ∧ c ≤ 122))) ∧ w' = w := by
  have i1 : (97 : Int) ≤ c ↔ 97 ≤ c := by omega
  by_cases h1 : (97 : Int) ≤ c
  · by_cases h2 : (c : Int) ≤ 122
    · rw [decide_eq_true (show 97 ≤ c ∧ c ≤ 122 by omega)]
      go_enter Tryz.func149, Tryz.ntmps149
      go_wp2
      go_ret
      exact ⟨rfl, rfl⟩
    · rw [decide_eq_false (show ¬ (97 ≤ c ∧ c ≤ 122) by omega)]
      go_enter Tryz.func149, Tryz.ntmps149
      go_wp2
      go_ret
      exact ⟨rfl, rfl⟩
  · rw [decide_eq_false (show ¬ (97 ≤ c ∧ c ≤ 122) by omega)]
    go_enter Tryz.func149, Tryz.ntmps149
    go_wp2
    go_ret
    exact ⟨rfl, rfl⟩

open Classical in
set_option maxRecDepth 20000 in
theorem pisName_any (s : ByteArray) (w : World) :
    Calls Tryz.prog 128 #[.string s] w fun e w' => e = .returned (.bool (decide (isName s))) ∧ Below w.heap.size w w' := by
  by_cases h0 : s.size = 0
  · have HZ : decide (isName s) = false := decide_eq_false (fun h => by have := h.1; omega)
    have hb : (s.toList == []) = true := by rw [beq_iff_eq, toList_bl, ← List.length_eq_zero_iff, ← size_bl]; exact h0
    rw [HZ]
    go_enter Tryz.func128, Tryz.ntmps128
    go_wp2_with fail
    go_ret
    exact ⟨rfl, Below.refl _ _⟩
  have hb : (s.toList == []) = false := by rw [beq_eq_false_iff_ne, toList_bl]; intro e; apply h0; rw [size_bl, e]; rfl
  have hs0 : 0 < s.size := by omega
  by_cases h12 : 12 < s.size
  · have HZ : decide (isName s) = false := decide_eq_false (fun h => by have := h.2.1; omega)
    have i12 : 12 < (s.size : Int) := by omega
    rw [HZ]
    go_enter Tryz.func128, Tryz.ntmps128
    go_wp2_with fail
    go_ret
    exact ⟨rfl, Below.refl _ _⟩
  have i12 : ¬ 12 < (s.size : Int) := by omega
  have HS : Hid (∀ w', Calls Tryz.prog 149 #[.int .u8 (s[0]'hs0).toNat] w' fun e w'' => e = .returned (.bool (decide (97 ≤ (s[0]'hs0).toNat ∧ (s[0]'hs0).toNat ≤ 122))) ∧ w'' = w') := fun w' => isSmall_any _ w'
  by_cases hc : 97 ≤ (s[0]'hs0).toNat ∧ (s[0]'hs0).toNat ≤ 122
  rotate_left
  · have HZ : decide (isName s) = false := decide_eq_false (fun h => by
      have := h.2.2 0 hs0
      unfold nameOk at this
      have := of_decide_eq_true this
      omega)
    rw [HZ]
    rw [decide_eq_false hc] at HS
    clear hc
    go_enter Tryz.func128, Tryz.ntmps128
    go_wp2_with fail
    refine (HS.out _).mono ?_
    rintro e w1 ⟨rfl, rfl⟩
    go_wp2_with fail
    go_ret
    exact ⟨rfl, Below.refl _ _⟩
  have hc' := hide hc
  rw [decide_eq_true hc] at HS
  clear hc
  have hcv : ∀ w', (convert 9 205 (.string s)).run Tryz.prog w' = .ok (.slice (some ⟨w'.heap.size, 0, none⟩) s.size (grownCap w' s.size 0 5)) (Lib.bytesWorld w' 5 s) := fun w' => Lib.run_convert_string_bytes w' 9 205 5 s Tryz.underlying9 Tryz.underlying205 Tryz.underlying5
  have HD : Hid (∀ f : Bool, (f = true ↔ ∀ j, j < s.size → nameOk j (byteAt s j) = true) → decide (isName s) = f) := fun f hf => by
    cases f with
    | true => exact decide_eq_true ⟨by omega, by omega, fun j h => by have := hf.1 rfl j h; rwa [byteAt_lt h] at this⟩
    | false => exact decide_eq_false (fun h => by have := hf.2 (fun j hj => by rw [byteAt_lt hj]; exact h.2.2 j hj); cases this)
  generalize decide (isName s) = F at *
  go_enter Tryz.func128, Tryz.ntmps128
  go_wp2_with fail
  refine (HS.out _).mono ?_
  rintro e w1 ⟨rfl, rfl⟩
  obtain ⟨W, hW⟩ : ∃ W, W = Lib.bytesWorld w1 5 s := ⟨_, rfl⟩
  have hcell : Hid (∀ j, j < s.size → W.cell? ⟨w1.heap.size, j, none⟩ = some (.int .u8 (byteAt s j))) := fun j hj => by
    rw [hW, Lib.bytesWorld_cell _ _ _ _ hj]
    obtain ⟨h', e⟩ := byteAt_bl s j hj
    rw [e, List.getD_eq_getElem?_getD, List.getElem?_eq_getElem h']; rfl
  have HB : Hid (Below w1.heap.size w1 W) := by rw [hW]; exact Lib.bytesWorld_below _ _ _
  go_wp2_with fail
  rw [← hW]
  clear hW hcv HS
  go_loopw [4, 21] (fun _ i wr => wr = W ∧ ∃ j : Nat, j ≤ s.size ∧ i = .int .i64 j ∧ Hid (∀ k, k < j → nameOk k (byteAt s k) = true)) (fun _ i _ => s.size - (intOf i).toNat)
  case atStart => exact ⟨rfl, 0, Nat.zero_le _, rfl, fun k h => absurd h (Nat.not_lt_zero _)⟩
  case round =>
    obtain ⟨rfl, j, hj, rfl, HJ⟩ := hrel
    by_cases hlt : j < s.size
    · have hcj := hcell.out j hlt
      have ji : (j : Int) < s.size := by omega
      have HY : Hid (nameOk j (byteAt s j) = true → ∀ k, k < j + 1 → nameOk k (byteAt s k) = true) := fun hy k hk => by
        by_cases e : k = j
        · subst e; exact hy
        · exact HJ.out k (by omega)
      have HX : Hid (nameOk j (byteAt s j) = false → F = false) := fun hx => HD.out false ⟨(fun h => Bool.noConfusion h), (fun h => by rw [h j hlt] at hx; cases hx)⟩
      have H0 : Hid (j = 0 → 97 ≤ byteAt s j ∧ byteAt s j ≤ 122) := fun h => by subst h; rw [byteAt_lt hs0]; exact hc'.out
      generalize byteAt s j = c at *
      have HC : Hid (∀ w', Calls Tryz.prog 149 #[.int .u8 c] w' fun e w'' => e = .returned (.bool (decide (97 ≤ c ∧ c ≤ 122))) ∧ w'' = w') := fun w' => isSmall_any c w'
      have hor : (97 ≤ c ∧ c ≤ 122) ∨ (¬ (97 ≤ c ∧ c ≤ 122) ∧ 48 ≤ c ∧ c ≤ 57) ∨ (¬ (97 ≤ c ∧ c ≤ 122) ∧ c < 48 ∧ c = 46) ∨ (¬ (97 ≤ c ∧ c ≤ 122) ∧ c < 48 ∧ c ≠ 46) ∨ (¬ (97 ≤ c ∧ c ≤ 122) ∧ ¬ c < 48 ∧ 57 < c) := by omega
      rcases hor with q1 | ⟨q1, q2, q3⟩ | ⟨q1, q2, q3⟩ | ⟨q1, q2, q3⟩ | ⟨q1, q2, q3⟩
      · have HZ := hide (HY.out (decide_eq_true (by omega)))
        rw [decide_eq_true q1] at HC
        clear HX HY H0 q1 HJ
        go_wp2_with fail
        refine (HC.out _).mono ?_
        rintro e w1 ⟨rfl, rfl⟩
        go_wp2_with fail
        go_roundw
        case rel => exact ⟨trivial, j + 1, by omega, by go_num, HZ⟩
        case measure => simp [intOf]; omega
      · have HZ := hide (HY.out (decide_eq_true (by have := H0.out; omega)))
        rw [decide_eq_false q1] at HC
        have z1 : ¬ (c : Int) < 48 := by omega
        have z2 : ¬ 57 < (c : Int) := by omega
        clear HX HY H0 q1 q2 q3 HJ
        go_wp2_with fail
        refine (HC.out _).mono ?_
        rintro e w1 ⟨rfl, rfl⟩
        go_wp2_with fail
        go_roundw
        case rel => exact ⟨trivial, j + 1, by omega, by go_num, HZ⟩
        case measure => simp [intOf]; omega
      · have HZ := hide (HY.out (decide_eq_true (by have := H0.out; omega)))
        rw [decide_eq_false q1] at HC
        have z1 : (c : Int) < 48 := by omega
        have z2 : ((c : Int) != 46) = false := by rw [bne_eq_false_iff_eq]; omega
        clear HX HY H0 q1 q2 q3 HJ
        go_wp2_with fail
        refine (HC.out _).mono ?_
        rintro e w1 ⟨rfl, rfl⟩
        go_wp2_with fail
        go_roundw
        case rel => exact ⟨trivial, j + 1, by omega, by go_num, HZ⟩
        case measure => simp [intOf]; omega
      · have HZ := hide (HX.out (decide_eq_false (by omega)))
        rw [decide_eq_false q1] at HC
        have z1 : (c : Int) < 48 := by omega
        have z2 : ((c : Int) != 46) = true := by rw [bne_iff_ne]; omega
        clear HX HY H0 q1 q2 q3 HJ
        go_wp2_with fail
        refine (HC.out _).mono ?_
        rintro e w1 ⟨rfl, rfl⟩
        go_wp2_with fail
        go_ret
        exact ⟨by rw [HZ.out]; rfl, HB.out⟩
      · have HZ := hide (HX.out (decide_eq_false (by omega)))
        rw [decide_eq_false q1] at HC
        have z1 : ¬ (c : Int) < 48 := by omega
        have z2 : 57 < (c : Int) := by omega
        have z3 : ((c : Int) != 46) = true := by rw [bne_iff_ne]; omega
        clear HX HY H0 q1 q2 q3 HJ
        go_wp2_with fail
        refine (HC.out _).mono ?_
        rintro e w1 ⟨rfl, rfl⟩
        go_wp2_with fail
        go_ret
        exact ⟨by rw [HZ.out]; rfl, HB.out⟩
    · have HZ : Hid (F = true) := HD.out true ⟨fun _ k hk => HJ.out k (by omega), fun _ => rfl⟩
      obtain rfl : j = s.size := by omega
      clear HJ HD
      go_wp2_with fail
      go_ret
      exact ⟨by rw [HZ.out]; rfl, HB.out⟩
end Go.Proofs.YtaiigfcfmcicjaaGreatDoor

/- Ints -/
namespace Go.Proofs.YtaiigfcfmcicjaaGreatDoor
open Go.RowKit Go.Extern.Stop Go.Stop Go.Extern

def errVal (a : Nat → Addr) : Nat → Value
  | 0 => .nilIface
  | k + 1 => errAt (a k)

end Go.Proofs.YtaiigfcfmcicjaaGreatDoor

/- ArenaA -/
namespace Go.Proofs.YtaiigfcfmcicjaaGreatDoor
open Go.RowKit Go.Extern.Stop Go.Stop Go.Extern

structure Ar where
  size : Nat
  words : Nat → Nat → Int
  there : Nat → Bool
  given : Nat → Nat

structure ArAt (b o : Nat) (s : Ar) (w : World) : Prop where
  small : s.size ≤ 64
  size : w.cell? ⟨b, o, none⟩ = some (.int .i64 s.size)
  words : ∀ c k, c < 64 → k < 4 → w.cell? ⟨b, o + 1 + c * 4 + k, none⟩ = some (.int .u32 (s.words c k))
  range : ∀ c k, 0 ≤ s.words c k ∧ s.words c k < 4294967296
  there : ∀ c, c < 64 → w.cell? ⟨b, o + 257 + c, none⟩ = some (.bool (s.there c))
  given : ∀ c, c < 64 → w.cell? ⟨b, o + 321 + c, none⟩ = some (.int .i64 (s.given c))
  bound : ∀ c, s.given c < 4611686018427387904
  frozen : ∀ k, k < 385 → w.frozen? ⟨b, o + k, none⟩ = false

theorem ArAt.lt {b o : Nat} {s : Ar} {w : World} (h : ArAt b o s w) : b < w.heap.size := World.block_lt_of_cell? w _ h.size

theorem ArAt.turns {S : Nat → Nat → Prop} {b o : Nat} {s : Ar} {w w' : World} (h : ArAt b o s w) (ht : Turns S w w') (hS : ∀ k, k < 385 → ¬ S b (o + k)) : ArAt b o s w' where
  small := h.small
  size := ht.keep h.size (by simpa using hS 0 (by decide))
  words c k hc hk := ht.keep (h.words c k hc hk) (by have := hS (1 + c * 4 + k) (by omega); simpa [Nat.add_assoc] using this)
  range := h.range
  there c hc := ht.keep (h.there c hc) (by have := hS (257 + c) (by omega); simpa [Nat.add_assoc] using this)
  given c hc := ht.keep (h.given c hc) (by have := hS (321 + c) (by omega); simpa [Nat.add_assoc] using this)
  bound := h.bound
  frozen k hk := by rw [ht.frozen b (o + k) h.lt (hS k hk)]; exact h.frozen k hk

theorem ArAt.below {b o : Nat} {s : Ar} {w w' : World} (h : ArAt b o s w) (hb : Below w.heap.size w w') : ArAt b o s w' :=
  h.turns (Turns.of_below (S := fun _ _ => False) hb) (fun _ _ h => h)
theorem ArAt.drewN {b o : Nat} {s : Ar} {w : World} (h : ArAt b o s w) (n : Nat) : ArAt b o s (w.drewN n) := h.below (Below.drewN' n)
theorem ArAt.drew {b o : Nat} {s : Ar} {w : World} (h : ArAt b o s w) : ArAt b o s w.drew := h.below (Below.refl _ _).drew
theorem ArAt.alloc {b o : Nat} {s : Ar} {w : World} (h : ArAt b o s w) (ob : Obj) : ArAt b o s (w.alloc ob) := h.below ((Below.refl _ _).alloc (Nat.le_refl _) _)

def Ar.has (s : Ar) (c g : Int) : Bool := decide (0 ≤ c ∧ c < s.size) && s.there c.toNat && (g == (s.given c.toNat : Int) - 1)

def Ar.at (s : Ar) (c g k : Int) : Nat := if s.has c g = false then 7 else if 0 ≤ k ∧ k < 4 then 0 else 2

theorem box_below (c g : Int) (w : World) : Below w.heap.size w (w.alloc (.cells #[.int .i64 c, .int .i64 g] 50)) := (Below.refl _ _).alloc (Nat.le_refl _) _
end Go.Proofs.YtaiigfcfmcicjaaGreatDoor
