/- quiescentref1.Byte, below, Decimal by contracts. -/
import Derived.Test.YtcajklfngeafdaaGreatDoorCodeE
import Derived.Laws.IdiomStrings
namespace Go.Proofs.YtcajklfngeafdaaGreatDoor
open Go.RowKit Go.Extern.Stop Go.Stop Go.Extern
set_option maxRecDepth 20000 in
theorem byte_any (k : Nat) (hk : k < 256) (w : World) : Calls Tryz.prog 64 #[.int .i64 k] w fun e w' => e = .returned (.string (oneByte k)) ∧ Below w.heap.size w w' := by
  have k0 : 0 ≤ (k : Int) := by omega
  have k1 : (k : Int) < 256 := by omega
  have hcv : (convert 49 9 (.slice (some ⟨w.heap.size, 0, none⟩) 1 1)).run Tryz.prog (w.alloc (.cells #[.int .u8 k] 5)) = .ok (.string (oneByte k)) (w.alloc (.cells #[.int .u8 k] 5)) :=
    run_convert_bytes_back (P := Tryz.prog) (w.alloc (.cells #[.int .u8 k] 5)) 49 9 5 ⟨w.heap.size, 0, none⟩ 1 [UInt8.ofNat k] Tryz.underlying49 Tryz.underlying5 Tryz.underlying9 (fun j hj => by
      obtain rfl : j = 0 := by simpa using hj
      have : (UInt8.ofNat k).toNat = k := by simp; omega
      simp [this, Addr.add])
  go_enter Tryz.func64, Tryz.ntmps64
  go_wp2_with fail
  go_ret
  exact ⟨rfl, (Below.refl _ _).alloc (Nat.le_refl _) _⟩

set_option maxRecDepth 20000 in
theorem below_any : ∀ (m : Nat), m < 9223372036854775808 → ∀ (w : World), Calls Tryz.prog 46 #[.int .i64 (-(m : Int))] w fun e w' => e = .returned (.string (digits m)) ∧ Below w.heap.size w w' := by
  intro m
  induction m using Nat.strongRecOn with
  | _ m ih =>
    intro hm w
    by_cases h10 : m < 10
    · have hd : digits m = oneByte (48 + m) := by unfold digits; rw [if_pos h10]
      have h1 : -10 < -(m : Int) := by omega
      rw [hd]
      go_enter Tryz.func46, Tryz.ntmps46
      go_wp2_with fail
      have hB := byte_any (48 + m) (by omega) w
      rw [show ((48 + m : Nat) : Int) = 48 + (m : Int) by omega] at hB
      refine hB.mono ?_
      rintro e w1 ⟨rfl, hb⟩
      clear hB
      go_wp2_with fail
      go_ret
      exact ⟨rfl, hb⟩
    · have hd : digits m = digits (m / 10) ++ oneByte (48 + m % 10) := by rw [digits, if_neg h10]
      have h1 : ¬ -10 < -(m : Int) := by omega
      have hq : (-(m : Int)).tdiv 10 = -((m / 10 : Nat) : Int) := by rw [Int.neg_tdiv, Int.tdiv_eq_ediv_of_nonneg (by omega)]; omega
      have hr : (-(m : Int)).tmod 10 = -((m % 10 : Nat) : Int) := by rw [Int.neg_tmod, Int.tmod_eq_emod_of_nonneg (by omega)]; omega
      rw [hd]
      go_enter Tryz.func46, Tryz.ntmps46
      go_wp2_with fail
      have hI := ih (m / 10) (by omega) (by omega) w
      rw [show ((m / 10 : Nat) : Int) = (m : Int) / 10 by omega] at hI
      refine hI.mono ?_
      rintro e w1 ⟨rfl, hb⟩
      clear hI ih
      go_wp2_with fail
      have hsz : (digits (m / 10)).size + (oneByte (48 + m % 10)).size ≤ 9223372036854775807 := by
        have := digits_size (m / 10)
        have h1 : (oneByte (48 + m % 10)).size = 1 := rfl
        omega
      have hB := byte_any (48 + m % 10) (by omega) w1
      rw [show ((48 + m % 10 : Nat) : Int) = 48 + (m : Int) % 10 by omega] at hB
      refine hB.mono ?_
      rintro e w2 ⟨rfl, hb2⟩
      clear hB
      go_wp2_with fail
      go_ret
      exact ⟨rfl, below_step hb hb2⟩

set_option maxRecDepth 20000 in
theorem decimal_any (n : Int) (h1 : -9223372036854775808 < n) (h2 : n < 9223372036854775808) (w : World) : Calls Tryz.prog 28 #[.int .i64 n] w fun e w' => e = .returned (.string (decimal n)) ∧ Below w.heap.size w w' := by
  have hI := below_any n.natAbs (by omega) w
  by_cases h0 : n < 0
  · have hd : decimal n = ⟨#[45]⟩ ++ digits n.natAbs := if_pos h0
    rw [hd]
    rw [show -((n.natAbs : Nat) : Int) = n by omega] at hI
    have hsz := digits_size n.natAbs
    have hsz : 1 + (digits n.natAbs).size ≤ 9223372036854775807 := by omega
    generalize digits n.natAbs = s at *
    go_enter Tryz.func28, Tryz.ntmps28
    go_wp2_with fail
    refine hI.mono ?_
    rintro e w1 ⟨rfl, hb⟩
    clear hI
    go_wp2_with fail
    go_ret
    exact ⟨rfl, hb⟩
  · have hd : decimal n = digits n.natAbs := if_neg h0
    rw [hd]
    rw [show -((n.natAbs : Nat) : Int) = -n by omega] at hI
    generalize digits n.natAbs = s at *
    go_enter Tryz.func28, Tryz.ntmps28
    go_wp2_with fail
    refine hI.mono ?_
    rintro e w1 ⟨rfl, hb⟩
    clear hI
    go_wp2_with fail
    go_ret
    exact ⟨rfl, hb⟩

end Go.Proofs.YtcajklfngeafdaaGreatDoor
