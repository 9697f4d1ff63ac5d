/- The law MemoryActs at whatever numbers and acts. -/
import Derived.Test.YtcnemlamlchnkaaDoorMactsW
namespace Go.Proofs.YtcnemlamlchnkaaDoor
open Go.RowKit Go.Extern.Stop Go.Stop Go.Extern

set_option maxRecDepth 20000 in
/-- More acts than are looked at. -/
theorem macts_long (a : Nat → Addr) (cells threads : Int) (ad : Option Addr) (cap len : Nat) (w : World) (hE : Env a w) (h : 100 < len) :
    Calls Tryd.prog 8 #[.int .i64 cells, .int .i64 threads, .slice ad len cap] w fun e w' => e = .returned (.bool true) ∧ Below w.heap.size w w' := by
  have hi : 100 < (len : Int) := by omega
  go_enter Tryd.func8, Tryd.ntmps8
  go_wp2_with fail
  refine (waits_any a _ hE.toM).mono ?_
  rintro e0 w0 ⟨rfl, hb0⟩
  go_wp2
  go_ret
  exact ⟨rfl, hb0⟩

theorem mnew_bad (a : Nat → Addr) (c t : Int) (w : World) (hE : EnvM a w) (h : ¬ ((1 ≤ c ∧ c ≤ 64) ∧ (1 ≤ t ∧ t ≤ 6))) :
    Calls Tryd.prog 32 #[.int .i64 c, .int .i64 t] w fun e w' => e = .returned (.tuple #[.pointer none, errAt (a 1)]) ∧ Below w.heap.size w w' := by
  by_cases hc : 1 ≤ c ∧ c ≤ 64
  · obtain ⟨n, rfl⟩ := Int.eq_ofNat_of_zero_le (show 0 ≤ c by omega)
    exact mnew_threads a n t w hE (by omega) (by omega) (fun ht => h ⟨hc, ht⟩)
  · exact mnew_cells a c t w hE hc

set_option maxRecDepth 20000 in
/-- Numbers that no memory has. -/
theorem macts_bad (a : Nat → Addr) (cells threads : Int) (ad : Option Addr) (cap len : Nat) (w : World) (hE : Env a w) (h : ¬ 100 < len) (hc : ¬ ((1 ≤ cells ∧ cells ≤ 64) ∧ (1 ≤ threads ∧ threads ≤ 6))) :
    Calls Tryd.prog 8 #[.int .i64 cells, .int .i64 threads, .slice ad len cap] w fun e w' => e = .returned (.bool true) ∧ Below w.heap.size w w' := by
  have hi : ¬ 100 < (len : Int) := by omega
  have HN : Hid (∀ w', Env a w' → Calls Tryd.prog 32 #[.int .i64 cells, .int .i64 threads] w' fun e w'' => e = .returned (.tuple #[.pointer none, errAt (a 1)]) ∧ Below w'.heap.size w' w'') := fun w' hE => mnew_bad a cells threads w' hE.toM hc
  have hor : cells < 1 ∨ (¬ cells < 1 ∧ 64 < cells) ∨ (¬ cells < 1 ∧ ¬ 64 < cells ∧ threads < 1) ∨ (¬ cells < 1 ∧ ¬ 64 < cells ∧ ¬ threads < 1 ∧ 6 < threads) := by omega
  clear hc
  rcases hor with h1 | ⟨h1, h2⟩ | ⟨h1, h2, h3⟩ | ⟨h1, h2, h3, h4⟩
  all_goals
    go_enter Tryd.func8, Tryd.ntmps8
    go_wp2_with fail
    refine (waits_any a _ hE.toM).mono ?_
    rintro e0 w0 ⟨rfl, hb0⟩
    go_wp2_with fail
    refine (HN.out _ (hE.below hb0.block)).mono ?_
    rintro e1 w1 ⟨rfl, hb1⟩
    have B1 := below_step hb0 hb1
    go_wp2_with fail
    refine (coded_sent a 1 (by decide) 2 (by decide) _ (hE.below B1.block)).mono ?_
    rintro e2 w2 ⟨rfl, hb2⟩
    have B2 := below_step B1 hb2
    go_wp2
    go_ret
    exact ⟨rfl, B2⟩

theorem macts_top (a : Nat → Addr) (cells threads : Int) (ad : Option Addr) (cap : Nat) (l : List MAct) (w : World) (hE : Env a w) (hl : mactsAt ad l w) :
    Calls Tryd.prog 8 #[.int .i64 cells, .int .i64 threads, .slice ad l.length cap] w fun e w' => e = .returned (.bool true) ∧ Below w.heap.size w w' := by
  by_cases h : 100 < l.length
  · exact macts_long a cells threads ad cap l.length w hE h
  · by_cases hc : (1 ≤ cells ∧ cells ≤ 64) ∧ (1 ≤ threads ∧ threads ≤ 6)
    · obtain ⟨c, rfl⟩ := Int.eq_ofNat_of_zero_le (show 0 ≤ cells by omega)
      obtain ⟨t, rfl⟩ := Int.eq_ofNat_of_zero_le (show 0 ≤ threads by omega)
      exact macts_any a c t ad cap l w hE (by omega) (by omega) (by omega) (by omega) (by omega) hl
    · exact macts_bad a cells threads ad cap l.length w hE h hc
end Go.Proofs.YtcnemlamlchnkaaDoor
