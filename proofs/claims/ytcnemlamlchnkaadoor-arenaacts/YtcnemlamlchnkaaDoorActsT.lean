/- The law ArenaActs at whatever number and acts. -/
import Derived.Test.YtcnemlamlchnkaaDoorActsW
namespace Go.Proofs.YtcnemlamlchnkaaDoor
open Go.RowKit Go.Extern.Stop Go.Stop Go.Extern

set_option maxRecDepth 8000 in
/-- More acts than are looked at. -/
theorem acts_long (cells : Int) (ad : Option Addr) (cap len : Nat) (w : World) (h : 100 < len) :
    Calls Tryd.prog 6 #[.int .i64 cells, .slice ad len cap] w fun e w' => e = .returned (.bool true) ∧ Below w.heap.size w w' := by
  have hi : 100 < (len : Int) := by omega
  go_enter Tryd.func6, Tryd.ntmps6
  go_wp2_with fail
  refine (first_any _).mono ?_
  rintro e0 w0 ⟨rfl, hb0⟩
  go_wp2
  go_ret
  exact ⟨rfl, hb0⟩

set_option maxRecDepth 8000 in
/-- A number of cells that no arena has. -/
theorem acts_bad (a : Nat → Addr) (cells : Int) (ad : Option Addr) (cap len : Nat) (w : World) (hE : Env a w) (h : ¬ 100 < len) (hc : ¬ (1 ≤ cells ∧ cells ≤ 64)) :
    Calls Tryd.prog 6 #[.int .i64 cells, .slice ad len cap] w fun e w' => e = .returned (.bool true) ∧ Below w.heap.size w w' := by
  have hi : ¬ 100 < (len : Int) := by omega
  have HN : Hid (∀ w', Env a w' → Calls Tryd.prog 18 #[.int .i64 cells] w' fun e w'' => e = .returned (.tuple #[.pointer none, errAt (a 1)]) ∧ Below w'.heap.size w' w'') := fun w' hE => new_bad a cells w' hE.toM hc
  by_cases h1 : cells < 1
  · clear hc
    go_enter Tryd.func6, Tryd.ntmps6
    go_wp2_with fail
    refine (first_any _).mono ?_
    rintro e0 w0 ⟨rfl, hb0⟩
    go_wp2_with fail
    refine (HN.out _ (hE.below hb0.block)).mono ?_
    rintro e1 w1 ⟨rfl, hb1⟩
    have B1 := below_step hb0 hb1
    go_wp2_with fail
    refine (coded_sent a 1 (by decide) 2 (by decide) _ (hE.below B1.block)).mono ?_
    rintro e2 w2 ⟨rfl, hb2⟩
    have B2 := below_step B1 hb2
    go_wp2
    go_ret
    exact ⟨rfl, B2⟩
  · have h2 : 64 < cells := by omega
    clear hc
    go_enter Tryd.func6, Tryd.ntmps6
    go_wp2_with fail
    refine (first_any _).mono ?_
    rintro e0 w0 ⟨rfl, hb0⟩
    go_wp2_with fail
    refine (HN.out _ (hE.below hb0.block)).mono ?_
    rintro e1 w1 ⟨rfl, hb1⟩
    have B1 := below_step hb0 hb1
    go_wp2_with fail
    refine (coded_sent a 1 (by decide) 2 (by decide) _ (hE.below B1.block)).mono ?_
    rintro e2 w2 ⟨rfl, hb2⟩
    have B2 := below_step B1 hb2
    go_wp2
    go_ret
    exact ⟨rfl, B2⟩

theorem acts_top (a : Nat → Addr) (cells : Int) (ad : Option Addr) (cap : Nat) (l : List CAct) (w : World) (hE : Env a w) (hl : actsAt ad l w) :
    Calls Tryd.prog 6 #[.int .i64 cells, .slice ad l.length cap] w fun e w' => e = .returned (.bool true) ∧ Below w.heap.size w w' := by
  by_cases h : 100 < l.length
  · exact acts_long cells ad cap l.length w h
  · by_cases hc : 1 ≤ cells ∧ cells ≤ 64
    · obtain ⟨c, rfl⟩ := Int.eq_ofNat_of_zero_le (show 0 ≤ cells by omega)
      exact acts_any a c ad cap l w hE (by omega) (by omega) (by omega) hl
    · exact acts_bad a cells ad cap l.length w hE h hc
end Go.Proofs.YtcnemlamlchnkaaDoor
