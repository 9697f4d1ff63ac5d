/- The law ArenaStale at whatever two numbers. -/
import Derived.Test.YtcnemlamlchnkaaDoorStaleW
namespace Go.Proofs.YtcnemlamlchnkaaDoor
open Go.RowKit Go.Extern.Stop Go.Stop Go.Extern

theorem stale_out (cells times : Int) (w : World) (h : ¬ (1 ≤ cells ∧ cells ≤ 64 ∧ 0 ≤ times ∧ times ≤ 60)) :
    Calls Tryd.prog 5 #[.int .i64 cells, .int .i64 times] w fun e w' => e = .returned (.bool true) ∧ Below w.heap.size w w' := by
  by_cases h1 : cells < 1
  · clear h
    go_enter Tryd.func5, Tryd.ntmps5
    go_wp2_with fail
    refine (first_any _).mono ?_
    rintro e0 w0 ⟨rfl, hb0⟩
    go_wp2
    go_ret
    exact ⟨rfl, hb0⟩
  by_cases h2 : 64 < cells
  · clear h
    go_enter Tryd.func5, Tryd.ntmps5
    go_wp2_with fail
    refine (first_any _).mono ?_
    rintro e0 w0 ⟨rfl, hb0⟩
    go_wp2
    go_ret
    exact ⟨rfl, hb0⟩
  by_cases h3 : times < 0
  · clear h
    go_enter Tryd.func5, Tryd.ntmps5
    go_wp2_with fail
    refine (first_any _).mono ?_
    rintro e0 w0 ⟨rfl, hb0⟩
    go_wp2
    go_ret
    exact ⟨rfl, hb0⟩
  have h4 : 60 < times := by omega
  clear h
  go_enter Tryd.func5, Tryd.ntmps5
  go_wp2_with fail
  refine (first_any _).mono ?_
  rintro e0 w0 ⟨rfl, hb0⟩
  go_wp2
  go_ret
  exact ⟨rfl, hb0⟩

theorem stale_top (a : Nat → Addr) (cells times : Int) (w : World) (hE : Env a w) :
    Calls Tryd.prog 5 #[.int .i64 cells, .int .i64 times] w fun e w' => e = .returned (.bool true) ∧ Below w.heap.size w w' := by
  by_cases h : 1 ≤ cells ∧ cells ≤ 64 ∧ 0 ≤ times ∧ times ≤ 60
  · obtain ⟨h1, h2, h3, h4⟩ := h
    obtain ⟨c, rfl⟩ := Int.eq_ofNat_of_zero_le (show 0 ≤ cells by omega)
    obtain ⟨t, rfl⟩ := Int.eq_ofNat_of_zero_le h3
    exact stale_any a c t w hE (by omega) (by omega) (by omega)
  · exact stale_out cells times w h
end Go.Proofs.YtcnemlamlchnkaaDoor
