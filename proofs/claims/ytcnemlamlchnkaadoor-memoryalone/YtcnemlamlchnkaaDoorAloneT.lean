/- The law MemoryAlone at whatever acts. -/
import Derived.Test.YtcnemlamlchnkaaDoorAloneW
namespace Go.Proofs.YtcnemlamlchnkaaDoor
open Go.RowKit Go.Extern.Stop Go.Stop Go.Extern

set_option maxRecDepth 20000 in
/-- More acts than are looked at. -/
theorem alone_long (a : Nat → Addr) (ad : Option Addr) (cap len : Nat) (w : World) (hE : EnvM a w) (h : 100 < len) :
    Calls Tryd.prog 7 #[.slice ad len cap] w fun e w' => e = .returned (.bool true) ∧ Below w.heap.size w w' := by
  have hi : 100 < (len : Int) := by omega
  go_enter Tryd.func7, Tryd.ntmps7
  go_wp2_with fail
  refine (waits_any a _ hE).mono ?_
  rintro e0 w0 ⟨rfl, hb0⟩
  go_wp2
  go_ret
  exact ⟨rfl, hb0⟩

theorem alone_top (a : Nat → Addr) (ad : Option Addr) (cap : Nat) (l : List MAct) (w : World) (hE : EnvM a w) (hl : mactsAt ad l w) :
    Calls Tryd.prog 7 #[.slice ad l.length cap] w fun e w' => e = .returned (.bool true) ∧ Below w.heap.size w w' := by
  by_cases h : 100 < l.length
  · exact alone_long a ad cap l.length w hE h
  · exact alone_any a ad cap l w hE (by omega) hl
end Go.Proofs.YtcnemlamlchnkaaDoor
