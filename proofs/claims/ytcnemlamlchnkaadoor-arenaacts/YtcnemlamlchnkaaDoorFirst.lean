/- The first line of package arena's laws, by a contract. -/
import Derived.Test.YtcnemlamlchnkaaDoorArenaD
namespace Go.Proofs.YtcnemlamlchnkaaDoor
open Go.RowKit Go.Extern.Stop Go.Stop Go.Extern

/-- The law's first: a cell of a new arena. -/
theorem first_any (w : World) :
    Calls Tryd.prog 13 #[] w fun e w' => e = .returned (.bool true) ∧ Below w.heap.size w w' := by
  have N := new_ok 2 w (by decide) (by decide)
  have HN : Hid (Calls Tryd.prog 18 #[.int .i64 2] w fun e w' => e = .returned (.tuple #[.pointer (some ⟨w.heap.size, 0, none⟩), .nilIface]) ∧ ArAt w.heap.size 0 ⟨2, fun _ _ => 0, fun _ => false, fun _ => 0⟩ w' ∧ Below w.heap.size w w') := N
  clear N
  go_enter Tryd.func13, Tryd.ntmps13
  go_wp2_with fail
  refine HN.out.mono ?_
  rintro e1 w1 ⟨rfl, h1, hb1⟩
  clear HN
  go_wp2_with fail
  refine (alloc_some w.heap.size 0 _ 0 _ h1 (by decide) (fun j hj => absurd hj (by omega)) rfl (by decide)).mono ?_
  rintro e2 w2 ⟨rfl, h2, t2⟩
  go_wp2_with fail
  refine (count_any w.heap.size 0 _ _ (h2.alloc _)).mono ?_
  rintro e3 w3 ⟨rfl, rfl⟩
  go_wp2
  go_ret
  refine ⟨rfl, ?_⟩
  exact (hb1.trans (t2.below hb1.size (fun k o hk h => by have := h.1; omega))).alloc (Nat.le_trans hb1.size t2.size) _
end Go.Proofs.YtcnemlamlchnkaaDoor
