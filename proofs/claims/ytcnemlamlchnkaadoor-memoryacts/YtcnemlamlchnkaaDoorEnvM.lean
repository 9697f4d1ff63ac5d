/- Four of the listed errors alone: what packages arena and memory name. -/
import Derived.Test.YtcnemlamlchnkaaDoorBase
namespace Go.Proofs.YtcnemlamlchnkaaDoor
open Go.RowKit

/-- What four of the listed variables hold: ErrBound, ErrNone, ErrFull, ErrStale. -/
structure EnvM (a : Nat → Addr) (w : World) : Prop where
  cell : ∀ i, i = 1 ∨ i = 4 ∨ i = 5 ∨ i = 6 → w.cell? ⟨gid i, 0, none⟩ = some (errAt (a i))

theorem EnvM.glt {a : Nat → Addr} {w : World} (h : EnvM a w) {i : Nat} (hi : i = 1 ∨ i = 4 ∨ i = 5 ∨ i = 6) : gid i < w.heap.size := World.block_lt_of_cell? w _ (h.cell i hi)
theorem EnvM.below {a : Nat → Addr} {w w' : World} (h : EnvM a w) (hb : ∀ k, k < w.heap.size → w'.heap[k]? = w.heap[k]?) : EnvM a w' where
  cell i hi := by rw [World.cell?_of_block (w := w) (hb _ (h.glt hi))]; exact h.cell i hi
theorem Env.toM {a : Nat → Addr} {w : World} (h : Env a w) : EnvM a w := ⟨fun i hi => h.cell i (by omega)⟩
end Go.Proofs.YtcnemlamlchnkaaDoor
