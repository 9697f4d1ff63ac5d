import Derived.Test.YtepgcgokolmedaaDoorA12
import Derived.RegionTactic
import Derived.BigRegion
import Derived.OwnWalk
import Derived.Maps.AppendAt
import Derived.Test.YtepgcgokolmedaaDoorA13
import Derived.Lib.QuietBelow
import Derived.Deep.QuietTactic
import Derived.BigQuiet
import Derived.Test.YtepgcgokolmedaaDoorA01
import Derived.Deep.Slices
import Derived.Lib.SmallJoins

/- MkY -/
namespace Go.Proofs.YtepgcgokolmedaaDoor
open Go.RowKit Go.Extern.Stop Go.Stop Go.Extern Go.Maps Go.WideMaps Go.Sort

theorem turn_facts (n : Int) (k : Int) (k1 : 1 ≤ k) (k6 : k ≤ 6) (r : Int) (hr : n.tmod (2 * k) = r) : -(2 * k) ≤ r ∧ r < 2 * k ∧ IntKind.i64.wrap r = r ∧ IntKind.i64.wrap (r + 2 * k) = r + 2 * k := by
  have hM := tmod_mod n (show 0 < 2 * k by omega)
  have b1 := Int.emod_nonneg n (show (2 * k) ≠ 0 by omega)
  have b2 := Int.emod_lt_of_pos n (show 0 < 2 * k by omega)
  have b5 := Int.tmod_lt_of_pos n (show 0 < 2 * k by omega)
  rw [hr] at b5
  rw [hr] at hM
  generalize n % (2 * k) = q at *
  by_cases hc : r < 0
  · rw [if_pos hc] at hM
    exact ⟨by omega, by omega, by rw [IntKind.wrap_i64]; omega, by rw [IntKind.wrap_i64]; omega⟩
  · rw [if_neg hc] at hM
    exact ⟨by omega, by omega, by rw [IntKind.wrap_i64]; omega, by rw [IntKind.wrap_i64]; omega⟩

end Go.Proofs.YtepgcgokolmedaaDoor

/- MkZ -/
namespace Go.Proofs.YtepgcgokolmedaaDoor
open Go.RowKit Go.Extern.Stop Go.Stop Go.Extern Go.Maps Go.WideMaps Go.Sort

def numsAt (ad : Option Addr) (l : List Int) (w : World) : Prop := ∀ (i : Nat) x, l[i]? = some x → ∃ b off, ad = some ⟨b, off, none⟩ ∧ w.cell? ⟨b, off + i, none⟩ = some (.int .i64 x)
theorem numsAt.turns {S : Nat → Nat → Prop} {ad : Option Addr} {l : List Int} {w w' : World} (h : numsAt ad l w) (t : Turns S w w') (hS : ∀ b off o, ad = some ⟨b, off, none⟩ → ¬ S b o) : numsAt ad l w' := fun i x hx => by
  obtain ⟨b, off, e, hc⟩ := h i x hx
  exact ⟨b, off, e, t.keep hc (hS b off _ e)⟩
theorem numsAt.below {ad : Option Addr} {l : List Int} {w w' : World} (h : numsAt ad l w) (hb : Below w.heap.size w w') : numsAt ad l w' := h.turns (S := fun _ _ => False) (Turns.of_below hb) (fun _ _ _ _ h => h)

end Go.Proofs.YtepgcgokolmedaaDoor

/- SpP -/
namespace Go.Proofs.YtepgcgokolmedaaDoor
open Go.ChangeShapes Go.WideShapes Go.ChangeAt Go.RowKit Go.Joins Go.Deep

def twoTexts : List (String × List UInt8) := [("quiescent/api.ErrBound", [113, 117, 105, 101, 115, 99, 101, 110, 116, 58, 32, 98, 111, 117, 110, 100]), ("quiescent/api.ErrName", [113, 117, 105, 101, 115, 99, 101, 110, 116, 58, 32, 110, 97, 109, 101])]
def laidTwo : List (String × DataW Unit) := twoTexts.map sentOf
theorem door_two (os : Os) (args : Array Value) : laidMetH Tryd.prog laidTwo ((World.doorLaid Tryd.prog 400 os).forCall (fun _ _ => 0) ⟨#[], args, []⟩).memory :=
  laidMetH_of_parts3 (fuel := 8) (laidMet_of_run' 8 (by kernel_rfl) (by kernel_rfl)) (by kernel_rfl) (by kernel_rfl)
end Go.Proofs.YtepgcgokolmedaaDoor
