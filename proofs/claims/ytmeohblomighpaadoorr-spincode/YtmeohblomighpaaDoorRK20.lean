import Derived.Deep.RegionHeld3
import Derived.StillTail
import Derived.Tactics
import Derived.Test.YtmeohblomighpaaDoorRK19
import Derived.Test.YtmeohblomighpaaDoorRK16
import Derived.RegionTactic
import Derived.BigRegion
import Derived.OwnWalk
import Derived.Maps.AppendAt
import Derived.Test.YtmeohblomighpaaDoorRK07
import Derived.Lib.QuietBelow
import Derived.Deep.QuietTactic
import Derived.BigQuiet
import Derived.Test.YtmeohblomighpaaDoorRK17

/- RegF -/
namespace Go.Proofs.YtmeohblomighpaaDoorR
open Go

section
variable {P : Program} {ops : Array Oper} {Q : Exit → Act → World → Prop} {md : Region.Mode} {S : World → Prop}

structure ShutL (md : Region.Mode) (ops : Array Oper) (listed : Array Bool) : Prop where
  out : ∀ k i, k < ops.size → i < ops.size → Region.waitsFor md ops k i = true → listed.getD k true = true → listed.getD i false = true
theorem getD_set_self {listed : Array Bool} {j k : Nat} (h : (listed.setIfInBounds j true).getD k true = true) (hne : j ≠ k) : listed.getD k true = true := by
  rwa [getD_set_ne true hne] at h
theorem ShutL.set {listed : Array Bool} {j : Nat} (h : ShutL md ops listed) (hj : j ∈ Region.ready md ops listed) : ShutL md ops (listed.setIfInBounds j true) := ⟨fun k i hk hi hw hl => by
  by_cases e : j = k
  · subst e
    obtain ⟨-, o, ho, hall⟩ := mem_ready.1 hj
    obtain ⟨o', ho', e, he, hb, hon⟩ := Region.waitsFor_spec hw
    obtain rfl : o' = o := Option.some.inj (ho'.symm.trans ho)
    have := hall e he hb
    rw [hon] at this
    exact getD_set_true this
  · exact getD_set_true (h.out k i hk hi hw (getD_set_self hl e))⟩

end
end Go.Proofs.YtmeohblomighpaaDoorR

/- MkZ -/
namespace Go.Proofs.YtmeohblomighpaaDoorR
open Go.RowKit Go.Extern.Stop Go.Stop Go.Extern Go.Maps Go.WideMaps Go.Sort

def numsAt (ad : Option Addr) (l : List Int) (w : World) : Prop := ∀ (i : Nat) x, l[i]? = some x → ∃ b off, ad = some ⟨b, off, none⟩ ∧ w.cell? ⟨b, off + i, none⟩ = some (.int .i64 x)
theorem numsAt.turns {S : Nat → Nat → Prop} {ad : Option Addr} {l : List Int} {w w' : World} (h : numsAt ad l w) (t : Turns S w w') (hS : ∀ b off o, ad = some ⟨b, off, none⟩ → ¬ S b o) : numsAt ad l w' := fun i x hx => by
  obtain ⟨b, off, e, hc⟩ := h i x hx
  exact ⟨b, off, e, t.keep hc (hS b off _ e)⟩
theorem numsAt.below {ad : Option Addr} {l : List Int} {w w' : World} (h : numsAt ad l w) (hb : Below w.heap.size w w') : numsAt ad l w' := h.turns (S := fun _ _ => False) (Turns.of_below hb) (fun _ _ _ _ h => h)

end Go.Proofs.YtmeohblomighpaaDoorR
