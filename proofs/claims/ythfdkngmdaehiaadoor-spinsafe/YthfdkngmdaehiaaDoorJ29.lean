import Derived.Test.YthfdkngmdaehiaaDoorJ28
import Derived.Test.YthfdkngmdaehiaaDoorJ17
import Derived.RegionTactic
import Derived.BigRegion
import Derived.OwnWalk
import Derived.Maps.AppendAt
import Derived.Test.YthfdkngmdaehiaaDoorJ18
import Derived.Lib.QuietBelow
import Derived.Test.YthfdkngmdaehiaaDoorJ21
import Derived.Deep.QuietTactic
import Derived.BigQuiet
import Derived.Test.YthfdkngmdaehiaaDoorJ20

/- MkY -/
namespace Go.Proofs.YthfdkngmdaehiaaDoor
open Go.RowKit Go.Extern.Stop Go.Stop Go.Extern Go.Maps Go.WideMaps Go.Sort

theorem turn_facts (n : Int) (k : Int) (k1 : 1 ≤ k) (k6 : k ≤ 6) (r : Int) (hr : n.tmod (2 * k) = r) : -(2 * k) ≤ r ∧ r < 2 * k ∧ IntKind.i64.wrap r = r ∧ IntKind.i64.wrap (r + 2 * k) = r + 2 * k := by
  have hM := tmod_mod n (show 0 < 2 * k by omega)
  have b1 := Int.emod_nonneg n (show (2 * k) ≠ 0 by omega)
  have b2 := Int.emod_lt_of_pos n (show 0 < 2 * k by omega)
  have b5 := Int.tmod_lt_of_pos n (show 0 < 2 * k by omega)
  rw [hr] at b5
  rw [hr] at hM
  generalize n % (2 * k) = q at *
  by_cases hc : r < 0
  · rw [if_pos hc] at hM
    exact ⟨by omega, by omega, by rw [IntKind.wrap_i64]; omega, by rw [IntKind.wrap_i64]; omega⟩
  · rw [if_neg hc] at hM
    exact ⟨by omega, by omega, by rw [IntKind.wrap_i64]; omega, by rw [IntKind.wrap_i64]; omega⟩

end Go.Proofs.YthfdkngmdaehiaaDoor

/- MkZ -/
namespace Go.Proofs.YthfdkngmdaehiaaDoor
open Go.RowKit Go.Extern.Stop Go.Stop Go.Extern Go.Maps Go.WideMaps Go.Sort

def numsAt (ad : Option Addr) (l : List Int) (w : World) : Prop := ∀ (i : Nat) x, l[i]? = some x → ∃ b off, ad = some ⟨b, off, none⟩ ∧ w.cell? ⟨b, off + i, none⟩ = some (.int .i64 x)
theorem numsAt.turns {S : Nat → Nat → Prop} {ad : Option Addr} {l : List Int} {w w' : World} (h : numsAt ad l w) (t : Turns S w w') (hS : ∀ b off o, ad = some ⟨b, off, none⟩ → ¬ S b o) : numsAt ad l w' := fun i x hx => by
  obtain ⟨b, off, e, hc⟩ := h i x hx
  exact ⟨b, off, e, t.keep hc (hS b off _ e)⟩
theorem numsAt.below {ad : Option Addr} {l : List Int} {w w' : World} (h : numsAt ad l w) (hb : Below w.heap.size w w') : numsAt ad l w' := h.turns (S := fun _ _ => False) (Turns.of_below hb) (fun _ _ _ _ h => h)

theorem runO_count {cs : List (List Ins)} {m : Mk} {l : List Int} {j : Nat} {x : Int} (hx : l[j]? = some x) : (m.runO cs (l.take (j + 1))).1 = (m.runO cs (l.take j)).1 + okN ((m.runO cs (l.take j)).2.turnO cs x).1 := by
  have e : l.take (j + 1) = l.take j ++ [x] := by rw [List.take_add_one, hx]; rfl
  rw [e, Mk.runO_snoc]

end Go.Proofs.YthfdkngmdaehiaaDoor
