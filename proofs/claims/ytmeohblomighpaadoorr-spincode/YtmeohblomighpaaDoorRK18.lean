import Derived.Test.YtmeohblomighpaaDoorRProg
import Derived.Test.YtmeohblomighpaaDoorRK04
import Derived.WalkKit
import Derived.Test.YtmeohblomighpaaDoorRK01
import Derived.Deep.QuietTactic
import Derived.Maps.Views
import Derived.Maps.OwnSet
import Derived.Test.YtmeohblomighpaaDoorRK03

/- PureF -/
namespace Go.Proofs.YtmeohblomighpaaDoorR
open Go.RowKit Go.Maps

def setD (l : List Ins) : Nat → DataW Unit
  | 0 => .map []
  | j + 1 => match l[j]? with
    | some x => if ((x.op.toList == [108, 97, 98, 101, 108]) && !Maps.has (setD l j) (.string (bl x.to))) = true then (setD l j).put (.string (bl x.to)) (.lit (.int .i64 j)) else setD l j
    | none => setD l j

end Go.Proofs.YtmeohblomighpaaDoorR

/- CodeI -/
namespace Go.Proofs.YtmeohblomighpaaDoorR
open Go.RowKit Go.Extern.Stop Go.Stop Go.Extern

def insAt (ad : Option Addr) (l : List Ins) (w : World) : Prop := ∀ i x, l[i]? = some x → ∃ b off, ad = some ⟨b, off, none⟩ ∧
  w.cell? ⟨b, off + i * 5, none⟩ = some (.string x.op) ∧ w.cell? ⟨b, off + i * 5 + 1, none⟩ = some (.int .i64 x.a) ∧ w.cell? ⟨b, off + i * 5 + 2, none⟩ = some (.int .i64 x.b) ∧
  w.cell? ⟨b, off + i * 5 + 3, none⟩ = some (.int .i64 x.c) ∧ w.cell? ⟨b, off + i * 5 + 4, none⟩ = some (.string x.to)

theorem insAt_below {ad : Option Addr} {l : List Ins} {w w' : World} (h : insAt ad l w) (k : Below w.heap.size w w') : insAt ad l w' := fun i x hx => by
  obtain ⟨b, off, e, h0, h1, h2, h3, h4⟩ := h i x hx
  exact ⟨b, off, e, keep_cell k h0, keep_cell k h1, keep_cell k h2, keep_cell k h3, keep_cell k h4⟩
end Go.Proofs.YtmeohblomighpaaDoorR
