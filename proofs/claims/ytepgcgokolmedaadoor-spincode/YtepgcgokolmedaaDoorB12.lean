import Derived.Test.YtepgcgokolmedaaDoorB11
import Derived.Test.YtepgcgokolmedaaDoorProg
import Derived.Test.YtepgcgokolmedaaDoorB03
import Derived.WalkKit
import Derived.Test.YtepgcgokolmedaaDoorB01
import Derived.Deep.QuietTactic
import Derived.Maps.Views
import Derived.Maps.OwnSet
import Derived.Test.YtepgcgokolmedaaDoorB02

/- StA -/
namespace Go.Proofs.YtepgcgokolmedaaDoor
open Go.RowKit

structure Sta where
  cells : Int
  init : List (List Int)
  regs : List (List Int)

def wordOk (x : Int) : Bool := decide (0 ≤ x ∧ x < 4294967296)
def rowOk (longest : Nat) (row : List Int) : Bool := decide (row.length ≤ longest) && row.all wordOk
def rowsOk (longest : Nat) (R : List (List Int)) : Bool := R.all (rowOk longest)
noncomputable def codesFrom : Nat → List (List Ins) → Nat × Int
  | _, [] => (0, -1)
  | i, L :: cs => if (codeFault L).1 = 0 then codesFrom (i + 1) cs else ((codeFault L).1, i)
def Sta.fits (s : Sta) (n : Nat) : Bool := (decide ((s.init.length : Int) ≤ s.cells) && rowsOk 4 s.init) && (decide (s.regs.length ≤ n) && rowsOk 8 s.regs)
open Classical in
noncomputable def Sta.fault (s : Sta) (cs : List (List Ins)) : Nat × Int :=
  if 1 ≤ s.cells ∧ s.cells ≤ 64 ∧ 1 ≤ cs.length ∧ cs.length ≤ 6 ∧ s.fits cs.length = true then codesFrom 0 cs else (2, -1)

end Go.Proofs.YtepgcgokolmedaaDoor

/- PureF -/
namespace Go.Proofs.YtepgcgokolmedaaDoor
open Go.RowKit Go.Maps

def setD (l : List Ins) : Nat → DataW Unit
  | 0 => .map []
  | j + 1 => match l[j]? with
    | some x => if ((x.op.toList == [108, 97, 98, 101, 108]) && !Maps.has (setD l j) (.string (bl x.to))) = true then (setD l j).put (.string (bl x.to)) (.lit (.int .i64 j)) else setD l j
    | none => setD l j

end Go.Proofs.YtepgcgokolmedaaDoor

/- CodeI -/
namespace Go.Proofs.YtepgcgokolmedaaDoor
open Go.RowKit Go.Extern.Stop Go.Stop Go.Extern

def insAt (ad : Option Addr) (l : List Ins) (w : World) : Prop := ∀ i x, l[i]? = some x → ∃ b off, ad = some ⟨b, off, none⟩ ∧
  w.cell? ⟨b, off + i * 5, none⟩ = some (.string x.op) ∧ w.cell? ⟨b, off + i * 5 + 1, none⟩ = some (.int .i64 x.a) ∧ w.cell? ⟨b, off + i * 5 + 2, none⟩ = some (.int .i64 x.b) ∧
  w.cell? ⟨b, off + i * 5 + 3, none⟩ = some (.int .i64 x.c) ∧ w.cell? ⟨b, off + i * 5 + 4, none⟩ = some (.string x.to)

theorem insAt_below {ad : Option Addr} {l : List Ins} {w w' : World} (h : insAt ad l w) (k : Below w.heap.size w w') : insAt ad l w' := fun i x hx => by
  obtain ⟨b, off, e, h0, h1, h2, h3, h4⟩ := h i x hx
  exact ⟨b, off, e, keep_cell k h0, keep_cell k h1, keep_cell k h2, keep_cell k h3, keep_cell k h4⟩
end Go.Proofs.YtepgcgokolmedaaDoor
