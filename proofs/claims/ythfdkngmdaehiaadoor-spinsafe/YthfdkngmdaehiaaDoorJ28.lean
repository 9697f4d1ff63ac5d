import Derived.Test.YthfdkngmdaehiaaDoorProg
import Derived.Test.YthfdkngmdaehiaaDoorJ12
import Derived.WalkKit
import Derived.Test.YthfdkngmdaehiaaDoorJ01
import Derived.Deep.QuietTactic
import Derived.Maps.Views
import Derived.Maps.OwnSet
import Derived.Test.YthfdkngmdaehiaaDoorJ14
import Derived.Test.YthfdkngmdaehiaaDoorJ11
import Derived.Laws.Rows
import Derived.Test.YthfdkngmdaehiaaDoorJ27
import Derived.Test.YthfdkngmdaehiaaDoorJ16
import Derived.Maps.Own
import Derived.Maps.OwnOps
import Derived.StringKeys
import Derived.Lib.LaidTab

/- PureF -/
namespace Go.Proofs.YthfdkngmdaehiaaDoor
open Go.RowKit Go.Maps

def setD (l : List Ins) : Nat → DataW Unit
  | 0 => .map []
  | j + 1 => match l[j]? with
    | some x => if ((x.op.toList == [108, 97, 98, 101, 108]) && !Maps.has (setD l j) (.string (bl x.to))) = true then (setD l j).put (.string (bl x.to)) (.lit (.int .i64 j)) else setD l j
    | none => setD l j

end Go.Proofs.YthfdkngmdaehiaaDoor

/- MkA -/
namespace Go.Proofs.YthfdkngmdaehiaaDoor
open Go.RowKit Go.Maps Go.WideMaps

structure MkPl where
  B : Nat
  b : Nat
  pb : Nat
  pc : Nat
  mv : Value
def MkPl.marked (p : MkPl) (v : Value) : MkPl := { p with mv := v }
def MkPl.fp (p : MkPl) (k : Nat) : Prop := k = p.b ∨ p.mv.ownBlock = some k

end Go.Proofs.YthfdkngmdaehiaaDoor
