import Derived.Test.YtaiigfcfmcicjaaGreatDoorProg
import Derived.WalkKit
import Derived.LaidEql
import Derived.Stop.Asserts
import Derived.RowKitTokens
import Derived.Test.YtaiigfcfmcicjaaGreatDoorE02
import Derived.Below
import Derived.Outline
import Derived.Deep.QuietTactic
import Derived.BigQuiet
namespace Go.Proofs.YtaiigfcfmcicjaaGreatDoor
set_option maxRecDepth 100000
set_option maxHeartbeats 8000000
section
open Go.RowKit Go.Extern.Stop Go.Stop Go.Extern
def gid : Nat -> Nat
 | 0 => 0 | 1 => 1 | 2 => 2 | 3 => 3 | 4 => 4
 | 5 => 5 | 6 => 6 | 7 => 7 | _ => 8
abbrev errAt (a : Addr) : Value := .iface 227 (.pointer (some a))
end
section
open Go.RowKit Go.Extern.Stop Go.Stop Go.Extern
def errVal (a : Nat -> Addr) : Nat -> Value
 | 0 => .nilIface
 | k + 1 => errAt (a k)
end
section
open Go.RowKit Go.Extern.Stop Go.Stop Go.Extern
structure Ar where
 size : Nat
 words : Nat -> Nat -> Int
 there : Nat -> Bool
 given : Nat -> Nat
def Ar.has (s : Ar) (c g : Int) : Bool := decide (0 <= c /\ c < s.size) && s.there c.toNat && (g == (s.given c.toNat : Int) - 1)
def Ar.at (s : Ar) (c g k : Int) : Nat := if s.has c g = false then 7 else if 0 <= k /\ k < 4 then 0 else 2
theorem box_below (c g : Int) (w : World) : Below w.heap.size w (w.alloc (.cells #[.int .i64 c, .int .i64 g] 50)) := bRf.alloc nL _
end
end Go.Proofs.YtaiigfcfmcicjaaGreatDoor
