import Derived.Test.YtnngbdoegchlmaaDoorA05
import Derived.BigQuiet
import Derived.Deep.OwnRows
import Derived.Maps.AppendAt

/- RefC -/
namespace Go.Proofs.YtnngbdoegchlmaaDoor
open Go.RowKit

def Rm.setThere (s : Rm) (c : Nat) (t : Bool) : Rm := { s with ar := s.ar.setThere c t }
def Rm.setWord (s : Rm) (c k : Nat) (v : Int) : Rm := { s with ar := s.ar.setWord c k v }
def Rm.setGiven (s : Rm) (c g : Nat) : Rm := { s with ar := s.ar.setGiven c g }
def Ar.zero (s : Ar) (c : Nat) : Ar := { s with words := fun j k => if j = c ∧ k < 4 then 0 else s.words j k }
def Rm.zero (s : Rm) (c : Nat) : Rm := { s with ar := s.ar.zero c }
def Rm.give (s : Rm) (c : Nat) : Rm := { s with ar := s.ar.give c }
theorem Rm.give_eq (s : Rm) (c : Nat) : ((s.zero c).setGiven c (s.ar.given c + 1)).setThere c true = s.give c := rfl

end Go.Proofs.YtnngbdoegchlmaaDoor

/- RefE -/
namespace Go.Proofs.YtnngbdoegchlmaaDoor
open Go.RowKit Go.Extern.Stop Go.Stop Go.Extern

theorem heap_new (w : World) (o : Obj) : (w.alloc o).heap[w.heap.size]? = some o := by show (w.heap.push o)[w.heap.size]? = _; simp
end Go.Proofs.YtnngbdoegchlmaaDoor

/- RefF -/
namespace Go.Proofs.YtnngbdoegchlmaaDoor
open Go.RowKit

def Rm.setWaits (s : Rm) (t : Nat) (l : List Wt) : Rm := { s with waits := fun u => if u = t then l else s.waits u }
end Go.Proofs.YtnngbdoegchlmaaDoor
