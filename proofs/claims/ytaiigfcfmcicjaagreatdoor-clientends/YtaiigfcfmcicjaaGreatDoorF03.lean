import Derived.Test.YtaiigfcfmcicjaaGreatDoorF02
import Derived.Test.YtaiigfcfmcicjaaGreatDoorF01
import Derived.RegionTactic
import Derived.BigRegion
namespace Go.Proofs.YtaiigfcfmcicjaaGreatDoor
set_option maxRecDepth 100000
set_option maxHeartbeats 8000000
section
open Go.RowKit Go.Extern.Stop Go.Stop Go.Extern
structure Ar where
 size : Nat
 words : Nat -> Nat -> Int
 there : Nat -> Bool
 given : Nat -> Nat
def Ar.has (s : Ar) (c g : Int) : Bool := decide (0 <= c /\ c < s.size) && s.there c.toNat && (g == (s.given c.toNat : Int) - 1)
def Ar.at (s : Ar) (c g k : Int) : Nat := if s.has c g = false then 7 else if 0 <= k /\ k < 4 then 0 else 2
theorem box_below (c g : Int) (w : World) : Below w.heap.size w (w.alloc (.cells #[.int .i64 c, .int .i64 g] 50)) := bRf.alloc nL _
def Ar.setThere (s : Ar) (c : Nat) (t : Bool) : Ar := { s with there := fun j => if j = c then t else s.there j }
def Ar.setWord (s : Ar) (c k : Nat) (v : Int) : Ar := { s with words := fun j i => if j = c /\ i = k then v else s.words j i }
theorem Ar.has_lt {s : Ar} {c g : Int} (h : s.has c g = true) : ∃ n : Nat, c = n /\ n < s.size /\ s.there n = true /\ g = (s.given n : Int) - 1 := by
 simp only [Ar.has, Bool.and_eq_true, decide_eq_true_eq, beq_iff_eq] at h
 obtain ⟨⟨⟨h0, h1⟩, h2⟩, h3⟩ := h
 obtain ⟨n, rfl⟩ := Int.eq_ofNat_of_zero_le h0
 exact ⟨n, rfl, by omega, h2, h3⟩
theorem Ar.at_ok {s : Ar} {c g k : Int} (h : s.has c g = true) (hk : 0 <= k /\ k < 4) : s.at c g k = 0 := by unfold Ar.at; rw [if_neg (by rw [h]; decide), if_pos hk]
def Ar.countTo (s : Ar) (i : Nat) : Nat := ((List.range i).filter s.there).length
def Ar.count (s : Ar) : Nat := s.countTo s.size
theorem Ar.countTo_succ (s : Ar) (i : Nat) : s.countTo (i + 1) = s.countTo i + if s.there i = true then 1 else 0 := by
 unfold Ar.countTo
 rw [List.range_succ, List.filter_append, List.length_append]
 cases h : s.there i <;> simp [h]
theorem Ar.countTo_le (s : Ar) (i : Nat) : s.countTo i <= i := by
 unfold Ar.countTo
 have := List.length_filter_le s.there (List.range i)
 rw [List.length_range] at this; exact this
def Ar.give (s : Ar) (c : Nat) : Ar := { s with words := fun j i => if j = c /\ i < 4 then 0 else s.words j i, there := fun j => if j = c then true else s.there j, given := fun j => if j = c then s.given c + 1 else s.given j }
def Ar.setGiven (s : Ar) (c : Nat) (g : Nat) : Ar := { s with given := fun j => if j = c then g else s.given j }
theorem isWordR_any (k : Int) (w : World) :
  Calls Tryz.prog 45 #[.int .i64 k] w fun e w' => e = .returned (.bool (decide (0 <= k /\ k < 4294967296))) /\ w' = w := by
 by_cases h1 : 0 <= k
 ·by_cases h2 : k < 4294967296
  ·rw [decide_eq_true ⟨h1, h2⟩]
   go_enter Tryz.func45, Tryz.ntmps45
   go_wp2
   go_ret
   exact ⟨rfl, rfl⟩
  ·rw [decide_eq_false (fun h => h2 h.2)]
   go_enter Tryz.func45, Tryz.ntmps45
   go_wp2
   go_ret
   exact ⟨rfl, rfl⟩
 ·rw [decide_eq_false (fun h => h1 h.1)]
  go_enter Tryz.func45, Tryz.ntmps45
  go_wp2
  go_ret
  exact ⟨rfl, rfl⟩
end
end Go.Proofs.YtaiigfcfmcicjaaGreatDoor
