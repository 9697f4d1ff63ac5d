/- An error as a number; quiescentlaw1.coded by contracts. -/
import Derived.Test.YtcnemlamlchnkaaDoorBase
import Derived.Test.YtcnemlamlchnkaaDoorFrame
import Derived.Deep.QuietTactic
import Derived.BigQuiet
namespace Go.Proofs.YtcnemlamlchnkaaDoor
open Go.RowKit Go.Extern.Stop Go.Stop Go.Extern

/-- An error as a number: 0 is nil, k + 1 the k-th sentinel. -/
def errVal (a : Nat → Addr) : Nat → Value
  | 0 => .nilIface
  | k + 1 => errAt (a k)

theorem code_err (a : Nat → Addr) (k : Nat) (hk : k ≤ 9) (w : World) (hE : Env a w) :
    Calls Tryd.prog 10 #[errVal a k] w fun ev w' => ev = .returned (.tuple #[.int .i64 k, .int .i64 (-1)]) ∧ Below w.heap.size w w' := by
  cases k with
  | zero => exact (code_nil w).mono fun _ _ ⟨h, h'⟩ => ⟨h, by rw [h']; exact Below.refl _ _⟩
  | succ k => exact code_sent a k (by omega) w hE

/-- coded of an error that is nil or a sentinel: is its number c? -/
theorem coded_err (a : Nat → Addr) (k : Nat) (hk : k ≤ 9) (c : Int) (w : World) (hE : Env a w) :
    Calls Tryd.prog 11 #[errVal a k, .int .i64 c] w fun ev w' => ev = .returned (.bool (decide ((k : Int) = c))) ∧ Below w.heap.size w w' := by
  by_cases h : (k : Int) = c
  · have hb : ((k : Int) == c) = true := beq_iff_eq.2 h
    rw [decide_eq_true h]
    go_enter Tryd.func11, Tryd.ntmps11
    go_wp2_with fail
    refine (code_err a k hk _ hE).mono ?_
    rintro e0 w1 ⟨rfl, hb1⟩
    subst h
    go_wp2
    go_ret
    exact ⟨rfl, hb1⟩
  · have hb : ((k : Int) == c) = false := beq_eq_false_iff_ne.2 h
    rw [decide_eq_false h]
    go_enter Tryd.func11, Tryd.ntmps11
    go_wp2_with fail
    refine (code_err a k hk _ hE).mono ?_
    rintro e0 w1 ⟨rfl, hb1⟩
    go_wp2
    go_ret
    exact ⟨rfl, hb1⟩

/-- coded of the j-th sentinel, asked for its own number: true. -/
theorem coded_sent (a : Nat → Addr) (j : Nat) (hj : j < 9) (c : Int) (hc : (j : Int) + 1 = c) (w : World) (hE : Env a w) :
    Calls Tryd.prog 11 #[errAt (a j), .int .i64 c] w fun ev w' => ev = .returned (.bool true) ∧ Below w.heap.size w w' := by
  refine (coded_err a (j + 1) (by omega) c w hE).mono fun _ _ ⟨h, h'⟩ => ⟨?_, h'⟩
  rw [h, decide_eq_true (by omega)]

/-- coded of nil, asked for 0: true. -/
theorem coded_nil (a : Nat → Addr) (w : World) (hE : Env a w) :
    Calls Tryd.prog 11 #[.nilIface, .int .i64 0] w fun ev w' => ev = .returned (.bool true) ∧ Below w.heap.size w w' :=
  (coded_err a 0 (by omega) 0 w hE).mono fun _ _ ⟨h, h'⟩ => ⟨h, h'⟩

theorem coded_same (a : Nat → Addr) (k : Nat) (hk : k ≤ 9) (w : World) (hE : Env a w) :
    Calls Tryd.prog 11 #[errVal a k, .int .i64 k] w fun ev w' => ev = .returned (.bool true) ∧ Below w.heap.size w w' :=
  (coded_err a k hk k w hE).mono fun _ _ ⟨h, h'⟩ => ⟨by rw [h, decide_eq_true rfl], h'⟩
end Go.Proofs.YtcnemlamlchnkaaDoor
