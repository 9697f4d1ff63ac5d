/- quiescentref1.SameInts by a contract: two slices of integers, the same numbers or not; and quiescentlaw1.coded. -/
import Derived.Test.YtcplmpbnelejpaaDoorBase
import Derived.Deep.QuietTactic
import Derived.BigQuiet
namespace Go.Proofs.YtcplmpbnelejpaaDoor
open Go.RowKit Go.Extern.Stop Go.Stop Go.Extern

/-- An error as a number: 0 is nil, k + 1 the k-th sentinel. -/
def errVal (a : Nat → Addr) : Nat → Value
  | 0 => .nilIface
  | k + 1 => errAt (a k)

theorem code_err (a : Nat → Addr) (k : Nat) (hk : k ≤ 9) (w : World) (hE : Env a w) :
    Calls Tryd.prog 8 #[errVal a k] w fun ev w' => ev = .returned (.tuple #[.int .i64 k, .int .i64 (-1)]) ∧ Below w.heap.size w w' := by
  cases k with
  | zero => exact (code_nil w).mono fun _ _ ⟨h, h'⟩ => ⟨h, by rw [h']; exact Below.refl _ _⟩
  | succ k => exact code_sent a k (by omega) w hE

/-- coded of an error that is nil or a sentinel: is its number c? -/
theorem coded_err (a : Nat → Addr) (k : Nat) (hk : k ≤ 9) (c : Int) (w : World) (hE : Env a w) :
    Calls Tryd.prog 9 #[errVal a k, .int .i64 c] w fun ev w' => ev = .returned (.bool (decide ((k : Int) = c))) ∧ Below w.heap.size w w' := by
  by_cases h : (k : Int) = c
  · have hb : ((k : Int) == c) = true := beq_iff_eq.2 h
    rw [decide_eq_true h]
    go_enter Tryd.func9, Tryd.ntmps9
    go_wp2_with fail
    refine (code_err a k hk _ hE).mono ?_
    rintro e0 w1 ⟨rfl, hb1⟩
    subst h
    go_wp2
    go_ret
    exact ⟨rfl, hb1⟩
  · have hb : ((k : Int) == c) = false := beq_eq_false_iff_ne.2 h
    rw [decide_eq_false h]
    go_enter Tryd.func9, Tryd.ntmps9
    go_wp2_with fail
    refine (code_err a k hk _ hE).mono ?_
    rintro e0 w1 ⟨rfl, hb1⟩
    go_wp2
    go_ret
    exact ⟨rfl, hb1⟩

/-- coded of the j-th sentinel, asked for its own number: true. -/
theorem coded_sent (a : Nat → Addr) (j : Nat) (hj : j < 9) (c : Int) (hc : (j : Int) + 1 = c) (w : World) (hE : Env a w) :
    Calls Tryd.prog 9 #[errAt (a j), .int .i64 c] w fun ev w' => ev = .returned (.bool true) ∧ Below w.heap.size w w' := by
  refine (coded_err a (j + 1) (by omega) c w hE).mono fun _ _ ⟨h, h'⟩ => ⟨?_, h'⟩
  rw [h, decide_eq_true (by omega)]

/-- coded of nil, asked for 0: true. -/
theorem coded_nil (a : Nat → Addr) (w : World) (hE : Env a w) :
    Calls Tryd.prog 9 #[.nilIface, .int .i64 0] w fun ev w' => ev = .returned (.bool true) ∧ Below w.heap.size w w' :=
  (coded_err a 0 (by omega) 0 w hE).mono fun _ _ ⟨h, h'⟩ => ⟨h, h'⟩

theorem getD_eq_of_lt (xs : List Int) (j : Nat) (h : j < xs.length) : xs[j]? = some (xs.getD j 0) := by
  rw [List.getD_eq_getElem?_getD, List.getElem?_eq_getElem h]; rfl

theorem Below.drewN' {w : World} (n : Nat) : Below w.heap.size w (w.drewN n) := ⟨rfl, rfl, rfl, Nat.le_refl _, fun _ _ => rfl⟩

set_option maxHeartbeats 1000000 in
/-- Two slices of one length, of the same numbers: true. -/
theorem same_ints (xs : List Int) (p q : Addr) (cp cq : Nat) (w : World) (hl : xs.length ≤ 1000)
    (hx : ∀ j, j < xs.length → w.cell? ⟨p.block, p.off + j, none⟩ = some (.int .i64 (xs.getD j 0))) (hy : ∀ j, j < xs.length → w.cell? ⟨q.block, q.off + j, none⟩ = some (.int .i64 (xs.getD j 0))) (hp : p.spot = none) (hq : q.spot = none) :
    Calls Tryd.prog 7 #[.slice (some p) xs.length cp, .slice (some q) xs.length cq] w fun ev w' => ev = .returned (.bool true) ∧ Below w.heap.size w w' := by
  obtain ⟨pb, po, ps⟩ := p
  obtain ⟨qb, qo, qs⟩ := q
  simp only at hp hq
  subst hp hq
  go_enter Tryd.func7, Tryd.ntmps7
  go_wp2
  go_loopw [5] (fun i wr => Below w.heap.size w wr ∧ ∃ j : Nat, j ≤ xs.length ∧ i = .int .i64 j) (fun i _ => xs.length - (intOf i).toNat)
  case atStart => exact ⟨Below.refl _ _, 0, Nat.zero_le _, rfl⟩
  case round =>
    obtain ⟨hbw, j, hj, rfl⟩ := hrel
    by_cases hlt : j < xs.length
    · have c1 : wr.cell? ⟨pb, po + j, none⟩ = some (.int .i64 (xs.getD j 0)) := by
        have := hx j hlt
        rw [hbw.cell (World.block_lt_of_cell? w _ this)]; exact this
      have c2 : wr.cell? ⟨qb, qo + j, none⟩ = some (.int .i64 (xs.getD j 0)) := by
        have := hy j hlt
        rw [hbw.cell (World.block_lt_of_cell? w _ this)]; exact this
      generalize hv : xs.getD j 0 = v at c1 c2
      clear hv hx hy
      go_wp2
      go_quiet (fail)
      go_wp2
      go_roundw
      case rel => exact ⟨hbw.trans ((Below.drewN' nq).mono hbw.size), j + 1, by omega, by go_num⟩
      case measure => simp [intOf]; omega
    · obtain rfl : j = xs.length := by omega
      go_wp2
      go_ret
      exact ⟨rfl, hbw⟩
end Go.Proofs.YtcplmpbnelejpaaDoor
