/- quiescentref1.SameInts by a contract: two slices of integers of the same numbers. -/
import Derived.Test.YtcnemlamlchnkaaDoorInts
namespace Go.Proofs.YtcnemlamlchnkaaDoor
open Go.RowKit Go.Extern.Stop Go.Stop Go.Extern

set_option maxHeartbeats 1000000 in
/-- Two slices of one length, of the same numbers: true. -/
theorem same_ints (xs : List Int) (p q : Addr) (cp cq : Nat) (w : World) (hl : xs.length ≤ 1000)
    (hx : ∀ j, j < xs.length → w.cell? ⟨p.block, p.off + j, none⟩ = some (.int .i64 (xs.getD j 0))) (hy : ∀ j, j < xs.length → w.cell? ⟨q.block, q.off + j, none⟩ = some (.int .i64 (xs.getD j 0))) (hp : p.spot = none) (hq : q.spot = none) :
    Calls Tryd.prog 9 #[.slice (some p) xs.length cp, .slice (some q) xs.length cq] w fun ev w' => ev = .returned (.bool true) ∧ Below w.heap.size w w' := by
  obtain ⟨pb, po, ps⟩ := p
  obtain ⟨qb, qo, qs⟩ := q
  simp only at hp hq
  subst hp hq
  go_enter Tryd.func9, Tryd.ntmps9
  go_wp2
  go_loopw [5] (fun i wr => Below w.heap.size w wr ∧ ∃ j : Nat, j ≤ xs.length ∧ i = .int .i64 j) (fun i _ => xs.length - (intOf i).toNat)
  case atStart => exact ⟨Below.refl _ _, 0, Nat.zero_le _, rfl⟩
  case round =>
    obtain ⟨hbw, j, hj, rfl⟩ := hrel
    by_cases hlt : j < xs.length
    · have c1 : wr.cell? ⟨pb, po + j, none⟩ = some (.int .i64 (xs.getD j 0)) := by
        have := hx j hlt
        rw [hbw.cell (World.block_lt_of_cell? w _ this)]; exact this
      have c2 : wr.cell? ⟨qb, qo + j, none⟩ = some (.int .i64 (xs.getD j 0)) := by
        have := hy j hlt
        rw [hbw.cell (World.block_lt_of_cell? w _ this)]; exact this
      generalize hv : xs.getD j 0 = v at c1 c2
      clear hv hx hy
      go_wp2
      go_quiet (fail)
      go_wp2
      go_roundw
      case rel => exact ⟨hbw.trans ((Below.drewN' nq).mono hbw.size), j + 1, by omega, by go_num⟩
      case measure => simp [intOf]; omega
    · obtain rfl : j = xs.length := by omega
      go_wp2
      go_ret
      exact ⟨rfl, hbw⟩
end Go.Proofs.YtcnemlamlchnkaaDoor
