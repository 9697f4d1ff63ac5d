/- The law's closed fact 'waits': a store waits. -/
import Derived.Test.YtcnemlamlchnkaaDoorMactA
namespace Go.Proofs.YtcnemlamlchnkaaDoor
open Go.RowKit Go.Extern.Stop Go.Stop Go.Extern

set_option maxRecDepth 20000 in
set_option maxHeartbeats 2000000 in
theorem waits_any (a : Nat → Addr) (w : World) (hE : EnvM a w) :
    Calls Tryd.prog 31 #[] w fun e w' => e = .returned (.bool true) ∧ Below w.heap.size w w' := by
  have HN : Hid (Calls Tryd.prog 32 #[.int .i64 1, .int .i64 2] w fun e w' => e = .returned (.tuple #[.pointer (some ⟨w.heap.size + 1, 0, none⟩), .nilIface]) ∧ MmAt (w.heap.size + 1) (Rm.fresh 1 2) w' ∧ Below w.heap.size w w') := mnew_ok 1 2 w (by decide) (by decide) (by decide) (by decide)
  have HA : Hid (∀ w', MmAt (w.heap.size + 1) (Rm.fresh 1 2) w' → Calls Tryd.prog 33 #[.pointer (some ⟨w.heap.size + 1, 0, none⟩), .int .i64 0] w' fun e w'' => e = .returned (.tuple #[.agg #[.int .i64 0, .int .i64 0], .nilIface]) ∧ MmStep (w.heap.size + 1) w' ((Rm.fresh 1 2).give 0) w'') := fun w' h =>
    malloc_some (w.heap.size + 1) (Rm.fresh 1 2) 0 0 w' h (by decide) (by decide) (fun j hj => absurd hj (Nat.not_lt_zero j)) rfl (by show 0 + 1 < 4611686018427387904; decide)
  generalize hs1 : (Rm.fresh 1 2).give 0 = s1 at *
  have hth : s1.threads = 2 := by rw [← hs1]; rfl
  have hhas : s1.ar.has 0 0 = true := by rw [← hs1]; rfl
  have hw0 : s1.waits 0 = [] := by rw [← hs1]; rfl
  have hw1 : s1.waits 1 = [] := by rw [← hs1]; rfl
  have hwd : s1.ar.words 0 1 = 0 := by rw [← hs1]; rfl
  have HS : Hid (∀ w', EnvM a w' → MmAt (w.heap.size + 1) s1 w' → Calls Tryd.prog 34 #[.pointer (some ⟨w.heap.size + 1, 0, none⟩), .int .i64 0, .agg #[.int .i64 0, .int .i64 0], .int .i64 1, .int .i64 5] w' fun e w'' => e = .returned .nilIface ∧ MmStep (w.heap.size + 1) w' (s1.setWaits 0 [⟨0, 0, 1, 5⟩]) w'') := fun w' hE h => by
    have := mstore_ok a (w.heap.size + 1) s1 0 0 0 1 5 w' hE h (by omega) (by rw [Rm.may_yes (by omega)]; exact Ar.chk_one_ok hhas (by decide) (by decide)) (by rw [hw0]; decide)
    rw [hw0] at this
    exact this
  generalize hs2 : s1.setWaits 0 [⟨0, 0, 1, 5⟩] = s2 at *
  have hth2 : s2.threads = 2 := by rw [← hs2]; exact hth
  have h20 : s2.waits 0 = [⟨0, 0, 1, 5⟩] := by rw [← hs2]; rfl
  have h21 : s2.waits 1 = [] := by rw [← hs2]; exact hw1
  have hhas2 : s2.ar.has 0 0 = true := by rw [← hs2]; exact hhas
  have hwd2 : s2.ar.words 0 1 = 0 := by rw [← hs2]; exact hwd
  have HL0 : Hid (∀ w', EnvM a w' → MmAt (w.heap.size + 1) s2 w' → Calls Tryd.prog 37 #[.pointer (some ⟨w.heap.size + 1, 0, none⟩), .int .i64 0, .agg #[.int .i64 0, .int .i64 0], .int .i64 1] w' fun e w'' => e = .returned (.tuple #[.int .i64 5, .nilIface]) ∧ Below w'.heap.size w' w'') := fun w' hE h => by
    have := mload_ok a (w.heap.size + 1) s2 0 0 1 0 w' hE h (by omega) (by decide) hhas2 (by decide)
    rw [h20] at this
    exact this
  have HL1 : Hid (∀ w', EnvM a w' → MmAt (w.heap.size + 1) s2 w' → Calls Tryd.prog 37 #[.pointer (some ⟨w.heap.size + 1, 0, none⟩), .int .i64 1, .agg #[.int .i64 0, .int .i64 0], .int .i64 1] w' fun e w'' => e = .returned (.tuple #[.int .i64 0, .nilIface]) ∧ Below w'.heap.size w' w'') := fun w' hE h => by
    have := mload_ok a (w.heap.size + 1) s2 1 0 1 0 w' hE h (by omega) (by decide) hhas2 (by decide)
    rw [h21, hwd2] at this
    exact this
  have HW : Hid (∀ w', MmAt (w.heap.size + 1) s2 w' → Calls Tryd.prog 35 #[.pointer (some ⟨w.heap.size + 1, 0, none⟩), .int .i64 0] w' fun e w'' => e = .returned (.int .i64 1) ∧ w'' = w') := fun w' h => by
    have := waiting_any (w.heap.size + 1) s2 0 w' h
    have e : s2.waiting 0 = 1 := by unfold Rm.waiting; rw [hth2]; simp [h20]
    rw [e] at this
    exact this
  clear hs1 hs2 hth hhas hw0 hw1 hwd hth2 h20 h21 hhas2 hwd2
  go_enter Tryd.func31, Tryd.ntmps31
  go_wp2_with fail
  refine HN.out.mono ?_
  rintro e0 w1 ⟨rfl, hm1, hb1⟩
  have H1 : Hid (MmAt (w.heap.size + 1) (Rm.fresh 1 2) w1) := hm1
  clear HN hm1
  go_wp2_with fail
  refine (HA.out _ H1.out).mono ?_
  rintro e1 w2 ⟨rfl, hm2⟩
  have b2 : Below w.heap.size w (w2.alloc (.cells #[.int .i64 0, .int .i64 0] 36)) := (hb1.trans (hm2.turns.below hb1.size (fun i _ hi e => by omega))).alloc (hb1.trans (hm2.turns.below hb1.size (fun i _ hi e => by omega))).size _
  have H2 : Hid (MmAt (w.heap.size + 1) s1 (w2.alloc (.cells #[.int .i64 0, .int .i64 0] 36))) := hide (hm2.at'.alloc _)
  have y0 : (w2.alloc (.cells #[.int .i64 0, .int .i64 0] 36)).cell? ⟨w2.heap.size, 0, none⟩ = some (.int .i64 0) := by simp
  have y1 : (w2.alloc (.cells #[.int .i64 0, .int .i64 0] 36)).cell? ⟨w2.heap.size, 1, none⟩ = some (.int .i64 0) := by simp
  have lb : w.heap.size + 1 ≠ w2.heap.size := Nat.ne_of_lt hm2.at'.lt
  clear HA H1 hb1 hm2
  go_wp2_with fail
  refine (HS.out _ (hE.below b2.block) H2.out).mono ?_
  rintro e2 w3 ⟨rfl, hm3⟩
  have b3 := b2.trans (hm3.turns.below b2.size (fun i _ hi e => by omega))
  have H3 : Hid (MmAt (w.heap.size + 1) s2 w3) := hide hm3.at'
  replace y0 := hm3.turns.keep y0 (fun e => lb e.symm)
  replace y1 := hm3.turns.keep y1 (fun e => lb e.symm)
  clear HS H2 b2 hm3
  go_wp2_with fail
  refine (HL0.out _ (hE.below b3.block) H3.out).mono ?_
  rintro e3 w4 ⟨rfl, hb4⟩
  have b4 := below_step b3 hb4
  have H4 : Hid (MmAt (w.heap.size + 1) s2 w4) := hide (H3.out.below hb4)
  replace y0 := keep_cell hb4 y0
  replace y1 := keep_cell hb4 y1
  clear HL0 H3 b3 hb4
  go_wp2_with fail
  refine (HL1.out _ (hE.below b4.block) H4.out).mono ?_
  rintro e4 w5 ⟨rfl, hb5⟩
  have b5 := below_step b4 hb5
  have H5 : Hid (MmAt (w.heap.size + 1) s2 w5) := hide (H4.out.below hb5)
  clear HL1 H4 b4 hb5 y0 y1
  go_wp2_with fail
  refine (HW.out _ H5.out).mono ?_
  rintro e5 w6 ⟨rfl, rfl⟩
  go_wp2
  go_ret
  exact ⟨rfl, b5⟩
end Go.Proofs.YtcnemlamlchnkaaDoor
