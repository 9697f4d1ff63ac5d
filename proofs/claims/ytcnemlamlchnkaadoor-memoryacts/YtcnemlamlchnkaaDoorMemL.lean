/- Package memory by contracts: exchange, Swap, Cas. -/
import Derived.Test.YtcnemlamlchnkaaDoorMemK
namespace Go.Proofs.YtcnemlamlchnkaaDoor
open Go.RowKit Go.Extern.Stop Go.Stop Go.Extern Go.Sort

theorem swap1_any (was v : Int) (vb : Nat) (w : World) (hv : w.cell? ⟨vb, 0, none⟩ = some (.int .i64 v)) :
    Calls Tryd.prog 70 #[.int .i64 was, .pointer (some ⟨vb, 0, none⟩)] w fun e w' => e = .returned (.int .i64 v) ∧ w' = w := by
  go_enter Tryd.func70, Tryd.ntmps70
  go_wp2
  go_ret
  exact ⟨rfl, rfl⟩

/-- What a cas leaves. -/
def casVal (was old v : Int) : Int := if was = old then v else was

theorem cas1_any (was old v : Int) (ob vb : Nat) (w : World) (ho : w.cell? ⟨ob, 0, none⟩ = some (.int .i64 old)) (hv : w.cell? ⟨vb, 0, none⟩ = some (.int .i64 v)) :
    Calls Tryd.prog 71 #[.int .i64 was, .pointer (some ⟨ob, 0, none⟩), .pointer (some ⟨vb, 0, none⟩)] w fun e w' => e = .returned (.int .i64 (casVal was old v)) ∧ w' = w := by
  by_cases h : was = old
  · have hb : (was == old) = true := beq_iff_eq.2 h
    have hc : casVal was old v = v := if_pos h
    rw [hc]
    clear h hc
    go_enter Tryd.func71, Tryd.ntmps71
    go_wp2
    go_ret
    exact ⟨rfl, rfl⟩
  · have hb : (was == old) = false := beq_eq_false_iff_ne.2 h
    have hc : casVal was old v = was := if_neg h
    rw [hc]
    clear h hc
    go_enter Tryd.func71, Tryd.ntmps71
    go_wp2
    go_ret
    exact ⟨rfl, rfl⟩

set_option maxRecDepth 20000 in
set_option maxHeartbeats 1000000 in
/-- exchange, by Swap's function. -/
theorem xswap_any (a : Nat → Addr) (B b : Nat) (s : Rm) (n m : Nat) (g v : Int) (vb : Nat) (w : World) (hE : EnvB a B w) (h : MmAt b s w) (hn : n < 64) (hh : s.ar.has n g = true) (hm : m < 4) (hv : 0 ≤ v ∧ v < 4294967296) (hc : w.cell? ⟨vb, 0, none⟩ = some (.int .i64 v)) :
    Calls Tryd.prog 69 #[.pointer (some ⟨b, 0, none⟩), .agg #[.int .i64 n, .int .i64 g], .int .i64 m, .func (.func 70) #[] #[.pointer (some ⟨vb, 0, none⟩)]] w fun e w' => e = .returned (.tuple #[.int .i64 (s.ar.words n m), .nilIface]) ∧ MmStep b w (s.setWord n m v) w' := by
  have hba := box_below n g w
  have HL : Hid (∀ w', Below w.heap.size w w' → Calls Tryd.prog 22 #[.pointer (some ⟨b, 0, none⟩), .agg #[.int .i64 n, .int .i64 g], .int .i64 m] w' fun e w'' => e = .returned (.tuple #[.int .i64 (s.ar.words n m), .nilIface]) ∧ Below w'.heap.size w' w'') := fun w' hb => load_yes a b 0 s.ar n m g w' (hE.env.below hb.block) (h.ar.below hb) hn hh hm
  have HS : Hid (∀ w', Below w.heap.size w w' → Calls Tryd.prog 20 #[.pointer (some ⟨b, 0, none⟩), .agg #[.int .i64 n, .int .i64 g], .int .i64 m, .int .i64 v] w' fun e w'' => e = .returned .nilIface ∧ MmStep b w (s.setWord n m v) w'') := fun w' hb =>
    (store_yes a b 0 s.ar n m g v w' (hE.env.below hb.block) (h.ar.below hb) hn hh hm hv).mono fun _ _ ⟨e1, e2, e3⟩ => ⟨e1, MmStep.of_below hb ((h.below hb).arena e2 e3)⟩
  have q0 : (w.alloc (.cells #[.int .i64 n, .int .i64 g] 36)).cell? ⟨w.heap.size, 0, none⟩ = some (.int .i64 n) := by simp
  have q1 : (w.alloc (.cells #[.int .i64 n, .int .i64 g] 36)).cell? ⟨w.heap.size, 1, none⟩ = some (.int .i64 g) := by simp
  generalize s.ar.words n m = was at *
  clear h hh hE hv
  go_enter Tryd.func69, Tryd.ntmps69
  go_wp2_with fail
  generalize hw : w.alloc (.cells #[.int .i64 n, .int .i64 g] 36) = w1 at *
  have HCF : Hid (∀ d os, Calls Tryd.prog 22 #[.pointer (some ⟨b, 0, none⟩), .agg #[.int .i64 n, .int .i64 g], .int .i64 m] (grow (redrawn w1 d) os) fun e w'' => e = .returned (.tuple #[.int .i64 was, .nilIface]) ∧ ∃ p : Regrown, w'' = grow (redrawn w1 p.d) p.os) := fun d os =>
    Calls.regrown_of (HL.out _ (below_step hba (below_regrown w1 d os)))
  have d0 := cell_regrown q0
  have d1 := cell_regrown q1
  clear HL hw
  refine wp_region_quiet_below (by kernel_rfl) (by kernel_rfl) ?_
  repeat (first
    | go_big_quiet_step (exact HCF.out _ _)
    | quiet_step (exact HCF.out _ _))
  refine wpQuiet_nil ?_
  intro _ hw'
  obtain ⟨⟨dq, osq⟩, hw''⟩ := hw'
  subst hw''
  have B3 := below_step hba (below_regrown w1 dq osq)
  have e0 := d0 dq osq
  have e1 := d1 dq osq
  clear HCF d0 d1 q0 q1
  generalize grow (redrawn w1 dq) osq = w3 at B3 e0 e1 ⊢
  have hc3 := keep_cell B3 hc
  have HA : Hid (∀ k, Calls Tryd.prog 20 #[.pointer (some ⟨b, 0, none⟩), .agg #[.int .i64 n, .int .i64 g], .int .i64 m, .int .i64 v] (w3.drewN k) fun e w'' => e = .returned .nilIface ∧ MmStep b w (s.setWord n m v) w'') := fun k => HS.out _ (below_dN B3 k)
  have HN : Hid (∀ k, Calls Tryd.prog 70 #[.int .i64 was, .pointer (some ⟨vb, 0, none⟩)] (w3.drewN k) fun e w'' => e = .returned (.int .i64 v) ∧ w'' = w3.drewN k) := fun k => swap1_any was v vb _ hc3
  clear HS hc
  go_wp2_with fail
  go_region_with (first
    | (go_at_call 70; refine (HN.out 1).mono ?_; rintro e3 w5 ⟨rfl, rfl⟩)
    | (go_at_call 20; refine (HA.out 1).mono ?_; rintro e4 w4 ⟨rfl, H4⟩))
  all_goals
    go_wp2
    go_ret2
    exact ⟨rfl, H4⟩
end Go.Proofs.YtcnemlamlchnkaaDoor
