import Derived.Test.YtdpmnlbnlnmjbaaGreatDoorK32
import Derived.Test.YtdpmnlbnlnmjbaaGreatDoorK13
import Derived.Test.YtdpmnlbnlnmjbaaGreatDoorK20
import Derived.Test.YtdpmnlbnlnmjbaaGreatDoorK25
import Derived.Lib.QuietBelow
import Derived.Test.YtdpmnlbnlnmjbaaGreatDoorK28
import Derived.Test.YtdpmnlbnlnmjbaaGreatDoorK02

/- RkB -/
namespace Go.Proofs.YtdpmnlbnlnmjbaaGreatDoor
open Go.RowKit Go.Extern.Stop Go.Stop Go.Extern Go.Sort

theorem lt_of_get {α : Type} {l : List α} {i : Nat} {x : α} (h : l[i]? = some x) : i < l.length := (List.getElem?_eq_some_iff.1 h).1

set_option maxRecDepth 20000 in
theorem rdone_end {cs : List (List Ins)} {p : RkPl} {m : Mk} {t : Nat} {L : List Ins} (ht : cs[t]? = some L) (hp : L.length ≤ m.pc t) {w : World} (h : RkAt cs p m w) :
    Calls Tryz.prog 51 #[.pointer (some ⟨p.k, 0, none⟩), .int .i64 t] w fun e w' => e = .returned (.bool true) ∧ Below w.heap.size w w' := by
  have hlt := lt_of_get ht
  have h6 := h.few
  have hT := h.mT
  have hA := h.tAt t hlt
  have hC := h.tCode t L ht
  have hcap := h.tcap
  have hcc := h.ccap t L ht
  have ti : (t : Int) < cs.length := by omega
  have hd : decide ((L.length : Int) ≤ m.pc t) = true := by simp; omega
  clear h ht
  go_enter Tryz.func51, Tryz.ntmps51
  go_wp2_with fail
  go_quiet (fail)
  go_wp2
  go_ret
  exact ⟨rfl, Below.drewN' _⟩

set_option maxRecDepth 20000 in
theorem rdone_at {cs : List (List Ins)} {p : RkPl} {m : Mk} {t : Nat} {L : List Ins} {x : Ins} (ht : cs[t]? = some L) (hp : L[m.pc t]? = some x) {w : World} (h : RkAt cs p m w) :
    Calls Tryz.prog 51 #[.pointer (some ⟨p.k, 0, none⟩), .int .i64 t] w fun e w' => e = .returned (.bool (x.op.toList == [115, 116, 111, 112])) ∧ Below w.heap.size w w' := by
  have hlt := lt_of_get ht
  have h6 := h.few
  have hT := h.mT
  have hA := h.tAt t hlt
  have hC := h.tCode t L ht
  have hcap := h.tcap
  have hcc := h.ccap t L ht
  have ti : (t : Int) < cs.length := by omega
  obtain ⟨b, off, had, a0, -, -, -, -⟩ := h.rc.code ht (m.pc t) x hp
  rw [had] at hC
  have hpl := lt_of_get hp
  have hd : decide ((L.length : Int) ≤ m.pc t) = false := by simp; omega
  have hdn : decide (L.length ≤ m.pc t) = false := by simp; omega
  have pi : (m.pc t : Int) < L.length := by omega
  clear h ht hp
  go_enter Tryz.func51, Tryz.ntmps51
  go_wp2_with fail
  go_quiet (fail)
  go_wp2
  go_ret
  exact ⟨rfl, Below.drewN' _⟩

theorem RkAt.fault1 {cs : List (List Ins)} {p : RkPl} {m : Mk} {w : World} (h : RkAt cs p m w) : RkStep cs p m.mem w p.rp p.mv (m.addFault 1) (w.setCell ⟨p.k, 3, none⟩ (.int .i64 ((m.faults : Int) + 1))) := h.addFault 1

set_option maxRecDepth 20000 in
set_option maxHeartbeats 1000000 in
theorem rnames_yes {cs : List (List Ins)} {p : RkPl} {m : Mk} {n : Int} (hn : Wd n) {w : World} (h : RkAt cs p m w) (hy : m.names n = true) :
    Calls Tryz.prog 56 #[.pointer (some ⟨p.k, 0, none⟩), .int .i64 n] w fun e w' => e = .returned (.tuple #[.agg #[.int .i64 (cellOf n), .int .i64 (genOf n)], .bool true]) ∧ Below w.heap.size w w' := by
  obtain ⟨hz, hh⟩ := (Bool.and_eq_true _ _).mp hy
  have hn0 : n ≠ 0 := by simpa using hz
  have h1 : 1 ≤ n := by have := hn.1; omega
  have HR : Hid (∀ w', Calls Tryz.prog 87 #[.int .i64 n] w' fun e w'' => e = .returned (.tuple #[.agg #[.int .i64 (cellOf n), .int .i64 (genOf n)], .int .i64 0]) ∧ Below w'.heap.size w' w'') := fun w' => refOf_ok n w' h1 hn.2
  have HH : Hid (∀ w', Below w.heap.size w w' → Calls Tryz.prog 88 #[.pointer (some ⟨p.rp.mb, 0, none⟩), .agg #[.int .i64 (cellOf n), .int .i64 (genOf n)]] w' fun e w'' => e = .returned (.bool true) ∧ Below w'.heap.size w' w'') := fun w' hb => by
    have := here_any p.rp m.mem (cellOf n) (genOf n) w' (h.below hb).mem
    rwa [hh] at this
  have hM := h.mM
  clear hy hz hh hn h
  generalize cellOf n = c at *
  generalize genOf n = g at *
  have hba : Below w.heap.size w (w.alloc (.cells #[.int .i64 0, .int .i64 0] 95)) := box_below 0 0 w
  have z0 : (w.alloc (.cells #[.int .i64 0, .int .i64 0] 95)).cell? ⟨w.heap.size, 0, none⟩ = some (.int .i64 0) := by simp
  have z1 : (w.alloc (.cells #[.int .i64 0, .int .i64 0] 95)).cell? ⟨w.heap.size, 1, none⟩ = some (.int .i64 0) := by simp
  have y0 : (w.alloc (.cells #[.int .i64 0, .int .i64 0] 95)).frozen? ⟨w.heap.size, 0, none⟩ = false := by simp
  have y1 : (w.alloc (.cells #[.int .i64 0, .int .i64 0] 95)).frozen? ⟨w.heap.size, 1, none⟩ = false := by simp
  have hM1 := keep_cell hba hM
  generalize hw : w.alloc (.cells #[.int .i64 0, .int .i64 0] 95) = w1 at *
  go_enter Tryz.func56, Tryz.ntmps56
  go_wp2_with fail
  refine (HR.out _).mono ?_
  rintro e w2 ⟨rfl, hb2⟩
  have hzl : w.heap.size < w1.heap.size := World.block_lt_of_cell? _ _ z0
  obtain ⟨W3, hW3⟩ : ∃ W3, W3 = w2.alloc (.cells #[.int .i64 c, .int .i64 g] 95) := ⟨_, rfl⟩
  have hb3 : Below w1.heap.size w1 W3 := by rw [hW3]; exact hb2.alloc hb2.size _
  have q0 : W3.cell? ⟨w2.heap.size, 0, none⟩ = some (.int .i64 c) := by rw [hW3]; simp
  have q1 : W3.cell? ⟨w2.heap.size, 1, none⟩ = some (.int .i64 g) := by rw [hW3]; simp
  have r0 := keep_cell hb3 z0
  have r1 := keep_cell hb3 z1
  have x0 : W3.frozen? ⟨w.heap.size, 0, none⟩ = false := by rw [hb3.frozen hzl]; exact y0
  have x1 : W3.frozen? ⟨w.heap.size, 1, none⟩ = false := by rw [hb3.frozen hzl]; exact y1
  have hM3 := keep_cell hb3 hM1
  have B3 := below_step hba hb3
  have l3 : w.heap.size < W3.heap.size := World.block_lt_of_cell? _ _ r0
  clear z0 z1 y0 y1 hM hM1 hw HR hb3
  go_wp2_with fail
  rw [← hW3]
  clear hW3 hb2 hzl
  have HCF : Hid (∀ d os, Calls Tryz.prog 88 #[.pointer (some ⟨p.rp.mb, 0, none⟩), .agg #[.int .i64 c, .int .i64 g]] (grow (redrawn W3 d) os) fun e w'' => e = .returned (.bool true) ∧ ∃ p : Regrown, w'' = grow (redrawn W3 p.d) p.os) := fun d os =>
    Calls.regrown_of (HH.out _ (below_step B3 (below_regrown W3 d os)))
  have d0 := cell_regrown q0
  have d1 := cell_regrown q1
  have dM := cell_regrown hM3
  clear HH
  go_wp2_with fail
  refine wp_region_quiet_below (by kernel_rfl) (by kernel_rfl) ?_
  repeat (first
    | go_big_quiet_step (exact HCF.out _ _)
    | quiet_step (exact HCF.out _ _))
  refine wpQuiet_nil ?_
  intro _ hw'
  obtain ⟨⟨dq, osq⟩, hw''⟩ := hw'
  subst hw''
  have hb4 := below_regrown W3 dq osq
  have B4 := below_step B3 hb4
  have e0 := d0 dq osq
  have e1 := d1 dq osq
  replace r0 := keep_cell hb4 r0
  replace r1 := keep_cell hb4 r1
  have x0' : (grow (redrawn W3 dq) osq).frozen? ⟨w.heap.size, 0, none⟩ = false := by rw [hb4.frozen l3]; exact x0
  have x1' : (grow (redrawn W3 dq) osq).frozen? ⟨w.heap.size, 1, none⟩ = false := by rw [hb4.frozen l3]; exact x1
  clear HCF d0 d1 dM q0 q1 x0 x1 hM3 B3 hb4 l3
  generalize grow (redrawn W3 dq) osq = w4 at *
  go_wp2
  refine bodyPost_ret (v := .tuple #[.agg #[.int .i64 c, .int .i64 g], .bool true]) (by simp only [results, Tryz.results56]; go_simp) rfl ⟨rfl, ?_⟩
  exact (B4.setCell (Nat.le_refl _) _).setCell (Nat.le_refl _) _
end Go.Proofs.YtdpmnlbnlnmjbaaGreatDoor

/- RsB -/
namespace Go.Proofs.YtdpmnlbnlnmjbaaGreatDoor
open Go.RowKit Go.Extern.Stop Go.Stop Go.Extern Go.Maps Go.WideMaps Go.Sort

theorem kpeek_of {b : Nat} {w : World} {c g k v : Int} {r : Value}
    (HL : Hid (∀ w', Below w.heap.size w w' → Calls Tryz.prog 81 #[.pointer (some ⟨b, 0, none⟩), .agg #[.int .i64 c, .int .i64 g], .int .i64 k] w' fun e w'' => e = .returned (.tuple #[.int .i64 v, r]) ∧ Below w'.heap.size w' w'')) :
    Calls Tryz.prog 52 #[.pointer (some ⟨b, 0, none⟩), .agg #[.int .i64 c, .int .i64 g], .int .i64 k] w fun e w' => e = .returned (.tuple #[.int .i64 v, r]) ∧ Below w.heap.size w w' := by
  have hba := box_below c g w
  have q0 : (w.alloc (.cells #[.int .i64 c, .int .i64 g] 95)).cell? ⟨w.heap.size, 0, none⟩ = some (.int .i64 c) := by simp
  have q1 : (w.alloc (.cells #[.int .i64 c, .int .i64 g] 95)).cell? ⟨w.heap.size, 1, none⟩ = some (.int .i64 g) := by simp
  go_enter Tryz.func52, Tryz.ntmps52
  go_wp2_with fail
  generalize w.alloc (.cells #[.int .i64 c, .int .i64 g] 95) = w1 at *
  have HCF : Hid (∀ d os, Calls Tryz.prog 81 #[.pointer (some ⟨b, 0, none⟩), .agg #[.int .i64 c, .int .i64 g], .int .i64 k] (grow (redrawn w1 d) os) fun e w'' => e = .returned (.tuple #[.int .i64 v, r]) ∧ ∃ p : Regrown, w'' = grow (redrawn w1 p.d) p.os) := fun d os =>
    Calls.regrown_of (HL.out _ (below_step hba (below_regrown w1 d os)))
  have d0 := cell_regrown q0
  have d1 := cell_regrown q1
  clear HL
  refine wp_region_quiet_below (by kernel_rfl) (by kernel_rfl) ?_
  repeat (first
    | go_big_quiet_step (exact HCF.out _ _)
    | quiet_step (exact HCF.out _ _))
  refine wpQuiet_nil ?_
  intro _ hw'
  obtain ⟨⟨dq, osq⟩, hw''⟩ := hw'
  subst hw''
  have B4 := below_step hba (below_regrown w1 dq osq)
  clear HCF d0 d1 q0 q1
  generalize grow (redrawn w1 dq) osq = w4 at B4 ⊢
  go_wp2
  go_ret2
  exact ⟨rfl, B4⟩

theorem kpeek_err {a : Nat → Addr} {cs : List (List Ins)} {p : MkPl} {m : Mk} {w : World} (h : MkAt a cs p m w) {c g k : Int} (he : m.mem.ar.at c g k ≠ 0) :
    Calls Tryz.prog 52 #[.pointer (some ⟨p.b, 0, none⟩), .agg #[.int .i64 c, .int .i64 g], .int .i64 k] w fun e w' => e = .returned (.tuple #[.int .i64 0, errVal a (m.mem.ar.at c g k)]) ∧ Below w.heap.size w w' :=
  kpeek_of (fun w' hb => mpeek_err a p.b m.mem c g k w' (h.below hb).env.toM (h.below hb).mem he)
theorem kpeek_ok {a : Nat → Addr} {cs : List (List Ins)} {p : MkPl} {m : Mk} {w : World} (h : MkAt a cs p m w) {n k : Nat} {g : Int} (hn : n < 64) (hh : m.mem.ar.has n g = true) (hk : k < 4) :
    Calls Tryz.prog 52 #[.pointer (some ⟨p.b, 0, none⟩), .agg #[.int .i64 n, .int .i64 g], .int .i64 k] w fun e w' => e = .returned (.tuple #[.int .i64 (m.mem.ar.words n k), .nilIface]) ∧ Below w.heap.size w w' :=
  kpeek_of (fun w' hb => mpeek_ok a p.b m.mem n k g w' (h.below hb).env.toM (h.below hb).mem hn hh hk)

end Go.Proofs.YtdpmnlbnlnmjbaaGreatDoor

/- RsD -/
namespace Go.Proofs.YtdpmnlbnlnmjbaaGreatDoor
open Go.RowKit Go.Extern.Stop Go.Stop Go.Extern Go.Maps Go.WideMaps Go.Sort

theorem rdone_anyB {cs : List (List Ins)} {p : RkPl} {m : Mk} {t : Nat} {L : List Ins} (ht : cs[t]? = some L) {w : World} (h : RkAt cs p m w) :
    Calls Tryz.prog 51 #[.pointer (some ⟨p.k, 0, none⟩), .int .i64 t] w fun e w' => e = .returned (.bool (doneAt L (m.pc t))) ∧ Below w.heap.size w w' := by
  unfold doneAt
  cases hx : L[m.pc t]? with
  | none =>
    have : L.length ≤ m.pc t := by
      rcases Nat.lt_or_ge (m.pc t) L.length with h1 | h1
      · rw [List.getElem?_eq_getElem h1] at hx; cases hx
      · exact h1
    exact rdone_end ht this h
  | some x => exact rdone_at ht hx h

structure Both (a : Nat → Addr) (cs : List (List Ins)) (p : MkPl) (q : RkPl) (m : Mk) (w : World) : Prop where
  pr : MkAt a cs p m w
  rf : RkAt cs q m w
theorem Both.below {a : Nat → Addr} {cs : List (List Ins)} {p : MkPl} {q : RkPl} {m : Mk} {w w' : World} (h : Both a cs p q m w) (hb : Below w.heap.size w w') : Both a cs p q m w' := ⟨h.pr.below hb, h.rf.below hb⟩

set_option maxRecDepth 100000 in
set_option maxHeartbeats 4000000 in
theorem asModel_any {a : Nat → Addr} {cs : List (List Ins)} {p : MkPl} {q : RkPl} {m : Mk} {w : World} (h : Both a cs p q m w) (h5 : m.marks.length ≤ 500) (hg : ∀ c, m.mem.ar.given c ≤ 60000000) :
    Calls Tryz.prog 22 #[.pointer (some ⟨p.b, 0, none⟩), .pointer (some ⟨q.k, 0, none⟩)] w fun e w' => e = .returned (.bool true) ∧ Below w.heap.size w w' := by
  have H := hide h
  have h6 := h.rf.few
  have h64 := h.rf.mem.small
  have hF : ∀ d, Calls Tryz.prog 15 #[.pointer (some ⟨p.b, 0, none⟩)] (w.drewN d) fun e w' => e = .returned (.int .i64 m.faults) ∧ w' = w.drewN d := fun d => kfaults_any (h.pr.below (Below.drewN' d))
  have hC : ∀ d, Calls Tryz.prog 16 #[.pointer (some ⟨p.b, 0, none⟩)] (w.drewN d) fun e w' => e = .returned (.int .i64 m.mem.ar.count) ∧ w' = w.drewN d := fun d => kcells_any (h.pr.below (Below.drewN' d))
  have hR : ∀ d, Calls Tryz.prog 50 #[.pointer (some ⟨q.rp.mb, 0, none⟩)] (w.drewN d) fun e w' => e = .returned (.int .i64 m.mem.ar.count) ∧ w' = w.drewN d := fun d => rcount_any q.rp m.mem (w.drewN d) (h.rf.drewN d).mem
  have HF := hide hF
  have HC := hide hC
  have HR := hide hR
  have rF := h.rf.mFaults
  have rM := h.rf.mM
  clear hF hC hR h
  go_enter Tryz.func22, Tryz.ntmps22
  go_wp2_with fail
  go_quiet (first
    | (go_at_call 15; exact Calls.quiet_of_same (HF.out _))
    | (go_at_call 16; exact Calls.quiet_of_same (HC.out _))
    | (go_at_call 50; exact Calls.quiet_of_same (HR.out _)))
  have H1 := hide (H.out.below (Below.drewN' nq))
  have B1 := hide (Below.drewN' (w := w) nq)
  clear rF rM HF HC HR H
  generalize w.drewN nq = w1 at *
  have HK := hide (kmarks_any H1.out.pr h5)
  go_wp2_with fail
  refine HK.out.mono ?_
  rintro e w2 ⟨adm, capm, rfl, hown, hb2⟩
  have H2 := hide (H1.out.below hb2)
  have B2 := hide (B1.out.trans (hb2.mono B1.out.size))
  obtain ⟨adq, capq, hqv, hqc, -, hqcell⟩ := ownsRow_shape H2.out.rf.own
  obtain ⟨adm', capm', hmv, hmc, -, hmcell⟩ := ownsRow_shape hown
  cases hmv
  have rV : w2.cell? ⟨q.k, 2, none⟩ = some (.slice adq m.marks.length capq) := by rw [← hqv]; exact H2.out.rf.mMarks
  have HP : Hid (∀ (i : Nat) x, m.marks[i]? = some x → (∃ g, adm = some ⟨g, 0, none⟩ ∧ w2.cell? ⟨g, i * 2, none⟩ = some (.int .i64 x.1) ∧ w2.cell? ⟨g, i * 2 + 1, none⟩ = some (.int .i64 x.2)) ∧ (∃ g, adq = some ⟨g, 0, none⟩ ∧ w2.cell? ⟨g, i * 2, none⟩ = some (.int .i64 x.1) ∧ w2.cell? ⟨g, i * 2 + 1, none⟩ = some (.int .i64 x.2))) := fun i x hx => by
    obtain ⟨g, e1, e2⟩ := hmcell (i * 2) _ (markCells_at hx).1
    obtain ⟨g', e3, e4⟩ := hmcell (i * 2 + 1) _ (markCells_at hx).2
    obtain ⟨f, e5, e6⟩ := hqcell (i * 2) _ (rmarkCells_at hx).1
    obtain ⟨f', e7, e8⟩ := hqcell (i * 2 + 1) _ (rmarkCells_at hx).2
    rw [e1] at e3; cases e3
    rw [e5] at e7; cases e7
    exact ⟨⟨g, e1, e2, e4⟩, ⟨f, e5, e6, e8⟩⟩
  clear hqcell hmcell hqv hown hb2 HK H1 B1
  go_wp2_with fail
  go_loopw [6] (fun i wr => ∃ j : Nat, j ≤ m.marks.length ∧ i = .int .i64 j ∧ Hid (Below w2.heap.size w2 wr)) (fun i _ => m.marks.length - (intOf i).toNat)
  case atStart => exact ⟨0, Nat.zero_le _, rfl, Below.refl _ _⟩
  case round =>
    obtain ⟨j, hj, rfl, HB⟩ := hrel
    by_cases hlt : j < m.marks.length
    · obtain ⟨x, hx⟩ : ∃ x, m.marks[j]? = some x := ⟨_, List.getElem?_eq_getElem hlt⟩
      obtain ⟨⟨g, rfl, x0, x1⟩, ⟨f, rfl, f0, f1⟩⟩ := HP.out j x hx
      replace x0 := keep_cell HB.out x0
      replace x1 := keep_cell HB.out x1
      replace f0 := keep_cell HB.out f0
      replace f1 := keep_cell HB.out f1
      replace rV := keep_cell HB.out rV
      have ji : (j : Int) < m.marks.length := by omega
      clear hx HP
      go_wp2_with fail
      go_quiet (fail)
      have HB2 := hide (HB.out.trans ((Below.drewN' (w := wr) nq).mono HB.out.size))
      clear x0 x1 f0 f1 rV HB
      generalize wr.drewN nq = w3 at *
      go_wp2
      go_roundw
      case rel => exact ⟨j + 1, by omega, by go_num, HB2⟩
      case measure => simp [intOf]; omega
    · obtain rfl : j = m.marks.length := by omega
      have H3 := hide (H2.out.below HB.out)
      have B3 := hide (B2.out.trans (HB.out.mono B2.out.size))
      clear HP rV hlt HB H2 B2
      go_wp2_with fail
      generalize wr = w3 at *
      go_loopw [7, 8, 9, 10] (fun i _ _ _ wr => ∃ t : Nat, t ≤ cs.length ∧ i = .int .i64 t ∧ Hid (Below w3.heap.size w3 wr)) (fun i _ _ _ _ => cs.length - (intOf i).toNat)
      case atStart => exact ⟨0, Nat.zero_le _, rfl, Below.refl _ _⟩
      case round =>
        obtain ⟨t, ht, rfl, HB⟩ := hrel
        have H4 := hide (H3.out.below HB.out)
        have rT := H4.out.rf.mT
        have rTc := H4.out.rf.tcap
        by_cases hlt : t < cs.length
        · obtain ⟨L, hL⟩ : ∃ L, cs[t]? = some L := ⟨_, List.getElem?_eq_getElem hlt⟩
          have ti : (t : Int) < cs.length := by omega
          have HD1 := hide (kdone_any hL H4.out.pr)
          have HD2 := hide (fun w' (h : RkAt cs q m w') => rdone_anyB hL h)
          clear hL
          generalize doneAt L (m.pc t) = D at *
          go_wp2_with fail
          refine HD1.out.mono ?_
          rintro e w5 ⟨rfl, hb5⟩
          have H5 := hide (H4.out.below hb5)
          have HD3 := hide (HD2.out w5 H5.out.rf)
          have HB5 := hide (HB.out.trans (hb5.mono HB.out.size))
          clear HD1 HD2 hb5 H4 HB rT
          go_wp2_with fail
          refine HD3.out.mono ?_
          rintro e w6 ⟨rfl, hb6⟩
          have H6 := hide (H5.out.below hb6)
          have HB6 := hide (HB5.out.trans (hb6.mono HB5.out.size))
          clear HD3 hb6 H5 HB5
          go_wp2_with fail
          go_loopw [8, 9, 10] (fun i _ _ wr => ∃ r : Nat, r ≤ 8 ∧ i = .int .i64 r ∧ Hid (Below w6.heap.size w6 wr)) (fun i _ _ _ => 8 - (intOf i).toNat)
          case atStart => exact ⟨0, Nat.zero_le _, rfl, Below.refl _ _⟩
          case round =>
            obtain ⟨r, hr, rfl, HB7⟩ := hrel
            have H7 := hide (H6.out.below HB7.out)
            by_cases hrl : r < 8
            · have ri : (r : Int) < 8 := by omega
              have HRg := hide (kreg_any H7.out.pr hlt hrl)
              have rT := H7.out.rf.mT
              have rR := H7.out.rf.tRegs t hlt
              have rC := H7.out.rf.rcap t hlt
              have rX := H7.out.rf.regs t r hlt hrl
              go_wp2_with fail
              refine HRg.out.mono ?_
              rintro e w8 ⟨rfl, rfl⟩
              clear HRg
              go_wp2_with fail
              first
                | (go_quiet (fail)
                   have HB8 := hide (HB7.out.trans ((Below.drewN' nq).mono HB7.out.size))
                   go_wp2
                   go_roundw
                   case rel => exact ⟨r + 1, by omega, by go_num, HB8⟩
                   case measure => simp [intOf]; omega)
                | (go_roundw
                   case rel => exact ⟨r + 1, by omega, by go_num, HB7⟩
                   case measure => simp [intOf]; omega)
            · obtain rfl : r = 8 := by omega
              rw [show ((8 : Nat) : Int) = 8 from rfl]
              have HB8 := hide (HB6.out.trans (HB7.out.mono HB6.out.size))
              clear H6 H7 HB6 HB7
              go_wp2
              go_roundw
              case rel => exact ⟨t + 1, by omega, by go_num, HB8⟩
              case measure => simp [intOf]; omega
        · obtain rfl : t = cs.length := by omega
          have B4 := hide (B3.out.trans (HB.out.mono B3.out.size))
          clear hlt HB H3 B3
          go_wp2_with fail
          clear rT rTc
          generalize wr = w4 at *
          go_loopw [11, 13, 14, 15] (fun i _ _ _ wr => ∃ c : Nat, c ≤ m.mem.ar.size ∧ i = .int .i64 c ∧ Hid (Below w4.heap.size w4 wr)) (fun i _ _ _ _ => m.mem.ar.size - (intOf i).toNat)
          case atStart => exact ⟨0, Nat.zero_le _, rfl, Below.refl _ _⟩
          case round =>
            obtain ⟨c, hc, rfl, HB⟩ := hrel
            have H5 := hide (H4.out.below HB.out)
            have rM := H5.out.rf.mM
            have rC := H5.out.rf.mem.mCells
            have rCc := H5.out.rf.mem.ccap
            by_cases hlt : c < m.mem.ar.size
            · have ci : (c : Int) < m.mem.ar.size := by omega
              have c64 : c < 64 := by omega
              have rT := H5.out.rf.mem.cTimes c hlt
              have hgc := hg c
              obtain ⟨G, hG⟩ : ∃ G : Int, G = (m.mem.ar.given c : Int) - 1 := ⟨_, rfl⟩
              have hw1 : wrap64 ((m.mem.ar.given c : Int) - 1) = G := by rw [hG]; unfold wrap64; omega
              have hw2 : IntKind.i64.wrap ((m.mem.ar.given c : Int) - 1) = G := by rw [hG, IntKind.wrap_i64]; omega
              obtain ⟨W6, hW6⟩ : ∃ W6, W6 = wr.alloc (.cells #[.int .i64 c, .int .i64 G] 95) := ⟨_, rfl⟩
              have b6 : Below wr.heap.size wr W6 := by rw [hW6]; exact (Below.refl _ _).alloc (Nat.le_refl _) _
              have H6 := hide (H5.out.below b6)
              have HB6 := hide (HB.out.trans (b6.mono HB.out.size))
              have q0 : W6.cell? ⟨wr.heap.size, 0, none⟩ = some (.int .i64 c) := by rw [hW6]; simp
              have q1 : W6.cell? ⟨wr.heap.size, 1, none⟩ = some (.int .i64 G) := by rw [hW6]; simp
              have HG := hide hG
              clear hG b6 H5 HB hgc
              go_wp2_with fail
              rw [← hW6]
              clear hW6 rT
              generalize wr.heap.size = br at *
              go_loopw [13, 14, 15] (fun i _ _ wr => ∃ k : Nat, k ≤ 4 ∧ i = .int .i64 k ∧ Hid (Below W6.heap.size W6 wr)) (fun i _ _ _ => 4 - (intOf i).toNat)
              case atStart => exact ⟨0, Nat.zero_le _, rfl, Below.refl _ _⟩
              case round =>
                obtain ⟨k, hk, rfl, HB7⟩ := hrel
                have H7 := hide (H6.out.below HB7.out)
                by_cases hkl : k < 4
                · have ki : (k : Int) < 4 := by omega
                  replace q0 := keep_cell HB7.out q0
                  replace q1 := keep_cell HB7.out q1
                  cases hh : m.mem.ar.there c
                  · have hat : m.mem.ar.at c G k = 7 := Ar.at_false (by unfold Ar.has; rw [Int.toNat_natCast, hh]; simp)
                    have HPk := hide (kpeek_err (c := c) (g := G) (k := k) H7.out.pr (by rw [hat]; decide))
                    rw [hat] at HPk
                    have HCd := hide (fun w' (h : MkAt a cs p m w') => coded_sent a 6 (by decide) 7 (by decide) w' h.env)
                    clear hat
                    go_wp2_with fail
                    refine HPk.out.mono ?_
                    rintro e w8 ⟨rfl, hb8⟩
                    have H8 := hide (H7.out.below hb8)
                    have HB8 := hide (HB7.out.trans (hb8.mono HB7.out.size))
                    have rM := H8.out.rf.mM
                    have rC := H8.out.rf.mem.mCells
                    have rH := H8.out.rf.mem.cHere c hlt
                    rw [hh] at rH
                    have HCd8 := hide (HCd.out w8 H8.out.pr)
                    clear HPk hb8 HB7 H7 q0 q1 HCd hh
                    rw [show errVal a 7 = errAt (a 6) from rfl]
                    go_wp2_with fail
                    refine HCd8.out.mono ?_
                    rintro e w9 ⟨rfl, hb9⟩
                    have HB9 := hide (HB8.out.trans (hb9.mono HB8.out.size))
                    clear HCd8 hb9 HB8 H8 rM rC rH
                    go_wp2
                    go_roundw
                    case rel => exact ⟨k + 1, by omega, by go_num, HB9⟩
                    case measure => simp [intOf]; omega
                  · have hat : m.mem.ar.has c G = true := by
                      unfold Ar.has
                      rw [Int.toNat_natCast, hh, HG.out]
                      simp; omega
                    have HPk := hide (kpeek_ok H7.out.pr c64 hat hkl)
                    clear hat
                    go_wp2_with fail
                    refine HPk.out.mono ?_
                    rintro e w8 ⟨rfl, hb8⟩
                    have H8 := hide (H7.out.below hb8)
                    have HB8 := hide (HB7.out.trans (hb8.mono HB7.out.size))
                    have rM := H8.out.rf.mM
                    have rC := H8.out.rf.mem.mCells
                    have rH := H8.out.rf.mem.cHere c hlt
                    have rW := H8.out.rf.mem.cWords c hlt
                    have rWc := H8.out.rf.mem.wcap c hlt
                    have rX := H8.out.rf.mem.words c k hlt hkl
                    rw [hh] at rH
                    clear HPk hb8 HB7 H7 q0 q1 hh
                    go_wp2_with fail
                    first
                      | (go_quiet (fail)
                         have HB9 := hide (HB8.out.trans ((Below.drewN' nq).mono HB8.out.size))
                         go_wp2
                         go_roundw
                         case rel => exact ⟨k + 1, by omega, by go_num, HB9⟩
                         case measure => simp [intOf]; omega)
                      | (go_roundw
                         case rel => exact ⟨k + 1, by omega, by go_num, HB8⟩
                         case measure => simp [intOf]; omega)
                · obtain rfl : k = 4 := by omega
                  rw [show ((4 : Nat) : Int) = 4 from rfl]
                  have HB8 := hide (HB6.out.trans (HB7.out.mono HB6.out.size))
                  clear H6 H7 HB6 HB7 q0 q1
                  go_wp2
                  go_roundw
                  case rel => exact ⟨c + 1, by omega, by go_num, HB8⟩
                  case measure => simp [intOf]; omega
            · obtain rfl : c = m.mem.ar.size := by omega
              have B5 := hide (B4.out.trans (HB.out.mono B4.out.size))
              clear hlt HB H4 B4 H5
              go_wp2
              go_ret
              exact ⟨rfl, B5.out⟩
end Go.Proofs.YtdpmnlbnlnmjbaaGreatDoor
