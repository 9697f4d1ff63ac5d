import Derived.Test.YtdpmnlbnlnmjbaaGreatDoorK35
import Derived.Deep.RegionHeld3
import Derived.Test.YtdpmnlbnlnmjbaaGreatDoorK23
import Derived.Test.YtdpmnlbnlnmjbaaGreatDoorK37
import Derived.Lib.QuietBelow
import Derived.BigQuiet
import Derived.Maps.AppendAt

/- RkM -/
namespace Go.Proofs.YtdpmnlbnlnmjbaaGreatDoor
open Go.RowKit Go.Extern.Stop Go.Stop Go.Extern Go.Sort

set_option maxRecDepth 20000 in
set_option maxHeartbeats 2000000 in
theorem rstep_cas {cs : List (List Ins)} {p : RkPl} {m : Mk} {K t : Nat} {w : World} (D : RkX cs p m K w) {L : List Ins} (ht : cs[t]? = some L) {x : Ins} (hx : L[m.pc t]? = some x) (e : x.op = ⟨#[99, 97, 115]⟩) {i : Nat} (hi : i < 8) (ei : x.a = i) {j : Nat} (hj : j < 7) (ej : x.b = j) {k : Nat} (hk : k < 4) (ek : x.c = k) :
    Calls Tryz.prog 25 #[.pointer (some ⟨p.k, 0, none⟩), .int .i64 t] w fun e w' => e = .returned (.int .i64 0) ∧ ∃ r v, RkStep cs p m.mem w r v (m.step L t) w' := by
  have ln : (j : Int) + 1 < 8 := by omega
  have hjw := wrapNext (n := j) (by omega)
  have hjw2 := wrapNext2 (n := j) (by omega)
  have hj8 : j < 8 := by omega
  have hj9 : j + 1 < 8 := by omega
  have ln0 : (0 : Int) ≤ (j : Int) + 1 := by omega
  have hpc3 : m.pc t + 1 ≤ 2000 := by have h1 := lt_of_get hx; have h2 := (D.right.right t L ht).1; omega
  have hM : m.step L t = (m.setPc t (m.pc t + 1)).exec L t x := by unfold Mk.step; rw [hx]
  obtain ⟨M', hM'⟩ : ∃ M', M' = (m.setPc t (m.pc t + 1)).exec L t x := ⟨_, rfl⟩
  rw [hM, ← hM']
  rw [exec_cas (m.setPc t (m.pc t + 1)) L t e] at hM'
  clear hM
  rw [ei] at hM'
  rw [ej] at hM'
  rw [ek] at hM'
  simp only [Int.toNat_natCast] at hM'
  try simp only [show ∀ r, (m.setPc t (m.pc t + 1)).regs t r = m.regs t r from fun _ => rfl] at hM'
  have HD := hide (rdone_at ht hx D.at')
  obtain ⟨xo, xa, xb, xc, xt⟩ := x
  dsimp only at e ei ej ek hM' ⊢
  subst e ei ej ek
  have HM' := hide hM'
  clear hM'
  have htl := lt_of_get ht
  have h6 := D.at'.few
  have hpl := lt_of_get hx
  have hL2 := (D.right.right t L ht).1
  have hcap := D.at'.tcap
  have hcc := D.at'.ccap t L ht
  have ti : (t : Int) < cs.length := by omega
  have t6 : (t : Int) < 6 := by omega
  have pi : (m.pc t : Int) < L.length := by omega
  have hpc2 : m.pc t ≤ 2000 := D.ok.pcs t
  have hpw := wrapNext hpc2
  have hpw2 := wrapNext2 hpc2
  have hr8 := D.at'.rcap t htl
  have li : (i : Int) < 8 := by omega
  have lj : (j : Int) < 7 := by omega
  have lk : (k : Int) < 4 := by omega
  have HIN := hide (D.at'.rc.code ht)
  have HX := hide D
  have H := hide D.at'
  have d0 : decide ((t : Int) < 0) = false := by simp
  have hT := H.out.mT
  clear D
  go_enter Tryz.func25, Tryz.ntmps25
  go_wp2_with fail
  refine HD.out.mono ?_
  rintro e w1 ⟨rfl, hb1⟩
  clear HD hT
  have H1 := hide (H.out.below hb1)
  have HIN1 := hide (insAt_below HIN.out hb1)
  have hT := H1.out.mT
  have hA := H1.out.tAt t htl
  have hC := H1.out.tCode t L ht
  have hR := H1.out.tRegs t htl
  obtain ⟨cb, off, had, c0, c1, c2, c3, c4⟩ := HIN1.out _ _ hx
  dsimp only at c0 c1 c2 c3 c4
  rw [had] at hC
  have lcb : cb < w1.heap.size := World.block_lt_of_cell? _ _ c0
  have lk := H1.out.lk
  have lt := H1.out.lt'
  have lr := H1.out.lr htl
  have zt := H1.out.ft (t * 3 + 2)
  obtain ⟨W2, hW2⟩ : ∃ W2, W2 = (w1.alloc (.cells #[.string ⟨#[99, 97, 115]⟩, .int .i64 i, .int .i64 j, .int .i64 k, .string xt] 75)).drew := ⟨_, rfl⟩
  have b2 : Below w1.heap.size w1 W2 := by rw [hW2]; exact ((Below.refl _ _).alloc (Nat.le_refl _) _).drew
  have q0 : W2.cell? ⟨w1.heap.size, 0, none⟩ = some (.string ⟨#[99, 97, 115]⟩) := by rw [hW2]; simp
  have q1 : W2.cell? ⟨w1.heap.size, 1, none⟩ = some (.int .i64 i) := by rw [hW2]; simp
  have q2 : W2.cell? ⟨w1.heap.size, 2, none⟩ = some (.int .i64 j) := by rw [hW2]; simp
  have q3 : W2.cell? ⟨w1.heap.size, 3, none⟩ = some (.int .i64 k) := by rw [hW2]; simp
  have q4 : W2.cell? ⟨w1.heap.size, 4, none⟩ = some (.string xt) := by rw [hW2]; simp
  have lW2 : w1.heap.size < W2.heap.size := World.block_lt_of_cell? _ _ q0
  clear HIN HIN1 had
  go_wp2_with fail
  go_region
  rw [← hW2]
  have B2 := below_step hb1 b2
  have H2 := hide (H.out.below B2)
  replace hT := H2.out.mT
  replace hA := H2.out.tAt t htl
  replace hR := H2.out.tRegs t htl
  replace hC := keep_cell b2 hC
  replace zt := H2.out.ft (t * 3 + 2)
  have dk := H2.out.d1
  have dr1 := (H2.out.d2 t htl).1
  have dr2 := (H2.out.d2 t htl).2
  have G2 : Hid (Stg cs p m.mem w w1.heap.size p.rp p.mv m W2) := hide (Stg.first H.out B2 hb1.size lW2)
  obtain ⟨nk, nt, nr⟩ := G2.out.ne
  replace nr := nr t htl
  have lk2 : p.k < W2.heap.size := by omega
  have lt2 : p.tb < W2.heap.size := by omega
  have lr2 : p.rb t < W2.heap.size := by omega
  obtain ⟨W3, hW3⟩ : ∃ W3, W3 = W2.setCell ⟨p.tb, t * 3 + 2, none⟩ (.int .i64 ((m.pc t : Int) + 1)) := ⟨_, rfl⟩
  have S3 : Hid (RkStep cs p m.mem W2 p.rp p.mv (m.setPc t (m.pc t + 1)) W3) := hide (by rw [hW3]; exact H2.out.setPc htl (m.pc t + 1))
  have G3 : Hid (Stg cs p m.mem w w1.heap.size p.rp p.mv (m.setPc t (m.pc t + 1)) W3) := hide (G2.out.trans S3.out)
  have HM3 : Hid (RkAt cs p (m.setPc t (m.pc t + 1)) W3) := hide G3.out.step.at'
  have HX3 : Hid (RkX cs p (m.setPc t (m.pc t + 1)) K W3) := hide ⟨HM3.out, HX.out.ok.setPc t hpc3, HX.out.right, HX.out.hK⟩
  have y0 := G2.out.keep S3.out q0
  have y1 := G2.out.keep S3.out q1
  have y2 := G2.out.keep S3.out q2
  have y3 := G2.out.keep S3.out q3
  have y4 := G2.out.keep S3.out q4
  have T3 := HM3.out.mT
  have R3 := HM3.out.tRegs t htl
  have k3 := HM3.out.mM
  have lW3 : w1.heap.size < W3.heap.size := G3.out.lt
  have G0 : Hid (∀ r, r < 8 → W2.cell? ⟨p.rb t, r, none⟩ = some (.int .i64 (m.regs t r)) ∧ W2.frozen? ⟨p.rb t, r, none⟩ = false) := fun r hr => ⟨H2.out.regs t r htl hr, H2.out.fr t r htl⟩
  clear H2 c0 c1 c2 c3 c4 hb1 b2 B2 hW2 G2 S3 H1 lcb
  obtain ⟨fi, fzi⟩ := G0.out i (by omega)
  have gi : W3.cell? ⟨p.rb t, i, none⟩ = some (.int .i64 (m.regs t i)) := HM3.out.regs t i htl (by omega)
  obtain ⟨fj, fzj⟩ := G0.out j hj8
  have gj : W3.cell? ⟨p.rb t, j, none⟩ = some (.int .i64 (m.regs t j)) := HM3.out.regs t j htl hj8
  obtain ⟨fn, fzn⟩ := G0.out (j + 1) hj9
  have gn : W3.cell? ⟨p.rb t, j + 1, none⟩ = some (.int .i64 (m.regs t (j + 1))) := HM3.out.regs t (j + 1) htl hj9
  clear G0
  have hwd : Wd (m.regs t i) := HX3.out.ok.regs t i
  have hfl : (m.setPc t (m.pc t + 1)).faults ≤ 900000000 := HX3.out.faults
  have hx8 := HX3.out.few htl
  cases hy : (m.setPc t (m.pc t + 1)).names (m.regs t i)
  · have HQ : Hid (M' = ((m.setPc t (m.pc t + 1)).addFault 1).setReg t j 0) := by show _ = _; rw [HM'.out]; unfold Mk.cas; rw [hy]; rfl
    have HN := hide (rnames_no hwd HM3.out (by omega) hy)
    clear HM3 HX3 hwd hy HM'
    generalize m.regs t i = Ri at *
    generalize m.regs t j = Rj at *
    generalize m.regs t (j + 1) = Rn at *
    go_wp2_with fail
    rw [← hW3]
    clear hT hA hR hC zt q0 q1 q2 q3 q4 lW2 lk2 lt2 lr2 hW3
    refine HN.out.mono ?_
    rintro e w4 ⟨⟨c4, g4, rfl⟩, k4⟩
    clear HN
    replace y1 := G3.out.keep k4 y1
    replace y2 := G3.out.keep k4 y2
    have G4 := hide (G3.out.trans k4)
    have HM4 := hide G4.out.step.at'
    have lr4 : p.rb t < w4.heap.size := HM4.out.lr htl
    have lx4 := G4.out.lt
    have v4 : w4.cell? ⟨p.rb t, j, none⟩ = some (.int .i64 (((m.setPc t (m.pc t + 1)).addFault 1).regs t j)) := HM4.out.regs t j htl hj8
    have z4 : w4.frozen? ⟨p.rb t, j, none⟩ = false := HM4.out.fr t j htl
    have HS := hide ((G4.out.trans (HM4.out.setReg htl (show j < 8 by omega) 0)).below ((Below.refl _ _).alloc (Nat.le_refl _) (.cells #[.int .i64 c4, .int .i64 g4] 95)))
    clear k4 G4 HM4 G3 T3 R3 k3 y0 y3 y4
    go_wp2
    go_ret
    exact ⟨rfl, _, _, by rw [HQ.out]; exact HS.out.step⟩
  · have HQ : Hid (M' = (((m.setPc t (m.pc t + 1)).fence t).setMem (((m.setPc t (m.pc t + 1)).fence t).mem.setWord (cellOf (m.regs t i)).toNat k (casV (((m.setPc t (m.pc t + 1)).fence t).mem.ar.words (cellOf (m.regs t i)).toNat k) (m.regs t j) (m.regs t (j + 1))))).setReg t j (((m.setPc t (m.pc t + 1)).fence t).mem.ar.words (cellOf (m.regs t i)).toNat k)) := by show _ = _; rw [HM'.out]; unfold Mk.cas; rw [hy]; rfl
    have HFE := hide (fun w' (h : RkAt cs p (m.setPc t (m.pc t + 1)) w') => rkfence_any htl h (HX3.out.waits htl) hx8 (by omega))
    obtain ⟨kk, hck, hkk, hhas⟩ := HM3.out.cellAt hy
    have HN := hide (rnames_yes hwd HM3.out hy)
    rw [hck] at HN
    obtain ⟨Gn, hGn⟩ : ∃ Gn, Gn = genOf (m.regs t i) := ⟨_, rfl⟩
    rw [← hGn] at HN
    have hsz : ((m.setPc t (m.pc t + 1)).fence t).mem.ar.size = m.mem.ar.size := (Rm.drainAll_ar _ _ _).1
    have h64 := HM3.out.mem.small
    rw [show (m.setPc t (m.pc t + 1)).mem.ar.size = m.mem.ar.size from rfl] at h64 hkk
    clear HM3 HX3 hy hhas HM'
    rw [hck, Int.toNat_natCast] at HQ
    clear hck hGn hwd
    go_wp2_with fail
    rw [← hW3]
    clear hT hA hR hC zt q0 q1 q2 q3 q4 lW2 lk2 lt2 lr2 hW3
    refine HN.out.mono ?_
    rintro e w4 ⟨rfl, hb4⟩
    clear HN
    have G4 := hide (G3.out.below hb4)
    have HM4 := hide G4.out.step.at'
    obtain ⟨W5, hW5⟩ : ∃ W5, W5 = w4.alloc (.cells #[.int .i64 kk, .int .i64 Gn] 95) := ⟨_, rfl⟩
    have b5 : Below w4.heap.size w4 W5 := by rw [hW5]; exact (Below.refl _ _).alloc (Nat.le_refl _) _
    have G5 := hide (G4.out.below b5)
    have R5 := hide (G4.out.other (bx' := w4.heap.size) (Nat.le_refl _) b5 (by rw [hW5]; simp))
    have x0 : W5.cell? ⟨w4.heap.size, 0, none⟩ = some (.int .i64 kk) := by rw [hW5]; simp
    have HF5 := hide (HFE.out W5 G5.out.step.at')
    have p1 := keep_cell b5 (keep_cell hb4 y1)
    have p2 := keep_cell b5 (keep_cell hb4 y2)
    have p3 := keep_cell b5 (keep_cell hb4 y3)
    clear HFE b5 HM4 G3 G4 T3 R3 k3 y0 y1 y2 y3 y4 hb4 gi gj gn
    go_wp2_with fail
    rw [← hW5]
    clear hW5
    refine HF5.out.mono ?_
    rintro e w6 ⟨rfl, r, k6⟩
    clear HF5
    replace x0 := R5.out.keep k6 x0
    replace p1 := G5.out.keep k6 p1
    replace p2 := G5.out.keep k6 p2
    replace p3 := G5.out.keep k6 p3
    have G6 := hide (G5.out.trans k6)
    have R6 := hide (R5.out.trans k6)
    have HM6 : Hid (RkAt cs (p.to r p.mv) ((m.setPc t (m.pc t + 1)).fence t) w6) := hide G6.out.step.at'
    clear G5 R5 k6
    have uM : w6.cell? ⟨p.k, 0, none⟩ = some (.pointer (some ⟨r.mb, 0, none⟩)) := HM6.out.mM
    have uC : w6.cell? ⟨r.mb, 0, none⟩ = some (.slice (some ⟨r.cb, 0, none⟩) ((m.setPc t (m.pc t + 1)).fence t).mem.ar.size r.ccap) := HM6.out.mem.mCells
    have ucc : ((m.setPc t (m.pc t + 1)).fence t).mem.ar.size ≤ r.ccap := HM6.out.mem.ccap
    rw [hsz] at uC ucc
    have uki : (kk : Int) < m.mem.ar.size := by omega
    have ukz : kk < ((m.setPc t (m.pc t + 1)).fence t).mem.ar.size := by rw [hsz]; exact hkk
    have si : w6.cell? ⟨p.rb t, i, none⟩ = some (.int .i64 (m.regs t i)) := HM6.out.regs t i htl (by omega)
    have sj : w6.cell? ⟨p.rb t, j, none⟩ = some (.int .i64 (m.regs t j)) := HM6.out.regs t j htl hj8
    have sn : w6.cell? ⟨p.rb t, j + 1, none⟩ = some (.int .i64 (m.regs t (j + 1))) := HM6.out.regs t (j + 1) htl hj9
    have uW : w6.cell? ⟨r.cb, kk * 3, none⟩ = some (.slice (some ⟨r.wb kk, 0, none⟩) 4 (r.wcap kk)) := HM6.out.mem.cWords kk ukz
    have ucw : 4 ≤ r.wcap kk := HM6.out.mem.wcap kk ukz
    have uX : w6.cell? ⟨r.wb kk, k, none⟩ = some (.int .i64 (((m.setPc t (m.pc t + 1)).fence t).mem.ar.words kk k)) := HM6.out.mem.words kk k ukz hk
    have uZ : w6.frozen? ⟨r.wb kk, k, none⟩ = false := HM6.out.mem.fw kk _ ukz
    by_cases hcv : ((m.setPc t (m.pc t + 1)).fence t).mem.ar.words kk k = m.regs t j
    · have HQ2 : Hid (M' = (((m.setPc t (m.pc t + 1)).fence t).setMem (((m.setPc t (m.pc t + 1)).fence t).mem.setWord kk k (m.regs t (j + 1)))).setReg t j (((m.setPc t (m.pc t + 1)).fence t).mem.ar.words kk k)) := by show _ = _; rw [HQ.out]; unfold casV; rw [if_pos hcv]
      have HW : Hid (∀ n, Stg cs p m.mem w w1.heap.size r p.mv (((m.setPc t (m.pc t + 1)).fence t).setMem (((m.setPc t (m.pc t + 1)).fence t).mem.setWord kk k (m.regs t (j + 1)))) (((w6.drewN n).setCell ⟨r.wb kk, k, none⟩ (.int .i64 (m.regs t (j + 1)))).drew)) := fun n => (G6.out.below (Below.drewN' n)).trans (((HM6.out.drewN n).setWordM ukz hk (m.regs t (j + 1))).below (Below.refl _ _).drew)
      have HZ : Hid (∀ n, RkStep cs (p.to r p.mv) ((m.setPc t (m.pc t + 1)).fence t).mem (w6.drewN n) r p.mv (((m.setPc t (m.pc t + 1)).fence t).setMem (((m.setPc t (m.pc t + 1)).fence t).mem.setWord kk k (m.regs t (j + 1)))) (((w6.drewN n).setCell ⟨r.wb kk, k, none⟩ (.int .i64 (m.regs t (j + 1)))).drew)) := fun n => ((HM6.out.drewN n).setWordM ukz hk (m.regs t (j + 1))).below (Below.refl _ _).drew
      have HG : Hid (∀ n, Stg cs p m.mem w w1.heap.size r p.mv ((m.setPc t (m.pc t + 1)).fence t) (w6.drewN n)) := fun n => G6.out.below (Below.drewN' n)
      rw [← hcv] at sj
      generalize ((m.setPc t (m.pc t + 1)).fence t).mem.ar.words kk k = V at *
      clear G6 R6 HM6 si hsz ukz HQ hcv
      generalize m.regs t (j + 1) = Rn at *
      go_wp2_with fail
      go_quiet (fail)
      replace x0 : (w6.drewN nq).cell? ⟨w4.heap.size, 0, none⟩ = some (.int .i64 kk) := x0
      replace p2 : (w6.drewN nq).cell? ⟨w1.heap.size, 2, none⟩ = some (.int .i64 j) := p2
      replace p3 : (w6.drewN nq).cell? ⟨w1.heap.size, 3, none⟩ = some (.int .i64 k) := p3
      replace uM : (w6.drewN nq).cell? ⟨p.k, 0, none⟩ = some (.pointer (some ⟨r.mb, 0, none⟩)) := uM
      replace uC : (w6.drewN nq).cell? ⟨r.mb, 0, none⟩ = some (.slice (some ⟨r.cb, 0, none⟩) m.mem.ar.size r.ccap) := uC
      replace uW : (w6.drewN nq).cell? ⟨r.cb, kk * 3, none⟩ = some (.slice (some ⟨r.wb kk, 0, none⟩) 4 (r.wcap kk)) := uW
      replace uX : (w6.drewN nq).cell? ⟨r.wb kk, k, none⟩ = some (.int .i64 V) := uX
      replace uZ : (w6.drewN nq).frozen? ⟨r.wb kk, k, none⟩ = false := uZ
      replace sj : (w6.drewN nq).cell? ⟨p.rb t, j, none⟩ = some (.int .i64 V) := sj
      replace sn : (w6.drewN nq).cell? ⟨p.rb t, j + 1, none⟩ = some (.int .i64 Rn) := sn
      have HW2 := hide (HW.out nq)
      have HZ2 := hide (HZ.out nq)
      have HG2 := hide (HG.out nq)
      clear HW HZ HG
      generalize w6.drewN nq = w7 at *
      go_wp2_with fail
      refine wp_region_F (S := (fun w' => w'.cell? ⟨p.k, 0, none⟩ = some (.pointer (some ⟨r.mb, 0, none⟩)) ∧ w'.cell? ⟨r.mb, 0, none⟩ = some (.slice (some ⟨r.cb, 0, none⟩) m.mem.ar.size r.ccap) ∧ w'.cell? ⟨r.cb, kk * 3, none⟩ = some (.slice (some ⟨r.wb kk, 0, none⟩) 4 (r.wcap kk)) ∧ w'.cell? ⟨r.wb kk, k, none⟩ = some (.int .i64 V) ∧ w'.cell? ⟨w4.heap.size, 0, none⟩ = some (.int .i64 kk) ∧ w'.cell? ⟨w1.heap.size, 2, none⟩ = some (.int .i64 j) ∧ w'.cell? ⟨w1.heap.size, 3, none⟩ = some (.int .i64 k) ∧ w'.cell? ⟨p.rb t, j + 1, none⟩ = some (.int .i64 Rn))) (by kernel_rfl) (by (try dsimp only); go_keep) (fun hHeld => ?_)
      refine' wpAnyF_take (i := 0) (n := 21) (v := _) rfl (by kernel_rfl) (fun _ _ _ h => h) (by assumption) (Or.inl ⟨by rfl, ?hy1⟩) ?rest1
      case' hy1 => (intro w' hSw; (try dsimp only at hSw); go_simp; try with_reducible rfl)
      try simp only [Act.put, List.getElem_toArray, List.getElem_cons_zero, List.setIfInBounds_toArray, List.set_cons_zero, List.set_cons_succ]
      refine' wpAnyF_take (i := 1) (n := 21) (v := _) rfl (by kernel_rfl) (fun _ _ _ h => h) (by assumption) (Or.inl ⟨by rfl, ?hy2⟩) ?rest2
      case' hy2 => (intro w' hSw; (try dsimp only at hSw); go_simp; try with_reducible rfl)
      try simp only [Act.put, List.getElem_toArray, List.getElem_cons_zero, List.getElem_cons_succ, List.setIfInBounds_toArray, List.set_cons_zero, List.set_cons_succ]
      refine' wpAnyF_take (i := 2) (n := 21) (v := _) rfl (by kernel_rfl) (fun _ _ _ h => h) (by assumption) (Or.inl ⟨by rfl, ?hy3⟩) ?rest3
      case' hy3 => (intro w' hSw; (try dsimp only at hSw); go_simp; try with_reducible rfl)
      try simp only [Act.put, List.getElem_toArray, List.getElem_cons_zero, List.getElem_cons_succ, List.setIfInBounds_toArray, List.set_cons_zero, List.set_cons_succ]
      refine' wpAnyF_take (i := 3) (n := 21) (v := _) rfl (by kernel_rfl) (fun _ _ _ h => h) (by assumption) (Or.inl ⟨by rfl, ?hy4⟩) ?rest4
      case' hy4 => (intro w' hSw; (try dsimp only at hSw); go_simp; try with_reducible rfl)
      try simp only [Act.put, List.getElem_toArray, List.getElem_cons_zero, List.getElem_cons_succ, List.setIfInBounds_toArray, List.set_cons_zero, List.set_cons_succ]
      refine' wpAnyF_take (i := 4) (n := 21) (v := _) rfl (by kernel_rfl) (fun _ _ _ h => h) (by assumption) (Or.inl ⟨by rfl, ?hy5⟩) ?rest5
      case' hy5 => (intro w' hSw; (try dsimp only at hSw); go_simp; try with_reducible rfl)
      try simp only [Act.put, List.getElem_toArray, List.getElem_cons_zero, List.getElem_cons_succ, List.setIfInBounds_toArray, List.set_cons_zero, List.set_cons_succ]
      refine' wpAnyF_take (i := 5) (n := 21) (v := _) rfl (by kernel_rfl) (fun _ _ _ h => h) (by assumption) (Or.inl ⟨by rfl, ?hy6⟩) ?rest6
      case' hy6 => (intro w' hSw; (try dsimp only at hSw); go_simp; try with_reducible rfl)
      try simp only [Act.put, List.getElem_toArray, List.getElem_cons_zero, List.getElem_cons_succ, List.setIfInBounds_toArray, List.set_cons_zero, List.set_cons_succ]
      refine' wpAnyF_take (i := 6) (n := 21) (v := _) rfl (by kernel_rfl) (fun _ _ _ h => h) (by assumption) (Or.inl ⟨by rfl, ?hy7⟩) ?rest7
      case' hy7 => (intro w' hSw; (try dsimp only at hSw); go_simp; try with_reducible rfl)
      try simp only [Act.put, List.getElem_toArray, List.getElem_cons_zero, List.getElem_cons_succ, List.setIfInBounds_toArray, List.set_cons_zero, List.set_cons_succ]
      refine' wpAnyF_take (i := 7) (n := 21) (v := _) rfl (by kernel_rfl) (fun _ _ _ h => h) (by assumption) (Or.inl ⟨by rfl, ?hy8⟩) ?rest8
      case' hy8 => (intro w' hSw; (try dsimp only at hSw); go_simp; try with_reducible rfl)
      try simp only [Act.put, List.getElem_toArray, List.getElem_cons_zero, List.getElem_cons_succ, List.setIfInBounds_toArray, List.set_cons_zero, List.set_cons_succ]
      refine' wpAnyF_take (i := 8) (n := 21) (v := _) rfl (by kernel_rfl) (fun _ _ _ h => h) (by assumption) (Or.inl ⟨by rfl, ?hy9⟩) ?rest9
      case' hy9 => (intro w' hSw; (try dsimp only at hSw); go_simp; try with_reducible rfl)
      try simp only [Act.put, List.getElem_toArray, List.getElem_cons_zero, List.getElem_cons_succ, List.setIfInBounds_toArray, List.set_cons_zero, List.set_cons_succ]
      refine' wpAnyF_take (i := 9) (n := 21) (v := _) rfl (by kernel_rfl) (fun _ _ _ h => h) (by assumption) (Or.inl ⟨by rfl, ?hy10⟩) ?rest10
      case' hy10 => (intro w' hSw; (try dsimp only at hSw); go_simp; try with_reducible rfl)
      try simp only [Act.put, List.getElem_toArray, List.getElem_cons_zero, List.getElem_cons_succ, List.setIfInBounds_toArray, List.set_cons_zero, List.set_cons_succ]
      refine' wpAnyF_take (i := 10) (n := 21) (v := _) rfl (by kernel_rfl) (fun _ _ _ h => h) (by assumption) (Or.inl ⟨by rfl, ?hy11⟩) ?rest11
      case' hy11 => (intro w' hSw; (try dsimp only at hSw); go_simp; try with_reducible rfl)
      try simp only [Act.put, List.getElem_toArray, List.getElem_cons_zero, List.getElem_cons_succ, List.setIfInBounds_toArray, List.set_cons_zero, List.set_cons_succ]
      refine' wpAnyF_take (i := 11) (n := 21) (v := _) rfl (by kernel_rfl) (fun _ _ _ h => h) (by assumption) (Or.inl ⟨by rfl, ?hy12⟩) ?rest12
      case' hy12 => (intro w' hSw; (try dsimp only at hSw); go_simp; try with_reducible rfl)
      try simp only [Act.put, List.getElem_toArray, List.getElem_cons_zero, List.getElem_cons_succ, List.setIfInBounds_toArray, List.set_cons_zero, List.set_cons_succ]
      refine' wpAnyF_take (i := 12) (n := 21) (v := _) rfl (by kernel_rfl) (fun _ _ _ h => h) (by assumption) (Or.inl ⟨by rfl, ?hy13⟩) ?rest13
      case' hy13 => (intro w' hSw; (try dsimp only at hSw); go_simp; try with_reducible rfl)
      try simp only [Act.put, List.getElem_toArray, List.getElem_cons_zero, List.getElem_cons_succ, List.setIfInBounds_toArray, List.set_cons_zero, List.set_cons_succ]
      refine' wpAnyF_take (i := 13) (n := 21) (v := _) rfl (by kernel_rfl) (fun _ _ _ h => h) (by assumption) (Or.inl ⟨by rfl, ?hy14⟩) ?rest14
      case' hy14 => (intro w' hSw; (try dsimp only at hSw); go_simp; try with_reducible rfl)
      try simp only [Act.put, List.getElem_toArray, List.getElem_cons_zero, List.getElem_cons_succ, List.setIfInBounds_toArray, List.set_cons_zero, List.set_cons_succ]
      refine' wpAnyF_take (i := 14) (n := 21) (v := _) rfl (by kernel_rfl) (fun _ _ _ h => h) (by assumption) (Or.inl ⟨by rfl, ?hy15⟩) ?rest15
      case' hy15 => (intro w' hSw; (try dsimp only at hSw); go_simp; try with_reducible rfl)
      try simp only [Act.put, List.getElem_toArray, List.getElem_cons_zero, List.getElem_cons_succ, List.setIfInBounds_toArray, List.set_cons_zero, List.set_cons_succ]
      refine' wpAnyF_take (i := 15) (n := 21) (v := _) rfl (by kernel_rfl) (fun _ _ _ h => h) (by assumption) (Or.inl ⟨by rfl, ?hy16⟩) ?rest16
      case' hy16 => (intro w' hSw; (try dsimp only at hSw); go_simp; try with_reducible rfl)
      try simp only [Act.put, List.getElem_toArray, List.getElem_cons_zero, List.getElem_cons_succ, List.setIfInBounds_toArray, List.set_cons_zero, List.set_cons_succ]
      refine' wpAnyF_take (i := 16) (n := 21) (v := _) rfl (by kernel_rfl) (fun _ _ _ h => h) (by assumption) (Or.inl ⟨by rfl, ?hy17⟩) ?rest17
      case' hy17 => (intro w' hSw; (try dsimp only at hSw); go_simp; try with_reducible rfl)
      try simp only [Act.put, List.getElem_toArray, List.getElem_cons_zero, List.getElem_cons_succ, List.setIfInBounds_toArray, List.set_cons_zero, List.set_cons_succ]
      refine' wpAnyF_take (i := 17) (n := 21) (v := _) rfl (by kernel_rfl) (fun _ _ _ h => h) (by assumption) (Or.inl ⟨by rfl, ?hy18⟩) ?rest18
      case' hy18 => (intro w' hSw; (try dsimp only at hSw); go_simp; try with_reducible rfl)
      try simp only [Act.put, List.getElem_toArray, List.getElem_cons_zero, List.getElem_cons_succ, List.setIfInBounds_toArray, List.set_cons_zero, List.set_cons_succ]
      refine' wpAnyF_take (i := 18) (n := 21) (v := _) rfl (by kernel_rfl) (fun _ _ _ h => h) (by assumption) (Or.inl ⟨by rfl, ?hy19⟩) ?rest19
      case' hy19 => (intro w' hSw; (try dsimp only at hSw); go_simp; try with_reducible rfl)
      try simp only [Act.put, List.getElem_toArray, List.getElem_cons_zero, List.getElem_cons_succ, List.setIfInBounds_toArray, List.set_cons_zero, List.set_cons_succ]
      refine' wpAnyF_take (i := 19) (n := 21) (v := _) rfl (by kernel_rfl) (fun _ _ _ h => h) (by assumption) (Or.inl ⟨by rfl, ?hy20⟩) ?rest20
      case' hy20 => (intro w' hSw; (try dsimp only at hSw); go_simp; try with_reducible rfl)
      try simp only [Act.put, List.getElem_toArray, List.getElem_cons_zero, List.getElem_cons_succ, List.setIfInBounds_toArray, List.set_cons_zero, List.set_cons_succ]
      refine' wpAnyF_take (i := 20) (n := 21) (v := _) rfl (by kernel_rfl) (fun _ _ _ h => h) (by assumption) (Or.inl ⟨by rfl, ?hy21⟩) ?rest21
      case' hy21 => (intro w' hSw; (try dsimp only at hSw); go_simp; try with_reducible rfl)
      try simp only [Act.put, List.getElem_toArray, List.getElem_cons_zero, List.getElem_cons_succ, List.setIfInBounds_toArray, List.set_cons_zero, List.set_cons_succ]
      clear hHeld
      refine wpAnyF_only (i := 21) rfl (by kernel_rfl) (fun K hK => ?_)
      go_simp
      refine hK.out _ _ (Or.inl (by kernel_rfl)) ?_
      clear hK K
      try simp only [Act.put, List.getElem_toArray, List.getElem_cons_zero, List.getElem_cons_succ, List.setIfInBounds_toArray, List.set_cons_zero, List.set_cons_succ]
      refine wpAnyF_done (by kernel_rfl) ?_ _
      replace p2 := HG2.out.keep HZ2.out p2
      have HM8 := hide HW2.out.step.at'
      generalize hW8 : (w7.setCell ⟨r.wb kk, k, none⟩ (.int .i64 Rn)).drew = w8 at *
      have v8 : w8.cell? ⟨p.rb t, j, none⟩ = some (.int .i64 (((m.setPc t (m.pc t + 1)).fence t).regs t j)) := HM8.out.regs t j htl hj8
      have z8 : w8.frozen? ⟨p.rb t, j, none⟩ = false := HM8.out.fr t j htl
      have HS := hide (HW2.out.trans (HM8.out.setReg htl hj8 V))
      clear HM8 HW2 HZ2 HG2 hW8 uM uC uW uX uZ sj sn x0 p3
      go_wp2
      go_ret
      exact ⟨rfl, _, _, by rw [HQ2.out]; exact HS.out.step⟩
    · have HQ2 : Hid (M' = ((m.setPc t (m.pc t + 1)).fence t).setReg t j (((m.setPc t (m.pc t + 1)).fence t).mem.ar.words kk k)) := by show _ = _; rw [HQ.out]; unfold casV; rw [if_neg hcv, Mk.setWord_self]
      have HS : Hid (∀ n, Stg cs p m.mem w w1.heap.size r p.mv (((m.setPc t (m.pc t + 1)).fence t).setReg t j (((m.setPc t (m.pc t + 1)).fence t).mem.ar.words kk k)) ((w6.drewN n).setCell ⟨p.rb t, j, none⟩ (.int .i64 (((m.setPc t (m.pc t + 1)).fence t).mem.ar.words kk k)))) := fun n => (G6.out.below (Below.drewN' n)).trans ((HM6.out.drewN n).setReg htl hj8 _)
      have HF8 : Hid (∀ n, (w6.drewN n).frozen? ⟨p.rb t, j, none⟩ = false) := fun n => (HM6.out.drewN n).fr t j htl
      have hcb : (((m.setPc t (m.pc t + 1)).fence t).mem.ar.words kk k == m.regs t j) = false := beq_eq_false_iff_ne.2 hcv
      clear G6 R6 HM6 si sn hsz ukz HQ hcv
      generalize ((m.setPc t (m.pc t + 1)).fence t).mem.ar.words kk k = V at *
      generalize m.regs t j = Rj at *
      go_wp2_with fail
      go_quiet (fail)
      replace p2 : (w6.drewN nq).cell? ⟨w1.heap.size, 2, none⟩ = some (.int .i64 j) := p2
      replace sj : (w6.drewN nq).cell? ⟨p.rb t, j, none⟩ = some (.int .i64 Rj) := sj
      have zj := HF8.out nq
      have HS2 := hide (HS.out nq)
      clear HS HF8 x0 p1 p3 uM uC uW uX uZ
      generalize w6.drewN nq = w7 at *
      go_wp2
      go_ret
      exact ⟨rfl, _, _, by rw [HQ2.out]; exact HS2.out.step⟩
end Go.Proofs.YtdpmnlbnlnmjbaaGreatDoor

/- RkN -/
namespace Go.Proofs.YtdpmnlbnlnmjbaaGreatDoor
open Go.RowKit Go.Extern.Stop Go.Stop Go.Extern Go.Sort

set_option maxRecDepth 20000 in
set_option maxHeartbeats 2000000 in
theorem rstep_store {cs : List (List Ins)} {p : RkPl} {m : Mk} {K t : Nat} {w : World} (D : RkX cs p m K w) {L : List Ins} (ht : cs[t]? = some L) {x : Ins} (hx : L[m.pc t]? = some x) (e : x.op = ⟨#[115, 116, 111, 114, 101]⟩) {i : Nat} (hi : i < 8) (ei : x.a = i) {j : Nat} (hj : j < 8) (ej : x.b = j) {k : Nat} (hk : k < 4) (ek : x.c = k) :
    Calls Tryz.prog 25 #[.pointer (some ⟨p.k, 0, none⟩), .int .i64 t] w fun e w' => e = .returned (.int .i64 0) ∧ ∃ r v, RkStep cs p m.mem w r v (m.step L t) w' := by
  have hM : m.step L t = (m.setPc t (m.pc t + 1)).exec L t x := by unfold Mk.step; rw [hx]
  obtain ⟨M', hM'⟩ : ∃ M', M' = (m.setPc t (m.pc t + 1)).exec L t x := ⟨_, rfl⟩
  rw [hM, ← hM']
  rw [exec_store (m.setPc t (m.pc t + 1)) L t e] at hM'
  clear hM
  rw [ei] at hM'
  rw [ej] at hM'
  rw [ek] at hM'
  simp only [Int.toNat_natCast] at hM'
  try simp only [show ∀ r, (m.setPc t (m.pc t + 1)).regs t r = m.regs t r from fun _ => rfl] at hM'
  have HD := hide (rdone_at ht hx D.at')
  obtain ⟨xo, xa, xb, xc, xt⟩ := x
  dsimp only at e ei ej ek hM' ⊢
  subst e ei ej ek
  have HM' := hide hM'
  clear hM'
  have htl := lt_of_get ht
  have h6 := D.at'.few
  have hpl := lt_of_get hx
  have hL2 := (D.right.right t L ht).1
  have hcap := D.at'.tcap
  have hcc := D.at'.ccap t L ht
  have ti : (t : Int) < cs.length := by omega
  have t6 : (t : Int) < 6 := by omega
  have pi : (m.pc t : Int) < L.length := by omega
  have hpc2 : m.pc t ≤ 2000 := D.ok.pcs t
  have hpw := wrapNext hpc2
  have hpw2 := wrapNext2 hpc2
  have hr8 := D.at'.rcap t htl
  have li : (i : Int) < 8 := by omega
  have lj : (j : Int) < 8 := by omega
  have lk : (k : Int) < 4 := by omega
  have HIN := hide (D.at'.rc.code ht)
  have HX := hide D
  have H := hide D.at'
  have d0 : decide ((t : Int) < 0) = false := by simp
  have hT := H.out.mT
  clear D
  go_enter Tryz.func25, Tryz.ntmps25
  go_wp2_with fail
  refine HD.out.mono ?_
  rintro e w1 ⟨rfl, hb1⟩
  clear HD hT
  have H1 := hide (H.out.below hb1)
  have HIN1 := hide (insAt_below HIN.out hb1)
  have hT := H1.out.mT
  have hA := H1.out.tAt t htl
  have hC := H1.out.tCode t L ht
  have hR := H1.out.tRegs t htl
  obtain ⟨cb, off, had, c0, c1, c2, c3, c4⟩ := HIN1.out _ _ hx
  dsimp only at c0 c1 c2 c3 c4
  rw [had] at hC
  have lcb : cb < w1.heap.size := World.block_lt_of_cell? _ _ c0
  have lk := H1.out.lk
  have lt := H1.out.lt'
  have lr := H1.out.lr htl
  have zt := H1.out.ft (t * 3 + 2)
  obtain ⟨W2, hW2⟩ : ∃ W2, W2 = (w1.alloc (.cells #[.string ⟨#[115, 116, 111, 114, 101]⟩, .int .i64 i, .int .i64 j, .int .i64 k, .string xt] 75)).drew := ⟨_, rfl⟩
  have b2 : Below w1.heap.size w1 W2 := by rw [hW2]; exact ((Below.refl _ _).alloc (Nat.le_refl _) _).drew
  have q0 : W2.cell? ⟨w1.heap.size, 0, none⟩ = some (.string ⟨#[115, 116, 111, 114, 101]⟩) := by rw [hW2]; simp
  have q1 : W2.cell? ⟨w1.heap.size, 1, none⟩ = some (.int .i64 i) := by rw [hW2]; simp
  have q2 : W2.cell? ⟨w1.heap.size, 2, none⟩ = some (.int .i64 j) := by rw [hW2]; simp
  have q3 : W2.cell? ⟨w1.heap.size, 3, none⟩ = some (.int .i64 k) := by rw [hW2]; simp
  have q4 : W2.cell? ⟨w1.heap.size, 4, none⟩ = some (.string xt) := by rw [hW2]; simp
  have lW2 : w1.heap.size < W2.heap.size := World.block_lt_of_cell? _ _ q0
  clear HIN HIN1 had
  go_wp2_with fail
  go_region
  rw [← hW2]
  have B2 := below_step hb1 b2
  have H2 := hide (H.out.below B2)
  replace hT := H2.out.mT
  replace hA := H2.out.tAt t htl
  replace hR := H2.out.tRegs t htl
  replace hC := keep_cell b2 hC
  replace zt := H2.out.ft (t * 3 + 2)
  have dk := H2.out.d1
  have dr1 := (H2.out.d2 t htl).1
  have dr2 := (H2.out.d2 t htl).2
  have G2 : Hid (Stg cs p m.mem w w1.heap.size p.rp p.mv m W2) := hide (Stg.first H.out B2 hb1.size lW2)
  obtain ⟨nk, nt, nr⟩ := G2.out.ne
  replace nr := nr t htl
  have lk2 : p.k < W2.heap.size := by omega
  have lt2 : p.tb < W2.heap.size := by omega
  have lr2 : p.rb t < W2.heap.size := by omega
  obtain ⟨W3, hW3⟩ : ∃ W3, W3 = W2.setCell ⟨p.tb, t * 3 + 2, none⟩ (.int .i64 ((m.pc t : Int) + 1)) := ⟨_, rfl⟩
  have S3 : Hid (RkStep cs p m.mem W2 p.rp p.mv (m.setPc t (m.pc t + 1)) W3) := hide (by rw [hW3]; exact H2.out.setPc htl (m.pc t + 1))
  have G3 : Hid (Stg cs p m.mem w w1.heap.size p.rp p.mv (m.setPc t (m.pc t + 1)) W3) := hide (G2.out.trans S3.out)
  have HM3 : Hid (RkAt cs p (m.setPc t (m.pc t + 1)) W3) := hide G3.out.step.at'
  have HX3 : Hid (RkX cs p (m.setPc t (m.pc t + 1)) K W3) := hide ⟨HM3.out, HX.out.ok.setPc t (by omega), HX.out.right, HX.out.hK⟩
  have y0 := G2.out.keep S3.out q0
  have y1 := G2.out.keep S3.out q1
  have y2 := G2.out.keep S3.out q2
  have y3 := G2.out.keep S3.out q3
  have y4 := G2.out.keep S3.out q4
  have T3 := HM3.out.mT
  have R3 := HM3.out.tRegs t htl
  have k3 := HM3.out.mM
  have lW3 : w1.heap.size < W3.heap.size := G3.out.lt
  have G0 : Hid (∀ r, r < 8 → W2.cell? ⟨p.rb t, r, none⟩ = some (.int .i64 (m.regs t r)) ∧ W2.frozen? ⟨p.rb t, r, none⟩ = false) := fun r hr => ⟨H2.out.regs t r htl hr, H2.out.fr t r htl⟩
  clear H2 c0 c1 c2 c3 c4 hb1 b2 B2 hW2 G2 S3 H1 lcb
  obtain ⟨fi, fzi⟩ := G0.out i (by omega)
  have gi : W3.cell? ⟨p.rb t, i, none⟩ = some (.int .i64 (m.regs t i)) := HM3.out.regs t i htl (by omega)
  obtain ⟨fj, fzj⟩ := G0.out j (by omega)
  have gj : W3.cell? ⟨p.rb t, j, none⟩ = some (.int .i64 (m.regs t j)) := HM3.out.regs t j htl (by omega)
  clear G0
  have hwd : Wd (m.regs t i) := HX3.out.ok.regs t i
  have hfl : (m.setPc t (m.pc t + 1)).faults ≤ 900000000 := HX3.out.faults
  have hx8 := HX3.out.few htl
  have hwj : Wd (m.regs t j) := HX3.out.ok.regs t j
  cases hy : (m.setPc t (m.pc t + 1)).names (m.regs t i)
  · have HQ : Hid (M' = (m.setPc t (m.pc t + 1)).addFault 1) := by show _ = _; rw [HM'.out]; unfold Mk.store; rw [hy]; rfl
    have HN := hide (rnames_no hwd HM3.out (by omega) hy)
    clear HM3 HX3 hwd hy HM'
    clear hwj
    generalize m.regs t j = Rj at *
    generalize m.regs t i = Ri at *
    go_wp2_with fail
    rw [← hW3]
    clear hT hA hR hC zt q0 q1 q2 q3 q4 lW2 lk2 lt2 lr2 hW3
    refine HN.out.mono ?_
    rintro e w4 ⟨⟨c4, g4, rfl⟩, k4⟩
    clear HN
    replace y1 := G3.out.keep k4 y1
    replace y2 := G3.out.keep k4 y2
    have G4 := hide (G3.out.trans k4)
    have HM4 := hide G4.out.step.at'
    have lr4 : p.rb t < w4.heap.size := HM4.out.lr htl
    have lx4 := G4.out.lt
    have HS := hide (G4.out.below ((Below.refl _ _).alloc (Nat.le_refl _) (.cells #[.int .i64 c4, .int .i64 g4] 95)))
    clear k4 G4 HM4 G3 T3 R3 k3 y0 y3 y4
    go_wp2
    go_ret
    exact ⟨rfl, _, _, by rw [HQ.out]; exact HS.out.step⟩
  · have HQ : Hid (M' = ((m.setPc t (m.pc t + 1)).room t).put t (m.regs t i) k (m.regs t j)) := by show _ = _; rw [HM'.out]; unfold Mk.store; rw [hy]; rfl
    have HST : Hid (∀ (r : RmPl) (m' : Mk) w', RkAt cs (p.to r p.mv) m' w' → (m'.mem.waits t).length < 8 → m'.names (m.regs t i) = true → Calls Tryz.prog 59 #[.pointer (some ⟨r.mb, 0, none⟩), .int .i64 t, .agg #[.int .i64 (cellOf (m.regs t i)), .int .i64 (genOf (m.regs t i))], .int .i64 k, .int .i64 (m.regs t j)] w' fun e w'' => e = .returned (.int .i64 0) ∧ Hid (∃ r', RkStep cs (p.to r p.mv) m'.mem w' r' p.mv (m'.put t (m.regs t i) k (m.regs t j)) w'')) := fun r m' w' h h8 hn => rk_store h htl h8 hn hk hwj
    have hxs := HX3.out.waits htl
    obtain ⟨kk, hck, hkk, hhas⟩ := HM3.out.cellAt hy
    have HN := hide (rnames_yes hwd HM3.out hy)
    rw [hck] at HN
    obtain ⟨Gn, hGn⟩ : ∃ Gn, Gn = genOf (m.regs t i) := ⟨_, rfl⟩
    rw [← hGn] at HN
    rw [hck, ← hGn] at HST
    have hthr : (m.setPc t (m.pc t + 1)).mem.threads = cs.length := HM3.out.thr
    have hHD : Hid (∀ w' x l, RkAt cs p (m.setPc t (m.pc t + 1)) w' → (m.setPc t (m.pc t + 1)).mem.waits t = x :: l → Calls Tryz.prog 58 #[.pointer (some ⟨p.rp.mb, 0, none⟩), .int .i64 t] w' fun e w'' => e = .returned (.int .i64 (if (m.setPc t (m.pc t + 1)).mem.ar.has x.c x.g = true then 0 else 7)) ∧ Hid (∃ r, RkStep cs p (m.setPc t (m.pc t + 1)).mem w' r p.mv ((m.setPc t (m.pc t + 1)).setMem ((m.setPc t (m.pc t + 1)).mem.drained t x l)) w'')) := fun w' x l h he => rk_drain h htl he (hxs x (by rw [he]; exact List.mem_cons_self)) hx8
    clear HM3 HX3 hwd hwj hhas HM' hck hGn hxs
    obtain ⟨Rj, RJ⟩ : ∃ Rj, m.regs t j = Rj := ⟨_, rfl⟩
    rw [RJ] at gj fj HST HQ
    go_wp2_with fail
    rw [← hW3]
    clear hT hA hR hC zt q0 q1 q2 q3 q4 lW2 lk2 lt2 lr2 hW3
    refine HN.out.mono ?_
    rintro e w4 ⟨rfl, hb4⟩
    clear HN
    have G4 := hide (G3.out.below hb4)
    have HM4 : Hid (RkAt cs p (m.setPc t (m.pc t + 1)) w4) := hide G4.out.step.at'
    obtain ⟨W5, hW5⟩ : ∃ W5, W5 = w4.alloc (.cells #[.int .i64 kk, .int .i64 Gn] 95) := ⟨_, rfl⟩
    have b5 : Below w4.heap.size w4 W5 := by rw [hW5]; exact (Below.refl _ _).alloc (Nat.le_refl _) _
    have G5 := hide (G4.out.below b5)
    have HM5 : Hid (RkAt cs p (m.setPc t (m.pc t + 1)) W5) := hide G5.out.step.at'
    have R5 := hide (G4.out.other (bx' := w4.heap.size) (Nat.le_refl _) b5 (by rw [hW5]; simp))
    have x0 : W5.cell? ⟨w4.heap.size, 0, none⟩ = some (.int .i64 kk) := by rw [hW5]; simp
    have x1 : W5.cell? ⟨w4.heap.size, 1, none⟩ = some (.int .i64 Gn) := by rw [hW5]; simp
    have p2 := keep_cell b5 (keep_cell hb4 y2)
    have p3 := keep_cell b5 (keep_cell hb4 y3)
    have uM : W5.cell? ⟨p.k, 0, none⟩ = some (.pointer (some ⟨p.rp.mb, 0, none⟩)) := HM5.out.mM
    have sj := keep_cell b5 (keep_cell hb4 gj)
    have u4 : w4.cell? ⟨p.k, 0, none⟩ = some (.pointer (some ⟨p.rp.mb, 0, none⟩)) := HM4.out.mM
    have t4 : w4.cell? ⟨p.rp.mb, 1, none⟩ = some (.slice (some ⟨p.rp.tb, 0, none⟩) (m.setPc t (m.pc t + 1)).mem.threads p.rp.tcap) := HM4.out.mem.mWaits
    have tc4 : (m.setPc t (m.pc t + 1)).mem.threads ≤ p.rp.tcap := HM4.out.mem.tcap
    obtain ⟨uv, uown⟩ := HM4.out.mem.waits t (by rw [hthr]; exact htl)
    obtain ⟨uad, ucap, uvs, -, -, -⟩ := ownsRow_shape uown
    rw [uvs] at uv
    rw [hthr] at t4 tc4
    clear uown uvs
    have q4k : p.k < w4.heap.size := HM4.out.lk
    have q4m : p.rp.mb < w4.heap.size := HM4.out.mem.lm
    have q4t : p.rp.tb < w4.heap.size := HM4.out.mem.lt
    clear b5 hb4 G3 G4 HM4 y0 y1 y2 y3 y4 gi gj T3 R3 k3
    by_cases h8 : ((m.setPc t (m.pc t + 1)).mem.waits t).length < 8
    · have HR : Hid ((m.setPc t (m.pc t + 1)).room t = (m.setPc t (m.pc t + 1))) := by show _ = _; unfold Mk.room; rw [if_neg (by omega)]
      have HS5 := hide (HST.out p.rp (m.setPc t (m.pc t + 1)) (W5.drewN 1) (HM5.out.drewN 1) h8 hy)
      have h8i : ((((m.setPc t (m.pc t + 1)).mem.waits t).length : Nat) : Int) < 8 := by omega
      clear HST hy hx8 h8 R5 HM5 hHD
      generalize ((m.setPc t (m.pc t + 1)).mem.waits t).length = N8 at *
      go_wp2_with fail
      rw [← hW5]
      clear hW5 u4 t4 uv
      refine wp_region_F (S := (fun w' => w'.cell? ⟨p.k, 0, none⟩ = some (.pointer (some ⟨p.rp.mb, 0, none⟩)) ∧ w'.cell? ⟨w4.heap.size, 0, none⟩ = some (.int .i64 kk) ∧ w'.cell? ⟨w4.heap.size, 1, none⟩ = some (.int .i64 Gn) ∧ w'.cell? ⟨w1.heap.size, 2, none⟩ = some (.int .i64 j) ∧ w'.cell? ⟨w1.heap.size, 3, none⟩ = some (.int .i64 k) ∧ w'.cell? ⟨p.rb t, j, none⟩ = some (.int .i64 Rj))) (by kernel_rfl) (by (try dsimp only); go_keep) (fun hHeld => ?_)
      refine' wpAnyF_take (i := 0) (n := 13) (v := _) rfl (by kernel_rfl) (fun _ _ _ h => h) (by assumption) (Or.inl ⟨by rfl, ?hy53⟩) ?rest53
      case' hy53 => (intro w' hSw; (try dsimp only at hSw); go_simp; try with_reducible rfl)
      try simp only [Act.put, List.getElem_toArray, List.getElem_cons_zero, List.setIfInBounds_toArray, List.set_cons_zero, List.set_cons_succ]
      refine' wpAnyF_take (i := 1) (n := 13) (v := _) rfl (by kernel_rfl) (fun _ _ _ h => h) (by assumption) (Or.inl ⟨by rfl, ?hy54⟩) ?rest54
      case' hy54 => (intro w' hSw; (try dsimp only at hSw); go_simp; try with_reducible rfl)
      try simp only [Act.put, List.getElem_toArray, List.getElem_cons_zero, List.getElem_cons_succ, List.setIfInBounds_toArray, List.set_cons_zero, List.set_cons_succ]
      refine' wpAnyF_take (i := 2) (n := 13) (v := _) rfl (by kernel_rfl) (fun _ _ _ h => h) (by assumption) (Or.inl ⟨by rfl, ?hy55⟩) ?rest55
      case' hy55 => (intro w' hSw; (try dsimp only at hSw); go_simp; try with_reducible rfl)
      try simp only [Act.put, List.getElem_toArray, List.getElem_cons_zero, List.getElem_cons_succ, List.setIfInBounds_toArray, List.set_cons_zero, List.set_cons_succ]
      refine' wpAnyF_take (i := 3) (n := 13) (v := _) rfl (by kernel_rfl) (fun _ _ _ h => h) (by assumption) (Or.inl ⟨by rfl, ?hy56⟩) ?rest56
      case' hy56 => (intro w' hSw; (try dsimp only at hSw); go_simp; try with_reducible rfl)
      try simp only [Act.put, List.getElem_toArray, List.getElem_cons_zero, List.getElem_cons_succ, List.setIfInBounds_toArray, List.set_cons_zero, List.set_cons_succ]
      refine' wpAnyF_take (i := 4) (n := 13) (v := _) rfl (by kernel_rfl) (fun _ _ _ h => h) (by assumption) (Or.inl ⟨by rfl, ?hy57⟩) ?rest57
      case' hy57 => (intro w' hSw; (try dsimp only at hSw); go_simp; try with_reducible rfl)
      try simp only [Act.put, List.getElem_toArray, List.getElem_cons_zero, List.getElem_cons_succ, List.setIfInBounds_toArray, List.set_cons_zero, List.set_cons_succ]
      refine' wpAnyF_take (i := 5) (n := 13) (v := _) rfl (by kernel_rfl) (fun _ _ _ h => h) (by assumption) (Or.inl ⟨by rfl, ?hy58⟩) ?rest58
      case' hy58 => (intro w' hSw; (try dsimp only at hSw); go_simp; try with_reducible rfl)
      try simp only [Act.put, List.getElem_toArray, List.getElem_cons_zero, List.getElem_cons_succ, List.setIfInBounds_toArray, List.set_cons_zero, List.set_cons_succ]
      refine' wpAnyF_take (i := 6) (n := 13) (v := _) rfl (by kernel_rfl) (fun _ _ _ h => h) (by assumption) (Or.inl ⟨by rfl, ?hy59⟩) ?rest59
      case' hy59 => (intro w' hSw; (try dsimp only at hSw); go_simp; try with_reducible rfl)
      try simp only [Act.put, List.getElem_toArray, List.getElem_cons_zero, List.getElem_cons_succ, List.setIfInBounds_toArray, List.set_cons_zero, List.set_cons_succ]
      refine' wpAnyF_take (i := 7) (n := 13) (v := _) rfl (by kernel_rfl) (fun _ _ _ h => h) (by assumption) (Or.inl ⟨by rfl, ?hy60⟩) ?rest60
      case' hy60 => (intro w' hSw; (try dsimp only at hSw); go_simp; try with_reducible rfl)
      try simp only [Act.put, List.getElem_toArray, List.getElem_cons_zero, List.getElem_cons_succ, List.setIfInBounds_toArray, List.set_cons_zero, List.set_cons_succ]
      refine' wpAnyF_take (i := 8) (n := 13) (v := _) rfl (by kernel_rfl) (fun _ _ _ h => h) (by assumption) (Or.inl ⟨by rfl, ?hy61⟩) ?rest61
      case' hy61 => (intro w' hSw; (try dsimp only at hSw); go_simp; try with_reducible rfl)
      try simp only [Act.put, List.getElem_toArray, List.getElem_cons_zero, List.getElem_cons_succ, List.setIfInBounds_toArray, List.set_cons_zero, List.set_cons_succ]
      refine' wpAnyF_take (i := 9) (n := 13) (v := _) rfl (by kernel_rfl) (fun _ _ _ h => h) (by assumption) (Or.inl ⟨by rfl, ?hy62⟩) ?rest62
      case' hy62 => (intro w' hSw; (try dsimp only at hSw); go_simp; try with_reducible rfl)
      try simp only [Act.put, List.getElem_toArray, List.getElem_cons_zero, List.getElem_cons_succ, List.setIfInBounds_toArray, List.set_cons_zero, List.set_cons_succ]
      refine' wpAnyF_take (i := 10) (n := 13) (v := _) rfl (by kernel_rfl) (fun _ _ _ h => h) (by assumption) (Or.inl ⟨by rfl, ?hy63⟩) ?rest63
      case' hy63 => (intro w' hSw; (try dsimp only at hSw); go_simp; try with_reducible rfl)
      try simp only [Act.put, List.getElem_toArray, List.getElem_cons_zero, List.getElem_cons_succ, List.setIfInBounds_toArray, List.set_cons_zero, List.set_cons_succ]
      refine' wpAnyF_take (i := 11) (n := 13) (v := _) rfl (by kernel_rfl) (fun _ _ _ h => h) (by assumption) (Or.inl ⟨by rfl, ?hy64⟩) ?rest64
      case' hy64 => (intro w' hSw; (try dsimp only at hSw); go_simp; try with_reducible rfl)
      try simp only [Act.put, List.getElem_toArray, List.getElem_cons_zero, List.getElem_cons_succ, List.setIfInBounds_toArray, List.set_cons_zero, List.set_cons_succ]
      refine' wpAnyF_take (i := 12) (n := 13) (v := _) rfl (by kernel_rfl) (fun _ _ _ h => h) (by assumption) (Or.inl ⟨by rfl, ?hy65⟩) ?rest65
      case' hy65 => (intro w' hSw; (try dsimp only at hSw); go_simp; try with_reducible rfl)
      try simp only [Act.put, List.getElem_toArray, List.getElem_cons_zero, List.getElem_cons_succ, List.setIfInBounds_toArray, List.set_cons_zero, List.set_cons_succ]
      refine wpAnyF_only (i := 13) rfl (by kernel_rfl) (fun K hK => ?_)
      go_simp
      go_at_call 59
      refine HS5.out.mono ?_
      rintro e w9 ⟨rfl, k9⟩
      dsimp only
      refine hK.out _ _ (Or.inl (by kernel_rfl)) ?_
      clear hK K
      try simp only [Act.put, List.getElem_toArray, List.getElem_cons_zero, List.getElem_cons_succ, List.setIfInBounds_toArray, List.set_cons_zero, List.set_cons_succ]
      refine wpAnyF_done (by kernel_rfl) ?_ _
      go_wp2
      go_ret
      obtain ⟨r9, k10⟩ := k9.out
      exact ⟨rfl, _, _, by rw [HQ.out, HR.out]; exact (G5.out.below (Below.drewN' 1)).step.trans k10⟩
    · obtain ⟨x, l, he⟩ : ∃ x l, (m.setPc t (m.pc t + 1)).mem.waits t = x :: l := by
        cases hh : (m.setPc t (m.pc t + 1)).mem.waits t with
        | nil => rw [hh] at h8; exact absurd (show 0 < 8 by decide) h8
        | cons x l => exact ⟨x, l, rfl⟩
      have h8i : ¬ ((((m.setPc t (m.pc t + 1)).mem.waits t).length : Nat) : Int) < 8 := by omega
      have h8j : (8 : Int) ≤ ((((m.setPc t (m.pc t + 1)).mem.waits t).length : Nat) : Int) := by omega
      have hl8 : l.length < 8 := by rw [he, List.length_cons] at hx8; omega
      have HD5 := hide (hHD.out W5 x l HM5.out he)
      have hdn : ((m.setPc t (m.pc t + 1)).setMem ((m.setPc t (m.pc t + 1)).mem.drained t x l)).names (m.regs t i) = true := by rw [← hy]; unfold Mk.names; rw [show ((m.setPc t (m.pc t + 1)).setMem ((m.setPc t (m.pc t + 1)).mem.drained t x l)).mem = (m.setPc t (m.pc t + 1)).mem.drained t x l from rfl, Ar.has_drained]
      have hdw : (((m.setPc t (m.pc t + 1)).setMem ((m.setPc t (m.pc t + 1)).mem.drained t x l)).mem.waits t).length < 8 := by rw [show ((m.setPc t (m.pc t + 1)).setMem ((m.setPc t (m.pc t + 1)).mem.drained t x l)).mem = (m.setPc t (m.pc t + 1)).mem.drained t x l from rfl, Rm.drained_waits]; exact hl8
      have HR0 : Hid ((m.setPc t (m.pc t + 1)).room t = if (m.setPc t (m.pc t + 1)).mem.ar.has x.c x.g = true then (m.setPc t (m.pc t + 1)).setMem ((m.setPc t (m.pc t + 1)).mem.drained t x l) else ((m.setPc t (m.pc t + 1)).setMem ((m.setPc t (m.pc t + 1)).mem.drained t x l)).addFault 1) := by
        show _ = _
        unfold Mk.room Mk.drain1
        rw [if_pos (by omega), he]
        by_cases hh : (m.setPc t (m.pc t + 1)).mem.ar.has x.c x.g = true
        · simp only [if_pos hh]; rfl
        · simp only [if_neg hh]; rfl
      clear hHD hy hx8 h8 he HM5
      generalize ((m.setPc t (m.pc t + 1)).mem.waits t).length = N8 at *
      cases hh : (m.setPc t (m.pc t + 1)).mem.ar.has x.c x.g
      · have HR : Hid ((m.setPc t (m.pc t + 1)).room t = ((m.setPc t (m.pc t + 1)).setMem ((m.setPc t (m.pc t + 1)).mem.drained t x l)).addFault 1) := by show _ = _; rw [HR0.out, hh]; rfl
        rw [hh, if_neg (by decide)] at HD5
        clear HR0 hh hl8
        go_wp2_with fail
        rw [← hW5]
        clear hW5 u4 t4 uv
        refine HD5.out.mono ?_
        rintro e w6 ⟨rfl, k6⟩
        clear HD5
        obtain ⟨r, k6⟩ := k6.out
        replace x0 := R5.out.keep k6 x0
        replace x1 := R5.out.keep k6 x1
        replace p2 := G5.out.keep k6 p2
        replace p3 := G5.out.keep k6 p3
        have G6 := hide (G5.out.trans k6)
        have R6 := hide (R5.out.trans k6)
        have HM6 : Hid (RkAt cs (p.to r p.mv) ((m.setPc t (m.pc t + 1)).setMem ((m.setPc t (m.pc t + 1)).mem.drained t x l)) w6) := hide G6.out.step.at'
        have hf6 : w6.cell? ⟨p.k, 3, none⟩ = some (.int .i64 m.faults) := HM6.out.mFaults
        have hz6 : w6.frozen? ⟨p.k, 3, none⟩ = false := HM6.out.fk 3
        have hfl2 : m.faults ≤ 900000000 := hfl
        have kF : RkStep cs (p.to r p.mv) ((m.setPc t (m.pc t + 1)).setMem ((m.setPc t (m.pc t + 1)).mem.drained t x l)).mem w6 r p.mv (((m.setPc t (m.pc t + 1)).setMem ((m.setPc t (m.pc t + 1)).mem.drained t x l)).addFault 1) (w6.setCell ⟨p.k, 3, none⟩ (.int .i64 ((m.faults : Int) + 1))) := HM6.out.addFault 1
        obtain ⟨W7, hW7⟩ : ∃ W7, W7 = w6.setCell ⟨p.k, 3, none⟩ (.int .i64 ((m.faults : Int) + 1)) := ⟨_, rfl⟩
        rw [← hW7] at kF
        have z0 := R6.out.keep kF x0
        have z1 := R6.out.keep kF x1
        have z2 := G6.out.keep kF p2
        have z3 := G6.out.keep kF p3
        have G7 := hide (G6.out.trans kF)
        have HM7 : Hid (RkAt cs (p.to r p.mv) (((m.setPc t (m.pc t + 1)).setMem ((m.setPc t (m.pc t + 1)).mem.drained t x l)).addFault 1) W7) := hide G7.out.step.at'
        have HS5 := hide (HST.out r (((m.setPc t (m.pc t + 1)).setMem ((m.setPc t (m.pc t + 1)).mem.drained t x l)).addFault 1) (W7.drewN 1) (HM7.out.drewN 1) hdw hdn)
        have zM : W7.cell? ⟨p.k, 0, none⟩ = some (.pointer (some ⟨r.mb, 0, none⟩)) := HM7.out.mM
        have zj : W7.cell? ⟨p.rb t, j, none⟩ = some (.int .i64 (m.regs t j)) := HM7.out.regs t j htl hj
        have um6 : w6.cell? ⟨p.k, 0, none⟩ = some (.pointer (some ⟨r.mb, 0, none⟩)) := HM6.out.mM
        rw [RJ] at zj
        clear HST G6 R6 HM6 kF k6 R5 HM7 uM sj hdw hdn
        generalize m.faults = N at *
        go_wp2_with fail
        rw [← hW7]
        clear hW7 hf6 hz6 x0 x1 p2 p3 um6
        refine wp_region_F (S := (fun w' => w'.cell? ⟨p.k, 0, none⟩ = some (.pointer (some ⟨r.mb, 0, none⟩)) ∧ w'.cell? ⟨w4.heap.size, 0, none⟩ = some (.int .i64 kk) ∧ w'.cell? ⟨w4.heap.size, 1, none⟩ = some (.int .i64 Gn) ∧ w'.cell? ⟨w1.heap.size, 2, none⟩ = some (.int .i64 j) ∧ w'.cell? ⟨w1.heap.size, 3, none⟩ = some (.int .i64 k) ∧ w'.cell? ⟨p.rb t, j, none⟩ = some (.int .i64 Rj))) (by kernel_rfl) (by (try dsimp only); go_keep) (fun hHeld => ?_)
        refine' wpAnyF_take (i := 0) (n := 13) (v := _) rfl (by kernel_rfl) (fun _ _ _ h => h) (by assumption) (Or.inl ⟨by rfl, ?hy66⟩) ?rest66
        case' hy66 => (intro w' hSw; (try dsimp only at hSw); go_simp; try with_reducible rfl)
        try simp only [Act.put, List.getElem_toArray, List.getElem_cons_zero, List.setIfInBounds_toArray, List.set_cons_zero, List.set_cons_succ]
        refine' wpAnyF_take (i := 1) (n := 13) (v := _) rfl (by kernel_rfl) (fun _ _ _ h => h) (by assumption) (Or.inl ⟨by rfl, ?hy67⟩) ?rest67
        case' hy67 => (intro w' hSw; (try dsimp only at hSw); go_simp; try with_reducible rfl)
        try simp only [Act.put, List.getElem_toArray, List.getElem_cons_zero, List.getElem_cons_succ, List.setIfInBounds_toArray, List.set_cons_zero, List.set_cons_succ]
        refine' wpAnyF_take (i := 2) (n := 13) (v := _) rfl (by kernel_rfl) (fun _ _ _ h => h) (by assumption) (Or.inl ⟨by rfl, ?hy68⟩) ?rest68
        case' hy68 => (intro w' hSw; (try dsimp only at hSw); go_simp; try with_reducible rfl)
        try simp only [Act.put, List.getElem_toArray, List.getElem_cons_zero, List.getElem_cons_succ, List.setIfInBounds_toArray, List.set_cons_zero, List.set_cons_succ]
        refine' wpAnyF_take (i := 3) (n := 13) (v := _) rfl (by kernel_rfl) (fun _ _ _ h => h) (by assumption) (Or.inl ⟨by rfl, ?hy69⟩) ?rest69
        case' hy69 => (intro w' hSw; (try dsimp only at hSw); go_simp; try with_reducible rfl)
        try simp only [Act.put, List.getElem_toArray, List.getElem_cons_zero, List.getElem_cons_succ, List.setIfInBounds_toArray, List.set_cons_zero, List.set_cons_succ]
        refine' wpAnyF_take (i := 4) (n := 13) (v := _) rfl (by kernel_rfl) (fun _ _ _ h => h) (by assumption) (Or.inl ⟨by rfl, ?hy70⟩) ?rest70
        case' hy70 => (intro w' hSw; (try dsimp only at hSw); go_simp; try with_reducible rfl)
        try simp only [Act.put, List.getElem_toArray, List.getElem_cons_zero, List.getElem_cons_succ, List.setIfInBounds_toArray, List.set_cons_zero, List.set_cons_succ]
        refine' wpAnyF_take (i := 5) (n := 13) (v := _) rfl (by kernel_rfl) (fun _ _ _ h => h) (by assumption) (Or.inl ⟨by rfl, ?hy71⟩) ?rest71
        case' hy71 => (intro w' hSw; (try dsimp only at hSw); go_simp; try with_reducible rfl)
        try simp only [Act.put, List.getElem_toArray, List.getElem_cons_zero, List.getElem_cons_succ, List.setIfInBounds_toArray, List.set_cons_zero, List.set_cons_succ]
        refine' wpAnyF_take (i := 6) (n := 13) (v := _) rfl (by kernel_rfl) (fun _ _ _ h => h) (by assumption) (Or.inl ⟨by rfl, ?hy72⟩) ?rest72
        case' hy72 => (intro w' hSw; (try dsimp only at hSw); go_simp; try with_reducible rfl)
        try simp only [Act.put, List.getElem_toArray, List.getElem_cons_zero, List.getElem_cons_succ, List.setIfInBounds_toArray, List.set_cons_zero, List.set_cons_succ]
        refine' wpAnyF_take (i := 7) (n := 13) (v := _) rfl (by kernel_rfl) (fun _ _ _ h => h) (by assumption) (Or.inl ⟨by rfl, ?hy73⟩) ?rest73
        case' hy73 => (intro w' hSw; (try dsimp only at hSw); go_simp; try with_reducible rfl)
        try simp only [Act.put, List.getElem_toArray, List.getElem_cons_zero, List.getElem_cons_succ, List.setIfInBounds_toArray, List.set_cons_zero, List.set_cons_succ]
        refine' wpAnyF_take (i := 8) (n := 13) (v := _) rfl (by kernel_rfl) (fun _ _ _ h => h) (by assumption) (Or.inl ⟨by rfl, ?hy74⟩) ?rest74
        case' hy74 => (intro w' hSw; (try dsimp only at hSw); go_simp; try with_reducible rfl)
        try simp only [Act.put, List.getElem_toArray, List.getElem_cons_zero, List.getElem_cons_succ, List.setIfInBounds_toArray, List.set_cons_zero, List.set_cons_succ]
        refine' wpAnyF_take (i := 9) (n := 13) (v := _) rfl (by kernel_rfl) (fun _ _ _ h => h) (by assumption) (Or.inl ⟨by rfl, ?hy75⟩) ?rest75
        case' hy75 => (intro w' hSw; (try dsimp only at hSw); go_simp; try with_reducible rfl)
        try simp only [Act.put, List.getElem_toArray, List.getElem_cons_zero, List.getElem_cons_succ, List.setIfInBounds_toArray, List.set_cons_zero, List.set_cons_succ]
        refine' wpAnyF_take (i := 10) (n := 13) (v := _) rfl (by kernel_rfl) (fun _ _ _ h => h) (by assumption) (Or.inl ⟨by rfl, ?hy76⟩) ?rest76
        case' hy76 => (intro w' hSw; (try dsimp only at hSw); go_simp; try with_reducible rfl)
        try simp only [Act.put, List.getElem_toArray, List.getElem_cons_zero, List.getElem_cons_succ, List.setIfInBounds_toArray, List.set_cons_zero, List.set_cons_succ]
        refine' wpAnyF_take (i := 11) (n := 13) (v := _) rfl (by kernel_rfl) (fun _ _ _ h => h) (by assumption) (Or.inl ⟨by rfl, ?hy77⟩) ?rest77
        case' hy77 => (intro w' hSw; (try dsimp only at hSw); go_simp; try with_reducible rfl)
        try simp only [Act.put, List.getElem_toArray, List.getElem_cons_zero, List.getElem_cons_succ, List.setIfInBounds_toArray, List.set_cons_zero, List.set_cons_succ]
        refine' wpAnyF_take (i := 12) (n := 13) (v := _) rfl (by kernel_rfl) (fun _ _ _ h => h) (by assumption) (Or.inl ⟨by rfl, ?hy78⟩) ?rest78
        case' hy78 => (intro w' hSw; (try dsimp only at hSw); go_simp; try with_reducible rfl)
        try simp only [Act.put, List.getElem_toArray, List.getElem_cons_zero, List.getElem_cons_succ, List.setIfInBounds_toArray, List.set_cons_zero, List.set_cons_succ]
        refine wpAnyF_only (i := 13) rfl (by kernel_rfl) (fun K hK => ?_)
        go_simp
        go_at_call 59
        refine HS5.out.mono ?_
        rintro e w9 ⟨rfl, k9⟩
        dsimp only
        refine hK.out _ _ (Or.inl (by kernel_rfl)) ?_
        clear hK K
        try simp only [Act.put, List.getElem_toArray, List.getElem_cons_zero, List.getElem_cons_succ, List.setIfInBounds_toArray, List.set_cons_zero, List.set_cons_succ]
        refine wpAnyF_done (by kernel_rfl) ?_ _
        go_wp2
        go_ret
        obtain ⟨r9, k10⟩ := k9.out
        exact ⟨rfl, _, _, by rw [HQ.out, HR.out]; exact (G7.out.below (Below.drewN' 1)).step.trans k10⟩
      · have HR : Hid ((m.setPc t (m.pc t + 1)).room t = (m.setPc t (m.pc t + 1)).setMem ((m.setPc t (m.pc t + 1)).mem.drained t x l)) := by show _ = _; rw [HR0.out, hh]; rfl
        rw [hh, if_pos rfl] at HD5
        clear HR0 hh hl8
        go_wp2_with fail
        rw [← hW5]
        clear hW5 u4 t4 uv
        refine HD5.out.mono ?_
        rintro e w6 ⟨rfl, k6⟩
        clear HD5
        obtain ⟨r, k6⟩ := k6.out
        replace x0 := R5.out.keep k6 x0
        replace x1 := R5.out.keep k6 x1
        replace p2 := G5.out.keep k6 p2
        replace p3 := G5.out.keep k6 p3
        have G6 := hide (G5.out.trans k6)
        have HM6 : Hid (RkAt cs (p.to r p.mv) ((m.setPc t (m.pc t + 1)).setMem ((m.setPc t (m.pc t + 1)).mem.drained t x l)) w6) := hide G6.out.step.at'
        have HS5 := hide (HST.out r ((m.setPc t (m.pc t + 1)).setMem ((m.setPc t (m.pc t + 1)).mem.drained t x l)) (w6.drewN 1) (HM6.out.drewN 1) hdw hdn)
        have zM : w6.cell? ⟨p.k, 0, none⟩ = some (.pointer (some ⟨r.mb, 0, none⟩)) := HM6.out.mM
        have zj : w6.cell? ⟨p.rb t, j, none⟩ = some (.int .i64 (m.regs t j)) := HM6.out.regs t j htl hj
        rw [RJ] at zj
        clear HST HM6 k6 R5 uM sj hdw hdn
        go_wp2_with fail
        refine wp_region_F (S := (fun w' => w'.cell? ⟨p.k, 0, none⟩ = some (.pointer (some ⟨r.mb, 0, none⟩)) ∧ w'.cell? ⟨w4.heap.size, 0, none⟩ = some (.int .i64 kk) ∧ w'.cell? ⟨w4.heap.size, 1, none⟩ = some (.int .i64 Gn) ∧ w'.cell? ⟨w1.heap.size, 2, none⟩ = some (.int .i64 j) ∧ w'.cell? ⟨w1.heap.size, 3, none⟩ = some (.int .i64 k) ∧ w'.cell? ⟨p.rb t, j, none⟩ = some (.int .i64 Rj))) (by kernel_rfl) (by (try dsimp only); go_keep) (fun hHeld => ?_)
        refine' wpAnyF_take (i := 0) (n := 13) (v := _) rfl (by kernel_rfl) (fun _ _ _ h => h) (by assumption) (Or.inl ⟨by rfl, ?hy79⟩) ?rest79
        case' hy79 => (intro w' hSw; (try dsimp only at hSw); go_simp; try with_reducible rfl)
        try simp only [Act.put, List.getElem_toArray, List.getElem_cons_zero, List.setIfInBounds_toArray, List.set_cons_zero, List.set_cons_succ]
        refine' wpAnyF_take (i := 1) (n := 13) (v := _) rfl (by kernel_rfl) (fun _ _ _ h => h) (by assumption) (Or.inl ⟨by rfl, ?hy80⟩) ?rest80
        case' hy80 => (intro w' hSw; (try dsimp only at hSw); go_simp; try with_reducible rfl)
        try simp only [Act.put, List.getElem_toArray, List.getElem_cons_zero, List.getElem_cons_succ, List.setIfInBounds_toArray, List.set_cons_zero, List.set_cons_succ]
        refine' wpAnyF_take (i := 2) (n := 13) (v := _) rfl (by kernel_rfl) (fun _ _ _ h => h) (by assumption) (Or.inl ⟨by rfl, ?hy81⟩) ?rest81
        case' hy81 => (intro w' hSw; (try dsimp only at hSw); go_simp; try with_reducible rfl)
        try simp only [Act.put, List.getElem_toArray, List.getElem_cons_zero, List.getElem_cons_succ, List.setIfInBounds_toArray, List.set_cons_zero, List.set_cons_succ]
        refine' wpAnyF_take (i := 3) (n := 13) (v := _) rfl (by kernel_rfl) (fun _ _ _ h => h) (by assumption) (Or.inl ⟨by rfl, ?hy82⟩) ?rest82
        case' hy82 => (intro w' hSw; (try dsimp only at hSw); go_simp; try with_reducible rfl)
        try simp only [Act.put, List.getElem_toArray, List.getElem_cons_zero, List.getElem_cons_succ, List.setIfInBounds_toArray, List.set_cons_zero, List.set_cons_succ]
        refine' wpAnyF_take (i := 4) (n := 13) (v := _) rfl (by kernel_rfl) (fun _ _ _ h => h) (by assumption) (Or.inl ⟨by rfl, ?hy83⟩) ?rest83
        case' hy83 => (intro w' hSw; (try dsimp only at hSw); go_simp; try with_reducible rfl)
        try simp only [Act.put, List.getElem_toArray, List.getElem_cons_zero, List.getElem_cons_succ, List.setIfInBounds_toArray, List.set_cons_zero, List.set_cons_succ]
        refine' wpAnyF_take (i := 5) (n := 13) (v := _) rfl (by kernel_rfl) (fun _ _ _ h => h) (by assumption) (Or.inl ⟨by rfl, ?hy84⟩) ?rest84
        case' hy84 => (intro w' hSw; (try dsimp only at hSw); go_simp; try with_reducible rfl)
        try simp only [Act.put, List.getElem_toArray, List.getElem_cons_zero, List.getElem_cons_succ, List.setIfInBounds_toArray, List.set_cons_zero, List.set_cons_succ]
        refine' wpAnyF_take (i := 6) (n := 13) (v := _) rfl (by kernel_rfl) (fun _ _ _ h => h) (by assumption) (Or.inl ⟨by rfl, ?hy85⟩) ?rest85
        case' hy85 => (intro w' hSw; (try dsimp only at hSw); go_simp; try with_reducible rfl)
        try simp only [Act.put, List.getElem_toArray, List.getElem_cons_zero, List.getElem_cons_succ, List.setIfInBounds_toArray, List.set_cons_zero, List.set_cons_succ]
        refine' wpAnyF_take (i := 7) (n := 13) (v := _) rfl (by kernel_rfl) (fun _ _ _ h => h) (by assumption) (Or.inl ⟨by rfl, ?hy86⟩) ?rest86
        case' hy86 => (intro w' hSw; (try dsimp only at hSw); go_simp; try with_reducible rfl)
        try simp only [Act.put, List.getElem_toArray, List.getElem_cons_zero, List.getElem_cons_succ, List.setIfInBounds_toArray, List.set_cons_zero, List.set_cons_succ]
        refine' wpAnyF_take (i := 8) (n := 13) (v := _) rfl (by kernel_rfl) (fun _ _ _ h => h) (by assumption) (Or.inl ⟨by rfl, ?hy87⟩) ?rest87
        case' hy87 => (intro w' hSw; (try dsimp only at hSw); go_simp; try with_reducible rfl)
        try simp only [Act.put, List.getElem_toArray, List.getElem_cons_zero, List.getElem_cons_succ, List.setIfInBounds_toArray, List.set_cons_zero, List.set_cons_succ]
        refine' wpAnyF_take (i := 9) (n := 13) (v := _) rfl (by kernel_rfl) (fun _ _ _ h => h) (by assumption) (Or.inl ⟨by rfl, ?hy88⟩) ?rest88
        case' hy88 => (intro w' hSw; (try dsimp only at hSw); go_simp; try with_reducible rfl)
        try simp only [Act.put, List.getElem_toArray, List.getElem_cons_zero, List.getElem_cons_succ, List.setIfInBounds_toArray, List.set_cons_zero, List.set_cons_succ]
        refine' wpAnyF_take (i := 10) (n := 13) (v := _) rfl (by kernel_rfl) (fun _ _ _ h => h) (by assumption) (Or.inl ⟨by rfl, ?hy89⟩) ?rest89
        case' hy89 => (intro w' hSw; (try dsimp only at hSw); go_simp; try with_reducible rfl)
        try simp only [Act.put, List.getElem_toArray, List.getElem_cons_zero, List.getElem_cons_succ, List.setIfInBounds_toArray, List.set_cons_zero, List.set_cons_succ]
        refine' wpAnyF_take (i := 11) (n := 13) (v := _) rfl (by kernel_rfl) (fun _ _ _ h => h) (by assumption) (Or.inl ⟨by rfl, ?hy90⟩) ?rest90
        case' hy90 => (intro w' hSw; (try dsimp only at hSw); go_simp; try with_reducible rfl)
        try simp only [Act.put, List.getElem_toArray, List.getElem_cons_zero, List.getElem_cons_succ, List.setIfInBounds_toArray, List.set_cons_zero, List.set_cons_succ]
        refine' wpAnyF_take (i := 12) (n := 13) (v := _) rfl (by kernel_rfl) (fun _ _ _ h => h) (by assumption) (Or.inl ⟨by rfl, ?hy91⟩) ?rest91
        case' hy91 => (intro w' hSw; (try dsimp only at hSw); go_simp; try with_reducible rfl)
        try simp only [Act.put, List.getElem_toArray, List.getElem_cons_zero, List.getElem_cons_succ, List.setIfInBounds_toArray, List.set_cons_zero, List.set_cons_succ]
        refine wpAnyF_only (i := 13) rfl (by kernel_rfl) (fun K hK => ?_)
        go_simp
        go_at_call 59
        refine HS5.out.mono ?_
        rintro e w9 ⟨rfl, k9⟩
        dsimp only
        refine hK.out _ _ (Or.inl (by kernel_rfl)) ?_
        clear hK K
        try simp only [Act.put, List.getElem_toArray, List.getElem_cons_zero, List.getElem_cons_succ, List.setIfInBounds_toArray, List.set_cons_zero, List.set_cons_succ]
        refine wpAnyF_done (by kernel_rfl) ?_ _
        go_wp2
        go_ret
        obtain ⟨r9, k10⟩ := k9.out
        exact ⟨rfl, _, _, by rw [HQ.out, HR.out]; exact (G6.out.below (Below.drewN' 1)).step.trans k10⟩
end Go.Proofs.YtdpmnlbnlnmjbaaGreatDoor

/- RkJ -/
namespace Go.Proofs.YtdpmnlbnlnmjbaaGreatDoor
open Go.RowKit Go.Extern.Stop Go.Stop Go.Extern

theorem rmarkInfo : ∃ i, Tryz.prog.info? 126 = some i ∧ i.zero = some (.agg #[.int .i64 0, .int .i64 0]) ∧ i.size = 2 ∧ i.bytes = 16 := info_parts (by kernel_rfl)

theorem RkAt.marked {cs : List (List Ins)} {p : RkPl} {m : Mk} {w w6 : World} (h : RkAt cs p m w) (v : Value) (l : List (Nat × Int))
    (hown : w6.ownsRow 0 126 2 v l.length (rmarkCells l)) (hT : Turns (fun k _ => p.mv.ownBlock = some k) w w6) (hk : ∀ k, v.ownBlock = some k → p.mv.ownBlock = some k ∨ w.heap.size ≤ k) :
    RkStep cs p m.mem w p.rp v { m with marks := l } (w6.setCell ⟨p.k, 2, none⟩ v) := by
  have nk : ∀ o : Nat, ¬ (fun k (_ : Nat) => p.mv.ownBlock = some k) p.k o := fun _ e => (h.d4 _ e).1 rfl
  have nt : ∀ o : Nat, ¬ (fun k (_ : Nat) => p.mv.ownBlock = some k) p.tb o := fun _ e => (h.d4 _ e).2.1 rfl
  have nr : ∀ t (o : Nat), t < cs.length → ¬ (fun k (_ : Nat) => p.mv.ownBlock = some k) (p.rb t) o := fun t _ ht e => (h.d4 _ e).2.2 t ht rfl
  have nv : ∀ k, v.ownBlock = some k → k ≠ p.k ∧ k ≠ p.tb ∧ ∀ t, t < cs.length → k ≠ p.rb t := fun k e => by
    rcases hk k e with e | e
    · exact h.d4 k e
    · have h1 := h.lk
      have h2 := h.lt'
      exact ⟨by omega, by omega, fun t ht => by have := h.lr ht; omega⟩
  have T : Turns (fun k o => k = p.k ∧ o = 2) w6 (w6.setCell ⟨p.k, 2, none⟩ v) := (Turns.refl _ _).setCell _ ⟨rfl, rfl⟩
  have T2 : Turns (fun k _ => p.mv.ownBlock = some k ∨ k = p.k) w (w6.setCell ⟨p.k, 2, none⟩ v) := (hT.mono fun _ _ _ e => Or.inl e).setCell _ (Or.inr rfl)
  have hB : ∀ k, p.mv.ownBlock = some k ∨ k = p.k → p.B ≤ k := fun k e => by
    rcases e with e | e
    · exact h.ge k (.inr (.inr (.inr (.inl e))))
    · exact h.ge k (.inl e)
  have dk := h.d1
  have fz1 : ∀ o, (w6.setCell ⟨p.k, 2, none⟩ v).frozen? ⟨p.k, o, none⟩ = false := fun o => by rw [World.frozen?_setCell, hT.frozen _ _ h.lk (nk o)]; exact h.fk o
  have fz2 : ∀ o, (w6.setCell ⟨p.k, 2, none⟩ v).frozen? ⟨p.tb, o, none⟩ = false := fun o => by rw [World.frozen?_setCell, hT.frozen _ _ h.lt' (nt o)]; exact h.ft o
  have fz3 : ∀ t o, t < cs.length → (w6.setCell ⟨p.k, 2, none⟩ v).frozen? ⟨p.rb t, o, none⟩ = false := fun t o ht => by rw [World.frozen?_setCell, hT.frozen _ _ (h.lr ht) (nr t o ht)]; exact h.fr t o ht
  refine ⟨⟨h.rc.turns T2 (fun k _ e => hB k e), h.mem.turns T2 (fun k o e1 e => ?_), h.thr, h.few, h.tcap, cell_ne (hT.keep h.mM (nk 0)) (Or.inr (by decide)), cell_ne (hT.keep h.mT (nk 1)) (Or.inr (by decide)),
      World.cell?_setCell_same _ _ _ (hT.keep h.mMarks (nk 2)), cell_ne (hT.keep h.mFaults (nk 3)) (Or.inr (by decide)),
      fun i L hi => cell_ne (hT.keep (h.tCode i L hi) (nt (i * 3))) (Or.inl dk.symm), h.ccap, fun i hi => cell_ne (hT.keep (h.tRegs i hi) (nt (i * 3 + 1))) (Or.inl dk.symm), fun i hi => cell_ne (hT.keep (h.tAt i hi) (nt (i * 3 + 2))) (Or.inl dk.symm), h.rcap,
      fun i k hi hk => cell_ne (hT.keep (h.regs i k hi hk) (nr i k hi)) (Or.inl (h.d2 i hi).1),
      ownsRow_block hown fun k hk => Below.heap_setCell _ _ _ _ (nv k hk).1,
      fz1, fz2, fz3, by rw [World.size_setCell]; exact Nat.lt_of_lt_of_le h.lt' hT.size, h.d1, h.d2, h.d3, nv, fun k e1 => ?_, fun k e1 => ?_⟩, ?_, fun k e1 => ?_, rfl⟩
  · rcases e with e | e
    · exact (h.d5 k e1).2.2.2 e
    · exact (h.d5 k e1).1 e
  · obtain ⟨g1, g2, g3, g4⟩ := h.d5 k e1
    refine ⟨g1, g2, g3, fun e => ?_⟩
    rcases hk k e with e | e
    · exact g4 e
    · have := h.mem.fp_lt e1; omega
  · rcases e1 with e | e | e | e | e
    · exact h.ge k (.inl e)
    · exact h.ge k (.inr (.inl e))
    · exact h.ge k (.inr (.inr (.inl e)))
    · rcases hk k e with e | e
      · exact h.ge k (.inr (.inr (.inr (.inl e))))
      · have := h.rc.size; show p.B ≤ k; omega
    · exact h.ge k (.inr (.inr (.inr (.inr e))))
  · refine T2.mono fun k _ _ e => ?_
    rcases e with e | e
    · exact .inr (.inr (.inr (.inl e)))
    · exact .inl e
  · rcases e1 with e | e | e | e | e
    · exact .inl (.inl e)
    · exact .inl (.inr (.inl e))
    · exact .inl (.inr (.inr (.inl e)))
    · rcases hk k e with e | e
      · exact .inl (.inr (.inr (.inr (.inl e))))
      · exact .inr e
    · exact .inl (.inr (.inr (.inr (.inr e))))
end Go.Proofs.YtdpmnlbnlnmjbaaGreatDoor
