import Derived.Test.YtaiigfcfmcicjaaGreatDoorF38
import Derived.Deep.RegionHeld3
import Derived.Test.YtaiigfcfmcicjaaGreatDoorF09
import Derived.Test.YtaiigfcfmcicjaaGreatDoorF42
import Derived.Lib.QuietBelow
import Derived.BigQuiet
namespace Go.Proofs.YtaiigfcfmcicjaaGreatDoor
set_option maxRecDepth 100000
set_option maxHeartbeats 8000000
section
open Go.RowKit Go.Extern.Stop Go.Stop Go.Extern Go.Sort
theorem rstep_cas {cs : List (List Ins)} {p : RkPl} {m : Mk} {K t : Nat} {w : World} (D : RkX cs p m K w) {L : List Ins} (ht : cs[t]? = some L) {x : Ins} (hx : L[m.pc t]? = some x) (e : x.op = ⟨#[99, 97, 115]⟩) {i : Nat} (hi : i < 8) (ei : x.a = i) {j : Nat} (hj : j < 7) (ej : x.b = j) {k : Nat} (hk : k < 4) (ek : x.c = k) :
  Calls Tryz.prog 47 #[.pointer (some ⟨p.k, 0, none⟩), .int .i64 t] w fun e w' => e = .returned (.int .i64 0) /\ ∃ r v, RkStep cs p m.mem w r v (m.step L t) w' := by
 have ln : (j : Int) + 1 < 8 := by omega
 have hjw := wrapNext (n := j) (by omega)
 have hjw2 := wrapNext2 (n := j) (by omega)
 have hj8 : j < 8 := by omega
 have hj9 : j + 1 < 8 := by omega
 have ln0 : (0 : Int) <= (j : Int) + 1 := by omega
 have hpc3 : m.pc t + 1 <= 2000 := by have h1 := lt_of_get hx; have h2 := (D.right.right t L ht).1; omega
 have hM : m.step L t = (m.setPc t (m.pc t + 1)).exec L t x := by unfold Mk.step; rw [hx]
 obtain ⟨M', hM'⟩ : ∃ M', M' = (m.setPc t (m.pc t + 1)).exec L t x := ⟨_, rfl⟩
 rw [hM, <- hM']
 rw [exec_cas (m.setPc t (m.pc t + 1)) L t e] at hM'
 clear hM
 rw [ei] at hM'
 rw [ej] at hM'
 rw [ek] at hM'
 simp only [Int.toNat_natCast] at hM'
 try simp only [show ∀ r, (m.setPc t (m.pc t + 1)).regs t r = m.regs t r from fun _ => rfl] at hM'
 have HD := hide (rdone_at ht hx D.at')
 obtain ⟨xo, xa, xb, xc, xt⟩ := x
 dsimp only at e ei ej ek hM' ⊢
 subst e ei ej ek
 have HM' := hide hM'
 clear hM'
 obtain ⟨htl, h6, hpl, hL2, hcap, hcc, ti, t6, pi, hpc2, hpw, hpw2, hr8, HIN, HX, H, d0, hT⟩ := pfx1 D ht hx
 have li : (i : Int) < 8 := by omega
 have lj : (j : Int) < 7 := by omega
 have lk : (k : Int) < 4 := by omega
 clear D
 go_enter Tryz.func47, Tryz.ntmps47
 go_wp2_with fail
 refine HD.out.mono ?_
 rintro e w1 ⟨rfl, hb1⟩
 clear HD hT
 obtain ⟨cb, off, H1, hT, hA, hR, had, c0, c1, c2, c3, c4, hC, lcb, lk, lt, lr, zt⟩ := pfx2 H HIN htl ht hx hb1
 dsimp only at c0 c1 c2 c3 c4
 obtain ⟨W2, hW2⟩ : ∃ W2, W2 = (w1.alloc (.cells #[.string ⟨#[99, 97, 115]⟩, .int .i64 i, .int .i64 j, .int .i64 k, .string xt] 101)).drew := ⟨_, rfl⟩
 obtain ⟨b2, q0, q1, q2, q3, q4, lW2⟩ := box5d hW2
 clear HIN had
 go_wp2_with fail
 go_region
 rw [<- hW2]
 have P := pfx3a H htl hb1 b2 lW2
 replace hC := keep_cell b2 hC
 clear hT hA hR zt
 obtain ⟨B2, H2, hT, hA, hR, zt, dk, dr1, dr2, G2, nk, nt, nr, lk2, lt2, lr2⟩ := P
 obtain ⟨W3, hW3⟩ : ∃ W3, W3 = W2.setCell ⟨p.tb, t * 3 + 2, none⟩ (.int .i64 ((m.pc t : Int) + 1)) := ⟨_, rfl⟩
 have S3 : Hid (RkStep cs p m.mem W2 p.rp p.mv (m.setPc t (m.pc t + 1)) W3) := hide (by rw [hW3]; exact H2.out.setPc htl (m.pc t + 1))
 have G3 : Hid (Stg cs p m.mem w w1.heap.size p.rp p.mv (m.setPc t (m.pc t + 1)) W3) := hide (G2.out.trans S3.out)
 have HM3 : Hid (RkAt cs p (m.setPc t (m.pc t + 1)) W3) := hide G3.out.step.at'
 have HX3 : Hid (RkX cs p (m.setPc t (m.pc t + 1)) K W3) := hide ⟨HM3.out, HX.out.ok.setPc t hpc3, HX.out.right, HX.out.hK⟩
 have y0 := G2.out.keep S3.out q0
 have y1 := G2.out.keep S3.out q1
 have y2 := G2.out.keep S3.out q2
 have y3 := G2.out.keep S3.out q3
 have y4 := G2.out.keep S3.out q4
 have T3 := HM3.out.mT
 have R3 := HM3.out.tRegs t htl
 have k3 := HM3.out.mM
 have lW3 : w1.heap.size < W3.heap.size := G3.out.lt
 have G0 : Hid (∀ r, r < 8 -> W2.cell? ⟨p.rb t, r, none⟩ = some (.int .i64 (m.regs t r)) /\ W2.frozen? ⟨p.rb t, r, none⟩ = false) := fun r hr => ⟨H2.out.regs t r htl hr, H2.out.fr t r htl⟩
 clear H2 c0 c1 c2 c3 c4 hb1 b2 B2 hW2 G2 S3 H1 lcb
 obtain ⟨fi, fzi⟩ := G0.out i (by omega)
 have gi : W3.cell? ⟨p.rb t, i, none⟩ = some (.int .i64 (m.regs t i)) := HM3.out.regs t i htl (by omega)
 obtain ⟨fj, fzj⟩ := G0.out j hj8
 have gj : W3.cell? ⟨p.rb t, j, none⟩ = some (.int .i64 (m.regs t j)) := HM3.out.regs t j htl hj8
 obtain ⟨fn, fzn⟩ := G0.out (j + 1) hj9
 have gn : W3.cell? ⟨p.rb t, j + 1, none⟩ = some (.int .i64 (m.regs t (j + 1))) := HM3.out.regs t (j + 1) htl hj9
 clear G0
 have hwd : Wd (m.regs t i) := HX3.out.ok.regs t i
 have hfl : (m.setPc t (m.pc t + 1)).faults <= 900000000 := HX3.out.faults
 have hx8 := HX3.out.few htl
 cases hy : (m.setPc t (m.pc t + 1)).names (m.regs t i)
 ·have HQ : Hid (M' = ((m.setPc t (m.pc t + 1)).addFault 1).setReg t j 0) := by show _ = _; rw [HM'.out]; unfold Mk.cas; rw [hy]; rfl
  have HN := hide (rnames_no hwd HM3.out (by omega) hy)
  clear HM3 HX3 hwd hy HM'
  generalize m.regs t i = Ri at *
  generalize m.regs t j = Rj at *
  generalize m.regs t (j + 1) = Rn at *
  go_wp2_with fail
  rw [<- hW3]
  clear hT hA hR hC zt q0 q1 q2 q3 q4 lW2 lk2 lt2 lr2 hW3
  refine HN.out.mono ?_
  rintro e w4 ⟨⟨c4, g4, rfl⟩, k4⟩
  clear HN
  replace y1 := G3.out.keep k4 y1
  replace y2 := G3.out.keep k4 y2
  have G4 := hide (G3.out.trans k4)
  have HM4 := hide G4.out.step.at'
  have lr4 : p.rb t < w4.heap.size := HM4.out.lr htl
  have lx4 := G4.out.lt
  have v4 : w4.cell? ⟨p.rb t, j, none⟩ = some (.int .i64 (((m.setPc t (m.pc t + 1)).addFault 1).regs t j)) := HM4.out.regs t j htl hj8
  have z4 : w4.frozen? ⟨p.rb t, j, none⟩ = false := HM4.out.fr t j htl
  have HS := hide ((G4.out.trans (HM4.out.setReg htl (show j < 8 by omega) 0)).below (bRf.alloc nL (.cells #[.int .i64 c4, .int .i64 g4] 50)))
  clear k4 G4 HM4 G3 T3 R3 k3 y0 y3 y4
  go_wp2
  go_ret
  exact ⟨rfl, _, _, by rw [HQ.out]; exact HS.out.step⟩
 ·have HQ : Hid (M' = (((m.setPc t (m.pc t + 1)).fence t).setMem (((m.setPc t (m.pc t + 1)).fence t).mem.setWord (cellOf (m.regs t i)).toNat k (casV (((m.setPc t (m.pc t + 1)).fence t).mem.ar.words (cellOf (m.regs t i)).toNat k) (m.regs t j) (m.regs t (j + 1))))).setReg t j (((m.setPc t (m.pc t + 1)).fence t).mem.ar.words (cellOf (m.regs t i)).toNat k)) := by show _ = _; rw [HM'.out]; unfold Mk.cas; rw [hy]; rfl
  have HFE := hide (fun w' (h : RkAt cs p (m.setPc t (m.pc t + 1)) w') => rkfence_any htl h (HX3.out.waits htl) hx8 (by omega))
  obtain ⟨kk, hck, hkk, hhas⟩ := HM3.out.cellAt hy
  have HN := hide (rnames_yes hwd HM3.out hy)
  rw [hck] at HN
  obtain ⟨Gn, hGn⟩ : ∃ Gn, Gn = genOf (m.regs t i) := ⟨_, rfl⟩
  rw [<- hGn] at HN
  have hsz : ((m.setPc t (m.pc t + 1)).fence t).mem.ar.size = m.mem.ar.size := (Rm.drainAll_ar _ _ _).1
  have h64 := HM3.out.mem.small
  rw [show (m.setPc t (m.pc t + 1)).mem.ar.size = m.mem.ar.size from rfl] at h64 hkk
  clear HM3 HX3 hy hhas HM'
  rw [hck, Int.toNat_natCast] at HQ
  clear hck hGn hwd
  go_wp2_with fail
  rw [<- hW3]
  clear hT hA hR hC zt q0 q1 q2 q3 q4 lW2 lk2 lt2 lr2 hW3
  refine HN.out.mono ?_
  rintro e w4 ⟨rfl, hb4⟩
  clear HN
  have G4 := hide (G3.out.below hb4)
  have HM4 := hide G4.out.step.at'
  obtain ⟨W5, hW5⟩ : ∃ W5, W5 = w4.alloc (.cells #[.int .i64 kk, .int .i64 Gn] 50) := ⟨_, rfl⟩
  have b5 : Below w4.heap.size w4 W5 := by rw [hW5]; exact bRf.alloc nL _
  have G5 := hide (G4.out.below b5)
  have R5 := hide (G4.out.other (bx' := w4.heap.size) nL b5 (by rw [hW5]; simp))
  have x0 : W5.cell? ⟨w4.heap.size, 0, none⟩ = some (.int .i64 kk) := by rw [hW5]; simp
  have HF5 := hide (HFE.out W5 G5.out.step.at')
  have p1 := keep_cell b5 (keep_cell hb4 y1)
  have p2 := keep_cell b5 (keep_cell hb4 y2)
  have p3 := keep_cell b5 (keep_cell hb4 y3)
  clear HFE b5 HM4 G3 G4 T3 R3 k3 y0 y1 y2 y3 y4 hb4 gi gj gn
  go_wp2_with fail
  rw [<- hW5]
  clear hW5
  refine HF5.out.mono ?_
  rintro e w6 ⟨rfl, r, k6⟩
  clear HF5
  replace x0 := R5.out.keep k6 x0
  replace p1 := G5.out.keep k6 p1
  replace p2 := G5.out.keep k6 p2
  replace p3 := G5.out.keep k6 p3
  have G6 := hide (G5.out.trans k6)
  have R6 := hide (R5.out.trans k6)
  have HM6 : Hid (RkAt cs (p.to r p.mv) ((m.setPc t (m.pc t + 1)).fence t) w6) := hide G6.out.step.at'
  clear G5 R5 k6
  have uM : w6.cell? ⟨p.k, 0, none⟩ = some (.pointer (some ⟨r.mb, 0, none⟩)) := HM6.out.mM
  have uC : w6.cell? ⟨r.mb, 0, none⟩ = some (.slice (some ⟨r.cb, 0, none⟩) ((m.setPc t (m.pc t + 1)).fence t).mem.ar.size r.ccap) := HM6.out.mem.mCells
  have ucc : ((m.setPc t (m.pc t + 1)).fence t).mem.ar.size <= r.ccap := HM6.out.mem.ccap
  rw [hsz] at uC ucc
  have uki : (kk : Int) < m.mem.ar.size := by omega
  have ukz : kk < ((m.setPc t (m.pc t + 1)).fence t).mem.ar.size := by rw [hsz]; exact hkk
  have si : w6.cell? ⟨p.rb t, i, none⟩ = some (.int .i64 (m.regs t i)) := HM6.out.regs t i htl (by omega)
  have sj : w6.cell? ⟨p.rb t, j, none⟩ = some (.int .i64 (m.regs t j)) := HM6.out.regs t j htl hj8
  have sn : w6.cell? ⟨p.rb t, j + 1, none⟩ = some (.int .i64 (m.regs t (j + 1))) := HM6.out.regs t (j + 1) htl hj9
  have uW : w6.cell? ⟨r.cb, kk * 3, none⟩ = some (.slice (some ⟨r.wb kk, 0, none⟩) 4 (r.wcap kk)) := HM6.out.mem.cWords kk ukz
  have ucw : 4 <= r.wcap kk := HM6.out.mem.wcap kk ukz
  have uX : w6.cell? ⟨r.wb kk, k, none⟩ = some (.int .i64 (((m.setPc t (m.pc t + 1)).fence t).mem.ar.words kk k)) := HM6.out.mem.words kk k ukz hk
  have uZ : w6.frozen? ⟨r.wb kk, k, none⟩ = false := HM6.out.mem.fw kk _ ukz
  by_cases hcv : ((m.setPc t (m.pc t + 1)).fence t).mem.ar.words kk k = m.regs t j
  ·have HQ2 : Hid (M' = (((m.setPc t (m.pc t + 1)).fence t).setMem (((m.setPc t (m.pc t + 1)).fence t).mem.setWord kk k (m.regs t (j + 1)))).setReg t j (((m.setPc t (m.pc t + 1)).fence t).mem.ar.words kk k)) := by show _ = _; rw [HQ.out]; unfold casV; rw [if_pos hcv]
   have HW : Hid (∀ n, Stg cs p m.mem w w1.heap.size r p.mv (((m.setPc t (m.pc t + 1)).fence t).setMem (((m.setPc t (m.pc t + 1)).fence t).mem.setWord kk k (m.regs t (j + 1)))) (((w6.drewN n).setCell ⟨r.wb kk, k, none⟩ (.int .i64 (m.regs t (j + 1)))).drew)) := fun n => (G6.out.below (Below.drewN' n)).trans (((HM6.out.drewN n).setWordM ukz hk (m.regs t (j + 1))).below bRf.drew)
   have HZ : Hid (∀ n, RkStep cs (p.to r p.mv) ((m.setPc t (m.pc t + 1)).fence t).mem (w6.drewN n) r p.mv (((m.setPc t (m.pc t + 1)).fence t).setMem (((m.setPc t (m.pc t + 1)).fence t).mem.setWord kk k (m.regs t (j + 1)))) (((w6.drewN n).setCell ⟨r.wb kk, k, none⟩ (.int .i64 (m.regs t (j + 1)))).drew)) := fun n => ((HM6.out.drewN n).setWordM ukz hk (m.regs t (j + 1))).below bRf.drew
   have HG : Hid (∀ n, Stg cs p m.mem w w1.heap.size r p.mv ((m.setPc t (m.pc t + 1)).fence t) (w6.drewN n)) := fun n => G6.out.below (Below.drewN' n)
   rw [<- hcv] at sj
   generalize ((m.setPc t (m.pc t + 1)).fence t).mem.ar.words kk k = V at *
   clear G6 R6 HM6 si hsz ukz HQ hcv
   generalize m.regs t (j + 1) = Rn at *
   go_wp2_with fail
   go_quiet (fail)
   replace x0 : (w6.drewN nq).cell? ⟨w4.heap.size, 0, none⟩ = some (.int .i64 kk) := x0
   replace p2 : (w6.drewN nq).cell? ⟨w1.heap.size, 2, none⟩ = some (.int .i64 j) := p2
   replace p3 : (w6.drewN nq).cell? ⟨w1.heap.size, 3, none⟩ = some (.int .i64 k) := p3
   replace uM : (w6.drewN nq).cell? ⟨p.k, 0, none⟩ = some (.pointer (some ⟨r.mb, 0, none⟩)) := uM
   replace uC : (w6.drewN nq).cell? ⟨r.mb, 0, none⟩ = some (.slice (some ⟨r.cb, 0, none⟩) m.mem.ar.size r.ccap) := uC
   replace uW : (w6.drewN nq).cell? ⟨r.cb, kk * 3, none⟩ = some (.slice (some ⟨r.wb kk, 0, none⟩) 4 (r.wcap kk)) := uW
   replace uX : (w6.drewN nq).cell? ⟨r.wb kk, k, none⟩ = some (.int .i64 V) := uX
   replace uZ : (w6.drewN nq).frozen? ⟨r.wb kk, k, none⟩ = false := uZ
   replace sj : (w6.drewN nq).cell? ⟨p.rb t, j, none⟩ = some (.int .i64 V) := sj
   replace sn : (w6.drewN nq).cell? ⟨p.rb t, j + 1, none⟩ = some (.int .i64 Rn) := sn
   have HW2 := hide (HW.out nq)
   have HZ2 := hide (HZ.out nq)
   have HG2 := hide (HG.out nq)
   clear HW HZ HG
   generalize w6.drewN nq = w7 at *
   go_wp2_with fail
   refine wp_region_F (S := (fun w' => w'.cell? ⟨p.k, 0, none⟩ = some (.pointer (some ⟨r.mb, 0, none⟩)) /\ w'.cell? ⟨r.mb, 0, none⟩ = some (.slice (some ⟨r.cb, 0, none⟩) m.mem.ar.size r.ccap) /\ w'.cell? ⟨r.cb, kk * 3, none⟩ = some (.slice (some ⟨r.wb kk, 0, none⟩) 4 (r.wcap kk)) /\ w'.cell? ⟨r.wb kk, k, none⟩ = some (.int .i64 V) /\ w'.cell? ⟨w4.heap.size, 0, none⟩ = some (.int .i64 kk) /\ w'.cell? ⟨w1.heap.size, 2, none⟩ = some (.int .i64 j) /\ w'.cell? ⟨w1.heap.size, 3, none⟩ = some (.int .i64 k) /\ w'.cell? ⟨p.rb t, j + 1, none⟩ = some (.int .i64 Rn))) (by kernel_rfl) (by (try dsimp only); go_keep) (fun hHeld => ?_)
   iterate 21
    refine' wpAnyF_next (sz := 22) (n := 21) (v := _) rfl (by kernel_rfl) (fun _ _ _ h => h) (by assumption) (Or.inl ⟨by rfl, ?_⟩) ?_
    case' refine'_2 => (intro w' hSw; (try dsimp only at hSw); go_simp; try with_reducible rfl)
    try simp only [Act.put, fxs]
   clear hHeld
   refine wpAnyF_only (i := 21) rfl (by kernel_rfl) (fun K hK => ?_)
   go_simp
   refine hK.out _ _ (Or.inl (by kernel_rfl)) ?_
   clear hK K
   try simp only [Act.put, fxs]
   refine wpAnyF_done (by kernel_rfl) ?_ _
   replace p2 := HG2.out.keep HZ2.out p2
   have HM8 := hide HW2.out.step.at'
   generalize hW8 : (w7.setCell ⟨r.wb kk, k, none⟩ (.int .i64 Rn)).drew = w8 at *
   have v8 : w8.cell? ⟨p.rb t, j, none⟩ = some (.int .i64 (((m.setPc t (m.pc t + 1)).fence t).regs t j)) := HM8.out.regs t j htl hj8
   have z8 : w8.frozen? ⟨p.rb t, j, none⟩ = false := HM8.out.fr t j htl
   have HS := hide (HW2.out.trans (HM8.out.setReg htl hj8 V))
   clear HM8 HW2 HZ2 HG2 hW8 uM uC uW uX uZ sj sn x0 p3
   go_wp2
   go_ret
   exact ⟨rfl, _, _, by rw [HQ2.out]; exact HS.out.step⟩
  ·have HQ2 : Hid (M' = ((m.setPc t (m.pc t + 1)).fence t).setReg t j (((m.setPc t (m.pc t + 1)).fence t).mem.ar.words kk k)) := by show _ = _; rw [HQ.out]; unfold casV; rw [if_neg hcv, Mk.setWord_self]
   have HS : Hid (∀ n, Stg cs p m.mem w w1.heap.size r p.mv (((m.setPc t (m.pc t + 1)).fence t).setReg t j (((m.setPc t (m.pc t + 1)).fence t).mem.ar.words kk k)) ((w6.drewN n).setCell ⟨p.rb t, j, none⟩ (.int .i64 (((m.setPc t (m.pc t + 1)).fence t).mem.ar.words kk k)))) := fun n => (G6.out.below (Below.drewN' n)).trans ((HM6.out.drewN n).setReg htl hj8 _)
   have HF8 : Hid (∀ n, (w6.drewN n).frozen? ⟨p.rb t, j, none⟩ = false) := fun n => (HM6.out.drewN n).fr t j htl
   have hcb : (((m.setPc t (m.pc t + 1)).fence t).mem.ar.words kk k == m.regs t j) = false := beq_eq_false_iff_ne.2 hcv
   clear G6 R6 HM6 si sn hsz ukz HQ hcv
   generalize ((m.setPc t (m.pc t + 1)).fence t).mem.ar.words kk k = V at *
   generalize m.regs t j = Rj at *
   go_wp2_with fail
   go_quiet (fail)
   replace p2 : (w6.drewN nq).cell? ⟨w1.heap.size, 2, none⟩ = some (.int .i64 j) := p2
   replace sj : (w6.drewN nq).cell? ⟨p.rb t, j, none⟩ = some (.int .i64 Rj) := sj
   have zj := HF8.out nq
   have HS2 := hide (HS.out nq)
   clear HS HF8 x0 p1 p3 uM uC uW uX uZ
   generalize w6.drewN nq = w7 at *
   go_wp2
   go_ret
   exact ⟨rfl, _, _, by rw [HQ2.out]; exact HS2.out.step⟩
end
end Go.Proofs.YtaiigfcfmcicjaaGreatDoor
