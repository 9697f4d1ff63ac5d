import Derived.Test.YtaiigfcfmcicjaaGreatDoorF38
import Derived.Deep.RegionHeld3
import Derived.Test.YtaiigfcfmcicjaaGreatDoorF09
import Derived.Test.YtaiigfcfmcicjaaGreatDoorF42
import Derived.Lib.QuietBelow
import Derived.BigQuiet
namespace Go.Proofs.YtaiigfcfmcicjaaGreatDoor
set_option maxRecDepth 100000
set_option maxHeartbeats 8000000
section
open Go.RowKit Go.Extern.Stop Go.Stop Go.Extern Go.Sort
theorem rstep_swap {cs : List (List Ins)} {p : RkPl} {m : Mk} {K t : Nat} {w : World} (D : RkX cs p m K w) {L : List Ins} (ht : cs[t]? = some L) {x : Ins} (hx : L[m.pc t]? = some x) (e : x.op = ⟨#[115, 119, 97, 112]⟩) {i : Nat} (hi : i < 8) (ei : x.a = i) {j : Nat} (hj : j < 8) (ej : x.b = j) {k : Nat} (hk : k < 4) (ek : x.c = k) :
  Calls Tryz.prog 47 #[.pointer (some ⟨p.k, 0, none⟩), .int .i64 t] w fun e w' => e = .returned (.int .i64 0) /\ ∃ r v, RkStep cs p m.mem w r v (m.step L t) w' := by
 have hM : m.step L t = (m.setPc t (m.pc t + 1)).exec L t x := by unfold Mk.step; rw [hx]
 obtain ⟨M', hM'⟩ : ∃ M', M' = (m.setPc t (m.pc t + 1)).exec L t x := ⟨_, rfl⟩
 rw [hM, <- hM']
 rw [exec_swap (m.setPc t (m.pc t + 1)) L t e] at hM'
 clear hM
 rw [ei] at hM'
 rw [ej] at hM'
 rw [ek] at hM'
 simp only [Int.toNat_natCast] at hM'
 try simp only [show ∀ r, (m.setPc t (m.pc t + 1)).regs t r = m.regs t r from fun _ => rfl] at hM'
 have HD := hide (rdone_at ht hx D.at')
 obtain ⟨xo, xa, xb, xc, xt⟩ := x
 dsimp only at e ei ej ek hM' ⊢
 subst e ei ej ek
 have HM' := hide hM'
 clear hM'
 obtain ⟨htl, h6, hpl, hL2, hcap, hcc, ti, t6, pi, hpc2, hpw, hpw2, hr8, HIN, HX, H, d0, hT⟩ := pfx1 D ht hx
 have li : (i : Int) < 8 := by omega
 have lj : (j : Int) < 8 := by omega
 have lk : (k : Int) < 4 := by omega
 clear D
 go_enter Tryz.func47, Tryz.ntmps47
 go_wp2_with fail
 refine HD.out.mono ?_
 rintro e w1 ⟨rfl, hb1⟩
 clear HD hT
 obtain ⟨cb, off, H1, hT, hA, hR, had, c0, c1, c2, c3, c4, hC, lcb, lk, lt, lr, zt⟩ := pfx2 H HIN htl ht hx hb1
 dsimp only at c0 c1 c2 c3 c4
 obtain ⟨W2, hW2⟩ : ∃ W2, W2 = (w1.alloc (.cells #[.string ⟨#[115, 119, 97, 112]⟩, .int .i64 i, .int .i64 j, .int .i64 k, .string xt] 101)).drew := ⟨_, rfl⟩
 obtain ⟨b2, q0, q1, q2, q3, q4, lW2⟩ := box5d hW2
 clear HIN had
 go_wp2_with fail
 go_region
 rw [<- hW2]
 have P := pfx3a H htl hb1 b2 lW2
 replace hC := keep_cell b2 hC
 clear hT hA hR zt
 obtain ⟨B2, H2, hT, hA, hR, zt, dk, dr1, dr2, G2, nk, nt, nr, lk2, lt2, lr2⟩ := P
 obtain ⟨W3, hW3, S3, G3, HM3, HX3, y0, y1, y2, y3, y4, T3, R3, k3, lW3, G0⟩ := pfx3b HX htl (by omega) H2 G2 q0 q1 q2 q3 q4
 clear H2 c0 c1 c2 c3 c4 hb1 b2 B2 hW2 G2 S3 H1 lcb
 obtain ⟨fi, fzi⟩ := G0.out i (by omega)
 have gi : W3.cell? ⟨p.rb t, i, none⟩ = some (.int .i64 (m.regs t i)) := HM3.out.regs t i htl (by omega)
 obtain ⟨fj, fzj⟩ := G0.out j (by omega)
 have gj : W3.cell? ⟨p.rb t, j, none⟩ = some (.int .i64 (m.regs t j)) := HM3.out.regs t j htl (by omega)
 clear G0
 have hwd : Wd (m.regs t j) := HX3.out.ok.regs t j
 have hfl : (m.setPc t (m.pc t + 1)).faults <= 900000000 := HX3.out.faults
 have hx8 := HX3.out.few htl
 cases hy : (m.setPc t (m.pc t + 1)).names (m.regs t j)
 ·have HQ : Hid (M' = ((m.setPc t (m.pc t + 1)).addFault 1).setReg t i 0) := by show _ = _; rw [HM'.out]; unfold Mk.swap; rw [hy]; rfl
  have HN := hide (rnames_no hwd HM3.out (by omega) hy)
  clear HM3 HX3 hwd hy HM'
  generalize m.regs t i = Ri at *
  generalize m.regs t j = Rj at *
  go_wp2_with fail
  rw [<- hW3]
  clear hT hA hR hC zt q0 q1 q2 q3 q4 lW2 lk2 lt2 lr2 hW3
  refine HN.out.mono ?_
  rintro e w4 ⟨⟨c4, g4, rfl⟩, k4⟩
  clear HN
  replace y1 := G3.out.keep k4 y1
  replace y2 := G3.out.keep k4 y2
  have G4 := hide (G3.out.trans k4)
  have HM4 := hide G4.out.step.at'
  have lr4 : p.rb t < w4.heap.size := HM4.out.lr htl
  have lx4 := G4.out.lt
  have v4 : w4.cell? ⟨p.rb t, i, none⟩ = some (.int .i64 (((m.setPc t (m.pc t + 1)).addFault 1).regs t i)) := HM4.out.regs t i htl (by omega)
  have z4 : w4.frozen? ⟨p.rb t, i, none⟩ = false := HM4.out.fr t i htl
  have HS := hide ((G4.out.trans (HM4.out.setReg htl (show i < 8 by omega) 0)).below (bRf.alloc nL (.cells #[.int .i64 c4, .int .i64 g4] 50)))
  clear k4 G4 HM4 G3 T3 R3 k3 y0 y3 y4
  go_wp2
  go_ret
  exact ⟨rfl, _, _, by rw [HQ.out]; exact HS.out.step⟩
 ·have HQ : Hid (M' = (((m.setPc t (m.pc t + 1)).fence t).setMem (((m.setPc t (m.pc t + 1)).fence t).mem.setWord (cellOf (m.regs t j)).toNat k (m.regs t i))).setReg t i (((m.setPc t (m.pc t + 1)).fence t).mem.ar.words (cellOf (m.regs t j)).toNat k)) := by show _ = _; rw [HM'.out]; unfold Mk.swap; rw [hy]; rfl
  have HFE := hide (fun w' (h : RkAt cs p (m.setPc t (m.pc t + 1)) w') => rkfence_any htl h (HX3.out.waits htl) hx8 (by omega))
  obtain ⟨kk, hck, hkk, hhas⟩ := HM3.out.cellAt hy
  have HN := hide (rnames_yes hwd HM3.out hy)
  rw [hck] at HN
  obtain ⟨Gn, hGn⟩ : ∃ Gn, Gn = genOf (m.regs t j) := ⟨_, rfl⟩
  rw [<- hGn] at HN
  have hsz : ((m.setPc t (m.pc t + 1)).fence t).mem.ar.size = m.mem.ar.size := (Rm.drainAll_ar _ _ _).1
  have h64 := HM3.out.mem.small
  rw [show (m.setPc t (m.pc t + 1)).mem.ar.size = m.mem.ar.size from rfl] at h64 hkk
  clear HM3 HX3 hy hhas HM'
  rw [hck, Int.toNat_natCast] at HQ
  clear hck hGn hwd
  go_wp2_with fail
  rw [<- hW3]
  clear hT hA hR hC zt q0 q1 q2 q3 q4 lW2 lk2 lt2 lr2 hW3
  refine HN.out.mono ?_
  rintro e w4 ⟨rfl, hb4⟩
  clear HN
  have G4 := hide (G3.out.below hb4)
  have HM4 := hide G4.out.step.at'
  obtain ⟨W5, hW5⟩ : ∃ W5, W5 = w4.alloc (.cells #[.int .i64 kk, .int .i64 Gn] 50) := ⟨_, rfl⟩
  have b5 : Below w4.heap.size w4 W5 := by rw [hW5]; exact bRf.alloc nL _
  have G5 := hide (G4.out.below b5)
  have R5 := hide (G4.out.other (bx' := w4.heap.size) nL b5 (by rw [hW5]; simp))
  have x0 : W5.cell? ⟨w4.heap.size, 0, none⟩ = some (.int .i64 kk) := by rw [hW5]; simp
  have HF5 := hide (HFE.out W5 G5.out.step.at')
  have p1 := keep_cell b5 (keep_cell hb4 y1)
  have p2 := keep_cell b5 (keep_cell hb4 y2)
  have p3 := keep_cell b5 (keep_cell hb4 y3)
  clear HFE b5 HM4 G3 G4 T3 R3 k3 y0 y1 y2 y3 y4 hb4 gi gj
  go_wp2_with fail
  rw [<- hW5]
  clear hW5
  refine HF5.out.mono ?_
  rintro e w6 ⟨rfl, r, k6⟩
  clear HF5
  replace x0 := R5.out.keep k6 x0
  replace p1 := G5.out.keep k6 p1
  replace p2 := G5.out.keep k6 p2
  replace p3 := G5.out.keep k6 p3
  have G6 := hide (G5.out.trans k6)
  have R6 := hide (R5.out.trans k6)
  have HM6 : Hid (RkAt cs (p.to r p.mv) ((m.setPc t (m.pc t + 1)).fence t) w6) := hide G6.out.step.at'
  clear G5 R5 k6
  have uM : w6.cell? ⟨p.k, 0, none⟩ = some (.pointer (some ⟨r.mb, 0, none⟩)) := HM6.out.mM
  have uC : w6.cell? ⟨r.mb, 0, none⟩ = some (.slice (some ⟨r.cb, 0, none⟩) ((m.setPc t (m.pc t + 1)).fence t).mem.ar.size r.ccap) := HM6.out.mem.mCells
  have ucc : ((m.setPc t (m.pc t + 1)).fence t).mem.ar.size <= r.ccap := HM6.out.mem.ccap
  rw [hsz] at uC ucc
  have uki : (kk : Int) < m.mem.ar.size := by omega
  have ukz : kk < ((m.setPc t (m.pc t + 1)).fence t).mem.ar.size := by rw [hsz]; exact hkk
  have si : w6.cell? ⟨p.rb t, i, none⟩ = some (.int .i64 (m.regs t i)) := HM6.out.regs t i htl (by omega)
  have sj : w6.cell? ⟨p.rb t, j, none⟩ = some (.int .i64 (m.regs t j)) := HM6.out.regs t j htl (by omega)
  have uW : w6.cell? ⟨r.cb, kk * 3, none⟩ = some (.slice (some ⟨r.wb kk, 0, none⟩) 4 (r.wcap kk)) := HM6.out.mem.cWords kk ukz
  have ucw : 4 <= r.wcap kk := HM6.out.mem.wcap kk ukz
  have uX : w6.cell? ⟨r.wb kk, k, none⟩ = some (.int .i64 (((m.setPc t (m.pc t + 1)).fence t).mem.ar.words kk k)) := HM6.out.mem.words kk k ukz hk
  have uZ : w6.frozen? ⟨r.wb kk, k, none⟩ = false := HM6.out.mem.fw kk _ ukz
  have HW : Hid (∀ n, Stg cs p m.mem w w1.heap.size r p.mv (((m.setPc t (m.pc t + 1)).fence t).setMem (((m.setPc t (m.pc t + 1)).fence t).mem.setWord kk k (m.regs t i))) (((w6.drewN n).setCell ⟨r.wb kk, k, none⟩ (.int .i64 (m.regs t i))).drew)) := fun n => (G6.out.below (Below.drewN' n)).trans (((HM6.out.drewN n).setWordM ukz hk (m.regs t i)).below bRf.drew)
  have HZ : Hid (∀ n, RkStep cs (p.to r p.mv) ((m.setPc t (m.pc t + 1)).fence t).mem (w6.drewN n) r p.mv (((m.setPc t (m.pc t + 1)).fence t).setMem (((m.setPc t (m.pc t + 1)).fence t).mem.setWord kk k (m.regs t i))) (((w6.drewN n).setCell ⟨r.wb kk, k, none⟩ (.int .i64 (m.regs t i))).drew)) := fun n => ((HM6.out.drewN n).setWordM ukz hk (m.regs t i)).below bRf.drew
  have HG : Hid (∀ n, Stg cs p m.mem w w1.heap.size r p.mv ((m.setPc t (m.pc t + 1)).fence t) (w6.drewN n)) := fun n => G6.out.below (Below.drewN' n)
  generalize ((m.setPc t (m.pc t + 1)).fence t).mem.ar.words kk k = V at *
  generalize m.regs t i = Ri at *
  clear G6 R6 HM6 p2 sj hsz ukz
  go_wp2_with fail
  go_quiet (fail)
  replace x0 : (w6.drewN nq).cell? ⟨w4.heap.size, 0, none⟩ = some (.int .i64 kk) := x0
  replace p1 : (w6.drewN nq).cell? ⟨w1.heap.size, 1, none⟩ = some (.int .i64 i) := p1
  replace p3 : (w6.drewN nq).cell? ⟨w1.heap.size, 3, none⟩ = some (.int .i64 k) := p3
  replace uM : (w6.drewN nq).cell? ⟨p.k, 0, none⟩ = some (.pointer (some ⟨r.mb, 0, none⟩)) := uM
  replace uC : (w6.drewN nq).cell? ⟨r.mb, 0, none⟩ = some (.slice (some ⟨r.cb, 0, none⟩) m.mem.ar.size r.ccap) := uC
  replace uW : (w6.drewN nq).cell? ⟨r.cb, kk * 3, none⟩ = some (.slice (some ⟨r.wb kk, 0, none⟩) 4 (r.wcap kk)) := uW
  replace uX : (w6.drewN nq).cell? ⟨r.wb kk, k, none⟩ = some (.int .i64 V) := uX
  replace uZ : (w6.drewN nq).frozen? ⟨r.wb kk, k, none⟩ = false := uZ
  replace si : (w6.drewN nq).cell? ⟨p.rb t, i, none⟩ = some (.int .i64 Ri) := si
  have HW2 := hide (HW.out nq)
  have HZ2 := hide (HZ.out nq)
  have HG2 := hide (HG.out nq)
  clear HW HZ HG
  generalize w6.drewN nq = w7 at *
  go_wp2_with fail
  refine wp_region_F (S := (fun w' => w'.cell? ⟨p.k, 0, none⟩ = some (.pointer (some ⟨r.mb, 0, none⟩)) /\ w'.cell? ⟨r.mb, 0, none⟩ = some (.slice (some ⟨r.cb, 0, none⟩) m.mem.ar.size r.ccap) /\ w'.cell? ⟨r.cb, kk * 3, none⟩ = some (.slice (some ⟨r.wb kk, 0, none⟩) 4 (r.wcap kk)) /\ w'.cell? ⟨r.wb kk, k, none⟩ = some (.int .i64 V) /\ w'.cell? ⟨w4.heap.size, 0, none⟩ = some (.int .i64 kk) /\ w'.cell? ⟨w1.heap.size, 1, none⟩ = some (.int .i64 i) /\ w'.cell? ⟨w1.heap.size, 3, none⟩ = some (.int .i64 k) /\ w'.cell? ⟨p.rb t, i, none⟩ = some (.int .i64 Ri))) (by kernel_rfl) (by (try dsimp only); go_keep) (fun hHeld => ?_)
  iterate 20
   refine' wpAnyF_next (sz := 21) (n := 20) (v := _) rfl (by kernel_rfl) (fun _ _ _ h => h) (by assumption) (Or.inl ⟨by rfl, ?_⟩) ?_
   case' refine'_2 => (intro w' hSw; (try dsimp only at hSw); go_simp; try with_reducible rfl)
   try simp only [Act.put, fxs]
  clear hHeld
  refine wpAnyF_only (i := 20) rfl (by kernel_rfl) (fun K hK => ?_)
  go_simp
  refine hK.out _ _ (Or.inl (by kernel_rfl)) ?_
  clear hK K
  try simp only [Act.put, fxs]
  refine wpAnyF_done (by kernel_rfl) ?_ _
  replace p1 := HG2.out.keep HZ2.out p1
  have HM8 := hide HW2.out.step.at'
  generalize hW8 : (w7.setCell ⟨r.wb kk, k, none⟩ (.int .i64 Ri)).drew = w8 at *
  have v8 : w8.cell? ⟨p.rb t, i, none⟩ = some (.int .i64 (((m.setPc t (m.pc t + 1)).fence t).regs t i)) := HM8.out.regs t i htl hi
  have z8 : w8.frozen? ⟨p.rb t, i, none⟩ = false := HM8.out.fr t i htl
  have HS := hide (HW2.out.trans (HM8.out.setReg htl hi V))
  clear HM8 HW2 HZ2 HG2 hW8 uM uC uW uX uZ si x0 p3
  go_wp2
  go_ret
  exact ⟨rfl, _, _, by rw [HQ.out]; exact HS.out.step⟩
end
end Go.Proofs.YtaiigfcfmcicjaaGreatDoor
