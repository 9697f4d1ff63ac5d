import Derived.Test.YtaiigfcfmcicjaaGreatDoorF38
import Derived.Deep.RegionHeld3
import Derived.Test.YtaiigfcfmcicjaaGreatDoorF09
import Derived.Test.YtaiigfcfmcicjaaGreatDoorF42
import Derived.Lib.QuietBelow
import Derived.BigQuiet
namespace Go.Proofs.YtaiigfcfmcicjaaGreatDoor
set_option maxRecDepth 100000
set_option maxHeartbeats 8000000
section
open Go.RowKit Go.Extern.Stop Go.Stop Go.Extern Go.Sort
theorem rstep_store {cs : List (List Ins)} {p : RkPl} {m : Mk} {K t : Nat} {w : World} (D : RkX cs p m K w) {L : List Ins} (ht : cs[t]? = some L) {x : Ins} (hx : L[m.pc t]? = some x) (e : x.op = ⟨#[115, 116, 111, 114, 101]⟩) {i : Nat} (hi : i < 8) (ei : x.a = i) {j : Nat} (hj : j < 8) (ej : x.b = j) {k : Nat} (hk : k < 4) (ek : x.c = k) :
  Calls Tryz.prog 47 #[.pointer (some ⟨p.k, 0, none⟩), .int .i64 t] w fun e w' => e = .returned (.int .i64 0) /\ ∃ r v, RkStep cs p m.mem w r v (m.step L t) w' := by
 have hM : m.step L t = (m.setPc t (m.pc t + 1)).exec L t x := by unfold Mk.step; rw [hx]
 obtain ⟨M', hM'⟩ : ∃ M', M' = (m.setPc t (m.pc t + 1)).exec L t x := ⟨_, rfl⟩
 rw [hM, <- hM']
 rw [exec_store (m.setPc t (m.pc t + 1)) L t e] at hM'
 clear hM
 rw [ei] at hM'
 rw [ej] at hM'
 rw [ek] at hM'
 simp only [Int.toNat_natCast] at hM'
 try simp only [show ∀ r, (m.setPc t (m.pc t + 1)).regs t r = m.regs t r from fun _ => rfl] at hM'
 have HD := hide (rdone_at ht hx D.at')
 obtain ⟨xo, xa, xb, xc, xt⟩ := x
 dsimp only at e ei ej ek hM' ⊢
 subst e ei ej ek
 have HM' := hide hM'
 clear hM'
 obtain ⟨htl, h6, hpl, hL2, hcap, hcc, ti, t6, pi, hpc2, hpw, hpw2, hr8, HIN, HX, H, d0, hT⟩ := pfx1 D ht hx
 have li : (i : Int) < 8 := by omega
 have lj : (j : Int) < 8 := by omega
 have lk : (k : Int) < 4 := by omega
 clear D
 go_enter Tryz.func47, Tryz.ntmps47
 go_wp2_with fail
 refine HD.out.mono ?_
 rintro e w1 ⟨rfl, hb1⟩
 clear HD hT
 obtain ⟨cb, off, H1, hT, hA, hR, had, c0, c1, c2, c3, c4, hC, lcb, lk, lt, lr, zt⟩ := pfx2 H HIN htl ht hx hb1
 dsimp only at c0 c1 c2 c3 c4
 obtain ⟨W2, hW2⟩ : ∃ W2, W2 = (w1.alloc (.cells #[.string ⟨#[115, 116, 111, 114, 101]⟩, .int .i64 i, .int .i64 j, .int .i64 k, .string xt] 101)).drew := ⟨_, rfl⟩
 obtain ⟨b2, q0, q1, q2, q3, q4, lW2⟩ := box5d hW2
 clear HIN had
 go_wp2_with fail
 go_region
 rw [<- hW2]
 have P := pfx3a H htl hb1 b2 lW2
 replace hC := keep_cell b2 hC
 clear hT hA hR zt
 obtain ⟨B2, H2, hT, hA, hR, zt, dk, dr1, dr2, G2, nk, nt, nr, lk2, lt2, lr2⟩ := P
 obtain ⟨W3, hW3, S3, G3, HM3, HX3, y0, y1, y2, y3, y4, T3, R3, k3, lW3, G0⟩ := pfx3b HX htl (by omega) H2 G2 q0 q1 q2 q3 q4
 clear H2 c0 c1 c2 c3 c4 hb1 b2 B2 hW2 G2 S3 H1 lcb
 obtain ⟨fi, fzi⟩ := G0.out i (by omega)
 have gi : W3.cell? ⟨p.rb t, i, none⟩ = some (.int .i64 (m.regs t i)) := HM3.out.regs t i htl (by omega)
 obtain ⟨fj, fzj⟩ := G0.out j (by omega)
 have gj : W3.cell? ⟨p.rb t, j, none⟩ = some (.int .i64 (m.regs t j)) := HM3.out.regs t j htl (by omega)
 clear G0
 have hwd : Wd (m.regs t i) := HX3.out.ok.regs t i
 have hfl : (m.setPc t (m.pc t + 1)).faults <= 900000000 := HX3.out.faults
 have hx8 := HX3.out.few htl
 have hwj : Wd (m.regs t j) := HX3.out.ok.regs t j
 cases hy : (m.setPc t (m.pc t + 1)).names (m.regs t i)
 ·have HQ : Hid (M' = (m.setPc t (m.pc t + 1)).addFault 1) := by show _ = _; rw [HM'.out]; unfold Mk.store; rw [hy]; rfl
  have HN := hide (rnames_no hwd HM3.out (by omega) hy)
  clear HM3 HX3 hwd hy HM'
  clear hwj
  generalize m.regs t j = Rj at *
  generalize m.regs t i = Ri at *
  go_wp2_with fail
  rw [<- hW3]
  clear hT hA hR hC zt q0 q1 q2 q3 q4 lW2 lk2 lt2 lr2 hW3
  refine HN.out.mono ?_
  rintro e w4 ⟨⟨c4, g4, rfl⟩, k4⟩
  clear HN
  replace y1 := G3.out.keep k4 y1
  replace y2 := G3.out.keep k4 y2
  have G4 := hide (G3.out.trans k4)
  have HM4 := hide G4.out.step.at'
  have lr4 : p.rb t < w4.heap.size := HM4.out.lr htl
  have lx4 := G4.out.lt
  have HS := hide (G4.out.below (bRf.alloc nL (.cells #[.int .i64 c4, .int .i64 g4] 50)))
  clear k4 G4 HM4 G3 T3 R3 k3 y0 y3 y4
  go_wp2
  go_ret
  exact ⟨rfl, _, _, by rw [HQ.out]; exact HS.out.step⟩
 ·have HQ : Hid (M' = ((m.setPc t (m.pc t + 1)).room t).put t (m.regs t i) k (m.regs t j)) := by show _ = _; rw [HM'.out]; unfold Mk.store; rw [hy]; rfl
  have HST : Hid (∀ (r : RmPl) (m' : Mk) w', RkAt cs (p.to r p.mv) m' w' -> (m'.mem.waits t).length < 8 -> m'.names (m.regs t i) = true -> Calls Tryz.prog 74 #[.pointer (some ⟨r.mb, 0, none⟩), .int .i64 t, .agg #[.int .i64 (cellOf (m.regs t i)), .int .i64 (genOf (m.regs t i))], .int .i64 k, .int .i64 (m.regs t j)] w' fun e w'' => e = .returned (.int .i64 0) /\ Hid (∃ r', RkStep cs (p.to r p.mv) m'.mem w' r' p.mv (m'.put t (m.regs t i) k (m.regs t j)) w'')) := fun r m' w' h h8 hn => rk_store h htl h8 hn hk hwj
  have hxs := HX3.out.waits htl
  obtain ⟨kk, hck, hkk, hhas⟩ := HM3.out.cellAt hy
  have HN := hide (rnames_yes hwd HM3.out hy)
  rw [hck] at HN
  obtain ⟨Gn, hGn⟩ : ∃ Gn, Gn = genOf (m.regs t i) := ⟨_, rfl⟩
  rw [<- hGn] at HN
  rw [hck, <- hGn] at HST
  have hthr : (m.setPc t (m.pc t + 1)).mem.threads = cs.length := HM3.out.thr
  have hHD : Hid (∀ w' x l, RkAt cs p (m.setPc t (m.pc t + 1)) w' -> (m.setPc t (m.pc t + 1)).mem.waits t = x :: l -> Calls Tryz.prog 73 #[.pointer (some ⟨p.rp.mb, 0, none⟩), .int .i64 t] w' fun e w'' => e = .returned (.int .i64 (if (m.setPc t (m.pc t + 1)).mem.ar.has x.c x.g = true then 0 else 7)) /\ Hid (∃ r, RkStep cs p (m.setPc t (m.pc t + 1)).mem w' r p.mv ((m.setPc t (m.pc t + 1)).setMem ((m.setPc t (m.pc t + 1)).mem.drained t x l)) w'')) := fun w' x l h he => rk_drain h htl he (hxs x (by rw [he]; exact List.mem_cons_self)) hx8
  clear HM3 HX3 hwd hwj hhas HM' hck hGn hxs
  obtain ⟨Rj, RJ⟩ : ∃ Rj, m.regs t j = Rj := ⟨_, rfl⟩
  rw [RJ] at gj fj HST HQ
  go_wp2_with fail
  rw [<- hW3]
  clear hT hA hR hC zt q0 q1 q2 q3 q4 lW2 lk2 lt2 lr2 hW3
  refine HN.out.mono ?_
  rintro e w4 ⟨rfl, hb4⟩
  clear HN
  have G4 := hide (G3.out.below hb4)
  have HM4 : Hid (RkAt cs p (m.setPc t (m.pc t + 1)) w4) := hide G4.out.step.at'
  obtain ⟨W5, hW5⟩ : ∃ W5, W5 = w4.alloc (.cells #[.int .i64 kk, .int .i64 Gn] 50) := ⟨_, rfl⟩
  have b5 : Below w4.heap.size w4 W5 := by rw [hW5]; exact bRf.alloc nL _
  have G5 := hide (G4.out.below b5)
  have HM5 : Hid (RkAt cs p (m.setPc t (m.pc t + 1)) W5) := hide G5.out.step.at'
  have R5 := hide (G4.out.other (bx' := w4.heap.size) nL b5 (by rw [hW5]; simp))
  have x0 : W5.cell? ⟨w4.heap.size, 0, none⟩ = some (.int .i64 kk) := by rw [hW5]; simp
  have x1 : W5.cell? ⟨w4.heap.size, 1, none⟩ = some (.int .i64 Gn) := by rw [hW5]; simp
  have p2 := keep_cell b5 (keep_cell hb4 y2)
  have p3 := keep_cell b5 (keep_cell hb4 y3)
  have uM : W5.cell? ⟨p.k, 0, none⟩ = some (.pointer (some ⟨p.rp.mb, 0, none⟩)) := HM5.out.mM
  have sj := keep_cell b5 (keep_cell hb4 gj)
  have u4 : w4.cell? ⟨p.k, 0, none⟩ = some (.pointer (some ⟨p.rp.mb, 0, none⟩)) := HM4.out.mM
  have t4 : w4.cell? ⟨p.rp.mb, 1, none⟩ = some (.slice (some ⟨p.rp.tb, 0, none⟩) (m.setPc t (m.pc t + 1)).mem.threads p.rp.tcap) := HM4.out.mem.mWaits
  have tc4 : (m.setPc t (m.pc t + 1)).mem.threads <= p.rp.tcap := HM4.out.mem.tcap
  obtain ⟨uv, uown⟩ := HM4.out.mem.waits t (by rw [hthr]; exact htl)
  obtain ⟨uad, ucap, uvs, -, -, -⟩ := ownsRow_shape uown
  rw [uvs] at uv
  rw [hthr] at t4 tc4
  clear uown uvs
  have q4k : p.k < w4.heap.size := HM4.out.lk
  have q4m : p.rp.mb < w4.heap.size := HM4.out.mem.lm
  have q4t : p.rp.tb < w4.heap.size := HM4.out.mem.lt
  clear b5 hb4 G3 G4 HM4 y0 y1 y2 y3 y4 gi gj T3 R3 k3
  by_cases h8 : ((m.setPc t (m.pc t + 1)).mem.waits t).length < 8
  ·have HR : Hid ((m.setPc t (m.pc t + 1)).room t = (m.setPc t (m.pc t + 1))) := by show _ = _; unfold Mk.room; rw [if_neg (by omega)]
   have HS5 := hide (HST.out p.rp (m.setPc t (m.pc t + 1)) (W5.drewN 1) (HM5.out.drewN 1) h8 hy)
   have h8i : ((((m.setPc t (m.pc t + 1)).mem.waits t).length : Nat) : Int) < 8 := by omega
   clear HST hy hx8 h8 R5 HM5 hHD
   generalize ((m.setPc t (m.pc t + 1)).mem.waits t).length = N8 at *
   go_wp2_with fail
   rw [<- hW5]
   clear hW5 u4 t4 uv
   refine wp_region_F (S := (fun w' => w'.cell? ⟨p.k, 0, none⟩ = some (.pointer (some ⟨p.rp.mb, 0, none⟩)) /\ w'.cell? ⟨w4.heap.size, 0, none⟩ = some (.int .i64 kk) /\ w'.cell? ⟨w4.heap.size, 1, none⟩ = some (.int .i64 Gn) /\ w'.cell? ⟨w1.heap.size, 2, none⟩ = some (.int .i64 j) /\ w'.cell? ⟨w1.heap.size, 3, none⟩ = some (.int .i64 k) /\ w'.cell? ⟨p.rb t, j, none⟩ = some (.int .i64 Rj))) (by kernel_rfl) (by (try dsimp only); go_keep) (fun hHeld => ?_)
   iterate 13
    refine' wpAnyF_next (sz := 14) (n := 13) (v := _) rfl (by kernel_rfl) (fun _ _ _ h => h) (by assumption) (Or.inl ⟨by rfl, ?_⟩) ?_
    case' refine'_2 => (intro w' hSw; (try dsimp only at hSw); go_simp; try with_reducible rfl)
    try simp only [Act.put, fxs]
   refine wpAnyF_only (i := 13) rfl (by kernel_rfl) (fun K hK => ?_)
   go_simp
   go_at_call 74
   refine HS5.out.mono ?_
   rintro e w9 ⟨rfl, k9⟩
   dsimp only
   refine hK.out _ _ (Or.inl (by kernel_rfl)) ?_
   clear hK K
   try simp only [Act.put, fxs]
   refine wpAnyF_done (by kernel_rfl) ?_ _
   go_wp2
   go_ret
   obtain ⟨r9, k10⟩ := k9.out
   exact ⟨rfl, _, _, by rw [HQ.out, HR.out]; exact (G5.out.below (Below.drewN' 1)).step.trans k10⟩
  ·obtain ⟨x, l, he⟩ : ∃ x l, (m.setPc t (m.pc t + 1)).mem.waits t = x :: l := by
    cases hh : (m.setPc t (m.pc t + 1)).mem.waits t with
    | nil => rw [hh] at h8; exact absurd (show 0 < 8 by decide) h8
    | cons x l => exact ⟨x, l, rfl⟩
   have h8i : ¬ ((((m.setPc t (m.pc t + 1)).mem.waits t).length : Nat) : Int) < 8 := by omega
   have h8j : (8 : Int) <= ((((m.setPc t (m.pc t + 1)).mem.waits t).length : Nat) : Int) := by omega
   have hl8 : l.length < 8 := by rw [he, List.length_cons] at hx8; omega
   have HD5 := hide (hHD.out W5 x l HM5.out he)
   have hdn : ((m.setPc t (m.pc t + 1)).setMem ((m.setPc t (m.pc t + 1)).mem.drained t x l)).names (m.regs t i) = true := by rw [<- hy]; unfold Mk.names; rw [show ((m.setPc t (m.pc t + 1)).setMem ((m.setPc t (m.pc t + 1)).mem.drained t x l)).mem = (m.setPc t (m.pc t + 1)).mem.drained t x l from rfl, Ar.has_drained]
   have hdw : (((m.setPc t (m.pc t + 1)).setMem ((m.setPc t (m.pc t + 1)).mem.drained t x l)).mem.waits t).length < 8 := by rw [show ((m.setPc t (m.pc t + 1)).setMem ((m.setPc t (m.pc t + 1)).mem.drained t x l)).mem = (m.setPc t (m.pc t + 1)).mem.drained t x l from rfl, Rm.drained_waits]; exact hl8
   have HR0 : Hid ((m.setPc t (m.pc t + 1)).room t = if (m.setPc t (m.pc t + 1)).mem.ar.has x.c x.g = true then (m.setPc t (m.pc t + 1)).setMem ((m.setPc t (m.pc t + 1)).mem.drained t x l) else ((m.setPc t (m.pc t + 1)).setMem ((m.setPc t (m.pc t + 1)).mem.drained t x l)).addFault 1) := by
    show _ = _
    unfold Mk.room Mk.drain1
    rw [if_pos (by omega), he]
    by_cases hh : (m.setPc t (m.pc t + 1)).mem.ar.has x.c x.g = true
    ·simp only [if_pos hh]; rfl
    ·simp only [if_neg hh]; rfl
   clear hHD hy hx8 h8 he HM5
   generalize ((m.setPc t (m.pc t + 1)).mem.waits t).length = N8 at *
   cases hh : (m.setPc t (m.pc t + 1)).mem.ar.has x.c x.g
   ·have HR : Hid ((m.setPc t (m.pc t + 1)).room t = ((m.setPc t (m.pc t + 1)).setMem ((m.setPc t (m.pc t + 1)).mem.drained t x l)).addFault 1) := by show _ = _; rw [HR0.out, hh]; rfl
    rw [hh, if_neg (by decide)] at HD5
    clear HR0 hh hl8
    go_wp2_with fail
    rw [<- hW5]
    clear hW5 u4 t4 uv
    refine HD5.out.mono ?_
    rintro e w6 ⟨rfl, k6⟩
    clear HD5
    obtain ⟨r, k6⟩ := k6.out
    replace x0 := R5.out.keep k6 x0
    replace x1 := R5.out.keep k6 x1
    replace p2 := G5.out.keep k6 p2
    replace p3 := G5.out.keep k6 p3
    have G6 := hide (G5.out.trans k6)
    have R6 := hide (R5.out.trans k6)
    have HM6 : Hid (RkAt cs (p.to r p.mv) ((m.setPc t (m.pc t + 1)).setMem ((m.setPc t (m.pc t + 1)).mem.drained t x l)) w6) := hide G6.out.step.at'
    have hf6 : w6.cell? ⟨p.k, 3, none⟩ = some (.int .i64 m.faults) := HM6.out.mFaults
    have hz6 : w6.frozen? ⟨p.k, 3, none⟩ = false := HM6.out.fk 3
    have hfl2 : m.faults <= 900000000 := hfl
    have kF : RkStep cs (p.to r p.mv) ((m.setPc t (m.pc t + 1)).setMem ((m.setPc t (m.pc t + 1)).mem.drained t x l)).mem w6 r p.mv (((m.setPc t (m.pc t + 1)).setMem ((m.setPc t (m.pc t + 1)).mem.drained t x l)).addFault 1) (w6.setCell ⟨p.k, 3, none⟩ (.int .i64 ((m.faults : Int) + 1))) := HM6.out.addFault 1
    obtain ⟨W7, hW7⟩ : ∃ W7, W7 = w6.setCell ⟨p.k, 3, none⟩ (.int .i64 ((m.faults : Int) + 1)) := ⟨_, rfl⟩
    rw [<- hW7] at kF
    have z0 := R6.out.keep kF x0
    have z1 := R6.out.keep kF x1
    have z2 := G6.out.keep kF p2
    have z3 := G6.out.keep kF p3
    have G7 := hide (G6.out.trans kF)
    have HM7 : Hid (RkAt cs (p.to r p.mv) (((m.setPc t (m.pc t + 1)).setMem ((m.setPc t (m.pc t + 1)).mem.drained t x l)).addFault 1) W7) := hide G7.out.step.at'
    have HS5 := hide (HST.out r (((m.setPc t (m.pc t + 1)).setMem ((m.setPc t (m.pc t + 1)).mem.drained t x l)).addFault 1) (W7.drewN 1) (HM7.out.drewN 1) hdw hdn)
    have zM : W7.cell? ⟨p.k, 0, none⟩ = some (.pointer (some ⟨r.mb, 0, none⟩)) := HM7.out.mM
    have zj : W7.cell? ⟨p.rb t, j, none⟩ = some (.int .i64 (m.regs t j)) := HM7.out.regs t j htl hj
    have um6 : w6.cell? ⟨p.k, 0, none⟩ = some (.pointer (some ⟨r.mb, 0, none⟩)) := HM6.out.mM
    rw [RJ] at zj
    clear HST G6 R6 HM6 kF k6 R5 HM7 uM sj hdw hdn
    generalize m.faults = N at *
    go_wp2_with fail
    rw [<- hW7]
    clear hW7 hf6 hz6 x0 x1 p2 p3 um6
    refine wp_region_F (S := (fun w' => w'.cell? ⟨p.k, 0, none⟩ = some (.pointer (some ⟨r.mb, 0, none⟩)) /\ w'.cell? ⟨w4.heap.size, 0, none⟩ = some (.int .i64 kk) /\ w'.cell? ⟨w4.heap.size, 1, none⟩ = some (.int .i64 Gn) /\ w'.cell? ⟨w1.heap.size, 2, none⟩ = some (.int .i64 j) /\ w'.cell? ⟨w1.heap.size, 3, none⟩ = some (.int .i64 k) /\ w'.cell? ⟨p.rb t, j, none⟩ = some (.int .i64 Rj))) (by kernel_rfl) (by (try dsimp only); go_keep) (fun hHeld => ?_)
    iterate 13
     refine' wpAnyF_next (sz := 14) (n := 13) (v := _) rfl (by kernel_rfl) (fun _ _ _ h => h) (by assumption) (Or.inl ⟨by rfl, ?_⟩) ?_
     case' refine'_2 => (intro w' hSw; (try dsimp only at hSw); go_simp; try with_reducible rfl)
     try simp only [Act.put, fxs]
    refine wpAnyF_only (i := 13) rfl (by kernel_rfl) (fun K hK => ?_)
    go_simp
    go_at_call 74
    refine HS5.out.mono ?_
    rintro e w9 ⟨rfl, k9⟩
    dsimp only
    refine hK.out _ _ (Or.inl (by kernel_rfl)) ?_
    clear hK K
    try simp only [Act.put, fxs]
    refine wpAnyF_done (by kernel_rfl) ?_ _
    go_wp2
    go_ret
    obtain ⟨r9, k10⟩ := k9.out
    exact ⟨rfl, _, _, by rw [HQ.out, HR.out]; exact (G7.out.below (Below.drewN' 1)).step.trans k10⟩
   ·have HR : Hid ((m.setPc t (m.pc t + 1)).room t = (m.setPc t (m.pc t + 1)).setMem ((m.setPc t (m.pc t + 1)).mem.drained t x l)) := by show _ = _; rw [HR0.out, hh]; rfl
    rw [hh, if_pos rfl] at HD5
    clear HR0 hh hl8
    go_wp2_with fail
    rw [<- hW5]
    clear hW5 u4 t4 uv
    refine HD5.out.mono ?_
    rintro e w6 ⟨rfl, k6⟩
    clear HD5
    obtain ⟨r, k6⟩ := k6.out
    replace x0 := R5.out.keep k6 x0
    replace x1 := R5.out.keep k6 x1
    replace p2 := G5.out.keep k6 p2
    replace p3 := G5.out.keep k6 p3
    have G6 := hide (G5.out.trans k6)
    have HM6 : Hid (RkAt cs (p.to r p.mv) ((m.setPc t (m.pc t + 1)).setMem ((m.setPc t (m.pc t + 1)).mem.drained t x l)) w6) := hide G6.out.step.at'
    have HS5 := hide (HST.out r ((m.setPc t (m.pc t + 1)).setMem ((m.setPc t (m.pc t + 1)).mem.drained t x l)) (w6.drewN 1) (HM6.out.drewN 1) hdw hdn)
    have zM : w6.cell? ⟨p.k, 0, none⟩ = some (.pointer (some ⟨r.mb, 0, none⟩)) := HM6.out.mM
    have zj : w6.cell? ⟨p.rb t, j, none⟩ = some (.int .i64 (m.regs t j)) := HM6.out.regs t j htl hj
    rw [RJ] at zj
    clear HST HM6 k6 R5 uM sj hdw hdn
    go_wp2_with fail
    refine wp_region_F (S := (fun w' => w'.cell? ⟨p.k, 0, none⟩ = some (.pointer (some ⟨r.mb, 0, none⟩)) /\ w'.cell? ⟨w4.heap.size, 0, none⟩ = some (.int .i64 kk) /\ w'.cell? ⟨w4.heap.size, 1, none⟩ = some (.int .i64 Gn) /\ w'.cell? ⟨w1.heap.size, 2, none⟩ = some (.int .i64 j) /\ w'.cell? ⟨w1.heap.size, 3, none⟩ = some (.int .i64 k) /\ w'.cell? ⟨p.rb t, j, none⟩ = some (.int .i64 Rj))) (by kernel_rfl) (by (try dsimp only); go_keep) (fun hHeld => ?_)
    iterate 13
     refine' wpAnyF_next (sz := 14) (n := 13) (v := _) rfl (by kernel_rfl) (fun _ _ _ h => h) (by assumption) (Or.inl ⟨by rfl, ?_⟩) ?_
     case' refine'_2 => (intro w' hSw; (try dsimp only at hSw); go_simp; try with_reducible rfl)
     try simp only [Act.put, fxs]
    refine wpAnyF_only (i := 13) rfl (by kernel_rfl) (fun K hK => ?_)
    go_simp
    go_at_call 74
    refine HS5.out.mono ?_
    rintro e w9 ⟨rfl, k9⟩
    dsimp only
    refine hK.out _ _ (Or.inl (by kernel_rfl)) ?_
    clear hK K
    try simp only [Act.put, fxs]
    refine wpAnyF_done (by kernel_rfl) ?_ _
    go_wp2
    go_ret
    obtain ⟨r9, k10⟩ := k9.out
    exact ⟨rfl, _, _, by rw [HQ.out, HR.out]; exact (G6.out.below (Below.drewN' 1)).step.trans k10⟩
end
end Go.Proofs.YtaiigfcfmcicjaaGreatDoor
