import Derived.Test.YtaiigfcfmcicjaaGreatDoorF38
import Derived.Deep.RegionHeld3
import Derived.Test.YtaiigfcfmcicjaaGreatDoorF09
import Derived.Test.YtaiigfcfmcicjaaGreatDoorF47
import Derived.Test.YtaiigfcfmcicjaaGreatDoorF05
namespace Go.Proofs.YtaiigfcfmcicjaaGreatDoor
set_option maxRecDepth 100000
set_option maxHeartbeats 8000000
section
open Go.RowKit Go.Extern.Stop Go.Stop Go.Extern Go.Sort
variable {cs : List (List Ins)} {L : List Ins} {K t : Nat} {w : World}
theorem rstep_mark {p : RkPl} {m : Mk} (D : RkX cs p m K w) (ht : cs[t]? = some L) {x : Ins} (hx : L[m.pc t]? = some x) (e : x.op = ⟨#[109, 97, 114, 107]⟩) {i : Nat} (hi : i < 8) (ei : x.a = i) :
  Calls Tryz.prog 47 #[.pointer (some ⟨p.k, 0, none⟩), .int .i64 t] w fun e w' => e = .returned (.int .i64 0) /\ ∃ r v, RkStep cs p m.mem w r v (m.step L t) w' := by
 have hM : m.step L t = (m.setPc t (m.pc t + 1)).exec L t x := by unfold Mk.step; rw [hx]
 obtain ⟨M', hM'⟩ : ∃ M', M' = (m.setPc t (m.pc t + 1)).exec L t x := ⟨_, rfl⟩
 rw [hM, <- hM']
 rw [exec_mark (m.setPc t (m.pc t + 1)) L t e] at hM'
 clear hM
 rw [ei] at hM'
 simp only [Int.toNat_natCast] at hM'
 try simp only [show ∀ r, (m.setPc t (m.pc t + 1)).regs t r = m.regs t r from fun _ => rfl] at hM'
 have HD := hide (rdone_at ht hx D.at')
 obtain ⟨xo, xa, xb, xc, xt⟩ := x
 dsimp only at e ei hM' ⊢
 subst e ei
 have HM' := hide hM'
 clear hM'
 obtain ⟨htl, h6, hpl, hL2, hcap, hcc, ti, t6, pi, hpc2, hpw, hpw2, hr8, HIN, HX, H, d0, hT⟩ := pfx1 D ht hx
 have li : (i : Int) < 8 := by omega
 clear D
 go_enter Tryz.func47, Tryz.ntmps47
 go_wp2_with fail
 refine HD.out.mono ?_
 rintro e w1 ⟨rfl, hb1⟩
 clear HD hT
 obtain ⟨cb, off, H1, hT, hA, hR, had, c0, c1, c2, c3, c4, hC, lcb, lk, lt, lr, zt⟩ := pfx2 H HIN htl ht hx hb1
 dsimp only at c0 c1 c2 c3 c4
 obtain ⟨W2, hW2⟩ : ∃ W2, W2 = (w1.alloc (.cells #[.string ⟨#[109, 97, 114, 107]⟩, .int .i64 i, .int .i64 xb, .int .i64 xc, .string xt] 101)).drew := ⟨_, rfl⟩
 obtain ⟨b2, q0, q1, q2, q3, q4, lW2⟩ := box5d hW2
 clear HIN had
 go_wp2_with fail
 go_region
 rw [<- hW2]
 have P := pfx3a H htl hb1 b2 lW2
 replace hC := keep_cell b2 hC
 clear hT hA hR zt
 obtain ⟨B2, H2, hT, hA, hR, zt, dk, dr1, dr2, G2, nk, nt, nr, lk2, lt2, lr2⟩ := P
 obtain ⟨W3, hW3⟩ : ∃ W3, W3 = W2.setCell ⟨p.tb, t * 3 + 2, none⟩ (.int .i64 ((m.pc t : Int) + 1)) := ⟨_, rfl⟩
 have S3 : Hid (RkStep cs p m.mem W2 p.rp p.mv (m.setPc t (m.pc t + 1)) W3) := hide (by rw [hW3]; exact H2.out.setPc htl (m.pc t + 1))
 have G3 : Hid (Stg cs p m.mem w w1.heap.size p.rp p.mv (m.setPc t (m.pc t + 1)) W3) := hide (G2.out.trans S3.out)
 have HM3 : Hid (RkAt cs p (m.setPc t (m.pc t + 1)) W3) := hide G3.out.step.at'
 have HX3 : Hid (RkX cs p (m.setPc t (m.pc t + 1)) K W3) := hide ⟨HM3.out, HX.out.ok.setPc t (by omega), HX.out.right, HX.out.hK⟩
 have y0 := G2.out.keep S3.out q0
 have y1 := G2.out.keep S3.out q1
 have y2 := G2.out.keep S3.out q2
 have y3 := G2.out.keep S3.out q3
 have y4 := G2.out.keep S3.out q4
 have HK2 := hide H2.out.mMarks
 have T3 := HM3.out.mT
 have R3 := HM3.out.tRegs t htl
 have k3 := HM3.out.mM
 have lW3 : w1.heap.size < W3.heap.size := G3.out.lt
 have G0 : Hid (∀ r, r < 8 -> W2.cell? ⟨p.rb t, r, none⟩ = some (.int .i64 (m.regs t r)) /\ W2.frozen? ⟨p.rb t, r, none⟩ = false) := fun r hr => ⟨H2.out.regs t r htl hr, H2.out.fr t r htl⟩
 clear H2 c0 c1 c2 c3 c4 hb1 b2 B2 hW2 G2 S3 H1 lcb
 obtain ⟨fi, fzi⟩ := G0.out i (by omega)
 have gi : W3.cell? ⟨p.rb t, i, none⟩ = some (.int .i64 (m.regs t i)) := HM3.out.regs t i htl (by omega)
 clear G0
 obtain ⟨ad, cap, hvs, hcl, hcm, -⟩ := ownsRow_shape HM3.out.own
 have hv := HM3.out.own
 rw [hvs] at hv
 rw [show (m.setPc t (m.pc t + 1)).marks = m.marks from rfl] at hv hvs hcl
 have hm : W3.cell? ⟨p.k, 2, none⟩ = some (.slice ad m.marks.length cap) := by rw [<- hvs]; exact HM3.out.mMarks
 have hm2 : W2.cell? ⟨p.k, 2, none⟩ = some (.slice ad m.marks.length cap) := by rw [<- hvs]; exact HK2.out
 clear HK2
 have zk : W3.frozen? ⟨p.k, 2, none⟩ = false := HM3.out.fk 2
 have lk3 : p.k < W3.heap.size := HM3.out.lk
 have lr3 : p.rb t < W3.heap.size := HM3.out.lr htl
 have hml5 := HX3.out.ok.marks
 rw [show (m.setPc t (m.pc t + 1)).marks = m.marks from rfl] at hml5
 by_cases hl : m.marks.length < 500
 ·have HQ : Hid (M' = { (m.setPc t (m.pc t + 1)) with marks := m.marks ++ [(t, m.regs t i)] }) := by show _ = _; rw [HM'.out]; unfold Mk.mark; rw [if_pos (show (m.setPc t (m.pc t + 1)).marks.length < 500 from hl)]; rfl
  have hli : (m.marks.length : Int) < 500 := by omega
  obtain ⟨ri, hri, hrz, hrs, hrb⟩ := rmarkInfo
  have om : (Value.slice ad m.marks.length cap).ownBlock ≠ some p.k := fun e => (HM3.out.d4 _ (by rw [hvs]; exact e)).1 rfl
  have orr : (Value.slice ad m.marks.length cap).ownBlock ≠ some (p.rb t) := fun e => (HM3.out.d4 _ (by rw [hvs]; exact e)).2.2 t htl rfl
  have ob : (Value.slice ad m.marks.length cap).ownBlock ≠ some w1.heap.size := fun e => G3.out.nfp (.inr (.inr (.inr (.inl (by show p.mv.ownBlock = _; rw [hvs]; exact e)))))
  have HV := hide hvs
  have hml : m.marks.length + 1 <= maxLen := by unfold maxLen; omega
  have hmb : (m.marks.length + 1) * 16 <= 140737488355328 := by omega
  clear HX3 HM' hvs hcl hcm hl hml5
  generalize m.regs t i = Ri at *
  go_wp2_with fail
  rw [<- hW3]
  clear hT hA hR hC zt q0 q1 q2 q3 q4 lW2 lk2 lt2 lr2 hW3 hm2 fi fzi
  go_region_held3 (fun w' => w'.cell? ⟨p.k, 2, none⟩ = some (.slice ad m.marks.length cap) /\ w'.cell? ⟨w1.heap.size, 1, none⟩ = some (.int .i64 i) /\ w'.cell? ⟨p.rb t, i, none⟩ = some (.int .i64 Ri))
   (first
     | go_keep
     | (go_split_ands
        refine ⟨?_, ?_, ?_⟩
        ·(rw [hgrow.cell_far _ (by simp; omega) (Ne.symm om)]; assumption)
        ·(rw [hgrow.cell_far _ (by simp; omega) (Ne.symm ob)]; assumption)
        ·(rw [hgrow.cell_far _ (by simp; omega) (Ne.symm orr)]; assumption)))
   ((refine step_append_at _ (by rfl) _ _ _ (by rfl) 0 77 ri _ 2 16 Tryz.underlying59 hri hrz hrs hrb rfl (by omega) (.slice ad m.marks.length cap) _ (rmarkCells m.marks) (by rfl) ((hv.alloc _).drew)
      ⟨W3.heap.size, 0, none⟩ 1 1 [.int .i64 t, .int .i64 Ri] (by rfl) (by rfl) (World.news_of_block (cs := #[.int .i64 t, .int .i64 Ri]) (t := 77) (fr := (0, 0)) (heap_alloc_new W3 _)) (by simp [Value.oneCell'])
      hml hmb (by simp) ?_; intro gg gcap w6 hown6 hgrow hat))
  obtain ⟨j1, j2, j3⟩ := ‹_ /\ _ /\ _›
  have hg : ∀ b, b < W3.heap.size -> (Value.slice ad m.marks.length cap).ownBlock ≠ some b -> w6.heap[b]? = W3.heap[b]? := fun b hb hne => by
   rw [hgrow.block b (by simp; omega) (Ne.symm hne)]
   exact Below.heap_alloc _ _ _ hb
  have hz : W3.heap.size <= w6.heap.size := Nat.le_trans (by simp) hgrow.size
  have hf6 : w6.frozen? ⟨p.k, 2, none⟩ = false := by rw [World.frozen?_of_block (hg p.k lk3 om)]; exact zk
  have HT : Turns (fun k _ => p.mv.ownBlock = some k) W3 w6 := ⟨hgrow.os, hgrow.tape, hgrow.output, hz, fun k hk ho => hg k hk (fun e => ho 0 (by rw [HV.out]; exact e)),
   fun k o hk ho => World.cell?_of_block (hg k hk (fun e => ho (by rw [HV.out]; exact e))), fun k o hk ho => World.frozen?_of_block (hg k hk (fun e => ho (by rw [HV.out]; exact e)))⟩
  have HS := hide (G3.out.step.trans (HM3.out.marked (.slice gg (m.marks.length + 1) gcap) (m.marks ++ [(t, Ri)]) (by rw [rmarkCells_append, List.length_append]; exact hown6) HT (fun k e => by
   rcases hat with e2 | e2
   ·left; rw [HV.out, <- e2]; exact e
   ·right; rw [e2] at e; simp at e; omega)))
  clear hown6 hgrow hat hg HT HM3 G3 HV hri hrz hrs hrb hv hm zk om orr ob
  go_wp2
  go_ret
  exact ⟨rfl, _, _, by rw [HQ.out]; exact HS.out⟩
 ·have HQ : Hid (M' = (m.setPc t (m.pc t + 1))) := by show _ = _; rw [HM'.out]; unfold Mk.mark; rw [if_neg (show ¬ (m.setPc t (m.pc t + 1)).marks.length < 500 from hl)]
  have hli : ¬ (m.marks.length : Int) < 500 := by omega
  have HS := hide G3.out.step
  rw [hW3] at HS
  clear G3 HM3 HX3 HM' hv hvs hl
  go_wp2
  go_ret
  exact ⟨rfl, _, _, by rw [HQ.out]; exact HS.out⟩
theorem rstep_force {p : RkPl} {m : Mk} (D : RkX cs p m K w) (ht : cs[t]? = some L) {x : Ins} (hx : L[m.pc t]? = some x) (e : x.op = ⟨#[102, 111, 114, 99, 101]⟩) :
  Calls Tryz.prog 47 #[.pointer (some ⟨p.k, 0, none⟩), .int .i64 t] w fun e w' => e = .returned (.int .i64 0) /\ ∃ r v, RkStep cs p m.mem w r v (m.step L t) w' := by
 have hM : m.step L t = (m.setPc t (m.pc t + 1)).exec L t x := by unfold Mk.step; rw [hx]
 obtain ⟨M', hM'⟩ : ∃ M', M' = (m.setPc t (m.pc t + 1)).exec L t x := ⟨_, rfl⟩
 rw [hM, <- hM']
 rw [exec_force (m.setPc t (m.pc t + 1)) L t e] at hM'
 clear hM
 have HD := hide (rdone_at ht hx D.at')
 obtain ⟨xo, xa, xb, xc, xt⟩ := x
 dsimp only at e hM' ⊢
 subst e
 have HM' := hide hM'
 clear hM'
 obtain ⟨htl, h6, hpl, hL2, hcap, hcc, ti, t6, pi, hpc2, hpw, hpw2, hr8, HIN, HX, H, d0, hT⟩ := pfx1 D ht hx
 clear D
 go_enter Tryz.func47, Tryz.ntmps47
 go_wp2_with fail
 refine HD.out.mono ?_
 rintro e w1 ⟨rfl, hb1⟩
 clear HD hT
 obtain ⟨cb, off, H1, hT, hA, hR, had, c0, c1, c2, c3, c4, hC, lcb, lk, lt, lr, zt⟩ := pfx2 H HIN htl ht hx hb1
 dsimp only at c0 c1 c2 c3 c4
 obtain ⟨W2, hW2⟩ : ∃ W2, W2 = (w1.alloc (.cells #[.string ⟨#[102, 111, 114, 99, 101]⟩, .int .i64 xa, .int .i64 xb, .int .i64 xc, .string xt] 101)).drew := ⟨_, rfl⟩
 obtain ⟨b2, q0, q1, q2, q3, q4, lW2⟩ := box5d hW2
 clear HIN had
 go_wp2_with fail
 go_region
 rw [<- hW2]
 have P := pfx3a H htl hb1 b2 lW2
 replace hC := keep_cell b2 hC
 clear hT hA hR zt
 obtain ⟨B2, H2, hT, hA, hR, zt, dk, dr1, dr2, G2, nk, nt, nr, lk2, lt2, lr2⟩ := P
 obtain ⟨W3, hW3, S3, G3, HM3, HX3, y0, y1, y2, y3, y4, T3, R3, k3, lW3, G0⟩ := pfx3b HX htl (by omega) H2 G2 q0 q1 q2 q3 q4
 clear H2 c0 c1 c2 c3 c4 hb1 b2 B2 hW2 G2 S3 H1 lcb
 clear G0
 have hthr : (m.setPc t (m.pc t + 1)).mem.threads = cs.length := HM3.out.thr
 have hN := HX3.out.ok.thr
 rw [hthr] at HM'
 have HI : Hid (∃ mj r, Stg cs p m.mem w w1.heap.size r p.mv mj W3 /\ MkIn cs.length K (64 * K + 8 * 0) mj /\ mj.fenceFrom 0 (cs.length - 0) = M') := hide ⟨_, _, G3.out, HX3.out.ok.in, HM'.out.symm⟩
 have hKK := HX3.out.hK
 have T3' : ∀ (r : RmPl) (mj : Mk) (wr : World), Hid (Stg cs p m.mem w w1.heap.size r p.mv mj wr) -> wr.cell? ⟨p.k, 1, none⟩ = some (.slice (some ⟨p.tb, 0, none⟩) cs.length p.tcap) := fun r mj wr h => h.out.step.at'.mT
 clear HM3 HX3 hthr hN HM'
 go_wp2_with fail
 rw [<- hW3]
 clear hT hA hR hC zt q0 q1 q2 q3 q4 lW2 lk2 lt2 lr2 hW3
 clear y0 y1 y2 y3 y4 T3 R3 k3 G3
 go_loopw [29] (fun i wr => ∃ j : Nat, j <= cs.length /\ i = .int .i64 j /\ ∃ mj r, Hid (Stg cs p m.mem w w1.heap.size r p.mv mj wr /\ MkIn cs.length K (64 * K + 8 * j) mj /\ mj.fenceFrom j (cs.length - j) = M')) (fun i _ => cs.length - (intOf i).toNat)
 case atStart =>
  obtain ⟨mj, r, hh⟩ := HI.out
  exact ⟨0, Nat.zero_le _, rfl, mj, r, hide hh⟩
 case round =>
  clear HI
  obtain ⟨j, hj, rfl, mj, r, HH⟩ := hrel
  have TT := T3' r mj wr (hide HH.out.1)
  by_cases hlt : j < cs.length
  ·have ji : (j : Int) < cs.length := by omega
   have HF := hide (rkfence_any hlt HH.out.1.step.at' (HH.out.2.1.mem.ok j (by rw [HH.out.2.1.thr]; exact hlt)) (HH.out.2.1.mem.few j (by rw [HH.out.2.1.thr]; exact hlt)) (by have := HH.out.2.1.faults; omega))
   go_wp2_with fail
   refine HF.out.mono ?_
   rintro e w4 ⟨rfl, r2, k4⟩
   have H2 : Hid (Stg cs p m.mem w w1.heap.size r2 p.mv (mj.fence j) w4 /\ MkIn cs.length K (64 * K + 8 * (j + 1)) (mj.fence j) /\ (mj.fence j).fenceFrom (j + 1) (cs.length - (j + 1)) = M') := hide ⟨HH.out.1.trans k4, by have := HH.out.2.1.fence hlt; exact this, by
    have := HH.out.2.2
    rw [show cs.length - j = (cs.length - (j + 1)) + 1 by omega] at this
    exact this⟩
   clear k4 HF HH TT
   go_wp2
   go_roundw
   case rel => exact ⟨j + 1, by omega, by go_num, _, _, H2⟩
   case measure => simp [intOf]; omega
  ·obtain rfl : j = cs.length := by omega
   have HZ : Hid (mj = M') := by
    have := HH.out.2.2
    rw [Nat.sub_self] at this
    exact this
   go_wp2
   go_ret
   exact ⟨rfl, _, _, by rw [<- HZ.out]; exact HH.out.1.step⟩
end
end Go.Proofs.YtaiigfcfmcicjaaGreatDoor
