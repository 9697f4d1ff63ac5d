import Derived.Test.YtdpmnlbnlnmjbaaGreatDoorK35
import Derived.Deep.RegionHeld3
import Derived.Test.YtdpmnlbnlnmjbaaGreatDoorK23
import Derived.Test.YtdpmnlbnlnmjbaaGreatDoorK38
import Derived.Test.YtdpmnlbnlnmjbaaGreatDoorK06
import Derived.Test.YtdpmnlbnlnmjbaaGreatDoorK36
import Derived.Test.YtdpmnlbnlnmjbaaGreatDoorK37
import Derived.Test.YtdpmnlbnlnmjbaaGreatDoorK25

/- RkO -/
namespace Go.Proofs.YtdpmnlbnlnmjbaaGreatDoor
open Go.RowKit Go.Extern.Stop Go.Stop Go.Extern Go.Sort

set_option maxRecDepth 20000 in
set_option maxHeartbeats 2000000 in
theorem rstep_mark {cs : List (List Ins)} {p : RkPl} {m : Mk} {K t : Nat} {w : World} (D : RkX cs p m K w) {L : List Ins} (ht : cs[t]? = some L) {x : Ins} (hx : L[m.pc t]? = some x) (e : x.op = ⟨#[109, 97, 114, 107]⟩) {i : Nat} (hi : i < 8) (ei : x.a = i) :
    Calls Tryz.prog 25 #[.pointer (some ⟨p.k, 0, none⟩), .int .i64 t] w fun e w' => e = .returned (.int .i64 0) ∧ ∃ r v, RkStep cs p m.mem w r v (m.step L t) w' := by
  have hM : m.step L t = (m.setPc t (m.pc t + 1)).exec L t x := by unfold Mk.step; rw [hx]
  obtain ⟨M', hM'⟩ : ∃ M', M' = (m.setPc t (m.pc t + 1)).exec L t x := ⟨_, rfl⟩
  rw [hM, ← hM']
  rw [exec_mark (m.setPc t (m.pc t + 1)) L t e] at hM'
  clear hM
  rw [ei] at hM'
  simp only [Int.toNat_natCast] at hM'
  try simp only [show ∀ r, (m.setPc t (m.pc t + 1)).regs t r = m.regs t r from fun _ => rfl] at hM'
  have HD := hide (rdone_at ht hx D.at')
  obtain ⟨xo, xa, xb, xc, xt⟩ := x
  dsimp only at e ei hM' ⊢
  subst e ei
  have HM' := hide hM'
  clear hM'
  have htl := lt_of_get ht
  have h6 := D.at'.few
  have hpl := lt_of_get hx
  have hL2 := (D.right.right t L ht).1
  have hcap := D.at'.tcap
  have hcc := D.at'.ccap t L ht
  have ti : (t : Int) < cs.length := by omega
  have t6 : (t : Int) < 6 := by omega
  have pi : (m.pc t : Int) < L.length := by omega
  have hpc2 : m.pc t ≤ 2000 := D.ok.pcs t
  have hpw := wrapNext hpc2
  have hpw2 := wrapNext2 hpc2
  have hr8 := D.at'.rcap t htl
  have li : (i : Int) < 8 := by omega
  have HIN := hide (D.at'.rc.code ht)
  have HX := hide D
  have H := hide D.at'
  have d0 : decide ((t : Int) < 0) = false := by simp
  have hT := H.out.mT
  clear D
  go_enter Tryz.func25, Tryz.ntmps25
  go_wp2_with fail
  refine HD.out.mono ?_
  rintro e w1 ⟨rfl, hb1⟩
  clear HD hT
  have H1 := hide (H.out.below hb1)
  have HIN1 := hide (insAt_below HIN.out hb1)
  have hT := H1.out.mT
  have hA := H1.out.tAt t htl
  have hC := H1.out.tCode t L ht
  have hR := H1.out.tRegs t htl
  obtain ⟨cb, off, had, c0, c1, c2, c3, c4⟩ := HIN1.out _ _ hx
  dsimp only at c0 c1 c2 c3 c4
  rw [had] at hC
  have lcb : cb < w1.heap.size := World.block_lt_of_cell? _ _ c0
  have lk := H1.out.lk
  have lt := H1.out.lt'
  have lr := H1.out.lr htl
  have zt := H1.out.ft (t * 3 + 2)
  obtain ⟨W2, hW2⟩ : ∃ W2, W2 = (w1.alloc (.cells #[.string ⟨#[109, 97, 114, 107]⟩, .int .i64 i, .int .i64 xb, .int .i64 xc, .string xt] 75)).drew := ⟨_, rfl⟩
  have b2 : Below w1.heap.size w1 W2 := by rw [hW2]; exact ((Below.refl _ _).alloc (Nat.le_refl _) _).drew
  have q0 : W2.cell? ⟨w1.heap.size, 0, none⟩ = some (.string ⟨#[109, 97, 114, 107]⟩) := by rw [hW2]; simp
  have q1 : W2.cell? ⟨w1.heap.size, 1, none⟩ = some (.int .i64 i) := by rw [hW2]; simp
  have q2 : W2.cell? ⟨w1.heap.size, 2, none⟩ = some (.int .i64 xb) := by rw [hW2]; simp
  have q3 : W2.cell? ⟨w1.heap.size, 3, none⟩ = some (.int .i64 xc) := by rw [hW2]; simp
  have q4 : W2.cell? ⟨w1.heap.size, 4, none⟩ = some (.string xt) := by rw [hW2]; simp
  have lW2 : w1.heap.size < W2.heap.size := World.block_lt_of_cell? _ _ q0
  clear HIN HIN1 had
  go_wp2_with fail
  go_region
  rw [← hW2]
  have B2 := below_step hb1 b2
  have H2 := hide (H.out.below B2)
  replace hT := H2.out.mT
  replace hA := H2.out.tAt t htl
  replace hR := H2.out.tRegs t htl
  replace hC := keep_cell b2 hC
  replace zt := H2.out.ft (t * 3 + 2)
  have dk := H2.out.d1
  have dr1 := (H2.out.d2 t htl).1
  have dr2 := (H2.out.d2 t htl).2
  have G2 : Hid (Stg cs p m.mem w w1.heap.size p.rp p.mv m W2) := hide (Stg.first H.out B2 hb1.size lW2)
  obtain ⟨nk, nt, nr⟩ := G2.out.ne
  replace nr := nr t htl
  have lk2 : p.k < W2.heap.size := by omega
  have lt2 : p.tb < W2.heap.size := by omega
  have lr2 : p.rb t < W2.heap.size := by omega
  obtain ⟨W3, hW3⟩ : ∃ W3, W3 = W2.setCell ⟨p.tb, t * 3 + 2, none⟩ (.int .i64 ((m.pc t : Int) + 1)) := ⟨_, rfl⟩
  have S3 : Hid (RkStep cs p m.mem W2 p.rp p.mv (m.setPc t (m.pc t + 1)) W3) := hide (by rw [hW3]; exact H2.out.setPc htl (m.pc t + 1))
  have G3 : Hid (Stg cs p m.mem w w1.heap.size p.rp p.mv (m.setPc t (m.pc t + 1)) W3) := hide (G2.out.trans S3.out)
  have HM3 : Hid (RkAt cs p (m.setPc t (m.pc t + 1)) W3) := hide G3.out.step.at'
  have HX3 : Hid (RkX cs p (m.setPc t (m.pc t + 1)) K W3) := hide ⟨HM3.out, HX.out.ok.setPc t (by omega), HX.out.right, HX.out.hK⟩
  have y0 := G2.out.keep S3.out q0
  have y1 := G2.out.keep S3.out q1
  have y2 := G2.out.keep S3.out q2
  have y3 := G2.out.keep S3.out q3
  have y4 := G2.out.keep S3.out q4
  have HK2 := hide H2.out.mMarks
  have T3 := HM3.out.mT
  have R3 := HM3.out.tRegs t htl
  have k3 := HM3.out.mM
  have lW3 : w1.heap.size < W3.heap.size := G3.out.lt
  have G0 : Hid (∀ r, r < 8 → W2.cell? ⟨p.rb t, r, none⟩ = some (.int .i64 (m.regs t r)) ∧ W2.frozen? ⟨p.rb t, r, none⟩ = false) := fun r hr => ⟨H2.out.regs t r htl hr, H2.out.fr t r htl⟩
  clear H2 c0 c1 c2 c3 c4 hb1 b2 B2 hW2 G2 S3 H1 lcb
  obtain ⟨fi, fzi⟩ := G0.out i (by omega)
  have gi : W3.cell? ⟨p.rb t, i, none⟩ = some (.int .i64 (m.regs t i)) := HM3.out.regs t i htl (by omega)
  clear G0
  obtain ⟨ad, cap, hvs, hcl, hcm, -⟩ := ownsRow_shape HM3.out.own
  have hv := HM3.out.own
  rw [hvs] at hv
  rw [show (m.setPc t (m.pc t + 1)).marks = m.marks from rfl] at hv hvs hcl
  have hm : W3.cell? ⟨p.k, 2, none⟩ = some (.slice ad m.marks.length cap) := by rw [← hvs]; exact HM3.out.mMarks
  have hm2 : W2.cell? ⟨p.k, 2, none⟩ = some (.slice ad m.marks.length cap) := by rw [← hvs]; exact HK2.out
  clear HK2
  have zk : W3.frozen? ⟨p.k, 2, none⟩ = false := HM3.out.fk 2
  have lk3 : p.k < W3.heap.size := HM3.out.lk
  have lr3 : p.rb t < W3.heap.size := HM3.out.lr htl
  have hml5 := HX3.out.ok.marks
  rw [show (m.setPc t (m.pc t + 1)).marks = m.marks from rfl] at hml5
  by_cases hl : m.marks.length < 500
  · have HQ : Hid (M' = { (m.setPc t (m.pc t + 1)) with marks := m.marks ++ [(t, m.regs t i)] }) := by show _ = _; rw [HM'.out]; unfold Mk.mark; rw [if_pos (show (m.setPc t (m.pc t + 1)).marks.length < 500 from hl)]; rfl
    have hli : (m.marks.length : Int) < 500 := by omega
    obtain ⟨ri, hri, hrz, hrs, hrb⟩ := rmarkInfo
    have om : (Value.slice ad m.marks.length cap).ownBlock ≠ some p.k := fun e => (HM3.out.d4 _ (by rw [hvs]; exact e)).1 rfl
    have orr : (Value.slice ad m.marks.length cap).ownBlock ≠ some (p.rb t) := fun e => (HM3.out.d4 _ (by rw [hvs]; exact e)).2.2 t htl rfl
    have ob : (Value.slice ad m.marks.length cap).ownBlock ≠ some w1.heap.size := fun e => G3.out.nfp (.inr (.inr (.inr (.inl (by show p.mv.ownBlock = _; rw [hvs]; exact e)))))
    have HV := hide hvs
    have hml : m.marks.length + 1 ≤ maxLen := by unfold maxLen; omega
    have hmb : (m.marks.length + 1) * 16 ≤ 140737488355328 := by omega
    clear HX3 HM' hvs hcl hcm hl hml5
    generalize m.regs t i = Ri at *
    go_wp2_with fail
    rw [← hW3]
    clear hT hA hR hC zt q0 q1 q2 q3 q4 lW2 lk2 lt2 lr2 hW3 hm2 fi fzi
    go_region_held3 (fun w' => w'.cell? ⟨p.k, 2, none⟩ = some (.slice ad m.marks.length cap) ∧ w'.cell? ⟨w1.heap.size, 1, none⟩ = some (.int .i64 i) ∧ w'.cell? ⟨p.rb t, i, none⟩ = some (.int .i64 Ri))
      (first
        | go_keep
        | (go_split_ands
           refine ⟨?_, ?_, ?_⟩
           · (rw [hgrow.cell_far _ (by simp; omega) (Ne.symm om)]; assumption)
           · (rw [hgrow.cell_far _ (by simp; omega) (Ne.symm ob)]; assumption)
           · (rw [hgrow.cell_far _ (by simp; omega) (Ne.symm orr)]; assumption)))
      ((refine step_append_at _ (by rfl) _ _ _ (by rfl) 0 126 ri _ 2 16 Tryz.underlying60 hri hrz hrs hrb rfl (by omega) (.slice ad m.marks.length cap) _ (rmarkCells m.marks) (by rfl) ((hv.alloc _).drew)
          ⟨W3.heap.size, 0, none⟩ 1 1 [.int .i64 t, .int .i64 Ri] (by rfl) (by rfl) (World.news_of_block (cs := #[.int .i64 t, .int .i64 Ri]) (t := 126) (fr := (0, 0)) (heap_alloc_new W3 _)) (by simp [Value.oneCell'])
          hml hmb (by simp) ?_; intro gg gcap w6 hown6 hgrow hat))
    obtain ⟨j1, j2, j3⟩ := ‹_ ∧ _ ∧ _›
    have hg : ∀ b, b < W3.heap.size → (Value.slice ad m.marks.length cap).ownBlock ≠ some b → w6.heap[b]? = W3.heap[b]? := fun b hb hne => by
      rw [hgrow.block b (by simp; omega) (Ne.symm hne)]
      exact Below.heap_alloc _ _ _ hb
    have hz : W3.heap.size ≤ w6.heap.size := Nat.le_trans (by simp) hgrow.size
    have hf6 : w6.frozen? ⟨p.k, 2, none⟩ = false := by rw [World.frozen?_of_block (hg p.k lk3 om)]; exact zk
    have HT : Turns (fun k _ => p.mv.ownBlock = some k) W3 w6 := ⟨hgrow.os, hgrow.tape, hgrow.output, hz, fun k hk ho => hg k hk (fun e => ho 0 (by rw [HV.out]; exact e)),
      fun k o hk ho => World.cell?_of_block (hg k hk (fun e => ho (by rw [HV.out]; exact e))), fun k o hk ho => World.frozen?_of_block (hg k hk (fun e => ho (by rw [HV.out]; exact e)))⟩
    have HS := hide (G3.out.step.trans (HM3.out.marked (.slice gg (m.marks.length + 1) gcap) (m.marks ++ [(t, Ri)]) (by rw [rmarkCells_append, List.length_append]; exact hown6) HT (fun k e => by
      rcases hat with e2 | e2
      · left; rw [HV.out, ← e2]; exact e
      · right; rw [e2] at e; simp at e; omega)))
    clear hown6 hgrow hat hg HT HM3 G3 HV hri hrz hrs hrb hv hm zk om orr ob
    go_wp2
    go_ret
    exact ⟨rfl, _, _, by rw [HQ.out]; exact HS.out⟩
  · have HQ : Hid (M' = (m.setPc t (m.pc t + 1))) := by show _ = _; rw [HM'.out]; unfold Mk.mark; rw [if_neg (show ¬ (m.setPc t (m.pc t + 1)).marks.length < 500 from hl)]
    have hli : ¬ (m.marks.length : Int) < 500 := by omega
    have HS := hide G3.out.step
    rw [hW3] at HS
    clear G3 HM3 HX3 HM' hv hvs hl
    go_wp2
    go_ret
    exact ⟨rfl, _, _, by rw [HQ.out]; exact HS.out⟩

set_option maxRecDepth 20000 in
set_option maxHeartbeats 2000000 in
theorem rstep_force {cs : List (List Ins)} {p : RkPl} {m : Mk} {K t : Nat} {w : World} (D : RkX cs p m K w) {L : List Ins} (ht : cs[t]? = some L) {x : Ins} (hx : L[m.pc t]? = some x) (e : x.op = ⟨#[102, 111, 114, 99, 101]⟩) :
    Calls Tryz.prog 25 #[.pointer (some ⟨p.k, 0, none⟩), .int .i64 t] w fun e w' => e = .returned (.int .i64 0) ∧ ∃ r v, RkStep cs p m.mem w r v (m.step L t) w' := by
  have hM : m.step L t = (m.setPc t (m.pc t + 1)).exec L t x := by unfold Mk.step; rw [hx]
  obtain ⟨M', hM'⟩ : ∃ M', M' = (m.setPc t (m.pc t + 1)).exec L t x := ⟨_, rfl⟩
  rw [hM, ← hM']
  rw [exec_force (m.setPc t (m.pc t + 1)) L t e] at hM'
  clear hM
  have HD := hide (rdone_at ht hx D.at')
  obtain ⟨xo, xa, xb, xc, xt⟩ := x
  dsimp only at e hM' ⊢
  subst e
  have HM' := hide hM'
  clear hM'
  have htl := lt_of_get ht
  have h6 := D.at'.few
  have hpl := lt_of_get hx
  have hL2 := (D.right.right t L ht).1
  have hcap := D.at'.tcap
  have hcc := D.at'.ccap t L ht
  have ti : (t : Int) < cs.length := by omega
  have t6 : (t : Int) < 6 := by omega
  have pi : (m.pc t : Int) < L.length := by omega
  have hpc2 : m.pc t ≤ 2000 := D.ok.pcs t
  have hpw := wrapNext hpc2
  have hpw2 := wrapNext2 hpc2
  have hr8 := D.at'.rcap t htl
  have HIN := hide (D.at'.rc.code ht)
  have HX := hide D
  have H := hide D.at'
  have d0 : decide ((t : Int) < 0) = false := by simp
  have hT := H.out.mT
  clear D
  go_enter Tryz.func25, Tryz.ntmps25
  go_wp2_with fail
  refine HD.out.mono ?_
  rintro e w1 ⟨rfl, hb1⟩
  clear HD hT
  have H1 := hide (H.out.below hb1)
  have HIN1 := hide (insAt_below HIN.out hb1)
  have hT := H1.out.mT
  have hA := H1.out.tAt t htl
  have hC := H1.out.tCode t L ht
  have hR := H1.out.tRegs t htl
  obtain ⟨cb, off, had, c0, c1, c2, c3, c4⟩ := HIN1.out _ _ hx
  dsimp only at c0 c1 c2 c3 c4
  rw [had] at hC
  have lcb : cb < w1.heap.size := World.block_lt_of_cell? _ _ c0
  have lk := H1.out.lk
  have lt := H1.out.lt'
  have lr := H1.out.lr htl
  have zt := H1.out.ft (t * 3 + 2)
  obtain ⟨W2, hW2⟩ : ∃ W2, W2 = (w1.alloc (.cells #[.string ⟨#[102, 111, 114, 99, 101]⟩, .int .i64 xa, .int .i64 xb, .int .i64 xc, .string xt] 75)).drew := ⟨_, rfl⟩
  have b2 : Below w1.heap.size w1 W2 := by rw [hW2]; exact ((Below.refl _ _).alloc (Nat.le_refl _) _).drew
  have q0 : W2.cell? ⟨w1.heap.size, 0, none⟩ = some (.string ⟨#[102, 111, 114, 99, 101]⟩) := by rw [hW2]; simp
  have q1 : W2.cell? ⟨w1.heap.size, 1, none⟩ = some (.int .i64 xa) := by rw [hW2]; simp
  have q2 : W2.cell? ⟨w1.heap.size, 2, none⟩ = some (.int .i64 xb) := by rw [hW2]; simp
  have q3 : W2.cell? ⟨w1.heap.size, 3, none⟩ = some (.int .i64 xc) := by rw [hW2]; simp
  have q4 : W2.cell? ⟨w1.heap.size, 4, none⟩ = some (.string xt) := by rw [hW2]; simp
  have lW2 : w1.heap.size < W2.heap.size := World.block_lt_of_cell? _ _ q0
  clear HIN HIN1 had
  go_wp2_with fail
  go_region
  rw [← hW2]
  have B2 := below_step hb1 b2
  have H2 := hide (H.out.below B2)
  replace hT := H2.out.mT
  replace hA := H2.out.tAt t htl
  replace hR := H2.out.tRegs t htl
  replace hC := keep_cell b2 hC
  replace zt := H2.out.ft (t * 3 + 2)
  have dk := H2.out.d1
  have dr1 := (H2.out.d2 t htl).1
  have dr2 := (H2.out.d2 t htl).2
  have G2 : Hid (Stg cs p m.mem w w1.heap.size p.rp p.mv m W2) := hide (Stg.first H.out B2 hb1.size lW2)
  obtain ⟨nk, nt, nr⟩ := G2.out.ne
  replace nr := nr t htl
  have lk2 : p.k < W2.heap.size := by omega
  have lt2 : p.tb < W2.heap.size := by omega
  have lr2 : p.rb t < W2.heap.size := by omega
  obtain ⟨W3, hW3⟩ : ∃ W3, W3 = W2.setCell ⟨p.tb, t * 3 + 2, none⟩ (.int .i64 ((m.pc t : Int) + 1)) := ⟨_, rfl⟩
  have S3 : Hid (RkStep cs p m.mem W2 p.rp p.mv (m.setPc t (m.pc t + 1)) W3) := hide (by rw [hW3]; exact H2.out.setPc htl (m.pc t + 1))
  have G3 : Hid (Stg cs p m.mem w w1.heap.size p.rp p.mv (m.setPc t (m.pc t + 1)) W3) := hide (G2.out.trans S3.out)
  have HM3 : Hid (RkAt cs p (m.setPc t (m.pc t + 1)) W3) := hide G3.out.step.at'
  have HX3 : Hid (RkX cs p (m.setPc t (m.pc t + 1)) K W3) := hide ⟨HM3.out, HX.out.ok.setPc t (by omega), HX.out.right, HX.out.hK⟩
  have y0 := G2.out.keep S3.out q0
  have y1 := G2.out.keep S3.out q1
  have y2 := G2.out.keep S3.out q2
  have y3 := G2.out.keep S3.out q3
  have y4 := G2.out.keep S3.out q4
  have T3 := HM3.out.mT
  have R3 := HM3.out.tRegs t htl
  have k3 := HM3.out.mM
  have lW3 : w1.heap.size < W3.heap.size := G3.out.lt
  have G0 : Hid (∀ r, r < 8 → W2.cell? ⟨p.rb t, r, none⟩ = some (.int .i64 (m.regs t r)) ∧ W2.frozen? ⟨p.rb t, r, none⟩ = false) := fun r hr => ⟨H2.out.regs t r htl hr, H2.out.fr t r htl⟩
  clear H2 c0 c1 c2 c3 c4 hb1 b2 B2 hW2 G2 S3 H1 lcb
  clear G0
  have hthr : (m.setPc t (m.pc t + 1)).mem.threads = cs.length := HM3.out.thr
  have hN := HX3.out.ok.thr
  rw [hthr] at HM'
  have HI : Hid (∃ mj r, Stg cs p m.mem w w1.heap.size r p.mv mj W3 ∧ MkIn cs.length K (64 * K + 8 * 0) mj ∧ mj.fenceFrom 0 (cs.length - 0) = M') := hide ⟨_, _, G3.out, HX3.out.ok.in, HM'.out.symm⟩
  have hKK := HX3.out.hK
  have T3' : ∀ (r : RmPl) (mj : Mk) (wr : World), Hid (Stg cs p m.mem w w1.heap.size r p.mv mj wr) → wr.cell? ⟨p.k, 1, none⟩ = some (.slice (some ⟨p.tb, 0, none⟩) cs.length p.tcap) := fun r mj wr h => h.out.step.at'.mT
  clear HM3 HX3 hthr hN HM'
  go_wp2_with fail
  rw [← hW3]
  clear hT hA hR hC zt q0 q1 q2 q3 q4 lW2 lk2 lt2 lr2 hW3
  clear y0 y1 y2 y3 y4 T3 R3 k3 G3
  go_loopw [29] (fun i wr => ∃ j : Nat, j ≤ cs.length ∧ i = .int .i64 j ∧ ∃ mj r, Hid (Stg cs p m.mem w w1.heap.size r p.mv mj wr ∧ MkIn cs.length K (64 * K + 8 * j) mj ∧ mj.fenceFrom j (cs.length - j) = M')) (fun i _ => cs.length - (intOf i).toNat)
  case atStart =>
    obtain ⟨mj, r, hh⟩ := HI.out
    exact ⟨0, Nat.zero_le _, rfl, mj, r, hide hh⟩
  case round =>
    clear HI
    obtain ⟨j, hj, rfl, mj, r, HH⟩ := hrel
    have TT := T3' r mj wr (hide HH.out.1)
    by_cases hlt : j < cs.length
    · have ji : (j : Int) < cs.length := by omega
      have HF := hide (rkfence_any hlt HH.out.1.step.at' (HH.out.2.1.mem.ok j (by rw [HH.out.2.1.thr]; exact hlt)) (HH.out.2.1.mem.few j (by rw [HH.out.2.1.thr]; exact hlt)) (by have := HH.out.2.1.faults; omega))
      go_wp2_with fail
      refine HF.out.mono ?_
      rintro e w4 ⟨rfl, r2, k4⟩
      have H2 : Hid (Stg cs p m.mem w w1.heap.size r2 p.mv (mj.fence j) w4 ∧ MkIn cs.length K (64 * K + 8 * (j + 1)) (mj.fence j) ∧ (mj.fence j).fenceFrom (j + 1) (cs.length - (j + 1)) = M') := hide ⟨HH.out.1.trans k4, by have := HH.out.2.1.fence hlt; exact this, by
        have := HH.out.2.2
        rw [show cs.length - j = (cs.length - (j + 1)) + 1 by omega] at this
        exact this⟩
      clear k4 HF HH TT
      go_wp2
      go_roundw
      case rel => exact ⟨j + 1, by omega, by go_num, _, _, H2⟩
      case measure => simp [intOf]; omega
    · obtain rfl : j = cs.length := by omega
      have HZ : Hid (mj = M') := by
        have := HH.out.2.2
        rw [Nat.sub_self] at this
        exact this
      go_wp2
      go_ret
      exact ⟨rfl, _, _, by rw [← HZ.out]; exact HH.out.1.step⟩
end Go.Proofs.YtdpmnlbnlnmjbaaGreatDoor

/- RkP -/
namespace Go.Proofs.YtdpmnlbnlnmjbaaGreatDoor
open Go.RowKit Go.Extern.Stop Go.Stop Go.Extern Go.Sort

theorem rstep_any {cs : List (List Ins)} {p : RkPl} {m : Mk} {K t : Nat} {w : World} (D : RkX cs p m K w) {L : List Ins} (ht : cs[t]? = some L) (hd : doneAt L (m.pc t) = false) :
    Calls Tryz.prog 25 #[.pointer (some ⟨p.k, 0, none⟩), .int .i64 t] w fun e w' => e = .returned (.int .i64 0) ∧ ∃ r v, RkStep cs p m.mem w r v (m.step L t) w' := by
  obtain ⟨x, hx, hst⟩ := doneAt_no hd
  obtain ⟨-, hI⟩ := D.right.right t L ht
  obtain ⟨hok, -⟩ := hI _ x hx
  rcases kinds hok with ⟨e, ⟨i0, l0, g0⟩, -⟩ | ⟨e, ⟨i0, l0, g0⟩, ⟨i1, l1, g1⟩⟩ | ⟨e, ⟨i0, l0, g0⟩, ⟨i1, l1, g1⟩, ⟨i2, l2, g2⟩⟩ | ⟨e, ⟨i0, l0, g0⟩, ⟨i1, l1, g1⟩, ⟨i2, l2, g2⟩⟩ | ⟨e, ⟨i0, l0, g0⟩, ⟨i1, l1, g1⟩, ⟨i2, l2, g2⟩⟩ | ⟨e, ⟨i0, l0, g0⟩, ⟨i1, l1, g1⟩, ⟨i2, l2, g2⟩⟩ | ⟨e, ⟨i0, l0, g0⟩, ⟨i1, l1, g1⟩, ⟨i2, l2, g2⟩⟩ | ⟨e, ⟨i0, l0, g0⟩, ⟨i1, l1, g1⟩, ⟨i2, l2, g2⟩⟩ | ⟨e, ⟨i0, l0, g0⟩, ⟨i1, l1, g1⟩, ⟨i2, l2, g2⟩⟩ | ⟨e, ⟨i0, l0, g0⟩, ⟨i1, l1, g1⟩, ⟨i2, l2, g2⟩⟩ | ⟨e, ⟨i0, l0, g0⟩⟩ | ⟨e, ⟨i0, l0, g0⟩⟩ | ⟨e, ⟨i0, l0, g0⟩⟩ | ⟨e, ⟨i0, l0, g0⟩⟩ | e | e | e | ⟨e, ⟨i0, l0, g0⟩, ⟨i1, g1⟩⟩ | ⟨e, ⟨i0, l0, g0⟩, ⟨i1, l1, g1⟩, ⟨i2, g2⟩⟩ | ⟨e, ⟨i0, g0⟩⟩ | ⟨e, -⟩
  · exact rstep_const D ht hx e l0 g0
  · exact rstep_move D ht hx e l0 g0 l1 g1
  · exact rstep_add D ht hx e l0 g0 l1 g1 l2 g2
  · exact rstep_sub D ht hx e l0 g0 l1 g1 l2 g2
  · exact rstep_and D ht hx e l0 g0 l1 g1 l2 g2
  · exact rstep_xor D ht hx e l0 g0 l1 g1 l2 g2
  · exact rstep_load D ht hx e l0 g0 l1 g1 l2 g2
  · exact rstep_store D ht hx e l0 g0 l1 g1 l2 g2
  · exact rstep_swap D ht hx e l0 g0 l1 g1 l2 g2
  · exact rstep_cas D ht hx e l0 g0 l1 g1 l2 g2
  · exact rstep_alloc D ht hx e l0 g0
  · exact rstep_free D ht hx e l0 g0
  · exact rstep_mark D ht hx e l0 g0
  · exact rstep_need D ht hx e l0 g0
  · exact rstep_fence D ht hx e
  · exact rstep_force D ht hx e
  · rw [e, toList_bl] at hst; cases hst
  · exact rstep_zero D ht hx e l0 g0 g1
  · exact rstep_same D ht hx e l0 g0 l1 g1 g2
  · exact rstep_goto D ht hx e g0
  · exact rstep_label D ht hx e

theorem rdone_any {cs : List (List Ins)} {p : RkPl} {m : Mk} {t : Nat} {L : List Ins} (ht : cs[t]? = some L) {w : World} (h : RkAt cs p m w) :
    Calls Tryz.prog 51 #[.pointer (some ⟨p.k, 0, none⟩), .int .i64 t] w fun e w' => e = .returned (.bool (doneAt L (m.pc t))) ∧ Below w.heap.size w w' := by
  unfold doneAt
  cases hx : L[m.pc t]? with
  | none =>
    have : L.length ≤ m.pc t := by
      rcases Nat.lt_or_ge (m.pc t) L.length with h1 | h1
      · rw [List.getElem?_eq_getElem h1] at hx; cases hx
      · exact h1
    exact rdone_end ht this h
  | some x => exact rdone_at ht hx h

set_option maxRecDepth 20000 in
theorem rstep_no {cs : List (List Ins)} {p : RkPl} {m : Mk} {t : Int} (ht : ¬ (0 ≤ t ∧ t < cs.length)) {w : World} (h : RkAt cs p m w) :
    Calls Tryz.prog 25 #[.pointer (some ⟨p.k, 0, none⟩), .int .i64 t] w fun e w' => e = .returned (.int .i64 2) ∧ Below w.heap.size w w' := by
  have hT := h.mT
  clear h
  go_enter Tryz.func25, Tryz.ntmps25
  rcases Int.lt_or_le t 0 with h0 | h0
  · go_wp2
    go_ret
    exact ⟨rfl, Below.refl _ _⟩
  · have h1 : (cs.length : Int) ≤ t := by omega
    clear ht
    go_wp2
    go_ret
    exact ⟨rfl, Below.refl _ _⟩

set_option maxRecDepth 20000 in
theorem rstep_done {cs : List (List Ins)} {p : RkPl} {m : Mk} {t : Nat} {L : List Ins} (ht : cs[t]? = some L) (hd : doneAt L (m.pc t) = true) {w : World} (h : RkAt cs p m w) :
    Calls Tryz.prog 25 #[.pointer (some ⟨p.k, 0, none⟩), .int .i64 t] w fun e w' => e = .returned (.int .i64 9) ∧ Below w.heap.size w w' := by
  have hT := h.mT
  have HD := hide (rdone_any ht h)
  rw [hd] at HD
  have htl := lt_of_get ht
  have ti : (t : Int) < cs.length := by omega
  have d0 : decide ((t : Int) < 0) = false := by simp
  clear h hd ht
  go_enter Tryz.func25, Tryz.ntmps25
  go_wp2_with fail
  refine HD.out.mono ?_
  rintro e w1 ⟨rfl, hb1⟩
  go_wp2
  go_ret
  exact ⟨rfl, hb1⟩

theorem rstepO {cs : List (List Ins)} {p : RkPl} {m : Mk} {K : Nat} {w : World} (h : RkX cs p m K w) (t : Int) :
    Calls Tryz.prog 25 #[.pointer (some ⟨p.k, 0, none⟩), .int .i64 t] w fun e w' => e = .returned (.int .i64 (m.stepO cs t).1) ∧ ∃ r v, RkStep cs p m.mem w r v (m.stepO cs t).2 w' := by
  unfold Mk.stepO
  by_cases h1 : 0 ≤ t ∧ t < cs.length
  · rw [if_pos h1]
    obtain ⟨u, rfl⟩ := Int.eq_ofNat_of_zero_le h1.1
    have hu : u < cs.length := by omega
    rw [Int.toNat_natCast]
    cases hd : doneAt (cs.getD u []) (m.pc u)
    · rw [if_neg (by decide)]
      exact rstep_any h (getD_some hu) hd
    · rw [if_pos rfl]
      exact (rstep_done (getD_some hu) hd h.at').mono fun e w' ⟨e1, e2⟩ => ⟨e1, _, _, RkStep.of_below' h.at' e2⟩
  · rw [if_neg h1]
    exact (rstep_no h1 h.at').mono fun e w' ⟨e1, e2⟩ => ⟨e1, _, _, RkStep.of_below' h.at' e2⟩

set_option maxRecDepth 20000 in
theorem rkdrain_no {cs : List (List Ins)} {p : RkPl} {m : Mk} {t : Int} (ht : ¬ (0 ≤ t ∧ t < cs.length)) {w : World} (h : RkAt cs p m w) :
    Calls Tryz.prog 27 #[.pointer (some ⟨p.k, 0, none⟩), .int .i64 t] w fun e w' => e = .returned (.int .i64 2) ∧ Below w.heap.size w w' := by
  have hT := h.mT
  clear h
  go_enter Tryz.func27, Tryz.ntmps27
  rcases Int.lt_or_le t 0 with h0 | h0
  · go_wp2
    go_ret
    exact ⟨rfl, Below.refl _ _⟩
  · have h1 : (cs.length : Int) ≤ t := by omega
    clear ht
    go_wp2
    go_ret
    exact ⟨rfl, Below.refl _ _⟩

set_option maxRecDepth 20000 in
theorem rkdrain_none {cs : List (List Ins)} {p : RkPl} {m : Mk} {t : Nat} (ht : t < cs.length) (he : m.mem.waits t = []) {w : World} (h : RkAt cs p m w) :
    Calls Tryz.prog 27 #[.pointer (some ⟨p.k, 0, none⟩), .int .i64 t] w fun e w' => e = .returned (.int .i64 5) ∧ Below w.heap.size w w' := by
  have hT := h.mT
  have hM := h.mM
  have HD := hide (rk_drain_none h ht he)
  have ti : (t : Int) < cs.length := by omega
  have d0 : decide ((t : Int) < 0) = false := by simp
  clear h he ht
  go_enter Tryz.func27, Tryz.ntmps27
  go_wp2_with fail
  refine HD.out.mono ?_
  rintro e w1 ⟨rfl, hb1⟩
  go_wp2
  go_ret
  exact ⟨rfl, hb1⟩

set_option maxRecDepth 20000 in
theorem rkdrain_some {cs : List (List Ins)} {p : RkPl} {m : Mk} {K t : Nat} {w : World} (D : RkX cs p m K w) (ht : t < cs.length) {x : Wt} {l : List Wt} (he : m.mem.waits t = x :: l) :
    Calls Tryz.prog 27 #[.pointer (some ⟨p.k, 0, none⟩), .int .i64 t] w fun e w' => e = .returned (.int .i64 0) ∧ ∃ r v, RkStep cs p m.mem w r v (m.drain1 t) w' := by
  have hT := D.at'.mT
  have hM := D.at'.mM
  have hf := D.faults
  have HD := hide (rk_drain D.at' ht he (D.waits ht x (by rw [he]; exact List.mem_cons_self)) (D.few ht))
  have ti : (t : Int) < cs.length := by omega
  have d0 : decide ((t : Int) < 0) = false := by simp
  obtain ⟨M', HM'⟩ : ∃ M', Hid (M' = m.drain1 t) := ⟨_, hide rfl⟩
  rw [← HM'.out]
  have HR0 : Hid (M' = if m.mem.ar.has x.c x.g = true then m.setMem (m.mem.drained t x l) else (m.setMem (m.mem.drained t x l)).addFault 1) := by
    show _ = _
    rw [HM'.out]
    unfold Mk.drain1
    rw [he]
    by_cases hh : m.mem.ar.has x.c x.g = true
    · simp only [if_pos hh]; rfl
    · simp only [if_neg hh]; rfl
  clear D he ht HM'
  cases hh : m.mem.ar.has x.c x.g
  · have HR : Hid (M' = (m.setMem (m.mem.drained t x l)).addFault 1) := by show _ = _; rw [HR0.out, hh]; rfl
    rw [hh, if_neg (by decide)] at HD
    clear HR0 hh
    go_enter Tryz.func27, Tryz.ntmps27
    go_wp2_with fail
    refine HD.out.mono ?_
    rintro e w1 ⟨rfl, r, k1⟩
    have HM1 := hide k1.at'
    have f1 : w1.cell? ⟨p.k, 3, none⟩ = some (.int .i64 m.faults) := HM1.out.mFaults
    have z1 : w1.frozen? ⟨p.k, 3, none⟩ = false := HM1.out.fk 3
    have kF : RkStep cs (p.to r p.mv) (m.setMem (m.mem.drained t x l)).mem w1 r p.mv ((m.setMem (m.mem.drained t x l)).addFault 1) (w1.setCell ⟨p.k, 3, none⟩ (.int .i64 ((m.faults : Int) + 1))) := HM1.out.addFault 1
    have HS := hide (k1.trans kF)
    clear k1 kF HM1 HD
    generalize m.faults = N at *
    go_wp2
    go_ret
    exact ⟨rfl, _, _, by rw [HR.out]; exact HS.out⟩
  · have HR : Hid (M' = m.setMem (m.mem.drained t x l)) := by show _ = _; rw [HR0.out, hh]; rfl
    rw [hh, if_pos rfl] at HD
    clear HR0 hh
    go_enter Tryz.func27, Tryz.ntmps27
    go_wp2_with fail
    refine HD.out.mono ?_
    rintro e w1 ⟨rfl, r, k1⟩
    have HS := hide k1
    clear k1 HD
    go_wp2
    go_ret
    exact ⟨rfl, _, _, by rw [HR.out]; exact HS.out⟩

theorem rdrainO {cs : List (List Ins)} {p : RkPl} {m : Mk} {K : Nat} {w : World} (h : RkX cs p m K w) (t : Int) :
    Calls Tryz.prog 27 #[.pointer (some ⟨p.k, 0, none⟩), .int .i64 t] w fun e w' => e = .returned (.int .i64 (m.drainO cs t).1) ∧ ∃ r v, RkStep cs p m.mem w r v (m.drainO cs t).2 w' := by
  unfold Mk.drainO
  by_cases h1 : 0 ≤ t ∧ t < cs.length
  · rw [if_pos h1]
    obtain ⟨u, rfl⟩ := Int.eq_ofNat_of_zero_le h1.1
    have hu : u < cs.length := by omega
    rw [Int.toNat_natCast]
    cases hd : m.mem.waits u with
    | nil =>
      rw [if_pos rfl]
      exact (rkdrain_none hu hd h.at').mono fun e w' ⟨e1, e2⟩ => ⟨e1, _, _, RkStep.of_below' h.at' e2⟩
    | cons x l =>
      rw [if_neg (by simp)]
      exact rkdrain_some h hu hd
  · rw [if_neg h1]
    exact (rkdrain_no h1 h.at').mono fun e w' ⟨e1, e2⟩ => ⟨e1, _, _, RkStep.of_below' h.at' e2⟩
end Go.Proofs.YtdpmnlbnlnmjbaaGreatDoor

/- RkQ -/
namespace Go.Proofs.YtdpmnlbnlnmjbaaGreatDoor
open Go.RowKit Go.Extern.Stop Go.Stop Go.Extern Go.Maps Go.WideMaps Go.Sort

set_option maxRecDepth 20000 in
set_option maxHeartbeats 1000000 in
theorem rturn_any {cs : List (List Ins)} {p : RkPl} {m : Mk} {K : Nat} {w : World} (h : RkX cs p m K w) (n : Int) :
    Calls Tryz.prog 49 #[.pointer (some ⟨p.k, 0, none⟩), .int .i64 n] w fun e w' => e = .returned (.int .i64 (m.turnO cs n).1) ∧ ∃ r v, RkStep cs p m.mem w r v (m.turnO cs n).2 w' := by
  have hp := h.at'.mT
  have h6 := h.at'.few
  have h1 := h.right.some'
  have HM : Hid ((if n.tmod (2 * (cs.length : Int)) < 0 then n.tmod (2 * (cs.length : Int)) + 2 * (cs.length : Int) else n.tmod (2 * (cs.length : Int))) = n % (2 * (cs.length : Int))) := tmod_mod n (by omega)
  have b1 := Int.emod_nonneg n (show (2 * (cs.length : Int)) ≠ 0 by omega)
  have b2 := Int.emod_lt_of_pos n (show 0 < (2 * (cs.length : Int)) by omega)
  have HS : Hid (n % (2 * (cs.length : Int)) < cs.length → Calls Tryz.prog 25 #[.pointer (some ⟨p.k, 0, none⟩), .int .i64 (n % (2 * (cs.length : Int)))] w fun e w' => e = .returned (.int .i64 (m.turnO cs n).1) ∧ Hid (∃ r v, RkStep cs p m.mem w r v (m.turnO cs n).2 w')) := fun hlt => by
    unfold Mk.turnO
    rw [if_pos hlt]
    exact rstepO h _
  have HD : Hid (¬ n % (2 * (cs.length : Int)) < cs.length → Calls Tryz.prog 27 #[.pointer (some ⟨p.k, 0, none⟩), .int .i64 (n % (2 * (cs.length : Int)) - cs.length)] w fun e w' => e = .returned (.int .i64 (m.turnO cs n).1) ∧ Hid (∃ r v, RkStep cs p m.mem w r v (m.turnO cs n).2 w')) := fun hlt => by
    unfold Mk.turnO
    rw [if_neg hlt]
    exact rdrainO h _
  have w2 : IntKind.i64.wrap (2 * (cs.length : Int)) = 2 * (cs.length : Int) := by rw [IntKind.wrap_i64]; omega
  clear h
  generalize (m.turnO cs n).1 = E at *
  generalize (m.turnO cs n).2 = M' at *
  clear HM
  generalize hN : cs.length = N at *
  have HN := hide hN
  clear hN
  obtain ⟨k, hk⟩ : ∃ k : Int, (N : Int) = k := ⟨_, rfl⟩
  have k1 : 1 ≤ k := by omega
  have k2 : k ≤ 6 := by omega
  rw [hk] at HS HD w2 b1 b2
  obtain ⟨r, hr⟩ : ∃ r, n.tmod (2 * k) = r := ⟨_, rfl⟩
  have HMM := tmod_mod n (show 0 < 2 * k by omega)
  rw [hr] at HMM
  obtain ⟨f1, f2, w3, w4⟩ := turn_facts n k (by omega) (by omega) r hr
  have kz : ¬ (2 * k = 0) := by omega
  have k0 : (2 * k == 0) = false := by simp; omega
  have kd : decide (2 * k = 0) = false := by simp; omega
  have kn : ¬ k = 0 := by omega
  clear h6 h1
  by_cases hc : r < 0
  · have hM := HMM
    rw [if_pos hc] at hM
    by_cases hd : n % (2 * k) < k
    · have HS1 := hide (HS.out hd)
      clear HS HD HMM
      rw [← hM] at HS1 hd
      clear hM b1 b2 f1 f2
      go_enter Tryz.func49, Tryz.ntmps49
      go_wp2_with fail
      refine HS1.out.mono ?_
      rintro e w1 ⟨rfl, h2⟩
      go_wp2
      go_ret
      exact ⟨rfl, h2.out⟩
    · have HD1 := hide (HD.out hd)
      clear HS HD HMM
      have w5 : IntKind.i64.wrap (n % (2 * k) - k) = n % (2 * k) - k := by rw [IntKind.wrap_i64]; omega
      rw [← hM] at HD1 hd w5
      clear hM b1 b2 f1 f2
      go_enter Tryz.func49, Tryz.ntmps49
      go_wp2_with fail
      refine HD1.out.mono ?_
      rintro e w1 ⟨rfl, h2⟩
      go_wp2
      go_ret
      exact ⟨rfl, h2.out⟩
  · have hM := HMM
    rw [if_neg hc] at hM
    by_cases hd : n % (2 * k) < k
    · have HS1 := hide (HS.out hd)
      clear HS HD HMM
      rw [← hM] at HS1 hd
      clear hM b1 b2 f1 f2
      go_enter Tryz.func49, Tryz.ntmps49
      go_wp2_with fail
      refine HS1.out.mono ?_
      rintro e w1 ⟨rfl, h2⟩
      go_wp2
      go_ret
      exact ⟨rfl, h2.out⟩
    · have HD1 := hide (HD.out hd)
      clear HS HD HMM
      have w5 : IntKind.i64.wrap (n % (2 * k) - k) = n % (2 * k) - k := by rw [IntKind.wrap_i64]; omega
      rw [← hM] at HD1 hd w5
      clear hM b1 b2 f1 f2
      go_enter Tryz.func49, Tryz.ntmps49
      go_wp2_with fail
      refine HD1.out.mono ?_
      rintro e w1 ⟨rfl, h2⟩
      go_wp2
      go_ret
      exact ⟨rfl, h2.out⟩

def RkRel (cs : List (List Ins)) (p : RkPl) (m : Mk) (K : Nat) (w : World) (ad : Option Addr) (l : List Int) (j : Nat) (wr : World) : Prop :=
  ∃ r v, RkStep cs p m.mem w r v (m.runO cs (l.take j)).2 wr ∧ RkX cs (p.to r v) (m.runO cs (l.take j)).2 (K + j) wr ∧ numsAt ad l wr

theorem RkRel.next {cs : List (List Ins)} {p : RkPl} {m : Mk} {K : Nat} {w : World} {ad : Option Addr} {l : List Int} {j : Nat} {x : Int} {r r' : RmPl} {v v' : Value} {wr w' : World}
    (hx : l[j]? = some x) (k : RkStep cs p m.mem w r v (m.runO cs (l.take j)).2 wr) (h : RkX cs (p.to r v) (m.runO cs (l.take j)).2 (K + j) wr) (hn : numsAt ad l wr)
    (hd : ∀ b off, ad = some ⟨b, off, none⟩ → ¬ (p.to r v).fp cs.length (m.runO cs (l.take j)).2.mem b) (hK : K + l.length ≤ 10000000)
    (k' : RkStep cs (p.to r v) (m.runO cs (l.take j)).2.mem wr r' v' (((m.runO cs (l.take j)).2.turnO cs x)).2 w') : RkRel cs p m K w ad l (j + 1) w' := by
  have hj : j < l.length := (List.getElem?_eq_some_iff.1 hx).1
  have e : l.take (j + 1) = l.take j ++ [x] := by rw [List.take_add_one, hx]; rfl
  unfold RkRel
  rw [e, Mk.runO_snoc]
  exact ⟨r', v', k.trans k', h.of k' (h.ok.turnO h.right x (by omega)) (by omega), hn.turns k'.turns (fun b off o hb => hd b off hb)⟩

set_option maxRecDepth 20000 in
set_option maxHeartbeats 1000000 in
theorem rrun_any {cs : List (List Ins)} {p : RkPl} {m : Mk} {K : Nat} {w : World} (h : RkX cs p m K w) {ad : Option Addr} {l : List Int} {cap : Nat} (hl : numsAt ad l w) (hlen : l.length ≤ 20000) (hcap : l.length ≤ cap) (hK : K + l.length ≤ 10000000)
    (hd : 0 < l.length → ∀ b off, ad = some ⟨b, off, none⟩ → b < w.heap.size ∧ ¬ p.fp cs.length m.mem b) :
    Calls Tryz.prog 21 #[.pointer (some ⟨p.k, 0, none⟩), .slice ad l.length cap] w fun e w' => e = .returned (.int .i64 (m.runO cs l).1) ∧ ∃ r v, RkStep cs p m.mem w r v (m.runO cs l).2 w' ∧ RkX cs (p.to r v) (m.runO cs l).2 (K + l.length) w' := by
  have H0 : Hid (RkRel cs p m K w ad l 0 w) := hide ⟨p.rp, p.mv, RkStep.refl h.at', h, hl⟩
  have HD := hide hd
  have i1 : (l.length : Int) ≤ 20000 := by omega
  have i2 : (l.length : Int) ≤ cap := by omega
  clear h hl hd
  go_enter Tryz.func21, Tryz.ntmps21
  go_wp2_with fail
  go_loopw [5, 6, 7] (fun c i _ wr => ∃ j : Nat, j ≤ l.length ∧ i = .int .i64 j ∧ c = .int .i64 (m.runO cs (l.take j)).1 ∧ Hid (RkRel cs p m K w ad l j wr)) (fun _ i _ _ => l.length - (intOf i).toNat)
  case atStart => exact ⟨0, Nat.zero_le _, rfl, rfl, H0⟩
  case round =>
    obtain ⟨j, hj, rfl, rfl, HH⟩ := hrel
    obtain ⟨r, v, hk, hx, hn⟩ := HH.out
    have hle := Mk.runO_le cs (l.take j) m
    rw [List.length_take] at hle
    by_cases hlt : j < l.length
    · obtain ⟨x, hxx⟩ : ∃ x, l[j]? = some x := ⟨_, List.getElem?_eq_getElem hlt⟩
      obtain ⟨ab, off, rfl, c0⟩ := hn j x hxx
      have ji : (j : Int) < l.length := by omega
      have j2 : (j : Int) < 20000 := by omega
      have HT := hide (rturn_any hx x)
      have HC := runO_count (cs := cs) (m := m) hxx
      have HF : ∀ b off', (some ⟨ab, off, none⟩ : Option Addr) = some ⟨b, off', none⟩ → ¬ (p.to r v).fp cs.length (m.runO cs (l.take j)).2.mem b := fun b off' e hb => by
        have := HD.out (by omega) b off' e
        rcases hk.fp b hb with h1 | h1
        · exact this.2 h1
        · omega
      have HR : Hid (∀ r' v' w', RkStep cs (p.to r v) (m.runO cs (l.take j)).2.mem wr r' v' (((m.runO cs (l.take j)).2.turnO cs x)).2 w' → RkRel cs p m K w (some ⟨ab, off, none⟩) l (j + 1) w') := hide (fun r' v' w' k' => RkRel.next hxx hk hx hn HF hK k')
      have hp : (p.to r v).k = p.k := rfl
      rw [hp] at HT
      clear hk hx hn HF H0 HH hp
      have hh : (m.runO cs (l.take (j + 1))).1 ≤ j + 1 := by have := Mk.runO_le cs (l.take (j + 1)) m; rw [List.length_take] at this; omega
      generalize hC1 : (m.runO cs (l.take (j + 1))).1 = C1 at *
      have HC1 := hide hC1
      clear hC1
      generalize (m.runO cs (l.take j)).1 = C0 at *
      generalize hm : (m.runO cs (l.take j)).2 = M at *
      clear hm
      have HT2 := HT.out
      clear HT
      generalize (M.turnO cs x).2 = M2 at *
      generalize (M.turnO cs x).1 = E1 at *
      clear hxx
      have w1c : IntKind.i64.wrap ((C0 : Int) + 1) = (C0 : Int) + 1 := by rw [IntKind.wrap_i64]; omega
      cases E1 with
      | zero =>
        have e0 : ((C1 : Nat) : Int) = (C0 : Int) + 1 := by rw [HC]; rfl
        clear HC
        rw [show (((0 : Nat) : Int)) = 0 from rfl] at HT2
        go_wp2_with fail
        refine HT2.mono ?_
        rintro e w1 ⟨rfl, r', v', hk'⟩
        have H1 := hide (HR.out r' v' w1 hk')
        clear hk' HR
        go_wp2
        go_roundw
        case rel => exact ⟨j + 1, by omega, by go_num, by rw [HC1.out, e0], H1⟩
        case measure => simp [intOf]; omega
      | succ E2 =>
        have e0 : C1 = C0 := by rw [HC]; rfl
        clear HC
        have ne0 : ¬ (((E2 + 1 : Nat) : Int)) = 0 := by omega
        have nb0 : ((((E2 + 1 : Nat) : Int)) == 0) = false := beq_eq_false_iff_ne.2 ne0
        generalize (((E2 + 1 : Nat) : Int)) = EE at *
        go_wp2_with fail
        refine HT2.mono ?_
        rintro e w1 ⟨rfl, r', v', hk'⟩
        have H1 := hide (HR.out r' v' w1 hk')
        clear hk' HR
        go_wp2
        go_roundw
        case rel => exact ⟨j + 1, by omega, by go_num, by rw [HC1.out, e0], H1⟩
        case measure => simp [intOf]; omega
    · obtain rfl : j = l.length := by omega
      have HZ : Hid (∃ r v, RkStep cs p m.mem w r v (m.runO cs l).2 wr ∧ RkX cs (p.to r v) (m.runO cs l).2 (K + l.length) wr) := hide ⟨r, v, by rw [List.take_length] at hk; exact hk, by rw [List.take_length] at hx; exact hx⟩
      have ht : l.take l.length = l := List.take_length
      rw [ht]
      clear hk hx hn H0 ht HH
      go_wp2
      go_ret
      exact ⟨rfl, HZ.out⟩
end Go.Proofs.YtdpmnlbnlnmjbaaGreatDoor
