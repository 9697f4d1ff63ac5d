import Derived.Test.YtdpmnlbnlnmjbaaGreatDoorK35
import Derived.Deep.RegionHeld3
import Derived.Test.YtdpmnlbnlnmjbaaGreatDoorK23

/- RkF -/
namespace Go.Proofs.YtdpmnlbnlnmjbaaGreatDoor
open Go.RowKit Go.Extern.Stop Go.Stop Go.Extern Go.Sort

set_option maxRecDepth 20000 in
set_option maxHeartbeats 2000000 in
theorem rstep_const {cs : List (List Ins)} {p : RkPl} {m : Mk} {K t : Nat} {w : World} (D : RkX cs p m K w) {L : List Ins} (ht : cs[t]? = some L) {x : Ins} (hx : L[m.pc t]? = some x) (e : x.op = ⟨#[99, 111, 110, 115, 116]⟩) {i : Nat} (hi : i < 8) (ei : x.a = i) :
    Calls Tryz.prog 25 #[.pointer (some ⟨p.k, 0, none⟩), .int .i64 t] w fun e w' => e = .returned (.int .i64 0) ∧ ∃ r v, RkStep cs p m.mem w r v (m.step L t) w' := by
  have hM : m.step L t = (m.setPc t (m.pc t + 1)).exec L t x := by unfold Mk.step; rw [hx]
  obtain ⟨M', hM'⟩ : ∃ M', M' = (m.setPc t (m.pc t + 1)).exec L t x := ⟨_, rfl⟩
  rw [hM, ← hM']
  rw [exec_const (m.setPc t (m.pc t + 1)) L t e] at hM'
  clear hM
  rw [ei] at hM'
  simp only [Int.toNat_natCast] at hM'
  try simp only [show ∀ r, (m.setPc t (m.pc t + 1)).regs t r = m.regs t r from fun _ => rfl] at hM'
  have HD := hide (rdone_at ht hx D.at')
  obtain ⟨xo, xa, xb, xc, xt⟩ := x
  dsimp only at e ei hM' ⊢
  subst e ei
  have HM' := hide hM'
  clear hM'
  have htl := lt_of_get ht
  have h6 := D.at'.few
  have hpl := lt_of_get hx
  have hL2 := (D.right.right t L ht).1
  have hcap := D.at'.tcap
  have hcc := D.at'.ccap t L ht
  have ti : (t : Int) < cs.length := by omega
  have t6 : (t : Int) < 6 := by omega
  have pi : (m.pc t : Int) < L.length := by omega
  have hpc2 : m.pc t ≤ 2000 := D.ok.pcs t
  have hpw := wrapNext hpc2
  have hpw2 := wrapNext2 hpc2
  have hr8 := D.at'.rcap t htl
  have li : (i : Int) < 8 := by omega
  have HIN := hide (D.at'.rc.code ht)
  have HX := hide D
  have H := hide D.at'
  have d0 : decide ((t : Int) < 0) = false := by simp
  have hT := H.out.mT
  clear D
  go_enter Tryz.func25, Tryz.ntmps25
  go_wp2_with fail
  refine HD.out.mono ?_
  rintro e w1 ⟨rfl, hb1⟩
  clear HD hT
  have H1 := hide (H.out.below hb1)
  have HIN1 := hide (insAt_below HIN.out hb1)
  have hT := H1.out.mT
  have hA := H1.out.tAt t htl
  have hC := H1.out.tCode t L ht
  have hR := H1.out.tRegs t htl
  obtain ⟨cb, off, had, c0, c1, c2, c3, c4⟩ := HIN1.out _ _ hx
  dsimp only at c0 c1 c2 c3 c4
  rw [had] at hC
  have lcb : cb < w1.heap.size := World.block_lt_of_cell? _ _ c0
  have lk := H1.out.lk
  have lt := H1.out.lt'
  have lr := H1.out.lr htl
  have zt := H1.out.ft (t * 3 + 2)
  obtain ⟨W2, hW2⟩ : ∃ W2, W2 = (w1.alloc (.cells #[.string ⟨#[99, 111, 110, 115, 116]⟩, .int .i64 i, .int .i64 xb, .int .i64 xc, .string xt] 75)).drew := ⟨_, rfl⟩
  have b2 : Below w1.heap.size w1 W2 := by rw [hW2]; exact ((Below.refl _ _).alloc (Nat.le_refl _) _).drew
  have q0 : W2.cell? ⟨w1.heap.size, 0, none⟩ = some (.string ⟨#[99, 111, 110, 115, 116]⟩) := by rw [hW2]; simp
  have q1 : W2.cell? ⟨w1.heap.size, 1, none⟩ = some (.int .i64 i) := by rw [hW2]; simp
  have q2 : W2.cell? ⟨w1.heap.size, 2, none⟩ = some (.int .i64 xb) := by rw [hW2]; simp
  have q3 : W2.cell? ⟨w1.heap.size, 3, none⟩ = some (.int .i64 xc) := by rw [hW2]; simp
  have q4 : W2.cell? ⟨w1.heap.size, 4, none⟩ = some (.string xt) := by rw [hW2]; simp
  have lW2 : w1.heap.size < W2.heap.size := World.block_lt_of_cell? _ _ q0
  clear HIN HIN1 had
  go_wp2_with fail
  go_region
  rw [← hW2]
  have B2 := below_step hb1 b2
  have H2 := hide (H.out.below B2)
  replace hT := H2.out.mT
  replace hA := H2.out.tAt t htl
  replace hR := H2.out.tRegs t htl
  replace hC := keep_cell b2 hC
  replace zt := H2.out.ft (t * 3 + 2)
  have dk := H2.out.d1
  have dr1 := (H2.out.d2 t htl).1
  have dr2 := (H2.out.d2 t htl).2
  have G2 : Hid (Stg cs p m.mem w w1.heap.size p.rp p.mv m W2) := hide (Stg.first H.out B2 hb1.size lW2)
  obtain ⟨nk, nt, nr⟩ := G2.out.ne
  replace nr := nr t htl
  have lk2 : p.k < W2.heap.size := by omega
  have lt2 : p.tb < W2.heap.size := by omega
  have lr2 : p.rb t < W2.heap.size := by omega
  obtain ⟨W3, hW3⟩ : ∃ W3, W3 = W2.setCell ⟨p.tb, t * 3 + 2, none⟩ (.int .i64 ((m.pc t : Int) + 1)) := ⟨_, rfl⟩
  have S3 : Hid (RkStep cs p m.mem W2 p.rp p.mv (m.setPc t (m.pc t + 1)) W3) := hide (by rw [hW3]; exact H2.out.setPc htl (m.pc t + 1))
  have G3 : Hid (Stg cs p m.mem w w1.heap.size p.rp p.mv (m.setPc t (m.pc t + 1)) W3) := hide (G2.out.trans S3.out)
  have HM3 : Hid (RkAt cs p (m.setPc t (m.pc t + 1)) W3) := hide G3.out.step.at'
  have HX3 : Hid (RkX cs p (m.setPc t (m.pc t + 1)) K W3) := hide ⟨HM3.out, HX.out.ok.setPc t (by omega), HX.out.right, HX.out.hK⟩
  have y0 := G2.out.keep S3.out q0
  have y1 := G2.out.keep S3.out q1
  have y2 := G2.out.keep S3.out q2
  have y3 := G2.out.keep S3.out q3
  have y4 := G2.out.keep S3.out q4
  have T3 := HM3.out.mT
  have R3 := HM3.out.tRegs t htl
  have k3 := HM3.out.mM
  have lW3 : w1.heap.size < W3.heap.size := G3.out.lt
  have G0 : Hid (∀ r, r < 8 → W2.cell? ⟨p.rb t, r, none⟩ = some (.int .i64 (m.regs t r)) ∧ W2.frozen? ⟨p.rb t, r, none⟩ = false) := fun r hr => ⟨H2.out.regs t r htl hr, H2.out.fr t r htl⟩
  clear H2 c0 c1 c2 c3 c4 hb1 b2 B2 hW2 G2 S3 H1 lcb
  obtain ⟨fi, fzi⟩ := G0.out i (by omega)
  have gi : W3.cell? ⟨p.rb t, i, none⟩ = some (.int .i64 (m.regs t i)) := HM3.out.regs t i htl (by omega)
  clear G0
  have HS := hide (G3.out.trans (HM3.out.setReg htl hi xb))
  rw [hW3] at HS
  clear G3 HM3 HX3
  go_wp2
  go_ret
  exact ⟨rfl, _, _, by rw [HM'.out]; exact HS.out.step⟩

set_option maxRecDepth 20000 in
set_option maxHeartbeats 2000000 in
theorem rstep_move {cs : List (List Ins)} {p : RkPl} {m : Mk} {K t : Nat} {w : World} (D : RkX cs p m K w) {L : List Ins} (ht : cs[t]? = some L) {x : Ins} (hx : L[m.pc t]? = some x) (e : x.op = ⟨#[109, 111, 118, 101]⟩) {i : Nat} (hi : i < 8) (ei : x.a = i) {j : Nat} (hj : j < 8) (ej : x.b = j) :
    Calls Tryz.prog 25 #[.pointer (some ⟨p.k, 0, none⟩), .int .i64 t] w fun e w' => e = .returned (.int .i64 0) ∧ ∃ r v, RkStep cs p m.mem w r v (m.step L t) w' := by
  have hM : m.step L t = (m.setPc t (m.pc t + 1)).exec L t x := by unfold Mk.step; rw [hx]
  obtain ⟨M', hM'⟩ : ∃ M', M' = (m.setPc t (m.pc t + 1)).exec L t x := ⟨_, rfl⟩
  rw [hM, ← hM']
  rw [exec_move (m.setPc t (m.pc t + 1)) L t e] at hM'
  clear hM
  rw [ei] at hM'
  rw [ej] at hM'
  simp only [Int.toNat_natCast] at hM'
  try simp only [show ∀ r, (m.setPc t (m.pc t + 1)).regs t r = m.regs t r from fun _ => rfl] at hM'
  have HD := hide (rdone_at ht hx D.at')
  obtain ⟨xo, xa, xb, xc, xt⟩ := x
  dsimp only at e ei ej hM' ⊢
  subst e ei ej
  have HM' := hide hM'
  clear hM'
  have htl := lt_of_get ht
  have h6 := D.at'.few
  have hpl := lt_of_get hx
  have hL2 := (D.right.right t L ht).1
  have hcap := D.at'.tcap
  have hcc := D.at'.ccap t L ht
  have ti : (t : Int) < cs.length := by omega
  have t6 : (t : Int) < 6 := by omega
  have pi : (m.pc t : Int) < L.length := by omega
  have hpc2 : m.pc t ≤ 2000 := D.ok.pcs t
  have hpw := wrapNext hpc2
  have hpw2 := wrapNext2 hpc2
  have hr8 := D.at'.rcap t htl
  have li : (i : Int) < 8 := by omega
  have lj : (j : Int) < 8 := by omega
  have HIN := hide (D.at'.rc.code ht)
  have HX := hide D
  have H := hide D.at'
  have d0 : decide ((t : Int) < 0) = false := by simp
  have hT := H.out.mT
  clear D
  go_enter Tryz.func25, Tryz.ntmps25
  go_wp2_with fail
  refine HD.out.mono ?_
  rintro e w1 ⟨rfl, hb1⟩
  clear HD hT
  have H1 := hide (H.out.below hb1)
  have HIN1 := hide (insAt_below HIN.out hb1)
  have hT := H1.out.mT
  have hA := H1.out.tAt t htl
  have hC := H1.out.tCode t L ht
  have hR := H1.out.tRegs t htl
  obtain ⟨cb, off, had, c0, c1, c2, c3, c4⟩ := HIN1.out _ _ hx
  dsimp only at c0 c1 c2 c3 c4
  rw [had] at hC
  have lcb : cb < w1.heap.size := World.block_lt_of_cell? _ _ c0
  have lk := H1.out.lk
  have lt := H1.out.lt'
  have lr := H1.out.lr htl
  have zt := H1.out.ft (t * 3 + 2)
  obtain ⟨W2, hW2⟩ : ∃ W2, W2 = (w1.alloc (.cells #[.string ⟨#[109, 111, 118, 101]⟩, .int .i64 i, .int .i64 j, .int .i64 xc, .string xt] 75)).drew := ⟨_, rfl⟩
  have b2 : Below w1.heap.size w1 W2 := by rw [hW2]; exact ((Below.refl _ _).alloc (Nat.le_refl _) _).drew
  have q0 : W2.cell? ⟨w1.heap.size, 0, none⟩ = some (.string ⟨#[109, 111, 118, 101]⟩) := by rw [hW2]; simp
  have q1 : W2.cell? ⟨w1.heap.size, 1, none⟩ = some (.int .i64 i) := by rw [hW2]; simp
  have q2 : W2.cell? ⟨w1.heap.size, 2, none⟩ = some (.int .i64 j) := by rw [hW2]; simp
  have q3 : W2.cell? ⟨w1.heap.size, 3, none⟩ = some (.int .i64 xc) := by rw [hW2]; simp
  have q4 : W2.cell? ⟨w1.heap.size, 4, none⟩ = some (.string xt) := by rw [hW2]; simp
  have lW2 : w1.heap.size < W2.heap.size := World.block_lt_of_cell? _ _ q0
  clear HIN HIN1 had
  go_wp2_with fail
  go_region
  rw [← hW2]
  have B2 := below_step hb1 b2
  have H2 := hide (H.out.below B2)
  replace hT := H2.out.mT
  replace hA := H2.out.tAt t htl
  replace hR := H2.out.tRegs t htl
  replace hC := keep_cell b2 hC
  replace zt := H2.out.ft (t * 3 + 2)
  have dk := H2.out.d1
  have dr1 := (H2.out.d2 t htl).1
  have dr2 := (H2.out.d2 t htl).2
  have G2 : Hid (Stg cs p m.mem w w1.heap.size p.rp p.mv m W2) := hide (Stg.first H.out B2 hb1.size lW2)
  obtain ⟨nk, nt, nr⟩ := G2.out.ne
  replace nr := nr t htl
  have lk2 : p.k < W2.heap.size := by omega
  have lt2 : p.tb < W2.heap.size := by omega
  have lr2 : p.rb t < W2.heap.size := by omega
  obtain ⟨W3, hW3⟩ : ∃ W3, W3 = W2.setCell ⟨p.tb, t * 3 + 2, none⟩ (.int .i64 ((m.pc t : Int) + 1)) := ⟨_, rfl⟩
  have S3 : Hid (RkStep cs p m.mem W2 p.rp p.mv (m.setPc t (m.pc t + 1)) W3) := hide (by rw [hW3]; exact H2.out.setPc htl (m.pc t + 1))
  have G3 : Hid (Stg cs p m.mem w w1.heap.size p.rp p.mv (m.setPc t (m.pc t + 1)) W3) := hide (G2.out.trans S3.out)
  have HM3 : Hid (RkAt cs p (m.setPc t (m.pc t + 1)) W3) := hide G3.out.step.at'
  have HX3 : Hid (RkX cs p (m.setPc t (m.pc t + 1)) K W3) := hide ⟨HM3.out, HX.out.ok.setPc t (by omega), HX.out.right, HX.out.hK⟩
  have y0 := G2.out.keep S3.out q0
  have y1 := G2.out.keep S3.out q1
  have y2 := G2.out.keep S3.out q2
  have y3 := G2.out.keep S3.out q3
  have y4 := G2.out.keep S3.out q4
  have T3 := HM3.out.mT
  have R3 := HM3.out.tRegs t htl
  have k3 := HM3.out.mM
  have lW3 : w1.heap.size < W3.heap.size := G3.out.lt
  have G0 : Hid (∀ r, r < 8 → W2.cell? ⟨p.rb t, r, none⟩ = some (.int .i64 (m.regs t r)) ∧ W2.frozen? ⟨p.rb t, r, none⟩ = false) := fun r hr => ⟨H2.out.regs t r htl hr, H2.out.fr t r htl⟩
  clear H2 c0 c1 c2 c3 c4 hb1 b2 B2 hW2 G2 S3 H1 lcb
  obtain ⟨fi, fzi⟩ := G0.out i (by omega)
  have gi : W3.cell? ⟨p.rb t, i, none⟩ = some (.int .i64 (m.regs t i)) := HM3.out.regs t i htl (by omega)
  obtain ⟨fj, fzj⟩ := G0.out j (by omega)
  have gj : W3.cell? ⟨p.rb t, j, none⟩ = some (.int .i64 (m.regs t j)) := HM3.out.regs t j htl (by omega)
  clear G0
  have z3 : W3.frozen? ⟨p.rb t, i, none⟩ = false := HM3.out.fr t i htl
  have HS := hide (G3.out.trans ((HM3.out.setReg htl hi (m.regs t j)).below (Below.refl _ _).drew))
  clear G3 HM3 HX3
  generalize m.regs t i = Ri at *
  generalize m.regs t j = Rj at *
  go_wp2_with fail
  rw [← hW3]
  clear hT hA hR hC zt q0 q1 q2 q3 q4 lW2 lk2 lt2 lr2 hW3
  refine wp_region_F (S := (fun w' => w'.cell? ⟨w1.heap.size, 1, none⟩ = some (.int .i64 i) ∧ w'.cell? ⟨w1.heap.size, 2, none⟩ = some (.int .i64 j) ∧ w'.cell? ⟨p.rb t, i, none⟩ = some (.int .i64 Ri) ∧ w'.cell? ⟨p.rb t, j, none⟩ = some (.int .i64 Rj))) (by kernel_rfl) (by (try dsimp only); go_keep) (fun hHeld => ?_)
  refine' wpAnyF_take (i := 0) (n := 9) (v := _) rfl (by kernel_rfl) (fun _ _ _ h => h) (by assumption) (Or.inl ⟨by rfl, ?hy1⟩) ?rest1
  case' hy1 => (intro w' hSw; (try dsimp only at hSw); go_simp; try with_reducible rfl)
  try simp only [Act.put, List.getElem_toArray, List.getElem_cons_zero, List.setIfInBounds_toArray, List.set_cons_zero, List.set_cons_succ]
  refine' wpAnyF_take (i := 1) (n := 9) (v := _) rfl (by kernel_rfl) (fun _ _ _ h => h) (by assumption) (Or.inl ⟨by rfl, ?hy2⟩) ?rest2
  case' hy2 => (intro w' hSw; (try dsimp only at hSw); go_simp; try with_reducible rfl)
  try simp only [Act.put, List.getElem_toArray, List.getElem_cons_zero, List.getElem_cons_succ, List.setIfInBounds_toArray, List.set_cons_zero, List.set_cons_succ]
  refine' wpAnyF_take (i := 2) (n := 9) (v := _) rfl (by kernel_rfl) (fun _ _ _ h => h) (by assumption) (Or.inl ⟨by rfl, ?hy3⟩) ?rest3
  case' hy3 => (intro w' hSw; (try dsimp only at hSw); go_simp; try with_reducible rfl)
  try simp only [Act.put, List.getElem_toArray, List.getElem_cons_zero, List.getElem_cons_succ, List.setIfInBounds_toArray, List.set_cons_zero, List.set_cons_succ]
  refine' wpAnyF_take (i := 3) (n := 9) (v := _) rfl (by kernel_rfl) (fun _ _ _ h => h) (by assumption) (Or.inl ⟨by rfl, ?hy4⟩) ?rest4
  case' hy4 => (intro w' hSw; (try dsimp only at hSw); go_simp; try with_reducible rfl)
  try simp only [Act.put, List.getElem_toArray, List.getElem_cons_zero, List.getElem_cons_succ, List.setIfInBounds_toArray, List.set_cons_zero, List.set_cons_succ]
  refine' wpAnyF_take (i := 4) (n := 9) (v := _) rfl (by kernel_rfl) (fun _ _ _ h => h) (by assumption) (Or.inl ⟨by rfl, ?hy5⟩) ?rest5
  case' hy5 => (intro w' hSw; (try dsimp only at hSw); go_simp; try with_reducible rfl)
  try simp only [Act.put, List.getElem_toArray, List.getElem_cons_zero, List.getElem_cons_succ, List.setIfInBounds_toArray, List.set_cons_zero, List.set_cons_succ]
  refine' wpAnyF_take (i := 5) (n := 9) (v := _) rfl (by kernel_rfl) (fun _ _ _ h => h) (by assumption) (Or.inl ⟨by rfl, ?hy6⟩) ?rest6
  case' hy6 => (intro w' hSw; (try dsimp only at hSw); go_simp; try with_reducible rfl)
  try simp only [Act.put, List.getElem_toArray, List.getElem_cons_zero, List.getElem_cons_succ, List.setIfInBounds_toArray, List.set_cons_zero, List.set_cons_succ]
  refine' wpAnyF_take (i := 6) (n := 9) (v := _) rfl (by kernel_rfl) (fun _ _ _ h => h) (by assumption) (Or.inl ⟨by rfl, ?hy7⟩) ?rest7
  case' hy7 => (intro w' hSw; (try dsimp only at hSw); go_simp; try with_reducible rfl)
  try simp only [Act.put, List.getElem_toArray, List.getElem_cons_zero, List.getElem_cons_succ, List.setIfInBounds_toArray, List.set_cons_zero, List.set_cons_succ]
  refine' wpAnyF_take (i := 7) (n := 9) (v := _) rfl (by kernel_rfl) (fun _ _ _ h => h) (by assumption) (Or.inl ⟨by rfl, ?hy8⟩) ?rest8
  case' hy8 => (intro w' hSw; (try dsimp only at hSw); go_simp; try with_reducible rfl)
  try simp only [Act.put, List.getElem_toArray, List.getElem_cons_zero, List.getElem_cons_succ, List.setIfInBounds_toArray, List.set_cons_zero, List.set_cons_succ]
  refine' wpAnyF_take (i := 8) (n := 9) (v := _) rfl (by kernel_rfl) (fun _ _ _ h => h) (by assumption) (Or.inl ⟨by rfl, ?hy9⟩) ?rest9
  case' hy9 => (intro w' hSw; (try dsimp only at hSw); go_simp; try with_reducible rfl)
  try simp only [Act.put, List.getElem_toArray, List.getElem_cons_zero, List.getElem_cons_succ, List.setIfInBounds_toArray, List.set_cons_zero, List.set_cons_succ]
  clear hHeld
  refine wpAnyF_only (i := 9) rfl (by kernel_rfl) (fun K hK => ?_)
  go_simp
  refine hK.out _ _ (Or.inl (by kernel_rfl)) ?_
  clear hK K
  try simp only [Act.put, List.getElem_toArray, List.getElem_cons_zero, List.getElem_cons_succ, List.setIfInBounds_toArray, List.set_cons_zero, List.set_cons_succ]
  refine wpAnyF_done (by kernel_rfl) ?_ _
  go_wp2
  go_ret
  exact ⟨rfl, _, _, by rw [HM'.out]; exact HS.out.step⟩

set_option maxRecDepth 20000 in
set_option maxHeartbeats 2000000 in
theorem rstep_and {cs : List (List Ins)} {p : RkPl} {m : Mk} {K t : Nat} {w : World} (D : RkX cs p m K w) {L : List Ins} (ht : cs[t]? = some L) {x : Ins} (hx : L[m.pc t]? = some x) (e : x.op = ⟨#[97, 110, 100]⟩) {i : Nat} (hi : i < 8) (ei : x.a = i) {j : Nat} (hj : j < 8) (ej : x.b = j) {k : Nat} (hk : k < 8) (ek : x.c = k) :
    Calls Tryz.prog 25 #[.pointer (some ⟨p.k, 0, none⟩), .int .i64 t] w fun e w' => e = .returned (.int .i64 0) ∧ ∃ r v, RkStep cs p m.mem w r v (m.step L t) w' := by
  have hM : m.step L t = (m.setPc t (m.pc t + 1)).exec L t x := by unfold Mk.step; rw [hx]
  obtain ⟨M', hM'⟩ : ∃ M', M' = (m.setPc t (m.pc t + 1)).exec L t x := ⟨_, rfl⟩
  rw [hM, ← hM']
  rw [exec_and (m.setPc t (m.pc t + 1)) L t e] at hM'
  clear hM
  rw [ei] at hM'
  rw [ej] at hM'
  rw [ek] at hM'
  simp only [Int.toNat_natCast] at hM'
  try simp only [show ∀ r, (m.setPc t (m.pc t + 1)).regs t r = m.regs t r from fun _ => rfl] at hM'
  have HD := hide (rdone_at ht hx D.at')
  obtain ⟨xo, xa, xb, xc, xt⟩ := x
  dsimp only at e ei ej ek hM' ⊢
  subst e ei ej ek
  have HM' := hide hM'
  clear hM'
  have htl := lt_of_get ht
  have h6 := D.at'.few
  have hpl := lt_of_get hx
  have hL2 := (D.right.right t L ht).1
  have hcap := D.at'.tcap
  have hcc := D.at'.ccap t L ht
  have ti : (t : Int) < cs.length := by omega
  have t6 : (t : Int) < 6 := by omega
  have pi : (m.pc t : Int) < L.length := by omega
  have hpc2 : m.pc t ≤ 2000 := D.ok.pcs t
  have hpw := wrapNext hpc2
  have hpw2 := wrapNext2 hpc2
  have hr8 := D.at'.rcap t htl
  have li : (i : Int) < 8 := by omega
  have lj : (j : Int) < 8 := by omega
  have lk : (k : Int) < 8 := by omega
  have HIN := hide (D.at'.rc.code ht)
  have HX := hide D
  have H := hide D.at'
  have d0 : decide ((t : Int) < 0) = false := by simp
  have hT := H.out.mT
  clear D
  go_enter Tryz.func25, Tryz.ntmps25
  go_wp2_with fail
  refine HD.out.mono ?_
  rintro e w1 ⟨rfl, hb1⟩
  clear HD hT
  have H1 := hide (H.out.below hb1)
  have HIN1 := hide (insAt_below HIN.out hb1)
  have hT := H1.out.mT
  have hA := H1.out.tAt t htl
  have hC := H1.out.tCode t L ht
  have hR := H1.out.tRegs t htl
  obtain ⟨cb, off, had, c0, c1, c2, c3, c4⟩ := HIN1.out _ _ hx
  dsimp only at c0 c1 c2 c3 c4
  rw [had] at hC
  have lcb : cb < w1.heap.size := World.block_lt_of_cell? _ _ c0
  have lk := H1.out.lk
  have lt := H1.out.lt'
  have lr := H1.out.lr htl
  have zt := H1.out.ft (t * 3 + 2)
  obtain ⟨W2, hW2⟩ : ∃ W2, W2 = (w1.alloc (.cells #[.string ⟨#[97, 110, 100]⟩, .int .i64 i, .int .i64 j, .int .i64 k, .string xt] 75)).drew := ⟨_, rfl⟩
  have b2 : Below w1.heap.size w1 W2 := by rw [hW2]; exact ((Below.refl _ _).alloc (Nat.le_refl _) _).drew
  have q0 : W2.cell? ⟨w1.heap.size, 0, none⟩ = some (.string ⟨#[97, 110, 100]⟩) := by rw [hW2]; simp
  have q1 : W2.cell? ⟨w1.heap.size, 1, none⟩ = some (.int .i64 i) := by rw [hW2]; simp
  have q2 : W2.cell? ⟨w1.heap.size, 2, none⟩ = some (.int .i64 j) := by rw [hW2]; simp
  have q3 : W2.cell? ⟨w1.heap.size, 3, none⟩ = some (.int .i64 k) := by rw [hW2]; simp
  have q4 : W2.cell? ⟨w1.heap.size, 4, none⟩ = some (.string xt) := by rw [hW2]; simp
  have lW2 : w1.heap.size < W2.heap.size := World.block_lt_of_cell? _ _ q0
  clear HIN HIN1 had
  go_wp2_with fail
  go_region
  rw [← hW2]
  have B2 := below_step hb1 b2
  have H2 := hide (H.out.below B2)
  replace hT := H2.out.mT
  replace hA := H2.out.tAt t htl
  replace hR := H2.out.tRegs t htl
  replace hC := keep_cell b2 hC
  replace zt := H2.out.ft (t * 3 + 2)
  have dk := H2.out.d1
  have dr1 := (H2.out.d2 t htl).1
  have dr2 := (H2.out.d2 t htl).2
  have G2 : Hid (Stg cs p m.mem w w1.heap.size p.rp p.mv m W2) := hide (Stg.first H.out B2 hb1.size lW2)
  obtain ⟨nk, nt, nr⟩ := G2.out.ne
  replace nr := nr t htl
  have lk2 : p.k < W2.heap.size := by omega
  have lt2 : p.tb < W2.heap.size := by omega
  have lr2 : p.rb t < W2.heap.size := by omega
  obtain ⟨W3, hW3⟩ : ∃ W3, W3 = W2.setCell ⟨p.tb, t * 3 + 2, none⟩ (.int .i64 ((m.pc t : Int) + 1)) := ⟨_, rfl⟩
  have S3 : Hid (RkStep cs p m.mem W2 p.rp p.mv (m.setPc t (m.pc t + 1)) W3) := hide (by rw [hW3]; exact H2.out.setPc htl (m.pc t + 1))
  have G3 : Hid (Stg cs p m.mem w w1.heap.size p.rp p.mv (m.setPc t (m.pc t + 1)) W3) := hide (G2.out.trans S3.out)
  have HM3 : Hid (RkAt cs p (m.setPc t (m.pc t + 1)) W3) := hide G3.out.step.at'
  have HX3 : Hid (RkX cs p (m.setPc t (m.pc t + 1)) K W3) := hide ⟨HM3.out, HX.out.ok.setPc t (by omega), HX.out.right, HX.out.hK⟩
  have y0 := G2.out.keep S3.out q0
  have y1 := G2.out.keep S3.out q1
  have y2 := G2.out.keep S3.out q2
  have y3 := G2.out.keep S3.out q3
  have y4 := G2.out.keep S3.out q4
  have T3 := HM3.out.mT
  have R3 := HM3.out.tRegs t htl
  have k3 := HM3.out.mM
  have lW3 : w1.heap.size < W3.heap.size := G3.out.lt
  have G0 : Hid (∀ r, r < 8 → W2.cell? ⟨p.rb t, r, none⟩ = some (.int .i64 (m.regs t r)) ∧ W2.frozen? ⟨p.rb t, r, none⟩ = false) := fun r hr => ⟨H2.out.regs t r htl hr, H2.out.fr t r htl⟩
  clear H2 c0 c1 c2 c3 c4 hb1 b2 B2 hW2 G2 S3 H1 lcb
  obtain ⟨fi, fzi⟩ := G0.out i (by omega)
  have gi : W3.cell? ⟨p.rb t, i, none⟩ = some (.int .i64 (m.regs t i)) := HM3.out.regs t i htl (by omega)
  obtain ⟨fj, fzj⟩ := G0.out j (by omega)
  have gj : W3.cell? ⟨p.rb t, j, none⟩ = some (.int .i64 (m.regs t j)) := HM3.out.regs t j htl (by omega)
  obtain ⟨fk, fzk⟩ := G0.out k (by omega)
  have gk : W3.cell? ⟨p.rb t, k, none⟩ = some (.int .i64 (m.regs t k)) := HM3.out.regs t k htl (by omega)
  clear G0
  have z3 : W3.frozen? ⟨p.rb t, i, none⟩ = false := HM3.out.fr t i htl
  have HB : Hid (∀ w', Calls Tryz.prog 55 #[.string ⟨#[97, 110, 100]⟩, .int .i64 (m.regs t j), .int .i64 (m.regs t k)] w' fun e w'' => e = .returned (.int .i64 (andW (m.regs t j) (m.regs t k))) ∧ w'' = w') := fun w' => rbits_andW (HX3.out.ok.regs t j) (HX3.out.ok.regs t k) w'
  have HS := hide (G3.out.trans ((HM3.out.setReg htl hi (andW (m.regs t j) (m.regs t k))).below (Below.refl _ _).drew))
  clear G3 HM3 HX3
  generalize andW (m.regs t j) (m.regs t k) = V at *
  generalize m.regs t i = Ri at *
  generalize m.regs t j = Rj at *
  generalize m.regs t k = Rk at *
  go_wp2_with fail
  rw [← hW3]
  clear hT hA hR hC zt q0 q1 q2 q3 q4 lW2 lk2 lt2 lr2 hW3
  refine wp_region_F (S := (fun w' => w'.cell? ⟨w1.heap.size, 0, none⟩ = some (.string ⟨#[97, 110, 100]⟩) ∧ w'.cell? ⟨w1.heap.size, 1, none⟩ = some (.int .i64 i) ∧ w'.cell? ⟨w1.heap.size, 2, none⟩ = some (.int .i64 j) ∧ w'.cell? ⟨w1.heap.size, 3, none⟩ = some (.int .i64 k) ∧ w'.cell? ⟨p.rb t, i, none⟩ = some (.int .i64 Ri) ∧ w'.cell? ⟨p.rb t, j, none⟩ = some (.int .i64 Rj) ∧ w'.cell? ⟨p.rb t, k, none⟩ = some (.int .i64 Rk))) (by kernel_rfl) (by (try dsimp only); go_keep) (fun hHeld => ?_)
  refine' wpAnyF_take (i := 0) (n := 17) (v := _) rfl (by kernel_rfl) (fun _ _ _ h => h) (by assumption) (Or.inl ⟨by rfl, ?hy10⟩) ?rest10
  case' hy10 => (intro w' hSw; (try dsimp only at hSw); go_simp; try with_reducible rfl)
  try simp only [Act.put, List.getElem_toArray, List.getElem_cons_zero, List.setIfInBounds_toArray, List.set_cons_zero, List.set_cons_succ]
  refine' wpAnyF_take (i := 1) (n := 17) (v := _) rfl (by kernel_rfl) (fun _ _ _ h => h) (by assumption) (Or.inl ⟨by rfl, ?hy11⟩) ?rest11
  case' hy11 => (intro w' hSw; (try dsimp only at hSw); go_simp; try with_reducible rfl)
  try simp only [Act.put, List.getElem_toArray, List.getElem_cons_zero, List.getElem_cons_succ, List.setIfInBounds_toArray, List.set_cons_zero, List.set_cons_succ]
  refine' wpAnyF_take (i := 2) (n := 17) (v := _) rfl (by kernel_rfl) (fun _ _ _ h => h) (by assumption) (Or.inl ⟨by rfl, ?hy12⟩) ?rest12
  case' hy12 => (intro w' hSw; (try dsimp only at hSw); go_simp; try with_reducible rfl)
  try simp only [Act.put, List.getElem_toArray, List.getElem_cons_zero, List.getElem_cons_succ, List.setIfInBounds_toArray, List.set_cons_zero, List.set_cons_succ]
  refine' wpAnyF_take (i := 3) (n := 17) (v := _) rfl (by kernel_rfl) (fun _ _ _ h => h) (by assumption) (Or.inl ⟨by rfl, ?hy13⟩) ?rest13
  case' hy13 => (intro w' hSw; (try dsimp only at hSw); go_simp; try with_reducible rfl)
  try simp only [Act.put, List.getElem_toArray, List.getElem_cons_zero, List.getElem_cons_succ, List.setIfInBounds_toArray, List.set_cons_zero, List.set_cons_succ]
  refine' wpAnyF_take (i := 4) (n := 17) (v := _) rfl (by kernel_rfl) (fun _ _ _ h => h) (by assumption) (Or.inl ⟨by rfl, ?hy14⟩) ?rest14
  case' hy14 => (intro w' hSw; (try dsimp only at hSw); go_simp; try with_reducible rfl)
  try simp only [Act.put, List.getElem_toArray, List.getElem_cons_zero, List.getElem_cons_succ, List.setIfInBounds_toArray, List.set_cons_zero, List.set_cons_succ]
  refine' wpAnyF_take (i := 5) (n := 17) (v := _) rfl (by kernel_rfl) (fun _ _ _ h => h) (by assumption) (Or.inl ⟨by rfl, ?hy15⟩) ?rest15
  case' hy15 => (intro w' hSw; (try dsimp only at hSw); go_simp; try with_reducible rfl)
  try simp only [Act.put, List.getElem_toArray, List.getElem_cons_zero, List.getElem_cons_succ, List.setIfInBounds_toArray, List.set_cons_zero, List.set_cons_succ]
  refine' wpAnyF_take (i := 6) (n := 17) (v := _) rfl (by kernel_rfl) (fun _ _ _ h => h) (by assumption) (Or.inl ⟨by rfl, ?hy16⟩) ?rest16
  case' hy16 => (intro w' hSw; (try dsimp only at hSw); go_simp; try with_reducible rfl)
  try simp only [Act.put, List.getElem_toArray, List.getElem_cons_zero, List.getElem_cons_succ, List.setIfInBounds_toArray, List.set_cons_zero, List.set_cons_succ]
  refine' wpAnyF_take (i := 7) (n := 17) (v := _) rfl (by kernel_rfl) (fun _ _ _ h => h) (by assumption) (Or.inl ⟨by rfl, ?hy17⟩) ?rest17
  case' hy17 => (intro w' hSw; (try dsimp only at hSw); go_simp; try with_reducible rfl)
  try simp only [Act.put, List.getElem_toArray, List.getElem_cons_zero, List.getElem_cons_succ, List.setIfInBounds_toArray, List.set_cons_zero, List.set_cons_succ]
  refine' wpAnyF_take (i := 8) (n := 17) (v := _) rfl (by kernel_rfl) (fun _ _ _ h => h) (by assumption) (Or.inl ⟨by rfl, ?hy18⟩) ?rest18
  case' hy18 => (intro w' hSw; (try dsimp only at hSw); go_simp; try with_reducible rfl)
  try simp only [Act.put, List.getElem_toArray, List.getElem_cons_zero, List.getElem_cons_succ, List.setIfInBounds_toArray, List.set_cons_zero, List.set_cons_succ]
  refine' wpAnyF_take (i := 9) (n := 17) (v := _) rfl (by kernel_rfl) (fun _ _ _ h => h) (by assumption) (Or.inl ⟨by rfl, ?hy19⟩) ?rest19
  case' hy19 => (intro w' hSw; (try dsimp only at hSw); go_simp; try with_reducible rfl)
  try simp only [Act.put, List.getElem_toArray, List.getElem_cons_zero, List.getElem_cons_succ, List.setIfInBounds_toArray, List.set_cons_zero, List.set_cons_succ]
  refine' wpAnyF_take (i := 10) (n := 17) (v := _) rfl (by kernel_rfl) (fun _ _ _ h => h) (by assumption) (Or.inl ⟨by rfl, ?hy20⟩) ?rest20
  case' hy20 => (intro w' hSw; (try dsimp only at hSw); go_simp; try with_reducible rfl)
  try simp only [Act.put, List.getElem_toArray, List.getElem_cons_zero, List.getElem_cons_succ, List.setIfInBounds_toArray, List.set_cons_zero, List.set_cons_succ]
  refine' wpAnyF_take (i := 11) (n := 17) (v := _) rfl (by kernel_rfl) (fun _ _ _ h => h) (by assumption) (Or.inl ⟨by rfl, ?hy21⟩) ?rest21
  case' hy21 => (intro w' hSw; (try dsimp only at hSw); go_simp; try with_reducible rfl)
  try simp only [Act.put, List.getElem_toArray, List.getElem_cons_zero, List.getElem_cons_succ, List.setIfInBounds_toArray, List.set_cons_zero, List.set_cons_succ]
  refine' wpAnyF_take (i := 12) (n := 17) (v := _) rfl (by kernel_rfl) (fun _ _ _ h => h) (by assumption) (Or.inl ⟨by rfl, ?hy22⟩) ?rest22
  case' hy22 => (intro w' hSw; (try dsimp only at hSw); go_simp; try with_reducible rfl)
  try simp only [Act.put, List.getElem_toArray, List.getElem_cons_zero, List.getElem_cons_succ, List.setIfInBounds_toArray, List.set_cons_zero, List.set_cons_succ]
  refine' wpAnyF_take (i := 13) (n := 17) (v := _) rfl (by kernel_rfl) (fun _ _ _ h => h) (by assumption) (Or.inl ⟨by rfl, ?hy23⟩) ?rest23
  case' hy23 => (intro w' hSw; (try dsimp only at hSw); go_simp; try with_reducible rfl)
  try simp only [Act.put, List.getElem_toArray, List.getElem_cons_zero, List.getElem_cons_succ, List.setIfInBounds_toArray, List.set_cons_zero, List.set_cons_succ]
  refine' wpAnyF_take (i := 14) (n := 17) (v := _) rfl (by kernel_rfl) (fun _ _ _ h => h) (by assumption) (Or.inl ⟨by rfl, ?hy24⟩) ?rest24
  case' hy24 => (intro w' hSw; (try dsimp only at hSw); go_simp; try with_reducible rfl)
  try simp only [Act.put, List.getElem_toArray, List.getElem_cons_zero, List.getElem_cons_succ, List.setIfInBounds_toArray, List.set_cons_zero, List.set_cons_succ]
  refine wpAnyF_only (i := 15) rfl (by kernel_rfl) (fun K hK => ?_)
  go_simp
  go_at_call 55
  refine (HB.out _).mono ?_
  rintro e w4 ⟨rfl, rfl⟩
  dsimp only
  refine hK.out _ _ (Or.inr (by (try dsimp only); exact hHeld)) ?_
  clear hK K
  try simp only [Act.put, List.getElem_toArray, List.getElem_cons_zero, List.getElem_cons_succ, List.setIfInBounds_toArray, List.set_cons_zero, List.set_cons_succ]
  refine' wpAnyF_take (i := 16) (n := 17) (v := _) rfl (by kernel_rfl) (fun _ _ _ h => h) (by assumption) (Or.inl ⟨by rfl, ?hy25⟩) ?rest25
  case' hy25 => (intro w' hSw; (try dsimp only at hSw); go_simp; try with_reducible rfl)
  try simp only [Act.put, List.getElem_toArray, List.getElem_cons_zero, List.getElem_cons_succ, List.setIfInBounds_toArray, List.set_cons_zero, List.set_cons_succ]
  clear hHeld
  refine wpAnyF_only (i := 17) rfl (by kernel_rfl) (fun K hK => ?_)
  go_simp
  refine hK.out _ _ (Or.inl (by kernel_rfl)) ?_
  clear hK K
  try simp only [Act.put, List.getElem_toArray, List.getElem_cons_zero, List.getElem_cons_succ, List.setIfInBounds_toArray, List.set_cons_zero, List.set_cons_succ]
  refine wpAnyF_done (by kernel_rfl) ?_ _
  go_wp2
  go_ret
  exact ⟨rfl, _, _, by rw [HM'.out]; exact HS.out.step⟩

set_option maxRecDepth 20000 in
set_option maxHeartbeats 2000000 in
theorem rstep_xor {cs : List (List Ins)} {p : RkPl} {m : Mk} {K t : Nat} {w : World} (D : RkX cs p m K w) {L : List Ins} (ht : cs[t]? = some L) {x : Ins} (hx : L[m.pc t]? = some x) (e : x.op = ⟨#[120, 111, 114]⟩) {i : Nat} (hi : i < 8) (ei : x.a = i) {j : Nat} (hj : j < 8) (ej : x.b = j) {k : Nat} (hk : k < 8) (ek : x.c = k) :
    Calls Tryz.prog 25 #[.pointer (some ⟨p.k, 0, none⟩), .int .i64 t] w fun e w' => e = .returned (.int .i64 0) ∧ ∃ r v, RkStep cs p m.mem w r v (m.step L t) w' := by
  have hM : m.step L t = (m.setPc t (m.pc t + 1)).exec L t x := by unfold Mk.step; rw [hx]
  obtain ⟨M', hM'⟩ : ∃ M', M' = (m.setPc t (m.pc t + 1)).exec L t x := ⟨_, rfl⟩
  rw [hM, ← hM']
  rw [exec_xor (m.setPc t (m.pc t + 1)) L t e] at hM'
  clear hM
  rw [ei] at hM'
  rw [ej] at hM'
  rw [ek] at hM'
  simp only [Int.toNat_natCast] at hM'
  try simp only [show ∀ r, (m.setPc t (m.pc t + 1)).regs t r = m.regs t r from fun _ => rfl] at hM'
  have HD := hide (rdone_at ht hx D.at')
  obtain ⟨xo, xa, xb, xc, xt⟩ := x
  dsimp only at e ei ej ek hM' ⊢
  subst e ei ej ek
  have HM' := hide hM'
  clear hM'
  have htl := lt_of_get ht
  have h6 := D.at'.few
  have hpl := lt_of_get hx
  have hL2 := (D.right.right t L ht).1
  have hcap := D.at'.tcap
  have hcc := D.at'.ccap t L ht
  have ti : (t : Int) < cs.length := by omega
  have t6 : (t : Int) < 6 := by omega
  have pi : (m.pc t : Int) < L.length := by omega
  have hpc2 : m.pc t ≤ 2000 := D.ok.pcs t
  have hpw := wrapNext hpc2
  have hpw2 := wrapNext2 hpc2
  have hr8 := D.at'.rcap t htl
  have li : (i : Int) < 8 := by omega
  have lj : (j : Int) < 8 := by omega
  have lk : (k : Int) < 8 := by omega
  have HIN := hide (D.at'.rc.code ht)
  have HX := hide D
  have H := hide D.at'
  have d0 : decide ((t : Int) < 0) = false := by simp
  have hT := H.out.mT
  clear D
  go_enter Tryz.func25, Tryz.ntmps25
  go_wp2_with fail
  refine HD.out.mono ?_
  rintro e w1 ⟨rfl, hb1⟩
  clear HD hT
  have H1 := hide (H.out.below hb1)
  have HIN1 := hide (insAt_below HIN.out hb1)
  have hT := H1.out.mT
  have hA := H1.out.tAt t htl
  have hC := H1.out.tCode t L ht
  have hR := H1.out.tRegs t htl
  obtain ⟨cb, off, had, c0, c1, c2, c3, c4⟩ := HIN1.out _ _ hx
  dsimp only at c0 c1 c2 c3 c4
  rw [had] at hC
  have lcb : cb < w1.heap.size := World.block_lt_of_cell? _ _ c0
  have lk := H1.out.lk
  have lt := H1.out.lt'
  have lr := H1.out.lr htl
  have zt := H1.out.ft (t * 3 + 2)
  obtain ⟨W2, hW2⟩ : ∃ W2, W2 = (w1.alloc (.cells #[.string ⟨#[120, 111, 114]⟩, .int .i64 i, .int .i64 j, .int .i64 k, .string xt] 75)).drew := ⟨_, rfl⟩
  have b2 : Below w1.heap.size w1 W2 := by rw [hW2]; exact ((Below.refl _ _).alloc (Nat.le_refl _) _).drew
  have q0 : W2.cell? ⟨w1.heap.size, 0, none⟩ = some (.string ⟨#[120, 111, 114]⟩) := by rw [hW2]; simp
  have q1 : W2.cell? ⟨w1.heap.size, 1, none⟩ = some (.int .i64 i) := by rw [hW2]; simp
  have q2 : W2.cell? ⟨w1.heap.size, 2, none⟩ = some (.int .i64 j) := by rw [hW2]; simp
  have q3 : W2.cell? ⟨w1.heap.size, 3, none⟩ = some (.int .i64 k) := by rw [hW2]; simp
  have q4 : W2.cell? ⟨w1.heap.size, 4, none⟩ = some (.string xt) := by rw [hW2]; simp
  have lW2 : w1.heap.size < W2.heap.size := World.block_lt_of_cell? _ _ q0
  clear HIN HIN1 had
  go_wp2_with fail
  go_region
  rw [← hW2]
  have B2 := below_step hb1 b2
  have H2 := hide (H.out.below B2)
  replace hT := H2.out.mT
  replace hA := H2.out.tAt t htl
  replace hR := H2.out.tRegs t htl
  replace hC := keep_cell b2 hC
  replace zt := H2.out.ft (t * 3 + 2)
  have dk := H2.out.d1
  have dr1 := (H2.out.d2 t htl).1
  have dr2 := (H2.out.d2 t htl).2
  have G2 : Hid (Stg cs p m.mem w w1.heap.size p.rp p.mv m W2) := hide (Stg.first H.out B2 hb1.size lW2)
  obtain ⟨nk, nt, nr⟩ := G2.out.ne
  replace nr := nr t htl
  have lk2 : p.k < W2.heap.size := by omega
  have lt2 : p.tb < W2.heap.size := by omega
  have lr2 : p.rb t < W2.heap.size := by omega
  obtain ⟨W3, hW3⟩ : ∃ W3, W3 = W2.setCell ⟨p.tb, t * 3 + 2, none⟩ (.int .i64 ((m.pc t : Int) + 1)) := ⟨_, rfl⟩
  have S3 : Hid (RkStep cs p m.mem W2 p.rp p.mv (m.setPc t (m.pc t + 1)) W3) := hide (by rw [hW3]; exact H2.out.setPc htl (m.pc t + 1))
  have G3 : Hid (Stg cs p m.mem w w1.heap.size p.rp p.mv (m.setPc t (m.pc t + 1)) W3) := hide (G2.out.trans S3.out)
  have HM3 : Hid (RkAt cs p (m.setPc t (m.pc t + 1)) W3) := hide G3.out.step.at'
  have HX3 : Hid (RkX cs p (m.setPc t (m.pc t + 1)) K W3) := hide ⟨HM3.out, HX.out.ok.setPc t (by omega), HX.out.right, HX.out.hK⟩
  have y0 := G2.out.keep S3.out q0
  have y1 := G2.out.keep S3.out q1
  have y2 := G2.out.keep S3.out q2
  have y3 := G2.out.keep S3.out q3
  have y4 := G2.out.keep S3.out q4
  have T3 := HM3.out.mT
  have R3 := HM3.out.tRegs t htl
  have k3 := HM3.out.mM
  have lW3 : w1.heap.size < W3.heap.size := G3.out.lt
  have G0 : Hid (∀ r, r < 8 → W2.cell? ⟨p.rb t, r, none⟩ = some (.int .i64 (m.regs t r)) ∧ W2.frozen? ⟨p.rb t, r, none⟩ = false) := fun r hr => ⟨H2.out.regs t r htl hr, H2.out.fr t r htl⟩
  clear H2 c0 c1 c2 c3 c4 hb1 b2 B2 hW2 G2 S3 H1 lcb
  obtain ⟨fi, fzi⟩ := G0.out i (by omega)
  have gi : W3.cell? ⟨p.rb t, i, none⟩ = some (.int .i64 (m.regs t i)) := HM3.out.regs t i htl (by omega)
  obtain ⟨fj, fzj⟩ := G0.out j (by omega)
  have gj : W3.cell? ⟨p.rb t, j, none⟩ = some (.int .i64 (m.regs t j)) := HM3.out.regs t j htl (by omega)
  obtain ⟨fk, fzk⟩ := G0.out k (by omega)
  have gk : W3.cell? ⟨p.rb t, k, none⟩ = some (.int .i64 (m.regs t k)) := HM3.out.regs t k htl (by omega)
  clear G0
  have z3 : W3.frozen? ⟨p.rb t, i, none⟩ = false := HM3.out.fr t i htl
  have HB : Hid (∀ w', Calls Tryz.prog 55 #[.string ⟨#[120, 111, 114]⟩, .int .i64 (m.regs t j), .int .i64 (m.regs t k)] w' fun e w'' => e = .returned (.int .i64 (xorW (m.regs t j) (m.regs t k))) ∧ w'' = w') := fun w' => rbits_xorW (HX3.out.ok.regs t j) (HX3.out.ok.regs t k) w'
  have HS := hide (G3.out.trans ((HM3.out.setReg htl hi (xorW (m.regs t j) (m.regs t k))).below (Below.refl _ _).drew))
  clear G3 HM3 HX3
  generalize xorW (m.regs t j) (m.regs t k) = V at *
  generalize m.regs t i = Ri at *
  generalize m.regs t j = Rj at *
  generalize m.regs t k = Rk at *
  go_wp2_with fail
  rw [← hW3]
  clear hT hA hR hC zt q0 q1 q2 q3 q4 lW2 lk2 lt2 lr2 hW3
  refine wp_region_F (S := (fun w' => w'.cell? ⟨w1.heap.size, 0, none⟩ = some (.string ⟨#[120, 111, 114]⟩) ∧ w'.cell? ⟨w1.heap.size, 1, none⟩ = some (.int .i64 i) ∧ w'.cell? ⟨w1.heap.size, 2, none⟩ = some (.int .i64 j) ∧ w'.cell? ⟨w1.heap.size, 3, none⟩ = some (.int .i64 k) ∧ w'.cell? ⟨p.rb t, i, none⟩ = some (.int .i64 Ri) ∧ w'.cell? ⟨p.rb t, j, none⟩ = some (.int .i64 Rj) ∧ w'.cell? ⟨p.rb t, k, none⟩ = some (.int .i64 Rk))) (by kernel_rfl) (by (try dsimp only); go_keep) (fun hHeld => ?_)
  refine' wpAnyF_take (i := 0) (n := 17) (v := _) rfl (by kernel_rfl) (fun _ _ _ h => h) (by assumption) (Or.inl ⟨by rfl, ?hy26⟩) ?rest26
  case' hy26 => (intro w' hSw; (try dsimp only at hSw); go_simp; try with_reducible rfl)
  try simp only [Act.put, List.getElem_toArray, List.getElem_cons_zero, List.setIfInBounds_toArray, List.set_cons_zero, List.set_cons_succ]
  refine' wpAnyF_take (i := 1) (n := 17) (v := _) rfl (by kernel_rfl) (fun _ _ _ h => h) (by assumption) (Or.inl ⟨by rfl, ?hy27⟩) ?rest27
  case' hy27 => (intro w' hSw; (try dsimp only at hSw); go_simp; try with_reducible rfl)
  try simp only [Act.put, List.getElem_toArray, List.getElem_cons_zero, List.getElem_cons_succ, List.setIfInBounds_toArray, List.set_cons_zero, List.set_cons_succ]
  refine' wpAnyF_take (i := 2) (n := 17) (v := _) rfl (by kernel_rfl) (fun _ _ _ h => h) (by assumption) (Or.inl ⟨by rfl, ?hy28⟩) ?rest28
  case' hy28 => (intro w' hSw; (try dsimp only at hSw); go_simp; try with_reducible rfl)
  try simp only [Act.put, List.getElem_toArray, List.getElem_cons_zero, List.getElem_cons_succ, List.setIfInBounds_toArray, List.set_cons_zero, List.set_cons_succ]
  refine' wpAnyF_take (i := 3) (n := 17) (v := _) rfl (by kernel_rfl) (fun _ _ _ h => h) (by assumption) (Or.inl ⟨by rfl, ?hy29⟩) ?rest29
  case' hy29 => (intro w' hSw; (try dsimp only at hSw); go_simp; try with_reducible rfl)
  try simp only [Act.put, List.getElem_toArray, List.getElem_cons_zero, List.getElem_cons_succ, List.setIfInBounds_toArray, List.set_cons_zero, List.set_cons_succ]
  refine' wpAnyF_take (i := 4) (n := 17) (v := _) rfl (by kernel_rfl) (fun _ _ _ h => h) (by assumption) (Or.inl ⟨by rfl, ?hy30⟩) ?rest30
  case' hy30 => (intro w' hSw; (try dsimp only at hSw); go_simp; try with_reducible rfl)
  try simp only [Act.put, List.getElem_toArray, List.getElem_cons_zero, List.getElem_cons_succ, List.setIfInBounds_toArray, List.set_cons_zero, List.set_cons_succ]
  refine' wpAnyF_take (i := 5) (n := 17) (v := _) rfl (by kernel_rfl) (fun _ _ _ h => h) (by assumption) (Or.inl ⟨by rfl, ?hy31⟩) ?rest31
  case' hy31 => (intro w' hSw; (try dsimp only at hSw); go_simp; try with_reducible rfl)
  try simp only [Act.put, List.getElem_toArray, List.getElem_cons_zero, List.getElem_cons_succ, List.setIfInBounds_toArray, List.set_cons_zero, List.set_cons_succ]
  refine' wpAnyF_take (i := 6) (n := 17) (v := _) rfl (by kernel_rfl) (fun _ _ _ h => h) (by assumption) (Or.inl ⟨by rfl, ?hy32⟩) ?rest32
  case' hy32 => (intro w' hSw; (try dsimp only at hSw); go_simp; try with_reducible rfl)
  try simp only [Act.put, List.getElem_toArray, List.getElem_cons_zero, List.getElem_cons_succ, List.setIfInBounds_toArray, List.set_cons_zero, List.set_cons_succ]
  refine' wpAnyF_take (i := 7) (n := 17) (v := _) rfl (by kernel_rfl) (fun _ _ _ h => h) (by assumption) (Or.inl ⟨by rfl, ?hy33⟩) ?rest33
  case' hy33 => (intro w' hSw; (try dsimp only at hSw); go_simp; try with_reducible rfl)
  try simp only [Act.put, List.getElem_toArray, List.getElem_cons_zero, List.getElem_cons_succ, List.setIfInBounds_toArray, List.set_cons_zero, List.set_cons_succ]
  refine' wpAnyF_take (i := 8) (n := 17) (v := _) rfl (by kernel_rfl) (fun _ _ _ h => h) (by assumption) (Or.inl ⟨by rfl, ?hy34⟩) ?rest34
  case' hy34 => (intro w' hSw; (try dsimp only at hSw); go_simp; try with_reducible rfl)
  try simp only [Act.put, List.getElem_toArray, List.getElem_cons_zero, List.getElem_cons_succ, List.setIfInBounds_toArray, List.set_cons_zero, List.set_cons_succ]
  refine' wpAnyF_take (i := 9) (n := 17) (v := _) rfl (by kernel_rfl) (fun _ _ _ h => h) (by assumption) (Or.inl ⟨by rfl, ?hy35⟩) ?rest35
  case' hy35 => (intro w' hSw; (try dsimp only at hSw); go_simp; try with_reducible rfl)
  try simp only [Act.put, List.getElem_toArray, List.getElem_cons_zero, List.getElem_cons_succ, List.setIfInBounds_toArray, List.set_cons_zero, List.set_cons_succ]
  refine' wpAnyF_take (i := 10) (n := 17) (v := _) rfl (by kernel_rfl) (fun _ _ _ h => h) (by assumption) (Or.inl ⟨by rfl, ?hy36⟩) ?rest36
  case' hy36 => (intro w' hSw; (try dsimp only at hSw); go_simp; try with_reducible rfl)
  try simp only [Act.put, List.getElem_toArray, List.getElem_cons_zero, List.getElem_cons_succ, List.setIfInBounds_toArray, List.set_cons_zero, List.set_cons_succ]
  refine' wpAnyF_take (i := 11) (n := 17) (v := _) rfl (by kernel_rfl) (fun _ _ _ h => h) (by assumption) (Or.inl ⟨by rfl, ?hy37⟩) ?rest37
  case' hy37 => (intro w' hSw; (try dsimp only at hSw); go_simp; try with_reducible rfl)
  try simp only [Act.put, List.getElem_toArray, List.getElem_cons_zero, List.getElem_cons_succ, List.setIfInBounds_toArray, List.set_cons_zero, List.set_cons_succ]
  refine' wpAnyF_take (i := 12) (n := 17) (v := _) rfl (by kernel_rfl) (fun _ _ _ h => h) (by assumption) (Or.inl ⟨by rfl, ?hy38⟩) ?rest38
  case' hy38 => (intro w' hSw; (try dsimp only at hSw); go_simp; try with_reducible rfl)
  try simp only [Act.put, List.getElem_toArray, List.getElem_cons_zero, List.getElem_cons_succ, List.setIfInBounds_toArray, List.set_cons_zero, List.set_cons_succ]
  refine' wpAnyF_take (i := 13) (n := 17) (v := _) rfl (by kernel_rfl) (fun _ _ _ h => h) (by assumption) (Or.inl ⟨by rfl, ?hy39⟩) ?rest39
  case' hy39 => (intro w' hSw; (try dsimp only at hSw); go_simp; try with_reducible rfl)
  try simp only [Act.put, List.getElem_toArray, List.getElem_cons_zero, List.getElem_cons_succ, List.setIfInBounds_toArray, List.set_cons_zero, List.set_cons_succ]
  refine' wpAnyF_take (i := 14) (n := 17) (v := _) rfl (by kernel_rfl) (fun _ _ _ h => h) (by assumption) (Or.inl ⟨by rfl, ?hy40⟩) ?rest40
  case' hy40 => (intro w' hSw; (try dsimp only at hSw); go_simp; try with_reducible rfl)
  try simp only [Act.put, List.getElem_toArray, List.getElem_cons_zero, List.getElem_cons_succ, List.setIfInBounds_toArray, List.set_cons_zero, List.set_cons_succ]
  refine wpAnyF_only (i := 15) rfl (by kernel_rfl) (fun K hK => ?_)
  go_simp
  go_at_call 55
  refine (HB.out _).mono ?_
  rintro e w4 ⟨rfl, rfl⟩
  dsimp only
  refine hK.out _ _ (Or.inr (by (try dsimp only); exact hHeld)) ?_
  clear hK K
  try simp only [Act.put, List.getElem_toArray, List.getElem_cons_zero, List.getElem_cons_succ, List.setIfInBounds_toArray, List.set_cons_zero, List.set_cons_succ]
  refine' wpAnyF_take (i := 16) (n := 17) (v := _) rfl (by kernel_rfl) (fun _ _ _ h => h) (by assumption) (Or.inl ⟨by rfl, ?hy41⟩) ?rest41
  case' hy41 => (intro w' hSw; (try dsimp only at hSw); go_simp; try with_reducible rfl)
  try simp only [Act.put, List.getElem_toArray, List.getElem_cons_zero, List.getElem_cons_succ, List.setIfInBounds_toArray, List.set_cons_zero, List.set_cons_succ]
  clear hHeld
  refine wpAnyF_only (i := 17) rfl (by kernel_rfl) (fun K hK => ?_)
  go_simp
  refine hK.out _ _ (Or.inl (by kernel_rfl)) ?_
  clear hK K
  try simp only [Act.put, List.getElem_toArray, List.getElem_cons_zero, List.getElem_cons_succ, List.setIfInBounds_toArray, List.set_cons_zero, List.set_cons_succ]
  refine wpAnyF_done (by kernel_rfl) ?_ _
  go_wp2
  go_ret
  exact ⟨rfl, _, _, by rw [HM'.out]; exact HS.out.step⟩
end Go.Proofs.YtdpmnlbnlnmjbaaGreatDoor

/- RkG -/
namespace Go.Proofs.YtdpmnlbnlnmjbaaGreatDoor
open Go.RowKit Go.Extern.Stop Go.Stop Go.Extern Go.Sort

set_option maxRecDepth 20000 in
set_option maxHeartbeats 2000000 in
theorem rstep_add {cs : List (List Ins)} {p : RkPl} {m : Mk} {K t : Nat} {w : World} (D : RkX cs p m K w) {L : List Ins} (ht : cs[t]? = some L) {x : Ins} (hx : L[m.pc t]? = some x) (e : x.op = ⟨#[97, 100, 100]⟩) {i : Nat} (hi : i < 8) (ei : x.a = i) {j : Nat} (hj : j < 8) (ej : x.b = j) {k : Nat} (hk : k < 8) (ek : x.c = k) :
    Calls Tryz.prog 25 #[.pointer (some ⟨p.k, 0, none⟩), .int .i64 t] w fun e w' => e = .returned (.int .i64 0) ∧ ∃ r v, RkStep cs p m.mem w r v (m.step L t) w' := by
  have hM : m.step L t = (m.setPc t (m.pc t + 1)).exec L t x := by unfold Mk.step; rw [hx]
  obtain ⟨M', hM'⟩ : ∃ M', M' = (m.setPc t (m.pc t + 1)).exec L t x := ⟨_, rfl⟩
  rw [hM, ← hM']
  rw [exec_add (m.setPc t (m.pc t + 1)) L t e] at hM'
  clear hM
  rw [ei] at hM'
  rw [ej] at hM'
  rw [ek] at hM'
  simp only [Int.toNat_natCast] at hM'
  simp only [show ∀ r, (m.setPc t (m.pc t + 1)).regs t r = m.regs t r from fun _ => rfl] at hM'
  have HD := hide (rdone_at ht hx D.at')
  obtain ⟨xo, xa, xb, xc, xt⟩ := x
  dsimp only at e ei ej ek hM' ⊢
  subst e ei ej ek
  have HM' := hide hM'
  clear hM'
  have htl := lt_of_get ht
  have h6 := D.at'.few
  have hpl := lt_of_get hx
  have hL2 := (D.right.right t L ht).1
  have hcap := D.at'.tcap
  have hcc := D.at'.ccap t L ht
  have ti : (t : Int) < cs.length := by omega
  have t6 : (t : Int) < 6 := by omega
  have pi : (m.pc t : Int) < L.length := by omega
  have hpc2 : m.pc t ≤ 2000 := D.ok.pcs t
  have hpw := wrapNext hpc2
  have hpw2 := wrapNext2 hpc2
  have hr8 := D.at'.rcap t htl
  have li : (i : Int) < 8 := by omega
  have lj : (j : Int) < 8 := by omega
  have lk : (k : Int) < 8 := by omega
  have HIN := hide (D.at'.rc.code ht)
  have HX := hide D
  have H := hide D.at'
  have d0 : decide ((t : Int) < 0) = false := by simp
  have hT := H.out.mT
  clear D
  go_enter Tryz.func25, Tryz.ntmps25
  go_wp2_with fail
  refine HD.out.mono ?_
  rintro e w1 ⟨rfl, hb1⟩
  clear HD hT
  have H1 := hide (H.out.below hb1)
  have HIN1 := hide (insAt_below HIN.out hb1)
  have hT := H1.out.mT
  have hA := H1.out.tAt t htl
  have hC := H1.out.tCode t L ht
  have hR := H1.out.tRegs t htl
  obtain ⟨cb, off, had, c0, c1, c2, c3, c4⟩ := HIN1.out _ _ hx
  dsimp only at c0 c1 c2 c3 c4
  rw [had] at hC
  have lcb : cb < w1.heap.size := World.block_lt_of_cell? _ _ c0
  have lk := H1.out.lk
  have lt := H1.out.lt'
  have lr := H1.out.lr htl
  have zt := H1.out.ft (t * 3 + 2)
  obtain ⟨W2, hW2⟩ : ∃ W2, W2 = (w1.alloc (.cells #[.string ⟨#[97, 100, 100]⟩, .int .i64 i, .int .i64 j, .int .i64 k, .string xt] 75)).drew := ⟨_, rfl⟩
  have b2 : Below w1.heap.size w1 W2 := by rw [hW2]; exact ((Below.refl _ _).alloc (Nat.le_refl _) _).drew
  have q0 : W2.cell? ⟨w1.heap.size, 0, none⟩ = some (.string ⟨#[97, 100, 100]⟩) := by rw [hW2]; simp
  have q1 : W2.cell? ⟨w1.heap.size, 1, none⟩ = some (.int .i64 i) := by rw [hW2]; simp
  have q2 : W2.cell? ⟨w1.heap.size, 2, none⟩ = some (.int .i64 j) := by rw [hW2]; simp
  have q3 : W2.cell? ⟨w1.heap.size, 3, none⟩ = some (.int .i64 k) := by rw [hW2]; simp
  have q4 : W2.cell? ⟨w1.heap.size, 4, none⟩ = some (.string xt) := by rw [hW2]; simp
  have lW2 : w1.heap.size < W2.heap.size := World.block_lt_of_cell? _ _ q0
  clear HIN HIN1 had
  go_wp2_with fail
  go_region
  rw [← hW2]
  have B2 := below_step hb1 b2
  have H2 := hide (H.out.below B2)
  replace hT := H2.out.mT
  replace hA := H2.out.tAt t htl
  replace hR := H2.out.tRegs t htl
  replace hC := keep_cell b2 hC
  replace zt := H2.out.ft (t * 3 + 2)
  have dk := H2.out.d1
  have dr1 := (H2.out.d2 t htl).1
  have dr2 := (H2.out.d2 t htl).2
  have G2 : Hid (Stg cs p m.mem w w1.heap.size p.rp p.mv m W2) := hide (Stg.first H.out B2 hb1.size lW2)
  obtain ⟨nk, nt, nr⟩ := G2.out.ne
  replace nr := nr t htl
  have lk2 : p.k < W2.heap.size := by omega
  have lt2 : p.tb < W2.heap.size := by omega
  have lr2 : p.rb t < W2.heap.size := by omega
  obtain ⟨W3, hW3⟩ : ∃ W3, W3 = W2.setCell ⟨p.tb, t * 3 + 2, none⟩ (.int .i64 ((m.pc t : Int) + 1)) := ⟨_, rfl⟩
  have S3 : Hid (RkStep cs p m.mem W2 p.rp p.mv (m.setPc t (m.pc t + 1)) W3) := hide (by rw [hW3]; exact H2.out.setPc htl (m.pc t + 1))
  have G3 : Hid (Stg cs p m.mem w w1.heap.size p.rp p.mv (m.setPc t (m.pc t + 1)) W3) := hide (G2.out.trans S3.out)
  have HM3 : Hid (RkAt cs p (m.setPc t (m.pc t + 1)) W3) := hide G3.out.step.at'
  have HX3 : Hid (RkX cs p (m.setPc t (m.pc t + 1)) K W3) := hide ⟨HM3.out, HX.out.ok.setPc t (by omega), HX.out.right, HX.out.hK⟩
  have y0 := G2.out.keep S3.out q0
  have y1 := G2.out.keep S3.out q1
  have y2 := G2.out.keep S3.out q2
  have y3 := G2.out.keep S3.out q3
  have y4 := G2.out.keep S3.out q4
  have T3 := HM3.out.mT
  have R3 := HM3.out.tRegs t htl
  have k3 := HM3.out.mM
  have lW3 : w1.heap.size < W3.heap.size := G3.out.lt
  have G0 : Hid (∀ r, r < 8 → W2.cell? ⟨p.rb t, r, none⟩ = some (.int .i64 (m.regs t r)) ∧ W2.frozen? ⟨p.rb t, r, none⟩ = false) := fun r hr => ⟨H2.out.regs t r htl hr, H2.out.fr t r htl⟩
  clear H2 c0 c1 c2 c3 c4 hb1 b2 B2 hW2 G2 S3 H1 lcb
  obtain ⟨fi, fzi⟩ := G0.out i (by omega)
  have gi : W3.cell? ⟨p.rb t, i, none⟩ = some (.int .i64 (m.regs t i)) := HM3.out.regs t i htl (by omega)
  obtain ⟨fj, fzj⟩ := G0.out j (by omega)
  have gj : W3.cell? ⟨p.rb t, j, none⟩ = some (.int .i64 (m.regs t j)) := HM3.out.regs t j htl (by omega)
  obtain ⟨fk, fzk⟩ := G0.out k (by omega)
  have gk : W3.cell? ⟨p.rb t, k, none⟩ = some (.int .i64 (m.regs t k)) := HM3.out.regs t k htl (by omega)
  clear G0
  have z3 : W3.frozen? ⟨p.rb t, i, none⟩ = false := HM3.out.fr t i htl
  obtain ⟨j1, j2⟩ := HX3.out.ok.regs t j
  obtain ⟨k1, k2⟩ := HX3.out.ok.regs t k
  have HS : Hid (∀ n, Stg cs p m.mem w w1.heap.size p.rp p.mv ((m.setPc t (m.pc t + 1)).setReg t i ((m.regs t j + m.regs t k) % 4294967296)) ((W3.drewN n).setCell ⟨p.rb t, i, none⟩ (.int .i64 ((m.regs t j + m.regs t k) % 4294967296)))) := fun n => (G3.out.below (Below.drewN' n)).trans ((HM3.out.drewN n).setReg htl hi ((m.regs t j + m.regs t k) % 4294967296))
  rw [show (m.setPc t (m.pc t + 1)).regs t j = m.regs t j from rfl] at j1 j2
  rw [show (m.setPc t (m.pc t + 1)).regs t k = m.regs t k from rfl] at k1 k2
  clear G3 HM3 HX3
  have hw5 : wrap64 (m.regs t j + m.regs t k) = m.regs t j + m.regs t k := by unfold wrap64; omega
  have hw6 : IntKind.i64.wrap (m.regs t j + m.regs t k) = m.regs t j + m.regs t k := by rw [IntKind.wrap_i64]; omega
  obtain ⟨V, hV⟩ : ∃ V, V = m.regs t j + m.regs t k := ⟨_, rfl⟩
  have v1 : -4294967296 < V := by omega
  have hV0 : 0 ≤ V := by omega
  have v2 : V < 8589934592 := by omega
  rw [← hV] at hw5 hw6 HS
  have HM2 := HM'.out
  rw [← hV] at HM2
  replace HM' := hide HM2
  clear HM2
  have HV := hide hV
  clear j1 j2 k1 k2 hV
  generalize m.regs t i = Ri at *
  generalize m.regs t j = Rj at *
  generalize m.regs t k = Rk at *
  go_wp2_with fail
  rw [← hW3]
  clear hT hA hR hC zt q0 q1 q2 q3 q4 lW2 lk2 lt2 lr2 hW3
  go_quiet (fail)
  rw [← HV.out]
  replace y0 : (W3.drewN nq).cell? ⟨w1.heap.size, 0, none⟩ = some (.string ⟨#[97, 100, 100]⟩) := y0
  replace y1 : (W3.drewN nq).cell? ⟨w1.heap.size, 1, none⟩ = some (.int .i64 i) := y1
  replace gi : (W3.drewN nq).cell? ⟨p.rb t, i, none⟩ = some (.int .i64 Ri) := gi
  replace z3 : (W3.drewN nq).frozen? ⟨p.rb t, i, none⟩ = false := z3
  have HS2 := hide (HS.out nq)
  clear HS HV T3 R3 k3 y2 y3 y4 gj gk
  generalize W3.drewN nq = W4 at *
  by_cases hb : 4294967296 ≤ V
  · have HE : Hid (V % 4294967296 = V - 4294967296) := by show _ = _; omega
    have hw7 : wrap64 (V - 4294967296) = V - 4294967296 := by unfold wrap64; omega
    rw [HE.out] at HS2
    have HM2 := HM'.out
    rw [HE.out] at HM2
    replace HM' := hide HM2
    clear HE HM2
    go_wp2
    go_ret
    exact ⟨rfl, _, _, by rw [HM'.out]; exact HS2.out.step⟩
  · have HE : Hid (V % 4294967296 = V) := by show _ = _; omega
    rw [HE.out] at HS2
    have HM2 := HM'.out
    rw [HE.out] at HM2
    replace HM' := hide HM2
    clear HE HM2
    go_wp2
    go_ret
    exact ⟨rfl, _, _, by rw [HM'.out]; exact HS2.out.step⟩

set_option maxRecDepth 20000 in
set_option maxHeartbeats 2000000 in
theorem rstep_sub {cs : List (List Ins)} {p : RkPl} {m : Mk} {K t : Nat} {w : World} (D : RkX cs p m K w) {L : List Ins} (ht : cs[t]? = some L) {x : Ins} (hx : L[m.pc t]? = some x) (e : x.op = ⟨#[115, 117, 98]⟩) {i : Nat} (hi : i < 8) (ei : x.a = i) {j : Nat} (hj : j < 8) (ej : x.b = j) {k : Nat} (hk : k < 8) (ek : x.c = k) :
    Calls Tryz.prog 25 #[.pointer (some ⟨p.k, 0, none⟩), .int .i64 t] w fun e w' => e = .returned (.int .i64 0) ∧ ∃ r v, RkStep cs p m.mem w r v (m.step L t) w' := by
  have hM : m.step L t = (m.setPc t (m.pc t + 1)).exec L t x := by unfold Mk.step; rw [hx]
  obtain ⟨M', hM'⟩ : ∃ M', M' = (m.setPc t (m.pc t + 1)).exec L t x := ⟨_, rfl⟩
  rw [hM, ← hM']
  rw [exec_sub (m.setPc t (m.pc t + 1)) L t e] at hM'
  clear hM
  rw [ei] at hM'
  rw [ej] at hM'
  rw [ek] at hM'
  simp only [Int.toNat_natCast] at hM'
  simp only [show ∀ r, (m.setPc t (m.pc t + 1)).regs t r = m.regs t r from fun _ => rfl] at hM'
  have HD := hide (rdone_at ht hx D.at')
  obtain ⟨xo, xa, xb, xc, xt⟩ := x
  dsimp only at e ei ej ek hM' ⊢
  subst e ei ej ek
  have HM' := hide hM'
  clear hM'
  have htl := lt_of_get ht
  have h6 := D.at'.few
  have hpl := lt_of_get hx
  have hL2 := (D.right.right t L ht).1
  have hcap := D.at'.tcap
  have hcc := D.at'.ccap t L ht
  have ti : (t : Int) < cs.length := by omega
  have t6 : (t : Int) < 6 := by omega
  have pi : (m.pc t : Int) < L.length := by omega
  have hpc2 : m.pc t ≤ 2000 := D.ok.pcs t
  have hpw := wrapNext hpc2
  have hpw2 := wrapNext2 hpc2
  have hr8 := D.at'.rcap t htl
  have li : (i : Int) < 8 := by omega
  have lj : (j : Int) < 8 := by omega
  have lk : (k : Int) < 8 := by omega
  have HIN := hide (D.at'.rc.code ht)
  have HX := hide D
  have H := hide D.at'
  have d0 : decide ((t : Int) < 0) = false := by simp
  have hT := H.out.mT
  clear D
  go_enter Tryz.func25, Tryz.ntmps25
  go_wp2_with fail
  refine HD.out.mono ?_
  rintro e w1 ⟨rfl, hb1⟩
  clear HD hT
  have H1 := hide (H.out.below hb1)
  have HIN1 := hide (insAt_below HIN.out hb1)
  have hT := H1.out.mT
  have hA := H1.out.tAt t htl
  have hC := H1.out.tCode t L ht
  have hR := H1.out.tRegs t htl
  obtain ⟨cb, off, had, c0, c1, c2, c3, c4⟩ := HIN1.out _ _ hx
  dsimp only at c0 c1 c2 c3 c4
  rw [had] at hC
  have lcb : cb < w1.heap.size := World.block_lt_of_cell? _ _ c0
  have lk := H1.out.lk
  have lt := H1.out.lt'
  have lr := H1.out.lr htl
  have zt := H1.out.ft (t * 3 + 2)
  obtain ⟨W2, hW2⟩ : ∃ W2, W2 = (w1.alloc (.cells #[.string ⟨#[115, 117, 98]⟩, .int .i64 i, .int .i64 j, .int .i64 k, .string xt] 75)).drew := ⟨_, rfl⟩
  have b2 : Below w1.heap.size w1 W2 := by rw [hW2]; exact ((Below.refl _ _).alloc (Nat.le_refl _) _).drew
  have q0 : W2.cell? ⟨w1.heap.size, 0, none⟩ = some (.string ⟨#[115, 117, 98]⟩) := by rw [hW2]; simp
  have q1 : W2.cell? ⟨w1.heap.size, 1, none⟩ = some (.int .i64 i) := by rw [hW2]; simp
  have q2 : W2.cell? ⟨w1.heap.size, 2, none⟩ = some (.int .i64 j) := by rw [hW2]; simp
  have q3 : W2.cell? ⟨w1.heap.size, 3, none⟩ = some (.int .i64 k) := by rw [hW2]; simp
  have q4 : W2.cell? ⟨w1.heap.size, 4, none⟩ = some (.string xt) := by rw [hW2]; simp
  have lW2 : w1.heap.size < W2.heap.size := World.block_lt_of_cell? _ _ q0
  clear HIN HIN1 had
  go_wp2_with fail
  go_region
  rw [← hW2]
  have B2 := below_step hb1 b2
  have H2 := hide (H.out.below B2)
  replace hT := H2.out.mT
  replace hA := H2.out.tAt t htl
  replace hR := H2.out.tRegs t htl
  replace hC := keep_cell b2 hC
  replace zt := H2.out.ft (t * 3 + 2)
  have dk := H2.out.d1
  have dr1 := (H2.out.d2 t htl).1
  have dr2 := (H2.out.d2 t htl).2
  have G2 : Hid (Stg cs p m.mem w w1.heap.size p.rp p.mv m W2) := hide (Stg.first H.out B2 hb1.size lW2)
  obtain ⟨nk, nt, nr⟩ := G2.out.ne
  replace nr := nr t htl
  have lk2 : p.k < W2.heap.size := by omega
  have lt2 : p.tb < W2.heap.size := by omega
  have lr2 : p.rb t < W2.heap.size := by omega
  obtain ⟨W3, hW3⟩ : ∃ W3, W3 = W2.setCell ⟨p.tb, t * 3 + 2, none⟩ (.int .i64 ((m.pc t : Int) + 1)) := ⟨_, rfl⟩
  have S3 : Hid (RkStep cs p m.mem W2 p.rp p.mv (m.setPc t (m.pc t + 1)) W3) := hide (by rw [hW3]; exact H2.out.setPc htl (m.pc t + 1))
  have G3 : Hid (Stg cs p m.mem w w1.heap.size p.rp p.mv (m.setPc t (m.pc t + 1)) W3) := hide (G2.out.trans S3.out)
  have HM3 : Hid (RkAt cs p (m.setPc t (m.pc t + 1)) W3) := hide G3.out.step.at'
  have HX3 : Hid (RkX cs p (m.setPc t (m.pc t + 1)) K W3) := hide ⟨HM3.out, HX.out.ok.setPc t (by omega), HX.out.right, HX.out.hK⟩
  have y0 := G2.out.keep S3.out q0
  have y1 := G2.out.keep S3.out q1
  have y2 := G2.out.keep S3.out q2
  have y3 := G2.out.keep S3.out q3
  have y4 := G2.out.keep S3.out q4
  have T3 := HM3.out.mT
  have R3 := HM3.out.tRegs t htl
  have k3 := HM3.out.mM
  have lW3 : w1.heap.size < W3.heap.size := G3.out.lt
  have G0 : Hid (∀ r, r < 8 → W2.cell? ⟨p.rb t, r, none⟩ = some (.int .i64 (m.regs t r)) ∧ W2.frozen? ⟨p.rb t, r, none⟩ = false) := fun r hr => ⟨H2.out.regs t r htl hr, H2.out.fr t r htl⟩
  clear H2 c0 c1 c2 c3 c4 hb1 b2 B2 hW2 G2 S3 H1 lcb
  obtain ⟨fi, fzi⟩ := G0.out i (by omega)
  have gi : W3.cell? ⟨p.rb t, i, none⟩ = some (.int .i64 (m.regs t i)) := HM3.out.regs t i htl (by omega)
  obtain ⟨fj, fzj⟩ := G0.out j (by omega)
  have gj : W3.cell? ⟨p.rb t, j, none⟩ = some (.int .i64 (m.regs t j)) := HM3.out.regs t j htl (by omega)
  obtain ⟨fk, fzk⟩ := G0.out k (by omega)
  have gk : W3.cell? ⟨p.rb t, k, none⟩ = some (.int .i64 (m.regs t k)) := HM3.out.regs t k htl (by omega)
  clear G0
  have z3 : W3.frozen? ⟨p.rb t, i, none⟩ = false := HM3.out.fr t i htl
  obtain ⟨j1, j2⟩ := HX3.out.ok.regs t j
  obtain ⟨k1, k2⟩ := HX3.out.ok.regs t k
  have HS : Hid (∀ n, Stg cs p m.mem w w1.heap.size p.rp p.mv ((m.setPc t (m.pc t + 1)).setReg t i ((m.regs t j - m.regs t k) % 4294967296)) ((W3.drewN n).setCell ⟨p.rb t, i, none⟩ (.int .i64 ((m.regs t j - m.regs t k) % 4294967296)))) := fun n => (G3.out.below (Below.drewN' n)).trans ((HM3.out.drewN n).setReg htl hi ((m.regs t j - m.regs t k) % 4294967296))
  rw [show (m.setPc t (m.pc t + 1)).regs t j = m.regs t j from rfl] at j1 j2
  rw [show (m.setPc t (m.pc t + 1)).regs t k = m.regs t k from rfl] at k1 k2
  clear G3 HM3 HX3
  have hw5 : wrap64 (m.regs t j - m.regs t k) = m.regs t j - m.regs t k := by unfold wrap64; omega
  have hw6 : IntKind.i64.wrap (m.regs t j - m.regs t k) = m.regs t j - m.regs t k := by rw [IntKind.wrap_i64]; omega
  obtain ⟨V, hV⟩ : ∃ V, V = m.regs t j - m.regs t k := ⟨_, rfl⟩
  have v1 : -4294967296 < V := by omega
  have v2 : V < 4294967296 := by omega
  rw [← hV] at hw5 hw6 HS
  have HM2 := HM'.out
  rw [← hV] at HM2
  replace HM' := hide HM2
  clear HM2
  have HV := hide hV
  clear j1 j2 k1 k2 hV
  generalize m.regs t i = Ri at *
  generalize m.regs t j = Rj at *
  generalize m.regs t k = Rk at *
  go_wp2_with fail
  rw [← hW3]
  clear hT hA hR hC zt q0 q1 q2 q3 q4 lW2 lk2 lt2 lr2 hW3
  go_quiet (fail)
  rw [← HV.out]
  replace y0 : (W3.drewN nq).cell? ⟨w1.heap.size, 0, none⟩ = some (.string ⟨#[115, 117, 98]⟩) := y0
  replace y1 : (W3.drewN nq).cell? ⟨w1.heap.size, 1, none⟩ = some (.int .i64 i) := y1
  replace gi : (W3.drewN nq).cell? ⟨p.rb t, i, none⟩ = some (.int .i64 Ri) := gi
  replace z3 : (W3.drewN nq).frozen? ⟨p.rb t, i, none⟩ = false := z3
  have HS2 := hide (HS.out nq)
  clear HS HV T3 R3 k3 y2 y3 y4 gj gk
  generalize W3.drewN nq = W4 at *
  by_cases hb : V < 0
  · have HE : Hid (V % 4294967296 = V + 4294967296) := by show _ = _; omega
    have hw7 : wrap64 (V + 4294967296) = V + 4294967296 := by unfold wrap64; omega
    rw [HE.out] at HS2
    have HM2 := HM'.out
    rw [HE.out] at HM2
    replace HM' := hide HM2
    clear HE HM2
    go_wp2
    go_ret
    exact ⟨rfl, _, _, by rw [HM'.out]; exact HS2.out.step⟩
  · have HE : Hid (V % 4294967296 = V) := by show _ = _; omega
    rw [HE.out] at HS2
    have HM2 := HM'.out
    rw [HE.out] at HM2
    replace HM' := hide HM2
    clear HE HM2
    go_wp2
    go_ret
    exact ⟨rfl, _, _, by rw [HM'.out]; exact HS2.out.step⟩

set_option maxRecDepth 20000 in
set_option maxHeartbeats 2000000 in
theorem rstep_need {cs : List (List Ins)} {p : RkPl} {m : Mk} {K t : Nat} {w : World} (D : RkX cs p m K w) {L : List Ins} (ht : cs[t]? = some L) {x : Ins} (hx : L[m.pc t]? = some x) (e : x.op = ⟨#[110, 101, 101, 100]⟩) {i : Nat} (hi : i < 8) (ei : x.a = i) :
    Calls Tryz.prog 25 #[.pointer (some ⟨p.k, 0, none⟩), .int .i64 t] w fun e w' => e = .returned (.int .i64 0) ∧ ∃ r v, RkStep cs p m.mem w r v (m.step L t) w' := by
  have hM : m.step L t = (m.setPc t (m.pc t + 1)).exec L t x := by unfold Mk.step; rw [hx]
  obtain ⟨M', hM'⟩ : ∃ M', M' = (m.setPc t (m.pc t + 1)).exec L t x := ⟨_, rfl⟩
  rw [hM, ← hM']
  rw [exec_need (m.setPc t (m.pc t + 1)) L t e] at hM'
  clear hM
  rw [ei] at hM'
  simp only [Int.toNat_natCast] at hM'
  simp only [show ∀ r, (m.setPc t (m.pc t + 1)).regs t r = m.regs t r from fun _ => rfl] at hM'
  have HD := hide (rdone_at ht hx D.at')
  obtain ⟨xo, xa, xb, xc, xt⟩ := x
  dsimp only at e ei hM' ⊢
  subst e ei
  have HM' := hide hM'
  clear hM'
  have htl := lt_of_get ht
  have h6 := D.at'.few
  have hpl := lt_of_get hx
  have hL2 := (D.right.right t L ht).1
  have hcap := D.at'.tcap
  have hcc := D.at'.ccap t L ht
  have ti : (t : Int) < cs.length := by omega
  have t6 : (t : Int) < 6 := by omega
  have pi : (m.pc t : Int) < L.length := by omega
  have hpc2 : m.pc t ≤ 2000 := D.ok.pcs t
  have hpw := wrapNext hpc2
  have hpw2 := wrapNext2 hpc2
  have hr8 := D.at'.rcap t htl
  have li : (i : Int) < 8 := by omega
  have HIN := hide (D.at'.rc.code ht)
  have HX := hide D
  have H := hide D.at'
  have d0 : decide ((t : Int) < 0) = false := by simp
  have hT := H.out.mT
  clear D
  go_enter Tryz.func25, Tryz.ntmps25
  go_wp2_with fail
  refine HD.out.mono ?_
  rintro e w1 ⟨rfl, hb1⟩
  clear HD hT
  have H1 := hide (H.out.below hb1)
  have HIN1 := hide (insAt_below HIN.out hb1)
  have hT := H1.out.mT
  have hA := H1.out.tAt t htl
  have hC := H1.out.tCode t L ht
  have hR := H1.out.tRegs t htl
  obtain ⟨cb, off, had, c0, c1, c2, c3, c4⟩ := HIN1.out _ _ hx
  dsimp only at c0 c1 c2 c3 c4
  rw [had] at hC
  have lcb : cb < w1.heap.size := World.block_lt_of_cell? _ _ c0
  have lk := H1.out.lk
  have lt := H1.out.lt'
  have lr := H1.out.lr htl
  have zt := H1.out.ft (t * 3 + 2)
  obtain ⟨W2, hW2⟩ : ∃ W2, W2 = (w1.alloc (.cells #[.string ⟨#[110, 101, 101, 100]⟩, .int .i64 i, .int .i64 xb, .int .i64 xc, .string xt] 75)).drew := ⟨_, rfl⟩
  have b2 : Below w1.heap.size w1 W2 := by rw [hW2]; exact ((Below.refl _ _).alloc (Nat.le_refl _) _).drew
  have q0 : W2.cell? ⟨w1.heap.size, 0, none⟩ = some (.string ⟨#[110, 101, 101, 100]⟩) := by rw [hW2]; simp
  have q1 : W2.cell? ⟨w1.heap.size, 1, none⟩ = some (.int .i64 i) := by rw [hW2]; simp
  have q2 : W2.cell? ⟨w1.heap.size, 2, none⟩ = some (.int .i64 xb) := by rw [hW2]; simp
  have q3 : W2.cell? ⟨w1.heap.size, 3, none⟩ = some (.int .i64 xc) := by rw [hW2]; simp
  have q4 : W2.cell? ⟨w1.heap.size, 4, none⟩ = some (.string xt) := by rw [hW2]; simp
  have lW2 : w1.heap.size < W2.heap.size := World.block_lt_of_cell? _ _ q0
  clear HIN HIN1 had
  go_wp2_with fail
  go_region
  rw [← hW2]
  have B2 := below_step hb1 b2
  have H2 := hide (H.out.below B2)
  replace hT := H2.out.mT
  replace hA := H2.out.tAt t htl
  replace hR := H2.out.tRegs t htl
  replace hC := keep_cell b2 hC
  replace zt := H2.out.ft (t * 3 + 2)
  have dk := H2.out.d1
  have dr1 := (H2.out.d2 t htl).1
  have dr2 := (H2.out.d2 t htl).2
  have G2 : Hid (Stg cs p m.mem w w1.heap.size p.rp p.mv m W2) := hide (Stg.first H.out B2 hb1.size lW2)
  obtain ⟨nk, nt, nr⟩ := G2.out.ne
  replace nr := nr t htl
  have lk2 : p.k < W2.heap.size := by omega
  have lt2 : p.tb < W2.heap.size := by omega
  have lr2 : p.rb t < W2.heap.size := by omega
  obtain ⟨W3, hW3⟩ : ∃ W3, W3 = W2.setCell ⟨p.tb, t * 3 + 2, none⟩ (.int .i64 ((m.pc t : Int) + 1)) := ⟨_, rfl⟩
  have S3 : Hid (RkStep cs p m.mem W2 p.rp p.mv (m.setPc t (m.pc t + 1)) W3) := hide (by rw [hW3]; exact H2.out.setPc htl (m.pc t + 1))
  have G3 : Hid (Stg cs p m.mem w w1.heap.size p.rp p.mv (m.setPc t (m.pc t + 1)) W3) := hide (G2.out.trans S3.out)
  have HM3 : Hid (RkAt cs p (m.setPc t (m.pc t + 1)) W3) := hide G3.out.step.at'
  have HX3 : Hid (RkX cs p (m.setPc t (m.pc t + 1)) K W3) := hide ⟨HM3.out, HX.out.ok.setPc t (by omega), HX.out.right, HX.out.hK⟩
  have y0 := G2.out.keep S3.out q0
  have y1 := G2.out.keep S3.out q1
  have y2 := G2.out.keep S3.out q2
  have y3 := G2.out.keep S3.out q3
  have y4 := G2.out.keep S3.out q4
  have T3 := HM3.out.mT
  have R3 := HM3.out.tRegs t htl
  have k3 := HM3.out.mM
  have lW3 : w1.heap.size < W3.heap.size := G3.out.lt
  have HF2 : Hid (W2.cell? ⟨p.k, 3, none⟩ = some (.int .i64 m.faults) ∧ W2.frozen? ⟨p.k, 3, none⟩ = false) := hide ⟨H2.out.mFaults, H2.out.fk 3⟩
  have G0 : Hid (∀ r, r < 8 → W2.cell? ⟨p.rb t, r, none⟩ = some (.int .i64 (m.regs t r)) ∧ W2.frozen? ⟨p.rb t, r, none⟩ = false) := fun r hr => ⟨H2.out.regs t r htl hr, H2.out.fr t r htl⟩
  clear H2 c0 c1 c2 c3 c4 hb1 b2 B2 hW2 G2 S3 H1 lcb
  obtain ⟨fi, fzi⟩ := G0.out i (by omega)
  have gi : W3.cell? ⟨p.rb t, i, none⟩ = some (.int .i64 (m.regs t i)) := HM3.out.regs t i htl (by omega)
  clear G0
  have hF : W2.cell? ⟨p.k, 3, none⟩ = some (.int .i64 m.faults) := HF2.out.1
  have hZ : W2.frozen? ⟨p.k, 3, none⟩ = false := HF2.out.2
  clear HF2
  have hf := HX3.out.faults
  rw [show (m.setPc t (m.pc t + 1)).faults = m.faults from rfl] at hf
  by_cases h0 : m.regs t i = 0
  · have HS := hide (G3.out.trans (HM3.out.addFault 1))
    rw [show (m.setPc t (m.pc t + 1)).faults = m.faults from rfl, hW3, show ((m.faults + 1 : Nat) : Int) = (m.faults : Int) + 1 from rfl] at HS
    have HQ : Hid ((m.setPc t (m.pc t + 1)).need (m.regs t i) = (m.setPc t (m.pc t + 1)).addFault 1) := by show _ = _; unfold Mk.need; rw [if_pos h0]
    have HM2 := HM'.out
    rw [HQ.out] at HM2
    replace HM' := hide HM2
    clear HM2
    rw [h0] at fi
    clear G3 HM3 HX3 HQ h0 gi
    generalize m.faults = N at *
    go_wp2
    go_ret
    exact ⟨rfl, _, _, by rw [HM'.out]; exact HS.out.step⟩
  · have HS := hide G3.out.step
    rw [hW3] at HS
    have HQ : Hid ((m.setPc t (m.pc t + 1)).need (m.regs t i) = m.setPc t (m.pc t + 1)) := by show _ = _; unfold Mk.need; rw [if_neg h0]
    have HM2 := HM'.out
    rw [HQ.out] at HM2
    replace HM' := hide HM2
    clear HM2
    clear G3 HM3 HX3 HQ
    generalize m.regs t i = Ri at *
    go_wp2
    go_ret
    exact ⟨rfl, _, _, by rw [HM'.out]; exact HS.out⟩

set_option maxRecDepth 20000 in
set_option maxHeartbeats 2000000 in
theorem rstep_label {cs : List (List Ins)} {p : RkPl} {m : Mk} {K t : Nat} {w : World} (D : RkX cs p m K w) {L : List Ins} (ht : cs[t]? = some L) {x : Ins} (hx : L[m.pc t]? = some x) (e : x.op = ⟨#[108, 97, 98, 101, 108]⟩) :
    Calls Tryz.prog 25 #[.pointer (some ⟨p.k, 0, none⟩), .int .i64 t] w fun e w' => e = .returned (.int .i64 0) ∧ ∃ r v, RkStep cs p m.mem w r v (m.step L t) w' := by
  have hM : m.step L t = (m.setPc t (m.pc t + 1)).exec L t x := by unfold Mk.step; rw [hx]
  obtain ⟨M', hM'⟩ : ∃ M', M' = (m.setPc t (m.pc t + 1)).exec L t x := ⟨_, rfl⟩
  rw [hM, ← hM']
  rw [exec_label (m.setPc t (m.pc t + 1)) L t e] at hM'
  clear hM
  have HD := hide (rdone_at ht hx D.at')
  obtain ⟨xo, xa, xb, xc, xt⟩ := x
  dsimp only at e hM' ⊢
  subst e
  have HM' := hide hM'
  clear hM'
  have htl := lt_of_get ht
  have h6 := D.at'.few
  have hpl := lt_of_get hx
  have hL2 := (D.right.right t L ht).1
  have hcap := D.at'.tcap
  have hcc := D.at'.ccap t L ht
  have ti : (t : Int) < cs.length := by omega
  have t6 : (t : Int) < 6 := by omega
  have pi : (m.pc t : Int) < L.length := by omega
  have hpc2 : m.pc t ≤ 2000 := D.ok.pcs t
  have hpw := wrapNext hpc2
  have hpw2 := wrapNext2 hpc2
  have hr8 := D.at'.rcap t htl
  have HIN := hide (D.at'.rc.code ht)
  have HX := hide D
  have H := hide D.at'
  have d0 : decide ((t : Int) < 0) = false := by simp
  have hT := H.out.mT
  clear D
  go_enter Tryz.func25, Tryz.ntmps25
  go_wp2_with fail
  refine HD.out.mono ?_
  rintro e w1 ⟨rfl, hb1⟩
  clear HD hT
  have H1 := hide (H.out.below hb1)
  have HIN1 := hide (insAt_below HIN.out hb1)
  have hT := H1.out.mT
  have hA := H1.out.tAt t htl
  have hC := H1.out.tCode t L ht
  have hR := H1.out.tRegs t htl
  obtain ⟨cb, off, had, c0, c1, c2, c3, c4⟩ := HIN1.out _ _ hx
  dsimp only at c0 c1 c2 c3 c4
  rw [had] at hC
  have lcb : cb < w1.heap.size := World.block_lt_of_cell? _ _ c0
  have lk := H1.out.lk
  have lt := H1.out.lt'
  have lr := H1.out.lr htl
  have zt := H1.out.ft (t * 3 + 2)
  obtain ⟨W2, hW2⟩ : ∃ W2, W2 = (w1.alloc (.cells #[.string ⟨#[108, 97, 98, 101, 108]⟩, .int .i64 xa, .int .i64 xb, .int .i64 xc, .string xt] 75)).drew := ⟨_, rfl⟩
  have b2 : Below w1.heap.size w1 W2 := by rw [hW2]; exact ((Below.refl _ _).alloc (Nat.le_refl _) _).drew
  have q0 : W2.cell? ⟨w1.heap.size, 0, none⟩ = some (.string ⟨#[108, 97, 98, 101, 108]⟩) := by rw [hW2]; simp
  have q1 : W2.cell? ⟨w1.heap.size, 1, none⟩ = some (.int .i64 xa) := by rw [hW2]; simp
  have q2 : W2.cell? ⟨w1.heap.size, 2, none⟩ = some (.int .i64 xb) := by rw [hW2]; simp
  have q3 : W2.cell? ⟨w1.heap.size, 3, none⟩ = some (.int .i64 xc) := by rw [hW2]; simp
  have q4 : W2.cell? ⟨w1.heap.size, 4, none⟩ = some (.string xt) := by rw [hW2]; simp
  have lW2 : w1.heap.size < W2.heap.size := World.block_lt_of_cell? _ _ q0
  clear HIN HIN1 had
  go_wp2_with fail
  go_region
  rw [← hW2]
  have B2 := below_step hb1 b2
  have H2 := hide (H.out.below B2)
  replace hT := H2.out.mT
  replace hA := H2.out.tAt t htl
  replace hR := H2.out.tRegs t htl
  replace hC := keep_cell b2 hC
  replace zt := H2.out.ft (t * 3 + 2)
  have dk := H2.out.d1
  have dr1 := (H2.out.d2 t htl).1
  have dr2 := (H2.out.d2 t htl).2
  have G2 : Hid (Stg cs p m.mem w w1.heap.size p.rp p.mv m W2) := hide (Stg.first H.out B2 hb1.size lW2)
  obtain ⟨nk, nt, nr⟩ := G2.out.ne
  replace nr := nr t htl
  have lk2 : p.k < W2.heap.size := by omega
  have lt2 : p.tb < W2.heap.size := by omega
  have lr2 : p.rb t < W2.heap.size := by omega
  obtain ⟨W3, hW3⟩ : ∃ W3, W3 = W2.setCell ⟨p.tb, t * 3 + 2, none⟩ (.int .i64 ((m.pc t : Int) + 1)) := ⟨_, rfl⟩
  have S3 : Hid (RkStep cs p m.mem W2 p.rp p.mv (m.setPc t (m.pc t + 1)) W3) := hide (by rw [hW3]; exact H2.out.setPc htl (m.pc t + 1))
  have G3 : Hid (Stg cs p m.mem w w1.heap.size p.rp p.mv (m.setPc t (m.pc t + 1)) W3) := hide (G2.out.trans S3.out)
  have HM3 : Hid (RkAt cs p (m.setPc t (m.pc t + 1)) W3) := hide G3.out.step.at'
  have HX3 : Hid (RkX cs p (m.setPc t (m.pc t + 1)) K W3) := hide ⟨HM3.out, HX.out.ok.setPc t (by omega), HX.out.right, HX.out.hK⟩
  have y0 := G2.out.keep S3.out q0
  have y1 := G2.out.keep S3.out q1
  have y2 := G2.out.keep S3.out q2
  have y3 := G2.out.keep S3.out q3
  have y4 := G2.out.keep S3.out q4
  have T3 := HM3.out.mT
  have R3 := HM3.out.tRegs t htl
  have k3 := HM3.out.mM
  have lW3 : w1.heap.size < W3.heap.size := G3.out.lt
  have G0 : Hid (∀ r, r < 8 → W2.cell? ⟨p.rb t, r, none⟩ = some (.int .i64 (m.regs t r)) ∧ W2.frozen? ⟨p.rb t, r, none⟩ = false) := fun r hr => ⟨H2.out.regs t r htl hr, H2.out.fr t r htl⟩
  clear H2 c0 c1 c2 c3 c4 hb1 b2 B2 hW2 G2 S3 H1 lcb
  clear G0
  have HS := hide G3.out.step
  rw [hW3] at HS
  clear G3 HM3 HX3
  go_wp2
  go_ret
  exact ⟨rfl, _, _, by rw [HM'.out]; exact HS.out⟩

set_option maxRecDepth 20000 in
set_option maxHeartbeats 2000000 in
theorem rstep_fence {cs : List (List Ins)} {p : RkPl} {m : Mk} {K t : Nat} {w : World} (D : RkX cs p m K w) {L : List Ins} (ht : cs[t]? = some L) {x : Ins} (hx : L[m.pc t]? = some x) (e : x.op = ⟨#[102, 101, 110, 99, 101]⟩) :
    Calls Tryz.prog 25 #[.pointer (some ⟨p.k, 0, none⟩), .int .i64 t] w fun e w' => e = .returned (.int .i64 0) ∧ ∃ r v, RkStep cs p m.mem w r v (m.step L t) w' := by
  have hM : m.step L t = (m.setPc t (m.pc t + 1)).exec L t x := by unfold Mk.step; rw [hx]
  obtain ⟨M', hM'⟩ : ∃ M', M' = (m.setPc t (m.pc t + 1)).exec L t x := ⟨_, rfl⟩
  rw [hM, ← hM']
  rw [exec_fence (m.setPc t (m.pc t + 1)) L t e] at hM'
  clear hM
  have HD := hide (rdone_at ht hx D.at')
  obtain ⟨xo, xa, xb, xc, xt⟩ := x
  dsimp only at e hM' ⊢
  subst e
  have HM' := hide hM'
  clear hM'
  have htl := lt_of_get ht
  have h6 := D.at'.few
  have hpl := lt_of_get hx
  have hL2 := (D.right.right t L ht).1
  have hcap := D.at'.tcap
  have hcc := D.at'.ccap t L ht
  have ti : (t : Int) < cs.length := by omega
  have t6 : (t : Int) < 6 := by omega
  have pi : (m.pc t : Int) < L.length := by omega
  have hpc2 : m.pc t ≤ 2000 := D.ok.pcs t
  have hpw := wrapNext hpc2
  have hpw2 := wrapNext2 hpc2
  have hr8 := D.at'.rcap t htl
  have HIN := hide (D.at'.rc.code ht)
  have HX := hide D
  have H := hide D.at'
  have d0 : decide ((t : Int) < 0) = false := by simp
  have hT := H.out.mT
  clear D
  go_enter Tryz.func25, Tryz.ntmps25
  go_wp2_with fail
  refine HD.out.mono ?_
  rintro e w1 ⟨rfl, hb1⟩
  clear HD hT
  have H1 := hide (H.out.below hb1)
  have HIN1 := hide (insAt_below HIN.out hb1)
  have hT := H1.out.mT
  have hA := H1.out.tAt t htl
  have hC := H1.out.tCode t L ht
  have hR := H1.out.tRegs t htl
  obtain ⟨cb, off, had, c0, c1, c2, c3, c4⟩ := HIN1.out _ _ hx
  dsimp only at c0 c1 c2 c3 c4
  rw [had] at hC
  have lcb : cb < w1.heap.size := World.block_lt_of_cell? _ _ c0
  have lk := H1.out.lk
  have lt := H1.out.lt'
  have lr := H1.out.lr htl
  have zt := H1.out.ft (t * 3 + 2)
  obtain ⟨W2, hW2⟩ : ∃ W2, W2 = (w1.alloc (.cells #[.string ⟨#[102, 101, 110, 99, 101]⟩, .int .i64 xa, .int .i64 xb, .int .i64 xc, .string xt] 75)).drew := ⟨_, rfl⟩
  have b2 : Below w1.heap.size w1 W2 := by rw [hW2]; exact ((Below.refl _ _).alloc (Nat.le_refl _) _).drew
  have q0 : W2.cell? ⟨w1.heap.size, 0, none⟩ = some (.string ⟨#[102, 101, 110, 99, 101]⟩) := by rw [hW2]; simp
  have q1 : W2.cell? ⟨w1.heap.size, 1, none⟩ = some (.int .i64 xa) := by rw [hW2]; simp
  have q2 : W2.cell? ⟨w1.heap.size, 2, none⟩ = some (.int .i64 xb) := by rw [hW2]; simp
  have q3 : W2.cell? ⟨w1.heap.size, 3, none⟩ = some (.int .i64 xc) := by rw [hW2]; simp
  have q4 : W2.cell? ⟨w1.heap.size, 4, none⟩ = some (.string xt) := by rw [hW2]; simp
  have lW2 : w1.heap.size < W2.heap.size := World.block_lt_of_cell? _ _ q0
  clear HIN HIN1 had
  go_wp2_with fail
  go_region
  rw [← hW2]
  have B2 := below_step hb1 b2
  have H2 := hide (H.out.below B2)
  replace hT := H2.out.mT
  replace hA := H2.out.tAt t htl
  replace hR := H2.out.tRegs t htl
  replace hC := keep_cell b2 hC
  replace zt := H2.out.ft (t * 3 + 2)
  have dk := H2.out.d1
  have dr1 := (H2.out.d2 t htl).1
  have dr2 := (H2.out.d2 t htl).2
  have G2 : Hid (Stg cs p m.mem w w1.heap.size p.rp p.mv m W2) := hide (Stg.first H.out B2 hb1.size lW2)
  obtain ⟨nk, nt, nr⟩ := G2.out.ne
  replace nr := nr t htl
  have lk2 : p.k < W2.heap.size := by omega
  have lt2 : p.tb < W2.heap.size := by omega
  have lr2 : p.rb t < W2.heap.size := by omega
  obtain ⟨W3, hW3⟩ : ∃ W3, W3 = W2.setCell ⟨p.tb, t * 3 + 2, none⟩ (.int .i64 ((m.pc t : Int) + 1)) := ⟨_, rfl⟩
  have S3 : Hid (RkStep cs p m.mem W2 p.rp p.mv (m.setPc t (m.pc t + 1)) W3) := hide (by rw [hW3]; exact H2.out.setPc htl (m.pc t + 1))
  have G3 : Hid (Stg cs p m.mem w w1.heap.size p.rp p.mv (m.setPc t (m.pc t + 1)) W3) := hide (G2.out.trans S3.out)
  have HM3 : Hid (RkAt cs p (m.setPc t (m.pc t + 1)) W3) := hide G3.out.step.at'
  have HX3 : Hid (RkX cs p (m.setPc t (m.pc t + 1)) K W3) := hide ⟨HM3.out, HX.out.ok.setPc t (by omega), HX.out.right, HX.out.hK⟩
  have y0 := G2.out.keep S3.out q0
  have y1 := G2.out.keep S3.out q1
  have y2 := G2.out.keep S3.out q2
  have y3 := G2.out.keep S3.out q3
  have y4 := G2.out.keep S3.out q4
  have T3 := HM3.out.mT
  have R3 := HM3.out.tRegs t htl
  have k3 := HM3.out.mM
  have lW3 : w1.heap.size < W3.heap.size := G3.out.lt
  have G0 : Hid (∀ r, r < 8 → W2.cell? ⟨p.rb t, r, none⟩ = some (.int .i64 (m.regs t r)) ∧ W2.frozen? ⟨p.rb t, r, none⟩ = false) := fun r hr => ⟨H2.out.regs t r htl hr, H2.out.fr t r htl⟩
  clear H2 c0 c1 c2 c3 c4 hb1 b2 B2 hW2 G2 S3 H1 lcb
  clear G0
  have HF := hide (rkfence_any htl HM3.out (HX3.out.waits htl) (HX3.out.few htl) (by have := HX3.out.faults; omega))
  clear HM3 HX3
  go_wp2_with fail
  rw [← hW3]
  clear hT hA hR hC zt q0 q1 q2 q3 q4 lW2 lk2 lt2 lr2 hW3
  refine HF.out.mono ?_
  rintro e w4 ⟨rfl, r, hk⟩
  have HS := hide (G3.out.step.trans hk)
  clear HF hk G3 y0 y1 y2 y3 y4 T3 R3 k3
  go_wp2
  go_ret
  exact ⟨rfl, _, _, by rw [HM'.out]; exact HS.out⟩
end Go.Proofs.YtdpmnlbnlnmjbaaGreatDoor

/- RkH -/
namespace Go.Proofs.YtdpmnlbnlnmjbaaGreatDoor
open Go.RowKit Go.Extern.Stop Go.Stop Go.Extern Go.Sort

set_option maxRecDepth 20000 in
set_option maxHeartbeats 2000000 in
theorem rstep_goto {cs : List (List Ins)} {p : RkPl} {m : Mk} {K t : Nat} {w : World} (D : RkX cs p m K w) {L : List Ins} (ht : cs[t]? = some L) {x : Ins} (hx : L[m.pc t]? = some x) (e : x.op = ⟨#[103, 111, 116, 111]⟩) {L' : Nat} (hl : labelAt L x.to = L') :
    Calls Tryz.prog 25 #[.pointer (some ⟨p.k, 0, none⟩), .int .i64 t] w fun e w' => e = .returned (.int .i64 0) ∧ ∃ r v, RkStep cs p m.mem w r v (m.step L t) w' := by
  have hM : m.step L t = (m.setPc t (m.pc t + 1)).exec L t x := by unfold Mk.step; rw [hx]
  obtain ⟨M', hM'⟩ : ∃ M', M' = (m.setPc t (m.pc t + 1)).exec L t x := ⟨_, rfl⟩
  rw [hM, ← hM']
  rw [exec_goto (m.setPc t (m.pc t + 1)) L t e] at hM'
  clear hM
  have HD := hide (rdone_at ht hx D.at')
  obtain ⟨xo, xa, xb, xc, xt⟩ := x
  dsimp only at e hl hM' ⊢
  subst e
  have HM' := hide hM'
  clear hM'
  have HLL := hide hl
  clear hl
  have htl := lt_of_get ht
  have h6 := D.at'.few
  have hpl := lt_of_get hx
  have hL2 := (D.right.right t L ht).1
  have hcap := D.at'.tcap
  have hcc := D.at'.ccap t L ht
  have ti : (t : Int) < cs.length := by omega
  have t6 : (t : Int) < 6 := by omega
  have pi : (m.pc t : Int) < L.length := by omega
  have hpc2 : m.pc t ≤ 2000 := D.ok.pcs t
  have hpw := wrapNext hpc2
  have hpw2 := wrapNext2 hpc2
  have hr8 := D.at'.rcap t htl
  have HIN := hide (D.at'.rc.code ht)
  have HX := hide D
  have H := hide D.at'
  have d0 : decide ((t : Int) < 0) = false := by simp
  have hT := H.out.mT
  clear D
  go_enter Tryz.func25, Tryz.ntmps25
  go_wp2_with fail
  refine HD.out.mono ?_
  rintro e w1 ⟨rfl, hb1⟩
  clear HD hT
  have H1 := hide (H.out.below hb1)
  have HIN1 := hide (insAt_below HIN.out hb1)
  have hT := H1.out.mT
  have hA := H1.out.tAt t htl
  have hC := H1.out.tCode t L ht
  have hR := H1.out.tRegs t htl
  obtain ⟨cb, off, had, c0, c1, c2, c3, c4⟩ := HIN1.out _ _ hx
  dsimp only at c0 c1 c2 c3 c4
  rw [had] at hC
  have lcb : cb < w1.heap.size := World.block_lt_of_cell? _ _ c0
  have lk := H1.out.lk
  have lt := H1.out.lt'
  have lr := H1.out.lr htl
  have zt := H1.out.ft (t * 3 + 2)
  obtain ⟨W2, hW2⟩ : ∃ W2, W2 = (w1.alloc (.cells #[.string ⟨#[103, 111, 116, 111]⟩, .int .i64 xa, .int .i64 xb, .int .i64 xc, .string xt] 75)).drew := ⟨_, rfl⟩
  have b2 : Below w1.heap.size w1 W2 := by rw [hW2]; exact ((Below.refl _ _).alloc (Nat.le_refl _) _).drew
  have q0 : W2.cell? ⟨w1.heap.size, 0, none⟩ = some (.string ⟨#[103, 111, 116, 111]⟩) := by rw [hW2]; simp
  have q1 : W2.cell? ⟨w1.heap.size, 1, none⟩ = some (.int .i64 xa) := by rw [hW2]; simp
  have q2 : W2.cell? ⟨w1.heap.size, 2, none⟩ = some (.int .i64 xb) := by rw [hW2]; simp
  have q3 : W2.cell? ⟨w1.heap.size, 3, none⟩ = some (.int .i64 xc) := by rw [hW2]; simp
  have q4 : W2.cell? ⟨w1.heap.size, 4, none⟩ = some (.string xt) := by rw [hW2]; simp
  have lW2 : w1.heap.size < W2.heap.size := World.block_lt_of_cell? _ _ q0
  clear HIN HIN1 had
  go_wp2_with fail
  go_region
  rw [← hW2]
  have B2 := below_step hb1 b2
  have H2 := hide (H.out.below B2)
  replace hT := H2.out.mT
  replace hA := H2.out.tAt t htl
  replace hR := H2.out.tRegs t htl
  replace hC := keep_cell b2 hC
  replace zt := H2.out.ft (t * 3 + 2)
  have dk := H2.out.d1
  have dr1 := (H2.out.d2 t htl).1
  have dr2 := (H2.out.d2 t htl).2
  have G2 : Hid (Stg cs p m.mem w w1.heap.size p.rp p.mv m W2) := hide (Stg.first H.out B2 hb1.size lW2)
  obtain ⟨nk, nt, nr⟩ := G2.out.ne
  replace nr := nr t htl
  have lk2 : p.k < W2.heap.size := by omega
  have lt2 : p.tb < W2.heap.size := by omega
  have lr2 : p.rb t < W2.heap.size := by omega
  obtain ⟨W3, hW3⟩ : ∃ W3, W3 = W2.setCell ⟨p.tb, t * 3 + 2, none⟩ (.int .i64 ((m.pc t : Int) + 1)) := ⟨_, rfl⟩
  have S3 : Hid (RkStep cs p m.mem W2 p.rp p.mv (m.setPc t (m.pc t + 1)) W3) := hide (by rw [hW3]; exact H2.out.setPc htl (m.pc t + 1))
  have G3 : Hid (Stg cs p m.mem w w1.heap.size p.rp p.mv (m.setPc t (m.pc t + 1)) W3) := hide (G2.out.trans S3.out)
  have HM3 : Hid (RkAt cs p (m.setPc t (m.pc t + 1)) W3) := hide G3.out.step.at'
  have HX3 : Hid (RkX cs p (m.setPc t (m.pc t + 1)) K W3) := hide ⟨HM3.out, HX.out.ok.setPc t (by omega), HX.out.right, HX.out.hK⟩
  have y0 := G2.out.keep S3.out q0
  have y1 := G2.out.keep S3.out q1
  have y2 := G2.out.keep S3.out q2
  have y3 := G2.out.keep S3.out q3
  have y4 := G2.out.keep S3.out q4
  have T3 := HM3.out.mT
  have R3 := HM3.out.tRegs t htl
  have k3 := HM3.out.mM
  have lW3 : w1.heap.size < W3.heap.size := G3.out.lt
  have G0 : Hid (∀ r, r < 8 → W2.cell? ⟨p.rb t, r, none⟩ = some (.int .i64 (m.regs t r)) ∧ W2.frozen? ⟨p.rb t, r, none⟩ = false) := fun r hr => ⟨H2.out.regs t r htl hr, H2.out.fr t r htl⟩
  clear H2 c0 c1 c2 c3 c4 hb1 b2 B2 hW2 G2 S3 H1 lcb
  clear G0
  have hl := HLL.out
  have HLB : Hid (∀ w', Below W3.heap.size W3 w' → Calls Tryz.prog 62 #[.slice (p.ad t) L.length (p.cc t), .string xt] w' fun e w'' => e = .returned (.int .i64 L') ∧ w'' = w') := fun w' hb => by rw [← hl]; exact labelAt_any (p.ad t) (p.cc t) L xt w' (by omega) (insAt_below (HM3.out.rc.code ht) hb)
  have C3 : W3.cell? ⟨p.tb, t * 3, none⟩ = some (.slice (p.ad t) L.length (p.cc t)) := HM3.out.tCode t L ht
  have P3 : W3.cell? ⟨p.tb, t * 3 + 2, none⟩ = some (.int .i64 ((m.pc t : Int) + 1)) := (HM3.out.tAt t htl).trans (by simp [Mk.setPc])
  have z3 : W3.frozen? ⟨p.tb, t * 3 + 2, none⟩ = false := HM3.out.ft _
  have HJ : Hid ((m.setPc t (m.pc t + 1)).jump t L xt = (m.setPc t (m.pc t + 1)).setPc t L') := by show _ = _; unfold Mk.jump; rw [hl, Int.toNat_natCast]
  clear hl
  have HS := hide (G3.out.trans ((HM3.out.setPc htl L').below (Below.refl _ _).drew))
  have HM2 := HM'.out
  rw [HJ.out] at HM2
  replace HM' := hide HM2
  clear HM2
  clear G3 HM3 HX3 HJ
  go_wp2_with fail
  rw [← hW3]
  clear hT hA hR hC zt q0 q1 q2 q3 q4 lW2 lk2 lt2 lr2 hW3
  refine wp_region_F (S := (fun w' => w'.cell? ⟨p.k, 1, none⟩ = some (.slice (some ⟨p.tb, 0, none⟩) cs.length p.tcap) ∧ w'.cell? ⟨p.tb, t * 3, none⟩ = some (.slice (p.ad t) L.length (p.cc t)) ∧ w'.cell? ⟨w1.heap.size, 4, none⟩ = some (.string xt) ∧ w'.cell? ⟨p.tb, t * 3 + 2, none⟩ = some (.int .i64 ((m.pc t : Int) + 1)))) (by kernel_rfl) (by (try dsimp only); go_keep) (fun hHeld => ?_)
  refine' wpAnyF_take (i := 0) (n := 18) (v := _) rfl (by kernel_rfl) (fun _ _ _ h => h) (by assumption) (Or.inl ⟨by rfl, ?hy42⟩) ?rest42
  case' hy42 => (intro w' hSw; (try dsimp only at hSw); go_simp; try with_reducible rfl)
  try simp only [Act.put, List.getElem_toArray, List.getElem_cons_zero, List.setIfInBounds_toArray, List.set_cons_zero, List.set_cons_succ]
  refine' wpAnyF_take (i := 1) (n := 18) (v := _) rfl (by kernel_rfl) (fun _ _ _ h => h) (by assumption) (Or.inl ⟨by rfl, ?hy43⟩) ?rest43
  case' hy43 => (intro w' hSw; (try dsimp only at hSw); go_simp; try with_reducible rfl)
  try simp only [Act.put, List.getElem_toArray, List.getElem_cons_zero, List.getElem_cons_succ, List.setIfInBounds_toArray, List.set_cons_zero, List.set_cons_succ]
  refine' wpAnyF_take (i := 2) (n := 18) (v := _) rfl (by kernel_rfl) (fun _ _ _ h => h) (by assumption) (Or.inl ⟨by rfl, ?hy44⟩) ?rest44
  case' hy44 => (intro w' hSw; (try dsimp only at hSw); go_simp; try with_reducible rfl)
  try simp only [Act.put, List.getElem_toArray, List.getElem_cons_zero, List.getElem_cons_succ, List.setIfInBounds_toArray, List.set_cons_zero, List.set_cons_succ]
  refine' wpAnyF_take (i := 3) (n := 18) (v := _) rfl (by kernel_rfl) (fun _ _ _ h => h) (by assumption) (Or.inl ⟨by rfl, ?hy45⟩) ?rest45
  case' hy45 => (intro w' hSw; (try dsimp only at hSw); go_simp; try with_reducible rfl)
  try simp only [Act.put, List.getElem_toArray, List.getElem_cons_zero, List.getElem_cons_succ, List.setIfInBounds_toArray, List.set_cons_zero, List.set_cons_succ]
  refine' wpAnyF_take (i := 4) (n := 18) (v := _) rfl (by kernel_rfl) (fun _ _ _ h => h) (by assumption) (Or.inl ⟨by rfl, ?hy46⟩) ?rest46
  case' hy46 => (intro w' hSw; (try dsimp only at hSw); go_simp; try with_reducible rfl)
  try simp only [Act.put, List.getElem_toArray, List.getElem_cons_zero, List.getElem_cons_succ, List.setIfInBounds_toArray, List.set_cons_zero, List.set_cons_succ]
  refine' wpAnyF_take (i := 5) (n := 18) (v := _) rfl (by kernel_rfl) (fun _ _ _ h => h) (by assumption) (Or.inl ⟨by rfl, ?hy47⟩) ?rest47
  case' hy47 => (intro w' hSw; (try dsimp only at hSw); go_simp; try with_reducible rfl)
  try simp only [Act.put, List.getElem_toArray, List.getElem_cons_zero, List.getElem_cons_succ, List.setIfInBounds_toArray, List.set_cons_zero, List.set_cons_succ]
  refine' wpAnyF_take (i := 6) (n := 18) (v := _) rfl (by kernel_rfl) (fun _ _ _ h => h) (by assumption) (Or.inl ⟨by rfl, ?hy48⟩) ?rest48
  case' hy48 => (intro w' hSw; (try dsimp only at hSw); go_simp; try with_reducible rfl)
  try simp only [Act.put, List.getElem_toArray, List.getElem_cons_zero, List.getElem_cons_succ, List.setIfInBounds_toArray, List.set_cons_zero, List.set_cons_succ]
  refine' wpAnyF_take (i := 7) (n := 18) (v := _) rfl (by kernel_rfl) (fun _ _ _ h => h) (by assumption) (Or.inl ⟨by rfl, ?hy49⟩) ?rest49
  case' hy49 => (intro w' hSw; (try dsimp only at hSw); go_simp; try with_reducible rfl)
  try simp only [Act.put, List.getElem_toArray, List.getElem_cons_zero, List.getElem_cons_succ, List.setIfInBounds_toArray, List.set_cons_zero, List.set_cons_succ]
  refine' wpAnyF_take (i := 8) (n := 18) (v := _) rfl (by kernel_rfl) (fun _ _ _ h => h) (by assumption) (Or.inl ⟨by rfl, ?hy50⟩) ?rest50
  case' hy50 => (intro w' hSw; (try dsimp only at hSw); go_simp; try with_reducible rfl)
  try simp only [Act.put, List.getElem_toArray, List.getElem_cons_zero, List.getElem_cons_succ, List.setIfInBounds_toArray, List.set_cons_zero, List.set_cons_succ]
  refine' wpAnyF_take (i := 9) (n := 18) (v := _) rfl (by kernel_rfl) (fun _ _ _ h => h) (by assumption) (Or.inl ⟨by rfl, ?hy51⟩) ?rest51
  case' hy51 => (intro w' hSw; (try dsimp only at hSw); go_simp; try with_reducible rfl)
  try simp only [Act.put, List.getElem_toArray, List.getElem_cons_zero, List.getElem_cons_succ, List.setIfInBounds_toArray, List.set_cons_zero, List.set_cons_succ]
  refine' wpAnyF_take (i := 10) (n := 18) (v := _) rfl (by kernel_rfl) (fun _ _ _ h => h) (by assumption) (Or.inl ⟨by rfl, ?hy52⟩) ?rest52
  case' hy52 => (intro w' hSw; (try dsimp only at hSw); go_simp; try with_reducible rfl)
  try simp only [Act.put, List.getElem_toArray, List.getElem_cons_zero, List.getElem_cons_succ, List.setIfInBounds_toArray, List.set_cons_zero, List.set_cons_succ]
  refine' wpAnyF_take (i := 11) (n := 18) (v := _) rfl (by kernel_rfl) (fun _ _ _ h => h) (by assumption) (Or.inl ⟨by rfl, ?hy53⟩) ?rest53
  case' hy53 => (intro w' hSw; (try dsimp only at hSw); go_simp; try with_reducible rfl)
  try simp only [Act.put, List.getElem_toArray, List.getElem_cons_zero, List.getElem_cons_succ, List.setIfInBounds_toArray, List.set_cons_zero, List.set_cons_succ]
  refine' wpAnyF_take (i := 12) (n := 18) (v := _) rfl (by kernel_rfl) (fun _ _ _ h => h) (by assumption) (Or.inl ⟨by rfl, ?hy54⟩) ?rest54
  case' hy54 => (intro w' hSw; (try dsimp only at hSw); go_simp; try with_reducible rfl)
  try simp only [Act.put, List.getElem_toArray, List.getElem_cons_zero, List.getElem_cons_succ, List.setIfInBounds_toArray, List.set_cons_zero, List.set_cons_succ]
  refine' wpAnyF_take (i := 13) (n := 18) (v := _) rfl (by kernel_rfl) (fun _ _ _ h => h) (by assumption) (Or.inl ⟨by rfl, ?hy55⟩) ?rest55
  case' hy55 => (intro w' hSw; (try dsimp only at hSw); go_simp; try with_reducible rfl)
  try simp only [Act.put, List.getElem_toArray, List.getElem_cons_zero, List.getElem_cons_succ, List.setIfInBounds_toArray, List.set_cons_zero, List.set_cons_succ]
  refine' wpAnyF_take (i := 14) (n := 18) (v := _) rfl (by kernel_rfl) (fun _ _ _ h => h) (by assumption) (Or.inl ⟨by rfl, ?hy56⟩) ?rest56
  case' hy56 => (intro w' hSw; (try dsimp only at hSw); go_simp; try with_reducible rfl)
  try simp only [Act.put, List.getElem_toArray, List.getElem_cons_zero, List.getElem_cons_succ, List.setIfInBounds_toArray, List.set_cons_zero, List.set_cons_succ]
  refine wpAnyF_only (i := 15) rfl (by kernel_rfl) (fun K hK => ?_)
  go_simp
  go_at_call 62
  refine (HLB.out _ (Below.drewN' 1)).mono ?_
  rintro e w4 ⟨rfl, rfl⟩
  dsimp only
  refine hK.out _ _ (Or.inr (by (try dsimp only); exact hHeld)) ?_
  clear hK K
  try simp only [Act.put, List.getElem_toArray, List.getElem_cons_zero, List.getElem_cons_succ, List.setIfInBounds_toArray, List.set_cons_zero, List.set_cons_succ]
  refine' wpAnyF_take (i := 16) (n := 18) (v := _) rfl (by kernel_rfl) (fun _ _ _ h => h) (by assumption) (Or.inl ⟨by rfl, ?hy57⟩) ?rest57
  case' hy57 => (intro w' hSw; (try dsimp only at hSw); go_simp; try with_reducible rfl)
  try simp only [Act.put, List.getElem_toArray, List.getElem_cons_zero, List.getElem_cons_succ, List.setIfInBounds_toArray, List.set_cons_zero, List.set_cons_succ]
  refine' wpAnyF_take (i := 17) (n := 18) (v := _) rfl (by kernel_rfl) (fun _ _ _ h => h) (by assumption) (Or.inl ⟨by rfl, ?hy58⟩) ?rest58
  case' hy58 => (intro w' hSw; (try dsimp only at hSw); go_simp; try with_reducible rfl)
  try simp only [Act.put, List.getElem_toArray, List.getElem_cons_zero, List.getElem_cons_succ, List.setIfInBounds_toArray, List.set_cons_zero, List.set_cons_succ]
  clear hHeld
  refine wpAnyF_only (i := 18) rfl (by kernel_rfl) (fun K hK => ?_)
  go_simp
  refine hK.out _ _ (Or.inl (by kernel_rfl)) ?_
  clear hK K
  try simp only [Act.put, List.getElem_toArray, List.getElem_cons_zero, List.getElem_cons_succ, List.setIfInBounds_toArray, List.set_cons_zero, List.set_cons_succ]
  refine wpAnyF_done (by kernel_rfl) ?_ _
  go_wp2
  go_ret
  exact ⟨rfl, _, _, by rw [HM'.out]; exact HS.out.step⟩

set_option maxRecDepth 20000 in
set_option maxHeartbeats 2000000 in
theorem rstep_zero {cs : List (List Ins)} {p : RkPl} {m : Mk} {K t : Nat} {w : World} (D : RkX cs p m K w) {L : List Ins} (ht : cs[t]? = some L) {x : Ins} (hx : L[m.pc t]? = some x) (e : x.op = ⟨#[122, 101, 114, 111]⟩) {i : Nat} (hi : i < 8) (ei : x.a = i) {L' : Nat} (hl : labelAt L x.to = L') :
    Calls Tryz.prog 25 #[.pointer (some ⟨p.k, 0, none⟩), .int .i64 t] w fun e w' => e = .returned (.int .i64 0) ∧ ∃ r v, RkStep cs p m.mem w r v (m.step L t) w' := by
  have hM : m.step L t = (m.setPc t (m.pc t + 1)).exec L t x := by unfold Mk.step; rw [hx]
  obtain ⟨M', hM'⟩ : ∃ M', M' = (m.setPc t (m.pc t + 1)).exec L t x := ⟨_, rfl⟩
  rw [hM, ← hM']
  rw [exec_zero (m.setPc t (m.pc t + 1)) L t e] at hM'
  clear hM
  rw [ei] at hM'
  simp only [Int.toNat_natCast] at hM'
  simp only [show ∀ r, (m.setPc t (m.pc t + 1)).regs t r = m.regs t r from fun _ => rfl] at hM'
  have HD := hide (rdone_at ht hx D.at')
  obtain ⟨xo, xa, xb, xc, xt⟩ := x
  dsimp only at e ei hl hM' ⊢
  subst e ei
  have HM' := hide hM'
  clear hM'
  have HLL := hide hl
  clear hl
  have htl := lt_of_get ht
  have h6 := D.at'.few
  have hpl := lt_of_get hx
  have hL2 := (D.right.right t L ht).1
  have hcap := D.at'.tcap
  have hcc := D.at'.ccap t L ht
  have ti : (t : Int) < cs.length := by omega
  have t6 : (t : Int) < 6 := by omega
  have pi : (m.pc t : Int) < L.length := by omega
  have hpc2 : m.pc t ≤ 2000 := D.ok.pcs t
  have hpw := wrapNext hpc2
  have hpw2 := wrapNext2 hpc2
  have hr8 := D.at'.rcap t htl
  have li : (i : Int) < 8 := by omega
  have HIN := hide (D.at'.rc.code ht)
  have HX := hide D
  have H := hide D.at'
  have d0 : decide ((t : Int) < 0) = false := by simp
  have hT := H.out.mT
  clear D
  go_enter Tryz.func25, Tryz.ntmps25
  go_wp2_with fail
  refine HD.out.mono ?_
  rintro e w1 ⟨rfl, hb1⟩
  clear HD hT
  have H1 := hide (H.out.below hb1)
  have HIN1 := hide (insAt_below HIN.out hb1)
  have hT := H1.out.mT
  have hA := H1.out.tAt t htl
  have hC := H1.out.tCode t L ht
  have hR := H1.out.tRegs t htl
  obtain ⟨cb, off, had, c0, c1, c2, c3, c4⟩ := HIN1.out _ _ hx
  dsimp only at c0 c1 c2 c3 c4
  rw [had] at hC
  have lcb : cb < w1.heap.size := World.block_lt_of_cell? _ _ c0
  have lk := H1.out.lk
  have lt := H1.out.lt'
  have lr := H1.out.lr htl
  have zt := H1.out.ft (t * 3 + 2)
  obtain ⟨W2, hW2⟩ : ∃ W2, W2 = (w1.alloc (.cells #[.string ⟨#[122, 101, 114, 111]⟩, .int .i64 i, .int .i64 xb, .int .i64 xc, .string xt] 75)).drew := ⟨_, rfl⟩
  have b2 : Below w1.heap.size w1 W2 := by rw [hW2]; exact ((Below.refl _ _).alloc (Nat.le_refl _) _).drew
  have q0 : W2.cell? ⟨w1.heap.size, 0, none⟩ = some (.string ⟨#[122, 101, 114, 111]⟩) := by rw [hW2]; simp
  have q1 : W2.cell? ⟨w1.heap.size, 1, none⟩ = some (.int .i64 i) := by rw [hW2]; simp
  have q2 : W2.cell? ⟨w1.heap.size, 2, none⟩ = some (.int .i64 xb) := by rw [hW2]; simp
  have q3 : W2.cell? ⟨w1.heap.size, 3, none⟩ = some (.int .i64 xc) := by rw [hW2]; simp
  have q4 : W2.cell? ⟨w1.heap.size, 4, none⟩ = some (.string xt) := by rw [hW2]; simp
  have lW2 : w1.heap.size < W2.heap.size := World.block_lt_of_cell? _ _ q0
  clear HIN HIN1 had
  go_wp2_with fail
  go_region
  rw [← hW2]
  have B2 := below_step hb1 b2
  have H2 := hide (H.out.below B2)
  replace hT := H2.out.mT
  replace hA := H2.out.tAt t htl
  replace hR := H2.out.tRegs t htl
  replace hC := keep_cell b2 hC
  replace zt := H2.out.ft (t * 3 + 2)
  have dk := H2.out.d1
  have dr1 := (H2.out.d2 t htl).1
  have dr2 := (H2.out.d2 t htl).2
  have G2 : Hid (Stg cs p m.mem w w1.heap.size p.rp p.mv m W2) := hide (Stg.first H.out B2 hb1.size lW2)
  obtain ⟨nk, nt, nr⟩ := G2.out.ne
  replace nr := nr t htl
  have lk2 : p.k < W2.heap.size := by omega
  have lt2 : p.tb < W2.heap.size := by omega
  have lr2 : p.rb t < W2.heap.size := by omega
  obtain ⟨W3, hW3⟩ : ∃ W3, W3 = W2.setCell ⟨p.tb, t * 3 + 2, none⟩ (.int .i64 ((m.pc t : Int) + 1)) := ⟨_, rfl⟩
  have S3 : Hid (RkStep cs p m.mem W2 p.rp p.mv (m.setPc t (m.pc t + 1)) W3) := hide (by rw [hW3]; exact H2.out.setPc htl (m.pc t + 1))
  have G3 : Hid (Stg cs p m.mem w w1.heap.size p.rp p.mv (m.setPc t (m.pc t + 1)) W3) := hide (G2.out.trans S3.out)
  have HM3 : Hid (RkAt cs p (m.setPc t (m.pc t + 1)) W3) := hide G3.out.step.at'
  have HX3 : Hid (RkX cs p (m.setPc t (m.pc t + 1)) K W3) := hide ⟨HM3.out, HX.out.ok.setPc t (by omega), HX.out.right, HX.out.hK⟩
  have y0 := G2.out.keep S3.out q0
  have y1 := G2.out.keep S3.out q1
  have y2 := G2.out.keep S3.out q2
  have y3 := G2.out.keep S3.out q3
  have y4 := G2.out.keep S3.out q4
  have T3 := HM3.out.mT
  have R3 := HM3.out.tRegs t htl
  have k3 := HM3.out.mM
  have lW3 : w1.heap.size < W3.heap.size := G3.out.lt
  have G0 : Hid (∀ r, r < 8 → W2.cell? ⟨p.rb t, r, none⟩ = some (.int .i64 (m.regs t r)) ∧ W2.frozen? ⟨p.rb t, r, none⟩ = false) := fun r hr => ⟨H2.out.regs t r htl hr, H2.out.fr t r htl⟩
  clear H2 c0 c1 c2 c3 c4 hb1 b2 B2 hW2 G2 S3 H1 lcb
  obtain ⟨fi, fzi⟩ := G0.out i (by omega)
  have gi : W3.cell? ⟨p.rb t, i, none⟩ = some (.int .i64 (m.regs t i)) := HM3.out.regs t i htl (by omega)
  clear G0
  have hl := HLL.out
  have HLB : Hid (∀ w', Below W3.heap.size W3 w' → Calls Tryz.prog 62 #[.slice (p.ad t) L.length (p.cc t), .string xt] w' fun e w'' => e = .returned (.int .i64 L') ∧ w'' = w') := fun w' hb => by rw [← hl]; exact labelAt_any (p.ad t) (p.cc t) L xt w' (by omega) (insAt_below (HM3.out.rc.code ht) hb)
  have C3 : W3.cell? ⟨p.tb, t * 3, none⟩ = some (.slice (p.ad t) L.length (p.cc t)) := HM3.out.tCode t L ht
  have P3 : W3.cell? ⟨p.tb, t * 3 + 2, none⟩ = some (.int .i64 ((m.pc t : Int) + 1)) := (HM3.out.tAt t htl).trans (by simp [Mk.setPc])
  have z3 : W3.frozen? ⟨p.tb, t * 3 + 2, none⟩ = false := HM3.out.ft _
  have HJ : Hid ((m.setPc t (m.pc t + 1)).jump t L xt = (m.setPc t (m.pc t + 1)).setPc t L') := by show _ = _; unfold Mk.jump; rw [hl, Int.toNat_natCast]
  clear hl
  by_cases h0 : m.regs t i = 0
  · have HM2 := HM'.out
    rw [if_pos h0, HJ.out] at HM2
    replace HM' := hide HM2
    clear HM2
    have HS := hide (G3.out.trans ((HM3.out.setPc htl L').below (Below.refl _ _).drew))
    rw [h0] at fi gi
    clear G3 HM3 HX3 HJ h0
    go_wp2_with fail
    rw [← hW3]
    clear hT hA hR hC zt q0 q1 q2 q3 q4 lW2 lk2 lt2 lr2 hW3
    refine wp_region_F (S := (fun w' => w'.cell? ⟨p.k, 1, none⟩ = some (.slice (some ⟨p.tb, 0, none⟩) cs.length p.tcap) ∧ w'.cell? ⟨p.tb, t * 3, none⟩ = some (.slice (p.ad t) L.length (p.cc t)) ∧ w'.cell? ⟨w1.heap.size, 4, none⟩ = some (.string xt) ∧ w'.cell? ⟨p.tb, t * 3 + 2, none⟩ = some (.int .i64 ((m.pc t : Int) + 1)))) (by kernel_rfl) (by (try dsimp only); go_keep) (fun hHeld => ?_)
    refine' wpAnyF_take (i := 0) (n := 18) (v := _) rfl (by kernel_rfl) (fun _ _ _ h => h) (by assumption) (Or.inl ⟨by rfl, ?hy59⟩) ?rest59
    case' hy59 => (intro w' hSw; (try dsimp only at hSw); go_simp; try with_reducible rfl)
    try simp only [Act.put, List.getElem_toArray, List.getElem_cons_zero, List.setIfInBounds_toArray, List.set_cons_zero, List.set_cons_succ]
    refine' wpAnyF_take (i := 1) (n := 18) (v := _) rfl (by kernel_rfl) (fun _ _ _ h => h) (by assumption) (Or.inl ⟨by rfl, ?hy60⟩) ?rest60
    case' hy60 => (intro w' hSw; (try dsimp only at hSw); go_simp; try with_reducible rfl)
    try simp only [Act.put, List.getElem_toArray, List.getElem_cons_zero, List.getElem_cons_succ, List.setIfInBounds_toArray, List.set_cons_zero, List.set_cons_succ]
    refine' wpAnyF_take (i := 2) (n := 18) (v := _) rfl (by kernel_rfl) (fun _ _ _ h => h) (by assumption) (Or.inl ⟨by rfl, ?hy61⟩) ?rest61
    case' hy61 => (intro w' hSw; (try dsimp only at hSw); go_simp; try with_reducible rfl)
    try simp only [Act.put, List.getElem_toArray, List.getElem_cons_zero, List.getElem_cons_succ, List.setIfInBounds_toArray, List.set_cons_zero, List.set_cons_succ]
    refine' wpAnyF_take (i := 3) (n := 18) (v := _) rfl (by kernel_rfl) (fun _ _ _ h => h) (by assumption) (Or.inl ⟨by rfl, ?hy62⟩) ?rest62
    case' hy62 => (intro w' hSw; (try dsimp only at hSw); go_simp; try with_reducible rfl)
    try simp only [Act.put, List.getElem_toArray, List.getElem_cons_zero, List.getElem_cons_succ, List.setIfInBounds_toArray, List.set_cons_zero, List.set_cons_succ]
    refine' wpAnyF_take (i := 4) (n := 18) (v := _) rfl (by kernel_rfl) (fun _ _ _ h => h) (by assumption) (Or.inl ⟨by rfl, ?hy63⟩) ?rest63
    case' hy63 => (intro w' hSw; (try dsimp only at hSw); go_simp; try with_reducible rfl)
    try simp only [Act.put, List.getElem_toArray, List.getElem_cons_zero, List.getElem_cons_succ, List.setIfInBounds_toArray, List.set_cons_zero, List.set_cons_succ]
    refine' wpAnyF_take (i := 5) (n := 18) (v := _) rfl (by kernel_rfl) (fun _ _ _ h => h) (by assumption) (Or.inl ⟨by rfl, ?hy64⟩) ?rest64
    case' hy64 => (intro w' hSw; (try dsimp only at hSw); go_simp; try with_reducible rfl)
    try simp only [Act.put, List.getElem_toArray, List.getElem_cons_zero, List.getElem_cons_succ, List.setIfInBounds_toArray, List.set_cons_zero, List.set_cons_succ]
    refine' wpAnyF_take (i := 6) (n := 18) (v := _) rfl (by kernel_rfl) (fun _ _ _ h => h) (by assumption) (Or.inl ⟨by rfl, ?hy65⟩) ?rest65
    case' hy65 => (intro w' hSw; (try dsimp only at hSw); go_simp; try with_reducible rfl)
    try simp only [Act.put, List.getElem_toArray, List.getElem_cons_zero, List.getElem_cons_succ, List.setIfInBounds_toArray, List.set_cons_zero, List.set_cons_succ]
    refine' wpAnyF_take (i := 7) (n := 18) (v := _) rfl (by kernel_rfl) (fun _ _ _ h => h) (by assumption) (Or.inl ⟨by rfl, ?hy66⟩) ?rest66
    case' hy66 => (intro w' hSw; (try dsimp only at hSw); go_simp; try with_reducible rfl)
    try simp only [Act.put, List.getElem_toArray, List.getElem_cons_zero, List.getElem_cons_succ, List.setIfInBounds_toArray, List.set_cons_zero, List.set_cons_succ]
    refine' wpAnyF_take (i := 8) (n := 18) (v := _) rfl (by kernel_rfl) (fun _ _ _ h => h) (by assumption) (Or.inl ⟨by rfl, ?hy67⟩) ?rest67
    case' hy67 => (intro w' hSw; (try dsimp only at hSw); go_simp; try with_reducible rfl)
    try simp only [Act.put, List.getElem_toArray, List.getElem_cons_zero, List.getElem_cons_succ, List.setIfInBounds_toArray, List.set_cons_zero, List.set_cons_succ]
    refine' wpAnyF_take (i := 9) (n := 18) (v := _) rfl (by kernel_rfl) (fun _ _ _ h => h) (by assumption) (Or.inl ⟨by rfl, ?hy68⟩) ?rest68
    case' hy68 => (intro w' hSw; (try dsimp only at hSw); go_simp; try with_reducible rfl)
    try simp only [Act.put, List.getElem_toArray, List.getElem_cons_zero, List.getElem_cons_succ, List.setIfInBounds_toArray, List.set_cons_zero, List.set_cons_succ]
    refine' wpAnyF_take (i := 10) (n := 18) (v := _) rfl (by kernel_rfl) (fun _ _ _ h => h) (by assumption) (Or.inl ⟨by rfl, ?hy69⟩) ?rest69
    case' hy69 => (intro w' hSw; (try dsimp only at hSw); go_simp; try with_reducible rfl)
    try simp only [Act.put, List.getElem_toArray, List.getElem_cons_zero, List.getElem_cons_succ, List.setIfInBounds_toArray, List.set_cons_zero, List.set_cons_succ]
    refine' wpAnyF_take (i := 11) (n := 18) (v := _) rfl (by kernel_rfl) (fun _ _ _ h => h) (by assumption) (Or.inl ⟨by rfl, ?hy70⟩) ?rest70
    case' hy70 => (intro w' hSw; (try dsimp only at hSw); go_simp; try with_reducible rfl)
    try simp only [Act.put, List.getElem_toArray, List.getElem_cons_zero, List.getElem_cons_succ, List.setIfInBounds_toArray, List.set_cons_zero, List.set_cons_succ]
    refine' wpAnyF_take (i := 12) (n := 18) (v := _) rfl (by kernel_rfl) (fun _ _ _ h => h) (by assumption) (Or.inl ⟨by rfl, ?hy71⟩) ?rest71
    case' hy71 => (intro w' hSw; (try dsimp only at hSw); go_simp; try with_reducible rfl)
    try simp only [Act.put, List.getElem_toArray, List.getElem_cons_zero, List.getElem_cons_succ, List.setIfInBounds_toArray, List.set_cons_zero, List.set_cons_succ]
    refine' wpAnyF_take (i := 13) (n := 18) (v := _) rfl (by kernel_rfl) (fun _ _ _ h => h) (by assumption) (Or.inl ⟨by rfl, ?hy72⟩) ?rest72
    case' hy72 => (intro w' hSw; (try dsimp only at hSw); go_simp; try with_reducible rfl)
    try simp only [Act.put, List.getElem_toArray, List.getElem_cons_zero, List.getElem_cons_succ, List.setIfInBounds_toArray, List.set_cons_zero, List.set_cons_succ]
    refine' wpAnyF_take (i := 14) (n := 18) (v := _) rfl (by kernel_rfl) (fun _ _ _ h => h) (by assumption) (Or.inl ⟨by rfl, ?hy73⟩) ?rest73
    case' hy73 => (intro w' hSw; (try dsimp only at hSw); go_simp; try with_reducible rfl)
    try simp only [Act.put, List.getElem_toArray, List.getElem_cons_zero, List.getElem_cons_succ, List.setIfInBounds_toArray, List.set_cons_zero, List.set_cons_succ]
    refine wpAnyF_only (i := 15) rfl (by kernel_rfl) (fun K hK => ?_)
    go_simp
    go_at_call 62
    refine (HLB.out _ (Below.drewN' 1)).mono ?_
    rintro e w4 ⟨rfl, rfl⟩
    dsimp only
    refine hK.out _ _ (Or.inr (by (try dsimp only); exact hHeld)) ?_
    clear hK K
    try simp only [Act.put, List.getElem_toArray, List.getElem_cons_zero, List.getElem_cons_succ, List.setIfInBounds_toArray, List.set_cons_zero, List.set_cons_succ]
    refine' wpAnyF_take (i := 16) (n := 18) (v := _) rfl (by kernel_rfl) (fun _ _ _ h => h) (by assumption) (Or.inl ⟨by rfl, ?hy74⟩) ?rest74
    case' hy74 => (intro w' hSw; (try dsimp only at hSw); go_simp; try with_reducible rfl)
    try simp only [Act.put, List.getElem_toArray, List.getElem_cons_zero, List.getElem_cons_succ, List.setIfInBounds_toArray, List.set_cons_zero, List.set_cons_succ]
    refine' wpAnyF_take (i := 17) (n := 18) (v := _) rfl (by kernel_rfl) (fun _ _ _ h => h) (by assumption) (Or.inl ⟨by rfl, ?hy75⟩) ?rest75
    case' hy75 => (intro w' hSw; (try dsimp only at hSw); go_simp; try with_reducible rfl)
    try simp only [Act.put, List.getElem_toArray, List.getElem_cons_zero, List.getElem_cons_succ, List.setIfInBounds_toArray, List.set_cons_zero, List.set_cons_succ]
    clear hHeld
    refine wpAnyF_only (i := 18) rfl (by kernel_rfl) (fun K hK => ?_)
    go_simp
    refine hK.out _ _ (Or.inl (by kernel_rfl)) ?_
    clear hK K
    try simp only [Act.put, List.getElem_toArray, List.getElem_cons_zero, List.getElem_cons_succ, List.setIfInBounds_toArray, List.set_cons_zero, List.set_cons_succ]
    refine wpAnyF_done (by kernel_rfl) ?_ _
    go_wp2
    go_ret
    exact ⟨rfl, _, _, by rw [HM'.out]; exact HS.out.step⟩
  · have HM2 := HM'.out
    rw [if_neg h0] at HM2
    replace HM' := hide HM2
    clear HM2
    have HS := hide G3.out.step
    rw [hW3] at HS
    clear G3 HM3 HX3 HJ HLB
    generalize m.regs t i = Ri at *
    go_wp2
    go_ret
    exact ⟨rfl, _, _, by rw [HM'.out]; exact HS.out⟩

set_option maxRecDepth 20000 in
set_option maxHeartbeats 2000000 in
theorem rstep_same {cs : List (List Ins)} {p : RkPl} {m : Mk} {K t : Nat} {w : World} (D : RkX cs p m K w) {L : List Ins} (ht : cs[t]? = some L) {x : Ins} (hx : L[m.pc t]? = some x) (e : x.op = ⟨#[115, 97, 109, 101]⟩) {i : Nat} (hi : i < 8) (ei : x.a = i) {j : Nat} (hj : j < 8) (ej : x.b = j) {L' : Nat} (hl : labelAt L x.to = L') :
    Calls Tryz.prog 25 #[.pointer (some ⟨p.k, 0, none⟩), .int .i64 t] w fun e w' => e = .returned (.int .i64 0) ∧ ∃ r v, RkStep cs p m.mem w r v (m.step L t) w' := by
  have hM : m.step L t = (m.setPc t (m.pc t + 1)).exec L t x := by unfold Mk.step; rw [hx]
  obtain ⟨M', hM'⟩ : ∃ M', M' = (m.setPc t (m.pc t + 1)).exec L t x := ⟨_, rfl⟩
  rw [hM, ← hM']
  rw [exec_same (m.setPc t (m.pc t + 1)) L t e] at hM'
  clear hM
  rw [ei] at hM'
  rw [ej] at hM'
  simp only [Int.toNat_natCast] at hM'
  simp only [show ∀ r, (m.setPc t (m.pc t + 1)).regs t r = m.regs t r from fun _ => rfl] at hM'
  have HD := hide (rdone_at ht hx D.at')
  obtain ⟨xo, xa, xb, xc, xt⟩ := x
  dsimp only at e ei ej hl hM' ⊢
  subst e ei ej
  have HM' := hide hM'
  clear hM'
  have HLL := hide hl
  clear hl
  have htl := lt_of_get ht
  have h6 := D.at'.few
  have hpl := lt_of_get hx
  have hL2 := (D.right.right t L ht).1
  have hcap := D.at'.tcap
  have hcc := D.at'.ccap t L ht
  have ti : (t : Int) < cs.length := by omega
  have t6 : (t : Int) < 6 := by omega
  have pi : (m.pc t : Int) < L.length := by omega
  have hpc2 : m.pc t ≤ 2000 := D.ok.pcs t
  have hpw := wrapNext hpc2
  have hpw2 := wrapNext2 hpc2
  have hr8 := D.at'.rcap t htl
  have li : (i : Int) < 8 := by omega
  have lj : (j : Int) < 8 := by omega
  have HIN := hide (D.at'.rc.code ht)
  have HX := hide D
  have H := hide D.at'
  have d0 : decide ((t : Int) < 0) = false := by simp
  have hT := H.out.mT
  clear D
  go_enter Tryz.func25, Tryz.ntmps25
  go_wp2_with fail
  refine HD.out.mono ?_
  rintro e w1 ⟨rfl, hb1⟩
  clear HD hT
  have H1 := hide (H.out.below hb1)
  have HIN1 := hide (insAt_below HIN.out hb1)
  have hT := H1.out.mT
  have hA := H1.out.tAt t htl
  have hC := H1.out.tCode t L ht
  have hR := H1.out.tRegs t htl
  obtain ⟨cb, off, had, c0, c1, c2, c3, c4⟩ := HIN1.out _ _ hx
  dsimp only at c0 c1 c2 c3 c4
  rw [had] at hC
  have lcb : cb < w1.heap.size := World.block_lt_of_cell? _ _ c0
  have lk := H1.out.lk
  have lt := H1.out.lt'
  have lr := H1.out.lr htl
  have zt := H1.out.ft (t * 3 + 2)
  obtain ⟨W2, hW2⟩ : ∃ W2, W2 = (w1.alloc (.cells #[.string ⟨#[115, 97, 109, 101]⟩, .int .i64 i, .int .i64 j, .int .i64 xc, .string xt] 75)).drew := ⟨_, rfl⟩
  have b2 : Below w1.heap.size w1 W2 := by rw [hW2]; exact ((Below.refl _ _).alloc (Nat.le_refl _) _).drew
  have q0 : W2.cell? ⟨w1.heap.size, 0, none⟩ = some (.string ⟨#[115, 97, 109, 101]⟩) := by rw [hW2]; simp
  have q1 : W2.cell? ⟨w1.heap.size, 1, none⟩ = some (.int .i64 i) := by rw [hW2]; simp
  have q2 : W2.cell? ⟨w1.heap.size, 2, none⟩ = some (.int .i64 j) := by rw [hW2]; simp
  have q3 : W2.cell? ⟨w1.heap.size, 3, none⟩ = some (.int .i64 xc) := by rw [hW2]; simp
  have q4 : W2.cell? ⟨w1.heap.size, 4, none⟩ = some (.string xt) := by rw [hW2]; simp
  have lW2 : w1.heap.size < W2.heap.size := World.block_lt_of_cell? _ _ q0
  clear HIN HIN1 had
  go_wp2_with fail
  go_region
  rw [← hW2]
  have B2 := below_step hb1 b2
  have H2 := hide (H.out.below B2)
  replace hT := H2.out.mT
  replace hA := H2.out.tAt t htl
  replace hR := H2.out.tRegs t htl
  replace hC := keep_cell b2 hC
  replace zt := H2.out.ft (t * 3 + 2)
  have dk := H2.out.d1
  have dr1 := (H2.out.d2 t htl).1
  have dr2 := (H2.out.d2 t htl).2
  have G2 : Hid (Stg cs p m.mem w w1.heap.size p.rp p.mv m W2) := hide (Stg.first H.out B2 hb1.size lW2)
  obtain ⟨nk, nt, nr⟩ := G2.out.ne
  replace nr := nr t htl
  have lk2 : p.k < W2.heap.size := by omega
  have lt2 : p.tb < W2.heap.size := by omega
  have lr2 : p.rb t < W2.heap.size := by omega
  obtain ⟨W3, hW3⟩ : ∃ W3, W3 = W2.setCell ⟨p.tb, t * 3 + 2, none⟩ (.int .i64 ((m.pc t : Int) + 1)) := ⟨_, rfl⟩
  have S3 : Hid (RkStep cs p m.mem W2 p.rp p.mv (m.setPc t (m.pc t + 1)) W3) := hide (by rw [hW3]; exact H2.out.setPc htl (m.pc t + 1))
  have G3 : Hid (Stg cs p m.mem w w1.heap.size p.rp p.mv (m.setPc t (m.pc t + 1)) W3) := hide (G2.out.trans S3.out)
  have HM3 : Hid (RkAt cs p (m.setPc t (m.pc t + 1)) W3) := hide G3.out.step.at'
  have HX3 : Hid (RkX cs p (m.setPc t (m.pc t + 1)) K W3) := hide ⟨HM3.out, HX.out.ok.setPc t (by omega), HX.out.right, HX.out.hK⟩
  have y0 := G2.out.keep S3.out q0
  have y1 := G2.out.keep S3.out q1
  have y2 := G2.out.keep S3.out q2
  have y3 := G2.out.keep S3.out q3
  have y4 := G2.out.keep S3.out q4
  have T3 := HM3.out.mT
  have R3 := HM3.out.tRegs t htl
  have k3 := HM3.out.mM
  have lW3 : w1.heap.size < W3.heap.size := G3.out.lt
  have G0 : Hid (∀ r, r < 8 → W2.cell? ⟨p.rb t, r, none⟩ = some (.int .i64 (m.regs t r)) ∧ W2.frozen? ⟨p.rb t, r, none⟩ = false) := fun r hr => ⟨H2.out.regs t r htl hr, H2.out.fr t r htl⟩
  clear H2 c0 c1 c2 c3 c4 hb1 b2 B2 hW2 G2 S3 H1 lcb
  obtain ⟨fi, fzi⟩ := G0.out i (by omega)
  have gi : W3.cell? ⟨p.rb t, i, none⟩ = some (.int .i64 (m.regs t i)) := HM3.out.regs t i htl (by omega)
  obtain ⟨fj, fzj⟩ := G0.out j (by omega)
  have gj : W3.cell? ⟨p.rb t, j, none⟩ = some (.int .i64 (m.regs t j)) := HM3.out.regs t j htl (by omega)
  clear G0
  have hl := HLL.out
  have HLB : Hid (∀ w', Below W3.heap.size W3 w' → Calls Tryz.prog 62 #[.slice (p.ad t) L.length (p.cc t), .string xt] w' fun e w'' => e = .returned (.int .i64 L') ∧ w'' = w') := fun w' hb => by rw [← hl]; exact labelAt_any (p.ad t) (p.cc t) L xt w' (by omega) (insAt_below (HM3.out.rc.code ht) hb)
  have C3 : W3.cell? ⟨p.tb, t * 3, none⟩ = some (.slice (p.ad t) L.length (p.cc t)) := HM3.out.tCode t L ht
  have P3 : W3.cell? ⟨p.tb, t * 3 + 2, none⟩ = some (.int .i64 ((m.pc t : Int) + 1)) := (HM3.out.tAt t htl).trans (by simp [Mk.setPc])
  have z3 : W3.frozen? ⟨p.tb, t * 3 + 2, none⟩ = false := HM3.out.ft _
  have HJ : Hid ((m.setPc t (m.pc t + 1)).jump t L xt = (m.setPc t (m.pc t + 1)).setPc t L') := by show _ = _; unfold Mk.jump; rw [hl, Int.toNat_natCast]
  clear hl
  by_cases h0 : m.regs t i = m.regs t j
  · have HM2 := HM'.out
    rw [if_pos h0, HJ.out] at HM2
    replace HM' := hide HM2
    clear HM2
    have HS : Hid (∀ n, Stg cs p m.mem w w1.heap.size p.rp p.mv ((m.setPc t (m.pc t + 1)).setPc t L') (((W3.drewN n).setCell ⟨p.tb, t * 3 + 2, none⟩ (.int .i64 L')).drew)) := fun n => (G3.out.below (Below.drewN' n)).trans (((HM3.out.drewN n).setPc htl L').below (Below.refl _ _).drew)
    rw [h0] at fi gi
    clear G3 HM3 HX3 HJ h0
    generalize m.regs t j = Rj at *
    go_wp2_with fail
    rw [← hW3]
    clear hT hA hR hC zt q0 q1 q2 q3 q4 lW2 lk2 lt2 lr2 hW3
    go_quiet (fail)
    replace y4 : (W3.drewN nq).cell? ⟨w1.heap.size, 4, none⟩ = some (.string xt) := y4
    replace T3 : (W3.drewN nq).cell? ⟨p.k, 1, none⟩ = some (.slice (some ⟨p.tb, 0, none⟩) cs.length p.tcap) := T3
    replace C3 : (W3.drewN nq).cell? ⟨p.tb, t * 3, none⟩ = some (.slice (p.ad t) L.length (p.cc t)) := C3
    replace P3 : (W3.drewN nq).cell? ⟨p.tb, t * 3 + 2, none⟩ = some (.int .i64 ((m.pc t : Int) + 1)) := P3
    replace z3 : (W3.drewN nq).frozen? ⟨p.tb, t * 3 + 2, none⟩ = false := z3
    have HLB4 : Hid (∀ w', Below (W3.drewN nq).heap.size (W3.drewN nq) w' → Calls Tryz.prog 62 #[.slice (p.ad t) L.length (p.cc t), .string xt] w' fun e w'' => e = .returned (.int .i64 L') ∧ w'' = w') := fun w' hb => HLB.out w' (below_step (Below.drewN' nq) hb)
    have HS2 := hide (HS.out nq)
    clear HS HLB y0 y1 y2 y3 R3 k3 gi gj
    have HLB := HLB4
    clear HLB4
    generalize W3.drewN nq = W4 at *
    go_wp2_with fail
    refine wp_region_F (S := (fun w' => w'.cell? ⟨p.k, 1, none⟩ = some (.slice (some ⟨p.tb, 0, none⟩) cs.length p.tcap) ∧ w'.cell? ⟨p.tb, t * 3, none⟩ = some (.slice (p.ad t) L.length (p.cc t)) ∧ w'.cell? ⟨w1.heap.size, 4, none⟩ = some (.string xt) ∧ w'.cell? ⟨p.tb, t * 3 + 2, none⟩ = some (.int .i64 ((m.pc t : Int) + 1)))) (by kernel_rfl) (by (try dsimp only); go_keep) (fun hHeld => ?_)
    refine' wpAnyF_take (i := 0) (n := 18) (v := _) rfl (by kernel_rfl) (fun _ _ _ h => h) (by assumption) (Or.inl ⟨by rfl, ?hy76⟩) ?rest76
    case' hy76 => (intro w' hSw; (try dsimp only at hSw); go_simp; try with_reducible rfl)
    try simp only [Act.put, List.getElem_toArray, List.getElem_cons_zero, List.setIfInBounds_toArray, List.set_cons_zero, List.set_cons_succ]
    refine' wpAnyF_take (i := 1) (n := 18) (v := _) rfl (by kernel_rfl) (fun _ _ _ h => h) (by assumption) (Or.inl ⟨by rfl, ?hy77⟩) ?rest77
    case' hy77 => (intro w' hSw; (try dsimp only at hSw); go_simp; try with_reducible rfl)
    try simp only [Act.put, List.getElem_toArray, List.getElem_cons_zero, List.getElem_cons_succ, List.setIfInBounds_toArray, List.set_cons_zero, List.set_cons_succ]
    refine' wpAnyF_take (i := 2) (n := 18) (v := _) rfl (by kernel_rfl) (fun _ _ _ h => h) (by assumption) (Or.inl ⟨by rfl, ?hy78⟩) ?rest78
    case' hy78 => (intro w' hSw; (try dsimp only at hSw); go_simp; try with_reducible rfl)
    try simp only [Act.put, List.getElem_toArray, List.getElem_cons_zero, List.getElem_cons_succ, List.setIfInBounds_toArray, List.set_cons_zero, List.set_cons_succ]
    refine' wpAnyF_take (i := 3) (n := 18) (v := _) rfl (by kernel_rfl) (fun _ _ _ h => h) (by assumption) (Or.inl ⟨by rfl, ?hy79⟩) ?rest79
    case' hy79 => (intro w' hSw; (try dsimp only at hSw); go_simp; try with_reducible rfl)
    try simp only [Act.put, List.getElem_toArray, List.getElem_cons_zero, List.getElem_cons_succ, List.setIfInBounds_toArray, List.set_cons_zero, List.set_cons_succ]
    refine' wpAnyF_take (i := 4) (n := 18) (v := _) rfl (by kernel_rfl) (fun _ _ _ h => h) (by assumption) (Or.inl ⟨by rfl, ?hy80⟩) ?rest80
    case' hy80 => (intro w' hSw; (try dsimp only at hSw); go_simp; try with_reducible rfl)
    try simp only [Act.put, List.getElem_toArray, List.getElem_cons_zero, List.getElem_cons_succ, List.setIfInBounds_toArray, List.set_cons_zero, List.set_cons_succ]
    refine' wpAnyF_take (i := 5) (n := 18) (v := _) rfl (by kernel_rfl) (fun _ _ _ h => h) (by assumption) (Or.inl ⟨by rfl, ?hy81⟩) ?rest81
    case' hy81 => (intro w' hSw; (try dsimp only at hSw); go_simp; try with_reducible rfl)
    try simp only [Act.put, List.getElem_toArray, List.getElem_cons_zero, List.getElem_cons_succ, List.setIfInBounds_toArray, List.set_cons_zero, List.set_cons_succ]
    refine' wpAnyF_take (i := 6) (n := 18) (v := _) rfl (by kernel_rfl) (fun _ _ _ h => h) (by assumption) (Or.inl ⟨by rfl, ?hy82⟩) ?rest82
    case' hy82 => (intro w' hSw; (try dsimp only at hSw); go_simp; try with_reducible rfl)
    try simp only [Act.put, List.getElem_toArray, List.getElem_cons_zero, List.getElem_cons_succ, List.setIfInBounds_toArray, List.set_cons_zero, List.set_cons_succ]
    refine' wpAnyF_take (i := 7) (n := 18) (v := _) rfl (by kernel_rfl) (fun _ _ _ h => h) (by assumption) (Or.inl ⟨by rfl, ?hy83⟩) ?rest83
    case' hy83 => (intro w' hSw; (try dsimp only at hSw); go_simp; try with_reducible rfl)
    try simp only [Act.put, List.getElem_toArray, List.getElem_cons_zero, List.getElem_cons_succ, List.setIfInBounds_toArray, List.set_cons_zero, List.set_cons_succ]
    refine' wpAnyF_take (i := 8) (n := 18) (v := _) rfl (by kernel_rfl) (fun _ _ _ h => h) (by assumption) (Or.inl ⟨by rfl, ?hy84⟩) ?rest84
    case' hy84 => (intro w' hSw; (try dsimp only at hSw); go_simp; try with_reducible rfl)
    try simp only [Act.put, List.getElem_toArray, List.getElem_cons_zero, List.getElem_cons_succ, List.setIfInBounds_toArray, List.set_cons_zero, List.set_cons_succ]
    refine' wpAnyF_take (i := 9) (n := 18) (v := _) rfl (by kernel_rfl) (fun _ _ _ h => h) (by assumption) (Or.inl ⟨by rfl, ?hy85⟩) ?rest85
    case' hy85 => (intro w' hSw; (try dsimp only at hSw); go_simp; try with_reducible rfl)
    try simp only [Act.put, List.getElem_toArray, List.getElem_cons_zero, List.getElem_cons_succ, List.setIfInBounds_toArray, List.set_cons_zero, List.set_cons_succ]
    refine' wpAnyF_take (i := 10) (n := 18) (v := _) rfl (by kernel_rfl) (fun _ _ _ h => h) (by assumption) (Or.inl ⟨by rfl, ?hy86⟩) ?rest86
    case' hy86 => (intro w' hSw; (try dsimp only at hSw); go_simp; try with_reducible rfl)
    try simp only [Act.put, List.getElem_toArray, List.getElem_cons_zero, List.getElem_cons_succ, List.setIfInBounds_toArray, List.set_cons_zero, List.set_cons_succ]
    refine' wpAnyF_take (i := 11) (n := 18) (v := _) rfl (by kernel_rfl) (fun _ _ _ h => h) (by assumption) (Or.inl ⟨by rfl, ?hy87⟩) ?rest87
    case' hy87 => (intro w' hSw; (try dsimp only at hSw); go_simp; try with_reducible rfl)
    try simp only [Act.put, List.getElem_toArray, List.getElem_cons_zero, List.getElem_cons_succ, List.setIfInBounds_toArray, List.set_cons_zero, List.set_cons_succ]
    refine' wpAnyF_take (i := 12) (n := 18) (v := _) rfl (by kernel_rfl) (fun _ _ _ h => h) (by assumption) (Or.inl ⟨by rfl, ?hy88⟩) ?rest88
    case' hy88 => (intro w' hSw; (try dsimp only at hSw); go_simp; try with_reducible rfl)
    try simp only [Act.put, List.getElem_toArray, List.getElem_cons_zero, List.getElem_cons_succ, List.setIfInBounds_toArray, List.set_cons_zero, List.set_cons_succ]
    refine' wpAnyF_take (i := 13) (n := 18) (v := _) rfl (by kernel_rfl) (fun _ _ _ h => h) (by assumption) (Or.inl ⟨by rfl, ?hy89⟩) ?rest89
    case' hy89 => (intro w' hSw; (try dsimp only at hSw); go_simp; try with_reducible rfl)
    try simp only [Act.put, List.getElem_toArray, List.getElem_cons_zero, List.getElem_cons_succ, List.setIfInBounds_toArray, List.set_cons_zero, List.set_cons_succ]
    refine' wpAnyF_take (i := 14) (n := 18) (v := _) rfl (by kernel_rfl) (fun _ _ _ h => h) (by assumption) (Or.inl ⟨by rfl, ?hy90⟩) ?rest90
    case' hy90 => (intro w' hSw; (try dsimp only at hSw); go_simp; try with_reducible rfl)
    try simp only [Act.put, List.getElem_toArray, List.getElem_cons_zero, List.getElem_cons_succ, List.setIfInBounds_toArray, List.set_cons_zero, List.set_cons_succ]
    refine wpAnyF_only (i := 15) rfl (by kernel_rfl) (fun K hK => ?_)
    go_simp
    go_at_call 62
    refine (HLB.out _ (Below.drewN' 1)).mono ?_
    rintro e w4 ⟨rfl, rfl⟩
    dsimp only
    refine hK.out _ _ (Or.inr (by (try dsimp only); exact hHeld)) ?_
    clear hK K
    try simp only [Act.put, List.getElem_toArray, List.getElem_cons_zero, List.getElem_cons_succ, List.setIfInBounds_toArray, List.set_cons_zero, List.set_cons_succ]
    refine' wpAnyF_take (i := 16) (n := 18) (v := _) rfl (by kernel_rfl) (fun _ _ _ h => h) (by assumption) (Or.inl ⟨by rfl, ?hy91⟩) ?rest91
    case' hy91 => (intro w' hSw; (try dsimp only at hSw); go_simp; try with_reducible rfl)
    try simp only [Act.put, List.getElem_toArray, List.getElem_cons_zero, List.getElem_cons_succ, List.setIfInBounds_toArray, List.set_cons_zero, List.set_cons_succ]
    refine' wpAnyF_take (i := 17) (n := 18) (v := _) rfl (by kernel_rfl) (fun _ _ _ h => h) (by assumption) (Or.inl ⟨by rfl, ?hy92⟩) ?rest92
    case' hy92 => (intro w' hSw; (try dsimp only at hSw); go_simp; try with_reducible rfl)
    try simp only [Act.put, List.getElem_toArray, List.getElem_cons_zero, List.getElem_cons_succ, List.setIfInBounds_toArray, List.set_cons_zero, List.set_cons_succ]
    clear hHeld
    refine wpAnyF_only (i := 18) rfl (by kernel_rfl) (fun K hK => ?_)
    go_simp
    refine hK.out _ _ (Or.inl (by kernel_rfl)) ?_
    clear hK K
    try simp only [Act.put, List.getElem_toArray, List.getElem_cons_zero, List.getElem_cons_succ, List.setIfInBounds_toArray, List.set_cons_zero, List.set_cons_succ]
    refine wpAnyF_done (by kernel_rfl) ?_ _
    go_wp2
    go_ret
    exact ⟨rfl, _, _, by rw [HM'.out]; exact HS2.out.step⟩
  · have HM2 := HM'.out
    rw [if_neg h0] at HM2
    replace HM' := hide HM2
    clear HM2
    have HS : Hid (∀ n, RkStep cs p m.mem w p.rp p.mv (m.setPc t (m.pc t + 1)) (W3.drewN n)) := fun n => G3.out.step.below (Below.drewN' n)
    have hb0 : (m.regs t i == m.regs t j) = false := beq_eq_false_iff_ne.2 h0
    clear G3 HM3 HX3 HJ HLB h0
    generalize m.regs t i = Ri at *
    generalize m.regs t j = Rj at *
    go_wp2_with fail
    rw [← hW3]
    clear hT hA hR hC zt q0 q1 q2 q3 q4 lW2 lk2 lt2 lr2 hW3
    go_quiet (fail)
    go_wp2
    go_ret
    exact ⟨rfl, _, _, by rw [HM'.out]; exact HS.out nq⟩
end Go.Proofs.YtdpmnlbnlnmjbaaGreatDoor
