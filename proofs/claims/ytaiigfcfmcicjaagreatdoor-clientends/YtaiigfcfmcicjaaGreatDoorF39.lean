import Derived.Test.YtaiigfcfmcicjaaGreatDoorF38
import Derived.Deep.RegionHeld3
import Derived.Test.YtaiigfcfmcicjaaGreatDoorF09
namespace Go.Proofs.YtaiigfcfmcicjaaGreatDoor
set_option maxRecDepth 100000
set_option maxHeartbeats 8000000
section
open Go.RowKit Go.Extern.Stop Go.Stop Go.Extern Go.Sort
variable {cs : List (List Ins)} {L : List Ins} {K t : Nat} {w : World} {p : RkPl} {i : Nat} {x : Ins} {m : Mk} {j : Nat}
theorem rstep_const (D : RkX cs p m K w) (ht : cs[t]? = some L) (hx : L[m.pc t]? = some x) (e : x.op = ⟨#[99, 111, 110, 115, 116]⟩) (hi : i < 8) (ei : x.a = i) :
  Calls Tryz.prog 47 #[.pointer (some ⟨p.k, 0, none⟩), .int .i64 t] w fun e w' => e = .returned (.int .i64 0) /\ ∃ r v, RkStep cs p m.mem w r v (m.step L t) w' := by
 have hM : m.step L t = (m.setPc t (m.pc t + 1)).exec L t x := by unfold Mk.step; rw [hx]
 obtain ⟨M', hM'⟩ : ∃ M', M' = (m.setPc t (m.pc t + 1)).exec L t x := ⟨_, rfl⟩
 rw [hM, <- hM']
 rw [exec_const (m.setPc t (m.pc t + 1)) L t e] at hM'
 clear hM
 rw [ei] at hM'
 simp only [Int.toNat_natCast] at hM'
 try simp only [show ∀ r, (m.setPc t (m.pc t + 1)).regs t r = m.regs t r from fun _ => rfl] at hM'
 have HD := hide (rdone_at ht hx D.at')
 obtain ⟨xo, xa, xb, xc, xt⟩ := x
 dsimp only at e ei hM' ⊢
 subst e ei
 have HM' := hide hM'
 clear hM'
 obtain ⟨htl, h6, hpl, hL2, hcap, hcc, ti, t6, pi, hpc2, hpw, hpw2, hr8, HIN, HX, H, d0, hT⟩ := pfx1 D ht hx
 have li : (i : Int) < 8 := by omega
 clear D
 go_enter Tryz.func47, Tryz.ntmps47
 go_wp2_with fail
 refine HD.out.mono ?_
 rintro e w1 ⟨rfl, hb1⟩
 clear HD hT
 obtain ⟨cb, off, H1, hT, hA, hR, had, c0, c1, c2, c3, c4, hC, lcb, lk, lt, lr, zt⟩ := pfx2 H HIN htl ht hx hb1
 dsimp only at c0 c1 c2 c3 c4
 obtain ⟨W2, hW2⟩ : ∃ W2, W2 = (w1.alloc (.cells #[.string ⟨#[99, 111, 110, 115, 116]⟩, .int .i64 i, .int .i64 xb, .int .i64 xc, .string xt] 101)).drew := ⟨_, rfl⟩
 obtain ⟨b2, q0, q1, q2, q3, q4, lW2⟩ := box5d hW2
 clear HIN had
 go_wp2_with fail
 go_region
 rw [<- hW2]
 have P := pfx3a H htl hb1 b2 lW2
 replace hC := keep_cell b2 hC
 clear hT hA hR zt
 obtain ⟨B2, H2, hT, hA, hR, zt, dk, dr1, dr2, G2, nk, nt, nr, lk2, lt2, lr2⟩ := P
 obtain ⟨W3, hW3, S3, G3, HM3, HX3, y0, y1, y2, y3, y4, T3, R3, k3, lW3, G0⟩ := pfx3b HX htl (by omega) H2 G2 q0 q1 q2 q3 q4
 clear H2 c0 c1 c2 c3 c4 hb1 b2 B2 hW2 G2 S3 H1 lcb
 obtain ⟨fi, fzi⟩ := G0.out i (by omega)
 have gi : W3.cell? ⟨p.rb t, i, none⟩ = some (.int .i64 (m.regs t i)) := HM3.out.regs t i htl (by omega)
 clear G0
 have HS := hide (G3.out.trans (HM3.out.setReg htl hi xb))
 rw [hW3] at HS
 clear G3 HM3 HX3
 go_wp2
 go_ret
 exact ⟨rfl, _, _, by rw [HM'.out]; exact HS.out.step⟩
theorem rstep_move (D : RkX cs p m K w) (ht : cs[t]? = some L) (hx : L[m.pc t]? = some x) (e : x.op = ⟨#[109, 111, 118, 101]⟩) (hi : i < 8) (ei : x.a = i) (hj : j < 8) (ej : x.b = j) :
  Calls Tryz.prog 47 #[.pointer (some ⟨p.k, 0, none⟩), .int .i64 t] w fun e w' => e = .returned (.int .i64 0) /\ ∃ r v, RkStep cs p m.mem w r v (m.step L t) w' := by
 have hM : m.step L t = (m.setPc t (m.pc t + 1)).exec L t x := by unfold Mk.step; rw [hx]
 obtain ⟨M', hM'⟩ : ∃ M', M' = (m.setPc t (m.pc t + 1)).exec L t x := ⟨_, rfl⟩
 rw [hM, <- hM']
 rw [exec_move (m.setPc t (m.pc t + 1)) L t e] at hM'
 clear hM
 rw [ei] at hM'
 rw [ej] at hM'
 simp only [Int.toNat_natCast] at hM'
 try simp only [show ∀ r, (m.setPc t (m.pc t + 1)).regs t r = m.regs t r from fun _ => rfl] at hM'
 have HD := hide (rdone_at ht hx D.at')
 obtain ⟨xo, xa, xb, xc, xt⟩ := x
 dsimp only at e ei ej hM' ⊢
 subst e ei ej
 have HM' := hide hM'
 clear hM'
 obtain ⟨htl, h6, hpl, hL2, hcap, hcc, ti, t6, pi, hpc2, hpw, hpw2, hr8, HIN, HX, H, d0, hT⟩ := pfx1 D ht hx
 have li : (i : Int) < 8 := by omega
 have lj : (j : Int) < 8 := by omega
 clear D
 go_enter Tryz.func47, Tryz.ntmps47
 go_wp2_with fail
 refine HD.out.mono ?_
 rintro e w1 ⟨rfl, hb1⟩
 clear HD hT
 obtain ⟨cb, off, H1, hT, hA, hR, had, c0, c1, c2, c3, c4, hC, lcb, lk, lt, lr, zt⟩ := pfx2 H HIN htl ht hx hb1
 dsimp only at c0 c1 c2 c3 c4
 obtain ⟨W2, hW2⟩ : ∃ W2, W2 = (w1.alloc (.cells #[.string ⟨#[109, 111, 118, 101]⟩, .int .i64 i, .int .i64 j, .int .i64 xc, .string xt] 101)).drew := ⟨_, rfl⟩
 obtain ⟨b2, q0, q1, q2, q3, q4, lW2⟩ := box5d hW2
 clear HIN had
 go_wp2_with fail
 go_region
 rw [<- hW2]
 have P := pfx3a H htl hb1 b2 lW2
 replace hC := keep_cell b2 hC
 clear hT hA hR zt
 obtain ⟨B2, H2, hT, hA, hR, zt, dk, dr1, dr2, G2, nk, nt, nr, lk2, lt2, lr2⟩ := P
 obtain ⟨W3, hW3, S3, G3, HM3, HX3, y0, y1, y2, y3, y4, T3, R3, k3, lW3, G0⟩ := pfx3b HX htl (by omega) H2 G2 q0 q1 q2 q3 q4
 clear H2 c0 c1 c2 c3 c4 hb1 b2 B2 hW2 G2 S3 H1 lcb
 obtain ⟨fi, fzi⟩ := G0.out i (by omega)
 have gi : W3.cell? ⟨p.rb t, i, none⟩ = some (.int .i64 (m.regs t i)) := HM3.out.regs t i htl (by omega)
 obtain ⟨fj, fzj⟩ := G0.out j (by omega)
 have gj : W3.cell? ⟨p.rb t, j, none⟩ = some (.int .i64 (m.regs t j)) := HM3.out.regs t j htl (by omega)
 clear G0
 have z3 : W3.frozen? ⟨p.rb t, i, none⟩ = false := HM3.out.fr t i htl
 have HS := hide (G3.out.trans ((HM3.out.setReg htl hi (m.regs t j)).below bRf.drew))
 clear G3 HM3 HX3
 generalize m.regs t i = Ri at *
 generalize m.regs t j = Rj at *
 go_wp2_with fail
 rw [<- hW3]
 clear hT hA hR hC zt q0 q1 q2 q3 q4 lW2 lk2 lt2 lr2 hW3
 refine wp_region_F (S := (fun w' => w'.cell? ⟨w1.heap.size, 1, none⟩ = some (.int .i64 i) /\ w'.cell? ⟨w1.heap.size, 2, none⟩ = some (.int .i64 j) /\ w'.cell? ⟨p.rb t, i, none⟩ = some (.int .i64 Ri) /\ w'.cell? ⟨p.rb t, j, none⟩ = some (.int .i64 Rj))) (by kernel_rfl) (by (try dsimp only); go_keep) (fun hHeld => ?_)
 iterate 9
  refine' wpAnyF_next (sz := 10) (n := 9) (v := _) rfl (by kernel_rfl) (fun _ _ _ h => h) (by assumption) (Or.inl ⟨by rfl, ?_⟩) ?_
  case' refine'_2 => (intro w' hSw; (try dsimp only at hSw); go_simp; try with_reducible rfl)
  try simp only [Act.put, fxs]
 clear hHeld
 refine wpAnyF_only (i := 9) rfl (by kernel_rfl) (fun K hK => ?_)
 go_simp
 refine hK.out _ _ (Or.inl (by kernel_rfl)) ?_
 clear hK K
 try simp only [Act.put, fxs]
 refine wpAnyF_done (by kernel_rfl) ?_ _
 go_wp2
 go_ret
 exact ⟨rfl, _, _, by rw [HM'.out]; exact HS.out.step⟩
theorem rstep_and (D : RkX cs p m K w) (ht : cs[t]? = some L) (hx : L[m.pc t]? = some x) (e : x.op = ⟨#[97, 110, 100]⟩) (hi : i < 8) (ei : x.a = i) (hj : j < 8) (ej : x.b = j) {k : Nat} (hk : k < 8) (ek : x.c = k) :
  Calls Tryz.prog 47 #[.pointer (some ⟨p.k, 0, none⟩), .int .i64 t] w fun e w' => e = .returned (.int .i64 0) /\ ∃ r v, RkStep cs p m.mem w r v (m.step L t) w' := by
 have hM : m.step L t = (m.setPc t (m.pc t + 1)).exec L t x := by unfold Mk.step; rw [hx]
 obtain ⟨M', hM'⟩ : ∃ M', M' = (m.setPc t (m.pc t + 1)).exec L t x := ⟨_, rfl⟩
 rw [hM, <- hM']
 rw [exec_and (m.setPc t (m.pc t + 1)) L t e] at hM'
 clear hM
 rw [ei] at hM'
 rw [ej] at hM'
 rw [ek] at hM'
 simp only [Int.toNat_natCast] at hM'
 try simp only [show ∀ r, (m.setPc t (m.pc t + 1)).regs t r = m.regs t r from fun _ => rfl] at hM'
 have HD := hide (rdone_at ht hx D.at')
 obtain ⟨xo, xa, xb, xc, xt⟩ := x
 dsimp only at e ei ej ek hM' ⊢
 subst e ei ej ek
 have HM' := hide hM'
 clear hM'
 obtain ⟨htl, h6, hpl, hL2, hcap, hcc, ti, t6, pi, hpc2, hpw, hpw2, hr8, HIN, HX, H, d0, hT⟩ := pfx1 D ht hx
 have li : (i : Int) < 8 := by omega
 have lj : (j : Int) < 8 := by omega
 have lk : (k : Int) < 8 := by omega
 clear D
 go_enter Tryz.func47, Tryz.ntmps47
 go_wp2_with fail
 refine HD.out.mono ?_
 rintro e w1 ⟨rfl, hb1⟩
 clear HD hT
 obtain ⟨cb, off, H1, hT, hA, hR, had, c0, c1, c2, c3, c4, hC, lcb, lk, lt, lr, zt⟩ := pfx2 H HIN htl ht hx hb1
 dsimp only at c0 c1 c2 c3 c4
 obtain ⟨W2, hW2⟩ : ∃ W2, W2 = (w1.alloc (.cells #[.string ⟨#[97, 110, 100]⟩, .int .i64 i, .int .i64 j, .int .i64 k, .string xt] 101)).drew := ⟨_, rfl⟩
 obtain ⟨b2, q0, q1, q2, q3, q4, lW2⟩ := box5d hW2
 clear HIN had
 go_wp2_with fail
 go_region
 rw [<- hW2]
 have P := pfx3a H htl hb1 b2 lW2
 replace hC := keep_cell b2 hC
 clear hT hA hR zt
 obtain ⟨B2, H2, hT, hA, hR, zt, dk, dr1, dr2, G2, nk, nt, nr, lk2, lt2, lr2⟩ := P
 obtain ⟨W3, hW3, S3, G3, HM3, HX3, y0, y1, y2, y3, y4, T3, R3, k3, lW3, G0⟩ := pfx3b HX htl (by omega) H2 G2 q0 q1 q2 q3 q4
 clear H2 c0 c1 c2 c3 c4 hb1 b2 B2 hW2 G2 S3 H1 lcb
 obtain ⟨fi, fzi⟩ := G0.out i (by omega)
 have gi : W3.cell? ⟨p.rb t, i, none⟩ = some (.int .i64 (m.regs t i)) := HM3.out.regs t i htl (by omega)
 obtain ⟨fj, fzj⟩ := G0.out j (by omega)
 have gj : W3.cell? ⟨p.rb t, j, none⟩ = some (.int .i64 (m.regs t j)) := HM3.out.regs t j htl (by omega)
 obtain ⟨fk, fzk⟩ := G0.out k (by omega)
 have gk : W3.cell? ⟨p.rb t, k, none⟩ = some (.int .i64 (m.regs t k)) := HM3.out.regs t k htl (by omega)
 clear G0
 have z3 : W3.frozen? ⟨p.rb t, i, none⟩ = false := HM3.out.fr t i htl
 have HB : Hid (∀ w', Calls Tryz.prog 70 #[.string ⟨#[97, 110, 100]⟩, .int .i64 (m.regs t j), .int .i64 (m.regs t k)] w' fun e w'' => e = .returned (.int .i64 (andW (m.regs t j) (m.regs t k))) /\ w'' = w') := fun w' => rbits_andW (HX3.out.ok.regs t j) (HX3.out.ok.regs t k) w'
 have HS := hide (G3.out.trans ((HM3.out.setReg htl hi (andW (m.regs t j) (m.regs t k))).below bRf.drew))
 clear G3 HM3 HX3
 generalize andW (m.regs t j) (m.regs t k) = V at *
 generalize m.regs t i = Ri at *
 generalize m.regs t j = Rj at *
 generalize m.regs t k = Rk at *
 go_wp2_with fail
 rw [<- hW3]
 clear hT hA hR hC zt q0 q1 q2 q3 q4 lW2 lk2 lt2 lr2 hW3
 refine wp_region_F (S := (fun w' => w'.cell? ⟨w1.heap.size, 0, none⟩ = some (.string ⟨#[97, 110, 100]⟩) /\ w'.cell? ⟨w1.heap.size, 1, none⟩ = some (.int .i64 i) /\ w'.cell? ⟨w1.heap.size, 2, none⟩ = some (.int .i64 j) /\ w'.cell? ⟨w1.heap.size, 3, none⟩ = some (.int .i64 k) /\ w'.cell? ⟨p.rb t, i, none⟩ = some (.int .i64 Ri) /\ w'.cell? ⟨p.rb t, j, none⟩ = some (.int .i64 Rj) /\ w'.cell? ⟨p.rb t, k, none⟩ = some (.int .i64 Rk))) (by kernel_rfl) (by (try dsimp only); go_keep) (fun hHeld => ?_)
 iterate 15
  refine' wpAnyF_next (sz := 18) (n := 17) (v := _) rfl (by kernel_rfl) (fun _ _ _ h => h) (by assumption) (Or.inl ⟨by rfl, ?_⟩) ?_
  case' refine'_2 => (intro w' hSw; (try dsimp only at hSw); go_simp; try with_reducible rfl)
  try simp only [Act.put, fxs]
 refine wpAnyF_only (i := 15) rfl (by kernel_rfl) (fun K hK => ?_)
 go_simp
 go_at_call 70
 refine (HB.out _).mono ?_
 rintro e w4 ⟨rfl, rfl⟩
 dsimp only
 refine hK.out _ _ (Or.inr (by (try dsimp only); exact hHeld)) ?_
 clear hK K
 try simp only [Act.put, fxs]
 refine' wpAnyF_take (i := 16) (n := 17) (v := _) rfl (by kernel_rfl) (fun _ _ _ h => h) (by assumption) (Or.inl ⟨by rfl, ?hy25⟩) ?rest25
 case' hy25 => (intro w' hSw; (try dsimp only at hSw); go_simp; try with_reducible rfl)
 try simp only [Act.put, fxs]
 clear hHeld
 refine wpAnyF_only (i := 17) rfl (by kernel_rfl) (fun K hK => ?_)
 go_simp
 refine hK.out _ _ (Or.inl (by kernel_rfl)) ?_
 clear hK K
 try simp only [Act.put, fxs]
 refine wpAnyF_done (by kernel_rfl) ?_ _
 go_wp2
 go_ret
 exact ⟨rfl, _, _, by rw [HM'.out]; exact HS.out.step⟩
theorem rstep_xor (D : RkX cs p m K w) (ht : cs[t]? = some L) (hx : L[m.pc t]? = some x) (e : x.op = ⟨#[120, 111, 114]⟩) (hi : i < 8) (ei : x.a = i) (hj : j < 8) (ej : x.b = j) {k : Nat} (hk : k < 8) (ek : x.c = k) :
  Calls Tryz.prog 47 #[.pointer (some ⟨p.k, 0, none⟩), .int .i64 t] w fun e w' => e = .returned (.int .i64 0) /\ ∃ r v, RkStep cs p m.mem w r v (m.step L t) w' := by
 have hM : m.step L t = (m.setPc t (m.pc t + 1)).exec L t x := by unfold Mk.step; rw [hx]
 obtain ⟨M', hM'⟩ : ∃ M', M' = (m.setPc t (m.pc t + 1)).exec L t x := ⟨_, rfl⟩
 rw [hM, <- hM']
 rw [exec_xor (m.setPc t (m.pc t + 1)) L t e] at hM'
 clear hM
 rw [ei] at hM'
 rw [ej] at hM'
 rw [ek] at hM'
 simp only [Int.toNat_natCast] at hM'
 try simp only [show ∀ r, (m.setPc t (m.pc t + 1)).regs t r = m.regs t r from fun _ => rfl] at hM'
 have HD := hide (rdone_at ht hx D.at')
 obtain ⟨xo, xa, xb, xc, xt⟩ := x
 dsimp only at e ei ej ek hM' ⊢
 subst e ei ej ek
 have HM' := hide hM'
 clear hM'
 obtain ⟨htl, h6, hpl, hL2, hcap, hcc, ti, t6, pi, hpc2, hpw, hpw2, hr8, HIN, HX, H, d0, hT⟩ := pfx1 D ht hx
 have li : (i : Int) < 8 := by omega
 have lj : (j : Int) < 8 := by omega
 have lk : (k : Int) < 8 := by omega
 clear D
 go_enter Tryz.func47, Tryz.ntmps47
 go_wp2_with fail
 refine HD.out.mono ?_
 rintro e w1 ⟨rfl, hb1⟩
 clear HD hT
 obtain ⟨cb, off, H1, hT, hA, hR, had, c0, c1, c2, c3, c4, hC, lcb, lk, lt, lr, zt⟩ := pfx2 H HIN htl ht hx hb1
 dsimp only at c0 c1 c2 c3 c4
 obtain ⟨W2, hW2⟩ : ∃ W2, W2 = (w1.alloc (.cells #[.string ⟨#[120, 111, 114]⟩, .int .i64 i, .int .i64 j, .int .i64 k, .string xt] 101)).drew := ⟨_, rfl⟩
 obtain ⟨b2, q0, q1, q2, q3, q4, lW2⟩ := box5d hW2
 clear HIN had
 go_wp2_with fail
 go_region
 rw [<- hW2]
 have P := pfx3a H htl hb1 b2 lW2
 replace hC := keep_cell b2 hC
 clear hT hA hR zt
 obtain ⟨B2, H2, hT, hA, hR, zt, dk, dr1, dr2, G2, nk, nt, nr, lk2, lt2, lr2⟩ := P
 obtain ⟨W3, hW3, S3, G3, HM3, HX3, y0, y1, y2, y3, y4, T3, R3, k3, lW3, G0⟩ := pfx3b HX htl (by omega) H2 G2 q0 q1 q2 q3 q4
 clear H2 c0 c1 c2 c3 c4 hb1 b2 B2 hW2 G2 S3 H1 lcb
 obtain ⟨fi, fzi⟩ := G0.out i (by omega)
 have gi : W3.cell? ⟨p.rb t, i, none⟩ = some (.int .i64 (m.regs t i)) := HM3.out.regs t i htl (by omega)
 obtain ⟨fj, fzj⟩ := G0.out j (by omega)
 have gj : W3.cell? ⟨p.rb t, j, none⟩ = some (.int .i64 (m.regs t j)) := HM3.out.regs t j htl (by omega)
 obtain ⟨fk, fzk⟩ := G0.out k (by omega)
 have gk : W3.cell? ⟨p.rb t, k, none⟩ = some (.int .i64 (m.regs t k)) := HM3.out.regs t k htl (by omega)
 clear G0
 have z3 : W3.frozen? ⟨p.rb t, i, none⟩ = false := HM3.out.fr t i htl
 have HB : Hid (∀ w', Calls Tryz.prog 70 #[.string ⟨#[120, 111, 114]⟩, .int .i64 (m.regs t j), .int .i64 (m.regs t k)] w' fun e w'' => e = .returned (.int .i64 (xorW (m.regs t j) (m.regs t k))) /\ w'' = w') := fun w' => rbits_xorW (HX3.out.ok.regs t j) (HX3.out.ok.regs t k) w'
 have HS := hide (G3.out.trans ((HM3.out.setReg htl hi (xorW (m.regs t j) (m.regs t k))).below bRf.drew))
 clear G3 HM3 HX3
 generalize xorW (m.regs t j) (m.regs t k) = V at *
 generalize m.regs t i = Ri at *
 generalize m.regs t j = Rj at *
 generalize m.regs t k = Rk at *
 go_wp2_with fail
 rw [<- hW3]
 clear hT hA hR hC zt q0 q1 q2 q3 q4 lW2 lk2 lt2 lr2 hW3
 refine wp_region_F (S := (fun w' => w'.cell? ⟨w1.heap.size, 0, none⟩ = some (.string ⟨#[120, 111, 114]⟩) /\ w'.cell? ⟨w1.heap.size, 1, none⟩ = some (.int .i64 i) /\ w'.cell? ⟨w1.heap.size, 2, none⟩ = some (.int .i64 j) /\ w'.cell? ⟨w1.heap.size, 3, none⟩ = some (.int .i64 k) /\ w'.cell? ⟨p.rb t, i, none⟩ = some (.int .i64 Ri) /\ w'.cell? ⟨p.rb t, j, none⟩ = some (.int .i64 Rj) /\ w'.cell? ⟨p.rb t, k, none⟩ = some (.int .i64 Rk))) (by kernel_rfl) (by (try dsimp only); go_keep) (fun hHeld => ?_)
 iterate 15
  refine' wpAnyF_next (sz := 18) (n := 17) (v := _) rfl (by kernel_rfl) (fun _ _ _ h => h) (by assumption) (Or.inl ⟨by rfl, ?_⟩) ?_
  case' refine'_2 => (intro w' hSw; (try dsimp only at hSw); go_simp; try with_reducible rfl)
  try simp only [Act.put, fxs]
 refine wpAnyF_only (i := 15) rfl (by kernel_rfl) (fun K hK => ?_)
 go_simp
 go_at_call 70
 refine (HB.out _).mono ?_
 rintro e w4 ⟨rfl, rfl⟩
 dsimp only
 refine hK.out _ _ (Or.inr (by (try dsimp only); exact hHeld)) ?_
 clear hK K
 try simp only [Act.put, fxs]
 refine' wpAnyF_take (i := 16) (n := 17) (v := _) rfl (by kernel_rfl) (fun _ _ _ h => h) (by assumption) (Or.inl ⟨by rfl, ?hy41⟩) ?rest41
 case' hy41 => (intro w' hSw; (try dsimp only at hSw); go_simp; try with_reducible rfl)
 try simp only [Act.put, fxs]
 clear hHeld
 refine wpAnyF_only (i := 17) rfl (by kernel_rfl) (fun K hK => ?_)
 go_simp
 refine hK.out _ _ (Or.inl (by kernel_rfl)) ?_
 clear hK K
 try simp only [Act.put, fxs]
 refine wpAnyF_done (by kernel_rfl) ?_ _
 go_wp2
 go_ret
 exact ⟨rfl, _, _, by rw [HM'.out]; exact HS.out.step⟩
end
end Go.Proofs.YtaiigfcfmcicjaaGreatDoor
