import Derived.Test.YtaiigfcfmcicjaaGreatDoorF38
import Derived.Deep.RegionHeld3
import Derived.Test.YtaiigfcfmcicjaaGreatDoorF09
namespace Go.Proofs.YtaiigfcfmcicjaaGreatDoor
set_option maxRecDepth 100000
set_option maxHeartbeats 8000000
section
open Go.RowKit Go.Extern.Stop Go.Stop Go.Extern Go.Sort
variable {cs : List (List Ins)} {L : List Ins} {K t : Nat} {w : World} {L' : Nat} {p : RkPl} {x : Ins} {m : Mk}
theorem rstep_goto (D : RkX cs p m K w) (ht : cs[t]? = some L) (hx : L[m.pc t]? = some x) (e : x.op = ⟨#[103, 111, 116, 111]⟩) (hl : labelAt L x.to = L') :
  Calls Tryz.prog 47 #[.pointer (some ⟨p.k, 0, none⟩), .int .i64 t] w fun e w' => e = .returned (.int .i64 0) /\ ∃ r v, RkStep cs p m.mem w r v (m.step L t) w' := by
 have hM : m.step L t = (m.setPc t (m.pc t + 1)).exec L t x := by unfold Mk.step; rw [hx]
 obtain ⟨M', hM'⟩ : ∃ M', M' = (m.setPc t (m.pc t + 1)).exec L t x := ⟨_, rfl⟩
 rw [hM, <- hM']
 rw [exec_goto (m.setPc t (m.pc t + 1)) L t e] at hM'
 clear hM
 have HD := hide (rdone_at ht hx D.at')
 obtain ⟨xo, xa, xb, xc, xt⟩ := x
 dsimp only at e hl hM' ⊢
 subst e
 have HM' := hide hM'
 clear hM'
 have HLL := hide hl
 clear hl
 obtain ⟨htl, h6, hpl, hL2, hcap, hcc, ti, t6, pi, hpc2, hpw, hpw2, hr8, HIN, HX, H, d0, hT⟩ := pfx1 D ht hx
 clear D
 go_enter Tryz.func47, Tryz.ntmps47
 go_wp2_with fail
 refine HD.out.mono ?_
 rintro e w1 ⟨rfl, hb1⟩
 clear HD hT
 obtain ⟨cb, off, H1, hT, hA, hR, had, c0, c1, c2, c3, c4, hC, lcb, lk, lt, lr, zt⟩ := pfx2 H HIN htl ht hx hb1
 dsimp only at c0 c1 c2 c3 c4
 obtain ⟨W2, hW2⟩ : ∃ W2, W2 = (w1.alloc (.cells #[.string ⟨#[103, 111, 116, 111]⟩, .int .i64 xa, .int .i64 xb, .int .i64 xc, .string xt] 101)).drew := ⟨_, rfl⟩
 obtain ⟨b2, q0, q1, q2, q3, q4, lW2⟩ := box5d hW2
 clear HIN had
 go_wp2_with fail
 go_region
 rw [<- hW2]
 have P := pfx3a H htl hb1 b2 lW2
 replace hC := keep_cell b2 hC
 clear hT hA hR zt
 obtain ⟨B2, H2, hT, hA, hR, zt, dk, dr1, dr2, G2, nk, nt, nr, lk2, lt2, lr2⟩ := P
 obtain ⟨W3, hW3, S3, G3, HM3, HX3, y0, y1, y2, y3, y4, T3, R3, k3, lW3, G0⟩ := pfx3b HX htl (by omega) H2 G2 q0 q1 q2 q3 q4
 clear H2 c0 c1 c2 c3 c4 hb1 b2 B2 hW2 G2 S3 H1 lcb
 clear G0
 have hl := HLL.out
 have HLB : Hid (∀ w', Below W3.heap.size W3 w' -> Calls Tryz.prog 69 #[.slice (p.ad t) L.length (p.cc t), .string xt] w' fun e w'' => e = .returned (.int .i64 L') /\ w'' = w') := fun w' hb => by rw [<- hl]; exact labelAt_any (p.ad t) (p.cc t) L xt w' (by omega) (insAt_below (HM3.out.rc.code ht) hb)
 have C3 : W3.cell? ⟨p.tb, t * 3, none⟩ = some (.slice (p.ad t) L.length (p.cc t)) := HM3.out.tCode t L ht
 have P3 : W3.cell? ⟨p.tb, t * 3 + 2, none⟩ = some (.int .i64 ((m.pc t : Int) + 1)) := (HM3.out.tAt t htl).trans (by simp [Mk.setPc])
 have z3 : W3.frozen? ⟨p.tb, t * 3 + 2, none⟩ = false := HM3.out.ft _
 have HJ : Hid ((m.setPc t (m.pc t + 1)).jump t L xt = (m.setPc t (m.pc t + 1)).setPc t L') := by show _ = _; unfold Mk.jump; rw [hl, Int.toNat_natCast]
 clear hl
 have HS := hide (G3.out.trans ((HM3.out.setPc htl L').below bRf.drew))
 have HM2 := HM'.out
 rw [HJ.out] at HM2
 replace HM' := hide HM2
 clear HM2
 clear G3 HM3 HX3 HJ
 go_wp2_with fail
 rw [<- hW3]
 clear hT hA hR hC zt q0 q1 q2 q3 q4 lW2 lk2 lt2 lr2 hW3
 refine wp_region_F (S := (fun w' => w'.cell? ⟨p.k, 1, none⟩ = some (.slice (some ⟨p.tb, 0, none⟩) cs.length p.tcap) /\ w'.cell? ⟨p.tb, t * 3, none⟩ = some (.slice (p.ad t) L.length (p.cc t)) /\ w'.cell? ⟨w1.heap.size, 4, none⟩ = some (.string xt) /\ w'.cell? ⟨p.tb, t * 3 + 2, none⟩ = some (.int .i64 ((m.pc t : Int) + 1)))) (by kernel_rfl) (by (try dsimp only); go_keep) (fun hHeld => ?_)
 iterate 15
  refine' wpAnyF_next (sz := 19) (n := 18) (v := _) rfl (by kernel_rfl) (fun _ _ _ h => h) (by assumption) (Or.inl ⟨by rfl, ?_⟩) ?_
  case' refine'_2 => (intro w' hSw; (try dsimp only at hSw); go_simp; try with_reducible rfl)
  try simp only [Act.put, fxs]
 refine wpAnyF_only (i := 15) rfl (by kernel_rfl) (fun K hK => ?_)
 go_simp
 go_at_call 69
 refine (HLB.out _ (Below.drewN' 1)).mono ?_
 rintro e w4 ⟨rfl, rfl⟩
 dsimp only
 refine hK.out _ _ (Or.inr (by (try dsimp only); exact hHeld)) ?_
 clear hK K
 try simp only [Act.put, fxs]
 refine' wpAnyF_take (i := 16) (n := 18) (v := _) rfl (by kernel_rfl) (fun _ _ _ h => h) (by assumption) (Or.inl ⟨by rfl, ?hy57⟩) ?rest57
 case' hy57 => (intro w' hSw; (try dsimp only at hSw); go_simp; try with_reducible rfl)
 try simp only [Act.put, fxs]
 refine' wpAnyF_take (i := 17) (n := 18) (v := _) rfl (by kernel_rfl) (fun _ _ _ h => h) (by assumption) (Or.inl ⟨by rfl, ?hy58⟩) ?rest58
 case' hy58 => (intro w' hSw; (try dsimp only at hSw); go_simp; try with_reducible rfl)
 try simp only [Act.put, fxs]
 clear hHeld
 refine wpAnyF_only (i := 18) rfl (by kernel_rfl) (fun K hK => ?_)
 go_simp
 refine hK.out _ _ (Or.inl (by kernel_rfl)) ?_
 clear hK K
 try simp only [Act.put, fxs]
 refine wpAnyF_done (by kernel_rfl) ?_ _
 go_wp2
 go_ret
 exact ⟨rfl, _, _, by rw [HM'.out]; exact HS.out.step⟩
theorem rstep_zero (D : RkX cs p m K w) (ht : cs[t]? = some L) (hx : L[m.pc t]? = some x) (e : x.op = ⟨#[122, 101, 114, 111]⟩) {i : Nat} (hi : i < 8) (ei : x.a = i) (hl : labelAt L x.to = L') :
  Calls Tryz.prog 47 #[.pointer (some ⟨p.k, 0, none⟩), .int .i64 t] w fun e w' => e = .returned (.int .i64 0) /\ ∃ r v, RkStep cs p m.mem w r v (m.step L t) w' := by
 have hM : m.step L t = (m.setPc t (m.pc t + 1)).exec L t x := by unfold Mk.step; rw [hx]
 obtain ⟨M', hM'⟩ : ∃ M', M' = (m.setPc t (m.pc t + 1)).exec L t x := ⟨_, rfl⟩
 rw [hM, <- hM']
 rw [exec_zero (m.setPc t (m.pc t + 1)) L t e] at hM'
 clear hM
 rw [ei] at hM'
 simp only [Int.toNat_natCast] at hM'
 simp only [show ∀ r, (m.setPc t (m.pc t + 1)).regs t r = m.regs t r from fun _ => rfl] at hM'
 have HD := hide (rdone_at ht hx D.at')
 obtain ⟨xo, xa, xb, xc, xt⟩ := x
 dsimp only at e ei hl hM' ⊢
 subst e ei
 have HM' := hide hM'
 clear hM'
 have HLL := hide hl
 clear hl
 obtain ⟨htl, h6, hpl, hL2, hcap, hcc, ti, t6, pi, hpc2, hpw, hpw2, hr8, HIN, HX, H, d0, hT⟩ := pfx1 D ht hx
 have li : (i : Int) < 8 := by omega
 clear D
 go_enter Tryz.func47, Tryz.ntmps47
 go_wp2_with fail
 refine HD.out.mono ?_
 rintro e w1 ⟨rfl, hb1⟩
 clear HD hT
 obtain ⟨cb, off, H1, hT, hA, hR, had, c0, c1, c2, c3, c4, hC, lcb, lk, lt, lr, zt⟩ := pfx2 H HIN htl ht hx hb1
 dsimp only at c0 c1 c2 c3 c4
 obtain ⟨W2, hW2⟩ : ∃ W2, W2 = (w1.alloc (.cells #[.string ⟨#[122, 101, 114, 111]⟩, .int .i64 i, .int .i64 xb, .int .i64 xc, .string xt] 101)).drew := ⟨_, rfl⟩
 obtain ⟨b2, q0, q1, q2, q3, q4, lW2⟩ := box5d hW2
 clear HIN had
 go_wp2_with fail
 go_region
 rw [<- hW2]
 have P := pfx3a H htl hb1 b2 lW2
 replace hC := keep_cell b2 hC
 clear hT hA hR zt
 obtain ⟨B2, H2, hT, hA, hR, zt, dk, dr1, dr2, G2, nk, nt, nr, lk2, lt2, lr2⟩ := P
 obtain ⟨W3, hW3, S3, G3, HM3, HX3, y0, y1, y2, y3, y4, T3, R3, k3, lW3, G0⟩ := pfx3b HX htl (by omega) H2 G2 q0 q1 q2 q3 q4
 clear H2 c0 c1 c2 c3 c4 hb1 b2 B2 hW2 G2 S3 H1 lcb
 obtain ⟨fi, fzi⟩ := G0.out i (by omega)
 have gi : W3.cell? ⟨p.rb t, i, none⟩ = some (.int .i64 (m.regs t i)) := HM3.out.regs t i htl (by omega)
 clear G0
 have hl := HLL.out
 have HLB : Hid (∀ w', Below W3.heap.size W3 w' -> Calls Tryz.prog 69 #[.slice (p.ad t) L.length (p.cc t), .string xt] w' fun e w'' => e = .returned (.int .i64 L') /\ w'' = w') := fun w' hb => by rw [<- hl]; exact labelAt_any (p.ad t) (p.cc t) L xt w' (by omega) (insAt_below (HM3.out.rc.code ht) hb)
 have C3 : W3.cell? ⟨p.tb, t * 3, none⟩ = some (.slice (p.ad t) L.length (p.cc t)) := HM3.out.tCode t L ht
 have P3 : W3.cell? ⟨p.tb, t * 3 + 2, none⟩ = some (.int .i64 ((m.pc t : Int) + 1)) := (HM3.out.tAt t htl).trans (by simp [Mk.setPc])
 have z3 : W3.frozen? ⟨p.tb, t * 3 + 2, none⟩ = false := HM3.out.ft _
 have HJ : Hid ((m.setPc t (m.pc t + 1)).jump t L xt = (m.setPc t (m.pc t + 1)).setPc t L') := by show _ = _; unfold Mk.jump; rw [hl, Int.toNat_natCast]
 clear hl
 by_cases h0 : m.regs t i = 0
 ·have HM2 := HM'.out
  rw [if_pos h0, HJ.out] at HM2
  replace HM' := hide HM2
  clear HM2
  have HS := hide (G3.out.trans ((HM3.out.setPc htl L').below bRf.drew))
  rw [h0] at fi gi
  clear G3 HM3 HX3 HJ h0
  go_wp2_with fail
  rw [<- hW3]
  clear hT hA hR hC zt q0 q1 q2 q3 q4 lW2 lk2 lt2 lr2 hW3
  refine wp_region_F (S := (fun w' => w'.cell? ⟨p.k, 1, none⟩ = some (.slice (some ⟨p.tb, 0, none⟩) cs.length p.tcap) /\ w'.cell? ⟨p.tb, t * 3, none⟩ = some (.slice (p.ad t) L.length (p.cc t)) /\ w'.cell? ⟨w1.heap.size, 4, none⟩ = some (.string xt) /\ w'.cell? ⟨p.tb, t * 3 + 2, none⟩ = some (.int .i64 ((m.pc t : Int) + 1)))) (by kernel_rfl) (by (try dsimp only); go_keep) (fun hHeld => ?_)
  iterate 15
   refine' wpAnyF_next (sz := 19) (n := 18) (v := _) rfl (by kernel_rfl) (fun _ _ _ h => h) (by assumption) (Or.inl ⟨by rfl, ?_⟩) ?_
   case' refine'_2 => (intro w' hSw; (try dsimp only at hSw); go_simp; try with_reducible rfl)
   try simp only [Act.put, fxs]
  refine wpAnyF_only (i := 15) rfl (by kernel_rfl) (fun K hK => ?_)
  go_simp
  go_at_call 69
  refine (HLB.out _ (Below.drewN' 1)).mono ?_
  rintro e w4 ⟨rfl, rfl⟩
  dsimp only
  refine hK.out _ _ (Or.inr (by (try dsimp only); exact hHeld)) ?_
  clear hK K
  try simp only [Act.put, fxs]
  refine' wpAnyF_take (i := 16) (n := 18) (v := _) rfl (by kernel_rfl) (fun _ _ _ h => h) (by assumption) (Or.inl ⟨by rfl, ?hy74⟩) ?rest74
  case' hy74 => (intro w' hSw; (try dsimp only at hSw); go_simp; try with_reducible rfl)
  try simp only [Act.put, fxs]
  refine' wpAnyF_take (i := 17) (n := 18) (v := _) rfl (by kernel_rfl) (fun _ _ _ h => h) (by assumption) (Or.inl ⟨by rfl, ?hy75⟩) ?rest75
  case' hy75 => (intro w' hSw; (try dsimp only at hSw); go_simp; try with_reducible rfl)
  try simp only [Act.put, fxs]
  clear hHeld
  refine wpAnyF_only (i := 18) rfl (by kernel_rfl) (fun K hK => ?_)
  go_simp
  refine hK.out _ _ (Or.inl (by kernel_rfl)) ?_
  clear hK K
  try simp only [Act.put, fxs]
  refine wpAnyF_done (by kernel_rfl) ?_ _
  go_wp2
  go_ret
  exact ⟨rfl, _, _, by rw [HM'.out]; exact HS.out.step⟩
 ·have HM2 := HM'.out
  rw [if_neg h0] at HM2
  replace HM' := hide HM2
  clear HM2
  have HS := hide G3.out.step
  rw [hW3] at HS
  clear G3 HM3 HX3 HJ HLB
  generalize m.regs t i = Ri at *
  go_wp2
  go_ret
  exact ⟨rfl, _, _, by rw [HM'.out]; exact HS.out⟩
theorem rstep_same (D : RkX cs p m K w) (ht : cs[t]? = some L) (hx : L[m.pc t]? = some x) (e : x.op = ⟨#[115, 97, 109, 101]⟩) {i : Nat} (hi : i < 8) (ei : x.a = i) {j : Nat} (hj : j < 8) (ej : x.b = j) (hl : labelAt L x.to = L') :
  Calls Tryz.prog 47 #[.pointer (some ⟨p.k, 0, none⟩), .int .i64 t] w fun e w' => e = .returned (.int .i64 0) /\ ∃ r v, RkStep cs p m.mem w r v (m.step L t) w' := by
 have hM : m.step L t = (m.setPc t (m.pc t + 1)).exec L t x := by unfold Mk.step; rw [hx]
 obtain ⟨M', hM'⟩ : ∃ M', M' = (m.setPc t (m.pc t + 1)).exec L t x := ⟨_, rfl⟩
 rw [hM, <- hM']
 rw [exec_same (m.setPc t (m.pc t + 1)) L t e] at hM'
 clear hM
 rw [ei] at hM'
 rw [ej] at hM'
 simp only [Int.toNat_natCast] at hM'
 simp only [show ∀ r, (m.setPc t (m.pc t + 1)).regs t r = m.regs t r from fun _ => rfl] at hM'
 have HD := hide (rdone_at ht hx D.at')
 obtain ⟨xo, xa, xb, xc, xt⟩ := x
 dsimp only at e ei ej hl hM' ⊢
 subst e ei ej
 have HM' := hide hM'
 clear hM'
 have HLL := hide hl
 clear hl
 obtain ⟨htl, h6, hpl, hL2, hcap, hcc, ti, t6, pi, hpc2, hpw, hpw2, hr8, HIN, HX, H, d0, hT⟩ := pfx1 D ht hx
 have li : (i : Int) < 8 := by omega
 have lj : (j : Int) < 8 := by omega
 clear D
 go_enter Tryz.func47, Tryz.ntmps47
 go_wp2_with fail
 refine HD.out.mono ?_
 rintro e w1 ⟨rfl, hb1⟩
 clear HD hT
 obtain ⟨cb, off, H1, hT, hA, hR, had, c0, c1, c2, c3, c4, hC, lcb, lk, lt, lr, zt⟩ := pfx2 H HIN htl ht hx hb1
 dsimp only at c0 c1 c2 c3 c4
 obtain ⟨W2, hW2⟩ : ∃ W2, W2 = (w1.alloc (.cells #[.string ⟨#[115, 97, 109, 101]⟩, .int .i64 i, .int .i64 j, .int .i64 xc, .string xt] 101)).drew := ⟨_, rfl⟩
 obtain ⟨b2, q0, q1, q2, q3, q4, lW2⟩ := box5d hW2
 clear HIN had
 go_wp2_with fail
 go_region
 rw [<- hW2]
 have P := pfx3a H htl hb1 b2 lW2
 replace hC := keep_cell b2 hC
 clear hT hA hR zt
 obtain ⟨B2, H2, hT, hA, hR, zt, dk, dr1, dr2, G2, nk, nt, nr, lk2, lt2, lr2⟩ := P
 obtain ⟨W3, hW3, S3, G3, HM3, HX3, y0, y1, y2, y3, y4, T3, R3, k3, lW3, G0⟩ := pfx3b HX htl (by omega) H2 G2 q0 q1 q2 q3 q4
 clear H2 c0 c1 c2 c3 c4 hb1 b2 B2 hW2 G2 S3 H1 lcb
 obtain ⟨fi, fzi⟩ := G0.out i (by omega)
 have gi : W3.cell? ⟨p.rb t, i, none⟩ = some (.int .i64 (m.regs t i)) := HM3.out.regs t i htl (by omega)
 obtain ⟨fj, fzj⟩ := G0.out j (by omega)
 have gj : W3.cell? ⟨p.rb t, j, none⟩ = some (.int .i64 (m.regs t j)) := HM3.out.regs t j htl (by omega)
 clear G0
 have hl := HLL.out
 have HLB : Hid (∀ w', Below W3.heap.size W3 w' -> Calls Tryz.prog 69 #[.slice (p.ad t) L.length (p.cc t), .string xt] w' fun e w'' => e = .returned (.int .i64 L') /\ w'' = w') := fun w' hb => by rw [<- hl]; exact labelAt_any (p.ad t) (p.cc t) L xt w' (by omega) (insAt_below (HM3.out.rc.code ht) hb)
 have C3 : W3.cell? ⟨p.tb, t * 3, none⟩ = some (.slice (p.ad t) L.length (p.cc t)) := HM3.out.tCode t L ht
 have P3 : W3.cell? ⟨p.tb, t * 3 + 2, none⟩ = some (.int .i64 ((m.pc t : Int) + 1)) := (HM3.out.tAt t htl).trans (by simp [Mk.setPc])
 have z3 : W3.frozen? ⟨p.tb, t * 3 + 2, none⟩ = false := HM3.out.ft _
 have HJ : Hid ((m.setPc t (m.pc t + 1)).jump t L xt = (m.setPc t (m.pc t + 1)).setPc t L') := by show _ = _; unfold Mk.jump; rw [hl, Int.toNat_natCast]
 clear hl
 by_cases h0 : m.regs t i = m.regs t j
 ·have HM2 := HM'.out
  rw [if_pos h0, HJ.out] at HM2
  replace HM' := hide HM2
  clear HM2
  have HS : Hid (∀ n, Stg cs p m.mem w w1.heap.size p.rp p.mv ((m.setPc t (m.pc t + 1)).setPc t L') (((W3.drewN n).setCell ⟨p.tb, t * 3 + 2, none⟩ (.int .i64 L')).drew)) := fun n => (G3.out.below (Below.drewN' n)).trans (((HM3.out.drewN n).setPc htl L').below bRf.drew)
  rw [h0] at fi gi
  clear G3 HM3 HX3 HJ h0
  generalize m.regs t j = Rj at *
  go_wp2_with fail
  rw [<- hW3]
  clear hT hA hR hC zt q0 q1 q2 q3 q4 lW2 lk2 lt2 lr2 hW3
  go_quiet (fail)
  replace y4 : (W3.drewN nq).cell? ⟨w1.heap.size, 4, none⟩ = some (.string xt) := y4
  replace T3 : (W3.drewN nq).cell? ⟨p.k, 1, none⟩ = some (.slice (some ⟨p.tb, 0, none⟩) cs.length p.tcap) := T3
  replace C3 : (W3.drewN nq).cell? ⟨p.tb, t * 3, none⟩ = some (.slice (p.ad t) L.length (p.cc t)) := C3
  replace P3 : (W3.drewN nq).cell? ⟨p.tb, t * 3 + 2, none⟩ = some (.int .i64 ((m.pc t : Int) + 1)) := P3
  replace z3 : (W3.drewN nq).frozen? ⟨p.tb, t * 3 + 2, none⟩ = false := z3
  have HLB4 : Hid (∀ w', Below (W3.drewN nq).heap.size (W3.drewN nq) w' -> Calls Tryz.prog 69 #[.slice (p.ad t) L.length (p.cc t), .string xt] w' fun e w'' => e = .returned (.int .i64 L') /\ w'' = w') := fun w' hb => HLB.out w' (below_step (Below.drewN' nq) hb)
  have HS2 := hide (HS.out nq)
  clear HS HLB y0 y1 y2 y3 R3 k3 gi gj
  have HLB := HLB4
  clear HLB4
  generalize W3.drewN nq = W4 at *
  go_wp2_with fail
  refine wp_region_F (S := (fun w' => w'.cell? ⟨p.k, 1, none⟩ = some (.slice (some ⟨p.tb, 0, none⟩) cs.length p.tcap) /\ w'.cell? ⟨p.tb, t * 3, none⟩ = some (.slice (p.ad t) L.length (p.cc t)) /\ w'.cell? ⟨w1.heap.size, 4, none⟩ = some (.string xt) /\ w'.cell? ⟨p.tb, t * 3 + 2, none⟩ = some (.int .i64 ((m.pc t : Int) + 1)))) (by kernel_rfl) (by (try dsimp only); go_keep) (fun hHeld => ?_)
  iterate 15
   refine' wpAnyF_next (sz := 19) (n := 18) (v := _) rfl (by kernel_rfl) (fun _ _ _ h => h) (by assumption) (Or.inl ⟨by rfl, ?_⟩) ?_
   case' refine'_2 => (intro w' hSw; (try dsimp only at hSw); go_simp; try with_reducible rfl)
   try simp only [Act.put, fxs]
  refine wpAnyF_only (i := 15) rfl (by kernel_rfl) (fun K hK => ?_)
  go_simp
  go_at_call 69
  refine (HLB.out _ (Below.drewN' 1)).mono ?_
  rintro e w4 ⟨rfl, rfl⟩
  dsimp only
  refine hK.out _ _ (Or.inr (by (try dsimp only); exact hHeld)) ?_
  clear hK K
  try simp only [Act.put, fxs]
  refine' wpAnyF_take (i := 16) (n := 18) (v := _) rfl (by kernel_rfl) (fun _ _ _ h => h) (by assumption) (Or.inl ⟨by rfl, ?hy91⟩) ?rest91
  case' hy91 => (intro w' hSw; (try dsimp only at hSw); go_simp; try with_reducible rfl)
  try simp only [Act.put, fxs]
  refine' wpAnyF_take (i := 17) (n := 18) (v := _) rfl (by kernel_rfl) (fun _ _ _ h => h) (by assumption) (Or.inl ⟨by rfl, ?hy92⟩) ?rest92
  case' hy92 => (intro w' hSw; (try dsimp only at hSw); go_simp; try with_reducible rfl)
  try simp only [Act.put, fxs]
  clear hHeld
  refine wpAnyF_only (i := 18) rfl (by kernel_rfl) (fun K hK => ?_)
  go_simp
  refine hK.out _ _ (Or.inl (by kernel_rfl)) ?_
  clear hK K
  try simp only [Act.put, fxs]
  refine wpAnyF_done (by kernel_rfl) ?_ _
  go_wp2
  go_ret
  exact ⟨rfl, _, _, by rw [HM'.out]; exact HS2.out.step⟩
 ·have HM2 := HM'.out
  rw [if_neg h0] at HM2
  replace HM' := hide HM2
  clear HM2
  have HS : Hid (∀ n, RkStep cs p m.mem w p.rp p.mv (m.setPc t (m.pc t + 1)) (W3.drewN n)) := fun n => G3.out.step.below (Below.drewN' n)
  have hb0 : (m.regs t i == m.regs t j) = false := beq_eq_false_iff_ne.2 h0
  clear G3 HM3 HX3 HJ HLB h0
  generalize m.regs t i = Ri at *
  generalize m.regs t j = Rj at *
  go_wp2_with fail
  rw [<- hW3]
  clear hT hA hR hC zt q0 q1 q2 q3 q4 lW2 lk2 lt2 lr2 hW3
  go_quiet (fail)
  go_wp2
  go_ret
  exact ⟨rfl, _, _, by rw [HM'.out]; exact HS.out nq⟩
end
end Go.Proofs.YtaiigfcfmcicjaaGreatDoor
