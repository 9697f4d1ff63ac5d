import Derived.Test.YtaiigfcfmcicjaaGreatDoorF38
import Derived.Deep.RegionHeld3
import Derived.Test.YtaiigfcfmcicjaaGreatDoorF09
namespace Go.Proofs.YtaiigfcfmcicjaaGreatDoor
set_option maxRecDepth 100000
set_option maxHeartbeats 8000000
section
open Go.RowKit Go.Extern.Stop Go.Stop Go.Extern Go.Sort
variable {cs : List (List Ins)} {L : List Ins} {K t : Nat} {w : World} {p : RkPl} {x : Ins} {m : Mk} {i : Nat}
theorem rstep_add (D : RkX cs p m K w) (ht : cs[t]? = some L) (hx : L[m.pc t]? = some x) (e : x.op = ⟨#[97, 100, 100]⟩) (hi : i < 8) (ei : x.a = i) {j : Nat} (hj : j < 8) (ej : x.b = j) {k : Nat} (hk : k < 8) (ek : x.c = k) :
  Calls Tryz.prog 47 #[.pointer (some ⟨p.k, 0, none⟩), .int .i64 t] w fun e w' => e = .returned (.int .i64 0) /\ ∃ r v, RkStep cs p m.mem w r v (m.step L t) w' := by
 have hM : m.step L t = (m.setPc t (m.pc t + 1)).exec L t x := by unfold Mk.step; rw [hx]
 obtain ⟨M', hM'⟩ : ∃ M', M' = (m.setPc t (m.pc t + 1)).exec L t x := ⟨_, rfl⟩
 rw [hM, <- hM']
 rw [exec_add (m.setPc t (m.pc t + 1)) L t e] at hM'
 clear hM
 rw [ei] at hM'
 rw [ej] at hM'
 rw [ek] at hM'
 simp only [Int.toNat_natCast] at hM'
 simp only [show ∀ r, (m.setPc t (m.pc t + 1)).regs t r = m.regs t r from fun _ => rfl] at hM'
 have HD := hide (rdone_at ht hx D.at')
 obtain ⟨xo, xa, xb, xc, xt⟩ := x
 dsimp only at e ei ej ek hM' ⊢
 subst e ei ej ek
 have HM' := hide hM'
 clear hM'
 obtain ⟨htl, h6, hpl, hL2, hcap, hcc, ti, t6, pi, hpc2, hpw, hpw2, hr8, HIN, HX, H, d0, hT⟩ := pfx1 D ht hx
 have li : (i : Int) < 8 := by omega
 have lj : (j : Int) < 8 := by omega
 have lk : (k : Int) < 8 := by omega
 clear D
 go_enter Tryz.func47, Tryz.ntmps47
 go_wp2_with fail
 refine HD.out.mono ?_
 rintro e w1 ⟨rfl, hb1⟩
 clear HD hT
 obtain ⟨cb, off, H1, hT, hA, hR, had, c0, c1, c2, c3, c4, hC, lcb, lk, lt, lr, zt⟩ := pfx2 H HIN htl ht hx hb1
 dsimp only at c0 c1 c2 c3 c4
 obtain ⟨W2, hW2⟩ : ∃ W2, W2 = (w1.alloc (.cells #[.string ⟨#[97, 100, 100]⟩, .int .i64 i, .int .i64 j, .int .i64 k, .string xt] 101)).drew := ⟨_, rfl⟩
 obtain ⟨b2, q0, q1, q2, q3, q4, lW2⟩ := box5d hW2
 clear HIN had
 go_wp2_with fail
 go_region
 rw [<- hW2]
 have P := pfx3a H htl hb1 b2 lW2
 replace hC := keep_cell b2 hC
 clear hT hA hR zt
 obtain ⟨B2, H2, hT, hA, hR, zt, dk, dr1, dr2, G2, nk, nt, nr, lk2, lt2, lr2⟩ := P
 obtain ⟨W3, hW3, S3, G3, HM3, HX3, y0, y1, y2, y3, y4, T3, R3, k3, lW3, G0⟩ := pfx3b HX htl (by omega) H2 G2 q0 q1 q2 q3 q4
 clear H2 c0 c1 c2 c3 c4 hb1 b2 B2 hW2 G2 S3 H1 lcb
 obtain ⟨fi, fzi⟩ := G0.out i (by omega)
 have gi : W3.cell? ⟨p.rb t, i, none⟩ = some (.int .i64 (m.regs t i)) := HM3.out.regs t i htl (by omega)
 obtain ⟨fj, fzj⟩ := G0.out j (by omega)
 have gj : W3.cell? ⟨p.rb t, j, none⟩ = some (.int .i64 (m.regs t j)) := HM3.out.regs t j htl (by omega)
 obtain ⟨fk, fzk⟩ := G0.out k (by omega)
 have gk : W3.cell? ⟨p.rb t, k, none⟩ = some (.int .i64 (m.regs t k)) := HM3.out.regs t k htl (by omega)
 clear G0
 have z3 : W3.frozen? ⟨p.rb t, i, none⟩ = false := HM3.out.fr t i htl
 obtain ⟨j1, j2⟩ := HX3.out.ok.regs t j
 obtain ⟨k1, k2⟩ := HX3.out.ok.regs t k
 have HS : Hid (∀ n, Stg cs p m.mem w w1.heap.size p.rp p.mv ((m.setPc t (m.pc t + 1)).setReg t i ((m.regs t j + m.regs t k) % 4294967296)) ((W3.drewN n).setCell ⟨p.rb t, i, none⟩ (.int .i64 ((m.regs t j + m.regs t k) % 4294967296)))) := fun n => (G3.out.below (Below.drewN' n)).trans ((HM3.out.drewN n).setReg htl hi ((m.regs t j + m.regs t k) % 4294967296))
 rw [show (m.setPc t (m.pc t + 1)).regs t j = m.regs t j from rfl] at j1 j2
 rw [show (m.setPc t (m.pc t + 1)).regs t k = m.regs t k from rfl] at k1 k2
 clear G3 HM3 HX3
 have hw5 : wrap64 (m.regs t j + m.regs t k) = m.regs t j + m.regs t k := by unfold wrap64; omega
 have hw6 : IntKind.i64.wrap (m.regs t j + m.regs t k) = m.regs t j + m.regs t k := by rw [IntKind.wrap_i64]; omega
 obtain ⟨V, hV⟩ : ∃ V, V = m.regs t j + m.regs t k := ⟨_, rfl⟩
 have v1 : -4294967296 < V := by omega
 have hV0 : 0 <= V := by omega
 have v2 : V < 8589934592 := by omega
 rw [<- hV] at hw5 hw6 HS
 have HM2 := HM'.out
 rw [<- hV] at HM2
 replace HM' := hide HM2
 clear HM2
 have HV := hide hV
 clear j1 j2 k1 k2 hV
 generalize m.regs t i = Ri at *
 generalize m.regs t j = Rj at *
 generalize m.regs t k = Rk at *
 go_wp2_with fail
 rw [<- hW3]
 clear hT hA hR hC zt q0 q1 q2 q3 q4 lW2 lk2 lt2 lr2 hW3
 go_quiet (fail)
 rw [<- HV.out]
 replace y0 : (W3.drewN nq).cell? ⟨w1.heap.size, 0, none⟩ = some (.string ⟨#[97, 100, 100]⟩) := y0
 replace y1 : (W3.drewN nq).cell? ⟨w1.heap.size, 1, none⟩ = some (.int .i64 i) := y1
 replace gi : (W3.drewN nq).cell? ⟨p.rb t, i, none⟩ = some (.int .i64 Ri) := gi
 replace z3 : (W3.drewN nq).frozen? ⟨p.rb t, i, none⟩ = false := z3
 have HS2 := hide (HS.out nq)
 clear HS HV T3 R3 k3 y2 y3 y4 gj gk
 generalize W3.drewN nq = W4 at *
 by_cases hb : 4294967296 <= V
 ·have HE : Hid (V % 4294967296 = V - 4294967296) := by show _ = _; omega
  have hw7 : wrap64 (V - 4294967296) = V - 4294967296 := by unfold wrap64; omega
  rw [HE.out] at HS2
  have HM2 := HM'.out
  rw [HE.out] at HM2
  replace HM' := hide HM2
  clear HE HM2
  go_wp2
  go_ret
  exact ⟨rfl, _, _, by rw [HM'.out]; exact HS2.out.step⟩
 ·have HE : Hid (V % 4294967296 = V) := by show _ = _; omega
  rw [HE.out] at HS2
  have HM2 := HM'.out
  rw [HE.out] at HM2
  replace HM' := hide HM2
  clear HE HM2
  go_wp2
  go_ret
  exact ⟨rfl, _, _, by rw [HM'.out]; exact HS2.out.step⟩
theorem rstep_sub (D : RkX cs p m K w) (ht : cs[t]? = some L) (hx : L[m.pc t]? = some x) (e : x.op = ⟨#[115, 117, 98]⟩) (hi : i < 8) (ei : x.a = i) {j : Nat} (hj : j < 8) (ej : x.b = j) {k : Nat} (hk : k < 8) (ek : x.c = k) :
  Calls Tryz.prog 47 #[.pointer (some ⟨p.k, 0, none⟩), .int .i64 t] w fun e w' => e = .returned (.int .i64 0) /\ ∃ r v, RkStep cs p m.mem w r v (m.step L t) w' := by
 have hM : m.step L t = (m.setPc t (m.pc t + 1)).exec L t x := by unfold Mk.step; rw [hx]
 obtain ⟨M', hM'⟩ : ∃ M', M' = (m.setPc t (m.pc t + 1)).exec L t x := ⟨_, rfl⟩
 rw [hM, <- hM']
 rw [exec_sub (m.setPc t (m.pc t + 1)) L t e] at hM'
 clear hM
 rw [ei] at hM'
 rw [ej] at hM'
 rw [ek] at hM'
 simp only [Int.toNat_natCast] at hM'
 simp only [show ∀ r, (m.setPc t (m.pc t + 1)).regs t r = m.regs t r from fun _ => rfl] at hM'
 have HD := hide (rdone_at ht hx D.at')
 obtain ⟨xo, xa, xb, xc, xt⟩ := x
 dsimp only at e ei ej ek hM' ⊢
 subst e ei ej ek
 have HM' := hide hM'
 clear hM'
 obtain ⟨htl, h6, hpl, hL2, hcap, hcc, ti, t6, pi, hpc2, hpw, hpw2, hr8, HIN, HX, H, d0, hT⟩ := pfx1 D ht hx
 have li : (i : Int) < 8 := by omega
 have lj : (j : Int) < 8 := by omega
 have lk : (k : Int) < 8 := by omega
 clear D
 go_enter Tryz.func47, Tryz.ntmps47
 go_wp2_with fail
 refine HD.out.mono ?_
 rintro e w1 ⟨rfl, hb1⟩
 clear HD hT
 obtain ⟨cb, off, H1, hT, hA, hR, had, c0, c1, c2, c3, c4, hC, lcb, lk, lt, lr, zt⟩ := pfx2 H HIN htl ht hx hb1
 dsimp only at c0 c1 c2 c3 c4
 obtain ⟨W2, hW2⟩ : ∃ W2, W2 = (w1.alloc (.cells #[.string ⟨#[115, 117, 98]⟩, .int .i64 i, .int .i64 j, .int .i64 k, .string xt] 101)).drew := ⟨_, rfl⟩
 obtain ⟨b2, q0, q1, q2, q3, q4, lW2⟩ := box5d hW2
 clear HIN had
 go_wp2_with fail
 go_region
 rw [<- hW2]
 have P := pfx3a H htl hb1 b2 lW2
 replace hC := keep_cell b2 hC
 clear hT hA hR zt
 obtain ⟨B2, H2, hT, hA, hR, zt, dk, dr1, dr2, G2, nk, nt, nr, lk2, lt2, lr2⟩ := P
 obtain ⟨W3, hW3, S3, G3, HM3, HX3, y0, y1, y2, y3, y4, T3, R3, k3, lW3, G0⟩ := pfx3b HX htl (by omega) H2 G2 q0 q1 q2 q3 q4
 clear H2 c0 c1 c2 c3 c4 hb1 b2 B2 hW2 G2 S3 H1 lcb
 obtain ⟨fi, fzi⟩ := G0.out i (by omega)
 have gi : W3.cell? ⟨p.rb t, i, none⟩ = some (.int .i64 (m.regs t i)) := HM3.out.regs t i htl (by omega)
 obtain ⟨fj, fzj⟩ := G0.out j (by omega)
 have gj : W3.cell? ⟨p.rb t, j, none⟩ = some (.int .i64 (m.regs t j)) := HM3.out.regs t j htl (by omega)
 obtain ⟨fk, fzk⟩ := G0.out k (by omega)
 have gk : W3.cell? ⟨p.rb t, k, none⟩ = some (.int .i64 (m.regs t k)) := HM3.out.regs t k htl (by omega)
 clear G0
 have z3 : W3.frozen? ⟨p.rb t, i, none⟩ = false := HM3.out.fr t i htl
 obtain ⟨j1, j2⟩ := HX3.out.ok.regs t j
 obtain ⟨k1, k2⟩ := HX3.out.ok.regs t k
 have HS : Hid (∀ n, Stg cs p m.mem w w1.heap.size p.rp p.mv ((m.setPc t (m.pc t + 1)).setReg t i ((m.regs t j - m.regs t k) % 4294967296)) ((W3.drewN n).setCell ⟨p.rb t, i, none⟩ (.int .i64 ((m.regs t j - m.regs t k) % 4294967296)))) := fun n => (G3.out.below (Below.drewN' n)).trans ((HM3.out.drewN n).setReg htl hi ((m.regs t j - m.regs t k) % 4294967296))
 rw [show (m.setPc t (m.pc t + 1)).regs t j = m.regs t j from rfl] at j1 j2
 rw [show (m.setPc t (m.pc t + 1)).regs t k = m.regs t k from rfl] at k1 k2
 clear G3 HM3 HX3
 have hw5 : wrap64 (m.regs t j - m.regs t k) = m.regs t j - m.regs t k := by unfold wrap64; omega
 have hw6 : IntKind.i64.wrap (m.regs t j - m.regs t k) = m.regs t j - m.regs t k := by rw [IntKind.wrap_i64]; omega
 obtain ⟨V, hV⟩ : ∃ V, V = m.regs t j - m.regs t k := ⟨_, rfl⟩
 have v1 : -4294967296 < V := by omega
 have v2 : V < 4294967296 := by omega
 rw [<- hV] at hw5 hw6 HS
 have HM2 := HM'.out
 rw [<- hV] at HM2
 replace HM' := hide HM2
 clear HM2
 have HV := hide hV
 clear j1 j2 k1 k2 hV
 generalize m.regs t i = Ri at *
 generalize m.regs t j = Rj at *
 generalize m.regs t k = Rk at *
 go_wp2_with fail
 rw [<- hW3]
 clear hT hA hR hC zt q0 q1 q2 q3 q4 lW2 lk2 lt2 lr2 hW3
 go_quiet (fail)
 rw [<- HV.out]
 replace y0 : (W3.drewN nq).cell? ⟨w1.heap.size, 0, none⟩ = some (.string ⟨#[115, 117, 98]⟩) := y0
 replace y1 : (W3.drewN nq).cell? ⟨w1.heap.size, 1, none⟩ = some (.int .i64 i) := y1
 replace gi : (W3.drewN nq).cell? ⟨p.rb t, i, none⟩ = some (.int .i64 Ri) := gi
 replace z3 : (W3.drewN nq).frozen? ⟨p.rb t, i, none⟩ = false := z3
 have HS2 := hide (HS.out nq)
 clear HS HV T3 R3 k3 y2 y3 y4 gj gk
 generalize W3.drewN nq = W4 at *
 by_cases hb : V < 0
 ·have HE : Hid (V % 4294967296 = V + 4294967296) := by show _ = _; omega
  have hw7 : wrap64 (V + 4294967296) = V + 4294967296 := by unfold wrap64; omega
  rw [HE.out] at HS2
  have HM2 := HM'.out
  rw [HE.out] at HM2
  replace HM' := hide HM2
  clear HE HM2
  go_wp2
  go_ret
  exact ⟨rfl, _, _, by rw [HM'.out]; exact HS2.out.step⟩
 ·have HE : Hid (V % 4294967296 = V) := by show _ = _; omega
  rw [HE.out] at HS2
  have HM2 := HM'.out
  rw [HE.out] at HM2
  replace HM' := hide HM2
  clear HE HM2
  go_wp2
  go_ret
  exact ⟨rfl, _, _, by rw [HM'.out]; exact HS2.out.step⟩
theorem rstep_need (D : RkX cs p m K w) (ht : cs[t]? = some L) (hx : L[m.pc t]? = some x) (e : x.op = ⟨#[110, 101, 101, 100]⟩) (hi : i < 8) (ei : x.a = i) :
  Calls Tryz.prog 47 #[.pointer (some ⟨p.k, 0, none⟩), .int .i64 t] w fun e w' => e = .returned (.int .i64 0) /\ ∃ r v, RkStep cs p m.mem w r v (m.step L t) w' := by
 have hM : m.step L t = (m.setPc t (m.pc t + 1)).exec L t x := by unfold Mk.step; rw [hx]
 obtain ⟨M', hM'⟩ : ∃ M', M' = (m.setPc t (m.pc t + 1)).exec L t x := ⟨_, rfl⟩
 rw [hM, <- hM']
 rw [exec_need (m.setPc t (m.pc t + 1)) L t e] at hM'
 clear hM
 rw [ei] at hM'
 simp only [Int.toNat_natCast] at hM'
 simp only [show ∀ r, (m.setPc t (m.pc t + 1)).regs t r = m.regs t r from fun _ => rfl] at hM'
 have HD := hide (rdone_at ht hx D.at')
 obtain ⟨xo, xa, xb, xc, xt⟩ := x
 dsimp only at e ei hM' ⊢
 subst e ei
 have HM' := hide hM'
 clear hM'
 obtain ⟨htl, h6, hpl, hL2, hcap, hcc, ti, t6, pi, hpc2, hpw, hpw2, hr8, HIN, HX, H, d0, hT⟩ := pfx1 D ht hx
 have li : (i : Int) < 8 := by omega
 clear D
 go_enter Tryz.func47, Tryz.ntmps47
 go_wp2_with fail
 refine HD.out.mono ?_
 rintro e w1 ⟨rfl, hb1⟩
 clear HD hT
 obtain ⟨cb, off, H1, hT, hA, hR, had, c0, c1, c2, c3, c4, hC, lcb, lk, lt, lr, zt⟩ := pfx2 H HIN htl ht hx hb1
 dsimp only at c0 c1 c2 c3 c4
 obtain ⟨W2, hW2⟩ : ∃ W2, W2 = (w1.alloc (.cells #[.string ⟨#[110, 101, 101, 100]⟩, .int .i64 i, .int .i64 xb, .int .i64 xc, .string xt] 101)).drew := ⟨_, rfl⟩
 obtain ⟨b2, q0, q1, q2, q3, q4, lW2⟩ := box5d hW2
 clear HIN had
 go_wp2_with fail
 go_region
 rw [<- hW2]
 have P := pfx3a H htl hb1 b2 lW2
 replace hC := keep_cell b2 hC
 clear hT hA hR zt
 obtain ⟨B2, H2, hT, hA, hR, zt, dk, dr1, dr2, G2, nk, nt, nr, lk2, lt2, lr2⟩ := P
 obtain ⟨W3, hW3, S3, G3, HM3, HX3, y0, y1, y2, y3, y4, T3, R3, k3, lW3, G0⟩ := pfx3b HX htl (by omega) H2 G2 q0 q1 q2 q3 q4
 have HF2 : Hid (W2.cell? ⟨p.k, 3, none⟩ = some (.int .i64 m.faults) /\ W2.frozen? ⟨p.k, 3, none⟩ = false) := hide ⟨H2.out.mFaults, H2.out.fk 3⟩
 clear H2 c0 c1 c2 c3 c4 hb1 b2 B2 hW2 G2 S3 H1 lcb
 obtain ⟨fi, fzi⟩ := G0.out i (by omega)
 have gi : W3.cell? ⟨p.rb t, i, none⟩ = some (.int .i64 (m.regs t i)) := HM3.out.regs t i htl (by omega)
 clear G0
 have hF : W2.cell? ⟨p.k, 3, none⟩ = some (.int .i64 m.faults) := HF2.out.1
 have hZ : W2.frozen? ⟨p.k, 3, none⟩ = false := HF2.out.2
 clear HF2
 have hf := HX3.out.faults
 rw [show (m.setPc t (m.pc t + 1)).faults = m.faults from rfl] at hf
 by_cases h0 : m.regs t i = 0
 ·have HS := hide (G3.out.trans (HM3.out.addFault 1))
  rw [show (m.setPc t (m.pc t + 1)).faults = m.faults from rfl, hW3, show ((m.faults + 1 : Nat) : Int) = (m.faults : Int) + 1 from rfl] at HS
  have HQ : Hid ((m.setPc t (m.pc t + 1)).need (m.regs t i) = (m.setPc t (m.pc t + 1)).addFault 1) := by show _ = _; unfold Mk.need; rw [if_pos h0]
  have HM2 := HM'.out
  rw [HQ.out] at HM2
  replace HM' := hide HM2
  clear HM2
  rw [h0] at fi
  clear G3 HM3 HX3 HQ h0 gi
  generalize m.faults = N at *
  go_wp2
  go_ret
  exact ⟨rfl, _, _, by rw [HM'.out]; exact HS.out.step⟩
 ·have HS := hide G3.out.step
  rw [hW3] at HS
  have HQ : Hid ((m.setPc t (m.pc t + 1)).need (m.regs t i) = m.setPc t (m.pc t + 1)) := by show _ = _; unfold Mk.need; rw [if_neg h0]
  have HM2 := HM'.out
  rw [HQ.out] at HM2
  replace HM' := hide HM2
  clear HM2
  clear G3 HM3 HX3 HQ
  generalize m.regs t i = Ri at *
  go_wp2
  go_ret
  exact ⟨rfl, _, _, by rw [HM'.out]; exact HS.out⟩
theorem rstep_label (D : RkX cs p m K w) (ht : cs[t]? = some L) (hx : L[m.pc t]? = some x) (e : x.op = ⟨#[108, 97, 98, 101, 108]⟩) :
  Calls Tryz.prog 47 #[.pointer (some ⟨p.k, 0, none⟩), .int .i64 t] w fun e w' => e = .returned (.int .i64 0) /\ ∃ r v, RkStep cs p m.mem w r v (m.step L t) w' := by
 have hM : m.step L t = (m.setPc t (m.pc t + 1)).exec L t x := by unfold Mk.step; rw [hx]
 obtain ⟨M', hM'⟩ : ∃ M', M' = (m.setPc t (m.pc t + 1)).exec L t x := ⟨_, rfl⟩
 rw [hM, <- hM']
 rw [exec_label (m.setPc t (m.pc t + 1)) L t e] at hM'
 clear hM
 have HD := hide (rdone_at ht hx D.at')
 obtain ⟨xo, xa, xb, xc, xt⟩ := x
 dsimp only at e hM' ⊢
 subst e
 have HM' := hide hM'
 clear hM'
 obtain ⟨htl, h6, hpl, hL2, hcap, hcc, ti, t6, pi, hpc2, hpw, hpw2, hr8, HIN, HX, H, d0, hT⟩ := pfx1 D ht hx
 clear D
 go_enter Tryz.func47, Tryz.ntmps47
 go_wp2_with fail
 refine HD.out.mono ?_
 rintro e w1 ⟨rfl, hb1⟩
 clear HD hT
 obtain ⟨cb, off, H1, hT, hA, hR, had, c0, c1, c2, c3, c4, hC, lcb, lk, lt, lr, zt⟩ := pfx2 H HIN htl ht hx hb1
 dsimp only at c0 c1 c2 c3 c4
 obtain ⟨W2, hW2⟩ : ∃ W2, W2 = (w1.alloc (.cells #[.string ⟨#[108, 97, 98, 101, 108]⟩, .int .i64 xa, .int .i64 xb, .int .i64 xc, .string xt] 101)).drew := ⟨_, rfl⟩
 obtain ⟨b2, q0, q1, q2, q3, q4, lW2⟩ := box5d hW2
 clear HIN had
 go_wp2_with fail
 go_region
 rw [<- hW2]
 have P := pfx3a H htl hb1 b2 lW2
 replace hC := keep_cell b2 hC
 clear hT hA hR zt
 obtain ⟨B2, H2, hT, hA, hR, zt, dk, dr1, dr2, G2, nk, nt, nr, lk2, lt2, lr2⟩ := P
 obtain ⟨W3, hW3, S3, G3, HM3, HX3, y0, y1, y2, y3, y4, T3, R3, k3, lW3, G0⟩ := pfx3b HX htl (by omega) H2 G2 q0 q1 q2 q3 q4
 clear H2 c0 c1 c2 c3 c4 hb1 b2 B2 hW2 G2 S3 H1 lcb
 clear G0
 have HS := hide G3.out.step
 rw [hW3] at HS
 clear G3 HM3 HX3
 go_wp2
 go_ret
 exact ⟨rfl, _, _, by rw [HM'.out]; exact HS.out⟩
theorem rstep_fence (D : RkX cs p m K w) (ht : cs[t]? = some L) (hx : L[m.pc t]? = some x) (e : x.op = ⟨#[102, 101, 110, 99, 101]⟩) :
  Calls Tryz.prog 47 #[.pointer (some ⟨p.k, 0, none⟩), .int .i64 t] w fun e w' => e = .returned (.int .i64 0) /\ ∃ r v, RkStep cs p m.mem w r v (m.step L t) w' := by
 have hM : m.step L t = (m.setPc t (m.pc t + 1)).exec L t x := by unfold Mk.step; rw [hx]
 obtain ⟨M', hM'⟩ : ∃ M', M' = (m.setPc t (m.pc t + 1)).exec L t x := ⟨_, rfl⟩
 rw [hM, <- hM']
 rw [exec_fence (m.setPc t (m.pc t + 1)) L t e] at hM'
 clear hM
 have HD := hide (rdone_at ht hx D.at')
 obtain ⟨xo, xa, xb, xc, xt⟩ := x
 dsimp only at e hM' ⊢
 subst e
 have HM' := hide hM'
 clear hM'
 obtain ⟨htl, h6, hpl, hL2, hcap, hcc, ti, t6, pi, hpc2, hpw, hpw2, hr8, HIN, HX, H, d0, hT⟩ := pfx1 D ht hx
 clear D
 go_enter Tryz.func47, Tryz.ntmps47
 go_wp2_with fail
 refine HD.out.mono ?_
 rintro e w1 ⟨rfl, hb1⟩
 clear HD hT
 obtain ⟨cb, off, H1, hT, hA, hR, had, c0, c1, c2, c3, c4, hC, lcb, lk, lt, lr, zt⟩ := pfx2 H HIN htl ht hx hb1
 dsimp only at c0 c1 c2 c3 c4
 obtain ⟨W2, hW2⟩ : ∃ W2, W2 = (w1.alloc (.cells #[.string ⟨#[102, 101, 110, 99, 101]⟩, .int .i64 xa, .int .i64 xb, .int .i64 xc, .string xt] 101)).drew := ⟨_, rfl⟩
 obtain ⟨b2, q0, q1, q2, q3, q4, lW2⟩ := box5d hW2
 clear HIN had
 go_wp2_with fail
 go_region
 rw [<- hW2]
 have P := pfx3a H htl hb1 b2 lW2
 replace hC := keep_cell b2 hC
 clear hT hA hR zt
 obtain ⟨B2, H2, hT, hA, hR, zt, dk, dr1, dr2, G2, nk, nt, nr, lk2, lt2, lr2⟩ := P
 obtain ⟨W3, hW3, S3, G3, HM3, HX3, y0, y1, y2, y3, y4, T3, R3, k3, lW3, G0⟩ := pfx3b HX htl (by omega) H2 G2 q0 q1 q2 q3 q4
 clear H2 c0 c1 c2 c3 c4 hb1 b2 B2 hW2 G2 S3 H1 lcb
 clear G0
 have HF := hide (rkfence_any htl HM3.out (HX3.out.waits htl) (HX3.out.few htl) (by have := HX3.out.faults; omega))
 clear HM3 HX3
 go_wp2_with fail
 rw [<- hW3]
 clear hT hA hR hC zt q0 q1 q2 q3 q4 lW2 lk2 lt2 lr2 hW3
 refine HF.out.mono ?_
 rintro e w4 ⟨rfl, r, hk⟩
 have HS := hide (G3.out.step.trans hk)
 clear HF hk G3 y0 y1 y2 y3 y4 T3 R3 k3
 go_wp2
 go_ret
 exact ⟨rfl, _, _, by rw [HM'.out]; exact HS.out⟩
end
end Go.Proofs.YtaiigfcfmcicjaaGreatDoor
