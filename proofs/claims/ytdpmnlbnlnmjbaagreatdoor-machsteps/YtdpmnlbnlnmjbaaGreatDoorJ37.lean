import Derived.Test.YtdpmnlbnlnmjbaaGreatDoorJ34
import Derived.Deep.RegionHeld3
import Derived.Test.YtdpmnlbnlnmjbaaGreatDoorJ23
import Derived.Test.YtdpmnlbnlnmjbaaGreatDoorJ35
import Derived.Lib.QuietBelow
import Derived.BigQuiet
import Derived.Maps.AppendAt
import Derived.Test.YtdpmnlbnlnmjbaaGreatDoorJ06

/- RkN -/
namespace Go.Proofs.YtdpmnlbnlnmjbaaGreatDoor
open Go.RowKit Go.Extern.Stop Go.Stop Go.Extern Go.Sort

set_option maxRecDepth 20000 in
set_option maxHeartbeats 2000000 in
theorem rstep_store {cs : List (List Ins)} {p : RkPl} {m : Mk} {K t : Nat} {w : World} (D : RkX cs p m K w) {L : List Ins} (ht : cs[t]? = some L) {x : Ins} (hx : L[m.pc t]? = some x) (e : x.op = ⟨#[115, 116, 111, 114, 101]⟩) {i : Nat} (hi : i < 8) (ei : x.a = i) {j : Nat} (hj : j < 8) (ej : x.b = j) {k : Nat} (hk : k < 4) (ek : x.c = k) :
    Calls Tryz.prog 25 #[.pointer (some ⟨p.k, 0, none⟩), .int .i64 t] w fun e w' => e = .returned (.int .i64 0) ∧ ∃ r v, RkStep cs p m.mem w r v (m.step L t) w' := by
  have hM : m.step L t = (m.setPc t (m.pc t + 1)).exec L t x := by unfold Mk.step; rw [hx]
  obtain ⟨M', hM'⟩ : ∃ M', M' = (m.setPc t (m.pc t + 1)).exec L t x := ⟨_, rfl⟩
  rw [hM, ← hM']
  rw [exec_store (m.setPc t (m.pc t + 1)) L t e] at hM'
  clear hM
  rw [ei] at hM'
  rw [ej] at hM'
  rw [ek] at hM'
  simp only [Int.toNat_natCast] at hM'
  try simp only [show ∀ r, (m.setPc t (m.pc t + 1)).regs t r = m.regs t r from fun _ => rfl] at hM'
  have HD := hide (rdone_at ht hx D.at')
  obtain ⟨xo, xa, xb, xc, xt⟩ := x
  dsimp only at e ei ej ek hM' ⊢
  subst e ei ej ek
  have HM' := hide hM'
  clear hM'
  have htl := lt_of_get ht
  have h6 := D.at'.few
  have hpl := lt_of_get hx
  have hL2 := (D.right.right t L ht).1
  have hcap := D.at'.tcap
  have hcc := D.at'.ccap t L ht
  have ti : (t : Int) < cs.length := by omega
  have t6 : (t : Int) < 6 := by omega
  have pi : (m.pc t : Int) < L.length := by omega
  have hpc2 : m.pc t ≤ 2000 := D.ok.pcs t
  have hpw := wrapNext hpc2
  have hpw2 := wrapNext2 hpc2
  have hr8 := D.at'.rcap t htl
  have li : (i : Int) < 8 := by omega
  have lj : (j : Int) < 8 := by omega
  have lk : (k : Int) < 4 := by omega
  have HIN := hide (D.at'.rc.code ht)
  have HX := hide D
  have H := hide D.at'
  have d0 : decide ((t : Int) < 0) = false := by simp
  have hT := H.out.mT
  clear D
  go_enter Tryz.func25, Tryz.ntmps25
  go_wp2_with fail
  refine HD.out.mono ?_
  rintro e w1 ⟨rfl, hb1⟩
  clear HD hT
  have H1 := hide (H.out.below hb1)
  have HIN1 := hide (insAt_below HIN.out hb1)
  have hT := H1.out.mT
  have hA := H1.out.tAt t htl
  have hC := H1.out.tCode t L ht
  have hR := H1.out.tRegs t htl
  obtain ⟨cb, off, had, c0, c1, c2, c3, c4⟩ := HIN1.out _ _ hx
  dsimp only at c0 c1 c2 c3 c4
  rw [had] at hC
  have lcb : cb < w1.heap.size := World.block_lt_of_cell? _ _ c0
  have lk := H1.out.lk
  have lt := H1.out.lt'
  have lr := H1.out.lr htl
  have zt := H1.out.ft (t * 3 + 2)
  obtain ⟨W2, hW2⟩ : ∃ W2, W2 = (w1.alloc (.cells #[.string ⟨#[115, 116, 111, 114, 101]⟩, .int .i64 i, .int .i64 j, .int .i64 k, .string xt] 75)).drew := ⟨_, rfl⟩
  have b2 : Below w1.heap.size w1 W2 := by rw [hW2]; exact ((Below.refl _ _).alloc (Nat.le_refl _) _).drew
  have q0 : W2.cell? ⟨w1.heap.size, 0, none⟩ = some (.string ⟨#[115, 116, 111, 114, 101]⟩) := by rw [hW2]; simp
  have q1 : W2.cell? ⟨w1.heap.size, 1, none⟩ = some (.int .i64 i) := by rw [hW2]; simp
  have q2 : W2.cell? ⟨w1.heap.size, 2, none⟩ = some (.int .i64 j) := by rw [hW2]; simp
  have q3 : W2.cell? ⟨w1.heap.size, 3, none⟩ = some (.int .i64 k) := by rw [hW2]; simp
  have q4 : W2.cell? ⟨w1.heap.size, 4, none⟩ = some (.string xt) := by rw [hW2]; simp
  have lW2 : w1.heap.size < W2.heap.size := World.block_lt_of_cell? _ _ q0
  clear HIN HIN1 had
  go_wp2_with fail
  go_region
  rw [← hW2]
  have B2 := below_step hb1 b2
  have H2 := hide (H.out.below B2)
  replace hT := H2.out.mT
  replace hA := H2.out.tAt t htl
  replace hR := H2.out.tRegs t htl
  replace hC := keep_cell b2 hC
  replace zt := H2.out.ft (t * 3 + 2)
  have dk := H2.out.d1
  have dr1 := (H2.out.d2 t htl).1
  have dr2 := (H2.out.d2 t htl).2
  have G2 : Hid (Stg cs p m.mem w w1.heap.size p.rp p.mv m W2) := hide (Stg.first H.out B2 hb1.size lW2)
  obtain ⟨nk, nt, nr⟩ := G2.out.ne
  replace nr := nr t htl
  have lk2 : p.k < W2.heap.size := by omega
  have lt2 : p.tb < W2.heap.size := by omega
  have lr2 : p.rb t < W2.heap.size := by omega
  obtain ⟨W3, hW3⟩ : ∃ W3, W3 = W2.setCell ⟨p.tb, t * 3 + 2, none⟩ (.int .i64 ((m.pc t : Int) + 1)) := ⟨_, rfl⟩
  have S3 : Hid (RkStep cs p m.mem W2 p.rp p.mv (m.setPc t (m.pc t + 1)) W3) := hide (by rw [hW3]; exact H2.out.setPc htl (m.pc t + 1))
  have G3 : Hid (Stg cs p m.mem w w1.heap.size p.rp p.mv (m.setPc t (m.pc t + 1)) W3) := hide (G2.out.trans S3.out)
  have HM3 : Hid (RkAt cs p (m.setPc t (m.pc t + 1)) W3) := hide G3.out.step.at'
  have HX3 : Hid (RkX cs p (m.setPc t (m.pc t + 1)) K W3) := hide ⟨HM3.out, HX.out.ok.setPc t (by omega), HX.out.right, HX.out.hK⟩
  have y0 := G2.out.keep S3.out q0
  have y1 := G2.out.keep S3.out q1
  have y2 := G2.out.keep S3.out q2
  have y3 := G2.out.keep S3.out q3
  have y4 := G2.out.keep S3.out q4
  have T3 := HM3.out.mT
  have R3 := HM3.out.tRegs t htl
  have k3 := HM3.out.mM
  have lW3 : w1.heap.size < W3.heap.size := G3.out.lt
  have G0 : Hid (∀ r, r < 8 → W2.cell? ⟨p.rb t, r, none⟩ = some (.int .i64 (m.regs t r)) ∧ W2.frozen? ⟨p.rb t, r, none⟩ = false) := fun r hr => ⟨H2.out.regs t r htl hr, H2.out.fr t r htl⟩
  clear H2 c0 c1 c2 c3 c4 hb1 b2 B2 hW2 G2 S3 H1 lcb
  obtain ⟨fi, fzi⟩ := G0.out i (by omega)
  have gi : W3.cell? ⟨p.rb t, i, none⟩ = some (.int .i64 (m.regs t i)) := HM3.out.regs t i htl (by omega)
  obtain ⟨fj, fzj⟩ := G0.out j (by omega)
  have gj : W3.cell? ⟨p.rb t, j, none⟩ = some (.int .i64 (m.regs t j)) := HM3.out.regs t j htl (by omega)
  clear G0
  have hwd : Wd (m.regs t i) := HX3.out.ok.regs t i
  have hfl : (m.setPc t (m.pc t + 1)).faults ≤ 900000000 := HX3.out.faults
  have hx8 := HX3.out.few htl
  have hwj : Wd (m.regs t j) := HX3.out.ok.regs t j
  cases hy : (m.setPc t (m.pc t + 1)).names (m.regs t i)
  · have HQ : Hid (M' = (m.setPc t (m.pc t + 1)).addFault 1) := by show _ = _; rw [HM'.out]; unfold Mk.store; rw [hy]; rfl
    have HN := hide (rnames_no hwd HM3.out (by omega) hy)
    clear HM3 HX3 hwd hy HM'
    clear hwj
    generalize m.regs t j = Rj at *
    generalize m.regs t i = Ri at *
    go_wp2_with fail
    rw [← hW3]
    clear hT hA hR hC zt q0 q1 q2 q3 q4 lW2 lk2 lt2 lr2 hW3
    refine HN.out.mono ?_
    rintro e w4 ⟨⟨c4, g4, rfl⟩, k4⟩
    clear HN
    replace y1 := G3.out.keep k4 y1
    replace y2 := G3.out.keep k4 y2
    have G4 := hide (G3.out.trans k4)
    have HM4 := hide G4.out.step.at'
    have lr4 : p.rb t < w4.heap.size := HM4.out.lr htl
    have lx4 := G4.out.lt
    have HS := hide (G4.out.below ((Below.refl _ _).alloc (Nat.le_refl _) (.cells #[.int .i64 c4, .int .i64 g4] 95)))
    clear k4 G4 HM4 G3 T3 R3 k3 y0 y3 y4
    go_wp2
    go_ret
    exact ⟨rfl, _, _, by rw [HQ.out]; exact HS.out.step⟩
  · have HQ : Hid (M' = ((m.setPc t (m.pc t + 1)).room t).put t (m.regs t i) k (m.regs t j)) := by show _ = _; rw [HM'.out]; unfold Mk.store; rw [hy]; rfl
    have HST : Hid (∀ (r : RmPl) (m' : Mk) w', RkAt cs (p.to r p.mv) m' w' → (m'.mem.waits t).length < 8 → m'.names (m.regs t i) = true → Calls Tryz.prog 59 #[.pointer (some ⟨r.mb, 0, none⟩), .int .i64 t, .agg #[.int .i64 (cellOf (m.regs t i)), .int .i64 (genOf (m.regs t i))], .int .i64 k, .int .i64 (m.regs t j)] w' fun e w'' => e = .returned (.int .i64 0) ∧ Hid (∃ r', RkStep cs (p.to r p.mv) m'.mem w' r' p.mv (m'.put t (m.regs t i) k (m.regs t j)) w'')) := fun r m' w' h h8 hn => rk_store h htl h8 hn hk hwj
    have hxs := HX3.out.waits htl
    obtain ⟨kk, hck, hkk, hhas⟩ := HM3.out.cellAt hy
    have HN := hide (rnames_yes hwd HM3.out hy)
    rw [hck] at HN
    obtain ⟨Gn, hGn⟩ : ∃ Gn, Gn = genOf (m.regs t i) := ⟨_, rfl⟩
    rw [← hGn] at HN
    rw [hck, ← hGn] at HST
    have hthr : (m.setPc t (m.pc t + 1)).mem.threads = cs.length := HM3.out.thr
    have hHD : Hid (∀ w' x l, RkAt cs p (m.setPc t (m.pc t + 1)) w' → (m.setPc t (m.pc t + 1)).mem.waits t = x :: l → Calls Tryz.prog 58 #[.pointer (some ⟨p.rp.mb, 0, none⟩), .int .i64 t] w' fun e w'' => e = .returned (.int .i64 (if (m.setPc t (m.pc t + 1)).mem.ar.has x.c x.g = true then 0 else 7)) ∧ Hid (∃ r, RkStep cs p (m.setPc t (m.pc t + 1)).mem w' r p.mv ((m.setPc t (m.pc t + 1)).setMem ((m.setPc t (m.pc t + 1)).mem.drained t x l)) w'')) := fun w' x l h he => rk_drain h htl he (hxs x (by rw [he]; exact List.mem_cons_self)) hx8
    clear HM3 HX3 hwd hwj hhas HM' hck hGn hxs
    obtain ⟨Rj, RJ⟩ : ∃ Rj, m.regs t j = Rj := ⟨_, rfl⟩
    rw [RJ] at gj fj HST HQ
    go_wp2_with fail
    rw [← hW3]
    clear hT hA hR hC zt q0 q1 q2 q3 q4 lW2 lk2 lt2 lr2 hW3
    refine HN.out.mono ?_
    rintro e w4 ⟨rfl, hb4⟩
    clear HN
    have G4 := hide (G3.out.below hb4)
    have HM4 : Hid (RkAt cs p (m.setPc t (m.pc t + 1)) w4) := hide G4.out.step.at'
    obtain ⟨W5, hW5⟩ : ∃ W5, W5 = w4.alloc (.cells #[.int .i64 kk, .int .i64 Gn] 95) := ⟨_, rfl⟩
    have b5 : Below w4.heap.size w4 W5 := by rw [hW5]; exact (Below.refl _ _).alloc (Nat.le_refl _) _
    have G5 := hide (G4.out.below b5)
    have HM5 : Hid (RkAt cs p (m.setPc t (m.pc t + 1)) W5) := hide G5.out.step.at'
    have R5 := hide (G4.out.other (bx' := w4.heap.size) (Nat.le_refl _) b5 (by rw [hW5]; simp))
    have x0 : W5.cell? ⟨w4.heap.size, 0, none⟩ = some (.int .i64 kk) := by rw [hW5]; simp
    have x1 : W5.cell? ⟨w4.heap.size, 1, none⟩ = some (.int .i64 Gn) := by rw [hW5]; simp
    have p2 := keep_cell b5 (keep_cell hb4 y2)
    have p3 := keep_cell b5 (keep_cell hb4 y3)
    have uM : W5.cell? ⟨p.k, 0, none⟩ = some (.pointer (some ⟨p.rp.mb, 0, none⟩)) := HM5.out.mM
    have sj := keep_cell b5 (keep_cell hb4 gj)
    have u4 : w4.cell? ⟨p.k, 0, none⟩ = some (.pointer (some ⟨p.rp.mb, 0, none⟩)) := HM4.out.mM
    have t4 : w4.cell? ⟨p.rp.mb, 1, none⟩ = some (.slice (some ⟨p.rp.tb, 0, none⟩) (m.setPc t (m.pc t + 1)).mem.threads p.rp.tcap) := HM4.out.mem.mWaits
    have tc4 : (m.setPc t (m.pc t + 1)).mem.threads ≤ p.rp.tcap := HM4.out.mem.tcap
    obtain ⟨uv, uown⟩ := HM4.out.mem.waits t (by rw [hthr]; exact htl)
    obtain ⟨uad, ucap, uvs, -, -, -⟩ := ownsRow_shape uown
    rw [uvs] at uv
    rw [hthr] at t4 tc4
    clear uown uvs
    have q4k : p.k < w4.heap.size := HM4.out.lk
    have q4m : p.rp.mb < w4.heap.size := HM4.out.mem.lm
    have q4t : p.rp.tb < w4.heap.size := HM4.out.mem.lt
    clear b5 hb4 G3 G4 HM4 y0 y1 y2 y3 y4 gi gj T3 R3 k3
    by_cases h8 : ((m.setPc t (m.pc t + 1)).mem.waits t).length < 8
    · have HR : Hid ((m.setPc t (m.pc t + 1)).room t = (m.setPc t (m.pc t + 1))) := by show _ = _; unfold Mk.room; rw [if_neg (by omega)]
      have HS5 := hide (HST.out p.rp (m.setPc t (m.pc t + 1)) (W5.drewN 1) (HM5.out.drewN 1) h8 hy)
      have h8i : ((((m.setPc t (m.pc t + 1)).mem.waits t).length : Nat) : Int) < 8 := by omega
      clear HST hy hx8 h8 R5 HM5 hHD
      generalize ((m.setPc t (m.pc t + 1)).mem.waits t).length = N8 at *
      go_wp2_with fail
      rw [← hW5]
      clear hW5 u4 t4 uv
      refine wp_region_F (S := (fun w' => w'.cell? ⟨p.k, 0, none⟩ = some (.pointer (some ⟨p.rp.mb, 0, none⟩)) ∧ w'.cell? ⟨w4.heap.size, 0, none⟩ = some (.int .i64 kk) ∧ w'.cell? ⟨w4.heap.size, 1, none⟩ = some (.int .i64 Gn) ∧ w'.cell? ⟨w1.heap.size, 2, none⟩ = some (.int .i64 j) ∧ w'.cell? ⟨w1.heap.size, 3, none⟩ = some (.int .i64 k) ∧ w'.cell? ⟨p.rb t, j, none⟩ = some (.int .i64 Rj))) (by kernel_rfl) (by (try dsimp only); go_keep) (fun hHeld => ?_)
      refine' wpAnyF_take (i := 0) (n := 13) (v := _) rfl (by kernel_rfl) (fun _ _ _ h => h) (by assumption) (Or.inl ⟨by rfl, ?hy53⟩) ?rest53
      case' hy53 => (intro w' hSw; (try dsimp only at hSw); go_simp; try with_reducible rfl)
      try simp only [Act.put, List.getElem_toArray, List.getElem_cons_zero, List.setIfInBounds_toArray, List.set_cons_zero, List.set_cons_succ]
      refine' wpAnyF_take (i := 1) (n := 13) (v := _) rfl (by kernel_rfl) (fun _ _ _ h => h) (by assumption) (Or.inl ⟨by rfl, ?hy54⟩) ?rest54
      case' hy54 => (intro w' hSw; (try dsimp only at hSw); go_simp; try with_reducible rfl)
      try simp only [Act.put, List.getElem_toArray, List.getElem_cons_zero, List.getElem_cons_succ, List.setIfInBounds_toArray, List.set_cons_zero, List.set_cons_succ]
      refine' wpAnyF_take (i := 2) (n := 13) (v := _) rfl (by kernel_rfl) (fun _ _ _ h => h) (by assumption) (Or.inl ⟨by rfl, ?hy55⟩) ?rest55
      case' hy55 => (intro w' hSw; (try dsimp only at hSw); go_simp; try with_reducible rfl)
      try simp only [Act.put, List.getElem_toArray, List.getElem_cons_zero, List.getElem_cons_succ, List.setIfInBounds_toArray, List.set_cons_zero, List.set_cons_succ]
      refine' wpAnyF_take (i := 3) (n := 13) (v := _) rfl (by kernel_rfl) (fun _ _ _ h => h) (by assumption) (Or.inl ⟨by rfl, ?hy56⟩) ?rest56
      case' hy56 => (intro w' hSw; (try dsimp only at hSw); go_simp; try with_reducible rfl)
      try simp only [Act.put, List.getElem_toArray, List.getElem_cons_zero, List.getElem_cons_succ, List.setIfInBounds_toArray, List.set_cons_zero, List.set_cons_succ]
      refine' wpAnyF_take (i := 4) (n := 13) (v := _) rfl (by kernel_rfl) (fun _ _ _ h => h) (by assumption) (Or.inl ⟨by rfl, ?hy57⟩) ?rest57
      case' hy57 => (intro w' hSw; (try dsimp only at hSw); go_simp; try with_reducible rfl)
      try simp only [Act.put, List.getElem_toArray, List.getElem_cons_zero, List.getElem_cons_succ, List.setIfInBounds_toArray, List.set_cons_zero, List.set_cons_succ]
      refine' wpAnyF_take (i := 5) (n := 13) (v := _) rfl (by kernel_rfl) (fun _ _ _ h => h) (by assumption) (Or.inl ⟨by rfl, ?hy58⟩) ?rest58
      case' hy58 => (intro w' hSw; (try dsimp only at hSw); go_simp; try with_reducible rfl)
      try simp only [Act.put, List.getElem_toArray, List.getElem_cons_zero, List.getElem_cons_succ, List.setIfInBounds_toArray, List.set_cons_zero, List.set_cons_succ]
      refine' wpAnyF_take (i := 6) (n := 13) (v := _) rfl (by kernel_rfl) (fun _ _ _ h => h) (by assumption) (Or.inl ⟨by rfl, ?hy59⟩) ?rest59
      case' hy59 => (intro w' hSw; (try dsimp only at hSw); go_simp; try with_reducible rfl)
      try simp only [Act.put, List.getElem_toArray, List.getElem_cons_zero, List.getElem_cons_succ, List.setIfInBounds_toArray, List.set_cons_zero, List.set_cons_succ]
      refine' wpAnyF_take (i := 7) (n := 13) (v := _) rfl (by kernel_rfl) (fun _ _ _ h => h) (by assumption) (Or.inl ⟨by rfl, ?hy60⟩) ?rest60
      case' hy60 => (intro w' hSw; (try dsimp only at hSw); go_simp; try with_reducible rfl)
      try simp only [Act.put, List.getElem_toArray, List.getElem_cons_zero, List.getElem_cons_succ, List.setIfInBounds_toArray, List.set_cons_zero, List.set_cons_succ]
      refine' wpAnyF_take (i := 8) (n := 13) (v := _) rfl (by kernel_rfl) (fun _ _ _ h => h) (by assumption) (Or.inl ⟨by rfl, ?hy61⟩) ?rest61
      case' hy61 => (intro w' hSw; (try dsimp only at hSw); go_simp; try with_reducible rfl)
      try simp only [Act.put, List.getElem_toArray, List.getElem_cons_zero, List.getElem_cons_succ, List.setIfInBounds_toArray, List.set_cons_zero, List.set_cons_succ]
      refine' wpAnyF_take (i := 9) (n := 13) (v := _) rfl (by kernel_rfl) (fun _ _ _ h => h) (by assumption) (Or.inl ⟨by rfl, ?hy62⟩) ?rest62
      case' hy62 => (intro w' hSw; (try dsimp only at hSw); go_simp; try with_reducible rfl)
      try simp only [Act.put, List.getElem_toArray, List.getElem_cons_zero, List.getElem_cons_succ, List.setIfInBounds_toArray, List.set_cons_zero, List.set_cons_succ]
      refine' wpAnyF_take (i := 10) (n := 13) (v := _) rfl (by kernel_rfl) (fun _ _ _ h => h) (by assumption) (Or.inl ⟨by rfl, ?hy63⟩) ?rest63
      case' hy63 => (intro w' hSw; (try dsimp only at hSw); go_simp; try with_reducible rfl)
      try simp only [Act.put, List.getElem_toArray, List.getElem_cons_zero, List.getElem_cons_succ, List.setIfInBounds_toArray, List.set_cons_zero, List.set_cons_succ]
      refine' wpAnyF_take (i := 11) (n := 13) (v := _) rfl (by kernel_rfl) (fun _ _ _ h => h) (by assumption) (Or.inl ⟨by rfl, ?hy64⟩) ?rest64
      case' hy64 => (intro w' hSw; (try dsimp only at hSw); go_simp; try with_reducible rfl)
      try simp only [Act.put, List.getElem_toArray, List.getElem_cons_zero, List.getElem_cons_succ, List.setIfInBounds_toArray, List.set_cons_zero, List.set_cons_succ]
      refine' wpAnyF_take (i := 12) (n := 13) (v := _) rfl (by kernel_rfl) (fun _ _ _ h => h) (by assumption) (Or.inl ⟨by rfl, ?hy65⟩) ?rest65
      case' hy65 => (intro w' hSw; (try dsimp only at hSw); go_simp; try with_reducible rfl)
      try simp only [Act.put, List.getElem_toArray, List.getElem_cons_zero, List.getElem_cons_succ, List.setIfInBounds_toArray, List.set_cons_zero, List.set_cons_succ]
      refine wpAnyF_only (i := 13) rfl (by kernel_rfl) (fun K hK => ?_)
      go_simp
      go_at_call 59
      refine HS5.out.mono ?_
      rintro e w9 ⟨rfl, k9⟩
      dsimp only
      refine hK.out _ _ (Or.inl (by kernel_rfl)) ?_
      clear hK K
      try simp only [Act.put, List.getElem_toArray, List.getElem_cons_zero, List.getElem_cons_succ, List.setIfInBounds_toArray, List.set_cons_zero, List.set_cons_succ]
      refine wpAnyF_done (by kernel_rfl) ?_ _
      go_wp2
      go_ret
      obtain ⟨r9, k10⟩ := k9.out
      exact ⟨rfl, _, _, by rw [HQ.out, HR.out]; exact (G5.out.below (Below.drewN' 1)).step.trans k10⟩
    · obtain ⟨x, l, he⟩ : ∃ x l, (m.setPc t (m.pc t + 1)).mem.waits t = x :: l := by
        cases hh : (m.setPc t (m.pc t + 1)).mem.waits t with
        | nil => rw [hh] at h8; exact absurd (show 0 < 8 by decide) h8
        | cons x l => exact ⟨x, l, rfl⟩
      have h8i : ¬ ((((m.setPc t (m.pc t + 1)).mem.waits t).length : Nat) : Int) < 8 := by omega
      have h8j : (8 : Int) ≤ ((((m.setPc t (m.pc t + 1)).mem.waits t).length : Nat) : Int) := by omega
      have hl8 : l.length < 8 := by rw [he, List.length_cons] at hx8; omega
      have HD5 := hide (hHD.out W5 x l HM5.out he)
      have hdn : ((m.setPc t (m.pc t + 1)).setMem ((m.setPc t (m.pc t + 1)).mem.drained t x l)).names (m.regs t i) = true := by rw [← hy]; unfold Mk.names; rw [show ((m.setPc t (m.pc t + 1)).setMem ((m.setPc t (m.pc t + 1)).mem.drained t x l)).mem = (m.setPc t (m.pc t + 1)).mem.drained t x l from rfl, Ar.has_drained]
      have hdw : (((m.setPc t (m.pc t + 1)).setMem ((m.setPc t (m.pc t + 1)).mem.drained t x l)).mem.waits t).length < 8 := by rw [show ((m.setPc t (m.pc t + 1)).setMem ((m.setPc t (m.pc t + 1)).mem.drained t x l)).mem = (m.setPc t (m.pc t + 1)).mem.drained t x l from rfl, Rm.drained_waits]; exact hl8
      have HR0 : Hid ((m.setPc t (m.pc t + 1)).room t = if (m.setPc t (m.pc t + 1)).mem.ar.has x.c x.g = true then (m.setPc t (m.pc t + 1)).setMem ((m.setPc t (m.pc t + 1)).mem.drained t x l) else ((m.setPc t (m.pc t + 1)).setMem ((m.setPc t (m.pc t + 1)).mem.drained t x l)).addFault 1) := by
        show _ = _
        unfold Mk.room Mk.drain1
        rw [if_pos (by omega), he]
        by_cases hh : (m.setPc t (m.pc t + 1)).mem.ar.has x.c x.g = true
        · simp only [if_pos hh]; rfl
        · simp only [if_neg hh]; rfl
      clear hHD hy hx8 h8 he HM5
      generalize ((m.setPc t (m.pc t + 1)).mem.waits t).length = N8 at *
      cases hh : (m.setPc t (m.pc t + 1)).mem.ar.has x.c x.g
      · have HR : Hid ((m.setPc t (m.pc t + 1)).room t = ((m.setPc t (m.pc t + 1)).setMem ((m.setPc t (m.pc t + 1)).mem.drained t x l)).addFault 1) := by show _ = _; rw [HR0.out, hh]; rfl
        rw [hh, if_neg (by decide)] at HD5
        clear HR0 hh hl8
        go_wp2_with fail
        rw [← hW5]
        clear hW5 u4 t4 uv
        refine HD5.out.mono ?_
        rintro e w6 ⟨rfl, k6⟩
        clear HD5
        obtain ⟨r, k6⟩ := k6.out
        replace x0 := R5.out.keep k6 x0
        replace x1 := R5.out.keep k6 x1
        replace p2 := G5.out.keep k6 p2
        replace p3 := G5.out.keep k6 p3
        have G6 := hide (G5.out.trans k6)
        have R6 := hide (R5.out.trans k6)
        have HM6 : Hid (RkAt cs (p.to r p.mv) ((m.setPc t (m.pc t + 1)).setMem ((m.setPc t (m.pc t + 1)).mem.drained t x l)) w6) := hide G6.out.step.at'
        have hf6 : w6.cell? ⟨p.k, 3, none⟩ = some (.int .i64 m.faults) := HM6.out.mFaults
        have hz6 : w6.frozen? ⟨p.k, 3, none⟩ = false := HM6.out.fk 3
        have hfl2 : m.faults ≤ 900000000 := hfl
        have kF : RkStep cs (p.to r p.mv) ((m.setPc t (m.pc t + 1)).setMem ((m.setPc t (m.pc t + 1)).mem.drained t x l)).mem w6 r p.mv (((m.setPc t (m.pc t + 1)).setMem ((m.setPc t (m.pc t + 1)).mem.drained t x l)).addFault 1) (w6.setCell ⟨p.k, 3, none⟩ (.int .i64 ((m.faults : Int) + 1))) := HM6.out.addFault 1
        obtain ⟨W7, hW7⟩ : ∃ W7, W7 = w6.setCell ⟨p.k, 3, none⟩ (.int .i64 ((m.faults : Int) + 1)) := ⟨_, rfl⟩
        rw [← hW7] at kF
        have z0 := R6.out.keep kF x0
        have z1 := R6.out.keep kF x1
        have z2 := G6.out.keep kF p2
        have z3 := G6.out.keep kF p3
        have G7 := hide (G6.out.trans kF)
        have HM7 : Hid (RkAt cs (p.to r p.mv) (((m.setPc t (m.pc t + 1)).setMem ((m.setPc t (m.pc t + 1)).mem.drained t x l)).addFault 1) W7) := hide G7.out.step.at'
        have HS5 := hide (HST.out r (((m.setPc t (m.pc t + 1)).setMem ((m.setPc t (m.pc t + 1)).mem.drained t x l)).addFault 1) (W7.drewN 1) (HM7.out.drewN 1) hdw hdn)
        have zM : W7.cell? ⟨p.k, 0, none⟩ = some (.pointer (some ⟨r.mb, 0, none⟩)) := HM7.out.mM
        have zj : W7.cell? ⟨p.rb t, j, none⟩ = some (.int .i64 (m.regs t j)) := HM7.out.regs t j htl hj
        have um6 : w6.cell? ⟨p.k, 0, none⟩ = some (.pointer (some ⟨r.mb, 0, none⟩)) := HM6.out.mM
        rw [RJ] at zj
        clear HST G6 R6 HM6 kF k6 R5 HM7 uM sj hdw hdn
        generalize m.faults = N at *
        go_wp2_with fail
        rw [← hW7]
        clear hW7 hf6 hz6 x0 x1 p2 p3 um6
        refine wp_region_F (S := (fun w' => w'.cell? ⟨p.k, 0, none⟩ = some (.pointer (some ⟨r.mb, 0, none⟩)) ∧ w'.cell? ⟨w4.heap.size, 0, none⟩ = some (.int .i64 kk) ∧ w'.cell? ⟨w4.heap.size, 1, none⟩ = some (.int .i64 Gn) ∧ w'.cell? ⟨w1.heap.size, 2, none⟩ = some (.int .i64 j) ∧ w'.cell? ⟨w1.heap.size, 3, none⟩ = some (.int .i64 k) ∧ w'.cell? ⟨p.rb t, j, none⟩ = some (.int .i64 Rj))) (by kernel_rfl) (by (try dsimp only); go_keep) (fun hHeld => ?_)
        refine' wpAnyF_take (i := 0) (n := 13) (v := _) rfl (by kernel_rfl) (fun _ _ _ h => h) (by assumption) (Or.inl ⟨by rfl, ?hy66⟩) ?rest66
        case' hy66 => (intro w' hSw; (try dsimp only at hSw); go_simp; try with_reducible rfl)
        try simp only [Act.put, List.getElem_toArray, List.getElem_cons_zero, List.setIfInBounds_toArray, List.set_cons_zero, List.set_cons_succ]
        refine' wpAnyF_take (i := 1) (n := 13) (v := _) rfl (by kernel_rfl) (fun _ _ _ h => h) (by assumption) (Or.inl ⟨by rfl, ?hy67⟩) ?rest67
        case' hy67 => (intro w' hSw; (try dsimp only at hSw); go_simp; try with_reducible rfl)
        try simp only [Act.put, List.getElem_toArray, List.getElem_cons_zero, List.getElem_cons_succ, List.setIfInBounds_toArray, List.set_cons_zero, List.set_cons_succ]
        refine' wpAnyF_take (i := 2) (n := 13) (v := _) rfl (by kernel_rfl) (fun _ _ _ h => h) (by assumption) (Or.inl ⟨by rfl, ?hy68⟩) ?rest68
        case' hy68 => (intro w' hSw; (try dsimp only at hSw); go_simp; try with_reducible rfl)
        try simp only [Act.put, List.getElem_toArray, List.getElem_cons_zero, List.getElem_cons_succ, List.setIfInBounds_toArray, List.set_cons_zero, List.set_cons_succ]
        refine' wpAnyF_take (i := 3) (n := 13) (v := _) rfl (by kernel_rfl) (fun _ _ _ h => h) (by assumption) (Or.inl ⟨by rfl, ?hy69⟩) ?rest69
        case' hy69 => (intro w' hSw; (try dsimp only at hSw); go_simp; try with_reducible rfl)
        try simp only [Act.put, List.getElem_toArray, List.getElem_cons_zero, List.getElem_cons_succ, List.setIfInBounds_toArray, List.set_cons_zero, List.set_cons_succ]
        refine' wpAnyF_take (i := 4) (n := 13) (v := _) rfl (by kernel_rfl) (fun _ _ _ h => h) (by assumption) (Or.inl ⟨by rfl, ?hy70⟩) ?rest70
        case' hy70 => (intro w' hSw; (try dsimp only at hSw); go_simp; try with_reducible rfl)
        try simp only [Act.put, List.getElem_toArray, List.getElem_cons_zero, List.getElem_cons_succ, List.setIfInBounds_toArray, List.set_cons_zero, List.set_cons_succ]
        refine' wpAnyF_take (i := 5) (n := 13) (v := _) rfl (by kernel_rfl) (fun _ _ _ h => h) (by assumption) (Or.inl ⟨by rfl, ?hy71⟩) ?rest71
        case' hy71 => (intro w' hSw; (try dsimp only at hSw); go_simp; try with_reducible rfl)
        try simp only [Act.put, List.getElem_toArray, List.getElem_cons_zero, List.getElem_cons_succ, List.setIfInBounds_toArray, List.set_cons_zero, List.set_cons_succ]
        refine' wpAnyF_take (i := 6) (n := 13) (v := _) rfl (by kernel_rfl) (fun _ _ _ h => h) (by assumption) (Or.inl ⟨by rfl, ?hy72⟩) ?rest72
        case' hy72 => (intro w' hSw; (try dsimp only at hSw); go_simp; try with_reducible rfl)
        try simp only [Act.put, List.getElem_toArray, List.getElem_cons_zero, List.getElem_cons_succ, List.setIfInBounds_toArray, List.set_cons_zero, List.set_cons_succ]
        refine' wpAnyF_take (i := 7) (n := 13) (v := _) rfl (by kernel_rfl) (fun _ _ _ h => h) (by assumption) (Or.inl ⟨by rfl, ?hy73⟩) ?rest73
        case' hy73 => (intro w' hSw; (try dsimp only at hSw); go_simp; try with_reducible rfl)
        try simp only [Act.put, List.getElem_toArray, List.getElem_cons_zero, List.getElem_cons_succ, List.setIfInBounds_toArray, List.set_cons_zero, List.set_cons_succ]
        refine' wpAnyF_take (i := 8) (n := 13) (v := _) rfl (by kernel_rfl) (fun _ _ _ h => h) (by assumption) (Or.inl ⟨by rfl, ?hy74⟩) ?rest74
        case' hy74 => (intro w' hSw; (try dsimp only at hSw); go_simp; try with_reducible rfl)
        try simp only [Act.put, List.getElem_toArray, List.getElem_cons_zero, List.getElem_cons_succ, List.setIfInBounds_toArray, List.set_cons_zero, List.set_cons_succ]
        refine' wpAnyF_take (i := 9) (n := 13) (v := _) rfl (by kernel_rfl) (fun _ _ _ h => h) (by assumption) (Or.inl ⟨by rfl, ?hy75⟩) ?rest75
        case' hy75 => (intro w' hSw; (try dsimp only at hSw); go_simp; try with_reducible rfl)
        try simp only [Act.put, List.getElem_toArray, List.getElem_cons_zero, List.getElem_cons_succ, List.setIfInBounds_toArray, List.set_cons_zero, List.set_cons_succ]
        refine' wpAnyF_take (i := 10) (n := 13) (v := _) rfl (by kernel_rfl) (fun _ _ _ h => h) (by assumption) (Or.inl ⟨by rfl, ?hy76⟩) ?rest76
        case' hy76 => (intro w' hSw; (try dsimp only at hSw); go_simp; try with_reducible rfl)
        try simp only [Act.put, List.getElem_toArray, List.getElem_cons_zero, List.getElem_cons_succ, List.setIfInBounds_toArray, List.set_cons_zero, List.set_cons_succ]
        refine' wpAnyF_take (i := 11) (n := 13) (v := _) rfl (by kernel_rfl) (fun _ _ _ h => h) (by assumption) (Or.inl ⟨by rfl, ?hy77⟩) ?rest77
        case' hy77 => (intro w' hSw; (try dsimp only at hSw); go_simp; try with_reducible rfl)
        try simp only [Act.put, List.getElem_toArray, List.getElem_cons_zero, List.getElem_cons_succ, List.setIfInBounds_toArray, List.set_cons_zero, List.set_cons_succ]
        refine' wpAnyF_take (i := 12) (n := 13) (v := _) rfl (by kernel_rfl) (fun _ _ _ h => h) (by assumption) (Or.inl ⟨by rfl, ?hy78⟩) ?rest78
        case' hy78 => (intro w' hSw; (try dsimp only at hSw); go_simp; try with_reducible rfl)
        try simp only [Act.put, List.getElem_toArray, List.getElem_cons_zero, List.getElem_cons_succ, List.setIfInBounds_toArray, List.set_cons_zero, List.set_cons_succ]
        refine wpAnyF_only (i := 13) rfl (by kernel_rfl) (fun K hK => ?_)
        go_simp
        go_at_call 59
        refine HS5.out.mono ?_
        rintro e w9 ⟨rfl, k9⟩
        dsimp only
        refine hK.out _ _ (Or.inl (by kernel_rfl)) ?_
        clear hK K
        try simp only [Act.put, List.getElem_toArray, List.getElem_cons_zero, List.getElem_cons_succ, List.setIfInBounds_toArray, List.set_cons_zero, List.set_cons_succ]
        refine wpAnyF_done (by kernel_rfl) ?_ _
        go_wp2
        go_ret
        obtain ⟨r9, k10⟩ := k9.out
        exact ⟨rfl, _, _, by rw [HQ.out, HR.out]; exact (G7.out.below (Below.drewN' 1)).step.trans k10⟩
      · have HR : Hid ((m.setPc t (m.pc t + 1)).room t = (m.setPc t (m.pc t + 1)).setMem ((m.setPc t (m.pc t + 1)).mem.drained t x l)) := by show _ = _; rw [HR0.out, hh]; rfl
        rw [hh, if_pos rfl] at HD5
        clear HR0 hh hl8
        go_wp2_with fail
        rw [← hW5]
        clear hW5 u4 t4 uv
        refine HD5.out.mono ?_
        rintro e w6 ⟨rfl, k6⟩
        clear HD5
        obtain ⟨r, k6⟩ := k6.out
        replace x0 := R5.out.keep k6 x0
        replace x1 := R5.out.keep k6 x1
        replace p2 := G5.out.keep k6 p2
        replace p3 := G5.out.keep k6 p3
        have G6 := hide (G5.out.trans k6)
        have HM6 : Hid (RkAt cs (p.to r p.mv) ((m.setPc t (m.pc t + 1)).setMem ((m.setPc t (m.pc t + 1)).mem.drained t x l)) w6) := hide G6.out.step.at'
        have HS5 := hide (HST.out r ((m.setPc t (m.pc t + 1)).setMem ((m.setPc t (m.pc t + 1)).mem.drained t x l)) (w6.drewN 1) (HM6.out.drewN 1) hdw hdn)
        have zM : w6.cell? ⟨p.k, 0, none⟩ = some (.pointer (some ⟨r.mb, 0, none⟩)) := HM6.out.mM
        have zj : w6.cell? ⟨p.rb t, j, none⟩ = some (.int .i64 (m.regs t j)) := HM6.out.regs t j htl hj
        rw [RJ] at zj
        clear HST HM6 k6 R5 uM sj hdw hdn
        go_wp2_with fail
        refine wp_region_F (S := (fun w' => w'.cell? ⟨p.k, 0, none⟩ = some (.pointer (some ⟨r.mb, 0, none⟩)) ∧ w'.cell? ⟨w4.heap.size, 0, none⟩ = some (.int .i64 kk) ∧ w'.cell? ⟨w4.heap.size, 1, none⟩ = some (.int .i64 Gn) ∧ w'.cell? ⟨w1.heap.size, 2, none⟩ = some (.int .i64 j) ∧ w'.cell? ⟨w1.heap.size, 3, none⟩ = some (.int .i64 k) ∧ w'.cell? ⟨p.rb t, j, none⟩ = some (.int .i64 Rj))) (by kernel_rfl) (by (try dsimp only); go_keep) (fun hHeld => ?_)
        refine' wpAnyF_take (i := 0) (n := 13) (v := _) rfl (by kernel_rfl) (fun _ _ _ h => h) (by assumption) (Or.inl ⟨by rfl, ?hy79⟩) ?rest79
        case' hy79 => (intro w' hSw; (try dsimp only at hSw); go_simp; try with_reducible rfl)
        try simp only [Act.put, List.getElem_toArray, List.getElem_cons_zero, List.setIfInBounds_toArray, List.set_cons_zero, List.set_cons_succ]
        refine' wpAnyF_take (i := 1) (n := 13) (v := _) rfl (by kernel_rfl) (fun _ _ _ h => h) (by assumption) (Or.inl ⟨by rfl, ?hy80⟩) ?rest80
        case' hy80 => (intro w' hSw; (try dsimp only at hSw); go_simp; try with_reducible rfl)
        try simp only [Act.put, List.getElem_toArray, List.getElem_cons_zero, List.getElem_cons_succ, List.setIfInBounds_toArray, List.set_cons_zero, List.set_cons_succ]
        refine' wpAnyF_take (i := 2) (n := 13) (v := _) rfl (by kernel_rfl) (fun _ _ _ h => h) (by assumption) (Or.inl ⟨by rfl, ?hy81⟩) ?rest81
        case' hy81 => (intro w' hSw; (try dsimp only at hSw); go_simp; try with_reducible rfl)
        try simp only [Act.put, List.getElem_toArray, List.getElem_cons_zero, List.getElem_cons_succ, List.setIfInBounds_toArray, List.set_cons_zero, List.set_cons_succ]
        refine' wpAnyF_take (i := 3) (n := 13) (v := _) rfl (by kernel_rfl) (fun _ _ _ h => h) (by assumption) (Or.inl ⟨by rfl, ?hy82⟩) ?rest82
        case' hy82 => (intro w' hSw; (try dsimp only at hSw); go_simp; try with_reducible rfl)
        try simp only [Act.put, List.getElem_toArray, List.getElem_cons_zero, List.getElem_cons_succ, List.setIfInBounds_toArray, List.set_cons_zero, List.set_cons_succ]
        refine' wpAnyF_take (i := 4) (n := 13) (v := _) rfl (by kernel_rfl) (fun _ _ _ h => h) (by assumption) (Or.inl ⟨by rfl, ?hy83⟩) ?rest83
        case' hy83 => (intro w' hSw; (try dsimp only at hSw); go_simp; try with_reducible rfl)
        try simp only [Act.put, List.getElem_toArray, List.getElem_cons_zero, List.getElem_cons_succ, List.setIfInBounds_toArray, List.set_cons_zero, List.set_cons_succ]
        refine' wpAnyF_take (i := 5) (n := 13) (v := _) rfl (by kernel_rfl) (fun _ _ _ h => h) (by assumption) (Or.inl ⟨by rfl, ?hy84⟩) ?rest84
        case' hy84 => (intro w' hSw; (try dsimp only at hSw); go_simp; try with_reducible rfl)
        try simp only [Act.put, List.getElem_toArray, List.getElem_cons_zero, List.getElem_cons_succ, List.setIfInBounds_toArray, List.set_cons_zero, List.set_cons_succ]
        refine' wpAnyF_take (i := 6) (n := 13) (v := _) rfl (by kernel_rfl) (fun _ _ _ h => h) (by assumption) (Or.inl ⟨by rfl, ?hy85⟩) ?rest85
        case' hy85 => (intro w' hSw; (try dsimp only at hSw); go_simp; try with_reducible rfl)
        try simp only [Act.put, List.getElem_toArray, List.getElem_cons_zero, List.getElem_cons_succ, List.setIfInBounds_toArray, List.set_cons_zero, List.set_cons_succ]
        refine' wpAnyF_take (i := 7) (n := 13) (v := _) rfl (by kernel_rfl) (fun _ _ _ h => h) (by assumption) (Or.inl ⟨by rfl, ?hy86⟩) ?rest86
        case' hy86 => (intro w' hSw; (try dsimp only at hSw); go_simp; try with_reducible rfl)
        try simp only [Act.put, List.getElem_toArray, List.getElem_cons_zero, List.getElem_cons_succ, List.setIfInBounds_toArray, List.set_cons_zero, List.set_cons_succ]
        refine' wpAnyF_take (i := 8) (n := 13) (v := _) rfl (by kernel_rfl) (fun _ _ _ h => h) (by assumption) (Or.inl ⟨by rfl, ?hy87⟩) ?rest87
        case' hy87 => (intro w' hSw; (try dsimp only at hSw); go_simp; try with_reducible rfl)
        try simp only [Act.put, List.getElem_toArray, List.getElem_cons_zero, List.getElem_cons_succ, List.setIfInBounds_toArray, List.set_cons_zero, List.set_cons_succ]
        refine' wpAnyF_take (i := 9) (n := 13) (v := _) rfl (by kernel_rfl) (fun _ _ _ h => h) (by assumption) (Or.inl ⟨by rfl, ?hy88⟩) ?rest88
        case' hy88 => (intro w' hSw; (try dsimp only at hSw); go_simp; try with_reducible rfl)
        try simp only [Act.put, List.getElem_toArray, List.getElem_cons_zero, List.getElem_cons_succ, List.setIfInBounds_toArray, List.set_cons_zero, List.set_cons_succ]
        refine' wpAnyF_take (i := 10) (n := 13) (v := _) rfl (by kernel_rfl) (fun _ _ _ h => h) (by assumption) (Or.inl ⟨by rfl, ?hy89⟩) ?rest89
        case' hy89 => (intro w' hSw; (try dsimp only at hSw); go_simp; try with_reducible rfl)
        try simp only [Act.put, List.getElem_toArray, List.getElem_cons_zero, List.getElem_cons_succ, List.setIfInBounds_toArray, List.set_cons_zero, List.set_cons_succ]
        refine' wpAnyF_take (i := 11) (n := 13) (v := _) rfl (by kernel_rfl) (fun _ _ _ h => h) (by assumption) (Or.inl ⟨by rfl, ?hy90⟩) ?rest90
        case' hy90 => (intro w' hSw; (try dsimp only at hSw); go_simp; try with_reducible rfl)
        try simp only [Act.put, List.getElem_toArray, List.getElem_cons_zero, List.getElem_cons_succ, List.setIfInBounds_toArray, List.set_cons_zero, List.set_cons_succ]
        refine' wpAnyF_take (i := 12) (n := 13) (v := _) rfl (by kernel_rfl) (fun _ _ _ h => h) (by assumption) (Or.inl ⟨by rfl, ?hy91⟩) ?rest91
        case' hy91 => (intro w' hSw; (try dsimp only at hSw); go_simp; try with_reducible rfl)
        try simp only [Act.put, List.getElem_toArray, List.getElem_cons_zero, List.getElem_cons_succ, List.setIfInBounds_toArray, List.set_cons_zero, List.set_cons_succ]
        refine wpAnyF_only (i := 13) rfl (by kernel_rfl) (fun K hK => ?_)
        go_simp
        go_at_call 59
        refine HS5.out.mono ?_
        rintro e w9 ⟨rfl, k9⟩
        dsimp only
        refine hK.out _ _ (Or.inl (by kernel_rfl)) ?_
        clear hK K
        try simp only [Act.put, List.getElem_toArray, List.getElem_cons_zero, List.getElem_cons_succ, List.setIfInBounds_toArray, List.set_cons_zero, List.set_cons_succ]
        refine wpAnyF_done (by kernel_rfl) ?_ _
        go_wp2
        go_ret
        obtain ⟨r9, k10⟩ := k9.out
        exact ⟨rfl, _, _, by rw [HQ.out, HR.out]; exact (G6.out.below (Below.drewN' 1)).step.trans k10⟩
end Go.Proofs.YtdpmnlbnlnmjbaaGreatDoor

/- RkJ -/
namespace Go.Proofs.YtdpmnlbnlnmjbaaGreatDoor
open Go.RowKit Go.Extern.Stop Go.Stop Go.Extern

theorem rmarkInfo : ∃ i, Tryz.prog.info? 126 = some i ∧ i.zero = some (.agg #[.int .i64 0, .int .i64 0]) ∧ i.size = 2 ∧ i.bytes = 16 := info_parts (by kernel_rfl)

theorem RkAt.marked {cs : List (List Ins)} {p : RkPl} {m : Mk} {w w6 : World} (h : RkAt cs p m w) (v : Value) (l : List (Nat × Int))
    (hown : w6.ownsRow 0 126 2 v l.length (rmarkCells l)) (hT : Turns (fun k _ => p.mv.ownBlock = some k) w w6) (hk : ∀ k, v.ownBlock = some k → p.mv.ownBlock = some k ∨ w.heap.size ≤ k) :
    RkStep cs p m.mem w p.rp v { m with marks := l } (w6.setCell ⟨p.k, 2, none⟩ v) := by
  have nk : ∀ o : Nat, ¬ (fun k (_ : Nat) => p.mv.ownBlock = some k) p.k o := fun _ e => (h.d4 _ e).1 rfl
  have nt : ∀ o : Nat, ¬ (fun k (_ : Nat) => p.mv.ownBlock = some k) p.tb o := fun _ e => (h.d4 _ e).2.1 rfl
  have nr : ∀ t (o : Nat), t < cs.length → ¬ (fun k (_ : Nat) => p.mv.ownBlock = some k) (p.rb t) o := fun t _ ht e => (h.d4 _ e).2.2 t ht rfl
  have nv : ∀ k, v.ownBlock = some k → k ≠ p.k ∧ k ≠ p.tb ∧ ∀ t, t < cs.length → k ≠ p.rb t := fun k e => by
    rcases hk k e with e | e
    · exact h.d4 k e
    · have h1 := h.lk
      have h2 := h.lt'
      exact ⟨by omega, by omega, fun t ht => by have := h.lr ht; omega⟩
  have T : Turns (fun k o => k = p.k ∧ o = 2) w6 (w6.setCell ⟨p.k, 2, none⟩ v) := (Turns.refl _ _).setCell _ ⟨rfl, rfl⟩
  have T2 : Turns (fun k _ => p.mv.ownBlock = some k ∨ k = p.k) w (w6.setCell ⟨p.k, 2, none⟩ v) := (hT.mono fun _ _ _ e => Or.inl e).setCell _ (Or.inr rfl)
  have hB : ∀ k, p.mv.ownBlock = some k ∨ k = p.k → p.B ≤ k := fun k e => by
    rcases e with e | e
    · exact h.ge k (.inr (.inr (.inr (.inl e))))
    · exact h.ge k (.inl e)
  have dk := h.d1
  have fz1 : ∀ o, (w6.setCell ⟨p.k, 2, none⟩ v).frozen? ⟨p.k, o, none⟩ = false := fun o => by rw [World.frozen?_setCell, hT.frozen _ _ h.lk (nk o)]; exact h.fk o
  have fz2 : ∀ o, (w6.setCell ⟨p.k, 2, none⟩ v).frozen? ⟨p.tb, o, none⟩ = false := fun o => by rw [World.frozen?_setCell, hT.frozen _ _ h.lt' (nt o)]; exact h.ft o
  have fz3 : ∀ t o, t < cs.length → (w6.setCell ⟨p.k, 2, none⟩ v).frozen? ⟨p.rb t, o, none⟩ = false := fun t o ht => by rw [World.frozen?_setCell, hT.frozen _ _ (h.lr ht) (nr t o ht)]; exact h.fr t o ht
  refine ⟨⟨h.rc.turns T2 (fun k _ e => hB k e), h.mem.turns T2 (fun k o e1 e => ?_), h.thr, h.few, h.tcap, cell_ne (hT.keep h.mM (nk 0)) (Or.inr (by decide)), cell_ne (hT.keep h.mT (nk 1)) (Or.inr (by decide)),
      World.cell?_setCell_same _ _ _ (hT.keep h.mMarks (nk 2)), cell_ne (hT.keep h.mFaults (nk 3)) (Or.inr (by decide)),
      fun i L hi => cell_ne (hT.keep (h.tCode i L hi) (nt (i * 3))) (Or.inl dk.symm), h.ccap, fun i hi => cell_ne (hT.keep (h.tRegs i hi) (nt (i * 3 + 1))) (Or.inl dk.symm), fun i hi => cell_ne (hT.keep (h.tAt i hi) (nt (i * 3 + 2))) (Or.inl dk.symm), h.rcap,
      fun i k hi hk => cell_ne (hT.keep (h.regs i k hi hk) (nr i k hi)) (Or.inl (h.d2 i hi).1),
      ownsRow_block hown fun k hk => Below.heap_setCell _ _ _ _ (nv k hk).1,
      fz1, fz2, fz3, by rw [World.size_setCell]; exact Nat.lt_of_lt_of_le h.lt' hT.size, h.d1, h.d2, h.d3, nv, fun k e1 => ?_, fun k e1 => ?_⟩, ?_, fun k e1 => ?_, rfl⟩
  · rcases e with e | e
    · exact (h.d5 k e1).2.2.2 e
    · exact (h.d5 k e1).1 e
  · obtain ⟨g1, g2, g3, g4⟩ := h.d5 k e1
    refine ⟨g1, g2, g3, fun e => ?_⟩
    rcases hk k e with e | e
    · exact g4 e
    · have := h.mem.fp_lt e1; omega
  · rcases e1 with e | e | e | e | e
    · exact h.ge k (.inl e)
    · exact h.ge k (.inr (.inl e))
    · exact h.ge k (.inr (.inr (.inl e)))
    · rcases hk k e with e | e
      · exact h.ge k (.inr (.inr (.inr (.inl e))))
      · have := h.rc.size; show p.B ≤ k; omega
    · exact h.ge k (.inr (.inr (.inr (.inr e))))
  · refine T2.mono fun k _ _ e => ?_
    rcases e with e | e
    · exact .inr (.inr (.inr (.inl e)))
    · exact .inl e
  · rcases e1 with e | e | e | e | e
    · exact .inl (.inl e)
    · exact .inl (.inr (.inl e))
    · exact .inl (.inr (.inr (.inl e)))
    · rcases hk k e with e | e
      · exact .inl (.inr (.inr (.inr (.inl e))))
      · exact .inr e
    · exact .inl (.inr (.inr (.inr (.inr e))))
end Go.Proofs.YtdpmnlbnlnmjbaaGreatDoor

/- RkO -/
namespace Go.Proofs.YtdpmnlbnlnmjbaaGreatDoor
open Go.RowKit Go.Extern.Stop Go.Stop Go.Extern Go.Sort

set_option maxRecDepth 20000 in
set_option maxHeartbeats 2000000 in
theorem rstep_mark {cs : List (List Ins)} {p : RkPl} {m : Mk} {K t : Nat} {w : World} (D : RkX cs p m K w) {L : List Ins} (ht : cs[t]? = some L) {x : Ins} (hx : L[m.pc t]? = some x) (e : x.op = ⟨#[109, 97, 114, 107]⟩) {i : Nat} (hi : i < 8) (ei : x.a = i) :
    Calls Tryz.prog 25 #[.pointer (some ⟨p.k, 0, none⟩), .int .i64 t] w fun e w' => e = .returned (.int .i64 0) ∧ ∃ r v, RkStep cs p m.mem w r v (m.step L t) w' := by
  have hM : m.step L t = (m.setPc t (m.pc t + 1)).exec L t x := by unfold Mk.step; rw [hx]
  obtain ⟨M', hM'⟩ : ∃ M', M' = (m.setPc t (m.pc t + 1)).exec L t x := ⟨_, rfl⟩
  rw [hM, ← hM']
  rw [exec_mark (m.setPc t (m.pc t + 1)) L t e] at hM'
  clear hM
  rw [ei] at hM'
  simp only [Int.toNat_natCast] at hM'
  try simp only [show ∀ r, (m.setPc t (m.pc t + 1)).regs t r = m.regs t r from fun _ => rfl] at hM'
  have HD := hide (rdone_at ht hx D.at')
  obtain ⟨xo, xa, xb, xc, xt⟩ := x
  dsimp only at e ei hM' ⊢
  subst e ei
  have HM' := hide hM'
  clear hM'
  have htl := lt_of_get ht
  have h6 := D.at'.few
  have hpl := lt_of_get hx
  have hL2 := (D.right.right t L ht).1
  have hcap := D.at'.tcap
  have hcc := D.at'.ccap t L ht
  have ti : (t : Int) < cs.length := by omega
  have t6 : (t : Int) < 6 := by omega
  have pi : (m.pc t : Int) < L.length := by omega
  have hpc2 : m.pc t ≤ 2000 := D.ok.pcs t
  have hpw := wrapNext hpc2
  have hpw2 := wrapNext2 hpc2
  have hr8 := D.at'.rcap t htl
  have li : (i : Int) < 8 := by omega
  have HIN := hide (D.at'.rc.code ht)
  have HX := hide D
  have H := hide D.at'
  have d0 : decide ((t : Int) < 0) = false := by simp
  have hT := H.out.mT
  clear D
  go_enter Tryz.func25, Tryz.ntmps25
  go_wp2_with fail
  refine HD.out.mono ?_
  rintro e w1 ⟨rfl, hb1⟩
  clear HD hT
  have H1 := hide (H.out.below hb1)
  have HIN1 := hide (insAt_below HIN.out hb1)
  have hT := H1.out.mT
  have hA := H1.out.tAt t htl
  have hC := H1.out.tCode t L ht
  have hR := H1.out.tRegs t htl
  obtain ⟨cb, off, had, c0, c1, c2, c3, c4⟩ := HIN1.out _ _ hx
  dsimp only at c0 c1 c2 c3 c4
  rw [had] at hC
  have lcb : cb < w1.heap.size := World.block_lt_of_cell? _ _ c0
  have lk := H1.out.lk
  have lt := H1.out.lt'
  have lr := H1.out.lr htl
  have zt := H1.out.ft (t * 3 + 2)
  obtain ⟨W2, hW2⟩ : ∃ W2, W2 = (w1.alloc (.cells #[.string ⟨#[109, 97, 114, 107]⟩, .int .i64 i, .int .i64 xb, .int .i64 xc, .string xt] 75)).drew := ⟨_, rfl⟩
  have b2 : Below w1.heap.size w1 W2 := by rw [hW2]; exact ((Below.refl _ _).alloc (Nat.le_refl _) _).drew
  have q0 : W2.cell? ⟨w1.heap.size, 0, none⟩ = some (.string ⟨#[109, 97, 114, 107]⟩) := by rw [hW2]; simp
  have q1 : W2.cell? ⟨w1.heap.size, 1, none⟩ = some (.int .i64 i) := by rw [hW2]; simp
  have q2 : W2.cell? ⟨w1.heap.size, 2, none⟩ = some (.int .i64 xb) := by rw [hW2]; simp
  have q3 : W2.cell? ⟨w1.heap.size, 3, none⟩ = some (.int .i64 xc) := by rw [hW2]; simp
  have q4 : W2.cell? ⟨w1.heap.size, 4, none⟩ = some (.string xt) := by rw [hW2]; simp
  have lW2 : w1.heap.size < W2.heap.size := World.block_lt_of_cell? _ _ q0
  clear HIN HIN1 had
  go_wp2_with fail
  go_region
  rw [← hW2]
  have B2 := below_step hb1 b2
  have H2 := hide (H.out.below B2)
  replace hT := H2.out.mT
  replace hA := H2.out.tAt t htl
  replace hR := H2.out.tRegs t htl
  replace hC := keep_cell b2 hC
  replace zt := H2.out.ft (t * 3 + 2)
  have dk := H2.out.d1
  have dr1 := (H2.out.d2 t htl).1
  have dr2 := (H2.out.d2 t htl).2
  have G2 : Hid (Stg cs p m.mem w w1.heap.size p.rp p.mv m W2) := hide (Stg.first H.out B2 hb1.size lW2)
  obtain ⟨nk, nt, nr⟩ := G2.out.ne
  replace nr := nr t htl
  have lk2 : p.k < W2.heap.size := by omega
  have lt2 : p.tb < W2.heap.size := by omega
  have lr2 : p.rb t < W2.heap.size := by omega
  obtain ⟨W3, hW3⟩ : ∃ W3, W3 = W2.setCell ⟨p.tb, t * 3 + 2, none⟩ (.int .i64 ((m.pc t : Int) + 1)) := ⟨_, rfl⟩
  have S3 : Hid (RkStep cs p m.mem W2 p.rp p.mv (m.setPc t (m.pc t + 1)) W3) := hide (by rw [hW3]; exact H2.out.setPc htl (m.pc t + 1))
  have G3 : Hid (Stg cs p m.mem w w1.heap.size p.rp p.mv (m.setPc t (m.pc t + 1)) W3) := hide (G2.out.trans S3.out)
  have HM3 : Hid (RkAt cs p (m.setPc t (m.pc t + 1)) W3) := hide G3.out.step.at'
  have HX3 : Hid (RkX cs p (m.setPc t (m.pc t + 1)) K W3) := hide ⟨HM3.out, HX.out.ok.setPc t (by omega), HX.out.right, HX.out.hK⟩
  have y0 := G2.out.keep S3.out q0
  have y1 := G2.out.keep S3.out q1
  have y2 := G2.out.keep S3.out q2
  have y3 := G2.out.keep S3.out q3
  have y4 := G2.out.keep S3.out q4
  have HK2 := hide H2.out.mMarks
  have T3 := HM3.out.mT
  have R3 := HM3.out.tRegs t htl
  have k3 := HM3.out.mM
  have lW3 : w1.heap.size < W3.heap.size := G3.out.lt
  have G0 : Hid (∀ r, r < 8 → W2.cell? ⟨p.rb t, r, none⟩ = some (.int .i64 (m.regs t r)) ∧ W2.frozen? ⟨p.rb t, r, none⟩ = false) := fun r hr => ⟨H2.out.regs t r htl hr, H2.out.fr t r htl⟩
  clear H2 c0 c1 c2 c3 c4 hb1 b2 B2 hW2 G2 S3 H1 lcb
  obtain ⟨fi, fzi⟩ := G0.out i (by omega)
  have gi : W3.cell? ⟨p.rb t, i, none⟩ = some (.int .i64 (m.regs t i)) := HM3.out.regs t i htl (by omega)
  clear G0
  obtain ⟨ad, cap, hvs, hcl, hcm, -⟩ := ownsRow_shape HM3.out.own
  have hv := HM3.out.own
  rw [hvs] at hv
  rw [show (m.setPc t (m.pc t + 1)).marks = m.marks from rfl] at hv hvs hcl
  have hm : W3.cell? ⟨p.k, 2, none⟩ = some (.slice ad m.marks.length cap) := by rw [← hvs]; exact HM3.out.mMarks
  have hm2 : W2.cell? ⟨p.k, 2, none⟩ = some (.slice ad m.marks.length cap) := by rw [← hvs]; exact HK2.out
  clear HK2
  have zk : W3.frozen? ⟨p.k, 2, none⟩ = false := HM3.out.fk 2
  have lk3 : p.k < W3.heap.size := HM3.out.lk
  have lr3 : p.rb t < W3.heap.size := HM3.out.lr htl
  have hml5 := HX3.out.ok.marks
  rw [show (m.setPc t (m.pc t + 1)).marks = m.marks from rfl] at hml5
  by_cases hl : m.marks.length < 500
  · have HQ : Hid (M' = { (m.setPc t (m.pc t + 1)) with marks := m.marks ++ [(t, m.regs t i)] }) := by show _ = _; rw [HM'.out]; unfold Mk.mark; rw [if_pos (show (m.setPc t (m.pc t + 1)).marks.length < 500 from hl)]; rfl
    have hli : (m.marks.length : Int) < 500 := by omega
    obtain ⟨ri, hri, hrz, hrs, hrb⟩ := rmarkInfo
    have om : (Value.slice ad m.marks.length cap).ownBlock ≠ some p.k := fun e => (HM3.out.d4 _ (by rw [hvs]; exact e)).1 rfl
    have orr : (Value.slice ad m.marks.length cap).ownBlock ≠ some (p.rb t) := fun e => (HM3.out.d4 _ (by rw [hvs]; exact e)).2.2 t htl rfl
    have ob : (Value.slice ad m.marks.length cap).ownBlock ≠ some w1.heap.size := fun e => G3.out.nfp (.inr (.inr (.inr (.inl (by show p.mv.ownBlock = _; rw [hvs]; exact e)))))
    have HV := hide hvs
    have hml : m.marks.length + 1 ≤ maxLen := by unfold maxLen; omega
    have hmb : (m.marks.length + 1) * 16 ≤ 140737488355328 := by omega
    clear HX3 HM' hvs hcl hcm hl hml5
    generalize m.regs t i = Ri at *
    go_wp2_with fail
    rw [← hW3]
    clear hT hA hR hC zt q0 q1 q2 q3 q4 lW2 lk2 lt2 lr2 hW3 hm2 fi fzi
    go_region_held3 (fun w' => w'.cell? ⟨p.k, 2, none⟩ = some (.slice ad m.marks.length cap) ∧ w'.cell? ⟨w1.heap.size, 1, none⟩ = some (.int .i64 i) ∧ w'.cell? ⟨p.rb t, i, none⟩ = some (.int .i64 Ri))
      (first
        | go_keep
        | (go_split_ands
           refine ⟨?_, ?_, ?_⟩
           · (rw [hgrow.cell_far _ (by simp; omega) (Ne.symm om)]; assumption)
           · (rw [hgrow.cell_far _ (by simp; omega) (Ne.symm ob)]; assumption)
           · (rw [hgrow.cell_far _ (by simp; omega) (Ne.symm orr)]; assumption)))
      ((refine step_append_at _ (by rfl) _ _ _ (by rfl) 0 126 ri _ 2 16 Tryz.underlying60 hri hrz hrs hrb rfl (by omega) (.slice ad m.marks.length cap) _ (rmarkCells m.marks) (by rfl) ((hv.alloc _).drew)
          ⟨W3.heap.size, 0, none⟩ 1 1 [.int .i64 t, .int .i64 Ri] (by rfl) (by rfl) (World.news_of_block (cs := #[.int .i64 t, .int .i64 Ri]) (t := 126) (fr := (0, 0)) (heap_alloc_new W3 _)) (by simp [Value.oneCell'])
          hml hmb (by simp) ?_; intro gg gcap w6 hown6 hgrow hat))
    obtain ⟨j1, j2, j3⟩ := ‹_ ∧ _ ∧ _›
    have hg : ∀ b, b < W3.heap.size → (Value.slice ad m.marks.length cap).ownBlock ≠ some b → w6.heap[b]? = W3.heap[b]? := fun b hb hne => by
      rw [hgrow.block b (by simp; omega) (Ne.symm hne)]
      exact Below.heap_alloc _ _ _ hb
    have hz : W3.heap.size ≤ w6.heap.size := Nat.le_trans (by simp) hgrow.size
    have hf6 : w6.frozen? ⟨p.k, 2, none⟩ = false := by rw [World.frozen?_of_block (hg p.k lk3 om)]; exact zk
    have HT : Turns (fun k _ => p.mv.ownBlock = some k) W3 w6 := ⟨hgrow.os, hgrow.tape, hgrow.output, hz, fun k hk ho => hg k hk (fun e => ho 0 (by rw [HV.out]; exact e)),
      fun k o hk ho => World.cell?_of_block (hg k hk (fun e => ho (by rw [HV.out]; exact e))), fun k o hk ho => World.frozen?_of_block (hg k hk (fun e => ho (by rw [HV.out]; exact e)))⟩
    have HS := hide (G3.out.step.trans (HM3.out.marked (.slice gg (m.marks.length + 1) gcap) (m.marks ++ [(t, Ri)]) (by rw [rmarkCells_append, List.length_append]; exact hown6) HT (fun k e => by
      rcases hat with e2 | e2
      · left; rw [HV.out, ← e2]; exact e
      · right; rw [e2] at e; simp at e; omega)))
    clear hown6 hgrow hat hg HT HM3 G3 HV hri hrz hrs hrb hv hm zk om orr ob
    go_wp2
    go_ret
    exact ⟨rfl, _, _, by rw [HQ.out]; exact HS.out⟩
  · have HQ : Hid (M' = (m.setPc t (m.pc t + 1))) := by show _ = _; rw [HM'.out]; unfold Mk.mark; rw [if_neg (show ¬ (m.setPc t (m.pc t + 1)).marks.length < 500 from hl)]
    have hli : ¬ (m.marks.length : Int) < 500 := by omega
    have HS := hide G3.out.step
    rw [hW3] at HS
    clear G3 HM3 HX3 HM' hv hvs hl
    go_wp2
    go_ret
    exact ⟨rfl, _, _, by rw [HQ.out]; exact HS.out⟩

set_option maxRecDepth 20000 in
set_option maxHeartbeats 2000000 in
theorem rstep_force {cs : List (List Ins)} {p : RkPl} {m : Mk} {K t : Nat} {w : World} (D : RkX cs p m K w) {L : List Ins} (ht : cs[t]? = some L) {x : Ins} (hx : L[m.pc t]? = some x) (e : x.op = ⟨#[102, 111, 114, 99, 101]⟩) :
    Calls Tryz.prog 25 #[.pointer (some ⟨p.k, 0, none⟩), .int .i64 t] w fun e w' => e = .returned (.int .i64 0) ∧ ∃ r v, RkStep cs p m.mem w r v (m.step L t) w' := by
  have hM : m.step L t = (m.setPc t (m.pc t + 1)).exec L t x := by unfold Mk.step; rw [hx]
  obtain ⟨M', hM'⟩ : ∃ M', M' = (m.setPc t (m.pc t + 1)).exec L t x := ⟨_, rfl⟩
  rw [hM, ← hM']
  rw [exec_force (m.setPc t (m.pc t + 1)) L t e] at hM'
  clear hM
  have HD := hide (rdone_at ht hx D.at')
  obtain ⟨xo, xa, xb, xc, xt⟩ := x
  dsimp only at e hM' ⊢
  subst e
  have HM' := hide hM'
  clear hM'
  have htl := lt_of_get ht
  have h6 := D.at'.few
  have hpl := lt_of_get hx
  have hL2 := (D.right.right t L ht).1
  have hcap := D.at'.tcap
  have hcc := D.at'.ccap t L ht
  have ti : (t : Int) < cs.length := by omega
  have t6 : (t : Int) < 6 := by omega
  have pi : (m.pc t : Int) < L.length := by omega
  have hpc2 : m.pc t ≤ 2000 := D.ok.pcs t
  have hpw := wrapNext hpc2
  have hpw2 := wrapNext2 hpc2
  have hr8 := D.at'.rcap t htl
  have HIN := hide (D.at'.rc.code ht)
  have HX := hide D
  have H := hide D.at'
  have d0 : decide ((t : Int) < 0) = false := by simp
  have hT := H.out.mT
  clear D
  go_enter Tryz.func25, Tryz.ntmps25
  go_wp2_with fail
  refine HD.out.mono ?_
  rintro e w1 ⟨rfl, hb1⟩
  clear HD hT
  have H1 := hide (H.out.below hb1)
  have HIN1 := hide (insAt_below HIN.out hb1)
  have hT := H1.out.mT
  have hA := H1.out.tAt t htl
  have hC := H1.out.tCode t L ht
  have hR := H1.out.tRegs t htl
  obtain ⟨cb, off, had, c0, c1, c2, c3, c4⟩ := HIN1.out _ _ hx
  dsimp only at c0 c1 c2 c3 c4
  rw [had] at hC
  have lcb : cb < w1.heap.size := World.block_lt_of_cell? _ _ c0
  have lk := H1.out.lk
  have lt := H1.out.lt'
  have lr := H1.out.lr htl
  have zt := H1.out.ft (t * 3 + 2)
  obtain ⟨W2, hW2⟩ : ∃ W2, W2 = (w1.alloc (.cells #[.string ⟨#[102, 111, 114, 99, 101]⟩, .int .i64 xa, .int .i64 xb, .int .i64 xc, .string xt] 75)).drew := ⟨_, rfl⟩
  have b2 : Below w1.heap.size w1 W2 := by rw [hW2]; exact ((Below.refl _ _).alloc (Nat.le_refl _) _).drew
  have q0 : W2.cell? ⟨w1.heap.size, 0, none⟩ = some (.string ⟨#[102, 111, 114, 99, 101]⟩) := by rw [hW2]; simp
  have q1 : W2.cell? ⟨w1.heap.size, 1, none⟩ = some (.int .i64 xa) := by rw [hW2]; simp
  have q2 : W2.cell? ⟨w1.heap.size, 2, none⟩ = some (.int .i64 xb) := by rw [hW2]; simp
  have q3 : W2.cell? ⟨w1.heap.size, 3, none⟩ = some (.int .i64 xc) := by rw [hW2]; simp
  have q4 : W2.cell? ⟨w1.heap.size, 4, none⟩ = some (.string xt) := by rw [hW2]; simp
  have lW2 : w1.heap.size < W2.heap.size := World.block_lt_of_cell? _ _ q0
  clear HIN HIN1 had
  go_wp2_with fail
  go_region
  rw [← hW2]
  have B2 := below_step hb1 b2
  have H2 := hide (H.out.below B2)
  replace hT := H2.out.mT
  replace hA := H2.out.tAt t htl
  replace hR := H2.out.tRegs t htl
  replace hC := keep_cell b2 hC
  replace zt := H2.out.ft (t * 3 + 2)
  have dk := H2.out.d1
  have dr1 := (H2.out.d2 t htl).1
  have dr2 := (H2.out.d2 t htl).2
  have G2 : Hid (Stg cs p m.mem w w1.heap.size p.rp p.mv m W2) := hide (Stg.first H.out B2 hb1.size lW2)
  obtain ⟨nk, nt, nr⟩ := G2.out.ne
  replace nr := nr t htl
  have lk2 : p.k < W2.heap.size := by omega
  have lt2 : p.tb < W2.heap.size := by omega
  have lr2 : p.rb t < W2.heap.size := by omega
  obtain ⟨W3, hW3⟩ : ∃ W3, W3 = W2.setCell ⟨p.tb, t * 3 + 2, none⟩ (.int .i64 ((m.pc t : Int) + 1)) := ⟨_, rfl⟩
  have S3 : Hid (RkStep cs p m.mem W2 p.rp p.mv (m.setPc t (m.pc t + 1)) W3) := hide (by rw [hW3]; exact H2.out.setPc htl (m.pc t + 1))
  have G3 : Hid (Stg cs p m.mem w w1.heap.size p.rp p.mv (m.setPc t (m.pc t + 1)) W3) := hide (G2.out.trans S3.out)
  have HM3 : Hid (RkAt cs p (m.setPc t (m.pc t + 1)) W3) := hide G3.out.step.at'
  have HX3 : Hid (RkX cs p (m.setPc t (m.pc t + 1)) K W3) := hide ⟨HM3.out, HX.out.ok.setPc t (by omega), HX.out.right, HX.out.hK⟩
  have y0 := G2.out.keep S3.out q0
  have y1 := G2.out.keep S3.out q1
  have y2 := G2.out.keep S3.out q2
  have y3 := G2.out.keep S3.out q3
  have y4 := G2.out.keep S3.out q4
  have T3 := HM3.out.mT
  have R3 := HM3.out.tRegs t htl
  have k3 := HM3.out.mM
  have lW3 : w1.heap.size < W3.heap.size := G3.out.lt
  have G0 : Hid (∀ r, r < 8 → W2.cell? ⟨p.rb t, r, none⟩ = some (.int .i64 (m.regs t r)) ∧ W2.frozen? ⟨p.rb t, r, none⟩ = false) := fun r hr => ⟨H2.out.regs t r htl hr, H2.out.fr t r htl⟩
  clear H2 c0 c1 c2 c3 c4 hb1 b2 B2 hW2 G2 S3 H1 lcb
  clear G0
  have hthr : (m.setPc t (m.pc t + 1)).mem.threads = cs.length := HM3.out.thr
  have hN := HX3.out.ok.thr
  rw [hthr] at HM'
  have HI : Hid (∃ mj r, Stg cs p m.mem w w1.heap.size r p.mv mj W3 ∧ MkIn cs.length K (64 * K + 8 * 0) mj ∧ mj.fenceFrom 0 (cs.length - 0) = M') := hide ⟨_, _, G3.out, HX3.out.ok.in, HM'.out.symm⟩
  have hKK := HX3.out.hK
  have T3' : ∀ (r : RmPl) (mj : Mk) (wr : World), Hid (Stg cs p m.mem w w1.heap.size r p.mv mj wr) → wr.cell? ⟨p.k, 1, none⟩ = some (.slice (some ⟨p.tb, 0, none⟩) cs.length p.tcap) := fun r mj wr h => h.out.step.at'.mT
  clear HM3 HX3 hthr hN HM'
  go_wp2_with fail
  rw [← hW3]
  clear hT hA hR hC zt q0 q1 q2 q3 q4 lW2 lk2 lt2 lr2 hW3
  clear y0 y1 y2 y3 y4 T3 R3 k3 G3
  go_loopw [29] (fun i wr => ∃ j : Nat, j ≤ cs.length ∧ i = .int .i64 j ∧ ∃ mj r, Hid (Stg cs p m.mem w w1.heap.size r p.mv mj wr ∧ MkIn cs.length K (64 * K + 8 * j) mj ∧ mj.fenceFrom j (cs.length - j) = M')) (fun i _ => cs.length - (intOf i).toNat)
  case atStart =>
    obtain ⟨mj, r, hh⟩ := HI.out
    exact ⟨0, Nat.zero_le _, rfl, mj, r, hide hh⟩
  case round =>
    clear HI
    obtain ⟨j, hj, rfl, mj, r, HH⟩ := hrel
    have TT := T3' r mj wr (hide HH.out.1)
    by_cases hlt : j < cs.length
    · have ji : (j : Int) < cs.length := by omega
      have HF := hide (rkfence_any hlt HH.out.1.step.at' (HH.out.2.1.mem.ok j (by rw [HH.out.2.1.thr]; exact hlt)) (HH.out.2.1.mem.few j (by rw [HH.out.2.1.thr]; exact hlt)) (by have := HH.out.2.1.faults; omega))
      go_wp2_with fail
      refine HF.out.mono ?_
      rintro e w4 ⟨rfl, r2, k4⟩
      have H2 : Hid (Stg cs p m.mem w w1.heap.size r2 p.mv (mj.fence j) w4 ∧ MkIn cs.length K (64 * K + 8 * (j + 1)) (mj.fence j) ∧ (mj.fence j).fenceFrom (j + 1) (cs.length - (j + 1)) = M') := hide ⟨HH.out.1.trans k4, by have := HH.out.2.1.fence hlt; exact this, by
        have := HH.out.2.2
        rw [show cs.length - j = (cs.length - (j + 1)) + 1 by omega] at this
        exact this⟩
      clear k4 HF HH TT
      go_wp2
      go_roundw
      case rel => exact ⟨j + 1, by omega, by go_num, _, _, H2⟩
      case measure => simp [intOf]; omega
    · obtain rfl : j = cs.length := by omega
      have HZ : Hid (mj = M') := by
        have := HH.out.2.2
        rw [Nat.sub_self] at this
        exact this
      go_wp2
      go_ret
      exact ⟨rfl, _, _, by rw [← HZ.out]; exact HH.out.1.step⟩
end Go.Proofs.YtdpmnlbnlnmjbaaGreatDoor
