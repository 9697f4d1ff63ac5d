import Derived.Test.YtdpmnlbnlnmjbaaGreatDoorK35
import Derived.Deep.RegionHeld3
import Derived.Test.YtdpmnlbnlnmjbaaGreatDoorK23
import Derived.Lib.QuietBelow
import Derived.BigQuiet

/- RkI -/
namespace Go.Proofs.YtdpmnlbnlnmjbaaGreatDoor
open Go.RowKit Go.Extern.Stop Go.Stop Go.Extern Go.Sort

theorem rnames_has {m : Mk} {n : Int} (h : m.names n = true) : m.mem.ar.has (cellOf n) (genOf n) = true := ((Bool.and_eq_true _ _).mp h).2
theorem boxAfter0 (w : World) (a : Addr) (v : Value) (x y : Int) : ((w.setCell a v).alloc (.cells #[.int .i64 x, .int .i64 y] 95)).cell? ⟨w.heap.size, 0, none⟩ = some (.int .i64 x) := by
  have h := World.size_setCell w a v
  generalize w.setCell a v = W at *
  rw [← h]; simp
theorem boxAfter1 (w : World) (a : Addr) (v : Value) (x y : Int) : ((w.setCell a v).alloc (.cells #[.int .i64 x, .int .i64 y] 95)).cell? ⟨w.heap.size, 1, none⟩ = some (.int .i64 y) := by
  have h := World.size_setCell w a v
  generalize w.setCell a v = W at *
  rw [← h]; simp
theorem Mk.setWord_self (m : Mk) (c k : Nat) : m.setMem (m.mem.setWord c k (m.mem.ar.words c k)) = m := by
  have : m.mem.setWord c k (m.mem.ar.words c k) = m.mem := by
    simp only [Rm.setWord, Ar.setWord]
    congr 2
    funext a b
    by_cases h : a = c ∧ b = k
    · rw [if_pos h, h.1, h.2]
    · rw [if_neg h]
  rw [this]; rfl
theorem Ar.has_drained (s : Rm) (t : Nat) (x : Wt) (l : List Wt) (c g : Int) : (s.drained t x l).ar.has c g = s.ar.has c g := by
  obtain ⟨h1, h2, h3⟩ := Rm.drained_ar s t x l
  unfold Ar.has
  rw [h1, h2, h3]
theorem Mk.setReg_twice (m : Mk) (t r : Nat) (u v : Int) : (m.setReg t r u).setReg t r v = m.setReg t r v := by
  simp only [Mk.setReg]
  congr 1
  funext a b
  by_cases h : a = t ∧ b = r
  · rw [if_pos h, if_pos h]
  · rw [if_neg h, if_neg h, if_neg h]

section
variable {cs : List (List Ins)} {p : RkPl} {m : Mk} {w : World}
theorem RkAt.cellAt (_h : RkAt cs p m w) {n : Int} (hy : m.names n = true) : ∃ k : Nat, cellOf n = k ∧ k < m.mem.ar.size ∧ m.mem.ar.has k (genOf n) = true := by
  have hh := rnames_has hy
  obtain ⟨k, hc, hk, -, -⟩ := Ar.has_lt hh
  exact ⟨k, hc, hk, by rw [← hc]; exact hh⟩

theorem rk_load (h : RkAt cs p m w) {t : Nat} (ht : t < cs.length) (h8 : (m.mem.waits t).length ≤ 8) {n : Int} (hy : m.names n = true) {wi : Nat} (hw : wi < 4) :
    Calls Tryz.prog 57 #[.pointer (some ⟨p.rp.mb, 0, none⟩), .int .i64 t, .agg #[.int .i64 (cellOf n), .int .i64 (genOf n)], .int .i64 wi] w fun e w' => e = .returned (.tuple #[.int .i64 (m.loaded t n wi), .int .i64 0]) ∧ Below w.heap.size w w' := by
  obtain ⟨k, hc, hk, hh⟩ := h.cellAt hy
  have := rload_ok p.rp m.mem t k wi (genOf n) w h.mem (by rw [h.thr]; exact ht) (Ar.at_ok hh (by omega)) hk hw (by omega)
  unfold Mk.loaded
  rw [hc]
  exact this

theorem rk_store (h : RkAt cs p m w) {t : Nat} (ht : t < cs.length) (h8 : (m.mem.waits t).length < 8) {n : Int} (hy : m.names n = true) {wi : Nat} (hw : wi < 4) {v : Int} (hv : Wd v) :
    Calls Tryz.prog 59 #[.pointer (some ⟨p.rp.mb, 0, none⟩), .int .i64 t, .agg #[.int .i64 (cellOf n), .int .i64 (genOf n)], .int .i64 wi, .int .i64 v] w fun e w' => e = .returned (.int .i64 0) ∧ ∃ r, RkStep cs p m.mem w r p.mv (m.put t n wi v) w' := by
  have he : m.mem.storeErr t (cellOf n) (genOf n) wi v = 0 := by
    unfold Rm.storeErr
    rw [if_pos (Ar.at_ok (rnames_has hy) (by omega)), if_pos (show 0 ≤ v ∧ v < 4294967296 from hv), if_neg (by omega)]
  exact (rstore_ok p.rp m.mem t (cellOf n) (genOf n) wi v w h.mem (by rw [h.thr]; exact ht) he).mono fun e w' ⟨e1, r, q⟩ => ⟨e1, r, h.ofMem q rfl⟩

theorem rk_drain (h : RkAt cs p m w) {t : Nat} (ht : t < cs.length) {x : Wt} {l : List Wt} (he : m.mem.waits t = x :: l) (hx : x.Ok) (h8 : (m.mem.waits t).length ≤ 8) :
    Calls Tryz.prog 58 #[.pointer (some ⟨p.rp.mb, 0, none⟩), .int .i64 t] w fun e w' => e = .returned (.int .i64 (if m.mem.ar.has x.c x.g = true then 0 else 7)) ∧ ∃ r, RkStep cs p m.mem w r p.mv (m.setMem (m.mem.drained t x l)) w' := by
  rw [he, List.length_cons] at h8
  exact (rdrain_walk (if m.mem.ar.has x.c x.g = true then 0 else 7) p.rp m.mem t x l w h.mem (by rw [h.thr]; exact ht) he hx.1 (by omega) (hide rfl)).mono fun e w' ⟨e1, r, q⟩ => ⟨e1, r, h.ofMem q (Rm.drained_threads _ _ _ _)⟩
theorem rk_drain_none (h : RkAt cs p m w) {t : Nat} (ht : t < cs.length) (he : m.mem.waits t = []) :
    Calls Tryz.prog 58 #[.pointer (some ⟨p.rp.mb, 0, none⟩), .int .i64 t] w fun e w' => e = .returned (.int .i64 5) ∧ Below w.heap.size w w' :=
  rdrain_none p.rp m.mem t w h.mem (by rw [h.thr]; exact ht) he

theorem rk_alloc_none (h : RkAt cs p m w) (hf : m.mem.ar.free? = none) :
    Calls Tryz.prog 48 #[.pointer (some ⟨p.rp.mb, 0, none⟩)] w fun e w' => e = .returned (.tuple #[.agg #[.int .i64 0, .int .i64 0], .int .i64 6]) ∧ Below w.heap.size w w' :=
  ralloc_full p.rp m.mem w h.mem (Ar.free_none hf)
theorem rk_alloc_some (h : RkAt cs p m w) {c : Nat} (hf : m.mem.ar.free? = some c) (hg : m.mem.ar.given c ≤ 60000000) :
    Calls Tryz.prog 48 #[.pointer (some ⟨p.rp.mb, 0, none⟩)] w fun e w' => e = .returned (.tuple #[.agg #[.int .i64 c, .int .i64 (m.mem.ar.given c)], .int .i64 0]) ∧ ∃ r, RkStep cs p m.mem w r p.mv (m.setMem (m.mem.give c)) w' := by
  obtain ⟨h1, h2, h3⟩ := Ar.free_some hf
  exact (ralloc_step p.rp m.mem c w h.mem h1 h2 h3 (by omega)).mono fun e w' ⟨e1, r, q⟩ => ⟨e1, r, h.ofMem q rfl⟩

theorem RkAt.setWordM (h : RkAt cs p m w) {k wi : Nat} (hk : k < m.mem.ar.size) (hw : wi < 4) (v : Int) : RkStep cs p m.mem w p.rp p.mv (m.setMem (m.mem.setWord k wi v)) (w.setCell ⟨p.rp.wb k, wi, none⟩ (.int .i64 v)) :=
  h.ofMem (RmStep.setWord h.mem k wi hk hw v) rfl
theorem RkAt.setThereM (h : RkAt cs p m w) {k : Nat} (hk : k < m.mem.ar.size) (b : Bool) : RkStep cs p m.mem w p.rp p.mv (m.setMem (m.mem.setThere k b)) (w.setCell ⟨p.rp.cb, k * 3 + 2, none⟩ (.bool b)) :=
  h.ofMem (RmStep.setThere h.mem k hk b) rfl
end
end Go.Proofs.YtdpmnlbnlnmjbaaGreatDoor

/- RkK -/
namespace Go.Proofs.YtdpmnlbnlnmjbaaGreatDoor
open Go.RowKit Go.Extern.Stop Go.Stop Go.Extern Go.Sort

set_option maxRecDepth 20000 in
set_option maxHeartbeats 2000000 in
theorem rstep_load {cs : List (List Ins)} {p : RkPl} {m : Mk} {K t : Nat} {w : World} (D : RkX cs p m K w) {L : List Ins} (ht : cs[t]? = some L) {x : Ins} (hx : L[m.pc t]? = some x) (e : x.op = ⟨#[108, 111, 97, 100]⟩) {i : Nat} (hi : i < 8) (ei : x.a = i) {j : Nat} (hj : j < 8) (ej : x.b = j) {k : Nat} (hk : k < 4) (ek : x.c = k) :
    Calls Tryz.prog 25 #[.pointer (some ⟨p.k, 0, none⟩), .int .i64 t] w fun e w' => e = .returned (.int .i64 0) ∧ ∃ r v, RkStep cs p m.mem w r v (m.step L t) w' := by
  have hM : m.step L t = (m.setPc t (m.pc t + 1)).exec L t x := by unfold Mk.step; rw [hx]
  obtain ⟨M', hM'⟩ : ∃ M', M' = (m.setPc t (m.pc t + 1)).exec L t x := ⟨_, rfl⟩
  rw [hM, ← hM']
  rw [exec_load (m.setPc t (m.pc t + 1)) L t e] at hM'
  clear hM
  rw [ei] at hM'
  rw [ej] at hM'
  rw [ek] at hM'
  simp only [Int.toNat_natCast] at hM'
  try simp only [show ∀ r, (m.setPc t (m.pc t + 1)).regs t r = m.regs t r from fun _ => rfl] at hM'
  have HD := hide (rdone_at ht hx D.at')
  obtain ⟨xo, xa, xb, xc, xt⟩ := x
  dsimp only at e ei ej ek hM' ⊢
  subst e ei ej ek
  have HM' := hide hM'
  clear hM'
  have htl := lt_of_get ht
  have h6 := D.at'.few
  have hpl := lt_of_get hx
  have hL2 := (D.right.right t L ht).1
  have hcap := D.at'.tcap
  have hcc := D.at'.ccap t L ht
  have ti : (t : Int) < cs.length := by omega
  have t6 : (t : Int) < 6 := by omega
  have pi : (m.pc t : Int) < L.length := by omega
  have hpc2 : m.pc t ≤ 2000 := D.ok.pcs t
  have hpw := wrapNext hpc2
  have hpw2 := wrapNext2 hpc2
  have hr8 := D.at'.rcap t htl
  have li : (i : Int) < 8 := by omega
  have lj : (j : Int) < 8 := by omega
  have lk : (k : Int) < 4 := by omega
  have HIN := hide (D.at'.rc.code ht)
  have HX := hide D
  have H := hide D.at'
  have d0 : decide ((t : Int) < 0) = false := by simp
  have hT := H.out.mT
  clear D
  go_enter Tryz.func25, Tryz.ntmps25
  go_wp2_with fail
  refine HD.out.mono ?_
  rintro e w1 ⟨rfl, hb1⟩
  clear HD hT
  have H1 := hide (H.out.below hb1)
  have HIN1 := hide (insAt_below HIN.out hb1)
  have hT := H1.out.mT
  have hA := H1.out.tAt t htl
  have hC := H1.out.tCode t L ht
  have hR := H1.out.tRegs t htl
  obtain ⟨cb, off, had, c0, c1, c2, c3, c4⟩ := HIN1.out _ _ hx
  dsimp only at c0 c1 c2 c3 c4
  rw [had] at hC
  have lcb : cb < w1.heap.size := World.block_lt_of_cell? _ _ c0
  have lk := H1.out.lk
  have lt := H1.out.lt'
  have lr := H1.out.lr htl
  have zt := H1.out.ft (t * 3 + 2)
  obtain ⟨W2, hW2⟩ : ∃ W2, W2 = (w1.alloc (.cells #[.string ⟨#[108, 111, 97, 100]⟩, .int .i64 i, .int .i64 j, .int .i64 k, .string xt] 75)).drew := ⟨_, rfl⟩
  have b2 : Below w1.heap.size w1 W2 := by rw [hW2]; exact ((Below.refl _ _).alloc (Nat.le_refl _) _).drew
  have q0 : W2.cell? ⟨w1.heap.size, 0, none⟩ = some (.string ⟨#[108, 111, 97, 100]⟩) := by rw [hW2]; simp
  have q1 : W2.cell? ⟨w1.heap.size, 1, none⟩ = some (.int .i64 i) := by rw [hW2]; simp
  have q2 : W2.cell? ⟨w1.heap.size, 2, none⟩ = some (.int .i64 j) := by rw [hW2]; simp
  have q3 : W2.cell? ⟨w1.heap.size, 3, none⟩ = some (.int .i64 k) := by rw [hW2]; simp
  have q4 : W2.cell? ⟨w1.heap.size, 4, none⟩ = some (.string xt) := by rw [hW2]; simp
  have lW2 : w1.heap.size < W2.heap.size := World.block_lt_of_cell? _ _ q0
  clear HIN HIN1 had
  go_wp2_with fail
  go_region
  rw [← hW2]
  have B2 := below_step hb1 b2
  have H2 := hide (H.out.below B2)
  replace hT := H2.out.mT
  replace hA := H2.out.tAt t htl
  replace hR := H2.out.tRegs t htl
  replace hC := keep_cell b2 hC
  replace zt := H2.out.ft (t * 3 + 2)
  have dk := H2.out.d1
  have dr1 := (H2.out.d2 t htl).1
  have dr2 := (H2.out.d2 t htl).2
  have G2 : Hid (Stg cs p m.mem w w1.heap.size p.rp p.mv m W2) := hide (Stg.first H.out B2 hb1.size lW2)
  obtain ⟨nk, nt, nr⟩ := G2.out.ne
  replace nr := nr t htl
  have lk2 : p.k < W2.heap.size := by omega
  have lt2 : p.tb < W2.heap.size := by omega
  have lr2 : p.rb t < W2.heap.size := by omega
  obtain ⟨W3, hW3⟩ : ∃ W3, W3 = W2.setCell ⟨p.tb, t * 3 + 2, none⟩ (.int .i64 ((m.pc t : Int) + 1)) := ⟨_, rfl⟩
  have S3 : Hid (RkStep cs p m.mem W2 p.rp p.mv (m.setPc t (m.pc t + 1)) W3) := hide (by rw [hW3]; exact H2.out.setPc htl (m.pc t + 1))
  have G3 : Hid (Stg cs p m.mem w w1.heap.size p.rp p.mv (m.setPc t (m.pc t + 1)) W3) := hide (G2.out.trans S3.out)
  have HM3 : Hid (RkAt cs p (m.setPc t (m.pc t + 1)) W3) := hide G3.out.step.at'
  have HX3 : Hid (RkX cs p (m.setPc t (m.pc t + 1)) K W3) := hide ⟨HM3.out, HX.out.ok.setPc t (by omega), HX.out.right, HX.out.hK⟩
  have y0 := G2.out.keep S3.out q0
  have y1 := G2.out.keep S3.out q1
  have y2 := G2.out.keep S3.out q2
  have y3 := G2.out.keep S3.out q3
  have y4 := G2.out.keep S3.out q4
  have T3 := HM3.out.mT
  have R3 := HM3.out.tRegs t htl
  have k3 := HM3.out.mM
  have lW3 : w1.heap.size < W3.heap.size := G3.out.lt
  have G0 : Hid (∀ r, r < 8 → W2.cell? ⟨p.rb t, r, none⟩ = some (.int .i64 (m.regs t r)) ∧ W2.frozen? ⟨p.rb t, r, none⟩ = false) := fun r hr => ⟨H2.out.regs t r htl hr, H2.out.fr t r htl⟩
  clear H2 c0 c1 c2 c3 c4 hb1 b2 B2 hW2 G2 S3 H1 lcb
  obtain ⟨fi, fzi⟩ := G0.out i (by omega)
  have gi : W3.cell? ⟨p.rb t, i, none⟩ = some (.int .i64 (m.regs t i)) := HM3.out.regs t i htl (by omega)
  obtain ⟨fj, fzj⟩ := G0.out j (by omega)
  have gj : W3.cell? ⟨p.rb t, j, none⟩ = some (.int .i64 (m.regs t j)) := HM3.out.regs t j htl (by omega)
  clear G0
  have hwd : Wd (m.regs t j) := HX3.out.ok.regs t j
  have hfl : (m.setPc t (m.pc t + 1)).faults ≤ 900000000 := HX3.out.faults
  have hx8 := HX3.out.few htl
  cases hy : (m.setPc t (m.pc t + 1)).names (m.regs t j)
  · have HQ : Hid (M' = ((m.setPc t (m.pc t + 1)).addFault 1).setReg t i 0) := by show _ = _; rw [HM'.out]; unfold Mk.load; rw [hy]; rfl
    have HN := hide (rnames_no hwd HM3.out (by omega) hy)
    clear HM3 HX3 hwd hy HM'
    generalize m.regs t j = Rj at *
    generalize m.regs t i = Ri at *
    go_wp2_with fail
    rw [← hW3]
    clear hT hA hR hC zt q0 q1 q2 q3 q4 lW2 lk2 lt2 lr2 hW3
    refine HN.out.mono ?_
    rintro e w4 ⟨⟨c4, g4, rfl⟩, k4⟩
    clear HN
    replace y1 := G3.out.keep k4 y1
    have G4 := hide (G3.out.trans k4)
    have HM4 := hide G4.out.step.at'
    have lr4 : p.rb t < w4.heap.size := HM4.out.lr htl
    have lx4 := G4.out.lt
    have v4 : w4.cell? ⟨p.rb t, i, none⟩ = some (.int .i64 (((m.setPc t (m.pc t + 1)).addFault 1).regs t i)) := HM4.out.regs t i htl hi
    have z4 : w4.frozen? ⟨p.rb t, i, none⟩ = false := HM4.out.fr t i htl
    have HS := hide ((G4.out.trans (HM4.out.setReg htl hi 0)).below ((Below.refl _ _).alloc (Nat.le_refl _) (.cells #[.int .i64 c4, .int .i64 g4] 95)))
    clear k4 G4 HM4 G3 gj gi T3 R3 k3 y0 y2 y3 y4
    go_wp2
    go_ret
    exact ⟨rfl, _, _, by rw [HQ.out]; exact HS.out.step⟩
  · have HQ : Hid (M' = (m.setPc t (m.pc t + 1)).setReg t i ((m.setPc t (m.pc t + 1)).loaded t (m.regs t j) k)) := by show _ = _; rw [HM'.out]; unfold Mk.load; rw [hy]; rfl
    have HL5 : Hid (∀ w', RkAt cs p ((m.setPc t (m.pc t + 1)).setReg t i 0) w' → Calls Tryz.prog 57 #[.pointer (some ⟨p.rp.mb, 0, none⟩), .int .i64 t, .agg #[.int .i64 (cellOf (m.regs t j)), .int .i64 (genOf (m.regs t j))], .int .i64 k] w' fun e w'' => e = .returned (.tuple #[.int .i64 ((m.setPc t (m.pc t + 1)).loaded t (m.regs t j) k), .int .i64 0]) ∧ Below w'.heap.size w' w'') := fun w' h => rk_load h htl hx8 hy hk
    obtain ⟨kk, hck, hkk, hhas⟩ := HM3.out.cellAt hy
    have HN := hide (rnames_yes hwd HM3.out hy)
    rw [hck] at HN
    obtain ⟨Gn, hGn⟩ : ∃ Gn, Gn = genOf (m.regs t j) := ⟨_, rfl⟩
    rw [← hGn] at HN
    rw [hck, ← hGn] at HL5
    clear HM3 HX3 hwd hy HM' hck hkk hhas hGn
    generalize (m.setPc t (m.pc t + 1)).loaded t (m.regs t j) k = V at *
    generalize m.regs t j = Rj at *
    generalize m.regs t i = Ri at *
    go_wp2_with fail
    rw [← hW3]
    clear hT hA hR hC zt q0 q1 q2 q3 q4 lW2 lk2 lt2 lr2 hW3
    refine HN.out.mono ?_
    rintro e w4 ⟨rfl, hb4⟩
    clear HN
    have G4 := hide (G3.out.below hb4)
    have HM4 := hide G4.out.step.at'
    replace y1 := keep_cell hb4 y1
    replace y3 := keep_cell hb4 y3
    have lr4 : p.rb t < w4.heap.size := HM4.out.lr htl
    have lx4 := G4.out.lt
    have v4 : w4.cell? ⟨p.rb t, i, none⟩ = some (.int .i64 ((m.setPc t (m.pc t + 1)).regs t i)) := HM4.out.regs t i htl hi
    have z4 : w4.frozen? ⟨p.rb t, i, none⟩ = false := HM4.out.fr t i htl
    obtain ⟨W5, hW5⟩ : ∃ W5, W5 = (w4.setCell ⟨p.rb t, i, none⟩ (.int .i64 0)).alloc (.cells #[.int .i64 kk, .int .i64 Gn] 95) := ⟨_, rfl⟩
    have kS : RkStep cs p (m.setPc t (m.pc t + 1)).mem w4 p.rp p.mv ((m.setPc t (m.pc t + 1)).setReg t i 0) W5 := by rw [hW5]; exact (HM4.out.setReg htl hi 0).below ((Below.refl _ _).alloc (Nat.le_refl _) _)
    have G5 := hide (G4.out.trans kS)
    have x0 : W5.cell? ⟨w4.heap.size, 0, none⟩ = some (.int .i64 kk) := by rw [hW5]; exact boxAfter0 _ _ _ _ _
    have x1 : W5.cell? ⟨w4.heap.size, 1, none⟩ = some (.int .i64 Gn) := by rw [hW5]; exact boxAfter1 _ _ _ _ _
    have y3' := G4.out.keep kS y3
    have y1' := G4.out.keep kS y1
    have HM5 := hide G5.out.step.at'
    have u5 : W5.cell? ⟨p.k, 0, none⟩ = some (.pointer (some ⟨p.rp.mb, 0, none⟩)) := HM5.out.mM
    clear hb4 G4 HM4 G3 gj gi T3 R3 k3 y0 y2 y4 kS
    go_wp2_with fail
    rw [← hW5]
    clear hW5 v4 z4 y1 y3 lr4 lx4
    have HCF : Hid (∀ d os, Calls Tryz.prog 57 #[.pointer (some ⟨p.rp.mb, 0, none⟩), .int .i64 t, .agg #[.int .i64 kk, .int .i64 Gn], .int .i64 k] (grow (redrawn W5 d) os) fun e w'' => e = .returned (.tuple #[.int .i64 V, .int .i64 0]) ∧ ∃ p : Regrown, w'' = grow (redrawn W5 p.d) p.os) := fun d os =>
      Calls.regrown_of (HL5.out _ (HM5.out.below (below_regrown W5 d os)))
    have d0 := cell_regrown x0
    have d1 := cell_regrown x1
    have d3 := cell_regrown y3'
    have dM := cell_regrown u5
    clear HL5
    refine wp_region_quiet_below (by kernel_rfl) (by kernel_rfl) ?_
    repeat (first
      | go_big_quiet_step (exact HCF.out _ _)
      | quiet_step (exact HCF.out _ _))
    refine wpQuiet_nil ?_
    intro _ hw'
    obtain ⟨⟨dq, osq⟩, hw''⟩ := hw'
    subst hw''
    have b6 := below_regrown W5 dq osq
    have G6 := hide (G5.out.below b6)
    have HM6 := hide G6.out.step.at'
    have v6 : (grow (redrawn W5 dq) osq).cell? ⟨p.rb t, i, none⟩ = some (.int .i64 (((m.setPc t (m.pc t + 1)).setReg t i 0).regs t i)) := HM6.out.regs t i htl hi
    have z6 : (grow (redrawn W5 dq) osq).frozen? ⟨p.rb t, i, none⟩ = false := HM6.out.fr t i htl
    have y6 := keep_cell b6 y1'
    have HS := hide (G6.out.trans (HM6.out.setReg htl hi V))
    clear HCF d0 d1 d3 dM x0 x1 y3' y1' u5 b6 G5 HM5 G6 HM6
    generalize grow (redrawn W5 dq) osq = W6 at *
    go_wp2
    go_ret
    exact ⟨rfl, _, _, by rw [HQ.out, ← Mk.setReg_twice]; exact HS.out.step⟩

set_option maxRecDepth 20000 in
set_option maxHeartbeats 2000000 in
theorem rstep_alloc {cs : List (List Ins)} {p : RkPl} {m : Mk} {K t : Nat} {w : World} (D : RkX cs p m K w) {L : List Ins} (ht : cs[t]? = some L) {x : Ins} (hx : L[m.pc t]? = some x) (e : x.op = ⟨#[97, 108, 108, 111, 99]⟩) {i : Nat} (hi : i < 8) (ei : x.a = i) :
    Calls Tryz.prog 25 #[.pointer (some ⟨p.k, 0, none⟩), .int .i64 t] w fun e w' => e = .returned (.int .i64 0) ∧ ∃ r v, RkStep cs p m.mem w r v (m.step L t) w' := by
  have hM : m.step L t = (m.setPc t (m.pc t + 1)).exec L t x := by unfold Mk.step; rw [hx]
  obtain ⟨M', hM'⟩ : ∃ M', M' = (m.setPc t (m.pc t + 1)).exec L t x := ⟨_, rfl⟩
  rw [hM, ← hM']
  rw [exec_alloc (m.setPc t (m.pc t + 1)) L t e] at hM'
  clear hM
  rw [ei] at hM'
  simp only [Int.toNat_natCast] at hM'
  try simp only [show ∀ r, (m.setPc t (m.pc t + 1)).regs t r = m.regs t r from fun _ => rfl] at hM'
  have HD := hide (rdone_at ht hx D.at')
  obtain ⟨xo, xa, xb, xc, xt⟩ := x
  dsimp only at e ei hM' ⊢
  subst e ei
  have HM' := hide hM'
  clear hM'
  have htl := lt_of_get ht
  have h6 := D.at'.few
  have hpl := lt_of_get hx
  have hL2 := (D.right.right t L ht).1
  have hcap := D.at'.tcap
  have hcc := D.at'.ccap t L ht
  have ti : (t : Int) < cs.length := by omega
  have t6 : (t : Int) < 6 := by omega
  have pi : (m.pc t : Int) < L.length := by omega
  have hpc2 : m.pc t ≤ 2000 := D.ok.pcs t
  have hpw := wrapNext hpc2
  have hpw2 := wrapNext2 hpc2
  have hr8 := D.at'.rcap t htl
  have li : (i : Int) < 8 := by omega
  have HIN := hide (D.at'.rc.code ht)
  have HX := hide D
  have H := hide D.at'
  have d0 : decide ((t : Int) < 0) = false := by simp
  have hT := H.out.mT
  clear D
  go_enter Tryz.func25, Tryz.ntmps25
  go_wp2_with fail
  refine HD.out.mono ?_
  rintro e w1 ⟨rfl, hb1⟩
  clear HD hT
  have H1 := hide (H.out.below hb1)
  have HIN1 := hide (insAt_below HIN.out hb1)
  have hT := H1.out.mT
  have hA := H1.out.tAt t htl
  have hC := H1.out.tCode t L ht
  have hR := H1.out.tRegs t htl
  obtain ⟨cb, off, had, c0, c1, c2, c3, c4⟩ := HIN1.out _ _ hx
  dsimp only at c0 c1 c2 c3 c4
  rw [had] at hC
  have lcb : cb < w1.heap.size := World.block_lt_of_cell? _ _ c0
  have lk := H1.out.lk
  have lt := H1.out.lt'
  have lr := H1.out.lr htl
  have zt := H1.out.ft (t * 3 + 2)
  obtain ⟨W2, hW2⟩ : ∃ W2, W2 = (w1.alloc (.cells #[.string ⟨#[97, 108, 108, 111, 99]⟩, .int .i64 i, .int .i64 xb, .int .i64 xc, .string xt] 75)).drew := ⟨_, rfl⟩
  have b2 : Below w1.heap.size w1 W2 := by rw [hW2]; exact ((Below.refl _ _).alloc (Nat.le_refl _) _).drew
  have q0 : W2.cell? ⟨w1.heap.size, 0, none⟩ = some (.string ⟨#[97, 108, 108, 111, 99]⟩) := by rw [hW2]; simp
  have q1 : W2.cell? ⟨w1.heap.size, 1, none⟩ = some (.int .i64 i) := by rw [hW2]; simp
  have q2 : W2.cell? ⟨w1.heap.size, 2, none⟩ = some (.int .i64 xb) := by rw [hW2]; simp
  have q3 : W2.cell? ⟨w1.heap.size, 3, none⟩ = some (.int .i64 xc) := by rw [hW2]; simp
  have q4 : W2.cell? ⟨w1.heap.size, 4, none⟩ = some (.string xt) := by rw [hW2]; simp
  have lW2 : w1.heap.size < W2.heap.size := World.block_lt_of_cell? _ _ q0
  clear HIN HIN1 had
  go_wp2_with fail
  go_region
  rw [← hW2]
  have B2 := below_step hb1 b2
  have H2 := hide (H.out.below B2)
  replace hT := H2.out.mT
  replace hA := H2.out.tAt t htl
  replace hR := H2.out.tRegs t htl
  replace hC := keep_cell b2 hC
  replace zt := H2.out.ft (t * 3 + 2)
  have dk := H2.out.d1
  have dr1 := (H2.out.d2 t htl).1
  have dr2 := (H2.out.d2 t htl).2
  have G2 : Hid (Stg cs p m.mem w w1.heap.size p.rp p.mv m W2) := hide (Stg.first H.out B2 hb1.size lW2)
  obtain ⟨nk, nt, nr⟩ := G2.out.ne
  replace nr := nr t htl
  have lk2 : p.k < W2.heap.size := by omega
  have lt2 : p.tb < W2.heap.size := by omega
  have lr2 : p.rb t < W2.heap.size := by omega
  obtain ⟨W3, hW3⟩ : ∃ W3, W3 = W2.setCell ⟨p.tb, t * 3 + 2, none⟩ (.int .i64 ((m.pc t : Int) + 1)) := ⟨_, rfl⟩
  have S3 : Hid (RkStep cs p m.mem W2 p.rp p.mv (m.setPc t (m.pc t + 1)) W3) := hide (by rw [hW3]; exact H2.out.setPc htl (m.pc t + 1))
  have G3 : Hid (Stg cs p m.mem w w1.heap.size p.rp p.mv (m.setPc t (m.pc t + 1)) W3) := hide (G2.out.trans S3.out)
  have HM3 : Hid (RkAt cs p (m.setPc t (m.pc t + 1)) W3) := hide G3.out.step.at'
  have HX3 : Hid (RkX cs p (m.setPc t (m.pc t + 1)) K W3) := hide ⟨HM3.out, HX.out.ok.setPc t (by omega), HX.out.right, HX.out.hK⟩
  have y0 := G2.out.keep S3.out q0
  have y1 := G2.out.keep S3.out q1
  have y2 := G2.out.keep S3.out q2
  have y3 := G2.out.keep S3.out q3
  have y4 := G2.out.keep S3.out q4
  have hMM := H2.out.mM
  have T3 := HM3.out.mT
  have R3 := HM3.out.tRegs t htl
  have k3 := HM3.out.mM
  have lW3 : w1.heap.size < W3.heap.size := G3.out.lt
  have G0 : Hid (∀ r, r < 8 → W2.cell? ⟨p.rb t, r, none⟩ = some (.int .i64 (m.regs t r)) ∧ W2.frozen? ⟨p.rb t, r, none⟩ = false) := fun r hr => ⟨H2.out.regs t r htl hr, H2.out.fr t r htl⟩
  clear H2 c0 c1 c2 c3 c4 hb1 b2 B2 hW2 G2 S3 H1 lcb
  obtain ⟨fi, fzi⟩ := G0.out i (by omega)
  have gi : W3.cell? ⟨p.rb t, i, none⟩ = some (.int .i64 (m.regs t i)) := HM3.out.regs t i htl (by omega)
  clear G0
  cases hy : m.mem.ar.free? with
  | none =>
    have HQ : Hid (M' = (m.setPc t (m.pc t + 1)).setReg t i 0) := by show _ = _; rw [HM'.out]; unfold Mk.alloc; rw [show (m.setPc t (m.pc t + 1)).mem.ar.free? = none from hy]
    have HN := hide (rk_alloc_none HM3.out hy)
    clear HM3 HX3 hy HM'
    generalize m.regs t i = Ri at *
    go_wp2_with fail
    rw [← hW3]
    clear hMM hT hA hR hC zt q0 q1 q2 q3 q4 lW2 lk2 lt2 lr2 hW3
    refine HN.out.mono ?_
    rintro e w4 ⟨rfl, hb4⟩
    clear HN
    replace y1 := keep_cell hb4 y1
    have G4 := hide (G3.out.below hb4)
    have HM4 := hide G4.out.step.at'
    have lr4 : p.rb t < w4.heap.size := HM4.out.lr htl
    have lx4 := G4.out.lt
    have v4 : w4.cell? ⟨p.rb t, i, none⟩ = some (.int .i64 ((m.setPc t (m.pc t + 1)).regs t i)) := HM4.out.regs t i htl hi
    have z4 : w4.frozen? ⟨p.rb t, i, none⟩ = false := HM4.out.fr t i htl
    have HS := hide ((G4.out.trans (HM4.out.setReg htl hi 0)).below ((Below.refl _ _).alloc (Nat.le_refl _) (.cells #[.int .i64 0, .int .i64 0] 95)))
    clear hb4 G4 HM4 G3 gi T3 R3 k3 y0 y2 y3 y4
    go_wp2
    go_ret
    exact ⟨rfl, _, _, by rw [HQ.out]; exact HS.out.step⟩
  | some c =>
    obtain ⟨g, hg⟩ : ∃ g : Nat, g = m.mem.ar.given c := ⟨_, rfl⟩
    have HQ : Hid (M' = ((m.setPc t (m.pc t + 1)).setMem ((m.setPc t (m.pc t + 1)).mem.give c)).setReg t i ((g : Int) * 64 + c + 1)) := by show _ = _; rw [HM'.out, hg]; unfold Mk.alloc; rw [show (m.setPc t (m.pc t + 1)).mem.ar.free? = some c from hy]; rfl
    have hgk := HX3.out.ok.mem.given c
    have hK := HX3.out.hK
    have hcl := (Ar.free_some hy).1
    have h64 := HM3.out.mem.small
    have HN := hide (rk_alloc_some HM3.out hy (by omega))
    rw [show (m.setPc t (m.pc t + 1)).mem.ar.given c = m.mem.ar.given c from rfl, ← hg] at HN hgk
    rw [show (m.setPc t (m.pc t + 1)).mem.ar.size = m.mem.ar.size from rfl] at h64
    have HWO : Hid (∀ w', Calls Tryz.prog 61 #[.agg #[.int .i64 c, .int .i64 g]] w' fun e w'' => e = .returned (.tuple #[.int .i64 ((g : Int) * 64 + c + 1), .int .i64 0]) ∧ Below w'.heap.size w' w'') := fun w' => wordOf_ok c g w' ⟨by omega, by omega, by omega, by omega⟩
    clear HM3 HX3 hy HM' hgk hK hcl h64 hg
    generalize ((g : Int) * 64 + c + 1) = V at *
    generalize m.regs t i = Ri at *
    go_wp2_with fail
    rw [← hW3]
    clear hMM hT hA hR hC zt q0 q1 q2 q3 q4 lW2 lk2 lt2 lr2 hW3
    refine HN.out.mono ?_
    rintro e w4 ⟨rfl, r, k4⟩
    clear HN
    replace y1 := G3.out.keep k4 y1
    have G4 := hide (G3.out.trans k4)
    have HM4 := hide G4.out.step.at'
    have lr4 : p.rb t < w4.heap.size := HM4.out.lr htl
    have lx4 := G4.out.lt
    have v4 : w4.cell? ⟨p.rb t, i, none⟩ = some (.int .i64 ((m.setPc t (m.pc t + 1)).regs t i)) := HM4.out.regs t i htl hi
    have z4 : w4.frozen? ⟨p.rb t, i, none⟩ = false := HM4.out.fr t i htl
    obtain ⟨W5, hW5⟩ : ∃ W5, W5 = (w4.setCell ⟨p.rb t, i, none⟩ (.int .i64 0)).alloc (.cells #[.int .i64 c, .int .i64 g] 95) := ⟨_, rfl⟩
    have kS : RkStep cs (p.to r p.mv) ((m.setPc t (m.pc t + 1)).setMem ((m.setPc t (m.pc t + 1)).mem.give c)).mem w4 r p.mv (((m.setPc t (m.pc t + 1)).setMem ((m.setPc t (m.pc t + 1)).mem.give c)).setReg t i 0) W5 := by rw [hW5]; exact (HM4.out.setReg htl hi 0).below ((Below.refl _ _).alloc (Nat.le_refl _) _)
    have G5 := hide (G4.out.trans kS)
    have x0 : W5.cell? ⟨w4.heap.size, 0, none⟩ = some (.int .i64 c) := by rw [hW5]; exact boxAfter0 _ _ _ _ _
    have x1 : W5.cell? ⟨w4.heap.size, 1, none⟩ = some (.int .i64 g) := by rw [hW5]; exact boxAfter1 _ _ _ _ _
    have y1' := G4.out.keep kS y1
    clear G4 HM4 G3 gi T3 R3 k3 y0 y2 y3 y4 kS k4
    go_wp2_with fail
    rw [← hW5]
    clear hW5 v4 z4 y1 lr4 lx4
    refine (HWO.out W5).mono ?_
    rintro e W6 ⟨rfl, b6⟩
    have G6 := hide (G5.out.below b6)
    have HM6 := hide G6.out.step.at'
    have v6 : W6.cell? ⟨p.rb t, i, none⟩ = some (.int .i64 ((((m.setPc t (m.pc t + 1)).setMem ((m.setPc t (m.pc t + 1)).mem.give c)).setReg t i 0).regs t i)) := HM6.out.regs t i htl hi
    have z6 : W6.frozen? ⟨p.rb t, i, none⟩ = false := HM6.out.fr t i htl
    have y6 := keep_cell b6 y1'
    have HS := hide (G6.out.trans (HM6.out.setReg htl hi V))
    clear HWO x0 x1 y1' b6 G5 G6 HM6
    go_wp2
    go_ret
    exact ⟨rfl, _, _, by rw [HQ.out, ← Mk.setReg_twice]; exact HS.out.step⟩

set_option maxRecDepth 20000 in
set_option maxHeartbeats 2000000 in
theorem rstep_free {cs : List (List Ins)} {p : RkPl} {m : Mk} {K t : Nat} {w : World} (D : RkX cs p m K w) {L : List Ins} (ht : cs[t]? = some L) {x : Ins} (hx : L[m.pc t]? = some x) (e : x.op = ⟨#[102, 114, 101, 101]⟩) {i : Nat} (hi : i < 8) (ei : x.a = i) :
    Calls Tryz.prog 25 #[.pointer (some ⟨p.k, 0, none⟩), .int .i64 t] w fun e w' => e = .returned (.int .i64 0) ∧ ∃ r v, RkStep cs p m.mem w r v (m.step L t) w' := by
  have hM : m.step L t = (m.setPc t (m.pc t + 1)).exec L t x := by unfold Mk.step; rw [hx]
  obtain ⟨M', hM'⟩ : ∃ M', M' = (m.setPc t (m.pc t + 1)).exec L t x := ⟨_, rfl⟩
  rw [hM, ← hM']
  rw [exec_free (m.setPc t (m.pc t + 1)) L t e] at hM'
  clear hM
  rw [ei] at hM'
  simp only [Int.toNat_natCast] at hM'
  try simp only [show ∀ r, (m.setPc t (m.pc t + 1)).regs t r = m.regs t r from fun _ => rfl] at hM'
  have HD := hide (rdone_at ht hx D.at')
  obtain ⟨xo, xa, xb, xc, xt⟩ := x
  dsimp only at e ei hM' ⊢
  subst e ei
  have HM' := hide hM'
  clear hM'
  have htl := lt_of_get ht
  have h6 := D.at'.few
  have hpl := lt_of_get hx
  have hL2 := (D.right.right t L ht).1
  have hcap := D.at'.tcap
  have hcc := D.at'.ccap t L ht
  have ti : (t : Int) < cs.length := by omega
  have t6 : (t : Int) < 6 := by omega
  have pi : (m.pc t : Int) < L.length := by omega
  have hpc2 : m.pc t ≤ 2000 := D.ok.pcs t
  have hpw := wrapNext hpc2
  have hpw2 := wrapNext2 hpc2
  have hr8 := D.at'.rcap t htl
  have li : (i : Int) < 8 := by omega
  have HIN := hide (D.at'.rc.code ht)
  have HX := hide D
  have H := hide D.at'
  have d0 : decide ((t : Int) < 0) = false := by simp
  have hT := H.out.mT
  clear D
  go_enter Tryz.func25, Tryz.ntmps25
  go_wp2_with fail
  refine HD.out.mono ?_
  rintro e w1 ⟨rfl, hb1⟩
  clear HD hT
  have H1 := hide (H.out.below hb1)
  have HIN1 := hide (insAt_below HIN.out hb1)
  have hT := H1.out.mT
  have hA := H1.out.tAt t htl
  have hC := H1.out.tCode t L ht
  have hR := H1.out.tRegs t htl
  obtain ⟨cb, off, had, c0, c1, c2, c3, c4⟩ := HIN1.out _ _ hx
  dsimp only at c0 c1 c2 c3 c4
  rw [had] at hC
  have lcb : cb < w1.heap.size := World.block_lt_of_cell? _ _ c0
  have lk := H1.out.lk
  have lt := H1.out.lt'
  have lr := H1.out.lr htl
  have zt := H1.out.ft (t * 3 + 2)
  obtain ⟨W2, hW2⟩ : ∃ W2, W2 = (w1.alloc (.cells #[.string ⟨#[102, 114, 101, 101]⟩, .int .i64 i, .int .i64 xb, .int .i64 xc, .string xt] 75)).drew := ⟨_, rfl⟩
  have b2 : Below w1.heap.size w1 W2 := by rw [hW2]; exact ((Below.refl _ _).alloc (Nat.le_refl _) _).drew
  have q0 : W2.cell? ⟨w1.heap.size, 0, none⟩ = some (.string ⟨#[102, 114, 101, 101]⟩) := by rw [hW2]; simp
  have q1 : W2.cell? ⟨w1.heap.size, 1, none⟩ = some (.int .i64 i) := by rw [hW2]; simp
  have q2 : W2.cell? ⟨w1.heap.size, 2, none⟩ = some (.int .i64 xb) := by rw [hW2]; simp
  have q3 : W2.cell? ⟨w1.heap.size, 3, none⟩ = some (.int .i64 xc) := by rw [hW2]; simp
  have q4 : W2.cell? ⟨w1.heap.size, 4, none⟩ = some (.string xt) := by rw [hW2]; simp
  have lW2 : w1.heap.size < W2.heap.size := World.block_lt_of_cell? _ _ q0
  clear HIN HIN1 had
  go_wp2_with fail
  go_region
  rw [← hW2]
  have B2 := below_step hb1 b2
  have H2 := hide (H.out.below B2)
  replace hT := H2.out.mT
  replace hA := H2.out.tAt t htl
  replace hR := H2.out.tRegs t htl
  replace hC := keep_cell b2 hC
  replace zt := H2.out.ft (t * 3 + 2)
  have dk := H2.out.d1
  have dr1 := (H2.out.d2 t htl).1
  have dr2 := (H2.out.d2 t htl).2
  have G2 : Hid (Stg cs p m.mem w w1.heap.size p.rp p.mv m W2) := hide (Stg.first H.out B2 hb1.size lW2)
  obtain ⟨nk, nt, nr⟩ := G2.out.ne
  replace nr := nr t htl
  have lk2 : p.k < W2.heap.size := by omega
  have lt2 : p.tb < W2.heap.size := by omega
  have lr2 : p.rb t < W2.heap.size := by omega
  obtain ⟨W3, hW3⟩ : ∃ W3, W3 = W2.setCell ⟨p.tb, t * 3 + 2, none⟩ (.int .i64 ((m.pc t : Int) + 1)) := ⟨_, rfl⟩
  have S3 : Hid (RkStep cs p m.mem W2 p.rp p.mv (m.setPc t (m.pc t + 1)) W3) := hide (by rw [hW3]; exact H2.out.setPc htl (m.pc t + 1))
  have G3 : Hid (Stg cs p m.mem w w1.heap.size p.rp p.mv (m.setPc t (m.pc t + 1)) W3) := hide (G2.out.trans S3.out)
  have HM3 : Hid (RkAt cs p (m.setPc t (m.pc t + 1)) W3) := hide G3.out.step.at'
  have HX3 : Hid (RkX cs p (m.setPc t (m.pc t + 1)) K W3) := hide ⟨HM3.out, HX.out.ok.setPc t (by omega), HX.out.right, HX.out.hK⟩
  have y0 := G2.out.keep S3.out q0
  have y1 := G2.out.keep S3.out q1
  have y2 := G2.out.keep S3.out q2
  have y3 := G2.out.keep S3.out q3
  have y4 := G2.out.keep S3.out q4
  have T3 := HM3.out.mT
  have R3 := HM3.out.tRegs t htl
  have k3 := HM3.out.mM
  have lW3 : w1.heap.size < W3.heap.size := G3.out.lt
  have G0 : Hid (∀ r, r < 8 → W2.cell? ⟨p.rb t, r, none⟩ = some (.int .i64 (m.regs t r)) ∧ W2.frozen? ⟨p.rb t, r, none⟩ = false) := fun r hr => ⟨H2.out.regs t r htl hr, H2.out.fr t r htl⟩
  clear H2 c0 c1 c2 c3 c4 hb1 b2 B2 hW2 G2 S3 H1 lcb
  obtain ⟨fi, fzi⟩ := G0.out i (by omega)
  have gi : W3.cell? ⟨p.rb t, i, none⟩ = some (.int .i64 (m.regs t i)) := HM3.out.regs t i htl (by omega)
  clear G0
  have hwd : Wd (m.regs t i) := HX3.out.ok.regs t i
  have hfl : (m.setPc t (m.pc t + 1)).faults ≤ 900000000 := HX3.out.faults
  have hx8 := HX3.out.few htl
  cases hy : (m.setPc t (m.pc t + 1)).names (m.regs t i)
  · have HQ : Hid (M' = (m.setPc t (m.pc t + 1)).addFault 1) := by show _ = _; rw [HM'.out]; unfold Mk.free; rw [hy]; rfl
    have HN := hide (rnames_no hwd HM3.out (by omega) hy)
    clear HM3 HX3 hwd hy HM'
    generalize m.regs t i = Ri at *
    go_wp2_with fail
    rw [← hW3]
    clear hT hA hR hC zt q0 q1 q2 q3 q4 lW2 lk2 lt2 lr2 hW3
    refine HN.out.mono ?_
    rintro e w4 ⟨⟨c4, g4, rfl⟩, k4⟩
    clear HN
    replace y1 := G3.out.keep k4 y1
    replace y2 := G3.out.keep k4 y2
    have G4 := hide (G3.out.trans k4)
    have HM4 := hide G4.out.step.at'
    have lr4 : p.rb t < w4.heap.size := HM4.out.lr htl
    have lx4 := G4.out.lt
    have HS := hide (G4.out.below ((Below.refl _ _).alloc (Nat.le_refl _) (.cells #[.int .i64 c4, .int .i64 g4] 95)))
    clear k4 G4 HM4 G3 T3 R3 k3 y0 y3 y4
    go_wp2
    go_ret
    exact ⟨rfl, _, _, by rw [HQ.out]; exact HS.out.step⟩
  · have HQ : Hid (M' = ((m.setPc t (m.pc t + 1)).fence t).setMem (((m.setPc t (m.pc t + 1)).fence t).mem.setThere (cellOf (m.regs t i)).toNat false)) := by show _ = _; rw [HM'.out]; unfold Mk.free; rw [hy]; rfl
    have HFE := hide (fun w' (h : RkAt cs p (m.setPc t (m.pc t + 1)) w') => rkfence_any htl h (HX3.out.waits htl) hx8 (by omega))
    obtain ⟨kk, hck, hkk, hhas⟩ := HM3.out.cellAt hy
    have HN := hide (rnames_yes hwd HM3.out hy)
    rw [hck] at HN
    obtain ⟨Gn, hGn⟩ : ∃ Gn, Gn = genOf (m.regs t i) := ⟨_, rfl⟩
    rw [← hGn] at HN
    have hsz : ((m.setPc t (m.pc t + 1)).fence t).mem.ar.size = m.mem.ar.size := (Rm.drainAll_ar _ _ _).1
    have h64 := HM3.out.mem.small
    rw [show (m.setPc t (m.pc t + 1)).mem.ar.size = m.mem.ar.size from rfl] at h64 hkk
    clear HM3 HX3 hy hhas HM'
    rw [hck, Int.toNat_natCast] at HQ
    clear hck hGn hwd
    go_wp2_with fail
    rw [← hW3]
    clear hT hA hR hC zt q0 q1 q2 q3 q4 lW2 lk2 lt2 lr2 hW3
    refine HN.out.mono ?_
    rintro e w4 ⟨rfl, hb4⟩
    clear HN
    have G4 := hide (G3.out.below hb4)
    have HM4 := hide G4.out.step.at'
    obtain ⟨W5, hW5⟩ : ∃ W5, W5 = w4.alloc (.cells #[.int .i64 kk, .int .i64 Gn] 95) := ⟨_, rfl⟩
    have b5 : Below w4.heap.size w4 W5 := by rw [hW5]; exact (Below.refl _ _).alloc (Nat.le_refl _) _
    have G5 := hide (G4.out.below b5)
    have R5 := hide (G4.out.other (bx' := w4.heap.size) (Nat.le_refl _) b5 (by rw [hW5]; simp))
    have x0 : W5.cell? ⟨w4.heap.size, 0, none⟩ = some (.int .i64 kk) := by rw [hW5]; simp
    have HF5 := hide (HFE.out W5 G5.out.step.at')
    have p1 := keep_cell b5 (keep_cell hb4 y1)
    have p2 := keep_cell b5 (keep_cell hb4 y2)
    have p3 := keep_cell b5 (keep_cell hb4 y3)
    clear HFE b5 HM4 G3 G4 T3 R3 k3 y0 y1 y2 y3 y4 hb4 gi
    go_wp2_with fail
    rw [← hW5]
    clear hW5
    refine HF5.out.mono ?_
    rintro e w6 ⟨rfl, r, k6⟩
    clear HF5
    replace x0 := R5.out.keep k6 x0
    replace p1 := G5.out.keep k6 p1
    replace p2 := G5.out.keep k6 p2
    replace p3 := G5.out.keep k6 p3
    have G6 := hide (G5.out.trans k6)
    have R6 := hide (R5.out.trans k6)
    have HM6 : Hid (RkAt cs (p.to r p.mv) ((m.setPc t (m.pc t + 1)).fence t) w6) := hide G6.out.step.at'
    clear G5 R5 k6
    have uM : w6.cell? ⟨p.k, 0, none⟩ = some (.pointer (some ⟨r.mb, 0, none⟩)) := HM6.out.mM
    have uC : w6.cell? ⟨r.mb, 0, none⟩ = some (.slice (some ⟨r.cb, 0, none⟩) ((m.setPc t (m.pc t + 1)).fence t).mem.ar.size r.ccap) := HM6.out.mem.mCells
    have ucc : ((m.setPc t (m.pc t + 1)).fence t).mem.ar.size ≤ r.ccap := HM6.out.mem.ccap
    rw [hsz] at uC ucc
    have uki : (kk : Int) < m.mem.ar.size := by omega
    have ukz : kk < ((m.setPc t (m.pc t + 1)).fence t).mem.ar.size := by rw [hsz]; exact hkk
    have si : w6.cell? ⟨p.rb t, i, none⟩ = some (.int .i64 (m.regs t i)) := HM6.out.regs t i htl (by omega)
    have uH : w6.cell? ⟨r.cb, kk * 3 + 2, none⟩ = some (.bool (((m.setPc t (m.pc t + 1)).fence t).mem.ar.there kk)) := HM6.out.mem.cHere kk ukz
    have uZ : w6.frozen? ⟨r.cb, kk * 3 + 2, none⟩ = false := HM6.out.mem.fc _
    have HS := hide (G6.out.trans ((HM6.out.setThereM ukz false).below (Below.refl _ _).drew))
    clear G6 R6 HM6 p1 p2 p3 si hsz ukz
    go_wp2_with fail
    refine wp_region_F (S := (fun w' => w'.cell? ⟨p.k, 0, none⟩ = some (.pointer (some ⟨r.mb, 0, none⟩)) ∧ w'.cell? ⟨r.mb, 0, none⟩ = some (.slice (some ⟨r.cb, 0, none⟩) m.mem.ar.size r.ccap) ∧ w'.cell? ⟨w4.heap.size, 0, none⟩ = some (.int .i64 kk))) (by kernel_rfl) (by (try dsimp only); go_keep) (fun hHeld => ?_)
    refine' wpAnyF_take (i := 0) (n := 11) (v := _) rfl (by kernel_rfl) (fun _ _ _ h => h) (by assumption) (Or.inl ⟨by rfl, ?hy1⟩) ?rest1
    case' hy1 => (intro w' hSw; (try dsimp only at hSw); go_simp; try with_reducible rfl)
    try simp only [Act.put, List.getElem_toArray, List.getElem_cons_zero, List.setIfInBounds_toArray, List.set_cons_zero, List.set_cons_succ]
    refine' wpAnyF_take (i := 1) (n := 11) (v := _) rfl (by kernel_rfl) (fun _ _ _ h => h) (by assumption) (Or.inl ⟨by rfl, ?hy2⟩) ?rest2
    case' hy2 => (intro w' hSw; (try dsimp only at hSw); go_simp; try with_reducible rfl)
    try simp only [Act.put, List.getElem_toArray, List.getElem_cons_zero, List.getElem_cons_succ, List.setIfInBounds_toArray, List.set_cons_zero, List.set_cons_succ]
    refine' wpAnyF_take (i := 2) (n := 11) (v := _) rfl (by kernel_rfl) (fun _ _ _ h => h) (by assumption) (Or.inl ⟨by rfl, ?hy3⟩) ?rest3
    case' hy3 => (intro w' hSw; (try dsimp only at hSw); go_simp; try with_reducible rfl)
    try simp only [Act.put, List.getElem_toArray, List.getElem_cons_zero, List.getElem_cons_succ, List.setIfInBounds_toArray, List.set_cons_zero, List.set_cons_succ]
    refine' wpAnyF_take (i := 3) (n := 11) (v := _) rfl (by kernel_rfl) (fun _ _ _ h => h) (by assumption) (Or.inl ⟨by rfl, ?hy4⟩) ?rest4
    case' hy4 => (intro w' hSw; (try dsimp only at hSw); go_simp; try with_reducible rfl)
    try simp only [Act.put, List.getElem_toArray, List.getElem_cons_zero, List.getElem_cons_succ, List.setIfInBounds_toArray, List.set_cons_zero, List.set_cons_succ]
    refine' wpAnyF_take (i := 4) (n := 11) (v := _) rfl (by kernel_rfl) (fun _ _ _ h => h) (by assumption) (Or.inl ⟨by rfl, ?hy5⟩) ?rest5
    case' hy5 => (intro w' hSw; (try dsimp only at hSw); go_simp; try with_reducible rfl)
    try simp only [Act.put, List.getElem_toArray, List.getElem_cons_zero, List.getElem_cons_succ, List.setIfInBounds_toArray, List.set_cons_zero, List.set_cons_succ]
    refine' wpAnyF_take (i := 5) (n := 11) (v := _) rfl (by kernel_rfl) (fun _ _ _ h => h) (by assumption) (Or.inl ⟨by rfl, ?hy6⟩) ?rest6
    case' hy6 => (intro w' hSw; (try dsimp only at hSw); go_simp; try with_reducible rfl)
    try simp only [Act.put, List.getElem_toArray, List.getElem_cons_zero, List.getElem_cons_succ, List.setIfInBounds_toArray, List.set_cons_zero, List.set_cons_succ]
    refine' wpAnyF_take (i := 6) (n := 11) (v := _) rfl (by kernel_rfl) (fun _ _ _ h => h) (by assumption) (Or.inl ⟨by rfl, ?hy7⟩) ?rest7
    case' hy7 => (intro w' hSw; (try dsimp only at hSw); go_simp; try with_reducible rfl)
    try simp only [Act.put, List.getElem_toArray, List.getElem_cons_zero, List.getElem_cons_succ, List.setIfInBounds_toArray, List.set_cons_zero, List.set_cons_succ]
    refine' wpAnyF_take (i := 7) (n := 11) (v := _) rfl (by kernel_rfl) (fun _ _ _ h => h) (by assumption) (Or.inl ⟨by rfl, ?hy8⟩) ?rest8
    case' hy8 => (intro w' hSw; (try dsimp only at hSw); go_simp; try with_reducible rfl)
    try simp only [Act.put, List.getElem_toArray, List.getElem_cons_zero, List.getElem_cons_succ, List.setIfInBounds_toArray, List.set_cons_zero, List.set_cons_succ]
    refine' wpAnyF_take (i := 8) (n := 11) (v := _) rfl (by kernel_rfl) (fun _ _ _ h => h) (by assumption) (Or.inl ⟨by rfl, ?hy9⟩) ?rest9
    case' hy9 => (intro w' hSw; (try dsimp only at hSw); go_simp; try with_reducible rfl)
    try simp only [Act.put, List.getElem_toArray, List.getElem_cons_zero, List.getElem_cons_succ, List.setIfInBounds_toArray, List.set_cons_zero, List.set_cons_succ]
    refine' wpAnyF_take (i := 9) (n := 11) (v := _) rfl (by kernel_rfl) (fun _ _ _ h => h) (by assumption) (Or.inl ⟨by rfl, ?hy10⟩) ?rest10
    case' hy10 => (intro w' hSw; (try dsimp only at hSw); go_simp; try with_reducible rfl)
    try simp only [Act.put, List.getElem_toArray, List.getElem_cons_zero, List.getElem_cons_succ, List.setIfInBounds_toArray, List.set_cons_zero, List.set_cons_succ]
    refine' wpAnyF_take (i := 10) (n := 11) (v := _) rfl (by kernel_rfl) (fun _ _ _ h => h) (by assumption) (Or.inl ⟨by rfl, ?hy11⟩) ?rest11
    case' hy11 => (intro w' hSw; (try dsimp only at hSw); go_simp; try with_reducible rfl)
    try simp only [Act.put, List.getElem_toArray, List.getElem_cons_zero, List.getElem_cons_succ, List.setIfInBounds_toArray, List.set_cons_zero, List.set_cons_succ]
    clear hHeld
    refine wpAnyF_only (i := 11) rfl (by kernel_rfl) (fun K hK => ?_)
    go_simp
    refine hK.out _ _ (Or.inl (by kernel_rfl)) ?_
    clear hK K
    try simp only [Act.put, List.getElem_toArray, List.getElem_cons_zero, List.getElem_cons_succ, List.setIfInBounds_toArray, List.set_cons_zero, List.set_cons_succ]
    refine wpAnyF_done (by kernel_rfl) ?_ _
    go_wp2
    go_ret
    exact ⟨rfl, _, _, by rw [HQ.out]; exact HS.out.step⟩
end Go.Proofs.YtdpmnlbnlnmjbaaGreatDoor

/- RkL -/
namespace Go.Proofs.YtdpmnlbnlnmjbaaGreatDoor
open Go.RowKit Go.Extern.Stop Go.Stop Go.Extern Go.Sort

set_option maxRecDepth 20000 in
set_option maxHeartbeats 2000000 in
theorem rstep_swap {cs : List (List Ins)} {p : RkPl} {m : Mk} {K t : Nat} {w : World} (D : RkX cs p m K w) {L : List Ins} (ht : cs[t]? = some L) {x : Ins} (hx : L[m.pc t]? = some x) (e : x.op = ⟨#[115, 119, 97, 112]⟩) {i : Nat} (hi : i < 8) (ei : x.a = i) {j : Nat} (hj : j < 8) (ej : x.b = j) {k : Nat} (hk : k < 4) (ek : x.c = k) :
    Calls Tryz.prog 25 #[.pointer (some ⟨p.k, 0, none⟩), .int .i64 t] w fun e w' => e = .returned (.int .i64 0) ∧ ∃ r v, RkStep cs p m.mem w r v (m.step L t) w' := by
  have hM : m.step L t = (m.setPc t (m.pc t + 1)).exec L t x := by unfold Mk.step; rw [hx]
  obtain ⟨M', hM'⟩ : ∃ M', M' = (m.setPc t (m.pc t + 1)).exec L t x := ⟨_, rfl⟩
  rw [hM, ← hM']
  rw [exec_swap (m.setPc t (m.pc t + 1)) L t e] at hM'
  clear hM
  rw [ei] at hM'
  rw [ej] at hM'
  rw [ek] at hM'
  simp only [Int.toNat_natCast] at hM'
  try simp only [show ∀ r, (m.setPc t (m.pc t + 1)).regs t r = m.regs t r from fun _ => rfl] at hM'
  have HD := hide (rdone_at ht hx D.at')
  obtain ⟨xo, xa, xb, xc, xt⟩ := x
  dsimp only at e ei ej ek hM' ⊢
  subst e ei ej ek
  have HM' := hide hM'
  clear hM'
  have htl := lt_of_get ht
  have h6 := D.at'.few
  have hpl := lt_of_get hx
  have hL2 := (D.right.right t L ht).1
  have hcap := D.at'.tcap
  have hcc := D.at'.ccap t L ht
  have ti : (t : Int) < cs.length := by omega
  have t6 : (t : Int) < 6 := by omega
  have pi : (m.pc t : Int) < L.length := by omega
  have hpc2 : m.pc t ≤ 2000 := D.ok.pcs t
  have hpw := wrapNext hpc2
  have hpw2 := wrapNext2 hpc2
  have hr8 := D.at'.rcap t htl
  have li : (i : Int) < 8 := by omega
  have lj : (j : Int) < 8 := by omega
  have lk : (k : Int) < 4 := by omega
  have HIN := hide (D.at'.rc.code ht)
  have HX := hide D
  have H := hide D.at'
  have d0 : decide ((t : Int) < 0) = false := by simp
  have hT := H.out.mT
  clear D
  go_enter Tryz.func25, Tryz.ntmps25
  go_wp2_with fail
  refine HD.out.mono ?_
  rintro e w1 ⟨rfl, hb1⟩
  clear HD hT
  have H1 := hide (H.out.below hb1)
  have HIN1 := hide (insAt_below HIN.out hb1)
  have hT := H1.out.mT
  have hA := H1.out.tAt t htl
  have hC := H1.out.tCode t L ht
  have hR := H1.out.tRegs t htl
  obtain ⟨cb, off, had, c0, c1, c2, c3, c4⟩ := HIN1.out _ _ hx
  dsimp only at c0 c1 c2 c3 c4
  rw [had] at hC
  have lcb : cb < w1.heap.size := World.block_lt_of_cell? _ _ c0
  have lk := H1.out.lk
  have lt := H1.out.lt'
  have lr := H1.out.lr htl
  have zt := H1.out.ft (t * 3 + 2)
  obtain ⟨W2, hW2⟩ : ∃ W2, W2 = (w1.alloc (.cells #[.string ⟨#[115, 119, 97, 112]⟩, .int .i64 i, .int .i64 j, .int .i64 k, .string xt] 75)).drew := ⟨_, rfl⟩
  have b2 : Below w1.heap.size w1 W2 := by rw [hW2]; exact ((Below.refl _ _).alloc (Nat.le_refl _) _).drew
  have q0 : W2.cell? ⟨w1.heap.size, 0, none⟩ = some (.string ⟨#[115, 119, 97, 112]⟩) := by rw [hW2]; simp
  have q1 : W2.cell? ⟨w1.heap.size, 1, none⟩ = some (.int .i64 i) := by rw [hW2]; simp
  have q2 : W2.cell? ⟨w1.heap.size, 2, none⟩ = some (.int .i64 j) := by rw [hW2]; simp
  have q3 : W2.cell? ⟨w1.heap.size, 3, none⟩ = some (.int .i64 k) := by rw [hW2]; simp
  have q4 : W2.cell? ⟨w1.heap.size, 4, none⟩ = some (.string xt) := by rw [hW2]; simp
  have lW2 : w1.heap.size < W2.heap.size := World.block_lt_of_cell? _ _ q0
  clear HIN HIN1 had
  go_wp2_with fail
  go_region
  rw [← hW2]
  have B2 := below_step hb1 b2
  have H2 := hide (H.out.below B2)
  replace hT := H2.out.mT
  replace hA := H2.out.tAt t htl
  replace hR := H2.out.tRegs t htl
  replace hC := keep_cell b2 hC
  replace zt := H2.out.ft (t * 3 + 2)
  have dk := H2.out.d1
  have dr1 := (H2.out.d2 t htl).1
  have dr2 := (H2.out.d2 t htl).2
  have G2 : Hid (Stg cs p m.mem w w1.heap.size p.rp p.mv m W2) := hide (Stg.first H.out B2 hb1.size lW2)
  obtain ⟨nk, nt, nr⟩ := G2.out.ne
  replace nr := nr t htl
  have lk2 : p.k < W2.heap.size := by omega
  have lt2 : p.tb < W2.heap.size := by omega
  have lr2 : p.rb t < W2.heap.size := by omega
  obtain ⟨W3, hW3⟩ : ∃ W3, W3 = W2.setCell ⟨p.tb, t * 3 + 2, none⟩ (.int .i64 ((m.pc t : Int) + 1)) := ⟨_, rfl⟩
  have S3 : Hid (RkStep cs p m.mem W2 p.rp p.mv (m.setPc t (m.pc t + 1)) W3) := hide (by rw [hW3]; exact H2.out.setPc htl (m.pc t + 1))
  have G3 : Hid (Stg cs p m.mem w w1.heap.size p.rp p.mv (m.setPc t (m.pc t + 1)) W3) := hide (G2.out.trans S3.out)
  have HM3 : Hid (RkAt cs p (m.setPc t (m.pc t + 1)) W3) := hide G3.out.step.at'
  have HX3 : Hid (RkX cs p (m.setPc t (m.pc t + 1)) K W3) := hide ⟨HM3.out, HX.out.ok.setPc t (by omega), HX.out.right, HX.out.hK⟩
  have y0 := G2.out.keep S3.out q0
  have y1 := G2.out.keep S3.out q1
  have y2 := G2.out.keep S3.out q2
  have y3 := G2.out.keep S3.out q3
  have y4 := G2.out.keep S3.out q4
  have T3 := HM3.out.mT
  have R3 := HM3.out.tRegs t htl
  have k3 := HM3.out.mM
  have lW3 : w1.heap.size < W3.heap.size := G3.out.lt
  have G0 : Hid (∀ r, r < 8 → W2.cell? ⟨p.rb t, r, none⟩ = some (.int .i64 (m.regs t r)) ∧ W2.frozen? ⟨p.rb t, r, none⟩ = false) := fun r hr => ⟨H2.out.regs t r htl hr, H2.out.fr t r htl⟩
  clear H2 c0 c1 c2 c3 c4 hb1 b2 B2 hW2 G2 S3 H1 lcb
  obtain ⟨fi, fzi⟩ := G0.out i (by omega)
  have gi : W3.cell? ⟨p.rb t, i, none⟩ = some (.int .i64 (m.regs t i)) := HM3.out.regs t i htl (by omega)
  obtain ⟨fj, fzj⟩ := G0.out j (by omega)
  have gj : W3.cell? ⟨p.rb t, j, none⟩ = some (.int .i64 (m.regs t j)) := HM3.out.regs t j htl (by omega)
  clear G0
  have hwd : Wd (m.regs t j) := HX3.out.ok.regs t j
  have hfl : (m.setPc t (m.pc t + 1)).faults ≤ 900000000 := HX3.out.faults
  have hx8 := HX3.out.few htl
  cases hy : (m.setPc t (m.pc t + 1)).names (m.regs t j)
  · have HQ : Hid (M' = ((m.setPc t (m.pc t + 1)).addFault 1).setReg t i 0) := by show _ = _; rw [HM'.out]; unfold Mk.swap; rw [hy]; rfl
    have HN := hide (rnames_no hwd HM3.out (by omega) hy)
    clear HM3 HX3 hwd hy HM'
    generalize m.regs t i = Ri at *
    generalize m.regs t j = Rj at *
    go_wp2_with fail
    rw [← hW3]
    clear hT hA hR hC zt q0 q1 q2 q3 q4 lW2 lk2 lt2 lr2 hW3
    refine HN.out.mono ?_
    rintro e w4 ⟨⟨c4, g4, rfl⟩, k4⟩
    clear HN
    replace y1 := G3.out.keep k4 y1
    replace y2 := G3.out.keep k4 y2
    have G4 := hide (G3.out.trans k4)
    have HM4 := hide G4.out.step.at'
    have lr4 : p.rb t < w4.heap.size := HM4.out.lr htl
    have lx4 := G4.out.lt
    have v4 : w4.cell? ⟨p.rb t, i, none⟩ = some (.int .i64 (((m.setPc t (m.pc t + 1)).addFault 1).regs t i)) := HM4.out.regs t i htl (by omega)
    have z4 : w4.frozen? ⟨p.rb t, i, none⟩ = false := HM4.out.fr t i htl
    have HS := hide ((G4.out.trans (HM4.out.setReg htl (show i < 8 by omega) 0)).below ((Below.refl _ _).alloc (Nat.le_refl _) (.cells #[.int .i64 c4, .int .i64 g4] 95)))
    clear k4 G4 HM4 G3 T3 R3 k3 y0 y3 y4
    go_wp2
    go_ret
    exact ⟨rfl, _, _, by rw [HQ.out]; exact HS.out.step⟩
  · have HQ : Hid (M' = (((m.setPc t (m.pc t + 1)).fence t).setMem (((m.setPc t (m.pc t + 1)).fence t).mem.setWord (cellOf (m.regs t j)).toNat k (m.regs t i))).setReg t i (((m.setPc t (m.pc t + 1)).fence t).mem.ar.words (cellOf (m.regs t j)).toNat k)) := by show _ = _; rw [HM'.out]; unfold Mk.swap; rw [hy]; rfl
    have HFE := hide (fun w' (h : RkAt cs p (m.setPc t (m.pc t + 1)) w') => rkfence_any htl h (HX3.out.waits htl) hx8 (by omega))
    obtain ⟨kk, hck, hkk, hhas⟩ := HM3.out.cellAt hy
    have HN := hide (rnames_yes hwd HM3.out hy)
    rw [hck] at HN
    obtain ⟨Gn, hGn⟩ : ∃ Gn, Gn = genOf (m.regs t j) := ⟨_, rfl⟩
    rw [← hGn] at HN
    have hsz : ((m.setPc t (m.pc t + 1)).fence t).mem.ar.size = m.mem.ar.size := (Rm.drainAll_ar _ _ _).1
    have h64 := HM3.out.mem.small
    rw [show (m.setPc t (m.pc t + 1)).mem.ar.size = m.mem.ar.size from rfl] at h64 hkk
    clear HM3 HX3 hy hhas HM'
    rw [hck, Int.toNat_natCast] at HQ
    clear hck hGn hwd
    go_wp2_with fail
    rw [← hW3]
    clear hT hA hR hC zt q0 q1 q2 q3 q4 lW2 lk2 lt2 lr2 hW3
    refine HN.out.mono ?_
    rintro e w4 ⟨rfl, hb4⟩
    clear HN
    have G4 := hide (G3.out.below hb4)
    have HM4 := hide G4.out.step.at'
    obtain ⟨W5, hW5⟩ : ∃ W5, W5 = w4.alloc (.cells #[.int .i64 kk, .int .i64 Gn] 95) := ⟨_, rfl⟩
    have b5 : Below w4.heap.size w4 W5 := by rw [hW5]; exact (Below.refl _ _).alloc (Nat.le_refl _) _
    have G5 := hide (G4.out.below b5)
    have R5 := hide (G4.out.other (bx' := w4.heap.size) (Nat.le_refl _) b5 (by rw [hW5]; simp))
    have x0 : W5.cell? ⟨w4.heap.size, 0, none⟩ = some (.int .i64 kk) := by rw [hW5]; simp
    have HF5 := hide (HFE.out W5 G5.out.step.at')
    have p1 := keep_cell b5 (keep_cell hb4 y1)
    have p2 := keep_cell b5 (keep_cell hb4 y2)
    have p3 := keep_cell b5 (keep_cell hb4 y3)
    clear HFE b5 HM4 G3 G4 T3 R3 k3 y0 y1 y2 y3 y4 hb4 gi gj
    go_wp2_with fail
    rw [← hW5]
    clear hW5
    refine HF5.out.mono ?_
    rintro e w6 ⟨rfl, r, k6⟩
    clear HF5
    replace x0 := R5.out.keep k6 x0
    replace p1 := G5.out.keep k6 p1
    replace p2 := G5.out.keep k6 p2
    replace p3 := G5.out.keep k6 p3
    have G6 := hide (G5.out.trans k6)
    have R6 := hide (R5.out.trans k6)
    have HM6 : Hid (RkAt cs (p.to r p.mv) ((m.setPc t (m.pc t + 1)).fence t) w6) := hide G6.out.step.at'
    clear G5 R5 k6
    have uM : w6.cell? ⟨p.k, 0, none⟩ = some (.pointer (some ⟨r.mb, 0, none⟩)) := HM6.out.mM
    have uC : w6.cell? ⟨r.mb, 0, none⟩ = some (.slice (some ⟨r.cb, 0, none⟩) ((m.setPc t (m.pc t + 1)).fence t).mem.ar.size r.ccap) := HM6.out.mem.mCells
    have ucc : ((m.setPc t (m.pc t + 1)).fence t).mem.ar.size ≤ r.ccap := HM6.out.mem.ccap
    rw [hsz] at uC ucc
    have uki : (kk : Int) < m.mem.ar.size := by omega
    have ukz : kk < ((m.setPc t (m.pc t + 1)).fence t).mem.ar.size := by rw [hsz]; exact hkk
    have si : w6.cell? ⟨p.rb t, i, none⟩ = some (.int .i64 (m.regs t i)) := HM6.out.regs t i htl (by omega)
    have sj : w6.cell? ⟨p.rb t, j, none⟩ = some (.int .i64 (m.regs t j)) := HM6.out.regs t j htl (by omega)
    have uW : w6.cell? ⟨r.cb, kk * 3, none⟩ = some (.slice (some ⟨r.wb kk, 0, none⟩) 4 (r.wcap kk)) := HM6.out.mem.cWords kk ukz
    have ucw : 4 ≤ r.wcap kk := HM6.out.mem.wcap kk ukz
    have uX : w6.cell? ⟨r.wb kk, k, none⟩ = some (.int .i64 (((m.setPc t (m.pc t + 1)).fence t).mem.ar.words kk k)) := HM6.out.mem.words kk k ukz hk
    have uZ : w6.frozen? ⟨r.wb kk, k, none⟩ = false := HM6.out.mem.fw kk _ ukz
    have HW : Hid (∀ n, Stg cs p m.mem w w1.heap.size r p.mv (((m.setPc t (m.pc t + 1)).fence t).setMem (((m.setPc t (m.pc t + 1)).fence t).mem.setWord kk k (m.regs t i))) (((w6.drewN n).setCell ⟨r.wb kk, k, none⟩ (.int .i64 (m.regs t i))).drew)) := fun n => (G6.out.below (Below.drewN' n)).trans (((HM6.out.drewN n).setWordM ukz hk (m.regs t i)).below (Below.refl _ _).drew)
    have HZ : Hid (∀ n, RkStep cs (p.to r p.mv) ((m.setPc t (m.pc t + 1)).fence t).mem (w6.drewN n) r p.mv (((m.setPc t (m.pc t + 1)).fence t).setMem (((m.setPc t (m.pc t + 1)).fence t).mem.setWord kk k (m.regs t i))) (((w6.drewN n).setCell ⟨r.wb kk, k, none⟩ (.int .i64 (m.regs t i))).drew)) := fun n => ((HM6.out.drewN n).setWordM ukz hk (m.regs t i)).below (Below.refl _ _).drew
    have HG : Hid (∀ n, Stg cs p m.mem w w1.heap.size r p.mv ((m.setPc t (m.pc t + 1)).fence t) (w6.drewN n)) := fun n => G6.out.below (Below.drewN' n)
    generalize ((m.setPc t (m.pc t + 1)).fence t).mem.ar.words kk k = V at *
    generalize m.regs t i = Ri at *
    clear G6 R6 HM6 p2 sj hsz ukz
    go_wp2_with fail
    go_quiet (fail)
    replace x0 : (w6.drewN nq).cell? ⟨w4.heap.size, 0, none⟩ = some (.int .i64 kk) := x0
    replace p1 : (w6.drewN nq).cell? ⟨w1.heap.size, 1, none⟩ = some (.int .i64 i) := p1
    replace p3 : (w6.drewN nq).cell? ⟨w1.heap.size, 3, none⟩ = some (.int .i64 k) := p3
    replace uM : (w6.drewN nq).cell? ⟨p.k, 0, none⟩ = some (.pointer (some ⟨r.mb, 0, none⟩)) := uM
    replace uC : (w6.drewN nq).cell? ⟨r.mb, 0, none⟩ = some (.slice (some ⟨r.cb, 0, none⟩) m.mem.ar.size r.ccap) := uC
    replace uW : (w6.drewN nq).cell? ⟨r.cb, kk * 3, none⟩ = some (.slice (some ⟨r.wb kk, 0, none⟩) 4 (r.wcap kk)) := uW
    replace uX : (w6.drewN nq).cell? ⟨r.wb kk, k, none⟩ = some (.int .i64 V) := uX
    replace uZ : (w6.drewN nq).frozen? ⟨r.wb kk, k, none⟩ = false := uZ
    replace si : (w6.drewN nq).cell? ⟨p.rb t, i, none⟩ = some (.int .i64 Ri) := si
    have HW2 := hide (HW.out nq)
    have HZ2 := hide (HZ.out nq)
    have HG2 := hide (HG.out nq)
    clear HW HZ HG
    generalize w6.drewN nq = w7 at *
    go_wp2_with fail
    refine wp_region_F (S := (fun w' => w'.cell? ⟨p.k, 0, none⟩ = some (.pointer (some ⟨r.mb, 0, none⟩)) ∧ w'.cell? ⟨r.mb, 0, none⟩ = some (.slice (some ⟨r.cb, 0, none⟩) m.mem.ar.size r.ccap) ∧ w'.cell? ⟨r.cb, kk * 3, none⟩ = some (.slice (some ⟨r.wb kk, 0, none⟩) 4 (r.wcap kk)) ∧ w'.cell? ⟨r.wb kk, k, none⟩ = some (.int .i64 V) ∧ w'.cell? ⟨w4.heap.size, 0, none⟩ = some (.int .i64 kk) ∧ w'.cell? ⟨w1.heap.size, 1, none⟩ = some (.int .i64 i) ∧ w'.cell? ⟨w1.heap.size, 3, none⟩ = some (.int .i64 k) ∧ w'.cell? ⟨p.rb t, i, none⟩ = some (.int .i64 Ri))) (by kernel_rfl) (by (try dsimp only); go_keep) (fun hHeld => ?_)
    refine' wpAnyF_take (i := 0) (n := 20) (v := _) rfl (by kernel_rfl) (fun _ _ _ h => h) (by assumption) (Or.inl ⟨by rfl, ?hy12⟩) ?rest12
    case' hy12 => (intro w' hSw; (try dsimp only at hSw); go_simp; try with_reducible rfl)
    try simp only [Act.put, List.getElem_toArray, List.getElem_cons_zero, List.setIfInBounds_toArray, List.set_cons_zero, List.set_cons_succ]
    refine' wpAnyF_take (i := 1) (n := 20) (v := _) rfl (by kernel_rfl) (fun _ _ _ h => h) (by assumption) (Or.inl ⟨by rfl, ?hy13⟩) ?rest13
    case' hy13 => (intro w' hSw; (try dsimp only at hSw); go_simp; try with_reducible rfl)
    try simp only [Act.put, List.getElem_toArray, List.getElem_cons_zero, List.getElem_cons_succ, List.setIfInBounds_toArray, List.set_cons_zero, List.set_cons_succ]
    refine' wpAnyF_take (i := 2) (n := 20) (v := _) rfl (by kernel_rfl) (fun _ _ _ h => h) (by assumption) (Or.inl ⟨by rfl, ?hy14⟩) ?rest14
    case' hy14 => (intro w' hSw; (try dsimp only at hSw); go_simp; try with_reducible rfl)
    try simp only [Act.put, List.getElem_toArray, List.getElem_cons_zero, List.getElem_cons_succ, List.setIfInBounds_toArray, List.set_cons_zero, List.set_cons_succ]
    refine' wpAnyF_take (i := 3) (n := 20) (v := _) rfl (by kernel_rfl) (fun _ _ _ h => h) (by assumption) (Or.inl ⟨by rfl, ?hy15⟩) ?rest15
    case' hy15 => (intro w' hSw; (try dsimp only at hSw); go_simp; try with_reducible rfl)
    try simp only [Act.put, List.getElem_toArray, List.getElem_cons_zero, List.getElem_cons_succ, List.setIfInBounds_toArray, List.set_cons_zero, List.set_cons_succ]
    refine' wpAnyF_take (i := 4) (n := 20) (v := _) rfl (by kernel_rfl) (fun _ _ _ h => h) (by assumption) (Or.inl ⟨by rfl, ?hy16⟩) ?rest16
    case' hy16 => (intro w' hSw; (try dsimp only at hSw); go_simp; try with_reducible rfl)
    try simp only [Act.put, List.getElem_toArray, List.getElem_cons_zero, List.getElem_cons_succ, List.setIfInBounds_toArray, List.set_cons_zero, List.set_cons_succ]
    refine' wpAnyF_take (i := 5) (n := 20) (v := _) rfl (by kernel_rfl) (fun _ _ _ h => h) (by assumption) (Or.inl ⟨by rfl, ?hy17⟩) ?rest17
    case' hy17 => (intro w' hSw; (try dsimp only at hSw); go_simp; try with_reducible rfl)
    try simp only [Act.put, List.getElem_toArray, List.getElem_cons_zero, List.getElem_cons_succ, List.setIfInBounds_toArray, List.set_cons_zero, List.set_cons_succ]
    refine' wpAnyF_take (i := 6) (n := 20) (v := _) rfl (by kernel_rfl) (fun _ _ _ h => h) (by assumption) (Or.inl ⟨by rfl, ?hy18⟩) ?rest18
    case' hy18 => (intro w' hSw; (try dsimp only at hSw); go_simp; try with_reducible rfl)
    try simp only [Act.put, List.getElem_toArray, List.getElem_cons_zero, List.getElem_cons_succ, List.setIfInBounds_toArray, List.set_cons_zero, List.set_cons_succ]
    refine' wpAnyF_take (i := 7) (n := 20) (v := _) rfl (by kernel_rfl) (fun _ _ _ h => h) (by assumption) (Or.inl ⟨by rfl, ?hy19⟩) ?rest19
    case' hy19 => (intro w' hSw; (try dsimp only at hSw); go_simp; try with_reducible rfl)
    try simp only [Act.put, List.getElem_toArray, List.getElem_cons_zero, List.getElem_cons_succ, List.setIfInBounds_toArray, List.set_cons_zero, List.set_cons_succ]
    refine' wpAnyF_take (i := 8) (n := 20) (v := _) rfl (by kernel_rfl) (fun _ _ _ h => h) (by assumption) (Or.inl ⟨by rfl, ?hy20⟩) ?rest20
    case' hy20 => (intro w' hSw; (try dsimp only at hSw); go_simp; try with_reducible rfl)
    try simp only [Act.put, List.getElem_toArray, List.getElem_cons_zero, List.getElem_cons_succ, List.setIfInBounds_toArray, List.set_cons_zero, List.set_cons_succ]
    refine' wpAnyF_take (i := 9) (n := 20) (v := _) rfl (by kernel_rfl) (fun _ _ _ h => h) (by assumption) (Or.inl ⟨by rfl, ?hy21⟩) ?rest21
    case' hy21 => (intro w' hSw; (try dsimp only at hSw); go_simp; try with_reducible rfl)
    try simp only [Act.put, List.getElem_toArray, List.getElem_cons_zero, List.getElem_cons_succ, List.setIfInBounds_toArray, List.set_cons_zero, List.set_cons_succ]
    refine' wpAnyF_take (i := 10) (n := 20) (v := _) rfl (by kernel_rfl) (fun _ _ _ h => h) (by assumption) (Or.inl ⟨by rfl, ?hy22⟩) ?rest22
    case' hy22 => (intro w' hSw; (try dsimp only at hSw); go_simp; try with_reducible rfl)
    try simp only [Act.put, List.getElem_toArray, List.getElem_cons_zero, List.getElem_cons_succ, List.setIfInBounds_toArray, List.set_cons_zero, List.set_cons_succ]
    refine' wpAnyF_take (i := 11) (n := 20) (v := _) rfl (by kernel_rfl) (fun _ _ _ h => h) (by assumption) (Or.inl ⟨by rfl, ?hy23⟩) ?rest23
    case' hy23 => (intro w' hSw; (try dsimp only at hSw); go_simp; try with_reducible rfl)
    try simp only [Act.put, List.getElem_toArray, List.getElem_cons_zero, List.getElem_cons_succ, List.setIfInBounds_toArray, List.set_cons_zero, List.set_cons_succ]
    refine' wpAnyF_take (i := 12) (n := 20) (v := _) rfl (by kernel_rfl) (fun _ _ _ h => h) (by assumption) (Or.inl ⟨by rfl, ?hy24⟩) ?rest24
    case' hy24 => (intro w' hSw; (try dsimp only at hSw); go_simp; try with_reducible rfl)
    try simp only [Act.put, List.getElem_toArray, List.getElem_cons_zero, List.getElem_cons_succ, List.setIfInBounds_toArray, List.set_cons_zero, List.set_cons_succ]
    refine' wpAnyF_take (i := 13) (n := 20) (v := _) rfl (by kernel_rfl) (fun _ _ _ h => h) (by assumption) (Or.inl ⟨by rfl, ?hy25⟩) ?rest25
    case' hy25 => (intro w' hSw; (try dsimp only at hSw); go_simp; try with_reducible rfl)
    try simp only [Act.put, List.getElem_toArray, List.getElem_cons_zero, List.getElem_cons_succ, List.setIfInBounds_toArray, List.set_cons_zero, List.set_cons_succ]
    refine' wpAnyF_take (i := 14) (n := 20) (v := _) rfl (by kernel_rfl) (fun _ _ _ h => h) (by assumption) (Or.inl ⟨by rfl, ?hy26⟩) ?rest26
    case' hy26 => (intro w' hSw; (try dsimp only at hSw); go_simp; try with_reducible rfl)
    try simp only [Act.put, List.getElem_toArray, List.getElem_cons_zero, List.getElem_cons_succ, List.setIfInBounds_toArray, List.set_cons_zero, List.set_cons_succ]
    refine' wpAnyF_take (i := 15) (n := 20) (v := _) rfl (by kernel_rfl) (fun _ _ _ h => h) (by assumption) (Or.inl ⟨by rfl, ?hy27⟩) ?rest27
    case' hy27 => (intro w' hSw; (try dsimp only at hSw); go_simp; try with_reducible rfl)
    try simp only [Act.put, List.getElem_toArray, List.getElem_cons_zero, List.getElem_cons_succ, List.setIfInBounds_toArray, List.set_cons_zero, List.set_cons_succ]
    refine' wpAnyF_take (i := 16) (n := 20) (v := _) rfl (by kernel_rfl) (fun _ _ _ h => h) (by assumption) (Or.inl ⟨by rfl, ?hy28⟩) ?rest28
    case' hy28 => (intro w' hSw; (try dsimp only at hSw); go_simp; try with_reducible rfl)
    try simp only [Act.put, List.getElem_toArray, List.getElem_cons_zero, List.getElem_cons_succ, List.setIfInBounds_toArray, List.set_cons_zero, List.set_cons_succ]
    refine' wpAnyF_take (i := 17) (n := 20) (v := _) rfl (by kernel_rfl) (fun _ _ _ h => h) (by assumption) (Or.inl ⟨by rfl, ?hy29⟩) ?rest29
    case' hy29 => (intro w' hSw; (try dsimp only at hSw); go_simp; try with_reducible rfl)
    try simp only [Act.put, List.getElem_toArray, List.getElem_cons_zero, List.getElem_cons_succ, List.setIfInBounds_toArray, List.set_cons_zero, List.set_cons_succ]
    refine' wpAnyF_take (i := 18) (n := 20) (v := _) rfl (by kernel_rfl) (fun _ _ _ h => h) (by assumption) (Or.inl ⟨by rfl, ?hy30⟩) ?rest30
    case' hy30 => (intro w' hSw; (try dsimp only at hSw); go_simp; try with_reducible rfl)
    try simp only [Act.put, List.getElem_toArray, List.getElem_cons_zero, List.getElem_cons_succ, List.setIfInBounds_toArray, List.set_cons_zero, List.set_cons_succ]
    refine' wpAnyF_take (i := 19) (n := 20) (v := _) rfl (by kernel_rfl) (fun _ _ _ h => h) (by assumption) (Or.inl ⟨by rfl, ?hy31⟩) ?rest31
    case' hy31 => (intro w' hSw; (try dsimp only at hSw); go_simp; try with_reducible rfl)
    try simp only [Act.put, List.getElem_toArray, List.getElem_cons_zero, List.getElem_cons_succ, List.setIfInBounds_toArray, List.set_cons_zero, List.set_cons_succ]
    clear hHeld
    refine wpAnyF_only (i := 20) rfl (by kernel_rfl) (fun K hK => ?_)
    go_simp
    refine hK.out _ _ (Or.inl (by kernel_rfl)) ?_
    clear hK K
    try simp only [Act.put, List.getElem_toArray, List.getElem_cons_zero, List.getElem_cons_succ, List.setIfInBounds_toArray, List.set_cons_zero, List.set_cons_succ]
    refine wpAnyF_done (by kernel_rfl) ?_ _
    replace p1 := HG2.out.keep HZ2.out p1
    have HM8 := hide HW2.out.step.at'
    generalize hW8 : (w7.setCell ⟨r.wb kk, k, none⟩ (.int .i64 Ri)).drew = w8 at *
    have v8 : w8.cell? ⟨p.rb t, i, none⟩ = some (.int .i64 (((m.setPc t (m.pc t + 1)).fence t).regs t i)) := HM8.out.regs t i htl hi
    have z8 : w8.frozen? ⟨p.rb t, i, none⟩ = false := HM8.out.fr t i htl
    have HS := hide (HW2.out.trans (HM8.out.setReg htl hi V))
    clear HM8 HW2 HZ2 HG2 hW8 uM uC uW uX uZ si x0 p3
    go_wp2
    go_ret
    exact ⟨rfl, _, _, by rw [HQ.out]; exact HS.out.step⟩
end Go.Proofs.YtdpmnlbnlnmjbaaGreatDoor
