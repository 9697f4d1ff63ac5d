import Derived.Test.YthfdkngmdaehiaaDoorJ03
import Derived.Test.YthfdkngmdaehiaaDoorJ17

/- Words -/
namespace Go.Proofs.YthfdkngmdaehiaaDoor
open Go.RowKit Go.Extern.Stop Go.Stop Go.Extern

def Worded (c g : Int) : Prop := 0 ≤ c ∧ c < 64 ∧ 0 ≤ g ∧ g * 64 + c + 1 < 4294967296

theorem wordOf_ok (c g : Int) (w : World) (h : Worded c g) :
    Calls Tryd.prog 41 #[.agg #[.int .i64 c, .int .i64 g]] w fun e w' => e = .returned (.tuple #[.int .i64 (g * 64 + c + 1), .int .i64 0]) ∧ Below w.heap.size w w' := by
  have HI : Hid (∀ w, Calls Tryd.prog 24 #[.int .i64 (g * 64 + c + 1)] w fun e w' => e = .returned (.bool true) ∧ w' = w) := fun w => (isWordR_any _ w).mono fun _ _ ⟨h1, h2⟩ => ⟨by rw [h1, decide_eq_true (by unfold Worded at h; omega)], h2⟩
  obtain ⟨h0, h1, h2, h3⟩ := h
  have hg : g ≤ 67108863 := by omega
  have hba := box_below c g w
  clear h3
  go_enter Tryd.func41, Tryd.ntmps41
  go_wp2_with fail
  refine (HI.out _).mono ?_
  rintro e1 w1 ⟨rfl, rfl⟩
  go_wp2
  go_ret2
  exact ⟨rfl, hba⟩

theorem refOf_zero (w : World) :
    Calls Tryd.prog 43 #[.int .i64 0] w fun e w' => e = .returned (.tuple #[.agg #[.int .i64 0, .int .i64 0], .int .i64 5]) ∧ Below w.heap.size w w' := by
  have z0 : (w.alloc (.cells #[.int .i64 0, .int .i64 0] 62)).cell? ⟨w.heap.size, 0, none⟩ = some (.int .i64 0) := by simp
  have z1 : (w.alloc (.cells #[.int .i64 0, .int .i64 0] 62)).cell? ⟨w.heap.size, 1, none⟩ = some (.int .i64 0) := by simp
  have y0 : (w.alloc (.cells #[.int .i64 0, .int .i64 0] 62)).frozen? ⟨w.heap.size, 0, none⟩ = false := by simp
  have y1 : (w.alloc (.cells #[.int .i64 0, .int .i64 0] 62)).frozen? ⟨w.heap.size, 1, none⟩ = false := by simp
  have hba := box_below 0 0 w
  generalize hw : w.alloc (.cells #[.int .i64 0, .int .i64 0] 62) = w1 at *
  go_enter Tryd.func43, Tryd.ntmps43
  go_wp2
  refine bodyPost_ret (v := .tuple #[.agg #[.int .i64 0, .int .i64 0], .int .i64 5]) (by simp only [results, Tryd.results43]; go_simp) rfl ⟨rfl, ?_⟩
  exact ((hba.setCell (Nat.le_refl _) _).setCell (Nat.le_refl _) _)

theorem refOf_ok (n : Int) (w : World) (h1 : 1 ≤ n) (h2 : n < 4294967296) :
    Calls Tryd.prog 43 #[.int .i64 n] w fun e w' => e = .returned (.tuple #[.agg #[.int .i64 ((n - 1) % 64), .int .i64 ((n - 1) / 64)], .int .i64 0]) ∧ Below w.heap.size w w' := by
  have HI : Hid (∀ w, Calls Tryd.prog 24 #[.int .i64 n] w fun e w' => e = .returned (.bool true) ∧ w' = w) := fun w => (isWordR_any _ w).mono fun _ _ ⟨h3, h4⟩ => ⟨by rw [h3, decide_eq_true (by omega)], h4⟩
  have hb : (n == 0) = false := beq_eq_false_iff_ne.2 (by omega)
  have z0 : (w.alloc (.cells #[.int .i64 0, .int .i64 0] 62)).cell? ⟨w.heap.size, 0, none⟩ = some (.int .i64 0) := by simp
  have z1 : (w.alloc (.cells #[.int .i64 0, .int .i64 0] 62)).cell? ⟨w.heap.size, 1, none⟩ = some (.int .i64 0) := by simp
  have y0 : (w.alloc (.cells #[.int .i64 0, .int .i64 0] 62)).frozen? ⟨w.heap.size, 0, none⟩ = false := by simp
  have y1 : (w.alloc (.cells #[.int .i64 0, .int .i64 0] 62)).frozen? ⟨w.heap.size, 1, none⟩ = false := by simp
  have hba := box_below 0 0 w
  generalize hw : w.alloc (.cells #[.int .i64 0, .int .i64 0] 62) = w1 at *
  go_enter Tryd.func43, Tryd.ntmps43
  go_wp2_with fail
  refine (HI.out _).mono ?_
  rintro e1 w2 ⟨rfl, rfl⟩
  go_wp2
  refine bodyPost_ret (v := .tuple #[.agg #[.int .i64 ((n - 1) % 64), .int .i64 ((n - 1) / 64)], .int .i64 0]) (by simp only [results, Tryd.results43]; go_simp) rfl ⟨rfl, ?_⟩
  exact (hba.setCell (Nat.le_refl _) _).setCell (Nat.le_refl _) _
end Go.Proofs.YthfdkngmdaehiaaDoor

/- RkB -/
namespace Go.Proofs.YthfdkngmdaehiaaDoor
open Go.RowKit Go.Extern.Stop Go.Stop Go.Extern Go.Sort

theorem lt_of_get {α : Type} {l : List α} {i : Nat} {x : α} (h : l[i]? = some x) : i < l.length := (List.getElem?_eq_some_iff.1 h).1

set_option maxRecDepth 20000 in
theorem rdone_end {cs : List (List Ins)} {p : RkPl} {m : Mk} {t : Nat} {L : List Ins} (ht : cs[t]? = some L) (hp : L.length ≤ m.pc t) {w : World} (h : RkAt cs p m w) :
    Calls Tryd.prog 20 #[.pointer (some ⟨p.k, 0, none⟩), .int .i64 t] w fun e w' => e = .returned (.bool true) ∧ Below w.heap.size w w' := by
  have hlt := lt_of_get ht
  have h6 := h.few
  have hT := h.mT
  have hA := h.tAt t hlt
  have hC := h.tCode t L ht
  have hcap := h.tcap
  have hcc := h.ccap t L ht
  have ti : (t : Int) < cs.length := by omega
  have hd : decide ((L.length : Int) ≤ m.pc t) = true := by simp; omega
  clear h ht
  go_enter Tryd.func20, Tryd.ntmps20
  go_wp2_with fail
  go_quiet (fail)
  go_wp2
  go_ret
  exact ⟨rfl, Below.drewN' _⟩

set_option maxRecDepth 20000 in
theorem rdone_at {cs : List (List Ins)} {p : RkPl} {m : Mk} {t : Nat} {L : List Ins} {x : Ins} (ht : cs[t]? = some L) (hp : L[m.pc t]? = some x) {w : World} (h : RkAt cs p m w) :
    Calls Tryd.prog 20 #[.pointer (some ⟨p.k, 0, none⟩), .int .i64 t] w fun e w' => e = .returned (.bool (x.op.toList == [115, 116, 111, 112])) ∧ Below w.heap.size w w' := by
  have hlt := lt_of_get ht
  have h6 := h.few
  have hT := h.mT
  have hA := h.tAt t hlt
  have hC := h.tCode t L ht
  have hcap := h.tcap
  have hcc := h.ccap t L ht
  have ti : (t : Int) < cs.length := by omega
  obtain ⟨b, off, had, a0, -, -, -, -⟩ := h.rc.code ht (m.pc t) x hp
  rw [had] at hC
  have hpl := lt_of_get hp
  have hd : decide ((L.length : Int) ≤ m.pc t) = false := by simp; omega
  have hdn : decide (L.length ≤ m.pc t) = false := by simp; omega
  have pi : (m.pc t : Int) < L.length := by omega
  clear h ht hp
  go_enter Tryd.func20, Tryd.ntmps20
  go_wp2_with fail
  go_quiet (fail)
  go_wp2
  go_ret
  exact ⟨rfl, Below.drewN' _⟩

theorem RkAt.fault1 {cs : List (List Ins)} {p : RkPl} {m : Mk} {w : World} (h : RkAt cs p m w) : RkStep cs p m.mem w p.rp p.mv (m.addFault 1) (w.setCell ⟨p.k, 3, none⟩ (.int .i64 ((m.faults : Int) + 1))) := h.addFault 1

set_option maxRecDepth 20000 in
set_option maxHeartbeats 1000000 in
theorem rnames_yes {cs : List (List Ins)} {p : RkPl} {m : Mk} {n : Int} (hn : Wd n) {w : World} (h : RkAt cs p m w) (hy : m.names n = true) :
    Calls Tryd.prog 36 #[.pointer (some ⟨p.k, 0, none⟩), .int .i64 n] w fun e w' => e = .returned (.tuple #[.agg #[.int .i64 (cellOf n), .int .i64 (genOf n)], .bool true]) ∧ Below w.heap.size w w' := by
  obtain ⟨hz, hh⟩ := (Bool.and_eq_true _ _).mp hy
  have hn0 : n ≠ 0 := by simpa using hz
  have h1 : 1 ≤ n := by have := hn.1; omega
  have HR : Hid (∀ w', Calls Tryd.prog 43 #[.int .i64 n] w' fun e w'' => e = .returned (.tuple #[.agg #[.int .i64 (cellOf n), .int .i64 (genOf n)], .int .i64 0]) ∧ Below w'.heap.size w' w'') := fun w' => refOf_ok n w' h1 hn.2
  have HH : Hid (∀ w', Below w.heap.size w w' → Calls Tryd.prog 44 #[.pointer (some ⟨p.rp.mb, 0, none⟩), .agg #[.int .i64 (cellOf n), .int .i64 (genOf n)]] w' fun e w'' => e = .returned (.bool true) ∧ Below w'.heap.size w' w'') := fun w' hb => by
    have := here_any p.rp m.mem (cellOf n) (genOf n) w' (h.below hb).mem
    rwa [hh] at this
  have hM := h.mM
  clear hy hz hh hn h
  generalize cellOf n = c at *
  generalize genOf n = g at *
  have hba : Below w.heap.size w (w.alloc (.cells #[.int .i64 0, .int .i64 0] 62)) := box_below 0 0 w
  have z0 : (w.alloc (.cells #[.int .i64 0, .int .i64 0] 62)).cell? ⟨w.heap.size, 0, none⟩ = some (.int .i64 0) := by simp
  have z1 : (w.alloc (.cells #[.int .i64 0, .int .i64 0] 62)).cell? ⟨w.heap.size, 1, none⟩ = some (.int .i64 0) := by simp
  have y0 : (w.alloc (.cells #[.int .i64 0, .int .i64 0] 62)).frozen? ⟨w.heap.size, 0, none⟩ = false := by simp
  have y1 : (w.alloc (.cells #[.int .i64 0, .int .i64 0] 62)).frozen? ⟨w.heap.size, 1, none⟩ = false := by simp
  have hM1 := keep_cell hba hM
  generalize hw : w.alloc (.cells #[.int .i64 0, .int .i64 0] 62) = w1 at *
  go_enter Tryd.func36, Tryd.ntmps36
  go_wp2_with fail
  refine (HR.out _).mono ?_
  rintro e w2 ⟨rfl, hb2⟩
  have hzl : w.heap.size < w1.heap.size := World.block_lt_of_cell? _ _ z0
  obtain ⟨W3, hW3⟩ : ∃ W3, W3 = w2.alloc (.cells #[.int .i64 c, .int .i64 g] 62) := ⟨_, rfl⟩
  have hb3 : Below w1.heap.size w1 W3 := by rw [hW3]; exact hb2.alloc hb2.size _
  have q0 : W3.cell? ⟨w2.heap.size, 0, none⟩ = some (.int .i64 c) := by rw [hW3]; simp
  have q1 : W3.cell? ⟨w2.heap.size, 1, none⟩ = some (.int .i64 g) := by rw [hW3]; simp
  have r0 := keep_cell hb3 z0
  have r1 := keep_cell hb3 z1
  have x0 : W3.frozen? ⟨w.heap.size, 0, none⟩ = false := by rw [hb3.frozen hzl]; exact y0
  have x1 : W3.frozen? ⟨w.heap.size, 1, none⟩ = false := by rw [hb3.frozen hzl]; exact y1
  have hM3 := keep_cell hb3 hM1
  have B3 := below_step hba hb3
  have l3 : w.heap.size < W3.heap.size := World.block_lt_of_cell? _ _ r0
  clear z0 z1 y0 y1 hM hM1 hw HR hb3
  go_wp2_with fail
  rw [← hW3]
  clear hW3 hb2 hzl
  have HCF : Hid (∀ d os, Calls Tryd.prog 44 #[.pointer (some ⟨p.rp.mb, 0, none⟩), .agg #[.int .i64 c, .int .i64 g]] (grow (redrawn W3 d) os) fun e w'' => e = .returned (.bool true) ∧ ∃ p : Regrown, w'' = grow (redrawn W3 p.d) p.os) := fun d os =>
    Calls.regrown_of (HH.out _ (below_step B3 (below_regrown W3 d os)))
  have d0 := cell_regrown q0
  have d1 := cell_regrown q1
  have dM := cell_regrown hM3
  clear HH
  go_wp2_with fail
  refine wp_region_quiet_below (by kernel_rfl) (by kernel_rfl) ?_
  repeat (first
    | go_big_quiet_step (exact HCF.out _ _)
    | quiet_step (exact HCF.out _ _))
  refine wpQuiet_nil ?_
  intro _ hw'
  obtain ⟨⟨dq, osq⟩, hw''⟩ := hw'
  subst hw''
  have hb4 := below_regrown W3 dq osq
  have B4 := below_step B3 hb4
  have e0 := d0 dq osq
  have e1 := d1 dq osq
  replace r0 := keep_cell hb4 r0
  replace r1 := keep_cell hb4 r1
  have x0' : (grow (redrawn W3 dq) osq).frozen? ⟨w.heap.size, 0, none⟩ = false := by rw [hb4.frozen l3]; exact x0
  have x1' : (grow (redrawn W3 dq) osq).frozen? ⟨w.heap.size, 1, none⟩ = false := by rw [hb4.frozen l3]; exact x1
  clear HCF d0 d1 dM q0 q1 x0 x1 hM3 B3 hb4 l3
  generalize grow (redrawn W3 dq) osq = w4 at *
  go_wp2
  refine bodyPost_ret (v := .tuple #[.agg #[.int .i64 c, .int .i64 g], .bool true]) (by simp only [results, Tryd.results36]; go_simp) rfl ⟨rfl, ?_⟩
  exact (B4.setCell (Nat.le_refl _) _).setCell (Nat.le_refl _) _
end Go.Proofs.YthfdkngmdaehiaaDoor
