import Derived.Test.YtdpmnlbnlnmjbaaGreatDoorK34
import Derived.Laws.BitsLemmas
import Derived.Test.YtdpmnlbnlnmjbaaGreatDoorK13

/- RkC -/
namespace Go.Proofs.YtdpmnlbnlnmjbaaGreatDoor
open Go.RowKit Go.Extern.Stop Go.Stop Go.Extern Go.Sort

set_option maxRecDepth 20000 in
set_option maxHeartbeats 1000000 in
theorem rnames_zero {cs : List (List Ins)} {p : RkPl} {m : Mk} {w : World} (h : RkAt cs p m w) (hf : m.faults ≤ 1000000000) :
    Calls Tryz.prog 56 #[.pointer (some ⟨p.k, 0, none⟩), .int .i64 0] w fun e w' => (∃ c g : Int, e = .returned (.tuple #[.agg #[.int .i64 c, .int .i64 g], .bool false])) ∧ RkStep cs p m.mem w p.rp p.mv (m.addFault 1) w' := by
  have hba : Below w.heap.size w (w.alloc (.cells #[.int .i64 0, .int .i64 0] 95)) := box_below 0 0 w
  have z0 : (w.alloc (.cells #[.int .i64 0, .int .i64 0] 95)).cell? ⟨w.heap.size, 0, none⟩ = some (.int .i64 0) := by simp
  have z1 : (w.alloc (.cells #[.int .i64 0, .int .i64 0] 95)).cell? ⟨w.heap.size, 1, none⟩ = some (.int .i64 0) := by simp
  have y0 : (w.alloc (.cells #[.int .i64 0, .int .i64 0] 95)).frozen? ⟨w.heap.size, 0, none⟩ = false := by simp
  have y1 : (w.alloc (.cells #[.int .i64 0, .int .i64 0] 95)).frozen? ⟨w.heap.size, 1, none⟩ = false := by simp
  have hlk := h.lk
  have H := hide h
  clear h
  generalize hw : w.alloc (.cells #[.int .i64 0, .int .i64 0] 95) = w1 at *
  go_enter Tryz.func56, Tryz.ntmps56
  go_wp2_with fail
  refine (refOf_zero _).mono ?_
  rintro e w2 ⟨rfl, hb2⟩
  have hzl : w.heap.size < w1.heap.size := World.block_lt_of_cell? _ _ z0
  obtain ⟨W3, hW3⟩ : ∃ W3, W3 = w2.alloc (.cells #[.int .i64 0, .int .i64 0] 95) := ⟨_, rfl⟩
  have hb3 : Below w1.heap.size w1 W3 := by rw [hW3]; exact hb2.alloc hb2.size _
  have q0 : W3.cell? ⟨w2.heap.size, 0, none⟩ = some (.int .i64 0) := by rw [hW3]; simp
  have q1 : W3.cell? ⟨w2.heap.size, 1, none⟩ = some (.int .i64 0) := by rw [hW3]; simp
  have r0 := keep_cell hb3 z0
  have r1 := keep_cell hb3 z1
  have x0 : W3.frozen? ⟨w.heap.size, 0, none⟩ = false := by rw [hb3.frozen hzl]; exact y0
  have x1 : W3.frozen? ⟨w.heap.size, 1, none⟩ = false := by rw [hb3.frozen hzl]; exact y1
  have B3 := below_step hba hb3
  clear z0 z1 y0 y1 hw hb3
  go_wp2_with fail
  rw [← hW3]
  clear hW3 hb2 hzl
  have d1 : ((5 : Int) == 0) = false := by decide
  go_quiet (fail)
  have B4 := B3.trans ((Below.drewN' (w := W3) nq).mono B3.size)
  have H4 := hide (H.out.below B4)
  have hF := H4.out.mFaults
  have hZ := H4.out.fk 3
  have S4 : Hid (∀ u0 u1, RkStep cs p m.mem w p.rp p.mv (m.addFault 1) ((((W3.drewN nq).setCell ⟨p.k, 3, none⟩ (.int .i64 ((m.faults : Int) + 1))).setCell ⟨w.heap.size, 0, none⟩ u0).setCell ⟨w.heap.size, 1, none⟩ u1)) := fun u0 u1 => by
    have hn : ¬ p.fp cs.length m.mem w.heap.size := fun e => by have := H.out.fp_lt e; omega
    have hB := H.out.rc.size
    exact ((RkStep.of_below B4 H4.out.fault1).setNew u0 (Nat.le_refl _) hn hB).setNew u1 (Nat.le_refl _) hn hB
  replace q0 : (W3.drewN nq).cell? ⟨w2.heap.size, 0, none⟩ = some (.int .i64 0) := q0
  replace q1 : (W3.drewN nq).cell? ⟨w2.heap.size, 1, none⟩ = some (.int .i64 0) := q1
  replace r0 : (W3.drewN nq).cell? ⟨w.heap.size, 0, none⟩ = some (.int .i64 0) := r0
  replace r1 : (W3.drewN nq).cell? ⟨w.heap.size, 1, none⟩ = some (.int .i64 0) := r1
  replace x0 : (W3.drewN nq).frozen? ⟨w.heap.size, 0, none⟩ = false := x0
  replace x1 : (W3.drewN nq).frozen? ⟨w.heap.size, 1, none⟩ = false := x1
  clear B3 H4 H
  generalize W3.drewN nq = w4 at *
  go_wp2
  refine bodyPost_ret (v := .tuple #[.agg #[.int .i64 0, .int .i64 0], .bool false]) (by simp only [results, Tryz.results56]; go_simp) rfl ⟨⟨_, _, rfl⟩, ?_⟩
  exact S4.out _ _

set_option maxRecDepth 20000 in
set_option maxHeartbeats 1000000 in
theorem rnames_gone {cs : List (List Ins)} {p : RkPl} {m : Mk} {n : Int} (hn : Wd n) (hn0 : n ≠ 0) {w : World} (h : RkAt cs p m w) (hf : m.faults ≤ 1000000000) (hh : m.mem.ar.has (cellOf n) (genOf n) = false) :
    Calls Tryz.prog 56 #[.pointer (some ⟨p.k, 0, none⟩), .int .i64 n] w fun e w' => (∃ c g : Int, e = .returned (.tuple #[.agg #[.int .i64 c, .int .i64 g], .bool false])) ∧ RkStep cs p m.mem w p.rp p.mv (m.addFault 1) w' := by
  have h1 : 1 ≤ n := by have := hn.1; omega
  have HR : Hid (∀ w', Calls Tryz.prog 87 #[.int .i64 n] w' fun e w'' => e = .returned (.tuple #[.agg #[.int .i64 (cellOf n), .int .i64 (genOf n)], .int .i64 0]) ∧ Below w'.heap.size w' w'') := fun w' => refOf_ok n w' h1 hn.2
  have HH : Hid (∀ w', Below w.heap.size w w' → Calls Tryz.prog 88 #[.pointer (some ⟨p.rp.mb, 0, none⟩), .agg #[.int .i64 (cellOf n), .int .i64 (genOf n)]] w' fun e w'' => e = .returned (.bool false) ∧ Below w'.heap.size w' w'') := fun w' hb => by
    have := here_any p.rp m.mem (cellOf n) (genOf n) w' (h.below hb).mem
    rwa [hh] at this
  have hM := h.mM
  have H := hide h
  clear hh hn h hn0
  generalize cellOf n = c at *
  generalize genOf n = g at *
  have hba : Below w.heap.size w (w.alloc (.cells #[.int .i64 0, .int .i64 0] 95)) := box_below 0 0 w
  have z0 : (w.alloc (.cells #[.int .i64 0, .int .i64 0] 95)).cell? ⟨w.heap.size, 0, none⟩ = some (.int .i64 0) := by simp
  have z1 : (w.alloc (.cells #[.int .i64 0, .int .i64 0] 95)).cell? ⟨w.heap.size, 1, none⟩ = some (.int .i64 0) := by simp
  have y0 : (w.alloc (.cells #[.int .i64 0, .int .i64 0] 95)).frozen? ⟨w.heap.size, 0, none⟩ = false := by simp
  have y1 : (w.alloc (.cells #[.int .i64 0, .int .i64 0] 95)).frozen? ⟨w.heap.size, 1, none⟩ = false := by simp
  have hM1 := keep_cell hba hM
  generalize hw : w.alloc (.cells #[.int .i64 0, .int .i64 0] 95) = w1 at *
  go_enter Tryz.func56, Tryz.ntmps56
  go_wp2_with fail
  refine (HR.out _).mono ?_
  rintro e w2 ⟨rfl, hb2⟩
  have hzl : w.heap.size < w1.heap.size := World.block_lt_of_cell? _ _ z0
  obtain ⟨W3, hW3⟩ : ∃ W3, W3 = w2.alloc (.cells #[.int .i64 c, .int .i64 g] 95) := ⟨_, rfl⟩
  have hb3 : Below w1.heap.size w1 W3 := by rw [hW3]; exact hb2.alloc hb2.size _
  have q0 : W3.cell? ⟨w2.heap.size, 0, none⟩ = some (.int .i64 c) := by rw [hW3]; simp
  have q1 : W3.cell? ⟨w2.heap.size, 1, none⟩ = some (.int .i64 g) := by rw [hW3]; simp
  have r0 := keep_cell hb3 z0
  have r1 := keep_cell hb3 z1
  have x0 : W3.frozen? ⟨w.heap.size, 0, none⟩ = false := by rw [hb3.frozen hzl]; exact y0
  have x1 : W3.frozen? ⟨w.heap.size, 1, none⟩ = false := by rw [hb3.frozen hzl]; exact y1
  have hM3 := keep_cell hb3 hM1
  have B3 := below_step hba hb3
  have l3 : w.heap.size < W3.heap.size := World.block_lt_of_cell? _ _ r0
  clear z0 z1 y0 y1 hM hM1 hw HR hb3
  go_wp2_with fail
  rw [← hW3]
  clear hW3 hb2 hzl
  have HCF : Hid (∀ d os, Calls Tryz.prog 88 #[.pointer (some ⟨p.rp.mb, 0, none⟩), .agg #[.int .i64 c, .int .i64 g]] (grow (redrawn W3 d) os) fun e w'' => e = .returned (.bool false) ∧ ∃ p : Regrown, w'' = grow (redrawn W3 p.d) p.os) := fun d os =>
    Calls.regrown_of (HH.out _ (below_step B3 (below_regrown W3 d os)))
  have d0 := cell_regrown q0
  have d1 := cell_regrown q1
  have dM := cell_regrown hM3
  clear HH
  go_wp2_with fail
  refine wp_region_quiet_below (by kernel_rfl) (by kernel_rfl) ?_
  repeat (first
    | go_big_quiet_step (exact HCF.out _ _)
    | quiet_step (exact HCF.out _ _))
  refine wpQuiet_nil ?_
  intro _ hw'
  obtain ⟨⟨dq, osq⟩, hw''⟩ := hw'
  subst hw''
  have hb4 := below_regrown W3 dq osq
  have B4 := below_step B3 hb4
  have e0 := d0 dq osq
  have e1 := d1 dq osq
  replace r0 := keep_cell hb4 r0
  replace r1 := keep_cell hb4 r1
  have x0' : (grow (redrawn W3 dq) osq).frozen? ⟨w.heap.size, 0, none⟩ = false := by rw [hb4.frozen l3]; exact x0
  have x1' : (grow (redrawn W3 dq) osq).frozen? ⟨w.heap.size, 1, none⟩ = false := by rw [hb4.frozen l3]; exact x1
  clear HCF d0 d1 dM q0 q1 x0 x1 hM3 B3 hb4 l3
  generalize grow (redrawn W3 dq) osq = w4 at *
  have H4 := hide (H.out.below B4)
  have hF := H4.out.mFaults
  have hZ := H4.out.fk 3
  have hlk := H.out.lk
  have S4 : Hid (∀ u0 u1, RkStep cs p m.mem w p.rp p.mv (m.addFault 1) (((w4.setCell ⟨p.k, 3, none⟩ (.int .i64 ((m.faults : Int) + 1))).setCell ⟨w.heap.size, 0, none⟩ u0).setCell ⟨w.heap.size, 1, none⟩ u1)) := fun u0 u1 => by
    have hn : ¬ p.fp cs.length m.mem w.heap.size := fun e => by have := H.out.fp_lt e; omega
    have hB := H.out.rc.size
    exact ((RkStep.of_below B4 H4.out.fault1).setNew u0 (Nat.le_refl _) hn hB).setNew u1 (Nat.le_refl _) hn hB
  clear H4 H B4
  go_wp2
  refine bodyPost_ret (v := .tuple #[.agg #[.int .i64 c, .int .i64 g], .bool false]) (by simp only [results, Tryz.results56]; go_simp) rfl ⟨⟨_, _, rfl⟩, ?_⟩
  exact S4.out _ _

theorem rnames_no {cs : List (List Ins)} {p : RkPl} {m : Mk} {n : Int} (hn : Wd n) {w : World} (h : RkAt cs p m w) (hf : m.faults ≤ 1000000000) (hy : m.names n = false) :
    Calls Tryz.prog 56 #[.pointer (some ⟨p.k, 0, none⟩), .int .i64 n] w fun e w' => (∃ c g : Int, e = .returned (.tuple #[.agg #[.int .i64 c, .int .i64 g], .bool false])) ∧ RkStep cs p m.mem w p.rp p.mv (m.addFault 1) w' := by
  by_cases h0 : n = 0
  · subst h0; exact rnames_zero h hf
  · refine rnames_gone hn h0 h hf ?_
    unfold Mk.names at hy
    have hb : (n == 0) = false := beq_eq_false_iff_ne.2 h0
    rw [hb] at hy
    simpa using hy

theorem rkfence_any {cs : List (List Ins)} {p : RkPl} {m : Mk} {t : Nat} (ht : t < cs.length) {w : World} (h : RkAt cs p m w) (hx : ∀ x ∈ m.mem.waits t, x.Ok) (h8 : (m.mem.waits t).length ≤ 8) (hf : m.faults ≤ 1000000000) :
    Calls Tryz.prog 60 #[.pointer (some ⟨p.k, 0, none⟩), .int .i64 t] w fun e w' => e = .returned (.tuple #[]) ∧ ∃ r, RkStep cs p m.mem w r p.mv (m.fence t) w' := by
  have hM := h.mM
  have hF := h.mFaults
  have hZ := h.fk 3
  have hlk := h.lk
  have hg := Nat.le_trans (Rm.gone_le (m.mem.waits t) t m.mem) h8
  have HF : Hid (∀ w', RkAt cs p m w' → Calls Tryz.prog 90 #[.pointer (some ⟨p.rp.mb, 0, none⟩), .int .i64 t] w' fun e w'' => e = .returned (.int .i64 (m.mem.gone t (m.mem.waits t))) ∧ w''.cell? ⟨p.k, 3, none⟩ = some (.int .i64 m.faults) ∧ w''.frozen? ⟨p.k, 3, none⟩ = false ∧ Hid (∃ r, RkStep cs p m.mem w' r p.mv (m.setMem (m.mem.drainAll t (m.mem.waits t))) w'')) := fun w' h' =>
    (rfence_any p.rp m.mem t w' h'.mem (by rw [h'.thr]; exact ht) (fun x hx' => (hx x hx').1) (by omega)).mono fun _ w'' ⟨e1, r, q⟩ => by
      have S := h'.ofMem q (Rm.drainAll_ar _ _ _).2.2.2
      exact ⟨e1, S.at'.mFaults, S.at'.fk 3, r, S⟩
  have HD : Hid (m.fence t = (m.setMem (m.mem.drainAll t (m.mem.waits t))).addFault (m.mem.gone t (m.mem.waits t))) := rfl
  have hfm : Hid ((m.setMem (m.mem.drainAll t (m.mem.waits t))).faults = m.faults) := rfl
  rw [HD.out]
  have H := hide h
  clear h hx h8 HD
  generalize m.mem.gone t (m.mem.waits t) = G at *
  have HW : Hid (IntKind.i64.wrap ((m.faults : Int) + (G : Int)) = ((m.faults + G : Nat) : Int)) := by show _ = _; rw [IntKind.wrap_i64]; omega
  generalize m.setMem (m.mem.drainAll t (m.mem.waits t)) = m' at *
  go_enter Tryz.func60, Tryz.ntmps60
  go_wp2_with fail
  go_region_with (go_at_call 90; refine (HF.out _ (H.out.drewN 1)).mono ?_; rintro e w2 ⟨rfl, f2, z2, S2⟩)
  all_goals
    go_wp2
    go_end0
    obtain ⟨r, S⟩ := S2.out
    refine ⟨rfl, r, ?_⟩
    have S3 := S.trans (S.at'.addFault G)
    rw [hfm.out] at S3
    rw [HW.out]
    exact RkStep.of_below (Below.drewN' 1) S3
end Go.Proofs.YtdpmnlbnlnmjbaaGreatDoor

/- RkD -/
namespace Go.Proofs.YtdpmnlbnlnmjbaaGreatDoor
open Go.RowKit Go.Extern.Stop Go.Stop Go.Extern

theorem bit_and (x y : Nat) (hx : x < 2) (hy : y < 2) : (x &&& y) = if x + y = 2 then 1 else 0 := by
  rcases (by omega : x = 0 ∨ x = 1) with rfl | rfl <;> rcases (by omega : y = 0 ∨ y = 1) with rfl | rfl <;> decide
theorem bit_xor (x y : Nat) (hx : x < 2) (hy : y < 2) : (x ^^^ y) = if x + y = 1 then 1 else 0 := by
  rcases (by omega : x = 0 ∨ x = 1) with rfl | rfl <;> rcases (by omega : y = 0 ∨ y = 1) with rfl | rfl <;> decide
theorem and_bit (a b i : Nat) : (a &&& b) / 2 ^ i % 2 = if a / 2 ^ i % 2 + b / 2 ^ i % 2 = 2 then 1 else 0 := by
  rw [← Nat.shiftRight_eq_div_pow, Nat.shiftRight_and_distrib, ← bit_and _ _ (Nat.mod_lt _ (by decide)) (Nat.mod_lt _ (by decide)), ← Nat.shiftRight_eq_div_pow, ← Nat.shiftRight_eq_div_pow]
  exact Nat.and_mod_two_pow (n := 1)
theorem xor_bit (a b i : Nat) : (a ^^^ b) / 2 ^ i % 2 = if a / 2 ^ i % 2 + b / 2 ^ i % 2 = 1 then 1 else 0 := by
  rw [← Nat.shiftRight_eq_div_pow, Nat.shiftRight_xor_distrib, ← bit_xor _ _ (Nat.mod_lt _ (by decide)) (Nat.mod_lt _ (by decide)), ← Nat.shiftRight_eq_div_pow, ← Nat.shiftRight_eq_div_pow]
  exact Nat.xor_mod_two_pow (n := 1)
theorem mod_pow_next (n i : Nat) : n % 2 ^ (i + 1) = n % 2 ^ i + 2 ^ i * (n / 2 ^ i % 2) := by
  rw [Nat.pow_succ, Nat.mod_mul]

theorem shr_bit (A j : Nat) : (((A : Nat) : Int) / 2 ^ j).tmod 2 = ((A / 2 ^ j % 2 : Nat) : Int) := by
  have e : ((A : Nat) : Int) / 2 ^ j = ((A / 2 ^ j : Nat) : Int) := by rw [Int.natCast_ediv, Int.natCast_pow]; rfl
  rw [e]
  generalize A / 2 ^ j = X
  rw [Int.tmod_eq_emod_of_nonneg (Int.natCast_nonneg _)]
  omega


structure BitsAnd (A B : Nat) (F : Nat → Int) : Prop where
  zero : F 0 = 0
  next : ∀ (j : Nat) (P X Y : Int), j < 32 → (2 : Int) ^ j = P → ((A : Int) / P).tmod 2 = X → ((B : Int) / P).tmod 2 = Y → (0 ≤ X ∧ X ≤ 1) ∧ (0 ≤ Y ∧ Y ≤ 1) ∧ (1 ≤ P ∧ P ≤ 2147483648) ∧ (0 ≤ F j ∧ F j < P) ∧ F (j + 1) = F j + if X + Y = 2 then P else 0
  last : F 32 = ((A &&& B : Nat) : Int)
theorem bitsAnd_is {A B : Nat} (ha : A < 4294967296) (_hb : B < 4294967296) : BitsAnd A B (fun j => ((((A &&& B) % 2 ^ j : Nat)) : Int)) where
  zero := by simp [Nat.mod_one]
  next j P X Y hj hP hX hY := by
    have hx := shr_bit A j
    have hy := shr_bit B j
    rw [hP, hX] at hx
    rw [hP, hY] at hy
    have hn := mod_pow_next (A &&& B) j
    rw [and_bit] at hn
    have lx := Nat.mod_lt (A / 2 ^ j) (show 2 > 0 by decide)
    have ly := Nat.mod_lt (B / 2 ^ j) (show 2 > 0 by decide)
    have hm : (A &&& B) % 2 ^ j < 2 ^ j := Nat.mod_lt _ (Nat.pow_pos (by decide))
    have h1 : 0 < 2 ^ j := Nat.pow_pos (by decide)
    have hj2 : 2 ^ j ≤ 2147483648 := by
      have e : (2 : Nat) ^ 31 = 2147483648 := by decide +kernel
      have := Nat.pow_le_pow_right (show 0 < 2 by decide) (show j ≤ 31 by omega); omega
    have hp : ((2 ^ j : Nat) : Int) = P := by rw [Int.natCast_pow]; exact hP
    generalize (A &&& B) % 2 ^ (j + 1) = D at *
    generalize (A &&& B) % 2 ^ j = C at *
    generalize A / 2 ^ j % 2 = X' at *
    generalize B / 2 ^ j % 2 = Y' at *
    generalize 2 ^ j = P' at *
    subst hx hy hp
    refine ⟨⟨by omega, by omega⟩, ⟨by omega, by omega⟩, ⟨by omega, by omega⟩, ⟨by omega, by omega⟩, ?_⟩
    by_cases h2 : X' + Y' = 2
    · rw [if_pos h2, Nat.mul_one] at hn
      rw [if_pos (by omega)]
      omega
    · rw [if_neg h2, Nat.mul_zero, Nat.add_zero] at hn
      rw [if_neg (by omega)]
      omega
  last := by
    show (((A &&& B) % 2 ^ 32 : Nat) : Int) = _
    rw [Nat.mod_eq_of_lt]
    exact Nat.lt_of_le_of_lt Nat.and_le_left (by have e : (2 : Nat) ^ 32 = 4294967296 := by decide +kernel
                                                 rw [e]; exact ha)

set_option maxRecDepth 20000 in
set_option maxHeartbeats 1000000 in
theorem rbits_and {A B : Nat} (ha : A < 4294967296) (hb : B < 4294967296) (w : World) :
    Calls Tryz.prog 55 #[.string ⟨#[97, 110, 100]⟩, .int .i64 A, .int .i64 B] w fun e w' => e = .returned (.int .i64 ((A &&& B : Nat) : Int)) ∧ w' = w := by
  obtain ⟨F, HF⟩ : ∃ F, Hid (BitsAnd A B F) := ⟨_, bitsAnd_is ha hb⟩
  have h0 := HF.out.zero
  have HL : Hid (F 32 = ((A &&& B : Nat) : Int)) := HF.out.last
  rw [← HL.out]
  clear HL
  have a2 : (A : Int) < 4294967296 := by omega
  have b2 : (B : Int) < 4294967296 := by omega
  clear ha hb
  go_enter Tryz.func55, Tryz.ntmps55
  go_wp2_with fail
  go_loopw [7, 8, 9, 10] (fun n i _ _ wr => wr = w ∧ ∃ j : Nat, j ≤ 32 ∧ i = .int .i64 j ∧ n = .int .i64 (F j)) (fun _ i _ _ _ => 32 - (intOf i).toNat)
  case atStart => exact ⟨rfl, 0, by decide, rfl, by rw [h0]⟩
  case round =>
    clear h0
    obtain ⟨rfl, j, hj, rfl, rfl⟩ := hrel
    by_cases hlt : j < 32
    · have ji : (j : Int) < 32 := by omega
      obtain ⟨P, hP⟩ : ∃ P : Int, (2 : Int) ^ j = P := ⟨_, rfl⟩
      obtain ⟨X, hX⟩ : ∃ X : Int, ((A : Int) / P).tmod 2 = X := ⟨_, rfl⟩
      obtain ⟨Y, hY⟩ : ∃ Y : Int, ((B : Int) / P).tmod 2 = Y := ⟨_, rfl⟩
      obtain ⟨⟨x0, x1⟩, ⟨y0, y1⟩, ⟨p0, p1⟩, ⟨f0, f1⟩, hn⟩ := HF.out.next j P X Y hlt hP hX hY
      by_cases h2 : X + Y = 2
      · rw [if_pos h2] at hn
        have HN := hide hn
        clear hn
        generalize F j = C at *
        go_wp2
        go_roundw
        case rel => exact ⟨trivial, j + 1, by omega, by go_num, by rw [HN.out]⟩
        case measure => simp [intOf]; omega
      · rw [if_neg h2, Int.add_zero] at hn
        have HN := hide hn
        have k2 : (X + Y == 2) = false := by rw [beq_eq_false_iff_ne]; exact h2
        have k3 : decide (X + Y = 2) = false := decide_eq_false h2
        clear hn h2
        generalize F j = C at *
        go_wp2
        go_roundw
        case rel => exact ⟨trivial, j + 1, by omega, by go_num, by rw [HN.out]⟩
        case measure => simp [intOf]; omega
    · obtain rfl : j = 32 := by omega
      rw [show ((32 : Nat) : Int) = 32 from rfl]
      go_wp2
      go_ret
      exact ⟨rfl, rfl⟩

structure BitsXor (A B : Nat) (F : Nat → Int) : Prop where
  zero : F 0 = 0
  next : ∀ (j : Nat) (P X Y : Int), j < 32 → (2 : Int) ^ j = P → ((A : Int) / P).tmod 2 = X → ((B : Int) / P).tmod 2 = Y → (0 ≤ X ∧ X ≤ 1) ∧ (0 ≤ Y ∧ Y ≤ 1) ∧ (1 ≤ P ∧ P ≤ 2147483648) ∧ (0 ≤ F j ∧ F j < P) ∧ F (j + 1) = F j + if X + Y = 1 then P else 0
  last : F 32 = ((A ^^^ B : Nat) : Int)
theorem bitsXor_is {A B : Nat} (ha : A < 4294967296) (hb : B < 4294967296) : BitsXor A B (fun j => ((((A ^^^ B) % 2 ^ j : Nat)) : Int)) where
  zero := by simp [Nat.mod_one]
  next j P X Y hj hP hX hY := by
    have hx := shr_bit A j
    have hy := shr_bit B j
    rw [hP, hX] at hx
    rw [hP, hY] at hy
    have hn := mod_pow_next (A ^^^ B) j
    rw [xor_bit] at hn
    have lx := Nat.mod_lt (A / 2 ^ j) (show 2 > 0 by decide)
    have ly := Nat.mod_lt (B / 2 ^ j) (show 2 > 0 by decide)
    have hm : (A ^^^ B) % 2 ^ j < 2 ^ j := Nat.mod_lt _ (Nat.pow_pos (by decide))
    have h1 : 0 < 2 ^ j := Nat.pow_pos (by decide)
    have hj2 : 2 ^ j ≤ 2147483648 := by
      have e : (2 : Nat) ^ 31 = 2147483648 := by decide +kernel
      have := Nat.pow_le_pow_right (show 0 < 2 by decide) (show j ≤ 31 by omega); omega
    have hp : ((2 ^ j : Nat) : Int) = P := by rw [Int.natCast_pow]; exact hP
    generalize (A ^^^ B) % 2 ^ (j + 1) = D at *
    generalize (A ^^^ B) % 2 ^ j = C at *
    generalize A / 2 ^ j % 2 = X' at *
    generalize B / 2 ^ j % 2 = Y' at *
    generalize 2 ^ j = P' at *
    subst hx hy hp
    refine ⟨⟨by omega, by omega⟩, ⟨by omega, by omega⟩, ⟨by omega, by omega⟩, ⟨by omega, by omega⟩, ?_⟩
    by_cases h2 : X' + Y' = 1
    · rw [if_pos h2, Nat.mul_one] at hn
      rw [if_pos (by omega)]
      omega
    · rw [if_neg h2, Nat.mul_zero, Nat.add_zero] at hn
      rw [if_neg (by omega)]
      omega
  last := by
    show (((A ^^^ B) % 2 ^ 32 : Nat) : Int) = _
    rw [Nat.mod_eq_of_lt]
    have e : (2 : Nat) ^ 32 = 4294967296 := by decide +kernel
    exact Nat.xor_lt_two_pow (by rw [e]; exact ha) (by rw [e]; exact hb)

set_option maxRecDepth 20000 in
set_option maxHeartbeats 1000000 in
theorem rbits_xor {A B : Nat} (ha : A < 4294967296) (hb : B < 4294967296) (w : World) :
    Calls Tryz.prog 55 #[.string ⟨#[120, 111, 114]⟩, .int .i64 A, .int .i64 B] w fun e w' => e = .returned (.int .i64 ((A ^^^ B : Nat) : Int)) ∧ w' = w := by
  obtain ⟨F, HF⟩ : ∃ F, Hid (BitsXor A B F) := ⟨_, bitsXor_is ha hb⟩
  have h0 := HF.out.zero
  have HL : Hid (F 32 = ((A ^^^ B : Nat) : Int)) := HF.out.last
  rw [← HL.out]
  clear HL
  have a2 : (A : Int) < 4294967296 := by omega
  have b2 : (B : Int) < 4294967296 := by omega
  clear ha hb
  go_enter Tryz.func55, Tryz.ntmps55
  go_wp2_with fail
  go_loopw [7, 8, 9, 10] (fun n i _ _ wr => wr = w ∧ ∃ j : Nat, j ≤ 32 ∧ i = .int .i64 j ∧ n = .int .i64 (F j)) (fun _ i _ _ _ => 32 - (intOf i).toNat)
  case atStart => exact ⟨rfl, 0, by decide, rfl, by rw [h0]⟩
  case round =>
    clear h0
    obtain ⟨rfl, j, hj, rfl, rfl⟩ := hrel
    by_cases hlt : j < 32
    · have ji : (j : Int) < 32 := by omega
      obtain ⟨P, hP⟩ : ∃ P : Int, (2 : Int) ^ j = P := ⟨_, rfl⟩
      obtain ⟨X, hX⟩ : ∃ X : Int, ((A : Int) / P).tmod 2 = X := ⟨_, rfl⟩
      obtain ⟨Y, hY⟩ : ∃ Y : Int, ((B : Int) / P).tmod 2 = Y := ⟨_, rfl⟩
      obtain ⟨⟨x0, x1⟩, ⟨y0, y1⟩, ⟨p0, p1⟩, ⟨f0, f1⟩, hn⟩ := HF.out.next j P X Y hlt hP hX hY
      by_cases h2 : X + Y = 1
      · rw [if_pos h2] at hn
        have HN := hide hn
        clear hn
        generalize F j = C at *
        go_wp2
        go_roundw
        case rel => exact ⟨trivial, j + 1, by omega, by go_num, by rw [HN.out]⟩
        case measure => simp [intOf]; omega
      · rw [if_neg h2, Int.add_zero] at hn
        have HN := hide hn
        have k2 : (X + Y == 1) = false := by rw [beq_eq_false_iff_ne]; exact h2
        have k3 : decide (X + Y = 1) = false := decide_eq_false h2
        clear hn h2
        generalize F j = C at *
        go_wp2
        go_roundw
        case rel => exact ⟨trivial, j + 1, by omega, by go_num, by rw [HN.out]⟩
        case measure => simp [intOf]; omega
    · obtain rfl : j = 32 := by omega
      rw [show ((32 : Nat) : Int) = 32 from rfl]
      go_wp2
      go_ret
      exact ⟨rfl, rfl⟩

theorem rbits_andW {a b : Int} (ha : Wd a) (hb : Wd b) (w : World) :
    Calls Tryz.prog 55 #[.string ⟨#[97, 110, 100]⟩, .int .i64 a, .int .i64 b] w fun e w' => e = .returned (.int .i64 (andW a b)) ∧ w' = w := by
  obtain ⟨A, rfl⟩ := Int.eq_ofNat_of_zero_le ha.1
  obtain ⟨B, rfl⟩ := Int.eq_ofNat_of_zero_le hb.1
  exact rbits_and (by have := ha.2; omega) (by have := hb.2; omega) w
theorem rbits_xorW {a b : Int} (ha : Wd a) (hb : Wd b) (w : World) :
    Calls Tryz.prog 55 #[.string ⟨#[120, 111, 114]⟩, .int .i64 a, .int .i64 b] w fun e w' => e = .returned (.int .i64 (xorW a b)) ∧ w' = w := by
  obtain ⟨A, rfl⟩ := Int.eq_ofNat_of_zero_le ha.1
  obtain ⟨B, rfl⟩ := Int.eq_ofNat_of_zero_le hb.1
  exact rbits_xor (by have := ha.2; omega) (by have := hb.2; omega) w
end Go.Proofs.YtdpmnlbnlnmjbaaGreatDoor

/- RkE -/
namespace Go.Proofs.YtdpmnlbnlnmjbaaGreatDoor
open Go.RowKit

theorem wrapNext {n : Nat} (h : n ≤ 2000) : wrap64 ((n : Int) + 1) = (n : Int) + 1 := by unfold wrap64; omega
theorem wrapNext2 {n : Nat} (h : n ≤ 2000) : IntKind.i64.wrap ((n : Int) + 1) = (n : Int) + 1 := by rw [IntKind.wrap_i64]; omega

structure RkX (cs : List (List Ins)) (p : RkPl) (m : Mk) (K : Nat) (w : World) : Prop where
  at' : RkAt cs p m w
  ok : MkOk cs.length K m
  right : Right cs
  hK : K ≤ 10000000
theorem RkX.below {cs : List (List Ins)} {p : RkPl} {m : Mk} {K : Nat} {w w' : World} (h : RkX cs p m K w) (hb : Below w.heap.size w w') : RkX cs p m K w' := ⟨h.at'.below hb, h.ok, h.right, h.hK⟩
theorem RkX.of {cs : List (List Ins)} {p : RkPl} {m m' : Mk} {K K' : Nat} {r : RmPl} {v : Value} {w w' : World} (h : RkX cs p m K w) (k : RkStep cs p m.mem w r v m' w') (ok : MkOk cs.length K' m') (hK : K' ≤ 10000000) : RkX cs (p.to r v) m' K' w' := ⟨k.at', ok, h.right, hK⟩
theorem RkX.faults {cs : List (List Ins)} {p : RkPl} {m : Mk} {K : Nat} {w : World} (h : RkX cs p m K w) : m.faults ≤ 900000000 := by have := h.ok.faults; have := h.hK; omega
theorem RkX.waits {cs : List (List Ins)} {p : RkPl} {m : Mk} {K : Nat} {w : World} (h : RkX cs p m K w) {t : Nat} (ht : t < cs.length) : ∀ x ∈ m.mem.waits t, x.Ok := h.ok.mem.ok t (by rw [h.ok.thr]; exact ht)
theorem RkX.few {cs : List (List Ins)} {p : RkPl} {m : Mk} {K : Nat} {w : World} (h : RkX cs p m K w) {t : Nat} (ht : t < cs.length) : (m.mem.waits t).length ≤ 8 := h.ok.mem.few t (by rw [h.ok.thr]; exact ht)

structure Stg (cs : List (List Ins)) (p : RkPl) (s : Rm) (w0 : World) (bx : Nat) (r : RmPl) (v : Value) (m : Mk) (W : World) : Prop where
  step : RkStep cs p s w0 r v m W
  ge : w0.heap.size ≤ bx
  nfp : ¬ (p.to r v).fp cs.length m.mem bx
  lt : bx < W.heap.size

section
variable {cs : List (List Ins)} {p : RkPl} {s : Rm} {w0 : World} {bx : Nat} {r r2 : RmPl} {v v2 : Value} {m m2 : Mk} {W W' : World}
theorem Stg.below (h : Stg cs p s w0 bx r v m W) (k : Below W.heap.size W W') : Stg cs p s w0 bx r v m W' := ⟨h.step.below k, h.ge, h.nfp, Nat.lt_of_lt_of_le h.lt k.size⟩
theorem Stg.trans (h : Stg cs p s w0 bx r v m W) (k : RkStep cs (p.to r v) m.mem W r2 v2 m2 W') : Stg cs p s w0 bx r2 v2 m2 W' := ⟨h.step.trans k, h.ge, fun e => by
  rcases k.fp bx e with e | e
  · exact h.nfp e
  · have := h.lt; omega, Nat.lt_of_lt_of_le h.lt k.turns.size⟩
theorem Stg.first (h : RkAt cs p m w0) (k : Below w0.heap.size w0 W) (hb : w0.heap.size ≤ bx) (hl : bx < W.heap.size) : Stg cs p m.mem w0 bx p.rp p.mv m W := ⟨RkStep.of_below' h k, hb, fun e => by have := h.fp_lt e; omega, hl⟩
theorem Stg.other {bx' : Nat} (h : Stg cs p s w0 bx r v m W) (hl : W.heap.size ≤ bx') (k : Below W.heap.size W W') (h2 : bx' < W'.heap.size) : Stg cs p s w0 bx' r v m W' := ⟨h.step.below k, by have := h.step.turns.size; omega, fun e => by have := h.step.at'.fp_lt e; omega, h2⟩
theorem Stg.keep (h : Stg cs p s w0 bx r v m W) (k : RkStep cs (p.to r v) m.mem W r2 v2 m2 W') {o : Nat} {u : Value} (hc : W.cell? ⟨bx, o, none⟩ = some u) : W'.cell? ⟨bx, o, none⟩ = some u := k.turns.keep hc h.nfp
theorem Stg.ne (h : Stg cs p s w0 bx r v m W) : bx ≠ p.k ∧ bx ≠ p.tb ∧ (∀ t, t < cs.length → bx ≠ p.rb t) := ⟨fun e => h.nfp (.inl e), fun e => h.nfp (.inr (.inl e)), fun t ht e => h.nfp (.inr (.inr (.inl ⟨t, ht, e⟩)))⟩
end
end Go.Proofs.YtdpmnlbnlnmjbaaGreatDoor
