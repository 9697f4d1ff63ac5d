/- Package code's numbers, count, parts, fits, within by contracts. -/
import Derived.Test.YtcajklfngeafdaaDoorProgA
namespace Go.Proofs.YtcajklfngeafdaaDoor
open Go.RowKit Go.Extern.Stop Go.Stop Go.Extern

theorem pnumbers_any (x : Ins) (w : World) :
    Calls Tryd.prog 26 #[.agg #[.string x.op, .int .i64 x.a, .int .i64 x.b, .int .i64 x.c, .string x.to]] w fun e w' => e = .returned (.agg #[.int .i64 x.a, .int .i64 x.b, .int .i64 x.c]) ∧ Below w.heap.size w w' := by
  go_enter Tryd.func26, Tryd.ntmps26
  go_wp2
  exact bodyPost_ret (v := .agg #[.int .i64 x.a, .int .i64 x.b, .int .i64 x.c]) (by simp only [results, Tryd.results26]; go_simp) rfl ⟨rfl, ((Below.refl _ _).alloc (Nat.le_refl _) _).alloc (by simp) _⟩

/-- One number more, if there is a limit. -/
def one (l : Int) : Int := if 0 < l then 1 else 0

set_option maxRecDepth 20000 in
theorem kcount_any (l0 l1 l2 : Int) (t : Bool) (w : World) :
    Calls Tryd.prog 20 #[.agg #[.int .i64 l0, .int .i64 l1, .int .i64 l2, .bool t]] w fun e w' => e = .returned (.int .i64 (one l0 + one l1 + one l2)) ∧ Below w.heap.size w w' := by
  have i0 : ∀ w, (Instr.index 55 (.agg #[.int .i64 l0, .int .i64 l1, .int .i64 l2]) (.int .i64 0)).run Tryd.prog w = .ok (.int .i64 l0) w := fun _ => by kernel_rfl
  have i1 : ∀ w, (Instr.index 55 (.agg #[.int .i64 l0, .int .i64 l1, .int .i64 l2]) (.int .i64 1)).run Tryd.prog w = .ok (.int .i64 l1) w := fun _ => by kernel_rfl
  have i2 : ∀ w, (Instr.index 55 (.agg #[.int .i64 l0, .int .i64 l1, .int .i64 l2]) (.int .i64 2)).run Tryd.prog w = .ok (.int .i64 l2) w := fun _ => by kernel_rfl
  by_cases h0 : 0 < l0 <;> by_cases h1 : 0 < l1 <;> by_cases h2 : 0 < l2
  all_goals
    go_enter Tryd.func20, Tryd.ntmps20
    go_wp2_with fail
    refine wp_loop_rounds 4 ?_
    rw [rounds_succ]
    go_wp2
    rw [rounds_succ]
    go_wp2
    rw [rounds_succ]
    go_wp2
    rw [rounds_succ]
    go_wp2
    go_ret
    refine ⟨congrArg (fun z => Ending.returned (.int .i64 z)) ?_, (Below.refl _ _).alloc (Nat.le_refl _) _⟩
    unfold one
    repeat' split
    all_goals omega

set_option maxRecDepth 20000 in
set_option maxHeartbeats 2000000 in
theorem fits_any (l0 l1 l2 : Int) (t : Bool) (x : Ins) (w : World) :
    Calls Tryd.prog 33 #[.agg #[.int .i64 l0, .int .i64 l1, .int .i64 l2, .bool t], .agg #[.string x.op, .int .i64 x.a, .int .i64 x.b, .int .i64 x.c, .string x.to]] w fun e w' => e = .returned (.bool (decide ((l0 = 0 → x.a = 0) ∧ (l1 = 0 → x.b = 0) ∧ (l2 = 0 → x.c = 0) ∧ (t = false → x.to.toList = [])))) ∧ Below w.heap.size w w' := by
  have HN : Hid (∀ w', Calls Tryd.prog 26 #[.agg #[.string x.op, .int .i64 x.a, .int .i64 x.b, .int .i64 x.c, .string x.to]] w' fun e w'' => e = .returned (.agg #[.int .i64 x.a, .int .i64 x.b, .int .i64 x.c]) ∧ Below w'.heap.size w' w'') := fun w' => pnumbers_any x w'
  have i0 : ∀ w, (Instr.index 55 (.agg #[.int .i64 x.a, .int .i64 x.b, .int .i64 x.c]) (.int .i64 0)).run Tryd.prog w = .ok (.int .i64 x.a) w := fun _ => by kernel_rfl
  have i1 : ∀ w, (Instr.index 55 (.agg #[.int .i64 x.a, .int .i64 x.b, .int .i64 x.c]) (.int .i64 1)).run Tryd.prog w = .ok (.int .i64 x.b) w := fun _ => by kernel_rfl
  have i2 : ∀ w, (Instr.index 55 (.agg #[.int .i64 x.a, .int .i64 x.b, .int .i64 x.c]) (.int .i64 2)).run Tryd.prog w = .ok (.int .i64 x.c) w := fun _ => by kernel_rfl
  obtain ⟨W, hW⟩ : ∃ W, W = (w.alloc (.cells #[.int .i64 l0, .int .i64 l1, .int .i64 l2, .bool t] 57)).alloc (.cells #[.string x.op, .int .i64 x.a, .int .i64 x.b, .int .i64 x.c, .string x.to] 32) := ⟨_, rfl⟩
  have hba : Below w.heap.size w W := by rw [hW]; exact ((Below.refl _ _).alloc (Nat.le_refl _) _).alloc (by simp) _
  have k0 : W.cell? ⟨w.heap.size, 0, none⟩ = some (.int .i64 l0) := by rw [hW]; simp
  have k1 : W.cell? ⟨w.heap.size, 1, none⟩ = some (.int .i64 l1) := by rw [hW]; simp
  have k2 : W.cell? ⟨w.heap.size, 2, none⟩ = some (.int .i64 l2) := by rw [hW]; simp
  have k3 : W.cell? ⟨w.heap.size, 3, none⟩ = some (.bool t) := by rw [hW]; simp
  have q4 : W.cell? ⟨w.heap.size + 1, 4, none⟩ = some (.string x.to) := by rw [hW]; simp
  cases hto : (x.to.toList == [])
  all_goals
    have HT : Hid ((x.to.toList == []) = _) := hto
    cases t
    all_goals
      go_enter Tryd.func33, Tryd.ntmps33
      go_wp2_with fail
      rw [← hW]
      refine (HN.out _).mono ?_
      rintro e w1 ⟨rfl, hb1⟩
      replace k0 := keep_cell hb1 k0
      replace k1 := keep_cell hb1 k1
      replace k2 := keep_cell hb1 k2
      replace k3 := keep_cell hb1 k3
      replace q4 := keep_cell hb1 q4
      have B1 := hide (below_step hba hb1)
      clear hW hba hb1 HN
      go_wp2_with fail
      refine wp_loop_rounds 4 ?_
      rw [rounds_succ]
      go_wp2
      all_goals try (rw [rounds_succ]; go_wp2)
      all_goals try (rw [rounds_succ]; go_wp2)
      all_goals try (rw [rounds_succ]; go_wp2)
      all_goals try go_ret
      all_goals
        refine ⟨?_, B1.out⟩
        have hto' := HT.out
        clear i0 i1 i2 k0 k1 k2 k3 q4 B1 HT
        refine congrArg (fun z => Ending.returned (.bool z)) ?_
        symm
        simp_all

set_option maxRecDepth 20000 in
set_option maxHeartbeats 4000000 in
theorem within_any (l0 l1 l2 : Int) (t : Bool) (x : Ins) (w : World) :
    Calls Tryd.prog 34 #[.agg #[.int .i64 l0, .int .i64 l1, .int .i64 l2, .bool t], .agg #[.string x.op, .int .i64 x.a, .int .i64 x.b, .int .i64 x.c, .string x.to]] w fun e w' => e = .returned (.bool (decide ((0 < l0 → 0 ≤ x.a ∧ x.a < l0) ∧ (0 < l1 → 0 ≤ x.b ∧ x.b < l1) ∧ (0 < l2 → 0 ≤ x.c ∧ x.c < l2)))) ∧ Below w.heap.size w w' := by
  have HN : Hid (∀ w', Calls Tryd.prog 26 #[.agg #[.string x.op, .int .i64 x.a, .int .i64 x.b, .int .i64 x.c, .string x.to]] w' fun e w'' => e = .returned (.agg #[.int .i64 x.a, .int .i64 x.b, .int .i64 x.c]) ∧ Below w'.heap.size w' w'') := fun w' => pnumbers_any x w'
  have i0 : ∀ w, (Instr.index 55 (.agg #[.int .i64 x.a, .int .i64 x.b, .int .i64 x.c]) (.int .i64 0)).run Tryd.prog w = .ok (.int .i64 x.a) w := fun _ => by kernel_rfl
  have i1 : ∀ w, (Instr.index 55 (.agg #[.int .i64 x.a, .int .i64 x.b, .int .i64 x.c]) (.int .i64 1)).run Tryd.prog w = .ok (.int .i64 x.b) w := fun _ => by kernel_rfl
  have i2 : ∀ w, (Instr.index 55 (.agg #[.int .i64 x.a, .int .i64 x.b, .int .i64 x.c]) (.int .i64 2)).run Tryd.prog w = .ok (.int .i64 x.c) w := fun _ => by kernel_rfl
  obtain ⟨W, hW⟩ : ∃ W, W = (w.alloc (.cells #[.int .i64 l0, .int .i64 l1, .int .i64 l2, .bool t] 57)).alloc (.cells #[.string x.op, .int .i64 x.a, .int .i64 x.b, .int .i64 x.c, .string x.to] 32) := ⟨_, rfl⟩
  have hba : Below w.heap.size w W := by rw [hW]; exact ((Below.refl _ _).alloc (Nat.le_refl _) _).alloc (by simp) _
  have k0 : W.cell? ⟨w.heap.size, 0, none⟩ = some (.int .i64 l0) := by rw [hW]; simp
  have k1 : W.cell? ⟨w.heap.size, 1, none⟩ = some (.int .i64 l1) := by rw [hW]; simp
  have k2 : W.cell? ⟨w.heap.size, 2, none⟩ = some (.int .i64 l2) := by rw [hW]; simp
  have k3 : W.cell? ⟨w.heap.size, 3, none⟩ = some (.bool t) := by rw [hW]; simp
  have q4 : W.cell? ⟨w.heap.size + 1, 4, none⟩ = some (.string x.to) := by rw [hW]; simp
  go_enter Tryd.func34, Tryd.ntmps34
  go_wp2_with fail
  rw [← hW]
  refine (HN.out _).mono ?_
  rintro e w1 ⟨rfl, hb1⟩
  replace k0 := keep_cell hb1 k0
  replace k1 := keep_cell hb1 k1
  replace k2 := keep_cell hb1 k2
  replace k3 := keep_cell hb1 k3
  replace q4 := keep_cell hb1 q4
  have B1 := hide (below_step hba hb1)
  clear hW hba hb1 HN
  go_wp2_with fail
  refine wp_loop_rounds 4 ?_
  rw [rounds_succ]
  go_wp2
  all_goals try (rw [rounds_succ]; go_wp2)
  all_goals try (rw [rounds_succ]; go_wp2)
  all_goals try (rw [rounds_succ]; go_wp2)
  all_goals try go_ret
  all_goals
    refine ⟨?_, B1.out⟩
    clear i0 i1 i2 k0 k1 k2 k3 q4 B1
    refine congrArg (fun z => Ending.returned (.bool z)) ?_
    symm
    first
      | (rw [decide_eq_true_iff]; omega)
      | (rw [decide_eq_false_iff_not]; omega)
      | (rw [Bool.eq_false_iff]; simp only [ne_eq, Bool.and_eq_true, Bool.or_eq_true, Bool.not_eq_true', decide_eq_true_eq, decide_eq_false_iff_not]; omega)

set_option maxRecDepth 20000 in
theorem parts_any (l0 l1 l2 : Int) (t : Bool) (w : World) :
    Calls Tryd.prog 19 #[.agg #[.int .i64 l0, .int .i64 l1, .int .i64 l2, .bool t]] w fun e w' => e = .returned (.int .i64 (one l0 + one l1 + one l2 + if t then 2 else 1)) ∧ Below w.heap.size w w' := by
  have HC : Hid (∀ w', Calls Tryd.prog 20 #[.agg #[.int .i64 l0, .int .i64 l1, .int .i64 l2, .bool t]] w' fun e w'' => e = .returned (.int .i64 (one l0 + one l1 + one l2)) ∧ Below w'.heap.size w' w'') := fun w' => kcount_any l0 l1 l2 t w'
  have h3 : 0 ≤ one l0 + one l1 + one l2 ∧ one l0 + one l1 + one l2 ≤ 3 := by
    unfold one
    repeat' split
    all_goals omega
  obtain ⟨h30, h31⟩ := h3
  generalize one l0 + one l1 + one l2 = c at *
  have hba : Below w.heap.size w (w.alloc (.cells #[.int .i64 l0, .int .i64 l1, .int .i64 l2, .bool t] 57)) := (Below.refl _ _).alloc (Nat.le_refl _) _
  cases t
  all_goals
    go_enter Tryd.func19, Tryd.ntmps19
    go_wp2_with fail
    refine (HC.out _).mono ?_
    rintro e w1 ⟨rfl, hb1⟩
    have B1 := hide (below_step hba hb1)
    clear hba hb1 HC
    go_wp2_with fail
    go_ret
    exact ⟨rfl, B1.out⟩
end Go.Proofs.YtcajklfngeafdaaDoor
