/- The law ArenaWords, walked: it returns true. -/
import Derived.Test.YtcnemlamlchnkaaDoorWords
namespace Go.Proofs.YtcnemlamlchnkaaDoor
open Go.RowKit Go.Extern.Stop Go.Stop Go.Extern

/-- What a number is as a ref, by package arena and by the document's answer: the same, and the same error. -/
theorem refs_same (a : Nat → Addr) (n : Int) : ∃ (x y : Int) (k : Nat), k ≤ 9 ∧
    (∀ w, Env a w → Calls Tryd.prog 16 #[.int .i64 n] w fun e w' => e = .returned (.tuple #[.agg #[.int .i64 x, .int .i64 y], errVal a k]) ∧ Below w.heap.size w w') ∧
    (∀ w, Calls Tryd.prog 17 #[.int .i64 n] w fun e w' => e = .returned (.tuple #[.agg #[.int .i64 x, .int .i64 y], .int .i64 k]) ∧ Below w.heap.size w w') := by
  by_cases h0 : n = 0
  · subst h0
    exact ⟨0, 0, 5, by decide, fun w hE => ref_zero a w hE, fun w => refOf_zero w⟩
  · by_cases h1 : 0 ≤ n ∧ n < 4294967296
    · exact ⟨_, _, 0, by decide, fun w _ => ref_ok n w (by omega) h1.2, fun w => refOf_ok n w (by omega) h1.2⟩
    · exact ⟨0, 0, 2, by decide, fun w hE => ref_no a n w hE h0 h1, fun w => refOf_no n w h0 h1⟩

theorem ref_back (c g : Int) (w : World) (h : Worded c g) :
    Calls Tryd.prog 16 #[.int .i64 (g * 64 + c + 1)] w fun e w' => e = .returned (.tuple #[.agg #[.int .i64 c, .int .i64 g], .nilIface]) ∧ Below w.heap.size w w' := by
  have hh := h
  unfold Worded at hh
  refine (ref_ok (g * 64 + c + 1) w (by omega) hh.2.2.2).mono fun _ _ ⟨h1, h2⟩ => ⟨?_, h2⟩
  rw [h1, show (g * 64 + c + 1 - 1) % 64 = c by omega, show (g * 64 + c + 1 - 1) / 64 = g by omega]

set_option maxHeartbeats 2000000 in
theorem words_any (a : Nat → Addr) (c g n : Int) (w : World) (hE : Env a w) :
    Calls Tryd.prog 4 #[.agg #[.int .i64 c, .int .i64 g], .int .i64 n] w fun e w' => e = .returned (.bool true) ∧ Below w.heap.size w w' := by
  obtain ⟨x, y, k, hk, R1, R2⟩ := refs_same a n
  have HR1 : Hid (∀ w, Env a w → Calls Tryd.prog 16 #[.int .i64 n] w fun e w' => e = .returned (.tuple #[.agg #[.int .i64 x, .int .i64 y], errVal a k]) ∧ Below w.heap.size w w') := R1
  have HR2 : Hid (∀ w, Calls Tryd.prog 17 #[.int .i64 n] w fun e w' => e = .returned (.tuple #[.agg #[.int .i64 x, .int .i64 y], .int .i64 k]) ∧ Below w.heap.size w w') := R2
  clear R1 R2
  have hba := box_below c g w
  have HQ0 : Hid ((w.alloc (.cells #[.int .i64 c, .int .i64 g] 36)).cell? ⟨w.heap.size, 0, none⟩ = some (.int .i64 c)) := (World.cell?_alloc_new _ _ _ _).trans rfl
  have HQ1 : Hid ((w.alloc (.cells #[.int .i64 c, .int .i64 g] 36)).cell? ⟨w.heap.size, 1, none⟩ = some (.int .i64 g)) := (World.cell?_alloc_new _ _ _ _).trans rfl
  by_cases hW : Worded c g
  · have HW : Hid (Worded c g) := hW
    clear hW
    go_enter Tryd.func4, Tryd.ntmps4
    go_wp2_with fail
    refine (first_any _).mono ?_
    rintro e2 w2 ⟨rfl, hb2⟩
    have B2 := below_step hba hb2
    have q0 := keep_cell hb2 HQ0.out
    have q1 := keep_cell hb2 HQ1.out
    clear hb2
    go_wp2_with fail
    refine (word_ok c g _ HW.out).mono ?_
    rintro e3 w3 ⟨rfl, hb3⟩
    have B3 := below_step B2 hb3
    replace q0 := keep_cell hb3 q0
    replace q1 := keep_cell hb3 q1
    clear hb3 B2
    go_wp2_with fail
    refine (wordOf_ok c g _ HW.out).mono ?_
    rintro e4 w4 ⟨rfl, hb4⟩
    have B4 := below_step B3 hb4
    replace q0 := keep_cell hb4 q0
    replace q1 := keep_cell hb4 q1
    clear hb4 B3
    go_wp2_with fail
    refine (coded_nil a _ (hE.below B4.block)).mono ?_
    rintro e5 w5 ⟨rfl, hb5⟩
    have B5 := below_step B4 hb5
    replace q0 := keep_cell hb5 q0
    replace q1 := keep_cell hb5 q1
    clear hb5 B4
    have hvv : (g * 64 + c + 1 != g * 64 + c + 1) = false := by simp
    go_wp2_with fail
    refine (ref_back c g _ HW.out).mono ?_
    rintro e6 w6 ⟨rfl, hb6⟩
    have B6 := below_step B5 hb6
    replace q0 := keep_cell hb6 q0
    replace q1 := keep_cell hb6 q1
    clear hb6 B5
    have l6 := World.block_lt_of_cell? _ _ q0
    simp only at l6
    have hbb : Below w.heap.size w (w6.alloc (.cells #[.int .i64 c, .int .i64 g] 36)) := B6.alloc B6.size _
    go_wp2_with fail
    refine (HR1.out _ (hE.below hbb.block)).mono ?_
    rintro e7 w7 ⟨rfl, hb7⟩
    have B7 := below_step hbb hb7
    have HX0 : Hid ((w7.alloc (.cells #[.int .i64 x, .int .i64 y] 36)).cell? ⟨w7.heap.size, 0, none⟩ = some (.int .i64 x)) := (World.cell?_alloc_new _ _ _ _).trans rfl
    have HX1 : Hid ((w7.alloc (.cells #[.int .i64 x, .int .i64 y] 36)).cell? ⟨w7.heap.size, 1, none⟩ = some (.int .i64 y)) := (World.cell?_alloc_new _ _ _ _).trans rfl
    go_wp2_with fail
    refine (HR2.out _).mono ?_
    rintro e8 w8 ⟨rfl, hb8⟩
    have B8 := below_step (B7.alloc B7.size _) hb8
    have x0 := keep_cell ((Below.refl _ _).alloc (Nat.le_refl _) (.cells #[.int .i64 x, .int .i64 y] 36)) (keep_cell hb8 HX0.out)
    have x1 := keep_cell ((Below.refl _ _).alloc (Nat.le_refl _) (.cells #[.int .i64 x, .int .i64 y] 36)) (keep_cell hb8 HX1.out)
    have HX2 : Hid ((w8.alloc (.cells #[.int .i64 x, .int .i64 y] 36)).cell? ⟨w8.heap.size, 0, none⟩ = some (.int .i64 x)) := (World.cell?_alloc_new _ _ _ _).trans rfl
    have HX3 : Hid ((w8.alloc (.cells #[.int .i64 x, .int .i64 y] 36)).cell? ⟨w8.heap.size, 1, none⟩ = some (.int .i64 y)) := (World.cell?_alloc_new _ _ _ _).trans rfl
    clear hb7 hb8 HX0 HX1
    go_wp2_with fail
    refine (coded_same a k hk _ (hE.below (B8.alloc B8.size _).block)).mono ?_
    rintro e9 w9 ⟨rfl, hb9⟩
    have B9 := below_step (B8.alloc B8.size _) hb9
    replace x0 := keep_cell hb9 x0
    replace x1 := keep_cell hb9 x1
    have x2 := keep_cell hb9 HX2.out
    have x3 := keep_cell hb9 HX3.out
    clear hb9 HX2 HX3
    go_wp2
    go_ret
    exact ⟨rfl, B9⟩
  · go_enter Tryd.func4, Tryd.ntmps4
    have HW : Hid (¬ Worded c g) := hW
    clear hW
    go_wp2_with fail
    refine (first_any _).mono ?_
    rintro e2 w2 ⟨rfl, hb2⟩
    have B2 := below_step hba hb2
    have q0 := keep_cell hb2 HQ0.out
    have q1 := keep_cell hb2 HQ1.out
    clear hb2
    go_wp2_with fail
    refine (word_no a c g _ (hE.below B2.block) HW.out).mono ?_
    rintro e3 w3 ⟨rfl, hb3⟩
    have B3 := below_step B2 hb3
    replace q0 := keep_cell hb3 q0
    replace q1 := keep_cell hb3 q1
    clear hb3 B2
    go_wp2_with fail
    refine (wordOf_no c g _ HW.out).mono ?_
    rintro e4 w4 ⟨rfl, hb4⟩
    have B4 := below_step B3 hb4
    clear hb4 B3 q0 q1
    go_wp2_with fail
    refine (coded_sent a 1 (by decide) 2 (by decide) _ (hE.below B4.block)).mono ?_
    rintro e5 w5 ⟨rfl, hb5⟩
    have B5 := below_step B4 hb5
    clear hb5 B4
    go_wp2_with fail
    refine (HR1.out _ (hE.below B5.block)).mono ?_
    rintro e7 w7 ⟨rfl, hb7⟩
    have B7 := below_step B5 hb7
    have HX0 : Hid ((w7.alloc (.cells #[.int .i64 x, .int .i64 y] 36)).cell? ⟨w7.heap.size, 0, none⟩ = some (.int .i64 x)) := (World.cell?_alloc_new _ _ _ _).trans rfl
    have HX1 : Hid ((w7.alloc (.cells #[.int .i64 x, .int .i64 y] 36)).cell? ⟨w7.heap.size, 1, none⟩ = some (.int .i64 y)) := (World.cell?_alloc_new _ _ _ _).trans rfl
    go_wp2_with fail
    refine (HR2.out _).mono ?_
    rintro e8 w8 ⟨rfl, hb8⟩
    have B8 := below_step (B7.alloc B7.size _) hb8
    have x0 := keep_cell ((Below.refl _ _).alloc (Nat.le_refl _) (.cells #[.int .i64 x, .int .i64 y] 36)) (keep_cell hb8 HX0.out)
    have x1 := keep_cell ((Below.refl _ _).alloc (Nat.le_refl _) (.cells #[.int .i64 x, .int .i64 y] 36)) (keep_cell hb8 HX1.out)
    have HX2 : Hid ((w8.alloc (.cells #[.int .i64 x, .int .i64 y] 36)).cell? ⟨w8.heap.size, 0, none⟩ = some (.int .i64 x)) := (World.cell?_alloc_new _ _ _ _).trans rfl
    have HX3 : Hid ((w8.alloc (.cells #[.int .i64 x, .int .i64 y] 36)).cell? ⟨w8.heap.size, 1, none⟩ = some (.int .i64 y)) := (World.cell?_alloc_new _ _ _ _).trans rfl
    clear hb7 hb8 HX0 HX1
    go_wp2_with fail
    refine (coded_same a k hk _ (hE.below (B8.alloc B8.size _).block)).mono ?_
    rintro e9 w9 ⟨rfl, hb9⟩
    have B9 := below_step (B8.alloc B8.size _) hb9
    replace x0 := keep_cell hb9 x0
    replace x1 := keep_cell hb9 x1
    have x2 := keep_cell hb9 HX2.out
    have x3 := keep_cell hb9 HX3.out
    clear hb9 HX2 HX3
    go_wp2
    go_ret
    exact ⟨rfl, B9⟩
end Go.Proofs.YtcnemlamlchnkaaDoor
