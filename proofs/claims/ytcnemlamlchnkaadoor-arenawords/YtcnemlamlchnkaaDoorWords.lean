/- Words and refs: package arena's and the document's answer's, by contracts; the law ArenaWords walked. -/
import Derived.Test.YtcnemlamlchnkaaDoorRWord
import Derived.Test.YtcnemlamlchnkaaDoorFirst
namespace Go.Proofs.YtcnemlamlchnkaaDoor
open Go.RowKit Go.Extern.Stop Go.Stop Go.Extern

/-- Has a ref a word? -/
def Worded (c g : Int) : Prop := 0 ≤ c ∧ c < 64 ∧ 0 ≤ g ∧ g * 64 + c + 1 < 4294967296

theorem word_ok (c g : Int) (w : World) (h : Worded c g) :
    Calls Tryd.prog 14 #[.agg #[.int .i64 c, .int .i64 g]] w fun e w' => e = .returned (.tuple #[.int .i64 (g * 64 + c + 1), .nilIface]) ∧ Below w.heap.size w w' := by
  obtain ⟨h0, h1, h2, h3⟩ := h
  have h4 : ¬ ((4294967294 - c) / 64 < g) := by omega
  have hg : g ≤ 67108863 := by omega
  have hba := box_below c g w
  clear h3
  go_enter Tryd.func14, Tryd.ntmps14
  go_wp2
  go_ret2
  exact ⟨rfl, hba⟩

theorem word_no (a : Nat → Addr) (c g : Int) (w : World) (hE : Env a w) (h : ¬ Worded c g) :
    Calls Tryd.prog 14 #[.agg #[.int .i64 c, .int .i64 g]] w fun e w' => e = .returned (.tuple #[.int .i64 0, errAt (a 1)]) ∧ Below w.heap.size w w' := by
  have hba := box_below c g w
  have k1 : (w.alloc (.cells #[.int .i64 c, .int .i64 g] 36)).cell? ⟨1, 0, none⟩ = some (errAt (a 1)) := (hE.below hba.block).cell 1 (by decide)
  have q0 : (w.alloc (.cells #[.int .i64 c, .int .i64 g] 36)).cell? ⟨w.heap.size, 0, none⟩ = some (.int .i64 c) := by simp
  have q1 : (w.alloc (.cells #[.int .i64 c, .int .i64 g] 36)).cell? ⟨w.heap.size, 1, none⟩ = some (.int .i64 g) := by simp
  generalize hw : w.alloc (.cells #[.int .i64 c, .int .i64 g] 36) = w1 at *
  by_cases h0 : c < 0
  · clear h
    go_enter Tryd.func14, Tryd.ntmps14
    go_wp2
    go_quiet (fail)
    go_wp2
    go_ret2
    exact ⟨rfl, below_dN hba _⟩
  by_cases h1 : 64 ≤ c
  · clear h
    go_enter Tryd.func14, Tryd.ntmps14
    go_wp2
    go_quiet (fail)
    go_wp2
    go_ret2
    exact ⟨rfl, below_dN hba _⟩
  by_cases h2 : g < 0
  · clear h
    go_enter Tryd.func14, Tryd.ntmps14
    go_wp2
    go_quiet (fail)
    go_wp2
    go_ret2
    exact ⟨rfl, below_dN hba _⟩
  have h4 : (4294967294 - c) / 64 < g := by unfold Worded at h; omega
  have c0 : 0 ≤ c := by omega
  have c1 : c < 64 := by omega
  have g0 : 0 ≤ g := by omega
  clear h
  go_enter Tryd.func14, Tryd.ntmps14
  go_wp2
  go_quiet (fail)
  go_wp2
  go_ret2
  exact ⟨rfl, below_dN hba _⟩

theorem wordOf_ok (c g : Int) (w : World) (h : Worded c g) :
    Calls Tryd.prog 15 #[.agg #[.int .i64 c, .int .i64 g]] w fun e w' => e = .returned (.tuple #[.int .i64 (g * 64 + c + 1), .int .i64 0]) ∧ Below w.heap.size w w' := by
  have HI : Hid (∀ w, Calls Tryd.prog 29 #[.int .i64 (g * 64 + c + 1)] w fun e w' => e = .returned (.bool true) ∧ w' = w) := fun w => (isWordR_any _ w).mono fun _ _ ⟨h1, h2⟩ => ⟨by rw [h1, decide_eq_true (by unfold Worded at h; omega)], h2⟩
  obtain ⟨h0, h1, h2, h3⟩ := h
  have hg : g ≤ 67108863 := by omega
  have hba := box_below c g w
  clear h3
  go_enter Tryd.func15, Tryd.ntmps15
  go_wp2_with fail
  refine (HI.out _).mono ?_
  rintro e1 w1 ⟨rfl, rfl⟩
  go_wp2
  go_ret2
  exact ⟨rfl, hba⟩

theorem wordOf_no (c g : Int) (w : World) (h : ¬ Worded c g) :
    Calls Tryd.prog 15 #[.agg #[.int .i64 c, .int .i64 g]] w fun e w' => e = .returned (.tuple #[.int .i64 0, .int .i64 2]) ∧ Below w.heap.size w w' := by
  have hba := box_below c g w
  by_cases h0 : c < 0
  · clear h
    go_enter Tryd.func15, Tryd.ntmps15
    go_wp2
    go_ret2
    exact ⟨rfl, hba⟩
  by_cases h1 : 64 ≤ c
  · clear h
    go_enter Tryd.func15, Tryd.ntmps15
    go_wp2
    go_ret2
    exact ⟨rfl, hba⟩
  by_cases h2 : g < 0
  · clear h
    go_enter Tryd.func15, Tryd.ntmps15
    go_wp2
    go_ret2
    exact ⟨rfl, hba⟩
  by_cases h3 : 67108864 < g
  · clear h
    go_enter Tryd.func15, Tryd.ntmps15
    go_wp2
    go_ret2
    exact ⟨rfl, hba⟩
  have HI : Hid (∀ w, Calls Tryd.prog 29 #[.int .i64 (g * 64 + c + 1)] w fun e w' => e = .returned (.bool false) ∧ w' = w) := fun w => (isWordR_any _ w).mono fun _ _ ⟨h1, h2⟩ => ⟨by rw [h1, decide_eq_false (by unfold Worded at h; omega)], h2⟩
  have c0 : 0 ≤ c := by omega
  have c1 : c < 64 := by omega
  have g0 : 0 ≤ g := by omega
  clear h
  go_enter Tryd.func15, Tryd.ntmps15
  go_wp2_with fail
  refine (HI.out _).mono ?_
  rintro e1 w1 ⟨rfl, rfl⟩
  go_wp2
  go_ret2
  exact ⟨rfl, hba⟩

theorem ref_zero (a : Nat → Addr) (w : World) (hE : Env a w) :
    Calls Tryd.prog 16 #[.int .i64 0] w fun e w' => e = .returned (.tuple #[.agg #[.int .i64 0, .int .i64 0], errAt (a 4)]) ∧ Below w.heap.size w w' := by
  have hge : 4 < w.heap.size := hE.glt (i := 4) (by decide)
  have ke : (w.alloc (.cells #[.int .i64 0, .int .i64 0] 36)).cell? ⟨4, 0, none⟩ = some (errAt (a 4)) := (hE.below (box_below 0 0 w).block).cell 4 (by decide)
  have z0 : (w.alloc (.cells #[.int .i64 0, .int .i64 0] 36)).cell? ⟨w.heap.size, 0, none⟩ = some (.int .i64 0) := by simp
  have z1 : (w.alloc (.cells #[.int .i64 0, .int .i64 0] 36)).cell? ⟨w.heap.size, 1, none⟩ = some (.int .i64 0) := by simp
  have y0 : (w.alloc (.cells #[.int .i64 0, .int .i64 0] 36)).frozen? ⟨w.heap.size, 0, none⟩ = false := by simp
  have y1 : (w.alloc (.cells #[.int .i64 0, .int .i64 0] 36)).frozen? ⟨w.heap.size, 1, none⟩ = false := by simp
  have hba := box_below 0 0 w
  generalize hw : w.alloc (.cells #[.int .i64 0, .int .i64 0] 36) = w1 at *
  go_enter Tryd.func16, Tryd.ntmps16
  go_wp2
  go_region
  go_wp2
  refine bodyPost_ret (v := .tuple #[.agg #[.int .i64 0, .int .i64 0], errAt (a 4)]) (by simp only [results, Tryd.results16]; go_simp) rfl ⟨rfl, ?_⟩
  exact ((hba.setCell (Nat.le_refl _) _).setCell (Nat.le_refl _) _).drew

theorem ref_no (a : Nat → Addr) (n : Int) (w : World) (hE : Env a w) (hn : n ≠ 0) (h : ¬ (0 ≤ n ∧ n < 4294967296)) :
    Calls Tryd.prog 16 #[.int .i64 n] w fun e w' => e = .returned (.tuple #[.agg #[.int .i64 0, .int .i64 0], errAt (a 1)]) ∧ Below w.heap.size w w' := by
  have HI : Hid (∀ w, Calls Tryd.prog 42 #[.int .i64 n] w fun e w' => e = .returned (.bool false) ∧ w' = w) := fun w => (isWord_any _ w).mono fun _ _ ⟨h1, h2⟩ => ⟨by rw [h1, decide_eq_false h], h2⟩
  have hb : (n == 0) = false := beq_eq_false_iff_ne.2 hn
  clear hn h
  have hge : 1 < w.heap.size := hE.glt (i := 1) (by decide)
  have ke : (w.alloc (.cells #[.int .i64 0, .int .i64 0] 36)).cell? ⟨1, 0, none⟩ = some (errAt (a 1)) := (hE.below (box_below 0 0 w).block).cell 1 (by decide)
  have z0 : (w.alloc (.cells #[.int .i64 0, .int .i64 0] 36)).cell? ⟨w.heap.size, 0, none⟩ = some (.int .i64 0) := by simp
  have z1 : (w.alloc (.cells #[.int .i64 0, .int .i64 0] 36)).cell? ⟨w.heap.size, 1, none⟩ = some (.int .i64 0) := by simp
  have y0 : (w.alloc (.cells #[.int .i64 0, .int .i64 0] 36)).frozen? ⟨w.heap.size, 0, none⟩ = false := by simp
  have y1 : (w.alloc (.cells #[.int .i64 0, .int .i64 0] 36)).frozen? ⟨w.heap.size, 1, none⟩ = false := by simp
  have hba := box_below 0 0 w
  generalize hw : w.alloc (.cells #[.int .i64 0, .int .i64 0] 36) = w1 at *
  go_enter Tryd.func16, Tryd.ntmps16
  go_wp2_with fail
  refine (HI.out _).mono ?_
  rintro e1 w2 ⟨rfl, rfl⟩
  go_wp2
  go_region
  go_wp2
  refine bodyPost_ret (v := .tuple #[.agg #[.int .i64 0, .int .i64 0], errAt (a 1)]) (by simp only [results, Tryd.results16]; go_simp) rfl ⟨rfl, ?_⟩
  exact ((hba.setCell (Nat.le_refl _) _).setCell (Nat.le_refl _) _).drew

theorem ref_ok (n : Int) (w : World) (h1 : 1 ≤ n) (h2 : n < 4294967296) :
    Calls Tryd.prog 16 #[.int .i64 n] w fun e w' => e = .returned (.tuple #[.agg #[.int .i64 ((n - 1) % 64), .int .i64 ((n - 1) / 64)], .nilIface]) ∧ Below w.heap.size w w' := by
  have HI : Hid (∀ w, Calls Tryd.prog 42 #[.int .i64 n] w fun e w' => e = .returned (.bool true) ∧ w' = w) := fun w => (isWord_any _ w).mono fun _ _ ⟨h3, h4⟩ => ⟨by rw [h3, decide_eq_true (by omega)], h4⟩
  have hb : (n == 0) = false := beq_eq_false_iff_ne.2 (by omega)
  have z0 : (w.alloc (.cells #[.int .i64 0, .int .i64 0] 36)).cell? ⟨w.heap.size, 0, none⟩ = some (.int .i64 0) := by simp
  have z1 : (w.alloc (.cells #[.int .i64 0, .int .i64 0] 36)).cell? ⟨w.heap.size, 1, none⟩ = some (.int .i64 0) := by simp
  have y0 : (w.alloc (.cells #[.int .i64 0, .int .i64 0] 36)).frozen? ⟨w.heap.size, 0, none⟩ = false := by simp
  have y1 : (w.alloc (.cells #[.int .i64 0, .int .i64 0] 36)).frozen? ⟨w.heap.size, 1, none⟩ = false := by simp
  have hba := box_below 0 0 w
  generalize hw : w.alloc (.cells #[.int .i64 0, .int .i64 0] 36) = w1 at *
  go_enter Tryd.func16, Tryd.ntmps16
  go_wp2_with fail
  refine (HI.out _).mono ?_
  rintro e1 w2 ⟨rfl, rfl⟩
  go_wp2
  refine bodyPost_ret (v := .tuple #[.agg #[.int .i64 ((n - 1) % 64), .int .i64 ((n - 1) / 64)], .nilIface]) (by simp only [results, Tryd.results16]; go_simp) rfl ⟨rfl, ?_⟩
  exact (hba.setCell (Nat.le_refl _) _).setCell (Nat.le_refl _) _

theorem refOf_zero (w : World) :
    Calls Tryd.prog 17 #[.int .i64 0] w fun e w' => e = .returned (.tuple #[.agg #[.int .i64 0, .int .i64 0], .int .i64 5]) ∧ Below w.heap.size w w' := by
  have z0 : (w.alloc (.cells #[.int .i64 0, .int .i64 0] 36)).cell? ⟨w.heap.size, 0, none⟩ = some (.int .i64 0) := by simp
  have z1 : (w.alloc (.cells #[.int .i64 0, .int .i64 0] 36)).cell? ⟨w.heap.size, 1, none⟩ = some (.int .i64 0) := by simp
  have y0 : (w.alloc (.cells #[.int .i64 0, .int .i64 0] 36)).frozen? ⟨w.heap.size, 0, none⟩ = false := by simp
  have y1 : (w.alloc (.cells #[.int .i64 0, .int .i64 0] 36)).frozen? ⟨w.heap.size, 1, none⟩ = false := by simp
  have hba := box_below 0 0 w
  generalize hw : w.alloc (.cells #[.int .i64 0, .int .i64 0] 36) = w1 at *
  go_enter Tryd.func17, Tryd.ntmps17
  go_wp2
  refine bodyPost_ret (v := .tuple #[.agg #[.int .i64 0, .int .i64 0], .int .i64 5]) (by simp only [results, Tryd.results17]; go_simp) rfl ⟨rfl, ?_⟩
  exact ((hba.setCell (Nat.le_refl _) _).setCell (Nat.le_refl _) _)

theorem refOf_no (n : Int) (w : World) (hn : n ≠ 0) (h : ¬ (0 ≤ n ∧ n < 4294967296)) :
    Calls Tryd.prog 17 #[.int .i64 n] w fun e w' => e = .returned (.tuple #[.agg #[.int .i64 0, .int .i64 0], .int .i64 2]) ∧ Below w.heap.size w w' := by
  have HI : Hid (∀ w, Calls Tryd.prog 29 #[.int .i64 n] w fun e w' => e = .returned (.bool false) ∧ w' = w) := fun w => (isWordR_any _ w).mono fun _ _ ⟨h1, h2⟩ => ⟨by rw [h1, decide_eq_false h], h2⟩
  have hb : (n == 0) = false := beq_eq_false_iff_ne.2 hn
  clear hn h
  have z0 : (w.alloc (.cells #[.int .i64 0, .int .i64 0] 36)).cell? ⟨w.heap.size, 0, none⟩ = some (.int .i64 0) := by simp
  have z1 : (w.alloc (.cells #[.int .i64 0, .int .i64 0] 36)).cell? ⟨w.heap.size, 1, none⟩ = some (.int .i64 0) := by simp
  have y0 : (w.alloc (.cells #[.int .i64 0, .int .i64 0] 36)).frozen? ⟨w.heap.size, 0, none⟩ = false := by simp
  have y1 : (w.alloc (.cells #[.int .i64 0, .int .i64 0] 36)).frozen? ⟨w.heap.size, 1, none⟩ = false := by simp
  have hba := box_below 0 0 w
  generalize hw : w.alloc (.cells #[.int .i64 0, .int .i64 0] 36) = w1 at *
  go_enter Tryd.func17, Tryd.ntmps17
  go_wp2_with fail
  refine (HI.out _).mono ?_
  rintro e1 w2 ⟨rfl, rfl⟩
  go_wp2
  refine bodyPost_ret (v := .tuple #[.agg #[.int .i64 0, .int .i64 0], .int .i64 2]) (by simp only [results, Tryd.results17]; go_simp) rfl ⟨rfl, ?_⟩
  exact ((hba.setCell (Nat.le_refl _) _).setCell (Nat.le_refl _) _)

theorem refOf_ok (n : Int) (w : World) (h1 : 1 ≤ n) (h2 : n < 4294967296) :
    Calls Tryd.prog 17 #[.int .i64 n] w fun e w' => e = .returned (.tuple #[.agg #[.int .i64 ((n - 1) % 64), .int .i64 ((n - 1) / 64)], .int .i64 0]) ∧ Below w.heap.size w w' := by
  have HI : Hid (∀ w, Calls Tryd.prog 29 #[.int .i64 n] w fun e w' => e = .returned (.bool true) ∧ w' = w) := fun w => (isWordR_any _ w).mono fun _ _ ⟨h3, h4⟩ => ⟨by rw [h3, decide_eq_true (by omega)], h4⟩
  have hb : (n == 0) = false := beq_eq_false_iff_ne.2 (by omega)
  have z0 : (w.alloc (.cells #[.int .i64 0, .int .i64 0] 36)).cell? ⟨w.heap.size, 0, none⟩ = some (.int .i64 0) := by simp
  have z1 : (w.alloc (.cells #[.int .i64 0, .int .i64 0] 36)).cell? ⟨w.heap.size, 1, none⟩ = some (.int .i64 0) := by simp
  have y0 : (w.alloc (.cells #[.int .i64 0, .int .i64 0] 36)).frozen? ⟨w.heap.size, 0, none⟩ = false := by simp
  have y1 : (w.alloc (.cells #[.int .i64 0, .int .i64 0] 36)).frozen? ⟨w.heap.size, 1, none⟩ = false := by simp
  have hba := box_below 0 0 w
  generalize hw : w.alloc (.cells #[.int .i64 0, .int .i64 0] 36) = w1 at *
  go_enter Tryd.func17, Tryd.ntmps17
  go_wp2_with fail
  refine (HI.out _).mono ?_
  rintro e1 w2 ⟨rfl, rfl⟩
  go_wp2
  refine bodyPost_ret (v := .tuple #[.agg #[.int .i64 ((n - 1) % 64), .int .i64 ((n - 1) / 64)], .int .i64 0]) (by simp only [results, Tryd.results17]; go_simp) rfl ⟨rfl, ?_⟩
  exact (hba.setCell (Nat.le_refl _) _).setCell (Nat.le_refl _) _
end Go.Proofs.YtcnemlamlchnkaaDoor
