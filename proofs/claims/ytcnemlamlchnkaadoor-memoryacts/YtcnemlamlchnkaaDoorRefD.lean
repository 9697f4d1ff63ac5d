/- The document's answer's memory: Alloc, by contracts. -/
import Derived.Test.YtcnemlamlchnkaaDoorRefC
import Derived.BigQuiet
namespace Go.Proofs.YtcnemlamlchnkaaDoor
open Go.RowKit Go.Extern.Stop Go.Stop Go.Extern

theorem RmPl.fp_words (p : RmPl) (s s' : Rm) (c b n k : Nat) (h1 : s'.ar.size = s.ar.size) (h2 : s'.threads = s.threads) (h : (p.withWords c b n).fp s' k) : p.fp s k ∨ k = b := by
  rcases h with h | h | h | ⟨j, hj, h⟩ | ⟨t, ht, h⟩
  · exact Or.inl (Or.inl h)
  · exact Or.inl (Or.inr (Or.inl h))
  · exact Or.inl (Or.inr (Or.inr (Or.inl h)))
  · simp only [RmPl.withWords] at h
    split at h
    · exact Or.inr h
    · exact Or.inl (Or.inr (Or.inr (Or.inr (Or.inl ⟨j, by rw [← h1]; exact hj, h⟩))))
  · exact Or.inl (Or.inr (Or.inr (Or.inr (Or.inr ⟨t, by rw [← h2]; exact ht, h⟩))))

/-- A store into a block that is none of its own. -/
theorem RmAt.apart {p : RmPl} {s : Rm} {w : World} (h : RmAt p s w) {b o : Nat} (v : Value) (hb : ∀ k, p.fp s k → k ≠ b) : RmAt p s (w.setCell ⟨b, o, none⟩ v) :=
  h.turns (S := fun k _ => k = b) ((Turns.refl _ _).setCell v rfl) (fun k _ hk => hb k hk)

theorem make4 (w : World) : (Instr.makeSlice 22 (.int .i64 4) (.int .i64 4)).run Tryd.prog w = .ok (.slice (some ⟨w.heap.size, 0, none⟩) 4 4) (w.alloc (.cells #[.int .i64 0, .int .i64 0, .int .i64 0, .int .i64 0] 3)) := by kernel_rfl

theorem ralloc_full (p : RmPl) (s : Rm) (w : World) (h : RmAt p s w) (hf : ∀ j, j < s.ar.size → s.ar.there j = true) :
    Calls Tryd.prog 25 #[.pointer (some ⟨p.mb, 0, none⟩)] w fun e w' => e = .returned (.tuple #[.agg #[.int .i64 0, .int .i64 0], .int .i64 6]) ∧ Below w.heap.size w w' := by
  have h1 := h.alloc (.cells #[.int .i64 0, .int .i64 0] 36)
  have hba := box_below 0 0 w
  have hz := h.small
  have hcc := h.ccap
  have z0 : (w.alloc (.cells #[.int .i64 0, .int .i64 0] 36)).cell? ⟨w.heap.size, 0, none⟩ = some (.int .i64 0) := by simp
  have z1 : (w.alloc (.cells #[.int .i64 0, .int .i64 0] 36)).cell? ⟨w.heap.size, 1, none⟩ = some (.int .i64 0) := by simp
  have y0 : (w.alloc (.cells #[.int .i64 0, .int .i64 0] 36)).frozen? ⟨w.heap.size, 0, none⟩ = false := by simp
  have y1 : (w.alloc (.cells #[.int .i64 0, .int .i64 0] 36)).frozen? ⟨w.heap.size, 1, none⟩ = false := by simp
  have hm := h1.mCells
  clear h
  generalize hw : w.alloc (.cells #[.int .i64 0, .int .i64 0] 36) = w1 at *
  go_enter Tryd.func25, Tryd.ntmps25
  go_wp2_with fail
  go_loop [4] (fun i => ∃ j : Nat, j ≤ s.ar.size ∧ i = .int .i64 j) (fun i => s.ar.size - (intOf i).toNat)
  case atStart => exact ⟨0, Nat.zero_le _, rfl⟩
  case round =>
    obtain ⟨j, hj, rfl⟩ := hrel
    by_cases hlt : j < s.ar.size
    · have ht := h1.cHere j hlt
      rw [hf j hlt] at ht
      have ji : (j : Int) < s.ar.size := by omega
      clear hf
      go_wp2
      go_round
      case rel => exact ⟨j + 1, by omega, by go_num⟩
      case measure => simp [intOf]; omega
    · obtain rfl : j = s.ar.size := by omega
      clear hf
      go_wp2
      refine bodyPost_ret (v := .tuple #[.agg #[.int .i64 0, .int .i64 0], .int .i64 6]) (by simp only [results, Tryd.results25]; go_simp) rfl ⟨rfl, ?_⟩
      exact (hba.setCell (Nat.le_refl _) _).setCell (Nat.le_refl _) _

set_option maxHeartbeats 2000000 in
theorem ralloc_some (p : RmPl) (s : Rm) (c : Nat) (w : World) (h : RmAt p s w) (hc : c < s.ar.size) (hf : ∀ j, j < c → s.ar.there j = true) (ht : s.ar.there c = false) (hg : s.ar.given c + 1 < 4611686018427387904) :
    Calls Tryd.prog 25 #[.pointer (some ⟨p.mb, 0, none⟩)] w fun e w' => e = .returned (.tuple #[.agg #[.int .i64 c, .int .i64 (s.ar.given c)], .int .i64 0]) ∧ Turns (fun k _ => k = p.cb) w w' ∧ ∃ b, w.heap.size ≤ b ∧ RmAt (p.withWords c b 4) (s.give c) w' := by
  have h1 := h.alloc (.cells #[.int .i64 0, .int .i64 0] 36)
  have hba : Turns (fun k _ => k = p.cb) w (w.alloc (.cells #[.int .i64 0, .int .i64 0] 36)) := (Turns.refl _ _).alloc _
  have hz := h.small
  have hcc := h.ccap
  have z0 : (w.alloc (.cells #[.int .i64 0, .int .i64 0] 36)).cell? ⟨w.heap.size, 0, none⟩ = some (.int .i64 0) := by simp
  have z1 : (w.alloc (.cells #[.int .i64 0, .int .i64 0] 36)).cell? ⟨w.heap.size, 1, none⟩ = some (.int .i64 0) := by simp
  have y0 : (w.alloc (.cells #[.int .i64 0, .int .i64 0] 36)).frozen? ⟨w.heap.size, 0, none⟩ = false := by simp
  have y1 : (w.alloc (.cells #[.int .i64 0, .int .i64 0] 36)).frozen? ⟨w.heap.size, 1, none⟩ = false := by simp
  have hm := h1.mCells
  have l1 := h.lm
  have l2 := h.lc
  have hfp : ∀ k, p.fp s k → k < w.heap.size := fun k hk => h.fp_lt hk
  clear h
  generalize hw : w.alloc (.cells #[.int .i64 0, .int .i64 0] 36) = w1 at *
  go_enter Tryd.func25, Tryd.ntmps25
  go_wp2_with fail
  go_loop [4] (fun i => ∃ j : Nat, j ≤ c ∧ i = .int .i64 j) (fun i => s.ar.size - (intOf i).toNat)
  case atStart => exact ⟨0, Nat.zero_le _, rfl⟩
  case round =>
    obtain ⟨j, hj, rfl⟩ := hrel
    have hlt : j < s.ar.size := by omega
    have ji : (j : Int) < s.ar.size := by omega
    have htj := h1.cHere j hlt
    by_cases hlc : j < c
    · rw [hf j hlc] at htj
      clear hf
      go_wp2
      go_round
      case rel => exact ⟨j + 1, by omega, by go_num⟩
      case measure => simp [intOf]; omega
    · obtain rfl : j = c := by omega
      rw [ht] at htj
      have htm := h1.cTimes j hlt
      have hwd := h1.cWords j hlt
      have fc0 := h1.fc (j * 3)
      have fc1 := h1.fc (j * 3 + 1)
      have fc2 := h1.fc (j * 3 + 2)
      have gi : ((s.ar.given j : Nat) : Int) + 1 < 4611686018427387904 := by omega
      have m4 := make4
      have l3 := h1.lm
      have l4 := h1.lc
      have lz := World.block_lt_of_cell? _ _ z0
      clear hf
      go_wp2
      have hG : RmAt (p.withWords j w1.heap.size 4) (s.give j) (((((w1.setCell ⟨p.cb, j * 3, none⟩ (.slice (some ⟨w1.heap.size, 0, none⟩) 4 4)).setCell ⟨p.cb, j * 3 + 1, none⟩ (.int .i64 (s.ar.given j + 1))).setCell ⟨p.cb, j * 3 + 2, none⟩ (.bool true)).alloc (.cells #[.int .i64 0, .int .i64 0, .int .i64 0, .int .i64 0] 3)).drew) := by
        have h5 := (((h1.newWords j hlt).setGiven j hlt (s.ar.given j + 1) hg).setThere j hlt true)
        rw [Rm.give_eq] at h5
        rw [← World.setCell_alloc_past _ _ _ _ (by simp; exact l4), ← World.setCell_alloc_past _ _ _ _ (by simp; exact l4), ← World.setCell_alloc_past _ _ _ _ l4]
        exact h5.below (Below.refl _ _).drew
      have hT : Turns (fun k _ => k = p.cb) w (((((w1.setCell ⟨p.cb, j * 3, none⟩ (.slice (some ⟨w1.heap.size, 0, none⟩) 4 4)).setCell ⟨p.cb, j * 3 + 1, none⟩ (.int .i64 (s.ar.given j + 1))).setCell ⟨p.cb, j * 3 + 2, none⟩ (.bool true)).alloc (.cells #[.int .i64 0, .int .i64 0, .int .i64 0, .int .i64 0] 3)).drew) := ((((hba.setCell _ rfl).setCell _ rfl).setCell _ rfl).alloc _).drew
      have zr0 : (((((w1.setCell ⟨p.cb, j * 3, none⟩ (.slice (some ⟨w1.heap.size, 0, none⟩) 4 4)).setCell ⟨p.cb, j * 3 + 1, none⟩ (.int .i64 (s.ar.given j + 1))).setCell ⟨p.cb, j * 3 + 2, none⟩ (.bool true)).alloc (.cells #[.int .i64 0, .int .i64 0, .int .i64 0, .int .i64 0] 3)).drew).cell? ⟨w.heap.size, 0, none⟩ = some (.int .i64 0) := by go_simp
      have zr1 : (((((w1.setCell ⟨p.cb, j * 3, none⟩ (.slice (some ⟨w1.heap.size, 0, none⟩) 4 4)).setCell ⟨p.cb, j * 3 + 1, none⟩ (.int .i64 (s.ar.given j + 1))).setCell ⟨p.cb, j * 3 + 2, none⟩ (.bool true)).alloc (.cells #[.int .i64 0, .int .i64 0, .int .i64 0, .int .i64 0] 3)).drew).cell? ⟨w.heap.size, 1, none⟩ = some (.int .i64 0) := by go_simp
      have yr0 : (((((w1.setCell ⟨p.cb, j * 3, none⟩ (.slice (some ⟨w1.heap.size, 0, none⟩) 4 4)).setCell ⟨p.cb, j * 3 + 1, none⟩ (.int .i64 (s.ar.given j + 1))).setCell ⟨p.cb, j * 3 + 2, none⟩ (.bool true)).alloc (.cells #[.int .i64 0, .int .i64 0, .int .i64 0, .int .i64 0] 3)).drew).frozen? ⟨w.heap.size, 0, none⟩ = false := by go_simp
      have yr1 : (((((w1.setCell ⟨p.cb, j * 3, none⟩ (.slice (some ⟨w1.heap.size, 0, none⟩) 4 4)).setCell ⟨p.cb, j * 3 + 1, none⟩ (.int .i64 (s.ar.given j + 1))).setCell ⟨p.cb, j * 3 + 2, none⟩ (.bool true)).alloc (.cells #[.int .i64 0, .int .i64 0, .int .i64 0, .int .i64 0] 3)).drew).frozen? ⟨w.heap.size, 1, none⟩ = false := by go_simp
      have hsz : w.heap.size ≤ w1.heap.size := hba.size
      have hnz : ∀ k, (p.withWords j w1.heap.size 4).fp (s.give j) k → k ≠ w.heap.size := fun k hk => by
        rcases RmPl.fp_words p s (s.give j) j w1.heap.size 4 k rfl rfl hk with h6 | h6
        · have := hfp k h6; omega
        · omega
      have HNZ : Hid (∀ k, (p.withWords j w1.heap.size 4).fp (s.give j) k → k ≠ w.heap.size) := hnz
      clear hnz hfp
      go_region
      clear z0 z1 y0 y1 htm hwd htj fc0 fc1 fc2 h1 hm hw hba m4
      generalize ((((w1.setCell ⟨p.cb, j * 3, none⟩ (.slice (some ⟨w1.heap.size, 0, none⟩) 4 4)).setCell ⟨p.cb, j * 3 + 1, none⟩ (.int .i64 (s.ar.given j + 1))).setCell ⟨p.cb, j * 3 + 2, none⟩ (.bool true)).alloc (.cells #[.int .i64 0, .int .i64 0, .int .i64 0, .int .i64 0] 3)).drew = w2 at hG hT zr0 zr1 yr0 yr1 ⊢
      have h9 : (p.withWords j w1.heap.size 4).cb = p.cb := rfl
      have hm2 : w2.cell? ⟨p.mb, 0, none⟩ = some (.slice (some ⟨p.cb, 0, none⟩) s.ar.size p.ccap) := hG.mCells
      have htm2 : w2.cell? ⟨p.cb, j * 3 + 1, none⟩ = some (.int .i64 (s.ar.given j + 1 : Nat)) := by
        have h6 := hG.cTimes j hlt
        rw [show (s.give j).ar.given j = s.ar.given j + 1 from by simp [Rm.give, Ar.give]] at h6
        exact h6
      have lz2 := World.block_lt_of_cell? _ _ zr0
      clear h9
      go_wp2
      refine bodyPost_ret (v := .tuple #[.agg #[.int .i64 j, .int .i64 (s.ar.given j)], .int .i64 0]) (by simp only [results, Tryd.results25]; go_simp) rfl ⟨rfl, (hT.setNew _ (Nat.le_refl _)).setNew _ (Nat.le_refl _), w1.heap.size, hsz, ?_⟩
      exact (hG.apart _ HNZ.out).apart _ HNZ.out
end Go.Proofs.YtcnemlamlchnkaaDoor
