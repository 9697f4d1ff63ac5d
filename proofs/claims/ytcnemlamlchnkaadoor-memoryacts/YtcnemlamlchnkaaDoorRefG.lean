/- The document's answer's memory: Store, by contracts. -/
import Derived.Test.YtcnemlamlchnkaaDoorRefF
import Derived.Deep.RegionHeld3
import Derived.Deep.AppendLies
namespace Go.Proofs.YtcnemlamlchnkaaDoor
open Go.RowKit Go.Extern.Stop Go.Stop Go.Extern

theorem wtInfo : ∃ i, Tryd.prog.info? 102 = some i ∧ i.zero = some (.agg #[.int .i64 0, .int .i64 0, .int .i64 0, .int .i64 0]) ∧ i.size = 4 ∧ i.bytes = 32 := by
  obtain ⟨i, hi, h1⟩ := Option.map_eq_some_iff.1 (show (Tryd.prog.info? 102).map (·.zero) = some (some (.agg #[.int .i64 0, .int .i64 0, .int .i64 0, .int .i64 0])) by kernel_rfl)
  obtain ⟨j, hj, h2⟩ := Option.map_eq_some_iff.1 (show (Tryd.prog.info? 102).map (·.size) = some 4 by kernel_rfl)
  obtain ⟨k, hk, h3⟩ := Option.map_eq_some_iff.1 (show (Tryd.prog.info? 102).map (·.bytes) = some 32 by kernel_rfl)
  obtain rfl := Option.some.inj (hi.symm.trans hj)
  obtain rfl := Option.some.inj (hi.symm.trans hk)
  exact ⟨_, hi, h1, h2, h3⟩

/-- The error's number of a store. -/
def Rm.storeErr (s : Rm) (t : Nat) (c g k v : Int) : Nat :=
  if s.ar.at c g k = 0 then (if 0 ≤ v ∧ v < 4294967296 then (if 8 ≤ (s.waits t).length then 6 else 0) else 2) else s.ar.at c g k

theorem wtCells_append (l : List Wt) (x : Wt) : wtCells (l ++ [x]) = wtCells l ++ x.cells := by simp [wtCells]

set_option maxHeartbeats 1000000 in
theorem rstore_no (p : RmPl) (s : Rm) (t : Nat) (c g k v : Int) (w : World) (h : RmAt p s w) (ht : t < s.threads) (he : s.storeErr t c g k v ≠ 0) :
    Calls Tryd.prog 57 #[.pointer (some ⟨p.mb, 0, none⟩), .int .i64 t, .agg #[.int .i64 c, .int .i64 g], .int .i64 k, .int .i64 v] w fun e w' => e = .returned (.int .i64 (s.storeErr t c g k v)) ∧ Below w.heap.size w w' := by
  have h1 := h.alloc (.cells #[.int .i64 c, .int .i64 g] 36)
  have hba := box_below c g w
  have HA : Hid (∀ w, RmAt p s w → Calls Tryd.prog 28 #[.pointer (some ⟨p.mb, 0, none⟩), .agg #[.int .i64 c, .int .i64 g], .int .i64 k] w fun e w' => e = .returned (.int .i64 (s.ar.at c g k)) ∧ Below w.heap.size w w') := fun w h => at_any p s c g k w h
  have q0 : (w.alloc (.cells #[.int .i64 c, .int .i64 g] 36)).cell? ⟨w.heap.size, 0, none⟩ = some (.int .i64 c) := by simp
  have q1 : (w.alloc (.cells #[.int .i64 c, .int .i64 g] 36)).cell? ⟨w.heap.size, 1, none⟩ = some (.int .i64 g) := by simp
  clear h
  by_cases ha : s.ar.at c g k = 0
  · rw [ha] at HA
    have HI : Hid (∀ w, Calls Tryd.prog 29 #[.int .i64 v] w fun e w' => e = .returned (.bool (decide (0 ≤ v ∧ v < 4294967296))) ∧ w' = w) := fun w => isWordR_any v w
    by_cases hv : 0 ≤ v ∧ v < 4294967296
    · have hl : 8 ≤ (s.waits t).length := Classical.byContradiction fun e => he (by simp [Rm.storeErr, ha, hv, e])
      rw [show s.storeErr t c g k v = 6 from by simp [Rm.storeErr, ha, hv, hl]]
      rw [decide_eq_true hv] at HI
      have hi : (8 : Int) ≤ ((s.waits t).length : Nat) := by omega
      have htc := h1.tcap
      have ti : (t : Int) < s.threads := by omega
      clear ha hv he hl
      generalize hw1 : w.alloc (.cells #[.int .i64 c, .int .i64 g] 36) = w1 at *
      go_enter Tryd.func57, Tryd.ntmps57
      go_wp2_with fail
      refine (HA.out _ h1).mono ?_
      rintro e2 w2 ⟨rfl, hb2⟩
      have B2 := below_step hba hb2
      have h2 := h1.below hb2
      clear hb2 q0 q1 h1 HA
      have hm1 := h2.mWaits
      obtain ⟨hv, hown⟩ := h2.waits t ht
      obtain ⟨ad, cap, hvs, hcl, hcm, hcell⟩ := ownsRow_shape hown
      rw [hvs] at hv
      clear hcell hown hvs
      go_wp2_with fail
      refine (HI.out _).mono ?_
      rintro e3 w3 ⟨rfl, rfl⟩
      clear HI
      go_wp2
      go_ret
      exact ⟨rfl, B2⟩
    · rw [show s.storeErr t c g k v = 2 from by simp only [Rm.storeErr, ha, if_true, if_neg hv]]
      rw [decide_eq_false hv] at HI
      clear ha hv he
      generalize hw1 : w.alloc (.cells #[.int .i64 c, .int .i64 g] 36) = w1 at *
      go_enter Tryd.func57, Tryd.ntmps57
      go_wp2_with fail
      refine (HA.out _ h1).mono ?_
      rintro e2 w2 ⟨rfl, hb2⟩
      have B2 := below_step hba hb2
      clear hb2 q0 q1 h1 HA
      go_wp2_with fail
      refine (HI.out _).mono ?_
      rintro e3 w3 ⟨rfl, rfl⟩
      clear HI
      go_wp2
      go_ret
      exact ⟨rfl, B2⟩
  · rw [show s.storeErr t c g k v = s.ar.at c g k from by simp [Rm.storeErr, ha]]
    have ei : (((s.ar.at c g k : Nat) : Int) == 0) = false := beq_eq_false_iff_ne.2 (by omega)
    generalize s.ar.at c g k = E at *
    clear ha he
    generalize hw1 : w.alloc (.cells #[.int .i64 c, .int .i64 g] 36) = w1 at *
    go_enter Tryd.func57, Tryd.ntmps57
    go_wp2_with fail
    refine (HA.out _ h1).mono ?_
    rintro e2 w2 ⟨rfl, hb2⟩
    have B2 := below_step hba hb2
    clear hb2 q0 q1 h1 HA
    go_wp2
    go_ret
    exact ⟨rfl, B2⟩

set_option maxRecDepth 20000 in
set_option maxHeartbeats 4000000 in
theorem rstore_ok (p : RmPl) (s : Rm) (t : Nat) (c g k v : Int) (w : World) (h : RmAt p s w) (ht : t < s.threads) (he : s.storeErr t c g k v = 0) :
    Calls Tryd.prog 57 #[.pointer (some ⟨p.mb, 0, none⟩), .int .i64 t, .agg #[.int .i64 c, .int .i64 g], .int .i64 k, .int .i64 v] w fun e w' => e = .returned (.int .i64 0) ∧ ∃ p', RmStep p s w p' (s.setWaits t (s.waits t ++ [⟨c, g, k, v⟩])) w' := by
  have ha : s.ar.at c g k = 0 := Classical.byContradiction fun e => by rw [Rm.storeErr, if_neg e] at he; exact e he
  have hv : 0 ≤ v ∧ v < 4294967296 := Classical.byContradiction fun e => by rw [Rm.storeErr, if_pos ha, if_neg e] at he; cases he
  have hl : (s.waits t).length < 8 := Classical.byContradiction fun e => by rw [Rm.storeErr, if_pos ha, if_pos hv, if_pos (by omega)] at he; cases he
  have h0 := h
  have h1 := h.alloc (.cells #[.int .i64 c, .int .i64 g] 36)
  have hba := box_below c g w
  have q0 : (w.alloc (.cells #[.int .i64 c, .int .i64 g] 36)).cell? ⟨w.heap.size, 0, none⟩ = some (.int .i64 c) := by simp
  have q1 : (w.alloc (.cells #[.int .i64 c, .int .i64 g] 36)).cell? ⟨w.heap.size, 1, none⟩ = some (.int .i64 g) := by simp
  have HA : Hid (∀ w, RmAt p s w → Calls Tryd.prog 28 #[.pointer (some ⟨p.mb, 0, none⟩), .agg #[.int .i64 c, .int .i64 g], .int .i64 k] w fun e w' => e = .returned (.int .i64 0) ∧ Below w.heap.size w w') := fun w h => by
    have := at_any p s c g k w h; rw [ha] at this; exact this
  have HI : Hid (∀ w, Calls Tryd.prog 29 #[.int .i64 v] w fun e w' => e = .returned (.bool true) ∧ w' = w) := fun w => by
    have := isWordR_any v w; rw [decide_eq_true hv] at this; exact this
  have H0 : Hid (RmAt p s w) := h0
  have hfw : w.heap.size < (w.alloc (.cells #[.int .i64 c, .int .i64 g] 36)).heap.size := by simp
  clear h h0 ha hv he
  have hi : ¬ (8 : Int) ≤ ((s.waits t).length : Nat) := by omega
  have htc := h1.tcap
  have ti : (t : Int) < s.threads := by omega
  generalize hw1 : w.alloc (.cells #[.int .i64 c, .int .i64 g] 36) = w1 at *
  go_enter Tryd.func57, Tryd.ntmps57
  go_wp2_with fail
  refine (HA.out _ h1).mono ?_
  rintro e2 w2 ⟨rfl, hb2⟩
  have B2 := below_step hba hb2
  replace q0 := keep_cell hb2 q0
  replace q1 := keep_cell hb2 q1
  have h2 := h1.below hb2
  have l0 : w.heap.size < w2.heap.size := Nat.lt_of_lt_of_le hfw hb2.size
  clear hb2 h1 HA hw1 hfw hba
  have hm1 := h2.mWaits
  obtain ⟨hv, hown⟩ := h2.waits t ht
  have H2 : Hid (RmAt p s w2) := h2
  have om : (p.wv t).ownBlock ≠ some p.mb := fun e => (h2.dv t _ ht e).1 rfl
  have ot : (p.wv t).ownBlock ≠ some p.tb := fun e => (h2.dv t _ ht e).2.2.1 rfl
  have ob : (p.wv t).ownBlock ≠ some w.heap.size := fun e => by have := H0.out.lv ht e; omega
  have lm := h2.lm
  have lt := h2.lt
  have hft := h2.ft t
  obtain ⟨ad, cap, hvs, hcl, hcm, hcell⟩ := ownsRow_shape hown
  clear hcell h2
  obtain ⟨wi, hwi, hwz, hws, hwb⟩ := wtInfo
  have hml : (s.waits t).length + 1 ≤ maxLen := by unfold maxLen; omega
  have hmb : ((s.waits t).length + 1) * 32 ≤ 140737488355328 := by omega
  have HVS : Hid (p.wv t = .slice ad (s.waits t).length cap) := hvs
  rw [hvs] at hv hown om ot ob
  clear hvs
  go_wp2_with fail
  refine (HI.out _).mono ?_
  rintro e3 w3 ⟨rfl, rfl⟩
  clear HI
  go_wp2_with fail
  go_region_held3 (fun w' => w'.cell? ⟨p.mb, 1, none⟩ = some (.slice (some ⟨p.tb, 0, none⟩) s.threads p.tcap) ∧ w'.cell? ⟨p.tb, t, none⟩ = some (.slice ad (s.waits t).length cap) ∧ w'.cell? ⟨w.heap.size, 0, none⟩ = some (.int .i64 c) ∧ w'.cell? ⟨w.heap.size, 1, none⟩ = some (.int .i64 g))
    (first
      | go_keep
      | (go_split_ands
         refine ⟨?_, ?_, ?_, ?_⟩
         · (rw [hgrow.cell_far _ (by simp; omega) (Ne.symm om)]; assumption)
         · (rw [hgrow.cell_far _ (by simp; omega) (Ne.symm ot)]; assumption)
         · (rw [hgrow.cell_far _ (by simp; omega) (Ne.symm ob)]; assumption)
         · (rw [hgrow.cell_far _ (by simp; omega) (Ne.symm ob)]; assumption)))
    ((refine step_append_at _ (by rfl) _ _ _ (by rfl) 0 102 wi _ 4 32 Tryd.underlying84 hwi hwz hws hwb rfl (by omega) (.slice ad (s.waits t).length cap) _ (wtCells (s.waits t)) (by rfl) ((hown.alloc _).drew)
        ⟨w3.heap.size, 0, none⟩ 1 1 [.int .i64 c, .int .i64 g, .int .i64 k, .int .i64 v] (by rfl) (by rfl) (World.news_of_block (cs := #[.int .i64 c, .int .i64 g, .int .i64 k, .int .i64 v]) (t := 102) (fr := (0, 0)) (heap_alloc_new w3 _)) (by simp [Value.oneCell'])
        hml hmb (by simp) ?_; intro gg gcap w6 hown6 hgrow hat))
  obtain ⟨j1, j2, -, -⟩ := ‹_ ∧ _ ∧ _ ∧ _›
  have hg : ∀ b, b < w3.heap.size → (Value.slice ad (s.waits t).length cap).ownBlock ≠ some b → w6.heap[b]? = w3.heap[b]? := fun b hb hne => by
    rw [hgrow.block b (by simp; omega) (Ne.symm hne)]
    exact Below.heap_alloc _ _ _ hb
  have hz : w3.heap.size ≤ w6.heap.size := Nat.le_trans (by simp) hgrow.size
  have hf6 : w6.frozen? ⟨p.tb, t, none⟩ = false := by rw [World.frozen?_of_block (hg p.tb lt ot)]; exact hft
  have HT := H2.out.setWaits (w1 := w6) ht (.slice gg ((s.waits t).length + 1) gcap) (s.waits t ++ [⟨c, g, k, v⟩]) (fun b hb hne => hg b hb (by rw [← HVS.out]; exact hne)) hz
    (by rw [wtCells_append, List.length_append]; exact hown6) (fun b hb => by
      rcases hat with e | e
      · left; rw [HVS.out, ← e]; exact hb
      · right; rw [e] at hb; simp at hb; omega)
  have HR : RmStep p s w (p.withRow t (.slice gg ((s.waits t).length + 1) gcap)) (s.setWaits t (s.waits t ++ [⟨c, g, k, v⟩])) (w6.setCell ⟨p.tb, t, none⟩ (.slice gg ((s.waits t).length + 1) gcap)) := by
    refine RmStep.of_below B2 ⟨rfl, rfl, HT, ?_, ?_⟩
    · refine Turns.trans (b := w6) ⟨hgrow.os, hgrow.tape, hgrow.output, hz, fun b hb ho => hg b hb (fun e => ho 0 (Or.inr (Or.inr (Or.inr (Or.inr ⟨t, ht, by rw [HVS.out]; exact e⟩))))), ?_, ?_⟩ ((Turns.refl _ _).setCell _ (Or.inr (Or.inr (Or.inl rfl))))
      · intro b o hb ho
        exact World.cell?_of_block (hg b hb (fun e => ho (Or.inr (Or.inr (Or.inr (Or.inr ⟨t, ht, by rw [HVS.out]; exact e⟩))))))
      · intro b o hb ho
        exact World.frozen?_of_block (hg b hb (fun e => ho (Or.inr (Or.inr (Or.inr (Or.inr ⟨t, ht, by rw [HVS.out]; exact e⟩))))))
    · intro b hb
      rcases RmPl.fp_row p s _ t _ b rfl rfl hb with e | e
      · exact Or.inl e
      · rcases hat with e2 | e2
        · exact Or.inl (Or.inr (Or.inr (Or.inr (Or.inr ⟨t, ht, by rw [HVS.out, ← e2]; exact e⟩))))
        · right; rw [e2] at e; simp at e; omega
  clear hat hgrow hown6 hown hg HT H2 HVS hwi hwz hws hwb q0 q1 hm1 hv
  go_wp2
  go_ret
  exact ⟨rfl, _, HR⟩
end Go.Proofs.YtcnemlamlchnkaaDoor
