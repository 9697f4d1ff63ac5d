import Derived.Test.YtdpmnlbnlnmjbaaGreatDoorK06
import Derived.Deep.RegionHeld3
import Derived.Deep.AppendLies
import Derived.Deep.RegionLaw

/- RefG -/
namespace Go.Proofs.YtdpmnlbnlnmjbaaGreatDoor
open Go.RowKit Go.Extern.Stop Go.Stop Go.Extern

theorem wtInfo : ∃ i, Tryz.prog.info? 175 = some i ∧ i.zero = some (.agg #[.int .i64 0, .int .i64 0, .int .i64 0, .int .i64 0]) ∧ i.size = 4 ∧ i.bytes = 32 := by
  obtain ⟨i, hi, h1⟩ := Option.map_eq_some_iff.1 (show (Tryz.prog.info? 175).map (·.zero) = some (some (.agg #[.int .i64 0, .int .i64 0, .int .i64 0, .int .i64 0])) by kernel_rfl)
  obtain ⟨j, hj, h2⟩ := Option.map_eq_some_iff.1 (show (Tryz.prog.info? 175).map (·.size) = some 4 by kernel_rfl)
  obtain ⟨k, hk, h3⟩ := Option.map_eq_some_iff.1 (show (Tryz.prog.info? 175).map (·.bytes) = some 32 by kernel_rfl)
  obtain rfl := Option.some.inj (hi.symm.trans hj)
  obtain rfl := Option.some.inj (hi.symm.trans hk)
  exact ⟨_, hi, h1, h2, h3⟩

def Rm.storeErr (s : Rm) (t : Nat) (c g k v : Int) : Nat :=
  if s.ar.at c g k = 0 then (if 0 ≤ v ∧ v < 4294967296 then (if 8 ≤ (s.waits t).length then 6 else 0) else 2) else s.ar.at c g k

theorem wtCells_append (l : List Wt) (x : Wt) : wtCells (l ++ [x]) = wtCells l ++ x.cells := by simp [wtCells]

set_option maxRecDepth 20000 in
set_option maxHeartbeats 4000000 in
theorem rstore_ok (p : RmPl) (s : Rm) (t : Nat) (c g k v : Int) (w : World) (h : RmAt p s w) (ht : t < s.threads) (he : s.storeErr t c g k v = 0) :
    Calls Tryz.prog 59 #[.pointer (some ⟨p.mb, 0, none⟩), .int .i64 t, .agg #[.int .i64 c, .int .i64 g], .int .i64 k, .int .i64 v] w fun e w' => e = .returned (.int .i64 0) ∧ ∃ p', RmStep p s w p' (s.setWaits t (s.waits t ++ [⟨c, g, k, v⟩])) w' := by
  have ha : s.ar.at c g k = 0 := Classical.byContradiction fun e => by rw [Rm.storeErr, if_neg e] at he; exact e he
  have hv : 0 ≤ v ∧ v < 4294967296 := Classical.byContradiction fun e => by rw [Rm.storeErr, if_pos ha, if_neg e] at he; cases he
  have hl : (s.waits t).length < 8 := Classical.byContradiction fun e => by rw [Rm.storeErr, if_pos ha, if_pos hv, if_pos (by omega)] at he; cases he
  have h0 := h
  have h1 := h.alloc (.cells #[.int .i64 c, .int .i64 g] 95)
  have hba := box_below c g w
  have q0 : (w.alloc (.cells #[.int .i64 c, .int .i64 g] 95)).cell? ⟨w.heap.size, 0, none⟩ = some (.int .i64 c) := by simp
  have q1 : (w.alloc (.cells #[.int .i64 c, .int .i64 g] 95)).cell? ⟨w.heap.size, 1, none⟩ = some (.int .i64 g) := by simp
  have HA : Hid (∀ w, RmAt p s w → Calls Tryz.prog 89 #[.pointer (some ⟨p.mb, 0, none⟩), .agg #[.int .i64 c, .int .i64 g], .int .i64 k] w fun e w' => e = .returned (.int .i64 0) ∧ Below w.heap.size w w') := fun w h => by
    have := at_any p s c g k w h; rw [ha] at this; exact this
  have HI : Hid (∀ w, Calls Tryz.prog 78 #[.int .i64 v] w fun e w' => e = .returned (.bool true) ∧ w' = w) := fun w => by
    have := isWordR_any v w; rw [decide_eq_true hv] at this; exact this
  have H0 : Hid (RmAt p s w) := h0
  have hfw : w.heap.size < (w.alloc (.cells #[.int .i64 c, .int .i64 g] 95)).heap.size := by simp
  clear h h0 ha hv he
  have hi : ¬ (8 : Int) ≤ ((s.waits t).length : Nat) := by omega
  have htc := h1.tcap
  have ti : (t : Int) < s.threads := by omega
  generalize hw1 : w.alloc (.cells #[.int .i64 c, .int .i64 g] 95) = w1 at *
  go_enter Tryz.func59, Tryz.ntmps59
  go_wp2_with fail
  refine (HA.out _ h1).mono ?_
  rintro e2 w2 ⟨rfl, hb2⟩
  have B2 := below_step hba hb2
  replace q0 := keep_cell hb2 q0
  replace q1 := keep_cell hb2 q1
  have h2 := h1.below hb2
  have l0 : w.heap.size < w2.heap.size := Nat.lt_of_lt_of_le hfw hb2.size
  clear hb2 h1 HA hw1 hfw hba
  have hm1 := h2.mWaits
  obtain ⟨hv, hown⟩ := h2.waits t ht
  have H2 : Hid (RmAt p s w2) := h2
  have om : (p.wv t).ownBlock ≠ some p.mb := fun e => (h2.dv t _ ht e).1 rfl
  have ot : (p.wv t).ownBlock ≠ some p.tb := fun e => (h2.dv t _ ht e).2.2.1 rfl
  have ob : (p.wv t).ownBlock ≠ some w.heap.size := fun e => by have := H0.out.lv ht e; omega
  have lm := h2.lm
  have lt := h2.lt
  have hft := h2.ft t
  obtain ⟨ad, cap, hvs, hcl, hcm, hcell⟩ := ownsRow_shape hown
  clear hcell h2
  obtain ⟨wi, hwi, hwz, hws, hwb⟩ := wtInfo
  have hml : (s.waits t).length + 1 ≤ maxLen := by unfold maxLen; omega
  have hmb : ((s.waits t).length + 1) * 32 ≤ 140737488355328 := by omega
  have HVS : Hid (p.wv t = .slice ad (s.waits t).length cap) := hvs
  rw [hvs] at hv hown om ot ob
  clear hvs
  go_wp2_with fail
  refine (HI.out _).mono ?_
  rintro e3 w3 ⟨rfl, rfl⟩
  clear HI
  go_wp2_with fail
  go_region_held3 (fun w' => w'.cell? ⟨p.mb, 1, none⟩ = some (.slice (some ⟨p.tb, 0, none⟩) s.threads p.tcap) ∧ w'.cell? ⟨p.tb, t, none⟩ = some (.slice ad (s.waits t).length cap) ∧ w'.cell? ⟨w.heap.size, 0, none⟩ = some (.int .i64 c) ∧ w'.cell? ⟨w.heap.size, 1, none⟩ = some (.int .i64 g))
    (first
      | go_keep
      | (go_split_ands
         refine ⟨?_, ?_, ?_, ?_⟩
         · (rw [hgrow.cell_far _ (by simp; omega) (Ne.symm om)]; assumption)
         · (rw [hgrow.cell_far _ (by simp; omega) (Ne.symm ot)]; assumption)
         · (rw [hgrow.cell_far _ (by simp; omega) (Ne.symm ob)]; assumption)
         · (rw [hgrow.cell_far _ (by simp; omega) (Ne.symm ob)]; assumption)))
    ((refine step_append_at _ (by rfl) _ _ _ (by rfl) 0 175 wi _ 4 32 Tryz.underlying135 hwi hwz hws hwb rfl (by omega) (.slice ad (s.waits t).length cap) _ (wtCells (s.waits t)) (by rfl) ((hown.alloc _).drew)
        ⟨w3.heap.size, 0, none⟩ 1 1 [.int .i64 c, .int .i64 g, .int .i64 k, .int .i64 v] (by rfl) (by rfl) (World.news_of_block (cs := #[.int .i64 c, .int .i64 g, .int .i64 k, .int .i64 v]) (t := 175) (fr := (0, 0)) (heap_alloc_new w3 _)) (by simp [Value.oneCell'])
        hml hmb (by simp) ?_; intro gg gcap w6 hown6 hgrow hat))
  obtain ⟨j1, j2, -, -⟩ := ‹_ ∧ _ ∧ _ ∧ _›
  have hg : ∀ b, b < w3.heap.size → (Value.slice ad (s.waits t).length cap).ownBlock ≠ some b → w6.heap[b]? = w3.heap[b]? := fun b hb hne => by
    rw [hgrow.block b (by simp; omega) (Ne.symm hne)]
    exact Below.heap_alloc _ _ _ hb
  have hz : w3.heap.size ≤ w6.heap.size := Nat.le_trans (by simp) hgrow.size
  have hf6 : w6.frozen? ⟨p.tb, t, none⟩ = false := by rw [World.frozen?_of_block (hg p.tb lt ot)]; exact hft
  have HT := H2.out.setWaits (w1 := w6) ht (.slice gg ((s.waits t).length + 1) gcap) (s.waits t ++ [⟨c, g, k, v⟩]) (fun b hb hne => hg b hb (by rw [← HVS.out]; exact hne)) hz
    (by rw [wtCells_append, List.length_append]; exact hown6) (fun b hb => by
      rcases hat with e | e
      · left; rw [HVS.out, ← e]; exact hb
      · right; rw [e] at hb; simp at hb; omega)
  have HR : RmStep p s w (p.withRow t (.slice gg ((s.waits t).length + 1) gcap)) (s.setWaits t (s.waits t ++ [⟨c, g, k, v⟩])) (w6.setCell ⟨p.tb, t, none⟩ (.slice gg ((s.waits t).length + 1) gcap)) := by
    refine RmStep.of_below B2 ⟨rfl, rfl, HT, ?_, ?_⟩
    · refine Turns.trans (b := w6) ⟨hgrow.os, hgrow.tape, hgrow.output, hz, fun b hb ho => hg b hb (fun e => ho 0 (Or.inr (Or.inr (Or.inr (Or.inr ⟨t, ht, by rw [HVS.out]; exact e⟩))))), ?_, ?_⟩ ((Turns.refl _ _).setCell _ (Or.inr (Or.inr (Or.inl rfl))))
      · intro b o hb ho
        exact World.cell?_of_block (hg b hb (fun e => ho (Or.inr (Or.inr (Or.inr (Or.inr ⟨t, ht, by rw [HVS.out]; exact e⟩))))))
      · intro b o hb ho
        exact World.frozen?_of_block (hg b hb (fun e => ho (Or.inr (Or.inr (Or.inr (Or.inr ⟨t, ht, by rw [HVS.out]; exact e⟩))))))
    · intro b hb
      rcases RmPl.fp_row p s _ t _ b rfl rfl hb with e | e
      · exact Or.inl e
      · rcases hat with e2 | e2
        · exact Or.inl (Or.inr (Or.inr (Or.inr (Or.inr ⟨t, ht, by rw [HVS.out, ← e2]; exact e⟩))))
        · right; rw [e2] at e; simp at e; omega
  clear hat hgrow hown6 hown hg HT H2 HVS hwi hwz hws hwb q0 q1 hm1 hv
  go_wp2
  go_ret
  exact ⟨rfl, _, HR⟩
end Go.Proofs.YtdpmnlbnlnmjbaaGreatDoor

/- RefH -/
namespace Go.Proofs.YtdpmnlbnlnmjbaaGreatDoor
open Go.RowKit Go.Extern.Stop Go.Stop Go.Extern

def Rm.drained (s : Rm) (t : Nat) (x : Wt) (l : List Wt) : Rm :=
  if s.ar.has x.c x.g = true then (s.setWaits t l).setWord x.c.toNat x.w.toNat x.v else s.setWaits t l

theorem rdrain_none (p : RmPl) (s : Rm) (t : Nat) (w : World) (h : RmAt p s w) (ht : t < s.threads) (he : s.waits t = []) :
    Calls Tryz.prog 58 #[.pointer (some ⟨p.mb, 0, none⟩), .int .i64 t] w fun e w' => e = .returned (.int .i64 5) ∧ Below w.heap.size w w' := by
  have htc := h.tcap
  have ti : (t : Int) < s.threads := by omega
  have hm1 := h.mWaits
  obtain ⟨hv, hown⟩ := h.waits t ht
  obtain ⟨ad, cap, hvs, hcl, hcm, hcell⟩ := ownsRow_shape hown
  rw [hvs, he] at hv
  clear hcell hown hvs h he
  go_enter Tryz.func58, Tryz.ntmps58
  go_wp2
  go_ret
  exact ⟨rfl, Below.refl _ _⟩

theorem wtCells_cons (x : Wt) (l : List Wt) : wtCells (x :: l) = x.cells ++ wtCells l := rfl
theorem wtCells_one {l : List Wt} : ∀ u ∈ wtCells l, u.oneCell' = true := by
  induction l with
  | nil => intro u hu; cases hu
  | cons x l ih =>
    intro u hu
    rw [wtCells_cons, List.mem_append] at hu
    rcases hu with hu | hu
    · simp only [Wt.cells, List.mem_cons, List.not_mem_nil, or_false] at hu
      rcases hu with rfl | rfl | rfl | rfl <;> rfl
    · exact ih u hu

theorem drained_at {p : RmPl} {s : Rm} {w1 w6 : World} {t : Nat} {l : List Wt} (H1 : RmAt p s w1) (ht : t < s.threads) {gg : Option Addr} {gcap : Nat}
    (hown6 : w6.ownsRow 0 175 4 (Value.slice gg (0 + l.length) gcap) (0 + l.length) ([] ++ wtCells l)) (hgrow : w1.drew.grownBy w6 (Value.slice none 0 0).ownBlock)
    (hat : (Value.slice gg (0 + l.length) gcap).ownBlock = (Value.slice none 0 0).ownBlock ∨ (Value.slice gg (0 + l.length) gcap).ownBlock = some w1.drew.heap.size) :
    RmStep p s w1 (p.withRow t (.slice gg l.length gcap)) (s.setWaits t l) (w6.setCell ⟨p.tb, t, none⟩ (.slice gg l.length gcap)) ∧ ∀ b o u, w1.cell? ⟨b, o, none⟩ = some u → b ≠ p.tb → (w6.setCell ⟨p.tb, t, none⟩ (.slice gg l.length gcap)).cell? ⟨b, o, none⟩ = some u := by
  simp only [Nat.zero_add, List.nil_append] at hown6 hat
  have hg : ∀ b, b < w1.heap.size → w6.heap[b]? = w1.heap[b]? := fun b hb => hgrow.block b hb (by simp [Value.ownBlock])
  have hk : ∀ k, (Value.slice gg l.length gcap).ownBlock = some k → w1.heap.size ≤ k := fun k e => by
    rcases hat with e' | e'
    · rw [e'] at e; cases e
    · rw [e'] at e; simp at e; omega
  have hz : w1.heap.size ≤ w6.heap.size := hgrow.size
  have hb6 : Below w1.heap.size w1 w6 := ⟨hgrow.os, hgrow.tape, hgrow.output, hz, hg⟩
  refine ⟨⟨rfl, rfl, H1.setWaits ht _ _ (fun b hb _ => hg b hb) hz hown6 (fun k e => Or.inr (hk k e)), (Turns.of_below hb6).setCell _ (Or.inr (Or.inr (Or.inl rfl))), fun b hb => ?_⟩, fun b o u hu hne => cell_ne (keep_cell hb6 hu) (Or.inl hne)⟩
  rcases RmPl.fp_row p s _ t _ b rfl rfl hb with e | e
  · exact Or.inl e
  · exact Or.inr (hk b e)

set_option maxRecDepth 20000 in
set_option maxHeartbeats 4000000 in
theorem rdrain_walk (r : Int) (p : RmPl) (s : Rm) (t : Nat) (x : Wt) (l : List Wt) (w : World) (h : RmAt p s w) (ht : t < s.threads) (he : s.waits t = x :: l) (hx : 0 ≤ x.w ∧ x.w < 4) (hfew : l.length ≤ 1000) (HRR : Hid (r = if s.ar.has x.c x.g = true then 0 else 7)) :
    Calls Tryz.prog 58 #[.pointer (some ⟨p.mb, 0, none⟩), .int .i64 t] w fun e w' => e = .returned (.int .i64 r) ∧ ∃ p', RmStep p s w p' (s.drained t x l) w' := by
  have htc := h.tcap
  have ti : (t : Int) < s.threads := by omega
  have hm1 := h.mWaits
  obtain ⟨hv, hown⟩ := h.waits t ht
  obtain ⟨ad, cap, hvs, hcl, hcm, hcell⟩ := ownsRow_shape hown
  rw [he] at hcell hcl
  obtain ⟨gb, rfl, e0⟩ := hcell 0 (.int .i64 x.c) rfl
  have H0 : Hid (RmAt p s w) := h
  have om : (p.wv t).ownBlock ≠ some p.mb := fun e => (h.dv t _ ht e).1 rfl
  have ot : (p.wv t).ownBlock ≠ some p.tb := fun e => (h.dv t _ ht e).2.2.1 rfl
  have e1 : w.cell? ⟨gb, 1, none⟩ = some (.int .i64 x.g) := by
    obtain ⟨b, hb, h1⟩ := hcell 1 (.int .i64 x.g) rfl; cases hb; exact h1
  have e2 : w.cell? ⟨gb, 2, none⟩ = some (.int .i64 x.w) := by
    obtain ⟨b, hb, h1⟩ := hcell 2 (.int .i64 x.w) rfl; cases hb; exact h1
  have e3 : w.cell? ⟨gb, 3, none⟩ = some (.int .i64 x.v) := by
    obtain ⟨b, hb, h1⟩ := hcell 3 (.int .i64 x.v) rfl; cases hb; exact h1
  have HC : Hid (∀ j u, (wtCells l)[j]? = some u → w.cell? ⟨gb, 4 + j, none⟩ = some u) := fun j u hj => by
    obtain ⟨b, hb, h1⟩ := hcell (4 + j) u (by
      rw [wtCells_cons, List.getElem?_append_right (by show 4 ≤ 4 + j; omega)]
      show (wtCells l)[4 + j - 4]? = some u
      rw [show 4 + j - 4 = j by omega]; exact hj)
    cases hb; exact h1
  have lm := h.lm
  have lt := h.lt
  have lg : gb < w.heap.size := World.block_lt_of_cell? _ _ e0
  have HVS : Hid (p.wv t = .slice (some ⟨gb, 0, none⟩) (s.waits t).length cap) := hvs
  have hft := h.ft t
  rw [hvs, he] at hv
  clear hcell hown h hvs
  have hcl' : l.length + 1 ≤ cap := hcl
  rw [List.length_cons] at hv
  have y0 : (w.alloc (.cells #[.int .i64 x.c, .int .i64 x.g, .int .i64 x.w, .int .i64 x.v] 175)).cell? ⟨w.heap.size, 0, none⟩ = some (.int .i64 x.c) := by simp
  have y1 : (w.alloc (.cells #[.int .i64 x.c, .int .i64 x.g, .int .i64 x.w, .int .i64 x.v] 175)).cell? ⟨w.heap.size, 1, none⟩ = some (.int .i64 x.g) := by simp
  have y2 : (w.alloc (.cells #[.int .i64 x.c, .int .i64 x.g, .int .i64 x.w, .int .i64 x.v] 175)).cell? ⟨w.heap.size, 2, none⟩ = some (.int .i64 x.w) := by simp
  have y3 : (w.alloc (.cells #[.int .i64 x.c, .int .i64 x.g, .int .i64 x.w, .int .i64 x.v] 175)).cell? ⟨w.heap.size, 3, none⟩ = some (.int .i64 x.v) := by simp
  have bw : Below w.heap.size w (w.alloc (.cells #[.int .i64 x.c, .int .i64 x.g, .int .i64 x.w, .int .i64 x.v] 175)) := (Below.refl _ _).alloc (Nat.le_refl _) _
  have sw : (w.alloc (.cells #[.int .i64 x.c, .int .i64 x.g, .int .i64 x.w, .int .i64 x.v] 175)).heap.size = w.heap.size + 1 := by simp
  obtain ⟨wi, hwi, hwz, hws, hwb⟩ := wtInfo
  go_enter Tryz.func58, Tryz.ntmps58
  go_wp2_with fail
  generalize hw1 : w.alloc (.cells #[.int .i64 x.c, .int .i64 x.g, .int .i64 x.w, .int .i64 x.v] 175) = w1 at *
  replace hm1 := keep_cell bw hm1
  replace hv := keep_cell bw hv
  replace HC : Hid (∀ j u, (wtCells l)[j]? = some u → w1.cell? ⟨gb, 4 + j, none⟩ = some u) := fun j u hj => keep_cell bw (HC.out j u hj)
  replace hft : w1.frozen? ⟨p.tb, t, none⟩ = false := by rw [bw.frozen lt]; exact hft
  have H1 : Hid (RmAt p s w1) := H0.out.below bw
  rw [HVS.out] at om ot
  clear e0 e1 e2 e3 hw1
  have hml : 0 + l.length ≤ maxLen := by unfold maxLen; omega
  have hmb : (0 + l.length) * 32 ≤ 140737488355328 := by omega
  have lm1 : p.mb < w1.heap.size := by omega
  have lt1 : p.tb < w1.heap.size := by omega
  have ll1 : (1 : Int) ≤ (l.length : Int) + 1 := by omega
  obtain ⟨A, hA, HN⟩ : ∃ A : Addr, (if cap = 1 then some (⟨gb, 0, none⟩ : Addr) else some ⟨gb, 4, none⟩) = some A ∧ Hid (∀ j u, (wtCells l)[j]? = some u → w1.cell? (A.add j) = some u) := by
    by_cases hc : cap = 1
    · obtain rfl : l = [] := List.length_eq_zero_iff.1 (by omega)
      exact ⟨_, if_pos hc, fun j u hj => by cases hj⟩
    · refine ⟨_, if_neg hc, fun j u hj => ?_⟩
      rw [Addr.add_lit]
      exact HC.out j u hj
  go_region_law
    ((refine step_append_at _ (by rfl) _ _ _ (by rfl) 0 175 wi _ 4 32 Tryz.underlying135 hwi hwz hws hwb rfl (by omega) (.slice none 0 0) 0 [] (by rfl) (World.ownsRow_nil _ _ _ _)
        A l.length (cap - 1) (wtCells l) (by rfl) (wtCells_length l) (fun j u hj => HN.out j u hj) wtCells_one
        hml hmb (Nat.zero_le _) ?_; intro gg gcap w6 hown6 hgrow hat
      have hm6 : w6.cell? ⟨p.mb, 1, none⟩ = some (.slice (some ⟨p.tb, 0, none⟩) s.threads p.tcap) := (hgrow.cell_far ⟨p.mb, 1, none⟩ (by simp; omega) (by simp [Value.ownBlock])).trans hm1
      have hv6 : w6.cell? ⟨p.tb, t, none⟩ = some (.slice (some ⟨gb, 0, none⟩) (l.length + 1) cap) := (hgrow.cell_far ⟨p.tb, t, none⟩ (by simp; omega) (by simp [Value.ownBlock])).trans hv
      have hf6 : w6.frozen? ⟨p.tb, t, none⟩ = false := (hgrow.frozen_far ⟨p.tb, t, none⟩ (by simp; omega) (by simp [Value.ownBlock])).trans hft))
  all_goals
    obtain ⟨HR, HK⟩ := drained_at H1.out ht hown6 hgrow hat
    replace y0 := HK _ _ _ y0 (by omega)
    replace y1 := HK _ _ _ y1 (by omega)
    replace y2 := HK _ _ _ y2 (by omega)
    replace y3 := HK _ _ _ y3 (by omega)
    have lx : w.heap.size < (w6.setCell ⟨p.tb, t, none⟩ (.slice gg l.length gcap)).heap.size := World.block_lt_of_cell? _ _ y0
    clear HK hat hgrow hown6 hm6 hv6 hf6 hm1 hv hft HC HN hwi hwz hws hwb H1
    generalize (w6.setCell ⟨p.tb, t, none⟩ (.slice gg l.length gcap)) = w7 at *
    have PW : (p.withRow t (.slice gg l.length gcap)).wb = p.wb := rfl
    generalize hP : p.withRow t (.slice gg l.length gcap) = P at *
    have HH : Hid (Calls Tryz.prog 88 #[.pointer (some ⟨P.mb, 0, none⟩), .agg #[.int .i64 x.c, .int .i64 x.g]] w7 fun e w' => e = .returned (.bool (s.ar.has x.c x.g)) ∧ Below w7.heap.size w7 w') := here_any P (s.setWaits t l) x.c x.g w7 HR.at'
    rw [HR.mb] at HH
    have HS : Hid (RmStep p s w P (s.setWaits t l) w7) := RmStep.of_below bw HR
    clear HR hP
    go_wp2_with fail
  all_goals
    cases hh : s.ar.has x.c x.g
    · rw [hh] at HH HRR
      have HE : Hid (s.drained t x l = s.setWaits t l) := by show _ = _; rw [Rm.drained, if_neg (by rw [hh]; decide)]
      have HR7 : Hid (r = 7) := HRR.out
      clear hh HRR
      refine HH.out.mono ?_
      rintro e8 w8 ⟨rfl, hb8⟩
      have HS8 := HS.out.below hb8
      clear HH HS hb8 y0 y1 y2 y3
      go_wp2
      go_ret
      exact ⟨by rw [HR7.out]; rfl, P, by rw [HE.out]; exact HS8⟩
    · rw [hh] at HH HRR
      have HR0 : Hid (r = 0) := HRR.out
      obtain ⟨n, xn, hn, -⟩ := Ar.has_lt hh
      obtain ⟨m, xm⟩ := Int.eq_ofNat_of_zero_le hx.1
      have hm : m < 4 := by omega
      have HE : Hid (s.drained t x l = (s.setWaits t l).setWord n m x.v) := by
        show _ = _
        rw [Rm.drained, if_pos hh, xn, xm]; rfl
      clear hh HRR
      refine HH.out.mono ?_
      rintro e8 w8 ⟨rfl, hb8⟩
      replace y0 := keep_cell hb8 y0
      replace y2 := keep_cell hb8 y2
      replace y3 := keep_cell hb8 y3
      have HS8 : Hid (RmStep p s w P (s.setWaits t l) w8) := HS.out.below hb8
      have lx8 : w.heap.size < w8.heap.size := World.block_lt_of_cell? _ _ y0
      clear HH HS hb8 y1
      have A8 := HS8.out.at'
      have hn' : n < (s.setWaits t l).ar.size := hn
      have u0 := A8.mCells
      have u1 := A8.cWords n hn'
      have u2 := A8.words n m hn' hm
      have u3 := A8.fw n m hn'
      have u4 := A8.wcap n hn'
      have u5 := A8.ccap
      have u6 := A8.dw n hn'
      rw [HS8.out.mb] at u0 u6
      rw [xn] at y0
      rw [xm] at y2
      have c1 : (0 : Int) ≤ (n : Int) := by omega
      have c2 : (n : Int) < (s.setWaits t l).ar.size := by omega
      have c3 : (0 : Int) ≤ (m : Int) := by omega
      have c4 : (m : Int) < 4 := by omega
      have nx : w.heap.size ≠ P.wb n := fun e => by
        have := H0.out.lw hn
        rw [PW] at e
        omega
      have n1 : p.mb ≠ P.wb n := Ne.symm u6.1
      have n2 : P.cb ≠ P.wb n := Ne.symm u6.2.1
      have lw8 := A8.lw hn'
      have u7 : (w8.cell? ⟨P.wb n, m, none⟩).isSome = true := by rw [u2]; rfl
      have HZ : Hid (RmStep p s w P ((s.setWaits t l).setWord n m x.v) ((w8.setCell ⟨p.wb n, m, none⟩ (.int .i64 x.v)).drew)) :=
        ⟨HS8.out.mb, HS8.out.tb, by rw [← PW]; exact (A8.setWord n m hn' hm x.v).below (Below.refl _ _).drew, (HS8.out.turns.setCell _ (Or.inr (Or.inr (Or.inr (Or.inl ⟨n, hn, rfl⟩))))).drew, HS8.out.fp⟩
      rw [PW] at u1 u2 u3 u7 lw8 n1 n2 nx
      clear A8 hn' u6 HVS om ot PW
      go_wp2_with fail
      go_region_held3 (fun w' => w'.cell? ⟨p.mb, 0, none⟩ = some (.slice (some ⟨P.cb, 0, none⟩) (s.setWaits t l).ar.size P.ccap) ∧ w'.cell? ⟨P.cb, n * 3, none⟩ = some (.slice (some ⟨p.wb n, 0, none⟩) 4 (P.wcap n)) ∧ w'.cell? ⟨w.heap.size, 0, none⟩ = some (.int .i64 n) ∧ w'.cell? ⟨w.heap.size, 2, none⟩ = some (.int .i64 m) ∧ w'.cell? ⟨w.heap.size, 3, none⟩ = some (.int .i64 x.v))
        (first
          | exact ⟨u0, u1, y0, y2, y3⟩
          | (go_split_ands
             refine ⟨cell_ne (by assumption) (Or.inl n1), cell_ne (by assumption) (Or.inl n2), cell_ne (by assumption) (Or.inl nx), cell_ne (by assumption) (Or.inl nx), cell_ne (by assumption) (Or.inl nx)⟩))
        (fail)
      clear u0 u1 u2 u3 u7 y0 y2 y3
      go_wp2
      go_ret
      exact ⟨by rw [HR0.out]; rfl, P, by rw [HE.out]; exact HZ.out⟩

theorem rdrain_gone (p : RmPl) (s : Rm) (t : Nat) (x : Wt) (l : List Wt) (w : World) (h : RmAt p s w) (ht : t < s.threads) (he : s.waits t = x :: l) (hx : 0 ≤ x.w ∧ x.w < 4) (hfew : l.length ≤ 1000) (hh : s.ar.has x.c x.g = false) :
    Calls Tryz.prog 58 #[.pointer (some ⟨p.mb, 0, none⟩), .int .i64 t] w fun e w' => e = .returned (.int .i64 7) ∧ ∃ p', RmStep p s w p' (s.drained t x l) w' :=
  rdrain_walk 7 p s t x l w h ht he hx hfew (by show _ = _; rw [hh]; rfl)

theorem rdrain_done (p : RmPl) (s : Rm) (t : Nat) (x : Wt) (l : List Wt) (w : World) (h : RmAt p s w) (ht : t < s.threads) (he : s.waits t = x :: l) (hx : 0 ≤ x.w ∧ x.w < 4) (hfew : l.length ≤ 1000) (hh : s.ar.has x.c x.g = true) :
    Calls Tryz.prog 58 #[.pointer (some ⟨p.mb, 0, none⟩), .int .i64 t] w fun e w' => e = .returned (.int .i64 0) ∧ ∃ p', RmStep p s w p' (s.drained t x l) w' :=
  rdrain_walk 0 p s t x l w h ht he hx hfew (by show _ = _; rw [hh]; rfl)
end Go.Proofs.YtdpmnlbnlnmjbaaGreatDoor

/- RefI -/
namespace Go.Proofs.YtdpmnlbnlnmjbaaGreatDoor
open Go.RowKit Go.Extern.Stop Go.Stop Go.Extern

def Rm.drainAll (s : Rm) (t : Nat) : List Wt → Rm
  | [] => s
  | x :: l => (s.drained t x l).drainAll t l

def Rm.gone (s : Rm) (t : Nat) : List Wt → Nat
  | [] => 0
  | x :: l => (if s.ar.has x.c x.g = true then 0 else 1) + (s.drained t x l).gone t l

theorem Rm.drained_waits (s : Rm) (t : Nat) (x : Wt) (l : List Wt) : (s.drained t x l).waits t = l := by
  unfold Rm.drained
  split
  · simp [Rm.setWord, Rm.setWaits]
  · simp [Rm.setWaits]

theorem Rm.drained_threads (s : Rm) (t : Nat) (x : Wt) (l : List Wt) : (s.drained t x l).threads = s.threads := by
  unfold Rm.drained
  split <;> rfl

theorem Rm.gone_le (l : List Wt) (t : Nat) : ∀ s : Rm, s.gone t l ≤ l.length := by
  induction l with
  | nil => intro s; exact Nat.zero_le _
  | cons x l ih =>
    intro s
    have := ih (s.drained t x l)
    rw [Rm.gone, List.length_cons]
    split <;> omega

def waitLen (tb t : Nat) (w : World) : Nat := match w.cell? ⟨tb, t, none⟩ with
  | some (.slice _ n _) => n
  | _ => 0

theorem RmAt.waitLen {p : RmPl} {s : Rm} {w : World} (h : RmAt p s w) {t : Nat} (ht : t < s.threads) : waitLen p.tb t w = (s.waits t).length := by
  obtain ⟨hv, hown⟩ := h.waits t ht
  obtain ⟨ad, cap, hvs, -⟩ := ownsRow_shape hown
  unfold Go.Proofs.YtdpmnlbnlnmjbaaGreatDoor.waitLen
  rw [hv, hvs]

set_option maxHeartbeats 2000000 in
theorem rfence_any (p : RmPl) (s : Rm) (t : Nat) (w : World) (h : RmAt p s w) (ht : t < s.threads) (hx : ∀ x ∈ s.waits t, 0 ≤ x.w ∧ x.w < 4) (hfew : (s.waits t).length ≤ 1000) :
    Calls Tryz.prog 90 #[.pointer (some ⟨p.mb, 0, none⟩), .int .i64 t] w fun e w' => e = .returned (.int .i64 (s.gone t (s.waits t))) ∧ ∃ p', RmStep p s w p' (s.drainAll t (s.waits t)) w' := by
  have hgl := Rm.gone_le (s.waits t) t s
  generalize hG : s.gone t (s.waits t) = G at *
  generalize hD : s.drainAll t (s.waits t) = D at *
  have H0 : Hid (RmStep p s w p s w) := RmStep.refl h
  have HI : Hid (∃ p1 s1, s1.threads = s.threads ∧ (s1.waits t).length ≤ 1000 ∧ (∀ x ∈ s1.waits t, 0 ≤ x.w ∧ x.w < 4) ∧ 0 + s1.gone t (s1.waits t) = G ∧ s1.drainAll t (s1.waits t) = D ∧ RmStep p s w p1 s1 w) := ⟨p, s, rfl, hfew, hx, by omega, hD, RmStep.refl h⟩
  clear h hx hG hD
  go_enter Tryz.func90, Tryz.ntmps90
  go_wp2_with fail
  go_loopw [5, 6] (fun n _ wr => ∃ k : Nat, n = .int .i64 k ∧ ∃ p1 s1, s1.threads = s.threads ∧ (s1.waits t).length ≤ 1000 ∧ (∀ x ∈ s1.waits t, 0 ≤ x.w ∧ x.w < 4) ∧ k + s1.gone t (s1.waits t) = G ∧ s1.drainAll t (s1.waits t) = D ∧ RmStep p s w p1 s1 wr) (fun _ _ wr => waitLen p.tb t wr)
  case atStart => exact ⟨0, rfl, HI.out⟩
  case round =>
    obtain ⟨k, rfl, p1, s1, h1, h2, h3, h4, h5, h6⟩ := hrel
    have H6 : Hid (RmStep p s w p1 s1 wr) := h6
    have hk : k ≤ 1000 := by omega
    have A6 := h6.at'
    have htc := A6.tcap
    have t1 : t < s1.threads := by omega
    have ti : (t : Int) < s1.threads := by omega
    have hm1 := A6.mWaits
    have hwl := A6.waitLen t1
    rw [h6.tb] at hwl
    obtain ⟨hv, hown⟩ := A6.waits t t1
    obtain ⟨ad, cap, hvs, hcl, hcm, hcell⟩ := ownsRow_shape hown
    rw [hvs] at hv
    rw [h6.mb] at hm1
    have HA : Hid (RmAt p1 s1 wr) := A6
    clear A6 hown hcell hvs h6
    cases hl : s1.waits t with
    | nil =>
      rw [hl] at hv h4 h5
      rw [List.length_nil] at hv
      have HG : Hid (k = G) := h4
      have HD : Hid (s1 = D) := h5
      clear h4 h5 h3 HI H0 HA
      go_wp2
      go_ret
      exact ⟨by rw [HG.out]; rfl, p1, by rw [← HD.out]; exact H6.out⟩
    | cons x l =>
      rw [hl] at hv h2 h3 h4 h5 hwl
      have hx := h3 x (List.mem_cons_self ..)
      have hll : l.length ≤ 1000 := by rw [List.length_cons] at h2; omega
      have l0 : (0 : Int) < (l.length : Int) + 1 := by omega
      rw [List.length_cons] at hv
      have HN : Hid (∀ p2 w2 (j : Nat), (j : Int) = k + (if s1.ar.has x.c x.g = true then 0 else 1) → RmStep p1 s1 wr p2 (s1.drained t x l) w2 → (∃ k' : Nat, (Value.int .i64 j) = .int .i64 k' ∧ ∃ p1 s1, s1.threads = s.threads ∧ (s1.waits t).length ≤ 1000 ∧ (∀ x ∈ s1.waits t, 0 ≤ x.w ∧ x.w < 4) ∧ k' + s1.gone t (s1.waits t) = G ∧ s1.drainAll t (s1.waits t) = D ∧ RmStep p s w p1 s1 w2) ∧ waitLen p.tb t w2 < waitLen p.tb t wr) := by
        intro p2 w2 j hj hst
        refine ⟨⟨j, rfl, p2, s1.drained t x l, ?_, ?_, ?_, ?_, ?_, H6.out.trans hst⟩, ?_⟩
        · rw [Rm.drained_threads]; exact h1
        · rw [Rm.drained_waits]; exact hll
        · rw [Rm.drained_waits]; exact fun y hy => h3 y (List.mem_cons_of_mem _ hy)
        · rw [Rm.drained_waits]
          rw [Rm.gone] at h4
          split at h4 <;> rename_i hh <;> simp only [hh, if_true] at hj <;> simp at hj <;> omega
        · rw [Rm.drained_waits]; exact h5
        · rw [hwl, ← H6.out.tb, ← hst.tb, hst.at'.waitLen (by rw [Rm.drained_threads]; exact t1), Rm.drained_waits, List.length_cons]
          omega
      cases hh : s1.ar.has x.c x.g
      · have HC : Hid (Calls Tryz.prog 58 #[.pointer (some ⟨p.mb, 0, none⟩), .int .i64 t] wr fun e w' => e = .returned (.int .i64 7) ∧ ∃ p', RmStep p1 s1 wr p' (s1.drained t x l) w') := by
          have := rdrain_gone p1 s1 t x l wr HA.out t1 hl hx hll hh
          rw [H6.out.mb] at this
          exact this
        rw [hh] at HN
        clear hh HA H6 H0 HI h3 h4 h5 hwl hl
        go_wp2_with fail
        refine HC.out.mono ?_
        rintro e2 w2 ⟨rfl, p2, hst⟩
        have HF := HN.out p2 w2 (k + 1) (by simp) hst
        clear HN HC hst hm1 hv
        go_wp2
        go_roundw
        case rel =>
          obtain ⟨k', e1, e2⟩ := HF.1
          clear HF
          have e3 : ((k + 1 : Nat) : Int) = k' := by injection e1
          exact ⟨k', by go_num, e2⟩
        case measure => exact HF.2
      · have HC : Hid (Calls Tryz.prog 58 #[.pointer (some ⟨p.mb, 0, none⟩), .int .i64 t] wr fun e w' => e = .returned (.int .i64 0) ∧ ∃ p', RmStep p1 s1 wr p' (s1.drained t x l) w') := by
          have := rdrain_done p1 s1 t x l wr HA.out t1 hl hx hll hh
          rw [H6.out.mb] at this
          exact this
        rw [hh] at HN
        clear hh HA H6 H0 HI h3 h4 h5 hwl hl
        go_wp2_with fail
        refine HC.out.mono ?_
        rintro e2 w2 ⟨rfl, p2, hst⟩
        have HF := HN.out p2 w2 k (by simp) hst
        clear HN HC hst hm1 hv
        go_wp2
        go_roundw
        case rel => exact HF.1
        case measure => exact HF.2
end Go.Proofs.YtdpmnlbnlnmjbaaGreatDoor
