import Derived.Test.YtnnlkolhahjokaaGreatDoorB06
import Derived.Laws.IdiomCopy
import Derived.Deep.RegionHeld3
import Derived.Deep.RegionLaw

/- RefJ -/
namespace Go.Proofs.YtnnlkolhahjokaaGreatDoor
open Go.RowKit Go.Extern.Stop Go.Stop Go.Extern

theorem Rm.drained_ar (s : Rm) (t : Nat) (x : Wt) (l : List Wt) : (s.drained t x l).ar.size = s.ar.size ∧ (s.drained t x l).ar.there = s.ar.there ∧ (s.drained t x l).ar.given = s.ar.given := by
  unfold Rm.drained
  split <;> exact ⟨rfl, rfl, rfl⟩

theorem Rm.drainAll_ar (l : List Wt) (t : Nat) : ∀ s : Rm, (s.drainAll t l).ar.size = s.ar.size ∧ (s.drainAll t l).ar.there = s.ar.there ∧ (s.drainAll t l).ar.given = s.ar.given ∧ (s.drainAll t l).threads = s.threads := by
  induction l with
  | nil => intro s; exact ⟨rfl, rfl, rfl, rfl⟩
  | cons x l ih =>
    intro s
    obtain ⟨h1, h2, h3, h4⟩ := ih (s.drained t x l)
    obtain ⟨k1, k2, k3⟩ := s.drained_ar t x l
    exact ⟨h1.trans k1, h2.trans k2, h3.trans k3, h4.trans (s.drained_threads t x l)⟩

theorem Rm.drainAll_has (l : List Wt) (t : Nat) (s : Rm) (c g : Int) : (s.drainAll t l).ar.has c g = s.ar.has c g := by
  obtain ⟨h1, h2, h3, -⟩ := s.drainAll_ar l t
  simp only [Ar.has, h1, h2, h3]

theorem Rm.drainAll_waits (l : List Wt) (t : Nat) : ∀ s : Rm, s.waits t = l → (s.drainAll t l).waits t = [] := by
  induction l with
  | nil => intro s h; exact h
  | cons x l ih => intro s _; exact ih (s.drained t x l) (s.drained_waits t x l)

theorem Rm.drained_waits_ne (s : Rm) (t u : Nat) (x : Wt) (l : List Wt) (h : u ≠ t) : (s.drained t x l).waits u = s.waits u := by
  unfold Rm.drained
  split <;> simp [Rm.setWord, Rm.setWaits, h]

theorem Rm.drainAll_waits_ne (l : List Wt) (t u : Nat) (h : u ≠ t) : ∀ s : Rm, (s.drainAll t l).waits u = s.waits u := by
  induction l with
  | nil => intro s; rfl
  | cons x l ih => intro s; rw [Rm.drainAll, ih, Rm.drained_waits_ne _ _ _ _ _ h]
end Go.Proofs.YtnnlkolhahjokaaGreatDoor

/- MemA -/
namespace Go.Proofs.YtnnlkolhahjokaaGreatDoor
open Go.RowKit Go.Extern.Stop Go.Stop Go.Extern

def Wt.nth (x : Wt) : Nat → Int
  | 0 => x.c
  | 1 => x.g
  | 2 => x.w
  | _ => x.v
def lnCell (l : List Wt) (i k : Nat) : Int := match l[i]? with
  | some x => x.nth k
  | none => 0

structure LnAt (b o : Nat) (l : List Wt) (w : World) : Prop where
  le : l.length ≤ 8
  len : w.cell? ⟨b, o + 32, none⟩ = some (.int .i64 l.length)
  row : ∀ i k, i < 8 → k < 4 → w.cell? ⟨b, o + i * 4 + k, none⟩ = some (.int .i64 (lnCell l i k))
  frozen : ∀ k, k < 33 → w.frozen? ⟨b, o + k, none⟩ = false

def lnPl (b o : Nat) : Nat → Nat → Prop := fun k p => k = b ∧ o ≤ p ∧ p < o + 33

theorem LnAt.lt {b o : Nat} {l : List Wt} {w : World} (h : LnAt b o l w) : b < w.heap.size := World.block_lt_of_cell? _ _ h.len
theorem LnAt.turns {S : Nat → Nat → Prop} {b o : Nat} {l : List Wt} {w w' : World} (h : LnAt b o l w) (t : Turns S w w') (hS : ∀ k, k < 33 → ¬ S b (o + k)) : LnAt b o l w' where
  le := h.le
  len := t.keep h.len (hS 32 (by decide))
  row i k hi hk := t.keep (h.row i k hi hk) (by have := hS (i * 4 + k) (by omega); simpa [Nat.add_assoc] using this)
  frozen k hk := by rw [t.frozen b (o + k) h.lt (hS k hk)]; exact h.frozen k hk
theorem LnAt.below {b o : Nat} {l : List Wt} {w w' : World} (h : LnAt b o l w) (hb : Below w.heap.size w w') : LnAt b o l w' :=
  h.turns (Turns.of_below (S := fun _ _ => False) hb) (fun _ _ h => h)
theorem LnAt.alloc {b o : Nat} {l : List Wt} {w : World} (h : LnAt b o l w) (ob : Obj) : LnAt b o l (w.alloc ob) := h.below ((Below.refl _ _).alloc (Nat.le_refl _) _)
theorem LnAt.drewN {b o : Nat} {l : List Wt} {w : World} (h : LnAt b o l w) (n : Nat) : LnAt b o l (w.drewN n) := h.below (Below.drewN' n)

theorem LnAt.drew {b o : Nat} {l : List Wt} {w : World} (h : LnAt b o l w) : LnAt b o l w.drew := h.below (Below.refl _ _).drew

theorem full_any (b o : Nat) (l : List Wt) (w : World) (h : LnAt b o l w) :
    Calls Tryz.prog 104 #[.pointer (some ⟨b, o, none⟩)] w fun e w' => e = .returned (.bool (decide (8 ≤ l.length))) ∧ w' = w := by
  have hn := h.len
  have hle := h.le
  clear h
  by_cases h8 : 8 ≤ l.length
  · have e8 : l.length = 8 := by omega
    rw [decide_eq_true h8]
    rw [e8] at hn
    go_enter Tryz.func104, Tryz.ntmps104
    go_wp2
    go_ret
    exact ⟨rfl, rfl⟩
  · have e8 : ((l.length : Int) == 8) = false := beq_eq_false_iff_ne.2 (by omega)
    rw [decide_eq_false h8]
    go_enter Tryz.func104, Tryz.ntmps104
    go_wp2
    go_ret
    exact ⟨rfl, rfl⟩

theorem LnAt.other {b o : Nat} {l : List Wt} {w : World} (_ : LnAt b o l w) {p : Nat} {v : Value} {k : Nat} {u : Value} (hc : w.cell? ⟨b, k, none⟩ = some u) (hk : k ≠ p) : (w.setCell ⟨b, p, none⟩ v).cell? ⟨b, k, none⟩ = some u := cell_ne hc (Or.inr hk)

theorem lnCell_append (l : List Wt) (x : Wt) (i k : Nat) : lnCell (l ++ [x]) i k = if i = l.length then x.nth k else lnCell l i k := by
  unfold lnCell
  by_cases h : i < l.length
  · rw [List.getElem?_append_left h, if_neg (by omega)]
  · rw [List.getElem?_append_right (by omega)]
    by_cases e : i = l.length
    · rw [if_pos e, show i - l.length = 0 by omega]; rfl
    · rw [if_neg e, List.getElem?_eq_none (by simp; omega), List.getElem?_eq_none (by omega)]

def lnSet (w : World) (b p : Nat) (x0 x1 x2 x3 : Value) : World := (((w.setCell ⟨b, p, none⟩ x0).setCell ⟨b, p + 1, none⟩ x1).setCell ⟨b, p + 2, none⟩ x2).setCell ⟨b, p + 3, none⟩ x3

theorem lnSet_other {w : World} {b p k : Nat} {x0 x1 x2 x3 u : Value} (hc : w.cell? ⟨b, k, none⟩ = some u) (hk : k < p ∨ p + 4 ≤ k) : (lnSet w b p x0 x1 x2 x3).cell? ⟨b, k, none⟩ = some u :=
  cell_ne (cell_ne (cell_ne (cell_ne hc (Or.inr (by omega))) (Or.inr (by omega))) (Or.inr (by omega))) (Or.inr (by omega))

theorem lnSet_same {w : World} {b p : Nat} {x0 x1 x2 x3 : Value} (hc : ∀ k, k < 4 → ∃ u, w.cell? ⟨b, p + k, none⟩ = some u) : (lnSet w b p x0 x1 x2 x3).cell? ⟨b, p, none⟩ = some x0 ∧ (lnSet w b p x0 x1 x2 x3).cell? ⟨b, p + 1, none⟩ = some x1 ∧ (lnSet w b p x0 x1 x2 x3).cell? ⟨b, p + 2, none⟩ = some x2 ∧ (lnSet w b p x0 x1 x2 x3).cell? ⟨b, p + 3, none⟩ = some x3 := by
  obtain ⟨u0, h0⟩ := hc 0 (by decide)
  obtain ⟨u1, h1⟩ := hc 1 (by decide)
  obtain ⟨u2, h2⟩ := hc 2 (by decide)
  obtain ⟨u3, h3⟩ := hc 3 (by decide)
  refine ⟨cell_ne (cell_ne (cell_ne (World.cell?_setCell_same _ _ _ h0) (Or.inr (by omega))) (Or.inr (by omega))) (Or.inr (by omega)),
    cell_ne (cell_ne (World.cell?_setCell_same _ _ _ (cell_ne h1 (Or.inr (by omega)))) (Or.inr (by omega))) (Or.inr (by omega)),
    cell_ne (World.cell?_setCell_same _ _ _ (cell_ne (cell_ne h2 (Or.inr (by omega))) (Or.inr (by omega)))) (Or.inr (by omega)),
    World.cell?_setCell_same _ _ _ (cell_ne (cell_ne (cell_ne h3 (Or.inr (by omega))) (Or.inr (by omega))) (Or.inr (by omega)))⟩

theorem LnAt.put {b o : Nat} {l : List Wt} {w : World} (h : LnAt b o l w) (x : Wt) (h8 : l.length < 8) :
    LnAt b o (l ++ [x]) ((lnSet w b (o + l.length * 4) (.int .i64 x.c) (.int .i64 x.g) (.int .i64 x.w) (.int .i64 x.v)).setCell ⟨b, o + 32, none⟩ (.int .i64 (l.length + 1))) where
  le := by simp; omega
  len := by
    rw [World.cell?_setCell_same _ _ _ (lnSet_other h.len (by omega))]; simp
  row i k hi hk := by
    refine cell_ne ?_ (Or.inr (by omega))
    rw [lnCell_append]
    by_cases e : i = l.length
    · rw [if_pos e]
      obtain ⟨e0, e1, e2, e3⟩ := lnSet_same (w := w) (b := b) (p := o + l.length * 4) (x0 := .int .i64 x.c) (x1 := .int .i64 x.g) (x2 := .int .i64 x.w) (x3 := .int .i64 x.v) (fun k hk => ⟨_, h.row l.length k h8 hk⟩)
      subst e
      match k, hk with
      | 0, _ => exact e0
      | 1, _ => exact e1
      | 2, _ => exact e2
      | 3, _ => exact e3
    · rw [if_neg e]
      exact lnSet_other (h.row i k hi hk) (by omega)
  frozen k hk := by
    simp only [lnSet, World.frozen?_setCell]; exact h.frozen k hk

set_option maxRecDepth 20000 in
set_option maxHeartbeats 1000000 in
theorem add_any (b o : Nat) (l : List Wt) (x : Wt) (w : World) (h : LnAt b o l w) (h8 : l.length < 8) :
    Calls Tryz.prog 105 #[.pointer (some ⟨b, o, none⟩), .agg #[.int .i64 x.c, .int .i64 x.g, .int .i64 x.w, .int .i64 x.v]] w fun e w' => e = .returned (.tuple #[]) ∧ LnAt b o (l ++ [x]) w' ∧ Turns (lnPl b o) w w' := by
  have h1 := h.alloc (.cells #[.int .i64 x.c, .int .i64 x.g, .int .i64 x.w, .int .i64 x.v] 67)
  have hba : Below w.heap.size w (w.alloc (.cells #[.int .i64 x.c, .int .i64 x.g, .int .i64 x.w, .int .i64 x.v] 67)) := (Below.refl _ _).alloc (Nat.le_refl _) _
  have q0 : (w.alloc (.cells #[.int .i64 x.c, .int .i64 x.g, .int .i64 x.w, .int .i64 x.v] 67)).cell? ⟨w.heap.size, 0, none⟩ = some (.int .i64 x.c) := by simp
  have q1 : (w.alloc (.cells #[.int .i64 x.c, .int .i64 x.g, .int .i64 x.w, .int .i64 x.v] 67)).cell? ⟨w.heap.size, 1, none⟩ = some (.int .i64 x.g) := by simp
  have q2 : (w.alloc (.cells #[.int .i64 x.c, .int .i64 x.g, .int .i64 x.w, .int .i64 x.v] 67)).cell? ⟨w.heap.size, 2, none⟩ = some (.int .i64 x.w) := by simp
  have q3 : (w.alloc (.cells #[.int .i64 x.c, .int .i64 x.g, .int .i64 x.w, .int .i64 x.v] 67)).cell? ⟨w.heap.size, 3, none⟩ = some (.int .i64 x.v) := by simp
  have HL : Hid (LnAt b o (l ++ [x]) ((lnSet (w.alloc (.cells #[.int .i64 x.c, .int .i64 x.g, .int .i64 x.w, .int .i64 x.v] 67)) b (o + l.length * 4) (.int .i64 x.c) (.int .i64 x.g) (.int .i64 x.w) (.int .i64 x.v)).setCell ⟨b, o + 32, none⟩ (.int .i64 (l.length + 1)))) := h1.put x h8
  generalize hw : w.alloc (.cells #[.int .i64 x.c, .int .i64 x.g, .int .i64 x.w, .int .i64 x.v] 67) = w1 at *
  have hl := h1.lt
  have hn := h1.len
  have i8 : (l.length : Int) < 8 := by omega
  have r0 : w1.cell? ⟨b, o + l.length * 4, none⟩ = some (.int .i64 (lnCell l l.length 0)) := h1.row l.length 0 h8 (by decide)
  have r1 := h1.row l.length 1 h8 (by decide)
  have r2 := h1.row l.length 2 h8 (by decide)
  have r3 := h1.row l.length 3 h8 (by decide)
  have f0 : w1.frozen? ⟨b, o + l.length * 4, none⟩ = false := h1.frozen (l.length * 4) (by omega)
  have f1 : w1.frozen? ⟨b, o + l.length * 4 + 1, none⟩ = false := by have := h1.frozen (l.length * 4 + 1) (by omega); simpa [Nat.add_assoc] using this
  have f2 : w1.frozen? ⟨b, o + l.length * 4 + 2, none⟩ = false := by have := h1.frozen (l.length * 4 + 2) (by omega); simpa [Nat.add_assoc] using this
  have f3 : w1.frozen? ⟨b, o + l.length * 4 + 3, none⟩ = false := by have := h1.frozen (l.length * 4 + 3) (by omega); simpa [Nat.add_assoc] using this
  have fn : w1.frozen? ⟨b, o + 32, none⟩ = false := h1.frozen 32 (by decide)
  clear h h1
  go_enter Tryz.func105, Tryz.ntmps105
  go_wp2
  go_region
  go_wp2
  go_end0
  have hp : ∀ k, k < 4 → lnPl b o b (o + l.length * 4 + k) := fun k hk => ⟨rfl, by omega, by omega⟩
  exact ⟨rfl, HL.out.drew, ((((((Turns.of_below hba).setCell _ (hp 0 (by decide))).setCell _ (hp 1 (by decide))).setCell _ (hp 2 (by decide))).setCell _ (hp 3 (by decide))).setCell _ ⟨rfl, by omega, by omega⟩).drew⟩
end Go.Proofs.YtnnlkolhahjokaaGreatDoor

/- MemB -/
namespace Go.Proofs.YtnnlkolhahjokaaGreatDoor
open Go.RowKit Go.Extern.Stop Go.Stop Go.Extern

theorem run_copy_four {P : Program} (w : World) (dT sT ty elem : TypeId) (b o dLen dCap : Nat) (a : Addr) (sLen sCap n : Nat) (cs : List Value)
    (hu : P.underlying dT = some (.slice elem)) (hs : (P.info? elem).map (·.size) = some 4) (hm : Nat.min sLen dLen = n) (hn : cs.length = n * 4)
    (hsrc : ∀ j v, cs[j]? = some v → w.cell? (a.add j) = some v) (hc : ∀ j, j < cs.length → (w.cell? ⟨b, o + j, none⟩).isSome = true) (hf : ∀ j, j < cs.length → w.frozen? ⟨b, o + j, none⟩ = false) (h1 : ∀ v ∈ cs, v.oneCell' = true) :
    (Builtin.copy_ #[dT, sT] ty #[.slice (some ⟨b, o, none⟩) dLen dCap, .slice (some a) sLen sCap]).run P w = .ok (goInt n) (w.setCells b o cs) := by
  have hl := run_loadCells_list (P := P) w a cs hsrc
  have hst := run_storeCells_cells (P := P) b o cs 0 w (by simpa using hc) (by simpa using hf) h1
  rw [hn] at hl
  cases hq : P.info? elem with
  | none => simp [hq] at hs
  | some i =>
    have hi : i.size = 4 := by simpa [hq] using hs
    simp [Builtin.copy_, run_underlying hu, Builtin.lenOf, Builtin.firstCells, sizeOf, typeInfo, hq, hi, hm, hl, hst]

theorem wtCells_nth (l : List Wt) (i k : Nat) (hi : i < l.length) (hk : k < 4) : (wtCells l)[i * 4 + k]? = some (.int .i64 (lnCell l i k)) := by
  obtain ⟨a0, a1, a2, a3⟩ := wtCells_at l i l[i] (List.getElem?_eq_getElem hi)
  unfold lnCell
  rw [List.getElem?_eq_getElem hi]
  match k, hk with
  | 0, _ => exact a0
  | 1, _ => exact a1
  | 2, _ => exact a2
  | 3, _ => exact a3

theorem turns_setCells {S : Nat → Nat → Prop} {a : World} (b : Nat) : ∀ (vs : List Value) (o : Nat) (w : World), Turns S a w → (∀ j, j < vs.length → S b (o + j)) → Turns S a (w.setCells b o vs)
  | [], _, _, h, _ => h
  | v :: r, o, w, h, hS => turns_setCells b r (o + 1) _ (h.setCell v (by simpa using hS 0 (by simp))) (fun j hj => by have := hS (j + 1) (by simp; omega); rwa [show o + (j + 1) = o + 1 + j by omega] at this)

theorem lnCell_cons (x : Wt) (l : List Wt) (i k : Nat) : lnCell (x :: l) (i + 1) k = lnCell l i k := rfl
theorem lnCell_out (l : List Wt) (i k : Nat) (h : l.length ≤ i) : lnCell l i k = 0 := by unfold lnCell; rw [List.getElem?_eq_none h]

theorem LnAt.src {b o : Nat} {x : Wt} {l : List Wt} {w : World} (h : LnAt b o (x :: l) w) (j : Nat) (v : Value) (hj : (wtCells l)[j]? = some v) : w.cell? ⟨b, o + 4 + j, none⟩ = some v := by
  have hlt : j < (wtCells l).length := (List.getElem?_eq_some_iff.1 hj).1
  rw [wtCells_length] at hlt
  have h8 := h.le
  simp only [List.length_cons] at h8
  have e := wtCells_nth l (j / 4) (j % 4) (by omega) (by omega)
  rw [show j / 4 * 4 + j % 4 = j by omega, hj] at e
  have r := h.row (j / 4 + 1) (j % 4) (by omega) (by omega)
  rw [lnCell_cons, show o + (j / 4 + 1) * 4 + j % 4 = o + 4 + j by omega] at r
  rw [r, ← e]

theorem LnAt.take {b o : Nat} {x : Wt} {l : List Wt} {w : World} (h : LnAt b o (x :: l) w) :
    LnAt b o l (lnSet ((w.setCells b o (wtCells l)).setCell ⟨b, o + 32, none⟩ (.int .i64 l.length)) b (o + l.length * 4) (.int .i64 0) (.int .i64 0) (.int .i64 0) (.int .i64 0)) := by
  have h8 := h.le
  simp only [List.length_cons] at h8
  have hout : ∀ p u, w.cell? ⟨b, p, none⟩ = some u → o + l.length * 4 ≤ p → (w.setCells b o (wtCells l)).cell? ⟨b, p, none⟩ = some u := fun p u hu hp => by
    rw [World.cell?_setCells_out _ _ _ _ _ (fun _ _ => Or.inr (by rw [wtCells_length]; exact hp))]; exact hu
  have hall : ∀ p, p < l.length * 4 → ∃ u, (w.setCells b o (wtCells l)).cell? ⟨b, o + p, none⟩ = some u ∧ (wtCells l)[p]? = some u := fun p hp => by
    have hl : p < (wtCells l).length := by rw [wtCells_length]; exact hp
    refine ⟨(wtCells l)[p], World.cell?_setCells_in b (wtCells l) o w (fun j hj => ?_) p hl, List.getElem?_eq_getElem hl⟩
    rw [wtCells_length] at hj
    have r := h.row (j / 4) (j % 4) (by omega) (by omega)
    rw [show o + j / 4 * 4 + j % 4 = o + j by omega] at r
    rw [r]; rfl
  refine ⟨by omega, ?_, fun i k hi hk => ?_, fun k hk => ?_⟩
  · exact lnSet_other (World.cell?_setCell_same _ _ _ (hout _ _ h.len (by omega))) (by omega)
  · by_cases e : i = l.length
    · have r : ∀ k, k < 4 → ∃ u, ((w.setCells b o (wtCells l)).setCell ⟨b, o + 32, none⟩ (.int .i64 l.length)).cell? ⟨b, o + l.length * 4 + k, none⟩ = some u := fun k hk => ⟨_, cell_ne (hout _ _ (h.row l.length k (by omega) hk) (by omega)) (Or.inr (by omega))⟩
      obtain ⟨e0, e1, e2, e3⟩ := lnSet_same (x0 := .int .i64 0) (x1 := .int .i64 0) (x2 := .int .i64 0) (x3 := .int .i64 0) r
      rw [lnCell_out l i k (by omega)]
      subst e
      match k, hk with
      | 0, _ => exact e0
      | 1, _ => exact e1
      | 2, _ => exact e2
      | 3, _ => exact e3
    · refine lnSet_other (cell_ne ?_ (Or.inr (by omega))) (by omega)
      by_cases hlt : i < l.length
      · obtain ⟨u, hu, hu'⟩ := hall (i * 4 + k) (by omega)
        rw [wtCells_nth l i k hlt hk] at hu'
        rw [show o + i * 4 + k = o + (i * 4 + k) by omega, hu, ← hu']
      · have r := h.row i k hi hk
        obtain ⟨m, rfl⟩ : ∃ m, i = m + 1 := ⟨i - 1, by omega⟩
        rw [lnCell_cons, lnCell_out l m k (by omega)] at r
        rw [lnCell_out l _ k (by omega)]
        exact hout _ _ r (by omega)
  · simp only [lnSet, World.frozen?_setCell, World.frozen?_setCells]
    exact h.frozen k hk

theorem stInfo : (Tryz.prog.info? 67).map (·.size) = some 4 := by kernel_rfl

theorem LnAt.apart {b o : Nat} {l : List Wt} {w : World} (h : LnAt b o l w) {p : Addr} (v : Value) (hp : p.block ≠ b) : LnAt b o l (w.setCell p v) where
  le := h.le
  len := by rw [World.cell?_setCell_other _ _ _ _ (fun e => hp (by rw [e]))]; exact h.len
  row i k hi hk := by rw [World.cell?_setCell_other _ _ _ _ (fun e => hp (by rw [e]))]; exact h.row i k hi hk
  frozen k hk := by rw [World.frozen?_setCell]; exact h.frozen k hk

theorem blk2 (w : World) (o1 o2 : Obj) : ((w.alloc o1).alloc o2).heap[w.heap.size]? = some o1 ∧ ((w.alloc o1).alloc o2).heap[w.heap.size + 1]? = some o2 := by
  have e1 : w.heap.size + 1 = (w.alloc o1).heap.size := (World.size_alloc _ _).symm
  refine ⟨?_, ?_⟩
  · rw [Below.heap_alloc _ _ _ (by omega)]; exact heap_new w o1
  · rw [e1]; exact heap_new _ o2
theorem cells4 {w : World} {k : Nat} {x0 x1 x2 x3 : Value} {t : TypeId} (h : w.heap[k]? = some (.cells #[x0, x1, x2, x3] t)) :
    (w.cell? ⟨k, 0, none⟩ = some x0 ∧ w.cell? ⟨k, 1, none⟩ = some x1 ∧ w.cell? ⟨k, 2, none⟩ = some x2 ∧ w.cell? ⟨k, 3, none⟩ = some x3) ∧ ∀ o, w.frozen? ⟨k, o, none⟩ = false := by
  refine ⟨⟨?_, ?_, ?_, ?_⟩, fun o => ?_⟩
  · simp [World.cell?, h]
  · simp [World.cell?, h]
  · simp [World.cell?, h]
  · simp [World.cell?, h]
  · simp [World.frozen?, h]

theorem step_copy_four {P : Program} (w : World) {ops : Array Oper} {o : Oper} {a : Act} {K : Act → World → Prop} {Q : Exit → Act → World → Prop} {E : Prop} (hgd : o.guard = none) (s x : Operand) (t elem : TypeId)
    (ho : o.op = .call { callee := .builtin .copy, args := #[s, x], argTypes := #[t, t] })
    (hu : P.underlying t = some (.slice elem)) (hz : (P.info? elem).map (·.size) = some 4)
    (b p dLen dCap : Nat) (ad : Addr) (sLen sCap n : Nat) (cs : List Value) (hs : a.eval s = .slice (some ⟨b, p, none⟩) dLen dCap) (hx : a.eval x = .slice (some ad) sLen sCap)
    (hm : Nat.min sLen dLen = n) (hn : cs.length = n * 4)
    (hsrc : ∀ j v, cs[j]? = some v → w.cell? (ad.add j) = some v) (hc : ∀ j, j < cs.length → (w.cell? ⟨b, p + j, none⟩).isSome = true) (hf : ∀ j, j < cs.length → w.frozen? ⟨b, p + j, none⟩ = false) (h1 : ∀ v ∈ cs, v.oneCell' = true)
    (h : K (a.put o.dst (goInt n)) (w.setCells b p cs)) :
    if Region.wanted o (yielded ops a.tmps) = true then Oper.wp P o a w K Q else E := by
  have hw : Region.wanted o (yielded ops a.tmps) = true := by simp [Region.wanted, hgd]
  rw [if_pos hw]
  have hr := run_copy_four (P := P) w t t o.type elem b p dLen dCap ad sLen sCap n cs hu hz hm hn hsrc hc hf h1
  unfold Oper.wp execOp
  simp only [ho, resolve, invoke, builtin, Sem.run_bind, Sem.run_pure, Result.andThen_ok, List.map_toArray, List.map_cons, List.map_nil, hs, hx, hr]
  exact h

set_option maxRecDepth 20000 in
set_option maxHeartbeats 1000000 in
theorem take_any (b o : Nat) (x : Wt) (l : List Wt) (w : World) (h : LnAt b o (x :: l) w) :
    Calls Tryz.prog 73 #[.pointer (some ⟨b, o, none⟩)] w fun e w' => e = .returned (.agg #[.int .i64 x.c, .int .i64 x.g, .int .i64 x.w, .int .i64 x.v]) ∧ LnAt b o l w' ∧ Turns (lnPl b o) w w' := by
  have h8 := h.le
  simp only [List.length_cons] at h8
  have hl := h.lt
  have r0 : w.cell? ⟨b, o, none⟩ = some (.int .i64 x.c) := h.row 0 0 (by decide) (by decide)
  have r1 : w.cell? ⟨b, o + 1, none⟩ = some (.int .i64 x.g) := h.row 0 1 (by decide) (by decide)
  have r2 : w.cell? ⟨b, o + 2, none⟩ = some (.int .i64 x.w) := h.row 0 2 (by decide) (by decide)
  have r3 : w.cell? ⟨b, o + 3, none⟩ = some (.int .i64 x.v) := h.row 0 3 (by decide) (by decide)
  go_enter Tryz.func73, Tryz.ntmps73
  go_wp2
  have h1 : LnAt b o (x :: l) ((w.alloc (.cells #[.int .i64 0, .int .i64 0, .int .i64 0, .int .i64 0] 67)).alloc (.cells #[.int .i64 x.c, .int .i64 x.g, .int .i64 x.w, .int .i64 x.v] 67)) := (h.alloc _).alloc _
  have hba : Below w.heap.size w ((w.alloc (.cells #[.int .i64 0, .int .i64 0, .int .i64 0, .int .i64 0] 67)).alloc (.cells #[.int .i64 x.c, .int .i64 x.g, .int .i64 x.w, .int .i64 x.v] 67)) := ((Below.refl _ _).alloc (Nat.le_refl _) _).alloc (by simp) _
  obtain ⟨y0, y1⟩ := blk2 w (.cells #[.int .i64 0, .int .i64 0, .int .i64 0, .int .i64 0] 67) (.cells #[.int .i64 x.c, .int .i64 x.g, .int .i64 x.w, .int .i64 x.v] 67)
  clear r0 r1 r2 r3
  generalize hw1 : (w.alloc (.cells #[.int .i64 0, .int .i64 0, .int .i64 0, .int .i64 0] 67)).alloc (.cells #[.int .i64 x.c, .int .i64 x.g, .int .i64 x.w, .int .i64 x.v] 67) = w1 at *
  clear hw1
  have hn : w1.cell? ⟨b, o + 32, none⟩ = some (.int .i64 ((l.length : Int) + 1)) := by rw [h1.len]; simp
  have n1 : (1 : Int) ≤ (l.length : Int) + 1 := by omega
  have n8 : (l.length : Int) + 1 ≤ 8 := by omega
  have HS : Hid (LnAt b o (x :: l) w1) := h1
  clear h h1
  have HSrc : Hid (∀ j v, (wtCells l)[j]? = some v → w1.cell? ((⟨b, o + 4, none⟩ : Addr).add j) = some v) := fun j v hj => by
    rw [Addr.add_lit]; exact HS.out.src j v hj
  have HCc : Hid (∀ j, j < (wtCells l).length → (w1.cell? ⟨b, o + j, none⟩).isSome = true) := fun j hj => by
    rw [wtCells_length] at hj
    have r := HS.out.row (j / 4) (j % 4) (by omega) (by omega)
    rw [show o + j / 4 * 4 + j % 4 = o + j by omega] at r
    rw [r]; rfl
  have HCf : Hid (∀ j, j < (wtCells l).length → w1.frozen? ⟨b, o + j, none⟩ = false) := fun j hj => by
    rw [wtCells_length] at hj
    exact HS.out.frozen j (by omega)
  have hmin : Nat.min l.length 8 = l.length := Nat.min_eq_left (by omega)
  go_region_law
    (refine step_copy_four _ (by rfl) _ _ _ 67 (by rfl) Tryz.underlying187 stInfo b o 8 8 ⟨b, o + 4, none⟩ l.length 7 l.length (wtCells l) (by rfl) (by rfl) hmin (wtCells_length l) (fun j v hj => HSrc.out j v hj) (fun j hj => HCc.out j hj) (fun j hj => HCf.out j hj) wtCells_one ?_)
  have H1 : LnAt b o (x :: l) w1.drew := HS.out.drew
  have HT : Hid (LnAt b o l (lnSet ((w1.drew.setCells b o (wtCells l)).setCell ⟨b, o + 32, none⟩ (.int .i64 l.length)) b (o + l.length * 4) (.int .i64 0) (.int .i64 0) (.int .i64 0) (.int .i64 0))) := H1.take
  have T2 : Turns (lnPl b o) w (w1.drew.setCells b o (wtCells l)) := turns_setCells b (wtCells l) o _ (Turns.of_below hba).drew (fun j hj => ⟨rfl, by omega, by rw [wtCells_length] at hj; omega⟩)
  have hout : ∀ k p u, w1.cell? ⟨k, p, none⟩ = some u → k ≠ b ∨ o + l.length * 4 ≤ p → (w1.drew.setCells b o (wtCells l)).cell? ⟨k, p, none⟩ = some u := fun k p u hu hp => by
    rw [World.cell?_setCells_out _ _ _ _ _ (fun e _ => Or.inr (by rw [wtCells_length]; rcases hp with hp | hp; exact absurd e hp; exact hp))]; exact hu
  have hfr : ∀ k p, w1.frozen? ⟨k, p, none⟩ = false → (w1.drew.setCells b o (wtCells l)).frozen? ⟨k, p, none⟩ = false := fun k p hu => by
    rw [World.frozen?_setCells]; exact hu
  have c32 : (w1.drew.setCells b o (wtCells l)).cell? ⟨b, o + 32, none⟩ = some (.int .i64 ((l.length : Int) + 1)) := hout _ _ _ hn (Or.inr (by omega))
  have g32 : (w1.drew.setCells b o (wtCells l)).frozen? ⟨b, o + 32, none⟩ = false := hfr _ _ (H1.frozen 32 (by decide))
  have r0 : (w1.drew.setCells b o (wtCells l)).cell? ⟨b, o + l.length * 4, none⟩ = some (.int .i64 (lnCell (x :: l) l.length 0)) := hout _ _ _ (H1.row l.length 0 (by omega) (by decide)) (Or.inr (by omega))
  have r1 : (w1.drew.setCells b o (wtCells l)).cell? ⟨b, o + l.length * 4 + 1, none⟩ = some (.int .i64 (lnCell (x :: l) l.length 1)) := hout _ _ _ (H1.row l.length 1 (by omega) (by decide)) (Or.inr (by omega))
  have r2 : (w1.drew.setCells b o (wtCells l)).cell? ⟨b, o + l.length * 4 + 2, none⟩ = some (.int .i64 (lnCell (x :: l) l.length 2)) := hout _ _ _ (H1.row l.length 2 (by omega) (by decide)) (Or.inr (by omega))
  have r3 : (w1.drew.setCells b o (wtCells l)).cell? ⟨b, o + l.length * 4 + 3, none⟩ = some (.int .i64 (lnCell (x :: l) l.length 3)) := hout _ _ _ (H1.row l.length 3 (by omega) (by decide)) (Or.inr (by omega))
  have f0 : (w1.drew.setCells b o (wtCells l)).frozen? ⟨b, o + l.length * 4, none⟩ = false := hfr _ _ (H1.frozen (l.length * 4) (by omega))
  have f1 : (w1.drew.setCells b o (wtCells l)).frozen? ⟨b, o + l.length * 4 + 1, none⟩ = false := hfr _ _ (by have := H1.frozen (l.length * 4 + 1) (by omega); simpa [Nat.add_assoc] using this)
  have f2 : (w1.drew.setCells b o (wtCells l)).frozen? ⟨b, o + l.length * 4 + 2, none⟩ = false := hfr _ _ (by have := H1.frozen (l.length * 4 + 2) (by omega); simpa [Nat.add_assoc] using this)
  have f3 : (w1.drew.setCells b o (wtCells l)).frozen? ⟨b, o + l.length * 4 + 3, none⟩ = false := hfr _ _ (by have := H1.frozen (l.length * 4 + 3) (by omega); simpa [Nat.add_assoc] using this)
  obtain ⟨⟨z0, z1, z2, z3⟩, zf⟩ := cells4 y0
  obtain ⟨⟨v0, v1, v2, v3⟩, _⟩ := cells4 y1
  replace z0 := hout _ _ _ z0 (Or.inl (Nat.ne_of_gt hl))
  replace z1 := hout _ _ _ z1 (Or.inl (Nat.ne_of_gt hl))
  replace z2 := hout _ _ _ z2 (Or.inl (Nat.ne_of_gt hl))
  replace z3 := hout _ _ _ z3 (Or.inl (Nat.ne_of_gt hl))
  replace v0 := hout _ _ _ v0 (Or.inl (by omega))
  replace v1 := hout _ _ _ v1 (Or.inl (by omega))
  replace v2 := hout _ _ _ v2 (Or.inl (by omega))
  replace v3 := hout _ _ _ v3 (Or.inl (by omega))
  have y0 := hfr _ _ (zf 0)
  have y1 := hfr _ _ (zf 1)
  have y2 := hfr _ _ (zf 2)
  have y3 := hfr _ _ (zf 3)
  have i8 : (l.length : Int) < 8 := by omega
  clear hout hfr H1 HS HSrc HCc HCf hn zf hba hmin
  generalize w1.drew.setCells b o (wtCells l) = w2 at *
  go_wp2
  go_region
  unfold lnSet at HT
  have hp : ∀ k, k < 4 → lnPl b o b (o + l.length * 4 + k) := fun k hk => ⟨rfl, by omega, by omega⟩
  have T3 : Turns (lnPl b o) w (((((w2.setCell ⟨b, o + 32, none⟩ (.int .i64 l.length)).setCell ⟨b, o + l.length * 4, none⟩ (.int .i64 0)).setCell ⟨b, o + l.length * 4 + 1, none⟩ (.int .i64 0)).setCell ⟨b, o + l.length * 4 + 2, none⟩ (.int .i64 0)).setCell ⟨b, o + l.length * 4 + 3, none⟩ (.int .i64 0)).drew :=
    (((((T2.setCell _ ⟨rfl, by omega, by omega⟩).setCell _ (hp 0 (by decide))).setCell _ (hp 1 (by decide))).setCell _ (hp 2 (by decide))).setCell _ (hp 3 (by decide))).drew
  have H3 : LnAt b o l (((((w2.setCell ⟨b, o + 32, none⟩ (.int .i64 l.length)).setCell ⟨b, o + l.length * 4, none⟩ (.int .i64 0)).setCell ⟨b, o + l.length * 4 + 1, none⟩ (.int .i64 0)).setCell ⟨b, o + l.length * 4 + 2, none⟩ (.int .i64 0)).setCell ⟨b, o + l.length * 4 + 3, none⟩ (.int .i64 0)).drew := HT.out.drew
  have hz : ∀ k p u, w2.cell? ⟨k, p, none⟩ = some u → k ≠ b → (((((w2.setCell ⟨b, o + 32, none⟩ (.int .i64 l.length)).setCell ⟨b, o + l.length * 4, none⟩ (.int .i64 0)).setCell ⟨b, o + l.length * 4 + 1, none⟩ (.int .i64 0)).setCell ⟨b, o + l.length * 4 + 2, none⟩ (.int .i64 0)).setCell ⟨b, o + l.length * 4 + 3, none⟩ (.int .i64 0)).drew.cell? ⟨k, p, none⟩ = some u :=
    fun k p u hu hk => by
      rw [World.cell?_drew]
      exact cell_ne (cell_ne (cell_ne (cell_ne (cell_ne hu (Or.inl hk)) (Or.inl hk)) (Or.inl hk)) (Or.inl hk)) (Or.inl hk)
  have hf : ∀ k p, w2.frozen? ⟨k, p, none⟩ = false → (((((w2.setCell ⟨b, o + 32, none⟩ (.int .i64 l.length)).setCell ⟨b, o + l.length * 4, none⟩ (.int .i64 0)).setCell ⟨b, o + l.length * 4 + 1, none⟩ (.int .i64 0)).setCell ⟨b, o + l.length * 4 + 2, none⟩ (.int .i64 0)).setCell ⟨b, o + l.length * 4 + 3, none⟩ (.int .i64 0)).drew.frozen? ⟨k, p, none⟩ = false :=
    fun k p hu => by rw [World.frozen?_drew, World.frozen?_setCell, World.frozen?_setCell, World.frozen?_setCell, World.frozen?_setCell, World.frozen?_setCell]; exact hu
  have kn : w.heap.size ≠ b := by omega
  have km : w.heap.size + 1 ≠ b := by omega
  replace z0 := hz _ _ _ z0 kn
  replace z1 := hz _ _ _ z1 kn
  replace z2 := hz _ _ _ z2 kn
  replace z3 := hz _ _ _ z3 kn
  replace v0 := hz _ _ _ v0 km
  replace v1 := hz _ _ _ v1 km
  replace v2 := hz _ _ _ v2 km
  replace v3 := hz _ _ _ v3 km
  replace y0 := hf _ _ y0
  replace y1 := hf _ _ y1
  replace y2 := hf _ _ y2
  replace y3 := hf _ _ y3
  clear HT hz hf T2 c32 g32 r0 r1 r2 r3 f0 f1 f2 f3
  generalize (((((w2.setCell ⟨b, o + 32, none⟩ (.int .i64 l.length)).setCell ⟨b, o + l.length * 4, none⟩ (.int .i64 0)).setCell ⟨b, o + l.length * 4 + 1, none⟩ (.int .i64 0)).setCell ⟨b, o + l.length * 4 + 2, none⟩ (.int .i64 0)).setCell ⟨b, o + l.length * 4 + 3, none⟩ (.int .i64 0)).drew = w3 at *
  go_wp2
  refine bodyPost_ret (v := .agg #[.int .i64 x.c, .int .i64 x.g, .int .i64 x.w, .int .i64 x.v]) (by simp only [results, Tryz.results73]; go_simp) rfl ⟨rfl, ?_, ?_⟩
  · exact (((H3.apart _ kn).apart _ kn).apart _ kn).apart _ kn
  · exact (((T3.setNew _ (Nat.le_refl _)).setNew _ (Nat.le_refl _)).setNew _ (Nat.le_refl _)).setNew _ (Nat.le_refl _)
end Go.Proofs.YtnnlkolhahjokaaGreatDoor
