import Derived.Test.YtaiigfcfmcicjaaGreatDoorB08
import Derived.Laws.IdiomCopy
import Derived.Deep.RegionHeld3
import Derived.Deep.RegionLaw

/- RefJ -/
namespace Go.Proofs.YtaiigfcfmcicjaaGreatDoor
open Go.RowKit Go.Extern.Stop Go.Stop Go.Extern

theorem ralloc_step (p : RmPl) (s : Rm) (c : Nat) (w : World) (h : RmAt p s w) (hc : c < s.ar.size) (hf : ∀ j, j < c → s.ar.there j = true) (ht : s.ar.there c = false) (hg : s.ar.given c + 1 < 4611686018427387904) :
    Calls Tryz.prog 44 #[.pointer (some ⟨p.mb, 0, none⟩)] w fun e w' => e = .returned (.tuple #[.agg #[.int .i64 c, .int .i64 (s.ar.given c)], .int .i64 0]) ∧ ∃ p', RmStep p s w p' (s.give c) w' := by
  refine (ralloc_some p s c w h hc hf ht hg).mono ?_
  rintro e w' ⟨he, hT, b, hb, hA⟩
  refine ⟨he, p.withWords c b 4, rfl, rfl, hA, hT.mono (fun k _ _ e => Or.inr (Or.inl e)), fun k hk => ?_⟩
  rcases RmPl.fp_words p s (s.give c) c b 4 k rfl rfl hk with e | e
  · exact Or.inl e
  · exact Or.inr (by omega)

theorem RmStep.setThere {p : RmPl} {s : Rm} {w : World} (h : RmAt p s w) (c : Nat) (hc : c < s.ar.size) (b : Bool) : RmStep p s w p (s.setThere c b) (w.setCell ⟨p.cb, c * 3 + 2, none⟩ (.bool b)) :=
  ⟨rfl, rfl, h.setThere c hc b, (Turns.refl _ _).setCell _ (Or.inr (Or.inl rfl)), fun _ hk => Or.inl hk⟩

theorem RmStep.setWord {p : RmPl} {s : Rm} {w : World} (h : RmAt p s w) (c m : Nat) (hc : c < s.ar.size) (hm : m < 4) (v : Int) : RmStep p s w p (s.setWord c m v) (w.setCell ⟨p.wb c, m, none⟩ (.int .i64 v)) :=
  ⟨rfl, rfl, h.setWord c m hc hm v, (Turns.refl _ _).setCell _ (Or.inr (Or.inr (Or.inr (Or.inl ⟨c, hc, rfl⟩)))), fun _ hk => Or.inl hk⟩

theorem Rm.drained_ar (s : Rm) (t : Nat) (x : Wt) (l : List Wt) : (s.drained t x l).ar.size = s.ar.size ∧ (s.drained t x l).ar.there = s.ar.there ∧ (s.drained t x l).ar.given = s.ar.given := by
  unfold Rm.drained
  split <;> exact ⟨rfl, rfl, rfl⟩

theorem Rm.drainAll_ar (l : List Wt) (t : Nat) : ∀ s : Rm, (s.drainAll t l).ar.size = s.ar.size ∧ (s.drainAll t l).ar.there = s.ar.there ∧ (s.drainAll t l).ar.given = s.ar.given ∧ (s.drainAll t l).threads = s.threads := by
  induction l with
  | nil => intro s; exact ⟨rfl, rfl, rfl, rfl⟩
  | cons x l ih =>
    intro s
    obtain ⟨h1, h2, h3, h4⟩ := ih (s.drained t x l)
    obtain ⟨k1, k2, k3⟩ := s.drained_ar t x l
    exact ⟨h1.trans k1, h2.trans k2, h3.trans k3, h4.trans (s.drained_threads t x l)⟩

theorem Rm.drainAll_has (l : List Wt) (t : Nat) (s : Rm) (c g : Int) : (s.drainAll t l).ar.has c g = s.ar.has c g := by
  obtain ⟨h1, h2, h3, -⟩ := s.drainAll_ar l t
  simp only [Ar.has, h1, h2, h3]

theorem Rm.drainAll_waits (l : List Wt) (t : Nat) : ∀ s : Rm, s.waits t = l → (s.drainAll t l).waits t = [] := by
  induction l with
  | nil => intro s h; exact h
  | cons x l ih => intro s _; exact ih (s.drained t x l) (s.drained_waits t x l)

theorem Rm.drained_waits_ne (s : Rm) (t u : Nat) (x : Wt) (l : List Wt) (h : u ≠ t) : (s.drained t x l).waits u = s.waits u := by
  unfold Rm.drained
  split <;> simp [Rm.setWord, Rm.setWaits, h]

theorem Rm.drainAll_waits_ne (l : List Wt) (t u : Nat) (h : u ≠ t) : ∀ s : Rm, (s.drainAll t l).waits u = s.waits u := by
  induction l with
  | nil => intro s; rfl
  | cons x l ih => intro s; rw [Rm.drainAll, ih, Rm.drained_waits_ne _ _ _ _ _ h]
end Go.Proofs.YtaiigfcfmcicjaaGreatDoor

/- MemA -/
namespace Go.Proofs.YtaiigfcfmcicjaaGreatDoor
open Go.RowKit Go.Extern.Stop Go.Stop Go.Extern

def Wt.nth (x : Wt) : Nat → Int
  | 0 => x.c
  | 1 => x.g
  | 2 => x.w
  | _ => x.v
def lnCell (l : List Wt) (i k : Nat) : Int := match l[i]? with
  | some x => x.nth k
  | none => 0

structure LnAt (b o : Nat) (l : List Wt) (w : World) : Prop where
  le : l.length ≤ 8
  len : w.cell? ⟨b, o + 32, none⟩ = some (.int .i64 l.length)
  row : ∀ i k, i < 8 → k < 4 → w.cell? ⟨b, o + i * 4 + k, none⟩ = some (.int .i64 (lnCell l i k))
  frozen : ∀ k, k < 33 → w.frozen? ⟨b, o + k, none⟩ = false

theorem LnAt.lt {b o : Nat} {l : List Wt} {w : World} (h : LnAt b o l w) : b < w.heap.size := World.block_lt_of_cell? _ _ h.len
theorem LnAt.turns {S : Nat → Nat → Prop} {b o : Nat} {l : List Wt} {w w' : World} (h : LnAt b o l w) (t : Turns S w w') (hS : ∀ k, k < 33 → ¬ S b (o + k)) : LnAt b o l w' where
  le := h.le
  len := t.keep h.len (hS 32 (by decide))
  row i k hi hk := t.keep (h.row i k hi hk) (by have := hS (i * 4 + k) (by omega); simpa [Nat.add_assoc] using this)
  frozen k hk := by rw [t.frozen b (o + k) h.lt (hS k hk)]; exact h.frozen k hk
theorem LnAt.below {b o : Nat} {l : List Wt} {w w' : World} (h : LnAt b o l w) (hb : Below w.heap.size w w') : LnAt b o l w' :=
  h.turns (Turns.of_below (S := fun _ _ => False) hb) (fun _ _ h => h)
theorem LnAt.alloc {b o : Nat} {l : List Wt} {w : World} (h : LnAt b o l w) (ob : Obj) : LnAt b o l (w.alloc ob) := h.below ((Below.refl _ _).alloc (Nat.le_refl _) _)
theorem LnAt.drewN {b o : Nat} {l : List Wt} {w : World} (h : LnAt b o l w) (n : Nat) : LnAt b o l (w.drewN n) := h.below (Below.drewN' n)

theorem LnAt.drew {b o : Nat} {l : List Wt} {w : World} (h : LnAt b o l w) : LnAt b o l w.drew := h.below (Below.refl _ _).drew

theorem LnAt.other {b o : Nat} {l : List Wt} {w : World} (_ : LnAt b o l w) {p : Nat} {v : Value} {k : Nat} {u : Value} (hc : w.cell? ⟨b, k, none⟩ = some u) (hk : k ≠ p) : (w.setCell ⟨b, p, none⟩ v).cell? ⟨b, k, none⟩ = some u := cell_ne hc (Or.inr hk)

theorem lnCell_append (l : List Wt) (x : Wt) (i k : Nat) : lnCell (l ++ [x]) i k = if i = l.length then x.nth k else lnCell l i k := by
  unfold lnCell
  by_cases h : i < l.length
  · rw [List.getElem?_append_left h, if_neg (by omega)]
  · rw [List.getElem?_append_right (by omega)]
    by_cases e : i = l.length
    · rw [if_pos e, show i - l.length = 0 by omega]; rfl
    · rw [if_neg e, List.getElem?_eq_none (by simp; omega), List.getElem?_eq_none (by omega)]

def lnSet (w : World) (b p : Nat) (x0 x1 x2 x3 : Value) : World := (((w.setCell ⟨b, p, none⟩ x0).setCell ⟨b, p + 1, none⟩ x1).setCell ⟨b, p + 2, none⟩ x2).setCell ⟨b, p + 3, none⟩ x3

theorem lnSet_other {w : World} {b p k : Nat} {x0 x1 x2 x3 u : Value} (hc : w.cell? ⟨b, k, none⟩ = some u) (hk : k < p ∨ p + 4 ≤ k) : (lnSet w b p x0 x1 x2 x3).cell? ⟨b, k, none⟩ = some u :=
  cell_ne (cell_ne (cell_ne (cell_ne hc (Or.inr (by omega))) (Or.inr (by omega))) (Or.inr (by omega))) (Or.inr (by omega))

theorem lnSet_same {w : World} {b p : Nat} {x0 x1 x2 x3 : Value} (hc : ∀ k, k < 4 → ∃ u, w.cell? ⟨b, p + k, none⟩ = some u) : (lnSet w b p x0 x1 x2 x3).cell? ⟨b, p, none⟩ = some x0 ∧ (lnSet w b p x0 x1 x2 x3).cell? ⟨b, p + 1, none⟩ = some x1 ∧ (lnSet w b p x0 x1 x2 x3).cell? ⟨b, p + 2, none⟩ = some x2 ∧ (lnSet w b p x0 x1 x2 x3).cell? ⟨b, p + 3, none⟩ = some x3 := by
  obtain ⟨u0, h0⟩ := hc 0 (by decide)
  obtain ⟨u1, h1⟩ := hc 1 (by decide)
  obtain ⟨u2, h2⟩ := hc 2 (by decide)
  obtain ⟨u3, h3⟩ := hc 3 (by decide)
  refine ⟨cell_ne (cell_ne (cell_ne (World.cell?_setCell_same _ _ _ h0) (Or.inr (by omega))) (Or.inr (by omega))) (Or.inr (by omega)),
    cell_ne (cell_ne (World.cell?_setCell_same _ _ _ (cell_ne h1 (Or.inr (by omega)))) (Or.inr (by omega))) (Or.inr (by omega)),
    cell_ne (World.cell?_setCell_same _ _ _ (cell_ne (cell_ne h2 (Or.inr (by omega))) (Or.inr (by omega)))) (Or.inr (by omega)),
    World.cell?_setCell_same _ _ _ (cell_ne (cell_ne (cell_ne h3 (Or.inr (by omega))) (Or.inr (by omega))) (Or.inr (by omega)))⟩

theorem LnAt.put {b o : Nat} {l : List Wt} {w : World} (h : LnAt b o l w) (x : Wt) (h8 : l.length < 8) :
    LnAt b o (l ++ [x]) ((lnSet w b (o + l.length * 4) (.int .i64 x.c) (.int .i64 x.g) (.int .i64 x.w) (.int .i64 x.v)).setCell ⟨b, o + 32, none⟩ (.int .i64 (l.length + 1))) where
  le := by simp; omega
  len := by
    rw [World.cell?_setCell_same _ _ _ (lnSet_other h.len (by omega))]; simp
  row i k hi hk := by
    refine cell_ne ?_ (Or.inr (by omega))
    rw [lnCell_append]
    by_cases e : i = l.length
    · rw [if_pos e]
      obtain ⟨e0, e1, e2, e3⟩ := lnSet_same (w := w) (b := b) (p := o + l.length * 4) (x0 := .int .i64 x.c) (x1 := .int .i64 x.g) (x2 := .int .i64 x.w) (x3 := .int .i64 x.v) (fun k hk => ⟨_, h.row l.length k h8 hk⟩)
      subst e
      match k, hk with
      | 0, _ => exact e0
      | 1, _ => exact e1
      | 2, _ => exact e2
      | 3, _ => exact e3
    · rw [if_neg e]
      exact lnSet_other (h.row i k hi hk) (by omega)
  frozen k hk := by
    simp only [lnSet, World.frozen?_setCell]; exact h.frozen k hk

end Go.Proofs.YtaiigfcfmcicjaaGreatDoor

/- MemB -/
namespace Go.Proofs.YtaiigfcfmcicjaaGreatDoor
open Go.RowKit Go.Extern.Stop Go.Stop Go.Extern

theorem wtCells_nth (l : List Wt) (i k : Nat) (hi : i < l.length) (hk : k < 4) : (wtCells l)[i * 4 + k]? = some (.int .i64 (lnCell l i k)) := by
  obtain ⟨a0, a1, a2, a3⟩ := wtCells_at l i l[i] (List.getElem?_eq_getElem hi)
  unfold lnCell
  rw [List.getElem?_eq_getElem hi]
  match k, hk with
  | 0, _ => exact a0
  | 1, _ => exact a1
  | 2, _ => exact a2
  | 3, _ => exact a3

theorem turns_setCells {S : Nat → Nat → Prop} {a : World} (b : Nat) : ∀ (vs : List Value) (o : Nat) (w : World), Turns S a w → (∀ j, j < vs.length → S b (o + j)) → Turns S a (w.setCells b o vs)
  | [], _, _, h, _ => h
  | v :: r, o, w, h, hS => turns_setCells b r (o + 1) _ (h.setCell v (by simpa using hS 0 (by simp))) (fun j hj => by have := hS (j + 1) (by simp; omega); rwa [show o + (j + 1) = o + 1 + j by omega] at this)

theorem lnCell_cons (x : Wt) (l : List Wt) (i k : Nat) : lnCell (x :: l) (i + 1) k = lnCell l i k := rfl
theorem lnCell_out (l : List Wt) (i k : Nat) (h : l.length ≤ i) : lnCell l i k = 0 := by unfold lnCell; rw [List.getElem?_eq_none h]

theorem LnAt.take {b o : Nat} {x : Wt} {l : List Wt} {w : World} (h : LnAt b o (x :: l) w) :
    LnAt b o l (lnSet ((w.setCells b o (wtCells l)).setCell ⟨b, o + 32, none⟩ (.int .i64 l.length)) b (o + l.length * 4) (.int .i64 0) (.int .i64 0) (.int .i64 0) (.int .i64 0)) := by
  have h8 := h.le
  simp only [List.length_cons] at h8
  have hout : ∀ p u, w.cell? ⟨b, p, none⟩ = some u → o + l.length * 4 ≤ p → (w.setCells b o (wtCells l)).cell? ⟨b, p, none⟩ = some u := fun p u hu hp => by
    rw [World.cell?_setCells_out _ _ _ _ _ (fun _ _ => Or.inr (by rw [wtCells_length]; exact hp))]; exact hu
  have hall : ∀ p, p < l.length * 4 → ∃ u, (w.setCells b o (wtCells l)).cell? ⟨b, o + p, none⟩ = some u ∧ (wtCells l)[p]? = some u := fun p hp => by
    have hl : p < (wtCells l).length := by rw [wtCells_length]; exact hp
    refine ⟨(wtCells l)[p], World.cell?_setCells_in b (wtCells l) o w (fun j hj => ?_) p hl, List.getElem?_eq_getElem hl⟩
    rw [wtCells_length] at hj
    have r := h.row (j / 4) (j % 4) (by omega) (by omega)
    rw [show o + j / 4 * 4 + j % 4 = o + j by omega] at r
    rw [r]; rfl
  refine ⟨by omega, ?_, fun i k hi hk => ?_, fun k hk => ?_⟩
  · exact lnSet_other (World.cell?_setCell_same _ _ _ (hout _ _ h.len (by omega))) (by omega)
  · by_cases e : i = l.length
    · have r : ∀ k, k < 4 → ∃ u, ((w.setCells b o (wtCells l)).setCell ⟨b, o + 32, none⟩ (.int .i64 l.length)).cell? ⟨b, o + l.length * 4 + k, none⟩ = some u := fun k hk => ⟨_, cell_ne (hout _ _ (h.row l.length k (by omega) hk) (by omega)) (Or.inr (by omega))⟩
      obtain ⟨e0, e1, e2, e3⟩ := lnSet_same (x0 := .int .i64 0) (x1 := .int .i64 0) (x2 := .int .i64 0) (x3 := .int .i64 0) r
      rw [lnCell_out l i k (by omega)]
      subst e
      match k, hk with
      | 0, _ => exact e0
      | 1, _ => exact e1
      | 2, _ => exact e2
      | 3, _ => exact e3
    · refine lnSet_other (cell_ne ?_ (Or.inr (by omega))) (by omega)
      by_cases hlt : i < l.length
      · obtain ⟨u, hu, hu'⟩ := hall (i * 4 + k) (by omega)
        rw [wtCells_nth l i k hlt hk] at hu'
        rw [show o + i * 4 + k = o + (i * 4 + k) by omega, hu, ← hu']
      · have r := h.row i k hi hk
        obtain ⟨m, rfl⟩ : ∃ m, i = m + 1 := ⟨i - 1, by omega⟩
        rw [lnCell_cons, lnCell_out l m k (by omega)] at r
        rw [lnCell_out l _ k (by omega)]
        exact hout _ _ r (by omega)
  · simp only [lnSet, World.frozen?_setCell, World.frozen?_setCells]
    exact h.frozen k hk

theorem LnAt.apart {b o : Nat} {l : List Wt} {w : World} (h : LnAt b o l w) {p : Addr} (v : Value) (hp : p.block ≠ b) : LnAt b o l (w.setCell p v) where
  le := h.le
  len := by rw [World.cell?_setCell_other _ _ _ _ (fun e => hp (by rw [e]))]; exact h.len
  row i k hi hk := by rw [World.cell?_setCell_other _ _ _ _ (fun e => hp (by rw [e]))]; exact h.row i k hi hk
  frozen k hk := by rw [World.frozen?_setCell]; exact h.frozen k hk

end Go.Proofs.YtaiigfcfmcicjaaGreatDoor
