import Derived.Test.YtdpmnlbnlnmjbaaGreatDoorL06
import Derived.Laws.IdiomCopy
import Derived.Deep.RegionHeld3

/- RefI -/
namespace Go.Proofs.YtdpmnlbnlnmjbaaGreatDoor
open Go.RowKit Go.Extern.Stop Go.Stop Go.Extern

def Rm.drainAll (s : Rm) (t : Nat) : List Wt → Rm
  | [] => s
  | x :: l => (s.drained t x l).drainAll t l

def Rm.gone (s : Rm) (t : Nat) : List Wt → Nat
  | [] => 0
  | x :: l => (if s.ar.has x.c x.g = true then 0 else 1) + (s.drained t x l).gone t l

theorem Rm.drained_waits (s : Rm) (t : Nat) (x : Wt) (l : List Wt) : (s.drained t x l).waits t = l := by
  unfold Rm.drained
  split
  · simp [Rm.setWord, Rm.setWaits]
  · simp [Rm.setWaits]

theorem Rm.drained_threads (s : Rm) (t : Nat) (x : Wt) (l : List Wt) : (s.drained t x l).threads = s.threads := by
  unfold Rm.drained
  split <;> rfl

theorem Rm.gone_le (l : List Wt) (t : Nat) : ∀ s : Rm, s.gone t l ≤ l.length := by
  induction l with
  | nil => intro s; exact Nat.zero_le _
  | cons x l ih =>
    intro s
    have := ih (s.drained t x l)
    rw [Rm.gone, List.length_cons]
    split <;> omega

end Go.Proofs.YtdpmnlbnlnmjbaaGreatDoor

/- RefJ -/
namespace Go.Proofs.YtdpmnlbnlnmjbaaGreatDoor
open Go.RowKit Go.Extern.Stop Go.Stop Go.Extern

theorem RmStep.setThere {p : RmPl} {s : Rm} {w : World} (h : RmAt p s w) (c : Nat) (hc : c < s.ar.size) (b : Bool) : RmStep p s w p (s.setThere c b) (w.setCell ⟨p.cb, c * 3 + 2, none⟩ (.bool b)) :=
  ⟨rfl, rfl, h.setThere c hc b, (Turns.refl _ _).setCell _ (Or.inr (Or.inl rfl)), fun _ hk => Or.inl hk⟩

theorem RmStep.setWord {p : RmPl} {s : Rm} {w : World} (h : RmAt p s w) (c m : Nat) (hc : c < s.ar.size) (hm : m < 4) (v : Int) : RmStep p s w p (s.setWord c m v) (w.setCell ⟨p.wb c, m, none⟩ (.int .i64 v)) :=
  ⟨rfl, rfl, h.setWord c m hc hm v, (Turns.refl _ _).setCell _ (Or.inr (Or.inr (Or.inr (Or.inl ⟨c, hc, rfl⟩)))), fun _ hk => Or.inl hk⟩

theorem Rm.drained_ar (s : Rm) (t : Nat) (x : Wt) (l : List Wt) : (s.drained t x l).ar.size = s.ar.size ∧ (s.drained t x l).ar.there = s.ar.there ∧ (s.drained t x l).ar.given = s.ar.given := by
  unfold Rm.drained
  split <;> exact ⟨rfl, rfl, rfl⟩

theorem Rm.drainAll_ar (l : List Wt) (t : Nat) : ∀ s : Rm, (s.drainAll t l).ar.size = s.ar.size ∧ (s.drainAll t l).ar.there = s.ar.there ∧ (s.drainAll t l).ar.given = s.ar.given ∧ (s.drainAll t l).threads = s.threads := by
  induction l with
  | nil => intro s; exact ⟨rfl, rfl, rfl, rfl⟩
  | cons x l ih =>
    intro s
    obtain ⟨h1, h2, h3, h4⟩ := ih (s.drained t x l)
    obtain ⟨k1, k2, k3⟩ := s.drained_ar t x l
    exact ⟨h1.trans k1, h2.trans k2, h3.trans k3, h4.trans (s.drained_threads t x l)⟩

theorem Rm.drainAll_has (l : List Wt) (t : Nat) (s : Rm) (c g : Int) : (s.drainAll t l).ar.has c g = s.ar.has c g := by
  obtain ⟨h1, h2, h3, -⟩ := s.drainAll_ar l t
  simp only [Ar.has, h1, h2, h3]

theorem Rm.drainAll_waits (l : List Wt) (t : Nat) : ∀ s : Rm, s.waits t = l → (s.drainAll t l).waits t = [] := by
  induction l with
  | nil => intro s h; exact h
  | cons x l ih => intro s _; exact ih (s.drained t x l) (s.drained_waits t x l)

theorem Rm.drained_waits_ne (s : Rm) (t u : Nat) (x : Wt) (l : List Wt) (h : u ≠ t) : (s.drained t x l).waits u = s.waits u := by
  unfold Rm.drained
  split <;> simp [Rm.setWord, Rm.setWaits, h]

theorem Rm.drainAll_waits_ne (l : List Wt) (t u : Nat) (h : u ≠ t) : ∀ s : Rm, (s.drainAll t l).waits u = s.waits u := by
  induction l with
  | nil => intro s; rfl
  | cons x l ih => intro s; rw [Rm.drainAll, ih, Rm.drained_waits_ne _ _ _ _ _ h]
end Go.Proofs.YtdpmnlbnlnmjbaaGreatDoor

/- MemA -/
namespace Go.Proofs.YtdpmnlbnlnmjbaaGreatDoor
open Go.RowKit Go.Extern.Stop Go.Stop Go.Extern

def Wt.nth (x : Wt) : Nat → Int
  | 0 => x.c
  | 1 => x.g
  | 2 => x.w
  | _ => x.v
def lnCell (l : List Wt) (i k : Nat) : Int := match l[i]? with
  | some x => x.nth k
  | none => 0

structure LnAt (b o : Nat) (l : List Wt) (w : World) : Prop where
  le : l.length ≤ 8
  len : w.cell? ⟨b, o + 32, none⟩ = some (.int .i64 l.length)
  row : ∀ i k, i < 8 → k < 4 → w.cell? ⟨b, o + i * 4 + k, none⟩ = some (.int .i64 (lnCell l i k))
  frozen : ∀ k, k < 33 → w.frozen? ⟨b, o + k, none⟩ = false

def lnPl (b o : Nat) : Nat → Nat → Prop := fun k p => k = b ∧ o ≤ p ∧ p < o + 33

theorem LnAt.lt {b o : Nat} {l : List Wt} {w : World} (h : LnAt b o l w) : b < w.heap.size := World.block_lt_of_cell? _ _ h.len
theorem LnAt.turns {S : Nat → Nat → Prop} {b o : Nat} {l : List Wt} {w w' : World} (h : LnAt b o l w) (t : Turns S w w') (hS : ∀ k, k < 33 → ¬ S b (o + k)) : LnAt b o l w' where
  le := h.le
  len := t.keep h.len (hS 32 (by decide))
  row i k hi hk := t.keep (h.row i k hi hk) (by have := hS (i * 4 + k) (by omega); simpa [Nat.add_assoc] using this)
  frozen k hk := by rw [t.frozen b (o + k) h.lt (hS k hk)]; exact h.frozen k hk
theorem LnAt.below {b o : Nat} {l : List Wt} {w w' : World} (h : LnAt b o l w) (hb : Below w.heap.size w w') : LnAt b o l w' :=
  h.turns (Turns.of_below (S := fun _ _ => False) hb) (fun _ _ h => h)
theorem LnAt.alloc {b o : Nat} {l : List Wt} {w : World} (h : LnAt b o l w) (ob : Obj) : LnAt b o l (w.alloc ob) := h.below ((Below.refl _ _).alloc (Nat.le_refl _) _)
theorem LnAt.drewN {b o : Nat} {l : List Wt} {w : World} (h : LnAt b o l w) (n : Nat) : LnAt b o l (w.drewN n) := h.below (Below.drewN' n)

theorem LnAt.drew {b o : Nat} {l : List Wt} {w : World} (h : LnAt b o l w) : LnAt b o l w.drew := h.below (Below.refl _ _).drew

theorem full_any (b o : Nat) (l : List Wt) (w : World) (h : LnAt b o l w) :
    Calls Tryz.prog 150 #[.pointer (some ⟨b, o, none⟩)] w fun e w' => e = .returned (.bool (decide (8 ≤ l.length))) ∧ w' = w := by
  have hn := h.len
  have hle := h.le
  clear h
  by_cases h8 : 8 ≤ l.length
  · have e8 : l.length = 8 := by omega
    rw [decide_eq_true h8]
    rw [e8] at hn
    go_enter Tryz.func150, Tryz.ntmps150
    go_wp2
    go_ret
    exact ⟨rfl, rfl⟩
  · have e8 : ((l.length : Int) == 8) = false := beq_eq_false_iff_ne.2 (by omega)
    rw [decide_eq_false h8]
    go_enter Tryz.func150, Tryz.ntmps150
    go_wp2
    go_ret
    exact ⟨rfl, rfl⟩

theorem LnAt.other {b o : Nat} {l : List Wt} {w : World} (_ : LnAt b o l w) {p : Nat} {v : Value} {k : Nat} {u : Value} (hc : w.cell? ⟨b, k, none⟩ = some u) (hk : k ≠ p) : (w.setCell ⟨b, p, none⟩ v).cell? ⟨b, k, none⟩ = some u := cell_ne hc (Or.inr hk)

theorem lnCell_append (l : List Wt) (x : Wt) (i k : Nat) : lnCell (l ++ [x]) i k = if i = l.length then x.nth k else lnCell l i k := by
  unfold lnCell
  by_cases h : i < l.length
  · rw [List.getElem?_append_left h, if_neg (by omega)]
  · rw [List.getElem?_append_right (by omega)]
    by_cases e : i = l.length
    · rw [if_pos e, show i - l.length = 0 by omega]; rfl
    · rw [if_neg e, List.getElem?_eq_none (by simp; omega), List.getElem?_eq_none (by omega)]

def lnSet (w : World) (b p : Nat) (x0 x1 x2 x3 : Value) : World := (((w.setCell ⟨b, p, none⟩ x0).setCell ⟨b, p + 1, none⟩ x1).setCell ⟨b, p + 2, none⟩ x2).setCell ⟨b, p + 3, none⟩ x3

theorem lnSet_other {w : World} {b p k : Nat} {x0 x1 x2 x3 u : Value} (hc : w.cell? ⟨b, k, none⟩ = some u) (hk : k < p ∨ p + 4 ≤ k) : (lnSet w b p x0 x1 x2 x3).cell? ⟨b, k, none⟩ = some u :=
  cell_ne (cell_ne (cell_ne (cell_ne hc (Or.inr (by omega))) (Or.inr (by omega))) (Or.inr (by omega))) (Or.inr (by omega))

theorem lnSet_same {w : World} {b p : Nat} {x0 x1 x2 x3 : Value} (hc : ∀ k, k < 4 → ∃ u, w.cell? ⟨b, p + k, none⟩ = some u) : (lnSet w b p x0 x1 x2 x3).cell? ⟨b, p, none⟩ = some x0 ∧ (lnSet w b p x0 x1 x2 x3).cell? ⟨b, p + 1, none⟩ = some x1 ∧ (lnSet w b p x0 x1 x2 x3).cell? ⟨b, p + 2, none⟩ = some x2 ∧ (lnSet w b p x0 x1 x2 x3).cell? ⟨b, p + 3, none⟩ = some x3 := by
  obtain ⟨u0, h0⟩ := hc 0 (by decide)
  obtain ⟨u1, h1⟩ := hc 1 (by decide)
  obtain ⟨u2, h2⟩ := hc 2 (by decide)
  obtain ⟨u3, h3⟩ := hc 3 (by decide)
  refine ⟨cell_ne (cell_ne (cell_ne (World.cell?_setCell_same _ _ _ h0) (Or.inr (by omega))) (Or.inr (by omega))) (Or.inr (by omega)),
    cell_ne (cell_ne (World.cell?_setCell_same _ _ _ (cell_ne h1 (Or.inr (by omega)))) (Or.inr (by omega))) (Or.inr (by omega)),
    cell_ne (World.cell?_setCell_same _ _ _ (cell_ne (cell_ne h2 (Or.inr (by omega))) (Or.inr (by omega)))) (Or.inr (by omega)),
    World.cell?_setCell_same _ _ _ (cell_ne (cell_ne (cell_ne h3 (Or.inr (by omega))) (Or.inr (by omega))) (Or.inr (by omega)))⟩

theorem LnAt.put {b o : Nat} {l : List Wt} {w : World} (h : LnAt b o l w) (x : Wt) (h8 : l.length < 8) :
    LnAt b o (l ++ [x]) ((lnSet w b (o + l.length * 4) (.int .i64 x.c) (.int .i64 x.g) (.int .i64 x.w) (.int .i64 x.v)).setCell ⟨b, o + 32, none⟩ (.int .i64 (l.length + 1))) where
  le := by simp; omega
  len := by
    rw [World.cell?_setCell_same _ _ _ (lnSet_other h.len (by omega))]; simp
  row i k hi hk := by
    refine cell_ne ?_ (Or.inr (by omega))
    rw [lnCell_append]
    by_cases e : i = l.length
    · rw [if_pos e]
      obtain ⟨e0, e1, e2, e3⟩ := lnSet_same (w := w) (b := b) (p := o + l.length * 4) (x0 := .int .i64 x.c) (x1 := .int .i64 x.g) (x2 := .int .i64 x.w) (x3 := .int .i64 x.v) (fun k hk => ⟨_, h.row l.length k h8 hk⟩)
      subst e
      match k, hk with
      | 0, _ => exact e0
      | 1, _ => exact e1
      | 2, _ => exact e2
      | 3, _ => exact e3
    · rw [if_neg e]
      exact lnSet_other (h.row i k hi hk) (by omega)
  frozen k hk := by
    simp only [lnSet, World.frozen?_setCell]; exact h.frozen k hk

set_option maxRecDepth 20000 in
set_option maxHeartbeats 1000000 in
theorem add_any (b o : Nat) (l : List Wt) (x : Wt) (w : World) (h : LnAt b o l w) (h8 : l.length < 8) :
    Calls Tryz.prog 151 #[.pointer (some ⟨b, o, none⟩), .agg #[.int .i64 x.c, .int .i64 x.g, .int .i64 x.w, .int .i64 x.v]] w fun e w' => e = .returned (.tuple #[]) ∧ LnAt b o (l ++ [x]) w' ∧ Turns (lnPl b o) w w' := by
  have h1 := h.alloc (.cells #[.int .i64 x.c, .int .i64 x.g, .int .i64 x.w, .int .i64 x.v] 97)
  have hba : Below w.heap.size w (w.alloc (.cells #[.int .i64 x.c, .int .i64 x.g, .int .i64 x.w, .int .i64 x.v] 97)) := (Below.refl _ _).alloc (Nat.le_refl _) _
  have q0 : (w.alloc (.cells #[.int .i64 x.c, .int .i64 x.g, .int .i64 x.w, .int .i64 x.v] 97)).cell? ⟨w.heap.size, 0, none⟩ = some (.int .i64 x.c) := by simp
  have q1 : (w.alloc (.cells #[.int .i64 x.c, .int .i64 x.g, .int .i64 x.w, .int .i64 x.v] 97)).cell? ⟨w.heap.size, 1, none⟩ = some (.int .i64 x.g) := by simp
  have q2 : (w.alloc (.cells #[.int .i64 x.c, .int .i64 x.g, .int .i64 x.w, .int .i64 x.v] 97)).cell? ⟨w.heap.size, 2, none⟩ = some (.int .i64 x.w) := by simp
  have q3 : (w.alloc (.cells #[.int .i64 x.c, .int .i64 x.g, .int .i64 x.w, .int .i64 x.v] 97)).cell? ⟨w.heap.size, 3, none⟩ = some (.int .i64 x.v) := by simp
  have HL : Hid (LnAt b o (l ++ [x]) ((lnSet (w.alloc (.cells #[.int .i64 x.c, .int .i64 x.g, .int .i64 x.w, .int .i64 x.v] 97)) b (o + l.length * 4) (.int .i64 x.c) (.int .i64 x.g) (.int .i64 x.w) (.int .i64 x.v)).setCell ⟨b, o + 32, none⟩ (.int .i64 (l.length + 1)))) := h1.put x h8
  generalize hw : w.alloc (.cells #[.int .i64 x.c, .int .i64 x.g, .int .i64 x.w, .int .i64 x.v] 97) = w1 at *
  have hl := h1.lt
  have hn := h1.len
  have i8 : (l.length : Int) < 8 := by omega
  have r0 : w1.cell? ⟨b, o + l.length * 4, none⟩ = some (.int .i64 (lnCell l l.length 0)) := h1.row l.length 0 h8 (by decide)
  have r1 := h1.row l.length 1 h8 (by decide)
  have r2 := h1.row l.length 2 h8 (by decide)
  have r3 := h1.row l.length 3 h8 (by decide)
  have f0 : w1.frozen? ⟨b, o + l.length * 4, none⟩ = false := h1.frozen (l.length * 4) (by omega)
  have f1 : w1.frozen? ⟨b, o + l.length * 4 + 1, none⟩ = false := by have := h1.frozen (l.length * 4 + 1) (by omega); simpa [Nat.add_assoc] using this
  have f2 : w1.frozen? ⟨b, o + l.length * 4 + 2, none⟩ = false := by have := h1.frozen (l.length * 4 + 2) (by omega); simpa [Nat.add_assoc] using this
  have f3 : w1.frozen? ⟨b, o + l.length * 4 + 3, none⟩ = false := by have := h1.frozen (l.length * 4 + 3) (by omega); simpa [Nat.add_assoc] using this
  have fn : w1.frozen? ⟨b, o + 32, none⟩ = false := h1.frozen 32 (by decide)
  clear h h1
  go_enter Tryz.func151, Tryz.ntmps151
  go_wp2
  go_region
  go_wp2
  go_end0
  have hp : ∀ k, k < 4 → lnPl b o b (o + l.length * 4 + k) := fun k hk => ⟨rfl, by omega, by omega⟩
  exact ⟨rfl, HL.out.drew, ((((((Turns.of_below hba).setCell _ (hp 0 (by decide))).setCell _ (hp 1 (by decide))).setCell _ (hp 2 (by decide))).setCell _ (hp 3 (by decide))).setCell _ ⟨rfl, by omega, by omega⟩).drew⟩
end Go.Proofs.YtdpmnlbnlnmjbaaGreatDoor
