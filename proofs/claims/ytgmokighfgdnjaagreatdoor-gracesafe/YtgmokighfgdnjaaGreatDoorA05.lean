import Derived.Test.YtgmokighfgdnjaaGreatDoorA04
import Derived.Laws.IdiomCopy
import Derived.Deep.RegionHeld3
import Derived.Deep.RegionLaw

/- RefI -/
namespace Go.Proofs.YtgmokighfgdnjaaGreatDoor
open Go.RowKit Go.Extern.Stop Go.Stop Go.Extern

def Rm.drainAll (s : Rm) (t : Nat) : List Wt → Rm
  | [] => s
  | x :: l => (s.drained t x l).drainAll t l

def Rm.gone (s : Rm) (t : Nat) : List Wt → Nat
  | [] => 0
  | x :: l => (if s.ar.has x.c x.g = true then 0 else 1) + (s.drained t x l).gone t l

theorem Rm.drained_waits (s : Rm) (t : Nat) (x : Wt) (l : List Wt) : (s.drained t x l).waits t = l := by
  unfold Rm.drained
  split
  · simp [Rm.setWord, Rm.setWaits]
  · simp [Rm.setWaits]

theorem Rm.drained_threads (s : Rm) (t : Nat) (x : Wt) (l : List Wt) : (s.drained t x l).threads = s.threads := by
  unfold Rm.drained
  split <;> rfl

theorem Rm.gone_le (l : List Wt) (t : Nat) : ∀ s : Rm, s.gone t l ≤ l.length := by
  induction l with
  | nil => intro s; exact Nat.zero_le _
  | cons x l ih =>
    intro s
    have := ih (s.drained t x l)
    rw [Rm.gone, List.length_cons]
    split <;> omega

def waitLen (tb t : Nat) (w : World) : Nat := match w.cell? ⟨tb, t, none⟩ with
  | some (.slice _ n _) => n
  | _ => 0

theorem RmAt.waitLen {p : RmPl} {s : Rm} {w : World} (h : RmAt p s w) {t : Nat} (ht : t < s.threads) : waitLen p.tb t w = (s.waits t).length := by
  obtain ⟨hv, hown⟩ := h.waits t ht
  obtain ⟨ad, cap, hvs, -⟩ := ownsRow_shape hown
  unfold Go.Proofs.YtgmokighfgdnjaaGreatDoor.waitLen
  rw [hv, hvs]

set_option maxHeartbeats 2000000 in
theorem rfence_any (p : RmPl) (s : Rm) (t : Nat) (w : World) (h : RmAt p s w) (ht : t < s.threads) (hx : ∀ x ∈ s.waits t, 0 ≤ x.w ∧ x.w < 4) (hfew : (s.waits t).length ≤ 1000) :
    Calls Tryz.prog 110 #[.pointer (some ⟨p.mb, 0, none⟩), .int .i64 t] w fun e w' => e = .returned (.int .i64 (s.gone t (s.waits t))) ∧ ∃ p', RmStep p s w p' (s.drainAll t (s.waits t)) w' := by
  have hgl := Rm.gone_le (s.waits t) t s
  generalize hG : s.gone t (s.waits t) = G at *
  generalize hD : s.drainAll t (s.waits t) = D at *
  have H0 : Hid (RmStep p s w p s w) := RmStep.refl h
  have HI : Hid (∃ p1 s1, s1.threads = s.threads ∧ (s1.waits t).length ≤ 1000 ∧ (∀ x ∈ s1.waits t, 0 ≤ x.w ∧ x.w < 4) ∧ 0 + s1.gone t (s1.waits t) = G ∧ s1.drainAll t (s1.waits t) = D ∧ RmStep p s w p1 s1 w) := ⟨p, s, rfl, hfew, hx, by omega, hD, RmStep.refl h⟩
  clear h hx hG hD
  go_enter Tryz.func110, Tryz.ntmps110
  go_wp2_with fail
  go_loopw [5, 6] (fun n _ wr => ∃ k : Nat, n = .int .i64 k ∧ ∃ p1 s1, s1.threads = s.threads ∧ (s1.waits t).length ≤ 1000 ∧ (∀ x ∈ s1.waits t, 0 ≤ x.w ∧ x.w < 4) ∧ k + s1.gone t (s1.waits t) = G ∧ s1.drainAll t (s1.waits t) = D ∧ RmStep p s w p1 s1 wr) (fun _ _ wr => waitLen p.tb t wr)
  case atStart => exact ⟨0, rfl, HI.out⟩
  case round =>
    obtain ⟨k, rfl, p1, s1, h1, h2, h3, h4, h5, h6⟩ := hrel
    have H6 : Hid (RmStep p s w p1 s1 wr) := h6
    have hk : k ≤ 1000 := by omega
    have A6 := h6.at'
    have htc := A6.tcap
    have t1 : t < s1.threads := by omega
    have ti : (t : Int) < s1.threads := by omega
    have hm1 := A6.mWaits
    have hwl := A6.waitLen t1
    rw [h6.tb] at hwl
    obtain ⟨hv, hown⟩ := A6.waits t t1
    obtain ⟨ad, cap, hvs, hcl, hcm, hcell⟩ := ownsRow_shape hown
    rw [hvs] at hv
    rw [h6.mb] at hm1
    have HA : Hid (RmAt p1 s1 wr) := A6
    clear A6 hown hcell hvs h6
    cases hl : s1.waits t with
    | nil =>
      rw [hl] at hv h4 h5
      rw [List.length_nil] at hv
      have HG : Hid (k = G) := h4
      have HD : Hid (s1 = D) := h5
      clear h4 h5 h3 HI H0 HA
      go_wp2
      go_ret
      exact ⟨by rw [HG.out]; rfl, p1, by rw [← HD.out]; exact H6.out⟩
    | cons x l =>
      rw [hl] at hv h2 h3 h4 h5 hwl
      have hx := h3 x (List.mem_cons_self ..)
      have hll : l.length ≤ 1000 := by rw [List.length_cons] at h2; omega
      have l0 : (0 : Int) < (l.length : Int) + 1 := by omega
      rw [List.length_cons] at hv
      have HN : Hid (∀ p2 w2 (j : Nat), (j : Int) = k + (if s1.ar.has x.c x.g = true then 0 else 1) → RmStep p1 s1 wr p2 (s1.drained t x l) w2 → (∃ k' : Nat, (Value.int .i64 j) = .int .i64 k' ∧ ∃ p1 s1, s1.threads = s.threads ∧ (s1.waits t).length ≤ 1000 ∧ (∀ x ∈ s1.waits t, 0 ≤ x.w ∧ x.w < 4) ∧ k' + s1.gone t (s1.waits t) = G ∧ s1.drainAll t (s1.waits t) = D ∧ RmStep p s w p1 s1 w2) ∧ waitLen p.tb t w2 < waitLen p.tb t wr) := by
        intro p2 w2 j hj hst
        refine ⟨⟨j, rfl, p2, s1.drained t x l, ?_, ?_, ?_, ?_, ?_, H6.out.trans hst⟩, ?_⟩
        · rw [Rm.drained_threads]; exact h1
        · rw [Rm.drained_waits]; exact hll
        · rw [Rm.drained_waits]; exact fun y hy => h3 y (List.mem_cons_of_mem _ hy)
        · rw [Rm.drained_waits]
          rw [Rm.gone] at h4
          split at h4 <;> rename_i hh <;> simp only [hh, if_true] at hj <;> simp at hj <;> omega
        · rw [Rm.drained_waits]; exact h5
        · rw [hwl, ← H6.out.tb, ← hst.tb, hst.at'.waitLen (by rw [Rm.drained_threads]; exact t1), Rm.drained_waits, List.length_cons]
          omega
      cases hh : s1.ar.has x.c x.g
      · have HC : Hid (Calls Tryz.prog 77 #[.pointer (some ⟨p.mb, 0, none⟩), .int .i64 t] wr fun e w' => e = .returned (.int .i64 7) ∧ ∃ p', RmStep p1 s1 wr p' (s1.drained t x l) w') := by
          have := rdrain_gone p1 s1 t x l wr HA.out t1 hl hx hll hh
          rw [H6.out.mb] at this
          exact this
        rw [hh] at HN
        clear hh HA H6 H0 HI h3 h4 h5 hwl hl
        go_wp2_with fail
        refine HC.out.mono ?_
        rintro e2 w2 ⟨rfl, p2, hst⟩
        have HF := HN.out p2 w2 (k + 1) (by simp) hst
        clear HN HC hst hm1 hv
        go_wp2
        go_roundw
        case rel =>
          obtain ⟨k', e1, e2⟩ := HF.1
          clear HF
          have e3 : ((k + 1 : Nat) : Int) = k' := by injection e1
          exact ⟨k', by go_num, e2⟩
        case measure => exact HF.2
      · have HC : Hid (Calls Tryz.prog 77 #[.pointer (some ⟨p.mb, 0, none⟩), .int .i64 t] wr fun e w' => e = .returned (.int .i64 0) ∧ ∃ p', RmStep p1 s1 wr p' (s1.drained t x l) w') := by
          have := rdrain_done p1 s1 t x l wr HA.out t1 hl hx hll hh
          rw [H6.out.mb] at this
          exact this
        rw [hh] at HN
        clear hh HA H6 H0 HI h3 h4 h5 hwl hl
        go_wp2_with fail
        refine HC.out.mono ?_
        rintro e2 w2 ⟨rfl, p2, hst⟩
        have HF := HN.out p2 w2 k (by simp) hst
        clear HN HC hst hm1 hv
        go_wp2
        go_roundw
        case rel => exact HF.1
        case measure => exact HF.2
end Go.Proofs.YtgmokighfgdnjaaGreatDoor

/- RefJ -/
namespace Go.Proofs.YtgmokighfgdnjaaGreatDoor
open Go.RowKit Go.Extern.Stop Go.Stop Go.Extern

theorem ralloc_step (p : RmPl) (s : Rm) (c : Nat) (w : World) (h : RmAt p s w) (hc : c < s.ar.size) (hf : ∀ j, j < c → s.ar.there j = true) (ht : s.ar.there c = false) (hg : s.ar.given c + 1 < 4611686018427387904) :
    Calls Tryz.prog 73 #[.pointer (some ⟨p.mb, 0, none⟩)] w fun e w' => e = .returned (.tuple #[.agg #[.int .i64 c, .int .i64 (s.ar.given c)], .int .i64 0]) ∧ ∃ p', RmStep p s w p' (s.give c) w' := by
  refine (ralloc_some p s c w h hc hf ht hg).mono ?_
  rintro e w' ⟨he, hT, b, hb, hA⟩
  refine ⟨he, p.withWords c b 4, rfl, rfl, hA, hT.mono (fun k _ _ e => Or.inr (Or.inl e)), fun k hk => ?_⟩
  rcases RmPl.fp_words p s (s.give c) c b 4 k rfl rfl hk with e | e
  · exact Or.inl e
  · exact Or.inr (by omega)

theorem RmStep.setThere {p : RmPl} {s : Rm} {w : World} (h : RmAt p s w) (c : Nat) (hc : c < s.ar.size) (b : Bool) : RmStep p s w p (s.setThere c b) (w.setCell ⟨p.cb, c * 3 + 2, none⟩ (.bool b)) :=
  ⟨rfl, rfl, h.setThere c hc b, (Turns.refl _ _).setCell _ (Or.inr (Or.inl rfl)), fun _ hk => Or.inl hk⟩

theorem RmStep.setWord {p : RmPl} {s : Rm} {w : World} (h : RmAt p s w) (c m : Nat) (hc : c < s.ar.size) (hm : m < 4) (v : Int) : RmStep p s w p (s.setWord c m v) (w.setCell ⟨p.wb c, m, none⟩ (.int .i64 v)) :=
  ⟨rfl, rfl, h.setWord c m hc hm v, (Turns.refl _ _).setCell _ (Or.inr (Or.inr (Or.inr (Or.inl ⟨c, hc, rfl⟩)))), fun _ hk => Or.inl hk⟩

theorem Rm.drained_ar (s : Rm) (t : Nat) (x : Wt) (l : List Wt) : (s.drained t x l).ar.size = s.ar.size ∧ (s.drained t x l).ar.there = s.ar.there ∧ (s.drained t x l).ar.given = s.ar.given := by
  unfold Rm.drained
  split <;> exact ⟨rfl, rfl, rfl⟩

theorem Rm.drainAll_ar (l : List Wt) (t : Nat) : ∀ s : Rm, (s.drainAll t l).ar.size = s.ar.size ∧ (s.drainAll t l).ar.there = s.ar.there ∧ (s.drainAll t l).ar.given = s.ar.given ∧ (s.drainAll t l).threads = s.threads := by
  induction l with
  | nil => intro s; exact ⟨rfl, rfl, rfl, rfl⟩
  | cons x l ih =>
    intro s
    obtain ⟨h1, h2, h3, h4⟩ := ih (s.drained t x l)
    obtain ⟨k1, k2, k3⟩ := s.drained_ar t x l
    exact ⟨h1.trans k1, h2.trans k2, h3.trans k3, h4.trans (s.drained_threads t x l)⟩

theorem Rm.drainAll_has (l : List Wt) (t : Nat) (s : Rm) (c g : Int) : (s.drainAll t l).ar.has c g = s.ar.has c g := by
  obtain ⟨h1, h2, h3, -⟩ := s.drainAll_ar l t
  simp only [Ar.has, h1, h2, h3]

theorem Rm.drainAll_waits (l : List Wt) (t : Nat) : ∀ s : Rm, s.waits t = l → (s.drainAll t l).waits t = [] := by
  induction l with
  | nil => intro s h; exact h
  | cons x l ih => intro s _; exact ih (s.drained t x l) (s.drained_waits t x l)

theorem Rm.drained_waits_ne (s : Rm) (t u : Nat) (x : Wt) (l : List Wt) (h : u ≠ t) : (s.drained t x l).waits u = s.waits u := by
  unfold Rm.drained
  split <;> simp [Rm.setWord, Rm.setWaits, h]

theorem Rm.drainAll_waits_ne (l : List Wt) (t u : Nat) (h : u ≠ t) : ∀ s : Rm, (s.drainAll t l).waits u = s.waits u := by
  induction l with
  | nil => intro s; rfl
  | cons x l ih => intro s; rw [Rm.drainAll, ih, Rm.drained_waits_ne _ _ _ _ _ h]
end Go.Proofs.YtgmokighfgdnjaaGreatDoor

/- MemA -/
namespace Go.Proofs.YtgmokighfgdnjaaGreatDoor
open Go.RowKit Go.Extern.Stop Go.Stop Go.Extern

def Wt.nth (x : Wt) : Nat → Int
  | 0 => x.c
  | 1 => x.g
  | 2 => x.w
  | _ => x.v
def lnCell (l : List Wt) (i k : Nat) : Int := match l[i]? with
  | some x => x.nth k
  | none => 0

structure LnAt (b o : Nat) (l : List Wt) (w : World) : Prop where
  le : l.length ≤ 8
  len : w.cell? ⟨b, o + 32, none⟩ = some (.int .i64 l.length)
  row : ∀ i k, i < 8 → k < 4 → w.cell? ⟨b, o + i * 4 + k, none⟩ = some (.int .i64 (lnCell l i k))
  frozen : ∀ k, k < 33 → w.frozen? ⟨b, o + k, none⟩ = false

theorem LnAt.lt {b o : Nat} {l : List Wt} {w : World} (h : LnAt b o l w) : b < w.heap.size := World.block_lt_of_cell? _ _ h.len
theorem LnAt.turns {S : Nat → Nat → Prop} {b o : Nat} {l : List Wt} {w w' : World} (h : LnAt b o l w) (t : Turns S w w') (hS : ∀ k, k < 33 → ¬ S b (o + k)) : LnAt b o l w' where
  le := h.le
  len := t.keep h.len (hS 32 (by decide))
  row i k hi hk := t.keep (h.row i k hi hk) (by have := hS (i * 4 + k) (by omega); simpa [Nat.add_assoc] using this)
  frozen k hk := by rw [t.frozen b (o + k) h.lt (hS k hk)]; exact h.frozen k hk
theorem LnAt.below {b o : Nat} {l : List Wt} {w w' : World} (h : LnAt b o l w) (hb : Below w.heap.size w w') : LnAt b o l w' :=
  h.turns (Turns.of_below (S := fun _ _ => False) hb) (fun _ _ h => h)
theorem LnAt.alloc {b o : Nat} {l : List Wt} {w : World} (h : LnAt b o l w) (ob : Obj) : LnAt b o l (w.alloc ob) := h.below ((Below.refl _ _).alloc (Nat.le_refl _) _)
theorem LnAt.drewN {b o : Nat} {l : List Wt} {w : World} (h : LnAt b o l w) (n : Nat) : LnAt b o l (w.drewN n) := h.below (Below.drewN' n)

theorem LnAt.drew {b o : Nat} {l : List Wt} {w : World} (h : LnAt b o l w) : LnAt b o l w.drew := h.below (Below.refl _ _).drew

theorem LnAt.other {b o : Nat} {l : List Wt} {w : World} (_ : LnAt b o l w) {p : Nat} {v : Value} {k : Nat} {u : Value} (hc : w.cell? ⟨b, k, none⟩ = some u) (hk : k ≠ p) : (w.setCell ⟨b, p, none⟩ v).cell? ⟨b, k, none⟩ = some u := cell_ne hc (Or.inr hk)

theorem lnCell_append (l : List Wt) (x : Wt) (i k : Nat) : lnCell (l ++ [x]) i k = if i = l.length then x.nth k else lnCell l i k := by
  unfold lnCell
  by_cases h : i < l.length
  · rw [List.getElem?_append_left h, if_neg (by omega)]
  · rw [List.getElem?_append_right (by omega)]
    by_cases e : i = l.length
    · rw [if_pos e, show i - l.length = 0 by omega]; rfl
    · rw [if_neg e, List.getElem?_eq_none (by simp; omega), List.getElem?_eq_none (by omega)]

def lnSet (w : World) (b p : Nat) (x0 x1 x2 x3 : Value) : World := (((w.setCell ⟨b, p, none⟩ x0).setCell ⟨b, p + 1, none⟩ x1).setCell ⟨b, p + 2, none⟩ x2).setCell ⟨b, p + 3, none⟩ x3

theorem lnSet_other {w : World} {b p k : Nat} {x0 x1 x2 x3 u : Value} (hc : w.cell? ⟨b, k, none⟩ = some u) (hk : k < p ∨ p + 4 ≤ k) : (lnSet w b p x0 x1 x2 x3).cell? ⟨b, k, none⟩ = some u :=
  cell_ne (cell_ne (cell_ne (cell_ne hc (Or.inr (by omega))) (Or.inr (by omega))) (Or.inr (by omega))) (Or.inr (by omega))

theorem lnSet_same {w : World} {b p : Nat} {x0 x1 x2 x3 : Value} (hc : ∀ k, k < 4 → ∃ u, w.cell? ⟨b, p + k, none⟩ = some u) : (lnSet w b p x0 x1 x2 x3).cell? ⟨b, p, none⟩ = some x0 ∧ (lnSet w b p x0 x1 x2 x3).cell? ⟨b, p + 1, none⟩ = some x1 ∧ (lnSet w b p x0 x1 x2 x3).cell? ⟨b, p + 2, none⟩ = some x2 ∧ (lnSet w b p x0 x1 x2 x3).cell? ⟨b, p + 3, none⟩ = some x3 := by
  obtain ⟨u0, h0⟩ := hc 0 (by decide)
  obtain ⟨u1, h1⟩ := hc 1 (by decide)
  obtain ⟨u2, h2⟩ := hc 2 (by decide)
  obtain ⟨u3, h3⟩ := hc 3 (by decide)
  refine ⟨cell_ne (cell_ne (cell_ne (World.cell?_setCell_same _ _ _ h0) (Or.inr (by omega))) (Or.inr (by omega))) (Or.inr (by omega)),
    cell_ne (cell_ne (World.cell?_setCell_same _ _ _ (cell_ne h1 (Or.inr (by omega)))) (Or.inr (by omega))) (Or.inr (by omega)),
    cell_ne (World.cell?_setCell_same _ _ _ (cell_ne (cell_ne h2 (Or.inr (by omega))) (Or.inr (by omega)))) (Or.inr (by omega)),
    World.cell?_setCell_same _ _ _ (cell_ne (cell_ne (cell_ne h3 (Or.inr (by omega))) (Or.inr (by omega))) (Or.inr (by omega)))⟩

theorem LnAt.put {b o : Nat} {l : List Wt} {w : World} (h : LnAt b o l w) (x : Wt) (h8 : l.length < 8) :
    LnAt b o (l ++ [x]) ((lnSet w b (o + l.length * 4) (.int .i64 x.c) (.int .i64 x.g) (.int .i64 x.w) (.int .i64 x.v)).setCell ⟨b, o + 32, none⟩ (.int .i64 (l.length + 1))) where
  le := by simp; omega
  len := by
    rw [World.cell?_setCell_same _ _ _ (lnSet_other h.len (by omega))]; simp
  row i k hi hk := by
    refine cell_ne ?_ (Or.inr (by omega))
    rw [lnCell_append]
    by_cases e : i = l.length
    · rw [if_pos e]
      obtain ⟨e0, e1, e2, e3⟩ := lnSet_same (w := w) (b := b) (p := o + l.length * 4) (x0 := .int .i64 x.c) (x1 := .int .i64 x.g) (x2 := .int .i64 x.w) (x3 := .int .i64 x.v) (fun k hk => ⟨_, h.row l.length k h8 hk⟩)
      subst e
      match k, hk with
      | 0, _ => exact e0
      | 1, _ => exact e1
      | 2, _ => exact e2
      | 3, _ => exact e3
    · rw [if_neg e]
      exact lnSet_other (h.row i k hi hk) (by omega)
  frozen k hk := by
    simp only [lnSet, World.frozen?_setCell]; exact h.frozen k hk

end Go.Proofs.YtgmokighfgdnjaaGreatDoor

/- MemB -/
namespace Go.Proofs.YtgmokighfgdnjaaGreatDoor
open Go.RowKit Go.Extern.Stop Go.Stop Go.Extern

theorem wtCells_nth (l : List Wt) (i k : Nat) (hi : i < l.length) (hk : k < 4) : (wtCells l)[i * 4 + k]? = some (.int .i64 (lnCell l i k)) := by
  obtain ⟨a0, a1, a2, a3⟩ := wtCells_at l i l[i] (List.getElem?_eq_getElem hi)
  unfold lnCell
  rw [List.getElem?_eq_getElem hi]
  match k, hk with
  | 0, _ => exact a0
  | 1, _ => exact a1
  | 2, _ => exact a2
  | 3, _ => exact a3

theorem turns_setCells {S : Nat → Nat → Prop} {a : World} (b : Nat) : ∀ (vs : List Value) (o : Nat) (w : World), Turns S a w → (∀ j, j < vs.length → S b (o + j)) → Turns S a (w.setCells b o vs)
  | [], _, _, h, _ => h
  | v :: r, o, w, h, hS => turns_setCells b r (o + 1) _ (h.setCell v (by simpa using hS 0 (by simp))) (fun j hj => by have := hS (j + 1) (by simp; omega); rwa [show o + (j + 1) = o + 1 + j by omega] at this)

theorem lnCell_cons (x : Wt) (l : List Wt) (i k : Nat) : lnCell (x :: l) (i + 1) k = lnCell l i k := rfl
theorem lnCell_out (l : List Wt) (i k : Nat) (h : l.length ≤ i) : lnCell l i k = 0 := by unfold lnCell; rw [List.getElem?_eq_none h]

theorem LnAt.take {b o : Nat} {x : Wt} {l : List Wt} {w : World} (h : LnAt b o (x :: l) w) :
    LnAt b o l (lnSet ((w.setCells b o (wtCells l)).setCell ⟨b, o + 32, none⟩ (.int .i64 l.length)) b (o + l.length * 4) (.int .i64 0) (.int .i64 0) (.int .i64 0) (.int .i64 0)) := by
  have h8 := h.le
  simp only [List.length_cons] at h8
  have hout : ∀ p u, w.cell? ⟨b, p, none⟩ = some u → o + l.length * 4 ≤ p → (w.setCells b o (wtCells l)).cell? ⟨b, p, none⟩ = some u := fun p u hu hp => by
    rw [World.cell?_setCells_out _ _ _ _ _ (fun _ _ => Or.inr (by rw [wtCells_length]; exact hp))]; exact hu
  have hall : ∀ p, p < l.length * 4 → ∃ u, (w.setCells b o (wtCells l)).cell? ⟨b, o + p, none⟩ = some u ∧ (wtCells l)[p]? = some u := fun p hp => by
    have hl : p < (wtCells l).length := by rw [wtCells_length]; exact hp
    refine ⟨(wtCells l)[p], World.cell?_setCells_in b (wtCells l) o w (fun j hj => ?_) p hl, List.getElem?_eq_getElem hl⟩
    rw [wtCells_length] at hj
    have r := h.row (j / 4) (j % 4) (by omega) (by omega)
    rw [show o + j / 4 * 4 + j % 4 = o + j by omega] at r
    rw [r]; rfl
  refine ⟨by omega, ?_, fun i k hi hk => ?_, fun k hk => ?_⟩
  · exact lnSet_other (World.cell?_setCell_same _ _ _ (hout _ _ h.len (by omega))) (by omega)
  · by_cases e : i = l.length
    · have r : ∀ k, k < 4 → ∃ u, ((w.setCells b o (wtCells l)).setCell ⟨b, o + 32, none⟩ (.int .i64 l.length)).cell? ⟨b, o + l.length * 4 + k, none⟩ = some u := fun k hk => ⟨_, cell_ne (hout _ _ (h.row l.length k (by omega) hk) (by omega)) (Or.inr (by omega))⟩
      obtain ⟨e0, e1, e2, e3⟩ := lnSet_same (x0 := .int .i64 0) (x1 := .int .i64 0) (x2 := .int .i64 0) (x3 := .int .i64 0) r
      rw [lnCell_out l i k (by omega)]
      subst e
      match k, hk with
      | 0, _ => exact e0
      | 1, _ => exact e1
      | 2, _ => exact e2
      | 3, _ => exact e3
    · refine lnSet_other (cell_ne ?_ (Or.inr (by omega))) (by omega)
      by_cases hlt : i < l.length
      · obtain ⟨u, hu, hu'⟩ := hall (i * 4 + k) (by omega)
        rw [wtCells_nth l i k hlt hk] at hu'
        rw [show o + i * 4 + k = o + (i * 4 + k) by omega, hu, ← hu']
      · have r := h.row i k hi hk
        obtain ⟨m, rfl⟩ : ∃ m, i = m + 1 := ⟨i - 1, by omega⟩
        rw [lnCell_cons, lnCell_out l m k (by omega)] at r
        rw [lnCell_out l _ k (by omega)]
        exact hout _ _ r (by omega)
  · simp only [lnSet, World.frozen?_setCell, World.frozen?_setCells]
    exact h.frozen k hk

theorem LnAt.apart {b o : Nat} {l : List Wt} {w : World} (h : LnAt b o l w) {p : Addr} (v : Value) (hp : p.block ≠ b) : LnAt b o l (w.setCell p v) where
  le := h.le
  len := by rw [World.cell?_setCell_other _ _ _ _ (fun e => hp (by rw [e]))]; exact h.len
  row i k hi hk := by rw [World.cell?_setCell_other _ _ _ _ (fun e => hp (by rw [e]))]; exact h.row i k hi hk
  frozen k hk := by rw [World.frozen?_setCell]; exact h.frozen k hk

end Go.Proofs.YtgmokighfgdnjaaGreatDoor
