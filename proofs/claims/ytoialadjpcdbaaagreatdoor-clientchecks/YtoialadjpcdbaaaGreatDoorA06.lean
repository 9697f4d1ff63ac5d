import Derived.Test.YtoialadjpcdbaaaGreatDoorA05
import Derived.Lib.QuietBelow
import Derived.OwnWalk
import Derived.RegionTactic
import Derived.BigRegion

/- RefA -/
namespace Go.Proofs.YtoialadjpcdbaaaGreatDoor
open Go.RowKit Go.Extern.Stop Go.Stop Go.Extern Go.Sort

structure Wt where
  c : Int
  g : Int
  w : Int
  v : Int

structure Rm where
  ar : Ar
  threads : Nat
  waits : Nat → List Wt

def Wt.cells (x : Wt) : List Value := [.int .i64 x.c, .int .i64 x.g, .int .i64 x.w, .int .i64 x.v]
def wtCells (l : List Wt) : List Value := l.flatMap Wt.cells

structure RmPl where
  mb : Nat
  cb : Nat
  tb : Nat
  ccap : Nat
  tcap : Nat
  wb : Nat → Nat
  wcap : Nat → Nat
  wv : Nat → Value

def RmPl.fp (p : RmPl) (s : Rm) (k : Nat) : Prop :=
  k = p.mb ∨ k = p.cb ∨ k = p.tb ∨ (∃ c, c < s.ar.size ∧ k = p.wb c) ∨ (∃ t, t < s.threads ∧ (p.wv t).ownBlock = some k)

structure RmAt (p : RmPl) (s : Rm) (w : World) : Prop where
  small : s.ar.size ≤ 64
  few : s.threads ≤ 6
  mCells : w.cell? ⟨p.mb, 0, none⟩ = some (.slice (some ⟨p.cb, 0, none⟩) s.ar.size p.ccap)
  mWaits : w.cell? ⟨p.mb, 1, none⟩ = some (.slice (some ⟨p.tb, 0, none⟩) s.threads p.tcap)
  ccap : s.ar.size ≤ p.ccap
  tcap : s.threads ≤ p.tcap
  cWords : ∀ c, c < s.ar.size → w.cell? ⟨p.cb, c * 3, none⟩ = some (.slice (some ⟨p.wb c, 0, none⟩) 4 (p.wcap c))
  cTimes : ∀ c, c < s.ar.size → w.cell? ⟨p.cb, c * 3 + 1, none⟩ = some (.int .i64 (s.ar.given c))
  cHere : ∀ c, c < s.ar.size → w.cell? ⟨p.cb, c * 3 + 2, none⟩ = some (.bool (s.ar.there c))
  wcap : ∀ c, c < s.ar.size → 4 ≤ p.wcap c
  words : ∀ c k, c < s.ar.size → k < 4 → w.cell? ⟨p.wb c, k, none⟩ = some (.int .i64 (s.ar.words c k))
  bound : ∀ c, s.ar.given c < 4611686018427387904
  waits : ∀ t, t < s.threads → w.cell? ⟨p.tb, t, none⟩ = some (p.wv t) ∧ w.ownsRow 0 235 4 (p.wv t) (s.waits t).length (wtCells (s.waits t))
  fm : ∀ o, w.frozen? ⟨p.mb, o, none⟩ = false
  fc : ∀ o, w.frozen? ⟨p.cb, o, none⟩ = false
  ft : ∀ o, w.frozen? ⟨p.tb, o, none⟩ = false
  fw : ∀ c o, c < s.ar.size → w.frozen? ⟨p.wb c, o, none⟩ = false
  lc : p.cb < w.heap.size
  lt : p.tb < w.heap.size
  d1 : p.mb ≠ p.cb
  d2 : p.mb ≠ p.tb
  d3 : p.cb ≠ p.tb
  dw : ∀ c, c < s.ar.size → p.wb c ≠ p.mb ∧ p.wb c ≠ p.cb ∧ p.wb c ≠ p.tb
  dwi : ∀ c d, c < s.ar.size → d < s.ar.size → c ≠ d → p.wb c ≠ p.wb d
  dv : ∀ t k, t < s.threads → (p.wv t).ownBlock = some k → k ≠ p.mb ∧ k ≠ p.cb ∧ k ≠ p.tb ∧ ∀ c, c < s.ar.size → k ≠ p.wb c
  dvi : ∀ t u k, t < s.threads → u < s.threads → t ≠ u → (p.wv t).ownBlock = some k → (p.wv u).ownBlock ≠ some k

theorem RmAt.lm {p : RmPl} {s : Rm} {w : World} (h : RmAt p s w) : p.mb < w.heap.size := World.block_lt_of_cell? _ _ h.mCells
theorem RmAt.lw {p : RmPl} {s : Rm} {w : World} (h : RmAt p s w) {c : Nat} (hc : c < s.ar.size) : p.wb c < w.heap.size := World.block_lt_of_cell? _ _ (h.words c 0 hc (by decide))
theorem RmAt.lv {p : RmPl} {s : Rm} {w : World} (h : RmAt p s w) {t k : Nat} (ht : t < s.threads) (hk : (p.wv t).ownBlock = some k) : k < w.heap.size := ((h.waits t ht).2.lt k hk).2

theorem RmAt.turns {S : Nat → Nat → Prop} {p : RmPl} {s : Rm} {w w' : World} (h : RmAt p s w) (t : Turns S w w') (hS : ∀ k o, p.fp s k → ¬ S k o) : RmAt p s w' where
  small := h.small
  few := h.few
  mCells := t.keep h.mCells (hS _ _ (Or.inl rfl))
  mWaits := t.keep h.mWaits (hS _ _ (Or.inl rfl))
  ccap := h.ccap
  tcap := h.tcap
  cWords c hc := t.keep (h.cWords c hc) (hS _ _ (Or.inr (Or.inl rfl)))
  cTimes c hc := t.keep (h.cTimes c hc) (hS _ _ (Or.inr (Or.inl rfl)))
  cHere c hc := t.keep (h.cHere c hc) (hS _ _ (Or.inr (Or.inl rfl)))
  wcap := h.wcap
  words c k hc hk := t.keep (h.words c k hc hk) (hS _ _ (Or.inr (Or.inr (Or.inr (Or.inl ⟨c, hc, rfl⟩)))))
  bound := h.bound
  waits u hu := ⟨t.keep (h.waits u hu).1 (hS _ _ (Or.inr (Or.inr (Or.inl rfl)))), ownsRow_block (h.waits u hu).2 fun k hk => t.block k (h.lv hu hk) fun o => hS k o (Or.inr (Or.inr (Or.inr (Or.inr ⟨u, hu, hk⟩))))⟩
  fm o := by rw [t.frozen _ _ h.lm (hS _ _ (Or.inl rfl))]; exact h.fm o
  fc o := by rw [t.frozen _ _ h.lc (hS _ _ (Or.inr (Or.inl rfl)))]; exact h.fc o
  ft o := by rw [t.frozen _ _ h.lt (hS _ _ (Or.inr (Or.inr (Or.inl rfl))))]; exact h.ft o
  fw c o hc := by rw [t.frozen _ _ (h.lw hc) (hS _ _ (Or.inr (Or.inr (Or.inr (Or.inl ⟨c, hc, rfl⟩)))))]; exact h.fw c o hc
  lc := Nat.lt_of_lt_of_le h.lc t.size
  lt := Nat.lt_of_lt_of_le h.lt t.size
  d1 := h.d1
  d2 := h.d2
  d3 := h.d3
  dw := h.dw
  dwi := h.dwi
  dv := h.dv
  dvi := h.dvi

theorem RmAt.below {p : RmPl} {s : Rm} {w w' : World} (h : RmAt p s w) (hb : Below w.heap.size w w') : RmAt p s w' :=
  h.turns (Turns.of_below (S := fun _ _ => False) hb) (fun _ _ _ h => h)
theorem RmAt.alloc {p : RmPl} {s : Rm} {w : World} (h : RmAt p s w) (o : Obj) : RmAt p s (w.alloc o) := h.below ((Below.refl _ _).alloc (Nat.le_refl _) _)

theorem RmAt.drewN {p : RmPl} {s : Rm} {w : World} (h : RmAt p s w) (n : Nat) : RmAt p s (w.drewN n) := h.below (Below.drewN' n)

end Go.Proofs.YtoialadjpcdbaaaGreatDoor

/- RefB -/
namespace Go.Proofs.YtoialadjpcdbaaaGreatDoor
open Go.RowKit Go.Extern.Stop Go.Stop Go.Extern

theorem wtCells_length (l : List Wt) : (wtCells l).length = l.length * 4 := by
  induction l with
  | nil => rfl
  | cons x l ih =>
    rw [show wtCells (x :: l) = x.cells ++ wtCells l from rfl, List.length_append, ih]
    simp [Wt.cells]; omega

theorem wtCells_at (l : List Wt) (i : Nat) (x : Wt) (h : l[i]? = some x) :
    (wtCells l)[i * 4]? = some (.int .i64 x.c) ∧ (wtCells l)[i * 4 + 1]? = some (.int .i64 x.g) ∧ (wtCells l)[i * 4 + 2]? = some (.int .i64 x.w) ∧ (wtCells l)[i * 4 + 3]? = some (.int .i64 x.v) := by
  induction l generalizing i with
  | nil => simp at h
  | cons y l ih =>
    rw [show wtCells (y :: l) = y.cells ++ wtCells l from rfl]
    have hy : y.cells.length = 4 := rfl
    cases i with
    | zero =>
      simp only [List.getElem?_cons_zero, Option.some.injEq] at h
      subst h
      exact ⟨rfl, rfl, rfl, rfl⟩
    | succ i =>
      simp only [List.getElem?_cons_succ] at h
      have := ih i h
      rw [List.getElem?_append_right (by rw [hy]; omega), List.getElem?_append_right (by rw [hy]; omega), List.getElem?_append_right (by rw [hy]; omega), List.getElem?_append_right (by rw [hy]; omega), hy,
        show (i + 1) * 4 - 4 = i * 4 by omega, show (i + 1) * 4 + 1 - 4 = i * 4 + 1 by omega, show (i + 1) * 4 + 2 - 4 = i * 4 + 2 by omega, show (i + 1) * 4 + 3 - 4 = i * 4 + 3 by omega]
      exact this

theorem ownsRow_shape {w : World} {base : Nat} {e : TypeId} {size : Nat} {v : Value} {n : Nat} {xs : List Value} (h : w.ownsRow base e size v n xs) :
    ∃ ad cap, v = .slice ad n cap ∧ n ≤ cap ∧ cap ≤ maxLen ∧ ∀ j u, xs[j]? = some u → ∃ g, ad = some ⟨g, 0, none⟩ ∧ w.cell? ⟨g, j, none⟩ = some u := by
  have h' := h
  obtain ⟨h1, h2⟩ := h
  rcases h2 with ⟨rfl, rfl⟩ | ⟨g, cap, cur, rfl, hg, hh, hn, hm, r⟩
  · refine ⟨none, 0, rfl, Nat.le_refl _, Nat.zero_le _, fun j u hj => ?_⟩
    have : xs = [] := List.length_eq_zero_iff.1 (by omega)
    subst this
    simp at hj
  · refine ⟨_, cap, rfl, hn, hm, fun j u hj => ⟨g, rfl, ?_⟩⟩
    have hlt : j < xs.length := (List.getElem?_eq_some_iff.1 hj).1
    rw [h'.cellAt j (by omega)]
    exact hj

def Wt.pick (c g k : Int) (v : Int) (x : Wt) : Int := if x.c = c ∧ x.g = g ∧ x.w = k then x.v else v

def Rm.load (s : Rm) (t : Nat) (c g k : Int) : Int × Nat :=
  if s.ar.at c g k = 0 then ((s.waits t).foldl (Wt.pick c g k) (s.ar.words c.toNat k.toNat), 0) else (0, s.ar.at c g k)

end Go.Proofs.YtoialadjpcdbaaaGreatDoor

/- RefC -/
namespace Go.Proofs.YtoialadjpcdbaaaGreatDoor
open Go.RowKit

def Rm.setThere (s : Rm) (c : Nat) (t : Bool) : Rm := { s with ar := s.ar.setThere c t }
def Rm.setWord (s : Rm) (c k : Nat) (v : Int) : Rm := { s with ar := s.ar.setWord c k v }
def Rm.setGiven (s : Rm) (c g : Nat) : Rm := { s with ar := s.ar.setGiven c g }
def Ar.zero (s : Ar) (c : Nat) : Ar := { s with words := fun j k => if j = c ∧ k < 4 then 0 else s.words j k }
def Rm.zero (s : Rm) (c : Nat) : Rm := { s with ar := s.ar.zero c }
def Rm.give (s : Rm) (c : Nat) : Rm := { s with ar := s.ar.give c }
theorem Rm.give_eq (s : Rm) (c : Nat) : ((s.zero c).setGiven c (s.ar.given c + 1)).setThere c true = s.give c := rfl

theorem RmAt.setThere {p : RmPl} {s : Rm} {w : World} (h : RmAt p s w) (c : Nat) (hc : c < s.ar.size) (t : Bool) : RmAt p (s.setThere c t) (w.setCell ⟨p.cb, c * 3 + 2, none⟩ (.bool t)) where
  small := h.small
  few := h.few
  mCells := cell_ne h.mCells (Or.inl h.d1)
  mWaits := cell_ne h.mWaits (Or.inl h.d1)
  ccap := h.ccap
  tcap := h.tcap
  cWords j hj := cell_ne (h.cWords j hj) (Or.inr (by omega))
  cTimes j hj := cell_ne (h.cTimes j hj) (Or.inr (by omega))
  cHere j hj := by
    by_cases e : j = c
    · subst e
      simp only [Rm.setThere, Ar.setThere, if_true]
      exact World.cell?_setCell_same _ _ _ (h.cHere j hj)
    · simp only [Rm.setThere, Ar.setThere, if_neg e]
      exact cell_ne (h.cHere j hj) (Or.inr (by omega))
  wcap := h.wcap
  words j k hj hk := cell_ne (h.words j k hj hk) (Or.inl (h.dw j hj).2.1)
  bound := h.bound
  waits u hu := ⟨cell_ne (h.waits u hu).1 (Or.inl (Ne.symm h.d3)), ownsRow_block (h.waits u hu).2 fun k hk => Below.heap_setCell _ _ _ _ (h.dv u k hu hk).2.1⟩
  fm o := by rw [World.frozen?_setCell]; exact h.fm o
  fc o := by rw [World.frozen?_setCell]; exact h.fc o
  ft o := by rw [World.frozen?_setCell]; exact h.ft o
  fw j o hj := by rw [World.frozen?_setCell]; exact h.fw j o hj
  lc := by rw [World.size_setCell]; exact h.lc
  lt := by rw [World.size_setCell]; exact h.lt
  d1 := h.d1
  d2 := h.d2
  d3 := h.d3
  dw := h.dw
  dwi := h.dwi
  dv := h.dv
  dvi := h.dvi

theorem RmAt.setGiven {p : RmPl} {s : Rm} {w : World} (h : RmAt p s w) (c : Nat) (hc : c < s.ar.size) (g : Nat) (hg : g < 4611686018427387904) : RmAt p (s.setGiven c g) (w.setCell ⟨p.cb, c * 3 + 1, none⟩ (.int .i64 g)) where
  small := h.small
  few := h.few
  mCells := cell_ne h.mCells (Or.inl h.d1)
  mWaits := cell_ne h.mWaits (Or.inl h.d1)
  ccap := h.ccap
  tcap := h.tcap
  cWords j hj := cell_ne (h.cWords j hj) (Or.inr (by omega))
  cTimes j hj := by
    by_cases e : j = c
    · subst e
      simp only [Rm.setGiven, Ar.setGiven, if_true]
      exact World.cell?_setCell_same _ _ _ (h.cTimes j hj)
    · simp only [Rm.setGiven, Ar.setGiven, if_neg e]
      exact cell_ne (h.cTimes j hj) (Or.inr (by omega))
  cHere j hj := cell_ne (h.cHere j hj) (Or.inr (by omega))
  wcap := h.wcap
  words j k hj hk := cell_ne (h.words j k hj hk) (Or.inl (h.dw j hj).2.1)
  bound j := by
    simp only [Rm.setGiven, Ar.setGiven]
    split
    · exact hg
    · exact h.bound j
  waits u hu := ⟨cell_ne (h.waits u hu).1 (Or.inl (Ne.symm h.d3)), ownsRow_block (h.waits u hu).2 fun k hk => Below.heap_setCell _ _ _ _ (h.dv u k hu hk).2.1⟩
  fm o := by rw [World.frozen?_setCell]; exact h.fm o
  fc o := by rw [World.frozen?_setCell]; exact h.fc o
  ft o := by rw [World.frozen?_setCell]; exact h.ft o
  fw j o hj := by rw [World.frozen?_setCell]; exact h.fw j o hj
  lc := by rw [World.size_setCell]; exact h.lc
  lt := by rw [World.size_setCell]; exact h.lt
  d1 := h.d1
  d2 := h.d2
  d3 := h.d3
  dw := h.dw
  dwi := h.dwi
  dv := h.dv
  dvi := h.dvi

theorem RmAt.setWord {p : RmPl} {s : Rm} {w : World} (h : RmAt p s w) (c m : Nat) (hc : c < s.ar.size) (hm : m < 4) (v : Int) : RmAt p (s.setWord c m v) (w.setCell ⟨p.wb c, m, none⟩ (.int .i64 v)) where
  small := h.small
  few := h.few
  mCells := cell_ne h.mCells (Or.inl (Ne.symm (h.dw c hc).1))
  mWaits := cell_ne h.mWaits (Or.inl (Ne.symm (h.dw c hc).1))
  ccap := h.ccap
  tcap := h.tcap
  cWords j hj := cell_ne (h.cWords j hj) (Or.inl (Ne.symm (h.dw c hc).2.1))
  cTimes j hj := cell_ne (h.cTimes j hj) (Or.inl (Ne.symm (h.dw c hc).2.1))
  cHere j hj := cell_ne (h.cHere j hj) (Or.inl (Ne.symm (h.dw c hc).2.1))
  wcap := h.wcap
  words j k hj hk := by
    by_cases e : j = c ∧ k = m
    · obtain ⟨rfl, rfl⟩ := e
      simp only [Rm.setWord, Ar.setWord, and_self, if_true]
      exact World.cell?_setCell_same _ _ _ (h.words j k hj hk)
    · simp only [Rm.setWord, Ar.setWord, if_neg e]
      by_cases ej : j = c
      · subst ej
        exact cell_ne (h.words j k hj hk) (Or.inr (fun ek => e ⟨rfl, ek⟩))
      · exact cell_ne (h.words j k hj hk) (Or.inl (h.dwi j c hj hc ej))
  bound := h.bound
  waits u hu := ⟨cell_ne (h.waits u hu).1 (Or.inl (Ne.symm (h.dw c hc).2.2)), ownsRow_block (h.waits u hu).2 fun k hk => Below.heap_setCell _ _ _ _ ((h.dv u k hu hk).2.2.2 c hc)⟩
  fm o := by rw [World.frozen?_setCell]; exact h.fm o
  fc o := by rw [World.frozen?_setCell]; exact h.fc o
  ft o := by rw [World.frozen?_setCell]; exact h.ft o
  fw j o hj := by rw [World.frozen?_setCell]; exact h.fw j o hj
  lc := by rw [World.size_setCell]; exact h.lc
  lt := by rw [World.size_setCell]; exact h.lt
  d1 := h.d1
  d2 := h.d2
  d3 := h.d3
  dw := h.dw
  dwi := h.dwi
  dv := h.dv
  dvi := h.dvi

end Go.Proofs.YtoialadjpcdbaaaGreatDoor
