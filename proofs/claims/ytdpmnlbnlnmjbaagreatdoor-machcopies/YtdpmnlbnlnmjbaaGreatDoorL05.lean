import Derived.Test.YtdpmnlbnlnmjbaaGreatDoorL04
import Derived.BigQuiet

/- RefB -/
namespace Go.Proofs.YtdpmnlbnlnmjbaaGreatDoor
open Go.RowKit Go.Extern.Stop Go.Stop Go.Extern

theorem wtCells_length (l : List Wt) : (wtCells l).length = l.length * 4 := by
  induction l with
  | nil => rfl
  | cons x l ih =>
    rw [show wtCells (x :: l) = x.cells ++ wtCells l from rfl, List.length_append, ih]
    simp [Wt.cells]; omega

theorem wtCells_at (l : List Wt) (i : Nat) (x : Wt) (h : l[i]? = some x) :
    (wtCells l)[i * 4]? = some (.int .i64 x.c) ∧ (wtCells l)[i * 4 + 1]? = some (.int .i64 x.g) ∧ (wtCells l)[i * 4 + 2]? = some (.int .i64 x.w) ∧ (wtCells l)[i * 4 + 3]? = some (.int .i64 x.v) := by
  induction l generalizing i with
  | nil => simp at h
  | cons y l ih =>
    rw [show wtCells (y :: l) = y.cells ++ wtCells l from rfl]
    have hy : y.cells.length = 4 := rfl
    cases i with
    | zero =>
      simp only [List.getElem?_cons_zero, Option.some.injEq] at h
      subst h
      exact ⟨rfl, rfl, rfl, rfl⟩
    | succ i =>
      simp only [List.getElem?_cons_succ] at h
      have := ih i h
      rw [List.getElem?_append_right (by rw [hy]; omega), List.getElem?_append_right (by rw [hy]; omega), List.getElem?_append_right (by rw [hy]; omega), List.getElem?_append_right (by rw [hy]; omega), hy,
        show (i + 1) * 4 - 4 = i * 4 by omega, show (i + 1) * 4 + 1 - 4 = i * 4 + 1 by omega, show (i + 1) * 4 + 2 - 4 = i * 4 + 2 by omega, show (i + 1) * 4 + 3 - 4 = i * 4 + 3 by omega]
      exact this

theorem ownsRow_shape {w : World} {base : Nat} {e : TypeId} {size : Nat} {v : Value} {n : Nat} {xs : List Value} (h : w.ownsRow base e size v n xs) :
    ∃ ad cap, v = .slice ad n cap ∧ n ≤ cap ∧ cap ≤ maxLen ∧ ∀ j u, xs[j]? = some u → ∃ g, ad = some ⟨g, 0, none⟩ ∧ w.cell? ⟨g, j, none⟩ = some u := by
  have h' := h
  obtain ⟨h1, h2⟩ := h
  rcases h2 with ⟨rfl, rfl⟩ | ⟨g, cap, cur, rfl, hg, hh, hn, hm, r⟩
  · refine ⟨none, 0, rfl, Nat.le_refl _, Nat.zero_le _, fun j u hj => ?_⟩
    have : xs = [] := List.length_eq_zero_iff.1 (by omega)
    subst this
    simp at hj
  · refine ⟨_, cap, rfl, hn, hm, fun j u hj => ⟨g, rfl, ?_⟩⟩
    have hlt : j < xs.length := (List.getElem?_eq_some_iff.1 hj).1
    rw [h'.cellAt j (by omega)]
    exact hj

def Wt.pick (c g k : Int) (v : Int) (x : Wt) : Int := if x.c = c ∧ x.g = g ∧ x.w = k then x.v else v

def Rm.load (s : Rm) (t : Nat) (c g k : Int) : Int × Nat :=
  if s.ar.at c g k = 0 then ((s.waits t).foldl (Wt.pick c g k) (s.ar.words c.toNat k.toNat), 0) else (0, s.ar.at c g k)

end Go.Proofs.YtdpmnlbnlnmjbaaGreatDoor

/- RefC -/
namespace Go.Proofs.YtdpmnlbnlnmjbaaGreatDoor
open Go.RowKit

def Rm.setThere (s : Rm) (c : Nat) (t : Bool) : Rm := { s with ar := s.ar.setThere c t }
def Rm.setWord (s : Rm) (c k : Nat) (v : Int) : Rm := { s with ar := s.ar.setWord c k v }
def Rm.setGiven (s : Rm) (c g : Nat) : Rm := { s with ar := s.ar.setGiven c g }
def Ar.zero (s : Ar) (c : Nat) : Ar := { s with words := fun j k => if j = c ∧ k < 4 then 0 else s.words j k }
def Rm.zero (s : Rm) (c : Nat) : Rm := { s with ar := s.ar.zero c }
def Rm.give (s : Rm) (c : Nat) : Rm := { s with ar := s.ar.give c }
theorem Rm.give_eq (s : Rm) (c : Nat) : ((s.zero c).setGiven c (s.ar.given c + 1)).setThere c true = s.give c := rfl

theorem RmAt.setThere {p : RmPl} {s : Rm} {w : World} (h : RmAt p s w) (c : Nat) (hc : c < s.ar.size) (t : Bool) : RmAt p (s.setThere c t) (w.setCell ⟨p.cb, c * 3 + 2, none⟩ (.bool t)) where
  small := h.small
  few := h.few
  mCells := cell_ne h.mCells (Or.inl h.d1)
  mWaits := cell_ne h.mWaits (Or.inl h.d1)
  ccap := h.ccap
  tcap := h.tcap
  cWords j hj := cell_ne (h.cWords j hj) (Or.inr (by omega))
  cTimes j hj := cell_ne (h.cTimes j hj) (Or.inr (by omega))
  cHere j hj := by
    by_cases e : j = c
    · subst e
      simp only [Rm.setThere, Ar.setThere, if_true]
      exact World.cell?_setCell_same _ _ _ (h.cHere j hj)
    · simp only [Rm.setThere, Ar.setThere, if_neg e]
      exact cell_ne (h.cHere j hj) (Or.inr (by omega))
  wcap := h.wcap
  words j k hj hk := cell_ne (h.words j k hj hk) (Or.inl (h.dw j hj).2.1)
  bound := h.bound
  waits u hu := ⟨cell_ne (h.waits u hu).1 (Or.inl (Ne.symm h.d3)), ownsRow_block (h.waits u hu).2 fun k hk => Below.heap_setCell _ _ _ _ (h.dv u k hu hk).2.1⟩
  fm o := by rw [World.frozen?_setCell]; exact h.fm o
  fc o := by rw [World.frozen?_setCell]; exact h.fc o
  ft o := by rw [World.frozen?_setCell]; exact h.ft o
  fw j o hj := by rw [World.frozen?_setCell]; exact h.fw j o hj
  lc := by rw [World.size_setCell]; exact h.lc
  lt := by rw [World.size_setCell]; exact h.lt
  d1 := h.d1
  d2 := h.d2
  d3 := h.d3
  dw := h.dw
  dwi := h.dwi
  dv := h.dv
  dvi := h.dvi

theorem RmAt.setGiven {p : RmPl} {s : Rm} {w : World} (h : RmAt p s w) (c : Nat) (hc : c < s.ar.size) (g : Nat) (hg : g < 4611686018427387904) : RmAt p (s.setGiven c g) (w.setCell ⟨p.cb, c * 3 + 1, none⟩ (.int .i64 g)) where
  small := h.small
  few := h.few
  mCells := cell_ne h.mCells (Or.inl h.d1)
  mWaits := cell_ne h.mWaits (Or.inl h.d1)
  ccap := h.ccap
  tcap := h.tcap
  cWords j hj := cell_ne (h.cWords j hj) (Or.inr (by omega))
  cTimes j hj := by
    by_cases e : j = c
    · subst e
      simp only [Rm.setGiven, Ar.setGiven, if_true]
      exact World.cell?_setCell_same _ _ _ (h.cTimes j hj)
    · simp only [Rm.setGiven, Ar.setGiven, if_neg e]
      exact cell_ne (h.cTimes j hj) (Or.inr (by omega))
  cHere j hj := cell_ne (h.cHere j hj) (Or.inr (by omega))
  wcap := h.wcap
  words j k hj hk := cell_ne (h.words j k hj hk) (Or.inl (h.dw j hj).2.1)
  bound j := by
    simp only [Rm.setGiven, Ar.setGiven]
    split
    · exact hg
    · exact h.bound j
  waits u hu := ⟨cell_ne (h.waits u hu).1 (Or.inl (Ne.symm h.d3)), ownsRow_block (h.waits u hu).2 fun k hk => Below.heap_setCell _ _ _ _ (h.dv u k hu hk).2.1⟩
  fm o := by rw [World.frozen?_setCell]; exact h.fm o
  fc o := by rw [World.frozen?_setCell]; exact h.fc o
  ft o := by rw [World.frozen?_setCell]; exact h.ft o
  fw j o hj := by rw [World.frozen?_setCell]; exact h.fw j o hj
  lc := by rw [World.size_setCell]; exact h.lc
  lt := by rw [World.size_setCell]; exact h.lt
  d1 := h.d1
  d2 := h.d2
  d3 := h.d3
  dw := h.dw
  dwi := h.dwi
  dv := h.dv
  dvi := h.dvi

theorem RmAt.setWord {p : RmPl} {s : Rm} {w : World} (h : RmAt p s w) (c m : Nat) (hc : c < s.ar.size) (hm : m < 4) (v : Int) : RmAt p (s.setWord c m v) (w.setCell ⟨p.wb c, m, none⟩ (.int .i64 v)) where
  small := h.small
  few := h.few
  mCells := cell_ne h.mCells (Or.inl (Ne.symm (h.dw c hc).1))
  mWaits := cell_ne h.mWaits (Or.inl (Ne.symm (h.dw c hc).1))
  ccap := h.ccap
  tcap := h.tcap
  cWords j hj := cell_ne (h.cWords j hj) (Or.inl (Ne.symm (h.dw c hc).2.1))
  cTimes j hj := cell_ne (h.cTimes j hj) (Or.inl (Ne.symm (h.dw c hc).2.1))
  cHere j hj := cell_ne (h.cHere j hj) (Or.inl (Ne.symm (h.dw c hc).2.1))
  wcap := h.wcap
  words j k hj hk := by
    by_cases e : j = c ∧ k = m
    · obtain ⟨rfl, rfl⟩ := e
      simp only [Rm.setWord, Ar.setWord, and_self, if_true]
      exact World.cell?_setCell_same _ _ _ (h.words j k hj hk)
    · simp only [Rm.setWord, Ar.setWord, if_neg e]
      by_cases ej : j = c
      · subst ej
        exact cell_ne (h.words j k hj hk) (Or.inr (fun ek => e ⟨rfl, ek⟩))
      · exact cell_ne (h.words j k hj hk) (Or.inl (h.dwi j c hj hc ej))
  bound := h.bound
  waits u hu := ⟨cell_ne (h.waits u hu).1 (Or.inl (Ne.symm (h.dw c hc).2.2)), ownsRow_block (h.waits u hu).2 fun k hk => Below.heap_setCell _ _ _ _ ((h.dv u k hu hk).2.2.2 c hc)⟩
  fm o := by rw [World.frozen?_setCell]; exact h.fm o
  fc o := by rw [World.frozen?_setCell]; exact h.fc o
  ft o := by rw [World.frozen?_setCell]; exact h.ft o
  fw j o hj := by rw [World.frozen?_setCell]; exact h.fw j o hj
  lc := by rw [World.size_setCell]; exact h.lc
  lt := by rw [World.size_setCell]; exact h.lt
  d1 := h.d1
  d2 := h.d2
  d3 := h.d3
  dw := h.dw
  dwi := h.dwi
  dv := h.dv
  dvi := h.dvi

end Go.Proofs.YtdpmnlbnlnmjbaaGreatDoor

/- RefD -/
namespace Go.Proofs.YtdpmnlbnlnmjbaaGreatDoor
open Go.RowKit Go.Extern.Stop Go.Stop Go.Extern

theorem RmAt.apart {p : RmPl} {s : Rm} {w : World} (h : RmAt p s w) {b o : Nat} (v : Value) (hb : ∀ k, p.fp s k → k ≠ b) : RmAt p s (w.setCell ⟨b, o, none⟩ v) :=
  h.turns (S := fun k _ => k = b) ((Turns.refl _ _).setCell v rfl) (fun k _ hk => hb k hk)

end Go.Proofs.YtdpmnlbnlnmjbaaGreatDoor
