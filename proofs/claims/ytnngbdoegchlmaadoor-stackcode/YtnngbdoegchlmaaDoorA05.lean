import Derived.Test.YtnngbdoegchlmaaDoorA04
import Derived.Lib.QuietBelow
import Derived.OwnWalk
import Derived.RegionTactic
import Derived.BigRegion

/- ArenaC -/
namespace Go.Proofs.YtnngbdoegchlmaaDoor
open Go.RowKit Go.Extern.Stop Go.Stop Go.Extern

def Ar.give (s : Ar) (c : Nat) : Ar := { s with words := fun j i => if j = c ∧ i < 4 then 0 else s.words j i, there := fun j => if j = c then true else s.there j, given := fun j => if j = c then s.given c + 1 else s.given j }

def Ar.setGiven (s : Ar) (c : Nat) (g : Nat) : Ar := { s with given := fun j => if j = c then g else s.given j }

theorem ArAt.setGiven {b o : Nat} {s : Ar} {w : World} (h : ArAt b o s w) (c : Nat) (hc : c < 64) (g : Nat) (hg : g < 4611686018427387904) : ArAt b o (s.setGiven c g) (w.setCell ⟨b, o + 321 + c, none⟩ (.int .i64 g)) where
  small := h.small
  size := h.other h.size (by omega)
  words j k hj hk := h.other (h.words j k hj hk) (by omega)
  range := h.range
  there j hj := h.other (h.there j hj) (by omega)
  given j hj := by
    by_cases e : j = c
    · subst e
      simp only [Ar.setGiven, if_true]
      exact World.cell?_setCell_same _ _ _ (h.given j hj)
    · simp only [Ar.setGiven, if_neg e]
      exact h.other (h.given j hj) (by omega)
  bound j := by
    simp only [Ar.setGiven]
    split
    · exact hg
    · exact h.bound j
  frozen k hk := by rw [World.frozen?_setCell]; exact h.frozen k hk

theorem Ar.give_eq (s : Ar) (n : Nat) : (((((s.setWord n 0 0).setWord n 1 0).setWord n 2 0).setWord n 3 0).setThere n true).setGiven n (s.given n + 1) = s.give n := by
  simp only [Ar.setGiven, Ar.setThere, Ar.setWord, Ar.give, Ar.mk.injEq, true_and, and_true]
  funext j i
  by_cases hj : j = n
  · subst hj
    by_cases h4 : i < 4
    · match i, h4 with
      | 0, _ => simp
      | 1, _ => simp
      | 2, _ => simp
      | 3, _ => simp
    · rw [if_neg (fun h => by omega), if_neg (fun h => by omega), if_neg (fun h => by omega), if_neg (fun h => by omega), if_neg (fun h => by omega)]
  · rw [if_neg (fun h => hj h.1), if_neg (fun h => hj h.1), if_neg (fun h => hj h.1), if_neg (fun h => hj h.1), if_neg (fun h => hj h.1)]

end Go.Proofs.YtnngbdoegchlmaaDoor

/- RefA -/
namespace Go.Proofs.YtnngbdoegchlmaaDoor
open Go.RowKit Go.Extern.Stop Go.Stop Go.Extern Go.Sort

structure Wt where
  c : Int
  g : Int
  w : Int
  v : Int

structure Rm where
  ar : Ar
  threads : Nat
  waits : Nat → List Wt

def Wt.cells (x : Wt) : List Value := [.int .i64 x.c, .int .i64 x.g, .int .i64 x.w, .int .i64 x.v]
def wtCells (l : List Wt) : List Value := l.flatMap Wt.cells

end Go.Proofs.YtnngbdoegchlmaaDoor

/- RefB -/
namespace Go.Proofs.YtnngbdoegchlmaaDoor
open Go.RowKit Go.Extern.Stop Go.Stop Go.Extern

theorem wtCells_length (l : List Wt) : (wtCells l).length = l.length * 4 := by
  induction l with
  | nil => rfl
  | cons x l ih =>
    rw [show wtCells (x :: l) = x.cells ++ wtCells l from rfl, List.length_append, ih]
    simp [Wt.cells]; omega

theorem wtCells_at (l : List Wt) (i : Nat) (x : Wt) (h : l[i]? = some x) :
    (wtCells l)[i * 4]? = some (.int .i64 x.c) ∧ (wtCells l)[i * 4 + 1]? = some (.int .i64 x.g) ∧ (wtCells l)[i * 4 + 2]? = some (.int .i64 x.w) ∧ (wtCells l)[i * 4 + 3]? = some (.int .i64 x.v) := by
  induction l generalizing i with
  | nil => simp at h
  | cons y l ih =>
    rw [show wtCells (y :: l) = y.cells ++ wtCells l from rfl]
    have hy : y.cells.length = 4 := rfl
    cases i with
    | zero =>
      simp only [List.getElem?_cons_zero, Option.some.injEq] at h
      subst h
      exact ⟨rfl, rfl, rfl, rfl⟩
    | succ i =>
      simp only [List.getElem?_cons_succ] at h
      have := ih i h
      rw [List.getElem?_append_right (by rw [hy]; omega), List.getElem?_append_right (by rw [hy]; omega), List.getElem?_append_right (by rw [hy]; omega), List.getElem?_append_right (by rw [hy]; omega), hy,
        show (i + 1) * 4 - 4 = i * 4 by omega, show (i + 1) * 4 + 1 - 4 = i * 4 + 1 by omega, show (i + 1) * 4 + 2 - 4 = i * 4 + 2 by omega, show (i + 1) * 4 + 3 - 4 = i * 4 + 3 by omega]
      exact this

theorem ownsRow_shape {w : World} {base : Nat} {e : TypeId} {size : Nat} {v : Value} {n : Nat} {xs : List Value} (h : w.ownsRow base e size v n xs) :
    ∃ ad cap, v = .slice ad n cap ∧ n ≤ cap ∧ cap ≤ maxLen ∧ ∀ j u, xs[j]? = some u → ∃ g, ad = some ⟨g, 0, none⟩ ∧ w.cell? ⟨g, j, none⟩ = some u := by
  have h' := h
  obtain ⟨h1, h2⟩ := h
  rcases h2 with ⟨rfl, rfl⟩ | ⟨g, cap, cur, rfl, hg, hh, hn, hm, r⟩
  · refine ⟨none, 0, rfl, Nat.le_refl _, Nat.zero_le _, fun j u hj => ?_⟩
    have : xs = [] := List.length_eq_zero_iff.1 (by omega)
    subst this
    simp at hj
  · refine ⟨_, cap, rfl, hn, hm, fun j u hj => ⟨g, rfl, ?_⟩⟩
    have hlt : j < xs.length := (List.getElem?_eq_some_iff.1 hj).1
    rw [h'.cellAt j (by omega)]
    exact hj

def Wt.pick (c g k : Int) (v : Int) (x : Wt) : Int := if x.c = c ∧ x.g = g ∧ x.w = k then x.v else v

end Go.Proofs.YtnngbdoegchlmaaDoor
