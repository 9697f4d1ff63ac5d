/- The document's answer's memory: one place of it written. Plain Lean. -/
import Derived.Test.YtcnemlamlchnkaaDoorRefB
namespace Go.Proofs.YtcnemlamlchnkaaDoor
open Go.RowKit

def Rm.setThere (s : Rm) (c : Nat) (t : Bool) : Rm := { s with ar := s.ar.setThere c t }
def Rm.setWord (s : Rm) (c k : Nat) (v : Int) : Rm := { s with ar := s.ar.setWord c k v }
def Rm.setGiven (s : Rm) (c g : Nat) : Rm := { s with ar := s.ar.setGiven c g }
def Ar.zero (s : Ar) (c : Nat) : Ar := { s with words := fun j k => if j = c ∧ k < 4 then 0 else s.words j k }
def Rm.zero (s : Rm) (c : Nat) : Rm := { s with ar := s.ar.zero c }
def Rm.give (s : Rm) (c : Nat) : Rm := { s with ar := s.ar.give c }
def RmPl.withWords (p : RmPl) (c b k : Nat) : RmPl := { p with wb := fun j => if j = c then b else p.wb j, wcap := fun j => if j = c then k else p.wcap j }

theorem Rm.give_eq (s : Rm) (c : Nat) : ((s.zero c).setGiven c (s.ar.given c + 1)).setThere c true = s.give c := rfl

theorem RmAt.setThere {p : RmPl} {s : Rm} {w : World} (h : RmAt p s w) (c : Nat) (hc : c < s.ar.size) (t : Bool) : RmAt p (s.setThere c t) (w.setCell ⟨p.cb, c * 3 + 2, none⟩ (.bool t)) where
  small := h.small
  few := h.few
  mCells := cell_ne h.mCells (Or.inl h.d1)
  mWaits := cell_ne h.mWaits (Or.inl h.d1)
  ccap := h.ccap
  tcap := h.tcap
  cWords j hj := cell_ne (h.cWords j hj) (Or.inr (by omega))
  cTimes j hj := cell_ne (h.cTimes j hj) (Or.inr (by omega))
  cHere j hj := by
    by_cases e : j = c
    · subst e
      simp only [Rm.setThere, Ar.setThere, if_true]
      exact World.cell?_setCell_same _ _ _ (h.cHere j hj)
    · simp only [Rm.setThere, Ar.setThere, if_neg e]
      exact cell_ne (h.cHere j hj) (Or.inr (by omega))
  wcap := h.wcap
  words j k hj hk := cell_ne (h.words j k hj hk) (Or.inl (h.dw j hj).2.1)
  bound := h.bound
  waits u hu := ⟨cell_ne (h.waits u hu).1 (Or.inl (Ne.symm h.d3)), ownsRow_block (h.waits u hu).2 fun k hk => Below.heap_setCell _ _ _ _ (h.dv u k hu hk).2.1⟩
  fm o := by rw [World.frozen?_setCell]; exact h.fm o
  fc o := by rw [World.frozen?_setCell]; exact h.fc o
  ft o := by rw [World.frozen?_setCell]; exact h.ft o
  fw j o hj := by rw [World.frozen?_setCell]; exact h.fw j o hj
  lc := by rw [World.size_setCell]; exact h.lc
  lt := by rw [World.size_setCell]; exact h.lt
  d1 := h.d1
  d2 := h.d2
  d3 := h.d3
  dw := h.dw
  dwi := h.dwi
  dv := h.dv
  dvi := h.dvi

theorem RmAt.setGiven {p : RmPl} {s : Rm} {w : World} (h : RmAt p s w) (c : Nat) (hc : c < s.ar.size) (g : Nat) (hg : g < 4611686018427387904) : RmAt p (s.setGiven c g) (w.setCell ⟨p.cb, c * 3 + 1, none⟩ (.int .i64 g)) where
  small := h.small
  few := h.few
  mCells := cell_ne h.mCells (Or.inl h.d1)
  mWaits := cell_ne h.mWaits (Or.inl h.d1)
  ccap := h.ccap
  tcap := h.tcap
  cWords j hj := cell_ne (h.cWords j hj) (Or.inr (by omega))
  cTimes j hj := by
    by_cases e : j = c
    · subst e
      simp only [Rm.setGiven, Ar.setGiven, if_true]
      exact World.cell?_setCell_same _ _ _ (h.cTimes j hj)
    · simp only [Rm.setGiven, Ar.setGiven, if_neg e]
      exact cell_ne (h.cTimes j hj) (Or.inr (by omega))
  cHere j hj := cell_ne (h.cHere j hj) (Or.inr (by omega))
  wcap := h.wcap
  words j k hj hk := cell_ne (h.words j k hj hk) (Or.inl (h.dw j hj).2.1)
  bound j := by
    simp only [Rm.setGiven, Ar.setGiven]
    split
    · exact hg
    · exact h.bound j
  waits u hu := ⟨cell_ne (h.waits u hu).1 (Or.inl (Ne.symm h.d3)), ownsRow_block (h.waits u hu).2 fun k hk => Below.heap_setCell _ _ _ _ (h.dv u k hu hk).2.1⟩
  fm o := by rw [World.frozen?_setCell]; exact h.fm o
  fc o := by rw [World.frozen?_setCell]; exact h.fc o
  ft o := by rw [World.frozen?_setCell]; exact h.ft o
  fw j o hj := by rw [World.frozen?_setCell]; exact h.fw j o hj
  lc := by rw [World.size_setCell]; exact h.lc
  lt := by rw [World.size_setCell]; exact h.lt
  d1 := h.d1
  d2 := h.d2
  d3 := h.d3
  dw := h.dw
  dwi := h.dwi
  dv := h.dv
  dvi := h.dvi

theorem RmAt.setWord {p : RmPl} {s : Rm} {w : World} (h : RmAt p s w) (c m : Nat) (hc : c < s.ar.size) (hm : m < 4) (v : Int) : RmAt p (s.setWord c m v) (w.setCell ⟨p.wb c, m, none⟩ (.int .i64 v)) where
  small := h.small
  few := h.few
  mCells := cell_ne h.mCells (Or.inl (Ne.symm (h.dw c hc).1))
  mWaits := cell_ne h.mWaits (Or.inl (Ne.symm (h.dw c hc).1))
  ccap := h.ccap
  tcap := h.tcap
  cWords j hj := cell_ne (h.cWords j hj) (Or.inl (Ne.symm (h.dw c hc).2.1))
  cTimes j hj := cell_ne (h.cTimes j hj) (Or.inl (Ne.symm (h.dw c hc).2.1))
  cHere j hj := cell_ne (h.cHere j hj) (Or.inl (Ne.symm (h.dw c hc).2.1))
  wcap := h.wcap
  words j k hj hk := by
    by_cases e : j = c ∧ k = m
    · obtain ⟨rfl, rfl⟩ := e
      simp only [Rm.setWord, Ar.setWord, and_self, if_true]
      exact World.cell?_setCell_same _ _ _ (h.words j k hj hk)
    · simp only [Rm.setWord, Ar.setWord, if_neg e]
      by_cases ej : j = c
      · subst ej
        exact cell_ne (h.words j k hj hk) (Or.inr (fun ek => e ⟨rfl, ek⟩))
      · exact cell_ne (h.words j k hj hk) (Or.inl (h.dwi j c hj hc ej))
  bound := h.bound
  waits u hu := ⟨cell_ne (h.waits u hu).1 (Or.inl (Ne.symm (h.dw c hc).2.2)), ownsRow_block (h.waits u hu).2 fun k hk => Below.heap_setCell _ _ _ _ ((h.dv u k hu hk).2.2.2 c hc)⟩
  fm o := by rw [World.frozen?_setCell]; exact h.fm o
  fc o := by rw [World.frozen?_setCell]; exact h.fc o
  ft o := by rw [World.frozen?_setCell]; exact h.ft o
  fw j o hj := by rw [World.frozen?_setCell]; exact h.fw j o hj
  lc := by rw [World.size_setCell]; exact h.lc
  lt := by rw [World.size_setCell]; exact h.lt
  d1 := h.d1
  d2 := h.d2
  d3 := h.d3
  dw := h.dw
  dwi := h.dwi
  dv := h.dv
  dvi := h.dvi

/-- A cell's words in a new block, all 0. -/
theorem RmAt.newWords {p : RmPl} {s : Rm} {w : World} (h : RmAt p s w) (c : Nat) (hc : c < s.ar.size) :
    RmAt (p.withWords c w.heap.size 4) (s.zero c) ((w.alloc (.cells #[.int .i64 0, .int .i64 0, .int .i64 0, .int .i64 0] 3)).setCell ⟨p.cb, c * 3, none⟩ (.slice (some ⟨w.heap.size, 0, none⟩) 4 4)) := by
  have h1 := h.alloc (.cells #[.int .i64 0, .int .i64 0, .int .i64 0, .int .i64 0] 3)
  have lm := h.lm
  have lc := h.lc
  have lt := h.lt
  refine { small := h.small, few := h.few, mCells := cell_ne h1.mCells (Or.inl h.d1), mWaits := cell_ne h1.mWaits (Or.inl h.d1), ccap := h.ccap, tcap := h.tcap, cWords := fun j hj => ?_, cTimes := fun j hj => cell_ne (h1.cTimes j hj) (Or.inr (by omega)), cHere := fun j hj => cell_ne (h1.cHere j hj) (Or.inr (by omega)), wcap := fun j hj => ?_, words := fun j k hj hk => ?_, bound := h.bound, waits := fun u hu => ?_, fm := fun o => by rw [World.frozen?_setCell]; exact h1.fm o, fc := fun o => by rw [World.frozen?_setCell]; exact h1.fc o, ft := fun o => by rw [World.frozen?_setCell]; exact h1.ft o, fw := fun j o hj => ?_, lc := by rw [World.size_setCell]; exact h1.lc, lt := by rw [World.size_setCell]; exact h1.lt, d1 := h.d1, d2 := h.d2, d3 := h.d3, dw := fun j hj => ?_, dwi := fun i j hi hj hij => ?_, dv := fun u k hu hk => ⟨(h.dv u k hu hk).1, (h.dv u k hu hk).2.1, (h.dv u k hu hk).2.2.1, fun j hj => ?_⟩, dvi := h.dvi }
  · simp only [RmPl.withWords]
    by_cases e : j = c
    · subst e
      rw [if_pos rfl, if_pos rfl]
      exact World.cell?_setCell_same _ _ _ (h1.cWords j hj)
    · rw [if_neg e, if_neg e]
      exact cell_ne (h1.cWords j hj) (Or.inr (by omega))
  · simp only [RmPl.withWords]
    split
    · exact Nat.le_refl _
    · exact h.wcap j hj
  · simp only [RmPl.withWords, Rm.zero, Ar.zero]
    by_cases e : j = c
    · subst e
      rw [if_pos rfl, if_pos ⟨rfl, hk⟩]
      refine cell_ne ?_ (Or.inl (by omega))
      rw [World.cell?_alloc_new]
      match k, hk with
      | 0, _ => rfl
      | 1, _ => rfl
      | 2, _ => rfl
      | 3, _ => rfl
    · rw [if_neg e, if_neg (fun h => e h.1)]
      exact cell_ne (h1.words j k hj hk) (Or.inl (h.dw j hj).2.1)
  · exact ⟨cell_ne (h1.waits u hu).1 (Or.inl (Ne.symm h.d3)), ownsRow_block (h1.waits u hu).2 fun k hk => Below.heap_setCell _ _ _ _ (h.dv u k hu hk).2.1⟩
  · rw [World.frozen?_setCell]
    simp only [RmPl.withWords]
    split
    · exact World.frozen?_alloc_new _ _ _ _
    · exact h1.fw j o hj
  · simp only [RmPl.withWords]
    split
    · exact ⟨by omega, by omega, by omega⟩
    · exact h.dw j hj
  · simp only [RmPl.withWords]
    have li : i < s.ar.size → p.wb i < w.heap.size := fun hi => h.lw hi
    have lj : j < s.ar.size → p.wb j < w.heap.size := fun hj => h.lw hj
    have hi' : i < s.ar.size := hi
    have hj' : j < s.ar.size := hj
    by_cases ei : i = c
    · rw [if_pos ei, if_neg (fun ej => hij (ei.trans ej.symm))]
      have := lj hj'
      omega
    · rw [if_neg ei]
      by_cases ej : j = c
      · rw [if_pos ej]
        have := li hi'
        omega
      · rw [if_neg ej]
        exact h.dwi i j hi hj hij
  · simp only [RmPl.withWords]
    have hl : k < w.heap.size := h.lv hu hk
    split
    · omega
    · exact (h.dv u k hu hk).2.2.2 j hj
end Go.Proofs.YtcnemlamlchnkaaDoor
