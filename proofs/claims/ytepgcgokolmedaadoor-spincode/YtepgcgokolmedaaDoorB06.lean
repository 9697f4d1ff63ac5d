import Derived.Test.YtepgcgokolmedaaDoorB05
import Derived.BigQuiet
import Derived.Deep.OwnRows

/- RefC -/
namespace Go.Proofs.YtepgcgokolmedaaDoor
open Go.RowKit

def Rm.setThere (s : Rm) (c : Nat) (t : Bool) : Rm := { s with ar := s.ar.setThere c t }
def Rm.setWord (s : Rm) (c k : Nat) (v : Int) : Rm := { s with ar := s.ar.setWord c k v }
def Rm.setGiven (s : Rm) (c g : Nat) : Rm := { s with ar := s.ar.setGiven c g }
def Ar.zero (s : Ar) (c : Nat) : Ar := { s with words := fun j k => if j = c ∧ k < 4 then 0 else s.words j k }
def Rm.zero (s : Rm) (c : Nat) : Rm := { s with ar := s.ar.zero c }
def Rm.give (s : Rm) (c : Nat) : Rm := { s with ar := s.ar.give c }
theorem Rm.give_eq (s : Rm) (c : Nat) : ((s.zero c).setGiven c (s.ar.given c + 1)).setThere c true = s.give c := rfl

theorem RmAt.setThere {p : RmPl} {s : Rm} {w : World} (h : RmAt p s w) (c : Nat) (hc : c < s.ar.size) (t : Bool) : RmAt p (s.setThere c t) (w.setCell ⟨p.cb, c * 3 + 2, none⟩ (.bool t)) where
  small := h.small
  few := h.few
  mCells := cell_ne h.mCells (Or.inl h.d1)
  mWaits := cell_ne h.mWaits (Or.inl h.d1)
  ccap := h.ccap
  tcap := h.tcap
  cWords j hj := cell_ne (h.cWords j hj) (Or.inr (by omega))
  cTimes j hj := cell_ne (h.cTimes j hj) (Or.inr (by omega))
  cHere j hj := by
    by_cases e : j = c
    · subst e
      simp only [Rm.setThere, Ar.setThere, if_true]
      exact World.cell?_setCell_same _ _ _ (h.cHere j hj)
    · simp only [Rm.setThere, Ar.setThere, if_neg e]
      exact cell_ne (h.cHere j hj) (Or.inr (by omega))
  wcap := h.wcap
  words j k hj hk := cell_ne (h.words j k hj hk) (Or.inl (h.dw j hj).2.1)
  bound := h.bound
  waits u hu := ⟨cell_ne (h.waits u hu).1 (Or.inl (Ne.symm h.d3)), ownsRow_block (h.waits u hu).2 fun k hk => Below.heap_setCell _ _ _ _ (h.dv u k hu hk).2.1⟩
  fm o := by rw [World.frozen?_setCell]; exact h.fm o
  fc o := by rw [World.frozen?_setCell]; exact h.fc o
  ft o := by rw [World.frozen?_setCell]; exact h.ft o
  fw j o hj := by rw [World.frozen?_setCell]; exact h.fw j o hj
  lc := by rw [World.size_setCell]; exact h.lc
  lt := by rw [World.size_setCell]; exact h.lt
  d1 := h.d1
  d2 := h.d2
  d3 := h.d3
  dw := h.dw
  dwi := h.dwi
  dv := h.dv
  dvi := h.dvi

theorem RmAt.setGiven {p : RmPl} {s : Rm} {w : World} (h : RmAt p s w) (c : Nat) (hc : c < s.ar.size) (g : Nat) (hg : g < 4611686018427387904) : RmAt p (s.setGiven c g) (w.setCell ⟨p.cb, c * 3 + 1, none⟩ (.int .i64 g)) where
  small := h.small
  few := h.few
  mCells := cell_ne h.mCells (Or.inl h.d1)
  mWaits := cell_ne h.mWaits (Or.inl h.d1)
  ccap := h.ccap
  tcap := h.tcap
  cWords j hj := cell_ne (h.cWords j hj) (Or.inr (by omega))
  cTimes j hj := by
    by_cases e : j = c
    · subst e
      simp only [Rm.setGiven, Ar.setGiven, if_true]
      exact World.cell?_setCell_same _ _ _ (h.cTimes j hj)
    · simp only [Rm.setGiven, Ar.setGiven, if_neg e]
      exact cell_ne (h.cTimes j hj) (Or.inr (by omega))
  cHere j hj := cell_ne (h.cHere j hj) (Or.inr (by omega))
  wcap := h.wcap
  words j k hj hk := cell_ne (h.words j k hj hk) (Or.inl (h.dw j hj).2.1)
  bound j := by
    simp only [Rm.setGiven, Ar.setGiven]
    split
    · exact hg
    · exact h.bound j
  waits u hu := ⟨cell_ne (h.waits u hu).1 (Or.inl (Ne.symm h.d3)), ownsRow_block (h.waits u hu).2 fun k hk => Below.heap_setCell _ _ _ _ (h.dv u k hu hk).2.1⟩
  fm o := by rw [World.frozen?_setCell]; exact h.fm o
  fc o := by rw [World.frozen?_setCell]; exact h.fc o
  ft o := by rw [World.frozen?_setCell]; exact h.ft o
  fw j o hj := by rw [World.frozen?_setCell]; exact h.fw j o hj
  lc := by rw [World.size_setCell]; exact h.lc
  lt := by rw [World.size_setCell]; exact h.lt
  d1 := h.d1
  d2 := h.d2
  d3 := h.d3
  dw := h.dw
  dwi := h.dwi
  dv := h.dv
  dvi := h.dvi

theorem RmAt.setWord {p : RmPl} {s : Rm} {w : World} (h : RmAt p s w) (c m : Nat) (hc : c < s.ar.size) (hm : m < 4) (v : Int) : RmAt p (s.setWord c m v) (w.setCell ⟨p.wb c, m, none⟩ (.int .i64 v)) where
  small := h.small
  few := h.few
  mCells := cell_ne h.mCells (Or.inl (Ne.symm (h.dw c hc).1))
  mWaits := cell_ne h.mWaits (Or.inl (Ne.symm (h.dw c hc).1))
  ccap := h.ccap
  tcap := h.tcap
  cWords j hj := cell_ne (h.cWords j hj) (Or.inl (Ne.symm (h.dw c hc).2.1))
  cTimes j hj := cell_ne (h.cTimes j hj) (Or.inl (Ne.symm (h.dw c hc).2.1))
  cHere j hj := cell_ne (h.cHere j hj) (Or.inl (Ne.symm (h.dw c hc).2.1))
  wcap := h.wcap
  words j k hj hk := by
    by_cases e : j = c ∧ k = m
    · obtain ⟨rfl, rfl⟩ := e
      simp only [Rm.setWord, Ar.setWord, and_self, if_true]
      exact World.cell?_setCell_same _ _ _ (h.words j k hj hk)
    · simp only [Rm.setWord, Ar.setWord, if_neg e]
      by_cases ej : j = c
      · subst ej
        exact cell_ne (h.words j k hj hk) (Or.inr (fun ek => e ⟨rfl, ek⟩))
      · exact cell_ne (h.words j k hj hk) (Or.inl (h.dwi j c hj hc ej))
  bound := h.bound
  waits u hu := ⟨cell_ne (h.waits u hu).1 (Or.inl (Ne.symm (h.dw c hc).2.2)), ownsRow_block (h.waits u hu).2 fun k hk => Below.heap_setCell _ _ _ _ ((h.dv u k hu hk).2.2.2 c hc)⟩
  fm o := by rw [World.frozen?_setCell]; exact h.fm o
  fc o := by rw [World.frozen?_setCell]; exact h.fc o
  ft o := by rw [World.frozen?_setCell]; exact h.ft o
  fw j o hj := by rw [World.frozen?_setCell]; exact h.fw j o hj
  lc := by rw [World.size_setCell]; exact h.lc
  lt := by rw [World.size_setCell]; exact h.lt
  d1 := h.d1
  d2 := h.d2
  d3 := h.d3
  dw := h.dw
  dwi := h.dwi
  dv := h.dv
  dvi := h.dvi

end Go.Proofs.YtepgcgokolmedaaDoor

/- RefD -/
namespace Go.Proofs.YtepgcgokolmedaaDoor
open Go.RowKit Go.Extern.Stop Go.Stop Go.Extern

theorem RmAt.apart {p : RmPl} {s : Rm} {w : World} (h : RmAt p s w) {b o : Nat} (v : Value) (hb : ∀ k, p.fp s k → k ≠ b) : RmAt p s (w.setCell ⟨b, o, none⟩ v) :=
  h.turns (S := fun k _ => k = b) ((Turns.refl _ _).setCell v rfl) (fun k _ hk => hb k hk)

end Go.Proofs.YtepgcgokolmedaaDoor

/- RefE -/
namespace Go.Proofs.YtepgcgokolmedaaDoor
open Go.RowKit Go.Extern.Stop Go.Stop Go.Extern

structure NewAt (B mb cb tb cells threads i : Nat) (wb : Nat → Nat) (w : World) : Prop where
  mCells : w.cell? ⟨mb, 0, none⟩ = some (.slice (some ⟨cb, 0, none⟩) cells cells)
  mWaits : w.cell? ⟨mb, 1, none⟩ = some (.slice (some ⟨tb, 0, none⟩) threads threads)
  done : ∀ c, c < i → w.cell? ⟨cb, c * 3, none⟩ = some (.slice (some ⟨wb c, 0, none⟩) 4 4)
  todo : ∀ c, i ≤ c → c < cells → w.cell? ⟨cb, c * 3, none⟩ = some (.slice none 0 0)
  times : ∀ c, c < cells → w.cell? ⟨cb, c * 3 + 1, none⟩ = some (.int .i64 0)
  here : ∀ c, c < cells → w.cell? ⟨cb, c * 3 + 2, none⟩ = some (.bool false)
  words : ∀ c k, c < i → k < 4 → w.cell? ⟨wb c, k, none⟩ = some (.int .i64 0)
  waits : ∀ t, t < threads → w.cell? ⟨tb, t, none⟩ = some (.slice none 0 0)
  fm : ∀ o, w.frozen? ⟨mb, o, none⟩ = false
  fc : ∀ o, w.frozen? ⟨cb, o, none⟩ = false
  ft : ∀ o, w.frozen? ⟨tb, o, none⟩ = false
  fw : ∀ c o, c < i → w.frozen? ⟨wb c, o, none⟩ = false
  lc : cb < w.heap.size
  lt : tb < w.heap.size
  d1 : mb ≠ cb
  d2 : mb ≠ tb
  d3 : cb ≠ tb
  dw : ∀ c, c < i → wb c ≠ mb ∧ wb c ≠ cb ∧ wb c ≠ tb ∧ B ≤ wb c
  dwi : ∀ c d, c < i → d < i → c ≠ d → wb c ≠ wb d
  base : B ≤ mb ∧ B ≤ cb ∧ B ≤ tb

theorem NewAt.lm {B mb cb tb cells threads i : Nat} {wb : Nat → Nat} {w : World} (h : NewAt B mb cb tb cells threads i wb w) : mb < w.heap.size := World.block_lt_of_cell? _ _ h.mCells

def Rm.fresh (cells threads : Nat) : Rm := ⟨⟨cells, fun _ _ => 0, fun _ => false, fun _ => 0⟩, threads, fun _ => []⟩

theorem NewAt.at {B mb cb tb cells threads : Nat} {wb : Nat → Nat} {w : World} (h : NewAt B mb cb tb cells threads cells wb w) (hc : cells ≤ 64) (ht : threads ≤ 6) :
    RmAt ⟨mb, cb, tb, cells, threads, wb, fun _ => 4, fun _ => .slice none 0 0⟩ (Rm.fresh cells threads) w where
  small := hc
  few := ht
  mCells := h.mCells
  mWaits := h.mWaits
  ccap := Nat.le_refl _
  tcap := Nat.le_refl _
  cWords := h.done
  cTimes := h.times
  cHere := h.here
  wcap _ _ := Nat.le_refl _
  words := h.words
  bound _ := by show 0 < 4611686018427387904; decide
  waits t ht := ⟨h.waits t ht, World.ownsRow_nil _ _ _ _⟩
  fm := h.fm
  fc := h.fc
  ft := h.ft
  fw := h.fw
  lc := h.lc
  lt := h.lt
  d1 := h.d1
  d2 := h.d2
  d3 := h.d3
  dw c hc := ⟨(h.dw c hc).1, (h.dw c hc).2.1, (h.dw c hc).2.2.1⟩
  dwi := h.dwi
  dv _ _ _ hk := by cases hk
  dvi _ _ _ _ _ _ hk := by cases hk

theorem NewAt.fp {B mb cb tb cells threads : Nat} {wb : Nat → Nat} {w : World} (h : NewAt B mb cb tb cells threads cells wb w) (k : Nat) (hk : (⟨mb, cb, tb, cells, threads, wb, fun _ => 4, fun _ => .slice none 0 0⟩ : RmPl).fp (Rm.fresh cells threads) k) : B ≤ k := by
  rcases hk with h1 | h1 | h1 | ⟨c, hc, h1⟩ | ⟨t, ht, h1⟩
  · rw [h1]; exact h.base.1
  · rw [h1]; exact h.base.2.1
  · rw [h1]; exact h.base.2.2
  · rw [h1]; exact (h.dw c hc).2.2.2
  · cases h1

theorem heap_new (w : World) (o : Obj) : (w.alloc o).heap[w.heap.size]? = some o := by show (w.heap.push o)[w.heap.size]? = _; simp
end Go.Proofs.YtepgcgokolmedaaDoor
