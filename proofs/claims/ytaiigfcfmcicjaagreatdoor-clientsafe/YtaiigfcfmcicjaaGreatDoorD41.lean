import Derived.Test.YtaiigfcfmcicjaaGreatDoorD10
import Derived.Test.YtaiigfcfmcicjaaGreatDoorD25
import Derived.Test.YtaiigfcfmcicjaaGreatDoorD29
import Derived.Maps.AppendAt
import Derived.Laws.IdiomCopy
namespace Go.Proofs.YtaiigfcfmcicjaaGreatDoor
set_option maxRecDepth 100000
set_option maxHeartbeats 8000000
section
open Go.RowKit
def rmarkCell (x : Nat × Int) : List Value := [.int .i64 x.1, .int .i64 x.2]
def rmarkCells (l : List (Nat × Int)) : List Value := l.flatMap rmarkCell
theorem rmarkCells_append (l : List (Nat × Int)) (x : Nat × Int) : rmarkCells (l ++ [x]) = rmarkCells l ++ rmarkCell x := by simp [rmarkCells]
theorem rmarkCells_at {l : List (Nat × Int)} {i : Nat} {x : Nat × Int} (h : l[i]? = some x) : (rmarkCells l)[i * 2]? = some (.int .i64 x.1) /\ (rmarkCells l)[i * 2 + 1]? = some (.int .i64 x.2) := by
 induction l generalizing i with
 | nil => simp at h
 | cons y l ih =>
  have e : rmarkCells (y :: l) = .int .i64 y.1 :: .int .i64 y.2 :: rmarkCells l := rfl
  rw [e]
  cases i with
  | zero => cases h; exact ⟨rfl, rfl⟩
  | succ i =>
   have := ih (i := i) (by simpa using h)
   rw [show (i + 1) * 2 = i * 2 + 1 + 1 by omega]
   simpa using this
structure RcB (cs : List (List Ins)) (ad : Nat -> Option Addr) (B : Nat) (w : World) : Prop where
 ex : ∃ W, (∀ (t : Nat) L, cs[t]? = some L -> insAt (ad t) L W) /\ W.heap.size = B /\ Below B W w
theorem RcB.code {cs : List (List Ins)} {ad : Nat -> Option Addr} {B : Nat} {w : World} (h : RcB cs ad B w) {t : Nat} {L : List Ins} (ht : cs[t]? = some L) : insAt (ad t) L w := by
 obtain ⟨W, h1, rfl, h3⟩ := h.ex
 exact insAt_below (h1 t L ht) h3
theorem RcB.turns {S : Nat -> Nat -> Prop} {cs : List (List Ins)} {ad : Nat -> Option Addr} {B : Nat} {w w' : World} (h : RcB cs ad B w) (t : Turns S w w') (hS : ∀ k o, S k o -> B <= k) : RcB cs ad B w' := by
 obtain ⟨W, h1, rfl, h3⟩ := h.ex
 exact ⟨W, h1, rfl, h3.trans (t.below h3.size (fun k o hk hs => by have := hS k o hs; omega))⟩
theorem RcB.size {cs : List (List Ins)} {ad : Nat -> Option Addr} {B : Nat} {w : World} (h : RcB cs ad B w) : B <= w.heap.size := by
 obtain ⟨W, h1, rfl, h3⟩ := h.ex
 exact h3.size
structure RkPl where
 B : Nat
 rp : RmPl
 k : Nat
 tb : Nat
 tcap : Nat
 ad : Nat -> Option Addr
 cc : Nat -> Nat
 rb : Nat -> Nat
 rcap : Nat -> Nat
 mv : Value
def RkPl.to (p : RkPl) (r : RmPl) (v : Value) : RkPl := { p with rp := r, mv := v }
def RkPl.fp (p : RkPl) (n : Nat) (s : Rm) (k : Nat) : Prop := k = p.k ∨ k = p.tb ∨ (∃ t, t < n /\ k = p.rb t) ∨ p.mv.ownBlock = some k ∨ p.rp.fp s k
structure RkAt (cs : List (List Ins)) (p : RkPl) (m : Mk) (w : World) : Prop where
 rc : RcB cs p.ad p.B w
 mem : RmAt p.rp m.mem w
 thr : m.mem.threads = cs.length
 few : cs.length <= 6
 tcap : cs.length <= p.tcap
 mM : w.cell? ⟨p.k, 0, none⟩ = some (.pointer (some ⟨p.rp.mb, 0, none⟩))
 mT : w.cell? ⟨p.k, 1, none⟩ = some (.slice (some ⟨p.tb, 0, none⟩) cs.length p.tcap)
 mMarks : w.cell? ⟨p.k, 2, none⟩ = some p.mv
 mFaults : w.cell? ⟨p.k, 3, none⟩ = some (.int .i64 m.faults)
 tCode : ∀ (t : Nat) L, cs[t]? = some L -> w.cell? ⟨p.tb, t * 3, none⟩ = some (.slice (p.ad t) L.length (p.cc t))
 ccap : ∀ (t : Nat) L, cs[t]? = some L -> L.length <= p.cc t
 tRegs : ∀ t, t < cs.length -> w.cell? ⟨p.tb, t * 3 + 1, none⟩ = some (.slice (some ⟨p.rb t, 0, none⟩) 8 (p.rcap t))
 tAt : ∀ t, t < cs.length -> w.cell? ⟨p.tb, t * 3 + 2, none⟩ = some (.int .i64 (m.pc t))
 rcap : ∀ t, t < cs.length -> 8 <= p.rcap t
 regs : ∀ t r, t < cs.length -> r < 8 -> w.cell? ⟨p.rb t, r, none⟩ = some (.int .i64 (m.regs t r))
 own : w.ownsRow 0 77 2 p.mv m.marks.length (rmarkCells m.marks)
 fk : ∀ o, w.frozen? ⟨p.k, o, none⟩ = false
 ft : ∀ o, w.frozen? ⟨p.tb, o, none⟩ = false
 fr : ∀ t o, t < cs.length -> w.frozen? ⟨p.rb t, o, none⟩ = false
 lt' : p.tb < w.heap.size
 d1 : p.k ≠ p.tb
 d2 : ∀ t, t < cs.length -> p.rb t ≠ p.k /\ p.rb t ≠ p.tb
 d3 : ∀ t u, t < cs.length -> u < cs.length -> t ≠ u -> p.rb t ≠ p.rb u
 d4 : ∀ k, p.mv.ownBlock = some k -> k ≠ p.k /\ k ≠ p.tb /\ ∀ t, t < cs.length -> k ≠ p.rb t
 d5 : ∀ k, p.rp.fp m.mem k -> k ≠ p.k /\ k ≠ p.tb /\ (∀ t, t < cs.length -> k ≠ p.rb t) /\ p.mv.ownBlock ≠ some k
 ge : ∀ k, p.fp cs.length m.mem k -> p.B <= k
theorem RkAt.lk {cs : List (List Ins)} {p : RkPl} {m : Mk} {w : World} (h : RkAt cs p m w) : p.k < w.heap.size := bLt h.mM
theorem RkAt.lr {cs : List (List Ins)} {p : RkPl} {m : Mk} {w : World} (h : RkAt cs p m w) {t : Nat} (ht : t < cs.length) : p.rb t < w.heap.size := bLt (h.regs t 0 ht (by decide))
theorem RkAt.fp_lt {cs : List (List Ins)} {p : RkPl} {m : Mk} {w : World} (h : RkAt cs p m w) {k : Nat} (hk : p.fp cs.length m.mem k) : k < w.heap.size := by
 rcases hk with rfl | rfl | ⟨t, ht, rfl⟩ | hk | hk
 ·exact h.lk
 ·exact h.lt'
 ·exact h.lr ht
 ·exact (h.own.lt k hk).2
 ·exact h.mem.fp_lt hk
theorem RkAt.turns {S : Nat -> Nat -> Prop} {cs : List (List Ins)} {p : RkPl} {m : Mk} {w w' : World} (h : RkAt cs p m w) (t : Turns S w w') (hS : ∀ k o, S k o -> ¬ p.fp cs.length m.mem k) (hB : ∀ k o, S k o -> p.B <= k) : RkAt cs p m w' where
 rc := h.rc.turns t hB
 mem := h.mem.turns t (fun k o hk hs => hS k o hs (.inr (.inr (.inr (.inr hk)))))
 thr := h.thr
 few := h.few
 tcap := h.tcap
 mM := t.keep h.mM (fun hs => hS _ _ hs (.inl rfl))
 mT := t.keep h.mT (fun hs => hS _ _ hs (.inl rfl))
 mMarks := t.keep h.mMarks (fun hs => hS _ _ hs (.inl rfl))
 mFaults := t.keep h.mFaults (fun hs => hS _ _ hs (.inl rfl))
 tCode i L hi := t.keep (h.tCode i L hi) (fun hs => hS _ _ hs (.inr (.inl rfl)))
 ccap := h.ccap
 tRegs i hi := t.keep (h.tRegs i hi) (fun hs => hS _ _ hs (.inr (.inl rfl)))
 tAt i hi := t.keep (h.tAt i hi) (fun hs => hS _ _ hs (.inr (.inl rfl)))
 rcap := h.rcap
 regs i r hi hr := t.keep (h.regs i r hi hr) (fun hs => hS _ _ hs (.inr (.inr (.inl ⟨i, hi, rfl⟩))))
 own := ownsRow_block h.own fun k hk => t.block k (h.own.lt k hk).2 (fun o hs => hS _ _ hs (.inr (.inr (.inr (.inl hk)))))
 fk o := by rw [t.frozen _ _ h.lk (fun hs => hS _ _ hs (.inl rfl))]; exact h.fk o
 ft o := by rw [t.frozen _ _ h.lt' (fun hs => hS _ _ hs (.inr (.inl rfl)))]; exact h.ft o
 fr i o hi := by rw [t.frozen _ _ (h.lr hi) (fun hs => hS _ _ hs (.inr (.inr (.inl ⟨i, hi, rfl⟩))))]; exact h.fr i o hi
 lt' := Nat.lt_of_lt_of_le h.lt' t.size
 d1 := h.d1
 d2 := h.d2
 d3 := h.d3
 d4 := h.d4
 d5 := h.d5
 ge := h.ge
theorem RkAt.below {cs : List (List Ins)} {p : RkPl} {m : Mk} {w w' : World} (h : RkAt cs p m w) (hb : Below w.heap.size w w') : RkAt cs p m w' :=
 h.turns (Turns.of_below (S := fun _ _ => False) hb) (fun _ _ h => h.elim) (fun _ _ h => h.elim)
theorem RkAt.drewN {cs : List (List Ins)} {p : RkPl} {m : Mk} {w : World} (h : RkAt cs p m w) (n : Nat) : RkAt cs p m (w.drewN n) := h.below (Below.drewN' n)
structure RkStep (cs : List (List Ins)) (p : RkPl) (s : Rm) (w : World) (r : RmPl) (v : Value) (m' : Mk) (w' : World) : Prop where
 at' : RkAt cs (p.to r v) m' w'
 turns : Turns (fun k _ => p.fp cs.length s k) w w'
 fp : ∀ k, (p.to r v).fp cs.length m'.mem k -> p.fp cs.length s k ∨ w.heap.size <= k
 mb : r.mb = p.rp.mb
theorem RkStep.refl {cs : List (List Ins)} {p : RkPl} {m : Mk} {w : World} (h : RkAt cs p m w) : RkStep cs p m.mem w p.rp p.mv m w := ⟨h, Turns.refl _ _, fun _ h => Or.inl h, rfl⟩
theorem RkStep.of_below' {cs : List (List Ins)} {p : RkPl} {m : Mk} {w w' : World} (h : RkAt cs p m w) (k : Below w.heap.size w w') : RkStep cs p m.mem w p.rp p.mv m w' := ⟨h.below k, Turns.of_below k, fun _ h => Or.inl h, rfl⟩
theorem RkStep.below {cs : List (List Ins)} {p : RkPl} {s : Rm} {r : RmPl} {v : Value} {m : Mk} {w w' w2 : World} (h : RkStep cs p s w r v m w') (k : Below w'.heap.size w' w2) : RkStep cs p s w r v m w2 := ⟨h.at'.below k, h.turns.trans (Turns.of_below k), h.fp, h.mb⟩
theorem RkStep.of_below {cs : List (List Ins)} {p : RkPl} {s : Rm} {r : RmPl} {v : Value} {m : Mk} {w0 w w' : World} (k : Below w0.heap.size w0 w) (h : RkStep cs p s w r v m w') : RkStep cs p s w0 r v m w' :=
 ⟨h.at', (Turns.of_below k).trans h.turns, fun i hi => (h.fp i hi).imp id (fun e => Nat.le_trans k.size e), h.mb⟩
theorem Turns.chain {S S' : Nat -> Nat -> Prop} {a b c : World} (h : Turns S a b) (k : Turns S' b c) (hs : ∀ i o, S' i o -> S i o ∨ a.heap.size <= i) : Turns S a c :=
 ⟨k.os.trans h.os, k.tape.trans h.tape, k.output.trans h.output, Nat.le_trans h.size k.size,
  fun i hi ho => (k.block i (Nat.lt_of_lt_of_le hi h.size) (fun o e => by
   rcases hs i o e with e | e
   ·exact ho o e
   ·omega)).trans (h.block i hi ho),
  fun i o hi ho => (k.cell i o (Nat.lt_of_lt_of_le hi h.size) (fun e => by
   rcases hs i o e with e | e
   ·exact ho e
   ·omega)).trans (h.cell i o hi ho),
  fun i o hi ho => (k.frozen i o (Nat.lt_of_lt_of_le hi h.size) (fun e => by
   rcases hs i o e with e | e
   ·exact ho e
   ·omega)).trans (h.frozen i o hi ho)⟩
theorem RkStep.trans {cs : List (List Ins)} {p : RkPl} {s : Rm} {r r2 : RmPl} {v v2 : Value} {m m2 : Mk} {w w' w2 : World} (h : RkStep cs p s w r v m w') (k : RkStep cs (p.to r v) m.mem w' r2 v2 m2 w2) : RkStep cs p s w r2 v2 m2 w2 where
 at' := k.at'
 turns := h.turns.chain k.turns (fun i _ e => h.fp i e)
 fp i hi := by
  rcases k.fp i hi with e | e
  ·exact h.fp i e
  ·exact Or.inr (Nat.le_trans h.turns.size e)
 mb := k.mb.trans h.mb
theorem RkStep.setNew {cs : List (List Ins)} {p : RkPl} {s : Rm} {r : RmPl} {v : Value} {m : Mk} {w w' : World} (h : RkStep cs p s w r v m w') {b o : Nat} (u : Value) (hb : w.heap.size <= b) (hn : ¬ (p.to r v).fp cs.length m.mem b) (hB : p.B <= b) : RkStep cs p s w r v m (w'.setCell ⟨b, o, none⟩ u) :=
 ⟨h.at'.turns (S := fun k _ => k = b) ((Turns.refl _ _).setCell _ rfl) (fun k _ e => by rw [e]; exact hn) (fun k _ e => by rw [e]; exact hB), h.turns.setNew _ hb, h.fp, h.mb⟩
theorem RkAt.apart {cs : List (List Ins)} {p : RkPl} {m : Mk} {w : World} (h : RkAt cs p m w) {b o : Nat} {v : Value} (hb : b = p.k ∨ b = p.tb ∨ ∃ t, t < cs.length /\ b = p.rb t) :
  RcB cs p.ad p.B (w.setCell ⟨b, o, none⟩ v) /\ RmAt p.rp m.mem (w.setCell ⟨b, o, none⟩ v) /\ (w.setCell ⟨b, o, none⟩ v).ownsRow 0 77 2 p.mv m.marks.length (rmarkCells m.marks) /\ Turns (fun k _ => p.fp cs.length m.mem k) w (w.setCell ⟨b, o, none⟩ v) := by
 have hfp : p.fp cs.length m.mem b := by
  rcases hb with e | e | e
  ·exact .inl e
  ·exact .inr (.inl e)
  ·exact .inr (.inr (.inl e))
 have T : Turns (fun k _ => k = b) w (w.setCell ⟨b, o, none⟩ v) := (Turns.refl _ _).setCell _ rfl
 refine ⟨h.rc.turns T (fun k _ e => by rw [e]; exact h.ge b hfp), h.mem.turns T (fun k _ hk e => ?_), ownsRow_block h.own fun k hk => Below.heap_setCell _ _ _ _ (fun e => ?_), (Turns.refl _ _).setCell _ hfp⟩
 ·have := h.d5 k hk
  rcases hb with e' | e' | ⟨t, ht, e'⟩
  ·exact this.1 (e.trans e')
  ·exact this.2.1 (e.trans e')
  ·exact this.2.2.1 t ht (e.trans e')
 ·have := h.d4 k hk
  rcases hb with e' | e' | ⟨t, ht, e'⟩
  ·exact this.1 (e.trans e')
  ·exact this.2.1 (e.trans e')
  ·exact this.2.2 t ht (e.trans e')
theorem RkAt.setReg {cs : List (List Ins)} {p : RkPl} {m : Mk} {w : World} (h : RkAt cs p m w) {t r : Nat} (ht : t < cs.length) (hr : r < 8) (v : Int) : RkStep cs p m.mem w p.rp p.mv (m.setReg t r v) (w.setCell ⟨p.rb t, r, none⟩ (.int .i64 v)) := by
 obtain ⟨h1, h2, h3, h4⟩ := h.apart (b := p.rb t) (o := r) (v := .int .i64 v) (.inr (.inr ⟨t, ht, rfl⟩))
 have dk := (h.d2 t ht).1
 have dt := (h.d2 t ht).2
 refine ⟨⟨h1, h2, h.thr, h.few, h.tcap, cell_ne h.mM (Or.inl dk.symm), cell_ne h.mT (Or.inl dk.symm), cell_ne h.mMarks (Or.inl dk.symm), cell_ne h.mFaults (Or.inl dk.symm),
  fun i L hi => cell_ne (h.tCode i L hi) (Or.inl dt.symm), h.ccap, fun i hi => cell_ne (h.tRegs i hi) (Or.inl dt.symm), fun i hi => cell_ne (h.tAt i hi) (Or.inl dt.symm), h.rcap, fun i k hi hk => ?_, h3,
  fun o => by rw [World.frozen?_setCell]; exact h.fk o, fun o => by rw [World.frozen?_setCell]; exact h.ft o, fun i o hi => by rw [World.frozen?_setCell]; exact h.fr i o hi, by rw [World.size_setCell]; exact h.lt', h.d1, h.d2, h.d3, h.d4, h.d5, h.ge⟩, h4, fun _ h => Or.inl h, rfl⟩
 simp only [Mk.setReg]
 by_cases e : i = t /\ k = r
 ·rw [if_pos e, e.1, e.2]
  exact World.cell?_setCell_same _ _ _ (h.regs t r ht hr)
 ·rw [if_neg e]
  refine cell_ne (h.regs i k hi hk) ?_
  by_cases e1 : i = t
  ·exact Or.inr (fun e2 => e ⟨e1, e2⟩)
  ·exact Or.inl (h.d3 i t hi ht e1)
theorem RkAt.setPc {cs : List (List Ins)} {p : RkPl} {m : Mk} {w : World} (h : RkAt cs p m w) {t : Nat} (ht : t < cs.length) (n : Nat) : RkStep cs p m.mem w p.rp p.mv (m.setPc t n) (w.setCell ⟨p.tb, t * 3 + 2, none⟩ (.int .i64 n)) := by
 obtain ⟨h1, h2, h3, h4⟩ := h.apart (b := p.tb) (o := t * 3 + 2) (v := .int .i64 n) (.inr (.inl rfl))
 have dk := h.d1
 refine ⟨⟨h1, h2, h.thr, h.few, h.tcap, cell_ne h.mM (Or.inl dk), cell_ne h.mT (Or.inl dk), cell_ne h.mMarks (Or.inl dk), cell_ne h.mFaults (Or.inl dk),
  fun i L hi => cell_ne (h.tCode i L hi) (Or.inr (by omega)), h.ccap, fun i hi => cell_ne (h.tRegs i hi) (Or.inr (by omega)), fun i hi => ?_, h.rcap, fun i k hi hk => cell_ne (h.regs i k hi hk) (Or.inl (h.d2 i hi).2), h3,
  fun o => by rw [World.frozen?_setCell]; exact h.fk o, fun o => by rw [World.frozen?_setCell]; exact h.ft o, fun i o hi => by rw [World.frozen?_setCell]; exact h.fr i o hi, by rw [World.size_setCell]; exact h.lt', h.d1, h.d2, h.d3, h.d4, h.d5, h.ge⟩, h4, fun _ h => Or.inl h, rfl⟩
 simp only [Mk.setPc]
 by_cases e : i = t
 ·rw [if_pos e, e]
  exact World.cell?_setCell_same _ _ _ (h.tAt t ht)
 ·rw [if_neg e]
  exact cell_ne (h.tAt i hi) (Or.inr (by omega))
theorem RkAt.addFault {cs : List (List Ins)} {p : RkPl} {m : Mk} {w : World} (h : RkAt cs p m w) (n : Nat) : RkStep cs p m.mem w p.rp p.mv (m.addFault n) (w.setCell ⟨p.k, 3, none⟩ (.int .i64 ((m.faults + n : Nat) : Int))) := by
 obtain ⟨h1, h2, h3, h4⟩ := h.apart (b := p.k) (o := 3) (v := .int .i64 ((m.faults + n : Nat) : Int)) (.inl rfl)
 have dk := h.d1
 exact ⟨⟨h1, h2, h.thr, h.few, h.tcap, cell_ne h.mM (Or.inr (by decide)), cell_ne h.mT (Or.inr (by decide)), cell_ne h.mMarks (Or.inr (by decide)), World.cell?_setCell_same _ _ _ h.mFaults,
  fun i L hi => cell_ne (h.tCode i L hi) (Or.inl dk.symm), h.ccap, fun i hi => cell_ne (h.tRegs i hi) (Or.inl dk.symm), fun i hi => cell_ne (h.tAt i hi) (Or.inl dk.symm), h.rcap, fun i k hi hk => cell_ne (h.regs i k hi hk) (Or.inl (h.d2 i hi).1), h3,
  fun o => by rw [World.frozen?_setCell]; exact h.fk o, fun o => by rw [World.frozen?_setCell]; exact h.ft o, fun i o hi => by rw [World.frozen?_setCell]; exact h.fr i o hi, by rw [World.size_setCell]; exact h.lt', h.d1, h.d2, h.d3, h.d4, h.d5, h.ge⟩, h4, fun _ h => Or.inl h, rfl⟩
theorem RkAt.ofMem {cs : List (List Ins)} {p : RkPl} {m : Mk} {s : Rm} {r : RmPl} {w w' : World} (h : RkAt cs p m w) (q : RmStep p.rp m.mem w r s w') (hn : s.threads = m.mem.threads) : RkStep cs p m.mem w r p.mv (m.setMem s) w' := by
 have hmb := q.mb
 have hS : ∀ k, p.rp.fp m.mem k -> p.fp cs.length m.mem k := fun k hk => .inr (.inr (.inr (.inr hk)))
 have lk := h.lk
 have ltb := h.lt'
 have nk : ∀ o : Nat, ¬ (fun k (_ : Nat) => p.rp.fp m.mem k) p.k o := fun _ e => (h.d5 _ e).1 rfl
 have nt : ∀ o : Nat, ¬ (fun k (_ : Nat) => p.rp.fp m.mem k) p.tb o := fun _ e => (h.d5 _ e).2.1 rfl
 have nr : ∀ t (o : Nat), t < cs.length -> ¬ (fun k (_ : Nat) => p.rp.fp m.mem k) (p.rb t) o := fun t _ ht e => (h.d5 _ e).2.2.1 t ht rfl
 have fz1 : ∀ o, w'.frozen? ⟨p.k, o, none⟩ = false := fun o => by rw [q.turns.frozen _ _ lk (nk o)]; exact h.fk o
 have fz2 : ∀ o, w'.frozen? ⟨p.tb, o, none⟩ = false := fun o => by rw [q.turns.frozen _ _ ltb (nt o)]; exact h.ft o
 have fz3 : ∀ t o, t < cs.length -> w'.frozen? ⟨p.rb t, o, none⟩ = false := fun t o ht => by rw [q.turns.frozen _ _ (h.lr ht) (nr t o ht)]; exact h.fr t o ht
 refine ⟨⟨h.rc.turns q.turns (fun k _ e => h.ge k (hS k e)), q.at', hn.trans h.thr, h.few, h.tcap, by have e := q.turns.keep h.mM (nk 0); rw [<- hmb] at e; exact e, q.turns.keep h.mT (nk 1), q.turns.keep h.mMarks (nk 2), q.turns.keep h.mFaults (nk 3),
  fun i L hi => q.turns.keep (h.tCode i L hi) (nt (i * 3)), h.ccap, fun i hi => q.turns.keep (h.tRegs i hi) (nt (i * 3 + 1)), fun i hi => q.turns.keep (h.tAt i hi) (nt (i * 3 + 2)), h.rcap, fun i k hi hk => q.turns.keep (h.regs i k hi hk) (nr i k hi),
  ownsRow_block h.own fun k hk => q.turns.block k (h.own.lt k hk).2 (fun _ e => (h.d5 k e).2.2.2 hk),
  fz1, fz2, fz3, Nat.lt_of_lt_of_le ltb q.turns.size, h.d1, h.d2, h.d3, h.d4, fun k hk => ?_, fun k hk => ?_⟩,
  q.turns.mono (fun k _ _ e => hS k e), fun k hk => ?_, hmb⟩
 ·rcases q.fp k hk with e | e
  ·exact h.d5 k e
  ·exact ⟨by show k ≠ p.k; omega, by show k ≠ p.tb; omega, fun t ht => by have := h.lr ht; show k ≠ p.rb t; omega, fun e' => by have := (h.own.lt k e').2; omega⟩
 ·rcases hk with e | e | e | e | e
  ·exact h.ge k (.inl e)
  ·exact h.ge k (.inr (.inl e))
  ·exact h.ge k (.inr (.inr (.inl e)))
  ·exact h.ge k (.inr (.inr (.inr (.inl e))))
  ·rcases q.fp k e with e | e
   ·exact h.ge k (hS k e)
   ·have := h.rc.size; show p.B <= k; omega
 ·rcases hk with e | e | e | e | e
  ·exact Or.inl (.inl e)
  ·exact Or.inl (.inr (.inl e))
  ·exact Or.inl (.inr (.inr (.inl e)))
  ·exact Or.inl (.inr (.inr (.inr (.inl e))))
  ·exact (q.fp k e).imp (hS k) id
end
section
open Go.RowKit Go.Extern.Stop Go.Stop Go.Extern Go.Maps Go.WideMaps Go.Sort
theorem rowAt_take {R : List (List Int)} {t : Nat} {row : List Int} (h : R[t]? = some row) (u k : Nat) : rowAt (R.take (t + 1)) u k = if u = t then row.getD k 0 else rowAt (R.take t) u k := by
 have ht := (List.getElem?_eq_some_iff.1 h).1
 unfold rowAt
 by_cases e : u = t
 ·rw [if_pos e, e]
  congr 1
  rw [List.getD_eq_getElem?_getD, List.getElem?_take, if_pos (by omega), h]; rfl
 ·rw [if_neg e]
  congr 1
  rw [List.getD_eq_getElem?_getD, List.getD_eq_getElem?_getD, List.getElem?_take, List.getElem?_take]
  by_cases e2 : u < t
  ·rw [if_pos (by omega), if_pos e2]
  ·rw [if_neg (by omega), if_neg e2]
def Sta.at1 (s : Sta) (n i t : Nat) : Mk where
 mem := { Rm.fresh s.cells.toNat n with ar := (Rm.fresh s.cells.toNat n).ar.filled (s.init.take i) }
 regs := rowAt (s.regs.take t)
 pc _ := 0
 marks := []
 faults := 0
theorem Sta.at1_end (s : Sta) (n : Nat) : s.at1 n s.init.length s.regs.length = s.mach n := by
 unfold Sta.at1 Sta.mach
 rw [List.take_length, List.take_length]
theorem Ar.filled_nil (s : Ar) : s.filled [] = s := by
 unfold Ar.filled
 simp
theorem Mk.ext' {m m' : Mk} (h1 : m.mem = m'.mem) (h2 : m.regs = m'.regs) (h3 : m.pc = m'.pc) (h4 : m.marks = m'.marks) (h5 : m.faults = m'.faults) : m = m' := by
 cases m; cases m'; simp only at h1 h2 h3 h4 h5; rw [h1, h2, h3, h4, h5]
def Mk.rowPart (m : Mk) (i : Nat) (row : List Int) (j : Nat) : Mk :=
 m.setMem { m.mem.give i with ar := { (m.mem.give i).ar with words := fun c k => if c = i /\ k < j then row.getD k 0 else (m.mem.give i).ar.words c k } }
theorem Mk.rowPart_zero (m : Mk) (i : Nat) (row : List Int) : m.rowPart i row 0 = m.setMem (m.mem.give i) := by
 unfold Mk.rowPart
 have : (fun c k => if c = i /\ k < 0 then row.getD k 0 else (m.mem.give i).ar.words c k) = (m.mem.give i).ar.words := by
  funext c k; rw [if_neg (by omega)]
 rw [this]
theorem Mk.rowPart_succ (m : Mk) (i : Nat) (row : List Int) (j : Nat) {v : Int} (hv : row[j]? = some v) : (m.rowPart i row j).setMem ((m.rowPart i row j).mem.setWord i j v) = m.rowPart i row (j + 1) := by
 unfold Mk.rowPart Mk.setMem Rm.setWord Ar.setWord
 simp only
 congr 3
 funext c k
 by_cases h1 : c = i /\ k = j
 ·rw [if_pos h1, if_pos (by omega), h1.2, List.getD_eq_getElem?_getD, hv]; rfl
 ·rw [if_neg h1]
  by_cases h2 : c = i /\ k < j
  ·rw [if_pos h2, if_pos (by omega)]
  ·rw [if_neg h2, if_neg (by omega)]
theorem Sta.at1_row {s : Sta} {n i t : Nat} {row : List Int} (h : s.init[i]? = some row) (h4 : row.length <= 4) : (s.at1 n i t).rowPart i row row.length = s.at1 n (i + 1) t := by
 have hi := (List.getElem?_eq_some_iff.1 h).1
 have hl : (s.init.take i).length = i := by rw [List.length_take]; omega
 have hl2 : (s.init.take (i + 1)).length = i + 1 := by rw [List.length_take]; omega
 refine Mk.ext' ?_ rfl rfl rfl rfl
 show Rm.mk _ _ _ = Rm.mk _ _ _
 congr 1
 show Ar.mk _ _ _ _ = Ar.mk _ _ _ _
 congr 1
 ·funext c k
  show (if _ then _ else if c = i /\ k < 4 then 0 else if c < (s.init.take i).length /\ k < 4 then rowAt (s.init.take i) c k else _) = (if c < (s.init.take (i + 1)).length /\ k < 4 then rowAt (s.init.take (i + 1)) c k else _)
  rw [hl, hl2, rowAt_take h]
  by_cases e : c = i
  ·by_cases e2 : k < row.length
   ·rw [if_pos ⟨e, e2⟩, if_pos (by omega), if_pos e]
   ·rw [if_neg (by omega)]
    by_cases e3 : k < 4
    ·rw [if_pos ⟨e, e3⟩, if_pos (by omega), if_pos e, List.getD_eq_getElem?_getD, List.getElem?_eq_none (by omega)]; rfl
    ·rw [if_neg (by omega), if_neg (by omega), if_neg (by omega)]
  ·rw [if_neg (by omega), if_neg (by omega), if_neg e]
   by_cases e2 : c < i /\ k < 4
   ·rw [if_pos e2, if_pos (by omega)]
   ·rw [if_neg e2, if_neg (by omega)]
 ·funext c
  show (if c = i then true else if c < (s.init.take i).length then true else _) = (if c < (s.init.take (i + 1)).length then true else _)
  rw [hl, hl2]
  by_cases e : c = i
  ·rw [if_pos e, if_pos (by omega)]
  ·rw [if_neg e]
   by_cases e2 : c < i
   ·rw [if_pos e2, if_pos (by omega)]
   ·rw [if_neg e2, if_neg (by omega)]
 ·funext c
  show (if c = i then (if i < (s.init.take i).length then 1 else _) + 1 else if c < (s.init.take i).length then 1 else _) = (if c < (s.init.take (i + 1)).length then 1 else _)
  rw [hl, hl2]
  by_cases e : c = i
  ·rw [if_pos e, if_neg (by omega), if_pos (by omega)]; rfl
  ·rw [if_neg e]
   by_cases e2 : c < i
   ·rw [if_pos e2, if_pos (by omega)]
   ·rw [if_neg e2, if_neg (by omega)]
theorem freeFrom_hit {there : Nat -> Bool} : ∀ (n j i : Nat), j <= i -> i < j + n -> there i = false -> (∀ k, j <= k -> k < i -> there k = true) -> freeFrom there j n = some i
 | 0, j, i, h1, h2, _, _ => by omega
 | n + 1, j, i, h1, h2, h3, h4 => by
  unfold freeFrom
  by_cases e : j = i
  ·rw [e, h3, if_neg (by decide)]
  ·rw [h4 j nL (by omega), if_pos rfl]
   exact freeFrom_hit n (j + 1) i (by omega) (by omega) h3 (fun k h5 h6 => h4 k (by omega) h6)
theorem Sta.at1_free {s : Sta} {n i t : Nat} (hi : i < s.init.length) (hc : (s.init.length : Int) <= s.cells) : (s.at1 n i t).mem.ar.free? = some i := by
 have hl : (s.init.take i).length = i := by rw [List.length_take]; omega
 refine freeFrom_hit _ 0 i (Nat.zero_le _) (by show i < 0 + s.cells.toNat; omega) ?_ (fun k _ hk => ?_)
 ·show (if i < (s.init.take i).length then true else false) = false
  rw [hl, if_neg (by omega)]
 ·show (if k < (s.init.take i).length then true else false) = true
  rw [hl, if_pos hk]
theorem Sta.at1_given {s : Sta} {n i t : Nat} (hi : i < s.init.length) : (s.at1 n i t).mem.ar.given i = 0 := by
 have hl : (s.init.take i).length = i := by rw [List.length_take]; omega
 show (if i < (s.init.take i).length then 1 else 0) = 0
 rw [hl, if_neg (by omega)]
end
section
open Go.RowKit Go.Extern.Stop Go.Stop Go.Extern Go.Maps Go.WideMaps Go.Sort
theorem rowOk_at {R : List (List Int)} {n : Nat} (h : rowsOk n R = true) {i : Nat} {row : List Int} (hr : R[i]? = some row) : row.length <= n /\ ∀ (j : Nat) v, row[j]? = some v -> Wd v := by
 unfold rowsOk at h
 rw [List.all_eq_true] at h
 have := h row (List.mem_of_getElem? hr)
 unfold rowOk at this
 rw [Bool.and_eq_true, decide_eq_true_eq, List.all_eq_true] at this
 exact ⟨this.1, fun j v hv => by have := this.2 v (List.mem_of_getElem? hv); unfold wordOk at this; rw [decide_eq_true_eq] at this; exact this⟩
theorem Sta.fits_of {s : Sta} {n : Nat} (h : s.fits n = true) : (s.init.length : Int) <= s.cells /\ rowsOk 4 s.init = true /\ s.regs.length <= n /\ rowsOk 8 s.regs = true := by
 unfold Sta.fits at h
 simp only [Bool.and_eq_true, decide_eq_true_eq] at h
 exact ⟨h.1.1, h.1.2, h.2.1, h.2.2⟩
end
end Go.Proofs.YtaiigfcfmcicjaaGreatDoor
