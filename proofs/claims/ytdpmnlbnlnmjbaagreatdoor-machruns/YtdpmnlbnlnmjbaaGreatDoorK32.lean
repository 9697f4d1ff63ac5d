import Derived.Test.YtdpmnlbnlnmjbaaGreatDoorK12
import Derived.Test.YtdpmnlbnlnmjbaaGreatDoorK31
import Derived.Test.YtdpmnlbnlnmjbaaGreatDoorK27
import Derived.Test.YtdpmnlbnlnmjbaaGreatDoorK06

/- RkA -/
namespace Go.Proofs.YtdpmnlbnlnmjbaaGreatDoor
open Go.RowKit

def rmarkCell (x : Nat × Int) : List Value := [.int .i64 x.1, .int .i64 x.2]
def rmarkCells (l : List (Nat × Int)) : List Value := l.flatMap rmarkCell
theorem rmarkCells_append (l : List (Nat × Int)) (x : Nat × Int) : rmarkCells (l ++ [x]) = rmarkCells l ++ rmarkCell x := by simp [rmarkCells]
theorem rmarkCells_at {l : List (Nat × Int)} {i : Nat} {x : Nat × Int} (h : l[i]? = some x) : (rmarkCells l)[i * 2]? = some (.int .i64 x.1) ∧ (rmarkCells l)[i * 2 + 1]? = some (.int .i64 x.2) := by
  induction l generalizing i with
  | nil => simp at h
  | cons y l ih =>
    have e : rmarkCells (y :: l) = .int .i64 y.1 :: .int .i64 y.2 :: rmarkCells l := rfl
    rw [e]
    cases i with
    | zero => cases h; exact ⟨rfl, rfl⟩
    | succ i =>
      have := ih (i := i) (by simpa using h)
      rw [show (i + 1) * 2 = i * 2 + 1 + 1 by omega]
      simpa using this

structure RcB (cs : List (List Ins)) (ad : Nat → Option Addr) (B : Nat) (w : World) : Prop where
  ex : ∃ W, (∀ (t : Nat) L, cs[t]? = some L → insAt (ad t) L W) ∧ W.heap.size = B ∧ Below B W w
theorem RcB.code {cs : List (List Ins)} {ad : Nat → Option Addr} {B : Nat} {w : World} (h : RcB cs ad B w) {t : Nat} {L : List Ins} (ht : cs[t]? = some L) : insAt (ad t) L w := by
  obtain ⟨W, h1, rfl, h3⟩ := h.ex
  exact insAt_below (h1 t L ht) h3
theorem RcB.turns {S : Nat → Nat → Prop} {cs : List (List Ins)} {ad : Nat → Option Addr} {B : Nat} {w w' : World} (h : RcB cs ad B w) (t : Turns S w w') (hS : ∀ k o, S k o → B ≤ k) : RcB cs ad B w' := by
  obtain ⟨W, h1, rfl, h3⟩ := h.ex
  exact ⟨W, h1, rfl, h3.trans (t.below h3.size (fun k o hk hs => by have := hS k o hs; omega))⟩
theorem RcB.size {cs : List (List Ins)} {ad : Nat → Option Addr} {B : Nat} {w : World} (h : RcB cs ad B w) : B ≤ w.heap.size := by
  obtain ⟨W, h1, rfl, h3⟩ := h.ex
  exact h3.size

structure RkPl where
  B : Nat
  rp : RmPl
  k : Nat
  tb : Nat
  tcap : Nat
  ad : Nat → Option Addr
  cc : Nat → Nat
  rb : Nat → Nat
  rcap : Nat → Nat
  mv : Value
def RkPl.to (p : RkPl) (r : RmPl) (v : Value) : RkPl := { p with rp := r, mv := v }
def RkPl.fp (p : RkPl) (n : Nat) (s : Rm) (k : Nat) : Prop := k = p.k ∨ k = p.tb ∨ (∃ t, t < n ∧ k = p.rb t) ∨ p.mv.ownBlock = some k ∨ p.rp.fp s k

structure RkAt (cs : List (List Ins)) (p : RkPl) (m : Mk) (w : World) : Prop where
  rc : RcB cs p.ad p.B w
  mem : RmAt p.rp m.mem w
  thr : m.mem.threads = cs.length
  few : cs.length ≤ 6
  tcap : cs.length ≤ p.tcap
  mM : w.cell? ⟨p.k, 0, none⟩ = some (.pointer (some ⟨p.rp.mb, 0, none⟩))
  mT : w.cell? ⟨p.k, 1, none⟩ = some (.slice (some ⟨p.tb, 0, none⟩) cs.length p.tcap)
  mMarks : w.cell? ⟨p.k, 2, none⟩ = some p.mv
  mFaults : w.cell? ⟨p.k, 3, none⟩ = some (.int .i64 m.faults)
  tCode : ∀ (t : Nat) L, cs[t]? = some L → w.cell? ⟨p.tb, t * 3, none⟩ = some (.slice (p.ad t) L.length (p.cc t))
  ccap : ∀ (t : Nat) L, cs[t]? = some L → L.length ≤ p.cc t
  tRegs : ∀ t, t < cs.length → w.cell? ⟨p.tb, t * 3 + 1, none⟩ = some (.slice (some ⟨p.rb t, 0, none⟩) 8 (p.rcap t))
  tAt : ∀ t, t < cs.length → w.cell? ⟨p.tb, t * 3 + 2, none⟩ = some (.int .i64 (m.pc t))
  rcap : ∀ t, t < cs.length → 8 ≤ p.rcap t
  regs : ∀ t r, t < cs.length → r < 8 → w.cell? ⟨p.rb t, r, none⟩ = some (.int .i64 (m.regs t r))
  own : w.ownsRow 0 126 2 p.mv m.marks.length (rmarkCells m.marks)
  fk : ∀ o, w.frozen? ⟨p.k, o, none⟩ = false
  ft : ∀ o, w.frozen? ⟨p.tb, o, none⟩ = false
  fr : ∀ t o, t < cs.length → w.frozen? ⟨p.rb t, o, none⟩ = false
  lt' : p.tb < w.heap.size
  d1 : p.k ≠ p.tb
  d2 : ∀ t, t < cs.length → p.rb t ≠ p.k ∧ p.rb t ≠ p.tb
  d3 : ∀ t u, t < cs.length → u < cs.length → t ≠ u → p.rb t ≠ p.rb u
  d4 : ∀ k, p.mv.ownBlock = some k → k ≠ p.k ∧ k ≠ p.tb ∧ ∀ t, t < cs.length → k ≠ p.rb t
  d5 : ∀ k, p.rp.fp m.mem k → k ≠ p.k ∧ k ≠ p.tb ∧ (∀ t, t < cs.length → k ≠ p.rb t) ∧ p.mv.ownBlock ≠ some k
  ge : ∀ k, p.fp cs.length m.mem k → p.B ≤ k

theorem RkAt.lk {cs : List (List Ins)} {p : RkPl} {m : Mk} {w : World} (h : RkAt cs p m w) : p.k < w.heap.size := World.block_lt_of_cell? _ _ h.mM
theorem RkAt.lr {cs : List (List Ins)} {p : RkPl} {m : Mk} {w : World} (h : RkAt cs p m w) {t : Nat} (ht : t < cs.length) : p.rb t < w.heap.size := World.block_lt_of_cell? _ _ (h.regs t 0 ht (by decide))
theorem RkAt.fp_lt {cs : List (List Ins)} {p : RkPl} {m : Mk} {w : World} (h : RkAt cs p m w) {k : Nat} (hk : p.fp cs.length m.mem k) : k < w.heap.size := by
  rcases hk with rfl | rfl | ⟨t, ht, rfl⟩ | hk | hk
  · exact h.lk
  · exact h.lt'
  · exact h.lr ht
  · exact (h.own.lt k hk).2
  · exact h.mem.fp_lt hk

theorem RkAt.turns {S : Nat → Nat → Prop} {cs : List (List Ins)} {p : RkPl} {m : Mk} {w w' : World} (h : RkAt cs p m w) (t : Turns S w w') (hS : ∀ k o, S k o → ¬ p.fp cs.length m.mem k) (hB : ∀ k o, S k o → p.B ≤ k) : RkAt cs p m w' where
  rc := h.rc.turns t hB
  mem := h.mem.turns t (fun k o hk hs => hS k o hs (.inr (.inr (.inr (.inr hk)))))
  thr := h.thr
  few := h.few
  tcap := h.tcap
  mM := t.keep h.mM (fun hs => hS _ _ hs (.inl rfl))
  mT := t.keep h.mT (fun hs => hS _ _ hs (.inl rfl))
  mMarks := t.keep h.mMarks (fun hs => hS _ _ hs (.inl rfl))
  mFaults := t.keep h.mFaults (fun hs => hS _ _ hs (.inl rfl))
  tCode i L hi := t.keep (h.tCode i L hi) (fun hs => hS _ _ hs (.inr (.inl rfl)))
  ccap := h.ccap
  tRegs i hi := t.keep (h.tRegs i hi) (fun hs => hS _ _ hs (.inr (.inl rfl)))
  tAt i hi := t.keep (h.tAt i hi) (fun hs => hS _ _ hs (.inr (.inl rfl)))
  rcap := h.rcap
  regs i r hi hr := t.keep (h.regs i r hi hr) (fun hs => hS _ _ hs (.inr (.inr (.inl ⟨i, hi, rfl⟩))))
  own := ownsRow_block h.own fun k hk => t.block k (h.own.lt k hk).2 (fun o hs => hS _ _ hs (.inr (.inr (.inr (.inl hk)))))
  fk o := by rw [t.frozen _ _ h.lk (fun hs => hS _ _ hs (.inl rfl))]; exact h.fk o
  ft o := by rw [t.frozen _ _ h.lt' (fun hs => hS _ _ hs (.inr (.inl rfl)))]; exact h.ft o
  fr i o hi := by rw [t.frozen _ _ (h.lr hi) (fun hs => hS _ _ hs (.inr (.inr (.inl ⟨i, hi, rfl⟩))))]; exact h.fr i o hi
  lt' := Nat.lt_of_lt_of_le h.lt' t.size
  d1 := h.d1
  d2 := h.d2
  d3 := h.d3
  d4 := h.d4
  d5 := h.d5
  ge := h.ge
theorem RkAt.below {cs : List (List Ins)} {p : RkPl} {m : Mk} {w w' : World} (h : RkAt cs p m w) (hb : Below w.heap.size w w') : RkAt cs p m w' :=
  h.turns (Turns.of_below (S := fun _ _ => False) hb) (fun _ _ h => h.elim) (fun _ _ h => h.elim)
theorem RkAt.alloc {cs : List (List Ins)} {p : RkPl} {m : Mk} {w : World} (h : RkAt cs p m w) (o : Obj) : RkAt cs p m (w.alloc o) := h.below ((Below.refl _ _).alloc (Nat.le_refl _) _)
theorem RkAt.drewN {cs : List (List Ins)} {p : RkPl} {m : Mk} {w : World} (h : RkAt cs p m w) (n : Nat) : RkAt cs p m (w.drewN n) := h.below (Below.drewN' n)

structure RkStep (cs : List (List Ins)) (p : RkPl) (s : Rm) (w : World) (r : RmPl) (v : Value) (m' : Mk) (w' : World) : Prop where
  at' : RkAt cs (p.to r v) m' w'
  turns : Turns (fun k _ => p.fp cs.length s k) w w'
  fp : ∀ k, (p.to r v).fp cs.length m'.mem k → p.fp cs.length s k ∨ w.heap.size ≤ k
  mb : r.mb = p.rp.mb

theorem RkStep.refl {cs : List (List Ins)} {p : RkPl} {m : Mk} {w : World} (h : RkAt cs p m w) : RkStep cs p m.mem w p.rp p.mv m w := ⟨h, Turns.refl _ _, fun _ h => Or.inl h, rfl⟩
theorem RkStep.of_below' {cs : List (List Ins)} {p : RkPl} {m : Mk} {w w' : World} (h : RkAt cs p m w) (k : Below w.heap.size w w') : RkStep cs p m.mem w p.rp p.mv m w' := ⟨h.below k, Turns.of_below k, fun _ h => Or.inl h, rfl⟩
theorem RkStep.below {cs : List (List Ins)} {p : RkPl} {s : Rm} {r : RmPl} {v : Value} {m : Mk} {w w' w2 : World} (h : RkStep cs p s w r v m w') (k : Below w'.heap.size w' w2) : RkStep cs p s w r v m w2 := ⟨h.at'.below k, h.turns.trans (Turns.of_below k), h.fp, h.mb⟩
theorem RkStep.of_below {cs : List (List Ins)} {p : RkPl} {s : Rm} {r : RmPl} {v : Value} {m : Mk} {w0 w w' : World} (k : Below w0.heap.size w0 w) (h : RkStep cs p s w r v m w') : RkStep cs p s w0 r v m w' :=
  ⟨h.at', (Turns.of_below k).trans h.turns, fun i hi => (h.fp i hi).imp id (fun e => Nat.le_trans k.size e), h.mb⟩
theorem Turns.chain {S S' : Nat → Nat → Prop} {a b c : World} (h : Turns S a b) (k : Turns S' b c) (hs : ∀ i o, S' i o → S i o ∨ a.heap.size ≤ i) : Turns S a c :=
  ⟨k.os.trans h.os, k.tape.trans h.tape, k.output.trans h.output, Nat.le_trans h.size k.size,
    fun i hi ho => (k.block i (Nat.lt_of_lt_of_le hi h.size) (fun o e => by
      rcases hs i o e with e | e
      · exact ho o e
      · omega)).trans (h.block i hi ho),
    fun i o hi ho => (k.cell i o (Nat.lt_of_lt_of_le hi h.size) (fun e => by
      rcases hs i o e with e | e
      · exact ho e
      · omega)).trans (h.cell i o hi ho),
    fun i o hi ho => (k.frozen i o (Nat.lt_of_lt_of_le hi h.size) (fun e => by
      rcases hs i o e with e | e
      · exact ho e
      · omega)).trans (h.frozen i o hi ho)⟩
theorem RkStep.trans {cs : List (List Ins)} {p : RkPl} {s : Rm} {r r2 : RmPl} {v v2 : Value} {m m2 : Mk} {w w' w2 : World} (h : RkStep cs p s w r v m w') (k : RkStep cs (p.to r v) m.mem w' r2 v2 m2 w2) : RkStep cs p s w r2 v2 m2 w2 where
  at' := k.at'
  turns := h.turns.chain k.turns (fun i _ e => h.fp i e)
  fp i hi := by
    rcases k.fp i hi with e | e
    · exact h.fp i e
    · exact Or.inr (Nat.le_trans h.turns.size e)
  mb := k.mb.trans h.mb

theorem RkStep.setNew {cs : List (List Ins)} {p : RkPl} {s : Rm} {r : RmPl} {v : Value} {m : Mk} {w w' : World} (h : RkStep cs p s w r v m w') {b o : Nat} (u : Value) (hb : w.heap.size ≤ b) (hn : ¬ (p.to r v).fp cs.length m.mem b) (hB : p.B ≤ b) : RkStep cs p s w r v m (w'.setCell ⟨b, o, none⟩ u) :=
  ⟨h.at'.turns (S := fun k _ => k = b) ((Turns.refl _ _).setCell _ rfl) (fun k _ e => by rw [e]; exact hn) (fun k _ e => by rw [e]; exact hB), h.turns.setNew _ hb, h.fp, h.mb⟩

theorem RkAt.apart {cs : List (List Ins)} {p : RkPl} {m : Mk} {w : World} (h : RkAt cs p m w) {b o : Nat} {v : Value} (hb : b = p.k ∨ b = p.tb ∨ ∃ t, t < cs.length ∧ b = p.rb t) :
    RcB cs p.ad p.B (w.setCell ⟨b, o, none⟩ v) ∧ RmAt p.rp m.mem (w.setCell ⟨b, o, none⟩ v) ∧ (w.setCell ⟨b, o, none⟩ v).ownsRow 0 126 2 p.mv m.marks.length (rmarkCells m.marks) ∧ Turns (fun k _ => p.fp cs.length m.mem k) w (w.setCell ⟨b, o, none⟩ v) := by
  have hfp : p.fp cs.length m.mem b := by
    rcases hb with e | e | e
    · exact .inl e
    · exact .inr (.inl e)
    · exact .inr (.inr (.inl e))
  have T : Turns (fun k _ => k = b) w (w.setCell ⟨b, o, none⟩ v) := (Turns.refl _ _).setCell _ rfl
  refine ⟨h.rc.turns T (fun k _ e => by rw [e]; exact h.ge b hfp), h.mem.turns T (fun k _ hk e => ?_), ownsRow_block h.own fun k hk => Below.heap_setCell _ _ _ _ (fun e => ?_), (Turns.refl _ _).setCell _ hfp⟩
  · have := h.d5 k hk
    rcases hb with e' | e' | ⟨t, ht, e'⟩
    · exact this.1 (e.trans e')
    · exact this.2.1 (e.trans e')
    · exact this.2.2.1 t ht (e.trans e')
  · have := h.d4 k hk
    rcases hb with e' | e' | ⟨t, ht, e'⟩
    · exact this.1 (e.trans e')
    · exact this.2.1 (e.trans e')
    · exact this.2.2 t ht (e.trans e')

theorem RkAt.setReg {cs : List (List Ins)} {p : RkPl} {m : Mk} {w : World} (h : RkAt cs p m w) {t r : Nat} (ht : t < cs.length) (hr : r < 8) (v : Int) : RkStep cs p m.mem w p.rp p.mv (m.setReg t r v) (w.setCell ⟨p.rb t, r, none⟩ (.int .i64 v)) := by
  obtain ⟨h1, h2, h3, h4⟩ := h.apart (b := p.rb t) (o := r) (v := .int .i64 v) (.inr (.inr ⟨t, ht, rfl⟩))
  have dk := (h.d2 t ht).1
  have dt := (h.d2 t ht).2
  refine ⟨⟨h1, h2, h.thr, h.few, h.tcap, cell_ne h.mM (Or.inl dk.symm), cell_ne h.mT (Or.inl dk.symm), cell_ne h.mMarks (Or.inl dk.symm), cell_ne h.mFaults (Or.inl dk.symm),
    fun i L hi => cell_ne (h.tCode i L hi) (Or.inl dt.symm), h.ccap, fun i hi => cell_ne (h.tRegs i hi) (Or.inl dt.symm), fun i hi => cell_ne (h.tAt i hi) (Or.inl dt.symm), h.rcap, fun i k hi hk => ?_, h3,
    fun o => by rw [World.frozen?_setCell]; exact h.fk o, fun o => by rw [World.frozen?_setCell]; exact h.ft o, fun i o hi => by rw [World.frozen?_setCell]; exact h.fr i o hi, by rw [World.size_setCell]; exact h.lt', h.d1, h.d2, h.d3, h.d4, h.d5, h.ge⟩, h4, fun _ h => Or.inl h, rfl⟩
  simp only [Mk.setReg]
  by_cases e : i = t ∧ k = r
  · rw [if_pos e, e.1, e.2]
    exact World.cell?_setCell_same _ _ _ (h.regs t r ht hr)
  · rw [if_neg e]
    refine cell_ne (h.regs i k hi hk) ?_
    by_cases e1 : i = t
    · exact Or.inr (fun e2 => e ⟨e1, e2⟩)
    · exact Or.inl (h.d3 i t hi ht e1)

theorem RkAt.setPc {cs : List (List Ins)} {p : RkPl} {m : Mk} {w : World} (h : RkAt cs p m w) {t : Nat} (ht : t < cs.length) (n : Nat) : RkStep cs p m.mem w p.rp p.mv (m.setPc t n) (w.setCell ⟨p.tb, t * 3 + 2, none⟩ (.int .i64 n)) := by
  obtain ⟨h1, h2, h3, h4⟩ := h.apart (b := p.tb) (o := t * 3 + 2) (v := .int .i64 n) (.inr (.inl rfl))
  have dk := h.d1
  refine ⟨⟨h1, h2, h.thr, h.few, h.tcap, cell_ne h.mM (Or.inl dk), cell_ne h.mT (Or.inl dk), cell_ne h.mMarks (Or.inl dk), cell_ne h.mFaults (Or.inl dk),
    fun i L hi => cell_ne (h.tCode i L hi) (Or.inr (by omega)), h.ccap, fun i hi => cell_ne (h.tRegs i hi) (Or.inr (by omega)), fun i hi => ?_, h.rcap, fun i k hi hk => cell_ne (h.regs i k hi hk) (Or.inl (h.d2 i hi).2), h3,
    fun o => by rw [World.frozen?_setCell]; exact h.fk o, fun o => by rw [World.frozen?_setCell]; exact h.ft o, fun i o hi => by rw [World.frozen?_setCell]; exact h.fr i o hi, by rw [World.size_setCell]; exact h.lt', h.d1, h.d2, h.d3, h.d4, h.d5, h.ge⟩, h4, fun _ h => Or.inl h, rfl⟩
  simp only [Mk.setPc]
  by_cases e : i = t
  · rw [if_pos e, e]
    exact World.cell?_setCell_same _ _ _ (h.tAt t ht)
  · rw [if_neg e]
    exact cell_ne (h.tAt i hi) (Or.inr (by omega))

theorem RkAt.addFault {cs : List (List Ins)} {p : RkPl} {m : Mk} {w : World} (h : RkAt cs p m w) (n : Nat) : RkStep cs p m.mem w p.rp p.mv (m.addFault n) (w.setCell ⟨p.k, 3, none⟩ (.int .i64 ((m.faults + n : Nat) : Int))) := by
  obtain ⟨h1, h2, h3, h4⟩ := h.apart (b := p.k) (o := 3) (v := .int .i64 ((m.faults + n : Nat) : Int)) (.inl rfl)
  have dk := h.d1
  exact ⟨⟨h1, h2, h.thr, h.few, h.tcap, cell_ne h.mM (Or.inr (by decide)), cell_ne h.mT (Or.inr (by decide)), cell_ne h.mMarks (Or.inr (by decide)), World.cell?_setCell_same _ _ _ h.mFaults,
    fun i L hi => cell_ne (h.tCode i L hi) (Or.inl dk.symm), h.ccap, fun i hi => cell_ne (h.tRegs i hi) (Or.inl dk.symm), fun i hi => cell_ne (h.tAt i hi) (Or.inl dk.symm), h.rcap, fun i k hi hk => cell_ne (h.regs i k hi hk) (Or.inl (h.d2 i hi).1), h3,
    fun o => by rw [World.frozen?_setCell]; exact h.fk o, fun o => by rw [World.frozen?_setCell]; exact h.ft o, fun i o hi => by rw [World.frozen?_setCell]; exact h.fr i o hi, by rw [World.size_setCell]; exact h.lt', h.d1, h.d2, h.d3, h.d4, h.d5, h.ge⟩, h4, fun _ h => Or.inl h, rfl⟩

theorem RkAt.ofMem {cs : List (List Ins)} {p : RkPl} {m : Mk} {s : Rm} {r : RmPl} {w w' : World} (h : RkAt cs p m w) (q : RmStep p.rp m.mem w r s w') (hn : s.threads = m.mem.threads) : RkStep cs p m.mem w r p.mv (m.setMem s) w' := by
  have hmb := q.mb
  have hS : ∀ k, p.rp.fp m.mem k → p.fp cs.length m.mem k := fun k hk => .inr (.inr (.inr (.inr hk)))
  have lk := h.lk
  have ltb := h.lt'
  have nk : ∀ o : Nat, ¬ (fun k (_ : Nat) => p.rp.fp m.mem k) p.k o := fun _ e => (h.d5 _ e).1 rfl
  have nt : ∀ o : Nat, ¬ (fun k (_ : Nat) => p.rp.fp m.mem k) p.tb o := fun _ e => (h.d5 _ e).2.1 rfl
  have nr : ∀ t (o : Nat), t < cs.length → ¬ (fun k (_ : Nat) => p.rp.fp m.mem k) (p.rb t) o := fun t _ ht e => (h.d5 _ e).2.2.1 t ht rfl
  have fz1 : ∀ o, w'.frozen? ⟨p.k, o, none⟩ = false := fun o => by rw [q.turns.frozen _ _ lk (nk o)]; exact h.fk o
  have fz2 : ∀ o, w'.frozen? ⟨p.tb, o, none⟩ = false := fun o => by rw [q.turns.frozen _ _ ltb (nt o)]; exact h.ft o
  have fz3 : ∀ t o, t < cs.length → w'.frozen? ⟨p.rb t, o, none⟩ = false := fun t o ht => by rw [q.turns.frozen _ _ (h.lr ht) (nr t o ht)]; exact h.fr t o ht
  refine ⟨⟨h.rc.turns q.turns (fun k _ e => h.ge k (hS k e)), q.at', hn.trans h.thr, h.few, h.tcap, by have e := q.turns.keep h.mM (nk 0); rw [← hmb] at e; exact e, q.turns.keep h.mT (nk 1), q.turns.keep h.mMarks (nk 2), q.turns.keep h.mFaults (nk 3),
    fun i L hi => q.turns.keep (h.tCode i L hi) (nt (i * 3)), h.ccap, fun i hi => q.turns.keep (h.tRegs i hi) (nt (i * 3 + 1)), fun i hi => q.turns.keep (h.tAt i hi) (nt (i * 3 + 2)), h.rcap, fun i k hi hk => q.turns.keep (h.regs i k hi hk) (nr i k hi),
    ownsRow_block h.own fun k hk => q.turns.block k (h.own.lt k hk).2 (fun _ e => (h.d5 k e).2.2.2 hk),
    fz1, fz2, fz3, Nat.lt_of_lt_of_le ltb q.turns.size, h.d1, h.d2, h.d3, h.d4, fun k hk => ?_, fun k hk => ?_⟩,
    q.turns.mono (fun k _ _ e => hS k e), fun k hk => ?_, hmb⟩
  · rcases q.fp k hk with e | e
    · exact h.d5 k e
    · exact ⟨by show k ≠ p.k; omega, by show k ≠ p.tb; omega, fun t ht => by have := h.lr ht; show k ≠ p.rb t; omega, fun e' => by have := (h.own.lt k e').2; omega⟩
  · rcases hk with e | e | e | e | e
    · exact h.ge k (.inl e)
    · exact h.ge k (.inr (.inl e))
    · exact h.ge k (.inr (.inr (.inl e)))
    · exact h.ge k (.inr (.inr (.inr (.inl e))))
    · rcases q.fp k e with e | e
      · exact h.ge k (hS k e)
      · have := h.rc.size; show p.B ≤ k; omega
  · rcases hk with e | e | e | e | e
    · exact Or.inl (.inl e)
    · exact Or.inl (.inr (.inl e))
    · exact Or.inl (.inr (.inr (.inl e)))
    · exact Or.inl (.inr (.inr (.inr (.inl e))))
    · exact (q.fp k e).imp (hS k) id
end Go.Proofs.YtdpmnlbnlnmjbaaGreatDoor

/- RsC -/
namespace Go.Proofs.YtdpmnlbnlnmjbaaGreatDoor
open Go.RowKit Go.Extern.Stop Go.Stop Go.Extern Go.Maps Go.WideMaps Go.Sort

theorem step_copy_cells {P : Program} (w : World) {ops : Array Oper} {o : Oper} {a : Act} {K : Act → World → Prop} {Q : Exit → Act → World → Prop} {E : Prop} (hgd : o.guard = none) (s x : Operand) (t elem : TypeId)
    (ho : o.op = .call { callee := .builtin .copy, args := #[s, x], argTypes := #[t, t] })
    (b off dLen dCap : Nat) (ad : Addr) (sLen sCap : Nat) (cs : List Value) (hs : a.eval s = .slice (some ⟨b, off, none⟩) dLen dCap) (hx : a.eval x = .slice (some ad) sLen sCap)
    (hu : P.underlying t = some (.slice elem)) (hz : (P.info? elem).map (·.size) = some 1) (hn : cs.length = Nat.min sLen dLen)
    (hsrc : ∀ j v, cs[j]? = some v → w.cell? (ad.add j) = some v) (hc : ∀ j, j < cs.length → (w.cell? ⟨b, off + j, none⟩).isSome = true) (hf : ∀ j, j < cs.length → w.frozen? ⟨b, off + j, none⟩ = false) (h1 : ∀ v ∈ cs, v.oneCell' = true)
    (h : K (a.put o.dst (goInt cs.length)) (w.setCells b off cs)) :
    if Region.wanted o (yielded ops a.tmps) = true then Oper.wp P o a w K Q else E := by
  have hw : Region.wanted o (yielded ops a.tmps) = true := by simp [Region.wanted, hgd]
  rw [if_pos hw]
  have hr := run_copy_cells (P := P) w t t o.type elem b off dLen dCap ad sLen sCap cs hu hz hn hsrc hc hf h1
  unfold Oper.wp execOp
  simp only [ho, resolve, invoke, builtin, Sem.run_bind, Sem.run_pure, Result.andThen_ok, List.map_toArray, List.map_cons, List.map_nil, hs, hx, hr]
  exact h
theorem step_copy_none {P : Program} (w : World) {ops : Array Oper} {o : Oper} {a : Act} {K : Act → World → Prop} {Q : Exit → Act → World → Prop} {E : Prop} (hgd : o.guard = none) (s x : Operand) (t elem : TypeId)
    (ho : o.op = .call { callee := .builtin .copy, args := #[s, x], argTypes := #[t, t] })
    (d : Option Addr) (dLen dCap : Nat) (ad : Option Addr) (sCap : Nat) (hs : a.eval s = .slice d dLen dCap) (hx : a.eval x = .slice ad 0 sCap)
    (hu : P.underlying t = some (.slice elem)) (hz : (P.info? elem).map (·.size) = some 1)
    (h : K (a.put o.dst (goInt 0)) w) :
    if Region.wanted o (yielded ops a.tmps) = true then Oper.wp P o a w K Q else E := by
  have hw : Region.wanted o (yielded ops a.tmps) = true := by simp [Region.wanted, hgd]
  rw [if_pos hw]
  have hr := run_copy_none (P := P) w t t o.type elem d ad dLen dCap 0 sCap hu hz (by simp)
  unfold Oper.wp execOp
  simp only [ho, resolve, invoke, builtin, Sem.run_bind, Sem.run_pure, Result.andThen_ok, List.map_toArray, List.map_cons, List.map_nil, hs, hx, hr]
  exact h

theorem RmStep.lay {rp : RmPl} {M : Mk} {i : Nat} {row : List Int} (h4 : row.length ≤ 4) : ∀ (l : List Int) (j : Nat) {w : World}, row.drop j = l → j ≤ row.length → i < (M.rowPart i row j).mem.ar.size → RmAt rp (M.rowPart i row j).mem w →
    RmStep rp (M.rowPart i row j).mem w rp (M.rowPart i row row.length).mem (w.setCells (rp.wb i) j (l.map (Value.int .i64)))
  | [], j, w, hl, hj, _, h => by
    have : j = row.length := by have := congrArg List.length hl; rw [List.length_drop] at this; simp at this; omega
    subst this
    exact RmStep.refl h
  | v :: l, j, w, hl, hj, hi, h => by
    have hjl : j < row.length := by have := congrArg List.length hl; rw [List.length_drop, List.length_cons] at this; omega
    have hv : row[j]? = some v := by have := List.getElem?_drop (xs := row) (i := j) (j := 0); rw [hl] at this; simpa using this.symm
    have k1 := RmStep.setWord h i j hi (by omega) v
    have e : (M.rowPart i row j).mem.setWord i j v = (M.rowPart i row (j + 1)).mem := by rw [← Mk.rowPart_succ M i row j hv]; rfl
    rw [e] at k1
    have k2 := RmStep.lay h4 l (j + 1) (by rw [← List.drop_drop, hl]; rfl) (by omega) (by exact hi) k1.at'
    exact k1.trans k2

structure Nm1 (w : World) (bs k : Nat) (sv mv : Array Value) (mb : Nat) (rp : RmPl) (R : Rm) (W : World) : Prop where
  mem : RmAt rp R W
  emb : rp.mb = mb
  fp : ∀ b, rp.fp R b → w.heap.size ≤ b ∧ b ≠ k ∧ b ≠ bs
  gk : w.heap.size ≤ k
  gs : w.heap.size ≤ bs
  bk : W.heap[k]? = some (.cells mv 62)
  bb : W.heap[bs]? = some (.cells sv 24)
  bw : Below w.heap.size w W
theorem Nm1.lk {w : World} {bs k : Nat} {sv mv : Array Value} {mb : Nat} {rp : RmPl} {R : Rm} {W : World} (h : Nm1 w bs k sv mv mb rp R W) : k < W.heap.size := by
  rcases Nat.lt_or_ge k W.heap.size with h' | h'
  · exact h'
  · have := h.bk; rw [Array.getElem?_eq_none h'] at this; cases this
theorem Nm1.ls {w : World} {bs k : Nat} {sv mv : Array Value} {mb : Nat} {rp : RmPl} {R : Rm} {W : World} (h : Nm1 w bs k sv mv mb rp R W) : bs < W.heap.size := by
  rcases Nat.lt_or_ge bs W.heap.size with h' | h'
  · exact h'
  · have := h.bb; rw [Array.getElem?_eq_none h'] at this; cases this
theorem Nm1.step {w : World} {bs k : Nat} {sv mv : Array Value} {mb : Nat} {rp rp' : RmPl} {R R' : Rm} {W W' : World} (h : Nm1 w bs k sv mv mb rp R W) (q : RmStep rp R W rp' R' W') : Nm1 w bs k sv mv mb rp' R' W' where
  mem := q.at'
  emb := q.mb.trans h.emb
  fp b hb := by
    rcases q.fp b hb with e | e
    · exact h.fp b e
    · have h1 := h.lk
      have h2 := h.ls
      have h3 := h.bw.size
      exact ⟨by omega, by omega, by omega⟩
  gk := h.gk
  gs := h.gs
  bk := (q.turns.block k h.lk (fun _ e => (h.fp _ e).2.1 rfl)).trans h.bk
  bb := (q.turns.block bs h.ls (fun _ e => (h.fp _ e).2.2 rfl)).trans h.bb
  bw := h.bw.trans (q.turns.below h.bw.size (fun i o hi e => by have := (h.fp i e).1; omega))
theorem Nm1.below {w : World} {bs k : Nat} {sv mv : Array Value} {mb : Nat} {rp : RmPl} {R : Rm} {W W' : World} (h : Nm1 w bs k sv mv mb rp R W) (hb : Below W.heap.size W W') : Nm1 w bs k sv mv mb rp R W' where
  mem := h.mem.below hb
  emb := h.emb
  fp := h.fp
  gk := h.gk
  gs := h.gs
  bk := (hb.block _ h.lk).trans h.bk
  bb := (hb.block _ h.ls).trans h.bb
  bw := h.bw.trans (hb.mono h.bw.size)
end Go.Proofs.YtdpmnlbnlnmjbaaGreatDoor

/- RsE -/
namespace Go.Proofs.YtdpmnlbnlnmjbaaGreatDoor
open Go.RowKit Go.Extern.Stop Go.Stop Go.Extern Go.Maps Go.WideMaps Go.Sort

theorem thrInfo : ∃ i, Tryz.prog.info? 57 = some i ∧ i.zero = some (.agg #[.slice none 0 0, .slice none 0 0, .int .i64 0]) ∧ i.size = 3 ∧ i.bytes = 56 := info_parts (by kernel_rfl)
theorem make8 (w : World) : (Instr.makeSlice 26 (.int .i64 8) (.int .i64 8)).run Tryz.prog w = .ok (.slice (some ⟨w.heap.size, 0, none⟩) 8 8) (w.alloc (.cells #[.int .i64 0, .int .i64 0, .int .i64 0, .int .i64 0, .int .i64 0, .int .i64 0, .int .i64 0, .int .i64 0] 3)) := by kernel_rfl

structure ThrV where
  ad : Option Addr
  n : Nat
  cap : Nat
  rb : Nat
deriving Inhabited
def ThrV.cells (x : ThrV) : List Value := [.slice x.ad x.n x.cap, .slice (some ⟨x.rb, 0, none⟩) 8 8, .int .i64 0]
def thrCells (T : List ThrV) : List Value := T.flatMap ThrV.cells
theorem thrCells_append (T : List ThrV) (x : ThrV) : thrCells (T ++ [x]) = thrCells T ++ x.cells := by simp [thrCells]
theorem thrCells_at {T : List ThrV} {i : Nat} {x : ThrV} (h : T[i]? = some x) : (thrCells T)[i * 3]? = some (.slice x.ad x.n x.cap) ∧ (thrCells T)[i * 3 + 1]? = some (.slice (some ⟨x.rb, 0, none⟩) 8 8) ∧ (thrCells T)[i * 3 + 2]? = some (.int .i64 0) := by
  induction T generalizing i with
  | nil => simp at h
  | cons y T ih =>
    have e : thrCells (y :: T) = .slice y.ad y.n y.cap :: .slice (some ⟨y.rb, 0, none⟩) 8 8 :: .int .i64 0 :: thrCells T := rfl
    rw [e]
    cases i with
    | zero => cases h; exact ⟨rfl, rfl, rfl⟩
    | succ i =>
      have := ih (i := i) (by simpa using h)
      rw [show (i + 1) * 3 = i * 3 + 1 + 1 + 1 by omega]
      simpa using this

structure Nm2 (w0 w : World) (bs k : Nat) (s : Sta) (cs : List (List Ins)) (sr : Value) (rp : RmPl) (R : Rm) (T : List ThrV) (v : Value) (W : World) : Prop where
  mem : RmAt rp R W
  fp : ∀ b, rp.fp R b → w.heap.size ≤ b ∧ b ≠ k ∧ b ≠ bs
  gk : w.heap.size ≤ k
  gs : w.heap.size ≤ bs
  ks : k ≠ bs
  k0 : W.cell? ⟨k, 0, none⟩ = some (.pointer (some ⟨rp.mb, 0, none⟩))
  k1 : W.cell? ⟨k, 1, none⟩ = some v
  k2 : W.cell? ⟨k, 2, none⟩ = some (.slice none 0 0)
  k3 : W.cell? ⟨k, 3, none⟩ = some (.int .i64 0)
  fk : ∀ o, W.frozen? ⟨k, o, none⟩ = false
  s2 : W.cell? ⟨bs, 2, none⟩ = some sr
  bw : Below w.heap.size w W
  own : W.ownsRow w.heap.size 57 3 v T.length (thrCells T)
  vb : ∀ b, v.ownBlock = some b → b ≠ k ∧ b ≠ bs ∧ ¬ rp.fp R b
  h0 : Below w0.heap.size w0 w
  code : ∀ (t : Nat) x, T[t]? = some x → ∃ L, cs[t]? = some L ∧ x.n = L.length ∧ L.length ≤ x.cap ∧ insAt x.ad L w0
  regs : ∀ (t : Nat) x, T[t]? = some x → (∀ r, r < 8 → W.cell? ⟨x.rb, r, none⟩ = some (.int .i64 (rowAt s.regs t r))) ∧ (∀ o, W.frozen? ⟨x.rb, o, none⟩ = false)
  rne : ∀ (t : Nat) x, T[t]? = some x → w.heap.size ≤ x.rb ∧ x.rb ≠ k ∧ x.rb ≠ bs ∧ ¬ rp.fp R x.rb ∧ v.ownBlock ≠ some x.rb
  dist : ∀ (t u : Nat) x y, T[t]? = some x → T[u]? = some y → t ≠ u → x.rb ≠ y.rb

section
variable {w0 w : World} {bs k : Nat} {s : Sta} {cs : List (List Ins)} {sr : Value} {rp : RmPl} {R : Rm} {T : List ThrV} {v : Value} {W : World}
theorem Nm2.rlt (h : Nm2 w0 w bs k s cs sr rp R T v W) {t : Nat} {x : ThrV} (hx : T[t]? = some x) : x.rb < W.heap.size := World.block_lt_of_cell? _ _ ((h.regs t x hx).1 0 (by decide))
theorem Nm2.below (h : Nm2 w0 w bs k s cs sr rp R T v W) {W' : World} (hb : Below W.heap.size W W') : Nm2 w0 w bs k s cs sr rp R T v W' :=
  have lk : k < W.heap.size := World.block_lt_of_cell? _ _ h.k0
  ⟨h.mem.below hb, h.fp, h.gk, h.gs, h.ks, keep_cell hb h.k0, keep_cell hb h.k1, keep_cell hb h.k2, keep_cell hb h.k3, fun o => by rw [hb.frozen lk]; exact h.fk o, keep_cell hb h.s2, h.bw.trans (hb.mono h.bw.size),
    ownsRow_block h.own (fun b hb' => hb.block _ (h.own.lt b hb').2), h.vb, h.h0, h.code, fun t x hx => ⟨fun r hr => keep_cell hb ((h.regs t x hx).1 r hr), fun o => by rw [hb.frozen (h.rlt hx)]; exact (h.regs t x hx).2 o⟩, h.rne, h.dist⟩

theorem Nm2.add (h : Nm2 w0 w bs k s cs sr rp R T v W) {x : ThrV} {L : List Ins} (hL : cs[T.length]? = some L) (h1 : x.n = L.length) (h2 : L.length ≤ x.cap) (h3 : insAt x.ad L w0)
    {W0 : World} (hr0 : W0.heap.size ≤ x.rb) (hv0 : ∀ b, v.ownBlock = some b → b < W0.heap.size) (hf0 : ∀ b, rp.fp R b → b < W0.heap.size) (hrr0 : ∀ (t : Nat) y, T[t]? = some y → y.rb < W0.heap.size) (hk0 : k < W0.heap.size) (hb0 : bs < W0.heap.size)
    (hr1 : ∀ r, r < 8 → W.cell? ⟨x.rb, r, none⟩ = some (.int .i64 (rowAt s.regs T.length r))) (hr2 : ∀ o, W.frozen? ⟨x.rb, o, none⟩ = false) (hw0 : w.heap.size ≤ W0.heap.size)
    {W9 : World} {v' : Value} (hown : W9.ownsRow w.heap.size 57 3 v' (T.length + 1) (thrCells (T ++ [x]))) (hz : W.heap.size ≤ W9.heap.size)
    (hos : W9.os = W.os) (htp : W9.tape = W.tape) (hou : W9.output = W.output)
    (hg : ∀ b, b < W.heap.size → v.ownBlock ≠ some b → W9.heap[b]? = W.heap[b]?) (hat : ∀ b, v'.ownBlock = some b → v.ownBlock = some b ∨ W.heap.size ≤ b) :
    Nm2 w0 w bs k s cs sr rp R (T ++ [x]) v' (W9.setCell ⟨k, 1, none⟩ v') := by
  have lk : k < W.heap.size := World.block_lt_of_cell? _ _ h.k0
  have ls : bs < W.heap.size := World.block_lt_of_cell? _ _ h.s2
  have nk : v.ownBlock ≠ some k := fun e => (h.vb k e).1 rfl
  have ns : v.ownBlock ≠ some bs := fun e => (h.vb bs e).2.1 rfl
  have xlt : x.rb < W.heap.size := World.block_lt_of_cell? _ _ (hr1 0 (by decide))
  have xv : v.ownBlock ≠ some x.rb := fun e => by have := hv0 _ e; omega
  have c9 : ∀ b o, b < W.heap.size → v.ownBlock ≠ some b → W9.cell? ⟨b, o, none⟩ = W.cell? ⟨b, o, none⟩ := fun b o hb hn => World.cell?_of_block (hg b hb hn)
  have f9 : ∀ b o, b < W.heap.size → v.ownBlock ≠ some b → W9.frozen? ⟨b, o, none⟩ = W.frozen? ⟨b, o, none⟩ := fun b o hb hn => World.frozen?_of_block (hg b hb hn)
  have T1 : Turns (fun b _ => v.ownBlock = some b ∨ b = k) W (W9.setCell ⟨k, 1, none⟩ v') := by
    refine Turns.setCell (h := ?_) _ (Or.inr rfl)
    exact ⟨hos, htp, hou, hz, fun b hb ho => hg b hb (fun e => ho 0 (Or.inl e)), fun b o hb ho => c9 b o hb (fun e => ho (Or.inl e)), fun b o hb ho => f9 b o hb (fun e => ho (Or.inl e))⟩
  have nv : ∀ b, v'.ownBlock = some b → b ≠ k ∧ b ≠ bs ∧ ¬ rp.fp R b ∧ b ≠ x.rb := fun b e => by
    rcases hat b e with e1 | e1
    · obtain ⟨a1, a2, a3⟩ := h.vb b e1
      exact ⟨a1, a2, a3, fun e2 => by have := hv0 b e1; omega⟩
    · exact ⟨by omega, by omega, fun e2 => by have := h.mem.fp_lt e2; omega, by omega⟩
  have get : ∀ {t : Nat} {y : ThrV}, (T ++ [x])[t]? = some y → (T[t]? = some y ∧ t < T.length) ∨ (y = x ∧ t = T.length) := fun {t y} hy => by
    rcases Nat.lt_or_ge t T.length with h' | h'
    · rw [List.getElem?_append_left h'] at hy; exact Or.inl ⟨hy, h'⟩
    · rw [List.getElem?_append_right h'] at hy
      cases hd : t - T.length with
      | zero => rw [hd] at hy; simp at hy; exact Or.inr ⟨hy.symm, by omega⟩
      | succ n => rw [hd] at hy; simp at hy
  refine ⟨h.mem.turns T1 (fun b o e1 e2 => ?_), h.fp, h.gk, h.gs, h.ks, ?_, World.cell?_setCell_same _ _ _ ((c9 k 1 lk nk).trans h.k1), ?_, ?_, fun o => by rw [World.frozen?_setCell, f9 k o lk nk]; exact h.fk o, ?_, ?_, ?_, fun b e => ⟨(nv b e).1, (nv b e).2.1, (nv b e).2.2.1⟩, h.h0, fun t y hy => ?_, fun t y hy => ?_, fun t y hy => ?_, fun t u y z hy hz' hne => ?_⟩
  · rcases e2 with e2 | e2
    · exact (h.vb b e2).2.2 e1
    · exact (h.fp b e1).2.1 e2
  · exact cell_ne ((c9 k 0 lk nk).trans h.k0) (Or.inr (by decide))
  · exact cell_ne ((c9 k 2 lk nk).trans h.k2) (Or.inr (by decide))
  · exact cell_ne ((c9 k 3 lk nk).trans h.k3) (Or.inr (by decide))
  · exact cell_ne ((c9 bs 2 ls ns).trans h.s2) (Or.inl h.ks.symm)
  · refine h.bw.trans (T1.below h.bw.size (fun b o hb e => ?_))
    rcases e with e | e
    · have := (h.own.lt b e).1; omega
    · have := h.gk; omega
  · rw [List.length_append]
    exact ownsRow_block hown (fun b e => Below.heap_setCell _ _ _ _ (nv b e).1)
  · rcases get hy with ⟨h', -⟩ | ⟨rfl, rfl⟩
    · exact h.code t y h'
    · exact ⟨L, hL, h1, h2, h3⟩
  · rcases get hy with ⟨h', -⟩ | ⟨rfl, rfl⟩
    · obtain ⟨a1, a2, a3, a4, a5⟩ := h.rne t y h'
      have l := h.rlt h'
      exact ⟨fun r hr => cell_ne ((c9 _ r l a5).trans ((h.regs t y h').1 r hr)) (Or.inl a2), fun o => by rw [World.frozen?_setCell, f9 _ o l a5]; exact (h.regs t y h').2 o⟩
    · exact ⟨fun r hr => cell_ne ((c9 _ r xlt xv).trans (hr1 r hr)) (Or.inl (by omega)), fun o => by rw [World.frozen?_setCell, f9 _ o xlt xv]; exact hr2 o⟩
  · rcases get hy with ⟨h', -⟩ | ⟨rfl, rfl⟩
    · obtain ⟨a1, a2, a3, a4, a5⟩ := h.rne t y h'
      refine ⟨a1, a2, a3, a4, fun e => ?_⟩
      rcases hat _ e with e1 | e1
      · exact a5 e1
      · have := h.rlt h'; omega
    · exact ⟨by omega, by omega, by omega, fun e => by have := hf0 _ e; omega, fun e => (nv _ e).2.2.2 rfl⟩
  · rcases get hy with ⟨h', -⟩ | ⟨rfl, e1⟩
    · rcases get hz' with ⟨h'', -⟩ | ⟨rfl, e2⟩
      · exact h.dist t u y z h' h'' hne
      · have := hrr0 t y h'; omega
    · rcases get hz' with ⟨h'', -⟩ | ⟨rfl, e2⟩
      · have := hrr0 u z h''; omega
      · omega

theorem Nm2.done (h : Nm2 w0 w bs k s cs sr rp (s.mach cs.length).mem T v W) (hn : T.length = cs.length) (h1 : 1 ≤ cs.length) (h6 : cs.length ≤ 6) : ∃ p : RkPl, p.k = k ∧ p.B = w0.heap.size ∧ RkAt cs p (s.mach cs.length) W ∧ ∀ b, p.fp cs.length (s.mach cs.length).mem b → w.heap.size ≤ b := by
  obtain ⟨ad, cap, hv, hc, hm, hcell⟩ := ownsRow_shape h.own
  have get : ∀ t, t < cs.length → ∃ x, T[t]? = some x := fun t ht => ⟨_, List.getElem?_eq_getElem (by omega)⟩
  obtain ⟨x0, hx0⟩ := get 0 h1
  obtain ⟨g, hg, -⟩ := hcell (0 * 3) _ (thrCells_at hx0).1
  subst hg
  have cl : ∀ j u, (thrCells T)[j]? = some u → W.cell? ⟨g, j, none⟩ = some u := fun j u hj => by
    obtain ⟨g', e1, e2⟩ := hcell j u hj
    cases e1; exact e2
  have gb : v.ownBlock = some g := by rw [hv]; rfl
  have gl := (h.own.lt g gb).2
  have gd : ∀ t x, T[t]? = some x → T.getD t default = x := fun t x hx => by rw [List.getD_eq_getElem?_getD, hx]; rfl
  have frz : ∀ o, W.frozen? ⟨g, o, none⟩ = false := fun o => by
    rcases h.own.2 with ⟨e, -⟩ | ⟨g', cap', cur, e, -, hh, -⟩
    · rw [hv] at e; cases e
    · rw [hv] at e; cases e
      simp [World.frozen?, hh]
  obtain ⟨v1, v2, v3⟩ := h.vb g gb
  refine ⟨⟨w0.heap.size, rp, k, g, cap, fun t => (T.getD t default).ad, fun t => (T.getD t default).cap, fun t => (T.getD t default).rb, fun _ => 8, .slice none 0 0⟩, rfl, rfl, ?_⟩
  have rx : ∀ t, t < cs.length → ∃ x, T[t]? = some x ∧ (T.getD t default).rb = x.rb := fun t ht => by
    obtain ⟨x, hx⟩ := get t ht
    exact ⟨x, hx, by rw [gd t x hx]⟩
  have cx : ∀ (t : Nat) L, cs[t]? = some L → ∃ x, T[t]? = some x ∧ T.getD t default = x ∧ x.n = L.length ∧ L.length ≤ x.cap ∧ insAt x.ad L w0 := fun t L hL => by
    obtain ⟨x, hx⟩ := get t (List.getElem?_eq_some_iff.1 hL).1
    obtain ⟨L', e1, e2, e3, e4⟩ := h.code t x hx
    rw [hL] at e1; cases e1
    exact ⟨x, hx, gd t x hx, e2, e3, e4⟩
  have hge : ∀ b, (⟨w0.heap.size, rp, k, g, cap, fun t => (T.getD t default).ad, fun t => (T.getD t default).cap, fun t => (T.getD t default).rb, fun _ => 8, .slice none 0 0⟩ : RkPl).fp cs.length (s.mach cs.length).mem b → w.heap.size ≤ b := fun b hb => by
    rcases hb with e | e | ⟨t, ht, e⟩ | e | e
    · rw [e]; exact h.gk
    · rw [e]; exact (h.own.lt g gb).1
    · obtain ⟨x, hx, e2⟩ := rx t ht
      have e3 : b = (T.getD t default).rb := e
      rw [e3, e2]; exact (h.rne t x hx).1
    · cases e
    · exact (h.fp b e).1
  refine ⟨?_, hge⟩
  exact {
    rc := ⟨w0, fun t L hL => by obtain ⟨x, -, e, -, -, e4⟩ := cx t L hL; show insAt (T.getD t default).ad L w0; rw [e]; exact e4, rfl, below_step h.h0 h.bw⟩
    mem := h.mem
    thr := rfl
    few := h6
    tcap := by show cs.length ≤ cap; omega
    mM := h.k0
    mT := by rw [h.k1, hv, hn]
    mMarks := h.k2
    mFaults := h.k3
    tCode := fun t L hL => by
      obtain ⟨x, hx, e, e2, -⟩ := cx t L hL
      show W.cell? ⟨g, t * 3, none⟩ = some (.slice (T.getD t default).ad L.length (T.getD t default).cap)
      rw [e, ← e2]
      exact cl _ _ (thrCells_at hx).1
    ccap := fun t L hL => by obtain ⟨x, -, e, -, e3, -⟩ := cx t L hL; show L.length ≤ (T.getD t default).cap; rw [e]; exact e3
    tRegs := fun t ht => by
      obtain ⟨x, hx⟩ := get t ht
      show W.cell? ⟨g, t * 3 + 1, none⟩ = some (.slice (some ⟨(T.getD t default).rb, 0, none⟩) 8 8)
      rw [gd t x hx]
      exact cl _ _ (thrCells_at hx).2.1
    tAt := fun t ht => by
      obtain ⟨x, hx⟩ := get t ht
      exact cl _ _ (thrCells_at hx).2.2
    rcap := fun _ _ => Nat.le_refl _
    regs := fun t r ht hr => by
      obtain ⟨x, hx, e⟩ := rx t ht
      show W.cell? ⟨(T.getD t default).rb, r, none⟩ = some (.int .i64 (rowAt s.regs t r))
      rw [e]
      exact (h.regs t x hx).1 r hr
    own := World.ownsRow_nil _ _ _ _
    fk := h.fk
    ft := frz
    fr := fun t o ht => by obtain ⟨x, hx, e⟩ := rx t ht; show W.frozen? ⟨(T.getD t default).rb, o, none⟩ = false; rw [e]; exact (h.regs t x hx).2 o
    lt' := gl
    d1 := fun e => v1 e.symm
    d2 := fun t ht => by
      obtain ⟨x, hx, e⟩ := rx t ht
      obtain ⟨a1, a2, a3, a4, a5⟩ := h.rne t x hx
      show (T.getD t default).rb ≠ k ∧ (T.getD t default).rb ≠ g
      rw [e]
      exact ⟨a2, fun e2 => a5 (by rw [gb, e2])⟩
    d3 := fun t u ht hu hne => by
      obtain ⟨x, hx, e⟩ := rx t ht
      obtain ⟨y, hy, e2⟩ := rx u hu
      show (T.getD t default).rb ≠ (T.getD u default).rb
      rw [e, e2]
      exact h.dist t u x y hx hy hne
    d4 := fun b e => by cases e
    d5 := fun b hb => ⟨(h.fp b hb).2.1, fun e => v3 (by have e' : b = g := e; rw [← e']; exact hb), fun t ht => by
      obtain ⟨x, hx, e⟩ := rx t ht
      show b ≠ (T.getD t default).rb
      rw [e]
      exact fun e2 => (h.rne t x hx).2.2.2.1 (by rw [← e2]; exact hb), fun e => by cases e⟩
    ge := fun b hb => Nat.le_trans h.h0.size (hge b hb) }
end
end Go.Proofs.YtdpmnlbnlnmjbaaGreatDoor
