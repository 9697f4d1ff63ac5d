import Derived.Test.YtdpmnlbnlnmjbaaGreatDoorJ30
import Derived.Test.YtdpmnlbnlnmjbaaGreatDoorJ17
import Derived.Test.YtdpmnlbnlnmjbaaGreatDoorJ12
import Derived.Test.YtdpmnlbnlnmjbaaGreatDoorJ27

/- CodeD -/
namespace Go.Proofs.YtdpmnlbnlnmjbaaGreatDoor
open Go.RowKit Go.Extern.Stop Go.Stop Go.Extern
set_option maxRecDepth 20000 in
theorem labelAt_any (ad : Option Addr) (cap : Nat) (l : List Ins) (to : ByteArray) (w : World) (hlen : l.length ≤ 1000000) (hl : insAt ad l w) :
    Calls Tryz.prog 62 #[.slice ad l.length cap, .string to] w fun e w' => e = .returned (.int .i64 (labelAt l to)) ∧ w' = w := by
  have HL := hide hl
  clear hl
  go_enter Tryz.func62, Tryz.ntmps62
  go_wp2_with fail
  go_loopw [5] (fun i wr => wr = w ∧ ∃ j : Nat, j ≤ l.length ∧ i = .int .i64 j ∧ Hid (∀ k y, k < j → l[k]? = some y → setsLabel y to = false)) (fun i _ => l.length - (intOf i).toNat)
  case atStart => exact ⟨rfl, 0, Nat.zero_le _, rfl, fun k y h => absurd h (Nat.not_lt_zero _)⟩
  case round =>
    obtain ⟨rfl, j, hj, rfl, HJ⟩ := hrel
    by_cases hlt : j < l.length
    · obtain ⟨x, hx⟩ : ∃ x, l[j]? = some x := ⟨_, List.getElem?_eq_getElem hlt⟩
      obtain ⟨b, off, rfl, a0, -, -, -, a4⟩ := HL.out j x hx
      have ji : (j : Int) < l.length := by omega
      have HY : Hid (setsLabel x to = false → ∀ k y, k < j + 1 → l[k]? = some y → setsLabel y to = false) := fun h k y hk hy => by
        by_cases e : k = j
        · subst e; rw [hx] at hy; cases hy; exact h
        · exact HJ.out k y (by omega) hy
      have HX : Hid (setsLabel x to = true → labelAt l to = j) := fun h => labelAt_some hx h HJ.out
      clear HJ hx
      cases k1 : (x.op.toList == [108, 97, 98, 101, 108])
      · have HZ := hide (HY.out (by unfold setsLabel; rw [k1]; rfl))
        clear HX HY
        go_wp2
        go_roundw
        case rel => exact ⟨trivial, j + 1, by omega, by go_num, HZ⟩
        case measure => simp [intOf]; omega
      · cases k2 : (x.to.toList == to.toList)
        · have HZ := hide (HY.out (by unfold setsLabel; rw [k1, k2]; rfl))
          clear HX HY
          go_wp2
          go_roundw
          case rel => exact ⟨trivial, j + 1, by omega, by go_num, HZ⟩
          case measure => simp [intOf]; omega
        · have HZ := hide (HX.out (by unfold setsLabel; rw [k1, k2]; rfl))
          clear HX HY
          go_wp2
          go_ret
          exact ⟨by rw [HZ.out]; rfl, rfl⟩
    · have HZ : Hid (labelAt l to = -1) := labelAt_none (fun k y hy => HJ.out k y (by have := (List.getElem?_eq_some_iff.1 hy).1; omega) hy)
      obtain rfl : j = l.length := by omega
      clear HJ
      go_wp2
      go_ret
      exact ⟨by rw [HZ.out]; rfl, rfl⟩

end Go.Proofs.YtdpmnlbnlnmjbaaGreatDoor

/- RkA -/
namespace Go.Proofs.YtdpmnlbnlnmjbaaGreatDoor
open Go.RowKit

def rmarkCell (x : Nat × Int) : List Value := [.int .i64 x.1, .int .i64 x.2]
def rmarkCells (l : List (Nat × Int)) : List Value := l.flatMap rmarkCell
theorem rmarkCells_append (l : List (Nat × Int)) (x : Nat × Int) : rmarkCells (l ++ [x]) = rmarkCells l ++ rmarkCell x := by simp [rmarkCells]
theorem rmarkCells_at {l : List (Nat × Int)} {i : Nat} {x : Nat × Int} (h : l[i]? = some x) : (rmarkCells l)[i * 2]? = some (.int .i64 x.1) ∧ (rmarkCells l)[i * 2 + 1]? = some (.int .i64 x.2) := by
  induction l generalizing i with
  | nil => simp at h
  | cons y l ih =>
    have e : rmarkCells (y :: l) = .int .i64 y.1 :: .int .i64 y.2 :: rmarkCells l := rfl
    rw [e]
    cases i with
    | zero => cases h; exact ⟨rfl, rfl⟩
    | succ i =>
      have := ih (i := i) (by simpa using h)
      rw [show (i + 1) * 2 = i * 2 + 1 + 1 by omega]
      simpa using this

structure RcB (cs : List (List Ins)) (ad : Nat → Option Addr) (B : Nat) (w : World) : Prop where
  ex : ∃ W, (∀ (t : Nat) L, cs[t]? = some L → insAt (ad t) L W) ∧ W.heap.size = B ∧ Below B W w
theorem RcB.code {cs : List (List Ins)} {ad : Nat → Option Addr} {B : Nat} {w : World} (h : RcB cs ad B w) {t : Nat} {L : List Ins} (ht : cs[t]? = some L) : insAt (ad t) L w := by
  obtain ⟨W, h1, rfl, h3⟩ := h.ex
  exact insAt_below (h1 t L ht) h3
theorem RcB.turns {S : Nat → Nat → Prop} {cs : List (List Ins)} {ad : Nat → Option Addr} {B : Nat} {w w' : World} (h : RcB cs ad B w) (t : Turns S w w') (hS : ∀ k o, S k o → B ≤ k) : RcB cs ad B w' := by
  obtain ⟨W, h1, rfl, h3⟩ := h.ex
  exact ⟨W, h1, rfl, h3.trans (t.below h3.size (fun k o hk hs => by have := hS k o hs; omega))⟩
theorem RcB.size {cs : List (List Ins)} {ad : Nat → Option Addr} {B : Nat} {w : World} (h : RcB cs ad B w) : B ≤ w.heap.size := by
  obtain ⟨W, h1, rfl, h3⟩ := h.ex
  exact h3.size

structure RkPl where
  B : Nat
  rp : RmPl
  k : Nat
  tb : Nat
  tcap : Nat
  ad : Nat → Option Addr
  cc : Nat → Nat
  rb : Nat → Nat
  rcap : Nat → Nat
  mv : Value
def RkPl.to (p : RkPl) (r : RmPl) (v : Value) : RkPl := { p with rp := r, mv := v }
def RkPl.fp (p : RkPl) (n : Nat) (s : Rm) (k : Nat) : Prop := k = p.k ∨ k = p.tb ∨ (∃ t, t < n ∧ k = p.rb t) ∨ p.mv.ownBlock = some k ∨ p.rp.fp s k

structure RkAt (cs : List (List Ins)) (p : RkPl) (m : Mk) (w : World) : Prop where
  rc : RcB cs p.ad p.B w
  mem : RmAt p.rp m.mem w
  thr : m.mem.threads = cs.length
  few : cs.length ≤ 6
  tcap : cs.length ≤ p.tcap
  mM : w.cell? ⟨p.k, 0, none⟩ = some (.pointer (some ⟨p.rp.mb, 0, none⟩))
  mT : w.cell? ⟨p.k, 1, none⟩ = some (.slice (some ⟨p.tb, 0, none⟩) cs.length p.tcap)
  mMarks : w.cell? ⟨p.k, 2, none⟩ = some p.mv
  mFaults : w.cell? ⟨p.k, 3, none⟩ = some (.int .i64 m.faults)
  tCode : ∀ (t : Nat) L, cs[t]? = some L → w.cell? ⟨p.tb, t * 3, none⟩ = some (.slice (p.ad t) L.length (p.cc t))
  ccap : ∀ (t : Nat) L, cs[t]? = some L → L.length ≤ p.cc t
  tRegs : ∀ t, t < cs.length → w.cell? ⟨p.tb, t * 3 + 1, none⟩ = some (.slice (some ⟨p.rb t, 0, none⟩) 8 (p.rcap t))
  tAt : ∀ t, t < cs.length → w.cell? ⟨p.tb, t * 3 + 2, none⟩ = some (.int .i64 (m.pc t))
  rcap : ∀ t, t < cs.length → 8 ≤ p.rcap t
  regs : ∀ t r, t < cs.length → r < 8 → w.cell? ⟨p.rb t, r, none⟩ = some (.int .i64 (m.regs t r))
  own : w.ownsRow 0 126 2 p.mv m.marks.length (rmarkCells m.marks)
  fk : ∀ o, w.frozen? ⟨p.k, o, none⟩ = false
  ft : ∀ o, w.frozen? ⟨p.tb, o, none⟩ = false
  fr : ∀ t o, t < cs.length → w.frozen? ⟨p.rb t, o, none⟩ = false
  lt' : p.tb < w.heap.size
  d1 : p.k ≠ p.tb
  d2 : ∀ t, t < cs.length → p.rb t ≠ p.k ∧ p.rb t ≠ p.tb
  d3 : ∀ t u, t < cs.length → u < cs.length → t ≠ u → p.rb t ≠ p.rb u
  d4 : ∀ k, p.mv.ownBlock = some k → k ≠ p.k ∧ k ≠ p.tb ∧ ∀ t, t < cs.length → k ≠ p.rb t
  d5 : ∀ k, p.rp.fp m.mem k → k ≠ p.k ∧ k ≠ p.tb ∧ (∀ t, t < cs.length → k ≠ p.rb t) ∧ p.mv.ownBlock ≠ some k
  ge : ∀ k, p.fp cs.length m.mem k → p.B ≤ k

theorem RkAt.lk {cs : List (List Ins)} {p : RkPl} {m : Mk} {w : World} (h : RkAt cs p m w) : p.k < w.heap.size := World.block_lt_of_cell? _ _ h.mM
theorem RkAt.lr {cs : List (List Ins)} {p : RkPl} {m : Mk} {w : World} (h : RkAt cs p m w) {t : Nat} (ht : t < cs.length) : p.rb t < w.heap.size := World.block_lt_of_cell? _ _ (h.regs t 0 ht (by decide))
theorem RkAt.fp_lt {cs : List (List Ins)} {p : RkPl} {m : Mk} {w : World} (h : RkAt cs p m w) {k : Nat} (hk : p.fp cs.length m.mem k) : k < w.heap.size := by
  rcases hk with rfl | rfl | ⟨t, ht, rfl⟩ | hk | hk
  · exact h.lk
  · exact h.lt'
  · exact h.lr ht
  · exact (h.own.lt k hk).2
  · exact h.mem.fp_lt hk

theorem RkAt.turns {S : Nat → Nat → Prop} {cs : List (List Ins)} {p : RkPl} {m : Mk} {w w' : World} (h : RkAt cs p m w) (t : Turns S w w') (hS : ∀ k o, S k o → ¬ p.fp cs.length m.mem k) (hB : ∀ k o, S k o → p.B ≤ k) : RkAt cs p m w' where
  rc := h.rc.turns t hB
  mem := h.mem.turns t (fun k o hk hs => hS k o hs (.inr (.inr (.inr (.inr hk)))))
  thr := h.thr
  few := h.few
  tcap := h.tcap
  mM := t.keep h.mM (fun hs => hS _ _ hs (.inl rfl))
  mT := t.keep h.mT (fun hs => hS _ _ hs (.inl rfl))
  mMarks := t.keep h.mMarks (fun hs => hS _ _ hs (.inl rfl))
  mFaults := t.keep h.mFaults (fun hs => hS _ _ hs (.inl rfl))
  tCode i L hi := t.keep (h.tCode i L hi) (fun hs => hS _ _ hs (.inr (.inl rfl)))
  ccap := h.ccap
  tRegs i hi := t.keep (h.tRegs i hi) (fun hs => hS _ _ hs (.inr (.inl rfl)))
  tAt i hi := t.keep (h.tAt i hi) (fun hs => hS _ _ hs (.inr (.inl rfl)))
  rcap := h.rcap
  regs i r hi hr := t.keep (h.regs i r hi hr) (fun hs => hS _ _ hs (.inr (.inr (.inl ⟨i, hi, rfl⟩))))
  own := ownsRow_block h.own fun k hk => t.block k (h.own.lt k hk).2 (fun o hs => hS _ _ hs (.inr (.inr (.inr (.inl hk)))))
  fk o := by rw [t.frozen _ _ h.lk (fun hs => hS _ _ hs (.inl rfl))]; exact h.fk o
  ft o := by rw [t.frozen _ _ h.lt' (fun hs => hS _ _ hs (.inr (.inl rfl)))]; exact h.ft o
  fr i o hi := by rw [t.frozen _ _ (h.lr hi) (fun hs => hS _ _ hs (.inr (.inr (.inl ⟨i, hi, rfl⟩))))]; exact h.fr i o hi
  lt' := Nat.lt_of_lt_of_le h.lt' t.size
  d1 := h.d1
  d2 := h.d2
  d3 := h.d3
  d4 := h.d4
  d5 := h.d5
  ge := h.ge
theorem RkAt.below {cs : List (List Ins)} {p : RkPl} {m : Mk} {w w' : World} (h : RkAt cs p m w) (hb : Below w.heap.size w w') : RkAt cs p m w' :=
  h.turns (Turns.of_below (S := fun _ _ => False) hb) (fun _ _ h => h.elim) (fun _ _ h => h.elim)
theorem RkAt.alloc {cs : List (List Ins)} {p : RkPl} {m : Mk} {w : World} (h : RkAt cs p m w) (o : Obj) : RkAt cs p m (w.alloc o) := h.below ((Below.refl _ _).alloc (Nat.le_refl _) _)
theorem RkAt.drewN {cs : List (List Ins)} {p : RkPl} {m : Mk} {w : World} (h : RkAt cs p m w) (n : Nat) : RkAt cs p m (w.drewN n) := h.below (Below.drewN' n)

structure RkStep (cs : List (List Ins)) (p : RkPl) (s : Rm) (w : World) (r : RmPl) (v : Value) (m' : Mk) (w' : World) : Prop where
  at' : RkAt cs (p.to r v) m' w'
  turns : Turns (fun k _ => p.fp cs.length s k) w w'
  fp : ∀ k, (p.to r v).fp cs.length m'.mem k → p.fp cs.length s k ∨ w.heap.size ≤ k
  mb : r.mb = p.rp.mb

theorem RkStep.refl {cs : List (List Ins)} {p : RkPl} {m : Mk} {w : World} (h : RkAt cs p m w) : RkStep cs p m.mem w p.rp p.mv m w := ⟨h, Turns.refl _ _, fun _ h => Or.inl h, rfl⟩
theorem RkStep.of_below' {cs : List (List Ins)} {p : RkPl} {m : Mk} {w w' : World} (h : RkAt cs p m w) (k : Below w.heap.size w w') : RkStep cs p m.mem w p.rp p.mv m w' := ⟨h.below k, Turns.of_below k, fun _ h => Or.inl h, rfl⟩
theorem RkStep.below {cs : List (List Ins)} {p : RkPl} {s : Rm} {r : RmPl} {v : Value} {m : Mk} {w w' w2 : World} (h : RkStep cs p s w r v m w') (k : Below w'.heap.size w' w2) : RkStep cs p s w r v m w2 := ⟨h.at'.below k, h.turns.trans (Turns.of_below k), h.fp, h.mb⟩
theorem RkStep.of_below {cs : List (List Ins)} {p : RkPl} {s : Rm} {r : RmPl} {v : Value} {m : Mk} {w0 w w' : World} (k : Below w0.heap.size w0 w) (h : RkStep cs p s w r v m w') : RkStep cs p s w0 r v m w' :=
  ⟨h.at', (Turns.of_below k).trans h.turns, fun i hi => (h.fp i hi).imp id (fun e => Nat.le_trans k.size e), h.mb⟩
theorem Turns.chain {S S' : Nat → Nat → Prop} {a b c : World} (h : Turns S a b) (k : Turns S' b c) (hs : ∀ i o, S' i o → S i o ∨ a.heap.size ≤ i) : Turns S a c :=
  ⟨k.os.trans h.os, k.tape.trans h.tape, k.output.trans h.output, Nat.le_trans h.size k.size,
    fun i hi ho => (k.block i (Nat.lt_of_lt_of_le hi h.size) (fun o e => by
      rcases hs i o e with e | e
      · exact ho o e
      · omega)).trans (h.block i hi ho),
    fun i o hi ho => (k.cell i o (Nat.lt_of_lt_of_le hi h.size) (fun e => by
      rcases hs i o e with e | e
      · exact ho e
      · omega)).trans (h.cell i o hi ho),
    fun i o hi ho => (k.frozen i o (Nat.lt_of_lt_of_le hi h.size) (fun e => by
      rcases hs i o e with e | e
      · exact ho e
      · omega)).trans (h.frozen i o hi ho)⟩
theorem RkStep.trans {cs : List (List Ins)} {p : RkPl} {s : Rm} {r r2 : RmPl} {v v2 : Value} {m m2 : Mk} {w w' w2 : World} (h : RkStep cs p s w r v m w') (k : RkStep cs (p.to r v) m.mem w' r2 v2 m2 w2) : RkStep cs p s w r2 v2 m2 w2 where
  at' := k.at'
  turns := h.turns.chain k.turns (fun i _ e => h.fp i e)
  fp i hi := by
    rcases k.fp i hi with e | e
    · exact h.fp i e
    · exact Or.inr (Nat.le_trans h.turns.size e)
  mb := k.mb.trans h.mb

theorem RkStep.setNew {cs : List (List Ins)} {p : RkPl} {s : Rm} {r : RmPl} {v : Value} {m : Mk} {w w' : World} (h : RkStep cs p s w r v m w') {b o : Nat} (u : Value) (hb : w.heap.size ≤ b) (hn : ¬ (p.to r v).fp cs.length m.mem b) (hB : p.B ≤ b) : RkStep cs p s w r v m (w'.setCell ⟨b, o, none⟩ u) :=
  ⟨h.at'.turns (S := fun k _ => k = b) ((Turns.refl _ _).setCell _ rfl) (fun k _ e => by rw [e]; exact hn) (fun k _ e => by rw [e]; exact hB), h.turns.setNew _ hb, h.fp, h.mb⟩

theorem RkAt.apart {cs : List (List Ins)} {p : RkPl} {m : Mk} {w : World} (h : RkAt cs p m w) {b o : Nat} {v : Value} (hb : b = p.k ∨ b = p.tb ∨ ∃ t, t < cs.length ∧ b = p.rb t) :
    RcB cs p.ad p.B (w.setCell ⟨b, o, none⟩ v) ∧ RmAt p.rp m.mem (w.setCell ⟨b, o, none⟩ v) ∧ (w.setCell ⟨b, o, none⟩ v).ownsRow 0 126 2 p.mv m.marks.length (rmarkCells m.marks) ∧ Turns (fun k _ => p.fp cs.length m.mem k) w (w.setCell ⟨b, o, none⟩ v) := by
  have hfp : p.fp cs.length m.mem b := by
    rcases hb with e | e | e
    · exact .inl e
    · exact .inr (.inl e)
    · exact .inr (.inr (.inl e))
  have T : Turns (fun k _ => k = b) w (w.setCell ⟨b, o, none⟩ v) := (Turns.refl _ _).setCell _ rfl
  refine ⟨h.rc.turns T (fun k _ e => by rw [e]; exact h.ge b hfp), h.mem.turns T (fun k _ hk e => ?_), ownsRow_block h.own fun k hk => Below.heap_setCell _ _ _ _ (fun e => ?_), (Turns.refl _ _).setCell _ hfp⟩
  · have := h.d5 k hk
    rcases hb with e' | e' | ⟨t, ht, e'⟩
    · exact this.1 (e.trans e')
    · exact this.2.1 (e.trans e')
    · exact this.2.2.1 t ht (e.trans e')
  · have := h.d4 k hk
    rcases hb with e' | e' | ⟨t, ht, e'⟩
    · exact this.1 (e.trans e')
    · exact this.2.1 (e.trans e')
    · exact this.2.2 t ht (e.trans e')

theorem RkAt.setReg {cs : List (List Ins)} {p : RkPl} {m : Mk} {w : World} (h : RkAt cs p m w) {t r : Nat} (ht : t < cs.length) (hr : r < 8) (v : Int) : RkStep cs p m.mem w p.rp p.mv (m.setReg t r v) (w.setCell ⟨p.rb t, r, none⟩ (.int .i64 v)) := by
  obtain ⟨h1, h2, h3, h4⟩ := h.apart (b := p.rb t) (o := r) (v := .int .i64 v) (.inr (.inr ⟨t, ht, rfl⟩))
  have dk := (h.d2 t ht).1
  have dt := (h.d2 t ht).2
  refine ⟨⟨h1, h2, h.thr, h.few, h.tcap, cell_ne h.mM (Or.inl dk.symm), cell_ne h.mT (Or.inl dk.symm), cell_ne h.mMarks (Or.inl dk.symm), cell_ne h.mFaults (Or.inl dk.symm),
    fun i L hi => cell_ne (h.tCode i L hi) (Or.inl dt.symm), h.ccap, fun i hi => cell_ne (h.tRegs i hi) (Or.inl dt.symm), fun i hi => cell_ne (h.tAt i hi) (Or.inl dt.symm), h.rcap, fun i k hi hk => ?_, h3,
    fun o => by rw [World.frozen?_setCell]; exact h.fk o, fun o => by rw [World.frozen?_setCell]; exact h.ft o, fun i o hi => by rw [World.frozen?_setCell]; exact h.fr i o hi, by rw [World.size_setCell]; exact h.lt', h.d1, h.d2, h.d3, h.d4, h.d5, h.ge⟩, h4, fun _ h => Or.inl h, rfl⟩
  simp only [Mk.setReg]
  by_cases e : i = t ∧ k = r
  · rw [if_pos e, e.1, e.2]
    exact World.cell?_setCell_same _ _ _ (h.regs t r ht hr)
  · rw [if_neg e]
    refine cell_ne (h.regs i k hi hk) ?_
    by_cases e1 : i = t
    · exact Or.inr (fun e2 => e ⟨e1, e2⟩)
    · exact Or.inl (h.d3 i t hi ht e1)

theorem RkAt.setPc {cs : List (List Ins)} {p : RkPl} {m : Mk} {w : World} (h : RkAt cs p m w) {t : Nat} (ht : t < cs.length) (n : Nat) : RkStep cs p m.mem w p.rp p.mv (m.setPc t n) (w.setCell ⟨p.tb, t * 3 + 2, none⟩ (.int .i64 n)) := by
  obtain ⟨h1, h2, h3, h4⟩ := h.apart (b := p.tb) (o := t * 3 + 2) (v := .int .i64 n) (.inr (.inl rfl))
  have dk := h.d1
  refine ⟨⟨h1, h2, h.thr, h.few, h.tcap, cell_ne h.mM (Or.inl dk), cell_ne h.mT (Or.inl dk), cell_ne h.mMarks (Or.inl dk), cell_ne h.mFaults (Or.inl dk),
    fun i L hi => cell_ne (h.tCode i L hi) (Or.inr (by omega)), h.ccap, fun i hi => cell_ne (h.tRegs i hi) (Or.inr (by omega)), fun i hi => ?_, h.rcap, fun i k hi hk => cell_ne (h.regs i k hi hk) (Or.inl (h.d2 i hi).2), h3,
    fun o => by rw [World.frozen?_setCell]; exact h.fk o, fun o => by rw [World.frozen?_setCell]; exact h.ft o, fun i o hi => by rw [World.frozen?_setCell]; exact h.fr i o hi, by rw [World.size_setCell]; exact h.lt', h.d1, h.d2, h.d3, h.d4, h.d5, h.ge⟩, h4, fun _ h => Or.inl h, rfl⟩
  simp only [Mk.setPc]
  by_cases e : i = t
  · rw [if_pos e, e]
    exact World.cell?_setCell_same _ _ _ (h.tAt t ht)
  · rw [if_neg e]
    exact cell_ne (h.tAt i hi) (Or.inr (by omega))

theorem RkAt.addFault {cs : List (List Ins)} {p : RkPl} {m : Mk} {w : World} (h : RkAt cs p m w) (n : Nat) : RkStep cs p m.mem w p.rp p.mv (m.addFault n) (w.setCell ⟨p.k, 3, none⟩ (.int .i64 ((m.faults + n : Nat) : Int))) := by
  obtain ⟨h1, h2, h3, h4⟩ := h.apart (b := p.k) (o := 3) (v := .int .i64 ((m.faults + n : Nat) : Int)) (.inl rfl)
  have dk := h.d1
  exact ⟨⟨h1, h2, h.thr, h.few, h.tcap, cell_ne h.mM (Or.inr (by decide)), cell_ne h.mT (Or.inr (by decide)), cell_ne h.mMarks (Or.inr (by decide)), World.cell?_setCell_same _ _ _ h.mFaults,
    fun i L hi => cell_ne (h.tCode i L hi) (Or.inl dk.symm), h.ccap, fun i hi => cell_ne (h.tRegs i hi) (Or.inl dk.symm), fun i hi => cell_ne (h.tAt i hi) (Or.inl dk.symm), h.rcap, fun i k hi hk => cell_ne (h.regs i k hi hk) (Or.inl (h.d2 i hi).1), h3,
    fun o => by rw [World.frozen?_setCell]; exact h.fk o, fun o => by rw [World.frozen?_setCell]; exact h.ft o, fun i o hi => by rw [World.frozen?_setCell]; exact h.fr i o hi, by rw [World.size_setCell]; exact h.lt', h.d1, h.d2, h.d3, h.d4, h.d5, h.ge⟩, h4, fun _ h => Or.inl h, rfl⟩

theorem RkAt.ofMem {cs : List (List Ins)} {p : RkPl} {m : Mk} {s : Rm} {r : RmPl} {w w' : World} (h : RkAt cs p m w) (q : RmStep p.rp m.mem w r s w') (hn : s.threads = m.mem.threads) : RkStep cs p m.mem w r p.mv (m.setMem s) w' := by
  have hmb := q.mb
  have hS : ∀ k, p.rp.fp m.mem k → p.fp cs.length m.mem k := fun k hk => .inr (.inr (.inr (.inr hk)))
  have lk := h.lk
  have ltb := h.lt'
  have nk : ∀ o : Nat, ¬ (fun k (_ : Nat) => p.rp.fp m.mem k) p.k o := fun _ e => (h.d5 _ e).1 rfl
  have nt : ∀ o : Nat, ¬ (fun k (_ : Nat) => p.rp.fp m.mem k) p.tb o := fun _ e => (h.d5 _ e).2.1 rfl
  have nr : ∀ t (o : Nat), t < cs.length → ¬ (fun k (_ : Nat) => p.rp.fp m.mem k) (p.rb t) o := fun t _ ht e => (h.d5 _ e).2.2.1 t ht rfl
  have fz1 : ∀ o, w'.frozen? ⟨p.k, o, none⟩ = false := fun o => by rw [q.turns.frozen _ _ lk (nk o)]; exact h.fk o
  have fz2 : ∀ o, w'.frozen? ⟨p.tb, o, none⟩ = false := fun o => by rw [q.turns.frozen _ _ ltb (nt o)]; exact h.ft o
  have fz3 : ∀ t o, t < cs.length → w'.frozen? ⟨p.rb t, o, none⟩ = false := fun t o ht => by rw [q.turns.frozen _ _ (h.lr ht) (nr t o ht)]; exact h.fr t o ht
  refine ⟨⟨h.rc.turns q.turns (fun k _ e => h.ge k (hS k e)), q.at', hn.trans h.thr, h.few, h.tcap, by have e := q.turns.keep h.mM (nk 0); rw [← hmb] at e; exact e, q.turns.keep h.mT (nk 1), q.turns.keep h.mMarks (nk 2), q.turns.keep h.mFaults (nk 3),
    fun i L hi => q.turns.keep (h.tCode i L hi) (nt (i * 3)), h.ccap, fun i hi => q.turns.keep (h.tRegs i hi) (nt (i * 3 + 1)), fun i hi => q.turns.keep (h.tAt i hi) (nt (i * 3 + 2)), h.rcap, fun i k hi hk => q.turns.keep (h.regs i k hi hk) (nr i k hi),
    ownsRow_block h.own fun k hk => q.turns.block k (h.own.lt k hk).2 (fun _ e => (h.d5 k e).2.2.2 hk),
    fz1, fz2, fz3, Nat.lt_of_lt_of_le ltb q.turns.size, h.d1, h.d2, h.d3, h.d4, fun k hk => ?_, fun k hk => ?_⟩,
    q.turns.mono (fun k _ _ e => hS k e), fun k hk => ?_, hmb⟩
  · rcases q.fp k hk with e | e
    · exact h.d5 k e
    · exact ⟨by show k ≠ p.k; omega, by show k ≠ p.tb; omega, fun t ht => by have := h.lr ht; show k ≠ p.rb t; omega, fun e' => by have := (h.own.lt k e').2; omega⟩
  · rcases hk with e | e | e | e | e
    · exact h.ge k (.inl e)
    · exact h.ge k (.inr (.inl e))
    · exact h.ge k (.inr (.inr (.inl e)))
    · exact h.ge k (.inr (.inr (.inr (.inl e))))
    · rcases q.fp k e with e | e
      · exact h.ge k (hS k e)
      · have := h.rc.size; show p.B ≤ k; omega
  · rcases hk with e | e | e | e | e
    · exact Or.inl (.inl e)
    · exact Or.inl (.inr (.inl e))
    · exact Or.inl (.inr (.inr (.inl e)))
    · exact Or.inl (.inr (.inr (.inr (.inl e))))
    · exact (q.fp k e).imp (hS k) id
end Go.Proofs.YtdpmnlbnlnmjbaaGreatDoor

/- RsC -/
namespace Go.Proofs.YtdpmnlbnlnmjbaaGreatDoor
open Go.RowKit Go.Extern.Stop Go.Stop Go.Extern Go.Maps Go.WideMaps Go.Sort

theorem step_copy_cells {P : Program} (w : World) {ops : Array Oper} {o : Oper} {a : Act} {K : Act → World → Prop} {Q : Exit → Act → World → Prop} {E : Prop} (hgd : o.guard = none) (s x : Operand) (t elem : TypeId)
    (ho : o.op = .call { callee := .builtin .copy, args := #[s, x], argTypes := #[t, t] })
    (b off dLen dCap : Nat) (ad : Addr) (sLen sCap : Nat) (cs : List Value) (hs : a.eval s = .slice (some ⟨b, off, none⟩) dLen dCap) (hx : a.eval x = .slice (some ad) sLen sCap)
    (hu : P.underlying t = some (.slice elem)) (hz : (P.info? elem).map (·.size) = some 1) (hn : cs.length = Nat.min sLen dLen)
    (hsrc : ∀ j v, cs[j]? = some v → w.cell? (ad.add j) = some v) (hc : ∀ j, j < cs.length → (w.cell? ⟨b, off + j, none⟩).isSome = true) (hf : ∀ j, j < cs.length → w.frozen? ⟨b, off + j, none⟩ = false) (h1 : ∀ v ∈ cs, v.oneCell' = true)
    (h : K (a.put o.dst (goInt cs.length)) (w.setCells b off cs)) :
    if Region.wanted o (yielded ops a.tmps) = true then Oper.wp P o a w K Q else E := by
  have hw : Region.wanted o (yielded ops a.tmps) = true := by simp [Region.wanted, hgd]
  rw [if_pos hw]
  have hr := run_copy_cells (P := P) w t t o.type elem b off dLen dCap ad sLen sCap cs hu hz hn hsrc hc hf h1
  unfold Oper.wp execOp
  simp only [ho, resolve, invoke, builtin, Sem.run_bind, Sem.run_pure, Result.andThen_ok, List.map_toArray, List.map_cons, List.map_nil, hs, hx, hr]
  exact h
theorem step_copy_none {P : Program} (w : World) {ops : Array Oper} {o : Oper} {a : Act} {K : Act → World → Prop} {Q : Exit → Act → World → Prop} {E : Prop} (hgd : o.guard = none) (s x : Operand) (t elem : TypeId)
    (ho : o.op = .call { callee := .builtin .copy, args := #[s, x], argTypes := #[t, t] })
    (d : Option Addr) (dLen dCap : Nat) (ad : Option Addr) (sCap : Nat) (hs : a.eval s = .slice d dLen dCap) (hx : a.eval x = .slice ad 0 sCap)
    (hu : P.underlying t = some (.slice elem)) (hz : (P.info? elem).map (·.size) = some 1)
    (h : K (a.put o.dst (goInt 0)) w) :
    if Region.wanted o (yielded ops a.tmps) = true then Oper.wp P o a w K Q else E := by
  have hw : Region.wanted o (yielded ops a.tmps) = true := by simp [Region.wanted, hgd]
  rw [if_pos hw]
  have hr := run_copy_none (P := P) w t t o.type elem d ad dLen dCap 0 sCap hu hz (by simp)
  unfold Oper.wp execOp
  simp only [ho, resolve, invoke, builtin, Sem.run_bind, Sem.run_pure, Result.andThen_ok, List.map_toArray, List.map_cons, List.map_nil, hs, hx, hr]
  exact h

theorem RmStep.lay {rp : RmPl} {M : Mk} {i : Nat} {row : List Int} (h4 : row.length ≤ 4) : ∀ (l : List Int) (j : Nat) {w : World}, row.drop j = l → j ≤ row.length → i < (M.rowPart i row j).mem.ar.size → RmAt rp (M.rowPart i row j).mem w →
    RmStep rp (M.rowPart i row j).mem w rp (M.rowPart i row row.length).mem (w.setCells (rp.wb i) j (l.map (Value.int .i64)))
  | [], j, w, hl, hj, _, h => by
    have : j = row.length := by have := congrArg List.length hl; rw [List.length_drop] at this; simp at this; omega
    subst this
    exact RmStep.refl h
  | v :: l, j, w, hl, hj, hi, h => by
    have hjl : j < row.length := by have := congrArg List.length hl; rw [List.length_drop, List.length_cons] at this; omega
    have hv : row[j]? = some v := by have := List.getElem?_drop (xs := row) (i := j) (j := 0); rw [hl] at this; simpa using this.symm
    have k1 := RmStep.setWord h i j hi (by omega) v
    have e : (M.rowPart i row j).mem.setWord i j v = (M.rowPart i row (j + 1)).mem := by rw [← Mk.rowPart_succ M i row j hv]; rfl
    rw [e] at k1
    have k2 := RmStep.lay h4 l (j + 1) (by rw [← List.drop_drop, hl]; rfl) (by omega) (by exact hi) k1.at'
    exact k1.trans k2

structure Nm1 (w : World) (bs k : Nat) (sv mv : Array Value) (mb : Nat) (rp : RmPl) (R : Rm) (W : World) : Prop where
  mem : RmAt rp R W
  emb : rp.mb = mb
  fp : ∀ b, rp.fp R b → w.heap.size ≤ b ∧ b ≠ k ∧ b ≠ bs
  gk : w.heap.size ≤ k
  gs : w.heap.size ≤ bs
  bk : W.heap[k]? = some (.cells mv 62)
  bb : W.heap[bs]? = some (.cells sv 24)
  bw : Below w.heap.size w W
theorem Nm1.lk {w : World} {bs k : Nat} {sv mv : Array Value} {mb : Nat} {rp : RmPl} {R : Rm} {W : World} (h : Nm1 w bs k sv mv mb rp R W) : k < W.heap.size := by
  rcases Nat.lt_or_ge k W.heap.size with h' | h'
  · exact h'
  · have := h.bk; rw [Array.getElem?_eq_none h'] at this; cases this
theorem Nm1.ls {w : World} {bs k : Nat} {sv mv : Array Value} {mb : Nat} {rp : RmPl} {R : Rm} {W : World} (h : Nm1 w bs k sv mv mb rp R W) : bs < W.heap.size := by
  rcases Nat.lt_or_ge bs W.heap.size with h' | h'
  · exact h'
  · have := h.bb; rw [Array.getElem?_eq_none h'] at this; cases this
theorem Nm1.step {w : World} {bs k : Nat} {sv mv : Array Value} {mb : Nat} {rp rp' : RmPl} {R R' : Rm} {W W' : World} (h : Nm1 w bs k sv mv mb rp R W) (q : RmStep rp R W rp' R' W') : Nm1 w bs k sv mv mb rp' R' W' where
  mem := q.at'
  emb := q.mb.trans h.emb
  fp b hb := by
    rcases q.fp b hb with e | e
    · exact h.fp b e
    · have h1 := h.lk
      have h2 := h.ls
      have h3 := h.bw.size
      exact ⟨by omega, by omega, by omega⟩
  gk := h.gk
  gs := h.gs
  bk := (q.turns.block k h.lk (fun _ e => (h.fp _ e).2.1 rfl)).trans h.bk
  bb := (q.turns.block bs h.ls (fun _ e => (h.fp _ e).2.2 rfl)).trans h.bb
  bw := h.bw.trans (q.turns.below h.bw.size (fun i o hi e => by have := (h.fp i e).1; omega))
theorem Nm1.below {w : World} {bs k : Nat} {sv mv : Array Value} {mb : Nat} {rp : RmPl} {R : Rm} {W W' : World} (h : Nm1 w bs k sv mv mb rp R W) (hb : Below W.heap.size W W') : Nm1 w bs k sv mv mb rp R W' where
  mem := h.mem.below hb
  emb := h.emb
  fp := h.fp
  gk := h.gk
  gs := h.gs
  bk := (hb.block _ h.lk).trans h.bk
  bb := (hb.block _ h.ls).trans h.bb
  bw := h.bw.trans (hb.mono h.bw.size)
end Go.Proofs.YtdpmnlbnlnmjbaaGreatDoor
