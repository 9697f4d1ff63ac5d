import Derived.Test.YtdpmnlbnlnmjbaaGreatDoorL05
import Derived.Deep.OwnRows
import Derived.Maps.AppendAt
import Derived.Deep.RegionHeld3
import Derived.Deep.AppendLies
import Derived.Deep.RegionLaw

/- RefE -/
namespace Go.Proofs.YtdpmnlbnlnmjbaaGreatDoor
open Go.RowKit Go.Extern.Stop Go.Stop Go.Extern

structure NewAt (B mb cb tb cells threads i : Nat) (wb : Nat → Nat) (w : World) : Prop where
  mCells : w.cell? ⟨mb, 0, none⟩ = some (.slice (some ⟨cb, 0, none⟩) cells cells)
  mWaits : w.cell? ⟨mb, 1, none⟩ = some (.slice (some ⟨tb, 0, none⟩) threads threads)
  done : ∀ c, c < i → w.cell? ⟨cb, c * 3, none⟩ = some (.slice (some ⟨wb c, 0, none⟩) 4 4)
  todo : ∀ c, i ≤ c → c < cells → w.cell? ⟨cb, c * 3, none⟩ = some (.slice none 0 0)
  times : ∀ c, c < cells → w.cell? ⟨cb, c * 3 + 1, none⟩ = some (.int .i64 0)
  here : ∀ c, c < cells → w.cell? ⟨cb, c * 3 + 2, none⟩ = some (.bool false)
  words : ∀ c k, c < i → k < 4 → w.cell? ⟨wb c, k, none⟩ = some (.int .i64 0)
  waits : ∀ t, t < threads → w.cell? ⟨tb, t, none⟩ = some (.slice none 0 0)
  fm : ∀ o, w.frozen? ⟨mb, o, none⟩ = false
  fc : ∀ o, w.frozen? ⟨cb, o, none⟩ = false
  ft : ∀ o, w.frozen? ⟨tb, o, none⟩ = false
  fw : ∀ c o, c < i → w.frozen? ⟨wb c, o, none⟩ = false
  lc : cb < w.heap.size
  lt : tb < w.heap.size
  d1 : mb ≠ cb
  d2 : mb ≠ tb
  d3 : cb ≠ tb
  dw : ∀ c, c < i → wb c ≠ mb ∧ wb c ≠ cb ∧ wb c ≠ tb ∧ B ≤ wb c
  dwi : ∀ c d, c < i → d < i → c ≠ d → wb c ≠ wb d
  base : B ≤ mb ∧ B ≤ cb ∧ B ≤ tb

theorem NewAt.lm {B mb cb tb cells threads i : Nat} {wb : Nat → Nat} {w : World} (h : NewAt B mb cb tb cells threads i wb w) : mb < w.heap.size := World.block_lt_of_cell? _ _ h.mCells

theorem cell_new {w : World} {p : Addr} {v : Value} {o : Obj} (h : w.cell? p = some v) : (w.alloc o).cell? p = some v := by
  rw [World.cell?_alloc_lt _ _ _ (World.block_lt_of_cell? _ _ h)]; exact h

theorem NewAt.next {B mb cb tb cells threads i : Nat} {wb : Nat → Nat} {w : World} (h : NewAt B mb cb tb cells threads i wb w) (hi : i < cells) (hB : B ≤ w.heap.size) :
    NewAt B mb cb tb cells threads (i + 1) (fun c => if c = i then w.heap.size else wb c) ((w.alloc (.cells #[.int .i64 0, .int .i64 0, .int .i64 0, .int .i64 0] 3)).setCell ⟨cb, i * 3, none⟩ (.slice (some ⟨w.heap.size, 0, none⟩) 4 4)) := by
  have lm := h.lm
  have lc := h.lc
  have lt := h.lt
  have lw : ∀ c, c < i → wb c < w.heap.size := fun c hc => World.block_lt_of_cell? _ _ (h.words c 0 hc (by decide))
  refine { mCells := cell_ne (cell_new h.mCells) (Or.inl h.d1), mWaits := cell_ne (cell_new h.mWaits) (Or.inl h.d1), done := fun c hc => ?_, todo := fun c hc hcc => cell_ne (cell_new (h.todo c (by omega) hcc)) (Or.inr (by omega)), times := fun c hc => cell_ne (cell_new (h.times c hc)) (Or.inr (by omega)), here := fun c hc => cell_ne (cell_new (h.here c hc)) (Or.inr (by omega)), words := fun c k hc hk => ?_, waits := fun t ht => cell_ne (cell_new (h.waits t ht)) (Or.inl (Ne.symm h.d3)), fm := fun o => ?_, fc := fun o => ?_, ft := fun o => ?_, fw := fun c o hc => ?_, lc := by simp; omega, lt := by simp; omega, d1 := h.d1, d2 := h.d2, d3 := h.d3, dw := fun c hc => ?_, dwi := fun c d hc hd hcd => ?_, base := h.base }
  · by_cases e : c = i
    · subst e
      rw [if_pos rfl]
      exact World.cell?_setCell_same _ _ _ (cell_new (h.todo c (Nat.le_refl _) hi))
    · rw [if_neg e]
      exact cell_ne (cell_new (h.done c (by omega))) (Or.inr (by omega))
  · by_cases e : c = i
    · subst e
      rw [if_pos rfl]
      refine cell_ne ?_ (Or.inl (by omega))
      rw [World.cell?_alloc_new]
      match k, hk with
      | 0, _ => rfl
      | 1, _ => rfl
      | 2, _ => rfl
      | 3, _ => rfl
    · rw [if_neg e]
      exact cell_ne (cell_new (h.words c k (by omega) hk)) (Or.inl (h.dw c (by omega)).2.1)
  · rw [World.frozen?_setCell, World.frozen?_alloc_old _ _ _ (Nat.ne_of_lt lm)]; exact h.fm o
  · rw [World.frozen?_setCell, World.frozen?_alloc_old _ _ _ (Nat.ne_of_lt lc)]; exact h.fc o
  · rw [World.frozen?_setCell, World.frozen?_alloc_old _ _ _ (Nat.ne_of_lt lt)]; exact h.ft o
  · rw [World.frozen?_setCell]
    by_cases e : c = i
    · rw [if_pos e]; exact World.frozen?_alloc_new _ _ _ _
    · rw [if_neg e, World.frozen?_alloc_old _ _ _ (Nat.ne_of_lt (lw c (by omega)))]; exact h.fw c o (by omega)
  · by_cases e : c = i
    · rw [if_pos e]; exact ⟨by omega, by omega, by omega, hB⟩
    · rw [if_neg e]; exact h.dw c (by omega)
  · by_cases e : c = i
    · rw [if_pos e, if_neg (fun e' => hcd (e.trans e'.symm))]
      have := lw d (by omega)
      omega
    · rw [if_neg e]
      by_cases e' : d = i
      · rw [if_pos e']
        have := lw c (by omega)
        omega
      · rw [if_neg e']
        exact h.dwi c d (by omega) (by omega) hcd

def Rm.fresh (cells threads : Nat) : Rm := ⟨⟨cells, fun _ _ => 0, fun _ => false, fun _ => 0⟩, threads, fun _ => []⟩

theorem NewAt.at {B mb cb tb cells threads : Nat} {wb : Nat → Nat} {w : World} (h : NewAt B mb cb tb cells threads cells wb w) (hc : cells ≤ 64) (ht : threads ≤ 6) :
    RmAt ⟨mb, cb, tb, cells, threads, wb, fun _ => 4, fun _ => .slice none 0 0⟩ (Rm.fresh cells threads) w where
  small := hc
  few := ht
  mCells := h.mCells
  mWaits := h.mWaits
  ccap := Nat.le_refl _
  tcap := Nat.le_refl _
  cWords := h.done
  cTimes := h.times
  cHere := h.here
  wcap _ _ := Nat.le_refl _
  words := h.words
  bound _ := by show 0 < 4611686018427387904; decide
  waits t ht := ⟨h.waits t ht, World.ownsRow_nil _ _ _ _⟩
  fm := h.fm
  fc := h.fc
  ft := h.ft
  fw := h.fw
  lc := h.lc
  lt := h.lt
  d1 := h.d1
  d2 := h.d2
  d3 := h.d3
  dw c hc := ⟨(h.dw c hc).1, (h.dw c hc).2.1, (h.dw c hc).2.2.1⟩
  dwi := h.dwi
  dv _ _ _ hk := by cases hk
  dvi _ _ _ _ _ _ hk := by cases hk

theorem NewAt.fp {B mb cb tb cells threads : Nat} {wb : Nat → Nat} {w : World} (h : NewAt B mb cb tb cells threads cells wb w) (k : Nat) (hk : (⟨mb, cb, tb, cells, threads, wb, fun _ => 4, fun _ => .slice none 0 0⟩ : RmPl).fp (Rm.fresh cells threads) k) : B ≤ k := by
  rcases hk with h1 | h1 | h1 | ⟨c, hc, h1⟩ | ⟨t, ht, h1⟩
  · rw [h1]; exact h.base.1
  · rw [h1]; exact h.base.2.1
  · rw [h1]; exact h.base.2.2
  · rw [h1]; exact (h.dw c hc).2.2.2
  · cases h1

theorem NewAt.drew {B mb cb tb cells threads i : Nat} {wb : Nat → Nat} {w : World} (h : NewAt B mb cb tb cells threads i wb w) : NewAt B mb cb tb cells threads i wb w.drew :=
  ⟨h.mCells, h.mWaits, h.done, h.todo, h.times, h.here, h.words, h.waits, h.fm, h.fc, h.ft, h.fw, h.lc, h.lt, h.d1, h.d2, h.d3, h.dw, h.dwi, h.base⟩

theorem heap_new (w : World) (o : Obj) : (w.alloc o).heap[w.heap.size]? = some o := by show (w.heap.push o)[w.heap.size]? = _; simp
end Go.Proofs.YtdpmnlbnlnmjbaaGreatDoor

/- RefF -/
namespace Go.Proofs.YtdpmnlbnlnmjbaaGreatDoor
open Go.RowKit

def Rm.setWaits (s : Rm) (t : Nat) (l : List Wt) : Rm := { s with waits := fun u => if u = t then l else s.waits u }
def RmPl.withRow (p : RmPl) (t : Nat) (v : Value) : RmPl := { p with wv := fun u => if u = t then v else p.wv u }

theorem RmAt.setWaits {p : RmPl} {s : Rm} {w w1 : World} (h : RmAt p s w) {t : Nat} (ht : t < s.threads) (v : Value) (l : List Wt)
    (hb : ∀ k, k < w.heap.size → (p.wv t).ownBlock ≠ some k → w1.heap[k]? = w.heap[k]?) (hsz : w.heap.size ≤ w1.heap.size)
    (hown : w1.ownsRow 0 175 4 v l.length (wtCells l)) (hk : ∀ k, v.ownBlock = some k → (p.wv t).ownBlock = some k ∨ w.heap.size ≤ k) :
    RmAt (p.withRow t v) (s.setWaits t l) (w1.setCell ⟨p.tb, t, none⟩ v) := by
  have lm := h.lm
  have lc := h.lc
  have lt := h.lt
  have om : (p.wv t).ownBlock ≠ some p.mb := fun e => (h.dv t _ ht e).1 rfl
  have oc : (p.wv t).ownBlock ≠ some p.cb := fun e => (h.dv t _ ht e).2.1 rfl
  have ot : (p.wv t).ownBlock ≠ some p.tb := fun e => (h.dv t _ ht e).2.2.1 rfl
  have ow : ∀ c, c < s.ar.size → (p.wv t).ownBlock ≠ some (p.wb c) := fun c hc e => (h.dv t _ ht e).2.2.2 c hc rfl
  have K : ∀ k o u, w.cell? ⟨k, o, none⟩ = some u → (p.wv t).ownBlock ≠ some k → w1.cell? ⟨k, o, none⟩ = some u := fun k o u hc hne => by
    rw [World.cell?_of_block (hb k (World.block_lt_of_cell? _ _ hc) hne)]; exact hc
  have FZ : ∀ k o, k < w.heap.size → w.frozen? ⟨k, o, none⟩ = false → (p.wv t).ownBlock ≠ some k → (w1.setCell ⟨p.tb, t, none⟩ v).frozen? ⟨k, o, none⟩ = false := fun k o hl hf hne => by
    rw [World.frozen?_setCell, World.frozen?_of_block (hb k hl hne)]; exact hf
  have nv : ∀ k, v.ownBlock = some k → k ≠ p.mb ∧ k ≠ p.cb ∧ k ≠ p.tb ∧ ∀ c, c < s.ar.size → k ≠ p.wb c := fun k e => by
    rcases hk k e with e | e
    · exact h.dv t k ht e
    · exact ⟨by omega, by omega, by omega, fun c hc => by have := h.lw hc; omega⟩
  refine { small := h.small, few := h.few, mCells := cell_ne (K _ _ _ h.mCells om) (Or.inl h.d2), mWaits := cell_ne (K _ _ _ h.mWaits om) (Or.inl h.d2), ccap := h.ccap, tcap := h.tcap, cWords := fun c hc => cell_ne (K _ _ _ (h.cWords c hc) oc) (Or.inl h.d3), cTimes := fun c hc => cell_ne (K _ _ _ (h.cTimes c hc) oc) (Or.inl h.d3), cHere := fun c hc => cell_ne (K _ _ _ (h.cHere c hc) oc) (Or.inl h.d3), wcap := h.wcap, words := fun c k hc hk => cell_ne (K _ _ _ (h.words c k hc hk) (ow c hc)) (Or.inl (h.dw c hc).2.2), bound := h.bound, waits := fun u hu => ?_, fm := fun o => FZ _ _ lm (h.fm o) om, fc := fun o => FZ _ _ lc (h.fc o) oc, ft := fun o => FZ _ _ lt (h.ft o) ot, fw := fun c o hc => FZ _ _ (h.lw hc) (h.fw c o hc) (ow c hc), lc := by rw [World.size_setCell]; exact Nat.lt_of_lt_of_le lc hsz, lt := by rw [World.size_setCell]; exact Nat.lt_of_lt_of_le lt hsz, d1 := h.d1, d2 := h.d2, d3 := h.d3, dw := h.dw, dwi := h.dwi, dv := fun u k hu e => ?_, dvi := fun u x k hu hx hne e1 => ?_ }
  · simp only [RmPl.withRow, Rm.setWaits]
    by_cases e : u = t
    · subst e
      rw [if_pos rfl, if_pos rfl]
      exact ⟨World.cell?_setCell_same _ _ _ (K _ _ _ (h.waits u hu).1 ot), ownsRow_block hown (fun k e => Below.heap_setCell _ _ _ _ (nv k e).2.2.1)⟩
    · rw [if_neg e, if_neg e]
      exact ⟨cell_ne (K _ _ _ (h.waits u hu).1 ot) (Or.inr e), ownsRow_block (h.waits u hu).2 (fun k e' => (Below.heap_setCell _ _ _ _ (h.dv u k hu e').2.2.1).trans (hb k (h.lv hu e') (fun e2 => h.dvi u t k hu ht e e' e2)))⟩
  · simp only [RmPl.withRow] at e ⊢
    split at e
    · exact nv k e
    · exact h.dv u k hu e
  · simp only [RmPl.withRow] at e1 ⊢
    by_cases eu : u = t
    · rw [if_pos eu] at e1
      rw [if_neg (fun ex => hne (eu.trans ex.symm))]
      rcases hk k e1 with e | e
      · exact h.dvi t x k ht hx (fun e' => hne (eu.trans e')) e
      · intro e2
        have := h.lv hx e2
        omega
    · rw [if_neg eu] at e1
      by_cases ex : x = t
      · rw [if_pos ex]
        intro e2
        rcases hk k e2 with e | e
        · exact h.dvi u t k hu ht eu e1 e
        · have := h.lv hu e1
          omega
      · rw [if_neg ex]
        exact h.dvi u x k hu hx hne e1

structure RmStep (p : RmPl) (s : Rm) (w : World) (p' : RmPl) (s' : Rm) (w' : World) : Prop where
  mb : p'.mb = p.mb
  tb : p'.tb = p.tb
  at' : RmAt p' s' w'
  turns : Turns (fun k _ => p.fp s k) w w'
  fp : ∀ k, p'.fp s' k → p.fp s k ∨ w.heap.size ≤ k

theorem RmStep.refl {p : RmPl} {s : Rm} {w : World} (h : RmAt p s w) : RmStep p s w p s w := ⟨rfl, rfl, h, Turns.refl _ _, fun _ h => Or.inl h⟩

theorem RmStep.trans {p p' p2 : RmPl} {s s' s2 : Rm} {w w' w2 : World} (h : RmStep p s w p' s' w') (k : RmStep p' s' w' p2 s2 w2) : RmStep p s w p2 s2 w2 where
  mb := k.mb.trans h.mb
  tb := k.tb.trans h.tb
  at' := k.at'
  turns := by
    refine ⟨k.turns.os.trans h.turns.os, k.turns.tape.trans h.turns.tape, k.turns.output.trans h.turns.output, Nat.le_trans h.turns.size k.turns.size, ?_, ?_, ?_⟩
    · intro i hi ho
      rw [k.turns.block i (Nat.lt_of_lt_of_le hi h.turns.size) (fun o e => by rcases h.fp i e with e | e; exact ho o e; omega)]
      exact h.turns.block i hi ho
    · intro i o hi ho
      rw [k.turns.cell i o (Nat.lt_of_lt_of_le hi h.turns.size) (fun e => by rcases h.fp i e with e | e; exact ho e; omega)]
      exact h.turns.cell i o hi ho
    · intro i o hi ho
      rw [k.turns.frozen i o (Nat.lt_of_lt_of_le hi h.turns.size) (fun e => by rcases h.fp i e with e | e; exact ho e; omega)]
      exact h.turns.frozen i o hi ho
  fp i hi := by
    rcases k.fp i hi with e | e
    · exact h.fp i e
    · exact Or.inr (Nat.le_trans h.turns.size e)

theorem RmStep.below {p p' : RmPl} {s s' : Rm} {w w' w2 : World} (h : RmStep p s w p' s' w') (k : Below w'.heap.size w' w2) : RmStep p s w p' s' w2 :=
  ⟨h.mb, h.tb, h.at'.below k, h.turns.trans (Turns.of_below k), h.fp⟩
theorem RmStep.alloc {p p' : RmPl} {s s' : Rm} {w w' : World} (h : RmStep p s w p' s' w') (o : Obj) : RmStep p s w p' s' (w'.alloc o) := h.below ((Below.refl _ _).alloc (Nat.le_refl _) _)
theorem RmStep.drew {p p' : RmPl} {s s' : Rm} {w w' : World} (h : RmStep p s w p' s' w') : RmStep p s w p' s' w'.drew := h.below (Below.refl _ _).drew
theorem RmStep.of_below {p p' : RmPl} {s s' : Rm} {w0 w w' : World} (b : Below w0.heap.size w0 w) (h : RmStep p s w p' s' w') : RmStep p s w0 p' s' w' :=
  ⟨h.mb, h.tb, h.at', (Turns.of_below b).trans (by
    refine h.turns.mono fun k o _ e => e), fun k e => (h.fp k e).imp id (Nat.le_trans b.size)⟩
end Go.Proofs.YtdpmnlbnlnmjbaaGreatDoor

/- RefH -/
namespace Go.Proofs.YtdpmnlbnlnmjbaaGreatDoor
open Go.RowKit Go.Extern.Stop Go.Stop Go.Extern

def Rm.drained (s : Rm) (t : Nat) (x : Wt) (l : List Wt) : Rm :=
  if s.ar.has x.c x.g = true then (s.setWaits t l).setWord x.c.toNat x.w.toNat x.v else s.setWaits t l

theorem wtCells_cons (x : Wt) (l : List Wt) : wtCells (x :: l) = x.cells ++ wtCells l := rfl
theorem wtCells_one {l : List Wt} : ∀ u ∈ wtCells l, u.oneCell' = true := by
  induction l with
  | nil => intro u hu; cases hu
  | cons x l ih =>
    intro u hu
    rw [wtCells_cons, List.mem_append] at hu
    rcases hu with hu | hu
    · simp only [Wt.cells, List.mem_cons, List.not_mem_nil, or_false] at hu
      rcases hu with rfl | rfl | rfl | rfl <;> rfl
    · exact ih u hu

end Go.Proofs.YtdpmnlbnlnmjbaaGreatDoor
