import Derived.Test.YtaiigfcfmcicjaaGreatDoorB07
import Derived.Maps.AppendAt
import Derived.Deep.RegionHeld3
import Derived.Deep.AppendLies
import Derived.Deep.RegionLaw

/- RefF -/
namespace Go.Proofs.YtaiigfcfmcicjaaGreatDoor
open Go.RowKit

theorem step_append_at {P : Program} (w : World) {ops : Array Oper} {o : Oper} {a : Act} {K : Act → World → Prop} {Q : Exit → Act → World → Prop} {E : Prop} (hgd : o.guard = none) (s x : Operand) (t : TypeId)
    (ho : o.op = .call { callee := .builtin .append, args := #[s, x], argTypes := #[t, t] })
    (base : Nat) (e : TypeId) (i : TypeInfo) (z : Value) (size bytes : Nat) (ht : P.underlying t = some (.slice e)) (hi : P.info? e = some i) (hz : i.zero = some z)
    (hsize : i.size = size) (hby : i.bytes = bytes) (hzs : z.cells.size = size) (hsz : 0 < size)
    (v : Value) (n : Nat) (xs : List Value) (hs : a.eval s = v) (hown : w.ownsRow base e size v n xs)
    (ad : Addr) (m c : Nat) (news : List Value) (hx : a.eval x = .slice (some ad) m c) (hl : news.length = m * size) (hnews : ∀ j u, news[j]? = some u → w.cell? (ad.add j) = some u) (h1 : ∀ u ∈ news, u.oneCell' = true)
    (h63 : n + m ≤ maxLen) (hbytes : (n + m) * bytes ≤ 140737488355328) (hbase : base ≤ w.heap.size)
    (h : ∀ g cap w', w'.ownsRow base e size (.slice g (n + m) cap) (n + m) (xs ++ news) → w.grownBy w' v.ownBlock → ((Value.slice g (n + m) cap).ownBlock = v.ownBlock ∨ (Value.slice g (n + m) cap).ownBlock = some w.heap.size) → K (a.put o.dst (.slice g (n + m) cap)) w') :
    if Region.wanted o (yielded ops a.tmps) = true then Oper.wp P o a w K Q else E := by
  have hw : Region.wanted o (yielded ops a.tmps) = true := by simp [Region.wanted, hgd]
  rw [if_pos hw]
  obtain ⟨v', w', hr, h2, h3, _, h5⟩ := run_append_own_at (P := P) w base t o.type e i z size bytes ht hi hz hsize hby hzs hsz v n xs hown ad m c news hl hnews h1 h63 hbytes hbase
  obtain ⟨g, cap, rfl, _⟩ := ownsRow_shape h2
  unfold Oper.wp execOp
  simp only [ho, resolve, invoke, builtin, Sem.run_bind, Sem.run_pure, Result.andThen_ok, List.map_toArray, List.map_cons, List.map_nil, hs, hx, hr]
  exact h g cap w' h2 h3 h5

def Rm.setWaits (s : Rm) (t : Nat) (l : List Wt) : Rm := { s with waits := fun u => if u = t then l else s.waits u }
def RmPl.withRow (p : RmPl) (t : Nat) (v : Value) : RmPl := { p with wv := fun u => if u = t then v else p.wv u }

theorem RmAt.setWaits {p : RmPl} {s : Rm} {w w1 : World} (h : RmAt p s w) {t : Nat} (ht : t < s.threads) (v : Value) (l : List Wt)
    (hb : ∀ k, k < w.heap.size → (p.wv t).ownBlock ≠ some k → w1.heap[k]? = w.heap[k]?) (hsz : w.heap.size ≤ w1.heap.size)
    (hown : w1.ownsRow 0 176 4 v l.length (wtCells l)) (hk : ∀ k, v.ownBlock = some k → (p.wv t).ownBlock = some k ∨ w.heap.size ≤ k) :
    RmAt (p.withRow t v) (s.setWaits t l) (w1.setCell ⟨p.tb, t, none⟩ v) := by
  have lm := h.lm
  have lc := h.lc
  have lt := h.lt
  have om : (p.wv t).ownBlock ≠ some p.mb := fun e => (h.dv t _ ht e).1 rfl
  have oc : (p.wv t).ownBlock ≠ some p.cb := fun e => (h.dv t _ ht e).2.1 rfl
  have ot : (p.wv t).ownBlock ≠ some p.tb := fun e => (h.dv t _ ht e).2.2.1 rfl
  have ow : ∀ c, c < s.ar.size → (p.wv t).ownBlock ≠ some (p.wb c) := fun c hc e => (h.dv t _ ht e).2.2.2 c hc rfl
  have K : ∀ k o u, w.cell? ⟨k, o, none⟩ = some u → (p.wv t).ownBlock ≠ some k → w1.cell? ⟨k, o, none⟩ = some u := fun k o u hc hne => by
    rw [World.cell?_of_block (hb k (World.block_lt_of_cell? _ _ hc) hne)]; exact hc
  have FZ : ∀ k o, k < w.heap.size → w.frozen? ⟨k, o, none⟩ = false → (p.wv t).ownBlock ≠ some k → (w1.setCell ⟨p.tb, t, none⟩ v).frozen? ⟨k, o, none⟩ = false := fun k o hl hf hne => by
    rw [World.frozen?_setCell, World.frozen?_of_block (hb k hl hne)]; exact hf
  have nv : ∀ k, v.ownBlock = some k → k ≠ p.mb ∧ k ≠ p.cb ∧ k ≠ p.tb ∧ ∀ c, c < s.ar.size → k ≠ p.wb c := fun k e => by
    rcases hk k e with e | e
    · exact h.dv t k ht e
    · exact ⟨by omega, by omega, by omega, fun c hc => by have := h.lw hc; omega⟩
  refine { small := h.small, few := h.few, mCells := cell_ne (K _ _ _ h.mCells om) (Or.inl h.d2), mWaits := cell_ne (K _ _ _ h.mWaits om) (Or.inl h.d2), ccap := h.ccap, tcap := h.tcap, cWords := fun c hc => cell_ne (K _ _ _ (h.cWords c hc) oc) (Or.inl h.d3), cTimes := fun c hc => cell_ne (K _ _ _ (h.cTimes c hc) oc) (Or.inl h.d3), cHere := fun c hc => cell_ne (K _ _ _ (h.cHere c hc) oc) (Or.inl h.d3), wcap := h.wcap, words := fun c k hc hk => cell_ne (K _ _ _ (h.words c k hc hk) (ow c hc)) (Or.inl (h.dw c hc).2.2), bound := h.bound, waits := fun u hu => ?_, fm := fun o => FZ _ _ lm (h.fm o) om, fc := fun o => FZ _ _ lc (h.fc o) oc, ft := fun o => FZ _ _ lt (h.ft o) ot, fw := fun c o hc => FZ _ _ (h.lw hc) (h.fw c o hc) (ow c hc), lc := by rw [World.size_setCell]; exact Nat.lt_of_lt_of_le lc hsz, lt := by rw [World.size_setCell]; exact Nat.lt_of_lt_of_le lt hsz, d1 := h.d1, d2 := h.d2, d3 := h.d3, dw := h.dw, dwi := h.dwi, dv := fun u k hu e => ?_, dvi := fun u x k hu hx hne e1 => ?_ }
  · simp only [RmPl.withRow, Rm.setWaits]
    by_cases e : u = t
    · subst e
      rw [if_pos rfl, if_pos rfl]
      exact ⟨World.cell?_setCell_same _ _ _ (K _ _ _ (h.waits u hu).1 ot), ownsRow_block hown (fun k e => Below.heap_setCell _ _ _ _ (nv k e).2.2.1)⟩
    · rw [if_neg e, if_neg e]
      exact ⟨cell_ne (K _ _ _ (h.waits u hu).1 ot) (Or.inr e), ownsRow_block (h.waits u hu).2 (fun k e' => (Below.heap_setCell _ _ _ _ (h.dv u k hu e').2.2.1).trans (hb k (h.lv hu e') (fun e2 => h.dvi u t k hu ht e e' e2)))⟩
  · simp only [RmPl.withRow] at e ⊢
    split at e
    · exact nv k e
    · exact h.dv u k hu e
  · simp only [RmPl.withRow] at e1 ⊢
    by_cases eu : u = t
    · rw [if_pos eu] at e1
      rw [if_neg (fun ex => hne (eu.trans ex.symm))]
      rcases hk k e1 with e | e
      · exact h.dvi t x k ht hx (fun e' => hne (eu.trans e')) e
      · intro e2
        have := h.lv hx e2
        omega
    · rw [if_neg eu] at e1
      by_cases ex : x = t
      · rw [if_pos ex]
        intro e2
        rcases hk k e2 with e | e
        · exact h.dvi u t k hu ht eu e1 e
        · have := h.lv hu e1
          omega
      · rw [if_neg ex]
        exact h.dvi u x k hu hx hne e1

structure RmStep (p : RmPl) (s : Rm) (w : World) (p' : RmPl) (s' : Rm) (w' : World) : Prop where
  mb : p'.mb = p.mb
  tb : p'.tb = p.tb
  at' : RmAt p' s' w'
  turns : Turns (fun k _ => p.fp s k) w w'
  fp : ∀ k, p'.fp s' k → p.fp s k ∨ w.heap.size ≤ k

theorem RmStep.refl {p : RmPl} {s : Rm} {w : World} (h : RmAt p s w) : RmStep p s w p s w := ⟨rfl, rfl, h, Turns.refl _ _, fun _ h => Or.inl h⟩

theorem RmStep.trans {p p' p2 : RmPl} {s s' s2 : Rm} {w w' w2 : World} (h : RmStep p s w p' s' w') (k : RmStep p' s' w' p2 s2 w2) : RmStep p s w p2 s2 w2 where
  mb := k.mb.trans h.mb
  tb := k.tb.trans h.tb
  at' := k.at'
  turns := by
    refine ⟨k.turns.os.trans h.turns.os, k.turns.tape.trans h.turns.tape, k.turns.output.trans h.turns.output, Nat.le_trans h.turns.size k.turns.size, ?_, ?_, ?_⟩
    · intro i hi ho
      rw [k.turns.block i (Nat.lt_of_lt_of_le hi h.turns.size) (fun o e => by rcases h.fp i e with e | e; exact ho o e; omega)]
      exact h.turns.block i hi ho
    · intro i o hi ho
      rw [k.turns.cell i o (Nat.lt_of_lt_of_le hi h.turns.size) (fun e => by rcases h.fp i e with e | e; exact ho e; omega)]
      exact h.turns.cell i o hi ho
    · intro i o hi ho
      rw [k.turns.frozen i o (Nat.lt_of_lt_of_le hi h.turns.size) (fun e => by rcases h.fp i e with e | e; exact ho e; omega)]
      exact h.turns.frozen i o hi ho
  fp i hi := by
    rcases k.fp i hi with e | e
    · exact h.fp i e
    · exact Or.inr (Nat.le_trans h.turns.size e)

theorem RmStep.below {p p' : RmPl} {s s' : Rm} {w w' w2 : World} (h : RmStep p s w p' s' w') (k : Below w'.heap.size w' w2) : RmStep p s w p' s' w2 :=
  ⟨h.mb, h.tb, h.at'.below k, h.turns.trans (Turns.of_below k), h.fp⟩
theorem RmStep.alloc {p p' : RmPl} {s s' : Rm} {w w' : World} (h : RmStep p s w p' s' w') (o : Obj) : RmStep p s w p' s' (w'.alloc o) := h.below ((Below.refl _ _).alloc (Nat.le_refl _) _)
theorem RmStep.drew {p p' : RmPl} {s s' : Rm} {w w' : World} (h : RmStep p s w p' s' w') : RmStep p s w p' s' w'.drew := h.below (Below.refl _ _).drew
theorem RmStep.of_below {p p' : RmPl} {s s' : Rm} {w0 w w' : World} (b : Below w0.heap.size w0 w) (h : RmStep p s w p' s' w') : RmStep p s w0 p' s' w' :=
  ⟨h.mb, h.tb, h.at', (Turns.of_below b).trans (by
    refine h.turns.mono fun k o _ e => e), fun k e => (h.fp k e).imp id (Nat.le_trans b.size)⟩
end Go.Proofs.YtaiigfcfmcicjaaGreatDoor

/- RefH -/
namespace Go.Proofs.YtaiigfcfmcicjaaGreatDoor
open Go.RowKit Go.Extern.Stop Go.Stop Go.Extern

def Rm.drained (s : Rm) (t : Nat) (x : Wt) (l : List Wt) : Rm :=
  if s.ar.has x.c x.g = true then (s.setWaits t l).setWord x.c.toNat x.w.toNat x.v else s.setWaits t l

end Go.Proofs.YtaiigfcfmcicjaaGreatDoor

/- RefI -/
namespace Go.Proofs.YtaiigfcfmcicjaaGreatDoor
open Go.RowKit Go.Extern.Stop Go.Stop Go.Extern

def Rm.drainAll (s : Rm) (t : Nat) : List Wt → Rm
  | [] => s
  | x :: l => (s.drained t x l).drainAll t l

def Rm.gone (s : Rm) (t : Nat) : List Wt → Nat
  | [] => 0
  | x :: l => (if s.ar.has x.c x.g = true then 0 else 1) + (s.drained t x l).gone t l

theorem Rm.drained_waits (s : Rm) (t : Nat) (x : Wt) (l : List Wt) : (s.drained t x l).waits t = l := by
  unfold Rm.drained
  split
  · simp [Rm.setWord, Rm.setWaits]
  · simp [Rm.setWaits]

theorem Rm.drained_threads (s : Rm) (t : Nat) (x : Wt) (l : List Wt) : (s.drained t x l).threads = s.threads := by
  unfold Rm.drained
  split <;> rfl

theorem Rm.gone_le (l : List Wt) (t : Nat) : ∀ s : Rm, s.gone t l ≤ l.length := by
  induction l with
  | nil => intro s; exact Nat.zero_le _
  | cons x l ih =>
    intro s
    have := ih (s.drained t x l)
    rw [Rm.gone, List.length_cons]
    split <;> omega

end Go.Proofs.YtaiigfcfmcicjaaGreatDoor
