import Derived.Test.YtaiigfcfmcicjaaGreatDoorE27
import Derived.Maps.AppendAt
import Derived.Laws.IdiomCopy
import Derived.Test.YtaiigfcfmcicjaaGreatDoorE35
namespace Go.Proofs.YtaiigfcfmcicjaaGreatDoor
set_option maxRecDepth 100000
set_option maxHeartbeats 8000000
section
open Go.RowKit Go.Extern.Stop Go.Stop Go.Extern Go.Maps Go.WideMaps Go.Sort
theorem rowAt_take {R : List (List Int)} {t : Nat} {row : List Int} (h : R[t]? = some row) (u k : Nat) : rowAt (R.take (t + 1)) u k = if u = t then row.getD k 0 else rowAt (R.take t) u k := by
 have ht := (List.getElem?_eq_some_iff.1 h).1
 unfold rowAt
 by_cases e : u = t
 ·rw [if_pos e, e]
  congr 1
  rw [List.getD_eq_getElem?_getD, List.getElem?_take, if_pos (by omega), h]; rfl
 ·rw [if_neg e]
  congr 1
  rw [List.getD_eq_getElem?_getD, List.getD_eq_getElem?_getD, List.getElem?_take, List.getElem?_take]
  by_cases e2 : u < t
  ·rw [if_pos (by omega), if_pos e2]
  ·rw [if_neg (by omega), if_neg e2]
def Sta.at1 (s : Sta) (n i t : Nat) : Mk where
 mem := { Rm.fresh s.cells.toNat n with ar := (Rm.fresh s.cells.toNat n).ar.filled (s.init.take i) }
 regs := rowAt (s.regs.take t)
 pc _ := 0
 marks := []
 faults := 0
theorem Sta.at1_end (s : Sta) (n : Nat) : s.at1 n s.init.length s.regs.length = s.mach n := by
 unfold Sta.at1 Sta.mach
 rw [List.take_length, List.take_length]
theorem Ar.filled_nil (s : Ar) : s.filled [] = s := by
 unfold Ar.filled
 simp
theorem Mk.ext' {m m' : Mk} (h1 : m.mem = m'.mem) (h2 : m.regs = m'.regs) (h3 : m.pc = m'.pc) (h4 : m.marks = m'.marks) (h5 : m.faults = m'.faults) : m = m' := by
 cases m; cases m'; simp only at h1 h2 h3 h4 h5; rw [h1, h2, h3, h4, h5]
def Mk.rowPart (m : Mk) (i : Nat) (row : List Int) (j : Nat) : Mk :=
 m.setMem { m.mem.give i with ar := { (m.mem.give i).ar with words := fun c k => if c = i /\ k < j then row.getD k 0 else (m.mem.give i).ar.words c k } }
theorem Mk.rowPart_zero (m : Mk) (i : Nat) (row : List Int) : m.rowPart i row 0 = m.setMem (m.mem.give i) := by
 unfold Mk.rowPart
 have : (fun c k => if c = i /\ k < 0 then row.getD k 0 else (m.mem.give i).ar.words c k) = (m.mem.give i).ar.words := by
  funext c k; rw [if_neg (by omega)]
 rw [this]
theorem Mk.rowPart_succ (m : Mk) (i : Nat) (row : List Int) (j : Nat) {v : Int} (hv : row[j]? = some v) : (m.rowPart i row j).setMem ((m.rowPart i row j).mem.setWord i j v) = m.rowPart i row (j + 1) := by
 unfold Mk.rowPart Mk.setMem Rm.setWord Ar.setWord
 simp only
 congr 3
 funext c k
 by_cases h1 : c = i /\ k = j
 ·rw [if_pos h1, if_pos (by omega), h1.2, List.getD_eq_getElem?_getD, hv]; rfl
 ·rw [if_neg h1]
  by_cases h2 : c = i /\ k < j
  ·rw [if_pos h2, if_pos (by omega)]
  ·rw [if_neg h2, if_neg (by omega)]
theorem Sta.at1_row {s : Sta} {n i t : Nat} {row : List Int} (h : s.init[i]? = some row) (h4 : row.length <= 4) : (s.at1 n i t).rowPart i row row.length = s.at1 n (i + 1) t := by
 have hi := (List.getElem?_eq_some_iff.1 h).1
 have hl : (s.init.take i).length = i := by rw [List.length_take]; omega
 have hl2 : (s.init.take (i + 1)).length = i + 1 := by rw [List.length_take]; omega
 refine Mk.ext' ?_ rfl rfl rfl rfl
 show Rm.mk _ _ _ = Rm.mk _ _ _
 congr 1
 show Ar.mk _ _ _ _ = Ar.mk _ _ _ _
 congr 1
 ·funext c k
  show (if _ then _ else if c = i /\ k < 4 then 0 else if c < (s.init.take i).length /\ k < 4 then rowAt (s.init.take i) c k else _) = (if c < (s.init.take (i + 1)).length /\ k < 4 then rowAt (s.init.take (i + 1)) c k else _)
  rw [hl, hl2, rowAt_take h]
  by_cases e : c = i
  ·by_cases e2 : k < row.length
   ·rw [if_pos ⟨e, e2⟩, if_pos (by omega), if_pos e]
   ·rw [if_neg (by omega)]
    by_cases e3 : k < 4
    ·rw [if_pos ⟨e, e3⟩, if_pos (by omega), if_pos e, List.getD_eq_getElem?_getD, List.getElem?_eq_none (by omega)]; rfl
    ·rw [if_neg (by omega), if_neg (by omega), if_neg (by omega)]
  ·rw [if_neg (by omega), if_neg (by omega), if_neg e]
   by_cases e2 : c < i /\ k < 4
   ·rw [if_pos e2, if_pos (by omega)]
   ·rw [if_neg e2, if_neg (by omega)]
 ·funext c
  show (if c = i then true else if c < (s.init.take i).length then true else _) = (if c < (s.init.take (i + 1)).length then true else _)
  rw [hl, hl2]
  by_cases e : c = i
  ·rw [if_pos e, if_pos (by omega)]
  ·rw [if_neg e]
   by_cases e2 : c < i
   ·rw [if_pos e2, if_pos (by omega)]
   ·rw [if_neg e2, if_neg (by omega)]
 ·funext c
  show (if c = i then (if i < (s.init.take i).length then 1 else _) + 1 else if c < (s.init.take i).length then 1 else _) = (if c < (s.init.take (i + 1)).length then 1 else _)
  rw [hl, hl2]
  by_cases e : c = i
  ·rw [if_pos e, if_neg (by omega), if_pos (by omega)]; rfl
  ·rw [if_neg e]
   by_cases e2 : c < i
   ·rw [if_pos e2, if_pos (by omega)]
   ·rw [if_neg e2, if_neg (by omega)]
theorem freeFrom_hit {there : Nat -> Bool} : ∀ (n j i : Nat), j <= i -> i < j + n -> there i = false -> (∀ k, j <= k -> k < i -> there k = true) -> freeFrom there j n = some i
 | 0, j, i, h1, h2, _, _ => by omega
 | n + 1, j, i, h1, h2, h3, h4 => by
  unfold freeFrom
  by_cases e : j = i
  ·rw [e, h3, if_neg (by decide)]
  ·rw [h4 j nL (by omega), if_pos rfl]
   exact freeFrom_hit n (j + 1) i (by omega) (by omega) h3 (fun k h5 h6 => h4 k (by omega) h6)
theorem Sta.at1_free {s : Sta} {n i t : Nat} (hi : i < s.init.length) (hc : (s.init.length : Int) <= s.cells) : (s.at1 n i t).mem.ar.free? = some i := by
 have hl : (s.init.take i).length = i := by rw [List.length_take]; omega
 refine freeFrom_hit _ 0 i (Nat.zero_le _) (by show i < 0 + s.cells.toNat; omega) ?_ (fun k _ hk => ?_)
 ·show (if i < (s.init.take i).length then true else false) = false
  rw [hl, if_neg (by omega)]
 ·show (if k < (s.init.take i).length then true else false) = true
  rw [hl, if_pos hk]
theorem Sta.at1_given {s : Sta} {n i t : Nat} (hi : i < s.init.length) : (s.at1 n i t).mem.ar.given i = 0 := by
 have hl : (s.init.take i).length = i := by rw [List.length_take]; omega
 show (if i < (s.init.take i).length then 1 else 0) = 0
 rw [hl, if_neg (by omega)]
end
section
open Go.RowKit Go.Extern.Stop Go.Stop Go.Extern Go.Maps Go.WideMaps Go.Sort
theorem rowOk_at {R : List (List Int)} {n : Nat} (h : rowsOk n R = true) {i : Nat} {row : List Int} (hr : R[i]? = some row) : row.length <= n /\ ∀ (j : Nat) v, row[j]? = some v -> Wd v := by
 unfold rowsOk at h
 rw [List.all_eq_true] at h
 have := h row (List.mem_of_getElem? hr)
 unfold rowOk at this
 rw [Bool.and_eq_true, decide_eq_true_eq, List.all_eq_true] at this
 exact ⟨this.1, fun j v hv => by have := this.2 v (List.mem_of_getElem? hv); unfold wordOk at this; rw [decide_eq_true_eq] at this; exact this⟩
theorem Sta.fits_of {s : Sta} {n : Nat} (h : s.fits n = true) : (s.init.length : Int) <= s.cells /\ rowsOk 4 s.init = true /\ s.regs.length <= n /\ rowsOk 8 s.regs = true := by
 unfold Sta.fits at h
 simp only [Bool.and_eq_true, decide_eq_true_eq] at h
 exact ⟨h.1.1, h.1.2, h.2.1, h.2.2⟩
end
section
open Go.RowKit Go.Extern.Stop Go.Stop Go.Extern Go.Maps Go.WideMaps Go.Sort
theorem step_copy_cells {P : Program} (w : World) {ops : Array Oper} {o : Oper} {a : Act} {K : Act -> World -> Prop} {Q : Exit -> Act -> World -> Prop} {E : Prop} (hgd : o.guard = none) (s x : Operand) (t elem : TypeId)
  (ho : o.op = .call { callee := .builtin .copy, args := #[s, x], argTypes := #[t, t] })
  (b off dLen dCap : Nat) (ad : Addr) (sLen sCap : Nat) (cs : List Value) (hs : a.eval s = .slice (some ⟨b, off, none⟩) dLen dCap) (hx : a.eval x = .slice (some ad) sLen sCap)
  (hu : P.underlying t = some (.slice elem)) (hz : (P.info? elem).map (·.size) = some 1) (hn : cs.length = Nat.min sLen dLen)
  (hsrc : ∀ j v, cs[j]? = some v -> w.cell? (ad.add j) = some v) (hc : ∀ j, j < cs.length -> (w.cell? ⟨b, off + j, none⟩).isSome = true) (hf : ∀ j, j < cs.length -> w.frozen? ⟨b, off + j, none⟩ = false) (h1 : ∀ v ∈ cs, v.oneCell' = true)
  (h : K (a.put o.dst (goInt cs.length)) (w.setCells b off cs)) :
  if Region.wanted o (yielded ops a.tmps) = true then Oper.wp P o a w K Q else E := by
 have hw : Region.wanted o (yielded ops a.tmps) = true := by simp [Region.wanted, hgd]
 rw [if_pos hw]
 have hr := run_copy_cells (P := P) w t t o.type elem b off dLen dCap ad sLen sCap cs hu hz hn hsrc hc hf h1
 unfold Oper.wp execOp
 simp only [ho, resolve, invoke, builtin, Sem.run_bind, Sem.run_pure, Result.andThen_ok, List.map_toArray, List.map_cons, List.map_nil, hs, hx, hr]
 exact h
theorem step_copy_none {P : Program} (w : World) {ops : Array Oper} {o : Oper} {a : Act} {K : Act -> World -> Prop} {Q : Exit -> Act -> World -> Prop} {E : Prop} (hgd : o.guard = none) (s x : Operand) (t elem : TypeId)
  (ho : o.op = .call { callee := .builtin .copy, args := #[s, x], argTypes := #[t, t] })
  (d : Option Addr) (dLen dCap : Nat) (ad : Option Addr) (sCap : Nat) (hs : a.eval s = .slice d dLen dCap) (hx : a.eval x = .slice ad 0 sCap)
  (hu : P.underlying t = some (.slice elem)) (hz : (P.info? elem).map (·.size) = some 1)
  (h : K (a.put o.dst (goInt 0)) w) :
  if Region.wanted o (yielded ops a.tmps) = true then Oper.wp P o a w K Q else E := by
 have hw : Region.wanted o (yielded ops a.tmps) = true := by simp [Region.wanted, hgd]
 rw [if_pos hw]
 have hr := run_copy_none (P := P) w t t o.type elem d ad dLen dCap 0 sCap hu hz (by simp)
 unfold Oper.wp execOp
 simp only [ho, resolve, invoke, builtin, Sem.run_bind, Sem.run_pure, Result.andThen_ok, List.map_toArray, List.map_cons, List.map_nil, hs, hx, hr]
 exact h
theorem RmStep.lay {rp : RmPl} {M : Mk} {i : Nat} {row : List Int} (h4 : row.length <= 4) : ∀ (l : List Int) (j : Nat) {w : World}, row.drop j = l -> j <= row.length -> i < (M.rowPart i row j).mem.ar.size -> RmAt rp (M.rowPart i row j).mem w ->
  RmStep rp (M.rowPart i row j).mem w rp (M.rowPart i row row.length).mem (w.setCells (rp.wb i) j (l.map (Value.int .i64)))
 | [], j, w, hl, hj, _, h => by
  have : j = row.length := by have := congrArg List.length hl; rw [List.length_drop] at this; simp at this; omega
  subst this
  exact RmStep.refl h
 | v :: l, j, w, hl, hj, hi, h => by
  have hjl : j < row.length := by have := congrArg List.length hl; rw [List.length_drop, List.length_cons] at this; omega
  have hv : row[j]? = some v := by have := List.getElem?_drop (xs := row) (i := j) (j := 0); rw [hl] at this; simpa using this.symm
  have k1 := RmStep.setWord h i j hi (by omega) v
  have e : (M.rowPart i row j).mem.setWord i j v = (M.rowPart i row (j + 1)).mem := by rw [<- Mk.rowPart_succ M i row j hv]; rfl
  rw [e] at k1
  have k2 := RmStep.lay h4 l (j + 1) (by rw [<- List.drop_drop, hl]; rfl) (by omega) (by exact hi) k1.at'
  exact k1.trans k2
structure Nm1 (w : World) (bs k : Nat) (sv mv : Array Value) (mb : Nat) (rp : RmPl) (R : Rm) (W : World) : Prop where
 mem : RmAt rp R W
 emb : rp.mb = mb
 fp : ∀ b, rp.fp R b -> w.heap.size <= b /\ b ≠ k /\ b ≠ bs
 gk : w.heap.size <= k
 gs : w.heap.size <= bs
 bk : W.heap[k]? = some (.cells mv 61)
 bb : W.heap[bs]? = some (.cells sv 45)
 bw : Below w.heap.size w W
theorem Nm1.lk {w : World} {bs k : Nat} {sv mv : Array Value} {mb : Nat} {rp : RmPl} {R : Rm} {W : World} (h : Nm1 w bs k sv mv mb rp R W) : k < W.heap.size := by
 rcases Nat.lt_or_ge k W.heap.size with h' | h'
 ·exact h'
 ·have := h.bk; rw [Array.getElem?_eq_none h'] at this; cases this
theorem Nm1.ls {w : World} {bs k : Nat} {sv mv : Array Value} {mb : Nat} {rp : RmPl} {R : Rm} {W : World} (h : Nm1 w bs k sv mv mb rp R W) : bs < W.heap.size := by
 rcases Nat.lt_or_ge bs W.heap.size with h' | h'
 ·exact h'
 ·have := h.bb; rw [Array.getElem?_eq_none h'] at this; cases this
theorem Nm1.step {w : World} {bs k : Nat} {sv mv : Array Value} {mb : Nat} {rp rp' : RmPl} {R R' : Rm} {W W' : World} (h : Nm1 w bs k sv mv mb rp R W) (q : RmStep rp R W rp' R' W') : Nm1 w bs k sv mv mb rp' R' W' where
 mem := q.at'
 emb := q.mb.trans h.emb
 fp b hb := by
  rcases q.fp b hb with e | e
  ·exact h.fp b e
  ·have h1 := h.lk
   have h2 := h.ls
   have h3 := h.bw.size
   exact ⟨by omega, by omega, by omega⟩
 gk := h.gk
 gs := h.gs
 bk := (q.turns.block k h.lk (fun _ e => (h.fp _ e).2.1 rfl)).trans h.bk
 bb := (q.turns.block bs h.ls (fun _ e => (h.fp _ e).2.2 rfl)).trans h.bb
 bw := h.bw.trans (q.turns.below h.bw.size (fun i o hi e => by have := (h.fp i e).1; omega))
theorem Nm1.below {w : World} {bs k : Nat} {sv mv : Array Value} {mb : Nat} {rp : RmPl} {R : Rm} {W W' : World} (h : Nm1 w bs k sv mv mb rp R W) (hb : Below W.heap.size W W') : Nm1 w bs k sv mv mb rp R W' where
 mem := h.mem.below hb
 emb := h.emb
 fp := h.fp
 gk := h.gk
 gs := h.gs
 bk := (hb.block _ h.lk).trans h.bk
 bb := (hb.block _ h.ls).trans h.bb
 bw := h.bw.trans (hb.mono h.bw.size)
end
end Go.Proofs.YtaiigfcfmcicjaaGreatDoor
