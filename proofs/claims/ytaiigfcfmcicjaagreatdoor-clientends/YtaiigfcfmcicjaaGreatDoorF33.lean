import Derived.Test.YtaiigfcfmcicjaaGreatDoorF21
import Derived.Maps.AppendAt
import Derived.Laws.IdiomCopy
import Derived.Test.YtaiigfcfmcicjaaGreatDoorF32
import Derived.Test.YtaiigfcfmcicjaaGreatDoorF05
namespace Go.Proofs.YtaiigfcfmcicjaaGreatDoor
set_option maxRecDepth 100000
set_option maxHeartbeats 8000000
section
open Go.RowKit Go.Extern.Stop Go.Stop Go.Extern Go.Maps Go.WideMaps Go.Sort
variable {n i t : Nat} {s : Sta} {row : List Int}
theorem rowAt_take {R : List (List Int)} {t : Nat} (h : R[t]? = some row) (u k : Nat) : rowAt (R.take (t + 1)) u k = if u = t then row.getD k 0 else rowAt (R.take t) u k := by
 have ht := (List.getElem?_eq_some_iff.1 h).1
 unfold rowAt
 by_cases e : u = t
 ·rw [if_pos e, e]
  congr 1
  rw [List.getD_eq_getElem?_getD, List.getElem?_take, if_pos (by omega), h]; rfl
 ·rw [if_neg e]
  congr 1
  rw [List.getD_eq_getElem?_getD, List.getD_eq_getElem?_getD, List.getElem?_take, List.getElem?_take]
  by_cases e2 : u < t
  ·rw [if_pos (by omega), if_pos e2]
  ·rw [if_neg (by omega), if_neg e2]
def Sta.at1 (s : Sta) (n i t : Nat) : Mk where
 mem := { Rm.fresh s.cells.toNat n with ar := (Rm.fresh s.cells.toNat n).ar.filled (s.init.take i) }
 regs := rowAt (s.regs.take t)
 pc _ := 0
 marks := []
 faults := 0
theorem Sta.at1_end (s : Sta) (n : Nat) : s.at1 n s.init.length s.regs.length = s.mach n := by
 unfold Sta.at1 Sta.mach
 rw [List.take_length, List.take_length]
theorem Ar.filled_nil (s : Ar) : s.filled [] = s := by
 unfold Ar.filled
 simp
theorem Mk.ext' {m m' : Mk} (h1 : m.mem = m'.mem) (h2 : m.regs = m'.regs) (h3 : m.pc = m'.pc) (h4 : m.marks = m'.marks) (h5 : m.faults = m'.faults) : m = m' := by
 cases m; cases m'; simp only at h1 h2 h3 h4 h5; rw [h1, h2, h3, h4, h5]
def Mk.rowPart (m : Mk) (i : Nat) (row : List Int) (j : Nat) : Mk :=
 m.setMem { m.mem.give i with ar := { (m.mem.give i).ar with words := fun c k => if c = i /\ k < j then row.getD k 0 else (m.mem.give i).ar.words c k } }
theorem Mk.rowPart_zero (m : Mk) (i : Nat) (row : List Int) : m.rowPart i row 0 = m.setMem (m.mem.give i) := by
 unfold Mk.rowPart
 have : (fun c k => if c = i /\ k < 0 then row.getD k 0 else (m.mem.give i).ar.words c k) = (m.mem.give i).ar.words := by
  funext c k; rw [if_neg (by omega)]
 rw [this]
theorem Mk.rowPart_succ (m : Mk) (i : Nat) (row : List Int) (j : Nat) {v : Int} (hv : row[j]? = some v) : (m.rowPart i row j).setMem ((m.rowPart i row j).mem.setWord i j v) = m.rowPart i row (j + 1) := by
 unfold Mk.rowPart Mk.setMem Rm.setWord Ar.setWord
 simp only
 congr 3
 funext c k
 by_cases h1 : c = i /\ k = j
 ·rw [if_pos h1, if_pos (by omega), h1.2, List.getD_eq_getElem?_getD, hv]; rfl
 ·rw [if_neg h1]
  by_cases h2 : c = i /\ k < j
  ·rw [if_pos h2, if_pos (by omega)]
  ·rw [if_neg h2, if_neg (by omega)]
theorem Sta.at1_row (h : s.init[i]? = some row) (h4 : row.length <= 4) : (s.at1 n i t).rowPart i row row.length = s.at1 n (i + 1) t := by
 have hi := (List.getElem?_eq_some_iff.1 h).1
 have hl : (s.init.take i).length = i := by rw [List.length_take]; omega
 have hl2 : (s.init.take (i + 1)).length = i + 1 := by rw [List.length_take]; omega
 refine Mk.ext' ?_ rfl rfl rfl rfl
 show Rm.mk _ _ _ = Rm.mk _ _ _
 congr 1
 show Ar.mk _ _ _ _ = Ar.mk _ _ _ _
 congr 1
 ·funext c k
  show (if _ then _ else if c = i /\ k < 4 then 0 else if c < (s.init.take i).length /\ k < 4 then rowAt (s.init.take i) c k else _) = (if c < (s.init.take (i + 1)).length /\ k < 4 then rowAt (s.init.take (i + 1)) c k else _)
  rw [hl, hl2, rowAt_take h]
  by_cases e : c = i
  ·by_cases e2 : k < row.length
   ·rw [if_pos ⟨e, e2⟩, if_pos (by omega), if_pos e]
   ·rw [if_neg (by omega)]
    by_cases e3 : k < 4
    ·rw [if_pos ⟨e, e3⟩, if_pos (by omega), if_pos e, List.getD_eq_getElem?_getD, List.getElem?_eq_none (by omega)]; rfl
    ·rw [if_neg (by omega), if_neg (by omega), if_neg (by omega)]
  ·rw [if_neg (by omega), if_neg (by omega), if_neg e]
   by_cases e2 : c < i /\ k < 4
   ·rw [if_pos e2, if_pos (by omega)]
   ·rw [if_neg e2, if_neg (by omega)]
 ·funext c
  show (if c = i then true else if c < (s.init.take i).length then true else _) = (if c < (s.init.take (i + 1)).length then true else _)
  rw [hl, hl2]
  by_cases e : c = i
  ·rw [if_pos e, if_pos (by omega)]
  ·rw [if_neg e]
   by_cases e2 : c < i
   ·rw [if_pos e2, if_pos (by omega)]
   ·rw [if_neg e2, if_neg (by omega)]
 ·funext c
  show (if c = i then (if i < (s.init.take i).length then 1 else _) + 1 else if c < (s.init.take i).length then 1 else _) = (if c < (s.init.take (i + 1)).length then 1 else _)
  rw [hl, hl2]
  by_cases e : c = i
  ·rw [if_pos e, if_neg (by omega), if_pos (by omega)]; rfl
  ·rw [if_neg e]
   by_cases e2 : c < i
   ·rw [if_pos e2, if_pos (by omega)]
   ·rw [if_neg e2, if_neg (by omega)]
theorem freeFrom_hit {there : Nat -> Bool} : ∀ (n j i : Nat), j <= i -> i < j + n -> there i = false -> (∀ k, j <= k -> k < i -> there k = true) -> freeFrom there j n = some i
 | 0, j, i, h1, h2, _, _ => by omega
 | n + 1, j, i, h1, h2, h3, h4 => by
  unfold freeFrom
  by_cases e : j = i
  ·rw [e, h3, if_neg (by decide)]
  ·rw [h4 j nL (by omega), if_pos rfl]
   exact freeFrom_hit n (j + 1) i (by omega) (by omega) h3 (fun k h5 h6 => h4 k (by omega) h6)
theorem Sta.at1_free (hi : i < s.init.length) (hc : (s.init.length : Int) <= s.cells) : (s.at1 n i t).mem.ar.free? = some i := by
 have hl : (s.init.take i).length = i := by rw [List.length_take]; omega
 refine freeFrom_hit _ 0 i (Nat.zero_le _) (by show i < 0 + s.cells.toNat; omega) ?_ (fun k _ hk => ?_)
 ·show (if i < (s.init.take i).length then true else false) = false
  rw [hl, if_neg (by omega)]
 ·show (if k < (s.init.take i).length then true else false) = true
  rw [hl, if_pos hk]
theorem Sta.at1_given (hi : i < s.init.length) : (s.at1 n i t).mem.ar.given i = 0 := by
 have hl : (s.init.take i).length = i := by rw [List.length_take]; omega
 show (if i < (s.init.take i).length then 1 else 0) = 0
 rw [hl, if_neg (by omega)]
end
section
open Go.RowKit Go.Extern.Stop Go.Stop Go.Extern Go.Maps Go.WideMaps Go.Sort
theorem rowOk_at {R : List (List Int)} {n : Nat} (h : rowsOk n R = true) {i : Nat} {row : List Int} (hr : R[i]? = some row) : row.length <= n /\ ∀ (j : Nat) v, row[j]? = some v -> Wd v := by
 unfold rowsOk at h
 rw [List.all_eq_true] at h
 have := h row (List.mem_of_getElem? hr)
 unfold rowOk at this
 rw [Bool.and_eq_true, decide_eq_true_eq, List.all_eq_true] at this
 exact ⟨this.1, fun j v hv => by have := this.2 v (List.mem_of_getElem? hv); unfold wordOk at this; rw [decide_eq_true_eq] at this; exact this⟩
theorem Sta.fits_of {s : Sta} {n : Nat} (h : s.fits n = true) : (s.init.length : Int) <= s.cells /\ rowsOk 4 s.init = true /\ s.regs.length <= n /\ rowsOk 8 s.regs = true := by
 unfold Sta.fits at h
 simp only [Bool.and_eq_true, decide_eq_true_eq] at h
 exact ⟨h.1.1, h.1.2, h.2.1, h.2.2⟩
variable {sv mv : Array Value} {bs k : Nat} {Q : Exit -> Act -> World -> Prop} {rp : RmPl} {w : World} {mb : Nat} {K : Act -> World -> Prop} {ops : Array Oper} {R : Rm} {W W' : World} {P : Program}
theorem step_copy_cells (w : World) {o : Oper} {a : Act} {E : Prop} (hgd : o.guard = none) (s x : Operand) (t elem : TypeId) 
  (ho : o.op = .call { callee := .builtin .copy, args := #[s, x], argTypes := #[t, t] })
  (b off dLen dCap : Nat) (ad : Addr) (sLen sCap : Nat) (cs : List Value) (hs : a.eval s = .slice (some ⟨b, off, none⟩) dLen dCap) (hx : a.eval x = .slice (some ad) sLen sCap)
  (hu : P.underlying t = some (.slice elem)) (hz : (P.info? elem).map (·.size) = some 1) (hn : cs.length = Nat.min sLen dLen)
  (hsrc : ∀ j v, cs[j]? = some v -> w.cell? (ad.add j) = some v) (hc : ∀ j, j < cs.length -> (w.cell? ⟨b, off + j, none⟩).isSome = true) (hf : ∀ j, j < cs.length -> w.frozen? ⟨b, off + j, none⟩ = false) (h1 : ∀ v ∈ cs, v.oneCell' = true)
  (h : K (a.put o.dst (goInt cs.length)) (w.setCells b off cs)) :
  if Region.wanted o (yielded ops a.tmps) = true then Oper.wp P o a w K Q else E := by
 have hw : Region.wanted o (yielded ops a.tmps) = true := by simp [Region.wanted, hgd]
 rw [if_pos hw]
 have hr := run_copy_cells (P := P) w t t o.type elem b off dLen dCap ad sLen sCap cs hu hz hn hsrc hc hf h1
 unfold Oper.wp execOp
 simp only [ho, resolve, invoke, builtin, Sem.run_bind, Sem.run_pure, Result.andThen_ok, List.map_toArray, List.map_cons, List.map_nil, hs, hx, hr]
 exact h
theorem step_copy_none (w : World) {o : Oper} {a : Act} {E : Prop} (hgd : o.guard = none) (s x : Operand) (t elem : TypeId) 
  (ho : o.op = .call { callee := .builtin .copy, args := #[s, x], argTypes := #[t, t] })
  (d : Option Addr) (dLen dCap : Nat) (ad : Option Addr) (sCap : Nat) (hs : a.eval s = .slice d dLen dCap) (hx : a.eval x = .slice ad 0 sCap)
  (hu : P.underlying t = some (.slice elem)) (hz : (P.info? elem).map (·.size) = some 1)
  (h : K (a.put o.dst (goInt 0)) w) :
  if Region.wanted o (yielded ops a.tmps) = true then Oper.wp P o a w K Q else E := by
 have hw : Region.wanted o (yielded ops a.tmps) = true := by simp [Region.wanted, hgd]
 rw [if_pos hw]
 have hr := run_copy_none (P := P) w t t o.type elem d ad dLen dCap 0 sCap hu hz (by simp)
 unfold Oper.wp execOp
 simp only [ho, resolve, invoke, builtin, Sem.run_bind, Sem.run_pure, Result.andThen_ok, List.map_toArray, List.map_cons, List.map_nil, hs, hx, hr]
 exact h
theorem RmStep.lay {M : Mk} {i : Nat} {row : List Int} (h4 : row.length <= 4) : ∀ (l : List Int) (j : Nat) {w : World}, row.drop j = l -> j <= row.length -> i < (M.rowPart i row j).mem.ar.size -> RmAt rp (M.rowPart i row j).mem w ->
  RmStep rp (M.rowPart i row j).mem w rp (M.rowPart i row row.length).mem (w.setCells (rp.wb i) j (l.map (Value.int .i64)))
 | [], j, w, hl, hj, _, h => by
  have : j = row.length := by have := congrArg List.length hl; rw [List.length_drop] at this; simp at this; omega
  subst this
  exact RmStep.refl h
 | v :: l, j, w, hl, hj, hi, h => by
  have hjl : j < row.length := by have := congrArg List.length hl; rw [List.length_drop, List.length_cons] at this; omega
  have hv : row[j]? = some v := by have := List.getElem?_drop (xs := row) (i := j) (j := 0); rw [hl] at this; simpa using this.symm
  have k1 := RmStep.setWord h i j hi (by omega) v
  have e : (M.rowPart i row j).mem.setWord i j v = (M.rowPart i row (j + 1)).mem := by rw [<- Mk.rowPart_succ M i row j hv]; rfl
  rw [e] at k1
  have k2 := RmStep.lay h4 l (j + 1) (by rw [<- List.drop_drop, hl]; rfl) (by omega) (by exact hi) k1.at'
  exact k1.trans k2
structure Nm1 (w : World) (bs k : Nat) (sv mv : Array Value) (mb : Nat) (rp : RmPl) (R : Rm) (W : World) : Prop where
 mem : RmAt rp R W
 emb : rp.mb = mb
 fp : ∀ b, rp.fp R b -> w.heap.size <= b /\ b ≠ k /\ b ≠ bs
 gk : w.heap.size <= k
 gs : w.heap.size <= bs
 bk : W.heap[k]? = some (.cells mv 61)
 bb : W.heap[bs]? = some (.cells sv 45)
 bw : Below w.heap.size w W
theorem Nm1.lk {W : World} (h : Nm1 w bs k sv mv mb rp R W) : k < W.heap.size := by
 rcases Nat.lt_or_ge k W.heap.size with h' | h'
 ·exact h'
 ·have := h.bk; rw [Array.getElem?_eq_none h'] at this; cases this
theorem Nm1.ls {W : World} (h : Nm1 w bs k sv mv mb rp R W) : bs < W.heap.size := by
 rcases Nat.lt_or_ge bs W.heap.size with h' | h'
 ·exact h'
 ·have := h.bb; rw [Array.getElem?_eq_none h'] at this; cases this
theorem Nm1.step {rp rp' : RmPl} {R R' : Rm} (h : Nm1 w bs k sv mv mb rp R W) (q : RmStep rp R W rp' R' W') : Nm1 w bs k sv mv mb rp' R' W' where
 mem := q.at'
 emb := q.mb.trans h.emb
 fp b hb := by
  rcases q.fp b hb with e | e
  ·exact h.fp b e
  ·have h1 := h.lk
   have h2 := h.ls
   have h3 := h.bw.size
   exact ⟨by omega, by omega, by omega⟩
 gk := h.gk
 gs := h.gs
 bk := (q.turns.block k h.lk (fun _ e => (h.fp _ e).2.1 rfl)).trans h.bk
 bb := (q.turns.block bs h.ls (fun _ e => (h.fp _ e).2.2 rfl)).trans h.bb
 bw := h.bw.trans (q.turns.below h.bw.size (fun i o hi e => by have := (h.fp i e).1; omega))
theorem Nm1.below (h : Nm1 w bs k sv mv mb rp R W) (hb : Below W.heap.size W W') : Nm1 w bs k sv mv mb rp R W' where
 mem := h.mem.below hb
 emb := h.emb
 fp := h.fp
 gk := h.gk
 gs := h.gs
 bk := (hb.block _ h.lk).trans h.bk
 bb := (hb.block _ h.ls).trans h.bb
 bw := h.bw.trans (hb.mono h.bw.size)
end
section
open Go.RowKit Go.Extern.Stop Go.Stop Go.Extern Go.Maps Go.WideMaps Go.Sort
theorem thrInfo : ∃ i, Tryz.prog.info? 56 = some i /\ i.zero = some (.agg #[.slice none 0 0, .slice none 0 0, .int .i64 0]) /\ i.size = 3 /\ i.bytes = 56 := info_parts (by kernel_rfl)
theorem make8 (w : World) : (Instr.makeSlice 54 (.int .i64 8) (.int .i64 8)).run Tryz.prog w = .ok (.slice (some ⟨w.heap.size, 0, none⟩) 8 8) (w.alloc (.cells #[.int .i64 0, .int .i64 0, .int .i64 0, .int .i64 0, .int .i64 0, .int .i64 0, .int .i64 0, .int .i64 0] 3)) := by kernel_rfl
structure ThrV where
 ad : Option Addr
 n : Nat
 cap : Nat
 rb : Nat
deriving Inhabited
def ThrV.cells (x : ThrV) : List Value := [.slice x.ad x.n x.cap, .slice (some ⟨x.rb, 0, none⟩) 8 8, .int .i64 0]
def thrCells (T : List ThrV) : List Value := T.flatMap ThrV.cells
theorem thrCells_append (T : List ThrV) (x : ThrV) : thrCells (T ++ [x]) = thrCells T ++ x.cells := by simp [thrCells]
theorem thrCells_at {T : List ThrV} {i : Nat} {x : ThrV} (h : T[i]? = some x) : (thrCells T)[i * 3]? = some (.slice x.ad x.n x.cap) /\ (thrCells T)[i * 3 + 1]? = some (.slice (some ⟨x.rb, 0, none⟩) 8 8) /\ (thrCells T)[i * 3 + 2]? = some (.int .i64 0) := by
 induction T generalizing i with
 | nil => simp at h
 | cons y T ih =>
  have e : thrCells (y :: T) = .slice y.ad y.n y.cap :: .slice (some ⟨y.rb, 0, none⟩) 8 8 :: .int .i64 0 :: thrCells T := rfl
  rw [e]
  cases i with
  | zero => cases h; exact ⟨rfl, rfl, rfl⟩
  | succ i =>
   have := ih (i := i) (by simpa using h)
   rw [show (i + 1) * 3 = i * 3 + 1 + 1 + 1 by omega]
   simpa using this
structure Nm2 (w0 w : World) (bs k : Nat) (s : Sta) (cs : List (List Ins)) (sr : Value) (rp : RmPl) (R : Rm) (T : List ThrV) (v : Value) (W : World) : Prop where
 mem : RmAt rp R W
 fp : ∀ b, rp.fp R b -> w.heap.size <= b /\ b ≠ k /\ b ≠ bs
 gk : w.heap.size <= k
 gs : w.heap.size <= bs
 ks : k ≠ bs
 k0 : W.cell? ⟨k, 0, none⟩ = some (.pointer (some ⟨rp.mb, 0, none⟩))
 k1 : W.cell? ⟨k, 1, none⟩ = some v
 k2 : W.cell? ⟨k, 2, none⟩ = some (.slice none 0 0)
 k3 : W.cell? ⟨k, 3, none⟩ = some (.int .i64 0)
 fk : ∀ o, W.frozen? ⟨k, o, none⟩ = false
 s2 : W.cell? ⟨bs, 2, none⟩ = some sr
 bw : Below w.heap.size w W
 own : W.ownsRow w.heap.size 56 3 v T.length (thrCells T)
 vb : ∀ b, v.ownBlock = some b -> b ≠ k /\ b ≠ bs /\ ¬ rp.fp R b
 h0 : Below w0.heap.size w0 w
 code : ∀ (t : Nat) x, T[t]? = some x -> ∃ L, cs[t]? = some L /\ x.n = L.length /\ L.length <= x.cap /\ insAt x.ad L w0
 regs : ∀ (t : Nat) x, T[t]? = some x -> (∀ r, r < 8 -> W.cell? ⟨x.rb, r, none⟩ = some (.int .i64 (rowAt s.regs t r))) /\ (∀ o, W.frozen? ⟨x.rb, o, none⟩ = false)
 rne : ∀ (t : Nat) x, T[t]? = some x -> w.heap.size <= x.rb /\ x.rb ≠ k /\ x.rb ≠ bs /\ ¬ rp.fp R x.rb /\ v.ownBlock ≠ some x.rb
 dist : ∀ (t u : Nat) x y, T[t]? = some x -> T[u]? = some y -> t ≠ u -> x.rb ≠ y.rb
section
variable {w0 w : World} {bs k : Nat} {s : Sta} {cs : List (List Ins)} {sr : Value} {rp : RmPl} {R : Rm} {T : List ThrV} {v : Value} {W : World}
theorem Nm2.rlt (h : Nm2 w0 w bs k s cs sr rp R T v W) {t : Nat} {x : ThrV} (hx : T[t]? = some x) : x.rb < W.heap.size := bLt ((h.regs t x hx).1 0 (by decide))
theorem Nm2.below (h : Nm2 w0 w bs k s cs sr rp R T v W) {W' : World} (hb : Below W.heap.size W W') : Nm2 w0 w bs k s cs sr rp R T v W' :=
 have lk : k < W.heap.size := bLt h.k0
 ⟨h.mem.below hb, h.fp, h.gk, h.gs, h.ks, keep_cell hb h.k0, keep_cell hb h.k1, keep_cell hb h.k2, keep_cell hb h.k3, fun o => by rw [hb.frozen lk]; exact h.fk o, keep_cell hb h.s2, h.bw.trans (hb.mono h.bw.size),
  ownsRow_block h.own (fun b hb' => hb.block _ (h.own.lt b hb').2), h.vb, h.h0, h.code, fun t x hx => ⟨fun r hr => keep_cell hb ((h.regs t x hx).1 r hr), fun o => by rw [hb.frozen (h.rlt hx)]; exact (h.regs t x hx).2 o⟩, h.rne, h.dist⟩
theorem Nm2.add (h : Nm2 w0 w bs k s cs sr rp R T v W) {x : ThrV} {L : List Ins} (hL : cs[T.length]? = some L) (h1 : x.n = L.length) (h2 : L.length <= x.cap) (h3 : insAt x.ad L w0)
  {W0 : World} (hr0 : W0.heap.size <= x.rb) (hv0 : ∀ b, v.ownBlock = some b -> b < W0.heap.size) (hf0 : ∀ b, rp.fp R b -> b < W0.heap.size) (hrr0 : ∀ (t : Nat) y, T[t]? = some y -> y.rb < W0.heap.size) (hk0 : k < W0.heap.size) (hb0 : bs < W0.heap.size)
  (hr1 : ∀ r, r < 8 -> W.cell? ⟨x.rb, r, none⟩ = some (.int .i64 (rowAt s.regs T.length r))) (hr2 : ∀ o, W.frozen? ⟨x.rb, o, none⟩ = false) (hw0 : w.heap.size <= W0.heap.size)
  {W9 : World} {v' : Value} (hown : W9.ownsRow w.heap.size 56 3 v' (T.length + 1) (thrCells (T ++ [x]))) (hz : W.heap.size <= W9.heap.size)
  (hos : W9.os = W.os) (htp : W9.tape = W.tape) (hou : W9.output = W.output)
  (hg : ∀ b, b < W.heap.size -> v.ownBlock ≠ some b -> W9.heap[b]? = W.heap[b]?) (hat : ∀ b, v'.ownBlock = some b -> v.ownBlock = some b ∨ W.heap.size <= b) :
  Nm2 w0 w bs k s cs sr rp R (T ++ [x]) v' (W9.setCell ⟨k, 1, none⟩ v') := by
 have lk : k < W.heap.size := bLt h.k0
 have ls : bs < W.heap.size := bLt h.s2
 have nk : v.ownBlock ≠ some k := fun e => (h.vb k e).1 rfl
 have ns : v.ownBlock ≠ some bs := fun e => (h.vb bs e).2.1 rfl
 have xlt : x.rb < W.heap.size := bLt (hr1 0 (by decide))
 have xv : v.ownBlock ≠ some x.rb := fun e => by have := hv0 _ e; omega
 have c9 : ∀ b o, b < W.heap.size -> v.ownBlock ≠ some b -> W9.cell? ⟨b, o, none⟩ = W.cell? ⟨b, o, none⟩ := fun b o hb hn => World.cell?_of_block (hg b hb hn)
 have f9 : ∀ b o, b < W.heap.size -> v.ownBlock ≠ some b -> W9.frozen? ⟨b, o, none⟩ = W.frozen? ⟨b, o, none⟩ := fun b o hb hn => World.frozen?_of_block (hg b hb hn)
 have T1 : Turns (fun b _ => v.ownBlock = some b ∨ b = k) W (W9.setCell ⟨k, 1, none⟩ v') := by
  refine Turns.setCell (h := ?_) _ (Or.inr rfl)
  exact ⟨hos, htp, hou, hz, fun b hb ho => hg b hb (fun e => ho 0 (Or.inl e)), fun b o hb ho => c9 b o hb (fun e => ho (Or.inl e)), fun b o hb ho => f9 b o hb (fun e => ho (Or.inl e))⟩
 have nv : ∀ b, v'.ownBlock = some b -> b ≠ k /\ b ≠ bs /\ ¬ rp.fp R b /\ b ≠ x.rb := fun b e => by
  rcases hat b e with e1 | e1
  ·obtain ⟨a1, a2, a3⟩ := h.vb b e1
   exact ⟨a1, a2, a3, fun e2 => by have := hv0 b e1; omega⟩
  ·exact ⟨by omega, by omega, fun e2 => by have := h.mem.fp_lt e2; omega, by omega⟩
 have get : ∀ {t : Nat} {y : ThrV}, (T ++ [x])[t]? = some y -> (T[t]? = some y /\ t < T.length) ∨ (y = x /\ t = T.length) := fun {t y} hy => by
  rcases Nat.lt_or_ge t T.length with h' | h'
  ·rw [List.getElem?_append_left h'] at hy; exact Or.inl ⟨hy, h'⟩
  ·rw [List.getElem?_append_right h'] at hy
   cases hd : t - T.length with
   | zero => rw [hd] at hy; simp at hy; exact Or.inr ⟨hy.symm, by omega⟩
   | succ n => rw [hd] at hy; simp at hy
 refine ⟨h.mem.turns T1 (fun b o e1 e2 => ?_), h.fp, h.gk, h.gs, h.ks, ?_, World.cell?_setCell_same _ _ _ ((c9 k 1 lk nk).trans h.k1), ?_, ?_, fun o => by rw [World.frozen?_setCell, f9 k o lk nk]; exact h.fk o, ?_, ?_, ?_, fun b e => ⟨(nv b e).1, (nv b e).2.1, (nv b e).2.2.1⟩, h.h0, fun t y hy => ?_, fun t y hy => ?_, fun t y hy => ?_, fun t u y z hy hz' hne => ?_⟩
 ·rcases e2 with e2 | e2
  ·exact (h.vb b e2).2.2 e1
  ·exact (h.fp b e1).2.1 e2
 ·exact cell_ne ((c9 k 0 lk nk).trans h.k0) (Or.inr (by decide))
 ·exact cell_ne ((c9 k 2 lk nk).trans h.k2) (Or.inr (by decide))
 ·exact cell_ne ((c9 k 3 lk nk).trans h.k3) (Or.inr (by decide))
 ·exact cell_ne ((c9 bs 2 ls ns).trans h.s2) (Or.inl h.ks.symm)
 ·refine h.bw.trans (T1.below h.bw.size (fun b o hb e => ?_))
  rcases e with e | e
  ·have := (h.own.lt b e).1; omega
  ·have := h.gk; omega
 ·rw [List.length_append]
  exact ownsRow_block hown (fun b e => Below.heap_setCell _ _ _ _ (nv b e).1)
 ·rcases get hy with ⟨h', -⟩ | ⟨rfl, rfl⟩
  ·exact h.code t y h'
  ·exact ⟨L, hL, h1, h2, h3⟩
 ·rcases get hy with ⟨h', -⟩ | ⟨rfl, rfl⟩
  ·obtain ⟨a1, a2, a3, a4, a5⟩ := h.rne t y h'
   have l := h.rlt h'
   exact ⟨fun r hr => cell_ne ((c9 _ r l a5).trans ((h.regs t y h').1 r hr)) (Or.inl a2), fun o => by rw [World.frozen?_setCell, f9 _ o l a5]; exact (h.regs t y h').2 o⟩
  ·exact ⟨fun r hr => cell_ne ((c9 _ r xlt xv).trans (hr1 r hr)) (Or.inl (by omega)), fun o => by rw [World.frozen?_setCell, f9 _ o xlt xv]; exact hr2 o⟩
 ·rcases get hy with ⟨h', -⟩ | ⟨rfl, rfl⟩
  ·obtain ⟨a1, a2, a3, a4, a5⟩ := h.rne t y h'
   refine ⟨a1, a2, a3, a4, fun e => ?_⟩
   rcases hat _ e with e1 | e1
   ·exact a5 e1
   ·have := h.rlt h'; omega
  ·exact ⟨by omega, by omega, by omega, fun e => by have := hf0 _ e; omega, fun e => (nv _ e).2.2.2 rfl⟩
 ·rcases get hy with ⟨h', -⟩ | ⟨rfl, e1⟩
  ·rcases get hz' with ⟨h'', -⟩ | ⟨rfl, e2⟩
   ·exact h.dist t u y z h' h'' hne
   ·have := hrr0 t y h'; omega
  ·rcases get hz' with ⟨h'', -⟩ | ⟨rfl, e2⟩
   ·have := hrr0 u z h''; omega
   ·omega
theorem Nm2.done (h : Nm2 w0 w bs k s cs sr rp (s.mach cs.length).mem T v W) (hn : T.length = cs.length) (h1 : 1 <= cs.length) (h6 : cs.length <= 6) : ∃ p : RkPl, p.k = k /\ p.B = w0.heap.size /\ RkAt cs p (s.mach cs.length) W /\ ∀ b, p.fp cs.length (s.mach cs.length).mem b -> w.heap.size <= b := by
 obtain ⟨ad, cap, hv, hc, hm, hcell⟩ := ownsRow_shape h.own
 have get : ∀ t, t < cs.length -> ∃ x, T[t]? = some x := fun t ht => ⟨_, List.getElem?_eq_getElem (by omega)⟩
 obtain ⟨x0, hx0⟩ := get 0 h1
 obtain ⟨g, hg, -⟩ := hcell (0 * 3) _ (thrCells_at hx0).1
 subst hg
 have cl : ∀ j u, (thrCells T)[j]? = some u -> W.cell? ⟨g, j, none⟩ = some u := fun j u hj => by
  obtain ⟨g', e1, e2⟩ := hcell j u hj
  cases e1; exact e2
 have gb : v.ownBlock = some g := by rw [hv]; rfl
 have gl := (h.own.lt g gb).2
 have gd : ∀ t x, T[t]? = some x -> T.getD t default = x := fun t x hx => by rw [List.getD_eq_getElem?_getD, hx]; rfl
 have frz : ∀ o, W.frozen? ⟨g, o, none⟩ = false := fun o => by
  rcases h.own.2 with ⟨e, -⟩ | ⟨g', cap', cur, e, -, hh, -⟩
  ·rw [hv] at e; cases e
  ·rw [hv] at e; cases e
   simp [World.frozen?, hh]
 obtain ⟨v1, v2, v3⟩ := h.vb g gb
 refine ⟨⟨w0.heap.size, rp, k, g, cap, fun t => (T.getD t default).ad, fun t => (T.getD t default).cap, fun t => (T.getD t default).rb, fun _ => 8, .slice none 0 0⟩, rfl, rfl, ?_⟩
 have rx : ∀ t, t < cs.length -> ∃ x, T[t]? = some x /\ (T.getD t default).rb = x.rb := fun t ht => by
  obtain ⟨x, hx⟩ := get t ht
  exact ⟨x, hx, by rw [gd t x hx]⟩
 have cx : ∀ (t : Nat) L, cs[t]? = some L -> ∃ x, T[t]? = some x /\ T.getD t default = x /\ x.n = L.length /\ L.length <= x.cap /\ insAt x.ad L w0 := fun t L hL => by
  obtain ⟨x, hx⟩ := get t (List.getElem?_eq_some_iff.1 hL).1
  obtain ⟨L', e1, e2, e3, e4⟩ := h.code t x hx
  rw [hL] at e1; cases e1
  exact ⟨x, hx, gd t x hx, e2, e3, e4⟩
 have hge : ∀ b, (⟨w0.heap.size, rp, k, g, cap, fun t => (T.getD t default).ad, fun t => (T.getD t default).cap, fun t => (T.getD t default).rb, fun _ => 8, .slice none 0 0⟩ : RkPl).fp cs.length (s.mach cs.length).mem b -> w.heap.size <= b := fun b hb => by
  rcases hb with e | e | ⟨t, ht, e⟩ | e | e
  ·rw [e]; exact h.gk
  ·rw [e]; exact (h.own.lt g gb).1
  ·obtain ⟨x, hx, e2⟩ := rx t ht
   have e3 : b = (T.getD t default).rb := e
   rw [e3, e2]; exact (h.rne t x hx).1
  ·cases e
  ·exact (h.fp b e).1
 refine ⟨?_, hge⟩
 exact {
  rc := ⟨w0, fun t L hL => by obtain ⟨x, -, e, -, -, e4⟩ := cx t L hL; show insAt (T.getD t default).ad L w0; rw [e]; exact e4, rfl, below_step h.h0 h.bw⟩
  mem := h.mem
  thr := rfl
  few := h6
  tcap := by show cs.length <= cap; omega
  mM := h.k0
  mT := by rw [h.k1, hv, hn]
  mMarks := h.k2
  mFaults := h.k3
  tCode := fun t L hL => by
   obtain ⟨x, hx, e, e2, -⟩ := cx t L hL
   show W.cell? ⟨g, t * 3, none⟩ = some (.slice (T.getD t default).ad L.length (T.getD t default).cap)
   rw [e, <- e2]
   exact cl _ _ (thrCells_at hx).1
  ccap := fun t L hL => by obtain ⟨x, -, e, -, e3, -⟩ := cx t L hL; show L.length <= (T.getD t default).cap; rw [e]; exact e3
  tRegs := fun t ht => by
   obtain ⟨x, hx⟩ := get t ht
   show W.cell? ⟨g, t * 3 + 1, none⟩ = some (.slice (some ⟨(T.getD t default).rb, 0, none⟩) 8 8)
   rw [gd t x hx]
   exact cl _ _ (thrCells_at hx).2.1
  tAt := fun t ht => by
   obtain ⟨x, hx⟩ := get t ht
   exact cl _ _ (thrCells_at hx).2.2
  rcap := fun _ _ => Nat.le_refl _
  regs := fun t r ht hr => by
   obtain ⟨x, hx, e⟩ := rx t ht
   show W.cell? ⟨(T.getD t default).rb, r, none⟩ = some (.int .i64 (rowAt s.regs t r))
   rw [e]
   exact (h.regs t x hx).1 r hr
  own := World.ownsRow_nil _ _ _ _
  fk := h.fk
  ft := frz
  fr := fun t o ht => by obtain ⟨x, hx, e⟩ := rx t ht; show W.frozen? ⟨(T.getD t default).rb, o, none⟩ = false; rw [e]; exact (h.regs t x hx).2 o
  lt' := gl
  d1 := fun e => v1 e.symm
  d2 := fun t ht => by
   obtain ⟨x, hx, e⟩ := rx t ht
   obtain ⟨a1, a2, a3, a4, a5⟩ := h.rne t x hx
   show (T.getD t default).rb ≠ k /\ (T.getD t default).rb ≠ g
   rw [e]
   exact ⟨a2, fun e2 => a5 (by rw [gb, e2])⟩
  d3 := fun t u ht hu hne => by
   obtain ⟨x, hx, e⟩ := rx t ht
   obtain ⟨y, hy, e2⟩ := rx u hu
   show (T.getD t default).rb ≠ (T.getD u default).rb
   rw [e, e2]
   exact h.dist t u x y hx hy hne
  d4 := fun b e => by cases e
  d5 := fun b hb => ⟨(h.fp b hb).2.1, fun e => v3 (by have e' : b = g := e; rw [<- e']; exact hb), fun t ht => by
   obtain ⟨x, hx, e⟩ := rx t ht
   show b ≠ (T.getD t default).rb
   rw [e]
   exact fun e2 => (h.rne t x hx).2.2.2.1 (by rw [<- e2]; exact hb), fun e => by cases e⟩
  ge := fun b hb => Nat.le_trans h.h0.size (hge b hb) }
end
end
end Go.Proofs.YtaiigfcfmcicjaaGreatDoor
