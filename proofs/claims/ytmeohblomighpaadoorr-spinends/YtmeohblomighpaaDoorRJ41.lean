import Derived.Test.YtmeohblomighpaaDoorRJ40
import Derived.Test.YtmeohblomighpaaDoorRJ24

/- StG -/
namespace Go.Proofs.YtmeohblomighpaaDoorR
open Go.RowKit Go.Extern.Stop Go.Stop Go.Extern Go.Maps Go.WideMaps Go.Sort

theorem rowOk_at {R : List (List Int)} {n : Nat} (h : rowsOk n R = true) {i : Nat} {row : List Int} (hr : R[i]? = some row) : row.length ≤ n ∧ ∀ (j : Nat) v, row[j]? = some v → Wd v := by
  unfold rowsOk at h
  rw [List.all_eq_true] at h
  have := h row (List.mem_of_getElem? hr)
  unfold rowOk at this
  rw [Bool.and_eq_true, decide_eq_true_eq, List.all_eq_true] at this
  exact ⟨this.1, fun j v hv => by have := this.2 v (List.mem_of_getElem? hv); unfold wordOk at this; rw [decide_eq_true_eq] at this; exact this⟩
theorem Sta.fits_of {s : Sta} {n : Nat} (h : s.fits n = true) : (s.init.length : Int) ≤ s.cells ∧ rowsOk 4 s.init = true ∧ s.regs.length ≤ n ∧ rowsOk 8 s.regs = true := by
  unfold Sta.fits at h
  simp only [Bool.and_eq_true, decide_eq_true_eq] at h
  exact ⟨h.1.1, h.1.2, h.2.1, h.2.2⟩

end Go.Proofs.YtmeohblomighpaaDoorR

/- RsC -/
namespace Go.Proofs.YtmeohblomighpaaDoorR
open Go.RowKit Go.Extern.Stop Go.Stop Go.Extern Go.Maps Go.WideMaps Go.Sort

theorem step_copy_cells {P : Program} (w : World) {ops : Array Oper} {o : Oper} {a : Act} {K : Act → World → Prop} {Q : Exit → Act → World → Prop} {E : Prop} (hgd : o.guard = none) (s x : Operand) (t elem : TypeId)
    (ho : o.op = .call { callee := .builtin .copy, args := #[s, x], argTypes := #[t, t] })
    (b off dLen dCap : Nat) (ad : Addr) (sLen sCap : Nat) (cs : List Value) (hs : a.eval s = .slice (some ⟨b, off, none⟩) dLen dCap) (hx : a.eval x = .slice (some ad) sLen sCap)
    (hu : P.underlying t = some (.slice elem)) (hz : (P.info? elem).map (·.size) = some 1) (hn : cs.length = Nat.min sLen dLen)
    (hsrc : ∀ j v, cs[j]? = some v → w.cell? (ad.add j) = some v) (hc : ∀ j, j < cs.length → (w.cell? ⟨b, off + j, none⟩).isSome = true) (hf : ∀ j, j < cs.length → w.frozen? ⟨b, off + j, none⟩ = false) (h1 : ∀ v ∈ cs, v.oneCell' = true)
    (h : K (a.put o.dst (goInt cs.length)) (w.setCells b off cs)) :
    if Region.wanted o (yielded ops a.tmps) = true then Oper.wp P o a w K Q else E := by
  have hw : Region.wanted o (yielded ops a.tmps) = true := by simp [Region.wanted, hgd]
  rw [if_pos hw]
  have hr := run_copy_cells (P := P) w t t o.type elem b off dLen dCap ad sLen sCap cs hu hz hn hsrc hc hf h1
  unfold Oper.wp execOp
  simp only [ho, resolve, invoke, builtin, Sem.run_bind, Sem.run_pure, Result.andThen_ok, List.map_toArray, List.map_cons, List.map_nil, hs, hx, hr]
  exact h
theorem step_copy_none {P : Program} (w : World) {ops : Array Oper} {o : Oper} {a : Act} {K : Act → World → Prop} {Q : Exit → Act → World → Prop} {E : Prop} (hgd : o.guard = none) (s x : Operand) (t elem : TypeId)
    (ho : o.op = .call { callee := .builtin .copy, args := #[s, x], argTypes := #[t, t] })
    (d : Option Addr) (dLen dCap : Nat) (ad : Option Addr) (sCap : Nat) (hs : a.eval s = .slice d dLen dCap) (hx : a.eval x = .slice ad 0 sCap)
    (hu : P.underlying t = some (.slice elem)) (hz : (P.info? elem).map (·.size) = some 1)
    (h : K (a.put o.dst (goInt 0)) w) :
    if Region.wanted o (yielded ops a.tmps) = true then Oper.wp P o a w K Q else E := by
  have hw : Region.wanted o (yielded ops a.tmps) = true := by simp [Region.wanted, hgd]
  rw [if_pos hw]
  have hr := run_copy_none (P := P) w t t o.type elem d ad dLen dCap 0 sCap hu hz (by simp)
  unfold Oper.wp execOp
  simp only [ho, resolve, invoke, builtin, Sem.run_bind, Sem.run_pure, Result.andThen_ok, List.map_toArray, List.map_cons, List.map_nil, hs, hx, hr]
  exact h

theorem RmStep.lay {rp : RmPl} {M : Mk} {i : Nat} {row : List Int} (h4 : row.length ≤ 4) : ∀ (l : List Int) (j : Nat) {w : World}, row.drop j = l → j ≤ row.length → i < (M.rowPart i row j).mem.ar.size → RmAt rp (M.rowPart i row j).mem w →
    RmStep rp (M.rowPart i row j).mem w rp (M.rowPart i row row.length).mem (w.setCells (rp.wb i) j (l.map (Value.int .i64)))
  | [], j, w, hl, hj, _, h => by
    have : j = row.length := by have := congrArg List.length hl; rw [List.length_drop] at this; simp at this; omega
    subst this
    exact RmStep.refl h
  | v :: l, j, w, hl, hj, hi, h => by
    have hjl : j < row.length := by have := congrArg List.length hl; rw [List.length_drop, List.length_cons] at this; omega
    have hv : row[j]? = some v := by have := List.getElem?_drop (xs := row) (i := j) (j := 0); rw [hl] at this; simpa using this.symm
    have k1 := RmStep.setWord h i j hi (by omega) v
    have e : (M.rowPart i row j).mem.setWord i j v = (M.rowPart i row (j + 1)).mem := by rw [← Mk.rowPart_succ M i row j hv]; rfl
    rw [e] at k1
    have k2 := RmStep.lay h4 l (j + 1) (by rw [← List.drop_drop, hl]; rfl) (by omega) (by exact hi) k1.at'
    exact k1.trans k2

structure Nm1 (w : World) (bs k : Nat) (sv mv : Array Value) (mb : Nat) (rp : RmPl) (R : Rm) (W : World) : Prop where
  mem : RmAt rp R W
  emb : rp.mb = mb
  fp : ∀ b, rp.fp R b → w.heap.size ≤ b ∧ b ≠ k ∧ b ≠ bs
  gk : w.heap.size ≤ k
  gs : w.heap.size ≤ bs
  bk : W.heap[k]? = some (.cells mv 53)
  bb : W.heap[bs]? = some (.cells sv 39)
  bw : Below w.heap.size w W
theorem Nm1.lk {w : World} {bs k : Nat} {sv mv : Array Value} {mb : Nat} {rp : RmPl} {R : Rm} {W : World} (h : Nm1 w bs k sv mv mb rp R W) : k < W.heap.size := by
  rcases Nat.lt_or_ge k W.heap.size with h' | h'
  · exact h'
  · have := h.bk; rw [Array.getElem?_eq_none h'] at this; cases this
theorem Nm1.ls {w : World} {bs k : Nat} {sv mv : Array Value} {mb : Nat} {rp : RmPl} {R : Rm} {W : World} (h : Nm1 w bs k sv mv mb rp R W) : bs < W.heap.size := by
  rcases Nat.lt_or_ge bs W.heap.size with h' | h'
  · exact h'
  · have := h.bb; rw [Array.getElem?_eq_none h'] at this; cases this
theorem Nm1.step {w : World} {bs k : Nat} {sv mv : Array Value} {mb : Nat} {rp rp' : RmPl} {R R' : Rm} {W W' : World} (h : Nm1 w bs k sv mv mb rp R W) (q : RmStep rp R W rp' R' W') : Nm1 w bs k sv mv mb rp' R' W' where
  mem := q.at'
  emb := q.mb.trans h.emb
  fp b hb := by
    rcases q.fp b hb with e | e
    · exact h.fp b e
    · have h1 := h.lk
      have h2 := h.ls
      have h3 := h.bw.size
      exact ⟨by omega, by omega, by omega⟩
  gk := h.gk
  gs := h.gs
  bk := (q.turns.block k h.lk (fun _ e => (h.fp _ e).2.1 rfl)).trans h.bk
  bb := (q.turns.block bs h.ls (fun _ e => (h.fp _ e).2.2 rfl)).trans h.bb
  bw := h.bw.trans (q.turns.below h.bw.size (fun i o hi e => by have := (h.fp i e).1; omega))
theorem Nm1.below {w : World} {bs k : Nat} {sv mv : Array Value} {mb : Nat} {rp : RmPl} {R : Rm} {W W' : World} (h : Nm1 w bs k sv mv mb rp R W) (hb : Below W.heap.size W W') : Nm1 w bs k sv mv mb rp R W' where
  mem := h.mem.below hb
  emb := h.emb
  fp := h.fp
  gk := h.gk
  gs := h.gs
  bk := (hb.block _ h.lk).trans h.bk
  bb := (hb.block _ h.ls).trans h.bb
  bw := h.bw.trans (hb.mono h.bw.size)
end Go.Proofs.YtmeohblomighpaaDoorR
