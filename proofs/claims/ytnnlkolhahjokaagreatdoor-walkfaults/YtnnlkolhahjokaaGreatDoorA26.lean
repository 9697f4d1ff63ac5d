import Derived.Test.YtnnlkolhahjokaaGreatDoorA25
import Derived.Laws.IdiomCopy
import Derived.Laws.Rows

/- StF -/
namespace Go.Proofs.YtnnlkolhahjokaaGreatDoor
open Go.RowKit Go.Extern.Stop Go.Stop Go.Extern Go.Maps Go.WideMaps Go.Sort

theorem rowAt_take {R : List (List Int)} {t : Nat} {row : List Int} (h : R[t]? = some row) (u k : Nat) : rowAt (R.take (t + 1)) u k = if u = t then row.getD k 0 else rowAt (R.take t) u k := by
  have ht := (List.getElem?_eq_some_iff.1 h).1
  unfold rowAt
  by_cases e : u = t
  · rw [if_pos e, e]
    congr 1
    rw [List.getD_eq_getElem?_getD, List.getElem?_take, if_pos (by omega), h]; rfl
  · rw [if_neg e]
    congr 1
    rw [List.getD_eq_getElem?_getD, List.getD_eq_getElem?_getD, List.getElem?_take, List.getElem?_take]
    by_cases e2 : u < t
    · rw [if_pos (by omega), if_pos e2]
    · rw [if_neg (by omega), if_neg e2]
theorem rowAt_out {R : List (List Int)} {t u : Nat} (h : t ≤ u) (k : Nat) : rowAt (R.take t) u k = 0 := by
  unfold rowAt
  have : (R.take t).getD u [] = [] := by rw [List.getD_eq_getElem?_getD, List.getElem?_take, if_neg (by omega)]; rfl
  rw [this]; rfl

def Sta.at1 (s : Sta) (n i t : Nat) : Mk where
  mem := { Rm.fresh s.cells.toNat n with ar := (Rm.fresh s.cells.toNat n).ar.filled (s.init.take i) }
  regs := rowAt (s.regs.take t)
  pc _ := 0
  marks := []
  faults := 0
theorem Sta.at1_end (s : Sta) (n : Nat) : s.at1 n s.init.length s.regs.length = s.mach n := by
  unfold Sta.at1 Sta.mach
  rw [List.take_length, List.take_length]
theorem Ar.filled_nil (s : Ar) : s.filled [] = s := by
  unfold Ar.filled
  simp

def Mk.setRegs (m : Mk) (t r : Nat) : List Int → Mk
  | [] => m
  | v :: l => (m.setReg t r v).setRegs t (r + 1) l
theorem Mk.setRegs_regs : ∀ (l : List Int) (m : Mk) (t r u k : Nat), (m.setRegs t r l).regs u k = if u = t ∧ r ≤ k ∧ k < r + l.length then l.getD (k - r) 0 else m.regs u k
  | [], m, t, r, u, k => by rw [if_neg (by simp)]; rfl
  | v :: l, m, t, r, u, k => by
    show ((m.setReg t r v).setRegs t (r + 1) l).regs u k = _
    rw [Mk.setRegs_regs l]
    simp only [Mk.setReg, List.length_cons]
    by_cases h1 : u = t ∧ r + 1 ≤ k ∧ k < r + 1 + l.length
    · rw [if_pos h1, if_pos (by omega)]
      rw [show k - r = (k - (r + 1)) + 1 by omega]; rfl
    · rw [if_neg h1]
      by_cases h2 : u = t ∧ k = r
      · rw [if_pos h2, if_pos (by omega), h2.2, Nat.sub_self]; rfl
      · rw [if_neg h2, if_neg (by omega)]
theorem Mk.setRegs_other : ∀ (l : List Int) (m : Mk) (t r : Nat), (m.setRegs t r l).mem = m.mem ∧ (m.setRegs t r l).pc = m.pc ∧ (m.setRegs t r l).marks = m.marks ∧ (m.setRegs t r l).faults = m.faults
  | [], _, _, _ => ⟨rfl, rfl, rfl, rfl⟩
  | v :: l, m, t, r => Mk.setRegs_other l (m.setReg t r v) t (r + 1)
theorem Mk.ext' {m m' : Mk} (h1 : m.mem = m'.mem) (h2 : m.regs = m'.regs) (h3 : m.pc = m'.pc) (h4 : m.marks = m'.marks) (h5 : m.faults = m'.faults) : m = m' := by
  cases m; cases m'; simp only at h1 h2 h3 h4 h5; rw [h1, h2, h3, h4, h5]
theorem Sta.at1_regs {s : Sta} {n i t : Nat} {row : List Int} (h : s.regs[t]? = some row) : (s.at1 n i t).setRegs t 0 row = s.at1 n i (t + 1) := by
  obtain ⟨h1, h2, h3, h4⟩ := Mk.setRegs_other row (s.at1 n i t) t 0
  refine Mk.ext' h1 ?_ h2 h3 h4
  funext u k
  rw [Mk.setRegs_regs]
  show _ = rowAt (s.regs.take (t + 1)) u k
  rw [rowAt_take h]
  show (if _ then _ else rowAt (s.regs.take t) u k) = _
  by_cases e : u = t
  · rw [if_pos e]
    by_cases e2 : k < row.length
    · rw [if_pos (by omega), Nat.sub_zero]
    · rw [if_neg (by omega), e, rowAt_out (Nat.le_refl _), List.getD_eq_getElem?_getD, List.getElem?_eq_none (by omega)]; rfl
  · rw [if_neg (fun h => e h.1), if_neg e]

def Mk.rowPart (m : Mk) (i : Nat) (row : List Int) (j : Nat) : Mk :=
  m.setMem { m.mem.give i with ar := { (m.mem.give i).ar with words := fun c k => if c = i ∧ k < j then row.getD k 0 else (m.mem.give i).ar.words c k } }
theorem Mk.rowPart_zero (m : Mk) (i : Nat) (row : List Int) : m.rowPart i row 0 = m.setMem (m.mem.give i) := by
  unfold Mk.rowPart
  have : (fun c k => if c = i ∧ k < 0 then row.getD k 0 else (m.mem.give i).ar.words c k) = (m.mem.give i).ar.words := by
    funext c k; rw [if_neg (by omega)]
  rw [this]
theorem Mk.rowPart_succ (m : Mk) (i : Nat) (row : List Int) (j : Nat) {v : Int} (hv : row[j]? = some v) : (m.rowPart i row j).setMem ((m.rowPart i row j).mem.setWord i j v) = m.rowPart i row (j + 1) := by
  unfold Mk.rowPart Mk.setMem Rm.setWord Ar.setWord
  simp only
  congr 3
  funext c k
  by_cases h1 : c = i ∧ k = j
  · rw [if_pos h1, if_pos (by omega), h1.2, List.getD_eq_getElem?_getD, hv]; rfl
  · rw [if_neg h1]
    by_cases h2 : c = i ∧ k < j
    · rw [if_pos h2, if_pos (by omega)]
    · rw [if_neg h2, if_neg (by omega)]
theorem Sta.at1_row {s : Sta} {n i t : Nat} {row : List Int} (h : s.init[i]? = some row) (h4 : row.length ≤ 4) : (s.at1 n i t).rowPart i row row.length = s.at1 n (i + 1) t := by
  have hi := (List.getElem?_eq_some_iff.1 h).1
  have hl : (s.init.take i).length = i := by rw [List.length_take]; omega
  have hl2 : (s.init.take (i + 1)).length = i + 1 := by rw [List.length_take]; omega
  refine Mk.ext' ?_ rfl rfl rfl rfl
  show Rm.mk _ _ _ = Rm.mk _ _ _
  congr 1
  show Ar.mk _ _ _ _ = Ar.mk _ _ _ _
  congr 1
  · funext c k
    show (if _ then _ else if c = i ∧ k < 4 then 0 else if c < (s.init.take i).length ∧ k < 4 then rowAt (s.init.take i) c k else _) = (if c < (s.init.take (i + 1)).length ∧ k < 4 then rowAt (s.init.take (i + 1)) c k else _)
    rw [hl, hl2, rowAt_take h]
    by_cases e : c = i
    · by_cases e2 : k < row.length
      · rw [if_pos ⟨e, e2⟩, if_pos (by omega), if_pos e]
      · rw [if_neg (by omega)]
        by_cases e3 : k < 4
        · rw [if_pos ⟨e, e3⟩, if_pos (by omega), if_pos e, List.getD_eq_getElem?_getD, List.getElem?_eq_none (by omega)]; rfl
        · rw [if_neg (by omega), if_neg (by omega), if_neg (by omega)]
    · rw [if_neg (by omega), if_neg (by omega), if_neg e]
      by_cases e2 : c < i ∧ k < 4
      · rw [if_pos e2, if_pos (by omega)]
      · rw [if_neg e2, if_neg (by omega)]
  · funext c
    show (if c = i then true else if c < (s.init.take i).length then true else _) = (if c < (s.init.take (i + 1)).length then true else _)
    rw [hl, hl2]
    by_cases e : c = i
    · rw [if_pos e, if_pos (by omega)]
    · rw [if_neg e]
      by_cases e2 : c < i
      · rw [if_pos e2, if_pos (by omega)]
      · rw [if_neg e2, if_neg (by omega)]
  · funext c
    show (if c = i then (if i < (s.init.take i).length then 1 else _) + 1 else if c < (s.init.take i).length then 1 else _) = (if c < (s.init.take (i + 1)).length then 1 else _)
    rw [hl, hl2]
    by_cases e : c = i
    · rw [if_pos e, if_neg (by omega), if_pos (by omega)]; rfl
    · rw [if_neg e]
      by_cases e2 : c < i
      · rw [if_pos e2, if_pos (by omega)]
      · rw [if_neg e2, if_neg (by omega)]
theorem freeFrom_hit {there : Nat → Bool} : ∀ (n j i : Nat), j ≤ i → i < j + n → there i = false → (∀ k, j ≤ k → k < i → there k = true) → freeFrom there j n = some i
  | 0, j, i, h1, h2, _, _ => by omega
  | n + 1, j, i, h1, h2, h3, h4 => by
    unfold freeFrom
    by_cases e : j = i
    · rw [e, h3, if_neg (by decide)]
    · rw [h4 j (Nat.le_refl _) (by omega), if_pos rfl]
      exact freeFrom_hit n (j + 1) i (by omega) (by omega) h3 (fun k h5 h6 => h4 k (by omega) h6)
theorem Sta.at1_free {s : Sta} {n i t : Nat} (hi : i < s.init.length) (hc : (s.init.length : Int) ≤ s.cells) : (s.at1 n i t).mem.ar.free? = some i := by
  have hl : (s.init.take i).length = i := by rw [List.length_take]; omega
  refine freeFrom_hit _ 0 i (Nat.zero_le _) (by show i < 0 + s.cells.toNat; omega) ?_ (fun k _ hk => ?_)
  · show (if i < (s.init.take i).length then true else false) = false
    rw [hl, if_neg (by omega)]
  · show (if k < (s.init.take i).length then true else false) = true
    rw [hl, if_pos hk]
theorem Sta.at1_given {s : Sta} {n i t : Nat} (hi : i < s.init.length) : (s.at1 n i t).mem.ar.given i = 0 := by
  have hl : (s.init.take i).length = i := by rw [List.length_take]; omega
  show (if i < (s.init.take i).length then 1 else 0) = 0
  rw [hl, if_neg (by omega)]

theorem wpList_copy_cells {P : Program} {ops : Array Oper} {rest : List Oper} {o : Oper} {a : Act} {w : World} {Q : Exit → Act → World → Prop} (hgd : o.guard = none) (s x : Operand) (t elem : TypeId)
    (ho : o.op = .call { callee := .builtin .copy, args := #[s, x], argTypes := #[t, t] })
    (b off dLen dCap : Nat) (ad : Addr) (sLen sCap : Nat) (cs : List Value) (hs : a.eval s = .slice (some ⟨b, off, none⟩) dLen dCap) (hx : a.eval x = .slice (some ad) sLen sCap)
    (hu : P.underlying t = some (.slice elem)) (hz : (P.info? elem).map (·.size) = some 1) (hn : cs.length = Nat.min sLen dLen)
    (hsrc : ∀ j v, cs[j]? = some v → w.cell? (ad.add j) = some v) (hc : ∀ j, j < cs.length → (w.cell? ⟨b, off + j, none⟩).isSome = true) (hf : ∀ j, j < cs.length → w.frozen? ⟨b, off + j, none⟩ = false) (h1 : ∀ v ∈ cs, v.oneCell' = true)
    (h : wpList P ops Q rest (a.put o.dst (goInt cs.length)) (w.setCells b off cs)) : wpList P ops Q (o :: rest) a w := by
  refine wpList_plain hgd fun K hK => ?_
  have hr := run_copy_cells (P := P) w t t o.type elem b off dLen dCap ad sLen sCap cs hu hz hn hsrc hc hf h1
  unfold Oper.wp execOp
  simp only [ho, resolve, invoke, builtin, Sem.run_bind, Sem.run_pure, Result.andThen_ok, List.map_toArray, List.map_cons, List.map_nil, hs, hx, hr]
  exact hK _ _ h
theorem wpList_copy_none {P : Program} {ops : Array Oper} {rest : List Oper} {o : Oper} {a : Act} {w : World} {Q : Exit → Act → World → Prop} (hgd : o.guard = none) (s x : Operand) (t elem : TypeId)
    (ho : o.op = .call { callee := .builtin .copy, args := #[s, x], argTypes := #[t, t] })
    (d : Option Addr) (dLen dCap : Nat) (ad : Option Addr) (sCap : Nat) (hs : a.eval s = .slice d dLen dCap) (hx : a.eval x = .slice ad 0 sCap)
    (hu : P.underlying t = some (.slice elem)) (hz : (P.info? elem).map (·.size) = some 1)
    (h : wpList P ops Q rest (a.put o.dst (goInt 0)) w) : wpList P ops Q (o :: rest) a w := by
  refine wpList_plain hgd fun K hK => ?_
  have hr := run_copy_none (P := P) w t t o.type elem d ad dLen dCap 0 sCap hu hz (by simp)
  unfold Oper.wp execOp
  simp only [ho, resolve, invoke, builtin, Sem.run_bind, Sem.run_pure, Result.andThen_ok, List.map_toArray, List.map_cons, List.map_nil, hs, hx, hr]
  exact hK _ _ h

theorem MkAt.setRegs {a : Nat → Addr} {cs : List (List Ins)} {p : MkPl} {t : Nat} (ht : t < 6) : ∀ (l : List Int) {m : Mk} {w : World} (r : Nat), r + l.length ≤ 8 → MkAt a cs p m w → MkStep a cs p w p.mv (m.setRegs t r l) (w.setCells p.b (585 + t * 9 + r) (l.map (Value.int .i64)))
  | [], m, w, r, _, h => MkStep.refl h
  | v :: l, m, w, r, hr, h => by
    have k1 := h.setReg ht (r := r) (by simp at hr; omega) v
    have k2 := MkAt.setRegs ht l (r + 1) (by simp at hr; omega) k1.at'
    exact k1.trans k2
end Go.Proofs.YtnnlkolhahjokaaGreatDoor

/- StG -/
namespace Go.Proofs.YtnnlkolhahjokaaGreatDoor
open Go.RowKit Go.Extern.Stop Go.Stop Go.Extern Go.Maps Go.WideMaps Go.Sort

theorem mem_lay {a : Nat → Addr} {cs : List (List Ins)} {p : MkPl} {m : Mk} {w : World} (h : MkAt a cs p m w) (h0 : 0 < cs.length) (hws : m.mem.waits 0 = []) {n k : Nat} (hn : n < 64) (hh : m.mem.ar.has n 0 = true) (hk : k < 4) {v : Int} (hv : Wd v) :
    Calls Tryz.prog 32 #[.pointer (some ⟨p.b, 0, none⟩), .int .i64 0, .agg #[.int .i64 n, .int .i64 0], .int .i64 k, .int .i64 v] w fun e w' => e = .returned (.tuple #[.int .i64 (m.mem.ar.words n k), .nilIface]) ∧ MkStep a cs p w p.mv (m.setMem (m.mem.setWord n k v)) w' := by
  have := mswap_ok a p.B p.b m.mem 0 n k 0 v w h.pg.envB h.hB h.mem (by rw [h.thr]; exact h0) (by rw [hws]; exact fun x hx => absurd hx List.not_mem_nil) hn hk hh hv (by rw [hws]; exact Nat.lt_irrefl _)
  rw [hws] at this
  exact this.mono fun e w' ⟨e1, e2⟩ => ⟨e1, h.ofMem e2 rfl⟩

theorem Sta.part_has {s : Sta} {n i j : Nat} {row : List Int} (hi : i < s.init.length) (hc : (s.init.length : Int) ≤ s.cells) : ((s.at1 n i 0).rowPart i row j).mem.ar.has i 0 = true := by
  have hl : (s.init.take i).length = i := by rw [List.length_take]; omega
  have hg : ((s.at1 n i 0).rowPart i row j).mem.ar.given i = 1 := by
    show (if i = i then (if i < (s.init.take i).length then 1 else 0) + 1 else _) = 1
    rw [if_pos rfl, hl, if_neg (by omega)]
  have ht : ((s.at1 n i 0).rowPart i row j).mem.ar.there i = true := by
    show (if i = i then true else _) = true
    rw [if_pos rfl]
  have hz : ((s.at1 n i 0).rowPart i row j).mem.ar.size = s.cells.toNat := rfl
  generalize ((s.at1 n i 0).rowPart i row j).mem.ar = A at *
  unfold Ar.has
  rw [Int.toNat_natCast, ht, hg, hz, decide_eq_true (by omega)]
  rfl

theorem rowOk_at {R : List (List Int)} {n : Nat} (h : rowsOk n R = true) {i : Nat} {row : List Int} (hr : R[i]? = some row) : row.length ≤ n ∧ ∀ (j : Nat) v, row[j]? = some v → Wd v := by
  unfold rowsOk at h
  rw [List.all_eq_true] at h
  have := h row (List.mem_of_getElem? hr)
  unfold rowOk at this
  rw [Bool.and_eq_true, decide_eq_true_eq, List.all_eq_true] at this
  exact ⟨this.1, fun j v hv => by have := this.2 v (List.mem_of_getElem? hv); unfold wordOk at this; rw [decide_eq_true_eq] at this; exact this⟩
theorem Sta.fits_of {s : Sta} {n : Nat} (h : s.fits n = true) : (s.init.length : Int) ≤ s.cells ∧ rowsOk 4 s.init = true ∧ s.regs.length ≤ n ∧ rowsOk 8 s.regs = true := by
  unfold Sta.fits at h
  simp only [Bool.and_eq_true, decide_eq_true_eq] at h
  exact ⟨h.1.1, h.1.2, h.2.1, h.2.2⟩

structure FillX (a : Nat → Addr) (cs : List (List Ins)) (p : MkPl) (s : Sta) (q : StaPl) (W w : World) : Prop where
  at' : MkAt a cs p (s.at1 cs.length 0 0) w
  st : StaAt s q W
  sz : W.heap.size = p.B
  low : Below p.B W w
  fits : s.fits cs.length = true
  c64 : s.cells ≤ 64
  n1 : 1 ≤ cs.length
theorem FillX.below {a : Nat → Addr} {cs : List (List Ins)} {p : MkPl} {s : Sta} {q : StaPl} {W w w' : World} {m' : Mk} {v : Value} (h : FillX a cs p s q W w) (k : MkStep a cs p w v m' w') : Below W.heap.size W w' := by
  rw [h.sz]; exact h.low.trans (k.turns.below (by rw [← h.sz]; exact h.low.size) (fun i o hi hf => by have := h.at'.fp_ge hf; omega))
def FillRel (a : Nat → Addr) (cs : List (List Ins)) (p : MkPl) (s : Sta) (w : World) (i t : Nat) (wr : World) : Prop := MkStep a cs p w p.mv (s.at1 cs.length i t) wr

set_option maxRecDepth 20000 in
set_option maxHeartbeats 2000000 in
theorem kfill_any {a : Nat → Addr} {cs : List (List Ins)} {p : MkPl} {s : Sta} {ai ar : Option Addr} {ci cr : Nat} {W w : World} (h : FillX a cs p s ⟨ai, ci, ar, cr⟩ W w) :
    Calls Tryz.prog 17 #[.pointer (some ⟨p.b, 0, none⟩), .agg #[.int .i64 s.cells, .slice ai s.init.length ci, .slice ar s.regs.length cr]] w fun e w' => e = .returned (.tuple #[]) ∧ Hid (MkStep a cs p w p.mv (s.mach cs.length) w') := by
  obtain ⟨f1, f2, f3, f4⟩ := Sta.fits_of h.fits
  have h6 := h.at'.few
  have hcells := h.c64
  have n1 := h.n1
  have hba : Below w.heap.size w (w.alloc (.cells #[.int .i64 s.cells, .slice ai s.init.length ci, .slice ar s.regs.length cr] 35)) := (Below.refl _ _).alloc (Nat.le_refl _) _
  have e1 : (w.alloc (.cells #[.int .i64 s.cells, .slice ai s.init.length ci, .slice ar s.regs.length cr] 35)).cell? ⟨w.heap.size, 1, none⟩ = some (.slice ai s.init.length ci) := by simp
  have e2 : (w.alloc (.cells #[.int .i64 s.cells, .slice ai s.init.length ci, .slice ar s.regs.length cr] 35)).cell? ⟨w.heap.size, 2, none⟩ = some (.slice ar s.regs.length cr) := by simp
  have HX := hide h
  have H0 : Hid (FillRel a cs p s w 0 0 (w.alloc (.cells #[.int .i64 s.cells, .slice ai s.init.length ci, .slice ar s.regs.length cr] 35))) := hide (MkStep.of_below' h.at' hba)
  have HF : Hid (∀ k, p.fp k → k < w.heap.size) := hide fun k hk => h.at'.fp_lt hk
  have HK : Hid (∀ (wr w' : World) (v : Value), wr.cell? ⟨w.heap.size, 2, none⟩ = some v → Turns (fun k _ => p.fp k) wr w' → w'.cell? ⟨w.heap.size, 2, none⟩ = some v) := hide fun wr w' v hc k => k.keep hc (fun hf => by have := h.at'.fp_lt hf; omega)
  have i1 : (s.init.length : Int) ≤ 64 := by omega
  clear h hba
  generalize hw : w.alloc (.cells #[.int .i64 s.cells, .slice ai s.init.length ci, .slice ar s.regs.length cr] 35) = w1 at *
  go_enter Tryz.func17, Tryz.ntmps17
  go_wp2_with fail
  clear hw
  go_loopw [5, 6, 7, 8, 9, 15] (fun _ _ _ _ _ x wr => ∃ i : Nat, i ≤ s.init.length ∧ x = .int .i64 i ∧ FillRel a cs p s w i 0 wr ∧ wr.cell? ⟨w.heap.size, 2, none⟩ = some (.slice ar s.regs.length cr)) (fun _ _ _ _ _ x _ => s.init.length - (intOf x).toNat)
  case atStart => exact ⟨0, Nat.zero_le _, rfl, H0.out, e2⟩
  case round =>
    obtain ⟨i, hi, rfl, hR, hc2⟩ := hrel
    by_cases hlt : i < s.init.length
    · obtain ⟨row, hrow⟩ : ∃ x, s.init[i]? = some x := ⟨_, List.getElem?_eq_getElem hlt⟩
      obtain ⟨b, off, adr, capr, hq, cW, hcp, hnW⟩ := HX.out.st.init i row hrow
      obtain rfl : ai = some ⟨b, off, none⟩ := hq
      have HB : Hid (∀ w' m', MkStep a cs p w p.mv m' w' → numsAt adr row w') := hide fun w' m' k => hnW.below (HX.out.below k)
      have c0 := keep_cell (HX.out.below hR) cW
      obtain ⟨r4, rw'⟩ := rowOk_at f2 hrow
      have ii : (i : Int) < s.init.length := by omega
      have HA := hide (mem_alloc_some hR.at' (t := 0) (c := i) (by omega) (Sta.at1_free hlt f1) (by rw [Sta.at1_given hlt]; omega))
      have hg0 : ((s.at1 cs.length i 0).mem.ar.given i : Int) = 0 := by rw [Sta.at1_given hlt]; rfl
      rw [hg0] at HA
      have HP0 : Hid (∀ w', MkStep a cs p wr p.mv ((s.at1 cs.length i 0).setMem ((s.at1 cs.length i 0).mem.give i)) w' → MkStep a cs p w p.mv ((s.at1 cs.length i 0).rowPart i row 0) w') := hide fun w' k => by rw [Mk.rowPart_zero]; exact hR.trans k
      have HE : Hid ((s.at1 cs.length i 0).rowPart i row row.length = s.at1 cs.length (i + 1) 0) := hide (Sta.at1_row hrow r4)
      have HT : Hid (∀ w', MkStep a cs p wr p.mv ((s.at1 cs.length i 0).setMem ((s.at1 cs.length i 0).mem.give i)) w' → w'.cell? ⟨w.heap.size, 2, none⟩ = some (.slice ar s.regs.length cr) ∧ ∀ k, p.fp k → k < w'.heap.size) := hide fun w' k => ⟨HK.out wr w' _ hc2 k.turns, fun i hi => k.at'.fp_lt hi⟩
      have HL : Hid (∀ (j : Nat) v w', row[j]? = some v → MkStep a cs p w p.mv ((s.at1 cs.length i 0).rowPart i row j) w' → Calls Tryz.prog 32 #[.pointer (some ⟨p.b, 0, none⟩), .int .i64 0, .agg #[.int .i64 i, .int .i64 0], .int .i64 j, .int .i64 v] w' fun e w'' => ∃ x, e = .returned (.tuple #[.int .i64 x, .nilIface]) ∧ MkStep a cs p w p.mv ((s.at1 cs.length i 0).rowPart i row (j + 1)) w'' ∧ Turns (fun k _ => p.fp k) w' w'') := hide fun j v w' hv k => by
        have hj := (List.getElem?_eq_some_iff.1 hv).1
        refine (mem_lay k.at' (by omega) rfl (n := i) (k := j) (by omega) (Sta.part_has hlt f1) (by omega) (rw' j v hv)).mono fun e w'' ⟨e1, e2⟩ => ⟨_, e1, ?_, e2.turns⟩
        rw [← Mk.rowPart_succ _ _ _ _ hv]
        exact k.trans e2
      clear hR hc2 cW hnW hrow hg0 rw' f1 f2 H0
      generalize (s.at1 cs.length i 0).setMem ((s.at1 cs.length i 0).mem.give i) = M1 at *
      generalize (s.at1 cs.length i 0).mem.ar.given i = G at *
      have r4i : (row.length : Int) ≤ 4 := by omega
      go_wp2_with fail
      refine HA.out.mono ?_
      rintro e w3 ⟨rfl, h3⟩
      obtain ⟨hc3, hfl⟩ := HT.out w3 h3
      obtain ⟨q0, q1⟩ := box2 w3 i 0
      obtain ⟨W4, hW4⟩ : ∃ W4, W4 = w3.alloc (.cells #[.int .i64 i, .int .i64 0] 65) := ⟨_, rfl⟩
      have b4 : Below w3.heap.size w3 W4 := by rw [hW4]; exact (Below.refl _ _).alloc (Nat.le_refl _) _
      have H4 : Hid (MkStep a cs p w p.mv ((s.at1 cs.length i 0).rowPart i row 0) W4) := hide ((HP0.out _ h3).below b4)
      replace hc3 := keep_cell b4 hc3
      rw [← hW4] at q0 q1
      have hbn : ¬ p.fp w3.heap.size := fun hf => by have := hfl _ hf; omega
      clear HA HP0 HT h3 b4 hfl
      go_wp2_with fail
      rw [← hW4]
      clear hW4
      have HN := hide hbn
      generalize w3.heap.size = rb at *
      clear hbn
      go_loopw [8, 9, 28] (fun _ _ x wr => ∃ j : Nat, j ≤ row.length ∧ x = .int .i64 j ∧ MkStep a cs p w p.mv ((s.at1 cs.length i 0).rowPart i row j) wr ∧ wr.cell? ⟨w.heap.size, 2, none⟩ = some (.slice ar s.regs.length cr) ∧ wr.cell? ⟨rb, 0, none⟩ = some (.int .i64 i) ∧ wr.cell? ⟨rb, 1, none⟩ = some (.int .i64 0)) (fun _ _ x _ => row.length - (intOf x).toNat)
      case atStart => exact ⟨0, Nat.zero_le _, rfl, H4.out, hc3, q0, q1⟩
      case round =>
        obtain ⟨j, hj, rfl, hk, hc2, p0, p1⟩ := hrel
        by_cases hjl : j < row.length
        · obtain ⟨v, hv⟩ : ∃ x, row[j]? = some x := ⟨_, List.getElem?_eq_getElem hjl⟩
          obtain ⟨b', off', rfl, cv⟩ := HB.out _ _ hk j v hv
          have jj : (j : Int) < row.length := by omega
          have HL1 := hide (HL.out j v (wr.drewN 1) hv (hk.below (Below.drewN' 1)))
          have HK2 : Hid (∀ w', Turns (fun k _ => p.fp k) (wr.drewN 1) w' → w'.cell? ⟨w.heap.size, 2, none⟩ = some (.slice ar s.regs.length cr) ∧ w'.cell? ⟨rb, 0, none⟩ = some (.int .i64 i) ∧ w'.cell? ⟨rb, 1, none⟩ = some (.int .i64 0)) := hide fun w' k =>
            ⟨HK.out _ _ _ (keep_cell (Below.drewN' 1) hc2) k, k.keep (keep_cell (Below.drewN' 1) p0) HN.out, k.keep (keep_cell (Below.drewN' 1) p1) HN.out⟩
          clear hk hc2 H4 hc3 q0 q1 hv
          go_wp2_with fail
          go_region_with (go_at_call 32; refine HL1.out.mono ?_; rintro e w5 ⟨x, rfl, h5, h6⟩)
          all_goals
            obtain ⟨d2, d0, d1⟩ := HK2.out _ h6
            have H5 := hide h5
            clear h5 h6 HK2 HL1
            go_wp2
            go_roundw
          case rel => exact ⟨j + 1, by omega, by go_num, H5.out, d2, d0, d1⟩
          case measure => simp [intOf]; omega
        · obtain rfl : j = row.length := by omega
          rw [HE.out] at hk
          have H5 := hide hk
          clear hk HL HB p0 p1 H4 hc3 q0 q1
          go_wp2
          go_roundw
          case rel => exact ⟨i + 1, by omega, by go_num, H5.out, hc2⟩
          case measure => simp [intOf]; omega
    · obtain rfl : i = s.init.length := by omega
      have HR := hide hR
      clear hR f2 e1 e2
      have ri : (s.regs.length : Int) ≤ 6 := by omega
      go_wp2_with fail
      go_loopw [10, 11, 45] (fun _ _ x wr => ∃ t : Nat, t ≤ s.regs.length ∧ x = .int .i64 t ∧ Hid (FillRel a cs p s w s.init.length t wr)) (fun _ _ x _ => s.regs.length - (intOf x).toNat)
      case atStart => exact ⟨0, Nat.zero_le _, rfl, HR.out⟩
      case round =>
        obtain ⟨t, ht, rfl, HR2⟩ := hrel
        by_cases htl : t < s.regs.length
        · obtain ⟨row, hrow⟩ : ∃ x, s.regs[t]? = some x := ⟨_, List.getElem?_eq_getElem htl⟩
          obtain ⟨b, off, adr, capr, hq, cW, hcp, hnW⟩ := HX.out.st.regs t row hrow
          obtain rfl : ar = some ⟨b, off, none⟩ := hq
          have c0 := keep_cell (HX.out.below HR2.out) cW
          have hn := hnW.below (HX.out.below HR2.out)
          obtain ⟨r8, -⟩ := rowOk_at f4 hrow
          have ti : (t : Int) < s.regs.length := by omega
          have t6 : (t : Int) < 6 := by omega
          have HE : Hid (∀ w', MkStep a cs p w p.mv ((s.at1 cs.length s.init.length t).setRegs t 0 row) w' → FillRel a cs p s w s.init.length (t + 1) w') := hide fun w' k => by rw [Sta.at1_regs hrow] at k; exact k
          have hu : (Tryz.prog).underlying 26 = some (.slice 3) := Tryz.underlying26
          have hz : ((Tryz.prog).info? 3).map (·.size) = some 1 := by kernel_rfl
          cases hL : row.length with
          | zero =>
            have HE2 : Hid (FillRel a cs p s w s.init.length (t + 1) wr) := hide (HE.out _ (by rw [List.eq_nil_of_length_eq_zero hL]; exact HR2.out))
            rw [hL] at c0
            clear hn hnW cW hrow HE HR2 HR r8
            go_wp2_with (refine wpList_copy_none (by rfl) _ _ 26 3 (by rfl) _ 8 8 adr capr (by rfl) (by rfl) hu hz ?_)
            go_roundw
            case rel => exact ⟨t + 1, by omega, by go_num, HE2⟩
            case measure => simp [intOf]; omega
          | succ n =>
            obtain ⟨v0, hv0⟩ : ∃ x, row[0]? = some x := ⟨_, List.getElem?_eq_getElem (by omega)⟩
            obtain ⟨b2, off2, rfl, -⟩ := hn 0 v0 hv0
            have HE2 : Hid (FillRel a cs p s w s.init.length (t + 1) (wr.setCells p.b (585 + t * 9) (row.map (Value.int .i64)))) := hide (HE.out _ (HR2.out.trans (MkAt.setRegs (by omega) row 0 (by omega) HR2.out.at')))
            have s1 : ∀ j v, (row.map (Value.int .i64))[j]? = some v → wr.cell? ((⟨b2, off2, none⟩ : Addr).add j) = some v := fun j v hj => by
              rw [List.getElem?_map] at hj
              cases hx : row[j]? with
              | none => rw [hx] at hj; cases hj
              | some x =>
                rw [hx] at hj; cases hj
                obtain ⟨_, _, e, c⟩ := hn j x hx
                cases e
                rw [Addr.add_lit]; exact c
            have s2 : ∀ j, j < (row.map (Value.int .i64)).length → (wr.cell? ⟨p.b, 585 + t * 9 + j, none⟩).isSome = true := fun j hj => by
              rw [List.length_map] at hj
              have := HR2.out.at'.reg t j (by omega) (by omega)
              rw [show wr.cell? ⟨p.b, 585 + t * 9 + j, none⟩ = _ from this]; rfl
            have s3 : ∀ j, j < (row.map (Value.int .i64)).length → wr.frozen? ⟨p.b, 585 + t * 9 + j, none⟩ = false := fun j hj => by
              rw [List.length_map] at hj
              exact HR2.out.at'.frozen _ (by omega) (by omega)
            have s4 : ∀ v ∈ row.map (Value.int .i64), v.oneCell' = true := fun v hv => by obtain ⟨x, _, rfl⟩ := List.mem_map.1 hv; rfl
            have s5 : (row.map (Value.int .i64)).length = Nat.min row.length 8 := by rw [List.length_map]; exact (Nat.min_eq_left r8).symm
            have G1 := hide s1
            have G2 := hide s2
            have G3 := hide s3
            have G4 := hide s4
            have G5 := hide s5
            clear hn hnW cW hrow HE HR2 HR s1 s2 s3 s4 s5 hv0 hL
            go_wp2_with (refine wpList_copy_cells (by rfl) _ _ 26 3 (by rfl) p.b (585 + t * 9) 8 8 ⟨b2, off2, none⟩ row.length capr (row.map (Value.int .i64)) (by rfl) (by rfl) hu hz G5.out G1.out G2.out G3.out G4.out ?_)
            go_roundw
            case rel => exact ⟨t + 1, by omega, by go_num, HE2⟩
            case measure => simp [intOf]; omega
        · obtain rfl : t = s.regs.length := by omega
          have HZ : Hid (MkStep a cs p w p.mv (s.mach cs.length) wr) := hide (by rw [← Sta.at1_end]; exact HR2.out)
          clear HR2 HR
          go_wp2
          go_end0
          exact ⟨rfl, HZ⟩
end Go.Proofs.YtnnlkolhahjokaaGreatDoor

/- StH -/
namespace Go.Proofs.YtnnlkolhahjokaaGreatDoor
open Go.RowKit Go.Extern.Stop Go.Stop Go.Extern Go.Maps Go.WideMaps Go.Sort

theorem fold_get : ∀ (l : List Value) (n off : Nat) (Z : Array Value) (k : Nat), ((l.zipIdx n).foldl (fun acc (p : Value × Nat) => acc.setIfInBounds (off + p.2) p.1) Z)[k]? = if off + n ≤ k ∧ k < off + n + l.length ∧ k < Z.size then l[k - (off + n)]? else Z[k]?
  | [], n, off, Z, k => by rw [if_neg (by simp; omega)]; rfl
  | x :: l, n, off, Z, k => by
    rw [List.zipIdx_cons, List.foldl_cons, fold_get l (n + 1) off]
    rw [Array.size_setIfInBounds, List.length_cons]
    by_cases h1 : off + (n + 1) ≤ k ∧ k < off + (n + 1) + l.length ∧ k < Z.size
    · rw [if_pos h1, if_pos (by omega), show k - (off + n) = (k - (off + (n + 1))) + 1 by omega, List.getElem?_cons_succ]
    · rw [if_neg h1, Array.getElem?_setIfInBounds]
      by_cases h2 : off + n = k
      · subst h2
        rw [if_pos rfl]
        by_cases h3 : off + n < Z.size
        · rw [if_pos h3, if_pos (by omega), Nat.sub_self]; rfl
        · rw [if_neg h3, if_neg (by omega), Array.getElem?_eq_none (by omega)]
      · rw [if_neg h2, if_neg (by omega)]
theorem fold_size : ∀ (l : List Value) (n off : Nat) (Z : Array Value), ((l.zipIdx n).foldl (fun acc (p : Value × Nat) => acc.setIfInBounds (off + p.2) p.1) Z).size = Z.size
  | [], n, off, Z => rfl
  | x :: l, n, off, Z => by rw [List.zipIdx_cons, List.foldl_cons, fold_size l (n + 1) off, Array.size_setIfInBounds]

theorem built_any (parts : List (Nat × Value)) : Tryz.prog.built 80 parts = Instr.fill ((#[(0, 584), (584, 1), (585, 54), (639, 1), (640, 1)] : Array (Nat × Nat))[·]?) Tryz.zeroCells80 parts := by kernel_rfl
theorem zeroK : Tryz.zeroCells80 = (((.int .i64 0 :: List.replicate 256 (.int .u32 0)) ++ List.replicate 64 (.bool false) ++ List.replicate 263 (.int .i64 0)) ++ (.slice none 0 0 :: List.replicate 54 (.int .i64 0)) ++ [.slice none 0 0, .int .i64 0] : List Value).toArray := by kernel_rfl
theorem tail_len (A : List Value) (x z y u : Value) (n : Nat) : ((A ++ (x :: List.replicate n z)) ++ [y, u]).length = A.length + n + 3 := by
  rw [List.length_append, List.length_append, List.length_cons, List.length_replicate]; simp only [List.length_cons, List.length_nil]; omega
theorem tail_reg (A : List Value) (x z y u : Value) (n k : Nat) (h1 : A.length + 1 ≤ k) (h2 : k < A.length + 1 + n) : ((A ++ (x :: List.replicate n z)) ++ [y, u])[k]? = some z := by
  rw [List.getElem?_append_left (by rw [List.length_append, List.length_cons, List.length_replicate]; omega), List.getElem?_append_right (by omega), show k - A.length = (k - A.length - 1) + 1 by omega, List.getElem?_cons_succ, List.getElem?_replicate, if_pos (by omega)]
theorem tail_one (A : List Value) (x z y u : Value) (n k : Nat) (h1 : k = A.length + 1 + n) : ((A ++ (x :: List.replicate n z)) ++ [y, u])[k]? = some y := by
  have e : (A ++ (x :: List.replicate n z)).length = k := by rw [List.length_append, List.length_cons, List.length_replicate]; omega
  rw [List.getElem?_append_right (by omega), e, Nat.sub_self]; rfl
theorem tail_two (A : List Value) (x z y u : Value) (n k : Nat) (h1 : k = A.length + 1 + n + 1) : ((A ++ (x :: List.replicate n z)) ++ [y, u])[k]? = some u := by
  have e : (A ++ (x :: List.replicate n z)).length + 1 = k := by rw [List.length_append, List.length_cons, List.length_replicate]; omega
  rw [List.getElem?_append_right (by omega), show k - (A ++ (x :: List.replicate n z)).length = 1 by omega]; rfl
theorem zeroK_at : ∃ A : List Value, A.length = 584 ∧ Tryz.zeroCells80 = ((A ++ (.slice none 0 0 :: List.replicate 54 (.int .i64 0))) ++ [.slice none 0 0, .int .i64 0] : List Value).toArray := ⟨_, rows_len _ _ _ _ _ _ _, zeroK⟩
theorem zeroK_size : Tryz.zeroCells80.size = 641 := by
  obtain ⟨A, hA, e⟩ := zeroK_at
  rw [e, List.size_toArray, tail_len, hA]
theorem zeroK_reg (k : Nat) (h1 : 585 ≤ k) (h2 : k < 639) : Tryz.zeroCells80[k]? = some (.int .i64 0) := by
  obtain ⟨A, hA, e⟩ := zeroK_at
  rw [e, List.getElem?_toArray, tail_reg _ _ _ _ _ _ _ (by omega) (by omega)]
theorem zeroK_marks : Tryz.zeroCells80[639]? = some (.slice none 0 0) := by
  obtain ⟨A, hA, e⟩ := zeroK_at
  rw [e, List.getElem?_toArray, tail_one _ _ _ _ _ _ _ (by omega)]
theorem zeroK_faults : Tryz.zeroCells80[640]? = some (.int .i64 0) := by
  obtain ⟨A, hA, e⟩ := zeroK_at
  rw [e, List.getElem?_toArray, tail_two _ _ _ _ _ _ _ (by omega)]

theorem fill_cons (place : Nat → Option (Nat × Nat)) (cells : Array Value) (i : Nat) (v : Value) (rest : List (Nat × Value)) (off size : Nat) (hp : place i = some (off, size)) (h1 : v.cells.size = size) (h2 : off + size ≤ cells.size) :
    Instr.fill place cells ((i, v) :: rest) = Instr.fill place ((v.cells.toList.zipIdx 0).foldl (fun acc (p : Value × Nat) => acc.setIfInBounds (off + p.2) p.1) cells) rest := by
  rw [Instr.fill, hp]
  dsimp only
  rw [if_neg (by simp [h1]; omega), ← Array.foldl_toList, Array.toList_zipIdx]

theorem mach_made (N : Array Value) (hN : N.size = 584) (v : Value) (hv : v.cells = #[v]) : ∃ C : Array Value, Tryz.prog.built 80 [(0, .agg N), (1, v)] = some C ∧ C.size = 641 ∧ (∀ k, k < 584 → C[k]? = N[k]?) ∧ C[584]? = some v ∧ (∀ k, 585 ≤ k → k < 639 → C[k]? = some (.int .i64 0)) ∧ C[639]? = some (.slice none 0 0) ∧ C[640]? = some (.int .i64 0) := by
  have hl : N.toList.length = 584 := by rw [Array.length_toList]; exact hN
  have key : ∀ k, ((N.toList.zipIdx 0).foldl (fun acc (p : Value × Nat) => acc.setIfInBounds (0 + p.2) p.1) Tryz.zeroCells80)[k]? = if k < 584 then N[k]? else Tryz.zeroCells80[k]? := fun k => by
    rw [fold_get, zeroK_size, hl]
    by_cases h : k < 584
    · rw [if_pos (by omega), if_pos h, Nat.add_zero, Nat.sub_zero, Array.getElem?_toList]
    · rw [if_neg (by omega), if_neg h]
  refine ⟨((N.toList.zipIdx 0).foldl (fun acc (p : Value × Nat) => acc.setIfInBounds (0 + p.2) p.1) Tryz.zeroCells80).setIfInBounds 584 v, ?_, ?_, fun k hk => ?_, ?_, fun k h1 h2 => ?_, ?_, ?_⟩
  · rw [built_any]
    refine (fill_cons _ _ 0 (.agg N) [(1, v)] 0 584 ?_ hN ?_).trans ?_
    · rfl
    · rw [zeroK_size]; decide
    refine (fill_cons _ _ 1 v [] 584 1 ?_ ?_ ?_).trans ?_
    · rfl
    · rw [hv]; rfl
    · rw [fold_size, zeroK_size]; decide
    · rw [hv]; rfl
  · rw [Array.size_setIfInBounds, fold_size, zeroK_size]
  · rw [Array.getElem?_setIfInBounds, if_neg (by omega), key, if_pos hk]
  · rw [Array.getElem?_setIfInBounds, if_pos rfl, if_pos (by rw [fold_size, zeroK_size]; decide)]
  · rw [Array.getElem?_setIfInBounds, if_neg (by omega), key, if_neg (by omega), zeroK_reg k h1 h2]
  · rw [Array.getElem?_setIfInBounds, if_neg (by omega), key, if_neg (by omega), zeroK_marks]
  · rw [Array.getElem?_setIfInBounds, if_neg (by omega), key, if_neg (by omega), zeroK_faults]

theorem ArAt.move {b b' o : Nat} {s : Ar} {w w' : World} (h : ArAt b o s w) (hc : ∀ k, k < o + 385 → w'.cell? ⟨b', k, none⟩ = w.cell? ⟨b, k, none⟩) (hf : ∀ k, w'.frozen? ⟨b', k, none⟩ = false) : ArAt b' o s w' where
  small := h.small
  size := by rw [hc _ (by omega)]; exact h.size
  words c k h1 h2 := by rw [hc _ (by omega)]; exact h.words c k h1 h2
  range := h.range
  there c h1 := by rw [hc _ (by omega)]; exact h.there c h1
  given c h1 := by rw [hc _ (by omega)]; exact h.given c h1
  bound := h.bound
  frozen k _ := hf _
theorem LnAt.move {b b' o : Nat} {l : List Wt} {w w' : World} (h : LnAt b o l w) (hc : ∀ k, k < o + 33 → w'.cell? ⟨b', k, none⟩ = w.cell? ⟨b, k, none⟩) (hf : ∀ k, w'.frozen? ⟨b', k, none⟩ = false) : LnAt b' o l w' where
  le := h.le
  len := by rw [hc _ (by omega)]; exact h.len
  row i k h1 h2 := by rw [hc _ (by omega)]; exact h.row i k h1 h2
  frozen k _ := hf _
theorem MmAt.move {b b' : Nat} {s : Rm} {w w' : World} (h : MmAt b s w) (hc : ∀ k, k < 584 → w'.cell? ⟨b', k, none⟩ = w.cell? ⟨b, k, none⟩) (hf : ∀ k, w'.frozen? ⟨b', k, none⟩ = false) : MmAt b' s w' where
  ar := h.ar.move (fun k hk => hc k (by omega)) hf
  few := h.few
  nt := by rw [hc _ (by omega)]; exact h.nt
  line t ht := (h.line t ht).move (fun k hk => hc k (by have := h.few; omega)) hf
  rest o h1 h2 := by rw [hc _ h2]; exact h.rest o h1 h2
end Go.Proofs.YtnnlkolhahjokaaGreatDoor
