import Derived.Test.YtepgcgokolmedaaDoorA22
import Derived.Maps.AppendAt
import Derived.Laws.IdiomCopy

/- StD -/
namespace Go.Proofs.YtepgcgokolmedaaDoor
open Go.RowKit Go.Extern.Stop Go.Stop Go.Extern Go.Maps Go.WideMaps Go.Sort

def codesAt (ad : Option Addr) (cs : List (List Ins)) (w : World) : Prop := ∀ (t : Nat) L, cs[t]? = some L → ∃ b off adl capl, ad = some ⟨b, off, none⟩ ∧ w.cell? ⟨b, off + t, none⟩ = some (.slice adl L.length capl) ∧ L.length ≤ capl ∧ insAt adl L w ∧ (adl = none → L = [])
theorem codesAt.below {ad : Option Addr} {cs : List (List Ins)} {w w' : World} (h : codesAt ad cs w) (hb : Below w.heap.size w w') : codesAt ad cs w' := fun t L ht => by
  obtain ⟨b, off, adl, capl, h1, h2, h3, h4, h5⟩ := h t L ht
  exact ⟨b, off, adl, capl, h1, keep_cell hb h2, h3, insAt_below h4 hb, h5⟩

structure PrX where
  ad : Option Addr
  n : Nat
  cap : Nat
  lb : Nat
def PrX.cells (x : PrX) : List Value := [.slice x.ad x.n x.cap, .map (some x.lb)]
def PrX.uses (x : PrX) (k : Nat) : Prop := (∃ off, x.ad = some ⟨k, off, none⟩) ∨ x.lb = k
structure PrOk (L : List Ins) (x : PrX) (w : World) : Prop where
  n : x.n = L.length
  cap : L.length ≤ x.cap
  ins : insAt x.ad L w
  map : w.ownsMap Tryd.prog 9 (plainElem Tryd.prog 3) x.lb L.length (setD L L.length)
theorem ownsMap_same {H : Type} {P : Program} {k : TypeId} {R : Value → Option (DataW H × List MemPlace)} {w w' : World} {b n : Nat} {D : DataW H} (h : w.ownsMap P k R b n D) (hb : w'.heap[b]? = w.heap[b]?) : w'.ownsMap P k R b n D := by
  obtain ⟨es, clock, h1, F, hs, hD⟩ := h
  exact ⟨es, clock, by rw [hb]; exact h1, F, hs, hD⟩
theorem PrOk.same {L : List Ins} {x : PrX} {w w' : World} (h : PrOk L x w) (hb : ∀ k, k < w.heap.size → x.uses k → w'.heap[k]? = w.heap[k]?) : PrOk L x w' where
  n := h.n
  cap := h.cap
  ins i y hy := by
    obtain ⟨b, off, e, h0, h1, h2, h3, h4⟩ := h.ins i y hy
    have hk : w'.heap[b]? = w.heap[b]? := hb b (World.block_lt_of_cell? _ _ h0) (Or.inl ⟨off, e⟩)
    exact ⟨b, off, e, by rw [World.cell?_of_block (w := w) hk]; exact h0, by rw [World.cell?_of_block (w := w) hk]; exact h1, by rw [World.cell?_of_block (w := w) hk]; exact h2, by rw [World.cell?_of_block (w := w) hk]; exact h3, by rw [World.cell?_of_block (w := w) hk]; exact h4⟩
  map := ownsMap_same h.map (hb _ h.map.lt (Or.inr rfl))
theorem PrOk.below {L : List Ins} {x : PrX} {w w' : World} (h : PrOk L x w) (hb : Below w.heap.size w w') : PrOk L x w' := h.same fun k hk _ => hb.block k hk

end Go.Proofs.YtepgcgokolmedaaDoor

/- StF -/
namespace Go.Proofs.YtepgcgokolmedaaDoor
open Go.RowKit Go.Extern.Stop Go.Stop Go.Extern Go.Maps Go.WideMaps Go.Sort

theorem rowAt_take {R : List (List Int)} {t : Nat} {row : List Int} (h : R[t]? = some row) (u k : Nat) : rowAt (R.take (t + 1)) u k = if u = t then row.getD k 0 else rowAt (R.take t) u k := by
  have ht := (List.getElem?_eq_some_iff.1 h).1
  unfold rowAt
  by_cases e : u = t
  · rw [if_pos e, e]
    congr 1
    rw [List.getD_eq_getElem?_getD, List.getElem?_take, if_pos (by omega), h]; rfl
  · rw [if_neg e]
    congr 1
    rw [List.getD_eq_getElem?_getD, List.getD_eq_getElem?_getD, List.getElem?_take, List.getElem?_take]
    by_cases e2 : u < t
    · rw [if_pos (by omega), if_pos e2]
    · rw [if_neg (by omega), if_neg e2]
def Sta.at1 (s : Sta) (n i t : Nat) : Mk where
  mem := { Rm.fresh s.cells.toNat n with ar := (Rm.fresh s.cells.toNat n).ar.filled (s.init.take i) }
  regs := rowAt (s.regs.take t)
  pc _ := 0
  marks := []
  faults := 0
theorem Sta.at1_end (s : Sta) (n : Nat) : s.at1 n s.init.length s.regs.length = s.mach n := by
  unfold Sta.at1 Sta.mach
  rw [List.take_length, List.take_length]
theorem Ar.filled_nil (s : Ar) : s.filled [] = s := by
  unfold Ar.filled
  simp

theorem Mk.ext' {m m' : Mk} (h1 : m.mem = m'.mem) (h2 : m.regs = m'.regs) (h3 : m.pc = m'.pc) (h4 : m.marks = m'.marks) (h5 : m.faults = m'.faults) : m = m' := by
  cases m; cases m'; simp only at h1 h2 h3 h4 h5; rw [h1, h2, h3, h4, h5]
def Mk.rowPart (m : Mk) (i : Nat) (row : List Int) (j : Nat) : Mk :=
  m.setMem { m.mem.give i with ar := { (m.mem.give i).ar with words := fun c k => if c = i ∧ k < j then row.getD k 0 else (m.mem.give i).ar.words c k } }
theorem Mk.rowPart_zero (m : Mk) (i : Nat) (row : List Int) : m.rowPart i row 0 = m.setMem (m.mem.give i) := by
  unfold Mk.rowPart
  have : (fun c k => if c = i ∧ k < 0 then row.getD k 0 else (m.mem.give i).ar.words c k) = (m.mem.give i).ar.words := by
    funext c k; rw [if_neg (by omega)]
  rw [this]
theorem Mk.rowPart_succ (m : Mk) (i : Nat) (row : List Int) (j : Nat) {v : Int} (hv : row[j]? = some v) : (m.rowPart i row j).setMem ((m.rowPart i row j).mem.setWord i j v) = m.rowPart i row (j + 1) := by
  unfold Mk.rowPart Mk.setMem Rm.setWord Ar.setWord
  simp only
  congr 3
  funext c k
  by_cases h1 : c = i ∧ k = j
  · rw [if_pos h1, if_pos (by omega), h1.2, List.getD_eq_getElem?_getD, hv]; rfl
  · rw [if_neg h1]
    by_cases h2 : c = i ∧ k < j
    · rw [if_pos h2, if_pos (by omega)]
    · rw [if_neg h2, if_neg (by omega)]
theorem Sta.at1_row {s : Sta} {n i t : Nat} {row : List Int} (h : s.init[i]? = some row) (h4 : row.length ≤ 4) : (s.at1 n i t).rowPart i row row.length = s.at1 n (i + 1) t := by
  have hi := (List.getElem?_eq_some_iff.1 h).1
  have hl : (s.init.take i).length = i := by rw [List.length_take]; omega
  have hl2 : (s.init.take (i + 1)).length = i + 1 := by rw [List.length_take]; omega
  refine Mk.ext' ?_ rfl rfl rfl rfl
  show Rm.mk _ _ _ = Rm.mk _ _ _
  congr 1
  show Ar.mk _ _ _ _ = Ar.mk _ _ _ _
  congr 1
  · funext c k
    show (if _ then _ else if c = i ∧ k < 4 then 0 else if c < (s.init.take i).length ∧ k < 4 then rowAt (s.init.take i) c k else _) = (if c < (s.init.take (i + 1)).length ∧ k < 4 then rowAt (s.init.take (i + 1)) c k else _)
    rw [hl, hl2, rowAt_take h]
    by_cases e : c = i
    · by_cases e2 : k < row.length
      · rw [if_pos ⟨e, e2⟩, if_pos (by omega), if_pos e]
      · rw [if_neg (by omega)]
        by_cases e3 : k < 4
        · rw [if_pos ⟨e, e3⟩, if_pos (by omega), if_pos e, List.getD_eq_getElem?_getD, List.getElem?_eq_none (by omega)]; rfl
        · rw [if_neg (by omega), if_neg (by omega), if_neg (by omega)]
    · rw [if_neg (by omega), if_neg (by omega), if_neg e]
      by_cases e2 : c < i ∧ k < 4
      · rw [if_pos e2, if_pos (by omega)]
      · rw [if_neg e2, if_neg (by omega)]
  · funext c
    show (if c = i then true else if c < (s.init.take i).length then true else _) = (if c < (s.init.take (i + 1)).length then true else _)
    rw [hl, hl2]
    by_cases e : c = i
    · rw [if_pos e, if_pos (by omega)]
    · rw [if_neg e]
      by_cases e2 : c < i
      · rw [if_pos e2, if_pos (by omega)]
      · rw [if_neg e2, if_neg (by omega)]
  · funext c
    show (if c = i then (if i < (s.init.take i).length then 1 else _) + 1 else if c < (s.init.take i).length then 1 else _) = (if c < (s.init.take (i + 1)).length then 1 else _)
    rw [hl, hl2]
    by_cases e : c = i
    · rw [if_pos e, if_neg (by omega), if_pos (by omega)]; rfl
    · rw [if_neg e]
      by_cases e2 : c < i
      · rw [if_pos e2, if_pos (by omega)]
      · rw [if_neg e2, if_neg (by omega)]
theorem freeFrom_hit {there : Nat → Bool} : ∀ (n j i : Nat), j ≤ i → i < j + n → there i = false → (∀ k, j ≤ k → k < i → there k = true) → freeFrom there j n = some i
  | 0, j, i, h1, h2, _, _ => by omega
  | n + 1, j, i, h1, h2, h3, h4 => by
    unfold freeFrom
    by_cases e : j = i
    · rw [e, h3, if_neg (by decide)]
    · rw [h4 j (Nat.le_refl _) (by omega), if_pos rfl]
      exact freeFrom_hit n (j + 1) i (by omega) (by omega) h3 (fun k h5 h6 => h4 k (by omega) h6)
theorem Sta.at1_free {s : Sta} {n i t : Nat} (hi : i < s.init.length) (hc : (s.init.length : Int) ≤ s.cells) : (s.at1 n i t).mem.ar.free? = some i := by
  have hl : (s.init.take i).length = i := by rw [List.length_take]; omega
  refine freeFrom_hit _ 0 i (Nat.zero_le _) (by show i < 0 + s.cells.toNat; omega) ?_ (fun k _ hk => ?_)
  · show (if i < (s.init.take i).length then true else false) = false
    rw [hl, if_neg (by omega)]
  · show (if k < (s.init.take i).length then true else false) = true
    rw [hl, if_pos hk]
theorem Sta.at1_given {s : Sta} {n i t : Nat} (hi : i < s.init.length) : (s.at1 n i t).mem.ar.given i = 0 := by
  have hl : (s.init.take i).length = i := by rw [List.length_take]; omega
  show (if i < (s.init.take i).length then 1 else 0) = 0
  rw [hl, if_neg (by omega)]

end Go.Proofs.YtepgcgokolmedaaDoor

/- StG -/
namespace Go.Proofs.YtepgcgokolmedaaDoor
open Go.RowKit Go.Extern.Stop Go.Stop Go.Extern Go.Maps Go.WideMaps Go.Sort

theorem rowOk_at {R : List (List Int)} {n : Nat} (h : rowsOk n R = true) {i : Nat} {row : List Int} (hr : R[i]? = some row) : row.length ≤ n ∧ ∀ (j : Nat) v, row[j]? = some v → Wd v := by
  unfold rowsOk at h
  rw [List.all_eq_true] at h
  have := h row (List.mem_of_getElem? hr)
  unfold rowOk at this
  rw [Bool.and_eq_true, decide_eq_true_eq, List.all_eq_true] at this
  exact ⟨this.1, fun j v hv => by have := this.2 v (List.mem_of_getElem? hv); unfold wordOk at this; rw [decide_eq_true_eq] at this; exact this⟩
theorem Sta.fits_of {s : Sta} {n : Nat} (h : s.fits n = true) : (s.init.length : Int) ≤ s.cells ∧ rowsOk 4 s.init = true ∧ s.regs.length ≤ n ∧ rowsOk 8 s.regs = true := by
  unfold Sta.fits at h
  simp only [Bool.and_eq_true, decide_eq_true_eq] at h
  exact ⟨h.1.1, h.1.2, h.2.1, h.2.2⟩

end Go.Proofs.YtepgcgokolmedaaDoor
