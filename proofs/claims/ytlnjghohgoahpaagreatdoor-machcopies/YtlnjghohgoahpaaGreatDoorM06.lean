import Derived.Test.YtlnjghohgoahpaaGreatDoorM05
import Derived.Lib.QuietBelow
import Derived.OwnWalk
import Derived.RegionTactic
import Derived.BigRegion

/- ArenaD -/
namespace Go.Proofs.YtlnjghohgoahpaaGreatDoor
open Go.RowKit Go.Extern.Stop Go.Stop Go.Extern

theorem new_bad (a : Nat → Addr) (c : Int) (w : World) (hE : EnvM a w) (hc : ¬ (1 ≤ c ∧ c ≤ 64)) :
    Calls Tryz.prog 72 #[.int .i64 c] w fun e w' => e = .returned (.tuple #[.pointer none, errAt (a 1)]) ∧ Below w.heap.size w w' := by
  have c1 : w.cell? ⟨0, 0, none⟩ = some (errAt (a 1)) := hE.cell 1 (by decide)
  by_cases h1 : c < 1
  · clear hc
    go_enter Tryz.func72, Tryz.ntmps72
    go_wp2
    go_quiet (fail)
    go_wp2
    go_ret2
    exact ⟨rfl, below_dN (Below.refl _ _) _⟩
  · have h2 : 64 < c := by omega
    clear hc
    go_enter Tryz.func72, Tryz.ntmps72
    go_wp2
    go_quiet (fail)
    go_wp2
    go_ret2
    exact ⟨rfl, below_dN (Below.refl _ _) _⟩

theorem zero84 : Tryz.zeroCells93 = ((.int .i64 0 :: List.replicate 256 (.int .u32 0)) ++ List.replicate 64 (.bool false) ++ List.replicate 64 (.int .i64 0) : List Value).toArray := by kernel_rfl
theorem rows_len (x a b c : Value) (m n p : Nat) : ((x :: List.replicate m a) ++ List.replicate n b ++ List.replicate p c : List Value).length = m + 1 + n + p := by simp; omega
theorem rows_a (x a b c : Value) (m n p k : Nat) (h1 : 1 ≤ k) (h2 : k < m + 1) : ((x :: List.replicate m a) ++ List.replicate n b ++ List.replicate p c : List Value)[k]? = some a := by
  rw [List.getElem?_append_left (by simp; omega), List.getElem?_append_left (by simp; omega), List.getElem?_cons, if_neg (by omega), List.getElem?_replicate, if_pos (by omega)]
theorem rows_b (x a b c : Value) (m n p k : Nat) (h1 : m + 1 ≤ k) (h2 : k < m + 1 + n) : ((x :: List.replicate m a) ++ List.replicate n b ++ List.replicate p c : List Value)[k]? = some b := by
  rw [List.getElem?_append_left (by simp; omega), List.getElem?_append_right (by simp; omega), List.getElem?_replicate, if_pos (by simp; omega)]
theorem rows_c (x a b c : Value) (m n p k : Nat) (h1 : m + 1 + n ≤ k) (h2 : k < m + 1 + n + p) : ((x :: List.replicate m a) ++ List.replicate n b ++ List.replicate p c : List Value)[k]? = some c := by
  rw [List.getElem?_append_right (by simp; omega), List.getElem?_replicate, if_pos (by simp; omega)]
theorem zero84_size : Tryz.zeroCells93.size = 385 := by
  rw [zero84, List.size_toArray, rows_len]
theorem zero84_word (k : Nat) (h1 : 1 ≤ k) (h2 : k < 257) : Tryz.zeroCells93[k]? = some (.int .u32 0) := by
  rw [zero84, List.getElem?_toArray, rows_a _ _ _ _ 256 64 64 k h1 h2]
theorem zero84_there (k : Nat) (h1 : 257 ≤ k) (h2 : k < 321) : Tryz.zeroCells93[k]? = some (.bool false) := by
  rw [zero84, List.getElem?_toArray, rows_b _ _ _ _ 256 64 64 k h1 h2]
theorem zero84_given (k : Nat) (h1 : 321 ≤ k) (h2 : k < 385) : Tryz.zeroCells93[k]? = some (.int .i64 0) := by
  rw [zero84, List.getElem?_toArray, rows_c _ _ _ _ 256 64 64 k h1 h2]

theorem ArAt.fresh (c : Nat) (w : World) (h2 : c ≤ 64) : ArAt w.heap.size 0 ⟨c, fun _ _ => 0, fun _ => false, fun _ => 0⟩ (w.alloc (.cells (Tryz.zeroCells93.setIfInBounds 0 (.int .i64 c)) 93)) where
  small := h2
  size := by
    rw [World.cell?_alloc_new, Array.getElem?_setIfInBounds, if_pos rfl, if_pos (by rw [zero84_size]; decide)]
  words j k hj hk := by
    rw [World.cell?_alloc_new, Array.getElem?_setIfInBounds, if_neg (by omega), zero84_word _ (by omega) (by omega)]
  range _ _ := ⟨Int.le_refl _, by show (0 : Int) < 4294967296; decide⟩
  there j hj := by
    rw [World.cell?_alloc_new, Array.getElem?_setIfInBounds, if_neg (by omega), zero84_there _ (by omega) (by omega)]
  given j hj := by
    rw [World.cell?_alloc_new, Array.getElem?_setIfInBounds, if_neg (by omega), zero84_given _ (by omega) (by omega)]
    rfl
  bound _ := by show 0 < 4611686018427387904; decide
  frozen k hk := World.frozen?_alloc_new _ _ _ _

theorem new_ok (c : Nat) (w : World) (h1 : 1 ≤ c) (h2 : c ≤ 64) :
    Calls Tryz.prog 72 #[.int .i64 c] w fun e w' => e = .returned (.tuple #[.pointer (some ⟨w.heap.size, 0, none⟩), .nilIface]) ∧ ArAt w.heap.size 0 ⟨c, fun _ _ => 0, fun _ => false, fun _ => 0⟩ w' ∧ Below w.heap.size w w' := by
  have i1 : 1 ≤ (c : Int) := by omega
  have i2 : (c : Int) ≤ 64 := by omega
  go_enter Tryz.func72, Tryz.ntmps72
  go_wp2
  go_ret2
  exact ⟨rfl, ArAt.fresh c w h2, (Below.refl _ _).alloc (Nat.le_refl _) _⟩

end Go.Proofs.YtlnjghohgoahpaaGreatDoor

/- RefA -/
namespace Go.Proofs.YtlnjghohgoahpaaGreatDoor
open Go.RowKit Go.Extern.Stop Go.Stop Go.Extern Go.Sort

structure Wt where
  c : Int
  g : Int
  w : Int
  v : Int

structure Rm where
  ar : Ar
  threads : Nat
  waits : Nat → List Wt

def Wt.cells (x : Wt) : List Value := [.int .i64 x.c, .int .i64 x.g, .int .i64 x.w, .int .i64 x.v]
def wtCells (l : List Wt) : List Value := l.flatMap Wt.cells

structure RmPl where
  mb : Nat
  cb : Nat
  tb : Nat
  ccap : Nat
  tcap : Nat
  wb : Nat → Nat
  wcap : Nat → Nat
  wv : Nat → Value

def RmPl.fp (p : RmPl) (s : Rm) (k : Nat) : Prop :=
  k = p.mb ∨ k = p.cb ∨ k = p.tb ∨ (∃ c, c < s.ar.size ∧ k = p.wb c) ∨ (∃ t, t < s.threads ∧ (p.wv t).ownBlock = some k)

structure RmAt (p : RmPl) (s : Rm) (w : World) : Prop where
  small : s.ar.size ≤ 64
  few : s.threads ≤ 6
  mCells : w.cell? ⟨p.mb, 0, none⟩ = some (.slice (some ⟨p.cb, 0, none⟩) s.ar.size p.ccap)
  mWaits : w.cell? ⟨p.mb, 1, none⟩ = some (.slice (some ⟨p.tb, 0, none⟩) s.threads p.tcap)
  ccap : s.ar.size ≤ p.ccap
  tcap : s.threads ≤ p.tcap
  cWords : ∀ c, c < s.ar.size → w.cell? ⟨p.cb, c * 3, none⟩ = some (.slice (some ⟨p.wb c, 0, none⟩) 4 (p.wcap c))
  cTimes : ∀ c, c < s.ar.size → w.cell? ⟨p.cb, c * 3 + 1, none⟩ = some (.int .i64 (s.ar.given c))
  cHere : ∀ c, c < s.ar.size → w.cell? ⟨p.cb, c * 3 + 2, none⟩ = some (.bool (s.ar.there c))
  wcap : ∀ c, c < s.ar.size → 4 ≤ p.wcap c
  words : ∀ c k, c < s.ar.size → k < 4 → w.cell? ⟨p.wb c, k, none⟩ = some (.int .i64 (s.ar.words c k))
  bound : ∀ c, s.ar.given c < 4611686018427387904
  waits : ∀ t, t < s.threads → w.cell? ⟨p.tb, t, none⟩ = some (p.wv t) ∧ w.ownsRow 0 180 4 (p.wv t) (s.waits t).length (wtCells (s.waits t))
  fm : ∀ o, w.frozen? ⟨p.mb, o, none⟩ = false
  fc : ∀ o, w.frozen? ⟨p.cb, o, none⟩ = false
  ft : ∀ o, w.frozen? ⟨p.tb, o, none⟩ = false
  fw : ∀ c o, c < s.ar.size → w.frozen? ⟨p.wb c, o, none⟩ = false
  lc : p.cb < w.heap.size
  lt : p.tb < w.heap.size
  d1 : p.mb ≠ p.cb
  d2 : p.mb ≠ p.tb
  d3 : p.cb ≠ p.tb
  dw : ∀ c, c < s.ar.size → p.wb c ≠ p.mb ∧ p.wb c ≠ p.cb ∧ p.wb c ≠ p.tb
  dwi : ∀ c d, c < s.ar.size → d < s.ar.size → c ≠ d → p.wb c ≠ p.wb d
  dv : ∀ t k, t < s.threads → (p.wv t).ownBlock = some k → k ≠ p.mb ∧ k ≠ p.cb ∧ k ≠ p.tb ∧ ∀ c, c < s.ar.size → k ≠ p.wb c
  dvi : ∀ t u k, t < s.threads → u < s.threads → t ≠ u → (p.wv t).ownBlock = some k → (p.wv u).ownBlock ≠ some k

theorem RmAt.lm {p : RmPl} {s : Rm} {w : World} (h : RmAt p s w) : p.mb < w.heap.size := World.block_lt_of_cell? _ _ h.mCells
theorem RmAt.lw {p : RmPl} {s : Rm} {w : World} (h : RmAt p s w) {c : Nat} (hc : c < s.ar.size) : p.wb c < w.heap.size := World.block_lt_of_cell? _ _ (h.words c 0 hc (by decide))
theorem RmAt.lv {p : RmPl} {s : Rm} {w : World} (h : RmAt p s w) {t k : Nat} (ht : t < s.threads) (hk : (p.wv t).ownBlock = some k) : k < w.heap.size := ((h.waits t ht).2.lt k hk).2

theorem RmAt.fp_lt {p : RmPl} {s : Rm} {w : World} (h : RmAt p s w) {k : Nat} (hk : p.fp s k) : k < w.heap.size := by
  rcases hk with rfl | rfl | rfl | ⟨c, hc, rfl⟩ | ⟨t, ht, hv⟩
  · exact h.lm
  · exact h.lc
  · exact h.lt
  · exact h.lw hc
  · exact h.lv ht hv

theorem RmAt.turns {S : Nat → Nat → Prop} {p : RmPl} {s : Rm} {w w' : World} (h : RmAt p s w) (t : Turns S w w') (hS : ∀ k o, p.fp s k → ¬ S k o) : RmAt p s w' where
  small := h.small
  few := h.few
  mCells := t.keep h.mCells (hS _ _ (Or.inl rfl))
  mWaits := t.keep h.mWaits (hS _ _ (Or.inl rfl))
  ccap := h.ccap
  tcap := h.tcap
  cWords c hc := t.keep (h.cWords c hc) (hS _ _ (Or.inr (Or.inl rfl)))
  cTimes c hc := t.keep (h.cTimes c hc) (hS _ _ (Or.inr (Or.inl rfl)))
  cHere c hc := t.keep (h.cHere c hc) (hS _ _ (Or.inr (Or.inl rfl)))
  wcap := h.wcap
  words c k hc hk := t.keep (h.words c k hc hk) (hS _ _ (Or.inr (Or.inr (Or.inr (Or.inl ⟨c, hc, rfl⟩)))))
  bound := h.bound
  waits u hu := ⟨t.keep (h.waits u hu).1 (hS _ _ (Or.inr (Or.inr (Or.inl rfl)))), ownsRow_block (h.waits u hu).2 fun k hk => t.block k (h.lv hu hk) fun o => hS k o (Or.inr (Or.inr (Or.inr (Or.inr ⟨u, hu, hk⟩))))⟩
  fm o := by rw [t.frozen _ _ h.lm (hS _ _ (Or.inl rfl))]; exact h.fm o
  fc o := by rw [t.frozen _ _ h.lc (hS _ _ (Or.inr (Or.inl rfl)))]; exact h.fc o
  ft o := by rw [t.frozen _ _ h.lt (hS _ _ (Or.inr (Or.inr (Or.inl rfl))))]; exact h.ft o
  fw c o hc := by rw [t.frozen _ _ (h.lw hc) (hS _ _ (Or.inr (Or.inr (Or.inr (Or.inl ⟨c, hc, rfl⟩)))))]; exact h.fw c o hc
  lc := Nat.lt_of_lt_of_le h.lc t.size
  lt := Nat.lt_of_lt_of_le h.lt t.size
  d1 := h.d1
  d2 := h.d2
  d3 := h.d3
  dw := h.dw
  dwi := h.dwi
  dv := h.dv
  dvi := h.dvi

theorem RmAt.below {p : RmPl} {s : Rm} {w w' : World} (h : RmAt p s w) (hb : Below w.heap.size w w') : RmAt p s w' :=
  h.turns (Turns.of_below (S := fun _ _ => False) hb) (fun _ _ _ h => h)
theorem RmAt.alloc {p : RmPl} {s : Rm} {w : World} (h : RmAt p s w) (o : Obj) : RmAt p s (w.alloc o) := h.below ((Below.refl _ _).alloc (Nat.le_refl _) _)

theorem RmAt.drewN {p : RmPl} {s : Rm} {w : World} (h : RmAt p s w) (n : Nat) : RmAt p s (w.drewN n) := h.below (Below.drewN' n)

end Go.Proofs.YtlnjghohgoahpaaGreatDoor
