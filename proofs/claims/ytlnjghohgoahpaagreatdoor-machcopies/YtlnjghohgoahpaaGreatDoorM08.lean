import Derived.Test.YtlnjghohgoahpaaGreatDoorM07
import Derived.BigQuiet
import Derived.Deep.OwnRows

/- RefD -/
namespace Go.Proofs.YtlnjghohgoahpaaGreatDoor
open Go.RowKit Go.Extern.Stop Go.Stop Go.Extern

theorem RmAt.apart {p : RmPl} {s : Rm} {w : World} (h : RmAt p s w) {b o : Nat} (v : Value) (hb : ∀ k, p.fp s k → k ≠ b) : RmAt p s (w.setCell ⟨b, o, none⟩ v) :=
  h.turns (S := fun k _ => k = b) ((Turns.refl _ _).setCell v rfl) (fun k _ hk => hb k hk)

end Go.Proofs.YtlnjghohgoahpaaGreatDoor

/- RefE -/
namespace Go.Proofs.YtlnjghohgoahpaaGreatDoor
open Go.RowKit Go.Extern.Stop Go.Stop Go.Extern

structure NewAt (B mb cb tb cells threads i : Nat) (wb : Nat → Nat) (w : World) : Prop where
  mCells : w.cell? ⟨mb, 0, none⟩ = some (.slice (some ⟨cb, 0, none⟩) cells cells)
  mWaits : w.cell? ⟨mb, 1, none⟩ = some (.slice (some ⟨tb, 0, none⟩) threads threads)
  done : ∀ c, c < i → w.cell? ⟨cb, c * 3, none⟩ = some (.slice (some ⟨wb c, 0, none⟩) 4 4)
  todo : ∀ c, i ≤ c → c < cells → w.cell? ⟨cb, c * 3, none⟩ = some (.slice none 0 0)
  times : ∀ c, c < cells → w.cell? ⟨cb, c * 3 + 1, none⟩ = some (.int .i64 0)
  here : ∀ c, c < cells → w.cell? ⟨cb, c * 3 + 2, none⟩ = some (.bool false)
  words : ∀ c k, c < i → k < 4 → w.cell? ⟨wb c, k, none⟩ = some (.int .i64 0)
  waits : ∀ t, t < threads → w.cell? ⟨tb, t, none⟩ = some (.slice none 0 0)
  fm : ∀ o, w.frozen? ⟨mb, o, none⟩ = false
  fc : ∀ o, w.frozen? ⟨cb, o, none⟩ = false
  ft : ∀ o, w.frozen? ⟨tb, o, none⟩ = false
  fw : ∀ c o, c < i → w.frozen? ⟨wb c, o, none⟩ = false
  lc : cb < w.heap.size
  lt : tb < w.heap.size
  d1 : mb ≠ cb
  d2 : mb ≠ tb
  d3 : cb ≠ tb
  dw : ∀ c, c < i → wb c ≠ mb ∧ wb c ≠ cb ∧ wb c ≠ tb ∧ B ≤ wb c
  dwi : ∀ c d, c < i → d < i → c ≠ d → wb c ≠ wb d
  base : B ≤ mb ∧ B ≤ cb ∧ B ≤ tb

theorem NewAt.lm {B mb cb tb cells threads i : Nat} {wb : Nat → Nat} {w : World} (h : NewAt B mb cb tb cells threads i wb w) : mb < w.heap.size := World.block_lt_of_cell? _ _ h.mCells

theorem cell_new {w : World} {p : Addr} {v : Value} {o : Obj} (h : w.cell? p = some v) : (w.alloc o).cell? p = some v := by
  rw [World.cell?_alloc_lt _ _ _ (World.block_lt_of_cell? _ _ h)]; exact h

theorem NewAt.next {B mb cb tb cells threads i : Nat} {wb : Nat → Nat} {w : World} (h : NewAt B mb cb tb cells threads i wb w) (hi : i < cells) (hB : B ≤ w.heap.size) :
    NewAt B mb cb tb cells threads (i + 1) (fun c => if c = i then w.heap.size else wb c) ((w.alloc (.cells #[.int .i64 0, .int .i64 0, .int .i64 0, .int .i64 0] 3)).setCell ⟨cb, i * 3, none⟩ (.slice (some ⟨w.heap.size, 0, none⟩) 4 4)) := by
  have lm := h.lm
  have lc := h.lc
  have lt := h.lt
  have lw : ∀ c, c < i → wb c < w.heap.size := fun c hc => World.block_lt_of_cell? _ _ (h.words c 0 hc (by decide))
  refine { mCells := cell_ne (cell_new h.mCells) (Or.inl h.d1), mWaits := cell_ne (cell_new h.mWaits) (Or.inl h.d1), done := fun c hc => ?_, todo := fun c hc hcc => cell_ne (cell_new (h.todo c (by omega) hcc)) (Or.inr (by omega)), times := fun c hc => cell_ne (cell_new (h.times c hc)) (Or.inr (by omega)), here := fun c hc => cell_ne (cell_new (h.here c hc)) (Or.inr (by omega)), words := fun c k hc hk => ?_, waits := fun t ht => cell_ne (cell_new (h.waits t ht)) (Or.inl (Ne.symm h.d3)), fm := fun o => ?_, fc := fun o => ?_, ft := fun o => ?_, fw := fun c o hc => ?_, lc := by simp; omega, lt := by simp; omega, d1 := h.d1, d2 := h.d2, d3 := h.d3, dw := fun c hc => ?_, dwi := fun c d hc hd hcd => ?_, base := h.base }
  · by_cases e : c = i
    · subst e
      rw [if_pos rfl]
      exact World.cell?_setCell_same _ _ _ (cell_new (h.todo c (Nat.le_refl _) hi))
    · rw [if_neg e]
      exact cell_ne (cell_new (h.done c (by omega))) (Or.inr (by omega))
  · by_cases e : c = i
    · subst e
      rw [if_pos rfl]
      refine cell_ne ?_ (Or.inl (by omega))
      rw [World.cell?_alloc_new]
      match k, hk with
      | 0, _ => rfl
      | 1, _ => rfl
      | 2, _ => rfl
      | 3, _ => rfl
    · rw [if_neg e]
      exact cell_ne (cell_new (h.words c k (by omega) hk)) (Or.inl (h.dw c (by omega)).2.1)
  · rw [World.frozen?_setCell, World.frozen?_alloc_old _ _ _ (Nat.ne_of_lt lm)]; exact h.fm o
  · rw [World.frozen?_setCell, World.frozen?_alloc_old _ _ _ (Nat.ne_of_lt lc)]; exact h.fc o
  · rw [World.frozen?_setCell, World.frozen?_alloc_old _ _ _ (Nat.ne_of_lt lt)]; exact h.ft o
  · rw [World.frozen?_setCell]
    by_cases e : c = i
    · rw [if_pos e]; exact World.frozen?_alloc_new _ _ _ _
    · rw [if_neg e, World.frozen?_alloc_old _ _ _ (Nat.ne_of_lt (lw c (by omega)))]; exact h.fw c o (by omega)
  · by_cases e : c = i
    · rw [if_pos e]; exact ⟨by omega, by omega, by omega, hB⟩
    · rw [if_neg e]; exact h.dw c (by omega)
  · by_cases e : c = i
    · rw [if_pos e, if_neg (fun e' => hcd (e.trans e'.symm))]
      have := lw d (by omega)
      omega
    · rw [if_neg e]
      by_cases e' : d = i
      · rw [if_pos e']
        have := lw c (by omega)
        omega
      · rw [if_neg e']
        exact h.dwi c d (by omega) (by omega) hcd

def Rm.fresh (cells threads : Nat) : Rm := ⟨⟨cells, fun _ _ => 0, fun _ => false, fun _ => 0⟩, threads, fun _ => []⟩

theorem NewAt.at {B mb cb tb cells threads : Nat} {wb : Nat → Nat} {w : World} (h : NewAt B mb cb tb cells threads cells wb w) (hc : cells ≤ 64) (ht : threads ≤ 6) :
    RmAt ⟨mb, cb, tb, cells, threads, wb, fun _ => 4, fun _ => .slice none 0 0⟩ (Rm.fresh cells threads) w where
  small := hc
  few := ht
  mCells := h.mCells
  mWaits := h.mWaits
  ccap := Nat.le_refl _
  tcap := Nat.le_refl _
  cWords := h.done
  cTimes := h.times
  cHere := h.here
  wcap _ _ := Nat.le_refl _
  words := h.words
  bound _ := by show 0 < 4611686018427387904; decide
  waits t ht := ⟨h.waits t ht, World.ownsRow_nil _ _ _ _⟩
  fm := h.fm
  fc := h.fc
  ft := h.ft
  fw := h.fw
  lc := h.lc
  lt := h.lt
  d1 := h.d1
  d2 := h.d2
  d3 := h.d3
  dw c hc := ⟨(h.dw c hc).1, (h.dw c hc).2.1, (h.dw c hc).2.2.1⟩
  dwi := h.dwi
  dv _ _ _ hk := by cases hk
  dvi _ _ _ _ _ _ hk := by cases hk

theorem NewAt.fp {B mb cb tb cells threads : Nat} {wb : Nat → Nat} {w : World} (h : NewAt B mb cb tb cells threads cells wb w) (k : Nat) (hk : (⟨mb, cb, tb, cells, threads, wb, fun _ => 4, fun _ => .slice none 0 0⟩ : RmPl).fp (Rm.fresh cells threads) k) : B ≤ k := by
  rcases hk with h1 | h1 | h1 | ⟨c, hc, h1⟩ | ⟨t, ht, h1⟩
  · rw [h1]; exact h.base.1
  · rw [h1]; exact h.base.2.1
  · rw [h1]; exact h.base.2.2
  · rw [h1]; exact (h.dw c hc).2.2.2
  · cases h1

theorem NewAt.drew {B mb cb tb cells threads i : Nat} {wb : Nat → Nat} {w : World} (h : NewAt B mb cb tb cells threads i wb w) : NewAt B mb cb tb cells threads i wb w.drew :=
  ⟨h.mCells, h.mWaits, h.done, h.todo, h.times, h.here, h.words, h.waits, h.fm, h.fc, h.ft, h.fw, h.lc, h.lt, h.d1, h.d2, h.d3, h.dw, h.dwi, h.base⟩

theorem heap_new (w : World) (o : Obj) : (w.alloc o).heap[w.heap.size]? = some o := by show (w.heap.push o)[w.heap.size]? = _; simp
end Go.Proofs.YtlnjghohgoahpaaGreatDoor
