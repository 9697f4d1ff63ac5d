import Derived.Test.YtmeohblomighpaaDoorRK08
import Derived.BigQuiet
import Derived.Deep.OwnRows

/- RefD -/
namespace Go.Proofs.YtmeohblomighpaaDoorR
open Go.RowKit Go.Extern.Stop Go.Stop Go.Extern

theorem RmAt.apart {p : RmPl} {s : Rm} {w : World} (h : RmAt p s w) {b o : Nat} (v : Value) (hb : ∀ k, p.fp s k → k ≠ b) : RmAt p s (w.setCell ⟨b, o, none⟩ v) :=
  h.turns (S := fun k _ => k = b) ((Turns.refl _ _).setCell v rfl) (fun k _ hk => hb k hk)

end Go.Proofs.YtmeohblomighpaaDoorR

/- RefE -/
namespace Go.Proofs.YtmeohblomighpaaDoorR
open Go.RowKit Go.Extern.Stop Go.Stop Go.Extern

structure NewAt (B mb cb tb cells threads i : Nat) (wb : Nat → Nat) (w : World) : Prop where
  mCells : w.cell? ⟨mb, 0, none⟩ = some (.slice (some ⟨cb, 0, none⟩) cells cells)
  mWaits : w.cell? ⟨mb, 1, none⟩ = some (.slice (some ⟨tb, 0, none⟩) threads threads)
  done : ∀ c, c < i → w.cell? ⟨cb, c * 3, none⟩ = some (.slice (some ⟨wb c, 0, none⟩) 4 4)
  todo : ∀ c, i ≤ c → c < cells → w.cell? ⟨cb, c * 3, none⟩ = some (.slice none 0 0)
  times : ∀ c, c < cells → w.cell? ⟨cb, c * 3 + 1, none⟩ = some (.int .i64 0)
  here : ∀ c, c < cells → w.cell? ⟨cb, c * 3 + 2, none⟩ = some (.bool false)
  words : ∀ c k, c < i → k < 4 → w.cell? ⟨wb c, k, none⟩ = some (.int .i64 0)
  waits : ∀ t, t < threads → w.cell? ⟨tb, t, none⟩ = some (.slice none 0 0)
  fm : ∀ o, w.frozen? ⟨mb, o, none⟩ = false
  fc : ∀ o, w.frozen? ⟨cb, o, none⟩ = false
  ft : ∀ o, w.frozen? ⟨tb, o, none⟩ = false
  fw : ∀ c o, c < i → w.frozen? ⟨wb c, o, none⟩ = false
  lc : cb < w.heap.size
  lt : tb < w.heap.size
  d1 : mb ≠ cb
  d2 : mb ≠ tb
  d3 : cb ≠ tb
  dw : ∀ c, c < i → wb c ≠ mb ∧ wb c ≠ cb ∧ wb c ≠ tb ∧ B ≤ wb c
  dwi : ∀ c d, c < i → d < i → c ≠ d → wb c ≠ wb d
  base : B ≤ mb ∧ B ≤ cb ∧ B ≤ tb

theorem NewAt.lm {B mb cb tb cells threads i : Nat} {wb : Nat → Nat} {w : World} (h : NewAt B mb cb tb cells threads i wb w) : mb < w.heap.size := World.block_lt_of_cell? _ _ h.mCells

def Rm.fresh (cells threads : Nat) : Rm := ⟨⟨cells, fun _ _ => 0, fun _ => false, fun _ => 0⟩, threads, fun _ => []⟩

theorem NewAt.at {B mb cb tb cells threads : Nat} {wb : Nat → Nat} {w : World} (h : NewAt B mb cb tb cells threads cells wb w) (hc : cells ≤ 64) (ht : threads ≤ 6) :
    RmAt ⟨mb, cb, tb, cells, threads, wb, fun _ => 4, fun _ => .slice none 0 0⟩ (Rm.fresh cells threads) w where
  small := hc
  few := ht
  mCells := h.mCells
  mWaits := h.mWaits
  ccap := Nat.le_refl _
  tcap := Nat.le_refl _
  cWords := h.done
  cTimes := h.times
  cHere := h.here
  wcap _ _ := Nat.le_refl _
  words := h.words
  bound _ := by show 0 < 4611686018427387904; decide
  waits t ht := ⟨h.waits t ht, World.ownsRow_nil _ _ _ _⟩
  fm := h.fm
  fc := h.fc
  ft := h.ft
  fw := h.fw
  lc := h.lc
  lt := h.lt
  d1 := h.d1
  d2 := h.d2
  d3 := h.d3
  dw c hc := ⟨(h.dw c hc).1, (h.dw c hc).2.1, (h.dw c hc).2.2.1⟩
  dwi := h.dwi
  dv _ _ _ hk := by cases hk
  dvi _ _ _ _ _ _ hk := by cases hk

theorem NewAt.fp {B mb cb tb cells threads : Nat} {wb : Nat → Nat} {w : World} (h : NewAt B mb cb tb cells threads cells wb w) (k : Nat) (hk : (⟨mb, cb, tb, cells, threads, wb, fun _ => 4, fun _ => .slice none 0 0⟩ : RmPl).fp (Rm.fresh cells threads) k) : B ≤ k := by
  rcases hk with h1 | h1 | h1 | ⟨c, hc, h1⟩ | ⟨t, ht, h1⟩
  · rw [h1]; exact h.base.1
  · rw [h1]; exact h.base.2.1
  · rw [h1]; exact h.base.2.2
  · rw [h1]; exact (h.dw c hc).2.2.2
  · cases h1

theorem heap_new (w : World) (o : Obj) : (w.alloc o).heap[w.heap.size]? = some o := by show (w.heap.push o)[w.heap.size]? = _; simp
end Go.Proofs.YtmeohblomighpaaDoorR
