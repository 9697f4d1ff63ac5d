import Derived.Test.YtaiigfcfmcicjaaGreatDoorB09
import Derived.Deep.RegionWith

/- MemC -/
namespace Go.Proofs.YtaiigfcfmcicjaaGreatDoor
open Go.RowKit Go.Extern.Stop Go.Stop Go.Extern

def waitsFor (l : List Wt) (c g k : Int) : Bool := decide (l.foldl (Wt.pick c g k) 0 = l.foldl (Wt.pick c g k) 1)

end Go.Proofs.YtaiigfcfmcicjaaGreatDoor

/- MemD -/
namespace Go.Proofs.YtaiigfcfmcicjaaGreatDoor
open Go.RowKit Go.Extern.Stop Go.Stop Go.Extern Go.Sort

structure MmAt (b : Nat) (s : Rm) (w : World) : Prop where
  ar : ArAt b 0 s.ar w
  few : s.threads ≤ 6
  nt : w.cell? ⟨b, 385, none⟩ = some (.int .i64 s.threads)
  line : ∀ t, t < s.threads → LnAt b (386 + t * 33) (s.waits t) w
  rest : ∀ o, 386 + s.threads * 33 ≤ o → o < 584 → w.cell? ⟨b, o, none⟩ = some (.int .i64 0)

theorem MmAt.lt {b : Nat} {s : Rm} {w : World} (h : MmAt b s w) : b < w.heap.size := World.block_lt_of_cell? _ _ h.nt
theorem MmAt.turns {S : Nat → Nat → Prop} {b : Nat} {s : Rm} {w w' : World} (h : MmAt b s w) (t : Turns S w w') (hS : ∀ o, o < 584 → ¬ S b o) : MmAt b s w' where
  ar := h.ar.turns t (fun _ _ => hS _ (by omega))
  few := h.few
  nt := t.keep h.nt (hS _ (by omega))
  line u hu := (h.line u hu).turns t (fun _ _ => hS _ (by have := h.few; omega))
  rest o h1 h2 := t.keep (h.rest o h1 h2) (hS o h2)
theorem MmAt.below {b : Nat} {s : Rm} {w w' : World} (h : MmAt b s w) (hb : Below w.heap.size w w') : MmAt b s w' :=
  h.turns (Turns.of_below (S := fun _ _ => False) hb) (fun _ _ h => h)
theorem MmAt.alloc {b : Nat} {s : Rm} {w : World} (h : MmAt b s w) (ob : Obj) : MmAt b s (w.alloc ob) := h.below ((Below.refl _ _).alloc (Nat.le_refl _) _)
theorem MmAt.drewN {b : Nat} {s : Rm} {w : World} (h : MmAt b s w) (n : Nat) : MmAt b s (w.drewN n) := h.below (Below.drewN' n)

structure MmStep (b : Nat) (w : World) (s' : Rm) (w' : World) : Prop where
  at' : MmAt b s' w'
  turns : Turns (fun k o => k = b ∧ o < 584) w w'

theorem MmStep.refl {b : Nat} {s : Rm} {w : World} (h : MmAt b s w) : MmStep b w s w := ⟨h, Turns.refl _ _⟩
theorem MmStep.trans {b : Nat} {s s' : Rm} {w w' w2 : World} (h : MmStep b w s w') (k : MmStep b w' s' w2) : MmStep b w s' w2 := ⟨k.at', h.turns.trans k.turns⟩
theorem MmStep.below {b : Nat} {s : Rm} {w w' w2 : World} (h : MmStep b w s w') (k : Below w'.heap.size w' w2) : MmStep b w s w2 := ⟨h.at'.below k, h.turns.trans (Turns.of_below k)⟩
theorem MmStep.of_below {b : Nat} {s : Rm} {w0 w w' : World} (k : Below w0.heap.size w0 w) (h : MmStep b w s w') : MmStep b w0 s w' := ⟨h.at', (Turns.of_below k).trans h.turns⟩
end Go.Proofs.YtaiigfcfmcicjaaGreatDoor

/- MemG -/
namespace Go.Proofs.YtaiigfcfmcicjaaGreatDoor
open Go.RowKit Go.Extern.Stop Go.Stop Go.Extern Go.Sort

def Wt.Ok (x : Wt) : Prop := (0 ≤ x.w ∧ x.w < 4) ∧ (0 ≤ x.v ∧ x.v < 4294967296)

structure EnvB (a : Nat → Addr) (B : Nat) (w : World) : Prop where
  ex : ∃ W, EnvM a W ∧ W.heap.size = B ∧ Below B W w
theorem EnvB.of {a : Nat → Addr} {w w' : World} (h : EnvM a w) (hb : Below w.heap.size w w') : EnvB a w.heap.size w' := ⟨w, h, rfl, hb⟩
theorem EnvB.env {a : Nat → Addr} {B : Nat} {w : World} (h : EnvB a B w) : EnvM a w := by
  obtain ⟨W, h1, rfl, h3⟩ := h.ex
  exact h1.below h3.block
theorem EnvB.size {a : Nat → Addr} {B : Nat} {w : World} (h : EnvB a B w) : B ≤ w.heap.size := by
  obtain ⟨W, h1, rfl, h3⟩ := h.ex
  exact h3.size
theorem EnvB.turns {S : Nat → Nat → Prop} {a : Nat → Addr} {B : Nat} {w w' : World} (h : EnvB a B w) (t : Turns S w w') (hS : ∀ k o, S k o → B ≤ k) : EnvB a B w' := by
  obtain ⟨W, h1, rfl, h3⟩ := h.ex
  exact ⟨W, h1, rfl, h3.trans (t.below h3.size (fun k o hk hs => by have := hS k o hs; omega))⟩
theorem EnvB.below {a : Nat → Addr} {B : Nat} {w w' : World} (h : EnvB a B w) (t : Below w.heap.size w w') : EnvB a B w' :=
  h.turns (Turns.of_below (S := fun _ _ => False) t) (fun _ _ h => h.elim)
theorem EnvB.step {a : Nat → Addr} {B b : Nat} {s : Rm} {w w' : World} (h : EnvB a B w) (hB : B ≤ b) (t : MmStep b w s w') : EnvB a B w' := h.turns t.turns (fun k _ e => by rw [e.1]; exact hB)

end Go.Proofs.YtaiigfcfmcicjaaGreatDoor
