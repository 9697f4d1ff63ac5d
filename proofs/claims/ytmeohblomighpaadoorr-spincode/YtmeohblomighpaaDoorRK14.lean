import Derived.Test.YtmeohblomighpaaDoorRK13
import Derived.Deep.RegionWith
import Derived.Test.YtmeohblomighpaaDoorRK11

/- MemG -/
namespace Go.Proofs.YtmeohblomighpaaDoorR
open Go.RowKit Go.Extern.Stop Go.Stop Go.Extern Go.Sort

def Wt.Ok (x : Wt) : Prop := (0 ≤ x.w ∧ x.w < 4) ∧ (0 ≤ x.v ∧ x.v < 4294967296)

structure EnvB (a : Nat → Addr) (B : Nat) (w : World) : Prop where
  ex : ∃ W, EnvM a W ∧ W.heap.size = B ∧ Below B W w
theorem EnvB.env {a : Nat → Addr} {B : Nat} {w : World} (h : EnvB a B w) : EnvM a w := by
  obtain ⟨W, h1, rfl, h3⟩ := h.ex
  exact h1.below h3.block
theorem EnvB.size {a : Nat → Addr} {B : Nat} {w : World} (h : EnvB a B w) : B ≤ w.heap.size := by
  obtain ⟨W, h1, rfl, h3⟩ := h.ex
  exact h3.size
theorem EnvB.turns {S : Nat → Nat → Prop} {a : Nat → Addr} {B : Nat} {w w' : World} (h : EnvB a B w) (t : Turns S w w') (hS : ∀ k o, S k o → B ≤ k) : EnvB a B w' := by
  obtain ⟨W, h1, rfl, h3⟩ := h.ex
  exact ⟨W, h1, rfl, h3.trans (t.below h3.size (fun k o hk hs => by have := hS k o hs; omega))⟩
theorem EnvB.below {a : Nat → Addr} {B : Nat} {w w' : World} (h : EnvB a B w) (t : Below w.heap.size w w') : EnvB a B w' :=
  h.turns (Turns.of_below (S := fun _ _ => False) t) (fun _ _ h => h.elim)
theorem EnvB.step {a : Nat → Addr} {B b : Nat} {s : Rm} {w w' : World} (h : EnvB a B w) (hB : B ≤ b) (t : MmStep b w s w') : EnvB a B w' := h.turns t.turns (fun k _ e => by rw [e.1]; exact hB)

end Go.Proofs.YtmeohblomighpaaDoorR

/- MemI -/
namespace Go.Proofs.YtmeohblomighpaaDoorR
open Go.RowKit Go.Extern.Stop Go.Stop Go.Extern Go.Sort

def Rm.Ok (s : Rm) : Prop := ∀ t, t < s.threads → ∀ x ∈ s.waits t, x.Ok

theorem Rm.Ok.drainAll {s : Rm} (h : s.Ok) (t : Nat) : (s.drainAll t (s.waits t)).Ok := by
  intro u hu x hx
  obtain ⟨-, -, -, h4⟩ := s.drainAll_ar (s.waits t) t
  rw [h4] at hu
  by_cases e : u = t
  · subst e
    rw [Rm.drainAll_waits _ _ _ rfl] at hx
    cases hx
  · rw [Rm.drainAll_waits_ne _ _ _ e] at hx
    exact h u hu x hx

end Go.Proofs.YtmeohblomighpaaDoorR
