import Derived.Test.YthfdkngmdaehiaaDoorJ10
import Derived.Deep.RegionWith
import Derived.Test.YthfdkngmdaehiaaDoorJ08

/- MemG -/
namespace Go.Proofs.YthfdkngmdaehiaaDoor
open Go.RowKit Go.Extern.Stop Go.Stop Go.Extern Go.Sort

def Wt.Ok (x : Wt) : Prop := (0 ≤ x.w ∧ x.w < 4) ∧ (0 ≤ x.v ∧ x.v < 4294967296)

end Go.Proofs.YthfdkngmdaehiaaDoor

/- MemI -/
namespace Go.Proofs.YthfdkngmdaehiaaDoor
open Go.RowKit Go.Extern.Stop Go.Stop Go.Extern Go.Sort

def Rm.Ok (s : Rm) : Prop := ∀ t, t < s.threads → ∀ x ∈ s.waits t, x.Ok

theorem Rm.Ok.drainAll {s : Rm} (h : s.Ok) (t : Nat) : (s.drainAll t (s.waits t)).Ok := by
  intro u hu x hx
  obtain ⟨-, -, -, h4⟩ := s.drainAll_ar (s.waits t) t
  rw [h4] at hu
  by_cases e : u = t
  · subst e
    rw [Rm.drainAll_waits _ _ _ rfl] at hx
    cases hx
  · rw [Rm.drainAll_waits_ne _ _ _ e] at hx
    exact h u hu x hx

end Go.Proofs.YthfdkngmdaehiaaDoor
