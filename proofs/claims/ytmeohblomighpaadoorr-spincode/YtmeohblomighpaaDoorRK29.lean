import Derived.Test.YtmeohblomighpaaDoorRK28
import Derived.Test.YtmeohblomighpaaDoorRK16
import Derived.Test.YtmeohblomighpaaDoorRK07
import Derived.Laws.BitsLemmas
import Derived.Test.YtmeohblomighpaaDoorRK17

/- RkE -/
namespace Go.Proofs.YtmeohblomighpaaDoorR
open Go.RowKit

structure RkX (cs : List (List Ins)) (p : RkPl) (m : Mk) (K : Nat) (w : World) : Prop where
  at' : RkAt cs p m w
  ok : MkOk cs.length K m
  right : Right cs
  hK : K ≤ 10000000
theorem RkX.below {cs : List (List Ins)} {p : RkPl} {m : Mk} {K : Nat} {w w' : World} (h : RkX cs p m K w) (hb : Below w.heap.size w w') : RkX cs p m K w' := ⟨h.at'.below hb, h.ok, h.right, h.hK⟩
theorem RkX.faults {cs : List (List Ins)} {p : RkPl} {m : Mk} {K : Nat} {w : World} (h : RkX cs p m K w) : m.faults ≤ 900000000 := by have := h.ok.faults; have := h.hK; omega
theorem RkX.waits {cs : List (List Ins)} {p : RkPl} {m : Mk} {K : Nat} {w : World} (h : RkX cs p m K w) {t : Nat} (ht : t < cs.length) : ∀ x ∈ m.mem.waits t, x.Ok := h.ok.mem.ok t (by rw [h.ok.thr]; exact ht)
theorem RkX.few {cs : List (List Ins)} {p : RkPl} {m : Mk} {K : Nat} {w : World} (h : RkX cs p m K w) {t : Nat} (ht : t < cs.length) : (m.mem.waits t).length ≤ 8 := h.ok.mem.few t (by rw [h.ok.thr]; exact ht)

structure Stg (cs : List (List Ins)) (p : RkPl) (s : Rm) (w0 : World) (bx : Nat) (r : RmPl) (v : Value) (m : Mk) (W : World) : Prop where
  step : RkStep cs p s w0 r v m W
  ge : w0.heap.size ≤ bx
  nfp : ¬ (p.to r v).fp cs.length m.mem bx
  lt : bx < W.heap.size

section
variable {cs : List (List Ins)} {p : RkPl} {s : Rm} {w0 : World} {bx : Nat} {r r2 : RmPl} {v v2 : Value} {m m2 : Mk} {W W' : World}
theorem Stg.below (h : Stg cs p s w0 bx r v m W) (k : Below W.heap.size W W') : Stg cs p s w0 bx r v m W' := ⟨h.step.below k, h.ge, h.nfp, Nat.lt_of_lt_of_le h.lt k.size⟩
theorem Stg.trans (h : Stg cs p s w0 bx r v m W) (k : RkStep cs (p.to r v) m.mem W r2 v2 m2 W') : Stg cs p s w0 bx r2 v2 m2 W' := ⟨h.step.trans k, h.ge, fun e => by
  rcases k.fp bx e with e | e
  · exact h.nfp e
  · have := h.lt; omega, Nat.lt_of_lt_of_le h.lt k.turns.size⟩
theorem Stg.first (h : RkAt cs p m w0) (k : Below w0.heap.size w0 W) (hb : w0.heap.size ≤ bx) (hl : bx < W.heap.size) : Stg cs p m.mem w0 bx p.rp p.mv m W := ⟨RkStep.of_below' h k, hb, fun e => by have := h.fp_lt e; omega, hl⟩
theorem Stg.other {bx' : Nat} (h : Stg cs p s w0 bx r v m W) (hl : W.heap.size ≤ bx') (k : Below W.heap.size W W') (h2 : bx' < W'.heap.size) : Stg cs p s w0 bx' r v m W' := ⟨h.step.below k, by have := h.step.turns.size; omega, fun e => by have := h.step.at'.fp_lt e; omega, h2⟩
theorem Stg.keep (h : Stg cs p s w0 bx r v m W) (k : RkStep cs (p.to r v) m.mem W r2 v2 m2 W') {o : Nat} {u : Value} (hc : W.cell? ⟨bx, o, none⟩ = some u) : W'.cell? ⟨bx, o, none⟩ = some u := k.turns.keep hc h.nfp
theorem Stg.ne (h : Stg cs p s w0 bx r v m W) : bx ≠ p.k ∧ bx ≠ p.tb ∧ (∀ t, t < cs.length → bx ≠ p.rb t) := ⟨fun e => h.nfp (.inl e), fun e => h.nfp (.inr (.inl e)), fun t ht e => h.nfp (.inr (.inr (.inl ⟨t, ht, e⟩)))⟩
end
end Go.Proofs.YtmeohblomighpaaDoorR

/- RkI -/
namespace Go.Proofs.YtmeohblomighpaaDoorR
open Go.RowKit Go.Extern.Stop Go.Stop Go.Extern Go.Sort

theorem rnames_has {m : Mk} {n : Int} (h : m.names n = true) : m.mem.ar.has (cellOf n) (genOf n) = true := ((Bool.and_eq_true _ _).mp h).2
section
variable {cs : List (List Ins)} {p : RkPl} {m : Mk} {w : World}
theorem RkAt.cellAt (_h : RkAt cs p m w) {n : Int} (hy : m.names n = true) : ∃ k : Nat, cellOf n = k ∧ k < m.mem.ar.size ∧ m.mem.ar.has k (genOf n) = true := by
  have hh := rnames_has hy
  obtain ⟨k, hc, hk, -, -⟩ := Ar.has_lt hh
  exact ⟨k, hc, hk, by rw [← hc]; exact hh⟩

end
end Go.Proofs.YtmeohblomighpaaDoorR
