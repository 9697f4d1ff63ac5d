import Derived.Test.YtaiigfcfmcicjaaGreatDoorF42
import Derived.Maps.AppendAt
import Derived.Deep.RegionHeld3
namespace Go.Proofs.YtaiigfcfmcicjaaGreatDoor
set_option maxRecDepth 100000
set_option maxHeartbeats 8000000
section
open Go.RowKit Go.Extern.Stop Go.Stop Go.Extern
theorem rmarkInfo : ∃ i, Tryz.prog.info? 77 = some i /\ i.zero = some (.agg #[.int .i64 0, .int .i64 0]) /\ i.size = 2 /\ i.bytes = 16 := info_parts (by kernel_rfl)
theorem RkAt.marked {cs : List (List Ins)} {p : RkPl} {m : Mk} {w w6 : World} (h : RkAt cs p m w) (v : Value) (l : List (Nat × Int))
  (hown : w6.ownsRow 0 77 2 v l.length (rmarkCells l)) (hT : Turns (fun k _ => p.mv.ownBlock = some k) w w6) (hk : ∀ k, v.ownBlock = some k -> p.mv.ownBlock = some k ∨ w.heap.size <= k) :
  RkStep cs p m.mem w p.rp v { m with marks := l } (w6.setCell ⟨p.k, 2, none⟩ v) := by
 have nk : ∀ o : Nat, ¬ (fun k (_ : Nat) => p.mv.ownBlock = some k) p.k o := fun _ e => (h.d4 _ e).1 rfl
 have nt : ∀ o : Nat, ¬ (fun k (_ : Nat) => p.mv.ownBlock = some k) p.tb o := fun _ e => (h.d4 _ e).2.1 rfl
 have nr : ∀ t (o : Nat), t < cs.length -> ¬ (fun k (_ : Nat) => p.mv.ownBlock = some k) (p.rb t) o := fun t _ ht e => (h.d4 _ e).2.2 t ht rfl
 have nv : ∀ k, v.ownBlock = some k -> k ≠ p.k /\ k ≠ p.tb /\ ∀ t, t < cs.length -> k ≠ p.rb t := fun k e => by
  rcases hk k e with e | e
  ·exact h.d4 k e
  ·have h1 := h.lk
   have h2 := h.lt'
   exact ⟨by omega, by omega, fun t ht => by have := h.lr ht; omega⟩
 have T : Turns (fun k o => k = p.k /\ o = 2) w6 (w6.setCell ⟨p.k, 2, none⟩ v) := (Turns.refl _ _).setCell _ ⟨rfl, rfl⟩
 have T2 : Turns (fun k _ => p.mv.ownBlock = some k ∨ k = p.k) w (w6.setCell ⟨p.k, 2, none⟩ v) := (hT.mono fun _ _ _ e => Or.inl e).setCell _ (Or.inr rfl)
 have hB : ∀ k, p.mv.ownBlock = some k ∨ k = p.k -> p.B <= k := fun k e => by
  rcases e with e | e
  ·exact h.ge k (.inr (.inr (.inr (.inl e))))
  ·exact h.ge k (.inl e)
 have dk := h.d1
 have fz1 : ∀ o, (w6.setCell ⟨p.k, 2, none⟩ v).frozen? ⟨p.k, o, none⟩ = false := fun o => by rw [World.frozen?_setCell, hT.frozen _ _ h.lk (nk o)]; exact h.fk o
 have fz2 : ∀ o, (w6.setCell ⟨p.k, 2, none⟩ v).frozen? ⟨p.tb, o, none⟩ = false := fun o => by rw [World.frozen?_setCell, hT.frozen _ _ h.lt' (nt o)]; exact h.ft o
 have fz3 : ∀ t o, t < cs.length -> (w6.setCell ⟨p.k, 2, none⟩ v).frozen? ⟨p.rb t, o, none⟩ = false := fun t o ht => by rw [World.frozen?_setCell, hT.frozen _ _ (h.lr ht) (nr t o ht)]; exact h.fr t o ht
 refine ⟨⟨h.rc.turns T2 (fun k _ e => hB k e), h.mem.turns T2 (fun k o e1 e => ?_), h.thr, h.few, h.tcap, cell_ne (hT.keep h.mM (nk 0)) (Or.inr (by decide)), cell_ne (hT.keep h.mT (nk 1)) (Or.inr (by decide)),
   World.cell?_setCell_same _ _ _ (hT.keep h.mMarks (nk 2)), cell_ne (hT.keep h.mFaults (nk 3)) (Or.inr (by decide)),
   fun i L hi => cell_ne (hT.keep (h.tCode i L hi) (nt (i * 3))) (Or.inl dk.symm), h.ccap, fun i hi => cell_ne (hT.keep (h.tRegs i hi) (nt (i * 3 + 1))) (Or.inl dk.symm), fun i hi => cell_ne (hT.keep (h.tAt i hi) (nt (i * 3 + 2))) (Or.inl dk.symm), h.rcap,
   fun i k hi hk => cell_ne (hT.keep (h.regs i k hi hk) (nr i k hi)) (Or.inl (h.d2 i hi).1),
   ownsRow_block hown fun k hk => Below.heap_setCell _ _ _ _ (nv k hk).1,
   fz1, fz2, fz3, by rw [World.size_setCell]; exact Nat.lt_of_lt_of_le h.lt' hT.size, h.d1, h.d2, h.d3, nv, fun k e1 => ?_, fun k e1 => ?_⟩, ?_, fun k e1 => ?_, rfl⟩
 ·rcases e with e | e
  ·exact (h.d5 k e1).2.2.2 e
  ·exact (h.d5 k e1).1 e
 ·obtain ⟨g1, g2, g3, g4⟩ := h.d5 k e1
  refine ⟨g1, g2, g3, fun e => ?_⟩
  rcases hk k e with e | e
  ·exact g4 e
  ·have := h.mem.fp_lt e1; omega
 ·rcases e1 with e | e | e | e | e
  ·exact h.ge k (.inl e)
  ·exact h.ge k (.inr (.inl e))
  ·exact h.ge k (.inr (.inr (.inl e)))
  ·rcases hk k e with e | e
   ·exact h.ge k (.inr (.inr (.inr (.inl e))))
   ·have := h.rc.size; show p.B <= k; omega
  ·exact h.ge k (.inr (.inr (.inr (.inr e))))
 ·refine T2.mono fun k _ _ e => ?_
  rcases e with e | e
  ·exact .inr (.inr (.inr (.inl e)))
  ·exact .inl e
 ·rcases e1 with e | e | e | e | e
  ·exact .inl (.inl e)
  ·exact .inl (.inr (.inl e))
  ·exact .inl (.inr (.inr (.inl e)))
  ·rcases hk k e with e | e
   ·exact .inl (.inr (.inr (.inr (.inl e))))
   ·exact .inr e
  ·exact .inl (.inr (.inr (.inr (.inr e))))
end
end Go.Proofs.YtaiigfcfmcicjaaGreatDoor
