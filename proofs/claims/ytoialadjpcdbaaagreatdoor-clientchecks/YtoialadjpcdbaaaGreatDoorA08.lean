import Derived.Test.YtoialadjpcdbaaaGreatDoorA07
import Derived.Deep.RegionHeld3
import Derived.Deep.AppendLies
import Derived.Deep.RegionLaw

/- RefH -/
namespace Go.Proofs.YtoialadjpcdbaaaGreatDoor
open Go.RowKit Go.Extern.Stop Go.Stop Go.Extern

def Rm.drained (s : Rm) (t : Nat) (x : Wt) (l : List Wt) : Rm :=
  if s.ar.has x.c x.g = true then (s.setWaits t l).setWord x.c.toNat x.w.toNat x.v else s.setWaits t l

end Go.Proofs.YtoialadjpcdbaaaGreatDoor

/- RefI -/
namespace Go.Proofs.YtoialadjpcdbaaaGreatDoor
open Go.RowKit Go.Extern.Stop Go.Stop Go.Extern

def Rm.drainAll (s : Rm) (t : Nat) : List Wt → Rm
  | [] => s
  | x :: l => (s.drained t x l).drainAll t l

def Rm.gone (s : Rm) (t : Nat) : List Wt → Nat
  | [] => 0
  | x :: l => (if s.ar.has x.c x.g = true then 0 else 1) + (s.drained t x l).gone t l

theorem Rm.drained_waits (s : Rm) (t : Nat) (x : Wt) (l : List Wt) : (s.drained t x l).waits t = l := by
  unfold Rm.drained
  split
  · simp [Rm.setWord, Rm.setWaits]
  · simp [Rm.setWaits]

theorem Rm.drained_threads (s : Rm) (t : Nat) (x : Wt) (l : List Wt) : (s.drained t x l).threads = s.threads := by
  unfold Rm.drained
  split <;> rfl

theorem Rm.gone_le (l : List Wt) (t : Nat) : ∀ s : Rm, s.gone t l ≤ l.length := by
  induction l with
  | nil => intro s; exact Nat.zero_le _
  | cons x l ih =>
    intro s
    have := ih (s.drained t x l)
    rw [Rm.gone, List.length_cons]
    split <;> omega

end Go.Proofs.YtoialadjpcdbaaaGreatDoor

/- RefJ -/
namespace Go.Proofs.YtoialadjpcdbaaaGreatDoor
open Go.RowKit Go.Extern.Stop Go.Stop Go.Extern

theorem RmStep.setThere {p : RmPl} {s : Rm} {w : World} (h : RmAt p s w) (c : Nat) (hc : c < s.ar.size) (b : Bool) : RmStep p s w p (s.setThere c b) (w.setCell ⟨p.cb, c * 3 + 2, none⟩ (.bool b)) :=
  ⟨rfl, rfl, h.setThere c hc b, (Turns.refl _ _).setCell _ (Or.inr (Or.inl rfl)), fun _ hk => Or.inl hk⟩

theorem RmStep.setWord {p : RmPl} {s : Rm} {w : World} (h : RmAt p s w) (c m : Nat) (hc : c < s.ar.size) (hm : m < 4) (v : Int) : RmStep p s w p (s.setWord c m v) (w.setCell ⟨p.wb c, m, none⟩ (.int .i64 v)) :=
  ⟨rfl, rfl, h.setWord c m hc hm v, (Turns.refl _ _).setCell _ (Or.inr (Or.inr (Or.inr (Or.inl ⟨c, hc, rfl⟩)))), fun _ hk => Or.inl hk⟩

theorem Rm.drained_ar (s : Rm) (t : Nat) (x : Wt) (l : List Wt) : (s.drained t x l).ar.size = s.ar.size ∧ (s.drained t x l).ar.there = s.ar.there ∧ (s.drained t x l).ar.given = s.ar.given := by
  unfold Rm.drained
  split <;> exact ⟨rfl, rfl, rfl⟩

theorem Rm.drainAll_ar (l : List Wt) (t : Nat) : ∀ s : Rm, (s.drainAll t l).ar.size = s.ar.size ∧ (s.drainAll t l).ar.there = s.ar.there ∧ (s.drainAll t l).ar.given = s.ar.given ∧ (s.drainAll t l).threads = s.threads := by
  induction l with
  | nil => intro s; exact ⟨rfl, rfl, rfl, rfl⟩
  | cons x l ih =>
    intro s
    obtain ⟨h1, h2, h3, h4⟩ := ih (s.drained t x l)
    obtain ⟨k1, k2, k3⟩ := s.drained_ar t x l
    exact ⟨h1.trans k1, h2.trans k2, h3.trans k3, h4.trans (s.drained_threads t x l)⟩

theorem Rm.drainAll_has (l : List Wt) (t : Nat) (s : Rm) (c g : Int) : (s.drainAll t l).ar.has c g = s.ar.has c g := by
  obtain ⟨h1, h2, h3, -⟩ := s.drainAll_ar l t
  simp only [Ar.has, h1, h2, h3]

theorem Rm.drainAll_waits (l : List Wt) (t : Nat) : ∀ s : Rm, s.waits t = l → (s.drainAll t l).waits t = [] := by
  induction l with
  | nil => intro s h; exact h
  | cons x l ih => intro s _; exact ih (s.drained t x l) (s.drained_waits t x l)

theorem Rm.drained_waits_ne (s : Rm) (t u : Nat) (x : Wt) (l : List Wt) (h : u ≠ t) : (s.drained t x l).waits u = s.waits u := by
  unfold Rm.drained
  split <;> simp [Rm.setWord, Rm.setWaits, h]

theorem Rm.drainAll_waits_ne (l : List Wt) (t u : Nat) (h : u ≠ t) : ∀ s : Rm, (s.drainAll t l).waits u = s.waits u := by
  induction l with
  | nil => intro s; rfl
  | cons x l ih => intro s; rw [Rm.drainAll, ih, Rm.drained_waits_ne _ _ _ _ _ h]
end Go.Proofs.YtoialadjpcdbaaaGreatDoor
