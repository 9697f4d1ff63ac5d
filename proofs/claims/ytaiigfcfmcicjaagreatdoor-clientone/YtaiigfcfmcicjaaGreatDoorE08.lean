import Derived.Test.YtaiigfcfmcicjaaGreatDoorE07
import Derived.Test.YtaiigfcfmcicjaaGreatDoorE06
import Derived.Laws.IdiomCopy
import Derived.Deep.RegionHeld3
import Derived.Deep.RegionLaw
import Derived.Deep.RegionWith
namespace Go.Proofs.YtaiigfcfmcicjaaGreatDoor
set_option maxRecDepth 100000
set_option maxHeartbeats 8000000
section
open Go.RowKit Go.Extern.Stop Go.Stop Go.Extern
theorem ralloc_step (p : RmPl) (s : Rm) (c : Nat) (w : World) (h : RmAt p s w) (hc : c < s.ar.size) (hf : ∀ j, j < c -> s.ar.there j = true) (ht : s.ar.there c = false) (hg : s.ar.given c + 1 < 4611686018427387904) :
  Calls Tryz.prog 44 #[.pointer (some ⟨p.mb, 0, none⟩)] w fun e w' => e = .returned (.tuple #[.agg #[.int .i64 c, .int .i64 (s.ar.given c)], .int .i64 0]) /\ ∃ p', RmStep p s w p' (s.give c) w' := by
 refine (ralloc_some p s c w h hc hf ht hg).mono ?_
 rintro e w' ⟨he, hT, b, hb, hA⟩
 refine ⟨he, p.withWords c b 4, rfl, rfl, hA, hT.mono (fun k _ _ e => Or.inr (Or.inl e)), fun k hk => ?_⟩
 rcases RmPl.fp_words p s (s.give c) c b 4 k rfl rfl hk with e | e
 ·exact Or.inl e
 ·exact Or.inr (by omega)
theorem RmStep.setThere {p : RmPl} {s : Rm} {w : World} (h : RmAt p s w) (c : Nat) (hc : c < s.ar.size) (b : Bool) : RmStep p s w p (s.setThere c b) (w.setCell ⟨p.cb, c * 3 + 2, none⟩ (.bool b)) :=
 ⟨rfl, rfl, h.setThere c hc b, (Turns.refl _ _).setCell _ (Or.inr (Or.inl rfl)), fun _ hk => Or.inl hk⟩
theorem RmStep.setWord {p : RmPl} {s : Rm} {w : World} (h : RmAt p s w) (c m : Nat) (hc : c < s.ar.size) (hm : m < 4) (v : Int) : RmStep p s w p (s.setWord c m v) (w.setCell ⟨p.wb c, m, none⟩ (.int .i64 v)) :=
 ⟨rfl, rfl, h.setWord c m hc hm v, (Turns.refl _ _).setCell _ (Or.inr (Or.inr (Or.inr (Or.inl ⟨c, hc, rfl⟩)))), fun _ hk => Or.inl hk⟩
theorem Rm.drained_ar (s : Rm) (t : Nat) (x : Wt) (l : List Wt) : (s.drained t x l).ar.size = s.ar.size /\ (s.drained t x l).ar.there = s.ar.there /\ (s.drained t x l).ar.given = s.ar.given := by
 unfold Rm.drained
 split <;> exact ⟨rfl, rfl, rfl⟩
theorem Rm.drainAll_ar (l : List Wt) (t : Nat) : ∀ s : Rm, (s.drainAll t l).ar.size = s.ar.size /\ (s.drainAll t l).ar.there = s.ar.there /\ (s.drainAll t l).ar.given = s.ar.given /\ (s.drainAll t l).threads = s.threads := by
 induction l with
 | nil => intro s; exact ⟨rfl, rfl, rfl, rfl⟩
 | cons x l ih =>
  intro s
  obtain ⟨h1, h2, h3, h4⟩ := ih (s.drained t x l)
  obtain ⟨k1, k2, k3⟩ := s.drained_ar t x l
  exact ⟨h1.trans k1, h2.trans k2, h3.trans k3, h4.trans (s.drained_threads t x l)⟩
end
section
open Go.RowKit Go.Extern.Stop Go.Stop Go.Extern
theorem turns_setCells {S : Nat -> Nat -> Prop} {a : World} (b : Nat) : ∀ (vs : List Value) (o : Nat) (w : World), Turns S a w -> (∀ j, j < vs.length -> S b (o + j)) -> Turns S a (w.setCells b o vs)
 | [], _, _, h, _ => h
 | v :: r, o, w, h, hS => turns_setCells b r (o + 1) _ (h.setCell v (by simpa using hS 0 (by simp))) (fun j hj => by have := hS (j + 1) (by simp; omega); rwa [show o + (j + 1) = o + 1 + j by omega] at this)
end
section
open Go.RowKit Go.Extern.Stop Go.Stop Go.Extern Go.Sort
def Wt.Ok (x : Wt) : Prop := (0 <= x.w /\ x.w < 4) /\ (0 <= x.v /\ x.v < 4294967296)
end
end Go.Proofs.YtaiigfcfmcicjaaGreatDoor
