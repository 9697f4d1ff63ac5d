/- The law MemoryAlone: what one thread alone sees, as plain Lean over the state. -/
import Derived.Test.YtcnemlamlchnkaaDoorMactA
namespace Go.Proofs.YtcnemlamlchnkaaDoor
open Go.RowKit

/-- Two cells that stay, of whose words the thread reads N. -/
structure Alone (N : Nat → Nat → Int) (s : Rm) : Prop where
  th : s.threads = 2
  sz : s.ar.size = 2
  there : ∀ k : Nat, k < 2 → s.ar.there k = true
  gv : ∀ k : Nat, k < 2 → s.ar.given k = 1
  ok : s.Ok
  w1 : s.waits 1 = []
  cs : ∀ x ∈ s.waits 0, (x.c = 0 ∨ x.c = 1) ∧ x.g = 0
  val : ∀ k w : Nat, k < 2 → w < 4 → (s.waits 0).foldl (Wt.pick k 0 w) (s.ar.words k w) = N k w

def updN (N : Nat → Nat → Int) (k w : Nat) (v : Int) : Nat → Nat → Int := fun j i => if j = k ∧ i = w then v else N j i

theorem Alone.has {N : Nat → Nat → Int} {s : Rm} (h : Alone N s) (k : Nat) (hk : k < 2) : s.ar.has k 0 = true := by
  have h1 := h.there k hk
  have h2 := h.gv k hk
  have h3 := h.sz
  have h4 : (k : Int) < 2 := by omega
  simp [Ar.has, h1, h2, h3, h4]

theorem Alone.store {N : Nat → Nat → Int} {s : Rm} (h : Alone N s) (k w : Nat) (v : Int) (hk : k < 2) (hw : w < 4) (hv : 0 ≤ v ∧ v < 4294967296) : Alone (updN N k w v) (s.setWaits 0 (s.waits 0 ++ [⟨k, 0, w, v⟩])) where
  th := h.th
  sz := h.sz
  there := h.there
  gv := h.gv
  ok := by
    intro u hu x hx
    simp only [Rm.setWaits] at hx hu
    split at hx
    · rcases List.mem_append.1 hx with e | e
      · exact h.ok 0 (by rw [h.th]; decide) x e
      · obtain rfl := List.mem_singleton.1 e
        exact ⟨⟨by show (0 : Int) ≤ w; omega, by show (w : Int) < 4; omega⟩, hv⟩
    · exact h.ok u hu x hx
  w1 := h.w1
  cs := fun x hx => by
    simp only [Rm.setWaits, if_true] at hx
    rcases List.mem_append.1 hx with e | e
    · exact h.cs x e
    · obtain rfl := List.mem_singleton.1 e
      refine ⟨?_, rfl⟩
      show (k : Int) = 0 ∨ (k : Int) = 1
      omega
  val := fun j i hj hi => by
    simp only [Rm.setWaits, if_true, List.foldl_append, List.foldl_cons, List.foldl_nil]
    rw [h.val j i hj hi]
    unfold updN
    by_cases e : j = k ∧ i = w
    · rw [if_pos e]
      exact if_pos ⟨by show (k : Int) = j; omega, rfl, by show (w : Int) = i; omega⟩
    · rw [if_neg e]
      refine if_neg (fun e' => e ⟨?_, ?_⟩)
      · have : (k : Int) = j := e'.1
        omega
      · have : (w : Int) = i := e'.2.2
        omega

theorem Alone.drained {N : Nat → Nat → Int} {s : Rm} (h : Alone N s) {x : Wt} {l : List Wt} (hx : s.waits 0 = x :: l) : Alone N (s.drained 0 x l) ∧ s.ar.has x.c x.g = true := by
  obtain ⟨hc, hg⟩ := h.cs x (by rw [hx]; exact List.mem_cons_self ..)
  obtain ⟨k, hk, hxc⟩ : ∃ k : Nat, k < 2 ∧ x.c = k := by
    rcases hc with e | e
    · exact ⟨0, by decide, e⟩
    · exact ⟨1, by decide, e⟩
  obtain ⟨⟨hw0, hw4⟩, _⟩ := h.ok 0 (by rw [h.th]; decide) x (by rw [hx]; exact List.mem_cons_self ..)
  obtain ⟨m, hm⟩ := Int.eq_ofNat_of_zero_le hw0
  have hh : s.ar.has x.c x.g = true := by rw [hxc, hg]; exact h.has k hk
  have hd : s.drained 0 x l = (s.setWaits 0 l).setWord k m x.v := by
    unfold Rm.drained
    rw [if_pos hh, hxc, hm]; rfl
  refine ⟨?_, hh⟩
  rw [hd]
  refine ⟨h.th, h.sz, h.there, h.gv, ?_, ?_, ?_, ?_⟩
  · intro u hu y hy
    simp only [Rm.setWord, Rm.setWaits] at hy hu
    split at hy
    · exact h.ok 0 (by rw [h.th]; decide) y (by rw [hx]; exact List.mem_cons_of_mem _ hy)
    · exact h.ok u hu y hy
  · exact h.w1
  · intro y hy
    simp only [Rm.setWord, Rm.setWaits, if_true] at hy
    exact h.cs y (by rw [hx]; exact List.mem_cons_of_mem _ hy)
  · intro j i hj hi
    have hv := h.val j i hj hi
    rw [hx, List.foldl_cons] at hv
    simp only [Rm.setWord, Rm.setWaits, Ar.setWord, if_true]
    rw [← hv]
    congr 1
    by_cases e : j = k ∧ i = m
    · rw [if_pos e]
      exact (if_pos ⟨by rw [hxc, e.1], hg, by rw [hm, e.2]⟩).symm
    · rw [if_neg e]
      refine (if_neg (fun e' => e ⟨?_, ?_⟩)).symm
      · have := e'.1
        rw [hxc] at this
        omega
      · have := e'.2.2
        rw [hm] at this
        have h2 : (m : Int) = i := this
        omega

theorem Alone.fence {N : Nat → Nat → Int} (l : List Wt) : ∀ s : Rm, Alone N s → s.waits 0 = l → Alone N (s.drainAll 0 l) ∧ s.gone 0 l = 0 := by
  induction l with
  | nil => intro s h _; exact ⟨h, rfl⟩
  | cons x l ih =>
    intro s h hx
    obtain ⟨h1, h2⟩ := h.drained hx
    obtain ⟨h3, h4⟩ := ih (s.drained 0 x l) h1 (Rm.drained_waits _ _ _ _)
    refine ⟨h3, ?_⟩
    rw [Rm.gone, h4, if_pos h2]

theorem Alone.start : Alone (fun _ _ => 0) (((Rm.fresh 2 2).give 0).give 1) where
  th := rfl
  sz := rfl
  there k hk := by
    match k, hk with
    | 0, _ => rfl
    | 1, _ => rfl
  gv k hk := by
    match k, hk with
    | 0, _ => rfl
    | 1, _ => rfl
  ok := fun _ _ x hx => by cases hx
  w1 := rfl
  cs := fun x hx => by cases hx
  val k w hk hw := by
    match k, hk with
    | 0, _ => simp [Rm.give, Ar.give, Rm.fresh]
    | 1, _ => simp [Rm.give, Ar.give, Rm.fresh]
end Go.Proofs.YtcnemlamlchnkaaDoor
