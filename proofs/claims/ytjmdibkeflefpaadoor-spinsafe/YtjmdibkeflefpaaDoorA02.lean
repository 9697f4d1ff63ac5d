import Derived.Test.YtjmdibkeflefpaaDoorA01
import Derived.Test.YtjmdibkeflefpaaDoorProg
import Derived.WalkKit
import Derived.LaidEql
import Derived.Stop.Asserts
import Derived.RowKitTokens
import Derived.Below
import Derived.Outline
import Derived.RegionTactic
import Derived.BigRegion

/- ArenaB -/
namespace Go.Proofs.YtjmdibkeflefpaaDoor
open Go.RowKit Go.Extern.Stop Go.Stop Go.Extern

theorem ArAt.other {b o : Nat} {s : Ar} {w : World} (h : ArAt b o s w) {p : Nat} {v : Value} {k : Nat} {u : Value} (hc : w.cell? ⟨b, k, none⟩ = some u) (hk : k ≠ p) : (w.setCell ⟨b, p, none⟩ v).cell? ⟨b, k, none⟩ = some u := by
  have _ := h.small
  rw [World.cell?_setCell_other _ _ _ _ (fun e => hk (by cases e; rfl))]; exact hc

theorem ArAt.apart {b o : Nat} {s : Ar} {w : World} (h : ArAt b o s w) {p : Addr} (v : Value) (hp : p.block ≠ b) : ArAt b o s (w.setCell p v) where
  small := h.small
  size := by rw [World.cell?_setCell_other _ _ _ _ (fun e => hp (by rw [e]))]; exact h.size
  words c k hc hk := by rw [World.cell?_setCell_other _ _ _ _ (fun e => hp (by rw [e]))]; exact h.words c k hc hk
  range := h.range
  there c hc := by rw [World.cell?_setCell_other _ _ _ _ (fun e => hp (by rw [e]))]; exact h.there c hc
  given c hc := by rw [World.cell?_setCell_other _ _ _ _ (fun e => hp (by rw [e]))]; exact h.given c hc
  bound := h.bound
  frozen k hk := by rw [World.frozen?_setCell]; exact h.frozen k hk

def Ar.setThere (s : Ar) (c : Nat) (t : Bool) : Ar := { s with there := fun j => if j = c then t else s.there j }
def Ar.setWord (s : Ar) (c k : Nat) (v : Int) : Ar := { s with words := fun j i => if j = c ∧ i = k then v else s.words j i }

theorem ArAt.setThere {b o : Nat} {s : Ar} {w : World} (h : ArAt b o s w) (c : Nat) (hc : c < 64) (t : Bool) : ArAt b o (s.setThere c t) (w.setCell ⟨b, o + 257 + c, none⟩ (.bool t)) where
  small := h.small
  size := h.other h.size (by omega)
  words j k hj hk := h.other (h.words j k hj hk) (by omega)
  range := h.range
  there j hj := by
    by_cases e : j = c
    · subst e
      simp only [Ar.setThere, if_true]
      exact World.cell?_setCell_same _ _ _ (h.there j hj)
    · simp only [Ar.setThere, if_neg e]
      exact h.other (h.there j hj) (by omega)
  given j hj := h.other (h.given j hj) (by omega)
  bound := h.bound
  frozen k hk := by rw [World.frozen?_setCell]; exact h.frozen k hk

theorem ArAt.setWord {b o : Nat} {s : Ar} {w : World} (h : ArAt b o s w) (c k : Nat) (hc : c < 64) (hk : k < 4) (v : Int) (hv : 0 ≤ v ∧ v < 4294967296) : ArAt b o (s.setWord c k v) (w.setCell ⟨b, o + 1 + c * 4 + k, none⟩ (.int .u32 v)) where
  small := h.small
  size := h.other h.size (by omega)
  words j i hj hi := by
    by_cases e : j = c ∧ i = k
    · obtain ⟨rfl, rfl⟩ := e
      simp only [Ar.setWord, and_self, if_true]
      exact World.cell?_setCell_same _ _ _ (h.words j i hj hi)
    · simp only [Ar.setWord, if_neg e]
      exact h.other (h.words j i hj hi) (by omega)
  range j i := by
    simp only [Ar.setWord]
    split
    · exact hv
    · exact h.range j i
  there j hj := h.other (h.there j hj) (by omega)
  given j hj := h.other (h.given j hj) (by omega)
  bound := h.bound
  frozen k hk := by rw [World.frozen?_setCell]; exact h.frozen k hk

theorem Ar.has_lt {s : Ar} {c g : Int} (h : s.has c g = true) : ∃ n : Nat, c = n ∧ n < s.size ∧ s.there n = true ∧ g = (s.given n : Int) - 1 := by
  simp only [Ar.has, Bool.and_eq_true, decide_eq_true_eq, beq_iff_eq] at h
  obtain ⟨⟨⟨h0, h1⟩, h2⟩, h3⟩ := h
  obtain ⟨n, rfl⟩ := Int.eq_ofNat_of_zero_le h0
  exact ⟨n, rfl, by omega, h2, h3⟩

theorem Ar.at_ok {s : Ar} {c g k : Int} (h : s.has c g = true) (hk : 0 ≤ k ∧ k < 4) : s.at c g k = 0 := by unfold Ar.at; rw [if_neg (by rw [h]; decide), if_pos hk]

end Go.Proofs.YtjmdibkeflefpaaDoor

/- ArenaC -/
namespace Go.Proofs.YtjmdibkeflefpaaDoor
open Go.RowKit Go.Extern.Stop Go.Stop Go.Extern

def Ar.give (s : Ar) (c : Nat) : Ar := { s with words := fun j i => if j = c ∧ i < 4 then 0 else s.words j i, there := fun j => if j = c then true else s.there j, given := fun j => if j = c then s.given c + 1 else s.given j }

def Ar.setGiven (s : Ar) (c : Nat) (g : Nat) : Ar := { s with given := fun j => if j = c then g else s.given j }

theorem ArAt.setGiven {b o : Nat} {s : Ar} {w : World} (h : ArAt b o s w) (c : Nat) (hc : c < 64) (g : Nat) (hg : g < 4611686018427387904) : ArAt b o (s.setGiven c g) (w.setCell ⟨b, o + 321 + c, none⟩ (.int .i64 g)) where
  small := h.small
  size := h.other h.size (by omega)
  words j k hj hk := h.other (h.words j k hj hk) (by omega)
  range := h.range
  there j hj := h.other (h.there j hj) (by omega)
  given j hj := by
    by_cases e : j = c
    · subst e
      simp only [Ar.setGiven, if_true]
      exact World.cell?_setCell_same _ _ _ (h.given j hj)
    · simp only [Ar.setGiven, if_neg e]
      exact h.other (h.given j hj) (by omega)
  bound j := by
    simp only [Ar.setGiven]
    split
    · exact hg
    · exact h.bound j
  frozen k hk := by rw [World.frozen?_setCell]; exact h.frozen k hk

theorem Ar.give_eq (s : Ar) (n : Nat) : (((((s.setWord n 0 0).setWord n 1 0).setWord n 2 0).setWord n 3 0).setThere n true).setGiven n (s.given n + 1) = s.give n := by
  simp only [Ar.setGiven, Ar.setThere, Ar.setWord, Ar.give, Ar.mk.injEq, true_and, and_true]
  funext j i
  by_cases hj : j = n
  · subst hj
    by_cases h4 : i < 4
    · match i, h4 with
      | 0, _ => simp
      | 1, _ => simp
      | 2, _ => simp
      | 3, _ => simp
    · rw [if_neg (fun h => by omega), if_neg (fun h => by omega), if_neg (fun h => by omega), if_neg (fun h => by omega), if_neg (fun h => by omega)]
  · rw [if_neg (fun h => hj h.1), if_neg (fun h => hj h.1), if_neg (fun h => hj h.1), if_neg (fun h => hj h.1), if_neg (fun h => hj h.1)]

end Go.Proofs.YtjmdibkeflefpaaDoor

/- RWord -/
namespace Go.Proofs.YtjmdibkeflefpaaDoor
open Go.RowKit Go.Extern.Stop Go.Stop Go.Extern

theorem isWordR_any (k : Int) (w : World) :
    Calls Tryd.prog 24 #[.int .i64 k] w fun e w' => e = .returned (.bool (decide (0 ≤ k ∧ k < 4294967296))) ∧ w' = w := by
  by_cases h1 : 0 ≤ k
  · by_cases h2 : k < 4294967296
    · rw [decide_eq_true ⟨h1, h2⟩]
      go_enter Tryd.func24, Tryd.ntmps24
      go_wp2
      go_ret
      exact ⟨rfl, rfl⟩
    · rw [decide_eq_false (fun h => h2 h.2)]
      go_enter Tryd.func24, Tryd.ntmps24
      go_wp2
      go_ret
      exact ⟨rfl, rfl⟩
  · rw [decide_eq_false (fun h => h1 h.1)]
    go_enter Tryd.func24, Tryd.ntmps24
    go_wp2
    go_ret
    exact ⟨rfl, rfl⟩
end Go.Proofs.YtjmdibkeflefpaaDoor
