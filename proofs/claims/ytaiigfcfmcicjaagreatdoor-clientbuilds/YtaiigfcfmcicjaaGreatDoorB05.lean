import Derived.Test.YtaiigfcfmcicjaaGreatDoorB02
import Derived.Test.YtaiigfcfmcicjaaGreatDoorB04
import Derived.RegionTactic
import Derived.BigRegion

/- EnvM -/
namespace Go.Proofs.YtaiigfcfmcicjaaGreatDoor
open Go.RowKit

structure EnvM (a : Nat → Addr) (w : World) : Prop where
  cell : ∀ i, i = 1 ∨ i = 4 ∨ i = 5 ∨ i = 6 → w.cell? ⟨gid i, 0, none⟩ = some (errAt (a i))

theorem EnvM.glt {a : Nat → Addr} {w : World} (h : EnvM a w) {i : Nat} (hi : i = 1 ∨ i = 4 ∨ i = 5 ∨ i = 6) : gid i < w.heap.size := World.block_lt_of_cell? w _ (h.cell i hi)
theorem EnvM.below {a : Nat → Addr} {w w' : World} (h : EnvM a w) (hb : ∀ k, k < w.heap.size → w'.heap[k]? = w.heap[k]?) : EnvM a w' where
  cell i hi := by rw [World.cell?_of_block (w := w) (hb _ (h.glt hi))]; exact h.cell i hi
theorem Env.toM {a : Nat → Addr} {w : World} (h : Env a w) : EnvM a w := ⟨fun i hi => h.cell i (by unfold okI; omega)⟩
end Go.Proofs.YtaiigfcfmcicjaaGreatDoor

/- ArenaB -/
namespace Go.Proofs.YtaiigfcfmcicjaaGreatDoor
open Go.RowKit Go.Extern.Stop Go.Stop Go.Extern

theorem ArAt.other {b o : Nat} {s : Ar} {w : World} (h : ArAt b o s w) {p : Nat} {v : Value} {k : Nat} {u : Value} (hc : w.cell? ⟨b, k, none⟩ = some u) (hk : k ≠ p) : (w.setCell ⟨b, p, none⟩ v).cell? ⟨b, k, none⟩ = some u := by
  have _ := h.small
  rw [World.cell?_setCell_other _ _ _ _ (fun e => hk (by cases e; rfl))]; exact hc

theorem ArAt.apart {b o : Nat} {s : Ar} {w : World} (h : ArAt b o s w) {p : Addr} (v : Value) (hp : p.block ≠ b) : ArAt b o s (w.setCell p v) where
  small := h.small
  size := by rw [World.cell?_setCell_other _ _ _ _ (fun e => hp (by rw [e]))]; exact h.size
  words c k hc hk := by rw [World.cell?_setCell_other _ _ _ _ (fun e => hp (by rw [e]))]; exact h.words c k hc hk
  range := h.range
  there c hc := by rw [World.cell?_setCell_other _ _ _ _ (fun e => hp (by rw [e]))]; exact h.there c hc
  given c hc := by rw [World.cell?_setCell_other _ _ _ _ (fun e => hp (by rw [e]))]; exact h.given c hc
  bound := h.bound
  frozen k hk := by rw [World.frozen?_setCell]; exact h.frozen k hk

def Ar.setThere (s : Ar) (c : Nat) (t : Bool) : Ar := { s with there := fun j => if j = c then t else s.there j }
def Ar.setWord (s : Ar) (c k : Nat) (v : Int) : Ar := { s with words := fun j i => if j = c ∧ i = k then v else s.words j i }

theorem ArAt.setThere {b o : Nat} {s : Ar} {w : World} (h : ArAt b o s w) (c : Nat) (hc : c < 64) (t : Bool) : ArAt b o (s.setThere c t) (w.setCell ⟨b, o + 257 + c, none⟩ (.bool t)) where
  small := h.small
  size := h.other h.size (by omega)
  words j k hj hk := h.other (h.words j k hj hk) (by omega)
  range := h.range
  there j hj := by
    by_cases e : j = c
    · subst e
      simp only [Ar.setThere, if_true]
      exact World.cell?_setCell_same _ _ _ (h.there j hj)
    · simp only [Ar.setThere, if_neg e]
      exact h.other (h.there j hj) (by omega)
  given j hj := h.other (h.given j hj) (by omega)
  bound := h.bound
  frozen k hk := by rw [World.frozen?_setCell]; exact h.frozen k hk

theorem ArAt.setWord {b o : Nat} {s : Ar} {w : World} (h : ArAt b o s w) (c k : Nat) (hc : c < 64) (hk : k < 4) (v : Int) (hv : 0 ≤ v ∧ v < 4294967296) : ArAt b o (s.setWord c k v) (w.setCell ⟨b, o + 1 + c * 4 + k, none⟩ (.int .u32 v)) where
  small := h.small
  size := h.other h.size (by omega)
  words j i hj hi := by
    by_cases e : j = c ∧ i = k
    · obtain ⟨rfl, rfl⟩ := e
      simp only [Ar.setWord, and_self, if_true]
      exact World.cell?_setCell_same _ _ _ (h.words j i hj hi)
    · simp only [Ar.setWord, if_neg e]
      exact h.other (h.words j i hj hi) (by omega)
  range j i := by
    simp only [Ar.setWord]
    split
    · exact hv
    · exact h.range j i
  there j hj := h.other (h.there j hj) (by omega)
  given j hj := h.other (h.given j hj) (by omega)
  bound := h.bound
  frozen k hk := by rw [World.frozen?_setCell]; exact h.frozen k hk

end Go.Proofs.YtaiigfcfmcicjaaGreatDoor

/- ArenaC -/
namespace Go.Proofs.YtaiigfcfmcicjaaGreatDoor
open Go.RowKit Go.Extern.Stop Go.Stop Go.Extern

def Ar.give (s : Ar) (c : Nat) : Ar := { s with words := fun j i => if j = c ∧ i < 4 then 0 else s.words j i, there := fun j => if j = c then true else s.there j, given := fun j => if j = c then s.given c + 1 else s.given j }

def Ar.setGiven (s : Ar) (c : Nat) (g : Nat) : Ar := { s with given := fun j => if j = c then g else s.given j }

theorem ArAt.setGiven {b o : Nat} {s : Ar} {w : World} (h : ArAt b o s w) (c : Nat) (hc : c < 64) (g : Nat) (hg : g < 4611686018427387904) : ArAt b o (s.setGiven c g) (w.setCell ⟨b, o + 321 + c, none⟩ (.int .i64 g)) where
  small := h.small
  size := h.other h.size (by omega)
  words j k hj hk := h.other (h.words j k hj hk) (by omega)
  range := h.range
  there j hj := h.other (h.there j hj) (by omega)
  given j hj := by
    by_cases e : j = c
    · subst e
      simp only [Ar.setGiven, if_true]
      exact World.cell?_setCell_same _ _ _ (h.given j hj)
    · simp only [Ar.setGiven, if_neg e]
      exact h.other (h.given j hj) (by omega)
  bound j := by
    simp only [Ar.setGiven]
    split
    · exact hg
    · exact h.bound j
  frozen k hk := by rw [World.frozen?_setCell]; exact h.frozen k hk

theorem Ar.give_eq (s : Ar) (n : Nat) : (((((s.setWord n 0 0).setWord n 1 0).setWord n 2 0).setWord n 3 0).setThere n true).setGiven n (s.given n + 1) = s.give n := by
  simp only [Ar.setGiven, Ar.setThere, Ar.setWord, Ar.give, Ar.mk.injEq, true_and, and_true]
  funext j i
  by_cases hj : j = n
  · subst hj
    by_cases h4 : i < 4
    · match i, h4 with
      | 0, _ => simp
      | 1, _ => simp
      | 2, _ => simp
      | 3, _ => simp
    · rw [if_neg (fun h => by omega), if_neg (fun h => by omega), if_neg (fun h => by omega), if_neg (fun h => by omega), if_neg (fun h => by omega)]
  · rw [if_neg (fun h => hj h.1), if_neg (fun h => hj h.1), if_neg (fun h => hj h.1), if_neg (fun h => hj h.1), if_neg (fun h => hj h.1)]

end Go.Proofs.YtaiigfcfmcicjaaGreatDoor
