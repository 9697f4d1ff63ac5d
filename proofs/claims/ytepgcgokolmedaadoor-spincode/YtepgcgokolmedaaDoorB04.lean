import Derived.Test.YtepgcgokolmedaaDoorB03
import Derived.Test.YtepgcgokolmedaaDoorB01
import Derived.RegionTactic
import Derived.BigRegion

/- ArenaA -/
namespace Go.Proofs.YtepgcgokolmedaaDoor
open Go.RowKit Go.Extern.Stop Go.Stop Go.Extern

structure Ar where
  size : Nat
  words : Nat → Nat → Int
  there : Nat → Bool
  given : Nat → Nat

structure ArAt (b o : Nat) (s : Ar) (w : World) : Prop where
  small : s.size ≤ 64
  size : w.cell? ⟨b, o, none⟩ = some (.int .i64 s.size)
  words : ∀ c k, c < 64 → k < 4 → w.cell? ⟨b, o + 1 + c * 4 + k, none⟩ = some (.int .u32 (s.words c k))
  range : ∀ c k, 0 ≤ s.words c k ∧ s.words c k < 4294967296
  there : ∀ c, c < 64 → w.cell? ⟨b, o + 257 + c, none⟩ = some (.bool (s.there c))
  given : ∀ c, c < 64 → w.cell? ⟨b, o + 321 + c, none⟩ = some (.int .i64 (s.given c))
  bound : ∀ c, s.given c < 4611686018427387904
  frozen : ∀ k, k < 385 → w.frozen? ⟨b, o + k, none⟩ = false

theorem ArAt.lt {b o : Nat} {s : Ar} {w : World} (h : ArAt b o s w) : b < w.heap.size := World.block_lt_of_cell? w _ h.size

theorem ArAt.turns {S : Nat → Nat → Prop} {b o : Nat} {s : Ar} {w w' : World} (h : ArAt b o s w) (ht : Turns S w w') (hS : ∀ k, k < 385 → ¬ S b (o + k)) : ArAt b o s w' where
  small := h.small
  size := ht.keep h.size (by simpa using hS 0 (by decide))
  words c k hc hk := ht.keep (h.words c k hc hk) (by have := hS (1 + c * 4 + k) (by omega); simpa [Nat.add_assoc] using this)
  range := h.range
  there c hc := ht.keep (h.there c hc) (by have := hS (257 + c) (by omega); simpa [Nat.add_assoc] using this)
  given c hc := ht.keep (h.given c hc) (by have := hS (321 + c) (by omega); simpa [Nat.add_assoc] using this)
  bound := h.bound
  frozen k hk := by rw [ht.frozen b (o + k) h.lt (hS k hk)]; exact h.frozen k hk

theorem ArAt.below {b o : Nat} {s : Ar} {w w' : World} (h : ArAt b o s w) (hb : Below w.heap.size w w') : ArAt b o s w' :=
  h.turns (Turns.of_below (S := fun _ _ => False) hb) (fun _ _ h => h)
theorem ArAt.drewN {b o : Nat} {s : Ar} {w : World} (h : ArAt b o s w) (n : Nat) : ArAt b o s (w.drewN n) := h.below (Below.drewN' n)
theorem ArAt.alloc {b o : Nat} {s : Ar} {w : World} (h : ArAt b o s w) (ob : Obj) : ArAt b o s (w.alloc ob) := h.below ((Below.refl _ _).alloc (Nat.le_refl _) _)

def Ar.has (s : Ar) (c g : Int) : Bool := decide (0 ≤ c ∧ c < s.size) && s.there c.toNat && (g == (s.given c.toNat : Int) - 1)

def Ar.at (s : Ar) (c g k : Int) : Nat := if s.has c g = false then 7 else if 0 ≤ k ∧ k < 4 then 0 else 2

end Go.Proofs.YtepgcgokolmedaaDoor

/- EnvM -/
namespace Go.Proofs.YtepgcgokolmedaaDoor
open Go.RowKit

structure EnvM (a : Nat → Addr) (w : World) : Prop where
  cell : ∀ i, i = 1 ∨ i = 4 ∨ i = 5 ∨ i = 6 → w.cell? ⟨gid i, 0, none⟩ = some (errAt (a i))

theorem EnvM.glt {a : Nat → Addr} {w : World} (h : EnvM a w) {i : Nat} (hi : i = 1 ∨ i = 4 ∨ i = 5 ∨ i = 6) : gid i < w.heap.size := World.block_lt_of_cell? w _ (h.cell i hi)
theorem EnvM.below {a : Nat → Addr} {w w' : World} (h : EnvM a w) (hb : ∀ k, k < w.heap.size → w'.heap[k]? = w.heap[k]?) : EnvM a w' where
  cell i hi := by rw [World.cell?_of_block (w := w) (hb _ (h.glt hi))]; exact h.cell i hi
theorem Env.toM {a : Nat → Addr} {w : World} (h : Env a w) : EnvM a w := ⟨fun i hi => h.cell i (by unfold okI; omega)⟩
end Go.Proofs.YtepgcgokolmedaaDoor

/- ArenaB -/
namespace Go.Proofs.YtepgcgokolmedaaDoor
open Go.RowKit Go.Extern.Stop Go.Stop Go.Extern

theorem ArAt.other {b o : Nat} {s : Ar} {w : World} (h : ArAt b o s w) {p : Nat} {v : Value} {k : Nat} {u : Value} (hc : w.cell? ⟨b, k, none⟩ = some u) (hk : k ≠ p) : (w.setCell ⟨b, p, none⟩ v).cell? ⟨b, k, none⟩ = some u := by
  have _ := h.small
  rw [World.cell?_setCell_other _ _ _ _ (fun e => hk (by cases e; rfl))]; exact hc

theorem ArAt.apart {b o : Nat} {s : Ar} {w : World} (h : ArAt b o s w) {p : Addr} (v : Value) (hp : p.block ≠ b) : ArAt b o s (w.setCell p v) where
  small := h.small
  size := by rw [World.cell?_setCell_other _ _ _ _ (fun e => hp (by rw [e]))]; exact h.size
  words c k hc hk := by rw [World.cell?_setCell_other _ _ _ _ (fun e => hp (by rw [e]))]; exact h.words c k hc hk
  range := h.range
  there c hc := by rw [World.cell?_setCell_other _ _ _ _ (fun e => hp (by rw [e]))]; exact h.there c hc
  given c hc := by rw [World.cell?_setCell_other _ _ _ _ (fun e => hp (by rw [e]))]; exact h.given c hc
  bound := h.bound
  frozen k hk := by rw [World.frozen?_setCell]; exact h.frozen k hk

def Ar.setThere (s : Ar) (c : Nat) (t : Bool) : Ar := { s with there := fun j => if j = c then t else s.there j }
def Ar.setWord (s : Ar) (c k : Nat) (v : Int) : Ar := { s with words := fun j i => if j = c ∧ i = k then v else s.words j i }

theorem ArAt.setThere {b o : Nat} {s : Ar} {w : World} (h : ArAt b o s w) (c : Nat) (hc : c < 64) (t : Bool) : ArAt b o (s.setThere c t) (w.setCell ⟨b, o + 257 + c, none⟩ (.bool t)) where
  small := h.small
  size := h.other h.size (by omega)
  words j k hj hk := h.other (h.words j k hj hk) (by omega)
  range := h.range
  there j hj := by
    by_cases e : j = c
    · subst e
      simp only [Ar.setThere, if_true]
      exact World.cell?_setCell_same _ _ _ (h.there j hj)
    · simp only [Ar.setThere, if_neg e]
      exact h.other (h.there j hj) (by omega)
  given j hj := h.other (h.given j hj) (by omega)
  bound := h.bound
  frozen k hk := by rw [World.frozen?_setCell]; exact h.frozen k hk

theorem ArAt.setWord {b o : Nat} {s : Ar} {w : World} (h : ArAt b o s w) (c k : Nat) (hc : c < 64) (hk : k < 4) (v : Int) (hv : 0 ≤ v ∧ v < 4294967296) : ArAt b o (s.setWord c k v) (w.setCell ⟨b, o + 1 + c * 4 + k, none⟩ (.int .u32 v)) where
  small := h.small
  size := h.other h.size (by omega)
  words j i hj hi := by
    by_cases e : j = c ∧ i = k
    · obtain ⟨rfl, rfl⟩ := e
      simp only [Ar.setWord, and_self, if_true]
      exact World.cell?_setCell_same _ _ _ (h.words j i hj hi)
    · simp only [Ar.setWord, if_neg e]
      exact h.other (h.words j i hj hi) (by omega)
  range j i := by
    simp only [Ar.setWord]
    split
    · exact hv
    · exact h.range j i
  there j hj := h.other (h.there j hj) (by omega)
  given j hj := h.other (h.given j hj) (by omega)
  bound := h.bound
  frozen k hk := by rw [World.frozen?_setCell]; exact h.frozen k hk

theorem Ar.has_lt {s : Ar} {c g : Int} (h : s.has c g = true) : ∃ n : Nat, c = n ∧ n < s.size ∧ s.there n = true ∧ g = (s.given n : Int) - 1 := by
  simp only [Ar.has, Bool.and_eq_true, decide_eq_true_eq, beq_iff_eq] at h
  obtain ⟨⟨⟨h0, h1⟩, h2⟩, h3⟩ := h
  obtain ⟨n, rfl⟩ := Int.eq_ofNat_of_zero_le h0
  exact ⟨n, rfl, by omega, h2, h3⟩

end Go.Proofs.YtepgcgokolmedaaDoor
