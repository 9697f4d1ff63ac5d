/- 'Turns S w w'': of what was there in w only the places in S may have turned in w'. Plain Lean over the model's worlds: no program. -/
import Derived.Below
import Derived.Laws.World
import Derived.Deep.Quiet
import Derived.OwnWalk
import Derived.BigQuiet
namespace Go.Proofs.YtcajklfngeafdaaDoor
open Go.RowKit

theorem lt_of_block {w : World} {b : Nat} {o : Obj} (h : w.heap[b]? = some o) : b < w.heap.size := by
  rcases Nat.lt_or_ge b w.heap.size with h' | h'
  · exact h'
  · rw [Array.getElem?_eq_none h'] at h; cases h

theorem below_dN {B : Nat} {a w : World} (h : Below B a w) (n : Nat) : Below B a (w.drewN n) := ⟨h.os, h.tape, h.output, h.size, h.block⟩

/-- Of the cells that were there in w only those in S may have turned; a block with none of S is as it was. -/
structure Turns (S : Nat → Nat → Prop) (w w' : World) : Prop where
  os : w'.os = w.os
  tape : w'.tape = w.tape
  output : w'.output = w.output
  size : w.heap.size ≤ w'.heap.size
  block : ∀ k, k < w.heap.size → (∀ o, ¬ S k o) → w'.heap[k]? = w.heap[k]?
  cell : ∀ k o, k < w.heap.size → ¬ S k o → w'.cell? ⟨k, o, none⟩ = w.cell? ⟨k, o, none⟩
  frozen : ∀ k o, k < w.heap.size → ¬ S k o → w'.frozen? ⟨k, o, none⟩ = w.frozen? ⟨k, o, none⟩

theorem Turns.refl (S : Nat → Nat → Prop) (w : World) : Turns S w w := ⟨rfl, rfl, rfl, Nat.le_refl _, fun _ _ _ => rfl, fun _ _ _ _ => rfl, fun _ _ _ _ => rfl⟩

theorem Turns.trans {S : Nat → Nat → Prop} {a b c : World} (h : Turns S a b) (k : Turns S b c) : Turns S a c :=
  ⟨k.os.trans h.os, k.tape.trans h.tape, k.output.trans h.output, Nat.le_trans h.size k.size,
    fun i hi ho => (k.block i (Nat.lt_of_lt_of_le hi h.size) ho).trans (h.block i hi ho),
    fun i o hi ho => (k.cell i o (Nat.lt_of_lt_of_le hi h.size) ho).trans (h.cell i o hi ho),
    fun i o hi ho => (k.frozen i o (Nat.lt_of_lt_of_le hi h.size) ho).trans (h.frozen i o hi ho)⟩

theorem Turns.mono {S S' : Nat → Nat → Prop} {w w' : World} (h : Turns S w w') (hs : ∀ k o, k < w.heap.size → S k o → S' k o) : Turns S' w w' :=
  ⟨h.os, h.tape, h.output, h.size, fun k hk ho => h.block k hk fun o hS => ho o (hs k o hk hS), fun k o hk ho => h.cell k o hk fun hS => ho (hs k o hk hS), fun k o hk ho => h.frozen k o hk fun hS => ho (hs k o hk hS)⟩

theorem Turns.of_below {S : Nat → Nat → Prop} {w w' : World} (h : Below w.heap.size w w') : Turns S w w' :=
  ⟨h.os, h.tape, h.output, h.size, fun k hk _ => h.block k hk, fun _ _ hk _ => h.cell hk, fun _ _ hk _ => h.frozen hk⟩

/-- What turns nothing that was there below B. -/
theorem Turns.below {S : Nat → Nat → Prop} {B : Nat} {w w' : World} (h : Turns S w w') (hB : B ≤ w.heap.size) (hS : ∀ k o, k < B → ¬ S k o) : Below B w w' :=
  ⟨h.os, h.tape, h.output, h.size, fun k hk => h.block k (Nat.lt_of_lt_of_le hk hB) fun o => hS k o hk⟩

theorem Turns.drew {S : Nat → Nat → Prop} {a w : World} (h : Turns S a w) : Turns S a w.drew := h.trans ⟨rfl, rfl, rfl, Nat.le_refl _, fun _ _ _ => rfl, fun _ _ _ _ => rfl, fun _ _ _ _ => rfl⟩
theorem Turns.drewN {S : Nat → Nat → Prop} {a w : World} (h : Turns S a w) (n : Nat) : Turns S a (w.drewN n) := h.trans ⟨rfl, rfl, rfl, Nat.le_refl _, fun _ _ _ => rfl, fun _ _ _ _ => rfl, fun _ _ _ _ => rfl⟩

theorem Turns.alloc {S : Nat → Nat → Prop} {a w : World} (h : Turns S a w) (o : Obj) : Turns S a (w.alloc o) :=
  h.trans (Turns.of_below ((Below.refl _ _).alloc (Nat.le_refl _) _))

/-- A store at a place of S. -/
theorem Turns.setCell {S : Nat → Nat → Prop} {a w : World} (h : Turns S a w) {b o : Nat} (v : Value) (hS : S b o) : Turns S a (w.setCell ⟨b, o, none⟩ v) :=
  h.trans ⟨rfl, rfl, rfl, by simp [World.setCell], fun k _ ho => Below.heap_setCell _ _ _ _ fun e => by subst e; exact ho o hS,
    fun k p _ ho => World.cell?_setCell_other _ _ _ _ (fun e => ho (by cases e; exact hS)), fun _ _ _ _ => World.frozen?_setCell _ _ _ _⟩

/-- A store into a block that was not there in a. -/
theorem Turns.setNew {S : Nat → Nat → Prop} {a w : World} (h : Turns S a w) {p : Addr} (v : Value) (hp : a.heap.size ≤ p.block) : Turns S a (w.setCell p v) :=
  ⟨h.os, h.tape, h.output, Nat.le_trans h.size (by simp [World.setCell]), fun k hk ho => (Below.heap_setCell _ _ _ _ (by omega)).trans (h.block k hk ho),
    fun k o hk ho => (World.cell?_setCell_other _ _ _ _ (fun e => by rw [e] at hp; exact absurd hp (by simp; omega))).trans (h.cell k o hk ho), fun k o hk ho => (World.frozen?_setCell _ _ _ _).trans (h.frozen k o hk ho)⟩

/-- Cells behind one, behind the other: for facts on a cell that no step turns. -/
theorem Turns.keep {S : Nat → Nat → Prop} {w w' : World} (h : Turns S w w') {k o : Nat} {v : Value} (hc : w.cell? ⟨k, o, none⟩ = some v) (hS : ¬ S k o) : w'.cell? ⟨k, o, none⟩ = some v := by
  rw [h.cell k o (World.block_lt_of_cell? w _ hc) hS]; exact hc

theorem getD_eq_of_lt (xs : List Int) (j : Nat) (h : j < xs.length) : xs[j]? = some (xs.getD j 0) := by
  rw [List.getD_eq_getElem?_getD, List.getElem?_eq_getElem h]; rfl

theorem Below.drewN' {w : World} (n : Nat) : Below w.heap.size w (w.drewN n) := ⟨rfl, rfl, rfl, Nat.le_refl _, fun _ _ => rfl⟩

theorem below_step {w b c : World} (h : Below w.heap.size w b) (k : Below b.heap.size b c) : Below w.heap.size w c := h.trans (k.mono h.size)

theorem keep_cell {b c : World} (k : Below b.heap.size b c) {p : Addr} {v : Value} (h : b.cell? p = some v) : c.cell? p = some v := by
  rw [k.cell (World.block_lt_of_cell? _ _ h)]; exact h

theorem hide {p : Prop} (h : p) : Hid p := h

/-- An owned row is as it was where nothing from its base on has turned. -/
theorem ownsRow_turns {S : Nat → Nat → Prop} {w w' : World} {base : Nat} {e : TypeId} {size : Nat} {v : Value} {n : Nat} {xs : List Value} (h : w.ownsRow base e size v n xs) (t : Turns S w w') (hS : ∀ k o, base ≤ k → ¬ S k o) : w'.ownsRow base e size v n xs := by
  obtain ⟨h1, h2⟩ := h
  refine ⟨h1, ?_⟩
  rcases h2 with h2 | ⟨g, cap, cur, hv, hg, hh, r⟩
  · exact Or.inl h2
  · exact Or.inr ⟨g, cap, cur, hv, hg, by rw [t.block g (lt_of_block hh) (fun o => hS g o hg)]; exact hh, r⟩

theorem ownsRow_block {w w' : World} {base : Nat} {e : TypeId} {size : Nat} {v : Value} {n : Nat} {xs : List Value} (h : w.ownsRow base e size v n xs) (hb : ∀ k, v.ownBlock = some k → w'.heap[k]? = w.heap[k]?) : w'.ownsRow base e size v n xs := by
  obtain ⟨h1, h2⟩ := h
  refine ⟨h1, ?_⟩
  rcases h2 with h2 | ⟨g, cap, cur, hv, hg, hh, r⟩
  · exact Or.inl h2
  · exact Or.inr ⟨g, cap, cur, hv, hg, by rw [hb g (by rw [hv]; rfl)]; exact hh, r⟩

theorem cell_ne {w : World} {b o b' o' : Nat} {v u : Value} (h : w.cell? ⟨b', o', none⟩ = some u) (hne : b' ≠ b ∨ o' ≠ o) : (w.setCell ⟨b, o, none⟩ v).cell? ⟨b', o', none⟩ = some u := by
  rw [World.cell?_setCell_other _ _ _ _ (fun e => by cases e; rcases hne with h | h <;> exact h rfl)]; exact h
end Go.Proofs.YtcajklfngeafdaaDoor
