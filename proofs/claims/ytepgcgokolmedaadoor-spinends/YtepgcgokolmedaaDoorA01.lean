import Derived.Test.YtepgcgokolmedaaDoorProg
import Derived.Test.YtepgcgokolmedaaDoorRows
import Derived.Test.YtepgcgokolmedaaDoorCards
import Derived.ProofKit
import Derived.LaidMore
import Derived.LaidSub
import Derived.Lay
import Derived.MakeChecks
import Derived.OpenShut
import Derived.Stop.Joined
import Derived.Stop.LaidErr
import Derived.LaidHandle
import Derived.HandedShaped
import Derived.Deep.Slices
import Derived.Lib.SmallJoins
import Derived.Lib.LaidTab
import Derived.WalkKit
import Derived.Below
import Derived.Laws.World
import Derived.Deep.Quiet
import Derived.OwnWalk
import Derived.BigQuiet
import Derived.LaidEql
import Derived.Stop.Asserts
import Derived.RowKitTokens
import Derived.Outline

/- Sents -/
namespace Go.Proofs.YtepgcgokolmedaaDoor
open Go.ChangeShapes Go.WideShapes Go.ChangeAt Go.RowKit Go.Joins Go.Deep

theorem own : ownKnob Tryd.prog.godebug = none := by kernel_rfl

def sentOf (x : String × List UInt8) : String × DataW Unit := (x.1, .iface "*errors.errorString" (.ptr (.agg [.lit (.string x.2)])))

section
variable {H : Type} {enc : TypeId × Value → H}
end

theorem laidOutA : laidOutB Tryd.prog = true := by kernel_rfl

theorem trodAll_below {H : Type} {enc : TypeId × Value → H} {P : Program} (hl : laidOutB P = true) {W W' : World} (hb : Below W.heap.size W W') :
    ∀ (ts : List TypeId) (vs : List Value) (ds : List (DataW H)) (ps : List MemPlace), (∀ t ∈ ts, P.readableRec t = true ∧ t < P.types.size) → DataW.TrodAll enc P W 0 (fun _ => true) true ts vs ds ps →
      DataW.TrodAll enc P W' 0 (fun b => decide (b < W.heap.size)) true ts vs ds ps
  | [], vs, ds, ps, _, h => by
    obtain ⟨rfl, rfl, rfl⟩ := trodAll_nil h
    exact trodAll_mk0
  | t :: ts, vs, ds, ps, hr, h => by
    have hlt := h.lt
    obtain ⟨v, vs', d, ds', p, q, rfl, rfl, rfl, h0, r0⟩ := trodAll_cons h
    refine trodAll_cons_mk (Below.trod hl (hr t List.mem_cons_self).1 (hr t List.mem_cons_self).2 h0 hb (fun x hx => hlt x (List.mem_append_left _ hx))) (trodAll_below hl hb ts vs' ds' q (fun u hu => hr u (List.mem_cons_of_mem _ hu)) r0)

end Go.Proofs.YtepgcgokolmedaaDoor

/- Frame -/
namespace Go.Proofs.YtepgcgokolmedaaDoor
open Go.RowKit

theorem lt_of_block {w : World} {b : Nat} {o : Obj} (h : w.heap[b]? = some o) : b < w.heap.size := by
  rcases Nat.lt_or_ge b w.heap.size with h' | h'
  · exact h'
  · rw [Array.getElem?_eq_none h'] at h; cases h

theorem below_dN {B : Nat} {a w : World} (h : Below B a w) (n : Nat) : Below B a (w.drewN n) := ⟨h.os, h.tape, h.output, h.size, h.block⟩

structure Turns (S : Nat → Nat → Prop) (w w' : World) : Prop where
  os : w'.os = w.os
  tape : w'.tape = w.tape
  output : w'.output = w.output
  size : w.heap.size ≤ w'.heap.size
  block : ∀ k, k < w.heap.size → (∀ o, ¬ S k o) → w'.heap[k]? = w.heap[k]?
  cell : ∀ k o, k < w.heap.size → ¬ S k o → w'.cell? ⟨k, o, none⟩ = w.cell? ⟨k, o, none⟩
  frozen : ∀ k o, k < w.heap.size → ¬ S k o → w'.frozen? ⟨k, o, none⟩ = w.frozen? ⟨k, o, none⟩

theorem Turns.refl (S : Nat → Nat → Prop) (w : World) : Turns S w w := ⟨rfl, rfl, rfl, Nat.le_refl _, fun _ _ _ => rfl, fun _ _ _ _ => rfl, fun _ _ _ _ => rfl⟩

theorem Turns.trans {S : Nat → Nat → Prop} {a b c : World} (h : Turns S a b) (k : Turns S b c) : Turns S a c :=
  ⟨k.os.trans h.os, k.tape.trans h.tape, k.output.trans h.output, Nat.le_trans h.size k.size,
    fun i hi ho => (k.block i (Nat.lt_of_lt_of_le hi h.size) ho).trans (h.block i hi ho),
    fun i o hi ho => (k.cell i o (Nat.lt_of_lt_of_le hi h.size) ho).trans (h.cell i o hi ho),
    fun i o hi ho => (k.frozen i o (Nat.lt_of_lt_of_le hi h.size) ho).trans (h.frozen i o hi ho)⟩

theorem Turns.mono {S S' : Nat → Nat → Prop} {w w' : World} (h : Turns S w w') (hs : ∀ k o, k < w.heap.size → S k o → S' k o) : Turns S' w w' :=
  ⟨h.os, h.tape, h.output, h.size, fun k hk ho => h.block k hk fun o hS => ho o (hs k o hk hS), fun k o hk ho => h.cell k o hk fun hS => ho (hs k o hk hS), fun k o hk ho => h.frozen k o hk fun hS => ho (hs k o hk hS)⟩

theorem Turns.of_below {S : Nat → Nat → Prop} {w w' : World} (h : Below w.heap.size w w') : Turns S w w' :=
  ⟨h.os, h.tape, h.output, h.size, fun k hk _ => h.block k hk, fun _ _ hk _ => h.cell hk, fun _ _ hk _ => h.frozen hk⟩

theorem Turns.below {S : Nat → Nat → Prop} {B : Nat} {w w' : World} (h : Turns S w w') (hB : B ≤ w.heap.size) (hS : ∀ k o, k < B → ¬ S k o) : Below B w w' :=
  ⟨h.os, h.tape, h.output, h.size, fun k hk => h.block k (Nat.lt_of_lt_of_le hk hB) fun o => hS k o hk⟩

theorem Turns.drew {S : Nat → Nat → Prop} {a w : World} (h : Turns S a w) : Turns S a w.drew := h.trans ⟨rfl, rfl, rfl, Nat.le_refl _, fun _ _ _ => rfl, fun _ _ _ _ => rfl, fun _ _ _ _ => rfl⟩
theorem Turns.drewN {S : Nat → Nat → Prop} {a w : World} (h : Turns S a w) (n : Nat) : Turns S a (w.drewN n) := h.trans ⟨rfl, rfl, rfl, Nat.le_refl _, fun _ _ _ => rfl, fun _ _ _ _ => rfl, fun _ _ _ _ => rfl⟩

theorem Turns.alloc {S : Nat → Nat → Prop} {a w : World} (h : Turns S a w) (o : Obj) : Turns S a (w.alloc o) :=
  h.trans (Turns.of_below ((Below.refl _ _).alloc (Nat.le_refl _) _))

theorem Turns.setCell {S : Nat → Nat → Prop} {a w : World} (h : Turns S a w) {b o : Nat} (v : Value) (hS : S b o) : Turns S a (w.setCell ⟨b, o, none⟩ v) :=
  h.trans ⟨rfl, rfl, rfl, by simp [World.setCell], fun k _ ho => Below.heap_setCell _ _ _ _ fun e => by subst e; exact ho o hS,
    fun k p _ ho => World.cell?_setCell_other _ _ _ _ (fun e => ho (by cases e; exact hS)), fun _ _ _ _ => World.frozen?_setCell _ _ _ _⟩

theorem Turns.setNew {S : Nat → Nat → Prop} {a w : World} (h : Turns S a w) {p : Addr} (v : Value) (hp : a.heap.size ≤ p.block) : Turns S a (w.setCell p v) :=
  ⟨h.os, h.tape, h.output, Nat.le_trans h.size (by simp [World.setCell]), fun k hk ho => (Below.heap_setCell _ _ _ _ (by omega)).trans (h.block k hk ho),
    fun k o hk ho => (World.cell?_setCell_other _ _ _ _ (fun e => by rw [e] at hp; exact absurd hp (by simp; omega))).trans (h.cell k o hk ho), fun k o hk ho => (World.frozen?_setCell _ _ _ _).trans (h.frozen k o hk ho)⟩

theorem Turns.keep {S : Nat → Nat → Prop} {w w' : World} (h : Turns S w w') {k o : Nat} {v : Value} (hc : w.cell? ⟨k, o, none⟩ = some v) (hS : ¬ S k o) : w'.cell? ⟨k, o, none⟩ = some v := by
  rw [h.cell k o (World.block_lt_of_cell? w _ hc) hS]; exact hc

theorem Below.drewN' {w : World} (n : Nat) : Below w.heap.size w (w.drewN n) := ⟨rfl, rfl, rfl, Nat.le_refl _, fun _ _ => rfl⟩

theorem below_step {w b c : World} (h : Below w.heap.size w b) (k : Below b.heap.size b c) : Below w.heap.size w c := h.trans (k.mono h.size)

theorem keep_cell {b c : World} (k : Below b.heap.size b c) {p : Addr} {v : Value} (h : b.cell? p = some v) : c.cell? p = some v := by
  rw [k.cell (World.block_lt_of_cell? _ _ h)]; exact h

theorem hide {p : Prop} (h : p) : Hid p := h

theorem ownsRow_block {w w' : World} {base : Nat} {e : TypeId} {size : Nat} {v : Value} {n : Nat} {xs : List Value} (h : w.ownsRow base e size v n xs) (hb : ∀ k, v.ownBlock = some k → w'.heap[k]? = w.heap[k]?) : w'.ownsRow base e size v n xs := by
  obtain ⟨h1, h2⟩ := h
  refine ⟨h1, ?_⟩
  rcases h2 with h2 | ⟨g, cap, cur, hv, hg, hh, r⟩
  · exact Or.inl h2
  · exact Or.inr ⟨g, cap, cur, hv, hg, by rw [hb g (by rw [hv]; rfl)]; exact hh, r⟩

theorem cell_ne {w : World} {b o b' o' : Nat} {v u : Value} (h : w.cell? ⟨b', o', none⟩ = some u) (hne : b' ≠ b ∨ o' ≠ o) : (w.setCell ⟨b, o, none⟩ v).cell? ⟨b', o', none⟩ = some u := by
  rw [World.cell?_setCell_other _ _ _ _ (fun e => by cases e; rcases hne with h | h <;> exact h rfl)]; exact h
end Go.Proofs.YtepgcgokolmedaaDoor

/- Base -/
namespace Go.Proofs.YtepgcgokolmedaaDoor
open Go.RowKit Go.Extern.Stop Go.Stop Go.Extern

def gid : Nat → Nat
  | 0 => 1 | 1 => 0 | 2 => 2 | 3 => 3 | 4 => 4
  | 5 => 5 | 6 => 6 | 7 => 7 | _ => 8

abbrev errAt (a : Addr) : Value := .iface 141 (.pointer (some a))

abbrev okI (i : Nat) : Prop := i < 9
structure Env (a : Nat → Addr) (w : World) : Prop where
  cell : ∀ i, okI i → w.cell? ⟨gid i, 0, none⟩ = some (errAt (a i))
  row : ∀ i, okI i → ∃ c t, w.heap[(a i).block]? = some (.cells c t (0, 0))
  ne : ∀ i j, okI i → okI j → i ≠ j → a i ≠ a j
  handle : w.cell? ⟨9, 0, none⟩ = some (.iface 127 (.agg #[.pointer (some ⟨10, 25, none⟩)]))


theorem Env.glt {a : Nat → Addr} {w : World} (h : Env a w) {i : Nat} (hi : okI i) : gid i < w.heap.size := World.block_lt_of_cell? w _ (h.cell i hi)
theorem Env.alt {a : Nat → Addr} {w : World} (h : Env a w) {i : Nat} (hi : okI i) : (a i).block < w.heap.size := by
  obtain ⟨c, t, e⟩ := h.row i hi
  exact lt_of_block e
theorem Env.hlt {a : Nat → Addr} {w : World} (h : Env a w) : 9 < w.heap.size := World.block_lt_of_cell? w _ h.handle

theorem Env.below {a : Nat → Addr} {w w' : World} (h : Env a w) (hb : ∀ k, k < w.heap.size → w'.heap[k]? = w.heap[k]?) : Env a w' where
  cell i hi := by rw [World.cell?_of_block (w := w) (hb _ (h.glt hi))]; exact h.cell i hi
  row i hi := by rw [hb _ (h.alt hi)]; exact h.row i hi
  ne := h.ne
  handle := by rw [World.cell?_of_block (w := w) (hb _ h.hlt)]; exact h.handle

end Go.Proofs.YtepgcgokolmedaaDoor
