import Derived.Test.YtmeohblomighpaaDoorRProg
import Derived.WalkKit
import Derived.LaidEql
import Derived.Stop.Asserts
import Derived.RowKitTokens
import Derived.Test.YtmeohblomighpaaDoorRJ01
import Derived.Below
import Derived.Outline
import Derived.Deep.QuietTactic
import Derived.BigQuiet

/- Base -/
namespace Go.Proofs.YtmeohblomighpaaDoorR
open Go.RowKit Go.Extern.Stop Go.Stop Go.Extern

def gid : Nat → Nat
  | 0 => 2 | 1 => 0 | 2 => 3 | 3 => 1 | 4 => 4
  | 5 => 5 | 6 => 6 | 7 => 7 | _ => 8

abbrev errAt (a : Addr) : Value := .iface 140 (.pointer (some a))

structure Env (a : Nat → Addr) (w : World) : Prop where
  cell : ∀ i, i < 9 → w.cell? ⟨gid i, 0, none⟩ = some (errAt (a i))
  row : ∀ i, i < 9 → ∃ c t, w.heap[(a i).block]? = some (.cells c t (0, 0))
  ne : ∀ i j, i < 9 → j < 9 → i ≠ j → a i ≠ a j
  handle : w.cell? ⟨9, 0, none⟩ = some (.iface 126 (.agg #[.pointer (some ⟨10, 25, none⟩)]))


theorem Env.glt {a : Nat → Addr} {w : World} (h : Env a w) {i : Nat} (hi : i < 9) : gid i < w.heap.size := World.block_lt_of_cell? w _ (h.cell i hi)
theorem Env.alt {a : Nat → Addr} {w : World} (h : Env a w) {i : Nat} (hi : i < 9) : (a i).block < w.heap.size := by
  obtain ⟨c, t, e⟩ := h.row i hi
  exact lt_of_block e
theorem Env.hlt {a : Nat → Addr} {w : World} (h : Env a w) : 9 < w.heap.size := World.block_lt_of_cell? w _ h.handle

theorem Env.below {a : Nat → Addr} {w w' : World} (h : Env a w) (hb : ∀ k, k < w.heap.size → w'.heap[k]? = w.heap[k]?) : Env a w' where
  cell i hi := by rw [World.cell?_of_block (w := w) (hb _ (h.glt hi))]; exact h.cell i hi
  row i hi := by rw [hb _ (h.alt hi)]; exact h.row i hi
  ne := h.ne
  handle := by rw [World.cell?_of_block (w := w) (hb _ h.hlt)]; exact h.handle

end Go.Proofs.YtmeohblomighpaaDoorR

/- ArenaA -/
namespace Go.Proofs.YtmeohblomighpaaDoorR
open Go.RowKit Go.Extern.Stop Go.Stop Go.Extern

structure Ar where
  size : Nat
  words : Nat → Nat → Int
  there : Nat → Bool
  given : Nat → Nat

structure ArAt (b o : Nat) (s : Ar) (w : World) : Prop where
  small : s.size ≤ 64
  size : w.cell? ⟨b, o, none⟩ = some (.int .i64 s.size)
  words : ∀ c k, c < 64 → k < 4 → w.cell? ⟨b, o + 1 + c * 4 + k, none⟩ = some (.int .u32 (s.words c k))
  range : ∀ c k, 0 ≤ s.words c k ∧ s.words c k < 4294967296
  there : ∀ c, c < 64 → w.cell? ⟨b, o + 257 + c, none⟩ = some (.bool (s.there c))
  given : ∀ c, c < 64 → w.cell? ⟨b, o + 321 + c, none⟩ = some (.int .i64 (s.given c))
  bound : ∀ c, s.given c < 4611686018427387904
  frozen : ∀ k, k < 385 → w.frozen? ⟨b, o + k, none⟩ = false

theorem ArAt.lt {b o : Nat} {s : Ar} {w : World} (h : ArAt b o s w) : b < w.heap.size := World.block_lt_of_cell? w _ h.size

theorem ArAt.turns {S : Nat → Nat → Prop} {b o : Nat} {s : Ar} {w w' : World} (h : ArAt b o s w) (ht : Turns S w w') (hS : ∀ k, k < 385 → ¬ S b (o + k)) : ArAt b o s w' where
  small := h.small
  size := ht.keep h.size (by simpa using hS 0 (by decide))
  words c k hc hk := ht.keep (h.words c k hc hk) (by have := hS (1 + c * 4 + k) (by omega); simpa [Nat.add_assoc] using this)
  range := h.range
  there c hc := ht.keep (h.there c hc) (by have := hS (257 + c) (by omega); simpa [Nat.add_assoc] using this)
  given c hc := ht.keep (h.given c hc) (by have := hS (321 + c) (by omega); simpa [Nat.add_assoc] using this)
  bound := h.bound
  frozen k hk := by rw [ht.frozen b (o + k) h.lt (hS k hk)]; exact h.frozen k hk

theorem ArAt.below {b o : Nat} {s : Ar} {w w' : World} (h : ArAt b o s w) (hb : Below w.heap.size w w') : ArAt b o s w' :=
  h.turns (Turns.of_below (S := fun _ _ => False) hb) (fun _ _ h => h)
theorem ArAt.drewN {b o : Nat} {s : Ar} {w : World} (h : ArAt b o s w) (n : Nat) : ArAt b o s (w.drewN n) := h.below (Below.drewN' n)
theorem ArAt.drew {b o : Nat} {s : Ar} {w : World} (h : ArAt b o s w) : ArAt b o s w.drew := h.below (Below.refl _ _).drew
theorem ArAt.alloc {b o : Nat} {s : Ar} {w : World} (h : ArAt b o s w) (ob : Obj) : ArAt b o s (w.alloc ob) := h.below ((Below.refl _ _).alloc (Nat.le_refl _) _)

def Ar.has (s : Ar) (c g : Int) : Bool := decide (0 ≤ c ∧ c < s.size) && s.there c.toNat && (g == (s.given c.toNat : Int) - 1)

def Ar.at (s : Ar) (c g k : Int) : Nat := if s.has c g = false then 7 else if 0 ≤ k ∧ k < 4 then 0 else 2

theorem box_below (c g : Int) (w : World) : Below w.heap.size w (w.alloc (.cells #[.int .i64 c, .int .i64 g] 75)) := (Below.refl _ _).alloc (Nat.le_refl _) _
end Go.Proofs.YtmeohblomighpaaDoorR
