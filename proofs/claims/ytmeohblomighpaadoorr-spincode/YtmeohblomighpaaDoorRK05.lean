import Derived.Test.YtmeohblomighpaaDoorRK02
import Derived.Test.YtmeohblomighpaaDoorRK01
import Derived.Deep.QuietTactic
import Derived.BigQuiet

/- Ints -/
namespace Go.Proofs.YtmeohblomighpaaDoorR
open Go.RowKit Go.Extern.Stop Go.Stop Go.Extern

def errVal (a : Nat → Addr) : Nat → Value
  | 0 => .nilIface
  | k + 1 => errAt (a k)

theorem code_err (a : Nat → Addr) (k : Nat) (hk : k ≤ 9) (w : World) (hE : Env a w) :
    Calls Tryd.prog 21 #[errVal a k] w fun ev w' => ev = .returned (.tuple #[.int .i64 k, .int .i64 (-1)]) ∧ Below w.heap.size w w' := by
  cases k with
  | zero => exact (code_nil w).mono fun _ _ ⟨h, h'⟩ => ⟨h, by rw [h']; exact Below.refl _ _⟩
  | succ k => exact code_sent a k (by omega) w hE

end Go.Proofs.YtmeohblomighpaaDoorR

/- ArenaA -/
namespace Go.Proofs.YtmeohblomighpaaDoorR
open Go.RowKit Go.Extern.Stop Go.Stop Go.Extern

structure Ar where
  size : Nat
  words : Nat → Nat → Int
  there : Nat → Bool
  given : Nat → Nat

structure ArAt (b o : Nat) (s : Ar) (w : World) : Prop where
  small : s.size ≤ 64
  size : w.cell? ⟨b, o, none⟩ = some (.int .i64 s.size)
  words : ∀ c k, c < 64 → k < 4 → w.cell? ⟨b, o + 1 + c * 4 + k, none⟩ = some (.int .u32 (s.words c k))
  range : ∀ c k, 0 ≤ s.words c k ∧ s.words c k < 4294967296
  there : ∀ c, c < 64 → w.cell? ⟨b, o + 257 + c, none⟩ = some (.bool (s.there c))
  given : ∀ c, c < 64 → w.cell? ⟨b, o + 321 + c, none⟩ = some (.int .i64 (s.given c))
  bound : ∀ c, s.given c < 4611686018427387904
  frozen : ∀ k, k < 385 → w.frozen? ⟨b, o + k, none⟩ = false

theorem ArAt.lt {b o : Nat} {s : Ar} {w : World} (h : ArAt b o s w) : b < w.heap.size := World.block_lt_of_cell? w _ h.size

theorem ArAt.turns {S : Nat → Nat → Prop} {b o : Nat} {s : Ar} {w w' : World} (h : ArAt b o s w) (ht : Turns S w w') (hS : ∀ k, k < 385 → ¬ S b (o + k)) : ArAt b o s w' where
  small := h.small
  size := ht.keep h.size (by simpa using hS 0 (by decide))
  words c k hc hk := ht.keep (h.words c k hc hk) (by have := hS (1 + c * 4 + k) (by omega); simpa [Nat.add_assoc] using this)
  range := h.range
  there c hc := ht.keep (h.there c hc) (by have := hS (257 + c) (by omega); simpa [Nat.add_assoc] using this)
  given c hc := ht.keep (h.given c hc) (by have := hS (321 + c) (by omega); simpa [Nat.add_assoc] using this)
  bound := h.bound
  frozen k hk := by rw [ht.frozen b (o + k) h.lt (hS k hk)]; exact h.frozen k hk

theorem ArAt.below {b o : Nat} {s : Ar} {w w' : World} (h : ArAt b o s w) (hb : Below w.heap.size w w') : ArAt b o s w' :=
  h.turns (Turns.of_below (S := fun _ _ => False) hb) (fun _ _ h => h)
theorem ArAt.drewN {b o : Nat} {s : Ar} {w : World} (h : ArAt b o s w) (n : Nat) : ArAt b o s (w.drewN n) := h.below (Below.drewN' n)
theorem ArAt.alloc {b o : Nat} {s : Ar} {w : World} (h : ArAt b o s w) (ob : Obj) : ArAt b o s (w.alloc ob) := h.below ((Below.refl _ _).alloc (Nat.le_refl _) _)

def Ar.has (s : Ar) (c g : Int) : Bool := decide (0 ≤ c ∧ c < s.size) && s.there c.toNat && (g == (s.given c.toNat : Int) - 1)

def Ar.at (s : Ar) (c g k : Int) : Nat := if s.has c g = false then 7 else if 0 ≤ k ∧ k < 4 then 0 else 2

end Go.Proofs.YtmeohblomighpaaDoorR
