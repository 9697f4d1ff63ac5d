import Derived.Test.YtlnjghohgoahpaaGreatDoorM03
import Derived.Test.YtlnjghohgoahpaaGreatDoorM01
import Derived.Test.YtlnjghohgoahpaaGreatDoorM02

/- ArenaA -/
namespace Go.Proofs.YtlnjghohgoahpaaGreatDoor
open Go.RowKit Go.Extern.Stop Go.Stop Go.Extern

structure Ar where
  size : Nat
  words : Nat → Nat → Int
  there : Nat → Bool
  given : Nat → Nat

structure ArAt (b o : Nat) (s : Ar) (w : World) : Prop where
  small : s.size ≤ 64
  size : w.cell? ⟨b, o, none⟩ = some (.int .i64 s.size)
  words : ∀ c k, c < 64 → k < 4 → w.cell? ⟨b, o + 1 + c * 4 + k, none⟩ = some (.int .u32 (s.words c k))
  range : ∀ c k, 0 ≤ s.words c k ∧ s.words c k < 4294967296
  there : ∀ c, c < 64 → w.cell? ⟨b, o + 257 + c, none⟩ = some (.bool (s.there c))
  given : ∀ c, c < 64 → w.cell? ⟨b, o + 321 + c, none⟩ = some (.int .i64 (s.given c))
  bound : ∀ c, s.given c < 4611686018427387904
  frozen : ∀ k, k < 385 → w.frozen? ⟨b, o + k, none⟩ = false

theorem ArAt.lt {b o : Nat} {s : Ar} {w : World} (h : ArAt b o s w) : b < w.heap.size := World.block_lt_of_cell? w _ h.size

theorem ArAt.turns {S : Nat → Nat → Prop} {b o : Nat} {s : Ar} {w w' : World} (h : ArAt b o s w) (ht : Turns S w w') (hS : ∀ k, k < 385 → ¬ S b (o + k)) : ArAt b o s w' where
  small := h.small
  size := ht.keep h.size (by simpa using hS 0 (by decide))
  words c k hc hk := ht.keep (h.words c k hc hk) (by have := hS (1 + c * 4 + k) (by omega); simpa [Nat.add_assoc] using this)
  range := h.range
  there c hc := ht.keep (h.there c hc) (by have := hS (257 + c) (by omega); simpa [Nat.add_assoc] using this)
  given c hc := ht.keep (h.given c hc) (by have := hS (321 + c) (by omega); simpa [Nat.add_assoc] using this)
  bound := h.bound
  frozen k hk := by rw [ht.frozen b (o + k) h.lt (hS k hk)]; exact h.frozen k hk

theorem ArAt.below {b o : Nat} {s : Ar} {w w' : World} (h : ArAt b o s w) (hb : Below w.heap.size w w') : ArAt b o s w' :=
  h.turns (Turns.of_below (S := fun _ _ => False) hb) (fun _ _ h => h)
theorem ArAt.drewN {b o : Nat} {s : Ar} {w : World} (h : ArAt b o s w) (n : Nat) : ArAt b o s (w.drewN n) := h.below (Below.drewN' n)
theorem ArAt.drew {b o : Nat} {s : Ar} {w : World} (h : ArAt b o s w) : ArAt b o s w.drew := h.below (Below.refl _ _).drew
theorem ArAt.alloc {b o : Nat} {s : Ar} {w : World} (h : ArAt b o s w) (ob : Obj) : ArAt b o s (w.alloc ob) := h.below ((Below.refl _ _).alloc (Nat.le_refl _) _)

theorem cells_any (b o : Nat) (s : Ar) (w : World) (h : ArAt b o s w) :
    Calls Tryz.prog 80 #[.pointer (some ⟨b, o, none⟩)] w fun e w' => e = .returned (.int .i64 s.size) ∧ w' = w := by
  have hs := h.size
  have hz := h.small
  clear h
  go_enter Tryz.func80, Tryz.ntmps80
  go_wp2
  go_ret
  exact ⟨rfl, rfl⟩

theorem isWord_any (k : Int) (w : World) :
    Calls Tryz.prog 144 #[.int .i64 k] w fun e w' => e = .returned (.bool (decide (0 ≤ k ∧ k < 4294967296))) ∧ w' = w := by
  by_cases h1 : 0 ≤ k
  · by_cases h2 : k ≤ 4294967295
    · rw [decide_eq_true ⟨h1, by omega⟩]
      go_enter Tryz.func144, Tryz.ntmps144
      go_wp2
      go_ret
      exact ⟨rfl, rfl⟩
    · rw [decide_eq_false (fun h => h2 (by omega))]
      go_enter Tryz.func144, Tryz.ntmps144
      go_wp2
      go_ret
      exact ⟨rfl, rfl⟩
  · rw [decide_eq_false (fun h => h1 h.1)]
    go_enter Tryz.func144, Tryz.ntmps144
    go_wp2
    go_ret
    exact ⟨rfl, rfl⟩

def Ar.has (s : Ar) (c g : Int) : Bool := decide (0 ≤ c ∧ c < s.size) && s.there c.toNat && (g == (s.given c.toNat : Int) - 1)

def Ar.at (s : Ar) (c g k : Int) : Nat := if s.has c g = false then 7 else if 0 ≤ k ∧ k < 4 then 0 else 2

theorem has_any (b o : Nat) (s : Ar) (c g : Int) (w : World) (h : ArAt b o s w) :
    Calls Tryz.prog 143 #[.pointer (some ⟨b, o, none⟩), .agg #[.int .i64 c, .int .i64 g]] w fun e w' => e = .returned (.bool (s.has c g)) ∧ Below w.heap.size w w' := by
  have h1 := h.alloc (.cells #[.int .i64 c, .int .i64 g] 95)
  have hz := h.small
  have hlt := h.lt
  have hba : Below w.heap.size w (w.alloc (.cells #[.int .i64 c, .int .i64 g] 95)) := (Below.refl _ _).alloc (Nat.le_refl _) _
  have HC : Hid (∀ (w0 : World) (k : Nat), ArAt b o s w0 → Calls Tryz.prog 80 #[.pointer (some ⟨b, o, none⟩)] (w0.drewN k) fun e w' => e = .returned (.int .i64 s.size) ∧ w' = w0.drewN k) := fun w0 k h => cells_any b o s _ (h.drewN k)
  have q0 : (w.alloc (.cells #[.int .i64 c, .int .i64 g] 95)).cell? ⟨w.heap.size, 0, none⟩ = some (.int .i64 c) := by simp
  have q1 : (w.alloc (.cells #[.int .i64 c, .int .i64 g] 95)).cell? ⟨w.heap.size, 1, none⟩ = some (.int .i64 g) := by simp
  by_cases c0 : 0 ≤ c
  · obtain ⟨n, rfl⟩ := Int.eq_ofNat_of_zero_le c0
    have d0 : decide ((n : Int) < 0) = false := by simp
    by_cases c1 : (n : Int) < s.size
    · have ht := h1.there n (by omega)
      have hg := h1.given n (by omega)
      have hbd := h.bound n
      have d1 : decide (s.size ≤ n) = false := by simp; omega
      have n64 : (n : Int) < 64 := by omega
      cases c2 : s.there n
      · rw [c2] at ht
        rw [show s.has n g = false from by simp [Ar.has, c2]]
        clear c2 h hg c1 c0
        generalize hw : w.alloc (.cells #[.int .i64 n, .int .i64 g] 95) = w1 at *
        go_enter Tryz.func143, Tryz.ntmps143
        go_wp2_with fail
        go_quiet ((go_at_call 80; exact Calls.quiet_of_same (HC.out _ _ h1)))
        go_wp2
        go_ret
        exact ⟨rfl, below_dN hba _⟩
      · rw [c2] at ht
        rw [show s.has n g = (g == (s.given n : Int) - 1) from by simp [Ar.has, c2]; omega]
        clear c2 h c1 c0
        generalize hw : w.alloc (.cells #[.int .i64 n, .int .i64 g] 95) = w1 at *
        go_enter Tryz.func143, Tryz.ntmps143
        go_wp2_with fail
        go_quiet ((go_at_call 80; exact Calls.quiet_of_same (HC.out _ _ h1)))
        go_wp2
        go_quiet (fail)
        go_wp2
        go_ret
        exact ⟨rfl, below_dN (below_dN hba _) _⟩
    · have d1 : decide (s.size ≤ n) = true := by simp; omega
      rw [show s.has n g = false from by simp [Ar.has]; omega]
      clear h c0 c1
      generalize hw : w.alloc (.cells #[.int .i64 n, .int .i64 g] 95) = w1 at *
      go_enter Tryz.func143, Tryz.ntmps143
      go_wp2_with fail
      go_quiet ((go_at_call 80; exact Calls.quiet_of_same (HC.out _ _ h1)))
      go_wp2
      go_ret
      exact ⟨rfl, below_dN hba _⟩
  · have d0 : decide (c < 0) = true := by simp; omega
    rw [show s.has c g = false from by simp [Ar.has]; omega]
    clear h c0
    generalize hw : w.alloc (.cells #[.int .i64 c, .int .i64 g] 95) = w1 at *
    go_enter Tryz.func143, Tryz.ntmps143
    go_wp2_with fail
    go_quiet ((go_at_call 80; exact Calls.quiet_of_same (HC.out _ _ h1)))
    go_wp2
    go_ret
    exact ⟨rfl, below_dN hba _⟩

theorem box_below (c g : Int) (w : World) : Below w.heap.size w (w.alloc (.cells #[.int .i64 c, .int .i64 g] 95)) := (Below.refl _ _).alloc (Nat.le_refl _) _
end Go.Proofs.YtlnjghohgoahpaaGreatDoor

/- EnvM -/
namespace Go.Proofs.YtlnjghohgoahpaaGreatDoor
open Go.RowKit

structure EnvM (a : Nat → Addr) (w : World) : Prop where
  cell : ∀ i, i = 1 ∨ i = 4 ∨ i = 5 ∨ i = 6 → w.cell? ⟨gid i, 0, none⟩ = some (errAt (a i))

theorem EnvM.glt {a : Nat → Addr} {w : World} (h : EnvM a w) {i : Nat} (hi : i = 1 ∨ i = 4 ∨ i = 5 ∨ i = 6) : gid i < w.heap.size := World.block_lt_of_cell? w _ (h.cell i hi)
theorem EnvM.below {a : Nat → Addr} {w w' : World} (h : EnvM a w) (hb : ∀ k, k < w.heap.size → w'.heap[k]? = w.heap[k]?) : EnvM a w' where
  cell i hi := by rw [World.cell?_of_block (w := w) (hb _ (h.glt hi))]; exact h.cell i hi
theorem Env.toM {a : Nat → Addr} {w : World} (h : Env a w) : EnvM a w := ⟨fun i hi => h.cell i (by omega)⟩
end Go.Proofs.YtlnjghohgoahpaaGreatDoor
