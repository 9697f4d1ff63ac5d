import Derived.Test.YtgmokighfgdnjaaGreatDoorC01
import Derived.Below
import Derived.Outline
import Derived.Deep.QuietTactic
import Derived.BigQuiet

/- Base -/
namespace Go.Proofs.YtgmokighfgdnjaaGreatDoor
open Go.RowKit Go.Extern.Stop Go.Stop Go.Extern

def gid : Nat → Nat
  | 0 => 0 | 1 => 1 | 2 => 2 | 3 => 3 | 4 => 4
  | 5 => 5 | 6 => 6 | 7 => 7 | _ => 8

abbrev errAt (a : Addr) : Value := .iface 189 (.pointer (some a))

abbrev okI (i : Nat) : Prop := i < 9
structure Env (a : Nat → Addr) (w : World) : Prop where
  cell : ∀ i, okI i → w.cell? ⟨gid i, 0, none⟩ = some (errAt (a i))
  row : ∀ i, okI i → ∃ c t, w.heap[(a i).block]? = some (.cells c t (0, 0))
  ne : ∀ i j, okI i → okI j → i ≠ j → a i ≠ a j
  handle : w.cell? ⟨9, 0, none⟩ = some (.iface 161 (.agg #[.pointer (some ⟨13, 26, none⟩)]))


theorem Env.glt {a : Nat → Addr} {w : World} (h : Env a w) {i : Nat} (hi : okI i) : gid i < w.heap.size := World.block_lt_of_cell? w _ (h.cell i hi)
theorem Env.alt {a : Nat → Addr} {w : World} (h : Env a w) {i : Nat} (hi : okI i) : (a i).block < w.heap.size := by
  obtain ⟨c, t, e⟩ := h.row i hi
  exact lt_of_block e
theorem Env.hlt {a : Nat → Addr} {w : World} (h : Env a w) : 9 < w.heap.size := World.block_lt_of_cell? w _ h.handle

theorem Env.below {a : Nat → Addr} {w w' : World} (h : Env a w) (hb : ∀ k, k < w.heap.size → w'.heap[k]? = w.heap[k]?) : Env a w' where
  cell i hi := by rw [World.cell?_of_block (w := w) (hb _ (h.glt hi))]; exact h.cell i hi
  row i hi := by rw [hb _ (h.alt hi)]; exact h.row i hi
  ne := h.ne
  handle := by rw [World.cell?_of_block (w := w) (hb _ h.hlt)]; exact h.handle

theorem code_nil (w : World) :
    Calls Tryz.prog 31 #[.nilIface] w fun e w' => e = .returned (.tuple #[.int .i64 0, .int .i64 (-1)]) ∧ w' = w := by
  go_enter Tryz.func31, Tryz.ntmps31
  go_wp2
  go_ret2
  exact ⟨rfl, rfl⟩

theorem nine (a : Nat → Addr) (j : Nat) (h : j < 9) : ([errAt (a 0), errAt (a 1), errAt (a 2), errAt (a 3), errAt (a 4), errAt (a 5), errAt (a 6), errAt (a 7), errAt (a 8)] : List Value)[j]? = some (errAt (a j)) := by
  match j, h with
  | 0, _ => rfl
  | 1, _ => rfl
  | 2, _ => rfl
  | 3, _ => rfl
  | 4, _ => rfl
  | 5, _ => rfl
  | 6, _ => rfl
  | 7, _ => rfl
  | 8, _ => rfl

theorem as_miss' (e t : Addr) (w : World) (hg : w.cell? ⟨9, 0, none⟩ = some (.iface 161 (.agg #[.pointer (some ⟨13, 26, none⟩)]))) :
    Calls Tryz.prog 64 #[errAt e, .iface 106 (.pointer (some t))] w fun ev w' => ev = .returned (.bool false) ∧ Below w.heap.size w w' :=
  (as_miss e t w hg).mono fun _ _ ⟨h, h'⟩ => ⟨h, by rw [h']; exact (((Below.refl _ _).alloc (Nat.le_refl _) _).alloc (by simp) _).alloc (by simp; omega) _⟩

def codeNum (k : Nat) : Int := if k < 9 then (k : Int) + 1 else -1

theorem below_drop {w w2 : World} {o : Obj} (h : Below (w.alloc o).heap.size (w.alloc o) w2) : Below w.heap.size w w2 :=
  ((Below.refl _ _).alloc (Nat.le_refl _) o).trans (h.mono (by simp))

set_option maxHeartbeats 1000000 in
theorem code_miss (a : Nat → Addr) (e : Addr) (k : Nat) (w : World) (hE : Env a w) (hne : ∀ j, j < 9 → j < k → e ≠ a j) (heq : k < 9 → e = a k) (hk9 : k ≤ 9) (ca : Array Value) (ta : TypeId) (hrow : w.heap[e.block]? = some (.cells ca ta (0, 0))) :
    Calls Tryz.prog 31 #[errAt e] w fun ev w' => ev = .returned (.tuple #[.int .i64 (codeNum k), .int .i64 (-1)]) ∧ Below w.heap.size w w' := by
  have hE0 : Env a (w.alloc (.cells #[.pointer none] 104)) := hE.below fun k hk => Below.heap_alloc _ _ _ hk
  have H0 : Hid (∀ (t : Addr) (w0 : World), w0 = w.alloc (.cells #[.pointer none] 104) → Calls Tryz.prog 64 #[errAt e, .iface 106 (.pointer (some t))] w0 fun ev w' => ev = .returned (.bool false) ∧ Below w0.heap.size w0 w') := fun t w0 h => as_miss' e t w0 (by rw [h]; exact hE0.handle)
  have hel := lt_of_block hrow
  go_enter Tryz.func31, Tryz.ntmps31
  go_wp2_with fail
  refine (H0.out _ _ rfl).mono ?_
  rintro e0 w1 ⟨rfl, hb1⟩
  have hE1 : Env a w1 := hE0.below hb1.block
  have hbW : Below w.heap.size w w1 := below_drop hb1
  have hre : (w1.alloc (.cells #[errAt (a 0), errAt (a 1), errAt (a 2), errAt (a 3), errAt (a 4), errAt (a 5), errAt (a 6), errAt (a 7), errAt (a 8)] 26)).heap[e.block]? = some (.cells ca ta (0, 0)) := by
    rw [Below.heap_alloc _ _ _ (Nat.lt_of_lt_of_le (by simp; omega) hb1.size), hb1.block _ (by simp; omega), Below.heap_alloc _ _ _ hel]; exact hrow
  have c0 : w1.cell? ⟨0, 0, none⟩ = some (errAt (a 0)) := hE1.cell 0 (by decide)
  have c1 : w1.cell? ⟨1, 0, none⟩ = some (errAt (a 1)) := hE1.cell 1 (by decide)
  have c2 : w1.cell? ⟨2, 0, none⟩ = some (errAt (a 2)) := hE1.cell 2 (by decide)
  have c3 : w1.cell? ⟨3, 0, none⟩ = some (errAt (a 3)) := hE1.cell 3 (by decide)
  have c4 : w1.cell? ⟨4, 0, none⟩ = some (errAt (a 4)) := hE1.cell 4 (by decide)
  have c5 : w1.cell? ⟨5, 0, none⟩ = some (errAt (a 5)) := hE1.cell 5 (by decide)
  have c6 : w1.cell? ⟨6, 0, none⟩ = some (errAt (a 6)) := hE1.cell 6 (by decide)
  have c7 : w1.cell? ⟨7, 0, none⟩ = some (errAt (a 7)) := hE1.cell 7 (by decide)
  have c8 : w1.cell? ⟨8, 0, none⟩ = some (errAt (a 8)) := hE1.cell 8 (by decide)
  go_wp2_with fail
  have hc : ∀ j, j < 9 → (w1.alloc (.cells #[errAt (a 0), errAt (a 1), errAt (a 2), errAt (a 3), errAt (a 4), errAt (a 5), errAt (a 6), errAt (a 7), errAt (a 8)] 26)).cell? ⟨w1.heap.size, j, none⟩ = some (errAt (a j)) := fun j hj => by
    rw [World.cell?_alloc_new]; simpa using nine a j hj
  have hE2 := hE1.below fun k hk => Below.heap_alloc w1 (.cells #[errAt (a 0), errAt (a 1), errAt (a 2), errAt (a 3), errAt (a 4), errAt (a 5), errAt (a 6), errAt (a 7), errAt (a 8)] 26) _ hk
  have hb2 := hbW.alloc hbW.size (.cells #[errAt (a 0), errAt (a 1), errAt (a 2), errAt (a 3), errAt (a 4), errAt (a 5), errAt (a 6), errAt (a 7), errAt (a 8)] 26)
  clear c0 c1 c2 c3 c4 c5 c6 c7 c8 hE0 H0 hE1 
  generalize hw2 : w1.alloc (.cells #[errAt (a 0), errAt (a 1), errAt (a 2), errAt (a 3), errAt (a 4), errAt (a 5), errAt (a 6), errAt (a 7), errAt (a 8)] 26) = w2 at hc hE2 hb2 hre ⊢
  clear hw2
  go_loop [2, 3, 5, 6, 27] (fun _ t _ _ i => t = .int .i64 (-1) ∧ ∃ j : Nat, j ≤ k ∧ j ≤ 9 ∧ i = .int .i64 j) (fun _ _ _ _ i => 9 - (intOf i).toNat)
  case atStart => exact ⟨rfl, 0, Nat.zero_le _, by decide, rfl⟩
  case round =>
    obtain ⟨rfl, j, hj, hj9, rfl⟩ := hrel
    by_cases h9 : j < 9
    · have hcj := hc j h9
      obtain ⟨cb, tb, hrb⟩ := hE2.row j h9
      by_cases hlt : j < k
      · have hnej := hne j h9 hlt
        go_wp2_with fail
        refine (is_other e (a j) ca cb ta tb w2 hnej hre hrb).mono ?_
        rintro e w3 ⟨rfl, rfl⟩
        go_wp2
        go_round
        case rel => exact ⟨rfl, j + 1, by omega, by omega, by go_num⟩
        case measure => simp [intOf]; omega
      · obtain rfl : j = k := by omega
        have hek := heq h9
        subst hek
        go_wp2_with fail
        refine (is_same (a j) w2).mono ?_
        rintro e w3 ⟨rfl, rfl⟩
        go_wp2
        go_ret2
        exact ⟨by rw [codeNum, if_pos h9]; simp, hb2⟩
    · obtain rfl : j = k := by omega
      go_wp2
      go_ret2
      exact ⟨by rw [codeNum, if_neg h9]; rfl, hb2⟩
theorem code_sent (a : Nat → Addr) (k : Nat) (hk : k < 9) (w : World) (hE : Env a w) :
    Calls Tryz.prog 31 #[errAt (a k)] w fun ev w' => ev = .returned (.tuple #[.int .i64 (k + 1 : Nat), .int .i64 (-1)]) ∧ Below w.heap.size w w' := by
  obtain ⟨c, t, hr⟩ := hE.row k hk
  refine (code_miss a (a k) k w hE (fun j hj hlt => hE.ne k j hk hj (by omega)) (fun _ => rfl) (by omega) c t hr).mono fun _ _ ⟨h, h'⟩ => ⟨?_, h'⟩
  rw [h, codeNum, if_pos hk]; rfl

end Go.Proofs.YtgmokighfgdnjaaGreatDoor

/- Ints -/
namespace Go.Proofs.YtgmokighfgdnjaaGreatDoor
open Go.RowKit Go.Extern.Stop Go.Stop Go.Extern

def errVal (a : Nat → Addr) : Nat → Value
  | 0 => .nilIface
  | k + 1 => errAt (a k)

theorem code_err (a : Nat → Addr) (k : Nat) (hk : k ≤ 9) (w : World) (hE : Env a w) :
    Calls Tryz.prog 31 #[errVal a k] w fun ev w' => ev = .returned (.tuple #[.int .i64 k, .int .i64 (-1)]) ∧ Below w.heap.size w w' := by
  cases k with
  | zero => exact (code_nil w).mono fun _ _ ⟨h, h'⟩ => ⟨h, by rw [h']; exact Below.refl _ _⟩
  | succ k => exact code_sent a k (by omega) w hE

end Go.Proofs.YtgmokighfgdnjaaGreatDoor

/- ArenaA -/
namespace Go.Proofs.YtgmokighfgdnjaaGreatDoor
open Go.RowKit Go.Extern.Stop Go.Stop Go.Extern

structure Ar where
  size : Nat
  words : Nat → Nat → Int
  there : Nat → Bool
  given : Nat → Nat

structure ArAt (b o : Nat) (s : Ar) (w : World) : Prop where
  small : s.size ≤ 64
  size : w.cell? ⟨b, o, none⟩ = some (.int .i64 s.size)
  words : ∀ c k, c < 64 → k < 4 → w.cell? ⟨b, o + 1 + c * 4 + k, none⟩ = some (.int .u32 (s.words c k))
  range : ∀ c k, 0 ≤ s.words c k ∧ s.words c k < 4294967296
  there : ∀ c, c < 64 → w.cell? ⟨b, o + 257 + c, none⟩ = some (.bool (s.there c))
  given : ∀ c, c < 64 → w.cell? ⟨b, o + 321 + c, none⟩ = some (.int .i64 (s.given c))
  bound : ∀ c, s.given c < 4611686018427387904
  frozen : ∀ k, k < 385 → w.frozen? ⟨b, o + k, none⟩ = false

theorem ArAt.lt {b o : Nat} {s : Ar} {w : World} (h : ArAt b o s w) : b < w.heap.size := World.block_lt_of_cell? w _ h.size

theorem ArAt.turns {S : Nat → Nat → Prop} {b o : Nat} {s : Ar} {w w' : World} (h : ArAt b o s w) (ht : Turns S w w') (hS : ∀ k, k < 385 → ¬ S b (o + k)) : ArAt b o s w' where
  small := h.small
  size := ht.keep h.size (by simpa using hS 0 (by decide))
  words c k hc hk := ht.keep (h.words c k hc hk) (by have := hS (1 + c * 4 + k) (by omega); simpa [Nat.add_assoc] using this)
  range := h.range
  there c hc := ht.keep (h.there c hc) (by have := hS (257 + c) (by omega); simpa [Nat.add_assoc] using this)
  given c hc := ht.keep (h.given c hc) (by have := hS (321 + c) (by omega); simpa [Nat.add_assoc] using this)
  bound := h.bound
  frozen k hk := by rw [ht.frozen b (o + k) h.lt (hS k hk)]; exact h.frozen k hk

theorem ArAt.below {b o : Nat} {s : Ar} {w w' : World} (h : ArAt b o s w) (hb : Below w.heap.size w w') : ArAt b o s w' :=
  h.turns (Turns.of_below (S := fun _ _ => False) hb) (fun _ _ h => h)
theorem ArAt.drewN {b o : Nat} {s : Ar} {w : World} (h : ArAt b o s w) (n : Nat) : ArAt b o s (w.drewN n) := h.below (Below.drewN' n)
theorem ArAt.drew {b o : Nat} {s : Ar} {w : World} (h : ArAt b o s w) : ArAt b o s w.drew := h.below (Below.refl _ _).drew
theorem ArAt.alloc {b o : Nat} {s : Ar} {w : World} (h : ArAt b o s w) (ob : Obj) : ArAt b o s (w.alloc ob) := h.below ((Below.refl _ _).alloc (Nat.le_refl _) _)

def Ar.has (s : Ar) (c g : Int) : Bool := decide (0 ≤ c ∧ c < s.size) && s.there c.toNat && (g == (s.given c.toNat : Int) - 1)

def Ar.at (s : Ar) (c g k : Int) : Nat := if s.has c g = false then 7 else if 0 ≤ k ∧ k < 4 then 0 else 2

end Go.Proofs.YtgmokighfgdnjaaGreatDoor
