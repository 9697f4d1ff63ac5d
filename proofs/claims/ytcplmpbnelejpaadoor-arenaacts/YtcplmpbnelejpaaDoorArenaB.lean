/- Package arena, function by function: Load, Free, Store, Count. -/
import Derived.Test.YtcplmpbnelejpaaDoorArenaA
import Derived.RegionTactic
import Derived.BigRegion
namespace Go.Proofs.YtcplmpbnelejpaaDoor
open Go.RowKit Go.Extern.Stop Go.Stop Go.Extern

/-- The places of an arena at b, o. -/
def arPl (b o : Nat) : Nat → Nat → Prop := fun k p => k = b ∧ o ≤ p ∧ p < o + 385

/-- One place of an arena's block written. -/
theorem ArAt.other {b o : Nat} {s : Ar} {w : World} (h : ArAt b o s w) {p : Nat} {v : Value} {k : Nat} {u : Value} (hc : w.cell? ⟨b, k, none⟩ = some u) (hk : k ≠ p) : (w.setCell ⟨b, p, none⟩ v).cell? ⟨b, k, none⟩ = some u := by
  have _ := h.small
  rw [World.cell?_setCell_other _ _ _ _ (fun e => hk (by cases e; rfl))]; exact hc

/-- A store into another block. -/
theorem ArAt.apart {b o : Nat} {s : Ar} {w : World} (h : ArAt b o s w) {p : Addr} (v : Value) (hp : p.block ≠ b) : ArAt b o s (w.setCell p v) where
  small := h.small
  size := by rw [World.cell?_setCell_other _ _ _ _ (fun e => hp (by rw [e]))]; exact h.size
  words c k hc hk := by rw [World.cell?_setCell_other _ _ _ _ (fun e => hp (by rw [e]))]; exact h.words c k hc hk
  range := h.range
  there c hc := by rw [World.cell?_setCell_other _ _ _ _ (fun e => hp (by rw [e]))]; exact h.there c hc
  given c hc := by rw [World.cell?_setCell_other _ _ _ _ (fun e => hp (by rw [e]))]; exact h.given c hc
  bound := h.bound
  frozen k hk := by rw [World.frozen?_setCell]; exact h.frozen k hk

def Ar.setThere (s : Ar) (c : Nat) (t : Bool) : Ar := { s with there := fun j => if j = c then t else s.there j }
def Ar.setWord (s : Ar) (c k : Nat) (v : Int) : Ar := { s with words := fun j i => if j = c ∧ i = k then v else s.words j i }

theorem ArAt.setThere {b o : Nat} {s : Ar} {w : World} (h : ArAt b o s w) (c : Nat) (hc : c < 64) (t : Bool) : ArAt b o (s.setThere c t) (w.setCell ⟨b, o + 257 + c, none⟩ (.bool t)) where
  small := h.small
  size := h.other h.size (by omega)
  words j k hj hk := h.other (h.words j k hj hk) (by omega)
  range := h.range
  there j hj := by
    by_cases e : j = c
    · subst e
      simp only [Ar.setThere, if_true]
      exact World.cell?_setCell_same _ _ _ (h.there j hj)
    · simp only [Ar.setThere, if_neg e]
      exact h.other (h.there j hj) (by omega)
  given j hj := h.other (h.given j hj) (by omega)
  bound := h.bound
  frozen k hk := by rw [World.frozen?_setCell]; exact h.frozen k hk

theorem ArAt.setWord {b o : Nat} {s : Ar} {w : World} (h : ArAt b o s w) (c k : Nat) (hc : c < 64) (hk : k < 4) (v : Int) (hv : 0 ≤ v ∧ v < 4294967296) : ArAt b o (s.setWord c k v) (w.setCell ⟨b, o + 1 + c * 4 + k, none⟩ (.int .u32 v)) where
  small := h.small
  size := h.other h.size (by omega)
  words j i hj hi := by
    by_cases e : j = c ∧ i = k
    · obtain ⟨rfl, rfl⟩ := e
      simp only [Ar.setWord, and_self, if_true]
      exact World.cell?_setCell_same _ _ _ (h.words j i hj hi)
    · simp only [Ar.setWord, if_neg e]
      exact h.other (h.words j i hj hi) (by omega)
  range j i := by
    simp only [Ar.setWord]
    split
    · exact hv
    · exact h.range j i
  there j hj := h.other (h.there j hj) (by omega)
  given j hj := h.other (h.given j hj) (by omega)
  bound := h.bound
  frozen k hk := by rw [World.frozen?_setCell]; exact h.frozen k hk

theorem has_false (b o : Nat) (s : Ar) (c g : Int) (w : World) (h : ArAt b o s w) (hh : s.has c g = false) :
    Calls Tryd.prog 34 #[.pointer (some ⟨b, o, none⟩), .agg #[.int .i64 c, .int .i64 g]] w fun e w' => e = .returned (.bool false) ∧ Below w.heap.size w w' :=
  (has_any b o s c g w h).mono fun _ _ ⟨h1, h2⟩ => ⟨by rw [h1, hh], h2⟩
theorem has_true (b o : Nat) (s : Ar) (c g : Int) (w : World) (h : ArAt b o s w) (hh : s.has c g = true) :
    Calls Tryd.prog 34 #[.pointer (some ⟨b, o, none⟩), .agg #[.int .i64 c, .int .i64 g]] w fun e w' => e = .returned (.bool true) ∧ Below w.heap.size w w' :=
  (has_any b o s c g w h).mono fun _ _ ⟨h1, h2⟩ => ⟨by rw [h1, hh], h2⟩

theorem Ar.has_lt {s : Ar} {c g : Int} (h : s.has c g = true) : ∃ n : Nat, c = n ∧ n < s.size ∧ s.there n = true ∧ g = (s.given n : Int) - 1 := by
  simp only [Ar.has, Bool.and_eq_true, decide_eq_true_eq, beq_iff_eq] at h
  obtain ⟨⟨⟨h0, h1⟩, h2⟩, h3⟩ := h
  obtain ⟨n, rfl⟩ := Int.eq_ofNat_of_zero_le h0
  exact ⟨n, rfl, by omega, h2, h3⟩

/-- Free of a ref that is not there. -/
theorem free_no (a : Nat → Addr) (b o : Nat) (s : Ar) (c g : Int) (w : World) (hE : Env a w) (h : ArAt b o s w) (hh : s.has c g = false) :
    Calls Tryd.prog 19 #[.pointer (some ⟨b, o, none⟩), .agg #[.int .i64 c, .int .i64 g]] w fun e w' => e = .returned (errAt (a 6)) ∧ Below w.heap.size w w' := by
  have h1 := h.alloc (.cells #[.int .i64 c, .int .i64 g] 36)
  have hba : Below w.heap.size w (w.alloc (.cells #[.int .i64 c, .int .i64 g] 36)) := (Below.refl _ _).alloc (Nat.le_refl _) _
  have q0 : (w.alloc (.cells #[.int .i64 c, .int .i64 g] 36)).cell? ⟨w.heap.size, 0, none⟩ = some (.int .i64 c) := by simp
  have q1 : (w.alloc (.cells #[.int .i64 c, .int .i64 g] 36)).cell? ⟨w.heap.size, 1, none⟩ = some (.int .i64 g) := by simp
  generalize hw : w.alloc (.cells #[.int .i64 c, .int .i64 g] 36) = w1 at *
  go_enter Tryd.func19, Tryd.ntmps19
  go_wp2_with fail
  refine (has_false b o s c g _ h1 hh).mono ?_
  rintro e0 w2 ⟨rfl, hb2⟩
  have hbw := hba.trans (hb2.mono hba.size)
  have c6 : w2.cell? ⟨6, 0, none⟩ = some (errAt (a 6)) := (hE.below hbw.block).cell 6 (by decide)
  go_wp2
  go_ret
  exact ⟨rfl, hbw⟩

set_option maxHeartbeats 1000000 in
/-- Free of a ref that is there. -/
theorem free_yes (b o : Nat) (s : Ar) (n : Nat) (g : Int) (w : World) (h : ArAt b o s w) (hn : n < 64) (hh : s.has n g = true) :
    Calls Tryd.prog 19 #[.pointer (some ⟨b, o, none⟩), .agg #[.int .i64 n, .int .i64 g]] w fun e w' => e = .returned .nilIface ∧ ArAt b o (s.setThere n false) w' ∧ Turns (arPl b o) w w' := by
  have h1 := h.alloc (.cells #[.int .i64 n, .int .i64 g] 36)
  have hba : Below w.heap.size w (w.alloc (.cells #[.int .i64 n, .int .i64 g] 36)) := (Below.refl _ _).alloc (Nat.le_refl _) _
  have q0 : (w.alloc (.cells #[.int .i64 n, .int .i64 g] 36)).cell? ⟨w.heap.size, 0, none⟩ = some (.int .i64 n) := by simp
  have q1 : (w.alloc (.cells #[.int .i64 n, .int .i64 g] 36)).cell? ⟨w.heap.size, 1, none⟩ = some (.int .i64 g) := by simp
  have n64 : (n : Int) < 64 := by omega
  have hl := h.lt
  generalize hw : w.alloc (.cells #[.int .i64 n, .int .i64 g] 36) = w1 at *
  go_enter Tryd.func19, Tryd.ntmps19
  go_wp2_with fail
  refine (has_true b o s n g _ h1 hh).mono ?_
  rintro e0 w2 ⟨rfl, hb2⟩
  have hbw := hba.trans (hb2.mono hba.size)
  have h2 := h.below hbw
  have r0 : w2.cell? ⟨w.heap.size, 0, none⟩ = some (.int .i64 n) := by rw [hb2.cell (World.block_lt_of_cell? _ _ q0)]; exact q0
  have ht := h2.there n hn
  have hf : w2.frozen? ⟨b, o + 257 + n, none⟩ = false := by have := h2.frozen (257 + n) (by omega); simpa [Nat.add_assoc] using this
  clear q0 q1 hb2 h1 hh
  go_wp2
  go_region
  go_wp2
  go_ret
  exact ⟨rfl, (h2.setThere n hn false).drew, ((Turns.of_below hbw).setCell _ ⟨rfl, by omega, by omega⟩).drew⟩

/-- Load of a ref that is not there. -/
theorem load_no (a : Nat → Addr) (b o : Nat) (s : Ar) (c g k : Int) (w : World) (hE : Env a w) (h : ArAt b o s w) (hh : s.has c g = false) :
    Calls Tryd.prog 20 #[.pointer (some ⟨b, o, none⟩), .agg #[.int .i64 c, .int .i64 g], .int .i64 k] w fun e w' => e = .returned (.tuple #[.int .i64 0, errAt (a 6)]) ∧ Below w.heap.size w w' := by
  have h1 := h.alloc (.cells #[.int .i64 c, .int .i64 g] 36)
  have hba : Below w.heap.size w (w.alloc (.cells #[.int .i64 c, .int .i64 g] 36)) := (Below.refl _ _).alloc (Nat.le_refl _) _
  have q0 : (w.alloc (.cells #[.int .i64 c, .int .i64 g] 36)).cell? ⟨w.heap.size, 0, none⟩ = some (.int .i64 c) := by simp
  have q1 : (w.alloc (.cells #[.int .i64 c, .int .i64 g] 36)).cell? ⟨w.heap.size, 1, none⟩ = some (.int .i64 g) := by simp
  generalize hw : w.alloc (.cells #[.int .i64 c, .int .i64 g] 36) = w1 at *
  go_enter Tryd.func20, Tryd.ntmps20
  go_wp2_with fail
  refine (has_false b o s c g _ h1 hh).mono ?_
  rintro e0 w2 ⟨rfl, hb2⟩
  have hbw := hba.trans (hb2.mono hba.size)
  have c6 : w2.cell? ⟨6, 0, none⟩ = some (errAt (a 6)) := (hE.below hbw.block).cell 6 (by decide)
  go_wp2
  go_quiet (fail)
  go_wp2
  go_ret2
  exact ⟨rfl, below_dN hbw _⟩

/-- Load of a word that is none. -/
theorem load_bad (a : Nat → Addr) (b o : Nat) (s : Ar) (n : Nat) (g k : Int) (w : World) (hE : Env a w) (h : ArAt b o s w) (hh : s.has n g = true) (hk : ¬ (0 ≤ k ∧ k < 4)) :
    Calls Tryd.prog 20 #[.pointer (some ⟨b, o, none⟩), .agg #[.int .i64 n, .int .i64 g], .int .i64 k] w fun e w' => e = .returned (.tuple #[.int .i64 0, errAt (a 1)]) ∧ Below w.heap.size w w' := by
  have HI : Hid (∀ w, Calls Tryd.prog 35 #[.int .i64 k] w fun e w' => e = .returned (.bool false) ∧ w' = w) := fun w => (isIndex_any k w).mono fun _ _ ⟨h1, h2⟩ => ⟨by rw [h1, decide_eq_false hk], h2⟩
  clear hk
  have h1 := h.alloc (.cells #[.int .i64 n, .int .i64 g] 36)
  have hba : Below w.heap.size w (w.alloc (.cells #[.int .i64 n, .int .i64 g] 36)) := (Below.refl _ _).alloc (Nat.le_refl _) _
  have q0 : (w.alloc (.cells #[.int .i64 n, .int .i64 g] 36)).cell? ⟨w.heap.size, 0, none⟩ = some (.int .i64 n) := by simp
  have q1 : (w.alloc (.cells #[.int .i64 n, .int .i64 g] 36)).cell? ⟨w.heap.size, 1, none⟩ = some (.int .i64 g) := by simp
  generalize hw : w.alloc (.cells #[.int .i64 n, .int .i64 g] 36) = w1 at *
  go_enter Tryd.func20, Tryd.ntmps20
  go_wp2_with fail
  refine (has_true b o s n g _ h1 hh).mono ?_
  rintro e0 w2 ⟨rfl, hb2⟩
  have hbw := hba.trans (hb2.mono hba.size)
  have h2 := h.below hbw
  have r0 : w2.cell? ⟨w.heap.size, 0, none⟩ = some (.int .i64 n) := by rw [hb2.cell (World.block_lt_of_cell? _ _ q0)]; exact q0
  have c1 : w2.cell? ⟨1, 0, none⟩ = some (errAt (a 1)) := (hE.below hbw.block).cell 1 (by decide)
  clear q0 q1 hb2 h1 hh
  go_wp2_with fail
  refine (HI.out _).mono ?_
  rintro e1 w3 ⟨rfl, rfl⟩
  go_wp2
  go_quiet (fail)
  go_wp2
  go_ret2
  exact ⟨rfl, below_dN hbw _⟩

set_option maxHeartbeats 1000000 in
/-- Load of a word that is there. -/
theorem load_yes (b o : Nat) (s : Ar) (n k : Nat) (g : Int) (w : World) (h : ArAt b o s w) (hn : n < 64) (hh : s.has n g = true) (hk : k < 4) :
    Calls Tryd.prog 20 #[.pointer (some ⟨b, o, none⟩), .agg #[.int .i64 n, .int .i64 g], .int .i64 k] w fun e w' => e = .returned (.tuple #[.int .i64 (s.words n k), .nilIface]) ∧ Below w.heap.size w w' := by
  have HI : Hid (∀ w, Calls Tryd.prog 35 #[.int .i64 k] w fun e w' => e = .returned (.bool true) ∧ w' = w) := fun w => (isIndex_any k w).mono fun _ _ ⟨h1, h2⟩ => ⟨by rw [h1, decide_eq_true (by omega)], h2⟩
  have n64 : (n : Int) < 64 := by omega
  have k4 : (k : Int) < 4 := by omega
  obtain ⟨v0, v1⟩ := h.range n k
  generalize hv : s.words n k = v at v0 v1 ⊢
  have HW : Hid (s.words n k = v) := hv
  clear hv
  have h1 := h.alloc (.cells #[.int .i64 n, .int .i64 g] 36)
  have hba : Below w.heap.size w (w.alloc (.cells #[.int .i64 n, .int .i64 g] 36)) := (Below.refl _ _).alloc (Nat.le_refl _) _
  have q0 : (w.alloc (.cells #[.int .i64 n, .int .i64 g] 36)).cell? ⟨w.heap.size, 0, none⟩ = some (.int .i64 n) := by simp
  have q1 : (w.alloc (.cells #[.int .i64 n, .int .i64 g] 36)).cell? ⟨w.heap.size, 1, none⟩ = some (.int .i64 g) := by simp
  generalize hw : w.alloc (.cells #[.int .i64 n, .int .i64 g] 36) = w1 at *
  go_enter Tryd.func20, Tryd.ntmps20
  go_wp2_with fail
  refine (has_true b o s n g _ h1 hh).mono ?_
  rintro e0 w2 ⟨rfl, hb2⟩
  have hbw := hba.trans (hb2.mono hba.size)
  have h2 := h.below hbw
  have r0 : w2.cell? ⟨w.heap.size, 0, none⟩ = some (.int .i64 n) := by rw [hb2.cell (World.block_lt_of_cell? _ _ q0)]; exact q0
  have hwd := h2.words n k hn hk
  clear q0 q1 hb2 h1 hh
  rw [HW.out] at hwd
  clear HW
  go_wp2_with fail
  refine (HI.out _).mono ?_
  rintro e1 w3 ⟨rfl, rfl⟩
  go_wp2
  go_quiet (fail)
  go_wp2
  go_ret2
  exact ⟨rfl, below_dN hbw _⟩

/-- Store to a ref that is not there. -/
theorem store_no (a : Nat → Addr) (b o : Nat) (s : Ar) (c g k v : Int) (w : World) (hE : Env a w) (h : ArAt b o s w) (hh : s.has c g = false) :
    Calls Tryd.prog 18 #[.pointer (some ⟨b, o, none⟩), .agg #[.int .i64 c, .int .i64 g], .int .i64 k, .int .i64 v] w fun e w' => e = .returned (errAt (a 6)) ∧ Below w.heap.size w w' := by
  have h1 := h.alloc (.cells #[.int .i64 c, .int .i64 g] 36)
  have hba : Below w.heap.size w (w.alloc (.cells #[.int .i64 c, .int .i64 g] 36)) := (Below.refl _ _).alloc (Nat.le_refl _) _
  have q0 : (w.alloc (.cells #[.int .i64 c, .int .i64 g] 36)).cell? ⟨w.heap.size, 0, none⟩ = some (.int .i64 c) := by simp
  have q1 : (w.alloc (.cells #[.int .i64 c, .int .i64 g] 36)).cell? ⟨w.heap.size, 1, none⟩ = some (.int .i64 g) := by simp
  generalize hw : w.alloc (.cells #[.int .i64 c, .int .i64 g] 36) = w1 at *
  go_enter Tryd.func18, Tryd.ntmps18
  go_wp2_with fail
  refine (has_false b o s c g _ h1 hh).mono ?_
  rintro e0 w2 ⟨rfl, hb2⟩
  have hbw := hba.trans (hb2.mono hba.size)
  have c6 : w2.cell? ⟨6, 0, none⟩ = some (errAt (a 6)) := (hE.below hbw.block).cell 6 (by decide)
  go_wp2
  go_ret
  exact ⟨rfl, hbw⟩

/-- Store to a word that is none, or of what is no word. -/
theorem store_bad (a : Nat → Addr) (b o : Nat) (s : Ar) (n : Nat) (g k v : Int) (w : World) (hE : Env a w) (h : ArAt b o s w) (hh : s.has n g = true) (hk : ¬ ((0 ≤ k ∧ k < 4) ∧ (0 ≤ v ∧ v < 4294967296))) :
    Calls Tryd.prog 18 #[.pointer (some ⟨b, o, none⟩), .agg #[.int .i64 n, .int .i64 g], .int .i64 k, .int .i64 v] w fun e w' => e = .returned (errAt (a 1)) ∧ Below w.heap.size w w' := by
  by_cases hk1 : 0 ≤ k ∧ k < 4
  · have HI : Hid (∀ w, Calls Tryd.prog 35 #[.int .i64 k] w fun e w' => e = .returned (.bool true) ∧ w' = w) := fun w => (isIndex_any k w).mono fun _ _ ⟨h1, h2⟩ => ⟨by rw [h1, decide_eq_true hk1], h2⟩
    have HV : Hid (∀ w, Calls Tryd.prog 31 #[.int .i64 v] w fun e w' => e = .returned (.bool false) ∧ w' = w) := fun w => (isWord_any v w).mono fun _ _ ⟨h1, h2⟩ => ⟨by rw [h1, decide_eq_false (fun h => hk ⟨hk1, h⟩)], h2⟩
    clear hk hk1
    have h1 := h.alloc (.cells #[.int .i64 n, .int .i64 g] 36)
    have hba : Below w.heap.size w (w.alloc (.cells #[.int .i64 n, .int .i64 g] 36)) := (Below.refl _ _).alloc (Nat.le_refl _) _
    have q0 : (w.alloc (.cells #[.int .i64 n, .int .i64 g] 36)).cell? ⟨w.heap.size, 0, none⟩ = some (.int .i64 n) := by simp
    have q1 : (w.alloc (.cells #[.int .i64 n, .int .i64 g] 36)).cell? ⟨w.heap.size, 1, none⟩ = some (.int .i64 g) := by simp
    generalize hw : w.alloc (.cells #[.int .i64 n, .int .i64 g] 36) = w1 at *
    go_enter Tryd.func18, Tryd.ntmps18
    go_wp2_with fail
    refine (has_true b o s n g _ h1 hh).mono ?_
    rintro e0 w2 ⟨rfl, hb2⟩
    have hbw := hba.trans (hb2.mono hba.size)
    have h2 := h.below hbw
    have r0 : w2.cell? ⟨w.heap.size, 0, none⟩ = some (.int .i64 n) := by rw [hb2.cell (World.block_lt_of_cell? _ _ q0)]; exact q0
    have c1 : w2.cell? ⟨1, 0, none⟩ = some (errAt (a 1)) := (hE.below hbw.block).cell 1 (by decide)
    clear q0 q1 hb2 h1 hh
    go_wp2_with fail
    refine (HI.out _).mono ?_
    rintro e1 w3 ⟨rfl, rfl⟩
    go_wp2_with fail
    refine (HV.out _).mono ?_
    rintro e1 w3 ⟨rfl, rfl⟩
    go_wp2
    go_ret
    exact ⟨rfl, hbw⟩
  · have HI : Hid (∀ w, Calls Tryd.prog 35 #[.int .i64 k] w fun e w' => e = .returned (.bool false) ∧ w' = w) := fun w => (isIndex_any k w).mono fun _ _ ⟨h1, h2⟩ => ⟨by rw [h1, decide_eq_false hk1], h2⟩
    clear hk hk1
    have h1 := h.alloc (.cells #[.int .i64 n, .int .i64 g] 36)
    have hba : Below w.heap.size w (w.alloc (.cells #[.int .i64 n, .int .i64 g] 36)) := (Below.refl _ _).alloc (Nat.le_refl _) _
    have q0 : (w.alloc (.cells #[.int .i64 n, .int .i64 g] 36)).cell? ⟨w.heap.size, 0, none⟩ = some (.int .i64 n) := by simp
    have q1 : (w.alloc (.cells #[.int .i64 n, .int .i64 g] 36)).cell? ⟨w.heap.size, 1, none⟩ = some (.int .i64 g) := by simp
    generalize hw : w.alloc (.cells #[.int .i64 n, .int .i64 g] 36) = w1 at *
    go_enter Tryd.func18, Tryd.ntmps18
    go_wp2_with fail
    refine (has_true b o s n g _ h1 hh).mono ?_
    rintro e0 w2 ⟨rfl, hb2⟩
    have hbw := hba.trans (hb2.mono hba.size)
    have h2 := h.below hbw
    have r0 : w2.cell? ⟨w.heap.size, 0, none⟩ = some (.int .i64 n) := by rw [hb2.cell (World.block_lt_of_cell? _ _ q0)]; exact q0
    have c1 : w2.cell? ⟨1, 0, none⟩ = some (errAt (a 1)) := (hE.below hbw.block).cell 1 (by decide)
    clear q0 q1 hb2 h1 hh
    go_wp2_with fail
    refine (HI.out _).mono ?_
    rintro e1 w3 ⟨rfl, rfl⟩
    go_wp2
    go_ret
    exact ⟨rfl, hbw⟩

set_option maxHeartbeats 1000000 in
/-- Store to a word that is there. -/
theorem store_yes (b o : Nat) (s : Ar) (n k : Nat) (g v : Int) (w : World) (h : ArAt b o s w) (hn : n < 64) (hh : s.has n g = true) (hk : k < 4) (hv : 0 ≤ v ∧ v < 4294967296) :
    Calls Tryd.prog 18 #[.pointer (some ⟨b, o, none⟩), .agg #[.int .i64 n, .int .i64 g], .int .i64 k, .int .i64 v] w fun e w' => e = .returned .nilIface ∧ ArAt b o (s.setWord n k v) w' ∧ Turns (arPl b o) w w' := by
  have HI : Hid (∀ w, Calls Tryd.prog 35 #[.int .i64 k] w fun e w' => e = .returned (.bool true) ∧ w' = w) := fun w => (isIndex_any k w).mono fun _ _ ⟨h1, h2⟩ => ⟨by rw [h1, decide_eq_true (by omega)], h2⟩
  have HV : Hid (∀ w, Calls Tryd.prog 31 #[.int .i64 v] w fun e w' => e = .returned (.bool true) ∧ w' = w) := fun w => (isWord_any v w).mono fun _ _ ⟨h1, h2⟩ => ⟨by rw [h1, decide_eq_true hv], h2⟩
  have n64 : (n : Int) < 64 := by omega
  have k4 : (k : Int) < 4 := by omega
  have hv0 : 0 ≤ v := hv.1
  have hv1 : v < 4294967296 := hv.2
  have HW : Hid (0 ≤ v ∧ v < 4294967296) := hv
  clear hv
  have h1 := h.alloc (.cells #[.int .i64 n, .int .i64 g] 36)
  have hba : Below w.heap.size w (w.alloc (.cells #[.int .i64 n, .int .i64 g] 36)) := (Below.refl _ _).alloc (Nat.le_refl _) _
  have q0 : (w.alloc (.cells #[.int .i64 n, .int .i64 g] 36)).cell? ⟨w.heap.size, 0, none⟩ = some (.int .i64 n) := by simp
  have q1 : (w.alloc (.cells #[.int .i64 n, .int .i64 g] 36)).cell? ⟨w.heap.size, 1, none⟩ = some (.int .i64 g) := by simp
  generalize hw : w.alloc (.cells #[.int .i64 n, .int .i64 g] 36) = w1 at *
  go_enter Tryd.func18, Tryd.ntmps18
  go_wp2_with fail
  refine (has_true b o s n g _ h1 hh).mono ?_
  rintro e0 w2 ⟨rfl, hb2⟩
  have hbw := hba.trans (hb2.mono hba.size)
  have h2 := h.below hbw
  have r0 : w2.cell? ⟨w.heap.size, 0, none⟩ = some (.int .i64 n) := by rw [hb2.cell (World.block_lt_of_cell? _ _ q0)]; exact q0
  have hwd := h2.words n k hn hk
  have hf : w2.frozen? ⟨b, o + 1 + n * 4 + k, none⟩ = false := by have := h2.frozen (1 + n * 4 + k) (by omega); simpa [Nat.add_assoc] using this
  clear q0 q1 hb2 h1 hh
  go_wp2_with fail
  refine (HI.out _).mono ?_
  rintro e1 w3 ⟨rfl, rfl⟩
  go_wp2_with fail
  refine (HV.out _).mono ?_
  rintro e1 w3 ⟨rfl, rfl⟩
  go_wp2
  go_region
  go_wp2
  go_ret
  exact ⟨rfl, (h2.setWord n k hn hk v HW.out).drew, ((Turns.of_below hbw).setCell _ ⟨rfl, by omega, by omega⟩).drew⟩
end Go.Proofs.YtcplmpbnelejpaaDoor
