import Derived.Test.YtnnlkolhahjokaaGreatDoorB02
import Derived.Test.YtnnlkolhahjokaaGreatDoorB01
import Derived.RegionTactic
import Derived.BigRegion

/- ArenaA -/
namespace Go.Proofs.YtnnlkolhahjokaaGreatDoor
open Go.RowKit Go.Extern.Stop Go.Stop Go.Extern

structure Ar where
  size : Nat
  words : Nat → Nat → Int
  there : Nat → Bool
  given : Nat → Nat

structure ArAt (b o : Nat) (s : Ar) (w : World) : Prop where
  small : s.size ≤ 64
  size : w.cell? ⟨b, o, none⟩ = some (.int .i64 s.size)
  words : ∀ c k, c < 64 → k < 4 → w.cell? ⟨b, o + 1 + c * 4 + k, none⟩ = some (.int .u32 (s.words c k))
  range : ∀ c k, 0 ≤ s.words c k ∧ s.words c k < 4294967296
  there : ∀ c, c < 64 → w.cell? ⟨b, o + 257 + c, none⟩ = some (.bool (s.there c))
  given : ∀ c, c < 64 → w.cell? ⟨b, o + 321 + c, none⟩ = some (.int .i64 (s.given c))
  bound : ∀ c, s.given c < 4611686018427387904
  frozen : ∀ k, k < 385 → w.frozen? ⟨b, o + k, none⟩ = false

theorem ArAt.lt {b o : Nat} {s : Ar} {w : World} (h : ArAt b o s w) : b < w.heap.size := World.block_lt_of_cell? w _ h.size

theorem ArAt.turns {S : Nat → Nat → Prop} {b o : Nat} {s : Ar} {w w' : World} (h : ArAt b o s w) (ht : Turns S w w') (hS : ∀ k, k < 385 → ¬ S b (o + k)) : ArAt b o s w' where
  small := h.small
  size := ht.keep h.size (by simpa using hS 0 (by decide))
  words c k hc hk := ht.keep (h.words c k hc hk) (by have := hS (1 + c * 4 + k) (by omega); simpa [Nat.add_assoc] using this)
  range := h.range
  there c hc := ht.keep (h.there c hc) (by have := hS (257 + c) (by omega); simpa [Nat.add_assoc] using this)
  given c hc := ht.keep (h.given c hc) (by have := hS (321 + c) (by omega); simpa [Nat.add_assoc] using this)
  bound := h.bound
  frozen k hk := by rw [ht.frozen b (o + k) h.lt (hS k hk)]; exact h.frozen k hk

theorem ArAt.below {b o : Nat} {s : Ar} {w w' : World} (h : ArAt b o s w) (hb : Below w.heap.size w w') : ArAt b o s w' :=
  h.turns (Turns.of_below (S := fun _ _ => False) hb) (fun _ _ h => h)
theorem ArAt.drewN {b o : Nat} {s : Ar} {w : World} (h : ArAt b o s w) (n : Nat) : ArAt b o s (w.drewN n) := h.below (Below.drewN' n)
theorem ArAt.drew {b o : Nat} {s : Ar} {w : World} (h : ArAt b o s w) : ArAt b o s w.drew := h.below (Below.refl _ _).drew
theorem ArAt.alloc {b o : Nat} {s : Ar} {w : World} (h : ArAt b o s w) (ob : Obj) : ArAt b o s (w.alloc ob) := h.below ((Below.refl _ _).alloc (Nat.le_refl _) _)

theorem cells_any (b o : Nat) (s : Ar) (w : World) (h : ArAt b o s w) :
    Calls Tryz.prog 62 #[.pointer (some ⟨b, o, none⟩)] w fun e w' => e = .returned (.int .i64 s.size) ∧ w' = w := by
  have hs := h.size
  have hz := h.small
  clear h
  go_enter Tryz.func62, Tryz.ntmps62
  go_wp2
  go_ret
  exact ⟨rfl, rfl⟩

theorem isWord_any (k : Int) (w : World) :
    Calls Tryz.prog 92 #[.int .i64 k] w fun e w' => e = .returned (.bool (decide (0 ≤ k ∧ k < 4294967296))) ∧ w' = w := by
  by_cases h1 : 0 ≤ k
  · by_cases h2 : k ≤ 4294967295
    · rw [decide_eq_true ⟨h1, by omega⟩]
      go_enter Tryz.func92, Tryz.ntmps92
      go_wp2
      go_ret
      exact ⟨rfl, rfl⟩
    · rw [decide_eq_false (fun h => h2 (by omega))]
      go_enter Tryz.func92, Tryz.ntmps92
      go_wp2
      go_ret
      exact ⟨rfl, rfl⟩
  · rw [decide_eq_false (fun h => h1 h.1)]
    go_enter Tryz.func92, Tryz.ntmps92
    go_wp2
    go_ret
    exact ⟨rfl, rfl⟩

def Ar.has (s : Ar) (c g : Int) : Bool := decide (0 ≤ c ∧ c < s.size) && s.there c.toNat && (g == (s.given c.toNat : Int) - 1)

def Ar.at (s : Ar) (c g k : Int) : Nat := if s.has c g = false then 7 else if 0 ≤ k ∧ k < 4 then 0 else 2

theorem has_any (b o : Nat) (s : Ar) (c g : Int) (w : World) (h : ArAt b o s w) :
    Calls Tryz.prog 91 #[.pointer (some ⟨b, o, none⟩), .agg #[.int .i64 c, .int .i64 g]] w fun e w' => e = .returned (.bool (s.has c g)) ∧ Below w.heap.size w w' := by
  have h1 := h.alloc (.cells #[.int .i64 c, .int .i64 g] 65)
  have hz := h.small
  have hlt := h.lt
  have hba : Below w.heap.size w (w.alloc (.cells #[.int .i64 c, .int .i64 g] 65)) := (Below.refl _ _).alloc (Nat.le_refl _) _
  have HC : Hid (∀ (w0 : World) (k : Nat), ArAt b o s w0 → Calls Tryz.prog 62 #[.pointer (some ⟨b, o, none⟩)] (w0.drewN k) fun e w' => e = .returned (.int .i64 s.size) ∧ w' = w0.drewN k) := fun w0 k h => cells_any b o s _ (h.drewN k)
  have q0 : (w.alloc (.cells #[.int .i64 c, .int .i64 g] 65)).cell? ⟨w.heap.size, 0, none⟩ = some (.int .i64 c) := by simp
  have q1 : (w.alloc (.cells #[.int .i64 c, .int .i64 g] 65)).cell? ⟨w.heap.size, 1, none⟩ = some (.int .i64 g) := by simp
  by_cases c0 : 0 ≤ c
  · obtain ⟨n, rfl⟩ := Int.eq_ofNat_of_zero_le c0
    have d0 : decide ((n : Int) < 0) = false := by simp
    by_cases c1 : (n : Int) < s.size
    · have ht := h1.there n (by omega)
      have hg := h1.given n (by omega)
      have hbd := h.bound n
      have d1 : decide (s.size ≤ n) = false := by simp; omega
      have n64 : (n : Int) < 64 := by omega
      cases c2 : s.there n
      · rw [c2] at ht
        rw [show s.has n g = false from by simp [Ar.has, c2]]
        clear c2 h hg c1 c0
        generalize hw : w.alloc (.cells #[.int .i64 n, .int .i64 g] 65) = w1 at *
        go_enter Tryz.func91, Tryz.ntmps91
        go_wp2_with fail
        go_quiet ((go_at_call 62; exact Calls.quiet_of_same (HC.out _ _ h1)))
        go_wp2
        go_ret
        exact ⟨rfl, below_dN hba _⟩
      · rw [c2] at ht
        rw [show s.has n g = (g == (s.given n : Int) - 1) from by simp [Ar.has, c2]; omega]
        clear c2 h c1 c0
        generalize hw : w.alloc (.cells #[.int .i64 n, .int .i64 g] 65) = w1 at *
        go_enter Tryz.func91, Tryz.ntmps91
        go_wp2_with fail
        go_quiet ((go_at_call 62; exact Calls.quiet_of_same (HC.out _ _ h1)))
        go_wp2
        go_quiet (fail)
        go_wp2
        go_ret
        exact ⟨rfl, below_dN (below_dN hba _) _⟩
    · have d1 : decide (s.size ≤ n) = true := by simp; omega
      rw [show s.has n g = false from by simp [Ar.has]; omega]
      clear h c0 c1
      generalize hw : w.alloc (.cells #[.int .i64 n, .int .i64 g] 65) = w1 at *
      go_enter Tryz.func91, Tryz.ntmps91
      go_wp2_with fail
      go_quiet ((go_at_call 62; exact Calls.quiet_of_same (HC.out _ _ h1)))
      go_wp2
      go_ret
      exact ⟨rfl, below_dN hba _⟩
  · have d0 : decide (c < 0) = true := by simp; omega
    rw [show s.has c g = false from by simp [Ar.has]; omega]
    clear h c0
    generalize hw : w.alloc (.cells #[.int .i64 c, .int .i64 g] 65) = w1 at *
    go_enter Tryz.func91, Tryz.ntmps91
    go_wp2_with fail
    go_quiet ((go_at_call 62; exact Calls.quiet_of_same (HC.out _ _ h1)))
    go_wp2
    go_ret
    exact ⟨rfl, below_dN hba _⟩

theorem box_below (c g : Int) (w : World) : Below w.heap.size w (w.alloc (.cells #[.int .i64 c, .int .i64 g] 65)) := (Below.refl _ _).alloc (Nat.le_refl _) _
end Go.Proofs.YtnnlkolhahjokaaGreatDoor

/- EnvM -/
namespace Go.Proofs.YtnnlkolhahjokaaGreatDoor
open Go.RowKit

structure EnvM (a : Nat → Addr) (w : World) : Prop where
  cell : ∀ i, i = 1 ∨ i = 4 ∨ i = 5 ∨ i = 6 → w.cell? ⟨gid i, 0, none⟩ = some (errAt (a i))

theorem EnvM.glt {a : Nat → Addr} {w : World} (h : EnvM a w) {i : Nat} (hi : i = 1 ∨ i = 4 ∨ i = 5 ∨ i = 6) : gid i < w.heap.size := World.block_lt_of_cell? w _ (h.cell i hi)
theorem EnvM.below {a : Nat → Addr} {w w' : World} (h : EnvM a w) (hb : ∀ k, k < w.heap.size → w'.heap[k]? = w.heap[k]?) : EnvM a w' where
  cell i hi := by rw [World.cell?_of_block (w := w) (hb _ (h.glt hi))]; exact h.cell i hi
theorem Env.toM {a : Nat → Addr} {w : World} (h : Env a w) : EnvM a w := ⟨fun i hi => h.cell i (by unfold okI; omega)⟩
end Go.Proofs.YtnnlkolhahjokaaGreatDoor

/- ArenaB -/
namespace Go.Proofs.YtnnlkolhahjokaaGreatDoor
open Go.RowKit Go.Extern.Stop Go.Stop Go.Extern

def arPl (b o : Nat) : Nat → Nat → Prop := fun k p => k = b ∧ o ≤ p ∧ p < o + 385

theorem ArAt.other {b o : Nat} {s : Ar} {w : World} (h : ArAt b o s w) {p : Nat} {v : Value} {k : Nat} {u : Value} (hc : w.cell? ⟨b, k, none⟩ = some u) (hk : k ≠ p) : (w.setCell ⟨b, p, none⟩ v).cell? ⟨b, k, none⟩ = some u := by
  have _ := h.small
  rw [World.cell?_setCell_other _ _ _ _ (fun e => hk (by cases e; rfl))]; exact hc

theorem ArAt.apart {b o : Nat} {s : Ar} {w : World} (h : ArAt b o s w) {p : Addr} (v : Value) (hp : p.block ≠ b) : ArAt b o s (w.setCell p v) where
  small := h.small
  size := by rw [World.cell?_setCell_other _ _ _ _ (fun e => hp (by rw [e]))]; exact h.size
  words c k hc hk := by rw [World.cell?_setCell_other _ _ _ _ (fun e => hp (by rw [e]))]; exact h.words c k hc hk
  range := h.range
  there c hc := by rw [World.cell?_setCell_other _ _ _ _ (fun e => hp (by rw [e]))]; exact h.there c hc
  given c hc := by rw [World.cell?_setCell_other _ _ _ _ (fun e => hp (by rw [e]))]; exact h.given c hc
  bound := h.bound
  frozen k hk := by rw [World.frozen?_setCell]; exact h.frozen k hk

def Ar.setThere (s : Ar) (c : Nat) (t : Bool) : Ar := { s with there := fun j => if j = c then t else s.there j }
def Ar.setWord (s : Ar) (c k : Nat) (v : Int) : Ar := { s with words := fun j i => if j = c ∧ i = k then v else s.words j i }

theorem ArAt.setThere {b o : Nat} {s : Ar} {w : World} (h : ArAt b o s w) (c : Nat) (hc : c < 64) (t : Bool) : ArAt b o (s.setThere c t) (w.setCell ⟨b, o + 257 + c, none⟩ (.bool t)) where
  small := h.small
  size := h.other h.size (by omega)
  words j k hj hk := h.other (h.words j k hj hk) (by omega)
  range := h.range
  there j hj := by
    by_cases e : j = c
    · subst e
      simp only [Ar.setThere, if_true]
      exact World.cell?_setCell_same _ _ _ (h.there j hj)
    · simp only [Ar.setThere, if_neg e]
      exact h.other (h.there j hj) (by omega)
  given j hj := h.other (h.given j hj) (by omega)
  bound := h.bound
  frozen k hk := by rw [World.frozen?_setCell]; exact h.frozen k hk

theorem ArAt.setWord {b o : Nat} {s : Ar} {w : World} (h : ArAt b o s w) (c k : Nat) (hc : c < 64) (hk : k < 4) (v : Int) (hv : 0 ≤ v ∧ v < 4294967296) : ArAt b o (s.setWord c k v) (w.setCell ⟨b, o + 1 + c * 4 + k, none⟩ (.int .u32 v)) where
  small := h.small
  size := h.other h.size (by omega)
  words j i hj hi := by
    by_cases e : j = c ∧ i = k
    · obtain ⟨rfl, rfl⟩ := e
      simp only [Ar.setWord, and_self, if_true]
      exact World.cell?_setCell_same _ _ _ (h.words j i hj hi)
    · simp only [Ar.setWord, if_neg e]
      exact h.other (h.words j i hj hi) (by omega)
  range j i := by
    simp only [Ar.setWord]
    split
    · exact hv
    · exact h.range j i
  there j hj := h.other (h.there j hj) (by omega)
  given j hj := h.other (h.given j hj) (by omega)
  bound := h.bound
  frozen k hk := by rw [World.frozen?_setCell]; exact h.frozen k hk

theorem has_false (b o : Nat) (s : Ar) (c g : Int) (w : World) (h : ArAt b o s w) (hh : s.has c g = false) :
    Calls Tryz.prog 91 #[.pointer (some ⟨b, o, none⟩), .agg #[.int .i64 c, .int .i64 g]] w fun e w' => e = .returned (.bool false) ∧ Below w.heap.size w w' :=
  (has_any b o s c g w h).mono fun _ _ ⟨h1, h2⟩ => ⟨by rw [h1, hh], h2⟩
theorem has_true (b o : Nat) (s : Ar) (c g : Int) (w : World) (h : ArAt b o s w) (hh : s.has c g = true) :
    Calls Tryz.prog 91 #[.pointer (some ⟨b, o, none⟩), .agg #[.int .i64 c, .int .i64 g]] w fun e w' => e = .returned (.bool true) ∧ Below w.heap.size w w' :=
  (has_any b o s c g w h).mono fun _ _ ⟨h1, h2⟩ => ⟨by rw [h1, hh], h2⟩

theorem Ar.has_lt {s : Ar} {c g : Int} (h : s.has c g = true) : ∃ n : Nat, c = n ∧ n < s.size ∧ s.there n = true ∧ g = (s.given n : Int) - 1 := by
  simp only [Ar.has, Bool.and_eq_true, decide_eq_true_eq, beq_iff_eq] at h
  obtain ⟨⟨⟨h0, h1⟩, h2⟩, h3⟩ := h
  obtain ⟨n, rfl⟩ := Int.eq_ofNat_of_zero_le h0
  exact ⟨n, rfl, by omega, h2, h3⟩

set_option maxHeartbeats 1000000 in
theorem free_yes (b o : Nat) (s : Ar) (n : Nat) (g : Int) (w : World) (h : ArAt b o s w) (hn : n < 64) (hh : s.has n g = true) :
    Calls Tryz.prog 107 #[.pointer (some ⟨b, o, none⟩), .agg #[.int .i64 n, .int .i64 g]] w fun e w' => e = .returned .nilIface ∧ ArAt b o (s.setThere n false) w' ∧ Turns (arPl b o) w w' := by
  have h1 := h.alloc (.cells #[.int .i64 n, .int .i64 g] 65)
  have hba : Below w.heap.size w (w.alloc (.cells #[.int .i64 n, .int .i64 g] 65)) := (Below.refl _ _).alloc (Nat.le_refl _) _
  have q0 : (w.alloc (.cells #[.int .i64 n, .int .i64 g] 65)).cell? ⟨w.heap.size, 0, none⟩ = some (.int .i64 n) := by simp
  have q1 : (w.alloc (.cells #[.int .i64 n, .int .i64 g] 65)).cell? ⟨w.heap.size, 1, none⟩ = some (.int .i64 g) := by simp
  have n64 : (n : Int) < 64 := by omega
  have hl := h.lt
  generalize hw : w.alloc (.cells #[.int .i64 n, .int .i64 g] 65) = w1 at *
  go_enter Tryz.func107, Tryz.ntmps107
  go_wp2_with fail
  refine (has_true b o s n g _ h1 hh).mono ?_
  rintro e0 w2 ⟨rfl, hb2⟩
  have hbw := hba.trans (hb2.mono hba.size)
  have h2 := h.below hbw
  have r0 : w2.cell? ⟨w.heap.size, 0, none⟩ = some (.int .i64 n) := by rw [hb2.cell (World.block_lt_of_cell? _ _ q0)]; exact q0
  have ht := h2.there n hn
  have hf : w2.frozen? ⟨b, o + 257 + n, none⟩ = false := by have := h2.frozen (257 + n) (by omega); simpa [Nat.add_assoc] using this
  clear q0 q1 hb2 h1 hh
  go_wp2
  go_region
  go_wp2
  go_ret
  exact ⟨rfl, (h2.setThere n hn false).drew, ((Turns.of_below hbw).setCell _ ⟨rfl, by omega, by omega⟩).drew⟩


def isW (v : Int) : Bool := decide (0 ≤ v ∧ v < 4294967296)
def Ar.chk (s : Ar) (c g k : Int) (L : List Int) : Nat := if s.at c g k = 0 then (if L.all isW = true then 0 else 2) else s.at c g k

theorem Ar.at_false {s : Ar} {c g k : Int} (h : s.has c g = false) : s.at c g k = 7 := by unfold Ar.at; rw [if_pos h]
theorem Ar.at_bad {s : Ar} {c g k : Int} (h : s.has c g = true) (hk : ¬ (0 ≤ k ∧ k < 4)) : s.at c g k = 2 := by unfold Ar.at; rw [if_neg (by rw [h]; decide), if_neg hk]
theorem Ar.at_ok {s : Ar} {c g k : Int} (h : s.has c g = true) (hk : 0 ≤ k ∧ k < 4) : s.at c g k = 0 := by unfold Ar.at; rw [if_neg (by rw [h]; decide), if_pos hk]

theorem check_no (a : Nat → Addr) (b o : Nat) (s : Ar) (c g k : Int) (vs : Value) (w : World) (hE : EnvM a w) (h : ArAt b o s w) (he : s.at c g k ≠ 0) :
    Calls Tryz.prog 82 #[.pointer (some ⟨b, o, none⟩), .agg #[.int .i64 c, .int .i64 g], .int .i64 k, vs] w fun e w' => e = .returned (errVal a (s.at c g k)) ∧ Below w.heap.size w w' := by
  have c6 := (hE.cell 6 (by decide))
  have c1 := (hE.cell 1 (by decide))
  cases hh : s.has c g
  · rw [Ar.at_false hh]
    go_enter Tryz.func82, Tryz.ntmps82
    go_wp2_with fail
    refine (has_false b o s c g _ (h.alloc _) hh).mono ?_
    rintro e0 w2 ⟨rfl, hb2⟩
    replace hb2 := below_step (box_below c g w) hb2
    have c6 : w2.cell? ⟨2, 0, none⟩ = some (errAt (a 6)) := (hE.below hb2.block).cell 6 (by decide)
    go_wp2
    go_ret
    exact ⟨rfl, hb2⟩
  · by_cases hk : 0 ≤ k ∧ k < 4
    · exact absurd (Ar.at_ok hh hk) he
    · rw [Ar.at_bad hh hk]
      by_cases k0 : k < 0
      · clear hk he
        go_enter Tryz.func82, Tryz.ntmps82
        go_wp2_with fail
        refine (has_true b o s c g _ (h.alloc _) hh).mono ?_
        rintro e0 w2 ⟨rfl, hb2⟩
        replace hb2 := below_step (box_below c g w) hb2
        have c1 : w2.cell? ⟨0, 0, none⟩ = some (errAt (a 1)) := (hE.below hb2.block).cell 1 (by decide)
        go_wp2
        go_ret
        exact ⟨rfl, hb2⟩
      · have k4 : 4 ≤ k := by omega
        clear hk he
        go_enter Tryz.func82, Tryz.ntmps82
        go_wp2_with fail
        refine (has_true b o s c g _ (h.alloc _) hh).mono ?_
        rintro e0 w2 ⟨rfl, hb2⟩
        replace hb2 := below_step (box_below c g w) hb2
        have c1 : w2.cell? ⟨0, 0, none⟩ = some (errAt (a 1)) := (hE.below hb2.block).cell 1 (by decide)
        go_wp2
        go_ret
        exact ⟨rfl, hb2⟩

theorem check_nil (a : Nat → Addr) (b o : Nat) (s : Ar) (c g k : Int) (w : World) (hE : EnvM a w) (h : ArAt b o s w) :
    Calls Tryz.prog 82 #[.pointer (some ⟨b, o, none⟩), .agg #[.int .i64 c, .int .i64 g], .int .i64 k, .slice none 0 0] w fun e w' => e = .returned (errVal a (s.chk c g k [])) ∧ Below w.heap.size w w' := by
  by_cases he : s.at c g k = 0
  · have hc0 : s.chk c g k [] = 0 := by unfold Ar.chk; rw [if_pos he]; rfl
    rw [hc0]
    cases hh : s.has c g
    · rw [Ar.at_false hh] at he; omega
    · by_cases hk : 0 ≤ k ∧ k < 4
      · obtain ⟨k0, k4⟩ := hk
        clear he hc0
        go_enter Tryz.func82, Tryz.ntmps82
        go_wp2_with fail
        refine (has_true b o s c g _ (h.alloc _) hh).mono ?_
        rintro e0 w2 ⟨rfl, hb2⟩
        replace hb2 := below_step (box_below c g w) hb2
        go_wp2
        go_loopw [10, 25] (fun _ i wr => wr = w2 ∧ i = .int .i64 0) (fun _ _ _ => 0)
        case atStart => exact ⟨rfl, rfl⟩
        case round =>
          obtain ⟨rfl, rfl⟩ := hrel
          go_wp2
          go_ret
          exact ⟨rfl, hb2⟩
      · rw [Ar.at_bad hh hk] at he; omega
  · have hc0 : s.chk c g k [] = s.at c g k := by unfold Ar.chk; rw [if_neg he]
    rw [hc0]
    exact check_no a b o s c g k _ w hE h he

theorem isW_dec (v : Int) (w : World) : Calls Tryz.prog 92 #[.int .i64 v] w fun e w' => e = .returned (.bool (isW v)) ∧ w' = w := isWord_any v w

set_option maxHeartbeats 1000000 in
theorem check_list (a : Nat → Addr) (b o : Nat) (s : Ar) (c g k : Int) (vb : Nat) (cp : Nat) (L : List Int) (hL : L.length ≤ 1000) (w : World) (hE : EnvM a w) (h : ArAt b o s w)
    (hv : ∀ j, j < L.length → w.cell? ⟨vb, j, none⟩ = some (.int .i64 (L.getD j 0))) :
    Calls Tryz.prog 82 #[.pointer (some ⟨b, o, none⟩), .agg #[.int .i64 c, .int .i64 g], .int .i64 k, .slice (some ⟨vb, 0, none⟩) L.length cp] w fun e w' => e = .returned (errVal a (s.chk c g k L)) ∧ Below w.heap.size w w' := by
  by_cases he : s.at c g k = 0
  · cases hh : s.has c g
    · rw [Ar.at_false hh] at he; omega
    · by_cases hk : 0 ≤ k ∧ k < 4
      · obtain ⟨k0, k4⟩ := hk
        have HC : Hid (s.chk c g k L = if L.all isW = true then 0 else 2) := by unfold Ar.chk; rw [if_pos he]; exact rfl
        clear he
        go_enter Tryz.func82, Tryz.ntmps82
        go_wp2_with fail
        refine (has_true b o s c g _ (h.alloc _) hh).mono ?_
        rintro e0 w2 ⟨rfl, hb2⟩
        replace hb2 := below_step (box_below c g w) hb2
        have c1 : w2.cell? ⟨0, 0, none⟩ = some (errAt (a 1)) := (hE.below hb2.block).cell 1 (by decide)
        have HV : Hid (∀ j, j < L.length → w2.cell? ⟨vb, j, none⟩ = some (.int .i64 (L.getD j 0))) := fun j hj => by
          rw [hb2.cell (World.block_lt_of_cell? _ _ (hv j hj))]; exact hv j hj
        clear hv h hh
        go_wp2
        go_loopw [10, 25] (fun _ i wr => wr = w2 ∧ ∃ j : Nat, j ≤ L.length ∧ i = .int .i64 j ∧ Hid (∀ i, i < j → isW (L.getD i 0) = true)) (fun _ i _ => L.length - (intOf i).toNat)
        case atStart => exact ⟨rfl, 0, Nat.zero_le _, rfl, fun i hi => absurd hi (Nat.not_lt_zero _)⟩
        case round =>
          obtain ⟨rfl, j, hj, rfl, HJ⟩ := hrel
          by_cases hlt : j < L.length
          · have cj := HV.out j hlt
            have HW := isW_dec (L.getD j 0) wr
            have HD : Hid (L.getD j 0 ∈ L) := by
              rw [List.getD_eq_getElem?_getD, List.getElem?_eq_getElem hlt]; exact List.getElem_mem hlt
            cases hw : isW (L.getD j 0)
            · rw [hw] at HW
              have HZ : Hid (s.chk c g k L = 2) := by
                show _ = _; rw [HC.out, if_neg (fun e => by rw [List.all_eq_true] at e; rw [e _ HD.out] at hw; cases hw)]
              clear HV HJ HD HC hw
              generalize L.getD j 0 = v at *
              go_wp2_with fail
              refine HW.mono ?_
              rintro e1 w3 ⟨rfl, rfl⟩
              go_wp2
              go_ret
              exact ⟨by rw [HZ.out]; rfl, hb2⟩
            · rw [hw] at HW
              have HJ' : Hid (∀ i, i < j + 1 → isW (L.getD i 0) = true) := fun i hi => by
                by_cases e : i = j
                · rw [e]; exact hw
                · exact HJ.out i (by omega)
              clear HV HJ HD hw
              generalize L.getD j 0 = v at cj HW
              go_wp2_with fail
              refine HW.mono ?_
              rintro e1 w3 ⟨rfl, rfl⟩
              go_wp2
              go_roundw
              case rel => exact ⟨trivial, j + 1, by omega, by go_num, HJ'⟩
              case measure => simp [intOf]; omega
          · obtain rfl : j = L.length := by omega
            have HZ : Hid (s.chk c g k L = 0) := by
              show _ = _; rw [HC.out, if_pos]
              rw [List.all_eq_true]
              intro x hx
              obtain ⟨i, hi, rfl⟩ := List.getElem_of_mem hx
              have := HJ.out i hi
              rwa [List.getD_eq_getElem?_getD, List.getElem?_eq_getElem hi] at this
            clear HV HJ HC
            go_wp2
            go_ret
            exact ⟨by rw [HZ.out]; rfl, hb2⟩
      · rw [Ar.at_bad hh hk] at he; omega
  · have hc0 : s.chk c g k L = s.at c g k := by unfold Ar.chk; rw [if_neg he]
    rw [hc0]
    exact check_no a b o s c g k _ w hE h he

theorem Ar.chk_nil (s : Ar) (c g k : Int) : s.chk c g k [] = s.at c g k := by
  unfold Ar.chk
  split
  · rename_i h; rw [h]; rfl
  · rfl

theorem errVal_ne (a : Nat → Addr) (k : Nat) (hk : k ≠ 0) : errVal a k = errAt (a (k - 1)) := by
  cases k with
  | zero => exact absurd rfl hk
  | succ k => rfl

set_option maxRecDepth 20000 in
set_option maxHeartbeats 1000000 in
theorem load_yes (a : Nat → Addr) (b o : Nat) (s : Ar) (n k : Nat) (g : Int) (w : World) (hE : EnvM a w) (h : ArAt b o s w) (hn : n < 64) (hh : s.has n g = true) (hk : k < 4) :
    Calls Tryz.prog 66 #[.pointer (some ⟨b, o, none⟩), .agg #[.int .i64 n, .int .i64 g], .int .i64 k] w fun e w' => e = .returned (.tuple #[.int .i64 (s.words n k), .nilIface]) ∧ Below w.heap.size w w' := by
  have n64 : (n : Int) < 64 := by omega
  have k4 : (k : Int) < 4 := by omega
  obtain ⟨v0, v1⟩ := h.range n k
  generalize hv : s.words n k = v at v0 v1 ⊢
  have HW : Hid (s.words n k = v) := hv
  clear hv
  have h1 := h.alloc (.cells #[.int .i64 n, .int .i64 g] 65)
  have hba := box_below n g w
  have HC := check_nil a b o s n g k _ (hE.below hba.block) h1
  rw [Ar.chk_nil, Ar.at_ok hh (by omega), show errVal a 0 = .nilIface from rfl] at HC
  have q0 : (w.alloc (.cells #[.int .i64 n, .int .i64 g] 65)).cell? ⟨w.heap.size, 0, none⟩ = some (.int .i64 n) := by simp
  have q1 : (w.alloc (.cells #[.int .i64 n, .int .i64 g] 65)).cell? ⟨w.heap.size, 1, none⟩ = some (.int .i64 g) := by simp
  generalize hw : w.alloc (.cells #[.int .i64 n, .int .i64 g] 65) = w1 at *
  go_enter Tryz.func66, Tryz.ntmps66
  go_wp2_with fail
  refine HC.mono ?_
  rintro e0 w2 ⟨rfl, hb2⟩
  have hbw := below_step hba hb2
  have h2 := h.below hbw
  have r0 : w2.cell? ⟨w.heap.size, 0, none⟩ = some (.int .i64 n) := keep_cell hb2 q0
  have hwd := h2.words n k hn hk
  clear q0 q1 hb2 h1 hh
  rw [HW.out] at hwd
  clear HW HC
  go_wp2
  go_quiet (fail)
  go_wp2
  go_ret2
  exact ⟨rfl, below_dN hbw _⟩

theorem varg_below (c g v : Int) (w : World) : Below w.heap.size w ((w.alloc (.cells #[.int .i64 c, .int .i64 g] 65)).alloc (.cells #[.int .i64 v] 3)) := (box_below c g w).alloc (by simp) _

theorem store_err (a : Nat → Addr) (b o : Nat) (s : Ar) (c g k v : Int) (w : World) (hE : EnvM a w) (h : ArAt b o s w) (he : s.chk c g k [v] ≠ 0) :
    Calls Tryz.prog 67 #[.pointer (some ⟨b, o, none⟩), .agg #[.int .i64 c, .int .i64 g], .int .i64 k, .int .i64 v] w fun e w' => e = .returned (errVal a (s.chk c g k [v])) ∧ Below w.heap.size w w' := by
  have hba := varg_below c g v w
  have HC := check_list a b o s c g k (w.heap.size + 1) 1 [v] (by simp) _ (hE.below hba.block) (h.below hba) (fun j hj => by
    obtain rfl : j = 0 := by simp at hj; omega
    show World.cell? _ ⟨w.heap.size + 1, 0, none⟩ = _
    go_simp)
  rw [errVal_ne a _ he] at HC
  rw [errVal_ne a _ he]
  simp only [List.length_singleton] at HC
  generalize s.chk c g k [v] - 1 = n at *
  clear h he
  go_enter Tryz.func67, Tryz.ntmps67
  go_wp2_with fail
  refine HC.mono ?_
  rintro e0 w2 ⟨rfl, hb2⟩
  have hbw := below_step hba hb2
  go_wp2
  go_ret
  exact ⟨rfl, hbw⟩

theorem Ar.chk_one_ok {s : Ar} {c g k v : Int} (h : s.has c g = true) (hk : 0 ≤ k ∧ k < 4) (hv : 0 ≤ v ∧ v < 4294967296) : s.chk c g k [v] = 0 := by
  unfold Ar.chk; rw [if_pos (Ar.at_ok h hk), if_pos]; simp [isW]; exact hv
theorem Ar.chk_no {s : Ar} {c g k : Int} {L : List Int} (h : s.has c g = false) : s.chk c g k L = 7 := by
  unfold Ar.chk; rw [if_neg (by rw [Ar.at_false h]; decide), Ar.at_false h]

theorem store_no (a : Nat → Addr) (b o : Nat) (s : Ar) (c g k v : Int) (w : World) (hE : EnvM a w) (h : ArAt b o s w) (hh : s.has c g = false) :
    Calls Tryz.prog 67 #[.pointer (some ⟨b, o, none⟩), .agg #[.int .i64 c, .int .i64 g], .int .i64 k, .int .i64 v] w fun e w' => e = .returned (errAt (a 6)) ∧ Below w.heap.size w w' := by
  have := store_err a b o s c g k v w hE h (by rw [Ar.chk_no hh]; decide)
  rwa [Ar.chk_no hh] at this
set_option maxRecDepth 20000 in
set_option maxHeartbeats 1000000 in
theorem store_yes (a : Nat → Addr) (b o : Nat) (s : Ar) (n k : Nat) (g v : Int) (w : World) (hE : EnvM a w) (h : ArAt b o s w) (hn : n < 64) (hh : s.has n g = true) (hk : k < 4) (hv : 0 ≤ v ∧ v < 4294967296) :
    Calls Tryz.prog 67 #[.pointer (some ⟨b, o, none⟩), .agg #[.int .i64 n, .int .i64 g], .int .i64 k, .int .i64 v] w fun e w' => e = .returned .nilIface ∧ ArAt b o (s.setWord n k v) w' ∧ Turns (arPl b o) w w' := by
  have n64 : (n : Int) < 64 := by omega
  have k4 : (k : Int) < 4 := by omega
  have hv0 : 0 ≤ v := hv.1
  have hv1 : v < 4294967296 := hv.2
  have HW : Hid (0 ≤ v ∧ v < 4294967296) := hv
  have hba := varg_below n g v w
  have HC := check_list a b o s n g k (w.heap.size + 1) 1 [v] (by simp) _ (hE.below hba.block) (h.below hba) (fun j hj => by
    obtain rfl : j = 0 := by simp at hj; omega
    show World.cell? _ ⟨w.heap.size + 1, 0, none⟩ = _
    go_simp)
  rw [Ar.chk_one_ok hh (by omega) hv, show errVal a 0 = .nilIface from rfl] at HC
  simp only [List.length_singleton] at HC
  clear hv
  have q0 : ((w.alloc (.cells #[.int .i64 n, .int .i64 g] 65)).alloc (.cells #[.int .i64 v] 3)).cell? ⟨w.heap.size, 0, none⟩ = some (.int .i64 n) := by go_simp
  have hl := h.lt
  go_enter Tryz.func67, Tryz.ntmps67
  go_wp2_with fail
  refine HC.mono ?_
  rintro e0 w2 ⟨rfl, hb2⟩
  have hbw := below_step hba hb2
  have h2 := h.below hbw
  have r0 : w2.cell? ⟨w.heap.size, 0, none⟩ = some (.int .i64 n) := keep_cell hb2 q0
  have hwd := h2.words n k hn hk
  have hf : w2.frozen? ⟨b, o + 1 + n * 4 + k, none⟩ = false := by have := h2.frozen (1 + n * 4 + k) (by omega); simpa [Nat.add_assoc] using this
  clear q0 hb2 hh HC
  go_wp2
  go_region
  go_wp2
  go_ret
  exact ⟨rfl, (h2.setWord n k hn hk v HW.out).drew, ((Turns.of_below hbw).setCell _ ⟨rfl, by omega, by omega⟩).drew⟩
end Go.Proofs.YtnnlkolhahjokaaGreatDoor
