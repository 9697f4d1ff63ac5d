/- Package memory by contracts: where it lies; has, Waiting, allow. -/
import Derived.Test.YtcnemlamlchnkaaDoorMemB
import Derived.Test.YtcnemlamlchnkaaDoorMemC
namespace Go.Proofs.YtcnemlamlchnkaaDoor
open Go.RowKit Go.Extern.Stop Go.Stop Go.Extern Go.Sort

/-- A memory of state s lies at block b. -/
structure MmAt (b : Nat) (s : Rm) (w : World) : Prop where
  ar : ArAt b 0 s.ar w
  few : s.threads ≤ 6
  nt : w.cell? ⟨b, 385, none⟩ = some (.int .i64 s.threads)
  line : ∀ t, t < s.threads → LnAt b (386 + t * 33) (s.waits t) w

theorem MmAt.lt {b : Nat} {s : Rm} {w : World} (h : MmAt b s w) : b < w.heap.size := World.block_lt_of_cell? _ _ h.nt
theorem MmAt.turns {S : Nat → Nat → Prop} {b : Nat} {s : Rm} {w w' : World} (h : MmAt b s w) (t : Turns S w w') (hS : ∀ o, ¬ S b o) : MmAt b s w' where
  ar := h.ar.turns t (fun _ _ => hS _)
  few := h.few
  nt := t.keep h.nt (hS _)
  line u hu := (h.line u hu).turns t (fun _ _ => hS _)
theorem MmAt.below {b : Nat} {s : Rm} {w w' : World} (h : MmAt b s w) (hb : Below w.heap.size w w') : MmAt b s w' :=
  h.turns (Turns.of_below (S := fun _ _ => False) hb) (fun _ h => h)
theorem MmAt.alloc {b : Nat} {s : Rm} {w : World} (h : MmAt b s w) (ob : Obj) : MmAt b s (w.alloc ob) := h.below ((Below.refl _ _).alloc (Nat.le_refl _) _)
theorem MmAt.drewN {b : Nat} {s : Rm} {w : World} (h : MmAt b s w) (n : Nat) : MmAt b s (w.drewN n) := h.below (Below.drewN' n)

/-- From one state of the memory to another: nothing that was there but its own block has turned. -/
structure MmStep (b : Nat) (w : World) (s' : Rm) (w' : World) : Prop where
  at' : MmAt b s' w'
  turns : Turns (fun k _ => k = b) w w'

theorem MmStep.refl {b : Nat} {s : Rm} {w : World} (h : MmAt b s w) : MmStep b w s w := ⟨h, Turns.refl _ _⟩
theorem MmStep.trans {b : Nat} {s s' : Rm} {w w' w2 : World} (h : MmStep b w s w') (k : MmStep b w' s' w2) : MmStep b w s' w2 := ⟨k.at', h.turns.trans k.turns⟩
theorem MmStep.below {b : Nat} {s : Rm} {w w' w2 : World} (h : MmStep b w s w') (k : Below w'.heap.size w' w2) : MmStep b w s w2 := ⟨h.at'.below k, h.turns.trans (Turns.of_below k)⟩
theorem MmStep.of_below {b : Nat} {s : Rm} {w0 w w' : World} (k : Below w0.heap.size w0 w) (h : MmStep b w s w') : MmStep b w0 s w' := ⟨h.at', (Turns.of_below k).trans h.turns⟩
theorem MmStep.of_below' {b : Nat} {s : Rm} {w w' : World} (h : MmAt b s w) (k : Below w.heap.size w w') : MmStep b w s w' := ⟨h.below k, Turns.of_below k⟩

/-- A step of the arena below. -/
theorem MmAt.arena {b : Nat} {s : Rm} {w w' : World} (h : MmAt b s w) {r : Ar} (hr : ArAt b 0 r w') (t : Turns (arPl b 0) w w') : MmStep b w { s with ar := r } w' where
  at' := ⟨hr, h.few, t.keep h.nt (fun e => by have := e.2.2; omega), fun u hu => (h.line u hu).turns t (fun k _ e => by have := e.2.2; omega)⟩
  turns := t.mono fun _ _ _ e => e.1
/-- A step of one line. -/
theorem MmAt.ofLine {b : Nat} {s : Rm} {w w' : World} (h : MmAt b s w) {t : Nat} (_ : t < s.threads) {l : List Wt} (hl : LnAt b (386 + t * 33) l w') (k : Turns (lnPl b (386 + t * 33)) w w') : MmStep b w (s.setWaits t l) w' where
  at' := ⟨h.ar.turns k (fun i hi e => by have := e.2.1; omega), h.few, k.keep h.nt (fun e => by have := e.2.1; omega), fun u hu => by
    simp only [Rm.setWaits]
    by_cases e : u = t
    · rw [if_pos e, e]; exact hl
    · rw [if_neg e]; exact (h.line u hu).turns k (fun i hi e' => by have := e'.2.1; have := e'.2.2; omega)⟩
  turns := k.mono fun _ _ _ e => e.1

theorem has_m (b : Nat) (s : Rm) (t : Int) (w : World) (h : MmAt b s w) :
    Calls Tryd.prog 47 #[.pointer (some ⟨b, 0, none⟩), .int .i64 t] w fun e w' => e = .returned (.bool (decide (0 ≤ t ∧ t < s.threads))) ∧ w' = w := by
  have hn := h.nt
  have hf := h.few
  clear h
  by_cases h0 : 0 ≤ t
  · by_cases h1 : t < s.threads
    · rw [decide_eq_true ⟨h0, h1⟩]
      go_enter Tryd.func47, Tryd.ntmps47
      go_wp2
      go_ret
      exact ⟨rfl, rfl⟩
    · rw [decide_eq_false (fun e => h1 e.2)]
      go_enter Tryd.func47, Tryd.ntmps47
      go_wp2
      go_ret
      exact ⟨rfl, rfl⟩
  · rw [decide_eq_false (fun e => h0 e.1)]
    go_enter Tryd.func47, Tryd.ntmps47
    go_wp2
    go_ret
    exact ⟨rfl, rfl⟩

theorem has_m_yes (b : Nat) (s : Rm) (t : Nat) (w : World) (h : MmAt b s w) (ht : t < s.threads) :
    Calls Tryd.prog 47 #[.pointer (some ⟨b, 0, none⟩), .int .i64 t] w fun e w' => e = .returned (.bool true) ∧ w' = w :=
  (has_m b s t w h).mono fun _ _ ⟨h1, h2⟩ => ⟨by rw [h1, decide_eq_true (by omega)], h2⟩
theorem has_m_no (b : Nat) (s : Rm) (t : Int) (w : World) (h : MmAt b s w) (ht : ¬ (0 ≤ t ∧ t < s.threads)) :
    Calls Tryd.prog 47 #[.pointer (some ⟨b, 0, none⟩), .int .i64 t] w fun e w' => e = .returned (.bool false) ∧ w' = w :=
  (has_m b s t w h).mono fun _ _ ⟨h1, h2⟩ => ⟨by rw [h1, decide_eq_false ht], h2⟩

/-- How many stores of a thread wait; 0 where it is none. -/
def Rm.waiting (s : Rm) (t : Int) : Nat := if 0 ≤ t ∧ t < s.threads then (s.waits t.toNat).length else 0

theorem waiting_any (b : Nat) (s : Rm) (t : Int) (w : World) (h : MmAt b s w) :
    Calls Tryd.prog 35 #[.pointer (some ⟨b, 0, none⟩), .int .i64 t] w fun e w' => e = .returned (.int .i64 (s.waiting t)) ∧ w' = w := by
  by_cases ht : 0 ≤ t ∧ t < s.threads
  · obtain ⟨n, rfl⟩ := Int.eq_ofNat_of_zero_le ht.1
    have hn : n < s.threads := by omega
    have hf := h.few
    have n6 : (n : Int) < 6 := by omega
    have hl := (h.line n hn).len
    have e : s.waiting n = (s.waits n).length := by unfold Rm.waiting; rw [if_pos ht]; rfl
    rw [e]
    have HH : Hid (Calls Tryd.prog 47 #[.pointer (some ⟨b, 0, none⟩), .int .i64 n] w fun e w' => e = .returned (.bool true) ∧ w' = w) := has_m_yes b s n w h hn
    clear h e ht
    go_enter Tryd.func35, Tryd.ntmps35
    go_wp2_with fail
    refine HH.out.mono ?_
    rintro e0 w1 ⟨rfl, rfl⟩
    go_wp2
    go_ret
    exact ⟨rfl, rfl⟩
  · have e : s.waiting t = 0 := by unfold Rm.waiting; rw [if_neg ht]
    rw [e]
    have HH : Hid (Calls Tryd.prog 47 #[.pointer (some ⟨b, 0, none⟩), .int .i64 t] w fun e w' => e = .returned (.bool false) ∧ w' = w) := has_m_no b s t w h ht
    clear h e ht
    go_enter Tryd.func35, Tryd.ntmps35
    go_wp2_with fail
    refine HH.out.mono ?_
    rintro e0 w1 ⟨rfl, rfl⟩
    go_wp2
    go_ret
    exact ⟨rfl, rfl⟩

/-- allow of what is no thread. -/
theorem allow_no (a : Nat → Addr) (b : Nat) (s : Rm) (t c g k : Int) (vs : Value) (w : World) (hE : EnvM a w) (h : MmAt b s w) (ht : ¬ (0 ≤ t ∧ t < s.threads)) :
    Calls Tryd.prog 48 #[.pointer (some ⟨b, 0, none⟩), .int .i64 t, .agg #[.int .i64 c, .int .i64 g], .int .i64 k, vs] w fun e w' => e = .returned (errAt (a 1)) ∧ Below w.heap.size w w' := by
  have hba := box_below c g w
  have c1 : (w.alloc (.cells #[.int .i64 c, .int .i64 g] 36)).cell? ⟨1, 0, none⟩ = some (errAt (a 1)) := (hE.below hba.block).cell 1 (by decide)
  have HH := has_m_no b s t _ (h.alloc (.cells #[.int .i64 c, .int .i64 g] 36)) ht
  clear h ht
  generalize hw : w.alloc (.cells #[.int .i64 c, .int .i64 g] 36) = w1 at *
  go_enter Tryd.func48, Tryd.ntmps48
  go_wp2_with fail
  refine HH.mono ?_
  rintro e0 w2 ⟨rfl, rfl⟩
  go_wp2
  go_ret
  exact ⟨rfl, hba⟩

/-- allow of a thread: what Check answers. -/
theorem allow_yes (b : Nat) (s : Rm) (t : Nat) (c g k : Int) (vs r : Value) (w : World) (h : MmAt b s w) (ht : t < s.threads)
    (HC : ∀ w', Below w.heap.size w w' → Calls Tryd.prog 45 #[.pointer (some ⟨b, 0, none⟩), .agg #[.int .i64 c, .int .i64 g], .int .i64 k, vs] w' fun e w'' => e = .returned r ∧ Below w'.heap.size w' w'') :
    Calls Tryd.prog 48 #[.pointer (some ⟨b, 0, none⟩), .int .i64 t, .agg #[.int .i64 c, .int .i64 g], .int .i64 k, vs] w fun e w' => e = .returned r ∧ Below w.heap.size w w' := by
  have hba := box_below c g w
  have HH := has_m_yes b s t _ (h.alloc (.cells #[.int .i64 c, .int .i64 g] 36)) ht
  have q0 : (w.alloc (.cells #[.int .i64 c, .int .i64 g] 36)).cell? ⟨w.heap.size, 0, none⟩ = some (.int .i64 c) := by simp
  have q1 : (w.alloc (.cells #[.int .i64 c, .int .i64 g] 36)).cell? ⟨w.heap.size, 1, none⟩ = some (.int .i64 g) := by simp
  clear h ht
  generalize hw : w.alloc (.cells #[.int .i64 c, .int .i64 g] 36) = w1 at *
  go_enter Tryd.func48, Tryd.ntmps48
  go_wp2_with fail
  refine HH.mono ?_
  rintro e0 w2 ⟨rfl, rfl⟩
  clear HH hw
  have HCF : Hid (∀ d os, Calls Tryd.prog 45 #[.pointer (some ⟨b, 0, none⟩), .agg #[.int .i64 c, .int .i64 g], .int .i64 k, vs] (grow (redrawn w2 d) os) fun e w'' => e = .returned r ∧ ∃ p : Regrown, w'' = grow (redrawn w2 p.d) p.os) := fun d os =>
    Calls.regrown_of (HC _ (below_step hba (below_regrown w2 d os)))
  have d0 := cell_regrown q0
  have d1 := cell_regrown q1
  clear HC
  go_wp2_with fail
  refine wp_region_quiet_below (by kernel_rfl) (by kernel_rfl) ?_
  repeat (first
    | go_big_quiet_step (exact HCF.out _ _)
    | quiet_step (exact HCF.out _ _))
  refine wpQuiet_nil ?_
  intro _ hw'
  obtain ⟨⟨dq, osq⟩, hw''⟩ := hw'
  subst hw''
  have B8 := below_step hba (below_regrown w2 dq osq)
  clear HCF d0 d1 q0 q1
  generalize grow (redrawn w2 dq) osq = w8 at B8 ⊢
  go_wp2
  go_ret
  exact ⟨rfl, B8⟩
end Go.Proofs.YtcnemlamlchnkaaDoor
