/- Package memory by contracts: Drain, Fence. -/
import Derived.Test.YtcnemlamlchnkaaDoorMemF
namespace Go.Proofs.YtcnemlamlchnkaaDoor
open Go.RowKit Go.Extern.Stop Go.Stop Go.Extern Go.Sort

/-- A store that may wait: a word's index, a word. -/
def Wt.Ok (x : Wt) : Prop := (0 ≤ x.w ∧ x.w < 4) ∧ (0 ≤ x.v ∧ x.v < 4294967296)

/-- What the listed variables hold lies below B, and has not turned. -/
structure EnvB (a : Nat → Addr) (B : Nat) (w : World) : Prop where
  ex : ∃ W, EnvM a W ∧ W.heap.size = B ∧ Below B W w
theorem EnvB.of {a : Nat → Addr} {w w' : World} (h : EnvM a w) (hb : Below w.heap.size w w') : EnvB a w.heap.size w' := ⟨w, h, rfl, hb⟩
theorem EnvB.env {a : Nat → Addr} {B : Nat} {w : World} (h : EnvB a B w) : EnvM a w := by
  obtain ⟨W, h1, rfl, h3⟩ := h.ex
  exact h1.below h3.block
theorem EnvB.size {a : Nat → Addr} {B : Nat} {w : World} (h : EnvB a B w) : B ≤ w.heap.size := by
  obtain ⟨W, h1, rfl, h3⟩ := h.ex
  exact h3.size
theorem EnvB.turns {S : Nat → Nat → Prop} {a : Nat → Addr} {B : Nat} {w w' : World} (h : EnvB a B w) (t : Turns S w w') (hS : ∀ k o, S k o → B ≤ k) : EnvB a B w' := by
  obtain ⟨W, h1, rfl, h3⟩ := h.ex
  exact ⟨W, h1, rfl, h3.trans (t.below h3.size (fun k o hk hs => by have := hS k o hs; omega))⟩
theorem EnvB.below {a : Nat → Addr} {B : Nat} {w w' : World} (h : EnvB a B w) (t : Below w.heap.size w w') : EnvB a B w' :=
  h.turns (Turns.of_below (S := fun _ _ => False) t) (fun _ _ h => h.elim)
theorem EnvB.step {a : Nat → Addr} {B b : Nat} {s : Rm} {w w' : World} (h : EnvB a B w) (hB : B ≤ b) (t : MmStep b w s w') : EnvB a B w' := h.turns t.turns (fun k _ e => by rw [e]; exact hB)

/-- A store into the arena below, of a store that waited. -/
theorem late_store (a : Nat → Addr) (b : Nat) (s : Rm) (t : Nat) (x : Wt) (l : List Wt) (w0 w : World) (hE : EnvM a w) (h : MmStep b w0 (s.setWaits t l) w) (hx : x.Ok) :
    Calls Tryd.prog 20 #[.pointer (some ⟨b, 0, none⟩), .agg #[.int .i64 x.c, .int .i64 x.g], .int .i64 x.w, .int .i64 x.v] w fun e w' => e = .returned (errVal a (if s.ar.has x.c x.g = true then 0 else 7)) ∧ MmStep b w0 (s.drained t x l) w' := by
  cases hh : s.ar.has x.c x.g
  · have hd : s.drained t x l = s.setWaits t l := by unfold Rm.drained; rw [hh]; rfl
    rw [hd]
    exact (store_no a b 0 s.ar x.c x.g x.w x.v w hE h.at'.ar hh).mono fun _ _ ⟨e1, e2⟩ => ⟨e1, h.below e2⟩
  · have hd : s.drained t x l = (s.setWaits t l).setWord x.c.toNat x.w.toNat x.v := by unfold Rm.drained; rw [hh]; rfl
    rw [hd]
    obtain ⟨n, hc, hn, -, -⟩ := Ar.has_lt hh
    obtain ⟨m, hm⟩ := Int.eq_ofNat_of_zero_le hx.1.1
    have h64 := h.at'.ar.small
    have hn64 : n < 64 := Nat.lt_of_lt_of_le hn h64
    rw [hc, hm]
    rw [hc] at hh
    have hm4 : m < 4 := by have := hx.1.2; omega
    exact (store_yes a b 0 s.ar n m x.g x.v w hE h.at'.ar hn64 hh hm4 hx.2).mono fun _ _ ⟨e1, e2, e3⟩ => ⟨e1, h.trans (h.at'.arena e2 e3)⟩

theorem mdrain_no (a : Nat → Addr) (b : Nat) (s : Rm) (t : Int) (w : World) (hE : EnvM a w) (h : MmAt b s w) (ht : ¬ (0 ≤ t ∧ t < s.threads)) :
    Calls Tryd.prog 36 #[.pointer (some ⟨b, 0, none⟩), .int .i64 t] w fun e w' => e = .returned (errAt (a 1)) ∧ w' = w := by
  have c1 : w.cell? ⟨1, 0, none⟩ = some (errAt (a 1)) := hE.cell 1 (by decide)
  have HH := has_m_no b s t w h ht
  clear h ht
  go_enter Tryd.func36, Tryd.ntmps36
  go_wp2_with fail
  refine HH.mono ?_
  rintro e0 w1 ⟨rfl, rfl⟩
  go_wp2
  go_ret
  exact ⟨rfl, rfl⟩

theorem mdrain_none (a : Nat → Addr) (b : Nat) (s : Rm) (t : Nat) (w : World) (hE : EnvM a w) (h : MmAt b s w) (ht : t < s.threads) (he : s.waits t = []) :
    Calls Tryd.prog 36 #[.pointer (some ⟨b, 0, none⟩), .int .i64 t] w fun e w' => e = .returned (errAt (a 4)) ∧ w' = w := by
  have c4 : w.cell? ⟨4, 0, none⟩ = some (errAt (a 4)) := hE.cell 4 (by decide)
  have HH := has_m_yes b s t w h ht
  have hf := h.few
  have t6 : (t : Int) < 6 := by omega
  have hl := (h.line t ht).len
  rw [he] at hl
  clear h
  go_enter Tryd.func36, Tryd.ntmps36
  go_wp2_with fail
  refine HH.mono ?_
  rintro e0 w1 ⟨rfl, rfl⟩
  go_wp2
  go_ret
  exact ⟨rfl, rfl⟩

set_option maxRecDepth 20000 in
set_option maxHeartbeats 1000000 in
theorem mdrain_some (a : Nat → Addr) (B b : Nat) (s : Rm) (t : Nat) (x : Wt) (l : List Wt) (w : World) (hE : EnvB a B w) (hB : B ≤ b) (h : MmAt b s w) (ht : t < s.threads) (he : s.waits t = x :: l) (hx : x.Ok) :
    Calls Tryd.prog 36 #[.pointer (some ⟨b, 0, none⟩), .int .i64 t] w fun e w' => e = .returned (errVal a (if s.ar.has x.c x.g = true then 0 else 7)) ∧ MmStep b w (s.drained t x l) w' := by
  have HH := has_m_yes b s t w h ht
  have hf := h.few
  have t6 : (t : Int) < 6 := by omega
  have hl := (h.line t ht).len
  have hln := h.line t ht
  rw [he] at hl hln
  have h8 := hln.le
  have l0 : ((l.length : Int) + 1 == 0) = false := beq_eq_false_iff_ne.2 (by omega)
  rw [List.length_cons] at hl h8
  have HT : Hid (Calls Tryd.prog 51 #[.pointer (some ⟨b, 386 + t * 33, none⟩)] w fun e w' => e = .returned (.agg #[.int .i64 x.c, .int .i64 x.g, .int .i64 x.w, .int .i64 x.v]) ∧ MmStep b w (s.setWaits t l) w') :=
    (take_any b (386 + t * 33) x l w hln).mono fun _ _ ⟨e1, e2, e3⟩ => ⟨e1, h.ofLine ht e2 e3⟩
  have HS : Hid (∀ w', MmStep b w (s.setWaits t l) w' → Calls Tryd.prog 20 #[.pointer (some ⟨b, 0, none⟩), .agg #[.int .i64 x.c, .int .i64 x.g], .int .i64 x.w, .int .i64 x.v] w' fun e w'' => e = .returned (errVal a (if s.ar.has x.c x.g = true then 0 else 7)) ∧ MmStep b w (s.drained t x l) w'') := fun w' h' =>
    late_store a b s t x l w w' (hE.step hB h').env h' hx
  generalize errVal a (if s.ar.has x.c x.g = true then 0 else 7) = r at *
  clear h he hln
  go_enter Tryd.func36, Tryd.ntmps36
  go_wp2_with fail
  refine HH.mono ?_
  rintro e0 w1 ⟨rfl, rfl⟩
  clear HH
  go_wp2_with fail
  refine HT.out.mono ?_
  rintro e1 w2 ⟨rfl, H2⟩
  have q0 : (w2.alloc (.cells #[.int .i64 x.c, .int .i64 x.g, .int .i64 x.w, .int .i64 x.v] 104)).cell? ⟨w2.heap.size, 0, none⟩ = some (.int .i64 x.c) := by simp
  have q1 : (w2.alloc (.cells #[.int .i64 x.c, .int .i64 x.g, .int .i64 x.w, .int .i64 x.v] 104)).cell? ⟨w2.heap.size, 1, none⟩ = some (.int .i64 x.g) := by simp
  have q2 : (w2.alloc (.cells #[.int .i64 x.c, .int .i64 x.g, .int .i64 x.w, .int .i64 x.v] 104)).cell? ⟨w2.heap.size, 2, none⟩ = some (.int .i64 x.w) := by simp
  have q3 : (w2.alloc (.cells #[.int .i64 x.c, .int .i64 x.g, .int .i64 x.w, .int .i64 x.v] 104)).cell? ⟨w2.heap.size, 3, none⟩ = some (.int .i64 x.v) := by simp
  have H3 : MmStep b w1 (s.setWaits t l) (w2.alloc (.cells #[.int .i64 x.c, .int .i64 x.g, .int .i64 x.w, .int .i64 x.v] 104)) := H2.below ((Below.refl _ _).alloc (Nat.le_refl _) _)
  go_wp2_with fail
  generalize w2.alloc (.cells #[.int .i64 x.c, .int .i64 x.g, .int .i64 x.w, .int .i64 x.v] 104) = w3 at *
  have HA : Hid (∀ n, Calls Tryd.prog 20 #[.pointer (some ⟨b, 0, none⟩), .agg #[.int .i64 x.c, .int .i64 x.g], .int .i64 x.w, .int .i64 x.v] (w3.drewN n) fun e w'' => e = .returned r ∧ MmStep b w1 (s.drained t x l) w'') := fun n => HS.out _ (H3.below (Below.drewN' n))
  clear HS HT H2 H3
  go_region_with (go_at_call 20; refine (HA.out 1).mono ?_; rintro e4 w4 ⟨rfl, H4⟩)
  all_goals
    go_wp2
    go_ret
    exact ⟨rfl, H4⟩
end Go.Proofs.YtcnemlamlchnkaaDoor
