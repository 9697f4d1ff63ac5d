import Derived.Test.YtdpmnlbnlnmjbaaGreatDoorL08
import Derived.Deep.RegionWith

/- MemE -/
namespace Go.Proofs.YtdpmnlbnlnmjbaaGreatDoor
open Go.RowKit Go.Extern.Stop Go.Stop Go.Extern Go.Sort

def Rm.may (s : Rm) (t c g k : Int) (L : List Int) : Nat := if 0 ≤ t ∧ t < s.threads then s.ar.chk c g k L else 2

theorem Rm.may_yes {s : Rm} {t : Nat} (h : t < s.threads) (c g k : Int) (L : List Int) : s.may t c g k L = s.ar.chk c g k L := by unfold Rm.may; rw [if_pos (by omega)]
theorem Rm.may_no {s : Rm} {t : Int} (h : ¬ (0 ≤ t ∧ t < s.threads)) (c g k : Int) (L : List Int) : s.may t c g k L = 2 := by unfold Rm.may; rw [if_neg h]

theorem allow_nil (a : Nat → Addr) (b : Nat) (s : Rm) (t c g k : Int) (w : World) (hE : EnvM a w) (h : MmAt b s w) :
    Calls Tryz.prog 131 #[.pointer (some ⟨b, 0, none⟩), .int .i64 t, .agg #[.int .i64 c, .int .i64 g], .int .i64 k, .slice none 0 0] w fun e w' => e = .returned (errVal a (s.may t c g k [])) ∧ Below w.heap.size w w' := by
  by_cases ht : 0 ≤ t ∧ t < s.threads
  · obtain ⟨n, rfl⟩ := Int.eq_ofNat_of_zero_le ht.1
    rw [Rm.may_yes (by omega)]
    exact allow_yes b s n c g k _ _ w h (by omega) (fun w' hb => check_nil a b 0 s.ar c g k w' (hE.below hb.block) (h.ar.below hb))
  · rw [Rm.may_no ht]
    exact allow_no a b s t c g k _ w hE h ht

theorem allow_list (a : Nat → Addr) (b : Nat) (s : Rm) (t c g k : Int) (vb cp : Nat) (L : List Int) (hL : L.length ≤ 1000) (w : World) (hE : EnvM a w) (h : MmAt b s w)
    (hv : ∀ j, j < L.length → w.cell? ⟨vb, j, none⟩ = some (.int .i64 (L.getD j 0))) :
    Calls Tryz.prog 131 #[.pointer (some ⟨b, 0, none⟩), .int .i64 t, .agg #[.int .i64 c, .int .i64 g], .int .i64 k, .slice (some ⟨vb, 0, none⟩) L.length cp] w fun e w' => e = .returned (errVal a (s.may t c g k L)) ∧ Below w.heap.size w w' := by
  by_cases ht : 0 ≤ t ∧ t < s.threads
  · obtain ⟨n, rfl⟩ := Int.eq_ofNat_of_zero_le ht.1
    rw [Rm.may_yes (by omega)]
    exact allow_yes b s n c g k _ _ w h (by omega) (fun w' hb => check_list a b 0 s.ar c g k vb cp L hL w' (hE.below hb.block) (h.ar.below hb) (fun j hj => keep_cell hb (hv j hj)))
  · rw [Rm.may_no ht]
    exact allow_no a b s t c g k _ w hE h ht

set_option maxRecDepth 20000 in
set_option maxHeartbeats 1000000 in
theorem mload_ok (a : Nat → Addr) (b : Nat) (s : Rm) (t n m : Nat) (g : Int) (w : World) (hE : EnvM a w) (h : MmAt b s w) (ht : t < s.threads) (hn : n < 64) (hh : s.ar.has n g = true) (hm : m < 4) :
    Calls Tryz.prog 136 #[.pointer (some ⟨b, 0, none⟩), .int .i64 t, .agg #[.int .i64 n, .int .i64 g], .int .i64 m] w fun e w' => e = .returned (.tuple #[.int .i64 ((s.waits t).foldl (Wt.pick n g m) (s.ar.words n m)), .nilIface]) ∧ Below w.heap.size w w' := by
  have h1 := h.alloc (.cells #[.int .i64 n, .int .i64 g] 95)
  have hba := box_below n g w
  have HC := allow_nil a b s t n g m _ (hE.below hba.block) h1
  rw [Rm.may_yes ht, Ar.chk_nil, Ar.at_ok hh (by omega), show errVal a 0 = .nilIface from rfl] at HC
  have q0 : (w.alloc (.cells #[.int .i64 n, .int .i64 g] 95)).cell? ⟨w.heap.size, 0, none⟩ = some (.int .i64 n) := by simp
  have q1 : (w.alloc (.cells #[.int .i64 n, .int .i64 g] 95)).cell? ⟨w.heap.size, 1, none⟩ = some (.int .i64 g) := by simp
  have hf := h.few
  have t6 : (t : Int) < 6 := by omega
  have HLast : Hid (∀ w', Below w.heap.size w w' → Calls Tryz.prog 149 #[.pointer (some ⟨b, 386 + t * 33, none⟩), .agg #[.int .i64 n, .int .i64 g], .int .i64 m] w' fun e w'' => e = .returned (.tuple #[.int .i64 ((s.waits t).foldl (Wt.pick n g m) 0), .bool (waitsFor (s.waits t) n g m)]) ∧ Below w'.heap.size w' w'') := fun w' hb =>
    last_det b (386 + t * 33) (s.waits t) n g m w' ((h.below hb).line t ht)
  have HLoad : Hid (∀ w', Below w.heap.size w w' → Calls Tryz.prog 114 #[.pointer (some ⟨b, 0, none⟩), .agg #[.int .i64 n, .int .i64 g], .int .i64 m] w' fun e w'' => e = .returned (.tuple #[.int .i64 (s.ar.words n m), .nilIface]) ∧ Below w'.heap.size w' w'') := fun w' hb =>
    load_yes a b 0 s.ar n m g w' (hE.below hb.block) (h.ar.below hb) hn hh hm
  have HV : Hid (∀ v0, (s.waits t).foldl (Wt.pick n g m) v0 = if waitsFor (s.waits t) n g m = true then (s.waits t).foldl (Wt.pick n g m) 0 else v0) := by
    have : ∃ e, LastIs (s.waits t) n g m e := by
      by_cases hw : ∃ v, ∀ v0, (s.waits t).foldl (Wt.pick n g m) v0 = v
      · obtain ⟨v, hv⟩ := hw
        exact ⟨_, v, true, rfl, (fun h => Bool.noConfusion h), fun v0 => by rw [hv]; rfl⟩
      · refine ⟨_, 0, false, rfl, fun _ => rfl, ?_⟩
        have key : ∀ l : List Wt, (∃ v, ∀ v0, l.foldl (Wt.pick n g m) v0 = v) ∨ ∀ v0, l.foldl (Wt.pick n g m) v0 = v0 := fun l => by
          induction l with
          | nil => exact Or.inr fun _ => rfl
          | cons x l ih =>
            rcases ih with ⟨v, hv⟩ | hv
            · exact Or.inl ⟨v, fun v0 => hv _⟩
            · by_cases hx : x.c = (n : Int) ∧ x.g = g ∧ x.w = (m : Int)
              · exact Or.inl ⟨x.v, fun v0 => (hv _).trans (if_pos hx)⟩
              · exact Or.inr fun v0 => (hv _).trans (if_neg hx)
        rcases key (s.waits t) with k | k
        · exact absurd k hw
        · intro v0; rw [k]; rfl
    obtain ⟨e, he⟩ := this
    exact (lastIs_det he).2
  rw [HV.out (s.ar.words n m)]
  clear HV h h1 hE hh
  generalize (s.waits t).foldl (Wt.pick n g m) 0 = v at *
  generalize s.ar.words n m = v0 at *
  generalize hw : w.alloc (.cells #[.int .i64 n, .int .i64 g] 95) = w1 at *
  cases hwf : waitsFor (s.waits t) n g m
  all_goals
    rw [hwf] at HLast
    first
      | rw [if_pos (show true = true from rfl)]
      | rw [if_neg (show ¬ false = true from (fun h => Bool.noConfusion h))]
    go_enter Tryz.func136, Tryz.ntmps136
    go_wp2_with fail
    refine HC.mono ?_
    rintro e0 w2 ⟨rfl, hb2⟩
    have B2 := below_step hba hb2
    replace q0 := keep_cell hb2 q0
    replace q1 := keep_cell hb2 q1
    clear hb2 HC hw hba
    have HCF : Hid (∀ d os, Calls Tryz.prog 149 #[.pointer (some ⟨b, 386 + t * 33, none⟩), .agg #[.int .i64 n, .int .i64 g], .int .i64 m] (grow (redrawn w2 d) os) fun e w'' => e = .returned (.tuple #[.int .i64 v, .bool _]) ∧ ∃ p : Regrown, w'' = grow (redrawn w2 p.d) p.os) := fun d os =>
      Calls.regrown_of (HLast.out _ (below_step B2 (below_regrown w2 d os)))
    have d0 := cell_regrown q0
    have d1 := cell_regrown q1
    clear HLast
    go_wp2_with fail
    refine wp_region_quiet_below (by kernel_rfl) (by kernel_rfl) ?_
    repeat (first
      | go_big_quiet_step (exact HCF.out _ _)
      | quiet_step (exact HCF.out _ _))
    refine wpQuiet_nil ?_
    intro _ hw'
    obtain ⟨⟨dq, osq⟩, hw''⟩ := hw'
    subst hw''
    have B3 := below_step B2 (below_regrown w2 dq osq)
    have e0 := d0 dq osq
    have e1 := d1 dq osq
    clear HCF d0 d1 q0 q1 B2
    generalize grow (redrawn w2 dq) osq = w3 at B3 e0 e1 ⊢
  · have HCF : Hid (∀ d os, Calls Tryz.prog 114 #[.pointer (some ⟨b, 0, none⟩), .agg #[.int .i64 n, .int .i64 g], .int .i64 m] (grow (redrawn w3 d) os) fun e w'' => e = .returned (.tuple #[.int .i64 v0, .nilIface]) ∧ ∃ p : Regrown, w'' = grow (redrawn w3 p.d) p.os) := fun d os =>
      Calls.regrown_of (HLoad.out _ (below_step B3 (below_regrown w3 d os)))
    have d0 := cell_regrown e0
    have d1 := cell_regrown e1
    clear HLoad
    go_wp2_with fail
    refine wp_region_quiet_below (by kernel_rfl) (by kernel_rfl) ?_
    repeat (first
      | go_big_quiet_step (exact HCF.out _ _)
      | quiet_step (exact HCF.out _ _))
    refine wpQuiet_nil ?_
    intro _ hw'
    obtain ⟨⟨dq, osq⟩, hw''⟩ := hw'
    subst hw''
    have B4 := below_step B3 (below_regrown w3 dq osq)
    clear HCF d0 d1 e0 e1 B3
    generalize grow (redrawn w3 dq) osq = w4 at B4 ⊢
    go_wp2
    go_ret2
    exact ⟨rfl, B4⟩
  · go_wp2
    go_ret2
    exact ⟨rfl, B3⟩
end Go.Proofs.YtdpmnlbnlnmjbaaGreatDoor

/- MemF -/
namespace Go.Proofs.YtdpmnlbnlnmjbaaGreatDoor
open Go.RowKit Go.Extern.Stop Go.Stop Go.Extern Go.Sort

theorem varg_cell (c g v : Int) (w : World) (j : Nat) (hj : j < [v].length) : ((w.alloc (.cells #[.int .i64 c, .int .i64 g] 95)).alloc (.cells #[.int .i64 v] 3)).cell? ⟨w.heap.size + 1, j, none⟩ = some (.int .i64 ([v].getD j 0)) := by
  obtain rfl : j = 0 := by simp at hj; omega
  go_simp

theorem full_is (b o : Nat) (l : List Wt) (w : World) (h : LnAt b o l w) (f : Bool) (hf : decide (8 ≤ l.length) = f) :
    Calls Tryz.prog 150 #[.pointer (some ⟨b, o, none⟩)] w fun e w' => e = .returned (.bool f) ∧ w' = w := by
  rw [← hf]; exact full_any b o l w h

set_option maxRecDepth 20000 in
set_option maxHeartbeats 1000000 in
theorem mstore_ok (a : Nat → Addr) (b : Nat) (s : Rm) (t : Nat) (c g k v : Int) (w : World) (hE : EnvM a w) (h : MmAt b s w) (ht : t < s.threads) (he : s.may t c g k [v] = 0) (h8 : (s.waits t).length < 8) :
    Calls Tryz.prog 137 #[.pointer (some ⟨b, 0, none⟩), .int .i64 t, .agg #[.int .i64 c, .int .i64 g], .int .i64 k, .int .i64 v] w fun e w' => e = .returned .nilIface ∧ MmStep b w (s.setWaits t (s.waits t ++ [⟨c, g, k, v⟩])) w' := by
  have hba := varg_below c g v w
  have HC := allow_list a b s t c g k (w.heap.size + 1) 1 [v] (by simp) _ (hE.below hba.block) (h.below hba) (fun j hj => varg_cell c g v w j hj)
  rw [he, show errVal a 0 = .nilIface from rfl] at HC
  simp only [List.length_singleton] at HC
  have hf := h.few
  have t6 : (t : Int) < 6 := by omega
  have HF : Hid (∀ w', Below w.heap.size w w' → Calls Tryz.prog 150 #[.pointer (some ⟨b, 386 + t * 33, none⟩)] w' fun e w'' => e = .returned (.bool false) ∧ w'' = w') := fun w' hb =>
    full_is b _ _ w' ((h.below hb).line t ht) false (decide_eq_false (by omega))
  have HAdd : Hid (∀ w', Below w.heap.size w w' → Calls Tryz.prog 151 #[.pointer (some ⟨b, 386 + t * 33, none⟩), .agg #[.int .i64 c, .int .i64 g, .int .i64 k, .int .i64 v]] w' fun e w'' => e = .returned (.tuple #[]) ∧ MmStep b w (s.setWaits t (s.waits t ++ [⟨c, g, k, v⟩])) w'') := fun w' hb =>
    (add_any b (386 + t * 33) (s.waits t) ⟨c, g, k, v⟩ w' ((h.below hb).line t ht) h8).mono fun _ _ ⟨e1, e2, e3⟩ => ⟨e1, MmStep.of_below hb ((h.below hb).ofLine ht e2 e3)⟩
  have q0 : ((w.alloc (.cells #[.int .i64 c, .int .i64 g] 95)).alloc (.cells #[.int .i64 v] 3)).cell? ⟨w.heap.size, 0, none⟩ = some (.int .i64 c) := by go_simp
  have q1 : ((w.alloc (.cells #[.int .i64 c, .int .i64 g] 95)).alloc (.cells #[.int .i64 v] 3)).cell? ⟨w.heap.size, 1, none⟩ = some (.int .i64 g) := by go_simp
  clear h he h8
  go_enter Tryz.func137, Tryz.ntmps137
  go_wp2_with fail
  refine HC.mono ?_
  rintro e0 w2 ⟨rfl, hb2⟩
  have hbw := below_step hba hb2
  replace q0 := keep_cell hb2 q0
  replace q1 := keep_cell hb2 q1
  clear hb2 HC hba
  go_wp2_with fail
  refine (HF.out w2 hbw).mono ?_
  rintro e1 w3 ⟨rfl, rfl⟩
  have HA : Hid (∀ n, Calls Tryz.prog 151 #[.pointer (some ⟨b, 386 + t * 33, none⟩), .agg #[.int .i64 c, .int .i64 g, .int .i64 k, .int .i64 v]] (w3.drewN n) fun e w'' => e = .returned (.tuple #[]) ∧ MmStep b w (s.setWaits t (s.waits t ++ [⟨c, g, k, v⟩])) w'') := fun n => HAdd.out _ (below_dN hbw n)
  clear HF HAdd
  go_wp2_with fail
  go_region_with (go_at_call 151; refine (HA.out 1).mono ?_; rintro e4 w4 ⟨rfl, H4⟩)
  go_wp2
  go_ret
  exact ⟨rfl, H4⟩
end Go.Proofs.YtdpmnlbnlnmjbaaGreatDoor

/- MemG -/
namespace Go.Proofs.YtdpmnlbnlnmjbaaGreatDoor
open Go.RowKit Go.Extern.Stop Go.Stop Go.Extern Go.Sort

def Wt.Ok (x : Wt) : Prop := (0 ≤ x.w ∧ x.w < 4) ∧ (0 ≤ x.v ∧ x.v < 4294967296)

structure EnvB (a : Nat → Addr) (B : Nat) (w : World) : Prop where
  ex : ∃ W, EnvM a W ∧ W.heap.size = B ∧ Below B W w
theorem EnvB.of {a : Nat → Addr} {w w' : World} (h : EnvM a w) (hb : Below w.heap.size w w') : EnvB a w.heap.size w' := ⟨w, h, rfl, hb⟩
theorem EnvB.env {a : Nat → Addr} {B : Nat} {w : World} (h : EnvB a B w) : EnvM a w := by
  obtain ⟨W, h1, rfl, h3⟩ := h.ex
  exact h1.below h3.block
theorem EnvB.size {a : Nat → Addr} {B : Nat} {w : World} (h : EnvB a B w) : B ≤ w.heap.size := by
  obtain ⟨W, h1, rfl, h3⟩ := h.ex
  exact h3.size
theorem EnvB.turns {S : Nat → Nat → Prop} {a : Nat → Addr} {B : Nat} {w w' : World} (h : EnvB a B w) (t : Turns S w w') (hS : ∀ k o, S k o → B ≤ k) : EnvB a B w' := by
  obtain ⟨W, h1, rfl, h3⟩ := h.ex
  exact ⟨W, h1, rfl, h3.trans (t.below h3.size (fun k o hk hs => by have := hS k o hs; omega))⟩
theorem EnvB.below {a : Nat → Addr} {B : Nat} {w w' : World} (h : EnvB a B w) (t : Below w.heap.size w w') : EnvB a B w' :=
  h.turns (Turns.of_below (S := fun _ _ => False) t) (fun _ _ h => h.elim)
theorem EnvB.step {a : Nat → Addr} {B b : Nat} {s : Rm} {w w' : World} (h : EnvB a B w) (hB : B ≤ b) (t : MmStep b w s w') : EnvB a B w' := h.turns t.turns (fun k _ e => by rw [e.1]; exact hB)

theorem late_store (a : Nat → Addr) (b : Nat) (s : Rm) (t : Nat) (x : Wt) (l : List Wt) (w0 w : World) (hE : EnvM a w) (h : MmStep b w0 (s.setWaits t l) w) (hx : x.Ok) :
    Calls Tryz.prog 93 #[.pointer (some ⟨b, 0, none⟩), .agg #[.int .i64 x.c, .int .i64 x.g], .int .i64 x.w, .int .i64 x.v] w fun e w' => e = .returned (errVal a (if s.ar.has x.c x.g = true then 0 else 7)) ∧ MmStep b w0 (s.drained t x l) w' := by
  cases hh : s.ar.has x.c x.g
  · have hd : s.drained t x l = s.setWaits t l := by unfold Rm.drained; rw [hh]; rfl
    rw [hd]
    exact (store_no a b 0 s.ar x.c x.g x.w x.v w hE h.at'.ar hh).mono fun _ _ ⟨e1, e2⟩ => ⟨e1, h.below e2⟩
  · have hd : s.drained t x l = (s.setWaits t l).setWord x.c.toNat x.w.toNat x.v := by unfold Rm.drained; rw [hh]; rfl
    rw [hd]
    obtain ⟨n, hc, hn, -, -⟩ := Ar.has_lt hh
    obtain ⟨m, hm⟩ := Int.eq_ofNat_of_zero_le hx.1.1
    have h64 := h.at'.ar.small
    have hn64 : n < 64 := Nat.lt_of_lt_of_le hn h64
    rw [hc, hm]
    rw [hc] at hh
    have hm4 : m < 4 := by have := hx.1.2; omega
    exact (store_yes a b 0 s.ar n m x.g x.v w hE h.at'.ar hn64 hh hm4 hx.2).mono fun _ _ ⟨e1, e2, e3⟩ => ⟨e1, h.trans (h.at'.arena e2 e3)⟩

theorem mdrain_no (a : Nat → Addr) (b : Nat) (s : Rm) (t : Int) (w : World) (hE : EnvM a w) (h : MmAt b s w) (ht : ¬ (0 ≤ t ∧ t < s.threads)) :
    Calls Tryz.prog 63 #[.pointer (some ⟨b, 0, none⟩), .int .i64 t] w fun e w' => e = .returned (errAt (a 1)) ∧ w' = w := by
  have c1 : w.cell? ⟨0, 0, none⟩ = some (errAt (a 1)) := hE.cell 1 (by decide)
  have HH := has_m_no b s t w h ht
  clear h ht
  go_enter Tryz.func63, Tryz.ntmps63
  go_wp2_with fail
  refine HH.mono ?_
  rintro e0 w1 ⟨rfl, rfl⟩
  go_wp2
  go_ret
  exact ⟨rfl, rfl⟩

theorem mdrain_none (a : Nat → Addr) (b : Nat) (s : Rm) (t : Nat) (w : World) (hE : EnvM a w) (h : MmAt b s w) (ht : t < s.threads) (he : s.waits t = []) :
    Calls Tryz.prog 63 #[.pointer (some ⟨b, 0, none⟩), .int .i64 t] w fun e w' => e = .returned (errAt (a 4)) ∧ w' = w := by
  have c4 : w.cell? ⟨6, 0, none⟩ = some (errAt (a 4)) := hE.cell 4 (by decide)
  have HH := has_m_yes b s t w h ht
  have hf := h.few
  have t6 : (t : Int) < 6 := by omega
  have hl := (h.line t ht).len
  rw [he] at hl
  clear h
  go_enter Tryz.func63, Tryz.ntmps63
  go_wp2_with fail
  refine HH.mono ?_
  rintro e0 w1 ⟨rfl, rfl⟩
  go_wp2
  go_ret
  exact ⟨rfl, rfl⟩

set_option maxRecDepth 20000 in
set_option maxHeartbeats 1000000 in
theorem mdrain_some (a : Nat → Addr) (B b : Nat) (s : Rm) (t : Nat) (x : Wt) (l : List Wt) (w : World) (hE : EnvB a B w) (hB : B ≤ b) (h : MmAt b s w) (ht : t < s.threads) (he : s.waits t = x :: l) (hx : x.Ok) :
    Calls Tryz.prog 63 #[.pointer (some ⟨b, 0, none⟩), .int .i64 t] w fun e w' => e = .returned (errVal a (if s.ar.has x.c x.g = true then 0 else 7)) ∧ MmStep b w (s.drained t x l) w' := by
  have HH := has_m_yes b s t w h ht
  have hf := h.few
  have t6 : (t : Int) < 6 := by omega
  have hl := (h.line t ht).len
  have hln := h.line t ht
  rw [he] at hl hln
  have h8 := hln.le
  have l0 : ((l.length : Int) + 1 == 0) = false := beq_eq_false_iff_ne.2 (by omega)
  rw [List.length_cons] at hl h8
  have HT : Hid (Calls Tryz.prog 92 #[.pointer (some ⟨b, 386 + t * 33, none⟩)] w fun e w' => e = .returned (.agg #[.int .i64 x.c, .int .i64 x.g, .int .i64 x.w, .int .i64 x.v]) ∧ MmStep b w (s.setWaits t l) w') :=
    (take_any b (386 + t * 33) x l w hln).mono fun _ _ ⟨e1, e2, e3⟩ => ⟨e1, h.ofLine ht e2 e3⟩
  have HS : Hid (∀ w', MmStep b w (s.setWaits t l) w' → Calls Tryz.prog 93 #[.pointer (some ⟨b, 0, none⟩), .agg #[.int .i64 x.c, .int .i64 x.g], .int .i64 x.w, .int .i64 x.v] w' fun e w'' => e = .returned (errVal a (if s.ar.has x.c x.g = true then 0 else 7)) ∧ MmStep b w (s.drained t x l) w'') := fun w' h' =>
    late_store a b s t x l w w' (hE.step hB h').env h' hx
  generalize errVal a (if s.ar.has x.c x.g = true then 0 else 7) = r at *
  clear h he hln
  go_enter Tryz.func63, Tryz.ntmps63
  go_wp2_with fail
  refine HH.mono ?_
  rintro e0 w1 ⟨rfl, rfl⟩
  clear HH
  go_wp2_with fail
  refine HT.out.mono ?_
  rintro e1 w2 ⟨rfl, H2⟩
  have q0 : (w2.alloc (.cells #[.int .i64 x.c, .int .i64 x.g, .int .i64 x.w, .int .i64 x.v] 97)).cell? ⟨w2.heap.size, 0, none⟩ = some (.int .i64 x.c) := by simp
  have q1 : (w2.alloc (.cells #[.int .i64 x.c, .int .i64 x.g, .int .i64 x.w, .int .i64 x.v] 97)).cell? ⟨w2.heap.size, 1, none⟩ = some (.int .i64 x.g) := by simp
  have q2 : (w2.alloc (.cells #[.int .i64 x.c, .int .i64 x.g, .int .i64 x.w, .int .i64 x.v] 97)).cell? ⟨w2.heap.size, 2, none⟩ = some (.int .i64 x.w) := by simp
  have q3 : (w2.alloc (.cells #[.int .i64 x.c, .int .i64 x.g, .int .i64 x.w, .int .i64 x.v] 97)).cell? ⟨w2.heap.size, 3, none⟩ = some (.int .i64 x.v) := by simp
  have H3 : MmStep b w1 (s.setWaits t l) (w2.alloc (.cells #[.int .i64 x.c, .int .i64 x.g, .int .i64 x.w, .int .i64 x.v] 97)) := H2.below ((Below.refl _ _).alloc (Nat.le_refl _) _)
  go_wp2_with fail
  generalize w2.alloc (.cells #[.int .i64 x.c, .int .i64 x.g, .int .i64 x.w, .int .i64 x.v] 97) = w3 at *
  have HA : Hid (∀ n, Calls Tryz.prog 93 #[.pointer (some ⟨b, 0, none⟩), .agg #[.int .i64 x.c, .int .i64 x.g], .int .i64 x.w, .int .i64 x.v] (w3.drewN n) fun e w'' => e = .returned r ∧ MmStep b w1 (s.drained t x l) w'') := fun n => HS.out _ (H3.below (Below.drewN' n))
  clear HS HT H2 H3
  go_region_with (go_at_call 93; refine (HA.out 1).mono ?_; rintro e4 w4 ⟨rfl, H4⟩)
  all_goals
    go_wp2
    go_ret
    exact ⟨rfl, H4⟩
end Go.Proofs.YtdpmnlbnlnmjbaaGreatDoor
