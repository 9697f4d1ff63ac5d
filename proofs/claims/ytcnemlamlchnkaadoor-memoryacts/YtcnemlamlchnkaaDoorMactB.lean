/- memoryAct: the kinds load, store, drain. -/
import Derived.Test.YtcnemlamlchnkaaDoorMactA
namespace Go.Proofs.YtcnemlamlchnkaaDoor
open Go.RowKit Go.Extern.Stop Go.Stop Go.Extern Go.Sort

theorem loads_both (a : Nat → Addr) (B : World) (b : Nat) (p : RmPl) (s : Rm) (i : Nat) (c g k : Int) (hi : i < s.threads) (h8 : (s.waits i).length ≤ 8) (h64 : s.ar.size ≤ 64) : ∃ (V : Int) (E : Nat), E ≤ 9 ∧
    (∀ w', Two a B b p s s w' → Calls Tryd.prog 37 #[.pointer (some ⟨b, 0, none⟩), .int .i64 i, .agg #[.int .i64 c, .int .i64 g], .int .i64 k] w' fun r w'' => r = .returned (.tuple #[.int .i64 V, errVal a E]) ∧ Below w'.heap.size w' w'') ∧
    (∀ w', Two a B b p s s w' → Calls Tryd.prog 27 #[.pointer (some ⟨p.mb, 0, none⟩), .int .i64 i, .agg #[.int .i64 c, .int .i64 g], .int .i64 k] w' fun r w'' => r = .returned (.tuple #[.int .i64 V, .int .i64 E]) ∧ Below w'.heap.size w' w'') := by
  by_cases hat : s.ar.at c g k = 0
  · obtain ⟨n, m, rfl, rfl, hn, hm, hh⟩ := Ar.at_zero hat
    exact ⟨_, 0, by decide, fun w' h => mload_ok a b s i n m g w' h.e.env h.m hi (by omega) hh hm, fun w' h => rload_ok p s i n m g w' h.o hi hat hn hm (by omega)⟩
  · have hm : s.may i c g k [] = s.ar.at c g k := by rw [Rm.may_yes hi, Ar.chk_nil]
    refine ⟨0, s.ar.at c g k, Nat.le_trans (Ar.at_le _ _ _ _) (by decide), fun w' h => ?_, fun w' h => rload_bad p s i c g k w' h.o (by omega)⟩
    have := mload_err a b s i c g k w' h.e.env h.m (by rw [hm]; exact hat)
    rwa [hm] at this

set_option maxRecDepth 20000 in
set_option maxHeartbeats 4000000 in
/-- A load by a thread. -/
theorem act_load_yes (a : Nat → Addr) (B : World) (b : Nat) (p : RmPl) (s : Rm) (i : Nat) (c g k v old : Int) (w : World) (H : Two a B b p s s w) (ho : s.Ok) (hi : i < s.threads) :
    Calls Tryd.prog 39 #[.pointer (some ⟨b, 0, none⟩), .pointer (some ⟨p.mb, 0, none⟩), .agg #[.string ⟨#[108, 111, 97, 100]⟩, .int .i64 i, .int .i64 c, .int .i64 g, .int .i64 k, .int .i64 v, .int .i64 old]] w fun e w' => e = .returned (.bool true) ∧ ActPost a B b p.mb s w' := by
  have H1 : Hid (Two a B b p s s (actW w ⟨#[108, 111, 97, 100]⟩ i c g k v old)) := H.alloc _
  have X := actX w ⟨#[108, 111, 97, 100]⟩ i c g k v old
  have hlw := H.m.lt
  have HNF : Hid (∀ j, p.fp s j → j ≠ w.heap.size) := fun j hj => Nat.ne_of_lt (H.o.fp_lt hj)
  have h64 := H.m.ar.small
  obtain ⟨V, E, hE9, hl, hr⟩ := loads_both a B b p s i c g k hi (H.m.line i hi).le h64
  have HL := hide hl
  have HR := hide hr
  have HP : Hid (∀ w', Two a B b p s s w' → ActPost a B b p.mb s w') := fun w' h => ActPost.same h ho
  have HT : Hid (decide (0 ≤ (i : Int) ∧ (i : Int) < s.threads) = true) := decide_eq_true (by omega)
  clear H ho hl hr h64 HNF
  generalize hw : actW w ⟨#[108, 111, 97, 100]⟩ i c g k v old = w1 at *
  obtain ⟨x0, x1, x2, x3, x4, x5, x6⟩ := X
  go_enter Tryd.func39, Tryd.ntmps39
  go_wp2_with fail
  refine (H1.out.thread i true HT.out).mono ?_
  rintro e0 w2 ⟨rfl, rfl⟩
  clear HT hw
  go_wp2_with fail
  refine (HL.out _ H1.out).mono ?_
  rintro e1 w3 ⟨rfl, hb3⟩
  have H3 : Hid _ := hide (H1.out.below hb3)
  replace x0 := keep_cell hb3 x0
  replace x1 := keep_cell hb3 x1
  replace x2 := keep_cell hb3 x2
  replace x3 := keep_cell hb3 x3
  replace x4 := keep_cell hb3 x4
  replace x5 := keep_cell hb3 x5
  replace x6 := keep_cell hb3 x6
  clear HL H1 hb3
  go_wp2_with fail
  refine (HR.out _ H3.out).mono ?_
  rintro e2 w4 ⟨rfl, hb4⟩
  have H4 : Hid _ := hide (H3.out.below hb4)
  clear HR H3 hb4 x0 x1 x2 x3 x4 x5 x6
  go_wp2_with fail
  refine (H4.out.coded E hE9).mono ?_
  rintro e5 w5 ⟨rfl, hb5⟩
  have H5 : Hid _ := hide (H4.out.below hb5)
  clear H4 hb5
  go_wp2
  go_ret
  exact ⟨rfl, HP.out _ H5.out⟩

set_option maxRecDepth 20000 in
set_option maxHeartbeats 4000000 in
/-- A store by what is no thread. -/
theorem act_store_bad (a : Nat → Addr) (B : World) (b : Nat) (p : RmPl) (s : Rm) (t c g k v old : Int) (w : World) (H : Two a B b p s s w) (ho : s.Ok) (ht : ¬ (0 ≤ t ∧ t < s.threads)) :
    Calls Tryd.prog 39 #[.pointer (some ⟨b, 0, none⟩), .pointer (some ⟨p.mb, 0, none⟩), .agg #[.string ⟨#[115, 116, 111, 114, 101]⟩, .int .i64 t, .int .i64 c, .int .i64 g, .int .i64 k, .int .i64 v, .int .i64 old]] w fun e w' => e = .returned (.bool true) ∧ ActPost a B b p.mb s w' := by
  have H1 : Hid (Two a B b p s s (actW w ⟨#[115, 116, 111, 114, 101]⟩ t c g k v old)) := H.alloc _
  have X := actX w ⟨#[115, 116, 111, 114, 101]⟩ t c g k v old
  have hlw := H.m.lt
  have HNF : Hid (∀ j, p.fp s j → j ≠ w.heap.size) := fun j hj => Nat.ne_of_lt (H.o.fp_lt hj)
  have HL : Hid (∀ w', Two a B b p s s w' → Calls Tryd.prog 34 #[.pointer (some ⟨b, 0, none⟩), .int .i64 t, .agg #[.int .i64 c, .int .i64 g], .int .i64 k, .int .i64 v] w' fun e w'' => e = .returned (errVal a 2) ∧ Below w'.heap.size w' w'') := fun w' h => by
    have := mstore_err a b s t c g k v w' h.e.env h.m (by rw [Rm.may_no ht]; decide)
    rwa [Rm.may_no ht] at this
  have HP : Hid (∀ w', Two a B b p s s w' → ActPost a B b p.mb s w') := fun w' h => ActPost.same h ho
  have HT : Hid (decide (0 ≤ (t : Int) ∧ (t : Int) < s.threads) = false) := decide_eq_false ht
  clear H ho ht HNF
  generalize hw : actW w ⟨#[115, 116, 111, 114, 101]⟩ t c g k v old = w1 at *
  obtain ⟨x0, x1, x2, x3, x4, x5, x6⟩ := X
  go_enter Tryd.func39, Tryd.ntmps39
  go_wp2_with fail
  refine (H1.out.thread t false HT.out).mono ?_
  rintro e0 w2 ⟨rfl, rfl⟩
  clear HT hw
  go_wp2_with fail
  refine (HL.out _ H1.out).mono ?_
  rintro e1 w3 ⟨rfl, hb3⟩
  have H3 : Hid _ := hide (H1.out.below hb3)
  clear HL H1 hb3 x0 x1 x2 x3 x4 x5 x6
  go_wp2_with fail
  refine (H3.out.coded 2 (by decide)).mono ?_
  rintro e4 w4 ⟨rfl, hb4⟩
  have H4 : Hid _ := hide (H3.out.below hb4)
  clear H3 hb4
  go_wp2
  go_ret
  exact ⟨rfl, HP.out _ H4.out⟩

theorem may_storeErr (s : Rm) (i : Nat) (c g k v : Int) (hi : i < s.threads) : s.storeErr i c g k v = if s.may i c g k [v] = 0 then (if 8 ≤ (s.waits i).length then 6 else 0) else s.may i c g k [v] := by
  rw [Rm.may_yes hi]
  unfold Rm.storeErr Ar.chk
  by_cases hat : s.ar.at c g k = 0
  · rw [if_pos hat, if_pos hat]
    by_cases hv : 0 ≤ v ∧ v < 4294967296
    · have : [v].all isW = true := by simp [isW]; exact hv
      rw [if_pos hv, if_pos this, if_pos rfl]
    · have : ¬ [v].all isW = true := by simp [isW]; intro h0; exact Int.not_lt.1 fun h1 => hv ⟨h0, h1⟩
      rw [if_neg hv, if_neg this, if_neg (by decide)]
  · rw [if_neg hat, if_neg hat, if_neg hat]

set_option maxRecDepth 20000 in
set_option maxHeartbeats 4000000 in
/-- A store that may not be, or finds no room. -/
theorem act_store_no (a : Nat → Addr) (B : World) (b : Nat) (p : RmPl) (s : Rm) (i : Nat) (c g k v old : Int) (w : World) (H : Two a B b p s s w) (ho : s.Ok) (hi : i < s.threads) (he : s.storeErr i c g k v ≠ 0) :
    Calls Tryd.prog 39 #[.pointer (some ⟨b, 0, none⟩), .pointer (some ⟨p.mb, 0, none⟩), .agg #[.string ⟨#[115, 116, 111, 114, 101]⟩, .int .i64 i, .int .i64 c, .int .i64 g, .int .i64 k, .int .i64 v, .int .i64 old]] w fun e w' => e = .returned (.bool true) ∧ ActPost a B b p.mb s w' := by
  have H1 : Hid (Two a B b p s s (actW w ⟨#[115, 116, 111, 114, 101]⟩ i c g k v old)) := H.alloc _
  have X := actX w ⟨#[115, 116, 111, 114, 101]⟩ i c g k v old
  have hlw := H.m.lt
  have HNF : Hid (∀ j, p.fp s j → j ≠ w.heap.size) := fun j hj => Nat.ne_of_lt (H.o.fp_lt hj)
  have hE9 : s.storeErr i c g k v ≤ 9 := by
    have := Ar.at_le s.ar c g k
    unfold Rm.storeErr; split
    · split
      · split <;> omega
      · omega
    · omega
  have HL : Hid (∀ w', Two a B b p s s w' → Calls Tryd.prog 34 #[.pointer (some ⟨b, 0, none⟩), .int .i64 i, .agg #[.int .i64 c, .int .i64 g], .int .i64 k, .int .i64 v] w' fun e w'' => e = .returned (errVal a (s.storeErr i c g k v)) ∧ Below w'.heap.size w' w'') := fun w' h => by
    rw [may_storeErr s i c g k v hi] at he ⊢
    by_cases hm : s.may i c g k [v] = 0
    · rw [if_pos hm] at he ⊢
      by_cases h8 : 8 ≤ (s.waits i).length
      · rw [if_pos h8]
        exact mstore_full a b s i c g k v w' h.e.env h.m hi hm h8
      · rw [if_neg h8] at he; exact absurd rfl he
    · rw [if_neg hm]
      exact mstore_err a b s i c g k v w' h.e.env h.m hm
  have HR : Hid (∀ w', Two a B b p s s w' → Calls Tryd.prog 57 #[.pointer (some ⟨p.mb, 0, none⟩), .int .i64 i, .agg #[.int .i64 c, .int .i64 g], .int .i64 k, .int .i64 v] w' fun e w'' => e = .returned (.int .i64 (s.storeErr i c g k v)) ∧ Below w'.heap.size w' w'') := fun w' h => rstore_no p s i c g k v w' h.o hi he
  generalize s.storeErr i c g k v = E at *
  have HP : Hid (∀ w', Two a B b p s s w' → ActPost a B b p.mb s w') := fun w' h => ActPost.same h ho
  have HT : Hid (decide (0 ≤ (i : Int) ∧ (i : Int) < s.threads) = true) := decide_eq_true (by omega)
  clear H ho he HNF
  generalize hw : actW w ⟨#[115, 116, 111, 114, 101]⟩ i c g k v old = w1 at *
  obtain ⟨x0, x1, x2, x3, x4, x5, x6⟩ := X
  go_enter Tryd.func39, Tryd.ntmps39
  go_wp2_with fail
  refine (H1.out.thread i true HT.out).mono ?_
  rintro e0 w2 ⟨rfl, rfl⟩
  clear HT hw
  go_wp2_with fail
  refine (HL.out _ H1.out).mono ?_
  rintro e1 w3 ⟨rfl, hb3⟩
  have H3 : Hid _ := hide (H1.out.below hb3)
  replace x0 := keep_cell hb3 x0
  replace x1 := keep_cell hb3 x1
  replace x2 := keep_cell hb3 x2
  replace x3 := keep_cell hb3 x3
  replace x4 := keep_cell hb3 x4
  replace x5 := keep_cell hb3 x5
  replace x6 := keep_cell hb3 x6
  clear HL H1 hb3
  go_wp2_with fail
  refine (HR.out _ H3.out).mono ?_
  rintro e2 w4 ⟨rfl, hb4⟩
  have H4 : Hid _ := hide (H3.out.below hb4)
  clear HR H3 hb4 x0 x1 x2 x3 x4 x5 x6
  go_wp2_with fail
  refine (H4.out.coded E hE9).mono ?_
  rintro e5 w5 ⟨rfl, hb5⟩
  have H5 : Hid _ := hide (H4.out.below hb5)
  clear H4 hb5
  go_wp2
  go_ret
  exact ⟨rfl, HP.out _ H5.out⟩

theorem Ok.setWaits {s : Rm} (h : s.Ok) (i : Nat) (l : List Wt) (hl : ∀ x ∈ l, x.Ok) : (s.setWaits i l).Ok := by
  intro u hu x hx
  simp only [Rm.setWaits] at hx hu
  split at hx
  · exact hl x hx
  · exact h u hu x hx

theorem storeErr_zero {s : Rm} {i : Nat} {c g k v : Int} (h : s.storeErr i c g k v = 0) : s.ar.at c g k = 0 ∧ (0 ≤ v ∧ v < 4294967296) ∧ (s.waits i).length < 8 := by
  unfold Rm.storeErr at h
  split at h
  · rename_i h1
    split at h
    · rename_i h2
      split at h
      · cases h
      · exact ⟨h1, h2, by omega⟩
    · cases h
  · rename_i h1; exact absurd h h1

set_option maxRecDepth 20000 in
set_option maxHeartbeats 4000000 in
/-- A store: it waits. -/
theorem act_store_ok (a : Nat → Addr) (B : World) (b : Nat) (p : RmPl) (s : Rm) (i : Nat) (c g k v old : Int) (w : World) (H : Two a B b p s s w) (ho : s.Ok) (hi : i < s.threads) (he : s.storeErr i c g k v = 0) :
    Calls Tryd.prog 39 #[.pointer (some ⟨b, 0, none⟩), .pointer (some ⟨p.mb, 0, none⟩), .agg #[.string ⟨#[115, 116, 111, 114, 101]⟩, .int .i64 i, .int .i64 c, .int .i64 g, .int .i64 k, .int .i64 v, .int .i64 old]] w fun e w' => e = .returned (.bool true) ∧ ActPost a B b p.mb s w' := by
  have H1 : Hid (Two a B b p s s (actW w ⟨#[115, 116, 111, 114, 101]⟩ i c g k v old)) := H.alloc _
  have X := actX w ⟨#[115, 116, 111, 114, 101]⟩ i c g k v old
  have hlw := H.m.lt
  have HNF : Hid (∀ j, p.fp s j → j ≠ w.heap.size) := fun j hj => Nat.ne_of_lt (H.o.fp_lt hj)
  obtain ⟨hat, hv, h8⟩ := storeErr_zero he
  have hm : s.may i c g k [v] = 0 := by
    have := may_storeErr s i c g k v hi
    rw [he] at this
    by_cases h : s.may i c g k [v] = 0
    · exact h
    · rw [if_neg h] at this; exact this.symm
  have HL : Hid (∀ w', Two a B b p s s w' → Calls Tryd.prog 34 #[.pointer (some ⟨b, 0, none⟩), .int .i64 i, .agg #[.int .i64 c, .int .i64 g], .int .i64 k, .int .i64 v] w' fun e w'' => e = .returned (errVal a 0) ∧ MmStep b w' (s.setWaits i (s.waits i ++ [⟨c, g, k, v⟩])) w'') := fun w' h => mstore_ok a b s i c g k v w' h.e.env h.m hi hm h8
  have HR : Hid (∀ sm w', Two a B b p sm s w' → Calls Tryd.prog 57 #[.pointer (some ⟨p.mb, 0, none⟩), .int .i64 i, .agg #[.int .i64 c, .int .i64 g], .int .i64 k, .int .i64 v] w' fun e w'' => e = .returned (.int .i64 0) ∧ ∃ p', RmStep p s w' p' (s.setWaits i (s.waits i ++ [⟨c, g, k, v⟩])) w'') := fun _ w' h => rstore_ok p s i c g k v w' h.o hi he
  have HP : Hid (∀ p' w', p'.mb = p.mb → Two a B b p' (s.setWaits i (s.waits i ++ [⟨c, g, k, v⟩])) (s.setWaits i (s.waits i ++ [⟨c, g, k, v⟩])) w' → ActPost a B b p.mb s w') := fun p' w' hmb h => by
    refine ⟨p', s.setWaits i (s.waits i ++ [⟨c, g, k, v⟩]), hmb, rfl, rfl, fun _ => Nat.le_succ _, Ok.setWaits ho i _ (fun x hx => ?_), h⟩
    rcases List.mem_append.1 hx with e | e
    · exact ho i hi x e
    · obtain ⟨n, m, -, rfl, -, h4, -⟩ := Ar.at_zero hat
      obtain rfl := List.mem_singleton.1 e
      exact ⟨⟨by show (0 : Int) ≤ m; omega, by show (m : Int) < 4; omega⟩, hv⟩
  generalize s.setWaits i (s.waits i ++ [⟨c, g, k, v⟩]) = s' at *
  have HT : Hid (decide (0 ≤ (i : Int) ∧ (i : Int) < s.threads) = true) := decide_eq_true (by omega)
  clear H ho he hat hv h8 hm
  generalize hw : actW w ⟨#[115, 116, 111, 114, 101]⟩ i c g k v old = w1 at *
  obtain ⟨x0, x1, x2, x3, x4, x5, x6⟩ := X
  go_enter Tryd.func39, Tryd.ntmps39
  go_wp2_with fail
  refine (H1.out.thread i true HT.out).mono ?_
  rintro e0 w2 ⟨rfl, rfl⟩
  clear HT hw
  go_wp2_with fail
  refine (HL.out _ H1.out).mono ?_
  rintro e1 w3 ⟨rfl, hb3⟩
  have H3 : Hid _ := hide (H1.out.mstep hb3)
  replace hb3 := hb3.turns
  replace x0 := hb3.keep x0 (by omega)
  replace x1 := hb3.keep x1 (by omega)
  replace x2 := hb3.keep x2 (by omega)
  replace x3 := hb3.keep x3 (by omega)
  replace x4 := hb3.keep x4 (by omega)
  replace x5 := hb3.keep x5 (by omega)
  replace x6 := hb3.keep x6 (by omega)
  clear HL H1 hb3
  go_wp2_with fail
  refine (HR.out _ _ H3.out).mono ?_
  rintro e2 w4 ⟨rfl, p', hb4⟩
  have H4 : Hid _ := hide (H3.out.ostep hb4)
  have HM := hide hb4.mb
  clear HR H3 hb4 HNF x0 x1 x2 x3 x4 x5 x6
  go_wp2_with fail
  refine (H4.out.coded 0 (by decide)).mono ?_
  rintro e5 w5 ⟨rfl, hb5⟩
  have H5 : Hid _ := hide (H4.out.below hb5)
  clear H4 hb5
  go_wp2
  go_ret
  exact ⟨rfl, HP.out _ _ HM.out H5.out⟩

set_option maxRecDepth 20000 in
set_option maxHeartbeats 4000000 in
/-- A drain by what is no thread. -/
theorem act_drain_bad (a : Nat → Addr) (B : World) (b : Nat) (p : RmPl) (s : Rm) (t c g k v old : Int) (w : World) (H : Two a B b p s s w) (ho : s.Ok) (ht : ¬ (0 ≤ t ∧ t < s.threads)) :
    Calls Tryd.prog 39 #[.pointer (some ⟨b, 0, none⟩), .pointer (some ⟨p.mb, 0, none⟩), .agg #[.string ⟨#[100, 114, 97, 105, 110]⟩, .int .i64 t, .int .i64 c, .int .i64 g, .int .i64 k, .int .i64 v, .int .i64 old]] w fun e w' => e = .returned (.bool true) ∧ ActPost a B b p.mb s w' := by
  have H1 : Hid (Two a B b p s s (actW w ⟨#[100, 114, 97, 105, 110]⟩ t c g k v old)) := H.alloc _
  have X := actX w ⟨#[100, 114, 97, 105, 110]⟩ t c g k v old
  have hlw := H.m.lt
  have HNF : Hid (∀ j, p.fp s j → j ≠ w.heap.size) := fun j hj => Nat.ne_of_lt (H.o.fp_lt hj)
  have HL : Hid (∀ w', Two a B b p s s w' → Calls Tryd.prog 36 #[.pointer (some ⟨b, 0, none⟩), .int .i64 t] w' fun e w'' => e = .returned (errVal a 2) ∧ w'' = w') := fun w' h => mdrain_no a b s t w' h.e.env h.m ht
  have HP : Hid (∀ w', Two a B b p s s w' → ActPost a B b p.mb s w') := fun w' h => ActPost.same h ho
  have HT : Hid (decide (0 ≤ (t : Int) ∧ (t : Int) < s.threads) = false) := decide_eq_false ht
  clear H ho ht HNF
  generalize hw : actW w ⟨#[100, 114, 97, 105, 110]⟩ t c g k v old = w1 at *
  obtain ⟨x0, x1, x2, x3, x4, x5, x6⟩ := X
  go_enter Tryd.func39, Tryd.ntmps39
  go_wp2_with fail
  refine (H1.out.thread t false HT.out).mono ?_
  rintro e0 w2 ⟨rfl, rfl⟩
  clear HT hw
  go_wp2_with fail
  refine (HL.out _ H1.out).mono ?_
  rintro e1 w3 ⟨rfl, rfl⟩
  have H3 : Hid _ := H1
  clear HL H1 x0 x1 x2 x3 x4 x5 x6
  go_wp2_with fail
  refine (H3.out.coded 2 (by decide)).mono ?_
  rintro e4 w4 ⟨rfl, hb4⟩
  have H4 : Hid _ := hide (H3.out.below hb4)
  clear H3 hb4
  go_wp2
  go_ret
  exact ⟨rfl, HP.out _ H4.out⟩

set_option maxRecDepth 20000 in
set_option maxHeartbeats 4000000 in
/-- A drain where nothing waits. -/
theorem act_drain_none (a : Nat → Addr) (B : World) (b : Nat) (p : RmPl) (s : Rm) (i : Nat) (c g k v old : Int) (w : World) (H : Two a B b p s s w) (ho : s.Ok) (hi : i < s.threads) (he : s.waits i = []) :
    Calls Tryd.prog 39 #[.pointer (some ⟨b, 0, none⟩), .pointer (some ⟨p.mb, 0, none⟩), .agg #[.string ⟨#[100, 114, 97, 105, 110]⟩, .int .i64 i, .int .i64 c, .int .i64 g, .int .i64 k, .int .i64 v, .int .i64 old]] w fun e w' => e = .returned (.bool true) ∧ ActPost a B b p.mb s w' := by
  have H1 : Hid (Two a B b p s s (actW w ⟨#[100, 114, 97, 105, 110]⟩ i c g k v old)) := H.alloc _
  have X := actX w ⟨#[100, 114, 97, 105, 110]⟩ i c g k v old
  have hlw := H.m.lt
  have HNF : Hid (∀ j, p.fp s j → j ≠ w.heap.size) := fun j hj => Nat.ne_of_lt (H.o.fp_lt hj)
  have HL : Hid (∀ w', Two a B b p s s w' → Calls Tryd.prog 36 #[.pointer (some ⟨b, 0, none⟩), .int .i64 i] w' fun e w'' => e = .returned (errVal a 5) ∧ w'' = w') := fun w' h => mdrain_none a b s i w' h.e.env h.m hi he
  have HR : Hid (∀ w', Two a B b p s s w' → Calls Tryd.prog 58 #[.pointer (some ⟨p.mb, 0, none⟩), .int .i64 i] w' fun e w'' => e = .returned (.int .i64 5) ∧ Below w'.heap.size w' w'') := fun w' h => rdrain_none p s i w' h.o hi he
  have HP : Hid (∀ w', Two a B b p s s w' → ActPost a B b p.mb s w') := fun w' h => ActPost.same h ho
  have HT : Hid (decide (0 ≤ (i : Int) ∧ (i : Int) < s.threads) = true) := decide_eq_true (by omega)
  clear H ho he HNF
  generalize hw : actW w ⟨#[100, 114, 97, 105, 110]⟩ i c g k v old = w1 at *
  obtain ⟨x0, x1, x2, x3, x4, x5, x6⟩ := X
  go_enter Tryd.func39, Tryd.ntmps39
  go_wp2_with fail
  refine (H1.out.thread i true HT.out).mono ?_
  rintro e0 w2 ⟨rfl, rfl⟩
  clear HT hw
  go_wp2_with fail
  refine (HL.out _ H1.out).mono ?_
  rintro e1 w3 ⟨rfl, rfl⟩
  have H3 : Hid _ := H1
  clear HL H1
  go_wp2_with fail
  refine (HR.out _ H3.out).mono ?_
  rintro e2 w4 ⟨rfl, hb4⟩
  have H4 : Hid _ := hide (H3.out.below hb4)
  clear HR H3 hb4 x0 x1 x2 x3 x4 x5 x6
  go_wp2_with fail
  refine (H4.out.coded 5 (by decide)).mono ?_
  rintro e5 w5 ⟨rfl, hb5⟩
  have H5 : Hid _ := hide (H4.out.below hb5)
  clear H4 hb5
  go_wp2
  go_ret
  exact ⟨rfl, HP.out _ H5.out⟩

theorem Ok.drained {s : Rm} (h : s.Ok) (i : Nat) (x : Wt) (l : List Wt) (hi : i < s.threads) (he : s.waits i = x :: l) : (s.drained i x l).Ok := by
  intro u hu y hy
  rw [Rm.drained_threads] at hu
  by_cases e : u = i
  · subst e
    rw [Rm.drained_waits] at hy
    exact h u hi y (by rw [he]; exact List.mem_cons_of_mem _ hy)
  · rw [Rm.drained_waits_ne _ _ _ _ _ e] at hy
    exact h u hu y hy

set_option maxRecDepth 20000 in
set_option maxHeartbeats 4000000 in
/-- A drain. -/
theorem act_drain_some (a : Nat → Addr) (B : World) (b : Nat) (p : RmPl) (s : Rm) (i : Nat) (c g k v old : Int) (w : World) (H : Two a B b p s s w) (ho : s.Ok) (hi : i < s.threads) (x : Wt) (l : List Wt) (he : s.waits i = x :: l) :
    Calls Tryd.prog 39 #[.pointer (some ⟨b, 0, none⟩), .pointer (some ⟨p.mb, 0, none⟩), .agg #[.string ⟨#[100, 114, 97, 105, 110]⟩, .int .i64 i, .int .i64 c, .int .i64 g, .int .i64 k, .int .i64 v, .int .i64 old]] w fun e w' => e = .returned (.bool true) ∧ ActPost a B b p.mb s w' := by
  have H1 : Hid (Two a B b p s s (actW w ⟨#[100, 114, 97, 105, 110]⟩ i c g k v old)) := H.alloc _
  have X := actX w ⟨#[100, 114, 97, 105, 110]⟩ i c g k v old
  have hlw := H.m.lt
  have HNF : Hid (∀ j, p.fp s j → j ≠ w.heap.size) := fun j hj => Nat.ne_of_lt (H.o.fp_lt hj)
  have hx := ho i hi x (by rw [he]; exact List.mem_cons_self ..)
  have hl8 : l.length ≤ 1000 := by have := (H.m.line i hi).le; rw [he, List.length_cons] at this; omega
  have hE9 : (if s.ar.has x.c x.g = true then 0 else 7) ≤ 9 := by split <;> omega
  have HL : Hid (∀ w', Two a B b p s s w' → Calls Tryd.prog 36 #[.pointer (some ⟨b, 0, none⟩), .int .i64 i] w' fun e w'' => e = .returned (errVal a (if s.ar.has x.c x.g = true then 0 else 7)) ∧ MmStep b w' (s.drained i x l) w'') := fun w' h => mdrain_some a _ b s i x l w' h.e h.hB h.m hi he hx
  have HR : Hid (∀ sm w', Two a B b p sm s w' → Calls Tryd.prog 58 #[.pointer (some ⟨p.mb, 0, none⟩), .int .i64 i] w' fun e w'' => e = .returned (.int .i64 ((if s.ar.has x.c x.g = true then 0 else 7 : Nat) : Int)) ∧ ∃ p', RmStep p s w' p' (s.drained i x l) w'') := fun _ w' h => by
    cases hh : s.ar.has x.c x.g
    · exact rdrain_gone p s i x l w' h.o hi he hx.1 hl8 hh
    · exact rdrain_done p s i x l w' h.o hi he hx.1 hl8 hh
  have HP : Hid (∀ p' w', p'.mb = p.mb → Two a B b p' (s.drained i x l) (s.drained i x l) w' → ActPost a B b p.mb s w') := fun p' w' hmb h => by
    obtain ⟨k1, k2, k3⟩ := s.drained_ar i x l
    exact ⟨p', _, hmb, Rm.drained_threads _ _ _ _, k1, fun c => by rw [k3]; exact Nat.le_succ _, Ok.drained ho i x l hi he, h⟩
  generalize s.drained i x l = s' at *
  generalize (if s.ar.has x.c x.g = true then 0 else 7 : Nat) = E at *
  have HT : Hid (decide (0 ≤ (i : Int) ∧ (i : Int) < s.threads) = true) := decide_eq_true (by omega)
  clear H ho he hx hl8
  generalize hw : actW w ⟨#[100, 114, 97, 105, 110]⟩ i c g k v old = w1 at *
  obtain ⟨x0, x1, x2, x3, x4, x5, x6⟩ := X
  go_enter Tryd.func39, Tryd.ntmps39
  go_wp2_with fail
  refine (H1.out.thread i true HT.out).mono ?_
  rintro e0 w2 ⟨rfl, rfl⟩
  clear HT hw
  go_wp2_with fail
  refine (HL.out _ H1.out).mono ?_
  rintro e1 w3 ⟨rfl, hb3⟩
  have H3 : Hid _ := hide (H1.out.mstep hb3)
  replace hb3 := hb3.turns
  replace x0 := hb3.keep x0 (by omega)
  replace x1 := hb3.keep x1 (by omega)
  replace x2 := hb3.keep x2 (by omega)
  replace x3 := hb3.keep x3 (by omega)
  replace x4 := hb3.keep x4 (by omega)
  replace x5 := hb3.keep x5 (by omega)
  replace x6 := hb3.keep x6 (by omega)
  clear HL H1 hb3
  go_wp2_with fail
  refine (HR.out _ _ H3.out).mono ?_
  rintro e2 w4 ⟨rfl, p', hb4⟩
  have H4 : Hid _ := hide (H3.out.ostep hb4)
  have HM := hide hb4.mb
  clear HR H3 hb4 HNF x0 x1 x2 x3 x4 x5 x6
  go_wp2_with fail
  refine (H4.out.coded E hE9).mono ?_
  rintro e5 w5 ⟨rfl, hb5⟩
  have H5 : Hid _ := hide (H4.out.below hb5)
  clear H4 hb5
  go_wp2
  go_ret
  exact ⟨rfl, HP.out _ _ HM.out H5.out⟩

end Go.Proofs.YtcnemlamlchnkaaDoor
