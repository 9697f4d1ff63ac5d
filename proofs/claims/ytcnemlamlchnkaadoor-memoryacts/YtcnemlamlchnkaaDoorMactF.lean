/- memoryAct: cas. -/
import Derived.Test.YtcnemlamlchnkaaDoorMactE
namespace Go.Proofs.YtcnemlamlchnkaaDoor
open Go.RowKit Go.Extern.Stop Go.Stop Go.Extern Go.Sort

set_option maxRecDepth 20000 in
set_option maxHeartbeats 4000000 in
/-- A cas by what is no thread. -/
theorem act_cas_bad (a : Nat → Addr) (B : World) (b : Nat) (p : RmPl) (s : Rm) (t c g k v old : Int) (kd : ByteArray) (w : World) (H : Two a B b p s s w) (ho : s.Ok) (k0 : (kd.toList == [102, 111, 114, 99, 101]) = false) (k1 : (kd.toList == [112, 101, 101, 107]) = false) (k2 : (kd.toList == [108, 111, 97, 100]) = false) (k3 : (kd.toList == [115, 116, 111, 114, 101]) = false) (k4 : (kd.toList == [100, 114, 97, 105, 110]) = false) (k5 : (kd.toList == [102, 101, 110, 99, 101]) = false) (k6 : (kd.toList == [97, 108, 108, 111, 99]) = false) (k7 : (kd.toList == [102, 114, 101, 101]) = false) (k8 : (kd.toList == [115, 119, 97, 112]) = false) (ht : ¬ (0 ≤ t ∧ t < s.threads)) :
    Calls Tryd.prog 39 #[.pointer (some ⟨b, 0, none⟩), .pointer (some ⟨p.mb, 0, none⟩), .agg #[.string kd, .int .i64 t, .int .i64 c, .int .i64 g, .int .i64 k, .int .i64 v, .int .i64 old]] w fun e w' => e = .returned (.bool true) ∧ ActPost a B b p.mb s w' := by
  have H1 : Hid (Two a B b p s s (actW w kd t c g k v old)) := H.alloc _
  have X := actX w kd t c g k v old
  have hlw := H.m.lt
  have HNF : Hid (∀ j, p.fp s j → j ≠ w.heap.size) := fun j hj => Nat.ne_of_lt (H.o.fp_lt hj)
  have HL : Hid (∀ w', Two a B b p s s w' → Calls Tryd.prog 61 #[.pointer (some ⟨b, 0, none⟩), .int .i64 t, .agg #[.int .i64 c, .int .i64 g], .int .i64 k, .int .i64 old, .int .i64 v] w' fun e w'' => e = .returned (.tuple #[.int .i64 0, errVal a 2]) ∧ Below w'.heap.size w' w'') := fun w' h => by
    have := mcas_err a b s t c g k old v w' h.e.env h.m (by rw [Rm.may_no ht]; decide)
    rwa [Rm.may_no ht] at this
  have HP : Hid (∀ w', Two a B b p s s w' → ActPost a B b p.mb s w') := fun w' h => ActPost.same h ho
  have HT : Hid (decide (0 ≤ (t : Int) ∧ (t : Int) < s.threads) = false) := decide_eq_false ht
  clear H ho ht HNF
  generalize hw : actW w kd t c g k v old = w1 at *
  obtain ⟨x0, x1, x2, x3, x4, x5, x6⟩ := X
  go_enter Tryd.func39, Tryd.ntmps39
  go_wp2_with fail
  refine (H1.out.thread t false HT.out).mono ?_
  rintro e0 w2 ⟨rfl, rfl⟩
  clear HT hw
  go_wp2_with fail
  refine (HL.out _ H1.out).mono ?_
  rintro e1 w3 ⟨rfl, hb3⟩
  have H3 : Hid _ := hide (H1.out.below hb3)
  clear HL H1 hb3 x0 x1 x2 x3 x4 x5 x6
  go_wp2_with fail
  refine (H3.out.coded 2 (by decide)).mono ?_
  rintro e4 w4 ⟨rfl, hb4⟩
  have H4 : Hid _ := hide (H3.out.below hb4)
  clear H3 hb4
  go_wp2
  go_ret
  exact ⟨rfl, HP.out _ H4.out⟩

set_option maxRecDepth 20000 in
set_option maxHeartbeats 4000000 in
/-- A cas where no word is. -/
theorem act_cas_err (a : Nat → Addr) (B : World) (b : Nat) (p : RmPl) (s : Rm) (i : Nat) (c g k v old : Int) (kd : ByteArray) (w : World) (H : Two a B b p s s w) (ho : s.Ok) (k0 : (kd.toList == [102, 111, 114, 99, 101]) = false) (k1 : (kd.toList == [112, 101, 101, 107]) = false) (k2 : (kd.toList == [108, 111, 97, 100]) = false) (k3 : (kd.toList == [115, 116, 111, 114, 101]) = false) (k4 : (kd.toList == [100, 114, 97, 105, 110]) = false) (k5 : (kd.toList == [102, 101, 110, 99, 101]) = false) (k6 : (kd.toList == [97, 108, 108, 111, 99]) = false) (k7 : (kd.toList == [102, 114, 101, 101]) = false) (k8 : (kd.toList == [115, 119, 97, 112]) = false) (hi : i < s.threads) (he : s.ar.at c g k ≠ 0) :
    Calls Tryd.prog 39 #[.pointer (some ⟨b, 0, none⟩), .pointer (some ⟨p.mb, 0, none⟩), .agg #[.string kd, .int .i64 i, .int .i64 c, .int .i64 g, .int .i64 k, .int .i64 v, .int .i64 old]] w fun e w' => e = .returned (.bool true) ∧ ActPost a B b p.mb s w' := by
  have H1 : Hid (Two a B b p s s (actW w kd i c g k v old)) := H.alloc _
  have X := actX w kd i c g k v old
  have hlw := H.m.lt
  have HNF : Hid (∀ j, p.fp s j → j ≠ w.heap.size) := fun j hj => Nat.ne_of_lt (H.o.fp_lt hj)
  have hmy : s.may i c g k [old, v] = s.ar.at c g k := by rw [Rm.may_yes hi]; unfold Ar.chk; rw [if_neg he]
  have HL : Hid (∀ w', Two a B b p s s w' → Calls Tryd.prog 61 #[.pointer (some ⟨b, 0, none⟩), .int .i64 i, .agg #[.int .i64 c, .int .i64 g], .int .i64 k, .int .i64 old, .int .i64 v] w' fun e w'' => e = .returned (.tuple #[.int .i64 0, errVal a (s.ar.at c g k)]) ∧ Below w'.heap.size w' w'') := fun w' h => by
    have := mcas_err a b s i c g k old v w' h.e.env h.m (by rw [hmy]; exact he)
    rwa [hmy] at this
  have HA : Hid (∀ w', Two a B b p s s w' → Calls Tryd.prog 28 #[.pointer (some ⟨p.mb, 0, none⟩), .agg #[.int .i64 c, .int .i64 g], .int .i64 k] w' fun e w'' => e = .returned (.int .i64 (s.ar.at c g k)) ∧ Below w'.heap.size w' w'') := fun w' h => at_any p s c g k w' h.o
  have hE9 : s.ar.at c g k ≤ 9 := Nat.le_trans (Ar.at_le _ _ _ _) (by decide)
  have he0 : ((s.ar.at c g k : Nat) : Int) ≠ 0 := by omega
  generalize s.ar.at c g k = E at *
  have he1 : ((E : Int) == 0) = false := beq_eq_false_iff_ne.2 he0
  have HP : Hid (∀ w', Two a B b p s s w' → ActPost a B b p.mb s w') := fun w' h => ActPost.same h ho
  have HT : Hid (decide (0 ≤ (i : Int) ∧ (i : Int) < s.threads) = true) := decide_eq_true (by omega)
  clear H ho he hmy HNF he0
  generalize hw : actW w kd i c g k v old = w1 at *
  obtain ⟨x0, x1, x2, x3, x4, x5, x6⟩ := X
  go_enter Tryd.func39, Tryd.ntmps39
  go_wp2_with fail
  refine (H1.out.thread i true HT.out).mono ?_
  rintro e0 w2 ⟨rfl, rfl⟩
  clear HT hw
  go_wp2_with fail
  refine (HA.out _ H1.out).mono ?_
  rintro e1 w3 ⟨rfl, hb3⟩
  have H3 : Hid _ := hide (H1.out.below hb3)
  replace x0 := keep_cell hb3 x0
  replace x1 := keep_cell hb3 x1
  replace x2 := keep_cell hb3 x2
  replace x3 := keep_cell hb3 x3
  replace x4 := keep_cell hb3 x4
  replace x5 := keep_cell hb3 x5
  replace x6 := keep_cell hb3 x6
  clear HA H1 hb3
  go_wp2_with fail
  refine (HL.out _ H3.out).mono ?_
  rintro e2 w4 ⟨rfl, hb4⟩
  have H4 : Hid _ := hide (H3.out.below hb4)
  clear HL H3 hb4 x0 x1 x2 x3 x4 x5 x6
  go_wp2_with fail
  refine (H4.out.coded E hE9).mono ?_
  rintro e5 w5 ⟨rfl, hb5⟩
  have H5 : Hid _ := hide (H4.out.below hb5)
  clear H4 hb5
  go_wp2
  go_ret
  exact ⟨rfl, HP.out _ H5.out⟩

set_option maxRecDepth 20000 in
set_option maxHeartbeats 4000000 in
/-- A cas where v is no word. -/
theorem act_cas_word (a : Nat → Addr) (B : World) (b : Nat) (p : RmPl) (s : Rm) (i : Nat) (c g k v old : Int) (kd : ByteArray) (w : World) (H : Two a B b p s s w) (ho : s.Ok) (k0 : (kd.toList == [102, 111, 114, 99, 101]) = false) (k1 : (kd.toList == [112, 101, 101, 107]) = false) (k2 : (kd.toList == [108, 111, 97, 100]) = false) (k3 : (kd.toList == [115, 116, 111, 114, 101]) = false) (k4 : (kd.toList == [100, 114, 97, 105, 110]) = false) (k5 : (kd.toList == [102, 101, 110, 99, 101]) = false) (k6 : (kd.toList == [97, 108, 108, 111, 99]) = false) (k7 : (kd.toList == [102, 114, 101, 101]) = false) (k8 : (kd.toList == [115, 119, 97, 112]) = false) (hi : i < s.threads) (he : s.ar.at c g k = 0) (hv : ¬ (0 ≤ v ∧ v < 4294967296)) :
    Calls Tryd.prog 39 #[.pointer (some ⟨b, 0, none⟩), .pointer (some ⟨p.mb, 0, none⟩), .agg #[.string kd, .int .i64 i, .int .i64 c, .int .i64 g, .int .i64 k, .int .i64 v, .int .i64 old]] w fun e w' => e = .returned (.bool true) ∧ ActPost a B b p.mb s w' := by
  have H1 : Hid (Two a B b p s s (actW w kd i c g k v old)) := H.alloc _
  have X := actX w kd i c g k v old
  have hlw := H.m.lt
  have HNF : Hid (∀ j, p.fp s j → j ≠ w.heap.size) := fun j hj => Nat.ne_of_lt (H.o.fp_lt hj)
  have hall : ¬ [old, v].all isW = true := by simp [isW]; intro _ _ h0; exact Int.not_lt.1 fun h1 => hv ⟨h0, h1⟩
  have hmy : s.may i c g k [old, v] = 2 := by rw [Rm.may_yes hi]; unfold Ar.chk; rw [if_pos he, if_neg hall]
  have HL : Hid (∀ w', Two a B b p s s w' → Calls Tryd.prog 61 #[.pointer (some ⟨b, 0, none⟩), .int .i64 i, .agg #[.int .i64 c, .int .i64 g], .int .i64 k, .int .i64 old, .int .i64 v] w' fun e w'' => e = .returned (.tuple #[.int .i64 0, errVal a 2]) ∧ Below w'.heap.size w' w'') := fun w' h => by
    have := mcas_err a b s i c g k old v w' h.e.env h.m (by rw [hmy]; decide)
    rwa [hmy] at this
  have HA : Hid (∀ w', Two a B b p s s w' → Calls Tryd.prog 28 #[.pointer (some ⟨p.mb, 0, none⟩), .agg #[.int .i64 c, .int .i64 g], .int .i64 k] w' fun e w'' => e = .returned (.int .i64 0) ∧ Below w'.heap.size w' w'') := fun w' h => by
    have := at_any p s c g k w' h.o
    rwa [he] at this
  have HV : Hid (∀ w', Calls Tryd.prog 29 #[.int .i64 v] w' fun e w'' => e = .returned (.bool false) ∧ w'' = w') := fun w' => word_no v hv w'
  have HP : Hid (∀ w', Two a B b p s s w' → ActPost a B b p.mb s w') := fun w' h => ActPost.same h ho
  have HT : Hid (decide (0 ≤ (i : Int) ∧ (i : Int) < s.threads) = true) := decide_eq_true (by omega)
  clear H ho he hmy hall hv HNF
  generalize hw : actW w kd i c g k v old = w1 at *
  obtain ⟨x0, x1, x2, x3, x4, x5, x6⟩ := X
  go_enter Tryd.func39, Tryd.ntmps39
  go_wp2_with fail
  refine (H1.out.thread i true HT.out).mono ?_
  rintro e0 w2 ⟨rfl, rfl⟩
  clear HT hw
  go_wp2_with fail
  refine (HA.out _ H1.out).mono ?_
  rintro e1 w3 ⟨rfl, hb3⟩
  have H3 : Hid _ := hide (H1.out.below hb3)
  replace x0 := keep_cell hb3 x0
  replace x1 := keep_cell hb3 x1
  replace x2 := keep_cell hb3 x2
  replace x3 := keep_cell hb3 x3
  replace x4 := keep_cell hb3 x4
  replace x5 := keep_cell hb3 x5
  replace x6 := keep_cell hb3 x6
  clear HA H1 hb3
  go_wp2_with fail
  refine (HV.out _).mono ?_
  rintro e2 w4 ⟨rfl, rfl⟩
  clear HV
  go_wp2_with fail
  refine (HL.out _ H3.out).mono ?_
  rintro e2 w4 ⟨rfl, hb4⟩
  have H4 : Hid _ := hide (H3.out.below hb4)
  clear HL H3 hb4 x0 x1 x2 x3 x4 x5 x6
  go_wp2_with fail
  refine (H4.out.coded 2 (by decide)).mono ?_
  rintro e5 w5 ⟨rfl, hb5⟩
  have H5 : Hid _ := hide (H4.out.below hb5)
  clear H4 hb5
  go_wp2
  go_ret
  exact ⟨rfl, HP.out _ H5.out⟩

set_option maxRecDepth 20000 in
set_option maxHeartbeats 4000000 in
/-- A cas where old is no word. -/
theorem act_cas_old (a : Nat → Addr) (B : World) (b : Nat) (p : RmPl) (s : Rm) (i : Nat) (c g k v old : Int) (kd : ByteArray) (w : World) (H : Two a B b p s s w) (ho : s.Ok) (k0 : (kd.toList == [102, 111, 114, 99, 101]) = false) (k1 : (kd.toList == [112, 101, 101, 107]) = false) (k2 : (kd.toList == [108, 111, 97, 100]) = false) (k3 : (kd.toList == [115, 116, 111, 114, 101]) = false) (k4 : (kd.toList == [100, 114, 97, 105, 110]) = false) (k5 : (kd.toList == [102, 101, 110, 99, 101]) = false) (k6 : (kd.toList == [97, 108, 108, 111, 99]) = false) (k7 : (kd.toList == [102, 114, 101, 101]) = false) (k8 : (kd.toList == [115, 119, 97, 112]) = false) (hi : i < s.threads) (he : s.ar.at c g k = 0) (hv : 0 ≤ v ∧ v < 4294967296) (hd : ¬ (0 ≤ old ∧ old < 4294967296)) :
    Calls Tryd.prog 39 #[.pointer (some ⟨b, 0, none⟩), .pointer (some ⟨p.mb, 0, none⟩), .agg #[.string kd, .int .i64 i, .int .i64 c, .int .i64 g, .int .i64 k, .int .i64 v, .int .i64 old]] w fun e w' => e = .returned (.bool true) ∧ ActPost a B b p.mb s w' := by
  have H1 : Hid (Two a B b p s s (actW w kd i c g k v old)) := H.alloc _
  have X := actX w kd i c g k v old
  have hlw := H.m.lt
  have HNF : Hid (∀ j, p.fp s j → j ≠ w.heap.size) := fun j hj => Nat.ne_of_lt (H.o.fp_lt hj)
  have hall : ¬ [old, v].all isW = true := by simp [isW]; intro h0 h1; exact absurd ⟨h0, h1⟩ hd
  have hmy : s.may i c g k [old, v] = 2 := by rw [Rm.may_yes hi]; unfold Ar.chk; rw [if_pos he, if_neg hall]
  have HL : Hid (∀ w', Two a B b p s s w' → Calls Tryd.prog 61 #[.pointer (some ⟨b, 0, none⟩), .int .i64 i, .agg #[.int .i64 c, .int .i64 g], .int .i64 k, .int .i64 old, .int .i64 v] w' fun e w'' => e = .returned (.tuple #[.int .i64 0, errVal a 2]) ∧ Below w'.heap.size w' w'') := fun w' h => by
    have := mcas_err a b s i c g k old v w' h.e.env h.m (by rw [hmy]; decide)
    rwa [hmy] at this
  have HA : Hid (∀ w', Two a B b p s s w' → Calls Tryd.prog 28 #[.pointer (some ⟨p.mb, 0, none⟩), .agg #[.int .i64 c, .int .i64 g], .int .i64 k] w' fun e w'' => e = .returned (.int .i64 0) ∧ Below w'.heap.size w' w'') := fun w' h => by
    have := at_any p s c g k w' h.o
    rwa [he] at this
  have HV : Hid (∀ w', Calls Tryd.prog 29 #[.int .i64 v] w' fun e w'' => e = .returned (.bool true) ∧ w'' = w') := fun w' => word_yes v hv w'
  have HO : Hid (∀ w', Calls Tryd.prog 29 #[.int .i64 old] w' fun e w'' => e = .returned (.bool false) ∧ w'' = w') := fun w' => word_no old hd w'
  have HP : Hid (∀ w', Two a B b p s s w' → ActPost a B b p.mb s w') := fun w' h => ActPost.same h ho
  have HT : Hid (decide (0 ≤ (i : Int) ∧ (i : Int) < s.threads) = true) := decide_eq_true (by omega)
  clear H ho he hmy hall hv HNF hd
  generalize hw : actW w kd i c g k v old = w1 at *
  obtain ⟨x0, x1, x2, x3, x4, x5, x6⟩ := X
  go_enter Tryd.func39, Tryd.ntmps39
  go_wp2_with fail
  refine (H1.out.thread i true HT.out).mono ?_
  rintro e0 w2 ⟨rfl, rfl⟩
  clear HT hw
  go_wp2_with fail
  refine (HA.out _ H1.out).mono ?_
  rintro e1 w3 ⟨rfl, hb3⟩
  have H3 : Hid _ := hide (H1.out.below hb3)
  replace x0 := keep_cell hb3 x0
  replace x1 := keep_cell hb3 x1
  replace x2 := keep_cell hb3 x2
  replace x3 := keep_cell hb3 x3
  replace x4 := keep_cell hb3 x4
  replace x5 := keep_cell hb3 x5
  replace x6 := keep_cell hb3 x6
  clear HA H1 hb3
  go_wp2_with fail
  refine (HV.out _).mono ?_
  rintro e2 w4 ⟨rfl, rfl⟩
  clear HV
  go_wp2_with fail
  refine (HO.out _).mono ?_
  rintro e2 w5 ⟨rfl, rfl⟩
  clear HO
  go_wp2_with fail
  refine (HL.out _ H3.out).mono ?_
  rintro e2 w4 ⟨rfl, hb4⟩
  have H4 : Hid _ := hide (H3.out.below hb4)
  clear HL H3 hb4 x0 x1 x2 x3 x4 x5 x6
  go_wp2_with fail
  refine (H4.out.coded 2 (by decide)).mono ?_
  rintro e5 w5 ⟨rfl, hb5⟩
  have H5 : Hid _ := hide (H4.out.below hb5)
  clear H4 hb5
  go_wp2
  go_ret
  exact ⟨rfl, HP.out _ H5.out⟩

set_option maxRecDepth 20000 in
set_option maxHeartbeats 4000000 in
/-- A cas whose fence finds a cell gone. -/
theorem act_cas_gone (a : Nat → Addr) (B : World) (b : Nat) (p : RmPl) (s : Rm) (i n m : Nat) (g v old : Int) (kd : ByteArray) (w : World) (H : Two a B b p s s w) (ho : s.Ok) (k0 : (kd.toList == [102, 111, 114, 99, 101]) = false) (k1 : (kd.toList == [112, 101, 101, 107]) = false) (k2 : (kd.toList == [108, 111, 97, 100]) = false) (k3 : (kd.toList == [115, 116, 111, 114, 101]) = false) (k4 : (kd.toList == [100, 114, 97, 105, 110]) = false) (k5 : (kd.toList == [102, 101, 110, 99, 101]) = false) (k6 : (kd.toList == [97, 108, 108, 111, 99]) = false) (k7 : (kd.toList == [102, 114, 101, 101]) = false) (k8 : (kd.toList == [115, 119, 97, 112]) = false) (hi : i < s.threads) (hh : s.ar.has n g = true) (hm : m < 4) (hv : 0 ≤ v ∧ v < 4294967296) (hd : 0 ≤ old ∧ old < 4294967296) (hg : 0 < s.gone i (s.waits i)) :
    Calls Tryd.prog 39 #[.pointer (some ⟨b, 0, none⟩), .pointer (some ⟨p.mb, 0, none⟩), .agg #[.string kd, .int .i64 i, .int .i64 n, .int .i64 g, .int .i64 m, .int .i64 v, .int .i64 old]] w fun e w' => e = .returned (.bool true) ∧ ActPost a B b p.mb s w' := by
  have H1 : Hid (Two a B b p s s (actW w kd i n g m v old)) := H.alloc _
  have X := actX w kd i n g m v old
  have hlw := H.m.lt
  have HNF : Hid (∀ j, p.fp s j → j ≠ w.heap.size) := fun j hj => Nat.ne_of_lt (H.o.fp_lt hj)
  have hl8 := (H.m.line i hi).le
  have h64 := H.m.ar.small
  have hmy : s.may i n g m [old, v] = 0 := by rw [Rm.may_yes hi, Ar.chk_two_ok hh (by omega) hd hv]
  have HA : Hid (∀ w', Two a B b p s s w' → Calls Tryd.prog 28 #[.pointer (some ⟨p.mb, 0, none⟩), .agg #[.int .i64 n, .int .i64 g], .int .i64 m] w' fun e w'' => e = .returned (.int .i64 0) ∧ Below w'.heap.size w' w'') := fun w' h => by
    have := at_any p s n g m w' h.o
    rwa [Ar.at_ok hh (by omega)] at this
  have HV : Hid (∀ w', Calls Tryd.prog 29 #[.int .i64 v] w' fun e w'' => e = .returned (.bool true) ∧ w'' = w') := fun w' => word_yes v hv w'
  have HO : Hid (∀ w', Calls Tryd.prog 29 #[.int .i64 old] w' fun e w'' => e = .returned (.bool true) ∧ w'' = w') := fun w' => word_yes old hd w'
  have HR : Hid (∀ w', Two a B b p s s w' → Calls Tryd.prog 54 #[.pointer (some ⟨p.mb, 0, none⟩), .int .i64 i] w' fun e w'' => e = .returned (.int .i64 (s.gone i (s.waits i))) ∧ ∃ p', RmStep p s w' p' (s.drainAll i (s.waits i)) w'') := fun w' h => rfence_any p s i w' h.o hi (few_ok ho hi) (by omega)
  have HL : Hid (∀ p' so w', Two a B b p' s so w' → Calls Tryd.prog 61 #[.pointer (some ⟨b, 0, none⟩), .int .i64 i, .agg #[.int .i64 n, .int .i64 g], .int .i64 m, .int .i64 old, .int .i64 v] w' fun e w'' => e = .returned (.tuple #[.int .i64 0, errVal a 7]) ∧ MmStep b w' (s.drainAll i (s.waits i)) w'') := fun _ _ w' h => mcas_gone a _ b s i n g m old v w' h.e h.hB h.m hi (ho i hi) hmy hg
  have HP : Hid (∀ p' w', p'.mb = p.mb → Two a B b p' (s.drainAll i (s.waits i)) (s.drainAll i (s.waits i)) w' → ActPost a B b p.mb s w') := fun p' w' hmb h => drainAll_post i ho hmb h
  have hgi : (0 : Int) < (s.gone i (s.waits i) : Nat) := by omega
  generalize s.drainAll i (s.waits i) = s' at *
  generalize s.gone i (s.waits i) = N at *
  have HT : Hid (decide (0 ≤ (i : Int) ∧ (i : Int) < s.threads) = true) := decide_eq_true (by omega)
  clear H ho hl8 hg hh hmy h64 hv hd
  generalize hw : actW w kd i n g m v old = w1 at *
  obtain ⟨x0, x1, x2, x3, x4, x5, x6⟩ := X
  go_enter Tryd.func39, Tryd.ntmps39
  go_wp2_with fail
  refine (H1.out.thread i true HT.out).mono ?_
  rintro e0 w2 ⟨rfl, rfl⟩
  clear HT hw
  go_wp2_with fail
  refine (HA.out _ H1.out).mono ?_
  rintro e1 w3 ⟨rfl, hb3⟩
  have H3 : Hid _ := hide (H1.out.below hb3)
  replace x0 := keep_cell hb3 x0
  replace x1 := keep_cell hb3 x1
  replace x2 := keep_cell hb3 x2
  replace x3 := keep_cell hb3 x3
  replace x4 := keep_cell hb3 x4
  replace x5 := keep_cell hb3 x5
  replace x6 := keep_cell hb3 x6
  clear HA H1 hb3
  go_wp2_with fail
  refine (HV.out _).mono ?_
  rintro e2 w4 ⟨rfl, rfl⟩
  clear HV
  go_wp2_with fail
  refine (HO.out _).mono ?_
  rintro e2 w5 ⟨rfl, rfl⟩
  clear HO
  go_wp2_with fail
  refine (HR.out _ H3.out).mono ?_
  rintro e3 w5 ⟨rfl, p', hb5⟩
  have H5 : Hid _ := hide (H3.out.ostep hb5)
  have HM := hide hb5.mb
  have ln3 : w.heap.size < _ := World.block_lt_of_cell? _ _ x0
  have HN5 : Hid (∀ j, p'.fp _ j → w.heap.size ≠ j) := hide (fun j hj e => by
    rcases hb5.fp j hj with h | h
    · exact HNF.out j h e.symm
    · omega)
  replace hb5 := hb5.turns
  replace x0 := hb5.keep x0 (fun e => HNF.out _ e rfl)
  replace x1 := hb5.keep x1 (fun e => HNF.out _ e rfl)
  replace x2 := hb5.keep x2 (fun e => HNF.out _ e rfl)
  replace x3 := hb5.keep x3 (fun e => HNF.out _ e rfl)
  replace x4 := hb5.keep x4 (fun e => HNF.out _ e rfl)
  replace x5 := hb5.keep x5 (fun e => HNF.out _ e rfl)
  replace x6 := hb5.keep x6 (fun e => HNF.out _ e rfl)
  clear HR H3 hb5
  go_wp2_with fail
  refine (HL.out _ _ _ H5.out).mono ?_
  rintro e4 w6 ⟨rfl, hb6⟩
  have H6 : Hid _ := hide (H5.out.mstep hb6)
  clear HL H5 hb6 HNF x0 x1 x2 x3 x4 x5 x6
  go_wp2_with fail
  refine (H6.out.coded 7 (by decide)).mono ?_
  rintro e7 w7 ⟨rfl, hb7⟩
  have H7 : Hid _ := hide (H6.out.below hb7)
  clear H6 hb7
  go_wp2
  go_ret
  exact ⟨rfl, HP.out _ _ HM.out H7.out⟩

set_option maxRecDepth 20000 in
set_option maxHeartbeats 4000000 in
/-- A cas. -/
theorem act_cas_eq (a : Nat → Addr) (B : World) (b : Nat) (p : RmPl) (s : Rm) (i n m : Nat) (g v old : Int) (kd : ByteArray) (w : World) (H : Two a B b p s s w) (ho : s.Ok) (k0 : (kd.toList == [102, 111, 114, 99, 101]) = false) (k1 : (kd.toList == [112, 101, 101, 107]) = false) (k2 : (kd.toList == [108, 111, 97, 100]) = false) (k3 : (kd.toList == [115, 116, 111, 114, 101]) = false) (k4 : (kd.toList == [100, 114, 97, 105, 110]) = false) (k5 : (kd.toList == [102, 101, 110, 99, 101]) = false) (k6 : (kd.toList == [97, 108, 108, 111, 99]) = false) (k7 : (kd.toList == [102, 114, 101, 101]) = false) (k8 : (kd.toList == [115, 119, 97, 112]) = false) (hi : i < s.threads) (hn : n < s.ar.size) (hh : s.ar.has n g = true) (hm : m < 4) (hv : 0 ≤ v ∧ v < 4294967296) (hd : 0 ≤ old ∧ old < 4294967296) (hg : ¬ 0 < s.gone i (s.waits i)) (hq : (s.drainAll i (s.waits i)).ar.words n m = old) :
    Calls Tryd.prog 39 #[.pointer (some ⟨b, 0, none⟩), .pointer (some ⟨p.mb, 0, none⟩), .agg #[.string kd, .int .i64 i, .int .i64 n, .int .i64 g, .int .i64 m, .int .i64 v, .int .i64 old]] w fun e w' => e = .returned (.bool true) ∧ ActPost a B b p.mb s w' := by
  have H1 : Hid (Two a B b p s s (actW w kd i n g m v old)) := H.alloc _
  have X := actX w kd i n g m v old
  have hlw := H.m.lt
  have HNF : Hid (∀ j, p.fp s j → j ≠ w.heap.size) := fun j hj => Nat.ne_of_lt (H.o.fp_lt hj)
  have hl8 := (H.m.line i hi).le
  have h64 := H.m.ar.small
  have hmy : s.may i n g m [old, v] = 0 := by rw [Rm.may_yes hi, Ar.chk_two_ok hh (by omega) hd hv]
  have HA : Hid (∀ w', Two a B b p s s w' → Calls Tryd.prog 28 #[.pointer (some ⟨p.mb, 0, none⟩), .agg #[.int .i64 n, .int .i64 g], .int .i64 m] w' fun e w'' => e = .returned (.int .i64 0) ∧ Below w'.heap.size w' w'') := fun w' h => by
    have := at_any p s n g m w' h.o
    rwa [Ar.at_ok hh (by omega)] at this
  have HV : Hid (∀ w', Calls Tryd.prog 29 #[.int .i64 v] w' fun e w'' => e = .returned (.bool true) ∧ w'' = w') := fun w' => word_yes v hv w'
  have HO : Hid (∀ w', Calls Tryd.prog 29 #[.int .i64 old] w' fun e w'' => e = .returned (.bool true) ∧ w'' = w') := fun w' => word_yes old hd w'
  have HR : Hid (∀ w', Two a B b p s s w' → Calls Tryd.prog 54 #[.pointer (some ⟨p.mb, 0, none⟩), .int .i64 i] w' fun e w'' => e = .returned (.int .i64 (s.gone i (s.waits i))) ∧ ∃ p', RmStep p s w' p' (s.drainAll i (s.waits i)) w'') := fun w' h => rfence_any p s i w' h.o hi (few_ok ho hi) (by omega)
  have HL : Hid (∀ p' so w', Two a B b p' s so w' → Calls Tryd.prog 61 #[.pointer (some ⟨b, 0, none⟩), .int .i64 i, .agg #[.int .i64 n, .int .i64 g], .int .i64 m, .int .i64 old, .int .i64 v] w' fun e w'' => e = .returned (.tuple #[.int .i64 ((s.drainAll i (s.waits i)).ar.words n m), errVal a 0]) ∧ MmStep b w' ((s.drainAll i (s.waits i)).setWord n m v) w'') := fun _ _ w' h => by
    have := mcas_ok a _ b s i n m g old v w' h.e h.hB h.m hi (ho i hi) (by omega) hm hh hd hv hg
    rwa [show casVal ((s.drainAll i (s.waits i)).ar.words n m) old v = v from if_pos hq] at this
  have HP : Hid (∀ p' w', p'.mb = p.mb → Two a B b p' ((s.drainAll i (s.waits i)).setWord n m v) ((s.drainAll i (s.waits i)).setWord n m v) w' → ActPost a B b p.mb s w') := fun p' w' hmb h => setWord_post i n m v ho hmb h
  have hg0 : s.gone i (s.waits i) = 0 := by omega
  have hn' : n < (s.drainAll i (s.waits i)).ar.size := by rw [(s.drainAll_ar (s.waits i) i).1]; exact hn
  have ni : (n : Int) < (s.drainAll i (s.waits i)).ar.size := by omega
  have mi : (m : Int) < 4 := by omega
  rw [hg0] at HR
  have hqb : ((s.drainAll i (s.waits i)).ar.words n m == old) = true := beq_iff_eq.2 hq
  generalize s.drainAll i (s.waits i) = s' at *
  have HT : Hid (decide (0 ≤ (i : Int) ∧ (i : Int) < s.threads) = true) := decide_eq_true (by omega)
  clear H ho hl8 hg hh hmy h64 hg0 hv hd hq
  generalize hw : actW w kd i n g m v old = w1 at *
  obtain ⟨x0, x1, x2, x3, x4, x5, x6⟩ := X
  go_enter Tryd.func39, Tryd.ntmps39
  go_wp2_with fail
  refine (H1.out.thread i true HT.out).mono ?_
  rintro e0 w2 ⟨rfl, rfl⟩
  clear HT hw
  go_wp2_with fail
  refine (HA.out _ H1.out).mono ?_
  rintro e1 w3 ⟨rfl, hb3⟩
  have H3 : Hid _ := hide (H1.out.below hb3)
  replace x0 := keep_cell hb3 x0
  replace x1 := keep_cell hb3 x1
  replace x2 := keep_cell hb3 x2
  replace x3 := keep_cell hb3 x3
  replace x4 := keep_cell hb3 x4
  replace x5 := keep_cell hb3 x5
  replace x6 := keep_cell hb3 x6
  clear HA H1 hb3
  go_wp2_with fail
  refine (HV.out _).mono ?_
  rintro e2 w4 ⟨rfl, rfl⟩
  clear HV
  go_wp2_with fail
  refine (HO.out _).mono ?_
  rintro e2 w5 ⟨rfl, rfl⟩
  clear HO
  go_wp2_with fail
  refine (HR.out _ H3.out).mono ?_
  rintro e3 w5 ⟨rfl, p', hb5⟩
  have H5 : Hid _ := hide (H3.out.ostep hb5)
  have HM := hide hb5.mb
  have ln3 : w.heap.size < _ := World.block_lt_of_cell? _ _ x0
  have HN5 : Hid (∀ j, p'.fp _ j → w.heap.size ≠ j) := hide (fun j hj e => by
    rcases hb5.fp j hj with h | h
    · exact HNF.out j h e.symm
    · omega)
  replace hb5 := hb5.turns
  replace x0 := hb5.keep x0 (fun e => HNF.out _ e rfl)
  replace x1 := hb5.keep x1 (fun e => HNF.out _ e rfl)
  replace x2 := hb5.keep x2 (fun e => HNF.out _ e rfl)
  replace x3 := hb5.keep x3 (fun e => HNF.out _ e rfl)
  replace x4 := hb5.keep x4 (fun e => HNF.out _ e rfl)
  replace x5 := hb5.keep x5 (fun e => HNF.out _ e rfl)
  replace x6 := hb5.keep x6 (fun e => HNF.out _ e rfl)
  clear HR H3 hb5
  have HNW : Hid (w.heap.size ≠ p'.wb n) := hide (HN5.out _ (Or.inr (Or.inr (Or.inr (Or.inl ⟨n, hn', rfl⟩)))))
  have r0 := H5.out.o.mCells
  have r1 := H5.out.o.cWords n hn'
  have r2 := H5.out.o.words n m hn' hm
  have hcc := H5.out.o.ccap
  have hwc := H5.out.o.wcap n hn'
  rw [HM.out] at r0
  generalize hwas : s'.ar.words n m = was at *
  go_wp2
  go_quiet (fail)
  have H6 : Hid (Two a B b p' s s' (w5.drewN nq)) := hide (H5.out.below (Below.drewN' nq))
  replace x0 : (w5.drewN nq).cell? _ = _ := x0
  replace x1 : (w5.drewN nq).cell? _ = _ := x1
  replace x2 : (w5.drewN nq).cell? _ = _ := x2
  replace x3 : (w5.drewN nq).cell? _ = _ := x3
  replace x4 : (w5.drewN nq).cell? _ = _ := x4
  replace x5 : (w5.drewN nq).cell? _ = _ := x5
  replace x6 : (w5.drewN nq).cell? _ = _ := x6
  replace r0 : (w5.drewN nq).cell? _ = _ := r0
  replace r1 : (w5.drewN nq).cell? _ = _ := r1
  replace r2 : (w5.drewN nq).cell? _ = _ := r2
  clear H5
  generalize w5.drewN nq = w6 at *
  have f2 := H6.out.o.fw n m hn'
  go_wp2
  go_region
  have H7 : Hid (Two a B b p' s (s'.setWord n m v) (w6.setCell ⟨p'.wb n, m, none⟩ (.int .i64 v)).drew) := hide ((H6.out.ostep (RmStep.setWord H6.out.o n m hn' hm v)).below (Below.refl _ _).drew)
  replace x0 := cell_ne (b := p'.wb n) (o := m) (v := .int .i64 v) x0 (Or.inl HNW.out)
  replace x1 := cell_ne (b := p'.wb n) (o := m) (v := .int .i64 v) x1 (Or.inl HNW.out)
  replace x2 := cell_ne (b := p'.wb n) (o := m) (v := .int .i64 v) x2 (Or.inl HNW.out)
  replace x3 := cell_ne (b := p'.wb n) (o := m) (v := .int .i64 v) x3 (Or.inl HNW.out)
  replace x4 := cell_ne (b := p'.wb n) (o := m) (v := .int .i64 v) x4 (Or.inl HNW.out)
  replace x5 := cell_ne (b := p'.wb n) (o := m) (v := .int .i64 v) x5 (Or.inl HNW.out)
  replace x6 := cell_ne (b := p'.wb n) (o := m) (v := .int .i64 v) x6 (Or.inl HNW.out)
  replace x0 : ((w6.setCell ⟨p'.wb n, m, none⟩ (.int .i64 v)).drew).cell? _ = _ := x0
  replace x1 : ((w6.setCell ⟨p'.wb n, m, none⟩ (.int .i64 v)).drew).cell? _ = _ := x1
  replace x2 : ((w6.setCell ⟨p'.wb n, m, none⟩ (.int .i64 v)).drew).cell? _ = _ := x2
  replace x3 : ((w6.setCell ⟨p'.wb n, m, none⟩ (.int .i64 v)).drew).cell? _ = _ := x3
  replace x4 : ((w6.setCell ⟨p'.wb n, m, none⟩ (.int .i64 v)).drew).cell? _ = _ := x4
  replace x5 : ((w6.setCell ⟨p'.wb n, m, none⟩ (.int .i64 v)).drew).cell? _ = _ := x5
  replace x6 : ((w6.setCell ⟨p'.wb n, m, none⟩ (.int .i64 v)).drew).cell? _ = _ := x6
  clear H6 r0 r1 r2 f2
  generalize (w6.setCell ⟨p'.wb n, m, none⟩ (.int .i64 v)).drew = w7 at *
  go_wp2_with fail
  refine (HL.out _ _ _ H7.out).mono ?_
  rintro e4 w8 ⟨rfl, hb8⟩
  have H8 : Hid _ := hide (H7.out.mstep hb8)
  clear HL H7 hb8 HNF x0 x1 x2 x3 x4 x5 x6
  go_wp2_with fail
  refine (H8.out.coded 0 (by decide)).mono ?_
  rintro e9 w9 ⟨rfl, hb9⟩
  have H9 : Hid _ := hide (H8.out.below hb9)
  clear H8 hb9
  go_wp2
  go_ret
  exact ⟨rfl, HP.out _ _ HM.out H9.out⟩

set_option maxRecDepth 20000 in
set_option maxHeartbeats 4000000 in
/-- A cas. -/
theorem act_cas_ne (a : Nat → Addr) (B : World) (b : Nat) (p : RmPl) (s : Rm) (i n m : Nat) (g v old : Int) (kd : ByteArray) (w : World) (H : Two a B b p s s w) (ho : s.Ok) (k0 : (kd.toList == [102, 111, 114, 99, 101]) = false) (k1 : (kd.toList == [112, 101, 101, 107]) = false) (k2 : (kd.toList == [108, 111, 97, 100]) = false) (k3 : (kd.toList == [115, 116, 111, 114, 101]) = false) (k4 : (kd.toList == [100, 114, 97, 105, 110]) = false) (k5 : (kd.toList == [102, 101, 110, 99, 101]) = false) (k6 : (kd.toList == [97, 108, 108, 111, 99]) = false) (k7 : (kd.toList == [102, 114, 101, 101]) = false) (k8 : (kd.toList == [115, 119, 97, 112]) = false) (hi : i < s.threads) (hn : n < s.ar.size) (hh : s.ar.has n g = true) (hm : m < 4) (hv : 0 ≤ v ∧ v < 4294967296) (hd : 0 ≤ old ∧ old < 4294967296) (hg : ¬ 0 < s.gone i (s.waits i)) (hq : ¬ (s.drainAll i (s.waits i)).ar.words n m = old) :
    Calls Tryd.prog 39 #[.pointer (some ⟨b, 0, none⟩), .pointer (some ⟨p.mb, 0, none⟩), .agg #[.string kd, .int .i64 i, .int .i64 n, .int .i64 g, .int .i64 m, .int .i64 v, .int .i64 old]] w fun e w' => e = .returned (.bool true) ∧ ActPost a B b p.mb s w' := by
  have H1 : Hid (Two a B b p s s (actW w kd i n g m v old)) := H.alloc _
  have X := actX w kd i n g m v old
  have hlw := H.m.lt
  have HNF : Hid (∀ j, p.fp s j → j ≠ w.heap.size) := fun j hj => Nat.ne_of_lt (H.o.fp_lt hj)
  have hl8 := (H.m.line i hi).le
  have h64 := H.m.ar.small
  have hmy : s.may i n g m [old, v] = 0 := by rw [Rm.may_yes hi, Ar.chk_two_ok hh (by omega) hd hv]
  have HA : Hid (∀ w', Two a B b p s s w' → Calls Tryd.prog 28 #[.pointer (some ⟨p.mb, 0, none⟩), .agg #[.int .i64 n, .int .i64 g], .int .i64 m] w' fun e w'' => e = .returned (.int .i64 0) ∧ Below w'.heap.size w' w'') := fun w' h => by
    have := at_any p s n g m w' h.o
    rwa [Ar.at_ok hh (by omega)] at this
  have HV : Hid (∀ w', Calls Tryd.prog 29 #[.int .i64 v] w' fun e w'' => e = .returned (.bool true) ∧ w'' = w') := fun w' => word_yes v hv w'
  have HO : Hid (∀ w', Calls Tryd.prog 29 #[.int .i64 old] w' fun e w'' => e = .returned (.bool true) ∧ w'' = w') := fun w' => word_yes old hd w'
  have HR : Hid (∀ w', Two a B b p s s w' → Calls Tryd.prog 54 #[.pointer (some ⟨p.mb, 0, none⟩), .int .i64 i] w' fun e w'' => e = .returned (.int .i64 (s.gone i (s.waits i))) ∧ ∃ p', RmStep p s w' p' (s.drainAll i (s.waits i)) w'') := fun w' h => rfence_any p s i w' h.o hi (few_ok ho hi) (by omega)
  have HL : Hid (∀ p' so w', Two a B b p' s so w' → Calls Tryd.prog 61 #[.pointer (some ⟨b, 0, none⟩), .int .i64 i, .agg #[.int .i64 n, .int .i64 g], .int .i64 m, .int .i64 old, .int .i64 v] w' fun e w'' => e = .returned (.tuple #[.int .i64 ((s.drainAll i (s.waits i)).ar.words n m), errVal a 0]) ∧ MmStep b w' (s.drainAll i (s.waits i)) w'') := fun _ _ w' h => by
    have := mcas_ok a _ b s i n m g old v w' h.e h.hB h.m hi (ho i hi) (by omega) hm hh hd hv hg
    rwa [show casVal ((s.drainAll i (s.waits i)).ar.words n m) old v = (s.drainAll i (s.waits i)).ar.words n m from if_neg hq, Rm.setWord_self] at this
  have HP : Hid (∀ p' w', p'.mb = p.mb → Two a B b p' (s.drainAll i (s.waits i)) (s.drainAll i (s.waits i)) w' → ActPost a B b p.mb s w') := fun p' w' hmb h => drainAll_post i ho hmb h
  have hg0 : s.gone i (s.waits i) = 0 := by omega
  have hn' : n < (s.drainAll i (s.waits i)).ar.size := by rw [(s.drainAll_ar (s.waits i) i).1]; exact hn
  have ni : (n : Int) < (s.drainAll i (s.waits i)).ar.size := by omega
  have mi : (m : Int) < 4 := by omega
  rw [hg0] at HR
  have hqb : ((s.drainAll i (s.waits i)).ar.words n m == old) = false := beq_eq_false_iff_ne.2 hq
  generalize s.drainAll i (s.waits i) = s' at *
  have HT : Hid (decide (0 ≤ (i : Int) ∧ (i : Int) < s.threads) = true) := decide_eq_true (by omega)
  clear H ho hl8 hg hh hmy h64 hg0 hv hd hq
  generalize hw : actW w kd i n g m v old = w1 at *
  obtain ⟨x0, x1, x2, x3, x4, x5, x6⟩ := X
  go_enter Tryd.func39, Tryd.ntmps39
  go_wp2_with fail
  refine (H1.out.thread i true HT.out).mono ?_
  rintro e0 w2 ⟨rfl, rfl⟩
  clear HT hw
  go_wp2_with fail
  refine (HA.out _ H1.out).mono ?_
  rintro e1 w3 ⟨rfl, hb3⟩
  have H3 : Hid _ := hide (H1.out.below hb3)
  replace x0 := keep_cell hb3 x0
  replace x1 := keep_cell hb3 x1
  replace x2 := keep_cell hb3 x2
  replace x3 := keep_cell hb3 x3
  replace x4 := keep_cell hb3 x4
  replace x5 := keep_cell hb3 x5
  replace x6 := keep_cell hb3 x6
  clear HA H1 hb3
  go_wp2_with fail
  refine (HV.out _).mono ?_
  rintro e2 w4 ⟨rfl, rfl⟩
  clear HV
  go_wp2_with fail
  refine (HO.out _).mono ?_
  rintro e2 w5 ⟨rfl, rfl⟩
  clear HO
  go_wp2_with fail
  refine (HR.out _ H3.out).mono ?_
  rintro e3 w5 ⟨rfl, p', hb5⟩
  have H5 : Hid _ := hide (H3.out.ostep hb5)
  have HM := hide hb5.mb
  have ln3 : w.heap.size < _ := World.block_lt_of_cell? _ _ x0
  have HN5 : Hid (∀ j, p'.fp _ j → w.heap.size ≠ j) := hide (fun j hj e => by
    rcases hb5.fp j hj with h | h
    · exact HNF.out j h e.symm
    · omega)
  replace hb5 := hb5.turns
  replace x0 := hb5.keep x0 (fun e => HNF.out _ e rfl)
  replace x1 := hb5.keep x1 (fun e => HNF.out _ e rfl)
  replace x2 := hb5.keep x2 (fun e => HNF.out _ e rfl)
  replace x3 := hb5.keep x3 (fun e => HNF.out _ e rfl)
  replace x4 := hb5.keep x4 (fun e => HNF.out _ e rfl)
  replace x5 := hb5.keep x5 (fun e => HNF.out _ e rfl)
  replace x6 := hb5.keep x6 (fun e => HNF.out _ e rfl)
  clear HR H3 hb5
  have HNW : Hid (w.heap.size ≠ p'.wb n) := hide (HN5.out _ (Or.inr (Or.inr (Or.inr (Or.inl ⟨n, hn', rfl⟩)))))
  have r0 := H5.out.o.mCells
  have r1 := H5.out.o.cWords n hn'
  have r2 := H5.out.o.words n m hn' hm
  have hcc := H5.out.o.ccap
  have hwc := H5.out.o.wcap n hn'
  rw [HM.out] at r0
  generalize hwas : s'.ar.words n m = was at *
  go_wp2
  go_quiet (fail)
  have H6 : Hid (Two a B b p' s s' (w5.drewN nq)) := hide (H5.out.below (Below.drewN' nq))
  replace x0 : (w5.drewN nq).cell? _ = _ := x0
  replace x1 : (w5.drewN nq).cell? _ = _ := x1
  replace x2 : (w5.drewN nq).cell? _ = _ := x2
  replace x3 : (w5.drewN nq).cell? _ = _ := x3
  replace x4 : (w5.drewN nq).cell? _ = _ := x4
  replace x5 : (w5.drewN nq).cell? _ = _ := x5
  replace x6 : (w5.drewN nq).cell? _ = _ := x6
  replace r0 : (w5.drewN nq).cell? _ = _ := r0
  replace r1 : (w5.drewN nq).cell? _ = _ := r1
  replace r2 : (w5.drewN nq).cell? _ = _ := r2
  clear H5
  generalize w5.drewN nq = w6 at *
  have H7 := H6
  clear H6 r0 r1 r2
  go_wp2_with fail
  refine (HL.out _ _ _ H7.out).mono ?_
  rintro e4 w8 ⟨rfl, hb8⟩
  have H8 : Hid _ := hide (H7.out.mstep hb8)
  clear HL H7 hb8 HNF x0 x1 x2 x3 x4 x5 x6
  go_wp2_with fail
  refine (H8.out.coded 0 (by decide)).mono ?_
  rintro e9 w9 ⟨rfl, hb9⟩
  have H9 : Hid _ := hide (H8.out.below hb9)
  clear H8 hb9
  go_wp2
  go_ret
  exact ⟨rfl, HP.out _ _ HM.out H9.out⟩

end Go.Proofs.YtcnemlamlchnkaaDoor
