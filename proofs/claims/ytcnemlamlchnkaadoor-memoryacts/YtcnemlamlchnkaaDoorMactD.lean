/- memoryAct: the kinds peek, free. -/
import Derived.Test.YtcnemlamlchnkaaDoorMactC
namespace Go.Proofs.YtcnemlamlchnkaaDoor
open Go.RowKit Go.Extern.Stop Go.Stop Go.Extern Go.Sort

set_option maxRecDepth 20000 in
set_option maxHeartbeats 4000000 in
/-- A peek where no word is. -/
theorem act_peek_err (a : Nat → Addr) (B : World) (b : Nat) (p : RmPl) (s : Rm) (t c g k v old : Int) (w : World) (H : Two a B b p s s w) (ho : s.Ok) (he : s.ar.at c g k ≠ 0) (f : Bool) (hf : decide (0 ≤ t ∧ t < s.threads) = f) :
    Calls Tryd.prog 39 #[.pointer (some ⟨b, 0, none⟩), .pointer (some ⟨p.mb, 0, none⟩), .agg #[.string ⟨#[112, 101, 101, 107]⟩, .int .i64 t, .int .i64 c, .int .i64 g, .int .i64 k, .int .i64 v, .int .i64 old]] w fun e w' => e = .returned (.bool true) ∧ ActPost a B b p.mb s w' := by
  have H1 : Hid (Two a B b p s s (actW w ⟨#[112, 101, 101, 107]⟩ t c g k v old)) := H.alloc _
  have X := actX w ⟨#[112, 101, 101, 107]⟩ t c g k v old
  have hlw := H.m.lt
  have HNF : Hid (∀ j, p.fp s j → j ≠ w.heap.size) := fun j hj => Nat.ne_of_lt (H.o.fp_lt hj)
  have HL : Hid (∀ w', Two a B b p s s w' → Calls Tryd.prog 56 #[.pointer (some ⟨b, 0, none⟩), .agg #[.int .i64 c, .int .i64 g], .int .i64 k] w' fun e w'' => e = .returned (.tuple #[.int .i64 0, errVal a (s.ar.at c g k)]) ∧ Below w'.heap.size w' w'') := fun w' h => mpeek_err a b s c g k w' h.e.env h.m he
  have HR : Hid (∀ w', Two a B b p s s w' → Calls Tryd.prog 28 #[.pointer (some ⟨p.mb, 0, none⟩), .agg #[.int .i64 c, .int .i64 g], .int .i64 k] w' fun e w'' => e = .returned (.int .i64 (s.ar.at c g k)) ∧ Below w'.heap.size w' w'') := fun w' h => at_any p s c g k w' h.o
  have hE9 : s.ar.at c g k ≤ 9 := Nat.le_trans (Ar.at_le _ _ _ _) (by decide)
  have he1 : (0 : Int) < (s.ar.at c g k : Nat) := by omega
  generalize s.ar.at c g k = E at *
  have HP : Hid (∀ w', Two a B b p s s w' → ActPost a B b p.mb s w') := fun w' h => ActPost.same h ho
  have HT : Hid (decide (0 ≤ t ∧ t < s.threads) = f) := hf
  clear H ho he HNF hf
  generalize hw : actW w ⟨#[112, 101, 101, 107]⟩ t c g k v old = w1 at *
  obtain ⟨x0, x1, x2, x3, x4, x5, x6⟩ := X
  go_enter Tryd.func39, Tryd.ntmps39
  go_wp2_with fail
  refine (H1.out.thread t f HT.out).mono ?_
  rintro e0 w2 ⟨rfl, rfl⟩
  clear HT hw
  cases f
  all_goals
    go_wp2_with fail
    refine (HL.out _ H1.out).mono ?_
    rintro e1 w3 ⟨rfl, hb3⟩
    have H3 : Hid _ := hide (H1.out.below hb3)
    replace x0 := keep_cell hb3 x0
    replace x1 := keep_cell hb3 x1
    replace x2 := keep_cell hb3 x2
    replace x3 := keep_cell hb3 x3
    replace x4 := keep_cell hb3 x4
    replace x5 := keep_cell hb3 x5
    replace x6 := keep_cell hb3 x6
    clear HL H1 hb3
    go_wp2_with fail
    refine (HR.out _ H3.out).mono ?_
    rintro e2 w4 ⟨rfl, hb4⟩
    have H4 : Hid _ := hide (H3.out.below hb4)
    clear HR H3 hb4 x0 x1 x2 x3 x4 x5 x6
    go_wp2_with fail
    refine (H4.out.coded E hE9).mono ?_
    rintro e5 w5 ⟨rfl, hb5⟩
    have H5 : Hid _ := hide (H4.out.below hb5)
    clear H4 hb5
    go_wp2
    go_ret
    exact ⟨rfl, HP.out _ H5.out⟩

set_option maxRecDepth 20000 in
set_option maxHeartbeats 4000000 in
/-- A peek. -/
theorem act_peek_ok (a : Nat → Addr) (B : World) (b : Nat) (p : RmPl) (s : Rm) (n m : Nat) (t g v old : Int) (w : World) (H : Two a B b p s s w) (ho : s.Ok) (hn : n < s.ar.size) (hm : m < 4) (hh : s.ar.has n g = true) (f : Bool) (hf : decide (0 ≤ t ∧ t < s.threads) = f) :
    Calls Tryd.prog 39 #[.pointer (some ⟨b, 0, none⟩), .pointer (some ⟨p.mb, 0, none⟩), .agg #[.string ⟨#[112, 101, 101, 107]⟩, .int .i64 t, .int .i64 n, .int .i64 g, .int .i64 m, .int .i64 v, .int .i64 old]] w fun e w' => e = .returned (.bool true) ∧ ActPost a B b p.mb s w' := by
  have H1 : Hid (Two a B b p s s (actW w ⟨#[112, 101, 101, 107]⟩ t n g m v old)) := H.alloc _
  have X := actX w ⟨#[112, 101, 101, 107]⟩ t n g m v old
  have hlw := H.m.lt
  have HNF : Hid (∀ j, p.fp s j → j ≠ w.heap.size) := fun j hj => Nat.ne_of_lt (H.o.fp_lt hj)
  have hat : s.ar.at n g m = 0 := Ar.at_ok hh (by omega)
  have h64 := H.m.ar.small
  have HL : Hid (∀ w', Two a B b p s s w' → Calls Tryd.prog 56 #[.pointer (some ⟨b, 0, none⟩), .agg #[.int .i64 n, .int .i64 g], .int .i64 m] w' fun e w'' => e = .returned (.tuple #[.int .i64 (s.ar.words n m), .nilIface]) ∧ Below w'.heap.size w' w'') := fun w' h => mpeek_ok a b s n m g w' h.e.env h.m (by omega) hh hm
  have HR : Hid (∀ w', Two a B b p s s w' → Calls Tryd.prog 28 #[.pointer (some ⟨p.mb, 0, none⟩), .agg #[.int .i64 n, .int .i64 g], .int .i64 m] w' fun e w'' => e = .returned (.int .i64 0) ∧ Below w'.heap.size w' w'') := fun w' h => by
    have := at_any p s n g m w' h.o
    rwa [hat] at this
  have ni : (n : Int) < s.ar.size := by omega
  have mi : (m : Int) < 4 := by omega
  have hcc := H.o.ccap
  have hwc := H.o.wcap n hn
  have HP : Hid (∀ w', Two a B b p s s w' → ActPost a B b p.mb s w') := fun w' h => ActPost.same h ho
  have HT : Hid (decide (0 ≤ t ∧ t < s.threads) = f) := hf
  clear H ho hh hat HNF hf
  generalize hw : actW w ⟨#[112, 101, 101, 107]⟩ t n g m v old = w1 at *
  obtain ⟨x0, x1, x2, x3, x4, x5, x6⟩ := X
  go_enter Tryd.func39, Tryd.ntmps39
  go_wp2_with fail
  refine (H1.out.thread t f HT.out).mono ?_
  rintro e0 w2 ⟨rfl, rfl⟩
  clear HT hw
  cases f
  all_goals
    go_wp2_with fail
    refine (HL.out _ H1.out).mono ?_
    rintro e1 w3 ⟨rfl, hb3⟩
    have H3 : Hid _ := hide (H1.out.below hb3)
    replace x0 := keep_cell hb3 x0
    replace x1 := keep_cell hb3 x1
    replace x2 := keep_cell hb3 x2
    replace x3 := keep_cell hb3 x3
    replace x4 := keep_cell hb3 x4
    replace x5 := keep_cell hb3 x5
    replace x6 := keep_cell hb3 x6
    clear HL H1 hb3
    go_wp2_with fail
    refine (HR.out _ H3.out).mono ?_
    rintro e2 w4 ⟨rfl, hb4⟩
    have H4 : Hid _ := hide (H3.out.below hb4)
    replace x0 := keep_cell hb4 x0
    replace x1 := keep_cell hb4 x1
    replace x2 := keep_cell hb4 x2
    replace x3 := keep_cell hb4 x3
    replace x4 := keep_cell hb4 x4
    replace x5 := keep_cell hb4 x5
    replace x6 := keep_cell hb4 x6
    have r0 := H4.out.o.mCells
    have r1 := H4.out.o.cWords n hn
    have r2 := H4.out.o.words n m hn hm
    clear HR H3 hb4
    go_wp2
    go_quiet (fail)
    have H5 : Hid (Two a B b p s s _) := hide (H4.out.below (Below.drewN' nq))
    go_wp2
    go_ret
    exact ⟨rfl, HP.out _ H5.out⟩

set_option maxRecDepth 20000 in
set_option maxHeartbeats 4000000 in
/-- A free by what is no thread. -/
theorem act_free_bad (a : Nat → Addr) (B : World) (b : Nat) (p : RmPl) (s : Rm) (t c g k v old : Int) (w : World) (H : Two a B b p s s w) (ho : s.Ok) (ht : ¬ (0 ≤ t ∧ t < s.threads)) :
    Calls Tryd.prog 39 #[.pointer (some ⟨b, 0, none⟩), .pointer (some ⟨p.mb, 0, none⟩), .agg #[.string ⟨#[102, 114, 101, 101]⟩, .int .i64 t, .int .i64 c, .int .i64 g, .int .i64 k, .int .i64 v, .int .i64 old]] w fun e w' => e = .returned (.bool true) ∧ ActPost a B b p.mb s w' := by
  have H1 : Hid (Two a B b p s s (actW w ⟨#[102, 114, 101, 101]⟩ t c g k v old)) := H.alloc _
  have X := actX w ⟨#[102, 114, 101, 101]⟩ t c g k v old
  have hlw := H.m.lt
  have HNF : Hid (∀ j, p.fp s j → j ≠ w.heap.size) := fun j hj => Nat.ne_of_lt (H.o.fp_lt hj)
  have HL : Hid (∀ w', Two a B b p s s w' → Calls Tryd.prog 59 #[.pointer (some ⟨b, 0, none⟩), .int .i64 t, .agg #[.int .i64 c, .int .i64 g]] w' fun e w'' => e = .returned (errVal a 2) ∧ Below w'.heap.size w' w'') := fun w' h => by
    have := mfree_err a b s t c g w' h.e.env h.m (by rw [Rm.may_no ht]; decide)
    rwa [Rm.may_no ht] at this
  have HP : Hid (∀ w', Two a B b p s s w' → ActPost a B b p.mb s w') := fun w' h => ActPost.same h ho
  have HT : Hid (decide (0 ≤ (t : Int) ∧ (t : Int) < s.threads) = false) := decide_eq_false ht
  clear H ho ht HNF
  generalize hw : actW w ⟨#[102, 114, 101, 101]⟩ t c g k v old = w1 at *
  obtain ⟨x0, x1, x2, x3, x4, x5, x6⟩ := X
  go_enter Tryd.func39, Tryd.ntmps39
  go_wp2_with fail
  refine (H1.out.thread t false HT.out).mono ?_
  rintro e0 w2 ⟨rfl, rfl⟩
  clear HT hw
  go_wp2_with fail
  refine (HL.out _ H1.out).mono ?_
  rintro e1 w3 ⟨rfl, hb3⟩
  have H3 : Hid _ := hide (H1.out.below hb3)
  clear HL H1 hb3 x0 x1 x2 x3 x4 x5 x6
  go_wp2_with fail
  refine (H3.out.coded 2 (by decide)).mono ?_
  rintro e4 w4 ⟨rfl, hb4⟩
  have H4 : Hid _ := hide (H3.out.below hb4)
  clear H3 hb4
  go_wp2
  go_ret
  exact ⟨rfl, HP.out _ H4.out⟩

set_option maxRecDepth 20000 in
set_option maxHeartbeats 4000000 in
/-- A free of what is no cell. -/
theorem act_free_err (a : Nat → Addr) (B : World) (b : Nat) (p : RmPl) (s : Rm) (i : Nat) (c g k v old : Int) (w : World) (H : Two a B b p s s w) (ho : s.Ok) (hi : i < s.threads) (he : s.ar.at c g 0 ≠ 0) :
    Calls Tryd.prog 39 #[.pointer (some ⟨b, 0, none⟩), .pointer (some ⟨p.mb, 0, none⟩), .agg #[.string ⟨#[102, 114, 101, 101]⟩, .int .i64 i, .int .i64 c, .int .i64 g, .int .i64 k, .int .i64 v, .int .i64 old]] w fun e w' => e = .returned (.bool true) ∧ ActPost a B b p.mb s w' := by
  have H1 : Hid (Two a B b p s s (actW w ⟨#[102, 114, 101, 101]⟩ i c g k v old)) := H.alloc _
  have X := actX w ⟨#[102, 114, 101, 101]⟩ i c g k v old
  have hlw := H.m.lt
  have HNF : Hid (∀ j, p.fp s j → j ≠ w.heap.size) := fun j hj => Nat.ne_of_lt (H.o.fp_lt hj)
  have hmy : s.may i c g 0 [] = s.ar.at c g 0 := by rw [Rm.may_yes hi, Ar.chk_nil]
  have HL : Hid (∀ w', Two a B b p s s w' → Calls Tryd.prog 59 #[.pointer (some ⟨b, 0, none⟩), .int .i64 i, .agg #[.int .i64 c, .int .i64 g]] w' fun e w'' => e = .returned (errVal a (s.ar.at c g 0)) ∧ Below w'.heap.size w' w'') := fun w' h => by
    have := mfree_err a b s i c g w' h.e.env h.m (by rw [hmy]; exact he)
    rwa [hmy] at this
  have HR : Hid (∀ w', Two a B b p s s w' → Calls Tryd.prog 28 #[.pointer (some ⟨p.mb, 0, none⟩), .agg #[.int .i64 c, .int .i64 g], .int .i64 0] w' fun e w'' => e = .returned (.int .i64 (s.ar.at c g 0)) ∧ Below w'.heap.size w' w'') := fun w' h => at_any p s c g 0 w' h.o
  have hE9 : s.ar.at c g 0 ≤ 9 := Nat.le_trans (Ar.at_le _ _ _ _) (by decide)
  have he0 : ((s.ar.at c g 0 : Nat) : Int) ≠ 0 := by omega
  generalize s.ar.at c g 0 = E at *
  have he1 : ((E : Int) == 0) = false := beq_eq_false_iff_ne.2 he0
  have HP : Hid (∀ w', Two a B b p s s w' → ActPost a B b p.mb s w') := fun w' h => ActPost.same h ho
  have HT : Hid (decide (0 ≤ (i : Int) ∧ (i : Int) < s.threads) = true) := decide_eq_true (by omega)
  clear H ho he hmy HNF he0
  generalize hw : actW w ⟨#[102, 114, 101, 101]⟩ i c g k v old = w1 at *
  obtain ⟨x0, x1, x2, x3, x4, x5, x6⟩ := X
  go_enter Tryd.func39, Tryd.ntmps39
  go_wp2_with fail
  refine (H1.out.thread i true HT.out).mono ?_
  rintro e0 w2 ⟨rfl, rfl⟩
  clear HT hw
  go_wp2_with fail
  refine (HL.out _ H1.out).mono ?_
  rintro e1 w3 ⟨rfl, hb3⟩
  have H3 : Hid _ := hide (H1.out.below hb3)
  replace x0 := keep_cell hb3 x0
  replace x1 := keep_cell hb3 x1
  replace x2 := keep_cell hb3 x2
  replace x3 := keep_cell hb3 x3
  replace x4 := keep_cell hb3 x4
  replace x5 := keep_cell hb3 x5
  replace x6 := keep_cell hb3 x6
  clear HL H1 hb3
  go_wp2_with fail
  refine (HR.out _ H3.out).mono ?_
  rintro e2 w4 ⟨rfl, hb4⟩
  have H4 : Hid _ := hide (H3.out.below hb4)
  clear HR H3 hb4 x0 x1 x2 x3 x4 x5 x6
  go_wp2_with fail
  refine (H4.out.coded E hE9).mono ?_
  rintro e5 w5 ⟨rfl, hb5⟩
  have H5 : Hid _ := hide (H4.out.below hb5)
  clear H4 hb5
  go_wp2
  go_ret
  exact ⟨rfl, HP.out _ H5.out⟩

set_option maxRecDepth 20000 in
set_option maxHeartbeats 4000000 in
/-- A free whose fence finds a cell gone. -/
theorem act_free_gone (a : Nat → Addr) (B : World) (b : Nat) (p : RmPl) (s : Rm) (i n : Nat) (g k v old : Int) (w : World) (H : Two a B b p s s w) (ho : s.Ok) (hi : i < s.threads) (hh : s.ar.has n g = true) (hg : 0 < s.gone i (s.waits i)) :
    Calls Tryd.prog 39 #[.pointer (some ⟨b, 0, none⟩), .pointer (some ⟨p.mb, 0, none⟩), .agg #[.string ⟨#[102, 114, 101, 101]⟩, .int .i64 i, .int .i64 n, .int .i64 g, .int .i64 k, .int .i64 v, .int .i64 old]] w fun e w' => e = .returned (.bool true) ∧ ActPost a B b p.mb s w' := by
  have H1 : Hid (Two a B b p s s (actW w ⟨#[102, 114, 101, 101]⟩ i n g k v old)) := H.alloc _
  have X := actX w ⟨#[102, 114, 101, 101]⟩ i n g k v old
  have hlw := H.m.lt
  have HNF : Hid (∀ j, p.fp s j → j ≠ w.heap.size) := fun j hj => Nat.ne_of_lt (H.o.fp_lt hj)
  have hl8 := (H.m.line i hi).le
  have hmy : s.may i n g 0 [] = 0 := by rw [Rm.may_yes hi, Ar.chk_nil, Ar.at_ok hh (by decide)]
  have h64 := H.m.ar.small
  have HA : Hid (∀ sm w', Two a B b p sm s w' → Calls Tryd.prog 28 #[.pointer (some ⟨p.mb, 0, none⟩), .agg #[.int .i64 n, .int .i64 g], .int .i64 0] w' fun e w'' => e = .returned (.int .i64 0) ∧ Below w'.heap.size w' w'') := fun _ w' h => by
    have := at_any p s n g 0 w' h.o
    rwa [Ar.at_ok hh (by decide)] at this
  have HR : Hid (∀ sm w', Two a B b p sm s w' → Calls Tryd.prog 54 #[.pointer (some ⟨p.mb, 0, none⟩), .int .i64 i] w' fun e w'' => e = .returned (.int .i64 (s.gone i (s.waits i))) ∧ ∃ p', RmStep p s w' p' (s.drainAll i (s.waits i)) w'') := fun _ w' h => rfence_any p s i w' h.o hi (few_ok ho hi) (by omega)
  have HL : Hid (∀ w', Two a B b p s s w' → Calls Tryd.prog 59 #[.pointer (some ⟨b, 0, none⟩), .int .i64 i, .agg #[.int .i64 n, .int .i64 g]] w' fun e w'' => e = .returned (errVal a 7) ∧ MmStep b w' (s.drainAll i (s.waits i)) w'') := fun w' h => mfree_gone a _ b s i n g w' h.e h.hB h.m hi (ho i hi) hmy hg
  have HP : Hid (∀ p' w', p'.mb = p.mb → Two a B b p' (s.drainAll i (s.waits i)) (s.drainAll i (s.waits i)) w' → ActPost a B b p.mb s w') := fun p' w' hmb h => drainAll_post i ho hmb h
  have hgi : (0 : Int) < (s.gone i (s.waits i) : Nat) := by omega
  generalize s.drainAll i (s.waits i) = s' at *
  generalize s.gone i (s.waits i) = N at *
  have HT : Hid (decide (0 ≤ (i : Int) ∧ (i : Int) < s.threads) = true) := decide_eq_true (by omega)
  clear H ho hl8 hg hh hmy h64
  generalize hw : actW w ⟨#[102, 114, 101, 101]⟩ i n g k v old = w1 at *
  obtain ⟨x0, x1, x2, x3, x4, x5, x6⟩ := X
  go_enter Tryd.func39, Tryd.ntmps39
  go_wp2_with fail
  refine (H1.out.thread i true HT.out).mono ?_
  rintro e0 w2 ⟨rfl, rfl⟩
  clear HT hw
  go_wp2_with fail
  refine (HL.out _ H1.out).mono ?_
  rintro e1 w3 ⟨rfl, hb3⟩
  have H3 : Hid _ := hide (H1.out.mstep hb3)
  replace hb3 := hb3.turns
  replace x0 := hb3.keep x0 (by omega)
  replace x1 := hb3.keep x1 (by omega)
  replace x2 := hb3.keep x2 (by omega)
  replace x3 := hb3.keep x3 (by omega)
  replace x4 := hb3.keep x4 (by omega)
  replace x5 := hb3.keep x5 (by omega)
  replace x6 := hb3.keep x6 (by omega)
  clear HL H1 hb3
  go_wp2_with fail
  refine (HA.out _ _ H3.out).mono ?_
  rintro e2 w4 ⟨rfl, hb4⟩
  have H4 : Hid _ := hide (H3.out.below hb4)
  replace x0 := keep_cell hb4 x0
  replace x1 := keep_cell hb4 x1
  replace x2 := keep_cell hb4 x2
  replace x3 := keep_cell hb4 x3
  replace x4 := keep_cell hb4 x4
  replace x5 := keep_cell hb4 x5
  replace x6 := keep_cell hb4 x6
  clear HA H3 hb4
  go_wp2_with fail
  refine (HR.out _ _ H4.out).mono ?_
  rintro e3 w5 ⟨rfl, p', hb5⟩
  have H5 : Hid _ := hide (H4.out.ostep hb5)
  have HM := hide hb5.mb
  clear HR H4 hb5 HNF x0 x1 x2 x3 x4 x5 x6
  go_wp2_with fail
  refine (H5.out.coded 7 (by decide)).mono ?_
  rintro e6 w6 ⟨rfl, hb6⟩
  have H6 : Hid _ := hide (H5.out.below hb6)
  clear H5 hb6
  go_wp2
  go_ret
  exact ⟨rfl, HP.out _ _ HM.out H6.out⟩

theorem Rm.setThere_ar (s : Rm) (n : Nat) (f : Bool) : (s.setThere n f).ar.given = s.ar.given ∧ (s.setThere n f).ar.size = s.ar.size := ⟨rfl, rfl⟩

set_option maxRecDepth 20000 in
set_option maxHeartbeats 4000000 in
/-- A free. -/
theorem act_free_ok (a : Nat → Addr) (B : World) (b : Nat) (p : RmPl) (s : Rm) (i n : Nat) (g k v old : Int) (w : World) (H : Two a B b p s s w) (ho : s.Ok) (hi : i < s.threads) (hn : n < s.ar.size) (hh : s.ar.has n g = true) (hg : ¬ 0 < s.gone i (s.waits i)) :
    Calls Tryd.prog 39 #[.pointer (some ⟨b, 0, none⟩), .pointer (some ⟨p.mb, 0, none⟩), .agg #[.string ⟨#[102, 114, 101, 101]⟩, .int .i64 i, .int .i64 n, .int .i64 g, .int .i64 k, .int .i64 v, .int .i64 old]] w fun e w' => e = .returned (.bool true) ∧ ActPost a B b p.mb s w' := by
  have H1 : Hid (Two a B b p s s (actW w ⟨#[102, 114, 101, 101]⟩ i n g k v old)) := H.alloc _
  have X := actX w ⟨#[102, 114, 101, 101]⟩ i n g k v old
  have hlw := H.m.lt
  have HNF : Hid (∀ j, p.fp s j → j ≠ w.heap.size) := fun j hj => Nat.ne_of_lt (H.o.fp_lt hj)
  have hl8 := (H.m.line i hi).le
  have hmy : s.may i n g 0 [] = 0 := by rw [Rm.may_yes hi, Ar.chk_nil, Ar.at_ok hh (by decide)]
  have h64 := H.m.ar.small
  have HA : Hid (∀ sm w', Two a B b p sm s w' → Calls Tryd.prog 28 #[.pointer (some ⟨p.mb, 0, none⟩), .agg #[.int .i64 n, .int .i64 g], .int .i64 0] w' fun e w'' => e = .returned (.int .i64 0) ∧ Below w'.heap.size w' w'') := fun _ w' h => by
    have := at_any p s n g 0 w' h.o
    rwa [Ar.at_ok hh (by decide)] at this
  have HR : Hid (∀ sm w', Two a B b p sm s w' → Calls Tryd.prog 54 #[.pointer (some ⟨p.mb, 0, none⟩), .int .i64 i] w' fun e w'' => e = .returned (.int .i64 (s.gone i (s.waits i))) ∧ ∃ p', RmStep p s w' p' (s.drainAll i (s.waits i)) w'') := fun _ w' h => rfence_any p s i w' h.o hi (few_ok ho hi) (by omega)
  have HL : Hid (∀ w', Two a B b p s s w' → Calls Tryd.prog 59 #[.pointer (some ⟨b, 0, none⟩), .int .i64 i, .agg #[.int .i64 n, .int .i64 g]] w' fun e w'' => e = .returned (errVal a 0) ∧ MmStep b w' ((s.drainAll i (s.waits i)).setThere n false) w'') := fun w' h => mfree_ok a _ b s i n g w' h.e h.hB h.m hi (ho i hi) (by omega) hh hg
  have HP : Hid (∀ p' w', p'.mb = p.mb → Two a B b p' ((s.drainAll i (s.waits i)).setThere n false) ((s.drainAll i (s.waits i)).setThere n false) w' → ActPost a B b p.mb s w') := fun p' w' hmb h => by
    obtain ⟨k1, k2, k3, k4⟩ := s.drainAll_ar (s.waits i) i
    exact ⟨p', (s.drainAll i (s.waits i)).setThere n false, hmb, k4, k1, fun c => by show (s.drainAll i (s.waits i)).ar.given c ≤ _; rw [k3]; exact Nat.le_succ _, ho.drainAll i, h⟩
  have hg0 : s.gone i (s.waits i) = 0 := by omega
  have hn' : n < (s.drainAll i (s.waits i)).ar.size := by rw [(s.drainAll_ar (s.waits i) i).1]; exact hn
  have ni : (n : Int) < (s.drainAll i (s.waits i)).ar.size := by omega
  rw [hg0] at HR
  generalize s.drainAll i (s.waits i) = s' at *
  have HT : Hid (decide (0 ≤ (i : Int) ∧ (i : Int) < s.threads) = true) := decide_eq_true (by omega)
  clear H ho hl8 hg hh hmy h64 hg0
  generalize hw : actW w ⟨#[102, 114, 101, 101]⟩ i n g k v old = w1 at *
  obtain ⟨x0, x1, x2, x3, x4, x5, x6⟩ := X
  go_enter Tryd.func39, Tryd.ntmps39
  go_wp2_with fail
  refine (H1.out.thread i true HT.out).mono ?_
  rintro e0 w2 ⟨rfl, rfl⟩
  clear HT hw
  go_wp2_with fail
  refine (HL.out _ H1.out).mono ?_
  rintro e1 w3 ⟨rfl, hb3⟩
  have H3 : Hid _ := hide (H1.out.mstep hb3)
  replace hb3 := hb3.turns
  replace x0 := hb3.keep x0 (by omega)
  replace x1 := hb3.keep x1 (by omega)
  replace x2 := hb3.keep x2 (by omega)
  replace x3 := hb3.keep x3 (by omega)
  replace x4 := hb3.keep x4 (by omega)
  replace x5 := hb3.keep x5 (by omega)
  replace x6 := hb3.keep x6 (by omega)
  clear HL H1 hb3
  go_wp2_with fail
  refine (HA.out _ _ H3.out).mono ?_
  rintro e2 w4 ⟨rfl, hb4⟩
  have H4 : Hid _ := hide (H3.out.below hb4)
  replace x0 := keep_cell hb4 x0
  replace x1 := keep_cell hb4 x1
  replace x2 := keep_cell hb4 x2
  replace x3 := keep_cell hb4 x3
  replace x4 := keep_cell hb4 x4
  replace x5 := keep_cell hb4 x5
  replace x6 := keep_cell hb4 x6
  clear HA H3 hb4
  go_wp2_with fail
  refine (HR.out _ _ H4.out).mono ?_
  rintro e3 w5 ⟨rfl, p', hb5⟩
  have H5 : Hid _ := hide (H4.out.ostep hb5)
  have HM := hide hb5.mb
  replace hb5 := hb5.turns
  replace x0 := hb5.keep x0 (fun e => HNF.out _ e rfl)
  replace x1 := hb5.keep x1 (fun e => HNF.out _ e rfl)
  replace x2 := hb5.keep x2 (fun e => HNF.out _ e rfl)
  replace x3 := hb5.keep x3 (fun e => HNF.out _ e rfl)
  replace x4 := hb5.keep x4 (fun e => HNF.out _ e rfl)
  replace x5 := hb5.keep x5 (fun e => HNF.out _ e rfl)
  replace x6 := hb5.keep x6 (fun e => HNF.out _ e rfl)
  have r0 := H5.out.o.mCells
  have r1 := H5.out.o.cHere n hn'
  have r2 := H5.out.o.fc (n * 3 + 2)
  have hcc := H5.out.o.ccap
  have ni' : (n : Int) < s'.ar.size := ni
  clear HR H4 hb5 HNF
  rw [HM.out] at r0
  go_wp2
  go_region
  have H6 : Hid (Two a B b p' (s'.setThere n false) (s'.setThere n false) (w5.setCell ⟨p'.cb, n * 3 + 2, none⟩ (.bool false)).drew) := hide ((H5.out.ostep (RmStep.setThere H5.out.o n hn' false)).below (Below.refl _ _).drew)
  clear r0 r1 r2 H5 x0 x1 x2 x3 x4 x5 x6
  go_wp2_with fail
  refine (H6.out.coded 0 (by decide)).mono ?_
  rintro e7 w7 ⟨rfl, hb7⟩
  have H7 : Hid _ := hide (H6.out.below hb7)
  clear H6 hb7
  go_wp2
  go_ret
  exact ⟨rfl, HP.out _ _ HM.out H7.out⟩

end Go.Proofs.YtcnemlamlchnkaaDoor
