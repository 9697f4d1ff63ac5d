/- memoryAct: the kinds fence, alloc. -/
import Derived.Test.YtcnemlamlchnkaaDoorMactB
namespace Go.Proofs.YtcnemlamlchnkaaDoor
open Go.RowKit Go.Extern.Stop Go.Stop Go.Extern Go.Sort

theorem few_ok {s : Rm} {i : Nat} (ho : s.Ok) (hi : i < s.threads) : ∀ x ∈ s.waits i, 0 ≤ x.w ∧ x.w < 4 := fun x hx => (ho i hi x hx).1

theorem drainAll_post {a : Nat → Addr} {B : World} {b : Nat} {p p' : RmPl} {s : Rm} {w' : World} (i : Nat) (ho : s.Ok) (hmb : p'.mb = p.mb) (h : Two a B b p' (s.drainAll i (s.waits i)) (s.drainAll i (s.waits i)) w') : ActPost a B b p.mb s w' := by
  obtain ⟨k1, k2, k3, k4⟩ := s.drainAll_ar (s.waits i) i
  exact ⟨p', s.drainAll i (s.waits i), hmb, k4, k1, fun c => by rw [k3]; exact Nat.le_succ _, ho.drainAll i, h⟩

set_option maxRecDepth 20000 in
set_option maxHeartbeats 4000000 in
/-- A fence of what is no thread. -/
theorem act_fence_bad (a : Nat → Addr) (B : World) (b : Nat) (p : RmPl) (s : Rm) (t c g k v old : Int) (w : World) (H : Two a B b p s s w) (ho : s.Ok) (ht : ¬ (0 ≤ t ∧ t < s.threads)) :
    Calls Tryd.prog 39 #[.pointer (some ⟨b, 0, none⟩), .pointer (some ⟨p.mb, 0, none⟩), .agg #[.string ⟨#[102, 101, 110, 99, 101]⟩, .int .i64 t, .int .i64 c, .int .i64 g, .int .i64 k, .int .i64 v, .int .i64 old]] w fun e w' => e = .returned (.bool true) ∧ ActPost a B b p.mb s w' := by
  have H1 : Hid (Two a B b p s s (actW w ⟨#[102, 101, 110, 99, 101]⟩ t c g k v old)) := H.alloc _
  have X := actX w ⟨#[102, 101, 110, 99, 101]⟩ t c g k v old
  have hlw := H.m.lt
  have HNF : Hid (∀ j, p.fp s j → j ≠ w.heap.size) := fun j hj => Nat.ne_of_lt (H.o.fp_lt hj)
  have HL : Hid (∀ w', Two a B b p s s w' → Calls Tryd.prog 38 #[.pointer (some ⟨b, 0, none⟩), .int .i64 t] w' fun e w'' => e = .returned (errVal a 2) ∧ w'' = w') := fun w' h => mfence_no a b s t w' h.e.env h.m ht
  have HP : Hid (∀ w', Two a B b p s s w' → ActPost a B b p.mb s w') := fun w' h => ActPost.same h ho
  have HT : Hid (decide (0 ≤ (t : Int) ∧ (t : Int) < s.threads) = false) := decide_eq_false ht
  clear H ho ht HNF
  generalize hw : actW w ⟨#[102, 101, 110, 99, 101]⟩ t c g k v old = w1 at *
  obtain ⟨x0, x1, x2, x3, x4, x5, x6⟩ := X
  go_enter Tryd.func39, Tryd.ntmps39
  go_wp2_with fail
  refine (H1.out.thread t false HT.out).mono ?_
  rintro e0 w2 ⟨rfl, rfl⟩
  clear HT hw
  go_wp2_with fail
  refine (HL.out _ H1.out).mono ?_
  rintro e1 w3 ⟨rfl, rfl⟩
  have H3 : Hid _ := H1
  clear HL H1 x0 x1 x2 x3 x4 x5 x6
  go_wp2_with fail
  refine (H3.out.coded 2 (by decide)).mono ?_
  rintro e4 w4 ⟨rfl, hb4⟩
  have H4 : Hid _ := hide (H3.out.below hb4)
  clear H3 hb4
  go_wp2
  go_ret
  exact ⟨rfl, HP.out _ H4.out⟩

set_option maxRecDepth 20000 in
set_option maxHeartbeats 4000000 in
/-- A fence where a store's cell is gone. -/
theorem act_fence_gone (a : Nat → Addr) (B : World) (b : Nat) (p : RmPl) (s : Rm) (i : Nat) (c g k v old : Int) (w : World) (H : Two a B b p s s w) (ho : s.Ok) (hi : i < s.threads) (hg : 0 < s.gone i (s.waits i)) :
    Calls Tryd.prog 39 #[.pointer (some ⟨b, 0, none⟩), .pointer (some ⟨p.mb, 0, none⟩), .agg #[.string ⟨#[102, 101, 110, 99, 101]⟩, .int .i64 i, .int .i64 c, .int .i64 g, .int .i64 k, .int .i64 v, .int .i64 old]] w fun e w' => e = .returned (.bool true) ∧ ActPost a B b p.mb s w' := by
  have H1 : Hid (Two a B b p s s (actW w ⟨#[102, 101, 110, 99, 101]⟩ i c g k v old)) := H.alloc _
  have X := actX w ⟨#[102, 101, 110, 99, 101]⟩ i c g k v old
  have hlw := H.m.lt
  have HNF : Hid (∀ j, p.fp s j → j ≠ w.heap.size) := fun j hj => Nat.ne_of_lt (H.o.fp_lt hj)
  have hl8 := (H.m.line i hi).le
  have HL : Hid (∀ w', Two a B b p s s w' → Calls Tryd.prog 38 #[.pointer (some ⟨b, 0, none⟩), .int .i64 i] w' fun e w'' => e = .returned (errVal a 7) ∧ MmStep b w' (s.drainAll i (s.waits i)) w'') := fun w' h => by
    have := mfence_any a _ b s i w' h.e h.hB h.m hi (ho i hi)
    rw [decide_eq_true hg] at this
    exact this
  have HR : Hid (∀ sm w', Two a B b p sm s w' → Calls Tryd.prog 54 #[.pointer (some ⟨p.mb, 0, none⟩), .int .i64 i] w' fun e w'' => e = .returned (.int .i64 (s.gone i (s.waits i))) ∧ ∃ p', RmStep p s w' p' (s.drainAll i (s.waits i)) w'') := fun _ w' h => rfence_any p s i w' h.o hi (few_ok ho hi) (by omega)
  have HP : Hid (∀ p' w', p'.mb = p.mb → Two a B b p' (s.drainAll i (s.waits i)) (s.drainAll i (s.waits i)) w' → ActPost a B b p.mb s w') := fun p' w' hmb h => drainAll_post i ho hmb h
  have hgi : (0 : Int) < (s.gone i (s.waits i) : Nat) := by omega
  generalize s.drainAll i (s.waits i) = s' at *
  generalize s.gone i (s.waits i) = N at *
  have HT : Hid (decide (0 ≤ (i : Int) ∧ (i : Int) < s.threads) = true) := decide_eq_true (by omega)
  clear H ho hl8 hg
  generalize hw : actW w ⟨#[102, 101, 110, 99, 101]⟩ i c g k v old = w1 at *
  obtain ⟨x0, x1, x2, x3, x4, x5, x6⟩ := X
  go_enter Tryd.func39, Tryd.ntmps39
  go_wp2_with fail
  refine (H1.out.thread i true HT.out).mono ?_
  rintro e0 w2 ⟨rfl, rfl⟩
  clear HT hw
  go_wp2_with fail
  refine (HL.out _ H1.out).mono ?_
  rintro e1 w3 ⟨rfl, hb3⟩
  have H3 : Hid _ := hide (H1.out.mstep hb3)
  replace hb3 := hb3.turns
  replace x0 := hb3.keep x0 (by omega)
  replace x1 := hb3.keep x1 (by omega)
  replace x2 := hb3.keep x2 (by omega)
  replace x3 := hb3.keep x3 (by omega)
  replace x4 := hb3.keep x4 (by omega)
  replace x5 := hb3.keep x5 (by omega)
  replace x6 := hb3.keep x6 (by omega)
  clear HL H1 hb3
  go_wp2_with fail
  refine (HR.out _ _ H3.out).mono ?_
  rintro e2 w4 ⟨rfl, p', hb4⟩
  have H4 : Hid _ := hide (H3.out.ostep hb4)
  have HM := hide hb4.mb
  clear HR H3 hb4 HNF x0 x1 x2 x3 x4 x5 x6
  go_wp2_with fail
  refine (H4.out.coded 7 (by decide)).mono ?_
  rintro e5 w5 ⟨rfl, hb5⟩
  have H5 : Hid _ := hide (H4.out.below hb5)
  clear H4 hb5
  go_wp2
  go_ret
  exact ⟨rfl, HP.out _ _ HM.out H5.out⟩

set_option maxRecDepth 20000 in
set_option maxHeartbeats 4000000 in
/-- A fence. -/
theorem act_fence_ok (a : Nat → Addr) (B : World) (b : Nat) (p : RmPl) (s : Rm) (i : Nat) (c g k v old : Int) (w : World) (H : Two a B b p s s w) (ho : s.Ok) (hi : i < s.threads) (hg : ¬ 0 < s.gone i (s.waits i)) :
    Calls Tryd.prog 39 #[.pointer (some ⟨b, 0, none⟩), .pointer (some ⟨p.mb, 0, none⟩), .agg #[.string ⟨#[102, 101, 110, 99, 101]⟩, .int .i64 i, .int .i64 c, .int .i64 g, .int .i64 k, .int .i64 v, .int .i64 old]] w fun e w' => e = .returned (.bool true) ∧ ActPost a B b p.mb s w' := by
  have H1 : Hid (Two a B b p s s (actW w ⟨#[102, 101, 110, 99, 101]⟩ i c g k v old)) := H.alloc _
  have X := actX w ⟨#[102, 101, 110, 99, 101]⟩ i c g k v old
  have hlw := H.m.lt
  have HNF : Hid (∀ j, p.fp s j → j ≠ w.heap.size) := fun j hj => Nat.ne_of_lt (H.o.fp_lt hj)
  have hl8 := (H.m.line i hi).le
  have HL : Hid (∀ w', Two a B b p s s w' → Calls Tryd.prog 38 #[.pointer (some ⟨b, 0, none⟩), .int .i64 i] w' fun e w'' => e = .returned (errVal a 0) ∧ MmStep b w' (s.drainAll i (s.waits i)) w'') := fun w' h => by
    have := mfence_any a _ b s i w' h.e h.hB h.m hi (ho i hi)
    rw [decide_eq_false hg] at this
    exact this
  have HR : Hid (∀ sm w', Two a B b p sm s w' → Calls Tryd.prog 54 #[.pointer (some ⟨p.mb, 0, none⟩), .int .i64 i] w' fun e w'' => e = .returned (.int .i64 (s.gone i (s.waits i))) ∧ ∃ p', RmStep p s w' p' (s.drainAll i (s.waits i)) w'') := fun _ w' h => rfence_any p s i w' h.o hi (few_ok ho hi) (by omega)
  have HP : Hid (∀ p' w', p'.mb = p.mb → Two a B b p' (s.drainAll i (s.waits i)) (s.drainAll i (s.waits i)) w' → ActPost a B b p.mb s w') := fun p' w' hmb h => drainAll_post i ho hmb h
  have hg0 : s.gone i (s.waits i) = 0 := by omega
  rw [hg0] at HR
  generalize s.drainAll i (s.waits i) = s' at *
  have HT : Hid (decide (0 ≤ (i : Int) ∧ (i : Int) < s.threads) = true) := decide_eq_true (by omega)
  clear H ho hl8 hg0 hg
  generalize hw : actW w ⟨#[102, 101, 110, 99, 101]⟩ i c g k v old = w1 at *
  obtain ⟨x0, x1, x2, x3, x4, x5, x6⟩ := X
  go_enter Tryd.func39, Tryd.ntmps39
  go_wp2_with fail
  refine (H1.out.thread i true HT.out).mono ?_
  rintro e0 w2 ⟨rfl, rfl⟩
  clear HT hw
  go_wp2_with fail
  refine (HL.out _ H1.out).mono ?_
  rintro e1 w3 ⟨rfl, hb3⟩
  have H3 : Hid _ := hide (H1.out.mstep hb3)
  replace hb3 := hb3.turns
  replace x0 := hb3.keep x0 (by omega)
  replace x1 := hb3.keep x1 (by omega)
  replace x2 := hb3.keep x2 (by omega)
  replace x3 := hb3.keep x3 (by omega)
  replace x4 := hb3.keep x4 (by omega)
  replace x5 := hb3.keep x5 (by omega)
  replace x6 := hb3.keep x6 (by omega)
  clear HL H1 hb3
  go_wp2_with fail
  refine (HR.out _ _ H3.out).mono ?_
  rintro e2 w4 ⟨rfl, p', hb4⟩
  have H4 : Hid _ := hide (H3.out.ostep hb4)
  have HM := hide hb4.mb
  clear HR H3 hb4 HNF x0 x1 x2 x3 x4 x5 x6
  go_wp2_with fail
  refine (H4.out.coded 0 (by decide)).mono ?_
  rintro e5 w5 ⟨rfl, hb5⟩
  have H5 : Hid _ := hide (H4.out.below hb5)
  clear H4 hb5
  go_wp2
  go_ret
  exact ⟨rfl, HP.out _ _ HM.out H5.out⟩

set_option maxRecDepth 20000 in
set_option maxHeartbeats 4000000 in
/-- An alloc by what is no thread. -/
theorem act_alloc_bad (a : Nat → Addr) (B : World) (b : Nat) (p : RmPl) (s : Rm) (t c g k v old : Int) (w : World) (H : Two a B b p s s w) (ho : s.Ok) (ht : ¬ (0 ≤ t ∧ t < s.threads)) :
    Calls Tryd.prog 39 #[.pointer (some ⟨b, 0, none⟩), .pointer (some ⟨p.mb, 0, none⟩), .agg #[.string ⟨#[97, 108, 108, 111, 99]⟩, .int .i64 t, .int .i64 c, .int .i64 g, .int .i64 k, .int .i64 v, .int .i64 old]] w fun e w' => e = .returned (.bool true) ∧ ActPost a B b p.mb s w' := by
  have H1 : Hid (Two a B b p s s (actW w ⟨#[97, 108, 108, 111, 99]⟩ t c g k v old)) := H.alloc _
  have X := actX w ⟨#[97, 108, 108, 111, 99]⟩ t c g k v old
  have hlw := H.m.lt
  have HNF : Hid (∀ j, p.fp s j → j ≠ w.heap.size) := fun j hj => Nat.ne_of_lt (H.o.fp_lt hj)
  have HL : Hid (∀ w', Two a B b p s s w' → Calls Tryd.prog 33 #[.pointer (some ⟨b, 0, none⟩), .int .i64 t] w' fun e w'' => e = .returned (.tuple #[.agg #[.int .i64 0, .int .i64 0], errVal a 2]) ∧ Below w'.heap.size w' w'') := fun w' h => malloc_no a b s t w' h.e.env h.m ht
  have HP : Hid (∀ w', Two a B b p s s w' → ActPost a B b p.mb s w') := fun w' h => ActPost.same h ho
  have HT : Hid (decide (0 ≤ (t : Int) ∧ (t : Int) < s.threads) = false) := decide_eq_false ht
  clear H ho ht HNF
  generalize hw : actW w ⟨#[97, 108, 108, 111, 99]⟩ t c g k v old = w1 at *
  obtain ⟨x0, x1, x2, x3, x4, x5, x6⟩ := X
  go_enter Tryd.func39, Tryd.ntmps39
  go_wp2_with fail
  refine (H1.out.thread t false HT.out).mono ?_
  rintro e0 w2 ⟨rfl, rfl⟩
  clear HT hw
  go_wp2_with fail
  refine (HL.out _ H1.out).mono ?_
  rintro e1 w3 ⟨rfl, hb3⟩
  have H3 : Hid (Two a B b p s s (w3.alloc (.cells #[.int .i64 0, .int .i64 0] 36))) := hide ((H1.out.below hb3).alloc _)
  have y0 : (w3.alloc (.cells #[.int .i64 0, .int .i64 0] 36)).cell? ⟨w3.heap.size, 0, none⟩ = some (.int .i64 0) := by simp
  have y1 : (w3.alloc (.cells #[.int .i64 0, .int .i64 0] 36)).cell? ⟨w3.heap.size, 1, none⟩ = some (.int .i64 0) := by simp
  clear HL H1 hb3 x0 x1 x2 x3 x4 x5 x6
  go_wp2_with fail
  refine (H3.out.coded 2 (by decide)).mono ?_
  rintro e4 w4 ⟨rfl, hb4⟩
  have H4 : Hid _ := hide (H3.out.below hb4)
  replace y0 := keep_cell hb4 y0
  replace y1 := keep_cell hb4 y1
  clear H3 hb4
  go_wp2
  go_ret
  exact ⟨rfl, HP.out _ H4.out⟩

set_option maxRecDepth 20000 in
set_option maxHeartbeats 4000000 in
/-- An alloc where no cell is free. -/
theorem act_alloc_full (a : Nat → Addr) (B : World) (b : Nat) (p : RmPl) (s : Rm) (i : Nat) (c g k v old : Int) (w : World) (H : Two a B b p s s w) (ho : s.Ok) (hi : i < s.threads) (hf : ∀ j, j < s.ar.size → s.ar.there j = true) :
    Calls Tryd.prog 39 #[.pointer (some ⟨b, 0, none⟩), .pointer (some ⟨p.mb, 0, none⟩), .agg #[.string ⟨#[97, 108, 108, 111, 99]⟩, .int .i64 i, .int .i64 c, .int .i64 g, .int .i64 k, .int .i64 v, .int .i64 old]] w fun e w' => e = .returned (.bool true) ∧ ActPost a B b p.mb s w' := by
  have H1 : Hid (Two a B b p s s (actW w ⟨#[97, 108, 108, 111, 99]⟩ i c g k v old)) := H.alloc _
  have X := actX w ⟨#[97, 108, 108, 111, 99]⟩ i c g k v old
  have hlw := H.m.lt
  have HNF : Hid (∀ j, p.fp s j → j ≠ w.heap.size) := fun j hj => Nat.ne_of_lt (H.o.fp_lt hj)
  have HL : Hid (∀ w', Two a B b p s s w' → Calls Tryd.prog 33 #[.pointer (some ⟨b, 0, none⟩), .int .i64 i] w' fun e w'' => e = .returned (.tuple #[.agg #[.int .i64 0, .int .i64 0], errVal a 6]) ∧ Below w'.heap.size w' w'') := fun w' h => malloc_full a b s i w' h.e.env h.m hi hf
  have HR : Hid (∀ w', Two a B b p s s w' → Calls Tryd.prog 25 #[.pointer (some ⟨p.mb, 0, none⟩)] w' fun e w'' => e = .returned (.tuple #[.agg #[.int .i64 0, .int .i64 0], .int .i64 6]) ∧ Below w'.heap.size w' w'') := fun w' h => ralloc_full p s w' h.o hf
  have HP : Hid (∀ w', Two a B b p s s w' → ActPost a B b p.mb s w') := fun w' h => ActPost.same h ho
  have HT : Hid (decide (0 ≤ (i : Int) ∧ (i : Int) < s.threads) = true) := decide_eq_true (by omega)
  clear H ho hf HNF
  generalize hw : actW w ⟨#[97, 108, 108, 111, 99]⟩ i c g k v old = w1 at *
  obtain ⟨x0, x1, x2, x3, x4, x5, x6⟩ := X
  go_enter Tryd.func39, Tryd.ntmps39
  go_wp2_with fail
  refine (H1.out.thread i true HT.out).mono ?_
  rintro e0 w2 ⟨rfl, rfl⟩
  clear HT hw
  go_wp2_with fail
  refine (HL.out _ H1.out).mono ?_
  rintro e1 w3 ⟨rfl, hb3⟩
  have H3 : Hid (Two a B b p s s (w3.alloc (.cells #[.int .i64 0, .int .i64 0] 36))) := hide ((H1.out.below hb3).alloc _)
  have y0 : (w3.alloc (.cells #[.int .i64 0, .int .i64 0] 36)).cell? ⟨w3.heap.size, 0, none⟩ = some (.int .i64 0) := by simp
  have y1 : (w3.alloc (.cells #[.int .i64 0, .int .i64 0] 36)).cell? ⟨w3.heap.size, 1, none⟩ = some (.int .i64 0) := by simp
  clear HL H1 hb3 x0 x1 x2 x3 x4 x5 x6
  go_wp2_with fail
  refine (HR.out _ H3.out).mono ?_
  rintro e2 w4 ⟨rfl, hb4⟩
  have H4 : Hid (Two a B b p s s (w4.alloc (.cells #[.int .i64 0, .int .i64 0] 36))) := hide ((H3.out.below hb4).alloc _)
  replace y0 := cell_new (o := (.cells #[.int .i64 0, .int .i64 0] 36)) (keep_cell hb4 y0)
  replace y1 := cell_new (o := (.cells #[.int .i64 0, .int .i64 0] 36)) (keep_cell hb4 y1)
  have z0 : (w4.alloc (.cells #[.int .i64 0, .int .i64 0] 36)).cell? ⟨w4.heap.size, 0, none⟩ = some (.int .i64 0) := by simp
  have z1 : (w4.alloc (.cells #[.int .i64 0, .int .i64 0] 36)).cell? ⟨w4.heap.size, 1, none⟩ = some (.int .i64 0) := by simp
  clear HR H3 hb4
  go_wp2_with fail
  refine (H4.out.coded 6 (by decide)).mono ?_
  rintro e5 w5 ⟨rfl, hb5⟩
  have H5 : Hid _ := hide (H4.out.below hb5)
  replace y0 := keep_cell hb5 y0
  replace y1 := keep_cell hb5 y1
  replace z0 := keep_cell hb5 z0
  replace z1 := keep_cell hb5 z1
  clear H4 hb5
  go_wp2
  go_ret
  exact ⟨rfl, HP.out _ H5.out⟩

theorem Ok.give {s : Rm} (h : s.Ok) (j : Nat) : (s.give j).Ok := h

set_option maxRecDepth 20000 in
set_option maxHeartbeats 4000000 in
/-- An alloc. -/
theorem act_alloc_some (a : Nat → Addr) (B : World) (b : Nat) (p : RmPl) (s : Rm) (i : Nat) (c g k v old : Int) (w : World) (H : Two a B b p s s w) (ho : s.Ok) (hgv : ∀ c, s.ar.given c ≤ 1000) (hi : i < s.threads) (j : Nat) (hj : j < s.ar.size) (hf : ∀ u, u < j → s.ar.there u = true) (hth : s.ar.there j = false) :
    Calls Tryd.prog 39 #[.pointer (some ⟨b, 0, none⟩), .pointer (some ⟨p.mb, 0, none⟩), .agg #[.string ⟨#[97, 108, 108, 111, 99]⟩, .int .i64 i, .int .i64 c, .int .i64 g, .int .i64 k, .int .i64 v, .int .i64 old]] w fun e w' => e = .returned (.bool true) ∧ ActPost a B b p.mb s w' := by
  have H1 : Hid (Two a B b p s s (actW w ⟨#[97, 108, 108, 111, 99]⟩ i c g k v old)) := H.alloc _
  have X := actX w ⟨#[97, 108, 108, 111, 99]⟩ i c g k v old
  have hlw := H.m.lt
  have HNF : Hid (∀ j, p.fp s j → j ≠ w.heap.size) := fun j hj => Nat.ne_of_lt (H.o.fp_lt hj)
  have hg : s.ar.given j + 1 < 4611686018427387904 := by have := hgv j; omega
  have HL : Hid (∀ w', Two a B b p s s w' → Calls Tryd.prog 33 #[.pointer (some ⟨b, 0, none⟩), .int .i64 i] w' fun e w'' => e = .returned (.tuple #[.agg #[.int .i64 j, .int .i64 (s.ar.given j)], errVal a 0]) ∧ MmStep b w' (s.give j) w'') := fun w' h => malloc_some b s i j w' h.m hi hj hf hth hg
  have HR : Hid (∀ sm w', Two a B b p sm s w' → Calls Tryd.prog 25 #[.pointer (some ⟨p.mb, 0, none⟩)] w' fun e w'' => e = .returned (.tuple #[.agg #[.int .i64 j, .int .i64 (s.ar.given j)], .int .i64 0]) ∧ ∃ p', RmStep p s w' p' (s.give j) w'') := fun _ w' h => ralloc_step p s j w' h.o hj hf hth hg
  have HP : Hid (∀ p' w', p'.mb = p.mb → Two a B b p' (s.give j) (s.give j) w' → ActPost a B b p.mb s w') := fun p' w' hmb h =>
    ⟨p', s.give j, hmb, rfl, rfl, fun c => by show (if c = j then s.ar.given j + 1 else s.ar.given c) ≤ _; split; (rename_i e; rw [e]; exact Nat.le_refl _); exact Nat.le_succ _, Ok.give ho j, h⟩
  generalize s.give j = s' at *
  generalize s.ar.given j = G at *
  have HT : Hid (decide (0 ≤ (i : Int) ∧ (i : Int) < s.threads) = true) := decide_eq_true (by omega)
  clear H ho hgv hf hth
  generalize hw : actW w ⟨#[97, 108, 108, 111, 99]⟩ i c g k v old = w1 at *
  obtain ⟨x0, x1, x2, x3, x4, x5, x6⟩ := X
  go_enter Tryd.func39, Tryd.ntmps39
  go_wp2_with fail
  refine (H1.out.thread i true HT.out).mono ?_
  rintro e0 w2 ⟨rfl, rfl⟩
  clear HT hw
  go_wp2_with fail
  refine (HL.out _ H1.out).mono ?_
  rintro e1 w3 ⟨rfl, hb3⟩
  have H3 : Hid (Two a B b p s' s (w3.alloc (.cells #[.int .i64 j, .int .i64 G] 36))) := hide ((H1.out.mstep hb3).alloc _)
  have ln3 : w.heap.size < w3.heap.size := Nat.lt_of_lt_of_le (World.block_lt_of_cell? _ _ x0) hb3.turns.size
  have y0 : (w3.alloc (.cells #[.int .i64 j, .int .i64 G] 36)).cell? ⟨w3.heap.size, 0, none⟩ = some (.int .i64 j) := by simp
  have y1 : (w3.alloc (.cells #[.int .i64 j, .int .i64 G] 36)).cell? ⟨w3.heap.size, 1, none⟩ = some (.int .i64 G) := by simp
  have HN3 : Hid (∀ j, p.fp s j → j ≠ w3.heap.size) := fun j hj => by
    have h1 := H1.out.o.fp_lt hj
    have h2 := hb3.turns.size
    omega
  clear HL H1 hb3 x0 x1 x2 x3 x4 x5 x6
  go_wp2_with fail
  refine (HR.out _ _ H3.out).mono ?_
  rintro e2 w4 ⟨rfl, p', hb4⟩
  have H4 : Hid (Two a B b p' s' s' (w4.alloc (.cells #[.int .i64 j, .int .i64 G] 36))) := hide ((H3.out.ostep hb4).alloc _)
  have HM := hide hb4.mb
  replace hb4 := hb4.turns
  replace y0 := cell_new (o := (.cells #[.int .i64 j, .int .i64 G] 36)) (hb4.keep y0 (fun e => HN3.out _ e rfl))
  replace y1 := cell_new (o := (.cells #[.int .i64 j, .int .i64 G] 36)) (hb4.keep y1 (fun e => HN3.out _ e rfl))
  have z0 : (w4.alloc (.cells #[.int .i64 j, .int .i64 G] 36)).cell? ⟨w4.heap.size, 0, none⟩ = some (.int .i64 j) := by simp
  have z1 : (w4.alloc (.cells #[.int .i64 j, .int .i64 G] 36)).cell? ⟨w4.heap.size, 1, none⟩ = some (.int .i64 G) := by simp
  clear HR H3 hb4 HN3 HNF ln3
  go_wp2_with fail
  refine (H4.out.coded 0 (by decide)).mono ?_
  rintro e5 w5 ⟨rfl, hb5⟩
  have H5 : Hid _ := hide (H4.out.below hb5)
  replace y0 := keep_cell hb5 y0
  replace y1 := keep_cell hb5 y1
  replace z0 := keep_cell hb5 z0
  replace z1 := keep_cell hb5 z1
  clear H4 hb5
  go_wp2
  go_ret
  exact ⟨rfl, HP.out _ _ HM.out H5.out⟩

end Go.Proofs.YtcnemlamlchnkaaDoor
