import Derived.Test.YtoialadjpcdbaaaGreatDoorA16
import Derived.Test.YtoialadjpcdbaaaGreatDoorA22
import Derived.Test.YtoialadjpcdbaaaGreatDoorA17

/- SpF -/
namespace Go.Proofs.YtoialadjpcdbaaaGreatDoor
open Go.RowKit Go.Extern.Stop Go.Stop Go.Extern Go.Maps Go.WideMaps Go.Sort

theorem insOwn_mono {w : World} {base base' : Nat} {v : Value} {l : List Ins} (h : insOwn w base v l) (hb : base' ≤ base) : insOwn w base' v l := by
  obtain ⟨h1, h2⟩ := h
  refine ⟨h1, ?_⟩
  rcases h2 with h2 | ⟨g, cap, cur, e, hg, r⟩
  · exact .inl h2
  · exact .inr ⟨g, cap, cur, e, Nat.le_trans hb hg, r⟩

theorem insOwn_open {w : World} {base : Nat} {v : Value} {l : List Ins} (h : insOwn w base v l) (h1 : 0 < l.length) : ∃ ad cap, v = .slice (some ad) l.length cap ∧ insAt (some ad) l w := by
  obtain ⟨ad, cap, rfl, h2, h3, h4⟩ := insAt_of_icells h
  obtain ⟨y, hy⟩ : ∃ y, l[0]? = some y := ⟨_, List.getElem?_eq_getElem h1⟩
  obtain ⟨b, off, rfl, -⟩ := h4 0 y hy
  exact ⟨_, cap, rfl, h4⟩
theorem insOwn_new {w : World} {l : List Ins} {cs : Array Value} {base : Nat} (h : cs.toList = icells l) (hb : base ≤ w.heap.size) (hl : l.length ≤ 1000) : insOwn (w.alloc (.cells cs 113)) base (.slice (some ⟨w.heap.size, 0, none⟩) l.length l.length) l := by
  refine ⟨icells_len l, .inr ⟨w.heap.size, l.length, cs, rfl, hb, heap_new w _, Nat.le_refl _, by unfold maxLen; omega, ?_, ?_⟩⟩
  · rw [← Array.length_toList, h, icells_len]
  · rw [h, ← icells_len l, List.take_length]

end Go.Proofs.YtoialadjpcdbaaaGreatDoor

/- GdR -/
namespace Go.Proofs.YtoialadjpcdbaaaGreatDoor
open Go.RowKit Go.Extern.Stop Go.Stop Go.Extern Go.Maps Go.WideMaps Go.Sort

theorem fcheck_ok {f : Nat} (hf : 1 ≤ f ∧ f ≤ 4) (w : World) : Calls Tryz.prog 105 #[.int .i64 f] w fun e w' => e = .returned .nilIface ∧ w' = w := by
  have h1 : ¬ (f : Int) < 1 := by omega
  have h2 : ¬ 4 < (f : Int) := by omega
  clear hf
  go_enter Tryz.func105, Tryz.ntmps105
  go_wp2
  go_ret
  exact ⟨rfl, rfl⟩

theorem MAt.new {b : Nat} {f : Int} {p : ByteArray} {w : World} (c0 : w.cell? ⟨b, 0, none⟩ = some (.int .i64 f)) (c1 : w.cell? ⟨b, 1, none⟩ = some (.string p)) (c2 : w.cell? ⟨b, 2, none⟩ = some (.int .i64 0)) (c3 : w.cell? ⟨b, 3, none⟩ = some (.slice none 0 0)) (fz : ∀ o, w.frozen? ⟨b, o, none⟩ = false) (sz : b + 1 ≤ w.heap.size) : MAt b f p 0 [] w (.slice none 0 0) [] w :=
  ⟨_, ⟨c0, c1, c2, c3, fz, insOwn_nil _ _, sz⟩, LStep.refl _ _ _, fun _ hx => absurd hx List.not_mem_nil⟩
theorem MAt.made {b : Nat} {f : Int} {p : ByteArray} {k : Nat} {w0 : World} {L : List Ins} {w : World} {v0 : Value} (h : MAt b f p k [] w0 v0 L w) {base : Nat} (hb : base ≤ b) : ∃ v, w.cell? ⟨b, 3, none⟩ = some v ∧ insOwn w base v L ∧ Below b w0 w := by
  obtain ⟨v, h1, h2, -⟩ := h.out
  exact ⟨v, h1.c3, insOwn_mono h1.own (by omega), h2.low⟩

open Classical in
set_option maxRecDepth 20000 in
set_option maxHeartbeats 1000000 in
theorem made_ok {f : Nat} (hf : 1 ≤ f ∧ f ≤ 4) {p : ByteArray} (hp : isName p) (hs : p.size ≤ 4) {n : Nat} (hn : Fn.goes n) {k' : Nat} {D : List Ins} (hc : ∀ b : Nat, Adds n #[.pointer (some ⟨b, 0, none⟩)] b f p 0 k' [] D 300) (w : World) :
    Calls Tryz.prog 72 #[.int .i64 f, .string p, .func (.func n) #[] #[]] w fun e w' => ∃ v, e = .returned (.tuple #[v, .nilIface]) ∧ insOwn w' w.heap.size v D ∧ Below w.heap.size w w' := by
  have HK := hide (fcheck_ok hf)
  have HN : Hid (∀ w, Calls Tryz.prog 107 #[.string p] w fun e w' => e = .returned (.bool true) ∧ Below w.heap.size w w') := hide fun w => (pisName_any p w).mono fun _ _ ⟨h1, h2⟩ => ⟨by rw [h1, decide_eq_true hp], h2⟩
  have hsz : ¬ 4 < (p.size : Int) := by omega
  have HG := hide hn
  have HC := hide hc
  clear hn hc hs hp hf
  generalize (f : Int) = fi at *
  go_enter Tryz.func72, Tryz.ntmps72
  go_wp2_with (first
    | (go_at_call 105; refine (HK.out _).mono ?_; rintro e wq ⟨rfl, rfl⟩)
    | (go_at_call 107; refine (HN.out _).mono ?_; rintro e w1 ⟨rfl, hb⟩))
  have HM : Hid (MAt w1.heap.size fi p 0 [] (w1.alloc (.cells #[.int .i64 fi, .string p, .int .i64 0, .slice none 0 0] 146)) (.slice none 0 0) [] (w1.alloc (.cells #[.int .i64 fi, .string p, .int .i64 0, .slice none 0 0] 146))) := hide (MAt.new (World.cell?_alloc_new _ _ _ 0) (World.cell?_alloc_new _ _ _ 1) (World.cell?_alloc_new _ _ _ 2) (World.cell?_alloc_new _ _ _ 3) (fun o => World.frozen?_alloc_new _ _ _ o) (by simp))
  rw [HG.out, Oper.upon_enter]
  refine (HC.out w1.heap.size [] _ _ [] _ HM.out (fun _ hx => absurd hx List.not_mem_nil) (Nat.zero_le _)).mono ?_
  rintro e w2 ⟨rfl, h2⟩
  obtain ⟨v, c3, ho, hB⟩ := h2.made hb.size
  dsimp only
  go_wp2_with fail
  go_ret2
  exact ⟨v, rfl, ho, (hb.alloc hb.size _).trans (hB.mono hb.size)⟩

theorem gcode_enter {f : Nat} (hf : f = 1 ∨ f = 2) (p : ByteArray) : outerD addO 0 (lb p 2) (lb p 1) ++ [lblI (lb p 2)] ++ [⟨⟨#[108, 111, 97, 100]⟩, 0, 7, 0, no⟩, showI f] ++ [lblI (lb p 1)] = gCode p (gEnter f) := by
  rcases hf with rfl | rfl <;> rfl
theorem gcode_enter4 (p : ByteArray) : outerD addO 0 (lb p 2) (lb p 1) ++ [lblI (lb p 2)] ++ (joinD p 2 ++ [⟨⟨#[108, 111, 97, 100]⟩, 0, 7, 0, no⟩, showI 4]) ++ [lblI (lb p 1)] = gCode p (gEnter 4) := rfl
theorem gcode_leave {f : Nat} (hf : f = 1 ∨ f = 2 ∨ f = 4) (p : ByteArray) : outerD subO 2 (lb p 2) (lb p 1) ++ [lblI (lb p 2)] ++ [showI f] ++ [lblI (lb p 1)] = gCode p (gLeave f) := by
  rcases hf with rfl | rfl | rfl <;> rfl
theorem gcode_rest (p : ByteArray) : (⟨⟨#[122, 101, 114, 111]⟩, 6, 0, 0, lb p 1⟩ :: (restD (lb p 1) ++ [lblI (lb p 1)]) : List Ins) = gCode p (gRest 3) := rfl
theorem gcode_gone (p : ByteArray) : (⟨⟨#[122, 101, 114, 111]⟩, 6, 0, 0, lb p 1⟩ :: (goneD ++ [lblI (lb p 1)]) : List Ins) = gCode p (gGone 3) := rfl
theorem gcode_wait {f : Nat} (hf : f = 1 ∨ f = 2 ∨ f = 4) (p : ByteArray) : waitD f p 0 = gCode p (gWait f) := by
  rcases hf with rfl | rfl | rfl <;> rfl
theorem gcode_wait3 (p : ByteArray) : ((⟨⟨#[122, 101, 114, 111]⟩, 6, 0, 0, lb p 1⟩ :: (away1D ++ [lblI (lb p 1)])) ++ waitD 3 p 1 ++ (⟨⟨#[122, 101, 114, 111]⟩, 6, 0, 0, lb p 5⟩ :: (away2D (lb p 5) ++ [lblI (lb p 5)])) : List Ins) = gCode p (gWait 3) := rfl

theorem enter1_all {f : Nat} (hf : 1 ≤ f ∧ f ≤ 4) {p : ByteArray} (hp : p.size ≤ 4) : ∃ k', ∀ b : Nat, Adds 81 #[.pointer (some ⟨b, 0, none⟩)] b f p 0 k' [] (gCode p (gEnter f)) 300 := by
  have hp : p.size ≤ 1000 := by omega
  have h : f = 1 ∨ f = 2 ∨ f = 3 ∨ f = 4 := by omega
  rcases h with rfl | rfl | rfl | rfl
  · exact ⟨_, fun b => by rw [← gcode_enter (.inl rfl)]; exact (enter1_any (k := 0) (by decide) (by decide) hp (by decide) fun x1 => (enter11_plain (by decide) x1).mono (by decide)).mono (by decide)⟩
  · exact ⟨_, fun b => by rw [← gcode_enter (.inr rfl)]; exact (enter1_any (k := 0) (by decide) (by decide) hp (by decide) fun x1 => (enter11_plain (by decide) x1).mono (by decide)).mono (by decide)⟩
  · exact ⟨_, fun b => (enter1_none rfl).mono (by decide)⟩
  · exact ⟨_, fun b => by rw [← gcode_enter4]; exact (enter1_any (k := 0) (by decide) (by decide) hp (by show 14 ≤ 50; decide) fun x1 => enter11_joins rfl (by decide) hp x1).mono (by decide)⟩
theorem leave1_all {f : Nat} (hf : 1 ≤ f ∧ f ≤ 4) {p : ByteArray} (hp : p.size ≤ 4) : ∃ k', ∀ b : Nat, Adds 86 #[.pointer (some ⟨b, 0, none⟩)] b f p 0 k' [] (gCode p (gLeave f)) 300 := by
  have hp : p.size ≤ 1000 := by omega
  by_cases h : f = 3
  · subst h; exact ⟨_, fun b => (leave1_none rfl).mono (by decide)⟩
  · exact ⟨_, fun b => by rw [← gcode_leave (by omega)]; exact (leave1_any (k := 0) h (by decide) hp).mono (by decide)⟩
theorem rest1_all {f : Nat} (hf : 1 ≤ f ∧ f ≤ 4) {p : ByteArray} (hp : p.size ≤ 4) : ∃ k', ∀ b : Nat, Adds 87 #[.pointer (some ⟨b, 0, none⟩)] b f p 0 k' [] (gCode p (gRest f)) 300 := by
  have hp : p.size ≤ 1000 := by omega
  by_cases h : f = 3
  · subst h; exact ⟨_, fun b => by rw [← gcode_rest]; exact (rest1_any (k := 0) rfl (by decide) hp).mono (by decide)⟩
  · exact ⟨_, fun b => by rw [show gCode p (gRest f) = [] by unfold gRest; rw [if_neg h]; rfl]; exact (rest1_none h).mono (by decide)⟩
theorem gone1_all {f : Nat} (hf : 1 ≤ f ∧ f ≤ 4) {p : ByteArray} (hp : p.size ≤ 4) : ∃ k', ∀ b : Nat, Adds 73 #[.pointer (some ⟨b, 0, none⟩)] b f p 0 k' [] (gCode p (gGone f)) 300 := by
  have hp : p.size ≤ 1000 := by omega
  by_cases h : f = 3
  · subst h; exact ⟨_, fun b => by rw [← gcode_gone]; exact (gone1_any (k := 0) rfl (by decide) hp).mono (by decide)⟩
  · exact ⟨_, fun b => by rw [show gCode p (gGone f) = [] by unfold gGone; rw [if_neg h]; rfl]; exact (gone1_none h).mono (by decide)⟩
theorem wait1_all {f : Nat} (hf : 1 ≤ f ∧ f ≤ 4) {p : ByteArray} (hp : p.size ≤ 4) : ∃ k', ∀ b : Nat, Adds 90 #[.pointer (some ⟨b, 0, none⟩)] b f p 0 k' [] (gCode p (gWait f)) 300 := by
  have hp : p.size ≤ 1000 := by omega
  by_cases h : f = 3
  · subst h; exact ⟨_, fun b => by rw [← gcode_wait3]; exact wait1_counts (k := 0) rfl (by decide) hp⟩
  · exact ⟨_, fun b => by rw [← gcode_wait (by omega)]; exact (wait1_plain (k := 0) h (by decide) hp).mono (by decide)⟩

set_option maxRecDepth 20000 in
theorem enter_ok {f : Nat} (hf : 1 ≤ f ∧ f ≤ 4) {p : ByteArray} (hp : isName p) (hs : p.size ≤ 4) (w : World) :
    Calls Tryz.prog 46 #[.int .i64 f, .string p] w fun e w' => ∃ v, e = .returned (.tuple #[v, .nilIface]) ∧ insOwn w' w.heap.size v (gCode p (gEnter f)) ∧ Below w.heap.size w w' := by
  have hmf : ∀ (fn : Fn) (first cap : Array Value) (w : World), (Instr.makeFunc fn first cap).run Tryz.prog w = .ok (.func fn first cap) w := fun _ _ _ _ => rfl
  obtain ⟨k', hc⟩ := enter1_all hf hs
  have HM := hide (made_ok hf hp hs (fun _ _ => rfl) hc w)
  clear hc hf hp hs
  generalize gCode p (gEnter f) = D at *
  generalize (f : Int) = fi at *
  go_enter Tryz.func46, Tryz.ntmps46
  go_wp2_with (go_at_call 72; refine HM.out.mono ?_; rintro e wq ⟨v, rfl, hv⟩)
  go_ret2
  exact ⟨v, rfl, hv⟩

set_option maxRecDepth 20000 in
theorem leave_ok {f : Nat} (hf : 1 ≤ f ∧ f ≤ 4) {p : ByteArray} (hp : isName p) (hs : p.size ≤ 4) (w : World) :
    Calls Tryz.prog 47 #[.int .i64 f, .string p] w fun e w' => ∃ v, e = .returned (.tuple #[v, .nilIface]) ∧ insOwn w' w.heap.size v (gCode p (gLeave f)) ∧ Below w.heap.size w w' := by
  have hmf : ∀ (fn : Fn) (first cap : Array Value) (w : World), (Instr.makeFunc fn first cap).run Tryz.prog w = .ok (.func fn first cap) w := fun _ _ _ _ => rfl
  obtain ⟨k', hc⟩ := leave1_all hf hs
  have HM := hide (made_ok hf hp hs (fun _ _ => rfl) hc w)
  clear hc hf hp hs
  generalize gCode p (gLeave f) = D at *
  generalize (f : Int) = fi at *
  go_enter Tryz.func47, Tryz.ntmps47
  go_wp2_with (go_at_call 72; refine HM.out.mono ?_; rintro e wq ⟨v, rfl, hv⟩)
  go_ret2
  exact ⟨v, rfl, hv⟩

set_option maxRecDepth 20000 in
theorem rest_ok {f : Nat} (hf : 1 ≤ f ∧ f ≤ 4) {p : ByteArray} (hp : isName p) (hs : p.size ≤ 4) (w : World) :
    Calls Tryz.prog 48 #[.int .i64 f, .string p] w fun e w' => ∃ v, e = .returned (.tuple #[v, .nilIface]) ∧ insOwn w' w.heap.size v (gCode p (gRest f)) ∧ Below w.heap.size w w' := by
  have hmf : ∀ (fn : Fn) (first cap : Array Value) (w : World), (Instr.makeFunc fn first cap).run Tryz.prog w = .ok (.func fn first cap) w := fun _ _ _ _ => rfl
  obtain ⟨k', hc⟩ := rest1_all hf hs
  have HM := hide (made_ok hf hp hs (fun _ _ => rfl) hc w)
  clear hc hf hp hs
  generalize gCode p (gRest f) = D at *
  generalize (f : Int) = fi at *
  go_enter Tryz.func48, Tryz.ntmps48
  go_wp2_with (go_at_call 72; refine HM.out.mono ?_; rintro e wq ⟨v, rfl, hv⟩)
  go_ret2
  exact ⟨v, rfl, hv⟩

set_option maxRecDepth 20000 in
theorem gone_ok {f : Nat} (hf : 1 ≤ f ∧ f ≤ 4) {p : ByteArray} (hp : isName p) (hs : p.size ≤ 4) (w : World) :
    Calls Tryz.prog 44 #[.int .i64 f, .string p] w fun e w' => ∃ v, e = .returned (.tuple #[v, .nilIface]) ∧ insOwn w' w.heap.size v (gCode p (gGone f)) ∧ Below w.heap.size w w' := by
  have hmf : ∀ (fn : Fn) (first cap : Array Value) (w : World), (Instr.makeFunc fn first cap).run Tryz.prog w = .ok (.func fn first cap) w := fun _ _ _ _ => rfl
  obtain ⟨k', hc⟩ := gone1_all hf hs
  have HM := hide (made_ok hf hp hs (fun _ _ => rfl) hc w)
  clear hc hf hp hs
  generalize gCode p (gGone f) = D at *
  generalize (f : Int) = fi at *
  go_enter Tryz.func44, Tryz.ntmps44
  go_wp2_with (go_at_call 72; refine HM.out.mono ?_; rintro e wq ⟨v, rfl, hv⟩)
  go_ret2
  exact ⟨v, rfl, hv⟩

set_option maxRecDepth 20000 in
theorem wait_ok {f : Nat} (hf : 1 ≤ f ∧ f ≤ 4) {p : ByteArray} (hp : isName p) (hs : p.size ≤ 4) (w : World) :
    Calls Tryz.prog 49 #[.int .i64 f, .string p] w fun e w' => ∃ v, e = .returned (.tuple #[v, .nilIface]) ∧ insOwn w' w.heap.size v (gCode p (gWait f)) ∧ Below w.heap.size w w' := by
  have hmf : ∀ (fn : Fn) (first cap : Array Value) (w : World), (Instr.makeFunc fn first cap).run Tryz.prog w = .ok (.func fn first cap) w := fun _ _ _ _ => rfl
  obtain ⟨k', hc⟩ := wait1_all hf hs
  have HM := hide (made_ok hf hp hs (fun _ _ => rfl) hc w)
  clear hc hf hp hs
  generalize gCode p (gWait f) = D at *
  generalize (f : Int) = fi at *
  go_enter Tryz.func49, Tryz.ntmps49
  go_wp2_with (go_at_call 72; refine HM.out.mono ?_; rintro e wq ⟨v, rfl, hv⟩)
  go_ret2
  exact ⟨v, rfl, hv⟩
end Go.Proofs.YtoialadjpcdbaaaGreatDoor

/- GcB -/
namespace Go.Proofs.YtoialadjpcdbaaaGreatDoor
open Go.RowKit

theorem u8_digit {k l : Nat} (hk : k ≤ 9) (hl : l ≤ 9) (h : UInt8.ofNat (48 + k) = UInt8.ofNat (48 + l)) : k = l := by
  have := congrArg UInt8.toNat h
  simp at this
  omega
def noLab (p : ByteArray) (A : List Ins) : Prop := ∀ y ∈ A, ∀ l, l ≤ 9 → setsLabel y (lb p l) = false
def gOk (s : List GI) : Bool := s.all fun i => match i with
  | .label k => decide (k ≤ 9)
  | .zero _ l => decide (l ≤ 9) && (gLab l s 0).isSome
  | .same _ _ l => decide (l ≤ 9) && (gLab l s 0).isSome
  | .goto l => decide (l ≤ 9) && (gLab l s 0).isSome
  | _ => true

theorem gLab_at {l : Nat} : ∀ {s : List GI} {i j : Nat}, gLab l s i = some j → i ≤ j ∧ s[j - i]? = some (.label l) ∧ ∀ k, k < j - i → s[k]? ≠ some (.label l)
  | [], _, _, h => by cases h
  | x :: r, i, j, h => by
    by_cases e : x = .label l
    · subst e
      have h' : (if l = l then some i else gLab l r (i + 1)) = some j := h
      rw [if_pos rfl] at h'
      cases h'
      refine ⟨Nat.le_refl _, by rw [Nat.sub_self]; rfl, fun k hk => absurd hk (by omega)⟩
    · have h' : gLab l r (i + 1) = some j := by
        cases x with
        | label k =>
          have h2 : (if k = l then some i else gLab l r (i + 1)) = some j := h
          rwa [if_neg (fun e2 => e (by rw [e2]))] at h2
        | _ => exact h
      obtain ⟨h1, h2, h3⟩ := gLab_at h'
      refine ⟨by omega, ?_, fun k hk => ?_⟩
      · rw [show j - i = (j - (i + 1)) + 1 by omega]
        exact h2
      · cases k with
        | zero => exact fun e2 => e (by simpa using e2)
        | succ k => exact h3 k (by omega)
theorem GI.sets {p : ByteArray} {i : GI} {l : Nat} (h : setsLabel (i.ins p) (lb p l) = true) (hl : l ≤ 9) (hk : ∀ k, i = .label k → k ≤ 9) : i = .label l := by
  unfold setsLabel at h
  simp only [Bool.and_eq_true] at h
  obtain ⟨h1, h2⟩ := h
  rw [toList_bl] at h1
  cases i with
  | label k =>
    have e : lb p k = lb p l := by
      have := eq_of_beq h2
      rw [toList_bl, toList_bl] at this
      exact bl_inj this
    rw [u8_digit (hk k rfl) hl (lb_inj e).2]
  | _ => exact Bool.noConfusion (show false = true from h1)
theorem gLab_labelAt {p : ByteArray} {A B : List Ins} {s : List GI} {l j : Nat} (hA : noLab p A) (hs : gOk s = true) (hl : l ≤ 9) (h : gLab l s 0 = some j) : labelAt (A ++ (gCode p s ++ B)) (lb p l) = ((A.length + j : Nat) : Int) := by
  obtain ⟨-, h2, h3⟩ := gLab_at h
  rw [Nat.sub_zero] at h2 h3
  have hj : j < s.length := (List.getElem?_eq_some_iff.1 h2).1
  have hsl : ∀ k, .label k ∈ s → k ≤ 9 := fun k hk => by
    have := List.all_eq_true.1 hs _ hk
    simpa using this
  have at' : ∀ k, k < s.length → (A ++ (gCode p s ++ B))[A.length + k]? = (s[k]?).map (GI.ins p) := fun k hk => by
    rw [List.getElem?_append_right (Nat.le_add_right _ _), Nat.add_sub_cancel_left, List.getElem?_append_left (by unfold gCode; rw [List.length_map]; exact hk)]
    unfold gCode
    rw [List.getElem?_map]
  refine labelAt_some (x := (GI.label l).ins p) ?_ ?_ ?_
  · rw [at' j hj, h2]; rfl
  · unfold setsLabel
    rw [toList_bl]
    have e1 : (bl ((GI.label l).ins p).op == [108, 97, 98, 101, 108]) = true := rfl
    rw [e1, Bool.true_and]
    exact beq_self_eq_true _
  · intro k y hk hy
    by_cases hkA : k < A.length
    · rw [List.getElem?_append_left hkA] at hy
      exact hA y (List.mem_of_getElem? hy) l hl
    · obtain ⟨k', rfl⟩ : ∃ k', k = A.length + k' := ⟨k - A.length, by omega⟩
      rw [at' k' (by omega)] at hy
      cases hx : s[k']? with
      | none => rw [hx] at hy; cases hy
      | some i =>
        rw [hx] at hy
        have hy : y = i.ins p := (Option.some.inj hy).symm
        subst hy
        cases hb : setsLabel (i.ins p) (lb p l) with
        | false => rfl
        | true =>
          have := GI.sets hb hl (fun k2 e => hsl k2 (by rw [← e]; exact List.mem_of_getElem? hx))
          subst this
          exact absurd hx (h3 k' (by omega))

theorem setPc_setPc (m : Mk) (t a b : Nat) : (m.setPc t a).setPc t b = m.setPc t b := by
  unfold Mk.setPc
  simp only [Mk.mk.injEq, true_and, and_true]
  funext u
  by_cases e : u = t
  · rw [if_pos e, if_pos e]
  · rw [if_neg e, if_neg e, if_neg e]

theorem gstep {m : Mk} {t q : Nat} {L A B : List Ins} {p : ByteArray} {s : List GI} {i : GI} (hL : L = A ++ (gCode p s ++ B)) (hpc : m.pc t = A.length + q) (hq : s[q]? = some i) (hA : noLab p A) (hs : gOk s = true) :
    doneAt L (m.pc t) = false ∧ m.step L t = gExec (m.setPc t (A.length + gNext s q (m.regs t) i)) t i := by
  have hlt : q < s.length := (List.getElem?_eq_some_iff.1 hq).1
  have hx : L[m.pc t]? = some (i.ins p) := by
    rw [hL, hpc, List.getElem?_append_right (Nat.le_add_right _ _), Nat.add_sub_cancel_left, List.getElem?_append_left (by unfold gCode; rw [List.length_map]; exact hlt)]
    unfold gCode
    rw [List.getElem?_map, hq]; rfl
  have hi := List.all_eq_true.1 hs i (List.mem_of_getElem? hq)
  have lab : ∀ l, l ≤ 9 → (gLab l s 0).isSome = true → (labelAt L (lb p l)).toNat = A.length + gAt l s := fun l hl hS => by
    obtain ⟨j, hj⟩ := Option.isSome_iff_exists.1 hS
    rw [hL, gLab_labelAt hA hs hl hj]
    unfold gAt
    rw [hj]
    exact Int.toNat_natCast _
  refine ⟨?_, ?_⟩
  · unfold doneAt
    rw [hx]
    exact i.goes p
  · unfold Mk.step
    rw [hx]
    show (m.setPc t (m.pc t + 1)).exec L t (i.ins p) = _
    rw [hpc]
    cases i with
    | load r a k => rw [exec_load _ _ _ rfl]; rfl
    | const r v => rw [exec_const _ _ _ rfl]; rfl
    | move r a => rw [exec_move _ _ _ rfl]; rfl
    | add r a b => rw [exec_add _ _ _ rfl]; rfl
    | sub r a b => rw [exec_sub _ _ _ rfl]; rfl
    | store a r k => rw [exec_store _ _ _ rfl]; rfl
    | swap r a k => rw [exec_swap _ _ _ rfl]; rfl
    | cas a r k => rw [exec_cas _ _ _ rfl]; rfl
    | fence => rw [exec_fence _ _ _ rfl]; rfl
    | force => rw [exec_force _ _ _ rfl]; rfl
    | alloc r => rw [exec_alloc _ _ _ rfl]; rfl
    | free r => rw [exec_free _ _ _ rfl]; rfl
    | need r => rw [exec_need _ _ _ rfl]; rfl
    | label k => rw [exec_label _ _ _ rfl]; rfl
    | zero r l =>
      rw [exec_zero _ _ _ rfl]
      simp only [Bool.and_eq_true, decide_eq_true_eq] at hi
      show (if m.regs t r = 0 then (m.setPc t (A.length + q + 1)).setPc t (labelAt L (lb p l)).toNat else m.setPc t (A.length + q + 1)) = m.setPc t (A.length + if m.regs t r = 0 then gAt l s else q + 1)
      split
      · rw [setPc_setPc, lab l hi.1 hi.2]
      · rfl
    | same r a l =>
      rw [exec_same _ _ _ rfl]
      simp only [Bool.and_eq_true, decide_eq_true_eq] at hi
      show (if m.regs t r = m.regs t a then (m.setPc t (A.length + q + 1)).setPc t (labelAt L (lb p l)).toNat else m.setPc t (A.length + q + 1)) = m.setPc t (A.length + if m.regs t r = m.regs t a then gAt l s else q + 1)
      split
      · rw [setPc_setPc, lab l hi.1 hi.2]
      · rfl
    | goto l =>
      rw [exec_goto _ _ _ rfl]
      simp only [Bool.and_eq_true, decide_eq_true_eq] at hi
      show (m.setPc t (A.length + q + 1)).setPc t (labelAt L (lb p l)).toNat = m.setPc t (A.length + gAt l s)
      rw [setPc_setPc, lab l hi.1 hi.2]
end Go.Proofs.YtoialadjpcdbaaaGreatDoor
