import Derived.Test.YtaiigfcfmcicjaaGreatDoorE20
import Derived.Test.YtaiigfcfmcicjaaGreatDoorE14
namespace Go.Proofs.YtaiigfcfmcicjaaGreatDoor
set_option maxRecDepth 100000
set_option maxHeartbeats 8000000
section
open Go.RowKit Go.Extern.Stop Go.Stop Go.Extern Go.Maps Go.WideMaps Go.Sort
theorem fcheck_ok {f : Nat} (hf : 1 <= f /\ f <= 4) (w : World) : Calls Tryz.prog 126 #[.int .i64 f] w fun e w' => e = .returned .nilIface /\ w' = w := by
 have h1 : ¬ (f : Int) < 1 := by omega
 have h2 : ¬ 4 < (f : Int) := by omega
 clear hf
 go_enter Tryz.func126, Tryz.ntmps126
 go_wp2
 go_ret
 exact ⟨rfl, rfl⟩
theorem MAt.new {b : Nat} {f : Int} {p : ByteArray} {w : World} (c0 : w.cell? ⟨b, 0, none⟩ = some (.int .i64 f)) (c1 : w.cell? ⟨b, 1, none⟩ = some (.string p)) (c2 : w.cell? ⟨b, 2, none⟩ = some (.int .i64 0)) (c3 : w.cell? ⟨b, 3, none⟩ = some (.slice none 0 0)) (fz : ∀ o, w.frozen? ⟨b, o, none⟩ = false) (sz : b + 1 <= w.heap.size) : MAt b f p 0 [] w (.slice none 0 0) [] w :=
 ⟨_, ⟨c0, c1, c2, c3, fz, insOwn_nil _ _, sz⟩, LStep.refl _ _ _, fun _ hx => absurd hx List.not_mem_nil⟩
theorem MAt.made {b : Nat} {f : Int} {p : ByteArray} {k : Nat} {w0 : World} {L : List Ins} {w : World} {v0 : Value} (h : MAt b f p k [] w0 v0 L w) {base : Nat} (hb : base <= b) : ∃ v, w.cell? ⟨b, 3, none⟩ = some v /\ insOwn w base v L /\ Below b w0 w := by
 obtain ⟨v, h1, h2, -⟩ := h.out
 exact ⟨v, h1.c3, insOwn_mono h1.own (by omega), h2.low⟩
open Classical in
theorem made_ok {f : Nat} (hf : 1 <= f /\ f <= 4) {p : ByteArray} (hp : isName p) (hs : p.size <= 4) {n : Nat} (hn : Fn.goes n) {k' : Nat} {D : List Ins} (hc : ∀ b : Nat, Adds n #[.pointer (some ⟨b, 0, none⟩)] b f p 0 k' [] D 300) (w : World) :
  Calls Tryz.prog 92 #[.int .i64 f, .string p, .func (.func n) #[] #[]] w fun e w' => ∃ v, e = .returned (.tuple #[v, .nilIface]) /\ insOwn w' w.heap.size v D /\ Below w.heap.size w w' := by
 have HK := hide (fcheck_ok hf)
 have HN : Hid (∀ w, Calls Tryz.prog 128 #[.string p] w fun e w' => e = .returned (.bool true) /\ Below w.heap.size w w') := hide fun w => (pisName_any p w).mono fun _ _ ⟨h1, h2⟩ => ⟨by rw [h1, decide_eq_true hp], h2⟩
 have hsz : ¬ 4 < (p.size : Int) := by omega
 have HG := hide hn
 have HC := hide hc
 clear hn hc hs hp hf
 generalize (f : Int) = fi at *
 go_enter Tryz.func92, Tryz.ntmps92
 go_wp2_with (first
  | (go_at_call 126; refine (HK.out _).mono ?_; rintro e wq ⟨rfl, rfl⟩)
  | (go_at_call 128; refine (HN.out _).mono ?_; rintro e w1 ⟨rfl, hb⟩))
 have HM : Hid (MAt w1.heap.size fi p 0 [] (w1.alloc (.cells #[.int .i64 fi, .string p, .int .i64 0, .slice none 0 0] 161)) (.slice none 0 0) [] (w1.alloc (.cells #[.int .i64 fi, .string p, .int .i64 0, .slice none 0 0] 161))) := hide (MAt.new (World.cell?_alloc_new _ _ _ 0) (World.cell?_alloc_new _ _ _ 1) (World.cell?_alloc_new _ _ _ 2) (World.cell?_alloc_new _ _ _ 3) (fun o => World.frozen?_alloc_new _ _ _ o) (by simp))
 rw [HG.out, Oper.upon_enter]
 refine (HC.out w1.heap.size [] _ _ [] _ HM.out (fun _ hx => absurd hx List.not_mem_nil) (Nat.zero_le _)).mono ?_
 rintro e w2 ⟨rfl, h2⟩
 obtain ⟨v, c3, ho, hB⟩ := h2.made hb.size
 dsimp only
 go_wp2_with fail
 go_ret2
 exact ⟨v, rfl, ho, (hb.alloc hb.size _).trans (hB.mono hb.size)⟩
theorem gcode_enter {f : Nat} (hf : f = 1 ∨ f = 2) (p : ByteArray) : outerD addO 0 (lb p 2) (lb p 1) ++ [lblI (lb p 2)] ++ [⟨⟨#[108, 111, 97, 100]⟩, 0, 7, 0, no⟩, showI f] ++ [lblI (lb p 1)] = gCode p (gEnter f) := by
 rcases hf with rfl | rfl <;> rfl
theorem gcode_enter4 (p : ByteArray) : outerD addO 0 (lb p 2) (lb p 1) ++ [lblI (lb p 2)] ++ (joinD p 2 ++ [⟨⟨#[108, 111, 97, 100]⟩, 0, 7, 0, no⟩, showI 4]) ++ [lblI (lb p 1)] = gCode p (gEnter 4) := rfl
theorem gcode_leave {f : Nat} (hf : f = 1 ∨ f = 2 ∨ f = 4) (p : ByteArray) : outerD subO 2 (lb p 2) (lb p 1) ++ [lblI (lb p 2)] ++ [showI f] ++ [lblI (lb p 1)] = gCode p (gLeave f) := by
 rcases hf with rfl | rfl | rfl <;> rfl
theorem gcode_rest (p : ByteArray) : (⟨⟨#[122, 101, 114, 111]⟩, 6, 0, 0, lb p 1⟩ :: (restD (lb p 1) ++ [lblI (lb p 1)]) : List Ins) = gCode p (gRest 3) := rfl
theorem gcode_gone (p : ByteArray) : (⟨⟨#[122, 101, 114, 111]⟩, 6, 0, 0, lb p 1⟩ :: (goneD ++ [lblI (lb p 1)]) : List Ins) = gCode p (gGone 3) := rfl
theorem gcode_wait {f : Nat} (hf : f = 1 ∨ f = 2 ∨ f = 4) (p : ByteArray) : waitD f p 0 = gCode p (gWait f) := by
 rcases hf with rfl | rfl | rfl <;> rfl
theorem gcode_wait3 (p : ByteArray) : ((⟨⟨#[122, 101, 114, 111]⟩, 6, 0, 0, lb p 1⟩ :: (away1D ++ [lblI (lb p 1)])) ++ waitD 3 p 1 ++ (⟨⟨#[122, 101, 114, 111]⟩, 6, 0, 0, lb p 5⟩ :: (away2D (lb p 5) ++ [lblI (lb p 5)])) : List Ins) = gCode p (gWait 3) := rfl
theorem enter1_all {f : Nat} (hf : 1 <= f /\ f <= 4) {p : ByteArray} (hp : p.size <= 4) : ∃ k', ∀ b : Nat, Adds 101 #[.pointer (some ⟨b, 0, none⟩)] b f p 0 k' [] (gCode p (gEnter f)) 300 := by
 have hp : p.size <= 1000 := by omega
 have h : f = 1 ∨ f = 2 ∨ f = 3 ∨ f = 4 := by omega
 rcases h with rfl | rfl | rfl | rfl
 ·exact ⟨_, fun b => by rw [<- gcode_enter (.inl rfl)]; exact (enter1_any (k := 0) (by decide) (by decide) hp (by decide) fun x1 => (enter11_plain (by decide) x1).mono (by decide)).mono (by decide)⟩
 ·exact ⟨_, fun b => by rw [<- gcode_enter (.inr rfl)]; exact (enter1_any (k := 0) (by decide) (by decide) hp (by decide) fun x1 => (enter11_plain (by decide) x1).mono (by decide)).mono (by decide)⟩
 ·exact ⟨_, fun b => (enter1_none rfl).mono (by decide)⟩
 ·exact ⟨_, fun b => by rw [<- gcode_enter4]; exact (enter1_any (k := 0) (by decide) (by decide) hp (by show 14 <= 50; decide) fun x1 => enter11_joins rfl (by decide) hp x1).mono (by decide)⟩
theorem leave1_all {f : Nat} (hf : 1 <= f /\ f <= 4) {p : ByteArray} (hp : p.size <= 4) : ∃ k', ∀ b : Nat, Adds 106 #[.pointer (some ⟨b, 0, none⟩)] b f p 0 k' [] (gCode p (gLeave f)) 300 := by
 have hp : p.size <= 1000 := by omega
 by_cases h : f = 3
 ·subst h; exact ⟨_, fun b => (leave1_none rfl).mono (by decide)⟩
 ·exact ⟨_, fun b => by rw [<- gcode_leave (by omega)]; exact (leave1_any (k := 0) h (by decide) hp).mono (by decide)⟩
theorem rest1_all {f : Nat} (hf : 1 <= f /\ f <= 4) {p : ByteArray} (hp : p.size <= 4) : ∃ k', ∀ b : Nat, Adds 107 #[.pointer (some ⟨b, 0, none⟩)] b f p 0 k' [] (gCode p (gRest f)) 300 := by
 have hp : p.size <= 1000 := by omega
 by_cases h : f = 3
 ·subst h; exact ⟨_, fun b => by rw [<- gcode_rest]; exact (rest1_any (k := 0) rfl (by decide) hp).mono (by decide)⟩
 ·exact ⟨_, fun b => by rw [show gCode p (gRest f) = [] by unfold gRest; rw [if_neg h]; rfl]; exact (rest1_none h).mono (by decide)⟩
theorem gone1_all {f : Nat} (hf : 1 <= f /\ f <= 4) {p : ByteArray} (hp : p.size <= 4) : ∃ k', ∀ b : Nat, Adds 93 #[.pointer (some ⟨b, 0, none⟩)] b f p 0 k' [] (gCode p (gGone f)) 300 := by
 have hp : p.size <= 1000 := by omega
 by_cases h : f = 3
 ·subst h; exact ⟨_, fun b => by rw [<- gcode_gone]; exact (gone1_any (k := 0) rfl (by decide) hp).mono (by decide)⟩
 ·exact ⟨_, fun b => by rw [show gCode p (gGone f) = [] by unfold gGone; rw [if_neg h]; rfl]; exact (gone1_none h).mono (by decide)⟩
theorem wait1_all {f : Nat} (hf : 1 <= f /\ f <= 4) {p : ByteArray} (hp : p.size <= 4) : ∃ k', ∀ b : Nat, Adds 110 #[.pointer (some ⟨b, 0, none⟩)] b f p 0 k' [] (gCode p (gWait f)) 300 := by
 have hp : p.size <= 1000 := by omega
 by_cases h : f = 3
 ·subst h; exact ⟨_, fun b => by rw [<- gcode_wait3]; exact wait1_counts (k := 0) rfl (by decide) hp⟩
 ·exact ⟨_, fun b => by rw [<- gcode_wait (by omega)]; exact (wait1_plain (k := 0) h (by decide) hp).mono (by decide)⟩
theorem enter_ok {f : Nat} (hf : 1 <= f /\ f <= 4) {p : ByteArray} (hp : isName p) (hs : p.size <= 4) (w : World) :
  Calls Tryz.prog 59 #[.int .i64 f, .string p] w fun e w' => ∃ v, e = .returned (.tuple #[v, .nilIface]) /\ insOwn w' w.heap.size v (gCode p (gEnter f)) /\ Below w.heap.size w w' := by
 have hmf : ∀ (fn : Fn) (first cap : Array Value) (w : World), (Instr.makeFunc fn first cap).run Tryz.prog w = .ok (.func fn first cap) w := fun _ _ _ _ => rfl
 obtain ⟨k', hc⟩ := enter1_all hf hs
 have HM := hide (made_ok hf hp hs (fun _ _ => rfl) hc w)
 clear hc hf hp hs
 generalize gCode p (gEnter f) = D at *
 generalize (f : Int) = fi at *
 go_enter Tryz.func59, Tryz.ntmps59
 go_wp2_with (go_at_call 92; refine HM.out.mono ?_; rintro e wq ⟨v, rfl, hv⟩)
 go_ret2
 exact ⟨v, rfl, hv⟩
theorem leave_ok {f : Nat} (hf : 1 <= f /\ f <= 4) {p : ByteArray} (hp : isName p) (hs : p.size <= 4) (w : World) :
  Calls Tryz.prog 60 #[.int .i64 f, .string p] w fun e w' => ∃ v, e = .returned (.tuple #[v, .nilIface]) /\ insOwn w' w.heap.size v (gCode p (gLeave f)) /\ Below w.heap.size w w' := by
 have hmf : ∀ (fn : Fn) (first cap : Array Value) (w : World), (Instr.makeFunc fn first cap).run Tryz.prog w = .ok (.func fn first cap) w := fun _ _ _ _ => rfl
 obtain ⟨k', hc⟩ := leave1_all hf hs
 have HM := hide (made_ok hf hp hs (fun _ _ => rfl) hc w)
 clear hc hf hp hs
 generalize gCode p (gLeave f) = D at *
 generalize (f : Int) = fi at *
 go_enter Tryz.func60, Tryz.ntmps60
 go_wp2_with (go_at_call 92; refine HM.out.mono ?_; rintro e wq ⟨v, rfl, hv⟩)
 go_ret2
 exact ⟨v, rfl, hv⟩
theorem rest_ok {f : Nat} (hf : 1 <= f /\ f <= 4) {p : ByteArray} (hp : isName p) (hs : p.size <= 4) (w : World) :
  Calls Tryz.prog 61 #[.int .i64 f, .string p] w fun e w' => ∃ v, e = .returned (.tuple #[v, .nilIface]) /\ insOwn w' w.heap.size v (gCode p (gRest f)) /\ Below w.heap.size w w' := by
 have hmf : ∀ (fn : Fn) (first cap : Array Value) (w : World), (Instr.makeFunc fn first cap).run Tryz.prog w = .ok (.func fn first cap) w := fun _ _ _ _ => rfl
 obtain ⟨k', hc⟩ := rest1_all hf hs
 have HM := hide (made_ok hf hp hs (fun _ _ => rfl) hc w)
 clear hc hf hp hs
 generalize gCode p (gRest f) = D at *
 generalize (f : Int) = fi at *
 go_enter Tryz.func61, Tryz.ntmps61
 go_wp2_with (go_at_call 92; refine HM.out.mono ?_; rintro e wq ⟨v, rfl, hv⟩)
 go_ret2
 exact ⟨v, rfl, hv⟩
theorem gone_ok {f : Nat} (hf : 1 <= f /\ f <= 4) {p : ByteArray} (hp : isName p) (hs : p.size <= 4) (w : World) :
  Calls Tryz.prog 57 #[.int .i64 f, .string p] w fun e w' => ∃ v, e = .returned (.tuple #[v, .nilIface]) /\ insOwn w' w.heap.size v (gCode p (gGone f)) /\ Below w.heap.size w w' := by
 have hmf : ∀ (fn : Fn) (first cap : Array Value) (w : World), (Instr.makeFunc fn first cap).run Tryz.prog w = .ok (.func fn first cap) w := fun _ _ _ _ => rfl
 obtain ⟨k', hc⟩ := gone1_all hf hs
 have HM := hide (made_ok hf hp hs (fun _ _ => rfl) hc w)
 clear hc hf hp hs
 generalize gCode p (gGone f) = D at *
 generalize (f : Int) = fi at *
 go_enter Tryz.func57, Tryz.ntmps57
 go_wp2_with (go_at_call 92; refine HM.out.mono ?_; rintro e wq ⟨v, rfl, hv⟩)
 go_ret2
 exact ⟨v, rfl, hv⟩
theorem wait_ok {f : Nat} (hf : 1 <= f /\ f <= 4) {p : ByteArray} (hp : isName p) (hs : p.size <= 4) (w : World) :
  Calls Tryz.prog 62 #[.int .i64 f, .string p] w fun e w' => ∃ v, e = .returned (.tuple #[v, .nilIface]) /\ insOwn w' w.heap.size v (gCode p (gWait f)) /\ Below w.heap.size w w' := by
 have hmf : ∀ (fn : Fn) (first cap : Array Value) (w : World), (Instr.makeFunc fn first cap).run Tryz.prog w = .ok (.func fn first cap) w := fun _ _ _ _ => rfl
 obtain ⟨k', hc⟩ := wait1_all hf hs
 have HM := hide (made_ok hf hp hs (fun _ _ => rfl) hc w)
 clear hc hf hp hs
 generalize gCode p (gWait f) = D at *
 generalize (f : Int) = fi at *
 go_enter Tryz.func62, Tryz.ntmps62
 go_wp2_with (go_at_call 92; refine HM.out.mono ?_; rintro e wq ⟨v, rfl, hv⟩)
 go_ret2
 exact ⟨v, rfl, hv⟩
end
section
open Go.RowKit
def gOk (s : List GI) : Bool := s.all fun i => match i with
 | .label k => decide (k <= 9)
 | .zero _ l => decide (l <= 9) && (gLab l s 0).isSome
 | .same _ _ l => decide (l <= 9) && (gLab l s 0).isSome
 | .goto l => decide (l <= 9) && (gLab l s 0).isSome
 | _ => true
theorem gLab_at {l : Nat} : ∀ {s : List GI} {i j : Nat}, gLab l s i = some j -> i <= j /\ s[j - i]? = some (.label l) /\ ∀ k, k < j - i -> s[k]? ≠ some (.label l)
 | [], _, _, h => by cases h
 | x :: r, i, j, h => by
  by_cases e : x = .label l
  ·subst e
   have h' : (if l = l then some i else gLab l r (i + 1)) = some j := h
   rw [if_pos rfl] at h'
   cases h'
   refine ⟨Nat.le_refl _, by rw [Nat.sub_self]; rfl, fun k hk => absurd hk (by omega)⟩
  ·have h' : gLab l r (i + 1) = some j := by
    cases x with
    | label k =>
     have h2 : (if k = l then some i else gLab l r (i + 1)) = some j := h
     rwa [if_neg (fun e2 => e (by rw [e2]))] at h2
    | _ => exact h
   obtain ⟨h1, h2, h3⟩ := gLab_at h'
   refine ⟨by omega, ?_, fun k hk => ?_⟩
   ·rw [show j - i = (j - (i + 1)) + 1 by omega]
    exact h2
   ·cases k with
    | zero => exact fun e2 => e (by simpa using e2)
    | succ k => exact h3 k (by omega)
theorem setPc_setPc (m : Mk) (t a b : Nat) : (m.setPc t a).setPc t b = m.setPc t b := by
 unfold Mk.setPc
 simp only [Mk.mk.injEq, true_and, and_true]
 funext u
 by_cases e : u = t
 ·rw [if_pos e, if_pos e]
 ·rw [if_neg e, if_neg e, if_neg e]
end
section
open Go.RowKit
theorem drain1_regs (m : Mk) (t : Nat) : (m.drain1 t).regs = m.regs /\ (m.drain1 t).pc = m.pc := by
 unfold Mk.drain1
 split <;> exact ⟨rfl, rfl⟩
theorem fenceFrom_regs : ∀ (k : Nat) (m : Mk) (t : Nat), (m.fenceFrom t k).regs = m.regs /\ (m.fenceFrom t k).pc = m.pc
 | 0, _, _ => ⟨rfl, rfl⟩
 | k + 1, m, t => fenceFrom_regs k (m.fence t) (t + 1)
theorem room_regs (m : Mk) (t : Nat) : (m.room t).regs = m.regs /\ (m.room t).pc = m.pc := by
 unfold Mk.room
 split
 ·exact drain1_regs m t
 ·exact ⟨rfl, rfl⟩
end
end Go.Proofs.YtaiigfcfmcicjaaGreatDoor
