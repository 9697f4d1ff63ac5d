import Derived.Test.YtaiigfcfmcicjaaGreatDoorF15
import Derived.Test.YtaiigfcfmcicjaaGreatDoorF11
import Derived.Test.YtaiigfcfmcicjaaGreatDoorF08
namespace Go.Proofs.YtaiigfcfmcicjaaGreatDoor
set_option maxRecDepth 100000
set_option maxHeartbeats 8000000
section
open Go.RowKit Go.Extern.Stop Go.Stop Go.Extern Go.Maps Go.WideMaps Go.Sort
theorem fcheck_ok {f : Nat} (hf : 1 <= f /\ f <= 4) (w : World) : Calls Tryz.prog 126 #[.int .i64 f] w fun e w' => e = .returned .nilIface /\ w' = w := by
 have h1 : ¬ (f : Int) < 1 := by omega
 have h2 : ¬ 4 < (f : Int) := by omega
 clear hf
 go_enter Tryz.func126, Tryz.ntmps126
 go_wp2
 go_ret
 exact ⟨rfl, rfl⟩
theorem MAt.new {b : Nat} {f : Int} {p : ByteArray} {w : World} (c0 : w.cell? ⟨b, 0, none⟩ = some (.int .i64 f)) (c1 : w.cell? ⟨b, 1, none⟩ = some (.string p)) (c2 : w.cell? ⟨b, 2, none⟩ = some (.int .i64 0)) (c3 : w.cell? ⟨b, 3, none⟩ = some (.slice none 0 0)) (fz : ∀ o, w.frozen? ⟨b, o, none⟩ = false) (sz : b + 1 <= w.heap.size) : MAt b f p 0 [] w (.slice none 0 0) [] w :=
 ⟨_, ⟨c0, c1, c2, c3, fz, insOwn_nil _ _, sz⟩, LStep.refl _ _ _, fun _ hx => absurd hx List.not_mem_nil⟩
theorem MAt.made {b : Nat} {f : Int} {p : ByteArray} {k : Nat} {w0 : World} {L : List Ins} {w : World} {v0 : Value} (h : MAt b f p k [] w0 v0 L w) {base : Nat} (hb : base <= b) : ∃ v, w.cell? ⟨b, 3, none⟩ = some v /\ insOwn w base v L /\ Below b w0 w := by
 obtain ⟨v, h1, h2, -⟩ := h.out
 exact ⟨v, h1.c3, insOwn_mono h1.own (by omega), h2.low⟩
open Classical in
theorem made_ok {f : Nat} (hf : 1 <= f /\ f <= 4) {p : ByteArray} (hp : isName p) (hs : p.size <= 4) {n : Nat} (hn : Fn.goes n) {k' : Nat} {D : List Ins} (hc : ∀ b : Nat, Adds n #[.pointer (some ⟨b, 0, none⟩)] b f p 0 k' [] D 300) (w : World) :
  Calls Tryz.prog 92 #[.int .i64 f, .string p, .func (.func n) #[] #[]] w fun e w' => ∃ v, e = .returned (.tuple #[v, .nilIface]) /\ insOwn w' w.heap.size v D /\ Below w.heap.size w w' := by
 have HK := hide (fcheck_ok hf)
 have HN : Hid (∀ w, Calls Tryz.prog 128 #[.string p] w fun e w' => e = .returned (.bool true) /\ Below w.heap.size w w') := hide fun w => (pisName_any p w).mono fun _ _ ⟨h1, h2⟩ => ⟨by rw [h1, decide_eq_true hp], h2⟩
 have hsz : ¬ 4 < (p.size : Int) := by omega
 have HG := hide hn
 have HC := hide hc
 clear hn hc hs hp hf
 generalize (f : Int) = fi at *
 go_enter Tryz.func92, Tryz.ntmps92
 go_wp2_with (first
  | (go_at_call 126; refine (HK.out _).mono ?_; rintro e wq ⟨rfl, rfl⟩)
  | (go_at_call 128; refine (HN.out _).mono ?_; rintro e w1 ⟨rfl, hb⟩))
 have HM : Hid (MAt w1.heap.size fi p 0 [] (w1.alloc (.cells #[.int .i64 fi, .string p, .int .i64 0, .slice none 0 0] 161)) (.slice none 0 0) [] (w1.alloc (.cells #[.int .i64 fi, .string p, .int .i64 0, .slice none 0 0] 161))) := hide (MAt.new (World.cell?_alloc_new _ _ _ 0) (World.cell?_alloc_new _ _ _ 1) (World.cell?_alloc_new _ _ _ 2) (World.cell?_alloc_new _ _ _ 3) (fun o => World.frozen?_alloc_new _ _ _ o) (by simp))
 rw [HG.out, Oper.upon_enter]
 refine (HC.out w1.heap.size [] _ _ [] _ HM.out (fun _ hx => absurd hx List.not_mem_nil) (Nat.zero_le _)).mono ?_
 rintro e w2 ⟨rfl, h2⟩
 obtain ⟨v, c3, ho, hB⟩ := h2.made hb.size
 dsimp only
 go_wp2_with fail
 go_ret2
 exact ⟨v, rfl, ho, (hb.alloc hb.size _).trans (hB.mono hb.size)⟩
theorem gcode_enter {f : Nat} (hf : f = 1 ∨ f = 2) (p : ByteArray) : outerD addO 0 (lb p 2) (lb p 1) ++ [lblI (lb p 2)] ++ [⟨⟨#[108, 111, 97, 100]⟩, 0, 7, 0, no⟩, showI f] ++ [lblI (lb p 1)] = gCode p (gEnter f) := by
 rcases hf with rfl | rfl <;> rfl
theorem gcode_enter4 (p : ByteArray) : outerD addO 0 (lb p 2) (lb p 1) ++ [lblI (lb p 2)] ++ (joinD p 2 ++ [⟨⟨#[108, 111, 97, 100]⟩, 0, 7, 0, no⟩, showI 4]) ++ [lblI (lb p 1)] = gCode p (gEnter 4) := rfl
theorem gcode_leave {f : Nat} (hf : f = 1 ∨ f = 2 ∨ f = 4) (p : ByteArray) : outerD subO 2 (lb p 2) (lb p 1) ++ [lblI (lb p 2)] ++ [showI f] ++ [lblI (lb p 1)] = gCode p (gLeave f) := by
 rcases hf with rfl | rfl | rfl <;> rfl
theorem gcode_rest (p : ByteArray) : (⟨⟨#[122, 101, 114, 111]⟩, 6, 0, 0, lb p 1⟩ :: (restD (lb p 1) ++ [lblI (lb p 1)]) : List Ins) = gCode p (gRest 3) := rfl
theorem gcode_gone (p : ByteArray) : (⟨⟨#[122, 101, 114, 111]⟩, 6, 0, 0, lb p 1⟩ :: (goneD ++ [lblI (lb p 1)]) : List Ins) = gCode p (gGone 3) := rfl
theorem gcode_wait {f : Nat} (hf : f = 1 ∨ f = 2 ∨ f = 4) (p : ByteArray) : waitD f p 0 = gCode p (gWait f) := by
 rcases hf with rfl | rfl | rfl <;> rfl
theorem gcode_wait3 (p : ByteArray) : ((⟨⟨#[122, 101, 114, 111]⟩, 6, 0, 0, lb p 1⟩ :: (away1D ++ [lblI (lb p 1)])) ++ waitD 3 p 1 ++ (⟨⟨#[122, 101, 114, 111]⟩, 6, 0, 0, lb p 5⟩ :: (away2D (lb p 5) ++ [lblI (lb p 5)])) : List Ins) = gCode p (gWait 3) := rfl
theorem enter1_all {f : Nat} (hf : 1 <= f /\ f <= 4) {p : ByteArray} (hp : p.size <= 4) : ∃ k', ∀ b : Nat, Adds 101 #[.pointer (some ⟨b, 0, none⟩)] b f p 0 k' [] (gCode p (gEnter f)) 300 := by
 have hp : p.size <= 1000 := by omega
 have h : f = 1 ∨ f = 2 ∨ f = 3 ∨ f = 4 := by omega
 rcases h with rfl | rfl | rfl | rfl
 ·exact ⟨_, fun b => by rw [<- gcode_enter (.inl rfl)]; exact (enter1_any (k := 0) (by decide) (by decide) hp (by decide) fun x1 => (enter11_plain (by decide) x1).mono (by decide)).mono (by decide)⟩
 ·exact ⟨_, fun b => by rw [<- gcode_enter (.inr rfl)]; exact (enter1_any (k := 0) (by decide) (by decide) hp (by decide) fun x1 => (enter11_plain (by decide) x1).mono (by decide)).mono (by decide)⟩
 ·exact ⟨_, fun b => (enter1_none rfl).mono (by decide)⟩
 ·exact ⟨_, fun b => by rw [<- gcode_enter4]; exact (enter1_any (k := 0) (by decide) (by decide) hp (by show 14 <= 50; decide) fun x1 => enter11_joins rfl (by decide) hp x1).mono (by decide)⟩
theorem leave1_all {f : Nat} (hf : 1 <= f /\ f <= 4) {p : ByteArray} (hp : p.size <= 4) : ∃ k', ∀ b : Nat, Adds 106 #[.pointer (some ⟨b, 0, none⟩)] b f p 0 k' [] (gCode p (gLeave f)) 300 := by
 have hp : p.size <= 1000 := by omega
 by_cases h : f = 3
 ·subst h; exact ⟨_, fun b => (leave1_none rfl).mono (by decide)⟩
 ·exact ⟨_, fun b => by rw [<- gcode_leave (by omega)]; exact (leave1_any (k := 0) h (by decide) hp).mono (by decide)⟩
theorem rest1_all {f : Nat} (hf : 1 <= f /\ f <= 4) {p : ByteArray} (hp : p.size <= 4) : ∃ k', ∀ b : Nat, Adds 107 #[.pointer (some ⟨b, 0, none⟩)] b f p 0 k' [] (gCode p (gRest f)) 300 := by
 have hp : p.size <= 1000 := by omega
 by_cases h : f = 3
 ·subst h; exact ⟨_, fun b => by rw [<- gcode_rest]; exact (rest1_any (k := 0) rfl (by decide) hp).mono (by decide)⟩
 ·exact ⟨_, fun b => by rw [show gCode p (gRest f) = [] by unfold gRest; rw [if_neg h]; rfl]; exact (rest1_none h).mono (by decide)⟩
theorem gone1_all {f : Nat} (hf : 1 <= f /\ f <= 4) {p : ByteArray} (hp : p.size <= 4) : ∃ k', ∀ b : Nat, Adds 93 #[.pointer (some ⟨b, 0, none⟩)] b f p 0 k' [] (gCode p (gGone f)) 300 := by
 have hp : p.size <= 1000 := by omega
 by_cases h : f = 3
 ·subst h; exact ⟨_, fun b => by rw [<- gcode_gone]; exact (gone1_any (k := 0) rfl (by decide) hp).mono (by decide)⟩
 ·exact ⟨_, fun b => by rw [show gCode p (gGone f) = [] by unfold gGone; rw [if_neg h]; rfl]; exact (gone1_none h).mono (by decide)⟩
theorem wait1_all {f : Nat} (hf : 1 <= f /\ f <= 4) {p : ByteArray} (hp : p.size <= 4) : ∃ k', ∀ b : Nat, Adds 110 #[.pointer (some ⟨b, 0, none⟩)] b f p 0 k' [] (gCode p (gWait f)) 300 := by
 have hp : p.size <= 1000 := by omega
 by_cases h : f = 3
 ·subst h; exact ⟨_, fun b => by rw [<- gcode_wait3]; exact wait1_counts (k := 0) rfl (by decide) hp⟩
 ·exact ⟨_, fun b => by rw [<- gcode_wait (by omega)]; exact (wait1_plain (k := 0) h (by decide) hp).mono (by decide)⟩
theorem enter_ok {f : Nat} (hf : 1 <= f /\ f <= 4) {p : ByteArray} (hp : isName p) (hs : p.size <= 4) (w : World) :
  Calls Tryz.prog 59 #[.int .i64 f, .string p] w fun e w' => ∃ v, e = .returned (.tuple #[v, .nilIface]) /\ insOwn w' w.heap.size v (gCode p (gEnter f)) /\ Below w.heap.size w w' := by
 have hmf := @hmf_any
 obtain ⟨k', hc⟩ := enter1_all hf hs
 have HM := hide (made_ok hf hp hs (fun _ _ => rfl) hc w)
 clear hc hf hp hs
 generalize gCode p (gEnter f) = D at *
 generalize (f : Int) = fi at *
 go_enter Tryz.func59, Tryz.ntmps59
 go_wp2_with (go_at_call 92; refine HM.out.mono ?_; rintro e wq ⟨v, rfl, hv⟩)
 go_ret2
 exact ⟨v, rfl, hv⟩
theorem leave_ok {f : Nat} (hf : 1 <= f /\ f <= 4) {p : ByteArray} (hp : isName p) (hs : p.size <= 4) (w : World) :
  Calls Tryz.prog 60 #[.int .i64 f, .string p] w fun e w' => ∃ v, e = .returned (.tuple #[v, .nilIface]) /\ insOwn w' w.heap.size v (gCode p (gLeave f)) /\ Below w.heap.size w w' := by
 have hmf := @hmf_any
 obtain ⟨k', hc⟩ := leave1_all hf hs
 have HM := hide (made_ok hf hp hs (fun _ _ => rfl) hc w)
 clear hc hf hp hs
 generalize gCode p (gLeave f) = D at *
 generalize (f : Int) = fi at *
 go_enter Tryz.func60, Tryz.ntmps60
 go_wp2_with (go_at_call 92; refine HM.out.mono ?_; rintro e wq ⟨v, rfl, hv⟩)
 go_ret2
 exact ⟨v, rfl, hv⟩
theorem rest_ok {f : Nat} (hf : 1 <= f /\ f <= 4) {p : ByteArray} (hp : isName p) (hs : p.size <= 4) (w : World) :
  Calls Tryz.prog 61 #[.int .i64 f, .string p] w fun e w' => ∃ v, e = .returned (.tuple #[v, .nilIface]) /\ insOwn w' w.heap.size v (gCode p (gRest f)) /\ Below w.heap.size w w' := by
 have hmf := @hmf_any
 obtain ⟨k', hc⟩ := rest1_all hf hs
 have HM := hide (made_ok hf hp hs (fun _ _ => rfl) hc w)
 clear hc hf hp hs
 generalize gCode p (gRest f) = D at *
 generalize (f : Int) = fi at *
 go_enter Tryz.func61, Tryz.ntmps61
 go_wp2_with (go_at_call 92; refine HM.out.mono ?_; rintro e wq ⟨v, rfl, hv⟩)
 go_ret2
 exact ⟨v, rfl, hv⟩
theorem gone_ok {f : Nat} (hf : 1 <= f /\ f <= 4) {p : ByteArray} (hp : isName p) (hs : p.size <= 4) (w : World) :
  Calls Tryz.prog 57 #[.int .i64 f, .string p] w fun e w' => ∃ v, e = .returned (.tuple #[v, .nilIface]) /\ insOwn w' w.heap.size v (gCode p (gGone f)) /\ Below w.heap.size w w' := by
 have hmf := @hmf_any
 obtain ⟨k', hc⟩ := gone1_all hf hs
 have HM := hide (made_ok hf hp hs (fun _ _ => rfl) hc w)
 clear hc hf hp hs
 generalize gCode p (gGone f) = D at *
 generalize (f : Int) = fi at *
 go_enter Tryz.func57, Tryz.ntmps57
 go_wp2_with (go_at_call 92; refine HM.out.mono ?_; rintro e wq ⟨v, rfl, hv⟩)
 go_ret2
 exact ⟨v, rfl, hv⟩
theorem wait_ok {f : Nat} (hf : 1 <= f /\ f <= 4) {p : ByteArray} (hp : isName p) (hs : p.size <= 4) (w : World) :
  Calls Tryz.prog 62 #[.int .i64 f, .string p] w fun e w' => ∃ v, e = .returned (.tuple #[v, .nilIface]) /\ insOwn w' w.heap.size v (gCode p (gWait f)) /\ Below w.heap.size w w' := by
 have hmf := @hmf_any
 obtain ⟨k', hc⟩ := wait1_all hf hs
 have HM := hide (made_ok hf hp hs (fun _ _ => rfl) hc w)
 clear hc hf hp hs
 generalize gCode p (gWait f) = D at *
 generalize (f : Int) = fi at *
 go_enter Tryz.func62, Tryz.ntmps62
 go_wp2_with (go_at_call 92; refine HM.out.mono ?_; rintro e wq ⟨v, rfl, hv⟩)
 go_ret2
 exact ⟨v, rfl, hv⟩
end
section
open Go.RowKit
def gOk (s : List GI) : Bool := s.all fun i => match i with
 | .label k => decide (k <= 9)
 | .zero _ l => decide (l <= 9) && (gLab l s 0).isSome
 | .same _ _ l => decide (l <= 9) && (gLab l s 0).isSome
 | .goto l => decide (l <= 9) && (gLab l s 0).isSome
 | _ => true
theorem gLab_at {l : Nat} : ∀ {s : List GI} {i j : Nat}, gLab l s i = some j -> i <= j /\ s[j - i]? = some (.label l) /\ ∀ k, k < j - i -> s[k]? ≠ some (.label l)
 | [], _, _, h => by cases h
 | x :: r, i, j, h => by
  by_cases e : x = .label l
  ·subst e
   have h' : (if l = l then some i else gLab l r (i + 1)) = some j := h
   rw [if_pos rfl] at h'
   cases h'
   refine ⟨Nat.le_refl _, by rw [Nat.sub_self]; rfl, fun k hk => absurd hk (by omega)⟩
  ·have h' : gLab l r (i + 1) = some j := by
    cases x with
    | label k =>
     have h2 : (if k = l then some i else gLab l r (i + 1)) = some j := h
     rwa [if_neg (fun e2 => e (by rw [e2]))] at h2
    | _ => exact h
   obtain ⟨h1, h2, h3⟩ := gLab_at h'
   refine ⟨by omega, ?_, fun k hk => ?_⟩
   ·rw [show j - i = (j - (i + 1)) + 1 by omega]
    exact h2
   ·cases k with
    | zero => exact fun e2 => e (by simpa using e2)
    | succ k => exact h3 k (by omega)
theorem setPc_setPc (m : Mk) (t a b : Nat) : (m.setPc t a).setPc t b = m.setPc t b := by
 unfold Mk.setPc
 simp only [Mk.mk.injEq, true_and, and_true]
 funext u
 by_cases e : u = t
 ·rw [if_pos e, if_pos e]
 ·rw [if_neg e, if_neg e, if_neg e]
def vw (m : Mk) (t : Nat) (c : Nat) (g : Int) (k : Nat) : Int := (m.mem.waits t).foldl (Wt.pick c g k) (m.mem.ar.words c k)
def rf (m : Mk) (c : Nat) : Int := ((m.mem.ar.given c : Int) - 1) * 64 + c + 1
structure Live (m : Mk) (c : Nat) : Prop where
 lt : c < m.mem.ar.size
 there : m.mem.ar.there c = true
 given : 0 < m.mem.ar.given c
 small : m.mem.ar.size <= 64
def gn (m : Mk) (c : Nat) : Int := (m.mem.ar.given c : Int) - 1
theorem rf_cell {m : Mk} {c : Nat} (h : Live m c) : cellOf (rf m c) = c /\ genOf (rf m c) = gn m c := by
 have h1 := h.lt
 have h2 := h.small
 unfold cellOf genOf rf gn
 constructor <;> omega
theorem rf_pos {m : Mk} {c : Nat} (h : Live m c) : 0 < rf m c := by
 have h1 := h.given
 unfold rf
 omega
theorem has_iff {s : Ar} {c : Nat} {g : Int} (hs : c < s.size) : s.has c g = true ↔ s.there c = true /\ g = (s.given c : Int) - 1 := by
 unfold Ar.has
 simp only [Bool.and_eq_true, decide_eq_true_eq, beq_iff_eq, Int.toNat_natCast]
 constructor
 ·rintro ⟨⟨-, h1⟩, h2⟩; exact ⟨h1, h2⟩
 ·rintro ⟨h1, h2⟩; exact ⟨⟨by omega, h1⟩, h2⟩
theorem Live.has {m : Mk} {c : Nat} (h : Live m c) : m.mem.ar.has c (gn m c) = true := (has_iff h.lt).2 ⟨h.there, rfl⟩
theorem Live.names {m : Mk} {c : Nat} (h : Live m c) : m.names (rf m c) = true := by
 unfold Mk.names
 rw [(rf_cell h).1, (rf_cell h).2, h.has]
 have := rf_pos h
 have e : (rf m c == 0) = false := by rw [beq_eq_false_iff_ne]; omega
 rw [e]; rfl
theorem Live.loaded {m : Mk} {c : Nat} (h : Live m c) (t k : Nat) : m.loaded t (rf m c) k = vw m t c (gn m c) k := by
 unfold Mk.loaded vw
 rw [(rf_cell h).1, (rf_cell h).2, Int.toNat_natCast, Int.toNat_natCast]
theorem load_live {m : Mk} {c : Nat} (h : Live m c) (t r k : Nat) : m.load t r (rf m c) k = m.setReg t r (vw m t c (gn m c) k) := by
 unfold Mk.load
 rw [if_pos h.names, h.loaded]
structure SameCells (m m' : Mk) : Prop where
 size : m'.mem.ar.size = m.mem.ar.size
 there : m'.mem.ar.there = m.mem.ar.there
 given : m'.mem.ar.given = m.mem.ar.given
theorem SameCells.refl (m : Mk) : SameCells m m := ⟨rfl, rfl, rfl⟩
theorem SameCells.trans {a b c : Mk} (h : SameCells a b) (k : SameCells b c) : SameCells a c := ⟨k.size.trans h.size, k.there.trans h.there, k.given.trans h.given⟩
theorem SameCells.live {m m' : Mk} (h : SameCells m m') {c : Nat} (k : Live m c) : Live m' c := ⟨by rw [h.size]; exact k.lt, by rw [h.there]; exact k.there, by rw [h.given]; exact k.given, by rw [h.size]; exact k.small⟩
theorem SameCells.rf {m m' : Mk} (h : SameCells m m') (c : Nat) : rf m' c = rf m c := by unfold Go.Proofs.YtaiigfcfmcicjaaGreatDoor.rf; rw [h.given]
theorem SameCells.gn {m m' : Mk} (h : SameCells m m') (c : Nat) : gn m' c = gn m c := by unfold Go.Proofs.YtaiigfcfmcicjaaGreatDoor.gn; rw [h.given]
theorem foldl_snoc (l : List Wt) (x : Wt) (c g k v : Int) : (l ++ [x]).foldl (Wt.pick c g k) v = Wt.pick c g k (l.foldl (Wt.pick c g k) v) x := by
 rw [List.foldl_append]; rfl
theorem foldl_none {c g k : Int} : ∀ {l : List Wt} {v : Int}, (∀ x ∈ l, ¬ (x.c = c /\ x.g = g /\ x.w = k)) -> l.foldl (Wt.pick c g k) v = v
 | [], _, _ => rfl
 | x :: l, v, h => by
  rw [List.foldl_cons]
  have : Wt.pick c g k v x = v := if_neg (h x List.mem_cons_self)
  rw [this]
  exact foldl_none (fun y hy => h y (List.mem_cons_of_mem _ hy))
structure Drained (m m' : Mk) (t : Nat) (x : Wt) (l : List Wt) : Prop where
 cells : SameCells m m'
 thr : m'.mem.threads = m.mem.threads
 own : m'.mem.waits t = l
 was : m.mem.waits t = x :: l
 waits : ∀ u, u ≠ t -> m'.mem.waits u = m.mem.waits u
 regs : m'.regs = m.regs
 pc : m'.pc = m.pc
 words : ∀ c k, m'.mem.ar.words c k = if c = x.c.toNat /\ k = x.w.toNat /\ m.mem.ar.has x.c x.g = true then x.v else m.mem.ar.words c k
 faults : m'.faults = m.faults + if m.mem.ar.has x.c x.g = true then 0 else 1
theorem drain1_cons {m : Mk} {t : Nat} {x : Wt} {l : List Wt} (h : m.mem.waits t = x :: l) : Drained m (m.drain1 t) t x l := by
 have e : m.drain1 t = { m with mem := m.mem.drained t x l, faults := m.faults + if m.mem.ar.has x.c x.g = true then 0 else 1 } := by
  unfold Mk.drain1
  rw [h]
 rw [e]
 refine ⟨⟨(Rm.drained_ar _ _ _ _).1, (Rm.drained_ar _ _ _ _).2.1, (Rm.drained_ar _ _ _ _).2.2⟩, Rm.drained_threads _ _ _ _, Rm.drained_waits _ _ _ _, h, fun u hu => Rm.drained_waits_ne _ _ _ _ _ hu, rfl, rfl, fun c k => ?_, rfl⟩
 show (m.mem.drained t x l).ar.words c k = _
 unfold Rm.drained
 by_cases hh : m.mem.ar.has x.c x.g = true
 ·rw [if_pos hh]
  show (if c = x.c.toNat /\ k = x.w.toNat then x.v else m.mem.ar.words c k) = _
  by_cases e : c = x.c.toNat /\ k = x.w.toNat
  ·rw [if_pos e, if_pos ⟨e.1, e.2, hh⟩]
  ·rw [if_neg e, if_neg (fun e2 => e ⟨e2.1, e2.2.1⟩)]
 ·rw [if_neg hh, if_neg (fun e2 => hh e2.2.2)]; rfl
theorem drain1_nil {m : Mk} {t : Nat} (h : m.mem.waits t = []) : m.drain1 t = m := by
 unfold Mk.drain1
 rw [h]
theorem Drained.vw {m m' : Mk} {t : Nat} {x : Wt} {l : List Wt} (h : Drained m m' t x l) {c : Nat} (hc : Live m c) (hx : 0 <= x.c /\ 0 <= x.w) (k : Nat) : vw m' t c (gn m c) k = vw m t c (gn m c) k := by
 unfold Go.Proofs.YtaiigfcfmcicjaaGreatDoor.vw
 rw [h.own, h.was, List.foldl_cons, h.words]
 congr 1
 unfold Wt.pick
 by_cases e : x.c = c /\ x.g = gn m c /\ x.w = k
 ·rw [if_pos e]
  obtain ⟨e1, e2, e3⟩ := e
  rw [if_pos ⟨by omega, by omega, by rw [e1, e2]; exact hc.has⟩]
 ·rw [if_neg e, if_neg]
  rintro ⟨e1, e2, e3⟩
  have ec : x.c = c := by omega
  refine e ⟨ec, ?_, by omega⟩
  rw [ec] at e3
  exact ((has_iff hc.lt).1 e3).2
theorem Drained.vw_ne {m m' : Mk} {t u : Nat} {x : Wt} {l : List Wt} (h : Drained m m' t x l) (hu : u ≠ t) {c : Nat} (hc : c ≠ x.c.toNat) (g : Int) (k : Nat) : Go.Proofs.YtaiigfcfmcicjaaGreatDoor.vw m' u c g k = Go.Proofs.YtaiigfcfmcicjaaGreatDoor.vw m u c g k := by
 unfold Go.Proofs.YtaiigfcfmcicjaaGreatDoor.vw
 rw [h.waits u hu, h.words, if_neg (fun e => hc e.1)]
theorem fence_of {P : Mk -> Prop} {t : Nat} (hd : ∀ m, P m -> P (m.drain1 t)) : ∀ {m : Mk}, P m -> P (m.fence t) := by
 have key : ∀ (l : List Wt) (m : Mk), m.mem.waits t = l -> P m -> P { m with mem := m.mem.drainAll t l, faults := m.faults + m.mem.gone t l } := by
  intro l
  induction l with
  | nil => intro m _ h; exact h
  | cons x l ih =>
   intro m hm h
   have e : m.drain1 t = { m with mem := m.mem.drained t x l, faults := m.faults + if m.mem.ar.has x.c x.g = true then 0 else 1 } := by
    unfold Mk.drain1
    rw [hm]
   have h1 := hd m h
   rw [e] at h1
   have := ih _ (Rm.drained_waits m.mem t x l) h1
   have e2 : m.faults + (if m.mem.ar.has x.c x.g = true then 0 else 1) + (m.mem.drained t x l).gone t l = m.faults + m.mem.gone t (x :: l) := by
    show _ = m.faults + ((if m.mem.ar.has x.c x.g = true then 0 else 1) + (m.mem.drained t x l).gone t l)
    omega
   dsimp only at this
   rw [e2] at this
   exact this
 intro m h
 exact key _ m rfl h
theorem fence_waits_ne (m : Mk) (t : Nat) {u : Nat} (h : u ≠ t) : (m.fence t).mem.waits u = m.mem.waits u := Rm.drainAll_waits_ne _ _ _ h _
theorem force_waits (k : Nat) : ∀ (m : Mk) (t u : Nat), (t <= u /\ u < t + k ∨ m.mem.waits u = []) -> (m.fenceFrom t k).mem.waits u = [] := by
 induction k with
 | zero =>
  intro m t u h
  rcases h with h | h
  ·omega
  ·exact h
 | succ k ih =>
  intro m t u h
  refine ih (m.fence t) (t + 1) u ?_
  by_cases e : u = t
  ·subst e
   exact .inr (Rm.drainAll_waits _ _ _ rfl)
  ·rcases h with h | h
   ·exact .inl ⟨by omega, by omega⟩
   ·exact .inr (by rw [fence_waits_ne m t e]; exact h)
theorem setReg_reg (m : Mk) (t r : Nat) (v : Int) (k : Nat) : (m.setReg t r v).regs t k = if k = r then v else m.regs t k := by
 show (if t = t /\ k = r then v else m.regs t k) = _
 by_cases e : k = r
 ·rw [if_pos ⟨rfl, e⟩, if_pos e]
 ·rw [if_neg (fun h => e h.2), if_neg e]
theorem setReg_other (m : Mk) (t r : Nat) (v : Int) {u : Nat} (hu : u ≠ t) : (m.setReg t r v).regs u = m.regs u := by
 funext k
 exact if_neg (fun h => hu h.1)
theorem drain1_regs (m : Mk) (t : Nat) : (m.drain1 t).regs = m.regs /\ (m.drain1 t).pc = m.pc := by
 unfold Mk.drain1
 split <;> exact ⟨rfl, rfl⟩
theorem fenceFrom_regs : ∀ (k : Nat) (m : Mk) (t : Nat), (m.fenceFrom t k).regs = m.regs /\ (m.fenceFrom t k).pc = m.pc
 | 0, _, _ => ⟨rfl, rfl⟩
 | k + 1, m, t => fenceFrom_regs k (m.fence t) (t + 1)
theorem store_live {m : Mk} {c : Nat} (h : Live m c) (t k : Nat) (v : Int) : m.store t (rf m c) k v = (m.room t).put t (rf m c) k v := by
 unfold Mk.store
 rw [if_pos h.names]
theorem room_of {P : Mk -> Prop} {t : Nat} {m : Mk} (hd : ∀ m, P m -> P (m.drain1 t)) (h : P m) : P (m.room t) := by
 unfold Mk.room
 split
 ·exact hd m h
 ·exact h
theorem room_regs (m : Mk) (t : Nat) : (m.room t).regs = m.regs /\ (m.room t).pc = m.pc := by
 unfold Mk.room
 split
 ·exact drain1_regs m t
 ·exact ⟨rfl, rfl⟩
variable {L : List Ins}
def labelAtB (l : List Ins) (to : List UInt8) : Option Nat := l.findIdx? (fun x => (bl x.op == [108, 97, 98, 101, 108]) && (bl x.to == to))
theorem labelAt_B (l : List Ins) (to : ByteArray) : labelAt l to = match labelAtB l (bl to) with
  | some j => (j : Int)
  | none => -1 := by
 unfold labelAt labelAtB
 rw [show (fun x => setsLabel x to) = (fun x => (bl x.op == [108, 97, 98, 101, 108]) && (bl x.to == bl to)) from funext fun x => by unfold setsLabel; rw [toList_bl, toList_bl, toList_bl]]
 rfl
def nameB (l : List UInt8) : Bool := decide (1 <= l.length) && (decide (l.length <= 12) && (List.range l.length).all fun j => nameOk j (l.getD j 0).toNat)
theorem nameB_is {s : ByteArray} (h : nameB (bl s) = true) : isName s := by
 unfold nameB at h
 simp only [Bool.and_eq_true, decide_eq_true_eq, List.all_eq_true, List.mem_range] at h
 obtain ⟨h1, h2, h3⟩ := h
 have hz : s.size = (bl s).length := size_bl s
 refine ⟨by omega, by omega, fun j hj => ?_⟩
 have := h3 j (by omega)
 rw [List.getD_eq_getElem?_getD, List.getElem?_eq_getElem (by omega)] at this
 exact this
def shapeGood (x : Ins) (l : List UInt8) : Bool :=
 ((lab ⟨l.toArray⟩ l.length || (bl x.to == [])) && (!(lab ⟨l.toArray⟩ l.length) || nameB (bl x.to))) &&
 (List.range 3).all fun k => if k < cnt ⟨l.toArray⟩ l.length then decide (0 <= x.n k /\ x.n k < mostOf (byteAt ⟨l.toArray⟩ k)) else decide (x.n k = 0)
def insGood (L : List Ins) (i : Nat) (x : Ins) : Bool := match shape (bl x.op) with
 | none => false
 | some l => shapeGood x l && ((!(bl x.op == [108, 97, 98, 101, 108]) || labelAtB L (bl x.to) == some i) && ((bl x.to == []) || (labelAtB L (bl x.to)).isSome))
theorem insGood_is {i : Nat} {x : Ins} (h : insGood L i x = true) : insFault L i x = 0 := by
 unfold insGood at h
 cases hs : shape (bl x.op) with
 | none => rw [hs] at h; cases h
 | some l =>
  rw [hs] at h
  simp only [Bool.and_eq_true] at h
  obtain ⟨h1, h2, h3⟩ := h
  unfold shapeGood at h1
  simp only [Bool.and_eq_true, List.all_eq_true, List.mem_range] at h1
  obtain ⟨⟨g1, g2⟩, g3⟩ := h1
  have hsz : (⟨l.toArray⟩ : ByteArray).size = l.length := by simp [ByteArray.size]
  have he : insErr x = 0 := by
   unfold insErr
   rw [toList_bl, hs]
   show insBad x ⟨l.toArray⟩ = 0
   unfold insBad
   rw [hsz, if_neg, if_neg, if_neg, if_neg]
   ·rintro ⟨e1, e2⟩
    rw [e1] at g2
    exact e2 (nameB_is (by simpa using g2))
   ·rintro ⟨k, hk, e⟩
    have := cnt_le ⟨l.toArray⟩ l.length
    have hl := shape_le hs
    have g := g3 k (by omega)
    rw [if_pos hk] at g
    exact e (by simpa using g)
   ·rintro ⟨k, hk, hk3, e⟩
    have g := g3 k hk3
    rw [if_neg (by omega)] at g
    exact e (by simpa using g)
   ·rintro ⟨e1, e2⟩
    rw [e1, Bool.false_or] at g1
    rw [toList_bl] at e2
    exact e2 (by simpa using g1)
  unfold insFault
  rw [if_neg (by rw [he]; simp), if_neg, if_neg]
  ·rintro ⟨e1, e2⟩
   rw [toList_bl] at e1
   rw [e1, Bool.false_or] at h3
   rw [labelAt_B] at e2
   cases hb : labelAtB L (bl x.to) with
   | none => rw [hb] at h3; cases h3
   | some j => rw [hb] at e2; exact absurd e2 (by simp)
  ·rintro ⟨e1, e2⟩
   rw [toList_bl] at e1
   rw [e1, Bool.not_true, Bool.false_or] at h2
   rw [labelAt_B, show labelAtB L (bl x.to) = some i by simpa using h2] at e2
   exact e2 rfl
def codeGood (L : List Ins) : Bool := decide (L.length <= 2000) && (List.range L.length).all fun i => match L[i]? with
 | none => true
 | some x => insGood L i x
theorem faultFrom_good : ∀ (r : List Ins) (j : Nat), (∀ (k : Nat) x, r[k]? = some x -> insFault L (j + k) x = 0) -> faultFrom L j r = (0, -1)
 | [], _, _ => rfl
 | y :: r, j, h => by
  unfold faultFrom
  rw [if_pos (by simpa using h 0 y rfl)]
  exact faultFrom_good r (j + 1) (fun k x hx => by rw [show j + 1 + k = j + (k + 1) by omega]; exact h (k + 1) x (by simpa using hx))
end
end Go.Proofs.YtaiigfcfmcicjaaGreatDoor
