import Derived.Test.YtaiigfcfmcicjaaGreatDoorB22
import Derived.Test.YtaiigfcfmcicjaaGreatDoorB17

/- GdQ -/
namespace Go.Proofs.YtaiigfcfmcicjaaGreatDoor
open Go.RowKit Go.Extern.Stop Go.Stop Go.Extern Go.Maps Go.WideMaps Go.Sort

set_option maxRecDepth 20000 in
set_option maxHeartbeats 1000000 in
theorem wait1_by {b f : Nat} {p : ByteArray} {k k' : Nat} {D : List Ins} {N : Nat} (ha : ∀ x1, Adds 111 #[.pointer (some ⟨b, 0, none⟩), .func (.func 112) #[] #[.pointer (some ⟨x1, 0, none⟩)]] b f p k k' [(x1, mptr b)] D N) :
    Adds 110 #[.pointer (some ⟨b, 0, none⟩)] b f p k k' [] D N := by
  intro B w0 v0 L w h hB hL
  have hmf : ∀ (fn : Fn) (first cap : Array Value) (w : World), (Instr.makeFunc fn first cap).run Tryz.prog w = .ok (.func fn first cap) w := fun _ _ _ _ => rfl
  have HO := hide ha
  have HH := hide (h.box (mptr b) 156)
  clear ha h hB
  generalize (f : Int) = fi at *
  go_enter Tryz.func110, Tryz.ntmps110
  go_wp2_with (go_at_call 111; refine (HO.out w.heap.size _ w0 v0 _ _ HH.out (fun x hx => by
        simp only [List.mem_cons, List.not_mem_nil, or_false] at hx
        subst hx
        exact .head _) hL).mono ?_; rintro e wq ⟨rfl, hq⟩)
  go_end0
  exact ⟨rfl, hq.drop fun x hx => .tail _ hx⟩

set_option maxRecDepth 20000 in
theorem wait1_plain {b f : Nat} {p : ByteArray} {k : Nat} (hf : f ≠ 3) (hk : k + 3 ≤ 9) (hp : p.size ≤ 1000) : Adds 110 #[.pointer (some ⟨b, 0, none⟩)] b f p k (k + 3) [] (waitD f p k) 350 :=
  wait1_by fun x1 => away_plain hf (fun _ _ => rfl) (wait11_any hk hp x1)
theorem waitD_len (f : Nat) (p : ByteArray) (k : Nat) : (waitD f p k).length ≤ 100 := by
  unfold waitD eachD outD renD outlD gCode
  split <;> split <;> simp only [List.length_append, List.length_cons, List.length_nil, List.length_map] <;> omega
set_option maxRecDepth 20000 in
theorem wait1_counts {b f : Nat} {p : ByteArray} {k : Nat} (hf : f = 3) (hk : k + 5 ≤ 9) (hp : p.size ≤ 1000) : Adds 110 #[.pointer (some ⟨b, 0, none⟩)] b f p k (k + 5) [] ((⟨⟨#[122, 101, 114, 111]⟩, 6, 0, 0, lb p (k + 1)⟩ :: (away1D ++ [lblI (lb p (k + 1))])) ++ waitD f p (k + 1) ++ (⟨⟨#[122, 101, 114, 111]⟩, 6, 0, 0, lb p (k + 5)⟩ :: (away2D (lb p (k + 5)) ++ [lblI (lb p (k + 5))]))) 300 :=
  wait1_by fun x1 => away_counts (k' := k + 4) hf (by omega) (by omega) hp (waitD_len f p (k + 1)) (fun _ _ => rfl) (wait11_any (k := k + 1) (by omega) hp x1)
end Go.Proofs.YtaiigfcfmcicjaaGreatDoor

/- SpF -/
namespace Go.Proofs.YtaiigfcfmcicjaaGreatDoor
open Go.RowKit Go.Extern.Stop Go.Stop Go.Extern Go.Maps Go.WideMaps Go.Sort

theorem insOwn_mono {w : World} {base base' : Nat} {v : Value} {l : List Ins} (h : insOwn w base v l) (hb : base' ≤ base) : insOwn w base' v l := by
  obtain ⟨h1, h2⟩ := h
  refine ⟨h1, ?_⟩
  rcases h2 with h2 | ⟨g, cap, cur, e, hg, r⟩
  · exact .inl h2
  · exact .inr ⟨g, cap, cur, e, Nat.le_trans hb hg, r⟩

theorem insOwn_open {w : World} {base : Nat} {v : Value} {l : List Ins} (h : insOwn w base v l) (h1 : 0 < l.length) : ∃ ad cap, v = .slice (some ad) l.length cap ∧ insAt (some ad) l w := by
  obtain ⟨ad, cap, rfl, h2, h3, h4⟩ := insAt_of_icells h
  obtain ⟨y, hy⟩ : ∃ y, l[0]? = some y := ⟨_, List.getElem?_eq_getElem h1⟩
  obtain ⟨b, off, rfl, -⟩ := h4 0 y hy
  exact ⟨_, cap, rfl, h4⟩
theorem insOwn_new {w : World} {l : List Ins} {cs : Array Value} {base : Nat} (h : cs.toList = icells l) (hb : base ≤ w.heap.size) (hl : l.length ≤ 1000) : insOwn (w.alloc (.cells cs 101)) base (.slice (some ⟨w.heap.size, 0, none⟩) l.length l.length) l := by
  refine ⟨icells_len l, .inr ⟨w.heap.size, l.length, cs, rfl, hb, heap_new w _, Nat.le_refl _, by unfold maxLen; omega, ?_, ?_⟩⟩
  · rw [← Array.length_toList, h, icells_len]
  · rw [h, ← icells_len l, List.take_length]

end Go.Proofs.YtaiigfcfmcicjaaGreatDoor

/- GdR -/
namespace Go.Proofs.YtaiigfcfmcicjaaGreatDoor
open Go.RowKit Go.Extern.Stop Go.Stop Go.Extern Go.Maps Go.WideMaps Go.Sort

theorem fcheck_ok {f : Nat} (hf : 1 ≤ f ∧ f ≤ 4) (w : World) : Calls Tryz.prog 126 #[.int .i64 f] w fun e w' => e = .returned .nilIface ∧ w' = w := by
  have h1 : ¬ (f : Int) < 1 := by omega
  have h2 : ¬ 4 < (f : Int) := by omega
  clear hf
  go_enter Tryz.func126, Tryz.ntmps126
  go_wp2
  go_ret
  exact ⟨rfl, rfl⟩

theorem MAt.new {b : Nat} {f : Int} {p : ByteArray} {w : World} (c0 : w.cell? ⟨b, 0, none⟩ = some (.int .i64 f)) (c1 : w.cell? ⟨b, 1, none⟩ = some (.string p)) (c2 : w.cell? ⟨b, 2, none⟩ = some (.int .i64 0)) (c3 : w.cell? ⟨b, 3, none⟩ = some (.slice none 0 0)) (fz : ∀ o, w.frozen? ⟨b, o, none⟩ = false) (sz : b + 1 ≤ w.heap.size) : MAt b f p 0 [] w (.slice none 0 0) [] w :=
  ⟨_, ⟨c0, c1, c2, c3, fz, insOwn_nil _ _, sz⟩, LStep.refl _ _ _, fun _ hx => absurd hx List.not_mem_nil⟩
theorem MAt.made {b : Nat} {f : Int} {p : ByteArray} {k : Nat} {w0 : World} {L : List Ins} {w : World} {v0 : Value} (h : MAt b f p k [] w0 v0 L w) {base : Nat} (hb : base ≤ b) : ∃ v, w.cell? ⟨b, 3, none⟩ = some v ∧ insOwn w base v L ∧ Below b w0 w := by
  obtain ⟨v, h1, h2, -⟩ := h.out
  exact ⟨v, h1.c3, insOwn_mono h1.own (by omega), h2.low⟩

open Classical in
set_option maxRecDepth 20000 in
set_option maxHeartbeats 1000000 in
theorem made_ok {f : Nat} (hf : 1 ≤ f ∧ f ≤ 4) {p : ByteArray} (hp : isName p) (hs : p.size ≤ 4) {n : Nat} (hn : Fn.goes n) {k' : Nat} {D : List Ins} (hc : ∀ b : Nat, Adds n #[.pointer (some ⟨b, 0, none⟩)] b f p 0 k' [] D 300) (w : World) :
    Calls Tryz.prog 92 #[.int .i64 f, .string p, .func (.func n) #[] #[]] w fun e w' => ∃ v, e = .returned (.tuple #[v, .nilIface]) ∧ insOwn w' w.heap.size v D ∧ Below w.heap.size w w' := by
  have HK := hide (fcheck_ok hf)
  have HN : Hid (∀ w, Calls Tryz.prog 128 #[.string p] w fun e w' => e = .returned (.bool true) ∧ Below w.heap.size w w') := hide fun w => (pisName_any p w).mono fun _ _ ⟨h1, h2⟩ => ⟨by rw [h1, decide_eq_true hp], h2⟩
  have hsz : ¬ 4 < (p.size : Int) := by omega
  have HG := hide hn
  have HC := hide hc
  clear hn hc hs hp hf
  generalize (f : Int) = fi at *
  go_enter Tryz.func92, Tryz.ntmps92
  go_wp2_with (first
    | (go_at_call 126; refine (HK.out _).mono ?_; rintro e wq ⟨rfl, rfl⟩)
    | (go_at_call 128; refine (HN.out _).mono ?_; rintro e w1 ⟨rfl, hb⟩))
  have HM : Hid (MAt w1.heap.size fi p 0 [] (w1.alloc (.cells #[.int .i64 fi, .string p, .int .i64 0, .slice none 0 0] 161)) (.slice none 0 0) [] (w1.alloc (.cells #[.int .i64 fi, .string p, .int .i64 0, .slice none 0 0] 161))) := hide (MAt.new (World.cell?_alloc_new _ _ _ 0) (World.cell?_alloc_new _ _ _ 1) (World.cell?_alloc_new _ _ _ 2) (World.cell?_alloc_new _ _ _ 3) (fun o => World.frozen?_alloc_new _ _ _ o) (by simp))
  rw [HG.out, Oper.upon_enter]
  refine (HC.out w1.heap.size [] _ _ [] _ HM.out (fun _ hx => absurd hx List.not_mem_nil) (Nat.zero_le _)).mono ?_
  rintro e w2 ⟨rfl, h2⟩
  obtain ⟨v, c3, ho, hB⟩ := h2.made hb.size
  dsimp only
  go_wp2_with fail
  go_ret2
  exact ⟨v, rfl, ho, (hb.alloc hb.size _).trans (hB.mono hb.size)⟩

theorem gcode_enter {f : Nat} (hf : f = 1 ∨ f = 2) (p : ByteArray) : outerD addO 0 (lb p 2) (lb p 1) ++ [lblI (lb p 2)] ++ [⟨⟨#[108, 111, 97, 100]⟩, 0, 7, 0, no⟩, showI f] ++ [lblI (lb p 1)] = gCode p (gEnter f) := by
  rcases hf with rfl | rfl <;> rfl
theorem gcode_enter4 (p : ByteArray) : outerD addO 0 (lb p 2) (lb p 1) ++ [lblI (lb p 2)] ++ (joinD p 2 ++ [⟨⟨#[108, 111, 97, 100]⟩, 0, 7, 0, no⟩, showI 4]) ++ [lblI (lb p 1)] = gCode p (gEnter 4) := rfl
theorem gcode_leave {f : Nat} (hf : f = 1 ∨ f = 2 ∨ f = 4) (p : ByteArray) : outerD subO 2 (lb p 2) (lb p 1) ++ [lblI (lb p 2)] ++ [showI f] ++ [lblI (lb p 1)] = gCode p (gLeave f) := by
  rcases hf with rfl | rfl | rfl <;> rfl
theorem gcode_rest (p : ByteArray) : (⟨⟨#[122, 101, 114, 111]⟩, 6, 0, 0, lb p 1⟩ :: (restD (lb p 1) ++ [lblI (lb p 1)]) : List Ins) = gCode p (gRest 3) := rfl
theorem gcode_gone (p : ByteArray) : (⟨⟨#[122, 101, 114, 111]⟩, 6, 0, 0, lb p 1⟩ :: (goneD ++ [lblI (lb p 1)]) : List Ins) = gCode p (gGone 3) := rfl
theorem gcode_wait {f : Nat} (hf : f = 1 ∨ f = 2 ∨ f = 4) (p : ByteArray) : waitD f p 0 = gCode p (gWait f) := by
  rcases hf with rfl | rfl | rfl <;> rfl
theorem gcode_wait3 (p : ByteArray) : ((⟨⟨#[122, 101, 114, 111]⟩, 6, 0, 0, lb p 1⟩ :: (away1D ++ [lblI (lb p 1)])) ++ waitD 3 p 1 ++ (⟨⟨#[122, 101, 114, 111]⟩, 6, 0, 0, lb p 5⟩ :: (away2D (lb p 5) ++ [lblI (lb p 5)])) : List Ins) = gCode p (gWait 3) := rfl

theorem enter1_all {f : Nat} (hf : 1 ≤ f ∧ f ≤ 4) {p : ByteArray} (hp : p.size ≤ 4) : ∃ k', ∀ b : Nat, Adds 101 #[.pointer (some ⟨b, 0, none⟩)] b f p 0 k' [] (gCode p (gEnter f)) 300 := by
  have hp : p.size ≤ 1000 := by omega
  have h : f = 1 ∨ f = 2 ∨ f = 3 ∨ f = 4 := by omega
  rcases h with rfl | rfl | rfl | rfl
  · exact ⟨_, fun b => by rw [← gcode_enter (.inl rfl)]; exact (enter1_any (k := 0) (by decide) (by decide) hp (by decide) fun x1 => (enter11_plain (by decide) x1).mono (by decide)).mono (by decide)⟩
  · exact ⟨_, fun b => by rw [← gcode_enter (.inr rfl)]; exact (enter1_any (k := 0) (by decide) (by decide) hp (by decide) fun x1 => (enter11_plain (by decide) x1).mono (by decide)).mono (by decide)⟩
  · exact ⟨_, fun b => (enter1_none rfl).mono (by decide)⟩
  · exact ⟨_, fun b => by rw [← gcode_enter4]; exact (enter1_any (k := 0) (by decide) (by decide) hp (by show 14 ≤ 50; decide) fun x1 => enter11_joins rfl (by decide) hp x1).mono (by decide)⟩
theorem leave1_all {f : Nat} (hf : 1 ≤ f ∧ f ≤ 4) {p : ByteArray} (hp : p.size ≤ 4) : ∃ k', ∀ b : Nat, Adds 106 #[.pointer (some ⟨b, 0, none⟩)] b f p 0 k' [] (gCode p (gLeave f)) 300 := by
  have hp : p.size ≤ 1000 := by omega
  by_cases h : f = 3
  · subst h; exact ⟨_, fun b => (leave1_none rfl).mono (by decide)⟩
  · exact ⟨_, fun b => by rw [← gcode_leave (by omega)]; exact (leave1_any (k := 0) h (by decide) hp).mono (by decide)⟩
theorem rest1_all {f : Nat} (hf : 1 ≤ f ∧ f ≤ 4) {p : ByteArray} (hp : p.size ≤ 4) : ∃ k', ∀ b : Nat, Adds 107 #[.pointer (some ⟨b, 0, none⟩)] b f p 0 k' [] (gCode p (gRest f)) 300 := by
  have hp : p.size ≤ 1000 := by omega
  by_cases h : f = 3
  · subst h; exact ⟨_, fun b => by rw [← gcode_rest]; exact (rest1_any (k := 0) rfl (by decide) hp).mono (by decide)⟩
  · exact ⟨_, fun b => by rw [show gCode p (gRest f) = [] by unfold gRest; rw [if_neg h]; rfl]; exact (rest1_none h).mono (by decide)⟩
theorem gone1_all {f : Nat} (hf : 1 ≤ f ∧ f ≤ 4) {p : ByteArray} (hp : p.size ≤ 4) : ∃ k', ∀ b : Nat, Adds 93 #[.pointer (some ⟨b, 0, none⟩)] b f p 0 k' [] (gCode p (gGone f)) 300 := by
  have hp : p.size ≤ 1000 := by omega
  by_cases h : f = 3
  · subst h; exact ⟨_, fun b => by rw [← gcode_gone]; exact (gone1_any (k := 0) rfl (by decide) hp).mono (by decide)⟩
  · exact ⟨_, fun b => by rw [show gCode p (gGone f) = [] by unfold gGone; rw [if_neg h]; rfl]; exact (gone1_none h).mono (by decide)⟩
theorem wait1_all {f : Nat} (hf : 1 ≤ f ∧ f ≤ 4) {p : ByteArray} (hp : p.size ≤ 4) : ∃ k', ∀ b : Nat, Adds 110 #[.pointer (some ⟨b, 0, none⟩)] b f p 0 k' [] (gCode p (gWait f)) 300 := by
  have hp : p.size ≤ 1000 := by omega
  by_cases h : f = 3
  · subst h; exact ⟨_, fun b => by rw [← gcode_wait3]; exact wait1_counts (k := 0) rfl (by decide) hp⟩
  · exact ⟨_, fun b => by rw [← gcode_wait (by omega)]; exact (wait1_plain (k := 0) h (by decide) hp).mono (by decide)⟩

set_option maxRecDepth 20000 in
theorem enter_ok {f : Nat} (hf : 1 ≤ f ∧ f ≤ 4) {p : ByteArray} (hp : isName p) (hs : p.size ≤ 4) (w : World) :
    Calls Tryz.prog 59 #[.int .i64 f, .string p] w fun e w' => ∃ v, e = .returned (.tuple #[v, .nilIface]) ∧ insOwn w' w.heap.size v (gCode p (gEnter f)) ∧ Below w.heap.size w w' := by
  have hmf : ∀ (fn : Fn) (first cap : Array Value) (w : World), (Instr.makeFunc fn first cap).run Tryz.prog w = .ok (.func fn first cap) w := fun _ _ _ _ => rfl
  obtain ⟨k', hc⟩ := enter1_all hf hs
  have HM := hide (made_ok hf hp hs (fun _ _ => rfl) hc w)
  clear hc hf hp hs
  generalize gCode p (gEnter f) = D at *
  generalize (f : Int) = fi at *
  go_enter Tryz.func59, Tryz.ntmps59
  go_wp2_with (go_at_call 92; refine HM.out.mono ?_; rintro e wq ⟨v, rfl, hv⟩)
  go_ret2
  exact ⟨v, rfl, hv⟩

set_option maxRecDepth 20000 in
theorem leave_ok {f : Nat} (hf : 1 ≤ f ∧ f ≤ 4) {p : ByteArray} (hp : isName p) (hs : p.size ≤ 4) (w : World) :
    Calls Tryz.prog 60 #[.int .i64 f, .string p] w fun e w' => ∃ v, e = .returned (.tuple #[v, .nilIface]) ∧ insOwn w' w.heap.size v (gCode p (gLeave f)) ∧ Below w.heap.size w w' := by
  have hmf : ∀ (fn : Fn) (first cap : Array Value) (w : World), (Instr.makeFunc fn first cap).run Tryz.prog w = .ok (.func fn first cap) w := fun _ _ _ _ => rfl
  obtain ⟨k', hc⟩ := leave1_all hf hs
  have HM := hide (made_ok hf hp hs (fun _ _ => rfl) hc w)
  clear hc hf hp hs
  generalize gCode p (gLeave f) = D at *
  generalize (f : Int) = fi at *
  go_enter Tryz.func60, Tryz.ntmps60
  go_wp2_with (go_at_call 92; refine HM.out.mono ?_; rintro e wq ⟨v, rfl, hv⟩)
  go_ret2
  exact ⟨v, rfl, hv⟩

set_option maxRecDepth 20000 in
theorem rest_ok {f : Nat} (hf : 1 ≤ f ∧ f ≤ 4) {p : ByteArray} (hp : isName p) (hs : p.size ≤ 4) (w : World) :
    Calls Tryz.prog 61 #[.int .i64 f, .string p] w fun e w' => ∃ v, e = .returned (.tuple #[v, .nilIface]) ∧ insOwn w' w.heap.size v (gCode p (gRest f)) ∧ Below w.heap.size w w' := by
  have hmf : ∀ (fn : Fn) (first cap : Array Value) (w : World), (Instr.makeFunc fn first cap).run Tryz.prog w = .ok (.func fn first cap) w := fun _ _ _ _ => rfl
  obtain ⟨k', hc⟩ := rest1_all hf hs
  have HM := hide (made_ok hf hp hs (fun _ _ => rfl) hc w)
  clear hc hf hp hs
  generalize gCode p (gRest f) = D at *
  generalize (f : Int) = fi at *
  go_enter Tryz.func61, Tryz.ntmps61
  go_wp2_with (go_at_call 92; refine HM.out.mono ?_; rintro e wq ⟨v, rfl, hv⟩)
  go_ret2
  exact ⟨v, rfl, hv⟩

set_option maxRecDepth 20000 in
theorem gone_ok {f : Nat} (hf : 1 ≤ f ∧ f ≤ 4) {p : ByteArray} (hp : isName p) (hs : p.size ≤ 4) (w : World) :
    Calls Tryz.prog 57 #[.int .i64 f, .string p] w fun e w' => ∃ v, e = .returned (.tuple #[v, .nilIface]) ∧ insOwn w' w.heap.size v (gCode p (gGone f)) ∧ Below w.heap.size w w' := by
  have hmf : ∀ (fn : Fn) (first cap : Array Value) (w : World), (Instr.makeFunc fn first cap).run Tryz.prog w = .ok (.func fn first cap) w := fun _ _ _ _ => rfl
  obtain ⟨k', hc⟩ := gone1_all hf hs
  have HM := hide (made_ok hf hp hs (fun _ _ => rfl) hc w)
  clear hc hf hp hs
  generalize gCode p (gGone f) = D at *
  generalize (f : Int) = fi at *
  go_enter Tryz.func57, Tryz.ntmps57
  go_wp2_with (go_at_call 92; refine HM.out.mono ?_; rintro e wq ⟨v, rfl, hv⟩)
  go_ret2
  exact ⟨v, rfl, hv⟩

set_option maxRecDepth 20000 in
theorem wait_ok {f : Nat} (hf : 1 ≤ f ∧ f ≤ 4) {p : ByteArray} (hp : isName p) (hs : p.size ≤ 4) (w : World) :
    Calls Tryz.prog 62 #[.int .i64 f, .string p] w fun e w' => ∃ v, e = .returned (.tuple #[v, .nilIface]) ∧ insOwn w' w.heap.size v (gCode p (gWait f)) ∧ Below w.heap.size w w' := by
  have hmf : ∀ (fn : Fn) (first cap : Array Value) (w : World), (Instr.makeFunc fn first cap).run Tryz.prog w = .ok (.func fn first cap) w := fun _ _ _ _ => rfl
  obtain ⟨k', hc⟩ := wait1_all hf hs
  have HM := hide (made_ok hf hp hs (fun _ _ => rfl) hc w)
  clear hc hf hp hs
  generalize gCode p (gWait f) = D at *
  generalize (f : Int) = fi at *
  go_enter Tryz.func62, Tryz.ntmps62
  go_wp2_with (go_at_call 92; refine HM.out.mono ?_; rintro e wq ⟨v, rfl, hv⟩)
  go_ret2
  exact ⟨v, rfl, hv⟩
end Go.Proofs.YtaiigfcfmcicjaaGreatDoor
