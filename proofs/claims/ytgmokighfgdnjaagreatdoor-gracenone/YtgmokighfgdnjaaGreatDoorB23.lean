import Derived.Test.YtgmokighfgdnjaaGreatDoorB22
import Derived.Test.YtgmokighfgdnjaaGreatDoorB03
import Derived.Test.YtgmokighfgdnjaaGreatDoorB04
import Derived.Test.YtgmokighfgdnjaaGreatDoorB14
import Derived.Test.YtgmokighfgdnjaaGreatDoorB13
import Derived.Laws.AppendOwn
import Derived.Maps.AppendAt
import Derived.Test.YtgmokighfgdnjaaGreatDoorB15

/- GdR -/
namespace Go.Proofs.YtgmokighfgdnjaaGreatDoor
open Go.RowKit Go.Extern.Stop Go.Stop Go.Extern Go.Maps Go.WideMaps Go.Sort

theorem fcheck_ok {f : Nat} (hf : 1 ≤ f ∧ f ≤ 4) (w : World) : Calls Tryz.prog 33 #[.int .i64 f] w fun e w' => e = .returned .nilIface ∧ w' = w := by
  have h1 : ¬ (f : Int) < 1 := by omega
  have h2 : ¬ 4 < (f : Int) := by omega
  clear hf
  go_enter Tryz.func33, Tryz.ntmps33
  go_wp2
  go_ret
  exact ⟨rfl, rfl⟩

theorem MAt.new {b : Nat} {f : Int} {p : ByteArray} {w : World} (c0 : w.cell? ⟨b, 0, none⟩ = some (.int .i64 f)) (c1 : w.cell? ⟨b, 1, none⟩ = some (.string p)) (c2 : w.cell? ⟨b, 2, none⟩ = some (.int .i64 0)) (c3 : w.cell? ⟨b, 3, none⟩ = some (.slice none 0 0)) (fz : ∀ o, w.frozen? ⟨b, o, none⟩ = false) (sz : b + 1 ≤ w.heap.size) : MAt b f p 0 [] w (.slice none 0 0) [] w :=
  ⟨_, ⟨c0, c1, c2, c3, fz, insOwn_nil _ _, sz⟩, LStep.refl _ _ _, fun _ hx => absurd hx List.not_mem_nil⟩
theorem MAt.made {b : Nat} {f : Int} {p : ByteArray} {k : Nat} {w0 : World} {L : List Ins} {w : World} {v0 : Value} (h : MAt b f p k [] w0 v0 L w) {base : Nat} (hb : base ≤ b) : ∃ v, w.cell? ⟨b, 3, none⟩ = some v ∧ insOwn w base v L ∧ Below b w0 w := by
  obtain ⟨v, h1, h2, -⟩ := h.out
  exact ⟨v, h1.c3, insOwn_mono h1.own (by omega), h2.low⟩

open Classical in
set_option maxRecDepth 20000 in
set_option maxHeartbeats 1000000 in
theorem made_ok {f : Nat} (hf : 1 ≤ f ∧ f ≤ 4) {p : ByteArray} (hp : isName p) (hs : p.size ≤ 4) {n : Nat} (hn : Fn.goes n) {k' : Nat} {D : List Ins} (hc : ∀ b : Nat, Adds n #[.pointer (some ⟨b, 0, none⟩)] b f p 0 k' [] D 300) (w : World) :
    Calls Tryz.prog 44 #[.int .i64 f, .string p, .func (.func n) #[] #[]] w fun e w' => ∃ v, e = .returned (.tuple #[v, .nilIface]) ∧ insOwn w' w.heap.size v D ∧ Below w.heap.size w w' := by
  have HK := hide (fcheck_ok hf)
  have HN : Hid (∀ w, Calls Tryz.prog 81 #[.string p] w fun e w' => e = .returned (.bool true) ∧ Below w.heap.size w w') := hide fun w => (pisName_any p w).mono fun _ _ ⟨h1, h2⟩ => ⟨by rw [h1, decide_eq_true hp], h2⟩
  have hsz : ¬ 4 < (p.size : Int) := by omega
  have HG := hide hn
  have HC := hide hc
  clear hn hc hs hp hf
  generalize (f : Int) = fi at *
  go_enter Tryz.func44, Tryz.ntmps44
  go_wp2_with (first
    | (go_at_call 33; refine (HK.out _).mono ?_; rintro e wq ⟨rfl, rfl⟩)
    | (go_at_call 81; refine (HN.out _).mono ?_; rintro e w1 ⟨rfl, hb⟩))
  have HM : Hid (MAt w1.heap.size fi p 0 [] (w1.alloc (.cells #[.int .i64 fi, .string p, .int .i64 0, .slice none 0 0] 98)) (.slice none 0 0) [] (w1.alloc (.cells #[.int .i64 fi, .string p, .int .i64 0, .slice none 0 0] 98))) := hide (MAt.new (World.cell?_alloc_new _ _ _ 0) (World.cell?_alloc_new _ _ _ 1) (World.cell?_alloc_new _ _ _ 2) (World.cell?_alloc_new _ _ _ 3) (fun o => World.frozen?_alloc_new _ _ _ o) (by simp))
  rw [HG.out, Oper.upon_enter]
  refine (HC.out w1.heap.size [] _ _ [] _ HM.out (fun _ hx => absurd hx List.not_mem_nil) (Nat.zero_le _)).mono ?_
  rintro e w2 ⟨rfl, h2⟩
  obtain ⟨v, c3, ho, hB⟩ := h2.made hb.size
  dsimp only
  go_wp2_with fail
  go_ret2
  exact ⟨v, rfl, ho, (hb.alloc hb.size _).trans (hB.mono hb.size)⟩

theorem gcode_enter {f : Nat} (hf : f = 1 ∨ f = 2) (p : ByteArray) : outerD addO 0 (lb p 2) (lb p 1) ++ [lblI (lb p 2)] ++ [⟨⟨#[108, 111, 97, 100]⟩, 0, 7, 0, no⟩, showI f] ++ [lblI (lb p 1)] = gCode p (gEnter f) := by
  rcases hf with rfl | rfl <;> rfl
theorem gcode_enter4 (p : ByteArray) : outerD addO 0 (lb p 2) (lb p 1) ++ [lblI (lb p 2)] ++ (joinD p 2 ++ [⟨⟨#[108, 111, 97, 100]⟩, 0, 7, 0, no⟩, showI 4]) ++ [lblI (lb p 1)] = gCode p (gEnter 4) := rfl
theorem gcode_leave {f : Nat} (hf : f = 1 ∨ f = 2 ∨ f = 4) (p : ByteArray) : outerD subO 2 (lb p 2) (lb p 1) ++ [lblI (lb p 2)] ++ [showI f] ++ [lblI (lb p 1)] = gCode p (gLeave f) := by
  rcases hf with rfl | rfl | rfl <;> rfl
theorem gcode_rest (p : ByteArray) : (⟨⟨#[122, 101, 114, 111]⟩, 6, 0, 0, lb p 1⟩ :: (restD (lb p 1) ++ [lblI (lb p 1)]) : List Ins) = gCode p (gRest 3) := rfl
theorem gcode_gone (p : ByteArray) : (⟨⟨#[122, 101, 114, 111]⟩, 6, 0, 0, lb p 1⟩ :: (goneD ++ [lblI (lb p 1)]) : List Ins) = gCode p (gGone 3) := rfl
theorem gcode_wait {f : Nat} (hf : f = 1 ∨ f = 2 ∨ f = 4) (p : ByteArray) : waitD f p 0 = gCode p (gWait f) := by
  rcases hf with rfl | rfl | rfl <;> rfl
theorem gcode_wait3 (p : ByteArray) : ((⟨⟨#[122, 101, 114, 111]⟩, 6, 0, 0, lb p 1⟩ :: (away1D ++ [lblI (lb p 1)])) ++ waitD 3 p 1 ++ (⟨⟨#[122, 101, 114, 111]⟩, 6, 0, 0, lb p 5⟩ :: (away2D (lb p 5) ++ [lblI (lb p 5)])) : List Ins) = gCode p (gWait 3) := rfl

theorem enter1_all {f : Nat} (hf : 1 ≤ f ∧ f ≤ 4) {p : ByteArray} (hp : p.size ≤ 4) : ∃ k', ∀ b : Nat, Adds 52 #[.pointer (some ⟨b, 0, none⟩)] b f p 0 k' [] (gCode p (gEnter f)) 300 := by
  have hp : p.size ≤ 1000 := by omega
  have h : f = 1 ∨ f = 2 ∨ f = 3 ∨ f = 4 := by omega
  rcases h with rfl | rfl | rfl | rfl
  · exact ⟨_, fun b => by rw [← gcode_enter (.inl rfl)]; exact (enter1_any (k := 0) (by decide) (by decide) hp (by decide) fun x1 => (enter11_plain (by decide) x1).mono (by decide)).mono (by decide)⟩
  · exact ⟨_, fun b => by rw [← gcode_enter (.inr rfl)]; exact (enter1_any (k := 0) (by decide) (by decide) hp (by decide) fun x1 => (enter11_plain (by decide) x1).mono (by decide)).mono (by decide)⟩
  · exact ⟨_, fun b => (enter1_none rfl).mono (by decide)⟩
  · exact ⟨_, fun b => by rw [← gcode_enter4]; exact (enter1_any (k := 0) (by decide) (by decide) hp (by show 14 ≤ 50; decide) fun x1 => enter11_joins rfl (by decide) hp x1).mono (by decide)⟩
theorem leave1_all {f : Nat} (hf : 1 ≤ f ∧ f ≤ 4) {p : ByteArray} (hp : p.size ≤ 4) : ∃ k', ∀ b : Nat, Adds 57 #[.pointer (some ⟨b, 0, none⟩)] b f p 0 k' [] (gCode p (gLeave f)) 300 := by
  have hp : p.size ≤ 1000 := by omega
  by_cases h : f = 3
  · subst h; exact ⟨_, fun b => (leave1_none rfl).mono (by decide)⟩
  · exact ⟨_, fun b => by rw [← gcode_leave (by omega)]; exact (leave1_any (k := 0) h (by decide) hp).mono (by decide)⟩
theorem rest1_all {f : Nat} (hf : 1 ≤ f ∧ f ≤ 4) {p : ByteArray} (hp : p.size ≤ 4) : ∃ k', ∀ b : Nat, Adds 58 #[.pointer (some ⟨b, 0, none⟩)] b f p 0 k' [] (gCode p (gRest f)) 300 := by
  have hp : p.size ≤ 1000 := by omega
  by_cases h : f = 3
  · subst h; exact ⟨_, fun b => by rw [← gcode_rest]; exact (rest1_any (k := 0) rfl (by decide) hp).mono (by decide)⟩
  · exact ⟨_, fun b => by rw [show gCode p (gRest f) = [] by unfold gRest; rw [if_neg h]; rfl]; exact (rest1_none h).mono (by decide)⟩
theorem gone1_all {f : Nat} (hf : 1 ≤ f ∧ f ≤ 4) {p : ByteArray} (hp : p.size ≤ 4) : ∃ k', ∀ b : Nat, Adds 62 #[.pointer (some ⟨b, 0, none⟩)] b f p 0 k' [] (gCode p (gGone f)) 300 := by
  have hp : p.size ≤ 1000 := by omega
  by_cases h : f = 3
  · subst h; exact ⟨_, fun b => by rw [← gcode_gone]; exact (gone1_any (k := 0) rfl (by decide) hp).mono (by decide)⟩
  · exact ⟨_, fun b => by rw [show gCode p (gGone f) = [] by unfold gGone; rw [if_neg h]; rfl]; exact (gone1_none h).mono (by decide)⟩
theorem wait1_all {f : Nat} (hf : 1 ≤ f ∧ f ≤ 4) {p : ByteArray} (hp : p.size ≤ 4) : ∃ k', ∀ b : Nat, Adds 45 #[.pointer (some ⟨b, 0, none⟩)] b f p 0 k' [] (gCode p (gWait f)) 300 := by
  have hp : p.size ≤ 1000 := by omega
  by_cases h : f = 3
  · subst h; exact ⟨_, fun b => by rw [← gcode_wait3]; exact wait1_counts (k := 0) rfl (by decide) hp⟩
  · exact ⟨_, fun b => by rw [← gcode_wait (by omega)]; exact (wait1_plain (k := 0) h (by decide) hp).mono (by decide)⟩

set_option maxRecDepth 20000 in
theorem enter_ok {f : Nat} (hf : 1 ≤ f ∧ f ≤ 4) {p : ByteArray} (hp : isName p) (hs : p.size ≤ 4) (w : World) :
    Calls Tryz.prog 26 #[.int .i64 f, .string p] w fun e w' => ∃ v, e = .returned (.tuple #[v, .nilIface]) ∧ insOwn w' w.heap.size v (gCode p (gEnter f)) ∧ Below w.heap.size w w' := by
  have hmf : ∀ (fn : Fn) (first cap : Array Value) (w : World), (Instr.makeFunc fn first cap).run Tryz.prog w = .ok (.func fn first cap) w := fun _ _ _ _ => rfl
  obtain ⟨k', hc⟩ := enter1_all hf hs
  have HM := hide (made_ok hf hp hs (fun _ _ => rfl) hc w)
  clear hc hf hp hs
  generalize gCode p (gEnter f) = D at *
  generalize (f : Int) = fi at *
  go_enter Tryz.func26, Tryz.ntmps26
  go_wp2_with (go_at_call 44; refine HM.out.mono ?_; rintro e wq ⟨v, rfl, hv⟩)
  go_ret2
  exact ⟨v, rfl, hv⟩

set_option maxRecDepth 20000 in
theorem leave_ok {f : Nat} (hf : 1 ≤ f ∧ f ≤ 4) {p : ByteArray} (hp : isName p) (hs : p.size ≤ 4) (w : World) :
    Calls Tryz.prog 27 #[.int .i64 f, .string p] w fun e w' => ∃ v, e = .returned (.tuple #[v, .nilIface]) ∧ insOwn w' w.heap.size v (gCode p (gLeave f)) ∧ Below w.heap.size w w' := by
  have hmf : ∀ (fn : Fn) (first cap : Array Value) (w : World), (Instr.makeFunc fn first cap).run Tryz.prog w = .ok (.func fn first cap) w := fun _ _ _ _ => rfl
  obtain ⟨k', hc⟩ := leave1_all hf hs
  have HM := hide (made_ok hf hp hs (fun _ _ => rfl) hc w)
  clear hc hf hp hs
  generalize gCode p (gLeave f) = D at *
  generalize (f : Int) = fi at *
  go_enter Tryz.func27, Tryz.ntmps27
  go_wp2_with (go_at_call 44; refine HM.out.mono ?_; rintro e wq ⟨v, rfl, hv⟩)
  go_ret2
  exact ⟨v, rfl, hv⟩

set_option maxRecDepth 20000 in
theorem rest_ok {f : Nat} (hf : 1 ≤ f ∧ f ≤ 4) {p : ByteArray} (hp : isName p) (hs : p.size ≤ 4) (w : World) :
    Calls Tryz.prog 28 #[.int .i64 f, .string p] w fun e w' => ∃ v, e = .returned (.tuple #[v, .nilIface]) ∧ insOwn w' w.heap.size v (gCode p (gRest f)) ∧ Below w.heap.size w w' := by
  have hmf : ∀ (fn : Fn) (first cap : Array Value) (w : World), (Instr.makeFunc fn first cap).run Tryz.prog w = .ok (.func fn first cap) w := fun _ _ _ _ => rfl
  obtain ⟨k', hc⟩ := rest1_all hf hs
  have HM := hide (made_ok hf hp hs (fun _ _ => rfl) hc w)
  clear hc hf hp hs
  generalize gCode p (gRest f) = D at *
  generalize (f : Int) = fi at *
  go_enter Tryz.func28, Tryz.ntmps28
  go_wp2_with (go_at_call 44; refine HM.out.mono ?_; rintro e wq ⟨v, rfl, hv⟩)
  go_ret2
  exact ⟨v, rfl, hv⟩

set_option maxRecDepth 20000 in
theorem gone_ok {f : Nat} (hf : 1 ≤ f ∧ f ≤ 4) {p : ByteArray} (hp : isName p) (hs : p.size ≤ 4) (w : World) :
    Calls Tryz.prog 29 #[.int .i64 f, .string p] w fun e w' => ∃ v, e = .returned (.tuple #[v, .nilIface]) ∧ insOwn w' w.heap.size v (gCode p (gGone f)) ∧ Below w.heap.size w w' := by
  have hmf : ∀ (fn : Fn) (first cap : Array Value) (w : World), (Instr.makeFunc fn first cap).run Tryz.prog w = .ok (.func fn first cap) w := fun _ _ _ _ => rfl
  obtain ⟨k', hc⟩ := gone1_all hf hs
  have HM := hide (made_ok hf hp hs (fun _ _ => rfl) hc w)
  clear hc hf hp hs
  generalize gCode p (gGone f) = D at *
  generalize (f : Int) = fi at *
  go_enter Tryz.func29, Tryz.ntmps29
  go_wp2_with (go_at_call 44; refine HM.out.mono ?_; rintro e wq ⟨v, rfl, hv⟩)
  go_ret2
  exact ⟨v, rfl, hv⟩

set_option maxRecDepth 20000 in
theorem wait_ok {f : Nat} (hf : 1 ≤ f ∧ f ≤ 4) {p : ByteArray} (hp : isName p) (hs : p.size ≤ 4) (w : World) :
    Calls Tryz.prog 25 #[.int .i64 f, .string p] w fun e w' => ∃ v, e = .returned (.tuple #[v, .nilIface]) ∧ insOwn w' w.heap.size v (gCode p (gWait f)) ∧ Below w.heap.size w w' := by
  have hmf : ∀ (fn : Fn) (first cap : Array Value) (w : World), (Instr.makeFunc fn first cap).run Tryz.prog w = .ok (.func fn first cap) w := fun _ _ _ _ => rfl
  obtain ⟨k', hc⟩ := wait1_all hf hs
  have HM := hide (made_ok hf hp hs (fun _ _ => rfl) hc w)
  clear hc hf hp hs
  generalize gCode p (gWait f) = D at *
  generalize (f : Int) = fi at *
  go_enter Tryz.func25, Tryz.ntmps25
  go_wp2_with (go_at_call 44; refine HM.out.mono ?_; rintro e wq ⟨v, rfl, hv⟩)
  go_ret2
  exact ⟨v, rfl, hv⟩
end Go.Proofs.YtgmokighfgdnjaaGreatDoor

/- WkA -/
namespace Go.Proofs.YtgmokighfgdnjaaGreatDoor
open Go.RowKit Go.Extern.Stop Go.Stop Go.Extern Go.Maps Go.WideMaps Go.Sort

theorem wkInt : ∃ i, (Tryz.prog).info? 3 = some i ∧ i.zero = some (.int .i64 0) ∧ i.size = 1 ∧ i.bytes = 8 := info_parts (by kernel_rfl)
def ncells (l : List Int) : List Value := l.map (Value.int .i64)
def numsOwn (w : World) (base : Nat) (v : Value) (l : List Int) : Prop := w.ownsRow base 3 1 v l.length (ncells l)
theorem numsOwn_nil (w : World) (base : Nat) : numsOwn w base (.slice none 0 0) [] := World.ownsRow_nil _ _ _ _
theorem ncells_append (a b : List Int) : ncells (a ++ b) = ncells a ++ ncells b := by simp [ncells]
theorem numsOwn_keep {w w' : World} {base : Nat} {v : Value} {l : List Int} (h : numsOwn w base v l) (k : Below w.heap.size w w') : numsOwn w' base v l :=
  ownsRow_block h (fun b hb => k.block b (h.lt b hb).2)
theorem numsOwn_mono {w : World} {base base' : Nat} {v : Value} {l : List Int} (h : numsOwn w base v l) (hb : base' ≤ base) : numsOwn w base' v l := by
  obtain ⟨h1, h2⟩ := h
  refine ⟨h1, ?_⟩
  rcases h2 with h2 | ⟨g, cap, cur, e, hg, r⟩
  · exact .inl h2
  · exact .inr ⟨g, cap, cur, e, Nat.le_trans hb hg, r⟩
theorem numsOwn_at {w : World} {base : Nat} {v : Value} {l : List Int} (h : numsOwn w base v l) : ∃ ad cap, v = .slice ad l.length cap ∧ l.length ≤ cap ∧ numsAt ad l w := by
  obtain ⟨g, c, rfl, h1, h2, h3⟩ := ownsRow_shape h
  refine ⟨g, c, rfl, h1, fun i x hx => ?_⟩
  obtain ⟨gg, e, hc⟩ := h3 i (.int .i64 x) (by unfold ncells; rw [List.getElem?_map, hx]; rfl)
  exact ⟨gg, 0, e, by rw [Nat.zero_add]; exact hc⟩
theorem numsOwn_new {w : World} {l : List Int} {cs : Array Value} {base : Nat} (h : cs.toList = ncells l) (hb : base ≤ w.heap.size) (hl : l.length ≤ 1000000) : numsOwn (w.alloc (.cells cs 3)) base (.slice (some ⟨w.heap.size, 0, none⟩) l.length l.length) l := by
  have hn : (ncells l).length = l.length := by simp [ncells]
  refine ⟨by rw [hn, Nat.mul_one], .inr ⟨w.heap.size, l.length, cs, rfl, hb, heap_new w _, Nat.le_refl _, by unfold maxLen; omega, ?_, ?_⟩⟩
  · rw [← Array.length_toList, h, hn, Nat.mul_one]
  · rw [h, Nat.mul_one, ← hn, List.take_length]
theorem wpList_append_ints {ops : Array Oper} {rest : List Oper} {o : Oper} {a : Act} (w : World) {Q : Exit → Act → World → Prop} (hgd : o.guard = none) (s x : Operand)
    (ho : o.op = .call { callee := .builtin .append, args := #[s, x], argTypes := #[36, 36] }) (base : Nat) (l0 l : List Int) (v : Value) (ad : Addr) (cap : Nat)
    (hs : a.eval s = v) (hown : numsOwn w base v l0) (hx : a.eval x = .slice (some ad) l.length cap) (hl : numsAt (some ad) l w) (h3 : l0.length + l.length ≤ 1000000) (hb : base ≤ w.heap.size)
    (h : ∀ v' w', numsOwn w' base v' (l0 ++ l) → Below base w w' → w.heap.size ≤ w'.heap.size → w.grownBy w' v.ownBlock → (v'.ownBlock = v.ownBlock ∨ v'.ownBlock = some w.heap.size) → wpList Tryz.prog ops Q rest (a.put o.dst v') w') : wpList Tryz.prog ops Q (o :: rest) a w := by
  obtain ⟨ri, hri, hrz, hrs, hrb⟩ := wkInt
  refine wpList_append_own_at w hgd s x 36 ho base 3 ri (.int .i64 0) 1 8 Tryz.underlying36 hri hrz hrs hrb rfl (by decide) v l0.length (ncells l0) hs hown ad l.length cap (ncells l) hx (by unfold ncells; rw [List.length_map, Nat.mul_one]) (fun j u hj => ?_) (fun u hu => ?_) (by unfold maxLen; omega) (by omega) hb (fun v' w' h2 hg _ hloc => ?_)
  · unfold ncells at hj
    rw [List.getElem?_map] at hj
    cases hxj : l[j]? with
    | none => rw [hxj] at hj; cases hj
    | some y =>
      rw [hxj] at hj; cases hj
      obtain ⟨_, _, e, c⟩ := hl j y hxj
      cases e
      rw [Addr.add_lit]; exact c
  · obtain ⟨y, _, rfl⟩ := List.mem_map.1 hu; rfl
  · have hB : Below base w w' := (Below.refl base w).grown hg hb (fun k hk => (hown.lt k hk).1)
    refine h v' w' ?_ hB hB.size hg hloc
    unfold numsOwn
    rw [List.length_append, ncells_append]
    exact h2

theorem numsOwn_set {w : World} {base g cap n : Nat} {l : List Int} (h : numsOwn w base (.slice (some ⟨g, 0, none⟩) n cap) l) (j : Nat) (x : Int) : numsOwn (w.setCell ⟨g, j, none⟩ (.int .i64 x)) base (.slice (some ⟨g, 0, none⟩) n cap) (l.set j x) := by
  obtain ⟨h1, h2⟩ := h
  rcases h2 with ⟨e, -⟩ | ⟨g', cap', cur, e, hg, hh, hn, hm, hs, hc⟩
  · cases e
  · cases e
    refine ⟨by unfold ncells; simp, .inr ⟨g, cap, cur.setIfInBounds j (.int .i64 x), by rw [List.length_set], hg, heap_setCell_same w g j cur _ _ hh, by rw [List.length_set]; exact hn, hm, by simpa using hs, ?_⟩⟩
    rw [List.length_set, Array.toList_setIfInBounds, List.take_set, hc]
    unfold ncells
    rw [List.map_set]
theorem numsOwn_cell {w : World} {base g cap n : Nat} {l : List Int} (h : numsOwn w base (.slice (some ⟨g, 0, none⟩) n cap) l) {j : Nat} {x : Int} (hx : l[j]? = some x) : w.cell? ⟨g, j, none⟩ = some (.int .i64 x) ∧ w.frozen? ⟨g, j, none⟩ = false := by
  have hl := (List.getElem?_eq_some_iff.1 hx).1
  obtain rfl : n = l.length := by
    obtain ⟨ad, c, e, -⟩ := numsOwn_at h
    cases e; rfl
  refine ⟨?_, ?_⟩
  · unfold numsOwn at h
    rw [World.ownsRow.cellAt h j (by rw [Nat.mul_one]; exact hl)]
    unfold ncells
    rw [List.getElem?_map, hx]; rfl
  · obtain ⟨h1, h2⟩ := h
    rcases h2 with ⟨e, -⟩ | ⟨g', cap', cur, e, hg, hh, hn, hm, hs, hc⟩
    · cases e
    · cases e
      exact frozen_of_row w g j cur _ hh

end Go.Proofs.YtgmokighfgdnjaaGreatDoor

/- StD -/
namespace Go.Proofs.YtgmokighfgdnjaaGreatDoor
open Go.RowKit Go.Extern.Stop Go.Stop Go.Extern Go.Maps Go.WideMaps Go.Sort

def codesAt (ad : Option Addr) (cs : List (List Ins)) (w : World) : Prop := ∀ (t : Nat) L, cs[t]? = some L → ∃ b off adl capl, ad = some ⟨b, off, none⟩ ∧ w.cell? ⟨b, off + t, none⟩ = some (.slice adl L.length capl) ∧ L.length ≤ capl ∧ insAt adl L w ∧ (adl = none → L = [])
theorem codesAt.below {ad : Option Addr} {cs : List (List Ins)} {w w' : World} (h : codesAt ad cs w) (hb : Below w.heap.size w w') : codesAt ad cs w' := fun t L ht => by
  obtain ⟨b, off, adl, capl, h1, h2, h3, h4, h5⟩ := h t L ht
  exact ⟨b, off, adl, capl, h1, keep_cell hb h2, h3, insAt_below h4 hb, h5⟩

structure PrX where
  ad : Option Addr
  n : Nat
  cap : Nat
  lb : Nat
def PrX.cells (x : PrX) : List Value := [.slice x.ad x.n x.cap, .map (some x.lb)]
def PrX.uses (x : PrX) (k : Nat) : Prop := (∃ off, x.ad = some ⟨k, off, none⟩) ∨ x.lb = k
structure PrOk (L : List Ins) (x : PrX) (w : World) : Prop where
  n : x.n = L.length
  cap : L.length ≤ x.cap
  ins : insAt x.ad L w
  map : w.ownsMap Tryz.prog 9 (plainElem Tryz.prog 3) x.lb L.length (setD L L.length)
theorem ownsMap_same {H : Type} {P : Program} {k : TypeId} {R : Value → Option (DataW H × List MemPlace)} {w w' : World} {b n : Nat} {D : DataW H} (h : w.ownsMap P k R b n D) (hb : w'.heap[b]? = w.heap[b]?) : w'.ownsMap P k R b n D := by
  obtain ⟨es, clock, h1, F, hs, hD⟩ := h
  exact ⟨es, clock, by rw [hb]; exact h1, F, hs, hD⟩
theorem PrOk.same {L : List Ins} {x : PrX} {w w' : World} (h : PrOk L x w) (hb : ∀ k, k < w.heap.size → x.uses k → w'.heap[k]? = w.heap[k]?) : PrOk L x w' where
  n := h.n
  cap := h.cap
  ins i y hy := by
    obtain ⟨b, off, e, h0, h1, h2, h3, h4⟩ := h.ins i y hy
    have hk : w'.heap[b]? = w.heap[b]? := hb b (World.block_lt_of_cell? _ _ h0) (Or.inl ⟨off, e⟩)
    exact ⟨b, off, e, by rw [World.cell?_of_block (w := w) hk]; exact h0, by rw [World.cell?_of_block (w := w) hk]; exact h1, by rw [World.cell?_of_block (w := w) hk]; exact h2, by rw [World.cell?_of_block (w := w) hk]; exact h3, by rw [World.cell?_of_block (w := w) hk]; exact h4⟩
  map := ownsMap_same h.map (hb _ h.map.lt (Or.inr rfl))
theorem PrOk.below {L : List Ins} {x : PrX} {w w' : World} (h : PrOk L x w) (hb : Below w.heap.size w w') : PrOk L x w' := h.same fun k hk _ => hb.block k hk

end Go.Proofs.YtgmokighfgdnjaaGreatDoor
