import Derived.Test.YtpjabgdcpogdiaaGreatDoorE26
import Derived.Test.YtpjabgdcpogdiaaGreatDoorE02
import Derived.Test.YtpjabgdcpogdiaaGreatDoorE08
import Derived.Laws.AppendOwn
import Derived.Maps.AppendAt
import Derived.Test.YtpjabgdcpogdiaaGreatDoorProg
import Derived.Test.YtpjabgdcpogdiaaGreatDoorE05
import Derived.WalkKit
import Derived.Test.YtpjabgdcpogdiaaGreatDoorE01
import Derived.Deep.QuietTactic

/- GdR -/
namespace Go.Proofs.YtpjabgdcpogdiaaGreatDoor
open Go.RowKit Go.Extern.Stop Go.Stop Go.Extern Go.Maps Go.WideMaps Go.Sort

theorem fcheck_ok {f : Nat} (hf : 1 ≤ f ∧ f ≤ 4) (w : World) : Calls Tryz.prog 45 #[.int .i64 f] w fun e w' => e = .returned .nilIface ∧ w' = w := by
  have h1 : ¬ (f : Int) < 1 := by omega
  have h2 : ¬ 4 < (f : Int) := by omega
  clear hf
  go_enter Tryz.func45, Tryz.ntmps45
  go_wp2
  go_ret
  exact ⟨rfl, rfl⟩

theorem MAt.new {b : Nat} {f : Int} {p : ByteArray} {w : World} (c0 : w.cell? ⟨b, 0, none⟩ = some (.int .i64 f)) (c1 : w.cell? ⟨b, 1, none⟩ = some (.string p)) (c2 : w.cell? ⟨b, 2, none⟩ = some (.int .i64 0)) (c3 : w.cell? ⟨b, 3, none⟩ = some (.slice none 0 0)) (fz : ∀ o, w.frozen? ⟨b, o, none⟩ = false) (sz : b + 1 ≤ w.heap.size) : MAt b f p 0 [] w (.slice none 0 0) [] w :=
  ⟨_, ⟨c0, c1, c2, c3, fz, insOwn_nil _ _, sz⟩, LStep.refl _ _ _, fun _ hx => absurd hx List.not_mem_nil⟩
theorem MAt.made {b : Nat} {f : Int} {p : ByteArray} {k : Nat} {w0 : World} {L : List Ins} {w : World} {v0 : Value} (h : MAt b f p k [] w0 v0 L w) {base : Nat} (hb : base ≤ b) : ∃ v, w.cell? ⟨b, 3, none⟩ = some v ∧ insOwn w base v L ∧ Below b w0 w := by
  obtain ⟨v, h1, h2, -⟩ := h.out
  exact ⟨v, h1.c3, insOwn_mono h1.own (by omega), h2.low⟩

open Classical in
set_option maxRecDepth 20000 in
set_option maxHeartbeats 1000000 in
theorem made_ok {f : Nat} (hf : 1 ≤ f ∧ f ≤ 4) {p : ByteArray} (hp : isName p) (hs : p.size ≤ 4) {n : Nat} (hn : Fn.goes n) {k' : Nat} {D : List Ins} (hc : ∀ b : Nat, Adds n #[.pointer (some ⟨b, 0, none⟩)] b f p 0 k' [] D 300) (w : World) :
    Calls Tryz.prog 19 #[.int .i64 f, .string p, .func (.func n) #[] #[]] w fun e w' => ∃ v, e = .returned (.tuple #[v, .nilIface]) ∧ insOwn w' w.heap.size v D ∧ Below w.heap.size w w' := by
  have HK := hide (fcheck_ok hf)
  have HN : Hid (∀ w, Calls Tryz.prog 46 #[.string p] w fun e w' => e = .returned (.bool true) ∧ Below w.heap.size w w') := hide fun w => (pisName_any p w).mono fun _ _ ⟨h1, h2⟩ => ⟨by rw [h1, decide_eq_true hp], h2⟩
  have hsz : ¬ 4 < (p.size : Int) := by omega
  have HG := hide hn
  have HC := hide hc
  clear hn hc hs hp hf
  generalize (f : Int) = fi at *
  go_enter Tryz.func19, Tryz.ntmps19
  go_wp2_with (first
    | (go_at_call 45; refine (HK.out _).mono ?_; rintro e wq ⟨rfl, rfl⟩)
    | (go_at_call 46; refine (HN.out _).mono ?_; rintro e w1 ⟨rfl, hb⟩))
  have HM : Hid (MAt w1.heap.size fi p 0 [] (w1.alloc (.cells #[.int .i64 fi, .string p, .int .i64 0, .slice none 0 0] 72)) (.slice none 0 0) [] (w1.alloc (.cells #[.int .i64 fi, .string p, .int .i64 0, .slice none 0 0] 72))) := hide (MAt.new (World.cell?_alloc_new _ _ _ 0) (World.cell?_alloc_new _ _ _ 1) (World.cell?_alloc_new _ _ _ 2) (World.cell?_alloc_new _ _ _ 3) (fun o => World.frozen?_alloc_new _ _ _ o) (by simp))
  rw [HG.out, Oper.upon_enter]
  refine (HC.out w1.heap.size [] _ _ [] _ HM.out (fun _ hx => absurd hx List.not_mem_nil) (Nat.zero_le _)).mono ?_
  rintro e w2 ⟨rfl, h2⟩
  obtain ⟨v, c3, ho, hB⟩ := h2.made hb.size
  dsimp only
  go_wp2_with fail
  go_ret2
  exact ⟨v, rfl, ho, (hb.alloc hb.size _).trans (hB.mono hb.size)⟩

theorem gcode_enter {f : Nat} (hf : f = 1 ∨ f = 2) (p : ByteArray) : outerD addO 0 (lb p 2) (lb p 1) ++ [lblI (lb p 2)] ++ [⟨⟨#[108, 111, 97, 100]⟩, 0, 7, 0, no⟩, showI f] ++ [lblI (lb p 1)] = gCode p (gEnter f) := by
  rcases hf with rfl | rfl <;> rfl
theorem gcode_enter4 (p : ByteArray) : outerD addO 0 (lb p 2) (lb p 1) ++ [lblI (lb p 2)] ++ (joinD p 2 ++ [⟨⟨#[108, 111, 97, 100]⟩, 0, 7, 0, no⟩, showI 4]) ++ [lblI (lb p 1)] = gCode p (gEnter 4) := rfl
theorem gcode_leave {f : Nat} (hf : f = 1 ∨ f = 2 ∨ f = 4) (p : ByteArray) : outerD subO 2 (lb p 2) (lb p 1) ++ [lblI (lb p 2)] ++ [showI f] ++ [lblI (lb p 1)] = gCode p (gLeave f) := by
  rcases hf with rfl | rfl | rfl <;> rfl
theorem gcode_rest (p : ByteArray) : (⟨⟨#[122, 101, 114, 111]⟩, 6, 0, 0, lb p 1⟩ :: (restD (lb p 1) ++ [lblI (lb p 1)]) : List Ins) = gCode p (gRest 3) := rfl
theorem gcode_gone (p : ByteArray) : (⟨⟨#[122, 101, 114, 111]⟩, 6, 0, 0, lb p 1⟩ :: (goneD ++ [lblI (lb p 1)]) : List Ins) = gCode p (gGone 3) := rfl
theorem gcode_wait {f : Nat} (hf : f = 1 ∨ f = 2 ∨ f = 4) (p : ByteArray) : waitD f p 0 = gCode p (gWait f) := by
  rcases hf with rfl | rfl | rfl <;> rfl
theorem gcode_wait3 (p : ByteArray) : ((⟨⟨#[122, 101, 114, 111]⟩, 6, 0, 0, lb p 1⟩ :: (away1D ++ [lblI (lb p 1)])) ++ waitD 3 p 1 ++ (⟨⟨#[122, 101, 114, 111]⟩, 6, 0, 0, lb p 5⟩ :: (away2D (lb p 5) ++ [lblI (lb p 5)])) : List Ins) = gCode p (gWait 3) := rfl

theorem enter1_all {f : Nat} (hf : 1 ≤ f ∧ f ≤ 4) {p : ByteArray} (hp : p.size ≤ 4) : ∃ k', ∀ b : Nat, Adds 82 #[.pointer (some ⟨b, 0, none⟩)] b f p 0 k' [] (gCode p (gEnter f)) 300 := by
  have hp : p.size ≤ 1000 := by omega
  have h : f = 1 ∨ f = 2 ∨ f = 3 ∨ f = 4 := by omega
  rcases h with rfl | rfl | rfl | rfl
  · exact ⟨_, fun b => by rw [← gcode_enter (.inl rfl)]; exact (enter1_any (k := 0) (by decide) (by decide) hp (by decide) fun x1 => (enter11_plain (by decide) x1).mono (by decide)).mono (by decide)⟩
  · exact ⟨_, fun b => by rw [← gcode_enter (.inr rfl)]; exact (enter1_any (k := 0) (by decide) (by decide) hp (by decide) fun x1 => (enter11_plain (by decide) x1).mono (by decide)).mono (by decide)⟩
  · exact ⟨_, fun b => (enter1_none rfl).mono (by decide)⟩
  · exact ⟨_, fun b => by rw [← gcode_enter4]; exact (enter1_any (k := 0) (by decide) (by decide) hp (by show 14 ≤ 50; decide) fun x1 => enter11_joins rfl (by decide) hp x1).mono (by decide)⟩
theorem leave1_all {f : Nat} (hf : 1 ≤ f ∧ f ≤ 4) {p : ByteArray} (hp : p.size ≤ 4) : ∃ k', ∀ b : Nat, Adds 86 #[.pointer (some ⟨b, 0, none⟩)] b f p 0 k' [] (gCode p (gLeave f)) 300 := by
  have hp : p.size ≤ 1000 := by omega
  by_cases h : f = 3
  · subst h; exact ⟨_, fun b => (leave1_none rfl).mono (by decide)⟩
  · exact ⟨_, fun b => by rw [← gcode_leave (by omega)]; exact (leave1_any (k := 0) h (by decide) hp).mono (by decide)⟩
theorem rest1_all {f : Nat} (hf : 1 ≤ f ∧ f ≤ 4) {p : ByteArray} (hp : p.size ≤ 4) : ∃ k', ∀ b : Nat, Adds 87 #[.pointer (some ⟨b, 0, none⟩)] b f p 0 k' [] (gCode p (gRest f)) 300 := by
  have hp : p.size ≤ 1000 := by omega
  by_cases h : f = 3
  · subst h; exact ⟨_, fun b => by rw [← gcode_rest]; exact (rest1_any (k := 0) rfl (by decide) hp).mono (by decide)⟩
  · exact ⟨_, fun b => by rw [show gCode p (gRest f) = [] by unfold gRest; rw [if_neg h]; rfl]; exact (rest1_none h).mono (by decide)⟩
theorem gone1_all {f : Nat} (hf : 1 ≤ f ∧ f ≤ 4) {p : ByteArray} (hp : p.size ≤ 4) : ∃ k', ∀ b : Nat, Adds 89 #[.pointer (some ⟨b, 0, none⟩)] b f p 0 k' [] (gCode p (gGone f)) 300 := by
  have hp : p.size ≤ 1000 := by omega
  by_cases h : f = 3
  · subst h; exact ⟨_, fun b => by rw [← gcode_gone]; exact (gone1_any (k := 0) rfl (by decide) hp).mono (by decide)⟩
  · exact ⟨_, fun b => by rw [show gCode p (gGone f) = [] by unfold gGone; rw [if_neg h]; rfl]; exact (gone1_none h).mono (by decide)⟩
theorem wait1_all {f : Nat} (hf : 1 ≤ f ∧ f ≤ 4) {p : ByteArray} (hp : p.size ≤ 4) : ∃ k', ∀ b : Nat, Adds 20 #[.pointer (some ⟨b, 0, none⟩)] b f p 0 k' [] (gCode p (gWait f)) 300 := by
  have hp : p.size ≤ 1000 := by omega
  by_cases h : f = 3
  · subst h; exact ⟨_, fun b => by rw [← gcode_wait3]; exact wait1_counts (k := 0) rfl (by decide) hp⟩
  · exact ⟨_, fun b => by rw [← gcode_wait (by omega)]; exact (wait1_plain (k := 0) h (by decide) hp).mono (by decide)⟩

set_option maxRecDepth 20000 in
theorem enter_ok {f : Nat} (hf : 1 ≤ f ∧ f ≤ 4) {p : ByteArray} (hp : isName p) (hs : p.size ≤ 4) (w : World) :
    Calls Tryz.prog 73 #[.int .i64 f, .string p] w fun e w' => ∃ v, e = .returned (.tuple #[v, .nilIface]) ∧ insOwn w' w.heap.size v (gCode p (gEnter f)) ∧ Below w.heap.size w w' := by
  have hmf : ∀ (fn : Fn) (first cap : Array Value) (w : World), (Instr.makeFunc fn first cap).run Tryz.prog w = .ok (.func fn first cap) w := fun _ _ _ _ => rfl
  obtain ⟨k', hc⟩ := enter1_all hf hs
  have HM := hide (made_ok hf hp hs (fun _ _ => rfl) hc w)
  clear hc hf hp hs
  generalize gCode p (gEnter f) = D at *
  generalize (f : Int) = fi at *
  go_enter Tryz.func73, Tryz.ntmps73
  go_wp2_with (go_at_call 19; refine HM.out.mono ?_; rintro e wq ⟨v, rfl, hv⟩)
  go_ret2
  exact ⟨v, rfl, hv⟩

set_option maxRecDepth 20000 in
theorem leave_ok {f : Nat} (hf : 1 ≤ f ∧ f ≤ 4) {p : ByteArray} (hp : isName p) (hs : p.size ≤ 4) (w : World) :
    Calls Tryz.prog 74 #[.int .i64 f, .string p] w fun e w' => ∃ v, e = .returned (.tuple #[v, .nilIface]) ∧ insOwn w' w.heap.size v (gCode p (gLeave f)) ∧ Below w.heap.size w w' := by
  have hmf : ∀ (fn : Fn) (first cap : Array Value) (w : World), (Instr.makeFunc fn first cap).run Tryz.prog w = .ok (.func fn first cap) w := fun _ _ _ _ => rfl
  obtain ⟨k', hc⟩ := leave1_all hf hs
  have HM := hide (made_ok hf hp hs (fun _ _ => rfl) hc w)
  clear hc hf hp hs
  generalize gCode p (gLeave f) = D at *
  generalize (f : Int) = fi at *
  go_enter Tryz.func74, Tryz.ntmps74
  go_wp2_with (go_at_call 19; refine HM.out.mono ?_; rintro e wq ⟨v, rfl, hv⟩)
  go_ret2
  exact ⟨v, rfl, hv⟩

set_option maxRecDepth 20000 in
theorem rest_ok {f : Nat} (hf : 1 ≤ f ∧ f ≤ 4) {p : ByteArray} (hp : isName p) (hs : p.size ≤ 4) (w : World) :
    Calls Tryz.prog 75 #[.int .i64 f, .string p] w fun e w' => ∃ v, e = .returned (.tuple #[v, .nilIface]) ∧ insOwn w' w.heap.size v (gCode p (gRest f)) ∧ Below w.heap.size w w' := by
  have hmf : ∀ (fn : Fn) (first cap : Array Value) (w : World), (Instr.makeFunc fn first cap).run Tryz.prog w = .ok (.func fn first cap) w := fun _ _ _ _ => rfl
  obtain ⟨k', hc⟩ := rest1_all hf hs
  have HM := hide (made_ok hf hp hs (fun _ _ => rfl) hc w)
  clear hc hf hp hs
  generalize gCode p (gRest f) = D at *
  generalize (f : Int) = fi at *
  go_enter Tryz.func75, Tryz.ntmps75
  go_wp2_with (go_at_call 19; refine HM.out.mono ?_; rintro e wq ⟨v, rfl, hv⟩)
  go_ret2
  exact ⟨v, rfl, hv⟩

set_option maxRecDepth 20000 in
theorem gone_ok {f : Nat} (hf : 1 ≤ f ∧ f ≤ 4) {p : ByteArray} (hp : isName p) (hs : p.size ≤ 4) (w : World) :
    Calls Tryz.prog 76 #[.int .i64 f, .string p] w fun e w' => ∃ v, e = .returned (.tuple #[v, .nilIface]) ∧ insOwn w' w.heap.size v (gCode p (gGone f)) ∧ Below w.heap.size w w' := by
  have hmf : ∀ (fn : Fn) (first cap : Array Value) (w : World), (Instr.makeFunc fn first cap).run Tryz.prog w = .ok (.func fn first cap) w := fun _ _ _ _ => rfl
  obtain ⟨k', hc⟩ := gone1_all hf hs
  have HM := hide (made_ok hf hp hs (fun _ _ => rfl) hc w)
  clear hc hf hp hs
  generalize gCode p (gGone f) = D at *
  generalize (f : Int) = fi at *
  go_enter Tryz.func76, Tryz.ntmps76
  go_wp2_with (go_at_call 19; refine HM.out.mono ?_; rintro e wq ⟨v, rfl, hv⟩)
  go_ret2
  exact ⟨v, rfl, hv⟩

set_option maxRecDepth 20000 in
theorem wait_ok {f : Nat} (hf : 1 ≤ f ∧ f ≤ 4) {p : ByteArray} (hp : isName p) (hs : p.size ≤ 4) (w : World) :
    Calls Tryz.prog 10 #[.int .i64 f, .string p] w fun e w' => ∃ v, e = .returned (.tuple #[v, .nilIface]) ∧ insOwn w' w.heap.size v (gCode p (gWait f)) ∧ Below w.heap.size w w' := by
  have hmf : ∀ (fn : Fn) (first cap : Array Value) (w : World), (Instr.makeFunc fn first cap).run Tryz.prog w = .ok (.func fn first cap) w := fun _ _ _ _ => rfl
  obtain ⟨k', hc⟩ := wait1_all hf hs
  have HM := hide (made_ok hf hp hs (fun _ _ => rfl) hc w)
  clear hc hf hp hs
  generalize gCode p (gWait f) = D at *
  generalize (f : Int) = fi at *
  go_enter Tryz.func10, Tryz.ntmps10
  go_wp2_with (go_at_call 19; refine HM.out.mono ?_; rintro e wq ⟨v, rfl, hv⟩)
  go_ret2
  exact ⟨v, rfl, hv⟩
end Go.Proofs.YtpjabgdcpogdiaaGreatDoor

/- WkA -/
namespace Go.Proofs.YtpjabgdcpogdiaaGreatDoor
open Go.RowKit Go.Extern.Stop Go.Stop Go.Extern Go.Maps Go.WideMaps Go.Sort

theorem wkInt : ∃ i, (Tryz.prog).info? 3 = some i ∧ i.zero = some (.int .i64 0) ∧ i.size = 1 ∧ i.bytes = 8 := info_parts (by kernel_rfl)
def ncells (l : List Int) : List Value := l.map (Value.int .i64)
def numsOwn (w : World) (base : Nat) (v : Value) (l : List Int) : Prop := w.ownsRow base 3 1 v l.length (ncells l)
theorem numsOwn_nil (w : World) (base : Nat) : numsOwn w base (.slice none 0 0) [] := World.ownsRow_nil _ _ _ _
theorem ncells_append (a b : List Int) : ncells (a ++ b) = ncells a ++ ncells b := by simp [ncells]
theorem numsOwn_keep {w w' : World} {base : Nat} {v : Value} {l : List Int} (h : numsOwn w base v l) (k : Below w.heap.size w w') : numsOwn w' base v l :=
  ownsRow_block h (fun b hb => k.block b (h.lt b hb).2)
theorem numsOwn_mono {w : World} {base base' : Nat} {v : Value} {l : List Int} (h : numsOwn w base v l) (hb : base' ≤ base) : numsOwn w base' v l := by
  obtain ⟨h1, h2⟩ := h
  refine ⟨h1, ?_⟩
  rcases h2 with h2 | ⟨g, cap, cur, e, hg, r⟩
  · exact .inl h2
  · exact .inr ⟨g, cap, cur, e, Nat.le_trans hb hg, r⟩
theorem numsOwn_at {w : World} {base : Nat} {v : Value} {l : List Int} (h : numsOwn w base v l) : ∃ ad cap, v = .slice ad l.length cap ∧ l.length ≤ cap ∧ numsAt ad l w := by
  obtain ⟨g, c, rfl, h1, h2, h3⟩ := ownsRow_shape h
  refine ⟨g, c, rfl, h1, fun i x hx => ?_⟩
  obtain ⟨gg, e, hc⟩ := h3 i (.int .i64 x) (by unfold ncells; rw [List.getElem?_map, hx]; rfl)
  exact ⟨gg, 0, e, by rw [Nat.zero_add]; exact hc⟩
theorem numsOwn_new {w : World} {l : List Int} {cs : Array Value} {base : Nat} (h : cs.toList = ncells l) (hb : base ≤ w.heap.size) (hl : l.length ≤ 1000000) : numsOwn (w.alloc (.cells cs 3)) base (.slice (some ⟨w.heap.size, 0, none⟩) l.length l.length) l := by
  have hn : (ncells l).length = l.length := by simp [ncells]
  refine ⟨by rw [hn, Nat.mul_one], .inr ⟨w.heap.size, l.length, cs, rfl, hb, heap_new w _, Nat.le_refl _, by unfold maxLen; omega, ?_, ?_⟩⟩
  · rw [← Array.length_toList, h, hn, Nat.mul_one]
  · rw [h, Nat.mul_one, ← hn, List.take_length]
theorem wpList_append_ints {ops : Array Oper} {rest : List Oper} {o : Oper} {a : Act} (w : World) {Q : Exit → Act → World → Prop} (hgd : o.guard = none) (s x : Operand)
    (ho : o.op = .call { callee := .builtin .append, args := #[s, x], argTypes := #[61, 61] }) (base : Nat) (l0 l : List Int) (v : Value) (ad : Addr) (cap : Nat)
    (hs : a.eval s = v) (hown : numsOwn w base v l0) (hx : a.eval x = .slice (some ad) l.length cap) (hl : numsAt (some ad) l w) (h3 : l0.length + l.length ≤ 1000000) (hb : base ≤ w.heap.size)
    (h : ∀ v' w', numsOwn w' base v' (l0 ++ l) → Below base w w' → w.heap.size ≤ w'.heap.size → w.grownBy w' v.ownBlock → (v'.ownBlock = v.ownBlock ∨ v'.ownBlock = some w.heap.size) → wpList Tryz.prog ops Q rest (a.put o.dst v') w') : wpList Tryz.prog ops Q (o :: rest) a w := by
  obtain ⟨ri, hri, hrz, hrs, hrb⟩ := wkInt
  refine wpList_append_own_at w hgd s x 61 ho base 3 ri (.int .i64 0) 1 8 Tryz.underlying61 hri hrz hrs hrb rfl (by decide) v l0.length (ncells l0) hs hown ad l.length cap (ncells l) hx (by unfold ncells; rw [List.length_map, Nat.mul_one]) (fun j u hj => ?_) (fun u hu => ?_) (by unfold maxLen; omega) (by omega) hb (fun v' w' h2 hg _ hloc => ?_)
  · unfold ncells at hj
    rw [List.getElem?_map] at hj
    cases hxj : l[j]? with
    | none => rw [hxj] at hj; cases hj
    | some y =>
      rw [hxj] at hj; cases hj
      obtain ⟨_, _, e, c⟩ := hl j y hxj
      cases e
      rw [Addr.add_lit]; exact c
  · obtain ⟨y, _, rfl⟩ := List.mem_map.1 hu; rfl
  · have hB : Below base w w' := (Below.refl base w).grown hg hb (fun k hk => (hown.lt k hk).1)
    refine h v' w' ?_ hB hB.size hg hloc
    unfold numsOwn
    rw [List.length_append, ncells_append]
    exact h2

theorem numsOwn_set {w : World} {base g cap n : Nat} {l : List Int} (h : numsOwn w base (.slice (some ⟨g, 0, none⟩) n cap) l) (j : Nat) (x : Int) : numsOwn (w.setCell ⟨g, j, none⟩ (.int .i64 x)) base (.slice (some ⟨g, 0, none⟩) n cap) (l.set j x) := by
  obtain ⟨h1, h2⟩ := h
  rcases h2 with ⟨e, -⟩ | ⟨g', cap', cur, e, hg, hh, hn, hm, hs, hc⟩
  · cases e
  · cases e
    refine ⟨by unfold ncells; simp, .inr ⟨g, cap, cur.setIfInBounds j (.int .i64 x), by rw [List.length_set], hg, heap_setCell_same w g j cur _ _ hh, by rw [List.length_set]; exact hn, hm, by simpa using hs, ?_⟩⟩
    rw [List.length_set, Array.toList_setIfInBounds, List.take_set, hc]
    unfold ncells
    rw [List.map_set]
theorem numsOwn_cell {w : World} {base g cap n : Nat} {l : List Int} (h : numsOwn w base (.slice (some ⟨g, 0, none⟩) n cap) l) {j : Nat} {x : Int} (hx : l[j]? = some x) : w.cell? ⟨g, j, none⟩ = some (.int .i64 x) ∧ w.frozen? ⟨g, j, none⟩ = false := by
  have hl := (List.getElem?_eq_some_iff.1 hx).1
  obtain rfl : n = l.length := by
    obtain ⟨ad, c, e, -⟩ := numsOwn_at h
    cases e; rfl
  refine ⟨?_, ?_⟩
  · unfold numsOwn at h
    rw [World.ownsRow.cellAt h j (by rw [Nat.mul_one]; exact hl)]
    unfold ncells
    rw [List.getElem?_map, hx]; rfl
  · obtain ⟨h1, h2⟩ := h
    rcases h2 with ⟨e, -⟩ | ⟨g', cap', cur, e, hg, hh, hn, hm, hs, hc⟩
    · cases e
    · cases e
      exact frozen_of_row w g j cur _ hh

end Go.Proofs.YtpjabgdcpogdiaaGreatDoor

/- CodeA -/
namespace Go.Proofs.YtpjabgdcpogdiaaGreatDoor
open Go.RowKit Go.Extern.Stop Go.Stop Go.Extern
set_option maxRecDepth 20000 in
set_option maxHeartbeats 4000000 in
theorem shape_any (op : ByteArray) (w : World) :
    Calls Tryz.prog 78 #[.string op] w fun e w' => e = .returned (shapeV (shape op.toList)) ∧ w' = w := by
  cases h0 : (op.toList == [99, 111, 110, 115, 116])
  rotate_left
  · have hs : shape op.toList = some [114, 118] := by simp only [shape, h0, if_true]
    rw [hs]
    go_enter Tryz.func78, Tryz.ntmps78
    go_wp2
    go_ret2
    exact ⟨rfl, rfl⟩
  cases h1 : (op.toList == [109, 111, 118, 101])
  rotate_left
  · have hs : shape op.toList = some [114, 114] := by simp only [shape, h0, h1, Bool.false_eq_true, if_false, if_true]
    rw [hs]
    go_enter Tryz.func78, Tryz.ntmps78
    go_wp2
    go_ret2
    exact ⟨rfl, rfl⟩
  cases h2 : (op.toList == [97, 100, 100])
  rotate_left
  · have hs : shape op.toList = some [114, 114, 114] := by simp only [shape, h0, h1, h2, Bool.false_eq_true, if_false, if_true]
    rw [hs]
    go_enter Tryz.func78, Tryz.ntmps78
    go_wp2
    go_ret2
    exact ⟨rfl, rfl⟩
  cases h3 : (op.toList == [115, 117, 98])
  rotate_left
  · have hs : shape op.toList = some [114, 114, 114] := by simp only [shape, h0, h1, h2, h3, Bool.false_eq_true, if_false, if_true]
    rw [hs]
    go_enter Tryz.func78, Tryz.ntmps78
    go_wp2
    go_ret2
    exact ⟨rfl, rfl⟩
  cases h4 : (op.toList == [97, 110, 100])
  rotate_left
  · have hs : shape op.toList = some [114, 114, 114] := by simp only [shape, h0, h1, h2, h3, h4, Bool.false_eq_true, if_false, if_true]
    rw [hs]
    go_enter Tryz.func78, Tryz.ntmps78
    go_wp2
    go_ret2
    exact ⟨rfl, rfl⟩
  cases h5 : (op.toList == [120, 111, 114])
  rotate_left
  · have hs : shape op.toList = some [114, 114, 114] := by simp only [shape, h0, h1, h2, h3, h4, h5, Bool.false_eq_true, if_false, if_true]
    rw [hs]
    go_enter Tryz.func78, Tryz.ntmps78
    go_wp2
    go_ret2
    exact ⟨rfl, rfl⟩
  cases h6 : (op.toList == [108, 111, 97, 100])
  rotate_left
  · have hs : shape op.toList = some [114, 114, 119] := by simp only [shape, h0, h1, h2, h3, h4, h5, h6, Bool.false_eq_true, if_false, if_true]
    rw [hs]
    go_enter Tryz.func78, Tryz.ntmps78
    go_wp2
    go_ret2
    exact ⟨rfl, rfl⟩
  cases h7 : (op.toList == [115, 116, 111, 114, 101])
  rotate_left
  · have hs : shape op.toList = some [114, 114, 119] := by simp only [shape, h0, h1, h2, h3, h4, h5, h6, h7, Bool.false_eq_true, if_false, if_true]
    rw [hs]
    go_enter Tryz.func78, Tryz.ntmps78
    go_wp2
    go_ret2
    exact ⟨rfl, rfl⟩
  cases h8 : (op.toList == [115, 119, 97, 112])
  rotate_left
  · have hs : shape op.toList = some [114, 114, 119] := by simp only [shape, h0, h1, h2, h3, h4, h5, h6, h7, h8, Bool.false_eq_true, if_false, if_true]
    rw [hs]
    go_enter Tryz.func78, Tryz.ntmps78
    go_wp2
    go_ret2
    exact ⟨rfl, rfl⟩
  cases h9 : (op.toList == [99, 97, 115])
  rotate_left
  · have hs : shape op.toList = some [114, 115, 119] := by simp only [shape, h0, h1, h2, h3, h4, h5, h6, h7, h8, h9, Bool.false_eq_true, if_false, if_true]
    rw [hs]
    go_enter Tryz.func78, Tryz.ntmps78
    go_wp2
    go_ret2
    exact ⟨rfl, rfl⟩
  cases h10 : (op.toList == [97, 108, 108, 111, 99])
  rotate_left
  · have hs : shape op.toList = some [114] := by simp only [shape, h0, h1, h2, h3, h4, h5, h6, h7, h8, h9, h10, Bool.false_eq_true, if_false, if_true]
    rw [hs]
    go_enter Tryz.func78, Tryz.ntmps78
    go_wp2
    go_ret2
    exact ⟨rfl, rfl⟩
  cases h11 : (op.toList == [102, 114, 101, 101])
  rotate_left
  · have hs : shape op.toList = some [114] := by simp only [shape, h0, h1, h2, h3, h4, h5, h6, h7, h8, h9, h10, h11, Bool.false_eq_true, if_false, if_true]
    rw [hs]
    go_enter Tryz.func78, Tryz.ntmps78
    go_wp2
    go_ret2
    exact ⟨rfl, rfl⟩
  cases h12 : (op.toList == [109, 97, 114, 107])
  rotate_left
  · have hs : shape op.toList = some [114] := by simp only [shape, h0, h1, h2, h3, h4, h5, h6, h7, h8, h9, h10, h11, h12, Bool.false_eq_true, if_false, if_true]
    rw [hs]
    go_enter Tryz.func78, Tryz.ntmps78
    go_wp2
    go_ret2
    exact ⟨rfl, rfl⟩
  cases h13 : (op.toList == [110, 101, 101, 100])
  rotate_left
  · have hs : shape op.toList = some [114] := by simp only [shape, h0, h1, h2, h3, h4, h5, h6, h7, h8, h9, h10, h11, h12, h13, Bool.false_eq_true, if_false, if_true]
    rw [hs]
    go_enter Tryz.func78, Tryz.ntmps78
    go_wp2
    go_ret2
    exact ⟨rfl, rfl⟩
  cases h14 : (op.toList == [102, 101, 110, 99, 101])
  rotate_left
  · have hs : shape op.toList = some [] := by simp only [shape, h0, h1, h2, h3, h4, h5, h6, h7, h8, h9, h10, h11, h12, h13, h14, Bool.false_eq_true, if_false, if_true]
    rw [hs]
    go_enter Tryz.func78, Tryz.ntmps78
    go_wp2
    go_ret2
    exact ⟨rfl, rfl⟩
  cases h15 : (op.toList == [102, 111, 114, 99, 101])
  rotate_left
  · have hs : shape op.toList = some [] := by simp only [shape, h0, h1, h2, h3, h4, h5, h6, h7, h8, h9, h10, h11, h12, h13, h14, h15, Bool.false_eq_true, if_false, if_true]
    rw [hs]
    go_enter Tryz.func78, Tryz.ntmps78
    go_wp2
    go_ret2
    exact ⟨rfl, rfl⟩
  cases h16 : (op.toList == [115, 116, 111, 112])
  rotate_left
  · have hs : shape op.toList = some [] := by simp only [shape, h0, h1, h2, h3, h4, h5, h6, h7, h8, h9, h10, h11, h12, h13, h14, h15, h16, Bool.false_eq_true, if_false, if_true]
    rw [hs]
    go_enter Tryz.func78, Tryz.ntmps78
    go_wp2
    go_ret2
    exact ⟨rfl, rfl⟩
  cases h17 : (op.toList == [122, 101, 114, 111])
  rotate_left
  · have hs : shape op.toList = some [114, 108] := by simp only [shape, h0, h1, h2, h3, h4, h5, h6, h7, h8, h9, h10, h11, h12, h13, h14, h15, h16, h17, Bool.false_eq_true, if_false, if_true]
    rw [hs]
    go_enter Tryz.func78, Tryz.ntmps78
    go_wp2
    go_ret2
    exact ⟨rfl, rfl⟩
  cases h18 : (op.toList == [115, 97, 109, 101])
  rotate_left
  · have hs : shape op.toList = some [114, 114, 108] := by simp only [shape, h0, h1, h2, h3, h4, h5, h6, h7, h8, h9, h10, h11, h12, h13, h14, h15, h16, h17, h18, Bool.false_eq_true, if_false, if_true]
    rw [hs]
    go_enter Tryz.func78, Tryz.ntmps78
    go_wp2
    go_ret2
    exact ⟨rfl, rfl⟩
  cases h19 : (op.toList == [103, 111, 116, 111])
  rotate_left
  · have hs : shape op.toList = some [108] := by simp only [shape, h0, h1, h2, h3, h4, h5, h6, h7, h8, h9, h10, h11, h12, h13, h14, h15, h16, h17, h18, h19, Bool.false_eq_true, if_false, if_true]
    rw [hs]
    go_enter Tryz.func78, Tryz.ntmps78
    go_wp2
    go_ret2
    exact ⟨rfl, rfl⟩
  cases h20 : (op.toList == [108, 97, 98, 101, 108])
  rotate_left
  · have hs : shape op.toList = some [108] := by simp only [shape, h0, h1, h2, h3, h4, h5, h6, h7, h8, h9, h10, h11, h12, h13, h14, h15, h16, h17, h18, h19, h20, Bool.false_eq_true, if_false, if_true]
    rw [hs]
    go_enter Tryz.func78, Tryz.ntmps78
    go_wp2
    go_ret2
    exact ⟨rfl, rfl⟩
  have hs : shape op.toList = none := by simp only [shape, h0, h1, h2, h3, h4, h5, h6, h7, h8, h9, h10, h11, h12, h13, h14, h15, h16, h17, h18, h19, h20, Bool.false_eq_true, if_false]
  rw [hs]
  go_enter Tryz.func78, Tryz.ntmps78
  go_wp2
  go_ret2
  exact ⟨rfl, rfl⟩

end Go.Proofs.YtpjabgdcpogdiaaGreatDoor

/- CodeB -/
namespace Go.Proofs.YtpjabgdcpogdiaaGreatDoor
open Go.RowKit Go.Extern.Stop Go.Stop Go.Extern
open Classical in
theorem isName_any (s : ByteArray) (w : World) :
    Calls Tryz.prog 80 #[.string s] w fun e w' => e = .returned (.bool (decide (isName s))) ∧ w' = w := by
  by_cases h1 : 1 ≤ s.size
  · by_cases h2 : s.size ≤ 12
    · have HD : Hid (∀ f : Bool, (f = true ↔ ∀ j (h : j < s.size), nameOk j (s[j]'h).toNat = true) → decide (isName s) = f) := fun f hf => by
        cases f with
        | true => exact decide_eq_true ⟨h1, h2, hf.1 rfl⟩
        | false => exact decide_eq_false (fun h => by have := hf.2 h.2.2; cases this)
      have i1 : ¬ (s.size : Int) < 1 := by omega
      have i2 : ¬ 12 < (s.size : Int) := by omega
      generalize decide (isName s) = F at *
      go_enter Tryz.func80, Tryz.ntmps80
      go_wp2_with fail
      go_loopw [3, 4, 5] (fun i _ _ wr => wr = w ∧ ∃ j : Nat, j ≤ s.size ∧ i = .int .i64 j ∧ Hid (∀ i (h : i < s.size), i < j → nameOk i (s[i]'h).toNat = true)) (fun i _ _ _ => s.size - (intOf i).toNat)
      case atStart => exact ⟨rfl, 0, Nat.zero_le _, rfl, fun i _ h => absurd h (Nat.not_lt_zero _)⟩
      case round =>
        obtain ⟨rfl, j, hj, rfl, HJ⟩ := hrel
        by_cases hlt : j < s.size
        · have ji : (j : Int) < s.size := by omega
          have HY : Hid (nameOk j (s[j]'hlt).toNat = true → ∀ i (h : i < s.size), i < j + 1 → nameOk i (s[i]'h).toNat = true) := fun hy i h hi => by
            by_cases e : i = j
            · subst e; exact hy
            · exact HJ.out i h (by omega)
          have HX : Hid (nameOk j (s[j]'hlt).toNat = false → F = false) := fun hx => HD.out false ⟨(fun h => Bool.noConfusion h), (fun h => by rw [h j hlt] at hx; cases hx)⟩
          have hor : ((97 ≤ (s[j]'hlt).toNat ∧ (s[j]'hlt).toNat ≤ 122)) ∨ (¬ 97 ≤ (s[j]'hlt).toNat ∧ j = 0) ∨ (¬ 97 ≤ (s[j]'hlt).toNat ∧ j ≠ 0 ∧ 48 ≤ (s[j]'hlt).toNat ∧ (s[j]'hlt).toNat ≤ 57) ∨ (¬ 97 ≤ (s[j]'hlt).toNat ∧ j ≠ 0 ∧ ¬ 48 ≤ (s[j]'hlt).toNat ∧ (s[j]'hlt).toNat = 46) ∨ (¬ 97 ≤ (s[j]'hlt).toNat ∧ j ≠ 0 ∧ ¬ 48 ≤ (s[j]'hlt).toNat ∧ (s[j]'hlt).toNat ≠ 46)
              ∨ (¬ 97 ≤ (s[j]'hlt).toNat ∧ j ≠ 0 ∧ ¬ (s[j]'hlt).toNat ≤ 57) ∨ (97 ≤ (s[j]'hlt).toNat ∧ ¬ (s[j]'hlt).toNat ≤ 122 ∧ j = 0) ∨ (97 ≤ (s[j]'hlt).toNat ∧ ¬ (s[j]'hlt).toNat ≤ 122 ∧ j ≠ 0) := by omega
          rcases hor with ⟨q1, q2⟩ | ⟨q1, q2⟩ | ⟨q1, q2, q3, q4⟩ | ⟨q1, q2, q3, q4⟩ | ⟨q1, q2, q3, q4⟩ | ⟨q1, q2, q3⟩ | ⟨q1, q2, q3⟩ | ⟨q1, q2, q3⟩
          · have HZ : Hid (∀ i (h : i < s.size), i < j + 1 → nameOk i (s[i]'h).toNat = true) := HY.out (decide_eq_true (by omega))
            have z1 : (97 : Int) ≤ ((s[j]'hlt).toNat : Int) := by omega
            have z2 : ((s[j]'hlt).toNat : Int) ≤ 122 := by omega
            clear HY HX HJ HD q1 q2
            go_wp2
            go_roundw
            case rel => exact ⟨trivial, j + 1, by omega, by go_num, HZ⟩
            case measure => simp [intOf]; omega
          · have HZ : Hid (F = false) := HX.out (decide_eq_false (by omega))
            subst q2
            have z1 : ¬ (97 : Int) ≤ ((s[0]'hlt).toNat : Int) := by omega
            clear HY HX HJ HD q1
            go_wp2
            all_goals
              go_ret
              exact ⟨by rw [HZ.out]; rfl, rfl⟩
          · have HZ : Hid (∀ i (h : i < s.size), i < j + 1 → nameOk i (s[i]'h).toNat = true) := HY.out (decide_eq_true (by omega))
            have z1 : ¬ (97 : Int) ≤ ((s[j]'hlt).toNat : Int) := by omega
            have z2 : (48 : Int) ≤ ((s[j]'hlt).toNat : Int) := by omega
            have z3 : ((s[j]'hlt).toNat : Int) ≤ 57 := by omega
            have jz : ((j : Int) == 0) = false := beq_eq_false_iff_ne.2 (by omega)
            clear HY HX HJ HD q1 q3 q4
            go_wp2
            go_roundw
            case rel => exact ⟨trivial, j + 1, by omega, by go_num, HZ⟩
            case measure => simp [intOf]; omega
          · have HZ : Hid (∀ i (h : i < s.size), i < j + 1 → nameOk i (s[i]'h).toNat = true) := HY.out (decide_eq_true (by omega))
            have z1 : ¬ (97 : Int) ≤ ((s[j]'hlt).toNat : Int) := by omega
            have z2 : ¬ (48 : Int) ≤ ((s[j]'hlt).toNat : Int) := by omega
            have jz : ((j : Int) == 0) = false := beq_eq_false_iff_ne.2 (by omega)
            have zd : (((s[j]'hlt).toNat : Int) != 46) = false := by rw [bne_eq_false_iff_eq]; omega
            clear HY HX HJ HD q1 q3 q4
            go_wp2
            go_roundw
            case rel => exact ⟨trivial, j + 1, by omega, by go_num, HZ⟩
            case measure => simp [intOf]; omega
          · have HZ : Hid (F = false) := HX.out (decide_eq_false (by omega))
            have z1 : ¬ (97 : Int) ≤ ((s[j]'hlt).toNat : Int) := by omega
            have z2 : ¬ (48 : Int) ≤ ((s[j]'hlt).toNat : Int) := by omega
            have jz : ((j : Int) == 0) = false := beq_eq_false_iff_ne.2 (by omega)
            have zd : (((s[j]'hlt).toNat : Int) != 46) = true := by rw [bne_iff_ne]; omega
            clear HY HX HJ HD q1 q3 q4
            go_wp2
            all_goals
              go_ret
              exact ⟨by rw [HZ.out]; rfl, rfl⟩
          · have HZ : Hid (F = false) := HX.out (decide_eq_false (by omega))
            have z1 : ¬ (97 : Int) ≤ ((s[j]'hlt).toNat : Int) := by omega
            have z2 : (48 : Int) ≤ ((s[j]'hlt).toNat : Int) := by omega
            have z3 : ¬ ((s[j]'hlt).toNat : Int) ≤ 57 := by omega
            have jz : ((j : Int) == 0) = false := beq_eq_false_iff_ne.2 (by omega)
            have zd : (((s[j]'hlt).toNat : Int) != 46) = true := by rw [bne_iff_ne]; omega
            clear HY HX HJ HD q1 q3
            go_wp2
            all_goals
              go_ret
              exact ⟨by rw [HZ.out]; rfl, rfl⟩
          · have HZ : Hid (F = false) := HX.out (decide_eq_false (by omega))
            subst q3
            have z1 : (97 : Int) ≤ ((s[0]'hlt).toNat : Int) := by omega
            have z2 : ¬ ((s[0]'hlt).toNat : Int) ≤ 122 := by omega
            clear HY HX HJ HD q1 q2
            go_wp2
            all_goals
              go_ret
              exact ⟨by rw [HZ.out]; rfl, rfl⟩
          · have HZ : Hid (F = false) := HX.out (decide_eq_false (by omega))
            have z1 : (97 : Int) ≤ ((s[j]'hlt).toNat : Int) := by omega
            have z2 : ¬ ((s[j]'hlt).toNat : Int) ≤ 122 := by omega
            have z3 : (48 : Int) ≤ ((s[j]'hlt).toNat : Int) := by omega
            have z4 : ¬ ((s[j]'hlt).toNat : Int) ≤ 57 := by omega
            have jz : ((j : Int) == 0) = false := beq_eq_false_iff_ne.2 (by omega)
            have zd : (((s[j]'hlt).toNat : Int) != 46) = true := by rw [bne_iff_ne]; omega
            clear HY HX HJ HD q1 q2
            go_wp2
            all_goals
              go_ret
              exact ⟨by rw [HZ.out]; rfl, rfl⟩
        · have HZ : Hid (F = true) := HD.out true ⟨fun _ i h => HJ.out i h (by omega), fun _ => rfl⟩
          obtain rfl : j = s.size := by omega
          clear HJ HD
          go_wp2
          go_ret
          exact ⟨by rw [HZ.out]; rfl, rfl⟩
    · have HZ : decide (isName s) = false := decide_eq_false (fun h => h2 h.2.1)
      have i1 : ¬ (s.size : Int) < 1 := by omega
      have i2 : 12 < (s.size : Int) := by omega
      rw [HZ]
      go_enter Tryz.func80, Tryz.ntmps80
      go_wp2
      go_ret
      exact ⟨rfl, rfl⟩
  · have HZ : decide (isName s) = false := decide_eq_false (fun h => h1 h.1)
    have i1 : (s.size : Int) < 1 := by omega
    rw [HZ]
    go_enter Tryz.func80, Tryz.ntmps80
    go_wp2
    go_ret
    exact ⟨rfl, rfl⟩

end Go.Proofs.YtpjabgdcpogdiaaGreatDoor
