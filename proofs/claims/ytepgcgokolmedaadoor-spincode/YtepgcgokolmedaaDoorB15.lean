import Derived.Test.YtepgcgokolmedaaDoorB11
import Derived.Test.YtepgcgokolmedaaDoorB03
import Derived.Test.YtepgcgokolmedaaDoorB14

/- SpA -/
namespace Go.Proofs.YtepgcgokolmedaaDoor
open Go.RowKit

def spConst : ByteArray := ⟨#[99, 111, 110, 115, 116]⟩
def spLabel : ByteArray := ⟨#[108, 97, 98, 101, 108]⟩
def spNo : ByteArray := ⟨#[]⟩

structure AS where
  ps : List Nat
  o : Option Nat
deriving DecidableEq
def rounds (l : List Nat) : Nat := (l.map (· / 19)).sum
theorem rounds_set {p p' : Nat} : ∀ {l : List Nat} {t : Nat}, l[t]? = some p → rounds (l.set t p') + p / 19 = rounds l + p' / 19
  | [], _, h => by simp at h
  | x :: l, 0, h => by
    simp at h
    subst h
    simp [rounds]; omega
  | x :: l, t + 1, h => by
    have := rounds_set (p := p) (p' := p') (l := l) (t := t) (by simpa using h)
    simp [rounds] at this ⊢; omega

def nSt (q : Nat) : Nat := if q ≤ 11 then 0 else if q ≤ 14 then 1 else if q ≤ 16 then 2 else 3
def sq (c : Int) : List Wt := [⟨0, 0, 1, 1⟩, ⟨0, 0, 2, c + 1⟩, ⟨0, 0, 1, 0⟩]

structure Mine (q : Nat) (r : Nat → Int) (ws : List Wt) (w1 w2 c : Int) : Prop where
  at' : q = 4 ∧ r 0 = 0 ∨ 6 ≤ q
  r7 : r 7 = 1
  r2a : q = 8 ∨ q = 9 → r 2 = 0
  r3 : 9 ≤ q ∧ q ≤ 13 → r 3 = 1
  r4a : q = 10 → r 4 = 1
  r2b : q = 13 → r 2 = c
  r2c : q = 14 → r 2 = c + 1
  r4b : q = 16 → r 4 = 0
  r0 : q = 18 → r 0 = 0
  ws : ∃ d, d ≤ nSt q ∧ ws = ((sq c).take (nSt q)).drop d ∧ w1 = (if d = 1 ∨ d = 2 then 1 else 0) ∧ w2 = (if d < 2 then c else c + 1)
structure Other (q : Nat) (r : Nat → Int) (ws : List Wt) : Prop where
  at' : q ≤ 5
  r7 : r 7 = 1
  r0a : q = 2 ∨ q = 3 → r 0 = 0
  r1 : q = 3 → r 1 = 1
  r0b : q = 4 → r 0 = 1
  ws : ws = []
def TC (mine : Bool) (q : Nat) (r : Nat → Int) (ws : List Wt) (w1 w2 c : Int) : Prop := if mine = true then Mine q r ws w1 w2 c else Other q r ws

structure Inv (T tm : Nat) (a : AS) (m : Mk) : Prop where
  len : a.ps.length = T
  pc : ∀ (t p : Nat), a.ps[t]? = some p → m.pc t = p ∧ p ≤ 19 * tm
  tc : ∀ (t p : Nat), a.ps[t]? = some p → TC (a.o == some t) (p % 19) (m.regs t) (m.mem.waits t) (m.mem.ar.words 0 1) (m.mem.ar.words 0 2) (rounds a.ps)
  own : ∀ o, a.o = some o → o < T
  w0 : m.mem.ar.words 0 0 = if a.o = none then 0 else 1
  free : a.o = none → m.mem.ar.words 0 1 = 0 ∧ m.mem.ar.words 0 2 = rounds a.ps
  has : m.mem.ar.has 0 0 = true
  faults : m.faults = 0
  thr : m.mem.threads = T

theorem TC.other {b : Bool} {q : Nat} {r : Nat → Int} {ws : List Wt} {w1 w2 c w1' w2' c' : Int} (h : TC b q r ws w1 w2 c) (hb : b = true → w1' = w1 ∧ w2' = w2 ∧ c' = c) : TC b q r ws w1' w2' c' := by
  cases b with
  | false => exact h
  | true => obtain ⟨rfl, rfl, rfl⟩ := hb rfl; exact h

theorem Inv.mv {T tm : Nat} {a : AS} {m m' : Mk} (h : Inv T tm a m) {t p : Nat} (hp : a.ps[t]? = some p) (p' : Nat) (o' : Option Nat)
    (e1 : ∀ u, m'.pc u = if u = t then p' else m.pc u)
    (e2 : ∀ u, u ≠ t → m'.regs u = m.regs u)
    (e3 : ∀ u, u ≠ t → m'.mem.waits u = m.mem.waits u)
    (e4 : m'.mem.ar.has 0 0 = true) (e5 : m'.faults = 0) (e6 : m'.mem.threads = T) (hp' : p' ≤ 19 * tm)
    (ho : ∀ u, u ≠ t → (o' == some u) = (a.o == some u))
    (hu : ∀ u, u ≠ t → a.o = some u → m'.mem.ar.words 0 1 = m.mem.ar.words 0 1 ∧ m'.mem.ar.words 0 2 = m.mem.ar.words 0 2 ∧ p' / 19 = p / 19)
    (htc : TC (o' == some t) (p' % 19) (m'.regs t) (m'.mem.waits t) (m'.mem.ar.words 0 1) (m'.mem.ar.words 0 2) (rounds (a.ps.set t p')))
    (hown : ∀ o, o' = some o → o < T)
    (hw0 : m'.mem.ar.words 0 0 = if o' = none then 0 else 1)
    (hfree : o' = none → m'.mem.ar.words 0 1 = 0 ∧ m'.mem.ar.words 0 2 = rounds (a.ps.set t p')) : Inv T tm ⟨a.ps.set t p', o'⟩ m' := by
  have ht : t < a.ps.length := (List.getElem?_eq_some_iff.1 hp).1
  refine ⟨by rw [List.length_set]; exact h.len, fun u q hq => ?_, fun u q hq => ?_, hown, hw0, hfree, e4, e5, e6⟩
  · rw [e1]
    by_cases e : u = t
    · subst e
      rw [List.getElem?_set_self ht] at hq
      rw [if_pos rfl]
      cases hq
      exact ⟨rfl, hp'⟩
    · rw [List.getElem?_set_ne (fun h => e h.symm)] at hq
      rw [if_neg e]
      exact h.pc u q hq
  · by_cases e : u = t
    · subst e
      rw [List.getElem?_set_self ht] at hq
      cases hq
      exact htc
    · rw [List.getElem?_set_ne (fun h => e h.symm)] at hq
      show TC (o' == some u) _ _ _ _ _ _
      rw [ho u e, e2 u e, e3 u e]
      refine (h.tc u q hq).other fun hb => ?_
      obtain ⟨h1, h2, h3⟩ := hu u e (by simpa using hb)
      have := rounds_set (p' := p') hp
      exact ⟨h1, h2, by show ((rounds (a.ps.set t p') : Nat) : Int) = _; omega⟩

end Go.Proofs.YtepgcgokolmedaaDoor

/- SpE -/
namespace Go.Proofs.YtepgcgokolmedaaDoor
open Go.RowKit Go.Extern.Stop Go.Stop Go.Extern Go.Maps Go.WideMaps Go.Sort

def insOwn (w : World) (base : Nat) (v : Value) (l : List Ins) : Prop := w.ownsRow base 63 5 v l.length (icells l)
theorem insOwn_nil (w : World) (base : Nat) : insOwn w base (.slice none 0 0) [] := World.ownsRow_nil _ _ _ _
theorem icells_append (a b : List Ins) : icells (a ++ b) = icells a ++ icells b := by simp [icells]
theorem insOwn_keep {w w' : World} {base : Nat} {v : Value} {l : List Ins} (h : insOwn w base v l) (k : Below w.heap.size w w') : insOwn w' base v l :=
  ownsRow_block h (fun b hb => k.block b (h.lt b hb).2)

theorem wpList_append_ins {ops : Array Oper} {rest : List Oper} {o : Oper} {a : Act} (w : World) {Q : Exit → Act → World → Prop} (hgd : o.guard = none) (s x : Operand)
    (ho : o.op = .call { callee := .builtin .append, args := #[s, x], argTypes := #[23, 23] }) (base : Nat) (l0 l : List Ins) (v : Value) (ad : Addr) (cap : Nat)
    (hs : a.eval s = v) (hown : insOwn w base v l0) (hx : a.eval x = .slice (some ad) l.length cap) (hl : insAt (some ad) l w) (h1 : 0 < l.length) (h3 : l0.length + l.length ≤ 2000) (hb : base ≤ w.heap.size)
    (h : ∀ v' w', insOwn w' base v' (l0 ++ l) → Below base w w' → w.heap.size ≤ w'.heap.size → w.grownBy w' v.ownBlock → (v'.ownBlock = v.ownBlock ∨ v'.ownBlock = some w.heap.size) → wpList Tryd.prog ops Q rest (a.put o.dst v') w') : wpList Tryd.prog ops Q (o :: rest) a w := by
  obtain ⟨ri, hri, hrz, hrs, hrb⟩ := instrInfo
  refine wpList_append_own_at w hgd s x 23 ho base 63 ri (.agg #[.string ⟨#[]⟩, .int .i64 0, .int .i64 0, .int .i64 0, .string ⟨#[]⟩]) 5 56 Tryd.underlying23 hri hrz hrs hrb rfl (by decide) v l0.length (icells l0) hs hown ad l.length cap (icells l) hx (icells_len l) (fun j u hj => ?_) icells_one (by unfold maxLen; omega) (by omega) hb (fun v' w' h2 hg _ hloc => ?_)
  · obtain ⟨y, hy⟩ : ∃ y, l[0]? = some y := ⟨_, List.getElem?_eq_getElem h1⟩
    obtain ⟨b, off, e, -⟩ := hl 0 y hy
    cases e
    rw [Addr.add_lit]
    exact insAt_cells hl j u hj
  · have hB : Below base w w' := (Below.refl base w).grown hg hb (fun k hk => (hown.lt k hk).1)
    refine h v' w' ?_ hB hB.size hg hloc
    unfold insOwn
    rw [List.length_append, icells_append]
    exact h2

theorem insAt_new {w : World} {l : List Ins} {cs : Array Value} {t : TypeId} (h : cs.toList = icells l) : insAt (some ⟨w.heap.size, 0, none⟩) l (w.alloc (.cells cs t)) := by
  intro i x hx
  have hi := (List.getElem?_eq_some_iff.1 hx).1
  have key : ∀ j, j < 5 → (w.alloc (.cells cs t)).cell? ⟨w.heap.size, i * 5 + j, none⟩ = (icell x)[j]? := fun j hj => by
    rw [World.cell?_alloc_new, ← icells_at l i j x hx hj, ← h]
    simp
  refine ⟨w.heap.size, 0, rfl, ?_, ?_, ?_, ?_, ?_⟩
  · rw [show 0 + i * 5 = i * 5 + 0 by omega]; exact key 0 (by decide)
  · rw [show 0 + i * 5 + 1 = i * 5 + 1 by omega]; exact key 1 (by decide)
  · rw [show 0 + i * 5 + 2 = i * 5 + 2 by omega]; exact key 2 (by decide)
  · rw [show 0 + i * 5 + 3 = i * 5 + 3 by omega]; exact key 3 (by decide)
  · rw [show 0 + i * 5 + 4 = i * 5 + 4 by omega]; exact key 4 (by decide)

theorem swithin_any (n k : Int) (w : World) : Calls Tryd.prog 32 #[.int .i64 n, .int .i64 k] w fun e w' => e = .returned (.bool (decide (0 ≤ n) && decide (n < k))) ∧ w' = w := by
  by_cases h0 : 0 ≤ n
  · by_cases h1 : n < k
    · rw [decide_eq_true h0, decide_eq_true h1]
      go_enter Tryd.func32, Tryd.ntmps32
      go_wp2
      go_ret
      exact ⟨rfl, rfl⟩
    · rw [decide_eq_true h0, decide_eq_false h1]
      go_enter Tryd.func32, Tryd.ntmps32
      go_wp2
      go_ret
      exact ⟨rfl, rfl⟩
  · rw [decide_eq_false h0]
    go_enter Tryd.func32, Tryd.ntmps32
    go_wp2
    go_ret
    exact ⟨rfl, rfl⟩

def numCode (f : Int) (n : Nat) : List Ins := (List.range n).map fun (i : Nat) => ⟨spConst, f + i, i, 0, spNo⟩
theorem numCode_succ (f : Int) (n : Nat) : numCode f (n + 1) = numCode f n ++ [⟨spConst, f + n, n, 0, spNo⟩] := by
  unfold numCode
  rw [List.range_succ, List.map_append]
  rfl
theorem numCode_len (f : Int) (n : Nat) : (numCode f n).length = n := by simp [numCode]

set_option maxRecDepth 20000 in
set_option maxHeartbeats 1000000 in
theorem snumbers_any (f : Int) (n : Nat) (hf : 0 ≤ f ∧ f ≤ 1000) (hn : n ≤ 1000) (w : World) :
    Calls Tryd.prog 19 #[.int .i64 f, .int .i64 n] w fun e w' => ∃ v, e = .returned v ∧ insOwn w' w.heap.size v (numCode f n) ∧ Below w.heap.size w w' := by
  go_enter Tryd.func19, Tryd.ntmps19
  go_wp2_with fail
  go_loopw [5, 6, 8] (fun l _ i wr => ∃ j : Nat, j ≤ n ∧ i = .int .i64 j ∧ Hid (insOwn wr w.heap.size l (numCode f j)) ∧ Below w.heap.size w wr) (fun _ _ i _ => n - (intOf i).toNat)
  case atStart => exact ⟨0, Nat.zero_le _, rfl, insOwn_nil _ _, Below.refl _ _⟩
  case round =>
    obtain ⟨j, hj, rfl, HO, HB⟩ := hrel
    by_cases hlt : j < n
    · have ji : (j : Int) < n := by omega
      have wr1 : IntKind.i64.wrap (f + (j : Int)) = f + (j : Int) := by rw [IntKind.wrap_i64]; omega
      go_wp2_with (at_builtin; refine wpList_append_ins _ rfl _ _ rfl w.heap.size (numCode f j) [⟨spConst, f + (j : Int), (j : Int), 0, spNo⟩] _ _ _ rfl ?q1 rfl ?q2 (Nat.succ_pos _) ?q3 ?q4 ?_)
      case q1 => exact insOwn_keep HO.out ((Below.refl _ _).alloc (Nat.le_refl _) _)
      case q2 => exact insAt_new rfl
      case q3 => rw [numCode_len]; show j + 1 ≤ 2000; omega
      case q4 => have := HB.size; simp; omega
      intro v' w1 HO1 HB1 hs1 hg1 hloc
      have HB2 : Below w.heap.size w w1 := (HB.alloc HB.size _).trans HB1
      have HO2 : Hid (insOwn w1 w.heap.size v' (numCode f (j + 1))) := by rw [numCode_succ]; exact HO1
      clear HO1 hloc hg1 HO HB HB1 hs1
      go_wp2
      go_roundw
      case rel => exact ⟨j + 1, by omega, by go_num, HO2, HB2⟩
      case measure => simp [intOf]; omega
    · obtain rfl : j = n := by omega
      go_wp2
      go_ret
      exact ⟨_, rfl, HO.out, HB⟩
end Go.Proofs.YtepgcgokolmedaaDoor

/- SpF -/
namespace Go.Proofs.YtepgcgokolmedaaDoor
open Go.RowKit Go.Extern.Stop Go.Stop Go.Extern Go.Maps Go.WideMaps Go.Sort

theorem insOwn_mono {w : World} {base base' : Nat} {v : Value} {l : List Ins} (h : insOwn w base v l) (hb : base' ≤ base) : insOwn w base' v l := by
  obtain ⟨h1, h2⟩ := h
  refine ⟨h1, ?_⟩
  rcases h2 with h2 | ⟨g, cap, cur, e, hg, r⟩
  · exact .inl h2
  · exact .inr ⟨g, cap, cur, e, Nat.le_trans hb hg, r⟩

theorem insOwn_open {w : World} {base : Nat} {v : Value} {l : List Ins} (h : insOwn w base v l) (h1 : 0 < l.length) : ∃ ad cap, v = .slice (some ad) l.length cap ∧ insAt (some ad) l w := by
  obtain ⟨ad, cap, rfl, h2, h3, h4⟩ := insAt_of_icells h
  obtain ⟨y, hy⟩ : ∃ y, l[0]? = some y := ⟨_, List.getElem?_eq_getElem h1⟩
  obtain ⟨b, off, rfl, -⟩ := h4 0 y hy
  exact ⟨_, cap, rfl, h4⟩
theorem insOwn_new {w : World} {l : List Ins} {cs : Array Value} {base : Nat} (h : cs.toList = icells l) (hb : base ≤ w.heap.size) (hl : l.length ≤ 1000) : insOwn (w.alloc (.cells cs 63)) base (.slice (some ⟨w.heap.size, 0, none⟩) l.length l.length) l := by
  refine ⟨icells_len l, .inr ⟨w.heap.size, l.length, cs, rfl, hb, heap_new w _, Nat.le_refl _, by unfold maxLen; omega, ?_, ?_⟩⟩
  · rw [← Array.length_toList, h, icells_len]
  · rw [h, ← icells_len l, List.take_length]

structure LockOk (p : ByteArray) (cell word tmp : Int) : Prop where
  hc : 0 ≤ cell ∧ cell < 8
  hw : 0 ≤ word ∧ word < 4
  ht : 0 ≤ tmp ∧ tmp < 7
  ne : cell ≠ tmp ∧ cell ≠ tmp + 1
  name : isName p
  short : p.size ≤ 8

theorem swithin_yes {n k : Int} (h : 0 ≤ n ∧ n < k) (w : World) : Calls Tryd.prog 32 #[.int .i64 n, .int .i64 k] w fun e w' => e = .returned (.bool true) ∧ w' = w :=
  (swithin_any n k w).mono fun _ _ ⟨h1, h2⟩ => ⟨by rw [h1, decide_eq_true h.1, decide_eq_true h.2]; rfl, h2⟩

open Classical in
theorem cname_ok {p : ByteArray} (hn : isName p) (h8 : p.size ≤ 8) (w : World) : Calls Tryd.prog 33 #[.string p] w fun e w' => e = .returned .nilIface ∧ Below w.heap.size w w' := by
  have HN : Hid (∀ w, Calls Tryd.prog 47 #[.string p] w fun e w' => e = .returned (.bool true) ∧ Below w.heap.size w w') := fun w => (pisName_any p w).mono fun _ _ ⟨h1, h2⟩ => ⟨by rw [h1, decide_eq_true hn], h2⟩
  have hs : ¬ 8 < (p.size : Int) := by omega
  clear hn h8
  go_enter Tryd.func33, Tryd.ntmps33
  go_wp2_with fail
  refine (HN.out _).mono ?_
  rintro e w1 ⟨rfl, hb⟩
  go_wp2_with fail
  go_ret
  exact ⟨rfl, hb⟩
open Classical in
set_option maxRecDepth 20000 in
theorem scheck_ok {p : ByteArray} {cell word tmp : Int} (h : LockOk p cell word tmp) (w : World) :
    Calls Tryd.prog 18 #[.string p, .int .i64 cell, .int .i64 word, .int .i64 tmp] w fun e w' => e = .returned .nilIface ∧ Below w.heap.size w w' := by
  have H1 := hide (swithin_yes (k := 8) h.hc)
  have H2 := hide (swithin_yes (k := 4) h.hw)
  have H3 := hide (swithin_yes (k := 7) h.ht)
  have HN : Hid (∀ w, Calls Tryd.prog 33 #[.string p] w fun e w' => e = .returned .nilIface ∧ Below w.heap.size w w') := fun w => cname_ok h.name h.short w
  have wr1 : IntKind.i64.wrap (tmp + 1) = tmp + 1 := by have := h.ht; rw [IntKind.wrap_i64]; omega
  have n1 : (cell == tmp) = false := beq_eq_false_iff_ne.2 h.ne.1
  have n2 : (cell == tmp + 1) = false := beq_eq_false_iff_ne.2 h.ne.2
  clear h
  go_enter Tryd.func18, Tryd.ntmps18
  go_wp2_with fail
  refine (H1.out _).mono ?_
  rintro e w1 ⟨rfl, rfl⟩
  go_wp2_with fail
  refine (H2.out _).mono ?_
  rintro e w1 ⟨rfl, rfl⟩
  go_wp2_with fail
  refine (H3.out _).mono ?_
  rintro e w1 ⟨rfl, rfl⟩
  go_wp2_with fail
  refine (HN.out _).mono ?_
  rintro e w1 ⟨rfl, hb⟩
  go_wp2_with fail
  go_ret
  exact ⟨rfl, hb⟩

def spX : ByteArray := ⟨#[120]⟩
def takeCode (p : ByteArray) (cell word tmp : Int) : List Ins := ([⟨spLabel, 0, 0, 0, p⟩] ++ numCode tmp 2) ++ [⟨⟨#[99, 97, 115]⟩, cell, tmp, word, spNo⟩, ⟨⟨#[122, 101, 114, 111]⟩, tmp, 0, 0, p ++ spX⟩, ⟨⟨#[103, 111, 116, 111]⟩, 0, 0, 0, p⟩, ⟨spLabel, 0, 0, 0, p ++ spX⟩]
def giveCode (cell word tmp : Int) : List Ins := numCode tmp 1 ++ [⟨⟨#[115, 119, 97, 112]⟩, tmp, cell, word, spNo⟩]

set_option maxRecDepth 20000 in
set_option maxHeartbeats 1000000 in
theorem give_ok {p : ByteArray} {cell word tmp : Int} (h : LockOk p cell word tmp) (w : World) :
    Calls Tryd.prog 7 #[.string p, .int .i64 cell, .int .i64 word, .int .i64 tmp] w fun e w' => ∃ v, e = .returned (.tuple #[v, .nilIface]) ∧ insOwn w' w.heap.size v (giveCode cell word tmp) ∧ Below w.heap.size w w' := by
  have HC := hide (scheck_ok h w)
  have HN := hide (fun w => snumbers_any tmp 1 ⟨h.ht.1, by have := h.ht.2; omega⟩ (by decide) w)
  clear h
  go_enter Tryd.func7, Tryd.ntmps7
  go_wp2_with fail
  refine HC.out.mono ?_
  rintro e w1 ⟨rfl, hb⟩
  go_wp2_with fail
  refine (HN.out _).mono ?_
  rintro e w2 ⟨v, rfl, ho, hb2⟩
  have HB2 : Below w.heap.size w w2 := below_step hb hb2
  have HO := hide (insOwn_mono (show insOwn w2 w1.heap.size v (numCode tmp 1) from ho) hb.size)
  clear hb hb2 ho
  go_wp2_with (at_builtin; refine wpList_append_ins _ rfl _ _ rfl w.heap.size (numCode tmp 1) [⟨⟨#[115, 119, 97, 112]⟩, tmp, cell, word, spNo⟩] _ _ _ rfl ?q1 rfl ?q2 (Nat.succ_pos _) ?q3 ?q4 ?_)
  case q1 => exact insOwn_keep HO.out ((Below.refl _ _).alloc (Nat.le_refl _) _)
  case q2 => exact insAt_new rfl
  case q3 => rw [numCode_len]; show 1 + 1 ≤ 2000; omega
  case q4 => have := HB2.size; simp; omega
  intro v' w3 HO3 hb3 hs3 hg hloc
  have HB3 : Below w.heap.size w w3 := (HB2.alloc HB2.size _).trans hb3
  have HO4 : Hid (insOwn w3 w.heap.size v' (giveCode cell word tmp)) := HO3
  clear HO3 hloc hg HO HB2 hb3 hs3
  go_wp2
  go_ret2
  exact ⟨_, rfl, HO4.out, HB3⟩

set_option maxRecDepth 20000 in
set_option maxHeartbeats 1000000 in
theorem take_ok {p : ByteArray} {cell word tmp : Int} (h : LockOk p cell word tmp) (w : World) :
    Calls Tryd.prog 6 #[.string p, .int .i64 cell, .int .i64 word, .int .i64 tmp] w fun e w' => ∃ v, e = .returned (.tuple #[v, .nilIface]) ∧ insOwn w' w.heap.size v (takeCode p cell word tmp) ∧ Below w.heap.size w w' := by
  have HC := hide (scheck_ok h w)
  have HN := hide (fun w => snumbers_any tmp 2 ⟨h.ht.1, by have := h.ht.2; omega⟩ (by decide) w)
  have hsz : p.size + 1 ≤ 9223372036854775807 := by have := h.short; omega
  clear h
  go_enter Tryd.func6, Tryd.ntmps6
  go_wp2_with fail
  refine HC.out.mono ?_
  rintro e w1 ⟨rfl, hb⟩
  have HW : Hid (Below w.heap.size w w1) := hide hb
  have HL : Hid (insOwn (w1.alloc (.cells #[.string spLabel, .int .i64 0, .int .i64 0, .int .i64 0, .string p] 63)) w.heap.size (.slice (some ⟨w1.heap.size, 0, none⟩) 1 1) [⟨spLabel, 0, 0, 0, p⟩]) := hide (insOwn_new rfl hb.size (show 1 ≤ 1000 by decide))
  have HB1 : Hid (Below w.heap.size w (w1.alloc (.cells #[.string spLabel, .int .i64 0, .int .i64 0, .int .i64 0, .string p] 63))) := hide (hb.alloc hb.size _)
  clear hb HW
  go_wp2_with fail
  refine (HN.out _).mono ?_
  rintro e w2 ⟨v, rfl, ho, hb2⟩
  obtain ⟨an, cn, rfl, hnl⟩ := insOwn_open ho (by rw [numCode_len]; decide)
  rw [numCode_len]
  have HB2 : Below w.heap.size w w2 := below_step HB1.out hb2
  have HL2 := hide (insOwn_keep HL.out hb2)
  have HNL := hide hnl
  clear ho hb2 hnl HL HB1
  go_wp2_with (at_builtin; refine wpList_append_ins _ rfl _ _ rfl w.heap.size [⟨spLabel, 0, 0, 0, p⟩] (numCode tmp 2) _ _ _ rfl ?q1 (by rw [numCode_len]; rfl) ?q2 (by rw [numCode_len]; decide) ?q3 ?q4 ?_)
  case q1 => exact HL2.out
  case q2 => exact HNL.out
  case q3 => rw [numCode_len]; show 1 + 2 ≤ 2000; omega
  case q4 => exact HB2.size
  intro v' w3 HO3 hb3 hs3 hg hloc
  have HB3 : Below w.heap.size w w3 := HB2.trans hb3
  have HO4 : Hid (insOwn w3 w.heap.size v' ([⟨spLabel, 0, 0, 0, p⟩] ++ numCode tmp 2)) := HO3
  clear HO3 hloc hg HB2 hb3 hs3 HNL HL2
  go_wp2_with (at_builtin; refine wpList_append_ins _ rfl _ _ rfl w.heap.size ([⟨spLabel, 0, 0, 0, p⟩] ++ numCode tmp 2) [⟨⟨#[99, 97, 115]⟩, cell, tmp, word, spNo⟩, ⟨⟨#[122, 101, 114, 111]⟩, tmp, 0, 0, p ++ spX⟩, ⟨⟨#[103, 111, 116, 111]⟩, 0, 0, 0, p⟩, ⟨spLabel, 0, 0, 0, p ++ spX⟩] _ _ _ rfl ?q1 rfl ?q2 (Nat.succ_pos _) ?q3 ?q4 ?_)
  case q1 => exact insOwn_keep HO4.out ((Below.refl _ _).alloc (Nat.le_refl _) _)
  case q2 => exact insAt_new rfl
  case q3 => rw [List.length_append, numCode_len]; show 1 + 2 + 4 ≤ 2000; omega
  case q4 => have := HB3.size; simp; omega
  intro v5 w5 HO5 hb5 hs5 hg hloc
  have HB5 : Below w.heap.size w w5 := (HB3.alloc HB3.size _).trans hb5
  have HO6 : Hid (insOwn w5 w.heap.size v5 (takeCode p cell word tmp)) := HO5
  clear HO5 hloc hg HB3 hb5 hs5 HO4
  go_wp2
  go_ret2
  exact ⟨_, rfl, HO6.out, HB5⟩
end Go.Proofs.YtepgcgokolmedaaDoor
