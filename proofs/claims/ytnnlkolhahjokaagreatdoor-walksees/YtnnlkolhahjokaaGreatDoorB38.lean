import Derived.Test.YtnnlkolhahjokaaGreatDoorB36
import Derived.Test.YtnnlkolhahjokaaGreatDoorB37
import Derived.Test.YtnnlkolhahjokaaGreatDoorB23
import Derived.Test.YtnnlkolhahjokaaGreatDoorB14
import Derived.Test.YtnnlkolhahjokaaGreatDoorB28

/- WlC -/
namespace Go.Proofs.YtnnlkolhahjokaaGreatDoor
open Go.RowKit Go.Extern.Stop Go.Stop Go.Extern Go.Maps Go.WideMaps Go.Sort

def wIns : Ins := ⟨⟨#[99, 111, 110, 115, 116]⟩, 0, 7, 0, ⟨#[]⟩⟩
def wSta : Sta := ⟨1, [], []⟩
def wM0 : Mk := wSta.mach 1
def wM1 : Mk := (wM0.setPc 0 1).setReg 0 0 7
theorem wGood : codeFault [wIns] = (0, -1) := codeGood_is (by decide +kernel)
theorem wFault : (wSta.fault [[wIns]]).1 = 0 := by
  unfold Sta.fault
  rw [if_pos ⟨by decide, by decide, by decide, by decide, by decide⟩]
  rw [codesFrom_none _ 0 fun t L ht => ?_]
  cases t with
  | zero => cases ht; rw [wGood]
  | succ t => cases ht
theorem wDone0 : doneAt [wIns] 0 = false := by
  show (wIns.op.toList == [115, 116, 111, 112]) = false
  rw [toList_bl]; rfl
theorem wTurn0 : wM0.turnO [[wIns]] ((0 : Nat) : Int) = (0, wM1) := by
  show (if doneAt [wIns] 0 = true then (9, wM0) else (0, wM0.step [wIns] 0)) = _
  rw [wDone0, if_neg (by decide)]
  show (0, (wM0.setPc 0 1).exec [wIns] 0 wIns) = _
  rw [exec_const _ _ _ rfl]
  rfl
theorem wTurn1 : wM0.turnO [[wIns]] ((1 : Nat) : Int) = (5, wM0) := rfl
theorem wTurn2 : wM1.turnO [[wIns]] ((0 : Nat) : Int) = (9, wM1) := rfl
theorem wTurn3 : wM1.turnO [[wIns]] ((1 : Nat) : Int) = (5, wM1) := rfl
theorem wNums0 : mkNums 1 wM0 = [0, 0, 0, 0, 0, 0, 0, 0, 0, 0, 0] := rfl
theorem wNums1 : mkNums 1 wM1 = [0, 0, 7, 0, 0, 0, 0, 0, 0, 0, 1] := rfl
theorem wKey : keyOf 1 wM1 ≠ keyOf 1 wM0 := fun e => by
  have := keyOf_inj (by rw [wNums1]; decide) (by rw [wNums0]; decide) e
  rw [wNums0, wNums1] at this
  exact absurd this (by decide)
def wS2 : Sp := ⟨[(keyOf 1 wM0, (ByteArray.empty, 0)), (keyOf 1 wM1, (keyOf 1 wM0, 0))], [], 2, 1, [wM0, wM1]⟩
theorem wEnd0 : endTo [[wIns]] wM0 1 = false := by
  show (doneAt [wIns] 0 && true && true) = false
  rw [wDone0]; rfl
theorem wEnd1 : endTo [[wIns]] wM1 1 = true := rfl
theorem wSpread0 : spreadO [[wIns]] 5 wM0 2 0 ⟨[(keyOf 1 wM0, (ByteArray.empty, 0))], [], 1, 0, [wM0]⟩ = (.go, { wS2 with ms := [wM1] }) := by
  rw [spreadO_add (by rw [wTurn0]; decide) (by rw [wTurn0]; decide), wTurn0]
  have e : addSp [[wIns]] 5 ⟨[(keyOf 1 wM0, (ByteArray.empty, 0))], [], 1, 0, [wM0]⟩ wM1 (keyOf 1 wM0, ((0 : Nat) : Int)) = some { wS2 with ms := [wM1] } := by
    have hk : keyIn [(keyOf 1 wM0, (ByteArray.empty, (0 : Int)))] (keyOf 1 wM1) = false := by
      unfold keyIn
      rw [List.any_cons, List.any_nil, Bool.or_false, beq_eq_false_iff_ne, toList_bl, toList_bl]
      exact fun e => wKey (bl_inj e).symm
    unfold addSp
    show (if keyIn [(keyOf 1 wM0, (ByteArray.empty, (0 : Int)))] (keyOf 1 wM1) = true then some _ else if ((1 : Nat) : Int) = 5 then none else some (Sp.mk _ _ _ (endN 0 (endTo [[wIns]] wM1 1)) _)) = _
    rw [hk, if_neg (by decide), if_neg (by decide), wEnd1]
    rfl
  show (match addSp [[wIns]] 5 ⟨[(keyOf 1 wM0, (ByteArray.empty, 0))], [], 1, 0, [wM0]⟩ wM1 (keyOf 1 wM0, ((0 : Nat) : Int)) with | none => (SpEnd.bound, _) | some S' => spreadO [[wIns]] 5 wM0 1 1 S') = _
  rw [e]
  show spreadO [[wIns]] 5 wM0 1 1 _ = _
  rw [spreadO_err (by rw [wTurn1]; decide)]
  rfl
theorem wSpread1 : spreadO [[wIns]] 5 wM1 2 0 wS2 = (.go, wS2) := by
  rw [spreadO_err (by rw [wTurn2]; decide), spreadO_err (by rw [wTurn3]; decide)]
  rfl
theorem wFirst : firstS [[wIns]] wM0 = ⟨[(keyOf 1 wM0, (ByteArray.empty, 0))], [wM0], 1, 0, [wM0]⟩ := by
  unfold firstS
  rw [show endTo [[wIns]] wM0 ([[wIns]] : List (List Ins)).length = false from wEnd0]
  rfl
theorem wSearch (f : Nat) : (f < 2 ∧ ∃ S, searchO [[wIns]] 5 2 f (firstS [[wIns]] wM0) = (.go, S) ∧ S.ms ≠ []) ∨ searchO [[wIns]] 5 2 f (firstS [[wIns]] wM0) = (.go, wS2) := by
  have h1 : ∀ f, searchO [[wIns]] 5 2 (f + 1) (firstS [[wIns]] wM0) = searchO [[wIns]] 5 2 f { wS2 with ms := [wM1] } := fun f => by
    rw [searchO_cons (m := wM0) (l := []) (by rw [wFirst]), wFirst]
    show (match spreadO [[wIns]] 5 wM0 2 0 ⟨[(keyOf 1 wM0, (ByteArray.empty, 0))], [], 1, 0, [wM0]⟩ with | (.go, S') => searchO [[wIns]] 5 2 f S' | r => r) = _
    rw [wSpread0]
  have h2 : ∀ f, searchO [[wIns]] 5 2 (f + 1) { wS2 with ms := [wM1] } = searchO [[wIns]] 5 2 f wS2 := fun f => by
    rw [searchO_cons (m := wM1) (l := []) rfl]
    show (match spreadO [[wIns]] 5 wM1 2 0 wS2 with | (.go, S') => searchO [[wIns]] 5 2 f S' | r => r) = _
    rw [wSpread1]
  match f with
  | 0 => exact .inl ⟨by decide, _, rfl, by rw [wFirst]; simp⟩
  | 1 => exact .inl ⟨by decide, { wS2 with ms := [wM1] }, by rw [h1]; rfl, by simp⟩
  | f + 2 =>
    refine .inr ?_
    rw [h1, h2]
    cases f <;> rfl
theorem wAll {a : Nat → Addr} {w w' : World} {e : Ending} (h : AllPost a [[wIns]] wM0 5 w e w') : Below w.heap.size w w' ∧ e = .returned (.tuple #[toldV 2 1 false (.slice none 0 0), .nilIface]) := by
  obtain ⟨hb, f, S, h⟩ := h
  refine ⟨hb, ?_⟩
  rcases h with ⟨h1, h2, h3⟩ | ⟨h1, -⟩ | ⟨x, l, h1, -⟩
  · have h1 : searchO [[wIns]] 5 2 f (firstS [[wIns]] wM0) = (.go, S) := h1
    rcases wSearch f with ⟨-, S', g1, g2⟩ | g1
    · rw [g1] at h1; cases h1; exact absurd h2 g2
    · rw [g1] at h1; cases h1; exact h3
  · have h1 : searchO [[wIns]] 5 2 f (firstS [[wIns]] wM0) = (.bound, S) := h1
    rcases wSearch f with ⟨-, S', g1, g2⟩ | g1
    · rw [g1] at h1; cases h1
    · rw [g1] at h1; cases h1
  · have h1 : searchO [[wIns]] 5 2 f (firstS [[wIns]] wM0) = (.fault x, S) := h1
    rcases wSearch f with ⟨-, S', g1, g2⟩ | g1
    · rw [g1] at h1; cases h1
    · rw [g1] at h1; cases h1

theorem wIns_at (w : World) : insAt (some ⟨w.heap.size, 0, none⟩) [wIns] (w.alloc (.cells #[.string ⟨#[99, 111, 110, 115, 116]⟩, .int .i64 0, .int .i64 7, .int .i64 0, .string ⟨#[]⟩] 44)) := by
  intro i x hx
  cases i with
  | zero =>
    cases hx
    refine ⟨w.heap.size, 0, rfl, ?_, ?_, ?_, ?_, ?_⟩ <;> (rw [World.cell?_alloc_new]; rfl)
  | succ i => cases hx
theorem wCodes (w : World) (B : Obj) (hB : B = .cells #[.slice (some ⟨w.heap.size, 0, none⟩) 1 1] 45) : codesAt (some ⟨w.heap.size + 1, 0, none⟩) [[wIns]] ((w.alloc (.cells #[.string ⟨#[99, 111, 110, 115, 116]⟩, .int .i64 0, .int .i64 7, .int .i64 0, .string ⟨#[]⟩] 44)).alloc B) := by
  subst hB
  intro t L ht
  cases t with
  | zero =>
    cases ht
    refine ⟨w.heap.size + 1, 0, some ⟨w.heap.size, 0, none⟩, 1, rfl, ?_, Nat.le_refl _, insAt_below (wIns_at w) ((Below.refl _ _).alloc (Nat.le_refl _) _), fun e => by cases e⟩
    have := World.cell?_alloc_new (w.alloc (.cells #[.string ⟨#[99, 111, 110, 115, 116]⟩, .int .i64 0, .int .i64 7, .int .i64 0, .string ⟨#[]⟩] 44)) #[.slice (some ⟨w.heap.size, 0, none⟩) 1 1] 45 0
    rw [World.size_alloc] at this
    exact this
  | succ t => cases ht

set_option maxRecDepth 100000 in
set_option maxHeartbeats 2000000 in
theorem ways_any {a : Nat → Addr} {w : World} (hE : Env a w) : Calls Tryz.prog 5 #[] w fun e w' => e = .returned (.bool true) ∧ Below w.heap.size w w' := by
  obtain ⟨W2, hW2⟩ : ∃ W2, W2 = (w.alloc (.cells #[.string ⟨#[99, 111, 110, 115, 116]⟩, .int .i64 0, .int .i64 7, .int .i64 0, .string ⟨#[]⟩] 44)).alloc (.cells #[.slice (some ⟨w.heap.size, 0, none⟩) 1 1] 45) := ⟨_, rfl⟩
  have b2 : Below w.heap.size w W2 := by rw [hW2]; exact ((Below.refl _ _).alloc (Nat.le_refl _) _).alloc (by simp) _
  have hs : StaAt wSta ⟨none, 0, none, 0⟩ W2 := ⟨fun i row h => by simp [wSta] at h, fun i row h => by simp [wSta] at h, Nat.le_refl _, Nat.le_refl _, Nat.zero_le _, Nat.zero_le _, fun i row h => by simp [wSta] at h, fun i row h => by simp [wSta] at h⟩
  have HA := hide (all_search (s := wSta) (ai := none) (ar := none) (ci := 0) (cr := 0) (ad := some ⟨w.heap.size + 1, 0, none⟩) (cap := 1) (cs := [[wIns]]) (w := W2) 5 (hE.below b2.block) hs (by rw [hW2]; exact wCodes w _ rfl) (fun t L ht i x hx => by
    match t, ht with
    | 0, ht =>
      cases ht
      match i, hx with
      | 0, hx => cases hx; decide
      | n + 1, hx => simp at hx) wFault (by decide))
  clear hE hs
  go_enter Tryz.func5, Tryz.ntmps5
  go_wp2_with fail
  rw [← hW2]
  clear hW2
  refine HA.out.mono ?_
  rintro e w3 hp
  obtain ⟨hb3, rfl⟩ := wAll hp.out
  have hb := below_step b2 hb3
  clear HA hp hb3 b2
  unfold toldV
  go_wp2_with fail
  go_ret
  exact ⟨rfl, hb.alloc hb.size _⟩
end Go.Proofs.YtnnlkolhahjokaaGreatDoor

/- SpA -/
namespace Go.Proofs.YtnnlkolhahjokaaGreatDoor
open Go.RowKit

def spPre (k : Nat) : ByteArray := ⟨#[107, UInt8.ofNat (48 + k), 97]⟩
def spTaken (k : Nat) : ByteArray := ⟨#[107, UInt8.ofNat (48 + k), 97, 120]⟩
def spConst : ByteArray := ⟨#[99, 111, 110, 115, 116]⟩
def spLabel : ByteArray := ⟨#[108, 97, 98, 101, 108]⟩
def spStore : ByteArray := ⟨#[115, 116, 111, 114, 101]⟩
def spLoad : ByteArray := ⟨#[108, 111, 97, 100]⟩
def spNo : ByteArray := ⟨#[]⟩

def spIns (k : Nat) : Nat → Ins
  | 0 => ⟨spLabel, 0, 0, 0, spPre k⟩
  | 1 => ⟨spConst, 0, 0, 0, spNo⟩
  | 2 => ⟨spConst, 1, 1, 0, spNo⟩
  | 3 => ⟨⟨#[99, 97, 115]⟩, 7, 0, 0, spNo⟩
  | 4 => ⟨⟨#[122, 101, 114, 111]⟩, 0, 0, 0, spTaken k⟩
  | 5 => ⟨⟨#[103, 111, 116, 111]⟩, 0, 0, 0, spPre k⟩
  | 6 => ⟨spLabel, 0, 0, 0, spTaken k⟩
  | 7 => ⟨spLoad, 2, 7, 1, spNo⟩
  | 8 => ⟨spConst, 3, 1, 0, spNo⟩
  | 9 => ⟨⟨#[120, 111, 114]⟩, 4, 2, 3, spNo⟩
  | 10 => ⟨⟨#[110, 101, 101, 100]⟩, 4, 0, 0, spNo⟩
  | 11 => ⟨spStore, 7, 3, 1, spNo⟩
  | 12 => ⟨spLoad, 2, 7, 2, spNo⟩
  | 13 => ⟨⟨#[97, 100, 100]⟩, 2, 2, 3, spNo⟩
  | 14 => ⟨spStore, 7, 2, 2, spNo⟩
  | 15 => ⟨spConst, 4, 0, 0, spNo⟩
  | 16 => ⟨spStore, 7, 4, 1, spNo⟩
  | 17 => ⟨spConst, 0, 0, 0, spNo⟩
  | _ => ⟨⟨#[115, 119, 97, 112]⟩, 0, 7, 0, spNo⟩
def spCode (tm : Nat) : List Ins := (List.range (19 * tm)).map fun p => spIns (p / 19) (p % 19)

theorem spCode_length (tm : Nat) : (spCode tm).length = 19 * tm := by simp [spCode]
theorem spCode_at {tm p : Nat} (h : p < 19 * tm) : (spCode tm)[p]? = some (spIns (p / 19) (p % 19)) := by
  unfold spCode
  rw [List.getElem?_map, List.getElem?_range h]
  rfl
theorem spCode_end {tm p : Nat} (h : 19 * tm ≤ p) : (spCode tm)[p]? = none := List.getElem?_eq_none (by rw [spCode_length]; exact h)
theorem spIns_goes (k q : Nat) : ((spIns k q).op.toList == [115, 116, 111, 112]) = false := by
  unfold spIns
  split <;> (rw [toList_bl]; rfl)
theorem spDone {tm p : Nat} : doneAt (spCode tm) p = decide (19 * tm ≤ p) := by
  unfold doneAt
  by_cases h : 19 * tm ≤ p
  · rw [spCode_end h, decide_eq_true h]
  · rw [spCode_at (by omega), decide_eq_false h]
    exact spIns_goes _ _

structure AS where
  ps : List Nat
  o : Option Nat
deriving DecidableEq
def aStep (tm : Nat) (a : AS) (t : Nat) : AS :=
  if a.ps.getD t 0 < 19 * tm then
    if a.ps.getD t 0 % 19 = 3 then ⟨a.ps.set t (a.ps.getD t 0 + 1), if a.o = none then some t else a.o⟩
    else if a.ps.getD t 0 % 19 = 4 then ⟨a.ps.set t (if a.o = some t then a.ps.getD t 0 + 2 else a.ps.getD t 0 + 1), a.o⟩
    else if a.ps.getD t 0 % 19 = 5 then ⟨a.ps.set t (a.ps.getD t 0 - 5), a.o⟩
    else if a.ps.getD t 0 % 19 = 18 then ⟨a.ps.set t (a.ps.getD t 0 + 1), none⟩
    else ⟨a.ps.set t (a.ps.getD t 0 + 1), a.o⟩
  else a
def aTurn (tm T : Nat) (a : AS) (n : Int) : AS := if n % (2 * (T : Int)) < T then aStep tm a (n % (2 * (T : Int))).toNat else a

def rounds (l : List Nat) : Nat := (l.map (· / 19)).sum
theorem rounds_set {p p' : Nat} : ∀ {l : List Nat} {t : Nat}, l[t]? = some p → rounds (l.set t p') + p / 19 = rounds l + p' / 19
  | [], _, h => by simp at h
  | x :: l, 0, h => by
    simp at h
    subst h
    simp [rounds]; omega
  | x :: l, t + 1, h => by
    have := rounds_set (p := p) (p' := p') (l := l) (t := t) (by simpa using h)
    simp [rounds] at this ⊢; omega

def nSt (q : Nat) : Nat := if q ≤ 11 then 0 else if q ≤ 14 then 1 else if q ≤ 16 then 2 else 3
def sq (c : Int) : List Wt := [⟨0, 0, 1, 1⟩, ⟨0, 0, 2, c + 1⟩, ⟨0, 0, 1, 0⟩]

structure Mine (q : Nat) (r : Nat → Int) (ws : List Wt) (w1 w2 c : Int) : Prop where
  at' : q = 4 ∧ r 0 = 0 ∨ 6 ≤ q
  r7 : r 7 = 1
  r2a : q = 8 ∨ q = 9 → r 2 = 0
  r3 : 9 ≤ q ∧ q ≤ 13 → r 3 = 1
  r4a : q = 10 → r 4 = 1
  r2b : q = 13 → r 2 = c
  r2c : q = 14 → r 2 = c + 1
  r4b : q = 16 → r 4 = 0
  r0 : q = 18 → r 0 = 0
  ws : ∃ d, d ≤ nSt q ∧ ws = ((sq c).take (nSt q)).drop d ∧ w1 = (if d = 1 ∨ d = 2 then 1 else 0) ∧ w2 = (if d < 2 then c else c + 1)
structure Other (q : Nat) (r : Nat → Int) (ws : List Wt) : Prop where
  at' : q ≤ 5
  r7 : r 7 = 1
  r0a : q = 2 ∨ q = 3 → r 0 = 0
  r1 : q = 3 → r 1 = 1
  r0b : q = 4 → r 0 = 1
  ws : ws = []
def TC (mine : Bool) (q : Nat) (r : Nat → Int) (ws : List Wt) (w1 w2 c : Int) : Prop := if mine = true then Mine q r ws w1 w2 c else Other q r ws

structure Inv (T tm : Nat) (a : AS) (m : Mk) : Prop where
  len : a.ps.length = T
  pc : ∀ (t p : Nat), a.ps[t]? = some p → m.pc t = p ∧ p ≤ 19 * tm
  tc : ∀ (t p : Nat), a.ps[t]? = some p → TC (a.o == some t) (p % 19) (m.regs t) (m.mem.waits t) (m.mem.ar.words 0 1) (m.mem.ar.words 0 2) (rounds a.ps)
  own : ∀ o, a.o = some o → o < T
  w0 : m.mem.ar.words 0 0 = if a.o = none then 0 else 1
  free : a.o = none → m.mem.ar.words 0 1 = 0 ∧ m.mem.ar.words 0 2 = rounds a.ps
  has : m.mem.ar.has 0 0 = true
  faults : m.faults = 0
  thr : m.mem.threads = T

theorem TC.other {b : Bool} {q : Nat} {r : Nat → Int} {ws : List Wt} {w1 w2 c w1' w2' c' : Int} (h : TC b q r ws w1 w2 c) (hb : b = true → w1' = w1 ∧ w2' = w2 ∧ c' = c) : TC b q r ws w1' w2' c' := by
  cases b with
  | false => exact h
  | true => obtain ⟨rfl, rfl, rfl⟩ := hb rfl; exact h

theorem Inv.mv {T tm : Nat} {a : AS} {m m' : Mk} (h : Inv T tm a m) {t p : Nat} (hp : a.ps[t]? = some p) (p' : Nat) (o' : Option Nat)
    (e1 : ∀ u, m'.pc u = if u = t then p' else m.pc u)
    (e2 : ∀ u, u ≠ t → m'.regs u = m.regs u)
    (e3 : ∀ u, u ≠ t → m'.mem.waits u = m.mem.waits u)
    (e4 : m'.mem.ar.has 0 0 = true) (e5 : m'.faults = 0) (e6 : m'.mem.threads = T) (hp' : p' ≤ 19 * tm)
    (ho : ∀ u, u ≠ t → (o' == some u) = (a.o == some u))
    (hu : ∀ u, u ≠ t → a.o = some u → m'.mem.ar.words 0 1 = m.mem.ar.words 0 1 ∧ m'.mem.ar.words 0 2 = m.mem.ar.words 0 2 ∧ p' / 19 = p / 19)
    (htc : TC (o' == some t) (p' % 19) (m'.regs t) (m'.mem.waits t) (m'.mem.ar.words 0 1) (m'.mem.ar.words 0 2) (rounds (a.ps.set t p')))
    (hown : ∀ o, o' = some o → o < T)
    (hw0 : m'.mem.ar.words 0 0 = if o' = none then 0 else 1)
    (hfree : o' = none → m'.mem.ar.words 0 1 = 0 ∧ m'.mem.ar.words 0 2 = rounds (a.ps.set t p')) : Inv T tm ⟨a.ps.set t p', o'⟩ m' := by
  have ht : t < a.ps.length := (List.getElem?_eq_some_iff.1 hp).1
  refine ⟨by rw [List.length_set]; exact h.len, fun u q hq => ?_, fun u q hq => ?_, hown, hw0, hfree, e4, e5, e6⟩
  · rw [e1]
    by_cases e : u = t
    · subst e
      rw [List.getElem?_set_self ht] at hq
      rw [if_pos rfl]
      cases hq
      exact ⟨rfl, hp'⟩
    · rw [List.getElem?_set_ne (fun h => e h.symm)] at hq
      rw [if_neg e]
      exact h.pc u q hq
  · by_cases e : u = t
    · subst e
      rw [List.getElem?_set_self ht] at hq
      cases hq
      exact htc
    · rw [List.getElem?_set_ne (fun h => e h.symm)] at hq
      show TC (o' == some u) _ _ _ _ _ _
      rw [ho u e, e2 u e, e3 u e]
      refine (h.tc u q hq).other fun hb => ?_
      obtain ⟨h1, h2, h3⟩ := hu u e (by simpa using hb)
      have := rounds_set (p' := p') hp
      exact ⟨h1, h2, by show ((rounds (a.ps.set t p') : Nat) : Int) = _; omega⟩

theorem Inv.go {T tm : Nat} {a : AS} {m : Mk} (h : Inv T tm a m) {t p : Nat} (hp : a.ps[t]? = some p) (p' : Nat) (m' : Mk) (e0 : m'.mem = m.mem)
    (e1 : ∀ u, m'.pc u = if u = t then p' else m.pc u)
    (e2 : ∀ u, u ≠ t → m'.regs u = m.regs u) (e5 : m'.faults = 0) (hp' : p' ≤ 19 * tm) (hr : p' / 19 = p / 19)
    (htc : TC (a.o == some t) (p' % 19) (m'.regs t) (m.mem.waits t) (m.mem.ar.words 0 1) (m.mem.ar.words 0 2) (rounds a.ps)) : Inv T tm ⟨a.ps.set t p', a.o⟩ m' := by
  have hs : rounds (a.ps.set t p') = rounds a.ps := by have := rounds_set (p' := p') hp; omega
  refine h.mv hp p' a.o e1 e2 (fun u _ => by rw [e0]) (by rw [e0]; exact h.has) e5 (by rw [e0]; exact h.thr) hp' (fun _ _ => rfl) (fun u _ _ => ⟨by rw [e0], by rw [e0], hr⟩) ?_ h.own (by rw [e0]; exact h.w0) (fun e => ?_)
  · rw [e0, hs]; exact htc
  · rw [e0, hs]; exact h.free e
end Go.Proofs.YtnnlkolhahjokaaGreatDoor

/- SpE -/
namespace Go.Proofs.YtnnlkolhahjokaaGreatDoor
open Go.RowKit Go.Extern.Stop Go.Stop Go.Extern Go.Maps Go.WideMaps Go.Sort

def insOwn (w : World) (base : Nat) (v : Value) (l : List Ins) : Prop := w.ownsRow base 44 5 v l.length (icells l)
theorem icells_append (a b : List Ins) : icells (a ++ b) = icells a ++ icells b := by simp [icells]
theorem insOwn_keep {w w' : World} {base : Nat} {v : Value} {l : List Ins} (h : insOwn w base v l) (k : Below w.heap.size w w') : insOwn w' base v l :=
  ownsRow_block h (fun b hb => k.block b (h.lt b hb).2)

theorem wpList_append_ins {ops : Array Oper} {rest : List Oper} {o : Oper} {a : Act} (w : World) {Q : Exit → Act → World → Prop} (hgd : o.guard = none) (s x : Operand)
    (ho : o.op = .call { callee := .builtin .append, args := #[s, x], argTypes := #[45, 45] }) (base : Nat) (l0 l : List Ins) (v : Value) (ad : Addr) (cap : Nat)
    (hs : a.eval s = v) (hown : insOwn w base v l0) (hx : a.eval x = .slice (some ad) l.length cap) (hl : insAt (some ad) l w) (h1 : 0 < l.length) (h3 : l0.length + l.length ≤ 2000) (hb : base ≤ w.heap.size)
    (h : ∀ v' w', insOwn w' base v' (l0 ++ l) → Below base w w' → w.heap.size ≤ w'.heap.size → w.grownBy w' v.ownBlock → (v'.ownBlock = v.ownBlock ∨ v'.ownBlock = some w.heap.size) → wpList Tryz.prog ops Q rest (a.put o.dst v') w') : wpList Tryz.prog ops Q (o :: rest) a w := by
  obtain ⟨ri, hri, hrz, hrs, hrb⟩ := instrInfo
  refine wpList_append_own_at w hgd s x 45 ho base 44 ri (.agg #[.string ⟨#[]⟩, .int .i64 0, .int .i64 0, .int .i64 0, .string ⟨#[]⟩]) 5 56 Tryz.underlying45 hri hrz hrs hrb rfl (by decide) v l0.length (icells l0) hs hown ad l.length cap (icells l) hx (icells_len l) (fun j u hj => ?_) icells_one (by unfold maxLen; omega) (by omega) hb (fun v' w' h2 hg _ hloc => ?_)
  · obtain ⟨y, hy⟩ : ∃ y, l[0]? = some y := ⟨_, List.getElem?_eq_getElem h1⟩
    obtain ⟨b, off, e, -⟩ := hl 0 y hy
    cases e
    rw [Addr.add_lit]
    exact insAt_cells hl j u hj
  · have hB : Below base w w' := (Below.refl base w).grown hg hb (fun k hk => (hown.lt k hk).1)
    refine h v' w' ?_ hB hB.size hg hloc
    unfold insOwn
    rw [List.length_append, icells_append]
    exact h2

theorem insAt_new {w : World} {l : List Ins} {cs : Array Value} {t : TypeId} (h : cs.toList = icells l) : insAt (some ⟨w.heap.size, 0, none⟩) l (w.alloc (.cells cs t)) := by
  intro i x hx
  have hi := (List.getElem?_eq_some_iff.1 hx).1
  have key : ∀ j, j < 5 → (w.alloc (.cells cs t)).cell? ⟨w.heap.size, i * 5 + j, none⟩ = (icell x)[j]? := fun j hj => by
    rw [World.cell?_alloc_new, ← icells_at l i j x hx hj, ← h]
    simp
  refine ⟨w.heap.size, 0, rfl, ?_, ?_, ?_, ?_, ?_⟩
  · rw [show 0 + i * 5 = i * 5 + 0 by omega]; exact key 0 (by decide)
  · rw [show 0 + i * 5 + 1 = i * 5 + 1 by omega]; exact key 1 (by decide)
  · rw [show 0 + i * 5 + 2 = i * 5 + 2 by omega]; exact key 2 (by decide)
  · rw [show 0 + i * 5 + 3 = i * 5 + 3 by omega]; exact key 3 (by decide)
  · rw [show 0 + i * 5 + 4 = i * 5 + 4 by omega]; exact key 4 (by decide)

end Go.Proofs.YtnnlkolhahjokaaGreatDoor
