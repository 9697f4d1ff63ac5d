import Derived.Test.YtaiigfcfmcicjaaGreatDoorB13
import Derived.Test.YtaiigfcfmcicjaaGreatDoorB15
import Derived.Laws.AppendOwn
import Derived.Lib.LazyBuf
import Derived.Test.YtaiigfcfmcicjaaGreatDoorB12

/- StB -/
namespace Go.Proofs.YtaiigfcfmcicjaaGreatDoor
open Go.RowKit Go.Extern.Stop Go.Stop Go.Extern Go.Maps Go.WideMaps Go.Sort

def rowsAt (ad : Option Addr) (R : List (List Int)) (w : World) : Prop := ∀ (i : Nat) row, R[i]? = some row → ∃ b off adr cap, ad = some ⟨b, off, none⟩ ∧ w.cell? ⟨b, off + i, none⟩ = some (.slice adr row.length cap) ∧ row.length ≤ cap ∧ numsAt adr row w
theorem rowsAt.below {ad : Option Addr} {R : List (List Int)} {w w' : World} (h : rowsAt ad R w) (hb : Below w.heap.size w w') : rowsAt ad R w' := fun i row hr => by
  obtain ⟨b, off, adr, cap, h1, h2, h3, h4⟩ := h i row hr
  exact ⟨b, off, adr, cap, h1, keep_cell hb h2, h3, h4.below hb⟩

theorem all_hit {α : Type} {f : α → Bool} {l : List α} {j : Nat} {x : α} (hx : l[j]? = some x) (h : f x = false) : l.all f = false := by
  cases hb : l.all f with
  | false => rfl
  | true => rw [List.all_eq_true] at hb; rw [hb x (List.mem_of_getElem? hx)] at h; cases h
theorem all_done {α : Type} {f : α → Bool} {l : List α} (h : ∀ (k : Nat) x, k < l.length → l[k]? = some x → f x = true) : l.all f = true := by
  rw [List.all_eq_true]
  intro x hx
  obtain ⟨k, hk, rfl⟩ := List.getElem_of_mem hx
  exact h k _ hk (List.getElem?_eq_getElem hk)

structure StaPl where
  ai : Option Addr
  ci : Nat
  ar : Option Addr
  cr : Nat
def Sta.val (s : Sta) (q : StaPl) : Value := .agg #[.int .i64 s.cells, .slice q.ai s.init.length q.ci, .slice q.ar s.regs.length q.cr]
structure StaAt (s : Sta) (q : StaPl) (w : World) : Prop where
  init : rowsAt q.ai s.init w
  regs : rowsAt q.ar s.regs w
  ci : s.init.length ≤ q.ci
  cr : s.regs.length ≤ q.cr
  li : s.init.length ≤ 9223372036854775807
  lr : s.regs.length ≤ 9223372036854775807
  ri : ∀ (i : Nat) row, s.init[i]? = some row → row.length ≤ 9223372036854775807
  rr : ∀ (i : Nat) row, s.regs[i]? = some row → row.length ≤ 9223372036854775807
theorem StaAt.below {s : Sta} {q : StaPl} {w w' : World} (h : StaAt s q w) (hb : Below w.heap.size w w') : StaAt s q w' := ⟨h.init.below hb, h.regs.below hb, h.ci, h.cr, h.li, h.lr, h.ri, h.rr⟩

end Go.Proofs.YtaiigfcfmcicjaaGreatDoor

/- StC -/
namespace Go.Proofs.YtaiigfcfmcicjaaGreatDoor
open Go.RowKit Go.Extern.Stop Go.Stop Go.Extern Go.Maps Go.WideMaps Go.Sort

def icell (x : Ins) : List Value := [.string x.op, .int .i64 x.a, .int .i64 x.b, .int .i64 x.c, .string x.to]
def icells (l : List Ins) : List Value := l.flatMap icell
theorem icells_len (l : List Ins) : (icells l).length = l.length * 5 := by
  induction l with
  | nil => rfl
  | cons x l ih =>
    show (icell x ++ icells l).length = _
    rw [List.length_append, ih, List.length_cons]
    show 5 + _ = _
    omega
theorem icells_at : ∀ (l : List Ins) (i j : Nat) (x : Ins), l[i]? = some x → j < 5 → (icells l)[i * 5 + j]? = (icell x)[j]?
  | [], i, j, x, h, _ => by simp at h
  | y :: l, 0, j, x, h, hj => by
    cases h
    show (icell _ ++ icells l)[0 * 5 + j]? = _
    rw [List.getElem?_append_left (by show 0 * 5 + j < 5; omega), Nat.zero_mul, Nat.zero_add]
  | y :: l, i + 1, j, x, h, hj => by
    show (icell y ++ icells l)[(i + 1) * 5 + j]? = _
    rw [List.getElem?_append_right (by show 5 ≤ _; omega), show (i + 1) * 5 + j - (icell y).length = i * 5 + j by show _ - 5 = _; omega]
    exact icells_at l i j x (by simpa using h) hj
theorem icells_one {l : List Ins} : ∀ u ∈ icells l, u.oneCell' = true := fun u hu => by
  obtain ⟨x, -, h⟩ := List.mem_flatMap.1 hu
  simp only [icell, List.mem_cons, List.not_mem_nil, or_false] at h
  rcases h with rfl | rfl | rfl | rfl | rfl <;> rfl
theorem insAt_cells {b off : Nat} {l : List Ins} {w : World} (h : insAt (some ⟨b, off, none⟩) l w) (k : Nat) (u : Value) (hu : (icells l)[k]? = some u) : w.cell? ⟨b, off + k, none⟩ = some u := by
  have hk := (List.getElem?_eq_some_iff.1 hu).1
  rw [icells_len] at hk
  obtain ⟨x, hx⟩ : ∃ x, l[k / 5]? = some x := ⟨_, List.getElem?_eq_getElem (by omega)⟩
  obtain ⟨b', off', e, h0, h1, h2, h3, h4⟩ := h _ x hx
  cases e
  have e := icells_at l (k / 5) (k % 5) x hx (Nat.mod_lt _ (by decide))
  rw [show k / 5 * 5 + k % 5 = k by omega, hu] at e
  have h5 : k % 5 < 5 := Nat.mod_lt _ (by decide)
  rw [show off + k = off + k / 5 * 5 + k % 5 by omega]
  generalize k % 5 = j at *
  match j, h5, e with
  | 0, _, e => cases e; exact h0
  | 1, _, e => cases e; exact h1
  | 2, _, e => cases e; exact h2
  | 3, _, e => cases e; exact h3
  | 4, _, e => cases e; exact h4
theorem insAt_of_icells {w : World} {base : Nat} {e : TypeId} {l : List Ins} {v : Value} (h : w.ownsRow base e 5 v l.length (icells l)) : ∃ ad cap, v = .slice ad l.length cap ∧ l.length ≤ cap ∧ cap ≤ maxLen ∧ insAt ad l w := by
  obtain ⟨g, c, rfl, h1, h2, h3⟩ := ownsRow_shape h
  refine ⟨g, c, rfl, h1, h2, fun i x hx => ?_⟩
  have hi := (List.getElem?_eq_some_iff.1 hx).1
  have key : ∀ j, j < 5 → ∀ u, (icell x)[j]? = some u → ∃ b off, g = some ⟨b, off, none⟩ ∧ w.cell? ⟨b, off + (i * 5 + j), none⟩ = some u := fun j hj u hu => by
    rw [← icells_at l i j x hx hj] at hu
    obtain ⟨gg, e, hc⟩ := h3 _ _ hu
    exact ⟨gg, 0, e, by rw [Nat.zero_add]; exact hc⟩
  obtain ⟨b, off, rfl, k0⟩ := key 0 (by decide) _ rfl
  obtain ⟨_, _, e1, k1⟩ := key 1 (by decide) _ rfl
  obtain ⟨_, _, e2, k2⟩ := key 2 (by decide) _ rfl
  obtain ⟨_, _, e3, k3⟩ := key 3 (by decide) _ rfl
  obtain ⟨_, _, e4, k4⟩ := key 4 (by decide) _ rfl
  cases e1; cases e2; cases e3; cases e4
  exact ⟨b, off, rfl, k0, k1, k2, k3, k4⟩
theorem instrInfo : ∃ i, (Tryz.prog).info? 101 = some i ∧ i.zero = some (.agg #[.string ⟨#[]⟩, .int .i64 0, .int .i64 0, .int .i64 0, .string ⟨#[]⟩]) ∧ i.size = 5 ∧ i.bytes = 56 := info_parts (by kernel_rfl)

end Go.Proofs.YtaiigfcfmcicjaaGreatDoor

/- SpA -/
namespace Go.Proofs.YtaiigfcfmcicjaaGreatDoor
open Go.RowKit

def spPre (k : Nat) : ByteArray := ⟨#[107, UInt8.ofNat (48 + k), 97]⟩
def spTaken (k : Nat) : ByteArray := ⟨#[107, UInt8.ofNat (48 + k), 97, 120]⟩
def spConst : ByteArray := ⟨#[99, 111, 110, 115, 116]⟩
def spLabel : ByteArray := ⟨#[108, 97, 98, 101, 108]⟩
def spStore : ByteArray := ⟨#[115, 116, 111, 114, 101]⟩
def spLoad : ByteArray := ⟨#[108, 111, 97, 100]⟩
def spNo : ByteArray := ⟨#[]⟩

def spIns (k : Nat) : Nat → Ins
  | 0 => ⟨spLabel, 0, 0, 0, spPre k⟩
  | 1 => ⟨spConst, 0, 0, 0, spNo⟩
  | 2 => ⟨spConst, 1, 1, 0, spNo⟩
  | 3 => ⟨⟨#[99, 97, 115]⟩, 7, 0, 0, spNo⟩
  | 4 => ⟨⟨#[122, 101, 114, 111]⟩, 0, 0, 0, spTaken k⟩
  | 5 => ⟨⟨#[103, 111, 116, 111]⟩, 0, 0, 0, spPre k⟩
  | 6 => ⟨spLabel, 0, 0, 0, spTaken k⟩
  | 7 => ⟨spLoad, 2, 7, 1, spNo⟩
  | 8 => ⟨spConst, 3, 1, 0, spNo⟩
  | 9 => ⟨⟨#[120, 111, 114]⟩, 4, 2, 3, spNo⟩
  | 10 => ⟨⟨#[110, 101, 101, 100]⟩, 4, 0, 0, spNo⟩
  | 11 => ⟨spStore, 7, 3, 1, spNo⟩
  | 12 => ⟨spLoad, 2, 7, 2, spNo⟩
  | 13 => ⟨⟨#[97, 100, 100]⟩, 2, 2, 3, spNo⟩
  | 14 => ⟨spStore, 7, 2, 2, spNo⟩
  | 15 => ⟨spConst, 4, 0, 0, spNo⟩
  | 16 => ⟨spStore, 7, 4, 1, spNo⟩
  | 17 => ⟨spConst, 0, 0, 0, spNo⟩
  | _ => ⟨⟨#[115, 119, 97, 112]⟩, 0, 7, 0, spNo⟩
def spCode (tm : Nat) : List Ins := (List.range (19 * tm)).map fun p => spIns (p / 19) (p % 19)

theorem spCode_length (tm : Nat) : (spCode tm).length = 19 * tm := by simp [spCode]
theorem spCode_at {tm p : Nat} (h : p < 19 * tm) : (spCode tm)[p]? = some (spIns (p / 19) (p % 19)) := by
  unfold spCode
  rw [List.getElem?_map, List.getElem?_range h]
  rfl
theorem spCode_end {tm p : Nat} (h : 19 * tm ≤ p) : (spCode tm)[p]? = none := List.getElem?_eq_none (by rw [spCode_length]; exact h)
theorem spIns_goes (k q : Nat) : ((spIns k q).op.toList == [115, 116, 111, 112]) = false := by
  unfold spIns
  split <;> (rw [toList_bl]; rfl)
theorem spDone {tm p : Nat} : doneAt (spCode tm) p = decide (19 * tm ≤ p) := by
  unfold doneAt
  by_cases h : 19 * tm ≤ p
  · rw [spCode_end h, decide_eq_true h]
  · rw [spCode_at (by omega), decide_eq_false h]
    exact spIns_goes _ _

structure AS where
  ps : List Nat
  o : Option Nat
deriving DecidableEq
def aStep (tm : Nat) (a : AS) (t : Nat) : AS :=
  if a.ps.getD t 0 < 19 * tm then
    if a.ps.getD t 0 % 19 = 3 then ⟨a.ps.set t (a.ps.getD t 0 + 1), if a.o = none then some t else a.o⟩
    else if a.ps.getD t 0 % 19 = 4 then ⟨a.ps.set t (if a.o = some t then a.ps.getD t 0 + 2 else a.ps.getD t 0 + 1), a.o⟩
    else if a.ps.getD t 0 % 19 = 5 then ⟨a.ps.set t (a.ps.getD t 0 - 5), a.o⟩
    else if a.ps.getD t 0 % 19 = 18 then ⟨a.ps.set t (a.ps.getD t 0 + 1), none⟩
    else ⟨a.ps.set t (a.ps.getD t 0 + 1), a.o⟩
  else a
def aTurn (tm T : Nat) (a : AS) (n : Int) : AS := if n % (2 * (T : Int)) < T then aStep tm a (n % (2 * (T : Int))).toNat else a

def rounds (l : List Nat) : Nat := (l.map (· / 19)).sum
theorem rounds_set {p p' : Nat} : ∀ {l : List Nat} {t : Nat}, l[t]? = some p → rounds (l.set t p') + p / 19 = rounds l + p' / 19
  | [], _, h => by simp at h
  | x :: l, 0, h => by
    simp at h
    subst h
    simp [rounds]; omega
  | x :: l, t + 1, h => by
    have := rounds_set (p := p) (p' := p') (l := l) (t := t) (by simpa using h)
    simp [rounds] at this ⊢; omega

def nSt (q : Nat) : Nat := if q ≤ 11 then 0 else if q ≤ 14 then 1 else if q ≤ 16 then 2 else 3
def sq (c : Int) : List Wt := [⟨0, 0, 1, 1⟩, ⟨0, 0, 2, c + 1⟩, ⟨0, 0, 1, 0⟩]

structure Mine (q : Nat) (r : Nat → Int) (ws : List Wt) (w1 w2 c : Int) : Prop where
  at' : q = 4 ∧ r 0 = 0 ∨ 6 ≤ q
  r7 : r 7 = 1
  r2a : q = 8 ∨ q = 9 → r 2 = 0
  r3 : 9 ≤ q ∧ q ≤ 13 → r 3 = 1
  r4a : q = 10 → r 4 = 1
  r2b : q = 13 → r 2 = c
  r2c : q = 14 → r 2 = c + 1
  r4b : q = 16 → r 4 = 0
  r0 : q = 18 → r 0 = 0
  ws : ∃ d, d ≤ nSt q ∧ ws = ((sq c).take (nSt q)).drop d ∧ w1 = (if d = 1 ∨ d = 2 then 1 else 0) ∧ w2 = (if d < 2 then c else c + 1)
structure Other (q : Nat) (r : Nat → Int) (ws : List Wt) : Prop where
  at' : q ≤ 5
  r7 : r 7 = 1
  r0a : q = 2 ∨ q = 3 → r 0 = 0
  r1 : q = 3 → r 1 = 1
  r0b : q = 4 → r 0 = 1
  ws : ws = []
def TC (mine : Bool) (q : Nat) (r : Nat → Int) (ws : List Wt) (w1 w2 c : Int) : Prop := if mine = true then Mine q r ws w1 w2 c else Other q r ws

structure Inv (T tm : Nat) (a : AS) (m : Mk) : Prop where
  len : a.ps.length = T
  pc : ∀ (t p : Nat), a.ps[t]? = some p → m.pc t = p ∧ p ≤ 19 * tm
  tc : ∀ (t p : Nat), a.ps[t]? = some p → TC (a.o == some t) (p % 19) (m.regs t) (m.mem.waits t) (m.mem.ar.words 0 1) (m.mem.ar.words 0 2) (rounds a.ps)
  own : ∀ o, a.o = some o → o < T
  w0 : m.mem.ar.words 0 0 = if a.o = none then 0 else 1
  free : a.o = none → m.mem.ar.words 0 1 = 0 ∧ m.mem.ar.words 0 2 = rounds a.ps
  has : m.mem.ar.has 0 0 = true
  faults : m.faults = 0
  thr : m.mem.threads = T

theorem TC.other {b : Bool} {q : Nat} {r : Nat → Int} {ws : List Wt} {w1 w2 c w1' w2' c' : Int} (h : TC b q r ws w1 w2 c) (hb : b = true → w1' = w1 ∧ w2' = w2 ∧ c' = c) : TC b q r ws w1' w2' c' := by
  cases b with
  | false => exact h
  | true => obtain ⟨rfl, rfl, rfl⟩ := hb rfl; exact h

theorem Inv.mv {T tm : Nat} {a : AS} {m m' : Mk} (h : Inv T tm a m) {t p : Nat} (hp : a.ps[t]? = some p) (p' : Nat) (o' : Option Nat)
    (e1 : ∀ u, m'.pc u = if u = t then p' else m.pc u)
    (e2 : ∀ u, u ≠ t → m'.regs u = m.regs u)
    (e3 : ∀ u, u ≠ t → m'.mem.waits u = m.mem.waits u)
    (e4 : m'.mem.ar.has 0 0 = true) (e5 : m'.faults = 0) (e6 : m'.mem.threads = T) (hp' : p' ≤ 19 * tm)
    (ho : ∀ u, u ≠ t → (o' == some u) = (a.o == some u))
    (hu : ∀ u, u ≠ t → a.o = some u → m'.mem.ar.words 0 1 = m.mem.ar.words 0 1 ∧ m'.mem.ar.words 0 2 = m.mem.ar.words 0 2 ∧ p' / 19 = p / 19)
    (htc : TC (o' == some t) (p' % 19) (m'.regs t) (m'.mem.waits t) (m'.mem.ar.words 0 1) (m'.mem.ar.words 0 2) (rounds (a.ps.set t p')))
    (hown : ∀ o, o' = some o → o < T)
    (hw0 : m'.mem.ar.words 0 0 = if o' = none then 0 else 1)
    (hfree : o' = none → m'.mem.ar.words 0 1 = 0 ∧ m'.mem.ar.words 0 2 = rounds (a.ps.set t p')) : Inv T tm ⟨a.ps.set t p', o'⟩ m' := by
  have ht : t < a.ps.length := (List.getElem?_eq_some_iff.1 hp).1
  refine ⟨by rw [List.length_set]; exact h.len, fun u q hq => ?_, fun u q hq => ?_, hown, hw0, hfree, e4, e5, e6⟩
  · rw [e1]
    by_cases e : u = t
    · subst e
      rw [List.getElem?_set_self ht] at hq
      rw [if_pos rfl]
      cases hq
      exact ⟨rfl, hp'⟩
    · rw [List.getElem?_set_ne (fun h => e h.symm)] at hq
      rw [if_neg e]
      exact h.pc u q hq
  · by_cases e : u = t
    · subst e
      rw [List.getElem?_set_self ht] at hq
      cases hq
      exact htc
    · rw [List.getElem?_set_ne (fun h => e h.symm)] at hq
      show TC (o' == some u) _ _ _ _ _ _
      rw [ho u e, e2 u e, e3 u e]
      refine (h.tc u q hq).other fun hb => ?_
      obtain ⟨h1, h2, h3⟩ := hu u e (by simpa using hb)
      have := rounds_set (p' := p') hp
      exact ⟨h1, h2, by show ((rounds (a.ps.set t p') : Nat) : Int) = _; omega⟩

theorem Inv.go {T tm : Nat} {a : AS} {m : Mk} (h : Inv T tm a m) {t p : Nat} (hp : a.ps[t]? = some p) (p' : Nat) (m' : Mk) (e0 : m'.mem = m.mem)
    (e1 : ∀ u, m'.pc u = if u = t then p' else m.pc u)
    (e2 : ∀ u, u ≠ t → m'.regs u = m.regs u) (e5 : m'.faults = 0) (hp' : p' ≤ 19 * tm) (hr : p' / 19 = p / 19)
    (htc : TC (a.o == some t) (p' % 19) (m'.regs t) (m.mem.waits t) (m.mem.ar.words 0 1) (m.mem.ar.words 0 2) (rounds a.ps)) : Inv T tm ⟨a.ps.set t p', a.o⟩ m' := by
  have hs : rounds (a.ps.set t p') = rounds a.ps := by have := rounds_set (p' := p') hp; omega
  refine h.mv hp p' a.o e1 e2 (fun u _ => by rw [e0]) (by rw [e0]; exact h.has) e5 (by rw [e0]; exact h.thr) hp' (fun _ _ => rfl) (fun u _ _ => ⟨by rw [e0], by rw [e0], hr⟩) ?_ h.own (by rw [e0]; exact h.w0) (fun e => ?_)
  · rw [e0, hs]; exact htc
  · rw [e0, hs]; exact h.free e
end Go.Proofs.YtaiigfcfmcicjaaGreatDoor
