import Derived.Test.YtgmokighfgdnjaaGreatDoorC14
import Derived.Test.YtgmokighfgdnjaaGreatDoorC16
import Derived.Test.YtgmokighfgdnjaaGreatDoorC18
import Derived.Test.YtgmokighfgdnjaaGreatDoorC13

/- SpL -/
namespace Go.Proofs.YtgmokighfgdnjaaGreatDoor
open Go.RowKit

def labelAtB (l : List Ins) (to : List UInt8) : Option Nat := l.findIdx? (fun x => (bl x.op == [108, 97, 98, 101, 108]) && (bl x.to == to))
theorem labelAt_B (l : List Ins) (to : ByteArray) : labelAt l to = match labelAtB l (bl to) with
    | some j => (j : Int)
    | none => -1 := by
  unfold labelAt labelAtB
  rw [show (fun x => setsLabel x to) = (fun x => (bl x.op == [108, 97, 98, 101, 108]) && (bl x.to == bl to)) from funext fun x => by unfold setsLabel; rw [toList_bl, toList_bl, toList_bl]]
  rfl
def nameB (l : List UInt8) : Bool := decide (1 ≤ l.length) && (decide (l.length ≤ 12) && (List.range l.length).all fun j => nameOk j (l.getD j 0).toNat)
theorem nameB_is {s : ByteArray} (h : nameB (bl s) = true) : isName s := by
  unfold nameB at h
  simp only [Bool.and_eq_true, decide_eq_true_eq, List.all_eq_true, List.mem_range] at h
  obtain ⟨h1, h2, h3⟩ := h
  have hz : s.size = (bl s).length := size_bl s
  refine ⟨by omega, by omega, fun j hj => ?_⟩
  have := h3 j (by omega)
  rw [List.getD_eq_getElem?_getD, List.getElem?_eq_getElem (by omega)] at this
  exact this
def shapeGood (x : Ins) (l : List UInt8) : Bool :=
  ((lab ⟨l.toArray⟩ l.length || (bl x.to == [])) && (!(lab ⟨l.toArray⟩ l.length) || nameB (bl x.to))) &&
  (List.range 3).all fun k => if k < cnt ⟨l.toArray⟩ l.length then decide (0 ≤ x.n k ∧ x.n k < mostOf (byteAt ⟨l.toArray⟩ k)) else decide (x.n k = 0)
def insGood (L : List Ins) (i : Nat) (x : Ins) : Bool := match shape (bl x.op) with
  | none => false
  | some l => shapeGood x l && ((!(bl x.op == [108, 97, 98, 101, 108]) || labelAtB L (bl x.to) == some i) && ((bl x.to == []) || (labelAtB L (bl x.to)).isSome))
theorem insGood_is {L : List Ins} {i : Nat} {x : Ins} (h : insGood L i x = true) : insFault L i x = 0 := by
  unfold insGood at h
  cases hs : shape (bl x.op) with
  | none => rw [hs] at h; cases h
  | some l =>
    rw [hs] at h
    simp only [Bool.and_eq_true] at h
    obtain ⟨h1, h2, h3⟩ := h
    unfold shapeGood at h1
    simp only [Bool.and_eq_true, List.all_eq_true, List.mem_range] at h1
    obtain ⟨⟨g1, g2⟩, g3⟩ := h1
    have hsz : (⟨l.toArray⟩ : ByteArray).size = l.length := by simp [ByteArray.size]
    have he : insErr x = 0 := by
      unfold insErr
      rw [toList_bl, hs]
      show insBad x ⟨l.toArray⟩ = 0
      unfold insBad
      rw [hsz, if_neg, if_neg, if_neg, if_neg]
      · rintro ⟨e1, e2⟩
        rw [e1] at g2
        exact e2 (nameB_is (by simpa using g2))
      · rintro ⟨k, hk, e⟩
        have := cnt_le ⟨l.toArray⟩ l.length
        have hl := shape_le hs
        have g := g3 k (by omega)
        rw [if_pos hk] at g
        exact e (by simpa using g)
      · rintro ⟨k, hk, hk3, e⟩
        have g := g3 k hk3
        rw [if_neg (by omega)] at g
        exact e (by simpa using g)
      · rintro ⟨e1, e2⟩
        rw [e1, Bool.false_or] at g1
        rw [toList_bl] at e2
        exact e2 (by simpa using g1)
    unfold insFault
    rw [if_neg (by rw [he]; simp), if_neg, if_neg]
    · rintro ⟨e1, e2⟩
      rw [toList_bl] at e1
      rw [e1, Bool.false_or] at h3
      rw [labelAt_B] at e2
      cases hb : labelAtB L (bl x.to) with
      | none => rw [hb] at h3; cases h3
      | some j => rw [hb] at e2; exact absurd e2 (by simp)
    · rintro ⟨e1, e2⟩
      rw [toList_bl] at e1
      rw [e1, Bool.not_true, Bool.false_or] at h2
      rw [labelAt_B, show labelAtB L (bl x.to) = some i by simpa using h2] at e2
      exact e2 rfl
theorem faultFrom_good {L : List Ins} : ∀ (r : List Ins) (j : Nat), (∀ (k : Nat) x, r[k]? = some x → insFault L (j + k) x = 0) → faultFrom L j r = (0, -1)
  | [], _, _ => rfl
  | y :: r, j, h => by
    unfold faultFrom
    rw [if_pos (by simpa using h 0 y rfl)]
    exact faultFrom_good r (j + 1) (fun k x hx => by rw [show j + 1 + k = j + (k + 1) by omega]; exact h (k + 1) x (by simpa using hx))
end Go.Proofs.YtgmokighfgdnjaaGreatDoor

/- SpW -/
namespace Go.Proofs.YtgmokighfgdnjaaGreatDoor
open Go.RowKit

theorem nameB_of {s : ByteArray} (h : isName s) : nameB (bl s) = true := by
  obtain ⟨h1, h2, h3⟩ := h
  have hz : s.size = (bl s).length := size_bl s
  unfold nameB
  simp only [Bool.and_eq_true, decide_eq_true_eq, List.all_eq_true, List.mem_range]
  refine ⟨by omega, by omega, fun j hj => ?_⟩
  rw [List.getD_eq_getElem?_getD, List.getElem?_eq_getElem hj]
  exact h3 j (by omega)
theorem good_ins {L : List Ins} {i : Nat} {x : Ins} {S : List UInt8} (hs : shape (bl x.op) = some S) (h1 : shapeGood x S = true) (h2 : bl x.op == [108, 97, 98, 101, 108] → labelAtB L (bl x.to) = some i) (h3 : bl x.to = [] ∨ ∃ j, labelAtB L (bl x.to) = some j) : insFault L i x = 0 := by
  refine insGood_is ?_
  unfold insGood
  rw [hs]
  simp only [Bool.and_eq_true]
  refine ⟨h1, ?_, ?_⟩
  · cases hb : (bl x.op == [108, 97, 98, 101, 108])
    · rfl
    · rw [h2 hb]; simp
  · rcases h3 with e | ⟨j, e⟩
    · rw [e]; rfl
    · rw [e]; simp
theorem shape_nums {x : Ins} {S : List UInt8} (hl : lab ⟨S.toArray⟩ S.length = false) (ht : bl x.to = []) (h : ∀ k, k < 3 → (if k < cnt ⟨S.toArray⟩ S.length then decide (0 ≤ x.n k ∧ x.n k < mostOf (byteAt ⟨S.toArray⟩ k)) else decide (x.n k = 0)) = true) : shapeGood x S = true := by
  unfold shapeGood
  rw [hl, ht]
  simp only [Bool.and_eq_true, List.all_eq_true, List.mem_range]
  exact ⟨⟨rfl, rfl⟩, h⟩
theorem shape_lab {x : Ins} {S : List UInt8} (hl : lab ⟨S.toArray⟩ S.length = true) (ht : isName x.to) (h : ∀ k, k < 3 → (if k < cnt ⟨S.toArray⟩ S.length then decide (0 ≤ x.n k ∧ x.n k < mostOf (byteAt ⟨S.toArray⟩ k)) else decide (x.n k = 0)) = true) : shapeGood x S = true := by
  unfold shapeGood
  rw [hl, nameB_of ht]
  simp only [Bool.and_eq_true, List.all_eq_true, List.mem_range]
  exact ⟨⟨rfl, rfl⟩, h⟩

def spBars : List ByteArray := [⟨#[97, 108, 108, 111, 99]⟩, ⟨#[102, 114, 101, 101]⟩, ⟨#[109, 97, 114, 107]⟩, ⟨#[110, 101, 101, 100]⟩, ⟨#[115, 116, 111, 112]⟩]
theorem no_bar {op : ByteArray} (h : (spBars.all fun b => !(bl op == bl b)) = true) (k : Nat) (b : ByteArray) (hb : spBars[k]? = some b) : (op.toList == b.toList) = false := by
  have := List.all_eq_true.1 h b (List.mem_of_getElem? hb)
  rw [toList_bl, toList_bl]
  simpa using this
theorem wt_is (x : Ins) : wtReg x = if (bl x.op == [99, 111, 110, 115, 116]) = true then some x.a else if (bl x.op == [109, 111, 118, 101]) = true then some x.a else if (bl x.op == [97, 100, 100]) = true then some x.a else if (bl x.op == [115, 117, 98]) = true then some x.a else if (bl x.op == [97, 110, 100]) = true then some x.a else if (bl x.op == [120, 111, 114]) = true then some x.a else if (bl x.op == [108, 111, 97, 100]) = true then some x.a else if (bl x.op == [115, 119, 97, 112]) = true then some x.a else if (bl x.op == [97, 108, 108, 111, 99]) = true then some x.a else if (bl x.op == [99, 97, 115]) = true then some x.b else none := by
  unfold wtReg
  rw [toList_bl]
end Go.Proofs.YtgmokighfgdnjaaGreatDoor

/- GcA -/
namespace Go.Proofs.YtgmokighfgdnjaaGreatDoor
open Go.RowKit

inductive GI
  | load (r a k : Nat)
  | const (r : Nat) (v : Int)
  | move (r a : Nat)
  | add (r a b : Nat)
  | sub (r a b : Nat)
  | store (a r k : Nat)
  | swap (r a k : Nat)
  | cas (a r k : Nat)
  | fence
  | force
  | zero (r l : Nat)
  | same (r a l : Nat)
  | goto (l : Nat)
  | label (l : Nat)
  | alloc (r : Nat)
  | free (r : Nat)
  | need (r : Nat)
deriving DecidableEq

def lb (p : ByteArray) (k : Nat) : ByteArray := p ++ ⟨#[UInt8.ofNat (48 + k)]⟩
def no : ByteArray := ⟨#[]⟩
def GI.ins (p : ByteArray) : GI → Ins
  | load r a k => ⟨⟨#[108, 111, 97, 100]⟩, r, a, k, no⟩
  | const r v => ⟨⟨#[99, 111, 110, 115, 116]⟩, r, v, 0, no⟩
  | move r a => ⟨⟨#[109, 111, 118, 101]⟩, r, a, 0, no⟩
  | add r a b => ⟨⟨#[97, 100, 100]⟩, r, a, b, no⟩
  | sub r a b => ⟨⟨#[115, 117, 98]⟩, r, a, b, no⟩
  | store a r k => ⟨⟨#[115, 116, 111, 114, 101]⟩, a, r, k, no⟩
  | swap r a k => ⟨⟨#[115, 119, 97, 112]⟩, r, a, k, no⟩
  | cas a r k => ⟨⟨#[99, 97, 115]⟩, a, r, k, no⟩
  | fence => ⟨⟨#[102, 101, 110, 99, 101]⟩, 0, 0, 0, no⟩
  | force => ⟨⟨#[102, 111, 114, 99, 101]⟩, 0, 0, 0, no⟩
  | zero r l => ⟨⟨#[122, 101, 114, 111]⟩, r, 0, 0, lb p l⟩
  | same r a l => ⟨⟨#[115, 97, 109, 101]⟩, r, a, 0, lb p l⟩
  | goto l => ⟨⟨#[103, 111, 116, 111]⟩, 0, 0, 0, lb p l⟩
  | label l => ⟨⟨#[108, 97, 98, 101, 108]⟩, 0, 0, 0, lb p l⟩
  | alloc r => ⟨⟨#[97, 108, 108, 111, 99]⟩, r, 0, 0, no⟩
  | free r => ⟨⟨#[102, 114, 101, 101]⟩, r, 0, 0, no⟩
  | need r => ⟨⟨#[110, 101, 101, 100]⟩, r, 0, 0, no⟩

def gShow (f : Nat) : GI := if f = 2 then .store 6 0 0 else .swap 0 6 0
def gFence (f : Nat) : GI := if f = 2 then .force else .fence
def gJoin : List GI := [.load 0 6 3, .same 0 6 3, .load 0 7 1, .label 4, .move 1 6, .store 6 6 3, .store 6 0 1, .cas 7 0 1, .load 1 6 1, .same 0 1 3, .goto 4, .label 3]
def gOuter (k : Nat) (op : GI) : List GI := [.load 0 6 k, .zero 0 2, .load 0 6 2, .const 1 1, op, .store 6 0 2, .goto 1, .label 2]
def gEnter (f : Nat) : List GI := if f = 3 then [] else gOuter 0 (.add 0 0 1) ++ ((if f = 4 then gJoin else []) ++ [.load 0 7 0, gShow f, .label 1])
def gLeave (f : Nat) : List GI := if f = 3 then [] else gOuter 2 (.sub 0 0 1) ++ [gShow f, .label 1]
def gRest (f : Nat) : List GI := if f = 3 then [.zero 6 1, .load 0 6 0, .zero 0 1, .const 1 2, .add 0 0 1, .swap 0 6 0, .label 1] else []
def gGone (f : Nat) : List GI := if f = 3 then [.zero 6 1, .const 0 0, .swap 0 6 0, .label 1] else []
def gWait (f : Nat) : List GI :=
  if f = 3 then [.zero 6 1, .const 0 0, .swap 0 6 0, .swap 0 6 3, .label 1, .fence, .move 2 7, .label 3, .load 2 2 1, .zero 2 2, .load 0 2 0, .zero 0 3, .move 1 0, .label 4, .load 0 2 0, .same 0 1 4, .goto 3, .label 2, .zero 6 5, .load 0 6 3, .zero 0 5, .const 1 2, .add 0 0 1, .swap 0 6 0, .label 5]
  else [gFence f, .move 2 7, .label 2, .load 2 2 1, .zero 2 1, .load 0 2 0, .zero 0 2, .const 1 2, .add 1 1 0, .cas 7 0 0, .const 0 2, .sub 1 1 0, .label 3] ++ ((if f = 2 then [.force] else []) ++ [.load 0 2 0, .same 0 1 3, .goto 2, .label 1])
def gCode (p : ByteArray) (l : List GI) : List Ins := l.map (GI.ins p)

def gLab (l : Nat) : List GI → Nat → Option Nat
  | [], _ => none
  | .label k :: r, i => if k = l then some i else gLab l r (i + 1)
  | _ :: r, i => gLab l r (i + 1)
def gAt (l : Nat) (s : List GI) : Nat := (gLab l s 0).getD 0
def gNext (s : List GI) (q : Nat) (r : Nat → Int) : GI → Nat
  | .zero a l => if r a = 0 then gAt l s else q + 1
  | .same a b l => if r a = r b then gAt l s else q + 1
  | .goto l => gAt l s
  | _ => q + 1
def gExec (m : Mk) (t : Nat) : GI → Mk
  | .load r a k => m.load t r (m.regs t a) k
  | .const r v => m.setReg t r v
  | .move r a => m.setReg t r (m.regs t a)
  | .add r a b => m.setReg t r ((m.regs t a + m.regs t b) % 4294967296)
  | .sub r a b => m.setReg t r ((m.regs t a - m.regs t b) % 4294967296)
  | .store a r k => m.store t (m.regs t a) k (m.regs t r)
  | .swap r a k => m.swap t r (m.regs t a) k (m.regs t r)
  | .cas a r k => m.cas t r (m.regs t a) k (m.regs t r) (m.regs t (r + 1))
  | .fence => m.fence t
  | .force => m.fenceFrom 0 m.mem.threads
  | .alloc r => m.alloc t r
  | .free r => m.free t (m.regs t r)
  | .need r => m.need (m.regs t r)
  | _ => m

theorem GI.goes (p : ByteArray) (i : GI) : ((i.ins p).op.toList == [115, 116, 111, 112]) = false := by
  cases i <;> (rw [toList_bl]; rfl)
theorem lb_bl (p : ByteArray) (k : Nat) : bl (lb p k) = bl p ++ [UInt8.ofNat (48 + k)] := by
  unfold lb bl
  simp
theorem lb_inj {p p' : ByteArray} {k k' : Nat} (h : lb p k = lb p' k') : p = p' ∧ UInt8.ofNat (48 + k) = UInt8.ofNat (48 + k') := by
  have := congrArg bl h
  rw [lb_bl, lb_bl] at this
  obtain ⟨h1, h2⟩ := List.append_inj' this rfl
  exact ⟨bl_inj h1, by simpa using h2⟩
end Go.Proofs.YtgmokighfgdnjaaGreatDoor
