import Derived.Test.YtoialadjpcdbaaaGreatDoorA12
import Derived.Test.YtoialadjpcdbaaaGreatDoorA28
import Derived.Test.YtoialadjpcdbaaaGreatDoorA16

/- SpL -/
namespace Go.Proofs.YtoialadjpcdbaaaGreatDoor
open Go.RowKit

def nameB (l : List UInt8) : Bool := decide (1 ≤ l.length) && (decide (l.length ≤ 12) && (List.range l.length).all fun j => nameOk j (l.getD j 0).toNat)
theorem nameB_is {s : ByteArray} (h : nameB (bl s) = true) : isName s := by
  unfold nameB at h
  simp only [Bool.and_eq_true, decide_eq_true_eq, List.all_eq_true, List.mem_range] at h
  obtain ⟨h1, h2, h3⟩ := h
  have hz : s.size = (bl s).length := size_bl s
  refine ⟨by omega, by omega, fun j hj => ?_⟩
  have := h3 j (by omega)
  rw [List.getD_eq_getElem?_getD, List.getElem?_eq_getElem (by omega)] at this
  exact this
end Go.Proofs.YtoialadjpcdbaaaGreatDoor

/- GcR -/
namespace Go.Proofs.YtoialadjpcdbaaaGreatDoor
open Go.RowKit

structure Cs where
  w : Bool
  tm : Nat
  rd : Nat
  ns : Bool
def Cs.dp (c : Cs) : Nat := if c.ns = true then 3 else 1
def pq (a : Nat) : ByteArray := ⟨#[113, UInt8.ofNat (48 + a / 10), UInt8.ofNat (48 + a % 10)]⟩
def sect (dp rd a : Nat) : List (Tg × Nat) := (List.range dp).map (fun k => (Tg.enter, a + k + 1)) ++ ([(.get, 0)] ++ (List.replicate rd (.read, 0) ++ ((List.range dp).map (fun k => (Tg.leave, a + dp + k + 1)) ++ [(.rest, a + 2 * dp + 1)])))
def rdTo (dp rd i : Nat) : List (Tg × Nat) := (List.range i).flatMap fun j => sect dp rd (j * (2 * dp + 1))
def wrOne (wt : Bool) (j : Nat) : List (Tg × Nat) := if wt = true then [(.new ((j : Int) + 2), 0), (.pub, 0), (.wait, j + 1), (.free, 0)] else [(.new ((j : Int) + 2), 0), (.pub, 0), (.free, 0)]
def wrTo (wt : Bool) (i : Nat) : List (Tg × Nat) := (List.range i).flatMap fun j => wrOne wt j
def Cs.segs (c : Cs) (wt : Bool) : List (Tg × Nat) := if c.w = true then wrTo wt c.tm ++ [(.gone, if wt = true then c.tm + 1 else 1)] else rdTo c.dp c.rd c.tm ++ [(.gone, c.tm * (2 * c.dp + 1) + 1)]
def nm (l : List (Tg × Nat)) : List (Tg × ByteArray) := l.map fun x => (x.1, pq x.2)
def Cs.code (f : Nat) (wt : Bool) (c : Cs) : List Ins := cd f (nm (c.segs wt))

def Cs.ok (c : Cs) : Prop := c.tm ≤ 3 ∧ c.rd ≤ 5
end Go.Proofs.YtoialadjpcdbaaaGreatDoor

/- SpB -/
namespace Go.Proofs.YtoialadjpcdbaaaGreatDoor
open Go.RowKit

theorem labelAt_bl (l : List Ins) (to : ByteArray) : labelAt l to = match l.findIdx? (fun x => (bl x.op == [108, 97, 98, 101, 108]) && (bl x.to == bl to)) with
    | some j => (j : Int)
    | none => -1 := by
  unfold labelAt
  rw [show (fun x => setsLabel x to) = (fun x => (bl x.op == [108, 97, 98, 101, 108]) && (bl x.to == bl to)) from funext fun x => by unfold setsLabel; rw [toList_bl, toList_bl, toList_bl]]
  rfl
theorem spLabs {tm k : Nat} (ht : tm ≤ 3) (hk : k < tm) : (labelAt (spCode tm) (spPre k)).toNat = 19 * k ∧ (labelAt (spCode tm) (spTaken k)).toNat = 19 * k + 6 := by
  have h1 : ∀ tm : Fin 4, ∀ k : Fin 3, k.val < tm.val → (labelAt (spCode tm) (spPre k)).toNat = 19 * k.val ∧ (labelAt (spCode tm) (spTaken k)).toNat = 19 * k.val + 6 := by
    simp only [labelAt_bl]
    decide +kernel
  exact h1 ⟨tm, by omega⟩ ⟨k, by omega⟩ hk

section
variable {m : Mk} {tm t k : Nat}
theorem spStep {p : Nat} (hp : m.pc t = p) (hlt : p < 19 * tm) : m.step (spCode tm) t = (m.setPc t (p + 1)).exec (spCode tm) t (spIns (p / 19) (p % 19)) := by
  unfold Mk.step
  rw [hp, spCode_at hlt]
theorem ex0 (L : List Ins) : m.exec L t (spIns k 0) = m := by
  unfold Mk.exec
  rw [show opNo (spIns k 0).op.toList = 20 from by rw [toList_bl]; rfl]
  rfl
theorem ex1 (L : List Ins) : m.exec L t (spIns k 1) = m.setReg t 0 0 := by
  unfold Mk.exec
  rw [show opNo (spIns k 1).op.toList = 0 from by rw [toList_bl]; rfl]
  rfl
theorem ex2 (L : List Ins) : m.exec L t (spIns k 2) = m.setReg t 1 1 := by
  unfold Mk.exec
  rw [show opNo (spIns k 2).op.toList = 0 from by rw [toList_bl]; rfl]
  rfl
theorem ex3 (L : List Ins) : m.exec L t (spIns k 3) = m.cas t 0 (m.regs t 7) 0 (m.regs t 0) (m.regs t 1) := by
  unfold Mk.exec
  rw [show opNo (spIns k 3).op.toList = 9 from by rw [toList_bl]; rfl]
  rfl
theorem ex4 (L : List Ins) : m.exec L t (spIns k 4) = if m.regs t 0 = 0 then m.jump t L (spTaken k) else m := by
  unfold Mk.exec
  rw [show opNo (spIns k 4).op.toList = 17 from by rw [toList_bl]; rfl]
  rfl
theorem ex5 (L : List Ins) : m.exec L t (spIns k 5) = m.jump t L (spPre k) := by
  unfold Mk.exec
  rw [show opNo (spIns k 5).op.toList = 19 from by rw [toList_bl]; rfl]
  rfl
theorem ex6 (L : List Ins) : m.exec L t (spIns k 6) = m := by
  unfold Mk.exec
  rw [show opNo (spIns k 6).op.toList = 20 from by rw [toList_bl]; rfl]
  rfl
theorem ex7 (L : List Ins) : m.exec L t (spIns k 7) = m.load t 2 (m.regs t 7) 1 := by
  unfold Mk.exec
  rw [show opNo (spIns k 7).op.toList = 6 from by rw [toList_bl]; rfl]
  rfl
theorem ex8 (L : List Ins) : m.exec L t (spIns k 8) = m.setReg t 3 1 := by
  unfold Mk.exec
  rw [show opNo (spIns k 8).op.toList = 0 from by rw [toList_bl]; rfl]
  rfl
theorem ex9 (L : List Ins) : m.exec L t (spIns k 9) = m.setReg t 4 (xorW (m.regs t 2) (m.regs t 3)) := by
  unfold Mk.exec
  rw [show opNo (spIns k 9).op.toList = 5 from by rw [toList_bl]; rfl]
  rfl
theorem ex10 (L : List Ins) : m.exec L t (spIns k 10) = m.need (m.regs t 4) := by
  unfold Mk.exec
  rw [show opNo (spIns k 10).op.toList = 13 from by rw [toList_bl]; rfl]
  rfl
theorem ex11 (L : List Ins) : m.exec L t (spIns k 11) = m.store t (m.regs t 7) 1 (m.regs t 3) := by
  unfold Mk.exec
  rw [show opNo (spIns k 11).op.toList = 7 from by rw [toList_bl]; rfl]
  rfl
theorem ex12 (L : List Ins) : m.exec L t (spIns k 12) = m.load t 2 (m.regs t 7) 2 := by
  unfold Mk.exec
  rw [show opNo (spIns k 12).op.toList = 6 from by rw [toList_bl]; rfl]
  rfl
theorem ex13 (L : List Ins) : m.exec L t (spIns k 13) = m.setReg t 2 ((m.regs t 2 + m.regs t 3) % 4294967296) := by
  unfold Mk.exec
  rw [show opNo (spIns k 13).op.toList = 2 from by rw [toList_bl]; rfl]
  rfl
theorem ex14 (L : List Ins) : m.exec L t (spIns k 14) = m.store t (m.regs t 7) 2 (m.regs t 2) := by
  unfold Mk.exec
  rw [show opNo (spIns k 14).op.toList = 7 from by rw [toList_bl]; rfl]
  rfl
theorem ex15 (L : List Ins) : m.exec L t (spIns k 15) = m.setReg t 4 0 := by
  unfold Mk.exec
  rw [show opNo (spIns k 15).op.toList = 0 from by rw [toList_bl]; rfl]
  rfl
theorem ex16 (L : List Ins) : m.exec L t (spIns k 16) = m.store t (m.regs t 7) 1 (m.regs t 4) := by
  unfold Mk.exec
  rw [show opNo (spIns k 16).op.toList = 7 from by rw [toList_bl]; rfl]
  rfl
theorem ex17 (L : List Ins) : m.exec L t (spIns k 17) = m.setReg t 0 0 := by
  unfold Mk.exec
  rw [show opNo (spIns k 17).op.toList = 0 from by rw [toList_bl]; rfl]
  rfl
theorem ex18 (L : List Ins) : m.exec L t (spIns k 18) = m.swap t 0 (m.regs t 7) 0 (m.regs t 0) := by
  unfold Mk.exec
  rw [show opNo (spIns k 18).op.toList = 8 from by rw [toList_bl]; rfl]
  rfl
end

theorem names_one {m : Mk} (h : m.mem.ar.has 0 0 = true) : m.names 1 = true := by
  unfold Mk.names
  rw [show cellOf 1 = 0 from rfl, show genOf 1 = 0 from rfl, h]
  rfl

theorem rounds_le {T tm : Nat} : ∀ {l : List Nat}, (∀ (t p : Nat), l[t]? = some p → p ≤ 19 * tm) → l.length = T → rounds l ≤ T * tm
  | [], _, _ => by simp [rounds]
  | x :: l, h, e => by
    have h1 := h 0 x rfl
    have h2 := rounds_le (T := l.length) (tm := tm) (l := l) (fun t p hp => h (t + 1) p (by simpa using hp)) rfl
    have : rounds (x :: l) = x / 19 + rounds l := by simp [rounds]
    rw [this, ← e, List.length_cons, Nat.succ_mul]
    have : x / 19 ≤ tm := by omega
    omega

theorem Mine.look {q : Nat} {r : Nat → Int} {ws : List Wt} {w1 w2 c : Int} (h : Mine q r ws w1 w2 c) :
    ws.foldl (Wt.pick 0 0 1) w1 = (if 12 ≤ q ∧ q ≤ 16 then 1 else 0) ∧ ws.foldl (Wt.pick 0 0 2) w2 = (if q ≤ 14 then c else c + 1) := by
  obtain ⟨d, hd, rfl, rfl, rfl⟩ := h.ws
  have hq : nSt q = 0 ∧ q ≤ 11 ∨ nSt q = 1 ∧ 12 ≤ q ∧ q ≤ 14 ∨ nSt q = 2 ∧ 15 ≤ q ∧ q ≤ 16 ∨ nSt q = 3 ∧ 17 ≤ q := by unfold nSt; split <;> (try split) <;> (try split) <;> omega
  rcases hq with ⟨e, h1⟩ | ⟨e, h1, h2⟩ | ⟨e, h1, h2⟩ | ⟨e, h1⟩
  · have a1 : (if 12 ≤ q ∧ q ≤ 16 then (1 : Int) else 0) = 0 := if_neg (by omega)
    have a2 : (if q ≤ 14 then c else c + 1) = c := if_pos (by omega)
    rw [a1, a2, e]
    rw [e] at hd
    obtain rfl : d = 0 := by omega
    simp
  · have a1 : (if 12 ≤ q ∧ q ≤ 16 then (1 : Int) else 0) = 1 := if_pos (by omega)
    have a2 : (if q ≤ 14 then c else c + 1) = c := if_pos (by omega)
    rw [a1, a2, e]
    rw [e] at hd
    have : d = 0 ∨ d = 1 := by omega
    rcases this with rfl | rfl <;> simp [sq, Wt.pick]
  · have a1 : (if 12 ≤ q ∧ q ≤ 16 then (1 : Int) else 0) = 1 := if_pos (by omega)
    have a2 : (if q ≤ 14 then c else c + 1) = c + 1 := if_neg (by omega)
    rw [a1, a2, e]
    rw [e] at hd
    have : d = 0 ∨ d = 1 ∨ d = 2 := by omega
    rcases this with rfl | rfl | rfl <;> simp [sq, Wt.pick]
  · have a1 : (if 12 ≤ q ∧ q ≤ 16 then (1 : Int) else 0) = 0 := if_neg (by omega)
    have a2 : (if q ≤ 14 then c else c + 1) = c + 1 := if_neg (by omega)
    rw [a1, a2, e]
    rw [e] at hd
    have : d = 0 ∨ d = 1 ∨ d = 2 ∨ d = 3 := by omega
    rcases this with rfl | rfl | rfl | rfl <;> simp [sq, Wt.pick]
theorem Mine.few {q : Nat} {r : Nat → Int} {ws : List Wt} {w1 w2 c : Int} (h : Mine q r ws w1 w2 c) : ws.length ≤ 3 := by
  obtain ⟨d, hd, rfl, -, -⟩ := h.ws
  rw [List.length_drop, List.length_take]
  have : (sq c).length = 3 := rfl
  omega

theorem Mine.put {q : Nat} {r : Nat → Int} {ws : List Wt} {w1 w2 c : Int} (h : Mine q r ws w1 w2 c) {x : Wt} (hq : q = 11 ∧ x = ⟨0, 0, 1, 1⟩ ∨ q = 14 ∧ x = ⟨0, 0, 2, c + 1⟩ ∨ q = 16 ∧ x = ⟨0, 0, 1, 0⟩) :
    ∃ d, d ≤ nSt (q + 1) ∧ ws ++ [x] = ((sq c).take (nSt (q + 1))).drop d ∧ w1 = (if d = 1 ∨ d = 2 then 1 else 0) ∧ w2 = (if d < 2 then c else c + 1) := by
  obtain ⟨d, hd, rfl, h1, h2⟩ := h.ws
  refine ⟨d, ?_, ?_, h1, h2⟩
  · rcases hq with ⟨rfl, -⟩ | ⟨rfl, -⟩ | ⟨rfl, -⟩ <;> simp [nSt] at hd ⊢ <;> omega
  · rcases hq with ⟨rfl, rfl⟩ | ⟨rfl, rfl⟩ | ⟨rfl, rfl⟩
    · simp [nSt] at hd
      subst hd; rfl
    · simp [nSt] at hd
      have : d = 0 ∨ d = 1 := by omega
      rcases this with rfl | rfl <;> rfl
    · simp [nSt] at hd
      have : d = 0 ∨ d = 1 ∨ d = 2 := by omega
      rcases this with rfl | rfl | rfl <;> rfl
theorem Mine.drain {q : Nat} {r : Nat → Int} {ws : List Wt} {w1 w2 c : Int} (h : Mine q r ws w1 w2 c) {x : Wt} {l : List Wt} (hx : ws = x :: l) :
    x.c = 0 ∧ x.g = 0 ∧ (x.w = 1 ∧ Mine q r l x.v w2 c ∨ x.w = 2 ∧ Mine q r l w1 x.v c) := by
  obtain ⟨d, hd, hw, h1, h2⟩ := h.ws
  rw [hx] at hw
  have hq : nSt q ≤ 3 := by unfold nSt; split <;> (try split) <;> (try split) <;> omega
  have hl : d < nSt q := by
    have := congrArg List.length hw
    rw [List.length_drop, List.length_take, List.length_cons] at this
    have e : (sq c).length = 3 := rfl
    omega
  have hn : nSt q = 1 ∨ nSt q = 2 ∨ nSt q = 3 := by omega
  have key : x = (sq c).getD d ⟨0, 0, 0, 0⟩ ∧ l = ((sq c).take (nSt q)).drop (d + 1) := by
    have hd3 : d = 0 ∨ d = 1 ∨ d = 2 := by omega
    rcases hn with e | e | e <;> rw [e] at hw hl ⊢ <;> rcases hd3 with rfl | rfl | rfl <;> first | omega | (simp [sq] at hw ⊢; exact hw)
  obtain ⟨rfl, rfl⟩ := key
  have mk : ∀ w1' w2', w1' = (if d + 1 = 1 ∨ d + 1 = 2 then 1 else 0) → w2' = (if d + 1 < 2 then c else c + 1) → Mine q r (((sq c).take (nSt q)).drop (d + 1)) w1' w2' c := fun w1' w2' e1 e2 => { h with ws := ⟨d + 1, by omega, rfl, e1, e2⟩ }
  have hd3 : d = 0 ∨ d = 1 ∨ d = 2 := by omega
  rcases hd3 with rfl | rfl | rfl
  · exact ⟨rfl, rfl, .inl ⟨rfl, mk _ _ rfl (by rw [h2]; rfl)⟩⟩
  · exact ⟨rfl, rfl, .inr ⟨rfl, mk _ _ (by rw [h1]; rfl) rfl⟩⟩
  · exact ⟨rfl, rfl, .inl ⟨rfl, mk _ _ rfl (by rw [h2]; rfl)⟩⟩
theorem Mine.all {q : Nat} {r : Nat → Int} {w1 w2 c : Int} (h : Mine q r [] w1 w2 c) : w1 = (if 12 ≤ q ∧ q ≤ 16 then 1 else 0) ∧ w2 = (if q ≤ 14 then c else c + 1) := h.look
end Go.Proofs.YtoialadjpcdbaaaGreatDoor
