import Derived.Test.YtaiigfcfmcicjaaGreatDoorE21
namespace Go.Proofs.YtaiigfcfmcicjaaGreatDoor
set_option maxRecDepth 100000
set_option maxHeartbeats 8000000
section
open Go.RowKit
theorem qExec_pc (m : Mk) (t : Nat) (i : GI) : (gExec m t i).pc = m.pc := by
 cases i with
 | load r a k => show (m.load _ _ _ _).pc = _; unfold Mk.load; split <;> rfl
 | store a r k =>
  show (m.store _ _ _ _).pc = _
  unfold Mk.store
  split
  ·exact (room_regs m t).2
  ·rfl
 | swap r a k => show (m.swap _ _ _ _ _).pc = _; unfold Mk.swap; split <;> rfl
 | cas a r k => show (m.cas _ _ _ _ _ _).pc = _; unfold Mk.cas; split <;> rfl
 | force => exact (fenceFrom_regs _ m 0).2
 | alloc r => show (m.alloc _ _).pc = _; unfold Mk.alloc; split <;> rfl
 | free r => show (m.free _ _).pc = _; unfold Mk.free; split <;> rfl
 | need r => show (m.need _).pc = _; unfold Mk.need; split <;> rfl
 | _ => rfl
theorem qAt_lt {s : List GI} {l : Nat} (h : (gLab l s 0).isSome = true) : gAt l s < s.length := by
 obtain ⟨j, hj⟩ := Option.isSome_iff_exists.1 h
 unfold gAt
 rw [hj]
 have := (gLab_at hj).2.1
 rw [Nat.sub_zero] at this
 exact (List.getElem?_eq_some_iff.1 this).1
theorem qNext_le {s : List GI} {q : Nat} {i : GI} (r : Nat -> Int) (hs : gOk s = true) (hq : s[q]? = some i) : gNext s q r i <= s.length := by
 have hlt := (List.getElem?_eq_some_iff.1 hq).1
 have hi := List.all_eq_true.1 hs i (List.mem_of_getElem? hq)
 cases i with
 | zero a l =>
  simp only [Bool.and_eq_true] at hi
  have := qAt_lt hi.2
  show (if r a = 0 then gAt l s else q + 1) <= _
  split <;> omega
 | same a b l =>
  simp only [Bool.and_eq_true] at hi
  have := qAt_lt hi.2
  show (if r a = r b then gAt l s else q + 1) <= _
  split <;> omega
 | goto l =>
  simp only [Bool.and_eq_true] at hi
  exact Nat.le_of_lt (qAt_lt hi.2)
 | _ => exact hlt
end
section
open Go.RowKit
inductive Tq
 | enter | leave | rest | gone | wait | read | put (v : Int) | drop | later | empty
deriving DecidableEq
def tqCode (f : Nat) : Tq -> List GI
 | .enter => gEnter f
 | .leave => gLeave f
 | .rest => gRest f
 | .gone => gGone f
 | .wait => gWait f
 | .read => [.load 0 5 0, .load 0 0 0, .need 0, .label 9]
 | .put v => [.alloc 3, .zero 3 0, .const 0 v, .store 3 0 0, .swap 3 5 0, .label 0]
 | .drop => [.zero 3 0, .free 3, .label 0]
 | .later => [.zero 3 0, .store 3 4 1, .move 4 3, .label 0]
 | .empty => [.label 1, .zero 4 0, .load 0 4 1, .free 4, .move 4 0, .goto 1, .label 0]
def hExec (m : Mk) (t : Nat) (tg : Tq) (q : Nat) (i : GI) : Mk := if tg = .read /\ q = 3 then m.mark t (m.regs t 0) else gExec m t i
end
section
open Go.RowKit
def PqAt (f : Nat) (L : List Ins) (a : Nat) (tg : Tq) : Prop := ∀ (q : Nat) (i : GI), (tqCode f tg)[q]? = some i -> ∀ (m : Mk) (t : Nat), m.pc t = a + q -> doneAt L (m.pc t) = false /\ m.step L t = hExec (m.setPc t (a + gNext (tqCode f tg) q (m.regs t) i)) t tg q i
def PsAt (f : Nat) (L : List Ins) : Nat -> List Tq -> Prop
 | a, [] => doneAt L a = true
 | a, tg :: l => PqAt f L a tg /\ PsAt f L (a + (tqCode f tg).length) l
end
end Go.Proofs.YtaiigfcfmcicjaaGreatDoor
