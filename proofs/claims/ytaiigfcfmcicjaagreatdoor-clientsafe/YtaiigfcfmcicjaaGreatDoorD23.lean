import Derived.Test.YtaiigfcfmcicjaaGreatDoorD22
namespace Go.Proofs.YtaiigfcfmcicjaaGreatDoor
set_option maxRecDepth 100000
set_option maxHeartbeats 8000000
section
open Go.RowKit
section
variable {f n : Nat} {G : Gh} {m m' : Mk} {t : Nat} {q d : Nat} {i : GI}
theorem reg3 {u : Nat} (m : Mk) (t r : Nat) (v : Int) (hu : u ≠ t) : (m.setReg t r v).regs u = m.regs u := setReg_other _ _ _ _ hu
end
end
section
open Go.RowKit
theorem stage_zero (f : Nat) : stage f 0 = 0 := by
 unfold stage
 by_cases h : f = 3
 ·rw [if_pos h]; rfl
 ·rw [if_neg h]
  by_cases h2 : f = 2
  ·rw [if_pos h2]; rfl
  ·rw [if_neg h2]
section
variable {f n : Nat} {G : Gh} {m : Mk} {t d d' : Nat} {k k' : Kd} {tg : Tg}
end
end
section
open Go.RowKit
theorem gExec_pc (m : Mk) (t : Nat) (i : GI) : (gExec m t i).pc = m.pc := by
 cases i with
 | load r a k => show (m.load _ _ _ _).pc = _; unfold Mk.load; split <;> rfl
 | store a r k =>
  show (m.store _ _ _ _).pc = _
  unfold Mk.store
  split
  ·exact (room_regs m t).2
  ·rfl
 | swap r a k => show (m.swap _ _ _ _ _).pc = _; unfold Mk.swap; split <;> rfl
 | cas a r k => show (m.cas _ _ _ _ _ _).pc = _; unfold Mk.cas; split <;> rfl
 | force => exact (fenceFrom_regs _ m 0).2
 | alloc r => show (m.alloc _ _).pc = _; unfold Mk.alloc; split <;> rfl
 | free r => show (m.free _ _).pc = _; unfold Mk.free; split <;> rfl
 | need r => show (m.need _).pc = _; unfold Mk.need; split <;> rfl
 | _ => rfl
theorem gAt_lt {s : List GI} {l : Nat} (h : (gLab l s 0).isSome = true) : gAt l s < s.length := by
 obtain ⟨j, hj⟩ := Option.isSome_iff_exists.1 h
 unfold gAt
 rw [hj]
 have := (gLab_at hj).2.1
 rw [Nat.sub_zero] at this
 exact (List.getElem?_eq_some_iff.1 this).1
theorem gNext_le {s : List GI} {q : Nat} {i : GI} (r : Nat -> Int) (hs : gOk s = true) (hq : s[q]? = some i) : gNext s q r i <= s.length := by
 have hlt := (List.getElem?_eq_some_iff.1 hq).1
 have hi := List.all_eq_true.1 hs i (List.mem_of_getElem? hq)
 cases i with
 | zero a l =>
  simp only [Bool.and_eq_true] at hi
  have := gAt_lt hi.2
  show (if r a = 0 then gAt l s else q + 1) <= _
  split <;> omega
 | same a b l =>
  simp only [Bool.and_eq_true] at hi
  have := gAt_lt hi.2
  show (if r a = r b then gAt l s else q + 1) <= _
  split <;> omega
 | goto l =>
  simp only [Bool.and_eq_true] at hi
  exact Nat.le_of_lt (gAt_lt hi.2)
 | _ => exact hlt
section
variable {f n : Nat} {pr : Nat -> List (Tg × ByteArray)} {m : Mk} {t : Nat}
end
end
end Go.Proofs.YtaiigfcfmcicjaaGreatDoor
