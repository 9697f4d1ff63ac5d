import Derived.Test.YtaiigfcfmcicjaaGreatDoorE11
import Derived.Test.YtaiigfcfmcicjaaGreatDoorProg
import Derived.Test.YtaiigfcfmcicjaaGreatDoorE01
import Derived.WalkKit
import Derived.Test.YtaiigfcfmcicjaaGreatDoorE02
import Derived.Deep.QuietTactic
namespace Go.Proofs.YtaiigfcfmcicjaaGreatDoor
set_option maxRecDepth 100000
set_option maxHeartbeats 8000000
section
open Go.RowKit
def labelAtB (l : List Ins) (to : List UInt8) : Option Nat := l.findIdx? (fun x => (bl x.op == [108, 97, 98, 101, 108]) && (bl x.to == to))
theorem labelAt_B (l : List Ins) (to : ByteArray) : labelAt l to = match labelAtB l (bl to) with
  | some j => (j : Int)
  | none => -1 := by
 unfold labelAt labelAtB
 rw [show (fun x => setsLabel x to) = (fun x => (bl x.op == [108, 97, 98, 101, 108]) && (bl x.to == bl to)) from funext fun x => by unfold setsLabel; rw [toList_bl, toList_bl, toList_bl]]
 rfl
def nameB (l : List UInt8) : Bool := decide (1 <= l.length) && (decide (l.length <= 12) && (List.range l.length).all fun j => nameOk j (l.getD j 0).toNat)
theorem nameB_is {s : ByteArray} (h : nameB (bl s) = true) : isName s := by
 unfold nameB at h
 simp only [Bool.and_eq_true, decide_eq_true_eq, List.all_eq_true, List.mem_range] at h
 obtain ⟨h1, h2, h3⟩ := h
 have hz : s.size = (bl s).length := size_bl s
 refine ⟨by omega, by omega, fun j hj => ?_⟩
 have := h3 j (by omega)
 rw [List.getD_eq_getElem?_getD, List.getElem?_eq_getElem (by omega)] at this
 exact this
def shapeGood (x : Ins) (l : List UInt8) : Bool :=
 ((lab ⟨l.toArray⟩ l.length || (bl x.to == [])) && (!(lab ⟨l.toArray⟩ l.length) || nameB (bl x.to))) &&
 (List.range 3).all fun k => if k < cnt ⟨l.toArray⟩ l.length then decide (0 <= x.n k /\ x.n k < mostOf (byteAt ⟨l.toArray⟩ k)) else decide (x.n k = 0)
def insGood (L : List Ins) (i : Nat) (x : Ins) : Bool := match shape (bl x.op) with
 | none => false
 | some l => shapeGood x l && ((!(bl x.op == [108, 97, 98, 101, 108]) || labelAtB L (bl x.to) == some i) && ((bl x.to == []) || (labelAtB L (bl x.to)).isSome))
theorem insGood_is {L : List Ins} {i : Nat} {x : Ins} (h : insGood L i x = true) : insFault L i x = 0 := by
 unfold insGood at h
 cases hs : shape (bl x.op) with
 | none => rw [hs] at h; cases h
 | some l =>
  rw [hs] at h
  simp only [Bool.and_eq_true] at h
  obtain ⟨h1, h2, h3⟩ := h
  unfold shapeGood at h1
  simp only [Bool.and_eq_true, List.all_eq_true, List.mem_range] at h1
  obtain ⟨⟨g1, g2⟩, g3⟩ := h1
  have hsz : (⟨l.toArray⟩ : ByteArray).size = l.length := by simp [ByteArray.size]
  have he : insErr x = 0 := by
   unfold insErr
   rw [toList_bl, hs]
   show insBad x ⟨l.toArray⟩ = 0
   unfold insBad
   rw [hsz, if_neg, if_neg, if_neg, if_neg]
   ·rintro ⟨e1, e2⟩
    rw [e1] at g2
    exact e2 (nameB_is (by simpa using g2))
   ·rintro ⟨k, hk, e⟩
    have := cnt_le ⟨l.toArray⟩ l.length
    have hl := shape_le hs
    have g := g3 k (by omega)
    rw [if_pos hk] at g
    exact e (by simpa using g)
   ·rintro ⟨k, hk, hk3, e⟩
    have g := g3 k hk3
    rw [if_neg (by omega)] at g
    exact e (by simpa using g)
   ·rintro ⟨e1, e2⟩
    rw [e1, Bool.false_or] at g1
    rw [toList_bl] at e2
    exact e2 (by simpa using g1)
  unfold insFault
  rw [if_neg (by rw [he]; simp), if_neg, if_neg]
  ·rintro ⟨e1, e2⟩
   rw [toList_bl] at e1
   rw [e1, Bool.false_or] at h3
   rw [labelAt_B] at e2
   cases hb : labelAtB L (bl x.to) with
   | none => rw [hb] at h3; cases h3
   | some j => rw [hb] at e2; exact absurd e2 (by simp)
  ·rintro ⟨e1, e2⟩
   rw [toList_bl] at e1
   rw [e1, Bool.not_true, Bool.false_or] at h2
   rw [labelAt_B, show labelAtB L (bl x.to) = some i by simpa using h2] at e2
   exact e2 rfl
def codeGood (L : List Ins) : Bool := decide (L.length <= 2000) && (List.range L.length).all fun i => match L[i]? with
 | none => true
 | some x => insGood L i x
theorem faultFrom_good {L : List Ins} : ∀ (r : List Ins) (j : Nat), (∀ (k : Nat) x, r[k]? = some x -> insFault L (j + k) x = 0) -> faultFrom L j r = (0, -1)
 | [], _, _ => rfl
 | y :: r, j, h => by
  unfold faultFrom
  rw [if_pos (by simpa using h 0 y rfl)]
  exact faultFrom_good r (j + 1) (fun k x hx => by rw [show j + 1 + k = j + (k + 1) by omega]; exact h (k + 1) x (by simpa using hx))
end
section
open Go.RowKit Go.Extern.Stop Go.Stop Go.Extern
theorem shape_any (op : ByteArray) (w : World) :
  Calls Tryz.prog 117 #[.string op] w fun e w' => e = .returned (shapeV (shape op.toList)) /\ w' = w := by
 cases h0 : (op.toList == [99, 111, 110, 115, 116])
 rotate_left
 ·have hs : shape op.toList = some [114, 118] := by simp only [shape, h0, if_true]
  rw [hs]
  go_enter Tryz.func117, Tryz.ntmps117
  go_wp2
  go_ret2
  exact ⟨rfl, rfl⟩
 cases h1 : (op.toList == [109, 111, 118, 101])
 rotate_left
 ·have hs : shape op.toList = some [114, 114] := by simp only [shape, h0, h1, Bool.false_eq_true, if_false, if_true]
  rw [hs]
  go_enter Tryz.func117, Tryz.ntmps117
  go_wp2
  go_ret2
  exact ⟨rfl, rfl⟩
 cases h2 : (op.toList == [97, 100, 100])
 rotate_left
 ·have hs : shape op.toList = some [114, 114, 114] := by simp only [shape, h0, h1, h2, Bool.false_eq_true, if_false, if_true]
  rw [hs]
  go_enter Tryz.func117, Tryz.ntmps117
  go_wp2
  go_ret2
  exact ⟨rfl, rfl⟩
 cases h3 : (op.toList == [115, 117, 98])
 rotate_left
 ·have hs : shape op.toList = some [114, 114, 114] := by simp only [shape, h0, h1, h2, h3, Bool.false_eq_true, if_false, if_true]
  rw [hs]
  go_enter Tryz.func117, Tryz.ntmps117
  go_wp2
  go_ret2
  exact ⟨rfl, rfl⟩
 cases h4 : (op.toList == [97, 110, 100])
 rotate_left
 ·have hs : shape op.toList = some [114, 114, 114] := by simp only [shape, h0, h1, h2, h3, h4, Bool.false_eq_true, if_false, if_true]
  rw [hs]
  go_enter Tryz.func117, Tryz.ntmps117
  go_wp2
  go_ret2
  exact ⟨rfl, rfl⟩
 cases h5 : (op.toList == [120, 111, 114])
 rotate_left
 ·have hs : shape op.toList = some [114, 114, 114] := by simp only [shape, h0, h1, h2, h3, h4, h5, Bool.false_eq_true, if_false, if_true]
  rw [hs]
  go_enter Tryz.func117, Tryz.ntmps117
  go_wp2
  go_ret2
  exact ⟨rfl, rfl⟩
 cases h6 : (op.toList == [108, 111, 97, 100])
 rotate_left
 ·have hs : shape op.toList = some [114, 114, 119] := by simp only [shape, h0, h1, h2, h3, h4, h5, h6, Bool.false_eq_true, if_false, if_true]
  rw [hs]
  go_enter Tryz.func117, Tryz.ntmps117
  go_wp2
  go_ret2
  exact ⟨rfl, rfl⟩
 cases h7 : (op.toList == [115, 116, 111, 114, 101])
 rotate_left
 ·have hs : shape op.toList = some [114, 114, 119] := by simp only [shape, h0, h1, h2, h3, h4, h5, h6, h7, Bool.false_eq_true, if_false, if_true]
  rw [hs]
  go_enter Tryz.func117, Tryz.ntmps117
  go_wp2
  go_ret2
  exact ⟨rfl, rfl⟩
 cases h8 : (op.toList == [115, 119, 97, 112])
 rotate_left
 ·have hs : shape op.toList = some [114, 114, 119] := by simp only [shape, h0, h1, h2, h3, h4, h5, h6, h7, h8, Bool.false_eq_true, if_false, if_true]
  rw [hs]
  go_enter Tryz.func117, Tryz.ntmps117
  go_wp2
  go_ret2
  exact ⟨rfl, rfl⟩
 cases h9 : (op.toList == [99, 97, 115])
 rotate_left
 ·have hs : shape op.toList = some [114, 115, 119] := by simp only [shape, h0, h1, h2, h3, h4, h5, h6, h7, h8, h9, Bool.false_eq_true, if_false, if_true]
  rw [hs]
  go_enter Tryz.func117, Tryz.ntmps117
  go_wp2
  go_ret2
  exact ⟨rfl, rfl⟩
 cases h10 : (op.toList == [97, 108, 108, 111, 99])
 rotate_left
 ·have hs : shape op.toList = some [114] := by simp only [shape, h0, h1, h2, h3, h4, h5, h6, h7, h8, h9, h10, Bool.false_eq_true, if_false, if_true]
  rw [hs]
  go_enter Tryz.func117, Tryz.ntmps117
  go_wp2
  go_ret2
  exact ⟨rfl, rfl⟩
 cases h11 : (op.toList == [102, 114, 101, 101])
 rotate_left
 ·have hs : shape op.toList = some [114] := by simp only [shape, h0, h1, h2, h3, h4, h5, h6, h7, h8, h9, h10, h11, Bool.false_eq_true, if_false, if_true]
  rw [hs]
  go_enter Tryz.func117, Tryz.ntmps117
  go_wp2
  go_ret2
  exact ⟨rfl, rfl⟩
 cases h12 : (op.toList == [109, 97, 114, 107])
 rotate_left
 ·have hs : shape op.toList = some [114] := by simp only [shape, h0, h1, h2, h3, h4, h5, h6, h7, h8, h9, h10, h11, h12, Bool.false_eq_true, if_false, if_true]
  rw [hs]
  go_enter Tryz.func117, Tryz.ntmps117
  go_wp2
  go_ret2
  exact ⟨rfl, rfl⟩
 cases h13 : (op.toList == [110, 101, 101, 100])
 rotate_left
 ·have hs : shape op.toList = some [114] := by simp only [shape, h0, h1, h2, h3, h4, h5, h6, h7, h8, h9, h10, h11, h12, h13, Bool.false_eq_true, if_false, if_true]
  rw [hs]
  go_enter Tryz.func117, Tryz.ntmps117
  go_wp2
  go_ret2
  exact ⟨rfl, rfl⟩
 cases h14 : (op.toList == [102, 101, 110, 99, 101])
 rotate_left
 ·have hs : shape op.toList = some [] := by simp only [shape, h0, h1, h2, h3, h4, h5, h6, h7, h8, h9, h10, h11, h12, h13, h14, Bool.false_eq_true, if_false, if_true]
  rw [hs]
  go_enter Tryz.func117, Tryz.ntmps117
  go_wp2
  go_ret2
  exact ⟨rfl, rfl⟩
 cases h15 : (op.toList == [102, 111, 114, 99, 101])
 rotate_left
 ·have hs : shape op.toList = some [] := by simp only [shape, h0, h1, h2, h3, h4, h5, h6, h7, h8, h9, h10, h11, h12, h13, h14, h15, Bool.false_eq_true, if_false, if_true]
  rw [hs]
  go_enter Tryz.func117, Tryz.ntmps117
  go_wp2
  go_ret2
  exact ⟨rfl, rfl⟩
 cases h16 : (op.toList == [115, 116, 111, 112])
 rotate_left
 ·have hs : shape op.toList = some [] := by simp only [shape, h0, h1, h2, h3, h4, h5, h6, h7, h8, h9, h10, h11, h12, h13, h14, h15, h16, Bool.false_eq_true, if_false, if_true]
  rw [hs]
  go_enter Tryz.func117, Tryz.ntmps117
  go_wp2
  go_ret2
  exact ⟨rfl, rfl⟩
 cases h17 : (op.toList == [122, 101, 114, 111])
 rotate_left
 ·have hs : shape op.toList = some [114, 108] := by simp only [shape, h0, h1, h2, h3, h4, h5, h6, h7, h8, h9, h10, h11, h12, h13, h14, h15, h16, h17, Bool.false_eq_true, if_false, if_true]
  rw [hs]
  go_enter Tryz.func117, Tryz.ntmps117
  go_wp2
  go_ret2
  exact ⟨rfl, rfl⟩
 cases h18 : (op.toList == [115, 97, 109, 101])
 rotate_left
 ·have hs : shape op.toList = some [114, 114, 108] := by simp only [shape, h0, h1, h2, h3, h4, h5, h6, h7, h8, h9, h10, h11, h12, h13, h14, h15, h16, h17, h18, Bool.false_eq_true, if_false, if_true]
  rw [hs]
  go_enter Tryz.func117, Tryz.ntmps117
  go_wp2
  go_ret2
  exact ⟨rfl, rfl⟩
 cases h19 : (op.toList == [103, 111, 116, 111])
 rotate_left
 ·have hs : shape op.toList = some [108] := by simp only [shape, h0, h1, h2, h3, h4, h5, h6, h7, h8, h9, h10, h11, h12, h13, h14, h15, h16, h17, h18, h19, Bool.false_eq_true, if_false, if_true]
  rw [hs]
  go_enter Tryz.func117, Tryz.ntmps117
  go_wp2
  go_ret2
  exact ⟨rfl, rfl⟩
 cases h20 : (op.toList == [108, 97, 98, 101, 108])
 rotate_left
 ·have hs : shape op.toList = some [108] := by simp only [shape, h0, h1, h2, h3, h4, h5, h6, h7, h8, h9, h10, h11, h12, h13, h14, h15, h16, h17, h18, h19, h20, Bool.false_eq_true, if_false, if_true]
  rw [hs]
  go_enter Tryz.func117, Tryz.ntmps117
  go_wp2
  go_ret2
  exact ⟨rfl, rfl⟩
 have hs : shape op.toList = none := by simp only [shape, h0, h1, h2, h3, h4, h5, h6, h7, h8, h9, h10, h11, h12, h13, h14, h15, h16, h17, h18, h19, h20, Bool.false_eq_true, if_false]
 rw [hs]
 go_enter Tryz.func117, Tryz.ntmps117
 go_wp2
 go_ret2
 exact ⟨rfl, rfl⟩
end
section
open Go.RowKit Go.Extern.Stop Go.Stop Go.Extern
open Classical in
theorem isName_any (s : ByteArray) (w : World) :
  Calls Tryz.prog 119 #[.string s] w fun e w' => e = .returned (.bool (decide (isName s))) /\ w' = w := by
 by_cases h1 : 1 <= s.size
 ·by_cases h2 : s.size <= 12
  ·have HD : Hid (∀ f : Bool, (f = true ↔ ∀ j (h : j < s.size), nameOk j (s[j]'h).toNat = true) -> decide (isName s) = f) := fun f hf => by
    cases f with
    | true => exact decide_eq_true ⟨h1, h2, hf.1 rfl⟩
    | false => exact decide_eq_false (fun h => by have := hf.2 h.2.2; cases this)
   have i1 : ¬ (s.size : Int) < 1 := by omega
   have i2 : ¬ 12 < (s.size : Int) := by omega
   generalize decide (isName s) = F at *
   go_enter Tryz.func119, Tryz.ntmps119
   go_wp2_with fail
   go_loopw [3, 4, 5] (fun i _ _ wr => wr = w /\ ∃ j : Nat, j <= s.size /\ i = .int .i64 j /\ Hid (∀ i (h : i < s.size), i < j -> nameOk i (s[i]'h).toNat = true)) (fun i _ _ _ => s.size - (intOf i).toNat)
   case atStart => exact ⟨rfl, 0, Nat.zero_le _, rfl, fun i _ h => absurd h (Nat.not_lt_zero _)⟩
   case round =>
    obtain ⟨rfl, j, hj, rfl, HJ⟩ := hrel
    by_cases hlt : j < s.size
    ·have ji : (j : Int) < s.size := by omega
     have HY : Hid (nameOk j (s[j]'hlt).toNat = true -> ∀ i (h : i < s.size), i < j + 1 -> nameOk i (s[i]'h).toNat = true) := fun hy i h hi => by
      by_cases e : i = j
      ·subst e; exact hy
      ·exact HJ.out i h (by omega)
     have HX : Hid (nameOk j (s[j]'hlt).toNat = false -> F = false) := fun hx => HD.out false ⟨(fun h => Bool.noConfusion h), (fun h => by rw [h j hlt] at hx; cases hx)⟩
     have hor : ((97 <= (s[j]'hlt).toNat /\ (s[j]'hlt).toNat <= 122)) ∨ (¬ 97 <= (s[j]'hlt).toNat /\ j = 0) ∨ (¬ 97 <= (s[j]'hlt).toNat /\ j ≠ 0 /\ 48 <= (s[j]'hlt).toNat /\ (s[j]'hlt).toNat <= 57) ∨ (¬ 97 <= (s[j]'hlt).toNat /\ j ≠ 0 /\ ¬ 48 <= (s[j]'hlt).toNat /\ (s[j]'hlt).toNat = 46) ∨ (¬ 97 <= (s[j]'hlt).toNat /\ j ≠ 0 /\ ¬ 48 <= (s[j]'hlt).toNat /\ (s[j]'hlt).toNat ≠ 46)
       ∨ (¬ 97 <= (s[j]'hlt).toNat /\ j ≠ 0 /\ ¬ (s[j]'hlt).toNat <= 57) ∨ (97 <= (s[j]'hlt).toNat /\ ¬ (s[j]'hlt).toNat <= 122 /\ j = 0) ∨ (97 <= (s[j]'hlt).toNat /\ ¬ (s[j]'hlt).toNat <= 122 /\ j ≠ 0) := by omega
     rcases hor with ⟨q1, q2⟩ | ⟨q1, q2⟩ | ⟨q1, q2, q3, q4⟩ | ⟨q1, q2, q3, q4⟩ | ⟨q1, q2, q3, q4⟩ | ⟨q1, q2, q3⟩ | ⟨q1, q2, q3⟩ | ⟨q1, q2, q3⟩
     ·have HZ : Hid (∀ i (h : i < s.size), i < j + 1 -> nameOk i (s[i]'h).toNat = true) := HY.out (decide_eq_true (by omega))
      have z1 : (97 : Int) <= ((s[j]'hlt).toNat : Int) := by omega
      have z2 : ((s[j]'hlt).toNat : Int) <= 122 := by omega
      clear HY HX HJ HD q1 q2
      go_wp2
      go_roundw
      case rel => exact ⟨trivial, j + 1, by omega, by go_num, HZ⟩
      case measure => simp [intOf]; omega
     ·have HZ : Hid (F = false) := HX.out (decide_eq_false (by omega))
      subst q2
      have z1 : ¬ (97 : Int) <= ((s[0]'hlt).toNat : Int) := by omega
      clear HY HX HJ HD q1
      go_wp2
      all_goals
       go_ret
       exact ⟨by rw [HZ.out]; rfl, rfl⟩
     ·have HZ : Hid (∀ i (h : i < s.size), i < j + 1 -> nameOk i (s[i]'h).toNat = true) := HY.out (decide_eq_true (by omega))
      have z1 : ¬ (97 : Int) <= ((s[j]'hlt).toNat : Int) := by omega
      have z2 : (48 : Int) <= ((s[j]'hlt).toNat : Int) := by omega
      have z3 : ((s[j]'hlt).toNat : Int) <= 57 := by omega
      have jz : ((j : Int) == 0) = false := beq_eq_false_iff_ne.2 (by omega)
      clear HY HX HJ HD q1 q3 q4
      go_wp2
      go_roundw
      case rel => exact ⟨trivial, j + 1, by omega, by go_num, HZ⟩
      case measure => simp [intOf]; omega
     ·have HZ : Hid (∀ i (h : i < s.size), i < j + 1 -> nameOk i (s[i]'h).toNat = true) := HY.out (decide_eq_true (by omega))
      have z1 : ¬ (97 : Int) <= ((s[j]'hlt).toNat : Int) := by omega
      have z2 : ¬ (48 : Int) <= ((s[j]'hlt).toNat : Int) := by omega
      have jz : ((j : Int) == 0) = false := beq_eq_false_iff_ne.2 (by omega)
      have zd : (((s[j]'hlt).toNat : Int) != 46) = false := by rw [bne_eq_false_iff_eq]; omega
      clear HY HX HJ HD q1 q3 q4
      go_wp2
      go_roundw
      case rel => exact ⟨trivial, j + 1, by omega, by go_num, HZ⟩
      case measure => simp [intOf]; omega
     ·have HZ : Hid (F = false) := HX.out (decide_eq_false (by omega))
      have z1 : ¬ (97 : Int) <= ((s[j]'hlt).toNat : Int) := by omega
      have z2 : ¬ (48 : Int) <= ((s[j]'hlt).toNat : Int) := by omega
      have jz : ((j : Int) == 0) = false := beq_eq_false_iff_ne.2 (by omega)
      have zd : (((s[j]'hlt).toNat : Int) != 46) = true := by rw [bne_iff_ne]; omega
      clear HY HX HJ HD q1 q3 q4
      go_wp2
      all_goals
       go_ret
       exact ⟨by rw [HZ.out]; rfl, rfl⟩
     ·have HZ : Hid (F = false) := HX.out (decide_eq_false (by omega))
      have z1 : ¬ (97 : Int) <= ((s[j]'hlt).toNat : Int) := by omega
      have z2 : (48 : Int) <= ((s[j]'hlt).toNat : Int) := by omega
      have z3 : ¬ ((s[j]'hlt).toNat : Int) <= 57 := by omega
      have jz : ((j : Int) == 0) = false := beq_eq_false_iff_ne.2 (by omega)
      have zd : (((s[j]'hlt).toNat : Int) != 46) = true := by rw [bne_iff_ne]; omega
      clear HY HX HJ HD q1 q3
      go_wp2
      all_goals
       go_ret
       exact ⟨by rw [HZ.out]; rfl, rfl⟩
     ·have HZ : Hid (F = false) := HX.out (decide_eq_false (by omega))
      subst q3
      have z1 : (97 : Int) <= ((s[0]'hlt).toNat : Int) := by omega
      have z2 : ¬ ((s[0]'hlt).toNat : Int) <= 122 := by omega
      clear HY HX HJ HD q1 q2
      go_wp2
      all_goals
       go_ret
       exact ⟨by rw [HZ.out]; rfl, rfl⟩
     ·have HZ : Hid (F = false) := HX.out (decide_eq_false (by omega))
      have z1 : (97 : Int) <= ((s[j]'hlt).toNat : Int) := by omega
      have z2 : ¬ ((s[j]'hlt).toNat : Int) <= 122 := by omega
      have z3 : (48 : Int) <= ((s[j]'hlt).toNat : Int) := by omega
      have z4 : ¬ ((s[j]'hlt).toNat : Int) <= 57 := by omega
      have jz : ((j : Int) == 0) = false := beq_eq_false_iff_ne.2 (by omega)
      have zd : (((s[j]'hlt).toNat : Int) != 46) = true := by rw [bne_iff_ne]; omega
      clear HY HX HJ HD q1 q2
      go_wp2
      all_goals
       go_ret
       exact ⟨by rw [HZ.out]; rfl, rfl⟩
    ·have HZ : Hid (F = true) := HD.out true ⟨fun _ i h => HJ.out i h (by omega), fun _ => rfl⟩
     obtain rfl : j = s.size := by omega
     clear HJ HD
     go_wp2
     go_ret
     exact ⟨by rw [HZ.out]; rfl, rfl⟩
  ·have HZ : decide (isName s) = false := decide_eq_false (fun h => h2 h.2.1)
   have i1 : ¬ (s.size : Int) < 1 := by omega
   have i2 : 12 < (s.size : Int) := by omega
   rw [HZ]
   go_enter Tryz.func119, Tryz.ntmps119
   go_wp2
   go_ret
   exact ⟨rfl, rfl⟩
 ·have HZ : decide (isName s) = false := decide_eq_false (fun h => h1 h.1)
  have i1 : (s.size : Int) < 1 := by omega
  rw [HZ]
  go_enter Tryz.func119, Tryz.ntmps119
  go_wp2
  go_ret
  exact ⟨rfl, rfl⟩
end
end Go.Proofs.YtaiigfcfmcicjaaGreatDoor
