import Derived.Test.YtnnlkolhahjokaaGreatDoorProg
import Derived.Test.YtnnlkolhahjokaaGreatDoorB10
import Derived.WalkKit
import Derived.Test.YtnnlkolhahjokaaGreatDoorB01
import Derived.Deep.QuietTactic
import Derived.Lib.ConvBytes
import Derived.Lib.AtoiErrMem

/- ProgA -/
namespace Go.Proofs.YtnnlkolhahjokaaGreatDoor
open Go.RowKit Go.Extern.Stop Go.Stop Go.Extern

def limOf (S : List UInt8) (k : Nat) : Int := if k < nums S then mostOf (byteAt ⟨S.toArray⟩ k) else 0
def kindV (S : List UInt8) : Value := .agg #[.int .i64 (limOf S 0), .int .i64 (limOf S 1), .int .i64 (limOf S 2), .bool (hasTo S)]
def kindRet : Option (List UInt8) → Value
  | some S => .tuple #[kindV S, .bool true]
  | none => .tuple #[kindV [], .bool false]

set_option maxRecDepth 20000 in
set_option maxHeartbeats 4000000 in
theorem kindOf_any (op : ByteArray) (w : World) :
    Calls Tryz.prog 54 #[.string op] w fun e w' => e = .returned (kindRet (shape op.toList)) ∧ Below w.heap.size w w' := by
  cases h0 : (op.toList == [99, 111, 110, 115, 116])
  rotate_left
  · have hs : kindRet (shape op.toList) = .tuple #[.agg #[.int .i64 8, .int .i64 4294967296, .int .i64 0, .bool false], .bool true] := by
      rw [show shape op.toList = some [114, 118] by simp only [shape, h0, if_true]]; kernel_rfl
    rw [hs]
    go_enter Tryz.func54, Tryz.ntmps54
    go_wp2
    exact bodyPost_ret (v := .tuple #[.agg #[.int .i64 8, .int .i64 4294967296, .int .i64 0, .bool false], .bool true]) (by simp only [results, Tryz.results54]; go_simp) rfl ⟨rfl, (Below.refl _ _).alloc (Nat.le_refl _) _⟩
  cases h1 : (op.toList == [109, 111, 118, 101])
  rotate_left
  · have hs : kindRet (shape op.toList) = .tuple #[.agg #[.int .i64 8, .int .i64 8, .int .i64 0, .bool false], .bool true] := by
      rw [show shape op.toList = some [114, 114] by simp only [shape, h0, h1, Bool.false_eq_true, if_false, if_true]]; kernel_rfl
    rw [hs]
    go_enter Tryz.func54, Tryz.ntmps54
    go_wp2
    exact bodyPost_ret (v := .tuple #[.agg #[.int .i64 8, .int .i64 8, .int .i64 0, .bool false], .bool true]) (by simp only [results, Tryz.results54]; go_simp) rfl ⟨rfl, (Below.refl _ _).alloc (Nat.le_refl _) _⟩
  cases h2 : (op.toList == [97, 100, 100])
  rotate_left
  · have hs : kindRet (shape op.toList) = .tuple #[.agg #[.int .i64 8, .int .i64 8, .int .i64 8, .bool false], .bool true] := by
      rw [show shape op.toList = some [114, 114, 114] by simp only [shape, h0, h1, h2, Bool.false_eq_true, if_false, if_true]]; kernel_rfl
    rw [hs]
    go_enter Tryz.func54, Tryz.ntmps54
    go_wp2
    exact bodyPost_ret (v := .tuple #[.agg #[.int .i64 8, .int .i64 8, .int .i64 8, .bool false], .bool true]) (by simp only [results, Tryz.results54]; go_simp) rfl ⟨rfl, (Below.refl _ _).alloc (Nat.le_refl _) _⟩
  cases h3 : (op.toList == [115, 117, 98])
  rotate_left
  · have hs : kindRet (shape op.toList) = .tuple #[.agg #[.int .i64 8, .int .i64 8, .int .i64 8, .bool false], .bool true] := by
      rw [show shape op.toList = some [114, 114, 114] by simp only [shape, h0, h1, h2, h3, Bool.false_eq_true, if_false, if_true]]; kernel_rfl
    rw [hs]
    go_enter Tryz.func54, Tryz.ntmps54
    go_wp2
    exact bodyPost_ret (v := .tuple #[.agg #[.int .i64 8, .int .i64 8, .int .i64 8, .bool false], .bool true]) (by simp only [results, Tryz.results54]; go_simp) rfl ⟨rfl, (Below.refl _ _).alloc (Nat.le_refl _) _⟩
  cases h4 : (op.toList == [97, 110, 100])
  rotate_left
  · have hs : kindRet (shape op.toList) = .tuple #[.agg #[.int .i64 8, .int .i64 8, .int .i64 8, .bool false], .bool true] := by
      rw [show shape op.toList = some [114, 114, 114] by simp only [shape, h0, h1, h2, h3, h4, Bool.false_eq_true, if_false, if_true]]; kernel_rfl
    rw [hs]
    go_enter Tryz.func54, Tryz.ntmps54
    go_wp2
    exact bodyPost_ret (v := .tuple #[.agg #[.int .i64 8, .int .i64 8, .int .i64 8, .bool false], .bool true]) (by simp only [results, Tryz.results54]; go_simp) rfl ⟨rfl, (Below.refl _ _).alloc (Nat.le_refl _) _⟩
  cases h5 : (op.toList == [120, 111, 114])
  rotate_left
  · have hs : kindRet (shape op.toList) = .tuple #[.agg #[.int .i64 8, .int .i64 8, .int .i64 8, .bool false], .bool true] := by
      rw [show shape op.toList = some [114, 114, 114] by simp only [shape, h0, h1, h2, h3, h4, h5, Bool.false_eq_true, if_false, if_true]]; kernel_rfl
    rw [hs]
    go_enter Tryz.func54, Tryz.ntmps54
    go_wp2
    exact bodyPost_ret (v := .tuple #[.agg #[.int .i64 8, .int .i64 8, .int .i64 8, .bool false], .bool true]) (by simp only [results, Tryz.results54]; go_simp) rfl ⟨rfl, (Below.refl _ _).alloc (Nat.le_refl _) _⟩
  cases h6 : (op.toList == [108, 111, 97, 100])
  rotate_left
  · have hs : kindRet (shape op.toList) = .tuple #[.agg #[.int .i64 8, .int .i64 8, .int .i64 4, .bool false], .bool true] := by
      rw [show shape op.toList = some [114, 114, 119] by simp only [shape, h0, h1, h2, h3, h4, h5, h6, Bool.false_eq_true, if_false, if_true]]; kernel_rfl
    rw [hs]
    go_enter Tryz.func54, Tryz.ntmps54
    go_wp2
    exact bodyPost_ret (v := .tuple #[.agg #[.int .i64 8, .int .i64 8, .int .i64 4, .bool false], .bool true]) (by simp only [results, Tryz.results54]; go_simp) rfl ⟨rfl, (Below.refl _ _).alloc (Nat.le_refl _) _⟩
  cases h7 : (op.toList == [115, 116, 111, 114, 101])
  rotate_left
  · have hs : kindRet (shape op.toList) = .tuple #[.agg #[.int .i64 8, .int .i64 8, .int .i64 4, .bool false], .bool true] := by
      rw [show shape op.toList = some [114, 114, 119] by simp only [shape, h0, h1, h2, h3, h4, h5, h6, h7, Bool.false_eq_true, if_false, if_true]]; kernel_rfl
    rw [hs]
    go_enter Tryz.func54, Tryz.ntmps54
    go_wp2
    exact bodyPost_ret (v := .tuple #[.agg #[.int .i64 8, .int .i64 8, .int .i64 4, .bool false], .bool true]) (by simp only [results, Tryz.results54]; go_simp) rfl ⟨rfl, (Below.refl _ _).alloc (Nat.le_refl _) _⟩
  cases h8 : (op.toList == [115, 119, 97, 112])
  rotate_left
  · have hs : kindRet (shape op.toList) = .tuple #[.agg #[.int .i64 8, .int .i64 8, .int .i64 4, .bool false], .bool true] := by
      rw [show shape op.toList = some [114, 114, 119] by simp only [shape, h0, h1, h2, h3, h4, h5, h6, h7, h8, Bool.false_eq_true, if_false, if_true]]; kernel_rfl
    rw [hs]
    go_enter Tryz.func54, Tryz.ntmps54
    go_wp2
    exact bodyPost_ret (v := .tuple #[.agg #[.int .i64 8, .int .i64 8, .int .i64 4, .bool false], .bool true]) (by simp only [results, Tryz.results54]; go_simp) rfl ⟨rfl, (Below.refl _ _).alloc (Nat.le_refl _) _⟩
  cases h9 : (op.toList == [99, 97, 115])
  rotate_left
  · have hs : kindRet (shape op.toList) = .tuple #[.agg #[.int .i64 8, .int .i64 7, .int .i64 4, .bool false], .bool true] := by
      rw [show shape op.toList = some [114, 115, 119] by simp only [shape, h0, h1, h2, h3, h4, h5, h6, h7, h8, h9, Bool.false_eq_true, if_false, if_true]]; kernel_rfl
    rw [hs]
    go_enter Tryz.func54, Tryz.ntmps54
    go_wp2
    exact bodyPost_ret (v := .tuple #[.agg #[.int .i64 8, .int .i64 7, .int .i64 4, .bool false], .bool true]) (by simp only [results, Tryz.results54]; go_simp) rfl ⟨rfl, (Below.refl _ _).alloc (Nat.le_refl _) _⟩
  cases h10 : (op.toList == [97, 108, 108, 111, 99])
  rotate_left
  · have hs : kindRet (shape op.toList) = .tuple #[.agg #[.int .i64 8, .int .i64 0, .int .i64 0, .bool false], .bool true] := by
      rw [show shape op.toList = some [114] by simp only [shape, h0, h1, h2, h3, h4, h5, h6, h7, h8, h9, h10, Bool.false_eq_true, if_false, if_true]]; kernel_rfl
    rw [hs]
    go_enter Tryz.func54, Tryz.ntmps54
    go_wp2
    exact bodyPost_ret (v := .tuple #[.agg #[.int .i64 8, .int .i64 0, .int .i64 0, .bool false], .bool true]) (by simp only [results, Tryz.results54]; go_simp) rfl ⟨rfl, (Below.refl _ _).alloc (Nat.le_refl _) _⟩
  cases h11 : (op.toList == [102, 114, 101, 101])
  rotate_left
  · have hs : kindRet (shape op.toList) = .tuple #[.agg #[.int .i64 8, .int .i64 0, .int .i64 0, .bool false], .bool true] := by
      rw [show shape op.toList = some [114] by simp only [shape, h0, h1, h2, h3, h4, h5, h6, h7, h8, h9, h10, h11, Bool.false_eq_true, if_false, if_true]]; kernel_rfl
    rw [hs]
    go_enter Tryz.func54, Tryz.ntmps54
    go_wp2
    exact bodyPost_ret (v := .tuple #[.agg #[.int .i64 8, .int .i64 0, .int .i64 0, .bool false], .bool true]) (by simp only [results, Tryz.results54]; go_simp) rfl ⟨rfl, (Below.refl _ _).alloc (Nat.le_refl _) _⟩
  cases h12 : (op.toList == [109, 97, 114, 107])
  rotate_left
  · have hs : kindRet (shape op.toList) = .tuple #[.agg #[.int .i64 8, .int .i64 0, .int .i64 0, .bool false], .bool true] := by
      rw [show shape op.toList = some [114] by simp only [shape, h0, h1, h2, h3, h4, h5, h6, h7, h8, h9, h10, h11, h12, Bool.false_eq_true, if_false, if_true]]; kernel_rfl
    rw [hs]
    go_enter Tryz.func54, Tryz.ntmps54
    go_wp2
    exact bodyPost_ret (v := .tuple #[.agg #[.int .i64 8, .int .i64 0, .int .i64 0, .bool false], .bool true]) (by simp only [results, Tryz.results54]; go_simp) rfl ⟨rfl, (Below.refl _ _).alloc (Nat.le_refl _) _⟩
  cases h13 : (op.toList == [110, 101, 101, 100])
  rotate_left
  · have hs : kindRet (shape op.toList) = .tuple #[.agg #[.int .i64 8, .int .i64 0, .int .i64 0, .bool false], .bool true] := by
      rw [show shape op.toList = some [114] by simp only [shape, h0, h1, h2, h3, h4, h5, h6, h7, h8, h9, h10, h11, h12, h13, Bool.false_eq_true, if_false, if_true]]; kernel_rfl
    rw [hs]
    go_enter Tryz.func54, Tryz.ntmps54
    go_wp2
    exact bodyPost_ret (v := .tuple #[.agg #[.int .i64 8, .int .i64 0, .int .i64 0, .bool false], .bool true]) (by simp only [results, Tryz.results54]; go_simp) rfl ⟨rfl, (Below.refl _ _).alloc (Nat.le_refl _) _⟩
  cases h14 : (op.toList == [102, 101, 110, 99, 101])
  rotate_left
  · have hs : kindRet (shape op.toList) = .tuple #[.agg #[.int .i64 0, .int .i64 0, .int .i64 0, .bool false], .bool true] := by
      rw [show shape op.toList = some [] by simp only [shape, h0, h1, h2, h3, h4, h5, h6, h7, h8, h9, h10, h11, h12, h13, h14, Bool.false_eq_true, if_false, if_true]]; kernel_rfl
    rw [hs]
    go_enter Tryz.func54, Tryz.ntmps54
    go_wp2
    exact bodyPost_ret (v := .tuple #[.agg #[.int .i64 0, .int .i64 0, .int .i64 0, .bool false], .bool true]) (by simp only [results, Tryz.results54]; go_simp) rfl ⟨rfl, (Below.refl _ _).alloc (Nat.le_refl _) _⟩
  cases h15 : (op.toList == [102, 111, 114, 99, 101])
  rotate_left
  · have hs : kindRet (shape op.toList) = .tuple #[.agg #[.int .i64 0, .int .i64 0, .int .i64 0, .bool false], .bool true] := by
      rw [show shape op.toList = some [] by simp only [shape, h0, h1, h2, h3, h4, h5, h6, h7, h8, h9, h10, h11, h12, h13, h14, h15, Bool.false_eq_true, if_false, if_true]]; kernel_rfl
    rw [hs]
    go_enter Tryz.func54, Tryz.ntmps54
    go_wp2
    exact bodyPost_ret (v := .tuple #[.agg #[.int .i64 0, .int .i64 0, .int .i64 0, .bool false], .bool true]) (by simp only [results, Tryz.results54]; go_simp) rfl ⟨rfl, (Below.refl _ _).alloc (Nat.le_refl _) _⟩
  cases h16 : (op.toList == [115, 116, 111, 112])
  rotate_left
  · have hs : kindRet (shape op.toList) = .tuple #[.agg #[.int .i64 0, .int .i64 0, .int .i64 0, .bool false], .bool true] := by
      rw [show shape op.toList = some [] by simp only [shape, h0, h1, h2, h3, h4, h5, h6, h7, h8, h9, h10, h11, h12, h13, h14, h15, h16, Bool.false_eq_true, if_false, if_true]]; kernel_rfl
    rw [hs]
    go_enter Tryz.func54, Tryz.ntmps54
    go_wp2
    exact bodyPost_ret (v := .tuple #[.agg #[.int .i64 0, .int .i64 0, .int .i64 0, .bool false], .bool true]) (by simp only [results, Tryz.results54]; go_simp) rfl ⟨rfl, (Below.refl _ _).alloc (Nat.le_refl _) _⟩
  cases h17 : (op.toList == [122, 101, 114, 111])
  rotate_left
  · have hs : kindRet (shape op.toList) = .tuple #[.agg #[.int .i64 8, .int .i64 0, .int .i64 0, .bool true], .bool true] := by
      rw [show shape op.toList = some [114, 108] by simp only [shape, h0, h1, h2, h3, h4, h5, h6, h7, h8, h9, h10, h11, h12, h13, h14, h15, h16, h17, Bool.false_eq_true, if_false, if_true]]; kernel_rfl
    rw [hs]
    go_enter Tryz.func54, Tryz.ntmps54
    go_wp2
    exact bodyPost_ret (v := .tuple #[.agg #[.int .i64 8, .int .i64 0, .int .i64 0, .bool true], .bool true]) (by simp only [results, Tryz.results54]; go_simp) rfl ⟨rfl, (Below.refl _ _).alloc (Nat.le_refl _) _⟩
  cases h18 : (op.toList == [115, 97, 109, 101])
  rotate_left
  · have hs : kindRet (shape op.toList) = .tuple #[.agg #[.int .i64 8, .int .i64 8, .int .i64 0, .bool true], .bool true] := by
      rw [show shape op.toList = some [114, 114, 108] by simp only [shape, h0, h1, h2, h3, h4, h5, h6, h7, h8, h9, h10, h11, h12, h13, h14, h15, h16, h17, h18, Bool.false_eq_true, if_false, if_true]]; kernel_rfl
    rw [hs]
    go_enter Tryz.func54, Tryz.ntmps54
    go_wp2
    exact bodyPost_ret (v := .tuple #[.agg #[.int .i64 8, .int .i64 8, .int .i64 0, .bool true], .bool true]) (by simp only [results, Tryz.results54]; go_simp) rfl ⟨rfl, (Below.refl _ _).alloc (Nat.le_refl _) _⟩
  cases h19 : (op.toList == [103, 111, 116, 111])
  rotate_left
  · have hs : kindRet (shape op.toList) = .tuple #[.agg #[.int .i64 0, .int .i64 0, .int .i64 0, .bool true], .bool true] := by
      rw [show shape op.toList = some [108] by simp only [shape, h0, h1, h2, h3, h4, h5, h6, h7, h8, h9, h10, h11, h12, h13, h14, h15, h16, h17, h18, h19, Bool.false_eq_true, if_false, if_true]]; kernel_rfl
    rw [hs]
    go_enter Tryz.func54, Tryz.ntmps54
    go_wp2
    exact bodyPost_ret (v := .tuple #[.agg #[.int .i64 0, .int .i64 0, .int .i64 0, .bool true], .bool true]) (by simp only [results, Tryz.results54]; go_simp) rfl ⟨rfl, (Below.refl _ _).alloc (Nat.le_refl _) _⟩
  cases h20 : (op.toList == [108, 97, 98, 101, 108])
  rotate_left
  · have hs : kindRet (shape op.toList) = .tuple #[.agg #[.int .i64 0, .int .i64 0, .int .i64 0, .bool true], .bool true] := by
      rw [show shape op.toList = some [108] by simp only [shape, h0, h1, h2, h3, h4, h5, h6, h7, h8, h9, h10, h11, h12, h13, h14, h15, h16, h17, h18, h19, h20, Bool.false_eq_true, if_false, if_true]]; kernel_rfl
    rw [hs]
    go_enter Tryz.func54, Tryz.ntmps54
    go_wp2
    exact bodyPost_ret (v := .tuple #[.agg #[.int .i64 0, .int .i64 0, .int .i64 0, .bool true], .bool true]) (by simp only [results, Tryz.results54]; go_simp) rfl ⟨rfl, (Below.refl _ _).alloc (Nat.le_refl _) _⟩
  have hs : kindRet (shape op.toList) = .tuple #[.agg #[.int .i64 0, .int .i64 0, .int .i64 0, .bool false], .bool false] := by
    rw [show shape op.toList = none by simp only [shape, h0, h1, h2, h3, h4, h5, h6, h7, h8, h9, h10, h11, h12, h13, h14, h15, h16, h17, h18, h19, h20, Bool.false_eq_true, if_false]]; kernel_rfl
  rw [hs]
  go_enter Tryz.func54, Tryz.ntmps54
  go_wp2
  exact bodyPost_ret (v := .tuple #[.agg #[.int .i64 0, .int .i64 0, .int .i64 0, .bool false], .bool false]) (by simp only [results, Tryz.results54]; go_simp) rfl ⟨rfl, (Below.refl _ _).alloc (Nat.le_refl _) _⟩
end Go.Proofs.YtnnlkolhahjokaaGreatDoor

/- ProgB -/
namespace Go.Proofs.YtnnlkolhahjokaaGreatDoor
open Go.RowKit Go.Extern.Stop Go.Stop Go.Extern

theorem pnumbers_any (x : Ins) (w : World) :
    Calls Tryz.prog 78 #[.agg #[.string x.op, .int .i64 x.a, .int .i64 x.b, .int .i64 x.c, .string x.to]] w fun e w' => e = .returned (.agg #[.int .i64 x.a, .int .i64 x.b, .int .i64 x.c]) ∧ Below w.heap.size w w' := by
  go_enter Tryz.func78, Tryz.ntmps78
  go_wp2
  exact bodyPost_ret (v := .agg #[.int .i64 x.a, .int .i64 x.b, .int .i64 x.c]) (by simp only [results, Tryz.results78]; go_simp) rfl ⟨rfl, ((Below.refl _ _).alloc (Nat.le_refl _) _).alloc (by simp) _⟩

def one (l : Int) : Int := if 0 < l then 1 else 0


set_option maxRecDepth 20000 in
set_option maxHeartbeats 2000000 in
theorem fits_any (l0 l1 l2 : Int) (t : Bool) (x : Ins) (w : World) :
    Calls Tryz.prog 55 #[.agg #[.int .i64 l0, .int .i64 l1, .int .i64 l2, .bool t], .agg #[.string x.op, .int .i64 x.a, .int .i64 x.b, .int .i64 x.c, .string x.to]] w fun e w' => e = .returned (.bool (decide ((l0 = 0 → x.a = 0) ∧ (l1 = 0 → x.b = 0) ∧ (l2 = 0 → x.c = 0) ∧ (t = false → x.to.toList = [])))) ∧ Below w.heap.size w w' := by
  have HN : Hid (∀ w', Calls Tryz.prog 78 #[.agg #[.string x.op, .int .i64 x.a, .int .i64 x.b, .int .i64 x.c, .string x.to]] w' fun e w'' => e = .returned (.agg #[.int .i64 x.a, .int .i64 x.b, .int .i64 x.c]) ∧ Below w'.heap.size w' w'') := fun w' => pnumbers_any x w'
  have i0 : ∀ w, (Instr.index 134 (.agg #[.int .i64 x.a, .int .i64 x.b, .int .i64 x.c]) (.int .i64 0)).run Tryz.prog w = .ok (.int .i64 x.a) w := fun _ => by kernel_rfl
  have i1 : ∀ w, (Instr.index 134 (.agg #[.int .i64 x.a, .int .i64 x.b, .int .i64 x.c]) (.int .i64 1)).run Tryz.prog w = .ok (.int .i64 x.b) w := fun _ => by kernel_rfl
  have i2 : ∀ w, (Instr.index 134 (.agg #[.int .i64 x.a, .int .i64 x.b, .int .i64 x.c]) (.int .i64 2)).run Tryz.prog w = .ok (.int .i64 x.c) w := fun _ => by kernel_rfl
  obtain ⟨W, hW⟩ : ∃ W, W = (w.alloc (.cells #[.int .i64 l0, .int .i64 l1, .int .i64 l2, .bool t] 136)).alloc (.cells #[.string x.op, .int .i64 x.a, .int .i64 x.b, .int .i64 x.c, .string x.to] 44) := ⟨_, rfl⟩
  have hba : Below w.heap.size w W := by rw [hW]; exact ((Below.refl _ _).alloc (Nat.le_refl _) _).alloc (by simp) _
  have k0 : W.cell? ⟨w.heap.size, 0, none⟩ = some (.int .i64 l0) := by rw [hW]; simp
  have k1 : W.cell? ⟨w.heap.size, 1, none⟩ = some (.int .i64 l1) := by rw [hW]; simp
  have k2 : W.cell? ⟨w.heap.size, 2, none⟩ = some (.int .i64 l2) := by rw [hW]; simp
  have k3 : W.cell? ⟨w.heap.size, 3, none⟩ = some (.bool t) := by rw [hW]; simp
  have q4 : W.cell? ⟨w.heap.size + 1, 4, none⟩ = some (.string x.to) := by rw [hW]; simp
  cases hto : (x.to.toList == [])
  all_goals
    have HT : Hid ((x.to.toList == []) = _) := hto
    cases t
    all_goals
      go_enter Tryz.func55, Tryz.ntmps55
      go_wp2_with fail
      rw [← hW]
      refine (HN.out _).mono ?_
      rintro e w1 ⟨rfl, hb1⟩
      replace k0 := keep_cell hb1 k0
      replace k1 := keep_cell hb1 k1
      replace k2 := keep_cell hb1 k2
      replace k3 := keep_cell hb1 k3
      replace q4 := keep_cell hb1 q4
      have B1 := hide (below_step hba hb1)
      clear hW hba hb1 HN
      go_wp2_with fail
      refine wp_loop_rounds 4 ?_
      rw [rounds_succ]
      go_wp2
      all_goals try (rw [rounds_succ]; go_wp2)
      all_goals try (rw [rounds_succ]; go_wp2)
      all_goals try (rw [rounds_succ]; go_wp2)
      all_goals try go_ret
      all_goals
        refine ⟨?_, B1.out⟩
        have hto' := HT.out
        clear i0 i1 i2 k0 k1 k2 k3 q4 B1 HT
        refine congrArg (fun z => Ending.returned (.bool z)) ?_
        symm
        simp_all

set_option maxRecDepth 20000 in
set_option maxHeartbeats 4000000 in
theorem within_any (l0 l1 l2 : Int) (t : Bool) (x : Ins) (w : World) :
    Calls Tryz.prog 56 #[.agg #[.int .i64 l0, .int .i64 l1, .int .i64 l2, .bool t], .agg #[.string x.op, .int .i64 x.a, .int .i64 x.b, .int .i64 x.c, .string x.to]] w fun e w' => e = .returned (.bool (decide ((0 < l0 → 0 ≤ x.a ∧ x.a < l0) ∧ (0 < l1 → 0 ≤ x.b ∧ x.b < l1) ∧ (0 < l2 → 0 ≤ x.c ∧ x.c < l2)))) ∧ Below w.heap.size w w' := by
  have HN : Hid (∀ w', Calls Tryz.prog 78 #[.agg #[.string x.op, .int .i64 x.a, .int .i64 x.b, .int .i64 x.c, .string x.to]] w' fun e w'' => e = .returned (.agg #[.int .i64 x.a, .int .i64 x.b, .int .i64 x.c]) ∧ Below w'.heap.size w' w'') := fun w' => pnumbers_any x w'
  have i0 : ∀ w, (Instr.index 134 (.agg #[.int .i64 x.a, .int .i64 x.b, .int .i64 x.c]) (.int .i64 0)).run Tryz.prog w = .ok (.int .i64 x.a) w := fun _ => by kernel_rfl
  have i1 : ∀ w, (Instr.index 134 (.agg #[.int .i64 x.a, .int .i64 x.b, .int .i64 x.c]) (.int .i64 1)).run Tryz.prog w = .ok (.int .i64 x.b) w := fun _ => by kernel_rfl
  have i2 : ∀ w, (Instr.index 134 (.agg #[.int .i64 x.a, .int .i64 x.b, .int .i64 x.c]) (.int .i64 2)).run Tryz.prog w = .ok (.int .i64 x.c) w := fun _ => by kernel_rfl
  obtain ⟨W, hW⟩ : ∃ W, W = (w.alloc (.cells #[.int .i64 l0, .int .i64 l1, .int .i64 l2, .bool t] 136)).alloc (.cells #[.string x.op, .int .i64 x.a, .int .i64 x.b, .int .i64 x.c, .string x.to] 44) := ⟨_, rfl⟩
  have hba : Below w.heap.size w W := by rw [hW]; exact ((Below.refl _ _).alloc (Nat.le_refl _) _).alloc (by simp) _
  have k0 : W.cell? ⟨w.heap.size, 0, none⟩ = some (.int .i64 l0) := by rw [hW]; simp
  have k1 : W.cell? ⟨w.heap.size, 1, none⟩ = some (.int .i64 l1) := by rw [hW]; simp
  have k2 : W.cell? ⟨w.heap.size, 2, none⟩ = some (.int .i64 l2) := by rw [hW]; simp
  have k3 : W.cell? ⟨w.heap.size, 3, none⟩ = some (.bool t) := by rw [hW]; simp
  have q4 : W.cell? ⟨w.heap.size + 1, 4, none⟩ = some (.string x.to) := by rw [hW]; simp
  go_enter Tryz.func56, Tryz.ntmps56
  go_wp2_with fail
  rw [← hW]
  refine (HN.out _).mono ?_
  rintro e w1 ⟨rfl, hb1⟩
  replace k0 := keep_cell hb1 k0
  replace k1 := keep_cell hb1 k1
  replace k2 := keep_cell hb1 k2
  replace k3 := keep_cell hb1 k3
  replace q4 := keep_cell hb1 q4
  have B1 := hide (below_step hba hb1)
  clear hW hba hb1 HN
  go_wp2_with fail
  refine wp_loop_rounds 4 ?_
  rw [rounds_succ]
  go_wp2
  all_goals try (rw [rounds_succ]; go_wp2)
  all_goals try (rw [rounds_succ]; go_wp2)
  all_goals try (rw [rounds_succ]; go_wp2)
  all_goals try go_ret
  all_goals
    refine ⟨?_, B1.out⟩
    clear i0 i1 i2 k0 k1 k2 k3 q4 B1
    refine congrArg (fun z => Ending.returned (.bool z)) ?_
    symm
    first
      | (rw [decide_eq_true_iff]; omega)
      | (rw [decide_eq_false_iff_not]; omega)
      | (rw [Bool.eq_false_iff]; simp only [ne_eq, Bool.and_eq_true, Bool.or_eq_true, Bool.not_eq_true', decide_eq_true_eq, decide_eq_false_iff_not]; omega)

end Go.Proofs.YtnnlkolhahjokaaGreatDoor

/- ProgC -/
namespace Go.Proofs.YtnnlkolhahjokaaGreatDoor
open Go.RowKit Go.Extern.Stop Go.Stop Go.Extern

theorem isSmall_any (c : Nat) (w : World) :
    Calls Tryz.prog 79 #[.int .u8 c] w fun e w' => e = .returned (.bool (decide (97 ≤ c ∧ c ≤ 122))) ∧ w' = w := by
  have i1 : (97 : Int) ≤ c ↔ 97 ≤ c := by omega
  by_cases h1 : (97 : Int) ≤ c
  · by_cases h2 : (c : Int) ≤ 122
    · rw [decide_eq_true (show 97 ≤ c ∧ c ≤ 122 by omega)]
      go_enter Tryz.func79, Tryz.ntmps79
      go_wp2
      go_ret
      exact ⟨rfl, rfl⟩
    · rw [decide_eq_false (show ¬ (97 ≤ c ∧ c ≤ 122) by omega)]
      go_enter Tryz.func79, Tryz.ntmps79
      go_wp2
      go_ret
      exact ⟨rfl, rfl⟩
  · rw [decide_eq_false (show ¬ (97 ≤ c ∧ c ≤ 122) by omega)]
    go_enter Tryz.func79, Tryz.ntmps79
    go_wp2
    go_ret
    exact ⟨rfl, rfl⟩

open Classical in
set_option maxRecDepth 20000 in
theorem pisName_any (s : ByteArray) (w : World) :
    Calls Tryz.prog 57 #[.string s] w fun e w' => e = .returned (.bool (decide (isName s))) ∧ Below w.heap.size w w' := by
  by_cases h0 : s.size = 0
  · have HZ : decide (isName s) = false := decide_eq_false (fun h => by have := h.1; omega)
    have hb : (s.toList == []) = true := by rw [beq_iff_eq, toList_bl, ← List.length_eq_zero_iff, ← size_bl]; exact h0
    rw [HZ]
    go_enter Tryz.func57, Tryz.ntmps57
    go_wp2_with fail
    go_ret
    exact ⟨rfl, Below.refl _ _⟩
  have hb : (s.toList == []) = false := by rw [beq_eq_false_iff_ne, toList_bl]; intro e; apply h0; rw [size_bl, e]; rfl
  have hs0 : 0 < s.size := by omega
  by_cases h12 : 12 < s.size
  · have HZ : decide (isName s) = false := decide_eq_false (fun h => by have := h.2.1; omega)
    have i12 : 12 < (s.size : Int) := by omega
    rw [HZ]
    go_enter Tryz.func57, Tryz.ntmps57
    go_wp2_with fail
    go_ret
    exact ⟨rfl, Below.refl _ _⟩
  have i12 : ¬ 12 < (s.size : Int) := by omega
  have HS : Hid (∀ w', Calls Tryz.prog 79 #[.int .u8 (s[0]'hs0).toNat] w' fun e w'' => e = .returned (.bool (decide (97 ≤ (s[0]'hs0).toNat ∧ (s[0]'hs0).toNat ≤ 122))) ∧ w'' = w') := fun w' => isSmall_any _ w'
  by_cases hc : 97 ≤ (s[0]'hs0).toNat ∧ (s[0]'hs0).toNat ≤ 122
  rotate_left
  · have HZ : decide (isName s) = false := decide_eq_false (fun h => by
      have := h.2.2 0 hs0
      unfold nameOk at this
      have := of_decide_eq_true this
      omega)
    rw [HZ]
    rw [decide_eq_false hc] at HS
    clear hc
    go_enter Tryz.func57, Tryz.ntmps57
    go_wp2_with fail
    refine (HS.out _).mono ?_
    rintro e w1 ⟨rfl, rfl⟩
    go_wp2_with fail
    go_ret
    exact ⟨rfl, Below.refl _ _⟩
  have hc' := hide hc
  rw [decide_eq_true hc] at HS
  clear hc
  have hcv : ∀ w', (convert 9 163 (.string s)).run Tryz.prog w' = .ok (.slice (some ⟨w'.heap.size, 0, none⟩) s.size (grownCap w' s.size 0 5)) (Lib.bytesWorld w' 5 s) := fun w' => Lib.run_convert_string_bytes w' 9 163 5 s Tryz.underlying9 Tryz.underlying163 Tryz.underlying5
  have HD : Hid (∀ f : Bool, (f = true ↔ ∀ j, j < s.size → nameOk j (byteAt s j) = true) → decide (isName s) = f) := fun f hf => by
    cases f with
    | true => exact decide_eq_true ⟨by omega, by omega, fun j h => by have := hf.1 rfl j h; rwa [byteAt_lt h] at this⟩
    | false => exact decide_eq_false (fun h => by have := hf.2 (fun j hj => by rw [byteAt_lt hj]; exact h.2.2 j hj); cases this)
  generalize decide (isName s) = F at *
  go_enter Tryz.func57, Tryz.ntmps57
  go_wp2_with fail
  refine (HS.out _).mono ?_
  rintro e w1 ⟨rfl, rfl⟩
  obtain ⟨W, hW⟩ : ∃ W, W = Lib.bytesWorld w1 5 s := ⟨_, rfl⟩
  have hcell : Hid (∀ j, j < s.size → W.cell? ⟨w1.heap.size, j, none⟩ = some (.int .u8 (byteAt s j))) := fun j hj => by
    rw [hW, Lib.bytesWorld_cell _ _ _ _ hj]
    obtain ⟨h', e⟩ := byteAt_bl s j hj
    rw [e, List.getD_eq_getElem?_getD, List.getElem?_eq_getElem h']; rfl
  have HB : Hid (Below w1.heap.size w1 W) := by rw [hW]; exact Lib.bytesWorld_below _ _ _
  go_wp2_with fail
  rw [← hW]
  clear hW hcv HS
  go_loopw [4, 21] (fun _ i wr => wr = W ∧ ∃ j : Nat, j ≤ s.size ∧ i = .int .i64 j ∧ Hid (∀ k, k < j → nameOk k (byteAt s k) = true)) (fun _ i _ => s.size - (intOf i).toNat)
  case atStart => exact ⟨rfl, 0, Nat.zero_le _, rfl, fun k h => absurd h (Nat.not_lt_zero _)⟩
  case round =>
    obtain ⟨rfl, j, hj, rfl, HJ⟩ := hrel
    by_cases hlt : j < s.size
    · have hcj := hcell.out j hlt
      have ji : (j : Int) < s.size := by omega
      have HY : Hid (nameOk j (byteAt s j) = true → ∀ k, k < j + 1 → nameOk k (byteAt s k) = true) := fun hy k hk => by
        by_cases e : k = j
        · subst e; exact hy
        · exact HJ.out k (by omega)
      have HX : Hid (nameOk j (byteAt s j) = false → F = false) := fun hx => HD.out false ⟨(fun h => Bool.noConfusion h), (fun h => by rw [h j hlt] at hx; cases hx)⟩
      have H0 : Hid (j = 0 → 97 ≤ byteAt s j ∧ byteAt s j ≤ 122) := fun h => by subst h; rw [byteAt_lt hs0]; exact hc'.out
      generalize byteAt s j = c at *
      have HC : Hid (∀ w', Calls Tryz.prog 79 #[.int .u8 c] w' fun e w'' => e = .returned (.bool (decide (97 ≤ c ∧ c ≤ 122))) ∧ w'' = w') := fun w' => isSmall_any c w'
      have hor : (97 ≤ c ∧ c ≤ 122) ∨ (¬ (97 ≤ c ∧ c ≤ 122) ∧ 48 ≤ c ∧ c ≤ 57) ∨ (¬ (97 ≤ c ∧ c ≤ 122) ∧ c < 48 ∧ c = 46) ∨ (¬ (97 ≤ c ∧ c ≤ 122) ∧ c < 48 ∧ c ≠ 46) ∨ (¬ (97 ≤ c ∧ c ≤ 122) ∧ ¬ c < 48 ∧ 57 < c) := by omega
      rcases hor with q1 | ⟨q1, q2, q3⟩ | ⟨q1, q2, q3⟩ | ⟨q1, q2, q3⟩ | ⟨q1, q2, q3⟩
      · have HZ := hide (HY.out (decide_eq_true (by omega)))
        rw [decide_eq_true q1] at HC
        clear HX HY H0 q1 HJ
        go_wp2_with fail
        refine (HC.out _).mono ?_
        rintro e w1 ⟨rfl, rfl⟩
        go_wp2_with fail
        go_roundw
        case rel => exact ⟨trivial, j + 1, by omega, by go_num, HZ⟩
        case measure => simp [intOf]; omega
      · have HZ := hide (HY.out (decide_eq_true (by have := H0.out; omega)))
        rw [decide_eq_false q1] at HC
        have z1 : ¬ (c : Int) < 48 := by omega
        have z2 : ¬ 57 < (c : Int) := by omega
        clear HX HY H0 q1 q2 q3 HJ
        go_wp2_with fail
        refine (HC.out _).mono ?_
        rintro e w1 ⟨rfl, rfl⟩
        go_wp2_with fail
        go_roundw
        case rel => exact ⟨trivial, j + 1, by omega, by go_num, HZ⟩
        case measure => simp [intOf]; omega
      · have HZ := hide (HY.out (decide_eq_true (by have := H0.out; omega)))
        rw [decide_eq_false q1] at HC
        have z1 : (c : Int) < 48 := by omega
        have z2 : ((c : Int) != 46) = false := by rw [bne_eq_false_iff_eq]; omega
        clear HX HY H0 q1 q2 q3 HJ
        go_wp2_with fail
        refine (HC.out _).mono ?_
        rintro e w1 ⟨rfl, rfl⟩
        go_wp2_with fail
        go_roundw
        case rel => exact ⟨trivial, j + 1, by omega, by go_num, HZ⟩
        case measure => simp [intOf]; omega
      · have HZ := hide (HX.out (decide_eq_false (by omega)))
        rw [decide_eq_false q1] at HC
        have z1 : (c : Int) < 48 := by omega
        have z2 : ((c : Int) != 46) = true := by rw [bne_iff_ne]; omega
        clear HX HY H0 q1 q2 q3 HJ
        go_wp2_with fail
        refine (HC.out _).mono ?_
        rintro e w1 ⟨rfl, rfl⟩
        go_wp2_with fail
        go_ret
        exact ⟨by rw [HZ.out]; rfl, HB.out⟩
      · have HZ := hide (HX.out (decide_eq_false (by omega)))
        rw [decide_eq_false q1] at HC
        have z1 : ¬ (c : Int) < 48 := by omega
        have z2 : 57 < (c : Int) := by omega
        have z3 : ((c : Int) != 46) = true := by rw [bne_iff_ne]; omega
        clear HX HY H0 q1 q2 q3 HJ
        go_wp2_with fail
        refine (HC.out _).mono ?_
        rintro e w1 ⟨rfl, rfl⟩
        go_wp2_with fail
        go_ret
        exact ⟨by rw [HZ.out]; rfl, HB.out⟩
    · have HZ : Hid (F = true) := HD.out true ⟨fun _ k hk => HJ.out k (by omega), fun _ => rfl⟩
      obtain rfl : j = s.size := by omega
      clear HJ HD
      go_wp2_with fail
      go_ret
      exact ⟨by rw [HZ.out]; rfl, HB.out⟩
end Go.Proofs.YtnnlkolhahjokaaGreatDoor
