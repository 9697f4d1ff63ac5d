/- Package code's kindOf by a contract: of each instruction's name, what its numbers are. -/
import Derived.Test.YtcajklfngeafdaaDoorProg
import Derived.Test.YtcajklfngeafdaaDoorPureD
import Derived.WalkKit
import Derived.Test.YtcajklfngeafdaaDoorFrame
import Derived.Deep.QuietTactic
namespace Go.Proofs.YtcajklfngeafdaaDoor
open Go.RowKit Go.Extern.Stop Go.Stop Go.Extern

/-- The k-th limit of a shape. -/
def limOf (S : List UInt8) (k : Nat) : Int := if k < nums S then mostOf (byteAt ⟨S.toArray⟩ k) else 0
/-- A kind, as a value. -/
def kindV (S : List UInt8) : Value := .agg #[.int .i64 (limOf S 0), .int .i64 (limOf S 1), .int .i64 (limOf S 2), .bool (hasTo S)]
/-- What kindOf answers. -/
def kindRet : Option (List UInt8) → Value
  | some S => .tuple #[kindV S, .bool true]
  | none => .tuple #[kindV [], .bool false]

set_option maxRecDepth 20000 in
set_option maxHeartbeats 4000000 in
theorem kindOf_any (op : ByteArray) (w : World) :
    Calls Tryd.prog 18 #[.string op] w fun e w' => e = .returned (kindRet (shape op.toList)) ∧ Below w.heap.size w w' := by
  cases h0 : (op.toList == [99, 111, 110, 115, 116])
  rotate_left
  · have hs : kindRet (shape op.toList) = .tuple #[.agg #[.int .i64 8, .int .i64 4294967296, .int .i64 0, .bool false], .bool true] := by
      rw [show shape op.toList = some [114, 118] by simp only [shape, h0, if_true]]; kernel_rfl
    rw [hs]
    go_enter Tryd.func18, Tryd.ntmps18
    go_wp2
    exact bodyPost_ret (v := .tuple #[.agg #[.int .i64 8, .int .i64 4294967296, .int .i64 0, .bool false], .bool true]) (by simp only [results, Tryd.results18]; go_simp) rfl ⟨rfl, (Below.refl _ _).alloc (Nat.le_refl _) _⟩
  cases h1 : (op.toList == [109, 111, 118, 101])
  rotate_left
  · have hs : kindRet (shape op.toList) = .tuple #[.agg #[.int .i64 8, .int .i64 8, .int .i64 0, .bool false], .bool true] := by
      rw [show shape op.toList = some [114, 114] by simp only [shape, h0, h1, Bool.false_eq_true, if_false, if_true]]; kernel_rfl
    rw [hs]
    go_enter Tryd.func18, Tryd.ntmps18
    go_wp2
    exact bodyPost_ret (v := .tuple #[.agg #[.int .i64 8, .int .i64 8, .int .i64 0, .bool false], .bool true]) (by simp only [results, Tryd.results18]; go_simp) rfl ⟨rfl, (Below.refl _ _).alloc (Nat.le_refl _) _⟩
  cases h2 : (op.toList == [97, 100, 100])
  rotate_left
  · have hs : kindRet (shape op.toList) = .tuple #[.agg #[.int .i64 8, .int .i64 8, .int .i64 8, .bool false], .bool true] := by
      rw [show shape op.toList = some [114, 114, 114] by simp only [shape, h0, h1, h2, Bool.false_eq_true, if_false, if_true]]; kernel_rfl
    rw [hs]
    go_enter Tryd.func18, Tryd.ntmps18
    go_wp2
    exact bodyPost_ret (v := .tuple #[.agg #[.int .i64 8, .int .i64 8, .int .i64 8, .bool false], .bool true]) (by simp only [results, Tryd.results18]; go_simp) rfl ⟨rfl, (Below.refl _ _).alloc (Nat.le_refl _) _⟩
  cases h3 : (op.toList == [115, 117, 98])
  rotate_left
  · have hs : kindRet (shape op.toList) = .tuple #[.agg #[.int .i64 8, .int .i64 8, .int .i64 8, .bool false], .bool true] := by
      rw [show shape op.toList = some [114, 114, 114] by simp only [shape, h0, h1, h2, h3, Bool.false_eq_true, if_false, if_true]]; kernel_rfl
    rw [hs]
    go_enter Tryd.func18, Tryd.ntmps18
    go_wp2
    exact bodyPost_ret (v := .tuple #[.agg #[.int .i64 8, .int .i64 8, .int .i64 8, .bool false], .bool true]) (by simp only [results, Tryd.results18]; go_simp) rfl ⟨rfl, (Below.refl _ _).alloc (Nat.le_refl _) _⟩
  cases h4 : (op.toList == [97, 110, 100])
  rotate_left
  · have hs : kindRet (shape op.toList) = .tuple #[.agg #[.int .i64 8, .int .i64 8, .int .i64 8, .bool false], .bool true] := by
      rw [show shape op.toList = some [114, 114, 114] by simp only [shape, h0, h1, h2, h3, h4, Bool.false_eq_true, if_false, if_true]]; kernel_rfl
    rw [hs]
    go_enter Tryd.func18, Tryd.ntmps18
    go_wp2
    exact bodyPost_ret (v := .tuple #[.agg #[.int .i64 8, .int .i64 8, .int .i64 8, .bool false], .bool true]) (by simp only [results, Tryd.results18]; go_simp) rfl ⟨rfl, (Below.refl _ _).alloc (Nat.le_refl _) _⟩
  cases h5 : (op.toList == [120, 111, 114])
  rotate_left
  · have hs : kindRet (shape op.toList) = .tuple #[.agg #[.int .i64 8, .int .i64 8, .int .i64 8, .bool false], .bool true] := by
      rw [show shape op.toList = some [114, 114, 114] by simp only [shape, h0, h1, h2, h3, h4, h5, Bool.false_eq_true, if_false, if_true]]; kernel_rfl
    rw [hs]
    go_enter Tryd.func18, Tryd.ntmps18
    go_wp2
    exact bodyPost_ret (v := .tuple #[.agg #[.int .i64 8, .int .i64 8, .int .i64 8, .bool false], .bool true]) (by simp only [results, Tryd.results18]; go_simp) rfl ⟨rfl, (Below.refl _ _).alloc (Nat.le_refl _) _⟩
  cases h6 : (op.toList == [108, 111, 97, 100])
  rotate_left
  · have hs : kindRet (shape op.toList) = .tuple #[.agg #[.int .i64 8, .int .i64 8, .int .i64 4, .bool false], .bool true] := by
      rw [show shape op.toList = some [114, 114, 119] by simp only [shape, h0, h1, h2, h3, h4, h5, h6, Bool.false_eq_true, if_false, if_true]]; kernel_rfl
    rw [hs]
    go_enter Tryd.func18, Tryd.ntmps18
    go_wp2
    exact bodyPost_ret (v := .tuple #[.agg #[.int .i64 8, .int .i64 8, .int .i64 4, .bool false], .bool true]) (by simp only [results, Tryd.results18]; go_simp) rfl ⟨rfl, (Below.refl _ _).alloc (Nat.le_refl _) _⟩
  cases h7 : (op.toList == [115, 116, 111, 114, 101])
  rotate_left
  · have hs : kindRet (shape op.toList) = .tuple #[.agg #[.int .i64 8, .int .i64 8, .int .i64 4, .bool false], .bool true] := by
      rw [show shape op.toList = some [114, 114, 119] by simp only [shape, h0, h1, h2, h3, h4, h5, h6, h7, Bool.false_eq_true, if_false, if_true]]; kernel_rfl
    rw [hs]
    go_enter Tryd.func18, Tryd.ntmps18
    go_wp2
    exact bodyPost_ret (v := .tuple #[.agg #[.int .i64 8, .int .i64 8, .int .i64 4, .bool false], .bool true]) (by simp only [results, Tryd.results18]; go_simp) rfl ⟨rfl, (Below.refl _ _).alloc (Nat.le_refl _) _⟩
  cases h8 : (op.toList == [115, 119, 97, 112])
  rotate_left
  · have hs : kindRet (shape op.toList) = .tuple #[.agg #[.int .i64 8, .int .i64 8, .int .i64 4, .bool false], .bool true] := by
      rw [show shape op.toList = some [114, 114, 119] by simp only [shape, h0, h1, h2, h3, h4, h5, h6, h7, h8, Bool.false_eq_true, if_false, if_true]]; kernel_rfl
    rw [hs]
    go_enter Tryd.func18, Tryd.ntmps18
    go_wp2
    exact bodyPost_ret (v := .tuple #[.agg #[.int .i64 8, .int .i64 8, .int .i64 4, .bool false], .bool true]) (by simp only [results, Tryd.results18]; go_simp) rfl ⟨rfl, (Below.refl _ _).alloc (Nat.le_refl _) _⟩
  cases h9 : (op.toList == [99, 97, 115])
  rotate_left
  · have hs : kindRet (shape op.toList) = .tuple #[.agg #[.int .i64 8, .int .i64 7, .int .i64 4, .bool false], .bool true] := by
      rw [show shape op.toList = some [114, 115, 119] by simp only [shape, h0, h1, h2, h3, h4, h5, h6, h7, h8, h9, Bool.false_eq_true, if_false, if_true]]; kernel_rfl
    rw [hs]
    go_enter Tryd.func18, Tryd.ntmps18
    go_wp2
    exact bodyPost_ret (v := .tuple #[.agg #[.int .i64 8, .int .i64 7, .int .i64 4, .bool false], .bool true]) (by simp only [results, Tryd.results18]; go_simp) rfl ⟨rfl, (Below.refl _ _).alloc (Nat.le_refl _) _⟩
  cases h10 : (op.toList == [97, 108, 108, 111, 99])
  rotate_left
  · have hs : kindRet (shape op.toList) = .tuple #[.agg #[.int .i64 8, .int .i64 0, .int .i64 0, .bool false], .bool true] := by
      rw [show shape op.toList = some [114] by simp only [shape, h0, h1, h2, h3, h4, h5, h6, h7, h8, h9, h10, Bool.false_eq_true, if_false, if_true]]; kernel_rfl
    rw [hs]
    go_enter Tryd.func18, Tryd.ntmps18
    go_wp2
    exact bodyPost_ret (v := .tuple #[.agg #[.int .i64 8, .int .i64 0, .int .i64 0, .bool false], .bool true]) (by simp only [results, Tryd.results18]; go_simp) rfl ⟨rfl, (Below.refl _ _).alloc (Nat.le_refl _) _⟩
  cases h11 : (op.toList == [102, 114, 101, 101])
  rotate_left
  · have hs : kindRet (shape op.toList) = .tuple #[.agg #[.int .i64 8, .int .i64 0, .int .i64 0, .bool false], .bool true] := by
      rw [show shape op.toList = some [114] by simp only [shape, h0, h1, h2, h3, h4, h5, h6, h7, h8, h9, h10, h11, Bool.false_eq_true, if_false, if_true]]; kernel_rfl
    rw [hs]
    go_enter Tryd.func18, Tryd.ntmps18
    go_wp2
    exact bodyPost_ret (v := .tuple #[.agg #[.int .i64 8, .int .i64 0, .int .i64 0, .bool false], .bool true]) (by simp only [results, Tryd.results18]; go_simp) rfl ⟨rfl, (Below.refl _ _).alloc (Nat.le_refl _) _⟩
  cases h12 : (op.toList == [109, 97, 114, 107])
  rotate_left
  · have hs : kindRet (shape op.toList) = .tuple #[.agg #[.int .i64 8, .int .i64 0, .int .i64 0, .bool false], .bool true] := by
      rw [show shape op.toList = some [114] by simp only [shape, h0, h1, h2, h3, h4, h5, h6, h7, h8, h9, h10, h11, h12, Bool.false_eq_true, if_false, if_true]]; kernel_rfl
    rw [hs]
    go_enter Tryd.func18, Tryd.ntmps18
    go_wp2
    exact bodyPost_ret (v := .tuple #[.agg #[.int .i64 8, .int .i64 0, .int .i64 0, .bool false], .bool true]) (by simp only [results, Tryd.results18]; go_simp) rfl ⟨rfl, (Below.refl _ _).alloc (Nat.le_refl _) _⟩
  cases h13 : (op.toList == [110, 101, 101, 100])
  rotate_left
  · have hs : kindRet (shape op.toList) = .tuple #[.agg #[.int .i64 8, .int .i64 0, .int .i64 0, .bool false], .bool true] := by
      rw [show shape op.toList = some [114] by simp only [shape, h0, h1, h2, h3, h4, h5, h6, h7, h8, h9, h10, h11, h12, h13, Bool.false_eq_true, if_false, if_true]]; kernel_rfl
    rw [hs]
    go_enter Tryd.func18, Tryd.ntmps18
    go_wp2
    exact bodyPost_ret (v := .tuple #[.agg #[.int .i64 8, .int .i64 0, .int .i64 0, .bool false], .bool true]) (by simp only [results, Tryd.results18]; go_simp) rfl ⟨rfl, (Below.refl _ _).alloc (Nat.le_refl _) _⟩
  cases h14 : (op.toList == [102, 101, 110, 99, 101])
  rotate_left
  · have hs : kindRet (shape op.toList) = .tuple #[.agg #[.int .i64 0, .int .i64 0, .int .i64 0, .bool false], .bool true] := by
      rw [show shape op.toList = some [] by simp only [shape, h0, h1, h2, h3, h4, h5, h6, h7, h8, h9, h10, h11, h12, h13, h14, Bool.false_eq_true, if_false, if_true]]; kernel_rfl
    rw [hs]
    go_enter Tryd.func18, Tryd.ntmps18
    go_wp2
    exact bodyPost_ret (v := .tuple #[.agg #[.int .i64 0, .int .i64 0, .int .i64 0, .bool false], .bool true]) (by simp only [results, Tryd.results18]; go_simp) rfl ⟨rfl, (Below.refl _ _).alloc (Nat.le_refl _) _⟩
  cases h15 : (op.toList == [102, 111, 114, 99, 101])
  rotate_left
  · have hs : kindRet (shape op.toList) = .tuple #[.agg #[.int .i64 0, .int .i64 0, .int .i64 0, .bool false], .bool true] := by
      rw [show shape op.toList = some [] by simp only [shape, h0, h1, h2, h3, h4, h5, h6, h7, h8, h9, h10, h11, h12, h13, h14, h15, Bool.false_eq_true, if_false, if_true]]; kernel_rfl
    rw [hs]
    go_enter Tryd.func18, Tryd.ntmps18
    go_wp2
    exact bodyPost_ret (v := .tuple #[.agg #[.int .i64 0, .int .i64 0, .int .i64 0, .bool false], .bool true]) (by simp only [results, Tryd.results18]; go_simp) rfl ⟨rfl, (Below.refl _ _).alloc (Nat.le_refl _) _⟩
  cases h16 : (op.toList == [115, 116, 111, 112])
  rotate_left
  · have hs : kindRet (shape op.toList) = .tuple #[.agg #[.int .i64 0, .int .i64 0, .int .i64 0, .bool false], .bool true] := by
      rw [show shape op.toList = some [] by simp only [shape, h0, h1, h2, h3, h4, h5, h6, h7, h8, h9, h10, h11, h12, h13, h14, h15, h16, Bool.false_eq_true, if_false, if_true]]; kernel_rfl
    rw [hs]
    go_enter Tryd.func18, Tryd.ntmps18
    go_wp2
    exact bodyPost_ret (v := .tuple #[.agg #[.int .i64 0, .int .i64 0, .int .i64 0, .bool false], .bool true]) (by simp only [results, Tryd.results18]; go_simp) rfl ⟨rfl, (Below.refl _ _).alloc (Nat.le_refl _) _⟩
  cases h17 : (op.toList == [122, 101, 114, 111])
  rotate_left
  · have hs : kindRet (shape op.toList) = .tuple #[.agg #[.int .i64 8, .int .i64 0, .int .i64 0, .bool true], .bool true] := by
      rw [show shape op.toList = some [114, 108] by simp only [shape, h0, h1, h2, h3, h4, h5, h6, h7, h8, h9, h10, h11, h12, h13, h14, h15, h16, h17, Bool.false_eq_true, if_false, if_true]]; kernel_rfl
    rw [hs]
    go_enter Tryd.func18, Tryd.ntmps18
    go_wp2
    exact bodyPost_ret (v := .tuple #[.agg #[.int .i64 8, .int .i64 0, .int .i64 0, .bool true], .bool true]) (by simp only [results, Tryd.results18]; go_simp) rfl ⟨rfl, (Below.refl _ _).alloc (Nat.le_refl _) _⟩
  cases h18 : (op.toList == [115, 97, 109, 101])
  rotate_left
  · have hs : kindRet (shape op.toList) = .tuple #[.agg #[.int .i64 8, .int .i64 8, .int .i64 0, .bool true], .bool true] := by
      rw [show shape op.toList = some [114, 114, 108] by simp only [shape, h0, h1, h2, h3, h4, h5, h6, h7, h8, h9, h10, h11, h12, h13, h14, h15, h16, h17, h18, Bool.false_eq_true, if_false, if_true]]; kernel_rfl
    rw [hs]
    go_enter Tryd.func18, Tryd.ntmps18
    go_wp2
    exact bodyPost_ret (v := .tuple #[.agg #[.int .i64 8, .int .i64 8, .int .i64 0, .bool true], .bool true]) (by simp only [results, Tryd.results18]; go_simp) rfl ⟨rfl, (Below.refl _ _).alloc (Nat.le_refl _) _⟩
  cases h19 : (op.toList == [103, 111, 116, 111])
  rotate_left
  · have hs : kindRet (shape op.toList) = .tuple #[.agg #[.int .i64 0, .int .i64 0, .int .i64 0, .bool true], .bool true] := by
      rw [show shape op.toList = some [108] by simp only [shape, h0, h1, h2, h3, h4, h5, h6, h7, h8, h9, h10, h11, h12, h13, h14, h15, h16, h17, h18, h19, Bool.false_eq_true, if_false, if_true]]; kernel_rfl
    rw [hs]
    go_enter Tryd.func18, Tryd.ntmps18
    go_wp2
    exact bodyPost_ret (v := .tuple #[.agg #[.int .i64 0, .int .i64 0, .int .i64 0, .bool true], .bool true]) (by simp only [results, Tryd.results18]; go_simp) rfl ⟨rfl, (Below.refl _ _).alloc (Nat.le_refl _) _⟩
  cases h20 : (op.toList == [108, 97, 98, 101, 108])
  rotate_left
  · have hs : kindRet (shape op.toList) = .tuple #[.agg #[.int .i64 0, .int .i64 0, .int .i64 0, .bool true], .bool true] := by
      rw [show shape op.toList = some [108] by simp only [shape, h0, h1, h2, h3, h4, h5, h6, h7, h8, h9, h10, h11, h12, h13, h14, h15, h16, h17, h18, h19, h20, Bool.false_eq_true, if_false, if_true]]; kernel_rfl
    rw [hs]
    go_enter Tryd.func18, Tryd.ntmps18
    go_wp2
    exact bodyPost_ret (v := .tuple #[.agg #[.int .i64 0, .int .i64 0, .int .i64 0, .bool true], .bool true]) (by simp only [results, Tryd.results18]; go_simp) rfl ⟨rfl, (Below.refl _ _).alloc (Nat.le_refl _) _⟩
  have hs : kindRet (shape op.toList) = .tuple #[.agg #[.int .i64 0, .int .i64 0, .int .i64 0, .bool false], .bool false] := by
    rw [show shape op.toList = none by simp only [shape, h0, h1, h2, h3, h4, h5, h6, h7, h8, h9, h10, h11, h12, h13, h14, h15, h16, h17, h18, h19, h20, Bool.false_eq_true, if_false]]; kernel_rfl
  rw [hs]
  go_enter Tryd.func18, Tryd.ntmps18
  go_wp2
  exact bodyPost_ret (v := .tuple #[.agg #[.int .i64 0, .int .i64 0, .int .i64 0, .bool false], .bool false]) (by simp only [results, Tryd.results18]; go_simp) rfl ⟨rfl, (Below.refl _ _).alloc (Nat.le_refl _) _⟩
end Go.Proofs.YtcajklfngeafdaaDoor
