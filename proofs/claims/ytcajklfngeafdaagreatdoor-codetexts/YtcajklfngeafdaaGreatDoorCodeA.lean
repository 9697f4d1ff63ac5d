/- quiescentref1.Shape by a contract: of each instruction's name, what its numbers are. -/
import Derived.Test.YtcajklfngeafdaaGreatDoorProg
import Derived.Test.YtcajklfngeafdaaGreatDoorPureS
import Derived.WalkKit
import Derived.Test.YtcajklfngeafdaaGreatDoorFrame
import Derived.Deep.QuietTactic
namespace Go.Proofs.YtcajklfngeafdaaGreatDoor
open Go.RowKit Go.Extern.Stop Go.Stop Go.Extern
set_option maxRecDepth 20000 in
set_option maxHeartbeats 4000000 in
theorem shape_any (op : ByteArray) (w : World) :
    Calls Tryz.prog 26 #[.string op] w fun e w' => e = .returned (shapeV (shape op.toList)) ∧ w' = w := by
  cases h0 : (op.toList == [99, 111, 110, 115, 116])
  rotate_left
  · have hs : shape op.toList = some [114, 118] := by simp only [shape, h0, if_true]
    rw [hs]
    go_enter Tryz.func26, Tryz.ntmps26
    go_wp2
    go_ret2
    exact ⟨rfl, rfl⟩
  cases h1 : (op.toList == [109, 111, 118, 101])
  rotate_left
  · have hs : shape op.toList = some [114, 114] := by simp only [shape, h0, h1, Bool.false_eq_true, if_false, if_true]
    rw [hs]
    go_enter Tryz.func26, Tryz.ntmps26
    go_wp2
    go_ret2
    exact ⟨rfl, rfl⟩
  cases h2 : (op.toList == [97, 100, 100])
  rotate_left
  · have hs : shape op.toList = some [114, 114, 114] := by simp only [shape, h0, h1, h2, Bool.false_eq_true, if_false, if_true]
    rw [hs]
    go_enter Tryz.func26, Tryz.ntmps26
    go_wp2
    go_ret2
    exact ⟨rfl, rfl⟩
  cases h3 : (op.toList == [115, 117, 98])
  rotate_left
  · have hs : shape op.toList = some [114, 114, 114] := by simp only [shape, h0, h1, h2, h3, Bool.false_eq_true, if_false, if_true]
    rw [hs]
    go_enter Tryz.func26, Tryz.ntmps26
    go_wp2
    go_ret2
    exact ⟨rfl, rfl⟩
  cases h4 : (op.toList == [97, 110, 100])
  rotate_left
  · have hs : shape op.toList = some [114, 114, 114] := by simp only [shape, h0, h1, h2, h3, h4, Bool.false_eq_true, if_false, if_true]
    rw [hs]
    go_enter Tryz.func26, Tryz.ntmps26
    go_wp2
    go_ret2
    exact ⟨rfl, rfl⟩
  cases h5 : (op.toList == [120, 111, 114])
  rotate_left
  · have hs : shape op.toList = some [114, 114, 114] := by simp only [shape, h0, h1, h2, h3, h4, h5, Bool.false_eq_true, if_false, if_true]
    rw [hs]
    go_enter Tryz.func26, Tryz.ntmps26
    go_wp2
    go_ret2
    exact ⟨rfl, rfl⟩
  cases h6 : (op.toList == [108, 111, 97, 100])
  rotate_left
  · have hs : shape op.toList = some [114, 114, 119] := by simp only [shape, h0, h1, h2, h3, h4, h5, h6, Bool.false_eq_true, if_false, if_true]
    rw [hs]
    go_enter Tryz.func26, Tryz.ntmps26
    go_wp2
    go_ret2
    exact ⟨rfl, rfl⟩
  cases h7 : (op.toList == [115, 116, 111, 114, 101])
  rotate_left
  · have hs : shape op.toList = some [114, 114, 119] := by simp only [shape, h0, h1, h2, h3, h4, h5, h6, h7, Bool.false_eq_true, if_false, if_true]
    rw [hs]
    go_enter Tryz.func26, Tryz.ntmps26
    go_wp2
    go_ret2
    exact ⟨rfl, rfl⟩
  cases h8 : (op.toList == [115, 119, 97, 112])
  rotate_left
  · have hs : shape op.toList = some [114, 114, 119] := by simp only [shape, h0, h1, h2, h3, h4, h5, h6, h7, h8, Bool.false_eq_true, if_false, if_true]
    rw [hs]
    go_enter Tryz.func26, Tryz.ntmps26
    go_wp2
    go_ret2
    exact ⟨rfl, rfl⟩
  cases h9 : (op.toList == [99, 97, 115])
  rotate_left
  · have hs : shape op.toList = some [114, 115, 119] := by simp only [shape, h0, h1, h2, h3, h4, h5, h6, h7, h8, h9, Bool.false_eq_true, if_false, if_true]
    rw [hs]
    go_enter Tryz.func26, Tryz.ntmps26
    go_wp2
    go_ret2
    exact ⟨rfl, rfl⟩
  cases h10 : (op.toList == [97, 108, 108, 111, 99])
  rotate_left
  · have hs : shape op.toList = some [114] := by simp only [shape, h0, h1, h2, h3, h4, h5, h6, h7, h8, h9, h10, Bool.false_eq_true, if_false, if_true]
    rw [hs]
    go_enter Tryz.func26, Tryz.ntmps26
    go_wp2
    go_ret2
    exact ⟨rfl, rfl⟩
  cases h11 : (op.toList == [102, 114, 101, 101])
  rotate_left
  · have hs : shape op.toList = some [114] := by simp only [shape, h0, h1, h2, h3, h4, h5, h6, h7, h8, h9, h10, h11, Bool.false_eq_true, if_false, if_true]
    rw [hs]
    go_enter Tryz.func26, Tryz.ntmps26
    go_wp2
    go_ret2
    exact ⟨rfl, rfl⟩
  cases h12 : (op.toList == [109, 97, 114, 107])
  rotate_left
  · have hs : shape op.toList = some [114] := by simp only [shape, h0, h1, h2, h3, h4, h5, h6, h7, h8, h9, h10, h11, h12, Bool.false_eq_true, if_false, if_true]
    rw [hs]
    go_enter Tryz.func26, Tryz.ntmps26
    go_wp2
    go_ret2
    exact ⟨rfl, rfl⟩
  cases h13 : (op.toList == [110, 101, 101, 100])
  rotate_left
  · have hs : shape op.toList = some [114] := by simp only [shape, h0, h1, h2, h3, h4, h5, h6, h7, h8, h9, h10, h11, h12, h13, Bool.false_eq_true, if_false, if_true]
    rw [hs]
    go_enter Tryz.func26, Tryz.ntmps26
    go_wp2
    go_ret2
    exact ⟨rfl, rfl⟩
  cases h14 : (op.toList == [102, 101, 110, 99, 101])
  rotate_left
  · have hs : shape op.toList = some [] := by simp only [shape, h0, h1, h2, h3, h4, h5, h6, h7, h8, h9, h10, h11, h12, h13, h14, Bool.false_eq_true, if_false, if_true]
    rw [hs]
    go_enter Tryz.func26, Tryz.ntmps26
    go_wp2
    go_ret2
    exact ⟨rfl, rfl⟩
  cases h15 : (op.toList == [102, 111, 114, 99, 101])
  rotate_left
  · have hs : shape op.toList = some [] := by simp only [shape, h0, h1, h2, h3, h4, h5, h6, h7, h8, h9, h10, h11, h12, h13, h14, h15, Bool.false_eq_true, if_false, if_true]
    rw [hs]
    go_enter Tryz.func26, Tryz.ntmps26
    go_wp2
    go_ret2
    exact ⟨rfl, rfl⟩
  cases h16 : (op.toList == [115, 116, 111, 112])
  rotate_left
  · have hs : shape op.toList = some [] := by simp only [shape, h0, h1, h2, h3, h4, h5, h6, h7, h8, h9, h10, h11, h12, h13, h14, h15, h16, Bool.false_eq_true, if_false, if_true]
    rw [hs]
    go_enter Tryz.func26, Tryz.ntmps26
    go_wp2
    go_ret2
    exact ⟨rfl, rfl⟩
  cases h17 : (op.toList == [122, 101, 114, 111])
  rotate_left
  · have hs : shape op.toList = some [114, 108] := by simp only [shape, h0, h1, h2, h3, h4, h5, h6, h7, h8, h9, h10, h11, h12, h13, h14, h15, h16, h17, Bool.false_eq_true, if_false, if_true]
    rw [hs]
    go_enter Tryz.func26, Tryz.ntmps26
    go_wp2
    go_ret2
    exact ⟨rfl, rfl⟩
  cases h18 : (op.toList == [115, 97, 109, 101])
  rotate_left
  · have hs : shape op.toList = some [114, 114, 108] := by simp only [shape, h0, h1, h2, h3, h4, h5, h6, h7, h8, h9, h10, h11, h12, h13, h14, h15, h16, h17, h18, Bool.false_eq_true, if_false, if_true]
    rw [hs]
    go_enter Tryz.func26, Tryz.ntmps26
    go_wp2
    go_ret2
    exact ⟨rfl, rfl⟩
  cases h19 : (op.toList == [103, 111, 116, 111])
  rotate_left
  · have hs : shape op.toList = some [108] := by simp only [shape, h0, h1, h2, h3, h4, h5, h6, h7, h8, h9, h10, h11, h12, h13, h14, h15, h16, h17, h18, h19, Bool.false_eq_true, if_false, if_true]
    rw [hs]
    go_enter Tryz.func26, Tryz.ntmps26
    go_wp2
    go_ret2
    exact ⟨rfl, rfl⟩
  cases h20 : (op.toList == [108, 97, 98, 101, 108])
  rotate_left
  · have hs : shape op.toList = some [108] := by simp only [shape, h0, h1, h2, h3, h4, h5, h6, h7, h8, h9, h10, h11, h12, h13, h14, h15, h16, h17, h18, h19, h20, Bool.false_eq_true, if_false, if_true]
    rw [hs]
    go_enter Tryz.func26, Tryz.ntmps26
    go_wp2
    go_ret2
    exact ⟨rfl, rfl⟩
  have hs : shape op.toList = none := by simp only [shape, h0, h1, h2, h3, h4, h5, h6, h7, h8, h9, h10, h11, h12, h13, h14, h15, h16, h17, h18, h19, h20, Bool.false_eq_true, if_false]
  rw [hs]
  go_enter Tryz.func26, Tryz.ntmps26
  go_wp2
  go_ret2
  exact ⟨rfl, rfl⟩

end Go.Proofs.YtcajklfngeafdaaGreatDoor
