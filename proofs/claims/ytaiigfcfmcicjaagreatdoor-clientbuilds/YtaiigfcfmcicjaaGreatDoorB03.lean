import Derived.Test.YtaiigfcfmcicjaaGreatDoorB02
import Derived.Lib.Split
import Derived.Lib.IndexBytes
import Derived.Lib.Join
import Derived.Lib.ItoaNum
import Derived.Lib.Atoi
import Derived.WideShapes
import Derived.Test.YtaiigfcfmcicjaaGreatDoorProg
import Derived.WalkKit
import Derived.Test.YtaiigfcfmcicjaaGreatDoorB01
import Derived.Deep.QuietTactic

/- PureC -/
namespace Go.Proofs.YtaiigfcfmcicjaaGreatDoor
open Go.RowKit Go.Lib

abbrev bl (s : ByteArray) : List UInt8 := s.data.toList
theorem toList_bl (s : ByteArray) : s.toList = bl s := ByteArray.toList_eq s
theorem mk_bl (s : ByteArray) : (⟨(bl s).toArray⟩ : ByteArray) = s := by cases s; simp
theorem bl_inj {a b : ByteArray} (h : bl a = bl b) : a = b := by rw [← mk_bl a, ← mk_bl b, h]
theorem size_bl (s : ByteArray) : s.size = (bl s).length := Lib.size_eq s
theorem bl_append (a b : ByteArray) : bl (a ++ b) = bl a ++ bl b := by
  show (a ++ b).data.toList = _
  rw [ByteArray.data_append, Array.toList_append]
theorem byteAt_bl (s : ByteArray) (i : Nat) (h : i < s.size) : ∃ h', byteAt s i = ((bl s)[i]'h').toNat := by
  refine ⟨by rw [← size_bl]; exact h, ?_⟩
  rw [byteAt_lt h]
  simp [bl, ByteArray.getElem_eq_getElem_data]

def table : List (List UInt8 × List UInt8) :=
  [([99, 111, 110, 115, 116], [114, 118]), ([109, 111, 118, 101], [114, 114]), ([97, 100, 100], [114, 114, 114]), ([115, 117, 98], [114, 114, 114]), ([97, 110, 100], [114, 114, 114]), ([120, 111, 114], [114, 114, 114]),
   ([108, 111, 97, 100], [114, 114, 119]), ([115, 116, 111, 114, 101], [114, 114, 119]), ([115, 119, 97, 112], [114, 114, 119]), ([99, 97, 115], [114, 115, 119]), ([97, 108, 108, 111, 99], [114]), ([102, 114, 101, 101], [114]), ([109, 97, 114, 107], [114]), ([110, 101, 101, 100], [114]),
   ([102, 101, 110, 99, 101], []), ([102, 111, 114, 99, 101], []), ([115, 116, 111, 112], []), ([122, 101, 114, 111], [114, 108]), ([115, 97, 109, 101], [114, 114, 108]), ([103, 111, 116, 111], [108]), ([108, 97, 98, 101, 108], [108])]

theorem ite_some {op k l S : List UInt8} {e : Option (List UInt8)} (h : (if (op == k) = true then some l else e) = some S) (hl : (k, l) ∈ table) (he : e = some S → (op, S) ∈ table) : (op, S) ∈ table := by
  by_cases hc : (op == k) = true
  · rw [if_pos hc] at h; cases h; rw [beq_iff_eq.1 hc]; exact hl
  · rw [if_neg hc] at h; exact he h
set_option maxRecDepth 4000 in
theorem shape_mem {op S : List UInt8} (h : shape op = some S) : (op, S) ∈ table := by
  unfold shape at h
  iterate 21 (refine ite_some h (by decide) ?_; clear h; intro h)
  cases h

abbrev nums (S : List UInt8) : Nat := cnt ⟨S.toArray⟩ S.length
abbrev hasTo (S : List UInt8) : Bool := lab ⟨S.toArray⟩ S.length
end Go.Proofs.YtaiigfcfmcicjaaGreatDoor

/- ProgA -/
namespace Go.Proofs.YtaiigfcfmcicjaaGreatDoor
open Go.RowKit Go.Extern.Stop Go.Stop Go.Extern

def limOf (S : List UInt8) (k : Nat) : Int := if k < nums S then mostOf (byteAt ⟨S.toArray⟩ k) else 0
def kindV (S : List UInt8) : Value := .agg #[.int .i64 (limOf S 0), .int .i64 (limOf S 1), .int .i64 (limOf S 2), .bool (hasTo S)]
def kindRet : Option (List UInt8) → Value
  | some S => .tuple #[kindV S, .bool true]
  | none => .tuple #[kindV [], .bool false]

set_option maxRecDepth 20000 in
set_option maxHeartbeats 4000000 in
theorem kindOf_any (op : ByteArray) (w : World) :
    Calls Tryz.prog 154 #[.string op] w fun e w' => e = .returned (kindRet (shape op.toList)) ∧ Below w.heap.size w w' := by
  cases h0 : (op.toList == [99, 111, 110, 115, 116])
  rotate_left
  · have hs : kindRet (shape op.toList) = .tuple #[.agg #[.int .i64 8, .int .i64 4294967296, .int .i64 0, .bool false], .bool true] := by
      rw [show shape op.toList = some [114, 118] by simp only [shape, h0, if_true]]; kernel_rfl
    rw [hs]
    go_enter Tryz.func154, Tryz.ntmps154
    go_wp2
    exact bodyPost_ret (v := .tuple #[.agg #[.int .i64 8, .int .i64 4294967296, .int .i64 0, .bool false], .bool true]) (by simp only [results, Tryz.results154]; go_simp) rfl ⟨rfl, (Below.refl _ _).alloc (Nat.le_refl _) _⟩
  cases h1 : (op.toList == [109, 111, 118, 101])
  rotate_left
  · have hs : kindRet (shape op.toList) = .tuple #[.agg #[.int .i64 8, .int .i64 8, .int .i64 0, .bool false], .bool true] := by
      rw [show shape op.toList = some [114, 114] by simp only [shape, h0, h1, Bool.false_eq_true, if_false, if_true]]; kernel_rfl
    rw [hs]
    go_enter Tryz.func154, Tryz.ntmps154
    go_wp2
    exact bodyPost_ret (v := .tuple #[.agg #[.int .i64 8, .int .i64 8, .int .i64 0, .bool false], .bool true]) (by simp only [results, Tryz.results154]; go_simp) rfl ⟨rfl, (Below.refl _ _).alloc (Nat.le_refl _) _⟩
  cases h2 : (op.toList == [97, 100, 100])
  rotate_left
  · have hs : kindRet (shape op.toList) = .tuple #[.agg #[.int .i64 8, .int .i64 8, .int .i64 8, .bool false], .bool true] := by
      rw [show shape op.toList = some [114, 114, 114] by simp only [shape, h0, h1, h2, Bool.false_eq_true, if_false, if_true]]; kernel_rfl
    rw [hs]
    go_enter Tryz.func154, Tryz.ntmps154
    go_wp2
    exact bodyPost_ret (v := .tuple #[.agg #[.int .i64 8, .int .i64 8, .int .i64 8, .bool false], .bool true]) (by simp only [results, Tryz.results154]; go_simp) rfl ⟨rfl, (Below.refl _ _).alloc (Nat.le_refl _) _⟩
  cases h3 : (op.toList == [115, 117, 98])
  rotate_left
  · have hs : kindRet (shape op.toList) = .tuple #[.agg #[.int .i64 8, .int .i64 8, .int .i64 8, .bool false], .bool true] := by
      rw [show shape op.toList = some [114, 114, 114] by simp only [shape, h0, h1, h2, h3, Bool.false_eq_true, if_false, if_true]]; kernel_rfl
    rw [hs]
    go_enter Tryz.func154, Tryz.ntmps154
    go_wp2
    exact bodyPost_ret (v := .tuple #[.agg #[.int .i64 8, .int .i64 8, .int .i64 8, .bool false], .bool true]) (by simp only [results, Tryz.results154]; go_simp) rfl ⟨rfl, (Below.refl _ _).alloc (Nat.le_refl _) _⟩
  cases h4 : (op.toList == [97, 110, 100])
  rotate_left
  · have hs : kindRet (shape op.toList) = .tuple #[.agg #[.int .i64 8, .int .i64 8, .int .i64 8, .bool false], .bool true] := by
      rw [show shape op.toList = some [114, 114, 114] by simp only [shape, h0, h1, h2, h3, h4, Bool.false_eq_true, if_false, if_true]]; kernel_rfl
    rw [hs]
    go_enter Tryz.func154, Tryz.ntmps154
    go_wp2
    exact bodyPost_ret (v := .tuple #[.agg #[.int .i64 8, .int .i64 8, .int .i64 8, .bool false], .bool true]) (by simp only [results, Tryz.results154]; go_simp) rfl ⟨rfl, (Below.refl _ _).alloc (Nat.le_refl _) _⟩
  cases h5 : (op.toList == [120, 111, 114])
  rotate_left
  · have hs : kindRet (shape op.toList) = .tuple #[.agg #[.int .i64 8, .int .i64 8, .int .i64 8, .bool false], .bool true] := by
      rw [show shape op.toList = some [114, 114, 114] by simp only [shape, h0, h1, h2, h3, h4, h5, Bool.false_eq_true, if_false, if_true]]; kernel_rfl
    rw [hs]
    go_enter Tryz.func154, Tryz.ntmps154
    go_wp2
    exact bodyPost_ret (v := .tuple #[.agg #[.int .i64 8, .int .i64 8, .int .i64 8, .bool false], .bool true]) (by simp only [results, Tryz.results154]; go_simp) rfl ⟨rfl, (Below.refl _ _).alloc (Nat.le_refl _) _⟩
  cases h6 : (op.toList == [108, 111, 97, 100])
  rotate_left
  · have hs : kindRet (shape op.toList) = .tuple #[.agg #[.int .i64 8, .int .i64 8, .int .i64 4, .bool false], .bool true] := by
      rw [show shape op.toList = some [114, 114, 119] by simp only [shape, h0, h1, h2, h3, h4, h5, h6, Bool.false_eq_true, if_false, if_true]]; kernel_rfl
    rw [hs]
    go_enter Tryz.func154, Tryz.ntmps154
    go_wp2
    exact bodyPost_ret (v := .tuple #[.agg #[.int .i64 8, .int .i64 8, .int .i64 4, .bool false], .bool true]) (by simp only [results, Tryz.results154]; go_simp) rfl ⟨rfl, (Below.refl _ _).alloc (Nat.le_refl _) _⟩
  cases h7 : (op.toList == [115, 116, 111, 114, 101])
  rotate_left
  · have hs : kindRet (shape op.toList) = .tuple #[.agg #[.int .i64 8, .int .i64 8, .int .i64 4, .bool false], .bool true] := by
      rw [show shape op.toList = some [114, 114, 119] by simp only [shape, h0, h1, h2, h3, h4, h5, h6, h7, Bool.false_eq_true, if_false, if_true]]; kernel_rfl
    rw [hs]
    go_enter Tryz.func154, Tryz.ntmps154
    go_wp2
    exact bodyPost_ret (v := .tuple #[.agg #[.int .i64 8, .int .i64 8, .int .i64 4, .bool false], .bool true]) (by simp only [results, Tryz.results154]; go_simp) rfl ⟨rfl, (Below.refl _ _).alloc (Nat.le_refl _) _⟩
  cases h8 : (op.toList == [115, 119, 97, 112])
  rotate_left
  · have hs : kindRet (shape op.toList) = .tuple #[.agg #[.int .i64 8, .int .i64 8, .int .i64 4, .bool false], .bool true] := by
      rw [show shape op.toList = some [114, 114, 119] by simp only [shape, h0, h1, h2, h3, h4, h5, h6, h7, h8, Bool.false_eq_true, if_false, if_true]]; kernel_rfl
    rw [hs]
    go_enter Tryz.func154, Tryz.ntmps154
    go_wp2
    exact bodyPost_ret (v := .tuple #[.agg #[.int .i64 8, .int .i64 8, .int .i64 4, .bool false], .bool true]) (by simp only [results, Tryz.results154]; go_simp) rfl ⟨rfl, (Below.refl _ _).alloc (Nat.le_refl _) _⟩
  cases h9 : (op.toList == [99, 97, 115])
  rotate_left
  · have hs : kindRet (shape op.toList) = .tuple #[.agg #[.int .i64 8, .int .i64 7, .int .i64 4, .bool false], .bool true] := by
      rw [show shape op.toList = some [114, 115, 119] by simp only [shape, h0, h1, h2, h3, h4, h5, h6, h7, h8, h9, Bool.false_eq_true, if_false, if_true]]; kernel_rfl
    rw [hs]
    go_enter Tryz.func154, Tryz.ntmps154
    go_wp2
    exact bodyPost_ret (v := .tuple #[.agg #[.int .i64 8, .int .i64 7, .int .i64 4, .bool false], .bool true]) (by simp only [results, Tryz.results154]; go_simp) rfl ⟨rfl, (Below.refl _ _).alloc (Nat.le_refl _) _⟩
  cases h10 : (op.toList == [97, 108, 108, 111, 99])
  rotate_left
  · have hs : kindRet (shape op.toList) = .tuple #[.agg #[.int .i64 8, .int .i64 0, .int .i64 0, .bool false], .bool true] := by
      rw [show shape op.toList = some [114] by simp only [shape, h0, h1, h2, h3, h4, h5, h6, h7, h8, h9, h10, Bool.false_eq_true, if_false, if_true]]; kernel_rfl
    rw [hs]
    go_enter Tryz.func154, Tryz.ntmps154
    go_wp2
    exact bodyPost_ret (v := .tuple #[.agg #[.int .i64 8, .int .i64 0, .int .i64 0, .bool false], .bool true]) (by simp only [results, Tryz.results154]; go_simp) rfl ⟨rfl, (Below.refl _ _).alloc (Nat.le_refl _) _⟩
  cases h11 : (op.toList == [102, 114, 101, 101])
  rotate_left
  · have hs : kindRet (shape op.toList) = .tuple #[.agg #[.int .i64 8, .int .i64 0, .int .i64 0, .bool false], .bool true] := by
      rw [show shape op.toList = some [114] by simp only [shape, h0, h1, h2, h3, h4, h5, h6, h7, h8, h9, h10, h11, Bool.false_eq_true, if_false, if_true]]; kernel_rfl
    rw [hs]
    go_enter Tryz.func154, Tryz.ntmps154
    go_wp2
    exact bodyPost_ret (v := .tuple #[.agg #[.int .i64 8, .int .i64 0, .int .i64 0, .bool false], .bool true]) (by simp only [results, Tryz.results154]; go_simp) rfl ⟨rfl, (Below.refl _ _).alloc (Nat.le_refl _) _⟩
  cases h12 : (op.toList == [109, 97, 114, 107])
  rotate_left
  · have hs : kindRet (shape op.toList) = .tuple #[.agg #[.int .i64 8, .int .i64 0, .int .i64 0, .bool false], .bool true] := by
      rw [show shape op.toList = some [114] by simp only [shape, h0, h1, h2, h3, h4, h5, h6, h7, h8, h9, h10, h11, h12, Bool.false_eq_true, if_false, if_true]]; kernel_rfl
    rw [hs]
    go_enter Tryz.func154, Tryz.ntmps154
    go_wp2
    exact bodyPost_ret (v := .tuple #[.agg #[.int .i64 8, .int .i64 0, .int .i64 0, .bool false], .bool true]) (by simp only [results, Tryz.results154]; go_simp) rfl ⟨rfl, (Below.refl _ _).alloc (Nat.le_refl _) _⟩
  cases h13 : (op.toList == [110, 101, 101, 100])
  rotate_left
  · have hs : kindRet (shape op.toList) = .tuple #[.agg #[.int .i64 8, .int .i64 0, .int .i64 0, .bool false], .bool true] := by
      rw [show shape op.toList = some [114] by simp only [shape, h0, h1, h2, h3, h4, h5, h6, h7, h8, h9, h10, h11, h12, h13, Bool.false_eq_true, if_false, if_true]]; kernel_rfl
    rw [hs]
    go_enter Tryz.func154, Tryz.ntmps154
    go_wp2
    exact bodyPost_ret (v := .tuple #[.agg #[.int .i64 8, .int .i64 0, .int .i64 0, .bool false], .bool true]) (by simp only [results, Tryz.results154]; go_simp) rfl ⟨rfl, (Below.refl _ _).alloc (Nat.le_refl _) _⟩
  cases h14 : (op.toList == [102, 101, 110, 99, 101])
  rotate_left
  · have hs : kindRet (shape op.toList) = .tuple #[.agg #[.int .i64 0, .int .i64 0, .int .i64 0, .bool false], .bool true] := by
      rw [show shape op.toList = some [] by simp only [shape, h0, h1, h2, h3, h4, h5, h6, h7, h8, h9, h10, h11, h12, h13, h14, Bool.false_eq_true, if_false, if_true]]; kernel_rfl
    rw [hs]
    go_enter Tryz.func154, Tryz.ntmps154
    go_wp2
    exact bodyPost_ret (v := .tuple #[.agg #[.int .i64 0, .int .i64 0, .int .i64 0, .bool false], .bool true]) (by simp only [results, Tryz.results154]; go_simp) rfl ⟨rfl, (Below.refl _ _).alloc (Nat.le_refl _) _⟩
  cases h15 : (op.toList == [102, 111, 114, 99, 101])
  rotate_left
  · have hs : kindRet (shape op.toList) = .tuple #[.agg #[.int .i64 0, .int .i64 0, .int .i64 0, .bool false], .bool true] := by
      rw [show shape op.toList = some [] by simp only [shape, h0, h1, h2, h3, h4, h5, h6, h7, h8, h9, h10, h11, h12, h13, h14, h15, Bool.false_eq_true, if_false, if_true]]; kernel_rfl
    rw [hs]
    go_enter Tryz.func154, Tryz.ntmps154
    go_wp2
    exact bodyPost_ret (v := .tuple #[.agg #[.int .i64 0, .int .i64 0, .int .i64 0, .bool false], .bool true]) (by simp only [results, Tryz.results154]; go_simp) rfl ⟨rfl, (Below.refl _ _).alloc (Nat.le_refl _) _⟩
  cases h16 : (op.toList == [115, 116, 111, 112])
  rotate_left
  · have hs : kindRet (shape op.toList) = .tuple #[.agg #[.int .i64 0, .int .i64 0, .int .i64 0, .bool false], .bool true] := by
      rw [show shape op.toList = some [] by simp only [shape, h0, h1, h2, h3, h4, h5, h6, h7, h8, h9, h10, h11, h12, h13, h14, h15, h16, Bool.false_eq_true, if_false, if_true]]; kernel_rfl
    rw [hs]
    go_enter Tryz.func154, Tryz.ntmps154
    go_wp2
    exact bodyPost_ret (v := .tuple #[.agg #[.int .i64 0, .int .i64 0, .int .i64 0, .bool false], .bool true]) (by simp only [results, Tryz.results154]; go_simp) rfl ⟨rfl, (Below.refl _ _).alloc (Nat.le_refl _) _⟩
  cases h17 : (op.toList == [122, 101, 114, 111])
  rotate_left
  · have hs : kindRet (shape op.toList) = .tuple #[.agg #[.int .i64 8, .int .i64 0, .int .i64 0, .bool true], .bool true] := by
      rw [show shape op.toList = some [114, 108] by simp only [shape, h0, h1, h2, h3, h4, h5, h6, h7, h8, h9, h10, h11, h12, h13, h14, h15, h16, h17, Bool.false_eq_true, if_false, if_true]]; kernel_rfl
    rw [hs]
    go_enter Tryz.func154, Tryz.ntmps154
    go_wp2
    exact bodyPost_ret (v := .tuple #[.agg #[.int .i64 8, .int .i64 0, .int .i64 0, .bool true], .bool true]) (by simp only [results, Tryz.results154]; go_simp) rfl ⟨rfl, (Below.refl _ _).alloc (Nat.le_refl _) _⟩
  cases h18 : (op.toList == [115, 97, 109, 101])
  rotate_left
  · have hs : kindRet (shape op.toList) = .tuple #[.agg #[.int .i64 8, .int .i64 8, .int .i64 0, .bool true], .bool true] := by
      rw [show shape op.toList = some [114, 114, 108] by simp only [shape, h0, h1, h2, h3, h4, h5, h6, h7, h8, h9, h10, h11, h12, h13, h14, h15, h16, h17, h18, Bool.false_eq_true, if_false, if_true]]; kernel_rfl
    rw [hs]
    go_enter Tryz.func154, Tryz.ntmps154
    go_wp2
    exact bodyPost_ret (v := .tuple #[.agg #[.int .i64 8, .int .i64 8, .int .i64 0, .bool true], .bool true]) (by simp only [results, Tryz.results154]; go_simp) rfl ⟨rfl, (Below.refl _ _).alloc (Nat.le_refl _) _⟩
  cases h19 : (op.toList == [103, 111, 116, 111])
  rotate_left
  · have hs : kindRet (shape op.toList) = .tuple #[.agg #[.int .i64 0, .int .i64 0, .int .i64 0, .bool true], .bool true] := by
      rw [show shape op.toList = some [108] by simp only [shape, h0, h1, h2, h3, h4, h5, h6, h7, h8, h9, h10, h11, h12, h13, h14, h15, h16, h17, h18, h19, Bool.false_eq_true, if_false, if_true]]; kernel_rfl
    rw [hs]
    go_enter Tryz.func154, Tryz.ntmps154
    go_wp2
    exact bodyPost_ret (v := .tuple #[.agg #[.int .i64 0, .int .i64 0, .int .i64 0, .bool true], .bool true]) (by simp only [results, Tryz.results154]; go_simp) rfl ⟨rfl, (Below.refl _ _).alloc (Nat.le_refl _) _⟩
  cases h20 : (op.toList == [108, 97, 98, 101, 108])
  rotate_left
  · have hs : kindRet (shape op.toList) = .tuple #[.agg #[.int .i64 0, .int .i64 0, .int .i64 0, .bool true], .bool true] := by
      rw [show shape op.toList = some [108] by simp only [shape, h0, h1, h2, h3, h4, h5, h6, h7, h8, h9, h10, h11, h12, h13, h14, h15, h16, h17, h18, h19, h20, Bool.false_eq_true, if_false, if_true]]; kernel_rfl
    rw [hs]
    go_enter Tryz.func154, Tryz.ntmps154
    go_wp2
    exact bodyPost_ret (v := .tuple #[.agg #[.int .i64 0, .int .i64 0, .int .i64 0, .bool true], .bool true]) (by simp only [results, Tryz.results154]; go_simp) rfl ⟨rfl, (Below.refl _ _).alloc (Nat.le_refl _) _⟩
  have hs : kindRet (shape op.toList) = .tuple #[.agg #[.int .i64 0, .int .i64 0, .int .i64 0, .bool false], .bool false] := by
    rw [show shape op.toList = none by simp only [shape, h0, h1, h2, h3, h4, h5, h6, h7, h8, h9, h10, h11, h12, h13, h14, h15, h16, h17, h18, h19, h20, Bool.false_eq_true, if_false]]; kernel_rfl
  rw [hs]
  go_enter Tryz.func154, Tryz.ntmps154
  go_wp2
  exact bodyPost_ret (v := .tuple #[.agg #[.int .i64 0, .int .i64 0, .int .i64 0, .bool false], .bool false]) (by simp only [results, Tryz.results154]; go_simp) rfl ⟨rfl, (Below.refl _ _).alloc (Nat.le_refl _) _⟩
end Go.Proofs.YtaiigfcfmcicjaaGreatDoor

/- ProgB -/
namespace Go.Proofs.YtaiigfcfmcicjaaGreatDoor
open Go.RowKit Go.Extern.Stop Go.Stop Go.Extern

def one (l : Int) : Int := if 0 < l then 1 else 0


end Go.Proofs.YtaiigfcfmcicjaaGreatDoor
