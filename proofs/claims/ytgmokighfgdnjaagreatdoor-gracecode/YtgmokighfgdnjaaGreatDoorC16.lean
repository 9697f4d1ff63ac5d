import Derived.Test.YtgmokighfgdnjaaGreatDoorC15
import Derived.Test.YtgmokighfgdnjaaGreatDoorC02
import Derived.Test.YtgmokighfgdnjaaGreatDoorProg
import Derived.Test.YtgmokighfgdnjaaGreatDoorC09
import Derived.WalkKit
import Derived.Test.YtgmokighfgdnjaaGreatDoorC01
import Derived.Deep.QuietTactic

/- SpF -/
namespace Go.Proofs.YtgmokighfgdnjaaGreatDoor
open Go.RowKit Go.Extern.Stop Go.Stop Go.Extern Go.Maps Go.WideMaps Go.Sort

theorem insOwn_mono {w : World} {base base' : Nat} {v : Value} {l : List Ins} (h : insOwn w base v l) (hb : base' ≤ base) : insOwn w base' v l := by
  obtain ⟨h1, h2⟩ := h
  refine ⟨h1, ?_⟩
  rcases h2 with h2 | ⟨g, cap, cur, e, hg, r⟩
  · exact .inl h2
  · exact .inr ⟨g, cap, cur, e, Nat.le_trans hb hg, r⟩

theorem insOwn_open {w : World} {base : Nat} {v : Value} {l : List Ins} (h : insOwn w base v l) (h1 : 0 < l.length) : ∃ ad cap, v = .slice (some ad) l.length cap ∧ insAt (some ad) l w := by
  obtain ⟨ad, cap, rfl, h2, h3, h4⟩ := insAt_of_icells h
  obtain ⟨y, hy⟩ : ∃ y, l[0]? = some y := ⟨_, List.getElem?_eq_getElem h1⟩
  obtain ⟨b, off, rfl, -⟩ := h4 0 y hy
  exact ⟨_, cap, rfl, h4⟩
end Go.Proofs.YtgmokighfgdnjaaGreatDoor

/- SpT -/
namespace Go.Proofs.YtgmokighfgdnjaaGreatDoor
open Go.RowKit Go.Extern.Stop Go.Stop Go.Extern Go.Maps Go.WideMaps Go.Sort

theorem coded2_err (a : Nat → Addr) (k : Nat) (hk : k ≤ 9) (w : World) (hE : Env a w) :
    Calls Tryz.prog 12 #[errVal a k, .int .i64 k] w fun ev w' => ev = .returned (.bool true) ∧ Below w.heap.size w w' := by
  have hb : ((k : Int) == k) = true := beq_iff_eq.2 rfl
  have HC := hide (code_err a k hk w hE)
  generalize errVal a k = V at *
  go_enter Tryz.func12, Tryz.ntmps12
  go_wp2_with fail
  refine HC.out.mono ?_
  rintro e0 w1 ⟨rfl, hb1⟩
  go_wp2
  go_ret
  exact ⟨rfl, hb1⟩

end Go.Proofs.YtgmokighfgdnjaaGreatDoor

/- CodeA -/
namespace Go.Proofs.YtgmokighfgdnjaaGreatDoor
open Go.RowKit Go.Extern.Stop Go.Stop Go.Extern
set_option maxRecDepth 20000 in
set_option maxHeartbeats 4000000 in
theorem shape_any (op : ByteArray) (w : World) :
    Calls Tryz.prog 103 #[.string op] w fun e w' => e = .returned (shapeV (shape op.toList)) ∧ w' = w := by
  cases h0 : (op.toList == [99, 111, 110, 115, 116])
  rotate_left
  · have hs : shape op.toList = some [114, 118] := by simp only [shape, h0, if_true]
    rw [hs]
    go_enter Tryz.func103, Tryz.ntmps103
    go_wp2
    go_ret2
    exact ⟨rfl, rfl⟩
  cases h1 : (op.toList == [109, 111, 118, 101])
  rotate_left
  · have hs : shape op.toList = some [114, 114] := by simp only [shape, h0, h1, Bool.false_eq_true, if_false, if_true]
    rw [hs]
    go_enter Tryz.func103, Tryz.ntmps103
    go_wp2
    go_ret2
    exact ⟨rfl, rfl⟩
  cases h2 : (op.toList == [97, 100, 100])
  rotate_left
  · have hs : shape op.toList = some [114, 114, 114] := by simp only [shape, h0, h1, h2, Bool.false_eq_true, if_false, if_true]
    rw [hs]
    go_enter Tryz.func103, Tryz.ntmps103
    go_wp2
    go_ret2
    exact ⟨rfl, rfl⟩
  cases h3 : (op.toList == [115, 117, 98])
  rotate_left
  · have hs : shape op.toList = some [114, 114, 114] := by simp only [shape, h0, h1, h2, h3, Bool.false_eq_true, if_false, if_true]
    rw [hs]
    go_enter Tryz.func103, Tryz.ntmps103
    go_wp2
    go_ret2
    exact ⟨rfl, rfl⟩
  cases h4 : (op.toList == [97, 110, 100])
  rotate_left
  · have hs : shape op.toList = some [114, 114, 114] := by simp only [shape, h0, h1, h2, h3, h4, Bool.false_eq_true, if_false, if_true]
    rw [hs]
    go_enter Tryz.func103, Tryz.ntmps103
    go_wp2
    go_ret2
    exact ⟨rfl, rfl⟩
  cases h5 : (op.toList == [120, 111, 114])
  rotate_left
  · have hs : shape op.toList = some [114, 114, 114] := by simp only [shape, h0, h1, h2, h3, h4, h5, Bool.false_eq_true, if_false, if_true]
    rw [hs]
    go_enter Tryz.func103, Tryz.ntmps103
    go_wp2
    go_ret2
    exact ⟨rfl, rfl⟩
  cases h6 : (op.toList == [108, 111, 97, 100])
  rotate_left
  · have hs : shape op.toList = some [114, 114, 119] := by simp only [shape, h0, h1, h2, h3, h4, h5, h6, Bool.false_eq_true, if_false, if_true]
    rw [hs]
    go_enter Tryz.func103, Tryz.ntmps103
    go_wp2
    go_ret2
    exact ⟨rfl, rfl⟩
  cases h7 : (op.toList == [115, 116, 111, 114, 101])
  rotate_left
  · have hs : shape op.toList = some [114, 114, 119] := by simp only [shape, h0, h1, h2, h3, h4, h5, h6, h7, Bool.false_eq_true, if_false, if_true]
    rw [hs]
    go_enter Tryz.func103, Tryz.ntmps103
    go_wp2
    go_ret2
    exact ⟨rfl, rfl⟩
  cases h8 : (op.toList == [115, 119, 97, 112])
  rotate_left
  · have hs : shape op.toList = some [114, 114, 119] := by simp only [shape, h0, h1, h2, h3, h4, h5, h6, h7, h8, Bool.false_eq_true, if_false, if_true]
    rw [hs]
    go_enter Tryz.func103, Tryz.ntmps103
    go_wp2
    go_ret2
    exact ⟨rfl, rfl⟩
  cases h9 : (op.toList == [99, 97, 115])
  rotate_left
  · have hs : shape op.toList = some [114, 115, 119] := by simp only [shape, h0, h1, h2, h3, h4, h5, h6, h7, h8, h9, Bool.false_eq_true, if_false, if_true]
    rw [hs]
    go_enter Tryz.func103, Tryz.ntmps103
    go_wp2
    go_ret2
    exact ⟨rfl, rfl⟩
  cases h10 : (op.toList == [97, 108, 108, 111, 99])
  rotate_left
  · have hs : shape op.toList = some [114] := by simp only [shape, h0, h1, h2, h3, h4, h5, h6, h7, h8, h9, h10, Bool.false_eq_true, if_false, if_true]
    rw [hs]
    go_enter Tryz.func103, Tryz.ntmps103
    go_wp2
    go_ret2
    exact ⟨rfl, rfl⟩
  cases h11 : (op.toList == [102, 114, 101, 101])
  rotate_left
  · have hs : shape op.toList = some [114] := by simp only [shape, h0, h1, h2, h3, h4, h5, h6, h7, h8, h9, h10, h11, Bool.false_eq_true, if_false, if_true]
    rw [hs]
    go_enter Tryz.func103, Tryz.ntmps103
    go_wp2
    go_ret2
    exact ⟨rfl, rfl⟩
  cases h12 : (op.toList == [109, 97, 114, 107])
  rotate_left
  · have hs : shape op.toList = some [114] := by simp only [shape, h0, h1, h2, h3, h4, h5, h6, h7, h8, h9, h10, h11, h12, Bool.false_eq_true, if_false, if_true]
    rw [hs]
    go_enter Tryz.func103, Tryz.ntmps103
    go_wp2
    go_ret2
    exact ⟨rfl, rfl⟩
  cases h13 : (op.toList == [110, 101, 101, 100])
  rotate_left
  · have hs : shape op.toList = some [114] := by simp only [shape, h0, h1, h2, h3, h4, h5, h6, h7, h8, h9, h10, h11, h12, h13, Bool.false_eq_true, if_false, if_true]
    rw [hs]
    go_enter Tryz.func103, Tryz.ntmps103
    go_wp2
    go_ret2
    exact ⟨rfl, rfl⟩
  cases h14 : (op.toList == [102, 101, 110, 99, 101])
  rotate_left
  · have hs : shape op.toList = some [] := by simp only [shape, h0, h1, h2, h3, h4, h5, h6, h7, h8, h9, h10, h11, h12, h13, h14, Bool.false_eq_true, if_false, if_true]
    rw [hs]
    go_enter Tryz.func103, Tryz.ntmps103
    go_wp2
    go_ret2
    exact ⟨rfl, rfl⟩
  cases h15 : (op.toList == [102, 111, 114, 99, 101])
  rotate_left
  · have hs : shape op.toList = some [] := by simp only [shape, h0, h1, h2, h3, h4, h5, h6, h7, h8, h9, h10, h11, h12, h13, h14, h15, Bool.false_eq_true, if_false, if_true]
    rw [hs]
    go_enter Tryz.func103, Tryz.ntmps103
    go_wp2
    go_ret2
    exact ⟨rfl, rfl⟩
  cases h16 : (op.toList == [115, 116, 111, 112])
  rotate_left
  · have hs : shape op.toList = some [] := by simp only [shape, h0, h1, h2, h3, h4, h5, h6, h7, h8, h9, h10, h11, h12, h13, h14, h15, h16, Bool.false_eq_true, if_false, if_true]
    rw [hs]
    go_enter Tryz.func103, Tryz.ntmps103
    go_wp2
    go_ret2
    exact ⟨rfl, rfl⟩
  cases h17 : (op.toList == [122, 101, 114, 111])
  rotate_left
  · have hs : shape op.toList = some [114, 108] := by simp only [shape, h0, h1, h2, h3, h4, h5, h6, h7, h8, h9, h10, h11, h12, h13, h14, h15, h16, h17, Bool.false_eq_true, if_false, if_true]
    rw [hs]
    go_enter Tryz.func103, Tryz.ntmps103
    go_wp2
    go_ret2
    exact ⟨rfl, rfl⟩
  cases h18 : (op.toList == [115, 97, 109, 101])
  rotate_left
  · have hs : shape op.toList = some [114, 114, 108] := by simp only [shape, h0, h1, h2, h3, h4, h5, h6, h7, h8, h9, h10, h11, h12, h13, h14, h15, h16, h17, h18, Bool.false_eq_true, if_false, if_true]
    rw [hs]
    go_enter Tryz.func103, Tryz.ntmps103
    go_wp2
    go_ret2
    exact ⟨rfl, rfl⟩
  cases h19 : (op.toList == [103, 111, 116, 111])
  rotate_left
  · have hs : shape op.toList = some [108] := by simp only [shape, h0, h1, h2, h3, h4, h5, h6, h7, h8, h9, h10, h11, h12, h13, h14, h15, h16, h17, h18, h19, Bool.false_eq_true, if_false, if_true]
    rw [hs]
    go_enter Tryz.func103, Tryz.ntmps103
    go_wp2
    go_ret2
    exact ⟨rfl, rfl⟩
  cases h20 : (op.toList == [108, 97, 98, 101, 108])
  rotate_left
  · have hs : shape op.toList = some [108] := by simp only [shape, h0, h1, h2, h3, h4, h5, h6, h7, h8, h9, h10, h11, h12, h13, h14, h15, h16, h17, h18, h19, h20, Bool.false_eq_true, if_false, if_true]
    rw [hs]
    go_enter Tryz.func103, Tryz.ntmps103
    go_wp2
    go_ret2
    exact ⟨rfl, rfl⟩
  have hs : shape op.toList = none := by simp only [shape, h0, h1, h2, h3, h4, h5, h6, h7, h8, h9, h10, h11, h12, h13, h14, h15, h16, h17, h18, h19, h20, Bool.false_eq_true, if_false]
  rw [hs]
  go_enter Tryz.func103, Tryz.ntmps103
  go_wp2
  go_ret2
  exact ⟨rfl, rfl⟩

end Go.Proofs.YtgmokighfgdnjaaGreatDoor
