import Derived.Test.YtepgcgokolmedaaDoorB15
import Derived.Test.YtepgcgokolmedaaDoorB03
import Derived.Test.YtepgcgokolmedaaDoorProg
import Derived.Test.YtepgcgokolmedaaDoorB02
import Derived.WalkKit
import Derived.Test.YtepgcgokolmedaaDoorB01
import Derived.Deep.QuietTactic

/- SpT -/
namespace Go.Proofs.YtepgcgokolmedaaDoor
open Go.RowKit Go.Extern.Stop Go.Stop Go.Extern Go.Maps Go.WideMaps Go.Sort

theorem coded2_err (a : Nat → Addr) (k : Nat) (hk : k ≤ 9) (w : World) (hE : Env a w) :
    Calls Tryd.prog 9 #[errVal a k, .int .i64 k] w fun ev w' => ev = .returned (.bool true) ∧ Below w.heap.size w w' := by
  have hb : ((k : Int) == k) = true := beq_iff_eq.2 rfl
  have HC := hide (code_err a k hk w hE)
  generalize errVal a k = V at *
  go_enter Tryd.func9, Tryd.ntmps9
  go_wp2_with fail
  refine HC.out.mono ?_
  rintro e0 w1 ⟨rfl, hb1⟩
  go_wp2
  go_ret
  exact ⟨rfl, hb1⟩

def nameShort (p : ByteArray) : Prop := isName p ∧ p.size ≤ 8
def numsOk (cell word tmp : Int) : Prop := (0 ≤ cell ∧ cell < 8) ∧ (0 ≤ word ∧ word < 4) ∧ (0 ≤ tmp ∧ tmp < 7) ∧ cell ≠ tmp ∧ cell ≠ tmp + 1
theorem lockOk_of {p : ByteArray} {cell word tmp : Int} (h : numsOk cell word tmp) (hn : nameShort p) : LockOk p cell word tmp := ⟨h.1, h.2.1, h.2.2.1, h.2.2.2, hn.1, hn.2⟩

theorem within_is (n k : Int) {b : Bool} (h : b = true ↔ 0 ≤ n ∧ n < k) (w : World) : Calls Tryd.prog 32 #[.int .i64 n, .int .i64 k] w fun e w' => e = .returned (.bool b) ∧ w' = w :=
  (swithin_any n k w).mono fun _ _ ⟨h1, h2⟩ => ⟨by
    rw [h1]
    congr 2
    cases b with
    | true => rw [decide_eq_true (h.1 rfl).1, decide_eq_true (h.1 rfl).2]; rfl
    | false =>
      by_cases h0 : 0 ≤ n
      · by_cases h1 : n < k
        · exact absurd (h.2 ⟨h0, h1⟩) (by decide)
        · rw [decide_eq_false h1, Bool.and_false]
      · rw [decide_eq_false h0, Bool.false_and], h2⟩

set_option maxRecDepth 20000 in
set_option maxHeartbeats 1000000 in
theorem scheck_nums {p : ByteArray} {cell word tmp : Int} (h : ¬ numsOk cell word tmp) {a : Nat → Addr} {w : World} (hE : Env a w) :
    Calls Tryd.prog 18 #[.string p, .int .i64 cell, .int .i64 word, .int .i64 tmp] w fun e w' => e = .returned (errAt (a 1)) ∧ w' = w := by
  have g1 : w.cell? ⟨0, 0, none⟩ = some (errAt (a 1)) := hE.cell 1 (by decide)
  clear hE
  by_cases hc : 0 ≤ cell ∧ cell < 8
  · have H1 := hide (within_is cell 8 (b := true) ⟨fun _ => hc, fun _ => rfl⟩)
    by_cases hw : 0 ≤ word ∧ word < 4
    · have H2 := hide (within_is word 4 (b := true) ⟨fun _ => hw, fun _ => rfl⟩)
      by_cases ht : 0 ≤ tmp ∧ tmp < 7
      · have H3 := hide (within_is tmp 7 (b := true) ⟨fun _ => ht, fun _ => rfl⟩)
        have wr1 : IntKind.i64.wrap (tmp + 1) = tmp + 1 := by rw [IntKind.wrap_i64]; omega
        have hd : cell = tmp ∨ ¬ cell = tmp ∧ cell = tmp + 1 := by
          by_cases e : cell = tmp
          · exact .inl e
          · by_cases e2 : cell = tmp + 1
            · exact .inr ⟨e, e2⟩
            · exact absurd ⟨hc, hw, ht, e, e2⟩ h
        clear h hc hw ht
        rcases hd with e | ⟨e, e2⟩
        · have n1 : (cell == tmp) = true := beq_iff_eq.2 e
          clear e
          go_enter Tryd.func18, Tryd.ntmps18
          go_wp2_with fail
          refine (H1.out _).mono ?_
          rintro e w1 ⟨rfl, rfl⟩
          go_wp2_with fail
          refine (H2.out _).mono ?_
          rintro e w1 ⟨rfl, rfl⟩
          go_wp2_with fail
          refine (H3.out _).mono ?_
          rintro e w1 ⟨rfl, rfl⟩
          go_wp2_with fail
          go_ret
          exact ⟨rfl, rfl⟩
        · have n1 : (cell == tmp) = false := beq_eq_false_iff_ne.2 e
          have n2 : (cell == tmp + 1) = true := beq_iff_eq.2 e2
          clear e e2
          go_enter Tryd.func18, Tryd.ntmps18
          go_wp2_with fail
          refine (H1.out _).mono ?_
          rintro e w1 ⟨rfl, rfl⟩
          go_wp2_with fail
          refine (H2.out _).mono ?_
          rintro e w1 ⟨rfl, rfl⟩
          go_wp2_with fail
          refine (H3.out _).mono ?_
          rintro e w1 ⟨rfl, rfl⟩
          go_wp2_with fail
          go_ret
          exact ⟨rfl, rfl⟩
      · have H3 := hide (within_is tmp 7 (b := false) ⟨fun e => (by cases e), fun e => absurd e ht⟩)
        clear h hc hw ht
        go_enter Tryd.func18, Tryd.ntmps18
        go_wp2_with fail
        refine (H1.out _).mono ?_
        rintro e w1 ⟨rfl, rfl⟩
        go_wp2_with fail
        refine (H2.out _).mono ?_
        rintro e w1 ⟨rfl, rfl⟩
        go_wp2_with fail
        refine (H3.out _).mono ?_
        rintro e w1 ⟨rfl, rfl⟩
        go_wp2_with fail
        go_ret
        exact ⟨rfl, rfl⟩
    · have H2 := hide (within_is word 4 (b := false) ⟨fun e => (by cases e), fun e => absurd e hw⟩)
      clear h hc hw
      go_enter Tryd.func18, Tryd.ntmps18
      go_wp2_with fail
      refine (H1.out _).mono ?_
      rintro e w1 ⟨rfl, rfl⟩
      go_wp2_with fail
      refine (H2.out _).mono ?_
      rintro e w1 ⟨rfl, rfl⟩
      go_wp2_with fail
      go_ret
      exact ⟨rfl, rfl⟩
  · have H1 := hide (within_is cell 8 (b := false) ⟨fun e => (by cases e), fun e => absurd e hc⟩)
    clear h hc
    go_enter Tryd.func18, Tryd.ntmps18
    go_wp2_with fail
    refine (H1.out _).mono ?_
    rintro e w1 ⟨rfl, rfl⟩
    go_wp2_with fail
    go_ret
    exact ⟨rfl, rfl⟩

open Classical in
theorem cname_bad {p : ByteArray} (hn : ¬ nameShort p) {a : Nat → Addr} {w : World} (hE : Env a w) : Calls Tryd.prog 33 #[.string p] w fun e w' => e = .returned (errAt (a 3)) ∧ Below w.heap.size w w' := by
  have g3 : w.cell? ⟨3, 0, none⟩ = some (errAt (a 3)) := hE.cell 3 (by decide)
  have HN := hide (pisName_any p)
  clear hE
  by_cases hi : isName p
  · have hs : 8 < (p.size : Int) := by
      have : ¬ p.size ≤ 8 := fun e => hn ⟨hi, e⟩
      omega
    rw [decide_eq_true hi] at HN
    clear hi hn
    go_enter Tryd.func33, Tryd.ntmps33
    go_wp2_with fail
    refine (HN.out _).mono ?_
    rintro e w1 ⟨rfl, hb⟩
    replace g3 := keep_cell hb g3
    go_wp2_with fail
    go_ret
    exact ⟨rfl, hb⟩
  · rw [decide_eq_false hi] at HN
    clear hi hn
    go_enter Tryd.func33, Tryd.ntmps33
    go_wp2_with fail
    refine (HN.out _).mono ?_
    rintro e w1 ⟨rfl, hb⟩
    replace g3 := keep_cell hb g3
    go_wp2_with fail
    go_ret
    exact ⟨rfl, hb⟩

set_option maxRecDepth 20000 in
set_option maxHeartbeats 1000000 in
theorem scheck_name {p : ByteArray} {cell word tmp : Int} (h : numsOk cell word tmp) (hn : ¬ nameShort p) {a : Nat → Addr} {w : World} (hE : Env a w) :
    Calls Tryd.prog 18 #[.string p, .int .i64 cell, .int .i64 word, .int .i64 tmp] w fun e w' => e = .returned (errAt (a 3)) ∧ Below w.heap.size w w' := by
  have HN := hide (cname_bad hn hE)
  clear hE
  obtain ⟨hc, hw, ht, ne1, ne2⟩ := h
  have H1 := hide (within_is cell 8 (b := true) ⟨fun _ => hc, fun _ => rfl⟩)
  have H2 := hide (within_is word 4 (b := true) ⟨fun _ => hw, fun _ => rfl⟩)
  have H3 := hide (within_is tmp 7 (b := true) ⟨fun _ => ht, fun _ => rfl⟩)
  have wr1 : IntKind.i64.wrap (tmp + 1) = tmp + 1 := by rw [IntKind.wrap_i64]; omega
  have n1 : (cell == tmp) = false := beq_eq_false_iff_ne.2 ne1
  have n2 : (cell == tmp + 1) = false := beq_eq_false_iff_ne.2 ne2
  clear hc hw ht ne1 ne2 hn
  go_enter Tryd.func18, Tryd.ntmps18
  go_wp2_with fail
  refine (H1.out _).mono ?_
  rintro e w1 ⟨rfl, rfl⟩
  go_wp2_with fail
  refine (H2.out _).mono ?_
  rintro e w1 ⟨rfl, rfl⟩
  go_wp2_with fail
  refine (H3.out _).mono ?_
  rintro e w1 ⟨rfl, rfl⟩
  go_wp2_with fail
  refine HN.out.mono ?_
  rintro e w1 ⟨rfl, hb⟩
  go_wp2_with fail
  go_ret
  exact ⟨rfl, hb⟩

theorem give_err {p : ByteArray} {cell word tmp : Int} {ad : Addr} {w : World} (h : Calls Tryd.prog 18 #[.string p, .int .i64 cell, .int .i64 word, .int .i64 tmp] w fun e w' => e = .returned (errAt ad) ∧ Below w.heap.size w w') :
    Calls Tryd.prog 7 #[.string p, .int .i64 cell, .int .i64 word, .int .i64 tmp] w fun e w' => e = .returned (.tuple #[.slice none 0 0, errAt ad]) ∧ Below w.heap.size w w' := by
  have H := hide h
  clear h
  go_enter Tryd.func7, Tryd.ntmps7
  go_wp2_with fail
  refine H.out.mono ?_
  rintro e w1 ⟨rfl, hb⟩
  go_wp2_with fail
  go_ret2
  exact ⟨rfl, hb⟩
theorem take_err {p : ByteArray} {cell word tmp : Int} {ad : Addr} {w : World} (h : Calls Tryd.prog 18 #[.string p, .int .i64 cell, .int .i64 word, .int .i64 tmp] w fun e w' => e = .returned (errAt ad) ∧ Below w.heap.size w w') :
    Calls Tryd.prog 6 #[.string p, .int .i64 cell, .int .i64 word, .int .i64 tmp] w fun e w' => e = .returned (.tuple #[.slice none 0 0, errAt ad]) ∧ Below w.heap.size w w' := by
  have H := hide h
  clear h
  go_enter Tryd.func6, Tryd.ntmps6
  go_wp2_with fail
  refine H.out.mono ?_
  rintro e w1 ⟨rfl, hb⟩
  go_wp2_with fail
  go_ret2
  exact ⟨rfl, hb⟩
end Go.Proofs.YtepgcgokolmedaaDoor

/- CodeA -/
namespace Go.Proofs.YtepgcgokolmedaaDoor
open Go.RowKit Go.Extern.Stop Go.Stop Go.Extern
set_option maxRecDepth 20000 in
set_option maxHeartbeats 4000000 in
theorem shape_any (op : ByteArray) (w : World) :
    Calls Tryd.prog 54 #[.string op] w fun e w' => e = .returned (shapeV (shape op.toList)) ∧ w' = w := by
  cases h0 : (op.toList == [99, 111, 110, 115, 116])
  rotate_left
  · have hs : shape op.toList = some [114, 118] := by simp only [shape, h0, if_true]
    rw [hs]
    go_enter Tryd.func54, Tryd.ntmps54
    go_wp2
    go_ret2
    exact ⟨rfl, rfl⟩
  cases h1 : (op.toList == [109, 111, 118, 101])
  rotate_left
  · have hs : shape op.toList = some [114, 114] := by simp only [shape, h0, h1, Bool.false_eq_true, if_false, if_true]
    rw [hs]
    go_enter Tryd.func54, Tryd.ntmps54
    go_wp2
    go_ret2
    exact ⟨rfl, rfl⟩
  cases h2 : (op.toList == [97, 100, 100])
  rotate_left
  · have hs : shape op.toList = some [114, 114, 114] := by simp only [shape, h0, h1, h2, Bool.false_eq_true, if_false, if_true]
    rw [hs]
    go_enter Tryd.func54, Tryd.ntmps54
    go_wp2
    go_ret2
    exact ⟨rfl, rfl⟩
  cases h3 : (op.toList == [115, 117, 98])
  rotate_left
  · have hs : shape op.toList = some [114, 114, 114] := by simp only [shape, h0, h1, h2, h3, Bool.false_eq_true, if_false, if_true]
    rw [hs]
    go_enter Tryd.func54, Tryd.ntmps54
    go_wp2
    go_ret2
    exact ⟨rfl, rfl⟩
  cases h4 : (op.toList == [97, 110, 100])
  rotate_left
  · have hs : shape op.toList = some [114, 114, 114] := by simp only [shape, h0, h1, h2, h3, h4, Bool.false_eq_true, if_false, if_true]
    rw [hs]
    go_enter Tryd.func54, Tryd.ntmps54
    go_wp2
    go_ret2
    exact ⟨rfl, rfl⟩
  cases h5 : (op.toList == [120, 111, 114])
  rotate_left
  · have hs : shape op.toList = some [114, 114, 114] := by simp only [shape, h0, h1, h2, h3, h4, h5, Bool.false_eq_true, if_false, if_true]
    rw [hs]
    go_enter Tryd.func54, Tryd.ntmps54
    go_wp2
    go_ret2
    exact ⟨rfl, rfl⟩
  cases h6 : (op.toList == [108, 111, 97, 100])
  rotate_left
  · have hs : shape op.toList = some [114, 114, 119] := by simp only [shape, h0, h1, h2, h3, h4, h5, h6, Bool.false_eq_true, if_false, if_true]
    rw [hs]
    go_enter Tryd.func54, Tryd.ntmps54
    go_wp2
    go_ret2
    exact ⟨rfl, rfl⟩
  cases h7 : (op.toList == [115, 116, 111, 114, 101])
  rotate_left
  · have hs : shape op.toList = some [114, 114, 119] := by simp only [shape, h0, h1, h2, h3, h4, h5, h6, h7, Bool.false_eq_true, if_false, if_true]
    rw [hs]
    go_enter Tryd.func54, Tryd.ntmps54
    go_wp2
    go_ret2
    exact ⟨rfl, rfl⟩
  cases h8 : (op.toList == [115, 119, 97, 112])
  rotate_left
  · have hs : shape op.toList = some [114, 114, 119] := by simp only [shape, h0, h1, h2, h3, h4, h5, h6, h7, h8, Bool.false_eq_true, if_false, if_true]
    rw [hs]
    go_enter Tryd.func54, Tryd.ntmps54
    go_wp2
    go_ret2
    exact ⟨rfl, rfl⟩
  cases h9 : (op.toList == [99, 97, 115])
  rotate_left
  · have hs : shape op.toList = some [114, 115, 119] := by simp only [shape, h0, h1, h2, h3, h4, h5, h6, h7, h8, h9, Bool.false_eq_true, if_false, if_true]
    rw [hs]
    go_enter Tryd.func54, Tryd.ntmps54
    go_wp2
    go_ret2
    exact ⟨rfl, rfl⟩
  cases h10 : (op.toList == [97, 108, 108, 111, 99])
  rotate_left
  · have hs : shape op.toList = some [114] := by simp only [shape, h0, h1, h2, h3, h4, h5, h6, h7, h8, h9, h10, Bool.false_eq_true, if_false, if_true]
    rw [hs]
    go_enter Tryd.func54, Tryd.ntmps54
    go_wp2
    go_ret2
    exact ⟨rfl, rfl⟩
  cases h11 : (op.toList == [102, 114, 101, 101])
  rotate_left
  · have hs : shape op.toList = some [114] := by simp only [shape, h0, h1, h2, h3, h4, h5, h6, h7, h8, h9, h10, h11, Bool.false_eq_true, if_false, if_true]
    rw [hs]
    go_enter Tryd.func54, Tryd.ntmps54
    go_wp2
    go_ret2
    exact ⟨rfl, rfl⟩
  cases h12 : (op.toList == [109, 97, 114, 107])
  rotate_left
  · have hs : shape op.toList = some [114] := by simp only [shape, h0, h1, h2, h3, h4, h5, h6, h7, h8, h9, h10, h11, h12, Bool.false_eq_true, if_false, if_true]
    rw [hs]
    go_enter Tryd.func54, Tryd.ntmps54
    go_wp2
    go_ret2
    exact ⟨rfl, rfl⟩
  cases h13 : (op.toList == [110, 101, 101, 100])
  rotate_left
  · have hs : shape op.toList = some [114] := by simp only [shape, h0, h1, h2, h3, h4, h5, h6, h7, h8, h9, h10, h11, h12, h13, Bool.false_eq_true, if_false, if_true]
    rw [hs]
    go_enter Tryd.func54, Tryd.ntmps54
    go_wp2
    go_ret2
    exact ⟨rfl, rfl⟩
  cases h14 : (op.toList == [102, 101, 110, 99, 101])
  rotate_left
  · have hs : shape op.toList = some [] := by simp only [shape, h0, h1, h2, h3, h4, h5, h6, h7, h8, h9, h10, h11, h12, h13, h14, Bool.false_eq_true, if_false, if_true]
    rw [hs]
    go_enter Tryd.func54, Tryd.ntmps54
    go_wp2
    go_ret2
    exact ⟨rfl, rfl⟩
  cases h15 : (op.toList == [102, 111, 114, 99, 101])
  rotate_left
  · have hs : shape op.toList = some [] := by simp only [shape, h0, h1, h2, h3, h4, h5, h6, h7, h8, h9, h10, h11, h12, h13, h14, h15, Bool.false_eq_true, if_false, if_true]
    rw [hs]
    go_enter Tryd.func54, Tryd.ntmps54
    go_wp2
    go_ret2
    exact ⟨rfl, rfl⟩
  cases h16 : (op.toList == [115, 116, 111, 112])
  rotate_left
  · have hs : shape op.toList = some [] := by simp only [shape, h0, h1, h2, h3, h4, h5, h6, h7, h8, h9, h10, h11, h12, h13, h14, h15, h16, Bool.false_eq_true, if_false, if_true]
    rw [hs]
    go_enter Tryd.func54, Tryd.ntmps54
    go_wp2
    go_ret2
    exact ⟨rfl, rfl⟩
  cases h17 : (op.toList == [122, 101, 114, 111])
  rotate_left
  · have hs : shape op.toList = some [114, 108] := by simp only [shape, h0, h1, h2, h3, h4, h5, h6, h7, h8, h9, h10, h11, h12, h13, h14, h15, h16, h17, Bool.false_eq_true, if_false, if_true]
    rw [hs]
    go_enter Tryd.func54, Tryd.ntmps54
    go_wp2
    go_ret2
    exact ⟨rfl, rfl⟩
  cases h18 : (op.toList == [115, 97, 109, 101])
  rotate_left
  · have hs : shape op.toList = some [114, 114, 108] := by simp only [shape, h0, h1, h2, h3, h4, h5, h6, h7, h8, h9, h10, h11, h12, h13, h14, h15, h16, h17, h18, Bool.false_eq_true, if_false, if_true]
    rw [hs]
    go_enter Tryd.func54, Tryd.ntmps54
    go_wp2
    go_ret2
    exact ⟨rfl, rfl⟩
  cases h19 : (op.toList == [103, 111, 116, 111])
  rotate_left
  · have hs : shape op.toList = some [108] := by simp only [shape, h0, h1, h2, h3, h4, h5, h6, h7, h8, h9, h10, h11, h12, h13, h14, h15, h16, h17, h18, h19, Bool.false_eq_true, if_false, if_true]
    rw [hs]
    go_enter Tryd.func54, Tryd.ntmps54
    go_wp2
    go_ret2
    exact ⟨rfl, rfl⟩
  cases h20 : (op.toList == [108, 97, 98, 101, 108])
  rotate_left
  · have hs : shape op.toList = some [108] := by simp only [shape, h0, h1, h2, h3, h4, h5, h6, h7, h8, h9, h10, h11, h12, h13, h14, h15, h16, h17, h18, h19, h20, Bool.false_eq_true, if_false, if_true]
    rw [hs]
    go_enter Tryd.func54, Tryd.ntmps54
    go_wp2
    go_ret2
    exact ⟨rfl, rfl⟩
  have hs : shape op.toList = none := by simp only [shape, h0, h1, h2, h3, h4, h5, h6, h7, h8, h9, h10, h11, h12, h13, h14, h15, h16, h17, h18, h19, h20, Bool.false_eq_true, if_false]
  rw [hs]
  go_enter Tryd.func54, Tryd.ntmps54
  go_wp2
  go_ret2
  exact ⟨rfl, rfl⟩

end Go.Proofs.YtepgcgokolmedaaDoor

/- CodeB -/
namespace Go.Proofs.YtepgcgokolmedaaDoor
open Go.RowKit Go.Extern.Stop Go.Stop Go.Extern
open Classical in
theorem isName_any (s : ByteArray) (w : World) :
    Calls Tryd.prog 20 #[.string s] w fun e w' => e = .returned (.bool (decide (isName s))) ∧ w' = w := by
  by_cases h1 : 1 ≤ s.size
  · by_cases h2 : s.size ≤ 12
    · have HD : Hid (∀ f : Bool, (f = true ↔ ∀ j (h : j < s.size), nameOk j (s[j]'h).toNat = true) → decide (isName s) = f) := fun f hf => by
        cases f with
        | true => exact decide_eq_true ⟨h1, h2, hf.1 rfl⟩
        | false => exact decide_eq_false (fun h => by have := hf.2 h.2.2; cases this)
      have i1 : ¬ (s.size : Int) < 1 := by omega
      have i2 : ¬ 12 < (s.size : Int) := by omega
      generalize decide (isName s) = F at *
      go_enter Tryd.func20, Tryd.ntmps20
      go_wp2_with fail
      go_loopw [3, 4, 5] (fun i _ _ wr => wr = w ∧ ∃ j : Nat, j ≤ s.size ∧ i = .int .i64 j ∧ Hid (∀ i (h : i < s.size), i < j → nameOk i (s[i]'h).toNat = true)) (fun i _ _ _ => s.size - (intOf i).toNat)
      case atStart => exact ⟨rfl, 0, Nat.zero_le _, rfl, fun i _ h => absurd h (Nat.not_lt_zero _)⟩
      case round =>
        obtain ⟨rfl, j, hj, rfl, HJ⟩ := hrel
        by_cases hlt : j < s.size
        · have ji : (j : Int) < s.size := by omega
          have HY : Hid (nameOk j (s[j]'hlt).toNat = true → ∀ i (h : i < s.size), i < j + 1 → nameOk i (s[i]'h).toNat = true) := fun hy i h hi => by
            by_cases e : i = j
            · subst e; exact hy
            · exact HJ.out i h (by omega)
          have HX : Hid (nameOk j (s[j]'hlt).toNat = false → F = false) := fun hx => HD.out false ⟨(fun h => Bool.noConfusion h), (fun h => by rw [h j hlt] at hx; cases hx)⟩
          have hor : ((97 ≤ (s[j]'hlt).toNat ∧ (s[j]'hlt).toNat ≤ 122)) ∨ (¬ 97 ≤ (s[j]'hlt).toNat ∧ j = 0) ∨ (¬ 97 ≤ (s[j]'hlt).toNat ∧ j ≠ 0 ∧ 48 ≤ (s[j]'hlt).toNat ∧ (s[j]'hlt).toNat ≤ 57) ∨ (¬ 97 ≤ (s[j]'hlt).toNat ∧ j ≠ 0 ∧ ¬ 48 ≤ (s[j]'hlt).toNat ∧ (s[j]'hlt).toNat = 46) ∨ (¬ 97 ≤ (s[j]'hlt).toNat ∧ j ≠ 0 ∧ ¬ 48 ≤ (s[j]'hlt).toNat ∧ (s[j]'hlt).toNat ≠ 46)
              ∨ (¬ 97 ≤ (s[j]'hlt).toNat ∧ j ≠ 0 ∧ ¬ (s[j]'hlt).toNat ≤ 57) ∨ (97 ≤ (s[j]'hlt).toNat ∧ ¬ (s[j]'hlt).toNat ≤ 122 ∧ j = 0) ∨ (97 ≤ (s[j]'hlt).toNat ∧ ¬ (s[j]'hlt).toNat ≤ 122 ∧ j ≠ 0) := by omega
          rcases hor with ⟨q1, q2⟩ | ⟨q1, q2⟩ | ⟨q1, q2, q3, q4⟩ | ⟨q1, q2, q3, q4⟩ | ⟨q1, q2, q3, q4⟩ | ⟨q1, q2, q3⟩ | ⟨q1, q2, q3⟩ | ⟨q1, q2, q3⟩
          · have HZ : Hid (∀ i (h : i < s.size), i < j + 1 → nameOk i (s[i]'h).toNat = true) := HY.out (decide_eq_true (by omega))
            have z1 : (97 : Int) ≤ ((s[j]'hlt).toNat : Int) := by omega
            have z2 : ((s[j]'hlt).toNat : Int) ≤ 122 := by omega
            clear HY HX HJ HD q1 q2
            go_wp2
            go_roundw
            case rel => exact ⟨trivial, j + 1, by omega, by go_num, HZ⟩
            case measure => simp [intOf]; omega
          · have HZ : Hid (F = false) := HX.out (decide_eq_false (by omega))
            subst q2
            have z1 : ¬ (97 : Int) ≤ ((s[0]'hlt).toNat : Int) := by omega
            clear HY HX HJ HD q1
            go_wp2
            all_goals
              go_ret
              exact ⟨by rw [HZ.out]; rfl, rfl⟩
          · have HZ : Hid (∀ i (h : i < s.size), i < j + 1 → nameOk i (s[i]'h).toNat = true) := HY.out (decide_eq_true (by omega))
            have z1 : ¬ (97 : Int) ≤ ((s[j]'hlt).toNat : Int) := by omega
            have z2 : (48 : Int) ≤ ((s[j]'hlt).toNat : Int) := by omega
            have z3 : ((s[j]'hlt).toNat : Int) ≤ 57 := by omega
            have jz : ((j : Int) == 0) = false := beq_eq_false_iff_ne.2 (by omega)
            clear HY HX HJ HD q1 q3 q4
            go_wp2
            go_roundw
            case rel => exact ⟨trivial, j + 1, by omega, by go_num, HZ⟩
            case measure => simp [intOf]; omega
          · have HZ : Hid (∀ i (h : i < s.size), i < j + 1 → nameOk i (s[i]'h).toNat = true) := HY.out (decide_eq_true (by omega))
            have z1 : ¬ (97 : Int) ≤ ((s[j]'hlt).toNat : Int) := by omega
            have z2 : ¬ (48 : Int) ≤ ((s[j]'hlt).toNat : Int) := by omega
            have jz : ((j : Int) == 0) = false := beq_eq_false_iff_ne.2 (by omega)
            have zd : (((s[j]'hlt).toNat : Int) != 46) = false := by rw [bne_eq_false_iff_eq]; omega
            clear HY HX HJ HD q1 q3 q4
            go_wp2
            go_roundw
            case rel => exact ⟨trivial, j + 1, by omega, by go_num, HZ⟩
            case measure => simp [intOf]; omega
          · have HZ : Hid (F = false) := HX.out (decide_eq_false (by omega))
            have z1 : ¬ (97 : Int) ≤ ((s[j]'hlt).toNat : Int) := by omega
            have z2 : ¬ (48 : Int) ≤ ((s[j]'hlt).toNat : Int) := by omega
            have jz : ((j : Int) == 0) = false := beq_eq_false_iff_ne.2 (by omega)
            have zd : (((s[j]'hlt).toNat : Int) != 46) = true := by rw [bne_iff_ne]; omega
            clear HY HX HJ HD q1 q3 q4
            go_wp2
            all_goals
              go_ret
              exact ⟨by rw [HZ.out]; rfl, rfl⟩
          · have HZ : Hid (F = false) := HX.out (decide_eq_false (by omega))
            have z1 : ¬ (97 : Int) ≤ ((s[j]'hlt).toNat : Int) := by omega
            have z2 : (48 : Int) ≤ ((s[j]'hlt).toNat : Int) := by omega
            have z3 : ¬ ((s[j]'hlt).toNat : Int) ≤ 57 := by omega
            have jz : ((j : Int) == 0) = false := beq_eq_false_iff_ne.2 (by omega)
            have zd : (((s[j]'hlt).toNat : Int) != 46) = true := by rw [bne_iff_ne]; omega
            clear HY HX HJ HD q1 q3
            go_wp2
            all_goals
              go_ret
              exact ⟨by rw [HZ.out]; rfl, rfl⟩
          · have HZ : Hid (F = false) := HX.out (decide_eq_false (by omega))
            subst q3
            have z1 : (97 : Int) ≤ ((s[0]'hlt).toNat : Int) := by omega
            have z2 : ¬ ((s[0]'hlt).toNat : Int) ≤ 122 := by omega
            clear HY HX HJ HD q1 q2
            go_wp2
            all_goals
              go_ret
              exact ⟨by rw [HZ.out]; rfl, rfl⟩
          · have HZ : Hid (F = false) := HX.out (decide_eq_false (by omega))
            have z1 : (97 : Int) ≤ ((s[j]'hlt).toNat : Int) := by omega
            have z2 : ¬ ((s[j]'hlt).toNat : Int) ≤ 122 := by omega
            have z3 : (48 : Int) ≤ ((s[j]'hlt).toNat : Int) := by omega
            have z4 : ¬ ((s[j]'hlt).toNat : Int) ≤ 57 := by omega
            have jz : ((j : Int) == 0) = false := beq_eq_false_iff_ne.2 (by omega)
            have zd : (((s[j]'hlt).toNat : Int) != 46) = true := by rw [bne_iff_ne]; omega
            clear HY HX HJ HD q1 q2
            go_wp2
            all_goals
              go_ret
              exact ⟨by rw [HZ.out]; rfl, rfl⟩
        · have HZ : Hid (F = true) := HD.out true ⟨fun _ i h => HJ.out i h (by omega), fun _ => rfl⟩
          obtain rfl : j = s.size := by omega
          clear HJ HD
          go_wp2
          go_ret
          exact ⟨by rw [HZ.out]; rfl, rfl⟩
    · have HZ : decide (isName s) = false := decide_eq_false (fun h => h2 h.2.1)
      have i1 : ¬ (s.size : Int) < 1 := by omega
      have i2 : 12 < (s.size : Int) := by omega
      rw [HZ]
      go_enter Tryd.func20, Tryd.ntmps20
      go_wp2
      go_ret
      exact ⟨rfl, rfl⟩
  · have HZ : decide (isName s) = false := decide_eq_false (fun h => h1 h.1)
    have i1 : (s.size : Int) < 1 := by omega
    rw [HZ]
    go_enter Tryd.func20, Tryd.ntmps20
    go_wp2
    go_ret
    exact ⟨rfl, rfl⟩

end Go.Proofs.YtepgcgokolmedaaDoor
