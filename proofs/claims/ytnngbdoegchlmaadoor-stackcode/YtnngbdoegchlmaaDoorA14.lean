import Derived.Test.YtnngbdoegchlmaaDoorA13
import Derived.Test.YtnngbdoegchlmaaDoorA03
import Derived.Test.YtnngbdoegchlmaaDoorProg
import Derived.Test.YtnngbdoegchlmaaDoorA02
import Derived.WalkKit
import Derived.Test.YtnngbdoegchlmaaDoorA01
import Derived.Deep.QuietTactic

/- SpT -/
namespace Go.Proofs.YtnngbdoegchlmaaDoor
open Go.RowKit Go.Extern.Stop Go.Stop Go.Extern Go.Maps Go.WideMaps Go.Sort

def nameShort (p : ByteArray) : Prop := isName p ∧ p.size ≤ 8
open Classical in
theorem cname_bad {p : ByteArray} (hn : ¬ nameShort p) {a : Nat → Addr} {w : World} (hE : Env a w) : Calls Tryd.prog 12 #[.string p] w fun e w' => e = .returned (errAt (a 3)) ∧ Below w.heap.size w w' := by
  have g3 : w.cell? ⟨0, 0, none⟩ = some (errAt (a 3)) := hE.cell 3 (by decide)
  have HN := hide (pisName_any p)
  clear hE
  by_cases hi : isName p
  · have hs : 8 < (p.size : Int) := by
      have : ¬ p.size ≤ 8 := fun e => hn ⟨hi, e⟩
      omega
    rw [decide_eq_true hi] at HN
    clear hi hn
    go_enter Tryd.func12, Tryd.ntmps12
    go_wp2_with fail
    refine (HN.out _).mono ?_
    rintro e w1 ⟨rfl, hb⟩
    replace g3 := keep_cell hb g3
    go_wp2_with fail
    go_ret
    exact ⟨rfl, hb⟩
  · rw [decide_eq_false hi] at HN
    clear hi hn
    go_enter Tryd.func12, Tryd.ntmps12
    go_wp2_with fail
    refine (HN.out _).mono ?_
    rintro e w1 ⟨rfl, hb⟩
    replace g3 := keep_cell hb g3
    go_wp2_with fail
    go_ret
    exact ⟨rfl, hb⟩

end Go.Proofs.YtnngbdoegchlmaaDoor

/- CodeA -/
namespace Go.Proofs.YtnngbdoegchlmaaDoor
open Go.RowKit Go.Extern.Stop Go.Stop Go.Extern
set_option maxRecDepth 20000 in
set_option maxHeartbeats 4000000 in
theorem shape_any (op : ByteArray) (w : World) :
    Calls Tryd.prog 33 #[.string op] w fun e w' => e = .returned (shapeV (shape op.toList)) ∧ w' = w := by
  cases h0 : (op.toList == [99, 111, 110, 115, 116])
  rotate_left
  · have hs : shape op.toList = some [114, 118] := by simp only [shape, h0, if_true]
    rw [hs]
    go_enter Tryd.func33, Tryd.ntmps33
    go_wp2
    go_ret2
    exact ⟨rfl, rfl⟩
  cases h1 : (op.toList == [109, 111, 118, 101])
  rotate_left
  · have hs : shape op.toList = some [114, 114] := by simp only [shape, h0, h1, Bool.false_eq_true, if_false, if_true]
    rw [hs]
    go_enter Tryd.func33, Tryd.ntmps33
    go_wp2
    go_ret2
    exact ⟨rfl, rfl⟩
  cases h2 : (op.toList == [97, 100, 100])
  rotate_left
  · have hs : shape op.toList = some [114, 114, 114] := by simp only [shape, h0, h1, h2, Bool.false_eq_true, if_false, if_true]
    rw [hs]
    go_enter Tryd.func33, Tryd.ntmps33
    go_wp2
    go_ret2
    exact ⟨rfl, rfl⟩
  cases h3 : (op.toList == [115, 117, 98])
  rotate_left
  · have hs : shape op.toList = some [114, 114, 114] := by simp only [shape, h0, h1, h2, h3, Bool.false_eq_true, if_false, if_true]
    rw [hs]
    go_enter Tryd.func33, Tryd.ntmps33
    go_wp2
    go_ret2
    exact ⟨rfl, rfl⟩
  cases h4 : (op.toList == [97, 110, 100])
  rotate_left
  · have hs : shape op.toList = some [114, 114, 114] := by simp only [shape, h0, h1, h2, h3, h4, Bool.false_eq_true, if_false, if_true]
    rw [hs]
    go_enter Tryd.func33, Tryd.ntmps33
    go_wp2
    go_ret2
    exact ⟨rfl, rfl⟩
  cases h5 : (op.toList == [120, 111, 114])
  rotate_left
  · have hs : shape op.toList = some [114, 114, 114] := by simp only [shape, h0, h1, h2, h3, h4, h5, Bool.false_eq_true, if_false, if_true]
    rw [hs]
    go_enter Tryd.func33, Tryd.ntmps33
    go_wp2
    go_ret2
    exact ⟨rfl, rfl⟩
  cases h6 : (op.toList == [108, 111, 97, 100])
  rotate_left
  · have hs : shape op.toList = some [114, 114, 119] := by simp only [shape, h0, h1, h2, h3, h4, h5, h6, Bool.false_eq_true, if_false, if_true]
    rw [hs]
    go_enter Tryd.func33, Tryd.ntmps33
    go_wp2
    go_ret2
    exact ⟨rfl, rfl⟩
  cases h7 : (op.toList == [115, 116, 111, 114, 101])
  rotate_left
  · have hs : shape op.toList = some [114, 114, 119] := by simp only [shape, h0, h1, h2, h3, h4, h5, h6, h7, Bool.false_eq_true, if_false, if_true]
    rw [hs]
    go_enter Tryd.func33, Tryd.ntmps33
    go_wp2
    go_ret2
    exact ⟨rfl, rfl⟩
  cases h8 : (op.toList == [115, 119, 97, 112])
  rotate_left
  · have hs : shape op.toList = some [114, 114, 119] := by simp only [shape, h0, h1, h2, h3, h4, h5, h6, h7, h8, Bool.false_eq_true, if_false, if_true]
    rw [hs]
    go_enter Tryd.func33, Tryd.ntmps33
    go_wp2
    go_ret2
    exact ⟨rfl, rfl⟩
  cases h9 : (op.toList == [99, 97, 115])
  rotate_left
  · have hs : shape op.toList = some [114, 115, 119] := by simp only [shape, h0, h1, h2, h3, h4, h5, h6, h7, h8, h9, Bool.false_eq_true, if_false, if_true]
    rw [hs]
    go_enter Tryd.func33, Tryd.ntmps33
    go_wp2
    go_ret2
    exact ⟨rfl, rfl⟩
  cases h10 : (op.toList == [97, 108, 108, 111, 99])
  rotate_left
  · have hs : shape op.toList = some [114] := by simp only [shape, h0, h1, h2, h3, h4, h5, h6, h7, h8, h9, h10, Bool.false_eq_true, if_false, if_true]
    rw [hs]
    go_enter Tryd.func33, Tryd.ntmps33
    go_wp2
    go_ret2
    exact ⟨rfl, rfl⟩
  cases h11 : (op.toList == [102, 114, 101, 101])
  rotate_left
  · have hs : shape op.toList = some [114] := by simp only [shape, h0, h1, h2, h3, h4, h5, h6, h7, h8, h9, h10, h11, Bool.false_eq_true, if_false, if_true]
    rw [hs]
    go_enter Tryd.func33, Tryd.ntmps33
    go_wp2
    go_ret2
    exact ⟨rfl, rfl⟩
  cases h12 : (op.toList == [109, 97, 114, 107])
  rotate_left
  · have hs : shape op.toList = some [114] := by simp only [shape, h0, h1, h2, h3, h4, h5, h6, h7, h8, h9, h10, h11, h12, Bool.false_eq_true, if_false, if_true]
    rw [hs]
    go_enter Tryd.func33, Tryd.ntmps33
    go_wp2
    go_ret2
    exact ⟨rfl, rfl⟩
  cases h13 : (op.toList == [110, 101, 101, 100])
  rotate_left
  · have hs : shape op.toList = some [114] := by simp only [shape, h0, h1, h2, h3, h4, h5, h6, h7, h8, h9, h10, h11, h12, h13, Bool.false_eq_true, if_false, if_true]
    rw [hs]
    go_enter Tryd.func33, Tryd.ntmps33
    go_wp2
    go_ret2
    exact ⟨rfl, rfl⟩
  cases h14 : (op.toList == [102, 101, 110, 99, 101])
  rotate_left
  · have hs : shape op.toList = some [] := by simp only [shape, h0, h1, h2, h3, h4, h5, h6, h7, h8, h9, h10, h11, h12, h13, h14, Bool.false_eq_true, if_false, if_true]
    rw [hs]
    go_enter Tryd.func33, Tryd.ntmps33
    go_wp2
    go_ret2
    exact ⟨rfl, rfl⟩
  cases h15 : (op.toList == [102, 111, 114, 99, 101])
  rotate_left
  · have hs : shape op.toList = some [] := by simp only [shape, h0, h1, h2, h3, h4, h5, h6, h7, h8, h9, h10, h11, h12, h13, h14, h15, Bool.false_eq_true, if_false, if_true]
    rw [hs]
    go_enter Tryd.func33, Tryd.ntmps33
    go_wp2
    go_ret2
    exact ⟨rfl, rfl⟩
  cases h16 : (op.toList == [115, 116, 111, 112])
  rotate_left
  · have hs : shape op.toList = some [] := by simp only [shape, h0, h1, h2, h3, h4, h5, h6, h7, h8, h9, h10, h11, h12, h13, h14, h15, h16, Bool.false_eq_true, if_false, if_true]
    rw [hs]
    go_enter Tryd.func33, Tryd.ntmps33
    go_wp2
    go_ret2
    exact ⟨rfl, rfl⟩
  cases h17 : (op.toList == [122, 101, 114, 111])
  rotate_left
  · have hs : shape op.toList = some [114, 108] := by simp only [shape, h0, h1, h2, h3, h4, h5, h6, h7, h8, h9, h10, h11, h12, h13, h14, h15, h16, h17, Bool.false_eq_true, if_false, if_true]
    rw [hs]
    go_enter Tryd.func33, Tryd.ntmps33
    go_wp2
    go_ret2
    exact ⟨rfl, rfl⟩
  cases h18 : (op.toList == [115, 97, 109, 101])
  rotate_left
  · have hs : shape op.toList = some [114, 114, 108] := by simp only [shape, h0, h1, h2, h3, h4, h5, h6, h7, h8, h9, h10, h11, h12, h13, h14, h15, h16, h17, h18, Bool.false_eq_true, if_false, if_true]
    rw [hs]
    go_enter Tryd.func33, Tryd.ntmps33
    go_wp2
    go_ret2
    exact ⟨rfl, rfl⟩
  cases h19 : (op.toList == [103, 111, 116, 111])
  rotate_left
  · have hs : shape op.toList = some [108] := by simp only [shape, h0, h1, h2, h3, h4, h5, h6, h7, h8, h9, h10, h11, h12, h13, h14, h15, h16, h17, h18, h19, Bool.false_eq_true, if_false, if_true]
    rw [hs]
    go_enter Tryd.func33, Tryd.ntmps33
    go_wp2
    go_ret2
    exact ⟨rfl, rfl⟩
  cases h20 : (op.toList == [108, 97, 98, 101, 108])
  rotate_left
  · have hs : shape op.toList = some [108] := by simp only [shape, h0, h1, h2, h3, h4, h5, h6, h7, h8, h9, h10, h11, h12, h13, h14, h15, h16, h17, h18, h19, h20, Bool.false_eq_true, if_false, if_true]
    rw [hs]
    go_enter Tryd.func33, Tryd.ntmps33
    go_wp2
    go_ret2
    exact ⟨rfl, rfl⟩
  have hs : shape op.toList = none := by simp only [shape, h0, h1, h2, h3, h4, h5, h6, h7, h8, h9, h10, h11, h12, h13, h14, h15, h16, h17, h18, h19, h20, Bool.false_eq_true, if_false]
  rw [hs]
  go_enter Tryd.func33, Tryd.ntmps33
  go_wp2
  go_ret2
  exact ⟨rfl, rfl⟩

end Go.Proofs.YtnngbdoegchlmaaDoor

/- CodeB -/
namespace Go.Proofs.YtnngbdoegchlmaaDoor
open Go.RowKit Go.Extern.Stop Go.Stop Go.Extern
open Classical in
theorem isName_any (s : ByteArray) (w : World) :
    Calls Tryd.prog 15 #[.string s] w fun e w' => e = .returned (.bool (decide (isName s))) ∧ w' = w := by
  by_cases h1 : 1 ≤ s.size
  · by_cases h2 : s.size ≤ 12
    · have HD : Hid (∀ f : Bool, (f = true ↔ ∀ j (h : j < s.size), nameOk j (s[j]'h).toNat = true) → decide (isName s) = f) := fun f hf => by
        cases f with
        | true => exact decide_eq_true ⟨h1, h2, hf.1 rfl⟩
        | false => exact decide_eq_false (fun h => by have := hf.2 h.2.2; cases this)
      have i1 : ¬ (s.size : Int) < 1 := by omega
      have i2 : ¬ 12 < (s.size : Int) := by omega
      generalize decide (isName s) = F at *
      go_enter Tryd.func15, Tryd.ntmps15
      go_wp2_with fail
      go_loopw [3, 4, 5] (fun i _ _ wr => wr = w ∧ ∃ j : Nat, j ≤ s.size ∧ i = .int .i64 j ∧ Hid (∀ i (h : i < s.size), i < j → nameOk i (s[i]'h).toNat = true)) (fun i _ _ _ => s.size - (intOf i).toNat)
      case atStart => exact ⟨rfl, 0, Nat.zero_le _, rfl, fun i _ h => absurd h (Nat.not_lt_zero _)⟩
      case round =>
        obtain ⟨rfl, j, hj, rfl, HJ⟩ := hrel
        by_cases hlt : j < s.size
        · have ji : (j : Int) < s.size := by omega
          have HY : Hid (nameOk j (s[j]'hlt).toNat = true → ∀ i (h : i < s.size), i < j + 1 → nameOk i (s[i]'h).toNat = true) := fun hy i h hi => by
            by_cases e : i = j
            · subst e; exact hy
            · exact HJ.out i h (by omega)
          have HX : Hid (nameOk j (s[j]'hlt).toNat = false → F = false) := fun hx => HD.out false ⟨(fun h => Bool.noConfusion h), (fun h => by rw [h j hlt] at hx; cases hx)⟩
          have hor : ((97 ≤ (s[j]'hlt).toNat ∧ (s[j]'hlt).toNat ≤ 122)) ∨ (¬ 97 ≤ (s[j]'hlt).toNat ∧ j = 0) ∨ (¬ 97 ≤ (s[j]'hlt).toNat ∧ j ≠ 0 ∧ 48 ≤ (s[j]'hlt).toNat ∧ (s[j]'hlt).toNat ≤ 57) ∨ (¬ 97 ≤ (s[j]'hlt).toNat ∧ j ≠ 0 ∧ ¬ 48 ≤ (s[j]'hlt).toNat ∧ (s[j]'hlt).toNat = 46) ∨ (¬ 97 ≤ (s[j]'hlt).toNat ∧ j ≠ 0 ∧ ¬ 48 ≤ (s[j]'hlt).toNat ∧ (s[j]'hlt).toNat ≠ 46)
              ∨ (¬ 97 ≤ (s[j]'hlt).toNat ∧ j ≠ 0 ∧ ¬ (s[j]'hlt).toNat ≤ 57) ∨ (97 ≤ (s[j]'hlt).toNat ∧ ¬ (s[j]'hlt).toNat ≤ 122 ∧ j = 0) ∨ (97 ≤ (s[j]'hlt).toNat ∧ ¬ (s[j]'hlt).toNat ≤ 122 ∧ j ≠ 0) := by omega
          rcases hor with ⟨q1, q2⟩ | ⟨q1, q2⟩ | ⟨q1, q2, q3, q4⟩ | ⟨q1, q2, q3, q4⟩ | ⟨q1, q2, q3, q4⟩ | ⟨q1, q2, q3⟩ | ⟨q1, q2, q3⟩ | ⟨q1, q2, q3⟩
          · have HZ : Hid (∀ i (h : i < s.size), i < j + 1 → nameOk i (s[i]'h).toNat = true) := HY.out (decide_eq_true (by omega))
            have z1 : (97 : Int) ≤ ((s[j]'hlt).toNat : Int) := by omega
            have z2 : ((s[j]'hlt).toNat : Int) ≤ 122 := by omega
            clear HY HX HJ HD q1 q2
            go_wp2
            go_roundw
            case rel => exact ⟨trivial, j + 1, by omega, by go_num, HZ⟩
            case measure => simp [intOf]; omega
          · have HZ : Hid (F = false) := HX.out (decide_eq_false (by omega))
            subst q2
            have z1 : ¬ (97 : Int) ≤ ((s[0]'hlt).toNat : Int) := by omega
            clear HY HX HJ HD q1
            go_wp2
            all_goals
              go_ret
              exact ⟨by rw [HZ.out]; rfl, rfl⟩
          · have HZ : Hid (∀ i (h : i < s.size), i < j + 1 → nameOk i (s[i]'h).toNat = true) := HY.out (decide_eq_true (by omega))
            have z1 : ¬ (97 : Int) ≤ ((s[j]'hlt).toNat : Int) := by omega
            have z2 : (48 : Int) ≤ ((s[j]'hlt).toNat : Int) := by omega
            have z3 : ((s[j]'hlt).toNat : Int) ≤ 57 := by omega
            have jz : ((j : Int) == 0) = false := beq_eq_false_iff_ne.2 (by omega)
            clear HY HX HJ HD q1 q3 q4
            go_wp2
            go_roundw
            case rel => exact ⟨trivial, j + 1, by omega, by go_num, HZ⟩
            case measure => simp [intOf]; omega
          · have HZ : Hid (∀ i (h : i < s.size), i < j + 1 → nameOk i (s[i]'h).toNat = true) := HY.out (decide_eq_true (by omega))
            have z1 : ¬ (97 : Int) ≤ ((s[j]'hlt).toNat : Int) := by omega
            have z2 : ¬ (48 : Int) ≤ ((s[j]'hlt).toNat : Int) := by omega
            have jz : ((j : Int) == 0) = false := beq_eq_false_iff_ne.2 (by omega)
            have zd : (((s[j]'hlt).toNat : Int) != 46) = false := by rw [bne_eq_false_iff_eq]; omega
            clear HY HX HJ HD q1 q3 q4
            go_wp2
            go_roundw
            case rel => exact ⟨trivial, j + 1, by omega, by go_num, HZ⟩
            case measure => simp [intOf]; omega
          · have HZ : Hid (F = false) := HX.out (decide_eq_false (by omega))
            have z1 : ¬ (97 : Int) ≤ ((s[j]'hlt).toNat : Int) := by omega
            have z2 : ¬ (48 : Int) ≤ ((s[j]'hlt).toNat : Int) := by omega
            have jz : ((j : Int) == 0) = false := beq_eq_false_iff_ne.2 (by omega)
            have zd : (((s[j]'hlt).toNat : Int) != 46) = true := by rw [bne_iff_ne]; omega
            clear HY HX HJ HD q1 q3 q4
            go_wp2
            all_goals
              go_ret
              exact ⟨by rw [HZ.out]; rfl, rfl⟩
          · have HZ : Hid (F = false) := HX.out (decide_eq_false (by omega))
            have z1 : ¬ (97 : Int) ≤ ((s[j]'hlt).toNat : Int) := by omega
            have z2 : (48 : Int) ≤ ((s[j]'hlt).toNat : Int) := by omega
            have z3 : ¬ ((s[j]'hlt).toNat : Int) ≤ 57 := by omega
            have jz : ((j : Int) == 0) = false := beq_eq_false_iff_ne.2 (by omega)
            have zd : (((s[j]'hlt).toNat : Int) != 46) = true := by rw [bne_iff_ne]; omega
            clear HY HX HJ HD q1 q3
            go_wp2
            all_goals
              go_ret
              exact ⟨by rw [HZ.out]; rfl, rfl⟩
          · have HZ : Hid (F = false) := HX.out (decide_eq_false (by omega))
            subst q3
            have z1 : (97 : Int) ≤ ((s[0]'hlt).toNat : Int) := by omega
            have z2 : ¬ ((s[0]'hlt).toNat : Int) ≤ 122 := by omega
            clear HY HX HJ HD q1 q2
            go_wp2
            all_goals
              go_ret
              exact ⟨by rw [HZ.out]; rfl, rfl⟩
          · have HZ : Hid (F = false) := HX.out (decide_eq_false (by omega))
            have z1 : (97 : Int) ≤ ((s[j]'hlt).toNat : Int) := by omega
            have z2 : ¬ ((s[j]'hlt).toNat : Int) ≤ 122 := by omega
            have z3 : (48 : Int) ≤ ((s[j]'hlt).toNat : Int) := by omega
            have z4 : ¬ ((s[j]'hlt).toNat : Int) ≤ 57 := by omega
            have jz : ((j : Int) == 0) = false := beq_eq_false_iff_ne.2 (by omega)
            have zd : (((s[j]'hlt).toNat : Int) != 46) = true := by rw [bne_iff_ne]; omega
            clear HY HX HJ HD q1 q2
            go_wp2
            all_goals
              go_ret
              exact ⟨by rw [HZ.out]; rfl, rfl⟩
        · have HZ : Hid (F = true) := HD.out true ⟨fun _ i h => HJ.out i h (by omega), fun _ => rfl⟩
          obtain rfl : j = s.size := by omega
          clear HJ HD
          go_wp2
          go_ret
          exact ⟨by rw [HZ.out]; rfl, rfl⟩
    · have HZ : decide (isName s) = false := decide_eq_false (fun h => h2 h.2.1)
      have i1 : ¬ (s.size : Int) < 1 := by omega
      have i2 : 12 < (s.size : Int) := by omega
      rw [HZ]
      go_enter Tryd.func15, Tryd.ntmps15
      go_wp2
      go_ret
      exact ⟨rfl, rfl⟩
  · have HZ : decide (isName s) = false := decide_eq_false (fun h => h1 h.1)
    have i1 : (s.size : Int) < 1 := by omega
    rw [HZ]
    go_enter Tryd.func15, Tryd.ntmps15
    go_wp2
    go_ret
    exact ⟨rfl, rfl⟩

end Go.Proofs.YtnngbdoegchlmaaDoor
