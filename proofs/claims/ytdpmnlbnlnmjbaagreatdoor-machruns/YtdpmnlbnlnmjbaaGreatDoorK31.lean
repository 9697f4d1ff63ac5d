import Derived.Test.YtdpmnlbnlnmjbaaGreatDoorK30
import Derived.Test.YtdpmnlbnlnmjbaaGreatDoorK17

/- CodeB -/
namespace Go.Proofs.YtdpmnlbnlnmjbaaGreatDoor
open Go.RowKit Go.Extern.Stop Go.Stop Go.Extern
open Classical in
theorem isName_any (s : ByteArray) (w : World) :
    Calls Tryz.prog 109 #[.string s] w fun e w' => e = .returned (.bool (decide (isName s))) ∧ w' = w := by
  by_cases h1 : 1 ≤ s.size
  · by_cases h2 : s.size ≤ 12
    · have HD : Hid (∀ f : Bool, (f = true ↔ ∀ j (h : j < s.size), nameOk j (s[j]'h).toNat = true) → decide (isName s) = f) := fun f hf => by
        cases f with
        | true => exact decide_eq_true ⟨h1, h2, hf.1 rfl⟩
        | false => exact decide_eq_false (fun h => by have := hf.2 h.2.2; cases this)
      have i1 : ¬ (s.size : Int) < 1 := by omega
      have i2 : ¬ 12 < (s.size : Int) := by omega
      generalize decide (isName s) = F at *
      go_enter Tryz.func109, Tryz.ntmps109
      go_wp2_with fail
      go_loopw [3, 4, 5] (fun i _ _ wr => wr = w ∧ ∃ j : Nat, j ≤ s.size ∧ i = .int .i64 j ∧ Hid (∀ i (h : i < s.size), i < j → nameOk i (s[i]'h).toNat = true)) (fun i _ _ _ => s.size - (intOf i).toNat)
      case atStart => exact ⟨rfl, 0, Nat.zero_le _, rfl, fun i _ h => absurd h (Nat.not_lt_zero _)⟩
      case round =>
        obtain ⟨rfl, j, hj, rfl, HJ⟩ := hrel
        by_cases hlt : j < s.size
        · have ji : (j : Int) < s.size := by omega
          have HY : Hid (nameOk j (s[j]'hlt).toNat = true → ∀ i (h : i < s.size), i < j + 1 → nameOk i (s[i]'h).toNat = true) := fun hy i h hi => by
            by_cases e : i = j
            · subst e; exact hy
            · exact HJ.out i h (by omega)
          have HX : Hid (nameOk j (s[j]'hlt).toNat = false → F = false) := fun hx => HD.out false ⟨(fun h => Bool.noConfusion h), (fun h => by rw [h j hlt] at hx; cases hx)⟩
          have hor : ((97 ≤ (s[j]'hlt).toNat ∧ (s[j]'hlt).toNat ≤ 122)) ∨ (¬ 97 ≤ (s[j]'hlt).toNat ∧ j = 0) ∨ (¬ 97 ≤ (s[j]'hlt).toNat ∧ j ≠ 0 ∧ 48 ≤ (s[j]'hlt).toNat ∧ (s[j]'hlt).toNat ≤ 57) ∨ (¬ 97 ≤ (s[j]'hlt).toNat ∧ j ≠ 0 ∧ ¬ 48 ≤ (s[j]'hlt).toNat ∧ (s[j]'hlt).toNat = 46) ∨ (¬ 97 ≤ (s[j]'hlt).toNat ∧ j ≠ 0 ∧ ¬ 48 ≤ (s[j]'hlt).toNat ∧ (s[j]'hlt).toNat ≠ 46)
              ∨ (¬ 97 ≤ (s[j]'hlt).toNat ∧ j ≠ 0 ∧ ¬ (s[j]'hlt).toNat ≤ 57) ∨ (97 ≤ (s[j]'hlt).toNat ∧ ¬ (s[j]'hlt).toNat ≤ 122 ∧ j = 0) ∨ (97 ≤ (s[j]'hlt).toNat ∧ ¬ (s[j]'hlt).toNat ≤ 122 ∧ j ≠ 0) := by omega
          rcases hor with ⟨q1, q2⟩ | ⟨q1, q2⟩ | ⟨q1, q2, q3, q4⟩ | ⟨q1, q2, q3, q4⟩ | ⟨q1, q2, q3, q4⟩ | ⟨q1, q2, q3⟩ | ⟨q1, q2, q3⟩ | ⟨q1, q2, q3⟩
          · have HZ : Hid (∀ i (h : i < s.size), i < j + 1 → nameOk i (s[i]'h).toNat = true) := HY.out (decide_eq_true (by omega))
            have z1 : (97 : Int) ≤ ((s[j]'hlt).toNat : Int) := by omega
            have z2 : ((s[j]'hlt).toNat : Int) ≤ 122 := by omega
            clear HY HX HJ HD q1 q2
            go_wp2
            go_roundw
            case rel => exact ⟨trivial, j + 1, by omega, by go_num, HZ⟩
            case measure => simp [intOf]; omega
          · have HZ : Hid (F = false) := HX.out (decide_eq_false (by omega))
            subst q2
            have z1 : ¬ (97 : Int) ≤ ((s[0]'hlt).toNat : Int) := by omega
            clear HY HX HJ HD q1
            go_wp2
            all_goals
              go_ret
              exact ⟨by rw [HZ.out]; rfl, rfl⟩
          · have HZ : Hid (∀ i (h : i < s.size), i < j + 1 → nameOk i (s[i]'h).toNat = true) := HY.out (decide_eq_true (by omega))
            have z1 : ¬ (97 : Int) ≤ ((s[j]'hlt).toNat : Int) := by omega
            have z2 : (48 : Int) ≤ ((s[j]'hlt).toNat : Int) := by omega
            have z3 : ((s[j]'hlt).toNat : Int) ≤ 57 := by omega
            have jz : ((j : Int) == 0) = false := beq_eq_false_iff_ne.2 (by omega)
            clear HY HX HJ HD q1 q3 q4
            go_wp2
            go_roundw
            case rel => exact ⟨trivial, j + 1, by omega, by go_num, HZ⟩
            case measure => simp [intOf]; omega
          · have HZ : Hid (∀ i (h : i < s.size), i < j + 1 → nameOk i (s[i]'h).toNat = true) := HY.out (decide_eq_true (by omega))
            have z1 : ¬ (97 : Int) ≤ ((s[j]'hlt).toNat : Int) := by omega
            have z2 : ¬ (48 : Int) ≤ ((s[j]'hlt).toNat : Int) := by omega
            have jz : ((j : Int) == 0) = false := beq_eq_false_iff_ne.2 (by omega)
            have zd : (((s[j]'hlt).toNat : Int) != 46) = false := by rw [bne_eq_false_iff_eq]; omega
            clear HY HX HJ HD q1 q3 q4
            go_wp2
            go_roundw
            case rel => exact ⟨trivial, j + 1, by omega, by go_num, HZ⟩
            case measure => simp [intOf]; omega
          · have HZ : Hid (F = false) := HX.out (decide_eq_false (by omega))
            have z1 : ¬ (97 : Int) ≤ ((s[j]'hlt).toNat : Int) := by omega
            have z2 : ¬ (48 : Int) ≤ ((s[j]'hlt).toNat : Int) := by omega
            have jz : ((j : Int) == 0) = false := beq_eq_false_iff_ne.2 (by omega)
            have zd : (((s[j]'hlt).toNat : Int) != 46) = true := by rw [bne_iff_ne]; omega
            clear HY HX HJ HD q1 q3 q4
            go_wp2
            all_goals
              go_ret
              exact ⟨by rw [HZ.out]; rfl, rfl⟩
          · have HZ : Hid (F = false) := HX.out (decide_eq_false (by omega))
            have z1 : ¬ (97 : Int) ≤ ((s[j]'hlt).toNat : Int) := by omega
            have z2 : (48 : Int) ≤ ((s[j]'hlt).toNat : Int) := by omega
            have z3 : ¬ ((s[j]'hlt).toNat : Int) ≤ 57 := by omega
            have jz : ((j : Int) == 0) = false := beq_eq_false_iff_ne.2 (by omega)
            have zd : (((s[j]'hlt).toNat : Int) != 46) = true := by rw [bne_iff_ne]; omega
            clear HY HX HJ HD q1 q3
            go_wp2
            all_goals
              go_ret
              exact ⟨by rw [HZ.out]; rfl, rfl⟩
          · have HZ : Hid (F = false) := HX.out (decide_eq_false (by omega))
            subst q3
            have z1 : (97 : Int) ≤ ((s[0]'hlt).toNat : Int) := by omega
            have z2 : ¬ ((s[0]'hlt).toNat : Int) ≤ 122 := by omega
            clear HY HX HJ HD q1 q2
            go_wp2
            all_goals
              go_ret
              exact ⟨by rw [HZ.out]; rfl, rfl⟩
          · have HZ : Hid (F = false) := HX.out (decide_eq_false (by omega))
            have z1 : (97 : Int) ≤ ((s[j]'hlt).toNat : Int) := by omega
            have z2 : ¬ ((s[j]'hlt).toNat : Int) ≤ 122 := by omega
            have z3 : (48 : Int) ≤ ((s[j]'hlt).toNat : Int) := by omega
            have z4 : ¬ ((s[j]'hlt).toNat : Int) ≤ 57 := by omega
            have jz : ((j : Int) == 0) = false := beq_eq_false_iff_ne.2 (by omega)
            have zd : (((s[j]'hlt).toNat : Int) != 46) = true := by rw [bne_iff_ne]; omega
            clear HY HX HJ HD q1 q2
            go_wp2
            all_goals
              go_ret
              exact ⟨by rw [HZ.out]; rfl, rfl⟩
        · have HZ : Hid (F = true) := HD.out true ⟨fun _ i h => HJ.out i h (by omega), fun _ => rfl⟩
          obtain rfl : j = s.size := by omega
          clear HJ HD
          go_wp2
          go_ret
          exact ⟨by rw [HZ.out]; rfl, rfl⟩
    · have HZ : decide (isName s) = false := decide_eq_false (fun h => h2 h.2.1)
      have i1 : ¬ (s.size : Int) < 1 := by omega
      have i2 : 12 < (s.size : Int) := by omega
      rw [HZ]
      go_enter Tryz.func109, Tryz.ntmps109
      go_wp2
      go_ret
      exact ⟨rfl, rfl⟩
  · have HZ : decide (isName s) = false := decide_eq_false (fun h => h1 h.1)
    have i1 : (s.size : Int) < 1 := by omega
    rw [HZ]
    go_enter Tryz.func109, Tryz.ntmps109
    go_wp2
    go_ret
    exact ⟨rfl, rfl⟩

end Go.Proofs.YtdpmnlbnlnmjbaaGreatDoor

/- CodeC -/
namespace Go.Proofs.YtdpmnlbnlnmjbaaGreatDoor
open Go.RowKit Go.Extern.Stop Go.Stop Go.Extern
def Ins.cells (x : Ins) : List Value := [.string x.op, .int .i64 x.a, .int .i64 x.b, .int .i64 x.c, .string x.to]

theorem numbers_any (x : Ins) (w : World) :
    Calls Tryz.prog 108 #[.agg #[.string x.op, .int .i64 x.a, .int .i64 x.b, .int .i64 x.c, .string x.to]] w fun e w' => e = .returned (.slice (some ⟨w.heap.size + 1, 0, none⟩) 3 3) ∧ (∀ k, k < 3 → w'.cell? ⟨w.heap.size + 1, k, none⟩ = some (.int .i64 (x.n k))) ∧ Below w.heap.size w w' := by
  go_enter Tryz.func108, Tryz.ntmps108
  go_wp2
  go_ret
  refine ⟨rfl, fun k hk => ?_, ((Below.refl _ _).alloc (Nat.le_refl _) _).alloc (by simp) _⟩
  match k, hk with
  | 0, _ => go_simp; rfl
  | 1, _ => go_simp; rfl
  | 2, _ => go_simp; rfl

theorem instr_none (x : Ins) (w : World) (h : shape x.op.toList = none) :
    Calls Tryz.prog 79 #[.agg #[.string x.op, .int .i64 x.a, .int .i64 x.b, .int .i64 x.c, .string x.to]] w fun e w' => e = .returned (.int .i64 3) ∧ Below w.heap.size w w' := by
  have HS : Hid (∀ w', Calls Tryz.prog 107 #[.string x.op] w' fun e w'' => e = .returned (.tuple #[.string ⟨#[]⟩, .bool false]) ∧ w'' = w') := fun w' => by
    have := shape_any x.op w'
    rwa [h] at this
  go_enter Tryz.func79, Tryz.ntmps79
  go_wp2_with fail
  refine (HS.out _).mono ?_
  rintro e0 w1 ⟨rfl, rfl⟩
  go_wp2
  go_ret
  exact ⟨rfl, (Below.refl _ _).alloc (Nat.le_refl _) _⟩

open Classical in
set_option maxRecDepth 20000 in
set_option maxHeartbeats 4000000 in
theorem instr_some (x : Ins) (S : ByteArray) (hS3 : S.size ≤ 3) (w : World) (hS : ∀ w', Calls Tryz.prog 107 #[.string x.op] w' fun e w'' => e = .returned (.tuple #[.string S, .bool true]) ∧ w'' = w') :
    Calls Tryz.prog 79 #[.agg #[.string x.op, .int .i64 x.a, .int .i64 x.b, .int .i64 x.c, .string x.to]] w fun e w' => e = .returned (.int .i64 (insBad x S)) ∧ Below w.heap.size w w' := by
  have HS := hide hS
  have hcl := cnt_le S S.size
  have q4 : (w.alloc (.cells #[.string x.op, .int .i64 x.a, .int .i64 x.b, .int .i64 x.c, .string x.to] 75)).cell? ⟨w.heap.size, 4, none⟩ = some (.string x.to) := by simp
  have hba : Below w.heap.size w (w.alloc (.cells #[.string x.op, .int .i64 x.a, .int .i64 x.b, .int .i64 x.c, .string x.to] 75)) := (Below.refl _ _).alloc (Nat.le_refl _) _
  have HB : Hid (insBad x S = insBad x S) := rfl
  go_enter Tryz.func79, Tryz.ntmps79
  go_wp2_with fail
  refine (HS.out _).mono ?_
  rintro e0 w1 ⟨rfl, rfl⟩
  clear HS
  go_wp2_with fail
  refine (numbers_any x _).mono ?_
  rintro e1 w2 ⟨rfl, hn, hb2⟩
  have B2 := below_step hba hb2
  replace q4 := keep_cell hb2 q4
  have HN : Hid (∀ k, k < 3 → w2.cell? ⟨w.heap.size + 1 + 1, k, none⟩ = some (.int .i64 (x.n k))) := hide (by simpa using hn)
  clear hn hb2 hba
  clear HB
  go_wp2_with fail
  go_loopw [6, 7, 8] (fun m lb i wr => wr = w2 ∧ ∃ j : Nat, j ≤ S.size ∧ i = .int .i64 j ∧ m = .int .i64 (cnt S j) ∧ lb = .bool (lab S j)) (fun _ _ i _ => S.size - (intOf i).toNat)
  case atStart => exact ⟨rfl, 0, Nat.zero_le _, rfl, rfl, rfl⟩
  case round =>
    obtain ⟨rfl, j, hj, rfl, rfl, rfl⟩ := hrel
    by_cases hlt : j < S.size
    · have ji : (j : Int) < S.size := by omega
      have hcj := cnt_le S j
      by_cases h108 : (S[j]'hlt).toNat = 108
      · have HC1 : Hid (cnt S (j + 1) = cnt S j) := by show _ = _; rw [cnt, byteAt_lt hlt, if_pos h108]; rfl
        have HC2 : Hid (lab S (j + 1) = true) := by show _ = _; rw [lab, byteAt_lt hlt, h108]; simp
        have zb : (((S[j]'hlt).toNat : Int) == 108) = true := beq_iff_eq.2 (by omega)
        go_wp2
        go_roundw
        case rel => exact ⟨trivial, j + 1, by omega, by go_num, by rw [HC1.out], by rw [HC2.out]⟩
        case measure => simp [intOf]; omega
      · have HC1 : Hid (cnt S (j + 1) = cnt S j + 1) := by show _ = _; rw [cnt, byteAt_lt hlt, if_neg h108]
        have HC2 : Hid (lab S (j + 1) = lab S j) := by show _ = _; rw [lab, byteAt_lt hlt]; simp [h108]
        have zb : (((S[j]'hlt).toNat : Int) == 108) = false := beq_eq_false_iff_ne.2 (by omega)
        go_wp2
        go_roundw
        case rel => exact ⟨trivial, j + 1, by omega, by go_num, by rw [HC1.out]; go_num, by rw [HC2.out]⟩
        case measure => simp [intOf]; omega
    · obtain rfl : j = S.size := by omega
      by_cases hto : lab S S.size = false ∧ ¬ x.to.toList = []
      · have HZ : Hid (insBad x S = 3) := by show _ = _; unfold insBad; rw [if_pos hto]
        obtain ⟨z1, z2⟩ := hto
        have zb : (x.to.toList == []) = false := beq_eq_false_iff_ne.2 z2
        rw [z1]
        go_wp2
        go_ret
        exact ⟨by rw [HZ.out]; rfl, B2⟩
      · have hc3 : cnt S S.size ≤ 3 := by omega
        cases hlb : lab S S.size
        · have hte : x.to.toList = [] := by
            by_cases h : x.to.toList = []
            · exact h
            · exact absurd ⟨hlb, h⟩ hto
          have zb : (x.to.toList == []) = true := beq_iff_eq.2 hte
          go_wp2_with fail
          go_loopw [9] (fun i wr' => wr' = wr ∧ ∃ j : Nat, cnt S S.size ≤ j ∧ j ≤ 3 ∧ i = .int .i64 j ∧ Hid (∀ k, cnt S S.size ≤ k → k < j → x.n k = 0)) (fun i _ => 3 - (intOf i).toNat)
          case atStart => exact ⟨rfl, cnt S S.size, Nat.le_refl _, by omega, rfl, fun k h1 h2 => absurd h2 (by omega)⟩
          case round =>
            obtain ⟨rfl, j, hj1, hj3, rfl, HJ⟩ := hrel
            by_cases hlt : j < 3
            · have ji : (j : Int) < 3 := by omega
              have hc := HN.out j hlt
              by_cases hz : x.n j = 0
              · have HJ' : Hid (∀ k, cnt S S.size ≤ k → k < j + 1 → x.n k = 0) := fun k h1 h2 => by
                  by_cases e : k = j
                  · rw [e]; exact hz
                  · exact HJ.out k h1 (by omega)
                rw [hz] at hc
                clear HJ hz
                go_wp2
                go_roundw
                case rel => exact ⟨trivial, j + 1, by omega, by omega, by go_num, HJ'⟩
                case measure => simp [intOf]; omega
              · have HZ : Hid (insBad x S = 3) := by
                  show _ = _
                  unfold insBad
                  rw [if_neg hto, if_pos ⟨j, hj1, hlt, hz⟩]
                have zb : (x.n j != 0) = true := by rw [bne_iff_ne]; exact hz
                clear HJ hz
                generalize x.n j = v at hc zb
                go_wp2
                go_ret
                exact ⟨by rw [HZ.out]; rfl, B2⟩
            · obtain rfl : j = 3 := by omega
              rw [show ((3 : Nat) : Int) = 3 from rfl]
              have HZ0 : Hid (¬ ∃ k, cnt S S.size ≤ k ∧ k < 3 ∧ x.n k ≠ 0) := fun ⟨k, h1, h2, h3⟩ => h3 (HJ.out k h1 h2)
              clear HJ
              go_wp2_with fail
              go_loopw [10, 11] (fun i _ wr' => wr' = wr ∧ ∃ j : Nat, j ≤ cnt S S.size ∧ i = .int .i64 j ∧ Hid (∀ k, k < j → 0 ≤ x.n k ∧ x.n k < mostOf (byteAt S k))) (fun i _ _ => cnt S S.size - (intOf i).toNat)
              case atStart => exact ⟨rfl, 0, Nat.zero_le _, rfl, fun k h => absurd h (Nat.not_lt_zero _)⟩
              case round =>
                obtain ⟨rfl, j, hj, rfl, HJ⟩ := hrel
                by_cases hlt : j < cnt S S.size
                · have hjs : j < S.size := by omega
                  have ji : (j : Int) < cnt S S.size := by omega
                  have jS : (j : Int) < S.size := by omega
                  have j3 : (j : Int) < 3 := by omega
                  have hc := HN.out j (by omega)
                  have HY : Hid ((0 ≤ x.n j ∧ x.n j < mostOf (S[j]'hjs).toNat) → ∀ k, k < j + 1 → 0 ≤ x.n k ∧ x.n k < mostOf (byteAt S k)) := fun h k hk => by
                    by_cases e : k = j
                    · subst e; rw [byteAt_lt hjs]; exact h
                    · exact HJ.out k (by omega)
                  have HX : Hid (¬ (0 ≤ x.n j ∧ x.n j < mostOf (S[j]'hjs).toNat) → insBad x S = 2) := fun h => by
                    unfold insBad
                    rw [if_neg hto, if_neg HZ0.out, if_pos ⟨j, hlt, by rw [byteAt_lt hjs]; exact h⟩]
                  have hor : ((S[j]'hjs).toNat = 114) ∨ ((S[j]'hjs).toNat ≠ 114 ∧ (S[j]'hjs).toNat = 115) ∨ ((S[j]'hjs).toNat ≠ 114 ∧ (S[j]'hjs).toNat ≠ 115 ∧ (S[j]'hjs).toNat = 119) ∨ ((S[j]'hjs).toNat ≠ 114 ∧ (S[j]'hjs).toNat ≠ 115 ∧ (S[j]'hjs).toNat ≠ 119) := by omega
                  clear HJ
                  generalize x.n j = v at hc HX HY
                  rcases hor with e1 | ⟨e1, e2⟩ | ⟨e1, e2, e3⟩ | ⟨e1, e2, e3⟩
                  · have hm : mostOf (S[j]'hjs).toNat = 8 := by unfold mostOf; simp [e1]
                    have z1 : (((S[j]'hjs).toNat : Int) == 114) = true := beq_iff_eq.2 (by omega)
                    rw [hm] at HX HY
                    by_cases hv : 0 ≤ v ∧ v < 8
                    · have HJ' := hide (HY.out hv)
                      obtain ⟨v0, v1⟩ := hv
                      clear HX HY hm
                      go_wp2
                      go_roundw
                      case rel => exact ⟨trivial, j + 1, by omega, by go_num, HJ'⟩
                      case measure => simp [intOf]; omega
                    · have HZ := hide (HX.out hv)
                      by_cases v0 : 0 ≤ v
                      · have v1 : ¬ v < 8 := fun h => hv ⟨v0, h⟩
                        clear HX HY hm hv
                        go_wp2
                        go_ret
                        exact ⟨by rw [HZ.out]; rfl, B2⟩
                      · clear HX HY hm hv
                        go_wp2
                        go_ret
                        exact ⟨by rw [HZ.out]; rfl, B2⟩
                  · have hm : mostOf (S[j]'hjs).toNat = 7 := by unfold mostOf; simp [e2]
                    have z1 : (((S[j]'hjs).toNat : Int) == 114) = false := beq_eq_false_iff_ne.2 (by omega)
                    have z2 : (((S[j]'hjs).toNat : Int) == 115) = true := beq_iff_eq.2 (by omega)
                    rw [hm] at HX HY
                    by_cases hv : 0 ≤ v ∧ v < 7
                    · have HJ' := hide (HY.out hv)
                      obtain ⟨v0, v1⟩ := hv
                      clear HX HY hm
                      go_wp2
                      go_roundw
                      case rel => exact ⟨trivial, j + 1, by omega, by go_num, HJ'⟩
                      case measure => simp [intOf]; omega
                    · have HZ := hide (HX.out hv)
                      by_cases v0 : 0 ≤ v
                      · have v1 : ¬ v < 7 := fun h => hv ⟨v0, h⟩
                        clear HX HY hm hv
                        go_wp2
                        go_ret
                        exact ⟨by rw [HZ.out]; rfl, B2⟩
                      · clear HX HY hm hv
                        go_wp2
                        go_ret
                        exact ⟨by rw [HZ.out]; rfl, B2⟩
                  · have hm : mostOf (S[j]'hjs).toNat = 4 := by unfold mostOf; simp [e3]
                    have z1 : (((S[j]'hjs).toNat : Int) == 114) = false := beq_eq_false_iff_ne.2 (by omega)
                    have z2 : (((S[j]'hjs).toNat : Int) == 115) = false := beq_eq_false_iff_ne.2 (by omega)
                    have z3 : (((S[j]'hjs).toNat : Int) == 119) = true := beq_iff_eq.2 (by omega)
                    rw [hm] at HX HY
                    by_cases hv : 0 ≤ v ∧ v < 4
                    · have HJ' := hide (HY.out hv)
                      obtain ⟨v0, v1⟩ := hv
                      clear HX HY hm
                      go_wp2
                      go_roundw
                      case rel => exact ⟨trivial, j + 1, by omega, by go_num, HJ'⟩
                      case measure => simp [intOf]; omega
                    · have HZ := hide (HX.out hv)
                      by_cases v0 : 0 ≤ v
                      · have v1 : ¬ v < 4 := fun h => hv ⟨v0, h⟩
                        clear HX HY hm hv
                        go_wp2
                        go_ret
                        exact ⟨by rw [HZ.out]; rfl, B2⟩
                      · clear HX HY hm hv
                        go_wp2
                        go_ret
                        exact ⟨by rw [HZ.out]; rfl, B2⟩
                  · have hm : mostOf (S[j]'hjs).toNat = 4294967296 := by unfold mostOf; simp [e1, e2, e3]
                    have z1 : (((S[j]'hjs).toNat : Int) == 114) = false := beq_eq_false_iff_ne.2 (by omega)
                    have z2 : (((S[j]'hjs).toNat : Int) == 115) = false := beq_eq_false_iff_ne.2 (by omega)
                    have z3 : (((S[j]'hjs).toNat : Int) == 119) = false := beq_eq_false_iff_ne.2 (by omega)
                    rw [hm] at HX HY
                    by_cases hv : 0 ≤ v ∧ v < 4294967296
                    · have HJ' := hide (HY.out hv)
                      obtain ⟨v0, v1⟩ := hv
                      clear HX HY hm
                      go_wp2
                      go_roundw
                      case rel => exact ⟨trivial, j + 1, by omega, by go_num, HJ'⟩
                      case measure => simp [intOf]; omega
                    · have HZ := hide (HX.out hv)
                      by_cases v0 : 0 ≤ v
                      · have v1 : ¬ v < 4294967296 := fun h => hv ⟨v0, h⟩
                        clear HX HY hm hv
                        go_wp2
                        go_ret
                        exact ⟨by rw [HZ.out]; rfl, B2⟩
                      · clear HX HY hm hv
                        go_wp2
                        go_ret
                        exact ⟨by rw [HZ.out]; rfl, B2⟩
                · obtain rfl : j = cnt S S.size := by omega
                  have HZ1 : Hid (¬ ∃ k, k < cnt S S.size ∧ ¬ (0 ≤ x.n k ∧ x.n k < mostOf (byteAt S k))) := fun ⟨k, h1, h2⟩ => h2 (HJ.out k h1)
                  clear HJ
                  have HZ : Hid (insBad x S = 0) := by
                    show _ = _
                    unfold insBad
                    rw [if_neg hto, if_neg HZ0.out, if_neg HZ1.out, if_neg (fun h => by rw [hlb] at h; exact Bool.noConfusion h.1)]
                  go_wp2
                  go_ret
                  exact ⟨by rw [HZ.out]; rfl, B2⟩
        · skip
          go_wp2_with fail
          go_loopw [9] (fun i wr' => wr' = wr ∧ ∃ j : Nat, cnt S S.size ≤ j ∧ j ≤ 3 ∧ i = .int .i64 j ∧ Hid (∀ k, cnt S S.size ≤ k → k < j → x.n k = 0)) (fun i _ => 3 - (intOf i).toNat)
          case atStart => exact ⟨rfl, cnt S S.size, Nat.le_refl _, by omega, rfl, fun k h1 h2 => absurd h2 (by omega)⟩
          case round =>
            obtain ⟨rfl, j, hj1, hj3, rfl, HJ⟩ := hrel
            by_cases hlt : j < 3
            · have ji : (j : Int) < 3 := by omega
              have hc := HN.out j hlt
              by_cases hz : x.n j = 0
              · have HJ' : Hid (∀ k, cnt S S.size ≤ k → k < j + 1 → x.n k = 0) := fun k h1 h2 => by
                  by_cases e : k = j
                  · rw [e]; exact hz
                  · exact HJ.out k h1 (by omega)
                rw [hz] at hc
                clear HJ hz
                go_wp2
                go_roundw
                case rel => exact ⟨trivial, j + 1, by omega, by omega, by go_num, HJ'⟩
                case measure => simp [intOf]; omega
              · have HZ : Hid (insBad x S = 3) := by
                  show _ = _
                  unfold insBad
                  rw [if_neg hto, if_pos ⟨j, hj1, hlt, hz⟩]
                have zb : (x.n j != 0) = true := by rw [bne_iff_ne]; exact hz
                clear HJ hz
                generalize x.n j = v at hc zb
                go_wp2
                go_ret
                exact ⟨by rw [HZ.out]; rfl, B2⟩
            · obtain rfl : j = 3 := by omega
              rw [show ((3 : Nat) : Int) = 3 from rfl]
              have HZ0 : Hid (¬ ∃ k, cnt S S.size ≤ k ∧ k < 3 ∧ x.n k ≠ 0) := fun ⟨k, h1, h2, h3⟩ => h3 (HJ.out k h1 h2)
              clear HJ
              go_wp2_with fail
              go_loopw [10, 11] (fun i _ wr' => wr' = wr ∧ ∃ j : Nat, j ≤ cnt S S.size ∧ i = .int .i64 j ∧ Hid (∀ k, k < j → 0 ≤ x.n k ∧ x.n k < mostOf (byteAt S k))) (fun i _ _ => cnt S S.size - (intOf i).toNat)
              case atStart => exact ⟨rfl, 0, Nat.zero_le _, rfl, fun k h => absurd h (Nat.not_lt_zero _)⟩
              case round =>
                obtain ⟨rfl, j, hj, rfl, HJ⟩ := hrel
                by_cases hlt : j < cnt S S.size
                · have hjs : j < S.size := by omega
                  have ji : (j : Int) < cnt S S.size := by omega
                  have jS : (j : Int) < S.size := by omega
                  have j3 : (j : Int) < 3 := by omega
                  have hc := HN.out j (by omega)
                  have HY : Hid ((0 ≤ x.n j ∧ x.n j < mostOf (S[j]'hjs).toNat) → ∀ k, k < j + 1 → 0 ≤ x.n k ∧ x.n k < mostOf (byteAt S k)) := fun h k hk => by
                    by_cases e : k = j
                    · subst e; rw [byteAt_lt hjs]; exact h
                    · exact HJ.out k (by omega)
                  have HX : Hid (¬ (0 ≤ x.n j ∧ x.n j < mostOf (S[j]'hjs).toNat) → insBad x S = 2) := fun h => by
                    unfold insBad
                    rw [if_neg hto, if_neg HZ0.out, if_pos ⟨j, hlt, by rw [byteAt_lt hjs]; exact h⟩]
                  have hor : ((S[j]'hjs).toNat = 114) ∨ ((S[j]'hjs).toNat ≠ 114 ∧ (S[j]'hjs).toNat = 115) ∨ ((S[j]'hjs).toNat ≠ 114 ∧ (S[j]'hjs).toNat ≠ 115 ∧ (S[j]'hjs).toNat = 119) ∨ ((S[j]'hjs).toNat ≠ 114 ∧ (S[j]'hjs).toNat ≠ 115 ∧ (S[j]'hjs).toNat ≠ 119) := by omega
                  clear HJ
                  generalize x.n j = v at hc HX HY
                  rcases hor with e1 | ⟨e1, e2⟩ | ⟨e1, e2, e3⟩ | ⟨e1, e2, e3⟩
                  · have hm : mostOf (S[j]'hjs).toNat = 8 := by unfold mostOf; simp [e1]
                    have z1 : (((S[j]'hjs).toNat : Int) == 114) = true := beq_iff_eq.2 (by omega)
                    rw [hm] at HX HY
                    by_cases hv : 0 ≤ v ∧ v < 8
                    · have HJ' := hide (HY.out hv)
                      obtain ⟨v0, v1⟩ := hv
                      clear HX HY hm
                      go_wp2
                      go_roundw
                      case rel => exact ⟨trivial, j + 1, by omega, by go_num, HJ'⟩
                      case measure => simp [intOf]; omega
                    · have HZ := hide (HX.out hv)
                      by_cases v0 : 0 ≤ v
                      · have v1 : ¬ v < 8 := fun h => hv ⟨v0, h⟩
                        clear HX HY hm hv
                        go_wp2
                        go_ret
                        exact ⟨by rw [HZ.out]; rfl, B2⟩
                      · clear HX HY hm hv
                        go_wp2
                        go_ret
                        exact ⟨by rw [HZ.out]; rfl, B2⟩
                  · have hm : mostOf (S[j]'hjs).toNat = 7 := by unfold mostOf; simp [e2]
                    have z1 : (((S[j]'hjs).toNat : Int) == 114) = false := beq_eq_false_iff_ne.2 (by omega)
                    have z2 : (((S[j]'hjs).toNat : Int) == 115) = true := beq_iff_eq.2 (by omega)
                    rw [hm] at HX HY
                    by_cases hv : 0 ≤ v ∧ v < 7
                    · have HJ' := hide (HY.out hv)
                      obtain ⟨v0, v1⟩ := hv
                      clear HX HY hm
                      go_wp2
                      go_roundw
                      case rel => exact ⟨trivial, j + 1, by omega, by go_num, HJ'⟩
                      case measure => simp [intOf]; omega
                    · have HZ := hide (HX.out hv)
                      by_cases v0 : 0 ≤ v
                      · have v1 : ¬ v < 7 := fun h => hv ⟨v0, h⟩
                        clear HX HY hm hv
                        go_wp2
                        go_ret
                        exact ⟨by rw [HZ.out]; rfl, B2⟩
                      · clear HX HY hm hv
                        go_wp2
                        go_ret
                        exact ⟨by rw [HZ.out]; rfl, B2⟩
                  · have hm : mostOf (S[j]'hjs).toNat = 4 := by unfold mostOf; simp [e3]
                    have z1 : (((S[j]'hjs).toNat : Int) == 114) = false := beq_eq_false_iff_ne.2 (by omega)
                    have z2 : (((S[j]'hjs).toNat : Int) == 115) = false := beq_eq_false_iff_ne.2 (by omega)
                    have z3 : (((S[j]'hjs).toNat : Int) == 119) = true := beq_iff_eq.2 (by omega)
                    rw [hm] at HX HY
                    by_cases hv : 0 ≤ v ∧ v < 4
                    · have HJ' := hide (HY.out hv)
                      obtain ⟨v0, v1⟩ := hv
                      clear HX HY hm
                      go_wp2
                      go_roundw
                      case rel => exact ⟨trivial, j + 1, by omega, by go_num, HJ'⟩
                      case measure => simp [intOf]; omega
                    · have HZ := hide (HX.out hv)
                      by_cases v0 : 0 ≤ v
                      · have v1 : ¬ v < 4 := fun h => hv ⟨v0, h⟩
                        clear HX HY hm hv
                        go_wp2
                        go_ret
                        exact ⟨by rw [HZ.out]; rfl, B2⟩
                      · clear HX HY hm hv
                        go_wp2
                        go_ret
                        exact ⟨by rw [HZ.out]; rfl, B2⟩
                  · have hm : mostOf (S[j]'hjs).toNat = 4294967296 := by unfold mostOf; simp [e1, e2, e3]
                    have z1 : (((S[j]'hjs).toNat : Int) == 114) = false := beq_eq_false_iff_ne.2 (by omega)
                    have z2 : (((S[j]'hjs).toNat : Int) == 115) = false := beq_eq_false_iff_ne.2 (by omega)
                    have z3 : (((S[j]'hjs).toNat : Int) == 119) = false := beq_eq_false_iff_ne.2 (by omega)
                    rw [hm] at HX HY
                    by_cases hv : 0 ≤ v ∧ v < 4294967296
                    · have HJ' := hide (HY.out hv)
                      obtain ⟨v0, v1⟩ := hv
                      clear HX HY hm
                      go_wp2
                      go_roundw
                      case rel => exact ⟨trivial, j + 1, by omega, by go_num, HJ'⟩
                      case measure => simp [intOf]; omega
                    · have HZ := hide (HX.out hv)
                      by_cases v0 : 0 ≤ v
                      · have v1 : ¬ v < 4294967296 := fun h => hv ⟨v0, h⟩
                        clear HX HY hm hv
                        go_wp2
                        go_ret
                        exact ⟨by rw [HZ.out]; rfl, B2⟩
                      · clear HX HY hm hv
                        go_wp2
                        go_ret
                        exact ⟨by rw [HZ.out]; rfl, B2⟩
                · obtain rfl : j = cnt S S.size := by omega
                  have HZ1 : Hid (¬ ∃ k, k < cnt S S.size ∧ ¬ (0 ≤ x.n k ∧ x.n k < mostOf (byteAt S k))) := fun ⟨k, h1, h2⟩ => h2 (HJ.out k h1)
                  clear HJ
                  have hlabel : lab S S.size = true := hlb
                  have HNm := isName_any x.to wr
                  by_cases hnm : isName x.to
                  · have HZ : Hid (insBad x S = 0) := by
                      show _ = _
                      unfold insBad
                      rw [if_neg hto, if_neg HZ0.out, if_neg HZ1.out, if_neg (fun h => h.2 hnm)]
                    rw [decide_eq_true hnm] at HNm
                    go_wp2_with fail
                    refine HNm.mono ?_
                    rintro e5 w5 ⟨rfl, rfl⟩
                    go_wp2
                    go_ret
                    exact ⟨by rw [HZ.out]; rfl, B2⟩
                  · have HZ : Hid (insBad x S = 4) := by
                      show _ = _
                      unfold insBad
                      rw [if_neg hto, if_neg HZ0.out, if_neg HZ1.out, if_pos ⟨hlabel, hnm⟩]
                    rw [decide_eq_false hnm] at HNm
                    go_wp2_with fail
                    refine HNm.mono ?_
                    rintro e5 w5 ⟨rfl, rfl⟩
                    go_wp2
                    go_ret
                    exact ⟨by rw [HZ.out]; rfl, B2⟩

theorem instr_any (x : Ins) (w : World) :
    Calls Tryz.prog 79 #[.agg #[.string x.op, .int .i64 x.a, .int .i64 x.b, .int .i64 x.c, .string x.to]] w fun e w' => e = .returned (.int .i64 (insErr x)) ∧ Below w.heap.size w w' := by
  unfold insErr
  cases h : shape x.op.toList with
  | none => exact instr_none x w h
  | some l =>
    refine instr_some x ⟨l.toArray⟩ (by have := shape_le h; simpa [ByteArray.size] using this) w (fun w' => ?_)
    have := shape_any x.op w'
    rwa [h] at this

end Go.Proofs.YtdpmnlbnlnmjbaaGreatDoor

/- CodeD -/
namespace Go.Proofs.YtdpmnlbnlnmjbaaGreatDoor
open Go.RowKit Go.Extern.Stop Go.Stop Go.Extern
set_option maxRecDepth 20000 in
theorem labelAt_any (ad : Option Addr) (cap : Nat) (l : List Ins) (to : ByteArray) (w : World) (hlen : l.length ≤ 1000000) (hl : insAt ad l w) :
    Calls Tryz.prog 62 #[.slice ad l.length cap, .string to] w fun e w' => e = .returned (.int .i64 (labelAt l to)) ∧ w' = w := by
  have HL := hide hl
  clear hl
  go_enter Tryz.func62, Tryz.ntmps62
  go_wp2_with fail
  go_loopw [5] (fun i wr => wr = w ∧ ∃ j : Nat, j ≤ l.length ∧ i = .int .i64 j ∧ Hid (∀ k y, k < j → l[k]? = some y → setsLabel y to = false)) (fun i _ => l.length - (intOf i).toNat)
  case atStart => exact ⟨rfl, 0, Nat.zero_le _, rfl, fun k y h => absurd h (Nat.not_lt_zero _)⟩
  case round =>
    obtain ⟨rfl, j, hj, rfl, HJ⟩ := hrel
    by_cases hlt : j < l.length
    · obtain ⟨x, hx⟩ : ∃ x, l[j]? = some x := ⟨_, List.getElem?_eq_getElem hlt⟩
      obtain ⟨b, off, rfl, a0, -, -, -, a4⟩ := HL.out j x hx
      have ji : (j : Int) < l.length := by omega
      have HY : Hid (setsLabel x to = false → ∀ k y, k < j + 1 → l[k]? = some y → setsLabel y to = false) := fun h k y hk hy => by
        by_cases e : k = j
        · subst e; rw [hx] at hy; cases hy; exact h
        · exact HJ.out k y (by omega) hy
      have HX : Hid (setsLabel x to = true → labelAt l to = j) := fun h => labelAt_some hx h HJ.out
      clear HJ hx
      cases k1 : (x.op.toList == [108, 97, 98, 101, 108])
      · have HZ := hide (HY.out (by unfold setsLabel; rw [k1]; rfl))
        clear HX HY
        go_wp2
        go_roundw
        case rel => exact ⟨trivial, j + 1, by omega, by go_num, HZ⟩
        case measure => simp [intOf]; omega
      · cases k2 : (x.to.toList == to.toList)
        · have HZ := hide (HY.out (by unfold setsLabel; rw [k1, k2]; rfl))
          clear HX HY
          go_wp2
          go_roundw
          case rel => exact ⟨trivial, j + 1, by omega, by go_num, HZ⟩
          case measure => simp [intOf]; omega
        · have HZ := hide (HX.out (by unfold setsLabel; rw [k1, k2]; rfl))
          clear HX HY
          go_wp2
          go_ret
          exact ⟨by rw [HZ.out]; rfl, rfl⟩
    · have HZ : Hid (labelAt l to = -1) := labelAt_none (fun k y hy => HJ.out k y (by have := (List.getElem?_eq_some_iff.1 hy).1; omega) hy)
      obtain rfl : j = l.length := by omega
      clear HJ
      go_wp2
      go_ret
      exact ⟨by rw [HZ.out]; rfl, rfl⟩

end Go.Proofs.YtdpmnlbnlnmjbaaGreatDoor
