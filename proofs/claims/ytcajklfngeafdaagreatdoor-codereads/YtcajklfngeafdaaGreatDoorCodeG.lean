/- quiescentref1.numberOf by a contract. -/
import Derived.Test.YtcajklfngeafdaaGreatDoorCodeF
namespace Go.Proofs.YtcajklfngeafdaaGreatDoor
open Go.RowKit Go.Extern.Stop Go.Stop Go.Extern
set_option maxRecDepth 20000 in
set_option maxHeartbeats 1000000 in
theorem numberOf_any (s : ByteArray) (w : World) : Calls Tryz.prog 53 #[.string s] w fun e w' => e = .returned (.tuple #[.int .i64 ((numOf s).getD 0), .bool (numOf s).isSome]) ∧ w' = w := by
  by_cases h1 : s.size < 1
  · have hn : numOf s = none := if_pos (Or.inl h1)
    have i1 : (s.size : Int) < 1 := by omega
    rw [hn]
    go_enter Tryz.func53, Tryz.ntmps53
    go_wp2_with fail
    go_ret2
    exact ⟨rfl, rfl⟩
  have i1 : ¬ (s.size : Int) < 1 := by omega
  by_cases h2 : 10 < s.size
  · have hn : numOf s = none := if_pos (Or.inr (Or.inl h2))
    have i2 : 10 < (s.size : Int) := by omega
    rw [hn]
    go_enter Tryz.func53, Tryz.ntmps53
    go_wp2_with fail
    go_ret2
    exact ⟨rfl, rfl⟩
  have i2 : ¬ 10 < (s.size : Int) := by omega
  by_cases hs : 1 < s.size
  · have i3 : 1 < (s.size : Int) := by omega
    have hb : byteAt s 0 = (s[0]'(by omega)).toNat := byteAt_lt (by omega)
    by_cases h48 : (s[0]'(by omega)).toNat = 48
    · have hn : numOf s = none := if_pos (Or.inr (Or.inr ⟨hs, by rw [hb]; exact h48⟩))
      have zb : (((s[0]'(by omega)).toNat : Int) == 48) = true := beq_iff_eq.2 (by omega)
      rw [hn]
      go_enter Tryz.func53, Tryz.ntmps53
      go_wp2_with fail
      go_ret2
      exact ⟨rfl, rfl⟩
    have zb : (((s[0]'(by omega)).toNat : Int) == 48) = false := beq_eq_false_iff_ne.2 (by omega)
    have h3 : ¬ (1 < s.size ∧ byteAt s 0 = 48) := fun h => h48 (by rw [← hb]; exact h.2)
    clear hb h48
    have hn : numOf s = if ∃ k, k < s.size ∧ (byteAt s k < 48 ∨ 57 < byteAt s k) then none else some (valTo s s.size) := if_neg (by rintro (h | h | h); exact h1 h; exact h2 h; exact h3 h)
    have HN := hide hn
    clear hn h3
    go_enter Tryz.func53, Tryz.ntmps53
    go_wp2_with fail

    go_loopw [4, 5] (fun n i wr => wr = w ∧ ∃ j : Nat, j ≤ s.size ∧ i = .int .i64 j ∧ n = .int .i64 (valTo s j) ∧ Hid (∀ k, k < j → 48 ≤ byteAt s k ∧ byteAt s k ≤ 57)) (fun _ i _ => s.size - (intOf i).toNat)
    case atStart => exact ⟨rfl, 0, Nat.zero_le _, rfl, rfl, fun k h => absurd h (Nat.not_lt_zero _)⟩
    case round =>
      obtain ⟨rfl, j, hj, rfl, rfl, HJ⟩ := hrel
      by_cases hlt : j < s.size
      · have ji : (j : Int) < s.size := by omega
        by_cases hd : 48 ≤ byteAt s j ∧ byteAt s j ≤ 57
        · have hv := valTo_lt s j (fun k hk => (HJ.out k hk).2)
          have hp : 10 ^ j ≤ 10 ^ 9 := Nat.pow_le_pow_right (by decide) (by omega)
          have hv9 : valTo s j < 1000000000 := by omega
          have HV : Hid ((valTo s (j + 1) : Int) = 10 * (valTo s j : Int) + ((byteAt s j : Int) - 48)) := by show _ = _; rw [valTo]; omega
          have HK : Hid (∀ k, k < j + 1 → 48 ≤ byteAt s k ∧ byteAt s k ≤ 57) := fun k hk => by
            by_cases e : k = j
            · rw [e]; exact hd
            · exact HJ.out k (by omega)
          rw [byteAt_lt hlt] at hd HV
          obtain ⟨d1, d2⟩ := hd
          have e1 : ¬ ((s[j]'hlt).toNat : Int) < 48 := by omega
          have e2 : ¬ 57 < ((s[j]'hlt).toNat : Int) := by omega
          clear HJ hv hp
          go_wp2_with fail
          go_roundw
          case rel => exact ⟨trivial, j + 1, by omega, by go_num, by rw [HV.out], HK⟩
          case measure => simp [intOf]; omega
        · have HZ : Hid (numOf s = none) := by
            show _ = _
            rw [HN.out, if_pos ⟨j, hlt, by omega⟩]
          rw [byteAt_lt hlt] at hd
          by_cases hd1 : (s[j]'hlt).toNat < 48
          · have e1 : ((s[j]'hlt).toNat : Int) < 48 := by omega
            go_wp2_with fail
            go_ret2
            exact ⟨by rw [HZ.out]; rfl, rfl⟩
          · have e1 : ¬ ((s[j]'hlt).toNat : Int) < 48 := by omega
            have e2 : 57 < ((s[j]'hlt).toNat : Int) := by omega
            go_wp2_with fail
            go_ret2
            exact ⟨by rw [HZ.out]; rfl, rfl⟩
      · obtain rfl : j = s.size := by omega
        have HZ : Hid (numOf s = some (valTo s s.size)) := by
          show _ = _
          rw [HN.out, if_neg (fun ⟨k, hk, h⟩ => by have := HJ.out k hk; omega)]
        go_wp2_with fail
        go_ret2
        exact ⟨by rw [HZ.out]; rfl, rfl⟩
  · have i3 : ¬ 1 < (s.size : Int) := by omega
    have h3 : ¬ (1 < s.size ∧ byteAt s 0 = 48) := fun h => hs h.1
    have hn : numOf s = if ∃ k, k < s.size ∧ (byteAt s k < 48 ∨ 57 < byteAt s k) then none else some (valTo s s.size) := if_neg (by rintro (h | h | h); exact h1 h; exact h2 h; exact h3 h)
    have HN := hide hn
    clear hn h3
    go_enter Tryz.func53, Tryz.ntmps53
    go_wp2_with fail

    go_loopw [4, 5] (fun n i wr => wr = w ∧ ∃ j : Nat, j ≤ s.size ∧ i = .int .i64 j ∧ n = .int .i64 (valTo s j) ∧ Hid (∀ k, k < j → 48 ≤ byteAt s k ∧ byteAt s k ≤ 57)) (fun _ i _ => s.size - (intOf i).toNat)
    case atStart => exact ⟨rfl, 0, Nat.zero_le _, rfl, rfl, fun k h => absurd h (Nat.not_lt_zero _)⟩
    case round =>
      obtain ⟨rfl, j, hj, rfl, rfl, HJ⟩ := hrel
      by_cases hlt : j < s.size
      · have ji : (j : Int) < s.size := by omega
        by_cases hd : 48 ≤ byteAt s j ∧ byteAt s j ≤ 57
        · have hv := valTo_lt s j (fun k hk => (HJ.out k hk).2)
          have hp : 10 ^ j ≤ 10 ^ 9 := Nat.pow_le_pow_right (by decide) (by omega)
          have hv9 : valTo s j < 1000000000 := by omega
          have HV : Hid ((valTo s (j + 1) : Int) = 10 * (valTo s j : Int) + ((byteAt s j : Int) - 48)) := by show _ = _; rw [valTo]; omega
          have HK : Hid (∀ k, k < j + 1 → 48 ≤ byteAt s k ∧ byteAt s k ≤ 57) := fun k hk => by
            by_cases e : k = j
            · rw [e]; exact hd
            · exact HJ.out k (by omega)
          rw [byteAt_lt hlt] at hd HV
          obtain ⟨d1, d2⟩ := hd
          have e1 : ¬ ((s[j]'hlt).toNat : Int) < 48 := by omega
          have e2 : ¬ 57 < ((s[j]'hlt).toNat : Int) := by omega
          clear HJ hv hp
          go_wp2_with fail
          go_roundw
          case rel => exact ⟨trivial, j + 1, by omega, by go_num, by rw [HV.out], HK⟩
          case measure => simp [intOf]; omega
        · have HZ : Hid (numOf s = none) := by
            show _ = _
            rw [HN.out, if_pos ⟨j, hlt, by omega⟩]
          rw [byteAt_lt hlt] at hd
          by_cases hd1 : (s[j]'hlt).toNat < 48
          · have e1 : ((s[j]'hlt).toNat : Int) < 48 := by omega
            go_wp2_with fail
            go_ret2
            exact ⟨by rw [HZ.out]; rfl, rfl⟩
          · have e1 : ¬ ((s[j]'hlt).toNat : Int) < 48 := by omega
            have e2 : 57 < ((s[j]'hlt).toNat : Int) := by omega
            go_wp2_with fail
            go_ret2
            exact ⟨by rw [HZ.out]; rfl, rfl⟩
      · obtain rfl : j = s.size := by omega
        have HZ : Hid (numOf s = some (valTo s s.size)) := by
          show _ = _
          rw [HN.out, if_neg (fun ⟨k, hk, h⟩ => by have := HJ.out k hk; omega)]
        go_wp2_with fail
        go_ret2
        exact ⟨by rw [HZ.out]; rfl, rfl⟩

end Go.Proofs.YtcajklfngeafdaaGreatDoor
