/- quiescentref1.LabelAt by a contract; where code lies. -/
import Derived.Test.YtcajklfngeafdaaGreatDoorCodeC
import Derived.Test.YtcajklfngeafdaaGreatDoorCodeI
namespace Go.Proofs.YtcajklfngeafdaaGreatDoor
open Go.RowKit Go.Extern.Stop Go.Stop Go.Extern
set_option maxRecDepth 20000 in
theorem labelAt_any (ad : Option Addr) (cap : Nat) (l : List Ins) (to : ByteArray) (w : World) (hlen : l.length ≤ 1000000) (hl : insAt ad l w) :
    Calls Tryz.prog 17 #[.slice ad l.length cap, .string to] w fun e w' => e = .returned (.int .i64 (labelAt l to)) ∧ w' = w := by
  have HL := hide hl
  clear hl
  go_enter Tryz.func17, Tryz.ntmps17
  go_wp2_with fail
  go_loopw [5] (fun i wr => wr = w ∧ ∃ j : Nat, j ≤ l.length ∧ i = .int .i64 j ∧ Hid (∀ k y, k < j → l[k]? = some y → setsLabel y to = false)) (fun i _ => l.length - (intOf i).toNat)
  case atStart => exact ⟨rfl, 0, Nat.zero_le _, rfl, fun k y h => absurd h (Nat.not_lt_zero _)⟩
  case round =>
    obtain ⟨rfl, j, hj, rfl, HJ⟩ := hrel
    by_cases hlt : j < l.length
    · obtain ⟨x, hx⟩ : ∃ x, l[j]? = some x := ⟨_, List.getElem?_eq_getElem hlt⟩
      obtain ⟨b, off, rfl, a0, -, -, -, a4⟩ := HL.out j x hx
      have ji : (j : Int) < l.length := by omega
      have HY : Hid (setsLabel x to = false → ∀ k y, k < j + 1 → l[k]? = some y → setsLabel y to = false) := fun h k y hk hy => by
        by_cases e : k = j
        · subst e; rw [hx] at hy; cases hy; exact h
        · exact HJ.out k y (by omega) hy
      have HX : Hid (setsLabel x to = true → labelAt l to = j) := fun h => labelAt_some hx h HJ.out
      clear HJ hx
      cases k1 : (x.op.toList == [108, 97, 98, 101, 108])
      · have HZ := hide (HY.out (by unfold setsLabel; rw [k1]; rfl))
        clear HX HY
        go_wp2
        go_roundw
        case rel => exact ⟨trivial, j + 1, by omega, by go_num, HZ⟩
        case measure => simp [intOf]; omega
      · cases k2 : (x.to.toList == to.toList)
        · have HZ := hide (HY.out (by unfold setsLabel; rw [k1, k2]; rfl))
          clear HX HY
          go_wp2
          go_roundw
          case rel => exact ⟨trivial, j + 1, by omega, by go_num, HZ⟩
          case measure => simp [intOf]; omega
        · have HZ := hide (HX.out (by unfold setsLabel; rw [k1, k2]; rfl))
          clear HX HY
          go_wp2
          go_ret
          exact ⟨by rw [HZ.out]; rfl, rfl⟩
    · have HZ : Hid (labelAt l to = -1) := labelAt_none (fun k y hy => HJ.out k y (by have := (List.getElem?_eq_some_iff.1 hy).1; omega) hy)
      obtain rfl : j = l.length := by omega
      clear HJ
      go_wp2
      go_ret
      exact ⟨by rw [HZ.out]; rfl, rfl⟩

end Go.Proofs.YtcajklfngeafdaaGreatDoor
