/- quiescentref1.cut by a contract. -/
import Derived.Test.YtcajklfngeafdaaGreatDoorCodeG
import Derived.Maps.AppendAt
namespace Go.Proofs.YtcajklfngeafdaaGreatDoor
open Go.RowKit Go.Extern.Stop Go.Stop Go.Extern
theorem strInfoR : ∃ i, (Tryz.prog).info? 9 = some i ∧ i.zero = some (.string ⟨#[]⟩) ∧ i.size = 1 ∧ i.bytes = 16 := info_parts (by kernel_rfl)

theorem ownsRow_nil (w : World) (base : Nat) (e : TypeId) (size : Nat) : w.ownsRow base e size (.slice none 0 0) 0 [] := ⟨by simp, Or.inl ⟨rfl, rfl⟩⟩

set_option maxRecDepth 20000 in
theorem cut_any (s : ByteArray) (c : Nat) (hs : s.size ≤ 1000000) (w : World) :
    Calls Tryz.prog 32 #[.string s, .int .u8 c] w fun e w' => ∃ v, e = .returned v ∧ w'.ownsRow w.heap.size 9 1 v (cutS s c).length ((cutS s c).map Value.string) ∧ Below w.heap.size w w' := by
  obtain ⟨ri, hri, hrz, hrs, hrb⟩ := strInfoR
  go_enter Tryz.func32, Tryz.ntmps32
  go_wp2_with fail
  go_loopw [5, 6, 7] (fun out wd i wr => ∃ j : Nat, j ≤ s.size ∧ i = .int .i64 j ∧ wd = .string (cutTo s c j).2 ∧ wr.ownsRow w.heap.size 9 1 out (cutTo s c j).1.length ((cutTo s c j).1.map Value.string) ∧ Below w.heap.size w wr) (fun _ _ i _ => s.size - (intOf i).toNat)
  case atStart => exact ⟨0, Nat.zero_le _, rfl, rfl, ownsRow_nil _ _ _ _, Below.refl _ _⟩
  case round =>
    obtain ⟨j, hj, rfl, rfl, hown, hB⟩ := hrel
    have hle := cutTo_le s c j
    obtain ⟨ln, lw⟩ := hle
    by_cases hlt : j < s.size
    · have ji : (j : Int) < s.size := by omega
      by_cases hc : byteAt s j = c
      · have HC : Hid (cutTo s c (j + 1) = ((cutTo s c j).1 ++ [(cutTo s c j).2], ⟨#[]⟩)) := by show _ = _; rw [cutTo, if_pos hc]
        rw [byteAt_lt hlt] at hc
        have e1 : (((s[j]'hlt).toNat : Int) == (c : Int)) = true := beq_iff_eq.2 (by omega)
        have e2 : ((s[j]'hlt).toNat : Int) = (c : Int) := by omega
        go_wp2_with (first
          | (at_builtin; refine wpList_append_own_at _ rfl _ _ 76 rfl w.heap.size 9 ri (.string ⟨#[]⟩) 1 16 Tryz.underlying76 hri hrz hrs hrb rfl (by decide) _ _ _ rfl (hown.alloc _) ⟨wr.heap.size, 0, none⟩ 1 1 [.string (cutTo s c j).2] rfl rfl (cell_one_new _ _ _) ?c2 ?c3 ?c4 ?c5 ?_))
        case c2 => intro u hu; obtain rfl : u = _ := by simpa using hu
                   rfl
        case c3 => unfold maxLen; omega
        case c4 => omega
        case c5 => simp; have := hB.size; omega
        intro v' w6 hown6 hgrow6 hnil6 hloc6
        have B6 : Below w.heap.size w w6 := (hB.alloc hB.size _).grown hgrow6 (Nat.le_trans hB.size (by simp)) (fun k hk => (hown.lt k hk).1)
        clear hgrow6 hnil6 hloc6 hown hB
        go_wp2_with fail
        go_roundw
        case rel => exact ⟨j + 1, by omega, by go_num, by rw [HC.out], by rw [HC.out]; simpa using hown6, B6⟩
        case measure => simp [intOf]; omega
      · have HC : Hid (cutTo s c (j + 1) = ((cutTo s c j).1, (cutTo s c j).2 ++ s.extract j (j + 1))) := by show _ = _; rw [cutTo, if_neg hc]
        rw [byteAt_lt hlt] at hc
        have e1 : (((s[j]'hlt).toNat : Int) == (c : Int)) = false := beq_eq_false_iff_ne.2 (by omega)
        have e2 : ¬ ((s[j]'hlt).toNat : Int) = (c : Int) := by omega
        have hsl : (Instr.slice 9 (.string s) (some (.int .i64 j)) (some (.int .i64 ((j : Int) + 1))) none).run Tryz.prog wr = .ok (.string (s.extract j (j + 1))) wr := by
          rw [run_slice_string wr 9 s .i64 .i64 j ((j : Int) + 1) Tryz.underlying9 (by omega) (by omega) (by omega)]
          rw [show ((j : Int)).toNat = j by omega, show ((j : Int) + 1).toNat = j + 1 by omega]
        have hw1 : (cutTo s c j).2.size + (s.extract j (j + 1)).size ≤ 9223372036854775807 := by rw [ByteArray.size_extract]; omega
        go_wp2_with fail
        go_roundw
        case rel => exact ⟨j + 1, by omega, by go_num, by rw [HC.out], by rw [HC.out]; exact hown, hB⟩
        case measure => simp [intOf]; omega
    · obtain rfl : j = s.size := by omega
      go_wp2_with (first
          | (at_builtin; refine wpList_append_own_at _ rfl _ _ 76 rfl w.heap.size 9 ri (.string ⟨#[]⟩) 1 16 Tryz.underlying76 hri hrz hrs hrb rfl (by decide) _ _ _ rfl (hown.alloc _) ⟨wr.heap.size, 0, none⟩ 1 1 [.string (cutTo s c s.size).2] rfl rfl (cell_one_new _ _ _) ?c2 ?c3 ?c4 ?c5 ?_))
      case c2 => intro u hu; obtain rfl : u = _ := by simpa using hu
                 rfl
      case c3 => unfold maxLen; omega
      case c4 => omega
      case c5 => simp; have := hB.size; omega
      intro v' w6 hown6 hgrow6 hnil6 hloc6
      have B6 : Below w.heap.size w w6 := (hB.alloc hB.size _).grown hgrow6 (Nat.le_trans hB.size (by simp)) (fun k hk => (hown.lt k hk).1)
      clear hgrow6 hnil6 hloc6 hown hB
      have HL : Hid (cutS s c = (cutTo s c s.size).1 ++ [(cutTo s c s.size).2]) := rfl
      go_wp2_with fail
      go_ret
      exact ⟨_, rfl, by rw [HL.out]; simpa using hown6, B6⟩
end Go.Proofs.YtcajklfngeafdaaGreatDoor
