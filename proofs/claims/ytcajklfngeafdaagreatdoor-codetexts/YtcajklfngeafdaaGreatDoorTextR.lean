/- quiescentref1.CodeText by a contract. -/
import Derived.Test.YtcajklfngeafdaaGreatDoorPureH
import Derived.Test.YtcajklfngeafdaaGreatDoorCodeH
import Derived.Test.YtcajklfngeafdaaGreatDoorProgH
import Derived.Test.YtcajklfngeafdaaGreatDoorCodeC
namespace Go.Proofs.YtcajklfngeafdaaGreatDoor
open Go.RowKit Go.Extern.Stop Go.Stop Go.Extern

theorem bl_sp (O p : ByteArray) : bl (O ++ (⟨#[32]⟩ : ByteArray) ++ p) = bl O ++ 32 :: bl p := by rw [bl_append, bl_append]; simp [bl]
theorem bl_nl (O : ByteArray) : bl (O ++ (⟨#[10]⟩ : ByteArray)) = bl O ++ [10] := by rw [bl_append]

set_option maxRecDepth 20000 in
set_option maxHeartbeats 2000000 in
theorem codeText_any (ad : Option Addr) (cap : Nat) (l : List Ins) (w : World) (hl : insAt ad l w) (hall : ∀ (j : Nat) x, l[j]? = some x → ∃ S, Fits x S ∧ x.op.size + x.to.size ≤ 20) (hlen : (textL l).length ≤ 40000) (hll : l.length ≤ 2000) :
    Calls Tryz.prog 11 #[.slice ad l.length cap] w fun e w' => e = .returned (.string ⟨(textL l).toArray⟩) ∧ Below w.heap.size w w' := by
  have HL := hide hl
  have HA := hide hall
  clear hl hall
  go_enter Tryz.func11, Tryz.ntmps11
  go_wp2_with fail
  go_loopw [3, 4] (fun out ix wr => Below w.heap.size w wr ∧ ∃ (j : Nat) (O : ByteArray), j ≤ l.length ∧ ix = .int .i64 j ∧ out = .string O ∧ Hid (bl O = textL (l.take j))) (fun _ i _ => l.length - (intOf i).toNat)
  case atStart => exact ⟨Below.refl _ _, 0, ⟨#[]⟩, Nat.zero_le _, rfl, rfl, by show _ = _; rfl⟩
  case round =>
    obtain ⟨hB, j, O, hj, rfl, rfl, HO⟩ := hrel
    have hO1 : O.size ≤ 40000 := by rw [size_bl, HO.out]; have := textL_take_le l j; omega
    by_cases hlt : j < l.length
    · have ji : (j : Int) < l.length := by omega
      obtain ⟨x, hx⟩ : ∃ x, l[j]? = some x := ⟨_, List.getElem?_eq_getElem hlt⟩
      obtain ⟨S, hF, hsz⟩ := HA.out j x hx
      have HT := hide (textL_take hx)
      obtain ⟨b, off, rfl, a0, a1, a2, a3, a4⟩ := insAt_below HL.out hB j x hx
      have HAcc := hide (lineL_acc hF)
      have HSh := shape_any x.op wr
      rw [hF.shape, show shapeV (some S) = .tuple #[.string ⟨S.toArray⟩, .bool true] from rfl] at HSh
      replace HSh := hide HSh
      have hS' := shape_mem hF.shape
      obtain ⟨⟨f1, f2⟩, -, f3⟩ := table_facts _ hS'
      dsimp only at f1 f2 f3
      have n3 : S.length ≤ 3 := (by decide +kernel : ∀ p ∈ table, p.2.length ≤ 3) _ hS'
      have hSz : (⟨S.toArray⟩ : ByteArray).size = S.length := by simp [ByteArray.size]
      rw [← hSz] at f1 f3 n3 HAcc
      have hnum := hide hF.num
      generalize (⟨S.toArray⟩ : ByteArray) = SB at *
      generalize hasTo S = t at *
      generalize nums S = m at *
      clear hSz hS' hF HA HL
      have HNu := hide (numbers_any x wr)
      have hx0 : O.size + x.op.size ≤ 9223372036854775807 := by omega
      go_wp2_with fail
      refine HSh.out.mono ?_
      rintro e w2 ⟨rfl, rfl⟩
      clear HSh
      go_wp2_with fail
      refine HNu.out.mono ?_
      rintro e w3 ⟨rfl, hn3, hb3⟩
      replace a0 := keep_cell hb3 a0
      replace a4 := keep_cell hb3 a4
      have B3 := below_step hB hb3
      replace hn3 := hide hn3
      have hlenx : Hid (∀ k, k ≤ SB.size → (textL (l.take j) ++ accR x SB k).length ≤ 40000) := fun k hk => by
        have h1 := textL_take_le l (j + 1)
        rw [HT.out, HAcc.out] at h1
        have h2 : ∀ n, (accR x SB k).length ≤ (accR x SB (k + n)).length := fun n => by
          induction n with
          | zero => exact Nat.le_refl _
          | succ n ih => rw [← Nat.add_assoc, accR, List.length_append]; omega
        have h3 := h2 (SB.size - k)
        rw [show k + (SB.size - k) = SB.size by omega] at h3
        rw [List.length_append, List.length_append] at h1
        rw [List.length_append]
        omega
      clear hb3 hB a1 a2 a3 HNu
      go_wp2_with fail
      try go_region
      go_wp2_with fail
      go_loopw [3, 8] (fun out kx wq => Below w.heap.size w wq ∧ Below w3.heap.size w3 wq ∧ ∃ (k : Nat) (O' : ByteArray), k ≤ SB.size ∧ kx = .int .i64 k ∧ out = .string O' ∧ Hid (bl O' = textL (l.take j) ++ accR x SB k)) (fun _ i _ => SB.size - (intOf i).toNat)
      case atStart => exact ⟨B3, Below.refl _ _, 0, O ++ x.op, Nat.zero_le _, rfl, rfl, by show _ = _; rw [bl_append, HO.out]; rfl⟩
      case round =>
        obtain ⟨hBq, hB3q, k, O', hk, rfl, rfl, HO'⟩ := hrel
        have hO2 : O'.size ≤ 40000 := by rw [size_bl, HO'.out]; exact hlenx.out k hk
        by_cases hkl : k < SB.size
        · have ki : (k : Int) < SB.size := by omega
          have k3 : (k : Int) < 3 := by omega
          have hO3 : O'.size + 1 ≤ 9223372036854775807 := by omega
          have hb := byteAt_lt hkl
          have hff := f3 k (by omega) hkl
          have c0 := keep_cell hB3q a0
          have c4 := keep_cell hB3q a4
          by_cases h108 : byteAt SB k = 108
          · have e2 : ((SB[k]'hkl).toNat : Int) = 108 := by omega
            have e1 : (((SB[k]'hkl).toNat : Int) == 108) = true := beq_iff_eq.2 e2
            have HQ : Hid (bl (O' ++ (⟨#[32]⟩ : ByteArray) ++ x.to) = textL (l.take j) ++ accR x SB (k + 1)) := by
              show _ = _
              rw [bl_sp, HO'.out, accR, pieceR, if_pos h108, List.append_assoc]
            have hO4 : (O' ++ (⟨#[32]⟩ : ByteArray)).size + x.to.size ≤ 9223372036854775807 := by rw [ByteArray.size_append]; show O'.size + 1 + _ ≤ _; omega
            clear h108 hb hff
            go_wp2_with fail
            try go_region
            go_wp2_with fail
            go_roundw
            case rel => exact ⟨hBq, hB3q, k + 1, _, by omega, by go_num, rfl, HQ⟩
            case measure => simp [intOf]; omega
          · have e2 : ¬ ((SB[k]'hkl).toNat : Int) = 108 := by omega
            have e1 : (((SB[k]'hkl).toNat : Int) == 108) = false := beq_eq_false_iff_ne.2 e2
            have HQ : Hid (bl (O' ++ (⟨#[32]⟩ : ByteArray) ++ decimal (x.n k)) = textL (l.take j) ++ accR x SB (k + 1)) := by
              show _ = _
              rw [bl_sp, HO'.out, accR, pieceR, if_neg h108, List.append_assoc]
            have hkm : k < m := by
              rcases Nat.lt_or_ge k m with h | h
              · exact h
              · exact absurd (hff.2 h) h108
            have hnk := hnum.out k hkm
            have hcn := keep_cell hB3q (hn3.out k (by omega))
            have hO5 : (O' ++ (⟨#[32]⟩ : ByteArray) ++ decimal (x.n k)).size ≤ 40000 := by rw [size_bl, HQ.out]; exact hlenx.out (k + 1) (by omega)
            have hO4 : (O' ++ (⟨#[32]⟩ : ByteArray)).size + (decimal (x.n k)).size ≤ 9223372036854775807 := by rw [ByteArray.size_append] at hO5; omega
            have HD : Hid (∀ w', Calls Tryz.prog 28 #[.int .i64 (x.n k)] w' fun e w'' => e = .returned (.string (decimal (x.n k))) ∧ Below w'.heap.size w' w'') := fun w' => decimal_any (x.n k) (by omega) (by omega) w'
            clear h108 hb hff hO5
            generalize x.n k = nk at *
            go_wp2_with fail
            refine (HD.out _).mono ?_
            rintro e w4 ⟨rfl, hb4⟩
            have hBq' := below_step hBq hb4
            have hB3q' := below_step hB3q hb4
            clear hBq hB3q hb4 HD
            go_wp2_with fail
            try go_region
            go_wp2_with fail
            go_roundw
            case rel => exact ⟨hBq', hB3q', k + 1, _, by omega, by go_num, rfl, HQ⟩
            case measure => simp [intOf]; omega
        · obtain rfl : k = SB.size := by omega
          have HQ : Hid (bl (O' ++ (⟨#[10]⟩ : ByteArray)) = textL (l.take (j + 1))) := by
            show _ = _
            rw [bl_nl, HO'.out, HT.out, HAcc.out, List.append_assoc]
          go_wp2_with fail
          go_roundw
          case rel => exact ⟨hBq, j + 1, _, by omega, by go_num, rfl, HQ⟩
          case measure => simp [intOf]; omega
    · obtain rfl : j = l.length := by omega
      rw [List.take_length] at HO
      go_wp2_with fail
      go_ret
      exact ⟨by rw [← HO.out, mk_bl]; rfl, hB⟩
end Go.Proofs.YtcajklfngeafdaaGreatDoor
