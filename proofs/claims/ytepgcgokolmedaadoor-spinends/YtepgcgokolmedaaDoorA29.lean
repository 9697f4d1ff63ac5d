import Derived.Test.YtepgcgokolmedaaDoorA27
import Derived.Test.YtepgcgokolmedaaDoorA26
import Derived.Test.YtepgcgokolmedaaDoorA13
import Derived.Test.YtepgcgokolmedaaDoorA24
import Derived.Test.YtepgcgokolmedaaDoorA28

/- RsA -/
namespace Go.Proofs.YtepgcgokolmedaaDoor
open Go.RowKit Go.Extern.Stop Go.Stop Go.Extern Go.Maps Go.WideMaps Go.Sort

set_option maxRecDepth 20000 in
set_option maxHeartbeats 1000000 in
theorem rightWords_any {ad : Option Addr} {l : List Int} {cap most : Nat} {w : World} (hl : numsAt ad l w) (hlen : l.length ≤ 9223372036854775807) :
    Calls Tryd.prog 25 #[.slice ad l.length cap, .int .i64 most] w fun e w' => e = .returned (.bool (rowOk most l)) ∧ w' = w := by
  have HL := hide hl
  clear hl
  go_enter Tryd.func25, Tryd.ntmps25
  go_wp2_with fail
  go_loopw [5] (fun i wr => ∃ j : Nat, j ≤ l.length ∧ i = .int .i64 j ∧ wr = w ∧ Hid (∀ (k : Nat) x, k < j → l[k]? = some x → wordOk x = true)) (fun i _ => l.length - (intOf i).toNat)
  case atStart => exact ⟨0, Nat.zero_le _, rfl, rfl, fun k x h => absurd h (Nat.not_lt_zero _)⟩
  case round =>
    obtain ⟨j, hj, rfl, rfl, HJ⟩ := hrel
    by_cases hlt : j < l.length
    · obtain ⟨x, hx⟩ : ∃ x, l[j]? = some x := ⟨_, List.getElem?_eq_getElem hlt⟩
      obtain ⟨b, off, rfl, c0⟩ := HL.out j x hx
      have ji : (j : Int) < l.length := by omega
      have HI := hide (isWordR_any x wr)
      cases hw : wordOk x
      · have HR : Hid (rowOk most l = false) := by
          show _ = _
          unfold rowOk
          rw [all_hit hx hw, Bool.and_false]
        rw [show decide (0 ≤ x ∧ x < 4294967296) = false from hw] at HI
        clear HL HJ hx
        go_wp2_with fail
        refine HI.out.mono ?_
        rintro e w1 ⟨rfl, rfl⟩
        go_wp2
        go_ret
        exact ⟨by rw [HR.out]; rfl, rfl⟩
      · have HR : Hid (∀ (k : Nat) x, k < j + 1 → l[k]? = some x → wordOk x = true) := fun k y hk hy => by
          by_cases e : k = j
          · subst e; rw [hx] at hy; cases hy; exact hw
          · exact HJ.out k y (by omega) hy
        rw [show decide (0 ≤ x ∧ x < 4294967296) = true from hw] at HI
        clear HL HJ hx
        go_wp2_with fail
        refine HI.out.mono ?_
        rintro e w1 ⟨rfl, rfl⟩
        go_wp2
        go_roundw
        case rel => exact ⟨j + 1, by omega, by go_num, by first | trivial | rfl, HR⟩
        case measure => simp [intOf]; omega
    · obtain rfl : j = l.length := by omega
      have HR : Hid (rowOk most l = decide (l.length ≤ most)) := by
        show _ = _
        unfold rowOk
        rw [all_done (fun k x hk hx => HJ.out k x hk hx), Bool.and_true]
      clear HL HJ
      go_wp2
      go_ret
      exact ⟨by rw [HR.out]; rfl, rfl⟩

set_option maxRecDepth 20000 in
set_option maxHeartbeats 2000000 in
theorem startFault_any {s : Sta} {ai ar ad : Option Addr} {ci cr cap : Nat} {cs : List (List Ins)} {w : World} (hs : StaAt s ⟨ai, ci, ar, cr⟩ w) (hl : codesAt ad cs w) (hc : cs.length ≤ 9223372036854775807) :
    Calls Tryd.prog 14 #[.agg #[.int .i64 s.cells, .slice ai s.init.length ci, .slice ar s.regs.length cr], .slice ad cs.length cap] w fun e w' => e = .returned (.agg #[.int .i64 (s.fault cs).1, .int .i64 (s.fault cs).2]) ∧ Below w.heap.size w w' := by
  obtain ⟨W1, hW1⟩ : ∃ W1, W1 = (w.alloc (.cells #[.int .i64 s.cells, .slice ai s.init.length ci, .slice ar s.regs.length cr] 39)).alloc (.cells #[.int .i64 0, .int .i64 0] 44) := ⟨_, rfl⟩
  have hba : Below w.heap.size w W1 := by rw [hW1]; exact ((Below.refl _ _).alloc (Nat.le_refl _) _).alloc (by simp) _
  have s0 : W1.cell? ⟨w.heap.size, 0, none⟩ = some (.int .i64 s.cells) := by rw [hW1]; simp
  have s1 : W1.cell? ⟨w.heap.size, 1, none⟩ = some (.slice ai s.init.length ci) := by rw [hW1]; simp
  have s2 : W1.cell? ⟨w.heap.size, 2, none⟩ = some (.slice ar s.regs.length cr) := by rw [hW1]; simp
  have z0 : W1.cell? ⟨w.heap.size + 1, 0, none⟩ = some (.int .i64 0) := by rw [hW1]; simp
  have z1 : W1.cell? ⟨w.heap.size + 1, 1, none⟩ = some (.int .i64 0) := by rw [hW1]; simp
  have y0 : W1.frozen? ⟨w.heap.size + 1, 0, none⟩ = false := by rw [hW1]; simp
  have y1 : W1.frozen? ⟨w.heap.size + 1, 1, none⟩ = false := by rw [hW1]; simp
  have hzl : w.heap.size + 1 < W1.heap.size := World.block_lt_of_cell? _ _ z0
  have HS : Hid (StaAt s ⟨ai, ci, ar, cr⟩ W1) := hide (hs.below hba)
  have HL : Hid (codesAt ad cs W1) := hide (hl.below hba)
  have i1 := hs.ci
  have i2 := hs.cr
  have i3 := hs.li
  have i4 := hs.lr
  dsimp only at i1 i2
  clear hs hl
  obtain ⟨n, hn⟩ : ∃ n : Nat, n = cs.length := ⟨_, rfl⟩
  by_cases c1 : s.cells < 1
  · have HZ : Hid (s.fault cs = (2, -1)) := by
      show _ = _
      unfold Sta.fault
      exact if_neg (fun h => by obtain ⟨h1, h2, h3, h4, h5⟩ := h; omega)
    rw [HZ.out]
    clear HZ HS HL
    go_enter Tryd.func14, Tryd.ntmps14
    go_wp2_with fail
    rw [← hW1]
    refine (rbare_any _ _).mono ?_
    rintro e w2 ⟨rfl, hb3⟩
    clear hW1
    have r0 := keep_cell hb3 z0
    have r1 := keep_cell hb3 z1
    have x0 : w2.frozen? ⟨w.heap.size + 1, 0, none⟩ = false := by rw [hb3.frozen hzl]; exact y0
    have x1 : w2.frozen? ⟨w.heap.size + 1, 1, none⟩ = false := by rw [hb3.frozen hzl]; exact y1
    have B3 := below_step hba hb3
    clear z0 z1 y0 y1 hb3 s0 s1 s2
    go_wp2_with fail
    refine bodyPost_ret (v := .agg #[.int .i64 2, .int .i64 (-1)]) (by simp only [results, Tryd.results14]; go_simp) rfl ⟨rfl, ?_⟩
    exact (B3.setCell (Nat.le_succ _) _).setCell (Nat.le_succ _) _
  by_cases c2 : 64 < s.cells
  · have HZ : Hid (s.fault cs = (2, -1)) := by
      show _ = _
      unfold Sta.fault
      exact if_neg (fun h => by obtain ⟨h1, h2, h3, h4, h5⟩ := h; omega)
    rw [HZ.out]
    clear HZ HS HL
    go_enter Tryd.func14, Tryd.ntmps14
    go_wp2_with fail
    rw [← hW1]
    refine (rbare_any _ _).mono ?_
    rintro e w2 ⟨rfl, hb3⟩
    clear hW1
    have r0 := keep_cell hb3 z0
    have r1 := keep_cell hb3 z1
    have x0 : w2.frozen? ⟨w.heap.size + 1, 0, none⟩ = false := by rw [hb3.frozen hzl]; exact y0
    have x1 : w2.frozen? ⟨w.heap.size + 1, 1, none⟩ = false := by rw [hb3.frozen hzl]; exact y1
    have B3 := below_step hba hb3
    clear z0 z1 y0 y1 hb3 s0 s1 s2
    go_wp2_with fail
    refine bodyPost_ret (v := .agg #[.int .i64 2, .int .i64 (-1)]) (by simp only [results, Tryd.results14]; go_simp) rfl ⟨rfl, ?_⟩
    exact (B3.setCell (Nat.le_succ _) _).setCell (Nat.le_succ _) _
  by_cases c3 : (cs.length : Int) < 1
  · have HZ : Hid (s.fault cs = (2, -1)) := by
      show _ = _
      unfold Sta.fault
      exact if_neg (fun h => by obtain ⟨h1, h2, h3, h4, h5⟩ := h; omega)
    rw [HZ.out]
    clear HZ HS HL
    go_enter Tryd.func14, Tryd.ntmps14
    go_wp2_with fail
    rw [← hW1]
    refine (rbare_any _ _).mono ?_
    rintro e w2 ⟨rfl, hb3⟩
    clear hW1
    have r0 := keep_cell hb3 z0
    have r1 := keep_cell hb3 z1
    have x0 : w2.frozen? ⟨w.heap.size + 1, 0, none⟩ = false := by rw [hb3.frozen hzl]; exact y0
    have x1 : w2.frozen? ⟨w.heap.size + 1, 1, none⟩ = false := by rw [hb3.frozen hzl]; exact y1
    have B3 := below_step hba hb3
    clear z0 z1 y0 y1 hb3 s0 s1 s2
    go_wp2_with fail
    refine bodyPost_ret (v := .agg #[.int .i64 2, .int .i64 (-1)]) (by simp only [results, Tryd.results14]; go_simp) rfl ⟨rfl, ?_⟩
    exact (B3.setCell (Nat.le_succ _) _).setCell (Nat.le_succ _) _
  by_cases c4 : 6 < (cs.length : Int)
  · have HZ : Hid (s.fault cs = (2, -1)) := by
      show _ = _
      unfold Sta.fault
      exact if_neg (fun h => by obtain ⟨h1, h2, h3, h4, h5⟩ := h; omega)
    rw [HZ.out]
    clear HZ HS HL
    go_enter Tryd.func14, Tryd.ntmps14
    go_wp2_with fail
    rw [← hW1]
    refine (rbare_any _ _).mono ?_
    rintro e w2 ⟨rfl, hb3⟩
    clear hW1
    have r0 := keep_cell hb3 z0
    have r1 := keep_cell hb3 z1
    have x0 : w2.frozen? ⟨w.heap.size + 1, 0, none⟩ = false := by rw [hb3.frozen hzl]; exact y0
    have x1 : w2.frozen? ⟨w.heap.size + 1, 1, none⟩ = false := by rw [hb3.frozen hzl]; exact y1
    have B3 := below_step hba hb3
    clear z0 z1 y0 y1 hb3 s0 s1 s2
    go_wp2_with fail
    refine bodyPost_ret (v := .agg #[.int .i64 2, .int .i64 (-1)]) (by simp only [results, Tryd.results14]; go_simp) rfl ⟨rfl, ?_⟩
    exact (B3.setCell (Nat.le_succ _) _).setCell (Nat.le_succ _) _
  by_cases c5 : s.cells < (s.init.length : Int)
  · have HZ : Hid (s.fault cs = (2, -1)) := by
      show _ = _
      unfold Sta.fault
      exact if_neg (fun h => by obtain ⟨h1, h2, h3, h4, h5⟩ := h; (unfold Sta.fits at h5; rw [Bool.and_eq_true, Bool.and_eq_true, decide_eq_true_eq] at h5; omega))
    rw [HZ.out]
    clear HZ HS HL
    go_enter Tryd.func14, Tryd.ntmps14
    go_wp2_with fail
    rw [← hW1]
    refine (rbare_any _ _).mono ?_
    rintro e w2 ⟨rfl, hb3⟩
    clear hW1
    have r0 := keep_cell hb3 z0
    have r1 := keep_cell hb3 z1
    have x0 : w2.frozen? ⟨w.heap.size + 1, 0, none⟩ = false := by rw [hb3.frozen hzl]; exact y0
    have x1 : w2.frozen? ⟨w.heap.size + 1, 1, none⟩ = false := by rw [hb3.frozen hzl]; exact y1
    have B3 := below_step hba hb3
    clear z0 z1 y0 y1 hb3 s0 s1 s2
    go_wp2_with fail
    refine bodyPost_ret (v := .agg #[.int .i64 2, .int .i64 (-1)]) (by simp only [results, Tryd.results14]; go_simp) rfl ⟨rfl, ?_⟩
    exact (B3.setCell (Nat.le_succ _) _).setCell (Nat.le_succ _) _
  by_cases c6 : (cs.length : Int) < (s.regs.length : Int)
  · have HZ : Hid (s.fault cs = (2, -1)) := by
      show _ = _
      unfold Sta.fault
      exact if_neg (fun h => by obtain ⟨h1, h2, h3, h4, h5⟩ := h; (unfold Sta.fits at h5; rw [Bool.and_eq_true, Bool.and_eq_true, Bool.and_eq_true, decide_eq_true_eq, decide_eq_true_eq] at h5; omega))
    rw [HZ.out]
    clear HZ HS HL
    go_enter Tryd.func14, Tryd.ntmps14
    go_wp2_with fail
    rw [← hW1]
    refine (rbare_any _ _).mono ?_
    rintro e w2 ⟨rfl, hb3⟩
    clear hW1
    have r0 := keep_cell hb3 z0
    have r1 := keep_cell hb3 z1
    have x0 : w2.frozen? ⟨w.heap.size + 1, 0, none⟩ = false := by rw [hb3.frozen hzl]; exact y0
    have x1 : w2.frozen? ⟨w.heap.size + 1, 1, none⟩ = false := by rw [hb3.frozen hzl]; exact y1
    have B3 := below_step hba hb3
    clear z0 z1 y0 y1 hb3 s0 s1 s2
    go_wp2_with fail
    refine bodyPost_ret (v := .agg #[.int .i64 2, .int .i64 (-1)]) (by simp only [results, Tryd.results14]; go_simp) rfl ⟨rfl, ?_⟩
    exact (B3.setCell (Nat.le_succ _) _).setCell (Nat.le_succ _) _
  have FITS : Hid (s.fits cs.length = (rowsOk 4 s.init && rowsOk 8 s.regs)) := by
    show _ = _
    unfold Sta.fits
    rw [decide_eq_true (show (s.init.length : Int) ≤ s.cells by omega), decide_eq_true (show s.regs.length ≤ cs.length by omega), Bool.true_and, Bool.true_and]
  have RNG : 1 ≤ s.cells ∧ s.cells ≤ 64 ∧ 1 ≤ cs.length ∧ cs.length ≤ 6 := ⟨by omega, by omega, by omega, by omega⟩
  have HNO : Hid (s.fits cs.length = false → s.fault cs = (2, -1)) := hide fun h => by
    unfold Sta.fault
    exact if_neg (fun h5 => by rw [h] at h5; exact absurd h5.2.2.2.2 (by decide))
  have HYES : Hid (s.fits cs.length = true → s.fault cs = codesFrom 0 cs) := hide fun h => by
    unfold Sta.fault
    exact if_pos ⟨RNG.1, RNG.2.1, RNG.2.2.1, RNG.2.2.2, h⟩
  obtain ⟨F, HF⟩ : ∃ F, Hid (F = s.fault cs) := ⟨_, hide rfl⟩
  rw [← HF.out]
  clear RNG
  go_enter Tryd.func14, Tryd.ntmps14
  go_wp2_with fail
  rw [← hW1]
  clear hW1
  go_loopw [5, 6] (fun i _ wr => ∃ j : Nat, j ≤ s.init.length ∧ i = .int .i64 j ∧ wr = W1 ∧ Hid (∀ (k : Nat) x, k < j → s.init[k]? = some x → rowOk 4 x = true)) (fun i _ _ => s.init.length - (intOf i).toNat)
  case atStart => exact ⟨0, Nat.zero_le _, rfl, rfl, fun k x h => absurd h (Nat.not_lt_zero _)⟩
  case round =>
    obtain ⟨j, hj, rfl, hwr, HJ⟩ := hrel
    have hwr := hwr.symm
    subst hwr
    by_cases hlt : j < s.init.length
    · obtain ⟨row, hrow⟩ : ∃ row, s.init[j]? = some row := ⟨_, List.getElem?_eq_getElem hlt⟩
      obtain ⟨b, off, adr, capr, hb', c0, hcr, hnr⟩ := HS.out.init j row hrow
      dsimp only at hb'
      subst hb'
      have ji : (j : Int) < s.init.length := by omega
      have HRW := hide (rightWords_any (cap := capr) (most := 4) hnr (HS.out.ri j row hrow))
      cases hw : rowOk 4 row
      · have HR : Hid (F = (2, -1)) := by
          show _ = _
          rw [HF.out]
          exact HNO.out (by rw [FITS.out, show rowsOk 4 s.init = false from all_hit hrow hw, Bool.false_and])
        rw [hw] at HRW
        clear HL HJ hrow HS hnr FITS HNO HYES
        go_wp2_with fail
        refine HRW.out.mono ?_
        rintro e w1 ⟨rfl, rfl⟩
        go_wp2_with fail
        refine (rbare_any _ _).mono ?_
        rintro e w2 ⟨rfl, hb3⟩
        have HB2 := hide hb3
        clear hb3
        have r0 := keep_cell HB2.out z0
        have r1 := keep_cell HB2.out z1
        have x0 : w2.frozen? ⟨w.heap.size + 1, 0, none⟩ = false := by rw [HB2.out.frozen hzl]; exact y0
        have x1 : w2.frozen? ⟨w.heap.size + 1, 1, none⟩ = false := by rw [HB2.out.frozen hzl]; exact y1
        have B3 := below_step hba HB2.out
        clear z0 z1 y0 y1 HB2 s0 s1 s2
        go_wp2_with fail
        refine bodyPost_ret (v := .agg #[.int .i64 2, .int .i64 (-1)]) (by simp only [results, Tryd.results14]; go_simp) rfl ⟨by rw [HR.out]; rfl, ?_⟩
        exact (B3.setCell (Nat.le_succ _) _).setCell (Nat.le_succ _) _
      · have HR : Hid (∀ (k : Nat) x, k < j + 1 → s.init[k]? = some x → rowOk 4 x = true) := fun k y hk hy => by
          by_cases e : k = j
          · subst e; rw [hrow] at hy; cases hy; exact hw
          · exact HJ.out k y (by omega) hy
        rw [hw] at HRW
        clear HL HJ hrow HS hnr
        go_wp2_with fail
        refine HRW.out.mono ?_
        rintro e w1 ⟨rfl, rfl⟩
        go_wp2
        go_roundw
        case rel => exact ⟨j + 1, by omega, by go_num, by first | trivial | rfl, HR⟩
        case measure => simp [intOf]; omega
    · obtain rfl : j = s.init.length := by omega
      have HA : Hid (rowsOk 4 s.init = true) := all_done (fun k x hk hx => HJ.out k x hk hx)
      clear HJ
      go_wp2_with fail
      go_loopw [7, 8] (fun i _ wr => ∃ j : Nat, j ≤ s.regs.length ∧ i = .int .i64 j ∧ wr = W1 ∧ Hid (∀ (k : Nat) x, k < j → s.regs[k]? = some x → rowOk 8 x = true)) (fun i _ _ => s.regs.length - (intOf i).toNat)
      case atStart => exact ⟨0, Nat.zero_le _, rfl, rfl, fun k x h => absurd h (Nat.not_lt_zero _)⟩
      case round =>
        obtain ⟨j, hj, rfl, hwr, HJ⟩ := hrel
        have hwr := hwr.symm
        subst hwr
        by_cases hlt : j < s.regs.length
        · obtain ⟨row, hrow⟩ : ∃ row, s.regs[j]? = some row := ⟨_, List.getElem?_eq_getElem hlt⟩
          obtain ⟨b, off, adr, capr, hb', c0, hcr, hnr⟩ := HS.out.regs j row hrow
          dsimp only at hb'
          subst hb'
          have ji : (j : Int) < s.regs.length := by omega
          have HRW := hide (rightWords_any (cap := capr) (most := 8) hnr (HS.out.rr j row hrow))
          cases hw : rowOk 8 row
          · have HR : Hid (F = (2, -1)) := by
              show _ = _
              rw [HF.out]
              exact HNO.out (by rw [FITS.out, show rowsOk 8 s.regs = false from all_hit hrow hw, Bool.and_false])
            rw [hw] at HRW
            clear HL HJ hrow HS hnr FITS HNO HYES
            go_wp2_with fail
            refine HRW.out.mono ?_
            rintro e w1 ⟨rfl, rfl⟩
            go_wp2_with fail
            refine (rbare_any _ _).mono ?_
            rintro e w2 ⟨rfl, hb3⟩
            have HB2 := hide hb3
            clear hb3
            have r0 := keep_cell HB2.out z0
            have r1 := keep_cell HB2.out z1
            have x0 : w2.frozen? ⟨w.heap.size + 1, 0, none⟩ = false := by rw [HB2.out.frozen hzl]; exact y0
            have x1 : w2.frozen? ⟨w.heap.size + 1, 1, none⟩ = false := by rw [HB2.out.frozen hzl]; exact y1
            have B3 := below_step hba HB2.out
            clear z0 z1 y0 y1 HB2 s0 s1 s2
            go_wp2_with fail
            refine bodyPost_ret (v := .agg #[.int .i64 2, .int .i64 (-1)]) (by simp only [results, Tryd.results14]; go_simp) rfl ⟨by rw [HR.out]; rfl, ?_⟩
            exact (B3.setCell (Nat.le_succ _) _).setCell (Nat.le_succ _) _
          · have HR : Hid (∀ (k : Nat) x, k < j + 1 → s.regs[k]? = some x → rowOk 8 x = true) := fun k y hk hy => by
              by_cases e : k = j
              · subst e; rw [hrow] at hy; cases hy; exact hw
              · exact HJ.out k y (by omega) hy
            rw [hw] at HRW
            clear HL HJ hrow HS hnr
            go_wp2_with fail
            refine HRW.out.mono ?_
            rintro e w1 ⟨rfl, rfl⟩
            go_wp2
            go_roundw
            case rel => exact ⟨j + 1, by omega, by go_num, by first | trivial | rfl, HR⟩
            case measure => simp [intOf]; omega
        · obtain rfl : j = s.regs.length := by omega
          have HFC : Hid (F = codesFrom 0 cs) := by
            show _ = _
            rw [HF.out]
            exact HYES.out (by rw [FITS.out, HA.out, show rowsOk 8 s.regs = true from all_done (fun k x hk hx => HJ.out k x hk hx)]; rfl)
          clear HJ HS HNO HYES FITS HF HA
          go_wp2_with fail
          go_loopw [9] (fun i wr => ∃ j : Nat, j ≤ cs.length ∧ i = .int .i64 j ∧ Hid (Below W1.heap.size W1 wr) ∧ Hid (∀ (t : Nat) L, t < j → cs[t]? = some L → (codeFault L).1 = 0)) (fun i _ => cs.length - (intOf i).toNat)
          case atStart => exact ⟨0, Nat.zero_le _, rfl, Below.refl _ _, fun k x h => absurd h (Nat.not_lt_zero _)⟩
          case round =>
            obtain ⟨j, hj, rfl, HB, HJ⟩ := hrel
            by_cases hlt : j < cs.length
            · obtain ⟨L, hLj⟩ : ∃ L, cs[j]? = some L := ⟨_, List.getElem?_eq_getElem hlt⟩
              obtain ⟨b, off, adl, capl, rfl, c0, hcl, hin, -⟩ := (HL.out.below HB.out) j L hLj
              have ji : (j : Int) < cs.length := by omega
              have HCF := hide (codeFault_any adl capl L wr hin)
              cases hz : (codeFault L).1 with
              | zero =>
                have HR : Hid (∀ (t : Nat) L, t < j + 1 → cs[t]? = some L → (codeFault L).1 = 0) := fun k y hk hy => by
                  by_cases e : k = j
                  · subst e; rw [hLj] at hy; cases hy; exact hz
                  · exact HJ.out k y (by omega) hy
                rw [hz, show ((0 : Nat) : Int) = 0 from rfl] at HCF
                generalize (codeFault L).2 = c2 at *
                clear HJ hLj hin
                go_wp2_with fail
                refine HCF.out.mono ?_
                rintro e w4 ⟨rfl, hb4⟩
                have HB4 := hide ((HB.out.trans (hb4.mono HB.out.size)).alloc (HB.out.trans (hb4.mono HB.out.size)).size (.cells #[.int .i64 0, .int .i64 c2] 44))
                clear HB hb4 HCF
                go_wp2
                go_roundw
                case rel => exact ⟨j + 1, by omega, by go_num, HB4, HR⟩
                case measure => simp [intOf]; omega
              | succ k =>
                have HR : Hid (F = ((k + 1 : Nat), (j : Int))) := by
                  show _ = _
                  rw [HFC.out, codesFrom_hit cs 0 j L hLj (by rw [hz]; exact Nat.succ_ne_zero k) (fun t L' ht hl => HJ.out t L' ht hl), hz, Nat.zero_add]
                rw [hz] at HCF
                have kp : 0 < (((k + 1 : Nat) : Int)) := by omega
                generalize (codeFault L).2 = c2 at *
                clear HJ hLj hin hz
                generalize hke : (((k + 1 : Nat) : Int)) = ke at *
                go_wp2_with fail
                refine HCF.out.mono ?_
                rintro e w4 ⟨rfl, hb4⟩
                have b4 := HB.out.trans (hb4.mono HB.out.size)
                have r0 := keep_cell b4 z0
                have r1 := keep_cell b4 z1
                have x0 : w4.frozen? ⟨w.heap.size + 1, 0, none⟩ = false := by rw [b4.frozen hzl]; exact y0
                have x1 : w4.frozen? ⟨w.heap.size + 1, 1, none⟩ = false := by rw [b4.frozen hzl]; exact y1
                have lz : w.heap.size + 1 < w4.heap.size := World.block_lt_of_cell? _ _ r0
                have B3 := below_step hba b4
                clear z0 z1 y0 y1 s0 s1 s2 HB hb4 b4 HCF HFC
                go_wp2_with fail
                refine bodyPost_ret (v := .agg #[.int .i64 ke, .int .i64 j]) (by simp only [results, Tryd.results14]; go_simp) rfl ⟨by rw [HR.out, ← hke], ?_⟩
                first
                | exact ((B3.setCell (Nat.le_succ _) _).setCell (Nat.le_succ _) _).alloc (by simp; exact B3.size) _
                | exact ((B3.alloc B3.size _).setCell (Nat.le_succ _) _).setCell (Nat.le_succ _) _
            · obtain rfl : j = cs.length := by omega
              have HR : Hid (F = (0, -1)) := by
                show _ = _
                rw [HFC.out]
                exact codesFrom_none cs 0 (fun t L ht => HJ.out t L (List.getElem?_eq_some_iff.1 ht).1 ht)
              clear HJ HFC
              go_wp2_with fail
              refine (fine_any _).mono ?_
              rintro e w4 ⟨rfl, hb4⟩
              have HB2 := hide (HB.out.trans (hb4.mono HB.out.size))
              clear HB hb4
              have r0 := keep_cell HB2.out z0
              have r1 := keep_cell HB2.out z1
              have x0 : w4.frozen? ⟨w.heap.size + 1, 0, none⟩ = false := by rw [HB2.out.frozen hzl]; exact y0
              have x1 : w4.frozen? ⟨w.heap.size + 1, 1, none⟩ = false := by rw [HB2.out.frozen hzl]; exact y1
              have B3 := below_step hba HB2.out
              clear z0 z1 y0 y1 HB2 s0 s1 s2
              go_wp2_with fail
              refine bodyPost_ret (v := .agg #[.int .i64 0, .int .i64 (-1)]) (by simp only [results, Tryd.results14]; go_simp) rfl ⟨by rw [HR.out]; rfl, ?_⟩
              exact (B3.setCell (Nat.le_succ _) _).setCell (Nat.le_succ _) _
end Go.Proofs.YtepgcgokolmedaaDoor

/- SpI -/
namespace Go.Proofs.YtepgcgokolmedaaDoor
open Go.RowKit Go.Extern.Stop Go.Stop Go.Extern Go.Maps Go.WideMaps Go.Sort

def spRegs : List Int := [0, 0, 0, 0, 0, 0, 0, 1]
def rowOwn (w : World) (base : Nat) (u : Value) : Prop := w.ownsRow base 3 1 u 8 (spRegs.map (Value.int .i64))

structure Prep (tm jc jr : Nat) (w0 : World) (base sb bi : Nat) (v : Value) (vs : List Value) (rv : Value) (rs : List Value) (w : World) : Prop where
  own : w.ownsRow base 23 1 v jc vs
  ownr : w.ownsRow base 36 1 rv jr rs
  codes : ∀ u ∈ vs, insOwn w base u (spCode tm)
  rows : ∀ u ∈ rs, rowOwn w base u
  nec : ∀ u ∈ vs, ∀ b, u.ownBlock = some b → v.ownBlock ≠ some b ∧ rv.ownBlock ≠ some b
  ner : ∀ u ∈ rs, ∀ b, u.ownBlock = some b → v.ownBlock ≠ some b ∧ rv.ownBlock ≠ some b
  ne : ∀ b, v.ownBlock = some b → rv.ownBlock ≠ some b
  low : Below w0.heap.size w0 w
  b0 : w0.heap.size ≤ base
  sb0 : w0.heap.size ≤ sb
  sb1 : sb < base
  bi1 : bi < base
  bs : bi ≠ sb
  c0 : w.cell? ⟨sb, 0, none⟩ = some (.int .i64 1)
  c1 : w.cell? ⟨sb, 1, none⟩ = some (.slice (some ⟨bi, 0, none⟩) 1 1)
  c2 : w.cell? ⟨sb, 2, none⟩ = some rv
  ci : ∃ ad cap, w.cell? ⟨bi, 0, none⟩ = some (.slice ad 0 cap)
  fz : ∀ o, w.frozen? ⟨sb, o, none⟩ = false
  sz : base ≤ w.heap.size

section
variable {tm jc jr : Nat} {w0 : World} {base sb bi : Nat} {v : Value} {vs : List Value} {rv : Value} {rs : List Value} {w w' : World}
theorem Prep.below (h : Prep tm jc jr w0 base sb bi v vs rv rs w) (k : Below w.heap.size w w') : Prep tm jc jr w0 base sb bi v vs rv rs w' where
  own := ownsRow_block h.own (fun b hb => k.block b (h.own.lt b hb).2)
  ownr := ownsRow_block h.ownr (fun b hb => k.block b (h.ownr.lt b hb).2)
  codes u hu := insOwn_keep (h.codes u hu) k
  rows u hu := ownsRow_block (h.rows u hu) (fun b hb => k.block b (World.ownsRow.lt (h.rows u hu) b hb).2)
  nec := h.nec
  ner := h.ner
  ne := h.ne
  low := below_step h.low k
  b0 := h.b0
  sb0 := h.sb0
  sb1 := h.sb1
  bi1 := h.bi1
  bs := h.bs
  c0 := keep_cell k h.c0
  c1 := keep_cell k h.c1
  c2 := keep_cell k h.c2
  ci := by obtain ⟨ad, cap, e⟩ := h.ci; exact ⟨ad, cap, keep_cell k e⟩
  fz o := by rw [World.frozen?_of_block (k.block sb (Nat.lt_of_lt_of_le h.sb1 h.sz))]; exact h.fz o
  sz := Nat.le_trans h.sz k.size

theorem Prep.code (h : Prep tm jc jr w0 base sb bi v vs rv rs w) {u : Value} (hu : insOwn w base u (spCode tm)) (hne : ∀ b, u.ownBlock = some b → v.ownBlock ≠ some b ∧ rv.ownBlock ≠ some b) {v' : Value} {N : Nat} (hN : w.heap.size ≤ N)
    (ho : w'.ownsRow base 23 1 v' (jc + 1) (vs ++ [u])) (hg : w.grownBy w' v.ownBlock) (hloc : v'.ownBlock = v.ownBlock ∨ v'.ownBlock = some N) : Prep tm (jc + 1) jr w0 base sb bi v' (vs ++ [u]) rv rs w' := by
  have hB : Below base w w' := (Below.refl base w).grown hg h.sz (fun k hk => (h.own.lt k hk).1)
  have kc : ∀ k o x, k < base → w.cell? ⟨k, o, none⟩ = some x → w'.cell? ⟨k, o, none⟩ = some x := fun k o x hk hc => by
    rw [World.cell?_of_block (hB.block k hk)]; exact hc
  have nb : ∀ b, b < w.heap.size → v.ownBlock ≠ some b → v'.ownBlock ≠ some b := fun b hb hne e => by
    rcases hloc with h1 | h1
    · rw [h1] at e; exact hne e
    · rw [h1] at e
      have := Option.some.inj e
      omega
  refine ⟨ho, World.ownsRow.kept h.ownr hg ?_, fun x hx => ?_, fun x hx => World.ownsRow.kept (h.rows x hx) hg ?_, fun x hx b e => ?_, fun x hx b e => ?_, fun b e e2 => ?_, ?_, h.b0, h.sb0, h.sb1, h.bi1, h.bs, kc _ _ _ h.sb1 h.c0, kc _ _ _ h.sb1 h.c1, kc _ _ _ h.sb1 h.c2, ?_, fun o => ?_, Nat.le_trans h.sz hB.size⟩
  · cases hr : rv.ownBlock with
    | none => exact .inl rfl
    | some b => exact .inr fun e => h.ne b e.symm hr
  · rcases List.mem_append.1 hx with hx | hx
    · refine insOwn_kept (h.codes x hx) hg ?_
      cases hr : x.ownBlock with
      | none => exact .inl rfl
      | some b => exact .inr fun e => (h.nec x hx b hr).1 e.symm
    · obtain rfl : x = u := by simpa using hx
      refine insOwn_kept hu hg ?_
      cases hr : x.ownBlock with
      | none => exact .inl rfl
      | some b => exact .inr fun e => (hne b hr).1 e.symm
  · cases hr : x.ownBlock with
    | none => exact .inl rfl
    | some b => exact .inr fun e => (h.ner x hx b hr).1 e.symm
  · rcases List.mem_append.1 hx with hx | hx
    · exact ⟨nb b (World.ownsRow.lt (h.codes x hx) b e).2 (h.nec x hx b e).1, (h.nec x hx b e).2⟩
    · obtain rfl : x = u := by simpa using hx
      exact ⟨nb b (World.ownsRow.lt hu b e).2 (hne b e).1, (hne b e).2⟩
  · exact ⟨nb b (World.ownsRow.lt (h.rows x hx) b e).2 (h.ner x hx b e).1, (h.ner x hx b e).2⟩
  · exact nb b (h.ownr.lt b e2).2 (fun e3 => h.ne b e3 e2) e
  · exact h.low.trans (hB.mono h.b0)
  · obtain ⟨ad, cap, e⟩ := h.ci
    exact ⟨ad, cap, kc _ _ _ h.bi1 e⟩
  · rw [World.frozen?_of_block (hB.block sb h.sb1)]; exact h.fz o

theorem Prep.row (h : Prep tm jc jr w0 base sb bi v vs rv rs w) {u : Value} (hu : rowOwn w base u) (hne : ∀ b, u.ownBlock = some b → v.ownBlock ≠ some b ∧ rv.ownBlock ≠ some b) {rv' : Value} {N : Nat} (hN : w.heap.size ≤ N)
    (ho : w'.ownsRow base 36 1 rv' (jr + 1) (rs ++ [u])) (hg : w.grownBy w' rv.ownBlock) (hloc : rv'.ownBlock = rv.ownBlock ∨ rv'.ownBlock = some N) : Prep tm jc (jr + 1) w0 base sb bi v vs rv' (rs ++ [u]) (w'.setCell ⟨sb, 2, none⟩ rv') := by
  have hB : Below base w w' := (Below.refl base w).grown hg h.sz (fun k hk => (h.ownr.lt k hk).1)
  have kc : ∀ k o x, k < base → w.cell? ⟨k, o, none⟩ = some x → w'.cell? ⟨k, o, none⟩ = some x := fun k o x hk hc => by
    rw [World.cell?_of_block (hB.block k hk)]; exact hc
  have nb : ∀ b, b < w.heap.size → rv.ownBlock ≠ some b → rv'.ownBlock ≠ some b := fun b hb hne e => by
    rcases hloc with h1 | h1
    · rw [h1] at e; exact hne e
    · rw [h1] at e
      have := Option.some.inj e
      omega
  have blk : ∀ b, b ≠ sb → (w'.setCell ⟨sb, 2, none⟩ rv').heap[b]? = w'.heap[b]? := fun b hb => Below.heap_setCell _ _ _ _ hb
  have ko : ∀ {e : TypeId} {size : Nat} {x : Value} {n : Nat} {xs : List Value}, w'.ownsRow base e size x n xs → (w'.setCell ⟨sb, 2, none⟩ rv').ownsRow base e size x n xs := fun ho => ownsRow_block ho (fun b hb => blk b (fun e => by have := (ho.lt b hb).1; have := h.sb1; omega))
  refine ⟨ko (World.ownsRow.kept h.own hg ?_), ko ho, fun x hx => ko (insOwn_kept (h.codes x hx) hg ?_), fun x hx => ?_, fun x hx b e => ?_, fun x hx b e => ?_, fun b e e2 => ?_, ?_, h.b0, h.sb0, h.sb1, h.bi1, h.bs, cell_ne (kc _ _ _ h.sb1 h.c0) (.inr (by decide)), cell_ne (kc _ _ _ h.sb1 h.c1) (.inr (by decide)), World.cell?_setCell_same _ _ _ (kc _ _ _ h.sb1 h.c2), ?_, fun o => ?_, ?_⟩
  · cases hr : v.ownBlock with
    | none => exact .inl rfl
    | some b => exact .inr fun e => h.ne b hr e.symm
  · cases hr : x.ownBlock with
    | none => exact .inl rfl
    | some b => exact .inr fun e => (h.nec x hx b hr).2 e.symm
  · refine ko ?_
    rcases List.mem_append.1 hx with hx | hx
    · refine World.ownsRow.kept (h.rows x hx) hg ?_
      cases hr : x.ownBlock with
      | none => exact .inl rfl
      | some b => exact .inr fun e => (h.ner x hx b hr).2 e.symm
    · obtain rfl : x = u := by simpa using hx
      refine World.ownsRow.kept hu hg ?_
      cases hr : x.ownBlock with
      | none => exact .inl rfl
      | some b => exact .inr fun e => (hne b hr).2 e.symm
  · exact ⟨(h.nec x hx b e).1, nb b (World.ownsRow.lt (h.codes x hx) b e).2 (h.nec x hx b e).2⟩
  · rcases List.mem_append.1 hx with hx | hx
    · exact ⟨(h.ner x hx b e).1, nb b (World.ownsRow.lt (h.rows x hx) b e).2 (h.ner x hx b e).2⟩
    · obtain rfl : x = u := by simpa using hx
      exact ⟨(hne b e).1, nb b (World.ownsRow.lt hu b e).2 (hne b e).2⟩
  · exact nb b (h.own.lt b e).2 (h.ne b e) e2
  · exact (h.low.trans (hB.mono h.b0)).setCell h.sb0 _
  · obtain ⟨ad, cap, e⟩ := h.ci
    exact ⟨ad, cap, cell_ne (kc _ _ _ h.bi1 e) (.inl h.bs)⟩
  · rw [World.frozen?_setCell, World.frozen?_of_block (hB.block sb h.sb1)]; exact h.fz o
  · have := hB.size
    have := h.sz
    simp [World.setCell]; omega

def spSta (T : Nat) : Sta := ⟨1, [[]], List.replicate T spRegs⟩
theorem Prep.sta {T : Nat} (h : Prep tm T T w0 base sb bi v vs rv rs w) (hT : T ≤ 6) : ∃ ar cr ad cap, rv = .slice ar T cr ∧ v = .slice ad T cap ∧ StaAt (spSta T) ⟨some ⟨bi, 0, none⟩, 1, ar, cr⟩ w ∧ codesAt ad (List.replicate T (spCode tm)) w := by
  obtain ⟨ar, cr, e1, h1, h2, h3⟩ := ownsRow_shape h.ownr
  obtain ⟨ad, cap, e2, g1, g2, g3⟩ := ownsRow_shape h.own
  have lr : rs.length = T := by have := h.ownr.1; omega
  have lv : vs.length = T := by have := h.own.1; omega
  refine ⟨ar, cr, ad, cap, e1, e2, ⟨fun i row hr => ?_, fun i row hr => ?_, Nat.le_refl _, ?_, (show 1 ≤ 9223372036854775807 by decide), ?_, fun i row hr => ?_, fun i row hr => ?_⟩, fun t L ht => ?_⟩
  · obtain ⟨adi, capi, ei⟩ := h.ci
    have hi : i = 0 ∧ row = [] := by
      cases i with
      | zero => cases hr; exact ⟨rfl, rfl⟩
      | succ i => cases hr
    obtain ⟨rfl, rfl⟩ := hi
    exact ⟨bi, 0, adi, capi, rfl, ei, Nat.zero_le _, fun k x hx => by simp at hx⟩
  · show ∃ b off adr cap, _
    have hi : i < T ∧ row = spRegs := by
      have : (List.replicate T spRegs)[i]? = some row := hr
      rw [List.getElem?_replicate] at this
      split at this
      · rename_i hlt
        cases this
        exact ⟨hlt, rfl⟩
      · cases this
    obtain ⟨hi, rfl⟩ := hi
    obtain ⟨u, hu⟩ : ∃ u, rs[i]? = some u := ⟨_, List.getElem?_eq_getElem (by omega)⟩
    obtain ⟨g, eg, cg⟩ := h3 i u hu
    obtain ⟨adr, capr, eu, k1, k2, k3⟩ := ownsRow_shape (h.rows u (List.mem_of_getElem? hu))
    refine ⟨g, 0, adr, capr, eg, by rw [Nat.zero_add, cg, eu]; rfl, k1, fun k x hx => ?_⟩
    obtain ⟨gg, e3, c3⟩ := k3 k (.int .i64 x) (by rw [List.getElem?_map, hx]; rfl)
    exact ⟨gg, 0, e3, by rw [Nat.zero_add]; exact c3⟩
  · show (List.replicate T spRegs).length ≤ cr
    rw [List.length_replicate]; exact h1
  · show (List.replicate T spRegs).length ≤ _
    rw [List.length_replicate]; omega
  · have : row = [] := by
      cases i with
      | zero => cases hr; rfl
      | succ i => cases hr
    rw [this]; decide
  · have : (List.replicate T spRegs)[i]? = some row := hr
    rw [List.getElem?_replicate] at this
    split at this
    · cases this; decide
    · cases this
  · rw [List.getElem?_replicate] at ht
    split at ht
    · rename_i hlt
      cases ht
      obtain ⟨u, hu⟩ : ∃ u, vs[t]? = some u := ⟨_, List.getElem?_eq_getElem (by omega)⟩
      obtain ⟨g, eg, cg⟩ := g3 t u hu
      obtain ⟨adl, capl, eu, k1, k2, k3⟩ := insAt_of_icells (h.codes u (List.mem_of_getElem? hu))
      refine ⟨g, 0, adl, capl, eg, by rw [Nat.zero_add, cg, eu], k1, k3, fun en => ?_⟩
      rcases (h.codes u (List.mem_of_getElem? hu)).2 with ⟨e4, e5⟩ | ⟨gg, cc, cur, e4, _⟩
      · exact List.length_eq_zero_iff.1 e5
      · rw [eu] at e4
        cases e4
        cases en
    · cases ht
end
end Go.Proofs.YtepgcgokolmedaaDoor

/- StL -/
namespace Go.Proofs.YtepgcgokolmedaaDoor
open Go.RowKit

theorem wd_zero : Wd 0 := ⟨by decide, by decide⟩
theorem rowAt_wd {R : List (List Int)} {n : Nat} (h : rowsOk n R = true) (t r : Nat) : Wd (rowAt R t r) := by
  unfold rowAt
  cases ht : R[t]? with
  | none =>
    have e : R.getD t [] = [] := by rw [List.getD_eq_getElem?_getD, ht]; rfl
    rw [e]; exact wd_zero
  | some row =>
    have e : R.getD t [] = row := by rw [List.getD_eq_getElem?_getD, ht]; rfl
    rw [e]
    cases hr : row[r]? with
    | none => rw [List.getD_eq_getElem?_getD, hr]; exact wd_zero
    | some v => rw [List.getD_eq_getElem?_getD, hr]; exact (rowOk_at h ht).2 r v hr
theorem Sta.mach_ok {s : Sta} {n : Nat} (h : s.fits n = true) (h2 : s.cells ≤ 64) (hn : n ≤ 6) : MkOk n 1 (s.mach n) := by
  obtain ⟨-, f2, -, f4⟩ := Sta.fits_of h
  refine ⟨⟨fun t _ x hx => ?_, fun t _ => ?_, fun c k => ?_, fun c => ?_, ?_, hn⟩, rfl, fun t r => rowAt_wd f4 t r, Nat.zero_le _, Nat.zero_le _, fun _ => Nat.zero_le _⟩
  · exact absurd hx List.not_mem_nil
  · exact Nat.zero_le _
  · show Wd (if _ then rowAt s.init c k else 0)
    split
    · exact rowAt_wd f2 c k
    · exact wd_zero
  · show (if c < s.init.length then 1 else 0) ≤ 1
    split <;> decide
  · show s.cells.toNat ≤ 64
    omega
end Go.Proofs.YtepgcgokolmedaaDoor
