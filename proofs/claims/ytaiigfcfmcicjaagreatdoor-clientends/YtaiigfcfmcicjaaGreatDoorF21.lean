import Derived.Test.YtaiigfcfmcicjaaGreatDoorF10
import Derived.Test.YtaiigfcfmcicjaaGreatDoorF18
import Derived.Test.YtaiigfcfmcicjaaGreatDoorF09
import Derived.Test.YtaiigfcfmcicjaaGreatDoorF16
import Derived.Test.YtaiigfcfmcicjaaGreatDoorF20
namespace Go.Proofs.YtaiigfcfmcicjaaGreatDoor
set_option maxRecDepth 100000
set_option maxHeartbeats 8000000
section
open Go.RowKit Go.Extern.Stop Go.Stop Go.Extern Go.Maps Go.WideMaps Go.Sort
def codesAt (ad : Option Addr) (cs : List (List Ins)) (w : World) : Prop := ∀ (t : Nat) L, cs[t]? = some L -> ∃ b off adl capl, ad = some ⟨b, off, none⟩ /\ w.cell? ⟨b, off + t, none⟩ = some (.slice adl L.length capl) /\ L.length <= capl /\ insAt adl L w /\ (adl = none -> L = [])
theorem codesAt.below {ad : Option Addr} {cs : List (List Ins)} {w w' : World} (h : codesAt ad cs w) (hb : Below w.heap.size w w') : codesAt ad cs w' := fun t L ht => by
 obtain ⟨b, off, adl, capl, h1, h2, h3, h4, h5⟩ := h t L ht
 exact ⟨b, off, adl, capl, h1, keep_cell hb h2, h3, insAt_below h4 hb, h5⟩
variable {w : World}
theorem rightWords_any {ad : Option Addr} {l : List Int} {cap most : Nat} (hl : numsAt ad l w) (hlen : l.length <= 9223372036854775807) :
  Calls Tryz.prog 41 #[.slice ad l.length cap, .int .i64 most] w fun e w' => e = .returned (.bool (rowOk most l)) /\ w' = w := by
 have HL := hide hl
 clear hl
 go_enter Tryz.func41, Tryz.ntmps41
 go_wp2_with fail
 go_loopw [5] (fun i wr => ∃ j : Nat, j <= l.length /\ i = .int .i64 j /\ wr = w /\ Hid (∀ (k : Nat) x, k < j -> l[k]? = some x -> wordOk x = true)) (fun i _ => l.length - (intOf i).toNat)
 case atStart => exact ⟨0, Nat.zero_le _, rfl, rfl, fun k x h => absurd h (Nat.not_lt_zero _)⟩
 case round =>
  obtain ⟨j, hj, rfl, rfl, HJ⟩ := hrel
  by_cases hlt : j < l.length
  ·obtain ⟨x, hx⟩ : ∃ x, l[j]? = some x := ⟨_, List.getElem?_eq_getElem hlt⟩
   obtain ⟨b, off, rfl, c0⟩ := HL.out j x hx
   have ji : (j : Int) < l.length := by omega
   have HI := hide (isWordR_any x wr)
   cases hw : wordOk x
   ·have HR : Hid (rowOk most l = false) := by
     show _ = _
     unfold rowOk
     rw [all_hit hx hw, Bool.and_false]
    rw [show decide (0 <= x /\ x < 4294967296) = false from hw] at HI
    clear HL HJ hx
    go_wp2_with fail
    refine HI.out.mono ?_
    rintro e w1 ⟨rfl, rfl⟩
    go_wp2
    go_ret
    exact ⟨by rw [HR.out]; rfl, rfl⟩
   ·have HR : Hid (∀ (k : Nat) x, k < j + 1 -> l[k]? = some x -> wordOk x = true) := fun k y hk hy => by
     by_cases e : k = j
     ·subst e; rw [hx] at hy; cases hy; exact hw
     ·exact HJ.out k y (by omega) hy
    rw [show decide (0 <= x /\ x < 4294967296) = true from hw] at HI
    clear HL HJ hx
    go_wp2_with fail
    refine HI.out.mono ?_
    rintro e w1 ⟨rfl, rfl⟩
    go_wp2
    go_roundw
    case rel => exact ⟨j + 1, by omega, by go_num, by first | trivial | rfl, HR⟩
    case measure => simp [intOf]; omega
  ·obtain rfl : j = l.length := by omega
   have HR : Hid (rowOk most l = decide (l.length <= most)) := by
    show _ = _
    unfold rowOk
    rw [all_done (fun k x hk hx => HJ.out k x hk hx), Bool.and_true]
   clear HL HJ
   go_wp2
   go_ret
   exact ⟨by rw [HR.out]; rfl, rfl⟩
theorem startFault_any {s : Sta} {ai ar ad : Option Addr} {ci cr cap : Nat} {cs : List (List Ins)} (hs : StaAt s ⟨ai, ci, ar, cr⟩ w) (hl : codesAt ad cs w) (hc : cs.length <= 9223372036854775807) :
  Calls Tryz.prog 18 #[.agg #[.int .i64 s.cells, .slice ai s.init.length ci, .slice ar s.regs.length cr], .slice ad cs.length cap] w fun e w' => e = .returned (.agg #[.int .i64 (s.fault cs).1, .int .i64 (s.fault cs).2]) /\ Below w.heap.size w w' := by
 obtain ⟨W1, hW1⟩ : ∃ W1, W1 = (w.alloc (.cells #[.int .i64 s.cells, .slice ai s.init.length ci, .slice ar s.regs.length cr] 45)).alloc (.cells #[.int .i64 0, .int .i64 0] 31) := ⟨_, rfl⟩
 have hba : Below w.heap.size w W1 := by rw [hW1]; exact (bRf.alloc nL _).alloc (by simp) _
 have s0 : W1.cell? ⟨w.heap.size, 0, none⟩ = some (.int .i64 s.cells) := by rw [hW1]; simp
 have s1 : W1.cell? ⟨w.heap.size, 1, none⟩ = some (.slice ai s.init.length ci) := by rw [hW1]; simp
 have s2 : W1.cell? ⟨w.heap.size, 2, none⟩ = some (.slice ar s.regs.length cr) := by rw [hW1]; simp
 have z0 : W1.cell? ⟨w.heap.size + 1, 0, none⟩ = some (.int .i64 0) := by rw [hW1]; simp
 have z1 : W1.cell? ⟨w.heap.size + 1, 1, none⟩ = some (.int .i64 0) := by rw [hW1]; simp
 have y0 : W1.frozen? ⟨w.heap.size + 1, 0, none⟩ = false := by rw [hW1]; simp
 have y1 : W1.frozen? ⟨w.heap.size + 1, 1, none⟩ = false := by rw [hW1]; simp
 have hzl : w.heap.size + 1 < W1.heap.size := bLt z0
 have HS : Hid (StaAt s ⟨ai, ci, ar, cr⟩ W1) := hide (hs.below hba)
 have HL : Hid (codesAt ad cs W1) := hide (hl.below hba)
 have i1 := hs.ci
 have i2 := hs.cr
 have i3 := hs.li
 have i4 := hs.lr
 dsimp only at i1 i2
 clear hs hl
 obtain ⟨n, hn⟩ : ∃ n : Nat, n = cs.length := ⟨_, rfl⟩
 by_cases c1 : s.cells < 1
 ·have HZ : Hid (s.fault cs = (2, -1)) := by
   show _ = _
   unfold Sta.fault
   exact if_neg (fun h => by obtain ⟨h1, h2, h3, h4, h5⟩ := h; omega)
  rw [HZ.out]
  clear HZ HS HL
  go_enter Tryz.func18, Tryz.ntmps18
  go_wp2_with fail
  rw [<- hW1]
  refine (rbare_any _ _).mono ?_
  rintro e w2 ⟨rfl, hb3⟩
  clear hW1
  have r0 := keep_cell hb3 z0
  have r1 := keep_cell hb3 z1
  have x0 : w2.frozen? ⟨w.heap.size + 1, 0, none⟩ = false := by rw [hb3.frozen hzl]; exact y0
  have x1 : w2.frozen? ⟨w.heap.size + 1, 1, none⟩ = false := by rw [hb3.frozen hzl]; exact y1
  have B3 := below_step hba hb3
  clear z0 z1 y0 y1 hb3 s0 s1 s2
  go_wp2_with fail
  refine bodyPost_ret (v := .agg #[.int .i64 2, .int .i64 (-1)]) (by simp only [results, Tryz.results18]; go_simp) rfl ⟨rfl, ?_⟩
  exact (B3.setCell (Nat.le_succ _) _).setCell (Nat.le_succ _) _
 by_cases c2 : 64 < s.cells
 ·have HZ : Hid (s.fault cs = (2, -1)) := by
   show _ = _
   unfold Sta.fault
   exact if_neg (fun h => by obtain ⟨h1, h2, h3, h4, h5⟩ := h; omega)
  rw [HZ.out]
  clear HZ HS HL
  go_enter Tryz.func18, Tryz.ntmps18
  go_wp2_with fail
  rw [<- hW1]
  refine (rbare_any _ _).mono ?_
  rintro e w2 ⟨rfl, hb3⟩
  clear hW1
  have r0 := keep_cell hb3 z0
  have r1 := keep_cell hb3 z1
  have x0 : w2.frozen? ⟨w.heap.size + 1, 0, none⟩ = false := by rw [hb3.frozen hzl]; exact y0
  have x1 : w2.frozen? ⟨w.heap.size + 1, 1, none⟩ = false := by rw [hb3.frozen hzl]; exact y1
  have B3 := below_step hba hb3
  clear z0 z1 y0 y1 hb3 s0 s1 s2
  go_wp2_with fail
  refine bodyPost_ret (v := .agg #[.int .i64 2, .int .i64 (-1)]) (by simp only [results, Tryz.results18]; go_simp) rfl ⟨rfl, ?_⟩
  exact (B3.setCell (Nat.le_succ _) _).setCell (Nat.le_succ _) _
 by_cases c3 : (cs.length : Int) < 1
 ·have HZ : Hid (s.fault cs = (2, -1)) := by
   show _ = _
   unfold Sta.fault
   exact if_neg (fun h => by obtain ⟨h1, h2, h3, h4, h5⟩ := h; omega)
  rw [HZ.out]
  clear HZ HS HL
  go_enter Tryz.func18, Tryz.ntmps18
  go_wp2_with fail
  rw [<- hW1]
  refine (rbare_any _ _).mono ?_
  rintro e w2 ⟨rfl, hb3⟩
  clear hW1
  have r0 := keep_cell hb3 z0
  have r1 := keep_cell hb3 z1
  have x0 : w2.frozen? ⟨w.heap.size + 1, 0, none⟩ = false := by rw [hb3.frozen hzl]; exact y0
  have x1 : w2.frozen? ⟨w.heap.size + 1, 1, none⟩ = false := by rw [hb3.frozen hzl]; exact y1
  have B3 := below_step hba hb3
  clear z0 z1 y0 y1 hb3 s0 s1 s2
  go_wp2_with fail
  refine bodyPost_ret (v := .agg #[.int .i64 2, .int .i64 (-1)]) (by simp only [results, Tryz.results18]; go_simp) rfl ⟨rfl, ?_⟩
  exact (B3.setCell (Nat.le_succ _) _).setCell (Nat.le_succ _) _
 by_cases c4 : 6 < (cs.length : Int)
 ·have HZ : Hid (s.fault cs = (2, -1)) := by
   show _ = _
   unfold Sta.fault
   exact if_neg (fun h => by obtain ⟨h1, h2, h3, h4, h5⟩ := h; omega)
  rw [HZ.out]
  clear HZ HS HL
  go_enter Tryz.func18, Tryz.ntmps18
  go_wp2_with fail
  rw [<- hW1]
  refine (rbare_any _ _).mono ?_
  rintro e w2 ⟨rfl, hb3⟩
  clear hW1
  have r0 := keep_cell hb3 z0
  have r1 := keep_cell hb3 z1
  have x0 : w2.frozen? ⟨w.heap.size + 1, 0, none⟩ = false := by rw [hb3.frozen hzl]; exact y0
  have x1 : w2.frozen? ⟨w.heap.size + 1, 1, none⟩ = false := by rw [hb3.frozen hzl]; exact y1
  have B3 := below_step hba hb3
  clear z0 z1 y0 y1 hb3 s0 s1 s2
  go_wp2_with fail
  refine bodyPost_ret (v := .agg #[.int .i64 2, .int .i64 (-1)]) (by simp only [results, Tryz.results18]; go_simp) rfl ⟨rfl, ?_⟩
  exact (B3.setCell (Nat.le_succ _) _).setCell (Nat.le_succ _) _
 by_cases c5 : s.cells < (s.init.length : Int)
 ·have HZ : Hid (s.fault cs = (2, -1)) := by
   show _ = _
   unfold Sta.fault
   exact if_neg (fun h => by obtain ⟨h1, h2, h3, h4, h5⟩ := h; (unfold Sta.fits at h5; rw [Bool.and_eq_true, Bool.and_eq_true, decide_eq_true_eq] at h5; omega))
  rw [HZ.out]
  clear HZ HS HL
  go_enter Tryz.func18, Tryz.ntmps18
  go_wp2_with fail
  rw [<- hW1]
  refine (rbare_any _ _).mono ?_
  rintro e w2 ⟨rfl, hb3⟩
  clear hW1
  have r0 := keep_cell hb3 z0
  have r1 := keep_cell hb3 z1
  have x0 : w2.frozen? ⟨w.heap.size + 1, 0, none⟩ = false := by rw [hb3.frozen hzl]; exact y0
  have x1 : w2.frozen? ⟨w.heap.size + 1, 1, none⟩ = false := by rw [hb3.frozen hzl]; exact y1
  have B3 := below_step hba hb3
  clear z0 z1 y0 y1 hb3 s0 s1 s2
  go_wp2_with fail
  refine bodyPost_ret (v := .agg #[.int .i64 2, .int .i64 (-1)]) (by simp only [results, Tryz.results18]; go_simp) rfl ⟨rfl, ?_⟩
  exact (B3.setCell (Nat.le_succ _) _).setCell (Nat.le_succ _) _
 by_cases c6 : (cs.length : Int) < (s.regs.length : Int)
 ·have HZ : Hid (s.fault cs = (2, -1)) := by
   show _ = _
   unfold Sta.fault
   exact if_neg (fun h => by obtain ⟨h1, h2, h3, h4, h5⟩ := h; (unfold Sta.fits at h5; rw [Bool.and_eq_true, Bool.and_eq_true, Bool.and_eq_true, decide_eq_true_eq, decide_eq_true_eq] at h5; omega))
  rw [HZ.out]
  clear HZ HS HL
  go_enter Tryz.func18, Tryz.ntmps18
  go_wp2_with fail
  rw [<- hW1]
  refine (rbare_any _ _).mono ?_
  rintro e w2 ⟨rfl, hb3⟩
  clear hW1
  have r0 := keep_cell hb3 z0
  have r1 := keep_cell hb3 z1
  have x0 : w2.frozen? ⟨w.heap.size + 1, 0, none⟩ = false := by rw [hb3.frozen hzl]; exact y0
  have x1 : w2.frozen? ⟨w.heap.size + 1, 1, none⟩ = false := by rw [hb3.frozen hzl]; exact y1
  have B3 := below_step hba hb3
  clear z0 z1 y0 y1 hb3 s0 s1 s2
  go_wp2_with fail
  refine bodyPost_ret (v := .agg #[.int .i64 2, .int .i64 (-1)]) (by simp only [results, Tryz.results18]; go_simp) rfl ⟨rfl, ?_⟩
  exact (B3.setCell (Nat.le_succ _) _).setCell (Nat.le_succ _) _
 have FITS : Hid (s.fits cs.length = (rowsOk 4 s.init && rowsOk 8 s.regs)) := by
  show _ = _
  unfold Sta.fits
  rw [decide_eq_true (show (s.init.length : Int) <= s.cells by omega), decide_eq_true (show s.regs.length <= cs.length by omega), Bool.true_and, Bool.true_and]
 have RNG : 1 <= s.cells /\ s.cells <= 64 /\ 1 <= cs.length /\ cs.length <= 6 := ⟨by omega, by omega, by omega, by omega⟩
 have HNO : Hid (s.fits cs.length = false -> s.fault cs = (2, -1)) := hide fun h => by
  unfold Sta.fault
  exact if_neg (fun h5 => by rw [h] at h5; exact absurd h5.2.2.2.2 (by decide))
 have HYES : Hid (s.fits cs.length = true -> s.fault cs = codesFrom 0 cs) := hide fun h => by
  unfold Sta.fault
  exact if_pos ⟨RNG.1, RNG.2.1, RNG.2.2.1, RNG.2.2.2, h⟩
 obtain ⟨F, HF⟩ : ∃ F, Hid (F = s.fault cs) := ⟨_, hide rfl⟩
 rw [<- HF.out]
 clear RNG
 go_enter Tryz.func18, Tryz.ntmps18
 go_wp2_with fail
 rw [<- hW1]
 clear hW1
 go_loopw [5, 6] (fun i _ wr => ∃ j : Nat, j <= s.init.length /\ i = .int .i64 j /\ wr = W1 /\ Hid (∀ (k : Nat) x, k < j -> s.init[k]? = some x -> rowOk 4 x = true)) (fun i _ _ => s.init.length - (intOf i).toNat)
 case atStart => exact ⟨0, Nat.zero_le _, rfl, rfl, fun k x h => absurd h (Nat.not_lt_zero _)⟩
 case round =>
  obtain ⟨j, hj, rfl, hwr, HJ⟩ := hrel
  have hwr := hwr.symm
  subst hwr
  by_cases hlt : j < s.init.length
  ·obtain ⟨row, hrow⟩ : ∃ row, s.init[j]? = some row := ⟨_, List.getElem?_eq_getElem hlt⟩
   obtain ⟨b, off, adr, capr, hb', c0, hcr, hnr⟩ := HS.out.init j row hrow
   dsimp only at hb'
   subst hb'
   have ji : (j : Int) < s.init.length := by omega
   have HRW := hide (rightWords_any (cap := capr) (most := 4) hnr (HS.out.ri j row hrow))
   cases hw : rowOk 4 row
   ·have HR : Hid (F = (2, -1)) := by
     show _ = _
     rw [HF.out]
     exact HNO.out (by rw [FITS.out, show rowsOk 4 s.init = false from all_hit hrow hw, Bool.false_and])
    rw [hw] at HRW
    clear HL HJ hrow HS hnr FITS HNO HYES
    go_wp2_with fail
    refine HRW.out.mono ?_
    rintro e w1 ⟨rfl, rfl⟩
    go_wp2_with fail
    refine (rbare_any _ _).mono ?_
    rintro e w2 ⟨rfl, hb3⟩
    have HB2 := hide hb3
    clear hb3
    have r0 := keep_cell HB2.out z0
    have r1 := keep_cell HB2.out z1
    have x0 : w2.frozen? ⟨w.heap.size + 1, 0, none⟩ = false := by rw [HB2.out.frozen hzl]; exact y0
    have x1 : w2.frozen? ⟨w.heap.size + 1, 1, none⟩ = false := by rw [HB2.out.frozen hzl]; exact y1
    have B3 := below_step hba HB2.out
    clear z0 z1 y0 y1 HB2 s0 s1 s2
    go_wp2_with fail
    refine bodyPost_ret (v := .agg #[.int .i64 2, .int .i64 (-1)]) (by simp only [results, Tryz.results18]; go_simp) rfl ⟨by rw [HR.out]; rfl, ?_⟩
    exact (B3.setCell (Nat.le_succ _) _).setCell (Nat.le_succ _) _
   ·have HR : Hid (∀ (k : Nat) x, k < j + 1 -> s.init[k]? = some x -> rowOk 4 x = true) := fun k y hk hy => by
     by_cases e : k = j
     ·subst e; rw [hrow] at hy; cases hy; exact hw
     ·exact HJ.out k y (by omega) hy
    rw [hw] at HRW
    clear HL HJ hrow HS hnr
    go_wp2_with fail
    refine HRW.out.mono ?_
    rintro e w1 ⟨rfl, rfl⟩
    go_wp2
    go_roundw
    case rel => exact ⟨j + 1, by omega, by go_num, by first | trivial | rfl, HR⟩
    case measure => simp [intOf]; omega
  ·obtain rfl : j = s.init.length := by omega
   have HA : Hid (rowsOk 4 s.init = true) := all_done (fun k x hk hx => HJ.out k x hk hx)
   clear HJ
   go_wp2_with fail
   go_loopw [7, 8] (fun i _ wr => ∃ j : Nat, j <= s.regs.length /\ i = .int .i64 j /\ wr = W1 /\ Hid (∀ (k : Nat) x, k < j -> s.regs[k]? = some x -> rowOk 8 x = true)) (fun i _ _ => s.regs.length - (intOf i).toNat)
   case atStart => exact ⟨0, Nat.zero_le _, rfl, rfl, fun k x h => absurd h (Nat.not_lt_zero _)⟩
   case round =>
    obtain ⟨j, hj, rfl, hwr, HJ⟩ := hrel
    have hwr := hwr.symm
    subst hwr
    by_cases hlt : j < s.regs.length
    ·obtain ⟨row, hrow⟩ : ∃ row, s.regs[j]? = some row := ⟨_, List.getElem?_eq_getElem hlt⟩
     obtain ⟨b, off, adr, capr, hb', c0, hcr, hnr⟩ := HS.out.regs j row hrow
     dsimp only at hb'
     subst hb'
     have ji : (j : Int) < s.regs.length := by omega
     have HRW := hide (rightWords_any (cap := capr) (most := 8) hnr (HS.out.rr j row hrow))
     cases hw : rowOk 8 row
     ·have HR : Hid (F = (2, -1)) := by
       show _ = _
       rw [HF.out]
       exact HNO.out (by rw [FITS.out, show rowsOk 8 s.regs = false from all_hit hrow hw, Bool.and_false])
      rw [hw] at HRW
      clear HL HJ hrow HS hnr FITS HNO HYES
      go_wp2_with fail
      refine HRW.out.mono ?_
      rintro e w1 ⟨rfl, rfl⟩
      go_wp2_with fail
      refine (rbare_any _ _).mono ?_
      rintro e w2 ⟨rfl, hb3⟩
      have HB2 := hide hb3
      clear hb3
      have r0 := keep_cell HB2.out z0
      have r1 := keep_cell HB2.out z1
      have x0 : w2.frozen? ⟨w.heap.size + 1, 0, none⟩ = false := by rw [HB2.out.frozen hzl]; exact y0
      have x1 : w2.frozen? ⟨w.heap.size + 1, 1, none⟩ = false := by rw [HB2.out.frozen hzl]; exact y1
      have B3 := below_step hba HB2.out
      clear z0 z1 y0 y1 HB2 s0 s1 s2
      go_wp2_with fail
      refine bodyPost_ret (v := .agg #[.int .i64 2, .int .i64 (-1)]) (by simp only [results, Tryz.results18]; go_simp) rfl ⟨by rw [HR.out]; rfl, ?_⟩
      exact (B3.setCell (Nat.le_succ _) _).setCell (Nat.le_succ _) _
     ·have HR : Hid (∀ (k : Nat) x, k < j + 1 -> s.regs[k]? = some x -> rowOk 8 x = true) := fun k y hk hy => by
       by_cases e : k = j
       ·subst e; rw [hrow] at hy; cases hy; exact hw
       ·exact HJ.out k y (by omega) hy
      rw [hw] at HRW
      clear HL HJ hrow HS hnr
      go_wp2_with fail
      refine HRW.out.mono ?_
      rintro e w1 ⟨rfl, rfl⟩
      go_wp2
      go_roundw
      case rel => exact ⟨j + 1, by omega, by go_num, by first | trivial | rfl, HR⟩
      case measure => simp [intOf]; omega
    ·obtain rfl : j = s.regs.length := by omega
     have HFC : Hid (F = codesFrom 0 cs) := by
      show _ = _
      rw [HF.out]
      exact HYES.out (by rw [FITS.out, HA.out, show rowsOk 8 s.regs = true from all_done (fun k x hk hx => HJ.out k x hk hx)]; rfl)
     clear HJ HS HNO HYES FITS HF HA
     go_wp2_with fail
     go_loopw [9] (fun i wr => ∃ j : Nat, j <= cs.length /\ i = .int .i64 j /\ Hid (Below W1.heap.size W1 wr) /\ Hid (∀ (t : Nat) L, t < j -> cs[t]? = some L -> (codeFault L).1 = 0)) (fun i _ => cs.length - (intOf i).toNat)
     case atStart => exact ⟨0, Nat.zero_le _, rfl, Below.refl _ _, fun k x h => absurd h (Nat.not_lt_zero _)⟩
     case round =>
      obtain ⟨j, hj, rfl, HB, HJ⟩ := hrel
      by_cases hlt : j < cs.length
      ·obtain ⟨L, hLj⟩ : ∃ L, cs[j]? = some L := ⟨_, List.getElem?_eq_getElem hlt⟩
       obtain ⟨b, off, adl, capl, rfl, c0, hcl, hin, -⟩ := (HL.out.below HB.out) j L hLj
       have ji : (j : Int) < cs.length := by omega
       have HCF := hide (codeFault_any adl capl L wr hin)
       cases hz : (codeFault L).1 with
       | zero =>
        have HR : Hid (∀ (t : Nat) L, t < j + 1 -> cs[t]? = some L -> (codeFault L).1 = 0) := fun k y hk hy => by
         by_cases e : k = j
         ·subst e; rw [hLj] at hy; cases hy; exact hz
         ·exact HJ.out k y (by omega) hy
        rw [hz, show ((0 : Nat) : Int) = 0 from rfl] at HCF
        generalize (codeFault L).2 = c2 at *
        clear HJ hLj hin
        go_wp2_with fail
        refine HCF.out.mono ?_
        rintro e w4 ⟨rfl, hb4⟩
        have HB4 := hide ((HB.out.trans (hb4.mono HB.out.size)).alloc (HB.out.trans (hb4.mono HB.out.size)).size (.cells #[.int .i64 0, .int .i64 c2] 31))
        clear HB hb4 HCF
        go_wp2
        go_roundw
        case rel => exact ⟨j + 1, by omega, by go_num, HB4, HR⟩
        case measure => simp [intOf]; omega
       | succ k =>
        have HR : Hid (F = ((k + 1 : Nat), (j : Int))) := by
         show _ = _
         rw [HFC.out, codesFrom_hit cs 0 j L hLj (by rw [hz]; exact Nat.succ_ne_zero k) (fun t L' ht hl => HJ.out t L' ht hl), hz, Nat.zero_add]
        rw [hz] at HCF
        have kp : 0 < (((k + 1 : Nat) : Int)) := by omega
        generalize (codeFault L).2 = c2 at *
        clear HJ hLj hin hz
        generalize hke : (((k + 1 : Nat) : Int)) = ke at *
        go_wp2_with fail
        refine HCF.out.mono ?_
        rintro e w4 ⟨rfl, hb4⟩
        have b4 := HB.out.trans (hb4.mono HB.out.size)
        have r0 := keep_cell b4 z0
        have r1 := keep_cell b4 z1
        have x0 : w4.frozen? ⟨w.heap.size + 1, 0, none⟩ = false := by rw [b4.frozen hzl]; exact y0
        have x1 : w4.frozen? ⟨w.heap.size + 1, 1, none⟩ = false := by rw [b4.frozen hzl]; exact y1
        have lz : w.heap.size + 1 < w4.heap.size := bLt r0
        have B3 := below_step hba b4
        clear z0 z1 y0 y1 s0 s1 s2 HB hb4 b4 HCF HFC
        go_wp2_with fail
        refine bodyPost_ret (v := .agg #[.int .i64 ke, .int .i64 j]) (by simp only [results, Tryz.results18]; go_simp) rfl ⟨by rw [HR.out, <- hke], ?_⟩
        first
        | exact ((B3.setCell (Nat.le_succ _) _).setCell (Nat.le_succ _) _).alloc (by simp; exact B3.size) _
        | exact ((B3.alloc B3.size _).setCell (Nat.le_succ _) _).setCell (Nat.le_succ _) _
      ·obtain rfl : j = cs.length := by omega
       have HR : Hid (F = (0, -1)) := by
        show _ = _
        rw [HFC.out]
        exact codesFrom_none cs 0 (fun t L ht => HJ.out t L (List.getElem?_eq_some_iff.1 ht).1 ht)
       clear HJ HFC
       go_wp2_with fail
       refine (fine_any _).mono ?_
       rintro e w4 ⟨rfl, hb4⟩
       have HB2 := hide (HB.out.trans (hb4.mono HB.out.size))
       clear HB hb4
       have r0 := keep_cell HB2.out z0
       have r1 := keep_cell HB2.out z1
       have x0 : w4.frozen? ⟨w.heap.size + 1, 0, none⟩ = false := by rw [HB2.out.frozen hzl]; exact y0
       have x1 : w4.frozen? ⟨w.heap.size + 1, 1, none⟩ = false := by rw [HB2.out.frozen hzl]; exact y1
       have B3 := below_step hba HB2.out
       clear z0 z1 y0 y1 HB2 s0 s1 s2
       go_wp2_with fail
       refine bodyPost_ret (v := .agg #[.int .i64 0, .int .i64 (-1)]) (by simp only [results, Tryz.results18]; go_simp) rfl ⟨by rw [HR.out]; rfl, ?_⟩
       exact (B3.setCell (Nat.le_succ _) _).setCell (Nat.le_succ _) _
end
section
open Go.RowKit Go.Extern.Stop Go.Stop Go.Extern Go.Maps Go.WideMaps Go.Sort
theorem numsOwn_kept {w w' : World} {base : Nat} {v : Value} {l : List Int} {ob : Option Nat} (h : numsOwn w base v l) (hg : w.grownBy w' ob) (hne : ∀ b, v.ownBlock = some b -> ob ≠ some b) : numsOwn w' base v l := by
 refine World.ownsRow.kept h hg ?_
 cases hr : v.ownBlock with
 | none => exact .inl rfl
 | some b => exact .inr fun e => hne b hr e.symm
theorem numsOwn_form {w : World} {base : Nat} {v : Value} {l : List Int} (h : numsOwn w base v l) (h1 : 0 < l.length) : ∃ g cap, v = .slice (some ⟨g, 0, none⟩) l.length cap /\ base <= g /\ g < w.heap.size /\ l.length <= cap := by
 obtain ⟨ad, cap, e1, hc, -⟩ := numsOwn_at h
 rcases h.2 with ⟨rfl, e⟩ | ⟨g, cap', cur, rfl, hg, r⟩
 ·rw [e] at h1; exact absurd h1 (Nat.lt_irrefl _)
 ·cases e1
  exact ⟨g, _, rfl, hg, (World.ownsRow.lt h g rfl).2, hc⟩
def Ap (sb : Nat) (iv rv u : Value) : Prop := ∀ b, u.ownBlock = some b -> b ≠ sb /\ iv.ownBlock ≠ some b /\ rv.ownBlock ≠ some b
theorem hub_ok {f : Nat} (hf : 1 <= f /\ f <= 4) (w : World) : Calls Tryz.prog 89 #[.int .i64 f] w fun e w' => ∃ v, e = .returned (.tuple #[v, .nilIface]) /\ numsOwn w' w.heap.size v [1, 0, 0, 0] /\ Below w.heap.size w w' := by
 have HK := hide (fcheck_ok hf)
 have hm4 := make4
 clear hf
 generalize (f : Int) = fi at *
 go_enter Tryz.func89, Tryz.ntmps89
 go_wp2_with (go_at_call 126; refine (HK.out _).mono ?_; rintro e wq ⟨rfl, rfl⟩)
 go_ret2
 exact ⟨_, rfl, numsOwn_new (cs := #[.int .i64 1, .int .i64 0, .int .i64 0, .int .i64 0]) (l := [1, 0, 0, 0]) rfl nL (by decide), bRf.alloc nL _⟩
def ownX (f : Nat) : Int := if f = 3 then 1 else 0
theorem own_ok {f : Nat} (hf : 1 <= f /\ f <= 4) (w : World) : Calls Tryz.prog 90 #[.int .i64 f] w fun e w' => ∃ v, e = .returned (.tuple #[v, .nilIface]) /\ numsOwn w' w.heap.size v [ownX f, 0, 0, 0] /\ Below w.heap.size w w' := by
 have HK := hide (fcheck_ok hf)
 have HJ := hide (counts_any (f : Int))
 have hm4 := make4
 clear hf
 unfold ownX
 by_cases h3 : f = 3
 ·rw [if_pos h3]
  rw [show decide ((f : Int) = 3) = true from decide_eq_true (by omega)] at HJ
  clear h3
  generalize (f : Int) = fi at *
  go_enter Tryz.func90, Tryz.ntmps90
  go_wp2_with (first
   | (go_at_call 126; refine (HK.out _).mono ?_; rintro e wq ⟨rfl, rfl⟩)
   | (go_at_call 94; refine (HJ.out _).mono ?_; rintro e wz ⟨rfl, rfl⟩))
  go_ret2
  exact ⟨_, rfl, numsOwn_new (cs := #[.int .i64 1, .int .i64 0, .int .i64 0, .int .i64 0]) (l := [1, 0, 0, 0]) rfl nL (by decide), bRf.alloc nL _⟩
 ·rw [if_neg h3]
  rw [show decide ((f : Int) = 3) = false from decide_eq_false (by omega)] at HJ
  clear h3
  generalize (f : Int) = fi at *
  go_enter Tryz.func90, Tryz.ntmps90
  go_wp2_with (first
   | (go_at_call 126; refine (HK.out _).mono ?_; rintro e wq ⟨rfl, rfl⟩)
   | (go_at_call 94; refine (HJ.out _).mono ?_; rintro e wz ⟨rfl, rfl⟩))
  go_ret2
  exact ⟨_, rfl, numsOwn_new (cs := #[.int .i64 0, .int .i64 0, .int .i64 0, .int .i64 0]) (l := [0, 0, 0, 0]) rfl nL (by decide), bRf.alloc nL _⟩
def linkX (f : Nat) : Int := if f = 4 then -1 else 1
theorem link_ok {f : Nat} (hf : 1 <= f /\ f <= 4) (w : World) : Calls Tryz.prog 127 #[.int .i64 f] w fun e w' => e = .returned (.tuple #[.int .i64 (linkX f), .nilIface]) /\ w' = w := by
 have HK := hide (fcheck_ok hf)
 have HJ := hide (joins_any (f : Int))
 clear hf
 unfold linkX
 by_cases h3 : f = 4
 ·rw [if_pos h3]
  rw [show decide ((f : Int) = 4) = true from decide_eq_true (by omega)] at HJ
  clear h3
  generalize (f : Int) = fi at *
  go_enter Tryz.func127, Tryz.ntmps127
  go_wp2_with (first
   | (go_at_call 126; refine (HK.out _).mono ?_; rintro e wq ⟨rfl, rfl⟩)
   | (go_at_call 104; refine (HJ.out _).mono ?_; rintro e wz ⟨rfl, rfl⟩))
  go_ret2
  exact ⟨rfl, rfl⟩
 ·rw [if_neg h3]
  rw [show decide ((f : Int) = 4) = false from decide_eq_false (by omega)] at HJ
  clear h3
  generalize (f : Int) = fi at *
  go_enter Tryz.func127, Tryz.ntmps127
  go_wp2_with (first
   | (go_at_call 126; refine (HK.out _).mono ?_; rintro e wq ⟨rfl, rfl⟩)
   | (go_at_call 104; refine (HJ.out _).mono ?_; rintro e wz ⟨rfl, rfl⟩))
  go_ret2
  exact ⟨rfl, rfl⟩
structure TW (base sb : Nat) (w1 : World) (K : List (Value × List Int)) (iv : Value) (vs : List Value) (I : List (List Int)) (rv : Value) (rs : List Value) (R : List (List Int)) (w : World) : Prop where
 c0 : w.cell? ⟨sb, 0, none⟩ = some (.int .i64 64)
 c1 : w.cell? ⟨sb, 1, none⟩ = some iv
 c2 : w.cell? ⟨sb, 2, none⟩ = some rv
 fz : ∀ o, w.frozen? ⟨sb, o, none⟩ = false
 oi : w.ownsRow base 54 1 iv I.length vs
 or' : w.ownsRow base 54 1 rv R.length rs
 ei : ∀ (i : Nat) row, I[i]? = some row -> ∃ u, vs[i]? = some u /\ numsOwn w base u row /\ Ap sb iv rv u
 er : ∀ (i : Nat) row, R[i]? = some row -> ∃ u, rs[i]? = some u /\ numsOwn w base u row /\ Ap sb iv rv u
 ni : iv.ownBlock ≠ some sb
 nr : rv.ownBlock ≠ some sb
 ne : ∀ b, iv.ownBlock = some b -> rv.ownBlock ≠ some b
 kp : ∀ x ∈ K, numsOwn w base x.1 x.2 /\ Ap sb iv rv x.1
 low : Below base w1 w
 bs : base <= sb
 sl : sb < w.heap.size
section
variable {base sb : Nat} {w1 : World} {K : List (Value × List Int)} {iv : Value} {vs : List Value} {I : List (List Int)} {rv : Value} {rs : List Value} {R : List (List Int)} {w w' : World}
theorem TW.bz (h : TW base sb w1 K iv vs I rv rs R w) : base <= w.heap.size := by have := h.sl; have := h.bs; omega
theorem TW.below (h : TW base sb w1 K iv vs I rv rs R w) (k : Below w.heap.size w w') : TW base sb w1 K iv vs I rv rs R w' where
 c0 := keep_cell k h.c0
 c1 := keep_cell k h.c1
 c2 := keep_cell k h.c2
 fz o := by rw [World.frozen?_of_block (k.block sb h.sl)]; exact h.fz o
 oi := ownsRow_block h.oi (fun b hb => k.block b (h.oi.lt b hb).2)
 or' := ownsRow_block h.or' (fun b hb => k.block b (h.or'.lt b hb).2)
 ei i row hr := by obtain ⟨u, h1, h2, h3⟩ := h.ei i row hr; exact ⟨u, h1, numsOwn_keep h2 k, h3⟩
 er i row hr := by obtain ⟨u, h1, h2, h3⟩ := h.er i row hr; exact ⟨u, h1, numsOwn_keep h2 k, h3⟩
 ni := h.ni
 nr := h.nr
 ne := h.ne
 kp x hx := ⟨numsOwn_keep (h.kp x hx).1 k, (h.kp x hx).2⟩
 low := h.low.trans (k.mono h.bz)
 bs := h.bs
 sl := Nat.lt_of_lt_of_le h.sl k.size
theorem TW.out (h : TW base sb w1 K iv vs I rv rs R w) {r : Nat} (hr : r < base) (o : Nat) (x : Value) {w2 : World} (hk : w2 = w.setCell ⟨r, o, none⟩ x) : TW base sb w2 K iv vs I rv rs R w2 := by
 have hb : ∀ b, base <= b -> w2.heap[b]? = w.heap[b]? := fun b hb => by rw [hk]; exact Below.heap_setCell _ _ _ _ (fun e => by dsimp only at e; omega)
 have C : ∀ o, w2.cell? ⟨sb, o, none⟩ = w.cell? ⟨sb, o, none⟩ := fun o => World.cell?_of_block (hb sb h.bs)
 refine ⟨(C 0).trans h.c0, (C 1).trans h.c1, (C 2).trans h.c2, fun o => (World.frozen?_of_block (hb sb h.bs)).trans (h.fz o), ownsRow_block h.oi (fun b e => hb b (h.oi.lt b e).1), ownsRow_block h.or' (fun b e => hb b (h.or'.lt b e).1), fun i row hr => ?_, fun i row hr => ?_, h.ni, h.nr, h.ne, fun x hx => ⟨ownsRow_block (h.kp x hx).1 (fun b e => hb b (World.ownsRow.lt (h.kp x hx).1 b e).1), (h.kp x hx).2⟩, Below.refl _ _, h.bs, ?_⟩
 ·obtain ⟨u, h1, h2, h3⟩ := h.ei i row hr
  exact ⟨u, h1, ownsRow_block h2 (fun b e => hb b (World.ownsRow.lt h2 b e).1), h3⟩
 ·obtain ⟨u, h1, h2, h3⟩ := h.er i row hr
  exact ⟨u, h1, ownsRow_block h2 (fun b e => hb b (World.ownsRow.lt h2 b e).1), h3⟩
 ·rw [hk]; simp [World.setCell]; exact h.sl
theorem TW.addI (h : TW base sb w1 K iv vs I rv rs R w) {us : List Value} {rws : List (List Int)} (hu : ∀ (k : Nat) row, rws[k]? = some row -> ∃ u, us[k]? = some u /\ numsOwn w base u row /\ Ap sb iv rv u) {iv' : Value} {N : Nat} (hN : w.heap.size <= N) (ho : w'.ownsRow base 54 1 iv' (I.length + rws.length) (vs ++ us)) (hg : w.grownBy w' iv.ownBlock) (hloc : iv'.ownBlock = iv.ownBlock ∨ iv'.ownBlock = some N) :
  TW base sb w1 K iv' (vs ++ us) (I ++ rws) rv rs R (w'.setCell ⟨sb, 1, none⟩ iv') := by
 have hs := h.sl
 have hbz := h.bz
 have hB : Below base w w' := (Below.refl base w).grown hg hbz (fun k hk => (h.oi.lt k hk).1)
 have hsb : w'.heap[sb]? = w.heap[sb]? := hg.block sb hs (fun e => h.ni e.symm)
 have nb : ∀ b, b < w.heap.size -> iv.ownBlock ≠ some b -> iv'.ownBlock ≠ some b := fun b hb hne e => by
  rcases hloc with h1 | h1
  ·rw [h1] at e; exact hne e
  ·rw [h1] at e
   have := Option.some.inj e
   omega
 have C : ∀ o, w'.cell? ⟨sb, o, none⟩ = w.cell? ⟨sb, o, none⟩ := fun o => World.cell?_of_block hsb
 have F : ∀ o, w'.frozen? ⟨sb, o, none⟩ = w.frozen? ⟨sb, o, none⟩ := fun o => World.frozen?_of_block hsb
 have blk : ∀ b, b ≠ sb -> (w'.setCell ⟨sb, 1, none⟩ iv').heap[b]? = w'.heap[b]? := fun b hb => Below.heap_setCell _ _ _ _ hb
 have kn : ∀ {u : Value} {row : List Int}, numsOwn w base u row -> Ap sb iv rv u -> numsOwn (w'.setCell ⟨sb, 1, none⟩ iv') base u row /\ Ap sb iv' rv u := fun {u row} h1 h2 =>
  ⟨ownsRow_block (numsOwn_kept h1 hg (fun b e => (h2 b e).2.1)) (fun b e => blk b (h2 b e).1), fun b e => ⟨(h2 b e).1, nb b (World.ownsRow.lt h1 b e).2 (h2 b e).2.1, (h2 b e).2.2⟩⟩
 have lv : vs.length = I.length := by have := h.oi.1; omega
 refine ⟨cell_ne ((C 0).trans h.c0) (.inr (by decide)), World.cell?_setCell_same _ _ _ ((C 1).trans h.c1), cell_ne ((C 2).trans h.c2) (.inr (by decide)), fun o => by rw [World.frozen?_setCell, F]; exact h.fz o, ownsRow_block (w := w') (by rw [List.length_append]; exact ho) (fun b e => blk b (fun e2 => by rw [e2] at e; exact nb sb hs h.ni e)), ownsRow_block (World.ownsRow.kept h.or' hg (by
  cases hr : rv.ownBlock with
  | none => exact .inl rfl
  | some b => exact .inr fun e => h.ne b e.symm hr)) (fun b e => blk b (fun e2 => by rw [e2] at e; exact h.nr e)), fun i row hr => by
  by_cases hi : i < I.length
  ·rw [List.getElem?_append_left hi] at hr
   obtain ⟨u, h1, h2, h3⟩ := h.ei i row hr
   exact ⟨u, by rw [List.getElem?_append_left (by omega)]; exact h1, (kn h2 h3).1, (kn h2 h3).2⟩
  ·rw [List.getElem?_append_right (by omega)] at hr
   obtain ⟨u, h1, h2, h3⟩ := hu _ row hr
   exact ⟨u, by rw [List.getElem?_append_right (by omega), lv]; exact h1, (kn h2 h3).1, (kn h2 h3).2⟩, fun i row hr => by
  obtain ⟨u, h1, h2, h3⟩ := h.er i row hr
  exact ⟨u, h1, (kn h2 h3).1, (kn h2 h3).2⟩, nb sb hs h.ni, h.nr, fun b e e2 => nb b (h.or'.lt b e2).2 (fun e3 => h.ne b e3 e2) e, fun x hx => kn (h.kp x hx).1 (h.kp x hx).2, h.low.trans (hB.setCell h.bs _), h.bs, ?_⟩
 have := hB.size
 have e : (w'.setCell ⟨sb, 1, none⟩ iv').heap.size = w'.heap.size := by simp [World.setCell]
 rw [e]
 have := hg.size
 omega
theorem TW.addR (h : TW base sb w1 K iv vs I rv rs R w) {us : List Value} {rws : List (List Int)} (hu : ∀ (k : Nat) row, rws[k]? = some row -> ∃ u, us[k]? = some u /\ numsOwn w base u row /\ Ap sb iv rv u) {rv' : Value} {N : Nat} (hN : w.heap.size <= N) (ho : w'.ownsRow base 54 1 rv' (R.length + rws.length) (rs ++ us)) (hg : w.grownBy w' rv.ownBlock) (hloc : rv'.ownBlock = rv.ownBlock ∨ rv'.ownBlock = some N) :
  TW base sb w1 K iv vs I rv' (rs ++ us) (R ++ rws) (w'.setCell ⟨sb, 2, none⟩ rv') := by
 have hs := h.sl
 have hbz := h.bz
 have hB : Below base w w' := (Below.refl base w).grown hg hbz (fun k hk => (h.or'.lt k hk).1)
 have hsb : w'.heap[sb]? = w.heap[sb]? := hg.block sb hs (fun e => h.nr e.symm)
 have nb : ∀ b, b < w.heap.size -> rv.ownBlock ≠ some b -> rv'.ownBlock ≠ some b := fun b hb hne e => by
  rcases hloc with h1 | h1
  ·rw [h1] at e; exact hne e
  ·rw [h1] at e
   have := Option.some.inj e
   omega
 have C : ∀ o, w'.cell? ⟨sb, o, none⟩ = w.cell? ⟨sb, o, none⟩ := fun o => World.cell?_of_block hsb
 have F : ∀ o, w'.frozen? ⟨sb, o, none⟩ = w.frozen? ⟨sb, o, none⟩ := fun o => World.frozen?_of_block hsb
 have blk : ∀ b, b ≠ sb -> (w'.setCell ⟨sb, 2, none⟩ rv').heap[b]? = w'.heap[b]? := fun b hb => Below.heap_setCell _ _ _ _ hb
 have kn : ∀ {u : Value} {row : List Int}, numsOwn w base u row -> Ap sb iv rv u -> numsOwn (w'.setCell ⟨sb, 2, none⟩ rv') base u row /\ Ap sb iv rv' u := fun {u row} h1 h2 =>
  ⟨ownsRow_block (numsOwn_kept h1 hg (fun b e => (h2 b e).2.2)) (fun b e => blk b (h2 b e).1), fun b e => ⟨(h2 b e).1, (h2 b e).2.1, nb b (World.ownsRow.lt h1 b e).2 (h2 b e).2.2⟩⟩
 have lv : rs.length = R.length := by have := h.or'.1; omega
 refine ⟨cell_ne ((C 0).trans h.c0) (.inr (by decide)), cell_ne ((C 1).trans h.c1) (.inr (by decide)), World.cell?_setCell_same _ _ _ ((C 2).trans h.c2), fun o => by rw [World.frozen?_setCell, F]; exact h.fz o, ownsRow_block (World.ownsRow.kept h.oi hg (by
  cases hr : iv.ownBlock with
  | none => exact .inl rfl
  | some b => exact .inr fun e => h.ne b hr e.symm)) (fun b e => blk b (fun e2 => by rw [e2] at e; exact h.ni e)), ownsRow_block (w := w') (by rw [List.length_append]; exact ho) (fun b e => blk b (fun e2 => by rw [e2] at e; exact nb sb hs h.nr e)), fun i row hr => by
  obtain ⟨u, h1, h2, h3⟩ := h.ei i row hr
  exact ⟨u, h1, (kn h2 h3).1, (kn h2 h3).2⟩, fun i row hr => by
  by_cases hi : i < R.length
  ·rw [List.getElem?_append_left hi] at hr
   obtain ⟨u, h1, h2, h3⟩ := h.er i row hr
   exact ⟨u, by rw [List.getElem?_append_left (by omega)]; exact h1, (kn h2 h3).1, (kn h2 h3).2⟩
  ·rw [List.getElem?_append_right (by omega)] at hr
   obtain ⟨u, h1, h2, h3⟩ := hu _ row hr
   exact ⟨u, by rw [List.getElem?_append_right (by omega), lv]; exact h1, (kn h2 h3).1, (kn h2 h3).2⟩, h.ni, nb sb hs h.nr, fun b e e2 => nb b (h.oi.lt b e).2 (h.ne b e) e2, fun x hx => kn (h.kp x hx).1 (h.kp x hx).2, h.low.trans (hB.setCell h.bs _), h.bs, ?_⟩
 have := hB.size
 have e : (w'.setCell ⟨sb, 2, none⟩ rv').heap.size = w'.heap.size := by simp [World.setCell]
 rw [e]
 have := hg.size
 omega
theorem TW.box (h : TW base sb w1 K iv vs I rv rs R w) {ob : Option Nat} (hg : w.grownBy w' ob) (ho : ob ≠ some sb) : (∀ o, w'.cell? ⟨sb, o, none⟩ = w.cell? ⟨sb, o, none⟩) /\ ∀ o, w'.frozen? ⟨sb, o, none⟩ = false := by
 have hsb : w'.heap[sb]? = w.heap[sb]? := hg.block sb h.sl (fun e => ho e.symm)
 exact ⟨fun o => World.cell?_of_block hsb, fun o => by rw [World.frozen?_of_block hsb]; exact h.fz o⟩
theorem TW.sta {c : Int} (h : TW base sb w1 K iv vs I rv rs R w) (hc : c = 64) (hI : I.length <= 100) (hR : R.length <= 100) (lI : ∀ row ∈ I, row.length <= 100) (lR : ∀ row ∈ R, row.length <= 100) : ∃ ai ci ar cr, iv = .slice ai I.length ci /\ rv = .slice ar R.length cr /\ StaAt ⟨c, I, R⟩ ⟨ai, ci, ar, cr⟩ w := by
 subst hc
 obtain ⟨ai, ci, e1, h1, h2, h3⟩ := ownsRow_shape h.oi
 obtain ⟨ar, cr, e2, g1, g2, g3⟩ := ownsRow_shape h.or'
 refine ⟨ai, ci, ar, cr, e1, e2, fun i row hr => ?_, fun i row hr => ?_, h1, g1, by show I.length <= _; omega, by show R.length <= _; omega, fun i row hr => ?_, fun i row hr => ?_⟩
 ·obtain ⟨u, k1, k2, -⟩ := h.ei i row hr
  obtain ⟨g, eg, cg⟩ := h3 i u k1
  obtain ⟨adr, capr, eu, k3, k4⟩ := numsOwn_at k2
  exact ⟨g, 0, adr, capr, eg, by rw [Nat.zero_add, cg, eu], k3, k4⟩
 ·obtain ⟨u, k1, k2, -⟩ := h.er i row hr
  obtain ⟨g, eg, cg⟩ := g3 i u k1
  obtain ⟨adr, capr, eu, k3, k4⟩ := numsOwn_at k2
  exact ⟨g, 0, adr, capr, eg, by rw [Nat.zero_add, cg, eu], k3, k4⟩
 ·have := lI row (List.mem_of_getElem? hr); omega
 ·have := lR row (List.mem_of_getElem? hr); omega
end
structure WD (vs rs : List Value) : Prop where
 vi : ∀ (i j : Nat) u v b, vs[i]? = some u -> vs[j]? = some v -> u.ownBlock = some b -> v.ownBlock = some b -> i = j
 ri : ∀ (i j : Nat) u v b, rs[i]? = some u -> rs[j]? = some v -> u.ownBlock = some b -> v.ownBlock = some b -> i = j
 vr : ∀ (i j : Nat) u v b, vs[i]? = some u -> rs[j]? = some v -> u.ownBlock = some b -> v.ownBlock ≠ some b
theorem snoc_get {l : List Value} {u x : Value} {i : Nat} (h : (l ++ [u])[i]? = some x) : (i < l.length /\ l[i]? = some x) ∨ (i = l.length /\ x = u) := by
 by_cases hi : i < l.length
 ·rw [List.getElem?_append_left hi] at h
  exact .inl ⟨hi, h⟩
 ·rw [List.getElem?_append_right (by omega)] at h
  match hk : i - l.length, h with
  | 0, h => exact .inr ⟨by omega, by simpa using h.symm⟩
theorem WD.addI {vs rs : List Value} (h : WD vs rs) {u : Value} {b0 : Nat} (hu : u.ownBlock = some b0) (hv : ∀ v ∈ vs, v.ownBlock ≠ some b0) (hr : ∀ v ∈ rs, v.ownBlock ≠ some b0) : WD (vs ++ [u]) rs where
 vi i j x y b hx hy ex ey := by
  rcases snoc_get hx with ⟨i1, h1⟩ | ⟨i1, rfl⟩ <;> rcases snoc_get hy with ⟨j1, h2⟩ | ⟨j1, rfl⟩
  ·exact h.vi i j x y b h1 h2 ex ey
  ·rw [hu] at ey; cases ey; exact absurd ex (hv x (List.mem_of_getElem? h1))
  ·rw [hu] at ex; cases ex; exact absurd ey (hv y (List.mem_of_getElem? h2))
  ·omega
 ri := h.ri
 vr i j x y b hx hy ex ey := by
  rcases snoc_get hx with ⟨i1, h1⟩ | ⟨i1, rfl⟩
  ·exact h.vr i j x y b h1 hy ex ey
  ·rw [hu] at ex; cases ex; exact hr y (List.mem_of_getElem? hy) ey
theorem WD.addR {vs rs : List Value} (h : WD vs rs) {u : Value} {b0 : Nat} (hu : u.ownBlock = some b0) (hv : ∀ v ∈ vs, v.ownBlock ≠ some b0) (hr : ∀ v ∈ rs, v.ownBlock ≠ some b0) : WD vs (rs ++ [u]) where
 vi := h.vi
 ri i j x y b hx hy ex ey := by
  rcases snoc_get hx with ⟨i1, h1⟩ | ⟨i1, rfl⟩ <;> rcases snoc_get hy with ⟨j1, h2⟩ | ⟨j1, rfl⟩
  ·exact h.ri i j x y b h1 h2 ex ey
  ·rw [hu] at ey; cases ey; exact absurd ex (hr x (List.mem_of_getElem? h1))
  ·rw [hu] at ex; cases ex; exact absurd ey (hr y (List.mem_of_getElem? h2))
  ·omega
 vr i j x y b hx hy ex ey := by
  rcases snoc_get hy with ⟨j1, h2⟩ | ⟨j1, rfl⟩
  ·exact h.vr i j x y b hx h2 ex ey
  ·rw [hu] at ey; cases ey; exact hv x (List.mem_of_getElem? hx) ex
section
variable {base sb : Nat} {w1 : World} {K : List (Value × List Int)} {iv : Value} {vs : List Value} {I : List (List Int)} {rv : Value} {rs : List Value} {R : List (List Int)} {w w' : World}
theorem TW.lv (h : TW base sb w1 K iv vs I rv rs R w) : vs.length = I.length := by have := h.oi.1; omega
theorem TW.lr (h : TW base sb w1 K iv vs I rv rs R w) : rs.length = R.length := by have := h.or'.1; omega
theorem TW.old (h : TW base sb w1 K iv vs I rv rs R w) {b0 : Nat} (hb : w.heap.size <= b0) : (∀ v ∈ vs, v.ownBlock ≠ some b0) /\ ∀ v ∈ rs, v.ownBlock ≠ some b0 := by
 refine ⟨fun v hv e => ?_, fun v hv e => ?_⟩
 ·obtain ⟨i, hi, rfl⟩ := List.getElem_of_mem hv
  obtain ⟨row, hr⟩ : ∃ row, I[i]? = some row := ⟨_, List.getElem?_eq_getElem (by rw [<- h.lv]; exact hi)⟩
  obtain ⟨u, h1, h2, -⟩ := h.ei i row hr
  rw [List.getElem?_eq_getElem hi] at h1
  obtain rfl := Option.some.inj h1
  have := (World.ownsRow.lt h2 b0 e).2
  omega
 ·obtain ⟨i, hi, rfl⟩ := List.getElem_of_mem hv
  obtain ⟨row, hr⟩ : ∃ row, R[i]? = some row := ⟨_, List.getElem?_eq_getElem (by rw [<- h.lr]; exact hi)⟩
  obtain ⟨u, h1, h2, -⟩ := h.er i row hr
  rw [List.getElem?_eq_getElem hi] at h1
  obtain rfl := Option.some.inj h1
  have := (World.ownsRow.lt h2 b0 e).2
  omega
theorem get_set {l : List (List Int)} {i k : Nat} {x row : List Int} (h : (l.set i x)[k]? = some row) : (k = i /\ row = x) ∨ (k ≠ i /\ l[k]? = some row) := by
 by_cases e : k = i
 ·subst e
  rw [List.getElem?_set] at h
  simp only [if_true] at h
  split at h
  ·exact .inl ⟨rfl, (Option.some.inj h).symm⟩
  ·cases h
 ·rw [List.getElem?_set_ne (Ne.symm e)] at h
  exact .inr ⟨e, h⟩
theorem TW.setI (h : TW base sb w1 [] iv vs I rv rs R w) (hd : WD vs rs) {i : Nat} {row : List Int} (hi : I[i]? = some row) {g cap n : Nat} (hu : vs[i]? = some (.slice (some ⟨g, 0, none⟩) n cap)) (j : Nat) (x : Int) : TW base sb w1 [] iv vs (I.set i (row.set j x)) rv rs R (w.setCell ⟨g, j, none⟩ (.int .i64 x)) := by
 obtain ⟨u, u1, u2, u3⟩ := h.ei i row hi
 rw [hu] at u1
 obtain rfl := Option.some.inj u1
 obtain ⟨ns, ni, nr⟩ := u3 g rfl
 have hgb : base <= g := (World.ownsRow.lt u2 g rfl).1
 have blk : ∀ b, b ≠ g -> (w.setCell ⟨g, j, none⟩ (.int .i64 x)).heap[b]? = w.heap[b]? := fun b hb => Below.heap_setCell _ _ _ _ hb
 have hz : (w.setCell ⟨g, j, none⟩ (.int .i64 x)).heap.size = w.heap.size := by simp [World.setCell]
 exact {
  c0 := cell_ne h.c0 (.inl (Ne.symm ns))
  c1 := cell_ne h.c1 (.inl (Ne.symm ns))
  c2 := cell_ne h.c2 (.inl (Ne.symm ns))
  fz := fun o => by rw [World.frozen?_setCell]; exact h.fz o
  oi := by
   rw [List.length_set]
   exact ownsRow_block h.oi fun b e => blk b (fun e2 => ni (by rw [<- e2]; exact e))
  or' := ownsRow_block h.or' fun b e => blk b (fun e2 => nr (by rw [<- e2]; exact e))
  ei := fun k r hr => by
   rcases get_set hr with ⟨rfl, rfl⟩ | ⟨e, hr⟩
   ·exact ⟨_, hu, numsOwn_set u2 j x, u3⟩
   ·obtain ⟨v, v1, v2, v3⟩ := h.ei k r hr
    exact ⟨v, v1, ownsRow_block v2 fun b e2 => blk b (fun e3 => by subst e3; exact e (hd.vi k i v _ b v1 hu e2 rfl)), v3⟩
  er := fun k r hr => by
   obtain ⟨v, v1, v2, v3⟩ := h.er k r hr
   exact ⟨v, v1, ownsRow_block v2 fun b e2 => blk b (fun e3 => by subst e3; exact hd.vr i k _ v b hu v1 rfl e2), v3⟩
  ni := h.ni
  nr := h.nr
  ne := h.ne
  kp := fun _ hx => absurd hx List.not_mem_nil
  low := h.low.setCell hgb _
  bs := h.bs
  sl := by rw [hz]; exact h.sl }
theorem TW.setR (h : TW base sb w1 [] iv vs I rv rs R w) (hd : WD vs rs) {i : Nat} {row : List Int} (hi : R[i]? = some row) {g cap n : Nat} (hu : rs[i]? = some (.slice (some ⟨g, 0, none⟩) n cap)) (j : Nat) (x : Int) : TW base sb w1 [] iv vs I rv rs (R.set i (row.set j x)) (w.setCell ⟨g, j, none⟩ (.int .i64 x)) := by
 obtain ⟨u, u1, u2, u3⟩ := h.er i row hi
 rw [hu] at u1
 obtain rfl := Option.some.inj u1
 obtain ⟨ns, ni, nr⟩ := u3 g rfl
 have hgb : base <= g := (World.ownsRow.lt u2 g rfl).1
 have blk : ∀ b, b ≠ g -> (w.setCell ⟨g, j, none⟩ (.int .i64 x)).heap[b]? = w.heap[b]? := fun b hb => Below.heap_setCell _ _ _ _ hb
 have hz : (w.setCell ⟨g, j, none⟩ (.int .i64 x)).heap.size = w.heap.size := by simp [World.setCell]
 exact {
  c0 := cell_ne h.c0 (.inl (Ne.symm ns))
  c1 := cell_ne h.c1 (.inl (Ne.symm ns))
  c2 := cell_ne h.c2 (.inl (Ne.symm ns))
  fz := fun o => by rw [World.frozen?_setCell]; exact h.fz o
  oi := ownsRow_block h.oi fun b e => blk b (fun e2 => ni (by rw [<- e2]; exact e))
  or' := by
   rw [List.length_set]
   exact ownsRow_block h.or' fun b e => blk b (fun e2 => nr (by rw [<- e2]; exact e))
  ei := fun k r hr => by
   obtain ⟨v, v1, v2, v3⟩ := h.ei k r hr
   exact ⟨v, v1, ownsRow_block v2 fun b e2 => blk b (fun e3 => by subst e3; exact hd.vr k i v _ b v1 hu e2 rfl), v3⟩
  er := fun k r hr => by
   rcases get_set hr with ⟨rfl, rfl⟩ | ⟨e, hr⟩
   ·exact ⟨_, hu, numsOwn_set u2 j x, u3⟩
   ·obtain ⟨v, v1, v2, v3⟩ := h.er k r hr
    exact ⟨v, v1, ownsRow_block v2 fun b e2 => blk b (fun e3 => by subst e3; exact e (hd.ri k i v _ b v1 hu e2 rfl)), v3⟩
  ni := h.ni
  nr := h.nr
  ne := h.ne
  kp := fun _ hx => absurd hx List.not_mem_nil
  low := h.low.setCell hgb _
  bs := h.bs
  sl := by rw [hz]; exact h.sl }
end
def layTo (l : List Int) (o : Nat) : List Int -> List Int
 | [] => l
 | x :: xs => layTo (l.set o x) (o + 1) xs
theorem numsOwn_lay {base g cap n : Nat} : ∀ (xs : List Int) (o : Nat) {w : World} {l : List Int}, numsOwn w base (.slice (some ⟨g, 0, none⟩) n cap) l -> numsOwn (w.setCells g o (xs.map (Value.int .i64))) base (.slice (some ⟨g, 0, none⟩) n cap) (layTo l o xs)
 | [], _, _, _, h => h
 | x :: xs, o, _, _, h => numsOwn_lay xs (o + 1) (numsOwn_set h o x)
theorem below_lay {g : Nat} {w0 : World} (hg : w0.heap.size <= g) : ∀ (xs : List Value) (o : Nat) {w : World}, Below w0.heap.size w0 w -> Below w0.heap.size w0 (w.setCells g o xs)
 | [], _, _, h => h
 | x :: xs, o, _, h => below_lay hg xs (o + 1) (h.setCell hg x)
def pad4 (l : List Int) : List Int := layTo [0, 0, 0, 0] 0 l
end
end Go.Proofs.YtaiigfcfmcicjaaGreatDoor
