import Derived.Test.YtaiigfcfmcicjaaGreatDoorB31
import Derived.Test.YtaiigfcfmcicjaaGreatDoorB13
import Derived.Test.YtaiigfcfmcicjaaGreatDoorB23
import Derived.Test.YtaiigfcfmcicjaaGreatDoorB30
import Derived.Test.YtaiigfcfmcicjaaGreatDoorB29
import Derived.Laws.IdiomStrings

/- CodeD -/
namespace Go.Proofs.YtaiigfcfmcicjaaGreatDoor
open Go.RowKit Go.Extern.Stop Go.Stop Go.Extern
set_option maxRecDepth 20000 in
theorem labelAt_any (ad : Option Addr) (cap : Nat) (l : List Ins) (to : ByteArray) (w : World) (hlen : l.length ≤ 1000000) (hl : insAt ad l w) :
    Calls Tryz.prog 69 #[.slice ad l.length cap, .string to] w fun e w' => e = .returned (.int .i64 (labelAt l to)) ∧ w' = w := by
  have HL := hide hl
  clear hl
  go_enter Tryz.func69, Tryz.ntmps69
  go_wp2_with fail
  go_loopw [5] (fun i wr => wr = w ∧ ∃ j : Nat, j ≤ l.length ∧ i = .int .i64 j ∧ Hid (∀ k y, k < j → l[k]? = some y → setsLabel y to = false)) (fun i _ => l.length - (intOf i).toNat)
  case atStart => exact ⟨rfl, 0, Nat.zero_le _, rfl, fun k y h => absurd h (Nat.not_lt_zero _)⟩
  case round =>
    obtain ⟨rfl, j, hj, rfl, HJ⟩ := hrel
    by_cases hlt : j < l.length
    · obtain ⟨x, hx⟩ : ∃ x, l[j]? = some x := ⟨_, List.getElem?_eq_getElem hlt⟩
      obtain ⟨b, off, rfl, a0, -, -, -, a4⟩ := HL.out j x hx
      have ji : (j : Int) < l.length := by omega
      have HY : Hid (setsLabel x to = false → ∀ k y, k < j + 1 → l[k]? = some y → setsLabel y to = false) := fun h k y hk hy => by
        by_cases e : k = j
        · subst e; rw [hx] at hy; cases hy; exact h
        · exact HJ.out k y (by omega) hy
      have HX : Hid (setsLabel x to = true → labelAt l to = j) := fun h => labelAt_some hx h HJ.out
      clear HJ hx
      cases k1 : (x.op.toList == [108, 97, 98, 101, 108])
      · have HZ := hide (HY.out (by unfold setsLabel; rw [k1]; rfl))
        clear HX HY
        go_wp2
        go_roundw
        case rel => exact ⟨trivial, j + 1, by omega, by go_num, HZ⟩
        case measure => simp [intOf]; omega
      · cases k2 : (x.to.toList == to.toList)
        · have HZ := hide (HY.out (by unfold setsLabel; rw [k1, k2]; rfl))
          clear HX HY
          go_wp2
          go_roundw
          case rel => exact ⟨trivial, j + 1, by omega, by go_num, HZ⟩
          case measure => simp [intOf]; omega
        · have HZ := hide (HX.out (by unfold setsLabel; rw [k1, k2]; rfl))
          clear HX HY
          go_wp2
          go_ret
          exact ⟨by rw [HZ.out]; rfl, rfl⟩
    · have HZ : Hid (labelAt l to = -1) := labelAt_none (fun k y hy => HJ.out k y (by have := (List.getElem?_eq_some_iff.1 hy).1; omega) hy)
      obtain rfl : j = l.length := by omega
      clear HJ
      go_wp2
      go_ret
      exact ⟨by rw [HZ.out]; rfl, rfl⟩

end Go.Proofs.YtaiigfcfmcicjaaGreatDoor

/- CodeE -/
namespace Go.Proofs.YtaiigfcfmcicjaaGreatDoor
open Go.RowKit Go.Extern.Stop Go.Stop Go.Extern
theorem rbare_any (k : Int) (w : World) : Calls Tryz.prog 17 #[.int .i64 k] w fun e w' => e = .returned (.agg #[.int .i64 k, .int .i64 (-1)]) ∧ Below w.heap.size w w' := by
  go_enter Tryz.func17, Tryz.ntmps17
  go_wp2
  refine bodyPost_ret (v := .agg #[.int .i64 k, .int .i64 (-1)]) (by simp only [results, Tryz.results17]; go_simp) rfl ⟨rfl, ?_⟩
  exact (Below.refl _ _).alloc (Nat.le_refl _) _
theorem fine_any (w : World) : Calls Tryz.prog 35 #[] w fun e w' => e = .returned (.agg #[.int .i64 0, .int .i64 (-1)]) ∧ Below w.heap.size w w' := by
  go_enter Tryz.func35, Tryz.ntmps35
  go_wp2
  refine bodyPost_ret (v := .agg #[.int .i64 0, .int .i64 (-1)]) (by simp only [results, Tryz.results35]; go_simp) rfl ⟨rfl, ?_⟩
  exact (Below.refl _ _).alloc (Nat.le_refl _) _

set_option maxRecDepth 20000 in
set_option maxHeartbeats 2000000 in
theorem codeFault_any (ad : Option Addr) (cap : Nat) (l : List Ins) (w : World) (hl : insAt ad l w) :
    Calls Tryz.prog 42 #[.slice ad l.length cap] w fun e w' => e = .returned (.agg #[.int .i64 (codeFault l).1, .int .i64 (codeFault l).2]) ∧ Below w.heap.size w w' := by
  have HL := hide hl
  clear hl
  have hba : Below w.heap.size w (w.alloc (.cells #[.int .i64 0, .int .i64 0] 31)) := (Below.refl _ _).alloc (Nat.le_refl _) _
  have z0 : (w.alloc (.cells #[.int .i64 0, .int .i64 0] 31)).cell? ⟨w.heap.size, 0, none⟩ = some (.int .i64 0) := by simp
  have z1 : (w.alloc (.cells #[.int .i64 0, .int .i64 0] 31)).cell? ⟨w.heap.size, 1, none⟩ = some (.int .i64 0) := by simp
  have y0 : (w.alloc (.cells #[.int .i64 0, .int .i64 0] 31)).frozen? ⟨w.heap.size, 0, none⟩ = false := by simp
  have y1 : (w.alloc (.cells #[.int .i64 0, .int .i64 0] 31)).frozen? ⟨w.heap.size, 1, none⟩ = false := by simp
  generalize hw : w.alloc (.cells #[.int .i64 0, .int .i64 0] 31) = w1 at *
  by_cases hlen : 2000 < l.length
  · have hc : codeFault l = (2, -1) := if_pos hlen
    have hi : 2000 < (l.length : Int) := by omega
    rw [hc]
    clear hc
    go_enter Tryz.func42, Tryz.ntmps42
    go_wp2_with fail
    refine (rbare_any _ _).mono ?_
    rintro e w2 ⟨rfl, hb3⟩
    clear hw
    have r0 := keep_cell hb3 z0
    have r1 := keep_cell hb3 z1
    have hzl : w.heap.size < w1.heap.size := World.block_lt_of_cell? _ _ z0
    have x0 : w2.frozen? ⟨w.heap.size, 0, none⟩ = false := by rw [hb3.frozen hzl]; exact y0
    have x1 : w2.frozen? ⟨w.heap.size, 1, none⟩ = false := by rw [hb3.frozen hzl]; exact y1
    have B3 := below_step hba hb3
    clear z0 z1 y0 y1 hb3
    go_wp2_with fail
    refine bodyPost_ret (v := .agg #[.int .i64 2, .int .i64 (-1)]) (by simp only [results, Tryz.results42]; go_simp) rfl ⟨rfl, ?_⟩
    exact (B3.setCell (Nat.le_refl _) _).setCell (Nat.le_refl _) _
  · have hc : codeFault l = faultFrom l 0 l := if_neg hlen
    have hi : ¬ 2000 < (l.length : Int) := by omega
    rw [hc]
    clear hc
    go_enter Tryz.func42, Tryz.ntmps42
    go_wp2_with fail
    clear hw
    go_loopw [3] (fun i wr => Hid (Below w1.heap.size w1 wr) ∧ ∃ j : Nat, j ≤ l.length ∧ i = .int .i64 j ∧ Hid (∀ k y, k < j → l[k]? = some y → insFault l k y = 0)) (fun i _ => l.length - (intOf i).toNat)
    case atStart => exact ⟨Below.refl _ _, 0, Nat.zero_le _, rfl, fun k y h => absurd h (Nat.not_lt_zero _)⟩
    case round =>
      obtain ⟨HB, j, hj, rfl, HJ⟩ := hrel
      by_cases hlt : j < l.length
      · obtain ⟨x, hx⟩ : ∃ x, l[j]? = some x := ⟨_, List.getElem?_eq_getElem hlt⟩
        have HR := hide (insAt_below (insAt_below HL.out hba) HB.out)
        obtain ⟨b, off, rfl, a0, a1, a2, a3, a4⟩ := HR.out j x hx
        have ji : (j : Int) < l.length := by omega
        have HY : Hid (insFault l j x = 0 → ∀ k y, k < j + 1 → l[k]? = some y → insFault l k y = 0) := fun h k y hk hy => by
          by_cases e : k = j
          · subst e; rw [hx] at hy; cases hy; exact h
          · exact HJ.out k y (by omega) hy
        have HX : Hid (insFault l j x ≠ 0 → faultFrom l 0 l = (insFault l j x, (j : Int))) := fun h => by
          have := faultFrom_hit l l 0 j x hx (by simpa using h) (fun k y hk hy => by simpa using HJ.out k y hk hy)
          simpa using this
        clear HJ hx
        go_wp2_with fail
        refine (instr_any x _).mono ?_
        rintro e2 w2 ⟨rfl, hb2⟩
        have HB2 : Hid (Below w1.heap.size w1 w2) := below_step HB.out hb2
        have HR2 := hide (insAt_below HR.out hb2)
        replace a0 := keep_cell hb2 a0
        replace a4 := keep_cell hb2 a4
        clear HB HR hb2 a1 a2 a3
        by_cases he : insErr x = 0
        · rw [he]
          rw [show ((0 : Nat) : Int) = 0 from rfl]
          have hlen6 : l.length ≤ 1000000 := by omega
          cases k1 : (x.op.toList == [108, 97, 98, 101, 108])
          · cases k2 : (x.to.toList == [])
            · go_wp2_with fail
              refine (labelAt_any _ _ _ _ _ hlen6 HR2.out).mono ?_
              rintro e3 w3 ⟨rfl, rfl⟩
              by_cases hn : labelAt l x.to < 0
              · have HZ : Hid (faultFrom l 0 l = (5, (j : Int))) := by
                  have hv : insFault l j x = 5 := by unfold insFault; rw [if_neg (fun h => h he)]; rw [if_neg (by simp [k1]), if_pos ⟨k2, hn⟩]
                  have := HX.out (by rw [hv]; decide)
                  rwa [hv] at this
                clear HX HY
                have hb3 := HB2.out
                have r0 := keep_cell hb3 z0
                have r1 := keep_cell hb3 z1
                have hzl : w.heap.size < w1.heap.size := World.block_lt_of_cell? _ _ z0
                have x0 : w3.frozen? ⟨w.heap.size, 0, none⟩ = false := by rw [hb3.frozen hzl]; exact y0
                have x1 : w3.frozen? ⟨w.heap.size, 1, none⟩ = false := by rw [hb3.frozen hzl]; exact y1
                have B3 := below_step hba hb3
                clear z0 z1 y0 y1 hb3
                go_wp2_with fail
                refine bodyPost_ret (v := .agg #[.int .i64 5, .int .i64 j]) (by simp only [results, Tryz.results42]; go_simp) rfl ⟨by rw [HZ.out]; rfl, ?_⟩
                exact (B3.setCell (Nat.le_refl _) _).setCell (Nat.le_refl _) _
              · have HZ := hide (HY.out (by unfold insFault; rw [if_neg (fun h => h he)]; rw [if_neg (by simp [k1]), if_neg (fun h => hn h.2)]))
                clear HX HY
                go_wp2_with fail
                go_roundw
                case rel => exact ⟨HB2, j + 1, by omega, by go_num, HZ⟩
                case measure => simp [intOf]; omega
            · have HZ := hide (HY.out (by unfold insFault; rw [if_neg (fun h => h he)]; rw [if_neg (by simp [k1]), if_neg (by simp [k2])]))
              clear HX HY
              go_wp2_with fail
              go_roundw
              case rel => exact ⟨HB2, j + 1, by omega, by go_num, HZ⟩
              case measure => simp [intOf]; omega
          · go_wp2_with fail
            refine (labelAt_any _ _ _ _ _ hlen6 HR2.out).mono ?_
            rintro e3 w3 ⟨rfl, rfl⟩
            by_cases hn : labelAt l x.to = j
            · rw [hn]
              cases k2 : (x.to.toList == [])
              · go_wp2_with fail
                refine (labelAt_any _ _ _ _ _ hlen6 HR2.out).mono ?_
                rintro e3 w4 ⟨rfl, rfl⟩
                rw [hn]
                have hj0 : ¬ (j : Int) < 0 := by omega
                have HZ := hide (HY.out (by unfold insFault; rw [if_neg (fun h => h he)]; rw [if_neg (fun h => h.2 hn), if_neg (fun h => by have := h.2; omega)]))
                clear HX HY
                go_wp2_with fail
                go_roundw
                case rel => exact ⟨HB2, j + 1, by omega, by go_num, HZ⟩
                case measure => simp [intOf]; omega
              · have HZ := hide (HY.out (by unfold insFault; rw [if_neg (fun h => h he)]; rw [if_neg (fun h => h.2 hn), if_neg (by simp [k2])]))
                clear HX HY
                go_wp2_with fail
                go_roundw
                case rel => exact ⟨HB2, j + 1, by omega, by go_num, HZ⟩
                case measure => simp [intOf]; omega
            · have hne : (labelAt l x.to == (j : Int)) = false := beq_eq_false_iff_ne.2 hn
              have HZ : Hid (faultFrom l 0 l = (4, (j : Int))) := by
                have hv : insFault l j x = 4 := by unfold insFault; rw [if_neg (fun h => h he)]; rw [if_pos ⟨k1, hn⟩]
                have := HX.out (by rw [hv]; decide)
                rwa [hv] at this
              clear HX HY
              have hb3 := HB2.out
              have r0 := keep_cell hb3 z0
              have r1 := keep_cell hb3 z1
              have hzl : w.heap.size < w1.heap.size := World.block_lt_of_cell? _ _ z0
              have x0 : w3.frozen? ⟨w.heap.size, 0, none⟩ = false := by rw [hb3.frozen hzl]; exact y0
              have x1 : w3.frozen? ⟨w.heap.size, 1, none⟩ = false := by rw [hb3.frozen hzl]; exact y1
              have B3 := below_step hba hb3
              clear z0 z1 y0 y1 hb3
              go_wp2_with fail
              refine bodyPost_ret (v := .agg #[.int .i64 4, .int .i64 j]) (by simp only [results, Tryz.results42]; go_simp) rfl ⟨by rw [HZ.out]; rfl, ?_⟩
              exact (B3.setCell (Nat.le_refl _) _).setCell (Nat.le_refl _) _
        · have HZ : Hid (faultFrom l 0 l = (insErr x, (j : Int))) := by
            have hv : insFault l j x = insErr x := by unfold insFault; rw [if_pos he]
            have := HX.out (by rw [hv]; exact he)
            rwa [hv] at this
          clear HX HY
          have hb3 := HB2.out
          have r0 := keep_cell hb3 z0
          have r1 := keep_cell hb3 z1
          have hzl : w.heap.size < w1.heap.size := World.block_lt_of_cell? _ _ z0
          have x0 : w2.frozen? ⟨w.heap.size, 0, none⟩ = false := by rw [hb3.frozen hzl]; exact y0
          have x1 : w2.frozen? ⟨w.heap.size, 1, none⟩ = false := by rw [hb3.frozen hzl]; exact y1
          have B3 := below_step hba hb3
          have he0 : 0 < (insErr x : Int) := by omega
          clear z0 z1 y0 y1 hb3
          generalize insErr x = n at *
          go_wp2_with fail
          refine bodyPost_ret (v := .agg #[.int .i64 n, .int .i64 j]) (by simp only [results, Tryz.results42]; go_simp) rfl ⟨by rw [HZ.out], ?_⟩
          exact (B3.setCell (Nat.le_refl _) _).setCell (Nat.le_refl _) _
      · have HZ : Hid (faultFrom l 0 l = (0, -1)) := faultFrom_at l l 0 (fun k y hy => by simpa using HJ.out k y (by have := (List.getElem?_eq_some_iff.1 hy).1; omega) hy)
        obtain rfl : j = l.length := by omega
        clear HJ
        go_wp2_with fail
        refine (fine_any _).mono ?_
        rintro e w2 ⟨rfl, hb2⟩
        have hb3 : Below w1.heap.size w1 w2 := below_step HB.out hb2
        have r0 := keep_cell hb3 z0
        have r1 := keep_cell hb3 z1
        have hzl : w.heap.size < w1.heap.size := World.block_lt_of_cell? _ _ z0
        have x0 : w2.frozen? ⟨w.heap.size, 0, none⟩ = false := by rw [hb3.frozen hzl]; exact y0
        have x1 : w2.frozen? ⟨w.heap.size, 1, none⟩ = false := by rw [hb3.frozen hzl]; exact y1
        have B3 := below_step hba hb3
        clear z0 z1 y0 y1 hb3 hb2 HB
        go_wp2_with fail
        refine bodyPost_ret (v := .agg #[.int .i64 0, .int .i64 (-1)]) (by simp only [results, Tryz.results42]; go_simp) rfl ⟨by rw [HZ.out]; rfl, ?_⟩
        exact (B3.setCell (Nat.le_refl _) _).setCell (Nat.le_refl _) _

end Go.Proofs.YtaiigfcfmcicjaaGreatDoor

/- SpG -/
namespace Go.Proofs.YtaiigfcfmcicjaaGreatDoor
open Go.RowKit Go.Extern.Stop Go.Stop Go.Extern Go.Maps Go.WideMaps Go.Sort

theorem insOwn_kept {w w' : World} {base : Nat} {v : Value} {l : List Ins} {ob : Option Nat} (h : insOwn w base v l) (hg : w.grownBy w' ob) (hne : v.ownBlock = none ∨ v.ownBlock ≠ ob) : insOwn w' base v l := World.ownsRow.kept h hg hne

end Go.Proofs.YtaiigfcfmcicjaaGreatDoor
