import Derived.Test.YtgmokighfgdnjaaGreatDoorC17
import Derived.Test.YtgmokighfgdnjaaGreatDoorC13
import Derived.Deep.QuietTactic
import Derived.Test.YtgmokighfgdnjaaGreatDoorC09

/- CodeE -/
namespace Go.Proofs.YtgmokighfgdnjaaGreatDoor
open Go.RowKit Go.Extern.Stop Go.Stop Go.Extern
theorem rbare_any (k : Int) (w : World) : Calls Tryz.prog 66 #[.int .i64 k] w fun e w' => e = .returned (.agg #[.int .i64 k, .int .i64 (-1)]) ∧ Below w.heap.size w w' := by
  go_enter Tryz.func66, Tryz.ntmps66
  go_wp2
  refine bodyPost_ret (v := .agg #[.int .i64 k, .int .i64 (-1)]) (by simp only [results, Tryz.results66]; go_simp) rfl ⟨rfl, ?_⟩
  exact (Below.refl _ _).alloc (Nat.le_refl _) _
theorem fine_any (w : World) : Calls Tryz.prog 69 #[] w fun e w' => e = .returned (.agg #[.int .i64 0, .int .i64 (-1)]) ∧ Below w.heap.size w w' := by
  go_enter Tryz.func69, Tryz.ntmps69
  go_wp2
  refine bodyPost_ret (v := .agg #[.int .i64 0, .int .i64 (-1)]) (by simp only [results, Tryz.results69]; go_simp) rfl ⟨rfl, ?_⟩
  exact (Below.refl _ _).alloc (Nat.le_refl _) _

set_option maxRecDepth 20000 in
set_option maxHeartbeats 2000000 in
theorem codeFault_any (ad : Option Addr) (cap : Nat) (l : List Ins) (w : World) (hl : insAt ad l w) :
    Calls Tryz.prog 32 #[.slice ad l.length cap] w fun e w' => e = .returned (.agg #[.int .i64 (codeFault l).1, .int .i64 (codeFault l).2]) ∧ Below w.heap.size w w' := by
  have HL := hide hl
  clear hl
  have hba : Below w.heap.size w (w.alloc (.cells #[.int .i64 0, .int .i64 0] 67)) := (Below.refl _ _).alloc (Nat.le_refl _) _
  have z0 : (w.alloc (.cells #[.int .i64 0, .int .i64 0] 67)).cell? ⟨w.heap.size, 0, none⟩ = some (.int .i64 0) := by simp
  have z1 : (w.alloc (.cells #[.int .i64 0, .int .i64 0] 67)).cell? ⟨w.heap.size, 1, none⟩ = some (.int .i64 0) := by simp
  have y0 : (w.alloc (.cells #[.int .i64 0, .int .i64 0] 67)).frozen? ⟨w.heap.size, 0, none⟩ = false := by simp
  have y1 : (w.alloc (.cells #[.int .i64 0, .int .i64 0] 67)).frozen? ⟨w.heap.size, 1, none⟩ = false := by simp
  generalize hw : w.alloc (.cells #[.int .i64 0, .int .i64 0] 67) = w1 at *
  by_cases hlen : 2000 < l.length
  · have hc : codeFault l = (2, -1) := if_pos hlen
    have hi : 2000 < (l.length : Int) := by omega
    rw [hc]
    clear hc
    go_enter Tryz.func32, Tryz.ntmps32
    go_wp2_with fail
    refine (rbare_any _ _).mono ?_
    rintro e w2 ⟨rfl, hb3⟩
    clear hw
    have r0 := keep_cell hb3 z0
    have r1 := keep_cell hb3 z1
    have hzl : w.heap.size < w1.heap.size := World.block_lt_of_cell? _ _ z0
    have x0 : w2.frozen? ⟨w.heap.size, 0, none⟩ = false := by rw [hb3.frozen hzl]; exact y0
    have x1 : w2.frozen? ⟨w.heap.size, 1, none⟩ = false := by rw [hb3.frozen hzl]; exact y1
    have B3 := below_step hba hb3
    clear z0 z1 y0 y1 hb3
    go_wp2_with fail
    refine bodyPost_ret (v := .agg #[.int .i64 2, .int .i64 (-1)]) (by simp only [results, Tryz.results32]; go_simp) rfl ⟨rfl, ?_⟩
    exact (B3.setCell (Nat.le_refl _) _).setCell (Nat.le_refl _) _
  · have hc : codeFault l = faultFrom l 0 l := if_neg hlen
    have hi : ¬ 2000 < (l.length : Int) := by omega
    rw [hc]
    clear hc
    go_enter Tryz.func32, Tryz.ntmps32
    go_wp2_with fail
    clear hw
    go_loopw [3] (fun i wr => Hid (Below w1.heap.size w1 wr) ∧ ∃ j : Nat, j ≤ l.length ∧ i = .int .i64 j ∧ Hid (∀ k y, k < j → l[k]? = some y → insFault l k y = 0)) (fun i _ => l.length - (intOf i).toNat)
    case atStart => exact ⟨Below.refl _ _, 0, Nat.zero_le _, rfl, fun k y h => absurd h (Nat.not_lt_zero _)⟩
    case round =>
      obtain ⟨HB, j, hj, rfl, HJ⟩ := hrel
      by_cases hlt : j < l.length
      · obtain ⟨x, hx⟩ : ∃ x, l[j]? = some x := ⟨_, List.getElem?_eq_getElem hlt⟩
        have HR := hide (insAt_below (insAt_below HL.out hba) HB.out)
        obtain ⟨b, off, rfl, a0, a1, a2, a3, a4⟩ := HR.out j x hx
        have ji : (j : Int) < l.length := by omega
        have HY : Hid (insFault l j x = 0 → ∀ k y, k < j + 1 → l[k]? = some y → insFault l k y = 0) := fun h k y hk hy => by
          by_cases e : k = j
          · subst e; rw [hx] at hy; cases hy; exact h
          · exact HJ.out k y (by omega) hy
        have HX : Hid (insFault l j x ≠ 0 → faultFrom l 0 l = (insFault l j x, (j : Int))) := fun h => by
          have := faultFrom_hit l l 0 j x hx (by simpa using h) (fun k y hk hy => by simpa using HJ.out k y hk hy)
          simpa using this
        clear HJ hx
        go_wp2_with fail
        refine (instr_any x _).mono ?_
        rintro e2 w2 ⟨rfl, hb2⟩
        have HB2 : Hid (Below w1.heap.size w1 w2) := below_step HB.out hb2
        have HR2 := hide (insAt_below HR.out hb2)
        replace a0 := keep_cell hb2 a0
        replace a4 := keep_cell hb2 a4
        clear HB HR hb2 a1 a2 a3
        by_cases he : insErr x = 0
        · rw [he]
          rw [show ((0 : Nat) : Int) = 0 from rfl]
          have hlen6 : l.length ≤ 1000000 := by omega
          cases k1 : (x.op.toList == [108, 97, 98, 101, 108])
          · cases k2 : (x.to.toList == [])
            · go_wp2_with fail
              refine (labelAt_any _ _ _ _ _ hlen6 HR2.out).mono ?_
              rintro e3 w3 ⟨rfl, rfl⟩
              by_cases hn : labelAt l x.to < 0
              · have HZ : Hid (faultFrom l 0 l = (5, (j : Int))) := by
                  have hv : insFault l j x = 5 := by unfold insFault; rw [if_neg (fun h => h he)]; rw [if_neg (by simp [k1]), if_pos ⟨k2, hn⟩]
                  have := HX.out (by rw [hv]; decide)
                  rwa [hv] at this
                clear HX HY
                have hb3 := HB2.out
                have r0 := keep_cell hb3 z0
                have r1 := keep_cell hb3 z1
                have hzl : w.heap.size < w1.heap.size := World.block_lt_of_cell? _ _ z0
                have x0 : w3.frozen? ⟨w.heap.size, 0, none⟩ = false := by rw [hb3.frozen hzl]; exact y0
                have x1 : w3.frozen? ⟨w.heap.size, 1, none⟩ = false := by rw [hb3.frozen hzl]; exact y1
                have B3 := below_step hba hb3
                clear z0 z1 y0 y1 hb3
                go_wp2_with fail
                refine bodyPost_ret (v := .agg #[.int .i64 5, .int .i64 j]) (by simp only [results, Tryz.results32]; go_simp) rfl ⟨by rw [HZ.out]; rfl, ?_⟩
                exact (B3.setCell (Nat.le_refl _) _).setCell (Nat.le_refl _) _
              · have HZ := hide (HY.out (by unfold insFault; rw [if_neg (fun h => h he)]; rw [if_neg (by simp [k1]), if_neg (fun h => hn h.2)]))
                clear HX HY
                go_wp2_with fail
                go_roundw
                case rel => exact ⟨HB2, j + 1, by omega, by go_num, HZ⟩
                case measure => simp [intOf]; omega
            · have HZ := hide (HY.out (by unfold insFault; rw [if_neg (fun h => h he)]; rw [if_neg (by simp [k1]), if_neg (by simp [k2])]))
              clear HX HY
              go_wp2_with fail
              go_roundw
              case rel => exact ⟨HB2, j + 1, by omega, by go_num, HZ⟩
              case measure => simp [intOf]; omega
          · go_wp2_with fail
            refine (labelAt_any _ _ _ _ _ hlen6 HR2.out).mono ?_
            rintro e3 w3 ⟨rfl, rfl⟩
            by_cases hn : labelAt l x.to = j
            · rw [hn]
              cases k2 : (x.to.toList == [])
              · go_wp2_with fail
                refine (labelAt_any _ _ _ _ _ hlen6 HR2.out).mono ?_
                rintro e3 w4 ⟨rfl, rfl⟩
                rw [hn]
                have hj0 : ¬ (j : Int) < 0 := by omega
                have HZ := hide (HY.out (by unfold insFault; rw [if_neg (fun h => h he)]; rw [if_neg (fun h => h.2 hn), if_neg (fun h => by have := h.2; omega)]))
                clear HX HY
                go_wp2_with fail
                go_roundw
                case rel => exact ⟨HB2, j + 1, by omega, by go_num, HZ⟩
                case measure => simp [intOf]; omega
              · have HZ := hide (HY.out (by unfold insFault; rw [if_neg (fun h => h he)]; rw [if_neg (fun h => h.2 hn), if_neg (by simp [k2])]))
                clear HX HY
                go_wp2_with fail
                go_roundw
                case rel => exact ⟨HB2, j + 1, by omega, by go_num, HZ⟩
                case measure => simp [intOf]; omega
            · have hne : (labelAt l x.to == (j : Int)) = false := beq_eq_false_iff_ne.2 hn
              have HZ : Hid (faultFrom l 0 l = (4, (j : Int))) := by
                have hv : insFault l j x = 4 := by unfold insFault; rw [if_neg (fun h => h he)]; rw [if_pos ⟨k1, hn⟩]
                have := HX.out (by rw [hv]; decide)
                rwa [hv] at this
              clear HX HY
              have hb3 := HB2.out
              have r0 := keep_cell hb3 z0
              have r1 := keep_cell hb3 z1
              have hzl : w.heap.size < w1.heap.size := World.block_lt_of_cell? _ _ z0
              have x0 : w3.frozen? ⟨w.heap.size, 0, none⟩ = false := by rw [hb3.frozen hzl]; exact y0
              have x1 : w3.frozen? ⟨w.heap.size, 1, none⟩ = false := by rw [hb3.frozen hzl]; exact y1
              have B3 := below_step hba hb3
              clear z0 z1 y0 y1 hb3
              go_wp2_with fail
              refine bodyPost_ret (v := .agg #[.int .i64 4, .int .i64 j]) (by simp only [results, Tryz.results32]; go_simp) rfl ⟨by rw [HZ.out]; rfl, ?_⟩
              exact (B3.setCell (Nat.le_refl _) _).setCell (Nat.le_refl _) _
        · have HZ : Hid (faultFrom l 0 l = (insErr x, (j : Int))) := by
            have hv : insFault l j x = insErr x := by unfold insFault; rw [if_pos he]
            have := HX.out (by rw [hv]; exact he)
            rwa [hv] at this
          clear HX HY
          have hb3 := HB2.out
          have r0 := keep_cell hb3 z0
          have r1 := keep_cell hb3 z1
          have hzl : w.heap.size < w1.heap.size := World.block_lt_of_cell? _ _ z0
          have x0 : w2.frozen? ⟨w.heap.size, 0, none⟩ = false := by rw [hb3.frozen hzl]; exact y0
          have x1 : w2.frozen? ⟨w.heap.size, 1, none⟩ = false := by rw [hb3.frozen hzl]; exact y1
          have B3 := below_step hba hb3
          have he0 : 0 < (insErr x : Int) := by omega
          clear z0 z1 y0 y1 hb3
          generalize insErr x = n at *
          go_wp2_with fail
          refine bodyPost_ret (v := .agg #[.int .i64 n, .int .i64 j]) (by simp only [results, Tryz.results32]; go_simp) rfl ⟨by rw [HZ.out], ?_⟩
          exact (B3.setCell (Nat.le_refl _) _).setCell (Nat.le_refl _) _
      · have HZ : Hid (faultFrom l 0 l = (0, -1)) := faultFrom_at l l 0 (fun k y hy => by simpa using HJ.out k y (by have := (List.getElem?_eq_some_iff.1 hy).1; omega) hy)
        obtain rfl : j = l.length := by omega
        clear HJ
        go_wp2_with fail
        refine (fine_any _).mono ?_
        rintro e w2 ⟨rfl, hb2⟩
        have hb3 : Below w1.heap.size w1 w2 := below_step HB.out hb2
        have r0 := keep_cell hb3 z0
        have r1 := keep_cell hb3 z1
        have hzl : w.heap.size < w1.heap.size := World.block_lt_of_cell? _ _ z0
        have x0 : w2.frozen? ⟨w.heap.size, 0, none⟩ = false := by rw [hb3.frozen hzl]; exact y0
        have x1 : w2.frozen? ⟨w.heap.size, 1, none⟩ = false := by rw [hb3.frozen hzl]; exact y1
        have B3 := below_step hba hb3
        clear z0 z1 y0 y1 hb3 hb2 HB
        go_wp2_with fail
        refine bodyPost_ret (v := .agg #[.int .i64 0, .int .i64 (-1)]) (by simp only [results, Tryz.results32]; go_simp) rfl ⟨by rw [HZ.out]; rfl, ?_⟩
        exact (B3.setCell (Nat.le_refl _) _).setCell (Nat.le_refl _) _

end Go.Proofs.YtgmokighfgdnjaaGreatDoor

/- SpR -/
namespace Go.Proofs.YtgmokighfgdnjaaGreatDoor
open Go.RowKit Go.Extern.Stop Go.Stop Go.Extern

open Classical in
theorem prefix_any (p : ByteArray) (k : Int) (w : World) : Calls Tryz.prog 11 #[.string p, .int .i64 k] w fun e w' => e = .returned (.bool (decide (isName p) && decide ((p.size : Int) ≤ k))) ∧ w' = w := by
  have HN := hide (isName_any p)
  by_cases hn : isName p
  · rw [decide_eq_true hn]
    rw [decide_eq_true hn] at HN
    go_enter Tryz.func11, Tryz.ntmps11
    go_wp2_with fail
    refine (HN.out _).mono ?_
    rintro e w1 ⟨rfl, rfl⟩
    go_wp2_with fail
    go_ret
    exact ⟨rfl, rfl⟩
  · rw [decide_eq_false hn]
    rw [decide_eq_false hn] at HN
    go_enter Tryz.func11, Tryz.ntmps11
    go_wp2_with fail
    refine (HN.out _).mono ?_
    rintro e w1 ⟨rfl, rfl⟩
    go_wp2_with fail
    go_ret
    exact ⟨rfl, rfl⟩

def strsAt (ad : Option Addr) (l : List ByteArray) (w : World) : Prop := ∀ (i : Nat) x, l[i]? = some x → ∃ b off, ad = some ⟨b, off, none⟩ ∧ w.cell? ⟨b, off + i, none⟩ = some (.string x)
theorem strsAt.below {ad : Option Addr} {l : List ByteArray} {w w' : World} (h : strsAt ad l w) (hb : Below w.heap.size w w') : strsAt ad l w' := fun i x hx => by
  obtain ⟨b, off, e, hc⟩ := h i x hx
  exact ⟨b, off, e, keep_cell hb hc⟩

structure PlainOk (l : List Ins) (p : ByteArray) (bars : List ByteArray) : Prop where
  fault : (codeFault l).1 = 0
  ops : ∀ (i : Nat) x, l[i]? = some x → ∀ (k : Nat) b, bars[k]? = some b → (x.op.toList == b.toList) = false
  to : ∀ (i : Nat) x, l[i]? = some x → (x.to.toList == []) = false → p.size ≤ x.to.size ∧ ((x.to.extract 0 p.size).toList == p.toList) = true

set_option maxRecDepth 20000 in
theorem rfield_fault (a b : Int) (w : World) : (Instr.field 67 (.agg #[.int .i64 a, .int .i64 b]) 0).run Tryz.prog w = .ok (.int .i64 a) w := by
  rfl

set_option maxRecDepth 20000 in
set_option maxHeartbeats 2000000 in
theorem plain_yes {ad adb : Option Addr} {l : List Ins} {cap capb : Nat} {p : ByteArray} {most : Nat} {bars : List ByteArray} {w : World} (hl : insAt ad l w) (hb : strsAt adb bars w) (h : PlainOk l p bars) (hm : l.length ≤ most) (hm2 : most ≤ 2000) (hb2 : bars.length ≤ 2000) :
    Calls Tryz.prog 13 #[.slice ad l.length cap, .string p, .int .i64 most, .slice adb bars.length capb] w fun e w' => e = .returned (.bool true) ∧ Below w.heap.size w w' := by
  have HCF := hide (codeFault_any ad cap l w hl)
  rw [h.fault] at HCF
  have hfl := fun a b w => rfield_fault a b w
  have i1 : ¬ (most : Int) < l.length := by omega
  have HL := hide hl
  have HB := hide hb
  have HH := hide h
  clear hl hb h
  go_enter Tryz.func13, Tryz.ntmps13
  go_wp2_with fail
  refine HCF.out.mono ?_
  rintro e w1 ⟨rfl, hb1⟩
  have HB1 : Below w.heap.size w w1 := hb1
  clear HCF hb1
  go_wp2_with fail
  go_loopw [9, 10] (fun i _ wr => ∃ j : Nat, j ≤ l.length ∧ i = .int .i64 j ∧ Below w.heap.size w wr) (fun i _ _ => l.length - (intOf i).toNat)
  case atStart => exact ⟨0, Nat.zero_le _, rfl, HB1⟩
  case round =>
    clear HB1
    obtain ⟨j, hj, rfl, hB⟩ := hrel
    by_cases hlt : j < l.length
    · have ji : (j : Int) < l.length := by omega
      obtain ⟨x, hx⟩ : ∃ x, l[j]? = some x := ⟨_, List.getElem?_eq_getElem hlt⟩
      have HX : Hid (∀ w', Below w.heap.size w w' → ∃ b off, ad = some ⟨b, off, none⟩ ∧ w'.cell? ⟨b, off + j * 5, none⟩ = some (.string x.op) ∧ w'.cell? ⟨b, off + j * 5 + 4, none⟩ = some (.string x.to)) := hide (fun w' hb => by
        obtain ⟨b, off, e, e0, -, -, -, e4⟩ := insAt_below HL.out hb j x hx
        exact ⟨b, off, e, e0, e4⟩)
      have HO := hide (HH.out.ops j x hx)
      have HT := hide (HH.out.to j x hx)
      clear hx
      go_wp2_with fail
      go_loopw [10] (fun k wr => ∃ m : Nat, m ≤ bars.length ∧ k = .int .i64 m ∧ Below w.heap.size w wr) (fun k _ => bars.length - (intOf k).toNat)
      case atStart => exact ⟨0, Nat.zero_le _, rfl, hB⟩
      case round =>
        clear hB
        obtain ⟨m, hm', rfl, hB⟩ := hrel
        by_cases hmt : m < bars.length
        · have mi : (m : Int) < bars.length := by omega
          obtain ⟨y, hy⟩ : ∃ y, bars[m]? = some y := ⟨_, List.getElem?_eq_getElem hmt⟩
          obtain ⟨b, off, rfl, c0, -⟩ := HX.out _ hB
          obtain ⟨b2, off2, rfl, c1⟩ := HB.out.below hB m y hy
          have hne := HO.out m y hy
          clear hy
          go_wp2_with fail
          go_quiet (fail)
          have hB2 := below_dN hB nq
          clear hB c0 c1
          go_wp2_with fail
          go_roundw
          case rel => exact ⟨m + 1, by omega, by go_num, hB2⟩
          case measure => simp [intOf]; omega
        · obtain rfl : m = bars.length := by omega
          obtain ⟨b, off, rfl, -, c4⟩ := HX.out _ hB
          cases ht : (x.to.toList == [])
          · obtain ⟨h5, h6⟩ := HT.out ht
            have i5 : ¬ (x.to.size : Int) < p.size := by omega
            have i6 : (p.size : Int) ≤ x.to.size := by omega
            clear HX HO HT
            go_wp2_with fail
            go_roundw
            case rel => exact ⟨j + 1, by omega, by go_num, hB⟩
            case measure => simp [intOf]; omega
          · clear HX HO HT
            go_wp2_with fail
            go_roundw
            case rel => exact ⟨j + 1, by omega, by go_num, hB⟩
            case measure => simp [intOf]; omega
    · obtain rfl : j = l.length := by omega
      go_wp2_with fail
      go_ret
      exact ⟨rfl, hB⟩
end Go.Proofs.YtgmokighfgdnjaaGreatDoor

/- SpS -/
namespace Go.Proofs.YtgmokighfgdnjaaGreatDoor
open Go.RowKit Go.Extern.Stop Go.Stop Go.Extern

def wtReg (x : Ins) : Option Int :=
  if (x.op.toList == [99, 111, 110, 115, 116]) = true then some x.a
  else if (x.op.toList == [109, 111, 118, 101]) = true then some x.a
  else if (x.op.toList == [97, 100, 100]) = true then some x.a
  else if (x.op.toList == [115, 117, 98]) = true then some x.a
  else if (x.op.toList == [97, 110, 100]) = true then some x.a
  else if (x.op.toList == [120, 111, 114]) = true then some x.a
  else if (x.op.toList == [108, 111, 97, 100]) = true then some x.a
  else if (x.op.toList == [115, 119, 97, 112]) = true then some x.a
  else if (x.op.toList == [97, 108, 108, 111, 99]) = true then some x.a
  else if (x.op.toList == [99, 97, 115]) = true then some x.b
  else none
def wtTo (l : List Ins) (j k : Nat) : Bool := (l.take j).any fun x => wtReg x == some (k : Int)
theorem wtTo_succ {l : List Ins} {j : Nat} {x : Ins} (hx : l[j]? = some x) (k : Nat) : wtTo l (j + 1) k = (wtTo l j k || wtReg x == some (k : Int)) := by
  unfold wtTo
  rw [List.take_add_one, hx, List.any_append]
  simp

structure WtAt (l : List Ins) (j : Nat) (w0 : World) (g : Nat) (w : World) : Prop where
  cell : ∀ k, k < 8 → w.cell? ⟨g, k, none⟩ = some (.bool (wtTo l j k))
  fz : ∀ k, w.frozen? ⟨g, k, none⟩ = false
  low : Below w0.heap.size w0 w
  ge : w0.heap.size ≤ g
theorem WtAt.lt {l : List Ins} {j : Nat} {w0 : World} {g : Nat} {w : World} (h : WtAt l j w0 g w) : g < w.heap.size := World.block_lt_of_cell? _ _ (h.cell 0 (by decide))
theorem WtAt.below {l : List Ins} {j : Nat} {w0 : World} {g : Nat} {w w' : World} (h : WtAt l j w0 g w) (k : Below w.heap.size w w') : WtAt l j w0 g w' :=
  ⟨fun i hi => keep_cell k (h.cell i hi), fun i => by rw [World.frozen?_of_block (k.block g h.lt)]; exact h.fz i, below_step h.low k, h.ge⟩
theorem WtAt.set {l : List Ins} {j : Nat} {w0 : World} {g : Nat} {w : World} (h : WtAt l j w0 g w) {x : Ins} (hx : l[j]? = some x) {n : Nat} (hr : wtReg x = some (n : Int)) (hn : n < 8) : WtAt l (j + 1) w0 g (w.setCell ⟨g, n, none⟩ (.bool true)) where
  cell k hk := by
    rw [wtTo_succ hx, hr]
    by_cases e : k = n
    · subst e
      rw [World.cell?_setCell_same _ _ _ (h.cell k hk)]
      simp
    · rw [cell_ne (h.cell k hk) (.inr e)]
      have : ((some (n : Int) : Option Int) == some (k : Int)) = false := by
        rw [beq_eq_false_iff_ne]
        intro e2
        have := Option.some.inj e2
        omega
      rw [this, Bool.or_false]
  fz k := by rw [World.frozen?_setCell]; exact h.fz k
  low := h.low.setCell h.ge _
  ge := h.ge
theorem WtAt.skip {l : List Ins} {j : Nat} {w0 : World} {g : Nat} {w : World} (h : WtAt l j w0 g w) {x : Ins} (hx : l[j]? = some x) (hr : wtReg x = none) : WtAt l (j + 1) w0 g w where
  cell k hk := by
    rw [wtTo_succ hx, hr, h.cell k hk]
    have : ((none : Option Int) == some (k : Int)) = false := rfl
    rw [this, Bool.or_false]
  fz := h.fz
  low := h.low
  ge := h.ge

theorem make8b (w : World) : (Instr.makeSlice 34 (.int .i64 8) (.int .i64 8)).run Tryz.prog w = .ok (.slice (some ⟨w.heap.size, 0, none⟩) 8 8) (w.alloc (.cells #[.bool false, .bool false, .bool false, .bool false, .bool false, .bool false, .bool false, .bool false] 4)) := by kernel_rfl
theorem WtAt.first {l : List Ins} {w : World} : WtAt l 0 w w.heap.size (w.alloc (.cells #[.bool false, .bool false, .bool false, .bool false, .bool false, .bool false, .bool false, .bool false] 4)) where
  cell k hk := by
    rw [World.cell?_alloc_new]
    match k, hk with
    | 0, _ => rfl
    | 1, _ => rfl
    | 2, _ => rfl
    | 3, _ => rfl
    | 4, _ => rfl
    | 5, _ => rfl
    | 6, _ => rfl
    | 7, _ => rfl
  fz k := by simp
  low := (Below.refl _ _).alloc (Nat.le_refl _) _
  ge := Nat.le_refl _

set_option maxRecDepth 20000 in
set_option maxHeartbeats 4000000 in
theorem written_any {ad : Option Addr} {l : List Ins} {cap : Nat} {w : World} (hl : insAt ad l w) (hlen : l.length ≤ 2000) (hr : ∀ (i : Nat) x k, l[i]? = some x → wtReg x = some k → 0 ≤ k ∧ k < 8) :
    Calls Tryz.prog 15 #[.slice ad l.length cap] w fun e w' => ∃ g, e = .returned (.slice (some ⟨g, 0, none⟩) 8 8) ∧ WtAt l l.length w g w' := by
  have HL := hide hl
  have HR := hide hr
  clear hl hr
  have hmk := fun w => make8b w
  go_enter Tryz.func15, Tryz.ntmps15
  go_wp2_with fail
  go_loopw [4, 5, 19, 33] (fun i _ _ _ wr => ∃ j : Nat, j ≤ l.length ∧ i = .int .i64 j ∧ Hid (WtAt l j w w.heap.size wr)) (fun i _ _ _ _ => l.length - (intOf i).toNat)
  case atStart => exact ⟨0, Nat.zero_le _, rfl, WtAt.first⟩
  case round =>
    obtain ⟨j, hj, rfl, HW⟩ := hrel
    by_cases hlt : j < l.length
    · have ji : (j : Int) < l.length := by omega
      obtain ⟨x, hx⟩ : ∃ x, l[j]? = some x := ⟨_, List.getElem?_eq_getElem hlt⟩
      obtain ⟨b, off, rfl, e0, e1, e2, e3, e4⟩ := insAt_below HL.out HW.out.low j x hx
      have HB := hide (HW.out.below ((Below.refl _ _).alloc (Nat.le_refl _) (.cells #[.string x.op, .int .i64 x.a, .int .i64 x.b, .int .i64 x.c, .string x.to] 70)))
      have HRX := hide (fun k => HR.out j x k hx)
      clear HW
      cases h0 : (x.op.toList == [99, 111, 110, 115, 116])
      rotate_left
      · have hr : wtReg x = some x.a := by
          unfold wtReg
          rw [if_pos h0]
        obtain ⟨n, hn⟩ := Int.eq_ofNat_of_zero_le (HRX.out _ hr).1
        have hn8 : n < 8 := by have := (HRX.out _ hr).2; omega
        rw [hn] at e1 hr HB
        have c1 := HB.out.cell n hn8
        have f1 := HB.out.fz n
        have HS := hide (HB.out.set hx hr hn8)
        have ni : (n : Int) < 8 := by omega
        clear hx hr HB HRX hn
        go_wp2_with fail
        go_roundw
        case rel => exact ⟨j + 1, by omega, by go_num, HS⟩
        case measure => simp [intOf]; omega
      cases h1 : (x.op.toList == [109, 111, 118, 101])
      rotate_left
      · have hr : wtReg x = some x.a := by
          unfold wtReg
          rw [if_neg (by rw [h0]; decide), if_pos h1]
        obtain ⟨n, hn⟩ := Int.eq_ofNat_of_zero_le (HRX.out _ hr).1
        have hn8 : n < 8 := by have := (HRX.out _ hr).2; omega
        rw [hn] at e1 hr HB
        have c1 := HB.out.cell n hn8
        have f1 := HB.out.fz n
        have HS := hide (HB.out.set hx hr hn8)
        have ni : (n : Int) < 8 := by omega
        clear hx hr HB HRX hn
        go_wp2_with fail
        go_roundw
        case rel => exact ⟨j + 1, by omega, by go_num, HS⟩
        case measure => simp [intOf]; omega
      cases h2 : (x.op.toList == [97, 100, 100])
      rotate_left
      · have hr : wtReg x = some x.a := by
          unfold wtReg
          rw [if_neg (by rw [h0]; decide), if_neg (by rw [h1]; decide), if_pos h2]
        obtain ⟨n, hn⟩ := Int.eq_ofNat_of_zero_le (HRX.out _ hr).1
        have hn8 : n < 8 := by have := (HRX.out _ hr).2; omega
        rw [hn] at e1 hr HB
        have c1 := HB.out.cell n hn8
        have f1 := HB.out.fz n
        have HS := hide (HB.out.set hx hr hn8)
        have ni : (n : Int) < 8 := by omega
        clear hx hr HB HRX hn
        go_wp2_with fail
        go_roundw
        case rel => exact ⟨j + 1, by omega, by go_num, HS⟩
        case measure => simp [intOf]; omega
      cases h3 : (x.op.toList == [115, 117, 98])
      rotate_left
      · have hr : wtReg x = some x.a := by
          unfold wtReg
          rw [if_neg (by rw [h0]; decide), if_neg (by rw [h1]; decide), if_neg (by rw [h2]; decide), if_pos h3]
        obtain ⟨n, hn⟩ := Int.eq_ofNat_of_zero_le (HRX.out _ hr).1
        have hn8 : n < 8 := by have := (HRX.out _ hr).2; omega
        rw [hn] at e1 hr HB
        have c1 := HB.out.cell n hn8
        have f1 := HB.out.fz n
        have HS := hide (HB.out.set hx hr hn8)
        have ni : (n : Int) < 8 := by omega
        clear hx hr HB HRX hn
        go_wp2_with fail
        go_roundw
        case rel => exact ⟨j + 1, by omega, by go_num, HS⟩
        case measure => simp [intOf]; omega
      cases h4 : (x.op.toList == [97, 110, 100])
      rotate_left
      · have hr : wtReg x = some x.a := by
          unfold wtReg
          rw [if_neg (by rw [h0]; decide), if_neg (by rw [h1]; decide), if_neg (by rw [h2]; decide), if_neg (by rw [h3]; decide), if_pos h4]
        obtain ⟨n, hn⟩ := Int.eq_ofNat_of_zero_le (HRX.out _ hr).1
        have hn8 : n < 8 := by have := (HRX.out _ hr).2; omega
        rw [hn] at e1 hr HB
        have c1 := HB.out.cell n hn8
        have f1 := HB.out.fz n
        have HS := hide (HB.out.set hx hr hn8)
        have ni : (n : Int) < 8 := by omega
        clear hx hr HB HRX hn
        go_wp2_with fail
        go_roundw
        case rel => exact ⟨j + 1, by omega, by go_num, HS⟩
        case measure => simp [intOf]; omega
      cases h5 : (x.op.toList == [120, 111, 114])
      rotate_left
      · have hr : wtReg x = some x.a := by
          unfold wtReg
          rw [if_neg (by rw [h0]; decide), if_neg (by rw [h1]; decide), if_neg (by rw [h2]; decide), if_neg (by rw [h3]; decide), if_neg (by rw [h4]; decide), if_pos h5]
        obtain ⟨n, hn⟩ := Int.eq_ofNat_of_zero_le (HRX.out _ hr).1
        have hn8 : n < 8 := by have := (HRX.out _ hr).2; omega
        rw [hn] at e1 hr HB
        have c1 := HB.out.cell n hn8
        have f1 := HB.out.fz n
        have HS := hide (HB.out.set hx hr hn8)
        have ni : (n : Int) < 8 := by omega
        clear hx hr HB HRX hn
        go_wp2_with fail
        go_roundw
        case rel => exact ⟨j + 1, by omega, by go_num, HS⟩
        case measure => simp [intOf]; omega
      cases h6 : (x.op.toList == [108, 111, 97, 100])
      rotate_left
      · have hr : wtReg x = some x.a := by
          unfold wtReg
          rw [if_neg (by rw [h0]; decide), if_neg (by rw [h1]; decide), if_neg (by rw [h2]; decide), if_neg (by rw [h3]; decide), if_neg (by rw [h4]; decide), if_neg (by rw [h5]; decide), if_pos h6]
        obtain ⟨n, hn⟩ := Int.eq_ofNat_of_zero_le (HRX.out _ hr).1
        have hn8 : n < 8 := by have := (HRX.out _ hr).2; omega
        rw [hn] at e1 hr HB
        have c1 := HB.out.cell n hn8
        have f1 := HB.out.fz n
        have HS := hide (HB.out.set hx hr hn8)
        have ni : (n : Int) < 8 := by omega
        clear hx hr HB HRX hn
        go_wp2_with fail
        go_roundw
        case rel => exact ⟨j + 1, by omega, by go_num, HS⟩
        case measure => simp [intOf]; omega
      cases h7 : (x.op.toList == [115, 119, 97, 112])
      rotate_left
      · have hr : wtReg x = some x.a := by
          unfold wtReg
          rw [if_neg (by rw [h0]; decide), if_neg (by rw [h1]; decide), if_neg (by rw [h2]; decide), if_neg (by rw [h3]; decide), if_neg (by rw [h4]; decide), if_neg (by rw [h5]; decide), if_neg (by rw [h6]; decide), if_pos h7]
        obtain ⟨n, hn⟩ := Int.eq_ofNat_of_zero_le (HRX.out _ hr).1
        have hn8 : n < 8 := by have := (HRX.out _ hr).2; omega
        rw [hn] at e1 hr HB
        have c1 := HB.out.cell n hn8
        have f1 := HB.out.fz n
        have HS := hide (HB.out.set hx hr hn8)
        have ni : (n : Int) < 8 := by omega
        clear hx hr HB HRX hn
        go_wp2_with fail
        go_roundw
        case rel => exact ⟨j + 1, by omega, by go_num, HS⟩
        case measure => simp [intOf]; omega
      cases h8 : (x.op.toList == [97, 108, 108, 111, 99])
      rotate_left
      · have hr : wtReg x = some x.a := by
          unfold wtReg
          rw [if_neg (by rw [h0]; decide), if_neg (by rw [h1]; decide), if_neg (by rw [h2]; decide), if_neg (by rw [h3]; decide), if_neg (by rw [h4]; decide), if_neg (by rw [h5]; decide), if_neg (by rw [h6]; decide), if_neg (by rw [h7]; decide), if_pos h8]
        obtain ⟨n, hn⟩ := Int.eq_ofNat_of_zero_le (HRX.out _ hr).1
        have hn8 : n < 8 := by have := (HRX.out _ hr).2; omega
        rw [hn] at e1 hr HB
        have c1 := HB.out.cell n hn8
        have f1 := HB.out.fz n
        have HS := hide (HB.out.set hx hr hn8)
        have ni : (n : Int) < 8 := by omega
        clear hx hr HB HRX hn
        go_wp2_with fail
        go_roundw
        case rel => exact ⟨j + 1, by omega, by go_num, HS⟩
        case measure => simp [intOf]; omega
      cases h9 : (x.op.toList == [99, 97, 115])
      · have hr : wtReg x = none := by
          unfold wtReg
          rw [if_neg (by rw [h0]; decide), if_neg (by rw [h1]; decide), if_neg (by rw [h2]; decide), if_neg (by rw [h3]; decide), if_neg (by rw [h4]; decide), if_neg (by rw [h5]; decide), if_neg (by rw [h6]; decide), if_neg (by rw [h7]; decide), if_neg (by rw [h8]; decide), if_neg (by rw [h9]; decide)]
        have HS := hide (HB.out.skip hx hr)
        clear hx hr HB HRX
        go_wp2_with fail
        go_roundw
        case rel => exact ⟨j + 1, by omega, by go_num, HS⟩
        case measure => simp [intOf]; omega
      · have hr : wtReg x = some x.b := by
          unfold wtReg
          rw [if_neg (by rw [h0]; decide), if_neg (by rw [h1]; decide), if_neg (by rw [h2]; decide), if_neg (by rw [h3]; decide), if_neg (by rw [h4]; decide), if_neg (by rw [h5]; decide), if_neg (by rw [h6]; decide), if_neg (by rw [h7]; decide), if_neg (by rw [h8]; decide), if_pos h9]
        obtain ⟨n, hn⟩ := Int.eq_ofNat_of_zero_le (HRX.out _ hr).1
        have hn8 : n < 8 := by have := (HRX.out _ hr).2; omega
        rw [hn] at e2 hr HB
        have c1 := HB.out.cell n hn8
        have f1 := HB.out.fz n
        have HS := hide (HB.out.set hx hr hn8)
        have ni : (n : Int) < 8 := by omega
        clear hx hr HB HRX hn
        go_wp2_with fail
        go_roundw
        case rel => exact ⟨j + 1, by omega, by go_num, HS⟩
        case measure => simp [intOf]; omega
    · obtain rfl : j = l.length := by omega
      go_wp2_with fail
      go_ret
      exact ⟨_, rfl, HW.out⟩
end Go.Proofs.YtgmokighfgdnjaaGreatDoor
