import Derived.Test.YtmeohblomighpaaDoorRJ37
import Derived.Test.YtmeohblomighpaaDoorRJ35
import Derived.Test.YtmeohblomighpaaDoorRJ23

/- SpM -/
namespace Go.Proofs.YtmeohblomighpaaDoorR
open Go.RowKit

theorem spGood {tm : Nat} (h : tm ≤ 3) : codeFault (spCode tm) = (0, -1) := by
  have h1 : ∀ tm : Fin 4, codeGood (spCode tm) = true := by decide +kernel
  exact codeGood_is (h1 ⟨tm, by omega⟩)
theorem spIns_short (k q : Nat) : (spIns k q).to.size ≤ maxLen := by
  unfold spIns
  split <;> (show _ ≤ _; simp [spPre, spTaken, spNo, ByteArray.size, maxLen])
theorem spCodes {T tm : Nat} (h : tm ≤ 3) (h1 : 1 ≤ T) (h6 : T ≤ 6) : Right (List.replicate T (spCode tm)) := by
  refine right_of (fun t L ht => ?_) (by simpa using h1) (by simpa using h6) (fun t L ht i x hx => ?_)
  · rw [List.getElem?_replicate] at ht
    split at ht
    · cases ht; rw [spGood h]
    · cases ht
  · rw [List.getElem?_replicate] at ht
    split at ht
    · cases ht
      unfold spCode at hx
      rw [List.getElem?_map] at hx
      cases hr : (List.range (19 * tm))[i]? with
      | none => rw [hr] at hx; cases hx
      | some p => rw [hr] at hx; cases hx; exact spIns_short _ _
    · cases ht

def numsTo (n : Nat) : List Int := (List.range n).map fun (i : Nat) => (i : Int)
theorem numsTo_succ (n : Nat) : numsTo (n + 1) = numsTo n ++ [(n : Int)] := by
  unfold numsTo
  rw [List.range_succ, List.map_append]
  rfl
theorem aRun_append (tm T : Nat) : ∀ (l1 l2 : List Int) (a : AS), aRun tm T a (l1 ++ l2) = aRun tm T (aRun tm T a l1) l2
  | [], _, _ => rfl
  | n :: l1, l2, a => aRun_append tm T l1 l2 (aTurn tm T a n)

def spAll (tm T : Nat) : Bool := (aRun tm T ⟨List.replicate T 0, none⟩ (numsTo 660)).ps == List.replicate T (19 * tm)
theorem spAll_small : spAll 1 1 = true ∧ spAll 2 1 = true ∧ spAll 1 2 = true ∧ spAll 2 2 = true ∧ spAll 1 3 = true ∧ spAll 2 3 = true := by decide +kernel
theorem spAll_is {tm T : Nat} (h1 : 1 ≤ tm) (h2 : tm ≤ 2) (h3 : 1 ≤ T) (h4 : T ≤ 3) : (aRun tm T ⟨List.replicate T 0, none⟩ (numsTo 660)).ps = List.replicate T (19 * tm) := by
  obtain ⟨a1, a2, a3, a4, a5, a6⟩ := spAll_small
  have hc : (tm = 1 ∨ tm = 2) ∧ (T = 1 ∨ T = 2 ∨ T = 3) := ⟨by omega, by omega⟩
  obtain ⟨rfl | rfl, rfl | rfl | rfl⟩ := hc
  · exact beq_iff_eq.1 a1
  · exact beq_iff_eq.1 a3
  · exact beq_iff_eq.1 a5
  · exact beq_iff_eq.1 a2
  · exact beq_iff_eq.1 a4
  · exact beq_iff_eq.1 a6
theorem aTurn_end {tm T : Nat} (hT : 1 ≤ T) {a : AS} (h : a.ps = List.replicate T (19 * tm)) (n : Int) : aTurn tm T a n = a := by
  unfold aTurn
  split
  · rename_i hk
    unfold aStep
    rw [h]
    by_cases hi : (n % (2 * (T : Int))).toNat < T
    · rw [getD_rep _ _ _ _ hi, if_neg (by omega)]
    · exfalso
      have := Int.emod_nonneg n (show (2 * (T : Int)) ≠ 0 by omega)
      omega
  · rfl
theorem aRun_end {tm T : Nat} (hT : 1 ≤ T) : ∀ (l : List Int) {a : AS}, a.ps = List.replicate T (19 * tm) → aRun tm T a l = a
  | [], _, _ => rfl
  | n :: l, a, h => by
    unfold aRun
    rw [aTurn_end hT h n]
    exact aRun_end hT l h
theorem numsTo_split (n m : Nat) : ∃ l, numsTo (n + m) = numsTo n ++ l := by
  induction m with
  | zero => exact ⟨[], by simp⟩
  | succ m ih =>
    obtain ⟨l, hl⟩ := ih
    exact ⟨l ++ [((n + m : Nat) : Int)], by rw [← Nat.add_assoc, numsTo_succ, hl, List.append_assoc]⟩
theorem spEnds {tm T : Nat} (h1 : 1 ≤ tm) (h2 : tm ≤ 2) (h3 : 1 ≤ T) (h4 : T ≤ 3) : (aRun tm T ⟨List.replicate T 0, none⟩ (numsTo 5000)).ps = List.replicate T (19 * tm) := by
  obtain ⟨l, hl⟩ := numsTo_split 660 4340
  rw [show 5000 = 660 + 4340 from rfl, hl, aRun_append, aRun_end h3 l (spAll_is h1 h2 h3 h4)]
  exact spAll_is h1 h2 h3 h4
end Go.Proofs.YtmeohblomighpaaDoorR

/- CodeE -/
namespace Go.Proofs.YtmeohblomighpaaDoorR
open Go.RowKit Go.Extern.Stop Go.Stop Go.Extern
theorem rbare_any (k : Int) (w : World) : Calls Tryd.prog 24 #[.int .i64 k] w fun e w' => e = .returned (.agg #[.int .i64 k, .int .i64 (-1)]) ∧ Below w.heap.size w w' := by
  go_enter Tryd.func24, Tryd.ntmps24
  go_wp2
  refine bodyPost_ret (v := .agg #[.int .i64 k, .int .i64 (-1)]) (by simp only [results, Tryd.results24]; go_simp) rfl ⟨rfl, ?_⟩
  exact (Below.refl _ _).alloc (Nat.le_refl _) _
theorem fine_any (w : World) : Calls Tryd.prog 26 #[] w fun e w' => e = .returned (.agg #[.int .i64 0, .int .i64 (-1)]) ∧ Below w.heap.size w w' := by
  go_enter Tryd.func26, Tryd.ntmps26
  go_wp2
  refine bodyPost_ret (v := .agg #[.int .i64 0, .int .i64 (-1)]) (by simp only [results, Tryd.results26]; go_simp) rfl ⟨rfl, ?_⟩
  exact (Below.refl _ _).alloc (Nat.le_refl _) _

set_option maxRecDepth 20000 in
set_option maxHeartbeats 2000000 in
theorem codeFault_any (ad : Option Addr) (cap : Nat) (l : List Ins) (w : World) (hl : insAt ad l w) :
    Calls Tryd.prog 22 #[.slice ad l.length cap] w fun e w' => e = .returned (.agg #[.int .i64 (codeFault l).1, .int .i64 (codeFault l).2]) ∧ Below w.heap.size w w' := by
  have HL := hide hl
  clear hl
  have hba : Below w.heap.size w (w.alloc (.cells #[.int .i64 0, .int .i64 0] 44)) := (Below.refl _ _).alloc (Nat.le_refl _) _
  have z0 : (w.alloc (.cells #[.int .i64 0, .int .i64 0] 44)).cell? ⟨w.heap.size, 0, none⟩ = some (.int .i64 0) := by simp
  have z1 : (w.alloc (.cells #[.int .i64 0, .int .i64 0] 44)).cell? ⟨w.heap.size, 1, none⟩ = some (.int .i64 0) := by simp
  have y0 : (w.alloc (.cells #[.int .i64 0, .int .i64 0] 44)).frozen? ⟨w.heap.size, 0, none⟩ = false := by simp
  have y1 : (w.alloc (.cells #[.int .i64 0, .int .i64 0] 44)).frozen? ⟨w.heap.size, 1, none⟩ = false := by simp
  generalize hw : w.alloc (.cells #[.int .i64 0, .int .i64 0] 44) = w1 at *
  by_cases hlen : 2000 < l.length
  · have hc : codeFault l = (2, -1) := if_pos hlen
    have hi : 2000 < (l.length : Int) := by omega
    rw [hc]
    clear hc
    go_enter Tryd.func22, Tryd.ntmps22
    go_wp2_with fail
    refine (rbare_any _ _).mono ?_
    rintro e w2 ⟨rfl, hb3⟩
    clear hw
    have r0 := keep_cell hb3 z0
    have r1 := keep_cell hb3 z1
    have hzl : w.heap.size < w1.heap.size := World.block_lt_of_cell? _ _ z0
    have x0 : w2.frozen? ⟨w.heap.size, 0, none⟩ = false := by rw [hb3.frozen hzl]; exact y0
    have x1 : w2.frozen? ⟨w.heap.size, 1, none⟩ = false := by rw [hb3.frozen hzl]; exact y1
    have B3 := below_step hba hb3
    clear z0 z1 y0 y1 hb3
    go_wp2_with fail
    refine bodyPost_ret (v := .agg #[.int .i64 2, .int .i64 (-1)]) (by simp only [results, Tryd.results22]; go_simp) rfl ⟨rfl, ?_⟩
    exact (B3.setCell (Nat.le_refl _) _).setCell (Nat.le_refl _) _
  · have hc : codeFault l = faultFrom l 0 l := if_neg hlen
    have hi : ¬ 2000 < (l.length : Int) := by omega
    rw [hc]
    clear hc
    go_enter Tryd.func22, Tryd.ntmps22
    go_wp2_with fail
    clear hw
    go_loopw [3] (fun i wr => Hid (Below w1.heap.size w1 wr) ∧ ∃ j : Nat, j ≤ l.length ∧ i = .int .i64 j ∧ Hid (∀ k y, k < j → l[k]? = some y → insFault l k y = 0)) (fun i _ => l.length - (intOf i).toNat)
    case atStart => exact ⟨Below.refl _ _, 0, Nat.zero_le _, rfl, fun k y h => absurd h (Nat.not_lt_zero _)⟩
    case round =>
      obtain ⟨HB, j, hj, rfl, HJ⟩ := hrel
      by_cases hlt : j < l.length
      · obtain ⟨x, hx⟩ : ∃ x, l[j]? = some x := ⟨_, List.getElem?_eq_getElem hlt⟩
        have HR := hide (insAt_below (insAt_below HL.out hba) HB.out)
        obtain ⟨b, off, rfl, a0, a1, a2, a3, a4⟩ := HR.out j x hx
        have ji : (j : Int) < l.length := by omega
        have HY : Hid (insFault l j x = 0 → ∀ k y, k < j + 1 → l[k]? = some y → insFault l k y = 0) := fun h k y hk hy => by
          by_cases e : k = j
          · subst e; rw [hx] at hy; cases hy; exact h
          · exact HJ.out k y (by omega) hy
        have HX : Hid (insFault l j x ≠ 0 → faultFrom l 0 l = (insFault l j x, (j : Int))) := fun h => by
          have := faultFrom_hit l l 0 j x hx (by simpa using h) (fun k y hk hy => by simpa using HJ.out k y hk hy)
          simpa using this
        clear HJ hx
        go_wp2_with fail
        refine (instr_any x _).mono ?_
        rintro e2 w2 ⟨rfl, hb2⟩
        have HB2 : Hid (Below w1.heap.size w1 w2) := below_step HB.out hb2
        have HR2 := hide (insAt_below HR.out hb2)
        replace a0 := keep_cell hb2 a0
        replace a4 := keep_cell hb2 a4
        clear HB HR hb2 a1 a2 a3
        by_cases he : insErr x = 0
        · rw [he]
          rw [show ((0 : Nat) : Int) = 0 from rfl]
          have hlen6 : l.length ≤ 1000000 := by omega
          cases k1 : (x.op.toList == [108, 97, 98, 101, 108])
          · cases k2 : (x.to.toList == [])
            · go_wp2_with fail
              refine (labelAt_any _ _ _ _ _ hlen6 HR2.out).mono ?_
              rintro e3 w3 ⟨rfl, rfl⟩
              by_cases hn : labelAt l x.to < 0
              · have HZ : Hid (faultFrom l 0 l = (5, (j : Int))) := by
                  have hv : insFault l j x = 5 := by unfold insFault; rw [if_neg (fun h => h he)]; rw [if_neg (by simp [k1]), if_pos ⟨k2, hn⟩]
                  have := HX.out (by rw [hv]; decide)
                  rwa [hv] at this
                clear HX HY
                have hb3 := HB2.out
                have r0 := keep_cell hb3 z0
                have r1 := keep_cell hb3 z1
                have hzl : w.heap.size < w1.heap.size := World.block_lt_of_cell? _ _ z0
                have x0 : w3.frozen? ⟨w.heap.size, 0, none⟩ = false := by rw [hb3.frozen hzl]; exact y0
                have x1 : w3.frozen? ⟨w.heap.size, 1, none⟩ = false := by rw [hb3.frozen hzl]; exact y1
                have B3 := below_step hba hb3
                clear z0 z1 y0 y1 hb3
                go_wp2_with fail
                refine bodyPost_ret (v := .agg #[.int .i64 5, .int .i64 j]) (by simp only [results, Tryd.results22]; go_simp) rfl ⟨by rw [HZ.out]; rfl, ?_⟩
                exact (B3.setCell (Nat.le_refl _) _).setCell (Nat.le_refl _) _
              · have HZ := hide (HY.out (by unfold insFault; rw [if_neg (fun h => h he)]; rw [if_neg (by simp [k1]), if_neg (fun h => hn h.2)]))
                clear HX HY
                go_wp2_with fail
                go_roundw
                case rel => exact ⟨HB2, j + 1, by omega, by go_num, HZ⟩
                case measure => simp [intOf]; omega
            · have HZ := hide (HY.out (by unfold insFault; rw [if_neg (fun h => h he)]; rw [if_neg (by simp [k1]), if_neg (by simp [k2])]))
              clear HX HY
              go_wp2_with fail
              go_roundw
              case rel => exact ⟨HB2, j + 1, by omega, by go_num, HZ⟩
              case measure => simp [intOf]; omega
          · go_wp2_with fail
            refine (labelAt_any _ _ _ _ _ hlen6 HR2.out).mono ?_
            rintro e3 w3 ⟨rfl, rfl⟩
            by_cases hn : labelAt l x.to = j
            · rw [hn]
              cases k2 : (x.to.toList == [])
              · go_wp2_with fail
                refine (labelAt_any _ _ _ _ _ hlen6 HR2.out).mono ?_
                rintro e3 w4 ⟨rfl, rfl⟩
                rw [hn]
                have hj0 : ¬ (j : Int) < 0 := by omega
                have HZ := hide (HY.out (by unfold insFault; rw [if_neg (fun h => h he)]; rw [if_neg (fun h => h.2 hn), if_neg (fun h => by have := h.2; omega)]))
                clear HX HY
                go_wp2_with fail
                go_roundw
                case rel => exact ⟨HB2, j + 1, by omega, by go_num, HZ⟩
                case measure => simp [intOf]; omega
              · have HZ := hide (HY.out (by unfold insFault; rw [if_neg (fun h => h he)]; rw [if_neg (fun h => h.2 hn), if_neg (by simp [k2])]))
                clear HX HY
                go_wp2_with fail
                go_roundw
                case rel => exact ⟨HB2, j + 1, by omega, by go_num, HZ⟩
                case measure => simp [intOf]; omega
            · have hne : (labelAt l x.to == (j : Int)) = false := beq_eq_false_iff_ne.2 hn
              have HZ : Hid (faultFrom l 0 l = (4, (j : Int))) := by
                have hv : insFault l j x = 4 := by unfold insFault; rw [if_neg (fun h => h he)]; rw [if_pos ⟨k1, hn⟩]
                have := HX.out (by rw [hv]; decide)
                rwa [hv] at this
              clear HX HY
              have hb3 := HB2.out
              have r0 := keep_cell hb3 z0
              have r1 := keep_cell hb3 z1
              have hzl : w.heap.size < w1.heap.size := World.block_lt_of_cell? _ _ z0
              have x0 : w3.frozen? ⟨w.heap.size, 0, none⟩ = false := by rw [hb3.frozen hzl]; exact y0
              have x1 : w3.frozen? ⟨w.heap.size, 1, none⟩ = false := by rw [hb3.frozen hzl]; exact y1
              have B3 := below_step hba hb3
              clear z0 z1 y0 y1 hb3
              go_wp2_with fail
              refine bodyPost_ret (v := .agg #[.int .i64 4, .int .i64 j]) (by simp only [results, Tryd.results22]; go_simp) rfl ⟨by rw [HZ.out]; rfl, ?_⟩
              exact (B3.setCell (Nat.le_refl _) _).setCell (Nat.le_refl _) _
        · have HZ : Hid (faultFrom l 0 l = (insErr x, (j : Int))) := by
            have hv : insFault l j x = insErr x := by unfold insFault; rw [if_pos he]
            have := HX.out (by rw [hv]; exact he)
            rwa [hv] at this
          clear HX HY
          have hb3 := HB2.out
          have r0 := keep_cell hb3 z0
          have r1 := keep_cell hb3 z1
          have hzl : w.heap.size < w1.heap.size := World.block_lt_of_cell? _ _ z0
          have x0 : w2.frozen? ⟨w.heap.size, 0, none⟩ = false := by rw [hb3.frozen hzl]; exact y0
          have x1 : w2.frozen? ⟨w.heap.size, 1, none⟩ = false := by rw [hb3.frozen hzl]; exact y1
          have B3 := below_step hba hb3
          have he0 : 0 < (insErr x : Int) := by omega
          clear z0 z1 y0 y1 hb3
          generalize insErr x = n at *
          go_wp2_with fail
          refine bodyPost_ret (v := .agg #[.int .i64 n, .int .i64 j]) (by simp only [results, Tryd.results22]; go_simp) rfl ⟨by rw [HZ.out], ?_⟩
          exact (B3.setCell (Nat.le_refl _) _).setCell (Nat.le_refl _) _
      · have HZ : Hid (faultFrom l 0 l = (0, -1)) := faultFrom_at l l 0 (fun k y hy => by simpa using HJ.out k y (by have := (List.getElem?_eq_some_iff.1 hy).1; omega) hy)
        obtain rfl : j = l.length := by omega
        clear HJ
        go_wp2_with fail
        refine (fine_any _).mono ?_
        rintro e w2 ⟨rfl, hb2⟩
        have hb3 : Below w1.heap.size w1 w2 := below_step HB.out hb2
        have r0 := keep_cell hb3 z0
        have r1 := keep_cell hb3 z1
        have hzl : w.heap.size < w1.heap.size := World.block_lt_of_cell? _ _ z0
        have x0 : w2.frozen? ⟨w.heap.size, 0, none⟩ = false := by rw [hb3.frozen hzl]; exact y0
        have x1 : w2.frozen? ⟨w.heap.size, 1, none⟩ = false := by rw [hb3.frozen hzl]; exact y1
        have B3 := below_step hba hb3
        clear z0 z1 y0 y1 hb3 hb2 HB
        go_wp2_with fail
        refine bodyPost_ret (v := .agg #[.int .i64 0, .int .i64 (-1)]) (by simp only [results, Tryd.results22]; go_simp) rfl ⟨by rw [HZ.out]; rfl, ?_⟩
        exact (B3.setCell (Nat.le_refl _) _).setCell (Nat.le_refl _) _

end Go.Proofs.YtmeohblomighpaaDoorR
