import Derived.Test.YtepgcgokolmedaaDoorA16
import Derived.Laws.IdiomStrings
import Derived.Test.YtepgcgokolmedaaDoorA23
import Derived.Test.YtepgcgokolmedaaDoorA25

/- CodeE -/
namespace Go.Proofs.YtepgcgokolmedaaDoor
open Go.RowKit Go.Extern.Stop Go.Stop Go.Extern
theorem rbare_any (k : Int) (w : World) : Calls Tryd.prog 24 #[.int .i64 k] w fun e w' => e = .returned (.agg #[.int .i64 k, .int .i64 (-1)]) ∧ Below w.heap.size w w' := by
  go_enter Tryd.func24, Tryd.ntmps24
  go_wp2
  refine bodyPost_ret (v := .agg #[.int .i64 k, .int .i64 (-1)]) (by simp only [results, Tryd.results24]; go_simp) rfl ⟨rfl, ?_⟩
  exact (Below.refl _ _).alloc (Nat.le_refl _) _
theorem fine_any (w : World) : Calls Tryd.prog 26 #[] w fun e w' => e = .returned (.agg #[.int .i64 0, .int .i64 (-1)]) ∧ Below w.heap.size w w' := by
  go_enter Tryd.func26, Tryd.ntmps26
  go_wp2
  refine bodyPost_ret (v := .agg #[.int .i64 0, .int .i64 (-1)]) (by simp only [results, Tryd.results26]; go_simp) rfl ⟨rfl, ?_⟩
  exact (Below.refl _ _).alloc (Nat.le_refl _) _

set_option maxRecDepth 20000 in
set_option maxHeartbeats 2000000 in
theorem codeFault_any (ad : Option Addr) (cap : Nat) (l : List Ins) (w : World) (hl : insAt ad l w) :
    Calls Tryd.prog 22 #[.slice ad l.length cap] w fun e w' => e = .returned (.agg #[.int .i64 (codeFault l).1, .int .i64 (codeFault l).2]) ∧ Below w.heap.size w w' := by
  have HL := hide hl
  clear hl
  have hba : Below w.heap.size w (w.alloc (.cells #[.int .i64 0, .int .i64 0] 44)) := (Below.refl _ _).alloc (Nat.le_refl _) _
  have z0 : (w.alloc (.cells #[.int .i64 0, .int .i64 0] 44)).cell? ⟨w.heap.size, 0, none⟩ = some (.int .i64 0) := by simp
  have z1 : (w.alloc (.cells #[.int .i64 0, .int .i64 0] 44)).cell? ⟨w.heap.size, 1, none⟩ = some (.int .i64 0) := by simp
  have y0 : (w.alloc (.cells #[.int .i64 0, .int .i64 0] 44)).frozen? ⟨w.heap.size, 0, none⟩ = false := by simp
  have y1 : (w.alloc (.cells #[.int .i64 0, .int .i64 0] 44)).frozen? ⟨w.heap.size, 1, none⟩ = false := by simp
  generalize hw : w.alloc (.cells #[.int .i64 0, .int .i64 0] 44) = w1 at *
  by_cases hlen : 2000 < l.length
  · have hc : codeFault l = (2, -1) := if_pos hlen
    have hi : 2000 < (l.length : Int) := by omega
    rw [hc]
    clear hc
    go_enter Tryd.func22, Tryd.ntmps22
    go_wp2_with fail
    refine (rbare_any _ _).mono ?_
    rintro e w2 ⟨rfl, hb3⟩
    clear hw
    have r0 := keep_cell hb3 z0
    have r1 := keep_cell hb3 z1
    have hzl : w.heap.size < w1.heap.size := World.block_lt_of_cell? _ _ z0
    have x0 : w2.frozen? ⟨w.heap.size, 0, none⟩ = false := by rw [hb3.frozen hzl]; exact y0
    have x1 : w2.frozen? ⟨w.heap.size, 1, none⟩ = false := by rw [hb3.frozen hzl]; exact y1
    have B3 := below_step hba hb3
    clear z0 z1 y0 y1 hb3
    go_wp2_with fail
    refine bodyPost_ret (v := .agg #[.int .i64 2, .int .i64 (-1)]) (by simp only [results, Tryd.results22]; go_simp) rfl ⟨rfl, ?_⟩
    exact (B3.setCell (Nat.le_refl _) _).setCell (Nat.le_refl _) _
  · have hc : codeFault l = faultFrom l 0 l := if_neg hlen
    have hi : ¬ 2000 < (l.length : Int) := by omega
    rw [hc]
    clear hc
    go_enter Tryd.func22, Tryd.ntmps22
    go_wp2_with fail
    clear hw
    go_loopw [3] (fun i wr => Hid (Below w1.heap.size w1 wr) ∧ ∃ j : Nat, j ≤ l.length ∧ i = .int .i64 j ∧ Hid (∀ k y, k < j → l[k]? = some y → insFault l k y = 0)) (fun i _ => l.length - (intOf i).toNat)
    case atStart => exact ⟨Below.refl _ _, 0, Nat.zero_le _, rfl, fun k y h => absurd h (Nat.not_lt_zero _)⟩
    case round =>
      obtain ⟨HB, j, hj, rfl, HJ⟩ := hrel
      by_cases hlt : j < l.length
      · obtain ⟨x, hx⟩ : ∃ x, l[j]? = some x := ⟨_, List.getElem?_eq_getElem hlt⟩
        have HR := hide (insAt_below (insAt_below HL.out hba) HB.out)
        obtain ⟨b, off, rfl, a0, a1, a2, a3, a4⟩ := HR.out j x hx
        have ji : (j : Int) < l.length := by omega
        have HY : Hid (insFault l j x = 0 → ∀ k y, k < j + 1 → l[k]? = some y → insFault l k y = 0) := fun h k y hk hy => by
          by_cases e : k = j
          · subst e; rw [hx] at hy; cases hy; exact h
          · exact HJ.out k y (by omega) hy
        have HX : Hid (insFault l j x ≠ 0 → faultFrom l 0 l = (insFault l j x, (j : Int))) := fun h => by
          have := faultFrom_hit l l 0 j x hx (by simpa using h) (fun k y hk hy => by simpa using HJ.out k y hk hy)
          simpa using this
        clear HJ hx
        go_wp2_with fail
        refine (instr_any x _).mono ?_
        rintro e2 w2 ⟨rfl, hb2⟩
        have HB2 : Hid (Below w1.heap.size w1 w2) := below_step HB.out hb2
        have HR2 := hide (insAt_below HR.out hb2)
        replace a0 := keep_cell hb2 a0
        replace a4 := keep_cell hb2 a4
        clear HB HR hb2 a1 a2 a3
        by_cases he : insErr x = 0
        · rw [he]
          rw [show ((0 : Nat) : Int) = 0 from rfl]
          have hlen6 : l.length ≤ 1000000 := by omega
          cases k1 : (x.op.toList == [108, 97, 98, 101, 108])
          · cases k2 : (x.to.toList == [])
            · go_wp2_with fail
              refine (labelAt_any _ _ _ _ _ hlen6 HR2.out).mono ?_
              rintro e3 w3 ⟨rfl, rfl⟩
              by_cases hn : labelAt l x.to < 0
              · have HZ : Hid (faultFrom l 0 l = (5, (j : Int))) := by
                  have hv : insFault l j x = 5 := by unfold insFault; rw [if_neg (fun h => h he)]; rw [if_neg (by simp [k1]), if_pos ⟨k2, hn⟩]
                  have := HX.out (by rw [hv]; decide)
                  rwa [hv] at this
                clear HX HY
                have hb3 := HB2.out
                have r0 := keep_cell hb3 z0
                have r1 := keep_cell hb3 z1
                have hzl : w.heap.size < w1.heap.size := World.block_lt_of_cell? _ _ z0
                have x0 : w3.frozen? ⟨w.heap.size, 0, none⟩ = false := by rw [hb3.frozen hzl]; exact y0
                have x1 : w3.frozen? ⟨w.heap.size, 1, none⟩ = false := by rw [hb3.frozen hzl]; exact y1
                have B3 := below_step hba hb3
                clear z0 z1 y0 y1 hb3
                go_wp2_with fail
                refine bodyPost_ret (v := .agg #[.int .i64 5, .int .i64 j]) (by simp only [results, Tryd.results22]; go_simp) rfl ⟨by rw [HZ.out]; rfl, ?_⟩
                exact (B3.setCell (Nat.le_refl _) _).setCell (Nat.le_refl _) _
              · have HZ := hide (HY.out (by unfold insFault; rw [if_neg (fun h => h he)]; rw [if_neg (by simp [k1]), if_neg (fun h => hn h.2)]))
                clear HX HY
                go_wp2_with fail
                go_roundw
                case rel => exact ⟨HB2, j + 1, by omega, by go_num, HZ⟩
                case measure => simp [intOf]; omega
            · have HZ := hide (HY.out (by unfold insFault; rw [if_neg (fun h => h he)]; rw [if_neg (by simp [k1]), if_neg (by simp [k2])]))
              clear HX HY
              go_wp2_with fail
              go_roundw
              case rel => exact ⟨HB2, j + 1, by omega, by go_num, HZ⟩
              case measure => simp [intOf]; omega
          · go_wp2_with fail
            refine (labelAt_any _ _ _ _ _ hlen6 HR2.out).mono ?_
            rintro e3 w3 ⟨rfl, rfl⟩
            by_cases hn : labelAt l x.to = j
            · rw [hn]
              cases k2 : (x.to.toList == [])
              · go_wp2_with fail
                refine (labelAt_any _ _ _ _ _ hlen6 HR2.out).mono ?_
                rintro e3 w4 ⟨rfl, rfl⟩
                rw [hn]
                have hj0 : ¬ (j : Int) < 0 := by omega
                have HZ := hide (HY.out (by unfold insFault; rw [if_neg (fun h => h he)]; rw [if_neg (fun h => h.2 hn), if_neg (fun h => by have := h.2; omega)]))
                clear HX HY
                go_wp2_with fail
                go_roundw
                case rel => exact ⟨HB2, j + 1, by omega, by go_num, HZ⟩
                case measure => simp [intOf]; omega
              · have HZ := hide (HY.out (by unfold insFault; rw [if_neg (fun h => h he)]; rw [if_neg (fun h => h.2 hn), if_neg (by simp [k2])]))
                clear HX HY
                go_wp2_with fail
                go_roundw
                case rel => exact ⟨HB2, j + 1, by omega, by go_num, HZ⟩
                case measure => simp [intOf]; omega
            · have hne : (labelAt l x.to == (j : Int)) = false := beq_eq_false_iff_ne.2 hn
              have HZ : Hid (faultFrom l 0 l = (4, (j : Int))) := by
                have hv : insFault l j x = 4 := by unfold insFault; rw [if_neg (fun h => h he)]; rw [if_pos ⟨k1, hn⟩]
                have := HX.out (by rw [hv]; decide)
                rwa [hv] at this
              clear HX HY
              have hb3 := HB2.out
              have r0 := keep_cell hb3 z0
              have r1 := keep_cell hb3 z1
              have hzl : w.heap.size < w1.heap.size := World.block_lt_of_cell? _ _ z0
              have x0 : w3.frozen? ⟨w.heap.size, 0, none⟩ = false := by rw [hb3.frozen hzl]; exact y0
              have x1 : w3.frozen? ⟨w.heap.size, 1, none⟩ = false := by rw [hb3.frozen hzl]; exact y1
              have B3 := below_step hba hb3
              clear z0 z1 y0 y1 hb3
              go_wp2_with fail
              refine bodyPost_ret (v := .agg #[.int .i64 4, .int .i64 j]) (by simp only [results, Tryd.results22]; go_simp) rfl ⟨by rw [HZ.out]; rfl, ?_⟩
              exact (B3.setCell (Nat.le_refl _) _).setCell (Nat.le_refl _) _
        · have HZ : Hid (faultFrom l 0 l = (insErr x, (j : Int))) := by
            have hv : insFault l j x = insErr x := by unfold insFault; rw [if_pos he]
            have := HX.out (by rw [hv]; exact he)
            rwa [hv] at this
          clear HX HY
          have hb3 := HB2.out
          have r0 := keep_cell hb3 z0
          have r1 := keep_cell hb3 z1
          have hzl : w.heap.size < w1.heap.size := World.block_lt_of_cell? _ _ z0
          have x0 : w2.frozen? ⟨w.heap.size, 0, none⟩ = false := by rw [hb3.frozen hzl]; exact y0
          have x1 : w2.frozen? ⟨w.heap.size, 1, none⟩ = false := by rw [hb3.frozen hzl]; exact y1
          have B3 := below_step hba hb3
          have he0 : 0 < (insErr x : Int) := by omega
          clear z0 z1 y0 y1 hb3
          generalize insErr x = n at *
          go_wp2_with fail
          refine bodyPost_ret (v := .agg #[.int .i64 n, .int .i64 j]) (by simp only [results, Tryd.results22]; go_simp) rfl ⟨by rw [HZ.out], ?_⟩
          exact (B3.setCell (Nat.le_refl _) _).setCell (Nat.le_refl _) _
      · have HZ : Hid (faultFrom l 0 l = (0, -1)) := faultFrom_at l l 0 (fun k y hy => by simpa using HJ.out k y (by have := (List.getElem?_eq_some_iff.1 hy).1; omega) hy)
        obtain rfl : j = l.length := by omega
        clear HJ
        go_wp2_with fail
        refine (fine_any _).mono ?_
        rintro e w2 ⟨rfl, hb2⟩
        have hb3 : Below w1.heap.size w1 w2 := below_step HB.out hb2
        have r0 := keep_cell hb3 z0
        have r1 := keep_cell hb3 z1
        have hzl : w.heap.size < w1.heap.size := World.block_lt_of_cell? _ _ z0
        have x0 : w2.frozen? ⟨w.heap.size, 0, none⟩ = false := by rw [hb3.frozen hzl]; exact y0
        have x1 : w2.frozen? ⟨w.heap.size, 1, none⟩ = false := by rw [hb3.frozen hzl]; exact y1
        have B3 := below_step hba hb3
        clear z0 z1 y0 y1 hb3 hb2 HB
        go_wp2_with fail
        refine bodyPost_ret (v := .agg #[.int .i64 0, .int .i64 (-1)]) (by simp only [results, Tryd.results22]; go_simp) rfl ⟨by rw [HZ.out]; rfl, ?_⟩
        exact (B3.setCell (Nat.le_refl _) _).setCell (Nat.le_refl _) _

end Go.Proofs.YtepgcgokolmedaaDoor

/- CodeF -/
namespace Go.Proofs.YtepgcgokolmedaaDoor
open Go.RowKit Go.Extern.Stop Go.Stop Go.Extern
set_option maxRecDepth 20000 in
theorem byte_any (k : Nat) (hk : k < 256) (w : World) : Calls Tryd.prog 56 #[.int .i64 k] w fun e w' => e = .returned (.string (oneByte k)) ∧ Below w.heap.size w w' := by
  have k0 : 0 ≤ (k : Int) := by omega
  have k1 : (k : Int) < 256 := by omega
  have hcv : (convert 125 9 (.slice (some ⟨w.heap.size, 0, none⟩) 1 1)).run Tryd.prog (w.alloc (.cells #[.int .u8 k] 5)) = .ok (.string (oneByte k)) (w.alloc (.cells #[.int .u8 k] 5)) :=
    run_convert_bytes_back (P := Tryd.prog) (w.alloc (.cells #[.int .u8 k] 5)) 125 9 5 ⟨w.heap.size, 0, none⟩ 1 [UInt8.ofNat k] Tryd.underlying125 Tryd.underlying5 Tryd.underlying9 (fun j hj => by
      obtain rfl : j = 0 := by simpa using hj
      have : (UInt8.ofNat k).toNat = k := by simp; omega
      simp [this, Addr.add])
  go_enter Tryd.func56, Tryd.ntmps56
  go_wp2_with fail
  go_ret
  exact ⟨rfl, (Below.refl _ _).alloc (Nat.le_refl _) _⟩

set_option maxRecDepth 20000 in
theorem below_any : ∀ (m : Nat), m < 9223372036854775808 → ∀ (w : World), Calls Tryd.prog 38 #[.int .i64 (-(m : Int))] w fun e w' => e = .returned (.string (digits m)) ∧ Below w.heap.size w w' := by
  intro m
  induction m using Nat.strongRecOn with
  | _ m ih =>
    intro hm w
    by_cases h10 : m < 10
    · have hd : digits m = oneByte (48 + m) := by unfold digits; rw [if_pos h10]
      have h1 : -10 < -(m : Int) := by omega
      rw [hd]
      go_enter Tryd.func38, Tryd.ntmps38
      go_wp2_with fail
      have hB := byte_any (48 + m) (by omega) w
      rw [show ((48 + m : Nat) : Int) = 48 + (m : Int) by omega] at hB
      refine hB.mono ?_
      rintro e w1 ⟨rfl, hb⟩
      clear hB
      go_wp2_with fail
      go_ret
      exact ⟨rfl, hb⟩
    · have hd : digits m = digits (m / 10) ++ oneByte (48 + m % 10) := by rw [digits, if_neg h10]
      have h1 : ¬ -10 < -(m : Int) := by omega
      have hq : (-(m : Int)).tdiv 10 = -((m / 10 : Nat) : Int) := by rw [Int.neg_tdiv, Int.tdiv_eq_ediv_of_nonneg (by omega)]; omega
      have hr : (-(m : Int)).tmod 10 = -((m % 10 : Nat) : Int) := by rw [Int.neg_tmod, Int.tmod_eq_emod_of_nonneg (by omega)]; omega
      rw [hd]
      go_enter Tryd.func38, Tryd.ntmps38
      go_wp2_with fail
      have hI := ih (m / 10) (by omega) (by omega) w
      rw [show ((m / 10 : Nat) : Int) = (m : Int) / 10 by omega] at hI
      refine hI.mono ?_
      rintro e w1 ⟨rfl, hb⟩
      clear hI ih
      go_wp2_with fail
      have hsz : (digits (m / 10)).size + (oneByte (48 + m % 10)).size ≤ 9223372036854775807 := by
        have := digits_size (m / 10)
        have h1 : (oneByte (48 + m % 10)).size = 1 := rfl
        omega
      have hB := byte_any (48 + m % 10) (by omega) w1
      rw [show ((48 + m % 10 : Nat) : Int) = 48 + (m : Int) % 10 by omega] at hB
      refine hB.mono ?_
      rintro e w2 ⟨rfl, hb2⟩
      clear hB
      go_wp2_with fail
      go_ret
      exact ⟨rfl, below_step hb hb2⟩

set_option maxRecDepth 20000 in
theorem decimal_any (n : Int) (h1 : -9223372036854775808 < n) (h2 : n < 9223372036854775808) (w : World) : Calls Tryd.prog 23 #[.int .i64 n] w fun e w' => e = .returned (.string (decimal n)) ∧ Below w.heap.size w w' := by
  have hI := below_any n.natAbs (by omega) w
  by_cases h0 : n < 0
  · have hd : decimal n = ⟨#[45]⟩ ++ digits n.natAbs := if_pos h0
    rw [hd]
    rw [show -((n.natAbs : Nat) : Int) = n by omega] at hI
    have hsz := digits_size n.natAbs
    have hsz : 1 + (digits n.natAbs).size ≤ 9223372036854775807 := by omega
    generalize digits n.natAbs = s at *
    go_enter Tryd.func23, Tryd.ntmps23
    go_wp2_with fail
    refine hI.mono ?_
    rintro e w1 ⟨rfl, hb⟩
    clear hI
    go_wp2_with fail
    go_ret
    exact ⟨rfl, hb⟩
  · have hd : decimal n = digits n.natAbs := if_neg h0
    rw [hd]
    rw [show -((n.natAbs : Nat) : Int) = -n by omega] at hI
    generalize digits n.natAbs = s at *
    go_enter Tryd.func23, Tryd.ntmps23
    go_wp2_with fail
    refine hI.mono ?_
    rintro e w1 ⟨rfl, hb⟩
    clear hI
    go_wp2_with fail
    go_ret
    exact ⟨rfl, hb⟩

end Go.Proofs.YtepgcgokolmedaaDoor

/- SpG -/
namespace Go.Proofs.YtepgcgokolmedaaDoor
open Go.RowKit Go.Extern.Stop Go.Stop Go.Extern Go.Maps Go.WideMaps Go.Sort

theorem insOwn_kept {w w' : World} {base : Nat} {v : Value} {l : List Ins} {ob : Option Nat} (h : insOwn w base v l) (hg : w.grownBy w' ob) (hne : v.ownBlock = none ∨ v.ownBlock ≠ ob) : insOwn w' base v l := World.ownsRow.kept h hg hne

def spDig (j : Nat) : ByteArray := ⟨#[UInt8.ofNat (48 + j)]⟩
def spK : ByteArray := ⟨#[107]⟩
def spPB (k : Nat) : ByteArray := ⟨#[107, UInt8.ofNat (48 + k), 98]⟩
theorem spDig_a (j : Nat) : spK ++ spDig j ++ (⟨#[97]⟩ : ByteArray) = spPre j := rfl
theorem spDig_b (j : Nat) : spK ++ spDig j ++ (⟨#[98]⟩ : ByteArray) = spPB j := rfl
theorem sp_decimal (j : Nat) (hj : j < 10) : decimal (j : Int) = spDig j := by
  unfold decimal
  rw [if_neg (by omega), show (j : Int).natAbs = j from rfl]
  unfold digits
  rw [if_pos hj]
  rfl
theorem spA_ok (j : Nat) (hj : j < 3) : LockOk (spPre j) 7 0 0 := by
  refine ⟨by decide, by decide, by decide, by decide, nameB_is ?_, ?_⟩
  · rcases (by omega : j = 0 ∨ j = 1 ∨ j = 2) with rfl | rfl | rfl <;> decide +kernel
  · show 3 ≤ 8; decide
theorem spB_ok (j : Nat) (hj : j < 3) : LockOk (spPB j) 7 0 0 := by
  refine ⟨by decide, by decide, by decide, by decide, nameB_is ?_, ?_⟩
  · rcases (by omega : j = 0 ∨ j = 1 ∨ j = 2) with rfl | rfl | rfl <;> decide +kernel
  · show 3 ≤ 8; decide

def mid1 : List Ins := [⟨spLoad, 2, 7, 1, spNo⟩, ⟨spConst, 3, 1, 0, spNo⟩, ⟨⟨#[120, 111, 114]⟩, 4, 2, 3, spNo⟩, ⟨⟨#[110, 101, 101, 100]⟩, 4, 0, 0, spNo⟩]
def mid2 : List Ins := [⟨spStore, 7, 3, 1, spNo⟩, ⟨spLoad, 2, 7, 2, spNo⟩, ⟨⟨#[97, 100, 100]⟩, 2, 2, 3, spNo⟩, ⟨spStore, 7, 2, 2, spNo⟩]
def mid3 : List Ins := [⟨spConst, 4, 0, 0, spNo⟩, ⟨spStore, 7, 4, 1, spNo⟩]
theorem spCode_succ (j : Nat) : spCode j ++ takeCode (spPre j) 7 0 0 ++ mid1 ++ mid2 ++ mid3 ++ giveCode 7 0 0 = spCode (j + 1) := by
  have h : spCode (j + 1) = spCode j ++ (List.range 19).map (spIns j) := by
    unfold spCode
    rw [show 19 * (j + 1) = 19 * j + 19 by omega, List.range_add, List.map_append]
    congr 1
    rw [List.map_map]
    apply List.map_congr_left
    intro p hp
    rw [List.mem_range] at hp
    show spIns ((19 * j + p) / 19) ((19 * j + p) % 19) = _
    rw [show (19 * j + p) / 19 = j by omega, show (19 * j + p) % 19 = p by omega]
  rw [h]
  simp only [List.append_assoc]
  rfl

theorem insOwn_ne {w : World} {base : Nat} {v u : Value} {l : List Ins} (h : insOwn w base v l) (hk : ∀ b, u.ownBlock = some b → b < base) : v.ownBlock = none ∨ v.ownBlock ≠ u.ownBlock := by
  cases hv : v.ownBlock with
  | none => exact .inl rfl
  | some b =>
    refine .inr fun e => ?_
    have h1 := (World.ownsRow.lt h b hv).1
    have h3 := hk b e.symm
    omega

theorem insOwn_sep {w : World} {b : Nat} {u v v' : Value} {k : List Ins} (h : insOwn w b u k) (hne : u.ownBlock = none ∨ u.ownBlock ≠ v.ownBlock) {N : Nat} (hN : w.heap.size ≤ N) (hloc : v'.ownBlock = v.ownBlock ∨ v'.ownBlock = some N) : u.ownBlock = none ∨ u.ownBlock ≠ v'.ownBlock := by
  rcases hloc with e | e
  · rw [e]; exact hne
  · cases hu : u.ownBlock with
    | none => exact .inl rfl
    | some c =>
      refine .inr fun e2 => ?_
      have h1 := (World.ownsRow.lt h c hu).2
      rw [e] at e2
      have := Option.some.inj e2
      omega

set_option maxRecDepth 20000 in
set_option maxHeartbeats 4000000 in
theorem critical_any (n : Nat) (hn : n ≤ 3) (w : World) :
    Calls Tryd.prog 13 #[.int .i64 n] w fun e w' => ∃ v, e = .returned (.tuple #[v, .bool true]) ∧ insOwn w' w.heap.size v (spCode n) ∧ Below w.heap.size w w' := by
  go_enter Tryd.func13, Tryd.ntmps13
  go_wp2_with fail
  go_loopw [4, 5, 6, 7, 8, 9, 10] (fun l i _ _ _ _ _ wr => ∃ j : Nat, j ≤ n ∧ i = .int .i64 j ∧ Hid (insOwn wr w.heap.size l (spCode j)) ∧ Below w.heap.size w wr) (fun _ i _ _ _ _ _ _ => n - (intOf i).toNat)
  case atStart => exact ⟨0, Nat.zero_le _, rfl, insOwn_nil _ _, Below.refl _ _⟩
  case round =>
    obtain ⟨j, hj, rfl, HO, HB⟩ := hrel
    by_cases hlt : j < n
    · have ji : (j : Int) < n := by omega
      have HD : Hid (Calls Tryd.prog 23 #[.int .i64 j] wr fun e w' => e = .returned (.string (spDig j)) ∧ Below wr.heap.size wr w') := by
        have := decimal_any j (by omega) (by omega) wr
        rwa [sp_decimal j (by omega)] at this
      have HT : Hid (∀ w, Calls Tryd.prog 6 #[.string (spK ++ spDig j ++ (⟨#[97]⟩ : ByteArray)), .int .i64 7, .int .i64 0, .int .i64 0] w fun e w' => ∃ v, e = .returned (.tuple #[v, .nilIface]) ∧ insOwn w' w.heap.size v (takeCode (spPre j) 7 0 0) ∧ Below w.heap.size w w') := fun w => by rw [spDig_a]; exact take_ok (spA_ok j (by omega)) w
      have HG : Hid (∀ w, Calls Tryd.prog 7 #[.string (spK ++ spDig j ++ (⟨#[98]⟩ : ByteArray)), .int .i64 7, .int .i64 0, .int .i64 0] w fun e w' => ∃ v, e = .returned (.tuple #[v, .nilIface]) ∧ insOwn w' w.heap.size v (giveCode 7 0 0) ∧ Below w.heap.size w w') := fun w => by rw [spDig_b]; exact give_ok (spB_ok j (by omega)) w
      have z1 : 1 + (spDig j).size ≤ 9223372036854775807 := by show 1 + 1 ≤ _; omega
      have z3 : 1 + (spDig j).size + 1 ≤ 9223372036854775807 := by show 1 + 1 + 1 ≤ _; omega
      have HS := hide (spCode_succ j)
      have hcl : (spCode j).length ≤ 57 := by rw [spCode_length]; omega
      generalize hD : spDig j = D at *
      clear hD
      go_wp2_with fail
      refine HD.out.mono ?_
      rintro e w1 ⟨rfl, hb1⟩
      have HO1 := hide (insOwn_keep HO.out hb1)
      have HB1 := below_step HB hb1
      clear HO HB hb1 HD
      go_wp2_with fail
      refine (HT.out _).mono ?_
      rintro e w2 ⟨va, rfl, ha, hb2⟩
      have HO2 := hide (insOwn_keep HO1.out hb2)
      have HB2 := below_step HB1 hb2
      have HNA := hide (insOwn_ne ha (fun b e => (World.ownsRow.lt HO1.out b e).2))
      have HA := hide ha
      have ho2 := fun b e => (World.ownsRow.lt HO2.out b e).2
      have ha2 := fun b e => (World.ownsRow.lt ha b e).2
      clear HO1 HB1 hb2 HT ha
      go_wp2_with fail
      refine (HG.out _).mono ?_
      rintro e w3 ⟨vb, rfl, hg, hb3⟩
      have HO3 := hide (insOwn_keep HO2.out hb3)
      have HA3 := hide (insOwn_keep HA.out hb3)
      have HB3 := below_step HB2 hb3
      have HNB := hide (insOwn_ne hg ho2)
      have HG3 := hide hg
      have hs3 := hb3.size
      clear HO2 HB2 hb3 HG hg HA
      obtain ⟨aa, ca, rfl, hia⟩ := insOwn_open HA3.out (show 0 < 7 by decide)
      have HIA := hide hia
      clear hia HA3 HNA ha2
      go_wp2_with (at_builtin; refine wpList_append_ins _ rfl _ _ rfl w.heap.size (spCode j) (takeCode (spPre j) 7 0 0) _ _ _ rfl ?q1 rfl ?q2 (Nat.succ_pos _) ?q3 ?q4 ?_)
      case q1 => exact HO3.out
      case q2 => exact HIA.out
      case q3 => show _ + 7 ≤ 2000; omega
      case q4 => exact HB3.size
      intro v4 w4 ho4 hb4 hs4 hgr4 hloc4
      have HO4 := hide ho4
      have HB4 := HB3.trans hb4
      have HG4 := hide (insOwn_kept HG3.out hgr4 HNB.out)
      have HN4 := hide (insOwn_sep HG3.out HNB.out (Nat.le_refl _) hloc4)
      clear ho4 hb4 hs4 hgr4 hloc4 HO3 HB3 HG3 HNB HIA hs3 ho2
      go_wp2_with (at_builtin; refine wpList_append_ins _ rfl _ _ rfl w.heap.size (spCode j ++ takeCode (spPre j) 7 0 0) [⟨spLoad, 2, 7, 1, spNo⟩, ⟨spConst, 3, 1, 0, spNo⟩, ⟨⟨#[120, 111, 114]⟩, 4, 2, 3, spNo⟩, ⟨⟨#[110, 101, 101, 100]⟩, 4, 0, 0, spNo⟩] _ _ _ rfl ?q1 rfl ?q2 (Nat.succ_pos _) ?q3 ?q4 ?_)
      case q1 => exact insOwn_keep HO4.out ((Below.refl _ _).alloc (Nat.le_refl _) _)
      case q2 => exact insAt_new rfl
      case q3 => simp only [List.length_append]; show _ + 7 + 4 ≤ 2000; omega
      case q4 => have := HB4.size; simp; omega
      intro v5 w5 ho5 hb5 hs5 hgr5 hloc5
      have HO5 : Hid (insOwn w5 w.heap.size v5 (spCode j ++ takeCode (spPre j) 7 0 0 ++ mid1)) := hide (by simp only [List.append_assoc] at ho5 ⊢; exact ho5)
      have HB5 := (HB4.alloc HB4.size _).trans hb5
      have HG5 := hide (insOwn_kept (by exact insOwn_keep HG4.out ((Below.refl _ w4).alloc (Nat.le_refl _) _)) hgr5 HN4.out)
      have HN5 := hide (insOwn_sep HG4.out HN4.out (Nat.le_succ _) hloc5)
      clear ho5 hb5 hs5 hgr5 hloc5 HO4 HB4 HG4 HN4
      go_wp2_with (at_builtin; refine wpList_append_ins _ rfl _ _ rfl w.heap.size (spCode j ++ takeCode (spPre j) 7 0 0 ++ mid1) [⟨spStore, 7, 3, 1, spNo⟩, ⟨spLoad, 2, 7, 2, spNo⟩, ⟨⟨#[97, 100, 100]⟩, 2, 2, 3, spNo⟩, ⟨spStore, 7, 2, 2, spNo⟩] _ _ _ rfl ?q1 rfl ?q2 (Nat.succ_pos _) ?q3 ?q4 ?_)
      case q1 => exact insOwn_keep HO5.out ((Below.refl _ _).alloc (Nat.le_refl _) _)
      case q2 => exact insAt_new rfl
      case q3 => simp only [List.length_append]; show _ + 7 + 4 + 4 ≤ 2000; omega
      case q4 => have := HB5.size; simp; omega
      intro v6 w6 ho6 hb6 hs6 hgr6 hloc6
      have HO6 : Hid (insOwn w6 w.heap.size v6 (spCode j ++ takeCode (spPre j) 7 0 0 ++ mid1 ++ mid2)) := hide (by simp only [List.append_assoc] at ho6 ⊢; exact ho6)
      have HB6 := (HB5.alloc HB5.size _).trans hb6
      have HG6 := hide (insOwn_kept (by exact insOwn_keep HG5.out ((Below.refl _ w5).alloc (Nat.le_refl _) _)) hgr6 HN5.out)
      have HN6 := hide (insOwn_sep HG5.out HN5.out (Nat.le_succ _) hloc6)
      clear ho6 hb6 hs6 hgr6 hloc6 HO5 HB5 HG5 HN5
      go_wp2_with (at_builtin; refine wpList_append_ins _ rfl _ _ rfl w.heap.size (spCode j ++ takeCode (spPre j) 7 0 0 ++ mid1 ++ mid2) [⟨spConst, 4, 0, 0, spNo⟩, ⟨spStore, 7, 4, 1, spNo⟩] _ _ _ rfl ?q1 rfl ?q2 (Nat.succ_pos _) ?q3 ?q4 ?_)
      case q1 => exact insOwn_keep HO6.out ((Below.refl _ _).alloc (Nat.le_refl _) _)
      case q2 => exact insAt_new rfl
      case q3 => simp only [List.length_append]; show _ + 7 + 4 + 4 + 2 ≤ 2000; omega
      case q4 => have := HB6.size; simp; omega
      intro v7 w7 ho7 hb7 hs7 hgr7 hloc7
      have HO7 : Hid (insOwn w7 w.heap.size v7 (spCode j ++ takeCode (spPre j) 7 0 0 ++ mid1 ++ mid2 ++ mid3)) := hide (by simp only [List.append_assoc] at ho7 ⊢; exact ho7)
      have HB7 := (HB6.alloc HB6.size _).trans hb7
      have HG7 := hide (insOwn_kept (by exact insOwn_keep HG6.out ((Below.refl _ w6).alloc (Nat.le_refl _) _)) hgr7 HN6.out)
      have HN7 := hide (insOwn_sep HG6.out HN6.out (Nat.le_succ _) hloc7)
      clear ho7 hb7 hs7 hgr7 hloc7 HO6 HB6 HG6 HN6
      obtain ⟨ab, cb, rfl, hib⟩ := insOwn_open HG7.out (show 0 < 2 by decide)
      have HIB := hide hib
      clear hib HG7 HN7
      go_wp2_with (at_builtin; refine wpList_append_ins _ rfl _ _ rfl w.heap.size (spCode j ++ takeCode (spPre j) 7 0 0 ++ mid1 ++ mid2 ++ mid3) (giveCode 7 0 0) _ _ _ rfl ?q1 rfl ?q2 (Nat.succ_pos _) ?q3 ?q4 ?_)
      case q1 => exact HO7.out
      case q2 => exact HIB.out
      case q3 => simp only [List.length_append]; show _ + 7 + 4 + 4 + 2 + 2 ≤ 2000; omega
      case q4 => exact HB7.size
      intro v8 w8 ho8 hb8 hs8 hgr8 hloc8
      have HO8 : Hid (insOwn w8 w.heap.size v8 (spCode (j + 1))) := hide (by rw [← HS.out]; simp only [List.append_assoc] at ho8 ⊢; exact ho8)
      have HB8 := HB7.trans hb8
      clear ho8 hb8 hs8 hgr8 hloc8 HO7 HB7 HIB HS
      go_wp2
      go_roundw
      case rel => exact ⟨j + 1, by omega, by go_num, HO8, HB8⟩
      case measure => simp [intOf]; omega
    · obtain rfl : j = n := by omega
      go_wp2
      go_ret2
      exact ⟨_, rfl, HO.out, HB⟩
end Go.Proofs.YtepgcgokolmedaaDoor
