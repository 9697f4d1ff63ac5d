/- The law SpinEnds answers true for all numbers that can be handed in; no condition beside the row's own. -/
import Derived.Test.YtmeohblomighpaaDoorRJ44
import Derived.Test.YtmeohblomighpaaDoorRJ21
import Derived.Test.YtmeohblomighpaaDoorRTie
import Derived.Test.YtmeohblomighpaaDoorRCards
import Derived.Carry
import Derived.SevenTiedAt

/- SpN -/
namespace Go.Proofs.YtmeohblomighpaaDoorR
open Go.RowKit Go.Extern.Stop Go.Stop Go.Extern Go.Maps Go.WideMaps Go.Sort

def EndsRel (cs : List (List Ins)) (p : RkPl) (m : Mk) (w : World) (k : Nat) (wr : World) : Prop := ∃ r v, RkStep cs p m.mem w r v (m.runO cs (numsTo k)).2 wr ∧ RkX cs (p.to r v) (m.runO cs (numsTo k)).2 (1 + k) wr
theorem EndsRel.next {cs : List (List Ins)} {p : RkPl} {m : Mk} {w : World} {k : Nat} {wr w' : World} {r r' : RmPl} {v v' : Value} (h : RkStep cs p m.mem w r v (m.runO cs (numsTo k)).2 wr) (hx : RkX cs (p.to r v) (m.runO cs (numsTo k)).2 (1 + k) wr)
    (k' : RkStep cs (p.to r v) (m.runO cs (numsTo k)).2.mem wr r' v' ((m.runO cs (numsTo k)).2.turnO cs k).2 w') (hk : k ≤ 5000) : EndsRel cs p m w (k + 1) w' := by
  unfold EndsRel
  rw [numsTo_succ, Mk.runO_snoc]
  exact ⟨r', v', h.trans k', hx.of k' (hx.ok.turnO hx.right k (by omega)) (by omega)⟩
theorem Inv.rest {T tm : Nat} {a : AS} {m : Mk} (h : Inv T tm a m) (hp : a.ps = List.replicate T (19 * tm)) : restTo (List.replicate T (spCode tm)) m T = true := by
  unfold restTo
  rw [List.all_eq_true]
  intro u hu
  rw [List.mem_range] at hu
  have hq : a.ps[u]? = some (19 * tm) := by rw [hp, List.getElem?_replicate, if_pos hu]
  have hpc := (h.pc u _ hq).1
  have tc := h.tc u _ hq
  rw [getD_rep _ _ _ _ hu, spDone, hpc, decide_eq_true (Nat.le_refl _), Bool.true_and]
  cases hb : (a.o == some u)
  · rw [hb] at tc
    have hO : Other (19 * tm % 19) (m.regs u) (m.mem.waits u) := tc
    rw [hO.ws]; rfl
  · rw [hb] at tc
    have hM : Mine (19 * tm % 19) (m.regs u) (m.mem.waits u) (m.mem.ar.words 0 1) (m.mem.ar.words 0 2) (rounds a.ps) := tc
    have := hM.at'
    omega

set_option maxRecDepth 20000 in
set_option maxHeartbeats 1000000 in
theorem ends_out (T tm : Int) (w : World) (h : ¬ (1 ≤ T ∧ T ≤ 3 ∧ 1 ≤ tm ∧ tm ≤ 2)) :
    Calls Tryd.prog 4 #[.int .i64 T, .int .i64 tm] w fun e w' => e = .returned (.bool true) ∧ Below w.heap.size w w' := by
  have HL := hide (locked_any w)
  have hc : T < 1 ∨ ¬ T < 1 ∧ (3 < T ∨ ¬ 3 < T ∧ (tm < 1 ∨ ¬ tm < 1 ∧ 2 < tm)) := by omega
  clear h
  go_enter Tryd.func4, Tryd.ntmps4
  go_wp2_with fail
  refine HL.out.mono ?_
  rintro e w1 ⟨rfl, hb⟩
  clear HL
  rcases hc with h1 | ⟨h1, h2 | ⟨h2, h3 | ⟨h3, h4⟩⟩⟩
  all_goals
    go_wp2_with fail
    go_ret
    exact ⟨rfl, hb⟩

set_option maxRecDepth 20000 in
set_option maxHeartbeats 4000000 in
theorem ends_in (T tm : Nat) (w : World) (h1 : 1 ≤ T) (h2 : T ≤ 3) (h3 : 1 ≤ tm) (h4 : tm ≤ 2) :
    Calls Tryd.prog 4 #[.int .i64 T, .int .i64 tm] w fun e w' => e = .returned (.bool true) ∧ Below w.heap.size w w' := by
  have HL := hide (locked_any w)
  have i1 : ¬ (T : Int) < 1 := by omega
  have i2 : ¬ 3 < (T : Int) := by omega
  have i3 : ¬ (tm : Int) < 1 := by omega
  have i4 : ¬ 2 < (tm : Int) := by omega
  have h43 : tm ≤ 3 := Nat.le_trans h4 (by decide)
  go_enter Tryd.func4, Tryd.ntmps4
  go_wp2_with fail
  refine HL.out.mono ?_
  rintro e w1 ⟨rfl, hb⟩
  clear HL
  have HP0 : Hid (∃ vs rv rs, Prep tm 0 0 w (w1.heap.size + 1 + 1 + 1) (w1.heap.size + 1 + 1) (w1.heap.size + 1) (.slice none 0 0) vs rv rs (((w1.alloc (.cells #[] 3)).alloc (.cells #[.slice (some ⟨w1.heap.size, 0, none⟩) 0 0] 36)).alloc (.cells #[.int .i64 1, .slice (some ⟨w1.heap.size + 1, 0, none⟩) 1 1, .slice none 0 0] 39))) := hide (Prep.first hb)
  go_wp2_with fail
  go_loopw [7, 8, 9, 10] (fun v i _ _ wr => ∃ j : Nat, j ≤ T ∧ i = .int .i64 j ∧ Hid (∃ vs rv rs, Prep tm j j w (w1.heap.size + 1 + 1 + 1) (w1.heap.size + 1 + 1) (w1.heap.size + 1) v vs rv rs wr)) (fun _ i _ _ _ => T - (intOf i).toNat)
  case atStart => exact ⟨0, Nat.zero_le _, rfl, HP0⟩
  case round =>
    clear HP0 hb
    obtain ⟨j, hj, rfl, HP⟩ := hrel
    obtain ⟨vs, rv, rs, hP⟩ := HP.out
    by_cases hlt : j < T
    · have ji : (j : Int) < T := by omega
      have HC := hide (critical_any tm h43 wr)
      have HP1 := hide hP
      clear hP HP
      go_wp2_with fail
      refine HC.out.mono ?_
      rintro e w2 ⟨u, rfl, hu, hb2⟩
      obtain ⟨au, cu, hue, -⟩ := insOwn_open hu (by rw [spCode_length]; omega)
      subst hue
      have hP2 := HP1.out.below hb2
      have HU := hide (insOwn_mono hu HP1.out.sz)
      have HNE : Hid (∀ b, (Value.slice (some au) (spCode tm).length cu).ownBlock = some b → u7.ownBlock ≠ some b ∧ rv.ownBlock ≠ some b) := hide (fun b e => by
        have h1 := (World.ownsRow.lt hu b e).1
        exact ⟨fun e2 => by have := (HP1.out.own.lt b e2).2; omega, fun e2 => by have := (HP1.out.ownr.lt b e2).2; omega⟩)
      have HPP := hide hP2
      clear hP2 hb2 HC HP1 hu
      obtain ⟨ric, hric, hrz, hrs, hrb⟩ := codesInfo
      go_wp2_with (at_builtin; refine wpList_append_own_at _ rfl _ _ 40 rfl (w1.heap.size + 1 + 1 + 1) 23 ric (.slice none 0 0) 1 24 Tryd.underlying40 hric hrz hrs hrb rfl (by decide) _ j vs rfl ?q0 ⟨w2.heap.size, 0, none⟩ 1 1 [.slice (some au) (spCode tm).length cu] rfl rfl ?q1 ?q2 ?q3 ?q4 ?q5 ?_)
      case q0 => exact (HPP.out.below ((Below.refl _ _).alloc (Nat.le_refl _) _)).own
      case q1 =>
        intro k x hk
        cases k with
        | zero => cases hk; rw [Addr.add_lit]; simp
        | succ k => simp at hk
      case q2 =>
        intro x hx
        obtain rfl : x = .slice (some au) (spCode tm).length cu := by simpa using hx
        rfl
      case q3 => unfold maxLen; omega
      case q4 => omega
      case q5 => exact (HPP.out.below ((Below.refl _ _).alloc (Nat.le_refl _) _)).sz
      intro v' w4 ho hg hnil hloc
      have HP4 := hide ((HPP.out.below ((Below.refl _ _).alloc (Nat.le_refl _) _)).code (insOwn_keep HU.out ((Below.refl _ _).alloc (Nat.le_refl _) _)) HNE.out (N := w2.heap.size + 1) (by simp) ho hg hloc)
      clear ho hg hnil hloc HPP HU HNE hric hrz hrs hrb
      have c2 := HP4.out.c2
      have fz := HP4.out.fz 2
      have sz4 := HP4.out.sz
      obtain ⟨rii, hrii, hrz, hrs, hrb⟩ := rowsInfo
      have bel2 : Below w4.heap.size w4 ((w4.alloc (.cells #[.int .i64 0, .int .i64 0, .int .i64 0, .int .i64 0, .int .i64 0, .int .i64 0, .int .i64 0, .int .i64 1] 3)).alloc (.cells #[.slice (some ⟨w4.heap.size, 0, none⟩) 8 8] 36)) := ((Below.refl _ _).alloc (Nat.le_refl _) _).alloc (by simp) _
      go_wp2_with (at_builtin; refine wpList_append_own_at _ rfl _ _ 37 rfl (w1.heap.size + 1 + 1 + 1) 36 rii (.slice none 0 0) 1 24 Tryd.underlying37 hrii hrz hrs hrb rfl (by decide) _ j rs rfl ?q0 ⟨w4.heap.size + 1, 0, none⟩ 1 1 [.slice (some ⟨w4.heap.size, 0, none⟩) 8 8] rfl rfl ?q1 ?q2 ?q3 ?q4 ?q5 ?_)
      case q0 => exact (HP4.out.below bel2).ownr
      case q1 =>
        intro k x hk
        cases k with
        | zero => cases hk; rw [Addr.add_lit]; simp
        | succ k => simp at hk
      case q2 =>
        intro x hx
        obtain rfl : x = .slice (some ⟨w4.heap.size, 0, none⟩) 8 8 := by simpa using hx
        rfl
      case q3 => unfold maxLen; omega
      case q4 => omega
      case q5 => exact (HP4.out.below bel2).sz
      intro rv' w5 ho hg hnil hloc
      have HP5 := hide ((HP4.out.below bel2).row (rowOwn_new sz4) (fun b e => by
        obtain rfl : w4.heap.size = b := Option.some.inj e
        exact ⟨fun e2 => by have := (HP4.out.own.lt _ e2).2; omega, fun e2 => by have := (HP4.out.ownr.lt _ e2).2; omega⟩) (N := w4.heap.size + 1 + 1) (by simp) ho hg hloc)
      obtain ⟨c2', fz'⟩ := (HP4.out.below bel2).box hg
      obtain ⟨ag, cg, rfl, -, -, -⟩ := ownsRow_shape ho
      clear ho hg hnil hloc HP4 hrii hrz hrs hrb c2 fz bel2
      go_wp2_with fail
      go_roundw
      case rel => exact ⟨j + 1, by omega, by go_num, hide ⟨_, _, _, HP5.out⟩⟩
      case measure => simp [intOf]; omega
    · obtain rfl : j = T := by omega
      obtain ⟨ar, cr, adc, capc, hre, hve, hsta, hcod⟩ := hP.sta (by omega)
      subst hre
      subst hve
      have c0 := hP.c0
      have c1 := hP.c1
      have c2 := hP.c2
      have hlow := hP.low
      have HSF := hide (spStart_ok (cap := capc) h43 h1 (Nat.le_trans h2 (by decide)) hsta hcod)
      have HNM := hide (fun w' (hb : Below wr.heap.size wr w') => spNew (cap := capc) h43 h1 (Nat.le_trans h2 (by decide)) hb (hsta.below hb) hcod)
      have hfl := fun w => field_fault 0 (-1) w
      clear hP HP hsta hcod
      go_wp2_with fail
      refine HSF.out.mono ?_
      rintro e w2 ⟨rfl, hb2⟩
      replace c0 := keep_cell hb2 c0
      replace c1 := keep_cell hb2 c1
      replace c2 := keep_cell hb2 c2
      have hlow2 := below_step hlow hb2
      have HNM2 := hide (HNM.out w2 hb2)
      clear HSF HNM hlow hb2
      go_wp2_with fail
      refine HNM2.out.mono ?_
      rintro e w3 ⟨p, rfl, hR⟩
      have hX := hR.out.1
      have hlow3 := below_step hlow2 hR.out.2.1
      have HFP := hide hR.out.2.2
      have hp3 := hlow2.size
      have H0 : Hid (EndsRel (List.replicate j (spCode tm)) p ((spSta j).mach j) w3 0 w3) := hide ⟨p.rp, p.mv, RkStep.refl hX.at', hX⟩
      clear hR hX HNM2 c0 c1 c2 hlow2
      go_wp2_with fail
      go_loopw [12] (fun i wr => ∃ k : Nat, k ≤ 5000 ∧ i = .int .i64 k ∧ Hid (EndsRel (List.replicate j (spCode tm)) p ((spSta j).mach j) w3 k wr)) (fun i _ => 5000 - (intOf i).toNat)
      case atStart => exact ⟨0, Nat.zero_le _, rfl, H0⟩
      case round =>
        obtain ⟨k, hk, rfl, HH⟩ := hrel
        clear H0
        obtain ⟨r, v, hk1, hx1⟩ := HH.out
        by_cases hlt : k < 5000
        · have ki : (k : Int) < 5000 := by omega
          have HT : Hid (Calls Tryd.prog 16 #[.pointer (some ⟨p.k, 0, none⟩), .int .i64 k] wr fun e w' => e = .returned (.int .i64 (((((spSta j).mach j).runO (List.replicate j (spCode tm)) (numsTo k)).2).turnO (List.replicate j (spCode tm)) k).1) ∧ ∃ r' v', RkStep (List.replicate j (spCode tm)) (p.to r v) ((((spSta j).mach j).runO (List.replicate j (spCode tm)) (numsTo k)).2).mem wr r' v' (((((spSta j).mach j).runO (List.replicate j (spCode tm)) (numsTo k)).2).turnO (List.replicate j (spCode tm)) k).2 w') := hide (rturn_any hx1 k)
          have HX := hide (fun r' v' w' k' => EndsRel.next (r' := r') (v' := v') (w' := w') hk1 hx1 k' hk)
          clear hk1 hx1 HH
          go_wp2_with fail
          refine HT.out.mono ?_
          rintro e w5 ⟨rfl, r', v', hk'⟩
          have HN := hide (HX.out r' v' w5 hk')
          clear HT HX hk'
          go_wp2_with fail
          go_roundw
          case rel => exact ⟨k + 1, by omega, by go_num, HN⟩
          case measure => simp [intOf]; omega
        · obtain rfl : k = 5000 := by omega
          have hI := (spStart_inv (T := j) (tm := tm)).run h43 (Nat.le_trans h2 (by decide)) h1 (numsTo 5000)
          have hrt := hI.rest (spEnds h3 h4 h1 h2)
          have hlow4 : Below w.heap.size w wr := hlow3.trans (hk1.turns.below hlow3.size (fun b o hb hf => by
            rw [List.length_replicate] at hf
            have := HFP.out b hf
            omega))
          have hre := rrest_any hk1.at'
          rw [List.length_replicate, hrt] at hre
          have HRE : Hid (Calls Tryd.prog 17 #[.pointer (some ⟨p.k, 0, none⟩)] wr fun e w' => e = .returned (.bool true) ∧ Below wr.heap.size wr w') := hide hre
          have hFa : wr.cell? ⟨p.k, 3, none⟩ = some (.int .i64 0) := by
            have := hk1.at'.mFaults
            rw [hI.faults] at this
            exact this
          have hE := hI.end (spRest_pc hrt)
          have hsz : 0 < (((spSta j).mach j).runO (List.replicate j (spCode tm)) (numsTo 5000)).2.mem.ar.size := by
            have := hI.has
            unfold Ar.has at this
            simp only [Bool.and_eq_true, decide_eq_true_eq] at this
            omega
          have HA := hide hk1.at'
          clear hk1 hx1 HFP hI hre hrt HH
          generalize (((spSta j).mach j).runO (List.replicate j (spCode tm)) (numsTo 5000)).2 = M at *
          go_wp2_with fail
          refine HRE.out.mono ?_
          rintro e w5 ⟨rfl, hb5⟩
          have hlow5 := below_step hlow4 hb5
          replace hFa := keep_cell hb5 hFa
          have hq := HA.out.below hb5
          have hM : w5.cell? ⟨p.k, 0, none⟩ = some (.pointer (some ⟨r.mb, 0, none⟩)) := hq.mM
          have hmem : RmAt r M.mem w5 := hq.mem
          have hC := hmem.mCells
          have hcc := hmem.ccap
          have hW := hmem.cWords 0 hsz
          have hwc := hmem.wcap 0 hsz
          have hV := hmem.words 0 2 hsz (by decide)
          rw [Nat.zero_mul] at hW
          rw [hE] at hV
          have hmul : IntKind.i64.wrap ((j : Int) * (tm : Int)) = (j : Int) * (tm : Int) := by
            have g1 : j * tm ≤ 3 * 2 := Nat.mul_le_mul h2 h4
            have g2 : ((j * tm : Nat) : Int) = (j : Int) * (tm : Int) := by push_cast; rfl
            rw [← g2, IntKind.wrap_i64]
            omega
          have se : ((0 : Nat) : Int) < M.mem.ar.size := by omega
          clear HRE HA hq hmem hlow4 hlow3 hb5 hE
          generalize M.mem.ar.size = sz at *
          go_wp2_with fail
          go_ret
          exact ⟨rfl, hlow5⟩
end Go.Proofs.YtmeohblomighpaaDoorR

/- SpO -/
namespace Go.Proofs.YtmeohblomighpaaDoorR
open Go.ChangeShapes Go.WideShapes Go.ChangeAt Go.RowKit Go.Joins Go.Deep

theorem ends_any (T tm : Int) (w : World) :
    Calls Tryd.prog 4 #[.int .i64 T, .int .i64 tm] w fun e w' => e = .returned (.bool true) ∧ Below w.heap.size w w' := by
  by_cases h : 1 ≤ T ∧ T ≤ 3 ∧ 1 ≤ tm ∧ tm ≤ 2
  · obtain ⟨h1, h2, h3, h4⟩ := h
    obtain ⟨n, rfl⟩ := Int.eq_ofNat_of_zero_le (show 0 ≤ T by omega)
    obtain ⟨k, rfl⟩ := Int.eq_ofNat_of_zero_le (show 0 ≤ tm by omega)
    exact ends_in n k w (by omega) (by omega) (by omega) (by omega)
  · exact ends_out T tm w h

theorem ends_laid : Rows.spinEndsRow.laid = laidTwo := rfl
theorem readableE2 : ∀ t ∈ [3, 3], Tryd.prog.readableRec t = true ∧ t < Tryd.prog.types.size := by
  intro t ht
  simp only [List.mem_cons, List.not_mem_nil, or_false] at ht
  rcases ht with rfl | rfl
  · exact ⟨by kernel_rfl, of_decide_eq_true (by kernel_rfl)⟩
  · exact ⟨by kernel_rfl, of_decide_eq_true (by kernel_rfl)⟩

set_option maxRecDepth 100000 in
theorem ends_lifted (os : Os) (started : os.Started) (H : Type) (enc : TypeId × Value → H) :
    ReturnsInHanded {} Tryd.checked os 4 .any (fun w args => (Rows.spinEndsSpec.pre enc Tryd.prog Tryd.f4 [] false w args ∧ laidMetH Tryd.prog Rows.spinEndsRow.laid w) ∧ sizedMet enc Tryd.prog Tryd.f4 (OpenSpec.ofChange Rows.spinEndsSpec) false w args)
      (Rows.spinEndsSpec.post enc Tryd.prog Tryd.f4 false true false false) := by
  rw [ends_laid]
  refine returnsInHanded_of_change_and (C := Tryd.checked) (X := fun w _ => laidMetH Tryd.prog laidTwo w) (fun _ _ _ hh h => h.of_heap hh) own started (by kernel_rfl) Tryd.func4
    (ChangeSpec.witness_shaped (enc := enc) (C := Tryd.checked) (os := os) (X := fun w _ => laidMetH Tryd.prog laidTwo w) false (World.doorLaid Tryd.prog 400 os) #[.int .i64 0, .int .i64 0] 8 rfl (World.shaped_of_RefB (by kernel_rfl) (by kernel_rfl)) (by kernel_rfl) (by kernel_rfl) (by kernel_rfl) (door_two os _)) ?_
  intro W base args ds gs before hval0 hW _ _ hL _
  have hval : ∀ (j : Nat) t v, Tryd.f4.params[j]? = some t → args[j]? = some v → Value.okWide Tryd.prog W .any base t v := hval0
  have hW' := hW
  obtain ⟨p, q, hA0, hV, rfl, hfz, hnd⟩ := hW
  have hA : DataW.TrodAll enc Tryd.prog W 0 (fun _ => true) true Tryd.f4.params.toList args.toList ds p := hA0
  rw [Tryd.params4] at hA hval
  have hA2 := hA
  obtain ⟨v0, v1, d0, d1, p0, p1, rfl, rfl, rfl, h0, h1⟩ := trodAll_two hA
  obtain ⟨rfl, rfl⟩ := trodVars_none hV
  obtain ⟨n0, rfl⟩ := okWide_int Tryd.underlying3 (hval 0 3 v0 rfl rfl)
  obtain ⟨n1, rfl⟩ := okWide_int Tryd.underlying3 (hval 1 3 v1 rfl rfl)
  clear hA0 hval0
  simp only [List.append_nil] at hW'
  refine (ends_any n0 n1 W).mono fun e W' ⟨he, hb⟩ => ?_
  subst he
  refine ⟨_, rfl, _, _, _, [], p0 ++ p1, [], hW', ?_, ?_, ?_, hb.frame _, fun h => by cases h⟩
  · exact trodAll_mk1 (shut_bool Tryd.underlying4 true)
  · exact trodAll_below laidOutA hb _ _ _ _ readableE2 hA2
  · rfl

theorem ends_holds : Rows.SpinEndsSaid :=
  OpenClaim.holds_of_wide 4 Tryd.f4 rfl rfl rfl rfl rfl rfl rfl ⟨rfl, rfl, rfl, rfl, rfl⟩ rfl rfl rfl rfl rfl (by kernel_rfl) Tryd.func4 (by kernel_rfl)
    (of_decide_eq_true (by kernel_rfl)) (by unfold Func.isWrapper; rw [if_neg (of_decide_eq_false (by kernel_rfl))]; exact ⟨rfl, rfl⟩)
    (fun os started H enc _ => ends_lifted os started H enc)

theorem ends_card : Rows.SpinEndsCardSaid :=
  Claim7.holds_tied_plain_at .later [] [.sentinel, .sentinel] true (true, "fe65be62115d596410600af92d01b4d154fa57679cdc25a9a1673eef678ffbc2") true
    ends_holds (fun _ h => absurd h List.not_mem_nil) (by kernel_rfl) (fun _ h => absurd h List.not_mem_nil) spinEnds_row_tie rfl ⟨rfl, rfl⟩ (by kernel_rfl) rfl
    (fun f fn hf hfn => by
      obtain rfl : f = 4 := (Option.some.inj ((show Tryd.prog.funcNamed "quiescent/quiescentlaw2.SpinEnds" = some 4 by kernel_rfl).symm.trans hf)).symm
      obtain rfl : fn = Tryd.f4 := (Option.some.inj (Tryd.func4.symm.trans hfn)).symm
      exact ⟨by kernel_rfl, fun j t ht => by
        rw [Tryd.params4] at ht
        rcases j with _ | _ | j
        · obtain rfl : t = 3 := by simpa using ht.symm
          exact (show Tryd.prog.wantsStandIn 3 = false by kernel_rfl)
        · obtain rfl : t = 3 := by simpa using ht.symm
          exact (show Tryd.prog.wantsStandIn 3 = false by kernel_rfl)
        · simp at ht⟩)
    (by kernel_rfl)
#print axioms ends_card
end Go.Proofs.YtmeohblomighpaaDoorR
