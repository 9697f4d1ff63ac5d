/- The law SpinCode answers true for every name and all numbers that can be handed in; no condition beside the row's own. -/
import Derived.Test.YtepgcgokolmedaaDoorB19
import Derived.Test.YtepgcgokolmedaaDoorB20
import Derived.Test.YtepgcgokolmedaaDoorB02
import Derived.Test.YtepgcgokolmedaaDoorTie
import Derived.Test.YtepgcgokolmedaaDoorCards
import Derived.Carry
import Derived.SevenTiedAt

/- SpV -/
namespace Go.Proofs.YtepgcgokolmedaaDoor
open Go.RowKit Go.Extern.Stop Go.Stop Go.Extern Go.Maps Go.WideMaps Go.Sort

theorem bars_any (w : World) : Calls Tryd.prog 11 #[] w fun e w' => ∃ ad, e = .returned (.slice ad 5 5) ∧ strsAt ad spBars w' ∧ Below w.heap.size w w' := by
  have hn : ∀ (i : Nat) x, spBars[i]? = some x → (w.alloc (.cells #[.string ⟨#[97, 108, 108, 111, 99]⟩, .string ⟨#[102, 114, 101, 101]⟩, .string ⟨#[109, 97, 114, 107]⟩, .string ⟨#[110, 101, 101, 100]⟩, .string ⟨#[115, 116, 111, 112]⟩] 9)).cell? ⟨w.heap.size, 0 + i, none⟩ = some (.string x) := fun i x hx => by
    rw [World.cell?_alloc_new]
    match i, hx with
    | 0, hx => cases hx; rfl
    | 1, hx => cases hx; rfl
    | 2, hx => cases hx; rfl
    | 3, hx => cases hx; rfl
    | 4, hx => cases hx; rfl
  have HN := hide hn
  clear hn
  go_enter Tryd.func11, Tryd.ntmps11
  go_wp2_with fail
  go_ret
  exact ⟨_, rfl, fun i x hx => ⟨w.heap.size, 0, rfl, HN.out i x hx⟩, (Below.refl _ _).alloc (Nat.le_refl _) _⟩

open Classical in
set_option maxRecDepth 20000 in
set_option maxHeartbeats 4000000 in
theorem scode_ok (p : ByteArray) (c wd t : Int) (w : World) (hn : numsOk c wd t) (hp : nameShort p) :
    Calls Tryd.prog 3 #[.string p, .int .i64 c, .int .i64 wd, .int .i64 t] w fun e w' => e = .returned (.bool true) ∧ Below w.heap.size w w' := by
  have HL := hide (locked_any w)
  have hi : ¬ 100 < (p.size : Int) := by have := hp.2; omega
  have lk := lockOk_of hn hp
  have HT := hide (fun w => take_ok lk w)
  have HG := hide (fun w => give_ok lk w)
  have HTP := hide (take_plain hn hp)
  have HGP := hide (give_plain (p := p) hn)
  have HBA := hide bars_any
  have lt : (takeCode p c wd t).length = 7 := by rw [takeCode_is]; rfl
  have lg : (giveCode c wd t).length = 2 := by rw [giveCode_is]; rfl
  have HP : Hid (∀ w, Calls Tryd.prog 8 #[.string p, .int .i64 8] w fun e w' => e = .returned (.bool true) ∧ w' = w) := hide (fun w => (prefix_any p 8 w).mono fun _ _ ⟨h1, h2⟩ => ⟨by
    rw [h1, decide_eq_true hp.1, decide_eq_true (show (p.size : Int) ≤ 8 by have := hp.2; omega)]
    rfl, h2⟩)
  obtain ⟨⟨c0, c8⟩, ⟨w0, w4⟩, ⟨t0, t7⟩, n1, n2⟩ := hn
  have i1 : ¬ c < 0 := by omega
  have i2 : ¬ 8 ≤ c := by omega
  have i3 : ¬ wd < 0 := by omega
  have i4 : ¬ 4 ≤ wd := by omega
  have i5 : ¬ t < 0 := by omega
  have i6 : ¬ 7 ≤ t := by omega
  have wr1 : IntKind.i64.wrap (t + 1) = t + 1 := by rw [IntKind.wrap_i64]; omega
  have b1 : (c == t) = false := beq_eq_false_iff_ne.2 n1
  have b2 : (c == t + 1) = false := beq_eq_false_iff_ne.2 n2
  clear hp n1 n2 lk
  go_enter Tryd.func3, Tryd.ntmps3
  go_wp2_with fail
  refine HL.out.mono ?_
  rintro e w1 ⟨rfl, hb⟩
  clear HL
  go_wp2_with fail
  refine (HT.out w1).mono ?_
  rintro e w2 ⟨va, rfl, hva, hb2⟩
  obtain ⟨ada, capa, rfl, hia⟩ := insOwn_open hva (by rw [lt]; omega)
  have hB2 := below_step hb hb2
  have HIA := hide hia
  clear hb hb2 HT hva hia
  go_wp2_with fail
  refine (HG.out w2).mono ?_
  rintro e w3 ⟨vb, rfl, hvb, hb3⟩
  obtain ⟨adb, capb, rfl, hib⟩ := insOwn_open hvb (by rw [lg]; omega)
  have hB3 := below_step hB2 hb3
  have HIA3 := hide (insAt_below HIA.out hb3)
  have HIB := hide hib
  clear hb3 hB2 HG hvb hib HIA
  go_wp2_with fail
  refine (HP.out _).mono ?_
  rintro e w4 ⟨rfl, rfl⟩
  go_wp2_with fail
  refine (HBA.out _).mono ?_
  rintro e w5 ⟨adx, rfl, hs5, hb5⟩
  have HIA5 := hide (insAt_below HIA3.out hb5)
  have HIB5 := hide (insAt_below HIB.out hb5)
  have hB5 := below_step hB3 hb5
  have HPL := hide (plain_yes (cap := capa) (capb := 5) (most := 20) HIA5.out hs5 HTP.out (by rw [lt]; omega) (by decide) (by decide))
  clear hs5 hb5 hB3 HIA3 HIB HP
  go_wp2_with fail
  refine HPL.out.mono ?_
  rintro e w6 ⟨rfl, hb6⟩
  have HIA6 := hide (insAt_below HIA5.out hb6)
  have HIB6 := hide (insAt_below HIB5.out hb6)
  have hB6 := below_step hB5 hb6
  clear hb6 hB5 HIA5 HIB5 HPL
  go_wp2_with fail
  refine (HBA.out _).mono ?_
  rintro e w7 ⟨ady, rfl, hs7, hb7⟩
  have HIA7 := hide (insAt_below HIA6.out hb7)
  have HIB7 := hide (insAt_below HIB6.out hb7)
  have hB7 := below_step hB6 hb7
  have HPL := hide (plain_yes (cap := capb) (capb := 5) (most := 20) HIB7.out hs7 HGP.out (by rw [lg]; omega) (by decide) (by decide))
  clear hs7 hb7 hB6 HIA6 HIB6
  go_wp2_with fail
  refine HPL.out.mono ?_
  rintro e w8 ⟨rfl, hb8⟩
  have HIA8 := hide (insAt_below HIA7.out hb8)
  have HIB8 := hide (insAt_below HIB7.out hb8)
  have hB8 := below_step hB7 hb8
  have HWA := hide (written_any (cap := capa) HIA8.out (by rw [lt]; omega) (fun i x k hx hk => by rcases take_wt hx hk with e | e <;> omega))
  clear hb8 hB7 HIA7 HIB7 HPL
  go_wp2_with fail
  refine HWA.out.mono ?_
  rintro e w9 ⟨ga, rfl, hwa⟩
  have hB9 := below_step hB8 hwa.low
  have HWB := hide (written_any (cap := capb) (insAt_below HIB8.out hwa.low) (by rw [lg]; omega) (fun i x k hx hk => by rcases give_wt hx hk with e | e <;> omega))
  have HA9 := hide hwa
  clear hB8 hwa HWA HIA8 HIB8
  go_wp2_with fail
  refine HWB.out.mono ?_
  rintro e w10 ⟨gb, rfl, hwb⟩
  have hB10 := below_step hB9 hwb.low
  have HCA : Hid (∀ k, k < 8 → w10.cell? ⟨ga, k, none⟩ = some (.bool (wtTo (takeCode p c wd t) (takeCode p c wd t).length k))) := hide (fun k hk => keep_cell hwb.low (HA9.out.cell k hk))
  have HCB : Hid (∀ k, k < 8 → w10.cell? ⟨gb, k, none⟩ = some (.bool (wtTo (giveCode c wd t) (giveCode c wd t).length k))) := hide (fun k hk => hwb.cell k hk)
  have HNA : Hid (∀ k : Nat, (k : Int) ≠ t → (k : Int) ≠ t + 1 → wtTo (takeCode p c wd t) (takeCode p c wd t).length k = false) := hide (fun k h1 h2 => wtTo_no (fun i x k hx hk => take_wt hx hk) h1 h2)
  have HNB : Hid (∀ k : Nat, (k : Int) ≠ t → (k : Int) ≠ t + 1 → wtTo (giveCode c wd t) (giveCode c wd t).length k = false) := hide (fun k h1 h2 => wtTo_no (fun i x k hx hk => give_wt hx hk) h1 h2)
  clear hB9 hwb HWB HA9
  generalize wtTo (takeCode p c wd t) (takeCode p c wd t).length = FA at *
  generalize wtTo (giveCode c wd t) (giveCode c wd t).length = FB at *
  go_wp2_with fail
  go_loopw [17] (fun i wr => ∃ k : Nat, k ≤ 8 ∧ i = .int .i64 k ∧ wr = w10) (fun i _ => 8 - (intOf i).toNat)
  case atStart => exact ⟨0, Nat.zero_le _, rfl, rfl⟩
  case round =>
    obtain ⟨k, hk, rfl, rfl⟩ := hrel
    by_cases hlt : k < 8
    · have ki : (k : Int) < 8 := by omega
      have ca := HCA.out k hlt
      have cb := HCB.out k hlt
      by_cases e1 : (k : Int) = t
      · have d1 : ((k : Int) != t) = false := by rw [e1]; simp
        clear HNA HNB HCA HCB e1
        cases hfa : FA k <;> cases hfb : FB k <;> rw [hfa] at ca <;> rw [hfb] at cb
        all_goals
          clear hfa hfb
          go_wp2_with fail
          go_roundw
          case rel => exact ⟨k + 1, by omega, by go_num, trivial⟩
          case measure => simp [intOf]; omega
      · have d1 : ((k : Int) != t) = true := bne_iff_ne.2 e1
        by_cases e2 : (k : Int) = t + 1
        · have d2 : ((k : Int) != t + 1) = false := by rw [e2]; simp
          clear HNA HNB HCA HCB e1 e2
          cases hfa : FA k <;> cases hfb : FB k <;> rw [hfa] at ca <;> rw [hfb] at cb
          all_goals
            clear hfa hfb
            go_wp2_with fail
            go_roundw
            case rel => exact ⟨k + 1, by omega, by go_num, trivial⟩
            case measure => simp [intOf]; omega
        · rw [HNA.out k e1 e2] at ca
          rw [HNB.out k e1 e2] at cb
          clear HNA HNB HCA HCB e1 e2
          go_wp2_with fail
          go_roundw
          case rel => exact ⟨k + 1, by omega, by go_num, trivial⟩
          case measure => simp [intOf]; omega
    · obtain rfl : k = 8 := by omega
      go_wp2_with fail
      go_ret
      exact ⟨rfl, hB10⟩
end Go.Proofs.YtepgcgokolmedaaDoor

/- SpX -/
namespace Go.Proofs.YtepgcgokolmedaaDoor
open Go.ChangeShapes Go.WideShapes Go.ChangeAt Go.RowKit Go.Joins Go.Deep

theorem trodAll_four4 {H : Type} {enc : TypeId × Value → H} {P : Program} {w : World} {base : Nat} {spare : Nat → Bool} {held : Bool} {t t' t'' t3 : TypeId} {args : Array Value} {ds : List (DataW H)} {ps : List MemPlace} (h : DataW.TrodAll enc P w base spare held [t, t', t'', t3] args.toList ds ps) :
    ∃ v v' v'' v3 d d' d'' d3 p p' p'' p3, args = #[v, v', v'', v3] ∧ ds = [d, d', d'', d3] ∧ ps = p ++ p' ++ p'' ++ p3 ∧ DataW.Trod enc P w base spare held t v d p ∧ DataW.Trod enc P w base spare held t' v' d' p' ∧ DataW.Trod enc P w base spare held t'' v'' d'' p'' ∧ DataW.Trod enc P w base spare held t3 v3 d3 p3 := by
  obtain ⟨v, vs, d, ds', p, q, hargs, rfl, rfl, hd, hrest⟩ := trodAll_cons h
  obtain ⟨v', vs', d', ds'', p', q', rfl, rfl, rfl, hd', hrest'⟩ := trodAll_cons hrest
  obtain ⟨v'', vs'', d'', ds''', p'', q'', rfl, rfl, rfl, hd'', hrest''⟩ := trodAll_cons hrest'
  obtain ⟨v3, vs3, d3, ds3, p3, q3, rfl, rfl, rfl, hd3, hrest3⟩ := trodAll_cons hrest''
  obtain ⟨rfl, rfl, rfl⟩ := trodAll_nil hrest3
  exact ⟨v, v', v'', v3, d, d', d'', d3, p, p', p'', p3, by cases args; simp_all, rfl, by simp, hd, hd', hd'', hd3⟩

open Classical in
theorem scode_any {a : Nat → Addr} (p : ByteArray) (c wd t : Int) (w : World) (hE : Env a w) :
    Calls Tryd.prog 3 #[.string p, .int .i64 c, .int .i64 wd, .int .i64 t] w fun e w' => e = .returned (.bool true) ∧ Below w.heap.size w w' := by
  by_cases h : 100 < p.size
  · exact scode_long p c wd t w h
  · by_cases hn : numsOk c wd t
    · by_cases hp : nameShort p
      · exact scode_ok p c wd t w hn hp
      · exact scode_name p c wd t w hE h hn hp
    · exact scode_bound p c wd t w hE h hn

theorem scode_laid : Rows.spinCodeRow.laid = laidAll := rfl
theorem readableC4 : ∀ t ∈ [9, 3, 3, 3], Tryd.prog.readableRec t = true ∧ t < Tryd.prog.types.size := by
  intro t ht
  simp only [List.mem_cons, List.not_mem_nil, or_false] at ht
  rcases ht with rfl | rfl | rfl | rfl
  · exact ⟨by kernel_rfl, of_decide_eq_true (by kernel_rfl)⟩
  · exact ⟨by kernel_rfl, of_decide_eq_true (by kernel_rfl)⟩
  · exact ⟨by kernel_rfl, of_decide_eq_true (by kernel_rfl)⟩
  · exact ⟨by kernel_rfl, of_decide_eq_true (by kernel_rfl)⟩

set_option maxRecDepth 100000 in
theorem scode_lifted (os : Os) (started : os.Started) (H : Type) (enc : TypeId × Value → H) :
    ReturnsInHanded {} Tryd.checked os 3 .any (fun w args => (Rows.spinCodeSpec.pre enc Tryd.prog Tryd.f3 [] false w args ∧ laidMetH Tryd.prog Rows.spinCodeRow.laid w) ∧ sizedMet enc Tryd.prog Tryd.f3 (OpenSpec.ofChange Rows.spinCodeSpec) false w args)
      (Rows.spinCodeSpec.post enc Tryd.prog Tryd.f3 false true false false) := by
  rw [scode_laid]
  refine returnsInHanded_of_change_and (C := Tryd.checked) (X := fun w _ => laidMetH Tryd.prog laidAll w) (fun _ _ _ hh h => h.of_heap hh) own started (by kernel_rfl) Tryd.func3
    (ChangeSpec.witness_shaped (enc := enc) (C := Tryd.checked) (os := os) (X := fun w _ => laidMetH Tryd.prog laidAll w) false (World.doorLaid Tryd.prog 400 os) #[.string ⟨#[]⟩, .int .i64 0, .int .i64 0, .int .i64 0] 8 rfl (World.shaped_of_RefB (by kernel_rfl) (by kernel_rfl)) (by kernel_rfl) (by kernel_rfl) (by kernel_rfl) (door_met os _)) ?_
  intro W base args ds gs before hval0 hW _ _ hL _
  have hval : ∀ (j : Nat) t v, Tryd.f3.params[j]? = some t → args[j]? = some v → Value.okWide Tryd.prog W .any base t v := hval0
  have hW' := hW
  obtain ⟨p, q, hA0, hV, rfl, hfz, hnd⟩ := hW
  have hA : DataW.TrodAll enc Tryd.prog W 0 (fun _ => true) true Tryd.f3.params.toList args.toList ds p := hA0
  rw [Tryd.params3] at hA hval
  have hA2 := hA
  obtain ⟨v0, v1, v2, v3, d0, d1, d2, d3, p0, p1, p2, p3, rfl, rfl, rfl, h0, h1, h2, h3⟩ := trodAll_four4 hA
  obtain ⟨rfl, rfl⟩ := trodVars_none hV
  obtain ⟨s, rfl, -, -, -⟩ := Go.ChangeMaps.open_string Tryd.underlying9 (hval 0 9 v0 rfl rfl) h0
  obtain ⟨n1, rfl⟩ := okWide_int Tryd.underlying3 (hval 1 3 v1 rfl rfl)
  obtain ⟨n2, rfl⟩ := okWide_int Tryd.underlying3 (hval 2 3 v2 rfl rfl)
  obtain ⟨n3, rfl⟩ := okWide_int Tryd.underlying3 (hval 3 3 v3 rfl rfl)
  obtain ⟨a, hE⟩ := env_of_laid hL
  clear hA0 hval0
  simp only [List.append_nil] at hW'
  refine (scode_any s n1 n2 n3 W hE).mono fun e W' ⟨he, hb⟩ => ?_
  subst he
  refine ⟨_, rfl, _, _, _, [], p0 ++ p1 ++ p2 ++ p3, [], hW', ?_, ?_, ?_, hb.frame _, fun h => by cases h⟩
  · exact trodAll_mk1 (shut_bool Tryd.underlying4 true)
  · exact trodAll_below laidOutA hb _ _ _ _ readableC4 hA2
  · rfl

theorem scode_holds : Rows.SpinCodeSaid :=
  OpenClaim.holds_of_wide 3 Tryd.f3 rfl rfl rfl rfl rfl rfl rfl ⟨rfl, rfl, rfl, rfl, rfl⟩ rfl rfl rfl rfl rfl (by kernel_rfl) Tryd.func3 (by kernel_rfl)
    (of_decide_eq_true (by kernel_rfl)) (by unfold Func.isWrapper; rw [if_neg (of_decide_eq_false (by kernel_rfl))]; exact ⟨rfl, rfl⟩)
    (fun os started H enc _ => scode_lifted os started H enc)

theorem scode_card : Rows.SpinCodeCardSaid :=
  Claim7.holds_tied_plain_at .later [] [.handle, .sentinel, .sentinel, .sentinel, .sentinel, .sentinel, .sentinel, .sentinel, .sentinel, .sentinel] true (true, "fe65be62115d596410600af92d01b4d154fa57679cdc25a9a1673eef678ffbc2") true
    scode_holds (fun _ h => absurd h List.not_mem_nil) (by kernel_rfl) (fun _ h => absurd h List.not_mem_nil) spinCode_row_tie rfl ⟨rfl, rfl⟩ (by kernel_rfl) rfl
    (fun f fn hf hfn => by
      obtain rfl : f = 3 := (Option.some.inj ((show Tryd.prog.funcNamed "quiescent/quiescentlaw2.SpinCode" = some 3 by kernel_rfl).symm.trans hf)).symm
      obtain rfl : fn = Tryd.f3 := (Option.some.inj (Tryd.func3.symm.trans hfn)).symm
      exact ⟨by kernel_rfl, fun j t ht => by
        rw [Tryd.params3] at ht
        rcases j with _ | _ | _ | _ | j
        · obtain rfl : t = 9 := by simpa using ht.symm
          exact (show Tryd.prog.wantsStandIn 9 = false by kernel_rfl)
        · obtain rfl : t = 3 := by simpa using ht.symm
          exact (show Tryd.prog.wantsStandIn 3 = false by kernel_rfl)
        · obtain rfl : t = 3 := by simpa using ht.symm
          exact (show Tryd.prog.wantsStandIn 3 = false by kernel_rfl)
        · obtain rfl : t = 3 := by simpa using ht.symm
          exact (show Tryd.prog.wantsStandIn 3 = false by kernel_rfl)
        · simp at ht⟩)
    (by kernel_rfl)
#print axioms scode_card
end Go.Proofs.YtepgcgokolmedaaDoor
