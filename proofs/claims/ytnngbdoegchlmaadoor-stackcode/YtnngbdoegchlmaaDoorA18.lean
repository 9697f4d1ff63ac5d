/- The law StackCode answers true for every name that can be handed in; no condition beside the row's own. -/
import Derived.Test.YtnngbdoegchlmaaDoorA17
import Derived.Test.YtnngbdoegchlmaaDoorA16
import Derived.Test.YtnngbdoegchlmaaDoorA02
import Derived.Test.YtnngbdoegchlmaaDoorTie
import Derived.Test.YtnngbdoegchlmaaDoorCards
import Derived.Carry
import Derived.SevenTiedAt

/- KsC -/
namespace Go.Proofs.YtnngbdoegchlmaaDoor
open Go.RowKit Go.Extern.Stop Go.Stop Go.Extern Go.Maps Go.WideMaps Go.Sort

set_option maxRecDepth 20000 in
theorem kcode_long (p : ByteArray) (w : World) (h : 100 < p.size) : Calls Tryd.prog 3 #[.string p] w fun e w' => e = .returned (.bool true) ∧ Below w.heap.size w w' := by
  have HL := hide (piled_any w)
  have hi : 100 < (p.size : Int) := by omega
  clear h
  go_enter Tryd.func3, Tryd.ntmps3
  go_wp2_with fail
  refine HL.out.mono ?_
  rintro e w1 ⟨rfl, hb⟩
  clear HL
  go_wp2_with fail
  go_ret
  exact ⟨rfl, hb⟩

open Classical in
theorem kprefix (p : ByteArray) {b : Bool} (h : b = true ↔ nameShort p) (w : World) : Calls Tryd.prog 7 #[.string p, .int .i64 8] w fun e w' => e = .returned (.bool b) ∧ w' = w :=
  (prefix_any p 8 w).mono fun _ _ ⟨h1, h2⟩ => ⟨by
    rw [h1]
    congr 2
    by_cases hi : isName p
    · rw [decide_eq_true hi, Bool.true_and]
      by_cases hs : p.size ≤ 8
      · rw [decide_eq_true (show (p.size : Int) ≤ 8 by omega), h.2 ⟨hi, hs⟩]
      · rw [decide_eq_false (show ¬ (p.size : Int) ≤ 8 by omega)]
        cases b with
        | false => rfl
        | true => exact absurd (h.1 rfl).2 hs
    · rw [decide_eq_false hi, Bool.false_and]
      cases b with
      | false => rfl
      | true => exact absurd (h.1 rfl).1 hi, h2⟩

set_option maxRecDepth 20000 in
set_option maxHeartbeats 4000000 in
theorem kcode_bad (p : ByteArray) {a : Nat → Addr} (w : World) (hE : Env a w) (h : ¬ 100 < p.size) (hp : ¬ nameShort p) : Calls Tryd.prog 3 #[.string p] w fun e w' => e = .returned (.bool true) ∧ Below w.heap.size w w' := by
  have HL := hide (piled_any w)
  have HE := hide hE
  have hi : ¬ 100 < (p.size : Int) := by omega
  have HT := hide (fun w' (hb : Below w.heap.size w w') => kPush_bad hp (HE.out.below hb.block))
  have HG := hide (fun w' (hb : Below w.heap.size w w') => kPop_bad hp (HE.out.below hb.block))
  have HC : Hid (∀ w', Below w.heap.size w w' → Calls Tryd.prog 8 #[errAt (a 3), .int .i64 4] w' fun ev w'' => ev = .returned (.bool true) ∧ Below w'.heap.size w' w'') := hide (fun w' hb => coded3_err a 4 (by decide) w' (HE.out.below hb.block))
  have HP := hide (kprefix p (b := false) ⟨fun e => (by cases e), fun e => absurd e hp⟩)
  clear hE h hp
  go_enter Tryd.func3, Tryd.ntmps3
  go_wp2_with fail
  refine HL.out.mono ?_
  rintro e w1 ⟨rfl, hb⟩
  clear HL
  go_wp2_with fail
  refine (HT.out _ hb).mono ?_
  rintro e w2 ⟨rfl, hb2⟩
  have hB2 := below_step hb hb2
  clear hb hb2 HT
  go_wp2_with fail
  refine (HG.out _ hB2).mono ?_
  rintro e w3 ⟨rfl, hb3⟩
  have hB3 := below_step hB2 hb3
  clear hb3 hB2 HG
  go_wp2_with fail
  refine (HP.out _).mono ?_
  rintro e w4 ⟨rfl, rfl⟩
  go_wp2_with fail
  refine (HC.out _ hB3).mono ?_
  rintro e w5 ⟨rfl, hb5⟩
  have hB5 := below_step hB3 hb5
  go_wp2_with fail
  refine (HC.out _ hB5).mono ?_
  rintro e w6 ⟨rfl, hb6⟩
  have hB6 := below_step hB5 hb6
  go_wp2_with fail
  go_ret
  exact ⟨rfl, hB6⟩

set_option maxRecDepth 20000 in
set_option maxHeartbeats 4000000 in
theorem kcode_ok (p : ByteArray) (w : World) (hp : nameShort p) : Calls Tryd.prog 3 #[.string p] w fun e w' => e = .returned (.bool true) ∧ Below w.heap.size w w' := by
  have HL := hide (piled_any w)
  have hi : ¬ 100 < (p.size : Int) := by have := hp.2; omega
  have HT := hide (fun w => kPush_ok hp w)
  have HG := hide (fun w => kPop_ok hp w)
  have HTP := hide (push_plain hp)
  have HGP := hide (pop_plain hp)
  have HBA := hide bars3_any
  have HP := hide (kprefix p (b := true) ⟨fun _ => hp, fun _ => rfl⟩)
  have lt : (pushCode p (p ++ spX)).length = 9 := rfl
  have lg : (popCode p (p ++ spX)).length = 9 := rfl
  clear hp
  go_enter Tryd.func3, Tryd.ntmps3
  go_wp2_with fail
  refine HL.out.mono ?_
  rintro e w1 ⟨rfl, hb⟩
  clear HL
  go_wp2_with fail
  refine (HT.out w1).mono ?_
  rintro e w2 ⟨va, rfl, hva, hb2⟩
  obtain ⟨ada, capa, rfl, hia⟩ := insOwn_open hva (by rw [lt]; omega)
  have hB2 := below_step hb hb2
  have HIA := hide hia
  clear hb hb2 HT hva hia
  go_wp2_with fail
  refine (HG.out w2).mono ?_
  rintro e w3 ⟨vb, rfl, hvb, hb3⟩
  obtain ⟨adb, capb, rfl, hib⟩ := insOwn_open hvb (by rw [lg]; omega)
  have hB3 := below_step hB2 hb3
  have HIA3 := hide (insAt_below HIA.out hb3)
  have HIB := hide hib
  clear hb3 hB2 HG hvb hib HIA
  go_wp2_with fail
  refine (HP.out _).mono ?_
  rintro e w4 ⟨rfl, rfl⟩
  go_wp2_with fail
  refine (HBA.out _).mono ?_
  rintro e w5 ⟨adx, rfl, hs5, hb5⟩
  have HIA5 := hide (insAt_below HIA3.out hb5)
  have HIB5 := hide (insAt_below HIB.out hb5)
  have hB5 := below_step hB3 hb5
  have HPL := hide (plain_yes (cap := capa) (capb := 5) (most := 40) HIA5.out hs5 HTP.out (by rw [lt]; omega) (by decide) (by decide))
  clear hs5 hb5 hB3 HIA3 HIB HP
  go_wp2_with fail
  refine HPL.out.mono ?_
  rintro e w6 ⟨rfl, hb6⟩
  have HIA6 := hide (insAt_below HIA5.out hb6)
  have HIB6 := hide (insAt_below HIB5.out hb6)
  have hB6 := below_step hB5 hb6
  clear hb6 hB5 HIA5 HIB5 HPL
  go_wp2_with fail
  refine (HBA.out _).mono ?_
  rintro e w7 ⟨ady, rfl, hs7, hb7⟩
  have HIA7 := hide (insAt_below HIA6.out hb7)
  have HIB7 := hide (insAt_below HIB6.out hb7)
  have hB7 := below_step hB6 hb7
  have HPL := hide (plain_yes (cap := capb) (capb := 5) (most := 40) HIB7.out hs7 HGP.out (by rw [lg]; omega) (by decide) (by decide))
  clear hs7 hb7 hB6 HIA6 HIB6
  go_wp2_with fail
  refine HPL.out.mono ?_
  rintro e w8 ⟨rfl, hb8⟩
  have HIA8 := hide (insAt_below HIA7.out hb8)
  have HIB8 := hide (insAt_below HIB7.out hb8)
  have hB8 := below_step hB7 hb8
  have HWA := hide (written3_any (cap := capa) (adm := none) (more := []) (capm := 0) HIA8.out (fun i x hx => by simp at hx) (by rw [lt]; omega) (Nat.zero_le _) (fun i x k hx hk => by have := push_wt hx hk; omega) (fun k h3 h8 hb => by
    rw [wtTo_above (fun i x k hx hk => push_wt hx hk) (by omega)] at hb; cases hb))
  clear hb8 hB7 HIA7 HIB7 HPL
  go_wp2_with fail
  refine HWA.out.mono ?_
  rintro e w9 ⟨rfl, hb9⟩
  have hB9 := below_step hB8 hb9
  have HIB9 := hide (insAt_below HIB8.out hb9)
  have b10 : Below w9.heap.size w9 (w9.alloc (.cells #[.int .i64 3] 3)) := (Below.refl _ _).alloc (Nat.le_refl _) _
  have hn10 : numsAt (some ⟨w9.heap.size, 0, none⟩) [3] (w9.alloc (.cells #[.int .i64 3] 3)) := fun i x hx => by
    refine ⟨w9.heap.size, 0, rfl, ?_⟩
    match i, hx with
    | 0, hx => cases hx; simp
  have HWB := hide (written3_any (cap := capb) (adm := some ⟨w9.heap.size, 0, none⟩) (more := [3]) (capm := 1) (insAt_below HIB9.out b10) hn10 (by rw [lg]; omega) (by decide) (fun i x k hx hk => by have := pop_wt hx hk; omega) (fun k h3 h8 hb => by
    by_cases e : k = 3
    · subst e; rfl
    · rw [wtTo_above (fun i x k hx hk => pop_wt hx hk) (by omega)] at hb; cases hb))
  have hB10 := hide (below_step hB9 b10)
  clear hb9 hB8 HWA HIA8 HIB8 hB9 HIB9 b10 hn10
  go_wp2_with fail
  refine HWB.out.mono ?_
  rintro e w11 ⟨rfl, hb11⟩
  have HZ := hide (below_step hB10.out hb11)
  clear HWB hb11 hB10
  go_wp2_with fail
  go_ret
  exact ⟨rfl, HZ.out⟩

theorem kcode_any {a : Nat → Addr} (p : ByteArray) (w : World) (hE : Env a w) : Calls Tryd.prog 3 #[.string p] w fun e w' => e = .returned (.bool true) ∧ Below w.heap.size w w' := by
  by_cases h : 100 < p.size
  · exact kcode_long p w h
  · by_cases hp : nameShort p
    · exact kcode_ok p w hp
    · exact kcode_bad p w hE h hp
end Go.Proofs.YtnngbdoegchlmaaDoor

/- KsD -/
namespace Go.Proofs.YtnngbdoegchlmaaDoor
open Go.ChangeShapes Go.WideShapes Go.ChangeAt Go.RowKit Go.Joins Go.Deep

theorem trodAll_one1 {H : Type} {enc : TypeId × Value → H} {P : Program} {w : World} {base : Nat} {spare : Nat → Bool} {held : Bool} {t : TypeId} {args : Array Value} {ds : List (DataW H)} {ps : List MemPlace} (h : DataW.TrodAll enc P w base spare held [t] args.toList ds ps) :
    ∃ v d p, args = #[v] ∧ ds = [d] ∧ ps = p ∧ DataW.Trod enc P w base spare held t v d p := by
  obtain ⟨v, vs, d, ds', p, q, hargs, rfl, rfl, hd, hrest⟩ := trodAll_cons h
  obtain ⟨rfl, rfl, rfl⟩ := trodAll_nil hrest
  exact ⟨v, d, p, by cases args; simp_all, rfl, by simp, hd⟩

theorem kscode_laid : Rows.stackCodeRow.laid = laidAll := rfl
theorem readableK1 : ∀ t ∈ [9], Tryd.prog.readableRec t = true ∧ t < Tryd.prog.types.size := by
  intro t ht
  simp only [List.mem_cons, List.not_mem_nil, or_false] at ht
  subst ht
  exact ⟨by kernel_rfl, of_decide_eq_true (by kernel_rfl)⟩

set_option maxRecDepth 100000 in
theorem kscode_lifted (os : Os) (started : os.Started) (H : Type) (enc : TypeId × Value → H) :
    ReturnsInHanded {} Tryd.checked os 3 .any (fun w args => (Rows.stackCodeSpec.pre enc Tryd.prog Tryd.f3 [] false w args ∧ laidMetH Tryd.prog Rows.stackCodeRow.laid w) ∧ sizedMet enc Tryd.prog Tryd.f3 (OpenSpec.ofChange Rows.stackCodeSpec) false w args)
      (Rows.stackCodeSpec.post enc Tryd.prog Tryd.f3 false true false false) := by
  rw [kscode_laid]
  refine returnsInHanded_of_change_and (C := Tryd.checked) (X := fun w _ => laidMetH Tryd.prog laidAll w) (fun _ _ _ hh h => h.of_heap hh) own started (by kernel_rfl) Tryd.func3
    (ChangeSpec.witness_shaped (enc := enc) (C := Tryd.checked) (os := os) (X := fun w _ => laidMetH Tryd.prog laidAll w) false (World.doorLaid Tryd.prog 400 os) #[.string ⟨#[]⟩] 8 rfl (World.shaped_of_RefB (by kernel_rfl) (by kernel_rfl)) (by kernel_rfl) (by kernel_rfl) (by kernel_rfl) (door_met os _)) ?_
  intro W base args ds gs before hval0 hW _ _ hL _
  have hval : ∀ (j : Nat) t v, Tryd.f3.params[j]? = some t → args[j]? = some v → Value.okWide Tryd.prog W .any base t v := hval0
  have hW' := hW
  obtain ⟨p, q, hA0, hV, rfl, hfz, hnd⟩ := hW
  have hA : DataW.TrodAll enc Tryd.prog W 0 (fun _ => true) true Tryd.f3.params.toList args.toList ds p := hA0
  rw [Tryd.params3] at hA hval
  have hA2 := hA
  obtain ⟨v0, d0, p0, rfl, rfl, rfl, h0⟩ := trodAll_one1 hA
  obtain ⟨rfl, rfl⟩ := trodVars_none hV
  obtain ⟨s, rfl, -, -, -⟩ := Go.ChangeMaps.open_string Tryd.underlying9 (hval 0 9 v0 rfl rfl) h0
  obtain ⟨a, hE⟩ := env_of_laid hL
  clear hA0 hval0
  simp only [List.append_nil] at hW'
  refine (kcode_any s W hE).mono fun e W' ⟨he, hb⟩ => ?_
  subst he
  refine ⟨_, rfl, _, _, _, [], p, [], hW', ?_, ?_, ?_, hb.frame _, fun h => by cases h⟩
  · exact trodAll_mk1 (shut_bool Tryd.underlying4 true)
  · exact trodAll_below laidOutA hb _ _ _ _ readableK1 hA2
  · rfl

theorem kscode_holds : Rows.StackCodeSaid :=
  OpenClaim.holds_of_wide 3 Tryd.f3 rfl rfl rfl rfl rfl rfl rfl ⟨rfl, rfl, rfl, rfl, rfl⟩ rfl rfl rfl rfl rfl (by kernel_rfl) Tryd.func3 (by kernel_rfl)
    (of_decide_eq_true (by kernel_rfl)) (by unfold Func.isWrapper; rw [if_neg (of_decide_eq_false (by kernel_rfl))]; exact ⟨rfl, rfl⟩)
    (fun os started H enc _ => kscode_lifted os started H enc)

theorem kscode_card : Rows.StackCodeCardSaid :=
  Claim7.holds_tied_plain_at .later [] [.handle, .sentinel, .sentinel, .sentinel, .sentinel, .sentinel, .sentinel, .sentinel, .sentinel, .sentinel] true (true, "6d3fe1ad7dc893e0a2261dc2149a760530764e4b386c390b06dced206d745bec") true
    kscode_holds (fun _ h => absurd h List.not_mem_nil) (by kernel_rfl) (fun _ h => absurd h List.not_mem_nil) stackCode_row_tie rfl ⟨rfl, rfl⟩ (by kernel_rfl) rfl
    (fun f fn hf hfn => by
      obtain rfl : f = 3 := (Option.some.inj ((show Tryd.prog.funcNamed "quiescent/quiescentlaw3.StackCode" = some 3 by kernel_rfl).symm.trans hf)).symm
      obtain rfl : fn = Tryd.f3 := (Option.some.inj (Tryd.func3.symm.trans hfn)).symm
      exact ⟨by kernel_rfl, fun j t ht => by
        rw [Tryd.params3] at ht
        rcases j with _ | j
        · obtain rfl : t = 9 := by simpa using ht.symm
          exact (show Tryd.prog.wantsStandIn 9 = false by kernel_rfl)
        · simp at ht⟩)
    (by kernel_rfl)
#print axioms kscode_card
end Go.Proofs.YtnngbdoegchlmaaDoor
