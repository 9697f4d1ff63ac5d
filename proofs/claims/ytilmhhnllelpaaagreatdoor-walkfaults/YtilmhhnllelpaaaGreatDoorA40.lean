/- The law WalkFaults answers true for every start, all codes and any script that can be handed in; no condition beside the row's own. -/
import Derived.Test.YtilmhhnllelpaaaGreatDoorA29
import Derived.Test.YtilmhhnllelpaaaGreatDoorA39
import Derived.Test.YtilmhhnllelpaaaGreatDoorTie
import Derived.Test.YtilmhhnllelpaaaGreatDoorCards
import Derived.Carry
import Derived.SevenTiedAt

/- WlF -/
namespace Go.Proofs.YtilmhhnllelpaaaGreatDoor
open Go.ChangeShapes Go.WideShapes Go.ChangeAt Go.RowKit Go.Joins Go.Deep

theorem wfaults_laid : Rows.walkFaultsRow.laid = laidAll := rfl
theorem cells_StartF : Tryz.prog.cellsOf 24 = 3 := by kernel_rfl
theorem readableF3 : ∀ t ∈ [24, 25, 26], Tryz.prog.readableRec t = true ∧ t < Tryz.prog.types.size := by
  intro t ht
  simp only [List.mem_cons, List.not_mem_nil, or_false] at ht
  rcases ht with rfl | rfl | rfl
  · exact ⟨by kernel_rfl, of_decide_eq_true (by kernel_rfl)⟩
  · exact ⟨by kernel_rfl, of_decide_eq_true (by kernel_rfl)⟩
  · exact ⟨by kernel_rfl, of_decide_eq_true (by kernel_rfl)⟩

set_option maxRecDepth 100000 in
theorem wfaults_lifted (os : Os) (started : os.Started) (H : Type) (enc : TypeId × Value → H) :
    ReturnsInHanded {} Tryz.checked os 3 .any (fun w args => (Rows.walkFaultsSpec.pre enc Tryz.prog Tryz.f3 [] false w args ∧ laidMetH Tryz.prog Rows.walkFaultsRow.laid w) ∧ sizedMet enc Tryz.prog Tryz.f3 (OpenSpec.ofChange Rows.walkFaultsSpec) false w args)
      (Rows.walkFaultsSpec.post enc Tryz.prog Tryz.f3 false true false false) := by
  rw [wfaults_laid]
  refine returnsInHanded_of_change_and (C := Tryz.checked) (X := fun w _ => laidMetH Tryz.prog laidAll w) (fun _ _ _ hh h => h.of_heap hh) own started (by kernel_rfl) Tryz.func3
    (ChangeSpec.witness_shaped (enc := enc) (C := Tryz.checked) (os := os) (X := fun w _ => laidMetH Tryz.prog laidAll w) false (World.doorLaid Tryz.prog 400 os) #[.agg #[.int .i64 0, .slice none 0 0, .slice none 0 0], .slice none 0 0, .slice none 0 0] 8 rfl (World.shaped_of_RefB (by kernel_rfl) (by kernel_rfl)) (by kernel_rfl) (by kernel_rfl) (by kernel_rfl) (door_met os _)) ?_
  intro W base args ds gs before hval0 hW _ _ hL _
  have hval : ∀ (j : Nat) t v, Tryz.f3.params[j]? = some t → args[j]? = some v → Value.okWide Tryz.prog W .any base t v := hval0
  have hW' := hW
  obtain ⟨p, q, hA0, hV, rfl, hfz, hnd⟩ := hW
  have hA : DataW.TrodAll enc Tryz.prog W 0 (fun _ => true) true Tryz.f3.params.toList args.toList ds p := hA0
  rw [Tryz.params3] at hA hval
  have hA2 := hA
  obtain ⟨v0, v1, v2, d0, d1, d2, p0, p1, p2, rfl, rfl, rfl, h0, h1, h2⟩ := trodAll_three hA
  obtain ⟨rfl, rfl⟩ := trodVars_none hV
  obtain ⟨c0, c1, c2, y0, y1, y2, n, rfl, -, -, k0, k1, k2⟩ := open_agg3 Tryz.underlying24 (by kernel_rfl) cells_StartF (hval 0 24 v0 rfl rfl) h0
  obtain ⟨cells, e0⟩ := kint_of_trod k0
  obtain ⟨ai, ci, R1, e1, r1, l1, m1, n1⟩ := rows_of_trod k1
  obtain ⟨ar, cr, R2, e2, r2, l2, m2, n2⟩ := rows_of_trod k2
  obtain rfl : c0 = .int .i64 cells := by simpa using e0
  obtain rfl : c1 = .slice ai R1.length ci := by simpa using e1
  obtain rfl : c2 = .slice ar R2.length cr := by simpa using e2
  obtain ⟨s1, sl1, sc1, rfl⟩ := okWide_slice Tryz.underlying25 (hval 1 25 v1 rfl rfl)
  obtain ⟨f1, hf1⟩ := h1
  obtain ⟨ad, cap, cl, q1, hcodes, hcl, hcL, hcs⟩ := codes_of_trod hf1
  obtain ⟨rfl, rfl, rfl⟩ : s1 = ad ∧ sl1 = cl.length ∧ sc1 = cap := by simpa [Value.cells] using q1
  obtain ⟨s2, sl2, sc2, rfl⟩ := okWide_slice Tryz.underlying26 (hval 2 26 v2 rfl rfl)
  obtain ⟨f2, hf2⟩ := h2
  obtain ⟨ada, capa, la, q2, hna, hca⟩ := nums_of_trod hf2
  obtain ⟨rfl, rfl, rfl⟩ : s2 = ada ∧ sl2 = la.length ∧ sc2 = capa := by simpa [Value.cells] using q2
  obtain ⟨a, hE⟩ := env_of_laid hL
  clear hA0 hval0
  simp only [List.append_nil] at hW'
  refine (wfaults_any (s := ⟨cells, R1, R2⟩) hE ⟨r1, r2, l1, l2, m1, m2, n1, n2⟩ hcodes hcs hcl hcL hna).mono fun e W' ⟨he, hb⟩ => ?_
  subst he
  refine ⟨_, rfl, _, _, _, [], p0 ++ p1 ++ p2, [], hW', ?_, ?_, ?_, hb.frame _, fun h => by cases h⟩
  · exact trodAll_mk1 (shut_bool Tryz.underlying4 true)
  · exact trodAll_below laidOutA hb _ _ _ _ readableF3 hA2
  · rfl

theorem wfaults_holds : Rows.WalkFaultsSaid :=
  OpenClaim.holds_of_wide 3 Tryz.f3 rfl rfl rfl rfl rfl rfl rfl ⟨rfl, rfl, rfl, rfl, rfl⟩ rfl rfl rfl rfl rfl (by kernel_rfl) Tryz.func3 (by kernel_rfl)
    (of_decide_eq_true (by kernel_rfl)) (by unfold Func.isWrapper; rw [if_neg (of_decide_eq_false (by kernel_rfl))]; exact ⟨rfl, rfl⟩)
    (fun os started H enc _ => wfaults_lifted os started H enc)

theorem wfaults_card : Rows.WalkFaultsCardSaid :=
  Claim7.holds_tied_plain_at .later [] [.handle, .sentinel, .sentinel, .sentinel, .sentinel, .sentinel, .sentinel, .sentinel] true (true, "ab95832b42b8b98b4bac848131bff84f3f680ce4991a79cff598260e17189a18") true
    wfaults_holds (fun _ h => absurd h List.not_mem_nil) (by kernel_rfl) (fun _ h => absurd h List.not_mem_nil) walkFaults_row_tie rfl ⟨rfl, rfl⟩ (by kernel_rfl) rfl
    (fun f fn hf hfn => by
      obtain rfl : f = 3 := (Option.some.inj ((show Tryz.prog.funcNamed "quiescent/quiescentlaw1.WalkFaults" = some 3 by kernel_rfl).symm.trans hf)).symm
      obtain rfl : fn = Tryz.f3 := (Option.some.inj (Tryz.func3.symm.trans hfn)).symm
      exact ⟨by kernel_rfl, fun j t ht => by
        rw [Tryz.params3] at ht
        rcases j with _ | _ | _ | j
        · obtain rfl : t = 24 := by simpa using ht.symm
          exact (show Tryz.prog.wantsStandIn 24 = false by kernel_rfl)
        · obtain rfl : t = 25 := by simpa using ht.symm
          exact (show Tryz.prog.wantsStandIn 25 = false by kernel_rfl)
        · obtain rfl : t = 26 := by simpa using ht.symm
          exact (show Tryz.prog.wantsStandIn 26 = false by kernel_rfl)
        · simp at ht⟩)
    (by kernel_rfl)
#print axioms wfaults_card
end Go.Proofs.YtilmhhnllelpaaaGreatDoor
