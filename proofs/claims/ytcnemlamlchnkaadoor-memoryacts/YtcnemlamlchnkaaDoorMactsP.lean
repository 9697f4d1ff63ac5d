/- quiescentlaw1.MemoryActs returns true for every two numbers and every list of acts, in every start in which the listed variables (the nine errors of package api and the type error's handle) hold what the program's text lays in them; the card ties that. -/
import Derived.Test.YtcnemlamlchnkaaDoorMactL
import Derived.Test.YtcnemlamlchnkaaDoorMactsT
import Derived.Test.YtcnemlamlchnkaaDoorTie
import Derived.Test.YtcnemlamlchnkaaDoorCards
import Derived.SevenTiedAt
namespace Go.Proofs.YtcnemlamlchnkaaDoor
open Go.ChangeShapes Go.WideShapes Go.ChangeAt Go.RowKit Go.Joins Go.Deep

theorem macts_laid : Rows.memoryActsRow.laid = laidAll := rfl
theorem readableA : ∀ t ∈ [3, 3, 72], Tryd.prog.readableRec t = true ∧ t < Tryd.prog.types.size := by
  intro t ht
  simp only [List.mem_cons, List.not_mem_nil, or_false] at ht
  rcases ht with rfl | rfl | rfl
  · exact ⟨by kernel_rfl, of_decide_eq_true (by kernel_rfl)⟩
  · exact ⟨by kernel_rfl, of_decide_eq_true (by kernel_rfl)⟩
  · exact ⟨by kernel_rfl, of_decide_eq_true (by kernel_rfl)⟩

set_option maxRecDepth 100000 in
theorem macts_lifted (os : Os) (started : os.Started) (H : Type) (enc : TypeId × Value → H) :
    ReturnsInHanded {} Tryd.checked os 8 .any (fun w args => (Rows.memoryActsSpec.pre enc Tryd.prog Tryd.f8 [] false w args ∧ laidMetH Tryd.prog Rows.memoryActsRow.laid w) ∧ sizedMet enc Tryd.prog Tryd.f8 (OpenSpec.ofChange Rows.memoryActsSpec) false w args)
      (Rows.memoryActsSpec.post enc Tryd.prog Tryd.f8 false true false false) := by
  rw [macts_laid]
  refine returnsInHanded_of_change_and (C := Tryd.checked) (X := fun w _ => laidMetH Tryd.prog laidAll w) (fun _ _ _ hh h => h.of_heap hh) own started (by kernel_rfl) Tryd.func8
    (ChangeSpec.witness_shaped (enc := enc) (C := Tryd.checked) (os := os) (X := fun w _ => laidMetH Tryd.prog laidAll w) false (World.doorLaid Tryd.prog 400 os) #[.int .i64 0, .int .i64 0, .slice none 0 0] 8 rfl (World.shaped_of_RefB (by kernel_rfl) (by kernel_rfl)) (by kernel_rfl) (by kernel_rfl) (by kernel_rfl) (door_met os _)) ?_
  intro W base args ds gs before hval0 hW _ _ hL _
  have hval : ∀ (j : Nat) t v, Tryd.f8.params[j]? = some t → args[j]? = some v → Value.okWide Tryd.prog W .any base t v := hval0
  have hW' := hW
  obtain ⟨p, q, hA0, hV, rfl, hfz, hnd⟩ := hW
  have hA : DataW.TrodAll enc Tryd.prog W 0 (fun _ => true) true Tryd.f8.params.toList args.toList ds p := hA0
  rw [Tryd.params8] at hA hval
  have hA2 := hA
  obtain ⟨v0, v1, v2, d0, d1, d2, p0, p1, p2, rfl, rfl, rfl, h0, h1, h2⟩ := trodAll_three hA
  obtain ⟨rfl, rfl⟩ := trodVars_none hV
  obtain ⟨x0, rfl, rfl, rfl, wx0⟩ := open_int Tryd.underlying3 (hval 0 3 v0 rfl rfl) h0
  obtain ⟨x1, rfl, rfl, rfl, wx1⟩ := open_int Tryd.underlying3 (hval 1 3 v1 rfl rfl) h1
  obtain ⟨sa, slen, scap, rfl⟩ := okWide_slice Tryd.underlying72 (hval 2 72 v2 rfl rfl)
  obtain ⟨fuel, hf⟩ := h2
  obtain ⟨ad, cap, l, hcs, hacts⟩ := macts_of_trod hf
  obtain ⟨rfl, rfl, rfl⟩ : sa = ad ∧ slen = l.length ∧ scap = cap := by simpa [Value.cells] using hcs
  obtain ⟨a, hE⟩ := env_of_laid hL
  clear hA0 hval0
  simp only [List.append_nil] at hW'
  refine (macts_top a x0 x1 sa scap l W hE hacts).mono fun e W' ⟨he, hb⟩ => ?_
  subst he
  refine ⟨_, rfl, _, _, _, [], [] ++ [] ++ p2, [], hW', ?_, ?_, ?_, hb.frame _, fun h => by cases h⟩
  · exact trodAll_mk1 (shut_bool Tryd.underlying4 true)
  · exact trodAll_below laidOutA hb _ _ _ _ readableA hA2
  · rfl

theorem macts_holds : Rows.MemoryActsSaid :=
  OpenClaim.holds_of_wide 8 Tryd.f8 rfl rfl rfl rfl rfl rfl rfl ⟨rfl, rfl, rfl, rfl, rfl⟩ rfl rfl rfl rfl rfl (by kernel_rfl) Tryd.func8 (by kernel_rfl)
    (of_decide_eq_true (by kernel_rfl)) (by unfold Func.isWrapper; rw [if_neg (of_decide_eq_false (by kernel_rfl))]; exact ⟨rfl, rfl⟩)
    (fun os started H enc _ => macts_lifted os started H enc)

theorem macts_card : Rows.MemoryActsCardSaid :=
  Claim7.holds_tied_plain_at .later [] [.handle, .sentinel, .sentinel, .sentinel, .sentinel, .sentinel, .sentinel, .sentinel, .sentinel, .sentinel] true (true, "20f0be1af0b4ad5f205d49df0617b8352d9b2fe341c50f980159bcaef766778c") true
    macts_holds (fun _ h => absurd h List.not_mem_nil) (by kernel_rfl) (fun _ h => absurd h List.not_mem_nil) memoryActs_row_tie rfl ⟨rfl, rfl⟩ (by kernel_rfl) rfl
    (fun f fn hf hfn => by
      obtain rfl : f = 8 := (Option.some.inj ((show Tryd.prog.funcNamed "quiescent/quiescentlaw1.MemoryActs" = some 8 by kernel_rfl).symm.trans hf)).symm
      obtain rfl : fn = Tryd.f8 := (Option.some.inj (Tryd.func8.symm.trans hfn)).symm
      exact ⟨by kernel_rfl, fun j t ht => by
        rw [Tryd.params8] at ht
        rcases j with _ | _ | _ | j
        · obtain rfl : t = 3 := by simpa using ht.symm
          exact (show Tryd.prog.wantsStandIn 3 = false by kernel_rfl)
        · obtain rfl : t = 3 := by simpa using ht.symm
          exact (show Tryd.prog.wantsStandIn 3 = false by kernel_rfl)
        · obtain rfl : t = 72 := by simpa using ht.symm
          exact (show Tryd.prog.wantsStandIn 72 = false by kernel_rfl)
        · simp at ht⟩)
    (by kernel_rfl)
#print axioms macts_card
end Go.Proofs.YtcnemlamlchnkaaDoor
