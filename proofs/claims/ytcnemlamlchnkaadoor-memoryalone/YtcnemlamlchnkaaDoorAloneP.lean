/- quiescentlaw1.MemoryAlone returns true for every list of acts, in every start in which the listed variables (ErrBound, ErrNone, ErrFull, ErrStale of package api) hold what the program's text lays in them; the card ties that. -/
import Derived.Test.YtcnemlamlchnkaaDoorMactL
import Derived.Test.YtcnemlamlchnkaaDoorLaid4
import Derived.Test.YtcnemlamlchnkaaDoorAloneT
import Derived.Test.YtcnemlamlchnkaaDoorTie
import Derived.Test.YtcnemlamlchnkaaDoorCards
import Derived.SevenTiedAt
namespace Go.Proofs.YtcnemlamlchnkaaDoor
open Go.ChangeShapes Go.WideShapes Go.ChangeAt Go.RowKit Go.Joins Go.Deep

theorem alone_laid : Rows.memoryAloneRow.laid = laidFour := rfl
theorem readableA : ∀ t ∈ [72], Tryd.prog.readableRec t = true ∧ t < Tryd.prog.types.size := by
  intro t ht
  simp only [List.mem_cons, List.not_mem_nil, or_false] at ht
  subst ht
  · exact ⟨by kernel_rfl, of_decide_eq_true (by kernel_rfl)⟩

set_option maxRecDepth 100000 in
theorem alone_lifted (os : Os) (started : os.Started) (H : Type) (enc : TypeId × Value → H) :
    ReturnsInHanded {} Tryd.checked os 7 .any (fun w args => (Rows.memoryAloneSpec.pre enc Tryd.prog Tryd.f7 [] false w args ∧ laidMetH Tryd.prog Rows.memoryAloneRow.laid w) ∧ sizedMet enc Tryd.prog Tryd.f7 (OpenSpec.ofChange Rows.memoryAloneSpec) false w args)
      (Rows.memoryAloneSpec.post enc Tryd.prog Tryd.f7 false true false false) := by
  rw [alone_laid]
  refine returnsInHanded_of_change_and (C := Tryd.checked) (X := fun w _ => laidMetH Tryd.prog laidFour w) (fun _ _ _ hh h => h.of_heap hh) own started (by kernel_rfl) Tryd.func7
    (ChangeSpec.witness_shaped (enc := enc) (C := Tryd.checked) (os := os) (X := fun w _ => laidMetH Tryd.prog laidFour w) false (World.doorLaid Tryd.prog 400 os) #[.slice none 0 0] 8 rfl (World.shaped_of_RefB (by kernel_rfl) (by kernel_rfl)) (by kernel_rfl) (by kernel_rfl) (by kernel_rfl) (door_four os _)) ?_
  intro W base args ds gs before hval0 hW _ _ hL _
  have hval : ∀ (j : Nat) t v, Tryd.f7.params[j]? = some t → args[j]? = some v → Value.okWide Tryd.prog W .any base t v := hval0
  have hW' := hW
  obtain ⟨p, q, hA0, hV, rfl, hfz, hnd⟩ := hW
  have hA : DataW.TrodAll enc Tryd.prog W 0 (fun _ => true) true Tryd.f7.params.toList args.toList ds p := hA0
  rw [Tryd.params7] at hA hval
  have hA2 := hA
  obtain ⟨v0, d0, rfl, rfl, h0⟩ := trodAll_one hA
  obtain ⟨rfl, rfl⟩ := trodVars_none hV
  obtain ⟨sa, slen, scap, rfl⟩ := okWide_slice Tryd.underlying72 (hval 0 72 v0 rfl rfl)
  obtain ⟨fuel, hf⟩ := h0
  obtain ⟨ad, cap, l, hcs, hacts⟩ := macts_of_trod hf
  obtain ⟨rfl, rfl, rfl⟩ : sa = ad ∧ slen = l.length ∧ scap = cap := by simpa [Value.cells] using hcs
  obtain ⟨a, hE⟩ := envM_of_laid hL
  clear hA0 hval0
  simp only [List.append_nil] at hW'
  refine (alone_top a sa scap l W hE hacts).mono fun e W' ⟨he, hb⟩ => ?_
  subst he
  refine ⟨_, rfl, _, _, _, [], p, [], hW', ?_, ?_, ?_, hb.frame _, fun h => by cases h⟩
  · exact trodAll_mk1 (shut_bool Tryd.underlying4 true)
  · exact trodAll_below laidOutA hb _ _ _ _ readableA hA2
  · rfl

theorem alone_holds : Rows.MemoryAloneSaid :=
  OpenClaim.holds_of_wide 7 Tryd.f7 rfl rfl rfl rfl rfl rfl rfl ⟨rfl, rfl, rfl, rfl, rfl⟩ rfl rfl rfl rfl rfl (by kernel_rfl) Tryd.func7 (by kernel_rfl)
    (of_decide_eq_true (by kernel_rfl)) (by unfold Func.isWrapper; rw [if_neg (of_decide_eq_false (by kernel_rfl))]; exact ⟨rfl, rfl⟩)
    (fun os started H enc _ => alone_lifted os started H enc)

theorem alone_card : Rows.MemoryAloneCardSaid :=
  Claim7.holds_tied_plain_at .later [] [.sentinel, .sentinel, .sentinel, .sentinel] true (true, "20f0be1af0b4ad5f205d49df0617b8352d9b2fe341c50f980159bcaef766778c") true
    alone_holds (fun _ h => absurd h List.not_mem_nil) (by kernel_rfl) (fun _ h => absurd h List.not_mem_nil) memoryAlone_row_tie rfl ⟨rfl, rfl⟩ (by kernel_rfl) rfl
    (fun f fn hf hfn => by
      obtain rfl : f = 7 := (Option.some.inj ((show Tryd.prog.funcNamed "quiescent/quiescentlaw1.MemoryAlone" = some 7 by kernel_rfl).symm.trans hf)).symm
      obtain rfl : fn = Tryd.f7 := (Option.some.inj (Tryd.func7.symm.trans hfn)).symm
      exact ⟨by kernel_rfl, fun j t ht => by
        rw [Tryd.params7] at ht
        rcases j with _ | j
        · obtain rfl : t = 72 := by simpa using ht.symm
          exact (show Tryd.prog.wantsStandIn 72 = false by kernel_rfl)
        · simp at ht⟩)
    (by kernel_rfl)
#print axioms alone_card
end Go.Proofs.YtcnemlamlchnkaaDoor
