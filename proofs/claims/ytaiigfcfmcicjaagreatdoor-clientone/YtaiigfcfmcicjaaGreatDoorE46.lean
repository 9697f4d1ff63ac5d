/- The law ClientOne answers true for every flavour and numbers that can be handed in; no condition beside the row's own. -/
import Derived.Test.YtaiigfcfmcicjaaGreatDoorE01
import Derived.Test.YtaiigfcfmcicjaaGreatDoorE25
import Derived.Test.YtaiigfcfmcicjaaGreatDoorTie
import Derived.SevenTiedAt
import Derived.Carry
import Derived.Test.YtaiigfcfmcicjaaGreatDoorE30
import Derived.Test.YtaiigfcfmcicjaaGreatDoorE45
import Derived.Test.YtaiigfcfmcicjaaGreatDoorCards
namespace Go.Proofs.YtaiigfcfmcicjaaGreatDoor
set_option maxRecDepth 100000
set_option maxHeartbeats 8000000
section
open Go.ChangeShapes Go.WideShapes Go.ChangeAt Go.RowKit Go.Joins Go.Deep
def sfiveTexts : List (String × List UInt8) := [("quiescent/api.ErrBound", [113, 117, 105, 101, 115, 99, 101, 110, 116, 58, 32, 98, 111, 117, 110, 100]), ("quiescent/api.ErrShape", [113, 117, 105, 101, 115, 99, 101, 110, 116, 58, 32, 115, 104, 97, 112, 101]), ("quiescent/api.ErrName", [113, 117, 105, 101, 115, 99, 101, 110, 116, 58, 32, 110, 97, 109, 101]), ("quiescent/api.ErrNone", [113, 117, 105, 101, 115, 99, 101, 110, 116, 58, 32, 110, 111, 110, 101]), ("quiescent/api.ErrHeld", [113, 117, 105, 101, 115, 99, 101, 110, 116, 58, 32, 104, 101, 108, 100])]
def laidS8 : List (String × DataW Unit) := Rows.clientSafeRow.laid
theorem splain : (laidS8.all fun x => x.2.handleName?.isNone) = true := by kernel_rfl
theorem sfiveOnly : (laidS8.filter fun x => match x.2 with | .iface _ _ => true | _ => false) = sfiveTexts.map sentOf := by kernel_rfl
theorem ls_g0 : Tryz.prog.globalNamed "quiescent/api.ErrBound" = some 1 := by kernel_rfl
theorem ls_gT0 : (Tryz.prog.globals[1]?).map (·.type) = some 26 := by kernel_rfl
theorem ls_g1 : Tryz.prog.globalNamed "quiescent/api.ErrShape" = some 2 := by kernel_rfl
theorem ls_gT1 : (Tryz.prog.globals[2]?).map (·.type) = some 26 := by kernel_rfl
theorem ls_g2 : Tryz.prog.globalNamed "quiescent/api.ErrName" = some 3 := by kernel_rfl
theorem ls_gT2 : (Tryz.prog.globals[3]?).map (·.type) = some 26 := by kernel_rfl
theorem ls_g3 : Tryz.prog.globalNamed "quiescent/api.ErrNone" = some 4 := by kernel_rfl
theorem ls_gT3 : (Tryz.prog.globals[4]?).map (·.type) = some 26 := by kernel_rfl
theorem ls_g4 : Tryz.prog.globalNamed "quiescent/api.ErrHeld" = some 7 := by kernel_rfl
theorem ls_gT4 : (Tryz.prog.globals[7]?).map (·.type) = some 26 := by kernel_rfl
theorem sfiveG : ∀ x ∈ sfiveTexts, ∃ g, Tryz.prog.globalNamed x.1 = some g /\ (Tryz.prog.globals[g]?).map (·.type) = some 26 := by
 intro x hx
 simp only [sfiveTexts, List.mem_cons, List.not_mem_nil, or_false] at hx
 rcases hx with rfl | rfl | rfl | rfl | rfl
 ·exact ⟨_, ls_g0, ls_gT0⟩
 ·exact ⟨_, ls_g1, ls_gT1⟩
 ·exact ⟨_, ls_g2, ls_gT2⟩
 ·exact ⟨_, ls_g3, ls_gT3⟩
 ·exact ⟨_, ls_g4, ls_gT4⟩
theorem ls_star : "*" ++ "errors.errorString" = "*errors.errorString" := by decide
theorem ls_errName (u : TypeId) (h : Tryz.prog.typeName? 3 u = some "*errors.errorString") : u = 227 :=
 typeName_ptr_named (nm := "errors.errorString") (by rw [ls_star]; kernel_rfl) (by kernel_rfl) (by decide) u (by rw [ls_star]; exact h)
theorem ls_esStruct : ∃ f : Field, Tryz.prog.underlying 246 = some (.struct #[f]) /\ f.type = 9 /\ f.offset = 0 := ⟨_, Tryz.underlying246, rfl, rfl⟩
theorem ls_esCells : Tryz.prog.cellsOf 246 = 1 := by kernel_rfl
theorem ls_strCells : Tryz.prog.cellsOf 9 = 1 := by kernel_rfl
theorem env_of_laidS {W : World} (h : laidMetH Tryz.prog laidS8 W) : ∃ a, EnvL a W := by
 rw [MakeChecks.laidMetH_plain _ _ _ splain] at h
 have hs := h.filter fun x => match x.2 with | .iface _ _ => true | _ => false
 rw [sfiveOnly] at hs
 obtain ⟨ps, hv, hnd, hrows⟩ := hs
 obtain ⟨f, hf, hft, hfo⟩ := ls_esStruct
 obtain ⟨ads, hl, hn, hm, hat⟩ := sents_of_laid (f := f) Tryz.underlying26 ls_errName Tryz.underlying227 hf hft hfo Tryz.underlying9 ls_esCells ls_strCells sfiveTexts ps hv hnd hrows sfiveG
 have look : ∀ (i : Nat) (x : String × List UInt8), sfiveTexts[i]? = some x -> W.var? Tryz.prog x.1 = some #[errAt (ads.getD i default)] := fun i x hx => by
  obtain ⟨a, ha, hva⟩ := hat i x hx
  rw [List.getD_eq_getElem?_getD, ha]; exact hva
 refine ⟨fun i => ads.getD (match i with | 1 => 0 | 2 => 1 | 4 => 3 | _ => 4) default, ⟨fun i hi => ?_⟩⟩
 rcases hi with rfl | rfl | rfl | rfl
 ·simpa [gid] using World.var?_cell ls_g0 (look 0 _ rfl) 0
 ·simpa [gid] using World.var?_cell ls_g1 (look 1 _ rfl) 0
 ·simpa [gid] using World.var?_cell ls_g3 (look 3 _ rfl) 0
 ·simpa [gid] using World.var?_cell ls_g4 (look 4 _ rfl) 0
noncomputable def sworld (os : Os) : World := World.laidAll Tryz.prog os laidS8
theorem sworld_os (os : Os) : (sworld os).os = os := World.laidAll_os _ _ _
theorem slaid_met (os : Os) (args : Array Value) : laidMetH Tryz.prog laidS8 ((sworld os).forCall (fun _ _ => 0) ⟨#[], args, []⟩).memory := by
 rw [MakeChecks.laidMetH_plain _ _ _ splain]
 exact laidMet_laidAll _ (by kernel_rfl) (by kernel_rfl)
theorem sworld_shaped (os : Os) (args : Array Value) : ((sworld os).forCall (fun _ _ => 0) ⟨#[], args, []⟩).Shaped Tryz.prog := World.shaped_of_ZipB (by kernel_rfl) (by kernel_rfl)
end
section
open Go.ChangeShapes Go.WideShapes Go.ChangeAt Go.RowKit Go.Joins Go.Deep
theorem readableCO : ∀ t ∈ [3, 54], Tryz.prog.readableRec t = true /\ t < Tryz.prog.types.size := by
 intro t ht
 simp only [List.mem_cons, List.not_mem_nil, or_false] at ht
 rcases ht with rfl | rfl
 ·exact ⟨by kernel_rfl, of_decide_eq_true (by kernel_rfl)⟩
 ·exact ⟨by kernel_rfl, of_decide_eq_true (by kernel_rfl)⟩
theorem cone_lifted (os : Os) (started : os.Started) (H : Type) (enc : TypeId × Value -> H) :
  ReturnsInHanded {} Tryz.checked os 6 .any (fun w args => (Rows.clientOneSpec.pre enc Tryz.prog Tryz.f6 [] false w args /\ laidMetH Tryz.prog Rows.clientOneRow.laid w) /\ sizedMet enc Tryz.prog Tryz.f6 (OpenSpec.ofChange Rows.clientOneSpec) false w args)
   (Rows.clientOneSpec.post enc Tryz.prog Tryz.f6 false true false false) := by
 refine lift_shaped (C := Tryz.checked) (X := fun w _ => laidMetH Tryz.prog Rows.clientOneRow.laid w) (fun _ _ _ hh h => h.of_heap hh) own started (by kernel_rfl) Tryz.func6
  (ChangeSpec.witness_shaped (enc := enc) (C := Tryz.checked) (os := os) (X := fun w _ => laidMetH Tryz.prog Rows.clientOneRow.laid w) false (sworld os) #[.int .i64 0, .slice none 0 0] 8 (sworld_os os)
    (sworld_shaped os _) (by kernel_rfl) (by kernel_rfl) (by kernel_rfl) (slaid_met os _)) ?_
 intro W base args ds gs before hval0 hW hL hsh
 have hval : ∀ (j : Nat) t v, Tryz.f6.params[j]? = some t -> args[j]? = some v -> Value.okWide Tryz.prog W .any base t v := hval0
 have hW' := hW
 obtain ⟨p, q, hA0, hV, rfl, hfz, hnd⟩ := hW
 have hA : DataW.TrodAll enc Tryz.prog W 0 (fun _ => true) true Tryz.f6.params.toList args.toList ds p := hA0
 rw [Tryz.params6] at hA hval
 have hA2 := hA
 obtain ⟨v0, v1, d0, d1, p0, p1, rfl, rfl, rfl, h0, h1⟩ := trodAll_two hA
 obtain ⟨rfl, rfl⟩ := trodVars_none hV
 obtain ⟨n0, rfl⟩ := okWide_int Tryz.underlying3 (hval 0 3 v0 rfl rfl)
 obtain ⟨s2, sl2, sc2, rfl⟩ := okWide_slice Tryz.underlying54 (hval 1 54 v1 rfl rfl)
 obtain ⟨f2, hf2⟩ := h1
 obtain ⟨ada, capa, la, q2, hna, hca, -⟩ := numsS_of_trod hf2
 obtain ⟨rfl, rfl, rfl⟩ : s2 = ada /\ sl2 = la.length /\ sc2 = capa := by simpa [Value.cells] using q2
 obtain ⟨a, hE⟩ := env_of_laidS hL
 clear hA0 hval0
 simp only [List.append_nil] at hW'
 refine (cone_any hE n0 hna).mono fun e W' ⟨he, hb⟩ => ?_
 subst he
 refine ⟨_, rfl, _, _, _, [], p0 ++ p1, [], hW', ?_, ?_, ?_, hb.frame _, fun h => by cases h⟩
 ·exact trodAll_mk1 (shut_bool Tryz.underlying4 true)
 ·exact trodAll_below laidOutA hb _ _ _ _ readableCO hA2
 ·rfl
theorem cone_holds : Rows.ClientOneSaid :=
 OpenClaim.holds_of_wide 6 Tryz.f6 rfl rfl rfl rfl rfl rfl rfl ⟨rfl, rfl, rfl, rfl, rfl⟩ rfl rfl rfl rfl rfl (by kernel_rfl) Tryz.func6 (by kernel_rfl)
  (of_decide_eq_true (by kernel_rfl)) (by unfold Func.isWrapper; rw [if_neg (of_decide_eq_false (by kernel_rfl))]; exact ⟨rfl, rfl⟩)
  (fun os started H enc _ => cone_lifted os started H enc)
theorem cone_card : Rows.ClientOneCardSaid :=
 Claim7.holds_tied_plain_at .later [] [.data, .data, .data, .sentinel, .sentinel, .sentinel, .sentinel, .sentinel] true (true, "d8fe092f434f16a9a0ea9d3806d5771d1266082f0aa16b571ff920b853d9c700") true
  cone_holds (fun _ h => absurd h List.not_mem_nil) (by kernel_rfl) (fun _ h => absurd h List.not_mem_nil) clientOne_row_tie rfl ⟨rfl, rfl⟩ (by kernel_rfl) rfl
  (fun f fn hf hfn => by
    obtain rfl : f = 6 := (Option.some.inj ((show Tryz.prog.funcNamed "quiescent/quiescentlaw2.ClientOne" = some 6 by kernel_rfl).symm.trans hf)).symm
    obtain rfl : fn = Tryz.f6 := (Option.some.inj (Tryz.func6.symm.trans hfn)).symm
    exact ⟨by kernel_rfl, fun j t ht => by
     rw [Tryz.params6] at ht
     rcases j with _ | _ | j
     ·obtain rfl : t = 3 := by simpa using ht.symm
      exact (show Tryz.prog.wantsStandIn 3 = false by kernel_rfl)
     ·obtain rfl : t = 54 := by simpa using ht.symm
      exact (show Tryz.prog.wantsStandIn 54 = false by kernel_rfl)
     ·simp at ht⟩)
  (by kernel_rfl)
#print axioms cone_card
end
end Go.Proofs.YtaiigfcfmcicjaaGreatDoor
