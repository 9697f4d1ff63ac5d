/- From CodeTwice's condition on the listed variables to 'EnvX'; a world that meets the condition; CodeTwice's card. -/
import Derived.Test.YtcajklfngeafdaaDoorSents
import Derived.Test.YtcajklfngeafdaaDoorTwiceW
import Derived.Test.YtcajklfngeafdaaDoorTie
import Derived.SevenTiedAt
namespace Go.Proofs.YtcajklfngeafdaaDoor
open Go.ChangeShapes Go.WideShapes Go.ChangeAt Go.RowKit Go.Joins Go.Deep

def sevenTexts : List (String × List UInt8) := [("quiescent/api.ErrText", [113, 117, 105, 101, 115, 99, 101, 110, 116, 58, 32, 116, 101, 120, 116]), ("quiescent/api.ErrBound", [113, 117, 105, 101, 115, 99, 101, 110, 116, 58, 32, 98, 111, 117, 110, 100]), ("quiescent/api.ErrShape", [113, 117, 105, 101, 115, 99, 101, 110, 116, 58, 32, 115, 104, 97, 112, 101]), ("quiescent/api.ErrName", [113, 117, 105, 101, 115, 99, 101, 110, 116, 58, 32, 110, 97, 109, 101]), ("quiescent/api.ErrNone", [113, 117, 105, 101, 115, 99, 101, 110, 116, 58, 32, 110, 111, 110, 101]), ("strconv.ErrRange", [118, 97, 108, 117, 101, 32, 111, 117, 116, 32, 111, 102, 32, 114, 97, 110, 103, 101]), ("strconv.ErrSyntax", [105, 110, 118, 97, 108, 105, 100, 32, 115, 121, 110, 116, 97, 120])]
theorem sevenOnly : (Rows.codeTwiceRow.laid.filter fun x => match x.2 with | .iface _ _ => true | _ => false) = sevenTexts.map sentOf := by kernel_rfl
theorem powOnly : (Rows.codeTwiceRow.laid.filter fun x => x.1 == "internal/strconv.uint64pow10") = [("internal/strconv.uint64pow10", Lib.tabData .u64 Lib.pow10Tab)] := by kernel_rfl
theorem laid_plain : (Rows.codeTwiceRow.laid.all fun x => x.2.handleName?.isNone) = true := by kernel_rfl
theorem g0 : Tryd.prog.globalNamed "quiescent/api.ErrText" = some 1 := by kernel_rfl
theorem gT0 : (Tryd.prog.globals[1]?).map (·.type) = some 25 := by kernel_rfl
theorem g1 : Tryd.prog.globalNamed "quiescent/api.ErrBound" = some 0 := by kernel_rfl
theorem gT1 : (Tryd.prog.globals[0]?).map (·.type) = some 25 := by kernel_rfl
theorem g2 : Tryd.prog.globalNamed "quiescent/api.ErrShape" = some 2 := by kernel_rfl
theorem gT2 : (Tryd.prog.globals[2]?).map (·.type) = some 25 := by kernel_rfl
theorem g3 : Tryd.prog.globalNamed "quiescent/api.ErrName" = some 3 := by kernel_rfl
theorem gT3 : (Tryd.prog.globals[3]?).map (·.type) = some 25 := by kernel_rfl
theorem g4 : Tryd.prog.globalNamed "quiescent/api.ErrNone" = some 4 := by kernel_rfl
theorem gT4 : (Tryd.prog.globals[4]?).map (·.type) = some 25 := by kernel_rfl
theorem g5 : Tryd.prog.globalNamed "strconv.ErrRange" = some 7 := by kernel_rfl
theorem gT5 : (Tryd.prog.globals[7]?).map (·.type) = some 25 := by kernel_rfl
theorem g6 : Tryd.prog.globalNamed "strconv.ErrSyntax" = some 6 := by kernel_rfl
theorem gT6 : (Tryd.prog.globals[6]?).map (·.type) = some 25 := by kernel_rfl
theorem sevenG : ∀ x ∈ sevenTexts, ∃ g, Tryd.prog.globalNamed x.1 = some g ∧ (Tryd.prog.globals[g]?).map (·.type) = some 25 := by
  intro x hx
  simp only [sevenTexts, List.mem_cons, List.not_mem_nil, or_false] at hx
  rcases hx with rfl | rfl | rfl | rfl | rfl | rfl | rfl
  · exact ⟨_, g0, gT0⟩
  · exact ⟨_, g1, gT1⟩
  · exact ⟨_, g2, gT2⟩
  · exact ⟨_, g3, gT3⟩
  · exact ⟨_, g4, gT4⟩
  · exact ⟨_, g5, gT5⟩
  · exact ⟨_, g6, gT6⟩
theorem star : "*" ++ "errors.errorString" = "*errors.errorString" := by decide
theorem errName (u : TypeId) (h : Tryd.prog.typeName? 3 u = some "*errors.errorString") : u = 117 :=
  typeName_ptr_named (nm := "errors.errorString") (by rw [star]; kernel_rfl) (by kernel_rfl) (by decide) u (by rw [star]; exact h)
theorem esStruct : ∃ f : Field, Tryd.prog.underlying 119 = some (.struct #[f]) ∧ f.type = 9 ∧ f.offset = 0 := ⟨_, Tryd.underlying119, rfl, rfl⟩
theorem esCells : Tryd.prog.cellsOf 119 = 1 := by kernel_rfl
theorem strCells : Tryd.prog.cellsOf 9 = 1 := by kernel_rfl
theorem gPow : Tryd.prog.globalNamed "internal/strconv.uint64pow10" = some 8 := by kernel_rfl
theorem gPowT : (Tryd.prog.globals[8]?).map (·.type) = some 105 := by kernel_rfl

/-- WHAT THE CONDITION GIVES A WALK. -/
theorem envx_of_laid {W : World} (h : laidMetH Tryd.prog Rows.codeTwiceRow.laid W) (hsh : W.ShapedOpen Tryd.prog) : ∃ a, EnvX a W := by
  rw [MakeChecks.laidMetH_plain _ _ _ laid_plain] at h
  have hp := h.filter fun x => x.1 == "internal/strconv.uint64pow10"
  rw [powOnly] at hp
  have hs := h.filter fun x => match x.2 with | .iface _ _ => true | _ => false
  rw [sevenOnly] at hs
  obtain ⟨ps, hv, hnd, hrows⟩ := hs
  obtain ⟨f, hf, hft, hfo⟩ := esStruct
  obtain ⟨ads, hl, hn, hm, hat⟩ := sents_of_laid (f := f) Tryd.underlying25 errName Tryd.underlying117 hf hft hfo Tryd.underlying9 esCells strCells sevenTexts ps hv hnd hrows sevenG
  have look : ∀ (i : Nat) (x : String × List UInt8), sevenTexts[i]? = some x → W.var? Tryd.prog x.1 = some #[xerr (ads.getD i default)] := fun i x hx => by
    obtain ⟨a, ha, hva⟩ := hat i x hx
    rw [List.getD_eq_getElem?_getD, ha]; exact hva
  refine ⟨fun i => ads.getD i default, ⟨fun i hi => ?_, Lib.tabIs_of_head gPow gPowT Tryd.underlying105 Tryd.underlying90 (by kernel_rfl) (by kernel_rfl) hp, ?_, ⟨117, .pointer (some (ads.getD 6 default)), ?_⟩⟩⟩
  · match i, hi with
    | 0, _ => simpa [xid] using World.var?_cell g0 (look 0 _ rfl) 0
    | 1, _ => simpa [xid] using World.var?_cell g1 (look 1 _ rfl) 0
    | 2, _ => simpa [xid] using World.var?_cell g2 (look 2 _ rfl) 0
    | 3, _ => simpa [xid] using World.var?_cell g3 (look 3 _ rfl) 0
    | 4, _ => simpa [xid] using World.var?_cell g4 (look 4 _ rfl) 0
  · exact Tryd.laysM146.s1_3 W hsh
  · simpa using World.var?_cell g6 (look 6 _ rfl) 0

/-- A world that meets the condition. -/
theorem laid_met (os : Os) (args : Array Value) : laidMetH Tryd.prog Rows.codeTwiceRow.laid ((World.laidAll Tryd.prog os Rows.codeTwiceRow.laid).forCall (fun _ _ => 0) ⟨#[], args, []⟩).memory := by
  rw [MakeChecks.laidMetH_plain _ _ _ laid_plain]
  exact laidMet_laidAll _ (by kernel_rfl) (by kernel_rfl)

theorem readableT : ∀ t ∈ [9], Tryd.prog.readableRec t = true ∧ t < Tryd.prog.types.size := by
  intro t ht
  obtain rfl := List.mem_singleton.1 ht
  exact ⟨by kernel_rfl, of_decide_eq_true (by kernel_rfl)⟩

set_option maxRecDepth 100000 in
theorem twice_lifted (os : Os) (started : os.Started) (H : Type) (enc : TypeId × Value → H) :
    ReturnsInHanded {} Tryd.checked os 3 .any (fun w args => (Rows.codeTwiceSpec.pre enc Tryd.prog Tryd.f3 [] false w args ∧ laidMetH Tryd.prog Rows.codeTwiceRow.laid w) ∧ sizedMet enc Tryd.prog Tryd.f3 (OpenSpec.ofChange Rows.codeTwiceSpec) false w args)
      (Rows.codeTwiceSpec.post enc Tryd.prog Tryd.f3 false true false false) := by
  refine lift_shaped (C := Tryd.checked) (X := fun w _ => laidMetH Tryd.prog Rows.codeTwiceRow.laid w) (fun _ _ _ hh h => h.of_heap hh) own started (by kernel_rfl) Tryd.func3
    (ChangeSpec.witness_shaped (enc := enc) (C := Tryd.checked) (os := os) (X := fun w _ => laidMetH Tryd.prog Rows.codeTwiceRow.laid w) false (World.laidAll Tryd.prog os Rows.codeTwiceRow.laid) #[.string ⟨#[]⟩] 8 (World.laidAll_os _ _ _)
      (World.shaped_of_ZipB (by kernel_rfl) (by kernel_rfl)) (by kernel_rfl) (by kernel_rfl) (by kernel_rfl) (laid_met os _)) ?_
  intro W base args ds gs before hval0 hW hL hsh
  have hval : ∀ (j : Nat) t v, Tryd.f3.params[j]? = some t → args[j]? = some v → Value.okWide Tryd.prog W .any base t v := hval0
  have hW' := hW
  obtain ⟨p, q, hA0, hV, rfl, hfz, hnd⟩ := hW
  have hA : DataW.TrodAll enc Tryd.prog W 0 (fun _ => true) true Tryd.f3.params.toList args.toList ds p := hA0
  rw [Tryd.params3] at hA hval
  have hA2 := hA
  obtain ⟨v0, d0, rfl, rfl, h0⟩ := trodAll_one hA
  obtain ⟨rfl, rfl⟩ := trodVars_none hV
  obtain ⟨s, rfl, rfl, rfl, _⟩ := Go.ChangeMaps.open_string Tryd.underlying9 (hval 0 9 v0 rfl rfl) h0
  obtain ⟨a, hE⟩ := envx_of_laid hL hsh
  clear hA0 hval0
  simp only [List.append_nil] at hW'
  refine (twice_any a s W hE).mono fun e W' ⟨he, hb⟩ => ?_
  subst he
  refine ⟨_, rfl, _, _, _, [], [] ++ [], [], hW', ?_, ?_, ?_, hb.frame _, fun h => by cases h⟩
  · exact trodAll_mk1 (shut_bool Tryd.underlying4 true)
  · exact trodAll_below laidOutA hb _ _ _ _ readableT hA2
  · rfl

theorem twice_holds : Rows.CodeTwiceSaid :=
  OpenClaim.holds_of_wide 3 Tryd.f3 rfl rfl rfl rfl rfl rfl rfl ⟨rfl, rfl, rfl, rfl, rfl⟩ rfl rfl rfl rfl rfl (by kernel_rfl) Tryd.func3 (by kernel_rfl)
    (of_decide_eq_true (by kernel_rfl)) (by unfold Func.isWrapper; rw [if_neg (of_decide_eq_false (by kernel_rfl))]; exact ⟨rfl, rfl⟩)
    (fun os started H enc _ => twice_lifted os started H enc)

theorem twice_card : Rows.CodeTwiceCardSaid :=
  Claim7.holds_tied_plain_at .later [] [.data, .data, .data, .data, .sentinel, .sentinel, .sentinel, .sentinel, .sentinel, .sentinel, .sentinel, .pinned] true (true, "8c88b1ac2711590511b5f389f1ef6b22f639a21c0bd3d3ac9da9bd22ad248157") true
    twice_holds (fun _ h => absurd h List.not_mem_nil) (by kernel_rfl) (fun _ h => absurd h List.not_mem_nil) codeTwice_row_tie rfl ⟨rfl, rfl⟩ (by kernel_rfl) rfl
    (fun f fn hf hfn => by
      obtain rfl : f = 3 := (Option.some.inj ((show Tryd.prog.funcNamed "quiescent/quiescentlaw1.CodeTwice" = some 3 by kernel_rfl).symm.trans hf)).symm
      obtain rfl : fn = Tryd.f3 := (Option.some.inj (Tryd.func3.symm.trans hfn)).symm
      exact ⟨by kernel_rfl, fun j t ht => by
        rw [Tryd.params3] at ht
        rcases j with _ | j
        · obtain rfl : t = 9 := by simpa using ht.symm
          exact (show Tryd.prog.wantsStandIn 9 = false by kernel_rfl)
        · simp at ht⟩)
    (by kernel_rfl)
#print axioms twice_card
end Go.Proofs.YtcajklfngeafdaaDoor
