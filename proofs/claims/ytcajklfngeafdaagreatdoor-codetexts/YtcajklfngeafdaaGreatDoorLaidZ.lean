/- From the condition of CodeTexts and CodeReads on the listed variables to 'EnvZ'; a world that meets the condition. -/
import Derived.Test.YtcajklfngeafdaaGreatDoorSents
import Derived.Test.YtcajklfngeafdaaGreatDoorFaultR
import Derived.Test.YtcajklfngeafdaaGreatDoorTie
import Derived.SevenTiedAt
namespace Go.Proofs.YtcajklfngeafdaaGreatDoor
open Go.ChangeShapes Go.WideShapes Go.ChangeAt Go.RowKit Go.Joins Go.Deep

def elevenTexts : List (String × List UInt8) := [("quiescent/api.ErrText", [113, 117, 105, 101, 115, 99, 101, 110, 116, 58, 32, 116, 101, 120, 116]), ("quiescent/api.ErrBound", [113, 117, 105, 101, 115, 99, 101, 110, 116, 58, 32, 98, 111, 117, 110, 100]), ("quiescent/api.ErrShape", [113, 117, 105, 101, 115, 99, 101, 110, 116, 58, 32, 115, 104, 97, 112, 101]), ("quiescent/api.ErrName", [113, 117, 105, 101, 115, 99, 101, 110, 116, 58, 32, 110, 97, 109, 101]), ("quiescent/api.ErrNone", [113, 117, 105, 101, 115, 99, 101, 110, 116, 58, 32, 110, 111, 110, 101]), ("quiescent/api.ErrFull", [113, 117, 105, 101, 115, 99, 101, 110, 116, 58, 32, 102, 117, 108, 108]), ("quiescent/api.ErrStale", [113, 117, 105, 101, 115, 99, 101, 110, 116, 58, 32, 115, 116, 97, 108, 101]), ("quiescent/api.ErrHeld", [113, 117, 105, 101, 115, 99, 101, 110, 116, 58, 32, 104, 101, 108, 100]), ("quiescent/api.ErrDone", [113, 117, 105, 101, 115, 99, 101, 110, 116, 58, 32, 100, 111, 110, 101]), ("strconv.ErrRange", [118, 97, 108, 117, 101, 32, 111, 117, 116, 32, 111, 102, 32, 114, 97, 110, 103, 101]), ("strconv.ErrSyntax", [105, 110, 118, 97, 108, 105, 100, 32, 115, 121, 110, 116, 97, 120])]
/-- The list that both rows lay. -/
def laidZ : List (String × DataW Unit) := Rows.codeReadsRow.laid
theorem texts_laid : Rows.codeTextsRow.laid = laidZ := rfl
theorem reads_laid : Rows.codeReadsRow.laid = laidZ := rfl
/-- All but the handle. -/
def plainZ : List (String × DataW Unit) := laidZ.filter fun x => x.2.handleName?.isNone
theorem handlesOnly : (laidZ.filter fun x => x.2.handleName?.isSome) = [("errors.errorType", Rows.laid_errors_errorType)] := by kernel_rfl
theorem elevenOnly : (plainZ.filter fun x => match x.2 with | .iface _ _ => true | _ => false) = elevenTexts.map sentOf := by kernel_rfl
theorem powOnly : (plainZ.filter fun x => x.1 == "internal/strconv.uint64pow10") = [("internal/strconv.uint64pow10", Lib.tabData .u64 Lib.pow10Tab)] := by kernel_rfl
theorem gErr : Tryz.prog.globalNamed "errors.errorType" = some 9 := by kernel_rfl
theorem g0 : Tryz.prog.globalNamed "quiescent/api.ErrText" = some 1 := by kernel_rfl
theorem gT0 : (Tryz.prog.globals[1]?).map (·.type) = some 30 := by kernel_rfl
theorem g1 : Tryz.prog.globalNamed "quiescent/api.ErrBound" = some 0 := by kernel_rfl
theorem gT1 : (Tryz.prog.globals[0]?).map (·.type) = some 30 := by kernel_rfl
theorem g2 : Tryz.prog.globalNamed "quiescent/api.ErrShape" = some 2 := by kernel_rfl
theorem gT2 : (Tryz.prog.globals[2]?).map (·.type) = some 30 := by kernel_rfl
theorem g3 : Tryz.prog.globalNamed "quiescent/api.ErrName" = some 3 := by kernel_rfl
theorem gT3 : (Tryz.prog.globals[3]?).map (·.type) = some 30 := by kernel_rfl
theorem g4 : Tryz.prog.globalNamed "quiescent/api.ErrNone" = some 4 := by kernel_rfl
theorem gT4 : (Tryz.prog.globals[4]?).map (·.type) = some 30 := by kernel_rfl
theorem g5 : Tryz.prog.globalNamed "quiescent/api.ErrFull" = some 5 := by kernel_rfl
theorem gT5 : (Tryz.prog.globals[5]?).map (·.type) = some 30 := by kernel_rfl
theorem g6 : Tryz.prog.globalNamed "quiescent/api.ErrStale" = some 6 := by kernel_rfl
theorem gT6 : (Tryz.prog.globals[6]?).map (·.type) = some 30 := by kernel_rfl
theorem g7 : Tryz.prog.globalNamed "quiescent/api.ErrHeld" = some 7 := by kernel_rfl
theorem gT7 : (Tryz.prog.globals[7]?).map (·.type) = some 30 := by kernel_rfl
theorem g8 : Tryz.prog.globalNamed "quiescent/api.ErrDone" = some 8 := by kernel_rfl
theorem gT8 : (Tryz.prog.globals[8]?).map (·.type) = some 30 := by kernel_rfl
theorem g9 : Tryz.prog.globalNamed "strconv.ErrRange" = some 13 := by kernel_rfl
theorem gT9 : (Tryz.prog.globals[13]?).map (·.type) = some 30 := by kernel_rfl
theorem g10 : Tryz.prog.globalNamed "strconv.ErrSyntax" = some 12 := by kernel_rfl
theorem gT10 : (Tryz.prog.globals[12]?).map (·.type) = some 30 := by kernel_rfl
theorem elevenG : ∀ x ∈ elevenTexts, ∃ g, Tryz.prog.globalNamed x.1 = some g ∧ (Tryz.prog.globals[g]?).map (·.type) = some 30 := by
  intro x hx
  simp only [elevenTexts, List.mem_cons, List.not_mem_nil, or_false] at hx
  rcases hx with rfl | rfl | rfl | rfl | rfl | rfl | rfl | rfl | rfl | rfl | rfl
  · exact ⟨_, g0, gT0⟩
  · exact ⟨_, g1, gT1⟩
  · exact ⟨_, g2, gT2⟩
  · exact ⟨_, g3, gT3⟩
  · exact ⟨_, g4, gT4⟩
  · exact ⟨_, g5, gT5⟩
  · exact ⟨_, g6, gT6⟩
  · exact ⟨_, g7, gT7⟩
  · exact ⟨_, g8, gT8⟩
  · exact ⟨_, g9, gT9⟩
  · exact ⟨_, g10, gT10⟩
theorem rtypeIs : (Tryz.prog.cutTypes.find? (·.1 == "internal/reflectlite.rtype")).map (·.2) = some 116 := by kernel_rfl
theorem errorRows : ((List.range 202).filter fun t => Tryz.prog.rowNamed t [101, 114, 114, 111, 114]) = [30] := by kernel_rfl
theorem manyTypes : Tryz.prog.types.size = 202 := by kernel_rfl
theorem handleIs : typeHandle Tryz.prog 30 = .pointer (some ⟨18, 30, none⟩) := by kernel_rfl
theorem star : "*" ++ "errors.errorString" = "*errors.errorString" := by decide
theorem errName (u : TypeId) (h : Tryz.prog.typeName? 3 u = some "*errors.errorString") : u = 171 :=
  typeName_ptr_named (nm := "errors.errorString") (by rw [star]; kernel_rfl) (by kernel_rfl) (by decide) u (by rw [star]; exact h)
theorem esStruct : ∃ f : Field, Tryz.prog.underlying 173 = some (.struct #[f]) ∧ f.type = 9 ∧ f.offset = 0 := ⟨_, Tryz.underlying173, rfl, rfl⟩
theorem esCells : Tryz.prog.cellsOf 173 = 1 := by kernel_rfl
theorem strCells : Tryz.prog.cellsOf 9 = 1 := by kernel_rfl
theorem gPow : Tryz.prog.globalNamed "internal/strconv.uint64pow10" = some 11 := by kernel_rfl
theorem gPowT : (Tryz.prog.globals[11]?).map (·.type) = some 151 := by kernel_rfl

/-- WHAT THE CONDITION GIVES A WALK. -/
theorem envz_of_laid {W : World} (h : laidMetH Tryz.prog laidZ W) (hsh : W.ShapedOpen Tryz.prog) : ∃ a, EnvZ a W := by
  unfold laidMetH at h
  rw [handlesOnly] at h
  simp only at h
  obtain ⟨h, hh⟩ := h
  replace h : laidMet Tryz.prog plainZ W := h
  have hp := h.filter fun x => x.1 == "internal/strconv.uint64pow10"
  rw [powOnly] at hp
  have hs := h.filter fun x => match x.2 with | .iface _ _ => true | _ => false
  rw [elevenOnly] at hs
  obtain ⟨ps, hv, hnd, hrows⟩ := hs
  obtain ⟨f, hf, hft, hfo⟩ := esStruct
  obtain ⟨ads, hl, hn, hm, hat⟩ := sents_of_laid (f := f) Tryz.underlying30 errName Tryz.underlying171 hf hft hfo Tryz.underlying9 esCells strCells elevenTexts ps hv hnd hrows elevenG
  have hl11 : ads.length = 11 := hl
  have hh1 := hh _ (List.mem_singleton.2 rfl)
  obtain ⟨name, u, ty, e1, e2, e3, e4, e5⟩ := (show ∃ name u ty, (Rows.laid_errors_errorType : DataW Unit).handleName? = some name ∧ (Tryz.prog.cutTypes.find? (·.1 == "internal/reflectlite.rtype")).map (·.2) = some u ∧ ty < Tryz.prog.types.size ∧ Tryz.prog.rowNamed ty name = true ∧ W.var? Tryz.prog "errors.errorType" = some #[.iface u (.agg #[typeHandle Tryz.prog ty])] from hh1)
  have en : name = [101, 114, 114, 111, 114] := (Option.some.inj e1).symm
  subst en
  obtain rfl := Option.some.inj (rtypeIs.symm.trans e2)
  have hmm : ty ∈ (List.range 202).filter fun t => Tryz.prog.rowNamed t [101, 114, 114, 111, 114] := List.mem_filter.2 ⟨List.mem_range.2 (by rw [← manyTypes]; exact e3), e4⟩
  rw [errorRows] at hmm
  obtain rfl := List.mem_singleton.1 hmm
  rw [handleIs] at e5
  have look : ∀ (i : Nat) (x : String × List UInt8), elevenTexts[i]? = some x → W.var? Tryz.prog x.1 = some #[errAt (ads.getD i default)] := fun i x hx => by
    obtain ⟨a, ha, hva⟩ := hat i x hx
    rw [List.getD_eq_getElem?_getD, ha]; exact hva
  refine ⟨fun i => ads.getD i default, ⟨⟨fun i hi => ?_, fun i hi => ?_, fun i j hi hj hij => ?_, ?_⟩, Lib.tabIs_of_head gPow gPowT Tryz.underlying151 Tryz.underlying134 (by kernel_rfl) (by kernel_rfl) hp, Tryz.laysM146.s1_3 W hsh,
    ⟨171, .pointer (some (ads.getD 10 default)), by simpa using World.var?_cell g10 (look 10 _ rfl) 0⟩⟩⟩
  · match i, hi with
    | 0, _ => simpa [gid] using World.var?_cell g0 (look 0 _ rfl) 0
    | 1, _ => simpa [gid] using World.var?_cell g1 (look 1 _ rfl) 0
    | 2, _ => simpa [gid] using World.var?_cell g2 (look 2 _ rfl) 0
    | 3, _ => simpa [gid] using World.var?_cell g3 (look 3 _ rfl) 0
    | 4, _ => simpa [gid] using World.var?_cell g4 (look 4 _ rfl) 0
    | 5, _ => simpa [gid] using World.var?_cell g5 (look 5 _ rfl) 0
    | 6, _ => simpa [gid] using World.var?_cell g6 (look 6 _ rfl) 0
    | 7, _ => simpa [gid] using World.var?_cell g7 (look 7 _ rfl) 0
    | 8, _ => simpa [gid] using World.var?_cell g8 (look 8 _ rfl) 0
  · refine (hm (ads.getD i default) ?_).2
    rw [List.getD_eq_getElem?_getD, List.getElem?_eq_getElem (by omega)]
    exact List.getElem_mem _
  · intro e
    simp only [List.getD_eq_getElem?_getD] at e
    rw [List.getElem?_eq_getElem (show i < ads.length by omega), List.getElem?_eq_getElem (show j < ads.length by omega)] at e
    simp only [Option.getD_some] at e
    have hpw := List.pairwise_iff_getElem.1 hn
    rcases Nat.lt_or_gt_of_ne hij with h | h
    · exact hpw i j _ _ h e
    · exact hpw j i _ _ h e.symm
  · simpa using World.var?_cell gErr e5 0

/-- The world to lay in: the handle stands already. -/
noncomputable def worldH (os : Os) : World := (World.holding Tryz.prog os ⟨#[], #[], []⟩).setCell ⟨9, 0, none⟩ (.iface 116 (.agg #[.pointer (some ⟨18, 30, none⟩)]))
/-- A world that meets the condition. -/
noncomputable def worldZ (os : Os) : World := (worldH os).layVars Tryz.prog plainZ
theorem worldZ_os (os : Os) : (worldZ os).os = os := (World.layVars_os _ _ _).trans rfl
theorem plain_met (os : Os) : laidMet Tryz.prog plainZ (worldZ os) := by
  have e1 : (plainZ.filter fun x => (plainZ.map (·.1)).contains x.1) = plainZ := List.filter_eq_self.2 fun x hx => List.contains_iff_mem.2 (List.mem_map.2 ⟨x, hx, rfl⟩)
  have e2 : (plainZ.filter fun x => !(plainZ.map (·.1)).contains x.1) = [] := List.filter_eq_nil_iff.2 fun x hx => by rw [List.contains_iff_mem.2 (List.mem_map.2 ⟨x, hx, rfl⟩)]; simp
  exact laidMet_layVars (w0 := worldH os) (plainZ.map (·.1)) [] (by rw [e1]; rfl) (by rw [e1]; kernel_rfl) (by rw [e1]; kernel_rfl) (by rw [e2]; exact LaidIn.none)
theorem laid_met (os : Os) (args : Array Value) : laidMetH Tryz.prog laidZ ((worldZ os).forCall (fun _ _ => 0) ⟨#[], args, []⟩).memory :=
  laidMetH.of_heap (w := worldZ os) (by simp [World.memory, World.forCall, Input.heap]) (laidMetH_of_parts3 (fuel := 8) (plain_met os) (by kernel_rfl) (by kernel_rfl))
theorem worldZ_shaped (os : Os) (args : Array Value) : ((worldZ os).forCall (fun _ _ => 0) ⟨#[], args, []⟩).Shaped Tryz.prog := World.shaped_of_ZipB (by kernel_rfl) (by kernel_rfl)
end Go.Proofs.YtcajklfngeafdaaGreatDoor
