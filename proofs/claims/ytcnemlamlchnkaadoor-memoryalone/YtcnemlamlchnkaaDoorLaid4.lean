/- From the condition of a row that lists four errors to 'EnvM'; a world that meets the condition. -/
import Derived.Test.YtcnemlamlchnkaaDoorLaid
import Derived.Test.YtcnemlamlchnkaaDoorEnvM
namespace Go.Proofs.YtcnemlamlchnkaaDoor
open Go.ChangeShapes Go.WideShapes Go.ChangeAt Go.RowKit

def fourTexts : List (String × List UInt8) := [("quiescent/api.ErrBound", [113, 117, 105, 101, 115, 99, 101, 110, 116, 58, 32, 98, 111, 117, 110, 100]), ("quiescent/api.ErrNone", [113, 117, 105, 101, 115, 99, 101, 110, 116, 58, 32, 110, 111, 110, 101]), ("quiescent/api.ErrFull", [113, 117, 105, 101, 115, 99, 101, 110, 116, 58, 32, 102, 117, 108, 108]), ("quiescent/api.ErrStale", [113, 117, 105, 101, 115, 99, 101, 110, 116, 58, 32, 115, 116, 97, 108, 101])]

/-- The list that a row lays that names four errors alone. -/
def laidFour : List (String × DataW Unit) := fourTexts.map sentOf

theorem fourHandles : (laidFour.filter fun x => x.2.handleName?.isSome) = [] := by kernel_rfl
theorem fourOnly : (laidFour.filter fun x => x.2.handleName?.isNone) = fourTexts.map sentOf := by kernel_rfl
theorem fourG : ∀ x ∈ fourTexts, ∃ g, Tryd.prog.globalNamed x.1 = some g ∧ (Tryd.prog.globals[g]?).map (·.type) = some 25 := by
  intro x hx
  simp only [fourTexts, List.mem_cons, List.not_mem_nil, or_false] at hx
  rcases hx with rfl | rfl | rfl | rfl
  · exact ⟨_, g1, gT1⟩
  · exact ⟨_, g4, gT4⟩
  · exact ⟨_, g5, gT5⟩
  · exact ⟨_, g6, gT6⟩

/-- WHAT THE CONDITION GIVES A WALK. -/
theorem envM_of_laid {W : World} (h : laidMetH Tryd.prog laidFour W) : ∃ a, EnvM a W := by
  unfold laidMetH at h
  rw [fourHandles, fourOnly] at h
  simp only at h
  obtain ⟨ps, hv, hnd, hrows⟩ := h
  obtain ⟨f, hf, hft, hfo⟩ := esStruct
  obtain ⟨ads, hl, hn, hm, hat⟩ := sents_of_laid (f := f) Tryd.underlying25 errName Tryd.underlying89 hf hft hfo Tryd.underlying9 esCells strCells fourTexts ps hv hnd hrows fourG
  have look : ∀ (i : Nat) (x : String × List UInt8), fourTexts[i]? = some x → W.var? Tryd.prog x.1 = some #[errAt (ads.getD i default)] := fun i x hx => by
    obtain ⟨a, ha, hva⟩ := hat i x hx
    rw [List.getD_eq_getElem?_getD, ha]; exact hva
  refine ⟨fun i => if i = 1 then ads.getD 0 default else if i = 4 then ads.getD 1 default else if i = 5 then ads.getD 2 default else ads.getD 3 default, ⟨fun i hi => ?_⟩⟩
  rcases hi with rfl | rfl | rfl | rfl
  · simpa [gid] using World.var?_cell g1 (look 0 _ rfl) 0
  · simpa [gid] using World.var?_cell g4 (look 1 _ rfl) 0
  · simpa [gid] using World.var?_cell g5 (look 2 _ rfl) 0
  · simpa [gid] using World.var?_cell g6 (look 3 _ rfl) 0

/-- The door's own heap meets the condition. -/
theorem door_four (os : Os) (args : Array Value) : laidMetH Tryd.prog laidFour ((World.doorLaid Tryd.prog 400 os).forCall (fun _ _ => 0) ⟨#[], args, []⟩).memory :=
  laidMetH_of_parts3 (fuel := 8) (laidMet_of_run' 8 (by kernel_rfl) (by kernel_rfl)) (by kernel_rfl) (by kernel_rfl)
end Go.Proofs.YtcnemlamlchnkaaDoor
