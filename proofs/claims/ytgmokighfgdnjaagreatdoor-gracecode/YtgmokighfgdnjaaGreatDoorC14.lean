import Derived.Test.YtgmokighfgdnjaaGreatDoorC01
import Derived.Test.YtgmokighfgdnjaaGreatDoorC02
import Derived.Test.YtgmokighfgdnjaaGreatDoorTie
import Derived.SevenTiedAt
import Derived.Test.YtgmokighfgdnjaaGreatDoorC13

/- LaidG -/
namespace Go.Proofs.YtgmokighfgdnjaaGreatDoor
open Go.ChangeShapes Go.WideShapes Go.ChangeAt Go.RowKit Go.Joins Go.Deep

def gnineTexts : List (String × List UInt8) := [("quiescent/api.ErrText", [113, 117, 105, 101, 115, 99, 101, 110, 116, 58, 32, 116, 101, 120, 116]), ("quiescent/api.ErrBound", [113, 117, 105, 101, 115, 99, 101, 110, 116, 58, 32, 98, 111, 117, 110, 100]), ("quiescent/api.ErrShape", [113, 117, 105, 101, 115, 99, 101, 110, 116, 58, 32, 115, 104, 97, 112, 101]), ("quiescent/api.ErrName", [113, 117, 105, 101, 115, 99, 101, 110, 116, 58, 32, 110, 97, 109, 101]), ("quiescent/api.ErrNone", [113, 117, 105, 101, 115, 99, 101, 110, 116, 58, 32, 110, 111, 110, 101]), ("quiescent/api.ErrFull", [113, 117, 105, 101, 115, 99, 101, 110, 116, 58, 32, 102, 117, 108, 108]), ("quiescent/api.ErrStale", [113, 117, 105, 101, 115, 99, 101, 110, 116, 58, 32, 115, 116, 97, 108, 101]), ("quiescent/api.ErrHeld", [113, 117, 105, 101, 115, 99, 101, 110, 116, 58, 32, 104, 101, 108, 100]), ("quiescent/api.ErrDone", [113, 117, 105, 101, 115, 99, 101, 110, 116, 58, 32, 100, 111, 110, 101])]
def laidG13 : List (String × DataW Unit) := Rows.graceCodeRow.laid
def plainG : List (String × DataW Unit) := laidG13.filter fun x => x.2.handleName?.isNone
theorem ghandlesOnly : (laidG13.filter fun x => x.2.handleName?.isSome) = [("errors.errorType", Rows.laid_errors_errorType)] := by kernel_rfl
theorem gnineOnly : (plainG.filter fun x => match x.2 with | .iface _ _ => true | _ => false) = gnineTexts.map sentOf := by kernel_rfl
theorem lg_gErr : Tryz.prog.globalNamed "errors.errorType" = some 9 := by kernel_rfl
theorem lg_g0 : Tryz.prog.globalNamed "quiescent/api.ErrText" = some 0 := by kernel_rfl
theorem lg_gT0 : (Tryz.prog.globals[0]?).map (·.type) = some 26 := by kernel_rfl
theorem lg_g1 : Tryz.prog.globalNamed "quiescent/api.ErrBound" = some 1 := by kernel_rfl
theorem lg_gT1 : (Tryz.prog.globals[1]?).map (·.type) = some 26 := by kernel_rfl
theorem lg_g2 : Tryz.prog.globalNamed "quiescent/api.ErrShape" = some 2 := by kernel_rfl
theorem lg_gT2 : (Tryz.prog.globals[2]?).map (·.type) = some 26 := by kernel_rfl
theorem lg_g3 : Tryz.prog.globalNamed "quiescent/api.ErrName" = some 3 := by kernel_rfl
theorem lg_gT3 : (Tryz.prog.globals[3]?).map (·.type) = some 26 := by kernel_rfl
theorem lg_g4 : Tryz.prog.globalNamed "quiescent/api.ErrNone" = some 4 := by kernel_rfl
theorem lg_gT4 : (Tryz.prog.globals[4]?).map (·.type) = some 26 := by kernel_rfl
theorem lg_g5 : Tryz.prog.globalNamed "quiescent/api.ErrFull" = some 5 := by kernel_rfl
theorem lg_gT5 : (Tryz.prog.globals[5]?).map (·.type) = some 26 := by kernel_rfl
theorem lg_g6 : Tryz.prog.globalNamed "quiescent/api.ErrStale" = some 6 := by kernel_rfl
theorem lg_gT6 : (Tryz.prog.globals[6]?).map (·.type) = some 26 := by kernel_rfl
theorem lg_g7 : Tryz.prog.globalNamed "quiescent/api.ErrHeld" = some 7 := by kernel_rfl
theorem lg_gT7 : (Tryz.prog.globals[7]?).map (·.type) = some 26 := by kernel_rfl
theorem lg_g8 : Tryz.prog.globalNamed "quiescent/api.ErrDone" = some 8 := by kernel_rfl
theorem lg_gT8 : (Tryz.prog.globals[8]?).map (·.type) = some 26 := by kernel_rfl
theorem gnineG : ∀ x ∈ gnineTexts, ∃ g, Tryz.prog.globalNamed x.1 = some g ∧ (Tryz.prog.globals[g]?).map (·.type) = some 26 := by
  intro x hx
  simp only [gnineTexts, List.mem_cons, List.not_mem_nil, or_false] at hx
  rcases hx with rfl | rfl | rfl | rfl | rfl | rfl | rfl | rfl | rfl
  · exact ⟨_, lg_g0, lg_gT0⟩
  · exact ⟨_, lg_g1, lg_gT1⟩
  · exact ⟨_, lg_g2, lg_gT2⟩
  · exact ⟨_, lg_g3, lg_gT3⟩
  · exact ⟨_, lg_g4, lg_gT4⟩
  · exact ⟨_, lg_g5, lg_gT5⟩
  · exact ⟨_, lg_g6, lg_gT6⟩
  · exact ⟨_, lg_g7, lg_gT7⟩
  · exact ⟨_, lg_g8, lg_gT8⟩
theorem lg_rtypeIs : (Tryz.prog.cutTypes.find? (·.1 == "internal/reflectlite.rtype")).map (·.2) = some 161 := by kernel_rfl
theorem lg_errorRows : ((List.range 220).filter fun t => Tryz.prog.rowNamed t [101, 114, 114, 111, 114]) = [26] := by kernel_rfl
theorem lg_manyTypes : Tryz.prog.types.size = 220 := by kernel_rfl
theorem lg_handleIs : typeHandle Tryz.prog 26 = .pointer (some ⟨13, 26, none⟩) := by kernel_rfl
theorem lg_star : "*" ++ "errors.errorString" = "*errors.errorString" := by decide
theorem lg_errName (u : TypeId) (h : Tryz.prog.typeName? 3 u = some "*errors.errorString") : u = 189 :=
  typeName_ptr_named (nm := "errors.errorString") (by rw [lg_star]; kernel_rfl) (by kernel_rfl) (by decide) u (by rw [lg_star]; exact h)
theorem lg_esStruct : ∃ f : Field, Tryz.prog.underlying 208 = some (.struct #[f]) ∧ f.type = 9 ∧ f.offset = 0 := ⟨_, Tryz.underlying208, rfl, rfl⟩
theorem lg_esCells : Tryz.prog.cellsOf 208 = 1 := by kernel_rfl
theorem lg_strCells : Tryz.prog.cellsOf 9 = 1 := by kernel_rfl
theorem env_of_laidG {W : World} (h : laidMetH Tryz.prog laidG13 W) : ∃ a, Env a W := by
  unfold laidMetH at h
  rw [ghandlesOnly] at h
  simp only at h
  obtain ⟨h, hh⟩ := h
  replace h : laidMet Tryz.prog plainG W := h
  have hs := h.filter fun x => match x.2 with | .iface _ _ => true | _ => false
  rw [gnineOnly] at hs
  obtain ⟨ps, hv, hnd, hrows⟩ := hs
  obtain ⟨f, hf, hft, hfo⟩ := lg_esStruct
  obtain ⟨ads, hl, hn, hm, hat⟩ := sents_of_laid (f := f) Tryz.underlying26 lg_errName Tryz.underlying189 hf hft hfo Tryz.underlying9 lg_esCells lg_strCells gnineTexts ps hv hnd hrows gnineG
  have hl11 : ads.length = 9 := hl
  have hh1 := hh _ (List.mem_singleton.2 rfl)
  obtain ⟨name, u, ty, e1, e2, e3, e4, e5⟩ := (show ∃ name u ty, (Rows.laid_errors_errorType : DataW Unit).handleName? = some name ∧ (Tryz.prog.cutTypes.find? (·.1 == "internal/reflectlite.rtype")).map (·.2) = some u ∧ ty < Tryz.prog.types.size ∧ Tryz.prog.rowNamed ty name = true ∧ W.var? Tryz.prog "errors.errorType" = some #[.iface u (.agg #[typeHandle Tryz.prog ty])] from hh1)
  have en : name = [101, 114, 114, 111, 114] := (Option.some.inj e1).symm
  subst en
  obtain rfl := Option.some.inj (lg_rtypeIs.symm.trans e2)
  have hmm : ty ∈ (List.range 220).filter fun t => Tryz.prog.rowNamed t [101, 114, 114, 111, 114] := List.mem_filter.2 ⟨List.mem_range.2 (by rw [← lg_manyTypes]; exact e3), e4⟩
  rw [lg_errorRows] at hmm
  obtain rfl := List.mem_singleton.1 hmm
  rw [lg_handleIs] at e5
  have look : ∀ (i : Nat) (x : String × List UInt8), gnineTexts[i]? = some x → W.var? Tryz.prog x.1 = some #[errAt (ads.getD i default)] := fun i x hx => by
    obtain ⟨a, ha, hva⟩ := hat i x hx
    rw [List.getD_eq_getElem?_getD, ha]; exact hva
  refine ⟨fun i => ads.getD i default, ⟨fun i hi => ?_, fun i hi => ?_, fun i j hi hj hij => ?_, ?_⟩⟩
  · match i, hi with
    | 0, _ => simpa [gid] using World.var?_cell lg_g0 (look 0 _ rfl) 0
    | 1, _ => simpa [gid] using World.var?_cell lg_g1 (look 1 _ rfl) 0
    | 2, _ => simpa [gid] using World.var?_cell lg_g2 (look 2 _ rfl) 0
    | 3, _ => simpa [gid] using World.var?_cell lg_g3 (look 3 _ rfl) 0
    | 4, _ => simpa [gid] using World.var?_cell lg_g4 (look 4 _ rfl) 0
    | 5, _ => simpa [gid] using World.var?_cell lg_g5 (look 5 _ rfl) 0
    | 6, _ => simpa [gid] using World.var?_cell lg_g6 (look 6 _ rfl) 0
    | 7, _ => simpa [gid] using World.var?_cell lg_g7 (look 7 _ rfl) 0
    | 8, _ => simpa [gid] using World.var?_cell lg_g8 (look 8 _ rfl) 0
  · refine (hm (ads.getD i default) ?_).2
    rw [List.getD_eq_getElem?_getD, List.getElem?_eq_getElem (by omega)]
    exact List.getElem_mem _
  · intro e
    simp only [List.getD_eq_getElem?_getD] at e
    rw [List.getElem?_eq_getElem (show i < ads.length by omega), List.getElem?_eq_getElem (show j < ads.length by omega)] at e
    simp only [Option.getD_some] at e
    have hpw := List.pairwise_iff_getElem.1 hn
    rcases Nat.lt_or_gt_of_ne hij with h | h
    · exact hpw i j _ _ h e
    · exact hpw j i _ _ h e.symm
  · simpa using World.var?_cell lg_gErr e5 0

noncomputable def gworldH (os : Os) : World := (World.holding Tryz.prog os ⟨#[], #[], []⟩).setCell ⟨9, 0, none⟩ (.iface 161 (.agg #[.pointer (some ⟨13, 26, none⟩)]))
noncomputable def gworldZ (os : Os) : World := (gworldH os).layVars Tryz.prog plainG
theorem gworldZ_os (os : Os) : (gworldZ os).os = os := (World.layVars_os _ _ _).trans rfl
theorem gplain_met (os : Os) : laidMet Tryz.prog plainG (gworldZ os) := by
  have e1 : (plainG.filter fun x => (plainG.map (·.1)).contains x.1) = plainG := List.filter_eq_self.2 fun x hx => List.contains_iff_mem.2 (List.mem_map.2 ⟨x, hx, rfl⟩)
  have e2 : (plainG.filter fun x => !(plainG.map (·.1)).contains x.1) = [] := List.filter_eq_nil_iff.2 fun x hx => by rw [List.contains_iff_mem.2 (List.mem_map.2 ⟨x, hx, rfl⟩)]; simp
  exact laidMet_layVars (w0 := gworldH os) (plainG.map (·.1)) [] (by rw [e1]; rfl) (by rw [e1]; kernel_rfl) (by rw [e1]; kernel_rfl) (by rw [e2]; exact LaidIn.none)
theorem glaid_met (os : Os) (args : Array Value) : laidMetH Tryz.prog laidG13 ((gworldZ os).forCall (fun _ _ => 0) ⟨#[], args, []⟩).memory :=
  laidMetH.of_heap (w := gworldZ os) (by simp [World.memory, World.forCall, Input.heap]) (laidMetH_of_parts3 (fuel := 8) (gplain_met os) (by kernel_rfl) (by kernel_rfl))
theorem gworldZ_shaped (os : Os) (args : Array Value) : ((gworldZ os).forCall (fun _ _ => 0) ⟨#[], args, []⟩).Shaped Tryz.prog := World.shaped_of_ZipB (by kernel_rfl) (by kernel_rfl)
end Go.Proofs.YtgmokighfgdnjaaGreatDoor

/- StA -/
namespace Go.Proofs.YtgmokighfgdnjaaGreatDoor
open Go.RowKit

structure Sta where
  cells : Int
  init : List (List Int)
  regs : List (List Int)

def wordOk (x : Int) : Bool := decide (0 ≤ x ∧ x < 4294967296)
def rowOk (longest : Nat) (row : List Int) : Bool := decide (row.length ≤ longest) && row.all wordOk
def rowsOk (longest : Nat) (R : List (List Int)) : Bool := R.all (rowOk longest)
noncomputable def codesFrom : Nat → List (List Ins) → Nat × Int
  | _, [] => (0, -1)
  | i, L :: cs => if (codeFault L).1 = 0 then codesFrom (i + 1) cs else ((codeFault L).1, i)
def Sta.fits (s : Sta) (n : Nat) : Bool := (decide ((s.init.length : Int) ≤ s.cells) && rowsOk 4 s.init) && (decide (s.regs.length ≤ n) && rowsOk 8 s.regs)
open Classical in
noncomputable def Sta.fault (s : Sta) (cs : List (List Ins)) : Nat × Int :=
  if 1 ≤ s.cells ∧ s.cells ≤ 64 ∧ 1 ≤ cs.length ∧ cs.length ≤ 6 ∧ s.fits cs.length = true then codesFrom 0 cs else (2, -1)

def rowAt (R : List (List Int)) (t r : Nat) : Int := (R.getD t []).getD r 0
def Ar.filled (s : Ar) (R : List (List Int)) : Ar where
  size := s.size
  given c := if c < R.length then 1 else s.given c
  there c := if c < R.length then true else s.there c
  words c k := if c < R.length ∧ k < 4 then rowAt R c k else s.words c k
def Sta.mach (s : Sta) (n : Nat) : Mk where
  mem := { Rm.fresh s.cells.toNat n with ar := (Rm.fresh s.cells.toNat n).ar.filled s.init }
  regs t r := rowAt s.regs t r
  pc _ := 0
  marks := []
  faults := 0
end Go.Proofs.YtgmokighfgdnjaaGreatDoor

/- StB -/
namespace Go.Proofs.YtgmokighfgdnjaaGreatDoor
open Go.RowKit Go.Extern.Stop Go.Stop Go.Extern Go.Maps Go.WideMaps Go.Sort

def rowsAt (ad : Option Addr) (R : List (List Int)) (w : World) : Prop := ∀ (i : Nat) row, R[i]? = some row → ∃ b off adr cap, ad = some ⟨b, off, none⟩ ∧ w.cell? ⟨b, off + i, none⟩ = some (.slice adr row.length cap) ∧ row.length ≤ cap ∧ numsAt adr row w
theorem rowsAt.below {ad : Option Addr} {R : List (List Int)} {w w' : World} (h : rowsAt ad R w) (hb : Below w.heap.size w w') : rowsAt ad R w' := fun i row hr => by
  obtain ⟨b, off, adr, cap, h1, h2, h3, h4⟩ := h i row hr
  exact ⟨b, off, adr, cap, h1, keep_cell hb h2, h3, h4.below hb⟩

structure StaPl where
  ai : Option Addr
  ci : Nat
  ar : Option Addr
  cr : Nat
def Sta.val (s : Sta) (q : StaPl) : Value := .agg #[.int .i64 s.cells, .slice q.ai s.init.length q.ci, .slice q.ar s.regs.length q.cr]
structure StaAt (s : Sta) (q : StaPl) (w : World) : Prop where
  init : rowsAt q.ai s.init w
  regs : rowsAt q.ar s.regs w
  ci : s.init.length ≤ q.ci
  cr : s.regs.length ≤ q.cr
  li : s.init.length ≤ 9223372036854775807
  lr : s.regs.length ≤ 9223372036854775807
  ri : ∀ (i : Nat) row, s.init[i]? = some row → row.length ≤ 9223372036854775807
  rr : ∀ (i : Nat) row, s.regs[i]? = some row → row.length ≤ 9223372036854775807
theorem StaAt.below {s : Sta} {q : StaPl} {w w' : World} (h : StaAt s q w) (hb : Below w.heap.size w w') : StaAt s q w' := ⟨h.init.below hb, h.regs.below hb, h.ci, h.cr, h.li, h.lr, h.ri, h.rr⟩

end Go.Proofs.YtgmokighfgdnjaaGreatDoor
