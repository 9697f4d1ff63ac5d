/- The law ClientSafe answers true for every flavour, client and script that can be handed in; no condition beside the row's own. -/
import Derived.Test.YtaiigfcfmcicjaaGreatDoorD01
import Derived.Test.YtaiigfcfmcicjaaGreatDoorD13
import Derived.Deep.Slices
import Derived.Lib.SmallJoins
import Derived.Test.YtaiigfcfmcicjaaGreatDoorD25
import Derived.Test.YtaiigfcfmcicjaaGreatDoorTie
import Derived.SevenTiedAt
import Derived.Carry
import Derived.Test.YtaiigfcfmcicjaaGreatDoorD30
import Derived.Test.YtaiigfcfmcicjaaGreatDoorD49
import Derived.Test.YtaiigfcfmcicjaaGreatDoorCards
namespace Go.Proofs.YtaiigfcfmcicjaaGreatDoor
set_option maxRecDepth 100000
set_option maxHeartbeats 8000000
section
open Go.ChangeShapes Go.WideShapes Go.ChangeAt Go.RowKit Go.Joins Go.Deep
theorem kcellsS_n : Tryz.prog.cellsOf 3 = 1 := by kernel_rfl
theorem listS_of_trod {H : Type} {enc : TypeId × Value -> H} {W : World} {fuel : Nat} {sp : Nat -> Bool} {held : Bool} {cs : List Value} {x : DataW H × List MemPlace} {t e : TypeId} {α : Type} [Inhabited α] (F : α -> List Value) (k : Nat) (hk : 0 < k) (Q : α -> Prop)
  (ht : Tryz.prog.underlying t = some (.slice e)) (hc : Tryz.prog.cellsOf e = k) (hF : ∀ y, (F y).length = k)
  (hr : ∀ (n : Nat) (cs : List Value) x, DataW.trod enc Tryz.prog W 0 sp held n e cs = some x -> ∃ y, cs = F y /\ Q y)
  (h : DataW.trod enc Tryz.prog W 0 sp held fuel t cs = some x) :
  ∃ (ad : Option Addr) (cap : Nat) (l : List α), cs = [.slice ad l.length cap] /\ (∀ (i : Nat) y, l[i]? = some y -> ∃ b off, ad = some ⟨b, off, none⟩ /\ (∀ j, j < k -> W.cell? ⟨b, off + i * k + j, none⟩ = (F y)[j]?) /\ Q y) /\ (ad = none -> l = [] /\ cap = 0) /\ l.length <= cap /\ l.length <= maxLen := by
 rcases open_slice ht h with ⟨rfl, _⟩ | ⟨a, len, cap, m, n, D, Pl, rfl, _, hl, hl2, hm, hx, hel⟩
 ·exact ⟨none, 0, [], rfl, fun i y hy => by simp at hy, fun _ => ⟨rfl, rfl⟩, Nat.zero_le _, Nat.zero_le _⟩
 ·have hm' : len <= m := by rw [hm]; split <;> omega
  have hex : ∀ i, i < len -> ∃ y : α, (∀ j, j < k -> W.cell? ((a.add (i * k)).add j) = (F y)[j]?) /\ Q y := fun i hi => by
   obtain ⟨cs', h1, h2⟩ := hel i (by omega)
   rw [hc] at h1
   obtain ⟨y, rfl, h3⟩ := hr _ _ _ h2
   exact ⟨y, (cells_at h1).2, h3⟩
  obtain ⟨f, hf⟩ := choose_lt (p := fun i (y : α) => (∀ j, j < k -> W.cell? ((a.add (i * k)).add j) = (F y)[j]?) /\ Q y) (h := hex)
  refine ⟨some a, cap, (List.range len).map f, by simp, fun i y hy => ?_, fun h => (by cases h), by simpa using hl, by simp; omega⟩
  have hi : i < len := by
   have := (List.getElem?_eq_some_iff.1 hy).1
   simpa using this
  obtain rfl : y = f i := by
   rw [List.getElem?_map, List.getElem?_range hi] at hy
   simpa using hy.symm
  have h00 := (hf 0 (by omega)).1 0 hk
  obtain ⟨v0, hv0⟩ : ∃ v, (F (f 0))[0]? = some v := ⟨_, List.getElem?_eq_getElem (by rw [hF]; exact hk)⟩
  rw [hv0, Nat.zero_mul] at h00
  have hs : a.spot = none := spot_none (a := a) h00
  have e : ∀ j, (a.add (i * k)).add j = ⟨a.block, a.off + i * k + j, none⟩ := fun j => by
   rw [add_plain a hs, add_plain _ rfl]
  refine ⟨a.block, a.off, by obtain ⟨b, o, sp⟩ := a; simp only at hs; subst hs; rfl, fun j hj => ?_, (hf i hi).2⟩
  have := (hf i hi).1 j hj
  rw [e] at this
  exact this
theorem kintS_of_trod {H : Type} {enc : TypeId × Value -> H} {W : World} {sp : Nat -> Bool} {held : Bool} {fuel : Nat} {cs : List Value} {x : DataW H × List MemPlace}
  (h : DataW.trod enc Tryz.prog W 0 sp held fuel 3 cs = some x) : ∃ y : Int, cs = [.int .i64 y] := by
 obtain ⟨r, e, _, _⟩ := DataW.trod_int Tryz.underlying3 h
 exact ⟨r, e⟩
theorem numsS_of_trod {H : Type} {enc : TypeId × Value -> H} {W : World} {fuel : Nat} {sp : Nat -> Bool} {held : Bool} {cs : List Value} {x : DataW H × List MemPlace} (h : DataW.trod enc Tryz.prog W 0 sp held fuel 54 cs = some x) :
  ∃ (ad : Option Addr) (cap : Nat) (l : List Int), cs = [.slice ad l.length cap] /\ numsAt ad l W /\ l.length <= cap /\ l.length <= maxLen := by
 obtain ⟨ad, cap, l, h1, h2, h3, h4, h5⟩ := listS_of_trod (fun y : Int => [.int .i64 y]) 1 (by decide) (fun _ => True) Tryz.underlying54 kcellsS_n (fun _ => rfl) (fun n cs x h => by obtain ⟨y, e⟩ := kintS_of_trod h; exact ⟨y, e, trivial⟩) h
 refine ⟨ad, cap, l, h1, fun i y hy => ?_, h4, h5⟩
 obtain ⟨b, off, e, hc, -⟩ := h2 i y hy
 have := hc 0 (by decide)
 rw [Nat.mul_one, Nat.add_zero] at this
 exact ⟨b, off, e, this⟩
end
section
open Go.ChangeShapes Go.WideShapes Go.ChangeAt Go.RowKit Go.Joins Go.Deep
def sfiveTexts : List (String × List UInt8) := [("quiescent/api.ErrBound", [113, 117, 105, 101, 115, 99, 101, 110, 116, 58, 32, 98, 111, 117, 110, 100]), ("quiescent/api.ErrShape", [113, 117, 105, 101, 115, 99, 101, 110, 116, 58, 32, 115, 104, 97, 112, 101]), ("quiescent/api.ErrName", [113, 117, 105, 101, 115, 99, 101, 110, 116, 58, 32, 110, 97, 109, 101]), ("quiescent/api.ErrNone", [113, 117, 105, 101, 115, 99, 101, 110, 116, 58, 32, 110, 111, 110, 101]), ("quiescent/api.ErrHeld", [113, 117, 105, 101, 115, 99, 101, 110, 116, 58, 32, 104, 101, 108, 100])]
def laidS8 : List (String × DataW Unit) := Rows.clientSafeRow.laid
theorem splain : (laidS8.all fun x => x.2.handleName?.isNone) = true := by kernel_rfl
theorem sfiveOnly : (laidS8.filter fun x => match x.2 with | .iface _ _ => true | _ => false) = sfiveTexts.map sentOf := by kernel_rfl
theorem ls_g0 : Tryz.prog.globalNamed "quiescent/api.ErrBound" = some 1 := by kernel_rfl
theorem ls_gT0 : (Tryz.prog.globals[1]?).map (·.type) = some 26 := by kernel_rfl
theorem ls_g1 : Tryz.prog.globalNamed "quiescent/api.ErrShape" = some 2 := by kernel_rfl
theorem ls_gT1 : (Tryz.prog.globals[2]?).map (·.type) = some 26 := by kernel_rfl
theorem ls_g2 : Tryz.prog.globalNamed "quiescent/api.ErrName" = some 3 := by kernel_rfl
theorem ls_gT2 : (Tryz.prog.globals[3]?).map (·.type) = some 26 := by kernel_rfl
theorem ls_g3 : Tryz.prog.globalNamed "quiescent/api.ErrNone" = some 4 := by kernel_rfl
theorem ls_gT3 : (Tryz.prog.globals[4]?).map (·.type) = some 26 := by kernel_rfl
theorem ls_g4 : Tryz.prog.globalNamed "quiescent/api.ErrHeld" = some 7 := by kernel_rfl
theorem ls_gT4 : (Tryz.prog.globals[7]?).map (·.type) = some 26 := by kernel_rfl
theorem sfiveG : ∀ x ∈ sfiveTexts, ∃ g, Tryz.prog.globalNamed x.1 = some g /\ (Tryz.prog.globals[g]?).map (·.type) = some 26 := by
 intro x hx
 simp only [sfiveTexts, List.mem_cons, List.not_mem_nil, or_false] at hx
 rcases hx with rfl | rfl | rfl | rfl | rfl
 ·exact ⟨_, ls_g0, ls_gT0⟩
 ·exact ⟨_, ls_g1, ls_gT1⟩
 ·exact ⟨_, ls_g2, ls_gT2⟩
 ·exact ⟨_, ls_g3, ls_gT3⟩
 ·exact ⟨_, ls_g4, ls_gT4⟩
theorem ls_star : "*" ++ "errors.errorString" = "*errors.errorString" := by decide
theorem ls_errName (u : TypeId) (h : Tryz.prog.typeName? 3 u = some "*errors.errorString") : u = 227 :=
 typeName_ptr_named (nm := "errors.errorString") (by rw [ls_star]; kernel_rfl) (by kernel_rfl) (by decide) u (by rw [ls_star]; exact h)
theorem ls_esStruct : ∃ f : Field, Tryz.prog.underlying 246 = some (.struct #[f]) /\ f.type = 9 /\ f.offset = 0 := ⟨_, Tryz.underlying246, rfl, rfl⟩
theorem ls_esCells : Tryz.prog.cellsOf 246 = 1 := by kernel_rfl
theorem ls_strCells : Tryz.prog.cellsOf 9 = 1 := by kernel_rfl
theorem env_of_laidS {W : World} (h : laidMetH Tryz.prog laidS8 W) : ∃ a, EnvL a W := by
 rw [MakeChecks.laidMetH_plain _ _ _ splain] at h
 have hs := h.filter fun x => match x.2 with | .iface _ _ => true | _ => false
 rw [sfiveOnly] at hs
 obtain ⟨ps, hv, hnd, hrows⟩ := hs
 obtain ⟨f, hf, hft, hfo⟩ := ls_esStruct
 obtain ⟨ads, hl, hn, hm, hat⟩ := sents_of_laid (f := f) Tryz.underlying26 ls_errName Tryz.underlying227 hf hft hfo Tryz.underlying9 ls_esCells ls_strCells sfiveTexts ps hv hnd hrows sfiveG
 have look : ∀ (i : Nat) (x : String × List UInt8), sfiveTexts[i]? = some x -> W.var? Tryz.prog x.1 = some #[errAt (ads.getD i default)] := fun i x hx => by
  obtain ⟨a, ha, hva⟩ := hat i x hx
  rw [List.getD_eq_getElem?_getD, ha]; exact hva
 refine ⟨fun i => ads.getD (match i with | 1 => 0 | 2 => 1 | 4 => 3 | _ => 4) default, ⟨fun i hi => ?_⟩⟩
 rcases hi with rfl | rfl | rfl | rfl
 ·simpa [gid] using World.var?_cell ls_g0 (look 0 _ rfl) 0
 ·simpa [gid] using World.var?_cell ls_g1 (look 1 _ rfl) 0
 ·simpa [gid] using World.var?_cell ls_g3 (look 3 _ rfl) 0
 ·simpa [gid] using World.var?_cell ls_g4 (look 4 _ rfl) 0
noncomputable def sworld (os : Os) : World := World.laidAll Tryz.prog os laidS8
theorem sworld_os (os : Os) : (sworld os).os = os := World.laidAll_os _ _ _
theorem slaid_met (os : Os) (args : Array Value) : laidMetH Tryz.prog laidS8 ((sworld os).forCall (fun _ _ => 0) ⟨#[], args, []⟩).memory := by
 rw [MakeChecks.laidMetH_plain _ _ _ splain]
 exact laidMet_laidAll _ (by kernel_rfl) (by kernel_rfl)
theorem sworld_shaped (os : Os) (args : Array Value) : ((sworld os).forCall (fun _ _ => 0) ⟨#[], args, []⟩).Shaped Tryz.prog := World.shaped_of_ZipB (by kernel_rfl) (by kernel_rfl)
end
section
open Go.ChangeShapes Go.WideShapes Go.ChangeAt Go.RowKit Go.Joins Go.Deep
theorem readableCS : ∀ t ∈ [3, 22, 54], Tryz.prog.readableRec t = true /\ t < Tryz.prog.types.size := by
 intro t ht
 simp only [List.mem_cons, List.not_mem_nil, or_false] at ht
 rcases ht with rfl | rfl | rfl
 ·exact ⟨by kernel_rfl, of_decide_eq_true (by kernel_rfl)⟩
 ·exact ⟨by kernel_rfl, of_decide_eq_true (by kernel_rfl)⟩
 ·exact ⟨by kernel_rfl, of_decide_eq_true (by kernel_rfl)⟩
theorem csafe_lifted (os : Os) (started : os.Started) (H : Type) (enc : TypeId × Value -> H) :
  ReturnsInHanded {} Tryz.checked os 7 .any (fun w args => (Rows.clientSafeSpec.pre enc Tryz.prog Tryz.f7 [] false w args /\ laidMetH Tryz.prog Rows.clientSafeRow.laid w) /\ sizedMet enc Tryz.prog Tryz.f7 (OpenSpec.ofChange Rows.clientSafeSpec) false w args)
   (Rows.clientSafeSpec.post enc Tryz.prog Tryz.f7 false true false false) := by
 refine lift_shaped (C := Tryz.checked) (X := fun w _ => laidMetH Tryz.prog Rows.clientSafeRow.laid w) (fun _ _ _ hh h => h.of_heap hh) own started (by kernel_rfl) Tryz.func7
  (ChangeSpec.witness_shaped (enc := enc) (C := Tryz.checked) (os := os) (X := fun w _ => laidMetH Tryz.prog Rows.clientSafeRow.laid w) false (sworld os) #[.int .i64 0, .slice none 0 0, .slice none 0 0] 8 (sworld_os os)
    (sworld_shaped os _) (by kernel_rfl) (by kernel_rfl) (by kernel_rfl) (slaid_met os _)) ?_
 intro W base args ds gs before hval0 hW hL hsh
 have hval : ∀ (j : Nat) t v, Tryz.f7.params[j]? = some t -> args[j]? = some v -> Value.okWide Tryz.prog W .any base t v := hval0
 have hW' := hW
 obtain ⟨p, q, hA0, hV, rfl, hfz, hnd⟩ := hW
 have hA : DataW.TrodAll enc Tryz.prog W 0 (fun _ => true) true Tryz.f7.params.toList args.toList ds p := hA0
 rw [Tryz.params7] at hA hval
 have hA2 := hA
 obtain ⟨v0, v1, v2, d0, d1, d2, p0, p1, p2, rfl, rfl, rfl, h0, h1, h2⟩ := trodAll_three hA
 obtain ⟨rfl, rfl⟩ := trodVars_none hV
 obtain ⟨n0, rfl⟩ := okWide_int Tryz.underlying3 (hval 0 3 v0 rfl rfl)
 obtain ⟨sa, slen, scap, rfl⟩ := okWide_slice Tryz.underlying22 (hval 1 22 v1 rfl rfl)
 obtain ⟨s2, sl2, sc2, rfl⟩ := okWide_slice Tryz.underlying54 (hval 2 54 v2 rfl rfl)
 obtain ⟨fuel, hf⟩ := h1
 obtain ⟨ad, cap, cl, hcs, hrows⟩ := oprows_of_trod hf
 obtain ⟨rfl, rfl, rfl⟩ : sa = ad /\ slen = cl.length /\ scap = cap := by simpa [Value.cells] using hcs
 obtain ⟨f2, hf2⟩ := h2
 obtain ⟨ada, capa, la, q2, hna, hca, -⟩ := numsS_of_trod hf2
 obtain ⟨rfl, rfl, rfl⟩ : s2 = ada /\ sl2 = la.length /\ sc2 = capa := by simpa [Value.cells] using q2
 obtain ⟨a, hE⟩ := env_of_laidS hL
 clear hA0 hval0
 simp only [List.append_nil] at hW'
 refine (csafe_any hE n0 hrows hna hca).mono fun e W' ⟨he, hb⟩ => ?_
 subst he
 refine ⟨_, rfl, _, _, _, [], p0 ++ p1 ++ p2, [], hW', ?_, ?_, ?_, hb.frame _, fun h => by cases h⟩
 ·exact trodAll_mk1 (shut_bool Tryz.underlying4 true)
 ·exact trodAll_below laidOutA hb _ _ _ _ readableCS hA2
 ·rfl
theorem csafe_holds : Rows.ClientSafeSaid :=
 OpenClaim.holds_of_wide 7 Tryz.f7 rfl rfl rfl rfl rfl rfl rfl ⟨rfl, rfl, rfl, rfl, rfl⟩ rfl rfl rfl rfl rfl (by kernel_rfl) Tryz.func7 (by kernel_rfl)
  (of_decide_eq_true (by kernel_rfl)) (by unfold Func.isWrapper; rw [if_neg (of_decide_eq_false (by kernel_rfl))]; exact ⟨rfl, rfl⟩)
  (fun os started H enc _ => csafe_lifted os started H enc)
theorem csafe_card : Rows.ClientSafeCardSaid :=
 Claim7.holds_tied_plain_at .later [] [.data, .data, .data, .sentinel, .sentinel, .sentinel, .sentinel, .sentinel] true (true, "d8fe092f434f16a9a0ea9d3806d5771d1266082f0aa16b571ff920b853d9c700") true
  csafe_holds (fun _ h => absurd h List.not_mem_nil) (by kernel_rfl) (fun _ h => absurd h List.not_mem_nil) clientSafe_row_tie rfl ⟨rfl, rfl⟩ (by kernel_rfl) rfl
  (fun f fn hf hfn => by
    obtain rfl : f = 7 := (Option.some.inj ((show Tryz.prog.funcNamed "quiescent/quiescentlaw2.ClientSafe" = some 7 by kernel_rfl).symm.trans hf)).symm
    obtain rfl : fn = Tryz.f7 := (Option.some.inj (Tryz.func7.symm.trans hfn)).symm
    exact ⟨by kernel_rfl, fun j t ht => by
     rw [Tryz.params7] at ht
     rcases j with _ | _ | _ | j
     ·obtain rfl : t = 3 := by simpa using ht.symm
      exact (show Tryz.prog.wantsStandIn 3 = false by kernel_rfl)
     ·obtain rfl : t = 22 := by simpa using ht.symm
      exact (show Tryz.prog.wantsStandIn 22 = false by kernel_rfl)
     ·obtain rfl : t = 54 := by simpa using ht.symm
      exact (show Tryz.prog.wantsStandIn 54 = false by kernel_rfl)
     ·simp at ht⟩)
  (by kernel_rfl)
#print axioms csafe_card
end
end Go.Proofs.YtaiigfcfmcicjaaGreatDoor
