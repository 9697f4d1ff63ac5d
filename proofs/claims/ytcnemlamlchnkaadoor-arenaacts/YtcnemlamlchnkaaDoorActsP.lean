/- quiescentlaw1.ArenaActs returns true for every number and every list of acts, in every start in which the listed variables (the nine errors of package api and the type error's handle) hold what the program's text lays in them; the card ties that. -/
import Derived.Test.YtcnemlamlchnkaaDoorLift
import Derived.Test.YtcnemlamlchnkaaDoorActsT
import Derived.Test.YtcnemlamlchnkaaDoorTie
import Derived.Test.YtcnemlamlchnkaaDoorCards
import Derived.SevenTiedAt
namespace Go.Proofs.YtcnemlamlchnkaaDoor
open Go.ChangeShapes Go.WideShapes Go.ChangeAt Go.RowKit Go.Joins Go.Deep

theorem cells_Act : Tryd.prog.cellsOf 59 = 5 := by kernel_rfl
theorem cells_str : Tryd.prog.cellsOf 9 = 1 := by kernel_rfl
theorem cells_ref : Tryd.prog.cellsOf 36 = 2 := by kernel_rfl
theorem cells_i : Tryd.prog.cellsOf 3 = 1 := by kernel_rfl

set_option maxRecDepth 100000 in
/-- An act, read. -/
theorem act_of_trod {H : Type} {enc : TypeId × Value → H} {W : World} {sp : Nat → Bool} {held : Bool} {fuel : Nat} {cs : List Value} {x : DataW H × List MemPlace}
    (h : DataW.trod enc Tryd.prog W 0 sp held fuel 59 cs = some x) : ∃ y : CAct, cs = [.string y.kind, .int .i64 y.c, .int .i64 y.g, .int .i64 y.k, .int .i64 y.v] := by
  obtain ⟨xs, n, _, _, hl, hlen, hf⟩ := DataW.trod_struct Tryd.underlying59 h
  rw [cells_Act] at hl
  match cs, hl with
  | [c0, c1, c2, c3, c4], _ =>
    match xs, hlen with
    | [x0, x1, x2, x3], _ =>
      have f0 : DataW.trod enc Tryd.prog W 0 sp held n 9 [c0] = some x0 := by simpa [cells_str] using hf 0 _ rfl
      have f1 : DataW.trod enc Tryd.prog W 0 sp held n 36 [c1, c2] = some x1 := by simpa [cells_ref] using hf 1 _ rfl
      have f2 : DataW.trod enc Tryd.prog W 0 sp held n 3 [c3] = some x2 := by simpa [cells_i] using hf 2 _ rfl
      have f3 : DataW.trod enc Tryd.prog W 0 sp held n 3 [c4] = some x3 := by simpa [cells_i] using hf 3 _ rfl
      obtain ⟨s, e0, _, _⟩ := DataW.trod_string Tryd.underlying9 f0
      obtain ⟨y0, y1, m, _, _, g0, g1⟩ := trod_struct2 Tryd.underlying36 f1
      simp only [cells_i] at g0 g1
      simp only [List.drop_zero, List.drop_succ_cons, List.take_succ_cons, List.take_zero] at g0 g1
      obtain ⟨r0, e1, _, _⟩ := DataW.trod_int Tryd.underlying3 g0
      obtain ⟨r1, e2, _, _⟩ := DataW.trod_int Tryd.underlying3 g1
      obtain ⟨r2, e3, _, _⟩ := DataW.trod_int Tryd.underlying3 f2
      obtain ⟨r3, e4, _, _⟩ := DataW.trod_int Tryd.underlying3 f3
      refine ⟨⟨s, r0, r1, r2, r3⟩, ?_⟩
      simp only [List.cons.injEq, and_true] at e0 e1 e2 e3 e4
      rw [e0, e1, e2, e3, e4]

/-- A list of acts, read. -/
theorem acts_of_trod {H : Type} {enc : TypeId × Value → H} {W : World} {fuel : Nat} {cs : List Value} {x : DataW H × List MemPlace}
    (h : DataW.trod enc Tryd.prog W 0 (fun _ => true) true fuel 55 cs = some x) : ∃ (ad : Option Addr) (cap : Nat) (l : List CAct), cs = [.slice ad l.length cap] ∧ actsAt ad l W := by
  rcases open_slice Tryd.underlying55 h with ⟨rfl, _⟩ | ⟨a, len, cap, m, n, D, Pl, rfl, _, hl, _, hm, _, hel⟩
  · exact ⟨none, 0, [], rfl, fun i x hx => by simp at hx⟩
  · have hm' : len ≤ m := by rw [hm]; split <;> omega
    have hex : ∀ i, i < len → ∃ y : CAct, ∀ j, j < 5 → W.cell? ((a.add (i * 5)).add j) = ([.string y.kind, .int .i64 y.c, .int .i64 y.g, .int .i64 y.k, .int .i64 y.v] : List Value)[j]? := fun i hi => by
      obtain ⟨cs', h1, h2⟩ := hel i (by omega)
      rw [cells_Act] at h1
      obtain ⟨y, rfl⟩ := act_of_trod h2
      exact ⟨y, (cells_at h1).2⟩
    have hinh : Inhabited CAct := ⟨⟨ByteArray.empty, 0, 0, 0, 0⟩⟩
    obtain ⟨f, hf⟩ := choose_lt (p := fun i (y : CAct) => ∀ j, j < 5 → W.cell? ((a.add (i * 5)).add j) = ([.string y.kind, .int .i64 y.c, .int .i64 y.g, .int .i64 y.k, .int .i64 y.v] : List Value)[j]?) (h := hex)
    refine ⟨some a, cap, (List.range len).map f, by simp, fun i x hx => ?_⟩
    have hi : i < len := by
      have := (List.getElem?_eq_some_iff.1 hx).1
      simpa using this
    obtain rfl : x = f i := by
      rw [List.getElem?_map, List.getElem?_range hi] at hx
      simpa using hx.symm
    have hs : a.spot = none := by
      have h0 := hf 0 (by omega) 0 (by decide)
      exact spot_none (a := a) h0
    have h0 := hf i hi
    have e : ∀ j, (a.add (i * 5)).add j = ⟨a.block, a.off + i * 5 + j, none⟩ := fun j => by
      rw [add_plain a hs, add_plain _ rfl]
    refine ⟨a.block, a.off, by obtain ⟨b, o, sp⟩ := a; simp only at hs; subst hs; rfl, ?_, ?_, ?_, ?_, ?_⟩
    · have := h0 0 (by decide); rw [e] at this; exact this
    · have := h0 1 (by decide); rw [e] at this; exact this
    · have := h0 2 (by decide); rw [e] at this; exact this
    · have := h0 3 (by decide); rw [e] at this; exact this
    · have := h0 4 (by decide); rw [e] at this; exact this

theorem acts_laid : Rows.arenaActsRow.laid = laidAll := rfl
theorem readableA : ∀ t ∈ [3, 55], Tryd.prog.readableRec t = true ∧ t < Tryd.prog.types.size := by
  intro t ht
  simp only [List.mem_cons, List.not_mem_nil, or_false] at ht
  rcases ht with rfl | rfl
  · exact ⟨by kernel_rfl, of_decide_eq_true (by kernel_rfl)⟩
  · exact ⟨by kernel_rfl, of_decide_eq_true (by kernel_rfl)⟩

set_option maxRecDepth 100000 in
theorem acts_lifted (os : Os) (started : os.Started) (H : Type) (enc : TypeId × Value → H) :
    ReturnsInHanded {} Tryd.checked os 6 .any (fun w args => (Rows.arenaActsSpec.pre enc Tryd.prog Tryd.f6 [] false w args ∧ laidMetH Tryd.prog Rows.arenaActsRow.laid w) ∧ sizedMet enc Tryd.prog Tryd.f6 (OpenSpec.ofChange Rows.arenaActsSpec) false w args)
      (Rows.arenaActsSpec.post enc Tryd.prog Tryd.f6 false true false false) := by
  rw [acts_laid]
  refine returnsInHanded_of_change_and (C := Tryd.checked) (X := fun w _ => laidMetH Tryd.prog laidAll w) (fun _ _ _ hh h => h.of_heap hh) own started (by kernel_rfl) Tryd.func6
    (ChangeSpec.witness_shaped (enc := enc) (C := Tryd.checked) (os := os) (X := fun w _ => laidMetH Tryd.prog laidAll w) false (World.doorLaid Tryd.prog 400 os) #[.int .i64 0, .slice none 0 0] 8 rfl (World.shaped_of_RefB (by kernel_rfl) (by kernel_rfl)) (by kernel_rfl) (by kernel_rfl) (by kernel_rfl) (door_met os _)) ?_
  intro W base args ds gs before hval0 hW _ _ hL _
  have hval : ∀ (j : Nat) t v, Tryd.f6.params[j]? = some t → args[j]? = some v → Value.okWide Tryd.prog W .any base t v := hval0
  have hW' := hW
  obtain ⟨p, q, hA0, hV, rfl, hfz, hnd⟩ := hW
  have hA : DataW.TrodAll enc Tryd.prog W 0 (fun _ => true) true Tryd.f6.params.toList args.toList ds p := hA0
  rw [Tryd.params6] at hA hval
  have hA2 := hA
  obtain ⟨v0, v1, d0, d1, p0, p1, rfl, rfl, rfl, h0, h1⟩ := trodAll_two hA
  obtain ⟨rfl, rfl⟩ := trodVars_none hV
  obtain ⟨x0, rfl, rfl, rfl, wx0⟩ := open_int Tryd.underlying3 (hval 0 3 v0 rfl rfl) h0
  obtain ⟨sa, slen, scap, rfl⟩ := okWide_slice Tryd.underlying55 (hval 1 55 v1 rfl rfl)
  obtain ⟨fuel, hf⟩ := h1
  obtain ⟨ad, cap, l, hcs, hacts⟩ := acts_of_trod hf
  obtain ⟨rfl, rfl, rfl⟩ : sa = ad ∧ slen = l.length ∧ scap = cap := by simpa [Value.cells] using hcs
  obtain ⟨a, hE⟩ := env_of_laid hL
  clear hA0 hval0
  simp only [List.append_nil] at hW'
  refine (acts_top a x0 sa scap l W hE hacts).mono fun e W' ⟨he, hb⟩ => ?_
  subst he
  refine ⟨_, rfl, _, _, _, [], [] ++ p1, [], hW', ?_, ?_, ?_, hb.frame _, fun h => by cases h⟩
  · exact trodAll_mk1 (shut_bool Tryd.underlying4 true)
  · exact trodAll_below laidOutA hb _ _ _ _ readableA hA2
  · rfl

theorem acts_holds : Rows.ArenaActsSaid :=
  OpenClaim.holds_of_wide 6 Tryd.f6 rfl rfl rfl rfl rfl rfl rfl ⟨rfl, rfl, rfl, rfl, rfl⟩ rfl rfl rfl rfl rfl (by kernel_rfl) Tryd.func6 (by kernel_rfl)
    (of_decide_eq_true (by kernel_rfl)) (by unfold Func.isWrapper; rw [if_neg (of_decide_eq_false (by kernel_rfl))]; exact ⟨rfl, rfl⟩)
    (fun os started H enc _ => acts_lifted os started H enc)

theorem acts_card : Rows.ArenaActsCardSaid :=
  Claim7.holds_tied_plain_at .later [] [.handle, .sentinel, .sentinel, .sentinel, .sentinel, .sentinel, .sentinel, .sentinel, .sentinel, .sentinel] true (true, "20f0be1af0b4ad5f205d49df0617b8352d9b2fe341c50f980159bcaef766778c") true
    acts_holds (fun _ h => absurd h List.not_mem_nil) (by kernel_rfl) (fun _ h => absurd h List.not_mem_nil) arenaActs_row_tie rfl ⟨rfl, rfl⟩ (by kernel_rfl) rfl
    (fun f fn hf hfn => by
      obtain rfl : f = 6 := (Option.some.inj ((show Tryd.prog.funcNamed "quiescent/quiescentlaw1.ArenaActs" = some 6 by kernel_rfl).symm.trans hf)).symm
      obtain rfl : fn = Tryd.f6 := (Option.some.inj (Tryd.func6.symm.trans hfn)).symm
      exact ⟨by kernel_rfl, fun j t ht => by
        rw [Tryd.params6] at ht
        rcases j with _ | _ | j
        · obtain rfl : t = 3 := by simpa using ht.symm
          exact (show Tryd.prog.wantsStandIn 3 = false by kernel_rfl)
        · obtain rfl : t = 55 := by simpa using ht.symm
          exact (show Tryd.prog.wantsStandIn 55 = false by kernel_rfl)
        · simp at ht⟩)
    (by kernel_rfl)
#print axioms acts_card
end Go.Proofs.YtcnemlamlchnkaaDoor
