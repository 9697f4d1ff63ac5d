/- CodeTexts: its card. -/
import Derived.Test.YtcajklfngeafdaaGreatDoorLaidZ
import Derived.Test.YtcajklfngeafdaaGreatDoorTextsW
namespace Go.Proofs.YtcajklfngeafdaaGreatDoor
open Go.ChangeShapes Go.WideShapes Go.ChangeAt Go.RowKit Go.Joins Go.Deep

section
variable {H : Type} {enc : TypeId × Value → H}
/-- The wrap of Sents, the reach of the arguments handed to the contract besides. -/
theorem lift_sized {a : Assume} {C : Checked} {os : Os} {f : FuncId} {fn : Func} {s : ChangeSpec} {conds : List PathCond} {apart fresh handsOn again : Bool} {X : World → Array Value → Prop}
    (hX : ∀ (w w' : World) (args : Array Value), w.heap = w'.heap → X w args → X w' args)
    (own : ownKnob C.prog.godebug = none) (started : os.Started) (noInit : C.prog.inits.idxOf? f = none) (hfn : C.prog.funcs[f]? = some fn)
    (witness : ∃ (w : World) (tape : Tape) (i : Input), w.os = os ∧ (w.forCall tape i).Shaped C.prog ∧ i.vars = [] ∧ Input.okWide C.prog (w.forCall tape i) .any w.heap.size f i ∧
      ((s.pre enc C.prog fn conds apart (w.forCall tape i).memory i.args ∧ X (w.forCall tape i).memory i.args) ∧ sizedMet enc C.prog fn (OpenSpec.ofChange s) apart (w.forCall tape i).memory i.args) ∧ a.holds C.prog (lone (Frame.enter C.prog f i.args .normal) [] (w.forCall tape i)))
    (contract : ∀ (W : World) (base : Nat) (args : Array Value) (ds gs : List (DataW H)) (before : List MemPlace),
      (∀ (j : Nat) t v, fn.params[j]? = some t → args[j]? = some v → Value.okWide C.prog W .any base t v) →
      DataW.Whole enc C.prog fn.params.toList s.vars apart W args.toList ds gs before → (DataW.weightsEach C.prog (fn.params.toList ++ s.plain.varTypes C.prog) (ds ++ gs)).all (· ≤ reachBytes) = true → X W args → W.ShapedOpen C.prog →
      Calls C.prog f args W fun e W' => ∃ v, e = .returned v ∧ s.post enc C.prog fn apart fresh handsOn again W args v W') :
    ReturnsInHanded a C os f .any (fun w args => (s.pre enc C.prog fn conds apart w args ∧ X w args) ∧ sizedMet enc C.prog fn (OpenSpec.ofChange s) apart w args) (s.post enc C.prog fn apart fresh handsOn again) := by
  refine returnsInHanded_of_calls own started noInit witness ?_
  intro w tape i _ hsh _ hok hpre _
  obtain ⟨_, _, _, g, hg, _, _, _, _, hval⟩ := hok
  obtain rfl : g = fn := Option.some.inj (hg.symm.trans hfn)
  obtain ⟨⟨⟨ds, gs, before, hw, _⟩, hx⟩, hz⟩ := hpre
  refine (contract (w.forCall tape i) w.heap.size i.args ds gs before hval (DataW.Whole.of_heap (w' := w.forCall tape i) (by rfl) hw) (hz.weights hw) (hX _ _ _ (by rfl) hx) hsh).mono fun e W' ⟨v, he, hp⟩ => ?_
  subst he
  exact ChangeSpec.post_blind hp
end

theorem texts_all (a : Nat → Addr) (ad : Option Addr) (cap : Nat) (l : List Ins) (w : World) (hE : EnvZ a w) (hl : insAt ad l w) (hc : ad = none → cap = 0) (hb : l.length * 56 ≤ 140737488355328) (hsz : ∀ (i : Nat) x, l[i]? = some x → x.to.size ≤ maxLen) :
    Calls Tryz.prog 3 #[.slice ad l.length cap] w fun e w' => e = .returned (.bool true) ∧ Below w.heap.size w w' := by
  by_cases h : l.length ≤ 100 ∨ 2000 < l.length
  · exact texts_any a ad cap l w hE hl hc hb hsz h
  · exact texts_long a ad cap l.length w hE (by omega) (by omega)

theorem cells_Instr : Tryz.prog.cellsOf 25 = 5 := by kernel_rfl
theorem cells_s : Tryz.prog.cellsOf 9 = 1 := by kernel_rfl
theorem cells_n : Tryz.prog.cellsOf 3 = 1 := by kernel_rfl
theorem bytes_Instr : Tryz.prog.bytesOf 25 = 56 := by kernel_rfl

set_option maxRecDepth 100000 in
/-- An instruction, read. -/
theorem in_of_trod {H : Type} {enc : TypeId × Value → H} {W : World} {sp : Nat → Bool} {held : Bool} {fuel : Nat} {cs : List Value} {x : DataW H × List MemPlace}
    (h : DataW.trod enc Tryz.prog W 0 sp held fuel 25 cs = some x) : ∃ y : Ins, cs = [.string y.op, .int .i64 y.a, .int .i64 y.b, .int .i64 y.c, .string y.to] ∧ y.to.size ≤ maxLen := by
  obtain ⟨xs, n, _, _, hl, hlen, hf⟩ := DataW.trod_struct Tryz.underlying25 h
  rw [cells_Instr] at hl
  match cs, hl with
  | [c0, c1, c2, c3, c4], _ =>
    match xs, hlen with
    | [x0, x1, x2, x3, x4], _ =>
      have f0 : DataW.trod enc Tryz.prog W 0 sp held n 9 [c0] = some x0 := by simpa [cells_s] using hf 0 _ rfl
      have f1 : DataW.trod enc Tryz.prog W 0 sp held n 3 [c1] = some x1 := by simpa [cells_n] using hf 1 _ rfl
      have f2 : DataW.trod enc Tryz.prog W 0 sp held n 3 [c2] = some x2 := by simpa [cells_n] using hf 2 _ rfl
      have f3 : DataW.trod enc Tryz.prog W 0 sp held n 3 [c3] = some x3 := by simpa [cells_n] using hf 3 _ rfl
      have f4 : DataW.trod enc Tryz.prog W 0 sp held n 9 [c4] = some x4 := by simpa [cells_s] using hf 4 _ rfl
      obtain ⟨s, e0, _, _⟩ := DataW.trod_string Tryz.underlying9 f0
      obtain ⟨r1, e1, _, _⟩ := DataW.trod_int Tryz.underlying3 f1
      obtain ⟨r2, e2, _, _⟩ := DataW.trod_int Tryz.underlying3 f2
      obtain ⟨r3, e3, _, _⟩ := DataW.trod_int Tryz.underlying3 f3
      obtain ⟨s4, e4, _, h4⟩ := DataW.trod_string Tryz.underlying9 f4
      refine ⟨⟨s, r1, r2, r3, s4⟩, ?_, h4⟩
      simp only [List.cons.injEq, and_true] at e0 e1 e2 e3 e4
      rw [e0, e1, e2, e3, e4]

/-- A list of instructions, read. -/
theorem ins_of_trod {H : Type} {enc : TypeId × Value → H} {W : World} {fuel : Nat} {cs : List Value} {x : DataW H × List MemPlace} {gs : List (DataW H)} {us : List TypeId}
    (h : DataW.trod enc Tryz.prog W 0 (fun _ => true) true fuel 22 cs = some x) (hz : (DataW.weightsEach Tryz.prog ([22] ++ us) ([x.1] ++ gs)).all (· ≤ reachBytes) = true) :
    ∃ (ad : Option Addr) (cap : Nat) (l : List Ins), cs = [.slice ad l.length cap] ∧ insAt ad l W ∧ (ad = none → cap = 0) ∧ (∀ (i : Nat) x, l[i]? = some x → x.to.size ≤ maxLen) ∧ l.length * 56 ≤ 140737488355328 := by
  rcases open_slice Tryz.underlying22 h with ⟨rfl, _⟩ | ⟨a, len, cap, m, n, D, Pl, rfl, _, hl, _, hm, hx, hel⟩
  · exact ⟨none, 0, [], rfl, fun i x hx => by simp at hx, fun _ => rfl, fun i x hx => by simp at hx, by simp⟩
  · have hm' : len ≤ m := by rw [hm]; split <;> omega
    have hw : len * 56 ≤ 140737488355328 := by
      rw [hx] at hz
      have := sized_slice hz (j := 0) (t := 22) rfl rfl Tryz.underlying22
      rw [bytes_Instr] at this
      simp only [List.length_map, List.length_range] at this
      have h2 : len * 56 ≤ (len + (m - len)) * 56 := Nat.mul_le_mul_right _ (by omega)
      have h3 : reachBytes ≤ 140737488355328 := by decide
      omega
    have hex : ∀ i, i < len → ∃ y : Ins, (∀ j, j < 5 → W.cell? ((a.add (i * 5)).add j) = ([.string y.op, .int .i64 y.a, .int .i64 y.b, .int .i64 y.c, .string y.to] : List Value)[j]?) ∧ y.to.size ≤ maxLen := fun i hi => by
      obtain ⟨cs', h1, h2⟩ := hel i (by omega)
      rw [cells_Instr] at h1
      obtain ⟨y, rfl, h3⟩ := in_of_trod h2
      exact ⟨y, (cells_at h1).2, h3⟩
    have hinh : Inhabited Ins := ⟨⟨ByteArray.empty, 0, 0, 0, ByteArray.empty⟩⟩
    obtain ⟨f, hf⟩ := choose_lt (p := fun i (y : Ins) => (∀ j, j < 5 → W.cell? ((a.add (i * 5)).add j) = ([.string y.op, .int .i64 y.a, .int .i64 y.b, .int .i64 y.c, .string y.to] : List Value)[j]?) ∧ y.to.size ≤ maxLen) (h := hex)
    have hget : ∀ (i : Nat) x, ((List.range len).map f)[i]? = some x → i < len ∧ x = f i := fun i x hx => by
      have hi : i < len := by
        have := (List.getElem?_eq_some_iff.1 hx).1
        simpa using this
      refine ⟨hi, ?_⟩
      rw [List.getElem?_map, List.getElem?_range hi] at hx
      simpa using hx.symm
    refine ⟨some a, cap, (List.range len).map f, by simp, fun i x hx => ?_, fun h => (by cases h), fun i x hx => ?_, by simpa using hw⟩
    · obtain ⟨hi, rfl⟩ := hget i x hx
      have hs : a.spot = none := spot_none (a := a) ((hf 0 (by omega)).1 0 (by decide))
      have h0 := (hf i hi).1
      have e : ∀ j, (a.add (i * 5)).add j = ⟨a.block, a.off + i * 5 + j, none⟩ := fun j => by
        rw [add_plain a hs, add_plain _ rfl]
      refine ⟨a.block, a.off, by obtain ⟨b, o, sp⟩ := a; simp only at hs; subst hs; rfl, ?_, ?_, ?_, ?_, ?_⟩
      · have := h0 0 (by decide); rw [e] at this; exact this
      · have := h0 1 (by decide); rw [e] at this; exact this
      · have := h0 2 (by decide); rw [e] at this; exact this
      · have := h0 3 (by decide); rw [e] at this; exact this
      · have := h0 4 (by decide); rw [e] at this; exact this
    · obtain ⟨hi, rfl⟩ := hget i x hx
      exact (hf i hi).2

theorem readableI : ∀ t ∈ [22], Tryz.prog.readableRec t = true ∧ t < Tryz.prog.types.size := by
  intro t ht
  obtain rfl := List.mem_singleton.1 ht
  exact ⟨by kernel_rfl, of_decide_eq_true (by kernel_rfl)⟩

set_option maxRecDepth 100000 in
theorem texts_lifted (os : Os) (started : os.Started) (H : Type) (enc : TypeId × Value → H) :
    ReturnsInHanded {} Tryz.checked os 3 .any (fun w args => (Rows.codeTextsSpec.pre enc Tryz.prog Tryz.f3 [] false w args ∧ laidMetH Tryz.prog laidZ w) ∧ sizedMet enc Tryz.prog Tryz.f3 (OpenSpec.ofChange Rows.codeTextsSpec) false w args)
      (Rows.codeTextsSpec.post enc Tryz.prog Tryz.f3 false true false false) := by
  refine lift_sized (C := Tryz.checked) (X := fun w _ => laidMetH Tryz.prog laidZ w) (fun _ _ _ hh h => h.of_heap hh) own started (by kernel_rfl) Tryz.func3
    (ChangeSpec.witness_shaped (enc := enc) (C := Tryz.checked) (os := os) (X := fun w _ => laidMetH Tryz.prog laidZ w) false (worldZ os) #[.slice none 0 0] 8 (worldZ_os os)
      (World.shaped_of_ZipB (by kernel_rfl) (by kernel_rfl)) (by kernel_rfl) (by kernel_rfl) (by kernel_rfl) (laid_met os _)) ?_
  intro W base args ds gs before hval0 hW hz hL hsh
  have hval : ∀ (j : Nat) t v, Tryz.f3.params[j]? = some t → args[j]? = some v → Value.okWide Tryz.prog W .any base t v := hval0
  have hW' := hW
  obtain ⟨p, q, hA0, hV, rfl, hfz, hnd⟩ := hW
  have hA : DataW.TrodAll enc Tryz.prog W 0 (fun _ => true) true Tryz.f3.params.toList args.toList ds p := hA0
  rw [Tryz.params3] at hA hval
  have hA2 := hA
  obtain ⟨v0, d0, rfl, rfl, h0⟩ := trodAll_one hA
  obtain ⟨rfl, rfl⟩ := trodVars_none hV
  obtain ⟨sa, slen, scap, rfl⟩ := okWide_slice Tryz.underlying22 (hval 0 22 v0 rfl rfl)
  obtain ⟨fuel, hf⟩ := h0
  rw [Tryz.params3] at hz
  obtain ⟨ad, cap, l, hcs, hins, hcap, hsz, hbig⟩ := ins_of_trod hf hz
  obtain ⟨rfl, rfl, rfl⟩ : sa = ad ∧ slen = l.length ∧ scap = cap := by simpa [Value.cells] using hcs
  obtain ⟨a, hE⟩ := envz_of_laid hL hsh
  clear hA0 hval0
  simp only [List.append_nil] at hW'
  refine (texts_all a sa scap l W hE hins hcap hbig hsz).mono fun e W' ⟨he, hb⟩ => ?_
  subst he
  refine ⟨_, rfl, _, _, _, [], [] ++ p, [], hW', ?_, ?_, ?_, hb.frame _, fun h => by cases h⟩
  · exact trodAll_mk1 (shut_bool Tryz.underlying4 true)
  · exact trodAll_below laidOutA hb _ _ _ _ readableI hA2
  · rfl

theorem texts_holds : Rows.CodeTextsSaid :=
  OpenClaim.holds_of_wide 3 Tryz.f3 rfl rfl rfl rfl rfl rfl rfl ⟨rfl, rfl, rfl, rfl, rfl⟩ rfl rfl rfl rfl rfl (by kernel_rfl) Tryz.func3 (by kernel_rfl)
    (of_decide_eq_true (by kernel_rfl)) (by unfold Func.isWrapper; rw [if_neg (of_decide_eq_false (by kernel_rfl))]; exact ⟨rfl, rfl⟩)
    (fun os started H enc _ => texts_lifted os started H enc)

theorem texts_card : Rows.CodeTextsCardSaid :=
  Claim7.holds_tied_plain_at .later [] [.data, .data, .data, .data, .handle, .sentinel, .sentinel, .sentinel, .sentinel, .sentinel, .sentinel, .sentinel, .sentinel, .sentinel, .sentinel, .sentinel, .pinned] true (true, "3d37e8de38549acf97a8b48f855bb2f74f51c587288ed4479c52ee1ee15dcbd6") true
    texts_holds (fun _ h => absurd h List.not_mem_nil) (by kernel_rfl) (fun _ h => absurd h List.not_mem_nil) codeTexts_row_tie rfl ⟨rfl, rfl⟩ (by kernel_rfl) rfl
    (fun f fn hf hfn => by
      obtain rfl : f = 3 := (Option.some.inj ((show Tryz.prog.funcNamed "quiescent/quiescentlaw1.CodeTexts" = some 3 by kernel_rfl).symm.trans hf)).symm
      obtain rfl : fn = Tryz.f3 := (Option.some.inj (Tryz.func3.symm.trans hfn)).symm
      exact ⟨by kernel_rfl, fun j t ht => by
        rw [Tryz.params3] at ht
        rcases j with _ | j
        · obtain rfl : t = 22 := by simpa using ht.symm
          exact (show Tryz.prog.wantsStandIn 22 = false by kernel_rfl)
        · simp at ht⟩)
    (by kernel_rfl)
#print axioms texts_card
end Go.Proofs.YtcajklfngeafdaaGreatDoor
