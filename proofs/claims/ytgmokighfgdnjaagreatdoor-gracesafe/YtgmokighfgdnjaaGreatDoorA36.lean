/- The law GraceSafe answers true for every flavour, cast and script that can be handed in; no condition beside the row's own. -/
import Derived.Test.YtgmokighfgdnjaaGreatDoorA35
import Derived.Test.YtgmokighfgdnjaaGreatDoorA11
import Derived.Test.YtgmokighfgdnjaaGreatDoorTie
import Derived.Test.YtgmokighfgdnjaaGreatDoorCards
import Derived.Carry
import Derived.SevenTiedAt

/- GeC -/
namespace Go.Proofs.YtgmokighfgdnjaaGreatDoor
open Go.RowKit Go.Extern.Stop Go.Stop Go.Extern Go.Maps Go.WideMaps Go.Sort

theorem toI_fit {f : Nat} (hf : 1 ≤ f ∧ f ≤ 4) {cast : List Cs} (hok : ∀ c ∈ cast, c.ok) {n : Nat} (hn : cast.length = n) (h1 : 1 ≤ n) (h4 : n ≤ 4) : Fit (f : Int) (cast.map Cs.toI) := by
  refine ⟨⟨by omega, by omega⟩, ⟨by rw [List.length_map]; omega, by rw [List.length_map]; omega⟩, fun c hc => ?_⟩
  obtain ⟨x, hx, rfl⟩ := List.mem_map.1 hc
  obtain ⟨k1, k2⟩ := hok x hx
  refine ⟨?_, ?_, ?_, ?_⟩
  · show (0 : Int) ≤ (x.tm : Int); omega
  · show (x.tm : Int) ≤ 3; omega
  · show (0 : Int) ≤ (x.rd : Int); omega
  · show (x.rd : Int) ≤ 5; omega
theorem right_cast {f : Nat} (hf : 1 ≤ f ∧ f ≤ 4) {cast : List Cs} (hok : ∀ c ∈ cast, c.ok) {n : Nat} (hn : cast.length = n) (h1 : 1 ≤ n) (h4 : n ≤ 4) {ad : Option Addr} {cap : Nat} {w : World} (hl : castsAt ad (cast.map Cs.toI) w) :
    Calls Tryz.prog 19 #[.int .i64 f, .slice ad n cap] w fun e w' => e = .returned (.bool false) ∧ Below w.heap.size w w' := by
  have h := wrongCast_any f ad (cast.map Cs.toI) cap w hl
  rw [show (cast.map Cs.toI).length = n by rw [List.length_map, hn]] at h
  refine h.mono fun e w' ⟨b, he, hb, hB⟩ => ?_
  obtain rfl := hb.2 (toI_fit hf hok hn h1 h4)
  exact ⟨he, hB⟩

set_option maxRecDepth 20000 in
set_option maxHeartbeats 2000000 in
theorem gsafe_out (f : Int) (ad : Option Addr) (l : List CsI) (cap : Nat) (ac : Option Addr) (len sc : Nat) (w : World) (hl : castsAt ad l w) (h : ¬ (Fit f l ∧ len ≤ 3000)) :
    Calls Tryz.prog 7 #[.int .i64 f, .slice ad l.length cap, .slice ac len sc] w fun e w' => e = .returned (.bool true) ∧ Below w.heap.size w w' := by
  have HF := hide (flavoured_any w)
  have HW := hide (fun w' (hb : Below w.heap.size w w') => wrongCast_any f ad l cap w' (hl.below hb))
  have HN := hide h
  clear hl h
  generalize l.length = n at *
  go_enter Tryz.func7, Tryz.ntmps7
  go_wp2_with fail
  refine HF.out.mono ?_
  rintro e w1 ⟨rfl, hb⟩
  have HW1 := hide (HW.out w1 hb)
  clear HF HW
  go_wp2_with fail
  refine HW1.out.mono ?_
  rintro e w2 ⟨b, rfl, hfit, hb2⟩
  have HB2 := below_step hb hb2
  cases b with
  | true =>
    clear HW1 hb hb2 hfit HN
    go_wp2_with fail
    go_ret
    exact ⟨rfl, HB2⟩
  | false =>
    have hlen : 3000 < (len : Int) := by
      have : ¬ len ≤ 3000 := fun e => HN.out ⟨hfit.1 rfl, e⟩
      omega
    clear HW1 hb hb2 hfit HN
    go_wp2_with fail
    go_ret
    exact ⟨rfl, HB2⟩

set_option maxRecDepth 20000 in
set_option maxHeartbeats 4000000 in
theorem gsafe_in {f : Nat} (hf : 1 ≤ f ∧ f ≤ 4) (cast : List Cs) (hok : ∀ c ∈ cast, c.ok) (n : Nat) (hn : cast.length = n) (h1 : 1 ≤ n) (h4 : n ≤ 4) (ad : Option Addr) (cap : Nat) (w : World) (hl : castsAt ad (cast.map Cs.toI) w) (ac : Option Addr) (l : List Int) (sc : Nat) (hlen : l.length ≤ 3000) (hls : numsAt ac l w) (hcap : l.length ≤ sc) (hd : 0 < l.length → ∀ b off, ac = some ⟨b, off, none⟩ → b < w.heap.size) :
    Calls Tryz.prog 7 #[.int .i64 f, .slice ad n cap, .slice ac l.length sc] w fun e w' => e = .returned (.bool true) ∧ Below w.heap.size w w' := by
  have HF := hide (flavoured_any w)
  have HW := hide (fun w' (hb : Below w.heap.size w w') => right_cast (cap := cap) hf hok hn h1 h4 (hl.below hb))
  have HPL := hide (fun w' (hb : Below w.heap.size w w') => played_ok hf true cast hok n hn h1 h4 ad cap w' (hl.below hb))
  have HS : Hid (((gcM f n).runO (cast.map (Cs.code f true)) l).2.faults = 0) := hide (by
    have := gc_safe hf hok (by rw [hn]; exact h1) (by rw [hn]; omega) l (by omega)
    rwa [hn] at this)
  have hcl : (cast.map (Cs.code f true)).length = n := by rw [List.length_map, hn]
  have HN := hide hls
  have HD := hide hd
  have HCL := hide hcl
  have i5 : ¬ 3000 < (l.length : Int) := by omega
  clear hl hf hok hn h1 h4 hls hd hcl
  generalize cast.map (Cs.code f true) = cs at *
  generalize gcM f n = m0 at *
  generalize (f : Int) = fi at *
  go_enter Tryz.func7, Tryz.ntmps7
  go_wp2_with fail
  refine HF.out.mono ?_
  rintro e w1 ⟨rfl, hb1⟩
  have HW1 := hide (HW.out w1 hb1)
  clear HF HW
  go_wp2_with fail
  refine HW1.out.mono ?_
  rintro e w2 ⟨rfl, hb2⟩
  have HB2 := hide (below_step hb1 hb2)
  have HP2 := hide (HPL.out w2 HB2.out)
  clear HW1 HPL hb1 hb2
  go_wp2_with fail
  refine HP2.out.mono ?_
  rintro e w3 ⟨p, rfl, hR⟩
  have HB3 := hide (below_step HB2.out hR.out.2.1)
  have HRUN := hide (rrun_any hR.out.1 (HN.out.below HB3.out) (Nat.le_trans hlen (by decide)) hcap (Nat.le_trans (Nat.add_le_add_left hlen 1) (by decide)) (fun h0 b off e => by
    have h7 := HD.out h0 b off e
    have h8 := HB2.out.size
    have h9 := HB3.out.size
    refine ⟨by omega, fun hf => ?_⟩
    rw [HCL.out] at hf
    have := hR.out.2.2 b hf
    omega))
  have HFP := hide hR.out.2.2
  clear hR HN HD HP2
  go_wp2_with fail
  refine HRUN.out.mono ?_
  rintro e w4 ⟨rfl, r, v, hk, hx⟩
  have HB4 : Below w.heap.size w w4 := HB3.out.trans (hk.turns.below HB3.out.size (fun b o hb hf => by
    rw [HCL.out] at hf
    have := HFP.out b hf
    have := HB2.out.size
    omega))
  have hFa : w4.cell? ⟨p.k, 3, none⟩ = some (.int .i64 0) := by
    have := hk.at'.mFaults
    rw [HS.out] at this
    exact this
  clear hk hx HRUN HFP HB3 HB2
  go_wp2_with fail
  go_ret
  exact ⟨rfl, HB4⟩

theorem cast_of {f : Int} {l : List CsI} (h : Fit f l) : ∃ (k : Nat) (cast : List Cs), f = k ∧ (1 ≤ k ∧ k ≤ 4) ∧ l = cast.map Cs.toI ∧ (∀ c ∈ cast, c.ok) ∧ 1 ≤ cast.length ∧ cast.length ≤ 4 := by
  obtain ⟨⟨f1, f2⟩, ⟨h1, h2⟩, hfit⟩ := h
  obtain ⟨k, rfl⟩ := Int.eq_ofNat_of_zero_le (show 0 ≤ f by omega)
  refine ⟨k, l.map fun c => ⟨c.w, c.tm.toNat, c.rd.toNat, c.ns⟩, rfl, ⟨by omega, by omega⟩, ?_, fun c hc => ?_, by rw [List.length_map]; exact h1, by rw [List.length_map]; exact h2⟩
  · rw [List.map_map]
    refine (List.map_id l).symm.trans (List.map_congr_left fun c hc => ?_)
    obtain ⟨k1, k2, k3, k4⟩ := hfit c hc
    show c = ⟨c.w, (c.tm.toNat : Int), (c.rd.toNat : Int), c.ns⟩
    rw [Int.toNat_of_nonneg k1, Int.toNat_of_nonneg k3]
  · obtain ⟨x, hx, rfl⟩ := List.mem_map.1 hc
    obtain ⟨k1, k2, k3, k4⟩ := hfit x hx
    exact ⟨by show x.tm.toNat ≤ 3; omega, by show x.rd.toNat ≤ 5; omega⟩
theorem gsafe_any (f : Int) (ad : Option Addr) (l : List CsI) (cap : Nat) (ac : Option Addr) (s : List Int) (sc : Nat) (w : World) (hl : castsAt ad l w) (hs : numsAt ac s w) (hcap : s.length ≤ sc) :
    Calls Tryz.prog 7 #[.int .i64 f, .slice ad l.length cap, .slice ac s.length sc] w fun e w' => e = .returned (.bool true) ∧ Below w.heap.size w w' := by
  by_cases h : Fit f l ∧ s.length ≤ 3000
  · obtain ⟨k, cast, rfl, hk, rfl, hok, h1, h4⟩ := cast_of h.1
    rw [List.length_map]
    refine gsafe_in hk cast hok _ rfl h1 h4 ad cap w hl ac s sc h.2 hs hcap (fun h0 b off e => ?_)
    obtain ⟨y, hy⟩ : ∃ y, s[0]? = some y := ⟨_, List.getElem?_eq_getElem h0⟩
    obtain ⟨b', off', e', hc⟩ := hs 0 y hy
    rw [e] at e'
    cases e'
    exact World.block_lt_of_cell? _ _ hc
  · exact gsafe_out f ad l cap ac s.length sc w hl h
end Go.Proofs.YtgmokighfgdnjaaGreatDoor

/- GeD -/
namespace Go.Proofs.YtgmokighfgdnjaaGreatDoor
open Go.ChangeShapes Go.WideShapes Go.ChangeAt Go.RowKit Go.Joins Go.Deep

theorem cells_Cast : Tryz.prog.cellsOf 55 = 4 := by kernel_rfl
theorem cells_bC : Tryz.prog.cellsOf 4 = 1 := by kernel_rfl
set_option maxRecDepth 100000 in
theorem cast_of_trod {H : Type} {enc : TypeId × Value → H} {W : World} {sp : Nat → Bool} {held : Bool} {fuel : Nat} {cs : List Value} {x : DataW H × List MemPlace}
    (h : DataW.trod enc Tryz.prog W 0 sp held fuel 55 cs = some x) : ∃ y : CsI, cs = [.bool y.w, .int .i64 y.tm, .int .i64 y.rd, .bool y.ns] := by
  obtain ⟨xs, n, _, _, hl, hlen, hf⟩ := DataW.trod_struct Tryz.underlying55 h
  rw [cells_Cast] at hl
  match cs, hl with
  | [c0, c1, c2, c3], _ =>
    match xs, hlen with
    | [x0, x1, x2, x3], _ =>
      have f0 : DataW.trod enc Tryz.prog W 0 sp held n 4 [c0] = some x0 := by simpa [cells_bC] using hf 0 _ rfl
      have f1 : DataW.trod enc Tryz.prog W 0 sp held n 3 [c1] = some x1 := by simpa [kcellsS_n] using hf 1 _ rfl
      have f2 : DataW.trod enc Tryz.prog W 0 sp held n 3 [c2] = some x2 := by simpa [kcellsS_n] using hf 2 _ rfl
      have f3 : DataW.trod enc Tryz.prog W 0 sp held n 4 [c3] = some x3 := by simpa [cells_bC] using hf 3 _ rfl
      obtain ⟨r0, e0, _, _⟩ := DataW.trod_bool Tryz.underlying4 f0
      obtain ⟨r1, e1, _, _⟩ := DataW.trod_int Tryz.underlying3 f1
      obtain ⟨r2, e2, _, _⟩ := DataW.trod_int Tryz.underlying3 f2
      obtain ⟨r3, e3, _, _⟩ := DataW.trod_bool Tryz.underlying4 f3
      refine ⟨⟨r0, r1, r2, r3⟩, ?_⟩
      simp only [List.cons.injEq, and_true] at e0 e1 e2 e3
      rw [e0, e1, e2, e3]
theorem casts_of_trod {H : Type} {enc : TypeId × Value → H} {W : World} {fuel : Nat} {sp : Nat → Bool} {held : Bool} {cs : List Value} {x : DataW H × List MemPlace} (h : DataW.trod enc Tryz.prog W 0 sp held fuel 42 cs = some x) :
    ∃ (ad : Option Addr) (cap : Nat) (l : List CsI), cs = [.slice ad l.length cap] ∧ castsAt ad l W := by
  have hinh : Inhabited CsI := ⟨⟨false, 0, 0, false⟩⟩
  obtain ⟨ad, cap, l, h1, h2, -⟩ := listS_of_trod (fun y : CsI => [.bool y.w, .int .i64 y.tm, .int .i64 y.rd, .bool y.ns]) 4 (by decide) (fun _ => True) Tryz.underlying42 cells_Cast (fun _ => rfl) (fun n cs x h => by obtain ⟨y, e⟩ := cast_of_trod h; exact ⟨y, e, trivial⟩) h
  refine ⟨ad, cap, l, h1, fun i y hy => ?_⟩
  obtain ⟨b, off, e, hc, -⟩ := h2 i y hy
  exact ⟨b, off, e, hc 0 (by decide), hc 1 (by decide), hc 2 (by decide), hc 3 (by decide)⟩

theorem five_plain : (Rows.graceSafeRow.laid.all fun x => x.2.handleName?.isNone) = true := by kernel_rfl
theorem five_met (os : Os) (args : Array Value) : laidMetH Tryz.prog Rows.graceSafeRow.laid ((World.laidAll Tryz.prog os Rows.graceSafeRow.laid).forCall (fun _ _ => 0) ⟨#[], args, []⟩).memory := by
  rw [MakeChecks.laidMetH_plain _ _ _ five_plain]
  exact laidMet_laidAll _ (by kernel_rfl) (by kernel_rfl)
theorem readableG : ∀ t ∈ [3, 42, 36], Tryz.prog.readableRec t = true ∧ t < Tryz.prog.types.size := by
  intro t ht
  simp only [List.mem_cons, List.not_mem_nil, or_false] at ht
  rcases ht with rfl | rfl | rfl
  · exact ⟨by kernel_rfl, of_decide_eq_true (by kernel_rfl)⟩
  · exact ⟨by kernel_rfl, of_decide_eq_true (by kernel_rfl)⟩
  · exact ⟨by kernel_rfl, of_decide_eq_true (by kernel_rfl)⟩

set_option maxRecDepth 100000 in
theorem gsafe_lifted (os : Os) (started : os.Started) (H : Type) (enc : TypeId × Value → H) :
    ReturnsInHanded {} Tryz.checked os 7 .any (fun w args => (Rows.graceSafeSpec.pre enc Tryz.prog Tryz.f7 [] false w args ∧ laidMetH Tryz.prog Rows.graceSafeRow.laid w) ∧ sizedMet enc Tryz.prog Tryz.f7 (OpenSpec.ofChange Rows.graceSafeSpec) false w args)
      (Rows.graceSafeSpec.post enc Tryz.prog Tryz.f7 false true false false) := by
  refine lift_shaped (C := Tryz.checked) (X := fun w _ => laidMetH Tryz.prog Rows.graceSafeRow.laid w) (fun _ _ _ hh h => h.of_heap hh) own started (by kernel_rfl) Tryz.func7
    (ChangeSpec.witness_shaped (enc := enc) (C := Tryz.checked) (os := os) (X := fun w _ => laidMetH Tryz.prog Rows.graceSafeRow.laid w) false (World.laidAll Tryz.prog os Rows.graceSafeRow.laid) #[.int .i64 0, .slice none 0 0, .slice none 0 0] 8 (World.laidAll_os _ _ _)
      (World.shaped_of_ZipB (by kernel_rfl) (by kernel_rfl)) (by kernel_rfl) (by kernel_rfl) (by kernel_rfl) (five_met os _)) ?_
  intro W base args ds gs before hval0 hW hL hsh
  have hval : ∀ (j : Nat) t v, Tryz.f7.params[j]? = some t → args[j]? = some v → Value.okWide Tryz.prog W .any base t v := hval0
  have hW' := hW
  obtain ⟨p, q, hA0, hV, rfl, hfz, hnd⟩ := hW
  have hA : DataW.TrodAll enc Tryz.prog W 0 (fun _ => true) true Tryz.f7.params.toList args.toList ds p := hA0
  rw [Tryz.params7] at hA hval
  have hA2 := hA
  obtain ⟨v0, v1, v2, d0, d1, d2, p0, p1, p2, rfl, rfl, rfl, h0, h1, h2⟩ := trodAll_three hA
  obtain ⟨rfl, rfl⟩ := trodVars_none hV
  obtain ⟨n0, rfl⟩ := okWide_int Tryz.underlying3 (hval 0 3 v0 rfl rfl)
  obtain ⟨s1, sl1, sc1, rfl⟩ := okWide_slice Tryz.underlying42 (hval 1 42 v1 rfl rfl)
  obtain ⟨s2, sl2, sc2, rfl⟩ := okWide_slice Tryz.underlying36 (hval 2 36 v2 rfl rfl)
  obtain ⟨f1, hf1⟩ := h1
  obtain ⟨adb, capb, lb, q1, hcb⟩ := casts_of_trod hf1
  obtain ⟨rfl, rfl, rfl⟩ : s1 = adb ∧ sl1 = lb.length ∧ sc1 = capb := by simpa [Value.cells] using q1
  obtain ⟨f2, hf2⟩ := h2
  obtain ⟨ada, capa, la, q2, hna, hca, -⟩ := numsS_of_trod hf2
  obtain ⟨rfl, rfl, rfl⟩ : s2 = ada ∧ sl2 = la.length ∧ sc2 = capa := by simpa [Value.cells] using q2
  clear hA0 hval0
  simp only [List.append_nil] at hW'
  refine (gsafe_any n0 s1 lb sc1 s2 la sc2 W hcb hna hca).mono fun e W' ⟨he, hb⟩ => ?_
  subst he
  refine ⟨_, rfl, _, _, _, [], p0 ++ p1 ++ p2, [], hW', ?_, ?_, ?_, hb.frame _, fun h => by cases h⟩
  · exact trodAll_mk1 (shut_bool Tryz.underlying4 true)
  · exact trodAll_below laidOutA hb _ _ _ _ readableG hA2
  · rfl

theorem gsafe_holds : Rows.GraceSafeSaid :=
  OpenClaim.holds_of_wide 7 Tryz.f7 rfl rfl rfl rfl rfl rfl rfl ⟨rfl, rfl, rfl, rfl, rfl⟩ rfl rfl rfl rfl rfl (by kernel_rfl) Tryz.func7 (by kernel_rfl)
    (of_decide_eq_true (by kernel_rfl)) (by unfold Func.isWrapper; rw [if_neg (of_decide_eq_false (by kernel_rfl))]; exact ⟨rfl, rfl⟩)
    (fun os started H enc _ => gsafe_lifted os started H enc)

theorem gsafe_card : Rows.GraceSafeCardSaid :=
  Claim7.holds_tied_plain_at .later [] [.data, .data, .data, .sentinel, .sentinel] true (true, "d96b3fadc349f2ad41dda712b7207807a68f691cda14d3f42f35beb17e21310f") true
    gsafe_holds (fun _ h => absurd h List.not_mem_nil) (by kernel_rfl) (fun _ h => absurd h List.not_mem_nil) graceSafe_row_tie rfl ⟨rfl, rfl⟩ (by kernel_rfl) rfl
    (fun f fn hf hfn => by
      obtain rfl : f = 7 := (Option.some.inj ((show Tryz.prog.funcNamed "quiescent/quiescentlaw2.GraceSafe" = some 7 by kernel_rfl).symm.trans hf)).symm
      obtain rfl : fn = Tryz.f7 := (Option.some.inj (Tryz.func7.symm.trans hfn)).symm
      exact ⟨by kernel_rfl, fun j t ht => by
        rw [Tryz.params7] at ht
        rcases j with _ | _ | _ | j
        · obtain rfl : t = 3 := by simpa using ht.symm
          exact (show Tryz.prog.wantsStandIn 3 = false by kernel_rfl)
        · obtain rfl : t = 42 := by simpa using ht.symm
          exact (show Tryz.prog.wantsStandIn 42 = false by kernel_rfl)
        · obtain rfl : t = 36 := by simpa using ht.symm
          exact (show Tryz.prog.wantsStandIn 36 = false by kernel_rfl)
        · simp at ht⟩)
    (by kernel_rfl)
#print axioms gsafe_card
end Go.Proofs.YtgmokighfgdnjaaGreatDoor
