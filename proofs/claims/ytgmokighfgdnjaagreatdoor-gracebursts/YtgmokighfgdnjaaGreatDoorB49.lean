import Derived.Test.YtgmokighfgdnjaaGreatDoorB47
import Derived.Test.YtgmokighfgdnjaaGreatDoorB48

/- GeE -/
namespace Go.Proofs.YtgmokighfgdnjaaGreatDoor
open Go.RowKit Go.Extern.Stop Go.Stop Go.Extern Go.Maps Go.WideMaps Go.Sort

def WentRel (cs : List (List Ins)) (p : RkPl) (m : Mk) (w : World) (l : List Int) (wr : World) : Prop := ∃ r v, RkStep cs p m.mem w r v (m.runO cs l).2 wr ∧ RkX cs (p.to r v) (m.runO cs l).2 (1 + l.length) wr
theorem WentRel.next {cs : List (List Ins)} {p : RkPl} {m : Mk} {w : World} {l : List Int} {wr w' : World} {r r' : RmPl} {v v' : Value} {x : Int} (h : RkStep cs p m.mem w r v (m.runO cs l).2 wr) (hx : RkX cs (p.to r v) (m.runO cs l).2 (1 + l.length) wr)
    (k' : RkStep cs (p.to r v) (m.runO cs l).2.mem wr r' v' ((m.runO cs l).2.turnO cs x).2 w') (hk : l.length ≤ 100000) : WentRel cs p m w (l ++ [x]) w' := by
  unfold WentRel
  rw [Mk.runO_snoc, List.length_append]
  exact ⟨r', v', h.trans k', hx.of k' (hx.ok.turnO hx.right x (by omega)) (by show 1 + l.length + 1 ≤ _; omega)⟩

set_option maxRecDepth 20000 in
set_option maxHeartbeats 2000000 in
theorem gburst_out (f : Int) (ad : Option Addr) (l : List CsI) (cap : Nat) (ac : Option Addr) (len sc : Nat) (ae : Option Addr) (len2 sc2 : Nat) (w : World) (hl : castsAt ad l w) (h : ¬ (Fit f l ∧ len ≤ 200 ∧ len2 ≤ 200)) :
    Calls Tryz.prog 4 #[.int .i64 f, .slice ad l.length cap, .slice ac len sc, .slice ae len2 sc2] w fun e w' => e = .returned (.bool true) ∧ Below w.heap.size w w' := by
  have HF := hide (flavoured_any w)
  have HW := hide (fun w' (hb : Below w.heap.size w w') => wrongCast_any f ad l cap w' (hl.below hb))
  have HN := hide h
  clear hl h
  generalize l.length = n at *
  go_enter Tryz.func4, Tryz.ntmps4
  go_wp2_with fail
  refine HF.out.mono ?_
  rintro e w1 ⟨rfl, hb⟩
  have HW1 := hide (HW.out w1 hb)
  clear HF HW
  go_wp2_with fail
  refine HW1.out.mono ?_
  rintro e w2 ⟨b, rfl, hfit, hb2⟩
  have HB2 := below_step hb hb2
  cases b with
  | true =>
    clear HW1 hb hb2 hfit HN
    go_wp2_with fail
    go_ret
    exact ⟨rfl, HB2⟩
  | false =>
    have hlen : 200 < (len : Int) ∨ ¬ 200 < (len : Int) ∧ 200 < (len2 : Int) := by
      have : ¬ (len ≤ 200 ∧ len2 ≤ 200) := fun e => HN.out ⟨hfit.1 rfl, e.1, e.2⟩
      omega
    clear HW1 hb hb2 hfit HN
    rcases hlen with h1 | ⟨h1, h2⟩
    · go_wp2_with fail
      go_ret
      exact ⟨rfl, HB2⟩
    · go_wp2_with fail
      go_ret
      exact ⟨rfl, HB2⟩

set_option maxRecDepth 20000 in
set_option maxHeartbeats 4000000 in
theorem gburst_in {f : Nat} (hf : 1 ≤ f ∧ f ≤ 4) (cast : List Cs) (hok : ∀ c ∈ cast, c.ok) (n : Nat) (hn : cast.length = n) (h1 : 1 ≤ n) (h4 : n ≤ 4) (ad : Option Addr) (cap : Nat) (w : World) (hl : castsAt ad (cast.map Cs.toI) w) (ac : Option Addr) (lw : List Int) (sc : Nat) (hlen : lw.length ≤ 200) (hls : numsAt ac lw w) (ae : Option Addr) (lg : List Int) (sc2 : Nat) (hlen2 : lg.length ≤ 200) (hls2 : numsAt ae lg w) :
    Calls Tryz.prog 4 #[.int .i64 f, .slice ad n cap, .slice ac lw.length sc, .slice ae lg.length sc2] w fun e w' => e = .returned (.bool true) ∧ Below w.heap.size w w' := by
  have HF := hide (flavoured_any w)
  have HW := hide (fun w' (hb : Below w.heap.size w w') => right_cast (cap := cap) hf hok hn h1 h4 (hl.below hb))
  have HPL := hide (fun w' (hb : Below w.heap.size w w') => played_ok hf true cast hok n hn h1 h4 ad cap w' (hl.below hb))
  have HS : Hid (∀ l : List Int, l.length ≤ 4000 → ((gcM f n).runO (cast.map (Cs.code f true)) l).2.faults = 0) := hide (fun l hl => by
    have := gc_safe hf hok (by rw [hn]; exact h1) (by rw [hn]; omega) l (by omega)
    rwa [hn] at this)
  have hcl : (cast.map (Cs.code f true)).length = n := by rw [List.length_map, hn]
  have HN := hide hls
  have HN2 := hide hls2
  have HCL := hide hcl
  obtain ⟨n1, e1, i1⟩ : ∃ n1, Hid (lw.length = n1) ∧ n1 ≤ 200 := ⟨_, hide rfl, hlen⟩
  obtain ⟨n2, e2, i2⟩ : ∃ n2, Hid (lg.length = n2) ∧ n2 ≤ 200 := ⟨_, hide rfl, hlen2⟩
  have i5 : ¬ 200 < (n1 : Int) := by omega
  have i6 : ¬ 200 < (n2 : Int) := by omega
  rw [e1.out, e2.out]
  clear hl hf hok hn h1 h4 hls hls2 hcl hlen hlen2
  generalize cast.map (Cs.code f true) = cs at *
  generalize gcM f n = m0 at *
  generalize (f : Int) = fi at *
  go_enter Tryz.func4, Tryz.ntmps4
  go_wp2_with fail
  refine HF.out.mono ?_
  rintro e w1 ⟨rfl, hb1⟩
  have HW1 := hide (HW.out w1 hb1)
  clear HF HW
  go_wp2_with fail
  refine HW1.out.mono ?_
  rintro e w2 ⟨rfl, hb2⟩
  have HB2 := hide (below_step hb1 hb2)
  have HP2 := hide (HPL.out w2 HB2.out)
  clear HW1 HPL hb1 hb2
  go_wp2_with fail
  refine HP2.out.mono ?_
  rintro e w3 ⟨p, rfl, hR⟩
  have HB3 := hide (below_step HB2.out hR.out.2.1)
  have H0 : Hid (WentRel cs p m0 w3 [] w3) := hide ⟨p.rp, p.mv, RkStep.refl hR.out.1.at', hR.out.1⟩
  have HBL : Hid (∀ l wr, WentRel cs p m0 w3 l wr → Below w.heap.size w wr) := hide (fun l wr ⟨r, v, hk, _⟩ => HB3.out.trans (hk.turns.below HB3.out.size (fun b o hb hf => by
    rw [HCL.out] at hf
    have := hR.out.2.2 b hf
    have := HB2.out.size
    omega)))
  have HFA : Hid (∀ l wr, l.length ≤ 4000 → WentRel cs p m0 w3 l wr → wr.cell? ⟨p.k, 3, none⟩ = some (.int .i64 0)) := hide (fun l wr hl ⟨r, v, hk, _⟩ => by
    have := hk.at'.mFaults
    rw [HS.out l hl] at this
    exact this)
  have HTU : Hid (∀ l wr x, l.length ≤ 4000 → WentRel cs p m0 w3 l wr → Calls Tryz.prog 21 #[.pointer (some ⟨p.k, 0, none⟩), .int .i64 x] wr fun e w' => ∃ k : Int, e = .returned (.int .i64 k) ∧ WentRel cs p m0 w3 (l ++ [x]) w') := hide (fun l wr x hl ⟨r, v, hk, hx⟩ => (rturn_any hx x).mono fun e w' ⟨h1, r', v', h2⟩ => ⟨_, h1, WentRel.next hk hx h2 (by omega)⟩)
  clear hR HP2 HS HB2
  go_wp2_with fail
  go_loopw [12, 13, 14] (fun st i _ wr => ∃ j s : Nat, j ≤ n1 ∧ i = .int .i64 j ∧ st = .int .i64 s ∧ s ≤ 4000 ∧ Hid (∃ l, l.length = s ∧ WentRel cs p m0 w3 l wr)) (fun _ i _ _ => n1 - (intOf i).toNat)
  case atStart => exact ⟨0, 0, Nat.zero_le _, rfl, rfl, Nat.zero_le _, hide ⟨[], rfl, H0.out⟩⟩
  case round =>
    clear H0
    obtain ⟨j, s, hj, rfl, rfl, hs, HG⟩ := hrel
    have hex : ((j : Int) < n1 ∧ (j : Int) < n2) ∨ ¬ (j : Int) < n1 ∨ (j : Int) < n1 ∧ ¬ (j : Int) < n2 := by omega
    rcases hex with ⟨j1, j2⟩ | hex
    · obtain ⟨x, hx⟩ : ∃ x, lg[j]? = some x := ⟨_, List.getElem?_eq_getElem (by rw [e2.out]; omega)⟩
      obtain ⟨y, hy⟩ : ∃ y, lw[j]? = some y := ⟨_, List.getElem?_eq_getElem (by rw [e1.out]; omega)⟩
      obtain ⟨bx, ox, rfl, -⟩ := HN2.out j x hx
      obtain ⟨by', oy, rfl, -⟩ := HN.out j y hy
      have HCX : Hid (∀ l wr, WentRel cs p m0 w3 l wr → wr.cell? ⟨bx, ox + j, none⟩ = some (.int .i64 x) ∧ wr.cell? ⟨by', oy + j, none⟩ = some (.int .i64 y)) := hide fun l wr h => by
        obtain ⟨b, o, e, hc⟩ := HN2.out.below (HBL.out l wr h) j x hx
        cases e
        obtain ⟨b, o, e, hc2⟩ := HN.out.below (HBL.out l wr h) j y hy
        cases e
        exact ⟨hc, hc2⟩
      clear hx hy
      go_wp2_with fail
      go_loopw [12, 14] (fun st i wr => ∃ k s : Nat, k ≤ 200 ∧ i = .int .i64 k ∧ st = .int .i64 s ∧ s ≤ 4000 ∧ Hid (∃ l, l.length = s ∧ WentRel cs p m0 w3 l wr)) (fun _ i _ => 200 - (intOf i).toNat)
      case atStart => exact ⟨0, s, Nat.zero_le _, rfl, rfl, hs, HG⟩
      case round =>
        clear HG hs
        obtain ⟨k, s, hk, rfl, rfl, hs, HG⟩ := hrel
        obtain ⟨l, hls, hw⟩ := HG.out
        obtain ⟨cx, cy⟩ := HCX.out l wr hw
        have hex : ((k : Int) < x ∧ (k : Int) < 200 ∧ (s : Int) < 4000) ∨ (¬ (k : Int) < x ∨ (k : Int) < x ∧ ¬ (k : Int) < 200 ∨ (k : Int) < x ∧ (k : Int) < 200 ∧ ¬ (s : Int) < 4000) := by omega
        rcases hex with ⟨k1, k2, k3⟩ | hex
        · have HT := hide (HTU.out l wr y (by omega) hw)
          have HLS := hide hls
          clear hw HG hls
          go_wp2_with fail
          refine HT.out.mono ?_
          rintro e w5 ⟨kk, rfl, hw5⟩
          have HG5 : Hid (∃ l, l.length = s + 1 ∧ WentRel cs p m0 w3 l w5) := hide ⟨_, by rw [List.length_append, HLS.out]; rfl, hw5⟩
          clear hw5 HT HLS cx cy
          go_wp2_with fail
          go_roundw
          case rel => exact ⟨k + 1, s + 1, by omega, by go_num, by go_num, by omega, HG5⟩
          case measure => simp [intOf]; omega
        · clear hw hls
          rcases hex with h1 | ⟨h1, h2⟩ | ⟨h1, h2, h3⟩
          · go_wp2_with fail
            go_roundw
            case rel => exact ⟨j + 1, s, by omega, by go_num, rfl, hs, HG⟩
            case measure => simp [intOf]; omega
          · go_wp2_with fail
            go_roundw
            case rel => exact ⟨j + 1, s, by omega, by go_num, rfl, hs, HG⟩
            case measure => simp [intOf]; omega
          · go_wp2_with fail
            go_roundw
            case rel => exact ⟨j + 1, s, by omega, by go_num, rfl, hs, HG⟩
            case measure => simp [intOf]; omega
    · obtain ⟨l, hls, hw⟩ := HG.out
      have hFa := HFA.out l wr (by omega) hw
      have HB4 := HBL.out l wr hw
      clear hw hls HG HFA HBL HTU
      rcases hex with h1 | ⟨h1, h2⟩
      · go_wp2_with fail
        go_ret
        exact ⟨rfl, HB4⟩
      · go_wp2_with fail
        go_ret
        exact ⟨rfl, HB4⟩
theorem gburst_any (f : Int) (ad : Option Addr) (l : List CsI) (cap : Nat) (ac : Option Addr) (s : List Int) (sc : Nat) (ae : Option Addr) (s2 : List Int) (sc2 : Nat) (w : World) (hl : castsAt ad l w) (hs : numsAt ac s w) (hs2 : numsAt ae s2 w) :
    Calls Tryz.prog 4 #[.int .i64 f, .slice ad l.length cap, .slice ac s.length sc, .slice ae s2.length sc2] w fun e w' => e = .returned (.bool true) ∧ Below w.heap.size w w' := by
  by_cases h : Fit f l ∧ s.length ≤ 200 ∧ s2.length ≤ 200
  · obtain ⟨k, cast, rfl, hk, rfl, hok, h1, h4⟩ := cast_of h.1
    rw [List.length_map]
    exact gburst_in hk cast hok _ rfl h1 h4 ad cap w hl ac s sc h.2.1 hs ae s2 sc2 h.2.2 hs2
  · exact gburst_out f ad l cap ac s.length sc ae s2.length sc2 w hl h
end Go.Proofs.YtgmokighfgdnjaaGreatDoor

/- GeF -/
namespace Go.Proofs.YtgmokighfgdnjaaGreatDoor
open Go.ChangeShapes Go.WideShapes Go.ChangeAt Go.RowKit Go.Joins Go.Deep

theorem five_metB (os : Os) (args : Array Value) : laidMetH Tryz.prog Rows.graceBurstsRow.laid ((World.laidAll Tryz.prog os Rows.graceBurstsRow.laid).forCall (fun _ _ => 0) ⟨#[], args, []⟩).memory := five_met os args
theorem readableGB : ∀ t ∈ [3, 42, 36, 36], Tryz.prog.readableRec t = true ∧ t < Tryz.prog.types.size := by
  intro t ht
  simp only [List.mem_cons, List.not_mem_nil, or_false] at ht
  rcases ht with rfl | rfl | rfl | rfl
  · exact ⟨by kernel_rfl, of_decide_eq_true (by kernel_rfl)⟩
  · exact ⟨by kernel_rfl, of_decide_eq_true (by kernel_rfl)⟩
  · exact ⟨by kernel_rfl, of_decide_eq_true (by kernel_rfl)⟩
  · exact ⟨by kernel_rfl, of_decide_eq_true (by kernel_rfl)⟩

set_option maxRecDepth 100000 in
theorem gburst_lifted (os : Os) (started : os.Started) (H : Type) (enc : TypeId × Value → H) :
    ReturnsInHanded {} Tryz.checked os 4 .any (fun w args => (Rows.graceBurstsSpec.pre enc Tryz.prog Tryz.f4 [] false w args ∧ laidMetH Tryz.prog Rows.graceBurstsRow.laid w) ∧ sizedMet enc Tryz.prog Tryz.f4 (OpenSpec.ofChange Rows.graceBurstsSpec) false w args)
      (Rows.graceBurstsSpec.post enc Tryz.prog Tryz.f4 false true false false) := by
  refine lift_shaped (C := Tryz.checked) (X := fun w _ => laidMetH Tryz.prog Rows.graceBurstsRow.laid w) (fun _ _ _ hh h => h.of_heap hh) own started (by kernel_rfl) Tryz.func4
    (ChangeSpec.witness_shaped (enc := enc) (C := Tryz.checked) (os := os) (X := fun w _ => laidMetH Tryz.prog Rows.graceBurstsRow.laid w) false (World.laidAll Tryz.prog os Rows.graceBurstsRow.laid) #[.int .i64 0, .slice none 0 0, .slice none 0 0, .slice none 0 0] 8 (World.laidAll_os _ _ _)
      (World.shaped_of_ZipB (by kernel_rfl) (by kernel_rfl)) (by kernel_rfl) (by kernel_rfl) (by kernel_rfl) (five_metB os _)) ?_
  intro W base args ds gs before hval0 hW hL hsh
  have hval : ∀ (j : Nat) t v, Tryz.f4.params[j]? = some t → args[j]? = some v → Value.okWide Tryz.prog W .any base t v := hval0
  have hW' := hW
  obtain ⟨p, q, hA0, hV, rfl, hfz, hnd⟩ := hW
  have hA : DataW.TrodAll enc Tryz.prog W 0 (fun _ => true) true Tryz.f4.params.toList args.toList ds p := hA0
  rw [Tryz.params4] at hA hval
  have hA2 := hA
  obtain ⟨v0, v1, v2, v3, d0, d1, d2, d3, p0, p1, p2, p3, rfl, rfl, rfl, h0, h1, h2, h3⟩ := trodAll_four hA
  obtain ⟨rfl, rfl⟩ := trodVars_none hV
  obtain ⟨n0, rfl⟩ := okWide_int Tryz.underlying3 (hval 0 3 v0 rfl rfl)
  obtain ⟨s1, sl1, sc1, rfl⟩ := okWide_slice Tryz.underlying42 (hval 1 42 v1 rfl rfl)
  obtain ⟨s2, sl2, sc2, rfl⟩ := okWide_slice Tryz.underlying36 (hval 2 36 v2 rfl rfl)
  obtain ⟨s3, sl3, sc3, rfl⟩ := okWide_slice Tryz.underlying36 (hval 3 36 v3 rfl rfl)
  obtain ⟨f1, hf1⟩ := h1
  obtain ⟨adb, capb, lb, q1, hcb⟩ := casts_of_trod hf1
  obtain ⟨rfl, rfl, rfl⟩ : s1 = adb ∧ sl1 = lb.length ∧ sc1 = capb := by simpa [Value.cells] using q1
  obtain ⟨f2, hf2⟩ := h2
  obtain ⟨ada, capa, la, q2, hna, -⟩ := numsS_of_trod hf2
  obtain ⟨rfl, rfl, rfl⟩ : s2 = ada ∧ sl2 = la.length ∧ sc2 = capa := by simpa [Value.cells] using q2
  obtain ⟨f3, hf3⟩ := h3
  obtain ⟨adc, capc, lc, q3, hnc, -⟩ := numsS_of_trod hf3
  obtain ⟨rfl, rfl, rfl⟩ : s3 = adc ∧ sl3 = lc.length ∧ sc3 = capc := by simpa [Value.cells] using q3
  clear hA0 hval0
  simp only [List.append_nil] at hW'
  refine (gburst_any n0 s1 lb sc1 s2 la sc2 s3 lc sc3 W hcb hna hnc).mono fun e W' ⟨he, hb⟩ => ?_
  subst he
  refine ⟨_, rfl, _, _, _, [], p0 ++ p1 ++ p2 ++ p3, [], hW', ?_, ?_, ?_, hb.frame _, fun h => by cases h⟩
  · exact trodAll_mk1 (shut_bool Tryz.underlying4 true)
  · exact trodAll_below laidOutA hb _ _ _ _ readableGB hA2
  · rfl

theorem gburst_holds : Rows.GraceBurstsSaid :=
  OpenClaim.holds_of_wide 4 Tryz.f4 rfl rfl rfl rfl rfl rfl rfl ⟨rfl, rfl, rfl, rfl, rfl⟩ rfl rfl rfl rfl rfl (by kernel_rfl) Tryz.func4 (by kernel_rfl)
    (of_decide_eq_true (by kernel_rfl)) (by unfold Func.isWrapper; rw [if_neg (of_decide_eq_false (by kernel_rfl))]; exact ⟨rfl, rfl⟩)
    (fun os started H enc _ => gburst_lifted os started H enc)

theorem gburst_card : Rows.GraceBurstsCardSaid :=
  Claim7.holds_tied_plain_at .later [] [.data, .data, .data, .sentinel, .sentinel] true (true, "d96b3fadc349f2ad41dda712b7207807a68f691cda14d3f42f35beb17e21310f") true
    gburst_holds (fun _ h => absurd h List.not_mem_nil) (by kernel_rfl) (fun _ h => absurd h List.not_mem_nil) graceBursts_row_tie rfl ⟨rfl, rfl⟩ (by kernel_rfl) rfl
    (fun f fn hf hfn => by
      obtain rfl : f = 4 := (Option.some.inj ((show Tryz.prog.funcNamed "quiescent/quiescentlaw2.GraceBursts" = some 4 by kernel_rfl).symm.trans hf)).symm
      obtain rfl : fn = Tryz.f4 := (Option.some.inj (Tryz.func4.symm.trans hfn)).symm
      exact ⟨by kernel_rfl, fun j t ht => by
        rw [Tryz.params4] at ht
        rcases j with _ | _ | _ | _ | j
        · obtain rfl : t = 3 := by simpa using ht.symm
          exact (show Tryz.prog.wantsStandIn 3 = false by kernel_rfl)
        · obtain rfl : t = 42 := by simpa using ht.symm
          exact (show Tryz.prog.wantsStandIn 42 = false by kernel_rfl)
        · obtain rfl : t = 36 := by simpa using ht.symm
          exact (show Tryz.prog.wantsStandIn 36 = false by kernel_rfl)
        · obtain rfl : t = 36 := by simpa using ht.symm
          exact (show Tryz.prog.wantsStandIn 36 = false by kernel_rfl)
        · simp at ht⟩)
    (by kernel_rfl)
#print axioms gburst_card
end Go.Proofs.YtgmokighfgdnjaaGreatDoor
