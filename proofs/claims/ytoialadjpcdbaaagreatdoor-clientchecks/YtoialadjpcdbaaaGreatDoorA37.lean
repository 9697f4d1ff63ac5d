import Derived.Test.YtoialadjpcdbaaaGreatDoorA34
import Derived.Test.YtoialadjpcdbaaaGreatDoorA36
import Derived.Laws.ResultCell
import Derived.Test.YtoialadjpcdbaaaGreatDoorA01

/- ThL -/
namespace Go.Proofs.YtoialadjpcdbaaaGreatDoor
open Go.RowKit Go.Extern.Stop Go.Stop Go.Extern Go.Maps Go.WideMaps Go.Sort

structure KP (base : Nat) (w1 : World) (v : Value) (vs : List Value) (Ls : List (List Ins)) (w : World) : Prop where
  own : w.ownsRow base 53 1 v Ls.length vs
  el : ∀ (i : Nat) L, Ls[i]? = some L → ∃ u, vs[i]? = some u ∧ insOwn w base u L ∧ ∀ b, u.ownBlock = some b → v.ownBlock ≠ some b
  low : Below base w1 w
  bz : base ≤ w.heap.size
section
variable {base : Nat} {w1 : World} {v : Value} {vs : List Value} {Ls : List (List Ins)} {w w' : World}
theorem KP.nil (h : Below base w1 w) (hb : base ≤ w.heap.size) : KP base w1 (.slice none 0 0) [] [] w := ⟨World.ownsRow_nil _ _ _ _, fun i L hi => by simp at hi, h, hb⟩
theorem KP.below (h : KP base w1 v vs Ls w) (k : Below w.heap.size w w') : KP base w1 v vs Ls w' :=
  ⟨ownsRow_block h.own (fun b hb => k.block b (h.own.lt b hb).2), fun i L hi => by obtain ⟨u, h1, h2, h3⟩ := h.el i L hi; exact ⟨u, h1, insOwn_keep h2 k, h3⟩, h.low.trans (k.mono h.bz), Nat.le_trans h.bz k.size⟩
theorem KP.add (h : KP base w1 v vs Ls w) {u : Value} {L : List Ins} (hu : insOwn w base u L) (hne : ∀ b, u.ownBlock = some b → v.ownBlock ≠ some b) {v' : Value} {N : Nat} (hN : w.heap.size ≤ N)
    (ho : w'.ownsRow base 53 1 v' (Ls.length + 1) (vs ++ [u])) (hg : w.grownBy w' v.ownBlock) (hloc : v'.ownBlock = v.ownBlock ∨ v'.ownBlock = some N) : KP base w1 v' (vs ++ [u]) (Ls ++ [L]) w' := by
  have hB : Below base w w' := (Below.refl base w).grown hg h.bz (fun k hk => (h.own.lt k hk).1)
  have nb : ∀ b, b < w.heap.size → v.ownBlock ≠ some b → v'.ownBlock ≠ some b := fun b hb hne e => by
    rcases hloc with h1 | h1
    · rw [h1] at e; exact hne e
    · rw [h1] at e
      have := Option.some.inj e
      omega
  have kn : ∀ {u : Value} {L : List Ins}, insOwn w base u L → (∀ b, u.ownBlock = some b → v.ownBlock ≠ some b) → insOwn w' base u L ∧ ∀ b, u.ownBlock = some b → v'.ownBlock ≠ some b := fun {u L} h1 h2 => by
    refine ⟨insOwn_kept h1 hg ?_, fun b e => nb b (World.ownsRow.lt h1 b e).2 (h2 b e)⟩
    cases hr : u.ownBlock with
    | none => exact .inl rfl
    | some b => exact .inr fun e => h2 b hr e.symm
  have lv : vs.length = Ls.length := by have := h.own.1; omega
  refine ⟨by rw [List.length_append]; exact ho, fun i M hi => ?_, h.low.trans hB, Nat.le_trans h.bz hB.size⟩
  by_cases hlt : i < Ls.length
  · rw [List.getElem?_append_left hlt] at hi
    obtain ⟨x, h1, h2, h3⟩ := h.el i M hi
    exact ⟨x, by rw [List.getElem?_append_left (by omega)]; exact h1, (kn h2 h3).1, (kn h2 h3).2⟩
  · rw [List.getElem?_append_right (by omega)] at hi
    have hi0 : i - Ls.length = 0 := by
      have := (List.getElem?_eq_some_iff.1 hi).1
      simp at this; omega
    rw [hi0] at hi
    cases hi
    exact ⟨u, by rw [List.getElem?_append_right (by omega), lv, hi0]; rfl, (kn hu hne).1, (kn hu hne).2⟩
theorem KP.codes (h : KP base w1 v vs Ls w) : ∃ ad cap, v = .slice ad Ls.length cap ∧ codesAt ad Ls w := by
  obtain ⟨ad, cap, e2, g1, g2, g3⟩ := ownsRow_shape h.own
  refine ⟨ad, cap, e2, fun t L ht => ?_⟩
  obtain ⟨u, h1, h2, -⟩ := h.el t L ht
  obtain ⟨g, eg, cg⟩ := g3 t u h1
  obtain ⟨adl, capl, eu, k1, k2, k3⟩ := insAt_of_icells h2
  refine ⟨g, 0, adl, capl, eg, by rw [Nat.zero_add, cg, eu], k1, k3, fun en => ?_⟩
  rcases h2.2 with ⟨e4, e5⟩ | ⟨gg, cc, cur, e4, _⟩
  · exact List.length_eq_zero_iff.1 e5
  · rw [eu] at e4
    cases e4
    cases en
end


theorem results_cell_tmp2 {fn : Func} {p u u2 : Tmp} {ty : TypeId} (h : fn.results = #[.cell p ty, .tmp u, .tmp u2]) (tmps : Array Value) (P : Program) (w : World) :
    (results fn tmps).run P w =
      ((asAddr (tmps.getD p undef)).run P w).andThen fun a w₁ => ((loadVar ty a).run P w₁).andThen fun v w₂ => .ok (.tuple #[v, tmps.getD u undef, tmps.getD u2 undef]) w₂ := by
  simp only [results, h]
  simp [Sem.run_bind, Result.andThen]
theorem KP.out {base : Nat} {w1 : World} {v : Value} {vs : List Value} {Ls : List (List Ins)} {w : World} (h : KP base w1 v vs Ls w) {r : Nat} (hr : r < base) (o : Nat) (x : Value) : KP base (w.setCell ⟨r, o, none⟩ x) v vs Ls (w.setCell ⟨r, o, none⟩ x) := by
  have hb : ∀ b, base ≤ b → (w.setCell ⟨r, o, none⟩ x).heap[b]? = w.heap[b]? := fun b hb => Below.heap_setCell _ _ _ _ (fun e => by dsimp only at e; omega)
  refine ⟨ownsRow_block h.own (fun b e => hb b (h.own.lt b e).1), fun i L hi => ?_, Below.refl _ _, by simpa [World.setCell] using h.bz⟩
  obtain ⟨u, h1, h2, h3⟩ := h.el i L hi
  exact ⟨u, h1, ownsRow_block h2 (fun b e => hb b (World.ownsRow.lt h2 b e).1), h3⟩
theorem codesInfoT : ∃ i, (Tryz.prog).info? 53 = some i ∧ i.zero = some (.slice none 0 0) ∧ i.size = 1 ∧ i.bytes = 24 := info_parts (by kernel_rfl)
def opRowsAt (ad : Option Addr) (cl : List (List OpI)) (w : World) : Prop := ∀ (t : Nat) L, cl[t]? = some L → ∃ b off adl capl, ad = some ⟨b, off, none⟩ ∧ w.cell? ⟨b, off + t, none⟩ = some (.slice adl L.length capl) ∧ opsAt adl L w
theorem opRowsAt.below {ad : Option Addr} {cl : List (List OpI)} {w w' : World} (h : opRowsAt ad cl w) (hb : Below w.heap.size w w') : opRowsAt ad cl w' := fun t L ht => by
  obtain ⟨b, off, adl, capl, e, h1, h2⟩ := h t L ht
  exact ⟨b, off, adl, capl, e, keep_cell hb h1, h2.below hb⟩
def kindsOk (cl : List (List OpI)) : Prop := ∀ L ∈ cl, L.length ≤ 20 ∧ ∀ x ∈ L, kn x.kind.toList ≠ 0
def thC (f : Nat) (G : List Ins) (L : List OpI) : List Ins := opsC f L L.length ++ (G ++ [⟨oStop, 0, 0, 0, thNo⟩])

def stopI : Ins := ⟨oStop, 0, 0, 0, thNo⟩
theorem concat3 {w2 : World} {x2 xg : Option Addr} {c2 cg b2 b3 : Nat} {C G : List Ins} (h2 : insOwn w2 b2 (.slice x2 C.length c2) C) (hg : insOwn w2 b3 (.slice xg G.length cg) G) (hC : C.length ≤ 1300) (hG : G.length ≤ 100) :
    Calls Tryz.prog 80 #[.slice (some ⟨w2.heap.size + 1, 0, none⟩) 3 3] ((w2.alloc (.cells #[.string oStop, .int .i64 0, .int .i64 0, .int .i64 0, .string thNo] 113)).alloc (.cells #[.slice x2 C.length c2, .slice xg G.length cg, .slice (some ⟨w2.heap.size, 0, none⟩) 1 1] 53)) fun e w' => ∃ v, e = .returned v ∧ insOwn w' w2.heap.size v (C ++ (G ++ [stopI])) ∧ Below w2.heap.size w2 w' := by
  have hB : Below w2.heap.size w2 ((w2.alloc (.cells #[.string oStop, .int .i64 0, .int .i64 0, .int .i64 0, .string thNo] 113)).alloc (.cells #[.slice x2 C.length c2, .slice xg G.length cg, .slice (some ⟨w2.heap.size, 0, none⟩) 1 1] 53)) := ((Below.refl _ _).alloc (Nat.le_refl _) _).alloc (by simp) _
  have hp : partsOwn (some ⟨w2.heap.size + 1, 0, none⟩) [C, G, [stopI]] ((w2.alloc (.cells #[.string oStop, .int .i64 0, .int .i64 0, .int .i64 0, .string thNo] 113)).alloc (.cells #[.slice x2 C.length c2, .slice xg G.length cg, .slice (some ⟨w2.heap.size, 0, none⟩) 1 1] 53)) := by
    intro t L ht
    have hc : ∀ j, ((w2.alloc (.cells #[.string oStop, .int .i64 0, .int .i64 0, .int .i64 0, .string thNo] 113)).alloc (.cells #[.slice x2 C.length c2, .slice xg G.length cg, .slice (some ⟨w2.heap.size, 0, none⟩) 1 1] 53)).cell? ⟨w2.heap.size + 1, 0 + j, none⟩ = (#[.slice x2 C.length c2, .slice xg G.length cg, .slice (some ⟨w2.heap.size, 0, none⟩) 1 1] : Array Value)[j]? := fun j => by
      rw [Nat.zero_add]
      have := World.cell?_alloc_new (w2.alloc (.cells #[.string oStop, .int .i64 0, .int .i64 0, .int .i64 0, .string thNo] 113)) #[.slice x2 C.length c2, .slice xg G.length cg, .slice (some ⟨w2.heap.size, 0, none⟩) 1 1] 53 j
      rwa [World.size_alloc] at this
    match t, ht with
    | 0, ht =>
      cases ht
      exact ⟨_, 0, _, rfl, hc 0, b2, insOwn_keep h2 hB⟩
    | 1, ht =>
      cases ht
      exact ⟨_, 0, _, rfl, hc 1, b3, insOwn_keep hg hB⟩
    | 2, ht =>
      cases ht
      exact ⟨_, 0, _, rfl, hc 2, 0, insOwn_keep (insOwn_new (l := [stopI]) rfl (Nat.zero_le _) (show 1 ≤ 1000 by decide)) ((Below.refl _ _).alloc (Nat.le_refl _) _)⟩
  have hcc := concatG_any (cap := 3) hp (show 3 ≤ 1000 by decide) (by simp; omega) (by simp; omega)
  refine hcc.mono ?_
  rintro e w' ⟨v, rfl, hv, hb⟩
  refine ⟨v, rfl, ?_, below_step hB hb⟩
  have e : ([C, G, [stopI]] : List (List Ins)).flatten = C ++ (G ++ [stopI]) := by simp
  rw [e] at hv
  exact insOwn_mono hv hB.size

set_option maxRecDepth 20000 in
set_option maxHeartbeats 4000000 in
theorem with_ok {f : Nat} (hf : 1 ≤ f ∧ f ≤ 4) {base sb : Nat} {w1 : World} {rv : Value} {rs : List Value} {I R : List (List Int)} {w : World} (h : TAt base sb w1 rv rs I R w) {ad : Option Addr} {cl : List (List OpI)} {cap : Nat} (ho : opRowsAt ad cl w) (hk : kindsOk cl) (hn : cl.length ≤ 6) {vg : Value} {G : List Ins} {b3 : Nat} (hg : insOwn w b3 vg G) (hG : G.length ≤ 100) :
    Calls Tryz.prog 45 #[.pointer (some ⟨sb, 0, none⟩), .slice ad cl.length cap, .func (.func 29) #[.int .i64 f] #[], vg] w fun e w' => ∃ iv vs vc ks B, e = .returned (.tuple #[.agg #[.int .i64 64, iv, rv], vc, .nilIface]) ∧ TW base sb w1 [] iv vs I rv rs R w' ∧ KP B w' vc ks (cl.map (thC f G)) w' ∧ w.heap.size ≤ B ∧ Below w.heap.size w w' := by
  have HH := hide h
  have HOP := hide ho
  have HKO := hide hk
  have HG := hide hg
  have HCO := hide (fun (ad : Option Addr) (L : List OpI) (cap : Nat) (w : World) (ho : opsAt ad L w) (hk : ∀ x ∈ L, kn x.kind.toList ≠ 0) (hl : L.length ≤ 20) => codeOf_ok (cap := cap) hf ho hk hl)
  have HLN := hide (fun (L : List OpI) => opsC_len hf L L.length)
  obtain ⟨xg, cg, eg, -⟩ := ownsRow_shape hg
  subst eg
  have hbw : w.heap.size ≤ (w.alloc (.cells #[.int .i64 0, .slice none 0 0, .slice none 0 0] 38)).heap.size := by simp
  have HB0 : Hid (Below w.heap.size w (w.alloc (.cells #[.int .i64 0, .slice none 0 0, .slice none 0 0] 38))) := hide ((Below.refl _ _).alloc (Nat.le_refl _) _)
  obtain ⟨n, hln⟩ : ∃ n, Hid (cl.length = n) := ⟨_, hide rfl⟩
  rw [hln.out] at hn ⊢
  clear h ho hk hg hbw
  generalize hfi : (f : Int) = fi at *
  clear hfi hf
  go_enter Tryz.func45, Tryz.ntmps45
  go_wp2_with fail
  obtain ⟨W0, hW0⟩ : ∃ W0, W0 = w.alloc (.cells #[.int .i64 0, .slice none 0 0, .slice none 0 0] 38) := ⟨_, rfl⟩
  have HRC : Hid ((∀ o, W0.cell? ⟨w.heap.size, o, none⟩ = (#[.int .i64 0, .slice none 0 0, .slice none 0 0] : Array Value)[o]?) ∧ (∀ o, W0.frozen? ⟨w.heap.size, o, none⟩ = false) ∧ w.heap.size < W0.heap.size) := hide (by
    subst hW0
    exact ⟨fun o => World.cell?_alloc_new _ _ _ _, fun o => World.frozen?_alloc_new _ _ _ _, by simp⟩)
  rw [← hW0] at HB0 ⊢
  have HP0 : Hid (KP W0.heap.size W0 (.slice none 0 0) [] ((cl.take 0).map (thC f G)) W0) := hide (KP.nil (Below.refl _ _) (Nat.le_refl _))
  clear hW0
  go_loopw [11, 13, 14, 15, 18] (fun v _ _ _ i wr => ∃ t : Nat, t ≤ n ∧ i = .int .i64 t ∧ Hid (∃ vs, KP W0.heap.size W0 v vs ((cl.take t).map (thC f G)) wr)) (fun _ _ _ _ i _ => n - (intOf i).toNat)
  case atStart => exact ⟨0, Nat.zero_le _, rfl, hide ⟨_, HP0.out⟩⟩
  case round =>
    clear HP0
    obtain ⟨t, ht, rfl, HP⟩ := hrel
    generalize u11 = v at *
    obtain ⟨vs, hP⟩ := HP.out
    by_cases hlt : t < n
    · have ti : (t : Int) < n := by omega
      have HP1 := hide hP
      obtain ⟨L, hL⟩ : ∃ L, cl[t]? = some L := ⟨_, List.getElem?_eq_getElem (by rw [hln.out]; exact hlt)⟩
      have HBW := hide (below_step HB0.out (hP.low.mono (Nat.le_refl _)))
      obtain ⟨b, off, adl, capl, rfl, c0, hops⟩ := HOP.out.below HBW.out t L hL
      have hkl := HKO.out L (List.mem_of_getElem? hL)
      have HC := hide (HCO.out adl L capl wr hops hkl.2 hkl.1)
      have HLL := hide (HLN.out L)
      have HL20 := hide hkl.1
      have HSU : Hid (cl.take (t + 1) = cl.take t ++ [L]) := hide (by rw [List.take_add_one, hL]; rfl)
      have HG1 := hide (insOwn_keep HG.out HBW.out)
      clear hP HP hL hops hkl HCO HLN HKO
      generalize hLn : L.length = ln at *
      go_wp2_with fail
      refine HC.out.mono ?_
      rintro e w2 ⟨v2, rfl, hv2, hb2⟩
      obtain ⟨x2, c2, e2, -⟩ := ownsRow_shape hv2
      subst e2
      have HP2 := hide (HP1.out.below hb2)
      have HV2 := hide hv2
      have HG2 := hide (insOwn_keep HG1.out hb2)
      clear hv2 hb2 HP1 HC c0 HG1
      have HC3 : Hid (Calls Tryz.prog 80 #[.slice (some ⟨w2.heap.size + 1, 0, none⟩) 3 3] ((w2.alloc (.cells #[.string oStop, .int .i64 0, .int .i64 0, .int .i64 0, .string thNo] 113)).alloc (.cells #[.slice x2 (opsC f L ln).length c2, .slice xg G.length cg, .slice (some ⟨w2.heap.size, 0, none⟩) 1 1] 53)) fun e w' => ∃ v, e = .returned v ∧ insOwn w' w2.heap.size v (thC f G L) ∧ Below w2.heap.size w2 w') := hide (by
        have := concat3 HV2.out HG2.out (by have h1 := HLL.out; have h2 := HL20.out; have h3 : 60 * ln ≤ 60 * 20 := Nat.mul_le_mul_left _ h2; omega) hG
        unfold thC
        rw [hLn]
        exact this)
      go_wp2_with fail
      refine HC3.out.mono ?_
      rintro e w3 ⟨v3, rfl, hv3, hb3⟩
      obtain ⟨au, cu, e3, -⟩ := ownsRow_shape hv3
      subst e3
      have HU : Hid (insOwn w3 W0.heap.size (.slice au (thC f G L).length cu) (thC f G L)) := hide (insOwn_mono hv3 HP2.out.bz)
      have HNE : Hid (∀ b, (Value.slice au (thC f G L).length cu).ownBlock = some b → v.ownBlock ≠ some b) := hide fun b e e2 => by
        have h1 := (World.ownsRow.lt hv3 b e).1
        have h2 := (HP2.out.own.lt b e2).2
        omega
      have HP3 := hide (HP2.out.below hb3)
      clear hv3 hb3 HP2 HC3 HV2 HG2
      generalize (thC f G L).length = lu at *
      obtain ⟨ric, hric, hrz, hrs, hrb⟩ := codesInfoT
      have bel : Below w3.heap.size w3 (w3.alloc (.cells #[.slice au lu cu] 53)) := (Below.refl _ _).alloc (Nat.le_refl _) _
      obtain ⟨LC, HLC, hLC⟩ : ∃ LC, Hid (LC = ((cl.take t).map (thC f G)).length) ∧ LC ≤ 7 := ⟨_, hide rfl, by rw [List.length_map, List.length_take]; omega⟩
      go_wp2_with (at_builtin; refine wpList_append_own_at _ rfl _ _ 39 rfl W0.heap.size 53 ric (.slice none 0 0) 1 24 Tryz.underlying39 hric hrz hrs hrb rfl (by decide) v LC vs rfl ?p0 ⟨w3.heap.size, 0, none⟩ 1 1 [.slice au lu cu] rfl rfl ?p1 ?p2 ?p3 ?p4 ?p5 ?_)
      case p0 => rw [HLC.out]; exact (HP3.out.below bel).own
      case p1 =>
        intro k x hk
        cases k with
        | zero => cases hk; rw [Addr.add_lit]; simp
        | succ k => simp at hk
      case p2 =>
        intro x hx
        obtain rfl : x = .slice au lu cu := by simpa using hx
        rfl
      case p3 => unfold maxLen; omega
      case p4 => omega
      case p5 => have := HP3.out.bz; simp; omega
      intro v' w6 ho hg hnil hloc
      have HP6 : Hid (KP W0.heap.size W0 v' (vs ++ [.slice au lu cu]) ((cl.take (t + 1)).map (thC f G)) w6) := hide (by
        rw [HSU.out, List.map_append]
        exact (HP3.out.below bel).add (insOwn_keep HU.out bel) HNE.out (N := w3.heap.size + 1) (by simp) (by rw [← HLC.out]; exact ho) hg hloc)
      clear ho hg hnil hloc HP3 HU HNE HSU bel HLC hLC hric hrz hrs hrb
      go_wp2_with fail
      go_roundw
      case rel => exact ⟨t + 1, by omega, by go_num, hide ⟨_, HP6.out⟩⟩
      case measure => simp [intOf]; omega
    · obtain rfl : t = n := by omega
      have HBW := hide (below_step HB0.out (hP.low.mono (Nat.le_refl _)))
      obtain ⟨iv, vs1, hT0, hD⟩ := HH.out
      have HT0 := hide hT0
      have hT := hT0.below HBW.out
      have a0 := hT.c0
      have a1 := hT.c1
      have a2 := hT.c2
      obtain ⟨ai, ci, eiv, -⟩ := ownsRow_shape hT0.oi
      obtain ⟨ar, cr, erv, -⟩ := ownsRow_shape hT0.or'
      rw [eiv] at a1
      rw [erv] at a2
      obtain ⟨q1, q2, q3⟩ := HRC.out
      have b0 := keep_cell hP.low ((q1 0).trans (show _ = some (.int .i64 0) from rfl))
      have b1 := keep_cell hP.low ((q1 1).trans (show _ = some (.slice none 0 0) from rfl))
      have b2 := keep_cell hP.low ((q1 2).trans (show _ = some (.slice none 0 0) from rfl))
      have z0 := (hP.low.frozen (show (⟨w.heap.size, 0, none⟩ : Addr).block < _ from q3)).trans (q2 0)
      have z1 := (hP.low.frozen (show (⟨w.heap.size, 1, none⟩ : Addr).block < _ from q3)).trans (q2 1)
      have z2 := (hP.low.frozen (show (⟨w.heap.size, 2, none⟩ : Addr).block < _ from q3)).trans (q2 2)
      have HP9 := hide hP
      have HRL := hide q3
      obtain ⟨ac, cc, ev, -⟩ := ownsRow_shape hP.own
      have HLN9 : Hid (((cl.take t).map (thC f G)).length = t) := hide (by rw [List.length_map, List.length_take, hln.out]; omega)
      have HTK : Hid (cl.take t = cl) := hide (by rw [← hln.out, List.take_length])
      rw [HLN9.out] at ev
      clear hT hT0 hP HP hD q1 q2 q3 HH
      have HK9 := hide (((HP9.out.out HRL.out 0 (.int .i64 64)).out HRL.out 1 (.slice ai I.length ci)).out HRL.out 2 (.slice ar R.length cr))
      have HB9 : Hid (Below w.heap.size w (((wr.setCell ⟨w.heap.size, 0, none⟩ (.int .i64 64)).setCell ⟨w.heap.size, 1, none⟩ (.slice ai I.length ci)).setCell ⟨w.heap.size, 2, none⟩ (.slice ar R.length cr))) := hide (((HBW.out.setCell (Nat.le_refl _) _).setCell (Nat.le_refl _) _).setCell (Nat.le_refl _) _)
      have HE9 : Hid ((((wr.setCell ⟨w.heap.size, 0, none⟩ (.int .i64 64)).setCell ⟨w.heap.size, 1, none⟩ (.slice ai I.length ci)).setCell ⟨w.heap.size, 2, none⟩ (.slice ar R.length cr)).cell? ⟨w.heap.size, 0, none⟩ = some (.int .i64 64) ∧ (((wr.setCell ⟨w.heap.size, 0, none⟩ (.int .i64 64)).setCell ⟨w.heap.size, 1, none⟩ (.slice ai I.length ci)).setCell ⟨w.heap.size, 2, none⟩ (.slice ar R.length cr)).cell? ⟨w.heap.size, 1, none⟩ = some (.slice ai I.length ci) ∧ (((wr.setCell ⟨w.heap.size, 0, none⟩ (.int .i64 64)).setCell ⟨w.heap.size, 1, none⟩ (.slice ai I.length ci)).setCell ⟨w.heap.size, 2, none⟩ (.slice ar R.length cr)).cell? ⟨w.heap.size, 2, none⟩ = some (.slice ar R.length cr)) := hide (by
        have x0 : (wr.setCell ⟨w.heap.size, 0, none⟩ (.int .i64 64)).cell? ⟨w.heap.size, 0, none⟩ = some (.int .i64 64) := World.cell?_setCell_same _ _ _ b0
        have x1 : ((wr.setCell ⟨w.heap.size, 0, none⟩ (.int .i64 64)).setCell ⟨w.heap.size, 1, none⟩ (.slice ai I.length ci)).cell? ⟨w.heap.size, 1, none⟩ = some (.slice ai I.length ci) := World.cell?_setCell_same _ _ _ (cell_ne b1 (.inr (by decide)))
        have x2 : (((wr.setCell ⟨w.heap.size, 0, none⟩ (.int .i64 64)).setCell ⟨w.heap.size, 1, none⟩ (.slice ai I.length ci)).setCell ⟨w.heap.size, 2, none⟩ (.slice ar R.length cr)).cell? ⟨w.heap.size, 2, none⟩ = some (.slice ar R.length cr) := World.cell?_setCell_same _ _ _ (cell_ne (cell_ne b2 (.inr (by decide))) (.inr (by decide)))
        exact ⟨cell_ne (cell_ne x0 (.inr (by decide))) (.inr (by decide)), cell_ne x1 (.inr (by decide)), x2⟩)
      go_wp2_with fail
      obtain ⟨e0, e1, e2⟩ := HE9.out
      have hK := HK9.out
      rw [HTK.out] at hK
      have hTf := HT0.out.below HB9.out
      have hBf := HB9.out
      have hBB := HB0.out.size
      generalize (((wr.setCell ⟨w.heap.size, 0, none⟩ (.int .i64 64)).setCell ⟨w.heap.size, 1, none⟩ (.slice ai I.length ci)).setCell ⟨w.heap.size, 2, none⟩ (.slice ar R.length cr)) = W9 at *
      refine bodyPost_ret (v := .tuple #[.agg #[.int .i64 64, .slice ai I.length ci, .slice ar R.length cr], v, .nilIface]) (by rw [results_cell_tmp2 (show Tryz.f45.results = _ from rfl)]; go_simp) rfl ?_
      exact ⟨iv, vs1, v, vs, W0.heap.size, by rw [eiv, erv], hTf, hK, hBB, hBf⟩
end Go.Proofs.YtoialadjpcdbaaaGreatDoor

/- ClS -/
namespace Go.Proofs.YtoialadjpcdbaaaGreatDoor
open Go.ChangeShapes Go.WideShapes Go.ChangeAt Go.RowKit Go.Joins Go.Deep

theorem ops_list_trod {H : Type} {enc : TypeId × Value → H} {W : World} {fuel : Nat} {sp : Nat → Bool} {held : Bool} {cs : List Value} {x : DataW H × List MemPlace} {t e : TypeId} {α : Type} [Inhabited α] (F : α → List Value) (k : Nat) (hk : 0 < k) (Q : α → Prop)
    (ht : Tryz.prog.underlying t = some (.slice e)) (hc : Tryz.prog.cellsOf e = k) (hF : ∀ y, (F y).length = k)
    (hr : ∀ (n : Nat) (cs : List Value) x, DataW.trod enc Tryz.prog W 0 sp held n e cs = some x → ∃ y, cs = F y ∧ Q y)
    (h : DataW.trod enc Tryz.prog W 0 sp held fuel t cs = some x) :
    ∃ (ad : Option Addr) (cap : Nat) (l : List α), cs = [.slice ad l.length cap] ∧ (∀ (i : Nat) y, l[i]? = some y → ∃ b off, ad = some ⟨b, off, none⟩ ∧ (∀ j, j < k → W.cell? ⟨b, off + i * k + j, none⟩ = (F y)[j]?) ∧ Q y) ∧ (ad = none → l = [] ∧ cap = 0) ∧ l.length ≤ cap ∧ l.length ≤ maxLen := by
  rcases open_slice ht h with ⟨rfl, _⟩ | ⟨a, len, cap, m, n, D, Pl, rfl, _, hl, hl2, hm, hx, hel⟩
  · exact ⟨none, 0, [], rfl, fun i y hy => by simp at hy, fun _ => ⟨rfl, rfl⟩, Nat.zero_le _, Nat.zero_le _⟩
  · have hm' : len ≤ m := by rw [hm]; split <;> omega
    have hex : ∀ i, i < len → ∃ y : α, (∀ j, j < k → W.cell? ((a.add (i * k)).add j) = (F y)[j]?) ∧ Q y := fun i hi => by
      obtain ⟨cs', h1, h2⟩ := hel i (by omega)
      rw [hc] at h1
      obtain ⟨y, rfl, h3⟩ := hr _ _ _ h2
      exact ⟨y, (cells_at h1).2, h3⟩
    obtain ⟨f, hf⟩ := choose_lt (p := fun i (y : α) => (∀ j, j < k → W.cell? ((a.add (i * k)).add j) = (F y)[j]?) ∧ Q y) (h := hex)
    refine ⟨some a, cap, (List.range len).map f, by simp, fun i y hy => ?_, fun h => (by cases h), by simpa using hl, by simp; omega⟩
    have hi : i < len := by
      have := (List.getElem?_eq_some_iff.1 hy).1
      simpa using this
    obtain rfl : y = f i := by
      rw [List.getElem?_map, List.getElem?_range hi] at hy
      simpa using hy.symm
    have h00 := (hf 0 (by omega)).1 0 hk
    obtain ⟨v0, hv0⟩ : ∃ v, (F (f 0))[0]? = some v := ⟨_, List.getElem?_eq_getElem (by rw [hF]; exact hk)⟩
    rw [hv0, Nat.zero_mul] at h00
    have hs : a.spot = none := spot_none (a := a) h00
    have e : ∀ j, (a.add (i * k)).add j = ⟨a.block, a.off + i * k + j, none⟩ := fun j => by
      rw [add_plain a hs, add_plain _ rfl]
    refine ⟨a.block, a.off, by obtain ⟨b, o, sp⟩ := a; simp only at hs; subst hs; rfl, fun j hj => ?_, (hf i hi).2⟩
    have := (hf i hi).1 j hj
    rw [e] at this
    exact this

theorem ccells_Op : Tryz.prog.cellsOf 71 = 2 := by kernel_rfl
theorem ccells_s : Tryz.prog.cellsOf 9 = 1 := by kernel_rfl
theorem ccells_n : Tryz.prog.cellsOf 3 = 1 := by kernel_rfl
theorem ccells_os : Tryz.prog.cellsOf 72 = 1 := by kernel_rfl
set_option maxRecDepth 100000 in
theorem op_of_trod {H : Type} {enc : TypeId × Value → H} {W : World} {sp : Nat → Bool} {held : Bool} {fuel : Nat} {cs : List Value} {x : DataW H × List MemPlace}
    (h : DataW.trod enc Tryz.prog W 0 sp held fuel 71 cs = some x) : ∃ y : OpI, cs = [.string y.kind, .int .i64 y.n] ∧ True := by
  obtain ⟨xs, n, _, _, hl, hlen, hf⟩ := DataW.trod_struct Tryz.underlying71 h
  rw [ccells_Op] at hl
  match cs, hl with
  | [c0, c1], _ =>
    match xs, hlen with
    | [x0, x1], _ =>
      have f0 : DataW.trod enc Tryz.prog W 0 sp held n 9 [c0] = some x0 := by simpa [ccells_s] using hf 0 _ rfl
      have f1 : DataW.trod enc Tryz.prog W 0 sp held n 3 [c1] = some x1 := by simpa [ccells_n] using hf 1 _ rfl
      obtain ⟨s, e0, _, _⟩ := DataW.trod_string Tryz.underlying9 f0
      obtain ⟨r1, e1, _, _⟩ := DataW.trod_int Tryz.underlying3 f1
      refine ⟨⟨s, r1⟩, ?_, trivial⟩
      simp only [List.cons.injEq, and_true] at e0 e1
      rw [e0, e1]
structure OpsV where
  ad : Option Addr
  cap : Nat
  l : List OpI
instance : Inhabited OpsV := ⟨⟨none, 0, []⟩⟩
instance : Inhabited OpI := ⟨⟨ByteArray.empty, 0⟩⟩
theorem ops_of_trod {H : Type} {enc : TypeId × Value → H} {W : World} {fuel : Nat} {sp : Nat → Bool} {held : Bool} {cs : List Value} {x : DataW H × List MemPlace} (h : DataW.trod enc Tryz.prog W 0 sp held fuel 72 cs = some x) :
    ∃ y : OpsV, cs = [.slice y.ad y.l.length y.cap] ∧ opsAt y.ad y.l W := by
  obtain ⟨ad, cap, l, h1, h2, h3, h4, h5⟩ := ops_list_trod (fun y : OpI => [.string y.kind, .int .i64 y.n]) 2 (by decide) (fun _ => True) Tryz.underlying72 ccells_Op (fun _ => rfl) (fun n cs x h => op_of_trod h) h
  refine ⟨⟨ad, cap, l⟩, h1, fun i x hx => ?_⟩
  obtain ⟨b, off, e, hc, -⟩ := h2 i x hx
  exact ⟨b, off, e, hc 0 (by decide), hc 1 (by decide)⟩
theorem oprows_of_trod {H : Type} {enc : TypeId × Value → H} {W : World} {fuel : Nat} {sp : Nat → Bool} {held : Bool} {cs : List Value} {x : DataW H × List MemPlace} (h : DataW.trod enc Tryz.prog W 0 sp held fuel 22 cs = some x) :
    ∃ (ad : Option Addr) (cap : Nat) (cl : List (List OpI)), cs = [.slice ad cl.length cap] ∧ opRowsAt ad cl W := by
  obtain ⟨ad, cap, l, h1, h2, h3, h4, h5⟩ := ops_list_trod (fun y : OpsV => [.slice y.ad y.l.length y.cap]) 1 (by decide) (fun y => opsAt y.ad y.l W) Tryz.underlying22 ccells_os (fun _ => rfl) (fun n cs x h => ops_of_trod h) h
  refine ⟨ad, cap, l.map OpsV.l, by rw [List.length_map]; exact h1, fun i row hr => ?_⟩
  rw [List.getElem?_map] at hr
  cases hy : l[i]? with
  | none => rw [hy] at hr; cases hr
  | some y =>
    rw [hy] at hr
    cases hr
    obtain ⟨b, off, e, hc, hq⟩ := h2 i y hy
    have := hc 0 (by decide)
    rw [Nat.mul_one, Nat.add_zero] at this
    exact ⟨b, off, y.ad, y.cap, e, this, hq⟩
end Go.Proofs.YtoialadjpcdbaaaGreatDoor

/- ThM -/
namespace Go.Proofs.YtoialadjpcdbaaaGreatDoor
open Go.RowKit Go.Extern.Stop Go.Stop Go.Extern Go.Maps Go.WideMaps Go.Sort

def clGone : ByteArray := ⟨#[103, 111, 110, 101]⟩
theorem clGone_name : isName clGone := nameB_is (by decide +kernel)
theorem ggone_len (f : Nat) (hf : 1 ≤ f ∧ f ≤ 4) : (gCode clGone (gGone f)).length ≤ 100 := by
  unfold gCode
  rw [List.length_map]
  have : f = 1 ∨ f = 2 ∨ f = 3 ∨ f = 4 := by omega
  rcases this with rfl | rfl | rfl | rfl <;> decide
theorem pad4_len : ∀ l : List Int, (pad4 l).length = 4 := fun l => by
  have : ∀ (l : List Int) (o : Nat) (r : List Int), (layTo r o l).length = r.length := fun l => by
    induction l with
    | nil => intro o r; rfl
    | cons x l ih =>
      intro o r
      show (layTo (r.set o x) (o + 1) l).length = _
      rw [ih, List.length_set]
  unfold pad4
  rw [this]
  rfl
def clC (f : Nat) (L : List OpI) : List Ins := thC f (gCode clGone (gGone f)) L
theorem graceI_len (f : Nat) (I : List (List Int)) (n : Nat) : (graceI f I n).length = I.length + 1 + n := by
  unfold graceI
  split
  · exact graceJ_len _ _ _
  · rw [linked_length, graceJ_len]
theorem graceI_rows {f n : Nat} {I : List (List Int)} (h : ∀ row ∈ I, row.length = 4) : ∀ row ∈ graceI f I n, row.length = 4 := by
  have hj : ∀ row ∈ graceJ f I n, row.length = 4 := fun row hr => by
    unfold graceJ at hr
    simp only [List.mem_append, List.mem_singleton] at hr
    rcases hr with (hr | rfl) | hr
    · exact h row hr
    · rfl
    · rw [List.eq_of_mem_replicate hr]; rfl
  unfold graceI
  split
  · exact hj
  · exact linked_rows hj n
theorem rowsG_rows {m n k : Nat} : ∀ row ∈ rowsG m n k, row.length = 8 := fun row hr => by
  unfold rowsG at hr
  obtain ⟨t, -, rfl⟩ := List.mem_map.1 hr
  split <;> rfl

set_option maxRecDepth 20000 in
set_option maxHeartbeats 4000000 in
theorem tbuild_ok {f : Nat} (hf : 1 ≤ f ∧ f ≤ 4) {ad : Option Addr} {cl : List (List OpI)} {cap : Nat} {w : World} (ho : opRowsAt ad cl w) (hk : kindsOk cl) (hn : cl.length ≤ 6) {ac : Option Addr} {cells : List (List Int)} {capc : Nat} (hc : cellsAt ac cells w) (h0 : 0 < cells.length) (hl : cells.length ≤ 20) :
    Calls Tryz.prog 28 #[.int .i64 f, .slice ad cl.length cap, .func (.func 29) #[.int .i64 f] #[], .slice ac cells.length capc] w fun e w' => ∃ base sb iv vs rv rs vc ks B, e = .returned (.tuple #[.agg #[.int .i64 64, iv, rv], vc, .nilIface]) ∧ TW base sb w' [] iv vs (graceI f (cells.map pad4) cl.length) rv rs (rowsG cells.length cl.length cl.length) w' ∧ KP B w' vc ks (cl.map (clC f)) w' ∧ w.heap.size < base ∧ w.heap.size < B ∧ Below w.heap.size w w' := by
  have HOP := hide ho
  have HB0 : Hid (Below w.heap.size w (w.alloc (.cells #[.int .i64 0, .slice none 0 0, .slice none 0 0] 38))) := hide ((Below.refl _ _).alloc (Nat.le_refl _) _)
  have HRC : Hid ((∀ o, (w.alloc (.cells #[.int .i64 0, .slice none 0 0, .slice none 0 0] 38)).cell? ⟨w.heap.size, o, none⟩ = (#[.int .i64 0, .slice none 0 0, .slice none 0 0] : Array Value)[o]?) ∧ (∀ o, (w.alloc (.cells #[.int .i64 0, .slice none 0 0, .slice none 0 0] 38)).frozen? ⟨w.heap.size, o, none⟩ = false) ∧ w.heap.size < (w.alloc (.cells #[.int .i64 0, .slice none 0 0, .slice none 0 0] 38)).heap.size) := hide ⟨fun o => World.cell?_alloc_new _ _ _ _, fun o => World.frozen?_alloc_new _ _ _ _, by simp⟩
  have HBE := hide (begin_ok (cap := capc) hn (hc.below HB0.out) h0 hl)
  have HGR := hide (fun (base sb : Nat) (w1 : World) (rv : Value) (rs : List Value) (w : World) (h : TAt base sb w1 rv rs (cells.map pad4) (List.replicate cl.length (regRow cells.length)) w) => grace_ok h hf (List.length_map _) hl hn (fun row hr => by
    obtain ⟨x, -, rfl⟩ := List.mem_map.1 hr
    exact pad4_len x))
  have HGO := hide (fun w => gone_ok hf clGone_name (by decide) w)
  have HWI := hide (fun (base sb : Nat) (w1 : World) (rv : Value) (rs : List Value) (W : World) (h : TAt base sb w1 rv rs (graceI f (cells.map pad4) cl.length) (rowsG cells.length cl.length cl.length) W) (hb : Below w.heap.size w W) (vg : Value) (b3 : Nat) (hg : insOwn W b3 vg (gCode clGone (gGone f))) => with_ok (cap := cap) hf h (ho.below hb) hk hn hg (ggone_len f hf))
  have HIL : Hid ((graceI f (cells.map pad4) cl.length).length ≤ 100) := hide (by rw [graceI_len, List.length_map]; omega)
  have HIR : Hid (∀ row ∈ graceI f (cells.map pad4) cl.length, row.length ≤ 100) := hide fun row hr => by
    rw [graceI_rows (fun row hr => by obtain ⟨x, -, rfl⟩ := List.mem_map.1 hr; exact pad4_len x) row hr]; decide
  have HRR : Hid (∀ row ∈ rowsG cells.length cl.length cl.length, row.length ≤ 100) := hide fun row hr => by
    rw [rowsG_rows row hr]; decide
  have HRL : Hid ((rowsG cells.length cl.length cl.length).length = cl.length) := hide (rowsG_len _ _ _)
  have HMC : Hid ((cl.map (clC f)).length = cl.length) := hide (List.length_map _)
  generalize hII : graceI f (cells.map pad4) cl.length = II at *
  generalize hRR : rowsG cells.length cl.length cl.length = RR at *
  generalize hfi : (f : Int) = fi at *
  clear hfi hf ho hc hk
  go_enter Tryz.func28, Tryz.ntmps28
  go_wp2_with fail
  refine HBE.out.mono ?_
  rintro e w2 ⟨sb, rv, rs, rfl, h2⟩
  have HG2 := hide (HGR.out _ _ _ _ _ _ h2)
  clear h2 HBE HGR
  go_wp2_with fail
  refine HG2.out.mono ?_
  rintro e w3 ⟨rfl, h3⟩
  have H3 := hide h3
  clear h3 HG2
  go_wp2_with fail
  refine (HGO.out _).mono ?_
  rintro e w4 ⟨vg, rfl, hg, hb4⟩
  have H4 := hide (H3.out.below hb4)
  have HBW := hide (below_step HB0.out (H4.out.low))
  have HW4 := hide (HWI.out _ _ _ _ _ _ H4.out HBW.out vg _ hg)
  obtain ⟨xg, cg, eg, -⟩ := ownsRow_shape hg
  subst eg
  clear hg hb4 H3 HWI HGO
  go_wp2_with fail
  refine HW4.out.mono ?_
  rintro e w5 ⟨iv, vs, vc, ks, B, rfl, hT5, hK5, hB5, hb5⟩
  have hlow := below_step H4.out.low hb5
  have HB6 := hide (below_step HBW.out hb5)
  obtain ⟨ai, ci, eiv, -⟩ := ownsRow_shape hT5.oi
  obtain ⟨ar, cr, erv, -⟩ := ownsRow_shape hT5.or'
  rw [HRL.out] at erv
  obtain ⟨ax, cx, evc, hcx⟩ := hK5.codes
  have hmc : (cl.map (thC f (gCode clGone (gGone f)))).length = cl.length := List.length_map _
  rw [hmc] at evc
  subst eiv
  subst erv
  subst evc
  obtain ⟨q1, q2, q3⟩ := HRC.out
  have b0 := keep_cell hlow ((q1 0).trans (show _ = some (.int .i64 0) from rfl))
  have b1 := keep_cell hlow ((q1 1).trans (show _ = some (.slice none 0 0) from rfl))
  have b2 := keep_cell hlow ((q1 2).trans (show _ = some (.slice none 0 0) from rfl))
  have z0 := (hlow.frozen (show (⟨w.heap.size, 0, none⟩ : Addr).block < _ from q3)).trans (q2 0)
  have z1 := (hlow.frozen (show (⟨w.heap.size, 1, none⟩ : Addr).block < _ from q3)).trans (q2 1)
  have z2 := (hlow.frozen (show (⟨w.heap.size, 2, none⟩ : Addr).block < _ from q3)).trans (q2 2)
  have hw4 : w.heap.size < B := by have := HBW.out.size; have := H4.out.low.size; omega
  have HB9 : Hid (Below w.heap.size w (((w5.setCell ⟨w.heap.size, 0, none⟩ (.int .i64 64)).setCell ⟨w.heap.size, 1, none⟩ (.slice ai II.length ci)).setCell ⟨w.heap.size, 2, none⟩ (.slice ar cl.length cr))) := hide (((HB6.out.setCell (Nat.le_refl _) _).setCell (Nat.le_refl _) _).setCell (Nat.le_refl _) _)
  have HS9 : Hid (TW _ sb (((w5.setCell ⟨w.heap.size, 0, none⟩ (.int .i64 64)).setCell ⟨w.heap.size, 1, none⟩ (.slice ai II.length ci)).setCell ⟨w.heap.size, 2, none⟩ (.slice ar cl.length cr)) [] (.slice ai II.length ci) vs II (.slice ar cl.length cr) rs RR (((w5.setCell ⟨w.heap.size, 0, none⟩ (.int .i64 64)).setCell ⟨w.heap.size, 1, none⟩ (.slice ai II.length ci)).setCell ⟨w.heap.size, 2, none⟩ (.slice ar cl.length cr))) := hide
    (((hT5.out q3 0 (.int .i64 64) rfl).out q3 1 (.slice ai II.length ci) rfl).out q3 2 (.slice ar cl.length cr) rfl)
  have HK9 : Hid (KP B (((w5.setCell ⟨w.heap.size, 0, none⟩ (.int .i64 64)).setCell ⟨w.heap.size, 1, none⟩ (.slice ai II.length ci)).setCell ⟨w.heap.size, 2, none⟩ (.slice ar cl.length cr)) (.slice ax cl.length cx) ks (cl.map (clC f)) (((w5.setCell ⟨w.heap.size, 0, none⟩ (.int .i64 64)).setCell ⟨w.heap.size, 1, none⟩ (.slice ai II.length ci)).setCell ⟨w.heap.size, 2, none⟩ (.slice ar cl.length cr))) := hide
    (((hK5.out hw4 0 (.int .i64 64)).out hw4 1 (.slice ai II.length ci)).out hw4 2 (.slice ar cl.length cr))
  have HE9 : Hid ((((w5.setCell ⟨w.heap.size, 0, none⟩ (.int .i64 64)).setCell ⟨w.heap.size, 1, none⟩ (.slice ai II.length ci)).setCell ⟨w.heap.size, 2, none⟩ (.slice ar cl.length cr)).cell? ⟨w.heap.size, 0, none⟩ = some (.int .i64 64) ∧ (((w5.setCell ⟨w.heap.size, 0, none⟩ (.int .i64 64)).setCell ⟨w.heap.size, 1, none⟩ (.slice ai II.length ci)).setCell ⟨w.heap.size, 2, none⟩ (.slice ar cl.length cr)).cell? ⟨w.heap.size, 1, none⟩ = some (.slice ai II.length ci) ∧ (((w5.setCell ⟨w.heap.size, 0, none⟩ (.int .i64 64)).setCell ⟨w.heap.size, 1, none⟩ (.slice ai II.length ci)).setCell ⟨w.heap.size, 2, none⟩ (.slice ar cl.length cr)).cell? ⟨w.heap.size, 2, none⟩ = some (.slice ar cl.length cr)) := hide (by
    have x0 : (w5.setCell ⟨w.heap.size, 0, none⟩ (.int .i64 64)).cell? ⟨w.heap.size, 0, none⟩ = some (.int .i64 64) := World.cell?_setCell_same _ _ _ b0
    have x1 : ((w5.setCell ⟨w.heap.size, 0, none⟩ (.int .i64 64)).setCell ⟨w.heap.size, 1, none⟩ (.slice ai II.length ci)).cell? ⟨w.heap.size, 1, none⟩ = some (.slice ai II.length ci) := World.cell?_setCell_same _ _ _ (cell_ne b1 (.inr (by decide)))
    have x2 : (((w5.setCell ⟨w.heap.size, 0, none⟩ (.int .i64 64)).setCell ⟨w.heap.size, 1, none⟩ (.slice ai II.length ci)).setCell ⟨w.heap.size, 2, none⟩ (.slice ar cl.length cr)).cell? ⟨w.heap.size, 2, none⟩ = some (.slice ar cl.length cr) := World.cell?_setCell_same _ _ _ (cell_ne (cell_ne b2 (.inr (by decide))) (.inr (by decide)))
    exact ⟨cell_ne (cell_ne x0 (.inr (by decide))) (.inr (by decide)), cell_ne x1 (.inr (by decide)), x2⟩)
  have HQ3 := hide q3
  have HQ4 := hide hw4
  clear hT5 hK5 hb5 hlow H4 HW4 hcx q1 q2 q3 hw4 HRC
  go_wp2_with fail
  obtain ⟨e0, e1, e2⟩ := HE9.out
  have hBf := HB9.out
  have hst := HS9.out
  have hco := HK9.out
  generalize (((w5.setCell ⟨w.heap.size, 0, none⟩ (.int .i64 64)).setCell ⟨w.heap.size, 1, none⟩ (.slice ai II.length ci)).setCell ⟨w.heap.size, 2, none⟩ (.slice ar cl.length cr)) = W9 at *
  refine bodyPost_ret (v := .tuple #[.agg #[.int .i64 64, .slice ai II.length ci, .slice ar cl.length cr], .slice ax cl.length cx, .nilIface]) (by rw [results_cell_tmp2 (show Tryz.f28.results = _ from rfl)]; go_simp) rfl ?_
  exact ⟨_, sb, _, vs, _, rs, _, ks, B, rfl, hst, hco, HQ3.out, HQ4.out, hBf⟩
end Go.Proofs.YtoialadjpcdbaaaGreatDoor
