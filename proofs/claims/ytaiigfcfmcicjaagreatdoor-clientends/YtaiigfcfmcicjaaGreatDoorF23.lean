import Derived.Test.YtaiigfcfmcicjaaGreatDoorF20
import Derived.Test.YtaiigfcfmcicjaaGreatDoorF22
import Derived.Laws.ResultCell
import Derived.Test.YtaiigfcfmcicjaaGreatDoorF01
import Derived.Test.YtaiigfcfmcicjaaGreatDoorF16
namespace Go.Proofs.YtaiigfcfmcicjaaGreatDoor
set_option maxRecDepth 100000
set_option maxHeartbeats 8000000
section
open Go.RowKit Go.Extern.Stop Go.Stop Go.Extern Go.Maps Go.WideMaps Go.Sort
structure KP (base : Nat) (w1 : World) (v : Value) (vs : List Value) (Ls : List (List Ins)) (w : World) : Prop where
 own : w.ownsRow base 53 1 v Ls.length vs
 el : ∀ (i : Nat) L, Ls[i]? = some L -> ∃ u, vs[i]? = some u /\ insOwn w base u L /\ ∀ b, u.ownBlock = some b -> v.ownBlock ≠ some b
 low : Below base w1 w
 bz : base <= w.heap.size
section
variable {base : Nat} {w1 : World} {v : Value} {vs : List Value} {Ls : List (List Ins)} {w w' : World}
theorem KP.nil (h : Below base w1 w) (hb : base <= w.heap.size) : KP base w1 (.slice none 0 0) [] [] w := ⟨World.ownsRow_nil _ _ _ _, fun i L hi => by simp at hi, h, hb⟩
theorem KP.below (h : KP base w1 v vs Ls w) (k : Below w.heap.size w w') : KP base w1 v vs Ls w' :=
 ⟨ownsRow_block h.own (fun b hb => k.block b (h.own.lt b hb).2), fun i L hi => by obtain ⟨u, h1, h2, h3⟩ := h.el i L hi; exact ⟨u, h1, insOwn_keep h2 k, h3⟩, h.low.trans (k.mono h.bz), Nat.le_trans h.bz k.size⟩
theorem KP.add (h : KP base w1 v vs Ls w) {u : Value} {L : List Ins} (hu : insOwn w base u L) (hne : ∀ b, u.ownBlock = some b -> v.ownBlock ≠ some b) {v' : Value} {N : Nat} (hN : w.heap.size <= N)
  (ho : w'.ownsRow base 53 1 v' (Ls.length + 1) (vs ++ [u])) (hg : w.grownBy w' v.ownBlock) (hloc : v'.ownBlock = v.ownBlock ∨ v'.ownBlock = some N) : KP base w1 v' (vs ++ [u]) (Ls ++ [L]) w' := by
 have hB : Below base w w' := (Below.refl base w).grown hg h.bz (fun k hk => (h.own.lt k hk).1)
 have nb : ∀ b, b < w.heap.size -> v.ownBlock ≠ some b -> v'.ownBlock ≠ some b := fun b hb hne e => by
  rcases hloc with h1 | h1
  ·rw [h1] at e; exact hne e
  ·rw [h1] at e
   have := Option.some.inj e
   omega
 have kn : ∀ {u : Value} {L : List Ins}, insOwn w base u L -> (∀ b, u.ownBlock = some b -> v.ownBlock ≠ some b) -> insOwn w' base u L /\ ∀ b, u.ownBlock = some b -> v'.ownBlock ≠ some b := fun {u L} h1 h2 => by
  refine ⟨insOwn_kept h1 hg ?_, fun b e => nb b (World.ownsRow.lt h1 b e).2 (h2 b e)⟩
  cases hr : u.ownBlock with
  | none => exact .inl rfl
  | some b => exact .inr fun e => h2 b hr e.symm
 have lv : vs.length = Ls.length := by have := h.own.1; omega
 refine ⟨by rw [List.length_append]; exact ho, fun i M hi => ?_, h.low.trans hB, Nat.le_trans h.bz hB.size⟩
 by_cases hlt : i < Ls.length
 ·rw [List.getElem?_append_left hlt] at hi
  obtain ⟨x, h1, h2, h3⟩ := h.el i M hi
  exact ⟨x, by rw [List.getElem?_append_left (by omega)]; exact h1, (kn h2 h3).1, (kn h2 h3).2⟩
 ·rw [List.getElem?_append_right (by omega)] at hi
  have hi0 : i - Ls.length = 0 := by
   have := (List.getElem?_eq_some_iff.1 hi).1
   simp at this; omega
  rw [hi0] at hi
  cases hi
  exact ⟨u, by rw [List.getElem?_append_right (by omega), lv, hi0]; rfl, (kn hu hne).1, (kn hu hne).2⟩
theorem KP.codes (h : KP base w1 v vs Ls w) : ∃ ad cap, v = .slice ad Ls.length cap /\ codesAt ad Ls w := by
 obtain ⟨ad, cap, e2, g1, g2, g3⟩ := ownsRow_shape h.own
 refine ⟨ad, cap, e2, fun t L ht => ?_⟩
 obtain ⟨u, h1, h2, -⟩ := h.el t L ht
 obtain ⟨g, eg, cg⟩ := g3 t u h1
 obtain ⟨adl, capl, eu, k1, k2, k3⟩ := insAt_of_icells h2
 refine ⟨g, 0, adl, capl, eg, by rw [Nat.zero_add, cg, eu], k1, k3, fun en => ?_⟩
 rcases h2.2 with ⟨e4, e5⟩ | ⟨gg, cc, cur, e4, _⟩
 ·exact List.length_eq_zero_iff.1 e5
 ·rw [eu] at e4
  cases e4
  cases en
end
theorem results_cell_tmp2 {fn : Func} {p u u2 : Tmp} {ty : TypeId} (h : fn.results = #[.cell p ty, .tmp u, .tmp u2]) (tmps : Array Value) (P : Program) (w : World) :
  (results fn tmps).run P w =
    ((asAddr (tmps.getD p undef)).run P w).andThen fun a w₁ => ((loadVar ty a).run P w₁).andThen fun v w₂ => .ok (.tuple #[v, tmps.getD u undef, tmps.getD u2 undef]) w₂ := by
 simp only [results, h]
 simp [Sem.run_bind, Result.andThen]
theorem KP.out {base : Nat} {w1 : World} {v : Value} {vs : List Value} {Ls : List (List Ins)} {w : World} (h : KP base w1 v vs Ls w) {r : Nat} (hr : r < base) (o : Nat) (x : Value) : KP base (w.setCell ⟨r, o, none⟩ x) v vs Ls (w.setCell ⟨r, o, none⟩ x) := by
 have hb : ∀ b, base <= b -> (w.setCell ⟨r, o, none⟩ x).heap[b]? = w.heap[b]? := fun b hb => Below.heap_setCell _ _ _ _ (fun e => by dsimp only at e; omega)
 refine ⟨ownsRow_block h.own (fun b e => hb b (h.own.lt b e).1), fun i L hi => ?_, Below.refl _ _, by simpa [World.setCell] using h.bz⟩
 obtain ⟨u, h1, h2, h3⟩ := h.el i L hi
 exact ⟨u, h1, ownsRow_block h2 (fun b e => hb b (World.ownsRow.lt h2 b e).1), h3⟩
theorem codesInfoT : ∃ i, (Tryz.prog).info? 53 = some i /\ i.zero = some (.slice none 0 0) /\ i.size = 1 /\ i.bytes = 24 := info_parts (by kernel_rfl)
def opRowsAt (ad : Option Addr) (cl : List (List OpI)) (w : World) : Prop := ∀ (t : Nat) L, cl[t]? = some L -> ∃ b off adl capl, ad = some ⟨b, off, none⟩ /\ w.cell? ⟨b, off + t, none⟩ = some (.slice adl L.length capl) /\ opsAt adl L w
theorem opRowsAt.below {ad : Option Addr} {cl : List (List OpI)} {w w' : World} (h : opRowsAt ad cl w) (hb : Below w.heap.size w w') : opRowsAt ad cl w' := fun t L ht => by
 obtain ⟨b, off, adl, capl, e, h1, h2⟩ := h t L ht
 exact ⟨b, off, adl, capl, e, keep_cell hb h1, h2.below hb⟩
def kindsOk (cl : List (List OpI)) : Prop := ∀ L ∈ cl, L.length <= 20 /\ ∀ x ∈ L, kn x.kind.toList ≠ 0
def thC (f : Nat) (G : List Ins) (L : List OpI) : List Ins := opsC f L L.length ++ (G ++ [⟨oStop, 0, 0, 0, thNo⟩])
def stopI : Ins := ⟨oStop, 0, 0, 0, thNo⟩
theorem concat3 {w2 : World} {x2 xg : Option Addr} {c2 cg b2 b3 : Nat} {C G : List Ins} (h2 : insOwn w2 b2 (.slice x2 C.length c2) C) (hg : insOwn w2 b3 (.slice xg G.length cg) G) (hC : C.length <= 1300) (hG : G.length <= 100) :
  Calls Tryz.prog 100 #[.slice (some ⟨w2.heap.size + 1, 0, none⟩) 3 3] ((w2.alloc (.cells #[.string oStop, .int .i64 0, .int .i64 0, .int .i64 0, .string thNo] 101)).alloc (.cells #[.slice x2 C.length c2, .slice xg G.length cg, .slice (some ⟨w2.heap.size, 0, none⟩) 1 1] 53)) fun e w' => ∃ v, e = .returned v /\ insOwn w' w2.heap.size v (C ++ (G ++ [stopI])) /\ Below w2.heap.size w2 w' := by
 have hB : Below w2.heap.size w2 ((w2.alloc (.cells #[.string oStop, .int .i64 0, .int .i64 0, .int .i64 0, .string thNo] 101)).alloc (.cells #[.slice x2 C.length c2, .slice xg G.length cg, .slice (some ⟨w2.heap.size, 0, none⟩) 1 1] 53)) := (bRf.alloc nL _).alloc (by simp) _
 have hp : partsOwn (some ⟨w2.heap.size + 1, 0, none⟩) [C, G, [stopI]] ((w2.alloc (.cells #[.string oStop, .int .i64 0, .int .i64 0, .int .i64 0, .string thNo] 101)).alloc (.cells #[.slice x2 C.length c2, .slice xg G.length cg, .slice (some ⟨w2.heap.size, 0, none⟩) 1 1] 53)) := by
  intro t L ht
  have hc : ∀ j, ((w2.alloc (.cells #[.string oStop, .int .i64 0, .int .i64 0, .int .i64 0, .string thNo] 101)).alloc (.cells #[.slice x2 C.length c2, .slice xg G.length cg, .slice (some ⟨w2.heap.size, 0, none⟩) 1 1] 53)).cell? ⟨w2.heap.size + 1, 0 + j, none⟩ = (#[.slice x2 C.length c2, .slice xg G.length cg, .slice (some ⟨w2.heap.size, 0, none⟩) 1 1] : Array Value)[j]? := fun j => by
   rw [Nat.zero_add]
   have := World.cell?_alloc_new (w2.alloc (.cells #[.string oStop, .int .i64 0, .int .i64 0, .int .i64 0, .string thNo] 101)) #[.slice x2 C.length c2, .slice xg G.length cg, .slice (some ⟨w2.heap.size, 0, none⟩) 1 1] 53 j
   rwa [World.size_alloc] at this
  match t, ht with
  | 0, ht =>
   cases ht
   exact ⟨_, 0, _, rfl, hc 0, b2, insOwn_keep h2 hB⟩
  | 1, ht =>
   cases ht
   exact ⟨_, 0, _, rfl, hc 1, b3, insOwn_keep hg hB⟩
  | 2, ht =>
   cases ht
   exact ⟨_, 0, _, rfl, hc 2, 0, insOwn_keep (insOwn_new (l := [stopI]) rfl (Nat.zero_le _) (show 1 <= 1000 by decide)) (bRf.alloc nL _)⟩
 have hcc := concatG_any (cap := 3) hp (show 3 <= 1000 by decide) (by simp; omega) (by simp; omega)
 refine hcc.mono ?_
 rintro e w' ⟨v, rfl, hv, hb⟩
 refine ⟨v, rfl, ?_, below_step hB hb⟩
 have e : ([C, G, [stopI]] : List (List Ins)).flatten = C ++ (G ++ [stopI]) := by simp
 rw [e] at hv
 exact insOwn_mono hv hB.size
theorem with_ok {f : Nat} (hf : 1 <= f /\ f <= 4) {base sb : Nat} {w1 : World} {rv : Value} {rs : List Value} {I R : List (List Int)} {w : World} (h : TAt base sb w1 rv rs I R w) {ad : Option Addr} {cl : List (List OpI)} {cap : Nat} (ho : opRowsAt ad cl w) (hk : kindsOk cl) (hn : cl.length <= 6) {vg : Value} {G : List Ins} {b3 : Nat} (hg : insOwn w b3 vg G) (hG : G.length <= 100) :
  Calls Tryz.prog 58 #[.pointer (some ⟨sb, 0, none⟩), .slice ad cl.length cap, .func (.func 40) #[.int .i64 f] #[], vg] w fun e w' => ∃ iv vs vc ks B, e = .returned (.tuple #[.agg #[.int .i64 64, iv, rv], vc, .nilIface]) /\ TW base sb w1 [] iv vs I rv rs R w' /\ KP B w' vc ks (cl.map (thC f G)) w' /\ w.heap.size <= B /\ Below w.heap.size w w' := by
 have HH := hide h
 have HOP := hide ho
 have HKO := hide hk
 have HG := hide hg
 have HCO := hide (fun (ad : Option Addr) (L : List OpI) (cap : Nat) (w : World) (ho : opsAt ad L w) (hk : ∀ x ∈ L, kn x.kind.toList ≠ 0) (hl : L.length <= 20) => codeOf_ok (cap := cap) hf ho hk hl)
 have HLN := hide (fun (L : List OpI) => opsC_len hf L L.length)
 obtain ⟨xg, cg, eg, -⟩ := ownsRow_shape hg
 subst eg
 have hbw : w.heap.size <= (w.alloc (.cells #[.int .i64 0, .slice none 0 0, .slice none 0 0] 38)).heap.size := by simp
 have HB0 : Hid (Below w.heap.size w (w.alloc (.cells #[.int .i64 0, .slice none 0 0, .slice none 0 0] 38))) := hide (bRf.alloc nL _)
 obtain ⟨n, hln⟩ : ∃ n, Hid (cl.length = n) := ⟨_, hide rfl⟩
 rw [hln.out] at hn ⊢
 clear h ho hk hg hbw
 generalize hfi : (f : Int) = fi at *
 clear hfi hf
 go_enter Tryz.func58, Tryz.ntmps58
 go_wp2_with fail
 obtain ⟨W0, hW0⟩ : ∃ W0, W0 = w.alloc (.cells #[.int .i64 0, .slice none 0 0, .slice none 0 0] 38) := ⟨_, rfl⟩
 have HRC : Hid ((∀ o, W0.cell? ⟨w.heap.size, o, none⟩ = (#[.int .i64 0, .slice none 0 0, .slice none 0 0] : Array Value)[o]?) /\ (∀ o, W0.frozen? ⟨w.heap.size, o, none⟩ = false) /\ w.heap.size < W0.heap.size) := hide (by
  subst hW0
  exact ⟨fun o => World.cell?_alloc_new _ _ _ _, fun o => World.frozen?_alloc_new _ _ _ _, by simp⟩)
 rw [<- hW0] at HB0 ⊢
 have HP0 : Hid (KP W0.heap.size W0 (.slice none 0 0) [] ((cl.take 0).map (thC f G)) W0) := hide (KP.nil bRf nL)
 clear hW0
 go_loopw [11, 13, 14, 15, 18] (fun v _ _ _ i wr => ∃ t : Nat, t <= n /\ i = .int .i64 t /\ Hid (∃ vs, KP W0.heap.size W0 v vs ((cl.take t).map (thC f G)) wr)) (fun _ _ _ _ i _ => n - (intOf i).toNat)
 case atStart => exact ⟨0, Nat.zero_le _, rfl, hide ⟨_, HP0.out⟩⟩
 case round =>
  clear HP0
  obtain ⟨t, ht, rfl, HP⟩ := hrel
  generalize u11 = v at *
  obtain ⟨vs, hP⟩ := HP.out
  by_cases hlt : t < n
  ·have ti : (t : Int) < n := by omega
   have HP1 := hide hP
   obtain ⟨L, hL⟩ : ∃ L, cl[t]? = some L := ⟨_, List.getElem?_eq_getElem (by rw [hln.out]; exact hlt)⟩
   have HBW := hide (below_step HB0.out (hP.low.mono nL))
   obtain ⟨b, off, adl, capl, rfl, c0, hops⟩ := HOP.out.below HBW.out t L hL
   have hkl := HKO.out L (List.mem_of_getElem? hL)
   have HC := hide (HCO.out adl L capl wr hops hkl.2 hkl.1)
   have HLL := hide (HLN.out L)
   have HL20 := hide hkl.1
   have HSU : Hid (cl.take (t + 1) = cl.take t ++ [L]) := hide (by rw [List.take_add_one, hL]; rfl)
   have HG1 := hide (insOwn_keep HG.out HBW.out)
   clear hP HP hL hops hkl HCO HLN HKO
   generalize hLn : L.length = ln at *
   go_wp2_with fail
   refine HC.out.mono ?_
   rintro e w2 ⟨v2, rfl, hv2, hb2⟩
   obtain ⟨x2, c2, e2, -⟩ := ownsRow_shape hv2
   subst e2
   have HP2 := hide (HP1.out.below hb2)
   have HV2 := hide hv2
   have HG2 := hide (insOwn_keep HG1.out hb2)
   clear hv2 hb2 HP1 HC c0 HG1
   have HC3 : Hid (Calls Tryz.prog 100 #[.slice (some ⟨w2.heap.size + 1, 0, none⟩) 3 3] ((w2.alloc (.cells #[.string oStop, .int .i64 0, .int .i64 0, .int .i64 0, .string thNo] 101)).alloc (.cells #[.slice x2 (opsC f L ln).length c2, .slice xg G.length cg, .slice (some ⟨w2.heap.size, 0, none⟩) 1 1] 53)) fun e w' => ∃ v, e = .returned v /\ insOwn w' w2.heap.size v (thC f G L) /\ Below w2.heap.size w2 w') := hide (by
    have := concat3 HV2.out HG2.out (by have h1 := HLL.out; have h2 := HL20.out; have h3 : 60 * ln <= 60 * 20 := Nat.mul_le_mul_left _ h2; omega) hG
    unfold thC
    rw [hLn]
    exact this)
   go_wp2_with fail
   refine HC3.out.mono ?_
   rintro e w3 ⟨v3, rfl, hv3, hb3⟩
   obtain ⟨au, cu, e3, -⟩ := ownsRow_shape hv3
   subst e3
   have HU : Hid (insOwn w3 W0.heap.size (.slice au (thC f G L).length cu) (thC f G L)) := hide (insOwn_mono hv3 HP2.out.bz)
   have HNE : Hid (∀ b, (Value.slice au (thC f G L).length cu).ownBlock = some b -> v.ownBlock ≠ some b) := hide fun b e e2 => by
    have h1 := (World.ownsRow.lt hv3 b e).1
    have h2 := (HP2.out.own.lt b e2).2
    omega
   have HP3 := hide (HP2.out.below hb3)
   clear hv3 hb3 HP2 HC3 HV2 HG2
   generalize (thC f G L).length = lu at *
   obtain ⟨ric, hric, hrz, hrs, hrb⟩ := codesInfoT
   have bel : Below w3.heap.size w3 (w3.alloc (.cells #[.slice au lu cu] 53)) := bRf.alloc nL _
   obtain ⟨LC, HLC, hLC⟩ : ∃ LC, Hid (LC = ((cl.take t).map (thC f G)).length) /\ LC <= 7 := ⟨_, hide rfl, by rw [List.length_map, List.length_take]; omega⟩
   go_wp2_with (at_builtin; refine wpList_append_own_at _ rfl _ _ 39 rfl W0.heap.size 53 ric (.slice none 0 0) 1 24 Tryz.underlying39 hric hrz hrs hrb rfl (by decide) v LC vs rfl ?p0 ⟨w3.heap.size, 0, none⟩ 1 1 [.slice au lu cu] rfl rfl ?p1 ?p2 ?p3 ?p4 ?p5 ?_)
   case p0 => rw [HLC.out]; exact (HP3.out.below bel).own
   case p1 =>
    intro k x hk
    cases k with
    | zero => cases hk; rw [Addr.add_lit]; simp
    | succ k => simp at hk
   case p2 =>
    intro x hx
    obtain rfl : x = .slice au lu cu := by simpa using hx
    rfl
   case p3 => unfold maxLen; omega
   case p4 => omega
   case p5 => have := HP3.out.bz; simp; omega
   intro v' w6 ho hg hnil hloc
   have HP6 : Hid (KP W0.heap.size W0 v' (vs ++ [.slice au lu cu]) ((cl.take (t + 1)).map (thC f G)) w6) := hide (by
    rw [HSU.out, List.map_append]
    exact (HP3.out.below bel).add (insOwn_keep HU.out bel) HNE.out (N := w3.heap.size + 1) (by simp) (by rw [<- HLC.out]; exact ho) hg hloc)
   clear ho hg hnil hloc HP3 HU HNE HSU bel HLC hLC hric hrz hrs hrb
   go_wp2_with fail
   go_roundw
   case rel => exact ⟨t + 1, by omega, by go_num, hide ⟨_, HP6.out⟩⟩
   case measure => simp [intOf]; omega
  ·obtain rfl : t = n := by omega
   have HBW := hide (below_step HB0.out (hP.low.mono nL))
   obtain ⟨iv, vs1, hT0, hD⟩ := HH.out
   have HT0 := hide hT0
   have hT := hT0.below HBW.out
   have a0 := hT.c0
   have a1 := hT.c1
   have a2 := hT.c2
   obtain ⟨ai, ci, eiv, -⟩ := ownsRow_shape hT0.oi
   obtain ⟨ar, cr, erv, -⟩ := ownsRow_shape hT0.or'
   rw [eiv] at a1
   rw [erv] at a2
   obtain ⟨q1, q2, q3⟩ := HRC.out
   have b0 := keep_cell hP.low ((q1 0).trans (show _ = some (.int .i64 0) from rfl))
   have b1 := keep_cell hP.low ((q1 1).trans (show _ = some (.slice none 0 0) from rfl))
   have b2 := keep_cell hP.low ((q1 2).trans (show _ = some (.slice none 0 0) from rfl))
   have z0 := (hP.low.frozen (show (⟨w.heap.size, 0, none⟩ : Addr).block < _ from q3)).trans (q2 0)
   have z1 := (hP.low.frozen (show (⟨w.heap.size, 1, none⟩ : Addr).block < _ from q3)).trans (q2 1)
   have z2 := (hP.low.frozen (show (⟨w.heap.size, 2, none⟩ : Addr).block < _ from q3)).trans (q2 2)
   have HP9 := hide hP
   have HRL := hide q3
   obtain ⟨ac, cc, ev, -⟩ := ownsRow_shape hP.own
   have HLN9 : Hid (((cl.take t).map (thC f G)).length = t) := hide (by rw [List.length_map, List.length_take, hln.out]; omega)
   have HTK : Hid (cl.take t = cl) := hide (by rw [<- hln.out, List.take_length])
   rw [HLN9.out] at ev
   clear hT hT0 hP HP hD q1 q2 q3 HH
   have HK9 := hide (((HP9.out.out HRL.out 0 (.int .i64 64)).out HRL.out 1 (.slice ai I.length ci)).out HRL.out 2 (.slice ar R.length cr))
   have HB9 : Hid (Below w.heap.size w (((wr.setCell ⟨w.heap.size, 0, none⟩ (.int .i64 64)).setCell ⟨w.heap.size, 1, none⟩ (.slice ai I.length ci)).setCell ⟨w.heap.size, 2, none⟩ (.slice ar R.length cr))) := hide (((HBW.out.setCell nL _).setCell nL _).setCell nL _)
   have HE9 : Hid ((((wr.setCell ⟨w.heap.size, 0, none⟩ (.int .i64 64)).setCell ⟨w.heap.size, 1, none⟩ (.slice ai I.length ci)).setCell ⟨w.heap.size, 2, none⟩ (.slice ar R.length cr)).cell? ⟨w.heap.size, 0, none⟩ = some (.int .i64 64) /\ (((wr.setCell ⟨w.heap.size, 0, none⟩ (.int .i64 64)).setCell ⟨w.heap.size, 1, none⟩ (.slice ai I.length ci)).setCell ⟨w.heap.size, 2, none⟩ (.slice ar R.length cr)).cell? ⟨w.heap.size, 1, none⟩ = some (.slice ai I.length ci) /\ (((wr.setCell ⟨w.heap.size, 0, none⟩ (.int .i64 64)).setCell ⟨w.heap.size, 1, none⟩ (.slice ai I.length ci)).setCell ⟨w.heap.size, 2, none⟩ (.slice ar R.length cr)).cell? ⟨w.heap.size, 2, none⟩ = some (.slice ar R.length cr)) := hide (by
    have x0 : (wr.setCell ⟨w.heap.size, 0, none⟩ (.int .i64 64)).cell? ⟨w.heap.size, 0, none⟩ = some (.int .i64 64) := World.cell?_setCell_same _ _ _ b0
    have x1 : ((wr.setCell ⟨w.heap.size, 0, none⟩ (.int .i64 64)).setCell ⟨w.heap.size, 1, none⟩ (.slice ai I.length ci)).cell? ⟨w.heap.size, 1, none⟩ = some (.slice ai I.length ci) := World.cell?_setCell_same _ _ _ (cell_ne b1 (.inr (by decide)))
    have x2 : (((wr.setCell ⟨w.heap.size, 0, none⟩ (.int .i64 64)).setCell ⟨w.heap.size, 1, none⟩ (.slice ai I.length ci)).setCell ⟨w.heap.size, 2, none⟩ (.slice ar R.length cr)).cell? ⟨w.heap.size, 2, none⟩ = some (.slice ar R.length cr) := World.cell?_setCell_same _ _ _ (cell_ne (cell_ne b2 (.inr (by decide))) (.inr (by decide)))
    exact ⟨cell_ne (cell_ne x0 (.inr (by decide))) (.inr (by decide)), cell_ne x1 (.inr (by decide)), x2⟩)
   go_wp2_with fail
   obtain ⟨e0, e1, e2⟩ := HE9.out
   have hK := HK9.out
   rw [HTK.out] at hK
   have hTf := HT0.out.below HB9.out
   have hBf := HB9.out
   have hBB := HB0.out.size
   generalize (((wr.setCell ⟨w.heap.size, 0, none⟩ (.int .i64 64)).setCell ⟨w.heap.size, 1, none⟩ (.slice ai I.length ci)).setCell ⟨w.heap.size, 2, none⟩ (.slice ar R.length cr)) = W9 at *
   refine bodyPost_ret (v := .tuple #[.agg #[.int .i64 64, .slice ai I.length ci, .slice ar R.length cr], v, .nilIface]) (by rw [results_cell_tmp2 (show Tryz.f58.results = _ from rfl)]; go_simp) rfl ?_
   exact ⟨iv, vs1, v, vs, W0.heap.size, by rw [eiv, erv], hTf, hK, hBB, hBf⟩
end
section
open Go.ChangeShapes Go.WideShapes Go.ChangeAt Go.RowKit Go.Joins Go.Deep
theorem ops_list_trod {H : Type} {enc : TypeId × Value -> H} {W : World} {fuel : Nat} {sp : Nat -> Bool} {held : Bool} {cs : List Value} {x : DataW H × List MemPlace} {t e : TypeId} {α : Type} [Inhabited α] (F : α -> List Value) (k : Nat) (hk : 0 < k) (Q : α -> Prop)
  (ht : Tryz.prog.underlying t = some (.slice e)) (hc : Tryz.prog.cellsOf e = k) (hF : ∀ y, (F y).length = k)
  (hr : ∀ (n : Nat) (cs : List Value) x, DataW.trod enc Tryz.prog W 0 sp held n e cs = some x -> ∃ y, cs = F y /\ Q y)
  (h : DataW.trod enc Tryz.prog W 0 sp held fuel t cs = some x) :
  ∃ (ad : Option Addr) (cap : Nat) (l : List α), cs = [.slice ad l.length cap] /\ (∀ (i : Nat) y, l[i]? = some y -> ∃ b off, ad = some ⟨b, off, none⟩ /\ (∀ j, j < k -> W.cell? ⟨b, off + i * k + j, none⟩ = (F y)[j]?) /\ Q y) /\ (ad = none -> l = [] /\ cap = 0) /\ l.length <= cap /\ l.length <= maxLen := by
 rcases open_slice ht h with ⟨rfl, _⟩ | ⟨a, len, cap, m, n, D, Pl, rfl, _, hl, hl2, hm, hx, hel⟩
 ·exact ⟨none, 0, [], rfl, fun i y hy => by simp at hy, fun _ => ⟨rfl, rfl⟩, Nat.zero_le _, Nat.zero_le _⟩
 ·have hm' : len <= m := by rw [hm]; split <;> omega
  have hex : ∀ i, i < len -> ∃ y : α, (∀ j, j < k -> W.cell? ((a.add (i * k)).add j) = (F y)[j]?) /\ Q y := fun i hi => by
   obtain ⟨cs', h1, h2⟩ := hel i (by omega)
   rw [hc] at h1
   obtain ⟨y, rfl, h3⟩ := hr _ _ _ h2
   exact ⟨y, (cells_at h1).2, h3⟩
  obtain ⟨f, hf⟩ := choose_lt (p := fun i (y : α) => (∀ j, j < k -> W.cell? ((a.add (i * k)).add j) = (F y)[j]?) /\ Q y) (h := hex)
  refine ⟨some a, cap, (List.range len).map f, by simp, fun i y hy => ?_, fun h => (by cases h), by simpa using hl, by simp; omega⟩
  have hi : i < len := by
   have := (List.getElem?_eq_some_iff.1 hy).1
   simpa using this
  obtain rfl : y = f i := by
   rw [List.getElem?_map, List.getElem?_range hi] at hy
   simpa using hy.symm
  have h00 := (hf 0 (by omega)).1 0 hk
  obtain ⟨v0, hv0⟩ : ∃ v, (F (f 0))[0]? = some v := ⟨_, List.getElem?_eq_getElem (by rw [hF]; exact hk)⟩
  rw [hv0, Nat.zero_mul] at h00
  have hs : a.spot = none := spot_none (a := a) h00
  have e : ∀ j, (a.add (i * k)).add j = ⟨a.block, a.off + i * k + j, none⟩ := fun j => by
   rw [add_plain a hs, add_plain _ rfl]
  refine ⟨a.block, a.off, by obtain ⟨b, o, sp⟩ := a; simp only at hs; subst hs; rfl, fun j hj => ?_, (hf i hi).2⟩
  have := (hf i hi).1 j hj
  rw [e] at this
  exact this
theorem ccells_Op : Tryz.prog.cellsOf 72 = 2 := by kernel_rfl
theorem ccells_s : Tryz.prog.cellsOf 9 = 1 := by kernel_rfl
theorem ccells_n : Tryz.prog.cellsOf 3 = 1 := by kernel_rfl
theorem ccells_os : Tryz.prog.cellsOf 70 = 1 := by kernel_rfl
theorem op_of_trod {H : Type} {enc : TypeId × Value -> H} {W : World} {sp : Nat -> Bool} {held : Bool} {fuel : Nat} {cs : List Value} {x : DataW H × List MemPlace}
  (h : DataW.trod enc Tryz.prog W 0 sp held fuel 72 cs = some x) : ∃ y : OpI, cs = [.string y.kind, .int .i64 y.n] /\ True := by
 obtain ⟨xs, n, _, _, hl, hlen, hf⟩ := DataW.trod_struct Tryz.underlying72 h
 rw [ccells_Op] at hl
 match cs, hl with
 | [c0, c1], _ =>
  match xs, hlen with
  | [x0, x1], _ =>
   have f0 : DataW.trod enc Tryz.prog W 0 sp held n 9 [c0] = some x0 := by simpa [ccells_s] using hf 0 _ rfl
   have f1 : DataW.trod enc Tryz.prog W 0 sp held n 3 [c1] = some x1 := by simpa [ccells_n] using hf 1 _ rfl
   obtain ⟨s, e0, _, _⟩ := DataW.trod_string Tryz.underlying9 f0
   obtain ⟨r1, e1, _, _⟩ := DataW.trod_int Tryz.underlying3 f1
   refine ⟨⟨s, r1⟩, ?_, trivial⟩
   simp only [List.cons.injEq, and_true] at e0 e1
   rw [e0, e1]
structure OpsV where
 ad : Option Addr
 cap : Nat
 l : List OpI
instance : Inhabited OpsV := ⟨⟨none, 0, []⟩⟩
instance : Inhabited OpI := ⟨⟨ByteArray.empty, 0⟩⟩
theorem ops_of_trod {H : Type} {enc : TypeId × Value -> H} {W : World} {fuel : Nat} {sp : Nat -> Bool} {held : Bool} {cs : List Value} {x : DataW H × List MemPlace} (h : DataW.trod enc Tryz.prog W 0 sp held fuel 70 cs = some x) :
  ∃ y : OpsV, cs = [.slice y.ad y.l.length y.cap] /\ opsAt y.ad y.l W := by
 obtain ⟨ad, cap, l, h1, h2, h3, h4, h5⟩ := ops_list_trod (fun y : OpI => [.string y.kind, .int .i64 y.n]) 2 (by decide) (fun _ => True) Tryz.underlying70 ccells_Op (fun _ => rfl) (fun n cs x h => op_of_trod h) h
 refine ⟨⟨ad, cap, l⟩, h1, fun i x hx => ?_⟩
 obtain ⟨b, off, e, hc, -⟩ := h2 i x hx
 exact ⟨b, off, e, hc 0 (by decide), hc 1 (by decide)⟩
theorem oprows_of_trod {H : Type} {enc : TypeId × Value -> H} {W : World} {fuel : Nat} {sp : Nat -> Bool} {held : Bool} {cs : List Value} {x : DataW H × List MemPlace} (h : DataW.trod enc Tryz.prog W 0 sp held fuel 22 cs = some x) :
  ∃ (ad : Option Addr) (cap : Nat) (cl : List (List OpI)), cs = [.slice ad cl.length cap] /\ opRowsAt ad cl W := by
 obtain ⟨ad, cap, l, h1, h2, h3, h4, h5⟩ := ops_list_trod (fun y : OpsV => [.slice y.ad y.l.length y.cap]) 1 (by decide) (fun y => opsAt y.ad y.l W) Tryz.underlying22 ccells_os (fun _ => rfl) (fun n cs x h => ops_of_trod h) h
 refine ⟨ad, cap, l.map OpsV.l, by rw [List.length_map]; exact h1, fun i row hr => ?_⟩
 rw [List.getElem?_map] at hr
 cases hy : l[i]? with
 | none => rw [hy] at hr; cases hr
 | some y =>
  rw [hy] at hr
  cases hr
  obtain ⟨b, off, e, hc, hq⟩ := h2 i y hy
  have := hc 0 (by decide)
  rw [Nat.mul_one, Nat.add_zero] at this
  exact ⟨b, off, y.ad, y.cap, e, this, hq⟩
end
section
open Go.RowKit
def stageq (f q : Nat) : Nat :=
 if f = 3 then (if q <= 5 then 0 else if q = 6 then 1 else if q = 7 then 2 else if q = 8 then 3 else if q = 9 then 4 else if q = 10 then 5 else if q = 11 then 6 else if q = 12 then 7 else if q = 13 then 12 else if q = 14 then 13 else if q = 15 then 14 else if q = 16 then 15 else 16)
 else if f = 2 then (if q <= 13 then q else q - 1)
 else q
theorem qlive_mem {m m' : Mk} (e : m'.mem = m.mem) {c : Nat} (h : Live m c) : Live m' c := ⟨by rw [e]; exact h.lt, by rw [e]; exact h.there, by rw [e]; exact h.given, by rw [e]; exact h.small⟩
theorem qrf_mem {m m' : Mk} (e : m'.mem = m.mem) (c : Nat) : rf m' c = rf m c := by unfold rf; rw [e]
theorem qgn_mem {m m' : Mk} (e : m'.mem = m.mem) (c : Nat) : gn m' c = gn m c := by unfold gn; rw [e]
theorem qvw_mem {m m' : Mk} (e : m'.mem = m.mem) (u c : Nat) (g : Int) (k : Nat) : vw m' u c g k = vw m u c g k := by unfold vw; rw [e]
def rgq (m : Mk) (t r : Nat) (v : Int) : Nat -> Int := fun j => if j = r then v else m.regs t j
theorem rgq_regs (m : Mk) (t r : Nat) (v : Int) : (m.setReg t r v).regs t = rgq m t r v := by
 funext j
 exact setReg_reg m t r v j
theorem reg3q {u : Nat} (m : Mk) (t r : Nat) (v : Int) (hu : u ≠ t) : (m.setReg t r v).regs u = m.regs u := setReg_other _ _ _ _ hu
theorem stageq_zero (f : Nat) : stageq f 0 = 0 := by
 unfold stageq
 by_cases h : f = 3
 ·rw [if_pos h]; rfl
 ·rw [if_neg h]
  by_cases h2 : f = 2
  ·rw [if_pos h2]; rfl
  ·rw [if_neg h2]
theorem qExec_pc (m : Mk) (t : Nat) (i : GI) : (gExec m t i).pc = m.pc := by
 cases i with
 | load r a k => show (m.load _ _ _ _).pc = _; unfold Mk.load; split <;> rfl
 | store a r k =>
  show (m.store _ _ _ _).pc = _
  unfold Mk.store
  split
  ·exact (room_regs m t).2
  ·rfl
 | swap r a k => show (m.swap _ _ _ _ _).pc = _; unfold Mk.swap; split <;> rfl
 | cas a r k => show (m.cas _ _ _ _ _ _).pc = _; unfold Mk.cas; split <;> rfl
 | force => exact (fenceFrom_regs _ m 0).2
 | alloc r => show (m.alloc _ _).pc = _; unfold Mk.alloc; split <;> rfl
 | free r => show (m.free _ _).pc = _; unfold Mk.free; split <;> rfl
 | need r => show (m.need _).pc = _; unfold Mk.need; split <;> rfl
 | _ => rfl
theorem qAt_lt {s : List GI} {l : Nat} (h : (gLab l s 0).isSome = true) : gAt l s < s.length := by
 obtain ⟨j, hj⟩ := Option.isSome_iff_exists.1 h
 unfold gAt
 rw [hj]
 have := (gLab_at hj).2.1
 rw [Nat.sub_zero] at this
 exact (List.getElem?_eq_some_iff.1 this).1
theorem qNext_le {s : List GI} {q : Nat} {i : GI} (r : Nat -> Int) (hs : gOk s = true) (hq : s[q]? = some i) : gNext s q r i <= s.length := by
 have hlt := (List.getElem?_eq_some_iff.1 hq).1
 have hi := List.all_eq_true.1 hs i (List.mem_of_getElem? hq)
 cases i with
 | zero a l =>
  simp only [Bool.and_eq_true] at hi
  have := qAt_lt hi.2
  show (if r a = 0 then gAt l s else q + 1) <= _
  split <;> omega
 | same a b l =>
  simp only [Bool.and_eq_true] at hi
  have := qAt_lt hi.2
  show (if r a = r b then gAt l s else q + 1) <= _
  split <;> omega
 | goto l =>
  simp only [Bool.and_eq_true] at hi
  exact Nat.le_of_lt (qAt_lt hi.2)
 | _ => exact hlt
inductive Tq
 | enter | leave | rest | gone | wait | read | put (v : Int) | drop | later | empty
deriving DecidableEq
def tqCode (f : Nat) : Tq -> List GI
 | .enter => gEnter f
 | .leave => gLeave f
 | .rest => gRest f
 | .gone => gGone f
 | .wait => gWait f
 | .read => [.load 0 5 0, .load 0 0 0, .need 0, .label 9]
 | .put v => [.alloc 3, .zero 3 0, .const 0 v, .store 3 0 0, .swap 3 5 0, .label 0]
 | .drop => [.zero 3 0, .free 3, .label 0]
 | .later => [.zero 3 0, .store 3 4 1, .move 4 3, .label 0]
 | .empty => [.label 1, .zero 4 0, .load 0 4 1, .free 4, .move 4 0, .goto 1, .label 0]
def hExec (m : Mk) (t : Nat) (tg : Tq) (q : Nat) (i : GI) : Mk := if tg = .read /\ q = 3 then m.mark t (m.regs t 0) else gExec m t i
structure Pq where
 tg : Tq
 q : Nat
 d : Nat
structure Fl where
 r : Bool
 w : Bool
 k : Bool
structure Gq where
 pt : Nat -> Option Pq
 old : Nat -> Nat -> Bool
 ch : List Nat
 pp : Nat
 nd : Nat -> Option Nat
 ls : Nat -> List Nat
 fl : Nat -> Fl
 val : Int -> Prop
def Bq (f : Nat) (J : Prop) (t d : Nat) (V : Nat -> Int) : Prop :=
 (f = 3 -> V 0 % 2 = 1) /\ (f ≠ 3 -> (d = 0 -> V 0 = 0 /\ V 2 = 0) /\ (0 < d -> V 0 ≠ 0 /\ V 2 = (d : Int) - 1)) /\ (f = 4 -> (J -> V 3 = (t : Int) + 4) /\ (¬ J -> V 3 = 0 /\ d = 0))
def Nq (J : Prop) (d : Nat) (V : Nat -> Int) : Prop := d = 0 /\ V 0 = 0 /\ V 2 = 0 /\ ¬ J
def Leq (f : Nat) (J : Prop) (t d : Nat) (V r : Nat -> Int) : Nat -> Prop
 | 0 => Bq f J t d V
 | 1 => Bq f J t d V /\ r 0 = V 0
 | 2 => Bq f J t d V /\ 0 < d
 | 3 => Bq f J t d V /\ 0 < d /\ r 0 = V 2
 | 4 => Bq f J t d V /\ 0 < d /\ r 0 = V 2 /\ r 1 = 1
 | 5 => Bq f J t d V /\ 0 < d /\ r 0 = V 2 + 1
 | 6 => Bq f J t (d + 1) V
 | 7 => Bq f J t d V /\ d = 0
 | q => if f = 4 then
   match q with
   | 8 => Bq f J t d V /\ d = 0
   | 9 => Bq f J t d V /\ d = 0 /\ r 0 = V 3
   | 10 => Nq J d V
   | 11 => Nq J d V
   | 12 => Nq J d V
   | 13 => Nq J d V /\ r 1 = (t : Int) + 4
   | 14 => Nq J d V /\ r 1 = (t : Int) + 4 /\ V 3 = (t : Int) + 4
   | 15 => Nq J d V /\ r 1 = (t : Int) + 4 /\ V 3 = (t : Int) + 4 /\ V 1 = r 0
   | 16 => d = 0 /\ V 0 = 0 /\ V 2 = 0 /\ V 3 = (t : Int) + 4 /\ (J /\ V 1 = r 0 ∨ ¬ J /\ V 1 ≠ r 0)
   | 17 => d = 0 /\ V 0 = 0 /\ V 2 = 0 /\ V 3 = (t : Int) + 4 /\ (J /\ r 0 = r 1 ∨ ¬ J /\ r 0 ≠ r 1)
   | 18 => Nq J d V
   | 19 => Bq f J t d V /\ d = 0 /\ J
   | 20 => Bq f J t d V /\ d = 0 /\ J
   | 21 => Bq f J t d V /\ d = 0 /\ J /\ r 0 ≠ 0
   | _ => Bq f J t (d + 1) V
  else
   match q with
   | 8 => Bq f J t d V /\ d = 0
   | 9 => Bq f J t d V /\ d = 0 /\ r 0 ≠ 0
   | _ => Bq f J t (d + 1) V
def Llq (f : Nat) (J : Prop) (t d : Nat) (V r : Nat -> Int) : Nat -> Prop
 | 0 => Bq f J t d V /\ 0 < d
 | 1 => Bq f J t d V /\ 0 < d /\ r 0 = V 2
 | 2 => Bq f J t d V /\ 1 < d
 | 3 => Bq f J t d V /\ 1 < d /\ r 0 = V 2
 | 4 => Bq f J t d V /\ 1 < d /\ r 0 = V 2 /\ r 1 = 1
 | 5 => Bq f J t d V /\ 1 < d /\ r 0 = V 2 - 1
 | 6 => Bq f J t (d - 1) V /\ 1 < d
 | 7 => Bq f J t d V /\ d = 1 /\ r 0 = 0
 | 8 => Bq f J t d V /\ d = 1 /\ r 0 = 0
 | _ => Bq f J t (d - 1) V
def Lrq (V r : Nat -> Int) : Nat -> Prop
 | 0 => V 0 % 2 = 1
 | 1 => V 0 % 2 = 1
 | 2 => V 0 % 2 = 1 /\ r 0 = V 0
 | 3 => V 0 % 2 = 1 /\ r 0 = V 0
 | 4 => V 0 % 2 = 1 /\ r 0 = V 0 /\ r 1 = 2
 | 5 => V 0 % 2 = 1 /\ r 0 % 2 = 1
 | _ => V 0 % 2 = 1
def Lgq (V r : Nat -> Int) : Nat -> Prop
 | 0 => V 0 % 2 = 1
 | 1 => V 0 % 2 = 1
 | 2 => V 0 % 2 = 1 /\ r 0 = 0
 | _ => V 0 = 0
def Lwq (V r : Nat -> Int) : Nat -> Prop
 | 0 => V 0 % 2 = 1
 | 1 => V 0 % 2 = 1
 | 2 => V 0 % 2 = 1 /\ r 0 = 0
 | 3 => V 0 = 0 /\ r 0 % 2 = 1
 | 20 => V 0 = 0 /\ V 3 % 2 = 1 /\ r 0 = V 3
 | 21 => V 0 = 0 /\ V 3 % 2 = 1 /\ r 0 = V 3
 | 22 => V 0 = 0 /\ V 3 % 2 = 1 /\ r 0 = V 3 /\ r 1 = 2
 | 23 => V 0 = 0 /\ r 0 % 2 = 1
 | 24 => V 0 % 2 = 1
 | 25 => V 0 % 2 = 1
 | _ => V 0 = 0 /\ V 3 % 2 = 1
def Cuq (C : List Nat) (O : Nat -> Prop) (r : Nat -> Int) (P : Nat -> Prop) : Prop := ∃ i u : Nat, C[i]? = some u /\ r 2 = (u : Int) + 4 /\ (∀ t, O t -> ∃ j, j <= i /\ C[j]? = some t) /\ (O u -> P u)
def Scq (C : List Nat) (O : Nat -> Prop) (s r : Nat -> Int) : Nat -> Prop
 | 0 => ∀ t, ¬ O t
 | 1 => ∀ t, O t -> t ∈ C
 | 2 => (r 2 = 3 /\ ∀ t, O t -> t ∈ C) ∨ Cuq C O r (fun _ => False)
 | 3 => (r 2 = 3 /\ ∀ t, O t -> t ∈ C) ∨ Cuq C O r (fun _ => False)
 | 4 => (r 2 = 0 /\ ∀ t, ¬ O t) ∨ Cuq C O r (fun _ => True)
 | 5 => Cuq C O r (fun _ => True)
 | 6 => Cuq C O r (fun u => r 0 = s u)
 | 7 => Cuq C O r (fun u => r 0 = s u)
 | 8 => r 1 = 2 /\ Cuq C O r (fun u => r 0 = s u)
 | 9 => r 1 = (2 + r 0) % 4294967296 /\ Cuq C O r (fun u => r 0 = s u)
 | 10 => Cuq C O r (fun u => r 1 = (2 + s u) % 4294967296)
 | 11 => r 0 = 2 /\ Cuq C O r (fun u => r 1 = (2 + s u) % 4294967296)
 | 12 => Cuq C O r (fun u => r 1 = s u)
 | 13 => Cuq C O r (fun u => r 1 = s u)
 | 14 => Cuq C O r (fun u => r 1 = s u /\ r 0 = s u)
 | 15 => Cuq C O r (fun _ => False)
 | _ => ∀ t, ¬ O t
def Lq (f : Nat) (C : List Nat) (O : Nat -> Prop) (s : Nat -> Int) (t : Nat) (V r : Nat -> Int) : Option Pq -> Prop
 | none => f ≠ 3 -> Bq f (t ∈ C) t 0 V
 | some ⟨.enter, q, d⟩ => f ≠ 3 /\ Leq f (t ∈ C) t d V r q
 | some ⟨.leave, q, d⟩ => f ≠ 3 /\ Llq f (t ∈ C) t d V r q
 | some ⟨.rest, q, _⟩ => f = 3 /\ Lrq V r q
 | some ⟨.gone, q, _⟩ => f = 3 /\ Lgq V r q
 | some ⟨.wait, q, d⟩ => d = 0 /\ (f = 3 -> Lwq V r q) /\ (f ≠ 3 -> Bq f (t ∈ C) t 0 V) /\ Scq C O s r (stageq f q)
 | some ⟨.read, _, d⟩ => Bq f (t ∈ C) t d V /\ 0 < d
 | some ⟨.put _, _, d⟩ => Bq f (t ∈ C) t d V /\ d = 0
 | some ⟨_, _, d⟩ => Bq f (t ∈ C) t d V
def ovq (m : Mk) (t k : Nat) : Int := vw m t (t + 3) 0 k
def shq (m : Mk) (u : Nat) : Int := m.mem.ar.words (u + 3) 0
def Olq (G : Gq) (w t : Nat) : Prop := G.old w t = true
def Dc (n c : Nat) : Prop := c = 0 ∨ n + 3 <= c
structure QI (f n : Nat) (G : Gq) (m : Mk) : Prop where
 fl : 1 <= f /\ f <= 4
 few : n <= 6
 thr : m.mem.threads = n
 here : ∀ c, 1 <= c -> c <= n + 2 -> Live m c /\ m.mem.ar.given c = 1
 r5 : ∀ t, t < n -> m.regs t 5 = 2
 r6 : ∀ t, t < n -> m.regs t 6 = (t : Int) + 4
 r7 : ∀ t, t < n -> m.regs t 7 = 3
 hub : m.mem.ar.words 2 0 % 2 = 1
 wts : ∀ t, t < n -> ∀ x ∈ m.mem.waits t, (0 <= x.c /\ 0 <= x.w) /\ (x.c = (t : Int) + 3 /\ x.g = 0 /\ (f ≠ 2 -> x.w ≠ 0) /\ (x.w = 1 -> f = 4 /\ t ∉ G.ch) ∨ (x.c = 0 ∨ (n : Int) + 3 <= x.c))
 chn : G.ch.Nodup
 chl : ∀ t ∈ G.ch, t < n
 chf : f ≠ 4 -> ∀ t, t < n -> t ∈ G.ch
 chh : m.mem.ar.words 2 1 = match G.ch.getLast? with | none => 0 | some u => (u : Int) + 4
 chw : ∀ (i u : Nat), G.ch[i]? = some u -> m.mem.ar.words (u + 3) 1 = match i with | 0 => 0 | j + 1 => match G.ch[j]? with | none => 0 | some v => (v : Int) + 4
 la : ∀ t, t < n -> Lq f G.ch (Olq G t) (shq m) t (ovq m t) (m.regs t) (G.pt t)
 old : ∀ w t, w < n -> Olq G w t -> t < n /\ (∃ q d, G.pt w = some ⟨.wait, q, d⟩) /\ ovq m t 0 ≠ 0 /\ ∀ x ∈ m.mem.waits t, x.c = (t : Int) + 3 -> x.w ≠ 0
def ow (G : Gq) (w : Nat) : List Nat := (G.nd w).toList ++ G.ls w
def hdn (m : Mk) : List Nat -> Int
 | [] => 0
 | c :: _ => rf m c
def Lkq (m : Mk) (w : Nat) : List Nat -> Prop
 | [] => True
 | c :: l => vw m w c (gn m c) 1 = hdn m l /\ Lkq m w l
def rtd : Option Pq -> Prop
 | some ⟨.put _, q, _⟩ => 5 <= q
 | _ => True
def Ret (G : Gq) (w c : Nat) : Prop := c ∈ G.ls w ∨ (G.nd w = some c /\ rtd (G.pt w))
def An (f : Nat) (G : Gq) (w c : Nat) : Prop := match G.pt w with
 | some ⟨.wait, q, _⟩ => stageq f q = 0
 | some ⟨.empty, _, _⟩ => False
 | _ => c ∈ G.ls w ∨ (G.fl w).w = false
def rdq : Option Pq -> Prop
 | some ⟨.read, q, _⟩ => q = 1
 | _ => False
def NR (m : Mk) (w : Nat) (nd : Option Nat) : Prop := (nd = none /\ m.regs w 3 = 0) ∨ ∃ c, nd = some c /\ m.regs w 3 = rf m c
def NS (m : Mk) (w : Nat) (nd : Option Nat) : Prop := ∃ c, nd = some c /\ m.regs w 3 = rf m c
def Nf (m : Mk) (w : Nat) (nd : Option Nat) (r : Bool) : Prop := (r = true -> NR m w nd) /\ (r = false -> nd = none)
def Lc (V : Int -> Prop) (m : Mk) (w : Nat) (nd : Option Nat) (ls : List Nat) (r : Bool) : Option Pq -> Prop
 | some ⟨.put v, q, _⟩ => (V v /\ m.regs w 4 = hdn m ls) /\ match q with
  | 0 => nd = none
  | 1 => NR m w nd
  | 2 => NS m w nd
  | 3 => NS m w nd /\ m.regs w 0 = v
  | 4 => ∃ c, nd = some c /\ m.regs w 3 = rf m c /\ V (vw m w c (gn m c) 0)
  | _ => NR m w nd
 | some ⟨.drop, q, _⟩ => m.regs w 4 = hdn m ls /\ match q with
  | 0 => NR m w nd
  | 1 => NS m w nd
  | _ => nd = none
 | some ⟨.later, q, _⟩ => m.regs w 4 = hdn m ls /\ match q with
  | 0 => NR m w nd
  | 1 => NS m w nd
  | 2 => ∃ c, nd = some c /\ m.regs w 3 = rf m c /\ vw m w c (gn m c) 1 = hdn m ls
  | _ => nd = none
 | some ⟨.read, q, _⟩ => (m.regs w 4 = hdn m ls /\ Nf m w nd r) /\ (q = 2 ∨ q = 3 -> V (m.regs w 0))
 | some ⟨.empty, q, _⟩ => Nf m w nd r /\ match q with
  | 2 => m.regs w 4 = hdn m ls /\ ls ≠ []
  | 3 => m.regs w 4 = hdn m ls /\ ∃ c l, ls = c :: l /\ m.regs w 0 = hdn m l
  | 4 => m.regs w 0 = hdn m ls
  | 6 => m.regs w 4 = hdn m ls /\ ls = []
  | 7 => m.regs w 4 = hdn m ls /\ ls = []
  | _ => m.regs w 4 = hdn m ls
 | _ => m.regs w 4 = hdn m ls /\ Nf m w nd r
structure CI (f n : Nat) (G : Gq) (m : Mk) : Prop where
 size : m.mem.ar.size = 64
 pub : (Dc n G.pp /\ Live m G.pp) /\ m.mem.ar.words 1 0 = rf m G.pp /\ G.val (m.mem.ar.words G.pp 0)
 own : ∀ w, w < n -> ∀ c ∈ ow G w, (Dc n c /\ Live m c) /\ c ≠ G.pp
 nod : ∀ w, w < n -> (ow G w).Nodup
 apart : ∀ w u, w < n -> u < n -> w ≠ u -> ∀ c ∈ ow G w, c ∉ ow G u
 wts : ∀ t, t < n -> ∀ x ∈ m.mem.waits t, (x.c = 0 ∨ (n : Int) + 3 <= x.c) -> ∃ c ∈ ow G t, x.c = (c : Int) /\ x.g = gn m c /\ (x.w = 1 ∨ x.w = 0 /\ G.val x.v)
 ret : ∀ w, w < n -> ∀ c, Ret G w c -> G.val (m.mem.ar.words c 0)
 lst : ∀ w, w < n -> Lkq m w (G.ls w)
 kep : ∀ w, w < n -> (G.fl w).k = false -> G.ls w = []
 loc : ∀ w, w < n -> Lc G.val m w (G.nd w) (G.ls w) (G.fl w).r (G.pt w)
 hold : ∀ t, t < n -> rdq (G.pt t) -> m.regs t 0 = rf m G.pp ∨ ∃ w, w < n /\ ∃ c, Ret G w c /\ m.regs t 0 = rf m c /\ (An f G w c ∨ Olq G w t)
 live : ∀ c, Dc n c -> c < 64 -> m.mem.ar.there c = true -> c = G.pp ∨ ∃ w, w < n /\ c ∈ ow G w
 ok : m.faults = 0
 mks : ∀ x ∈ m.marks, G.val x.2
 nz : ¬ G.val 0
def QD (f n : Nat) (G : Gq) (m : Mk) : Prop := QI f n G m /\ CI f n G m
end
end Go.Proofs.YtaiigfcfmcicjaaGreatDoor
