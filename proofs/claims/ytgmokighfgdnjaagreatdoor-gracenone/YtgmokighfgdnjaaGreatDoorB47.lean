import Derived.Test.YtgmokighfgdnjaaGreatDoorB43
import Derived.Test.YtgmokighfgdnjaaGreatDoorB44
import Derived.Test.YtgmokighfgdnjaaGreatDoorB46
import Derived.Test.YtgmokighfgdnjaaGreatDoorB13

/- GeA -/
namespace Go.Proofs.YtgmokighfgdnjaaGreatDoor
open Go.RowKit Go.Extern.Stop Go.Stop Go.Extern Go.Maps Go.WideMaps Go.Sort

structure CP (base : Nat) (w1 : World) (v : Value) (vs : List Value) (Ls : List (List Ins)) (w : World) : Prop where
  own : w.ownsRow base 24 1 v Ls.length vs
  el : ∀ (i : Nat) L, Ls[i]? = some L → ∃ u, vs[i]? = some u ∧ insOwn w base u L ∧ ∀ b, u.ownBlock = some b → v.ownBlock ≠ some b
  low : Below base w1 w
  bz : base ≤ w.heap.size
section
variable {base : Nat} {w1 : World} {v : Value} {vs : List Value} {Ls : List (List Ins)} {w w' : World}
theorem CP.nil (h : Below base w1 w) (hb : base ≤ w.heap.size) : CP base w1 (.slice none 0 0) [] [] w := ⟨World.ownsRow_nil _ _ _ _, fun i L hi => by simp at hi, h, hb⟩
theorem CP.below (h : CP base w1 v vs Ls w) (k : Below w.heap.size w w') : CP base w1 v vs Ls w' :=
  ⟨ownsRow_block h.own (fun b hb => k.block b (h.own.lt b hb).2), fun i L hi => by obtain ⟨u, h1, h2, h3⟩ := h.el i L hi; exact ⟨u, h1, insOwn_keep h2 k, h3⟩, h.low.trans (k.mono h.bz), Nat.le_trans h.bz k.size⟩
theorem CP.add (h : CP base w1 v vs Ls w) {u : Value} {L : List Ins} (hu : insOwn w base u L) (hne : ∀ b, u.ownBlock = some b → v.ownBlock ≠ some b) {v' : Value} {N : Nat} (hN : w.heap.size ≤ N)
    (ho : w'.ownsRow base 24 1 v' (Ls.length + 1) (vs ++ [u])) (hg : w.grownBy w' v.ownBlock) (hloc : v'.ownBlock = v.ownBlock ∨ v'.ownBlock = some N) : CP base w1 v' (vs ++ [u]) (Ls ++ [L]) w' := by
  have hB : Below base w w' := (Below.refl base w).grown hg h.bz (fun k hk => (h.own.lt k hk).1)
  have nb : ∀ b, b < w.heap.size → v.ownBlock ≠ some b → v'.ownBlock ≠ some b := fun b hb hne e => by
    rcases hloc with h1 | h1
    · rw [h1] at e; exact hne e
    · rw [h1] at e
      have := Option.some.inj e
      omega
  have kn : ∀ {u : Value} {L : List Ins}, insOwn w base u L → (∀ b, u.ownBlock = some b → v.ownBlock ≠ some b) → insOwn w' base u L ∧ ∀ b, u.ownBlock = some b → v'.ownBlock ≠ some b := fun {u L} h1 h2 => by
    refine ⟨insOwn_kept h1 hg ?_, fun b e => nb b (World.ownsRow.lt h1 b e).2 (h2 b e)⟩
    cases hr : u.ownBlock with
    | none => exact .inl rfl
    | some b => exact .inr fun e => h2 b hr e.symm
  have lv : vs.length = Ls.length := by have := h.own.1; omega
  refine ⟨by rw [List.length_append]; exact ho, fun i M hi => ?_, h.low.trans hB, Nat.le_trans h.bz hB.size⟩
  by_cases hlt : i < Ls.length
  · rw [List.getElem?_append_left hlt] at hi
    obtain ⟨x, h1, h2, h3⟩ := h.el i M hi
    exact ⟨x, by rw [List.getElem?_append_left (by omega)]; exact h1, (kn h2 h3).1, (kn h2 h3).2⟩
  · rw [List.getElem?_append_right (by omega)] at hi
    have hi0 : i - Ls.length = 0 := by
      have := (List.getElem?_eq_some_iff.1 hi).1
      simp at this; omega
    rw [hi0] at hi
    cases hi
    exact ⟨u, by rw [List.getElem?_append_right (by omega), lv, hi0]; rfl, (kn hu hne).1, (kn hu hne).2⟩
theorem CP.codes (h : CP base w1 v vs Ls w) : ∃ ad cap, v = .slice ad Ls.length cap ∧ codesAt ad Ls w := by
  obtain ⟨ad, cap, e2, g1, g2, g3⟩ := ownsRow_shape h.own
  refine ⟨ad, cap, e2, fun t L ht => ?_⟩
  obtain ⟨u, h1, h2, -⟩ := h.el t L ht
  obtain ⟨g, eg, cg⟩ := g3 t u h1
  obtain ⟨adl, capl, eu, k1, k2, k3⟩ := insAt_of_icells h2
  refine ⟨g, 0, adl, capl, eg, by rw [Nat.zero_add, cg, eu], k1, k3, fun en => ?_⟩
  rcases h2.2 with ⟨e4, e5⟩ | ⟨gg, cc, cur, e4, _⟩
  · exact List.length_eq_zero_iff.1 e5
  · rw [eu] at e4
    cases e4
    cases en
end

theorem writer_ok {f : Nat} (hf : 1 ≤ f ∧ f ≤ 4) (wt : Bool) (tm : Nat) (htm : tm ≤ 3) (rd : Nat) (ns : Bool) (w : World) :
    Calls Tryz.prog 37 #[.int .i64 f, .int .i64 tm, .bool wt] w fun e w' => ∃ v, e = .returned (.tuple #[v, .bool true]) ∧ insOwn w' w.heap.size v (Cs.code f wt ⟨true, tm, rd, ns⟩) ∧ Below w.heap.size w w' := by
  cases wt
  · exact writer_false hf tm htm rd ns w
  · exact writer_true hf tm htm rd ns w
theorem reader_ok {f : Nat} (hf : 1 ≤ f ∧ f ≤ 4) (wt : Bool) (tm : Nat) (htm : tm ≤ 3) (rd : Nat) (hrd : rd ≤ 5) (ns : Bool) (w : World) :
    Calls Tryz.prog 38 #[.int .i64 f, .int .i64 tm, .int .i64 rd, .bool ns] w fun e w' => ∃ v, e = .returned (.tuple #[v, .bool true]) ∧ insOwn w' w.heap.size v (Cs.code f wt ⟨false, tm, rd, ns⟩) ∧ Below w.heap.size w w' := by
  rw [Cs.code_r f wt true]
  cases ns
  · exact reader_false hf tm htm rd hrd w
  · exact reader_true hf tm htm rd hrd w

theorem gcFault {f : Nat} (hf : 1 ≤ f ∧ f ≤ 4) (wt : Bool) {cast : List Cs} (h : ∀ c ∈ cast, c.ok) (h1 : 1 ≤ cast.length) (h6 : cast.length ≤ 6) : (gcSta f cast.length).fault (cast.map (Cs.code f wt)) = (0, -1) := by
  unfold Sta.fault
  rw [List.length_map, if_pos ⟨(by show (1 : Int) ≤ 30; decide), (by show (30 : Int) ≤ 64; decide), h1, h6, gc_fits h1 h6 hf⟩]
  refine codesFrom_none _ 0 fun t L ht => ?_
  rw [List.getElem?_map] at ht
  cases hc : cast[t]? with
  | none => rw [hc] at ht; cases ht
  | some c => rw [hc] at ht; cases ht; rw [Cs.good hf wt (h c (List.mem_of_getElem? hc))]
theorem gcSta_init (f n : Nat) : (gcSta f n).init.length = n + 3 := gcInit_len f n
theorem gcSta_regs (f n : Nat) : (gcSta f n).regs.length = n := by show ((List.range n).map (gcRegs n)).length = n; simp
theorem gcStart_ok {f : Nat} (hf : 1 ≤ f ∧ f ≤ 4) (wt : Bool) {cast : List Cs} (h : ∀ c ∈ cast, c.ok) {n : Nat} (hn : cast.length = n) (h1 : 1 ≤ n) (h6 : n ≤ 6) {ai ar ad : Option Addr} {ci cr cap : Nat} {w : World} (hs : StaAt (gcSta f n) ⟨ai, ci, ar, cr⟩ w) (hl : codesAt ad (cast.map (Cs.code f wt)) w) :
    Calls Tryz.prog 39 #[.agg #[.int .i64 30, .slice ai (n + 3) ci, .slice ar n cr], .slice ad n cap] w fun e w' => e = .returned (.agg #[.int .i64 0, .int .i64 (-1)]) ∧ Below w.heap.size w w' := by
  subst hn
  have h := startFault_any (cap := cap) hs hl (by rw [List.length_map]; omega)
  rw [gcFault hf wt ‹_› h1 h6, gcSta_init, gcSta_regs, List.length_map] at h
  exact h
theorem gcNew {f : Nat} (hf : 1 ≤ f ∧ f ≤ 4) (wt : Bool) {cast : List Cs} (h : ∀ c ∈ cast, c.ok) {n : Nat} (hn : cast.length = n) (h1 : 1 ≤ n) (h6 : n ≤ 6) {ai ar ad : Option Addr} {ci cr cap : Nat} {w0 w : World} (h0 : Below w0.heap.size w0 w) (hs : StaAt (gcSta f n) ⟨ai, ci, ar, cr⟩ w) (hl : codesAt ad (cast.map (Cs.code f wt)) w0) :
    Calls Tryz.prog 40 #[.agg #[.int .i64 30, .slice ai (n + 3) ci, .slice ar n cr], .slice ad n cap] w fun e w' => ∃ p : RkPl, e = .returned (.pointer (some ⟨p.k, 0, none⟩)) ∧ Hid (RkX (cast.map (Cs.code f wt)) p (gcM f n) 1 w' ∧ Below w.heap.size w w' ∧ ∀ b, p.fp n (gcM f n).mem b → w.heap.size ≤ b) := by
  subst hn
  have hl' : (cast.map (Cs.code f wt)).length = cast.length := List.length_map _
  have h' := newMachine_any (cap := cap) h0 hs hl (show (1 : Int) ≤ 30 by decide) (show (30 : Int) ≤ 64 by decide) (by rw [hl']; exact h1) (by rw [hl']; exact h6) (by rw [hl']; exact gc_fits h1 h6 hf)
  rw [gcSta_init, gcSta_regs, hl'] at h'
  refine h'.mono ?_
  rintro e w' ⟨p, he, hh⟩
  obtain ⟨g1, -, g3, g4⟩ := hh.out
  exact ⟨p, he, hide ⟨⟨g1, by rw [hl']; exact gc_ok h1 h6 hf, casts_right hf wt h h1 h6, by decide⟩, g3, g4⟩⟩
end Go.Proofs.YtgmokighfgdnjaaGreatDoor

/- GeB -/
namespace Go.Proofs.YtgmokighfgdnjaaGreatDoor
open Go.RowKit Go.Extern.Stop Go.Stop Go.Extern Go.Maps Go.WideMaps Go.Sort

def Cs.toI (c : Cs) : CsI := ⟨c.w, c.tm, c.rd, c.ns⟩
set_option maxRecDepth 20000 in
set_option maxHeartbeats 4000000 in
theorem played_ok {f : Nat} (hf : 1 ≤ f ∧ f ≤ 4) (wt : Bool) (cast : List Cs) (hok : ∀ c ∈ cast, c.ok) (n : Nat) (hn : cast.length = n) (h1 : 1 ≤ n) (h4 : n ≤ 4) (ad : Option Addr) (cap : Nat) (w : World) (hl : castsAt ad (cast.map Cs.toI) w) :
    Calls Tryz.prog 20 #[.int .i64 f, .slice ad n cap, .bool wt] w fun e w' => ∃ p : RkPl, e = .returned (.tuple #[.pointer (some ⟨p.k, 0, none⟩), .bool true]) ∧ Hid (RkX (cast.map (Cs.code f wt)) p (gcM f n) 1 w' ∧ Below w.heap.size w w' ∧ ∀ b, p.fp n (gcM f n).mem b → w.heap.size ≤ b) := by
  have h6 : n ≤ 6 := Nat.le_trans h4 (by decide)
  have HWO := hide (world_ok hf n h1 h6 w)
  have HWR := hide (fun (tm : Nat) (h : tm ≤ 3) (rd : Nat) (ns : Bool) w => writer_ok hf wt tm h rd ns w)
  have HRD := hide (fun (tm : Nat) (h : tm ≤ 3) (rd : Nat) (hr : rd ≤ 5) (ns : Bool) w => reader_ok hf wt tm h rd hr ns w)
  have HSF : Hid (∀ {ai ar ad : Option Addr} {ci cr cap : Nat} {w : World} (hs : StaAt (gcSta f n) ⟨ai, ci, ar, cr⟩ w) (hl : codesAt ad (cast.map (Cs.code f wt)) w), Calls Tryz.prog 39 #[.agg #[.int .i64 30, .slice ai (n + 3) ci, .slice ar n cr], .slice ad n cap] w fun e w' => e = .returned (.agg #[.int .i64 0, .int .i64 (-1)]) ∧ Below w.heap.size w w') := hide fun hs hl => gcStart_ok hf wt hok hn h1 h6 hs hl
  have HNM : Hid (∀ {ai ar ad : Option Addr} {ci cr cap : Nat} {w0 w : World} (h0 : Below w0.heap.size w0 w) (hs : StaAt (gcSta f n) ⟨ai, ci, ar, cr⟩ w) (hl : codesAt ad (cast.map (Cs.code f wt)) w0), Calls Tryz.prog 40 #[.agg #[.int .i64 30, .slice ai (n + 3) ci, .slice ar n cr], .slice ad n cap] w fun e w' => ∃ p : RkPl, e = .returned (.pointer (some ⟨p.k, 0, none⟩)) ∧ Hid (RkX (cast.map (Cs.code f wt)) p (gcM f n) 1 w' ∧ Below w.heap.size w w' ∧ ∀ b, p.fp n (gcM f n).mem b → w.heap.size ≤ b)) := hide fun h0 hs hl => gcNew hf wt hok hn h1 h6 h0 hs hl
  have HL := hide hl
  have HOK := hide hok
  have HCN := hide hn
  have n4 : (n : Int) ≤ 4 := by omega
  have hfl := fun w => field_fault 0 (-1) w
  clear hl hf hok hn
  generalize hfi : (f : Int) = fi at *
  clear hfi
  go_enter Tryz.func20, Tryz.ntmps20
  go_wp2_with fail
  refine HWO.out.mono ?_
  rintro e w2 ⟨ai, ci, ar, cr, rfl, hst, hb2⟩
  have HST := hide (hst.below ((Below.refl _ _).alloc (Nat.le_refl _) (.cells #[.int .i64 30, .slice ai (n + 3) ci, .slice ar n cr] 75)))
  have HB3 : Hid (Below w.heap.size w (w2.alloc (.cells #[.int .i64 30, .slice ai (n + 3) ci, .slice ar n cr] 75))) := hide (hb2.alloc hb2.size _)
  have s0 := World.cell?_alloc_new w2 #[.int .i64 30, .slice ai (n + 3) ci, .slice ar n cr] 75 0
  have s1 := World.cell?_alloc_new w2 #[.int .i64 30, .slice ai (n + 3) ci, .slice ar n cr] 75 1
  have s2 := World.cell?_alloc_new w2 #[.int .i64 30, .slice ai (n + 3) ci, .slice ar n cr] 75 2
  have HSS := hide (And.intro s0 (And.intro s1 s2))
  clear HWO hst hb2 s0 s1 s2
  go_wp2_with fail
  generalize w2.alloc (.cells #[.int .i64 30, .slice ai (n + 3) ci, .slice ar n cr] 75) = w3 at *
  generalize w2.heap.size = sb at *
  have HP0 : Hid (CP w3.heap.size w3 (.slice none 0 0) [] ((cast.take 0).map (Cs.code f wt)) w3) := hide (CP.nil (Below.refl _ _) (Nat.le_refl _))
  go_loopw [10, 11, 12, 13] (fun v i _ _ wr => ∃ t : Nat, t ≤ n ∧ i = .int .i64 t ∧ Hid (∃ vs, CP w3.heap.size w3 v vs ((cast.take t).map (Cs.code f wt)) wr)) (fun _ i _ _ _ => n - (intOf i).toNat)
  case atStart => exact ⟨0, Nat.zero_le _, rfl, hide ⟨_, HP0.out⟩⟩
  case round =>
    clear HP0
    obtain ⟨t, ht, rfl, HP⟩ := hrel
    generalize u10 = v at *
    obtain ⟨vs, hP⟩ := HP.out
    by_cases hlt : t < n
    · have ti : (t : Int) < n := by omega
      have HP1 := hide hP
      obtain ⟨c, hct⟩ : ∃ c, cast[t]? = some c := ⟨_, List.getElem?_eq_getElem (by rw [HCN.out]; exact hlt)⟩
      have hc := hide hct
      obtain ⟨b, off, rfl, c0, c1, c2, c3⟩ := (HL.out.below (HB3.out.trans (hP.low.mono HB3.out.size))) t c.toI (by rw [List.getElem?_map, hct]; rfl)
      have hcok := HOK.out c (List.mem_of_getElem? hct)
      clear hP HP hct
      obtain ⟨cw, tm, rd, cn⟩ := c
      have htm : tm ≤ 3 := hcok.1
      have hrd : rd ≤ 5 := hcok.2
      have HCO := hide (And.intro htm hrd)
      clear hcok htm hrd
      change wr.cell? _ = some (.bool cw) at c0
      change wr.cell? _ = some (.int .i64 (tm : Int)) at c1
      change wr.cell? _ = some (.int .i64 (rd : Int)) at c2
      change wr.cell? _ = some (.bool cn) at c3
      obtain ⟨c, hcdef⟩ : ∃ c : Cs, c = ⟨cw, tm, rd, cn⟩ := ⟨_, rfl⟩
      cases cw with
      | true =>
        have HC := hide (fun w => HWR.out tm HCO.out.1 rd cn w)
        rw [← hcdef] at hc HC
        clear hcdef HCO
        go_wp2_with fail
        refine (HC.out _).mono ?_
        rintro e w5 ⟨u, rfl, hu, hb5⟩
        clear HC c0 c1 c2 c3
        obtain ⟨au, cu, rfl, -⟩ := insAt_of_icells hu
        have HU : Hid (insOwn w5 w3.heap.size (.slice au (Cs.code f wt c).length cu) (Cs.code f wt c)) := hide (insOwn_mono hu HP1.out.bz)
        have HNE : Hid (∀ b, (Value.slice au (Cs.code f wt c).length cu).ownBlock = some b → v.ownBlock ≠ some b) := hide fun b e e2 => by
          have h1 := (World.ownsRow.lt hu b e).1
          have h2 := (HP1.out.own.lt b e2).2
          omega
        have HP2 := hide (HP1.out.below hb5)
        have HSU : Hid (cast.take (t + 1) = cast.take t ++ [c]) := hide (by rw [List.take_add_one, hc.out]; rfl)
        clear hu hb5 HP1 hc
        generalize (Cs.code f wt c).length = ln at *
        obtain ⟨ric, hric, hrz, hrs, hrb⟩ := codesInfo
        have bel : Below w5.heap.size w5 (w5.alloc (.cells #[.slice au ln cu] 24)) := (Below.refl _ _).alloc (Nat.le_refl _) _
        obtain ⟨LC, HLC, hLC⟩ : ∃ LC, Hid (LC = ((cast.take t).map (Cs.code f wt)).length) ∧ LC ≤ 7 := ⟨_, hide rfl, by rw [List.length_map, List.length_take]; omega⟩
        go_wp2_with (at_builtin; refine wpList_append_own_at _ rfl _ _ 78 rfl w3.heap.size 24 ric (.slice none 0 0) 1 24 Tryz.underlying78 hric hrz hrs hrb rfl (by decide) v LC vs rfl ?p0 ⟨w5.heap.size, 0, none⟩ 1 1 [.slice au ln cu] rfl rfl ?p1 ?p2 ?p3 ?p4 ?p5 ?_)
        case p0 => rw [HLC.out]; exact (HP2.out.below bel).own
        try (case p1 =>
          intro k x hk
          cases k with
          | zero => cases hk; rw [Addr.add_lit]; simp
          | succ k => simp at hk)
        try (case p2 => first
          | rfl
          | (intro x hx
             obtain rfl : x = .slice au ln cu := by simpa using hx
             rfl))
        case p3 => unfold maxLen; omega
        case p4 => omega
        case p5 => have := HP2.out.bz; first | omega | (simp; omega)
        intro v' w6 ho hg hnil hloc
        have HP6 : Hid (CP w3.heap.size w3 v' (vs ++ [.slice au ln cu]) ((cast.take (t + 1)).map (Cs.code f wt)) w6) := hide (by
          rw [HSU.out, List.map_append]
          exact (HP2.out.below bel).add (insOwn_keep HU.out bel) HNE.out (N := w5.heap.size + 1) (by simp) (by rw [← HLC.out]; exact ho) hg hloc)
        clear ho hg hnil hloc HP2 HU HNE HSU bel HLC hLC hric hrz hrs hrb
        go_wp2_with fail
        go_roundw
        case rel => exact ⟨t + 1, by omega, by go_num, hide ⟨_, HP6.out⟩⟩
        case measure => simp [intOf]; omega
      | false =>
        have HC := hide (fun w => HRD.out tm HCO.out.1 rd HCO.out.2 cn w)
        rw [← hcdef] at hc HC
        clear hcdef HCO
        go_wp2_with fail
        have hHr : (wr.drew).cell? ⟨b, off + t * 4 + 1, none⟩ = some (.int .i64 (tm : Int)) ∧ (wr.drew).cell? ⟨b, off + t * 4 + 2, none⟩ = some (.int .i64 (rd : Int)) ∧ (wr.drew).cell? ⟨b, off + t * 4 + 3, none⟩ = some (.bool cn) := ⟨keep_cell (below_dN (Below.refl _ _) 1) c1, keep_cell (below_dN (Below.refl _ _) 1) c2, keep_cell (below_dN (Below.refl _ _) 1) c3⟩
        refine wp_region_F (S := (fun w' => w'.cell? ⟨b, off + t * 4 + 1, none⟩ = some (.int .i64 (tm : Int)) ∧ w'.cell? ⟨b, off + t * 4 + 2, none⟩ = some (.int .i64 (rd : Int)) ∧ w'.cell? ⟨b, off + t * 4 + 3, none⟩ = some (.bool cn))) (by kernel_rfl) hHr (fun hHeld => ?_)
        clear hHr
        refine' wpAnyF_take (i := 0) (n := 21) (v := _) rfl (by kernel_rfl) (fun _ _ _ h => h) (by assumption) (Or.inl ⟨by rfl, ?hy1⟩) ?rest1
        case' hy1 => (intro w' hSw; (try dsimp only at hSw); go_simp; try with_reducible rfl)
        try simp only [Act.put, List.getElem_toArray, List.getElem_cons_zero, List.setIfInBounds_toArray, List.set_cons_zero, List.set_cons_succ]
        refine' wpAnyF_take (i := 1) (n := 21) (v := _) rfl (by kernel_rfl) (fun _ _ _ h => h) (by assumption) (Or.inl ⟨by rfl, ?hy2⟩) ?rest2
        case' hy2 => (intro w' hSw; (try dsimp only at hSw); go_simp; try with_reducible rfl)
        try simp only [Act.put, List.getElem_toArray, List.getElem_cons_zero, List.getElem_cons_succ, List.setIfInBounds_toArray, List.set_cons_zero, List.set_cons_succ]
        refine' wpAnyF_take (i := 2) (n := 21) (v := _) rfl (by kernel_rfl) (fun _ _ _ h => h) (by assumption) (Or.inl ⟨by rfl, ?hy3⟩) ?rest3
        case' hy3 => (intro w' hSw; (try dsimp only at hSw); go_simp; try with_reducible rfl)
        try simp only [Act.put, List.getElem_toArray, List.getElem_cons_zero, List.getElem_cons_succ, List.setIfInBounds_toArray, List.set_cons_zero, List.set_cons_succ]
        refine' wpAnyF_take (i := 3) (n := 21) (v := _) rfl (by kernel_rfl) (fun _ _ _ h => h) (by assumption) (Or.inl ⟨by rfl, ?hy4⟩) ?rest4
        case' hy4 => (intro w' hSw; (try dsimp only at hSw); go_simp; try with_reducible rfl)
        try simp only [Act.put, List.getElem_toArray, List.getElem_cons_zero, List.getElem_cons_succ, List.setIfInBounds_toArray, List.set_cons_zero, List.set_cons_succ]
        refine' wpAnyF_take (i := 4) (n := 21) (v := _) rfl (by kernel_rfl) (fun _ _ _ h => h) (by assumption) (Or.inl ⟨by rfl, ?hy5⟩) ?rest5
        case' hy5 => (intro w' hSw; (try dsimp only at hSw); go_simp; try with_reducible rfl)
        try simp only [Act.put, List.getElem_toArray, List.getElem_cons_zero, List.getElem_cons_succ, List.setIfInBounds_toArray, List.set_cons_zero, List.set_cons_succ]
        refine' wpAnyF_take (i := 5) (n := 21) (v := _) rfl (by kernel_rfl) (fun _ _ _ h => h) (by assumption) (Or.inl ⟨by rfl, ?hy6⟩) ?rest6
        case' hy6 => (intro w' hSw; (try dsimp only at hSw); go_simp; try with_reducible rfl)
        try simp only [Act.put, List.getElem_toArray, List.getElem_cons_zero, List.getElem_cons_succ, List.setIfInBounds_toArray, List.set_cons_zero, List.set_cons_succ]
        refine' wpAnyF_take (i := 6) (n := 21) (v := _) rfl (by kernel_rfl) (fun _ _ _ h => h) (by assumption) (Or.inl ⟨by rfl, ?hy7⟩) ?rest7
        case' hy7 => (intro w' hSw; (try dsimp only at hSw); go_simp; try with_reducible rfl)
        try simp only [Act.put, List.getElem_toArray, List.getElem_cons_zero, List.getElem_cons_succ, List.setIfInBounds_toArray, List.set_cons_zero, List.set_cons_succ]
        refine' wpAnyF_take (i := 7) (n := 21) (v := _) rfl (by kernel_rfl) (fun _ _ _ h => h) (by assumption) (Or.inl ⟨by rfl, ?hy8⟩) ?rest8
        case' hy8 => (intro w' hSw; (try dsimp only at hSw); go_simp; try with_reducible rfl)
        try simp only [Act.put, List.getElem_toArray, List.getElem_cons_zero, List.getElem_cons_succ, List.setIfInBounds_toArray, List.set_cons_zero, List.set_cons_succ]
        refine' wpAnyF_take (i := 8) (n := 21) (v := _) rfl (by kernel_rfl) (fun _ _ _ h => h) (by assumption) (Or.inl ⟨by rfl, ?hy9⟩) ?rest9
        case' hy9 => (intro w' hSw; (try dsimp only at hSw); go_simp; try with_reducible rfl)
        try simp only [Act.put, List.getElem_toArray, List.getElem_cons_zero, List.getElem_cons_succ, List.setIfInBounds_toArray, List.set_cons_zero, List.set_cons_succ]
        refine' wpAnyF_take (i := 9) (n := 21) (v := _) rfl (by kernel_rfl) (fun _ _ _ h => h) (by assumption) (Or.inl ⟨by rfl, ?hy10⟩) ?rest10
        case' hy10 => (intro w' hSw; (try dsimp only at hSw); go_simp; try with_reducible rfl)
        try simp only [Act.put, List.getElem_toArray, List.getElem_cons_zero, List.getElem_cons_succ, List.setIfInBounds_toArray, List.set_cons_zero, List.set_cons_succ]
        refine' wpAnyF_take (i := 10) (n := 21) (v := _) rfl (by kernel_rfl) (fun _ _ _ h => h) (by assumption) (Or.inl ⟨by rfl, ?hy11⟩) ?rest11
        case' hy11 => (intro w' hSw; (try dsimp only at hSw); go_simp; try with_reducible rfl)
        try simp only [Act.put, List.getElem_toArray, List.getElem_cons_zero, List.getElem_cons_succ, List.setIfInBounds_toArray, List.set_cons_zero, List.set_cons_succ]
        refine' wpAnyF_take (i := 11) (n := 21) (v := _) rfl (by kernel_rfl) (fun _ _ _ h => h) (by assumption) (Or.inl ⟨by rfl, ?hy12⟩) ?rest12
        case' hy12 => (intro w' hSw; (try dsimp only at hSw); go_simp; try with_reducible rfl)
        try simp only [Act.put, List.getElem_toArray, List.getElem_cons_zero, List.getElem_cons_succ, List.setIfInBounds_toArray, List.set_cons_zero, List.set_cons_succ]
        refine' wpAnyF_take (i := 12) (n := 21) (v := _) rfl (by kernel_rfl) (fun _ _ _ h => h) (by assumption) (Or.inl ⟨by rfl, ?hy13⟩) ?rest13
        case' hy13 => (intro w' hSw; (try dsimp only at hSw); go_simp; try with_reducible rfl)
        try simp only [Act.put, List.getElem_toArray, List.getElem_cons_zero, List.getElem_cons_succ, List.setIfInBounds_toArray, List.set_cons_zero, List.set_cons_succ]
        refine' wpAnyF_take (i := 13) (n := 21) (v := _) rfl (by kernel_rfl) (fun _ _ _ h => h) (by assumption) (Or.inl ⟨by rfl, ?hy14⟩) ?rest14
        case' hy14 => (intro w' hSw; (try dsimp only at hSw); go_simp; try with_reducible rfl)
        try simp only [Act.put, List.getElem_toArray, List.getElem_cons_zero, List.getElem_cons_succ, List.setIfInBounds_toArray, List.set_cons_zero, List.set_cons_succ]
        refine' wpAnyF_take (i := 14) (n := 21) (v := _) rfl (by kernel_rfl) (fun _ _ _ h => h) (by assumption) (Or.inl ⟨by rfl, ?hy15⟩) ?rest15
        case' hy15 => (intro w' hSw; (try dsimp only at hSw); go_simp; try with_reducible rfl)
        try simp only [Act.put, List.getElem_toArray, List.getElem_cons_zero, List.getElem_cons_succ, List.setIfInBounds_toArray, List.set_cons_zero, List.set_cons_succ]
        refine' wpAnyF_take (i := 15) (n := 21) (v := _) rfl (by kernel_rfl) (fun _ _ _ h => h) (by assumption) (Or.inl ⟨by rfl, ?hy16⟩) ?rest16
        case' hy16 => (intro w' hSw; (try dsimp only at hSw); go_simp; try with_reducible rfl)
        try simp only [Act.put, List.getElem_toArray, List.getElem_cons_zero, List.getElem_cons_succ, List.setIfInBounds_toArray, List.set_cons_zero, List.set_cons_succ]
        refine wpAnyF_only (i := 16) rfl (by kernel_rfl) (fun K hK => ?_)
        go_simp
        go_at_call 38
        refine (HC.out _).mono ?_
        rintro e w5 ⟨u, rfl, hu, hb5⟩
        dsimp only
        have hH5 : w5.cell? ⟨b, off + t * 4 + 1, none⟩ = some (.int .i64 (tm : Int)) ∧ w5.cell? ⟨b, off + t * 4 + 2, none⟩ = some (.int .i64 (rd : Int)) ∧ w5.cell? ⟨b, off + t * 4 + 3, none⟩ = some (.bool cn) := ⟨keep_cell hb5 hHeld.1, keep_cell hb5 hHeld.2.1, keep_cell hb5 hHeld.2.2⟩
        refine hK.out _ _ (Or.inr hH5) ?_
        clear hK K hHeld HC c0 c1 c2 c3
        try simp only [Act.put, List.getElem_toArray, List.getElem_cons_zero, List.getElem_cons_succ, List.setIfInBounds_toArray, List.set_cons_zero, List.set_cons_succ]
        refine' wpAnyF_take (i := 17) (n := 21) (v := _) rfl (by kernel_rfl) (fun _ _ _ h => h) (by assumption) (Or.inl ⟨by rfl, ?hy17⟩) ?rest17
        case' hy17 => (intro w' hSw; (try dsimp only at hSw); go_simp; try with_reducible rfl)
        try simp only [Act.put, List.getElem_toArray, List.getElem_cons_zero, List.getElem_cons_succ, List.setIfInBounds_toArray, List.set_cons_zero, List.set_cons_succ]
        refine' wpAnyF_take (i := 18) (n := 21) (v := _) rfl (by kernel_rfl) (fun _ _ _ h => h) (by assumption) (Or.inl ⟨by rfl, ?hy18⟩) ?rest18
        case' hy18 => (intro w' hSw; (try dsimp only at hSw); go_simp; try with_reducible rfl)
        try simp only [Act.put, List.getElem_toArray, List.getElem_cons_zero, List.getElem_cons_succ, List.setIfInBounds_toArray, List.set_cons_zero, List.set_cons_succ]
        refine' wpAnyF_take (i := 19) (n := 21) (v := _) rfl (by kernel_rfl) (fun _ _ _ h => h) (by assumption) (Or.inl ⟨by rfl, ?hy19⟩) ?rest19
        case' hy19 => (intro w' hSw; (try dsimp only at hSw); go_simp; try with_reducible rfl)
        try simp only [Act.put, List.getElem_toArray, List.getElem_cons_zero, List.getElem_cons_succ, List.setIfInBounds_toArray, List.set_cons_zero, List.set_cons_succ]
        refine' wpAnyF_take (i := 20) (n := 21) (v := _) rfl (by kernel_rfl) (fun _ _ _ h => h) (by assumption) (Or.inl ⟨by rfl, ?hy20⟩) ?rest20
        case' hy20 => (intro w' hSw; (try dsimp only at hSw); go_simp; try with_reducible rfl)
        try simp only [Act.put, List.getElem_toArray, List.getElem_cons_zero, List.getElem_cons_succ, List.setIfInBounds_toArray, List.set_cons_zero, List.set_cons_succ]
        refine wpAnyF_only (i := 21) rfl (by kernel_rfl) (fun K hK => ?_)
        go_simp
        refine hK.out _ _ (Or.inl (by kernel_rfl)) ?_
        clear hK K hH5
        try simp only [Act.put, List.getElem_toArray, List.getElem_cons_zero, List.getElem_cons_succ, List.setIfInBounds_toArray, List.set_cons_zero, List.set_cons_succ]
        refine wpAnyF_done (by kernel_rfl) ?_ _
        replace hb5 : Below wr.heap.size wr w5 := below_step (show Below wr.heap.size wr wr.drew from below_dN (Below.refl _ _) 1) hb5
        replace hu : insOwn w5 wr.heap.size u (Cs.code f wt c) := hu
        obtain ⟨au, cu, rfl, -⟩ := insAt_of_icells hu
        have HU : Hid (insOwn w5 w3.heap.size (.slice au (Cs.code f wt c).length cu) (Cs.code f wt c)) := hide (insOwn_mono hu HP1.out.bz)
        have HNE : Hid (∀ b, (Value.slice au (Cs.code f wt c).length cu).ownBlock = some b → v.ownBlock ≠ some b) := hide fun b e e2 => by
          have h1 := (World.ownsRow.lt hu b e).1
          have h2 := (HP1.out.own.lt b e2).2
          omega
        have HP2 := hide (HP1.out.below hb5)
        have HSU : Hid (cast.take (t + 1) = cast.take t ++ [c]) := hide (by rw [List.take_add_one, hc.out]; rfl)
        clear hu hb5 HP1 hc
        generalize (Cs.code f wt c).length = ln at *
        obtain ⟨ric, hric, hrz, hrs, hrb⟩ := codesInfo
        have bel : Below w5.heap.size w5 (w5.alloc (.cells #[.slice au ln cu] 24)) := (Below.refl _ _).alloc (Nat.le_refl _) _
        obtain ⟨LC, HLC, hLC⟩ : ∃ LC, Hid (LC = ((cast.take t).map (Cs.code f wt)).length) ∧ LC ≤ 7 := ⟨_, hide rfl, by rw [List.length_map, List.length_take]; omega⟩
        go_wp2_with (at_builtin; refine wpList_append_own_at _ rfl _ _ 78 rfl w3.heap.size 24 ric (.slice none 0 0) 1 24 Tryz.underlying78 hric hrz hrs hrb rfl (by decide) v LC vs rfl ?q0 ⟨w5.heap.size, 0, none⟩ 1 1 [.slice au ln cu] rfl rfl ?q1 ?q2 ?q3 ?q4 ?q5 ?_)
        case q0 => rw [HLC.out]; exact (HP2.out.below bel).own
        try (case q1 =>
          intro k x hk
          cases k with
          | zero => cases hk; rw [Addr.add_lit]; simp
          | succ k => simp at hk)
        try (case q2 => first
          | rfl
          | (intro x hx
             obtain rfl : x = .slice au ln cu := by simpa using hx
             rfl))
        case q3 => unfold maxLen; omega
        case q4 => omega
        case q5 => have := HP2.out.bz; first | omega | (simp; omega)
        intro v' w6 ho hg hnil hloc
        have HP6 : Hid (CP w3.heap.size w3 v' (vs ++ [.slice au ln cu]) ((cast.take (t + 1)).map (Cs.code f wt)) w6) := hide (by
          rw [HSU.out, List.map_append]
          exact (HP2.out.below bel).add (insOwn_keep HU.out bel) HNE.out (N := w5.heap.size + 1) (by simp) (by rw [← HLC.out]; exact ho) hg hloc)
        clear ho hg hnil hloc HP2 HU HNE HSU bel HLC hLC hric hrz hrs hrb
        go_wp2_with fail
        go_roundw
        case rel => exact ⟨t + 1, by omega, by go_num, hide ⟨_, HP6.out⟩⟩
        case measure => simp [intOf]; omega
    · obtain rfl : t = n := by omega
      rw [show cast.take t = cast from List.take_of_length_le (by rw [HCN.out]; exact Nat.le_refl _)] at hP
      obtain ⟨adc, capc, rfl, hcod⟩ := hP.codes
      rw [show (cast.map (Cs.code f wt)).length = t by rw [List.length_map, HCN.out]]
      have HST2 := hide (HST.out.below hP.low)
      have HLOW : Hid (Below w.heap.size w wr) := hide (HB3.out.trans (hP.low.mono HB3.out.size))
      have s0 : wr.cell? ⟨sb, 0, none⟩ = some (.int .i64 30) := keep_cell hP.low HSS.out.1
      have s1 : wr.cell? ⟨sb, 1, none⟩ = some (.slice ai (t + 3) ci) := keep_cell hP.low HSS.out.2.1
      have s2 : wr.cell? ⟨sb, 2, none⟩ = some (.slice ar t cr) := keep_cell hP.low HSS.out.2.2
      have HSF1 := hide (HSF.out (cap := capc) HST2.out hcod)
      have HNM1 := hide (fun w' (hb : Below wr.heap.size wr w') => HNM.out (cap := capc) (w0 := wr) hb (HST2.out.below hb) hcod)
      clear hP HP hcod HST HSS HSF HNM HWR HRD HL HOK HB3 HST2
      go_wp2_with fail
      refine HSF1.out.mono ?_
      rintro e w4 ⟨rfl, hb4⟩
      replace s0 := keep_cell hb4 s0
      replace s1 := keep_cell hb4 s1
      replace s2 := keep_cell hb4 s2
      have HNM2 := hide (HNM1.out w4 hb4)
      have HL4 := hide (below_step HLOW.out hb4)
      clear HSF1 HNM1 hb4
      go_wp2_with fail
      refine HNM2.out.mono ?_
      rintro e w5 ⟨p, rfl, hR⟩
      have HEND : Hid (RkX (cast.map (Cs.code f wt)) p (gcM f t) 1 w5 ∧ Below w.heap.size w w5 ∧ ∀ b, p.fp t (gcM f t).mem b → w.heap.size ≤ b) := hide ⟨hR.out.1, below_step HL4.out hR.out.2.1, fun b hb => Nat.le_trans HL4.out.size (hR.out.2.2 b hb)⟩
      clear hR HNM2 s0 s1 s2
      go_wp2_with fail
      go_ret2
      exact ⟨p, rfl, HEND⟩
end Go.Proofs.YtgmokighfgdnjaaGreatDoor

/- GeC -/
namespace Go.Proofs.YtgmokighfgdnjaaGreatDoor
open Go.RowKit Go.Extern.Stop Go.Stop Go.Extern Go.Maps Go.WideMaps Go.Sort

theorem toI_fit {f : Nat} (hf : 1 ≤ f ∧ f ≤ 4) {cast : List Cs} (hok : ∀ c ∈ cast, c.ok) {n : Nat} (hn : cast.length = n) (h1 : 1 ≤ n) (h4 : n ≤ 4) : Fit (f : Int) (cast.map Cs.toI) := by
  refine ⟨⟨by omega, by omega⟩, ⟨by rw [List.length_map]; omega, by rw [List.length_map]; omega⟩, fun c hc => ?_⟩
  obtain ⟨x, hx, rfl⟩ := List.mem_map.1 hc
  obtain ⟨k1, k2⟩ := hok x hx
  refine ⟨?_, ?_, ?_, ?_⟩
  · show (0 : Int) ≤ (x.tm : Int); omega
  · show (x.tm : Int) ≤ 3; omega
  · show (0 : Int) ≤ (x.rd : Int); omega
  · show (x.rd : Int) ≤ 5; omega
theorem right_cast {f : Nat} (hf : 1 ≤ f ∧ f ≤ 4) {cast : List Cs} (hok : ∀ c ∈ cast, c.ok) {n : Nat} (hn : cast.length = n) (h1 : 1 ≤ n) (h4 : n ≤ 4) {ad : Option Addr} {cap : Nat} {w : World} (hl : castsAt ad (cast.map Cs.toI) w) :
    Calls Tryz.prog 19 #[.int .i64 f, .slice ad n cap] w fun e w' => e = .returned (.bool false) ∧ Below w.heap.size w w' := by
  have h := wrongCast_any f ad (cast.map Cs.toI) cap w hl
  rw [show (cast.map Cs.toI).length = n by rw [List.length_map, hn]] at h
  refine h.mono fun e w' ⟨b, he, hb, hB⟩ => ?_
  obtain rfl := hb.2 (toI_fit hf hok hn h1 h4)
  exact ⟨he, hB⟩

theorem cast_of {f : Int} {l : List CsI} (h : Fit f l) : ∃ (k : Nat) (cast : List Cs), f = k ∧ (1 ≤ k ∧ k ≤ 4) ∧ l = cast.map Cs.toI ∧ (∀ c ∈ cast, c.ok) ∧ 1 ≤ cast.length ∧ cast.length ≤ 4 := by
  obtain ⟨⟨f1, f2⟩, ⟨h1, h2⟩, hfit⟩ := h
  obtain ⟨k, rfl⟩ := Int.eq_ofNat_of_zero_le (show 0 ≤ f by omega)
  refine ⟨k, l.map fun c => ⟨c.w, c.tm.toNat, c.rd.toNat, c.ns⟩, rfl, ⟨by omega, by omega⟩, ?_, fun c hc => ?_, by rw [List.length_map]; exact h1, by rw [List.length_map]; exact h2⟩
  · rw [List.map_map]
    refine (List.map_id l).symm.trans (List.map_congr_left fun c hc => ?_)
    obtain ⟨k1, k2, k3, k4⟩ := hfit c hc
    show c = ⟨c.w, (c.tm.toNat : Int), (c.rd.toNat : Int), c.ns⟩
    rw [Int.toNat_of_nonneg k1, Int.toNat_of_nonneg k3]
  · obtain ⟨x, hx, rfl⟩ := List.mem_map.1 hc
    obtain ⟨k1, k2, k3, k4⟩ := hfit x hx
    exact ⟨by show x.tm.toNat ≤ 3; omega, by show x.rd.toNat ≤ 5; omega⟩
end Go.Proofs.YtgmokighfgdnjaaGreatDoor
