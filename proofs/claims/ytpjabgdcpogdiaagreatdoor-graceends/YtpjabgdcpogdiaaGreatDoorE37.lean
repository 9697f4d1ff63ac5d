/- The law GraceEnds answers true for every flavour and every cast that can be handed in; no condition beside the row's own. -/
import Derived.Test.YtpjabgdcpogdiaaGreatDoorE36
import Derived.Test.YtpjabgdcpogdiaaGreatDoorE08
import Derived.Test.YtpjabgdcpogdiaaGreatDoorE22
import Derived.Test.YtpjabgdcpogdiaaGreatDoorE33
import Derived.Test.YtpjabgdcpogdiaaGreatDoorE09
import Derived.Test.YtpjabgdcpogdiaaGreatDoorTie
import Derived.Test.YtpjabgdcpogdiaaGreatDoorCards
import Derived.Carry
import Derived.SevenTiedAt

/- GeB -/
namespace Go.Proofs.YtpjabgdcpogdiaaGreatDoor
open Go.RowKit Go.Extern.Stop Go.Stop Go.Extern Go.Maps Go.WideMaps Go.Sort

def Cs.toI (c : Cs) : CsI := ⟨c.w, c.tm, c.rd, c.ns⟩
set_option maxRecDepth 20000 in
set_option maxHeartbeats 4000000 in
theorem played_ok {f : Nat} (hf : 1 ≤ f ∧ f ≤ 4) (wt : Bool) (cast : List Cs) (hok : ∀ c ∈ cast, c.ok) (n : Nat) (hn : cast.length = n) (h1 : 1 ≤ n) (h4 : n ≤ 4) (ad : Option Addr) (cap : Nat) (w : World) (hl : castsAt ad (cast.map Cs.toI) w) :
    Calls Tryz.prog 6 #[.int .i64 f, .slice ad n cap, .bool wt] w fun e w' => ∃ p : RkPl, e = .returned (.tuple #[.pointer (some ⟨p.k, 0, none⟩), .bool true]) ∧ Hid (RkX (cast.map (Cs.code f wt)) p (gcM f n) 1 w' ∧ Below w.heap.size w w' ∧ ∀ b, p.fp n (gcM f n).mem b → w.heap.size ≤ b) := by
  have h6 : n ≤ 6 := Nat.le_trans h4 (by decide)
  have HWO := hide (world_ok hf n h1 h6 w)
  have HWR := hide (fun (tm : Nat) (h : tm ≤ 3) (rd : Nat) (ns : Bool) w => writer_ok hf wt tm h rd ns w)
  have HRD := hide (fun (tm : Nat) (h : tm ≤ 3) (rd : Nat) (hr : rd ≤ 5) (ns : Bool) w => reader_ok hf wt tm h rd hr ns w)
  have HSF : Hid (∀ {ai ar ad : Option Addr} {ci cr cap : Nat} {w : World} (hs : StaAt (gcSta f n) ⟨ai, ci, ar, cr⟩ w) (hl : codesAt ad (cast.map (Cs.code f wt)) w), Calls Tryz.prog 14 #[.agg #[.int .i64 30, .slice ai (n + 3) ci, .slice ar n cr], .slice ad n cap] w fun e w' => e = .returned (.agg #[.int .i64 0, .int .i64 (-1)]) ∧ Below w.heap.size w w') := hide fun hs hl => gcStart_ok hf wt hok hn h1 h6 hs hl
  have HNM : Hid (∀ {ai ar ad : Option Addr} {ci cr cap : Nat} {w0 w : World} (h0 : Below w0.heap.size w0 w) (hs : StaAt (gcSta f n) ⟨ai, ci, ar, cr⟩ w) (hl : codesAt ad (cast.map (Cs.code f wt)) w0), Calls Tryz.prog 15 #[.agg #[.int .i64 30, .slice ai (n + 3) ci, .slice ar n cr], .slice ad n cap] w fun e w' => ∃ p : RkPl, e = .returned (.pointer (some ⟨p.k, 0, none⟩)) ∧ Hid (RkX (cast.map (Cs.code f wt)) p (gcM f n) 1 w' ∧ Below w.heap.size w w' ∧ ∀ b, p.fp n (gcM f n).mem b → w.heap.size ≤ b)) := hide fun h0 hs hl => gcNew hf wt hok hn h1 h6 h0 hs hl
  have HL := hide hl
  have HOK := hide hok
  have HCN := hide hn
  have n4 : (n : Int) ≤ 4 := by omega
  have hfl := fun w => field_fault 0 (-1) w
  clear hl hf hok hn
  generalize hfi : (f : Int) = fi at *
  clear hfi
  go_enter Tryz.func6, Tryz.ntmps6
  go_wp2_with fail
  refine HWO.out.mono ?_
  rintro e w2 ⟨ai, ci, ar, cr, rfl, hst, hb2⟩
  have HST := hide (hst.below ((Below.refl _ _).alloc (Nat.le_refl _) (.cells #[.int .i64 30, .slice ai (n + 3) ci, .slice ar n cr] 44)))
  have HB3 : Hid (Below w.heap.size w (w2.alloc (.cells #[.int .i64 30, .slice ai (n + 3) ci, .slice ar n cr] 44))) := hide (hb2.alloc hb2.size _)
  have s0 := World.cell?_alloc_new w2 #[.int .i64 30, .slice ai (n + 3) ci, .slice ar n cr] 44 0
  have s1 := World.cell?_alloc_new w2 #[.int .i64 30, .slice ai (n + 3) ci, .slice ar n cr] 44 1
  have s2 := World.cell?_alloc_new w2 #[.int .i64 30, .slice ai (n + 3) ci, .slice ar n cr] 44 2
  have HSS := hide (And.intro s0 (And.intro s1 s2))
  clear HWO hst hb2 s0 s1 s2
  go_wp2_with fail
  generalize w2.alloc (.cells #[.int .i64 30, .slice ai (n + 3) ci, .slice ar n cr] 44) = w3 at *
  generalize w2.heap.size = sb at *
  have HP0 : Hid (CP w3.heap.size w3 (.slice none 0 0) [] ((cast.take 0).map (Cs.code f wt)) w3) := hide (CP.nil (Below.refl _ _) (Nat.le_refl _))
  go_loopw [10, 11, 12, 13] (fun v i _ _ wr => ∃ t : Nat, t ≤ n ∧ i = .int .i64 t ∧ Hid (∃ vs, CP w3.heap.size w3 v vs ((cast.take t).map (Cs.code f wt)) wr)) (fun _ i _ _ _ => n - (intOf i).toNat)
  case atStart => exact ⟨0, Nat.zero_le _, rfl, hide ⟨_, HP0.out⟩⟩
  case round =>
    clear HP0
    obtain ⟨t, ht, rfl, HP⟩ := hrel
    generalize u10 = v at *
    obtain ⟨vs, hP⟩ := HP.out
    by_cases hlt : t < n
    · have ti : (t : Int) < n := by omega
      have HP1 := hide hP
      obtain ⟨c, hct⟩ : ∃ c, cast[t]? = some c := ⟨_, List.getElem?_eq_getElem (by rw [HCN.out]; exact hlt)⟩
      have hc := hide hct
      obtain ⟨b, off, rfl, c0, c1, c2, c3⟩ := (HL.out.below (HB3.out.trans (hP.low.mono HB3.out.size))) t c.toI (by rw [List.getElem?_map, hct]; rfl)
      have hcok := HOK.out c (List.mem_of_getElem? hct)
      clear hP HP hct
      obtain ⟨cw, tm, rd, cn⟩ := c
      have htm : tm ≤ 3 := hcok.1
      have hrd : rd ≤ 5 := hcok.2
      have HCO := hide (And.intro htm hrd)
      clear hcok htm hrd
      change wr.cell? _ = some (.bool cw) at c0
      change wr.cell? _ = some (.int .i64 (tm : Int)) at c1
      change wr.cell? _ = some (.int .i64 (rd : Int)) at c2
      change wr.cell? _ = some (.bool cn) at c3
      obtain ⟨c, hcdef⟩ : ∃ c : Cs, c = ⟨cw, tm, rd, cn⟩ := ⟨_, rfl⟩
      cases cw with
      | true =>
        have HC := hide (fun w => HWR.out tm HCO.out.1 rd cn w)
        rw [← hcdef] at hc HC
        clear hcdef HCO
        go_wp2_with fail
        refine (HC.out _).mono ?_
        rintro e w5 ⟨u, rfl, hu, hb5⟩
        clear HC c0 c1 c2 c3
        obtain ⟨au, cu, rfl, -⟩ := insAt_of_icells hu
        have HU : Hid (insOwn w5 w3.heap.size (.slice au (Cs.code f wt c).length cu) (Cs.code f wt c)) := hide (insOwn_mono hu HP1.out.bz)
        have HNE : Hid (∀ b, (Value.slice au (Cs.code f wt c).length cu).ownBlock = some b → v.ownBlock ≠ some b) := hide fun b e e2 => by
          have h1 := (World.ownsRow.lt hu b e).1
          have h2 := (HP1.out.own.lt b e2).2
          omega
        have HP2 := hide (HP1.out.below hb5)
        have HSU : Hid (cast.take (t + 1) = cast.take t ++ [c]) := hide (by rw [List.take_add_one, hc.out]; rfl)
        clear hu hb5 HP1 hc
        generalize (Cs.code f wt c).length = ln at *
        obtain ⟨ric, hric, hrz, hrs, hrb⟩ := codesInfo
        have bel : Below w5.heap.size w5 (w5.alloc (.cells #[.slice au ln cu] 37)) := (Below.refl _ _).alloc (Nat.le_refl _) _
        obtain ⟨LC, HLC, hLC⟩ : ∃ LC, Hid (LC = ((cast.take t).map (Cs.code f wt)).length) ∧ LC ≤ 7 := ⟨_, hide rfl, by rw [List.length_map, List.length_take]; omega⟩
        go_wp2_with (at_builtin; refine wpList_append_own_at _ rfl _ _ 47 rfl w3.heap.size 37 ric (.slice none 0 0) 1 24 Tryz.underlying47 hric hrz hrs hrb rfl (by decide) v LC vs rfl ?p0 ⟨w5.heap.size, 0, none⟩ 1 1 [.slice au ln cu] rfl rfl ?p1 ?p2 ?p3 ?p4 ?p5 ?_)
        case p0 => rw [HLC.out]; exact (HP2.out.below bel).own
        try (case p1 =>
          intro k x hk
          cases k with
          | zero => cases hk; rw [Addr.add_lit]; simp
          | succ k => simp at hk)
        try (case p2 => first
          | rfl
          | (intro x hx
             obtain rfl : x = .slice au ln cu := by simpa using hx
             rfl))
        case p3 => unfold maxLen; omega
        case p4 => omega
        case p5 => have := HP2.out.bz; first | omega | (simp; omega)
        intro v' w6 ho hg hnil hloc
        have HP6 : Hid (CP w3.heap.size w3 v' (vs ++ [.slice au ln cu]) ((cast.take (t + 1)).map (Cs.code f wt)) w6) := hide (by
          rw [HSU.out, List.map_append]
          exact (HP2.out.below bel).add (insOwn_keep HU.out bel) HNE.out (N := w5.heap.size + 1) (by simp) (by rw [← HLC.out]; exact ho) hg hloc)
        clear ho hg hnil hloc HP2 HU HNE HSU bel HLC hLC hric hrz hrs hrb
        go_wp2_with fail
        go_roundw
        case rel => exact ⟨t + 1, by omega, by go_num, hide ⟨_, HP6.out⟩⟩
        case measure => simp [intOf]; omega
      | false =>
        have HC := hide (fun w => HRD.out tm HCO.out.1 rd HCO.out.2 cn w)
        rw [← hcdef] at hc HC
        clear hcdef HCO
        go_wp2_with fail
        have hHr : (wr.drew).cell? ⟨b, off + t * 4 + 1, none⟩ = some (.int .i64 (tm : Int)) ∧ (wr.drew).cell? ⟨b, off + t * 4 + 2, none⟩ = some (.int .i64 (rd : Int)) ∧ (wr.drew).cell? ⟨b, off + t * 4 + 3, none⟩ = some (.bool cn) := ⟨keep_cell (below_dN (Below.refl _ _) 1) c1, keep_cell (below_dN (Below.refl _ _) 1) c2, keep_cell (below_dN (Below.refl _ _) 1) c3⟩
        refine wp_region_F (S := (fun w' => w'.cell? ⟨b, off + t * 4 + 1, none⟩ = some (.int .i64 (tm : Int)) ∧ w'.cell? ⟨b, off + t * 4 + 2, none⟩ = some (.int .i64 (rd : Int)) ∧ w'.cell? ⟨b, off + t * 4 + 3, none⟩ = some (.bool cn))) (by kernel_rfl) hHr (fun hHeld => ?_)
        clear hHr
        refine' wpAnyF_take (i := 0) (n := 21) (v := _) rfl (by kernel_rfl) (fun _ _ _ h => h) (by assumption) (Or.inl ⟨by rfl, ?hy1⟩) ?rest1
        case' hy1 => (intro w' hSw; (try dsimp only at hSw); go_simp; try with_reducible rfl)
        try simp only [Act.put, List.getElem_toArray, List.getElem_cons_zero, List.setIfInBounds_toArray, List.set_cons_zero, List.set_cons_succ]
        refine' wpAnyF_take (i := 1) (n := 21) (v := _) rfl (by kernel_rfl) (fun _ _ _ h => h) (by assumption) (Or.inl ⟨by rfl, ?hy2⟩) ?rest2
        case' hy2 => (intro w' hSw; (try dsimp only at hSw); go_simp; try with_reducible rfl)
        try simp only [Act.put, List.getElem_toArray, List.getElem_cons_zero, List.getElem_cons_succ, List.setIfInBounds_toArray, List.set_cons_zero, List.set_cons_succ]
        refine' wpAnyF_take (i := 2) (n := 21) (v := _) rfl (by kernel_rfl) (fun _ _ _ h => h) (by assumption) (Or.inl ⟨by rfl, ?hy3⟩) ?rest3
        case' hy3 => (intro w' hSw; (try dsimp only at hSw); go_simp; try with_reducible rfl)
        try simp only [Act.put, List.getElem_toArray, List.getElem_cons_zero, List.getElem_cons_succ, List.setIfInBounds_toArray, List.set_cons_zero, List.set_cons_succ]
        refine' wpAnyF_take (i := 3) (n := 21) (v := _) rfl (by kernel_rfl) (fun _ _ _ h => h) (by assumption) (Or.inl ⟨by rfl, ?hy4⟩) ?rest4
        case' hy4 => (intro w' hSw; (try dsimp only at hSw); go_simp; try with_reducible rfl)
        try simp only [Act.put, List.getElem_toArray, List.getElem_cons_zero, List.getElem_cons_succ, List.setIfInBounds_toArray, List.set_cons_zero, List.set_cons_succ]
        refine' wpAnyF_take (i := 4) (n := 21) (v := _) rfl (by kernel_rfl) (fun _ _ _ h => h) (by assumption) (Or.inl ⟨by rfl, ?hy5⟩) ?rest5
        case' hy5 => (intro w' hSw; (try dsimp only at hSw); go_simp; try with_reducible rfl)
        try simp only [Act.put, List.getElem_toArray, List.getElem_cons_zero, List.getElem_cons_succ, List.setIfInBounds_toArray, List.set_cons_zero, List.set_cons_succ]
        refine' wpAnyF_take (i := 5) (n := 21) (v := _) rfl (by kernel_rfl) (fun _ _ _ h => h) (by assumption) (Or.inl ⟨by rfl, ?hy6⟩) ?rest6
        case' hy6 => (intro w' hSw; (try dsimp only at hSw); go_simp; try with_reducible rfl)
        try simp only [Act.put, List.getElem_toArray, List.getElem_cons_zero, List.getElem_cons_succ, List.setIfInBounds_toArray, List.set_cons_zero, List.set_cons_succ]
        refine' wpAnyF_take (i := 6) (n := 21) (v := _) rfl (by kernel_rfl) (fun _ _ _ h => h) (by assumption) (Or.inl ⟨by rfl, ?hy7⟩) ?rest7
        case' hy7 => (intro w' hSw; (try dsimp only at hSw); go_simp; try with_reducible rfl)
        try simp only [Act.put, List.getElem_toArray, List.getElem_cons_zero, List.getElem_cons_succ, List.setIfInBounds_toArray, List.set_cons_zero, List.set_cons_succ]
        refine' wpAnyF_take (i := 7) (n := 21) (v := _) rfl (by kernel_rfl) (fun _ _ _ h => h) (by assumption) (Or.inl ⟨by rfl, ?hy8⟩) ?rest8
        case' hy8 => (intro w' hSw; (try dsimp only at hSw); go_simp; try with_reducible rfl)
        try simp only [Act.put, List.getElem_toArray, List.getElem_cons_zero, List.getElem_cons_succ, List.setIfInBounds_toArray, List.set_cons_zero, List.set_cons_succ]
        refine' wpAnyF_take (i := 8) (n := 21) (v := _) rfl (by kernel_rfl) (fun _ _ _ h => h) (by assumption) (Or.inl ⟨by rfl, ?hy9⟩) ?rest9
        case' hy9 => (intro w' hSw; (try dsimp only at hSw); go_simp; try with_reducible rfl)
        try simp only [Act.put, List.getElem_toArray, List.getElem_cons_zero, List.getElem_cons_succ, List.setIfInBounds_toArray, List.set_cons_zero, List.set_cons_succ]
        refine' wpAnyF_take (i := 9) (n := 21) (v := _) rfl (by kernel_rfl) (fun _ _ _ h => h) (by assumption) (Or.inl ⟨by rfl, ?hy10⟩) ?rest10
        case' hy10 => (intro w' hSw; (try dsimp only at hSw); go_simp; try with_reducible rfl)
        try simp only [Act.put, List.getElem_toArray, List.getElem_cons_zero, List.getElem_cons_succ, List.setIfInBounds_toArray, List.set_cons_zero, List.set_cons_succ]
        refine' wpAnyF_take (i := 10) (n := 21) (v := _) rfl (by kernel_rfl) (fun _ _ _ h => h) (by assumption) (Or.inl ⟨by rfl, ?hy11⟩) ?rest11
        case' hy11 => (intro w' hSw; (try dsimp only at hSw); go_simp; try with_reducible rfl)
        try simp only [Act.put, List.getElem_toArray, List.getElem_cons_zero, List.getElem_cons_succ, List.setIfInBounds_toArray, List.set_cons_zero, List.set_cons_succ]
        refine' wpAnyF_take (i := 11) (n := 21) (v := _) rfl (by kernel_rfl) (fun _ _ _ h => h) (by assumption) (Or.inl ⟨by rfl, ?hy12⟩) ?rest12
        case' hy12 => (intro w' hSw; (try dsimp only at hSw); go_simp; try with_reducible rfl)
        try simp only [Act.put, List.getElem_toArray, List.getElem_cons_zero, List.getElem_cons_succ, List.setIfInBounds_toArray, List.set_cons_zero, List.set_cons_succ]
        refine' wpAnyF_take (i := 12) (n := 21) (v := _) rfl (by kernel_rfl) (fun _ _ _ h => h) (by assumption) (Or.inl ⟨by rfl, ?hy13⟩) ?rest13
        case' hy13 => (intro w' hSw; (try dsimp only at hSw); go_simp; try with_reducible rfl)
        try simp only [Act.put, List.getElem_toArray, List.getElem_cons_zero, List.getElem_cons_succ, List.setIfInBounds_toArray, List.set_cons_zero, List.set_cons_succ]
        refine' wpAnyF_take (i := 13) (n := 21) (v := _) rfl (by kernel_rfl) (fun _ _ _ h => h) (by assumption) (Or.inl ⟨by rfl, ?hy14⟩) ?rest14
        case' hy14 => (intro w' hSw; (try dsimp only at hSw); go_simp; try with_reducible rfl)
        try simp only [Act.put, List.getElem_toArray, List.getElem_cons_zero, List.getElem_cons_succ, List.setIfInBounds_toArray, List.set_cons_zero, List.set_cons_succ]
        refine' wpAnyF_take (i := 14) (n := 21) (v := _) rfl (by kernel_rfl) (fun _ _ _ h => h) (by assumption) (Or.inl ⟨by rfl, ?hy15⟩) ?rest15
        case' hy15 => (intro w' hSw; (try dsimp only at hSw); go_simp; try with_reducible rfl)
        try simp only [Act.put, List.getElem_toArray, List.getElem_cons_zero, List.getElem_cons_succ, List.setIfInBounds_toArray, List.set_cons_zero, List.set_cons_succ]
        refine' wpAnyF_take (i := 15) (n := 21) (v := _) rfl (by kernel_rfl) (fun _ _ _ h => h) (by assumption) (Or.inl ⟨by rfl, ?hy16⟩) ?rest16
        case' hy16 => (intro w' hSw; (try dsimp only at hSw); go_simp; try with_reducible rfl)
        try simp only [Act.put, List.getElem_toArray, List.getElem_cons_zero, List.getElem_cons_succ, List.setIfInBounds_toArray, List.set_cons_zero, List.set_cons_succ]
        refine wpAnyF_only (i := 16) rfl (by kernel_rfl) (fun K hK => ?_)
        go_simp
        go_at_call 13
        refine (HC.out _).mono ?_
        rintro e w5 ⟨u, rfl, hu, hb5⟩
        dsimp only
        have hH5 : w5.cell? ⟨b, off + t * 4 + 1, none⟩ = some (.int .i64 (tm : Int)) ∧ w5.cell? ⟨b, off + t * 4 + 2, none⟩ = some (.int .i64 (rd : Int)) ∧ w5.cell? ⟨b, off + t * 4 + 3, none⟩ = some (.bool cn) := ⟨keep_cell hb5 hHeld.1, keep_cell hb5 hHeld.2.1, keep_cell hb5 hHeld.2.2⟩
        refine hK.out _ _ (Or.inr hH5) ?_
        clear hK K hHeld HC c0 c1 c2 c3
        try simp only [Act.put, List.getElem_toArray, List.getElem_cons_zero, List.getElem_cons_succ, List.setIfInBounds_toArray, List.set_cons_zero, List.set_cons_succ]
        refine' wpAnyF_take (i := 17) (n := 21) (v := _) rfl (by kernel_rfl) (fun _ _ _ h => h) (by assumption) (Or.inl ⟨by rfl, ?hy17⟩) ?rest17
        case' hy17 => (intro w' hSw; (try dsimp only at hSw); go_simp; try with_reducible rfl)
        try simp only [Act.put, List.getElem_toArray, List.getElem_cons_zero, List.getElem_cons_succ, List.setIfInBounds_toArray, List.set_cons_zero, List.set_cons_succ]
        refine' wpAnyF_take (i := 18) (n := 21) (v := _) rfl (by kernel_rfl) (fun _ _ _ h => h) (by assumption) (Or.inl ⟨by rfl, ?hy18⟩) ?rest18
        case' hy18 => (intro w' hSw; (try dsimp only at hSw); go_simp; try with_reducible rfl)
        try simp only [Act.put, List.getElem_toArray, List.getElem_cons_zero, List.getElem_cons_succ, List.setIfInBounds_toArray, List.set_cons_zero, List.set_cons_succ]
        refine' wpAnyF_take (i := 19) (n := 21) (v := _) rfl (by kernel_rfl) (fun _ _ _ h => h) (by assumption) (Or.inl ⟨by rfl, ?hy19⟩) ?rest19
        case' hy19 => (intro w' hSw; (try dsimp only at hSw); go_simp; try with_reducible rfl)
        try simp only [Act.put, List.getElem_toArray, List.getElem_cons_zero, List.getElem_cons_succ, List.setIfInBounds_toArray, List.set_cons_zero, List.set_cons_succ]
        refine' wpAnyF_take (i := 20) (n := 21) (v := _) rfl (by kernel_rfl) (fun _ _ _ h => h) (by assumption) (Or.inl ⟨by rfl, ?hy20⟩) ?rest20
        case' hy20 => (intro w' hSw; (try dsimp only at hSw); go_simp; try with_reducible rfl)
        try simp only [Act.put, List.getElem_toArray, List.getElem_cons_zero, List.getElem_cons_succ, List.setIfInBounds_toArray, List.set_cons_zero, List.set_cons_succ]
        refine wpAnyF_only (i := 21) rfl (by kernel_rfl) (fun K hK => ?_)
        go_simp
        refine hK.out _ _ (Or.inl (by kernel_rfl)) ?_
        clear hK K hH5
        try simp only [Act.put, List.getElem_toArray, List.getElem_cons_zero, List.getElem_cons_succ, List.setIfInBounds_toArray, List.set_cons_zero, List.set_cons_succ]
        refine wpAnyF_done (by kernel_rfl) ?_ _
        replace hb5 : Below wr.heap.size wr w5 := below_step (show Below wr.heap.size wr wr.drew from below_dN (Below.refl _ _) 1) hb5
        replace hu : insOwn w5 wr.heap.size u (Cs.code f wt c) := hu
        obtain ⟨au, cu, rfl, -⟩ := insAt_of_icells hu
        have HU : Hid (insOwn w5 w3.heap.size (.slice au (Cs.code f wt c).length cu) (Cs.code f wt c)) := hide (insOwn_mono hu HP1.out.bz)
        have HNE : Hid (∀ b, (Value.slice au (Cs.code f wt c).length cu).ownBlock = some b → v.ownBlock ≠ some b) := hide fun b e e2 => by
          have h1 := (World.ownsRow.lt hu b e).1
          have h2 := (HP1.out.own.lt b e2).2
          omega
        have HP2 := hide (HP1.out.below hb5)
        have HSU : Hid (cast.take (t + 1) = cast.take t ++ [c]) := hide (by rw [List.take_add_one, hc.out]; rfl)
        clear hu hb5 HP1 hc
        generalize (Cs.code f wt c).length = ln at *
        obtain ⟨ric, hric, hrz, hrs, hrb⟩ := codesInfo
        have bel : Below w5.heap.size w5 (w5.alloc (.cells #[.slice au ln cu] 37)) := (Below.refl _ _).alloc (Nat.le_refl _) _
        obtain ⟨LC, HLC, hLC⟩ : ∃ LC, Hid (LC = ((cast.take t).map (Cs.code f wt)).length) ∧ LC ≤ 7 := ⟨_, hide rfl, by rw [List.length_map, List.length_take]; omega⟩
        go_wp2_with (at_builtin; refine wpList_append_own_at _ rfl _ _ 47 rfl w3.heap.size 37 ric (.slice none 0 0) 1 24 Tryz.underlying47 hric hrz hrs hrb rfl (by decide) v LC vs rfl ?q0 ⟨w5.heap.size, 0, none⟩ 1 1 [.slice au ln cu] rfl rfl ?q1 ?q2 ?q3 ?q4 ?q5 ?_)
        case q0 => rw [HLC.out]; exact (HP2.out.below bel).own
        try (case q1 =>
          intro k x hk
          cases k with
          | zero => cases hk; rw [Addr.add_lit]; simp
          | succ k => simp at hk)
        try (case q2 => first
          | rfl
          | (intro x hx
             obtain rfl : x = .slice au ln cu := by simpa using hx
             rfl))
        case q3 => unfold maxLen; omega
        case q4 => omega
        case q5 => have := HP2.out.bz; first | omega | (simp; omega)
        intro v' w6 ho hg hnil hloc
        have HP6 : Hid (CP w3.heap.size w3 v' (vs ++ [.slice au ln cu]) ((cast.take (t + 1)).map (Cs.code f wt)) w6) := hide (by
          rw [HSU.out, List.map_append]
          exact (HP2.out.below bel).add (insOwn_keep HU.out bel) HNE.out (N := w5.heap.size + 1) (by simp) (by rw [← HLC.out]; exact ho) hg hloc)
        clear ho hg hnil hloc HP2 HU HNE HSU bel HLC hLC hric hrz hrs hrb
        go_wp2_with fail
        go_roundw
        case rel => exact ⟨t + 1, by omega, by go_num, hide ⟨_, HP6.out⟩⟩
        case measure => simp [intOf]; omega
    · obtain rfl : t = n := by omega
      rw [show cast.take t = cast from List.take_of_length_le (by rw [HCN.out]; exact Nat.le_refl _)] at hP
      obtain ⟨adc, capc, rfl, hcod⟩ := hP.codes
      rw [show (cast.map (Cs.code f wt)).length = t by rw [List.length_map, HCN.out]]
      have HST2 := hide (HST.out.below hP.low)
      have HLOW : Hid (Below w.heap.size w wr) := hide (HB3.out.trans (hP.low.mono HB3.out.size))
      have s0 : wr.cell? ⟨sb, 0, none⟩ = some (.int .i64 30) := keep_cell hP.low HSS.out.1
      have s1 : wr.cell? ⟨sb, 1, none⟩ = some (.slice ai (t + 3) ci) := keep_cell hP.low HSS.out.2.1
      have s2 : wr.cell? ⟨sb, 2, none⟩ = some (.slice ar t cr) := keep_cell hP.low HSS.out.2.2
      have HSF1 := hide (HSF.out (cap := capc) HST2.out hcod)
      have HNM1 := hide (fun w' (hb : Below wr.heap.size wr w') => HNM.out (cap := capc) (w0 := wr) hb (HST2.out.below hb) hcod)
      clear hP HP hcod HST HSS HSF HNM HWR HRD HL HOK HB3 HST2
      go_wp2_with fail
      refine HSF1.out.mono ?_
      rintro e w4 ⟨rfl, hb4⟩
      replace s0 := keep_cell hb4 s0
      replace s1 := keep_cell hb4 s1
      replace s2 := keep_cell hb4 s2
      have HNM2 := hide (HNM1.out w4 hb4)
      have HL4 := hide (below_step HLOW.out hb4)
      clear HSF1 HNM1 hb4
      go_wp2_with fail
      refine HNM2.out.mono ?_
      rintro e w5 ⟨p, rfl, hR⟩
      have HEND : Hid (RkX (cast.map (Cs.code f wt)) p (gcM f t) 1 w5 ∧ Below w.heap.size w w5 ∧ ∀ b, p.fp t (gcM f t).mem b → w.heap.size ≤ b) := hide ⟨hR.out.1, below_step HL4.out hR.out.2.1, fun b hb => Nat.le_trans HL4.out.size (hR.out.2.2 b hb)⟩
      clear hR HNM2 s0 s1 s2
      go_wp2_with fail
      go_ret2
      exact ⟨p, rfl, HEND⟩
end Go.Proofs.YtpjabgdcpogdiaaGreatDoor

/- GeC -/
namespace Go.Proofs.YtpjabgdcpogdiaaGreatDoor
open Go.RowKit Go.Extern.Stop Go.Stop Go.Extern Go.Maps Go.WideMaps Go.Sort

theorem toI_fit {f : Nat} (hf : 1 ≤ f ∧ f ≤ 4) {cast : List Cs} (hok : ∀ c ∈ cast, c.ok) {n : Nat} (hn : cast.length = n) (h1 : 1 ≤ n) (h4 : n ≤ 4) : Fit (f : Int) (cast.map Cs.toI) := by
  refine ⟨⟨by omega, by omega⟩, ⟨by rw [List.length_map]; omega, by rw [List.length_map]; omega⟩, fun c hc => ?_⟩
  obtain ⟨x, hx, rfl⟩ := List.mem_map.1 hc
  obtain ⟨k1, k2⟩ := hok x hx
  refine ⟨?_, ?_, ?_, ?_⟩
  · show (0 : Int) ≤ (x.tm : Int); omega
  · show (x.tm : Int) ≤ 3; omega
  · show (0 : Int) ≤ (x.rd : Int); omega
  · show (x.rd : Int) ≤ 5; omega
theorem right_cast {f : Nat} (hf : 1 ≤ f ∧ f ≤ 4) {cast : List Cs} (hok : ∀ c ∈ cast, c.ok) {n : Nat} (hn : cast.length = n) (h1 : 1 ≤ n) (h4 : n ≤ 4) {ad : Option Addr} {cap : Nat} {w : World} (hl : castsAt ad (cast.map Cs.toI) w) :
    Calls Tryz.prog 5 #[.int .i64 f, .slice ad n cap] w fun e w' => e = .returned (.bool false) ∧ Below w.heap.size w w' := by
  have h := wrongCast_any f ad (cast.map Cs.toI) cap w hl
  rw [show (cast.map Cs.toI).length = n by rw [List.length_map, hn]] at h
  refine h.mono fun e w' ⟨b, he, hb, hB⟩ => ?_
  obtain rfl := hb.2 (toI_fit hf hok hn h1 h4)
  exact ⟨he, hB⟩

theorem cast_of {f : Int} {l : List CsI} (h : Fit f l) : ∃ (k : Nat) (cast : List Cs), f = k ∧ (1 ≤ k ∧ k ≤ 4) ∧ l = cast.map Cs.toI ∧ (∀ c ∈ cast, c.ok) ∧ 1 ≤ cast.length ∧ cast.length ≤ 4 := by
  obtain ⟨⟨f1, f2⟩, ⟨h1, h2⟩, hfit⟩ := h
  obtain ⟨k, rfl⟩ := Int.eq_ofNat_of_zero_le (show 0 ≤ f by omega)
  refine ⟨k, l.map fun c => ⟨c.w, c.tm.toNat, c.rd.toNat, c.ns⟩, rfl, ⟨by omega, by omega⟩, ?_, fun c hc => ?_, by rw [List.length_map]; exact h1, by rw [List.length_map]; exact h2⟩
  · rw [List.map_map]
    refine (List.map_id l).symm.trans (List.map_congr_left fun c hc => ?_)
    obtain ⟨k1, k2, k3, k4⟩ := hfit c hc
    show c = ⟨c.w, (c.tm.toNat : Int), (c.rd.toNat : Int), c.ns⟩
    rw [Int.toNat_of_nonneg k1, Int.toNat_of_nonneg k3]
  · obtain ⟨x, hx, rfl⟩ := List.mem_map.1 hc
    obtain ⟨k1, k2, k3, k4⟩ := hfit x hx
    exact ⟨by show x.tm.toNat ≤ 3; omega, by show x.rd.toNat ≤ 5; omega⟩
end Go.Proofs.YtpjabgdcpogdiaaGreatDoor

/- GrA -/
namespace Go.Proofs.YtpjabgdcpogdiaaGreatDoor
open Go.RowKit Go.Extern.Stop Go.Stop Go.Extern Go.Maps Go.WideMaps Go.Sort

def hereTo (s : Rm) (j : Nat) : Nat := ((List.range j).filter fun c => s.ar.there c).length
theorem hereTo_succ (s : Rm) (j : Nat) : hereTo s (j + 1) = hereTo s j + (if s.ar.there j then 1 else 0) := by
  unfold hereTo
  rw [List.range_succ, List.filter_append, List.length_append]
  cases h : s.ar.there j <;> simp [List.filter, h]
theorem hereTo_le (s : Rm) (j : Nat) : hereTo s j ≤ j := by
  unfold hereTo
  exact Nat.le_trans (List.length_filter_le _ _) (by rw [List.length_range]; exact Nat.le_refl _)

set_option maxRecDepth 20000 in
set_option maxHeartbeats 1000000 in
theorem rmcount_any {p : RmPl} {s : Rm} {w : World} (h : RmAt p s w) :
    Calls Tryz.prog 9 #[.pointer (some ⟨p.mb, 0, none⟩)] w fun e w' => e = .returned (.int .i64 (hereTo s s.ar.size)) ∧ Below w.heap.size w w' := by
  have HH := hide h
  have h6 := h.small
  have hC := h.mCells
  have hcc := h.ccap
  clear h
  generalize hN : s.ar.size = N at *
  have HN := hide hN
  clear hN
  go_enter Tryz.func9, Tryz.ntmps9
  go_wp2_with fail
  go_loopw [3, 4] (fun n i wr => ∃ j : Nat, j ≤ N ∧ i = .int .i64 j ∧ n = .int .i64 (hereTo s j) ∧ Below w.heap.size w wr) (fun _ i _ => N - (intOf i).toNat)
  case atStart => exact ⟨0, Nat.zero_le _, rfl, rfl, Below.refl _ _⟩
  case round =>
    obtain ⟨j, hj, rfl, rfl, HB⟩ := hrel
    replace hC := keep_cell HB hC
    by_cases hlt : j < N
    · have ji : (j : Int) < N := by omega
      have hv := keep_cell HB (HH.out.cHere j (by rw [HN.out]; exact hlt))
      have hle := hereTo_le s j
      have HS := hereTo_succ s j
      generalize hereTo s j = k at *
      cases ht : s.ar.there j
      · rw [ht] at hv HS
        have HS2 : Hid (hereTo s (j + 1) = k) := hide (by simpa using HS)
        clear HS ht
        go_wp2_with fail
        go_roundw
        case rel => exact ⟨j + 1, by omega, by go_num, by rw [HS2.out], HB⟩
        case measure => simp [intOf]; omega
      · rw [ht] at hv HS
        have HS2 : Hid (hereTo s (j + 1) = k + 1) := hide (by simpa using HS)
        clear HS ht
        go_wp2_with fail
        go_roundw
        case rel => exact ⟨j + 1, by omega, by go_num, by rw [HS2.out]; go_num, HB⟩
        case measure => simp [intOf]; omega
    · obtain rfl : j = N := by omega
      go_wp2_with fail
      go_ret
      exact ⟨rfl, HB⟩

theorem upto_snoc (k : Nat) : upto (k + 1) = upto k ++ [(k : Int)] := by
  rw [upto_add]
  rfl
def ERel (cs : List (List Ins)) (p : RkPl) (m : Mk) (w : World) (k : Nat) (wr : World) : Prop := ∃ r v, RkStep cs p m.mem w r v (m.runO cs (upto k)).2 wr ∧ RkX cs (p.to r v) (m.runO cs (upto k)).2 (1 + k) wr
theorem ERel.turn {cs : List (List Ins)} {p : RkPl} {m : Mk} {w : World} {k : Nat} {wr : World} (h : ERel cs p m w k wr) (hk : k ≤ 20000) :
    Calls Tryz.prog 7 #[.pointer (some ⟨p.k, 0, none⟩), .int .i64 k] wr fun e w' => ∃ c : Int, e = .returned (.int .i64 c) ∧ ERel cs p m w (k + 1) w' := by
  obtain ⟨r, v, h1, h2⟩ := h
  refine (rturn_any h2 k).mono ?_
  rintro e w' ⟨he, r', v', h3⟩
  refine ⟨_, he, ?_⟩
  unfold ERel
  rw [upto_snoc, Mk.runO_snoc]
  exact ⟨r', v', h1.trans h3, h2.of h3 (h2.ok.turnO h2.right k (by omega)) (by omega)⟩

def Fin3 (n : Nat) (cs : List (List Ins)) (m : Mk) : Prop := restTo cs m n = true ∧ m.faults = 0 ∧ hereTo m.mem m.mem.ar.size = n + 3
theorem cast_fin {f : Nat} (hf : 1 ≤ f ∧ f ≤ 4) {cast : List Cs} (h : ∀ c ∈ cast, c.ok) (h1 : 1 ≤ cast.length) (h3 : cast.length ≤ 3) :
    Fin3 cast.length (cast.map (Cs.code f true)) ((gcM f cast.length).runO (cast.map (Cs.code f true)) (upto 20000)).2 := by
  obtain ⟨G, B, hG, hr⟩ := cast_end hf h h1 h3
  refine ⟨?_, hG.1.2.ok, hG.1.rest_count hr⟩
  unfold restTo
  rw [List.all_eq_true]
  intro t ht
  rw [List.mem_range] at ht
  have e : (cast.map (Cs.code f true)).getD t [] = cd f ((cast.getD t ⟨true, 0, 0, false⟩).pr) := by
    rw [List.getD_eq_getElem?_getD, gc_codes f cast t ht]; rfl
  have hl := (hG.2.1 _ ht).1
  rw [(hr _ ht).1] at hl
  have hl2 : (((gcM f cast.length).runO (cast.map (Cs.code f true)) (upto 20000)).2).pc t = (cd f ((cast.getD t ⟨true, 0, 0, false⟩).pr)).length := hl.1
  rw [e, (hr _ ht).2]
  have hd : doneAt (cd f ((cast.getD t ⟨true, 0, 0, false⟩).pr)) ((((gcM f cast.length).runO (cast.map (Cs.code f true)) (upto 20000)).2).pc t) = true := by
    unfold doneAt
    rw [hl2, List.getElem?_eq_none (Nat.le_refl _)]
  rw [hd]
  rfl

set_option maxRecDepth 20000 in
set_option maxHeartbeats 2000000 in
theorem gends_out (f : Int) (ad : Option Addr) (l : List CsI) (cap : Nat) (w : World) (hl : castsAt ad l w) (h : ¬ (Fit f l ∧ l.length ≤ 3)) :
    Calls Tryz.prog 3 #[.int .i64 f, .slice ad l.length cap] w fun e w' => e = .returned (.bool true) ∧ Below w.heap.size w w' := by
  have HF := hide (flavoured_any w)
  have HW := hide (fun w' (hb : Below w.heap.size w w') => wrongCast_any f ad l cap w' (hl.below hb))
  have HN := hide h
  clear hl h
  generalize hn : l.length = n at *
  go_enter Tryz.func3, Tryz.ntmps3
  go_wp2_with fail
  refine HF.out.mono ?_
  rintro e w1 ⟨rfl, hb⟩
  have HW1 := hide (HW.out w1 hb)
  clear HF HW
  go_wp2_with fail
  refine HW1.out.mono ?_
  rintro e w2 ⟨b, rfl, hfit, hb2⟩
  have HB2 := below_step hb hb2
  cases b with
  | true =>
    clear HW1 hb hb2 hfit HN
    go_wp2_with fail
    go_ret
    exact ⟨rfl, HB2⟩
  | false =>
    have hlen : 3 < (n : Int) := by
      have : ¬ n ≤ 3 := fun e => HN.out ⟨hfit.1 rfl, e⟩
      omega
    clear HW1 hb hb2 hfit HN
    go_wp2_with fail
    go_ret
    exact ⟨rfl, HB2⟩

set_option maxRecDepth 20000 in
set_option maxHeartbeats 4000000 in
theorem gends_in {f : Nat} (hf : 1 ≤ f ∧ f ≤ 4) (cast : List Cs) (hok : ∀ c ∈ cast, c.ok) (n : Nat) (hn : cast.length = n) (h1 : 1 ≤ n) (h3 : n ≤ 3) (ad : Option Addr) (cap : Nat) (w : World) (hl : castsAt ad (cast.map Cs.toI) w) :
    Calls Tryz.prog 3 #[.int .i64 f, .slice ad n cap] w fun e w' => e = .returned (.bool true) ∧ Below w.heap.size w w' := by
  have h4 : n ≤ 4 := Nat.le_trans h3 (by decide)
  have HF := hide (flavoured_any w)
  have HW := hide (fun w' (hb : Below w.heap.size w w') => right_cast (cap := cap) hf hok hn h1 h4 (hl.below hb))
  have HPL := hide (fun w' (hb : Below w.heap.size w w') => played_ok hf true cast hok n hn h1 h4 ad cap w' (hl.below hb))
  have HE : Hid (Fin3 n (cast.map (Cs.code f true)) ((gcM f n).runO (cast.map (Cs.code f true)) (upto 20000)).2) := hide (by
    have := cast_fin hf hok (by rw [hn]; exact h1) (by rw [hn]; exact h3)
    rwa [hn] at this)
  have hcl : (cast.map (Cs.code f true)).length = n := by rw [List.length_map, hn]
  have HCL := hide hcl
  have HLC := hide (fun w' (hb : Below w.heap.size w w') (j : Nat) (hj : j < n) => show ∃ c : CsI, ∃ b off, ad = some ⟨b, off, none⟩ ∧ w'.cell? ⟨b, off + j * 4 + 1, none⟩ = some (.int .i64 c.tm) ∧ w'.cell? ⟨b, off + j * 4 + 2, none⟩ = some (.int .i64 c.rd) by
    obtain ⟨c, hc⟩ : ∃ c, (cast.map Cs.toI)[j]? = some c := ⟨_, List.getElem?_eq_getElem (by rw [List.length_map, hn]; exact hj)⟩
    obtain ⟨b, off, e, -, c1, c2, -⟩ := hl.below hb j c hc
    exact ⟨c, b, off, e, c1, c2⟩)
  have i5 : ¬ 3 < (n : Int) := by omega
  clear hl hf hok hn h1 h4 hcl
  generalize cast.map (Cs.code f true) = cs at *
  generalize gcM f n = m0 at *
  generalize (f : Int) = fi at *
  go_enter Tryz.func3, Tryz.ntmps3
  go_wp2_with fail
  refine HF.out.mono ?_
  rintro e w1 ⟨rfl, hb1⟩
  have HW1 := hide (HW.out w1 hb1)
  clear HF HW
  go_wp2_with fail
  refine HW1.out.mono ?_
  rintro e w2 ⟨rfl, hb2⟩
  have HB2 := hide (below_step hb1 hb2)
  clear HW1 hb1 hb2
  go_wp2_with fail
  go_loopw [6] (fun i wr => ∃ j : Nat, j ≤ n ∧ i = .int .i64 j ∧ Hid (Below w.heap.size w wr)) (fun i _ => n - (intOf i).toNat)
  case atStart => exact ⟨0, Nat.zero_le _, rfl, HB2⟩
  case round =>
    clear HB2
    obtain ⟨j, hj, rfl, HB⟩ := hrel
    by_cases hlt : j < n
    · have ji : (j : Int) < n := by omega
      obtain ⟨c, b, off, rfl, c1, c2⟩ := HLC.out wr HB.out j hlt
      obtain ⟨cw, tm, rd, cn⟩ := c
      dsimp only at c1 c2
      have hd : 2 < tm ∨ ¬ 2 < tm ∧ (2 < rd ∨ ¬ 2 < rd) := by omega
      have hB := HB.out
      clear HLC HPL HE
      rcases hd with d1 | ⟨d1, d2 | d2⟩
      · go_wp2_with fail
        go_ret
        exact ⟨rfl, hB⟩
      · go_wp2_with fail
        go_ret
        exact ⟨rfl, hB⟩
      · go_wp2_with fail
        go_roundw
        case rel => exact ⟨j + 1, by omega, by go_num, HB⟩
        case measure => simp [intOf]; omega
    · obtain rfl : j = n := by omega
      have HP2 := hide (HPL.out wr HB.out)
      clear HPL HLC
      go_wp2_with fail
      refine HP2.out.mono ?_
      rintro e w3 ⟨p, rfl, hR⟩
      have HB3 := hide (below_step HB.out hR.out.2.1)
      have H0 : Hid (ERel cs p m0 w3 0 w3) := hide ⟨p.rp, p.mv, RkStep.refl hR.out.1.at', hR.out.1⟩
      have HBL : Hid (∀ k wr, ERel cs p m0 w3 k wr → Below w.heap.size w wr) := hide (fun k wr ⟨r, v, hk, _⟩ => HB3.out.trans (hk.turns.below HB3.out.size (fun b o hb hf => by
        rw [HCL.out] at hf
        have h7 := hR.out.2.2 b hf
        have h8 := HB.out.size
        omega)))
      have HTU : Hid (∀ (k : Nat) wr, k ≤ 20000 → ERel cs p m0 w3 k wr → Calls Tryz.prog 7 #[.pointer (some ⟨p.k, 0, none⟩), .int .i64 (k : Int)] wr fun e w' => ∃ c : Int, e = .returned (.int .i64 c) ∧ ERel cs p m0 w3 (k + 1) w') := hide (fun k wr hk h => h.turn hk)
      clear hR HP2 HB HB3
      go_wp2_with fail
      go_loopw [9] (fun i wr => ∃ k : Nat, k ≤ 20000 ∧ i = .int .i64 k ∧ Hid (ERel cs p m0 w3 k wr)) (fun i _ => 20000 - (intOf i).toNat)
      case atStart => exact ⟨0, Nat.zero_le _, rfl, H0⟩
      case round =>
        clear H0
        obtain ⟨k, hk, rfl, HH⟩ := hrel
        by_cases hlt : k < 20000
        · have ki : (k : Int) < 20000 := by omega
          have HC := hide (HTU.out k wr hk HH.out)
          clear HH HTU HBL
          go_wp2_with fail
          refine HC.out.mono ?_
          rintro e w5 ⟨c, rfl, h5⟩
          have HN := hide h5
          clear h5 HC
          go_wp2_with fail
          go_roundw
          case rel => exact ⟨k + 1, by omega, by go_num, HN⟩
          case measure => simp [intOf]; omega
        · obtain rfl : k = 20000 := by omega
          have hlow := HBL.out _ _ HH.out
          obtain ⟨r, v, hk1, hx1⟩ := HH.out
          obtain ⟨hrt, hfa, hct⟩ := HE.out
          have hre := rrest_any hk1.at'
          rw [HCL.out, hrt] at hre
          have HRE : Hid (Calls Tryz.prog 8 #[.pointer (some ⟨p.k, 0, none⟩)] wr fun e w' => e = .returned (.bool true) ∧ Below wr.heap.size wr w') := hide hre
          have hFa : wr.cell? ⟨p.k, 3, none⟩ = some (.int .i64 0) := by
            have := hk1.at'.mFaults
            rw [hfa] at this
            exact this
          have HA := hide hk1.at'
          have HCT := hide hct
          clear hk1 hx1 hre hrt HH HTU HBL HE hfa hct
          generalize (m0.runO cs (upto 20000)).2 = M at *
          rw [show ((20000 : Nat) : Int) = 20000 from rfl]
          go_wp2_with fail
          refine HRE.out.mono ?_
          rintro e w5 ⟨rfl, hb5⟩
          have hlow5 := below_step hlow hb5
          replace hFa := keep_cell hb5 hFa
          have hq := HA.out.below hb5
          have hM : w5.cell? ⟨p.k, 0, none⟩ = some (.pointer (some ⟨r.mb, 0, none⟩)) := hq.mM
          have hmem : RmAt r M.mem w5 := hq.mem
          have hco := rmcount_any hmem
          rw [HCT.out] at hco
          have HCO := hide hco
          clear HRE HA hq hmem hlow hb5 hco HCT
          go_wp2_with fail
          refine HCO.out.mono ?_
          rintro e w6 ⟨rfl, hb6⟩
          have hlow6 := below_step hlow5 hb6
          clear HCO hlow5 hb6
          go_wp2_with fail
          go_ret
          refine ⟨?_, hlow6⟩
          simp

theorem gends_any (f : Int) (ad : Option Addr) (l : List CsI) (cap : Nat) (w : World) (hl : castsAt ad l w) :
    Calls Tryz.prog 3 #[.int .i64 f, .slice ad l.length cap] w fun e w' => e = .returned (.bool true) ∧ Below w.heap.size w w' := by
  by_cases h : Fit f l ∧ l.length ≤ 3
  · obtain ⟨k, cast, rfl, hk, rfl, hok, h1, h4⟩ := cast_of h.1
    have h3 := h.2
    rw [List.length_map] at h3 ⊢
    exact gends_in hk cast hok _ rfl h1 h3 ad cap w hl
  · exact gends_out f ad l cap w hl h
end Go.Proofs.YtpjabgdcpogdiaaGreatDoor

/- GrB -/
namespace Go.Proofs.YtpjabgdcpogdiaaGreatDoor
open Go.ChangeShapes Go.WideShapes Go.ChangeAt Go.RowKit Go.Joins Go.Deep

theorem cells_CastE : Tryz.prog.cellsOf 26 = 4 := by kernel_rfl
theorem cells_bCE : Tryz.prog.cellsOf 4 = 1 := by kernel_rfl
set_option maxRecDepth 100000 in
theorem cast_of_trodE {H : Type} {enc : TypeId × Value → H} {W : World} {sp : Nat → Bool} {held : Bool} {fuel : Nat} {cs : List Value} {x : DataW H × List MemPlace}
    (h : DataW.trod enc Tryz.prog W 0 sp held fuel 26 cs = some x) : ∃ y : CsI, cs = [.bool y.w, .int .i64 y.tm, .int .i64 y.rd, .bool y.ns] := by
  obtain ⟨xs, n, _, _, hl, hlen, hf⟩ := DataW.trod_struct Tryz.underlying26 h
  rw [cells_CastE] at hl
  match cs, hl with
  | [c0, c1, c2, c3], _ =>
    match xs, hlen with
    | [x0, x1, x2, x3], _ =>
      have f0 : DataW.trod enc Tryz.prog W 0 sp held n 4 [c0] = some x0 := by simpa [cells_bCE] using hf 0 _ rfl
      have f1 : DataW.trod enc Tryz.prog W 0 sp held n 3 [c1] = some x1 := by simpa [kcellsS_n] using hf 1 _ rfl
      have f2 : DataW.trod enc Tryz.prog W 0 sp held n 3 [c2] = some x2 := by simpa [kcellsS_n] using hf 2 _ rfl
      have f3 : DataW.trod enc Tryz.prog W 0 sp held n 4 [c3] = some x3 := by simpa [cells_bCE] using hf 3 _ rfl
      obtain ⟨r0, e0, _, _⟩ := DataW.trod_bool Tryz.underlying4 f0
      obtain ⟨r1, e1, _, _⟩ := DataW.trod_int Tryz.underlying3 f1
      obtain ⟨r2, e2, _, _⟩ := DataW.trod_int Tryz.underlying3 f2
      obtain ⟨r3, e3, _, _⟩ := DataW.trod_bool Tryz.underlying4 f3
      refine ⟨⟨r0, r1, r2, r3⟩, ?_⟩
      simp only [List.cons.injEq, and_true] at e0 e1 e2 e3
      rw [e0, e1, e2, e3]
theorem casts_of_trodE {H : Type} {enc : TypeId × Value → H} {W : World} {fuel : Nat} {sp : Nat → Bool} {held : Bool} {cs : List Value} {x : DataW H × List MemPlace} (h : DataW.trod enc Tryz.prog W 0 sp held fuel 22 cs = some x) :
    ∃ (ad : Option Addr) (cap : Nat) (l : List CsI), cs = [.slice ad l.length cap] ∧ castsAt ad l W := by
  have hinh : Inhabited CsI := ⟨⟨false, 0, 0, false⟩⟩
  obtain ⟨ad, cap, l, h1, h2, -⟩ := listS_of_trod (fun y : CsI => [.bool y.w, .int .i64 y.tm, .int .i64 y.rd, .bool y.ns]) 4 (by decide) (fun _ => True) Tryz.underlying22 cells_CastE (fun _ => rfl) (fun n cs x h => by obtain ⟨y, e⟩ := cast_of_trodE h; exact ⟨y, e, trivial⟩) h
  refine ⟨ad, cap, l, h1, fun i y hy => ?_⟩
  obtain ⟨b, off, e, hc, -⟩ := h2 i y hy
  exact ⟨b, off, e, hc 0 (by decide), hc 1 (by decide), hc 2 (by decide), hc 3 (by decide)⟩

theorem five_plainE : (Rows.graceEndsRow.laid.all fun x => x.2.handleName?.isNone) = true := by kernel_rfl
theorem five_metE (os : Os) (args : Array Value) : laidMetH Tryz.prog Rows.graceEndsRow.laid ((World.laidAll Tryz.prog os Rows.graceEndsRow.laid).forCall (fun _ _ => 0) ⟨#[], args, []⟩).memory := by
  rw [MakeChecks.laidMetH_plain _ _ _ five_plainE]
  exact laidMet_laidAll _ (by kernel_rfl) (by kernel_rfl)
theorem readableGE : ∀ t ∈ [3, 22], Tryz.prog.readableRec t = true ∧ t < Tryz.prog.types.size := by
  intro t ht
  simp only [List.mem_cons, List.not_mem_nil, or_false] at ht
  rcases ht with rfl | rfl
  · exact ⟨by kernel_rfl, of_decide_eq_true (by kernel_rfl)⟩
  · exact ⟨by kernel_rfl, of_decide_eq_true (by kernel_rfl)⟩

set_option maxRecDepth 100000 in
theorem gends_lifted (os : Os) (started : os.Started) (H : Type) (enc : TypeId × Value → H) :
    ReturnsInHanded {} Tryz.checked os 3 .any (fun w args => (Rows.graceEndsSpec.pre enc Tryz.prog Tryz.f3 [] false w args ∧ laidMetH Tryz.prog Rows.graceEndsRow.laid w) ∧ sizedMet enc Tryz.prog Tryz.f3 (OpenSpec.ofChange Rows.graceEndsSpec) false w args)
      (Rows.graceEndsSpec.post enc Tryz.prog Tryz.f3 false true false false) := by
  refine lift_shaped (C := Tryz.checked) (X := fun w _ => laidMetH Tryz.prog Rows.graceEndsRow.laid w) (fun _ _ _ hh h => h.of_heap hh) own started (by kernel_rfl) Tryz.func3
    (ChangeSpec.witness_shaped (enc := enc) (C := Tryz.checked) (os := os) (X := fun w _ => laidMetH Tryz.prog Rows.graceEndsRow.laid w) false (World.laidAll Tryz.prog os Rows.graceEndsRow.laid) #[.int .i64 0, .slice none 0 0] 8 (World.laidAll_os _ _ _)
      (World.shaped_of_ZipB (by kernel_rfl) (by kernel_rfl)) (by kernel_rfl) (by kernel_rfl) (by kernel_rfl) (five_metE os _)) ?_
  intro W base args ds gs before hval0 hW hL hsh
  have hval : ∀ (j : Nat) t v, Tryz.f3.params[j]? = some t → args[j]? = some v → Value.okWide Tryz.prog W .any base t v := hval0
  have hW' := hW
  obtain ⟨p, q, hA0, hV, rfl, hfz, hnd⟩ := hW
  have hA : DataW.TrodAll enc Tryz.prog W 0 (fun _ => true) true Tryz.f3.params.toList args.toList ds p := hA0
  rw [Tryz.params3] at hA hval
  have hA2 := hA
  obtain ⟨v0, v1, d0, d1, p0, p1, rfl, rfl, rfl, h0, h1⟩ := trodAll_two hA
  obtain ⟨rfl, rfl⟩ := trodVars_none hV
  obtain ⟨n0, rfl⟩ := okWide_int Tryz.underlying3 (hval 0 3 v0 rfl rfl)
  obtain ⟨s1, sl1, sc1, rfl⟩ := okWide_slice Tryz.underlying22 (hval 1 22 v1 rfl rfl)
  obtain ⟨f1, hf1⟩ := h1
  obtain ⟨adb, capb, lb, q1, hcb⟩ := casts_of_trodE hf1
  obtain ⟨rfl, rfl, rfl⟩ : s1 = adb ∧ sl1 = lb.length ∧ sc1 = capb := by simpa [Value.cells] using q1
  clear hA0 hval0
  simp only [List.append_nil] at hW'
  refine (gends_any n0 s1 lb sc1 W hcb).mono fun e W' ⟨he, hb⟩ => ?_
  subst he
  refine ⟨_, rfl, _, _, _, [], p0 ++ p1, [], hW', ?_, ?_, ?_, hb.frame _, fun h => by cases h⟩
  · exact trodAll_mk1 (shut_bool Tryz.underlying4 true)
  · exact trodAll_below laidOutA hb _ _ _ _ readableGE hA2
  · rfl

theorem gends_holds : Rows.GraceEndsSaid :=
  OpenClaim.holds_of_wide 3 Tryz.f3 rfl rfl rfl rfl rfl rfl rfl ⟨rfl, rfl, rfl, rfl, rfl⟩ rfl rfl rfl rfl rfl (by kernel_rfl) Tryz.func3 (by kernel_rfl)
    (of_decide_eq_true (by kernel_rfl)) (by unfold Func.isWrapper; rw [if_neg (of_decide_eq_false (by kernel_rfl))]; exact ⟨rfl, rfl⟩)
    (fun os started H enc _ => gends_lifted os started H enc)

theorem gends_card : Rows.GraceEndsCardSaid :=
  Claim7.holds_tied_plain_at .later [] [.data, .data, .data, .sentinel, .sentinel] true (true, "12f08ddf0dca97b6de67808f827edc23a6e90a2e198bc8f400938b64fdbf5f56") false
    gends_holds (fun _ h => absurd h List.not_mem_nil) (by kernel_rfl) (fun _ h => absurd h List.not_mem_nil) graceEnds_row_tie rfl ⟨rfl, rfl⟩ (by kernel_rfl) rfl
    (fun f fn hf hfn => by
      obtain rfl : f = 3 := (Option.some.inj ((show Tryz.prog.funcNamed "quiescent/quiescentlaw2.GraceEnds" = some 3 by kernel_rfl).symm.trans hf)).symm
      obtain rfl : fn = Tryz.f3 := (Option.some.inj (Tryz.func3.symm.trans hfn)).symm
      exact ⟨by kernel_rfl, fun j t ht => by
        rw [Tryz.params3] at ht
        rcases j with _ | _ | j
        · obtain rfl : t = 3 := by simpa using ht.symm
          exact (show Tryz.prog.wantsStandIn 3 = false by kernel_rfl)
        · obtain rfl : t = 22 := by simpa using ht.symm
          exact (show Tryz.prog.wantsStandIn 22 = false by kernel_rfl)
        · simp at ht⟩)
    (by kernel_rfl)
#print axioms gends_card
end Go.Proofs.YtpjabgdcpogdiaaGreatDoor
