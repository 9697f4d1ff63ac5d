import Derived.Test.YtgmokighfgdnjaaGreatDoorB40
import Derived.Test.YtgmokighfgdnjaaGreatDoorB41
import Derived.Test.YtgmokighfgdnjaaGreatDoorB26
import Derived.Test.YtgmokighfgdnjaaGreatDoorB32
import Derived.Deep.Cut

/- StL -/
namespace Go.Proofs.YtgmokighfgdnjaaGreatDoor
open Go.RowKit

theorem wd_zero : Wd 0 := ⟨by decide, by decide⟩
theorem rowAt_wd {R : List (List Int)} {n : Nat} (h : rowsOk n R = true) (t r : Nat) : Wd (rowAt R t r) := by
  unfold rowAt
  cases ht : R[t]? with
  | none =>
    have e : R.getD t [] = [] := by rw [List.getD_eq_getElem?_getD, ht]; rfl
    rw [e]; exact wd_zero
  | some row =>
    have e : R.getD t [] = row := by rw [List.getD_eq_getElem?_getD, ht]; rfl
    rw [e]
    cases hr : row[r]? with
    | none => rw [List.getD_eq_getElem?_getD, hr]; exact wd_zero
    | some v => rw [List.getD_eq_getElem?_getD, hr]; exact (rowOk_at h ht).2 r v hr
theorem Sta.mach_ok {s : Sta} {n : Nat} (h : s.fits n = true) (h2 : s.cells ≤ 64) (hn : n ≤ 6) : MkOk n 1 (s.mach n) := by
  obtain ⟨-, f2, -, f4⟩ := Sta.fits_of h
  refine ⟨⟨fun t _ x hx => ?_, fun t _ => ?_, fun c k => ?_, fun c => ?_, ?_, hn⟩, rfl, fun t r => rowAt_wd f4 t r, Nat.zero_le _, Nat.zero_le _, fun _ => Nat.zero_le _⟩
  · exact absurd hx List.not_mem_nil
  · exact Nat.zero_le _
  · show Wd (if _ then rowAt s.init c k else 0)
    split
    · exact rowAt_wd f2 c k
    · exact wd_zero
  · show (if c < s.init.length then 1 else 0) ≤ 1
    split <;> decide
  · show s.cells.toNat ≤ 64
    omega
end Go.Proofs.YtgmokighfgdnjaaGreatDoor

/- SpJ -/
namespace Go.Proofs.YtgmokighfgdnjaaGreatDoor
open Go.RowKit Go.Extern.Stop Go.Stop Go.Extern Go.Maps Go.WideMaps Go.Sort

theorem rowsInfo : ∃ i, (Tryz.prog).info? 36 = some i ∧ i.zero = some (.slice none 0 0) ∧ i.size = 1 ∧ i.bytes = 24 := info_parts (by kernel_rfl)
theorem codesInfo : ∃ i, (Tryz.prog).info? 24 = some i ∧ i.zero = some (.slice none 0 0) ∧ i.size = 1 ∧ i.bytes = 24 := info_parts (by kernel_rfl)

theorem Prep.first {tm : Nat} {w w1 : World} (hb : Below w.heap.size w w1) : ∃ vs rv rs, Prep tm 0 0 w (w1.heap.size + 1 + 1 + 1) (w1.heap.size + 1 + 1) (w1.heap.size + 1) (.slice none 0 0) vs rv rs (((w1.alloc (.cells #[] 3)).alloc (.cells #[.slice (some ⟨w1.heap.size, 0, none⟩) 0 0] 36)).alloc (.cells #[.int .i64 1, .slice (some ⟨w1.heap.size + 1, 0, none⟩) 1 1, .slice none 0 0] 75)) := by
  have hs := hb.size
  obtain ⟨Wa, hWa⟩ : ∃ Wa, Wa = (w1.alloc (.cells #[] 3)).alloc (.cells #[.slice (some ⟨w1.heap.size, 0, none⟩) 0 0] 36) := ⟨_, rfl⟩
  rw [← hWa]
  have hz : Wa.heap.size = w1.heap.size + 1 + 1 := by rw [hWa]; simp
  have n := World.cell?_alloc_new Wa #[.int .i64 1, .slice (some ⟨w1.heap.size + 1, 0, none⟩) 1 1, .slice none 0 0] 75
  have f := fun o => World.frozen?_alloc_new Wa #[.int .i64 1, .slice (some ⟨w1.heap.size + 1, 0, none⟩) 1 1, .slice none 0 0] 75 o
  rw [hz] at n f
  have ci : Wa.cell? ⟨w1.heap.size + 1, 0, none⟩ = some (.slice (some ⟨w1.heap.size, 0, none⟩) 0 0) := by rw [hWa]; simp
  have hbW : Below w.heap.size w Wa := by rw [hWa]; exact (hb.alloc hs _).alloc (by simp; omega) _
  refine ⟨[], .slice none 0 0, [], ?_⟩
  exact {
    own := World.ownsRow_nil _ _ _ _
    ownr := World.ownsRow_nil _ _ _ _
    codes := fun u hu => (by cases hu)
    rows := fun u hu => (by cases hu)
    nec := fun u hu => (by cases hu)
    ner := fun u hu => (by cases hu)
    ne := fun b e => (by cases e)
    low := hbW.alloc (by omega) _
    b0 := by omega
    sb0 := by omega
    sb1 := by omega
    bi1 := by omega
    bs := by omega
    c0 := (n 0).trans rfl
    c1 := (n 1).trans rfl
    c2 := (n 2).trans rfl
    ci := ⟨_, _, keep_cell ((Below.refl _ _).alloc (Nat.le_refl _) _) ci⟩
    fz := fun o => f o
    sz := by simp; omega }

theorem Prep.box {tm jc jr : Nat} {w0 : World} {base sb bi : Nat} {v : Value} {vs : List Value} {rv : Value} {rs : List Value} {w w' : World} (h : Prep tm jc jr w0 base sb bi v vs rv rs w) (hg : w.grownBy w' rv.ownBlock) : w'.cell? ⟨sb, 2, none⟩ = some rv ∧ w'.frozen? ⟨sb, 2, none⟩ = false := by
  have hB : Below base w w' := (Below.refl base w).grown hg h.sz (fun k hk => (h.ownr.lt k hk).1)
  exact ⟨by rw [World.cell?_of_block (hB.block sb h.sb1)]; exact h.c2, by rw [World.frozen?_of_block (hB.block sb h.sb1)]; exact h.fz 2⟩
set_option maxRecDepth 20000 in
theorem field_fault (a b : Int) (w : World) : (Instr.field 67 (.agg #[.int .i64 a, .int .i64 b]) 0).run Tryz.prog w = .ok (.int .i64 a) w := by
  rfl
end Go.Proofs.YtgmokighfgdnjaaGreatDoor

/- GdX -/
namespace Go.Proofs.YtgmokighfgdnjaaGreatDoor
open Go.RowKit Go.Extern.Stop Go.Stop Go.Extern Go.Maps Go.WideMaps Go.Sort

theorem wp_first {w1 w6 : World} {ov : Value} {orow : List Int} (hB : Below w1.heap.size w1 w6) (ho : numsOwn w6 w1.heap.size ov orow) :
    WP w1.heap.size w6.heap.size w1 [(ov, orow)] (.slice none 0 0) [] [] (.slice none 0 0) [] [] (w6.alloc (.cells #[.int .i64 30, .slice none 0 0, .slice none 0 0] 75)) := by
  have n := World.cell?_alloc_new w6 #[.int .i64 30, .slice none 0 0, .slice none 0 0] 75
  have hb : Below w6.heap.size w6 (w6.alloc (.cells #[.int .i64 30, .slice none 0 0, .slice none 0 0] 75)) := (Below.refl _ _).alloc (Nat.le_refl _) _
  exact {
    c0 := (n 0).trans rfl
    c1 := (n 1).trans rfl
    c2 := (n 2).trans rfl
    fz := fun o => World.frozen?_alloc_new _ _ _ o
    oi := World.ownsRow_nil _ _ _ _
    or' := World.ownsRow_nil _ _ _ _
    ei := fun i row hr => by simp at hr
    er := fun i row hr => by simp at hr
    ni := fun e => nomatch e
    nr := fun e => nomatch e
    ne := fun b e => nomatch e
    kp := fun x hx => by
      obtain rfl : x = (ov, orow) := by simpa using hx
      exact ⟨numsOwn_keep ho hb, fun b e => ⟨by have := (World.ownsRow.lt ho b e).2; omega, (fun e2 => nomatch e2), (fun e2 => nomatch e2)⟩⟩
    low := hB.trans (hb.mono hB.size)
    bs := hB.size
    sl := by simp }
def gI (f n t : Nat) : List (List Int) := hubW f :: (List.range t).map (ownW f n)
def gR (n t : Nat) : List (List Int) := (List.range t).map (gcRegs n)
theorem gI_succ (f n t : Nat) : gI f n t ++ [ownW f n t] = gI f n (t + 1) := by
  unfold gI
  rw [List.range_succ, List.map_append]
  rfl
theorem gR_succ (n t : Nat) : gR n t ++ [gcRegs n t] = gR n (t + 1) := by
  unfold gR
  rw [List.range_succ, List.map_append]
  rfl
theorem gI_len (f n t : Nat) : (gI f n t).length = t + 1 := by simp [gI]
theorem gR_len (n t : Nat) : (gR n t).length = t := by simp [gR]
theorem gI_end (f n : Nat) : gI f n n ++ [[(n : Int) + 3], [1]] = gcInit f n := rfl
theorem numsOwn_new' {w : World} {l : List Int} {cs : Array Value} {base k : Nat} (h : cs.toList = ncells l) (hk : l.length = k) (hb : base ≤ w.heap.size) (hl : l.length ≤ 1000000) : numsOwn (w.alloc (.cells cs 3)) base (.slice (some ⟨w.heap.size, 0, none⟩) k k) l := by
  subst hk; exact numsOwn_new h hb hl
theorem ap_new {base sb : Nat} {w1 : World} {K : List (Value × List Int)} {iv : Value} {vs : List Value} {I : List (List Int)} {rv : Value} {rs : List Value} {R : List (List Int)} {w : World} (h : WP base sb w1 K iv vs I rv rs R w) {u : Value} (hu : ∀ b, u.ownBlock = some b → w.heap.size ≤ b) : Ap sb iv rv u := fun b e => by
  have h1 := hu b e
  have h2 := h.sl
  exact ⟨by omega, fun e2 => by have := (h.oi.lt b e2).2; omega, fun e2 => by have := (h.or'.lt b e2).2; omega⟩

set_option maxRecDepth 20000 in
set_option maxHeartbeats 4000000 in
theorem world_plain {f : Nat} (hf : 1 ≤ f ∧ f ≤ 4) (h4 : f ≠ 4) (n : Nat) (h1 : 1 ≤ n) (h6 : n ≤ 6) (w : World) :
    Calls Tryz.prog 36 #[.int .i64 f, .int .i64 n] w fun e w' => ∃ ai ci ar cr, e = .returned (.tuple #[.agg #[.int .i64 30, .slice ai (n + 3) ci, .slice ar n cr], .bool true]) ∧ StaAt (gcSta f n) ⟨ai, ci, ar, cr⟩ w' ∧ Below w.heap.size w w' := by
  have HH := hide (hub_ok hf)
  have HO := hide (own_ok hf)
  have HK := hide (link_ok hf)
  rw [show linkX f = 1 from if_neg h4] at HK
  have HW : Hid (hubW f = [1, 2, 0, 0]) := hide (by unfold hubW; rw [if_neg h4])
  have HN : Hid (∀ t, ownW f n t = [ownX f, if t + 1 < n then (t : Int) + 3 else 0, 0, 0]) := hide fun t => by unfold ownW ownX; rw [if_neg h4]
  have n6 : (n : Int) ≤ 6 := by omega
  have n0 : (0 : Int) ≤ n := by omega
  have wn2 : IntKind.i64.wrap ((n : Int) + 2) = (n : Int) + 2 := by rw [IntKind.wrap_i64]; omega
  have wn3 : IntKind.i64.wrap ((n : Int) + 3) = (n : Int) + 3 := by rw [IntKind.wrap_i64]; omega
  obtain ⟨rii, hrii, hrz, hrs, hrb⟩ := rowsInfo
  clear h4 hf
  generalize ownX f = ox at *
  generalize hfi : (f : Int) = fi at *
  clear hfi
  go_enter Tryz.func36, Tryz.ntmps36
  go_wp2_with fail
  generalize hw1 : w.alloc _ = w1
  have b1 : Below w.heap.size w w1 := by rw [← hw1]; exact (Below.refl _ w).alloc (Nat.le_refl _) _
  have s1 : w1.heap.size = w.heap.size + 1 := by rw [← hw1]; simp
  have t0 : w1.cell? ⟨w.heap.size, 0, none⟩ = some (.int .i64 0) := by rw [← hw1, World.cell?_alloc_new]; rfl
  have t1 : w1.cell? ⟨w.heap.size, 1, none⟩ = some (.slice none 0 0) := by rw [← hw1, World.cell?_alloc_new]; rfl
  have t2 : w1.cell? ⟨w.heap.size, 2, none⟩ = some (.slice none 0 0) := by rw [← hw1, World.cell?_alloc_new]; rfl
  have tz : ∀ o, w1.frozen? ⟨w.heap.size, o, none⟩ = false := fun o => by rw [← hw1]; exact World.frozen?_alloc_new _ _ _ _
  have HT := hide (And.intro t0 (And.intro t1 (And.intro t2 tz)))
  have HS1 := hide s1
  have HB1 := hide b1
  clear hw1 t0 t1 t2 tz s1 b1
  refine (HH.out _).mono ?_
  rintro e w2 ⟨hv, rfl, hh, hb2⟩
  obtain ⟨gh, ch, rfl, hgh, hlh, hch⟩ : ∃ g cap, hv = .slice (some ⟨g, 0, none⟩) 4 cap ∧ w1.heap.size ≤ g ∧ g < w2.heap.size ∧ 4 ≤ cap := numsOwn_form hh (by decide)
  have HHV := hide hh
  have HB2 := hide hb2
  clear hh hb2 hgh hlh hch HH
  go_wp2_with fail
  refine (HO.out _).mono ?_
  rintro e w3 ⟨ov, rfl, ho, hb3⟩
  obtain ⟨go, co, rfl, hgo, hlo, hco⟩ : ∃ g cap, ov = .slice (some ⟨g, 0, none⟩) 4 cap ∧ w2.heap.size ≤ g ∧ g < w3.heap.size ∧ 4 ≤ cap := numsOwn_form ho (Nat.succ_pos _)
  have HHV3 := hide (numsOwn_keep HHV.out hb3)
  have HB3 := hide (below_step HB2.out hb3)
  have HOV := hide (numsOwn_mono ho HB2.out.size)
  clear ho hb3 hgo hlo hco HO HHV HB2
  go_wp2_with fail
  refine (HK.out _).mono ?_
  rintro e w4 ⟨rfl, e4⟩
  obtain rfl : w3 = w4 := e4.symm
  clear HK
  go_wp2_with (at_builtin; refine wpList_append_ints _ rfl _ _ rfl w3.heap.size [] [1, 0, 0, 0] (.slice none 0 0) ⟨gh, 0, none⟩ ch rfl (numsOwn_nil _ _) rfl ?b1 (by decide) (Nat.le_refl _) ?_)
  case b1 =>
    obtain ⟨_, _, e, _, hq⟩ := numsOwn_at HHV3.out
    cases e; exact hq
  intro v5 w5 ho5 hb5 hs5 hg5 hl5
  obtain ⟨g5, c5, rfl, hg5a, hg5b, hc5⟩ : ∃ g cap, v5 = .slice (some ⟨g, 0, none⟩) 4 cap ∧ w3.heap.size ≤ g ∧ g < w5.heap.size ∧ 4 ≤ cap := numsOwn_form ho5 (by decide)
  have HV5 : Hid (numsOwn w5 w3.heap.size (.slice (some ⟨g5, 0, none⟩) 4 c5) [1, 0, 0, 0]) := hide ho5
  have HB5 := hide (below_step HB3.out hb5)
  have HOV5 := hide (numsOwn_keep HOV.out hb5)
  have HNE : Hid (∀ b, (Value.slice (some ⟨go, 0, none⟩) 4 co).ownBlock = some b → b ≠ g5) := hide fun b e e2 => by
    have := (World.ownsRow.lt HOV.out b e).2
    omega
  have HG5 := hide (And.intro hg5a hg5b)
  have HLE := hide HB3.out.size
  clear ho5 hb5 hs5 hg5 hl5 hg5a hg5b HHV3 HB3 HOV
  go_wp2_with fail
  go_loopw [12] (fun l wr => l = .slice (some ⟨g5, 0, none⟩) 4 c5 ∧ wr = w5) (fun _ _ => 0)
  case atStart => exact ⟨rfl, rfl⟩
  case round =>
    obtain ⟨rfl, ewr⟩ := hrel
    obtain rfl : w5 = wr := ewr.symm
    obtain ⟨k1, kf⟩ : w5.cell? ⟨g5, 1, none⟩ = some (.int .i64 0) ∧ w5.frozen? ⟨g5, 1, none⟩ = false := numsOwn_cell HV5.out rfl
    go_upto_region 12 with (fail)
    have HV6 : Hid (numsOwn (w5.setCell ⟨g5, 1, none⟩ (.int .i64 2)) w3.heap.size (.slice (some ⟨g5, 0, none⟩) 4 c5) [1, 2, 0, 0]) := hide (numsOwn_set HV5.out 1 2)
    have HB6 : Hid (Below w1.heap.size w1 (w5.setCell ⟨g5, 1, none⟩ (.int .i64 2))) := hide (HB5.out.setCell (show w1.heap.size ≤ g5 by have := HG5.out.1; have := HLE.out; omega) _)
    have HOV6 : Hid (numsOwn (w5.setCell ⟨g5, 1, none⟩ (.int .i64 2)) w1.heap.size (.slice (some ⟨go, 0, none⟩) 4 co) [ox, 0, 0, 0]) := hide (ownsRow_block HOV5.out (fun b e => Below.heap_setCell _ _ _ _ (fun e2 => HNE.out b e e2)))
    clear k1 kf HV5 HB5 HOV5
    generalize w5.setCell ⟨g5, 1, none⟩ (.int .i64 2) = w6 at *
    have HP0 := hide (wp_first HB6.out HOV6.out)
    have HV7 := hide (numsOwn_keep (numsOwn_mono HV6.out HLE.out) ((Below.refl _ _).alloc (Nat.le_refl _) (.cells #[.int .i64 30, .slice none 0 0, .slice none 0 0] 75)))
    have HA7 : Hid (Ap w6.heap.size (.slice none 0 0) (.slice none 0 0) (.slice (some ⟨g5, 0, none⟩) 4 c5)) := hide fun b e => ⟨by have := (World.ownsRow.lt HV6.out b e).2; omega, (fun e2 => nomatch e2), (fun e2 => nomatch e2)⟩
    go_upto_region 13 with (fail)
    clear HV6 HB6 HOV6
    generalize w6.alloc (.cells #[.int .i64 30, .slice none 0 0, .slice none 0 0] 75) = w7 at *
    generalize w6.heap.size = sb at *
    have c1 := HP0.out.c1
    have z1 := HP0.out.fz 1
    have bel : Below w7.heap.size w7 (w7.alloc (.cells #[.slice (some ⟨g5, 0, none⟩) 4 c5] 36)) := (Below.refl _ _).alloc (Nat.le_refl _) _
    go_wp2_with (at_builtin; refine wpList_append_own_at _ rfl _ _ 73 rfl w1.heap.size 36 rii (.slice none 0 0) 1 24 Tryz.underlying73 hrii hrz hrs hrb rfl (by decide) (.slice none 0 0) 0 [] rfl ?c0 ⟨w7.heap.size, 0, none⟩ 1 1 [.slice (some ⟨g5, 0, none⟩) 4 c5] rfl rfl ?c1 ?c2 ?c3 ?c4 ?c5 ?_)
    case c0 => exact (HP0.out.below bel).oi
    case c2 => rfl
    case c3 => decide
    case c5 => have := HP0.out.bz; omega
    intro iv8 w8 ho8 hg8 hnil8 hloc8
    have HP8 : Hid (WP w1.heap.size sb w1 [(.slice (some ⟨go, 0, none⟩) 4 co, [ox, 0, 0, 0])] iv8 [.slice (some ⟨g5, 0, none⟩) 4 c5] (gI f n 0) (.slice none 0 0) [] (gR n 0) (w8.setCell ⟨sb, 1, none⟩ iv8)) := hide (by
      rw [show gI f n 0 = [[1, 2, 0, 0]] by show [hubW f] = _; rw [HW.out]]
      exact (HP0.out.below bel).addI (us := [.slice (some ⟨g5, 0, none⟩) 4 c5]) (rws := [[1, 2, 0, 0]]) (fun k row hr => by
        cases k with
        | zero => cases hr; exact ⟨_, rfl, numsOwn_keep HV7.out bel, HA7.out⟩
        | succ k => simp at hr) (N := w7.heap.size + 1) (by simp) ho8 hg8 hloc8)
    obtain ⟨C8, Z8⟩ := (HP0.out.below bel).box hg8 HP0.out.ni
    have c1' := (C8 1).trans (HP0.out.below bel).c1
    have z1' := Z8 1
    obtain ⟨ag, cg, rfl, -⟩ := ownsRow_shape ho8
    clear ho8 hg8 hnil8 hloc8 C8 Z8 bel c1 z1 HP0 HV7 HA7
    go_wp2_with fail
    clear c1' z1'
    generalize w8.setCell ⟨sb, 1, none⟩ (.slice ag 1 cg) = w9 at *
    go_loopw [14, 15] (fun i _ wr => ∃ t : Nat, t ≤ n ∧ i = .int .i64 t ∧ Hid (∃ iv vs rv rs, WP w1.heap.size sb w1 [(.slice (some ⟨go, 0, none⟩) 4 co, [ox, 0, 0, 0])] iv vs (gI f n t) rv rs (gR n t) wr)) (fun i _ _ => n - (intOf i).toNat)
    case atStart => exact ⟨0, Nat.zero_le _, rfl, hide ⟨_, _, _, _, HP8.out⟩⟩
    case round =>
      clear HP8
      obtain ⟨wo, hwo⟩ : ∃ wo : World, wo = wr := ⟨_, rfl⟩
      subst hwo
      obtain ⟨t, ht, rfl, HP⟩ := hrel
      obtain ⟨iv, vs, rv, rs, hP⟩ := HP.out
      by_cases hlt : t < n
      · have ti : (t : Int) < n := by omega
        have tp : (0 : Int) ≤ t := by omega
        have HP1 := hide hP
        clear hP HP
        go_wp2_with (at_builtin; refine wpList_append_ints _ rfl _ _ rfl wo.heap.size [] [ox, 0, 0, 0] (.slice none 0 0) ⟨go, 0, none⟩ co rfl (numsOwn_nil _ _) rfl ?d1 (show 4 ≤ 1000000 by decide) (Nat.le_refl _) ?_)
        case d1 =>
          obtain ⟨_, _, e, _, hq⟩ := numsOwn_at (HP1.out.kp _ (List.mem_cons_self ..)).1
          cases e; exact hq
        intro v9 w9 ho9 hb9 hs9 hg9 hl9
        obtain ⟨g9, c9, rfl, hg9a, hg9b, hc9⟩ : ∃ g cap, v9 = .slice (some ⟨g, 0, none⟩) 4 cap ∧ wo.heap.size ≤ g ∧ g < w9.heap.size ∧ 4 ≤ cap := numsOwn_form ho9 (Nat.succ_pos _)
        have HV9 : Hid (numsOwn w9 wo.heap.size (.slice (some ⟨g9, 0, none⟩) 4 c9) [ox, 0, 0, 0]) := hide ho9
        have HB9 := hide hb9
        have HG9 := hide (And.intro hg9a hg9b)
        obtain ⟨k1, kf⟩ : w9.cell? ⟨g9, 1, none⟩ = some (.int .i64 0) ∧ w9.frozen? ⟨g9, 1, none⟩ = false := numsOwn_cell HV9.out rfl
        clear ho9 hb9 hs9 hg9 hl9 hg9a hg9b
        go_wp2_with fail
        go_loopw [15] (fun l wr => l = .slice (some ⟨g9, 0, none⟩) 4 c9 ∧ wr = w9) (fun _ _ => 0)
        case atStart => exact ⟨rfl, rfl⟩
        case round =>
          obtain ⟨rfl, ewr⟩ := hrel
          obtain rfl : w9 = wr := ewr.symm
          have wt1 : IntKind.i64.wrap ((t : Int) + 1) = (t : Int) + 1 := by rw [IntKind.wrap_i64]; omega
          have wt3 : IntKind.i64.wrap ((t : Int) + 3) = (t : Int) + 3 := by rw [IntKind.wrap_i64]; omega
          by_cases hn1 : (t : Int) + 1 < n
          · go_upto_region 24 with (fail)
            have HV10 : Hid (numsOwn ((w9.setCell ⟨g9, 1, none⟩ (.int .i64 0)).setCell ⟨g9, 1, none⟩ (.int .i64 ((t : Int) + 3))) wo.heap.size (.slice (some ⟨g9, 0, none⟩) 4 c9) [ox, (t : Int) + 3, 0, 0]) := hide (numsOwn_set (numsOwn_set HV9.out 1 0) 1 _)
            have HB10 : Hid (Below wo.heap.size wo ((w9.setCell ⟨g9, 1, none⟩ (.int .i64 0)).setCell ⟨g9, 1, none⟩ (.int .i64 ((t : Int) + 3)))) := hide ((HB9.out.setCell HG9.out.1 _).setCell HG9.out.1 _)
            have HRO : Hid ([ox, (t : Int) + 3, 0, 0] = ownW f n t) := hide (by rw [HN.out, if_pos (by omega)])
            clear HV9 HB9 k1 kf
            generalize (w9.setCell ⟨g9, 1, none⟩ (.int .i64 0)).setCell ⟨g9, 1, none⟩ (.int .i64 ((t : Int) + 3)) = w10 at *
            have HPA := hide (HP1.out.below HB10.out)
            have HAP : Hid (Ap sb iv rv (.slice (some ⟨g9, 0, none⟩) 4 c9)) := hide (ap_new HP1.out fun b e => by obtain rfl : g9 = b := Option.some.inj e; exact HG9.out.1)
            have HVB : Hid (numsOwn w10 w1.heap.size (.slice (some ⟨g9, 0, none⟩) 4 c9) [ox, (t : Int) + 3, 0, 0]) := hide (numsOwn_mono HV10.out HP1.out.bz)
            clear HV10 HB10 HP1 HG9
            have c1 := HPA.out.c1
            have z1 := HPA.out.fz 1
            have bel : Below w10.heap.size w10 (w10.alloc (.cells #[.slice (some ⟨g9, 0, none⟩) 4 c9] 36)) := (Below.refl _ _).alloc (Nat.le_refl _) _
            obtain ⟨LI, HLI, hLI⟩ : ∃ LI, Hid (LI = (gI f n t).length) ∧ LI ≤ 7 := ⟨_, hide rfl, by rw [gI_len]; omega⟩
            go_wp2_with (at_builtin; refine wpList_append_own_at _ rfl _ _ 73 rfl w1.heap.size 36 rii (.slice none 0 0) 1 24 Tryz.underlying73 hrii hrz hrs hrb rfl (by decide) iv LI vs rfl ?pa0 ⟨w10.heap.size, 0, none⟩ 1 1 [.slice (some ⟨g9, 0, none⟩) 4 c9] rfl rfl ?pa1 ?pa2 ?pa3 ?pa4 ?pa5 ?_)
            case pa0 => rw [HLI.out]; exact (HPA.out.below bel).oi
            try (case pa1 =>
              intro k x hk
              cases k with
              | zero => cases hk; rw [Addr.add_lit]; simp
              | succ k => simp at hk)
            case pa2 => rfl
            case pa3 => unfold maxLen; omega
            case pa4 => omega
            case pa5 => have := HPA.out.bz; omega
            intro iv' w11 ho11 hg11 hnil11 hloc11
            have HP11 : Hid (WP w1.heap.size sb w1 [(.slice (some ⟨go, 0, none⟩) 4 co, [ox, 0, 0, 0])] iv' (vs ++ [.slice (some ⟨g9, 0, none⟩) 4 c9]) (gI f n (t + 1)) rv rs (gR n t) (w11.setCell ⟨sb, 1, none⟩ iv')) := hide (by
              rw [← gI_succ, ← HRO.out]
              exact (HPA.out.below bel).addI (us := [.slice (some ⟨g9, 0, none⟩) 4 c9]) (rws := [[ox, (t : Int) + 3, 0, 0]]) (fun k row hr => by
                cases k with
                | zero => cases hr; exact ⟨_, rfl, numsOwn_keep HVB.out bel, HAP.out⟩
                | succ k => simp at hr) (N := w10.heap.size + 1) (by simp) (by rw [← HLI.out]; exact ho11) hg11 hloc11)
            obtain ⟨C11, Z11⟩ := (HPA.out.below bel).box hg11 HPA.out.ni
            have c1' := (C11 1).trans (HPA.out.below bel).c1
            have z1' := Z11 1
            obtain ⟨ag2, cg2, rfl, -⟩ := ownsRow_shape ho11
            clear ho11 hg11 hnil11 hloc11 C11 Z11 bel c1 z1 HPA HAP HVB HLI HRO
            go_upto_region 25 with (fail)
            clear c1' z1'
            generalize w11.setCell ⟨sb, 1, none⟩ (.slice ag2 (LI + 1) cg2) = w12 at *
            have c2 := HP11.out.c2
            have z2 := HP11.out.fz 2
            have bel2 : Below w12.heap.size w12 ((w12.alloc (.cells #[.int .i64 0, .int .i64 0, .int .i64 0, .int .i64 0, .int .i64 0, .int .i64 ((n : Int) + 2), .int .i64 ((t : Int) + 2), .int .i64 1] 3)).alloc (.cells #[.slice (some ⟨w12.heap.size, 0, none⟩) 8 8] 36)) := ((Below.refl _ _).alloc (Nat.le_refl _) _).alloc (by simp) _
            have HAP2 : Hid (Ap sb (.slice ag2 (LI + 1) cg2) rv (.slice (some ⟨w12.heap.size, 0, none⟩) 8 8)) := hide (ap_new HP11.out fun b e => by obtain rfl : w12.heap.size = b := Option.some.inj e; exact Nat.le_refl _)
            have HVB2 : Hid (numsOwn ((w12.alloc (.cells #[.int .i64 0, .int .i64 0, .int .i64 0, .int .i64 0, .int .i64 0, .int .i64 ((n : Int) + 2), .int .i64 ((t : Int) + 2), .int .i64 1] 3)).alloc (.cells #[.slice (some ⟨w12.heap.size, 0, none⟩) 8 8] 36)) w1.heap.size (.slice (some ⟨w12.heap.size, 0, none⟩) 8 8) (gcRegs n t)) := hide (numsOwn_keep (numsOwn_new' rfl rfl HP11.out.bz (show 8 ≤ 1000000 by decide)) ((Below.refl _ _).alloc (Nat.le_refl _) _))
            obtain ⟨LR, HLR, hLR⟩ : ∃ LR, Hid (LR = (gR n t).length) ∧ LR ≤ 7 := ⟨_, hide rfl, by rw [gR_len]; omega⟩
            go_wp2_with (at_builtin; refine wpList_append_own_at _ rfl _ _ 73 rfl w1.heap.size 36 rii (.slice none 0 0) 1 24 Tryz.underlying73 hrii hrz hrs hrb rfl (by decide) rv LR rs rfl ?pb0 ⟨w12.heap.size + 1, 0, none⟩ 1 1 [.slice (some ⟨w12.heap.size, 0, none⟩) 8 8] rfl rfl ?pb1 ?pb2 ?pb3 ?pb4 ?pb5 ?_)
            case pb0 => rw [HLR.out]; exact (HP11.out.below bel2).or'
            try (case pb1 =>
              intro k x hk
              cases k with
              | zero => cases hk; rw [Addr.add_lit]; simp
              | succ k => simp at hk)
            case pb2 =>
              intro x hx
              obtain rfl : x = .slice (some ⟨w12.heap.size, 0, none⟩) 8 8 := by simpa using hx
              rfl
            case pb3 => unfold maxLen; omega
            case pb4 => omega
            case pb5 => exact (HP11.out.below bel2).bz
            intro rv' w13 ho13 hg13 hnil13 hloc13
            have HP13 : Hid (WP w1.heap.size sb w1 [(.slice (some ⟨go, 0, none⟩) 4 co, [ox, 0, 0, 0])] (.slice ag2 (LI + 1) cg2) (vs ++ [.slice (some ⟨g9, 0, none⟩) 4 c9]) (gI f n (t + 1)) rv' (rs ++ [.slice (some ⟨w12.heap.size, 0, none⟩) 8 8]) (gR n (t + 1)) (w13.setCell ⟨sb, 2, none⟩ rv')) := hide (by
              rw [← gR_succ]
              exact (HP11.out.below bel2).addR (us := [.slice (some ⟨w12.heap.size, 0, none⟩) 8 8]) (rws := [gcRegs n t]) (fun k row hr => by
                cases k with
                | zero => cases hr; exact ⟨_, rfl, HVB2.out, HAP2.out⟩
                | succ k => simp at hr) (N := w12.heap.size + 1 + 1) (by simp) (by rw [← HLR.out]; exact ho13) hg13 hloc13)
            obtain ⟨C13, Z13⟩ := (HP11.out.below bel2).box hg13 HP11.out.nr
            have c2' := (C13 2).trans (HP11.out.below bel2).c2
            have z2' := Z13 2
            obtain ⟨ag3, cg3, rfl, -⟩ := ownsRow_shape ho13
            clear ho13 hg13 hnil13 hloc13 C13 Z13 bel2 c2 z2 HP11 HAP2 HVB2 HLR
            go_wp2_with fail
            go_roundw
            case rel => exact ⟨t + 1, by omega, by go_num, hide ⟨_, _, _, _, HP13.out⟩⟩
            case measure => simp [intOf]; omega
          · go_upto_region 24 with (fail)
            have HV10 : Hid (numsOwn (w9.setCell ⟨g9, 1, none⟩ (.int .i64 0)) wo.heap.size (.slice (some ⟨g9, 0, none⟩) 4 c9) [ox, 0, 0, 0]) := hide (numsOwn_set HV9.out 1 0)
            have HB10 : Hid (Below wo.heap.size wo (w9.setCell ⟨g9, 1, none⟩ (.int .i64 0))) := hide (HB9.out.setCell HG9.out.1 _)
            have HRO : Hid ([ox, 0, 0, 0] = ownW f n t) := hide (by rw [HN.out, if_neg (by omega)])
            clear HV9 HB9 k1 kf
            generalize w9.setCell ⟨g9, 1, none⟩ (.int .i64 0) = w10 at *
            have HPA := hide (HP1.out.below HB10.out)
            have HAP : Hid (Ap sb iv rv (.slice (some ⟨g9, 0, none⟩) 4 c9)) := hide (ap_new HP1.out fun b e => by obtain rfl : g9 = b := Option.some.inj e; exact HG9.out.1)
            have HVB : Hid (numsOwn w10 w1.heap.size (.slice (some ⟨g9, 0, none⟩) 4 c9) [ox, 0, 0, 0]) := hide (numsOwn_mono HV10.out HP1.out.bz)
            clear HV10 HB10 HP1 HG9
            have c1 := HPA.out.c1
            have z1 := HPA.out.fz 1
            have bel : Below w10.heap.size w10 (w10.alloc (.cells #[.slice (some ⟨g9, 0, none⟩) 4 c9] 36)) := (Below.refl _ _).alloc (Nat.le_refl _) _
            obtain ⟨LI, HLI, hLI⟩ : ∃ LI, Hid (LI = (gI f n t).length) ∧ LI ≤ 7 := ⟨_, hide rfl, by rw [gI_len]; omega⟩
            go_wp2_with (at_builtin; refine wpList_append_own_at _ rfl _ _ 73 rfl w1.heap.size 36 rii (.slice none 0 0) 1 24 Tryz.underlying73 hrii hrz hrs hrb rfl (by decide) iv LI vs rfl ?qa0 ⟨w10.heap.size, 0, none⟩ 1 1 [.slice (some ⟨g9, 0, none⟩) 4 c9] rfl rfl ?qa1 ?qa2 ?qa3 ?qa4 ?qa5 ?_)
            case qa0 => rw [HLI.out]; exact (HPA.out.below bel).oi
            try (case qa1 =>
              intro k x hk
              cases k with
              | zero => cases hk; rw [Addr.add_lit]; simp
              | succ k => simp at hk)
            case qa2 => rfl
            case qa3 => unfold maxLen; omega
            case qa4 => omega
            case qa5 => have := HPA.out.bz; omega
            intro iv' w11 ho11 hg11 hnil11 hloc11
            have HP11 : Hid (WP w1.heap.size sb w1 [(.slice (some ⟨go, 0, none⟩) 4 co, [ox, 0, 0, 0])] iv' (vs ++ [.slice (some ⟨g9, 0, none⟩) 4 c9]) (gI f n (t + 1)) rv rs (gR n t) (w11.setCell ⟨sb, 1, none⟩ iv')) := hide (by
              rw [← gI_succ, ← HRO.out]
              exact (HPA.out.below bel).addI (us := [.slice (some ⟨g9, 0, none⟩) 4 c9]) (rws := [[ox, 0, 0, 0]]) (fun k row hr => by
                cases k with
                | zero => cases hr; exact ⟨_, rfl, numsOwn_keep HVB.out bel, HAP.out⟩
                | succ k => simp at hr) (N := w10.heap.size + 1) (by simp) (by rw [← HLI.out]; exact ho11) hg11 hloc11)
            obtain ⟨C11, Z11⟩ := (HPA.out.below bel).box hg11 HPA.out.ni
            have c1' := (C11 1).trans (HPA.out.below bel).c1
            have z1' := Z11 1
            obtain ⟨ag2, cg2, rfl, -⟩ := ownsRow_shape ho11
            clear ho11 hg11 hnil11 hloc11 C11 Z11 bel c1 z1 HPA HAP HVB HLI HRO
            go_upto_region 25 with (fail)
            clear c1' z1'
            generalize w11.setCell ⟨sb, 1, none⟩ (.slice ag2 (LI + 1) cg2) = w12 at *
            have c2 := HP11.out.c2
            have z2 := HP11.out.fz 2
            have bel2 : Below w12.heap.size w12 ((w12.alloc (.cells #[.int .i64 0, .int .i64 0, .int .i64 0, .int .i64 0, .int .i64 0, .int .i64 ((n : Int) + 2), .int .i64 ((t : Int) + 2), .int .i64 1] 3)).alloc (.cells #[.slice (some ⟨w12.heap.size, 0, none⟩) 8 8] 36)) := ((Below.refl _ _).alloc (Nat.le_refl _) _).alloc (by simp) _
            have HAP2 : Hid (Ap sb (.slice ag2 (LI + 1) cg2) rv (.slice (some ⟨w12.heap.size, 0, none⟩) 8 8)) := hide (ap_new HP11.out fun b e => by obtain rfl : w12.heap.size = b := Option.some.inj e; exact Nat.le_refl _)
            have HVB2 : Hid (numsOwn ((w12.alloc (.cells #[.int .i64 0, .int .i64 0, .int .i64 0, .int .i64 0, .int .i64 0, .int .i64 ((n : Int) + 2), .int .i64 ((t : Int) + 2), .int .i64 1] 3)).alloc (.cells #[.slice (some ⟨w12.heap.size, 0, none⟩) 8 8] 36)) w1.heap.size (.slice (some ⟨w12.heap.size, 0, none⟩) 8 8) (gcRegs n t)) := hide (numsOwn_keep (numsOwn_new' rfl rfl HP11.out.bz (show 8 ≤ 1000000 by decide)) ((Below.refl _ _).alloc (Nat.le_refl _) _))
            obtain ⟨LR, HLR, hLR⟩ : ∃ LR, Hid (LR = (gR n t).length) ∧ LR ≤ 7 := ⟨_, hide rfl, by rw [gR_len]; omega⟩
            go_wp2_with (at_builtin; refine wpList_append_own_at _ rfl _ _ 73 rfl w1.heap.size 36 rii (.slice none 0 0) 1 24 Tryz.underlying73 hrii hrz hrs hrb rfl (by decide) rv LR rs rfl ?qb0 ⟨w12.heap.size + 1, 0, none⟩ 1 1 [.slice (some ⟨w12.heap.size, 0, none⟩) 8 8] rfl rfl ?qb1 ?qb2 ?qb3 ?qb4 ?qb5 ?_)
            case qb0 => rw [HLR.out]; exact (HP11.out.below bel2).or'
            try (case qb1 =>
              intro k x hk
              cases k with
              | zero => cases hk; rw [Addr.add_lit]; simp
              | succ k => simp at hk)
            case qb2 =>
              intro x hx
              obtain rfl : x = .slice (some ⟨w12.heap.size, 0, none⟩) 8 8 := by simpa using hx
              rfl
            case qb3 => unfold maxLen; omega
            case qb4 => omega
            case qb5 => exact (HP11.out.below bel2).bz
            intro rv' w13 ho13 hg13 hnil13 hloc13
            have HP13 : Hid (WP w1.heap.size sb w1 [(.slice (some ⟨go, 0, none⟩) 4 co, [ox, 0, 0, 0])] (.slice ag2 (LI + 1) cg2) (vs ++ [.slice (some ⟨g9, 0, none⟩) 4 c9]) (gI f n (t + 1)) rv' (rs ++ [.slice (some ⟨w12.heap.size, 0, none⟩) 8 8]) (gR n (t + 1)) (w13.setCell ⟨sb, 2, none⟩ rv')) := hide (by
              rw [← gR_succ]
              exact (HP11.out.below bel2).addR (us := [.slice (some ⟨w12.heap.size, 0, none⟩) 8 8]) (rws := [gcRegs n t]) (fun k row hr => by
                cases k with
                | zero => cases hr; exact ⟨_, rfl, HVB2.out, HAP2.out⟩
                | succ k => simp at hr) (N := w12.heap.size + 1 + 1) (by simp) (by rw [← HLR.out]; exact ho13) hg13 hloc13)
            obtain ⟨C13, Z13⟩ := (HP11.out.below bel2).box hg13 HP11.out.nr
            have c2' := (C13 2).trans (HP11.out.below bel2).c2
            have z2' := Z13 2
            obtain ⟨ag3, cg3, rfl, -⟩ := ownsRow_shape ho13
            clear ho13 hg13 hnil13 hloc13 C13 Z13 bel2 c2 z2 HP11 HAP2 HVB2 HLR
            go_wp2_with fail
            go_roundw
            case rel => exact ⟨t + 1, by omega, by go_num, hide ⟨_, _, _, _, HP13.out⟩⟩
            case measure => simp [intOf]; omega
      · obtain rfl : t = n := by omega
        have HPA := hide hP
        have c1 := HPA.out.c1
        have z1 := HPA.out.fz 1
        obtain ⟨LI, HLI, hLI⟩ : ∃ LI, Hid (LI = (gI f t t).length) ∧ LI ≤ 7 := ⟨_, hide rfl, by rw [gI_len]; omega⟩
        have bel : Below wo.heap.size wo (((wo.alloc (.cells #[.int .i64 ((t : Int) + 3)] 3)).alloc (.cells #[.int .i64 1] 3)).alloc (.cells #[.slice (some ⟨wo.heap.size, 0, none⟩) 1 1, .slice (some ⟨wo.heap.size + 1, 0, none⟩) 1 1] 36)) := (((Below.refl _ _).alloc (Nat.le_refl _) _).alloc (by simp) _).alloc (by simp; omega) _
        have HVA : Hid (numsOwn (((wo.alloc (.cells #[.int .i64 ((t : Int) + 3)] 3)).alloc (.cells #[.int .i64 1] 3)).alloc (.cells #[.slice (some ⟨wo.heap.size, 0, none⟩) 1 1, .slice (some ⟨wo.heap.size + 1, 0, none⟩) 1 1] 36)) w1.heap.size (.slice (some ⟨wo.heap.size, 0, none⟩) 1 1) [(t : Int) + 3]) := hide (numsOwn_keep (numsOwn_keep (numsOwn_new' rfl rfl HPA.out.bz (show 1 ≤ 1000000 by decide)) ((Below.refl _ _).alloc (Nat.le_refl _) _)) ((Below.refl _ _).alloc (Nat.le_refl _) _))
        have HVC : Hid (numsOwn (((wo.alloc (.cells #[.int .i64 ((t : Int) + 3)] 3)).alloc (.cells #[.int .i64 1] 3)).alloc (.cells #[.slice (some ⟨wo.heap.size, 0, none⟩) 1 1, .slice (some ⟨wo.heap.size + 1, 0, none⟩) 1 1] 36)) w1.heap.size (.slice (some ⟨wo.heap.size + 1, 0, none⟩) 1 1) [1]) := hide (by
          have h := numsOwn_new' (w := wo.alloc (.cells #[.int .i64 ((t : Int) + 3)] 3)) (cs := #[.int .i64 1]) (l := [1]) (k := 1) (base := w1.heap.size) rfl rfl (by have := HPA.out.bz; simp; omega) (by decide)
          rw [show (wo.alloc (.cells #[.int .i64 ((t : Int) + 3)] 3)).heap.size = wo.heap.size + 1 by simp] at h
          exact numsOwn_keep h ((Below.refl _ _).alloc (Nat.le_refl _) _))
        have HAA : Hid (Ap sb iv rv (.slice (some ⟨wo.heap.size, 0, none⟩) 1 1)) := hide (ap_new HPA.out fun b e => by obtain rfl : wo.heap.size = b := Option.some.inj e; exact Nat.le_refl _)
        have HAC : Hid (Ap sb iv rv (.slice (some ⟨wo.heap.size + 1, 0, none⟩) 1 1)) := hide (ap_new HPA.out fun b e => by obtain rfl : wo.heap.size + 1 = b := Option.some.inj e; exact Nat.le_succ _)
        obtain ⟨ar, cr, rfl, -⟩ := ownsRow_shape hP.or'
        clear hP HP
        go_wp2_with (at_builtin; refine wpList_append_own_at _ rfl _ _ 73 rfl w1.heap.size 36 rii (.slice none 0 0) 1 24 Tryz.underlying73 hrii hrz hrs hrb rfl (by decide) iv LI vs rfl ?z0 ⟨wo.heap.size + 1 + 1, 0, none⟩ 2 2 [.slice (some ⟨wo.heap.size, 0, none⟩) 1 1, .slice (some ⟨wo.heap.size + 1, 0, none⟩) 1 1] rfl rfl ?z1 ?z2 ?z3 ?z4 ?z5 ?_)
        case z0 => rw [HLI.out]; exact (HPA.out.below bel).oi
        case z1 =>
          intro k x hk
          rw [Addr.add_lit, show wo.heap.size + 1 + 1 = ((wo.alloc (.cells #[.int .i64 ((t : Int) + 3)] 3)).alloc (.cells #[.int .i64 1] 3)).heap.size by simp, World.cell?_alloc_new, Nat.zero_add]
          simpa using hk
        case z2 =>
          intro x hx
          simp only [List.mem_cons, List.not_mem_nil, or_false] at hx
          rcases hx with rfl | rfl <;> rfl
        case z3 => unfold maxLen; omega
        case z4 => omega
        case z5 => exact (HPA.out.below bel).bz
        intro iv' w11 ho11 hg11 hnil11 hloc11
        have HP11 : Hid (WP w1.heap.size sb w1 [(.slice (some ⟨go, 0, none⟩) 4 co, [ox, 0, 0, 0])] iv' (vs ++ [.slice (some ⟨wo.heap.size, 0, none⟩) 1 1, .slice (some ⟨wo.heap.size + 1, 0, none⟩) 1 1]) (gcInit f t) (.slice ar (gR t t).length cr) rs (gR t t) (w11.setCell ⟨sb, 1, none⟩ iv')) := hide (by
          rw [← gI_end]
          exact (HPA.out.below bel).addI (us := [.slice (some ⟨wo.heap.size, 0, none⟩) 1 1, .slice (some ⟨wo.heap.size + 1, 0, none⟩) 1 1]) (rws := [[(t : Int) + 3], [1]]) (fun k row hr => by
            rcases k with _ | _ | k
            · cases hr; exact ⟨_, rfl, HVA.out, HAA.out⟩
            · cases hr; exact ⟨_, rfl, HVC.out, HAC.out⟩
            · simp at hr) (N := wo.heap.size + 1 + 1 + 1) (by simp) (by rw [← HLI.out]; exact ho11) hg11 hloc11)
        obtain ⟨C11, Z11⟩ := (HPA.out.below bel).box hg11 HPA.out.ni
        have c1' := (C11 1).trans (HPA.out.below bel).c1
        have z1' := Z11 1
        obtain ⟨ag2, cg2, rfl, -⟩ := ownsRow_shape ho11
        clear ho11 hg11 hnil11 hloc11 C11 Z11 bel c1 z1 HPA HAA HAC HVA HVC
        go_upto_region 27 with (fail)
        clear c1' z1'
        generalize w11.setCell ⟨sb, 1, none⟩ (.slice ag2 (LI + 2) cg2) = w12 at *
        have hLI2 : LI + 2 = t + 3 := by rw [HLI.out, gI_len]
        have hLR2 := gR_len t t
        rw [hLI2] at HP11 ⊢
        rw [hLR2] at HP11
        clear hLI2 hLR2 HLI hLI
        have hlt1 : w.heap.size < w1.heap.size := by rw [HS1.out]; exact Nat.lt_succ_self _
        have c0 := HP11.out.c0
        have c1 := HP11.out.c1
        have c2 := HP11.out.c2
        have hbr : w12.heap[w.heap.size]? = w1.heap[w.heap.size]? := HP11.out.low.block _ hlt1
        have r0 : w12.cell? ⟨w.heap.size, 0, none⟩ = some (.int .i64 0) := (World.cell?_of_block hbr).trans HT.out.1
        have r1 : w12.cell? ⟨w.heap.size, 1, none⟩ = some (.slice none 0 0) := (World.cell?_of_block hbr).trans HT.out.2.1
        have r2 : w12.cell? ⟨w.heap.size, 2, none⟩ = some (.slice none 0 0) := (World.cell?_of_block hbr).trans HT.out.2.2.1
        have z0 : w12.frozen? ⟨w.heap.size, 0, none⟩ = false := (World.frozen?_of_block hbr).trans (HT.out.2.2.2 0)
        have z1 : w12.frozen? ⟨w.heap.size, 1, none⟩ = false := (World.frozen?_of_block hbr).trans (HT.out.2.2.2 1)
        have z2 : w12.frozen? ⟨w.heap.size, 2, none⟩ = false := (World.frozen?_of_block hbr).trans (HT.out.2.2.2 2)
        have HEND : Hid (StaAt (gcSta f t) ⟨ag2, cg2, ar, cr⟩ (((w12.setCell ⟨w.heap.size, 0, none⟩ (.int .i64 30)).setCell ⟨w.heap.size, 1, none⟩ (.slice ag2 (t + 3) cg2)).setCell ⟨w.heap.size, 2, none⟩ (.slice ar t cr)) ∧ Below w.heap.size w (((w12.setCell ⟨w.heap.size, 0, none⟩ (.int .i64 30)).setCell ⟨w.heap.size, 1, none⟩ (.slice ag2 (t + 3) cg2)).setCell ⟨w.heap.size, 2, none⟩ (.slice ar t cr))) := hide (by
          have hB : Below w.heap.size w w12 := HB1.out.trans (HP11.out.low.mono (Nat.le_of_lt hlt1))
          refine ⟨?_, ((hB.setCell (Nat.le_refl _) _).setCell (Nat.le_refl _) _).setCell (Nat.le_refl _) _⟩
          have hW := ((HP11.out.out hlt1 0 (.int .i64 30) rfl).out hlt1 1 (.slice ag2 (t + 3) cg2) rfl).out hlt1 2 (.slice ar t cr) rfl
          have hlI : ∀ row ∈ gcInit f t, row.length ≤ 100 := fun row hr => by
            unfold gcInit at hr
            simp only [List.mem_cons, List.mem_append, List.mem_map, List.not_mem_nil, or_false] at hr
            rcases hr with rfl | ⟨a, -, rfl⟩ | rfl | rfl <;> exact Nat.le_of_ble_eq_true rfl
          have hlR : ∀ row ∈ gR t t, row.length ≤ 100 := fun row hr => by
            obtain ⟨a, -, rfl⟩ := List.mem_map.1 hr
            show 8 ≤ 100; decide
          obtain ⟨ai, ci, ar', cr', e1, e2, h3⟩ := hW.sta (c := 30) rfl (by rw [gcInit_len]; omega) (by rw [gR_len]; omega) hlI hlR
          rw [gcInit_len] at e1
          rw [gR_len] at e2
          cases e1
          cases e2
          exact h3)
        clear HP11 hbr hlt1 HT HB1 HS1
        go_wp2_with fail
        refine bodyPost_ret (v := .tuple #[.agg #[.int .i64 30, .slice ag2 (t + 3) cg2, .slice ar t cr], .bool true]) (by simp only [results, Tryz.results36]; go_simp) rfl ⟨ag2, cg2, ar, cr, rfl, ?_, ?_⟩
        · exact HEND.out.1
        · exact HEND.out.2

set_option maxRecDepth 20000 in
set_option maxHeartbeats 4000000 in
theorem world_join {f : Nat} (hf : 1 ≤ f ∧ f ≤ 4) (h4 : f = 4) (n : Nat) (h1 : 1 ≤ n) (h6 : n ≤ 6) (w : World) :
    Calls Tryz.prog 36 #[.int .i64 f, .int .i64 n] w fun e w' => ∃ ai ci ar cr, e = .returned (.tuple #[.agg #[.int .i64 30, .slice ai (n + 3) ci, .slice ar n cr], .bool true]) ∧ StaAt (gcSta f n) ⟨ai, ci, ar, cr⟩ w' ∧ Below w.heap.size w w' := by
  have HH := hide (hub_ok hf)
  have HO := hide (own_ok hf)
  have HK := hide (link_ok hf)
  rw [show linkX f = -1 from if_pos h4] at HK
  have HW : Hid (hubW f = [1, 0, 0, 0]) := hide (by unfold hubW; rw [if_pos h4])
  have HN : Hid (∀ t, ownW f n t = [ownX f, 0, 0, 0]) := hide fun t => by unfold ownW ownX; rw [if_pos h4]
  have n6 : (n : Int) ≤ 6 := by omega
  have n0 : (0 : Int) ≤ n := by omega
  have wn2 : IntKind.i64.wrap ((n : Int) + 2) = (n : Int) + 2 := by rw [IntKind.wrap_i64]; omega
  have wn3 : IntKind.i64.wrap ((n : Int) + 3) = (n : Int) + 3 := by rw [IntKind.wrap_i64]; omega
  obtain ⟨rii, hrii, hrz, hrs, hrb⟩ := rowsInfo
  clear h4 hf
  generalize ownX f = ox at *
  generalize hfi : (f : Int) = fi at *
  clear hfi
  go_enter Tryz.func36, Tryz.ntmps36
  go_wp2_with fail
  generalize hw1 : w.alloc _ = w1
  have b1 : Below w.heap.size w w1 := by rw [← hw1]; exact (Below.refl _ w).alloc (Nat.le_refl _) _
  have s1 : w1.heap.size = w.heap.size + 1 := by rw [← hw1]; simp
  have t0 : w1.cell? ⟨w.heap.size, 0, none⟩ = some (.int .i64 0) := by rw [← hw1, World.cell?_alloc_new]; rfl
  have t1 : w1.cell? ⟨w.heap.size, 1, none⟩ = some (.slice none 0 0) := by rw [← hw1, World.cell?_alloc_new]; rfl
  have t2 : w1.cell? ⟨w.heap.size, 2, none⟩ = some (.slice none 0 0) := by rw [← hw1, World.cell?_alloc_new]; rfl
  have tz : ∀ o, w1.frozen? ⟨w.heap.size, o, none⟩ = false := fun o => by rw [← hw1]; exact World.frozen?_alloc_new _ _ _ _
  have HT := hide (And.intro t0 (And.intro t1 (And.intro t2 tz)))
  have HS1 := hide s1
  have HB1 := hide b1
  clear hw1 t0 t1 t2 tz s1 b1
  refine (HH.out _).mono ?_
  rintro e w2 ⟨hv, rfl, hh, hb2⟩
  obtain ⟨gh, ch, rfl, hgh, hlh, hch⟩ : ∃ g cap, hv = .slice (some ⟨g, 0, none⟩) 4 cap ∧ w1.heap.size ≤ g ∧ g < w2.heap.size ∧ 4 ≤ cap := numsOwn_form hh (by decide)
  have HHV := hide hh
  have HB2 := hide hb2
  clear hh hb2 hgh hlh hch HH
  go_wp2_with fail
  refine (HO.out _).mono ?_
  rintro e w3 ⟨ov, rfl, ho, hb3⟩
  obtain ⟨go, co, rfl, hgo, hlo, hco⟩ : ∃ g cap, ov = .slice (some ⟨g, 0, none⟩) 4 cap ∧ w2.heap.size ≤ g ∧ g < w3.heap.size ∧ 4 ≤ cap := numsOwn_form ho (Nat.succ_pos _)
  have HHV3 := hide (numsOwn_keep HHV.out hb3)
  have HB3 := hide (below_step HB2.out hb3)
  have HOV := hide (numsOwn_mono ho HB2.out.size)
  clear ho hb3 hgo hlo hco HO HHV HB2
  go_wp2_with fail
  refine (HK.out _).mono ?_
  rintro e w4 ⟨rfl, e4⟩
  obtain rfl : w3 = w4 := e4.symm
  clear HK
  go_wp2_with (at_builtin; refine wpList_append_ints _ rfl _ _ rfl w3.heap.size [] [1, 0, 0, 0] (.slice none 0 0) ⟨gh, 0, none⟩ ch rfl (numsOwn_nil _ _) rfl ?b1 (by decide) (Nat.le_refl _) ?_)
  case b1 =>
    obtain ⟨_, _, e, _, hq⟩ := numsOwn_at HHV3.out
    cases e; exact hq
  intro v5 w5 ho5 hb5 hs5 hg5 hl5
  obtain ⟨g5, c5, rfl, hg5a, hg5b, hc5⟩ : ∃ g cap, v5 = .slice (some ⟨g, 0, none⟩) 4 cap ∧ w3.heap.size ≤ g ∧ g < w5.heap.size ∧ 4 ≤ cap := numsOwn_form ho5 (by decide)
  have HV5 : Hid (numsOwn w5 w3.heap.size (.slice (some ⟨g5, 0, none⟩) 4 c5) [1, 0, 0, 0]) := hide ho5
  have HB5 := hide (below_step HB3.out hb5)
  have HOV5 := hide (numsOwn_keep HOV.out hb5)
  have HG5 := hide (And.intro hg5a hg5b)
  have HLE := hide HB3.out.size
  clear ho5 hb5 hs5 hg5 hl5 hg5a hg5b HHV3 HB3 HOV
  go_wp2_with fail
  go_loopw [12] (fun l wr => l = .slice (some ⟨g5, 0, none⟩) 4 c5 ∧ wr = w5) (fun _ _ => 0)
  case atStart => exact ⟨rfl, rfl⟩
  case round =>
    obtain ⟨rfl, ewr⟩ := hrel
    obtain rfl : w5 = wr := ewr.symm
    go_upto_region 12 with (fail)
    have HV6 := HV5
    have HB6 := HB5
    have HOV6 := HOV5
    clear HV5 HB5 HOV5
    generalize hw6 : w5 = w6 at *
    clear hw6
    have HP0 := hide (wp_first HB6.out HOV6.out)
    have HV7 := hide (numsOwn_keep (numsOwn_mono HV6.out HLE.out) ((Below.refl _ _).alloc (Nat.le_refl _) (.cells #[.int .i64 30, .slice none 0 0, .slice none 0 0] 75)))
    have HA7 : Hid (Ap w6.heap.size (.slice none 0 0) (.slice none 0 0) (.slice (some ⟨g5, 0, none⟩) 4 c5)) := hide fun b e => ⟨by have := (World.ownsRow.lt HV6.out b e).2; omega, (fun e2 => nomatch e2), (fun e2 => nomatch e2)⟩
    go_upto_region 13 with (fail)
    clear HV6 HB6 HOV6
    generalize w6.alloc (.cells #[.int .i64 30, .slice none 0 0, .slice none 0 0] 75) = w7 at *
    generalize w6.heap.size = sb at *
    have c1 := HP0.out.c1
    have z1 := HP0.out.fz 1
    have bel : Below w7.heap.size w7 (w7.alloc (.cells #[.slice (some ⟨g5, 0, none⟩) 4 c5] 36)) := (Below.refl _ _).alloc (Nat.le_refl _) _
    go_wp2_with (at_builtin; refine wpList_append_own_at _ rfl _ _ 73 rfl w1.heap.size 36 rii (.slice none 0 0) 1 24 Tryz.underlying73 hrii hrz hrs hrb rfl (by decide) (.slice none 0 0) 0 [] rfl ?c0 ⟨w7.heap.size, 0, none⟩ 1 1 [.slice (some ⟨g5, 0, none⟩) 4 c5] rfl rfl ?c1 ?c2 ?c3 ?c4 ?c5 ?_)
    case c0 => exact (HP0.out.below bel).oi
    case c2 => rfl
    case c3 => decide
    case c5 => have := HP0.out.bz; omega
    intro iv8 w8 ho8 hg8 hnil8 hloc8
    have HP8 : Hid (WP w1.heap.size sb w1 [(.slice (some ⟨go, 0, none⟩) 4 co, [ox, 0, 0, 0])] iv8 [.slice (some ⟨g5, 0, none⟩) 4 c5] (gI f n 0) (.slice none 0 0) [] (gR n 0) (w8.setCell ⟨sb, 1, none⟩ iv8)) := hide (by
      rw [show gI f n 0 = [[1, 0, 0, 0]] by show [hubW f] = _; rw [HW.out]]
      exact (HP0.out.below bel).addI (us := [.slice (some ⟨g5, 0, none⟩) 4 c5]) (rws := [[1, 0, 0, 0]]) (fun k row hr => by
        cases k with
        | zero => cases hr; exact ⟨_, rfl, numsOwn_keep HV7.out bel, HA7.out⟩
        | succ k => simp at hr) (N := w7.heap.size + 1) (by simp) ho8 hg8 hloc8)
    obtain ⟨C8, Z8⟩ := (HP0.out.below bel).box hg8 HP0.out.ni
    have c1' := (C8 1).trans (HP0.out.below bel).c1
    have z1' := Z8 1
    obtain ⟨ag, cg, rfl, -⟩ := ownsRow_shape ho8
    clear ho8 hg8 hnil8 hloc8 C8 Z8 bel c1 z1 HP0 HV7 HA7
    go_wp2_with fail
    clear c1' z1'
    generalize w8.setCell ⟨sb, 1, none⟩ (.slice ag 1 cg) = w9 at *
    go_loopw [14, 15] (fun i _ wr => ∃ t : Nat, t ≤ n ∧ i = .int .i64 t ∧ Hid (∃ iv vs rv rs, WP w1.heap.size sb w1 [(.slice (some ⟨go, 0, none⟩) 4 co, [ox, 0, 0, 0])] iv vs (gI f n t) rv rs (gR n t) wr)) (fun i _ _ => n - (intOf i).toNat)
    case atStart => exact ⟨0, Nat.zero_le _, rfl, hide ⟨_, _, _, _, HP8.out⟩⟩
    case round =>
      clear HP8
      obtain ⟨wo, hwo⟩ : ∃ wo : World, wo = wr := ⟨_, rfl⟩
      subst hwo
      obtain ⟨t, ht, rfl, HP⟩ := hrel
      obtain ⟨iv, vs, rv, rs, hP⟩ := HP.out
      by_cases hlt : t < n
      · have ti : (t : Int) < n := by omega
        have tp : (0 : Int) ≤ t := by omega
        have HP1 := hide hP
        clear hP HP
        go_wp2_with (at_builtin; refine wpList_append_ints _ rfl _ _ rfl wo.heap.size [] [ox, 0, 0, 0] (.slice none 0 0) ⟨go, 0, none⟩ co rfl (numsOwn_nil _ _) rfl ?d1 (show 4 ≤ 1000000 by decide) (Nat.le_refl _) ?_)
        case d1 =>
          obtain ⟨_, _, e, _, hq⟩ := numsOwn_at (HP1.out.kp _ (List.mem_cons_self ..)).1
          cases e; exact hq
        intro v9 w9 ho9 hb9 hs9 hg9 hl9
        obtain ⟨g9, c9, rfl, hg9a, hg9b, hc9⟩ : ∃ g cap, v9 = .slice (some ⟨g, 0, none⟩) 4 cap ∧ wo.heap.size ≤ g ∧ g < w9.heap.size ∧ 4 ≤ cap := numsOwn_form ho9 (Nat.succ_pos _)
        have HV9 : Hid (numsOwn w9 wo.heap.size (.slice (some ⟨g9, 0, none⟩) 4 c9) [ox, 0, 0, 0]) := hide ho9
        have HB9 := hide hb9
        have HG9 := hide (And.intro hg9a hg9b)
        obtain ⟨k1, kf⟩ : w9.cell? ⟨g9, 1, none⟩ = some (.int .i64 0) ∧ w9.frozen? ⟨g9, 1, none⟩ = false := numsOwn_cell HV9.out rfl
        clear ho9 hb9 hs9 hg9 hl9 hg9a hg9b
        go_wp2_with fail
        go_loopw [15] (fun l wr => l = .slice (some ⟨g9, 0, none⟩) 4 c9 ∧ wr = w9) (fun _ _ => 0)
        case atStart => exact ⟨rfl, rfl⟩
        case round =>
          obtain ⟨rfl, ewr⟩ := hrel
          obtain rfl : w9 = wr := ewr.symm
          have wt1 : IntKind.i64.wrap ((t : Int) + 1) = (t : Int) + 1 := by rw [IntKind.wrap_i64]; omega
          have wt3 : IntKind.i64.wrap ((t : Int) + 3) = (t : Int) + 3 := by rw [IntKind.wrap_i64]; omega
          go_upto_region 24 with (fail)
          have HV10 : Hid (numsOwn (w9.setCell ⟨g9, 1, none⟩ (.int .i64 0)) wo.heap.size (.slice (some ⟨g9, 0, none⟩) 4 c9) [ox, 0, 0, 0]) := hide (numsOwn_set HV9.out 1 0)
          have HB10 : Hid (Below wo.heap.size wo (w9.setCell ⟨g9, 1, none⟩ (.int .i64 0))) := hide (HB9.out.setCell HG9.out.1 _)
          have HRO : Hid ([ox, 0, 0, 0] = ownW f n t) := hide (by rw [HN.out])
          clear HV9 HB9 k1 kf
          generalize w9.setCell ⟨g9, 1, none⟩ (.int .i64 0) = w10 at *
          have HPA := hide (HP1.out.below HB10.out)
          have HAP : Hid (Ap sb iv rv (.slice (some ⟨g9, 0, none⟩) 4 c9)) := hide (ap_new HP1.out fun b e => by obtain rfl : g9 = b := Option.some.inj e; exact HG9.out.1)
          have HVB : Hid (numsOwn w10 w1.heap.size (.slice (some ⟨g9, 0, none⟩) 4 c9) [ox, 0, 0, 0]) := hide (numsOwn_mono HV10.out HP1.out.bz)
          clear HV10 HB10 HP1 HG9
          have c1 := HPA.out.c1
          have z1 := HPA.out.fz 1
          have bel : Below w10.heap.size w10 (w10.alloc (.cells #[.slice (some ⟨g9, 0, none⟩) 4 c9] 36)) := (Below.refl _ _).alloc (Nat.le_refl _) _
          obtain ⟨LI, HLI, hLI⟩ : ∃ LI, Hid (LI = (gI f n t).length) ∧ LI ≤ 7 := ⟨_, hide rfl, by rw [gI_len]; omega⟩
          go_wp2_with (at_builtin; refine wpList_append_own_at _ rfl _ _ 73 rfl w1.heap.size 36 rii (.slice none 0 0) 1 24 Tryz.underlying73 hrii hrz hrs hrb rfl (by decide) iv LI vs rfl ?qa0 ⟨w10.heap.size, 0, none⟩ 1 1 [.slice (some ⟨g9, 0, none⟩) 4 c9] rfl rfl ?qa1 ?qa2 ?qa3 ?qa4 ?qa5 ?_)
          case qa0 => rw [HLI.out]; exact (HPA.out.below bel).oi
          try (case qa1 =>
            intro k x hk
            cases k with
            | zero => cases hk; rw [Addr.add_lit]; simp
            | succ k => simp at hk)
          case qa2 => rfl
          case qa3 => unfold maxLen; omega
          case qa4 => omega
          case qa5 => have := HPA.out.bz; omega
          intro iv' w11 ho11 hg11 hnil11 hloc11
          have HP11 : Hid (WP w1.heap.size sb w1 [(.slice (some ⟨go, 0, none⟩) 4 co, [ox, 0, 0, 0])] iv' (vs ++ [.slice (some ⟨g9, 0, none⟩) 4 c9]) (gI f n (t + 1)) rv rs (gR n t) (w11.setCell ⟨sb, 1, none⟩ iv')) := hide (by
            rw [← gI_succ, ← HRO.out]
            exact (HPA.out.below bel).addI (us := [.slice (some ⟨g9, 0, none⟩) 4 c9]) (rws := [[ox, 0, 0, 0]]) (fun k row hr => by
              cases k with
              | zero => cases hr; exact ⟨_, rfl, numsOwn_keep HVB.out bel, HAP.out⟩
              | succ k => simp at hr) (N := w10.heap.size + 1) (by simp) (by rw [← HLI.out]; exact ho11) hg11 hloc11)
          obtain ⟨C11, Z11⟩ := (HPA.out.below bel).box hg11 HPA.out.ni
          have c1' := (C11 1).trans (HPA.out.below bel).c1
          have z1' := Z11 1
          obtain ⟨ag2, cg2, rfl, -⟩ := ownsRow_shape ho11
          clear ho11 hg11 hnil11 hloc11 C11 Z11 bel c1 z1 HPA HAP HVB HLI HRO
          go_upto_region 25 with (fail)
          clear c1' z1'
          generalize w11.setCell ⟨sb, 1, none⟩ (.slice ag2 (LI + 1) cg2) = w12 at *
          have c2 := HP11.out.c2
          have z2 := HP11.out.fz 2
          have bel2 : Below w12.heap.size w12 ((w12.alloc (.cells #[.int .i64 0, .int .i64 0, .int .i64 0, .int .i64 0, .int .i64 0, .int .i64 ((n : Int) + 2), .int .i64 ((t : Int) + 2), .int .i64 1] 3)).alloc (.cells #[.slice (some ⟨w12.heap.size, 0, none⟩) 8 8] 36)) := ((Below.refl _ _).alloc (Nat.le_refl _) _).alloc (by simp) _
          have HAP2 : Hid (Ap sb (.slice ag2 (LI + 1) cg2) rv (.slice (some ⟨w12.heap.size, 0, none⟩) 8 8)) := hide (ap_new HP11.out fun b e => by obtain rfl : w12.heap.size = b := Option.some.inj e; exact Nat.le_refl _)
          have HVB2 : Hid (numsOwn ((w12.alloc (.cells #[.int .i64 0, .int .i64 0, .int .i64 0, .int .i64 0, .int .i64 0, .int .i64 ((n : Int) + 2), .int .i64 ((t : Int) + 2), .int .i64 1] 3)).alloc (.cells #[.slice (some ⟨w12.heap.size, 0, none⟩) 8 8] 36)) w1.heap.size (.slice (some ⟨w12.heap.size, 0, none⟩) 8 8) (gcRegs n t)) := hide (numsOwn_keep (numsOwn_new' rfl rfl HP11.out.bz (show 8 ≤ 1000000 by decide)) ((Below.refl _ _).alloc (Nat.le_refl _) _))
          obtain ⟨LR, HLR, hLR⟩ : ∃ LR, Hid (LR = (gR n t).length) ∧ LR ≤ 7 := ⟨_, hide rfl, by rw [gR_len]; omega⟩
          go_wp2_with (at_builtin; refine wpList_append_own_at _ rfl _ _ 73 rfl w1.heap.size 36 rii (.slice none 0 0) 1 24 Tryz.underlying73 hrii hrz hrs hrb rfl (by decide) rv LR rs rfl ?qb0 ⟨w12.heap.size + 1, 0, none⟩ 1 1 [.slice (some ⟨w12.heap.size, 0, none⟩) 8 8] rfl rfl ?qb1 ?qb2 ?qb3 ?qb4 ?qb5 ?_)
          case qb0 => rw [HLR.out]; exact (HP11.out.below bel2).or'
          try (case qb1 =>
            intro k x hk
            cases k with
            | zero => cases hk; rw [Addr.add_lit]; simp
            | succ k => simp at hk)
          case qb2 =>
            intro x hx
            obtain rfl : x = .slice (some ⟨w12.heap.size, 0, none⟩) 8 8 := by simpa using hx
            rfl
          case qb3 => unfold maxLen; omega
          case qb4 => omega
          case qb5 => exact (HP11.out.below bel2).bz
          intro rv' w13 ho13 hg13 hnil13 hloc13
          have HP13 : Hid (WP w1.heap.size sb w1 [(.slice (some ⟨go, 0, none⟩) 4 co, [ox, 0, 0, 0])] (.slice ag2 (LI + 1) cg2) (vs ++ [.slice (some ⟨g9, 0, none⟩) 4 c9]) (gI f n (t + 1)) rv' (rs ++ [.slice (some ⟨w12.heap.size, 0, none⟩) 8 8]) (gR n (t + 1)) (w13.setCell ⟨sb, 2, none⟩ rv')) := hide (by
            rw [← gR_succ]
            exact (HP11.out.below bel2).addR (us := [.slice (some ⟨w12.heap.size, 0, none⟩) 8 8]) (rws := [gcRegs n t]) (fun k row hr => by
              cases k with
              | zero => cases hr; exact ⟨_, rfl, HVB2.out, HAP2.out⟩
              | succ k => simp at hr) (N := w12.heap.size + 1 + 1) (by simp) (by rw [← HLR.out]; exact ho13) hg13 hloc13)
          obtain ⟨C13, Z13⟩ := (HP11.out.below bel2).box hg13 HP11.out.nr
          have c2' := (C13 2).trans (HP11.out.below bel2).c2
          have z2' := Z13 2
          obtain ⟨ag3, cg3, rfl, -⟩ := ownsRow_shape ho13
          clear ho13 hg13 hnil13 hloc13 C13 Z13 bel2 c2 z2 HP11 HAP2 HVB2 HLR
          go_wp2_with fail
          go_roundw
          case rel => exact ⟨t + 1, by omega, by go_num, hide ⟨_, _, _, _, HP13.out⟩⟩
          case measure => simp [intOf]; omega
      · obtain rfl : t = n := by omega
        have HPA := hide hP
        have c1 := HPA.out.c1
        have z1 := HPA.out.fz 1
        obtain ⟨LI, HLI, hLI⟩ : ∃ LI, Hid (LI = (gI f t t).length) ∧ LI ≤ 7 := ⟨_, hide rfl, by rw [gI_len]; omega⟩
        have bel : Below wo.heap.size wo (((wo.alloc (.cells #[.int .i64 ((t : Int) + 3)] 3)).alloc (.cells #[.int .i64 1] 3)).alloc (.cells #[.slice (some ⟨wo.heap.size, 0, none⟩) 1 1, .slice (some ⟨wo.heap.size + 1, 0, none⟩) 1 1] 36)) := (((Below.refl _ _).alloc (Nat.le_refl _) _).alloc (by simp) _).alloc (by simp; omega) _
        have HVA : Hid (numsOwn (((wo.alloc (.cells #[.int .i64 ((t : Int) + 3)] 3)).alloc (.cells #[.int .i64 1] 3)).alloc (.cells #[.slice (some ⟨wo.heap.size, 0, none⟩) 1 1, .slice (some ⟨wo.heap.size + 1, 0, none⟩) 1 1] 36)) w1.heap.size (.slice (some ⟨wo.heap.size, 0, none⟩) 1 1) [(t : Int) + 3]) := hide (numsOwn_keep (numsOwn_keep (numsOwn_new' rfl rfl HPA.out.bz (show 1 ≤ 1000000 by decide)) ((Below.refl _ _).alloc (Nat.le_refl _) _)) ((Below.refl _ _).alloc (Nat.le_refl _) _))
        have HVC : Hid (numsOwn (((wo.alloc (.cells #[.int .i64 ((t : Int) + 3)] 3)).alloc (.cells #[.int .i64 1] 3)).alloc (.cells #[.slice (some ⟨wo.heap.size, 0, none⟩) 1 1, .slice (some ⟨wo.heap.size + 1, 0, none⟩) 1 1] 36)) w1.heap.size (.slice (some ⟨wo.heap.size + 1, 0, none⟩) 1 1) [1]) := hide (by
          have h := numsOwn_new' (w := wo.alloc (.cells #[.int .i64 ((t : Int) + 3)] 3)) (cs := #[.int .i64 1]) (l := [1]) (k := 1) (base := w1.heap.size) rfl rfl (by have := HPA.out.bz; simp; omega) (by decide)
          rw [show (wo.alloc (.cells #[.int .i64 ((t : Int) + 3)] 3)).heap.size = wo.heap.size + 1 by simp] at h
          exact numsOwn_keep h ((Below.refl _ _).alloc (Nat.le_refl _) _))
        have HAA : Hid (Ap sb iv rv (.slice (some ⟨wo.heap.size, 0, none⟩) 1 1)) := hide (ap_new HPA.out fun b e => by obtain rfl : wo.heap.size = b := Option.some.inj e; exact Nat.le_refl _)
        have HAC : Hid (Ap sb iv rv (.slice (some ⟨wo.heap.size + 1, 0, none⟩) 1 1)) := hide (ap_new HPA.out fun b e => by obtain rfl : wo.heap.size + 1 = b := Option.some.inj e; exact Nat.le_succ _)
        obtain ⟨ar, cr, rfl, -⟩ := ownsRow_shape hP.or'
        clear hP HP
        go_wp2_with (at_builtin; refine wpList_append_own_at _ rfl _ _ 73 rfl w1.heap.size 36 rii (.slice none 0 0) 1 24 Tryz.underlying73 hrii hrz hrs hrb rfl (by decide) iv LI vs rfl ?z0 ⟨wo.heap.size + 1 + 1, 0, none⟩ 2 2 [.slice (some ⟨wo.heap.size, 0, none⟩) 1 1, .slice (some ⟨wo.heap.size + 1, 0, none⟩) 1 1] rfl rfl ?z1 ?z2 ?z3 ?z4 ?z5 ?_)
        case z0 => rw [HLI.out]; exact (HPA.out.below bel).oi
        case z1 =>
          intro k x hk
          rw [Addr.add_lit, show wo.heap.size + 1 + 1 = ((wo.alloc (.cells #[.int .i64 ((t : Int) + 3)] 3)).alloc (.cells #[.int .i64 1] 3)).heap.size by simp, World.cell?_alloc_new, Nat.zero_add]
          simpa using hk
        case z2 =>
          intro x hx
          simp only [List.mem_cons, List.not_mem_nil, or_false] at hx
          rcases hx with rfl | rfl <;> rfl
        case z3 => unfold maxLen; omega
        case z4 => omega
        case z5 => exact (HPA.out.below bel).bz
        intro iv' w11 ho11 hg11 hnil11 hloc11
        have HP11 : Hid (WP w1.heap.size sb w1 [(.slice (some ⟨go, 0, none⟩) 4 co, [ox, 0, 0, 0])] iv' (vs ++ [.slice (some ⟨wo.heap.size, 0, none⟩) 1 1, .slice (some ⟨wo.heap.size + 1, 0, none⟩) 1 1]) (gcInit f t) (.slice ar (gR t t).length cr) rs (gR t t) (w11.setCell ⟨sb, 1, none⟩ iv')) := hide (by
          rw [← gI_end]
          exact (HPA.out.below bel).addI (us := [.slice (some ⟨wo.heap.size, 0, none⟩) 1 1, .slice (some ⟨wo.heap.size + 1, 0, none⟩) 1 1]) (rws := [[(t : Int) + 3], [1]]) (fun k row hr => by
            rcases k with _ | _ | k
            · cases hr; exact ⟨_, rfl, HVA.out, HAA.out⟩
            · cases hr; exact ⟨_, rfl, HVC.out, HAC.out⟩
            · simp at hr) (N := wo.heap.size + 1 + 1 + 1) (by simp) (by rw [← HLI.out]; exact ho11) hg11 hloc11)
        obtain ⟨C11, Z11⟩ := (HPA.out.below bel).box hg11 HPA.out.ni
        have c1' := (C11 1).trans (HPA.out.below bel).c1
        have z1' := Z11 1
        obtain ⟨ag2, cg2, rfl, -⟩ := ownsRow_shape ho11
        clear ho11 hg11 hnil11 hloc11 C11 Z11 bel c1 z1 HPA HAA HAC HVA HVC
        go_upto_region 27 with (fail)
        clear c1' z1'
        generalize w11.setCell ⟨sb, 1, none⟩ (.slice ag2 (LI + 2) cg2) = w12 at *
        have hLI2 : LI + 2 = t + 3 := by rw [HLI.out, gI_len]
        have hLR2 := gR_len t t
        rw [hLI2] at HP11 ⊢
        rw [hLR2] at HP11
        clear hLI2 hLR2 HLI hLI
        have hlt1 : w.heap.size < w1.heap.size := by rw [HS1.out]; exact Nat.lt_succ_self _
        have c0 := HP11.out.c0
        have c1 := HP11.out.c1
        have c2 := HP11.out.c2
        have hbr : w12.heap[w.heap.size]? = w1.heap[w.heap.size]? := HP11.out.low.block _ hlt1
        have r0 : w12.cell? ⟨w.heap.size, 0, none⟩ = some (.int .i64 0) := (World.cell?_of_block hbr).trans HT.out.1
        have r1 : w12.cell? ⟨w.heap.size, 1, none⟩ = some (.slice none 0 0) := (World.cell?_of_block hbr).trans HT.out.2.1
        have r2 : w12.cell? ⟨w.heap.size, 2, none⟩ = some (.slice none 0 0) := (World.cell?_of_block hbr).trans HT.out.2.2.1
        have z0 : w12.frozen? ⟨w.heap.size, 0, none⟩ = false := (World.frozen?_of_block hbr).trans (HT.out.2.2.2 0)
        have z1 : w12.frozen? ⟨w.heap.size, 1, none⟩ = false := (World.frozen?_of_block hbr).trans (HT.out.2.2.2 1)
        have z2 : w12.frozen? ⟨w.heap.size, 2, none⟩ = false := (World.frozen?_of_block hbr).trans (HT.out.2.2.2 2)
        have HEND : Hid (StaAt (gcSta f t) ⟨ag2, cg2, ar, cr⟩ (((w12.setCell ⟨w.heap.size, 0, none⟩ (.int .i64 30)).setCell ⟨w.heap.size, 1, none⟩ (.slice ag2 (t + 3) cg2)).setCell ⟨w.heap.size, 2, none⟩ (.slice ar t cr)) ∧ Below w.heap.size w (((w12.setCell ⟨w.heap.size, 0, none⟩ (.int .i64 30)).setCell ⟨w.heap.size, 1, none⟩ (.slice ag2 (t + 3) cg2)).setCell ⟨w.heap.size, 2, none⟩ (.slice ar t cr))) := hide (by
          have hB : Below w.heap.size w w12 := HB1.out.trans (HP11.out.low.mono (Nat.le_of_lt hlt1))
          refine ⟨?_, ((hB.setCell (Nat.le_refl _) _).setCell (Nat.le_refl _) _).setCell (Nat.le_refl _) _⟩
          have hW := ((HP11.out.out hlt1 0 (.int .i64 30) rfl).out hlt1 1 (.slice ag2 (t + 3) cg2) rfl).out hlt1 2 (.slice ar t cr) rfl
          have hlI : ∀ row ∈ gcInit f t, row.length ≤ 100 := fun row hr => by
            unfold gcInit at hr
            simp only [List.mem_cons, List.mem_append, List.mem_map, List.not_mem_nil, or_false] at hr
            rcases hr with rfl | ⟨a, -, rfl⟩ | rfl | rfl <;> exact Nat.le_of_ble_eq_true rfl
          have hlR : ∀ row ∈ gR t t, row.length ≤ 100 := fun row hr => by
            obtain ⟨a, -, rfl⟩ := List.mem_map.1 hr
            show 8 ≤ 100; decide
          obtain ⟨ai, ci, ar', cr', e1, e2, h3⟩ := hW.sta (c := 30) rfl (by rw [gcInit_len]; omega) (by rw [gR_len]; omega) hlI hlR
          rw [gcInit_len] at e1
          rw [gR_len] at e2
          cases e1
          cases e2
          exact h3)
        clear HP11 hbr hlt1 HT HB1 HS1
        go_wp2_with fail
        refine bodyPost_ret (v := .tuple #[.agg #[.int .i64 30, .slice ag2 (t + 3) cg2, .slice ar t cr], .bool true]) (by simp only [results, Tryz.results36]; go_simp) rfl ⟨ag2, cg2, ar, cr, rfl, ?_, ?_⟩
        · exact HEND.out.1
        · exact HEND.out.2
end Go.Proofs.YtgmokighfgdnjaaGreatDoor
