import Derived.Test.YtpjabgdcpogdiaaGreatDoorE33
import Derived.Test.YtpjabgdcpogdiaaGreatDoorE34
import Derived.Test.YtpjabgdcpogdiaaGreatDoorE28
import Derived.Test.YtpjabgdcpogdiaaGreatDoorE21
import Derived.Test.YtpjabgdcpogdiaaGreatDoorE29
import Derived.Test.YtpjabgdcpogdiaaGreatDoorE17
import Derived.Deep.Cut
import Derived.Test.YtpjabgdcpogdiaaGreatDoorE27
import Derived.Laws.AppendOwnNone

/- SpJ -/
namespace Go.Proofs.YtpjabgdcpogdiaaGreatDoor
open Go.RowKit Go.Extern.Stop Go.Stop Go.Extern Go.Maps Go.WideMaps Go.Sort

theorem rowsInfo : ∃ i, (Tryz.prog).info? 61 = some i ∧ i.zero = some (.slice none 0 0) ∧ i.size = 1 ∧ i.bytes = 24 := info_parts (by kernel_rfl)
theorem codesInfo : ∃ i, (Tryz.prog).info? 37 = some i ∧ i.zero = some (.slice none 0 0) ∧ i.size = 1 ∧ i.bytes = 24 := info_parts (by kernel_rfl)

set_option maxRecDepth 20000 in
theorem field_fault (a b : Int) (w : World) : (Instr.field 52 (.agg #[.int .i64 a, .int .i64 b]) 0).run Tryz.prog w = .ok (.int .i64 a) w := by
  rfl
end Go.Proofs.YtpjabgdcpogdiaaGreatDoor

/- GdX -/
namespace Go.Proofs.YtpjabgdcpogdiaaGreatDoor
open Go.RowKit Go.Extern.Stop Go.Stop Go.Extern Go.Maps Go.WideMaps Go.Sort

theorem wp_first {w1 w6 : World} {ov : Value} {orow : List Int} (hB : Below w1.heap.size w1 w6) (ho : numsOwn w6 w1.heap.size ov orow) :
    WP w1.heap.size w6.heap.size w1 [(ov, orow)] (.slice none 0 0) [] [] (.slice none 0 0) [] [] (w6.alloc (.cells #[.int .i64 30, .slice none 0 0, .slice none 0 0] 44)) := by
  have n := World.cell?_alloc_new w6 #[.int .i64 30, .slice none 0 0, .slice none 0 0] 44
  have hb : Below w6.heap.size w6 (w6.alloc (.cells #[.int .i64 30, .slice none 0 0, .slice none 0 0] 44)) := (Below.refl _ _).alloc (Nat.le_refl _) _
  exact {
    c0 := (n 0).trans rfl
    c1 := (n 1).trans rfl
    c2 := (n 2).trans rfl
    fz := fun o => World.frozen?_alloc_new _ _ _ o
    oi := World.ownsRow_nil _ _ _ _
    or' := World.ownsRow_nil _ _ _ _
    ei := fun i row hr => by simp at hr
    er := fun i row hr => by simp at hr
    ni := fun e => nomatch e
    nr := fun e => nomatch e
    ne := fun b e => nomatch e
    kp := fun x hx => by
      obtain rfl : x = (ov, orow) := by simpa using hx
      exact ⟨numsOwn_keep ho hb, fun b e => ⟨by have := (World.ownsRow.lt ho b e).2; omega, (fun e2 => nomatch e2), (fun e2 => nomatch e2)⟩⟩
    low := hB.trans (hb.mono hB.size)
    bs := hB.size
    sl := by simp }
def gI (f n t : Nat) : List (List Int) := hubW f :: (List.range t).map (ownW f n)
def gR (n t : Nat) : List (List Int) := (List.range t).map (gcRegs n)
theorem gI_succ (f n t : Nat) : gI f n t ++ [ownW f n t] = gI f n (t + 1) := by
  unfold gI
  rw [List.range_succ, List.map_append]
  rfl
theorem gR_succ (n t : Nat) : gR n t ++ [gcRegs n t] = gR n (t + 1) := by
  unfold gR
  rw [List.range_succ, List.map_append]
  rfl
theorem gI_len (f n t : Nat) : (gI f n t).length = t + 1 := by simp [gI]
theorem gR_len (n t : Nat) : (gR n t).length = t := by simp [gR]
theorem gI_end (f n : Nat) : gI f n n ++ [[(n : Int) + 3], [1]] = gcInit f n := rfl
theorem numsOwn_new' {w : World} {l : List Int} {cs : Array Value} {base k : Nat} (h : cs.toList = ncells l) (hk : l.length = k) (hb : base ≤ w.heap.size) (hl : l.length ≤ 1000000) : numsOwn (w.alloc (.cells cs 3)) base (.slice (some ⟨w.heap.size, 0, none⟩) k k) l := by
  subst hk; exact numsOwn_new h hb hl
theorem ap_new {base sb : Nat} {w1 : World} {K : List (Value × List Int)} {iv : Value} {vs : List Value} {I : List (List Int)} {rv : Value} {rs : List Value} {R : List (List Int)} {w : World} (h : WP base sb w1 K iv vs I rv rs R w) {u : Value} (hu : ∀ b, u.ownBlock = some b → w.heap.size ≤ b) : Ap sb iv rv u := fun b e => by
  have h1 := hu b e
  have h2 := h.sl
  exact ⟨by omega, fun e2 => by have := (h.oi.lt b e2).2; omega, fun e2 => by have := (h.or'.lt b e2).2; omega⟩

set_option maxRecDepth 20000 in
set_option maxHeartbeats 4000000 in
theorem world_plain {f : Nat} (hf : 1 ≤ f ∧ f ≤ 4) (h4 : f ≠ 4) (n : Nat) (h1 : 1 ≤ n) (h6 : n ≤ 6) (w : World) :
    Calls Tryz.prog 11 #[.int .i64 f, .int .i64 n] w fun e w' => ∃ ai ci ar cr, e = .returned (.tuple #[.agg #[.int .i64 30, .slice ai (n + 3) ci, .slice ar n cr], .bool true]) ∧ StaAt (gcSta f n) ⟨ai, ci, ar, cr⟩ w' ∧ Below w.heap.size w w' := by
  have HH := hide (hub_ok hf)
  have HO := hide (own_ok hf)
  have HK := hide (link_ok hf)
  rw [show linkX f = 1 from if_neg h4] at HK
  have HW : Hid (hubW f = [1, 2, 0, 0]) := hide (by unfold hubW; rw [if_neg h4])
  have HN : Hid (∀ t, ownW f n t = [ownX f, if t + 1 < n then (t : Int) + 3 else 0, 0, 0]) := hide fun t => by unfold ownW ownX; rw [if_neg h4]
  have n6 : (n : Int) ≤ 6 := by omega
  have n0 : (0 : Int) ≤ n := by omega
  have wn2 : IntKind.i64.wrap ((n : Int) + 2) = (n : Int) + 2 := by rw [IntKind.wrap_i64]; omega
  have wn3 : IntKind.i64.wrap ((n : Int) + 3) = (n : Int) + 3 := by rw [IntKind.wrap_i64]; omega
  obtain ⟨rii, hrii, hrz, hrs, hrb⟩ := rowsInfo
  clear h4 hf
  generalize ownX f = ox at *
  generalize hfi : (f : Int) = fi at *
  clear hfi
  go_enter Tryz.func11, Tryz.ntmps11
  go_wp2_with fail
  generalize hw1 : w.alloc _ = w1
  have b1 : Below w.heap.size w w1 := by rw [← hw1]; exact (Below.refl _ w).alloc (Nat.le_refl _) _
  have s1 : w1.heap.size = w.heap.size + 1 := by rw [← hw1]; simp
  have t0 : w1.cell? ⟨w.heap.size, 0, none⟩ = some (.int .i64 0) := by rw [← hw1, World.cell?_alloc_new]; rfl
  have t1 : w1.cell? ⟨w.heap.size, 1, none⟩ = some (.slice none 0 0) := by rw [← hw1, World.cell?_alloc_new]; rfl
  have t2 : w1.cell? ⟨w.heap.size, 2, none⟩ = some (.slice none 0 0) := by rw [← hw1, World.cell?_alloc_new]; rfl
  have tz : ∀ o, w1.frozen? ⟨w.heap.size, o, none⟩ = false := fun o => by rw [← hw1]; exact World.frozen?_alloc_new _ _ _ _
  have HT := hide (And.intro t0 (And.intro t1 (And.intro t2 tz)))
  have HS1 := hide s1
  have HB1 := hide b1
  clear hw1 t0 t1 t2 tz s1 b1
  refine (HH.out _).mono ?_
  rintro e w2 ⟨hv, rfl, hh, hb2⟩
  obtain ⟨gh, ch, rfl, hgh, hlh, hch⟩ : ∃ g cap, hv = .slice (some ⟨g, 0, none⟩) 4 cap ∧ w1.heap.size ≤ g ∧ g < w2.heap.size ∧ 4 ≤ cap := numsOwn_form hh (by decide)
  have HHV := hide hh
  have HB2 := hide hb2
  clear hh hb2 hgh hlh hch HH
  go_wp2_with fail
  refine (HO.out _).mono ?_
  rintro e w3 ⟨ov, rfl, ho, hb3⟩
  obtain ⟨go, co, rfl, hgo, hlo, hco⟩ : ∃ g cap, ov = .slice (some ⟨g, 0, none⟩) 4 cap ∧ w2.heap.size ≤ g ∧ g < w3.heap.size ∧ 4 ≤ cap := numsOwn_form ho (Nat.succ_pos _)
  have HHV3 := hide (numsOwn_keep HHV.out hb3)
  have HB3 := hide (below_step HB2.out hb3)
  have HOV := hide (numsOwn_mono ho HB2.out.size)
  clear ho hb3 hgo hlo hco HO HHV HB2
  go_wp2_with fail
  refine (HK.out _).mono ?_
  rintro e w4 ⟨rfl, e4⟩
  obtain rfl : w3 = w4 := e4.symm
  clear HK
  go_wp2_with (at_builtin; refine wpList_append_ints _ rfl _ _ rfl w3.heap.size [] [1, 0, 0, 0] (.slice none 0 0) ⟨gh, 0, none⟩ ch rfl (numsOwn_nil _ _) rfl ?b1 (by decide) (Nat.le_refl _) ?_)
  case b1 =>
    obtain ⟨_, _, e, _, hq⟩ := numsOwn_at HHV3.out
    cases e; exact hq
  intro v5 w5 ho5 hb5 hs5 hg5 hl5
  obtain ⟨g5, c5, rfl, hg5a, hg5b, hc5⟩ : ∃ g cap, v5 = .slice (some ⟨g, 0, none⟩) 4 cap ∧ w3.heap.size ≤ g ∧ g < w5.heap.size ∧ 4 ≤ cap := numsOwn_form ho5 (by decide)
  have HV5 : Hid (numsOwn w5 w3.heap.size (.slice (some ⟨g5, 0, none⟩) 4 c5) [1, 0, 0, 0]) := hide ho5
  have HB5 := hide (below_step HB3.out hb5)
  have HOV5 := hide (numsOwn_keep HOV.out hb5)
  have HNE : Hid (∀ b, (Value.slice (some ⟨go, 0, none⟩) 4 co).ownBlock = some b → b ≠ g5) := hide fun b e e2 => by
    have := (World.ownsRow.lt HOV.out b e).2
    omega
  have HG5 := hide (And.intro hg5a hg5b)
  have HLE := hide HB3.out.size
  clear ho5 hb5 hs5 hg5 hl5 hg5a hg5b HHV3 HB3 HOV
  go_wp2_with fail
  go_loopw [12] (fun l wr => l = .slice (some ⟨g5, 0, none⟩) 4 c5 ∧ wr = w5) (fun _ _ => 0)
  case atStart => exact ⟨rfl, rfl⟩
  case round =>
    obtain ⟨rfl, ewr⟩ := hrel
    obtain rfl : w5 = wr := ewr.symm
    obtain ⟨k1, kf⟩ : w5.cell? ⟨g5, 1, none⟩ = some (.int .i64 0) ∧ w5.frozen? ⟨g5, 1, none⟩ = false := numsOwn_cell HV5.out rfl
    go_upto_region 12 with (fail)
    have HV6 : Hid (numsOwn (w5.setCell ⟨g5, 1, none⟩ (.int .i64 2)) w3.heap.size (.slice (some ⟨g5, 0, none⟩) 4 c5) [1, 2, 0, 0]) := hide (numsOwn_set HV5.out 1 2)
    have HB6 : Hid (Below w1.heap.size w1 (w5.setCell ⟨g5, 1, none⟩ (.int .i64 2))) := hide (HB5.out.setCell (show w1.heap.size ≤ g5 by have := HG5.out.1; have := HLE.out; omega) _)
    have HOV6 : Hid (numsOwn (w5.setCell ⟨g5, 1, none⟩ (.int .i64 2)) w1.heap.size (.slice (some ⟨go, 0, none⟩) 4 co) [ox, 0, 0, 0]) := hide (ownsRow_block HOV5.out (fun b e => Below.heap_setCell _ _ _ _ (fun e2 => HNE.out b e e2)))
    clear k1 kf HV5 HB5 HOV5
    generalize w5.setCell ⟨g5, 1, none⟩ (.int .i64 2) = w6 at *
    have HP0 := hide (wp_first HB6.out HOV6.out)
    have HV7 := hide (numsOwn_keep (numsOwn_mono HV6.out HLE.out) ((Below.refl _ _).alloc (Nat.le_refl _) (.cells #[.int .i64 30, .slice none 0 0, .slice none 0 0] 44)))
    have HA7 : Hid (Ap w6.heap.size (.slice none 0 0) (.slice none 0 0) (.slice (some ⟨g5, 0, none⟩) 4 c5)) := hide fun b e => ⟨by have := (World.ownsRow.lt HV6.out b e).2; omega, (fun e2 => nomatch e2), (fun e2 => nomatch e2)⟩
    go_upto_region 13 with (fail)
    clear HV6 HB6 HOV6
    generalize w6.alloc (.cells #[.int .i64 30, .slice none 0 0, .slice none 0 0] 44) = w7 at *
    generalize w6.heap.size = sb at *
    have c1 := HP0.out.c1
    have z1 := HP0.out.fz 1
    have bel : Below w7.heap.size w7 (w7.alloc (.cells #[.slice (some ⟨g5, 0, none⟩) 4 c5] 61)) := (Below.refl _ _).alloc (Nat.le_refl _) _
    go_wp2_with (at_builtin; refine wpList_append_own_at _ rfl _ _ 42 rfl w1.heap.size 61 rii (.slice none 0 0) 1 24 Tryz.underlying42 hrii hrz hrs hrb rfl (by decide) (.slice none 0 0) 0 [] rfl ?c0 ⟨w7.heap.size, 0, none⟩ 1 1 [.slice (some ⟨g5, 0, none⟩) 4 c5] rfl rfl ?c1 ?c2 ?c3 ?c4 ?c5 ?_)
    case c0 => exact (HP0.out.below bel).oi
    case c2 => rfl
    case c3 => decide
    case c5 => have := HP0.out.bz; omega
    intro iv8 w8 ho8 hg8 hnil8 hloc8
    have HP8 : Hid (WP w1.heap.size sb w1 [(.slice (some ⟨go, 0, none⟩) 4 co, [ox, 0, 0, 0])] iv8 [.slice (some ⟨g5, 0, none⟩) 4 c5] (gI f n 0) (.slice none 0 0) [] (gR n 0) (w8.setCell ⟨sb, 1, none⟩ iv8)) := hide (by
      rw [show gI f n 0 = [[1, 2, 0, 0]] by show [hubW f] = _; rw [HW.out]]
      exact (HP0.out.below bel).addI (us := [.slice (some ⟨g5, 0, none⟩) 4 c5]) (rws := [[1, 2, 0, 0]]) (fun k row hr => by
        cases k with
        | zero => cases hr; exact ⟨_, rfl, numsOwn_keep HV7.out bel, HA7.out⟩
        | succ k => simp at hr) (N := w7.heap.size + 1) (by simp) ho8 hg8 hloc8)
    obtain ⟨C8, Z8⟩ := (HP0.out.below bel).box hg8 HP0.out.ni
    have c1' := (C8 1).trans (HP0.out.below bel).c1
    have z1' := Z8 1
    obtain ⟨ag, cg, rfl, -⟩ := ownsRow_shape ho8
    clear ho8 hg8 hnil8 hloc8 C8 Z8 bel c1 z1 HP0 HV7 HA7
    go_wp2_with fail
    clear c1' z1'
    generalize w8.setCell ⟨sb, 1, none⟩ (.slice ag 1 cg) = w9 at *
    go_loopw [14, 15] (fun i _ wr => ∃ t : Nat, t ≤ n ∧ i = .int .i64 t ∧ Hid (∃ iv vs rv rs, WP w1.heap.size sb w1 [(.slice (some ⟨go, 0, none⟩) 4 co, [ox, 0, 0, 0])] iv vs (gI f n t) rv rs (gR n t) wr)) (fun i _ _ => n - (intOf i).toNat)
    case atStart => exact ⟨0, Nat.zero_le _, rfl, hide ⟨_, _, _, _, HP8.out⟩⟩
    case round =>
      clear HP8
      obtain ⟨wo, hwo⟩ : ∃ wo : World, wo = wr := ⟨_, rfl⟩
      subst hwo
      obtain ⟨t, ht, rfl, HP⟩ := hrel
      obtain ⟨iv, vs, rv, rs, hP⟩ := HP.out
      by_cases hlt : t < n
      · have ti : (t : Int) < n := by omega
        have tp : (0 : Int) ≤ t := by omega
        have HP1 := hide hP
        clear hP HP
        go_wp2_with (at_builtin; refine wpList_append_ints _ rfl _ _ rfl wo.heap.size [] [ox, 0, 0, 0] (.slice none 0 0) ⟨go, 0, none⟩ co rfl (numsOwn_nil _ _) rfl ?d1 (show 4 ≤ 1000000 by decide) (Nat.le_refl _) ?_)
        case d1 =>
          obtain ⟨_, _, e, _, hq⟩ := numsOwn_at (HP1.out.kp _ (List.mem_cons_self ..)).1
          cases e; exact hq
        intro v9 w9 ho9 hb9 hs9 hg9 hl9
        obtain ⟨g9, c9, rfl, hg9a, hg9b, hc9⟩ : ∃ g cap, v9 = .slice (some ⟨g, 0, none⟩) 4 cap ∧ wo.heap.size ≤ g ∧ g < w9.heap.size ∧ 4 ≤ cap := numsOwn_form ho9 (Nat.succ_pos _)
        have HV9 : Hid (numsOwn w9 wo.heap.size (.slice (some ⟨g9, 0, none⟩) 4 c9) [ox, 0, 0, 0]) := hide ho9
        have HB9 := hide hb9
        have HG9 := hide (And.intro hg9a hg9b)
        obtain ⟨k1, kf⟩ : w9.cell? ⟨g9, 1, none⟩ = some (.int .i64 0) ∧ w9.frozen? ⟨g9, 1, none⟩ = false := numsOwn_cell HV9.out rfl
        clear ho9 hb9 hs9 hg9 hl9 hg9a hg9b
        go_wp2_with fail
        go_loopw [15] (fun l wr => l = .slice (some ⟨g9, 0, none⟩) 4 c9 ∧ wr = w9) (fun _ _ => 0)
        case atStart => exact ⟨rfl, rfl⟩
        case round =>
          obtain ⟨rfl, ewr⟩ := hrel
          obtain rfl : w9 = wr := ewr.symm
          have wt1 : IntKind.i64.wrap ((t : Int) + 1) = (t : Int) + 1 := by rw [IntKind.wrap_i64]; omega
          have wt3 : IntKind.i64.wrap ((t : Int) + 3) = (t : Int) + 3 := by rw [IntKind.wrap_i64]; omega
          by_cases hn1 : (t : Int) + 1 < n
          · go_upto_region 24 with (fail)
            have HV10 : Hid (numsOwn ((w9.setCell ⟨g9, 1, none⟩ (.int .i64 0)).setCell ⟨g9, 1, none⟩ (.int .i64 ((t : Int) + 3))) wo.heap.size (.slice (some ⟨g9, 0, none⟩) 4 c9) [ox, (t : Int) + 3, 0, 0]) := hide (numsOwn_set (numsOwn_set HV9.out 1 0) 1 _)
            have HB10 : Hid (Below wo.heap.size wo ((w9.setCell ⟨g9, 1, none⟩ (.int .i64 0)).setCell ⟨g9, 1, none⟩ (.int .i64 ((t : Int) + 3)))) := hide ((HB9.out.setCell HG9.out.1 _).setCell HG9.out.1 _)
            have HRO : Hid ([ox, (t : Int) + 3, 0, 0] = ownW f n t) := hide (by rw [HN.out, if_pos (by omega)])
            clear HV9 HB9 k1 kf
            generalize (w9.setCell ⟨g9, 1, none⟩ (.int .i64 0)).setCell ⟨g9, 1, none⟩ (.int .i64 ((t : Int) + 3)) = w10 at *
            have HPA := hide (HP1.out.below HB10.out)
            have HAP : Hid (Ap sb iv rv (.slice (some ⟨g9, 0, none⟩) 4 c9)) := hide (ap_new HP1.out fun b e => by obtain rfl : g9 = b := Option.some.inj e; exact HG9.out.1)
            have HVB : Hid (numsOwn w10 w1.heap.size (.slice (some ⟨g9, 0, none⟩) 4 c9) [ox, (t : Int) + 3, 0, 0]) := hide (numsOwn_mono HV10.out HP1.out.bz)
            clear HV10 HB10 HP1 HG9
            have c1 := HPA.out.c1
            have z1 := HPA.out.fz 1
            have bel : Below w10.heap.size w10 (w10.alloc (.cells #[.slice (some ⟨g9, 0, none⟩) 4 c9] 61)) := (Below.refl _ _).alloc (Nat.le_refl _) _
            obtain ⟨LI, HLI, hLI⟩ : ∃ LI, Hid (LI = (gI f n t).length) ∧ LI ≤ 7 := ⟨_, hide rfl, by rw [gI_len]; omega⟩
            go_wp2_with (at_builtin; refine wpList_append_own_at _ rfl _ _ 42 rfl w1.heap.size 61 rii (.slice none 0 0) 1 24 Tryz.underlying42 hrii hrz hrs hrb rfl (by decide) iv LI vs rfl ?pa0 ⟨w10.heap.size, 0, none⟩ 1 1 [.slice (some ⟨g9, 0, none⟩) 4 c9] rfl rfl ?pa1 ?pa2 ?pa3 ?pa4 ?pa5 ?_)
            case pa0 => rw [HLI.out]; exact (HPA.out.below bel).oi
            try (case pa1 =>
              intro k x hk
              cases k with
              | zero => cases hk; rw [Addr.add_lit]; simp
              | succ k => simp at hk)
            case pa2 => rfl
            case pa3 => unfold maxLen; omega
            case pa4 => omega
            case pa5 => have := HPA.out.bz; omega
            intro iv' w11 ho11 hg11 hnil11 hloc11
            have HP11 : Hid (WP w1.heap.size sb w1 [(.slice (some ⟨go, 0, none⟩) 4 co, [ox, 0, 0, 0])] iv' (vs ++ [.slice (some ⟨g9, 0, none⟩) 4 c9]) (gI f n (t + 1)) rv rs (gR n t) (w11.setCell ⟨sb, 1, none⟩ iv')) := hide (by
              rw [← gI_succ, ← HRO.out]
              exact (HPA.out.below bel).addI (us := [.slice (some ⟨g9, 0, none⟩) 4 c9]) (rws := [[ox, (t : Int) + 3, 0, 0]]) (fun k row hr => by
                cases k with
                | zero => cases hr; exact ⟨_, rfl, numsOwn_keep HVB.out bel, HAP.out⟩
                | succ k => simp at hr) (N := w10.heap.size + 1) (by simp) (by rw [← HLI.out]; exact ho11) hg11 hloc11)
            obtain ⟨C11, Z11⟩ := (HPA.out.below bel).box hg11 HPA.out.ni
            have c1' := (C11 1).trans (HPA.out.below bel).c1
            have z1' := Z11 1
            obtain ⟨ag2, cg2, rfl, -⟩ := ownsRow_shape ho11
            clear ho11 hg11 hnil11 hloc11 C11 Z11 bel c1 z1 HPA HAP HVB HLI HRO
            go_upto_region 25 with (fail)
            clear c1' z1'
            generalize w11.setCell ⟨sb, 1, none⟩ (.slice ag2 (LI + 1) cg2) = w12 at *
            have c2 := HP11.out.c2
            have z2 := HP11.out.fz 2
            have bel2 : Below w12.heap.size w12 ((w12.alloc (.cells #[.int .i64 0, .int .i64 0, .int .i64 0, .int .i64 0, .int .i64 0, .int .i64 ((n : Int) + 2), .int .i64 ((t : Int) + 2), .int .i64 1] 3)).alloc (.cells #[.slice (some ⟨w12.heap.size, 0, none⟩) 8 8] 61)) := ((Below.refl _ _).alloc (Nat.le_refl _) _).alloc (by simp) _
            have HAP2 : Hid (Ap sb (.slice ag2 (LI + 1) cg2) rv (.slice (some ⟨w12.heap.size, 0, none⟩) 8 8)) := hide (ap_new HP11.out fun b e => by obtain rfl : w12.heap.size = b := Option.some.inj e; exact Nat.le_refl _)
            have HVB2 : Hid (numsOwn ((w12.alloc (.cells #[.int .i64 0, .int .i64 0, .int .i64 0, .int .i64 0, .int .i64 0, .int .i64 ((n : Int) + 2), .int .i64 ((t : Int) + 2), .int .i64 1] 3)).alloc (.cells #[.slice (some ⟨w12.heap.size, 0, none⟩) 8 8] 61)) w1.heap.size (.slice (some ⟨w12.heap.size, 0, none⟩) 8 8) (gcRegs n t)) := hide (numsOwn_keep (numsOwn_new' rfl rfl HP11.out.bz (show 8 ≤ 1000000 by decide)) ((Below.refl _ _).alloc (Nat.le_refl _) _))
            obtain ⟨LR, HLR, hLR⟩ : ∃ LR, Hid (LR = (gR n t).length) ∧ LR ≤ 7 := ⟨_, hide rfl, by rw [gR_len]; omega⟩
            go_wp2_with (at_builtin; refine wpList_append_own_at _ rfl _ _ 42 rfl w1.heap.size 61 rii (.slice none 0 0) 1 24 Tryz.underlying42 hrii hrz hrs hrb rfl (by decide) rv LR rs rfl ?pb0 ⟨w12.heap.size + 1, 0, none⟩ 1 1 [.slice (some ⟨w12.heap.size, 0, none⟩) 8 8] rfl rfl ?pb1 ?pb2 ?pb3 ?pb4 ?pb5 ?_)
            case pb0 => rw [HLR.out]; exact (HP11.out.below bel2).or'
            try (case pb1 =>
              intro k x hk
              cases k with
              | zero => cases hk; rw [Addr.add_lit]; simp
              | succ k => simp at hk)
            case pb2 =>
              intro x hx
              obtain rfl : x = .slice (some ⟨w12.heap.size, 0, none⟩) 8 8 := by simpa using hx
              rfl
            case pb3 => unfold maxLen; omega
            case pb4 => omega
            case pb5 => exact (HP11.out.below bel2).bz
            intro rv' w13 ho13 hg13 hnil13 hloc13
            have HP13 : Hid (WP w1.heap.size sb w1 [(.slice (some ⟨go, 0, none⟩) 4 co, [ox, 0, 0, 0])] (.slice ag2 (LI + 1) cg2) (vs ++ [.slice (some ⟨g9, 0, none⟩) 4 c9]) (gI f n (t + 1)) rv' (rs ++ [.slice (some ⟨w12.heap.size, 0, none⟩) 8 8]) (gR n (t + 1)) (w13.setCell ⟨sb, 2, none⟩ rv')) := hide (by
              rw [← gR_succ]
              exact (HP11.out.below bel2).addR (us := [.slice (some ⟨w12.heap.size, 0, none⟩) 8 8]) (rws := [gcRegs n t]) (fun k row hr => by
                cases k with
                | zero => cases hr; exact ⟨_, rfl, HVB2.out, HAP2.out⟩
                | succ k => simp at hr) (N := w12.heap.size + 1 + 1) (by simp) (by rw [← HLR.out]; exact ho13) hg13 hloc13)
            obtain ⟨C13, Z13⟩ := (HP11.out.below bel2).box hg13 HP11.out.nr
            have c2' := (C13 2).trans (HP11.out.below bel2).c2
            have z2' := Z13 2
            obtain ⟨ag3, cg3, rfl, -⟩ := ownsRow_shape ho13
            clear ho13 hg13 hnil13 hloc13 C13 Z13 bel2 c2 z2 HP11 HAP2 HVB2 HLR
            go_wp2_with fail
            go_roundw
            case rel => exact ⟨t + 1, by omega, by go_num, hide ⟨_, _, _, _, HP13.out⟩⟩
            case measure => simp [intOf]; omega
          · go_upto_region 24 with (fail)
            have HV10 : Hid (numsOwn (w9.setCell ⟨g9, 1, none⟩ (.int .i64 0)) wo.heap.size (.slice (some ⟨g9, 0, none⟩) 4 c9) [ox, 0, 0, 0]) := hide (numsOwn_set HV9.out 1 0)
            have HB10 : Hid (Below wo.heap.size wo (w9.setCell ⟨g9, 1, none⟩ (.int .i64 0))) := hide (HB9.out.setCell HG9.out.1 _)
            have HRO : Hid ([ox, 0, 0, 0] = ownW f n t) := hide (by rw [HN.out, if_neg (by omega)])
            clear HV9 HB9 k1 kf
            generalize w9.setCell ⟨g9, 1, none⟩ (.int .i64 0) = w10 at *
            have HPA := hide (HP1.out.below HB10.out)
            have HAP : Hid (Ap sb iv rv (.slice (some ⟨g9, 0, none⟩) 4 c9)) := hide (ap_new HP1.out fun b e => by obtain rfl : g9 = b := Option.some.inj e; exact HG9.out.1)
            have HVB : Hid (numsOwn w10 w1.heap.size (.slice (some ⟨g9, 0, none⟩) 4 c9) [ox, 0, 0, 0]) := hide (numsOwn_mono HV10.out HP1.out.bz)
            clear HV10 HB10 HP1 HG9
            have c1 := HPA.out.c1
            have z1 := HPA.out.fz 1
            have bel : Below w10.heap.size w10 (w10.alloc (.cells #[.slice (some ⟨g9, 0, none⟩) 4 c9] 61)) := (Below.refl _ _).alloc (Nat.le_refl _) _
            obtain ⟨LI, HLI, hLI⟩ : ∃ LI, Hid (LI = (gI f n t).length) ∧ LI ≤ 7 := ⟨_, hide rfl, by rw [gI_len]; omega⟩
            go_wp2_with (at_builtin; refine wpList_append_own_at _ rfl _ _ 42 rfl w1.heap.size 61 rii (.slice none 0 0) 1 24 Tryz.underlying42 hrii hrz hrs hrb rfl (by decide) iv LI vs rfl ?qa0 ⟨w10.heap.size, 0, none⟩ 1 1 [.slice (some ⟨g9, 0, none⟩) 4 c9] rfl rfl ?qa1 ?qa2 ?qa3 ?qa4 ?qa5 ?_)
            case qa0 => rw [HLI.out]; exact (HPA.out.below bel).oi
            try (case qa1 =>
              intro k x hk
              cases k with
              | zero => cases hk; rw [Addr.add_lit]; simp
              | succ k => simp at hk)
            case qa2 => rfl
            case qa3 => unfold maxLen; omega
            case qa4 => omega
            case qa5 => have := HPA.out.bz; omega
            intro iv' w11 ho11 hg11 hnil11 hloc11
            have HP11 : Hid (WP w1.heap.size sb w1 [(.slice (some ⟨go, 0, none⟩) 4 co, [ox, 0, 0, 0])] iv' (vs ++ [.slice (some ⟨g9, 0, none⟩) 4 c9]) (gI f n (t + 1)) rv rs (gR n t) (w11.setCell ⟨sb, 1, none⟩ iv')) := hide (by
              rw [← gI_succ, ← HRO.out]
              exact (HPA.out.below bel).addI (us := [.slice (some ⟨g9, 0, none⟩) 4 c9]) (rws := [[ox, 0, 0, 0]]) (fun k row hr => by
                cases k with
                | zero => cases hr; exact ⟨_, rfl, numsOwn_keep HVB.out bel, HAP.out⟩
                | succ k => simp at hr) (N := w10.heap.size + 1) (by simp) (by rw [← HLI.out]; exact ho11) hg11 hloc11)
            obtain ⟨C11, Z11⟩ := (HPA.out.below bel).box hg11 HPA.out.ni
            have c1' := (C11 1).trans (HPA.out.below bel).c1
            have z1' := Z11 1
            obtain ⟨ag2, cg2, rfl, -⟩ := ownsRow_shape ho11
            clear ho11 hg11 hnil11 hloc11 C11 Z11 bel c1 z1 HPA HAP HVB HLI HRO
            go_upto_region 25 with (fail)
            clear c1' z1'
            generalize w11.setCell ⟨sb, 1, none⟩ (.slice ag2 (LI + 1) cg2) = w12 at *
            have c2 := HP11.out.c2
            have z2 := HP11.out.fz 2
            have bel2 : Below w12.heap.size w12 ((w12.alloc (.cells #[.int .i64 0, .int .i64 0, .int .i64 0, .int .i64 0, .int .i64 0, .int .i64 ((n : Int) + 2), .int .i64 ((t : Int) + 2), .int .i64 1] 3)).alloc (.cells #[.slice (some ⟨w12.heap.size, 0, none⟩) 8 8] 61)) := ((Below.refl _ _).alloc (Nat.le_refl _) _).alloc (by simp) _
            have HAP2 : Hid (Ap sb (.slice ag2 (LI + 1) cg2) rv (.slice (some ⟨w12.heap.size, 0, none⟩) 8 8)) := hide (ap_new HP11.out fun b e => by obtain rfl : w12.heap.size = b := Option.some.inj e; exact Nat.le_refl _)
            have HVB2 : Hid (numsOwn ((w12.alloc (.cells #[.int .i64 0, .int .i64 0, .int .i64 0, .int .i64 0, .int .i64 0, .int .i64 ((n : Int) + 2), .int .i64 ((t : Int) + 2), .int .i64 1] 3)).alloc (.cells #[.slice (some ⟨w12.heap.size, 0, none⟩) 8 8] 61)) w1.heap.size (.slice (some ⟨w12.heap.size, 0, none⟩) 8 8) (gcRegs n t)) := hide (numsOwn_keep (numsOwn_new' rfl rfl HP11.out.bz (show 8 ≤ 1000000 by decide)) ((Below.refl _ _).alloc (Nat.le_refl _) _))
            obtain ⟨LR, HLR, hLR⟩ : ∃ LR, Hid (LR = (gR n t).length) ∧ LR ≤ 7 := ⟨_, hide rfl, by rw [gR_len]; omega⟩
            go_wp2_with (at_builtin; refine wpList_append_own_at _ rfl _ _ 42 rfl w1.heap.size 61 rii (.slice none 0 0) 1 24 Tryz.underlying42 hrii hrz hrs hrb rfl (by decide) rv LR rs rfl ?qb0 ⟨w12.heap.size + 1, 0, none⟩ 1 1 [.slice (some ⟨w12.heap.size, 0, none⟩) 8 8] rfl rfl ?qb1 ?qb2 ?qb3 ?qb4 ?qb5 ?_)
            case qb0 => rw [HLR.out]; exact (HP11.out.below bel2).or'
            try (case qb1 =>
              intro k x hk
              cases k with
              | zero => cases hk; rw [Addr.add_lit]; simp
              | succ k => simp at hk)
            case qb2 =>
              intro x hx
              obtain rfl : x = .slice (some ⟨w12.heap.size, 0, none⟩) 8 8 := by simpa using hx
              rfl
            case qb3 => unfold maxLen; omega
            case qb4 => omega
            case qb5 => exact (HP11.out.below bel2).bz
            intro rv' w13 ho13 hg13 hnil13 hloc13
            have HP13 : Hid (WP w1.heap.size sb w1 [(.slice (some ⟨go, 0, none⟩) 4 co, [ox, 0, 0, 0])] (.slice ag2 (LI + 1) cg2) (vs ++ [.slice (some ⟨g9, 0, none⟩) 4 c9]) (gI f n (t + 1)) rv' (rs ++ [.slice (some ⟨w12.heap.size, 0, none⟩) 8 8]) (gR n (t + 1)) (w13.setCell ⟨sb, 2, none⟩ rv')) := hide (by
              rw [← gR_succ]
              exact (HP11.out.below bel2).addR (us := [.slice (some ⟨w12.heap.size, 0, none⟩) 8 8]) (rws := [gcRegs n t]) (fun k row hr => by
                cases k with
                | zero => cases hr; exact ⟨_, rfl, HVB2.out, HAP2.out⟩
                | succ k => simp at hr) (N := w12.heap.size + 1 + 1) (by simp) (by rw [← HLR.out]; exact ho13) hg13 hloc13)
            obtain ⟨C13, Z13⟩ := (HP11.out.below bel2).box hg13 HP11.out.nr
            have c2' := (C13 2).trans (HP11.out.below bel2).c2
            have z2' := Z13 2
            obtain ⟨ag3, cg3, rfl, -⟩ := ownsRow_shape ho13
            clear ho13 hg13 hnil13 hloc13 C13 Z13 bel2 c2 z2 HP11 HAP2 HVB2 HLR
            go_wp2_with fail
            go_roundw
            case rel => exact ⟨t + 1, by omega, by go_num, hide ⟨_, _, _, _, HP13.out⟩⟩
            case measure => simp [intOf]; omega
      · obtain rfl : t = n := by omega
        have HPA := hide hP
        have c1 := HPA.out.c1
        have z1 := HPA.out.fz 1
        obtain ⟨LI, HLI, hLI⟩ : ∃ LI, Hid (LI = (gI f t t).length) ∧ LI ≤ 7 := ⟨_, hide rfl, by rw [gI_len]; omega⟩
        have bel : Below wo.heap.size wo (((wo.alloc (.cells #[.int .i64 ((t : Int) + 3)] 3)).alloc (.cells #[.int .i64 1] 3)).alloc (.cells #[.slice (some ⟨wo.heap.size, 0, none⟩) 1 1, .slice (some ⟨wo.heap.size + 1, 0, none⟩) 1 1] 61)) := (((Below.refl _ _).alloc (Nat.le_refl _) _).alloc (by simp) _).alloc (by simp; omega) _
        have HVA : Hid (numsOwn (((wo.alloc (.cells #[.int .i64 ((t : Int) + 3)] 3)).alloc (.cells #[.int .i64 1] 3)).alloc (.cells #[.slice (some ⟨wo.heap.size, 0, none⟩) 1 1, .slice (some ⟨wo.heap.size + 1, 0, none⟩) 1 1] 61)) w1.heap.size (.slice (some ⟨wo.heap.size, 0, none⟩) 1 1) [(t : Int) + 3]) := hide (numsOwn_keep (numsOwn_keep (numsOwn_new' rfl rfl HPA.out.bz (show 1 ≤ 1000000 by decide)) ((Below.refl _ _).alloc (Nat.le_refl _) _)) ((Below.refl _ _).alloc (Nat.le_refl _) _))
        have HVC : Hid (numsOwn (((wo.alloc (.cells #[.int .i64 ((t : Int) + 3)] 3)).alloc (.cells #[.int .i64 1] 3)).alloc (.cells #[.slice (some ⟨wo.heap.size, 0, none⟩) 1 1, .slice (some ⟨wo.heap.size + 1, 0, none⟩) 1 1] 61)) w1.heap.size (.slice (some ⟨wo.heap.size + 1, 0, none⟩) 1 1) [1]) := hide (by
          have h := numsOwn_new' (w := wo.alloc (.cells #[.int .i64 ((t : Int) + 3)] 3)) (cs := #[.int .i64 1]) (l := [1]) (k := 1) (base := w1.heap.size) rfl rfl (by have := HPA.out.bz; simp; omega) (by decide)
          rw [show (wo.alloc (.cells #[.int .i64 ((t : Int) + 3)] 3)).heap.size = wo.heap.size + 1 by simp] at h
          exact numsOwn_keep h ((Below.refl _ _).alloc (Nat.le_refl _) _))
        have HAA : Hid (Ap sb iv rv (.slice (some ⟨wo.heap.size, 0, none⟩) 1 1)) := hide (ap_new HPA.out fun b e => by obtain rfl : wo.heap.size = b := Option.some.inj e; exact Nat.le_refl _)
        have HAC : Hid (Ap sb iv rv (.slice (some ⟨wo.heap.size + 1, 0, none⟩) 1 1)) := hide (ap_new HPA.out fun b e => by obtain rfl : wo.heap.size + 1 = b := Option.some.inj e; exact Nat.le_succ _)
        obtain ⟨ar, cr, rfl, -⟩ := ownsRow_shape hP.or'
        clear hP HP
        go_wp2_with (at_builtin; refine wpList_append_own_at _ rfl _ _ 42 rfl w1.heap.size 61 rii (.slice none 0 0) 1 24 Tryz.underlying42 hrii hrz hrs hrb rfl (by decide) iv LI vs rfl ?z0 ⟨wo.heap.size + 1 + 1, 0, none⟩ 2 2 [.slice (some ⟨wo.heap.size, 0, none⟩) 1 1, .slice (some ⟨wo.heap.size + 1, 0, none⟩) 1 1] rfl rfl ?z1 ?z2 ?z3 ?z4 ?z5 ?_)
        case z0 => rw [HLI.out]; exact (HPA.out.below bel).oi
        case z1 =>
          intro k x hk
          rw [Addr.add_lit, show wo.heap.size + 1 + 1 = ((wo.alloc (.cells #[.int .i64 ((t : Int) + 3)] 3)).alloc (.cells #[.int .i64 1] 3)).heap.size by simp, World.cell?_alloc_new, Nat.zero_add]
          simpa using hk
        case z2 =>
          intro x hx
          simp only [List.mem_cons, List.not_mem_nil, or_false] at hx
          rcases hx with rfl | rfl <;> rfl
        case z3 => unfold maxLen; omega
        case z4 => omega
        case z5 => exact (HPA.out.below bel).bz
        intro iv' w11 ho11 hg11 hnil11 hloc11
        have HP11 : Hid (WP w1.heap.size sb w1 [(.slice (some ⟨go, 0, none⟩) 4 co, [ox, 0, 0, 0])] iv' (vs ++ [.slice (some ⟨wo.heap.size, 0, none⟩) 1 1, .slice (some ⟨wo.heap.size + 1, 0, none⟩) 1 1]) (gcInit f t) (.slice ar (gR t t).length cr) rs (gR t t) (w11.setCell ⟨sb, 1, none⟩ iv')) := hide (by
          rw [← gI_end]
          exact (HPA.out.below bel).addI (us := [.slice (some ⟨wo.heap.size, 0, none⟩) 1 1, .slice (some ⟨wo.heap.size + 1, 0, none⟩) 1 1]) (rws := [[(t : Int) + 3], [1]]) (fun k row hr => by
            rcases k with _ | _ | k
            · cases hr; exact ⟨_, rfl, HVA.out, HAA.out⟩
            · cases hr; exact ⟨_, rfl, HVC.out, HAC.out⟩
            · simp at hr) (N := wo.heap.size + 1 + 1 + 1) (by simp) (by rw [← HLI.out]; exact ho11) hg11 hloc11)
        obtain ⟨C11, Z11⟩ := (HPA.out.below bel).box hg11 HPA.out.ni
        have c1' := (C11 1).trans (HPA.out.below bel).c1
        have z1' := Z11 1
        obtain ⟨ag2, cg2, rfl, -⟩ := ownsRow_shape ho11
        clear ho11 hg11 hnil11 hloc11 C11 Z11 bel c1 z1 HPA HAA HAC HVA HVC
        go_upto_region 27 with (fail)
        clear c1' z1'
        generalize w11.setCell ⟨sb, 1, none⟩ (.slice ag2 (LI + 2) cg2) = w12 at *
        have hLI2 : LI + 2 = t + 3 := by rw [HLI.out, gI_len]
        have hLR2 := gR_len t t
        rw [hLI2] at HP11 ⊢
        rw [hLR2] at HP11
        clear hLI2 hLR2 HLI hLI
        have hlt1 : w.heap.size < w1.heap.size := by rw [HS1.out]; exact Nat.lt_succ_self _
        have c0 := HP11.out.c0
        have c1 := HP11.out.c1
        have c2 := HP11.out.c2
        have hbr : w12.heap[w.heap.size]? = w1.heap[w.heap.size]? := HP11.out.low.block _ hlt1
        have r0 : w12.cell? ⟨w.heap.size, 0, none⟩ = some (.int .i64 0) := (World.cell?_of_block hbr).trans HT.out.1
        have r1 : w12.cell? ⟨w.heap.size, 1, none⟩ = some (.slice none 0 0) := (World.cell?_of_block hbr).trans HT.out.2.1
        have r2 : w12.cell? ⟨w.heap.size, 2, none⟩ = some (.slice none 0 0) := (World.cell?_of_block hbr).trans HT.out.2.2.1
        have z0 : w12.frozen? ⟨w.heap.size, 0, none⟩ = false := (World.frozen?_of_block hbr).trans (HT.out.2.2.2 0)
        have z1 : w12.frozen? ⟨w.heap.size, 1, none⟩ = false := (World.frozen?_of_block hbr).trans (HT.out.2.2.2 1)
        have z2 : w12.frozen? ⟨w.heap.size, 2, none⟩ = false := (World.frozen?_of_block hbr).trans (HT.out.2.2.2 2)
        have HEND : Hid (StaAt (gcSta f t) ⟨ag2, cg2, ar, cr⟩ (((w12.setCell ⟨w.heap.size, 0, none⟩ (.int .i64 30)).setCell ⟨w.heap.size, 1, none⟩ (.slice ag2 (t + 3) cg2)).setCell ⟨w.heap.size, 2, none⟩ (.slice ar t cr)) ∧ Below w.heap.size w (((w12.setCell ⟨w.heap.size, 0, none⟩ (.int .i64 30)).setCell ⟨w.heap.size, 1, none⟩ (.slice ag2 (t + 3) cg2)).setCell ⟨w.heap.size, 2, none⟩ (.slice ar t cr))) := hide (by
          have hB : Below w.heap.size w w12 := HB1.out.trans (HP11.out.low.mono (Nat.le_of_lt hlt1))
          refine ⟨?_, ((hB.setCell (Nat.le_refl _) _).setCell (Nat.le_refl _) _).setCell (Nat.le_refl _) _⟩
          have hW := ((HP11.out.out hlt1 0 (.int .i64 30) rfl).out hlt1 1 (.slice ag2 (t + 3) cg2) rfl).out hlt1 2 (.slice ar t cr) rfl
          have hlI : ∀ row ∈ gcInit f t, row.length ≤ 100 := fun row hr => by
            unfold gcInit at hr
            simp only [List.mem_cons, List.mem_append, List.mem_map, List.not_mem_nil, or_false] at hr
            rcases hr with rfl | ⟨a, -, rfl⟩ | rfl | rfl <;> exact Nat.le_of_ble_eq_true rfl
          have hlR : ∀ row ∈ gR t t, row.length ≤ 100 := fun row hr => by
            obtain ⟨a, -, rfl⟩ := List.mem_map.1 hr
            show 8 ≤ 100; decide
          obtain ⟨ai, ci, ar', cr', e1, e2, h3⟩ := hW.sta (c := 30) rfl (by rw [gcInit_len]; omega) (by rw [gR_len]; omega) hlI hlR
          rw [gcInit_len] at e1
          rw [gR_len] at e2
          cases e1
          cases e2
          exact h3)
        clear HP11 hbr hlt1 HT HB1 HS1
        go_wp2_with fail
        refine bodyPost_ret (v := .tuple #[.agg #[.int .i64 30, .slice ag2 (t + 3) cg2, .slice ar t cr], .bool true]) (by simp only [results, Tryz.results11]; go_simp) rfl ⟨ag2, cg2, ar, cr, rfl, ?_, ?_⟩
        · exact HEND.out.1
        · exact HEND.out.2

set_option maxRecDepth 20000 in
set_option maxHeartbeats 4000000 in
theorem world_join {f : Nat} (hf : 1 ≤ f ∧ f ≤ 4) (h4 : f = 4) (n : Nat) (h1 : 1 ≤ n) (h6 : n ≤ 6) (w : World) :
    Calls Tryz.prog 11 #[.int .i64 f, .int .i64 n] w fun e w' => ∃ ai ci ar cr, e = .returned (.tuple #[.agg #[.int .i64 30, .slice ai (n + 3) ci, .slice ar n cr], .bool true]) ∧ StaAt (gcSta f n) ⟨ai, ci, ar, cr⟩ w' ∧ Below w.heap.size w w' := by
  have HH := hide (hub_ok hf)
  have HO := hide (own_ok hf)
  have HK := hide (link_ok hf)
  rw [show linkX f = -1 from if_pos h4] at HK
  have HW : Hid (hubW f = [1, 0, 0, 0]) := hide (by unfold hubW; rw [if_pos h4])
  have HN : Hid (∀ t, ownW f n t = [ownX f, 0, 0, 0]) := hide fun t => by unfold ownW ownX; rw [if_pos h4]
  have n6 : (n : Int) ≤ 6 := by omega
  have n0 : (0 : Int) ≤ n := by omega
  have wn2 : IntKind.i64.wrap ((n : Int) + 2) = (n : Int) + 2 := by rw [IntKind.wrap_i64]; omega
  have wn3 : IntKind.i64.wrap ((n : Int) + 3) = (n : Int) + 3 := by rw [IntKind.wrap_i64]; omega
  obtain ⟨rii, hrii, hrz, hrs, hrb⟩ := rowsInfo
  clear h4 hf
  generalize ownX f = ox at *
  generalize hfi : (f : Int) = fi at *
  clear hfi
  go_enter Tryz.func11, Tryz.ntmps11
  go_wp2_with fail
  generalize hw1 : w.alloc _ = w1
  have b1 : Below w.heap.size w w1 := by rw [← hw1]; exact (Below.refl _ w).alloc (Nat.le_refl _) _
  have s1 : w1.heap.size = w.heap.size + 1 := by rw [← hw1]; simp
  have t0 : w1.cell? ⟨w.heap.size, 0, none⟩ = some (.int .i64 0) := by rw [← hw1, World.cell?_alloc_new]; rfl
  have t1 : w1.cell? ⟨w.heap.size, 1, none⟩ = some (.slice none 0 0) := by rw [← hw1, World.cell?_alloc_new]; rfl
  have t2 : w1.cell? ⟨w.heap.size, 2, none⟩ = some (.slice none 0 0) := by rw [← hw1, World.cell?_alloc_new]; rfl
  have tz : ∀ o, w1.frozen? ⟨w.heap.size, o, none⟩ = false := fun o => by rw [← hw1]; exact World.frozen?_alloc_new _ _ _ _
  have HT := hide (And.intro t0 (And.intro t1 (And.intro t2 tz)))
  have HS1 := hide s1
  have HB1 := hide b1
  clear hw1 t0 t1 t2 tz s1 b1
  refine (HH.out _).mono ?_
  rintro e w2 ⟨hv, rfl, hh, hb2⟩
  obtain ⟨gh, ch, rfl, hgh, hlh, hch⟩ : ∃ g cap, hv = .slice (some ⟨g, 0, none⟩) 4 cap ∧ w1.heap.size ≤ g ∧ g < w2.heap.size ∧ 4 ≤ cap := numsOwn_form hh (by decide)
  have HHV := hide hh
  have HB2 := hide hb2
  clear hh hb2 hgh hlh hch HH
  go_wp2_with fail
  refine (HO.out _).mono ?_
  rintro e w3 ⟨ov, rfl, ho, hb3⟩
  obtain ⟨go, co, rfl, hgo, hlo, hco⟩ : ∃ g cap, ov = .slice (some ⟨g, 0, none⟩) 4 cap ∧ w2.heap.size ≤ g ∧ g < w3.heap.size ∧ 4 ≤ cap := numsOwn_form ho (Nat.succ_pos _)
  have HHV3 := hide (numsOwn_keep HHV.out hb3)
  have HB3 := hide (below_step HB2.out hb3)
  have HOV := hide (numsOwn_mono ho HB2.out.size)
  clear ho hb3 hgo hlo hco HO HHV HB2
  go_wp2_with fail
  refine (HK.out _).mono ?_
  rintro e w4 ⟨rfl, e4⟩
  obtain rfl : w3 = w4 := e4.symm
  clear HK
  go_wp2_with (at_builtin; refine wpList_append_ints _ rfl _ _ rfl w3.heap.size [] [1, 0, 0, 0] (.slice none 0 0) ⟨gh, 0, none⟩ ch rfl (numsOwn_nil _ _) rfl ?b1 (by decide) (Nat.le_refl _) ?_)
  case b1 =>
    obtain ⟨_, _, e, _, hq⟩ := numsOwn_at HHV3.out
    cases e; exact hq
  intro v5 w5 ho5 hb5 hs5 hg5 hl5
  obtain ⟨g5, c5, rfl, hg5a, hg5b, hc5⟩ : ∃ g cap, v5 = .slice (some ⟨g, 0, none⟩) 4 cap ∧ w3.heap.size ≤ g ∧ g < w5.heap.size ∧ 4 ≤ cap := numsOwn_form ho5 (by decide)
  have HV5 : Hid (numsOwn w5 w3.heap.size (.slice (some ⟨g5, 0, none⟩) 4 c5) [1, 0, 0, 0]) := hide ho5
  have HB5 := hide (below_step HB3.out hb5)
  have HOV5 := hide (numsOwn_keep HOV.out hb5)
  have HG5 := hide (And.intro hg5a hg5b)
  have HLE := hide HB3.out.size
  clear ho5 hb5 hs5 hg5 hl5 hg5a hg5b HHV3 HB3 HOV
  go_wp2_with fail
  go_loopw [12] (fun l wr => l = .slice (some ⟨g5, 0, none⟩) 4 c5 ∧ wr = w5) (fun _ _ => 0)
  case atStart => exact ⟨rfl, rfl⟩
  case round =>
    obtain ⟨rfl, ewr⟩ := hrel
    obtain rfl : w5 = wr := ewr.symm
    go_upto_region 12 with (fail)
    have HV6 := HV5
    have HB6 := HB5
    have HOV6 := HOV5
    clear HV5 HB5 HOV5
    generalize hw6 : w5 = w6 at *
    clear hw6
    have HP0 := hide (wp_first HB6.out HOV6.out)
    have HV7 := hide (numsOwn_keep (numsOwn_mono HV6.out HLE.out) ((Below.refl _ _).alloc (Nat.le_refl _) (.cells #[.int .i64 30, .slice none 0 0, .slice none 0 0] 44)))
    have HA7 : Hid (Ap w6.heap.size (.slice none 0 0) (.slice none 0 0) (.slice (some ⟨g5, 0, none⟩) 4 c5)) := hide fun b e => ⟨by have := (World.ownsRow.lt HV6.out b e).2; omega, (fun e2 => nomatch e2), (fun e2 => nomatch e2)⟩
    go_upto_region 13 with (fail)
    clear HV6 HB6 HOV6
    generalize w6.alloc (.cells #[.int .i64 30, .slice none 0 0, .slice none 0 0] 44) = w7 at *
    generalize w6.heap.size = sb at *
    have c1 := HP0.out.c1
    have z1 := HP0.out.fz 1
    have bel : Below w7.heap.size w7 (w7.alloc (.cells #[.slice (some ⟨g5, 0, none⟩) 4 c5] 61)) := (Below.refl _ _).alloc (Nat.le_refl _) _
    go_wp2_with (at_builtin; refine wpList_append_own_at _ rfl _ _ 42 rfl w1.heap.size 61 rii (.slice none 0 0) 1 24 Tryz.underlying42 hrii hrz hrs hrb rfl (by decide) (.slice none 0 0) 0 [] rfl ?c0 ⟨w7.heap.size, 0, none⟩ 1 1 [.slice (some ⟨g5, 0, none⟩) 4 c5] rfl rfl ?c1 ?c2 ?c3 ?c4 ?c5 ?_)
    case c0 => exact (HP0.out.below bel).oi
    case c2 => rfl
    case c3 => decide
    case c5 => have := HP0.out.bz; omega
    intro iv8 w8 ho8 hg8 hnil8 hloc8
    have HP8 : Hid (WP w1.heap.size sb w1 [(.slice (some ⟨go, 0, none⟩) 4 co, [ox, 0, 0, 0])] iv8 [.slice (some ⟨g5, 0, none⟩) 4 c5] (gI f n 0) (.slice none 0 0) [] (gR n 0) (w8.setCell ⟨sb, 1, none⟩ iv8)) := hide (by
      rw [show gI f n 0 = [[1, 0, 0, 0]] by show [hubW f] = _; rw [HW.out]]
      exact (HP0.out.below bel).addI (us := [.slice (some ⟨g5, 0, none⟩) 4 c5]) (rws := [[1, 0, 0, 0]]) (fun k row hr => by
        cases k with
        | zero => cases hr; exact ⟨_, rfl, numsOwn_keep HV7.out bel, HA7.out⟩
        | succ k => simp at hr) (N := w7.heap.size + 1) (by simp) ho8 hg8 hloc8)
    obtain ⟨C8, Z8⟩ := (HP0.out.below bel).box hg8 HP0.out.ni
    have c1' := (C8 1).trans (HP0.out.below bel).c1
    have z1' := Z8 1
    obtain ⟨ag, cg, rfl, -⟩ := ownsRow_shape ho8
    clear ho8 hg8 hnil8 hloc8 C8 Z8 bel c1 z1 HP0 HV7 HA7
    go_wp2_with fail
    clear c1' z1'
    generalize w8.setCell ⟨sb, 1, none⟩ (.slice ag 1 cg) = w9 at *
    go_loopw [14, 15] (fun i _ wr => ∃ t : Nat, t ≤ n ∧ i = .int .i64 t ∧ Hid (∃ iv vs rv rs, WP w1.heap.size sb w1 [(.slice (some ⟨go, 0, none⟩) 4 co, [ox, 0, 0, 0])] iv vs (gI f n t) rv rs (gR n t) wr)) (fun i _ _ => n - (intOf i).toNat)
    case atStart => exact ⟨0, Nat.zero_le _, rfl, hide ⟨_, _, _, _, HP8.out⟩⟩
    case round =>
      clear HP8
      obtain ⟨wo, hwo⟩ : ∃ wo : World, wo = wr := ⟨_, rfl⟩
      subst hwo
      obtain ⟨t, ht, rfl, HP⟩ := hrel
      obtain ⟨iv, vs, rv, rs, hP⟩ := HP.out
      by_cases hlt : t < n
      · have ti : (t : Int) < n := by omega
        have tp : (0 : Int) ≤ t := by omega
        have HP1 := hide hP
        clear hP HP
        go_wp2_with (at_builtin; refine wpList_append_ints _ rfl _ _ rfl wo.heap.size [] [ox, 0, 0, 0] (.slice none 0 0) ⟨go, 0, none⟩ co rfl (numsOwn_nil _ _) rfl ?d1 (show 4 ≤ 1000000 by decide) (Nat.le_refl _) ?_)
        case d1 =>
          obtain ⟨_, _, e, _, hq⟩ := numsOwn_at (HP1.out.kp _ (List.mem_cons_self ..)).1
          cases e; exact hq
        intro v9 w9 ho9 hb9 hs9 hg9 hl9
        obtain ⟨g9, c9, rfl, hg9a, hg9b, hc9⟩ : ∃ g cap, v9 = .slice (some ⟨g, 0, none⟩) 4 cap ∧ wo.heap.size ≤ g ∧ g < w9.heap.size ∧ 4 ≤ cap := numsOwn_form ho9 (Nat.succ_pos _)
        have HV9 : Hid (numsOwn w9 wo.heap.size (.slice (some ⟨g9, 0, none⟩) 4 c9) [ox, 0, 0, 0]) := hide ho9
        have HB9 := hide hb9
        have HG9 := hide (And.intro hg9a hg9b)
        obtain ⟨k1, kf⟩ : w9.cell? ⟨g9, 1, none⟩ = some (.int .i64 0) ∧ w9.frozen? ⟨g9, 1, none⟩ = false := numsOwn_cell HV9.out rfl
        clear ho9 hb9 hs9 hg9 hl9 hg9a hg9b
        go_wp2_with fail
        go_loopw [15] (fun l wr => l = .slice (some ⟨g9, 0, none⟩) 4 c9 ∧ wr = w9) (fun _ _ => 0)
        case atStart => exact ⟨rfl, rfl⟩
        case round =>
          obtain ⟨rfl, ewr⟩ := hrel
          obtain rfl : w9 = wr := ewr.symm
          have wt1 : IntKind.i64.wrap ((t : Int) + 1) = (t : Int) + 1 := by rw [IntKind.wrap_i64]; omega
          have wt3 : IntKind.i64.wrap ((t : Int) + 3) = (t : Int) + 3 := by rw [IntKind.wrap_i64]; omega
          go_upto_region 24 with (fail)
          have HV10 : Hid (numsOwn (w9.setCell ⟨g9, 1, none⟩ (.int .i64 0)) wo.heap.size (.slice (some ⟨g9, 0, none⟩) 4 c9) [ox, 0, 0, 0]) := hide (numsOwn_set HV9.out 1 0)
          have HB10 : Hid (Below wo.heap.size wo (w9.setCell ⟨g9, 1, none⟩ (.int .i64 0))) := hide (HB9.out.setCell HG9.out.1 _)
          have HRO : Hid ([ox, 0, 0, 0] = ownW f n t) := hide (by rw [HN.out])
          clear HV9 HB9 k1 kf
          generalize w9.setCell ⟨g9, 1, none⟩ (.int .i64 0) = w10 at *
          have HPA := hide (HP1.out.below HB10.out)
          have HAP : Hid (Ap sb iv rv (.slice (some ⟨g9, 0, none⟩) 4 c9)) := hide (ap_new HP1.out fun b e => by obtain rfl : g9 = b := Option.some.inj e; exact HG9.out.1)
          have HVB : Hid (numsOwn w10 w1.heap.size (.slice (some ⟨g9, 0, none⟩) 4 c9) [ox, 0, 0, 0]) := hide (numsOwn_mono HV10.out HP1.out.bz)
          clear HV10 HB10 HP1 HG9
          have c1 := HPA.out.c1
          have z1 := HPA.out.fz 1
          have bel : Below w10.heap.size w10 (w10.alloc (.cells #[.slice (some ⟨g9, 0, none⟩) 4 c9] 61)) := (Below.refl _ _).alloc (Nat.le_refl _) _
          obtain ⟨LI, HLI, hLI⟩ : ∃ LI, Hid (LI = (gI f n t).length) ∧ LI ≤ 7 := ⟨_, hide rfl, by rw [gI_len]; omega⟩
          go_wp2_with (at_builtin; refine wpList_append_own_at _ rfl _ _ 42 rfl w1.heap.size 61 rii (.slice none 0 0) 1 24 Tryz.underlying42 hrii hrz hrs hrb rfl (by decide) iv LI vs rfl ?qa0 ⟨w10.heap.size, 0, none⟩ 1 1 [.slice (some ⟨g9, 0, none⟩) 4 c9] rfl rfl ?qa1 ?qa2 ?qa3 ?qa4 ?qa5 ?_)
          case qa0 => rw [HLI.out]; exact (HPA.out.below bel).oi
          try (case qa1 =>
            intro k x hk
            cases k with
            | zero => cases hk; rw [Addr.add_lit]; simp
            | succ k => simp at hk)
          case qa2 => rfl
          case qa3 => unfold maxLen; omega
          case qa4 => omega
          case qa5 => have := HPA.out.bz; omega
          intro iv' w11 ho11 hg11 hnil11 hloc11
          have HP11 : Hid (WP w1.heap.size sb w1 [(.slice (some ⟨go, 0, none⟩) 4 co, [ox, 0, 0, 0])] iv' (vs ++ [.slice (some ⟨g9, 0, none⟩) 4 c9]) (gI f n (t + 1)) rv rs (gR n t) (w11.setCell ⟨sb, 1, none⟩ iv')) := hide (by
            rw [← gI_succ, ← HRO.out]
            exact (HPA.out.below bel).addI (us := [.slice (some ⟨g9, 0, none⟩) 4 c9]) (rws := [[ox, 0, 0, 0]]) (fun k row hr => by
              cases k with
              | zero => cases hr; exact ⟨_, rfl, numsOwn_keep HVB.out bel, HAP.out⟩
              | succ k => simp at hr) (N := w10.heap.size + 1) (by simp) (by rw [← HLI.out]; exact ho11) hg11 hloc11)
          obtain ⟨C11, Z11⟩ := (HPA.out.below bel).box hg11 HPA.out.ni
          have c1' := (C11 1).trans (HPA.out.below bel).c1
          have z1' := Z11 1
          obtain ⟨ag2, cg2, rfl, -⟩ := ownsRow_shape ho11
          clear ho11 hg11 hnil11 hloc11 C11 Z11 bel c1 z1 HPA HAP HVB HLI HRO
          go_upto_region 25 with (fail)
          clear c1' z1'
          generalize w11.setCell ⟨sb, 1, none⟩ (.slice ag2 (LI + 1) cg2) = w12 at *
          have c2 := HP11.out.c2
          have z2 := HP11.out.fz 2
          have bel2 : Below w12.heap.size w12 ((w12.alloc (.cells #[.int .i64 0, .int .i64 0, .int .i64 0, .int .i64 0, .int .i64 0, .int .i64 ((n : Int) + 2), .int .i64 ((t : Int) + 2), .int .i64 1] 3)).alloc (.cells #[.slice (some ⟨w12.heap.size, 0, none⟩) 8 8] 61)) := ((Below.refl _ _).alloc (Nat.le_refl _) _).alloc (by simp) _
          have HAP2 : Hid (Ap sb (.slice ag2 (LI + 1) cg2) rv (.slice (some ⟨w12.heap.size, 0, none⟩) 8 8)) := hide (ap_new HP11.out fun b e => by obtain rfl : w12.heap.size = b := Option.some.inj e; exact Nat.le_refl _)
          have HVB2 : Hid (numsOwn ((w12.alloc (.cells #[.int .i64 0, .int .i64 0, .int .i64 0, .int .i64 0, .int .i64 0, .int .i64 ((n : Int) + 2), .int .i64 ((t : Int) + 2), .int .i64 1] 3)).alloc (.cells #[.slice (some ⟨w12.heap.size, 0, none⟩) 8 8] 61)) w1.heap.size (.slice (some ⟨w12.heap.size, 0, none⟩) 8 8) (gcRegs n t)) := hide (numsOwn_keep (numsOwn_new' rfl rfl HP11.out.bz (show 8 ≤ 1000000 by decide)) ((Below.refl _ _).alloc (Nat.le_refl _) _))
          obtain ⟨LR, HLR, hLR⟩ : ∃ LR, Hid (LR = (gR n t).length) ∧ LR ≤ 7 := ⟨_, hide rfl, by rw [gR_len]; omega⟩
          go_wp2_with (at_builtin; refine wpList_append_own_at _ rfl _ _ 42 rfl w1.heap.size 61 rii (.slice none 0 0) 1 24 Tryz.underlying42 hrii hrz hrs hrb rfl (by decide) rv LR rs rfl ?qb0 ⟨w12.heap.size + 1, 0, none⟩ 1 1 [.slice (some ⟨w12.heap.size, 0, none⟩) 8 8] rfl rfl ?qb1 ?qb2 ?qb3 ?qb4 ?qb5 ?_)
          case qb0 => rw [HLR.out]; exact (HP11.out.below bel2).or'
          try (case qb1 =>
            intro k x hk
            cases k with
            | zero => cases hk; rw [Addr.add_lit]; simp
            | succ k => simp at hk)
          case qb2 =>
            intro x hx
            obtain rfl : x = .slice (some ⟨w12.heap.size, 0, none⟩) 8 8 := by simpa using hx
            rfl
          case qb3 => unfold maxLen; omega
          case qb4 => omega
          case qb5 => exact (HP11.out.below bel2).bz
          intro rv' w13 ho13 hg13 hnil13 hloc13
          have HP13 : Hid (WP w1.heap.size sb w1 [(.slice (some ⟨go, 0, none⟩) 4 co, [ox, 0, 0, 0])] (.slice ag2 (LI + 1) cg2) (vs ++ [.slice (some ⟨g9, 0, none⟩) 4 c9]) (gI f n (t + 1)) rv' (rs ++ [.slice (some ⟨w12.heap.size, 0, none⟩) 8 8]) (gR n (t + 1)) (w13.setCell ⟨sb, 2, none⟩ rv')) := hide (by
            rw [← gR_succ]
            exact (HP11.out.below bel2).addR (us := [.slice (some ⟨w12.heap.size, 0, none⟩) 8 8]) (rws := [gcRegs n t]) (fun k row hr => by
              cases k with
              | zero => cases hr; exact ⟨_, rfl, HVB2.out, HAP2.out⟩
              | succ k => simp at hr) (N := w12.heap.size + 1 + 1) (by simp) (by rw [← HLR.out]; exact ho13) hg13 hloc13)
          obtain ⟨C13, Z13⟩ := (HP11.out.below bel2).box hg13 HP11.out.nr
          have c2' := (C13 2).trans (HP11.out.below bel2).c2
          have z2' := Z13 2
          obtain ⟨ag3, cg3, rfl, -⟩ := ownsRow_shape ho13
          clear ho13 hg13 hnil13 hloc13 C13 Z13 bel2 c2 z2 HP11 HAP2 HVB2 HLR
          go_wp2_with fail
          go_roundw
          case rel => exact ⟨t + 1, by omega, by go_num, hide ⟨_, _, _, _, HP13.out⟩⟩
          case measure => simp [intOf]; omega
      · obtain rfl : t = n := by omega
        have HPA := hide hP
        have c1 := HPA.out.c1
        have z1 := HPA.out.fz 1
        obtain ⟨LI, HLI, hLI⟩ : ∃ LI, Hid (LI = (gI f t t).length) ∧ LI ≤ 7 := ⟨_, hide rfl, by rw [gI_len]; omega⟩
        have bel : Below wo.heap.size wo (((wo.alloc (.cells #[.int .i64 ((t : Int) + 3)] 3)).alloc (.cells #[.int .i64 1] 3)).alloc (.cells #[.slice (some ⟨wo.heap.size, 0, none⟩) 1 1, .slice (some ⟨wo.heap.size + 1, 0, none⟩) 1 1] 61)) := (((Below.refl _ _).alloc (Nat.le_refl _) _).alloc (by simp) _).alloc (by simp; omega) _
        have HVA : Hid (numsOwn (((wo.alloc (.cells #[.int .i64 ((t : Int) + 3)] 3)).alloc (.cells #[.int .i64 1] 3)).alloc (.cells #[.slice (some ⟨wo.heap.size, 0, none⟩) 1 1, .slice (some ⟨wo.heap.size + 1, 0, none⟩) 1 1] 61)) w1.heap.size (.slice (some ⟨wo.heap.size, 0, none⟩) 1 1) [(t : Int) + 3]) := hide (numsOwn_keep (numsOwn_keep (numsOwn_new' rfl rfl HPA.out.bz (show 1 ≤ 1000000 by decide)) ((Below.refl _ _).alloc (Nat.le_refl _) _)) ((Below.refl _ _).alloc (Nat.le_refl _) _))
        have HVC : Hid (numsOwn (((wo.alloc (.cells #[.int .i64 ((t : Int) + 3)] 3)).alloc (.cells #[.int .i64 1] 3)).alloc (.cells #[.slice (some ⟨wo.heap.size, 0, none⟩) 1 1, .slice (some ⟨wo.heap.size + 1, 0, none⟩) 1 1] 61)) w1.heap.size (.slice (some ⟨wo.heap.size + 1, 0, none⟩) 1 1) [1]) := hide (by
          have h := numsOwn_new' (w := wo.alloc (.cells #[.int .i64 ((t : Int) + 3)] 3)) (cs := #[.int .i64 1]) (l := [1]) (k := 1) (base := w1.heap.size) rfl rfl (by have := HPA.out.bz; simp; omega) (by decide)
          rw [show (wo.alloc (.cells #[.int .i64 ((t : Int) + 3)] 3)).heap.size = wo.heap.size + 1 by simp] at h
          exact numsOwn_keep h ((Below.refl _ _).alloc (Nat.le_refl _) _))
        have HAA : Hid (Ap sb iv rv (.slice (some ⟨wo.heap.size, 0, none⟩) 1 1)) := hide (ap_new HPA.out fun b e => by obtain rfl : wo.heap.size = b := Option.some.inj e; exact Nat.le_refl _)
        have HAC : Hid (Ap sb iv rv (.slice (some ⟨wo.heap.size + 1, 0, none⟩) 1 1)) := hide (ap_new HPA.out fun b e => by obtain rfl : wo.heap.size + 1 = b := Option.some.inj e; exact Nat.le_succ _)
        obtain ⟨ar, cr, rfl, -⟩ := ownsRow_shape hP.or'
        clear hP HP
        go_wp2_with (at_builtin; refine wpList_append_own_at _ rfl _ _ 42 rfl w1.heap.size 61 rii (.slice none 0 0) 1 24 Tryz.underlying42 hrii hrz hrs hrb rfl (by decide) iv LI vs rfl ?z0 ⟨wo.heap.size + 1 + 1, 0, none⟩ 2 2 [.slice (some ⟨wo.heap.size, 0, none⟩) 1 1, .slice (some ⟨wo.heap.size + 1, 0, none⟩) 1 1] rfl rfl ?z1 ?z2 ?z3 ?z4 ?z5 ?_)
        case z0 => rw [HLI.out]; exact (HPA.out.below bel).oi
        case z1 =>
          intro k x hk
          rw [Addr.add_lit, show wo.heap.size + 1 + 1 = ((wo.alloc (.cells #[.int .i64 ((t : Int) + 3)] 3)).alloc (.cells #[.int .i64 1] 3)).heap.size by simp, World.cell?_alloc_new, Nat.zero_add]
          simpa using hk
        case z2 =>
          intro x hx
          simp only [List.mem_cons, List.not_mem_nil, or_false] at hx
          rcases hx with rfl | rfl <;> rfl
        case z3 => unfold maxLen; omega
        case z4 => omega
        case z5 => exact (HPA.out.below bel).bz
        intro iv' w11 ho11 hg11 hnil11 hloc11
        have HP11 : Hid (WP w1.heap.size sb w1 [(.slice (some ⟨go, 0, none⟩) 4 co, [ox, 0, 0, 0])] iv' (vs ++ [.slice (some ⟨wo.heap.size, 0, none⟩) 1 1, .slice (some ⟨wo.heap.size + 1, 0, none⟩) 1 1]) (gcInit f t) (.slice ar (gR t t).length cr) rs (gR t t) (w11.setCell ⟨sb, 1, none⟩ iv')) := hide (by
          rw [← gI_end]
          exact (HPA.out.below bel).addI (us := [.slice (some ⟨wo.heap.size, 0, none⟩) 1 1, .slice (some ⟨wo.heap.size + 1, 0, none⟩) 1 1]) (rws := [[(t : Int) + 3], [1]]) (fun k row hr => by
            rcases k with _ | _ | k
            · cases hr; exact ⟨_, rfl, HVA.out, HAA.out⟩
            · cases hr; exact ⟨_, rfl, HVC.out, HAC.out⟩
            · simp at hr) (N := wo.heap.size + 1 + 1 + 1) (by simp) (by rw [← HLI.out]; exact ho11) hg11 hloc11)
        obtain ⟨C11, Z11⟩ := (HPA.out.below bel).box hg11 HPA.out.ni
        have c1' := (C11 1).trans (HPA.out.below bel).c1
        have z1' := Z11 1
        obtain ⟨ag2, cg2, rfl, -⟩ := ownsRow_shape ho11
        clear ho11 hg11 hnil11 hloc11 C11 Z11 bel c1 z1 HPA HAA HAC HVA HVC
        go_upto_region 27 with (fail)
        clear c1' z1'
        generalize w11.setCell ⟨sb, 1, none⟩ (.slice ag2 (LI + 2) cg2) = w12 at *
        have hLI2 : LI + 2 = t + 3 := by rw [HLI.out, gI_len]
        have hLR2 := gR_len t t
        rw [hLI2] at HP11 ⊢
        rw [hLR2] at HP11
        clear hLI2 hLR2 HLI hLI
        have hlt1 : w.heap.size < w1.heap.size := by rw [HS1.out]; exact Nat.lt_succ_self _
        have c0 := HP11.out.c0
        have c1 := HP11.out.c1
        have c2 := HP11.out.c2
        have hbr : w12.heap[w.heap.size]? = w1.heap[w.heap.size]? := HP11.out.low.block _ hlt1
        have r0 : w12.cell? ⟨w.heap.size, 0, none⟩ = some (.int .i64 0) := (World.cell?_of_block hbr).trans HT.out.1
        have r1 : w12.cell? ⟨w.heap.size, 1, none⟩ = some (.slice none 0 0) := (World.cell?_of_block hbr).trans HT.out.2.1
        have r2 : w12.cell? ⟨w.heap.size, 2, none⟩ = some (.slice none 0 0) := (World.cell?_of_block hbr).trans HT.out.2.2.1
        have z0 : w12.frozen? ⟨w.heap.size, 0, none⟩ = false := (World.frozen?_of_block hbr).trans (HT.out.2.2.2 0)
        have z1 : w12.frozen? ⟨w.heap.size, 1, none⟩ = false := (World.frozen?_of_block hbr).trans (HT.out.2.2.2 1)
        have z2 : w12.frozen? ⟨w.heap.size, 2, none⟩ = false := (World.frozen?_of_block hbr).trans (HT.out.2.2.2 2)
        have HEND : Hid (StaAt (gcSta f t) ⟨ag2, cg2, ar, cr⟩ (((w12.setCell ⟨w.heap.size, 0, none⟩ (.int .i64 30)).setCell ⟨w.heap.size, 1, none⟩ (.slice ag2 (t + 3) cg2)).setCell ⟨w.heap.size, 2, none⟩ (.slice ar t cr)) ∧ Below w.heap.size w (((w12.setCell ⟨w.heap.size, 0, none⟩ (.int .i64 30)).setCell ⟨w.heap.size, 1, none⟩ (.slice ag2 (t + 3) cg2)).setCell ⟨w.heap.size, 2, none⟩ (.slice ar t cr))) := hide (by
          have hB : Below w.heap.size w w12 := HB1.out.trans (HP11.out.low.mono (Nat.le_of_lt hlt1))
          refine ⟨?_, ((hB.setCell (Nat.le_refl _) _).setCell (Nat.le_refl _) _).setCell (Nat.le_refl _) _⟩
          have hW := ((HP11.out.out hlt1 0 (.int .i64 30) rfl).out hlt1 1 (.slice ag2 (t + 3) cg2) rfl).out hlt1 2 (.slice ar t cr) rfl
          have hlI : ∀ row ∈ gcInit f t, row.length ≤ 100 := fun row hr => by
            unfold gcInit at hr
            simp only [List.mem_cons, List.mem_append, List.mem_map, List.not_mem_nil, or_false] at hr
            rcases hr with rfl | ⟨a, -, rfl⟩ | rfl | rfl <;> exact Nat.le_of_ble_eq_true rfl
          have hlR : ∀ row ∈ gR t t, row.length ≤ 100 := fun row hr => by
            obtain ⟨a, -, rfl⟩ := List.mem_map.1 hr
            show 8 ≤ 100; decide
          obtain ⟨ai, ci, ar', cr', e1, e2, h3⟩ := hW.sta (c := 30) rfl (by rw [gcInit_len]; omega) (by rw [gR_len]; omega) hlI hlR
          rw [gcInit_len] at e1
          rw [gR_len] at e2
          cases e1
          cases e2
          exact h3)
        clear HP11 hbr hlt1 HT HB1 HS1
        go_wp2_with fail
        refine bodyPost_ret (v := .tuple #[.agg #[.int .i64 30, .slice ag2 (t + 3) cg2, .slice ar t cr], .bool true]) (by simp only [results, Tryz.results11]; go_simp) rfl ⟨ag2, cg2, ar, cr, rfl, ?_, ?_⟩
        · exact HEND.out.1
        · exact HEND.out.2
end Go.Proofs.YtpjabgdcpogdiaaGreatDoor

/- GdY -/
namespace Go.Proofs.YtpjabgdcpogdiaaGreatDoor
open Go.RowKit Go.Extern.Stop Go.Stop Go.Extern Go.Maps Go.WideMaps Go.Sort

theorem world_ok {f : Nat} (hf : 1 ≤ f ∧ f ≤ 4) (n : Nat) (h1 : 1 ≤ n) (h6 : n ≤ 6) (w : World) :
    Calls Tryz.prog 11 #[.int .i64 f, .int .i64 n] w fun e w' => ∃ ai ci ar cr, e = .returned (.tuple #[.agg #[.int .i64 30, .slice ai (n + 3) ci, .slice ar n cr], .bool true]) ∧ StaAt (gcSta f n) ⟨ai, ci, ar, cr⟩ w' ∧ Below w.heap.size w w' := by
  by_cases h4 : f = 4
  · exact world_join hf h4 n h1 h6 w
  · exact world_plain hf h4 n h1 h6 w

theorem wName : isName ⟨#[119]⟩ := nameB_is (by decide +kernel)
theorem wait_long {f : Nat} (p : ByteArray) : 1 ≤ (gCode p (gWait f)).length := by
  unfold gCode gWait
  rw [List.length_map]
  split <;> simp
set_option maxRecDepth 20000 in
set_option maxHeartbeats 1000000 in
theorem flavoured_any (w : World) : Calls Tryz.prog 4 #[] w fun e w' => e = .returned (.bool true) ∧ Below w.heap.size w w' := by
  have HW : Hid (∀ (f : Nat), 1 ≤ f ∧ f ≤ 4 → ∀ w, Calls Tryz.prog 10 #[.int .i64 f, .string ⟨#[119]⟩] w fun e w' => ∃ ad n cap, e = .returned (.tuple #[.slice ad n cap, .nilIface]) ∧ 1 ≤ n ∧ Below w.heap.size w w') := hide fun f hf w => (wait_ok hf wName (by decide) w).mono fun e w' ⟨v, h1, h2, h3⟩ => by
    obtain ⟨ad, cap, rfl, -⟩ := insOwn_open h2 (wait_long _)
    exact ⟨_, _, _, h1, wait_long _, h3⟩
  go_enter Tryz.func4, Tryz.ntmps4
  go_wp2_with fail
  go_loopw [1, 2, 3] (fun i _ _ wr => ∃ f : Nat, 1 ≤ f ∧ f ≤ 5 ∧ i = .int .i64 f ∧ Below w.heap.size w wr) (fun i _ _ _ => 5 - (intOf i).toNat)
  case atStart => exact ⟨1, Nat.le_refl _, by decide, rfl, Below.refl _ _⟩
  case round =>
    obtain ⟨f, hf1, hf5, rfl, HB⟩ := hrel
    by_cases h4 : f ≤ 4
    · have fi : (f : Int) ≤ 4 := by omega
      have HC := hide (HW.out f ⟨hf1, h4⟩ wr)
      go_wp2_with fail
      refine HC.out.mono ?_
      rintro e w2 ⟨ad, n, cap, rfl, hn, hb2⟩
      have HB2 := below_step HB hb2
      have n0 : ((n : Int) == 0) = false := beq_eq_false_iff_ne.2 (by omega)
      clear HC HB hb2 hn
      go_wp2
      go_roundw
      case rel => exact ⟨f + 1, by omega, by omega, by go_num, HB2⟩
      case measure => simp [intOf]; omega
    · have fi : ¬ (f : Int) ≤ 4 := by omega
      go_wp2
      go_ret
      exact ⟨rfl, HB⟩

structure CsI where
  w : Bool
  tm : Int
  rd : Int
  ns : Bool
def castsAt (ad : Option Addr) (l : List CsI) (w : World) : Prop := ∀ (i : Nat) c, l[i]? = some c → ∃ b off, ad = some ⟨b, off, none⟩ ∧ w.cell? ⟨b, off + i * 4, none⟩ = some (.bool c.w) ∧ w.cell? ⟨b, off + i * 4 + 1, none⟩ = some (.int .i64 c.tm) ∧ w.cell? ⟨b, off + i * 4 + 2, none⟩ = some (.int .i64 c.rd) ∧ w.cell? ⟨b, off + i * 4 + 3, none⟩ = some (.bool c.ns)
theorem castsAt.below {ad : Option Addr} {l : List CsI} {w w' : World} (h : castsAt ad l w) (hb : Below w.heap.size w w') : castsAt ad l w' := fun i c hc => by
  obtain ⟨b, off, e, h0, h1, h2, h3⟩ := h i c hc
  exact ⟨b, off, e, keep_cell hb h0, keep_cell hb h1, keep_cell hb h2, keep_cell hb h3⟩
def CsI.fit (c : CsI) : Prop := 0 ≤ c.tm ∧ c.tm ≤ 3 ∧ 0 ≤ c.rd ∧ c.rd ≤ 5
def Fit (f : Int) (l : List CsI) : Prop := (1 ≤ f ∧ f ≤ 4) ∧ (1 ≤ l.length ∧ l.length ≤ 4) ∧ ∀ c ∈ l, c.fit

def WrongPost (f : Int) (l : List CsI) (w : World) (e : Ending) (w' : World) : Prop := ∃ b, e = .returned (.bool b) ∧ (b = false ↔ Fit f l) ∧ Below w.heap.size w w'
theorem WrongPost.yes {f : Int} {l : List CsI} {w : World} {e : Ending} {w' : World} (he : e = .returned (.bool true)) (h : ¬ Fit f l) (hb : Below w.heap.size w w') : WrongPost f l w e w' := ⟨true, he, ⟨fun e => (nomatch e), fun e => absurd e h⟩, hb⟩
theorem WrongPost.no {f : Int} {l : List CsI} {w : World} {e : Ending} {w' : World} (he : e = .returned (.bool false)) (h : Fit f l) (hb : Below w.heap.size w w') : WrongPost f l w e w' := ⟨false, he, ⟨fun _ => h, fun _ => rfl⟩, hb⟩
set_option maxRecDepth 20000 in
set_option maxHeartbeats 2000000 in
theorem wrongCast_any (f : Int) (ad : Option Addr) (l : List CsI) (cap : Nat) (w : World) (hl : castsAt ad l w) :
    Calls Tryz.prog 5 #[.int .i64 f, .slice ad l.length cap] w (WrongPost f l w) := by
  have HL := hide hl
  have hc : f < 1 ∨ ¬ f < 1 ∧ (4 < f ∨ ¬ 4 < f ∧ ((l.length : Int) < 1 ∨ ¬ (l.length : Int) < 1 ∧ (4 < (l.length : Int) ∨ ¬ 4 < (l.length : Int)))) := by omega
  clear hl
  rcases hc with h1 | ⟨h1, h2 | ⟨h2, h3 | ⟨h3, h4 | h4⟩⟩⟩
  · go_enter Tryz.func5, Tryz.ntmps5
    go_wp2_with fail
    go_ret
    exact WrongPost.yes rfl (fun e => by have := e.1.1; omega) (Below.refl _ _)
  · go_enter Tryz.func5, Tryz.ntmps5
    go_wp2_with fail
    go_ret
    exact WrongPost.yes rfl (fun e => by have := e.1.2; omega) (Below.refl _ _)
  · have HF : Hid (¬ Fit f l) := hide fun e => by have := e.2.1.1; omega
    go_enter Tryz.func5, Tryz.ntmps5
    go_wp2_with fail
    go_ret
    exact WrongPost.yes rfl HF.out (Below.refl _ _)
  · have HF : Hid (¬ Fit f l) := hide fun e => by have := e.2.1.2; omega
    go_enter Tryz.func5, Tryz.ntmps5
    go_wp2_with fail
    go_ret
    exact WrongPost.yes rfl HF.out (Below.refl _ _)
  · have HF : Hid ((∀ c ∈ l, c.fit) → Fit f l) := hide fun e => ⟨⟨by omega, by omega⟩, ⟨by omega, by omega⟩, e⟩
    obtain ⟨n, hn, hn4⟩ : ∃ n, Hid (l.length = n) ∧ n ≤ 4 := ⟨_, hide rfl, by omega⟩
    rw [hn.out] at h3 h4 ⊢
    go_enter Tryz.func5, Tryz.ntmps5
    go_wp2_with fail
    go_loopw [5, 6] (fun i _ wr => ∃ j : Nat, j ≤ n ∧ i = .int .i64 j ∧ Hid (∀ (k : Nat) c, k < j → l[k]? = some c → c.fit) ∧ Below w.heap.size w wr) (fun i _ _ => n - (intOf i).toNat)
    case atStart => exact ⟨0, Nat.zero_le _, rfl, hide fun k c hk => absurd hk (Nat.not_lt_zero _), Below.refl _ _⟩
    case round =>
      obtain ⟨j, hj, rfl, HA, HB⟩ := hrel
      by_cases hlt : j < n
      · have ji : (j : Int) < n := by omega
        obtain ⟨c, hc⟩ : ∃ c, l[j]? = some c := ⟨_, List.getElem?_eq_getElem (by rw [hn.out]; exact hlt)⟩
        obtain ⟨b, off, rfl, c0, c1, c2, c3⟩ := HL.out.below HB j c hc
        have HC := hide hc
        have HNO : Hid (¬ c.fit → ¬ Fit f l) := hide fun h e => h (e.2.2 c (List.mem_of_getElem? hc))
        have HYES : Hid (c.fit → ∀ (k : Nat) c', k < j + 1 → l[k]? = some c' → c'.fit) := hide fun h k c' hk hk' => by
          by_cases e : k = j
          · subst e; rw [hc] at hk'; cases hk'; exact h
          · exact HA.out k c' (by omega) hk'
        obtain ⟨cw, tm, rd, cn⟩ := c
        dsimp only at c0 c1 c2 c3
        have hd : tm < 0 ∨ ¬ tm < 0 ∧ (3 < tm ∨ ¬ 3 < tm ∧ (rd < 0 ∨ ¬ rd < 0 ∧ (5 < rd ∨ ¬ 5 < rd))) := by omega
        clear hc HA HL
        rcases hd with d1 | ⟨d1, d2 | ⟨d2, d3 | ⟨d3, d4 | d4⟩⟩⟩
        · have HX : Hid (¬ Fit f l) := hide (HNO.out fun e => by have := e.1; simp only at this; omega)
          clear HNO HYES HC
          go_wp2_with fail
          go_ret
          exact WrongPost.yes rfl HX.out (HB.alloc HB.size _)
        · have HX : Hid (¬ Fit f l) := hide (HNO.out fun e => by have := e.2.1; simp only at this; omega)
          clear HNO HYES HC
          go_wp2_with fail
          go_ret
          exact WrongPost.yes rfl HX.out (HB.alloc HB.size _)
        · have HX : Hid (¬ Fit f l) := hide (HNO.out fun e => by have := e.2.2.1; simp only at this; omega)
          clear HNO HYES HC
          go_wp2_with fail
          go_ret
          exact WrongPost.yes rfl HX.out (HB.alloc HB.size _)
        · have HX : Hid (¬ Fit f l) := hide (HNO.out fun e => by have := e.2.2.2; simp only at this; omega)
          clear HNO HYES HC
          go_wp2_with fail
          go_ret
          exact WrongPost.yes rfl HX.out (HB.alloc HB.size _)
        · have HX := hide (HYES.out ⟨by simp only; omega, by simp only; omega, by simp only; omega, by simp only; omega⟩)
          clear HNO HYES HC
          go_wp2_with fail
          go_roundw
          case rel => exact ⟨j + 1, by omega, by go_num, HX, HB.alloc HB.size _⟩
          case measure => simp [intOf]; omega
      · obtain rfl : j = n := by omega
        have HX : Hid (Fit f l) := hide (HF.out fun c hc => by
          obtain ⟨k, hk⟩ := List.mem_iff_getElem?.1 hc
          exact HA.out k c (by rw [← hn.out]; exact (List.getElem?_eq_some_iff.1 hk).1) hk)
        clear HA HF HL
        go_wp2_with fail
        go_ret
        exact WrongPost.no rfl HX.out HB
end Go.Proofs.YtpjabgdcpogdiaaGreatDoor

/- GdS -/
namespace Go.Proofs.YtpjabgdcpogdiaaGreatDoor
open Go.RowKit Go.Extern.Stop Go.Stop Go.Extern Go.Maps Go.WideMaps Go.Sort

theorem run_append_ins {w : World} {base b2 : Nat} {l0 l : List Ins} {v u : Value} (hown : insOwn w base v l0) (hu : insOwn w b2 u l) (h3 : l0.length + l.length ≤ 2000) (hb : base ≤ w.heap.size) (ty : TypeId) :
    ∃ v' w', (Builtin.append_ #[37, 37] ty #[v, u]).run Tryz.prog w = .ok v' w' ∧ insOwn w' base v' (l0 ++ l) ∧ Below base w w' := by
  obtain ⟨ri, hri, hrz, hrs, hrb⟩ := instrInfo
  have hu' := hu
  rcases hu'.2 with ⟨rfl, h0⟩ | ⟨g, cap, cur, rfl, -⟩
  · obtain rfl := List.length_eq_zero_iff.1 h0
    refine ⟨v, w, run_append_owned_none (P := Tryz.prog) (w := w) base 37 ty 82 ri 5 Tryz.underlying37 hri v l0.length (icells l0) hown, ?_, Below.refl _ _⟩
    rw [List.append_nil]; exact hown
  · obtain ⟨v', w', hr, h2, h4, -, -⟩ := run_append_own_at (P := Tryz.prog) (w := w) base 37 ty 82 ri (.agg #[.string ⟨#[]⟩, .int .i64 0, .int .i64 0, .int .i64 0, .string ⟨#[]⟩]) 5 56 Tryz.underlying37 hri hrz hrs hrb rfl (by decide) v l0.length (icells l0) hown ⟨g, 0, none⟩ l.length cap (icells l) (icells_len l) (fun j x hj => by
        have hj5 : j < l.length * 5 := by
          have := (List.getElem?_eq_some_iff.1 hj).1
          rwa [icells_len] at this
        rw [Addr.add_lit, Nat.zero_add]
        exact (World.ownsRow.cellAt hu j hj5).trans hj) icells_one (by unfold maxLen; omega) (by omega) hb
    refine ⟨v', w', hr, ?_, (Below.refl base w).grown h4 hb (fun k hk => (hown.lt k hk).1)⟩
    unfold insOwn
    rw [List.length_append, icells_append]
    exact h2

theorem step_append_insO (w : World) {ops : Array Oper} {o : Oper} {a : Act} {K : Act → World → Prop} {Q : Exit → Act → World → Prop} {E : Prop} (hgd : o.guard = none) (s x : Operand)
    (ho : o.op = .call { callee := .builtin .append, args := #[s, x], argTypes := #[37, 37] }) (base b2 : Nat) (l0 l : List Ins) (v u : Value)
    (hs : a.eval s = v) (hown : insOwn w base v l0) (hx : a.eval x = u) (hu : insOwn w b2 u l) (h3 : l0.length + l.length ≤ 2000) (hb : base ≤ w.heap.size)
    (h : ∀ v' w', insOwn w' base v' (l0 ++ l) → Below base w w' → K (a.put o.dst v') w') :
    if Region.wanted o (yielded ops a.tmps) = true then Oper.wp Tryz.prog o a w K Q else E := by
  have hw : Region.wanted o (yielded ops a.tmps) = true := by simp [Region.wanted, hgd]
  rw [if_pos hw]
  obtain ⟨v', w', hr, h4, h5⟩ := run_append_ins hown hu h3 hb o.type
  unfold Oper.wp execOp
  simp only [ho, resolve, invoke, builtin, Sem.run_bind, Sem.run_pure, Result.andThen_ok, List.map_toArray, List.map_cons, List.map_nil, hs, hx, hr]
  exact h v' w' h4 h5

def kTg (k : Nat) : Tg := if k = 0 then .enter else if k = 1 then .leave else if k = 2 then .rest else if k = 3 then .gone else .wait
set_option maxRecDepth 20000 in
theorem parts_ok {f : Nat} (hf : 1 ≤ f ∧ f ≤ 4) {p : ByteArray} (hp : isName p) (hs : p.size ≤ 4) (k : Nat) (hk : k < 5) (w : World) :
    Calls Tryz.prog 62 #[.int .i64 f, .string p, .int .i64 k] w fun e w' => ∃ v, e = .returned (.tuple #[v, .nilIface]) ∧ insOwn w' w.heap.size v (gCode p (tgCode f (kTg k))) ∧ Below w.heap.size w w' := by
  have H0 := hide (enter_ok hf hp hs w)
  have H1 := hide (leave_ok hf hp hs w)
  have H2 := hide (rest_ok hf hp hs w)
  have H3 := hide (gone_ok hf hp hs w)
  have H4 := hide (wait_ok hf hp hs w)
  have hc : k = 0 ∨ k = 1 ∨ k = 2 ∨ k = 3 ∨ k = 4 := by omega
  generalize (f : Int) = fi at *
  rcases hc with rfl | rfl | rfl | rfl | rfl
  all_goals
    clear hf hp hs hk
    go_enter Tryz.func62, Tryz.ntmps62
    go_wp2_with (first
      | (go_at_call 73; refine H0.out.mono ?_; rintro e wq ⟨v, rfl, hv⟩)
      | (go_at_call 74; refine H1.out.mono ?_; rintro e wq ⟨v, rfl, hv⟩)
      | (go_at_call 75; refine H2.out.mono ?_; rintro e wq ⟨v, rfl, hv⟩)
      | (go_at_call 76; refine H3.out.mono ?_; rintro e wq ⟨v, rfl, hv⟩)
      | (go_at_call 10; refine H4.out.mono ?_; rintro e wq ⟨v, rfl, hv⟩))
    go_ret2
    exact ⟨v, rfl, hv⟩
theorem tg_len (f : Nat) (k : Nat) : (tgCode f (kTg k)).length ≤ 70 := by
  unfold kTg
  split
  · show (gEnter f).length ≤ 70
    unfold gEnter gOuter gJoin
    split <;> (try split) <;> simp <;> omega
  split
  · show (gLeave f).length ≤ 70
    unfold gLeave gOuter
    split <;> simp
  split
  · show (gRest f).length ≤ 70
    unfold gRest
    split <;> simp
  split
  · show (gGone f).length ≤ 70
    unfold gGone
    split <;> simp
  · show (gWait f).length ≤ 70
    unfold gWait
    split <;> (try split) <;> simp

theorem pq_name {a : Nat} (ha : a ≤ 99) : isName (pq a) := by
  refine nameB_is ?_
  have key : ∀ a : Fin 100, nameB (bl (pq a.val)) = true := by decide +kernel
  exact key ⟨a, by omega⟩

set_option maxRecDepth 20000 in
set_option maxHeartbeats 1000000 in
theorem add_ok {f : Nat} (hf : 1 ≤ f ∧ f ≤ 4) (k : Nat) (hk : k < 5) (a : Nat) (ha : a ≤ 99) (w : World) (base : Nat) (v : Value) (L : List Ins) (hv : insOwn w base v L) (hb : base ≤ w.heap.size) (hL : L.length ≤ 1900) :
    Calls Tryz.prog 30 #[v, .int .i64 f, .int .i64 k, .int .i64 a] w fun e w' => ∃ v', e = .returned (.tuple #[v', .bool true]) ∧ insOwn w' base v' (L ++ gCode (pq a) (tgCode f (kTg k))) ∧ Below base w w' := by
  have HD1 : Hid (∀ w, Calls Tryz.prog 63 #[.int .i64 ((a / 10 : Nat) : Int)] w fun e w' => e = .returned (.string (spDig (a / 10))) ∧ Below w.heap.size w w') := hide fun w => by
    have := decimal_any ((a / 10 : Nat) : Int) (by omega) (by omega) w
    rwa [sp_decimal (a / 10) (by omega)] at this
  have HD2 : Hid (∀ w, Calls Tryz.prog 63 #[.int .i64 ((a % 10 : Nat) : Int)] w fun e w' => e = .returned (.string (spDig (a % 10))) ∧ Below w.heap.size w w') := hide fun w => by
    have := decimal_any ((a % 10 : Nat) : Int) (by omega) (by omega) w
    rwa [sp_decimal (a % 10) (by omega)] at this
  have HP : Hid (∀ w, Calls Tryz.prog 62 #[.int .i64 f, .string ((⟨#[113]⟩ : ByteArray) ++ spDig (a / 10) ++ spDig (a % 10)), .int .i64 k] w fun e w' => ∃ v, e = .returned (.tuple #[v, .nilIface]) ∧ insOwn w' w.heap.size v (gCode (pq a) (tgCode f (kTg k))) ∧ Below w.heap.size w w') := hide fun w => parts_ok hf (pq_name ha) (by show 3 ≤ 4; decide) k hk w
  have z1 : 1 + (spDig (a / 10)).size ≤ 9223372036854775807 := by show 1 + 1 ≤ _; omega
  have z3 : 1 + (spDig (a / 10)).size + (spDig (a % 10)).size ≤ 9223372036854775807 := by show 1 + 1 + 1 ≤ _; omega
  have q1 : Int.tdiv (a : Int) 10 = ((a / 10 : Nat) : Int) := by rw [Int.tdiv_eq_ediv_of_nonneg (by omega)]; omega
  have q2 : Int.tmod (a : Int) 10 = ((a % 10 : Nat) : Int) := by rw [Int.tmod_eq_emod_of_nonneg (by omega)]; omega
  have q3 : wrap64 ((a / 10 : Nat) : Int) = ((a / 10 : Nat) : Int) := by unfold wrap64; omega
  have q4 : wrap64 ((a % 10 : Nat) : Int) = ((a % 10 : Nat) : Int) := by unfold wrap64; omega
  have hln : (gCode (pq a) (tgCode f (kTg k))).length ≤ 70 := by unfold gCode; rw [List.length_map]; exact tg_len f k
  have HV := hide hv
  have HB := hide hb
  generalize gCode (pq a) (tgCode f (kTg k)) = C at *
  generalize spDig (a / 10) = D1 at *
  generalize spDig (a % 10) = D2 at *
  generalize ((a / 10 : Nat) : Int) = i1 at *
  generalize ((a % 10 : Nat) : Int) = i2 at *
  generalize (a : Int) = ai at *
  generalize (f : Int) = fi at *
  generalize (k : Int) = ki at *
  clear hf hk ha hv hb
  go_enter Tryz.func30, Tryz.ntmps30
  go_wp2_with fail
  refine (HD1.out _).mono ?_
  rintro e w1 ⟨rfl, hb1⟩
  go_wp2_with fail
  refine (HD2.out _).mono ?_
  rintro e w2 ⟨rfl, hb2⟩
  go_wp2_with fail
  refine (HP.out _).mono ?_
  rintro e w3 ⟨u, rfl, hu, hb3⟩
  have HW3 : Hid (Below w.heap.size w w3) := hide (below_step (below_step hb1 hb2) hb3)
  have HO3 := hide (insOwn_keep (insOwn_keep (insOwn_keep HV.out hb1) hb2) hb3)
  have HU := hide hu
  have hb3s : base ≤ w3.heap.size := Nat.le_trans HB.out HW3.out.size
  clear hb1 hb2 hb3 hu HV HD1 HD2 HP
  have hBd : Below w3.heap.size w3 w3.drew := below_dN (Below.refl _ _) 1
  have HO4 := hide (insOwn_keep HO3.out hBd)
  have HU4 := hide (insOwn_keep HU.out hBd)
  have HB4 : Hid (Below base w w3.drew) := hide ((HW3.out.mono HB.out).trans (hBd.mono hb3s))
  have hb4 : base ≤ w3.drew.heap.size := Nat.le_trans hb3s hBd.size
  clear hBd HO3 HU HW3
  go_wp2_with fail
  go_region_law ((refine step_append_insO _ (by rfl) _ _ (by rfl) base w2.heap.size L C v u (by rfl) HO4.out (by rfl) HU4.out (by omega) hb4 ?_; intro v6 w6 ho6 hb6))
  all_goals
    go_wp2
    go_ret2
    exact ⟨v6, rfl, ho6, HB4.out.trans hb6⟩
end Go.Proofs.YtpjabgdcpogdiaaGreatDoor
