/- The law ClientEnds answers true for every flavour and client that can be handed in; no condition beside the row's own. -/
import Derived.Test.YtaiigfcfmcicjaaGreatDoorF50
import Derived.Test.YtaiigfcfmcicjaaGreatDoorF18
import Derived.Test.YtaiigfcfmcicjaaGreatDoorF49
import Derived.Test.YtaiigfcfmcicjaaGreatDoorF31
import Derived.Deep.RegionHeld3
import Derived.Test.YtaiigfcfmcicjaaGreatDoorF32
import Derived.Test.YtaiigfcfmcicjaaGreatDoorF21
import Derived.Test.YtaiigfcfmcicjaaGreatDoorF15
import Derived.Test.YtaiigfcfmcicjaaGreatDoorF02
import Derived.Test.YtaiigfcfmcicjaaGreatDoorF10
import Derived.Deep.QuietTactic
import Derived.Test.YtaiigfcfmcicjaaGreatDoorF01
import Derived.Test.YtaiigfcfmcicjaaGreatDoorF19
import Derived.Test.YtaiigfcfmcicjaaGreatDoorTie
import Derived.SevenTiedAt
import Derived.Carry
import Derived.Test.YtaiigfcfmcicjaaGreatDoorF23
import Derived.Deep.Slices
import Derived.Lib.SmallJoins
import Derived.Test.YtaiigfcfmcicjaaGreatDoorCards
namespace Go.Proofs.YtaiigfcfmcicjaaGreatDoor
set_option maxRecDepth 100000
set_option maxHeartbeats 8000000
section
open Go.RowKit Go.Extern.Stop Go.Stop Go.Extern Go.Maps Go.WideMaps Go.Sort
theorem results_cell_tmp1 {fn : Func} {p u : Tmp} {ty : TypeId} (h : fn.results = #[.cell p ty, .tmp u]) (tmps : Array Value) (P : Program) (w : World) :
  (results fn tmps).run P w =
    ((asAddr (tmps.getD p undef)).run P w).andThen fun a w₁ => ((loadVar ty a).run P w₁).andThen fun v w₂ => .ok (.tuple #[v, tmps.getD u undef]) w₂ := by
 simp only [results, h]
 simp [Sem.run_bind, Result.andThen]
theorem clfault_any {ad : Option Addr} {cl : List (List OpI)} {cap : Nat} {w : World} (ho : opRowsAt ad cl w) :
  Calls Tryz.prog 12 #[.slice ad cl.length cap] w fun e w' => e = .returned (.tuple #[.agg #[.int .i64 (eachE cl).1, .int .i64 (eachE cl).2], .bool (decide ((eachE cl).1 = 0) && eachS cl)]) /\ Below w.heap.size w w' := by
 have HO := hide ho
 obtain ⟨n, hn⟩ : ∃ n, Hid (cl.length = n) := ⟨_, hide rfl⟩
 have hba : Below w.heap.size w (w.alloc (.cells #[.int .i64 0, .int .i64 0] 31)) := bRf.alloc nL _
 have HM := hide (many_any (cap := cap) (ho.below hba))
 obtain ⟨z0, z1⟩ := box2c w 31 (.int .i64 0) (.int .i64 0)
 have y0 : (w.alloc (.cells #[.int .i64 0, .int .i64 0] 31)).frozen? ⟨w.heap.size, 0, none⟩ = false := by simp
 have y1 : (w.alloc (.cells #[.int .i64 0, .int .i64 0] 31)).frozen? ⟨w.heap.size, 1, none⟩ = false := by simp
 generalize hw : w.alloc (.cells #[.int .i64 0, .int .i64 0] 31) = w1 at *
 have HBA := hide hba
 have HZL : Hid (w.heap.size < w1.heap.size) := hide (bLt z0)
 rw [hn.out] at HM ⊢
 clear ho hba
 cases hfb : fitB cl
 ·rw [hfb] at HM
  have HEE : Hid (eachE cl = (2, -1)) := hide (by unfold eachE; rw [hfb]; rfl)
  clear hfb
  go_enter Tryz.func12, Tryz.ntmps12
  go_wp2_with fail
  refine HM.out.mono ?_
  rintro e w2 ⟨rfl, e2⟩
  obtain rfl : w1 = w2 := e2.symm
  go_wp2_with fail
  refine (rbare_any _ _).mono ?_
  rintro e w2 ⟨rfl, hb3⟩
  clear hw
  have r0 := keep_cell hb3 z0
  have r1 := keep_cell hb3 z1
  have x0 : w2.frozen? ⟨w.heap.size, 0, none⟩ = false := by rw [hb3.frozen HZL.out]; exact y0
  have x1 : w2.frozen? ⟨w.heap.size, 1, none⟩ = false := by rw [hb3.frozen HZL.out]; exact y1
  have HB3 := hide (below_step HBA.out hb3)
  clear z0 z1 y0 y1 hb3
  go_wp2_with fail
  refine bodyPost_ret (v := .tuple #[.agg #[.int .i64 2, .int .i64 (-1)], .bool false]) (by rw [results_cell_tmp1 (show Tryz.f12.results = _ from rfl)]; go_simp) rfl ?_
  exact ⟨by rw [HEE.out]; rfl, (HB3.out.setCell nL _).setCell nL _⟩
 ·rw [hfb] at HM
  have HEE : Hid (eachE cl = eachFrom cl 0) := hide (by unfold eachE; rw [hfb]; rfl)
  have HL := hide (fit_rows hfb)
  have hn6 : cl.length <= 6 := fit_len hfb
  rw [hn.out] at hn6
  have H0 : Hid (eachFrom cl 0 = eachFrom (cl.drop 0) 0 /\ Below w1.heap.size w1 w1) := hide ⟨rfl, Below.refl _ _⟩
  clear hfb
  go_enter Tryz.func12, Tryz.ntmps12
  go_wp2_with fail
  refine HM.out.mono ?_
  rintro e w2 ⟨rfl, e2⟩
  obtain rfl : w1 = w2 := e2.symm
  clear hw HM
  go_wp2_with fail
  go_loopw [5, 6, 7, 8] (fun b i _ _ wr => ∃ k : Nat, k <= n /\ b = .bool ((cl.take k).all fun L => folS .first L) /\ i = .int .i64 k /\ Hid (eachFrom cl 0 = eachFrom (cl.drop k) k /\ Below w1.heap.size w1 wr)) (fun _ i _ _ _ => n - (intOf i).toNat)
  case atStart => exact ⟨0, Nat.zero_le _, rfl, rfl, H0⟩
  case round =>
   clear H0
   obtain ⟨k, hk, rfl, rfl, HR⟩ := hrel
   obtain ⟨hee, hbw⟩ := HR.out
   by_cases hlt : k < n
   ·have ki : (k : Int) < n := by omega
    obtain ⟨L, hL⟩ : ∃ L, cl[k]? = some L := ⟨_, List.getElem?_eq_getElem (by rw [hn.out]; exact hlt)⟩
    have hdr : cl.drop k = L :: cl.drop (k + 1) := by
     have := List.drop_eq_getElem_cons (show k < cl.length by rw [hn.out]; exact hlt)
     rw [this]
     have h2 := List.getElem?_eq_getElem (show k < cl.length by rw [hn.out]; exact hlt)
     rw [hL] at h2
     rw [Option.some.inj h2]
    rw [hdr] at hee
    obtain ⟨b9, off, adl, capl, rfl, c0, hops⟩ := (HO.out.below (below_step HBA.out hbw)) k L hL
    have hl20 := HL.out L (List.mem_of_getElem? hL)
    have HF1 := hide (terror_any (cap := capl) hops (by omega))
    have HEE2 := hide hee
    have HBW := hide hbw
    have HSN := hide (all_snoc hL)
    clear hL hdr hee hbw hops hl20 HR
    generalize hLn : L.length = ln at *
    generalize (cl.take k).all (fun L => folS .first L) = bk at *
    go_wp2_with fail
    refine HF1.out.mono ?_
    rintro e w2 ⟨rfl, hb2⟩
    have HBW2 := hide (below_step HBW.out hb2)
    clear hb2 HBW
    by_cases hz : folE .first L = 0
    ·rw [hz]
     have HEN : Hid (eachFrom cl 0 = eachFrom (cl.drop (k + 1)) (k + 1)) := hide (by
      rw [HEE2.out]
      show (if folE .first L ≠ 0 then _ else _) = _
      rw [if_neg (fun h => h hz)])
     rw [show (decide ((0 : Nat) = 0) && folS .first L) = folS .first L from rfl]
     rw [show ((0 : Nat) : Int) = 0 from rfl]
     generalize folS .first L = sL at *
     clear HF1 HEE2
     cases bk
     ·go_wp2_with fail
      go_roundw
      case rel => exact ⟨k + 1, by omega, by rw [HSN.out]; rfl, by go_num, hide ⟨HEN.out, HBW2.out⟩⟩
      case measure => simp [intOf]; omega
     ·go_wp2_with fail
      go_roundw
      case rel => exact ⟨k + 1, by omega, by rw [HSN.out]; rfl, by go_num, hide ⟨HEN.out, HBW2.out⟩⟩
      case measure => simp [intOf]; omega
    ·have HEN : Hid (eachE cl = (folE .first L, (k : Int))) := hide (by
      rw [HEE.out, HEE2.out]
      show (if folE .first L ≠ 0 then _ else _) = _
      rw [if_pos hz])
     rw [decide_eq_false hz, Bool.false_and]
     obtain ⟨m, hm⟩ : ∃ m, folE .first L = m + 1 := ⟨folE .first L - 1, by omega⟩
     rw [hm] at HEN ⊢
     have mp : (0 : Int) < ((m + 1 : Nat) : Int) := by omega
     have hb3 := HBW2.out
     have r0 := keep_cell hb3 z0
     have r1 := keep_cell hb3 z1
     have x0 : w2.frozen? ⟨w.heap.size, 0, none⟩ = false := by rw [hb3.frozen HZL.out]; exact y0
     have x1 : w2.frozen? ⟨w.heap.size, 1, none⟩ = false := by rw [hb3.frozen HZL.out]; exact y1
     have HB3 := hide (below_step HBA.out hb3)
     clear z0 z1 y0 y1 hb3 HF1 HEE2 hz hm
     go_wp2_with fail
     refine bodyPost_ret (v := .tuple #[.agg #[.int .i64 ((m + 1 : Nat) : Int), .int .i64 k], .bool false]) (by rw [results_cell_tmp1 (show Tryz.f12.results = _ from rfl)]; go_simp) rfl ?_
     exact ⟨by rw [HEN.out]; rfl, (HB3.out.setCell nL _).setCell nL _⟩
   ·obtain rfl : k = n := by omega
    have hdl : cl.drop k = [] := by rw [<- hn.out, List.drop_length]
    rw [hdl] at hee
    have HEN : Hid (eachE cl = (0, -1)) := hide (by rw [HEE.out, hee]; rfl)
    have HSE : Hid ((cl.take k).all (fun L => folS .first L) = eachS cl) := hide (by rw [<- hn.out, List.take_length]; rfl)
    have HBB := hide hbw
    generalize (cl.take k).all (fun L => folS .first L) = bk at *
    clear hee hbw HR hdl
    go_wp2_with fail
    refine (fine_any _).mono ?_
    rintro e w2 ⟨rfl, hb2⟩
    have hb3 := below_step HBB.out hb2
    have r0 := keep_cell hb3 z0
    have r1 := keep_cell hb3 z1
    have x0 : w2.frozen? ⟨w.heap.size, 0, none⟩ = false := by rw [hb3.frozen HZL.out]; exact y0
    have x1 : w2.frozen? ⟨w.heap.size, 1, none⟩ = false := by rw [hb3.frozen HZL.out]; exact y1
    have HB3 := hide (below_step HBA.out hb3)
    clear z0 z1 y0 y1 hb3 hb2
    go_wp2_with fail
    refine bodyPost_ret (v := .tuple #[.agg #[.int .i64 0, .int .i64 (-1)], .bool bk]) (by rw [results_cell_tmp1 (show Tryz.f12.results = _ from rfl)]; go_simp) rfl ?_
    exact ⟨by rw [HEN.out, HSE.out]; rfl, (HB3.out.setCell nL _).setCell nL _⟩
theorem cends_out {a : Nat -> Addr} {w : World} (hE : EnvL a w) (f : Int) (ad : Option Addr) (len cap : Nat) (h : 3 < len ∨ (len <= 3 /\ (f < 1 ∨ (1 <= f /\ 4 < f)))) :
  Calls Tryz.prog 5 #[.int .i64 f, .slice ad len cap] w fun e w' => e = .returned (.bool true) /\ Below w.heap.size w w' := by
 have HBT := hide (built_any hE)
 clear hE
 rcases h with h2 | ⟨h2, h3 | ⟨h3, h4⟩⟩
 ·have i1 : 3 < (len : Int) := by omega
  clear h2
  go_enter Tryz.func5, Tryz.ntmps5
  go_wp2_with fail
  refine HBT.out.mono ?_
  rintro e w1 ⟨rfl, hb1⟩
  have HB1 := hide hb1
  clear hb1
  go_wp2_with fail
  go_ret
  exact ⟨rfl, HB1.out⟩
 ·have i1 : ¬ 3 < (len : Int) := by omega
  clear h2
  go_enter Tryz.func5, Tryz.ntmps5
  go_wp2_with fail
  refine HBT.out.mono ?_
  rintro e w1 ⟨rfl, hb1⟩
  have HB1 := hide hb1
  clear hb1
  go_wp2_with fail
  go_ret
  exact ⟨rfl, HB1.out⟩
 ·have i1 : ¬ 3 < (len : Int) := by omega
  have i2 : ¬ f < 1 := by omega
  clear h2 h3
  go_enter Tryz.func5, Tryz.ntmps5
  go_wp2_with fail
  refine HBT.out.mono ?_
  rintro e w1 ⟨rfl, hb1⟩
  have HB1 := hide hb1
  clear hb1
  go_wp2_with fail
  go_ret
  exact ⟨rfl, HB1.out⟩
theorem cends_in {a : Nat -> Addr} {w : World} (hE : EnvL a w) {f : Nat} (hf : 1 <= f /\ f <= 4) {ad : Option Addr} {cl : List (List OpI)} {cap : Nat} (ho : opRowsAt ad cl w) (h3 : cl.length <= 3) :
  Calls Tryz.prog 5 #[.int .i64 f, .slice ad cl.length cap] w fun e w' => e = .returned (.bool true) /\ Below w.heap.size w w' := by
 have HBT := hide (built_any hE)
 have HO := hide ho
 obtain ⟨n, hn⟩ : ∃ n, Hid (cl.length = n) := ⟨_, hide rfl⟩
 have HEV := hide hE
 have HF := hide hf
 rw [hn.out] at h3 ⊢
 obtain ⟨fi, hfi⟩ : ∃ fi, Hid ((f : Int) = fi) := ⟨_, hide rfl⟩
 rw [hfi.out]
 have i1 : ¬ 3 < (n : Int) := by omega
 have i2 : ¬ fi < 1 := by have := hfi.out; omega
 have i3 : ¬ 4 < fi := by have := hfi.out; omega
 clear hE ho hf
 go_enter Tryz.func5, Tryz.ntmps5
 go_wp2_with fail
 refine HBT.out.mono ?_
 rintro e w1 ⟨rfl, hb1⟩
 have HB1 := hide hb1
 clear hb1
 go_wp2_with fail
 go_loopw [6, 7, 8, 9, 10] (fun rd fr i _ _ wr => ∃ j c : Nat, ∃ fb : Bool, j <= n /\ c <= 3 * j /\ i = .int .i64 j /\ rd = .int .i64 c /\ fr = .bool fb /\ Hid (c = rdS cl j /\ frS cl j = fb) /\ Hid (Below w.heap.size w wr) /\ Hid (∀ t, t < j -> (cl.getD t []).length <= 3)) (fun _ _ i _ _ _ => n - (intOf i).toNat)
 case atStart => exact ⟨0, 0, true, Nat.zero_le _, Nat.zero_le _, rfl, rfl, rfl, hide ⟨rfl, rfl⟩, HB1, hide (fun t ht => absurd ht (Nat.not_lt_zero _))⟩
 case round =>
  clear HB1
  obtain ⟨j, c, fb, hj, hc3, rfl, rfl, rfl, HC, HB, HK⟩ := hrel
  by_cases hlt : j < n
  ·have ji : (j : Int) < n := by omega
   obtain ⟨L, hL⟩ : ∃ L, cl[j]? = some L := ⟨_, List.getElem?_eq_getElem (by rw [hn.out]; exact hlt)⟩
   have HL := hide hL
   have HRS := hide (rdS_succ hL)
   have HFS := hide (frS_succ hL)
   obtain ⟨ln, hln⟩ : ∃ ln, Hid (L.length = ln) := ⟨_, hide rfl⟩
   obtain ⟨b, off, adl, capl, rfl, c0, ho⟩ := (HO.out.below HB.out) j L hL
   rw [hln.out] at c0
   have HOP := hide ho
   clear hL ho
   by_cases h3 : 3 < ln
   ·have i5 : 3 < (ln : Int) := by omega
    go_wp2_with fail
    go_ret
    exact ⟨rfl, HB.out⟩
   have hl3 : ln <= 3 := by omega
   have HK2 : Hid (∀ t, t < j + 1 -> (cl.getD t []).length <= 3) := hide (fun t ht => by
    by_cases e : t = j
    ·subst e
     rw [List.getD_eq_getElem?_getD, HL.out]
     show L.length <= 3
     rw [hln.out]; exact hl3
    ·exact HK.out t (by omega))
   have i5 : ¬ 3 < (ln : Int) := by omega
   have HKB := hide (fun W (h : opsAt adl L W) => retires_any (cap := capl) h (by rw [hln.out]; omega))
   rw [hln.out] at HKB
   generalize hkb : keptB L = kb at *
   clear hkb
   go_wp2_with fail
   go_loopw [6, 9] (fun rd k wq => ∃ t d : Nat, t <= ln /\ d <= 3 * j + t /\ k = .int .i64 t /\ rd = .int .i64 d /\ Hid (d = rdS cl j + rdN (L.take t)) /\ wr = wq) (fun _ k _ => ln - (intOf k).toNat)
   case atStart => exact ⟨0, c, Nat.zero_le _, by omega, rfl, rfl, hide (by rw [HC.out.1]; rfl), (by first | rfl | trivial)⟩
   case round =>
    obtain ⟨t, d, ht, hd3, rfl, rfl, HD, rfl⟩ := hrel
    by_cases hlt2 : t < ln
    ·have ti : (t : Int) < ln := by omega
     obtain ⟨x, hx⟩ : ∃ x, L[t]? = some x := ⟨_, List.getElem?_eq_getElem (by rw [hln.out]; exact hlt2)⟩
     have HS := hide (rdN_snoc hx)
     obtain ⟨b2, off2, rfl, d0, d1⟩ := HOP.out t x hx
     have HKR := hide (kn_rd x.kind.toList)
     obtain ⟨xk, xn⟩ := x
     dsimp only at d0 d1 HS HKR
     clear hx
     cases hq : (xk.toList == [114, 101, 97, 100])
     ·have HD2 : Hid (d = rdS cl j + rdN (L.take (t + 1))) := hide (by
       rw [HS.out, if_neg (fun e => by rw [HKR.out.1 e] at hq; cases hq)]
       exact HD.out)
      clear HD HS HKR
      go_wp2_with fail
      go_roundw
      case rel => exact ⟨t + 1, d, by omega, by omega, by go_num, rfl, HD2, (by first | rfl | trivial)⟩
      case measure => simp [intOf]; omega
     ·have HD2 : Hid (d + 1 = rdS cl j + rdN (L.take (t + 1))) := hide (by
       rw [HS.out, if_pos (HKR.out.2 hq)]
       have := HD.out
       omega)
      clear HD HS HKR
      go_wp2_with fail
      go_roundw
      case rel => exact ⟨t + 1, d + 1, by omega, by omega, by go_num, by go_num, HD2, (by first | rfl | trivial)⟩
      case measure => simp [intOf]; omega
    ·obtain rfl : t = ln := by omega
     have HD2 : Hid (d = rdS cl (j + 1)) := hide (by
      rw [HRS.out]
      have := HD.out
      rwa [<- hln.out, List.take_length] at this)
     have HK5 := hide (HKB.out _ HOP.out)
     have hf2 := HC.out.2
     clear HD HRS HC
     go_wp2_with fail
     refine HK5.out.mono ?_
     rintro e w5 ⟨rfl, e5⟩
     obtain rfl : wr = w5 := e5.symm
     clear HK5 HKB
     cases fb
     all_goals
      cases kb
      all_goals
       go_wp2_with fail
       go_roundw
       case rel => exact ⟨j + 1, d, _, by omega, by omega, by go_num, rfl, rfl, hide ⟨HD2.out, by rw [HFS.out, hf2]; rfl⟩, HB, HK2⟩
       case measure => simp [intOf]; omega
  ·obtain rfl : j = n := by omega
   have hk : ∀ L ∈ cl, L.length <= 3 := fun L hL => by
    obtain ⟨t, ht, rfl⟩ := List.getElem_of_mem hL
    have := HK.out t (by rw [<- hn.out]; exact ht)
    rwa [List.getD_eq_getElem?_getD, List.getElem?_eq_getElem ht] at this
   have ho := HO.out.below HB.out
   have HF5 := hide (clfault_any (cap := cap) ho)
   rw [hn.out] at HF5
   clear HK HO
   by_cases h00 : (eachE cl).1 = 0 /\ eachS cl = true
   ·obtain ⟨h0, hS⟩ := h00
    have hf := HF.out
    obtain ⟨-, h6, -, -⟩ := eachE_ok h0
    have HOF := hide (fun W (hb : Below wr.heap.size wr W) => opsof_any (cap := cap) (ho.below hb) (by rw [hn.out]; omega) (fun L hL => Nat.le_trans (hk L hL) (by decide)))
    have HBU := hide (fun (ad' : Option Addr) (cap' : Nat) W (hb : Below w.heap.size w W) (h : opRowsAt ad' cl W) => clbuild_ok (cap := cap') hf (HEV.out.below hb.block) h h0)
    have HSF := hide (fun (ai ar ad : Option Addr) (ci cr cap : Nat) (w : World) (hs : StaAt (clSta f cl.length) ⟨ai, ci, ar, cr⟩ w) (hl : codesAt ad (cl.map (clC f)) w) => clStart_ok (cap := cap) hf h0 hs hl)
    have HNM := hide (fun (ai ar ad : Option Addr) (ci cr cap : Nat) (w0 w : World) (hb : Below w0.heap.size w0 w) (hs : StaAt (clSta f cl.length) ⟨ai, ci, ar, cr⟩ w) (hl : codesAt ad (cl.map (clC f)) w0) => clNewX (cap := cap) hf h0 hb hs hl)
    have HE := hide (cl_fin hf h0 hS (by rw [hn.out]; exact h3) hk)
    have HIL : Hid ((graceI f (clCells.map pad4) cl.length).length <= 20) := hide (by rw [graceI_len, List.length_map]; show 2 + 1 + _ <= 20; omega)
    have HIR : Hid (∀ row ∈ graceI f (clCells.map pad4) cl.length, row.length <= 100) := hide fun row hr => by
     rw [graceI_rows (fun row hr => by obtain ⟨x, -, rfl⟩ := List.mem_map.1 hr; exact pad4_len x) row hr]; decide
    have HRR : Hid (∀ row ∈ rowsG 2 cl.length cl.length, row.length <= 100) := hide fun row hr => by
     rw [rowsG_rows row hr]; decide
    have HRL : Hid ((rowsG 2 cl.length cl.length).length <= 6) := hide (by rw [rowsG_len]; exact h6)
    have HMC : Hid ((cl.map (clC f)).length = cl.length) := hide (List.length_map _)
    have HST : Hid (clSta f cl.length = ⟨64, graceI f (clCells.map pad4) cl.length, rowsG 2 cl.length cl.length⟩) := hide rfl
    rw [h0, hS] at HF5
    rw [show (decide (0 = 0) && true) = true from rfl, show ((0 : Nat) : Int) = 0 from rfl] at HF5
    clear ho h0 hS hk h6 hf HF HEV
    generalize (eachE cl).2 = f2 at *
    rw [hn.out] at HOF HSF HNM HE HIL HIR HRR HRL HMC HST HBU
    generalize clSta f j = S at *
    generalize graceI f (clCells.map pad4) j = II at *
    generalize rowsG 2 j j = RR at *
    generalize cl.map (clC f) = CC at *
    rw [hfi.out] at HBU
    clear hfi
    have HCQ := hide HC.out
    clear HC
    go_wp2_with fail
    refine HF5.out.mono ?_
    rintro e w3 ⟨rfl, hb3⟩
    have HB3 := hide ((below_step HB.out hb3).alloc (below_step HB.out hb3).size (.cells #[.int .i64 0, .int .i64 f2] 31))
    have HBW := hide (hb3.alloc hb3.size (.cells #[.int .i64 0, .int .i64 f2] 31))
    have y0 : (w3.alloc (.cells #[.int .i64 0, .int .i64 f2] 31)).cell? ⟨w3.heap.size, 0, none⟩ = some (.int .i64 0) := by simp
    clear hb3 HF5
    go_wp2_with fail
    clear y0
    generalize w3.alloc (.cells #[.int .i64 0, .int .i64 f2] 31) = w4 at *
    generalize w3.heap.size = bx at *
    refine (HOF.out _ HBW.out).mono ?_
    rintro e w5 ⟨ad5, cap5, rfl, ho5, hb5⟩
    have HB5 := hide (below_step HB3.out hb5)
    have HO5 := hide ho5
    clear ho5 hb5 HOF HB3 HB HBW
    go_wp2_with fail
    refine (HBU.out _ _ _ HB5.out HO5.out).mono ?_
    rintro e w6 ⟨base, sb, iv, vs, rv, rs, vc, ks, B, rfl, hT6, hK6, -, -, hb6⟩
    obtain ⟨ai, ci, ar, cr, eiv, erv, hsta⟩ := TW.sta hT6 rfl (by have := HIL.out; omega) (by have := HRL.out; omega) HIR.out HRR.out
    obtain ⟨ax, cx, evc, hcx⟩ := hK6.codes
    rw [HMC.out] at evc
    subst eiv
    subst erv
    subst evc
    rw [<- HST.out] at hsta
    have hal : Below w6.heap.size w6 (w6.alloc (.cells #[.int .i64 64, .slice ai II.length ci, .slice ar RR.length cr] 38)) := bRf.alloc nL _
    have HB6 := hide (below_step (below_step HB5.out hb6) hal)
    have HS6 := hide (hsta.below hal)
    have HC6 := hide (hcx.below hal)
    have z0 : (w6.alloc (.cells #[.int .i64 64, .slice ai II.length ci, .slice ar RR.length cr] 38)).cell? ⟨w6.heap.size, 0, none⟩ = some (.int .i64 64) := by simp
    have z1 : (w6.alloc (.cells #[.int .i64 64, .slice ai II.length ci, .slice ar RR.length cr] 38)).cell? ⟨w6.heap.size, 1, none⟩ = some (.slice ai II.length ci) := by simp
    have z2 : (w6.alloc (.cells #[.int .i64 64, .slice ai II.length ci, .slice ar RR.length cr] 38)).cell? ⟨w6.heap.size, 2, none⟩ = some (.slice ar RR.length cr) := by simp
    have HBK := hide (backStart_any 64 ai ar II.length ci RR.length cr)
    have hfl : ∀ w : World, (Instr.field 31 (.agg #[.int .i64 0, .int .i64 (-1)]) 0).run Tryz.prog w = .ok (.int .i64 0) w := fun _ => rfl
    clear hT6 hK6 hb6 HO5 hal hsta hcx HB5 HBU HIL HIR HRR HRL HST
    generalize II.length = iL at *
    generalize RR.length = rL at *
    go_wp2_with fail
    generalize w6.alloc (.cells #[.int .i64 64, .slice ai iL ci, .slice ar rL cr] 38) = w7 at *
    generalize w6.heap.size = bs at *
    refine (HBK.out _).mono ?_
    rintro e w8 ⟨rfl, hb8⟩
    have HB8 := hide (below_step HB6.out hb8)
    have HS8 := hide (HS6.out.below hb8)
    have HC8 := hide (HC6.out.below hb8)
    have HSF8 := hide (HSF.out _ _ _ _ _ cx _ HS8.out HC8.out)
    replace z0 := keep_cell hb8 z0
    replace z1 := keep_cell hb8 z1
    replace z2 := keep_cell hb8 z2
    clear hb8 HB6 HS6 HC6
    go_wp2_with fail
    refine HSF8.out.mono ?_
    rintro e w9 ⟨rfl, hb9⟩
    have HB9 := hide (below_step HB8.out hb9)
    have HS9 := hide (HS8.out.below hb9)
    have HC9 := hide (HC8.out.below hb9)
    replace z0 := keep_cell hb9 z0
    replace z1 := keep_cell hb9 z1
    replace z2 := keep_cell hb9 z2
    clear hb9 HB8 HS8 HC8 HSF8
    go_wp2_with fail
    refine (HBK.out _).mono ?_
    rintro e w10 ⟨rfl, hb10⟩
    have HB10 := hide (below_step HB9.out hb10)
    have HS10 := hide (HS9.out.below hb10)
    have HC10 := hide (HC9.out.below hb10)
    have HNM10 := hide (HNM.out _ _ _ _ _ cx _ _ (Below.refl w10.heap.size w10) HS10.out HC10.out)
    clear hb10 HB9 HS9 HC9 z0 z1 z2
    go_wp2_with fail
    refine HNM10.out.mono ?_
    rintro e w11 ⟨p, rfl, hk⟩
    have HB11 := hide (below_step HB10.out hk.out.2.1)
    generalize hM : S.mach j = M at *
    have hA0 := hk.out.1.at'
    have hM0 : w11.cell? ⟨p.k, 0, none⟩ = some (.pointer (some ⟨p.rp.mb, 0, none⟩)) := hA0.mM
    have HCN := hide (rcount_any p.rp M.mem w11 hA0.mem)
    have H0 : Hid (ERel CC p M w11 0 w11) := hide ⟨p.rp, p.mv, RkStep.refl hA0, hk.out.1⟩
    have HBL : Hid (∀ k wr, ERel CC p M w11 k wr -> Below w.heap.size w wr) := hide (fun k wr ⟨r, v, hs, _⟩ => HB11.out.trans (hs.turns.below HB11.out.size (fun b o hb hf => by
     rw [HMC.out] at hf
     have h7 := hk.out.2.2 b hf
     have h8 := HB10.out.size
     omega)))
    have HTU : Hid (∀ (k : Nat) wr, k <= 20000 -> ERel CC p M w11 k wr -> Calls Tryz.prog 25 #[.pointer (some ⟨p.k, 0, none⟩), .int .i64 (k : Int)] wr fun e w' => ∃ c : Int, e = .returned (.int .i64 c) /\ ERel CC p M w11 (k + 1) w') := hide (fun k wr hk h => h.turn hk)
    generalize hct : M.mem.ar.count = ct at *
    have HCT := hide hct
    clear hct hA0 hk HNM10 HS10 HC10 HSF HNM HBK HB10 HB11
    go_wp2_with fail
    refine HCN.out.mono ?_
    rintro e w12 ⟨rfl, e12⟩
    obtain rfl : w11 = w12 := e12.symm
    clear HCN hM0
    go_wp2_with fail
    go_loopw [18] (fun i wr => ∃ k : Nat, k <= 20000 /\ i = .int .i64 k /\ Hid (ERel CC p M w11 k wr)) (fun i _ => 20000 - (intOf i).toNat)
    case atStart => exact ⟨0, Nat.zero_le _, rfl, H0⟩
    case round =>
     clear H0
     obtain ⟨k, hk, rfl, HH⟩ := hrel
     by_cases hlt : k < 20000
     ·have ki : (k : Int) < 20000 := by omega
      have HC := hide (HTU.out k wr hk HH.out)
      clear HH HTU HBL
      go_wp2_with fail
      refine HC.out.mono ?_
      rintro e w5 ⟨c5, rfl, h5⟩
      have HN := hide h5
      clear h5 HC
      go_wp2_with fail
      go_roundw
      case rel => exact ⟨k + 1, by omega, by go_num, HN⟩
      case measure => simp [intOf]; omega
     ·obtain rfl : k = 20000 := by omega
      have hlow := HBL.out _ _ HH.out
      obtain ⟨r, v, hk1, hx1⟩ := HH.out
      obtain ⟨hfa, hrt, hmk, hcn⟩ := HE.out
      have hre := rrest_any hk1.at'
      rw [hrt] at hre
      have HRE : Hid (Calls Tryz.prog 26 #[.pointer (some ⟨p.k, 0, none⟩)] wr fun e w' => e = .returned (.bool true) /\ Below wr.heap.size wr w') := hide hre
      have hFa : wr.cell? ⟨p.k, 3, none⟩ = some (.int .i64 0) := by
       have := hk1.at'.mFaults
       rw [hfa] at this
       exact this
      have HA := hide hk1.at'
      have HCT2 : Hid (fb = true -> (M.runO CC (upto 20000)).2.mem.ar.count = ct) := hide (fun e => by
       rw [<- HCT.out]
       exact hcn (by rw [HCQ.out.2]; exact e))
      have hml : (M.runO CC (upto 20000)).2.marks.length = c := by rw [hmk, HCQ.out.1]
      obtain ⟨am, cm, emv, -, -, -⟩ := ownsRow_shape HA.out.own
      have hMk : wr.cell? ⟨p.k, 2, none⟩ = some (.slice am c cm) := by
       have := HA.out.mMarks
       rw [emv, hml] at this
       exact this
      clear hk1 hx1 hre hrt HH HTU HBL HE hfa hmk hcn hml emv HCT HCQ
      generalize (M.runO CC (upto 20000)).2 = M2 at *
      have hnn : ((c : Int) != (c : Int)) = false := by simp
      rw [show ((20000 : Nat) : Int) = 20000 from rfl]
      go_wp2_with fail
      refine HRE.out.mono ?_
      rintro e w5 ⟨rfl, hb5⟩
      have hlow5 := below_step hlow hb5
      replace hFa := keep_cell hb5 hFa
      replace hMk := keep_cell hb5 hMk
      have hq := HA.out.below hb5
      have hM0 : w5.cell? ⟨p.k, 0, none⟩ = some (.pointer (some ⟨r.mb, 0, none⟩)) := hq.mM
      have HCO := hide (rcount_any r M2.mem w5 hq.mem)
      clear HRE HA hq hlow hb5
      cases fb
      ·clear HCO HCT2
       go_wp2_with fail
       go_ret
       exact ⟨rfl, hlow5⟩
      ·rw [HCT2.out rfl] at HCO
       go_wp2_with fail
       refine HCO.out.mono ?_
       rintro e w6 ⟨rfl, e6⟩
       obtain rfl : w5 = w6 := e6.symm
       clear HCO
       go_wp2_with fail
       go_ret
       refine ⟨?_, hlow5⟩
       simp
   ·have hXF : (decide ((eachE cl).1 = 0) && eachS cl) = false := by
     by_cases h : (eachE cl).1 = 0
     ·cases hs : eachS cl
      ·rw [Bool.and_false]
      ·exact absurd ⟨h, hs⟩ h00
     ·rw [decide_eq_false h]; rfl
    rw [hXF] at HF5
    clear hXF h00 ho hk HEV HF
    generalize eachE cl = F at *
    obtain ⟨f1, f2⟩ := F
    dsimp only at HF5
    have hz : 0 < (f1 : Int) ∨ (f1 : Int) = 0 := by omega
    generalize (f1 : Int) = z at *
    go_wp2_with fail
    refine HF5.out.mono ?_
    rintro e w3 ⟨rfl, hb3⟩
    have HB3 := hide ((below_step HB.out hb3).alloc (below_step HB.out hb3).size (.cells #[.int .i64 z, .int .i64 f2] 31))
    have y0 : (w3.alloc (.cells #[.int .i64 z, .int .i64 f2] 31)).cell? ⟨w3.heap.size, 0, none⟩ = some (.int .i64 z) := by simp
    clear hb3 HF5
    rcases hz with hz | rfl
    ·go_wp2_with fail
     go_ret
     exact ⟨rfl, HB3.out⟩
    ·go_wp2_with fail
     go_ret
     exact ⟨rfl, HB3.out⟩
theorem cends_any {a : Nat -> Addr} {w : World} (hE : EnvL a w) (f : Int) {ad : Option Addr} {cl : List (List OpI)} {cap : Nat} (ho : opRowsAt ad cl w) :
  Calls Tryz.prog 5 #[.int .i64 f, .slice ad cl.length cap] w fun e w' => e = .returned (.bool true) /\ Below w.heap.size w w' := by
 by_cases h3 : cl.length <= 3
 ·by_cases hf : 1 <= f /\ f <= 4
  ·obtain ⟨g, rfl⟩ := Int.eq_ofNat_of_zero_le (show 0 <= f by omega)
   exact cends_in hE (by omega) ho h3
  ·exact cends_out hE f ad _ cap (.inr ⟨h3, by omega⟩)
 ·exact cends_out hE f ad _ cap (.inl (by omega))
end
section
open Go.ChangeShapes Go.WideShapes Go.ChangeAt Go.RowKit Go.Joins Go.Deep
def sfiveTexts : List (String × List UInt8) := [("quiescent/api.ErrBound", [113, 117, 105, 101, 115, 99, 101, 110, 116, 58, 32, 98, 111, 117, 110, 100]), ("quiescent/api.ErrShape", [113, 117, 105, 101, 115, 99, 101, 110, 116, 58, 32, 115, 104, 97, 112, 101]), ("quiescent/api.ErrName", [113, 117, 105, 101, 115, 99, 101, 110, 116, 58, 32, 110, 97, 109, 101]), ("quiescent/api.ErrNone", [113, 117, 105, 101, 115, 99, 101, 110, 116, 58, 32, 110, 111, 110, 101]), ("quiescent/api.ErrHeld", [113, 117, 105, 101, 115, 99, 101, 110, 116, 58, 32, 104, 101, 108, 100])]
def laidS8 : List (String × DataW Unit) := Rows.clientSafeRow.laid
theorem splain : (laidS8.all fun x => x.2.handleName?.isNone) = true := by kernel_rfl
theorem sfiveOnly : (laidS8.filter fun x => match x.2 with | .iface _ _ => true | _ => false) = sfiveTexts.map sentOf := by kernel_rfl
theorem ls_g0 : Tryz.prog.globalNamed "quiescent/api.ErrBound" = some 1 := by kernel_rfl
theorem ls_gT0 : (Tryz.prog.globals[1]?).map (·.type) = some 26 := by kernel_rfl
theorem ls_g1 : Tryz.prog.globalNamed "quiescent/api.ErrShape" = some 2 := by kernel_rfl
theorem ls_gT1 : (Tryz.prog.globals[2]?).map (·.type) = some 26 := by kernel_rfl
theorem ls_g2 : Tryz.prog.globalNamed "quiescent/api.ErrName" = some 3 := by kernel_rfl
theorem ls_gT2 : (Tryz.prog.globals[3]?).map (·.type) = some 26 := by kernel_rfl
theorem ls_g3 : Tryz.prog.globalNamed "quiescent/api.ErrNone" = some 4 := by kernel_rfl
theorem ls_gT3 : (Tryz.prog.globals[4]?).map (·.type) = some 26 := by kernel_rfl
theorem ls_g4 : Tryz.prog.globalNamed "quiescent/api.ErrHeld" = some 7 := by kernel_rfl
theorem ls_gT4 : (Tryz.prog.globals[7]?).map (·.type) = some 26 := by kernel_rfl
theorem sfiveG : ∀ x ∈ sfiveTexts, ∃ g, Tryz.prog.globalNamed x.1 = some g /\ (Tryz.prog.globals[g]?).map (·.type) = some 26 := by
 intro x hx
 simp only [sfiveTexts, List.mem_cons, List.not_mem_nil, or_false] at hx
 rcases hx with rfl | rfl | rfl | rfl | rfl
 ·exact ⟨_, ls_g0, ls_gT0⟩
 ·exact ⟨_, ls_g1, ls_gT1⟩
 ·exact ⟨_, ls_g2, ls_gT2⟩
 ·exact ⟨_, ls_g3, ls_gT3⟩
 ·exact ⟨_, ls_g4, ls_gT4⟩
theorem ls_star : "*" ++ "errors.errorString" = "*errors.errorString" := by decide
theorem ls_errName (u : TypeId) (h : Tryz.prog.typeName? 3 u = some "*errors.errorString") : u = 227 :=
 typeName_ptr_named (nm := "errors.errorString") (by rw [ls_star]; kernel_rfl) (by kernel_rfl) (by decide) u (by rw [ls_star]; exact h)
theorem ls_esStruct : ∃ f : Field, Tryz.prog.underlying 246 = some (.struct #[f]) /\ f.type = 9 /\ f.offset = 0 := ⟨_, Tryz.underlying246, rfl, rfl⟩
theorem ls_esCells : Tryz.prog.cellsOf 246 = 1 := by kernel_rfl
theorem ls_strCells : Tryz.prog.cellsOf 9 = 1 := by kernel_rfl
theorem env_of_laidS {W : World} (h : laidMetH Tryz.prog laidS8 W) : ∃ a, EnvL a W := by
 rw [MakeChecks.laidMetH_plain _ _ _ splain] at h
 have hs := h.filter fun x => match x.2 with | .iface _ _ => true | _ => false
 rw [sfiveOnly] at hs
 obtain ⟨ps, hv, hnd, hrows⟩ := hs
 obtain ⟨f, hf, hft, hfo⟩ := ls_esStruct
 obtain ⟨ads, hl, hn, hm, hat⟩ := sents_of_laid (f := f) Tryz.underlying26 ls_errName Tryz.underlying227 hf hft hfo Tryz.underlying9 ls_esCells ls_strCells sfiveTexts ps hv hnd hrows sfiveG
 have look : ∀ (i : Nat) (x : String × List UInt8), sfiveTexts[i]? = some x -> W.var? Tryz.prog x.1 = some #[errAt (ads.getD i default)] := fun i x hx => by
  obtain ⟨a, ha, hva⟩ := hat i x hx
  rw [List.getD_eq_getElem?_getD, ha]; exact hva
 refine ⟨fun i => ads.getD (match i with | 1 => 0 | 2 => 1 | 4 => 3 | _ => 4) default, ⟨fun i hi => ?_⟩⟩
 rcases hi with rfl | rfl | rfl | rfl
 ·simpa [gid] using World.var?_cell ls_g0 (look 0 _ rfl) 0
 ·simpa [gid] using World.var?_cell ls_g1 (look 1 _ rfl) 0
 ·simpa [gid] using World.var?_cell ls_g3 (look 3 _ rfl) 0
 ·simpa [gid] using World.var?_cell ls_g4 (look 4 _ rfl) 0
noncomputable def sworld (os : Os) : World := World.laidAll Tryz.prog os laidS8
theorem sworld_os (os : Os) : (sworld os).os = os := World.laidAll_os _ _ _
theorem slaid_met (os : Os) (args : Array Value) : laidMetH Tryz.prog laidS8 ((sworld os).forCall (fun _ _ => 0) ⟨#[], args, []⟩).memory := by
 rw [MakeChecks.laidMetH_plain _ _ _ splain]
 exact laidMet_laidAll _ (by kernel_rfl) (by kernel_rfl)
theorem sworld_shaped (os : Os) (args : Array Value) : ((sworld os).forCall (fun _ _ => 0) ⟨#[], args, []⟩).Shaped Tryz.prog := World.shaped_of_ZipB (by kernel_rfl) (by kernel_rfl)
theorem readableCE : ∀ t ∈ [3, 22], Tryz.prog.readableRec t = true /\ t < Tryz.prog.types.size := by
 intro t ht
 simp only [List.mem_cons, List.not_mem_nil, or_false] at ht
 rcases ht with rfl | rfl
 ·exact ⟨by kernel_rfl, of_decide_eq_true (by kernel_rfl)⟩
 ·exact ⟨by kernel_rfl, of_decide_eq_true (by kernel_rfl)⟩
theorem cends_lifted (os : Os) (started : os.Started) (H : Type) (enc : TypeId × Value -> H) :
  ReturnsInHanded {} Tryz.checked os 5 .any (fun w args => (Rows.clientEndsSpec.pre enc Tryz.prog Tryz.f5 [] false w args /\ laidMetH Tryz.prog Rows.clientEndsRow.laid w) /\ sizedMet enc Tryz.prog Tryz.f5 (OpenSpec.ofChange Rows.clientEndsSpec) false w args)
   (Rows.clientEndsSpec.post enc Tryz.prog Tryz.f5 false true false false) := by
 refine lift_shaped (C := Tryz.checked) (X := fun w _ => laidMetH Tryz.prog Rows.clientEndsRow.laid w) (fun _ _ _ hh h => h.of_heap hh) own started (by kernel_rfl) Tryz.func5
  (ChangeSpec.witness_shaped (enc := enc) (C := Tryz.checked) (os := os) (X := fun w _ => laidMetH Tryz.prog Rows.clientEndsRow.laid w) false (sworld os) #[.int .i64 0, .slice none 0 0] 8 (sworld_os os)
    (sworld_shaped os _) (by kernel_rfl) (by kernel_rfl) (by kernel_rfl) (slaid_met os _)) ?_
 intro W base args ds gs before hval0 hW hL hsh
 have hval : ∀ (j : Nat) t v, Tryz.f5.params[j]? = some t -> args[j]? = some v -> Value.okWide Tryz.prog W .any base t v := hval0
 have hW' := hW
 obtain ⟨p, q, hA0, hV, rfl, hfz, hnd⟩ := hW
 have hA : DataW.TrodAll enc Tryz.prog W 0 (fun _ => true) true Tryz.f5.params.toList args.toList ds p := hA0
 rw [Tryz.params5] at hA hval
 have hA2 := hA
 obtain ⟨v0, v1, d0, d1, p0, p1, rfl, rfl, rfl, h0, h1⟩ := trodAll_two hA
 obtain ⟨rfl, rfl⟩ := trodVars_none hV
 obtain ⟨n0, rfl⟩ := okWide_int Tryz.underlying3 (hval 0 3 v0 rfl rfl)
 obtain ⟨sa, slen, scap, rfl⟩ := okWide_slice Tryz.underlying22 (hval 1 22 v1 rfl rfl)
 obtain ⟨fuel, hf⟩ := h1
 obtain ⟨ad, cap, cl, hcs, hrows⟩ := oprows_of_trod hf
 obtain ⟨rfl, rfl, rfl⟩ : sa = ad /\ slen = cl.length /\ scap = cap := by simpa [Value.cells] using hcs
 obtain ⟨a, hE⟩ := env_of_laidS hL
 clear hA0 hval0
 simp only [List.append_nil] at hW'
 refine (cends_any hE n0 hrows).mono fun e W' ⟨he, hb⟩ => ?_
 subst he
 refine ⟨_, rfl, _, _, _, [], p0 ++ p1, [], hW', ?_, ?_, ?_, hb.frame _, fun h => by cases h⟩
 ·exact trodAll_mk1 (shut_bool Tryz.underlying4 true)
 ·exact trodAll_below laidOutA hb _ _ _ _ readableCE hA2
 ·rfl
theorem cends_holds : Rows.ClientEndsSaid :=
 OpenClaim.holds_of_wide 5 Tryz.f5 rfl rfl rfl rfl rfl rfl rfl ⟨rfl, rfl, rfl, rfl, rfl⟩ rfl rfl rfl rfl rfl (by kernel_rfl) Tryz.func5 (by kernel_rfl)
  (of_decide_eq_true (by kernel_rfl)) (by unfold Func.isWrapper; rw [if_neg (of_decide_eq_false (by kernel_rfl))]; exact ⟨rfl, rfl⟩)
  (fun os started H enc _ => cends_lifted os started H enc)
theorem cends_card : Rows.ClientEndsCardSaid :=
 Claim7.holds_tied_plain_at .later [] [.data, .data, .data, .sentinel, .sentinel, .sentinel, .sentinel, .sentinel] true (true, "d8fe092f434f16a9a0ea9d3806d5771d1266082f0aa16b571ff920b853d9c700") true
  cends_holds (fun _ h => absurd h List.not_mem_nil) (by kernel_rfl) (fun _ h => absurd h List.not_mem_nil) clientEnds_row_tie rfl ⟨rfl, rfl⟩ (by kernel_rfl) rfl
  (fun f fn hf hfn => by
    obtain rfl : f = 5 := (Option.some.inj ((show Tryz.prog.funcNamed "quiescent/quiescentlaw2.ClientEnds" = some 5 by kernel_rfl).symm.trans hf)).symm
    obtain rfl : fn = Tryz.f5 := (Option.some.inj (Tryz.func5.symm.trans hfn)).symm
    exact ⟨by kernel_rfl, fun j t ht => by
     rw [Tryz.params5] at ht
     rcases j with _ | _ | j
     ·obtain rfl : t = 3 := by simpa using ht.symm
      exact (show Tryz.prog.wantsStandIn 3 = false by kernel_rfl)
     ·obtain rfl : t = 22 := by simpa using ht.symm
      exact (show Tryz.prog.wantsStandIn 22 = false by kernel_rfl)
     ·simp at ht⟩)
  (by kernel_rfl)
#print axioms cends_card
end
end Go.Proofs.YtaiigfcfmcicjaaGreatDoor
