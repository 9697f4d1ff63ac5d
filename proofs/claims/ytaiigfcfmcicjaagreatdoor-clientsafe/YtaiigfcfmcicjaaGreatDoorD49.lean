import Derived.Test.YtaiigfcfmcicjaaGreatDoorD48
import Derived.Test.YtaiigfcfmcicjaaGreatDoorD23
import Derived.Test.YtaiigfcfmcicjaaGreatDoorD38
import Derived.Test.YtaiigfcfmcicjaaGreatDoorD47
import Derived.Deep.RegionHeld3
import Derived.Test.YtaiigfcfmcicjaaGreatDoorD24
import Derived.Test.YtaiigfcfmcicjaaGreatDoorD28
import Derived.Test.YtaiigfcfmcicjaaGreatDoorD20
import Derived.Test.YtaiigfcfmcicjaaGreatDoorD03
import Derived.Test.YtaiigfcfmcicjaaGreatDoorD13
import Derived.Deep.QuietTactic
namespace Go.Proofs.YtaiigfcfmcicjaaGreatDoor
set_option maxRecDepth 100000
set_option maxHeartbeats 8000000
section
open Go.RowKit Go.Extern.Stop Go.Stop Go.Extern Go.Maps Go.WideMaps Go.Sort
theorem results_cell_tmp1 {fn : Func} {p u : Tmp} {ty : TypeId} (h : fn.results = #[.cell p ty, .tmp u]) (tmps : Array Value) (P : Program) (w : World) :
  (results fn tmps).run P w =
    ((asAddr (tmps.getD p undef)).run P w).andThen fun a w₁ => ((loadVar ty a).run P w₁).andThen fun v w₂ => .ok (.tuple #[v, tmps.getD u undef]) w₂ := by
 simp only [results, h]
 simp [Sem.run_bind, Result.andThen]
theorem clfault_any {ad : Option Addr} {cl : List (List OpI)} {cap : Nat} {w : World} (ho : opRowsAt ad cl w) :
  Calls Tryz.prog 12 #[.slice ad cl.length cap] w fun e w' => e = .returned (.tuple #[.agg #[.int .i64 (eachE cl).1, .int .i64 (eachE cl).2], .bool (decide ((eachE cl).1 = 0) && eachS cl)]) /\ Below w.heap.size w w' := by
 have HO := hide ho
 obtain ⟨n, hn⟩ : ∃ n, Hid (cl.length = n) := ⟨_, hide rfl⟩
 have hba : Below w.heap.size w (w.alloc (.cells #[.int .i64 0, .int .i64 0] 31)) := bRf.alloc nL _
 have HM := hide (many_any (cap := cap) (ho.below hba))
 obtain ⟨z0, z1⟩ := box2c w 31 (.int .i64 0) (.int .i64 0)
 have y0 : (w.alloc (.cells #[.int .i64 0, .int .i64 0] 31)).frozen? ⟨w.heap.size, 0, none⟩ = false := by simp
 have y1 : (w.alloc (.cells #[.int .i64 0, .int .i64 0] 31)).frozen? ⟨w.heap.size, 1, none⟩ = false := by simp
 generalize hw : w.alloc (.cells #[.int .i64 0, .int .i64 0] 31) = w1 at *
 have HBA := hide hba
 have HZL : Hid (w.heap.size < w1.heap.size) := hide (bLt z0)
 rw [hn.out] at HM ⊢
 clear ho hba
 cases hfb : fitB cl
 ·rw [hfb] at HM
  have HEE : Hid (eachE cl = (2, -1)) := hide (by unfold eachE; rw [hfb]; rfl)
  clear hfb
  go_enter Tryz.func12, Tryz.ntmps12
  go_wp2_with fail
  refine HM.out.mono ?_
  rintro e w2 ⟨rfl, e2⟩
  obtain rfl : w1 = w2 := e2.symm
  go_wp2_with fail
  refine (rbare_any _ _).mono ?_
  rintro e w2 ⟨rfl, hb3⟩
  clear hw
  have r0 := keep_cell hb3 z0
  have r1 := keep_cell hb3 z1
  have x0 : w2.frozen? ⟨w.heap.size, 0, none⟩ = false := by rw [hb3.frozen HZL.out]; exact y0
  have x1 : w2.frozen? ⟨w.heap.size, 1, none⟩ = false := by rw [hb3.frozen HZL.out]; exact y1
  have HB3 := hide (below_step HBA.out hb3)
  clear z0 z1 y0 y1 hb3
  go_wp2_with fail
  refine bodyPost_ret (v := .tuple #[.agg #[.int .i64 2, .int .i64 (-1)], .bool false]) (by rw [results_cell_tmp1 (show Tryz.f12.results = _ from rfl)]; go_simp) rfl ?_
  exact ⟨by rw [HEE.out]; rfl, (HB3.out.setCell nL _).setCell nL _⟩
 ·rw [hfb] at HM
  have HEE : Hid (eachE cl = eachFrom cl 0) := hide (by unfold eachE; rw [hfb]; rfl)
  have HL := hide (fit_rows hfb)
  have hn6 : cl.length <= 6 := fit_len hfb
  rw [hn.out] at hn6
  have H0 : Hid (eachFrom cl 0 = eachFrom (cl.drop 0) 0 /\ Below w1.heap.size w1 w1) := hide ⟨rfl, Below.refl _ _⟩
  clear hfb
  go_enter Tryz.func12, Tryz.ntmps12
  go_wp2_with fail
  refine HM.out.mono ?_
  rintro e w2 ⟨rfl, e2⟩
  obtain rfl : w1 = w2 := e2.symm
  clear hw HM
  go_wp2_with fail
  go_loopw [5, 6, 7, 8] (fun b i _ _ wr => ∃ k : Nat, k <= n /\ b = .bool ((cl.take k).all fun L => folS .first L) /\ i = .int .i64 k /\ Hid (eachFrom cl 0 = eachFrom (cl.drop k) k /\ Below w1.heap.size w1 wr)) (fun _ i _ _ _ => n - (intOf i).toNat)
  case atStart => exact ⟨0, Nat.zero_le _, rfl, rfl, H0⟩
  case round =>
   clear H0
   obtain ⟨k, hk, rfl, rfl, HR⟩ := hrel
   obtain ⟨hee, hbw⟩ := HR.out
   by_cases hlt : k < n
   ·have ki : (k : Int) < n := by omega
    obtain ⟨L, hL⟩ : ∃ L, cl[k]? = some L := ⟨_, List.getElem?_eq_getElem (by rw [hn.out]; exact hlt)⟩
    have hdr : cl.drop k = L :: cl.drop (k + 1) := by
     have := List.drop_eq_getElem_cons (show k < cl.length by rw [hn.out]; exact hlt)
     rw [this]
     have h2 := List.getElem?_eq_getElem (show k < cl.length by rw [hn.out]; exact hlt)
     rw [hL] at h2
     rw [Option.some.inj h2]
    rw [hdr] at hee
    obtain ⟨b9, off, adl, capl, rfl, c0, hops⟩ := (HO.out.below (below_step HBA.out hbw)) k L hL
    have hl20 := HL.out L (List.mem_of_getElem? hL)
    have HF1 := hide (terror_any (cap := capl) hops (by omega))
    have HEE2 := hide hee
    have HBW := hide hbw
    have HSN := hide (all_snoc hL)
    clear hL hdr hee hbw hops hl20 HR
    generalize hLn : L.length = ln at *
    generalize (cl.take k).all (fun L => folS .first L) = bk at *
    go_wp2_with fail
    refine HF1.out.mono ?_
    rintro e w2 ⟨rfl, hb2⟩
    have HBW2 := hide (below_step HBW.out hb2)
    clear hb2 HBW
    by_cases hz : folE .first L = 0
    ·rw [hz]
     have HEN : Hid (eachFrom cl 0 = eachFrom (cl.drop (k + 1)) (k + 1)) := hide (by
      rw [HEE2.out]
      show (if folE .first L ≠ 0 then _ else _) = _
      rw [if_neg (fun h => h hz)])
     rw [show (decide ((0 : Nat) = 0) && folS .first L) = folS .first L from rfl]
     rw [show ((0 : Nat) : Int) = 0 from rfl]
     generalize folS .first L = sL at *
     clear HF1 HEE2
     cases bk
     ·go_wp2_with fail
      go_roundw
      case rel => exact ⟨k + 1, by omega, by rw [HSN.out]; rfl, by go_num, hide ⟨HEN.out, HBW2.out⟩⟩
      case measure => simp [intOf]; omega
     ·go_wp2_with fail
      go_roundw
      case rel => exact ⟨k + 1, by omega, by rw [HSN.out]; rfl, by go_num, hide ⟨HEN.out, HBW2.out⟩⟩
      case measure => simp [intOf]; omega
    ·have HEN : Hid (eachE cl = (folE .first L, (k : Int))) := hide (by
      rw [HEE.out, HEE2.out]
      show (if folE .first L ≠ 0 then _ else _) = _
      rw [if_pos hz])
     rw [decide_eq_false hz, Bool.false_and]
     obtain ⟨m, hm⟩ : ∃ m, folE .first L = m + 1 := ⟨folE .first L - 1, by omega⟩
     rw [hm] at HEN ⊢
     have mp : (0 : Int) < ((m + 1 : Nat) : Int) := by omega
     have hb3 := HBW2.out
     have r0 := keep_cell hb3 z0
     have r1 := keep_cell hb3 z1
     have x0 : w2.frozen? ⟨w.heap.size, 0, none⟩ = false := by rw [hb3.frozen HZL.out]; exact y0
     have x1 : w2.frozen? ⟨w.heap.size, 1, none⟩ = false := by rw [hb3.frozen HZL.out]; exact y1
     have HB3 := hide (below_step HBA.out hb3)
     clear z0 z1 y0 y1 hb3 HF1 HEE2 hz hm
     go_wp2_with fail
     refine bodyPost_ret (v := .tuple #[.agg #[.int .i64 ((m + 1 : Nat) : Int), .int .i64 k], .bool false]) (by rw [results_cell_tmp1 (show Tryz.f12.results = _ from rfl)]; go_simp) rfl ?_
     exact ⟨by rw [HEN.out]; rfl, (HB3.out.setCell nL _).setCell nL _⟩
   ·obtain rfl : k = n := by omega
    have hdl : cl.drop k = [] := by rw [<- hn.out, List.drop_length]
    rw [hdl] at hee
    have HEN : Hid (eachE cl = (0, -1)) := hide (by rw [HEE.out, hee]; rfl)
    have HSE : Hid ((cl.take k).all (fun L => folS .first L) = eachS cl) := hide (by rw [<- hn.out, List.take_length]; rfl)
    have HBB := hide hbw
    generalize (cl.take k).all (fun L => folS .first L) = bk at *
    clear hee hbw HR hdl
    go_wp2_with fail
    refine (fine_any _).mono ?_
    rintro e w2 ⟨rfl, hb2⟩
    have hb3 := below_step HBB.out hb2
    have r0 := keep_cell hb3 z0
    have r1 := keep_cell hb3 z1
    have x0 : w2.frozen? ⟨w.heap.size, 0, none⟩ = false := by rw [hb3.frozen HZL.out]; exact y0
    have x1 : w2.frozen? ⟨w.heap.size, 1, none⟩ = false := by rw [hb3.frozen HZL.out]; exact y1
    have HB3 := hide (below_step HBA.out hb3)
    clear z0 z1 y0 y1 hb3 hb2
    go_wp2_with fail
    refine bodyPost_ret (v := .tuple #[.agg #[.int .i64 0, .int .i64 (-1)], .bool bk]) (by rw [results_cell_tmp1 (show Tryz.f12.results = _ from rfl)]; go_simp) rfl ?_
    exact ⟨by rw [HEN.out, HSE.out]; rfl, (HB3.out.setCell nL _).setCell nL _⟩
end
section
open Go.RowKit Go.Extern.Stop Go.Stop Go.Extern Go.Maps Go.WideMaps Go.Sort
def lngB (cl : List (List OpI)) : Bool := decide (10 < cl.length) || cl.any fun L => decide (30 < L.length) || L.any fun x => decide (100 < x.kind.size)
theorem lngB_hit {cl : List (List OpI)} {k : Nat} {L : List OpI} (h : cl[k]? = some L) (hL : 30 < L.length) : lngB cl = true := by
 unfold lngB
 rw [Bool.or_eq_true, List.any_eq_true]
 exact .inr ⟨L, List.mem_of_getElem? h, by rw [decide_eq_true hL]; rfl⟩
theorem lngB_hit2 {cl : List (List OpI)} {k j : Nat} {L : List OpI} {x : OpI} (h : cl[k]? = some L) (hx : L[j]? = some x) (hL : 100 < x.kind.size) : lngB cl = true := by
 unfold lngB
 rw [Bool.or_eq_true, List.any_eq_true]
 refine .inr ⟨L, List.mem_of_getElem? h, ?_⟩
 rw [Bool.or_eq_true, List.any_eq_true]
 exact .inr ⟨x, List.mem_of_getElem? hx, decide_eq_true hL⟩
def okTo (cl : List (List OpI)) (k : Nat) : Prop := ∀ (t : Nat) L, t < k -> cl[t]? = some L -> L.length <= 30 /\ ∀ x ∈ L, x.kind.size <= 100
theorem lngB_none {cl : List (List OpI)} (h0 : cl.length <= 10) (h : okTo cl cl.length) : lngB cl = false := by
 unfold lngB
 rw [decide_eq_false (by omega), Bool.false_or, List.any_eq_false]
 intro L hL
 obtain ⟨t, ht, rfl⟩ := List.getElem_of_mem hL
 obtain ⟨h1, h2⟩ := h t _ ht (List.getElem?_eq_getElem ht)
 rw [decide_eq_false (by omega), Bool.false_or]
 intro hh
 rw [List.any_eq_true] at hh
 obtain ⟨x, hx, hd⟩ := hh
 have := of_decide_eq_true hd
 have := h2 x hx
 omega
theorem lngB_what {cl : List (List OpI)} (h : lngB cl = false) : cl.length <= 10 /\ ∀ L ∈ cl, L.length <= 30 := by
 unfold lngB at h
 rw [Bool.or_eq_false_iff] at h
 refine ⟨by have := of_decide_eq_false h.1; omega, fun L hL => ?_⟩
 have h2 := List.any_eq_false.1 h.2 L hL
 by_cases h3 : 30 < L.length
 ·exact absurd (by rw [decide_eq_true h3]; rfl) h2
 ·omega
theorem long_any {ad : Option Addr} {cl : List (List OpI)} {cap : Nat} {w : World} (h : opRowsAt ad cl w) :
  Calls Tryz.prog 9 #[.slice ad cl.length cap] w fun e w' => e = .returned (.bool (lngB cl)) /\ w' = w := by
 by_cases h10 : 10 < cl.length
 ·have hf : lngB cl = true := by unfold lngB; rw [decide_eq_true h10]; rfl
  rw [hf]
  have i1 : 10 < (cl.length : Int) := by omega
  generalize cl.length = n at *
  clear h
  go_enter Tryz.func9, Tryz.ntmps9
  go_wp2_with fail
  go_ret
  exact ⟨rfl, rfl⟩
 ·have i1 : ¬ 10 < (cl.length : Int) := by omega
  have HH := hide h
  have HZ := hide (lngB_none (cl := cl) (by omega))
  obtain ⟨n, hn⟩ : ∃ n, Hid (cl.length = n) := ⟨_, hide rfl⟩
  rw [hn.out] at i1 HZ ⊢
  clear h h10
  go_enter Tryz.func9, Tryz.ntmps9
  go_wp2_with fail
  go_loopw [3, 4] (fun i _ wr => ∃ j : Nat, j <= n /\ i = .int .i64 j /\ Hid (okTo cl j) /\ w = wr) (fun i _ _ => n - (intOf i).toNat)
  case atStart => exact ⟨0, Nat.zero_le _, rfl, hide (fun t L ht => absurd ht (Nat.not_lt_zero _)), (by first | rfl | trivial)⟩
  case round =>
   obtain ⟨j, hj, rfl, HA, rfl⟩ := hrel
   by_cases hlt : j < n
   ·have ji : (j : Int) < n := by omega
    obtain ⟨L, hL⟩ : ∃ L, cl[j]? = some L := ⟨_, List.getElem?_eq_getElem (by rw [hn.out]; exact hlt)⟩
    have HL := hide hL
    obtain ⟨b, off, adl, capl, rfl, c0, ho⟩ := HH.out j L hL
    have HO := hide ho
    obtain ⟨ln, hln⟩ : ∃ ln, Hid (L.length = ln) := ⟨_, hide rfl⟩
    rw [hln.out] at c0
    clear hL ho
    by_cases he : 30 < ln
    ·have HA2 : Hid (lngB cl = true) := hide (lngB_hit HL.out (by rw [hln.out]; exact he))
     have hi : 30 < (ln : Int) := by omega
     clear HA he
     go_wp2_with fail
     go_ret
     exact ⟨by rw [HA2.out]; rfl, rfl⟩
    ·have hi : ¬ 30 < (ln : Int) := by omega
     go_wp2_with fail
     go_loopw [4] (fun i wr => ∃ k : Nat, k <= ln /\ i = .int .i64 k /\ Hid (∀ (t : Nat) x, t < k -> L[t]? = some x -> x.kind.size <= 100) /\ w = wr) (fun i _ => ln - (intOf i).toNat)
     case atStart => exact ⟨0, Nat.zero_le _, rfl, hide (fun t x ht => absurd ht (Nat.not_lt_zero _)), (by first | rfl | trivial)⟩
     case round =>
      obtain ⟨k, hk, rfl, HB, rfl⟩ := hrel
      by_cases hkl : k < ln
      ·have kj : (k : Int) < ln := by omega
       obtain ⟨x, hx⟩ : ∃ x, L[k]? = some x := ⟨_, List.getElem?_eq_getElem (by rw [hln.out]; exact hkl)⟩
       have HX := hide hx
       obtain ⟨b2, off2, rfl, d0, -⟩ := HO.out k x hx
       obtain ⟨xk, xn⟩ := x
       dsimp only at d0
       clear hx
       by_cases hs : 100 < xk.size
       ·have HA2 : Hid (lngB cl = true) := hide (lngB_hit2 HL.out HX.out hs)
        have si : 100 < (xk.size : Int) := by omega
        go_wp2_with fail
        go_ret
        exact ⟨by rw [HA2.out]; rfl, rfl⟩
       ·have si : ¬ 100 < (xk.size : Int) := by omega
        have HB2 : Hid (∀ (t : Nat) x, t < k + 1 -> L[t]? = some x -> x.kind.size <= 100) := hide (fun t x ht hx => by
         by_cases e : t = k
         ·subst e
          rw [HX.out] at hx
          cases hx
          show xk.size <= 100
          omega
         ·exact HB.out t x (by omega) hx)
        clear HB
        go_wp2_with fail
        go_roundw
        case rel => exact ⟨k + 1, by omega, by go_num, HB2, (by first | rfl | trivial)⟩
        case measure => simp [intOf]; omega
      ·obtain rfl : k = ln := by omega
       have HA2 : Hid (okTo cl (j + 1)) := hide (fun t L' ht hL' => by
        by_cases e : t = j
        ·subst e
         rw [HL.out] at hL'
         cases hL'
         refine ⟨by rw [hln.out]; omega, fun x hx => ?_⟩
         obtain ⟨u, hu, rfl⟩ := List.getElem_of_mem hx
         exact HB.out u _ (by rw [<- hln.out]; exact hu) (List.getElem?_eq_getElem hu)
        ·exact HA.out t L' (by omega) hL')
       clear HB HA
       go_wp2_with fail
       go_roundw
       case rel => exact ⟨j + 1, by omega, by go_num, HA2, (by first | rfl | trivial)⟩
       case measure => simp [intOf]; omega
   ·obtain rfl : j = n := by omega
    have HF := hide (HZ.out HA.out)
    go_wp2_with fail
    go_ret
    exact ⟨by rw [HF.out]; rfl, rfl⟩
end
section
open Go.RowKit Go.Extern.Stop Go.Stop Go.Extern Go.Maps Go.WideMaps Go.Sort
theorem csafe_out {a : Nat -> Addr} {w : World} (hE : EnvL a w) (f : Int) {ad : Option Addr} {cl : List (List OpI)} {cap : Nat} (ho : opRowsAt ad cl w) (ac : Option Addr) (len sc : Nat) (h : lngB cl = true ∨ (lngB cl = false /\ (3000 < len ∨ (len <= 3000 /\ (f < 1 ∨ (1 <= f /\ 4 < f)))))) :
  Calls Tryz.prog 7 #[.int .i64 f, .slice ad cl.length cap, .slice ac len sc] w fun e w' => e = .returned (.bool true) /\ Below w.heap.size w w' := by
 have HBT := hide (built_any hE)
 have HLG := hide (fun W (hb : Below w.heap.size w W) => long_any (cap := cap) (ho.below hb))
 clear hE ho
 generalize cl.length = n at *
 rcases h with h | ⟨h, h2 | ⟨h2, h3 | ⟨h3, h4⟩⟩⟩
 all_goals
  rw [h] at HLG
  clear h
 ·go_enter Tryz.func7, Tryz.ntmps7
  go_wp2_with fail
  refine HBT.out.mono ?_
  rintro e w1 ⟨rfl, hb1⟩
  have HB1 := hide hb1
  clear hb1
  go_wp2_with fail
  refine (HLG.out _ HB1.out).mono ?_
  rintro e w2 ⟨rfl, e2⟩
  obtain rfl : w1 = w2 := e2.symm
  go_wp2_with fail
  go_ret
  exact ⟨rfl, HB1.out⟩
 ·have i1 : 3000 < (len : Int) := by omega
  clear h2
  go_enter Tryz.func7, Tryz.ntmps7
  go_wp2_with fail
  refine HBT.out.mono ?_
  rintro e w1 ⟨rfl, hb1⟩
  have HB1 := hide hb1
  clear hb1
  go_wp2_with fail
  refine (HLG.out _ HB1.out).mono ?_
  rintro e w2 ⟨rfl, e2⟩
  obtain rfl : w1 = w2 := e2.symm
  go_wp2_with fail
  go_ret
  exact ⟨rfl, HB1.out⟩
 ·have i1 : ¬ 3000 < (len : Int) := by omega
  clear h2
  go_enter Tryz.func7, Tryz.ntmps7
  go_wp2_with fail
  refine HBT.out.mono ?_
  rintro e w1 ⟨rfl, hb1⟩
  have HB1 := hide hb1
  clear hb1
  go_wp2_with fail
  refine (HLG.out _ HB1.out).mono ?_
  rintro e w2 ⟨rfl, e2⟩
  obtain rfl : w1 = w2 := e2.symm
  go_wp2_with fail
  go_ret
  exact ⟨rfl, HB1.out⟩
 ·have i1 : ¬ 3000 < (len : Int) := by omega
  have i2 : ¬ f < 1 := by omega
  clear h2 h3
  go_enter Tryz.func7, Tryz.ntmps7
  go_wp2_with fail
  refine HBT.out.mono ?_
  rintro e w1 ⟨rfl, hb1⟩
  have HB1 := hide hb1
  clear hb1
  go_wp2_with fail
  refine (HLG.out _ HB1.out).mono ?_
  rintro e w2 ⟨rfl, e2⟩
  obtain rfl : w1 = w2 := e2.symm
  go_wp2_with fail
  go_ret
  exact ⟨rfl, HB1.out⟩
theorem csafe_none {a : Nat -> Addr} {w : World} (hE : EnvL a w) {f : Int} (hf : 1 <= f /\ f <= 4) {ad : Option Addr} {cl : List (List OpI)} {cap : Nat} (ho : opRowsAt ad cl w) (ac : Option Addr) {len : Nat} (sc : Nat) (hlg : lngB cl = false) (hlen : len <= 3000) (h0 : (eachE cl).1 ≠ 0 ∨ (eachE cl).1 = 0 /\ eachS cl = false) :
  Calls Tryz.prog 7 #[.int .i64 f, .slice ad cl.length cap, .slice ac len sc] w fun e w' => e = .returned (.bool true) /\ Below w.heap.size w w' := by
 have HBT := hide (built_any hE)
 have HLG := hide (fun W (hb : Below w.heap.size w W) => long_any (cap := cap) (ho.below hb))
 rw [hlg] at HLG
 have HFT := hide (fun W (hb : Below w.heap.size w W) => clfault_any (cap := cap) (ho.below hb))
 have i1 : ¬ 3000 < (len : Int) := by omega
 have i2 : ¬ f < 1 := by omega
 have i3 : ¬ 4 < f := by omega
 clear hE ho hlg hlen hf
 generalize hX : (decide ((eachE cl).1 = 0) && eachS cl) = X at *
 have hXF : X = false := by
  rw [<- hX]
  rcases h0 with h | ⟨-, h⟩
  ·rw [decide_eq_false h]; rfl
  ·rw [h, Bool.and_false]
 subst hXF
 clear hX
 generalize eachE cl = F at *
 obtain ⟨f1, f2⟩ := F
 dsimp only at HFT h0
 generalize cl.length = n at *
 have hc : 0 < (f1 : Int) ∨ (f1 : Int) = 0 := by omega
 clear h0
 generalize (f1 : Int) = z at *
 rcases hc with hc | rfl
 ·go_enter Tryz.func7, Tryz.ntmps7
  go_wp2_with fail
  refine HBT.out.mono ?_
  rintro e w1 ⟨rfl, hb1⟩
  have HB1 := hide hb1
  clear hb1
  go_wp2_with fail
  refine (HLG.out _ HB1.out).mono ?_
  rintro e w2 ⟨rfl, e2⟩
  obtain rfl : w1 = w2 := e2.symm
  go_wp2_with fail
  refine (HFT.out _ HB1.out).mono ?_
  rintro e w3 ⟨rfl, hb3⟩
  have HB3 := hide ((below_step HB1.out hb3).alloc (below_step HB1.out hb3).size (.cells #[.int .i64 z, .int .i64 f2] 31))
  have y0 : (w3.alloc (.cells #[.int .i64 z, .int .i64 f2] 31)).cell? ⟨w3.heap.size, 0, none⟩ = some (.int .i64 z) := by simp
  clear hb3
  go_wp2_with fail
  go_ret
  exact ⟨rfl, HB3.out⟩
 ·go_enter Tryz.func7, Tryz.ntmps7
  go_wp2_with fail
  refine HBT.out.mono ?_
  rintro e w1 ⟨rfl, hb1⟩
  have HB1 := hide hb1
  clear hb1
  go_wp2_with fail
  refine (HLG.out _ HB1.out).mono ?_
  rintro e w2 ⟨rfl, e2⟩
  obtain rfl : w1 = w2 := e2.symm
  go_wp2_with fail
  refine (HFT.out _ HB1.out).mono ?_
  rintro e w3 ⟨rfl, hb3⟩
  have HB3 := hide ((below_step HB1.out hb3).alloc (below_step HB1.out hb3).size (.cells #[.int .i64 0, .int .i64 f2] 31))
  have y0 : (w3.alloc (.cells #[.int .i64 0, .int .i64 f2] 31)).cell? ⟨w3.heap.size, 0, none⟩ = some (.int .i64 0) := by simp
  clear hb3
  go_wp2_with fail
  go_ret
  exact ⟨rfl, HB3.out⟩
theorem csafe_in {a : Nat -> Addr} {w : World} (hE : EnvL a w) {f : Nat} (hf : 1 <= f /\ f <= 4) {ad : Option Addr} {cl : List (List OpI)} {cap : Nat} (ho : opRowsAt ad cl w) (hlg : lngB cl = false) (h0 : (eachE cl).1 = 0) (hS : eachS cl = true) {ac : Option Addr} {l : List Int} {sc : Nat} (hls : numsAt ac l w) (hlen : l.length <= 3000) (hcap : l.length <= sc) (hd : 0 < l.length -> ∀ b off, ac = some ⟨b, off, none⟩ -> b < w.heap.size) :
  Calls Tryz.prog 7 #[.int .i64 f, .slice ad cl.length cap, .slice ac l.length sc] w fun e w' => e = .returned (.bool true) /\ Below w.heap.size w w' := by
 obtain ⟨-, h6, h1, -⟩ := eachE_ok h0
 have HBT := hide (built_any hE)
 have HLG := hide (fun W (hb : Below w.heap.size w W) => long_any (cap := cap) (ho.below hb))
 rw [hlg] at HLG
 obtain ⟨h10, h30⟩ := lngB_what hlg
 have HOF := hide (fun W (hb : Below w.heap.size w W) => opsof_any (cap := cap) (ho.below hb) h10 h30)
 have HBU := hide (fun (ad' : Option Addr) (cap' : Nat) W (hb : Below w.heap.size w W) (h : opRowsAt ad' cl W) => clbuild_ok (cap := cap') hf (hE.below hb.block) h h0)
 have HFT := hide (fun W (hb : Below w.heap.size w W) => clfault_any (cap := cap) (ho.below hb))
 have HPU := hide (fun W (hb : Below w.heap.size w W) => puts_any (cap := cap) (ho.below hb) h10 h30)
 have HSF := hide (fun (ai ar ad : Option Addr) (ci cr cap : Nat) (w : World) (hs : StaAt (clSta f cl.length) ⟨ai, ci, ar, cr⟩ w) (hl : codesAt ad (cl.map (clC f)) w) => clStart_ok (cap := cap) hf h0 hs hl)
 have HNM := hide (fun (ai ar ad : Option Addr) (ci cr cap : Nat) (w0 w : World) (hb : Below w0.heap.size w0 w) (hs : StaAt (clSta f cl.length) ⟨ai, ci, ar, cr⟩ w) (hl : codesAt ad (cl.map (clC f)) w0) => clNewX (cap := cap) hf h0 hb hs hl)
 have HGD : Hid ((((clSta f cl.length).mach cl.length).runO (cl.map (clC f)) l).2.faults = 0 /\ ∀ x ∈ (((clSta f cl.length).mach cl.length).runO (cl.map (clC f)) l).2.marks, x.2 ∈ putsC cl) := hide (by
  have := cl_safe hf h0 hS l (by omega)
  exact ⟨this.faults, fun x hx => Vq_puts (this.marks x hx)⟩)
 have HPL : Hid ((putsC cl).length <= 1000) := hide (by
  have := putsC_len h30
  unfold putsC
  rw [List.length_cons]
  omega)
 have HIL : Hid ((graceI f (clCells.map pad4) cl.length).length <= 20) := hide (by rw [graceI_len, List.length_map]; show 2 + 1 + _ <= 20; omega)
 have HIR : Hid (∀ row ∈ graceI f (clCells.map pad4) cl.length, row.length <= 100) := hide fun row hr => by
  rw [graceI_rows (fun row hr => by obtain ⟨x, -, rfl⟩ := List.mem_map.1 hr; exact pad4_len x) row hr]; decide
 have HRR : Hid (∀ row ∈ rowsG 2 cl.length cl.length, row.length <= 100) := hide fun row hr => by
  rw [rowsG_rows row hr]; decide
 have HRL : Hid ((rowsG 2 cl.length cl.length).length <= 6) := hide (by rw [rowsG_len]; exact h6)
 have HMC : Hid ((cl.map (clC f)).length = cl.length) := hide (List.length_map _)
 have HST : Hid (clSta f cl.length = ⟨64, graceI f (clCells.map pad4) cl.length, rowsG 2 cl.length cl.length⟩) := hide rfl
 have HLS := hide hls
 have HD := hide hd
 have HH1 := hide h1
 have i1 : ¬ 3000 < (l.length : Int) := by omega
 have i2 : ¬ (f : Int) < 1 := by omega
 have i3 : ¬ 4 < (f : Int) := by omega
 rw [h0, hS] at HFT
 rw [show (decide (0 = 0) && true) = true from rfl, show ((0 : Nat) : Int) = 0 from rfl] at HFT
 clear hE ho h10 h30 hlg h0 hS hls hd h1
 generalize (eachE cl).2 = f2 at *
 generalize clSta f cl.length = S at *
 generalize graceI f (clCells.map pad4) cl.length = II at *
 generalize rowsG 2 cl.length cl.length = RR at *
 generalize cl.map (clC f) = CC at *
 generalize hfi : (f : Int) = fi at *
 clear hfi hf
 generalize hn : cl.length = n at *
 clear hn
 go_enter Tryz.func7, Tryz.ntmps7
 go_wp2_with fail
 refine HBT.out.mono ?_
 rintro e w1 ⟨rfl, hb1⟩
 have HB1 := hide hb1
 clear hb1 HBT
 go_wp2_with fail
 refine (HLG.out _ HB1.out).mono ?_
 rintro e w2 ⟨rfl, e2⟩
 obtain rfl : w1 = w2 := e2.symm
 go_wp2_with fail
 refine (HFT.out _ HB1.out).mono ?_
 rintro e w3 ⟨rfl, hb3⟩
 have HB3 := hide ((below_step HB1.out hb3).alloc (below_step HB1.out hb3).size (.cells #[.int .i64 0, .int .i64 f2] 31))
 have y0 : (w3.alloc (.cells #[.int .i64 0, .int .i64 f2] 31)).cell? ⟨w3.heap.size, 0, none⟩ = some (.int .i64 0) := by simp
 clear hb3 HFT HLG
 go_wp2_with fail
 clear y0
 generalize w3.alloc (.cells #[.int .i64 0, .int .i64 f2] 31) = w4 at *
 generalize w3.heap.size = bx at *
 refine (HOF.out _ HB3.out).mono ?_
 rintro e w5 ⟨ad5, cap5, rfl, ho5, hb5⟩
 have HB5 := hide (below_step HB3.out hb5)
 have HO5 := hide ho5
 clear ho5 hb5 HOF HB1 HB3
 go_wp2_with fail
 refine (HBU.out _ _ _ HB5.out HO5.out).mono ?_
 rintro e w6 ⟨base, sb, iv, vs, rv, rs, vc, ks, B, rfl, hT6, hK6, -, -, hb6⟩
 obtain ⟨ai, ci, ar, cr, eiv, erv, hsta⟩ := TW.sta hT6 rfl (by have := HIL.out; omega) (by have := HRL.out; omega) HIR.out HRR.out
 obtain ⟨ax, cx, evc, hcx⟩ := hK6.codes
 rw [HMC.out] at evc
 subst eiv
 subst erv
 subst evc
 rw [<- HST.out] at hsta
 have hal : Below w6.heap.size w6 (w6.alloc (.cells #[.int .i64 64, .slice ai II.length ci, .slice ar RR.length cr] 38)) := bRf.alloc nL _
 have HB6 := hide (below_step (below_step HB5.out hb6) hal)
 have HS6 := hide (hsta.below hal)
 have HC6 := hide (hcx.below hal)
 have z0 : (w6.alloc (.cells #[.int .i64 64, .slice ai II.length ci, .slice ar RR.length cr] 38)).cell? ⟨w6.heap.size, 0, none⟩ = some (.int .i64 64) := by simp
 have z1 : (w6.alloc (.cells #[.int .i64 64, .slice ai II.length ci, .slice ar RR.length cr] 38)).cell? ⟨w6.heap.size, 1, none⟩ = some (.slice ai II.length ci) := by simp
 have z2 : (w6.alloc (.cells #[.int .i64 64, .slice ai II.length ci, .slice ar RR.length cr] 38)).cell? ⟨w6.heap.size, 2, none⟩ = some (.slice ar RR.length cr) := by simp
 have HBK := hide (backStart_any 64 ai ar II.length ci RR.length cr)
 have hfl : ∀ w : World, (Instr.field 31 (.agg #[.int .i64 0, .int .i64 (-1)]) 0).run Tryz.prog w = .ok (.int .i64 0) w := fun _ => rfl
 clear hT6 hK6 hb6 HO5 hal hsta hcx HB5 HBU HIL HIR HRR HRL HST
 generalize II.length = iL at *
 generalize RR.length = rL at *
 go_wp2_with fail
 generalize w6.alloc (.cells #[.int .i64 64, .slice ai iL ci, .slice ar rL cr] 38) = w7 at *
 generalize w6.heap.size = bs at *
 refine (HBK.out _).mono ?_
 rintro e w8 ⟨rfl, hb8⟩
 have HB8 := hide (below_step HB6.out hb8)
 have HS8 := hide (HS6.out.below hb8)
 have HC8 := hide (HC6.out.below hb8)
 have HSF8 := hide (HSF.out _ _ _ _ _ cx _ HS8.out HC8.out)
 replace z0 := keep_cell hb8 z0
 replace z1 := keep_cell hb8 z1
 replace z2 := keep_cell hb8 z2
 clear hb8 HB6 HS6 HC6
 go_wp2_with fail
 refine HSF8.out.mono ?_
 rintro e w9 ⟨rfl, hb9⟩
 have HB9 := hide (below_step HB8.out hb9)
 have HS9 := hide (HS8.out.below hb9)
 have HC9 := hide (HC8.out.below hb9)
 replace z0 := keep_cell hb9 z0
 replace z1 := keep_cell hb9 z1
 replace z2 := keep_cell hb9 z2
 clear hb9 HB8 HS8 HC8 HSF8
 go_wp2_with fail
 refine (HBK.out _).mono ?_
 rintro e w10 ⟨rfl, hb10⟩
 have HB10 := hide (below_step HB9.out hb10)
 have HS10 := hide (HS9.out.below hb10)
 have HC10 := hide (HC9.out.below hb10)
 have HNM10 := hide (HNM.out _ _ _ _ _ cx _ _ (Below.refl w10.heap.size w10) HS10.out HC10.out)
 clear hb10 HB9 HS9 HC9 z0 z1 z2
 go_wp2_with fail
 refine HNM10.out.mono ?_
 rintro e w11 ⟨p, rfl, hk⟩
 have HB11 := hide (below_step HB10.out hk.out.2.1)
 generalize hM : S.mach n = M at *
 have HRUN := hide (rrun_any hk.out.1 (HLS.out.below HB11.out) (Nat.le_trans hlen (by decide)) hcap (Nat.le_trans (Nat.add_le_add_left hlen 1) (by decide)) (fun h0 b off e => by
  have h7 := HD.out h0 b off e
  have h8 := HB10.out.size
  have h9 := HB11.out.size
  refine ⟨by omega, fun hf => ?_⟩
  rw [HMC.out] at hf
  have := hk.out.2.2 b hf
  omega))
 have HFP := hide hk.out.2.2
 clear hk HNM10 HS10 HC10 HSF HNM HBK HLS HD
 go_wp2_with fail
 refine HRUN.out.mono ?_
 rintro e w12 ⟨rfl, r, v, hk, hx⟩
 have HB12 : Hid (Below w.heap.size w w12) := hide (HB11.out.trans (hk.turns.below HB11.out.size (fun b o hb hf => by
  rw [HMC.out] at hf
  have := HFP.out b hf
  have := HB10.out.size
  omega)))
 have HX := hide hx
 clear hk hx HRUN HFP HB10 HB11
 have HPU12 := hide (HPU.out _ HB12.out)
 go_wp2_with fail
 refine HPU12.out.mono ?_
 rintro e w13 ⟨vp, rfl, hp13, hb13⟩
 obtain ⟨ap, cp, rfl, -, hpn⟩ := numsOwn_at hp13
 have HB13 := hide (below_step HB12.out hb13)
 have HHA := hide (fun x => has2_any (cap := cp) hpn HPL.out x)
 have hX13 := HX.out.at'.below hb13
 have hma := hX13.mMarks
 have hfa := hX13.mFaults
 obtain ⟨am, cm, emv, -, -, hmc⟩ := ownsRow_shape hX13.own
 generalize hMM : (M.runO CC l).2.marks = MM at *
 have HMK : Hid (∀ (i : Nat) x, MM[i]? = some x -> ∃ g, am = some ⟨g, 0, none⟩ /\ w13.cell? ⟨g, i * 2 + 1, none⟩ = some (.int .i64 x.2)) := hide (fun i x hx => by
  obtain ⟨g, e, hc⟩ := hmc (i * 2 + 1) _ (rmarkCells_at hx).2
  exact ⟨g, e, hc⟩)
 have HML : Hid (MM.length <= 500) := hide (by rw [<- hMM]; exact HX.out.ok.marks)
 have hfz : w13.cell? ⟨p.k, 3, none⟩ = some (.int .i64 0) := by
  have := hfa
  rw [HGD.out.1] at this
  exact this
 have hmz : w13.cell? ⟨p.k, 2, none⟩ = some (.slice am MM.length cm) := by
  have := hma
  rw [emv] at this
  exact this
 have HIN : Hid (∀ x ∈ MM, x.2 ∈ putsC cl) := hide HGD.out.2
 have hml : MM.length <= 500 := HML.out
 clear hp13 hb13 hpn hX13 hma hfa emv hmc HX HPU12 HPU HGD HB12 hMM hM
 generalize hpl : (putsC cl).length = pL at *
 generalize hmm : MM.length = mL at *
 have HMM := hide hmm
 clear hmm hpl
 go_wp2_with fail
 go_loopw [15] (fun i wr => ∃ j : Nat, j <= mL /\ i = .int .i64 j /\ w13 = wr) (fun i _ => mL - (intOf i).toNat)
 case atStart => exact ⟨0, Nat.zero_le _, rfl, (by first | rfl | trivial)⟩
 case round =>
  obtain ⟨j, hj, rfl, rfl⟩ := hrel
  by_cases hlt : j < mL
  ·have ji : (j : Int) < mL := by omega
   obtain ⟨x, hx⟩ : ∃ x, MM[j]? = some x := ⟨_, List.getElem?_eq_getElem (by rw [HMM.out]; exact hlt)⟩
   obtain ⟨g, rfl, hc⟩ := HMK.out j x hx
   have HHX := hide (HHA.out x.2)
   rw [decide_eq_true (HIN.out x (List.mem_of_getElem? hx))] at HHX
   clear hx
   generalize x.2 = xv at *
   go_wp2_with fail
   refine HHX.out.mono ?_
   rintro e w14 ⟨rfl, e14⟩
   obtain rfl : w13 = w14 := e14.symm
   go_wp2_with fail
   go_roundw
   case rel => exact ⟨j + 1, by omega, by go_num, (by first | rfl | trivial)⟩
   case measure => simp [intOf]; omega
  ·obtain rfl : j = mL := by omega
   go_wp2_with fail
   go_ret
   exact ⟨rfl, HB13.out⟩
theorem csafe_any {a : Nat -> Addr} {w : World} (hE : EnvL a w) (f : Int) {ad : Option Addr} {cl : List (List OpI)} {cap : Nat} (ho : opRowsAt ad cl w) {ac : Option Addr} {l : List Int} {sc : Nat} (hls : numsAt ac l w) (hcap : l.length <= sc) :
  Calls Tryz.prog 7 #[.int .i64 f, .slice ad cl.length cap, .slice ac l.length sc] w fun e w' => e = .returned (.bool true) /\ Below w.heap.size w w' := by
 cases hlg : lngB cl
 ·by_cases hl : l.length <= 3000
  ·by_cases hf : 1 <= f /\ f <= 4
   ·by_cases h0 : (eachE cl).1 = 0
    ·cases hS : eachS cl
     ·exact csafe_none hE hf ho ac sc hlg hl (.inr ⟨h0, hS⟩)
     ·obtain ⟨g, rfl⟩ := Int.eq_ofNat_of_zero_le (show 0 <= f by omega)
      refine csafe_in hE (by omega) ho hlg h0 hS hls hl hcap (fun h1 b off e => ?_)
      obtain ⟨y, hy⟩ : ∃ y, l[0]? = some y := ⟨_, List.getElem?_eq_getElem h1⟩
      obtain ⟨b', off', e', hc⟩ := hls 0 y hy
      rw [e] at e'
      cases e'
      exact bLt hc
    ·exact csafe_none hE hf ho ac sc hlg hl (.inl h0)
   ·exact csafe_out hE f ho ac _ sc (.inr ⟨hlg, .inr ⟨hl, by omega⟩⟩)
  ·exact csafe_out hE f ho ac _ sc (.inr ⟨hlg, .inl (by omega)⟩)
 ·exact csafe_out hE f ho ac _ sc (.inl hlg)
end
end Go.Proofs.YtaiigfcfmcicjaaGreatDoor
