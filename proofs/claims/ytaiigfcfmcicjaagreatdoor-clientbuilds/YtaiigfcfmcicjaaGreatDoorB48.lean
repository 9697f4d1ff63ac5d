/- The law ClientBuilds answers true for every flavour and client that can be handed in; no condition beside the row's own. -/
import Derived.Test.YtaiigfcfmcicjaaGreatDoorB45
import Derived.Test.YtaiigfcfmcicjaaGreatDoorB47
import Derived.Deep.RegionHeld3
import Derived.Test.YtaiigfcfmcicjaaGreatDoorB02
import Derived.Test.YtaiigfcfmcicjaaGreatDoorB39
import Derived.Test.YtaiigfcfmcicjaaGreatDoorB42
import Derived.Test.YtaiigfcfmcicjaaGreatDoorB43
import Derived.Test.YtaiigfcfmcicjaaGreatDoorCards
import Derived.Carry
import Derived.Test.YtaiigfcfmcicjaaGreatDoorB01
import Derived.Test.YtaiigfcfmcicjaaGreatDoorB15
import Derived.Deep.Slices
import Derived.Lib.SmallJoins

/- ClW -/
namespace Go.Proofs.YtaiigfcfmcicjaaGreatDoor
open Go.RowKit Go.Extern.Stop Go.Stop Go.Extern Go.Maps Go.WideMaps Go.Sort

def clSta (f n : Nat) : Sta := ⟨64, graceI f (clCells.map pad4) n, rowsG 2 n n⟩
theorem cl_fits {f n : Nat} (h1 : 1 ≤ n) (h6 : n ≤ 6) (hf : 1 ≤ f ∧ f ≤ 4) : (clSta f n).fits n = true := by
  have key : ∀ (f : Fin 5) (n : Fin 7), 1 ≤ f.val → 1 ≤ n.val → (clSta f.val n.val).fits n.val = true := by decide +kernel
  exact key ⟨f, by omega⟩ ⟨n, by omega⟩ hf.1 h1
theorem clFault_none {f : Nat} (hf : 1 ≤ f ∧ f ≤ 4) {cl : List (List OpI)} (h : (eachE cl).1 = 0) : (clSta f cl.length).fault (cl.map (clC f)) = (0, -1) := by
  obtain ⟨-, h6, h1, -⟩ := eachE_ok h
  unfold Sta.fault
  rw [List.length_map, if_pos ⟨(by show (1 : Int) ≤ 64; decide), (by show (64 : Int) ≤ 64; decide), h1, h6, cl_fits h1 h6 hf⟩]
  refine codesFrom_none _ 0 fun t L ht => ?_
  rw [List.getElem?_map] at ht
  cases hc : cl[t]? with
  | none => rw [hc] at ht; cases ht
  | some c =>
    rw [hc] at ht
    cases ht
    obtain ⟨k1, k2⟩ := eachE_sh h c (List.mem_of_getElem? hc)
    rw [clC_good hf k1 k2]
theorem clStart_ok {f : Nat} (hf : 1 ≤ f ∧ f ≤ 4) {cl : List (List OpI)} (h : (eachE cl).1 = 0) {ai ar ad : Option Addr} {ci cr cap : Nat} {w : World} (hs : StaAt (clSta f cl.length) ⟨ai, ci, ar, cr⟩ w) (hl : codesAt ad (cl.map (clC f)) w) :
    Calls Tryz.prog 18 #[.agg #[.int .i64 64, .slice ai (graceI f (clCells.map pad4) cl.length).length ci, .slice ar (rowsG 2 cl.length cl.length).length cr], .slice ad cl.length cap] w fun e w' => e = .returned (.agg #[.int .i64 0, .int .i64 (-1)]) ∧ Below w.heap.size w w' := by
  have h6 := (eachE_ok h).2.1
  have h' := startFault_any (cap := cap) hs hl (by rw [List.length_map]; omega)
  rw [clFault_none hf h, List.length_map] at h'
  exact h'
theorem clNew {f : Nat} (hf : 1 ≤ f ∧ f ≤ 4) {cl : List (List OpI)} (h : (eachE cl).1 = 0) {ai ar ad : Option Addr} {ci cr cap : Nat} {w0 w : World} (h0 : Below w0.heap.size w0 w) (hs : StaAt (clSta f cl.length) ⟨ai, ci, ar, cr⟩ w) (hl : codesAt ad (cl.map (clC f)) w0) :
    Calls Tryz.prog 20 #[.agg #[.int .i64 64, .slice ai (graceI f (clCells.map pad4) cl.length).length ci, .slice ar (rowsG 2 cl.length cl.length).length cr], .slice ad cl.length cap] w fun e w' => ∃ p : RkPl, e = .returned (.pointer (some ⟨p.k, 0, none⟩)) ∧ Hid (RkAt (cl.map (clC f)) p ((clSta f cl.length).mach cl.length) w' ∧ Below w.heap.size w w') := by
  obtain ⟨-, h6, h1, -⟩ := eachE_ok h
  have hl' : (cl.map (clC f)).length = cl.length := List.length_map _
  have h' := newMachine_any (cap := cap) h0 hs hl (show (1 : Int) ≤ 64 by decide) (show (64 : Int) ≤ 64 by decide) (by rw [hl']; exact h1) (by rw [hl']; exact h6) (by rw [hl']; exact cl_fits h1 h6 hf)
  rw [hl'] at h'
  refine h'.mono ?_
  rintro e w' ⟨p, he, hh⟩
  obtain ⟨g1, -, g3, -⟩ := hh.out
  exact ⟨p, he, hide ⟨g1, g3⟩⟩
set_option maxRecDepth 20000 in
theorem backStart_any (c : Int) (ai ar : Option Addr) (ni ci nr cr : Nat) (w : World) :
    Calls Tryz.prog 19 #[.agg #[.int .i64 c, .slice ai ni ci, .slice ar nr cr]] w fun e w' => e = .returned (.agg #[.int .i64 c, .slice ai ni ci, .slice ar nr cr]) ∧ Below w.heap.size w w' := by
  go_enter Tryz.func19, Tryz.ntmps19
  go_wp2_with fail
  refine bodyPost_ret (v := .agg #[.int .i64 c, .slice ai ni ci, .slice ar nr cr]) (by simp only [results, Tryz.results19]; go_simp) rfl ?_
  exact ⟨rfl, ((Below.refl _ _).alloc (Nat.le_refl _) _).alloc (by simp) _⟩
end Go.Proofs.YtaiigfcfmcicjaaGreatDoor

/- ClZ -/
namespace Go.Proofs.YtaiigfcfmcicjaaGreatDoor
open Go.RowKit Go.Extern.Stop Go.Stop Go.Extern Go.Maps Go.WideMaps Go.Sort

theorem clMach_is {f n : Nat} (h1 : 1 ≤ n) (h6 : n ≤ 6) (hf : 1 ≤ f ∧ f ≤ 4) : (((clSta f n).mach n).mem.ar.size = 64 ∧ ((clSta f n).mach n).mem.ar.at 1 0 0 = 0 ∧ ((clSta f n).mach n).mem.ar.at 0 0 0 = 0 ∧ ((clSta f n).mach n).mem.ar.words 1 0 = 1 ∧ ((clSta f n).mach n).mem.ar.words 0 0 = 1) ∧ ∀ t, t < n → ((clSta f n).mach n).regs t 5 = 2 := by
  have key : ∀ (f : Fin 5) (n : Fin 7), 1 ≤ f.val → 1 ≤ n.val → (((clSta f.val n.val).mach n.val).mem.ar.size = 64 ∧ ((clSta f.val n.val).mach n.val).mem.ar.at 1 0 0 = 0 ∧ ((clSta f.val n.val).mach n.val).mem.ar.at 0 0 0 = 0 ∧ ((clSta f.val n.val).mach n.val).mem.ar.words 1 0 = 1 ∧ ((clSta f.val n.val).mach n.val).mem.ar.words 0 0 = 1) ∧ ∀ t : Fin 6, t.val < n.val → ((clSta f.val n.val).mach n.val).regs t.val 5 = 2 := by decide +kernel
  obtain ⟨k1, k2⟩ := key ⟨f, by omega⟩ ⟨n, by omega⟩ hf.1 h1
  exact ⟨k1, fun t ht => k2 ⟨t, by omega⟩ ht⟩
theorem refOf_two (w : World) : Calls Tryz.prog 21 #[.int .i64 2] w fun e w' => e = .returned (.tuple #[.agg #[.int .i64 1, .int .i64 0], .int .i64 0]) ∧ Below w.heap.size w w' := refOf_ok 2 w (by decide) (by decide)
theorem refOf_one (w : World) : Calls Tryz.prog 21 #[.int .i64 1] w fun e w' => e = .returned (.tuple #[.agg #[.int .i64 0, .int .i64 0], .int .i64 0]) ∧ Below w.heap.size w w' := refOf_ok 1 w (by decide) (by decide)

set_option maxRecDepth 20000 in
set_option maxHeartbeats 4000000 in
theorem clbuilds_ok {a : Nat → Addr} {w : World} (hE : Env a w) {f : Nat} (hf : 1 ≤ f ∧ f ≤ 4) {ad : Option Addr} {cl : List (List OpI)} {cap : Nat} (ho : opRowsAt ad cl w) (hlg : lngB cl = false) (h0 : (eachE cl).1 = 0) :
    Calls Tryz.prog 4 #[.int .i64 f, .slice ad cl.length cap] w fun e w' => e = .returned (.bool true) ∧ Below w.heap.size w w' := by
  obtain ⟨-, h6, h1, -⟩ := eachE_ok h0
  have HBT := hide (built_any hE)
  have HLG := hide (fun W (hb : Below w.heap.size w W) => long_any (cap := cap) (ho.below hb))
  rw [hlg] at HLG
  obtain ⟨h10, h30⟩ := lngB_what hlg
  have HOF := hide (fun W (hb : Below w.heap.size w W) => opsof_any (cap := cap) (ho.below hb) h10 h30)
  have HBU := hide (fun (ad' : Option Addr) (cap' : Nat) W (hb : Below w.heap.size w W) (h : opRowsAt ad' cl W) => clbuild_ok (cap := cap') hf (hE.below hb.block) h h0)
  have HFT := hide (fun W (hb : Below w.heap.size w W) => clfault_any (cap := cap) (ho.below hb))
  have HFL := hide (fun W => flavour_is f W)
  rw [decide_eq_true (show 1 ≤ (f : Int) ∧ (f : Int) ≤ 4 by omega)] at HFL
  have HSF := hide (fun (ai ar ad : Option Addr) (ci cr cap : Nat) (w : World) (hs : StaAt (clSta f cl.length) ⟨ai, ci, ar, cr⟩ w) (hl : codesAt ad (cl.map (clC f)) w) => clStart_ok (cap := cap) hf h0 hs hl)
  have HNM := hide (fun (ai ar ad : Option Addr) (ci cr cap : Nat) (w0 w : World) (hb : Below w0.heap.size w0 w) (hs : StaAt (clSta f cl.length) ⟨ai, ci, ar, cr⟩ w) (hl : codesAt ad (cl.map (clC f)) w0) => clNew (cap := cap) hf h0 hb hs hl)
  have HMI := hide (clMach_is h1 h6 hf)
  have HIL : Hid ((graceI f (clCells.map pad4) cl.length).length ≤ 20) := hide (by rw [graceI_len, List.length_map]; show 2 + 1 + _ ≤ 20; omega)
  have HIR : Hid (∀ row ∈ graceI f (clCells.map pad4) cl.length, row.length ≤ 100) := hide fun row hr => by
    rw [graceI_rows (fun row hr => by obtain ⟨x, -, rfl⟩ := List.mem_map.1 hr; exact pad4_len x) row hr]; decide
  have HRR : Hid (∀ row ∈ rowsG 2 cl.length cl.length, row.length ≤ 100) := hide fun row hr => by
    rw [rowsG_rows row hr]; decide
  have HRL : Hid ((rowsG 2 cl.length cl.length).length ≤ 6) := hide (by rw [rowsG_len]; exact h6)
  have HMC : Hid ((cl.map (clC f)).length = cl.length) := hide (List.length_map _)
  have HST : Hid (clSta f cl.length = ⟨64, graceI f (clCells.map pad4) cl.length, rowsG 2 cl.length cl.length⟩) := hide rfl
  clear hE ho h10 h30 hlg
  generalize (decide ((eachE cl).1 = 0) && eachS cl) = X at *
  generalize eachE cl = F at *
  obtain ⟨f1, f2⟩ := F
  dsimp only at HFT h0
  subst h0
  rw [show ((0 : Nat) : Int) = 0 from rfl] at HFT
  generalize clSta f cl.length = S at *
  generalize graceI f (clCells.map pad4) cl.length = II at *
  generalize rowsG 2 cl.length cl.length = RR at *
  generalize cl.map (clC f) = CC at *
  generalize hfi : (f : Int) = fi at *
  clear hfi hf
  generalize hn : cl.length = n at *
  clear hn
  go_enter Tryz.func4, Tryz.ntmps4
  go_wp2_with fail
  refine HBT.out.mono ?_
  rintro e w1 ⟨rfl, hb1⟩
  have HB1 := hide hb1
  clear hb1 HBT
  go_wp2_with fail
  refine (HLG.out _ HB1.out).mono ?_
  rintro e w2 ⟨rfl, e2⟩
  obtain rfl : w1 = w2 := e2.symm
  go_wp2_with fail
  refine (HOF.out _ HB1.out).mono ?_
  rintro e w3 ⟨ad3, cap3, rfl, ho3, hb3⟩
  have HB3 := hide (below_step HB1.out hb3)
  have HO3 := hide ho3
  clear ho3 hb3
  go_wp2_with fail
  refine (HBU.out _ _ _ HB3.out HO3.out).mono ?_
  rintro e w4 ⟨base, sb, iv, vs, rv, rs, vc, ks, B, rfl, hT4, hK4, -, -, hb4⟩
  obtain ⟨ai, ci, ar, cr, eiv, erv, hsta⟩ := TW.sta hT4 rfl (by have := HIL.out; omega) (by have := HRL.out; omega) HIR.out HRR.out
  obtain ⟨ax, cx, evc, hcx⟩ := hK4.codes
  rw [HMC.out] at evc
  subst eiv
  subst erv
  subst evc
  rw [← HST.out] at hsta
  have hal : Below w4.heap.size w4 (w4.alloc (.cells #[.int .i64 64, .slice ai II.length ci, .slice ar RR.length cr] 38)) := (Below.refl _ _).alloc (Nat.le_refl _) _
  have HB4 := hide (below_step (below_step HB3.out hb4) hal)
  have HS4 := hide (hsta.below hal)
  have HC4 := hide (hcx.below hal)
  have z0 : (w4.alloc (.cells #[.int .i64 64, .slice ai II.length ci, .slice ar RR.length cr] 38)).cell? ⟨w4.heap.size, 0, none⟩ = some (.int .i64 64) := by simp
  have z1 : (w4.alloc (.cells #[.int .i64 64, .slice ai II.length ci, .slice ar RR.length cr] 38)).cell? ⟨w4.heap.size, 1, none⟩ = some (.slice ai II.length ci) := by simp
  have z2 : (w4.alloc (.cells #[.int .i64 64, .slice ai II.length ci, .slice ar RR.length cr] 38)).cell? ⟨w4.heap.size, 2, none⟩ = some (.slice ar RR.length cr) := by simp
  have HFT4 := hide (HFT.out _ HB4.out)
  clear hT4 hK4 hb4 HO3 hal hsta hcx
  go_wp2_with fail
  refine HFT4.out.mono ?_
  rintro e w5 ⟨rfl, hb5⟩
  have hal : Below w5.heap.size w5 (w5.alloc (.cells #[.int .i64 0, .int .i64 f2] 31)) := (Below.refl _ _).alloc (Nat.le_refl _) _
  have HB5 := hide (below_step (below_step HB4.out hb5) hal)
  have HS5 := hide ((HS4.out.below hb5).below hal)
  have HC5 := hide ((HC4.out.below hb5).below hal)
  replace z0 := keep_cell hal (keep_cell hb5 z0)
  replace z1 := keep_cell hal (keep_cell hb5 z1)
  replace z2 := keep_cell hal (keep_cell hb5 z2)
  have y0 : (w5.alloc (.cells #[.int .i64 0, .int .i64 f2] 31)).cell? ⟨w5.heap.size, 0, none⟩ = some (.int .i64 0) := by simp
  clear hb5 HB4 HS4 HC4 hal HFT4
  go_wp2_with fail
  generalize w5.alloc (.cells #[.int .i64 0, .int .i64 f2] 31) = W6 at *
  generalize w5.heap.size = bx at *
  generalize w4.heap.size = bs at *
  refine (HFL.out _).mono ?_
  rintro e w7 ⟨rfl, e7⟩
  obtain rfl : W6 = w7 := e7.symm
  have i20 : ¬ (20 : Int) < (II.length : Int) := by have := HIL.out; omega
  have HBK := hide (backStart_any 64 ai ar II.length ci RR.length cr)
  have hfl : ∀ w : World, (Instr.field 31 (.agg #[.int .i64 0, .int .i64 (-1)]) 0).run Tryz.prog w = .ok (.int .i64 0) w := fun _ => rfl
  generalize II.length = iL at *
  generalize RR.length = rL at *
  go_wp2_with fail
  refine (HBK.out _).mono ?_
  rintro e w7 ⟨rfl, hb7⟩
  have HB7 := hide (below_step HB5.out hb7)
  have HS7 := hide (HS5.out.below hb7)
  have HC7 := hide (HC5.out.below hb7)
  have HSF7 := hide (HSF.out _ _ _ _ _ cx _ HS7.out HC7.out)
  replace z0 := keep_cell hb7 z0
  replace z1 := keep_cell hb7 z1
  replace z2 := keep_cell hb7 z2
  clear hb7 HB5 HS5 HC5 y0
  go_wp2_with fail
  refine HSF7.out.mono ?_
  rintro e w8 ⟨rfl, hb8⟩
  have HB8 := hide (below_step HB7.out hb8)
  have HS8 := hide (HS7.out.below hb8)
  have HC8 := hide (HC7.out.below hb8)
  replace z0 := keep_cell hb8 z0
  replace z1 := keep_cell hb8 z1
  replace z2 := keep_cell hb8 z2
  clear hb8 HB7 HS7 HC7 HSF7
  go_wp2_with fail
  refine (HBK.out _).mono ?_
  rintro e w9 ⟨rfl, hb9⟩
  have HB9 := hide (below_step HB8.out hb9)
  have HS9 := hide (HS8.out.below hb9)
  have HC9 := hide (HC8.out.below hb9)
  have HNM9 := hide (HNM.out _ _ _ _ _ cx _ _ (Below.refl w9.heap.size w9) HS9.out HC9.out)
  clear hb9 HB8 HS8 HC8 z0 z1 z2
  go_wp2_with fail
  refine HNM9.out.mono ?_
  rintro e w10 ⟨p, rfl, hk⟩
  have HR := hide hk.out.1
  have HB10 := hide (below_step HB9.out hk.out.2)
  clear hk HNM9 HB9 HS9 HC9 HSF HNM HBK HFL HFT HBU HOF HLG
  generalize hM : S.mach n = M at *
  have HCE : Hid (∀ W, Below w10.heap.size w10 W → ∀ t, t < n → (W.cell? ⟨p.k, 0, none⟩ = some (.pointer (some ⟨p.rp.mb, 0, none⟩)) ∧ W.cell? ⟨p.k, 1, none⟩ = some (.slice (some ⟨p.tb, 0, none⟩) n p.tcap) ∧ W.cell? ⟨p.tb, t * 3 + 1, none⟩ = some (.slice (some ⟨p.rb t, 0, none⟩) 8 (p.rcap t)) ∧ W.cell? ⟨p.rb t, 5, none⟩ = some (.int .i64 2)) ∧ W.cell? ⟨p.rp.mb, 0, none⟩ = some (.slice (some ⟨p.rp.cb, 0, none⟩) 64 p.rp.ccap) ∧ W.cell? ⟨p.rp.cb, 3, none⟩ = some (.slice (some ⟨p.rp.wb 1, 0, none⟩) 4 (p.rp.wcap 1)) ∧ W.cell? ⟨p.rp.cb, 0, none⟩ = some (.slice (some ⟨p.rp.wb 0, 0, none⟩) 4 (p.rp.wcap 0)) ∧ W.cell? ⟨p.rp.wb 1, 0, none⟩ = some (.int .i64 1) ∧ W.cell? ⟨p.rp.wb 0, 0, none⟩ = some (.int .i64 1)) := hide (fun W hb t ht => by
    have hR := HR.out.below hb
    obtain ⟨⟨m1, m2, m3, m4, m5⟩, m6⟩ := HMI.out
    have g1 := hR.mT
    have g2 := hR.tRegs t (by rw [HMC.out]; exact ht)
    have g3 := hR.regs t 5 (by rw [HMC.out]; exact ht) (by decide)
    rw [HMC.out] at g1
    rw [m6 t ht] at g3
    have c1 := hR.mem.mCells
    have c2 := hR.mem.cWords 1 (by rw [m1]; decide)
    have c3 := hR.mem.cWords 0 (by rw [m1]; decide)
    have c4 := hR.mem.words 1 0 (by rw [m1]; decide) (by decide)
    have c5 := hR.mem.words 0 0 (by rw [m1]; decide) (by decide)
    rw [m1] at c1
    rw [m4] at c4
    rw [m5] at c5
    exact ⟨⟨hR.mM, g1, g2, g3⟩, c1, c2, c3, c4, c5⟩)
  have HA1 : Hid (∀ W, Below w10.heap.size w10 W → Calls Tryz.prog 22 #[.pointer (some ⟨p.rp.mb, 0, none⟩), .agg #[.int .i64 1, .int .i64 0], .int .i64 0] W fun e w' => e = .returned (.int .i64 0) ∧ Below W.heap.size W w') := hide (fun W hb => by
    have h := at_any p.rp M.mem 1 0 0 W (HR.out.below hb).mem
    rw [HMI.out.1.2.1] at h
    exact h)
  have HA0 : Hid (∀ W, Below w10.heap.size w10 W → Calls Tryz.prog 22 #[.pointer (some ⟨p.rp.mb, 0, none⟩), .agg #[.int .i64 0, .int .i64 0], .int .i64 0] W fun e w' => e = .returned (.int .i64 0) ∧ Below W.heap.size W w') := hide (fun W hb => by
    have h := at_any p.rp M.mem 0 0 0 W (HR.out.below hb).mem
    rw [HMI.out.1.2.2.1] at h
    exact h)
  have H0 : Hid (Below w10.heap.size w10 w10) := hide (Below.refl _ _)
  clear HR HMI HST HIR HRR
  go_wp2_with fail
  go_loopw [12, 14] (fun i _ wr => ∃ t : Nat, t ≤ n ∧ i = .int .i64 t ∧ Hid (Below w10.heap.size w10 wr)) (fun i _ _ => n - (intOf i).toNat)
  case atStart => exact ⟨0, Nat.zero_le _, rfl, H0⟩
  case round =>
    clear H0
    obtain ⟨t, ht, rfl, HB⟩ := hrel
    by_cases hlt : t < n
    · have ti : (t : Int) < n := by omega
      obtain ⟨⟨c0, c1, c2, c3⟩, c4, c5, c6, c7, c8⟩ := HCE.out _ HB.out t hlt
      have HTL := hide hlt
      go_wp2_with fail
      refine (refOf_two _).mono ?_
      rintro e w11 ⟨rfl, hb11⟩
      have HB12 := hide (below_step (below_step HB.out hb11) ((Below.refl w11.heap.size w11).alloc (Nat.le_refl _) (.cells #[.int .i64 1, .int .i64 0] 50)))
      have d0 : (w11.alloc (.cells #[.int .i64 1, .int .i64 0] 50)).cell? ⟨w11.heap.size, 0, none⟩ = some (.int .i64 1) := by simp
      have d1 : (w11.alloc (.cells #[.int .i64 1, .int .i64 0] 50)).cell? ⟨w11.heap.size, 1, none⟩ = some (.int .i64 0) := by simp
      clear hb11 c0 c1 c2 c3 c4 c5 c6 c7 c8
      obtain ⟨⟨c0, -, -, -⟩, -⟩ := HCE.out _ HB12.out t hlt
      go_wp2_with fail
      generalize w11.alloc (.cells #[.int .i64 1, .int .i64 0] 50) = W12 at *
      generalize w11.heap.size = bp at *
      have HD12 := hide (below_step HB12.out (Below.drewN' 1))
      clear hlt
      go_region_held3 (fun w' => w'.cell? ⟨p.k, 0, none⟩ = some (.pointer (some ⟨p.rp.mb, 0, none⟩)) ∧ w'.cell? ⟨bp, 0, none⟩ = some (.int .i64 1) ∧ w'.cell? ⟨bp, 1, none⟩ = some (.int .i64 0))
        (first
          | go_keep
          | (go_split_ands
             refine ⟨?_, ?_, ?_⟩
             · (refine keep_cell hbk ?_; assumption)
             · (refine keep_cell hbk ?_; assumption)
             · (refine keep_cell hbk ?_; assumption)))
        ((go_at_call 22; refine (HA1.out _ HD12.out).mono ?_; rintro e13 w13 ⟨rfl, hbk⟩; have HB13 := hide (below_step HD12.out hbk)))
      obtain ⟨-, e0, -⟩ := ‹_ ∧ _ ∧ _›
      clear hbk c0 HD12 d0 d1 HB12 HB
      obtain ⟨⟨c0, -, -, -⟩, c4, c5, -, c7, -⟩ := HCE.out _ HB13.out t HTL.out
      go_wp2_with fail
      have HD13 := hide (below_step HB13.out (Below.drewN' (w := w13) 1))
      have n0 := World.new_ne w13 _ c0
      have n1 := World.new_ne w13 _ c4
      have n2 := World.new_ne w13 _ e0
      have n3 := World.new_ne w13 _ c5
      have n4 := World.new_ne w13 _ c7
      go_region_held3 (fun w' => w'.cell? ⟨p.k, 0, none⟩ = some (.pointer (some ⟨p.rp.mb, 0, none⟩)) ∧ w'.cell? ⟨p.rp.mb, 0, none⟩ = some (.slice (some ⟨p.rp.cb, 0, none⟩) 64 p.rp.ccap) ∧ w'.cell? ⟨bp, 0, none⟩ = some (.int .i64 1) ∧ w'.cell? ⟨p.rp.cb, 3, none⟩ = some (.slice (some ⟨p.rp.wb 1, 0, none⟩) 4 (p.rp.wcap 1)) ∧ w'.cell? ⟨p.rp.wb 1, 0, none⟩ = some (.int .i64 1))
        (first
          | go_keep
          | (go_split_ands
             refine ⟨?_, ?_, ?_, ?_, ?_⟩
             · (refine keep_cell hbk ?_; assumption)
             · (refine keep_cell hbk ?_; assumption)
             · (refine keep_cell hbk ?_; assumption)
             · (refine keep_cell hbk ?_; assumption)
             · (refine keep_cell hbk ?_; assumption)))
        ((go_at_call 21; refine (refOf_one _).mono ?_; rintro e14 w14 ⟨rfl, hbk⟩; first
          | (have s0 := keep_cell hbk (show (w13.alloc (.cells #[.int .i64 0, .int .i64 0] 50)).drew.cell? ⟨w13.heap.size, 0, none⟩ = some (.int .i64 0) from (by simp)); have s1 := keep_cell hbk (show (w13.alloc (.cells #[.int .i64 0, .int .i64 0] 50)).drew.cell? ⟨w13.heap.size, 1, none⟩ = some (.int .i64 0) from (by simp)); have f0 := (hbk.frozen (show (⟨w13.heap.size, 0, none⟩ : Addr).block < _ from (by simp))).trans (show (w13.alloc (.cells #[.int .i64 0, .int .i64 0] 50)).drew.frozen? ⟨w13.heap.size, 0, none⟩ = false from (by simp)); have f1 := (hbk.frozen (show (⟨w13.heap.size, 1, none⟩ : Addr).block < _ from (by simp))).trans (show (w13.alloc (.cells #[.int .i64 0, .int .i64 0] 50)).drew.frozen? ⟨w13.heap.size, 1, none⟩ = false from (by simp)))
          | skip))
      · have HB14 := below_step HD13.out hbk
        have HB15 : Hid (Below w10.heap.size w10 (w14.alloc (.cells #[.int .i64 0, .int .i64 0] 50))) := hide (HB14.alloc HB14.size _)
        have d0 : (w14.alloc (.cells #[.int .i64 0, .int .i64 0] 50)).cell? ⟨w14.heap.size, 0, none⟩ = some (.int .i64 0) := by simp
        have d1 : (w14.alloc (.cells #[.int .i64 0, .int .i64 0] 50)).cell? ⟨w14.heap.size, 1, none⟩ = some (.int .i64 0) := by simp
        clear hbk HD13 n0 n1 n2 n3 n4 c0 c4 c5 c7 e0 HB14
        generalize w14.alloc (.cells #[.int .i64 0, .int .i64 0] 50) = W15 at *
        generalize w14.heap.size = bd at *
        obtain ⟨⟨c0, -, -, -⟩, c4, -, c6, -, c8⟩ := HCE.out _ HB15.out t HTL.out
        go_wp2_with fail
        have HD15 := hide (below_step HB15.out (Below.drewN' 1))
        go_region_held3 (fun w' => w'.cell? ⟨p.k, 0, none⟩ = some (.pointer (some ⟨p.rp.mb, 0, none⟩)) ∧ w'.cell? ⟨p.rp.mb, 0, none⟩ = some (.slice (some ⟨p.rp.cb, 0, none⟩) 64 p.rp.ccap) ∧ w'.cell? ⟨bd, 0, none⟩ = some (.int .i64 0) ∧ w'.cell? ⟨bd, 1, none⟩ = some (.int .i64 0) ∧ w'.cell? ⟨p.rp.cb, 0, none⟩ = some (.slice (some ⟨p.rp.wb 0, 0, none⟩) 4 (p.rp.wcap 0)) ∧ w'.cell? ⟨p.rp.wb 0, 0, none⟩ = some (.int .i64 1))
          (first
            | go_keep
            | (go_split_ands
               refine ⟨?_, ?_, ?_, ?_, ?_, ?_⟩
               · (refine keep_cell hbk ?_; assumption)
               · (refine keep_cell hbk ?_; assumption)
               · (refine keep_cell hbk ?_; assumption)
               · (refine keep_cell hbk ?_; assumption)
               · (refine keep_cell hbk ?_; assumption)
               · (refine keep_cell hbk ?_; assumption)))
          ((go_at_call 22; refine (HA0.out _ HD15.out).mono ?_; rintro e16 w16 ⟨rfl, hbk⟩; have HB16 := hide (below_step HD15.out hbk)))
        clear hbk HD15 HB15 c0 c4 c6 c8 d0 d1
        have HTT := HTL.out
        go_wp2_with fail
        go_roundw
        case rel => exact ⟨t + 1, by omega, by go_num, HB16⟩
        case measure => simp [intOf]; omega
      · have HB14 := below_step (below_step (below_step HB13.out ((Below.refl w13.heap.size w13).alloc (Nat.le_refl _) (.cells #[.int .i64 0, .int .i64 0] 50))) (Below.drewN' 1)) hbk
        have hz := HB13.out.size
        have HB15 : Hid (Below w10.heap.size w10 ((w14.setCell ⟨w13.heap.size, 0, none⟩ (.int .i64 0)).setCell ⟨w13.heap.size, 1, none⟩ (.int .i64 0))) := hide ((HB14.setCell hz _).setCell hz _)
        have d0 : ((w14.setCell ⟨w13.heap.size, 0, none⟩ (.int .i64 0)).setCell ⟨w13.heap.size, 1, none⟩ (.int .i64 0)).cell? ⟨w13.heap.size, 0, none⟩ = some (.int .i64 0) := cell_ne (World.cell?_setCell_same _ _ _ s0) (.inr (by decide))
        have d1 : ((w14.setCell ⟨w13.heap.size, 0, none⟩ (.int .i64 0)).setCell ⟨w13.heap.size, 1, none⟩ (.int .i64 0)).cell? ⟨w13.heap.size, 1, none⟩ = some (.int .i64 0) := World.cell?_setCell_same _ _ _ (cell_ne s1 (.inr (by decide)))
        clear hbk HD13 n0 n1 n2 n3 n4 c0 c4 c5 c7 e0 HB14 s0 s1 f0 f1 hz
        generalize (w14.setCell ⟨w13.heap.size, 0, none⟩ (.int .i64 0)).setCell ⟨w13.heap.size, 1, none⟩ (.int .i64 0) = W15 at *
        generalize w13.heap.size = bd at *
        obtain ⟨⟨c0, -, -, -⟩, c4, -, c6, -, c8⟩ := HCE.out _ HB15.out t HTL.out
        go_wp2_with fail
        have HD15 := hide (below_step HB15.out (Below.drewN' 1))
        go_region_held3 (fun w' => w'.cell? ⟨p.k, 0, none⟩ = some (.pointer (some ⟨p.rp.mb, 0, none⟩)) ∧ w'.cell? ⟨p.rp.mb, 0, none⟩ = some (.slice (some ⟨p.rp.cb, 0, none⟩) 64 p.rp.ccap) ∧ w'.cell? ⟨bd, 0, none⟩ = some (.int .i64 0) ∧ w'.cell? ⟨bd, 1, none⟩ = some (.int .i64 0) ∧ w'.cell? ⟨p.rp.cb, 0, none⟩ = some (.slice (some ⟨p.rp.wb 0, 0, none⟩) 4 (p.rp.wcap 0)) ∧ w'.cell? ⟨p.rp.wb 0, 0, none⟩ = some (.int .i64 1))
          (first
            | go_keep
            | (go_split_ands
               refine ⟨?_, ?_, ?_, ?_, ?_, ?_⟩
               · (refine keep_cell hbk ?_; assumption)
               · (refine keep_cell hbk ?_; assumption)
               · (refine keep_cell hbk ?_; assumption)
               · (refine keep_cell hbk ?_; assumption)
               · (refine keep_cell hbk ?_; assumption)
               · (refine keep_cell hbk ?_; assumption)))
          ((go_at_call 22; refine (HA0.out _ HD15.out).mono ?_; rintro e16 w16 ⟨rfl, hbk⟩; have HB16 := hide (below_step HD15.out hbk)))
        clear hbk HD15 HB15 c0 c4 c6 c8 d0 d1
        have HTT := HTL.out
        go_wp2_with fail
        go_roundw
        case rel => exact ⟨t + 1, by omega, by go_num, HB16⟩
        case measure => simp [intOf]; omega
    · obtain rfl : t = n := by omega
      have HBF := hide (HB10.out.trans (HB.out.mono HB10.out.size))
      go_wp2_with fail
      go_ret
      exact ⟨rfl, HBF.out⟩
end Go.Proofs.YtaiigfcfmcicjaaGreatDoor

/- ClCB -/
namespace Go.Proofs.YtaiigfcfmcicjaaGreatDoor
open Go.ChangeShapes Go.WideShapes Go.ChangeAt Go.RowKit Go.Joins Go.Deep

theorem clbuilds_any {a : Nat → Addr} {w : World} (hE : Env a w) (f : Int) {ad : Option Addr} {cl : List (List OpI)} {cap : Nat} (ho : opRowsAt ad cl w) :
    Calls Tryz.prog 4 #[.int .i64 f, .slice ad cl.length cap] w fun e w' => e = .returned (.bool true) ∧ Below w.heap.size w w' := by
  cases hlg : lngB cl
  · by_cases h0 : (eachE cl).1 = 0
    · by_cases hf : 1 ≤ f ∧ f ≤ 4
      · obtain ⟨g, rfl⟩ := Int.eq_ofNat_of_zero_le (show 0 ≤ f by omega)
        exact clbuilds_ok hE (by omega) ho hlg h0
      · exact clbuilds_flav hE f ho hlg h0 hf
    · exact clbuilds_err hE f ho hlg h0
  · exact clbuilds_long hE f ho hlg
theorem readableCB : ∀ t ∈ [3, 22], Tryz.prog.readableRec t = true ∧ t < Tryz.prog.types.size := by
  intro t ht
  simp only [List.mem_cons, List.not_mem_nil, or_false] at ht
  rcases ht with rfl | rfl
  · exact ⟨by kernel_rfl, of_decide_eq_true (by kernel_rfl)⟩
  · exact ⟨by kernel_rfl, of_decide_eq_true (by kernel_rfl)⟩

set_option maxRecDepth 100000 in
theorem clbuilds_lifted (os : Os) (started : os.Started) (H : Type) (enc : TypeId × Value → H) :
    ReturnsInHanded {} Tryz.checked os 4 .any (fun w args => (Rows.clientBuildsSpec.pre enc Tryz.prog Tryz.f4 [] false w args ∧ laidMetH Tryz.prog Rows.clientBuildsRow.laid w) ∧ sizedMet enc Tryz.prog Tryz.f4 (OpenSpec.ofChange Rows.clientBuildsSpec) false w args)
      (Rows.clientBuildsSpec.post enc Tryz.prog Tryz.f4 false true false false) := by
  refine lift_shaped (C := Tryz.checked) (X := fun w _ => laidMetH Tryz.prog Rows.clientBuildsRow.laid w) (fun _ _ _ hh h => h.of_heap hh) own started (by kernel_rfl) Tryz.func4
    (ChangeSpec.witness_shaped (enc := enc) (C := Tryz.checked) (os := os) (X := fun w _ => laidMetH Tryz.prog Rows.clientBuildsRow.laid w) false (cworldZ os) #[.int .i64 0, .slice none 0 0] 8 (cworldZ_os os)
      (cworldZ_shaped os _) (by kernel_rfl) (by kernel_rfl) (by kernel_rfl) (claid_met os _)) ?_
  intro W base args ds gs before hval0 hW hL hsh
  have hval : ∀ (j : Nat) t v, Tryz.f4.params[j]? = some t → args[j]? = some v → Value.okWide Tryz.prog W .any base t v := hval0
  have hW' := hW
  obtain ⟨p, q, hA0, hV, rfl, hfz, hnd⟩ := hW
  have hA : DataW.TrodAll enc Tryz.prog W 0 (fun _ => true) true Tryz.f4.params.toList args.toList ds p := hA0
  rw [Tryz.params4] at hA hval
  have hA2 := hA
  obtain ⟨v0, v1, d0, d1, p0, p1, rfl, rfl, rfl, h0, h1⟩ := trodAll_two hA
  obtain ⟨rfl, rfl⟩ := trodVars_none hV
  obtain ⟨n0, rfl⟩ := okWide_int Tryz.underlying3 (hval 0 3 v0 rfl rfl)
  obtain ⟨sa, slen, scap, rfl⟩ := okWide_slice Tryz.underlying22 (hval 1 22 v1 rfl rfl)
  obtain ⟨fuel, hf⟩ := h1
  obtain ⟨ad, cap, cl, hcs, hrows⟩ := oprows_of_trod hf
  obtain ⟨rfl, rfl, rfl⟩ : sa = ad ∧ slen = cl.length ∧ scap = cap := by simpa [Value.cells] using hcs
  obtain ⟨a, hE⟩ := env_of_laidC hL
  clear hA0 hval0
  simp only [List.append_nil] at hW'
  refine (clbuilds_any hE n0 hrows).mono fun e W' ⟨he, hb⟩ => ?_
  subst he
  refine ⟨_, rfl, _, _, _, [], p0 ++ p1, [], hW', ?_, ?_, ?_, hb.frame _, fun h => by cases h⟩
  · exact trodAll_mk1 (shut_bool Tryz.underlying4 true)
  · exact trodAll_below laidOutA hb _ _ _ _ readableCB hA2
  · rfl

theorem clbuilds_holds : Rows.ClientBuildsSaid :=
  OpenClaim.holds_of_wide 4 Tryz.f4 rfl rfl rfl rfl rfl rfl rfl ⟨rfl, rfl, rfl, rfl, rfl⟩ rfl rfl rfl rfl rfl (by kernel_rfl) Tryz.func4 (by kernel_rfl)
    (of_decide_eq_true (by kernel_rfl)) (by unfold Func.isWrapper; rw [if_neg (of_decide_eq_false (by kernel_rfl))]; exact ⟨rfl, rfl⟩)
    (fun os started H enc _ => clbuilds_lifted os started H enc)

theorem clbuilds_card : Rows.ClientBuildsCardSaid :=
  Claim7.holds_tied_plain_at .later [] [.data, .data, .data, .handle, .sentinel, .sentinel, .sentinel, .sentinel, .sentinel, .sentinel, .sentinel, .sentinel, .sentinel] true (true, "d8fe092f434f16a9a0ea9d3806d5771d1266082f0aa16b571ff920b853d9c700") true
    clbuilds_holds (fun _ h => absurd h List.not_mem_nil) (by kernel_rfl) (fun _ h => absurd h List.not_mem_nil) clientBuilds_row_tie rfl ⟨rfl, rfl⟩ (by kernel_rfl) rfl
    (fun f fn hf hfn => by
      obtain rfl : f = 4 := (Option.some.inj ((show Tryz.prog.funcNamed "quiescent/quiescentlaw2.ClientBuilds" = some 4 by kernel_rfl).symm.trans hf)).symm
      obtain rfl : fn = Tryz.f4 := (Option.some.inj (Tryz.func4.symm.trans hfn)).symm
      exact ⟨by kernel_rfl, fun j t ht => by
        rw [Tryz.params4] at ht
        rcases j with _ | _ | j
        · obtain rfl : t = 3 := by simpa using ht.symm
          exact (show Tryz.prog.wantsStandIn 3 = false by kernel_rfl)
        · obtain rfl : t = 22 := by simpa using ht.symm
          exact (show Tryz.prog.wantsStandIn 22 = false by kernel_rfl)
        · simp at ht⟩)
    (by kernel_rfl)
#print axioms clbuilds_card
end Go.Proofs.YtaiigfcfmcicjaaGreatDoor
