import Derived.Test.YtaiigfcfmcicjaaGreatDoorF35
import Derived.Test.YtaiigfcfmcicjaaGreatDoorF32
import Derived.Test.YtaiigfcfmcicjaaGreatDoorF08
import Derived.Test.YtaiigfcfmcicjaaGreatDoorF09
import Derived.Laws.BitsLemmas
namespace Go.Proofs.YtaiigfcfmcicjaaGreatDoor
set_option maxRecDepth 100000
set_option maxHeartbeats 8000000
section
open Go.RowKit
def rdN : List OpI -> Nat
 | [] => 0
 | x :: l => (if kn x.kind.toList = 6 then 1 else 0) + rdN l
theorem rdN_le : ∀ l : List OpI, rdN l <= l.length
 | [] => Nat.le_refl _
 | x :: l => by
  have := rdN_le l
  show (if _ then 1 else 0) + rdN l <= l.length + 1
  split <;> omega
theorem opT_rd (x : OpI) : rdB (opT x) = if kn x.kind.toList = 6 then 1 else 0 := by
 unfold opT
 split <;> rename_i h
 case _ => rw [h]; rfl
 case _ => rw [h]; rfl
 case _ => rw [h]; rfl
 case _ => rw [h]; rfl
 case _ => rw [h]; rfl
 case _ => rw [h]; rfl
 case _ => rw [h]; rfl
 case _ => rw [h]; rfl
 case _ h6 _ => rw [if_neg h6]; rfl
theorem opTs_rd : ∀ l : List OpI, rdB (opTs l) = rdN l
 | [] => rfl
 | x :: l => by
  have e : opTs (x :: l) = opT x ++ opTs l := by unfold opTs; rw [List.flatMap_cons]
  rw [e, rdB_app, opT_rd, opTs_rd l]
  rfl
theorem upto_len (k : Nat) : (upto k).length = k := by unfold upto; rw [List.length_map, List.length_range]
theorem cl_ends {f : Nat} (hf : 1 <= f /\ f <= 4) {cl : List (List OpI)} (h : (eachE cl).1 = 0) (hs : eachS cl = true) (h3 : cl.length <= 3) (hk : ∀ L ∈ cl, L.length <= 3) :
  (((clSta f cl.length).mach cl.length).runO (cl.map (clC f)) (upto 20000)).2.faults = 0 /\
  (∀ t, t < cl.length -> doneAt (clCs f cl t) ((((clSta f cl.length).mach cl.length).runO (cl.map (clC f)) (upto 20000)).2.pc t) = true /\ (((clSta f cl.length).mach cl.length).runO (cl.map (clC f)) (upto 20000)).2.mem.waits t = []) /\
  (((clSta f cl.length).mach cl.length).runO (cl.map (clC f)) (upto 20000)).2.marks.length = sm cl.length (fun t => rdN (cl.getD t [])) /\
  ((∀ t, t < cl.length -> (clEnds cl t).r = false /\ (clEnds cl t).k = false) -> liv (((clSta f cl.length).mach cl.length).runO (cl.map (clC f)) (upto 20000)).2 = liv ((clSta f cl.length).mach cl.length)) := by
 obtain ⟨-, h6, h1, -⟩ := eachE_ok h
 have hl' : (cl.map (clC f)).length = cl.length := List.length_map _
 have hm : ∀ t, t < cl.length -> cl.getD t [] ∈ cl := fun t ht => by
  rw [List.getD_eq_getElem?_getD, List.getElem?_eq_getElem ht]
  exact List.getElem_mem ht
 have hrd : ∀ t, rdB (opTs (cl.getD t []) ++ [.gone]) = rdN (cl.getD t []) := fun t => by
  rw [rdB_app, opTs_rd]; rfl
 have hcost : sm cl.length (fun t => csts f cl.length (opTs (cl.getD t []) ++ [.gone])) <= cl.length * 495 := sm_const fun t ht => by
  have a := ops_cost hf ⟨h1, h3⟩ (cl.getD t [])
  have b := (cst_le hf ⟨h1, h3⟩ .gone).1
  have c := hk _ (hm t ht)
  have d := Nat.mul_le_mul_right 125 c
  rw [csts_app]
  show _ + (cst f cl.length .gone + 0) <= 495
  omega
 have hR : sm cl.length (fun t => rdB (opTs (cl.getD t []) ++ [.gone])) <= cl.length * 3 := sm_const fun t ht => by
  rw [hrd]
  exact Nat.le_trans (rdN_le _) (hk _ (hm t ht))
 obtain ⟨G0, B0, g1, g2⟩ := cl_Good3 (f := f) (n := cl.length) (V := Vq cl) (ends := clEnds cl) (css := clCs f cl) hf ⟨h1, h6⟩ (.inl rfl) (Vq_nz h) (pr := fun t => opTs (cl.getD t []) ++ [.gone]) (fun t ht => by
  obtain ⟨k1, k2⟩ := eachE_sh h _ (hm t ht)
  refine ⟨?_, clC_pieces hf k1 k2⟩
  exact disc_of _ .first Bk0 (fun x hx hk => .inr ⟨_, hm t ht, x, hx, hk, rfl⟩) (eachE_fol h _ (hm t ht)) (List.all_eq_true.1 hs _ (hm t ht)) rfl rfl rfl rfl (by show 0 + _ <= 100; omega)) (fun _ t _ => by simp) (by omega)
 have ok : MkOk (cl.map (clC f)).length 1 (clM f cl.length) := by
  rw [hl', <- clM_is hf h1 h6]
  exact Sta.mach_ok (cl_fits h1 h6 hf) (by show (64 : Int) <= 64; decide) h6
 obtain ⟨N, r, hN, hlt⟩ : ∃ N r, 20000 = N * (2 * cl.length) + r /\ cl.length * 495 + 6 * (cl.length + 3) < N := by
  have hc : cl.length = 1 ∨ cl.length = 2 ∨ cl.length = 3 := by omega
  rcases hc with e | e | e <;> rw [e]
  ·exact ⟨10000, 0, by decide, by decide⟩
  ·exact ⟨5000, 0, by decide, by decide⟩
  ·exact ⟨3333, 2, by decide, by decide⟩
 have hfl : ((List.range N).map (rnd cl.length)).flatten.length <= 20000 := by rw [rnd_all, upto_len]; omega
 obtain ⟨G, B, hG, hr⟩ := g1.rounds (cl_right hf h) hl' h1 (clCs_at f cl) ((List.range N).map (rnd cl.length)) ok (by omega) (fun l hl => by
  obtain ⟨i, -, rfl⟩ := List.mem_map.1 hl
  exact rnd_covers i) (by rw [List.length_map, List.length_range]; omega)
 rw [rnd_all] at hG hr
 rw [clM_is hf h1 h6, hN, upto_add, runO_cat, hG.still_run hr hl' (clCs_at f cl)]
 refine ⟨hG.qd.2.ok, fun t ht => ⟨?_, (hr t ht).2⟩, ?_, fun he => ?_⟩
 ·have hl := (hG.loc t ht).1
  rw [(hr t ht).1] at hl
  exact hl.1.1
 ·rw [hG.marks hr]
  exact sm_same fun t _ => hrd t
 ·rw [hG.count hr he, cl_liv h6]
end
section
open Go.RowKit Go.Extern.Stop Go.Stop Go.Extern Go.Sort
variable {cs : List (List Ins)} {w : World} {p : RkPl} {m : Mk} {L : List Ins}
theorem lt_of_get {α : Type} {l : List α} {i : Nat} {x : α} (h : l[i]? = some x) : i < l.length := (List.getElem?_eq_some_iff.1 h).1
theorem rdone_end {t : Nat} (ht : cs[t]? = some L) (hp : L.length <= m.pc t) (h : RkAt cs p m w) :
  Calls Tryz.prog 27 #[.pointer (some ⟨p.k, 0, none⟩), .int .i64 t] w fun e w' => e = .returned (.bool true) /\ Below w.heap.size w w' := by
 have hlt := lt_of_get ht
 have h6 := h.few
 have hT := h.mT
 have hA := h.tAt t hlt
 have hC := h.tCode t L ht
 have hcap := h.tcap
 have hcc := h.ccap t L ht
 have ti : (t : Int) < cs.length := by omega
 have hd : decide ((L.length : Int) <= m.pc t) = true := by simp; omega
 clear h ht
 go_enter Tryz.func27, Tryz.ntmps27
 go_wp2_with fail
 go_quiet (fail)
 go_wp2
 go_ret
 exact ⟨rfl, Below.drewN' _⟩
theorem rdone_at {t : Nat} {x : Ins} (ht : cs[t]? = some L) (hp : L[m.pc t]? = some x) (h : RkAt cs p m w) :
  Calls Tryz.prog 27 #[.pointer (some ⟨p.k, 0, none⟩), .int .i64 t] w fun e w' => e = .returned (.bool (x.op.toList == [115, 116, 111, 112])) /\ Below w.heap.size w w' := by
 have hlt := lt_of_get ht
 have h6 := h.few
 have hT := h.mT
 have hA := h.tAt t hlt
 have hC := h.tCode t L ht
 have hcap := h.tcap
 have hcc := h.ccap t L ht
 have ti : (t : Int) < cs.length := by omega
 obtain ⟨b, off, had, a0, -, -, -, -⟩ := h.rc.code ht (m.pc t) x hp
 rw [had] at hC
 have hpl := lt_of_get hp
 have hd : decide ((L.length : Int) <= m.pc t) = false := by simp; omega
 have hdn : decide (L.length <= m.pc t) = false := by simp; omega
 have pi : (m.pc t : Int) < L.length := by omega
 clear h ht hp
 go_enter Tryz.func27, Tryz.ntmps27
 go_wp2_with fail
 go_quiet (fail)
 go_wp2
 go_ret
 exact ⟨rfl, Below.drewN' _⟩
theorem RkAt.fault1 (h : RkAt cs p m w) : RkStep cs p m.mem w p.rp p.mv (m.addFault 1) (w.setCell ⟨p.k, 3, none⟩ (.int .i64 ((m.faults : Int) + 1))) := h.addFault 1
theorem rnames_yes {n : Int} (hn : Wd n) (h : RkAt cs p m w) (hy : m.names n = true) :
  Calls Tryz.prog 71 #[.pointer (some ⟨p.k, 0, none⟩), .int .i64 n] w fun e w' => e = .returned (.tuple #[.agg #[.int .i64 (cellOf n), .int .i64 (genOf n)], .bool true]) /\ Below w.heap.size w w' := by
 obtain ⟨hz, hh⟩ := (Bool.and_eq_true _ _).mp hy
 have hn0 : n ≠ 0 := by simpa using hz
 have h1 : 1 <= n := by have := hn.1; omega
 have HR : Hid (∀ w', Calls Tryz.prog 21 #[.int .i64 n] w' fun e w'' => e = .returned (.tuple #[.agg #[.int .i64 (cellOf n), .int .i64 (genOf n)], .int .i64 0]) /\ Below w'.heap.size w' w'') := fun w' => refOf_ok n w' h1 hn.2
 have HH : Hid (∀ w', Below w.heap.size w w' -> Calls Tryz.prog 46 #[.pointer (some ⟨p.rp.mb, 0, none⟩), .agg #[.int .i64 (cellOf n), .int .i64 (genOf n)]] w' fun e w'' => e = .returned (.bool true) /\ Below w'.heap.size w' w'') := fun w' hb => by
  have := here_any p.rp m.mem (cellOf n) (genOf n) w' (h.below hb).mem
  rwa [hh] at this
 have hM := h.mM
 clear hy hz hh hn h
 generalize cellOf n = c at *
 generalize genOf n = g at *
 have hba : Below w.heap.size w (w.alloc (.cells #[.int .i64 0, .int .i64 0] 50)) := box_below 0 0 w
 obtain ⟨z0, z1⟩ := box2c w 50 (.int .i64 0) (.int .i64 0)
 have y0 : (w.alloc (.cells #[.int .i64 0, .int .i64 0] 50)).frozen? ⟨w.heap.size, 0, none⟩ = false := by simp
 have y1 : (w.alloc (.cells #[.int .i64 0, .int .i64 0] 50)).frozen? ⟨w.heap.size, 1, none⟩ = false := by simp
 have hM1 := keep_cell hba hM
 generalize hw : w.alloc (.cells #[.int .i64 0, .int .i64 0] 50) = w1 at *
 go_enter Tryz.func71, Tryz.ntmps71
 go_wp2_with fail
 refine (HR.out _).mono ?_
 rintro e w2 ⟨rfl, hb2⟩
 have hzl : w.heap.size < w1.heap.size := bLt z0
 obtain ⟨W3, hW3⟩ : ∃ W3, W3 = w2.alloc (.cells #[.int .i64 c, .int .i64 g] 50) := ⟨_, rfl⟩
 have hb3 : Below w1.heap.size w1 W3 := by rw [hW3]; exact hb2.alloc hb2.size _
 have q0 : W3.cell? ⟨w2.heap.size, 0, none⟩ = some (.int .i64 c) := by rw [hW3]; simp
 have q1 : W3.cell? ⟨w2.heap.size, 1, none⟩ = some (.int .i64 g) := by rw [hW3]; simp
 have r0 := keep_cell hb3 z0
 have r1 := keep_cell hb3 z1
 have x0 : W3.frozen? ⟨w.heap.size, 0, none⟩ = false := by rw [hb3.frozen hzl]; exact y0
 have x1 : W3.frozen? ⟨w.heap.size, 1, none⟩ = false := by rw [hb3.frozen hzl]; exact y1
 have hM3 := keep_cell hb3 hM1
 have B3 := below_step hba hb3
 have l3 : w.heap.size < W3.heap.size := bLt r0
 clear z0 z1 y0 y1 hM hM1 hw HR hb3
 go_wp2_with fail
 rw [<- hW3]
 clear hW3 hb2 hzl
 have HCF : Hid (∀ d os, Calls Tryz.prog 46 #[.pointer (some ⟨p.rp.mb, 0, none⟩), .agg #[.int .i64 c, .int .i64 g]] (grow (redrawn W3 d) os) fun e w'' => e = .returned (.bool true) /\ ∃ p : Regrown, w'' = grow (redrawn W3 p.d) p.os) := fun d os =>
  Calls.regrown_of (HH.out _ (below_step B3 (below_regrown W3 d os)))
 have d0 := cell_regrown q0
 have d1 := cell_regrown q1
 have dM := cell_regrown hM3
 clear HH
 go_wp2_with fail
 refine wp_region_quiet_below (by kernel_rfl) (by kernel_rfl) ?_
 repeat (first
  | go_big_quiet_step (exact HCF.out _ _)
  | quiet_step (exact HCF.out _ _))
 refine wpQuiet_nil ?_
 intro _ hw'
 obtain ⟨⟨dq, osq⟩, hw''⟩ := hw'
 subst hw''
 have hb4 := below_regrown W3 dq osq
 have B4 := below_step B3 hb4
 have e0 := d0 dq osq
 have e1 := d1 dq osq
 replace r0 := keep_cell hb4 r0
 replace r1 := keep_cell hb4 r1
 have x0' : (grow (redrawn W3 dq) osq).frozen? ⟨w.heap.size, 0, none⟩ = false := by rw [hb4.frozen l3]; exact x0
 have x1' : (grow (redrawn W3 dq) osq).frozen? ⟨w.heap.size, 1, none⟩ = false := by rw [hb4.frozen l3]; exact x1
 clear HCF d0 d1 dM q0 q1 x0 x1 hM3 B3 hb4 l3
 generalize grow (redrawn W3 dq) osq = w4 at *
 go_wp2
 refine bodyPost_ret (v := .tuple #[.agg #[.int .i64 c, .int .i64 g], .bool true]) (by simp only [results, Tryz.results71]; go_simp) rfl ⟨rfl, ?_⟩
 exact (B4.setCell nL _).setCell nL _
end
section
open Go.RowKit Go.Extern.Stop Go.Stop Go.Extern Go.Sort
variable {cs : List (List Ins)} {w : World} {p : RkPl} {m : Mk}
theorem rnames_zero (h : RkAt cs p m w) (hf : m.faults <= 1000000000) :
  Calls Tryz.prog 71 #[.pointer (some ⟨p.k, 0, none⟩), .int .i64 0] w fun e w' => (∃ c g : Int, e = .returned (.tuple #[.agg #[.int .i64 c, .int .i64 g], .bool false])) /\ RkStep cs p m.mem w p.rp p.mv (m.addFault 1) w' := by
 have hba : Below w.heap.size w (w.alloc (.cells #[.int .i64 0, .int .i64 0] 50)) := box_below 0 0 w
 obtain ⟨z0, z1⟩ := box2c w 50 (.int .i64 0) (.int .i64 0)
 have y0 : (w.alloc (.cells #[.int .i64 0, .int .i64 0] 50)).frozen? ⟨w.heap.size, 0, none⟩ = false := by simp
 have y1 : (w.alloc (.cells #[.int .i64 0, .int .i64 0] 50)).frozen? ⟨w.heap.size, 1, none⟩ = false := by simp
 have hlk := h.lk
 have H := hide h
 clear h
 generalize hw : w.alloc (.cells #[.int .i64 0, .int .i64 0] 50) = w1 at *
 go_enter Tryz.func71, Tryz.ntmps71
 go_wp2_with fail
 refine (refOf_zero _).mono ?_
 rintro e w2 ⟨rfl, hb2⟩
 have hzl : w.heap.size < w1.heap.size := bLt z0
 obtain ⟨W3, hW3⟩ : ∃ W3, W3 = w2.alloc (.cells #[.int .i64 0, .int .i64 0] 50) := ⟨_, rfl⟩
 have hb3 : Below w1.heap.size w1 W3 := by rw [hW3]; exact hb2.alloc hb2.size _
 have q0 : W3.cell? ⟨w2.heap.size, 0, none⟩ = some (.int .i64 0) := by rw [hW3]; simp
 have q1 : W3.cell? ⟨w2.heap.size, 1, none⟩ = some (.int .i64 0) := by rw [hW3]; simp
 have r0 := keep_cell hb3 z0
 have r1 := keep_cell hb3 z1
 have x0 : W3.frozen? ⟨w.heap.size, 0, none⟩ = false := by rw [hb3.frozen hzl]; exact y0
 have x1 : W3.frozen? ⟨w.heap.size, 1, none⟩ = false := by rw [hb3.frozen hzl]; exact y1
 have B3 := below_step hba hb3
 clear z0 z1 y0 y1 hw hb3
 go_wp2_with fail
 rw [<- hW3]
 clear hW3 hb2 hzl
 have d1 : ((5 : Int) == 0) = false := by decide
 go_quiet (fail)
 have B4 := B3.trans ((Below.drewN' (w := W3) nq).mono B3.size)
 have H4 := hide (H.out.below B4)
 have hF := H4.out.mFaults
 have hZ := H4.out.fk 3
 have S4 : Hid (∀ u0 u1, RkStep cs p m.mem w p.rp p.mv (m.addFault 1) ((((W3.drewN nq).setCell ⟨p.k, 3, none⟩ (.int .i64 ((m.faults : Int) + 1))).setCell ⟨w.heap.size, 0, none⟩ u0).setCell ⟨w.heap.size, 1, none⟩ u1)) := fun u0 u1 => by
  have hn : ¬ p.fp cs.length m.mem w.heap.size := fun e => by have := H.out.fp_lt e; omega
  have hB := H.out.rc.size
  exact ((RkStep.of_below B4 H4.out.fault1).setNew u0 nL hn hB).setNew u1 nL hn hB
 replace q0 : (W3.drewN nq).cell? ⟨w2.heap.size, 0, none⟩ = some (.int .i64 0) := q0
 replace q1 : (W3.drewN nq).cell? ⟨w2.heap.size, 1, none⟩ = some (.int .i64 0) := q1
 replace r0 : (W3.drewN nq).cell? ⟨w.heap.size, 0, none⟩ = some (.int .i64 0) := r0
 replace r1 : (W3.drewN nq).cell? ⟨w.heap.size, 1, none⟩ = some (.int .i64 0) := r1
 replace x0 : (W3.drewN nq).frozen? ⟨w.heap.size, 0, none⟩ = false := x0
 replace x1 : (W3.drewN nq).frozen? ⟨w.heap.size, 1, none⟩ = false := x1
 clear B3 H4 H
 generalize W3.drewN nq = w4 at *
 go_wp2
 refine bodyPost_ret (v := .tuple #[.agg #[.int .i64 0, .int .i64 0], .bool false]) (by simp only [results, Tryz.results71]; go_simp) rfl ⟨⟨_, _, rfl⟩, ?_⟩
 exact S4.out _ _
theorem rnames_gone {n : Int} (hn : Wd n) (hn0 : n ≠ 0) (h : RkAt cs p m w) (hf : m.faults <= 1000000000) (hh : m.mem.ar.has (cellOf n) (genOf n) = false) :
  Calls Tryz.prog 71 #[.pointer (some ⟨p.k, 0, none⟩), .int .i64 n] w fun e w' => (∃ c g : Int, e = .returned (.tuple #[.agg #[.int .i64 c, .int .i64 g], .bool false])) /\ RkStep cs p m.mem w p.rp p.mv (m.addFault 1) w' := by
 have h1 : 1 <= n := by have := hn.1; omega
 have HR : Hid (∀ w', Calls Tryz.prog 21 #[.int .i64 n] w' fun e w'' => e = .returned (.tuple #[.agg #[.int .i64 (cellOf n), .int .i64 (genOf n)], .int .i64 0]) /\ Below w'.heap.size w' w'') := fun w' => refOf_ok n w' h1 hn.2
 have HH : Hid (∀ w', Below w.heap.size w w' -> Calls Tryz.prog 46 #[.pointer (some ⟨p.rp.mb, 0, none⟩), .agg #[.int .i64 (cellOf n), .int .i64 (genOf n)]] w' fun e w'' => e = .returned (.bool false) /\ Below w'.heap.size w' w'') := fun w' hb => by
  have := here_any p.rp m.mem (cellOf n) (genOf n) w' (h.below hb).mem
  rwa [hh] at this
 have hM := h.mM
 have H := hide h
 clear hh hn h hn0
 generalize cellOf n = c at *
 generalize genOf n = g at *
 have hba : Below w.heap.size w (w.alloc (.cells #[.int .i64 0, .int .i64 0] 50)) := box_below 0 0 w
 obtain ⟨z0, z1⟩ := box2c w 50 (.int .i64 0) (.int .i64 0)
 have y0 : (w.alloc (.cells #[.int .i64 0, .int .i64 0] 50)).frozen? ⟨w.heap.size, 0, none⟩ = false := by simp
 have y1 : (w.alloc (.cells #[.int .i64 0, .int .i64 0] 50)).frozen? ⟨w.heap.size, 1, none⟩ = false := by simp
 have hM1 := keep_cell hba hM
 generalize hw : w.alloc (.cells #[.int .i64 0, .int .i64 0] 50) = w1 at *
 go_enter Tryz.func71, Tryz.ntmps71
 go_wp2_with fail
 refine (HR.out _).mono ?_
 rintro e w2 ⟨rfl, hb2⟩
 have hzl : w.heap.size < w1.heap.size := bLt z0
 obtain ⟨W3, hW3⟩ : ∃ W3, W3 = w2.alloc (.cells #[.int .i64 c, .int .i64 g] 50) := ⟨_, rfl⟩
 have hb3 : Below w1.heap.size w1 W3 := by rw [hW3]; exact hb2.alloc hb2.size _
 have q0 : W3.cell? ⟨w2.heap.size, 0, none⟩ = some (.int .i64 c) := by rw [hW3]; simp
 have q1 : W3.cell? ⟨w2.heap.size, 1, none⟩ = some (.int .i64 g) := by rw [hW3]; simp
 have r0 := keep_cell hb3 z0
 have r1 := keep_cell hb3 z1
 have x0 : W3.frozen? ⟨w.heap.size, 0, none⟩ = false := by rw [hb3.frozen hzl]; exact y0
 have x1 : W3.frozen? ⟨w.heap.size, 1, none⟩ = false := by rw [hb3.frozen hzl]; exact y1
 have hM3 := keep_cell hb3 hM1
 have B3 := below_step hba hb3
 have l3 : w.heap.size < W3.heap.size := bLt r0
 clear z0 z1 y0 y1 hM hM1 hw HR hb3
 go_wp2_with fail
 rw [<- hW3]
 clear hW3 hb2 hzl
 have HCF : Hid (∀ d os, Calls Tryz.prog 46 #[.pointer (some ⟨p.rp.mb, 0, none⟩), .agg #[.int .i64 c, .int .i64 g]] (grow (redrawn W3 d) os) fun e w'' => e = .returned (.bool false) /\ ∃ p : Regrown, w'' = grow (redrawn W3 p.d) p.os) := fun d os =>
  Calls.regrown_of (HH.out _ (below_step B3 (below_regrown W3 d os)))
 have d0 := cell_regrown q0
 have d1 := cell_regrown q1
 have dM := cell_regrown hM3
 clear HH
 go_wp2_with fail
 refine wp_region_quiet_below (by kernel_rfl) (by kernel_rfl) ?_
 repeat (first
  | go_big_quiet_step (exact HCF.out _ _)
  | quiet_step (exact HCF.out _ _))
 refine wpQuiet_nil ?_
 intro _ hw'
 obtain ⟨⟨dq, osq⟩, hw''⟩ := hw'
 subst hw''
 have hb4 := below_regrown W3 dq osq
 have B4 := below_step B3 hb4
 have e0 := d0 dq osq
 have e1 := d1 dq osq
 replace r0 := keep_cell hb4 r0
 replace r1 := keep_cell hb4 r1
 have x0' : (grow (redrawn W3 dq) osq).frozen? ⟨w.heap.size, 0, none⟩ = false := by rw [hb4.frozen l3]; exact x0
 have x1' : (grow (redrawn W3 dq) osq).frozen? ⟨w.heap.size, 1, none⟩ = false := by rw [hb4.frozen l3]; exact x1
 clear HCF d0 d1 dM q0 q1 x0 x1 hM3 B3 hb4 l3
 generalize grow (redrawn W3 dq) osq = w4 at *
 have H4 := hide (H.out.below B4)
 have hF := H4.out.mFaults
 have hZ := H4.out.fk 3
 have hlk := H.out.lk
 have S4 : Hid (∀ u0 u1, RkStep cs p m.mem w p.rp p.mv (m.addFault 1) (((w4.setCell ⟨p.k, 3, none⟩ (.int .i64 ((m.faults : Int) + 1))).setCell ⟨w.heap.size, 0, none⟩ u0).setCell ⟨w.heap.size, 1, none⟩ u1)) := fun u0 u1 => by
  have hn : ¬ p.fp cs.length m.mem w.heap.size := fun e => by have := H.out.fp_lt e; omega
  have hB := H.out.rc.size
  exact ((RkStep.of_below B4 H4.out.fault1).setNew u0 nL hn hB).setNew u1 nL hn hB
 clear H4 H B4
 go_wp2
 refine bodyPost_ret (v := .tuple #[.agg #[.int .i64 c, .int .i64 g], .bool false]) (by simp only [results, Tryz.results71]; go_simp) rfl ⟨⟨_, _, rfl⟩, ?_⟩
 exact S4.out _ _
theorem rnames_no {n : Int} (hn : Wd n) (h : RkAt cs p m w) (hf : m.faults <= 1000000000) (hy : m.names n = false) :
  Calls Tryz.prog 71 #[.pointer (some ⟨p.k, 0, none⟩), .int .i64 n] w fun e w' => (∃ c g : Int, e = .returned (.tuple #[.agg #[.int .i64 c, .int .i64 g], .bool false])) /\ RkStep cs p m.mem w p.rp p.mv (m.addFault 1) w' := by
 by_cases h0 : n = 0
 ·subst h0; exact rnames_zero h hf
 ·refine rnames_gone hn h0 h hf ?_
  unfold Mk.names at hy
  have hb : (n == 0) = false := beq_eq_false_iff_ne.2 h0
  rw [hb] at hy
  simpa using hy
theorem rkfence_any {t : Nat} (ht : t < cs.length) (h : RkAt cs p m w) (hx : ∀ x ∈ m.mem.waits t, x.Ok) (h8 : (m.mem.waits t).length <= 8) (hf : m.faults <= 1000000000) :
  Calls Tryz.prog 75 #[.pointer (some ⟨p.k, 0, none⟩), .int .i64 t] w fun e w' => e = .returned (.tuple #[]) /\ ∃ r, RkStep cs p m.mem w r p.mv (m.fence t) w' := by
 have hM := h.mM
 have hF := h.mFaults
 have hZ := h.fk 3
 have hlk := h.lk
 have hg := Nat.le_trans (Rm.gone_le (m.mem.waits t) t m.mem) h8
 have HF : Hid (∀ w', RkAt cs p m w' -> Calls Tryz.prog 120 #[.pointer (some ⟨p.rp.mb, 0, none⟩), .int .i64 t] w' fun e w'' => e = .returned (.int .i64 (m.mem.gone t (m.mem.waits t))) /\ w''.cell? ⟨p.k, 3, none⟩ = some (.int .i64 m.faults) /\ w''.frozen? ⟨p.k, 3, none⟩ = false /\ Hid (∃ r, RkStep cs p m.mem w' r p.mv (m.setMem (m.mem.drainAll t (m.mem.waits t))) w'')) := fun w' h' =>
  (rfence_any p.rp m.mem t w' h'.mem (by rw [h'.thr]; exact ht) (fun x hx' => (hx x hx').1) (by omega)).mono fun _ w'' ⟨e1, r, q⟩ => by
    have S := h'.ofMem q (Rm.drainAll_ar _ _ _).2.2.2
    exact ⟨e1, S.at'.mFaults, S.at'.fk 3, r, S⟩
 have HD : Hid (m.fence t = (m.setMem (m.mem.drainAll t (m.mem.waits t))).addFault (m.mem.gone t (m.mem.waits t))) := rfl
 have hfm : Hid ((m.setMem (m.mem.drainAll t (m.mem.waits t))).faults = m.faults) := rfl
 rw [HD.out]
 have H := hide h
 clear h hx h8 HD
 generalize m.mem.gone t (m.mem.waits t) = G at *
 have HW : Hid (IntKind.i64.wrap ((m.faults : Int) + (G : Int)) = ((m.faults + G : Nat) : Int)) := by show _ = _; rw [IntKind.wrap_i64]; omega
 generalize m.setMem (m.mem.drainAll t (m.mem.waits t)) = m' at *
 go_enter Tryz.func75, Tryz.ntmps75
 go_wp2_with fail
 go_region_with (go_at_call 120; refine (HF.out _ (H.out.drewN 1)).mono ?_; rintro e w2 ⟨rfl, f2, z2, S2⟩)
 all_goals
  go_wp2
  go_end0
  obtain ⟨r, S⟩ := S2.out
  refine ⟨rfl, r, ?_⟩
  have S3 := S.trans (S.at'.addFault G)
  rw [hfm.out] at S3
  rw [HW.out]
  exact RkStep.of_below (Below.drewN' 1) S3
end
end Go.Proofs.YtaiigfcfmcicjaaGreatDoor
