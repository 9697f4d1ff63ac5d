import Derived.Test.YtdpmnlbnlnmjbaaGreatDoorL27
import Derived.Test.YtdpmnlbnlnmjbaaGreatDoorL26
import Derived.Test.YtdpmnlbnlnmjbaaGreatDoorL16
import Derived.Test.YtdpmnlbnlnmjbaaGreatDoorL02

/- StN -/
namespace Go.Proofs.YtdpmnlbnlnmjbaaGreatDoor
open Go.RowKit Go.Extern.Stop Go.Stop Go.Extern Go.Maps Go.WideMaps Go.Sort

set_option maxRecDepth 100000 in
set_option maxHeartbeats 2000000 in
theorem kcopy_any {a : Nat → Addr} {cs : List (List Ins)} {p : MkPl} {m : Mk} {w : World} (h : MkAt a cs p m w) (h5 : m.marks.length ≤ 500) :
    Calls Tryz.prog 14 #[.pointer (some ⟨p.b, 0, none⟩)] w fun e w' => ∃ v, e = .returned (.pointer (some ⟨w.heap.size, 0, none⟩)) ∧ Hid (MkAt a cs ⟨p.B, w.heap.size, p.pb, p.pc, v⟩ m w' ∧ Below w.heap.size w w' ∧ ∀ k, v.ownBlock = some k → w.heap.size ≤ k) := by
  obtain ⟨C, hC, hc, h1⟩ := h.rowOf
  have hks := machSize C hC
  have HC : Hid (∀ k, k < C.size → C[k]? = w.cell? ⟨p.b, k, none⟩) := hide fun k hk => hc k (by omega)
  have H := hide h
  have Hc := hide hc
  have H5 := hide h5
  obtain ⟨ad0, cap0, hvs, -⟩ := ownsRow_shape h.own
  have hm := h.marks
  have hl := h.lt
  rw [hvs] at hm
  have HV := hide hvs
  clear h h5 hc hvs
  obtain ⟨W2, hW2⟩ : ∃ W2, W2 = (w.alloc (.cells Tryz.zeroCells109 109)).setRow w.heap.size C := ⟨_, rfl⟩
  have hr1 : (w.alloc (.cells Tryz.zeroCells109 109)).heap[w.heap.size]? = some (.cells Tryz.zeroCells109 109 (0, 0)) := heap_alloc_new w _
  have hrow : W2.heap[w.heap.size]? = some (.cells C 109 (0, 0)) := by rw [hW2]; exact setRow_heap _ _ _ _ _ _ hr1
  have hs2 : W2.heap.size = w.heap.size + 1 := by rw [hW2]; simp [World.setRow]
  have hb2 : Below w.heap.size w W2 := by
    rw [hW2]
    exact ⟨rfl, rfl, rfl, by simp [World.setRow], fun k hk => by rw [setRow_other _ _ _ _ (by omega)]; exact Below.heap_alloc w _ k hk⟩
  have hm2 : W2.cell? ⟨p.b, 639, none⟩ = some (.slice ad0 m.marks.length cap0) := keep_cell hb2 hm
  have HCl := hide (cloneM_any (w := W2) (v := .slice ad0 m.marks.length cap0) (by have := (H.out.below hb2).own; rw [HV.out] at this; exact this) (by have := H5.out; omega))
  have HA : Hid (∀ w3 v, Below W2.heap.size W2 w3 → w3.ownsRow W2.heap.size 80 2 v m.marks.length (markCells m.marks) → MkAt a cs ⟨p.B, w.heap.size, p.pb, p.pc, v⟩ m (w3.setCell ⟨w.heap.size, 639, none⟩ v) ∧ Below w.heap.size w (w3.setCell ⟨w.heap.size, 639, none⟩ v) ∧ ∀ k, v.ownBlock = some k → w.heap.size ≤ k) := hide fun w3 v hb hown => by
    obtain ⟨q1, q2⟩ := copy_at H.out Hc.out hs2 hrow hb2 hb hown
    exact ⟨q1, q2, fun k hk => by have := (hown.lt k hk).1; omega⟩
  have hcell : Hid (∀ w3, Below W2.heap.size W2 w3 → (∃ u, w3.cell? ⟨w.heap.size, 639, none⟩ = some u) ∧ w3.frozen? ⟨w.heap.size, 639, none⟩ = false) := hide fun w3 hb => by
    have hr3 : w3.heap[w.heap.size]? = some (.cells C 109 (0, 0)) := (hb.block _ (by omega)).trans hrow
    obtain ⟨u, hu, -⟩ := H.out.whole 639 (by decide)
    exact ⟨⟨u, by rw [cell_of_row hr3, Hc.out 639 (by decide)]; exact hu⟩, frozen_of_row _ _ _ _ _ hr3⟩
  rw [hW2] at hm2
  clear hrow hs2 hb2 hm H Hc HV H5
  go_enter Tryz.func14, Tryz.ntmps14
  go_wp2_with (first
    | refine wpList_load_cells (by rfl) 109 _ (by rfl) p.b (by rfl) C _ HC.out Tryz.underlying109 (by rfl) hks ?_
    | refine wpList_store_row (by rfl) 109 _ _ (by rfl) w.heap.size C (by rfl) (by rfl) 109 Tryz.zeroCells109 hr1 hks (by rw [zeroK_size, hC]) h1 ?_)
  rw [← hW2]
  refine HCl.out.mono ?_
  rintro e w3 ⟨v, rfl, hown, hb⟩
  obtain ⟨⟨u, hu⟩, hf⟩ := hcell.out w3 hb
  have HZ := hide (HA.out w3 v hb hown)
  obtain ⟨ad, cap, rfl, -⟩ := ownsRow_shape hown
  clear HCl HA hcell hown hb hm2 hr1 HC hks h1 hC
  go_wp2
  go_ret
  exact ⟨_, rfl, HZ.out⟩
end Go.Proofs.YtdpmnlbnlnmjbaaGreatDoor

/- StL -/
namespace Go.Proofs.YtdpmnlbnlnmjbaaGreatDoor
open Go.RowKit

theorem wd_zero : Wd 0 := ⟨by decide, by decide⟩
theorem rowAt_wd {R : List (List Int)} {n : Nat} (h : rowsOk n R = true) (t r : Nat) : Wd (rowAt R t r) := by
  unfold rowAt
  cases ht : R[t]? with
  | none =>
    have e : R.getD t [] = [] := by rw [List.getD_eq_getElem?_getD, ht]; rfl
    rw [e]; exact wd_zero
  | some row =>
    have e : R.getD t [] = row := by rw [List.getD_eq_getElem?_getD, ht]; rfl
    rw [e]
    cases hr : row[r]? with
    | none => rw [List.getD_eq_getElem?_getD, hr]; exact wd_zero
    | some v => rw [List.getD_eq_getElem?_getD, hr]; exact (rowOk_at h ht).2 r v hr
theorem Sta.mach_ok {s : Sta} {n : Nat} (h : s.fits n = true) (h2 : s.cells ≤ 64) (hn : n ≤ 6) : MkOk n 1 (s.mach n) := by
  obtain ⟨-, f2, -, f4⟩ := Sta.fits_of h
  refine ⟨⟨fun t _ x hx => ?_, fun t _ => ?_, fun c k => ?_, fun c => ?_, ?_, hn⟩, rfl, fun t r => rowAt_wd f4 t r, Nat.zero_le _, Nat.zero_le _, fun _ => Nat.zero_le _⟩
  · exact absurd hx List.not_mem_nil
  · exact Nat.zero_le _
  · show Wd (if _ then rowAt s.init c k else 0)
    split
    · exact rowAt_wd f2 c k
    · exact wd_zero
  · show (if c < s.init.length then 1 else 0) ≤ 1
    split <;> decide
  · show s.cells.toNat ≤ 64
    omega
theorem Sta.fault_fits {s : Sta} {cs : List (List Ins)} (h : (s.fault cs).1 = 0) : s.fits cs.length = true ∧ s.cells ≤ 64 ∧ cs.length ≤ 6 ∧ 1 ≤ s.cells := by
  unfold Sta.fault at h
  split at h
  · rename_i h0; exact ⟨h0.2.2.2.2, h0.2.1, h0.2.2.2.1, h0.1⟩
  · cases h
end Go.Proofs.YtdpmnlbnlnmjbaaGreatDoor

/- StM -/
namespace Go.Proofs.YtdpmnlbnlnmjbaaGreatDoor
open Go.RowKit Go.Extern.Stop Go.Stop Go.Extern Go.Maps Go.WideMaps Go.Sort

def oneIns : List Ins := [⟨⟨#[99, 111, 110, 115, 116]⟩, 0, 7, 0, ⟨#[]⟩⟩, ⟨⟨#[109, 97, 114, 107]⟩, 0, 0, 0, ⟨#[]⟩⟩]
def oneSta : Sta := ⟨1, [], []⟩
theorem oneShape0 : shape (⟨#[99, 111, 110, 115, 116]⟩ : ByteArray).toList = some [114, 118] := by rw [toList_bl]; decide +kernel
theorem oneShape1 : shape (⟨#[109, 97, 114, 107]⟩ : ByteArray).toList = some [114] := by rw [toList_bl]; decide +kernel
theorem oneFault : codeFault oneIns = (0, -1) := by
  refine codeFault_none (by decide) (fun k y hy => ?_)
  match k, hy with
  | 0, hy =>
    cases hy
    rw [insFault_some oneShape0, if_neg (fun h => h (by unfold fitsP; rw [toList_bl]; decide +kernel)), if_neg (fun h => h (by unfold withinP; decide +kernel)), if_pos (by decide +kernel)]
  | 1, hy =>
    cases hy
    rw [insFault_some oneShape1, if_neg (fun h => h (by unfold fitsP; rw [toList_bl]; decide +kernel)), if_neg (fun h => h (by unfold withinP; decide +kernel)), if_pos (by decide +kernel)]
theorem oneSta_fault : (oneSta.fault [oneIns]).1 = 0 := by
  have h : 1 ≤ oneSta.cells ∧ oneSta.cells ≤ 64 ∧ 1 ≤ [oneIns].length ∧ [oneIns].length ≤ 6 ∧ oneSta.fits [oneIns].length = true := by decide
  unfold Sta.fault
  rw [if_pos h, codesFrom_none _ _ (fun t L ht => ?_)]
  match t, ht with
  | 0, ht => cases ht; rw [oneFault]

def oneA : Mk := oneSta.mach 1
theorem one1 : (oneA.stepO [oneIns] 0).1 = 0 := by kernel_rfl
theorem one2 : ((oneA.stepO [oneIns] 0).2.stepO [oneIns] 0).1 = 0 := by kernel_rfl
theorem one3 : (((oneA.stepO [oneIns] 0).2.stepO [oneIns] 0).2.stepO [oneIns] 0).1 = 9 := by kernel_rfl
theorem one4 : (((oneA.stepO [oneIns] 0).2.stepO [oneIns] 0).2.stepO [oneIns] 0).2.marks = [(0, 7)] := by kernel_rfl
theorem one5 : (((oneA.stepO [oneIns] 0).2.stepO [oneIns] 0).2.stepO [oneIns] 0).2.faults = 0 := by kernel_rfl
theorem one6 : doneAt oneIns ((((oneA.stepO [oneIns] 0).2.stepO [oneIns] 0).2.stepO [oneIns] 0).2.pc 0) = true := by kernel_rfl

theorem oneAt (w : World) : insAt (some ⟨w.heap.size, 0, none⟩) oneIns (w.alloc (.cells #[.string ⟨#[99, 111, 110, 115, 116]⟩, .int .i64 0, .int .i64 7, .int .i64 0, .string ⟨#[]⟩, .string ⟨#[109, 97, 114, 107]⟩, .int .i64 0, .int .i64 0, .int .i64 0, .string ⟨#[]⟩] 75)) := by
  intro i x hx
  refine ⟨w.heap.size, 0, rfl, ?_⟩
  match i, hx with
  | 0, hx => cases hx; exact ⟨(World.cell?_alloc_new _ _ _ _).trans rfl, (World.cell?_alloc_new _ _ _ _).trans rfl, (World.cell?_alloc_new _ _ _ _).trans rfl, (World.cell?_alloc_new _ _ _ _).trans rfl, (World.cell?_alloc_new _ _ _ _).trans rfl⟩
  | 1, hx => cases hx; exact ⟨(World.cell?_alloc_new _ _ _ _).trans rfl, (World.cell?_alloc_new _ _ _ _).trans rfl, (World.cell?_alloc_new _ _ _ _).trans rfl, (World.cell?_alloc_new _ _ _ _).trans rfl, (World.cell?_alloc_new _ _ _ _).trans rfl⟩
  | n + 2, hx => simp [oneIns] at hx

theorem oneCodes (w : World) (B : Obj) (hB : B = .cells #[.slice (some ⟨w.heap.size, 0, none⟩) 2 2] 55) : codesAt (some ⟨w.heap.size + 1, 0, none⟩) [oneIns] ((w.alloc (.cells #[.string ⟨#[99, 111, 110, 115, 116]⟩, .int .i64 0, .int .i64 7, .int .i64 0, .string ⟨#[]⟩, .string ⟨#[109, 97, 114, 107]⟩, .int .i64 0, .int .i64 0, .int .i64 0, .string ⟨#[]⟩] 75)).alloc B) := by
  intro t L ht
  match t, ht with
  | 0, ht =>
    cases ht
    refine ⟨w.heap.size + 1, 0, some ⟨w.heap.size, 0, none⟩, 2, rfl, ?_, by decide, insAt_below (oneAt w) ((Below.refl _ _).alloc (Nat.le_refl _) _), fun e => by cases e⟩
    subst hB
    simp
    rfl

theorem RunX.step {a : Nat → Addr} {cs : List (List Ins)} {p : MkPl} {m : Mk} {K : Nat} {w : World} (h : RunX a cs p m K w) (hK : K + 1 ≤ 10000000) (t : Int) :
    Calls Tryz.prog 24 #[.pointer (some ⟨p.b, 0, none⟩), .int .i64 t] w fun e w' => e = .returned (errVal a (m.stepO cs t).1) ∧ ∃ v, RunX a cs (p.marked v) (m.stepO cs t).2 (K + 1) w' ∧ MkStep a cs p w v (m.stepO cs t).2 w' :=
  (kstepO h t).mono fun e w' ⟨e1, v, e2⟩ => ⟨e1, v, h.of e2 (h.ok.stepO h.right t (by omega)) hK, e2⟩

theorem MkStep.belowB {a : Nat → Addr} {cs : List (List Ins)} {p : MkPl} {v : Value} {m m' : Mk} {w w' : World} (k : MkStep a cs p w v m' w') (h : MkAt a cs p m w) {N : Nat} (hB : N ≤ p.B) (hw : N ≤ w.heap.size) : Below N w w' :=
  k.turns.below hw (fun i o hi hf => by have := h.fp_ge hf; omega)

set_option maxRecDepth 100000 in
set_option maxHeartbeats 2000000 in
theorem one_any {a : Nat → Addr} {w : World} (hE : Env a w) :
    Calls Tryz.prog 9 #[] w fun e w' => e = .returned (.bool true) ∧ Below w.heap.size w w' := by
  obtain ⟨W2, hW2⟩ : ∃ W2, W2 = (w.alloc (.cells #[.string ⟨#[99, 111, 110, 115, 116]⟩, .int .i64 0, .int .i64 7, .int .i64 0, .string ⟨#[]⟩, .string ⟨#[109, 97, 114, 107]⟩, .int .i64 0, .int .i64 0, .int .i64 0, .string ⟨#[]⟩] 75)).alloc (.cells #[.slice (some ⟨w.heap.size, 0, none⟩) 2 2] 55) := ⟨_, rfl⟩
  have b2 : Below w.heap.size w W2 := by rw [hW2]; exact ((Below.refl _ _).alloc (Nat.le_refl _) _).alloc (by simp) _
  have HN := hide (new_any (s := oneSta) (ai := none) (ar := none) (ci := 0) (cr := 0) (ad := some ⟨w.heap.size + 1, 0, none⟩) (cap := 1) (cs := [oneIns]) (w := W2) (hE.below b2.block)
    ⟨fun i row h => by simp [oneSta] at h, fun i row h => by simp [oneSta] at h, Nat.le_refl _, Nat.le_refl _, Nat.zero_le _, Nat.zero_le _, fun i row h => by simp [oneSta] at h, fun i row h => by simp [oneSta] at h⟩
    (by rw [hW2]; exact oneCodes w _ rfl) (fun t L ht i x hx => by
      match t, ht with
      | 0, ht =>
        cases ht
        match i, hx with
        | 0, hx => cases hx; decide
        | 1, hx => cases hx; decide
        | n + 2, hx => simp [oneIns] at hx))
  have HE := hide (hE.below b2.block)
  clear hE
  go_enter Tryz.func9, Tryz.ntmps9
  go_wp2_with fail
  rw [← hW2]
  clear hW2
  refine HN.out.mono ?_
  rintro e w3 hp
  obtain ⟨hb3, hp⟩ := hp.out
  rcases hp with ⟨-, hR, p, rfl, hA, hpB, -⟩ | ⟨h, -⟩
  · have hA' : MkAt a [oneIns] p oneA w3 := hA
    have hok : MkOk [oneIns].length 1 oneA := Sta.mach_ok (s := oneSta) (n := 1) (by decide) (by decide) (by decide)
    have r0 : RunX a [oneIns] p oneA 1 w3 := ⟨hA', hok, hR, by decide⟩
    have R0 := hide (r0.step (by decide) 0)
    rw [one1, show errVal a 0 = Value.nilIface from rfl] at R0
    have hw3 : W2.heap.size ≤ w3.heap.size := hb3.size
    have H0 := hide r0
    have HB3 := hide b2
    clear hA hA' hok r0 HN b2
    go_wp2_with fail
    refine R0.out.mono ?_
    rintro e w4 ⟨rfl, v1, r1, k1⟩
    have hb4 := k1.belowB H0.out.at' hpB hw3
    have hw4 : W2.heap.size ≤ w4.heap.size := Nat.le_trans hw3 hb4.size
    have R1 := hide (r1.step (by decide) 0)
    rw [one2, show errVal a 0 = Value.nilIface from rfl] at R1
    have H1 := hide r1
    have HB4 := hide (hb3.trans hb4)
    clear R0 H0 k1 hb4 r1 hb3
    go_wp2_with fail
    refine R1.out.mono ?_
    rintro e w5 ⟨rfl, v2, r2, k2⟩
    have hb5 := k2.belowB H1.out.at' hpB hw4
    have hw5 : W2.heap.size ≤ w5.heap.size := Nat.le_trans hw4 hb5.size
    have R2 := hide (r2.step (by decide) 0)
    rw [one3, show errVal a 9 = errAt (a 8) from rfl] at R2
    have H2 := hide r2
    have HB5 := hide (HB4.out.trans hb5)
    clear R1 H1 k2 hb5 r2
    go_wp2_with fail
    refine R2.out.mono ?_
    rintro e w6 ⟨rfl, v3, r3, k3⟩
    have hb6 := k3.belowB H2.out.at' hpB hw5
    have HB6 := hide (HB5.out.trans hb6)
    have HC := hide (coded_err a 9 (by decide) 9 w6 (HE.out.below HB6.out.block))
    rw [show errVal a 9 = errAt (a 8) from rfl, show decide (((9 : Nat) : Int) = 9) = true from by decide] at HC
    have HM := hide (fun w' (hb : Below w6.heap.size w6 w') => kmarks_any (r3.at'.below hb) (by rw [one4]; decide))
    have HD := hide (fun w' (hb : Below w6.heap.size w6 w') => kdone_any (t := 0) (L := oneIns) rfl (r3.at'.below hb))
    have HFl := hide (fun w' (hb : Below w6.heap.size w6 w') => kfaults_any (r3.at'.below hb))
    rw [one6] at HD
    rw [one5] at HFl
    rw [one4] at HM
    clear R2 H2 k3 hb6 r3 hw3 hw4 hw5
    go_wp2_with fail
    refine HC.out.mono ?_
    rintro e w7 ⟨rfl, hb7⟩
    have HB7 := hide (HB6.out.trans (hb7.mono HB6.out.size))
    have HM7 := hide (HM.out w7 hb7)
    clear HM HC
    go_wp2_with fail
    refine HM7.out.mono ?_
    rintro e w8 ⟨ad, cap, rfl, hown, hb8⟩
    obtain ⟨g, c, e1, hcl, -, hcell⟩ := ownsRow_shape hown
    obtain ⟨g2, e2, c1⟩ := hcell 1 (.int .i64 7) rfl
    cases e1
    subst e2
    have b78 := below_step hb7 hb8
    have HB8 := hide (HB7.out.trans (hb8.mono HB7.out.size))
    have HD8 := hide (HD.out w8 b78)
    clear HM7 HD hown hcell hb7 hb8
    go_wp2_with fail
    refine HD8.out.mono ?_
    rintro e w9 ⟨rfl, hb9⟩
    have HF9 := hide (HFl.out w9 (below_step b78 hb9))
    have HB9 := hide (HB8.out.trans (hb9.mono HB8.out.size))
    clear HD8 HFl
    go_wp2_with fail
    refine HF9.out.mono ?_
    rintro e w10 ⟨rfl, rfl⟩
    go_wp2
    go_ret
    exact ⟨rfl, HB3.out.trans (HB9.out.mono HB3.out.size)⟩
  · exact absurd oneSta_fault h
end Go.Proofs.YtdpmnlbnlnmjbaaGreatDoor
