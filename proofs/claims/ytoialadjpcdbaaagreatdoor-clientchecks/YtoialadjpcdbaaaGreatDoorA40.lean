import Derived.Test.YtoialadjpcdbaaaGreatDoorA39
import Derived.Test.YtoialadjpcdbaaaGreatDoorA37

/- ClG -/
namespace Go.Proofs.YtoialadjpcdbaaaGreatDoor
open Go.RowKit Go.Extern.Stop Go.Stop Go.Extern Go.Maps Go.WideMaps Go.Sort

theorem errIs_mono {a : Nat → Addr} {f : Nat × Int} {v : Value} {w : World} {B B' : Nat} (h : errIs a f v w B) (hb : B' ≤ B) : errIs a f v w B' := by
  rcases h with h | h | ⟨h0, j, N, h1, h2, h3⟩
  · exact .inl h
  · exact .inr (.inl h)
  · exact .inr (.inr ⟨h0, j, N, h1, Nat.le_trans hb h2, h3⟩)
set_option maxRecDepth 20000 in
theorem follow_check {a : Nat → Addr} {w : World} (hE : Env a w) {ad : Option Addr} {cl : List (List OpI)} {cap : Nat} (ho : opRowsAt ad cl w) :
    Calls Tryz.prog 20 #[.slice ad cl.length cap, .func (.func 26) #[] #[]] w fun e w' => ∃ v, e = .returned v ∧ errIs a (eachE cl) v w' w.heap.size ∧ Below w.heap.size w w' := by
  have hB : ∀ T, Below w.heap.size w (w.alloc (.cells #[.func (.func 26) #[] #[]] T)) := fun T => (Below.refl _ _).alloc (Nat.le_refl _) _
  have HEA := hide (fun T => each_check (cap := cap) hE ho (hB T) (bx := w.heap.size) (by rw [World.cell?_alloc_new]; rfl))
  have HB := hide hB
  clear hE ho hB
  generalize cl.length = n at *
  go_enter Tryz.func20, Tryz.ntmps20
  go_wp2_with fail
  refine (HEA.out _).mono ?_
  rintro e w2 ⟨v, rfl, he, hb⟩
  have HV := hide (And.intro (errIs_mono he (HB.out _).size) (below_step (HB.out _) hb))
  clear he hb HEA HB
  go_wp2_with fail
  refine bodyPost_ret (v := v) (by simp only [results, Tryz.results20]; go_simp) rfl ⟨_, rfl, HV.out.1, HV.out.2⟩
set_option maxRecDepth 20000 in
theorem clcheck_ok {a : Nat → Addr} {w : World} (hE : Env a w) {ad : Option Addr} {cl : List (List OpI)} {cap : Nat} (ho : opRowsAt ad cl w) :
    Calls Tryz.prog 11 #[.slice ad cl.length cap] w fun e w' => ∃ v, e = .returned v ∧ errIs a (eachE cl) v w' w.heap.size ∧ Below w.heap.size w w' := by
  have HF := hide (follow_check (cap := cap) hE ho)
  clear hE ho
  generalize cl.length = n at *
  go_enter Tryz.func11, Tryz.ntmps11
  go_wp2_with fail
  refine HF.out.mono ?_
  rintro e w2 ⟨v, rfl, h2⟩
  have HV := hide h2
  clear h2 HF
  go_wp2_with fail
  refine bodyPost_ret (v := v) (by simp only [results, Tryz.results11]; go_simp) rfl ⟨_, rfl, HV.out.1, HV.out.2⟩
set_option maxRecDepth 20000 in
theorem follow_safe {a : Nat → Addr} {w00 w : World} {sf : Nat} {b : Bool} (hE : Env a w00) {ad : Option Addr} {cl : List (List OpI)} {cap : Nat} (ho : opRowsAt ad cl w00) (hw : Below w00.heap.size w00 w) (hsf : w00.heap.size ≤ sf) (hs2 : sf < w.heap.size) (cf : w.cell? ⟨sf, 0, none⟩ = some (.bool b)) (ff : w.frozen? ⟨sf, 0, none⟩ = false) :
    Calls Tryz.prog 20 #[.slice ad cl.length cap, .func (.func 21) #[] #[.pointer (some ⟨sf, 0, none⟩)]] w fun e w' => ∃ v, e = .returned v ∧ errIs a (eachE cl) v w' w.heap.size ∧ (∃ b', w'.cell? ⟨sf, 0, none⟩ = some (.bool b') ∧ ((eachE cl).1 = 0 → b' = (b && eachS cl))) ∧ Turns (fun q _ => q = sf) w w' := by
  have hB : ∀ T, Below w.heap.size w (w.alloc (.cells #[.func (.func 21) #[] #[.pointer (some ⟨sf, 0, none⟩)]] T)) := fun T => (Below.refl _ _).alloc (Nat.le_refl _) _
  have HEA := hide (fun T => each_safe (cap := cap) hE ho (below_step hw (hB T)) hsf (show sf < (w.alloc (.cells #[.func (.func 21) #[] #[.pointer (some ⟨sf, 0, none⟩)]] T)).heap.size by simp; omega) (keep_cell (hB T) cf) (((hB T).frozen (show (⟨sf, 0, none⟩ : Addr).block < _ from hs2)).trans ff) (bx := w.heap.size) (by rw [World.cell?_alloc_new]; rfl) (by omega))
  have HB := hide hB
  clear hE ho hB hw hsf hs2 cf ff
  generalize cl.length = n at *
  go_enter Tryz.func20, Tryz.ntmps20
  go_wp2_with fail
  refine (HEA.out _).mono ?_
  rintro e w2 ⟨v, rfl, he, hfl, -, ht⟩
  have HV := hide (And.intro (errIs_mono he (HB.out _).size) (And.intro hfl ((Turns.of_below (S := fun q _ => q = sf) (HB.out _)).trans ht)))
  clear he hfl ht HEA HB
  go_wp2_with fail
  refine bodyPost_ret (v := v) (by simp only [results, Tryz.results20]; go_simp) rfl ⟨_, rfl, HV.out.1, HV.out.2.1, HV.out.2.2⟩
theorem xval_is (a : Nat → Addr) {k : Nat} (h : k ≠ 0) : ∃ j, xval a k = errAt (a j) := by
  cases k with
  | zero => exact absurd rfl h
  | succ j => exact ⟨j, rfl⟩
set_option maxRecDepth 20000 in
set_option maxHeartbeats 1000000 in
theorem clsafe_ok {a : Nat → Addr} {w : World} (hE : Env a w) {ad : Option Addr} {cl : List (List OpI)} {cap : Nat} (ho : opRowsAt ad cl w) :
    Calls Tryz.prog 7 #[.slice ad cl.length cap] w fun e w' => ∃ v, e = .returned (.tuple #[.bool (decide ((eachE cl).1 = 0) && eachS cl), v]) ∧ errIs a (eachE cl) v w' w.heap.size ∧ Below w.heap.size w w' := by
  have hB : Below w.heap.size w (w.alloc (.cells #[.bool true] 4)) := (Below.refl _ _).alloc (Nat.le_refl _) _
  have HF := hide (follow_safe (cap := cap) hE ho hB (Nat.le_refl _) (by simp) (b := true) (by rw [World.cell?_alloc_new]; rfl) (World.frozen?_alloc_new _ _ _ _))
  have HB := hide hB
  clear hE ho hB
  generalize cl.length = n at *
  go_enter Tryz.func7, Tryz.ntmps7
  go_wp2_with fail
  refine HF.out.mono ?_
  rintro e w2 ⟨v, rfl, he, ⟨b', hc, hi⟩, ht⟩
  have HE2 := hide (errIs_mono he HB.out.size)
  have HBF := hide (HB.out.trans (ht.below HB.out.size (fun q o hq e => by rw [e] at hq; exact Nat.lt_irrefl _ hq)))
  clear ht HF HB
  have he' := HE2.out
  rcases he' with ⟨h0, rfl⟩ | ⟨h0, h1, rfl⟩ | ⟨h0, j, N, h1, h2, rfl, h4, h5⟩
  · have hb := hi h0
    rw [Bool.true_and] at hb
    subst hb
    clear he hi
    cases hes : eachS cl <;> rw [hes] at hc
    · have HQ : Hid ((decide ((eachE cl).1 = 0) && eachS cl) = false) := hide (by rw [hes, Bool.and_false])
      clear hes h0
      go_wp2_with fail
      go_ret2
      exact ⟨_, by rw [HQ.out]; rfl, HE2.out, HBF.out⟩
    · have HQ : Hid ((decide ((eachE cl).1 = 0) && eachS cl) = true) := hide (by rw [hes, decide_eq_true h0]; rfl)
      clear hes h0
      go_wp2_with fail
      go_ret2
      exact ⟨_, by rw [HQ.out]; rfl, HE2.out, HBF.out⟩
  · have HQ : Hid ((decide ((eachE cl).1 = 0) && eachS cl) = false) := hide (by rw [decide_eq_false h0, Bool.false_and])
    obtain ⟨jj, hj⟩ := xval_is a h0
    rw [hj] at HE2 ⊢
    clear he hi h0
    cases b'
    · go_wp2_with fail
      go_ret2
      exact ⟨_, by rw [HQ.out]; rfl, HE2.out, HBF.out⟩
    · go_wp2_with fail
      go_ret2
      exact ⟨_, by rw [HQ.out]; rfl, HE2.out, HBF.out⟩
  · have HQ : Hid ((decide ((eachE cl).1 = 0) && eachS cl) = false) := hide (by rw [decide_eq_false h0, Bool.false_and])
    clear he hi h0
    cases b'
    · go_wp2_with fail
      go_ret2
      exact ⟨_, by rw [HQ.out]; rfl, HE2.out, HBF.out⟩
    · go_wp2_with fail
      go_ret2
      exact ⟨_, by rw [HQ.out]; rfl, HE2.out, HBF.out⟩
end Go.Proofs.YtoialadjpcdbaaaGreatDoor

/- ClH -/
namespace Go.Proofs.YtoialadjpcdbaaaGreatDoor
open Go.RowKit Go.Extern.Stop Go.Stop Go.Extern Go.Maps Go.WideMaps Go.Sort

theorem folE_sh0 : ∀ {l : List OpI} {s : CrI}, folE s l = 0 → ∀ x ∈ l, kn x.kind.toList ≠ 0
  | [], _, _, x, hx => by cases hx
  | y :: l, s, h, x, hx => by
    unfold folE at h
    by_cases h0 : shErr (kn y.kind.toList) y.n = 0
    · rw [if_neg (fun k => k h0)] at h
      by_cases h1 : ckErr (kn y.kind.toList) s.deep s.ret = 0
      · rw [if_neg (fun k => k h1)] at h
        rcases List.mem_cons.1 hx with rfl | hx
        · intro hk
          rw [hk] at h0
          simp [shErr] at h0
        · exact folE_sh0 h x hx
      · rw [if_pos h1] at h; exact absurd h h1
    · rw [if_pos h0] at h; exact absurd h h0
theorem eachFrom_zero : ∀ {cl : List (List OpI)} {t : Nat}, (eachFrom cl t).1 = 0 → ∀ L ∈ cl, folE .first L = 0
  | [], _, _, L, hL => by cases hL
  | M :: cl, t, h, L, hL => by
    unfold eachFrom at h
    by_cases h0 : folE .first M = 0
    · rw [if_neg (fun k => k h0)] at h
      rcases List.mem_cons.1 hL with rfl | hL
      · exact h0
      · exact eachFrom_zero h L hL
    · rw [if_pos h0] at h; exact absurd h h0
theorem eachE_ok {cl : List (List OpI)} (h : (eachE cl).1 = 0) : fitB cl = true ∧ cl.length ≤ 6 ∧ 1 ≤ cl.length ∧ kindsOk cl := by
  unfold eachE at h
  by_cases hf : fitB cl = true
  · rw [if_pos hf] at h
    refine ⟨hf, fit_len hf, ?_, fun L hL => ⟨fit_rows hf L hL, folE_sh0 (eachFrom_zero h L hL)⟩⟩
    unfold fitB at hf
    simp only [Bool.and_eq_true, decide_eq_true_eq] at hf
    exact hf.1
  · rw [if_neg hf] at h
    cases h

def clCells : List (List Int) := [[1], [1]]
set_option maxRecDepth 20000 in
set_option maxHeartbeats 4000000 in
theorem clbuild_ok {a : Nat → Addr} {f : Nat} (hf : 1 ≤ f ∧ f ≤ 4) {ad : Option Addr} {cl : List (List OpI)} {cap : Nat} {w : World} (hE : Env a w) (ho : opRowsAt ad cl w) (h0 : (eachE cl).1 = 0) :
    Calls Tryz.prog 12 #[.int .i64 f, .slice ad cl.length cap] w fun e w' => ∃ base sb iv vs rv rs vc ks B, e = .returned (.tuple #[.agg #[.int .i64 64, iv, rv], vc, .nilIface]) ∧ TW base sb w' [] iv vs (graceI f (clCells.map pad4) cl.length) rv rs (rowsG 2 cl.length cl.length) w' ∧ KP B w' vc ks (cl.map (clC f)) w' ∧ w.heap.size < base ∧ w.heap.size < B ∧ Below w.heap.size w w' := by
  obtain ⟨-, h6, -, hk⟩ := eachE_ok h0
  have hB0 : Below w.heap.size w (w.alloc (.cells #[.int .i64 0, .slice none 0 0, .slice none 0 0] 38)) := (Below.refl _ _).alloc (Nat.le_refl _) _
  have HB0 := hide hB0
  have HRC : Hid ((∀ o, (w.alloc (.cells #[.int .i64 0, .slice none 0 0, .slice none 0 0] 38)).cell? ⟨w.heap.size, o, none⟩ = (#[.int .i64 0, .slice none 0 0, .slice none 0 0] : Array Value)[o]?) ∧ (∀ o, (w.alloc (.cells #[.int .i64 0, .slice none 0 0, .slice none 0 0] 38)).frozen? ⟨w.heap.size, o, none⟩ = false) ∧ w.heap.size < (w.alloc (.cells #[.int .i64 0, .slice none 0 0, .slice none 0 0] 38)).heap.size) := hide ⟨fun o => World.cell?_alloc_new _ _ _ _, fun o => World.frozen?_alloc_new _ _ _ _, by simp⟩
  have HCH := hide (clcheck_ok (cap := cap) (hE.below hB0.block) (ho.below hB0))
  have HNA := hide (tname_ok 0 (by decide))
  have HBU := hide (fun (W : World) (hb : Below w.heap.size w W) (ac : Option Addr) (capc : Nat) (hc : cellsAt ac clCells W) => tbuild_ok (cap := cap) (capc := capc) hf (ho.below hb) hk h6 hc (by decide) (by decide))
  rw [show clCells.length = 2 from rfl] at HBU
  rw [show ((0 : Nat) : Int) + 1 = 1 from rfl, show ((0 : Nat) : Int) = 0 from rfl] at HNA
  have hmf : ∀ (fn : Fn) (first cap : Array Value) (w : World), (Instr.makeFunc fn first cap).run Tryz.prog w = .ok (.func fn first cap) w := fun _ _ _ _ => rfl
  have HII := hide (fun (n : Nat) => graceI_len f (clCells.map pad4) n)
  have HRL := hide (fun (n : Nat) => rowsG_len 2 n n)
  have HCL : Hid ((cl.map (clC f)).length = cl.length) := hide (List.length_map _)
  clear hE ho hB0
  generalize cl.length = n at *
  generalize graceI f (clCells.map pad4) n = II at *
  generalize rowsG 2 n n = RR at *
  generalize cl.map (clC f) = CC at *
  generalize hfi : (f : Int) = fi at *
  clear hfi hf hk h6
  have H00 := hide h0
  clear h0
  go_enter Tryz.func12, Tryz.ntmps12
  go_wp2_with fail
  refine HCH.out.mono ?_
  rintro e w2 ⟨v, rfl, he, hb2⟩
  obtain rfl : v = .nilIface := by
    rcases he with ⟨-, e⟩ | ⟨h, -⟩ | ⟨h, -⟩
    · exact e
    · exact absurd H00.out h
    · exact absurd H00.out h
  have HB2 := hide hb2
  clear he hb2 HCH H00
  go_wp2_with fail
  refine (HNA.out _).mono ?_
  rintro e w3 ⟨rfl, hb3⟩
  have HB3 := hide hb3
  clear hb3
  go_wp2_with fail
  have hs3 := HB3.out.size
  rw [World.size_alloc] at hs3
  have hal : Below w3.heap.size w3 ((w3.alloc (.cells #[.int .i64 1] 3)).alloc (.cells #[.slice (some ⟨w2.heap.size, 0, none⟩) 1 1, .slice (some ⟨w3.heap.size, 0, none⟩) 1 1] 54)) := ((Below.refl _ _).alloc (Nat.le_refl _) _).alloc (by simp) _
  have hb6 : Below w2.heap.size w2 ((w3.alloc (.cells #[.int .i64 1] 3)).alloc (.cells #[.slice (some ⟨w2.heap.size, 0, none⟩) 1 1, .slice (some ⟨w3.heap.size, 0, none⟩) 1 1] 54)) := below_step (below_step ((Below.refl _ _).alloc (Nat.le_refl _) _) HB3.out) hal
  have HB6 := hide (below_step (below_step HB0.out HB2.out) hb6)
  have HB7 := hide (below_step HB2.out hb6)
  have HCL6 : Hid (cellsAt (some ⟨w3.heap.size + 1, 0, none⟩) clCells ((w3.alloc (.cells #[.int .i64 1] 3)).alloc (.cells #[.slice (some ⟨w2.heap.size, 0, none⟩) 1 1, .slice (some ⟨w3.heap.size, 0, none⟩) 1 1] 54))) := hide (fun i row hr => by
    have hc : ∀ j, ((w3.alloc (.cells #[.int .i64 1] 3)).alloc (.cells #[.slice (some ⟨w2.heap.size, 0, none⟩) 1 1, .slice (some ⟨w3.heap.size, 0, none⟩) 1 1] 54)).cell? ⟨w3.heap.size + 1, 0 + j, none⟩ = (#[.slice (some ⟨w2.heap.size, 0, none⟩) 1 1, .slice (some ⟨w3.heap.size, 0, none⟩) 1 1] : Array Value)[j]? := fun j => by
      have := World.cell?_alloc_new (w3.alloc (.cells #[.int .i64 1] 3)) #[.slice (some ⟨w2.heap.size, 0, none⟩) 1 1, .slice (some ⟨w3.heap.size, 0, none⟩) 1 1] 54 j
      rw [World.size_alloc] at this
      rw [Nat.zero_add]
      exact this
    match i, hr with
    | 0, hr =>
      cases hr
      exact ⟨_, 0, ⟨w2.heap.size, 0, none⟩, 1, rfl, hc 0, ((numsAt_new (w := w2) (l := [1]) (t := 3) rfl).below HB3.out).below hal, by decide, by decide⟩
    | 1, hr =>
      cases hr
      exact ⟨_, 0, ⟨w3.heap.size, 0, none⟩, 1, rfl, hc 1, (numsAt_new (w := w3) (l := [1]) (t := 3) rfl).below ((Below.refl _ _).alloc (Nat.le_refl _) _), by decide, by decide⟩
    | k + 2, hr => cases hr)
  have HT := hide (HBU.out _ HB6.out _ 2 HCL6.out)
  clear hs3 hal hb6 HB0 HB2 HB3 HCL6 HBU
  generalize ((w3.alloc (.cells #[.int .i64 1] 3)).alloc (.cells #[.slice (some ⟨w2.heap.size, 0, none⟩) 1 1, .slice (some ⟨w3.heap.size, 0, none⟩) 1 1] 54)) = W6 at *
  refine HT.out.mono ?_
  rintro e w7 ⟨base, sb, iv, vs, rv, rs, vc, ks, B, rfl, hT5, hK5, hb5, hB5, hbw⟩
  have hlow := below_step HB7.out hbw
  have HBZ := hide (below_step HB6.out hbw)
  have hz6 := HB6.out.size
  have hq5 : w.heap.size < base := by omega
  have hq6 : w.heap.size < B := by omega
  obtain ⟨ai, ci, eiv, -⟩ := ownsRow_shape hT5.oi
  obtain ⟨ar, cr, erv, -⟩ := ownsRow_shape hT5.or'
  obtain ⟨ax, cx, evc, hcx⟩ := hK5.codes
  subst eiv
  subst erv
  subst evc
  obtain ⟨q1, q2, q3⟩ := HRC.out
  have b0 := keep_cell hlow ((q1 0).trans (show _ = some (.int .i64 0) from rfl))
  have b1 := keep_cell hlow ((q1 1).trans (show _ = some (.slice none 0 0) from rfl))
  have b2 := keep_cell hlow ((q1 2).trans (show _ = some (.slice none 0 0) from rfl))
  have z0 := (hlow.frozen (show (⟨w.heap.size, 0, none⟩ : Addr).block < _ from q3)).trans (q2 0)
  have z1 := (hlow.frozen (show (⟨w.heap.size, 1, none⟩ : Addr).block < _ from q3)).trans (q2 1)
  have z2 := (hlow.frozen (show (⟨w.heap.size, 2, none⟩ : Addr).block < _ from q3)).trans (q2 2)
  have HB9 : Hid (Below w.heap.size w (((w7.setCell ⟨w.heap.size, 0, none⟩ (.int .i64 64)).setCell ⟨w.heap.size, 1, none⟩ (.slice ai II.length ci)).setCell ⟨w.heap.size, 2, none⟩ (.slice ar RR.length cr))) := hide (((HBZ.out.setCell (Nat.le_refl _) _).setCell (Nat.le_refl _) _).setCell (Nat.le_refl _) _)
  have HS9 : Hid (TW base sb (((w7.setCell ⟨w.heap.size, 0, none⟩ (.int .i64 64)).setCell ⟨w.heap.size, 1, none⟩ (.slice ai II.length ci)).setCell ⟨w.heap.size, 2, none⟩ (.slice ar RR.length cr)) [] (.slice ai II.length ci) vs II (.slice ar RR.length cr) rs RR (((w7.setCell ⟨w.heap.size, 0, none⟩ (.int .i64 64)).setCell ⟨w.heap.size, 1, none⟩ (.slice ai II.length ci)).setCell ⟨w.heap.size, 2, none⟩ (.slice ar RR.length cr))) := hide
    (((hT5.out hq5 0 (.int .i64 64) rfl).out hq5 1 (.slice ai II.length ci) rfl).out hq5 2 (.slice ar RR.length cr) rfl)
  have HK9 : Hid (KP B (((w7.setCell ⟨w.heap.size, 0, none⟩ (.int .i64 64)).setCell ⟨w.heap.size, 1, none⟩ (.slice ai II.length ci)).setCell ⟨w.heap.size, 2, none⟩ (.slice ar RR.length cr)) (.slice ax CC.length cx) ks CC (((w7.setCell ⟨w.heap.size, 0, none⟩ (.int .i64 64)).setCell ⟨w.heap.size, 1, none⟩ (.slice ai II.length ci)).setCell ⟨w.heap.size, 2, none⟩ (.slice ar RR.length cr))) := hide
    (((hK5.out hq6 0 (.int .i64 64)).out hq6 1 (.slice ai II.length ci)).out hq6 2 (.slice ar RR.length cr))
  have HE9 : Hid (((((w7.setCell ⟨w.heap.size, 0, none⟩ (.int .i64 64)).setCell ⟨w.heap.size, 1, none⟩ (.slice ai II.length ci)).setCell ⟨w.heap.size, 2, none⟩ (.slice ar RR.length cr))).cell? ⟨w.heap.size, 0, none⟩ = some (.int .i64 64) ∧ ((((w7.setCell ⟨w.heap.size, 0, none⟩ (.int .i64 64)).setCell ⟨w.heap.size, 1, none⟩ (.slice ai II.length ci)).setCell ⟨w.heap.size, 2, none⟩ (.slice ar RR.length cr))).cell? ⟨w.heap.size, 1, none⟩ = some (.slice ai II.length ci) ∧ ((((w7.setCell ⟨w.heap.size, 0, none⟩ (.int .i64 64)).setCell ⟨w.heap.size, 1, none⟩ (.slice ai II.length ci)).setCell ⟨w.heap.size, 2, none⟩ (.slice ar RR.length cr))).cell? ⟨w.heap.size, 2, none⟩ = some (.slice ar RR.length cr)) := hide (by
    have x0 : (w7.setCell ⟨w.heap.size, 0, none⟩ (.int .i64 64)).cell? ⟨w.heap.size, 0, none⟩ = some (.int .i64 64) := World.cell?_setCell_same _ _ _ b0
    have x1 : ((w7.setCell ⟨w.heap.size, 0, none⟩ (.int .i64 64)).setCell ⟨w.heap.size, 1, none⟩ (.slice ai II.length ci)).cell? ⟨w.heap.size, 1, none⟩ = some (.slice ai II.length ci) := World.cell?_setCell_same _ _ _ (cell_ne b1 (.inr (by decide)))
    have x2 : ((((w7.setCell ⟨w.heap.size, 0, none⟩ (.int .i64 64)).setCell ⟨w.heap.size, 1, none⟩ (.slice ai II.length ci)).setCell ⟨w.heap.size, 2, none⟩ (.slice ar RR.length cr))).cell? ⟨w.heap.size, 2, none⟩ = some (.slice ar RR.length cr) := World.cell?_setCell_same _ _ _ (cell_ne (cell_ne b2 (.inr (by decide))) (.inr (by decide)))
    exact ⟨cell_ne (cell_ne x0 (.inr (by decide))) (.inr (by decide)), cell_ne x1 (.inr (by decide)), x2⟩)
  have HQ5 := hide hq5
  have HQ6 := hide hq6
  clear hT5 hK5 hb5 hB5 hbw hlow hcx q1 q2 q3 hq5 hq6 HRC hz6 HT HB6 HB7 HBZ HII HRL HCL HNA
  go_wp2_with fail
  obtain ⟨e0, e1, e2⟩ := HE9.out
  have hBf := HB9.out
  have hst := HS9.out
  have hco := HK9.out
  generalize (((w7.setCell ⟨w.heap.size, 0, none⟩ (.int .i64 64)).setCell ⟨w.heap.size, 1, none⟩ (.slice ai II.length ci)).setCell ⟨w.heap.size, 2, none⟩ (.slice ar RR.length cr)) = WW at *
  refine bodyPost_ret (v := .tuple #[.agg #[.int .i64 64, .slice ai II.length ci, .slice ar RR.length cr], .slice ax CC.length cx, .nilIface]) (by rw [results_cell_tmp2 (show Tryz.f12.results = _ from rfl)]; go_simp) rfl ?_
  exact ⟨base, sb, _, vs, _, rs, _, ks, B, rfl, hst, hco, HQ5.out, HQ6.out, hBf⟩
end Go.Proofs.YtoialadjpcdbaaaGreatDoor

/- ClN -/
namespace Go.Proofs.YtoialadjpcdbaaaGreatDoor
open Go.RowKit Go.Extern.Stop Go.Stop Go.Extern Go.Maps Go.WideMaps Go.Sort

def kbEnter : ByteArray := ⟨#[101, 110, 116, 101, 114]⟩
def kbRead : ByteArray := ⟨#[114, 101, 97, 100]⟩
def kbLeave : ByteArray := ⟨#[108, 101, 97, 118, 101]⟩
theorem kn_enter : kn kbEnter.toList = 2 := by unfold kbEnter; rw [toList_bl]; rfl
theorem kn_read : kn kbRead.toList = 6 := by unfold kbRead; rw [toList_bl]; rfl
theorem kn_leave : kn kbLeave.toList = 3 := by unfold kbLeave; rw [toList_bl]; rfl
def cl0 : List (List OpI) := [[⟨kbEnter, 0⟩, ⟨kbRead, 0⟩, ⟨kbLeave, 0⟩]]
theorem each_cl0 : (eachE cl0).1 = 0 := by
  unfold eachE
  rw [if_pos (show fitB cl0 = true by decide)]
  simp [cl0, eachFrom, folE, kn_enter, kn_read, kn_leave, shErr, ckErr, CrI.pass, CrI.first, psDeep, psRet, psWt]
theorem each_nil1 : (eachE [[]]).1 = 0 := by decide
theorem opsAt_new {w : World} {l : List OpI} {cs : Array Value} {t : TypeId} (h : cs.toList = l.flatMap fun x => [.string x.kind, .int .i64 x.n]) : opsAt (some ⟨w.heap.size, 0, none⟩) l (w.alloc (.cells cs t)) := by
  have hat : ∀ (l : List OpI) (i j : Nat) (x : OpI), l[i]? = some x → j < 2 → (l.flatMap fun x => ([.string x.kind, .int .i64 x.n] : List Value))[i * 2 + j]? = ([.string x.kind, .int .i64 x.n] : List Value)[j]? := fun l => by
    induction l with
    | nil => intro i j x h _; simp at h
    | cons y l ih =>
      intro i j x h hj
      cases i with
      | zero =>
        cases h
        show ([.string y.kind, .int .i64 y.n] ++ _ : List Value)[0 * 2 + j]? = _
        rw [List.getElem?_append_left (by show 0 * 2 + j < 2; omega), Nat.zero_mul, Nat.zero_add]
      | succ i =>
        show ([.string y.kind, .int .i64 y.n] ++ _ : List Value)[(i + 1) * 2 + j]? = _
        rw [List.getElem?_append_right (by show 2 ≤ _; omega), show (i + 1) * 2 + j - ([.string y.kind, .int .i64 y.n] : List Value).length = i * 2 + j by show _ - 2 = _; omega]
        exact ih i j x (by simpa using h) hj
  intro i x hx
  have key : ∀ j, j < 2 → (w.alloc (.cells cs t)).cell? ⟨w.heap.size, i * 2 + j, none⟩ = ([.string x.kind, .int .i64 x.n] : List Value)[j]? := fun j hj => by
    rw [World.cell?_alloc_new, ← hat l i j x hx hj, ← h]
    simp
  refine ⟨w.heap.size, 0, rfl, ?_, ?_⟩
  · rw [show 0 + i * 2 = i * 2 + 0 by omega]; exact key 0 (by decide)
  · rw [show 0 + i * 2 + 1 = i * 2 + 1 by omega]; exact key 1 (by decide)
theorem opRowsAt_one {w : World} {L : List OpI} {adl : Option Addr} {n capl : Nat} {t : TypeId} (hn : L.length = n) (h : opsAt adl L w) : opRowsAt (some ⟨w.heap.size, 0, none⟩) [L] (w.alloc (.cells #[.slice adl n capl] t)) := by
  subst hn
  intro i M hM
  cases i with
  | zero =>
    cases hM
    exact ⟨_, 0, adl, capl, rfl, by rw [World.cell?_alloc_new]; rfl, h.below ((Below.refl _ _).alloc (Nat.le_refl _) _)⟩
  | succ i => simp at hM

set_option maxRecDepth 20000 in
set_option maxHeartbeats 4000000 in
theorem built_any {a : Nat → Addr} {w : World} (hE : Env a w) :
    Calls Tryz.prog 5 #[] w fun e w' => e = .returned (.bool true) ∧ Below w.heap.size w w' := by
  have hA1 : Below w.heap.size w (w.alloc (.cells #[.string ⟨#[101, 110, 116, 101, 114]⟩, .int .i64 0, .string ⟨#[114, 101, 97, 100]⟩, .int .i64 0, .string ⟨#[108, 101, 97, 118, 101]⟩, .int .i64 0] 71)) := (Below.refl _ _).alloc (Nat.le_refl _) _
  have hA2 : Below w.heap.size w ((w.alloc (.cells #[.string ⟨#[101, 110, 116, 101, 114]⟩, .int .i64 0, .string ⟨#[114, 101, 97, 100]⟩, .int .i64 0, .string ⟨#[108, 101, 97, 118, 101]⟩, .int .i64 0] 71)).alloc (.cells #[.slice (some ⟨w.heap.size, 0, none⟩) 3 3] 72)) := hA1.alloc (by simp) _
  have hr : opRowsAt (some ⟨w.heap.size + 1, 0, none⟩) cl0 ((w.alloc (.cells #[.string ⟨#[101, 110, 116, 101, 114]⟩, .int .i64 0, .string ⟨#[114, 101, 97, 100]⟩, .int .i64 0, .string ⟨#[108, 101, 97, 118, 101]⟩, .int .i64 0] 71)).alloc (.cells #[.slice (some ⟨w.heap.size, 0, none⟩) 3 3] 72)) := by
    have h1 := opsAt_new (w := w) (l := [⟨kbEnter, 0⟩, ⟨kbRead, 0⟩, ⟨kbLeave, 0⟩]) (cs := #[.string ⟨#[101, 110, 116, 101, 114]⟩, .int .i64 0, .string ⟨#[114, 101, 97, 100]⟩, .int .i64 0, .string ⟨#[108, 101, 97, 118, 101]⟩, .int .i64 0]) (t := 71) rfl
    have h2 := opRowsAt_one (n := 3) (capl := 3) (t := 72) rfl h1
    rw [World.size_alloc] at h2
    exact h2
  have HBU := hide (clbuild_ok (f := 1) (cap := 1) (by decide) (hE.below hA2.block) hr each_cl0)
  rw [show cl0.length = 1 from rfl, show ((1 : Nat) : Int) = 1 from rfl] at HBU
  have HA2 := hide hA2
  have HE := hide hE
  have HI := hide (graceI_len 1 (clCells.map pad4) 1)
  clear hA1 hA2 hr hE
  generalize graceI 1 (clCells.map pad4) 1 = II at *
  generalize rowsG 2 1 1 = RR at *
  go_enter Tryz.func5, Tryz.ntmps5
  go_wp2_with fail
  refine HBU.out.mono ?_
  rintro e w2 ⟨base, sb, iv, vs, rv, rs, vc, ks, B, rfl, hT5, hK5, -, -, hbw⟩
  have HB2 := hide (below_step HA2.out hbw)
  obtain ⟨ai, ci, eiv, -⟩ := ownsRow_shape hT5.oi
  obtain ⟨ar, cr, erv, -⟩ := ownsRow_shape hT5.or'
  obtain ⟨ax, cx, evc, hcx⟩ := hK5.codes
  have hl1 : (cl0.map (clC 1)).length = 1 := rfl
  rw [hl1] at evc
  subst eiv
  subst erv
  subst evc
  clear hT5 hK5 hbw hcx hl1 HBU HA2
  generalize hI : II.length = iL at *
  generalize hR : RR.length = rL at *
  have HB4 : Hid (Below w.heap.size w (((w2.alloc (.cells #[.int .i64 64, .slice ai iL ci, .slice ar rL cr] 38)).alloc (.cells #[] 71)).alloc (.cells #[.slice (some ⟨w2.heap.size + 1, 0, none⟩) 0 0] 72))) := hide (((HB2.out.alloc HB2.out.size _).alloc (by have := HB2.out.size; simp; omega) _).alloc (by have := HB2.out.size; simp; omega) _)
  have HR4 : Hid (opRowsAt (some ⟨w2.heap.size + 1 + 1, 0, none⟩) [[]] (((w2.alloc (.cells #[.int .i64 64, .slice ai iL ci, .slice ar rL cr] 38)).alloc (.cells #[] 71)).alloc (.cells #[.slice (some ⟨w2.heap.size + 1, 0, none⟩) 0 0] 72))) := hide (by
    have h2 := opRowsAt_one (w := (w2.alloc (.cells #[.int .i64 64, .slice ai iL ci, .slice ar rL cr] 38)).alloc (.cells #[] 71)) (L := []) (adl := some ⟨w2.heap.size + 1, 0, none⟩) (n := 0) (capl := 0) (t := 72) rfl (fun i x hx => by simp at hx)
    rw [World.size_alloc, World.size_alloc] at h2
    exact h2)
  have HCH := hide (clcheck_ok (cap := 1) (HE.out.below HB4.out.block) HR4.out)
  rw [show ([[]] : List (List OpI)).length = 1 from rfl] at HCH
  go_wp2_with fail
  refine HCH.out.mono ?_
  rintro e w5 ⟨v, rfl, he, hb5⟩
  obtain rfl : v = .nilIface := by
    rcases he with ⟨-, e⟩ | ⟨h, -⟩ | ⟨h, -⟩
    · exact e
    · exact absurd each_nil1 h
    · exact absurd each_nil1 h
  have HB5 := hide (below_step HB4.out hb5)
  clear he hb5 HCH HR4
  go_wp2_with fail
  go_ret
  exact ⟨rfl, HB5.out⟩
end Go.Proofs.YtoialadjpcdbaaaGreatDoor
