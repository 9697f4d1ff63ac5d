import Derived.Test.YtaiigfcfmcicjaaGreatDoorB39
import Derived.Test.YtaiigfcfmcicjaaGreatDoorB41

/- ClH -/
namespace Go.Proofs.YtaiigfcfmcicjaaGreatDoor
open Go.RowKit Go.Extern.Stop Go.Stop Go.Extern Go.Maps Go.WideMaps Go.Sort

theorem folE_sh0 : ∀ {l : List OpI} {s : CrI}, folE s l = 0 → ∀ x ∈ l, kn x.kind.toList ≠ 0
  | [], _, _, x, hx => by cases hx
  | y :: l, s, h, x, hx => by
    unfold folE at h
    by_cases h0 : shErr (kn y.kind.toList) y.n = 0
    · rw [if_neg (fun k => k h0)] at h
      by_cases h1 : ckErr (kn y.kind.toList) s.deep s.ret = 0
      · rw [if_neg (fun k => k h1)] at h
        rcases List.mem_cons.1 hx with rfl | hx
        · intro hk
          rw [hk] at h0
          simp [shErr] at h0
        · exact folE_sh0 h x hx
      · rw [if_pos h1] at h; exact absurd h h1
    · rw [if_pos h0] at h; exact absurd h h0
theorem eachFrom_zero : ∀ {cl : List (List OpI)} {t : Nat}, (eachFrom cl t).1 = 0 → ∀ L ∈ cl, folE .first L = 0
  | [], _, _, L, hL => by cases hL
  | M :: cl, t, h, L, hL => by
    unfold eachFrom at h
    by_cases h0 : folE .first M = 0
    · rw [if_neg (fun k => k h0)] at h
      rcases List.mem_cons.1 hL with rfl | hL
      · exact h0
      · exact eachFrom_zero h L hL
    · rw [if_pos h0] at h; exact absurd h h0
theorem eachE_ok {cl : List (List OpI)} (h : (eachE cl).1 = 0) : fitB cl = true ∧ cl.length ≤ 6 ∧ 1 ≤ cl.length ∧ kindsOk cl := by
  unfold eachE at h
  by_cases hf : fitB cl = true
  · rw [if_pos hf] at h
    refine ⟨hf, fit_len hf, ?_, fun L hL => ⟨fit_rows hf L hL, folE_sh0 (eachFrom_zero h L hL)⟩⟩
    unfold fitB at hf
    simp only [Bool.and_eq_true, decide_eq_true_eq] at hf
    exact hf.1
  · rw [if_neg hf] at h
    cases h

def clCells : List (List Int) := [[1], [1]]
set_option maxRecDepth 20000 in
set_option maxHeartbeats 4000000 in
theorem clbuild_ok {a : Nat → Addr} {f : Nat} (hf : 1 ≤ f ∧ f ≤ 4) {ad : Option Addr} {cl : List (List OpI)} {cap : Nat} {w : World} (hE : Env a w) (ho : opRowsAt ad cl w) (h0 : (eachE cl).1 = 0) :
    Calls Tryz.prog 15 #[.int .i64 f, .slice ad cl.length cap] w fun e w' => ∃ base sb iv vs rv rs vc ks B, e = .returned (.tuple #[.agg #[.int .i64 64, iv, rv], vc, .nilIface]) ∧ TW base sb w' [] iv vs (graceI f (clCells.map pad4) cl.length) rv rs (rowsG 2 cl.length cl.length) w' ∧ KP B w' vc ks (cl.map (clC f)) w' ∧ w.heap.size < base ∧ w.heap.size < B ∧ Below w.heap.size w w' := by
  obtain ⟨-, h6, -, hk⟩ := eachE_ok h0
  have hB0 : Below w.heap.size w (w.alloc (.cells #[.int .i64 0, .slice none 0 0, .slice none 0 0] 38)) := (Below.refl _ _).alloc (Nat.le_refl _) _
  have HB0 := hide hB0
  have HRC : Hid ((∀ o, (w.alloc (.cells #[.int .i64 0, .slice none 0 0, .slice none 0 0] 38)).cell? ⟨w.heap.size, o, none⟩ = (#[.int .i64 0, .slice none 0 0, .slice none 0 0] : Array Value)[o]?) ∧ (∀ o, (w.alloc (.cells #[.int .i64 0, .slice none 0 0, .slice none 0 0] 38)).frozen? ⟨w.heap.size, o, none⟩ = false) ∧ w.heap.size < (w.alloc (.cells #[.int .i64 0, .slice none 0 0, .slice none 0 0] 38)).heap.size) := hide ⟨fun o => World.cell?_alloc_new _ _ _ _, fun o => World.frozen?_alloc_new _ _ _ _, by simp⟩
  have HCH := hide (clcheck_ok (cap := cap) (hE.below hB0.block) (ho.below hB0))
  have HNA := hide (tname_ok 0 (by decide))
  have HBU := hide (fun (W : World) (hb : Below w.heap.size w W) (ac : Option Addr) (capc : Nat) (hc : cellsAt ac clCells W) => tbuild_ok (cap := cap) (capc := capc) hf (ho.below hb) hk h6 hc (by decide) (by decide))
  rw [show clCells.length = 2 from rfl] at HBU
  rw [show ((0 : Nat) : Int) + 1 = 1 from rfl, show ((0 : Nat) : Int) = 0 from rfl] at HNA
  have hmf : ∀ (fn : Fn) (first cap : Array Value) (w : World), (Instr.makeFunc fn first cap).run Tryz.prog w = .ok (.func fn first cap) w := fun _ _ _ _ => rfl
  have HII := hide (fun (n : Nat) => graceI_len f (clCells.map pad4) n)
  have HRL := hide (fun (n : Nat) => rowsG_len 2 n n)
  have HCL : Hid ((cl.map (clC f)).length = cl.length) := hide (List.length_map _)
  clear hE ho hB0
  generalize cl.length = n at *
  generalize graceI f (clCells.map pad4) n = II at *
  generalize rowsG 2 n n = RR at *
  generalize cl.map (clC f) = CC at *
  generalize hfi : (f : Int) = fi at *
  clear hfi hf hk h6
  have H00 := hide h0
  clear h0
  go_enter Tryz.func15, Tryz.ntmps15
  go_wp2_with fail
  refine HCH.out.mono ?_
  rintro e w2 ⟨v, rfl, he, hb2⟩
  obtain rfl : v = .nilIface := by
    rcases he with ⟨-, e⟩ | ⟨h, -⟩ | ⟨h, -⟩
    · exact e
    · exact absurd H00.out h
    · exact absurd H00.out h
  have HB2 := hide hb2
  clear he hb2 HCH H00
  go_wp2_with fail
  refine (HNA.out _).mono ?_
  rintro e w3 ⟨rfl, hb3⟩
  have HB3 := hide hb3
  clear hb3
  go_wp2_with fail
  have hs3 := HB3.out.size
  rw [World.size_alloc] at hs3
  have hal : Below w3.heap.size w3 ((w3.alloc (.cells #[.int .i64 1] 3)).alloc (.cells #[.slice (some ⟨w2.heap.size, 0, none⟩) 1 1, .slice (some ⟨w3.heap.size, 0, none⟩) 1 1] 54)) := ((Below.refl _ _).alloc (Nat.le_refl _) _).alloc (by simp) _
  have hb6 : Below w2.heap.size w2 ((w3.alloc (.cells #[.int .i64 1] 3)).alloc (.cells #[.slice (some ⟨w2.heap.size, 0, none⟩) 1 1, .slice (some ⟨w3.heap.size, 0, none⟩) 1 1] 54)) := below_step (below_step ((Below.refl _ _).alloc (Nat.le_refl _) _) HB3.out) hal
  have HB6 := hide (below_step (below_step HB0.out HB2.out) hb6)
  have HB7 := hide (below_step HB2.out hb6)
  have HCL6 : Hid (cellsAt (some ⟨w3.heap.size + 1, 0, none⟩) clCells ((w3.alloc (.cells #[.int .i64 1] 3)).alloc (.cells #[.slice (some ⟨w2.heap.size, 0, none⟩) 1 1, .slice (some ⟨w3.heap.size, 0, none⟩) 1 1] 54))) := hide (fun i row hr => by
    have hc : ∀ j, ((w3.alloc (.cells #[.int .i64 1] 3)).alloc (.cells #[.slice (some ⟨w2.heap.size, 0, none⟩) 1 1, .slice (some ⟨w3.heap.size, 0, none⟩) 1 1] 54)).cell? ⟨w3.heap.size + 1, 0 + j, none⟩ = (#[.slice (some ⟨w2.heap.size, 0, none⟩) 1 1, .slice (some ⟨w3.heap.size, 0, none⟩) 1 1] : Array Value)[j]? := fun j => by
      have := World.cell?_alloc_new (w3.alloc (.cells #[.int .i64 1] 3)) #[.slice (some ⟨w2.heap.size, 0, none⟩) 1 1, .slice (some ⟨w3.heap.size, 0, none⟩) 1 1] 54 j
      rw [World.size_alloc] at this
      rw [Nat.zero_add]
      exact this
    match i, hr with
    | 0, hr =>
      cases hr
      exact ⟨_, 0, ⟨w2.heap.size, 0, none⟩, 1, rfl, hc 0, ((numsAt_new (w := w2) (l := [1]) (t := 3) rfl).below HB3.out).below hal, by decide, by decide⟩
    | 1, hr =>
      cases hr
      exact ⟨_, 0, ⟨w3.heap.size, 0, none⟩, 1, rfl, hc 1, (numsAt_new (w := w3) (l := [1]) (t := 3) rfl).below ((Below.refl _ _).alloc (Nat.le_refl _) _), by decide, by decide⟩
    | k + 2, hr => cases hr)
  have HT := hide (HBU.out _ HB6.out _ 2 HCL6.out)
  clear hs3 hal hb6 HB0 HB2 HB3 HCL6 HBU
  generalize ((w3.alloc (.cells #[.int .i64 1] 3)).alloc (.cells #[.slice (some ⟨w2.heap.size, 0, none⟩) 1 1, .slice (some ⟨w3.heap.size, 0, none⟩) 1 1] 54)) = W6 at *
  refine HT.out.mono ?_
  rintro e w7 ⟨base, sb, iv, vs, rv, rs, vc, ks, B, rfl, hT5, hK5, hb5, hB5, hbw⟩
  have hlow := below_step HB7.out hbw
  have HBZ := hide (below_step HB6.out hbw)
  have hz6 := HB6.out.size
  have hq5 : w.heap.size < base := by omega
  have hq6 : w.heap.size < B := by omega
  obtain ⟨ai, ci, eiv, -⟩ := ownsRow_shape hT5.oi
  obtain ⟨ar, cr, erv, -⟩ := ownsRow_shape hT5.or'
  obtain ⟨ax, cx, evc, hcx⟩ := hK5.codes
  subst eiv
  subst erv
  subst evc
  obtain ⟨q1, q2, q3⟩ := HRC.out
  have b0 := keep_cell hlow ((q1 0).trans (show _ = some (.int .i64 0) from rfl))
  have b1 := keep_cell hlow ((q1 1).trans (show _ = some (.slice none 0 0) from rfl))
  have b2 := keep_cell hlow ((q1 2).trans (show _ = some (.slice none 0 0) from rfl))
  have z0 := (hlow.frozen (show (⟨w.heap.size, 0, none⟩ : Addr).block < _ from q3)).trans (q2 0)
  have z1 := (hlow.frozen (show (⟨w.heap.size, 1, none⟩ : Addr).block < _ from q3)).trans (q2 1)
  have z2 := (hlow.frozen (show (⟨w.heap.size, 2, none⟩ : Addr).block < _ from q3)).trans (q2 2)
  have HB9 : Hid (Below w.heap.size w (((w7.setCell ⟨w.heap.size, 0, none⟩ (.int .i64 64)).setCell ⟨w.heap.size, 1, none⟩ (.slice ai II.length ci)).setCell ⟨w.heap.size, 2, none⟩ (.slice ar RR.length cr))) := hide (((HBZ.out.setCell (Nat.le_refl _) _).setCell (Nat.le_refl _) _).setCell (Nat.le_refl _) _)
  have HS9 : Hid (TW base sb (((w7.setCell ⟨w.heap.size, 0, none⟩ (.int .i64 64)).setCell ⟨w.heap.size, 1, none⟩ (.slice ai II.length ci)).setCell ⟨w.heap.size, 2, none⟩ (.slice ar RR.length cr)) [] (.slice ai II.length ci) vs II (.slice ar RR.length cr) rs RR (((w7.setCell ⟨w.heap.size, 0, none⟩ (.int .i64 64)).setCell ⟨w.heap.size, 1, none⟩ (.slice ai II.length ci)).setCell ⟨w.heap.size, 2, none⟩ (.slice ar RR.length cr))) := hide
    (((hT5.out hq5 0 (.int .i64 64) rfl).out hq5 1 (.slice ai II.length ci) rfl).out hq5 2 (.slice ar RR.length cr) rfl)
  have HK9 : Hid (KP B (((w7.setCell ⟨w.heap.size, 0, none⟩ (.int .i64 64)).setCell ⟨w.heap.size, 1, none⟩ (.slice ai II.length ci)).setCell ⟨w.heap.size, 2, none⟩ (.slice ar RR.length cr)) (.slice ax CC.length cx) ks CC (((w7.setCell ⟨w.heap.size, 0, none⟩ (.int .i64 64)).setCell ⟨w.heap.size, 1, none⟩ (.slice ai II.length ci)).setCell ⟨w.heap.size, 2, none⟩ (.slice ar RR.length cr))) := hide
    (((hK5.out hq6 0 (.int .i64 64)).out hq6 1 (.slice ai II.length ci)).out hq6 2 (.slice ar RR.length cr))
  have HE9 : Hid (((((w7.setCell ⟨w.heap.size, 0, none⟩ (.int .i64 64)).setCell ⟨w.heap.size, 1, none⟩ (.slice ai II.length ci)).setCell ⟨w.heap.size, 2, none⟩ (.slice ar RR.length cr))).cell? ⟨w.heap.size, 0, none⟩ = some (.int .i64 64) ∧ ((((w7.setCell ⟨w.heap.size, 0, none⟩ (.int .i64 64)).setCell ⟨w.heap.size, 1, none⟩ (.slice ai II.length ci)).setCell ⟨w.heap.size, 2, none⟩ (.slice ar RR.length cr))).cell? ⟨w.heap.size, 1, none⟩ = some (.slice ai II.length ci) ∧ ((((w7.setCell ⟨w.heap.size, 0, none⟩ (.int .i64 64)).setCell ⟨w.heap.size, 1, none⟩ (.slice ai II.length ci)).setCell ⟨w.heap.size, 2, none⟩ (.slice ar RR.length cr))).cell? ⟨w.heap.size, 2, none⟩ = some (.slice ar RR.length cr)) := hide (by
    have x0 : (w7.setCell ⟨w.heap.size, 0, none⟩ (.int .i64 64)).cell? ⟨w.heap.size, 0, none⟩ = some (.int .i64 64) := World.cell?_setCell_same _ _ _ b0
    have x1 : ((w7.setCell ⟨w.heap.size, 0, none⟩ (.int .i64 64)).setCell ⟨w.heap.size, 1, none⟩ (.slice ai II.length ci)).cell? ⟨w.heap.size, 1, none⟩ = some (.slice ai II.length ci) := World.cell?_setCell_same _ _ _ (cell_ne b1 (.inr (by decide)))
    have x2 : ((((w7.setCell ⟨w.heap.size, 0, none⟩ (.int .i64 64)).setCell ⟨w.heap.size, 1, none⟩ (.slice ai II.length ci)).setCell ⟨w.heap.size, 2, none⟩ (.slice ar RR.length cr))).cell? ⟨w.heap.size, 2, none⟩ = some (.slice ar RR.length cr) := World.cell?_setCell_same _ _ _ (cell_ne (cell_ne b2 (.inr (by decide))) (.inr (by decide)))
    exact ⟨cell_ne (cell_ne x0 (.inr (by decide))) (.inr (by decide)), cell_ne x1 (.inr (by decide)), x2⟩)
  have HQ5 := hide hq5
  have HQ6 := hide hq6
  clear hT5 hK5 hb5 hB5 hbw hlow hcx q1 q2 q3 hq5 hq6 HRC hz6 HT HB6 HB7 HBZ HII HRL HCL HNA
  go_wp2_with fail
  obtain ⟨e0, e1, e2⟩ := HE9.out
  have hBf := HB9.out
  have hst := HS9.out
  have hco := HK9.out
  generalize (((w7.setCell ⟨w.heap.size, 0, none⟩ (.int .i64 64)).setCell ⟨w.heap.size, 1, none⟩ (.slice ai II.length ci)).setCell ⟨w.heap.size, 2, none⟩ (.slice ar RR.length cr)) = WW at *
  refine bodyPost_ret (v := .tuple #[.agg #[.int .i64 64, .slice ai II.length ci, .slice ar RR.length cr], .slice ax CC.length cx, .nilIface]) (by rw [results_cell_tmp2 (show Tryz.f15.results = _ from rfl)]; go_simp) rfl ?_
  exact ⟨base, sb, _, vs, _, rs, _, ks, B, rfl, hst, hco, HQ5.out, HQ6.out, hBf⟩
end Go.Proofs.YtaiigfcfmcicjaaGreatDoor

/- ClN -/
namespace Go.Proofs.YtaiigfcfmcicjaaGreatDoor
open Go.RowKit Go.Extern.Stop Go.Stop Go.Extern Go.Maps Go.WideMaps Go.Sort

def kbEnter : ByteArray := ⟨#[101, 110, 116, 101, 114]⟩
def kbRead : ByteArray := ⟨#[114, 101, 97, 100]⟩
def kbLeave : ByteArray := ⟨#[108, 101, 97, 118, 101]⟩
theorem kn_enter : kn kbEnter.toList = 2 := by unfold kbEnter; rw [toList_bl]; rfl
theorem kn_read : kn kbRead.toList = 6 := by unfold kbRead; rw [toList_bl]; rfl
theorem kn_leave : kn kbLeave.toList = 3 := by unfold kbLeave; rw [toList_bl]; rfl
def cl0 : List (List OpI) := [[⟨kbEnter, 0⟩, ⟨kbRead, 0⟩, ⟨kbLeave, 0⟩]]
theorem each_cl0 : (eachE cl0).1 = 0 := by
  unfold eachE
  rw [if_pos (show fitB cl0 = true by decide)]
  simp [cl0, eachFrom, folE, kn_enter, kn_read, kn_leave, shErr, ckErr, CrI.pass, CrI.first, psDeep, psRet, psWt]
theorem each_nil1 : (eachE [[]]).1 = 0 := by decide
theorem opsAt_new {w : World} {l : List OpI} {cs : Array Value} {t : TypeId} (h : cs.toList = l.flatMap fun x => [.string x.kind, .int .i64 x.n]) : opsAt (some ⟨w.heap.size, 0, none⟩) l (w.alloc (.cells cs t)) := by
  have hat : ∀ (l : List OpI) (i j : Nat) (x : OpI), l[i]? = some x → j < 2 → (l.flatMap fun x => ([.string x.kind, .int .i64 x.n] : List Value))[i * 2 + j]? = ([.string x.kind, .int .i64 x.n] : List Value)[j]? := fun l => by
    induction l with
    | nil => intro i j x h _; simp at h
    | cons y l ih =>
      intro i j x h hj
      cases i with
      | zero =>
        cases h
        show ([.string y.kind, .int .i64 y.n] ++ _ : List Value)[0 * 2 + j]? = _
        rw [List.getElem?_append_left (by show 0 * 2 + j < 2; omega), Nat.zero_mul, Nat.zero_add]
      | succ i =>
        show ([.string y.kind, .int .i64 y.n] ++ _ : List Value)[(i + 1) * 2 + j]? = _
        rw [List.getElem?_append_right (by show 2 ≤ _; omega), show (i + 1) * 2 + j - ([.string y.kind, .int .i64 y.n] : List Value).length = i * 2 + j by show _ - 2 = _; omega]
        exact ih i j x (by simpa using h) hj
  intro i x hx
  have key : ∀ j, j < 2 → (w.alloc (.cells cs t)).cell? ⟨w.heap.size, i * 2 + j, none⟩ = ([.string x.kind, .int .i64 x.n] : List Value)[j]? := fun j hj => by
    rw [World.cell?_alloc_new, ← hat l i j x hx hj, ← h]
    simp
  refine ⟨w.heap.size, 0, rfl, ?_, ?_⟩
  · rw [show 0 + i * 2 = i * 2 + 0 by omega]; exact key 0 (by decide)
  · rw [show 0 + i * 2 + 1 = i * 2 + 1 by omega]; exact key 1 (by decide)
theorem opRowsAt_one {w : World} {L : List OpI} {adl : Option Addr} {n capl : Nat} {t : TypeId} (hn : L.length = n) (h : opsAt adl L w) : opRowsAt (some ⟨w.heap.size, 0, none⟩) [L] (w.alloc (.cells #[.slice adl n capl] t)) := by
  subst hn
  intro i M hM
  cases i with
  | zero =>
    cases hM
    exact ⟨_, 0, adl, capl, rfl, by rw [World.cell?_alloc_new]; rfl, h.below ((Below.refl _ _).alloc (Nat.le_refl _) _)⟩
  | succ i => simp at hM

set_option maxRecDepth 20000 in
set_option maxHeartbeats 4000000 in
theorem built_any {a : Nat → Addr} {w : World} (hE : Env a w) :
    Calls Tryz.prog 8 #[] w fun e w' => e = .returned (.bool true) ∧ Below w.heap.size w w' := by
  have hA1 : Below w.heap.size w (w.alloc (.cells #[.string ⟨#[101, 110, 116, 101, 114]⟩, .int .i64 0, .string ⟨#[114, 101, 97, 100]⟩, .int .i64 0, .string ⟨#[108, 101, 97, 118, 101]⟩, .int .i64 0] 72)) := (Below.refl _ _).alloc (Nat.le_refl _) _
  have hA2 : Below w.heap.size w ((w.alloc (.cells #[.string ⟨#[101, 110, 116, 101, 114]⟩, .int .i64 0, .string ⟨#[114, 101, 97, 100]⟩, .int .i64 0, .string ⟨#[108, 101, 97, 118, 101]⟩, .int .i64 0] 72)).alloc (.cells #[.slice (some ⟨w.heap.size, 0, none⟩) 3 3] 70)) := hA1.alloc (by simp) _
  have hr : opRowsAt (some ⟨w.heap.size + 1, 0, none⟩) cl0 ((w.alloc (.cells #[.string ⟨#[101, 110, 116, 101, 114]⟩, .int .i64 0, .string ⟨#[114, 101, 97, 100]⟩, .int .i64 0, .string ⟨#[108, 101, 97, 118, 101]⟩, .int .i64 0] 72)).alloc (.cells #[.slice (some ⟨w.heap.size, 0, none⟩) 3 3] 70)) := by
    have h1 := opsAt_new (w := w) (l := [⟨kbEnter, 0⟩, ⟨kbRead, 0⟩, ⟨kbLeave, 0⟩]) (cs := #[.string ⟨#[101, 110, 116, 101, 114]⟩, .int .i64 0, .string ⟨#[114, 101, 97, 100]⟩, .int .i64 0, .string ⟨#[108, 101, 97, 118, 101]⟩, .int .i64 0]) (t := 72) rfl
    have h2 := opRowsAt_one (n := 3) (capl := 3) (t := 70) rfl h1
    rw [World.size_alloc] at h2
    exact h2
  have HBU := hide (clbuild_ok (f := 1) (cap := 1) (by decide) (hE.below hA2.block) hr each_cl0)
  rw [show cl0.length = 1 from rfl, show ((1 : Nat) : Int) = 1 from rfl] at HBU
  have HA2 := hide hA2
  have HE := hide hE
  have HI := hide (graceI_len 1 (clCells.map pad4) 1)
  clear hA1 hA2 hr hE
  generalize graceI 1 (clCells.map pad4) 1 = II at *
  generalize rowsG 2 1 1 = RR at *
  go_enter Tryz.func8, Tryz.ntmps8
  go_wp2_with fail
  refine HBU.out.mono ?_
  rintro e w2 ⟨base, sb, iv, vs, rv, rs, vc, ks, B, rfl, hT5, hK5, -, -, hbw⟩
  have HB2 := hide (below_step HA2.out hbw)
  obtain ⟨ai, ci, eiv, -⟩ := ownsRow_shape hT5.oi
  obtain ⟨ar, cr, erv, -⟩ := ownsRow_shape hT5.or'
  obtain ⟨ax, cx, evc, hcx⟩ := hK5.codes
  have hl1 : (cl0.map (clC 1)).length = 1 := rfl
  rw [hl1] at evc
  subst eiv
  subst erv
  subst evc
  clear hT5 hK5 hbw hcx hl1 HBU HA2
  generalize hI : II.length = iL at *
  generalize hR : RR.length = rL at *
  have HB4 : Hid (Below w.heap.size w (((w2.alloc (.cells #[.int .i64 64, .slice ai iL ci, .slice ar rL cr] 38)).alloc (.cells #[] 72)).alloc (.cells #[.slice (some ⟨w2.heap.size + 1, 0, none⟩) 0 0] 70))) := hide (((HB2.out.alloc HB2.out.size _).alloc (by have := HB2.out.size; simp; omega) _).alloc (by have := HB2.out.size; simp; omega) _)
  have HR4 : Hid (opRowsAt (some ⟨w2.heap.size + 1 + 1, 0, none⟩) [[]] (((w2.alloc (.cells #[.int .i64 64, .slice ai iL ci, .slice ar rL cr] 38)).alloc (.cells #[] 72)).alloc (.cells #[.slice (some ⟨w2.heap.size + 1, 0, none⟩) 0 0] 70))) := hide (by
    have h2 := opRowsAt_one (w := (w2.alloc (.cells #[.int .i64 64, .slice ai iL ci, .slice ar rL cr] 38)).alloc (.cells #[] 72)) (L := []) (adl := some ⟨w2.heap.size + 1, 0, none⟩) (n := 0) (capl := 0) (t := 70) rfl (fun i x hx => by simp at hx)
    rw [World.size_alloc, World.size_alloc] at h2
    exact h2)
  have HCH := hide (clcheck_ok (cap := 1) (HE.out.below HB4.out.block) HR4.out)
  rw [show ([[]] : List (List OpI)).length = 1 from rfl] at HCH
  go_wp2_with fail
  refine HCH.out.mono ?_
  rintro e w5 ⟨v, rfl, he, hb5⟩
  obtain rfl : v = .nilIface := by
    rcases he with ⟨-, e⟩ | ⟨h, -⟩ | ⟨h, -⟩
    · exact e
    · exact absurd each_nil1 h
    · exact absurd each_nil1 h
  have HB5 := hide (below_step HB4.out hb5)
  clear he hb5 HCH HR4
  go_wp2_with fail
  go_ret
  exact ⟨rfl, HB5.out⟩
end Go.Proofs.YtaiigfcfmcicjaaGreatDoor

/- ClK -/
namespace Go.Proofs.YtaiigfcfmcicjaaGreatDoor
open Go.RowKit Go.Extern.Stop Go.Stop Go.Extern Go.Maps Go.WideMaps Go.Sort

def ocell (x : OpI) : List Value := [.string x.kind, .int .i64 x.n]
def ocells (l : List OpI) : List Value := l.flatMap ocell
theorem ocells_len (l : List OpI) : (ocells l).length = l.length * 2 := by
  induction l with
  | nil => rfl
  | cons x l ih =>
    show (ocell x ++ ocells l).length = _
    rw [List.length_append, ih, List.length_cons]
    show 2 + _ = _
    omega
theorem ocells_at : ∀ (l : List OpI) (i j : Nat) (x : OpI), l[i]? = some x → j < 2 → (ocells l)[i * 2 + j]? = (ocell x)[j]?
  | [], i, j, x, h, _ => by simp at h
  | y :: l, 0, j, x, h, hj => by
    cases h
    show (ocell _ ++ ocells l)[0 * 2 + j]? = _
    rw [List.getElem?_append_left (by show 0 * 2 + j < 2; omega), Nat.zero_mul, Nat.zero_add]
  | y :: l, i + 1, j, x, h, hj => by
    show (ocell y ++ ocells l)[(i + 1) * 2 + j]? = _
    rw [List.getElem?_append_right (by show 2 ≤ _; omega), show (i + 1) * 2 + j - (ocell y).length = i * 2 + j by show _ - 2 = _; omega]
    exact ocells_at l i j x (by simpa using h) hj
theorem ocells_one {l : List OpI} : ∀ u ∈ ocells l, u.oneCell' = true := fun u hu => by
  obtain ⟨x, -, h⟩ := List.mem_flatMap.1 hu
  simp only [ocell, List.mem_cons, List.not_mem_nil, or_false] at h
  rcases h with rfl | rfl <;> rfl
theorem opsAt_cells {b off : Nat} {l : List OpI} {w : World} (h : opsAt (some ⟨b, off, none⟩) l w) (k : Nat) (u : Value) (hu : (ocells l)[k]? = some u) : w.cell? ⟨b, off + k, none⟩ = some u := by
  have hk := (List.getElem?_eq_some_iff.1 hu).1
  rw [ocells_len] at hk
  obtain ⟨x, hx⟩ : ∃ x, l[k / 2]? = some x := ⟨_, List.getElem?_eq_getElem (by omega)⟩
  obtain ⟨b', off', e, h0, h1⟩ := h _ x hx
  cases e
  have e := ocells_at l (k / 2) (k % 2) x hx (Nat.mod_lt _ (by decide))
  rw [show k / 2 * 2 + k % 2 = k by omega, hu] at e
  have h5 : k % 2 < 2 := Nat.mod_lt _ (by decide)
  rw [show off + k = off + k / 2 * 2 + k % 2 by omega]
  generalize k % 2 = j at *
  match j, h5, e with
  | 0, _, e => cases e; exact h0
  | 1, _, e => cases e; exact h1
theorem opsAt_of_ocells {w : World} {base : Nat} {e : TypeId} {l : List OpI} {v : Value} (h : w.ownsRow base e 2 v l.length (ocells l)) : ∃ ad cap, v = .slice ad l.length cap ∧ opsAt ad l w := by
  obtain ⟨g, c, rfl, h1, h2, h3⟩ := ownsRow_shape h
  refine ⟨g, c, rfl, fun i x hx => ?_⟩
  have key : ∀ j, j < 2 → ∀ u, (ocell x)[j]? = some u → ∃ b off, g = some ⟨b, off, none⟩ ∧ w.cell? ⟨b, off + (i * 2 + j), none⟩ = some u := fun j hj u hu => by
    rw [← ocells_at l i j x hx hj] at hu
    obtain ⟨gg, e, hc⟩ := h3 _ _ hu
    exact ⟨gg, 0, e, by rw [Nat.zero_add]; exact hc⟩
  obtain ⟨b, off, rfl, k0⟩ := key 0 (by decide) _ rfl
  obtain ⟨_, _, e1, k1⟩ := key 1 (by decide) _ rfl
  cases e1
  exact ⟨b, off, rfl, k0, k1⟩
theorem opInfo : ∃ i, (Tryz.prog).info? 72 = some i ∧ i.zero = some (.agg #[.string ⟨#[]⟩, .int .i64 0]) ∧ i.size = 2 ∧ i.bytes = 24 := info_parts (by kernel_rfl)
theorem opRowInfo : ∃ i, (Tryz.prog).info? 70 = some i ∧ i.zero = some (.slice none 0 0) ∧ i.size = 1 ∧ i.bytes = 24 := info_parts (by kernel_rfl)
def opsOwn (w : World) (base : Nat) (v : Value) (l : List OpI) : Prop := w.ownsRow base 72 2 v l.length (ocells l)
theorem opsOwn_keep {w w' : World} {base : Nat} {v : Value} {l : List OpI} (h : opsOwn w base v l) (k : Below w.heap.size w w') : opsOwn w' base v l :=
  ownsRow_block h (fun b hb => k.block b (h.lt b hb).2)
theorem opsOwn_kept {w w' : World} {base : Nat} {v : Value} {l : List OpI} {ob : Option Nat} (h : opsOwn w base v l) (hg : w.grownBy w' ob) (hne : v.ownBlock = none ∨ v.ownBlock ≠ ob) : opsOwn w' base v l := World.ownsRow.kept h hg hne
theorem opsOwn_mono {w : World} {base base' : Nat} {v : Value} {l : List OpI} (h : opsOwn w base v l) (hb : base' ≤ base) : opsOwn w base' v l := by
  obtain ⟨h1, h2⟩ := h
  refine ⟨h1, ?_⟩
  rcases h2 with h2 | ⟨g, cap, cur, e, hg, r⟩
  · exact .inl h2
  · exact .inr ⟨g, cap, cur, e, Nat.le_trans hb hg, r⟩

structure OpP (base : Nat) (w1 : World) (v : Value) (vs : List Value) (Ls : List (List OpI)) (w : World) : Prop where
  own : w.ownsRow base 70 1 v Ls.length vs
  el : ∀ (i : Nat) L, Ls[i]? = some L → ∃ u, vs[i]? = some u ∧ opsOwn w base u L ∧ ∀ b, u.ownBlock = some b → v.ownBlock ≠ some b
  low : Below base w1 w
  bz : base ≤ w.heap.size
section
variable {base : Nat} {w1 : World} {v : Value} {vs : List Value} {Ls : List (List OpI)} {w w' : World}
theorem OpP.nil (h : Below base w1 w) (hb : base ≤ w.heap.size) : OpP base w1 (.slice none 0 0) [] [] w := ⟨World.ownsRow_nil _ _ _ _, fun i L hi => by simp at hi, h, hb⟩
theorem OpP.below (h : OpP base w1 v vs Ls w) (k : Below w.heap.size w w') : OpP base w1 v vs Ls w' :=
  ⟨ownsRow_block h.own (fun b hb => k.block b (h.own.lt b hb).2), fun i L hi => by obtain ⟨u, h1, h2, h3⟩ := h.el i L hi; exact ⟨u, h1, opsOwn_keep h2 k, h3⟩, h.low.trans (k.mono h.bz), Nat.le_trans h.bz k.size⟩
theorem OpP.add (h : OpP base w1 v vs Ls w) {u : Value} {L : List OpI} (hu : opsOwn w base u L) (hne : ∀ b, u.ownBlock = some b → v.ownBlock ≠ some b) {v' : Value} {N : Nat} (hN : w.heap.size ≤ N)
    (ho : w'.ownsRow base 70 1 v' (Ls.length + 1) (vs ++ [u])) (hg : w.grownBy w' v.ownBlock) (hloc : v'.ownBlock = v.ownBlock ∨ v'.ownBlock = some N) : OpP base w1 v' (vs ++ [u]) (Ls ++ [L]) w' := by
  have hB : Below base w w' := (Below.refl base w).grown hg h.bz (fun k hk => (h.own.lt k hk).1)
  have nb : ∀ b, b < w.heap.size → v.ownBlock ≠ some b → v'.ownBlock ≠ some b := fun b hb hne e => by
    rcases hloc with h1 | h1
    · rw [h1] at e; exact hne e
    · rw [h1] at e
      have := Option.some.inj e
      omega
  have kn : ∀ {u : Value} {L : List OpI}, opsOwn w base u L → (∀ b, u.ownBlock = some b → v.ownBlock ≠ some b) → opsOwn w' base u L ∧ ∀ b, u.ownBlock = some b → v'.ownBlock ≠ some b := fun {u L} h1 h2 => by
    refine ⟨opsOwn_kept h1 hg ?_, fun b e => nb b (World.ownsRow.lt h1 b e).2 (h2 b e)⟩
    cases hr : u.ownBlock with
    | none => exact .inl rfl
    | some b => exact .inr fun e => h2 b hr e.symm
  have lv : vs.length = Ls.length := by have := h.own.1; omega
  refine ⟨by rw [List.length_append]; exact ho, fun i M hi => ?_, h.low.trans hB, Nat.le_trans h.bz hB.size⟩
  by_cases hlt : i < Ls.length
  · rw [List.getElem?_append_left hlt] at hi
    obtain ⟨x, h1, h2, h3⟩ := h.el i M hi
    exact ⟨x, by rw [List.getElem?_append_left (by omega)]; exact h1, (kn h2 h3).1, (kn h2 h3).2⟩
  · rw [List.getElem?_append_right (by omega)] at hi
    have hi0 : i - Ls.length = 0 := by
      have := (List.getElem?_eq_some_iff.1 hi).1
      simp at this; omega
    rw [hi0] at hi
    cases hi
    exact ⟨u, by rw [List.getElem?_append_right (by omega), lv, hi0]; rfl, (kn hu hne).1, (kn hu hne).2⟩
theorem OpP.rows (h : OpP base w1 v vs Ls w) : ∃ ad cap, v = .slice ad Ls.length cap ∧ opRowsAt ad Ls w := by
  obtain ⟨ad, cap, e2, g1, g2, g3⟩ := ownsRow_shape h.own
  refine ⟨ad, cap, e2, fun t L ht => ?_⟩
  obtain ⟨u, h1, h2, -⟩ := h.el t L ht
  obtain ⟨g, eg, cg⟩ := g3 t u h1
  obtain ⟨adl, capl, eu, k1⟩ := opsAt_of_ocells h2
  exact ⟨g, 0, adl, capl, eg, by rw [Nat.zero_add, cg, eu], k1⟩
end

theorem run_append_ops {w : World} {adl : Option Addr} {L : List OpI} {capl : Nat} (h : opsAt adl L w) (hl : L.length ≤ 100) (ty : TypeId) :
    ∃ v' w', (Builtin.append_ #[70, 70] ty #[.slice none 0 0, .slice adl L.length capl]).run Tryz.prog w = .ok v' w' ∧ opsOwn w' w.heap.size v' L ∧ Below w.heap.size w w' := by
  obtain ⟨ri, hri, hrz, hrs, hrb⟩ := opInfo
  cases adl with
  | none =>
    have hL : L = [] := by
      cases L with
      | nil => rfl
      | cons x l => obtain ⟨b, off, e, -⟩ := h 0 x rfl; cases e
    subst hL
    refine ⟨.slice none 0 0, w, ?_, World.ownsRow_nil _ _ _ _, Below.refl _ _⟩
    have ht := Tryz.underlying70
    simp [Builtin.append_, run_underlying ht, sizeOf, typeInfo, hri, Builtin.lenOf, Builtin.firstCells]
  | some a =>
    obtain ⟨v', w', hr, h2, h4, -, -⟩ := run_append_own_at (P := Tryz.prog) (w := w) w.heap.size 70 ty 72 ri (.agg #[.string ⟨#[]⟩, .int .i64 0]) 2 24 Tryz.underlying70 hri hrz hrs hrb rfl (by decide) (.slice none 0 0) 0 [] (World.ownsRow_nil _ _ _ _) a L.length capl (ocells L) (ocells_len L) (fun j x hj => by
        have hj5 : j < L.length * 2 := by
          have := (List.getElem?_eq_some_iff.1 hj).1
          rwa [ocells_len] at this
        obtain ⟨y, hy⟩ : ∃ y, L[0]? = some y := ⟨_, List.getElem?_eq_getElem (by omega)⟩
        obtain ⟨b, off, e, -⟩ := h 0 y hy
        cases e
        rw [Addr.add_lit]
        exact opsAt_cells h j x hj) ocells_one (by unfold maxLen; omega) (by omega) (Nat.le_refl _)
    refine ⟨v', w', hr, ?_, (Below.refl w.heap.size w).grown h4 (Nat.le_refl _) (fun k hk => by cases hk)⟩
    unfold opsOwn
    rw [Nat.zero_add] at h2
    exact h2
theorem wpList_append_ops {ops : Array Oper} {rest : List Oper} {o : Oper} {a : Act} (w : World) {Q : Exit → Act → World → Prop} (hgd : o.guard = none) (s x : Operand)
    (ho : o.op = .call { callee := .builtin .append, args := #[s, x], argTypes := #[70, 70] }) {adl : Option Addr} {L : List OpI} {capl : Nat}
    (hs : a.eval s = .slice none 0 0) (hx : a.eval x = .slice adl L.length capl) (hu : opsAt adl L w) (hl : L.length ≤ 100)
    (h : ∀ v' w', opsOwn w' w.heap.size v' L → Below w.heap.size w w' → wpList Tryz.prog ops Q rest (a.put o.dst v') w') : wpList Tryz.prog ops Q (o :: rest) a w := by
  refine wpList_plain hgd fun K hK => ?_
  obtain ⟨v', w', hr, h4, h5⟩ := run_append_ops (capl := capl) hu hl o.type
  unfold Oper.wp execOp
  simp only [ho, resolve, invoke, builtin, Sem.run_bind, Sem.run_pure, Result.andThen_ok, List.map_toArray, List.map_cons, List.map_nil, hs, hx, hr]
  exact hK _ _ (h v' w' h4 h5)

set_option maxRecDepth 20000 in
set_option maxHeartbeats 2000000 in
theorem opsof_any {ad : Option Addr} {cl : List (List OpI)} {cap : Nat} {w : World} (ho : opRowsAt ad cl w) (h10 : cl.length ≤ 10) (h30 : ∀ L ∈ cl, L.length ≤ 30) :
    Calls Tryz.prog 11 #[.slice ad cl.length cap] w fun e w' => ∃ ad' cap', e = .returned (.slice ad' cl.length cap') ∧ opRowsAt ad' cl w' ∧ Below w.heap.size w w' := by
  have HO := hide ho
  have H30 := hide h30
  obtain ⟨n, hln⟩ : ∃ n, Hid (cl.length = n) := ⟨_, hide rfl⟩
  rw [hln.out] at h10 ⊢
  clear ho h30
  have HP0 : Hid (OpP w.heap.size w (.slice none 0 0) [] (cl.take 0) w) := hide (OpP.nil (Below.refl _ _) (Nat.le_refl _))
  go_enter Tryz.func11, Tryz.ntmps11
  go_wp2_with fail
  go_loopw [3, 4, 5] (fun v i _ wr => ∃ t : Nat, t ≤ n ∧ i = .int .i64 t ∧ Hid (∃ vs, OpP w.heap.size w v vs (cl.take t) wr)) (fun _ i _ _ => n - (intOf i).toNat)
  case atStart => exact ⟨0, Nat.zero_le _, rfl, hide ⟨_, HP0.out⟩⟩
  case round =>
    clear HP0
    obtain ⟨t, ht, rfl, HP⟩ := hrel
    generalize u3 = v at *
    obtain ⟨vs, hP⟩ := HP.out
    by_cases hlt : t < n
    · have ti : (t : Int) < n := by omega
      obtain ⟨L, hL⟩ : ∃ L, cl[t]? = some L := ⟨_, List.getElem?_eq_getElem (by rw [hln.out]; exact hlt)⟩
      have HBW := hide hP.low
      obtain ⟨b, off, adl, capl, rfl, c0, hops⟩ := (HO.out.below (hP.low.mono (Nat.le_refl _))) t L hL
      have hkl := H30.out L (List.mem_of_getElem? hL)
      have HSU : Hid (cl.take (t + 1) = cl.take t ++ [L]) := hide (by rw [List.take_add_one, hL]; rfl)
      have HP1 := hide hP
      have HOP := hide hops
      have HLn : Hid (L.length ≤ 100) := hide (by omega)
      clear hP HP hL hkl hops
      obtain ⟨ric, hric, hrz, hrs, hrb⟩ := opRowInfo
      obtain ⟨LC, HLC, hLC⟩ : ∃ LC, Hid (LC = (cl.take t).length) ∧ LC ≤ 11 := ⟨_, hide rfl, by rw [List.length_take]; omega⟩
      go_wp2_with (at_builtin; refine wpList_append_ops _ rfl _ _ rfl (L := L) (adl := adl) (capl := capl) rfl rfl HOP.out HLn.out ?_)
      intro v2 w2 hv2 hb2
      obtain ⟨au, cu, e3, -⟩ := ownsRow_shape hv2
      subst e3
      have HU : Hid (opsOwn w2 w.heap.size (.slice au L.length cu) L) := hide (opsOwn_mono hv2 HP1.out.bz)
      have HNE : Hid (∀ b, (Value.slice au L.length cu).ownBlock = some b → v.ownBlock ≠ some b) := hide fun b e e2 => by
        have h1 := (World.ownsRow.lt hv2 b e).1
        have h2 := (HP1.out.own.lt b e2).2
        omega
      have HP3 := hide (HP1.out.below hb2)
      clear hv2 hb2 HP1 HOP HLn
      generalize hLl : L.length = lu at *
      have bel : Below w2.heap.size w2 (w2.alloc (.cells #[.slice au lu cu] 70)) := (Below.refl _ _).alloc (Nat.le_refl _) _
      go_wp2_with (at_builtin; refine wpList_append_own_at _ rfl _ _ 22 rfl w.heap.size 70 ric (.slice none 0 0) 1 24 Tryz.underlying22 hric hrz hrs hrb rfl (by decide) v LC vs rfl ?p0 ⟨w2.heap.size, 0, none⟩ 1 1 [.slice au lu cu] rfl rfl ?p1 ?p2 ?p3 ?p4 ?p5 ?_)
      case p0 => rw [HLC.out]; exact (HP3.out.below bel).own
      case p1 =>
        intro k x hk
        cases k with
        | zero => cases hk; rw [Addr.add_lit]; simp
        | succ k => simp at hk
      case p2 =>
        intro x hx
        obtain rfl : x = .slice au lu cu := by simpa using hx
        rfl
      case p3 => unfold maxLen; omega
      case p4 => omega
      case p5 => have := HP3.out.bz; simp; omega
      intro v' w6 ho hg hnil hloc
      have HP6 : Hid (OpP w.heap.size w v' (vs ++ [.slice au lu cu]) (cl.take (t + 1)) w6) := hide (by
        rw [HSU.out]
        exact (HP3.out.below bel).add (opsOwn_keep HU.out bel) HNE.out (N := w2.heap.size + 1) (by simp) (by rw [← HLC.out]; exact ho) hg hloc)
      clear ho hg hnil hloc HP3 HU HNE HSU bel HLC hLC hric hrz hrs hrb
      go_wp2_with fail
      go_roundw
      case rel => exact ⟨t + 1, by omega, by go_num, hide ⟨_, HP6.out⟩⟩
      case measure => simp [intOf]; omega
    · obtain rfl : t = n := by omega
      have HTK : Hid (cl.take t = cl) := hide (by rw [← hln.out, List.take_length])
      obtain ⟨ad', cap', e, hr⟩ := hP.rows
      rw [HTK.out] at hr
      have hlen : (cl.take t).length = t := by rw [HTK.out, hln.out]
      rw [hlen] at e
      subst e
      have HRR := hide hr
      have HBB := hide hP.low
      clear hP HP hr hlen
      go_wp2_with fail
      go_ret
      exact ⟨ad', cap', rfl, HRR.out, HBB.out⟩
end Go.Proofs.YtaiigfcfmcicjaaGreatDoor
