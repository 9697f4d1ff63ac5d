import Derived.Test.YtaiigfcfmcicjaaGreatDoorF30
import Derived.Test.YtaiigfcfmcicjaaGreatDoorF31
import Derived.Test.YtaiigfcfmcicjaaGreatDoorF27
import Derived.Test.YtaiigfcfmcicjaaGreatDoorF07
import Derived.Test.YtaiigfcfmcicjaaGreatDoorF17
namespace Go.Proofs.YtaiigfcfmcicjaaGreatDoor
set_option maxRecDepth 100000
set_option maxHeartbeats 8000000
section
open Go.RowKit Go.Extern.Stop Go.Stop Go.Extern Go.Maps Go.WideMaps Go.Sort
theorem folE_sh0 : ∀ {l : List OpI} {s : CrI}, folE s l = 0 -> ∀ x ∈ l, kn x.kind.toList ≠ 0
 | [], _, _, x, hx => by cases hx
 | y :: l, s, h, x, hx => by
  unfold folE at h
  by_cases h0 : shErr (kn y.kind.toList) y.n = 0
  ·rw [if_neg (fun k => k h0)] at h
   by_cases h1 : ckErr (kn y.kind.toList) s.deep s.ret = 0
   ·rw [if_neg (fun k => k h1)] at h
    rcases List.mem_cons.1 hx with rfl | hx
    ·intro hk
     rw [hk] at h0
     simp [shErr] at h0
    ·exact folE_sh0 h x hx
   ·rw [if_pos h1] at h; exact absurd h h1
  ·rw [if_pos h0] at h; exact absurd h h0
theorem eachFrom_zero : ∀ {cl : List (List OpI)} {t : Nat}, (eachFrom cl t).1 = 0 -> ∀ L ∈ cl, folE .first L = 0
 | [], _, _, L, hL => by cases hL
 | M :: cl, t, h, L, hL => by
  unfold eachFrom at h
  by_cases h0 : folE .first M = 0
  ·rw [if_neg (fun k => k h0)] at h
   rcases List.mem_cons.1 hL with rfl | hL
   ·exact h0
   ·exact eachFrom_zero h L hL
  ·rw [if_pos h0] at h; exact absurd h h0
theorem eachE_ok {cl : List (List OpI)} (h : (eachE cl).1 = 0) : fitB cl = true /\ cl.length <= 6 /\ 1 <= cl.length /\ kindsOk cl := by
 unfold eachE at h
 by_cases hf : fitB cl = true
 ·rw [if_pos hf] at h
  refine ⟨hf, fit_len hf, ?_, fun L hL => ⟨fit_rows hf L hL, folE_sh0 (eachFrom_zero h L hL)⟩⟩
  unfold fitB at hf
  simp only [Bool.and_eq_true, decide_eq_true_eq] at hf
  exact hf.1
 ·rw [if_neg hf] at h
  cases h
def clCells : List (List Int) := [[1], [1]]
theorem clbuild_ok {a : Nat -> Addr} {f : Nat} (hf : 1 <= f /\ f <= 4) {ad : Option Addr} {cl : List (List OpI)} {cap : Nat} {w : World} (hE : EnvL a w) (ho : opRowsAt ad cl w) (h0 : (eachE cl).1 = 0) :
  Calls Tryz.prog 15 #[.int .i64 f, .slice ad cl.length cap] w fun e w' => ∃ base sb iv vs rv rs vc ks B, e = .returned (.tuple #[.agg #[.int .i64 64, iv, rv], vc, .nilIface]) /\ TW base sb w' [] iv vs (graceI f (clCells.map pad4) cl.length) rv rs (rowsG 2 cl.length cl.length) w' /\ KP B w' vc ks (cl.map (clC f)) w' /\ w.heap.size < base /\ w.heap.size < B /\ Below w.heap.size w w' := by
 obtain ⟨-, h6, -, hk⟩ := eachE_ok h0
 have hB0 : Below w.heap.size w (w.alloc (.cells #[.int .i64 0, .slice none 0 0, .slice none 0 0] 38)) := bRf.alloc nL _
 have HB0 := hide hB0
 have HRC : Hid ((∀ o, (w.alloc (.cells #[.int .i64 0, .slice none 0 0, .slice none 0 0] 38)).cell? ⟨w.heap.size, o, none⟩ = (#[.int .i64 0, .slice none 0 0, .slice none 0 0] : Array Value)[o]?) /\ (∀ o, (w.alloc (.cells #[.int .i64 0, .slice none 0 0, .slice none 0 0] 38)).frozen? ⟨w.heap.size, o, none⟩ = false) /\ w.heap.size < (w.alloc (.cells #[.int .i64 0, .slice none 0 0, .slice none 0 0] 38)).heap.size) := hide ⟨fun o => World.cell?_alloc_new _ _ _ _, fun o => World.frozen?_alloc_new _ _ _ _, by simp⟩
 have HCH := hide (clcheck_ok (cap := cap) (hE.below hB0.block) (ho.below hB0))
 have HNA := hide (tname_ok 0 (by decide))
 have HBU := hide (fun (W : World) (hb : Below w.heap.size w W) (ac : Option Addr) (capc : Nat) (hc : cellsAt ac clCells W) => tbuild_ok (cap := cap) (capc := capc) hf (ho.below hb) hk h6 hc (by decide) (by decide))
 rw [show clCells.length = 2 from rfl] at HBU
 rw [show ((0 : Nat) : Int) + 1 = 1 from rfl, show ((0 : Nat) : Int) = 0 from rfl] at HNA
 have hmf := @hmf_any
 have HII := hide (fun (n : Nat) => graceI_len f (clCells.map pad4) n)
 have HRL := hide (fun (n : Nat) => rowsG_len 2 n n)
 have HCL : Hid ((cl.map (clC f)).length = cl.length) := hide (List.length_map _)
 clear hE ho hB0
 generalize cl.length = n at *
 generalize graceI f (clCells.map pad4) n = II at *
 generalize rowsG 2 n n = RR at *
 generalize cl.map (clC f) = CC at *
 generalize hfi : (f : Int) = fi at *
 clear hfi hf hk h6
 have H00 := hide h0
 clear h0
 go_enter Tryz.func15, Tryz.ntmps15
 go_wp2_with fail
 refine HCH.out.mono ?_
 rintro e w2 ⟨v, rfl, he, hb2⟩
 obtain rfl : v = .nilIface := by
  rcases he with ⟨-, e⟩ | ⟨h, -⟩ | ⟨h, -⟩
  ·exact e
  ·exact absurd H00.out h
  ·exact absurd H00.out h
 have HB2 := hide hb2
 clear he hb2 HCH H00
 go_wp2_with fail
 refine (HNA.out _).mono ?_
 rintro e w3 ⟨rfl, hb3⟩
 have HB3 := hide hb3
 clear hb3
 go_wp2_with fail
 have hs3 := HB3.out.size
 rw [World.size_alloc] at hs3
 have hal : Below w3.heap.size w3 ((w3.alloc (.cells #[.int .i64 1] 3)).alloc (.cells #[.slice (some ⟨w2.heap.size, 0, none⟩) 1 1, .slice (some ⟨w3.heap.size, 0, none⟩) 1 1] 54)) := (bRf.alloc nL _).alloc (by simp) _
 have hb6 : Below w2.heap.size w2 ((w3.alloc (.cells #[.int .i64 1] 3)).alloc (.cells #[.slice (some ⟨w2.heap.size, 0, none⟩) 1 1, .slice (some ⟨w3.heap.size, 0, none⟩) 1 1] 54)) := below_step (below_step (bRf.alloc nL _) HB3.out) hal
 have HB6 := hide (below_step (below_step HB0.out HB2.out) hb6)
 have HB7 := hide (below_step HB2.out hb6)
 have HCL6 : Hid (cellsAt (some ⟨w3.heap.size + 1, 0, none⟩) clCells ((w3.alloc (.cells #[.int .i64 1] 3)).alloc (.cells #[.slice (some ⟨w2.heap.size, 0, none⟩) 1 1, .slice (some ⟨w3.heap.size, 0, none⟩) 1 1] 54))) := hide (fun i row hr => by
  have hc : ∀ j, ((w3.alloc (.cells #[.int .i64 1] 3)).alloc (.cells #[.slice (some ⟨w2.heap.size, 0, none⟩) 1 1, .slice (some ⟨w3.heap.size, 0, none⟩) 1 1] 54)).cell? ⟨w3.heap.size + 1, 0 + j, none⟩ = (#[.slice (some ⟨w2.heap.size, 0, none⟩) 1 1, .slice (some ⟨w3.heap.size, 0, none⟩) 1 1] : Array Value)[j]? := fun j => by
   have := World.cell?_alloc_new (w3.alloc (.cells #[.int .i64 1] 3)) #[.slice (some ⟨w2.heap.size, 0, none⟩) 1 1, .slice (some ⟨w3.heap.size, 0, none⟩) 1 1] 54 j
   rw [World.size_alloc] at this
   rw [Nat.zero_add]
   exact this
  match i, hr with
  | 0, hr =>
   cases hr
   exact ⟨_, 0, ⟨w2.heap.size, 0, none⟩, 1, rfl, hc 0, ((numsAt_new (w := w2) (l := [1]) (t := 3) rfl).below HB3.out).below hal, by decide, by decide⟩
  | 1, hr =>
   cases hr
   exact ⟨_, 0, ⟨w3.heap.size, 0, none⟩, 1, rfl, hc 1, (numsAt_new (w := w3) (l := [1]) (t := 3) rfl).below (bRf.alloc nL _), by decide, by decide⟩
  | k + 2, hr => cases hr)
 have HT := hide (HBU.out _ HB6.out _ 2 HCL6.out)
 clear hs3 hal hb6 HB0 HB2 HB3 HCL6 HBU
 generalize ((w3.alloc (.cells #[.int .i64 1] 3)).alloc (.cells #[.slice (some ⟨w2.heap.size, 0, none⟩) 1 1, .slice (some ⟨w3.heap.size, 0, none⟩) 1 1] 54)) = W6 at *
 refine HT.out.mono ?_
 rintro e w7 ⟨base, sb, iv, vs, rv, rs, vc, ks, B, rfl, hT5, hK5, hb5, hB5, hbw⟩
 have hlow := below_step HB7.out hbw
 have HBZ := hide (below_step HB6.out hbw)
 have hz6 := HB6.out.size
 have hq5 : w.heap.size < base := by omega
 have hq6 : w.heap.size < B := by omega
 obtain ⟨ai, ci, eiv, -⟩ := ownsRow_shape hT5.oi
 obtain ⟨ar, cr, erv, -⟩ := ownsRow_shape hT5.or'
 obtain ⟨ax, cx, evc, hcx⟩ := hK5.codes
 subst eiv
 subst erv
 subst evc
 obtain ⟨q1, q2, q3⟩ := HRC.out
 have b0 := keep_cell hlow ((q1 0).trans (show _ = some (.int .i64 0) from rfl))
 have b1 := keep_cell hlow ((q1 1).trans (show _ = some (.slice none 0 0) from rfl))
 have b2 := keep_cell hlow ((q1 2).trans (show _ = some (.slice none 0 0) from rfl))
 have z0 := (hlow.frozen (show (⟨w.heap.size, 0, none⟩ : Addr).block < _ from q3)).trans (q2 0)
 have z1 := (hlow.frozen (show (⟨w.heap.size, 1, none⟩ : Addr).block < _ from q3)).trans (q2 1)
 have z2 := (hlow.frozen (show (⟨w.heap.size, 2, none⟩ : Addr).block < _ from q3)).trans (q2 2)
 have HB9 : Hid (Below w.heap.size w (((w7.setCell ⟨w.heap.size, 0, none⟩ (.int .i64 64)).setCell ⟨w.heap.size, 1, none⟩ (.slice ai II.length ci)).setCell ⟨w.heap.size, 2, none⟩ (.slice ar RR.length cr))) := hide (((HBZ.out.setCell nL _).setCell nL _).setCell nL _)
 have HS9 : Hid (TW base sb (((w7.setCell ⟨w.heap.size, 0, none⟩ (.int .i64 64)).setCell ⟨w.heap.size, 1, none⟩ (.slice ai II.length ci)).setCell ⟨w.heap.size, 2, none⟩ (.slice ar RR.length cr)) [] (.slice ai II.length ci) vs II (.slice ar RR.length cr) rs RR (((w7.setCell ⟨w.heap.size, 0, none⟩ (.int .i64 64)).setCell ⟨w.heap.size, 1, none⟩ (.slice ai II.length ci)).setCell ⟨w.heap.size, 2, none⟩ (.slice ar RR.length cr))) := hide
  (((hT5.out hq5 0 (.int .i64 64) rfl).out hq5 1 (.slice ai II.length ci) rfl).out hq5 2 (.slice ar RR.length cr) rfl)
 have HK9 : Hid (KP B (((w7.setCell ⟨w.heap.size, 0, none⟩ (.int .i64 64)).setCell ⟨w.heap.size, 1, none⟩ (.slice ai II.length ci)).setCell ⟨w.heap.size, 2, none⟩ (.slice ar RR.length cr)) (.slice ax CC.length cx) ks CC (((w7.setCell ⟨w.heap.size, 0, none⟩ (.int .i64 64)).setCell ⟨w.heap.size, 1, none⟩ (.slice ai II.length ci)).setCell ⟨w.heap.size, 2, none⟩ (.slice ar RR.length cr))) := hide
  (((hK5.out hq6 0 (.int .i64 64)).out hq6 1 (.slice ai II.length ci)).out hq6 2 (.slice ar RR.length cr))
 have HE9 : Hid (((((w7.setCell ⟨w.heap.size, 0, none⟩ (.int .i64 64)).setCell ⟨w.heap.size, 1, none⟩ (.slice ai II.length ci)).setCell ⟨w.heap.size, 2, none⟩ (.slice ar RR.length cr))).cell? ⟨w.heap.size, 0, none⟩ = some (.int .i64 64) /\ ((((w7.setCell ⟨w.heap.size, 0, none⟩ (.int .i64 64)).setCell ⟨w.heap.size, 1, none⟩ (.slice ai II.length ci)).setCell ⟨w.heap.size, 2, none⟩ (.slice ar RR.length cr))).cell? ⟨w.heap.size, 1, none⟩ = some (.slice ai II.length ci) /\ ((((w7.setCell ⟨w.heap.size, 0, none⟩ (.int .i64 64)).setCell ⟨w.heap.size, 1, none⟩ (.slice ai II.length ci)).setCell ⟨w.heap.size, 2, none⟩ (.slice ar RR.length cr))).cell? ⟨w.heap.size, 2, none⟩ = some (.slice ar RR.length cr)) := hide (by
  have x0 : (w7.setCell ⟨w.heap.size, 0, none⟩ (.int .i64 64)).cell? ⟨w.heap.size, 0, none⟩ = some (.int .i64 64) := World.cell?_setCell_same _ _ _ b0
  have x1 : ((w7.setCell ⟨w.heap.size, 0, none⟩ (.int .i64 64)).setCell ⟨w.heap.size, 1, none⟩ (.slice ai II.length ci)).cell? ⟨w.heap.size, 1, none⟩ = some (.slice ai II.length ci) := World.cell?_setCell_same _ _ _ (cell_ne b1 (.inr (by decide)))
  have x2 : ((((w7.setCell ⟨w.heap.size, 0, none⟩ (.int .i64 64)).setCell ⟨w.heap.size, 1, none⟩ (.slice ai II.length ci)).setCell ⟨w.heap.size, 2, none⟩ (.slice ar RR.length cr))).cell? ⟨w.heap.size, 2, none⟩ = some (.slice ar RR.length cr) := World.cell?_setCell_same _ _ _ (cell_ne (cell_ne b2 (.inr (by decide))) (.inr (by decide)))
  exact ⟨cell_ne (cell_ne x0 (.inr (by decide))) (.inr (by decide)), cell_ne x1 (.inr (by decide)), x2⟩)
 have HQ5 := hide hq5
 have HQ6 := hide hq6
 clear hT5 hK5 hb5 hB5 hbw hlow hcx q1 q2 q3 hq5 hq6 HRC hz6 HT HB6 HB7 HBZ HII HRL HCL HNA
 go_wp2_with fail
 obtain ⟨e0, e1, e2⟩ := HE9.out
 have hBf := HB9.out
 have hst := HS9.out
 have hco := HK9.out
 generalize (((w7.setCell ⟨w.heap.size, 0, none⟩ (.int .i64 64)).setCell ⟨w.heap.size, 1, none⟩ (.slice ai II.length ci)).setCell ⟨w.heap.size, 2, none⟩ (.slice ar RR.length cr)) = WW at *
 refine bodyPost_ret (v := .tuple #[.agg #[.int .i64 64, .slice ai II.length ci, .slice ar RR.length cr], .slice ax CC.length cx, .nilIface]) (by rw [results_cell_tmp2 (show Tryz.f15.results = _ from rfl)]; go_simp) rfl ?_
 exact ⟨base, sb, _, vs, _, rs, _, ks, B, rfl, hst, hco, HQ5.out, HQ6.out, hBf⟩
end
section
open Go.RowKit
def lblB : List UInt8 := [108, 97, 98, 101, 108]
def AllGood (L : List Ins) : Prop := ∀ (i : Nat) x, L[i]? = some x -> insGood L i x = true
def Dis (A B : List Ins) : Prop := ∀ y ∈ A, (bl y.op == lblB) = true -> ∀ x ∈ B, (bl y.to == bl x.to) = false
theorem labB_left {A B : List Ins} {t : List UInt8} {j : Nat} (h : labelAtB A t = some j) : labelAtB (A ++ B) t = some j := by
 unfold labelAtB at h ⊢
 rw [List.findIdx?_append, h]
 rfl
theorem labB_right {A B : List Ins} {t : List UInt8} (h : labelAtB A t = none) : labelAtB (A ++ B) t = (labelAtB B t).map (fun i => i + A.length) := by
 unfold labelAtB at h ⊢
 rw [List.findIdx?_append, h]
 rfl
theorem dis_none {A B : List Ins} (h : Dis A B) {x : Ins} (hx : x ∈ B) : labelAtB A (bl x.to) = none := by
 unfold labelAtB
 rw [List.findIdx?_eq_none_iff]
 intro y hy
 cases ho : (bl y.op == lblB)
 ·rw [show (bl y.op == [108, 97, 98, 101, 108]) = false from ho]; rfl
 ·rw [show (bl y.op == [108, 97, 98, 101, 108]) = true from ho, h y hy ho x hx]; rfl
theorem allGood_app {A B : List Ins} (hA : AllGood A) (hB : AllGood B) (hd : Dis A B) : AllGood (A ++ B) := fun i x hx => by
 by_cases hi : i < A.length
 ·rw [List.getElem?_append_left hi] at hx
  have h := hA i x hx
  unfold insGood at h ⊢
  cases hs : shape (bl x.op) with
  | none => rw [hs] at h; cases h
  | some l =>
   rw [hs] at h
   simp only [Bool.and_eq_true, Bool.or_eq_true, Bool.not_eq_true'] at h ⊢
   obtain ⟨h1, h2, h3⟩ := h
   refine ⟨h1, ?_, ?_⟩
   ·rcases h2 with h2 | h2
    ·exact .inl h2
    ·right
     rw [labB_left (beq_iff_eq.1 h2)]
     exact beq_self_eq_true _
   ·rcases h3 with h3 | h3
    ·exact .inl h3
    ·right
     obtain ⟨j, hj⟩ := Option.isSome_iff_exists.1 h3
     rw [labB_left hj]
     rfl
 ·rw [List.getElem?_append_right (by omega)] at hx
  have h := hB _ x hx
  have hn := labB_right (B := B) (dis_none hd (List.mem_of_getElem? hx))
  unfold insGood at h ⊢
  cases hs : shape (bl x.op) with
  | none => rw [hs] at h; cases h
  | some l =>
   rw [hs] at h
   simp only [Bool.and_eq_true, Bool.or_eq_true, Bool.not_eq_true'] at h ⊢
   obtain ⟨h1, h2, h3⟩ := h
   rw [hn]
   refine ⟨h1, ?_, ?_⟩
   ·rcases h2 with h2 | h2
    ·exact .inl h2
    ·right
     rw [beq_iff_eq.1 h2]
     show (some (i - A.length + A.length) == some i) = true
     rw [show i - A.length + A.length = i by omega]
     exact beq_self_eq_true _
   ·rcases h3 with h3 | h3
    ·exact .inl h3
    ·right
     obtain ⟨j, hj⟩ := Option.isSome_iff_exists.1 h3
     rw [hj]
     rfl
theorem allGood_code {L : List Ins} (h : AllGood L) (hl : L.length <= 2000) : codeFault L = (0, -1) := by
 unfold codeFault
 rw [if_neg (by omega)]
 exact faultFrom_good L 0 fun k x hx => by rw [Nat.zero_add]; exact insGood_is (h k x hx)
theorem codeGood_all {L : List Ins} (h : codeGood L = true) : AllGood L := fun i x hx => by
 unfold codeGood at h
 simp only [Bool.and_eq_true, decide_eq_true_eq, List.all_eq_true, List.mem_range] at h
 have := h.2 i (List.getElem?_eq_some_iff.1 hx).1
 rw [hx] at this
 exact this
def tl46 (l : List UInt8) : List UInt8 := l.reverse.takeWhile (fun b => b != 46)
theorem tl46_app {s q : List UInt8} (hq : ∀ b ∈ q, (b != 46) = true) : tl46 (s ++ (46 :: q)) = q.reverse := by
 unfold tl46
 rw [List.reverse_append, List.reverse_cons, List.append_assoc, List.takeWhile_append_of_pos (fun b hb => hq b (List.mem_reverse.1 hb))]
 show q.reverse ++ List.takeWhile _ (46 :: s.reverse) = _
 rw [List.takeWhile_cons_of_neg (by decide), List.append_nil]
theorem nameB_of {s : ByteArray} (h : isName s) : nameB (bl s) = true := by
 obtain ⟨h1, h2, h3⟩ := h
 have hz : s.size = (bl s).length := size_bl s
 unfold nameB
 simp only [Bool.and_eq_true, decide_eq_true_eq, List.all_eq_true, List.mem_range]
 refine ⟨by omega, by omega, fun j hj => ?_⟩
 have := h3 j (by omega)
 rw [List.getD_eq_getElem?_getD, List.getElem?_eq_getElem (by omega)]
 exact this
theorem lbl_lb {op : ByteArray} (h : (bl op == lblB) = true) : lbOp op = true := by
 unfold lbOp
 rw [toList_bl, beq_iff_eq.1 h]
 rfl
theorem namedI_op (q : ByteArray) (x : Ins) : (namedI q x).op = x.op := by
 unfold namedI
 split <;> rfl
theorem namedI_yes {q : ByteArray} {x : Ins} (h : lbOp x.op = true) : namedI q x = ⟨x.op, x.a, x.b, x.c, x.to ++ thDot ++ q⟩ := if_pos h
theorem namedI_no {q : ByteArray} {x : Ins} (h : lbOp x.op = false) : namedI q x = x := if_neg (by rw [h]; decide)
theorem bl_named (t q : ByteArray) : bl (t ++ thDot ++ q) = bl t ++ (46 :: bl q) := by
 rw [bl_append, bl_append, List.append_assoc]
 rfl
theorem labB_named (B : List Ins) (q : ByteArray) (T : List UInt8) : labelAtB (B.map (namedI q)) (T ++ (46 :: bl q)) = labelAtB B T := by
 unfold labelAtB
 rw [List.findIdx?_map]
 congr 1
 funext y
 show ((bl (namedI q y).op == [108, 97, 98, 101, 108]) && (bl (namedI q y).to == T ++ (46 :: bl q))) = _
 rw [namedI_op]
 cases ho : (bl y.op == [108, 97, 98, 101, 108])
 ·rfl
 ·rw [namedI_yes (lbl_lb ho)]
  show (true && (bl (y.to ++ thDot ++ q) == T ++ (46 :: bl q))) = _
  rw [bl_named, Bool.true_and, Bool.true_and, Bool.eq_iff_iff, beq_iff_eq, beq_iff_eq]
  exact ⟨fun h => List.append_cancel_right h, fun h => by rw [h]⟩
theorem named_good {B : List Ins} {i : Nat} (hi : i < 20) (hB : AllGood B) (hl : LabsOk B) (hn : ∀ x ∈ B, lbOp x.op = false -> bl x.to = []) : AllGood (B.map (namedI (itB i))) := fun k x' hx' => by
 rw [List.getElem?_map] at hx'
 cases hx : B[k]? with
 | none => rw [hx] at hx'; cases hx'
 | some x =>
  rw [hx] at hx'
  cases hx'
  have hm := List.mem_of_getElem? hx
  have h := hB k x hx
  cases hlb : lbOp x.op
  ·rw [namedI_no hlb]
   have ht := hn x hm hlb
   unfold insGood at h ⊢
   cases hs : shape (bl x.op) with
   | none => rw [hs] at h; cases h
   | some l =>
    rw [hs] at h
    simp only [Bool.and_eq_true, Bool.or_eq_true, Bool.not_eq_true'] at h ⊢
    refine ⟨h.1, .inl ?_, .inl (by rw [ht]; rfl)⟩
    cases ho : (bl x.op == [108, 97, 98, 101, 108])
    ·rfl
    ·rw [lbl_lb ho] at hlb; cases hlb
  ·obtain ⟨hna, hsz⟩ := hl x hm hlb
   have hnn := nameB_of (name_it hna hsz hi)
   have h1 : bl x.to ≠ [] := fun e => by
    have := hna.1
    rw [size_bl, e] at this
    exact absurd this (by decide)
   have hL := labB_named B (itB i) (bl x.to)
   rw [namedI_yes hlb]
   unfold insGood at h ⊢
   rw [show (⟨x.op, x.a, x.b, x.c, x.to ++ thDot ++ itB i⟩ : Ins).op = x.op from rfl, show (⟨x.op, x.a, x.b, x.c, x.to ++ thDot ++ itB i⟩ : Ins).to = x.to ++ thDot ++ itB i from rfl, bl_named, hL]
   cases hs : shape (bl x.op) with
   | none => rw [hs] at h; cases h
   | some l =>
    rw [hs] at h
    simp only [Bool.and_eq_true, Bool.or_eq_true, Bool.not_eq_true'] at h ⊢
    obtain ⟨g1, g2, g3⟩ := h
    refine ⟨?_, g2, ?_⟩
    ·unfold shapeGood at g1 ⊢
     simp only [Bool.and_eq_true, Bool.or_eq_true, Bool.not_eq_true'] at g1 ⊢
     refine ⟨⟨?_, .inr hnn⟩, g1.2⟩
     rcases g1.1.1 with h | h
     ·exact .inl h
     ·exact absurd (beq_iff_eq.1 h) h1
    ·rcases g3 with h | h
     ·exact absurd (beq_iff_eq.1 h) h1
     ·exact .inr h
theorem itB_dots : ∀ i : Fin 20, (bl (itB i.val)).all (fun b => b != 46) = true := by decide +kernel
theorem itB_inj : ∀ i j : Fin 20, (bl (itB i.val)).reverse = (bl (itB j.val)).reverse -> i = j := by decide +kernel
theorem itB_some : ∀ i : Fin 20, (bl (itB i.val)).reverse ≠ [] := by decide +kernel
theorem tl46_it {t : ByteArray} {i : Nat} (hi : i < 20) : tl46 (bl (t ++ thDot ++ itB i)) = (bl (itB i)).reverse := by
 rw [bl_named]
 exact tl46_app (fun b hb => List.all_eq_true.1 (itB_dots ⟨i, hi⟩) b hb)
structure BlkOk (B : List Ins) : Prop where
 good : AllGood B
 labs : LabsOk B
 no : ∀ x ∈ B, lbOp x.op = false -> bl x.to = []
def noToB (l : List Ins) : Bool := l.all fun x => (hasTo ((shape (bl x.op)).getD [])) || (bl x.to == [])
theorem noToB_is {l : List Ins} (h : noToB l = true) : ∀ x ∈ l, lbOp x.op = false -> bl x.to = [] := fun x hx hl => by
 have := List.all_eq_true.1 h x hx
 unfold lbOp at hl
 rw [toList_bl] at hl
 rw [hl] at this
 simpa using this
def shAll (L : List OpI) : Prop := ∀ x ∈ L, shErr (kn x.kind.toList) x.n = 0
theorem folE_shAll : ∀ {l : List OpI} {s : CrI}, folE s l = 0 -> shAll l
 | [], _, _, x, hx => by cases hx
 | y :: l, s, h, x, hx => by
  unfold folE at h
  by_cases h0 : shErr (kn y.kind.toList) y.n = 0
  ·rw [if_neg (fun k => k h0)] at h
   by_cases h1 : ckErr (kn y.kind.toList) s.deep s.ret = 0
   ·rw [if_neg (fun k => k h1)] at h
    rcases List.mem_cons.1 hx with rfl | hx
    ·exact h0
    ·exact folE_shAll h x hx
   ·rw [if_pos h1] at h; exact absurd h h1
  ·rw [if_pos h0] at h; exact absurd h h0
theorem put_blk {n : Int} (h : 1 <= n /\ n <= 1000) : BlkOk (putC n) := by
 have key : ∀ j : Fin 1001, codeGood (putC (j.val : Int)) = true /\ noToB (putC (j.val : Int)) = true := by decide +kernel
 have := key ⟨n.toNat, by omega⟩
 dsimp only at this
 rw [show (n.toNat : Int) = n by omega] at this
 exact ⟨codeGood_all this.1, putC_labs n, noToB_is this.2⟩
theorem clP_blk {f : Nat} (hf : 1 <= f /\ f <= 4) {i : Nat} {n : Int} (h : shErr i n = 0) : BlkOk (clP f i n) := by
 have key : ∀ g : Fin 4, (codeGood (gCode clG (gEnter (g.val + 1))) = true /\ codeGood (gCode clG (gLeave (g.val + 1))) = true /\ codeGood (gCode clG (gRest (g.val + 1))) = true /\ codeGood (gCode clG (gWait (g.val + 1)) ++ emptyC) = true /\ codeGood (gCode clG (gWait (g.val + 1))) = true) /\ noToB (gCode clG (gEnter (g.val + 1))) = true /\ noToB (gCode clG (gLeave (g.val + 1))) = true /\ noToB (gCode clG (gRest (g.val + 1))) = true /\ noToB (gCode clG (gWait (g.val + 1)) ++ emptyC) = true /\ noToB (gCode clG (gWait (g.val + 1))) = true := by decide +kernel
 have key2 : (codeGood readC = true /\ noToB readC = true) /\ (codeGood (uls 3 [⟨oFree, 3, 0, 0, thNo⟩]) = true /\ noToB (uls 3 [⟨oFree, 3, 0, 0, thNo⟩]) = true) /\ codeGood (uls 3 keepC) = true /\ noToB (uls 3 keepC) = true := by decide +kernel
 have := key ⟨f - 1, by omega⟩
 dsimp only at this
 rw [show f - 1 + 1 = f by omega] at this
 obtain ⟨⟨k1, k2, k3, k4, k5⟩, l1, l2, l3, l4, l5⟩ := this
 obtain ⟨⟨r1, r2⟩, ⟨d1, d2⟩, e1, e2⟩ := key2
 have hL := (clP_labs hf i n).1
 by_cases h1 : i = 1
 ·subst h1
  refine put_blk ?_
  unfold shErr at h
  rw [if_pos rfl] at h
  by_cases hb : n < 1 ∨ 1000 < n
  ·rw [if_pos hb] at h; cases h
  ·omega
 unfold clP at hL ⊢
 rw [if_neg h1] at hL ⊢
 by_cases h2 : i = 2
 ·rw [if_pos h2] at hL ⊢; exact ⟨codeGood_all k1, hL, noToB_is l1⟩
 rw [if_neg h2] at hL ⊢
 by_cases h3 : i = 3
 ·rw [if_pos h3] at hL ⊢; exact ⟨codeGood_all k2, hL, noToB_is l2⟩
 rw [if_neg h3] at hL ⊢
 by_cases h4 : i = 4
 ·rw [if_pos h4] at hL ⊢; exact ⟨codeGood_all k3, hL, noToB_is l3⟩
 rw [if_neg h4] at hL ⊢
 by_cases h5 : i = 5
 ·rw [if_pos h5] at hL ⊢; exact ⟨codeGood_all k5, hL, noToB_is l5⟩
 rw [if_neg h5] at hL ⊢
 by_cases h6 : i = 6
 ·rw [if_pos h6] at hL ⊢; exact ⟨codeGood_all r1, hL, noToB_is r2⟩
 rw [if_neg h6] at hL ⊢
 by_cases h7 : i = 7
 ·rw [if_pos h7] at hL ⊢; exact ⟨codeGood_all d1, hL, noToB_is d2⟩
 rw [if_neg h7] at hL ⊢
 by_cases h8 : i = 8
 ·rw [if_pos h8] at hL ⊢; exact ⟨codeGood_all e1, hL, noToB_is e2⟩
 rw [if_neg h8] at hL ⊢
 exact ⟨codeGood_all k4, hL, noToB_is l4⟩
theorem opsC_good {f : Nat} (hf : 1 <= f /\ f <= 4) {l : List OpI} (hs : shAll l) (h20 : l.length <= 20) : ∀ k, k <= l.length -> AllGood (opsC f l k) /\ ∀ y ∈ opsC f l k, (bl y.op == lblB) = true -> ∃ j, j < k /\ tl46 (bl y.to) = (bl (itB j)).reverse
 | 0, _ => ⟨fun i x hx => by simp [opsC] at hx, fun y hy => by simp [opsC] at hy⟩
 | k + 1, hk => by
  obtain ⟨h1, h2⟩ := opsC_good hf hs h20 k (by omega)
  obtain ⟨x, hx⟩ : ∃ x, l[k]? = some x := ⟨_, List.getElem?_eq_getElem (by omega)⟩
  rw [opsC_succ hx]
  have hb := clP_blk hf (hs x (List.mem_of_getElem? hx))
  have hg : AllGood (opC f k x) := named_good (by omega) hb.good hb.labs hb.no
  have ht : ∀ y ∈ opC f k x, bl y.to = [] ∨ tl46 (bl y.to) = (bl (itB k)).reverse := fun y hy => by
   obtain ⟨z, hz, rfl⟩ := List.mem_map.1 hy
   cases hlb : lbOp z.op
   ·rw [namedI_no hlb]; exact .inl (hb.no z hz hlb)
   ·rw [namedI_yes hlb]; exact .inr (tl46_it (by omega))
  refine ⟨allGood_app h1 hg (fun y hy ho z hz => ?_), fun y hy ho => ?_⟩
  ·obtain ⟨j, hj, e⟩ := h2 y hy ho
   cases hq : (bl y.to == bl z.to)
   ·rfl
   ·have hq := beq_iff_eq.1 hq
    rw [hq] at e
    rcases ht z hz with h | h
    ·rw [h] at e
     exact absurd e.symm (itB_some ⟨j, by omega⟩)
    ·rw [h] at e
     have := itB_inj ⟨k, by omega⟩ ⟨j, by omega⟩ e
     have := Fin.mk.inj this
     omega
  ·rcases List.mem_append.1 hy with hy | hy
   ·obtain ⟨j, hj, e⟩ := h2 y hy ho
    exact ⟨j, by omega, e⟩
   ·obtain ⟨z, hz, rfl⟩ := List.mem_map.1 hy
    rw [namedI_op] at ho
    rw [namedI_yes (lbl_lb ho)]
    exact ⟨k, by omega, tl46_it (by omega)⟩
theorem gone_blk : ∀ g : Fin 4, codeGood (gCode clGone (gGone (g.val + 1)) ++ [stopI]) = true /\ ((gCode clGone (gGone (g.val + 1)) ++ [stopI]).all fun x => (List.range 20).all fun j => !(tl46 (bl x.to) == (bl (itB j)).reverse)) = true := by decide +kernel
theorem clC_good {f : Nat} (hf : 1 <= f /\ f <= 4) {L : List OpI} (hs : shAll L) (h20 : L.length <= 20) : codeFault (clC f L) = (0, -1) := by
 obtain ⟨h1, h2⟩ := opsC_good hf hs h20 L.length nL
 have hg := gone_blk ⟨f - 1, by omega⟩
 dsimp only at hg
 rw [show f - 1 + 1 = f by omega] at hg
 have hlen : (clC f L).length <= 2000 := by
  unfold clC thC
  have h3 := opsC_len hf L L.length
  have h4 := ggone_len f hf
  rw [List.length_append, List.length_append]
  have : 60 * L.length <= 60 * 20 := Nat.mul_le_mul_left _ h20
  show _ + (_ + 1) <= _
  omega
 refine allGood_code ?_ hlen
 show AllGood (opsC f L L.length ++ (gCode clGone (gGone f) ++ [stopI]))
 refine allGood_app h1 (codeGood_all hg.1) (fun y hy ho z hz => ?_)
 obtain ⟨j, hj, e⟩ := h2 y hy ho
 cases hq : (bl y.to == bl z.to)
 ·rfl
 ·have hq := beq_iff_eq.1 hq
  rw [hq] at e
  have h5 := List.all_eq_true.1 (List.all_eq_true.1 hg.2 z hz) j (List.mem_range.2 (by omega))
  rw [e] at h5
  simp at h5
theorem eachE_sh {cl : List (List OpI)} (h : (eachE cl).1 = 0) : ∀ L ∈ cl, shAll L /\ L.length <= 20 := fun L hL => by
 obtain ⟨hf, -, -, hk⟩ := eachE_ok h
 unfold eachE at h
 rw [if_pos hf] at h
 exact ⟨folE_shAll (eachFrom_zero h L hL), (hk L hL).1⟩
def alike (x : Ins) (i : GI) : Prop := x.op = (i.ins no).op /\ x.a = (i.ins no).a /\ x.b = (i.ins no).b /\ x.c = (i.ins no).c
def jmp : GI -> Option Nat
 | .zero _ l => some l
 | .same _ _ l => some l
 | .goto l => some l
 | _ => none
theorem rstep {L : List Ins} {a q : Nat} {s : List GI} {i : GI} {x : Ins} (hx : L[a + q]? = some x) (hal : alike x i) (hj : ∀ l, jmp i = some l -> (labelAt L x.to).toNat = a + gAt l s) (m : Mk) (t : Nat) (hpc : m.pc t = a + q) : doneAt L (m.pc t) = false /\ m.step L t = gExec (m.setPc t (a + gNext s q (m.regs t) i)) t i := by
 obtain ⟨h1, h2, h3, h4⟩ := hal
 refine ⟨?_, ?_⟩
 ·unfold doneAt
  rw [hpc, hx]
  show (x.op.toList == [115, 116, 111, 112]) = false
  rw [h1]
  exact i.goes no
 ·unfold Mk.step
  rw [hpc, hx]
  show (m.setPc t (a + q + 1)).exec L t x = _
  cases i with
  | load r b k => rw [exec_load _ _ _ h1, h2, h3, h4]; rfl
  | const r v => rw [exec_const _ _ _ h1, h2, h3]; rfl
  | move r b => rw [exec_move _ _ _ h1, h2, h3]; rfl
  | add r b c => rw [exec_add _ _ _ h1, h2, h3, h4]; rfl
  | sub r b c => rw [exec_sub _ _ _ h1, h2, h3, h4]; rfl
  | store b r k => rw [exec_store _ _ _ h1, h2, h3, h4]; rfl
  | swap r b k => rw [exec_swap _ _ _ h1, h2, h3, h4]; rfl
  | cas b r k => rw [exec_cas _ _ _ h1, h2, h3, h4]; rfl
  | fence => rw [exec_fence _ _ _ h1]; rfl
  | force => rw [exec_force _ _ _ h1]; rfl
  | alloc r => rw [exec_alloc _ _ _ h1, h2]; rfl
  | free r => rw [exec_free _ _ _ h1, h2]; rfl
  | need r => rw [exec_need _ _ _ h1, h2]; rfl
  | label k => rw [exec_label _ _ _ h1]; rfl
  | zero r l =>
   rw [exec_zero _ _ _ h1, h2]
   show (if m.regs t r = 0 then (m.setPc t (a + q + 1)).setPc t (labelAt L x.to).toNat else m.setPc t (a + q + 1)) = m.setPc t (a + if m.regs t r = 0 then gAt l s else q + 1)
   split
   ·rw [setPc_setPc, hj l rfl]
   ·rfl
  | same r b l =>
   rw [exec_same _ _ _ h1, h2, h3]
   show (if m.regs t r = m.regs t b then (m.setPc t (a + q + 1)).setPc t (labelAt L x.to).toNat else m.setPc t (a + q + 1)) = m.setPc t (a + if m.regs t r = m.regs t b then gAt l s else q + 1)
   split
   ·rw [setPc_setPc, hj l rfl]
   ·rfl
  | goto l =>
   rw [exec_goto _ _ _ h1]
   show (m.setPc t (a + q + 1)).setPc t (labelAt L x.to).toNat = m.setPc t (a + gAt l s)
   rw [setPc_setPc, hj l rfl]
theorem rmark {L : List Ins} {a q : Nat} {x : Ins} (hx : L[a + q]? = some x) (h1 : x.op = ⟨#[109, 97, 114, 107]⟩) (h2 : x.a = 0) (m : Mk) (t : Nat) (hpc : m.pc t = a + q) : doneAt L (m.pc t) = false /\ m.step L t = (m.setPc t (a + (q + 1))).mark t (m.regs t 0) := by
 refine ⟨?_, ?_⟩
 ·unfold doneAt
  rw [hpc, hx]
  show (x.op.toList == [115, 116, 111, 112]) = false
  rw [h1, toList_bl]; rfl
 ·unfold Mk.step
  rw [hpc, hx]
  show (m.setPc t (a + q + 1)).exec L t x = _
  rw [exec_mark _ _ _ h1, h2]; rfl
def BlkT (f : Nat) (B : List Ins) (o : Nat) (tg : Tq) : Prop := ∀ (q : Nat) (i : GI), (tqCode f tg)[q]? = some i -> ∃ x, B[o + q]? = some x /\ (tg = .read /\ q = 3 -> x.op = ⟨#[109, 97, 114, 107]⟩ /\ x.a = 0) /\ (¬ (tg = .read /\ q = 3) -> alike x i) /\ ∀ l, jmp i = some l -> labelAtB B (bl x.to) = some (o + gAt l (tqCode f tg)) /\ lbOp x.op = true
def alikeB (x : Ins) (i : GI) : Bool := (bl x.op == bl (i.ins no).op) && (decide (x.a = (i.ins no).a) && (decide (x.b = (i.ins no).b) && decide (x.c = (i.ins no).c)))
def blkB (f : Nat) (B : List Ins) (o : Nat) (tg : Tq) : Bool := (List.range (tqCode f tg).length).all fun q => match (tqCode f tg)[q]?, B[o + q]? with
 | some i, some x => (if tg = .read /\ q = 3 then (bl x.op == [109, 97, 114, 107]) && decide (x.a = 0) else alikeB x i) && (match jmp i with | some l => (labelAtB B (bl x.to) == some (o + gAt l (tqCode f tg))) && hasTo ((shape (bl x.op)).getD []) | none => true)
 | _, _ => false
theorem alikeB_is {x : Ins} {i : GI} (h : alikeB x i = true) : alike x i := by
 unfold alikeB at h
 simp only [Bool.and_eq_true, decide_eq_true_eq, beq_iff_eq] at h
 exact ⟨bl_inj h.1, h.2.1, h.2.2.1, h.2.2.2⟩
theorem blkB_is {f : Nat} {B : List Ins} {o : Nat} {tg : Tq} (h : blkB f B o tg = true) : BlkT f B o tg := fun q i hi => by
 have hq := (List.getElem?_eq_some_iff.1 hi).1
 have h := List.all_eq_true.1 h q (List.mem_range.2 hq)
 rw [hi] at h
 cases hx : B[o + q]? with
 | none => rw [hx] at h; cases h
 | some x =>
  rw [hx] at h
  simp only [Bool.and_eq_true] at h
  obtain ⟨h1, h2⟩ := h
  refine ⟨x, rfl, fun e => ?_, fun e => ?_, fun l hl => ?_⟩
  ·rw [if_pos e] at h1
   simp only [Bool.and_eq_true, decide_eq_true_eq, beq_iff_eq] at h1
   exact ⟨bl_inj h1.1, h1.2⟩
  ·rw [if_neg e] at h1
   exact alikeB_is h1
  ·rw [hl] at h2
   simp only [Bool.and_eq_true, beq_iff_eq] at h2
   exact ⟨h2.1, by unfold lbOp; rw [toList_bl]; exact h2.2⟩
theorem BlkT.named {f : Nat} {B : List Ins} {o : Nat} {tg : Tq} (h : BlkT f B o tg) (q' : ByteArray) : BlkT f (B.map (namedI q')) o tg := fun q i hi => by
 obtain ⟨x, h1, h2, h3, h4⟩ := h q i hi
 have e : (namedI q' x).op = x.op /\ (namedI q' x).a = x.a /\ (namedI q' x).b = x.b /\ (namedI q' x).c = x.c := by
  unfold namedI
  split <;> exact ⟨rfl, rfl, rfl, rfl⟩
 obtain ⟨e1, e2, e3, e4⟩ := e
 refine ⟨namedI q' x, by rw [List.getElem?_map, h1]; rfl, fun k => by rw [e1, e2]; exact h2 k, fun k => ?_, fun l hl => ?_⟩
 ·obtain ⟨k1, k2, k3, k4⟩ := h3 k
  exact ⟨by rw [e1]; exact k1, by rw [e2]; exact k2, by rw [e3]; exact k3, by rw [e4]; exact k4⟩
 ·obtain ⟨k1, k2⟩ := h4 l hl
  refine ⟨?_, by rw [e1]; exact k2⟩
  rw [namedI_yes k2]
  show labelAtB _ (bl (x.to ++ thDot ++ q')) = _
  rw [bl_named, labB_named]
  exact k1
theorem BlkT.at' {f : Nat} {B : List Ins} {o : Nat} {tg : Tq} (h : BlkT f B o tg) {A C L : List Ins} (hL : L = A ++ (B ++ C)) (hd : Dis A B) : PqAt f L (A.length + o) tg := fun q i hi m t hpc => by
 obtain ⟨x, h1, h2, h3, h4⟩ := h q i hi
 have hlt := (List.getElem?_eq_some_iff.1 h1).1
 have hx : L[A.length + o + q]? = some x := by
  rw [hL, show A.length + o + q = A.length + (o + q) by omega, List.getElem?_append_right (Nat.le_add_right _ _), Nat.add_sub_cancel_left, List.getElem?_append_left hlt]
  exact h1
 by_cases e : tg = .read /\ q = 3
 ·obtain ⟨k1, k2⟩ := h2 e
  obtain ⟨rfl, rfl⟩ := e
  obtain ⟨g1, g2⟩ := rmark hx k1 k2 m t hpc
  refine ⟨g1, ?_⟩
  rw [g2]
  have : GI.label 9 = i := Option.some.inj hi
  subst this
  rfl
 ·have hE : ∀ m', hExec m' t tg q i = gExec m' t i := fun m' => if_neg e
  rw [hE]
  refine rstep hx (h3 e) (fun l hl => ?_) m t hpc
  rw [labelAt_B, hL, labB_right (dis_none hd (List.mem_of_getElem? h1)), labB_left (h4 l hl).1]
  show ((o + gAt l (tqCode f tg) + A.length : Nat) : Int).toNat = _
  rw [Int.toNat_natCast]
  omega
def opT (x : OpI) : List Tq := match kn x.kind.toList with
 | 1 => [.put x.n]
 | 2 => [.enter]
 | 3 => [.leave]
 | 4 => [.rest]
 | 5 => [.wait]
 | 6 => [.read]
 | 7 => [.drop]
 | 8 => [.later]
 | _ => [.wait, .empty]
def opTs (l : List OpI) : List Tq := l.flatMap opT
theorem put_at {f : Nat} {n : Int} (h : 1 <= n /\ n <= 1000) : BlkT f (putC n) 0 (.put n) := by
 have key : ∀ j : Fin 1001, blkB 1 (putC (j.val : Int)) 0 (.put (j.val : Int)) = true := by decide +kernel
 have := blkB_is (key ⟨n.toNat, by omega⟩)
 dsimp only at this
 rw [show (n.toNat : Int) = n by omega] at this
 exact this
theorem rest_at : ∀ g : Fin 4, blkB (g.val + 1) (gCode clG (gEnter (g.val + 1))) 0 .enter = true /\ blkB (g.val + 1) (gCode clG (gLeave (g.val + 1))) 0 .leave = true /\ blkB (g.val + 1) (gCode clG (gRest (g.val + 1))) 0 .rest = true /\ blkB (g.val + 1) (gCode clG (gWait (g.val + 1))) 0 .wait = true /\ blkB (g.val + 1) (gCode clG (gWait (g.val + 1)) ++ emptyC) 0 .wait = true /\ blkB (g.val + 1) (gCode clG (gWait (g.val + 1)) ++ emptyC) (gWait (g.val + 1)).length .empty = true /\ blkB (g.val + 1) (gCode clGone (gGone (g.val + 1)) ++ [stopI]) 0 .gone = true := by decide +kernel
theorem few_at : blkB 1 readC 0 .read = true /\ blkB 1 (uls 3 [⟨oFree, 3, 0, 0, thNo⟩]) 0 .drop = true /\ blkB 1 (uls 3 keepC) 0 .later = true := by decide +kernel
theorem clP_at {f : Nat} (hf : 1 <= f /\ f <= 4) {x : OpI} (h : shErr (kn x.kind.toList) x.n = 0) : (∃ tg, opT x = [tg] /\ BlkT f (clP f (kn x.kind.toList) x.n) 0 tg /\ (clP f (kn x.kind.toList) x.n).length = (tqCode f tg).length) ∨ (opT x = [.wait, .empty] /\ BlkT f (clP f (kn x.kind.toList) x.n) 0 .wait /\ BlkT f (clP f (kn x.kind.toList) x.n) (tqCode f .wait).length .empty /\ (clP f (kn x.kind.toList) x.n).length = (tqCode f .wait).length + (tqCode f .empty).length) := by
 have hr := rest_at ⟨f - 1, by omega⟩
 dsimp only at hr
 rw [show f - 1 + 1 = f by omega] at hr
 obtain ⟨r1, r2, r3, r4, r5, r6, -⟩ := hr
 obtain ⟨k1, k2, k3⟩ := few_at
 have gl : ∀ s : List GI, (gCode clG s).length = s.length := fun s => by unfold gCode; rw [List.length_map]
 unfold opT
 rcases kcases x.kind.toList with ⟨-, hk⟩ | ⟨-, hk⟩ | ⟨-, hk⟩ | ⟨-, hk⟩ | ⟨-, hk⟩ | ⟨-, hk⟩ | ⟨-, hk⟩ | ⟨-, hk⟩ | ⟨-, hk⟩ | ⟨-, hk⟩ <;> rw [hk] at h ⊢
 ·refine .inl ⟨.put x.n, rfl, put_at ?_, rfl⟩
  unfold shErr at h
  rw [if_pos rfl] at h
  by_cases hb : x.n < 1 ∨ 1000 < x.n
  ·rw [if_pos hb] at h; cases h
  ·omega
 ·exact .inl ⟨.enter, rfl, blkB_is r1, gl _⟩
 ·exact .inl ⟨.leave, rfl, blkB_is r2, gl _⟩
 ·exact .inl ⟨.rest, rfl, blkB_is r3, gl _⟩
 ·exact .inl ⟨.wait, rfl, blkB_is r4, gl _⟩
 ·exact .inl ⟨.read, rfl, blkB_is k1, rfl⟩
 ·exact .inl ⟨.drop, rfl, blkB_is k2, rfl⟩
 ·exact .inl ⟨.later, rfl, blkB_is k3, rfl⟩
 ·refine .inr ⟨rfl, blkB_is r5, blkB_is r6, ?_⟩
  show (gCode clG (gWait f) ++ emptyC).length = _
  rw [List.length_append, gl]
  rfl
 ·unfold shErr at h
  rw [if_neg (by decide)] at h
  simp at h
theorem opsC_more (f : Nat) (l : List OpI) : ∀ {k n : Nat}, k <= n -> ∃ D, opsC f l n = opsC f l k ++ D
 | k, 0, h => ⟨[], by rw [show k = 0 by omega, List.append_nil]⟩
 | k, n + 1, h => by
  by_cases e : k = n + 1
  ·exact ⟨[], by rw [e, List.append_nil]⟩
  ·obtain ⟨D, hD⟩ := opsC_more f l (k := k) (n := n) (by omega)
   refine ⟨D ++ (match l[n]? with | some x => opC f n x | none => []), ?_⟩
   show opsC f l n ++ _ = _
   rw [hD, List.append_assoc]
   rfl
theorem ops_dis {f : Nat} (hf : 1 <= f /\ f <= 4) {l : List OpI} (hs : shAll l) (h20 : l.length <= 20) {k : Nat} {x : OpI} (hx : l[k]? = some x) : Dis (opsC f l k) (opC f k x) := fun y hy ho z hz => by
 have hk := (List.getElem?_eq_some_iff.1 hx).1
 obtain ⟨j, hj, e⟩ := (opsC_good hf hs h20 k (by omega)).2 y hy ho
 have hb := clP_blk hf (hs x (List.mem_of_getElem? hx))
 cases hq : (bl y.to == bl z.to)
 ·rfl
 ·have hq := beq_iff_eq.1 hq
  rw [hq] at e
  obtain ⟨z', hz', rfl⟩ := List.mem_map.1 hz
  cases hlb : lbOp z'.op
  ·rw [namedI_no hlb, hb.no z' hz' hlb] at e
   exact absurd e.symm (itB_some ⟨j, by omega⟩)
  ·rw [namedI_yes hlb] at e
   have e2 := tl46_it (t := z'.to) (i := k) (by omega)
   rw [show tl46 (bl (⟨z'.op, z'.a, z'.b, z'.c, z'.to ++ thDot ++ itB k⟩ : Ins).to) = (bl (itB k)).reverse from e2] at e
   have := itB_inj ⟨k, by omega⟩ ⟨j, by omega⟩ e
   have := Fin.mk.inj this
   omega
theorem clC_at {f : Nat} (hf : 1 <= f /\ f <= 4) {l : List OpI} (hs : shAll l) (h20 : l.length <= 20) : ∀ (j k : Nat), k + j = l.length -> PsAt f (clC f l) (opsC f l k).length (opTs (l.drop k) ++ [.gone])
 | 0, k, hk => by
  rw [show k = l.length by omega, List.drop_length]
  have hr := rest_at ⟨f - 1, by omega⟩
  have hg := gone_blk ⟨f - 1, by omega⟩
  dsimp only at hr hg
  rw [show f - 1 + 1 = f by omega] at hr hg
  have hL : clC f l = opsC f l l.length ++ ((gCode clGone (gGone f) ++ [stopI]) ++ []) := by
   rw [List.append_nil]; rfl
  have hd : Dis (opsC f l l.length) (gCode clGone (gGone f) ++ [stopI]) := fun y hy ho z hz => by
   obtain ⟨j, hj, e⟩ := (opsC_good hf hs h20 l.length nL).2 y hy ho
   cases hq : (bl y.to == bl z.to)
   ·rfl
   ·have hq := beq_iff_eq.1 hq
    rw [hq] at e
    have h5 := List.all_eq_true.1 (List.all_eq_true.1 hg.2 z hz) j (List.mem_range.2 (by omega))
    rw [e] at h5
    simp at h5
  have := (blkB_is hr.2.2.2.2.2.2).at' hL hd
  refine ⟨this, ?_⟩
  show doneAt (clC f l) ((opsC f l l.length).length + (gGone f).length) = true
  unfold doneAt
  have hx : (clC f l)[(opsC f l l.length).length + (gGone f).length]? = some stopI := by
   rw [hL, List.append_nil, List.getElem?_append_right (Nat.le_add_right _ _), Nat.add_sub_cancel_left, List.getElem?_append_right (by unfold gCode; rw [List.length_map]; exact Nat.le_refl _)]
   unfold gCode
   rw [List.length_map, Nat.sub_self]
   rfl
  rw [hx]
  show (stopI.op.toList == [115, 116, 111, 112]) = true
  rw [toList_bl]; rfl
 | j + 1, k, hk => by
  obtain ⟨x, hx⟩ : ∃ x, l[k]? = some x := ⟨_, List.getElem?_eq_getElem (by omega)⟩
  have ih := clC_at hf hs h20 j (k + 1) (by omega)
  rw [opsC_succ hx, List.length_append] at ih
  obtain ⟨D, hD⟩ := opsC_more f l (k := k + 1) (n := l.length) (by omega)
  have hL : clC f l = opsC f l k ++ (opC f k x ++ (D ++ (gCode clGone (gGone f) ++ [stopI]))) := by
   show opsC f l l.length ++ (gCode clGone (gGone f) ++ [stopI]) = _
   rw [hD, opsC_succ hx, List.append_assoc, List.append_assoc]
  have hd := ops_dis hf hs h20 hx
  have hl : (opC f k x).length = (clP f (kn x.kind.toList) x.n).length := by unfold opC; rw [List.length_map]
  have hdr : l.drop k = x :: l.drop (k + 1) := by
   rw [List.drop_eq_getElem_cons (show k < l.length by omega)]
   congr 1
   rw [List.getElem?_eq_getElem (show k < l.length by omega)] at hx
   exact Option.some.inj hx
  have hT : opTs (l.drop k) ++ [.gone] = opT x ++ (opTs (l.drop (k + 1)) ++ [.gone]) := by
   rw [hdr]
   unfold opTs
   rw [List.flatMap_cons, List.append_assoc]
  rw [hT]
  rcases clP_at hf (hs x (List.mem_of_getElem? hx)) with ⟨tg, h1, h2, h3⟩ | ⟨h1, h2, h3, h4⟩
  ·rw [h1]
   refine ⟨(h2.named (itB k)).at' hL hd, ?_⟩
   rw [hl, h3] at ih
   exact ih
  ·rw [h1]
   refine ⟨(h2.named (itB k)).at' hL hd, (h3.named (itB k)).at' hL hd, ?_⟩
   rw [hl, h4, <- Nat.add_assoc] at ih
   exact ih
theorem clC_pieces {f : Nat} (hf : 1 <= f /\ f <= 4) {l : List OpI} (hs : shAll l) (h20 : l.length <= 20) : PsAt f (clC f l) 0 (opTs l ++ [.gone]) := by
 have := clC_at hf hs h20 l.length 0 (by omega)
 rwa [List.drop_zero] at this
variable {cs : List (List Ins)} {m : Mk} {w : World} {ad : Nat -> Option Addr} {s : Rm} {v : Value} {r : RmPl} {S : Nat -> Nat -> Prop} {B : Nat} {t : Nat} {b o : Nat}
def rmarkCell (x : Nat × Int) : List Value := [.int .i64 x.1, .int .i64 x.2]
def rmarkCells (l : List (Nat × Int)) : List Value := l.flatMap rmarkCell
theorem rmarkCells_append (l : List (Nat × Int)) (x : Nat × Int) : rmarkCells (l ++ [x]) = rmarkCells l ++ rmarkCell x := by simp [rmarkCells]
structure RcB (cs : List (List Ins)) (ad : Nat -> Option Addr) (B : Nat) (w : World) : Prop where
 ex : ∃ W, (∀ (t : Nat) L, cs[t]? = some L -> insAt (ad t) L W) /\ W.heap.size = B /\ Below B W w
theorem RcB.code (h : RcB cs ad B w) {L : List Ins} (ht : cs[t]? = some L) : insAt (ad t) L w := by
 obtain ⟨W, h1, rfl, h3⟩ := h.ex
 exact insAt_below (h1 t L ht) h3
theorem RcB.turns {w w' : World} (h : RcB cs ad B w) (t : Turns S w w') (hS : ∀ k o, S k o -> B <= k) : RcB cs ad B w' := by
 obtain ⟨W, h1, rfl, h3⟩ := h.ex
 exact ⟨W, h1, rfl, h3.trans (t.below h3.size (fun k o hk hs => by have := hS k o hs; omega))⟩
theorem RcB.size (h : RcB cs ad B w) : B <= w.heap.size := by
 obtain ⟨W, h1, rfl, h3⟩ := h.ex
 exact h3.size
structure RkPl where
 B : Nat
 rp : RmPl
 k : Nat
 tb : Nat
 tcap : Nat
 ad : Nat -> Option Addr
 cc : Nat -> Nat
 rb : Nat -> Nat
 rcap : Nat -> Nat
 mv : Value
def RkPl.to (p : RkPl) (r : RmPl) (v : Value) : RkPl := { p with rp := r, mv := v }
def RkPl.fp (p : RkPl) (n : Nat) (s : Rm) (k : Nat) : Prop := k = p.k ∨ k = p.tb ∨ (∃ t, t < n /\ k = p.rb t) ∨ p.mv.ownBlock = some k ∨ p.rp.fp s k
structure RkAt (cs : List (List Ins)) (p : RkPl) (m : Mk) (w : World) : Prop where
 rc : RcB cs p.ad p.B w
 mem : RmAt p.rp m.mem w
 thr : m.mem.threads = cs.length
 few : cs.length <= 6
 tcap : cs.length <= p.tcap
 mM : w.cell? ⟨p.k, 0, none⟩ = some (.pointer (some ⟨p.rp.mb, 0, none⟩))
 mT : w.cell? ⟨p.k, 1, none⟩ = some (.slice (some ⟨p.tb, 0, none⟩) cs.length p.tcap)
 mMarks : w.cell? ⟨p.k, 2, none⟩ = some p.mv
 mFaults : w.cell? ⟨p.k, 3, none⟩ = some (.int .i64 m.faults)
 tCode : ∀ (t : Nat) L, cs[t]? = some L -> w.cell? ⟨p.tb, t * 3, none⟩ = some (.slice (p.ad t) L.length (p.cc t))
 ccap : ∀ (t : Nat) L, cs[t]? = some L -> L.length <= p.cc t
 tRegs : ∀ t, t < cs.length -> w.cell? ⟨p.tb, t * 3 + 1, none⟩ = some (.slice (some ⟨p.rb t, 0, none⟩) 8 (p.rcap t))
 tAt : ∀ t, t < cs.length -> w.cell? ⟨p.tb, t * 3 + 2, none⟩ = some (.int .i64 (m.pc t))
 rcap : ∀ t, t < cs.length -> 8 <= p.rcap t
 regs : ∀ t r, t < cs.length -> r < 8 -> w.cell? ⟨p.rb t, r, none⟩ = some (.int .i64 (m.regs t r))
 own : w.ownsRow 0 77 2 p.mv m.marks.length (rmarkCells m.marks)
 fk : ∀ o, w.frozen? ⟨p.k, o, none⟩ = false
 ft : ∀ o, w.frozen? ⟨p.tb, o, none⟩ = false
 fr : ∀ t o, t < cs.length -> w.frozen? ⟨p.rb t, o, none⟩ = false
 lt' : p.tb < w.heap.size
 d1 : p.k ≠ p.tb
 d2 : ∀ t, t < cs.length -> p.rb t ≠ p.k /\ p.rb t ≠ p.tb
 d3 : ∀ t u, t < cs.length -> u < cs.length -> t ≠ u -> p.rb t ≠ p.rb u
 d4 : ∀ k, p.mv.ownBlock = some k -> k ≠ p.k /\ k ≠ p.tb /\ ∀ t, t < cs.length -> k ≠ p.rb t
 d5 : ∀ k, p.rp.fp m.mem k -> k ≠ p.k /\ k ≠ p.tb /\ (∀ t, t < cs.length -> k ≠ p.rb t) /\ p.mv.ownBlock ≠ some k
 ge : ∀ k, p.fp cs.length m.mem k -> p.B <= k
theorem RkAt.lk {p : RkPl} (h : RkAt cs p m w) : p.k < w.heap.size := bLt h.mM
theorem RkAt.lr {p : RkPl} (h : RkAt cs p m w) (ht : t < cs.length) : p.rb t < w.heap.size := bLt (h.regs t 0 ht (by decide))
theorem RkAt.fp_lt {p : RkPl} (h : RkAt cs p m w) {k : Nat} (hk : p.fp cs.length m.mem k) : k < w.heap.size := by
 rcases hk with rfl | rfl | ⟨t, ht, rfl⟩ | hk | hk
 ·exact h.lk
 ·exact h.lt'
 ·exact h.lr ht
 ·exact (h.own.lt k hk).2
 ·exact h.mem.fp_lt hk
theorem RkAt.turns {p : RkPl} {w w' : World} (h : RkAt cs p m w) (t : Turns S w w') (hS : ∀ k o, S k o -> ¬ p.fp cs.length m.mem k) (hB : ∀ k o, S k o -> p.B <= k) : RkAt cs p m w' where
 rc := h.rc.turns t hB
 mem := h.mem.turns t (fun k o hk hs => hS k o hs (.inr (.inr (.inr (.inr hk)))))
 thr := h.thr
 few := h.few
 tcap := h.tcap
 mM := t.keep h.mM (fun hs => hS _ _ hs (.inl rfl))
 mT := t.keep h.mT (fun hs => hS _ _ hs (.inl rfl))
 mMarks := t.keep h.mMarks (fun hs => hS _ _ hs (.inl rfl))
 mFaults := t.keep h.mFaults (fun hs => hS _ _ hs (.inl rfl))
 tCode i L hi := t.keep (h.tCode i L hi) (fun hs => hS _ _ hs (.inr (.inl rfl)))
 ccap := h.ccap
 tRegs i hi := t.keep (h.tRegs i hi) (fun hs => hS _ _ hs (.inr (.inl rfl)))
 tAt i hi := t.keep (h.tAt i hi) (fun hs => hS _ _ hs (.inr (.inl rfl)))
 rcap := h.rcap
 regs i r hi hr := t.keep (h.regs i r hi hr) (fun hs => hS _ _ hs (.inr (.inr (.inl ⟨i, hi, rfl⟩))))
 own := ownsRow_block h.own fun k hk => t.block k (h.own.lt k hk).2 (fun o hs => hS _ _ hs (.inr (.inr (.inr (.inl hk)))))
 fk o := by rw [t.frozen _ _ h.lk (fun hs => hS _ _ hs (.inl rfl))]; exact h.fk o
 ft o := by rw [t.frozen _ _ h.lt' (fun hs => hS _ _ hs (.inr (.inl rfl)))]; exact h.ft o
 fr i o hi := by rw [t.frozen _ _ (h.lr hi) (fun hs => hS _ _ hs (.inr (.inr (.inl ⟨i, hi, rfl⟩))))]; exact h.fr i o hi
 lt' := Nat.lt_of_lt_of_le h.lt' t.size
 d1 := h.d1
 d2 := h.d2
 d3 := h.d3
 d4 := h.d4
 d5 := h.d5
 ge := h.ge
theorem RkAt.below {p : RkPl} {w w' : World} (h : RkAt cs p m w) (hb : Below w.heap.size w w') : RkAt cs p m w' :=
 h.turns (Turns.of_below (S := fun _ _ => False) hb) (fun _ _ h => h.elim) (fun _ _ h => h.elim)
theorem RkAt.drewN {p : RkPl} (h : RkAt cs p m w) (n : Nat) : RkAt cs p m (w.drewN n) := h.below (Below.drewN' n)
structure RkStep (cs : List (List Ins)) (p : RkPl) (s : Rm) (w : World) (r : RmPl) (v : Value) (m' : Mk) (w' : World) : Prop where
 at' : RkAt cs (p.to r v) m' w'
 turns : Turns (fun k _ => p.fp cs.length s k) w w'
 fp : ∀ k, (p.to r v).fp cs.length m'.mem k -> p.fp cs.length s k ∨ w.heap.size <= k
 mb : r.mb = p.rp.mb
theorem RkStep.refl {p : RkPl} (h : RkAt cs p m w) : RkStep cs p m.mem w p.rp p.mv m w := ⟨h, Turns.refl _ _, fun _ h => Or.inl h, rfl⟩
theorem RkStep.of_below' {p : RkPl} {w w' : World} (h : RkAt cs p m w) (k : Below w.heap.size w w') : RkStep cs p m.mem w p.rp p.mv m w' := ⟨h.below k, Turns.of_below k, fun _ h => Or.inl h, rfl⟩
theorem RkStep.below {p : RkPl} {w w' w2 : World} (h : RkStep cs p s w r v m w') (k : Below w'.heap.size w' w2) : RkStep cs p s w r v m w2 := ⟨h.at'.below k, h.turns.trans (Turns.of_below k), h.fp, h.mb⟩
theorem RkStep.of_below {p : RkPl} {w0 w w' : World} (k : Below w0.heap.size w0 w) (h : RkStep cs p s w r v m w') : RkStep cs p s w0 r v m w' :=
 ⟨h.at', (Turns.of_below k).trans h.turns, fun i hi => (h.fp i hi).imp id (fun e => Nat.le_trans k.size e), h.mb⟩
theorem Turns.chain {S S' : Nat -> Nat -> Prop} {a b c : World} (h : Turns S a b) (k : Turns S' b c) (hs : ∀ i o, S' i o -> S i o ∨ a.heap.size <= i) : Turns S a c :=
 ⟨k.os.trans h.os, k.tape.trans h.tape, k.output.trans h.output, Nat.le_trans h.size k.size,
  fun i hi ho => (k.block i (Nat.lt_of_lt_of_le hi h.size) (fun o e => by
   rcases hs i o e with e | e
   ·exact ho o e
   ·omega)).trans (h.block i hi ho),
  fun i o hi ho => (k.cell i o (Nat.lt_of_lt_of_le hi h.size) (fun e => by
   rcases hs i o e with e | e
   ·exact ho e
   ·omega)).trans (h.cell i o hi ho),
  fun i o hi ho => (k.frozen i o (Nat.lt_of_lt_of_le hi h.size) (fun e => by
   rcases hs i o e with e | e
   ·exact ho e
   ·omega)).trans (h.frozen i o hi ho)⟩
theorem RkStep.trans {p : RkPl} {r r2 : RmPl} {v v2 : Value} {m m2 : Mk} {w w' w2 : World} (h : RkStep cs p s w r v m w') (k : RkStep cs (p.to r v) m.mem w' r2 v2 m2 w2) : RkStep cs p s w r2 v2 m2 w2 where
 at' := k.at'
 turns := h.turns.chain k.turns (fun i _ e => h.fp i e)
 fp i hi := by
  rcases k.fp i hi with e | e
  ·exact h.fp i e
  ·exact Or.inr (Nat.le_trans h.turns.size e)
 mb := k.mb.trans h.mb
theorem RkStep.setNew {p : RkPl} {w w' : World} (h : RkStep cs p s w r v m w') (u : Value) (hb : w.heap.size <= b) (hn : ¬ (p.to r v).fp cs.length m.mem b) (hB : p.B <= b) : RkStep cs p s w r v m (w'.setCell ⟨b, o, none⟩ u) :=
 ⟨h.at'.turns (S := fun k _ => k = b) ((Turns.refl _ _).setCell _ rfl) (fun k _ e => by rw [e]; exact hn) (fun k _ e => by rw [e]; exact hB), h.turns.setNew _ hb, h.fp, h.mb⟩
theorem RkAt.apart {p : RkPl} (h : RkAt cs p m w) (hb : b = p.k ∨ b = p.tb ∨ ∃ t, t < cs.length /\ b = p.rb t) :
  RcB cs p.ad p.B (w.setCell ⟨b, o, none⟩ v) /\ RmAt p.rp m.mem (w.setCell ⟨b, o, none⟩ v) /\ (w.setCell ⟨b, o, none⟩ v).ownsRow 0 77 2 p.mv m.marks.length (rmarkCells m.marks) /\ Turns (fun k _ => p.fp cs.length m.mem k) w (w.setCell ⟨b, o, none⟩ v) := by
 have hfp : p.fp cs.length m.mem b := by
  rcases hb with e | e | e
  ·exact .inl e
  ·exact .inr (.inl e)
  ·exact .inr (.inr (.inl e))
 have T : Turns (fun k _ => k = b) w (w.setCell ⟨b, o, none⟩ v) := (Turns.refl _ _).setCell _ rfl
 refine ⟨h.rc.turns T (fun k _ e => by rw [e]; exact h.ge b hfp), h.mem.turns T (fun k _ hk e => ?_), ownsRow_block h.own fun k hk => Below.heap_setCell _ _ _ _ (fun e => ?_), (Turns.refl _ _).setCell _ hfp⟩
 ·have := h.d5 k hk
  rcases hb with e' | e' | ⟨t, ht, e'⟩
  ·exact this.1 (e.trans e')
  ·exact this.2.1 (e.trans e')
  ·exact this.2.2.1 t ht (e.trans e')
 ·have := h.d4 k hk
  rcases hb with e' | e' | ⟨t, ht, e'⟩
  ·exact this.1 (e.trans e')
  ·exact this.2.1 (e.trans e')
  ·exact this.2.2 t ht (e.trans e')
theorem RkAt.setReg {p : RkPl} (h : RkAt cs p m w) {t r : Nat} (ht : t < cs.length) (hr : r < 8) (v : Int) : RkStep cs p m.mem w p.rp p.mv (m.setReg t r v) (w.setCell ⟨p.rb t, r, none⟩ (.int .i64 v)) := by
 obtain ⟨h1, h2, h3, h4⟩ := h.apart (b := p.rb t) (o := r) (v := .int .i64 v) (.inr (.inr ⟨t, ht, rfl⟩))
 have dk := (h.d2 t ht).1
 have dt := (h.d2 t ht).2
 refine ⟨⟨h1, h2, h.thr, h.few, h.tcap, cell_ne h.mM (Or.inl dk.symm), cell_ne h.mT (Or.inl dk.symm), cell_ne h.mMarks (Or.inl dk.symm), cell_ne h.mFaults (Or.inl dk.symm),
  fun i L hi => cell_ne (h.tCode i L hi) (Or.inl dt.symm), h.ccap, fun i hi => cell_ne (h.tRegs i hi) (Or.inl dt.symm), fun i hi => cell_ne (h.tAt i hi) (Or.inl dt.symm), h.rcap, fun i k hi hk => ?_, h3,
  fun o => by rw [World.frozen?_setCell]; exact h.fk o, fun o => by rw [World.frozen?_setCell]; exact h.ft o, fun i o hi => by rw [World.frozen?_setCell]; exact h.fr i o hi, by rw [World.size_setCell]; exact h.lt', h.d1, h.d2, h.d3, h.d4, h.d5, h.ge⟩, h4, fun _ h => Or.inl h, rfl⟩
 simp only [Mk.setReg]
 by_cases e : i = t /\ k = r
 ·rw [if_pos e, e.1, e.2]
  exact World.cell?_setCell_same _ _ _ (h.regs t r ht hr)
 ·rw [if_neg e]
  refine cell_ne (h.regs i k hi hk) ?_
  by_cases e1 : i = t
  ·exact Or.inr (fun e2 => e ⟨e1, e2⟩)
  ·exact Or.inl (h.d3 i t hi ht e1)
theorem RkAt.setPc {p : RkPl} (h : RkAt cs p m w) (ht : t < cs.length) (n : Nat) : RkStep cs p m.mem w p.rp p.mv (m.setPc t n) (w.setCell ⟨p.tb, t * 3 + 2, none⟩ (.int .i64 n)) := by
 obtain ⟨h1, h2, h3, h4⟩ := h.apart (b := p.tb) (o := t * 3 + 2) (v := .int .i64 n) (.inr (.inl rfl))
 have dk := h.d1
 refine ⟨⟨h1, h2, h.thr, h.few, h.tcap, cell_ne h.mM (Or.inl dk), cell_ne h.mT (Or.inl dk), cell_ne h.mMarks (Or.inl dk), cell_ne h.mFaults (Or.inl dk),
  fun i L hi => cell_ne (h.tCode i L hi) (Or.inr (by omega)), h.ccap, fun i hi => cell_ne (h.tRegs i hi) (Or.inr (by omega)), fun i hi => ?_, h.rcap, fun i k hi hk => cell_ne (h.regs i k hi hk) (Or.inl (h.d2 i hi).2), h3,
  fun o => by rw [World.frozen?_setCell]; exact h.fk o, fun o => by rw [World.frozen?_setCell]; exact h.ft o, fun i o hi => by rw [World.frozen?_setCell]; exact h.fr i o hi, by rw [World.size_setCell]; exact h.lt', h.d1, h.d2, h.d3, h.d4, h.d5, h.ge⟩, h4, fun _ h => Or.inl h, rfl⟩
 simp only [Mk.setPc]
 by_cases e : i = t
 ·rw [if_pos e, e]
  exact World.cell?_setCell_same _ _ _ (h.tAt t ht)
 ·rw [if_neg e]
  exact cell_ne (h.tAt i hi) (Or.inr (by omega))
theorem RkAt.addFault {p : RkPl} (h : RkAt cs p m w) (n : Nat) : RkStep cs p m.mem w p.rp p.mv (m.addFault n) (w.setCell ⟨p.k, 3, none⟩ (.int .i64 ((m.faults + n : Nat) : Int))) := by
 obtain ⟨h1, h2, h3, h4⟩ := h.apart (b := p.k) (o := 3) (v := .int .i64 ((m.faults + n : Nat) : Int)) (.inl rfl)
 have dk := h.d1
 exact ⟨⟨h1, h2, h.thr, h.few, h.tcap, cell_ne h.mM (Or.inr (by decide)), cell_ne h.mT (Or.inr (by decide)), cell_ne h.mMarks (Or.inr (by decide)), World.cell?_setCell_same _ _ _ h.mFaults,
  fun i L hi => cell_ne (h.tCode i L hi) (Or.inl dk.symm), h.ccap, fun i hi => cell_ne (h.tRegs i hi) (Or.inl dk.symm), fun i hi => cell_ne (h.tAt i hi) (Or.inl dk.symm), h.rcap, fun i k hi hk => cell_ne (h.regs i k hi hk) (Or.inl (h.d2 i hi).1), h3,
  fun o => by rw [World.frozen?_setCell]; exact h.fk o, fun o => by rw [World.frozen?_setCell]; exact h.ft o, fun i o hi => by rw [World.frozen?_setCell]; exact h.fr i o hi, by rw [World.size_setCell]; exact h.lt', h.d1, h.d2, h.d3, h.d4, h.d5, h.ge⟩, h4, fun _ h => Or.inl h, rfl⟩
theorem RkAt.ofMem {p : RkPl} {w w' : World} (h : RkAt cs p m w) (q : RmStep p.rp m.mem w r s w') (hn : s.threads = m.mem.threads) : RkStep cs p m.mem w r p.mv (m.setMem s) w' := by
 have hmb := q.mb
 have hS : ∀ k, p.rp.fp m.mem k -> p.fp cs.length m.mem k := fun k hk => .inr (.inr (.inr (.inr hk)))
 have lk := h.lk
 have ltb := h.lt'
 have nk : ∀ o : Nat, ¬ (fun k (_ : Nat) => p.rp.fp m.mem k) p.k o := fun _ e => (h.d5 _ e).1 rfl
 have nt : ∀ o : Nat, ¬ (fun k (_ : Nat) => p.rp.fp m.mem k) p.tb o := fun _ e => (h.d5 _ e).2.1 rfl
 have nr : ∀ t (o : Nat), t < cs.length -> ¬ (fun k (_ : Nat) => p.rp.fp m.mem k) (p.rb t) o := fun t _ ht e => (h.d5 _ e).2.2.1 t ht rfl
 have fz1 : ∀ o, w'.frozen? ⟨p.k, o, none⟩ = false := fun o => by rw [q.turns.frozen _ _ lk (nk o)]; exact h.fk o
 have fz2 : ∀ o, w'.frozen? ⟨p.tb, o, none⟩ = false := fun o => by rw [q.turns.frozen _ _ ltb (nt o)]; exact h.ft o
 have fz3 : ∀ t o, t < cs.length -> w'.frozen? ⟨p.rb t, o, none⟩ = false := fun t o ht => by rw [q.turns.frozen _ _ (h.lr ht) (nr t o ht)]; exact h.fr t o ht
 refine ⟨⟨h.rc.turns q.turns (fun k _ e => h.ge k (hS k e)), q.at', hn.trans h.thr, h.few, h.tcap, by have e := q.turns.keep h.mM (nk 0); rw [<- hmb] at e; exact e, q.turns.keep h.mT (nk 1), q.turns.keep h.mMarks (nk 2), q.turns.keep h.mFaults (nk 3),
  fun i L hi => q.turns.keep (h.tCode i L hi) (nt (i * 3)), h.ccap, fun i hi => q.turns.keep (h.tRegs i hi) (nt (i * 3 + 1)), fun i hi => q.turns.keep (h.tAt i hi) (nt (i * 3 + 2)), h.rcap, fun i k hi hk => q.turns.keep (h.regs i k hi hk) (nr i k hi),
  ownsRow_block h.own fun k hk => q.turns.block k (h.own.lt k hk).2 (fun _ e => (h.d5 k e).2.2.2 hk),
  fz1, fz2, fz3, Nat.lt_of_lt_of_le ltb q.turns.size, h.d1, h.d2, h.d3, h.d4, fun k hk => ?_, fun k hk => ?_⟩,
  q.turns.mono (fun k _ _ e => hS k e), fun k hk => ?_, hmb⟩
 ·rcases q.fp k hk with e | e
  ·exact h.d5 k e
  ·exact ⟨by show k ≠ p.k; omega, by show k ≠ p.tb; omega, fun t ht => by have := h.lr ht; show k ≠ p.rb t; omega, fun e' => by have := (h.own.lt k e').2; omega⟩
 ·rcases hk with e | e | e | e | e
  ·exact h.ge k (.inl e)
  ·exact h.ge k (.inr (.inl e))
  ·exact h.ge k (.inr (.inr (.inl e)))
  ·exact h.ge k (.inr (.inr (.inr (.inl e))))
  ·rcases q.fp k e with e | e
   ·exact h.ge k (hS k e)
   ·have := h.rc.size; show p.B <= k; omega
 ·rcases hk with e | e | e | e | e
  ·exact Or.inl (.inl e)
  ·exact Or.inl (.inr (.inl e))
  ·exact Or.inl (.inr (.inr (.inl e)))
  ·exact Or.inl (.inr (.inr (.inr (.inl e))))
  ·exact (q.fp k e).imp (hS k) id
end
end Go.Proofs.YtaiigfcfmcicjaaGreatDoor
