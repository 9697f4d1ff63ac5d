import Derived.Test.YtaiigfcfmcicjaaGreatDoorE33
import Derived.Test.YtaiigfcfmcicjaaGreatDoorE03
import Derived.Test.YtaiigfcfmcicjaaGreatDoorE12
import Derived.Test.YtaiigfcfmcicjaaGreatDoorE32
namespace Go.Proofs.YtaiigfcfmcicjaaGreatDoor
set_option maxRecDepth 100000
set_option maxHeartbeats 8000000
section
open Go.RowKit Go.Extern.Stop Go.Stop Go.Extern Go.Maps Go.WideMaps Go.Sort
def eachFrom : List (List OpI) -> Nat -> Nat × Int
 | [], _ => (0, -1)
 | L :: r, t => if folE .first L ≠ 0 then (folE .first L, (t : Int)) else eachFrom r (t + 1)
def eachE (cl : List (List OpI)) : Nat × Int := if fitB cl = true then eachFrom cl 0 else (2, -1)
theorem fit_rows {cl : List (List OpI)} (h : fitB cl = true) : ∀ L ∈ cl, L.length <= 20 := fun L hL => by
 unfold fitB at h
 simp only [Bool.and_eq_true, Bool.not_eq_true'] at h
 have h3 := h.2.2
 unfold longTo at h3
 rw [List.take_length] at h3
 have := List.any_eq_false.1 h3 L hL
 simpa using this
theorem fit_len {cl : List (List OpI)} (h : fitB cl = true) : cl.length <= 6 := by
 unfold fitB at h
 simp only [Bool.and_eq_true, decide_eq_true_eq] at h
 exact h.2.1
theorem fol1_check {a : Nat -> Addr} {w00 w : World} (hE : EnvL a w00) {ad : Option Addr} {l : List OpI} {cap : Nat} (ho : opsAt ad l w00) (hw : Below w00.heap.size w00 w) (hl : l.length <= 30) {bx : Nat} (cx : w.cell? ⟨bx, 0, none⟩ = some (.func (.func 37) #[] #[])) :
  Calls Tryz.prog 50 #[.slice ad l.length cap, .pointer (some ⟨bx, 0, none⟩)] w fun e w' => e = .returned (errVal a (folE .first l)) /\ Below w.heap.size w w' := by
 have HF := hide (followOne_check (cap := cap) hE ho hw hl)
 clear hE ho hw hl
 generalize l.length = n at *
 go_enter Tryz.func50, Tryz.ntmps50
 go_wp2_with fail
 refine HF.out.mono ?_
 rintro e w2 ⟨rfl, h2⟩
 have HP := hide h2
 obtain ⟨ev, hev⟩ : ∃ ev, Hid (errVal a (folE .first l) = ev) := ⟨_, hide rfl⟩
 rw [hev.out]
 clear h2 HF
 go_wp2_with fail
 refine bodyPost_ret (v := ev) (by simp only [results, Tryz.results50]; go_simp) rfl ⟨by rw [hev.out], HP.out⟩
theorem each_check {a : Nat -> Addr} {w00 w : World} (hE : EnvL a w00) {ad : Option Addr} {cl : List (List OpI)} {cap : Nat} (ho : opRowsAt ad cl w00) (hw : Below w00.heap.size w00 w) {bx : Nat} (cx : w.cell? ⟨bx, 0, none⟩ = some (.func (.func 37) #[] #[])) :
  Calls Tryz.prog 49 #[.slice ad cl.length cap, .func (.func 50) #[] #[.pointer (some ⟨bx, 0, none⟩)]] w fun e w' => ∃ v, e = .returned v /\ errIs a (eachE cl) v w' w.heap.size /\ Below w.heap.size w w' := by
 have HE := hide hE
 have HO := hide ho
 have HFI := hide (fit_any (cap := cap) (ho.below hw))
 have HCX := hide cx
 skip
 have H0 : Hid (eachFrom cl 0 = eachFrom (cl.drop 0) 0 /\ Below w00.heap.size w00 w /\ Below w.heap.size w w) := hide ⟨rfl, hw, Below.refl _ _⟩
 obtain ⟨n, hn⟩ : ∃ n, Hid (cl.length = n) := ⟨_, hide rfl⟩
 rw [hn.out] at HFI ⊢
 have g1 : w.cell? ⟨1, 0, none⟩ = some (errAt (a 1)) := (hE.below hw.block).cell 1 (by decide)
 clear hE ho hw cx
 cases hfb : fitB cl
 ·rw [hfb] at HFI
  have HEE : Hid (eachE cl = (2, -1)) := hide (by unfold eachE; rw [hfb]; rfl)
  clear hfb
  go_enter Tryz.func49, Tryz.ntmps49
  go_wp2_with fail
  refine HFI.out.mono ?_
  rintro e w2 ⟨rfl, rfl⟩
  go_wp2_with fail
  go_ret
  exact ⟨_, rfl, by rw [HEE.out]; exact .inr (.inl ⟨by decide, rfl, rfl⟩), Below.refl _ _⟩
 ·rw [hfb] at HFI
  have HEE : Hid (eachE cl = eachFrom cl 0) := hide (by unfold eachE; rw [hfb]; rfl)
  have HL := hide (fit_rows hfb)
  have hn6 : cl.length <= 6 := fit_len hfb
  rw [hn.out] at hn6
  clear hfb g1
  go_enter Tryz.func49, Tryz.ntmps49
  go_wp2_with fail
  refine HFI.out.mono ?_
  rintro e w2 ⟨rfl, e2⟩
  obtain rfl : w = w2 := e2.symm
  clear HFI
  go_wp2_with fail
  go_loopw [5, 6, 7, 14] (fun _ _ _ i wr => ∃ k : Nat, k <= n /\ i = .int .i64 k /\ Hid (eachFrom cl 0 = eachFrom (cl.drop k) k /\ Below w00.heap.size w00 wr /\ Below w.heap.size w wr)) (fun _ _ _ i _ => n - (intOf i).toNat)
  case atStart => exact ⟨0, Nat.zero_le _, rfl, H0⟩
  case round =>
   clear H0
   obtain ⟨k, hk, rfl, HR⟩ := hrel
   obtain ⟨hee, hbw, hbb⟩ := HR.out
   by_cases hlt : k < n
   ·have ki : (k : Int) < n := by omega
    obtain ⟨L, hL⟩ : ∃ L, cl[k]? = some L := ⟨_, List.getElem?_eq_getElem (by rw [hn.out]; exact hlt)⟩
    have hdr : cl.drop k = L :: cl.drop (k + 1) := by
     have := List.drop_eq_getElem_cons (show k < cl.length by rw [hn.out]; exact hlt)
     rw [this]
     have h2 := List.getElem?_eq_getElem (show k < cl.length by rw [hn.out]; exact hlt)
     rw [hL] at h2
     rw [Option.some.inj h2]
    rw [hdr] at hee
    obtain ⟨b9, off, adl, capl, rfl, c00, hops⟩ := HO.out k L hL
    have c0 := keep_cell hbw c00
    have hl20 := HL.out L (List.mem_of_getElem? hL)
    have HF1 := hide (fol1_check (cap := capl) HE.out hops hbw (by omega) (keep_cell hbb HCX.out))
    have HEE2 := hide hee
    have HBW := hide hbw
    have HBB := hide hbb
    clear hL hdr hee hbw c00 hops hl20 HR hbb
    generalize hLn : L.length = ln at *
    go_wp2_with fail
    refine HF1.out.mono ?_
    rintro e w2 ⟨rfl, hb2⟩
    have HBB2 := hide (below_step HBB.out hb2)
    have HBW2 := hide (below_step HBW.out hb2)
    clear hb2 HBB HBW
    by_cases hz : folE .first L = 0
    ·rw [hz, errVal_zero a rfl]
     have HEN : Hid (eachFrom cl 0 = eachFrom (cl.drop (k + 1)) (k + 1)) := hide (by
      rw [HEE2.out]
      show (if folE .first L ≠ 0 then _ else _) = _
      rw [if_neg (fun h => h hz)])
     skip
     clear HF1 HEE2
     go_wp2_with fail
     go_roundw
     case rel => exact ⟨k + 1, by omega, by go_num, hide ⟨HEN.out, HBW2.out, HBB2.out⟩⟩
     case measure => simp [intOf]; omega
    ·obtain ⟨j, hj, hv⟩ := errVal_pos (a := a) hz
     rw [hv]
     have HEN : Hid (eachE cl = (j + 1, (k : Int))) := hide (by
      rw [HEE.out, HEE2.out]
      show (if folE .first L ≠ 0 then _ else _) = _
      rw [if_pos hz, hj])
     have hsz : w.heap.size <= w2.heap.size := HBB2.out.size
     clear HF1 HEE2
     go_wp2_with fail
     go_ret
     refine ⟨_, rfl, ?_, HBB2.out.alloc hsz _⟩
     rw [HEN.out]
     exact .inr (.inr ⟨by simp, k, w2.heap.size, rfl, hsz, rfl, by rw [World.cell?_alloc_new]; rfl, by rw [World.cell?_alloc_new]; rfl⟩)
   ·obtain rfl : k = n := by omega
    have hdl : cl.drop k = [] := by rw [<- hn.out, List.drop_length]
    rw [hdl] at hee
    have HEN : Hid (eachE cl = (0, -1)) := hide (by rw [HEE.out, hee]; rfl)
    have HBB := hide hbb
    clear hee hbw HR hdl hbb
    go_wp2_with fail
    go_ret
    exact ⟨_, rfl, by rw [HEN.out]; exact .inl ⟨rfl, rfl⟩, HBB.out⟩
end
section
open Go.RowKit Go.Extern.Stop Go.Stop Go.Extern Go.Maps Go.WideMaps Go.Sort
theorem errIs_mono {a : Nat -> Addr} {f : Nat × Int} {v : Value} {w : World} {B B' : Nat} (h : errIs a f v w B) (hb : B' <= B) : errIs a f v w B' := by
 rcases h with h | h | ⟨h0, j, N, h1, h2, h3⟩
 ·exact .inl h
 ·exact .inr (.inl h)
 ·exact .inr (.inr ⟨h0, j, N, h1, Nat.le_trans hb h2, h3⟩)
theorem follow_check {a : Nat -> Addr} {w : World} (hE : EnvL a w) {ad : Option Addr} {cl : List (List OpI)} {cap : Nat} (ho : opRowsAt ad cl w) :
  Calls Tryz.prog 31 #[.slice ad cl.length cap, .func (.func 37) #[] #[]] w fun e w' => ∃ v, e = .returned v /\ errIs a (eachE cl) v w' w.heap.size /\ Below w.heap.size w w' := by
 have hB : ∀ T, Below w.heap.size w (w.alloc (.cells #[.func (.func 37) #[] #[]] T)) := fun T => bRf.alloc nL _
 have HEA := hide (fun T => each_check (cap := cap) hE ho (hB T) (bx := w.heap.size) (by rw [World.cell?_alloc_new]; rfl))
 have HB := hide hB
 clear hE ho hB
 generalize cl.length = n at *
 go_enter Tryz.func31, Tryz.ntmps31
 go_wp2_with fail
 refine (HEA.out _).mono ?_
 rintro e w2 ⟨v, rfl, he, hb⟩
 have HV := hide (And.intro (errIs_mono he (HB.out _).size) (below_step (HB.out _) hb))
 clear he hb HEA HB
 go_wp2_with fail
 refine bodyPost_ret (v := v) (by simp only [results, Tryz.results31]; go_simp) rfl ⟨_, rfl, HV.out.1, HV.out.2⟩
theorem clcheck_ok {a : Nat -> Addr} {w : World} (hE : EnvL a w) {ad : Option Addr} {cl : List (List OpI)} {cap : Nat} (ho : opRowsAt ad cl w) :
  Calls Tryz.prog 14 #[.slice ad cl.length cap] w fun e w' => ∃ v, e = .returned v /\ errIs a (eachE cl) v w' w.heap.size /\ Below w.heap.size w w' := by
 have HF := hide (follow_check (cap := cap) hE ho)
 clear hE ho
 generalize cl.length = n at *
 go_enter Tryz.func14, Tryz.ntmps14
 go_wp2_with fail
 refine HF.out.mono ?_
 rintro e w2 ⟨v, rfl, h2⟩
 have HV := hide h2
 clear h2 HF
 go_wp2_with fail
 refine bodyPost_ret (v := v) (by simp only [results, Tryz.results14]; go_simp) rfl ⟨_, rfl, HV.out.1, HV.out.2⟩
end
section
open Go.RowKit Go.Extern.Stop Go.Stop Go.Extern Go.Maps Go.WideMaps Go.Sort
theorem folE_sh0 : ∀ {l : List OpI} {s : CrI}, folE s l = 0 -> ∀ x ∈ l, kn x.kind.toList ≠ 0
 | [], _, _, x, hx => by cases hx
 | y :: l, s, h, x, hx => by
  unfold folE at h
  by_cases h0 : shErr (kn y.kind.toList) y.n = 0
  ·rw [if_neg (fun k => k h0)] at h
   by_cases h1 : ckErr (kn y.kind.toList) s.deep s.ret = 0
   ·rw [if_neg (fun k => k h1)] at h
    rcases List.mem_cons.1 hx with rfl | hx
    ·intro hk
     rw [hk] at h0
     simp [shErr] at h0
    ·exact folE_sh0 h x hx
   ·rw [if_pos h1] at h; exact absurd h h1
  ·rw [if_pos h0] at h; exact absurd h h0
theorem eachFrom_zero : ∀ {cl : List (List OpI)} {t : Nat}, (eachFrom cl t).1 = 0 -> ∀ L ∈ cl, folE .first L = 0
 | [], _, _, L, hL => by cases hL
 | M :: cl, t, h, L, hL => by
  unfold eachFrom at h
  by_cases h0 : folE .first M = 0
  ·rw [if_neg (fun k => k h0)] at h
   rcases List.mem_cons.1 hL with rfl | hL
   ·exact h0
   ·exact eachFrom_zero h L hL
  ·rw [if_pos h0] at h; exact absurd h h0
theorem eachE_ok {cl : List (List OpI)} (h : (eachE cl).1 = 0) : fitB cl = true /\ cl.length <= 6 /\ 1 <= cl.length /\ kindsOk cl := by
 unfold eachE at h
 by_cases hf : fitB cl = true
 ·rw [if_pos hf] at h
  refine ⟨hf, fit_len hf, ?_, fun L hL => ⟨fit_rows hf L hL, folE_sh0 (eachFrom_zero h L hL)⟩⟩
  unfold fitB at hf
  simp only [Bool.and_eq_true, decide_eq_true_eq] at hf
  exact hf.1
 ·rw [if_neg hf] at h
  cases h
def clCells : List (List Int) := [[1], [1]]
theorem clbuild_ok {a : Nat -> Addr} {f : Nat} (hf : 1 <= f /\ f <= 4) {ad : Option Addr} {cl : List (List OpI)} {cap : Nat} {w : World} (hE : EnvL a w) (ho : opRowsAt ad cl w) (h0 : (eachE cl).1 = 0) :
  Calls Tryz.prog 15 #[.int .i64 f, .slice ad cl.length cap] w fun e w' => ∃ base sb iv vs rv rs vc ks B, e = .returned (.tuple #[.agg #[.int .i64 64, iv, rv], vc, .nilIface]) /\ TW base sb w' [] iv vs (graceI f (clCells.map pad4) cl.length) rv rs (rowsG 2 cl.length cl.length) w' /\ KP B w' vc ks (cl.map (clC f)) w' /\ w.heap.size < base /\ w.heap.size < B /\ Below w.heap.size w w' := by
 obtain ⟨-, h6, -, hk⟩ := eachE_ok h0
 have hB0 : Below w.heap.size w (w.alloc (.cells #[.int .i64 0, .slice none 0 0, .slice none 0 0] 38)) := bRf.alloc nL _
 have HB0 := hide hB0
 have HRC : Hid ((∀ o, (w.alloc (.cells #[.int .i64 0, .slice none 0 0, .slice none 0 0] 38)).cell? ⟨w.heap.size, o, none⟩ = (#[.int .i64 0, .slice none 0 0, .slice none 0 0] : Array Value)[o]?) /\ (∀ o, (w.alloc (.cells #[.int .i64 0, .slice none 0 0, .slice none 0 0] 38)).frozen? ⟨w.heap.size, o, none⟩ = false) /\ w.heap.size < (w.alloc (.cells #[.int .i64 0, .slice none 0 0, .slice none 0 0] 38)).heap.size) := hide ⟨fun o => World.cell?_alloc_new _ _ _ _, fun o => World.frozen?_alloc_new _ _ _ _, by simp⟩
 have HCH := hide (clcheck_ok (cap := cap) (hE.below hB0.block) (ho.below hB0))
 have HNA := hide (tname_ok 0 (by decide))
 have HBU := hide (fun (W : World) (hb : Below w.heap.size w W) (ac : Option Addr) (capc : Nat) (hc : cellsAt ac clCells W) => tbuild_ok (cap := cap) (capc := capc) hf (ho.below hb) hk h6 hc (by decide) (by decide))
 rw [show clCells.length = 2 from rfl] at HBU
 rw [show ((0 : Nat) : Int) + 1 = 1 from rfl, show ((0 : Nat) : Int) = 0 from rfl] at HNA
 have hmf : ∀ (fn : Fn) (first cap : Array Value) (w : World), (Instr.makeFunc fn first cap).run Tryz.prog w = .ok (.func fn first cap) w := fun _ _ _ _ => rfl
 have HII := hide (fun (n : Nat) => graceI_len f (clCells.map pad4) n)
 have HRL := hide (fun (n : Nat) => rowsG_len 2 n n)
 have HCL : Hid ((cl.map (clC f)).length = cl.length) := hide (List.length_map _)
 clear hE ho hB0
 generalize cl.length = n at *
 generalize graceI f (clCells.map pad4) n = II at *
 generalize rowsG 2 n n = RR at *
 generalize cl.map (clC f) = CC at *
 generalize hfi : (f : Int) = fi at *
 clear hfi hf hk h6
 have H00 := hide h0
 clear h0
 go_enter Tryz.func15, Tryz.ntmps15
 go_wp2_with fail
 refine HCH.out.mono ?_
 rintro e w2 ⟨v, rfl, he, hb2⟩
 obtain rfl : v = .nilIface := by
  rcases he with ⟨-, e⟩ | ⟨h, -⟩ | ⟨h, -⟩
  ·exact e
  ·exact absurd H00.out h
  ·exact absurd H00.out h
 have HB2 := hide hb2
 clear he hb2 HCH H00
 go_wp2_with fail
 refine (HNA.out _).mono ?_
 rintro e w3 ⟨rfl, hb3⟩
 have HB3 := hide hb3
 clear hb3
 go_wp2_with fail
 have hs3 := HB3.out.size
 rw [World.size_alloc] at hs3
 have hal : Below w3.heap.size w3 ((w3.alloc (.cells #[.int .i64 1] 3)).alloc (.cells #[.slice (some ⟨w2.heap.size, 0, none⟩) 1 1, .slice (some ⟨w3.heap.size, 0, none⟩) 1 1] 54)) := (bRf.alloc nL _).alloc (by simp) _
 have hb6 : Below w2.heap.size w2 ((w3.alloc (.cells #[.int .i64 1] 3)).alloc (.cells #[.slice (some ⟨w2.heap.size, 0, none⟩) 1 1, .slice (some ⟨w3.heap.size, 0, none⟩) 1 1] 54)) := below_step (below_step (bRf.alloc nL _) HB3.out) hal
 have HB6 := hide (below_step (below_step HB0.out HB2.out) hb6)
 have HB7 := hide (below_step HB2.out hb6)
 have HCL6 : Hid (cellsAt (some ⟨w3.heap.size + 1, 0, none⟩) clCells ((w3.alloc (.cells #[.int .i64 1] 3)).alloc (.cells #[.slice (some ⟨w2.heap.size, 0, none⟩) 1 1, .slice (some ⟨w3.heap.size, 0, none⟩) 1 1] 54))) := hide (fun i row hr => by
  have hc : ∀ j, ((w3.alloc (.cells #[.int .i64 1] 3)).alloc (.cells #[.slice (some ⟨w2.heap.size, 0, none⟩) 1 1, .slice (some ⟨w3.heap.size, 0, none⟩) 1 1] 54)).cell? ⟨w3.heap.size + 1, 0 + j, none⟩ = (#[.slice (some ⟨w2.heap.size, 0, none⟩) 1 1, .slice (some ⟨w3.heap.size, 0, none⟩) 1 1] : Array Value)[j]? := fun j => by
   have := World.cell?_alloc_new (w3.alloc (.cells #[.int .i64 1] 3)) #[.slice (some ⟨w2.heap.size, 0, none⟩) 1 1, .slice (some ⟨w3.heap.size, 0, none⟩) 1 1] 54 j
   rw [World.size_alloc] at this
   rw [Nat.zero_add]
   exact this
  match i, hr with
  | 0, hr =>
   cases hr
   exact ⟨_, 0, ⟨w2.heap.size, 0, none⟩, 1, rfl, hc 0, ((numsAt_new (w := w2) (l := [1]) (t := 3) rfl).below HB3.out).below hal, by decide, by decide⟩
  | 1, hr =>
   cases hr
   exact ⟨_, 0, ⟨w3.heap.size, 0, none⟩, 1, rfl, hc 1, (numsAt_new (w := w3) (l := [1]) (t := 3) rfl).below (bRf.alloc nL _), by decide, by decide⟩
  | k + 2, hr => cases hr)
 have HT := hide (HBU.out _ HB6.out _ 2 HCL6.out)
 clear hs3 hal hb6 HB0 HB2 HB3 HCL6 HBU
 generalize ((w3.alloc (.cells #[.int .i64 1] 3)).alloc (.cells #[.slice (some ⟨w2.heap.size, 0, none⟩) 1 1, .slice (some ⟨w3.heap.size, 0, none⟩) 1 1] 54)) = W6 at *
 refine HT.out.mono ?_
 rintro e w7 ⟨base, sb, iv, vs, rv, rs, vc, ks, B, rfl, hT5, hK5, hb5, hB5, hbw⟩
 have hlow := below_step HB7.out hbw
 have HBZ := hide (below_step HB6.out hbw)
 have hz6 := HB6.out.size
 have hq5 : w.heap.size < base := by omega
 have hq6 : w.heap.size < B := by omega
 obtain ⟨ai, ci, eiv, -⟩ := ownsRow_shape hT5.oi
 obtain ⟨ar, cr, erv, -⟩ := ownsRow_shape hT5.or'
 obtain ⟨ax, cx, evc, hcx⟩ := hK5.codes
 subst eiv
 subst erv
 subst evc
 obtain ⟨q1, q2, q3⟩ := HRC.out
 have b0 := keep_cell hlow ((q1 0).trans (show _ = some (.int .i64 0) from rfl))
 have b1 := keep_cell hlow ((q1 1).trans (show _ = some (.slice none 0 0) from rfl))
 have b2 := keep_cell hlow ((q1 2).trans (show _ = some (.slice none 0 0) from rfl))
 have z0 := (hlow.frozen (show (⟨w.heap.size, 0, none⟩ : Addr).block < _ from q3)).trans (q2 0)
 have z1 := (hlow.frozen (show (⟨w.heap.size, 1, none⟩ : Addr).block < _ from q3)).trans (q2 1)
 have z2 := (hlow.frozen (show (⟨w.heap.size, 2, none⟩ : Addr).block < _ from q3)).trans (q2 2)
 have HB9 : Hid (Below w.heap.size w (((w7.setCell ⟨w.heap.size, 0, none⟩ (.int .i64 64)).setCell ⟨w.heap.size, 1, none⟩ (.slice ai II.length ci)).setCell ⟨w.heap.size, 2, none⟩ (.slice ar RR.length cr))) := hide (((HBZ.out.setCell nL _).setCell nL _).setCell nL _)
 have HS9 : Hid (TW base sb (((w7.setCell ⟨w.heap.size, 0, none⟩ (.int .i64 64)).setCell ⟨w.heap.size, 1, none⟩ (.slice ai II.length ci)).setCell ⟨w.heap.size, 2, none⟩ (.slice ar RR.length cr)) [] (.slice ai II.length ci) vs II (.slice ar RR.length cr) rs RR (((w7.setCell ⟨w.heap.size, 0, none⟩ (.int .i64 64)).setCell ⟨w.heap.size, 1, none⟩ (.slice ai II.length ci)).setCell ⟨w.heap.size, 2, none⟩ (.slice ar RR.length cr))) := hide
  (((hT5.out hq5 0 (.int .i64 64) rfl).out hq5 1 (.slice ai II.length ci) rfl).out hq5 2 (.slice ar RR.length cr) rfl)
 have HK9 : Hid (KP B (((w7.setCell ⟨w.heap.size, 0, none⟩ (.int .i64 64)).setCell ⟨w.heap.size, 1, none⟩ (.slice ai II.length ci)).setCell ⟨w.heap.size, 2, none⟩ (.slice ar RR.length cr)) (.slice ax CC.length cx) ks CC (((w7.setCell ⟨w.heap.size, 0, none⟩ (.int .i64 64)).setCell ⟨w.heap.size, 1, none⟩ (.slice ai II.length ci)).setCell ⟨w.heap.size, 2, none⟩ (.slice ar RR.length cr))) := hide
  (((hK5.out hq6 0 (.int .i64 64)).out hq6 1 (.slice ai II.length ci)).out hq6 2 (.slice ar RR.length cr))
 have HE9 : Hid (((((w7.setCell ⟨w.heap.size, 0, none⟩ (.int .i64 64)).setCell ⟨w.heap.size, 1, none⟩ (.slice ai II.length ci)).setCell ⟨w.heap.size, 2, none⟩ (.slice ar RR.length cr))).cell? ⟨w.heap.size, 0, none⟩ = some (.int .i64 64) /\ ((((w7.setCell ⟨w.heap.size, 0, none⟩ (.int .i64 64)).setCell ⟨w.heap.size, 1, none⟩ (.slice ai II.length ci)).setCell ⟨w.heap.size, 2, none⟩ (.slice ar RR.length cr))).cell? ⟨w.heap.size, 1, none⟩ = some (.slice ai II.length ci) /\ ((((w7.setCell ⟨w.heap.size, 0, none⟩ (.int .i64 64)).setCell ⟨w.heap.size, 1, none⟩ (.slice ai II.length ci)).setCell ⟨w.heap.size, 2, none⟩ (.slice ar RR.length cr))).cell? ⟨w.heap.size, 2, none⟩ = some (.slice ar RR.length cr)) := hide (by
  have x0 : (w7.setCell ⟨w.heap.size, 0, none⟩ (.int .i64 64)).cell? ⟨w.heap.size, 0, none⟩ = some (.int .i64 64) := World.cell?_setCell_same _ _ _ b0
  have x1 : ((w7.setCell ⟨w.heap.size, 0, none⟩ (.int .i64 64)).setCell ⟨w.heap.size, 1, none⟩ (.slice ai II.length ci)).cell? ⟨w.heap.size, 1, none⟩ = some (.slice ai II.length ci) := World.cell?_setCell_same _ _ _ (cell_ne b1 (.inr (by decide)))
  have x2 : ((((w7.setCell ⟨w.heap.size, 0, none⟩ (.int .i64 64)).setCell ⟨w.heap.size, 1, none⟩ (.slice ai II.length ci)).setCell ⟨w.heap.size, 2, none⟩ (.slice ar RR.length cr))).cell? ⟨w.heap.size, 2, none⟩ = some (.slice ar RR.length cr) := World.cell?_setCell_same _ _ _ (cell_ne (cell_ne b2 (.inr (by decide))) (.inr (by decide)))
  exact ⟨cell_ne (cell_ne x0 (.inr (by decide))) (.inr (by decide)), cell_ne x1 (.inr (by decide)), x2⟩)
 have HQ5 := hide hq5
 have HQ6 := hide hq6
 clear hT5 hK5 hb5 hB5 hbw hlow hcx q1 q2 q3 hq5 hq6 HRC hz6 HT HB6 HB7 HBZ HII HRL HCL HNA
 go_wp2_with fail
 obtain ⟨e0, e1, e2⟩ := HE9.out
 have hBf := HB9.out
 have hst := HS9.out
 have hco := HK9.out
 generalize (((w7.setCell ⟨w.heap.size, 0, none⟩ (.int .i64 64)).setCell ⟨w.heap.size, 1, none⟩ (.slice ai II.length ci)).setCell ⟨w.heap.size, 2, none⟩ (.slice ar RR.length cr)) = WW at *
 refine bodyPost_ret (v := .tuple #[.agg #[.int .i64 64, .slice ai II.length ci, .slice ar RR.length cr], .slice ax CC.length cx, .nilIface]) (by rw [results_cell_tmp2 (show Tryz.f15.results = _ from rfl)]; go_simp) rfl ?_
 exact ⟨base, sb, _, vs, _, rs, _, ks, B, rfl, hst, hco, HQ5.out, HQ6.out, hBf⟩
end
end Go.Proofs.YtaiigfcfmcicjaaGreatDoor
