import Derived.Test.YtaiigfcfmcicjaaGreatDoorE31
import Derived.Test.YtaiigfcfmcicjaaGreatDoorE30
import Derived.Test.YtaiigfcfmcicjaaGreatDoorE26
import Derived.Test.YtaiigfcfmcicjaaGreatDoorE27
namespace Go.Proofs.YtaiigfcfmcicjaaGreatDoor
set_option maxRecDepth 100000
set_option maxHeartbeats 8000000
section
open Go.RowKit
theorem hExec_pc (m : Mk) (t : Nat) (tg : Tq) (q : Nat) (i : GI) : (hExec m t tg q i).pc = m.pc := by
 unfold hExec
 split
 ·unfold Mk.mark; split <;> rfl
 ·exact qExec_pc m t i
theorem tq_ok {f : Nat} (hf : 1 <= f /\ f <= 4) (tg : Tq) : gOk (tqCode f tg) = true := by
 have hf4 : f = 1 ∨ f = 2 ∨ f = 3 ∨ f = 4 := by omega
 rcases hf4 with rfl | rfl | rfl | rfl <;> cases tg <;> rfl
end
section
open Go.RowKit Go.Extern.Stop Go.Stop Go.Extern Go.Maps Go.WideMaps Go.Sort
def clGone : ByteArray := ⟨#[103, 111, 110, 101]⟩
theorem clGone_name : isName clGone := nameB_is (by decide +kernel)
theorem ggone_len (f : Nat) (hf : 1 <= f /\ f <= 4) : (gCode clGone (gGone f)).length <= 100 := by
 unfold gCode
 rw [List.length_map]
 have : f = 1 ∨ f = 2 ∨ f = 3 ∨ f = 4 := by omega
 rcases this with rfl | rfl | rfl | rfl <;> decide
theorem pad4_len : ∀ l : List Int, (pad4 l).length = 4 := fun l => by
 have : ∀ (l : List Int) (o : Nat) (r : List Int), (layTo r o l).length = r.length := fun l => by
  induction l with
  | nil => intro o r; rfl
  | cons x l ih =>
   intro o r
   show (layTo (r.set o x) (o + 1) l).length = _
   rw [ih, List.length_set]
 unfold pad4
 rw [this]
 rfl
def clC (f : Nat) (L : List OpI) : List Ins := thC f (gCode clGone (gGone f)) L
theorem graceI_len (f : Nat) (I : List (List Int)) (n : Nat) : (graceI f I n).length = I.length + 1 + n := by
 unfold graceI
 split
 ·exact graceJ_len _ _ _
 ·rw [linked_length, graceJ_len]
theorem graceI_rows {f n : Nat} {I : List (List Int)} (h : ∀ row ∈ I, row.length = 4) : ∀ row ∈ graceI f I n, row.length = 4 := by
 have hj : ∀ row ∈ graceJ f I n, row.length = 4 := fun row hr => by
  unfold graceJ at hr
  simp only [List.mem_append, List.mem_singleton] at hr
  rcases hr with (hr | rfl) | hr
  ·exact h row hr
  ·rfl
  ·rw [List.eq_of_mem_replicate hr]; rfl
 unfold graceI
 split
 ·exact hj
 ·exact linked_rows hj n
theorem rowsG_rows {m n k : Nat} : ∀ row ∈ rowsG m n k, row.length = 8 := fun row hr => by
 unfold rowsG at hr
 obtain ⟨t, -, rfl⟩ := List.mem_map.1 hr
 split <;> rfl
theorem tbuild_ok {f : Nat} (hf : 1 <= f /\ f <= 4) {ad : Option Addr} {cl : List (List OpI)} {cap : Nat} {w : World} (ho : opRowsAt ad cl w) (hk : kindsOk cl) (hn : cl.length <= 6) {ac : Option Addr} {cells : List (List Int)} {capc : Nat} (hc : cellsAt ac cells w) (h0 : 0 < cells.length) (hl : cells.length <= 20) :
  Calls Tryz.prog 39 #[.int .i64 f, .slice ad cl.length cap, .func (.func 40) #[.int .i64 f] #[], .slice ac cells.length capc] w fun e w' => ∃ base sb iv vs rv rs vc ks B, e = .returned (.tuple #[.agg #[.int .i64 64, iv, rv], vc, .nilIface]) /\ TW base sb w' [] iv vs (graceI f (cells.map pad4) cl.length) rv rs (rowsG cells.length cl.length cl.length) w' /\ KP B w' vc ks (cl.map (clC f)) w' /\ w.heap.size < base /\ w.heap.size < B /\ Below w.heap.size w w' := by
 have HOP := hide ho
 have HB0 : Hid (Below w.heap.size w (w.alloc (.cells #[.int .i64 0, .slice none 0 0, .slice none 0 0] 38))) := hide (bRf.alloc nL _)
 have HRC : Hid ((∀ o, (w.alloc (.cells #[.int .i64 0, .slice none 0 0, .slice none 0 0] 38)).cell? ⟨w.heap.size, o, none⟩ = (#[.int .i64 0, .slice none 0 0, .slice none 0 0] : Array Value)[o]?) /\ (∀ o, (w.alloc (.cells #[.int .i64 0, .slice none 0 0, .slice none 0 0] 38)).frozen? ⟨w.heap.size, o, none⟩ = false) /\ w.heap.size < (w.alloc (.cells #[.int .i64 0, .slice none 0 0, .slice none 0 0] 38)).heap.size) := hide ⟨fun o => World.cell?_alloc_new _ _ _ _, fun o => World.frozen?_alloc_new _ _ _ _, by simp⟩
 have HBE := hide (begin_ok (cap := capc) hn (hc.below HB0.out) h0 hl)
 have HGR := hide (fun (base sb : Nat) (w1 : World) (rv : Value) (rs : List Value) (w : World) (h : TAt base sb w1 rv rs (cells.map pad4) (List.replicate cl.length (regRow cells.length)) w) => grace_ok h hf (List.length_map _) hl hn (fun row hr => by
  obtain ⟨x, -, rfl⟩ := List.mem_map.1 hr
  exact pad4_len x))
 have HGO := hide (fun w => gone_ok hf clGone_name (by decide) w)
 have HWI := hide (fun (base sb : Nat) (w1 : World) (rv : Value) (rs : List Value) (W : World) (h : TAt base sb w1 rv rs (graceI f (cells.map pad4) cl.length) (rowsG cells.length cl.length cl.length) W) (hb : Below w.heap.size w W) (vg : Value) (b3 : Nat) (hg : insOwn W b3 vg (gCode clGone (gGone f))) => with_ok (cap := cap) hf h (ho.below hb) hk hn hg (ggone_len f hf))
 have HIL : Hid ((graceI f (cells.map pad4) cl.length).length <= 100) := hide (by rw [graceI_len, List.length_map]; omega)
 have HIR : Hid (∀ row ∈ graceI f (cells.map pad4) cl.length, row.length <= 100) := hide fun row hr => by
  rw [graceI_rows (fun row hr => by obtain ⟨x, -, rfl⟩ := List.mem_map.1 hr; exact pad4_len x) row hr]; decide
 have HRR : Hid (∀ row ∈ rowsG cells.length cl.length cl.length, row.length <= 100) := hide fun row hr => by
  rw [rowsG_rows row hr]; decide
 have HRL : Hid ((rowsG cells.length cl.length cl.length).length = cl.length) := hide (rowsG_len _ _ _)
 have HMC : Hid ((cl.map (clC f)).length = cl.length) := hide (List.length_map _)
 generalize hII : graceI f (cells.map pad4) cl.length = II at *
 generalize hRR : rowsG cells.length cl.length cl.length = RR at *
 generalize hfi : (f : Int) = fi at *
 clear hfi hf ho hc hk
 go_enter Tryz.func39, Tryz.ntmps39
 go_wp2_with fail
 refine HBE.out.mono ?_
 rintro e w2 ⟨sb, rv, rs, rfl, h2⟩
 have HG2 := hide (HGR.out _ _ _ _ _ _ h2)
 clear h2 HBE HGR
 go_wp2_with fail
 refine HG2.out.mono ?_
 rintro e w3 ⟨rfl, h3⟩
 have H3 := hide h3
 clear h3 HG2
 go_wp2_with fail
 refine (HGO.out _).mono ?_
 rintro e w4 ⟨vg, rfl, hg, hb4⟩
 have H4 := hide (H3.out.below hb4)
 have HBW := hide (below_step HB0.out (H4.out.low))
 have HW4 := hide (HWI.out _ _ _ _ _ _ H4.out HBW.out vg _ hg)
 obtain ⟨xg, cg, eg, -⟩ := ownsRow_shape hg
 subst eg
 clear hg hb4 H3 HWI HGO
 go_wp2_with fail
 refine HW4.out.mono ?_
 rintro e w5 ⟨iv, vs, vc, ks, B, rfl, hT5, hK5, hB5, hb5⟩
 have hlow := below_step H4.out.low hb5
 have HB6 := hide (below_step HBW.out hb5)
 obtain ⟨ai, ci, eiv, -⟩ := ownsRow_shape hT5.oi
 obtain ⟨ar, cr, erv, -⟩ := ownsRow_shape hT5.or'
 rw [HRL.out] at erv
 obtain ⟨ax, cx, evc, hcx⟩ := hK5.codes
 have hmc : (cl.map (thC f (gCode clGone (gGone f)))).length = cl.length := List.length_map _
 rw [hmc] at evc
 subst eiv
 subst erv
 subst evc
 obtain ⟨q1, q2, q3⟩ := HRC.out
 have b0 := keep_cell hlow ((q1 0).trans (show _ = some (.int .i64 0) from rfl))
 have b1 := keep_cell hlow ((q1 1).trans (show _ = some (.slice none 0 0) from rfl))
 have b2 := keep_cell hlow ((q1 2).trans (show _ = some (.slice none 0 0) from rfl))
 have z0 := (hlow.frozen (show (⟨w.heap.size, 0, none⟩ : Addr).block < _ from q3)).trans (q2 0)
 have z1 := (hlow.frozen (show (⟨w.heap.size, 1, none⟩ : Addr).block < _ from q3)).trans (q2 1)
 have z2 := (hlow.frozen (show (⟨w.heap.size, 2, none⟩ : Addr).block < _ from q3)).trans (q2 2)
 have hw4 : w.heap.size < B := by have := HBW.out.size; have := H4.out.low.size; omega
 have HB9 : Hid (Below w.heap.size w (((w5.setCell ⟨w.heap.size, 0, none⟩ (.int .i64 64)).setCell ⟨w.heap.size, 1, none⟩ (.slice ai II.length ci)).setCell ⟨w.heap.size, 2, none⟩ (.slice ar cl.length cr))) := hide (((HB6.out.setCell nL _).setCell nL _).setCell nL _)
 have HS9 : Hid (TW _ sb (((w5.setCell ⟨w.heap.size, 0, none⟩ (.int .i64 64)).setCell ⟨w.heap.size, 1, none⟩ (.slice ai II.length ci)).setCell ⟨w.heap.size, 2, none⟩ (.slice ar cl.length cr)) [] (.slice ai II.length ci) vs II (.slice ar cl.length cr) rs RR (((w5.setCell ⟨w.heap.size, 0, none⟩ (.int .i64 64)).setCell ⟨w.heap.size, 1, none⟩ (.slice ai II.length ci)).setCell ⟨w.heap.size, 2, none⟩ (.slice ar cl.length cr))) := hide
  (((hT5.out q3 0 (.int .i64 64) rfl).out q3 1 (.slice ai II.length ci) rfl).out q3 2 (.slice ar cl.length cr) rfl)
 have HK9 : Hid (KP B (((w5.setCell ⟨w.heap.size, 0, none⟩ (.int .i64 64)).setCell ⟨w.heap.size, 1, none⟩ (.slice ai II.length ci)).setCell ⟨w.heap.size, 2, none⟩ (.slice ar cl.length cr)) (.slice ax cl.length cx) ks (cl.map (clC f)) (((w5.setCell ⟨w.heap.size, 0, none⟩ (.int .i64 64)).setCell ⟨w.heap.size, 1, none⟩ (.slice ai II.length ci)).setCell ⟨w.heap.size, 2, none⟩ (.slice ar cl.length cr))) := hide
  (((hK5.out hw4 0 (.int .i64 64)).out hw4 1 (.slice ai II.length ci)).out hw4 2 (.slice ar cl.length cr))
 have HE9 : Hid ((((w5.setCell ⟨w.heap.size, 0, none⟩ (.int .i64 64)).setCell ⟨w.heap.size, 1, none⟩ (.slice ai II.length ci)).setCell ⟨w.heap.size, 2, none⟩ (.slice ar cl.length cr)).cell? ⟨w.heap.size, 0, none⟩ = some (.int .i64 64) /\ (((w5.setCell ⟨w.heap.size, 0, none⟩ (.int .i64 64)).setCell ⟨w.heap.size, 1, none⟩ (.slice ai II.length ci)).setCell ⟨w.heap.size, 2, none⟩ (.slice ar cl.length cr)).cell? ⟨w.heap.size, 1, none⟩ = some (.slice ai II.length ci) /\ (((w5.setCell ⟨w.heap.size, 0, none⟩ (.int .i64 64)).setCell ⟨w.heap.size, 1, none⟩ (.slice ai II.length ci)).setCell ⟨w.heap.size, 2, none⟩ (.slice ar cl.length cr)).cell? ⟨w.heap.size, 2, none⟩ = some (.slice ar cl.length cr)) := hide (by
  have x0 : (w5.setCell ⟨w.heap.size, 0, none⟩ (.int .i64 64)).cell? ⟨w.heap.size, 0, none⟩ = some (.int .i64 64) := World.cell?_setCell_same _ _ _ b0
  have x1 : ((w5.setCell ⟨w.heap.size, 0, none⟩ (.int .i64 64)).setCell ⟨w.heap.size, 1, none⟩ (.slice ai II.length ci)).cell? ⟨w.heap.size, 1, none⟩ = some (.slice ai II.length ci) := World.cell?_setCell_same _ _ _ (cell_ne b1 (.inr (by decide)))
  have x2 : (((w5.setCell ⟨w.heap.size, 0, none⟩ (.int .i64 64)).setCell ⟨w.heap.size, 1, none⟩ (.slice ai II.length ci)).setCell ⟨w.heap.size, 2, none⟩ (.slice ar cl.length cr)).cell? ⟨w.heap.size, 2, none⟩ = some (.slice ar cl.length cr) := World.cell?_setCell_same _ _ _ (cell_ne (cell_ne b2 (.inr (by decide))) (.inr (by decide)))
  exact ⟨cell_ne (cell_ne x0 (.inr (by decide))) (.inr (by decide)), cell_ne x1 (.inr (by decide)), x2⟩)
 have HQ3 := hide q3
 have HQ4 := hide hw4
 clear hT5 hK5 hb5 hlow H4 HW4 hcx q1 q2 q3 hw4 HRC
 go_wp2_with fail
 obtain ⟨e0, e1, e2⟩ := HE9.out
 have hBf := HB9.out
 have hst := HS9.out
 have hco := HK9.out
 generalize (((w5.setCell ⟨w.heap.size, 0, none⟩ (.int .i64 64)).setCell ⟨w.heap.size, 1, none⟩ (.slice ai II.length ci)).setCell ⟨w.heap.size, 2, none⟩ (.slice ar cl.length cr)) = W9 at *
 refine bodyPost_ret (v := .tuple #[.agg #[.int .i64 64, .slice ai II.length ci, .slice ar cl.length cr], .slice ax cl.length cx, .nilIface]) (by rw [results_cell_tmp2 (show Tryz.f39.results = _ from rfl)]; go_simp) rfl ?_
 exact ⟨_, sb, _, vs, _, rs, _, ks, B, rfl, hst, hco, HQ3.out, HQ4.out, hBf⟩
end
section
open Go.RowKit Go.Extern.Stop Go.Stop Go.Extern Go.Maps Go.WideMaps Go.Sort
def txtsAt (ad : Option Addr) (l : List ByteArray) (w : World) : Prop := ∀ (i : Nat) x, l[i]? = some x -> ∃ b off, ad = some ⟨b, off, none⟩ /\ w.cell? ⟨b, off + i, none⟩ = some (.string x)
def anyTo (k : ByteArray) (l : List ByteArray) (j : Nat) : Bool := (l.take j).any fun s => k.toList == s.toList
theorem anyTo_succ {k : ByteArray} {l : List ByteArray} {j : Nat} {s : ByteArray} (h : l[j]? = some s) : anyTo k l (j + 1) = (anyTo k l j || (k.toList == s.toList)) := by
 unfold anyTo
 rw [List.take_add_one, h, List.any_append]
 simp
theorem index_any {ad : Option Addr} {l : List ByteArray} {cap : Nat} (k : ByteArray) {w : World} (h : txtsAt ad l w) (hl : l.length <= 100) :
  Calls Tryz.prog 148 #[.slice ad l.length cap, .string k] w fun e w' => ∃ r : Int, e = .returned (.int .i64 r) /\ decide (0 <= r) = anyTo k l l.length /\ w' = w := by
 have HH := hide h
 obtain ⟨n, hn⟩ : ∃ n, Hid (l.length = n) := ⟨_, hide rfl⟩
 rw [hn.out] at hl ⊢
 clear h
 go_enter Tryz.func148, Tryz.ntmps148
 go_wp2_with fail
 go_loopw [5, 8] (fun _ i wr => ∃ j : Nat, j <= n /\ i = .int .i64 j /\ Hid (anyTo k l j = false) /\ w = wr) (fun _ i _ => n - (intOf i).toNat)
 case atStart => exact ⟨0, Nat.zero_le _, rfl, hide rfl, (by first | rfl | trivial)⟩
 case round =>
  obtain ⟨j, hj, rfl, HA, rfl⟩ := hrel
  by_cases hlt : j < n
  ·have ji : (j : Int) < n := by omega
   obtain ⟨s, hs⟩ : ∃ s, l[j]? = some s := ⟨_, List.getElem?_eq_getElem (by rw [hn.out]; exact hlt)⟩
   obtain ⟨b, off, rfl, c0⟩ := HH.out j s hs
   have HS := hide (anyTo_succ (k := k) hs)
   have hmono : ∀ m, j + 1 <= m -> anyTo k l (j + 1) = true -> anyTo k l m = true := fun m hm he => by
    unfold anyTo at he ⊢
    rw [List.any_eq_true] at he ⊢
    obtain ⟨x, hx, hp⟩ := he
    exact ⟨x, (List.take_subset_take_left _ hm) hx, hp⟩
   have HM := hide hmono
   clear hs hmono
   cases he : (k.toList == s.toList)
   ·have HA2 : Hid (anyTo k l (j + 1) = false) := hide (by rw [HS.out, HA.out, he]; rfl)
    clear HS HA HM
    go_wp2_with fail
    go_roundw
    case rel => exact ⟨j + 1, by omega, by go_num, HA2, (by first | rfl | trivial)⟩
    case measure => simp [intOf]; omega
   ·have HA2 : Hid (anyTo k l n = true) := hide (HM.out n (by omega) (by rw [HS.out, he, Bool.or_true]))
    clear HS HA HM
    go_wp2_with fail
    go_ret
    exact ⟨j, rfl, by rw [HA2.out]; exact decide_eq_true (by omega), rfl⟩
  ·obtain rfl : j = n := by omega
   go_wp2_with fail
   go_ret
   exact ⟨-1, rfl, by rw [HA.out]; rfl, rfl⟩
theorem contains_any {ad : Option Addr} {l : List ByteArray} {cap : Nat} (k : ByteArray) {w : World} (h : txtsAt ad l w) (hl : l.length <= 100) :
  Calls Tryz.prog 123 #[.slice ad l.length cap, .string k] w fun e w' => e = .returned (.bool (anyTo k l l.length)) /\ w' = w := by
 have HI := hide (index_any (cap := cap) k h hl)
 clear h
 generalize anyTo k l l.length = B at *
 go_enter Tryz.func123, Tryz.ntmps123
 go_wp2_with fail
 refine HI.out.mono ?_
 rintro e w2 ⟨r, rfl, hr, rfl⟩
 go_wp2_with fail
 go_ret
 refine ⟨?_, rfl⟩
 rw [<- hr]
 rfl
def clKinds : List ByteArray := [⟨#[101, 110, 116, 101, 114]⟩, ⟨#[108, 101, 97, 118, 101]⟩, ⟨#[114, 101, 115, 116]⟩, ⟨#[119, 97, 105, 116]⟩, ⟨#[114, 101, 97, 100]⟩, ⟨#[100, 114, 111, 112]⟩, ⟨#[108, 97, 116, 101, 114]⟩, ⟨#[102, 108, 117, 115, 104]⟩]
theorem clKinds_any (k : ByteArray) : anyTo k clKinds 8 = decide (2 <= kn k.toList) := by
 have e : anyTo k clKinds 8 = ((k.toList == [101, 110, 116, 101, 114]) || (k.toList == [108, 101, 97, 118, 101]) || (k.toList == [114, 101, 115, 116]) || (k.toList == [119, 97, 105, 116]) || (k.toList == [114, 101, 97, 100]) || (k.toList == [100, 114, 111, 112]) || (k.toList == [108, 97, 116, 101, 114]) || (k.toList == [102, 108, 117, 115, 104])) := by
  unfold anyTo clKinds
  simp only [List.take_succ_cons, List.take_zero, List.any_cons, List.any_nil, Bool.or_false, toList_bl, Bool.or_assoc]
 rw [e]
 clear e
 rcases kcases k.toList with ⟨h, hk⟩ | ⟨h, hk⟩ | ⟨h, hk⟩ | ⟨h, hk⟩ | ⟨h, hk⟩ | ⟨h, hk⟩ | ⟨h, hk⟩ | ⟨h, hk⟩ | ⟨h, hk⟩ | ⟨h, hk⟩
 all_goals
  rw [hk]
  obtain ⟨e1, e2, e3, e4, e5, e6, e7, e8, e9⟩ := h
  simp only [e2, e3, e4, e5, e6, e7, e8, e9]
  try rfl
def shErr (i : Nat) (n : Int) : Nat := if i = 1 then (if n < 1 ∨ 1000 < n then 2 else 0) else (if n ≠ 0 ∨ i = 0 then 3 else 0)
theorem tshape_any {a : Nat -> Addr} (k : ByteArray) (n : Int) {b c : Nat} {w : World} (hE : EnvL a w) (ht : txtsAt (some ⟨b, 0, none⟩) clKinds w) :
  Calls Tryz.prog 78 #[.agg #[.string k, .int .i64 n], .string ⟨#[112, 117, 116]⟩, .slice (some ⟨b, 0, none⟩) 8 c] w fun e w' => e = .returned (errVal a (shErr (kn k.toList) n)) /\ Below w.heap.size w w' := by
 have hB : Below w.heap.size w (w.alloc (.cells #[.string k, .int .i64 n] 72)) := bRf.alloc nL _
 have g1 : (w.alloc (.cells #[.string k, .int .i64 n] 72)).cell? ⟨1, 0, none⟩ = some (errAt (a 1)) := keep_cell hB (hE.cell 1 (by decide))
 have g2 : (w.alloc (.cells #[.string k, .int .i64 n] 72)).cell? ⟨2, 0, none⟩ = some (errAt (a 2)) := keep_cell hB (hE.cell 2 (by decide))
 have htB : txtsAt (some ⟨b, 0, none⟩) clKinds (w.alloc (.cells #[.string k, .int .i64 n] 72)) := fun i x hx => by
  obtain ⟨b', off, e, hc⟩ := ht i x hx
  exact ⟨b', off, e, keep_cell hB hc⟩
 have hct := contains_any (cap := c) k htB (show 8 <= 100 by decide)
 rw [show clKinds.length = 8 from rfl, clKinds_any] at hct
 have HC := hide hct
 have hd : n < 1 ∨ ¬ n < 1 /\ (1000 < n ∨ ¬ 1000 < n) := by omega
 have hz : (n != 0) = true /\ n ≠ 0 ∨ n = 0 := by
  by_cases e : n = 0
  ·exact .inr e
  ·exact .inl ⟨by simpa using e, e⟩
 clear hE ht htB hct
 by_cases h1 : kn k.toList = 1
 ·have hk1 : (k.toList == [112, 117, 116]) = true := by
   rcases kcases k.toList with ⟨h, hk⟩ | ⟨h, hk⟩ | ⟨h, hk⟩ | ⟨h, hk⟩ | ⟨h, hk⟩ | ⟨h, hk⟩ | ⟨h, hk⟩ | ⟨h, hk⟩ | ⟨h, hk⟩ | ⟨h, hk⟩
   ·exact h.1
   all_goals (rw [hk] at h1; exact absurd h1 (by decide))
  rw [h1]
  clear h1 HC
  rcases hd with d1 | ⟨d1, d2 | d2⟩
  all_goals
   go_enter Tryz.func78, Tryz.ntmps78
   go_wp2_with fail
   go_ret
   refine ⟨?_, hB⟩
   first
    | (rw [show shErr 1 n = 2 by unfold shErr; rw [if_pos rfl, if_pos (by omega)]]; rfl)
    | (rw [show shErr 1 n = 0 by unfold shErr; rw [if_pos rfl, if_neg (by omega)]]; rfl)
 ·have hk1 : (k.toList == [112, 117, 116]) = false := by
   rcases kcases k.toList with ⟨h, hk⟩ | ⟨h, hk⟩ | ⟨h, hk⟩ | ⟨h, hk⟩ | ⟨h, hk⟩ | ⟨h, hk⟩ | ⟨h, hk⟩ | ⟨h, hk⟩ | ⟨h, hk⟩ | ⟨h, hk⟩
   ·exact absurd hk h1
   all_goals exact h.1
  rcases hz with ⟨hz, hz2⟩ | rfl
  ·clear HC
   go_enter Tryz.func78, Tryz.ntmps78
   go_wp2_with fail
   go_ret
   refine ⟨?_, hB⟩
   simp [shErr, h1, hz2, errVal]
  ·by_cases h0 : kn k.toList = 0
   ·rw [h0] at HC
    go_enter Tryz.func78, Tryz.ntmps78
    go_wp2_with fail
    refine HC.out.mono ?_
    rintro e w2 ⟨rfl, rfl⟩
    go_wp2_with fail
    go_ret
    refine ⟨?_, hB⟩
    simp [shErr, h0, errVal]
   ·rw [decide_eq_true (show 2 <= kn k.toList by omega)] at HC
    go_enter Tryz.func78, Tryz.ntmps78
    go_wp2_with fail
    refine HC.out.mono ?_
    rintro e w2 ⟨rfl, rfl⟩
    go_wp2_with fail
    go_ret
    refine ⟨?_, hB⟩
    simp [shErr, h0, h1, errVal]
end
end Go.Proofs.YtaiigfcfmcicjaaGreatDoor
