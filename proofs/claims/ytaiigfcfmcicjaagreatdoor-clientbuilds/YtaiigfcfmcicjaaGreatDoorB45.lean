import Derived.Test.YtaiigfcfmcicjaaGreatDoorB44
import Derived.Test.YtaiigfcfmcicjaaGreatDoorB42
import Derived.Test.YtaiigfcfmcicjaaGreatDoorB43
import Derived.Deep.RegionHeld3

/- ClX -/
namespace Go.Proofs.YtaiigfcfmcicjaaGreatDoor
open Go.RowKit Go.Extern.Stop Go.Stop Go.Extern Go.Maps Go.WideMaps Go.Sort

set_option maxRecDepth 20000 in
set_option maxHeartbeats 4000000 in
theorem clbuilds_long {a : Nat → Addr} {w : World} (hE : Env a w) (f : Int) {ad : Option Addr} {cl : List (List OpI)} {cap : Nat} (ho : opRowsAt ad cl w) (hlg : lngB cl = true) :
    Calls Tryz.prog 4 #[.int .i64 f, .slice ad cl.length cap] w fun e w' => e = .returned (.bool true) ∧ Below w.heap.size w w' := by
  have HBT := hide (built_any hE)
  have HLG := hide (fun W (hb : Below w.heap.size w W) => long_any (cap := cap) (ho.below hb))
  rw [hlg] at HLG
  clear hE ho hlg
  generalize cl.length = n at *
  go_enter Tryz.func4, Tryz.ntmps4
  go_wp2_with fail
  refine HBT.out.mono ?_
  rintro e w1 ⟨rfl, hb1⟩
  have HB1 := hide hb1
  clear hb1
  go_wp2_with fail
  refine (HLG.out _ HB1.out).mono ?_
  rintro e w2 ⟨rfl, e2⟩
  obtain rfl : w1 = w2 := e2.symm
  go_wp2_with fail
  go_ret
  exact ⟨rfl, HB1.out⟩
set_option maxRecDepth 20000 in
set_option maxHeartbeats 4000000 in
theorem clbuilds_err {a : Nat → Addr} {w : World} (hE : Env a w) (f : Int) {ad : Option Addr} {cl : List (List OpI)} {cap : Nat} (ho : opRowsAt ad cl w) (hlg : lngB cl = false) (h0 : (eachE cl).1 ≠ 0) :
    Calls Tryz.prog 4 #[.int .i64 f, .slice ad cl.length cap] w fun e w' => e = .returned (.bool true) ∧ Below w.heap.size w w' := by
  have HBT := hide (built_any hE)
  have HLG := hide (fun W (hb : Below w.heap.size w W) => long_any (cap := cap) (ho.below hb))
  rw [hlg] at HLG
  obtain ⟨h10, h30⟩ := lngB_what hlg
  have HOF := hide (fun W (hb : Below w.heap.size w W) => opsof_any (cap := cap) (ho.below hb) h10 h30)
  have HBU := hide (fun (ad' : Option Addr) (cap' : Nat) W (hb : Below w.heap.size w W) (h : opRowsAt ad' cl W) => clbuild_err (f := f) (cap := cap') (hE.below hb.block) h h0)
  have HFT := hide (fun W (hb : Below w.heap.size w W) => clfault_any (cap := cap) (ho.below hb))
  have HFA := hide (fun (v : Value) (B : Nat) W (hb : Below w.heap.size w W) (h : errIs a (eachE cl) v W B) => faulted2_any a (eachE cl) v B W (hE.below hb.block) (by have := eachE_le cl; omega) h)
  have HEB : Hid (∀ (v : Value) (B : Nat) (W W' : World), errIs a (eachE cl) v W B → Below W.heap.size W W' → errIs a (eachE cl) v W' B) := hide (fun v B W W' h hb => errIs_below h hb)
  clear hE ho h10 h30 hlg
  generalize (decide ((eachE cl).1 = 0) && eachS cl) = X at *
  generalize eachE cl = F at *
  obtain ⟨f1, f2⟩ := F
  dsimp only at HFT HFA h0
  obtain ⟨m, rfl⟩ : ∃ m, f1 = m + 1 := ⟨f1 - 1, by omega⟩
  have c0 : (((m + 1 : Nat) : Int) == 0) = false := beq_eq_false_iff_ne.2 (by omega)
  have c1 : (0 : Int) < ((m + 1 : Nat) : Int) := by omega
  generalize cl.length = n at *
  clear h0
  unfold zsta at HBU
  go_enter Tryz.func4, Tryz.ntmps4
  go_wp2_with fail
  refine HBT.out.mono ?_
  rintro e w1 ⟨rfl, hb1⟩
  have HB1 := hide hb1
  clear hb1 HBT
  go_wp2_with fail
  refine (HLG.out _ HB1.out).mono ?_
  rintro e w2 ⟨rfl, e2⟩
  obtain rfl : w1 = w2 := e2.symm
  go_wp2_with fail
  refine (HOF.out _ HB1.out).mono ?_
  rintro e w3 ⟨ad3, cap3, rfl, ho3, hb3⟩
  have HB3 := hide (below_step HB1.out hb3)
  have HO3 := hide ho3
  clear ho3 hb3
  go_wp2_with fail
  refine (HBU.out _ _ _ HB3.out HO3.out).mono ?_
  rintro e w4 ⟨v4, rfl, he4, hb4⟩
  have hal : Below w4.heap.size w4 (w4.alloc (.cells #[.int .i64 0, .slice none 0 0, .slice none 0 0] 38)) := (Below.refl _ _).alloc (Nat.le_refl _) _
  have HB4 := hide (below_step (below_step HB3.out hb4) hal)
  have HV4 := hide (HEB.out _ _ _ _ he4 hal)
  have z0 : (w4.alloc (.cells #[.int .i64 0, .slice none 0 0, .slice none 0 0] 38)).cell? ⟨w4.heap.size, 0, none⟩ = some (.int .i64 0) := by simp
  have z1 : (w4.alloc (.cells #[.int .i64 0, .slice none 0 0, .slice none 0 0] 38)).cell? ⟨w4.heap.size, 1, none⟩ = some (.slice none 0 0) := by simp
  have z2 : (w4.alloc (.cells #[.int .i64 0, .slice none 0 0, .slice none 0 0] 38)).cell? ⟨w4.heap.size, 2, none⟩ = some (.slice none 0 0) := by simp
  have HFT4 := hide (HFT.out _ HB4.out)
  clear he4 hb4 HO3 hal
  go_wp2_with fail
  refine HFT4.out.mono ?_
  rintro e w5 ⟨rfl, hb5⟩
  have hal : Below w5.heap.size w5 (w5.alloc (.cells #[.int .i64 ((m + 1 : Nat) : Int), .int .i64 f2] 31)) := (Below.refl _ _).alloc (Nat.le_refl _) _
  have HB5 := hide (below_step (below_step HB4.out hb5) hal)
  have HV5 := hide (HEB.out _ _ _ _ (HEB.out _ _ _ _ HV4.out hb5) hal)
  replace z0 := keep_cell hal (keep_cell hb5 z0)
  replace z1 := keep_cell hal (keep_cell hb5 z1)
  replace z2 := keep_cell hal (keep_cell hb5 z2)
  clear hb5 HB4 HV4 hal HFT4
  have HFA5 := hide (HFA.out _ _ _ HB5.out HV5.out)
  go_wp2_with fail
  refine HFA5.out.mono ?_
  rintro e w6 ⟨rfl, hb6⟩
  have HB6 := hide (below_step HB5.out hb6)
  replace z0 := keep_cell hb6 z0
  replace z1 := keep_cell hb6 z1
  replace z2 := keep_cell hb6 z2
  clear hb6 HFA5
  go_wp2_with fail
  go_ret
  exact ⟨rfl, HB6.out⟩
end Go.Proofs.YtaiigfcfmcicjaaGreatDoor

/- ClY -/
namespace Go.Proofs.YtaiigfcfmcicjaaGreatDoor
open Go.RowKit Go.Extern.Stop Go.Stop Go.Extern Go.Maps Go.WideMaps Go.Sort

set_option maxRecDepth 20000 in
set_option maxHeartbeats 4000000 in
theorem clbuilds_flav {a : Nat → Addr} {w : World} (hE : Env a w) (f : Int) {ad : Option Addr} {cl : List (List OpI)} {cap : Nat} (ho : opRowsAt ad cl w) (hlg : lngB cl = false) (h0 : (eachE cl).1 = 0) (hf : ¬ (1 ≤ f ∧ f ≤ 4)) :
    Calls Tryz.prog 4 #[.int .i64 f, .slice ad cl.length cap] w fun e w' => e = .returned (.bool true) ∧ Below w.heap.size w w' := by
  have HBT := hide (built_any hE)
  have HLG := hide (fun W (hb : Below w.heap.size w W) => long_any (cap := cap) (ho.below hb))
  rw [hlg] at HLG
  obtain ⟨h10, h30⟩ := lngB_what hlg
  have HOF := hide (fun W (hb : Below w.heap.size w W) => opsof_any (cap := cap) (ho.below hb) h10 h30)
  have HBU := hide (fun (ad' : Option Addr) (cap' : Nat) W (hb : Below w.heap.size w W) (h : opRowsAt ad' cl W) => clbuild_flav (cap := cap') hf (hE.below hb.block) h h0)
  have HFT := hide (fun W (hb : Below w.heap.size w W) => clfault_any (cap := cap) (ho.below hb))
  have HFA := hide (fun W (hb : Below w.heap.size w W) => faulted2_any a (2, -1) (errAt (a 1)) 0 W (hE.below hb.block) (by decide) (.inr (.inl ⟨by decide, rfl, rfl⟩)))
  have HFL := hide (fun W => flavour_is f W)
  rw [decide_eq_false hf] at HFL
  clear hE ho h10 h30 hlg
  generalize (decide ((eachE cl).1 = 0) && eachS cl) = X at *
  generalize eachE cl = F at *
  obtain ⟨f1, f2⟩ := F
  dsimp only at HFT HFA h0
  subst h0
  rw [show ((0 : Nat) : Int) = 0 from rfl] at HFT
  rw [show ((2 : Nat) : Int) = 2 from rfl] at HFA
  generalize cl.length = n at *
  clear hf
  unfold zsta at HBU
  go_enter Tryz.func4, Tryz.ntmps4
  go_wp2_with fail
  refine HBT.out.mono ?_
  rintro e w1 ⟨rfl, hb1⟩
  have HB1 := hide hb1
  clear hb1 HBT
  go_wp2_with fail
  refine (HLG.out _ HB1.out).mono ?_
  rintro e w2 ⟨rfl, e2⟩
  obtain rfl : w1 = w2 := e2.symm
  go_wp2_with fail
  refine (HOF.out _ HB1.out).mono ?_
  rintro e w3 ⟨ad3, cap3, rfl, ho3, hb3⟩
  have HB3 := hide (below_step HB1.out hb3)
  have HO3 := hide ho3
  clear ho3 hb3
  go_wp2_with fail
  refine (HBU.out _ _ _ HB3.out HO3.out).mono ?_
  rintro e w4 ⟨rfl, hb4⟩
  have hal : Below w4.heap.size w4 (w4.alloc (.cells #[.int .i64 0, .slice none 0 0, .slice none 0 0] 38)) := (Below.refl _ _).alloc (Nat.le_refl _) _
  have HB4 := hide (below_step (below_step HB3.out hb4) hal)
  have z0 : (w4.alloc (.cells #[.int .i64 0, .slice none 0 0, .slice none 0 0] 38)).cell? ⟨w4.heap.size, 0, none⟩ = some (.int .i64 0) := by simp
  have z1 : (w4.alloc (.cells #[.int .i64 0, .slice none 0 0, .slice none 0 0] 38)).cell? ⟨w4.heap.size, 1, none⟩ = some (.slice none 0 0) := by simp
  have z2 : (w4.alloc (.cells #[.int .i64 0, .slice none 0 0, .slice none 0 0] 38)).cell? ⟨w4.heap.size, 2, none⟩ = some (.slice none 0 0) := by simp
  have HFT4 := hide (HFT.out _ HB4.out)
  clear hb4 HO3 hal
  go_wp2_with fail
  refine HFT4.out.mono ?_
  rintro e w5 ⟨rfl, hb5⟩
  have hal : Below w5.heap.size w5 (w5.alloc (.cells #[.int .i64 0, .int .i64 f2] 31)) := (Below.refl _ _).alloc (Nat.le_refl _) _
  have HB5 := hide (below_step (below_step HB4.out hb5) hal)
  have hz5 : w.heap.size ≤ w5.heap.size := (below_step HB4.out hb5).size
  replace z0 := keep_cell hal (keep_cell hb5 z0)
  replace z1 := keep_cell hal (keep_cell hb5 z1)
  replace z2 := keep_cell hal (keep_cell hb5 z2)
  have y0 : (w5.alloc (.cells #[.int .i64 0, .int .i64 f2] 31)).cell? ⟨w5.heap.size, 0, none⟩ = some (.int .i64 0) := by simp
  have y1 : (w5.alloc (.cells #[.int .i64 0, .int .i64 f2] 31)).cell? ⟨w5.heap.size, 1, none⟩ = some (.int .i64 f2) := by simp
  have x0 : (w5.alloc (.cells #[.int .i64 0, .int .i64 f2] 31)).frozen? ⟨w5.heap.size, 0, none⟩ = false := by simp
  have x1 : (w5.alloc (.cells #[.int .i64 0, .int .i64 f2] 31)).frozen? ⟨w5.heap.size, 1, none⟩ = false := by simp
  have hw45 : w4.heap.size < w5.heap.size := by have := hb5.size; simp at this; omega
  have HWN : Hid (w4.heap.size ≠ w5.heap.size) := hide (by omega)
  have HW5 : Hid (w5.heap.size < (w5.alloc (.cells #[.int .i64 0, .int .i64 f2] 31)).heap.size) := hide (by simp)
  have HZ5 := hide hz5
  clear hb5 HB4 hal HFT4 hw45 hz5
  go_wp2_with fail
  generalize w5.alloc (.cells #[.int .i64 0, .int .i64 f2] 31) = W6 at *
  generalize w5.heap.size = bx at *
  generalize w4.heap.size = bs at *
  refine (HFL.out _).mono ?_
  rintro e w7 ⟨rfl, e7⟩
  obtain rfl : W6 = w7 := e7.symm
  go_wp2_with fail
  refine (rbare_any _ _).mono ?_
  rintro e w8 ⟨rfl, hb8⟩
  replace z0 := keep_cell hb8 z0
  replace z1 := keep_cell hb8 z1
  replace z2 := keep_cell hb8 z2
  replace y0 := keep_cell hb8 y0
  replace y1 := keep_cell hb8 y1
  replace x0 := (hb8.frozen (show (⟨bx, 0, none⟩ : Addr).block < _ from HW5.out)).trans x0
  replace x1 := (hb8.frozen (show (⟨bx, 1, none⟩ : Addr).block < _ from HW5.out)).trans x1
  have HB8 : Hid (Below w.heap.size w ((w8.setCell ⟨bx, 0, none⟩ (.int .i64 2)).setCell ⟨bx, 1, none⟩ (.int .i64 (-1)))) := hide (((below_step HB5.out hb8).setCell HZ5.out _).setCell HZ5.out _)
  have HFA8 := hide (HFA.out _ HB8.out)
  have hne : bs ≠ bx := HWN.out
  have v0 : ((w8.setCell ⟨bx, 0, none⟩ (.int .i64 2)).setCell ⟨bx, 1, none⟩ (.int .i64 (-1))).cell? ⟨bs, 0, none⟩ = some (.int .i64 0) := cell_ne (cell_ne z0 (.inl hne)) (.inl hne)
  have v1 : ((w8.setCell ⟨bx, 0, none⟩ (.int .i64 2)).setCell ⟨bx, 1, none⟩ (.int .i64 (-1))).cell? ⟨bs, 1, none⟩ = some (.slice none 0 0) := cell_ne (cell_ne z1 (.inl hne)) (.inl hne)
  have v2 : ((w8.setCell ⟨bx, 0, none⟩ (.int .i64 2)).setCell ⟨bx, 1, none⟩ (.int .i64 (-1))).cell? ⟨bs, 2, none⟩ = some (.slice none 0 0) := cell_ne (cell_ne z2 (.inl hne)) (.inl hne)
  clear hb8 hne HB5 HWN HZ5 HW5 z0 z1 z2
  go_wp2_with fail
  refine HFA8.out.mono ?_
  rintro e w9 ⟨rfl, hb9⟩
  have HB9 := hide (below_step HB8.out hb9)
  replace v0 := keep_cell hb9 v0
  replace v1 := keep_cell hb9 v1
  replace v2 := keep_cell hb9 v2
  clear hb9 HFA8
  go_wp2_with fail
  go_ret
  exact ⟨rfl, HB9.out⟩
end Go.Proofs.YtaiigfcfmcicjaaGreatDoor

/- ClV -/
namespace Go.Proofs.YtaiigfcfmcicjaaGreatDoor
open Go.RowKit

def lblB : List UInt8 := [108, 97, 98, 101, 108]
def AllGood (L : List Ins) : Prop := ∀ (i : Nat) x, L[i]? = some x → insGood L i x = true
def Dis (A B : List Ins) : Prop := ∀ y ∈ A, (bl y.op == lblB) = true → ∀ x ∈ B, (bl y.to == bl x.to) = false
theorem labB_left {A B : List Ins} {t : List UInt8} {j : Nat} (h : labelAtB A t = some j) : labelAtB (A ++ B) t = some j := by
  unfold labelAtB at h ⊢
  rw [List.findIdx?_append, h]
  rfl
theorem labB_right {A B : List Ins} {t : List UInt8} (h : labelAtB A t = none) : labelAtB (A ++ B) t = (labelAtB B t).map (fun i => i + A.length) := by
  unfold labelAtB at h ⊢
  rw [List.findIdx?_append, h]
  rfl
theorem dis_none {A B : List Ins} (h : Dis A B) {x : Ins} (hx : x ∈ B) : labelAtB A (bl x.to) = none := by
  unfold labelAtB
  rw [List.findIdx?_eq_none_iff]
  intro y hy
  cases ho : (bl y.op == lblB)
  · rw [show (bl y.op == [108, 97, 98, 101, 108]) = false from ho]; rfl
  · rw [show (bl y.op == [108, 97, 98, 101, 108]) = true from ho, h y hy ho x hx]; rfl
theorem allGood_app {A B : List Ins} (hA : AllGood A) (hB : AllGood B) (hd : Dis A B) : AllGood (A ++ B) := fun i x hx => by
  by_cases hi : i < A.length
  · rw [List.getElem?_append_left hi] at hx
    have h := hA i x hx
    unfold insGood at h ⊢
    cases hs : shape (bl x.op) with
    | none => rw [hs] at h; cases h
    | some l =>
      rw [hs] at h
      simp only [Bool.and_eq_true, Bool.or_eq_true, Bool.not_eq_true'] at h ⊢
      obtain ⟨h1, h2, h3⟩ := h
      refine ⟨h1, ?_, ?_⟩
      · rcases h2 with h2 | h2
        · exact .inl h2
        · right
          rw [labB_left (beq_iff_eq.1 h2)]
          exact beq_self_eq_true _
      · rcases h3 with h3 | h3
        · exact .inl h3
        · right
          obtain ⟨j, hj⟩ := Option.isSome_iff_exists.1 h3
          rw [labB_left hj]
          rfl
  · rw [List.getElem?_append_right (by omega)] at hx
    have h := hB _ x hx
    have hn := labB_right (B := B) (dis_none hd (List.mem_of_getElem? hx))
    unfold insGood at h ⊢
    cases hs : shape (bl x.op) with
    | none => rw [hs] at h; cases h
    | some l =>
      rw [hs] at h
      simp only [Bool.and_eq_true, Bool.or_eq_true, Bool.not_eq_true'] at h ⊢
      obtain ⟨h1, h2, h3⟩ := h
      rw [hn]
      refine ⟨h1, ?_, ?_⟩
      · rcases h2 with h2 | h2
        · exact .inl h2
        · right
          rw [beq_iff_eq.1 h2]
          show (some (i - A.length + A.length) == some i) = true
          rw [show i - A.length + A.length = i by omega]
          exact beq_self_eq_true _
      · rcases h3 with h3 | h3
        · exact .inl h3
        · right
          obtain ⟨j, hj⟩ := Option.isSome_iff_exists.1 h3
          rw [hj]
          rfl
theorem allGood_code {L : List Ins} (h : AllGood L) (hl : L.length ≤ 2000) : codeFault L = (0, -1) := by
  unfold codeFault
  rw [if_neg (by omega)]
  exact faultFrom_good L 0 fun k x hx => by rw [Nat.zero_add]; exact insGood_is (h k x hx)
theorem codeGood_all {L : List Ins} (h : codeGood L = true) : AllGood L := fun i x hx => by
  unfold codeGood at h
  simp only [Bool.and_eq_true, decide_eq_true_eq, List.all_eq_true, List.mem_range] at h
  have := h.2 i (List.getElem?_eq_some_iff.1 hx).1
  rw [hx] at this
  exact this

def tl46 (l : List UInt8) : List UInt8 := l.reverse.takeWhile (fun b => b != 46)
theorem tl46_app {s q : List UInt8} (hq : ∀ b ∈ q, (b != 46) = true) : tl46 (s ++ (46 :: q)) = q.reverse := by
  unfold tl46
  rw [List.reverse_append, List.reverse_cons, List.append_assoc, List.takeWhile_append_of_pos (fun b hb => hq b (List.mem_reverse.1 hb))]
  show q.reverse ++ List.takeWhile _ (46 :: s.reverse) = _
  rw [List.takeWhile_cons_of_neg (by decide), List.append_nil]

theorem nameB_of {s : ByteArray} (h : isName s) : nameB (bl s) = true := by
  obtain ⟨h1, h2, h3⟩ := h
  have hz : s.size = (bl s).length := size_bl s
  unfold nameB
  simp only [Bool.and_eq_true, decide_eq_true_eq, List.all_eq_true, List.mem_range]
  refine ⟨by omega, by omega, fun j hj => ?_⟩
  have := h3 j (by omega)
  rw [List.getD_eq_getElem?_getD, List.getElem?_eq_getElem (by omega)]
  exact this
theorem lbl_lb {op : ByteArray} (h : (bl op == lblB) = true) : lbOp op = true := by
  unfold lbOp
  rw [toList_bl, beq_iff_eq.1 h]
  rfl
theorem namedI_op (q : ByteArray) (x : Ins) : (namedI q x).op = x.op := by
  unfold namedI
  split <;> rfl
theorem namedI_yes {q : ByteArray} {x : Ins} (h : lbOp x.op = true) : namedI q x = ⟨x.op, x.a, x.b, x.c, x.to ++ thDot ++ q⟩ := if_pos h
theorem namedI_no {q : ByteArray} {x : Ins} (h : lbOp x.op = false) : namedI q x = x := if_neg (by rw [h]; decide)
theorem bl_named (t q : ByteArray) : bl (t ++ thDot ++ q) = bl t ++ (46 :: bl q) := by
  rw [bl_append, bl_append, List.append_assoc]
  rfl
theorem labB_named (B : List Ins) (q : ByteArray) (T : List UInt8) : labelAtB (B.map (namedI q)) (T ++ (46 :: bl q)) = labelAtB B T := by
  unfold labelAtB
  rw [List.findIdx?_map]
  congr 1
  funext y
  show ((bl (namedI q y).op == [108, 97, 98, 101, 108]) && (bl (namedI q y).to == T ++ (46 :: bl q))) = _
  rw [namedI_op]
  cases ho : (bl y.op == [108, 97, 98, 101, 108])
  · rfl
  · rw [namedI_yes (lbl_lb ho)]
    show (true && (bl (y.to ++ thDot ++ q) == T ++ (46 :: bl q))) = _
    rw [bl_named, Bool.true_and, Bool.true_and, Bool.eq_iff_iff, beq_iff_eq, beq_iff_eq]
    exact ⟨fun h => List.append_cancel_right h, fun h => by rw [h]⟩
theorem named_good {B : List Ins} {i : Nat} (hi : i < 20) (hB : AllGood B) (hl : LabsOk B) (hn : ∀ x ∈ B, lbOp x.op = false → bl x.to = []) : AllGood (B.map (namedI (itB i))) := fun k x' hx' => by
  rw [List.getElem?_map] at hx'
  cases hx : B[k]? with
  | none => rw [hx] at hx'; cases hx'
  | some x =>
    rw [hx] at hx'
    cases hx'
    have hm := List.mem_of_getElem? hx
    have h := hB k x hx
    cases hlb : lbOp x.op
    · rw [namedI_no hlb]
      have ht := hn x hm hlb
      unfold insGood at h ⊢
      cases hs : shape (bl x.op) with
      | none => rw [hs] at h; cases h
      | some l =>
        rw [hs] at h
        simp only [Bool.and_eq_true, Bool.or_eq_true, Bool.not_eq_true'] at h ⊢
        refine ⟨h.1, .inl ?_, .inl (by rw [ht]; rfl)⟩
        cases ho : (bl x.op == [108, 97, 98, 101, 108])
        · rfl
        · rw [lbl_lb ho] at hlb; cases hlb
    · obtain ⟨hna, hsz⟩ := hl x hm hlb
      have hnn := nameB_of (name_it hna hsz hi)
      have h1 : bl x.to ≠ [] := fun e => by
        have := hna.1
        rw [size_bl, e] at this
        exact absurd this (by decide)
      have hL := labB_named B (itB i) (bl x.to)
      rw [namedI_yes hlb]
      unfold insGood at h ⊢
      rw [show (⟨x.op, x.a, x.b, x.c, x.to ++ thDot ++ itB i⟩ : Ins).op = x.op from rfl, show (⟨x.op, x.a, x.b, x.c, x.to ++ thDot ++ itB i⟩ : Ins).to = x.to ++ thDot ++ itB i from rfl, bl_named, hL]
      cases hs : shape (bl x.op) with
      | none => rw [hs] at h; cases h
      | some l =>
        rw [hs] at h
        simp only [Bool.and_eq_true, Bool.or_eq_true, Bool.not_eq_true'] at h ⊢
        obtain ⟨g1, g2, g3⟩ := h
        refine ⟨?_, g2, ?_⟩
        · unfold shapeGood at g1 ⊢
          simp only [Bool.and_eq_true, Bool.or_eq_true, Bool.not_eq_true'] at g1 ⊢
          refine ⟨⟨?_, .inr hnn⟩, g1.2⟩
          rcases g1.1.1 with h | h
          · exact .inl h
          · exact absurd (beq_iff_eq.1 h) h1
        · rcases g3 with h | h
          · exact absurd (beq_iff_eq.1 h) h1
          · exact .inr h
theorem itB_dots : ∀ i : Fin 20, (bl (itB i.val)).all (fun b => b != 46) = true := by decide +kernel
theorem itB_inj : ∀ i j : Fin 20, (bl (itB i.val)).reverse = (bl (itB j.val)).reverse → i = j := by decide +kernel
theorem itB_some : ∀ i : Fin 20, (bl (itB i.val)).reverse ≠ [] := by decide +kernel
theorem tl46_it {t : ByteArray} {i : Nat} (hi : i < 20) : tl46 (bl (t ++ thDot ++ itB i)) = (bl (itB i)).reverse := by
  rw [bl_named]
  exact tl46_app (fun b hb => List.all_eq_true.1 (itB_dots ⟨i, hi⟩) b hb)
structure BlkOk (B : List Ins) : Prop where
  good : AllGood B
  labs : LabsOk B
  no : ∀ x ∈ B, lbOp x.op = false → bl x.to = []
def noToB (l : List Ins) : Bool := l.all fun x => (hasTo ((shape (bl x.op)).getD [])) || (bl x.to == [])
theorem noToB_is {l : List Ins} (h : noToB l = true) : ∀ x ∈ l, lbOp x.op = false → bl x.to = [] := fun x hx hl => by
  have := List.all_eq_true.1 h x hx
  unfold lbOp at hl
  rw [toList_bl] at hl
  rw [hl] at this
  simpa using this

def shAll (L : List OpI) : Prop := ∀ x ∈ L, shErr (kn x.kind.toList) x.n = 0
theorem folE_shAll : ∀ {l : List OpI} {s : CrI}, folE s l = 0 → shAll l
  | [], _, _, x, hx => by cases hx
  | y :: l, s, h, x, hx => by
    unfold folE at h
    by_cases h0 : shErr (kn y.kind.toList) y.n = 0
    · rw [if_neg (fun k => k h0)] at h
      by_cases h1 : ckErr (kn y.kind.toList) s.deep s.ret = 0
      · rw [if_neg (fun k => k h1)] at h
        rcases List.mem_cons.1 hx with rfl | hx
        · exact h0
        · exact folE_shAll h x hx
      · rw [if_pos h1] at h; exact absurd h h1
    · rw [if_pos h0] at h; exact absurd h h0
theorem put_blk {n : Int} (h : 1 ≤ n ∧ n ≤ 1000) : BlkOk (putC n) := by
  have key : ∀ j : Fin 1001, codeGood (putC (j.val : Int)) = true ∧ noToB (putC (j.val : Int)) = true := by decide +kernel
  have := key ⟨n.toNat, by omega⟩
  dsimp only at this
  rw [show (n.toNat : Int) = n by omega] at this
  exact ⟨codeGood_all this.1, putC_labs n, noToB_is this.2⟩
theorem clP_blk {f : Nat} (hf : 1 ≤ f ∧ f ≤ 4) {i : Nat} {n : Int} (h : shErr i n = 0) : BlkOk (clP f i n) := by
  have key : ∀ g : Fin 4, (codeGood (gCode clG (gEnter (g.val + 1))) = true ∧ codeGood (gCode clG (gLeave (g.val + 1))) = true ∧ codeGood (gCode clG (gRest (g.val + 1))) = true ∧ codeGood (gCode clG (gWait (g.val + 1)) ++ emptyC) = true ∧ codeGood (gCode clG (gWait (g.val + 1))) = true) ∧ noToB (gCode clG (gEnter (g.val + 1))) = true ∧ noToB (gCode clG (gLeave (g.val + 1))) = true ∧ noToB (gCode clG (gRest (g.val + 1))) = true ∧ noToB (gCode clG (gWait (g.val + 1)) ++ emptyC) = true ∧ noToB (gCode clG (gWait (g.val + 1))) = true := by decide +kernel
  have key2 : (codeGood readC = true ∧ noToB readC = true) ∧ (codeGood (uls 3 [⟨oFree, 3, 0, 0, thNo⟩]) = true ∧ noToB (uls 3 [⟨oFree, 3, 0, 0, thNo⟩]) = true) ∧ codeGood (uls 3 keepC) = true ∧ noToB (uls 3 keepC) = true := by decide +kernel
  have := key ⟨f - 1, by omega⟩
  dsimp only at this
  rw [show f - 1 + 1 = f by omega] at this
  obtain ⟨⟨k1, k2, k3, k4, k5⟩, l1, l2, l3, l4, l5⟩ := this
  obtain ⟨⟨r1, r2⟩, ⟨d1, d2⟩, e1, e2⟩ := key2
  have hL := (clP_labs hf i n).1
  by_cases h1 : i = 1
  · subst h1
    refine put_blk ?_
    unfold shErr at h
    rw [if_pos rfl] at h
    by_cases hb : n < 1 ∨ 1000 < n
    · rw [if_pos hb] at h; cases h
    · omega
  unfold clP at hL ⊢
  rw [if_neg h1] at hL ⊢
  by_cases h2 : i = 2
  · rw [if_pos h2] at hL ⊢; exact ⟨codeGood_all k1, hL, noToB_is l1⟩
  rw [if_neg h2] at hL ⊢
  by_cases h3 : i = 3
  · rw [if_pos h3] at hL ⊢; exact ⟨codeGood_all k2, hL, noToB_is l2⟩
  rw [if_neg h3] at hL ⊢
  by_cases h4 : i = 4
  · rw [if_pos h4] at hL ⊢; exact ⟨codeGood_all k3, hL, noToB_is l3⟩
  rw [if_neg h4] at hL ⊢
  by_cases h5 : i = 5
  · rw [if_pos h5] at hL ⊢; exact ⟨codeGood_all k5, hL, noToB_is l5⟩
  rw [if_neg h5] at hL ⊢
  by_cases h6 : i = 6
  · rw [if_pos h6] at hL ⊢; exact ⟨codeGood_all r1, hL, noToB_is r2⟩
  rw [if_neg h6] at hL ⊢
  by_cases h7 : i = 7
  · rw [if_pos h7] at hL ⊢; exact ⟨codeGood_all d1, hL, noToB_is d2⟩
  rw [if_neg h7] at hL ⊢
  by_cases h8 : i = 8
  · rw [if_pos h8] at hL ⊢; exact ⟨codeGood_all e1, hL, noToB_is e2⟩
  rw [if_neg h8] at hL ⊢
  exact ⟨codeGood_all k4, hL, noToB_is l4⟩
theorem opsC_good {f : Nat} (hf : 1 ≤ f ∧ f ≤ 4) {l : List OpI} (hs : shAll l) (h20 : l.length ≤ 20) : ∀ k, k ≤ l.length → AllGood (opsC f l k) ∧ ∀ y ∈ opsC f l k, (bl y.op == lblB) = true → ∃ j, j < k ∧ tl46 (bl y.to) = (bl (itB j)).reverse
  | 0, _ => ⟨fun i x hx => by simp [opsC] at hx, fun y hy => by simp [opsC] at hy⟩
  | k + 1, hk => by
    obtain ⟨h1, h2⟩ := opsC_good hf hs h20 k (by omega)
    obtain ⟨x, hx⟩ : ∃ x, l[k]? = some x := ⟨_, List.getElem?_eq_getElem (by omega)⟩
    rw [opsC_succ hx]
    have hb := clP_blk hf (hs x (List.mem_of_getElem? hx))
    have hg : AllGood (opC f k x) := named_good (by omega) hb.good hb.labs hb.no
    have ht : ∀ y ∈ opC f k x, bl y.to = [] ∨ tl46 (bl y.to) = (bl (itB k)).reverse := fun y hy => by
      obtain ⟨z, hz, rfl⟩ := List.mem_map.1 hy
      cases hlb : lbOp z.op
      · rw [namedI_no hlb]; exact .inl (hb.no z hz hlb)
      · rw [namedI_yes hlb]; exact .inr (tl46_it (by omega))
    refine ⟨allGood_app h1 hg (fun y hy ho z hz => ?_), fun y hy ho => ?_⟩
    · obtain ⟨j, hj, e⟩ := h2 y hy ho
      cases hq : (bl y.to == bl z.to)
      · rfl
      · have hq := beq_iff_eq.1 hq
        rw [hq] at e
        rcases ht z hz with h | h
        · rw [h] at e
          exact absurd e.symm (itB_some ⟨j, by omega⟩)
        · rw [h] at e
          have := itB_inj ⟨k, by omega⟩ ⟨j, by omega⟩ e
          have := Fin.mk.inj this
          omega
    · rcases List.mem_append.1 hy with hy | hy
      · obtain ⟨j, hj, e⟩ := h2 y hy ho
        exact ⟨j, by omega, e⟩
      · obtain ⟨z, hz, rfl⟩ := List.mem_map.1 hy
        rw [namedI_op] at ho
        rw [namedI_yes (lbl_lb ho)]
        exact ⟨k, by omega, tl46_it (by omega)⟩
theorem gone_blk : ∀ g : Fin 4, codeGood (gCode clGone (gGone (g.val + 1)) ++ [stopI]) = true ∧ ((gCode clGone (gGone (g.val + 1)) ++ [stopI]).all fun x => (List.range 20).all fun j => !(tl46 (bl x.to) == (bl (itB j)).reverse)) = true := by decide +kernel
theorem clC_good {f : Nat} (hf : 1 ≤ f ∧ f ≤ 4) {L : List OpI} (hs : shAll L) (h20 : L.length ≤ 20) : codeFault (clC f L) = (0, -1) := by
  obtain ⟨h1, h2⟩ := opsC_good hf hs h20 L.length (Nat.le_refl _)
  have hg := gone_blk ⟨f - 1, by omega⟩
  dsimp only at hg
  rw [show f - 1 + 1 = f by omega] at hg
  have hlen : (clC f L).length ≤ 2000 := by
    unfold clC thC
    have h3 := opsC_len hf L L.length
    have h4 := ggone_len f hf
    rw [List.length_append, List.length_append]
    have : 60 * L.length ≤ 60 * 20 := Nat.mul_le_mul_left _ h20
    show _ + (_ + 1) ≤ _
    omega
  refine allGood_code ?_ hlen
  show AllGood (opsC f L L.length ++ (gCode clGone (gGone f) ++ [stopI]))
  refine allGood_app h1 (codeGood_all hg.1) (fun y hy ho z hz => ?_)
  obtain ⟨j, hj, e⟩ := h2 y hy ho
  cases hq : (bl y.to == bl z.to)
  · rfl
  · have hq := beq_iff_eq.1 hq
    rw [hq] at e
    have h5 := List.all_eq_true.1 (List.all_eq_true.1 hg.2 z hz) j (List.mem_range.2 (by omega))
    rw [e] at h5
    simp at h5
theorem eachE_sh {cl : List (List OpI)} (h : (eachE cl).1 = 0) : ∀ L ∈ cl, shAll L ∧ L.length ≤ 20 := fun L hL => by
  obtain ⟨hf, -, -, hk⟩ := eachE_ok h
  unfold eachE at h
  rw [if_pos hf] at h
  exact ⟨folE_shAll (eachFrom_zero h L hL), (hk L hL).1⟩
end Go.Proofs.YtaiigfcfmcicjaaGreatDoor
