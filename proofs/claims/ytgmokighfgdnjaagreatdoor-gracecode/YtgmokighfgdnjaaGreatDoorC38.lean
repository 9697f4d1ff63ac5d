import Derived.Test.YtgmokighfgdnjaaGreatDoorC34
import Derived.Test.YtgmokighfgdnjaaGreatDoorC25
import Derived.Test.YtgmokighfgdnjaaGreatDoorC37
import Derived.Deep.Cut
import Derived.Test.YtgmokighfgdnjaaGreatDoorC19
import Derived.Test.YtgmokighfgdnjaaGreatDoorC36
import Derived.Test.YtgmokighfgdnjaaGreatDoorC16

/- GdY -/
namespace Go.Proofs.YtgmokighfgdnjaaGreatDoor
open Go.RowKit Go.Extern.Stop Go.Stop Go.Extern Go.Maps Go.WideMaps Go.Sort

theorem wName : isName ⟨#[119]⟩ := nameB_is (by decide +kernel)
theorem wait_long {f : Nat} (p : ByteArray) : 1 ≤ (gCode p (gWait f)).length := by
  unfold gCode gWait
  rw [List.length_map]
  split <;> simp
set_option maxRecDepth 20000 in
set_option maxHeartbeats 1000000 in
theorem flavoured_any (w : World) : Calls Tryz.prog 8 #[] w fun e w' => e = .returned (.bool true) ∧ Below w.heap.size w w' := by
  have HW : Hid (∀ (f : Nat), 1 ≤ f ∧ f ≤ 4 → ∀ w, Calls Tryz.prog 25 #[.int .i64 f, .string ⟨#[119]⟩] w fun e w' => ∃ ad n cap, e = .returned (.tuple #[.slice ad n cap, .nilIface]) ∧ 1 ≤ n ∧ Below w.heap.size w w') := hide fun f hf w => (wait_ok hf wName (by decide) w).mono fun e w' ⟨v, h1, h2, h3⟩ => by
    obtain ⟨ad, cap, rfl, -⟩ := insOwn_open h2 (wait_long _)
    exact ⟨_, _, _, h1, wait_long _, h3⟩
  go_enter Tryz.func8, Tryz.ntmps8
  go_wp2_with fail
  go_loopw [1, 2, 3] (fun i _ _ wr => ∃ f : Nat, 1 ≤ f ∧ f ≤ 5 ∧ i = .int .i64 f ∧ Below w.heap.size w wr) (fun i _ _ _ => 5 - (intOf i).toNat)
  case atStart => exact ⟨1, Nat.le_refl _, by decide, rfl, Below.refl _ _⟩
  case round =>
    obtain ⟨f, hf1, hf5, rfl, HB⟩ := hrel
    by_cases h4 : f ≤ 4
    · have fi : (f : Int) ≤ 4 := by omega
      have HC := hide (HW.out f ⟨hf1, h4⟩ wr)
      go_wp2_with fail
      refine HC.out.mono ?_
      rintro e w2 ⟨ad, n, cap, rfl, hn, hb2⟩
      have HB2 := below_step HB hb2
      have n0 : ((n : Int) == 0) = false := beq_eq_false_iff_ne.2 (by omega)
      clear HC HB hb2 hn
      go_wp2
      go_roundw
      case rel => exact ⟨f + 1, by omega, by omega, by go_num, HB2⟩
      case measure => simp [intOf]; omega
    · have fi : ¬ (f : Int) ≤ 4 := by omega
      go_wp2
      go_ret
      exact ⟨rfl, HB⟩

structure CsI where
  w : Bool
  tm : Int
  rd : Int
  ns : Bool
def castsAt (ad : Option Addr) (l : List CsI) (w : World) : Prop := ∀ (i : Nat) c, l[i]? = some c → ∃ b off, ad = some ⟨b, off, none⟩ ∧ w.cell? ⟨b, off + i * 4, none⟩ = some (.bool c.w) ∧ w.cell? ⟨b, off + i * 4 + 1, none⟩ = some (.int .i64 c.tm) ∧ w.cell? ⟨b, off + i * 4 + 2, none⟩ = some (.int .i64 c.rd) ∧ w.cell? ⟨b, off + i * 4 + 3, none⟩ = some (.bool c.ns)
theorem castsAt.below {ad : Option Addr} {l : List CsI} {w w' : World} (h : castsAt ad l w) (hb : Below w.heap.size w w') : castsAt ad l w' := fun i c hc => by
  obtain ⟨b, off, e, h0, h1, h2, h3⟩ := h i c hc
  exact ⟨b, off, e, keep_cell hb h0, keep_cell hb h1, keep_cell hb h2, keep_cell hb h3⟩
def CsI.fit (c : CsI) : Prop := 0 ≤ c.tm ∧ c.tm ≤ 3 ∧ 0 ≤ c.rd ∧ c.rd ≤ 5
def Fit (f : Int) (l : List CsI) : Prop := (1 ≤ f ∧ f ≤ 4) ∧ (1 ≤ l.length ∧ l.length ≤ 4) ∧ ∀ c ∈ l, c.fit

def WrongPost (f : Int) (l : List CsI) (w : World) (e : Ending) (w' : World) : Prop := ∃ b, e = .returned (.bool b) ∧ (b = false ↔ Fit f l) ∧ Below w.heap.size w w'
theorem WrongPost.no {f : Int} {l : List CsI} {w : World} {e : Ending} {w' : World} (he : e = .returned (.bool false)) (h : Fit f l) (hb : Below w.heap.size w w') : WrongPost f l w e w' := ⟨false, he, ⟨fun _ => h, fun _ => rfl⟩, hb⟩
end Go.Proofs.YtgmokighfgdnjaaGreatDoor

/- SpV -/
namespace Go.Proofs.YtgmokighfgdnjaaGreatDoor
open Go.RowKit Go.Extern.Stop Go.Stop Go.Extern Go.Maps Go.WideMaps Go.Sort

theorem bars_any (w : World) : Calls Tryz.prog 14 #[] w fun e w' => ∃ ad, e = .returned (.slice ad 5 5) ∧ strsAt ad spBars w' ∧ Below w.heap.size w w' := by
  have hn : ∀ (i : Nat) x, spBars[i]? = some x → (w.alloc (.cells #[.string ⟨#[97, 108, 108, 111, 99]⟩, .string ⟨#[102, 114, 101, 101]⟩, .string ⟨#[109, 97, 114, 107]⟩, .string ⟨#[110, 101, 101, 100]⟩, .string ⟨#[115, 116, 111, 112]⟩] 9)).cell? ⟨w.heap.size, 0 + i, none⟩ = some (.string x) := fun i x hx => by
    rw [World.cell?_alloc_new]
    match i, hx with
    | 0, hx => cases hx; rfl
    | 1, hx => cases hx; rfl
    | 2, hx => cases hx; rfl
    | 3, hx => cases hx; rfl
    | 4, hx => cases hx; rfl
  have HN := hide hn
  clear hn
  go_enter Tryz.func14, Tryz.ntmps14
  go_wp2_with fail
  go_ret
  exact ⟨_, rfl, fun i x hx => ⟨w.heap.size, 0, rfl, HN.out i x hx⟩, (Below.refl _ _).alloc (Nat.le_refl _) _⟩

end Go.Proofs.YtgmokighfgdnjaaGreatDoor

/- GfF -/
namespace Go.Proofs.YtgmokighfgdnjaaGreatDoor
open Go.RowKit Go.Extern.Stop Go.Stop Go.Extern Go.Maps Go.WideMaps Go.Sort

set_option maxRecDepth 20000 in
set_option maxHeartbeats 1000000 in
theorem gcode_long (f : Int) (p : ByteArray) (w : World) (h : 100 < p.size) :
    Calls Tryz.prog 3 #[.int .i64 f, .string p] w fun e w' => e = .returned (.bool true) ∧ Below w.heap.size w w' := by
  have HL := hide (flavoured_any w)
  have hi : 100 < (p.size : Int) := by omega
  clear h
  go_enter Tryz.func3, Tryz.ntmps3
  go_wp2_with fail
  refine HL.out.mono ?_
  rintro e w1 ⟨rfl, hb⟩
  clear HL
  go_wp2_with fail
  go_ret
  exact ⟨rfl, hb⟩

set_option maxRecDepth 20000 in
set_option maxHeartbeats 4000000 in
theorem gcode_bad {f : Int} (hf : ¬ (1 ≤ f ∧ f ≤ 4)) (p : ByteArray) {a : Nat → Addr} (w : World) (hE : Env a w) (h : ¬ 100 < p.size) :
    Calls Tryz.prog 3 #[.int .i64 f, .string p] w fun e w' => e = .returned (.bool true) ∧ Below w.heap.size w w' := by
  have HL := hide (flavoured_any w)
  have HE := hide hE
  have hi : ¬ 100 < (p.size : Int) := by omega
  have HBD : Hid (∀ w', Below w.heap.size w w' → BoundIs (a 1) w') := hide fun w' hb => (HE.out.below hb.block).cell 1 (by decide)
  have HPA := hide (fun (k : Nat) (hk : k < 5) w' (hb : Below w.heap.size w w') => parts_err (fun v => made_bound hf p v (HBD.out w' hb)) k hk)
  have HC : Hid (∀ w', Below w.heap.size w w' → Calls Tryz.prog 12 #[errAt (a 1), .int .i64 2] w' fun ev w'' => ev = .returned (.bool true) ∧ Below w'.heap.size w' w'') := hide (fun w' hb => coded2_err a 2 (by decide) w' (HE.out.below hb.block))
  have HFL : Hid (∀ w, Calls Tryz.prog 9 #[.int .i64 f] w fun e w' => e = .returned (.bool false) ∧ w' = w) := hide fun w => by
    have := flavour_is f w
    rwa [decide_eq_false hf] at this
  have HHU := hide (fun w' (hb : Below w.heap.size w w') => hub_bound hf (HBD.out w' hb))
  have HOW := hide (fun w' (hb : Below w.heap.size w w') => own_bound hf (HBD.out w' hb))
  have HLI := hide (fun w' (hb : Below w.heap.size w w') => link_bound hf (HBD.out w' hb))
  clear hE h hf
  go_enter Tryz.func3, Tryz.ntmps3
  go_wp2_with fail
  refine HL.out.mono ?_
  rintro e w1 ⟨rfl, hb⟩
  clear HL
  go_wp2_with fail
  refine (HFL.out _).mono ?_
  rintro e wz ⟨rfl, ez⟩
  obtain rfl : w1 = wz := ez.symm
  go_wp2_with fail
  go_loopw [7, 8, 9, 10, 11, 12] (fun i _ _ _ _ _ wr => ∃ k : Nat, k ≤ 5 ∧ i = .int .i64 k ∧ Below w.heap.size w wr) (fun i _ _ _ _ _ _ => 5 - (intOf i).toNat)
  case atStart => exact ⟨0, Nat.zero_le _, rfl, hb⟩
  case round =>
    clear hb
    obtain ⟨k, hk, rfl, HB⟩ := hrel
    by_cases hlt : k < 5
    · have ki : (k : Int) < 5 := by omega
      have HP := hide (HPA.out k hlt wr HB)
      go_wp2_with fail
      refine HP.out.mono ?_
      rintro e w2 ⟨rfl, hb2⟩
      have HB2 := below_step HB hb2
      have HCC := hide (HC.out w2 HB2)
      clear hb2 HB HP
      go_wp2_with fail
      refine HCC.out.mono ?_
      rintro e w3 ⟨rfl, hb3⟩
      have HB3 := below_step HB2 hb3
      clear hb3 HB2 HCC
      go_wp2
      go_roundw
      case rel => exact ⟨k + 1, by omega, by go_num, HB3⟩
      case measure => simp [intOf]; omega
    · obtain rfl : k = 5 := by omega
      have HH := hide (HHU.out _ HB)
      rw [show ((5 : Nat) : Int) = 5 from rfl]
      go_wp2_with fail
      refine HH.out.mono ?_
      rintro e w2 ⟨rfl, hb2⟩
      have HB2 := below_step HB hb2
      have HO := hide (HOW.out _ HB2)
      clear hb2 HB HH HHU HOW
      go_wp2_with fail
      refine HO.out.mono ?_
      rintro e w3 ⟨rfl, hb3⟩
      have HB3 := below_step HB2 hb3
      have HLL := hide (HLI.out _ HB3)
      clear hb3 HB2 HO HLI
      go_wp2_with fail
      refine HLL.out.mono ?_
      rintro e w4 ⟨rfl, hb4⟩
      have HB4 := below_step HB3 hb4
      have HC1 := hide (HC.out w4 HB4)
      clear hb4 HB3 HLL
      go_wp2_with fail
      refine HC1.out.mono ?_
      rintro e w5 ⟨rfl, hb5⟩
      have HB5 := below_step HB4 hb5
      have HC2 := hide (HC.out w5 HB5)
      clear hb5 HB4 HC1
      go_wp2_with fail
      refine HC2.out.mono ?_
      rintro e w6 ⟨rfl, hb6⟩
      have HB6 := below_step HB5 hb6
      have HC3 := hide (HC.out w6 HB6)
      clear hb6 HB5 HC2
      go_wp2_with fail
      refine HC3.out.mono ?_
      rintro e w7 ⟨rfl, hb7⟩
      have HB7 := below_step HB6 hb7
      clear hb7 HB6 HC3
      go_wp2_with fail
      go_ret
      exact ⟨rfl, HB7⟩

open Classical in
set_option maxRecDepth 20000 in
set_option maxHeartbeats 4000000 in
theorem gcode_name {f : Nat} (hf : 1 ≤ f ∧ f ≤ 4) (p : ByteArray) {a : Nat → Addr} (w : World) (hE : Env a w) (h : ¬ 100 < p.size) (hp : ¬ (isName p ∧ p.size ≤ 4)) :
    Calls Tryz.prog 3 #[.int .i64 f, .string p] w fun e w' => e = .returned (.bool true) ∧ Below w.heap.size w w' := by
  have HL := hide (flavoured_any w)
  have HE := hide hE
  have hi : ¬ 100 < (p.size : Int) := by omega
  have HBD : Hid (∀ w', Below w.heap.size w w' → NameIs (a 3) w') := hide fun w' hb => (HE.out.below hb.block).cell 3 (by decide)
  have HPA := hide (fun (k : Nat) (hk : k < 5) w' (hb : Below w.heap.size w w') => parts_err (fun v => made_name hf hp v (HBD.out w' hb)) k hk)
  have HC : Hid (∀ w', Below w.heap.size w w' → Calls Tryz.prog 12 #[errAt (a 3), .int .i64 4] w' fun ev w'' => ev = .returned (.bool true) ∧ Below w'.heap.size w' w'') := hide (fun w' hb => coded2_err a 4 (by decide) w' (HE.out.below hb.block))
  have HP : Hid (∀ w, Calls Tryz.prog 11 #[.string p, .int .i64 4] w fun e w' => e = .returned (.bool false) ∧ w' = w) := hide (fun w => (prefix_any p 4 w).mono fun _ _ ⟨h1, h2⟩ => ⟨by
    rw [h1]
    congr 2
    by_cases hi : isName p
    · have : ¬ (p.size : Int) ≤ 4 := fun e => hp ⟨hi, by omega⟩
      rw [decide_eq_false this, Bool.and_false]
    · rw [decide_eq_false hi, Bool.false_and], h2⟩)
  have HHU := hide (fun w' (_ : Below w.heap.size w w') => hub_ok hf w')
  have HOW := hide (fun w' (_ : Below w.heap.size w w') => own_ok hf w')
  have HLI := hide (fun w' => link_ok hf w')
  have HX : Hid (((f : Int) = 4 ∧ linkX f = -1) ∨ ((f : Int) ≠ 4 ∧ linkX f = 1)) := hide (by
    unfold linkX
    by_cases h : f = 4
    · rw [if_pos h]; exact .inl ⟨by omega, rfl⟩
    · rw [if_neg h]; exact .inr ⟨by omega, rfl⟩)
  have HFL : Hid (∀ w, Calls Tryz.prog 9 #[.int .i64 (f : Int)] w fun e w' => e = .returned (.bool true) ∧ w' = w) := hide fun w => by
    have := flavour_is (f : Int) w
    rwa [decide_eq_true (show (1 : Int) ≤ f ∧ (f : Int) ≤ 4 by omega)] at this
  clear hE h hf hp
  generalize (f : Int) = fi at *
  go_enter Tryz.func3, Tryz.ntmps3
  go_wp2_with fail
  refine HL.out.mono ?_
  rintro e w1 ⟨rfl, hb⟩
  clear HL
  go_wp2_with fail
  refine (HFL.out _).mono ?_
  rintro e wz ⟨rfl, ez⟩
  obtain rfl : w1 = wz := ez.symm
  go_wp2_with fail
  go_loopw [7, 8, 9, 10, 11, 12] (fun i _ _ _ _ _ wr => ∃ k : Nat, k ≤ 5 ∧ i = .int .i64 k ∧ Below w.heap.size w wr) (fun i _ _ _ _ _ _ => 5 - (intOf i).toNat)
  case atStart => exact ⟨0, Nat.zero_le _, rfl, hb⟩
  case round =>
    clear hb
    obtain ⟨k, hk, rfl, HB⟩ := hrel
    by_cases hlt : k < 5
    · have ki : (k : Int) < 5 := by omega
      have HPK := hide (HPA.out k hlt wr HB)
      go_wp2_with fail
      refine HPK.out.mono ?_
      rintro e w2 ⟨rfl, hb2⟩
      have HB2 := below_step HB hb2
      have HCC := hide (HC.out w2 HB2)
      clear hb2 HB HPK
      go_wp2_with fail
      refine (HP.out _).mono ?_
      rintro e wz ⟨rfl, ez⟩
      obtain rfl : w2 = wz := ez.symm
      go_wp2_with fail
      refine HCC.out.mono ?_
      rintro e w3 ⟨rfl, hb3⟩
      have HB3 := below_step HB2 hb3
      clear hb3 HB2 HCC
      go_wp2
      go_roundw
      case rel => exact ⟨k + 1, by omega, by go_num, HB3⟩
      case measure => simp [intOf]; omega
    · obtain rfl : k = 5 := by omega
      rw [show ((5 : Nat) : Int) = 5 from rfl]
      clear HPA HC HP HBD HE
      have HH := hide (HHU.out _ HB)
      go_wp2_with fail
      refine HH.out.mono ?_
      rintro e w2 ⟨hv, rfl, hh, hb2⟩
      obtain ⟨gh, ch, rfl, -, -, -⟩ : ∃ g cap, hv = .slice (some ⟨g, 0, none⟩) 4 cap ∧ wr.heap.size ≤ g ∧ g < w2.heap.size ∧ 4 ≤ cap := numsOwn_form hh (by decide)
      have HB2 := below_step HB hb2
      have HO := hide (HOW.out _ HB2)
      clear hh hb2 HB HH HHU HOW
      go_wp2_with fail
      refine HO.out.mono ?_
      rintro e w3 ⟨ov, rfl, ho, hb3⟩
      obtain ⟨go, co, rfl, -, -, -⟩ : ∃ g cap, ov = .slice (some ⟨g, 0, none⟩) 4 cap ∧ w2.heap.size ≤ g ∧ g < w3.heap.size ∧ 4 ≤ cap := numsOwn_form ho (Nat.succ_pos _)
      have HB3 := below_step HB2 hb3
      have HL := hide (HLI.out w3)
      clear ho hb3 HB2 HO HLI
      go_wp2_with fail
      rcases HX.out with ⟨e4, el⟩ | ⟨e4, el⟩
      · have f4 : (fi == 4) = true := beq_iff_eq.2 e4
        rw [el] at HL
        clear e4 el HX
        refine HL.out.mono ?_
        rintro e w4 ⟨rfl, ew⟩
        obtain rfl : w3 = w4 := ew.symm
        go_wp2_with fail
        go_ret
        exact ⟨rfl, HB3⟩
      · have f4 : (fi == 4) = false := beq_eq_false_iff_ne.2 e4
        rw [el] at HL
        clear e4 el HX
        refine HL.out.mono ?_
        rintro e w4 ⟨rfl, ew⟩
        obtain rfl : w3 = w4 := ew.symm
        go_wp2_with fail
        go_ret
        exact ⟨rfl, HB3⟩

open Classical in
set_option maxRecDepth 20000 in
set_option maxHeartbeats 4000000 in
theorem gcode_ok {f : Nat} (hf : 1 ≤ f ∧ f ≤ 4) (p : ByteArray) (w : World) (hp : isName p ∧ p.size ≤ 4) :
    Calls Tryz.prog 3 #[.int .i64 f, .string p] w fun e w' => e = .returned (.bool true) ∧ Below w.heap.size w w' := by
  have HL := hide (flavoured_any w)
  have hi : ¬ 100 < (p.size : Int) := by have := hp.2; omega
  have HPI : Hid (∀ k : Nat, k < 5 → piecesB (tgCode f (kTg k)) = true) := hide fun k hk => pieces_all ⟨f, by omega⟩ ⟨k, hk⟩
  have HPA : Hid (∀ (k : Nat) (hk : k < 5) w', Calls Tryz.prog 10 #[.int .i64 f, .string p, .int .i64 k] w' fun e w'' => ∃ v, e = .returned (.tuple #[v, .nilIface]) ∧ insOwn w'' w'.heap.size v (gCode p (tgCode f (kTg k))) ∧ Below w'.heap.size w' w'') := hide fun k hk w' => parts_ok hf hp.1 hp.2 k hk w'
  have HQ : Hid (∀ k : Nat, k < 5 → PlainOk (gCode p (tgCode f (kTg k))) p spBars ∧ (gCode p (tgCode f (kTg k))).length ≤ 70 ∧ (∀ (i : Nat) x j, (gCode p (tgCode f (kTg k)))[i]? = some x → wtReg x = some j → 0 ≤ j ∧ j < 8) ∧ ∀ j, 3 ≤ j → wtTo (gCode p (tgCode f (kTg k))) (gCode p (tgCode f (kTg k))).length j = false) := hide fun k hk => ⟨piece_plain hp.1 hp.2 (HPI.out k hk), piece_len (HPI.out k hk), fun i x j h1 h2 => by have := piece_wt (HPI.out k hk) h1 h2; omega, fun j hj => piece_no (HPI.out k hk) hj⟩
  have HBA := hide bars_any
  have HP : Hid (∀ w, Calls Tryz.prog 11 #[.string p, .int .i64 4] w fun e w' => e = .returned (.bool true) ∧ w' = w) := hide (fun w => (prefix_any p 4 w).mono fun _ _ ⟨h1, h2⟩ => ⟨by
    rw [h1, decide_eq_true hp.1, decide_eq_true (show (p.size : Int) ≤ 4 by have := hp.2; omega)]
    rfl, h2⟩)
  have HHU := hide (fun w' (_ : Below w.heap.size w w') => hub_ok hf w')
  have HOW := hide (fun w' (_ : Below w.heap.size w w') => own_ok hf w')
  have HLI := hide (fun w' => link_ok hf w')
  have HX : Hid (((f : Int) = 4 ∧ linkX f = -1) ∨ ((f : Int) ≠ 4 ∧ linkX f = 1)) := hide (by
    unfold linkX
    by_cases h : f = 4
    · rw [if_pos h]; exact .inl ⟨by omega, rfl⟩
    · rw [if_neg h]; exact .inr ⟨by omega, rfl⟩)
  have HFL : Hid (∀ w, Calls Tryz.prog 9 #[.int .i64 (f : Int)] w fun e w' => e = .returned (.bool true) ∧ w' = w) := hide fun w => by
    have := flavour_is (f : Int) w
    rwa [decide_eq_true (show (1 : Int) ≤ f ∧ (f : Int) ≤ 4 by omega)] at this
  clear hf hp HPI
  generalize hfi : (f : Int) = fi at *
  clear hfi
  go_enter Tryz.func3, Tryz.ntmps3
  go_wp2_with fail
  refine HL.out.mono ?_
  rintro e w1 ⟨rfl, hb⟩
  clear HL
  go_wp2_with fail
  refine (HFL.out _).mono ?_
  rintro e wz ⟨rfl, ez⟩
  obtain rfl : w1 = wz := ez.symm
  go_wp2_with fail
  go_loopw [7, 8, 9, 10, 11, 12] (fun i _ _ _ _ _ wr => ∃ k : Nat, k ≤ 5 ∧ i = .int .i64 k ∧ Below w.heap.size w wr) (fun i _ _ _ _ _ _ => 5 - (intOf i).toNat)
  case atStart => exact ⟨0, Nat.zero_le _, rfl, hb⟩
  case round =>
    clear hb
    obtain ⟨k, hk, rfl, HB⟩ := hrel
    by_cases hlt : k < 5
    · have ki : (k : Int) < 5 := by omega
      have HPK := hide (HPA.out k hlt wr)
      have HQK := hide (HQ.out k hlt)
      generalize gCode p (tgCode f (kTg k)) = C at *
      go_wp2_with fail
      refine HPK.out.mono ?_
      rintro e w2 ⟨v, rfl, hv, hb2⟩
      obtain ⟨av, cv, rfl, -, -, hiv⟩ := insAt_of_icells hv
      have HB2 := below_step HB hb2
      have HI2 := hide hiv
      have HLN := hide HQK.out.2.1
      clear hb2 HB HPK hv hiv
      go_wp2_with fail
      refine (HP.out _).mono ?_
      rintro e wz ⟨rfl, ez⟩
      obtain rfl : w2 = wz := ez.symm
      go_wp2_with fail
      refine (HBA.out _).mono ?_
      rintro e w5 ⟨adx, rfl, hs5, hb5⟩
      have HI5 := hide (insAt_below HI2.out hb5)
      have HB5 := below_step HB2 hb5
      have HPL := hide (plain_yes (cap := cv) (capb := 5) (most := 70) HI5.out hs5 HQK.out.1 HLN.out (by decide) (by decide))
      clear hs5 hb5 HB2 HI2
      go_wp2_with fail
      refine HPL.out.mono ?_
      rintro e w6 ⟨rfl, hb6⟩
      have HI6 := hide (insAt_below HI5.out hb6)
      have HB6 := below_step HB5 hb6
      have HWA := hide (written_any (cap := cv) HI6.out (Nat.le_trans HLN.out (by decide)) HQK.out.2.2.1)
      clear hb6 HB5 HI5 HPL
      go_wp2_with fail
      refine HWA.out.mono ?_
      rintro e w9 ⟨ga, rfl, hwa⟩
      have HB9 := below_step HB6 hwa.low
      have HCA : Hid (∀ j, 3 ≤ j → j < 8 → w9.cell? ⟨ga, j, none⟩ = some (.bool false)) := hide (fun j h3 h8 => by rw [hwa.cell j h8, HQK.out.2.2.2 j h3])
      clear hwa HB6 HWA HI6 HQK HLN
      generalize C.length = cl at *
      go_wp2_with fail
      go_loopw [12] (fun i wr => ∃ j : Nat, 3 ≤ j ∧ j ≤ 8 ∧ i = .int .i64 j ∧ wr = w9) (fun i _ => 8 - (intOf i).toNat)
      case atStart => exact ⟨3, Nat.le_refl _, by decide, rfl, rfl⟩
      case round =>
        obtain ⟨j, hj3, hj8, rfl, ewr⟩ := hrel
        obtain rfl : w9 = wr := ewr.symm
        by_cases hl8 : j < 8
        · have ji : (j : Int) < 8 := by omega
          have ca := HCA.out j hj3 hl8
          go_wp2
          go_roundw
          case rel => exact ⟨j + 1, by omega, by omega, by go_num, trivial⟩
          case measure => simp [intOf]; omega
        · have ji : ¬ (j : Int) < 8 := by omega
          go_wp2
          go_roundw
          case rel => exact ⟨k + 1, by omega, by go_num, HB9⟩
          case measure => simp [intOf]; omega
    · obtain rfl : k = 5 := by omega
      rw [show ((5 : Nat) : Int) = 5 from rfl]
      clear HPA HP HQ HBA
      have HH := hide (HHU.out _ HB)
      go_wp2_with fail
      refine HH.out.mono ?_
      rintro e w2 ⟨hv, rfl, hh, hb2⟩
      obtain ⟨gh, ch, rfl, -, -, -⟩ : ∃ g cap, hv = .slice (some ⟨g, 0, none⟩) 4 cap ∧ wr.heap.size ≤ g ∧ g < w2.heap.size ∧ 4 ≤ cap := numsOwn_form hh (by decide)
      have HB2 := below_step HB hb2
      have HO := hide (HOW.out _ HB2)
      clear hh hb2 HB HH HHU HOW
      go_wp2_with fail
      refine HO.out.mono ?_
      rintro e w3 ⟨ov, rfl, ho, hb3⟩
      obtain ⟨go, co, rfl, -, -, -⟩ : ∃ g cap, ov = .slice (some ⟨g, 0, none⟩) 4 cap ∧ w2.heap.size ≤ g ∧ g < w3.heap.size ∧ 4 ≤ cap := numsOwn_form ho (Nat.succ_pos _)
      have HB3 := below_step HB2 hb3
      have HL := hide (HLI.out w3)
      clear ho hb3 HB2 HO HLI
      go_wp2_with fail
      rcases HX.out with ⟨e4, el⟩ | ⟨e4, el⟩
      · have f4 : (fi == 4) = true := beq_iff_eq.2 e4
        rw [el] at HL
        clear e4 el HX
        refine HL.out.mono ?_
        rintro e w4 ⟨rfl, ew⟩
        obtain rfl : w3 = w4 := ew.symm
        go_wp2_with fail
        go_ret
        exact ⟨rfl, HB3⟩
      · have f4 : (fi == 4) = false := beq_eq_false_iff_ne.2 e4
        rw [el] at HL
        clear e4 el HX
        refine HL.out.mono ?_
        rintro e w4 ⟨rfl, ew⟩
        obtain rfl : w3 = w4 := ew.symm
        go_wp2_with fail
        go_ret
        exact ⟨rfl, HB3⟩

theorem gcode_any {a : Nat → Addr} (f : Int) (p : ByteArray) (w : World) (hE : Env a w) :
    Calls Tryz.prog 3 #[.int .i64 f, .string p] w fun e w' => e = .returned (.bool true) ∧ Below w.heap.size w w' := by
  by_cases h : 100 < p.size
  · exact gcode_long f p w h
  by_cases hf : 1 ≤ f ∧ f ≤ 4
  · obtain ⟨n, rfl⟩ := Int.eq_ofNat_of_zero_le (show 0 ≤ f by omega)
    by_cases hp : isName p ∧ p.size ≤ 4
    · exact gcode_ok ⟨by omega, by omega⟩ p w hp
    · exact gcode_name ⟨by omega, by omega⟩ p w hE h hp
  · exact gcode_bad hf p w hE h
end Go.Proofs.YtgmokighfgdnjaaGreatDoor
