import Derived.Test.YtepgcgokolmedaaDoorB17
import Derived.Test.YtepgcgokolmedaaDoorB14
import Derived.Deep.QuietTactic
import Derived.Test.YtepgcgokolmedaaDoorB03
import Derived.Test.YtepgcgokolmedaaDoorB12

/- SpR -/
namespace Go.Proofs.YtepgcgokolmedaaDoor
open Go.RowKit Go.Extern.Stop Go.Stop Go.Extern

open Classical in
theorem prefix_any (p : ByteArray) (k : Int) (w : World) : Calls Tryd.prog 8 #[.string p, .int .i64 k] w fun e w' => e = .returned (.bool (decide (isName p) && decide ((p.size : Int) ≤ k))) ∧ w' = w := by
  have HN := hide (isName_any p)
  by_cases hn : isName p
  · rw [decide_eq_true hn]
    rw [decide_eq_true hn] at HN
    go_enter Tryd.func8, Tryd.ntmps8
    go_wp2_with fail
    refine (HN.out _).mono ?_
    rintro e w1 ⟨rfl, rfl⟩
    go_wp2_with fail
    go_ret
    exact ⟨rfl, rfl⟩
  · rw [decide_eq_false hn]
    rw [decide_eq_false hn] at HN
    go_enter Tryd.func8, Tryd.ntmps8
    go_wp2_with fail
    refine (HN.out _).mono ?_
    rintro e w1 ⟨rfl, rfl⟩
    go_wp2_with fail
    go_ret
    exact ⟨rfl, rfl⟩

def strsAt (ad : Option Addr) (l : List ByteArray) (w : World) : Prop := ∀ (i : Nat) x, l[i]? = some x → ∃ b off, ad = some ⟨b, off, none⟩ ∧ w.cell? ⟨b, off + i, none⟩ = some (.string x)
theorem strsAt.below {ad : Option Addr} {l : List ByteArray} {w w' : World} (h : strsAt ad l w) (hb : Below w.heap.size w w') : strsAt ad l w' := fun i x hx => by
  obtain ⟨b, off, e, hc⟩ := h i x hx
  exact ⟨b, off, e, keep_cell hb hc⟩

structure PlainOk (l : List Ins) (p : ByteArray) (bars : List ByteArray) : Prop where
  fault : (codeFault l).1 = 0
  ops : ∀ (i : Nat) x, l[i]? = some x → ∀ (k : Nat) b, bars[k]? = some b → (x.op.toList == b.toList) = false
  to : ∀ (i : Nat) x, l[i]? = some x → (x.to.toList == []) = false → p.size ≤ x.to.size ∧ ((x.to.extract 0 p.size).toList == p.toList) = true

set_option maxRecDepth 20000 in
theorem rfield_fault (a b : Int) (w : World) : (Instr.field 44 (.agg #[.int .i64 a, .int .i64 b]) 0).run Tryd.prog w = .ok (.int .i64 a) w := by
  rfl

set_option maxRecDepth 20000 in
set_option maxHeartbeats 2000000 in
theorem plain_yes {ad adb : Option Addr} {l : List Ins} {cap capb : Nat} {p : ByteArray} {most : Nat} {bars : List ByteArray} {w : World} (hl : insAt ad l w) (hb : strsAt adb bars w) (h : PlainOk l p bars) (hm : l.length ≤ most) (hm2 : most ≤ 2000) (hb2 : bars.length ≤ 2000) :
    Calls Tryd.prog 10 #[.slice ad l.length cap, .string p, .int .i64 most, .slice adb bars.length capb] w fun e w' => e = .returned (.bool true) ∧ Below w.heap.size w w' := by
  have HCF := hide (codeFault_any ad cap l w hl)
  rw [h.fault] at HCF
  have hfl := fun a b w => rfield_fault a b w
  have i1 : ¬ (most : Int) < l.length := by omega
  have HL := hide hl
  have HB := hide hb
  have HH := hide h
  clear hl hb h
  go_enter Tryd.func10, Tryd.ntmps10
  go_wp2_with fail
  refine HCF.out.mono ?_
  rintro e w1 ⟨rfl, hb1⟩
  have HB1 : Below w.heap.size w w1 := hb1
  clear HCF hb1
  go_wp2_with fail
  go_loopw [9, 10] (fun i _ wr => ∃ j : Nat, j ≤ l.length ∧ i = .int .i64 j ∧ Below w.heap.size w wr) (fun i _ _ => l.length - (intOf i).toNat)
  case atStart => exact ⟨0, Nat.zero_le _, rfl, HB1⟩
  case round =>
    clear HB1
    obtain ⟨j, hj, rfl, hB⟩ := hrel
    by_cases hlt : j < l.length
    · have ji : (j : Int) < l.length := by omega
      obtain ⟨x, hx⟩ : ∃ x, l[j]? = some x := ⟨_, List.getElem?_eq_getElem hlt⟩
      have HX : Hid (∀ w', Below w.heap.size w w' → ∃ b off, ad = some ⟨b, off, none⟩ ∧ w'.cell? ⟨b, off + j * 5, none⟩ = some (.string x.op) ∧ w'.cell? ⟨b, off + j * 5 + 4, none⟩ = some (.string x.to)) := hide (fun w' hb => by
        obtain ⟨b, off, e, e0, -, -, -, e4⟩ := insAt_below HL.out hb j x hx
        exact ⟨b, off, e, e0, e4⟩)
      have HO := hide (HH.out.ops j x hx)
      have HT := hide (HH.out.to j x hx)
      clear hx
      go_wp2_with fail
      go_loopw [10] (fun k wr => ∃ m : Nat, m ≤ bars.length ∧ k = .int .i64 m ∧ Below w.heap.size w wr) (fun k _ => bars.length - (intOf k).toNat)
      case atStart => exact ⟨0, Nat.zero_le _, rfl, hB⟩
      case round =>
        clear hB
        obtain ⟨m, hm', rfl, hB⟩ := hrel
        by_cases hmt : m < bars.length
        · have mi : (m : Int) < bars.length := by omega
          obtain ⟨y, hy⟩ : ∃ y, bars[m]? = some y := ⟨_, List.getElem?_eq_getElem hmt⟩
          obtain ⟨b, off, rfl, c0, -⟩ := HX.out _ hB
          obtain ⟨b2, off2, rfl, c1⟩ := HB.out.below hB m y hy
          have hne := HO.out m y hy
          clear hy
          go_wp2_with fail
          go_quiet (fail)
          have hB2 := below_dN hB nq
          clear hB c0 c1
          go_wp2_with fail
          go_roundw
          case rel => exact ⟨m + 1, by omega, by go_num, hB2⟩
          case measure => simp [intOf]; omega
        · obtain rfl : m = bars.length := by omega
          obtain ⟨b, off, rfl, -, c4⟩ := HX.out _ hB
          cases ht : (x.to.toList == [])
          · obtain ⟨h5, h6⟩ := HT.out ht
            have i5 : ¬ (x.to.size : Int) < p.size := by omega
            have i6 : (p.size : Int) ≤ x.to.size := by omega
            clear HX HO HT
            go_wp2_with fail
            go_roundw
            case rel => exact ⟨j + 1, by omega, by go_num, hB⟩
            case measure => simp [intOf]; omega
          · clear HX HO HT
            go_wp2_with fail
            go_roundw
            case rel => exact ⟨j + 1, by omega, by go_num, hB⟩
            case measure => simp [intOf]; omega
    · obtain rfl : j = l.length := by omega
      go_wp2_with fail
      go_ret
      exact ⟨rfl, hB⟩
end Go.Proofs.YtepgcgokolmedaaDoor

/- SpS -/
namespace Go.Proofs.YtepgcgokolmedaaDoor
open Go.RowKit Go.Extern.Stop Go.Stop Go.Extern

def wtReg (x : Ins) : Option Int :=
  if (x.op.toList == [99, 111, 110, 115, 116]) = true then some x.a
  else if (x.op.toList == [109, 111, 118, 101]) = true then some x.a
  else if (x.op.toList == [97, 100, 100]) = true then some x.a
  else if (x.op.toList == [115, 117, 98]) = true then some x.a
  else if (x.op.toList == [97, 110, 100]) = true then some x.a
  else if (x.op.toList == [120, 111, 114]) = true then some x.a
  else if (x.op.toList == [108, 111, 97, 100]) = true then some x.a
  else if (x.op.toList == [115, 119, 97, 112]) = true then some x.a
  else if (x.op.toList == [97, 108, 108, 111, 99]) = true then some x.a
  else if (x.op.toList == [99, 97, 115]) = true then some x.b
  else none
def wtTo (l : List Ins) (j k : Nat) : Bool := (l.take j).any fun x => wtReg x == some (k : Int)
theorem wtTo_succ {l : List Ins} {j : Nat} {x : Ins} (hx : l[j]? = some x) (k : Nat) : wtTo l (j + 1) k = (wtTo l j k || wtReg x == some (k : Int)) := by
  unfold wtTo
  rw [List.take_add_one, hx, List.any_append]
  simp

structure WtAt (l : List Ins) (j : Nat) (w0 : World) (g : Nat) (w : World) : Prop where
  cell : ∀ k, k < 8 → w.cell? ⟨g, k, none⟩ = some (.bool (wtTo l j k))
  fz : ∀ k, w.frozen? ⟨g, k, none⟩ = false
  low : Below w0.heap.size w0 w
  ge : w0.heap.size ≤ g
theorem WtAt.lt {l : List Ins} {j : Nat} {w0 : World} {g : Nat} {w : World} (h : WtAt l j w0 g w) : g < w.heap.size := World.block_lt_of_cell? _ _ (h.cell 0 (by decide))
theorem WtAt.below {l : List Ins} {j : Nat} {w0 : World} {g : Nat} {w w' : World} (h : WtAt l j w0 g w) (k : Below w.heap.size w w') : WtAt l j w0 g w' :=
  ⟨fun i hi => keep_cell k (h.cell i hi), fun i => by rw [World.frozen?_of_block (k.block g h.lt)]; exact h.fz i, below_step h.low k, h.ge⟩
theorem WtAt.set {l : List Ins} {j : Nat} {w0 : World} {g : Nat} {w : World} (h : WtAt l j w0 g w) {x : Ins} (hx : l[j]? = some x) {n : Nat} (hr : wtReg x = some (n : Int)) (hn : n < 8) : WtAt l (j + 1) w0 g (w.setCell ⟨g, n, none⟩ (.bool true)) where
  cell k hk := by
    rw [wtTo_succ hx, hr]
    by_cases e : k = n
    · subst e
      rw [World.cell?_setCell_same _ _ _ (h.cell k hk)]
      simp
    · rw [cell_ne (h.cell k hk) (.inr e)]
      have : ((some (n : Int) : Option Int) == some (k : Int)) = false := by
        rw [beq_eq_false_iff_ne]
        intro e2
        have := Option.some.inj e2
        omega
      rw [this, Bool.or_false]
  fz k := by rw [World.frozen?_setCell]; exact h.fz k
  low := h.low.setCell h.ge _
  ge := h.ge
theorem WtAt.skip {l : List Ins} {j : Nat} {w0 : World} {g : Nat} {w : World} (h : WtAt l j w0 g w) {x : Ins} (hx : l[j]? = some x) (hr : wtReg x = none) : WtAt l (j + 1) w0 g w where
  cell k hk := by
    rw [wtTo_succ hx, hr, h.cell k hk]
    have : ((none : Option Int) == some (k : Int)) = false := rfl
    rw [this, Bool.or_false]
  fz := h.fz
  low := h.low
  ge := h.ge

theorem make8b (w : World) : (Instr.makeSlice 33 (.int .i64 8) (.int .i64 8)).run Tryd.prog w = .ok (.slice (some ⟨w.heap.size, 0, none⟩) 8 8) (w.alloc (.cells #[.bool false, .bool false, .bool false, .bool false, .bool false, .bool false, .bool false, .bool false] 4)) := by kernel_rfl
theorem WtAt.first {l : List Ins} {w : World} : WtAt l 0 w w.heap.size (w.alloc (.cells #[.bool false, .bool false, .bool false, .bool false, .bool false, .bool false, .bool false, .bool false] 4)) where
  cell k hk := by
    rw [World.cell?_alloc_new]
    match k, hk with
    | 0, _ => rfl
    | 1, _ => rfl
    | 2, _ => rfl
    | 3, _ => rfl
    | 4, _ => rfl
    | 5, _ => rfl
    | 6, _ => rfl
    | 7, _ => rfl
  fz k := by simp
  low := (Below.refl _ _).alloc (Nat.le_refl _) _
  ge := Nat.le_refl _

set_option maxRecDepth 20000 in
set_option maxHeartbeats 4000000 in
theorem written_any {ad : Option Addr} {l : List Ins} {cap : Nat} {w : World} (hl : insAt ad l w) (hlen : l.length ≤ 2000) (hr : ∀ (i : Nat) x k, l[i]? = some x → wtReg x = some k → 0 ≤ k ∧ k < 8) :
    Calls Tryd.prog 12 #[.slice ad l.length cap] w fun e w' => ∃ g, e = .returned (.slice (some ⟨g, 0, none⟩) 8 8) ∧ WtAt l l.length w g w' := by
  have HL := hide hl
  have HR := hide hr
  clear hl hr
  have hmk := fun w => make8b w
  go_enter Tryd.func12, Tryd.ntmps12
  go_wp2_with fail
  go_loopw [4, 5, 19, 33] (fun i _ _ _ wr => ∃ j : Nat, j ≤ l.length ∧ i = .int .i64 j ∧ Hid (WtAt l j w w.heap.size wr)) (fun i _ _ _ _ => l.length - (intOf i).toNat)
  case atStart => exact ⟨0, Nat.zero_le _, rfl, WtAt.first⟩
  case round =>
    obtain ⟨j, hj, rfl, HW⟩ := hrel
    by_cases hlt : j < l.length
    · have ji : (j : Int) < l.length := by omega
      obtain ⟨x, hx⟩ : ∃ x, l[j]? = some x := ⟨_, List.getElem?_eq_getElem hlt⟩
      obtain ⟨b, off, rfl, e0, e1, e2, e3, e4⟩ := insAt_below HL.out HW.out.low j x hx
      have HB := hide (HW.out.below ((Below.refl _ _).alloc (Nat.le_refl _) (.cells #[.string x.op, .int .i64 x.a, .int .i64 x.b, .int .i64 x.c, .string x.to] 63)))
      have HRX := hide (fun k => HR.out j x k hx)
      clear HW
      cases h0 : (x.op.toList == [99, 111, 110, 115, 116])
      rotate_left
      · have hr : wtReg x = some x.a := by
          unfold wtReg
          rw [if_pos h0]
        obtain ⟨n, hn⟩ := Int.eq_ofNat_of_zero_le (HRX.out _ hr).1
        have hn8 : n < 8 := by have := (HRX.out _ hr).2; omega
        rw [hn] at e1 hr HB
        have c1 := HB.out.cell n hn8
        have f1 := HB.out.fz n
        have HS := hide (HB.out.set hx hr hn8)
        have ni : (n : Int) < 8 := by omega
        clear hx hr HB HRX hn
        go_wp2_with fail
        go_roundw
        case rel => exact ⟨j + 1, by omega, by go_num, HS⟩
        case measure => simp [intOf]; omega
      cases h1 : (x.op.toList == [109, 111, 118, 101])
      rotate_left
      · have hr : wtReg x = some x.a := by
          unfold wtReg
          rw [if_neg (by rw [h0]; decide), if_pos h1]
        obtain ⟨n, hn⟩ := Int.eq_ofNat_of_zero_le (HRX.out _ hr).1
        have hn8 : n < 8 := by have := (HRX.out _ hr).2; omega
        rw [hn] at e1 hr HB
        have c1 := HB.out.cell n hn8
        have f1 := HB.out.fz n
        have HS := hide (HB.out.set hx hr hn8)
        have ni : (n : Int) < 8 := by omega
        clear hx hr HB HRX hn
        go_wp2_with fail
        go_roundw
        case rel => exact ⟨j + 1, by omega, by go_num, HS⟩
        case measure => simp [intOf]; omega
      cases h2 : (x.op.toList == [97, 100, 100])
      rotate_left
      · have hr : wtReg x = some x.a := by
          unfold wtReg
          rw [if_neg (by rw [h0]; decide), if_neg (by rw [h1]; decide), if_pos h2]
        obtain ⟨n, hn⟩ := Int.eq_ofNat_of_zero_le (HRX.out _ hr).1
        have hn8 : n < 8 := by have := (HRX.out _ hr).2; omega
        rw [hn] at e1 hr HB
        have c1 := HB.out.cell n hn8
        have f1 := HB.out.fz n
        have HS := hide (HB.out.set hx hr hn8)
        have ni : (n : Int) < 8 := by omega
        clear hx hr HB HRX hn
        go_wp2_with fail
        go_roundw
        case rel => exact ⟨j + 1, by omega, by go_num, HS⟩
        case measure => simp [intOf]; omega
      cases h3 : (x.op.toList == [115, 117, 98])
      rotate_left
      · have hr : wtReg x = some x.a := by
          unfold wtReg
          rw [if_neg (by rw [h0]; decide), if_neg (by rw [h1]; decide), if_neg (by rw [h2]; decide), if_pos h3]
        obtain ⟨n, hn⟩ := Int.eq_ofNat_of_zero_le (HRX.out _ hr).1
        have hn8 : n < 8 := by have := (HRX.out _ hr).2; omega
        rw [hn] at e1 hr HB
        have c1 := HB.out.cell n hn8
        have f1 := HB.out.fz n
        have HS := hide (HB.out.set hx hr hn8)
        have ni : (n : Int) < 8 := by omega
        clear hx hr HB HRX hn
        go_wp2_with fail
        go_roundw
        case rel => exact ⟨j + 1, by omega, by go_num, HS⟩
        case measure => simp [intOf]; omega
      cases h4 : (x.op.toList == [97, 110, 100])
      rotate_left
      · have hr : wtReg x = some x.a := by
          unfold wtReg
          rw [if_neg (by rw [h0]; decide), if_neg (by rw [h1]; decide), if_neg (by rw [h2]; decide), if_neg (by rw [h3]; decide), if_pos h4]
        obtain ⟨n, hn⟩ := Int.eq_ofNat_of_zero_le (HRX.out _ hr).1
        have hn8 : n < 8 := by have := (HRX.out _ hr).2; omega
        rw [hn] at e1 hr HB
        have c1 := HB.out.cell n hn8
        have f1 := HB.out.fz n
        have HS := hide (HB.out.set hx hr hn8)
        have ni : (n : Int) < 8 := by omega
        clear hx hr HB HRX hn
        go_wp2_with fail
        go_roundw
        case rel => exact ⟨j + 1, by omega, by go_num, HS⟩
        case measure => simp [intOf]; omega
      cases h5 : (x.op.toList == [120, 111, 114])
      rotate_left
      · have hr : wtReg x = some x.a := by
          unfold wtReg
          rw [if_neg (by rw [h0]; decide), if_neg (by rw [h1]; decide), if_neg (by rw [h2]; decide), if_neg (by rw [h3]; decide), if_neg (by rw [h4]; decide), if_pos h5]
        obtain ⟨n, hn⟩ := Int.eq_ofNat_of_zero_le (HRX.out _ hr).1
        have hn8 : n < 8 := by have := (HRX.out _ hr).2; omega
        rw [hn] at e1 hr HB
        have c1 := HB.out.cell n hn8
        have f1 := HB.out.fz n
        have HS := hide (HB.out.set hx hr hn8)
        have ni : (n : Int) < 8 := by omega
        clear hx hr HB HRX hn
        go_wp2_with fail
        go_roundw
        case rel => exact ⟨j + 1, by omega, by go_num, HS⟩
        case measure => simp [intOf]; omega
      cases h6 : (x.op.toList == [108, 111, 97, 100])
      rotate_left
      · have hr : wtReg x = some x.a := by
          unfold wtReg
          rw [if_neg (by rw [h0]; decide), if_neg (by rw [h1]; decide), if_neg (by rw [h2]; decide), if_neg (by rw [h3]; decide), if_neg (by rw [h4]; decide), if_neg (by rw [h5]; decide), if_pos h6]
        obtain ⟨n, hn⟩ := Int.eq_ofNat_of_zero_le (HRX.out _ hr).1
        have hn8 : n < 8 := by have := (HRX.out _ hr).2; omega
        rw [hn] at e1 hr HB
        have c1 := HB.out.cell n hn8
        have f1 := HB.out.fz n
        have HS := hide (HB.out.set hx hr hn8)
        have ni : (n : Int) < 8 := by omega
        clear hx hr HB HRX hn
        go_wp2_with fail
        go_roundw
        case rel => exact ⟨j + 1, by omega, by go_num, HS⟩
        case measure => simp [intOf]; omega
      cases h7 : (x.op.toList == [115, 119, 97, 112])
      rotate_left
      · have hr : wtReg x = some x.a := by
          unfold wtReg
          rw [if_neg (by rw [h0]; decide), if_neg (by rw [h1]; decide), if_neg (by rw [h2]; decide), if_neg (by rw [h3]; decide), if_neg (by rw [h4]; decide), if_neg (by rw [h5]; decide), if_neg (by rw [h6]; decide), if_pos h7]
        obtain ⟨n, hn⟩ := Int.eq_ofNat_of_zero_le (HRX.out _ hr).1
        have hn8 : n < 8 := by have := (HRX.out _ hr).2; omega
        rw [hn] at e1 hr HB
        have c1 := HB.out.cell n hn8
        have f1 := HB.out.fz n
        have HS := hide (HB.out.set hx hr hn8)
        have ni : (n : Int) < 8 := by omega
        clear hx hr HB HRX hn
        go_wp2_with fail
        go_roundw
        case rel => exact ⟨j + 1, by omega, by go_num, HS⟩
        case measure => simp [intOf]; omega
      cases h8 : (x.op.toList == [97, 108, 108, 111, 99])
      rotate_left
      · have hr : wtReg x = some x.a := by
          unfold wtReg
          rw [if_neg (by rw [h0]; decide), if_neg (by rw [h1]; decide), if_neg (by rw [h2]; decide), if_neg (by rw [h3]; decide), if_neg (by rw [h4]; decide), if_neg (by rw [h5]; decide), if_neg (by rw [h6]; decide), if_neg (by rw [h7]; decide), if_pos h8]
        obtain ⟨n, hn⟩ := Int.eq_ofNat_of_zero_le (HRX.out _ hr).1
        have hn8 : n < 8 := by have := (HRX.out _ hr).2; omega
        rw [hn] at e1 hr HB
        have c1 := HB.out.cell n hn8
        have f1 := HB.out.fz n
        have HS := hide (HB.out.set hx hr hn8)
        have ni : (n : Int) < 8 := by omega
        clear hx hr HB HRX hn
        go_wp2_with fail
        go_roundw
        case rel => exact ⟨j + 1, by omega, by go_num, HS⟩
        case measure => simp [intOf]; omega
      cases h9 : (x.op.toList == [99, 97, 115])
      · have hr : wtReg x = none := by
          unfold wtReg
          rw [if_neg (by rw [h0]; decide), if_neg (by rw [h1]; decide), if_neg (by rw [h2]; decide), if_neg (by rw [h3]; decide), if_neg (by rw [h4]; decide), if_neg (by rw [h5]; decide), if_neg (by rw [h6]; decide), if_neg (by rw [h7]; decide), if_neg (by rw [h8]; decide), if_neg (by rw [h9]; decide)]
        have HS := hide (HB.out.skip hx hr)
        clear hx hr HB HRX
        go_wp2_with fail
        go_roundw
        case rel => exact ⟨j + 1, by omega, by go_num, HS⟩
        case measure => simp [intOf]; omega
      · have hr : wtReg x = some x.b := by
          unfold wtReg
          rw [if_neg (by rw [h0]; decide), if_neg (by rw [h1]; decide), if_neg (by rw [h2]; decide), if_neg (by rw [h3]; decide), if_neg (by rw [h4]; decide), if_neg (by rw [h5]; decide), if_neg (by rw [h6]; decide), if_neg (by rw [h7]; decide), if_neg (by rw [h8]; decide), if_pos h9]
        obtain ⟨n, hn⟩ := Int.eq_ofNat_of_zero_le (HRX.out _ hr).1
        have hn8 : n < 8 := by have := (HRX.out _ hr).2; omega
        rw [hn] at e2 hr HB
        have c1 := HB.out.cell n hn8
        have f1 := HB.out.fz n
        have HS := hide (HB.out.set hx hr hn8)
        have ni : (n : Int) < 8 := by omega
        clear hx hr HB HRX hn
        go_wp2_with fail
        go_roundw
        case rel => exact ⟨j + 1, by omega, by go_num, HS⟩
        case measure => simp [intOf]; omega
    · obtain rfl : j = l.length := by omega
      go_wp2_with fail
      go_ret
      exact ⟨_, rfl, HW.out⟩
end Go.Proofs.YtepgcgokolmedaaDoor

/- SpL -/
namespace Go.Proofs.YtepgcgokolmedaaDoor
open Go.RowKit

def labelAtB (l : List Ins) (to : List UInt8) : Option Nat := l.findIdx? (fun x => (bl x.op == [108, 97, 98, 101, 108]) && (bl x.to == to))
theorem labelAt_B (l : List Ins) (to : ByteArray) : labelAt l to = match labelAtB l (bl to) with
    | some j => (j : Int)
    | none => -1 := by
  unfold labelAt labelAtB
  rw [show (fun x => setsLabel x to) = (fun x => (bl x.op == [108, 97, 98, 101, 108]) && (bl x.to == bl to)) from funext fun x => by unfold setsLabel; rw [toList_bl, toList_bl, toList_bl]]
  rfl
def nameB (l : List UInt8) : Bool := decide (1 ≤ l.length) && (decide (l.length ≤ 12) && (List.range l.length).all fun j => nameOk j (l.getD j 0).toNat)
theorem nameB_is {s : ByteArray} (h : nameB (bl s) = true) : isName s := by
  unfold nameB at h
  simp only [Bool.and_eq_true, decide_eq_true_eq, List.all_eq_true, List.mem_range] at h
  obtain ⟨h1, h2, h3⟩ := h
  have hz : s.size = (bl s).length := size_bl s
  refine ⟨by omega, by omega, fun j hj => ?_⟩
  have := h3 j (by omega)
  rw [List.getD_eq_getElem?_getD, List.getElem?_eq_getElem (by omega)] at this
  exact this
def shapeGood (x : Ins) (l : List UInt8) : Bool :=
  ((lab ⟨l.toArray⟩ l.length || (bl x.to == [])) && (!(lab ⟨l.toArray⟩ l.length) || nameB (bl x.to))) &&
  (List.range 3).all fun k => if k < cnt ⟨l.toArray⟩ l.length then decide (0 ≤ x.n k ∧ x.n k < mostOf (byteAt ⟨l.toArray⟩ k)) else decide (x.n k = 0)
def insGood (L : List Ins) (i : Nat) (x : Ins) : Bool := match shape (bl x.op) with
  | none => false
  | some l => shapeGood x l && ((!(bl x.op == [108, 97, 98, 101, 108]) || labelAtB L (bl x.to) == some i) && ((bl x.to == []) || (labelAtB L (bl x.to)).isSome))
theorem insGood_is {L : List Ins} {i : Nat} {x : Ins} (h : insGood L i x = true) : insFault L i x = 0 := by
  unfold insGood at h
  cases hs : shape (bl x.op) with
  | none => rw [hs] at h; cases h
  | some l =>
    rw [hs] at h
    simp only [Bool.and_eq_true] at h
    obtain ⟨h1, h2, h3⟩ := h
    unfold shapeGood at h1
    simp only [Bool.and_eq_true, List.all_eq_true, List.mem_range] at h1
    obtain ⟨⟨g1, g2⟩, g3⟩ := h1
    have hsz : (⟨l.toArray⟩ : ByteArray).size = l.length := by simp [ByteArray.size]
    have he : insErr x = 0 := by
      unfold insErr
      rw [toList_bl, hs]
      show insBad x ⟨l.toArray⟩ = 0
      unfold insBad
      rw [hsz, if_neg, if_neg, if_neg, if_neg]
      · rintro ⟨e1, e2⟩
        rw [e1] at g2
        exact e2 (nameB_is (by simpa using g2))
      · rintro ⟨k, hk, e⟩
        have := cnt_le ⟨l.toArray⟩ l.length
        have hl := shape_le hs
        have g := g3 k (by omega)
        rw [if_pos hk] at g
        exact e (by simpa using g)
      · rintro ⟨k, hk, hk3, e⟩
        have g := g3 k hk3
        rw [if_neg (by omega)] at g
        exact e (by simpa using g)
      · rintro ⟨e1, e2⟩
        rw [e1, Bool.false_or] at g1
        rw [toList_bl] at e2
        exact e2 (by simpa using g1)
    unfold insFault
    rw [if_neg (by rw [he]; simp), if_neg, if_neg]
    · rintro ⟨e1, e2⟩
      rw [toList_bl] at e1
      rw [e1, Bool.false_or] at h3
      rw [labelAt_B] at e2
      cases hb : labelAtB L (bl x.to) with
      | none => rw [hb] at h3; cases h3
      | some j => rw [hb] at e2; exact absurd e2 (by simp)
    · rintro ⟨e1, e2⟩
      rw [toList_bl] at e1
      rw [e1, Bool.not_true, Bool.false_or] at h2
      rw [labelAt_B, show labelAtB L (bl x.to) = some i by simpa using h2] at e2
      exact e2 rfl
theorem faultFrom_good {L : List Ins} : ∀ (r : List Ins) (j : Nat), (∀ (k : Nat) x, r[k]? = some x → insFault L (j + k) x = 0) → faultFrom L j r = (0, -1)
  | [], _, _ => rfl
  | y :: r, j, h => by
    unfold faultFrom
    rw [if_pos (by simpa using h 0 y rfl)]
    exact faultFrom_good r (j + 1) (fun k x hx => by rw [show j + 1 + k = j + (k + 1) by omega]; exact h (k + 1) x (by simpa using hx))
end Go.Proofs.YtepgcgokolmedaaDoor
