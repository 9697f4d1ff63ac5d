import Derived.Test.YtmeohblomighpaaDoorRJ34
import Derived.Test.YtmeohblomighpaaDoorRJ32

/- SpF -/
namespace Go.Proofs.YtmeohblomighpaaDoorR
open Go.RowKit Go.Extern.Stop Go.Stop Go.Extern Go.Maps Go.WideMaps Go.Sort

theorem insOwn_mono {w : World} {base base' : Nat} {v : Value} {l : List Ins} (h : insOwn w base v l) (hb : base' ≤ base) : insOwn w base' v l := by
  obtain ⟨h1, h2⟩ := h
  refine ⟨h1, ?_⟩
  rcases h2 with h2 | ⟨g, cap, cur, e, hg, r⟩
  · exact .inl h2
  · exact .inr ⟨g, cap, cur, e, Nat.le_trans hb hg, r⟩

theorem insOwn_open {w : World} {base : Nat} {v : Value} {l : List Ins} (h : insOwn w base v l) (h1 : 0 < l.length) : ∃ ad cap, v = .slice (some ad) l.length cap ∧ insAt (some ad) l w := by
  obtain ⟨ad, cap, rfl, h2, h3, h4⟩ := insAt_of_icells h
  obtain ⟨y, hy⟩ : ∃ y, l[0]? = some y := ⟨_, List.getElem?_eq_getElem h1⟩
  obtain ⟨b, off, rfl, -⟩ := h4 0 y hy
  exact ⟨_, cap, rfl, h4⟩
theorem insOwn_new {w : World} {l : List Ins} {cs : Array Value} {base : Nat} (h : cs.toList = icells l) (hb : base ≤ w.heap.size) (hl : l.length ≤ 1000) : insOwn (w.alloc (.cells cs 63)) base (.slice (some ⟨w.heap.size, 0, none⟩) l.length l.length) l := by
  refine ⟨icells_len l, .inr ⟨w.heap.size, l.length, cs, rfl, hb, heap_new w _, Nat.le_refl _, by unfold maxLen; omega, ?_, ?_⟩⟩
  · rw [← Array.length_toList, h, icells_len]
  · rw [h, ← icells_len l, List.take_length]

structure LockOk (p : ByteArray) (cell word tmp : Int) : Prop where
  hc : 0 ≤ cell ∧ cell < 8
  hw : 0 ≤ word ∧ word < 4
  ht : 0 ≤ tmp ∧ tmp < 7
  ne : cell ≠ tmp ∧ cell ≠ tmp + 1
  name : isName p
  short : p.size ≤ 8

theorem swithin_yes {n k : Int} (h : 0 ≤ n ∧ n < k) (w : World) : Calls Tryd.prog 32 #[.int .i64 n, .int .i64 k] w fun e w' => e = .returned (.bool true) ∧ w' = w :=
  (swithin_any n k w).mono fun _ _ ⟨h1, h2⟩ => ⟨by rw [h1, decide_eq_true h.1, decide_eq_true h.2]; rfl, h2⟩

open Classical in
set_option maxRecDepth 20000 in
theorem scheck_ok {p : ByteArray} {cell word tmp : Int} (h : LockOk p cell word tmp) (w : World) :
    Calls Tryd.prog 18 #[.string p, .int .i64 cell, .int .i64 word, .int .i64 tmp] w fun e w' => e = .returned .nilIface ∧ Below w.heap.size w w' := by
  have H1 := hide (swithin_yes (k := 8) h.hc)
  have H2 := hide (swithin_yes (k := 4) h.hw)
  have H3 := hide (swithin_yes (k := 7) h.ht)
  have HN : Hid (∀ w, Calls Tryd.prog 33 #[.string p] w fun e w' => e = .returned (.bool true) ∧ Below w.heap.size w w') := fun w => (pisName_any p w).mono fun _ _ ⟨h1, h2⟩ => ⟨by rw [h1, decide_eq_true h.name], h2⟩
  have wr1 : IntKind.i64.wrap (tmp + 1) = tmp + 1 := by have := h.ht; rw [IntKind.wrap_i64]; omega
  have n1 : (cell == tmp) = false := beq_eq_false_iff_ne.2 h.ne.1
  have n2 : (cell == tmp + 1) = false := beq_eq_false_iff_ne.2 h.ne.2
  have hs : ¬ 8 < (p.size : Int) := by have := h.short; omega
  clear h
  go_enter Tryd.func18, Tryd.ntmps18
  go_wp2_with fail
  refine (H1.out _).mono ?_
  rintro e w1 ⟨rfl, rfl⟩
  go_wp2_with fail
  refine (H2.out _).mono ?_
  rintro e w1 ⟨rfl, rfl⟩
  go_wp2_with fail
  refine (H3.out _).mono ?_
  rintro e w1 ⟨rfl, rfl⟩
  go_wp2_with fail
  refine (HN.out _).mono ?_
  rintro e w1 ⟨rfl, hb⟩
  go_wp2_with fail
  go_ret
  exact ⟨rfl, hb⟩

def spX : ByteArray := ⟨#[120]⟩
def takeCode (p : ByteArray) (cell word tmp : Int) : List Ins := ([⟨spLabel, 0, 0, 0, p⟩] ++ numCode tmp 2) ++ [⟨⟨#[99, 97, 115]⟩, cell, tmp, word, spNo⟩, ⟨⟨#[122, 101, 114, 111]⟩, tmp, 0, 0, p ++ spX⟩, ⟨⟨#[103, 111, 116, 111]⟩, 0, 0, 0, p⟩, ⟨spLabel, 0, 0, 0, p ++ spX⟩]
def giveCode (cell word tmp : Int) : List Ins := numCode tmp 1 ++ [⟨⟨#[115, 119, 97, 112]⟩, tmp, cell, word, spNo⟩]

set_option maxRecDepth 20000 in
set_option maxHeartbeats 1000000 in
theorem give_ok {p : ByteArray} {cell word tmp : Int} (h : LockOk p cell word tmp) (w : World) :
    Calls Tryd.prog 7 #[.string p, .int .i64 cell, .int .i64 word, .int .i64 tmp] w fun e w' => ∃ v, e = .returned (.tuple #[v, .nilIface]) ∧ insOwn w' w.heap.size v (giveCode cell word tmp) ∧ Below w.heap.size w w' := by
  have HC := hide (scheck_ok h w)
  have HN := hide (fun w => snumbers_any tmp 1 ⟨h.ht.1, by have := h.ht.2; omega⟩ (by decide) w)
  clear h
  go_enter Tryd.func7, Tryd.ntmps7
  go_wp2_with fail
  refine HC.out.mono ?_
  rintro e w1 ⟨rfl, hb⟩
  go_wp2_with fail
  refine (HN.out _).mono ?_
  rintro e w2 ⟨v, rfl, ho, hb2⟩
  have HB2 : Below w.heap.size w w2 := below_step hb hb2
  have HO := hide (insOwn_mono (show insOwn w2 w1.heap.size v (numCode tmp 1) from ho) hb.size)
  clear hb hb2 ho
  go_wp2_with (at_builtin; refine wpList_append_ins _ rfl _ _ rfl w.heap.size (numCode tmp 1) [⟨⟨#[115, 119, 97, 112]⟩, tmp, cell, word, spNo⟩] _ _ _ rfl ?q1 rfl ?q2 (Nat.succ_pos _) ?q3 ?q4 ?_)
  case q1 => exact insOwn_keep HO.out ((Below.refl _ _).alloc (Nat.le_refl _) _)
  case q2 => exact insAt_new rfl
  case q3 => rw [numCode_len]; show 1 + 1 ≤ 2000; omega
  case q4 => have := HB2.size; simp; omega
  intro v' w3 HO3 hb3 hs3 hg hloc
  have HB3 : Below w.heap.size w w3 := (HB2.alloc HB2.size _).trans hb3
  have HO4 : Hid (insOwn w3 w.heap.size v' (giveCode cell word tmp)) := HO3
  clear HO3 hloc hg HO HB2 hb3 hs3
  go_wp2
  go_ret2
  exact ⟨_, rfl, HO4.out, HB3⟩

set_option maxRecDepth 20000 in
set_option maxHeartbeats 1000000 in
theorem take_ok {p : ByteArray} {cell word tmp : Int} (h : LockOk p cell word tmp) (w : World) :
    Calls Tryd.prog 6 #[.string p, .int .i64 cell, .int .i64 word, .int .i64 tmp] w fun e w' => ∃ v, e = .returned (.tuple #[v, .nilIface]) ∧ insOwn w' w.heap.size v (takeCode p cell word tmp) ∧ Below w.heap.size w w' := by
  have HC := hide (scheck_ok h w)
  have HN := hide (fun w => snumbers_any tmp 2 ⟨h.ht.1, by have := h.ht.2; omega⟩ (by decide) w)
  have hsz : p.size + 1 ≤ 9223372036854775807 := by have := h.short; omega
  clear h
  go_enter Tryd.func6, Tryd.ntmps6
  go_wp2_with fail
  refine HC.out.mono ?_
  rintro e w1 ⟨rfl, hb⟩
  have HW : Hid (Below w.heap.size w w1) := hide hb
  have HL : Hid (insOwn (w1.alloc (.cells #[.string spLabel, .int .i64 0, .int .i64 0, .int .i64 0, .string p] 63)) w.heap.size (.slice (some ⟨w1.heap.size, 0, none⟩) 1 1) [⟨spLabel, 0, 0, 0, p⟩]) := hide (insOwn_new rfl hb.size (show 1 ≤ 1000 by decide))
  have HB1 : Hid (Below w.heap.size w (w1.alloc (.cells #[.string spLabel, .int .i64 0, .int .i64 0, .int .i64 0, .string p] 63))) := hide (hb.alloc hb.size _)
  clear hb HW
  go_wp2_with fail
  refine (HN.out _).mono ?_
  rintro e w2 ⟨v, rfl, ho, hb2⟩
  obtain ⟨an, cn, rfl, hnl⟩ := insOwn_open ho (by rw [numCode_len]; decide)
  rw [numCode_len]
  have HB2 : Below w.heap.size w w2 := below_step HB1.out hb2
  have HL2 := hide (insOwn_keep HL.out hb2)
  have HNL := hide hnl
  clear ho hb2 hnl HL HB1
  go_wp2_with (at_builtin; refine wpList_append_ins _ rfl _ _ rfl w.heap.size [⟨spLabel, 0, 0, 0, p⟩] (numCode tmp 2) _ _ _ rfl ?q1 (by rw [numCode_len]; rfl) ?q2 (by rw [numCode_len]; decide) ?q3 ?q4 ?_)
  case q1 => exact HL2.out
  case q2 => exact HNL.out
  case q3 => rw [numCode_len]; show 1 + 2 ≤ 2000; omega
  case q4 => exact HB2.size
  intro v' w3 HO3 hb3 hs3 hg hloc
  have HB3 : Below w.heap.size w w3 := HB2.trans hb3
  have HO4 : Hid (insOwn w3 w.heap.size v' ([⟨spLabel, 0, 0, 0, p⟩] ++ numCode tmp 2)) := HO3
  clear HO3 hloc hg HB2 hb3 hs3 HNL HL2
  go_wp2_with (at_builtin; refine wpList_append_ins _ rfl _ _ rfl w.heap.size ([⟨spLabel, 0, 0, 0, p⟩] ++ numCode tmp 2) [⟨⟨#[99, 97, 115]⟩, cell, tmp, word, spNo⟩, ⟨⟨#[122, 101, 114, 111]⟩, tmp, 0, 0, p ++ spX⟩, ⟨⟨#[103, 111, 116, 111]⟩, 0, 0, 0, p⟩, ⟨spLabel, 0, 0, 0, p ++ spX⟩] _ _ _ rfl ?q1 rfl ?q2 (Nat.succ_pos _) ?q3 ?q4 ?_)
  case q1 => exact insOwn_keep HO4.out ((Below.refl _ _).alloc (Nat.le_refl _) _)
  case q2 => exact insAt_new rfl
  case q3 => rw [List.length_append, numCode_len]; show 1 + 2 + 4 ≤ 2000; omega
  case q4 => have := HB3.size; simp; omega
  intro v5 w5 HO5 hb5 hs5 hg hloc
  have HB5 : Below w.heap.size w w5 := (HB3.alloc HB3.size _).trans hb5
  have HO6 : Hid (insOwn w5 w.heap.size v5 (takeCode p cell word tmp)) := HO5
  clear HO5 hloc hg HB3 hb5 hs5 HO4
  go_wp2
  go_ret2
  exact ⟨_, rfl, HO6.out, HB5⟩
end Go.Proofs.YtmeohblomighpaaDoorR

/- SpL -/
namespace Go.Proofs.YtmeohblomighpaaDoorR
open Go.RowKit

def labelAtB (l : List Ins) (to : List UInt8) : Option Nat := l.findIdx? (fun x => (bl x.op == [108, 97, 98, 101, 108]) && (bl x.to == to))
theorem labelAt_B (l : List Ins) (to : ByteArray) : labelAt l to = match labelAtB l (bl to) with
    | some j => (j : Int)
    | none => -1 := by
  unfold labelAt labelAtB
  rw [show (fun x => setsLabel x to) = (fun x => (bl x.op == [108, 97, 98, 101, 108]) && (bl x.to == bl to)) from funext fun x => by unfold setsLabel; rw [toList_bl, toList_bl, toList_bl]]
  rfl
def nameB (l : List UInt8) : Bool := decide (1 ≤ l.length) && (decide (l.length ≤ 12) && (List.range l.length).all fun j => nameOk j (l.getD j 0).toNat)
theorem nameB_is {s : ByteArray} (h : nameB (bl s) = true) : isName s := by
  unfold nameB at h
  simp only [Bool.and_eq_true, decide_eq_true_eq, List.all_eq_true, List.mem_range] at h
  obtain ⟨h1, h2, h3⟩ := h
  have hz : s.size = (bl s).length := size_bl s
  refine ⟨by omega, by omega, fun j hj => ?_⟩
  have := h3 j (by omega)
  rw [List.getD_eq_getElem?_getD, List.getElem?_eq_getElem (by omega)] at this
  exact this
def shapeGood (x : Ins) (l : List UInt8) : Bool :=
  ((lab ⟨l.toArray⟩ l.length || (bl x.to == [])) && (!(lab ⟨l.toArray⟩ l.length) || nameB (bl x.to))) &&
  (List.range 3).all fun k => if k < cnt ⟨l.toArray⟩ l.length then decide (0 ≤ x.n k ∧ x.n k < mostOf (byteAt ⟨l.toArray⟩ k)) else decide (x.n k = 0)
def insGood (L : List Ins) (i : Nat) (x : Ins) : Bool := match shape (bl x.op) with
  | none => false
  | some l => shapeGood x l && ((!(bl x.op == [108, 97, 98, 101, 108]) || labelAtB L (bl x.to) == some i) && ((bl x.to == []) || (labelAtB L (bl x.to)).isSome))
theorem insGood_is {L : List Ins} {i : Nat} {x : Ins} (h : insGood L i x = true) : insFault L i x = 0 := by
  unfold insGood at h
  cases hs : shape (bl x.op) with
  | none => rw [hs] at h; cases h
  | some l =>
    rw [hs] at h
    simp only [Bool.and_eq_true] at h
    obtain ⟨h1, h2, h3⟩ := h
    unfold shapeGood at h1
    simp only [Bool.and_eq_true, List.all_eq_true, List.mem_range] at h1
    obtain ⟨⟨g1, g2⟩, g3⟩ := h1
    have hsz : (⟨l.toArray⟩ : ByteArray).size = l.length := by simp [ByteArray.size]
    have he : insErr x = 0 := by
      unfold insErr
      rw [toList_bl, hs]
      show insBad x ⟨l.toArray⟩ = 0
      unfold insBad
      rw [hsz, if_neg, if_neg, if_neg, if_neg]
      · rintro ⟨e1, e2⟩
        rw [e1] at g2
        exact e2 (nameB_is (by simpa using g2))
      · rintro ⟨k, hk, e⟩
        have := cnt_le ⟨l.toArray⟩ l.length
        have hl := shape_le hs
        have g := g3 k (by omega)
        rw [if_pos hk] at g
        exact e (by simpa using g)
      · rintro ⟨k, hk, hk3, e⟩
        have g := g3 k hk3
        rw [if_neg (by omega)] at g
        exact e (by simpa using g)
      · rintro ⟨e1, e2⟩
        rw [e1, Bool.false_or] at g1
        rw [toList_bl] at e2
        exact e2 (by simpa using g1)
    unfold insFault
    rw [if_neg (by rw [he]; simp), if_neg, if_neg]
    · rintro ⟨e1, e2⟩
      rw [toList_bl] at e1
      rw [e1, Bool.false_or] at h3
      rw [labelAt_B] at e2
      cases hb : labelAtB L (bl x.to) with
      | none => rw [hb] at h3; cases h3
      | some j => rw [hb] at e2; exact absurd e2 (by simp)
    · rintro ⟨e1, e2⟩
      rw [toList_bl] at e1
      rw [e1, Bool.not_true, Bool.false_or] at h2
      rw [labelAt_B, show labelAtB L (bl x.to) = some i by simpa using h2] at e2
      exact e2 rfl
def codeGood (L : List Ins) : Bool := decide (L.length ≤ 2000) && (List.range L.length).all fun i => match L[i]? with
  | none => true
  | some x => insGood L i x
theorem faultFrom_good {L : List Ins} : ∀ (r : List Ins) (j : Nat), (∀ (k : Nat) x, r[k]? = some x → insFault L (j + k) x = 0) → faultFrom L j r = (0, -1)
  | [], _, _ => rfl
  | y :: r, j, h => by
    unfold faultFrom
    rw [if_pos (by simpa using h 0 y rfl)]
    exact faultFrom_good r (j + 1) (fun k x hx => by rw [show j + 1 + k = j + (k + 1) by omega]; exact h (k + 1) x (by simpa using hx))
theorem codeGood_is {L : List Ins} (h : codeGood L = true) : codeFault L = (0, -1) := by
  unfold codeGood at h
  simp only [Bool.and_eq_true, decide_eq_true_eq, List.all_eq_true, List.mem_range] at h
  obtain ⟨h1, h2⟩ := h
  unfold codeFault
  rw [if_neg (by omega)]
  refine faultFrom_good L 0 fun k x hx => insGood_is ?_
  have := h2 k (List.getElem?_eq_some_iff.1 hx).1
  rw [hx] at this
  rw [Nat.zero_add]; exact this
end Go.Proofs.YtmeohblomighpaaDoorR
