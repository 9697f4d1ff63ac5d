import Derived.Test.YtmeohblomighpaaDoorRK22
import Derived.Test.YtmeohblomighpaaDoorRK05

/- SpF -/
namespace Go.Proofs.YtmeohblomighpaaDoorR
open Go.RowKit Go.Extern.Stop Go.Stop Go.Extern Go.Maps Go.WideMaps Go.Sort

theorem insOwn_mono {w : World} {base base' : Nat} {v : Value} {l : List Ins} (h : insOwn w base v l) (hb : base' ≤ base) : insOwn w base' v l := by
  obtain ⟨h1, h2⟩ := h
  refine ⟨h1, ?_⟩
  rcases h2 with h2 | ⟨g, cap, cur, e, hg, r⟩
  · exact .inl h2
  · exact .inr ⟨g, cap, cur, e, Nat.le_trans hb hg, r⟩

theorem insOwn_open {w : World} {base : Nat} {v : Value} {l : List Ins} (h : insOwn w base v l) (h1 : 0 < l.length) : ∃ ad cap, v = .slice (some ad) l.length cap ∧ insAt (some ad) l w := by
  obtain ⟨ad, cap, rfl, h2, h3, h4⟩ := insAt_of_icells h
  obtain ⟨y, hy⟩ : ∃ y, l[0]? = some y := ⟨_, List.getElem?_eq_getElem h1⟩
  obtain ⟨b, off, rfl, -⟩ := h4 0 y hy
  exact ⟨_, cap, rfl, h4⟩
theorem insOwn_new {w : World} {l : List Ins} {cs : Array Value} {base : Nat} (h : cs.toList = icells l) (hb : base ≤ w.heap.size) (hl : l.length ≤ 1000) : insOwn (w.alloc (.cells cs 63)) base (.slice (some ⟨w.heap.size, 0, none⟩) l.length l.length) l := by
  refine ⟨icells_len l, .inr ⟨w.heap.size, l.length, cs, rfl, hb, heap_new w _, Nat.le_refl _, by unfold maxLen; omega, ?_, ?_⟩⟩
  · rw [← Array.length_toList, h, icells_len]
  · rw [h, ← icells_len l, List.take_length]

structure LockOk (p : ByteArray) (cell word tmp : Int) : Prop where
  hc : 0 ≤ cell ∧ cell < 8
  hw : 0 ≤ word ∧ word < 4
  ht : 0 ≤ tmp ∧ tmp < 7
  ne : cell ≠ tmp ∧ cell ≠ tmp + 1
  name : isName p
  short : p.size ≤ 8

theorem swithin_yes {n k : Int} (h : 0 ≤ n ∧ n < k) (w : World) : Calls Tryd.prog 32 #[.int .i64 n, .int .i64 k] w fun e w' => e = .returned (.bool true) ∧ w' = w :=
  (swithin_any n k w).mono fun _ _ ⟨h1, h2⟩ => ⟨by rw [h1, decide_eq_true h.1, decide_eq_true h.2]; rfl, h2⟩

open Classical in
set_option maxRecDepth 20000 in
theorem scheck_ok {p : ByteArray} {cell word tmp : Int} (h : LockOk p cell word tmp) (w : World) :
    Calls Tryd.prog 18 #[.string p, .int .i64 cell, .int .i64 word, .int .i64 tmp] w fun e w' => e = .returned .nilIface ∧ Below w.heap.size w w' := by
  have H1 := hide (swithin_yes (k := 8) h.hc)
  have H2 := hide (swithin_yes (k := 4) h.hw)
  have H3 := hide (swithin_yes (k := 7) h.ht)
  have HN : Hid (∀ w, Calls Tryd.prog 33 #[.string p] w fun e w' => e = .returned (.bool true) ∧ Below w.heap.size w w') := fun w => (pisName_any p w).mono fun _ _ ⟨h1, h2⟩ => ⟨by rw [h1, decide_eq_true h.name], h2⟩
  have wr1 : IntKind.i64.wrap (tmp + 1) = tmp + 1 := by have := h.ht; rw [IntKind.wrap_i64]; omega
  have n1 : (cell == tmp) = false := beq_eq_false_iff_ne.2 h.ne.1
  have n2 : (cell == tmp + 1) = false := beq_eq_false_iff_ne.2 h.ne.2
  have hs : ¬ 8 < (p.size : Int) := by have := h.short; omega
  clear h
  go_enter Tryd.func18, Tryd.ntmps18
  go_wp2_with fail
  refine (H1.out _).mono ?_
  rintro e w1 ⟨rfl, rfl⟩
  go_wp2_with fail
  refine (H2.out _).mono ?_
  rintro e w1 ⟨rfl, rfl⟩
  go_wp2_with fail
  refine (H3.out _).mono ?_
  rintro e w1 ⟨rfl, rfl⟩
  go_wp2_with fail
  refine (HN.out _).mono ?_
  rintro e w1 ⟨rfl, hb⟩
  go_wp2_with fail
  go_ret
  exact ⟨rfl, hb⟩

def spX : ByteArray := ⟨#[120]⟩
def takeCode (p : ByteArray) (cell word tmp : Int) : List Ins := ([⟨spLabel, 0, 0, 0, p⟩] ++ numCode tmp 2) ++ [⟨⟨#[99, 97, 115]⟩, cell, tmp, word, spNo⟩, ⟨⟨#[122, 101, 114, 111]⟩, tmp, 0, 0, p ++ spX⟩, ⟨⟨#[103, 111, 116, 111]⟩, 0, 0, 0, p⟩, ⟨spLabel, 0, 0, 0, p ++ spX⟩]
def giveCode (cell word tmp : Int) : List Ins := numCode tmp 1 ++ [⟨⟨#[115, 119, 97, 112]⟩, tmp, cell, word, spNo⟩]

set_option maxRecDepth 20000 in
set_option maxHeartbeats 1000000 in
theorem give_ok {p : ByteArray} {cell word tmp : Int} (h : LockOk p cell word tmp) (w : World) :
    Calls Tryd.prog 7 #[.string p, .int .i64 cell, .int .i64 word, .int .i64 tmp] w fun e w' => ∃ v, e = .returned (.tuple #[v, .nilIface]) ∧ insOwn w' w.heap.size v (giveCode cell word tmp) ∧ Below w.heap.size w w' := by
  have HC := hide (scheck_ok h w)
  have HN := hide (fun w => snumbers_any tmp 1 ⟨h.ht.1, by have := h.ht.2; omega⟩ (by decide) w)
  clear h
  go_enter Tryd.func7, Tryd.ntmps7
  go_wp2_with fail
  refine HC.out.mono ?_
  rintro e w1 ⟨rfl, hb⟩
  go_wp2_with fail
  refine (HN.out _).mono ?_
  rintro e w2 ⟨v, rfl, ho, hb2⟩
  have HB2 : Below w.heap.size w w2 := below_step hb hb2
  have HO := hide (insOwn_mono (show insOwn w2 w1.heap.size v (numCode tmp 1) from ho) hb.size)
  clear hb hb2 ho
  go_wp2_with (at_builtin; refine wpList_append_ins _ rfl _ _ rfl w.heap.size (numCode tmp 1) [⟨⟨#[115, 119, 97, 112]⟩, tmp, cell, word, spNo⟩] _ _ _ rfl ?q1 rfl ?q2 (Nat.succ_pos _) ?q3 ?q4 ?_)
  case q1 => exact insOwn_keep HO.out ((Below.refl _ _).alloc (Nat.le_refl _) _)
  case q2 => exact insAt_new rfl
  case q3 => rw [numCode_len]; show 1 + 1 ≤ 2000; omega
  case q4 => have := HB2.size; simp; omega
  intro v' w3 HO3 hb3 hs3 hg hloc
  have HB3 : Below w.heap.size w w3 := (HB2.alloc HB2.size _).trans hb3
  have HO4 : Hid (insOwn w3 w.heap.size v' (giveCode cell word tmp)) := HO3
  clear HO3 hloc hg HO HB2 hb3 hs3
  go_wp2
  go_ret2
  exact ⟨_, rfl, HO4.out, HB3⟩

set_option maxRecDepth 20000 in
set_option maxHeartbeats 1000000 in
theorem take_ok {p : ByteArray} {cell word tmp : Int} (h : LockOk p cell word tmp) (w : World) :
    Calls Tryd.prog 6 #[.string p, .int .i64 cell, .int .i64 word, .int .i64 tmp] w fun e w' => ∃ v, e = .returned (.tuple #[v, .nilIface]) ∧ insOwn w' w.heap.size v (takeCode p cell word tmp) ∧ Below w.heap.size w w' := by
  have HC := hide (scheck_ok h w)
  have HN := hide (fun w => snumbers_any tmp 2 ⟨h.ht.1, by have := h.ht.2; omega⟩ (by decide) w)
  have hsz : p.size + 1 ≤ 9223372036854775807 := by have := h.short; omega
  clear h
  go_enter Tryd.func6, Tryd.ntmps6
  go_wp2_with fail
  refine HC.out.mono ?_
  rintro e w1 ⟨rfl, hb⟩
  have HW : Hid (Below w.heap.size w w1) := hide hb
  have HL : Hid (insOwn (w1.alloc (.cells #[.string spLabel, .int .i64 0, .int .i64 0, .int .i64 0, .string p] 63)) w.heap.size (.slice (some ⟨w1.heap.size, 0, none⟩) 1 1) [⟨spLabel, 0, 0, 0, p⟩]) := hide (insOwn_new rfl hb.size (show 1 ≤ 1000 by decide))
  have HB1 : Hid (Below w.heap.size w (w1.alloc (.cells #[.string spLabel, .int .i64 0, .int .i64 0, .int .i64 0, .string p] 63))) := hide (hb.alloc hb.size _)
  clear hb HW
  go_wp2_with fail
  refine (HN.out _).mono ?_
  rintro e w2 ⟨v, rfl, ho, hb2⟩
  obtain ⟨an, cn, rfl, hnl⟩ := insOwn_open ho (by rw [numCode_len]; decide)
  rw [numCode_len]
  have HB2 : Below w.heap.size w w2 := below_step HB1.out hb2
  have HL2 := hide (insOwn_keep HL.out hb2)
  have HNL := hide hnl
  clear ho hb2 hnl HL HB1
  go_wp2_with (at_builtin; refine wpList_append_ins _ rfl _ _ rfl w.heap.size [⟨spLabel, 0, 0, 0, p⟩] (numCode tmp 2) _ _ _ rfl ?q1 (by rw [numCode_len]; rfl) ?q2 (by rw [numCode_len]; decide) ?q3 ?q4 ?_)
  case q1 => exact HL2.out
  case q2 => exact HNL.out
  case q3 => rw [numCode_len]; show 1 + 2 ≤ 2000; omega
  case q4 => exact HB2.size
  intro v' w3 HO3 hb3 hs3 hg hloc
  have HB3 : Below w.heap.size w w3 := HB2.trans hb3
  have HO4 : Hid (insOwn w3 w.heap.size v' ([⟨spLabel, 0, 0, 0, p⟩] ++ numCode tmp 2)) := HO3
  clear HO3 hloc hg HB2 hb3 hs3 HNL HL2
  go_wp2_with (at_builtin; refine wpList_append_ins _ rfl _ _ rfl w.heap.size ([⟨spLabel, 0, 0, 0, p⟩] ++ numCode tmp 2) [⟨⟨#[99, 97, 115]⟩, cell, tmp, word, spNo⟩, ⟨⟨#[122, 101, 114, 111]⟩, tmp, 0, 0, p ++ spX⟩, ⟨⟨#[103, 111, 116, 111]⟩, 0, 0, 0, p⟩, ⟨spLabel, 0, 0, 0, p ++ spX⟩] _ _ _ rfl ?q1 rfl ?q2 (Nat.succ_pos _) ?q3 ?q4 ?_)
  case q1 => exact insOwn_keep HO4.out ((Below.refl _ _).alloc (Nat.le_refl _) _)
  case q2 => exact insAt_new rfl
  case q3 => rw [List.length_append, numCode_len]; show 1 + 2 + 4 ≤ 2000; omega
  case q4 => have := HB3.size; simp; omega
  intro v5 w5 HO5 hb5 hs5 hg hloc
  have HB5 : Below w.heap.size w w5 := (HB3.alloc HB3.size _).trans hb5
  have HO6 : Hid (insOwn w5 w.heap.size v5 (takeCode p cell word tmp)) := HO5
  clear HO5 hloc hg HB3 hb5 hs5 HO4
  go_wp2
  go_ret2
  exact ⟨_, rfl, HO6.out, HB5⟩
end Go.Proofs.YtmeohblomighpaaDoorR

/- SpT -/
namespace Go.Proofs.YtmeohblomighpaaDoorR
open Go.RowKit Go.Extern.Stop Go.Stop Go.Extern Go.Maps Go.WideMaps Go.Sort

theorem coded2_err (a : Nat → Addr) (k : Nat) (hk : k ≤ 9) (w : World) (hE : Env a w) :
    Calls Tryd.prog 9 #[errVal a k, .int .i64 k] w fun ev w' => ev = .returned (.bool true) ∧ Below w.heap.size w w' := by
  have hb : ((k : Int) == k) = true := beq_iff_eq.2 rfl
  have HC := hide (code_err a k hk w hE)
  generalize errVal a k = V at *
  go_enter Tryd.func9, Tryd.ntmps9
  go_wp2_with fail
  refine HC.out.mono ?_
  rintro e0 w1 ⟨rfl, hb1⟩
  go_wp2
  go_ret
  exact ⟨rfl, hb1⟩

def nameShort (p : ByteArray) : Prop := isName p ∧ p.size ≤ 8
def numsOk (cell word tmp : Int) : Prop := (0 ≤ cell ∧ cell < 8) ∧ (0 ≤ word ∧ word < 4) ∧ (0 ≤ tmp ∧ tmp < 7) ∧ cell ≠ tmp ∧ cell ≠ tmp + 1
theorem lockOk_of {p : ByteArray} {cell word tmp : Int} (h : numsOk cell word tmp) (hn : nameShort p) : LockOk p cell word tmp := ⟨h.1, h.2.1, h.2.2.1, h.2.2.2, hn.1, hn.2⟩

theorem within_is (n k : Int) {b : Bool} (h : b = true ↔ 0 ≤ n ∧ n < k) (w : World) : Calls Tryd.prog 32 #[.int .i64 n, .int .i64 k] w fun e w' => e = .returned (.bool b) ∧ w' = w :=
  (swithin_any n k w).mono fun _ _ ⟨h1, h2⟩ => ⟨by
    rw [h1]
    congr 2
    cases b with
    | true => rw [decide_eq_true (h.1 rfl).1, decide_eq_true (h.1 rfl).2]; rfl
    | false =>
      by_cases h0 : 0 ≤ n
      · by_cases h1 : n < k
        · exact absurd (h.2 ⟨h0, h1⟩) (by decide)
        · rw [decide_eq_false h1, Bool.and_false]
      · rw [decide_eq_false h0, Bool.false_and], h2⟩

set_option maxRecDepth 20000 in
set_option maxHeartbeats 1000000 in
theorem scheck_nums {p : ByteArray} {cell word tmp : Int} (h : ¬ numsOk cell word tmp) {a : Nat → Addr} {w : World} (hE : Env a w) :
    Calls Tryd.prog 18 #[.string p, .int .i64 cell, .int .i64 word, .int .i64 tmp] w fun e w' => e = .returned (errAt (a 1)) ∧ w' = w := by
  have g1 : w.cell? ⟨0, 0, none⟩ = some (errAt (a 1)) := hE.cell 1 (by decide)
  clear hE
  by_cases hc : 0 ≤ cell ∧ cell < 8
  · have H1 := hide (within_is cell 8 (b := true) ⟨fun _ => hc, fun _ => rfl⟩)
    by_cases hw : 0 ≤ word ∧ word < 4
    · have H2 := hide (within_is word 4 (b := true) ⟨fun _ => hw, fun _ => rfl⟩)
      by_cases ht : 0 ≤ tmp ∧ tmp < 7
      · have H3 := hide (within_is tmp 7 (b := true) ⟨fun _ => ht, fun _ => rfl⟩)
        have wr1 : IntKind.i64.wrap (tmp + 1) = tmp + 1 := by rw [IntKind.wrap_i64]; omega
        have hd : cell = tmp ∨ ¬ cell = tmp ∧ cell = tmp + 1 := by
          by_cases e : cell = tmp
          · exact .inl e
          · by_cases e2 : cell = tmp + 1
            · exact .inr ⟨e, e2⟩
            · exact absurd ⟨hc, hw, ht, e, e2⟩ h
        clear h hc hw ht
        rcases hd with e | ⟨e, e2⟩
        · have n1 : (cell == tmp) = true := beq_iff_eq.2 e
          clear e
          go_enter Tryd.func18, Tryd.ntmps18
          go_wp2_with fail
          refine (H1.out _).mono ?_
          rintro e w1 ⟨rfl, rfl⟩
          go_wp2_with fail
          refine (H2.out _).mono ?_
          rintro e w1 ⟨rfl, rfl⟩
          go_wp2_with fail
          refine (H3.out _).mono ?_
          rintro e w1 ⟨rfl, rfl⟩
          go_wp2_with fail
          go_ret
          exact ⟨rfl, rfl⟩
        · have n1 : (cell == tmp) = false := beq_eq_false_iff_ne.2 e
          have n2 : (cell == tmp + 1) = true := beq_iff_eq.2 e2
          clear e e2
          go_enter Tryd.func18, Tryd.ntmps18
          go_wp2_with fail
          refine (H1.out _).mono ?_
          rintro e w1 ⟨rfl, rfl⟩
          go_wp2_with fail
          refine (H2.out _).mono ?_
          rintro e w1 ⟨rfl, rfl⟩
          go_wp2_with fail
          refine (H3.out _).mono ?_
          rintro e w1 ⟨rfl, rfl⟩
          go_wp2_with fail
          go_ret
          exact ⟨rfl, rfl⟩
      · have H3 := hide (within_is tmp 7 (b := false) ⟨fun e => (by cases e), fun e => absurd e ht⟩)
        clear h hc hw ht
        go_enter Tryd.func18, Tryd.ntmps18
        go_wp2_with fail
        refine (H1.out _).mono ?_
        rintro e w1 ⟨rfl, rfl⟩
        go_wp2_with fail
        refine (H2.out _).mono ?_
        rintro e w1 ⟨rfl, rfl⟩
        go_wp2_with fail
        refine (H3.out _).mono ?_
        rintro e w1 ⟨rfl, rfl⟩
        go_wp2_with fail
        go_ret
        exact ⟨rfl, rfl⟩
    · have H2 := hide (within_is word 4 (b := false) ⟨fun e => (by cases e), fun e => absurd e hw⟩)
      clear h hc hw
      go_enter Tryd.func18, Tryd.ntmps18
      go_wp2_with fail
      refine (H1.out _).mono ?_
      rintro e w1 ⟨rfl, rfl⟩
      go_wp2_with fail
      refine (H2.out _).mono ?_
      rintro e w1 ⟨rfl, rfl⟩
      go_wp2_with fail
      go_ret
      exact ⟨rfl, rfl⟩
  · have H1 := hide (within_is cell 8 (b := false) ⟨fun e => (by cases e), fun e => absurd e hc⟩)
    clear h hc
    go_enter Tryd.func18, Tryd.ntmps18
    go_wp2_with fail
    refine (H1.out _).mono ?_
    rintro e w1 ⟨rfl, rfl⟩
    go_wp2_with fail
    go_ret
    exact ⟨rfl, rfl⟩

open Classical in
set_option maxRecDepth 20000 in
set_option maxHeartbeats 1000000 in
theorem scheck_name {p : ByteArray} {cell word tmp : Int} (h : numsOk cell word tmp) (hn : ¬ nameShort p) {a : Nat → Addr} {w : World} (hE : Env a w) :
    Calls Tryd.prog 18 #[.string p, .int .i64 cell, .int .i64 word, .int .i64 tmp] w fun e w' => e = .returned (errAt (a 3)) ∧ Below w.heap.size w w' := by
  have g3 : w.cell? ⟨1, 0, none⟩ = some (errAt (a 3)) := hE.cell 3 (by decide)
  clear hE
  obtain ⟨hc, hw, ht, ne1, ne2⟩ := h
  have H1 := hide (within_is cell 8 (b := true) ⟨fun _ => hc, fun _ => rfl⟩)
  have H2 := hide (within_is word 4 (b := true) ⟨fun _ => hw, fun _ => rfl⟩)
  have H3 := hide (within_is tmp 7 (b := true) ⟨fun _ => ht, fun _ => rfl⟩)
  have wr1 : IntKind.i64.wrap (tmp + 1) = tmp + 1 := by rw [IntKind.wrap_i64]; omega
  have n1 : (cell == tmp) = false := beq_eq_false_iff_ne.2 ne1
  have n2 : (cell == tmp + 1) = false := beq_eq_false_iff_ne.2 ne2
  have HN := hide (pisName_any p)
  clear hc hw ht ne1 ne2
  by_cases hi : isName p
  · have hs : 8 < (p.size : Int) := by
      have : ¬ p.size ≤ 8 := fun e => hn ⟨hi, e⟩
      omega
    rw [decide_eq_true hi] at HN
    clear hi hn
    go_enter Tryd.func18, Tryd.ntmps18
    go_wp2_with fail
    refine (H1.out _).mono ?_
    rintro e w1 ⟨rfl, rfl⟩
    go_wp2_with fail
    refine (H2.out _).mono ?_
    rintro e w1 ⟨rfl, rfl⟩
    go_wp2_with fail
    refine (H3.out _).mono ?_
    rintro e w1 ⟨rfl, rfl⟩
    go_wp2_with fail
    refine (HN.out _).mono ?_
    rintro e w1 ⟨rfl, hb⟩
    replace g3 := keep_cell hb g3
    go_wp2_with fail
    go_ret
    exact ⟨rfl, hb⟩
  · rw [decide_eq_false hi] at HN
    clear hi hn
    go_enter Tryd.func18, Tryd.ntmps18
    go_wp2_with fail
    refine (H1.out _).mono ?_
    rintro e w1 ⟨rfl, rfl⟩
    go_wp2_with fail
    refine (H2.out _).mono ?_
    rintro e w1 ⟨rfl, rfl⟩
    go_wp2_with fail
    refine (H3.out _).mono ?_
    rintro e w1 ⟨rfl, rfl⟩
    go_wp2_with fail
    refine (HN.out _).mono ?_
    rintro e w1 ⟨rfl, hb⟩
    replace g3 := keep_cell hb g3
    go_wp2_with fail
    go_ret
    exact ⟨rfl, hb⟩

theorem give_err {p : ByteArray} {cell word tmp : Int} {ad : Addr} {w : World} (h : Calls Tryd.prog 18 #[.string p, .int .i64 cell, .int .i64 word, .int .i64 tmp] w fun e w' => e = .returned (errAt ad) ∧ Below w.heap.size w w') :
    Calls Tryd.prog 7 #[.string p, .int .i64 cell, .int .i64 word, .int .i64 tmp] w fun e w' => e = .returned (.tuple #[.slice none 0 0, errAt ad]) ∧ Below w.heap.size w w' := by
  have H := hide h
  clear h
  go_enter Tryd.func7, Tryd.ntmps7
  go_wp2_with fail
  refine H.out.mono ?_
  rintro e w1 ⟨rfl, hb⟩
  go_wp2_with fail
  go_ret2
  exact ⟨rfl, hb⟩
theorem take_err {p : ByteArray} {cell word tmp : Int} {ad : Addr} {w : World} (h : Calls Tryd.prog 18 #[.string p, .int .i64 cell, .int .i64 word, .int .i64 tmp] w fun e w' => e = .returned (errAt ad) ∧ Below w.heap.size w w') :
    Calls Tryd.prog 6 #[.string p, .int .i64 cell, .int .i64 word, .int .i64 tmp] w fun e w' => e = .returned (.tuple #[.slice none 0 0, errAt ad]) ∧ Below w.heap.size w w' := by
  have H := hide h
  clear h
  go_enter Tryd.func6, Tryd.ntmps6
  go_wp2_with fail
  refine H.out.mono ?_
  rintro e w1 ⟨rfl, hb⟩
  go_wp2_with fail
  go_ret2
  exact ⟨rfl, hb⟩
end Go.Proofs.YtmeohblomighpaaDoorR
