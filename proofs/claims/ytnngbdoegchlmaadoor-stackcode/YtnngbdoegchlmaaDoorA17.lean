import Derived.Test.YtnngbdoegchlmaaDoorA14
import Derived.Test.YtnngbdoegchlmaaDoorA16

/- SpW -/
namespace Go.Proofs.YtnngbdoegchlmaaDoor
open Go.RowKit

theorem nameB_of {s : ByteArray} (h : isName s) : nameB (bl s) = true := by
  obtain ⟨h1, h2, h3⟩ := h
  have hz : s.size = (bl s).length := size_bl s
  unfold nameB
  simp only [Bool.and_eq_true, decide_eq_true_eq, List.all_eq_true, List.mem_range]
  refine ⟨by omega, by omega, fun j hj => ?_⟩
  rw [List.getD_eq_getElem?_getD, List.getElem?_eq_getElem hj]
  exact h3 j (by omega)
theorem nameShort_x {p : ByteArray} (h : nameShort p) : isName (p ++ spX) := by
  obtain ⟨⟨h1, h2, h3⟩, h4⟩ := h
  have hs : (p ++ spX).size = p.size + 1 := by rw [ByteArray.size_append]; rfl
  refine ⟨by omega, by omega, fun j hj => ?_⟩
  by_cases hlt : j < p.size
  · rw [ByteArray.getElem_append_left hlt]
    exact h3 j hlt
  · have : j = p.size := by omega
    subst this
    rw [ByteArray.getElem_append_right (Nat.le_refl _)]
    unfold nameOk
    refine decide_eq_true (.inl ?_)
    simp only [Nat.sub_self]
    exact ⟨(show 97 ≤ 120 by decide), (show 120 ≤ 122 by decide)⟩
theorem good_ins {L : List Ins} {i : Nat} {x : Ins} {S : List UInt8} (hs : shape (bl x.op) = some S) (h1 : shapeGood x S = true) (h2 : bl x.op == [108, 97, 98, 101, 108] → labelAtB L (bl x.to) = some i) (h3 : bl x.to = [] ∨ ∃ j, labelAtB L (bl x.to) = some j) : insFault L i x = 0 := by
  refine insGood_is ?_
  unfold insGood
  rw [hs]
  simp only [Bool.and_eq_true]
  refine ⟨h1, ?_, ?_⟩
  · cases hb : (bl x.op == [108, 97, 98, 101, 108])
    · rfl
    · rw [h2 hb]; simp
  · rcases h3 with e | ⟨j, e⟩
    · rw [e]; rfl
    · rw [e]; simp
theorem shape_nums {x : Ins} {S : List UInt8} (hl : lab ⟨S.toArray⟩ S.length = false) (ht : bl x.to = []) (h : ∀ k, k < 3 → (if k < cnt ⟨S.toArray⟩ S.length then decide (0 ≤ x.n k ∧ x.n k < mostOf (byteAt ⟨S.toArray⟩ k)) else decide (x.n k = 0)) = true) : shapeGood x S = true := by
  unfold shapeGood
  rw [hl, ht]
  simp only [Bool.and_eq_true, List.all_eq_true, List.mem_range]
  exact ⟨⟨rfl, rfl⟩, h⟩
theorem shape_lab {x : Ins} {S : List UInt8} (hl : lab ⟨S.toArray⟩ S.length = true) (ht : isName x.to) (h : ∀ k, k < 3 → (if k < cnt ⟨S.toArray⟩ S.length then decide (0 ≤ x.n k ∧ x.n k < mostOf (byteAt ⟨S.toArray⟩ k)) else decide (x.n k = 0)) = true) : shapeGood x S = true := by
  unfold shapeGood
  rw [hl, nameB_of ht]
  simp only [Bool.and_eq_true, List.all_eq_true, List.mem_range]
  exact ⟨⟨rfl, rfl⟩, h⟩

def spBars : List ByteArray := [⟨#[97, 108, 108, 111, 99]⟩, ⟨#[102, 114, 101, 101]⟩, ⟨#[109, 97, 114, 107]⟩, ⟨#[110, 101, 101, 100]⟩, ⟨#[115, 116, 111, 112]⟩]
theorem no_bar {op : ByteArray} (h : (spBars.all fun b => !(bl op == bl b)) = true) (k : Nat) (b : ByteArray) (hb : spBars[k]? = some b) : (op.toList == b.toList) = false := by
  have := List.all_eq_true.1 h b (List.mem_of_getElem? hb)
  rw [toList_bl, toList_bl]
  simpa using this
theorem pre_x (p : ByteArray) : p.size ≤ (p ++ spX).size ∧ (((p ++ spX).extract 0 p.size).toList == p.toList) = true := by
  refine ⟨by rw [ByteArray.size_append]; omega, ?_⟩
  rw [beq_iff_eq]
  congr 1
  exact ByteArray.extract_append_eq_left rfl
theorem pre_p (p : ByteArray) : p.size ≤ p.size ∧ ((p.extract 0 p.size).toList == p.toList) = true := by
  refine ⟨Nat.le_refl _, ?_⟩
  rw [beq_iff_eq, ByteArray.extract_zero_size]
theorem wt_is (x : Ins) : wtReg x = if (bl x.op == [99, 111, 110, 115, 116]) = true then some x.a else if (bl x.op == [109, 111, 118, 101]) = true then some x.a else if (bl x.op == [97, 100, 100]) = true then some x.a else if (bl x.op == [115, 117, 98]) = true then some x.a else if (bl x.op == [97, 110, 100]) = true then some x.a else if (bl x.op == [120, 111, 114]) = true then some x.a else if (bl x.op == [108, 111, 97, 100]) = true then some x.a else if (bl x.op == [115, 119, 97, 112]) = true then some x.a else if (bl x.op == [97, 108, 108, 111, 99]) = true then some x.a else if (bl x.op == [99, 97, 115]) = true then some x.b else none := by
  unfold wtReg
  rw [toList_bl]
end Go.Proofs.YtnngbdoegchlmaaDoor

/- KsA -/
namespace Go.Proofs.YtnngbdoegchlmaaDoor
open Go.RowKit

def ksMove : ByteArray := ⟨#[109, 111, 118, 101]⟩
def ksLoad : ByteArray := ⟨#[108, 111, 97, 100]⟩
def ksStore : ByteArray := ⟨#[115, 116, 111, 114, 101]⟩
def ksCas : ByteArray := ⟨#[99, 97, 115]⟩
def ksSame : ByteArray := ⟨#[115, 97, 109, 101]⟩
def ksZero : ByteArray := ⟨#[122, 101, 114, 111]⟩
def ksGoto : ByteArray := ⟨#[103, 111, 116, 111]⟩
def pushCode (p q : ByteArray) : List Ins := [⟨ksMove, 1, 3, 0, spNo⟩, ⟨ksLoad, 0, 5, 0, spNo⟩, ⟨spLabel, 0, 0, 0, p⟩, ⟨ksMove, 2, 0, 0, spNo⟩, ⟨ksStore, 3, 0, 1, spNo⟩, ⟨ksCas, 5, 0, 0, spNo⟩, ⟨ksSame, 0, 2, 0, q⟩, ⟨ksGoto, 0, 0, 0, p⟩, ⟨spLabel, 0, 0, 0, q⟩]
def popCode (p q : ByteArray) : List Ins := [⟨ksLoad, 0, 5, 0, spNo⟩, ⟨spLabel, 0, 0, 0, p⟩, ⟨ksMove, 3, 0, 0, spNo⟩, ⟨ksZero, 3, 0, 0, q⟩, ⟨ksLoad, 1, 3, 1, spNo⟩, ⟨ksCas, 5, 0, 0, spNo⟩, ⟨ksSame, 0, 3, 0, q⟩, ⟨ksGoto, 0, 0, 0, p⟩, ⟨spLabel, 0, 0, 0, q⟩]

theorem ks_ne {p : ByteArray} : (bl p == bl (p ++ spX)) = false := by
  rw [beq_eq_false_iff_ne]
  intro e
  have h1 := congrArg List.length e
  rw [← size_bl, ← size_bl, ByteArray.size_append] at h1
  have : spX.size = 1 := rfl
  omega
theorem labelAtB_at {L : List Ins} {s : List UInt8} {i : Nat} (h : (L.map fun x => (bl x.op == [108, 97, 98, 101, 108]) && (bl x.to == s)) = (List.replicate i false ++ true :: List.replicate (L.length - i - 1) false)) (hi : i < L.length) : labelAtB L s = some i := by
  unfold labelAtB
  rw [List.findIdx?_eq_some_iff_getElem]
  have key : ∀ j (hj : j < L.length), ((bl L[j].op == [108, 97, 98, 101, 108]) && (bl L[j].to == s)) = decide (j = i) := fun j hj => by
    have h1 : (L.map fun x => (bl x.op == [108, 97, 98, 101, 108]) && (bl x.to == s))[j]? = some ((bl L[j].op == [108, 97, 98, 101, 108]) && (bl L[j].to == s)) := by
      rw [List.getElem?_map, List.getElem?_eq_getElem hj]; rfl
    rw [h] at h1
    by_cases e : j < i
    · rw [List.getElem?_append_left (by simpa using e), List.getElem?_replicate, if_pos e] at h1
      rw [← Option.some.inj h1, decide_eq_false (by omega)]
    · rw [List.getElem?_append_right (by simp; omega), List.length_replicate] at h1
      by_cases e2 : j = i
      · subst e2
        rw [Nat.sub_self] at h1
        rw [← Option.some.inj h1, decide_eq_true rfl]
      · obtain ⟨k, hk⟩ : ∃ k, j - i = k + 1 := ⟨j - i - 1, by omega⟩
        rw [hk, List.getElem?_cons_succ, List.getElem?_replicate, if_pos (by omega)] at h1
        rw [← Option.some.inj h1, decide_eq_false e2]
  refine ⟨hi, ?_, fun j hj => ?_⟩
  · rw [key i hi]; exact decide_eq_true rfl
  · rw [key j (by omega), decide_eq_false (by omega)]; decide
theorem labels_push (p : ByteArray) : labelAtB (pushCode p (p ++ spX)) (bl p) = some 2 ∧ labelAtB (pushCode p (p ++ spX)) (bl (p ++ spX)) = some 8 := by
  have h1 := @ks_ne p
  have h2 : (bl (p ++ spX) == bl p) = false := by rw [beq_eq_false_iff_ne]; exact fun e => (beq_eq_false_iff_ne.1 h1) e.symm
  have e1 : (bl p == bl p) = true := beq_self_eq_true _
  have e2 : (bl (p ++ spX) == bl (p ++ spX)) = true := beq_self_eq_true _
  constructor
  · refine labelAtB_at (i := 2) ?_ (show 2 < 9 by decide)
    show [false && _, false && _, true && (bl p == bl p), false && _, false && _, false && _, false && _, false && _, true && (bl (p ++ spX) == bl p)] = _
    rw [e1, h2]; rfl
  · refine labelAtB_at (i := 8) ?_ (show 8 < 9 by decide)
    show [false && _, false && _, true && (bl p == bl (p ++ spX)), false && _, false && _, false && _, false && _, false && _, true && (bl (p ++ spX) == bl (p ++ spX))] = _
    rw [e2, h1]; rfl
theorem labels_pop (p : ByteArray) : labelAtB (popCode p (p ++ spX)) (bl p) = some 1 ∧ labelAtB (popCode p (p ++ spX)) (bl (p ++ spX)) = some 8 := by
  have h1 := @ks_ne p
  have h2 : (bl (p ++ spX) == bl p) = false := by rw [beq_eq_false_iff_ne]; exact fun e => (beq_eq_false_iff_ne.1 h1) e.symm
  have e1 : (bl p == bl p) = true := beq_self_eq_true _
  have e2 : (bl (p ++ spX) == bl (p ++ spX)) = true := beq_self_eq_true _
  constructor
  · refine labelAtB_at (i := 1) ?_ (show 1 < 9 by decide)
    show [false && _, true && (bl p == bl p), false && _, false && _, false && _, false && _, false && _, false && _, true && (bl (p ++ spX) == bl p)] = _
    rw [e1, h2]; rfl
  · refine labelAtB_at (i := 8) ?_ (show 8 < 9 by decide)
    show [false && _, true && (bl p == bl (p ++ spX)), false && _, false && _, false && _, false && _, false && _, false && _, true && (bl (p ++ spX) == bl (p ++ spX))] = _
    rw [e2, h1]; rfl

theorem ks_nums {L : List Ins} {i : Nat} {x : Ins} {S : List UInt8} (hs : shape (bl x.op) = some S) (hl : lab ⟨S.toArray⟩ S.length = false) (ht : bl x.to = []) (hop : (bl x.op == [108, 97, 98, 101, 108]) = false) (h : ∀ k, k < 3 → (if k < cnt ⟨S.toArray⟩ S.length then decide (0 ≤ x.n k ∧ x.n k < mostOf (byteAt ⟨S.toArray⟩ k)) else decide (x.n k = 0)) = true) : insFault L i x = 0 :=
  good_ins hs (shape_nums hl ht h) (fun e => by rw [hop] at e; cases e) (.inl ht)
theorem ks_jump {L : List Ins} {i j : Nat} {x : Ins} {S : List UInt8} (hs : shape (bl x.op) = some S) (hl : lab ⟨S.toArray⟩ S.length = true) (ht : isName x.to) (hop : (bl x.op == [108, 97, 98, 101, 108]) = false) (hj : labelAtB L (bl x.to) = some j) (h : ∀ k, k < 3 → (if k < cnt ⟨S.toArray⟩ S.length then decide (0 ≤ x.n k ∧ x.n k < mostOf (byteAt ⟨S.toArray⟩ k)) else decide (x.n k = 0)) = true) : insFault L i x = 0 :=
  good_ins hs (shape_lab hl ht h) (fun e => by rw [hop] at e; cases e) (.inr ⟨j, hj⟩)
theorem ks_label {L : List Ins} {i : Nat} {s : ByteArray} (ht : isName s) (hi : labelAtB L (bl s) = some i) : insFault L i ⟨spLabel, 0, 0, 0, s⟩ = 0 :=
  good_ins (S := [108]) rfl (shape_lab rfl ht (fun k hk => match k, hk with | 0, _ => rfl | 1, _ => rfl | 2, _ => rfl)) (fun _ => hi) (.inr ⟨i, hi⟩)

theorem push_fault {p : ByteArray} (hn : nameShort p) : codeFault (pushCode p (p ++ spX)) = (0, -1) := by
  obtain ⟨l1, l2⟩ := labels_push p
  have hx := nameShort_x hn
  unfold codeFault
  rw [if_neg (by show ¬ 2000 < 9; decide)]
  refine faultFrom_good _ 0 fun k x hk => ?_
  rw [Nat.zero_add]
  match k, hk with
  | 0, hk => cases hk; exact ks_nums (S := [114, 114]) rfl rfl rfl rfl (fun k hk => match k, hk with | 0, _ => rfl | 1, _ => rfl | 2, _ => rfl)
  | 1, hk => cases hk; exact ks_nums (S := [114, 114, 119]) rfl rfl rfl rfl (fun k hk => match k, hk with | 0, _ => rfl | 1, _ => rfl | 2, _ => rfl)
  | 2, hk => cases hk; exact ks_label hn.1 l1
  | 3, hk => cases hk; exact ks_nums (S := [114, 114]) rfl rfl rfl rfl (fun k hk => match k, hk with | 0, _ => rfl | 1, _ => rfl | 2, _ => rfl)
  | 4, hk => cases hk; exact ks_nums (S := [114, 114, 119]) rfl rfl rfl rfl (fun k hk => match k, hk with | 0, _ => rfl | 1, _ => rfl | 2, _ => rfl)
  | 5, hk => cases hk; exact ks_nums (S := [114, 115, 119]) rfl rfl rfl rfl (fun k hk => match k, hk with | 0, _ => rfl | 1, _ => rfl | 2, _ => rfl)
  | 6, hk => cases hk; exact ks_jump (S := [114, 114, 108]) rfl rfl hx rfl l2 (fun k hk => match k, hk with | 0, _ => rfl | 1, _ => rfl | 2, _ => rfl)
  | 7, hk => cases hk; exact ks_jump (S := [108]) rfl rfl hn.1 rfl l1 (fun k hk => match k, hk with | 0, _ => rfl | 1, _ => rfl | 2, _ => rfl)
  | 8, hk => cases hk; exact ks_label hx l2
theorem pop_fault {p : ByteArray} (hn : nameShort p) : codeFault (popCode p (p ++ spX)) = (0, -1) := by
  obtain ⟨l1, l2⟩ := labels_pop p
  have hx := nameShort_x hn
  unfold codeFault
  rw [if_neg (by show ¬ 2000 < 9; decide)]
  refine faultFrom_good _ 0 fun k x hk => ?_
  rw [Nat.zero_add]
  match k, hk with
  | 0, hk => cases hk; exact ks_nums (S := [114, 114, 119]) rfl rfl rfl rfl (fun k hk => match k, hk with | 0, _ => rfl | 1, _ => rfl | 2, _ => rfl)
  | 1, hk => cases hk; exact ks_label hn.1 l1
  | 2, hk => cases hk; exact ks_nums (S := [114, 114]) rfl rfl rfl rfl (fun k hk => match k, hk with | 0, _ => rfl | 1, _ => rfl | 2, _ => rfl)
  | 3, hk => cases hk; exact ks_jump (S := [114, 108]) rfl rfl hx rfl l2 (fun k hk => match k, hk with | 0, _ => rfl | 1, _ => rfl | 2, _ => rfl)
  | 4, hk => cases hk; exact ks_nums (S := [114, 114, 119]) rfl rfl rfl rfl (fun k hk => match k, hk with | 0, _ => rfl | 1, _ => rfl | 2, _ => rfl)
  | 5, hk => cases hk; exact ks_nums (S := [114, 115, 119]) rfl rfl rfl rfl (fun k hk => match k, hk with | 0, _ => rfl | 1, _ => rfl | 2, _ => rfl)
  | 6, hk => cases hk; exact ks_jump (S := [114, 114, 108]) rfl rfl hx rfl l2 (fun k hk => match k, hk with | 0, _ => rfl | 1, _ => rfl | 2, _ => rfl)
  | 7, hk => cases hk; exact ks_jump (S := [108]) rfl rfl hn.1 rfl l1 (fun k hk => match k, hk with | 0, _ => rfl | 1, _ => rfl | 2, _ => rfl)
  | 8, hk => cases hk; exact ks_label hx l2
theorem push_plain {p : ByteArray} (hn : nameShort p) : PlainOk (pushCode p (p ++ spX)) p spBars := by
  refine ⟨by rw [push_fault hn], fun i x hx => ?_, fun i x hx ht => ?_⟩
  · match i, hx with
    | 0, hx => cases hx; exact no_bar rfl
    | 1, hx => cases hx; exact no_bar rfl
    | 2, hx => cases hx; exact no_bar rfl
    | 3, hx => cases hx; exact no_bar rfl
    | 4, hx => cases hx; exact no_bar rfl
    | 5, hx => cases hx; exact no_bar rfl
    | 6, hx => cases hx; exact no_bar rfl
    | 7, hx => cases hx; exact no_bar rfl
    | 8, hx => cases hx; exact no_bar rfl
  · have no : ((spNo.toList == []) = false) → False := fun e => by rw [toList_bl] at e; exact Bool.noConfusion (show true = false from e)
    match i, hx with
    | 0, hx => cases hx; exact (no ht).elim
    | 1, hx => cases hx; exact (no ht).elim
    | 2, hx => cases hx; exact pre_p p
    | 3, hx => cases hx; exact (no ht).elim
    | 4, hx => cases hx; exact (no ht).elim
    | 5, hx => cases hx; exact (no ht).elim
    | 6, hx => cases hx; exact pre_x p
    | 7, hx => cases hx; exact pre_p p
    | 8, hx => cases hx; exact pre_x p
theorem pop_plain {p : ByteArray} (hn : nameShort p) : PlainOk (popCode p (p ++ spX)) p spBars := by
  refine ⟨by rw [pop_fault hn], fun i x hx => ?_, fun i x hx ht => ?_⟩
  · match i, hx with
    | 0, hx => cases hx; exact no_bar rfl
    | 1, hx => cases hx; exact no_bar rfl
    | 2, hx => cases hx; exact no_bar rfl
    | 3, hx => cases hx; exact no_bar rfl
    | 4, hx => cases hx; exact no_bar rfl
    | 5, hx => cases hx; exact no_bar rfl
    | 6, hx => cases hx; exact no_bar rfl
    | 7, hx => cases hx; exact no_bar rfl
    | 8, hx => cases hx; exact no_bar rfl
  · have no : ((spNo.toList == []) = false) → False := fun e => by rw [toList_bl] at e; exact Bool.noConfusion (show true = false from e)
    match i, hx with
    | 0, hx => cases hx; exact (no ht).elim
    | 1, hx => cases hx; exact pre_p p
    | 2, hx => cases hx; exact (no ht).elim
    | 3, hx => cases hx; exact pre_x p
    | 4, hx => cases hx; exact (no ht).elim
    | 5, hx => cases hx; exact (no ht).elim
    | 6, hx => cases hx; exact pre_x p
    | 7, hx => cases hx; exact pre_p p
    | 8, hx => cases hx; exact pre_x p
theorem push_wt {p q : ByteArray} {i : Nat} {x : Ins} {k : Int} (hx : (pushCode p q)[i]? = some x) (hk : wtReg x = some k) : 0 ≤ k ∧ k < 3 := by
  rw [wt_is] at hk
  match i, hx with
  | 0, hx => cases hx; cases hk; decide
  | 1, hx => cases hx; cases hk; decide
  | 2, hx => cases hx; cases hk
  | 3, hx => cases hx; cases hk; decide
  | 4, hx => cases hx; cases hk
  | 5, hx => cases hx; cases hk; decide
  | 6, hx => cases hx; cases hk
  | 7, hx => cases hx; cases hk
  | 8, hx => cases hx; cases hk
theorem pop_wt {p q : ByteArray} {i : Nat} {x : Ins} {k : Int} (hx : (popCode p q)[i]? = some x) (hk : wtReg x = some k) : 0 ≤ k ∧ k < 4 := by
  rw [wt_is] at hk
  match i, hx with
  | 0, hx => cases hx; cases hk; decide
  | 1, hx => cases hx; cases hk
  | 2, hx => cases hx; cases hk; decide
  | 3, hx => cases hx; cases hk
  | 4, hx => cases hx; cases hk; decide
  | 5, hx => cases hx; cases hk; decide
  | 6, hx => cases hx; cases hk
  | 7, hx => cases hx; cases hk
  | 8, hx => cases hx; cases hk
theorem wtTo_above {l : List Ins} {n : Int} (h : ∀ (i : Nat) x k, l[i]? = some x → wtReg x = some k → 0 ≤ k ∧ k < n) {k : Nat} (h1 : n ≤ (k : Int)) : wtTo l l.length k = false := by
  unfold wtTo
  rw [List.take_length]
  cases hb : l.any fun x => wtReg x == some (k : Int) with
  | false => rfl
  | true =>
    obtain ⟨x, hx, e⟩ := List.any_eq_true.1 hb
    obtain ⟨i, hi, rfl⟩ := List.getElem_of_mem hx
    have := h i _ k (List.getElem?_eq_getElem hi) (by simpa using e)
    omega
end Go.Proofs.YtnngbdoegchlmaaDoor

/- KsB -/
namespace Go.Proofs.YtnngbdoegchlmaaDoor
open Go.RowKit Go.Extern.Stop Go.Stop Go.Extern Go.Maps Go.WideMaps Go.Sort

theorem coded3_err (a : Nat → Addr) (k : Nat) (hk : k ≤ 9) (w : World) (hE : Env a w) :
    Calls Tryd.prog 8 #[errVal a k, .int .i64 k] w fun ev w' => ev = .returned (.bool true) ∧ Below w.heap.size w w' := by
  have hb : ((k : Int) == k) = true := beq_iff_eq.2 rfl
  have HC := hide (code_err a k hk w hE)
  generalize errVal a k = V at *
  go_enter Tryd.func8, Tryd.ntmps8
  go_wp2_with fail
  refine HC.out.mono ?_
  rintro e0 w1 ⟨rfl, hb1⟩
  go_wp2
  go_ret
  exact ⟨rfl, hb1⟩

theorem bars3_any (w : World) : Calls Tryd.prog 10 #[] w fun e w' => ∃ ad, e = .returned (.slice ad 5 5) ∧ strsAt ad spBars w' ∧ Below w.heap.size w w' := by
  have hn : ∀ (i : Nat) x, spBars[i]? = some x → (w.alloc (.cells #[.string ⟨#[97, 108, 108, 111, 99]⟩, .string ⟨#[102, 114, 101, 101]⟩, .string ⟨#[109, 97, 114, 107]⟩, .string ⟨#[110, 101, 101, 100]⟩, .string ⟨#[115, 116, 111, 112]⟩] 9)).cell? ⟨w.heap.size, 0 + i, none⟩ = some (.string x) := fun i x hx => by
    rw [World.cell?_alloc_new]
    match i, hx with
    | 0, hx => cases hx; rfl
    | 1, hx => cases hx; rfl
    | 2, hx => cases hx; rfl
    | 3, hx => cases hx; rfl
    | 4, hx => cases hx; rfl
  have HN := hide hn
  clear hn
  go_enter Tryd.func10, Tryd.ntmps10
  go_wp2_with fail
  go_ret
  exact ⟨_, rfl, fun i x hx => ⟨w.heap.size, 0, rfl, HN.out i x hx⟩, (Below.refl _ _).alloc (Nat.le_refl _) _⟩

set_option maxRecDepth 20000 in
set_option maxHeartbeats 1000000 in
theorem kpush_in (p q : ByteArray) (w : World) : Calls Tryd.prog 13 #[.string p, .string q] w fun e w' => ∃ v, e = .returned v ∧ insOwn w' w.heap.size v (pushCode p q) ∧ Below w.heap.size w w' := by
  go_enter Tryd.func13, Tryd.ntmps13
  go_wp2_with fail
  go_ret
  exact ⟨_, rfl, insOwn_new (l := pushCode p q) rfl (Nat.le_refl _) (show 9 ≤ 1000 by decide), (Below.refl _ _).alloc (Nat.le_refl _) _⟩
set_option maxRecDepth 20000 in
set_option maxHeartbeats 1000000 in
theorem kpop_in (p q : ByteArray) (w : World) : Calls Tryd.prog 14 #[.string p, .string q] w fun e w' => ∃ v, e = .returned v ∧ insOwn w' w.heap.size v (popCode p q) ∧ Below w.heap.size w w' := by
  go_enter Tryd.func14, Tryd.ntmps14
  go_wp2_with fail
  go_ret
  exact ⟨_, rfl, insOwn_new (l := popCode p q) rfl (Nat.le_refl _) (show 9 ≤ 1000 by decide), (Below.refl _ _).alloc (Nat.le_refl _) _⟩

set_option maxRecDepth 20000 in
theorem kPush_ok {p : ByteArray} (h : nameShort p) (w : World) : Calls Tryd.prog 5 #[.string p] w fun e w' => ∃ v, e = .returned (.tuple #[v, .nilIface]) ∧ insOwn w' w.heap.size v (pushCode p (p ++ spX)) ∧ Below w.heap.size w w' := by
  have HC := hide (cname_ok h.1 h.2 w)
  have HP := hide (kpush_in p (p ++ spX))
  have hsz : p.size + 1 ≤ 9223372036854775807 := by have := h.2; omega
  clear h
  go_enter Tryd.func5, Tryd.ntmps5
  go_wp2_with fail
  refine HC.out.mono ?_
  rintro e w1 ⟨rfl, hb⟩
  have HB := hide hb
  clear HC hb
  go_wp2_with fail
  refine (HP.out w1).mono ?_
  rintro e w2 ⟨v, rfl, ho, hb2⟩
  have HO := hide (insOwn_mono ho HB.out.size)
  have HB2 := hide (below_step HB.out hb2)
  clear ho hb2 HP HB
  go_wp2
  go_ret2
  exact ⟨_, rfl, HO.out, HB2.out⟩
set_option maxRecDepth 20000 in
theorem kPop_ok {p : ByteArray} (h : nameShort p) (w : World) : Calls Tryd.prog 6 #[.string p] w fun e w' => ∃ v, e = .returned (.tuple #[v, .nilIface]) ∧ insOwn w' w.heap.size v (popCode p (p ++ spX)) ∧ Below w.heap.size w w' := by
  have HC := hide (cname_ok h.1 h.2 w)
  have HP := hide (kpop_in p (p ++ spX))
  have hsz : p.size + 1 ≤ 9223372036854775807 := by have := h.2; omega
  clear h
  go_enter Tryd.func6, Tryd.ntmps6
  go_wp2_with fail
  refine HC.out.mono ?_
  rintro e w1 ⟨rfl, hb⟩
  have HB := hide hb
  clear HC hb
  go_wp2_with fail
  refine (HP.out w1).mono ?_
  rintro e w2 ⟨v, rfl, ho, hb2⟩
  have HO := hide (insOwn_mono ho HB.out.size)
  have HB2 := hide (below_step HB.out hb2)
  clear ho hb2 HP HB
  go_wp2
  go_ret2
  exact ⟨_, rfl, HO.out, HB2.out⟩
theorem kPush_bad {p : ByteArray} (hn : ¬ nameShort p) {a : Nat → Addr} {w : World} (hE : Env a w) : Calls Tryd.prog 5 #[.string p] w fun e w' => e = .returned (.tuple #[.slice none 0 0, errAt (a 3)]) ∧ Below w.heap.size w w' := by
  have HC := hide (cname_bad hn hE)
  clear hn hE
  go_enter Tryd.func5, Tryd.ntmps5
  go_wp2_with fail
  refine HC.out.mono ?_
  rintro e w1 ⟨rfl, hb⟩
  go_wp2_with fail
  go_ret2
  exact ⟨rfl, hb⟩
theorem kPop_bad {p : ByteArray} (hn : ¬ nameShort p) {a : Nat → Addr} {w : World} (hE : Env a w) : Calls Tryd.prog 6 #[.string p] w fun e w' => e = .returned (.tuple #[.slice none 0 0, errAt (a 3)]) ∧ Below w.heap.size w w' := by
  have HC := hide (cname_bad hn hE)
  clear hn hE
  go_enter Tryd.func6, Tryd.ntmps6
  go_wp2_with fail
  refine HC.out.mono ?_
  rintro e w1 ⟨rfl, hb⟩
  go_wp2_with fail
  go_ret2
  exact ⟨rfl, hb⟩

theorem ksA_ok : nameShort ⟨#[97]⟩ := ⟨nameB_is (by decide +kernel), by decide⟩
theorem ksB_ok : nameShort ⟨#[98]⟩ := ⟨nameB_is (by decide +kernel), by decide⟩
set_option maxRecDepth 20000 in
theorem piled_any (w : World) : Calls Tryd.prog 4 #[] w fun e w' => e = .returned (.bool true) ∧ Below w.heap.size w w' := by
  have HT := hide (fun w => kPush_ok ksA_ok w)
  have HG := hide (fun w => kPop_ok ksB_ok w)
  go_enter Tryd.func4, Tryd.ntmps4
  go_wp2_with fail
  refine (HT.out _).mono ?_
  rintro e w1 ⟨va, rfl, ha, hb1⟩
  obtain ⟨ada, capa, rfl, -⟩ := insOwn_open ha (show 0 < 9 by decide)
  have la : ((pushCode ⟨#[97]⟩ (⟨#[97]⟩ ++ spX)).length : Int) = 9 := rfl
  clear ha
  go_wp2_with fail
  refine (HG.out _).mono ?_
  rintro e w2 ⟨vb, rfl, hg, hb2⟩
  obtain ⟨adb, capb, rfl, -⟩ := insOwn_open hg (show 0 < 9 by decide)
  have lb : ((popCode ⟨#[98]⟩ (⟨#[98]⟩ ++ spX)).length : Int) = 9 := rfl
  have HB := below_step hb1 hb2
  clear hg hb1 hb2 HT HG
  generalize (pushCode ⟨#[97]⟩ (⟨#[97]⟩ ++ spX)).length = la' at *
  generalize (popCode ⟨#[98]⟩ (⟨#[98]⟩ ++ spX)).length = lb' at *
  have la0 : 0 < (la' : Int) := by omega
  have lb0 : 0 < (lb' : Int) := by omega
  have lb1 : decide (0 < lb') = true := decide_eq_true (by omega)
  clear la lb
  go_wp2_with fail
  go_ret
  exact ⟨rfl, HB⟩

def amg (l : List Int) (i : Int) (k : Nat) : Bool := (l.take k).any fun y => y == i
theorem amg_succ {l : List Int} {k : Nat} {y : Int} (h : l[k]? = some y) (i : Int) : amg l i (k + 1) = (amg l i k || (y == i)) := by
  unfold amg
  rw [List.take_add_one, h, List.any_append]
  simp
set_option maxRecDepth 20000 in
set_option maxHeartbeats 2000000 in
theorem written3_any {ad adm : Option Addr} {l : List Ins} {more : List Int} {cap capm : Nat} {w : World} (hl : insAt ad l w) (hm : numsAt adm more w) (hlen : l.length ≤ 2000) (hml : more.length ≤ 2000) (hr : ∀ (i : Nat) x k, l[i]? = some x → wtReg x = some k → 0 ≤ k ∧ k < 8)
    (hin : ∀ k : Nat, 3 ≤ k → k < 8 → wtTo l l.length k = true → amg more k more.length = true) :
    Calls Tryd.prog 11 #[.slice ad l.length cap, .slice adm more.length capm] w fun e w' => e = .returned (.bool true) ∧ Below w.heap.size w w' := by
  have HW := hide (written_any (cap := cap) hl hlen hr)
  have HM := hide hm
  have HI := hide hin
  clear hl hm hr hin
  go_enter Tryd.func11, Tryd.ntmps11
  go_wp2_with fail
  refine HW.out.mono ?_
  rintro e w1 ⟨g, rfl, hw⟩
  have HWt := hide hw
  clear HW hw
  go_wp2_with fail
  go_loopw [6, 7, 8] (fun i _ _ wr => ∃ k : Nat, 3 ≤ k ∧ k ≤ 8 ∧ i = .int .i64 k ∧ wr = w1) (fun i _ _ _ => 8 - (intOf i).toNat)
  case atStart => exact ⟨3, by decide, by decide, rfl, rfl⟩
  case round =>
    obtain ⟨k, hk3, hk8, rfl, rfl⟩ := hrel
    by_cases hlt : k < 8
    · have ki : (k : Int) < 8 := by omega
      go_wp2_with fail
      go_loopw [7, 8] (fun b j wq => ∃ q : Nat, q ≤ more.length ∧ j = .int .i64 q ∧ b = .bool (amg more k q) ∧ wq = wr) (fun _ j _ => more.length - (intOf j).toNat)
      case atStart => exact ⟨0, Nat.zero_le _, rfl, rfl, rfl⟩
      case round =>
        obtain ⟨q, hq, rfl, rfl, rfl⟩ := hrel
        by_cases hqt : q < more.length
        · have qi : (q : Int) < more.length := by omega
          obtain ⟨y, hy⟩ : ∃ y, more[q]? = some y := ⟨_, List.getElem?_eq_getElem hqt⟩
          obtain ⟨bb, off, rfl, c0⟩ := HM.out.below HWt.out.low q y hy
          have HS := hide (amg_succ hy (k : Int))
          clear hy
          cases hyk : (y == (k : Int)) with
          | true =>
            rw [hyk, Bool.or_true] at HS
            go_wp2_with fail
            go_roundw
            case rel => exact ⟨q + 1, by omega, by go_num, by rw [HS.out], trivial⟩
            case measure => simp [intOf]; omega
          | false =>
            rw [hyk, Bool.or_false] at HS
            go_wp2_with fail
            go_roundw
            case rel => exact ⟨q + 1, by omega, by go_num, by rw [HS.out], trivial⟩
            case measure => simp [intOf]; omega
        · obtain rfl : q = more.length := by omega
          have c0 := HWt.out.cell k hlt
          have HIk := hide (HI.out k hk3 hlt)
          cases hb : wtTo l l.length k with
          | false =>
            rw [hb] at c0
            clear HIk hb
            go_wp2_with fail
            go_roundw
            case rel => exact ⟨k + 1, by omega, by omega, by go_num, trivial⟩
            case measure => simp [intOf]; omega
          | true =>
            rw [hb] at c0
            rw [HIk.out hb]
            clear HIk hb
            go_wp2_with fail
            go_roundw
            case rel => exact ⟨k + 1, by omega, by omega, by go_num, trivial⟩
            case measure => simp [intOf]; omega
    · obtain rfl : k = 8 := by omega
      go_wp2_with fail
      go_ret
      exact ⟨rfl, HWt.out.low⟩
end Go.Proofs.YtnngbdoegchlmaaDoor
