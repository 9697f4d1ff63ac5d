import Derived.Test.YtepgcgokolmedaaDoorB16
import Derived.Test.YtepgcgokolmedaaDoorB18
import Derived.Test.YtepgcgokolmedaaDoorB11
import Derived.Test.YtepgcgokolmedaaDoorB17
import Derived.Test.YtepgcgokolmedaaDoorB05
import Derived.Laws.BitsLemmas

/- SpW -/
namespace Go.Proofs.YtepgcgokolmedaaDoor
open Go.RowKit

theorem nameB_of {s : ByteArray} (h : isName s) : nameB (bl s) = true := by
  obtain ⟨h1, h2, h3⟩ := h
  have hz : s.size = (bl s).length := size_bl s
  unfold nameB
  simp only [Bool.and_eq_true, decide_eq_true_eq, List.all_eq_true, List.mem_range]
  refine ⟨by omega, by omega, fun j hj => ?_⟩
  rw [List.getD_eq_getElem?_getD, List.getElem?_eq_getElem hj]
  exact h3 j (by omega)
theorem takeCode_is (p : ByteArray) (c w t : Int) : takeCode p c w t = [⟨spLabel, 0, 0, 0, p⟩, ⟨spConst, t, 0, 0, spNo⟩, ⟨spConst, t + 1, 1, 0, spNo⟩, ⟨⟨#[99, 97, 115]⟩, c, t, w, spNo⟩, ⟨⟨#[122, 101, 114, 111]⟩, t, 0, 0, p ++ spX⟩, ⟨⟨#[103, 111, 116, 111]⟩, 0, 0, 0, p⟩, ⟨spLabel, 0, 0, 0, p ++ spX⟩] := by
  unfold takeCode numCode
  simp [List.range_succ]
theorem giveCode_is (c w t : Int) : giveCode c w t = [⟨spConst, t, 0, 0, spNo⟩, ⟨⟨#[115, 119, 97, 112]⟩, t, c, w, spNo⟩] := by
  unfold giveCode numCode
  simp [List.range_succ]
theorem nameShort_x {p : ByteArray} (h : nameShort p) : isName (p ++ spX) := by
  obtain ⟨⟨h1, h2, h3⟩, h4⟩ := h
  have hs : (p ++ spX).size = p.size + 1 := by rw [ByteArray.size_append]; rfl
  refine ⟨by omega, by omega, fun j hj => ?_⟩
  by_cases hlt : j < p.size
  · rw [ByteArray.getElem_append_left hlt]
    exact h3 j hlt
  · have : j = p.size := by omega
    subst this
    rw [ByteArray.getElem_append_right (Nat.le_refl _)]
    unfold nameOk
    refine decide_eq_true (.inl ?_)
    simp only [Nat.sub_self]
    exact ⟨(show 97 ≤ 120 by decide), (show 120 ≤ 122 by decide)⟩
theorem fi_no {f : Ins → Bool} {x : Ins} {l : List Ins} (h : f x = false) : List.findIdx? f (x :: l) = (List.findIdx? f l).map (· + 1) := by
  rw [List.findIdx?_cons, h]; rfl
theorem labels_take {p : ByteArray} (c w t : Int) : labelAtB (takeCode p c w t) (bl p) = some 0 ∧ labelAtB (takeCode p c w t) (bl (p ++ spX)) = some 6 := by
  have hne : (bl p == bl (p ++ spX)) = false := by
    rw [beq_eq_false_iff_ne]
    intro e
    have h1 := congrArg List.length e
    rw [← size_bl, ← size_bl, ByteArray.size_append] at h1
    have : spX.size = 1 := rfl
    omega
  rw [takeCode_is]
  unfold labelAtB
  constructor
  · rw [List.findIdx?_cons, if_pos]
    show (true && (bl p == bl p)) = true
    rw [Bool.true_and, beq_iff_eq]
  · have e0 : ¬ ((bl spLabel == [108, 97, 98, 101, 108]) && (bl p == bl (p ++ spX))) = true := by rw [hne, Bool.and_false]; decide
    have e6 : ((bl spLabel == [108, 97, 98, 101, 108]) && (bl (p ++ spX) == bl (p ++ spX))) = true := by
      show (true && (bl (p ++ spX) == bl (p ++ spX))) = true
      rw [Bool.true_and, beq_iff_eq]
    rw [List.findIdx?_cons, if_neg e0, fi_no, fi_no, fi_no, fi_no, fi_no, List.findIdx?_cons, if_pos e6]
    all_goals rfl

theorem good_ins {L : List Ins} {i : Nat} {x : Ins} {S : List UInt8} (hs : shape (bl x.op) = some S) (h1 : shapeGood x S = true) (h2 : bl x.op == [108, 97, 98, 101, 108] → labelAtB L (bl x.to) = some i) (h3 : bl x.to = [] ∨ ∃ j, labelAtB L (bl x.to) = some j) : insFault L i x = 0 := by
  refine insGood_is ?_
  unfold insGood
  rw [hs]
  simp only [Bool.and_eq_true]
  refine ⟨h1, ?_, ?_⟩
  · cases hb : (bl x.op == [108, 97, 98, 101, 108])
    · rfl
    · rw [h2 hb]; simp
  · rcases h3 with e | ⟨j, e⟩
    · rw [e]; rfl
    · rw [e]; simp
theorem shape_nums {x : Ins} {S : List UInt8} (hl : lab ⟨S.toArray⟩ S.length = false) (ht : bl x.to = []) (h : ∀ k, k < 3 → (if k < cnt ⟨S.toArray⟩ S.length then decide (0 ≤ x.n k ∧ x.n k < mostOf (byteAt ⟨S.toArray⟩ k)) else decide (x.n k = 0)) = true) : shapeGood x S = true := by
  unfold shapeGood
  rw [hl, ht]
  simp only [Bool.and_eq_true, List.all_eq_true, List.mem_range]
  exact ⟨⟨rfl, rfl⟩, h⟩
theorem shape_lab {x : Ins} {S : List UInt8} (hl : lab ⟨S.toArray⟩ S.length = true) (ht : isName x.to) (h : ∀ k, k < 3 → (if k < cnt ⟨S.toArray⟩ S.length then decide (0 ≤ x.n k ∧ x.n k < mostOf (byteAt ⟨S.toArray⟩ k)) else decide (x.n k = 0)) = true) : shapeGood x S = true := by
  unfold shapeGood
  rw [hl, nameB_of ht]
  simp only [Bool.and_eq_true, List.all_eq_true, List.mem_range]
  exact ⟨⟨rfl, rfl⟩, h⟩

theorem take_fault {p : ByteArray} {c w t : Int} (h : numsOk c w t) (hn : nameShort p) : codeFault (takeCode p c w t) = (0, -1) := by
  obtain ⟨hc, hw, ht, -, -⟩ := h
  obtain ⟨l1, l2⟩ := labels_take (p := p) c w t
  have hx := nameShort_x hn
  unfold codeFault
  rw [if_neg (by rw [takeCode_is]; show ¬ 2000 < 7; decide)]
  have go : ∀ (k : Nat) x, [(⟨spLabel, 0, 0, 0, p⟩ : Ins), ⟨spConst, t, 0, 0, spNo⟩, ⟨spConst, t + 1, 1, 0, spNo⟩, ⟨⟨#[99, 97, 115]⟩, c, t, w, spNo⟩, ⟨⟨#[122, 101, 114, 111]⟩, t, 0, 0, p ++ spX⟩, ⟨⟨#[103, 111, 116, 111]⟩, 0, 0, 0, p⟩, ⟨spLabel, 0, 0, 0, p ++ spX⟩][k]? = some x → insFault (takeCode p c w t) (0 + k) x = 0 := by
    intro k x hx'
    rw [Nat.zero_add]
    match k, hx' with
    | 0, hx' => cases hx'; exact good_ins (S := [108]) rfl (shape_lab rfl hn.1 (fun k hk => match k, hk with | 0, _ => rfl | 1, _ => rfl | 2, _ => rfl)) (fun _ => l1) (.inr ⟨0, l1⟩)
    | 1, hx' =>
      cases hx'
      refine good_ins (S := [114, 118]) rfl (shape_nums rfl rfl fun k hk => ?_) (fun e => Bool.noConfusion (show false = true from e)) (.inl rfl)
      match k, hk with
      | 0, _ => exact decide_eq_true ⟨ht.1, (show t < 8 by omega)⟩
      | 1, _ => rfl
      | 2, _ => rfl
    | 2, hx' =>
      cases hx'
      refine good_ins (S := [114, 118]) rfl (shape_nums rfl rfl fun k hk => ?_) (fun e => Bool.noConfusion (show false = true from e)) (.inl rfl)
      match k, hk with
      | 0, _ => exact decide_eq_true ⟨(show 0 ≤ t + 1 by omega), (show t + 1 < 8 by omega)⟩
      | 1, _ => rfl
      | 2, _ => rfl
    | 3, hx' =>
      cases hx'
      refine good_ins (S := [114, 115, 119]) rfl (shape_nums rfl rfl fun k hk => ?_) (fun e => Bool.noConfusion (show false = true from e)) (.inl rfl)
      match k, hk with
      | 0, _ => exact decide_eq_true ⟨hc.1, (show c < 8 from hc.2)⟩
      | 1, _ => exact decide_eq_true ⟨ht.1, (show t < 7 from ht.2)⟩
      | 2, _ => exact decide_eq_true ⟨hw.1, (show w < 4 from hw.2)⟩
    | 4, hx' =>
      cases hx'
      refine good_ins (S := [114, 108]) rfl (shape_lab rfl hx fun k hk => ?_) (fun e => Bool.noConfusion (show false = true from e)) (.inr ⟨6, l2⟩)
      match k, hk with
      | 0, _ => exact decide_eq_true ⟨ht.1, (show t < 8 by omega)⟩
      | 1, _ => rfl
      | 2, _ => rfl
    | 5, hx' =>
      cases hx'
      exact good_ins (S := [108]) rfl (shape_lab rfl hn.1 (fun k hk => match k, hk with | 0, _ => rfl | 1, _ => rfl | 2, _ => rfl)) (fun e => Bool.noConfusion (show false = true from e)) (.inr ⟨0, l1⟩)
    | 6, hx' => cases hx'; exact good_ins (S := [108]) rfl (shape_lab rfl hx (fun k hk => match k, hk with | 0, _ => rfl | 1, _ => rfl | 2, _ => rfl)) (fun _ => l2) (.inr ⟨6, l2⟩)
  refine faultFrom_good _ 0 fun k x hk => go k x ?_
  rw [← takeCode_is]; exact hk
theorem give_fault {c w t : Int} (h : numsOk c w t) : codeFault (giveCode c w t) = (0, -1) := by
  obtain ⟨hc, hw, ht, -, -⟩ := h
  unfold codeFault
  rw [if_neg (by rw [giveCode_is]; show ¬ 2000 < 2; decide)]
  refine faultFrom_good _ 0 fun k x hk => ?_
  rw [giveCode_is] at hk
  rw [Nat.zero_add]
  match k, hk with
  | 0, hk =>
    cases hk
    refine good_ins (S := [114, 118]) rfl (shape_nums rfl rfl fun k hk => ?_) (fun e => Bool.noConfusion (show false = true from e)) (.inl rfl)
    match k, hk with
    | 0, _ => exact decide_eq_true ⟨ht.1, (show t < 8 by omega)⟩
    | 1, _ => rfl
    | 2, _ => rfl
  | 1, hk =>
    cases hk
    refine good_ins (S := [114, 114, 119]) rfl (shape_nums rfl rfl fun k hk => ?_) (fun e => Bool.noConfusion (show false = true from e)) (.inl rfl)
    match k, hk with
    | 0, _ => exact decide_eq_true ⟨ht.1, (show t < 8 by omega)⟩
    | 1, _ => exact decide_eq_true ⟨hc.1, (show c < 8 from hc.2)⟩
    | 2, _ => exact decide_eq_true ⟨hw.1, (show w < 4 from hw.2)⟩

def spBars : List ByteArray := [⟨#[97, 108, 108, 111, 99]⟩, ⟨#[102, 114, 101, 101]⟩, ⟨#[109, 97, 114, 107]⟩, ⟨#[110, 101, 101, 100]⟩, ⟨#[115, 116, 111, 112]⟩]
theorem no_bar {op : ByteArray} (h : (spBars.all fun b => !(bl op == bl b)) = true) (k : Nat) (b : ByteArray) (hb : spBars[k]? = some b) : (op.toList == b.toList) = false := by
  have := List.all_eq_true.1 h b (List.mem_of_getElem? hb)
  rw [toList_bl, toList_bl]
  simpa using this
theorem pre_x (p : ByteArray) : p.size ≤ (p ++ spX).size ∧ (((p ++ spX).extract 0 p.size).toList == p.toList) = true := by
  refine ⟨by rw [ByteArray.size_append]; omega, ?_⟩
  rw [beq_iff_eq]
  congr 1
  exact ByteArray.extract_append_eq_left rfl
theorem pre_p (p : ByteArray) : p.size ≤ p.size ∧ ((p.extract 0 p.size).toList == p.toList) = true := by
  refine ⟨Nat.le_refl _, ?_⟩
  rw [beq_iff_eq, ByteArray.extract_zero_size]
theorem take_plain {p : ByteArray} {c w t : Int} (h : numsOk c w t) (hn : nameShort p) : PlainOk (takeCode p c w t) p spBars := by
  refine ⟨by rw [take_fault h hn], fun i x hx => ?_, fun i x hx ht => ?_⟩
  · rw [takeCode_is] at hx
    match i, hx with
    | 0, hx => cases hx; exact no_bar rfl
    | 1, hx => cases hx; exact no_bar rfl
    | 2, hx => cases hx; exact no_bar rfl
    | 3, hx => cases hx; exact no_bar rfl
    | 4, hx => cases hx; exact no_bar rfl
    | 5, hx => cases hx; exact no_bar rfl
    | 6, hx => cases hx; exact no_bar rfl
  · have no : ((spNo.toList == []) = false) → False := fun e => by rw [toList_bl] at e; exact Bool.noConfusion (show true = false from e)
    rw [takeCode_is] at hx
    match i, hx with
    | 0, hx => cases hx; exact pre_p p
    | 1, hx => cases hx; exact (no ht).elim
    | 2, hx => cases hx; exact (no ht).elim
    | 3, hx => cases hx; exact (no ht).elim
    | 4, hx => cases hx; exact pre_x p
    | 5, hx => cases hx; exact pre_p p
    | 6, hx => cases hx; exact pre_x p
theorem give_plain {p : ByteArray} {c w t : Int} (h : numsOk c w t) : PlainOk (giveCode c w t) p spBars := by
  refine ⟨by rw [give_fault h], fun i x hx => ?_, fun i x hx ht => ?_⟩
  · rw [giveCode_is] at hx
    match i, hx with
    | 0, hx => cases hx; exact no_bar rfl
    | 1, hx => cases hx; exact no_bar rfl
  · have no : ((spNo.toList == []) = false) → False := fun e => by rw [toList_bl] at e; exact Bool.noConfusion (show true = false from e)
    rw [giveCode_is] at hx
    match i, hx with
    | 0, hx => cases hx; exact (no ht).elim
    | 1, hx => cases hx; exact (no ht).elim

theorem wt_is (x : Ins) : wtReg x = if (bl x.op == [99, 111, 110, 115, 116]) = true then some x.a else if (bl x.op == [109, 111, 118, 101]) = true then some x.a else if (bl x.op == [97, 100, 100]) = true then some x.a else if (bl x.op == [115, 117, 98]) = true then some x.a else if (bl x.op == [97, 110, 100]) = true then some x.a else if (bl x.op == [120, 111, 114]) = true then some x.a else if (bl x.op == [108, 111, 97, 100]) = true then some x.a else if (bl x.op == [115, 119, 97, 112]) = true then some x.a else if (bl x.op == [97, 108, 108, 111, 99]) = true then some x.a else if (bl x.op == [99, 97, 115]) = true then some x.b else none := by
  unfold wtReg
  rw [toList_bl]
theorem take_wt {p : ByteArray} {c w t : Int} {i : Nat} {x : Ins} {k : Int} (hx : (takeCode p c w t)[i]? = some x) (hk : wtReg x = some k) : k = t ∨ k = t + 1 := by
  rw [takeCode_is] at hx
  rw [wt_is] at hk
  match i, hx with
  | 0, hx => cases hx; cases hk
  | 1, hx => cases hx; cases hk; exact .inl rfl
  | 2, hx => cases hx; cases hk; exact .inr rfl
  | 3, hx => cases hx; cases hk; exact .inl rfl
  | 4, hx => cases hx; cases hk
  | 5, hx => cases hx; cases hk
  | 6, hx => cases hx; cases hk
theorem give_wt {c w t : Int} {i : Nat} {x : Ins} {k : Int} (hx : (giveCode c w t)[i]? = some x) (hk : wtReg x = some k) : k = t ∨ k = t + 1 := by
  rw [giveCode_is] at hx
  rw [wt_is] at hk
  match i, hx with
  | 0, hx => cases hx; cases hk; exact .inl rfl
  | 1, hx => cases hx; cases hk; exact .inl rfl
theorem wtTo_no {l : List Ins} {t : Int} (h : ∀ (i : Nat) x k, l[i]? = some x → wtReg x = some k → k = t ∨ k = t + 1) {k : Nat} (h1 : (k : Int) ≠ t) (h2 : (k : Int) ≠ t + 1) : wtTo l l.length k = false := by
  unfold wtTo
  rw [List.take_length]
  cases hb : l.any fun x => wtReg x == some (k : Int) with
  | false => rfl
  | true =>
    obtain ⟨x, hx, e⟩ := List.any_eq_true.1 hb
    obtain ⟨i, hi, rfl⟩ := List.getElem_of_mem hx
    have := h i _ k (List.getElem?_eq_getElem hi) (by simpa using e)
    omega
end Go.Proofs.YtepgcgokolmedaaDoor

/- RkA -/
namespace Go.Proofs.YtepgcgokolmedaaDoor
open Go.RowKit

def rmarkCell (x : Nat × Int) : List Value := [.int .i64 x.1, .int .i64 x.2]
def rmarkCells (l : List (Nat × Int)) : List Value := l.flatMap rmarkCell
structure RcB (cs : List (List Ins)) (ad : Nat → Option Addr) (B : Nat) (w : World) : Prop where
  ex : ∃ W, (∀ (t : Nat) L, cs[t]? = some L → insAt (ad t) L W) ∧ W.heap.size = B ∧ Below B W w
theorem RcB.code {cs : List (List Ins)} {ad : Nat → Option Addr} {B : Nat} {w : World} (h : RcB cs ad B w) {t : Nat} {L : List Ins} (ht : cs[t]? = some L) : insAt (ad t) L w := by
  obtain ⟨W, h1, rfl, h3⟩ := h.ex
  exact insAt_below (h1 t L ht) h3
theorem RcB.turns {S : Nat → Nat → Prop} {cs : List (List Ins)} {ad : Nat → Option Addr} {B : Nat} {w w' : World} (h : RcB cs ad B w) (t : Turns S w w') (hS : ∀ k o, S k o → B ≤ k) : RcB cs ad B w' := by
  obtain ⟨W, h1, rfl, h3⟩ := h.ex
  exact ⟨W, h1, rfl, h3.trans (t.below h3.size (fun k o hk hs => by have := hS k o hs; omega))⟩
theorem RcB.size {cs : List (List Ins)} {ad : Nat → Option Addr} {B : Nat} {w : World} (h : RcB cs ad B w) : B ≤ w.heap.size := by
  obtain ⟨W, h1, rfl, h3⟩ := h.ex
  exact h3.size

structure RkPl where
  B : Nat
  rp : RmPl
  k : Nat
  tb : Nat
  tcap : Nat
  ad : Nat → Option Addr
  cc : Nat → Nat
  rb : Nat → Nat
  rcap : Nat → Nat
  mv : Value
def RkPl.to (p : RkPl) (r : RmPl) (v : Value) : RkPl := { p with rp := r, mv := v }
def RkPl.fp (p : RkPl) (n : Nat) (s : Rm) (k : Nat) : Prop := k = p.k ∨ k = p.tb ∨ (∃ t, t < n ∧ k = p.rb t) ∨ p.mv.ownBlock = some k ∨ p.rp.fp s k

structure RkAt (cs : List (List Ins)) (p : RkPl) (m : Mk) (w : World) : Prop where
  rc : RcB cs p.ad p.B w
  mem : RmAt p.rp m.mem w
  thr : m.mem.threads = cs.length
  few : cs.length ≤ 6
  tcap : cs.length ≤ p.tcap
  mM : w.cell? ⟨p.k, 0, none⟩ = some (.pointer (some ⟨p.rp.mb, 0, none⟩))
  mT : w.cell? ⟨p.k, 1, none⟩ = some (.slice (some ⟨p.tb, 0, none⟩) cs.length p.tcap)
  mMarks : w.cell? ⟨p.k, 2, none⟩ = some p.mv
  mFaults : w.cell? ⟨p.k, 3, none⟩ = some (.int .i64 m.faults)
  tCode : ∀ (t : Nat) L, cs[t]? = some L → w.cell? ⟨p.tb, t * 3, none⟩ = some (.slice (p.ad t) L.length (p.cc t))
  ccap : ∀ (t : Nat) L, cs[t]? = some L → L.length ≤ p.cc t
  tRegs : ∀ t, t < cs.length → w.cell? ⟨p.tb, t * 3 + 1, none⟩ = some (.slice (some ⟨p.rb t, 0, none⟩) 8 (p.rcap t))
  tAt : ∀ t, t < cs.length → w.cell? ⟨p.tb, t * 3 + 2, none⟩ = some (.int .i64 (m.pc t))
  rcap : ∀ t, t < cs.length → 8 ≤ p.rcap t
  regs : ∀ t r, t < cs.length → r < 8 → w.cell? ⟨p.rb t, r, none⟩ = some (.int .i64 (m.regs t r))
  own : w.ownsRow 0 100 2 p.mv m.marks.length (rmarkCells m.marks)
  fk : ∀ o, w.frozen? ⟨p.k, o, none⟩ = false
  ft : ∀ o, w.frozen? ⟨p.tb, o, none⟩ = false
  fr : ∀ t o, t < cs.length → w.frozen? ⟨p.rb t, o, none⟩ = false
  lt' : p.tb < w.heap.size
  d1 : p.k ≠ p.tb
  d2 : ∀ t, t < cs.length → p.rb t ≠ p.k ∧ p.rb t ≠ p.tb
  d3 : ∀ t u, t < cs.length → u < cs.length → t ≠ u → p.rb t ≠ p.rb u
  d4 : ∀ k, p.mv.ownBlock = some k → k ≠ p.k ∧ k ≠ p.tb ∧ ∀ t, t < cs.length → k ≠ p.rb t
  d5 : ∀ k, p.rp.fp m.mem k → k ≠ p.k ∧ k ≠ p.tb ∧ (∀ t, t < cs.length → k ≠ p.rb t) ∧ p.mv.ownBlock ≠ some k
  ge : ∀ k, p.fp cs.length m.mem k → p.B ≤ k

theorem RkAt.lk {cs : List (List Ins)} {p : RkPl} {m : Mk} {w : World} (h : RkAt cs p m w) : p.k < w.heap.size := World.block_lt_of_cell? _ _ h.mM
theorem RkAt.lr {cs : List (List Ins)} {p : RkPl} {m : Mk} {w : World} (h : RkAt cs p m w) {t : Nat} (ht : t < cs.length) : p.rb t < w.heap.size := World.block_lt_of_cell? _ _ (h.regs t 0 ht (by decide))
theorem RkAt.fp_lt {cs : List (List Ins)} {p : RkPl} {m : Mk} {w : World} (h : RkAt cs p m w) {k : Nat} (hk : p.fp cs.length m.mem k) : k < w.heap.size := by
  rcases hk with rfl | rfl | ⟨t, ht, rfl⟩ | hk | hk
  · exact h.lk
  · exact h.lt'
  · exact h.lr ht
  · exact (h.own.lt k hk).2
  · exact h.mem.fp_lt hk

theorem RkAt.turns {S : Nat → Nat → Prop} {cs : List (List Ins)} {p : RkPl} {m : Mk} {w w' : World} (h : RkAt cs p m w) (t : Turns S w w') (hS : ∀ k o, S k o → ¬ p.fp cs.length m.mem k) (hB : ∀ k o, S k o → p.B ≤ k) : RkAt cs p m w' where
  rc := h.rc.turns t hB
  mem := h.mem.turns t (fun k o hk hs => hS k o hs (.inr (.inr (.inr (.inr hk)))))
  thr := h.thr
  few := h.few
  tcap := h.tcap
  mM := t.keep h.mM (fun hs => hS _ _ hs (.inl rfl))
  mT := t.keep h.mT (fun hs => hS _ _ hs (.inl rfl))
  mMarks := t.keep h.mMarks (fun hs => hS _ _ hs (.inl rfl))
  mFaults := t.keep h.mFaults (fun hs => hS _ _ hs (.inl rfl))
  tCode i L hi := t.keep (h.tCode i L hi) (fun hs => hS _ _ hs (.inr (.inl rfl)))
  ccap := h.ccap
  tRegs i hi := t.keep (h.tRegs i hi) (fun hs => hS _ _ hs (.inr (.inl rfl)))
  tAt i hi := t.keep (h.tAt i hi) (fun hs => hS _ _ hs (.inr (.inl rfl)))
  rcap := h.rcap
  regs i r hi hr := t.keep (h.regs i r hi hr) (fun hs => hS _ _ hs (.inr (.inr (.inl ⟨i, hi, rfl⟩))))
  own := ownsRow_block h.own fun k hk => t.block k (h.own.lt k hk).2 (fun o hs => hS _ _ hs (.inr (.inr (.inr (.inl hk)))))
  fk o := by rw [t.frozen _ _ h.lk (fun hs => hS _ _ hs (.inl rfl))]; exact h.fk o
  ft o := by rw [t.frozen _ _ h.lt' (fun hs => hS _ _ hs (.inr (.inl rfl)))]; exact h.ft o
  fr i o hi := by rw [t.frozen _ _ (h.lr hi) (fun hs => hS _ _ hs (.inr (.inr (.inl ⟨i, hi, rfl⟩))))]; exact h.fr i o hi
  lt' := Nat.lt_of_lt_of_le h.lt' t.size
  d1 := h.d1
  d2 := h.d2
  d3 := h.d3
  d4 := h.d4
  d5 := h.d5
  ge := h.ge
theorem RkAt.below {cs : List (List Ins)} {p : RkPl} {m : Mk} {w w' : World} (h : RkAt cs p m w) (hb : Below w.heap.size w w') : RkAt cs p m w' :=
  h.turns (Turns.of_below (S := fun _ _ => False) hb) (fun _ _ h => h.elim) (fun _ _ h => h.elim)
theorem RkAt.alloc {cs : List (List Ins)} {p : RkPl} {m : Mk} {w : World} (h : RkAt cs p m w) (o : Obj) : RkAt cs p m (w.alloc o) := h.below ((Below.refl _ _).alloc (Nat.le_refl _) _)
theorem RkAt.drewN {cs : List (List Ins)} {p : RkPl} {m : Mk} {w : World} (h : RkAt cs p m w) (n : Nat) : RkAt cs p m (w.drewN n) := h.below (Below.drewN' n)

structure RkStep (cs : List (List Ins)) (p : RkPl) (s : Rm) (w : World) (r : RmPl) (v : Value) (m' : Mk) (w' : World) : Prop where
  at' : RkAt cs (p.to r v) m' w'
  turns : Turns (fun k _ => p.fp cs.length s k) w w'
  fp : ∀ k, (p.to r v).fp cs.length m'.mem k → p.fp cs.length s k ∨ w.heap.size ≤ k
  mb : r.mb = p.rp.mb

theorem RkStep.refl {cs : List (List Ins)} {p : RkPl} {m : Mk} {w : World} (h : RkAt cs p m w) : RkStep cs p m.mem w p.rp p.mv m w := ⟨h, Turns.refl _ _, fun _ h => Or.inl h, rfl⟩
theorem RkStep.of_below' {cs : List (List Ins)} {p : RkPl} {m : Mk} {w w' : World} (h : RkAt cs p m w) (k : Below w.heap.size w w') : RkStep cs p m.mem w p.rp p.mv m w' := ⟨h.below k, Turns.of_below k, fun _ h => Or.inl h, rfl⟩
theorem RkStep.below {cs : List (List Ins)} {p : RkPl} {s : Rm} {r : RmPl} {v : Value} {m : Mk} {w w' w2 : World} (h : RkStep cs p s w r v m w') (k : Below w'.heap.size w' w2) : RkStep cs p s w r v m w2 := ⟨h.at'.below k, h.turns.trans (Turns.of_below k), h.fp, h.mb⟩
theorem RkStep.of_below {cs : List (List Ins)} {p : RkPl} {s : Rm} {r : RmPl} {v : Value} {m : Mk} {w0 w w' : World} (k : Below w0.heap.size w0 w) (h : RkStep cs p s w r v m w') : RkStep cs p s w0 r v m w' :=
  ⟨h.at', (Turns.of_below k).trans h.turns, fun i hi => (h.fp i hi).imp id (fun e => Nat.le_trans k.size e), h.mb⟩
theorem Turns.chain {S S' : Nat → Nat → Prop} {a b c : World} (h : Turns S a b) (k : Turns S' b c) (hs : ∀ i o, S' i o → S i o ∨ a.heap.size ≤ i) : Turns S a c :=
  ⟨k.os.trans h.os, k.tape.trans h.tape, k.output.trans h.output, Nat.le_trans h.size k.size,
    fun i hi ho => (k.block i (Nat.lt_of_lt_of_le hi h.size) (fun o e => by
      rcases hs i o e with e | e
      · exact ho o e
      · omega)).trans (h.block i hi ho),
    fun i o hi ho => (k.cell i o (Nat.lt_of_lt_of_le hi h.size) (fun e => by
      rcases hs i o e with e | e
      · exact ho e
      · omega)).trans (h.cell i o hi ho),
    fun i o hi ho => (k.frozen i o (Nat.lt_of_lt_of_le hi h.size) (fun e => by
      rcases hs i o e with e | e
      · exact ho e
      · omega)).trans (h.frozen i o hi ho)⟩
theorem RkStep.trans {cs : List (List Ins)} {p : RkPl} {s : Rm} {r r2 : RmPl} {v v2 : Value} {m m2 : Mk} {w w' w2 : World} (h : RkStep cs p s w r v m w') (k : RkStep cs (p.to r v) m.mem w' r2 v2 m2 w2) : RkStep cs p s w r2 v2 m2 w2 where
  at' := k.at'
  turns := h.turns.chain k.turns (fun i _ e => h.fp i e)
  fp i hi := by
    rcases k.fp i hi with e | e
    · exact h.fp i e
    · exact Or.inr (Nat.le_trans h.turns.size e)
  mb := k.mb.trans h.mb

theorem RkAt.apart {cs : List (List Ins)} {p : RkPl} {m : Mk} {w : World} (h : RkAt cs p m w) {b o : Nat} {v : Value} (hb : b = p.k ∨ b = p.tb ∨ ∃ t, t < cs.length ∧ b = p.rb t) :
    RcB cs p.ad p.B (w.setCell ⟨b, o, none⟩ v) ∧ RmAt p.rp m.mem (w.setCell ⟨b, o, none⟩ v) ∧ (w.setCell ⟨b, o, none⟩ v).ownsRow 0 100 2 p.mv m.marks.length (rmarkCells m.marks) ∧ Turns (fun k _ => p.fp cs.length m.mem k) w (w.setCell ⟨b, o, none⟩ v) := by
  have hfp : p.fp cs.length m.mem b := by
    rcases hb with e | e | e
    · exact .inl e
    · exact .inr (.inl e)
    · exact .inr (.inr (.inl e))
  have T : Turns (fun k _ => k = b) w (w.setCell ⟨b, o, none⟩ v) := (Turns.refl _ _).setCell _ rfl
  refine ⟨h.rc.turns T (fun k _ e => by rw [e]; exact h.ge b hfp), h.mem.turns T (fun k _ hk e => ?_), ownsRow_block h.own fun k hk => Below.heap_setCell _ _ _ _ (fun e => ?_), (Turns.refl _ _).setCell _ hfp⟩
  · have := h.d5 k hk
    rcases hb with e' | e' | ⟨t, ht, e'⟩
    · exact this.1 (e.trans e')
    · exact this.2.1 (e.trans e')
    · exact this.2.2.1 t ht (e.trans e')
  · have := h.d4 k hk
    rcases hb with e' | e' | ⟨t, ht, e'⟩
    · exact this.1 (e.trans e')
    · exact this.2.1 (e.trans e')
    · exact this.2.2 t ht (e.trans e')

theorem RkAt.setReg {cs : List (List Ins)} {p : RkPl} {m : Mk} {w : World} (h : RkAt cs p m w) {t r : Nat} (ht : t < cs.length) (hr : r < 8) (v : Int) : RkStep cs p m.mem w p.rp p.mv (m.setReg t r v) (w.setCell ⟨p.rb t, r, none⟩ (.int .i64 v)) := by
  obtain ⟨h1, h2, h3, h4⟩ := h.apart (b := p.rb t) (o := r) (v := .int .i64 v) (.inr (.inr ⟨t, ht, rfl⟩))
  have dk := (h.d2 t ht).1
  have dt := (h.d2 t ht).2
  refine ⟨⟨h1, h2, h.thr, h.few, h.tcap, cell_ne h.mM (Or.inl dk.symm), cell_ne h.mT (Or.inl dk.symm), cell_ne h.mMarks (Or.inl dk.symm), cell_ne h.mFaults (Or.inl dk.symm),
    fun i L hi => cell_ne (h.tCode i L hi) (Or.inl dt.symm), h.ccap, fun i hi => cell_ne (h.tRegs i hi) (Or.inl dt.symm), fun i hi => cell_ne (h.tAt i hi) (Or.inl dt.symm), h.rcap, fun i k hi hk => ?_, h3,
    fun o => by rw [World.frozen?_setCell]; exact h.fk o, fun o => by rw [World.frozen?_setCell]; exact h.ft o, fun i o hi => by rw [World.frozen?_setCell]; exact h.fr i o hi, by rw [World.size_setCell]; exact h.lt', h.d1, h.d2, h.d3, h.d4, h.d5, h.ge⟩, h4, fun _ h => Or.inl h, rfl⟩
  simp only [Mk.setReg]
  by_cases e : i = t ∧ k = r
  · rw [if_pos e, e.1, e.2]
    exact World.cell?_setCell_same _ _ _ (h.regs t r ht hr)
  · rw [if_neg e]
    refine cell_ne (h.regs i k hi hk) ?_
    by_cases e1 : i = t
    · exact Or.inr (fun e2 => e ⟨e1, e2⟩)
    · exact Or.inl (h.d3 i t hi ht e1)

theorem RkAt.setPc {cs : List (List Ins)} {p : RkPl} {m : Mk} {w : World} (h : RkAt cs p m w) {t : Nat} (ht : t < cs.length) (n : Nat) : RkStep cs p m.mem w p.rp p.mv (m.setPc t n) (w.setCell ⟨p.tb, t * 3 + 2, none⟩ (.int .i64 n)) := by
  obtain ⟨h1, h2, h3, h4⟩ := h.apart (b := p.tb) (o := t * 3 + 2) (v := .int .i64 n) (.inr (.inl rfl))
  have dk := h.d1
  refine ⟨⟨h1, h2, h.thr, h.few, h.tcap, cell_ne h.mM (Or.inl dk), cell_ne h.mT (Or.inl dk), cell_ne h.mMarks (Or.inl dk), cell_ne h.mFaults (Or.inl dk),
    fun i L hi => cell_ne (h.tCode i L hi) (Or.inr (by omega)), h.ccap, fun i hi => cell_ne (h.tRegs i hi) (Or.inr (by omega)), fun i hi => ?_, h.rcap, fun i k hi hk => cell_ne (h.regs i k hi hk) (Or.inl (h.d2 i hi).2), h3,
    fun o => by rw [World.frozen?_setCell]; exact h.fk o, fun o => by rw [World.frozen?_setCell]; exact h.ft o, fun i o hi => by rw [World.frozen?_setCell]; exact h.fr i o hi, by rw [World.size_setCell]; exact h.lt', h.d1, h.d2, h.d3, h.d4, h.d5, h.ge⟩, h4, fun _ h => Or.inl h, rfl⟩
  simp only [Mk.setPc]
  by_cases e : i = t
  · rw [if_pos e, e]
    exact World.cell?_setCell_same _ _ _ (h.tAt t ht)
  · rw [if_neg e]
    exact cell_ne (h.tAt i hi) (Or.inr (by omega))

theorem RkAt.addFault {cs : List (List Ins)} {p : RkPl} {m : Mk} {w : World} (h : RkAt cs p m w) (n : Nat) : RkStep cs p m.mem w p.rp p.mv (m.addFault n) (w.setCell ⟨p.k, 3, none⟩ (.int .i64 ((m.faults + n : Nat) : Int))) := by
  obtain ⟨h1, h2, h3, h4⟩ := h.apart (b := p.k) (o := 3) (v := .int .i64 ((m.faults + n : Nat) : Int)) (.inl rfl)
  have dk := h.d1
  exact ⟨⟨h1, h2, h.thr, h.few, h.tcap, cell_ne h.mM (Or.inr (by decide)), cell_ne h.mT (Or.inr (by decide)), cell_ne h.mMarks (Or.inr (by decide)), World.cell?_setCell_same _ _ _ h.mFaults,
    fun i L hi => cell_ne (h.tCode i L hi) (Or.inl dk.symm), h.ccap, fun i hi => cell_ne (h.tRegs i hi) (Or.inl dk.symm), fun i hi => cell_ne (h.tAt i hi) (Or.inl dk.symm), h.rcap, fun i k hi hk => cell_ne (h.regs i k hi hk) (Or.inl (h.d2 i hi).1), h3,
    fun o => by rw [World.frozen?_setCell]; exact h.fk o, fun o => by rw [World.frozen?_setCell]; exact h.ft o, fun i o hi => by rw [World.frozen?_setCell]; exact h.fr i o hi, by rw [World.size_setCell]; exact h.lt', h.d1, h.d2, h.d3, h.d4, h.d5, h.ge⟩, h4, fun _ h => Or.inl h, rfl⟩

end Go.Proofs.YtepgcgokolmedaaDoor

/- RkE -/
namespace Go.Proofs.YtepgcgokolmedaaDoor
open Go.RowKit

structure RkX (cs : List (List Ins)) (p : RkPl) (m : Mk) (K : Nat) (w : World) : Prop where
  at' : RkAt cs p m w
  ok : MkOk cs.length K m
  right : Right cs
  hK : K ≤ 10000000
theorem RkX.below {cs : List (List Ins)} {p : RkPl} {m : Mk} {K : Nat} {w w' : World} (h : RkX cs p m K w) (hb : Below w.heap.size w w') : RkX cs p m K w' := ⟨h.at'.below hb, h.ok, h.right, h.hK⟩
theorem RkX.faults {cs : List (List Ins)} {p : RkPl} {m : Mk} {K : Nat} {w : World} (h : RkX cs p m K w) : m.faults ≤ 900000000 := by have := h.ok.faults; have := h.hK; omega
theorem RkX.waits {cs : List (List Ins)} {p : RkPl} {m : Mk} {K : Nat} {w : World} (h : RkX cs p m K w) {t : Nat} (ht : t < cs.length) : ∀ x ∈ m.mem.waits t, x.Ok := h.ok.mem.ok t (by rw [h.ok.thr]; exact ht)
theorem RkX.few {cs : List (List Ins)} {p : RkPl} {m : Mk} {K : Nat} {w : World} (h : RkX cs p m K w) {t : Nat} (ht : t < cs.length) : (m.mem.waits t).length ≤ 8 := h.ok.mem.few t (by rw [h.ok.thr]; exact ht)

structure Stg (cs : List (List Ins)) (p : RkPl) (s : Rm) (w0 : World) (bx : Nat) (r : RmPl) (v : Value) (m : Mk) (W : World) : Prop where
  step : RkStep cs p s w0 r v m W
  ge : w0.heap.size ≤ bx
  nfp : ¬ (p.to r v).fp cs.length m.mem bx
  lt : bx < W.heap.size

section
variable {cs : List (List Ins)} {p : RkPl} {s : Rm} {w0 : World} {bx : Nat} {r r2 : RmPl} {v v2 : Value} {m m2 : Mk} {W W' : World}
theorem Stg.below (h : Stg cs p s w0 bx r v m W) (k : Below W.heap.size W W') : Stg cs p s w0 bx r v m W' := ⟨h.step.below k, h.ge, h.nfp, Nat.lt_of_lt_of_le h.lt k.size⟩
theorem Stg.trans (h : Stg cs p s w0 bx r v m W) (k : RkStep cs (p.to r v) m.mem W r2 v2 m2 W') : Stg cs p s w0 bx r2 v2 m2 W' := ⟨h.step.trans k, h.ge, fun e => by
  rcases k.fp bx e with e | e
  · exact h.nfp e
  · have := h.lt; omega, Nat.lt_of_lt_of_le h.lt k.turns.size⟩
theorem Stg.first (h : RkAt cs p m w0) (k : Below w0.heap.size w0 W) (hb : w0.heap.size ≤ bx) (hl : bx < W.heap.size) : Stg cs p m.mem w0 bx p.rp p.mv m W := ⟨RkStep.of_below' h k, hb, fun e => by have := h.fp_lt e; omega, hl⟩
theorem Stg.other {bx' : Nat} (h : Stg cs p s w0 bx r v m W) (hl : W.heap.size ≤ bx') (k : Below W.heap.size W W') (h2 : bx' < W'.heap.size) : Stg cs p s w0 bx' r v m W' := ⟨h.step.below k, by have := h.step.turns.size; omega, fun e => by have := h.step.at'.fp_lt e; omega, h2⟩
theorem Stg.keep (h : Stg cs p s w0 bx r v m W) (k : RkStep cs (p.to r v) m.mem W r2 v2 m2 W') {o : Nat} {u : Value} (hc : W.cell? ⟨bx, o, none⟩ = some u) : W'.cell? ⟨bx, o, none⟩ = some u := k.turns.keep hc h.nfp
theorem Stg.ne (h : Stg cs p s w0 bx r v m W) : bx ≠ p.k ∧ bx ≠ p.tb ∧ (∀ t, t < cs.length → bx ≠ p.rb t) := ⟨fun e => h.nfp (.inl e), fun e => h.nfp (.inr (.inl e)), fun t ht e => h.nfp (.inr (.inr (.inl ⟨t, ht, e⟩)))⟩
end
end Go.Proofs.YtepgcgokolmedaaDoor
