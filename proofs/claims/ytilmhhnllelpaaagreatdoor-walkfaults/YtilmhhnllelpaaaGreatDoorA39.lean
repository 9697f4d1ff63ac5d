import Derived.Test.YtilmhhnllelpaaaGreatDoorA12
import Derived.Test.YtilmhhnllelpaaaGreatDoorA38
import Derived.Test.YtilmhhnllelpaaaGreatDoorA28
import Derived.Test.YtilmhhnllelpaaaGreatDoorA29

/- SpL -/
namespace Go.Proofs.YtilmhhnllelpaaaGreatDoor
open Go.RowKit

def labelAtB (l : List Ins) (to : List UInt8) : Option Nat := l.findIdx? (fun x => (bl x.op == [108, 97, 98, 101, 108]) && (bl x.to == to))
theorem labelAt_B (l : List Ins) (to : ByteArray) : labelAt l to = match labelAtB l (bl to) with
    | some j => (j : Int)
    | none => -1 := by
  unfold labelAt labelAtB
  rw [show (fun x => setsLabel x to) = (fun x => (bl x.op == [108, 97, 98, 101, 108]) && (bl x.to == bl to)) from funext fun x => by unfold setsLabel; rw [toList_bl, toList_bl, toList_bl]]
  rfl
def nameB (l : List UInt8) : Bool := decide (1 ≤ l.length) && (decide (l.length ≤ 12) && (List.range l.length).all fun j => nameOk j (l.getD j 0).toNat)
theorem nameB_is {s : ByteArray} (h : nameB (bl s) = true) : isName s := by
  unfold nameB at h
  simp only [Bool.and_eq_true, decide_eq_true_eq, List.all_eq_true, List.mem_range] at h
  obtain ⟨h1, h2, h3⟩ := h
  have hz : s.size = (bl s).length := size_bl s
  refine ⟨by omega, by omega, fun j hj => ?_⟩
  have := h3 j (by omega)
  rw [List.getD_eq_getElem?_getD, List.getElem?_eq_getElem (by omega)] at this
  exact this
def shapeGood (x : Ins) (l : List UInt8) : Bool :=
  ((lab ⟨l.toArray⟩ l.length || (bl x.to == [])) && (!(lab ⟨l.toArray⟩ l.length) || nameB (bl x.to))) &&
  (List.range 3).all fun k => if k < cnt ⟨l.toArray⟩ l.length then decide (0 ≤ x.n k ∧ x.n k < mostOf (byteAt ⟨l.toArray⟩ k)) else decide (x.n k = 0)
def insGood (L : List Ins) (i : Nat) (x : Ins) : Bool := match shape (bl x.op) with
  | none => false
  | some l => shapeGood x l && ((!(bl x.op == [108, 97, 98, 101, 108]) || labelAtB L (bl x.to) == some i) && ((bl x.to == []) || (labelAtB L (bl x.to)).isSome))
theorem insGood_is {L : List Ins} {i : Nat} {x : Ins} (h : insGood L i x = true) : insFault L i x = 0 := by
  unfold insGood at h
  cases hs : shape (bl x.op) with
  | none => rw [hs] at h; cases h
  | some l =>
    rw [hs] at h
    simp only [Bool.and_eq_true] at h
    obtain ⟨h1, h2, h3⟩ := h
    unfold shapeGood at h1
    simp only [Bool.and_eq_true, List.all_eq_true, List.mem_range] at h1
    obtain ⟨⟨g1, g2⟩, g3⟩ := h1
    have hsz : (⟨l.toArray⟩ : ByteArray).size = l.length := by simp [ByteArray.size]
    have he : insErr x = 0 := by
      unfold insErr
      rw [toList_bl, hs]
      show insBad x ⟨l.toArray⟩ = 0
      unfold insBad
      rw [hsz, if_neg, if_neg, if_neg, if_neg]
      · rintro ⟨e1, e2⟩
        rw [e1] at g2
        exact e2 (nameB_is (by simpa using g2))
      · rintro ⟨k, hk, e⟩
        have := cnt_le ⟨l.toArray⟩ l.length
        have hl := shape_le hs
        have g := g3 k (by omega)
        rw [if_pos hk] at g
        exact e (by simpa using g)
      · rintro ⟨k, hk, hk3, e⟩
        have g := g3 k hk3
        rw [if_neg (by omega)] at g
        exact e (by simpa using g)
      · rintro ⟨e1, e2⟩
        rw [e1, Bool.false_or] at g1
        rw [toList_bl] at e2
        exact e2 (by simpa using g1)
    unfold insFault
    rw [if_neg (by rw [he]; simp), if_neg, if_neg]
    · rintro ⟨e1, e2⟩
      rw [toList_bl] at e1
      rw [e1, Bool.false_or] at h3
      rw [labelAt_B] at e2
      cases hb : labelAtB L (bl x.to) with
      | none => rw [hb] at h3; cases h3
      | some j => rw [hb] at e2; exact absurd e2 (by simp)
    · rintro ⟨e1, e2⟩
      rw [toList_bl] at e1
      rw [e1, Bool.not_true, Bool.false_or] at h2
      rw [labelAt_B, show labelAtB L (bl x.to) = some i by simpa using h2] at e2
      exact e2 rfl
def codeGood (L : List Ins) : Bool := decide (L.length ≤ 2000) && (List.range L.length).all fun i => match L[i]? with
  | none => true
  | some x => insGood L i x
theorem faultFrom_good {L : List Ins} : ∀ (r : List Ins) (j : Nat), (∀ (k : Nat) x, r[k]? = some x → insFault L (j + k) x = 0) → faultFrom L j r = (0, -1)
  | [], _, _ => rfl
  | y :: r, j, h => by
    unfold faultFrom
    rw [if_pos (by simpa using h 0 y rfl)]
    exact faultFrom_good r (j + 1) (fun k x hx => by rw [show j + 1 + k = j + (k + 1) by omega]; exact h (k + 1) x (by simpa using hx))
theorem codeGood_is {L : List Ins} (h : codeGood L = true) : codeFault L = (0, -1) := by
  unfold codeGood at h
  simp only [Bool.and_eq_true, decide_eq_true_eq, List.all_eq_true, List.mem_range] at h
  obtain ⟨h1, h2⟩ := h
  unfold codeFault
  rw [if_neg (by omega)]
  refine faultFrom_good L 0 fun k x hx => insGood_is ?_
  have := h2 k (List.getElem?_eq_some_iff.1 hx).1
  rw [hx] at this
  rw [Nat.zero_add]; exact this
end Go.Proofs.YtilmhhnllelpaaaGreatDoor

/- WlC -/
namespace Go.Proofs.YtilmhhnllelpaaaGreatDoor
open Go.RowKit Go.Extern.Stop Go.Stop Go.Extern Go.Maps Go.WideMaps Go.Sort

def wIns : Ins := ⟨⟨#[99, 111, 110, 115, 116]⟩, 0, 7, 0, ⟨#[]⟩⟩
def wSta : Sta := ⟨1, [], []⟩
def wM0 : Mk := wSta.mach 1
def wM1 : Mk := (wM0.setPc 0 1).setReg 0 0 7
theorem wGood : codeFault [wIns] = (0, -1) := codeGood_is (by decide +kernel)
theorem wFault : (wSta.fault [[wIns]]).1 = 0 := by
  unfold Sta.fault
  rw [if_pos ⟨by decide, by decide, by decide, by decide, by decide⟩]
  rw [codesFrom_none _ 0 fun t L ht => ?_]
  cases t with
  | zero => cases ht; rw [wGood]
  | succ t => cases ht
theorem wDone0 : doneAt [wIns] 0 = false := by
  show (wIns.op.toList == [115, 116, 111, 112]) = false
  rw [toList_bl]; rfl
theorem wTurn0 : wM0.turnO [[wIns]] ((0 : Nat) : Int) = (0, wM1) := by
  show (if doneAt [wIns] 0 = true then (9, wM0) else (0, wM0.step [wIns] 0)) = _
  rw [wDone0, if_neg (by decide)]
  show (0, (wM0.setPc 0 1).exec [wIns] 0 wIns) = _
  rw [exec_const _ _ _ rfl]
  rfl
theorem wTurn1 : wM0.turnO [[wIns]] ((1 : Nat) : Int) = (5, wM0) := rfl
theorem wTurn2 : wM1.turnO [[wIns]] ((0 : Nat) : Int) = (9, wM1) := rfl
theorem wTurn3 : wM1.turnO [[wIns]] ((1 : Nat) : Int) = (5, wM1) := rfl
theorem wNums0 : mkNums 1 wM0 = [0, 0, 0, 0, 0, 0, 0, 0, 0, 0, 0] := rfl
theorem wNums1 : mkNums 1 wM1 = [0, 0, 7, 0, 0, 0, 0, 0, 0, 0, 1] := rfl
theorem wKey : keyOf 1 wM1 ≠ keyOf 1 wM0 := fun e => by
  have := keyOf_inj (by rw [wNums1]; decide) (by rw [wNums0]; decide) e
  rw [wNums0, wNums1] at this
  exact absurd this (by decide)
def wS2 : Sp := ⟨[(keyOf 1 wM0, (ByteArray.empty, 0)), (keyOf 1 wM1, (keyOf 1 wM0, 0))], [], 2, 1⟩
theorem wEnd0 : endTo [[wIns]] wM0 1 = false := by
  show (doneAt [wIns] 0 && true && true) = false
  rw [wDone0]; rfl
theorem wEnd1 : endTo [[wIns]] wM1 1 = true := rfl
theorem wSpread0 : spreadO [[wIns]] 5 wM0 2 0 ⟨[(keyOf 1 wM0, (ByteArray.empty, 0))], [], 1, 0⟩ = (.go, { wS2 with ms := [wM1] }) := by
  rw [spreadO_add (by rw [wTurn0]; decide) (by rw [wTurn0]; decide), wTurn0]
  have e : addO [[wIns]] 5 ⟨[(keyOf 1 wM0, (ByteArray.empty, 0))], [], 1, 0⟩ wM1 (keyOf 1 wM0, ((0 : Nat) : Int)) = some { wS2 with ms := [wM1] } := by
    have hk : keyIn [(keyOf 1 wM0, (ByteArray.empty, (0 : Int)))] (keyOf 1 wM1) = false := by
      unfold keyIn
      rw [List.any_cons, List.any_nil, Bool.or_false, beq_eq_false_iff_ne, toList_bl, toList_bl]
      exact fun e => wKey (bl_inj e).symm
    unfold addO
    show (if keyIn [(keyOf 1 wM0, (ByteArray.empty, (0 : Int)))] (keyOf 1 wM1) = true then some _ else if ((1 : Nat) : Int) = 5 then none else some (Sp.mk _ _ _ (endN 0 (endTo [[wIns]] wM1 1)))) = _
    rw [hk, if_neg (by decide), if_neg (by decide), wEnd1]
    rfl
  show (match addO [[wIns]] 5 ⟨[(keyOf 1 wM0, (ByteArray.empty, 0))], [], 1, 0⟩ wM1 (keyOf 1 wM0, ((0 : Nat) : Int)) with | none => (SpEnd.bound, _) | some S' => spreadO [[wIns]] 5 wM0 1 1 S') = _
  rw [e]
  show spreadO [[wIns]] 5 wM0 1 1 _ = _
  rw [spreadO_err (by rw [wTurn1]; decide)]
  rfl
theorem wSpread1 : spreadO [[wIns]] 5 wM1 2 0 wS2 = (.go, wS2) := by
  rw [spreadO_err (by rw [wTurn2]; decide), spreadO_err (by rw [wTurn3]; decide)]
  rfl
theorem wFirst : firstS [[wIns]] wM0 = ⟨[(keyOf 1 wM0, (ByteArray.empty, 0))], [wM0], 1, 0⟩ := by
  unfold firstS
  rw [show endTo [[wIns]] wM0 ([[wIns]] : List (List Ins)).length = false from wEnd0]
  rfl
theorem wSearch (f : Nat) : (f < 2 ∧ ∃ S, searchO [[wIns]] 5 2 f (firstS [[wIns]] wM0) = (.go, S) ∧ S.ms ≠ []) ∨ searchO [[wIns]] 5 2 f (firstS [[wIns]] wM0) = (.go, wS2) := by
  have h1 : ∀ f, searchO [[wIns]] 5 2 (f + 1) (firstS [[wIns]] wM0) = searchO [[wIns]] 5 2 f { wS2 with ms := [wM1] } := fun f => by
    rw [searchO_cons (m := wM0) (l := []) (by rw [wFirst]), wFirst]
    show (match spreadO [[wIns]] 5 wM0 2 0 ⟨[(keyOf 1 wM0, (ByteArray.empty, 0))], [], 1, 0⟩ with | (.go, S') => searchO [[wIns]] 5 2 f S' | r => r) = _
    rw [wSpread0]
  have h2 : ∀ f, searchO [[wIns]] 5 2 (f + 1) { wS2 with ms := [wM1] } = searchO [[wIns]] 5 2 f wS2 := fun f => by
    rw [searchO_cons (m := wM1) (l := []) rfl]
    show (match spreadO [[wIns]] 5 wM1 2 0 wS2 with | (.go, S') => searchO [[wIns]] 5 2 f S' | r => r) = _
    rw [wSpread1]
  match f with
  | 0 => exact .inl ⟨by decide, _, rfl, by rw [wFirst]; simp⟩
  | 1 => exact .inl ⟨by decide, { wS2 with ms := [wM1] }, by rw [h1]; rfl, by simp⟩
  | f + 2 =>
    refine .inr ?_
    rw [h1, h2]
    cases f <;> rfl
theorem wAll {a : Nat → Addr} {w w' : World} {e : Ending} (h : AllPost a [[wIns]] wM0 5 w e w') : Below w.heap.size w w' ∧ e = .returned (.tuple #[toldV 2 1 false (.slice none 0 0), .nilIface]) := by
  obtain ⟨hb, f, S, h⟩ := h
  refine ⟨hb, ?_⟩
  rcases h with ⟨h1, h2, h3⟩ | ⟨h1, -⟩ | ⟨x, l, h1, -⟩
  · have h1 : searchO [[wIns]] 5 2 f (firstS [[wIns]] wM0) = (.go, S) := h1
    rcases wSearch f with ⟨-, S', g1, g2⟩ | g1
    · rw [g1] at h1; cases h1; exact absurd h2 g2
    · rw [g1] at h1; cases h1; exact h3
  · have h1 : searchO [[wIns]] 5 2 f (firstS [[wIns]] wM0) = (.bound, S) := h1
    rcases wSearch f with ⟨-, S', g1, g2⟩ | g1
    · rw [g1] at h1; cases h1
    · rw [g1] at h1; cases h1
  · have h1 : searchO [[wIns]] 5 2 f (firstS [[wIns]] wM0) = (.fault x, S) := h1
    rcases wSearch f with ⟨-, S', g1, g2⟩ | g1
    · rw [g1] at h1; cases h1
    · rw [g1] at h1; cases h1

theorem wIns_at (w : World) : insAt (some ⟨w.heap.size, 0, none⟩) [wIns] (w.alloc (.cells #[.string ⟨#[99, 111, 110, 115, 116]⟩, .int .i64 0, .int .i64 7, .int .i64 0, .string ⟨#[]⟩] 44)) := by
  intro i x hx
  cases i with
  | zero =>
    cases hx
    refine ⟨w.heap.size, 0, rfl, ?_, ?_, ?_, ?_, ?_⟩ <;> (rw [World.cell?_alloc_new]; rfl)
  | succ i => cases hx
theorem wCodes (w : World) (B : Obj) (hB : B = .cells #[.slice (some ⟨w.heap.size, 0, none⟩) 1 1] 45) : codesAt (some ⟨w.heap.size + 1, 0, none⟩) [[wIns]] ((w.alloc (.cells #[.string ⟨#[99, 111, 110, 115, 116]⟩, .int .i64 0, .int .i64 7, .int .i64 0, .string ⟨#[]⟩] 44)).alloc B) := by
  subst hB
  intro t L ht
  cases t with
  | zero =>
    cases ht
    refine ⟨w.heap.size + 1, 0, some ⟨w.heap.size, 0, none⟩, 1, rfl, ?_, Nat.le_refl _, insAt_below (wIns_at w) ((Below.refl _ _).alloc (Nat.le_refl _) _), fun e => by cases e⟩
    have := World.cell?_alloc_new (w.alloc (.cells #[.string ⟨#[99, 111, 110, 115, 116]⟩, .int .i64 0, .int .i64 7, .int .i64 0, .string ⟨#[]⟩] 44)) #[.slice (some ⟨w.heap.size, 0, none⟩) 1 1] 45 0
    rw [World.size_alloc] at this
    exact this
  | succ t => cases ht

set_option maxRecDepth 100000 in
set_option maxHeartbeats 2000000 in
theorem ways_any {a : Nat → Addr} {w : World} (hE : Env a w) : Calls Tryz.prog 5 #[] w fun e w' => e = .returned (.bool true) ∧ Below w.heap.size w w' := by
  obtain ⟨W2, hW2⟩ : ∃ W2, W2 = (w.alloc (.cells #[.string ⟨#[99, 111, 110, 115, 116]⟩, .int .i64 0, .int .i64 7, .int .i64 0, .string ⟨#[]⟩] 44)).alloc (.cells #[.slice (some ⟨w.heap.size, 0, none⟩) 1 1] 45) := ⟨_, rfl⟩
  have b2 : Below w.heap.size w W2 := by rw [hW2]; exact ((Below.refl _ _).alloc (Nat.le_refl _) _).alloc (by simp) _
  have hs : StaAt wSta ⟨none, 0, none, 0⟩ W2 := ⟨fun i row h => by simp [wSta] at h, fun i row h => by simp [wSta] at h, Nat.le_refl _, Nat.le_refl _, Nat.zero_le _, Nat.zero_le _, fun i row h => by simp [wSta] at h, fun i row h => by simp [wSta] at h⟩
  have HA := hide (all_search (s := wSta) (ai := none) (ar := none) (ci := 0) (cr := 0) (ad := some ⟨w.heap.size + 1, 0, none⟩) (cap := 1) (cs := [[wIns]]) (w := W2) 5 (hE.below b2.block) hs (by rw [hW2]; exact wCodes w _ rfl) (fun t L ht i x hx => by
    match t, ht with
    | 0, ht =>
      cases ht
      match i, hx with
      | 0, hx => cases hx; decide
      | n + 1, hx => simp at hx) wFault (by decide))
  clear hE hs
  go_enter Tryz.func5, Tryz.ntmps5
  go_wp2_with fail
  rw [← hW2]
  clear hW2
  refine HA.out.mono ?_
  rintro e w3 hp
  obtain ⟨hb3, rfl⟩ := wAll hp.out
  have hb := below_step b2 hb3
  clear HA hp hb3 b2
  unfold toldV
  go_wp2_with fail
  go_ret
  exact ⟨rfl, hb.alloc hb.size _⟩
end Go.Proofs.YtilmhhnllelpaaaGreatDoor

/- WlD -/
namespace Go.Proofs.YtilmhhnllelpaaaGreatDoor
open Go.RowKit Go.Extern.Stop Go.Stop Go.Extern Go.Maps Go.WideMaps Go.Sort

theorem numsAt_front {ad : Option Addr} {l r : List Int} {w : World} (h : numsAt ad (l ++ r) w) : numsAt ad l w := fun i x hx => h i x (by rw [List.getElem?_append_left (List.getElem?_eq_some_iff.1 hx).1]; exact hx)
theorem numsAt_last {b off : Nat} {l : List Int} {n : Int} {w : World} (h : numsAt (some ⟨b, off, none⟩) (l ++ [n]) w) : numsAt (some ⟨b, off + l.length, none⟩) [n] w := fun i x hx => by
  have hi : i = 0 := by
    have := (List.getElem?_eq_some_iff.1 hx).1
    have : i < 1 := this
    omega
  subst hi
  obtain rfl : n = x := by simpa using hx
  obtain ⟨b', off', e, hc⟩ := h l.length n (by simp)
  cases e
  exact ⟨b, off + l.length, rfl, hc⟩

theorem Sta.mach_ln (s : Sta) (n : Nat) : LnOk (s.mach n).mem := fun t x hx => by
  have e : (s.mach n).mem.waits t = [] := rfl
  rw [e] at hx; cases hx

theorem all_go {s : Sta} {cs : List (List Ins)} {f : Nat} {S : Sp} {mo : Int} (hR : Right cs) (hgood : (s.fault cs).1 = 0) (hmo : 1 ≤ mo ∧ mo ≤ 60000) (h : searchO cs mo (2 * cs.length) f (firstS cs (s.mach cs.length)) = (.go, S)) (hm : S.ms = []) (l : List Int) : ((s.mach cs.length).runO cs l).2.faults = 0 := by
  obtain ⟨f1, f2, f3, f4⟩ := Sta.fault_fits hgood
  exact told_go (K := 1) (Sta.mach_ok f1 f2 f3) (Sta.mach_ln _ _) (Sta.mach_given _ _) hR rfl hmo (by decide) h hm l
theorem all_way {s : Sta} {cs : List (List Ins)} {f : Nat} {S : Sp} {mo : Int} {x : ByteArray × Int} {l : List Int} (hR : Right cs) (hgood : (s.fault cs).1 = 0) (hmo : 1 ≤ mo ∧ mo ≤ 60000) (h : searchO cs mo (2 * cs.length) f (firstS cs (s.mach cs.length)) = (.fault x, S)) (hb : Back S.E x l) :
    ∃ (n : Int) (L : List Int), l.reverse = L ++ [n] ∧ (L.length : Int) < mo ∧ ((s.mach cs.length).runO cs L).1 = L.length ∧ ((s.mach cs.length).runO cs L).2.faults = 0 ∧ (((s.mach cs.length).runO cs L).2.runO cs [n]).1 = 1 ∧ 0 < (((s.mach cs.length).runO cs L).2.runO cs [n]).2.faults := by
  obtain ⟨f1, f2, f3, f4⟩ := Sta.fault_fits hgood
  exact told_fault (K := 1) (Sta.mach_ok f1 f2 f3) (Sta.mach_ln _ _) hR rfl hmo (by decide) h hb

set_option maxRecDepth 100000 in
set_option maxHeartbeats 4000000 in
theorem wfaults_any {a : Nat → Addr} {s : Sta} {ai ar ad ada : Option Addr} {ci cr cap capa : Nat} {cs : List (List Ins)} {la : List Int} {w : World} (hE : Env a w) (hs : StaAt s ⟨ai, ci, ar, cr⟩ w) (hl : codesAt ad cs w) (hsz : ∀ (t : Nat) L, cs[t]? = some L → ∀ (i : Nat) x, L[i]? = some x → x.to.size ≤ maxLen)
    (hc : cs.length ≤ 9223372036854775807) (hL : ∀ (t : Nat) L, cs[t]? = some L → L.length ≤ 9223372036854775807) (na : NumsX ada la capa w) :
    Calls Tryz.prog 3 #[.agg #[.int .i64 s.cells, .slice ai s.init.length ci, .slice ar s.regs.length cr], .slice ad cs.length cap, .slice ada la.length capa] w fun e w' => e = .returned (.bool true) ∧ Below w.heap.size w w' := by
  obtain ⟨w1, hw1⟩ : ∃ w1, w1 = w.alloc (.cells #[.int .i64 s.cells, .slice ai s.init.length ci, .slice ar s.regs.length cr] 24) := ⟨_, rfl⟩
  have b1 : Below w.heap.size w w1 := by rw [hw1]; exact (Below.refl _ _).alloc (Nat.le_refl _) _
  have e0 : w1.cell? ⟨w.heap.size, 0, none⟩ = some (.int .i64 s.cells) := by rw [hw1]; simp
  have e1 : w1.cell? ⟨w.heap.size, 1, none⟩ = some (.slice ai s.init.length ci) := by rw [hw1]; simp
  have e2 : w1.cell? ⟨w.heap.size, 2, none⟩ = some (.slice ar s.regs.length cr) := by rw [hw1]; simp
  have HO := hide (ways_any (hE.below b1.block))
  have HV := hide (fun w' (hb : Below w1.heap.size w1 w') => vast_any (cap := cap) ((hs.below b1).below hb) ((hl.below b1).below hb) hc hL)
  have HS := hide (fun (w' : World) => startOf_any (s := s) (ai := ai) (ar := ar) (ci := ci) (cr := cr) w')
  have HN := hide (fun w' (hb : Below w1.heap.size w1 w') => new_any (cap := cap) ((hE.below b1.block).below hb.block) ((hs.below b1).below hb) ((hl.below b1).below hb) hsz)
  have HA := hide (fun w' (hb : Below w1.heap.size w1 w') (hg : (s.fault cs).1 = 0) => all_search (cap := cap) 500 ((hE.below b1.block).below hb.block) ((hs.below b1).below hb) ((hl.below b1).below hb) hsz hg (by decide))
  have HB := hide (fun w' (hb : Below w1.heap.size w1 w') (hg : (s.fault cs).1 ≠ 0) => all_bad (cap := cap) 500 ((hE.below b1.block).below hb.block) ((hs.below b1).below hb) ((hl.below b1).below hb) hsz hg)
  have NA := hide (na.below b1)
  have la2 : (la.length : Int) ≤ 9223372036854775807 := by have := na.len; omega
  clear hE hs hl hsz hL na
  go_enter Tryz.func3, Tryz.ntmps3
  go_wp2_with fail
  rw [← hw1]
  clear hw1
  refine HO.out.mono ?_
  rintro e w2 ⟨rfl, hb2⟩
  replace e0 := keep_cell hb2 e0
  replace e1 := keep_cell hb2 e1
  replace e2 := keep_cell hb2 e2
  have HV2 := hide (HV.out w2 hb2)
  clear HO HV
  go_wp2_with fail
  refine HV2.out.mono ?_
  rintro e w3 ⟨v, hv, rfl, hb3⟩
  have B3 := below_step hb2 hb3
  replace e0 := keep_cell hb3 e0
  replace e1 := keep_cell hb3 e1
  replace e2 := keep_cell hb3 e2
  clear HV2 hb2 hb3
  rcases hv.out with rfl | rfl
  rotate_left
  · go_wp2
    go_ret
    exact ⟨rfl, below_step b1 B3⟩
  by_cases ha : (300 : Int) < la.length
  · go_wp2
    go_ret
    exact ⟨rfl, below_step b1 B3⟩
  go_wp2_with fail
  refine (HS.out w3).mono ?_
  rintro e w4 ⟨rfl, hb4⟩
  have B4 := below_step B3 hb4
  replace e0 := keep_cell hb4 e0
  replace e1 := keep_cell hb4 e1
  replace e2 := keep_cell hb4 e2
  by_cases hgood : (s.fault cs).1 = 0
  rotate_left
  · have HB4 := hide (HB.out w4 B4 hgood)
    clear HA HB HN HS hb4 B3 e0 e1 e2 NA
    go_wp2_with fail
    refine HB4.out.mono ?_
    rintro e w5 ⟨hb5, v, rfl, hv⟩
    have HBW := hide (below_step b1 (below_step B4 hb5))
    clear HB4 hb5 B4 b1
    unfold toldV
    rcases hv with ⟨h, -⟩ | ⟨-, -, rfl⟩ | ⟨-, j2, N2, -, -, rfl, -, -⟩
    · exact absurd h hgood
    · obtain ⟨k, hk⟩ : ∃ k, (s.fault cs).1 = k + 1 := ⟨(s.fault cs).1 - 1, by omega⟩
      rw [hk]
      clear hgood hk
      rw [show xval a (k + 1) = xerr (a k) from rfl]
      go_wp2
      go_ret
      exact ⟨rfl, HBW.out.alloc HBW.out.size _⟩
    · clear hgood
      go_wp2
      go_ret
      exact ⟨rfl, HBW.out.alloc HBW.out.size _⟩
  have HA4 := hide (HA.out w4 B4 hgood)
  clear HA HB hb4 B3
  go_wp2_with fail
  refine HA4.out.mono ?_
  rintro e w5 hp
  obtain ⟨hb5, f, S, hres⟩ := hp.out
  have B5 := below_step B4 hb5
  replace e0 := keep_cell hb5 e0
  replace e1 := keep_cell hb5 e1
  replace e2 := keep_cell hb5 e2
  have hbs : w4.heap.size ≤ w5.heap.size := hb5.size
  have hlt5 : w.heap.size < w5.heap.size := World.block_lt_of_cell? _ _ e0
  clear HA4 hp hb5
  rcases hres with ⟨h1, h2, rfl⟩ | ⟨h1, rfl⟩ | ⟨x, l, h1, h2, h3, v, rfl, hv⟩
  · -- no fault
    have HG := hide (fun (hR : Right cs) => all_go hR hgood (by decide) h1 h2 la)
    clear h1 h2
    unfold toldV
    obtain ⟨W5, hW5⟩ : ∃ W, W = w5.alloc (.cells #[.int .i64 S.s, .int .i64 S.e, .bool false, .slice none 0 0] 30) := ⟨_, rfl⟩
    have c5 : Below w5.heap.size w5 W5 := by rw [hW5]; exact (Below.refl _ _).alloc (Nat.le_refl _) _
    have t2 : W5.cell? ⟨w5.heap.size, 2, none⟩ = some (.bool false) := by rw [hW5, World.cell?_alloc_new]; rfl
    replace B5 := below_step B5 c5
    go_wp2_with fail
    rw [← hW5]
    clear hW5
    refine (HS.out W5).mono ?_
    rintro e w6 ⟨rfl, hb6⟩
    have B6 := below_step B5 hb6
    replace t2 := keep_cell hb6 t2
    have HN6 := hide (HN.out w6 B6)
    clear HS HN hb6 e0 e1 e2 B5 B4
    go_wp2_with fail
    refine HN6.out.mono ?_
    rintro e w7 hp
    obtain ⟨hb7, hp⟩ := hp.out
    rcases hp with ⟨hf, hR, p, rfl, hA, hpB, hmv⟩ | ⟨hz, -⟩
    rotate_left
    · exact absurd hgood hz
    have B7 := below_step B6 hb7
    replace t2 := keep_cell hb7 t2
    obtain ⟨g1, g2, g3, -⟩ := Sta.fault_fits hf
    have r0 : RunX a cs p (s.mach cs.length) 1 w7 := ⟨hA, Sta.mach_ok g1 g2 g3, hR, by decide⟩
    have HFt := hide (HG.out hR)
    have NA7 := NA.out.below B7
    have HBW := hide B7
    have HB1 := hide b1
    have HR0 := hide r0
    have la3 : la.length ≤ 300 := by omega
    have hN : w1.heap.size ≤ p.B := Nat.le_trans B6.size hpB
    clear HN6 hb7 B6 B7 NA b1 hf hR hA hpB hmv g1 g2 g3 r0 HG hgood
    generalize s.mach cs.length = M0 at *
    go_wp2_with (at_builtin; refine wpList_append_nums (by rfl) _ _ (by rfl) ada capa la (by rfl) (by rfl) NA7.at' NA7.nil' (by omega) ?_)
    intro ad8 cap8 w8 hc8 hn8 hlo8 hb8
    have HR := hide (HR0.out.run hb8 hn8 hc8 la3 (by decide) hlo8)
    have HB8 := hide (HBW.out.trans (hb8.mono HBW.out.size))
    have HA8 := hide (HR0.out.below hb8)
    clear NA7 hc8 hn8 hlo8 hb8 HR0 HBW
    go_wp2_with fail
    refine HR.out.mono ?_
    rintro e w9 ⟨rfl, v9, k9, r9⟩
    have HB9 := hide (below_step HB1.out (HB8.out.trans (k9.belowB HA8.out.at' hN HB8.out.size)))
    have HF : Hid (Calls Tryz.prog 11 #[.pointer (some ⟨p.b, 0, none⟩)] w9 fun e w' => e = .returned (.int .i64 ((M0.runO cs la).2.faults)) ∧ w' = w9) := kfaults_any (p := p.marked v9) r9.at'
    rw [HFt.out] at HF
    clear HR HB8 HA8 k9 r9 HFt t2
    go_wp2_with fail
    refine HF.out.mono ?_
    rintro e wq ⟨rfl, rfl⟩
    go_wp2
    go_ret
    exact ⟨rfl, HB9.out⟩
  · -- too many states
    clear h1
    unfold toldV
    go_wp2
    go_ret
    exact ⟨rfl, (below_step b1 B5).alloc (below_step b1 B5).size _⟩
  · -- a fault
    have HG := hide (fun (hR : Right cs) => all_way hR hgood (by decide) h1 h2)
    have hpos : 0 < l.reverse.length := by rw [List.length_reverse]; exact h3
    obtain ⟨av, cv, rfl, hnv⟩ := numsOwn_open hv hpos
    have hown := hv
    clear h1 h2 h3
    have hlow : w4.heap.size ≤ av.block ∧ av.block < w5.heap.size := World.ownsRow.lt hown av.block rfl
    obtain ⟨vb, vo, rfl⟩ : ∃ b o, av = ⟨b, o, none⟩ := by
      obtain ⟨y, hy⟩ : ∃ y, l.reverse[0]? = some y := ⟨_, List.getElem?_eq_getElem hpos⟩
      obtain ⟨b, o, e, -⟩ := hnv 0 y hy
      exact ⟨b, o, Option.some.inj e⟩
    rw [List.length_reverse]
    obtain ⟨_, _, ecap, hcv, -⟩ := numsOwn_at hown
    obtain ⟨rfl, rfl⟩ : _ = _ ∧ cv = _ := by simpa using ecap
    unfold toldV
    have HNV := hide hnv
    clear hv hown hnv
    obtain ⟨W5, hW5⟩ : ∃ W, W = w5.alloc (.cells #[.int .i64 S.s, .int .i64 S.e, .bool true, .slice (some ⟨vb, vo, none⟩) l.length cv] 30) := ⟨_, rfl⟩
    have c5 : Below w5.heap.size w5 W5 := by rw [hW5]; exact (Below.refl _ _).alloc (Nat.le_refl _) _
    have t2 : W5.cell? ⟨w5.heap.size, 2, none⟩ = some (.bool true) := by rw [hW5, World.cell?_alloc_new]; rfl
    have t3 : W5.cell? ⟨w5.heap.size, 3, none⟩ = some (.slice (some ⟨vb, vo, none⟩) l.length cv) := by rw [hW5, World.cell?_alloc_new]; rfl
    replace B5 := below_step B5 c5
    have hs5 : w5.heap.size ≤ W5.heap.size := c5.size
    replace HNV := hide (HNV.out.below c5)
    go_wp2_with fail
    rw [← hW5]
    clear hW5 c5
    refine (HS.out W5).mono ?_
    rintro e w6 ⟨rfl, hb6⟩
    have B6 := below_step B5 hb6
    have HN6 := hide (HN.out w6 B6)
    have HNV6 := hide (HNV.out.below hb6)
    have hs6 : W5.heap.size ≤ w6.heap.size := hb6.size
    replace t2 := keep_cell hb6 t2
    replace t3 := keep_cell hb6 t3
    clear HS HN hb6 e0 e1 e2 B5 B4 HNV
    go_wp2_with fail
    refine HN6.out.mono ?_
    rintro e w7 hp
    obtain ⟨hb7, hp⟩ := hp.out
    rcases hp with ⟨hf, hR, p, rfl, hA, hpB, hmv⟩ | ⟨hz, -⟩
    rotate_left
    · exact absurd hgood hz
    have B7 := below_step B6 hb7
    have t26 := t2
    replace t2 := keep_cell hb7 t2
    replace t3 := keep_cell hb7 t3
    have hs7 : w6.heap.size ≤ w7.heap.size := hb7.size
    obtain ⟨g1, g2, g3, -⟩ := Sta.fault_fits hf
    have r0 : RunX a cs p (s.mach cs.length) 1 w7 := ⟨hA, Sta.mach_ok g1 g2 g3, hR, by decide⟩
    obtain ⟨n, L, hL, hLmo, hc1, hc2, hc3, hc4⟩ := HG.out hR
    have hN7 := HNV6.out.below hb7
    rw [hL] at hN7
    have hLl : l.length = L.length + 1 := by rw [← List.length_reverse, hL]; simp
    rw [List.length_reverse, hLl] at hcv
    have nf : ∀ k, k < w6.heap.size → ¬ p.fp k := fun k hk hp => by
      have := hA.fp_ge hp
      omega
    have hN : w1.heap.size ≤ p.B := Nat.le_trans B6.size hpB
    have hvb : vb < w6.heap.size := by have := hlow.2; have : (⟨vb, vo, none⟩ : Addr).block = vb := rfl; omega
    have hmo : L.length < 500 := by omega
    have HRun1 := hide (krun_any r0 (ad := some ⟨vb, vo, none⟩) (l := L) (cap := cv) (numsAt_front hN7) (by omega) (by omega) (by omega) (fun b off e => by
      cases e
      exact ⟨by omega, nf vb hvb⟩))
    have HL7 := hide (numsAt_last hN7)
    have HNF := hide nf
    have HB7 := hide B7
    have HR0 := hide r0
    have HB1 := hide b1
    have hs7' := hs7
    have hs56 : w5.heap.size < w6.heap.size := World.block_lt_of_cell? _ _ t26
    rw [hLl] at t3
    rw [hc1] at HRun1
    clear HN6 hb7 B6 B7 hR hA hpB hmv g1 g2 g3 r0 HG hgood hN7 HNV6 b1 hf nf hlow hs5 hs6 hs7 hbs hL hLl NA t26
    generalize hk : L.length = k at *
    have hw67 : w6.heap.size ≤ w7.heap.size := hs7'
    have hb56 : w5.heap.size < w6.heap.size := hs56
    have hAt := hide HR0.out.at'
    go_wp2_with fail
    refine HRun1.out.mono ?_
    rintro e w8 ⟨rfl, v8, k8, r8⟩
    have t3' : w8.cell? ⟨w5.heap.size, 3, none⟩ = some (.slice (some ⟨vb, vo, none⟩) (k + 1) cv) := k8.turns.keep t3 (HNF.out _ hb56)
    have hs8 : w7.heap.size ≤ w8.heap.size := k8.turns.size
    have nm8 : ¬ (p.marked v8).fp vb := fun hf => by
      rcases MkPl.fp_marked k8 hf with h | h
      · exact HNF.out vb hvb h
      · omega
    have HL8 := hide (HL7.out.turns k8.turns (fun b off o e hf => by cases e; exact HNF.out vb hvb hf))
    have HF8 : Hid (Calls Tryz.prog 11 #[.pointer (some ⟨p.b, 0, none⟩)] w8 fun e w' => e = .returned (.int .i64 (((s.mach cs.length).runO cs L).2.faults)) ∧ w' = w8) := kfaults_any (p := p.marked v8) r8.at'
    rw [hc2] at HF8
    have HRun2 : Hid (Calls Tryz.prog 10 #[.pointer (some ⟨p.b, 0, none⟩), .slice (some ⟨vb, vo + k, none⟩) 1 (cv - k)] w8 fun e w' => e = .returned (.int .i64 (((s.mach cs.length).runO cs L).2.runO cs [n]).1) ∧ ∃ v, MkStep a cs (p.marked v8) w8 v (((s.mach cs.length).runO cs L).2.runO cs [n]).2 w' ∧ RunX a cs ((p.marked v8).marked v) (((s.mach cs.length).runO cs L).2.runO cs [n]).2 (1 + k + 1) w') := krun_any r8 (ad := some ⟨vb, vo + k, none⟩) (l := [n]) (cap := cv - k) HL8.out (by show 1 ≤ 20000; decide) (by show 1 ≤ cv - k; omega) (by show 1 + k + 1 ≤ 10000000; omega) (fun b off e => by
      cases e
      exact ⟨by omega, nm8⟩)
    rw [hc3] at HRun2
    have HB8 := hide (HB7.out.trans (k8.belowB hAt.out hN HB7.out.size))
    have hs18 := HB8.out.size
    clear HRun1 k8 HL7 HL8 nm8 t3 hc1
    have HAt8 := hide r8.at'
    clear r8
    go_wp2_with fail
    refine HF8.out.mono ?_
    rintro e wq ⟨rfl, rfl⟩
    clear HF8
    go_wp2_with fail
    refine HRun2.out.mono ?_
    rintro e w10 ⟨rfl, v10, k10, r10⟩
    have HB10 := hide (below_step HB1.out (HB8.out.trans (k10.belowB HAt8.out hN hs18)))
    have HF10 : Hid (Calls Tryz.prog 11 #[.pointer (some ⟨p.b, 0, none⟩)] w10 fun e w' => e = .returned (.int .i64 ((((s.mach cs.length).runO cs L).2.runO cs [n]).2.faults)) ∧ w' = w10) := kfaults_any (p := (p.marked v8).marked v10) r10.at'
    obtain ⟨fz, hfz⟩ : ∃ fz, (((s.mach cs.length).runO cs L).2.runO cs [n]).2.faults = fz := ⟨_, rfl⟩
    rw [hfz] at HF10 hc4
    have hc5 := hide hc4
    clear HRun2 k10 r10 HAt8 t3' hfz hc4 hc2 hc3
    go_wp2_with fail
    refine HF10.out.mono ?_
    rintro e wq2 ⟨rfl, rfl⟩
    go_wp2
    go_ret
    refine ⟨?_, HB10.out⟩
    show Ending.returned (.bool (decide (0 < fz))) = _
    rw [decide_eq_true hc5.out]
end Go.Proofs.YtilmhhnllelpaaaGreatDoor
