import Derived.Test.YtepgcgokolmedaaDoorA22
import Derived.Test.YtepgcgokolmedaaDoorA21
import Derived.Test.YtepgcgokolmedaaDoorA23

/- SpL -/
namespace Go.Proofs.YtepgcgokolmedaaDoor
open Go.RowKit

def labelAtB (l : List Ins) (to : List UInt8) : Option Nat := l.findIdx? (fun x => (bl x.op == [108, 97, 98, 101, 108]) && (bl x.to == to))
theorem labelAt_B (l : List Ins) (to : ByteArray) : labelAt l to = match labelAtB l (bl to) with
    | some j => (j : Int)
    | none => -1 := by
  unfold labelAt labelAtB
  rw [show (fun x => setsLabel x to) = (fun x => (bl x.op == [108, 97, 98, 101, 108]) && (bl x.to == bl to)) from funext fun x => by unfold setsLabel; rw [toList_bl, toList_bl, toList_bl]]
  rfl
def nameB (l : List UInt8) : Bool := decide (1 ≤ l.length) && (decide (l.length ≤ 12) && (List.range l.length).all fun j => nameOk j (l.getD j 0).toNat)
theorem nameB_is {s : ByteArray} (h : nameB (bl s) = true) : isName s := by
  unfold nameB at h
  simp only [Bool.and_eq_true, decide_eq_true_eq, List.all_eq_true, List.mem_range] at h
  obtain ⟨h1, h2, h3⟩ := h
  have hz : s.size = (bl s).length := size_bl s
  refine ⟨by omega, by omega, fun j hj => ?_⟩
  have := h3 j (by omega)
  rw [List.getD_eq_getElem?_getD, List.getElem?_eq_getElem (by omega)] at this
  exact this
def shapeGood (x : Ins) (l : List UInt8) : Bool :=
  ((lab ⟨l.toArray⟩ l.length || (bl x.to == [])) && (!(lab ⟨l.toArray⟩ l.length) || nameB (bl x.to))) &&
  (List.range 3).all fun k => if k < cnt ⟨l.toArray⟩ l.length then decide (0 ≤ x.n k ∧ x.n k < mostOf (byteAt ⟨l.toArray⟩ k)) else decide (x.n k = 0)
def insGood (L : List Ins) (i : Nat) (x : Ins) : Bool := match shape (bl x.op) with
  | none => false
  | some l => shapeGood x l && ((!(bl x.op == [108, 97, 98, 101, 108]) || labelAtB L (bl x.to) == some i) && ((bl x.to == []) || (labelAtB L (bl x.to)).isSome))
theorem insGood_is {L : List Ins} {i : Nat} {x : Ins} (h : insGood L i x = true) : insFault L i x = 0 := by
  unfold insGood at h
  cases hs : shape (bl x.op) with
  | none => rw [hs] at h; cases h
  | some l =>
    rw [hs] at h
    simp only [Bool.and_eq_true] at h
    obtain ⟨h1, h2, h3⟩ := h
    unfold shapeGood at h1
    simp only [Bool.and_eq_true, List.all_eq_true, List.mem_range] at h1
    obtain ⟨⟨g1, g2⟩, g3⟩ := h1
    have hsz : (⟨l.toArray⟩ : ByteArray).size = l.length := by simp [ByteArray.size]
    have he : insErr x = 0 := by
      unfold insErr
      rw [toList_bl, hs]
      show insBad x ⟨l.toArray⟩ = 0
      unfold insBad
      rw [hsz, if_neg, if_neg, if_neg, if_neg]
      · rintro ⟨e1, e2⟩
        rw [e1] at g2
        exact e2 (nameB_is (by simpa using g2))
      · rintro ⟨k, hk, e⟩
        have := cnt_le ⟨l.toArray⟩ l.length
        have hl := shape_le hs
        have g := g3 k (by omega)
        rw [if_pos hk] at g
        exact e (by simpa using g)
      · rintro ⟨k, hk, hk3, e⟩
        have g := g3 k hk3
        rw [if_neg (by omega)] at g
        exact e (by simpa using g)
      · rintro ⟨e1, e2⟩
        rw [e1, Bool.false_or] at g1
        rw [toList_bl] at e2
        exact e2 (by simpa using g1)
    unfold insFault
    rw [if_neg (by rw [he]; simp), if_neg, if_neg]
    · rintro ⟨e1, e2⟩
      rw [toList_bl] at e1
      rw [e1, Bool.false_or] at h3
      rw [labelAt_B] at e2
      cases hb : labelAtB L (bl x.to) with
      | none => rw [hb] at h3; cases h3
      | some j => rw [hb] at e2; exact absurd e2 (by simp)
    · rintro ⟨e1, e2⟩
      rw [toList_bl] at e1
      rw [e1, Bool.not_true, Bool.false_or] at h2
      rw [labelAt_B, show labelAtB L (bl x.to) = some i by simpa using h2] at e2
      exact e2 rfl
def codeGood (L : List Ins) : Bool := decide (L.length ≤ 2000) && (List.range L.length).all fun i => match L[i]? with
  | none => true
  | some x => insGood L i x
theorem faultFrom_good {L : List Ins} : ∀ (r : List Ins) (j : Nat), (∀ (k : Nat) x, r[k]? = some x → insFault L (j + k) x = 0) → faultFrom L j r = (0, -1)
  | [], _, _ => rfl
  | y :: r, j, h => by
    unfold faultFrom
    rw [if_pos (by simpa using h 0 y rfl)]
    exact faultFrom_good r (j + 1) (fun k x hx => by rw [show j + 1 + k = j + (k + 1) by omega]; exact h (k + 1) x (by simpa using hx))
theorem codeGood_is {L : List Ins} (h : codeGood L = true) : codeFault L = (0, -1) := by
  unfold codeGood at h
  simp only [Bool.and_eq_true, decide_eq_true_eq, List.all_eq_true, List.mem_range] at h
  obtain ⟨h1, h2⟩ := h
  unfold codeFault
  rw [if_neg (by omega)]
  refine faultFrom_good L 0 fun k x hx => insGood_is ?_
  have := h2 k (List.getElem?_eq_some_iff.1 hx).1
  rw [hx] at this
  rw [Nat.zero_add]; exact this
end Go.Proofs.YtepgcgokolmedaaDoor

/- SpH -/
namespace Go.Proofs.YtepgcgokolmedaaDoor
open Go.RowKit Go.Extern.Stop Go.Stop Go.Extern Go.Maps Go.WideMaps Go.Sort

def restTo (cs : List (List Ins)) (m : Mk) (n : Nat) : Bool := (List.range n).all fun t => doneAt (cs.getD t []) (m.pc t) && (m.mem.waits t).isEmpty
theorem restTo_succ (cs : List (List Ins)) (m : Mk) (n : Nat) : restTo cs m (n + 1) = (restTo cs m n && (doneAt (cs.getD n []) (m.pc n) && (m.mem.waits n).isEmpty)) := by
  unfold restTo
  rw [List.range_succ, List.all_append]
  simp
theorem restTo_no {cs : List (List Ins)} {m : Mk} {n t : Nat} (ht : t < n) (h : (doneAt (cs.getD t []) (m.pc t) && (m.mem.waits t).isEmpty) = false) : restTo cs m n = false := by
  unfold restTo
  cases hb : (List.range n).all fun t => doneAt (cs.getD t []) (m.pc t) && (m.mem.waits t).isEmpty with
  | false => rfl
  | true =>
    have := List.all_eq_true.1 hb t (List.mem_range.2 ht)
    rw [h] at this; cases this

set_option maxRecDepth 20000 in
set_option maxHeartbeats 1000000 in
theorem rrest_any {cs : List (List Ins)} {p : RkPl} {m : Mk} {w : World} (h : RkAt cs p m w) :
    Calls Tryd.prog 17 #[.pointer (some ⟨p.k, 0, none⟩)] w fun e w' => e = .returned (.bool (restTo cs m cs.length)) ∧ Below w.heap.size w w' := by
  have HH := hide h
  have h6 := h.few
  clear h
  go_enter Tryd.func17, Tryd.ntmps17
  go_wp2_with fail
  go_loopw [3, 4] (fun i _ wr => ∃ j : Nat, j ≤ cs.length ∧ i = .int .i64 j ∧ Hid (restTo cs m j = true) ∧ Below w.heap.size w wr) (fun i _ _ => cs.length - (intOf i).toNat)
  case atStart => exact ⟨0, Nat.zero_le _, rfl, rfl, Below.refl _ _⟩
  case round =>
    obtain ⟨j, hj, rfl, HR, HB⟩ := hrel
    have hr := HH.out.below HB
    have hT := hr.mT
    by_cases hlt : j < cs.length
    · have ji : (j : Int) < cs.length := by omega
      obtain ⟨L, hL⟩ : ∃ L, cs[j]? = some L := ⟨_, List.getElem?_eq_getElem hlt⟩
      have hd : cs.getD j [] = L := by rw [List.getD_eq_getElem?_getD, hL]; rfl
      have HD := hide (rdone_any hL hr)
      have HS := hide (restTo_succ cs m j)
      have HN := hide (fun e => restTo_no (cs := cs) (m := m) hlt e)
      rw [hd] at HS HN
      have HQ := hide hr
      clear hr hd hL
      cases hdd : doneAt L (m.pc j)
      · rw [hdd] at HD HN
        have HF := hide (HN.out rfl)
        clear HN HS hdd
        go_wp2_with fail
        refine HD.out.mono ?_
        rintro e w1 ⟨rfl, hb1⟩
        have HB1 := below_step HB hb1
        clear HB hb1 HD HQ
        go_wp2_with fail
        go_ret
        exact ⟨by rw [HF.out]; rfl, HB1⟩
      · rw [hdd] at HD HN HS
        clear hdd
        go_wp2_with fail
        refine HD.out.mono ?_
        rintro e w1 ⟨rfl, hb1⟩
        have HB1 := below_step HB hb1
        have hq := HQ.out.below hb1
        have hM := hq.mM
        have hWs := hq.mem.mWaits
        have htc := hq.mem.tcap
        have hthr := hq.thr
        obtain ⟨hv, hown⟩ := hq.mem.waits j (by rw [hthr]; exact hlt)
        obtain ⟨adv, cpv, hvs, -, -, -⟩ := ownsRow_shape hown
        rw [hvs] at hv
        rw [hthr] at hWs htc
        have jt : (j : Int) < p.rp.tcap := by omega
        clear HB hb1 HD HQ hq hown hvs hthr
        cases hl : m.mem.waits j with
        | nil =>
          rw [hl] at hv HS
          have HS2 : Hid (restTo cs m (j + 1) = true) := hide (by rw [HS.out, HR.out]; rfl)
          clear HS HN HR hl
          go_wp2_with fail
          go_roundw
          case rel => exact ⟨j + 1, by omega, by go_num, HS2, HB1⟩
          case measure => simp [intOf]; omega
        | cons x l =>
          rw [hl] at hv HN
          have HF := hide (HN.out rfl)
          have hlen : 0 < (((x :: l).length : Nat) : Int) := by rw [List.length_cons]; omega
          generalize (x :: l).length = len at *
          clear HS HN HR hl
          go_wp2_with fail
          go_ret
          exact ⟨by rw [HF.out]; rfl, HB1⟩
    · obtain rfl : j = cs.length := by omega
      clear hr
      go_wp2
      go_ret
      exact ⟨by rw [HR.out]; rfl, HB⟩

theorem lockT_ok : LockOk ⟨#[116]⟩ 7 0 0 := ⟨by decide, by decide, by decide, by decide, nameB_is (by decide +kernel), by decide⟩
theorem lockG_ok : LockOk ⟨#[103]⟩ 7 0 0 := ⟨by decide, by decide, by decide, by decide, nameB_is (by decide +kernel), by decide⟩

set_option maxRecDepth 20000 in
theorem locked_any (w : World) : Calls Tryd.prog 5 #[] w fun e w' => e = .returned (.bool true) ∧ Below w.heap.size w w' := by
  have HT := hide (fun w => take_ok lockT_ok w)
  have HG := hide (fun w => give_ok lockG_ok w)
  go_enter Tryd.func5, Tryd.ntmps5
  go_wp2_with fail
  refine (HT.out _).mono ?_
  rintro e w1 ⟨va, rfl, ha, hb1⟩
  obtain ⟨ada, capa, rfl, -⟩ := insOwn_open ha (show 0 < 7 by decide)
  have la : ((takeCode ⟨#[116]⟩ 7 0 0).length : Int) = 7 := rfl
  clear ha
  go_wp2_with fail
  refine (HG.out _).mono ?_
  rintro e w2 ⟨vb, rfl, hg, hb2⟩
  obtain ⟨adb, capb, rfl, -⟩ := insOwn_open hg (show 0 < 2 by decide)
  have lb : ((giveCode 7 0 0).length : Int) = 2 := rfl
  have HB := below_step hb1 hb2
  clear hg hb1 hb2 HT HG
  generalize (takeCode ⟨#[116]⟩ 7 0 0).length = la' at *
  generalize (giveCode 7 0 0).length = lb' at *
  have la0 : 0 < (la' : Int) := by omega
  have lb0 : 0 < (lb' : Int) := by omega
  have lb1 : decide (0 < lb') = true := decide_eq_true (by omega)
  clear la lb
  go_wp2_with fail
  go_ret
  exact ⟨rfl, HB⟩
end Go.Proofs.YtepgcgokolmedaaDoor

/- SpB -/
namespace Go.Proofs.YtepgcgokolmedaaDoor
open Go.RowKit

theorem labelAt_bl (l : List Ins) (to : ByteArray) : labelAt l to = match l.findIdx? (fun x => (bl x.op == [108, 97, 98, 101, 108]) && (bl x.to == bl to)) with
    | some j => (j : Int)
    | none => -1 := by
  unfold labelAt
  rw [show (fun x => setsLabel x to) = (fun x => (bl x.op == [108, 97, 98, 101, 108]) && (bl x.to == bl to)) from funext fun x => by unfold setsLabel; rw [toList_bl, toList_bl, toList_bl]]
  rfl
theorem spLabs {tm k : Nat} (ht : tm ≤ 3) (hk : k < tm) : (labelAt (spCode tm) (spPre k)).toNat = 19 * k ∧ (labelAt (spCode tm) (spTaken k)).toNat = 19 * k + 6 := by
  have h1 : ∀ tm : Fin 4, ∀ k : Fin 3, k.val < tm.val → (labelAt (spCode tm) (spPre k)).toNat = 19 * k.val ∧ (labelAt (spCode tm) (spTaken k)).toNat = 19 * k.val + 6 := by
    simp only [labelAt_bl]
    decide +kernel
  exact h1 ⟨tm, by omega⟩ ⟨k, by omega⟩ hk

section
variable {m : Mk} {tm t k : Nat}
theorem spStep {p : Nat} (hp : m.pc t = p) (hlt : p < 19 * tm) : m.step (spCode tm) t = (m.setPc t (p + 1)).exec (spCode tm) t (spIns (p / 19) (p % 19)) := by
  unfold Mk.step
  rw [hp, spCode_at hlt]
theorem ex0 (L : List Ins) : m.exec L t (spIns k 0) = m := by
  unfold Mk.exec
  rw [show opNo (spIns k 0).op.toList = 20 from by rw [toList_bl]; rfl]
  rfl
theorem ex1 (L : List Ins) : m.exec L t (spIns k 1) = m.setReg t 0 0 := by
  unfold Mk.exec
  rw [show opNo (spIns k 1).op.toList = 0 from by rw [toList_bl]; rfl]
  rfl
theorem ex2 (L : List Ins) : m.exec L t (spIns k 2) = m.setReg t 1 1 := by
  unfold Mk.exec
  rw [show opNo (spIns k 2).op.toList = 0 from by rw [toList_bl]; rfl]
  rfl
theorem ex3 (L : List Ins) : m.exec L t (spIns k 3) = m.cas t 0 (m.regs t 7) 0 (m.regs t 0) (m.regs t 1) := by
  unfold Mk.exec
  rw [show opNo (spIns k 3).op.toList = 9 from by rw [toList_bl]; rfl]
  rfl
theorem ex4 (L : List Ins) : m.exec L t (spIns k 4) = if m.regs t 0 = 0 then m.jump t L (spTaken k) else m := by
  unfold Mk.exec
  rw [show opNo (spIns k 4).op.toList = 17 from by rw [toList_bl]; rfl]
  rfl
theorem ex5 (L : List Ins) : m.exec L t (spIns k 5) = m.jump t L (spPre k) := by
  unfold Mk.exec
  rw [show opNo (spIns k 5).op.toList = 19 from by rw [toList_bl]; rfl]
  rfl
theorem ex6 (L : List Ins) : m.exec L t (spIns k 6) = m := by
  unfold Mk.exec
  rw [show opNo (spIns k 6).op.toList = 20 from by rw [toList_bl]; rfl]
  rfl
theorem ex7 (L : List Ins) : m.exec L t (spIns k 7) = m.load t 2 (m.regs t 7) 1 := by
  unfold Mk.exec
  rw [show opNo (spIns k 7).op.toList = 6 from by rw [toList_bl]; rfl]
  rfl
theorem ex8 (L : List Ins) : m.exec L t (spIns k 8) = m.setReg t 3 1 := by
  unfold Mk.exec
  rw [show opNo (spIns k 8).op.toList = 0 from by rw [toList_bl]; rfl]
  rfl
theorem ex9 (L : List Ins) : m.exec L t (spIns k 9) = m.setReg t 4 (xorW (m.regs t 2) (m.regs t 3)) := by
  unfold Mk.exec
  rw [show opNo (spIns k 9).op.toList = 5 from by rw [toList_bl]; rfl]
  rfl
theorem ex10 (L : List Ins) : m.exec L t (spIns k 10) = m.need (m.regs t 4) := by
  unfold Mk.exec
  rw [show opNo (spIns k 10).op.toList = 13 from by rw [toList_bl]; rfl]
  rfl
theorem ex11 (L : List Ins) : m.exec L t (spIns k 11) = m.store t (m.regs t 7) 1 (m.regs t 3) := by
  unfold Mk.exec
  rw [show opNo (spIns k 11).op.toList = 7 from by rw [toList_bl]; rfl]
  rfl
theorem ex12 (L : List Ins) : m.exec L t (spIns k 12) = m.load t 2 (m.regs t 7) 2 := by
  unfold Mk.exec
  rw [show opNo (spIns k 12).op.toList = 6 from by rw [toList_bl]; rfl]
  rfl
theorem ex13 (L : List Ins) : m.exec L t (spIns k 13) = m.setReg t 2 ((m.regs t 2 + m.regs t 3) % 4294967296) := by
  unfold Mk.exec
  rw [show opNo (spIns k 13).op.toList = 2 from by rw [toList_bl]; rfl]
  rfl
theorem ex14 (L : List Ins) : m.exec L t (spIns k 14) = m.store t (m.regs t 7) 2 (m.regs t 2) := by
  unfold Mk.exec
  rw [show opNo (spIns k 14).op.toList = 7 from by rw [toList_bl]; rfl]
  rfl
theorem ex15 (L : List Ins) : m.exec L t (spIns k 15) = m.setReg t 4 0 := by
  unfold Mk.exec
  rw [show opNo (spIns k 15).op.toList = 0 from by rw [toList_bl]; rfl]
  rfl
theorem ex16 (L : List Ins) : m.exec L t (spIns k 16) = m.store t (m.regs t 7) 1 (m.regs t 4) := by
  unfold Mk.exec
  rw [show opNo (spIns k 16).op.toList = 7 from by rw [toList_bl]; rfl]
  rfl
theorem ex17 (L : List Ins) : m.exec L t (spIns k 17) = m.setReg t 0 0 := by
  unfold Mk.exec
  rw [show opNo (spIns k 17).op.toList = 0 from by rw [toList_bl]; rfl]
  rfl
theorem ex18 (L : List Ins) : m.exec L t (spIns k 18) = m.swap t 0 (m.regs t 7) 0 (m.regs t 0) := by
  unfold Mk.exec
  rw [show opNo (spIns k 18).op.toList = 8 from by rw [toList_bl]; rfl]
  rfl
end

theorem names_one {m : Mk} (h : m.mem.ar.has 0 0 = true) : m.names 1 = true := by
  unfold Mk.names
  rw [show cellOf 1 = 0 from rfl, show genOf 1 = 0 from rfl, h]
  rfl

theorem rounds_le {T tm : Nat} : ∀ {l : List Nat}, (∀ (t p : Nat), l[t]? = some p → p ≤ 19 * tm) → l.length = T → rounds l ≤ T * tm
  | [], _, _ => by simp [rounds]
  | x :: l, h, e => by
    have h1 := h 0 x rfl
    have h2 := rounds_le (T := l.length) (tm := tm) (l := l) (fun t p hp => h (t + 1) p (by simpa using hp)) rfl
    have : rounds (x :: l) = x / 19 + rounds l := by simp [rounds]
    rw [this, ← e, List.length_cons, Nat.succ_mul]
    have : x / 19 ≤ tm := by omega
    omega

theorem Mine.look {q : Nat} {r : Nat → Int} {ws : List Wt} {w1 w2 c : Int} (h : Mine q r ws w1 w2 c) :
    ws.foldl (Wt.pick 0 0 1) w1 = (if 12 ≤ q ∧ q ≤ 16 then 1 else 0) ∧ ws.foldl (Wt.pick 0 0 2) w2 = (if q ≤ 14 then c else c + 1) := by
  obtain ⟨d, hd, rfl, rfl, rfl⟩ := h.ws
  have hq : nSt q = 0 ∧ q ≤ 11 ∨ nSt q = 1 ∧ 12 ≤ q ∧ q ≤ 14 ∨ nSt q = 2 ∧ 15 ≤ q ∧ q ≤ 16 ∨ nSt q = 3 ∧ 17 ≤ q := by unfold nSt; split <;> (try split) <;> (try split) <;> omega
  rcases hq with ⟨e, h1⟩ | ⟨e, h1, h2⟩ | ⟨e, h1, h2⟩ | ⟨e, h1⟩
  · have a1 : (if 12 ≤ q ∧ q ≤ 16 then (1 : Int) else 0) = 0 := if_neg (by omega)
    have a2 : (if q ≤ 14 then c else c + 1) = c := if_pos (by omega)
    rw [a1, a2, e]
    rw [e] at hd
    obtain rfl : d = 0 := by omega
    simp
  · have a1 : (if 12 ≤ q ∧ q ≤ 16 then (1 : Int) else 0) = 1 := if_pos (by omega)
    have a2 : (if q ≤ 14 then c else c + 1) = c := if_pos (by omega)
    rw [a1, a2, e]
    rw [e] at hd
    have : d = 0 ∨ d = 1 := by omega
    rcases this with rfl | rfl <;> simp [sq, Wt.pick]
  · have a1 : (if 12 ≤ q ∧ q ≤ 16 then (1 : Int) else 0) = 1 := if_pos (by omega)
    have a2 : (if q ≤ 14 then c else c + 1) = c + 1 := if_neg (by omega)
    rw [a1, a2, e]
    rw [e] at hd
    have : d = 0 ∨ d = 1 ∨ d = 2 := by omega
    rcases this with rfl | rfl | rfl <;> simp [sq, Wt.pick]
  · have a1 : (if 12 ≤ q ∧ q ≤ 16 then (1 : Int) else 0) = 0 := if_neg (by omega)
    have a2 : (if q ≤ 14 then c else c + 1) = c + 1 := if_neg (by omega)
    rw [a1, a2, e]
    rw [e] at hd
    have : d = 0 ∨ d = 1 ∨ d = 2 ∨ d = 3 := by omega
    rcases this with rfl | rfl | rfl | rfl <;> simp [sq, Wt.pick]
theorem Mine.few {q : Nat} {r : Nat → Int} {ws : List Wt} {w1 w2 c : Int} (h : Mine q r ws w1 w2 c) : ws.length ≤ 3 := by
  obtain ⟨d, hd, rfl, -, -⟩ := h.ws
  rw [List.length_drop, List.length_take]
  have : (sq c).length = 3 := rfl
  omega

theorem Mine.put {q : Nat} {r : Nat → Int} {ws : List Wt} {w1 w2 c : Int} (h : Mine q r ws w1 w2 c) {x : Wt} (hq : q = 11 ∧ x = ⟨0, 0, 1, 1⟩ ∨ q = 14 ∧ x = ⟨0, 0, 2, c + 1⟩ ∨ q = 16 ∧ x = ⟨0, 0, 1, 0⟩) :
    ∃ d, d ≤ nSt (q + 1) ∧ ws ++ [x] = ((sq c).take (nSt (q + 1))).drop d ∧ w1 = (if d = 1 ∨ d = 2 then 1 else 0) ∧ w2 = (if d < 2 then c else c + 1) := by
  obtain ⟨d, hd, rfl, h1, h2⟩ := h.ws
  refine ⟨d, ?_, ?_, h1, h2⟩
  · rcases hq with ⟨rfl, -⟩ | ⟨rfl, -⟩ | ⟨rfl, -⟩ <;> simp [nSt] at hd ⊢ <;> omega
  · rcases hq with ⟨rfl, rfl⟩ | ⟨rfl, rfl⟩ | ⟨rfl, rfl⟩
    · simp [nSt] at hd
      subst hd; rfl
    · simp [nSt] at hd
      have : d = 0 ∨ d = 1 := by omega
      rcases this with rfl | rfl <;> rfl
    · simp [nSt] at hd
      have : d = 0 ∨ d = 1 ∨ d = 2 := by omega
      rcases this with rfl | rfl | rfl <;> rfl
theorem Mine.drain {q : Nat} {r : Nat → Int} {ws : List Wt} {w1 w2 c : Int} (h : Mine q r ws w1 w2 c) {x : Wt} {l : List Wt} (hx : ws = x :: l) :
    x.c = 0 ∧ x.g = 0 ∧ (x.w = 1 ∧ Mine q r l x.v w2 c ∨ x.w = 2 ∧ Mine q r l w1 x.v c) := by
  obtain ⟨d, hd, hw, h1, h2⟩ := h.ws
  rw [hx] at hw
  have hq : nSt q ≤ 3 := by unfold nSt; split <;> (try split) <;> (try split) <;> omega
  have hl : d < nSt q := by
    have := congrArg List.length hw
    rw [List.length_drop, List.length_take, List.length_cons] at this
    have e : (sq c).length = 3 := rfl
    omega
  have hn : nSt q = 1 ∨ nSt q = 2 ∨ nSt q = 3 := by omega
  have key : x = (sq c).getD d ⟨0, 0, 0, 0⟩ ∧ l = ((sq c).take (nSt q)).drop (d + 1) := by
    have hd3 : d = 0 ∨ d = 1 ∨ d = 2 := by omega
    rcases hn with e | e | e <;> rw [e] at hw hl ⊢ <;> rcases hd3 with rfl | rfl | rfl <;> first | omega | (simp [sq] at hw ⊢; exact hw)
  obtain ⟨rfl, rfl⟩ := key
  have mk : ∀ w1' w2', w1' = (if d + 1 = 1 ∨ d + 1 = 2 then 1 else 0) → w2' = (if d + 1 < 2 then c else c + 1) → Mine q r (((sq c).take (nSt q)).drop (d + 1)) w1' w2' c := fun w1' w2' e1 e2 => { h with ws := ⟨d + 1, by omega, rfl, e1, e2⟩ }
  have hd3 : d = 0 ∨ d = 1 ∨ d = 2 := by omega
  rcases hd3 with rfl | rfl | rfl
  · exact ⟨rfl, rfl, .inl ⟨rfl, mk _ _ rfl (by rw [h2]; rfl)⟩⟩
  · exact ⟨rfl, rfl, .inr ⟨rfl, mk _ _ (by rw [h1]; rfl) rfl⟩⟩
  · exact ⟨rfl, rfl, .inl ⟨rfl, mk _ _ rfl (by rw [h2]; rfl)⟩⟩
theorem Mine.all {q : Nat} {r : Nat → Int} {w1 w2 c : Int} (h : Mine q r [] w1 w2 c) : w1 = (if 12 ≤ q ∧ q ≤ 16 then 1 else 0) ∧ w2 = (if q ≤ 14 then c else c + 1) := h.look
end Go.Proofs.YtepgcgokolmedaaDoor
