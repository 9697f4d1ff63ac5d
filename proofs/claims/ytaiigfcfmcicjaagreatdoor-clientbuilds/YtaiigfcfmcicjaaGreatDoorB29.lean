import Derived.Test.YtaiigfcfmcicjaaGreatDoorB28
import Derived.Test.YtaiigfcfmcicjaaGreatDoorB13

/- GcQ -/
namespace Go.Proofs.YtaiigfcfmcicjaaGreatDoor
open Go.RowKit

theorem gExec_pc (m : Mk) (t : Nat) (i : GI) : (gExec m t i).pc = m.pc := by
  cases i with
  | load r a k => show (m.load _ _ _ _).pc = _; unfold Mk.load; split <;> rfl
  | store a r k =>
    show (m.store _ _ _ _).pc = _
    unfold Mk.store
    split
    · exact (room_regs m t).2
    · rfl
  | swap r a k => show (m.swap _ _ _ _ _).pc = _; unfold Mk.swap; split <;> rfl
  | cas a r k => show (m.cas _ _ _ _ _ _).pc = _; unfold Mk.cas; split <;> rfl
  | force => exact (fenceFrom_regs _ m 0).2
  | alloc r => show (m.alloc _ _).pc = _; unfold Mk.alloc; split <;> rfl
  | free r => show (m.free _ _).pc = _; unfold Mk.free; split <;> rfl
  | need r => show (m.need _).pc = _; unfold Mk.need; split <;> rfl
  | _ => rfl
theorem tg_ok {f : Nat} (hf : 1 ≤ f ∧ f ≤ 4) (tg : Tg) : gOk (tgCode f tg) = true := by
  have hf4 : f = 1 ∨ f = 2 ∨ f = 3 ∨ f = 4 := by omega
  rcases hf4 with rfl | rfl | rfl | rfl <;> cases tg <;> rfl
theorem gAt_lt {s : List GI} {l : Nat} (h : (gLab l s 0).isSome = true) : gAt l s < s.length := by
  obtain ⟨j, hj⟩ := Option.isSome_iff_exists.1 h
  unfold gAt
  rw [hj]
  have := (gLab_at hj).2.1
  rw [Nat.sub_zero] at this
  exact (List.getElem?_eq_some_iff.1 this).1
theorem gNext_le {s : List GI} {q : Nat} {i : GI} (r : Nat → Int) (hs : gOk s = true) (hq : s[q]? = some i) : gNext s q r i ≤ s.length := by
  have hlt := (List.getElem?_eq_some_iff.1 hq).1
  have hi := List.all_eq_true.1 hs i (List.mem_of_getElem? hq)
  cases i with
  | zero a l =>
    simp only [Bool.and_eq_true] at hi
    have := gAt_lt hi.2
    show (if r a = 0 then gAt l s else q + 1) ≤ _
    split <;> omega
  | same a b l =>
    simp only [Bool.and_eq_true] at hi
    have := gAt_lt hi.2
    show (if r a = r b then gAt l s else q + 1) ≤ _
    split <;> omega
  | goto l =>
    simp only [Bool.and_eq_true] at hi
    exact Nat.le_of_lt (gAt_lt hi.2)
  | _ => exact hlt

def Good (f n : Nat) (pr : Nat → List (Tg × ByteArray)) (m : Mk) : Prop := ∃ G, PD f n G m ∧ ∀ t, t < n → Loc f (cd f (pr t)) (m.pc t) (G.pt t)

section
variable {f n : Nat} {pr : Nat → List (Tg × ByteArray)} {m : Mk} {t : Nat}
theorem Good.step (h : Good f n pr m) (hwd : ∀ c k, Wd (m.mem.ar.words c k)) (ht : t < n) (hd : doneAt (cd f (pr t)) (m.pc t) = false) : Good f n pr (m.step (cd f (pr t)) t) := by
  obtain ⟨G, hP, hL⟩ := h
  have hl := hL t ht
  cases hg : G.pt t with
  | none =>
    rw [hg] at hl
    have hl : m.pc t = (cd f (pr t)).length := hl
    unfold doneAt at hd
    rw [hl, List.getElem?_eq_none (Nat.le_refl _)] at hd
    cases hd
  | some p =>
    obtain ⟨tg, q, d⟩ := p
    rw [hg] at hl
    obtain ⟨A, P, B, k, d', k', hLe, hpc, hq, hA, hk, h100, hdisc, hap⟩ := hl
    obtain ⟨i, hi⟩ : ∃ i, (tgCode f tg)[q]? = some i := ⟨_, List.getElem?_eq_getElem hq⟩
    have hok := tg_ok hP.1.fl tg
    obtain ⟨-, hst⟩ := gstep hLe hpc hi hA hok
    rw [hst]
    generalize hm1 : m.setPc t (A.length + gNext (tgCode f tg) q (m.regs t) i) = m1
    have hP1 : PD f n G m1 := hP.congr ht (by rw [← hm1]; rfl) (by rw [← hm1]; rfl) (by rw [← hm1]; rfl)
    have hr1 : m1.regs t = m.regs t := by rw [← hm1]; rfl
    have hpc1 : ∀ u, m1.pc u = if u = t then A.length + gNext (tgCode f tg) q (m.regs t) i else m.pc u := fun u => by rw [← hm1]; rfl
    obtain ⟨G', hG', hpt, hot, -⟩ := own_all hP1 (by rw [← hm1]; exact hwd) ht h100 hg hi
    rw [hr1] at hpt
    have hq' := gNext_le (m.regs t) hok hi
    have hpcs : ∀ u, (gExec m1 t i).pc u = if u = t then A.length + gNext (tgCode f tg) q (m.regs t) i else m.pc u := fun u => by rw [gExec_pc]; exact hpc1 u
    generalize gNext (tgCode f tg) q (m.regs t) i = q' at *
    generalize gExec m1 t i = m2 at *
    by_cases hlt : q' < (tgCode f tg).length
    · refine ⟨G', hG', fun u hu => ?_⟩
      by_cases e : u = t
      · subst e
        rw [hpt, hpcs u, if_pos rfl]
        exact ⟨A, P, B, k, d', k', hLe, rfl, hlt, hA, hk, h100, hdisc, hap⟩
      · rw [hot u e, hpcs u, if_neg e]; exact hL u hu
    · have e : q' = (tgCode f tg).length := by omega
      subst e
      have hne : tgCode f tg ≠ [] := fun e => by rw [e] at hq; exact absurd hq (Nat.not_lt_zero _)
      have hb := hG'.behind ht hpt hne hk
      obtain ⟨g, hg1, hg2⟩ := hG'.hops ht (L := cd f (pr t)) B (A ++ gCode P (tgCode f tg)) d' k' hb hdisc hap (by rw [List.append_assoc]; exact hLe)
      refine ⟨_, hg1, fun u hu => ?_⟩
      by_cases e : u = t
      · subst e
        rw [Gh.at_self, hpcs u, if_pos rfl]
        have e2 : (A ++ gCode P (tgCode f tg)).length = A.length + (tgCode f tg).length := by rw [List.length_append]; unfold gCode; rw [List.length_map]
        rw [← e2]; exact hg2
      · rw [Gh.at_ne _ _ e, hot u e, hpcs u, if_neg e]; exact hL u hu
theorem Good.drain1 (h : Good f n pr m) (ht : t < n) : Good f n pr (m.drain1 t) := by
  obtain ⟨G, hP, hL⟩ := h
  exact ⟨G, hP.drain1 ht, fun u hu => by rw [(drain1_regs m t).2]; exact hL u hu⟩
theorem Good.turnO {cs : List (List Ins)} {K : Nat} (h : Good f n pr m) (ok : MkOk cs.length K m) (hn : cs.length = n) (hcs : ∀ t, t < n → cs[t]? = some (cd f (pr t))) (k : Int) : Good f n pr (m.turnO cs k).2 := by
  unfold Mk.turnO
  split
  · generalize k % (2 * (cs.length : Int)) = x
    unfold Mk.stepO
    split
    · rename_i hx
      have ht : x.toNat < n := by omega
      have e : cs.getD x.toNat [] = cd f (pr x.toNat) := by rw [List.getD_eq_getElem?_getD, hcs _ ht]; rfl
      rw [e]
      split
      · exact h
      · rename_i hd
        exact h.step ok.mem.words ht (by simpa using hd)
    · exact h
  · generalize k % (2 * (cs.length : Int)) - cs.length = x
    unfold Mk.drainO
    split
    · rename_i hx
      have ht : x.toNat < n := by omega
      split
      · exact h
      · exact h.drain1 ht
    · exact h
theorem Good.runO {cs : List (List Ins)} (hR : Right cs) (hn : cs.length = n) (hcs : ∀ t, t < n → cs[t]? = some (cd f (pr t))) : ∀ (l : List Int) {K : Nat} {m : Mk}, Good f n pr m → MkOk cs.length K m → K + l.length ≤ 60000000 → Good f n pr (m.runO cs l).2
  | [], _, _, h, _, _ => h
  | k :: l, K, m, h, ok, hK => by
    rw [List.length_cons] at hK
    exact Good.runO hR hn hcs l (h.turnO ok hn hcs k) (ok.turnO hR k (by omega)) (by omega)
theorem Good.faults (h : Good f n pr m) : m.faults = 0 := by
  obtain ⟨G, hP, -⟩ := h
  exact hP.2.ok
end

end Go.Proofs.YtaiigfcfmcicjaaGreatDoor

/- SpL -/
namespace Go.Proofs.YtaiigfcfmcicjaaGreatDoor
open Go.RowKit

def labelAtB (l : List Ins) (to : List UInt8) : Option Nat := l.findIdx? (fun x => (bl x.op == [108, 97, 98, 101, 108]) && (bl x.to == to))
theorem labelAt_B (l : List Ins) (to : ByteArray) : labelAt l to = match labelAtB l (bl to) with
    | some j => (j : Int)
    | none => -1 := by
  unfold labelAt labelAtB
  rw [show (fun x => setsLabel x to) = (fun x => (bl x.op == [108, 97, 98, 101, 108]) && (bl x.to == bl to)) from funext fun x => by unfold setsLabel; rw [toList_bl, toList_bl, toList_bl]]
  rfl
def nameB (l : List UInt8) : Bool := decide (1 ≤ l.length) && (decide (l.length ≤ 12) && (List.range l.length).all fun j => nameOk j (l.getD j 0).toNat)
theorem nameB_is {s : ByteArray} (h : nameB (bl s) = true) : isName s := by
  unfold nameB at h
  simp only [Bool.and_eq_true, decide_eq_true_eq, List.all_eq_true, List.mem_range] at h
  obtain ⟨h1, h2, h3⟩ := h
  have hz : s.size = (bl s).length := size_bl s
  refine ⟨by omega, by omega, fun j hj => ?_⟩
  have := h3 j (by omega)
  rw [List.getD_eq_getElem?_getD, List.getElem?_eq_getElem (by omega)] at this
  exact this
def shapeGood (x : Ins) (l : List UInt8) : Bool :=
  ((lab ⟨l.toArray⟩ l.length || (bl x.to == [])) && (!(lab ⟨l.toArray⟩ l.length) || nameB (bl x.to))) &&
  (List.range 3).all fun k => if k < cnt ⟨l.toArray⟩ l.length then decide (0 ≤ x.n k ∧ x.n k < mostOf (byteAt ⟨l.toArray⟩ k)) else decide (x.n k = 0)
def insGood (L : List Ins) (i : Nat) (x : Ins) : Bool := match shape (bl x.op) with
  | none => false
  | some l => shapeGood x l && ((!(bl x.op == [108, 97, 98, 101, 108]) || labelAtB L (bl x.to) == some i) && ((bl x.to == []) || (labelAtB L (bl x.to)).isSome))
theorem insGood_is {L : List Ins} {i : Nat} {x : Ins} (h : insGood L i x = true) : insFault L i x = 0 := by
  unfold insGood at h
  cases hs : shape (bl x.op) with
  | none => rw [hs] at h; cases h
  | some l =>
    rw [hs] at h
    simp only [Bool.and_eq_true] at h
    obtain ⟨h1, h2, h3⟩ := h
    unfold shapeGood at h1
    simp only [Bool.and_eq_true, List.all_eq_true, List.mem_range] at h1
    obtain ⟨⟨g1, g2⟩, g3⟩ := h1
    have hsz : (⟨l.toArray⟩ : ByteArray).size = l.length := by simp [ByteArray.size]
    have he : insErr x = 0 := by
      unfold insErr
      rw [toList_bl, hs]
      show insBad x ⟨l.toArray⟩ = 0
      unfold insBad
      rw [hsz, if_neg, if_neg, if_neg, if_neg]
      · rintro ⟨e1, e2⟩
        rw [e1] at g2
        exact e2 (nameB_is (by simpa using g2))
      · rintro ⟨k, hk, e⟩
        have := cnt_le ⟨l.toArray⟩ l.length
        have hl := shape_le hs
        have g := g3 k (by omega)
        rw [if_pos hk] at g
        exact e (by simpa using g)
      · rintro ⟨k, hk, hk3, e⟩
        have g := g3 k hk3
        rw [if_neg (by omega)] at g
        exact e (by simpa using g)
      · rintro ⟨e1, e2⟩
        rw [e1, Bool.false_or] at g1
        rw [toList_bl] at e2
        exact e2 (by simpa using g1)
    unfold insFault
    rw [if_neg (by rw [he]; simp), if_neg, if_neg]
    · rintro ⟨e1, e2⟩
      rw [toList_bl] at e1
      rw [e1, Bool.false_or] at h3
      rw [labelAt_B] at e2
      cases hb : labelAtB L (bl x.to) with
      | none => rw [hb] at h3; cases h3
      | some j => rw [hb] at e2; exact absurd e2 (by simp)
    · rintro ⟨e1, e2⟩
      rw [toList_bl] at e1
      rw [e1, Bool.not_true, Bool.false_or] at h2
      rw [labelAt_B, show labelAtB L (bl x.to) = some i by simpa using h2] at e2
      exact e2 rfl
def codeGood (L : List Ins) : Bool := decide (L.length ≤ 2000) && (List.range L.length).all fun i => match L[i]? with
  | none => true
  | some x => insGood L i x
theorem faultFrom_good {L : List Ins} : ∀ (r : List Ins) (j : Nat), (∀ (k : Nat) x, r[k]? = some x → insFault L (j + k) x = 0) → faultFrom L j r = (0, -1)
  | [], _, _ => rfl
  | y :: r, j, h => by
    unfold faultFrom
    rw [if_pos (by simpa using h 0 y rfl)]
    exact faultFrom_good r (j + 1) (fun k x hx => by rw [show j + 1 + k = j + (k + 1) by omega]; exact h (k + 1) x (by simpa using hx))
end Go.Proofs.YtaiigfcfmcicjaaGreatDoor

/- GcR -/
namespace Go.Proofs.YtaiigfcfmcicjaaGreatDoor
open Go.RowKit

structure Cs where
  w : Bool
  tm : Nat
  rd : Nat
  ns : Bool
def Cs.dp (c : Cs) : Nat := if c.ns = true then 3 else 1
def pq (a : Nat) : ByteArray := ⟨#[113, UInt8.ofNat (48 + a / 10), UInt8.ofNat (48 + a % 10)]⟩
def sect (dp rd a : Nat) : List (Tg × Nat) := (List.range dp).map (fun k => (Tg.enter, a + k + 1)) ++ ([(.get, 0)] ++ (List.replicate rd (.read, 0) ++ ((List.range dp).map (fun k => (Tg.leave, a + dp + k + 1)) ++ [(.rest, a + 2 * dp + 1)])))
def rdTo (dp rd i : Nat) : List (Tg × Nat) := (List.range i).flatMap fun j => sect dp rd (j * (2 * dp + 1))
def wrOne (wt : Bool) (j : Nat) : List (Tg × Nat) := if wt = true then [(.new ((j : Int) + 2), 0), (.pub, 0), (.wait, j + 1), (.free, 0)] else [(.new ((j : Int) + 2), 0), (.pub, 0), (.free, 0)]
def wrTo (wt : Bool) (i : Nat) : List (Tg × Nat) := (List.range i).flatMap fun j => wrOne wt j
def Cs.segs (c : Cs) (wt : Bool) : List (Tg × Nat) := if c.w = true then wrTo wt c.tm ++ [(.gone, if wt = true then c.tm + 1 else 1)] else rdTo c.dp c.rd c.tm ++ [(.gone, c.tm * (2 * c.dp + 1) + 1)]
def nm (l : List (Tg × Nat)) : List (Tg × ByteArray) := l.map fun x => (x.1, pq x.2)
def Cs.code (f : Nat) (wt : Bool) (c : Cs) : List Ins := cd f (nm (c.segs wt))

def Cs.ok (c : Cs) : Prop := c.tm ≤ 3 ∧ c.rd ≤ 5
end Go.Proofs.YtaiigfcfmcicjaaGreatDoor
