import Derived.Test.YtnnlkolhahjokaaGreatDoorB39
import Derived.Test.YtnnlkolhahjokaaGreatDoorProg
import Derived.Test.YtnnlkolhahjokaaGreatDoorB10
import Derived.WalkKit
import Derived.Test.YtnnlkolhahjokaaGreatDoorB01
import Derived.Deep.QuietTactic

/- SpC -/
namespace Go.Proofs.YtnnlkolhahjokaaGreatDoor
open Go.RowKit

section
variable {T tm t p : Nat} {a : AS} {m : Mk}

theorem aStep_p (hp : a.ps[t]? = some p) : a.ps.getD t 0 = p := by rw [List.getD_eq_getElem?_getD, hp]; rfl
theorem aStep3 (hp : a.ps[t]? = some p) (hlt : p < 19 * tm) (hq : p % 19 = 3) : aStep tm a t = ⟨a.ps.set t (p + 1), if a.o = none then some t else a.o⟩ := by
  unfold aStep
  rw [aStep_p hp, if_pos hlt, if_pos hq]
theorem aStep4 (hp : a.ps[t]? = some p) (hlt : p < 19 * tm) (hq : p % 19 = 4) : aStep tm a t = ⟨a.ps.set t (if a.o = some t then p + 2 else p + 1), a.o⟩ := by
  unfold aStep
  rw [aStep_p hp, if_pos hlt, if_neg (by omega), if_pos hq]
theorem aStep5 (hp : a.ps[t]? = some p) (hlt : p < 19 * tm) (hq : p % 19 = 5) : aStep tm a t = ⟨a.ps.set t (p - 5), a.o⟩ := by
  unfold aStep
  rw [aStep_p hp, if_pos hlt, if_neg (by omega), if_neg (by omega), if_pos hq]
theorem aStep18 (hp : a.ps[t]? = some p) (hlt : p < 19 * tm) (hq : p % 19 = 18) : aStep tm a t = ⟨a.ps.set t (p + 1), none⟩ := by
  unfold aStep
  rw [aStep_p hp, if_pos hlt, if_neg (by omega), if_neg (by omega), if_neg (by omega), if_pos hq]
theorem aStepN (hp : a.ps[t]? = some p) (hlt : p < 19 * tm) (hq : p % 19 ≠ 3 ∧ p % 19 ≠ 4 ∧ p % 19 ≠ 5 ∧ p % 19 ≠ 18) : aStep tm a t = ⟨a.ps.set t (p + 1), a.o⟩ := by
  unfold aStep
  rw [aStep_p hp, if_pos hlt, if_neg (by omega), if_neg (by omega), if_neg (by omega), if_neg (by omega)]
theorem aStepE (hp : a.ps[t]? = some p) (hlt : 19 * tm ≤ p) : aStep tm a t = a := by
  unfold aStep
  rw [aStep_p hp, if_neg (by omega)]

theorem TC.other' {b : Bool} {q : Nat} {r : Nat → Int} {ws : List Wt} {w1 w2 c : Int} (h : TC b q r ws w1 w2 c) (hq : q ≤ 3 ∨ q = 5) : b = false ∧ Other q r ws := by
  cases b with
  | false => exact ⟨rfl, h⟩
  | true =>
    have := Mine.at' (q := q) h
    omega
theorem TC.mine' {b : Bool} {q : Nat} {r : Nat → Int} {ws : List Wt} {w1 w2 c : Int} (h : TC b q r ws w1 w2 c) (hq : 6 ≤ q) : b = true ∧ Mine q r ws w1 w2 c := by
  cases b with
  | true => exact ⟨rfl, h⟩
  | false =>
    have := Other.at' (q := q) h
    omega
theorem Mine.next {q : Nat} {r : Nat → Int} {ws : List Wt} {w1 w2 c : Int} (h : Mine q r ws w1 w2 c) {q' : Nat} {r' : Nat → Int} (hq : nSt q' = nSt q) (h6 : 6 ≤ q') (r7 : r' 7 = 1) (r2a : q' = 8 ∨ q' = 9 → r' 2 = 0) (r3 : 9 ≤ q' ∧ q' ≤ 13 → r' 3 = 1)
    (r4a : q' = 10 → r' 4 = 1) (r2b : q' = 13 → r' 2 = c) (r2c : q' = 14 → r' 2 = c + 1) (r4b : q' = 16 → r' 4 = 0) (r0 : q' = 18 → r' 0 = 0) : Mine q' r' ws w1 w2 c :=
  ⟨.inr h6, r7, r2a, r3, r4a, r2b, r2c, r4b, r0, by rw [hq]; exact h.ws⟩

def upd (r : Nat → Int) (k : Nat) (v : Int) : Nat → Int := fun j => if j = k then v else r j
theorem upd_same (r : Nat → Int) (k : Nat) (v : Int) : upd r k v k = v := if_pos rfl
theorem upd_ne (r : Nat → Int) {k j : Nat} (v : Int) (h : j ≠ k) : upd r k v j = r j := if_neg h
theorem setReg_regs (m : Mk) (t r : Nat) (v : Int) : (m.setReg t r v).regs t = upd (m.regs t) r v := by
  funext k
  show (if t = t ∧ k = r then v else m.regs t k) = if k = r then v else m.regs t k
  by_cases e : k = r
  · rw [if_pos ⟨rfl, e⟩, if_pos e]
  · rw [if_neg (fun h => e h.2), if_neg e]
theorem setReg_ne (m : Mk) (t r : Nat) (v : Int) (u : Nat) (hu : u ≠ t) : (m.setReg t r v).regs u = m.regs u := by
  funext k
  exact if_neg (fun h => hu h.1)

theorem Inv.reg (h : Inv T tm a m) (hp : a.ps[t]? = some p) (hlt : p < 19 * tm) (hq : p % 19 < 18) (r : Nat) (v : Int)
    (htc : TC (a.o == some t) (p % 19 + 1) (upd (m.regs t) r v) (m.mem.waits t) (m.mem.ar.words 0 1) (m.mem.ar.words 0 2) (rounds a.ps)) : Inv T tm ⟨a.ps.set t (p + 1), a.o⟩ ((m.setPc t (p + 1)).setReg t r v) := by
  refine h.go hp (p + 1) _ rfl (fun u => rfl) (fun u hu => setReg_ne (m.setPc t (p + 1)) t r v u hu) h.faults (by omega) (by omega) ?_
  rw [show (p + 1) % 19 = p % 19 + 1 by omega, setReg_regs]
  exact htc
theorem Inv.place (h : Inv T tm a m) (hp : a.ps[t]? = some p) (p' : Nat) (hp' : p' ≤ 19 * tm) (hr : p' / 19 = p / 19) (m' : Mk) (e0 : m'.mem = m.mem) (e1 : ∀ u, m'.pc u = if u = t then p' else m.pc u) (e2 : m'.regs = m.regs) (e5 : m'.faults = m.faults)
    (htc : TC (a.o == some t) (p' % 19) (m.regs t) (m.mem.waits t) (m.mem.ar.words 0 1) (m.mem.ar.words 0 2) (rounds a.ps)) : Inv T tm ⟨a.ps.set t p', a.o⟩ m' := by
  refine h.go hp p' m' e0 e1 (fun u _ => by rw [e2]) (by rw [e5]; exact h.faults) hp' hr ?_
  rw [e2]; exact htc
theorem Inv.store (h : Inv T tm a m) (hp : a.ps[t]? = some p) (hlt : p < 19 * tm) (hq : p % 19 < 18) (x : Wt) (ho : a.o = some t)
    (htc : Mine (p % 19 + 1) (m.regs t) (m.mem.waits t ++ [x]) (m.mem.ar.words 0 1) (m.mem.ar.words 0 2) (rounds a.ps)) :
    Inv T tm ⟨a.ps.set t (p + 1), a.o⟩ ((m.setPc t (p + 1)).setMem (m.mem.setWaits t (m.mem.waits t ++ [x]))) := by
  have hs : rounds (a.ps.set t (p + 1)) = rounds a.ps := by have := rounds_set (p' := p + 1) hp; omega
  refine h.mv hp (p + 1) a.o (fun u => rfl) (fun u hu => rfl) (fun u hu => ?_) h.has h.faults h.thr (by omega) (fun _ _ => rfl) (fun u _ _ => ⟨rfl, rfl, by omega⟩) ?_ h.own h.w0 (fun e => ?_)
  · show (if u = t then _ else m.mem.waits u) = _
    rw [if_neg hu]
  · rw [hs, show (p + 1) % 19 = p % 19 + 1 by omega, show (a.o == some t) = true by rw [ho]; simp]
    show Mine _ _ (if t = t then _ else _) _ _ _
    rw [if_pos rfl]
    exact htc
  · rw [ho] at e; cases e

theorem drain_mine {q : Nat} {r : Nat → Int} {c : Int} : ∀ (ws : List Wt) (s : Rm), s.waits t = ws → s.ar.has 0 0 = true → Mine q r ws (s.ar.words 0 1) (s.ar.words 0 2) c →
    s.gone t ws = 0 ∧ Mine q r [] ((s.drainAll t ws).ar.words 0 1) ((s.drainAll t ws).ar.words 0 2) c ∧ (s.drainAll t ws).ar.words 0 0 = s.ar.words 0 0
  | [], s, _, _, h => ⟨rfl, h, rfl⟩
  | x :: l, s, hw, hh, h => by
    obtain ⟨e1, e2, e3⟩ := h.drain rfl
    have hd : s.drained t x l = (s.setWaits t l).setWord 0 x.w.toNat x.v := by
      unfold Rm.drained
      rw [e1, e2, if_pos hh]
      rfl
    have hg : s.gone t (x :: l) = (s.drained t x l).gone t l := by
      show (if s.ar.has x.c x.g = true then 0 else 1) + (s.drained t x l).gone t l = _
      rw [e1, e2, if_pos hh, Nat.zero_add]
    have hh' : (s.drained t x l).ar.has 0 0 = true := by rw [hd]; exact hh
    have hw' : (s.drained t x l).waits t = l := s.drained_waits t x l
    rw [hg]
    show _ ∧ Mine q r [] (((s.drained t x l).drainAll t l).ar.words 0 1) (((s.drained t x l).drainAll t l).ar.words 0 2) c ∧ ((s.drained t x l).drainAll t l).ar.words 0 0 = s.ar.words 0 0
    have h0 : (s.drained t x l).ar.words 0 0 = s.ar.words 0 0 := by
      rw [hd]
      show (if 0 = 0 ∧ 0 = x.w.toNat then x.v else s.ar.words 0 0) = _
      rw [if_neg]
      rcases e3 with ⟨e, -⟩ | ⟨e, -⟩ <;> rw [e] <;> decide
    rw [← h0]
    refine drain_mine l (s.drained t x l) hw' hh' ?_
    rcases e3 with ⟨e, h3⟩ | ⟨e, h3⟩
    · rw [hd]
      have q1 : ((s.setWaits t l).setWord 0 x.w.toNat x.v).ar.words 0 1 = x.v := by rw [e]; rfl
      have q2 : ((s.setWaits t l).setWord 0 x.w.toNat x.v).ar.words 0 2 = s.ar.words 0 2 := by rw [e]; rfl
      rw [q1, q2]; exact h3
    · rw [hd]
      have q1 : ((s.setWaits t l).setWord 0 x.w.toNat x.v).ar.words 0 1 = s.ar.words 0 1 := by rw [e]; rfl
      have q2 : ((s.setWaits t l).setWord 0 x.w.toNat x.v).ar.words 0 2 = x.v := by rw [e]; rfl
      rw [q1, q2]; exact h3

theorem load_one (hh : m.mem.ar.has 0 0 = true) (t r w : Nat) : m.load t r 1 w = m.setReg t r ((m.mem.waits t).foldl (Wt.pick 0 0 w) (m.mem.ar.words 0 w)) := by
  unfold Mk.load
  rw [if_pos (names_one hh)]
  rfl
theorem store_one (hh : m.mem.ar.has 0 0 = true) (t : Nat) (hf : (m.mem.waits t).length ≤ 3) (w v : Int) : m.store t 1 w v = m.setMem (m.mem.setWaits t (m.mem.waits t ++ [⟨0, 0, w, v⟩])) := by
  unfold Mk.store
  rw [if_pos (names_one hh)]
  unfold Mk.room
  rw [if_neg (by omega)]
  rfl

theorem Inv.cas (h : Inv T tm a m) (hp : a.ps[t]? = some p) (hlt : p < 19 * tm) (hq : p % 19 = 3) (hb : (a.o == some t) = false) (hO : Other 3 (m.regs t) (m.mem.waits t)) :
    Inv T tm ⟨a.ps.set t (p + 1), if a.o = none then some t else a.o⟩ ((m.setPc t (p + 1)).cas t 0 1 0 0 1) := by
  have ht : t < T := by rw [← h.len]; exact (List.getElem?_eq_some_iff.1 hp).1
  have hs : rounds (a.ps.set t (p + 1)) = rounds a.ps := by have := rounds_set (p' := p + 1) hp; omega
  have hf : (m.setPc t (p + 1)).fence t = m.setPc t (p + 1) := by
    unfold Mk.fence
    rw [show (m.setPc t (p + 1)).mem.waits t = [] from hO.ws]
    rfl
  have hn : (m.setPc t (p + 1)).names 1 = true := names_one h.has
  unfold Mk.cas
  rw [if_pos hn, hf]
  have hw : (m.setPc t (p + 1)).word 1 0 = m.mem.ar.words 0 0 := rfl
  rw [hw]
  have wne : ∀ v, ((m.setPc t (p + 1)).setWord 1 0 v).mem.ar.words 0 1 = m.mem.ar.words 0 1 ∧ ((m.setPc t (p + 1)).setWord 1 0 v).mem.ar.words 0 2 = m.mem.ar.words 0 2 ∧ ((m.setPc t (p + 1)).setWord 1 0 v).mem.ar.words 0 0 = v := fun v => ⟨rfl, rfl, rfl⟩
  by_cases hn : a.o = none
  · have h0 : m.mem.ar.words 0 0 = 0 := by rw [h.w0, if_pos hn]
    rw [h0, show casV 0 0 1 = 1 from rfl, if_pos hn]
    obtain ⟨f1, f2⟩ := h.free hn
    refine h.mv hp (p + 1) (some t) (fun u => rfl) (fun u hu => setReg_ne ((m.setPc t (p + 1)).setWord 1 0 1) t 0 0 u hu) (fun u hu => rfl) h.has h.faults h.thr (by omega) (fun u hu => ?_) (fun u _ e => ?_) ?_ (fun o e => by cases e; exact ht) ?_ (fun e => by cases e)
    · rw [hn]
      have : ¬ t = u := fun e => hu e.symm
      simp [this]
    · rw [hn] at e; cases e
    · rw [show (some t == some t) = true by simp, setReg_regs, hs, show (p + 1) % 19 = 4 by omega]
      refine ⟨.inl ⟨rfl, upd_same _ _ _⟩, (upd_ne _ _ (by decide)).trans hO.r7, fun e => absurd e (by omega), fun e => absurd e (by omega), fun e => absurd e (by omega), fun e => absurd e (by omega), fun e => absurd e (by omega), fun e => absurd e (by omega), fun e => absurd e (by omega), 0, Nat.zero_le _, ?_, f1, f2⟩
      exact hO.ws
    · rfl
  · have h0 : m.mem.ar.words 0 0 = 1 := by rw [h.w0, if_neg hn]
    rw [h0, show casV 1 0 1 = 1 from rfl, if_neg hn]
    refine h.mv hp (p + 1) a.o (fun u => rfl) (fun u hu => setReg_ne ((m.setPc t (p + 1)).setWord 1 0 1) t 0 1 u hu) (fun u hu => rfl) h.has h.faults h.thr (by omega) (fun u hu => rfl) (fun u _ _ => ⟨rfl, rfl, by omega⟩) ?_ h.own ?_ (fun e => absurd e hn)
    · rw [hb, setReg_regs, show (p + 1) % 19 = 4 by omega]
      exact ⟨by decide, (upd_ne _ _ (by decide)).trans hO.r7, fun e => absurd e (by omega), fun e => absurd e (by omega), fun _ => upd_same _ _ _, hO.ws⟩
    · rw [if_neg hn]; rfl

theorem Inv.give (h : Inv T tm a m) (hp : a.ps[t]? = some p) (hlt : p < 19 * tm) (hq : p % 19 = 18) (ho : a.o = some t) (hM : Mine 18 (m.regs t) (m.mem.waits t) (m.mem.ar.words 0 1) (m.mem.ar.words 0 2) (rounds a.ps)) :
    Inv T tm ⟨a.ps.set t (p + 1), none⟩ ((m.setPc t (p + 1)).swap t 0 1 0 0) := by
  have hs : rounds (a.ps.set t (p + 1)) = rounds a.ps + 1 := by have := rounds_set (p' := p + 1) hp; omega
  obtain ⟨g0, g1, g2⟩ := drain_mine (m.mem.waits t) m.mem rfl h.has hM
  obtain ⟨l1, l2⟩ := g1.all
  rw [if_neg (by omega)] at l1
  rw [if_neg (by omega)] at l2
  have hn : (m.setPc t (p + 1)).names 1 = true := names_one h.has
  unfold Mk.swap
  rw [if_pos hn]
  generalize hv : ((m.setPc t (p + 1)).fence t).word 1 0 = v
  have hmem : ((m.setPc t (p + 1)).fence t).mem = m.mem.drainAll t (m.mem.waits t) := rfl
  have hhas : (m.mem.drainAll t (m.mem.waits t)).ar.has 0 0 = true := by rw [Rm.drainAll_has]; exact h.has
  refine h.mv hp (p + 1) none (fun u => rfl) (fun u hu => setReg_ne (((m.setPc t (p + 1)).fence t).setWord 1 0 0) t 0 v u hu) (fun u hu => ?_) hhas ?_ ?_ (by omega) (fun u hu => ?_) (fun u hu e => ?_) ?_ (fun o e => by cases e) rfl (fun _ => ⟨l1, ?_⟩)
  · exact Rm.drainAll_waits_ne _ t u hu _
  · show m.faults + m.mem.gone t (m.mem.waits t) = 0
    rw [g0, h.faults]
  · show (m.mem.drainAll t (m.mem.waits t)).threads = T
    rw [(Rm.drainAll_ar _ _ _).2.2.2]; exact h.thr
  · rw [ho]
    have : ¬ t = u := fun e => hu e.symm
    simp [this]
  · rw [ho] at e
    exact absurd (Option.some.inj e).symm hu
  · rw [show (none == some t) = false by rfl, setReg_regs, show (p + 1) % 19 = 0 by omega]
    refine ⟨by decide, (upd_ne _ _ (by decide)).trans hM.r7, fun e => absurd e (by omega), fun e => absurd e (by omega), fun e => absurd e (by omega), ?_⟩
    exact Rm.drainAll_waits _ t _ rfl
  · rw [hs]
    show (m.mem.drainAll t (m.mem.waits t)).ar.words 0 2 = _
    rw [l2]
    push_cast
    rfl
end
end Go.Proofs.YtnnlkolhahjokaaGreatDoor

/- SpD -/
namespace Go.Proofs.YtnnlkolhahjokaaGreatDoor
open Go.RowKit

section
variable {T tm t p : Nat} {a : AS} {m : Mk}

theorem mine_own {a : AS} {t : Nat} (h : (a.o == some t) = true) : a.o = some t := by simpa using h

theorem Inv.step (h : Inv T tm a m) (htm : tm ≤ 3) (hT : T ≤ 6) (hp : a.ps[t]? = some p) (hlt : p < 19 * tm) : Inv T tm (aStep tm a t) (m.step (spCode tm) t) := by
  obtain ⟨hpc, hle⟩ := h.pc t p hp
  have tc := h.tc t p hp
  have hk : p / 19 < tm := by omega
  have hr : rounds a.ps ≤ T * tm := rounds_le (fun u q hq => (h.pc u q hq).2) h.len
  have hr' : rounds a.ps ≤ 18 := Nat.le_trans hr (Nat.le_trans (Nat.mul_le_mul hT htm) (by decide))
  obtain ⟨lb1, lb2⟩ := spLabs htm hk
  have hh : (m.setPc t (p + 1)).mem.ar.has 0 0 = true := h.has
  have hrt : (m.setPc t (p + 1)).regs = m.regs := rfl
  rw [spStep hpc hlt]
  have hq : p % 19 < 19 := Nat.mod_lt _ (by decide)
  generalize hqq : p % 19 = q at *
  have hcases : q = 0 ∨ q = 1 ∨ q = 2 ∨ q = 3 ∨ q = 4 ∨ q = 5 ∨ q = 6 ∨ q = 7 ∨ q = 8 ∨ q = 9 ∨ q = 10 ∨ q = 11 ∨ q = 12 ∨ q = 13 ∨ q = 14 ∨ q = 15 ∨ q = 16 ∨ q = 17 ∨ q = 18 := by omega
  rcases hcases with rfl | rfl | rfl | rfl | rfl | rfl | rfl | rfl | rfl | rfl | rfl | rfl | rfl | rfl | rfl | rfl | rfl | rfl | rfl
  · rw [ex0, aStepN hp hlt (by omega)]
    obtain ⟨hb, hO⟩ := tc.other' (by omega)
    refine h.place hp (p + 1) (by omega) (by omega) _ rfl (fun u => rfl) rfl rfl ?_
    rw [hb, show (p + 1) % 19 = 1 by omega]
    exact ⟨by decide, hO.r7, fun e => absurd e (by omega), fun e => absurd e (by omega), fun e => absurd e (by omega), hO.ws⟩
  · rw [ex1, aStepN hp hlt (by omega)]
    obtain ⟨hb, hO⟩ := tc.other' (by omega)
    refine h.reg hp hlt (by omega) 0 0 ?_
    rw [hb, hqq]
    exact ⟨by decide, (upd_ne _ _ (by decide)).trans hO.r7, fun _ => upd_same _ _ _, fun e => absurd e (by omega), fun e => absurd e (by omega), hO.ws⟩
  · rw [ex2, aStepN hp hlt (by omega)]
    obtain ⟨hb, hO⟩ := tc.other' (by omega)
    refine h.reg hp hlt (by omega) 1 1 ?_
    rw [hb, hqq]
    exact ⟨by decide, (upd_ne _ _ (by decide)).trans hO.r7, fun _ => (upd_ne _ _ (by decide)).trans (hO.r0a (by omega)), fun _ => upd_same _ _ _, fun e => absurd e (by omega), hO.ws⟩
  · rw [ex3, aStep3 hp hlt (by omega)]
    obtain ⟨hb, hO⟩ := tc.other' (by omega)
    rw [hrt, hO.r7, hO.r0a (by omega), hO.r1 rfl]
    exact h.cas hp hlt hqq hb hO
  · rw [ex4, aStep4 hp hlt (by omega), hrt]
    cases hb : (a.o == some t)
    · rw [hb] at tc
      have hO : Other 4 (m.regs t) (m.mem.waits t) := tc
      have ho : ¬ a.o = some t := fun e => by rw [e] at hb; simp at hb
      rw [hO.r0b rfl, if_neg ho, if_neg (by decide)]
      refine h.place hp (p + 1) (by omega) (by omega) _ rfl (fun u => rfl) rfl rfl ?_
      rw [hb, show (p + 1) % 19 = 5 by omega]
      exact ⟨by decide, hO.r7, fun e => absurd e (by omega), fun e => absurd e (by omega), fun e => absurd e (by omega), hO.ws⟩
    · rw [hb] at tc
      have hM : Mine 4 (m.regs t) (m.mem.waits t) (m.mem.ar.words 0 1) (m.mem.ar.words 0 2) (rounds a.ps) := tc
      have h0 : m.regs t 0 = 0 := by rcases hM.at' with e | e <;> first | exact e.2 | omega
      rw [if_pos h0, if_pos (mine_own hb)]
      unfold Mk.jump
      rw [lb2]
      refine h.place hp (p + 2) (by omega) (by omega) _ rfl (fun u => ?_) rfl rfl ?_
      · show (if u = t then _ else if u = t then _ else m.pc u) = _
        by_cases e : u = t
        · rw [if_pos e, if_pos e]; omega
        · rw [if_neg e, if_neg e, if_neg e]
      · rw [hb, show (p + 2) % 19 = 6 by omega]
        exact hM.next rfl (by decide) hM.r7 (fun e => absurd e (by omega)) (fun e => absurd e (by omega)) (fun e => absurd e (by omega)) (fun e => absurd e (by omega)) (fun e => absurd e (by omega)) (fun e => absurd e (by omega)) (fun e => absurd e (by omega))
  · rw [ex5, aStep5 hp hlt (by omega)]
    obtain ⟨hb, hO⟩ := tc.other' (by omega)
    unfold Mk.jump
    rw [lb1]
    refine h.place hp (p - 5) (by omega) (by omega) _ rfl (fun u => ?_) rfl rfl ?_
    · show (if u = t then _ else if u = t then _ else m.pc u) = _
      by_cases e : u = t
      · rw [if_pos e, if_pos e]; omega
      · rw [if_neg e, if_neg e, if_neg e]
    · rw [hb, show (p - 5) % 19 = 0 by omega]
      exact ⟨by decide, hO.r7, fun e => absurd e (by omega), fun e => absurd e (by omega), fun e => absurd e (by omega), hO.ws⟩
  · rw [ex6, aStepN hp hlt (by omega)]
    obtain ⟨hb, hM⟩ := tc.mine' (by omega)
    refine h.place hp (p + 1) (by omega) (by omega) _ rfl (fun u => rfl) rfl rfl ?_
    rw [hb, show (p + 1) % 19 = 7 by omega]
    exact hM.next rfl (by decide) hM.r7 (fun e => absurd e (by omega)) (fun e => absurd e (by omega)) (fun e => absurd e (by omega)) (fun e => absurd e (by omega)) (fun e => absurd e (by omega)) (fun e => absurd e (by omega)) (fun e => absurd e (by omega))
  · rw [ex7, aStepN hp hlt (by omega)]
    obtain ⟨hb, hM⟩ := tc.mine' (by omega)
    have hl := hM.look.1
    rw [if_neg (by omega)] at hl
    rw [hrt, hM.r7, show (1 : Int) = ((1 : Nat) : Int) from rfl, show (((1 : Nat) : Int)) = 1 from rfl]
    have e := load_one (m := m.setPc t (p + 1)) hh t 2 1
    rw [show (((1 : Nat) : Int)) = 1 from rfl] at e
    rw [e]
    show Inv T tm _ ((m.setPc t (p + 1)).setReg t 2 ((m.mem.waits t).foldl (Wt.pick 0 0 1) (m.mem.ar.words 0 1)))
    rw [hl]
    refine h.reg hp hlt (by omega) 2 0 ?_
    rw [hb, hqq]
    exact hM.next rfl (by decide) ((upd_ne _ _ (by decide)).trans hM.r7) (fun _ => upd_same _ _ _) (fun e => absurd e (by omega)) (fun e => absurd e (by omega)) (fun e => absurd e (by omega)) (fun e => absurd e (by omega)) (fun e => absurd e (by omega)) (fun e => absurd e (by omega))
  · rw [ex8, aStepN hp hlt (by omega)]
    obtain ⟨hb, hM⟩ := tc.mine' (by omega)
    refine h.reg hp hlt (by omega) 3 1 ?_
    rw [hb, hqq]
    exact hM.next rfl (by decide) ((upd_ne _ _ (by decide)).trans hM.r7) (fun _ => (upd_ne _ _ (by decide)).trans (hM.r2a (by omega))) (fun _ => upd_same _ _ _) (fun e => absurd e (by omega)) (fun e => absurd e (by omega)) (fun e => absurd e (by omega)) (fun e => absurd e (by omega)) (fun e => absurd e (by omega))
  · rw [ex9, aStepN hp hlt (by omega)]
    obtain ⟨hb, hM⟩ := tc.mine' (by omega)
    rw [hrt, hM.r2a (by omega), hM.r3 (by omega), show xorW 0 1 = 1 from rfl]
    refine h.reg hp hlt (by omega) 4 1 ?_
    rw [hb, hqq]
    exact hM.next rfl (by decide) ((upd_ne _ _ (by decide)).trans hM.r7) (fun e => absurd e (by omega)) (fun _ => (upd_ne _ _ (by decide)).trans (hM.r3 (by omega))) (fun _ => upd_same _ _ _) (fun e => absurd e (by omega)) (fun e => absurd e (by omega)) (fun e => absurd e (by omega)) (fun e => absurd e (by omega))
  · rw [ex10, aStepN hp hlt (by omega)]
    obtain ⟨hb, hM⟩ := tc.mine' (by omega)
    rw [hrt, hM.r4a rfl]
    unfold Mk.need
    rw [if_neg (by decide)]
    refine h.place hp (p + 1) (by omega) (by omega) _ rfl (fun u => rfl) rfl rfl ?_
    rw [hb, show (p + 1) % 19 = 11 by omega]
    exact hM.next rfl (by decide) hM.r7 (fun e => absurd e (by omega)) (fun _ => hM.r3 (by omega)) (fun e => absurd e (by omega)) (fun e => absurd e (by omega)) (fun e => absurd e (by omega)) (fun e => absurd e (by omega)) (fun e => absurd e (by omega))
  · rw [ex11, aStepN hp hlt (by omega)]
    obtain ⟨hb, hM⟩ := tc.mine' (by omega)
    rw [hrt, hM.r7, hM.r3 (by omega), store_one hh t hM.few]
    refine h.store hp hlt (by omega) ⟨0, 0, 1, 1⟩ (mine_own hb) ?_
    rw [hqq]
    exact ⟨.inr (by decide), hM.r7, fun e => absurd e (by omega), fun _ => hM.r3 (by omega), fun e => absurd e (by omega), fun e => absurd e (by omega), fun e => absurd e (by omega), fun e => absurd e (by omega), fun e => absurd e (by omega), hM.put (.inl ⟨rfl, rfl⟩)⟩
  · rw [ex12, aStepN hp hlt (by omega)]
    obtain ⟨hb, hM⟩ := tc.mine' (by omega)
    have hl := hM.look.2
    rw [if_pos (by omega)] at hl
    rw [hrt, hM.r7]
    have e := load_one (m := m.setPc t (p + 1)) hh t 2 2
    rw [show (((2 : Nat) : Int)) = 2 from rfl] at e
    rw [e]
    show Inv T tm _ ((m.setPc t (p + 1)).setReg t 2 ((m.mem.waits t).foldl (Wt.pick 0 0 2) (m.mem.ar.words 0 2)))
    rw [hl]
    refine h.reg hp hlt (by omega) 2 _ ?_
    rw [hb, hqq]
    exact hM.next rfl (by decide) ((upd_ne _ _ (by decide)).trans hM.r7) (fun e => absurd e (by omega)) (fun _ => (upd_ne _ _ (by decide)).trans (hM.r3 (by omega))) (fun e => absurd e (by omega)) (fun _ => upd_same _ _ _) (fun e => absurd e (by omega)) (fun e => absurd e (by omega)) (fun e => absurd e (by omega))
  · rw [ex13, aStepN hp hlt (by omega)]
    obtain ⟨hb, hM⟩ := tc.mine' (by omega)
    rw [hrt, hM.r2b rfl, hM.r3 (by omega), show (((rounds a.ps : Nat) : Int) + 1) % 4294967296 = (rounds a.ps : Int) + 1 by omega]
    refine h.reg hp hlt (by omega) 2 _ ?_
    rw [hb, hqq]
    exact hM.next rfl (by decide) ((upd_ne _ _ (by decide)).trans hM.r7) (fun e => absurd e (by omega)) (fun e => absurd e (by omega)) (fun e => absurd e (by omega)) (fun e => absurd e (by omega)) (fun _ => upd_same _ _ _) (fun e => absurd e (by omega)) (fun e => absurd e (by omega))
  · rw [ex14, aStepN hp hlt (by omega)]
    obtain ⟨hb, hM⟩ := tc.mine' (by omega)
    rw [hrt, hM.r7, hM.r2c rfl, store_one hh t hM.few]
    refine h.store hp hlt (by omega) ⟨0, 0, 2, _⟩ (mine_own hb) ?_
    rw [hqq]
    exact ⟨.inr (by decide), hM.r7, fun e => absurd e (by omega), fun e => absurd e (by omega), fun e => absurd e (by omega), fun e => absurd e (by omega), fun e => absurd e (by omega), fun e => absurd e (by omega), fun e => absurd e (by omega), hM.put (.inr (.inl ⟨rfl, rfl⟩))⟩
  · rw [ex15, aStepN hp hlt (by omega)]
    obtain ⟨hb, hM⟩ := tc.mine' (by omega)
    refine h.reg hp hlt (by omega) 4 0 ?_
    rw [hb, hqq]
    exact hM.next rfl (by decide) ((upd_ne _ _ (by decide)).trans hM.r7) (fun e => absurd e (by omega)) (fun e => absurd e (by omega)) (fun e => absurd e (by omega)) (fun e => absurd e (by omega)) (fun e => absurd e (by omega)) (fun _ => upd_same _ _ _) (fun e => absurd e (by omega))
  · rw [ex16, aStepN hp hlt (by omega)]
    obtain ⟨hb, hM⟩ := tc.mine' (by omega)
    rw [hrt, hM.r7, hM.r4b rfl, store_one hh t hM.few]
    refine h.store hp hlt (by omega) ⟨0, 0, 1, 0⟩ (mine_own hb) ?_
    rw [hqq]
    exact ⟨.inr (by decide), hM.r7, fun e => absurd e (by omega), fun e => absurd e (by omega), fun e => absurd e (by omega), fun e => absurd e (by omega), fun e => absurd e (by omega), fun e => absurd e (by omega), fun e => absurd e (by omega), hM.put (.inr (.inr ⟨rfl, rfl⟩))⟩
  · rw [ex17, aStepN hp hlt (by omega)]
    obtain ⟨hb, hM⟩ := tc.mine' (by omega)
    refine h.reg hp hlt (by omega) 0 0 ?_
    rw [hb, hqq]
    exact hM.next rfl (by decide) ((upd_ne _ _ (by decide)).trans hM.r7) (fun e => absurd e (by omega)) (fun e => absurd e (by omega)) (fun e => absurd e (by omega)) (fun e => absurd e (by omega)) (fun e => absurd e (by omega)) (fun e => absurd e (by omega)) (fun _ => upd_same _ _ _)
  · rw [ex18, aStep18 hp hlt (by omega)]
    obtain ⟨hb, hM⟩ := tc.mine' (by omega)
    rw [hrt, hM.r7, hM.r0 rfl]
    exact h.give hp hlt hqq (mine_own hb) hM

theorem set_self {l : List Nat} {t p : Nat} (hp : l[t]? = some p) : l.set t p = l := by
  apply List.ext_getElem?
  intro i
  by_cases e : i = t
  · subst e
    rw [List.getElem?_set_self (List.getElem?_eq_some_iff.1 hp).1, hp]
  · rw [List.getElem?_set_ne (fun h => e h.symm)]

theorem Inv.drain (h : Inv T tm a m) (hp : a.ps[t]? = some p) : Inv T tm a (m.drain1 t) := by
  unfold Mk.drain1
  cases hw : m.mem.waits t with
  | nil => exact h
  | cons x l =>
    have tc := h.tc t p hp
    cases hb : (a.o == some t)
    · rw [hb] at tc
      have hO : Other (p % 19) (m.regs t) (m.mem.waits t) := tc
      have := hO.ws
      rw [hw] at this
      cases this
    · rw [hb] at tc
      have hM : Mine (p % 19) (m.regs t) (m.mem.waits t) (m.mem.ar.words 0 1) (m.mem.ar.words 0 2) (rounds a.ps) := tc
      obtain ⟨e1, e2, e3⟩ := hM.drain hw
      have hs := set_self hp
      have key := h.mv hp p a.o (m' := { m with mem := m.mem.drained t x l, faults := m.faults + if m.mem.ar.has x.c x.g = true then 0 else 1 })
      rw [hs] at key
      have hd : m.mem.drained t x l = (m.mem.setWaits t l).setWord 0 x.w.toNat x.v := by
        unfold Rm.drained
        rw [e1, e2, if_pos h.has]
        rfl
      have ho := mine_own hb
      refine key (fun u => ?_) (fun u _ => rfl) (fun u hu => ?_) ?_ ?_ ?_ (h.pc t p hp).2 (fun _ _ => rfl) (fun u hu e => ?_) ?_ h.own ?_ (fun e => ?_)
      · show m.pc u = _
        by_cases e : u = t
        · rw [if_pos e, e]; exact (h.pc t p hp).1
        · rw [if_neg e]
      · exact Rm.drained_waits_ne m.mem t u x l hu
      · show (m.mem.drained t x l).ar.has 0 0 = true
        rw [hd]; exact h.has
      · show m.faults + (if m.mem.ar.has x.c x.g = true then 0 else 1) = 0
        rw [e1, e2, if_pos h.has, h.faults]
      · show (m.mem.drained t x l).threads = T
        rw [hd]; exact h.thr
      · rw [ho] at e
        exact absurd (Option.some.inj e).symm hu
      · rw [hb]
        show Mine _ (m.regs t) ((m.mem.drained t x l).waits t) ((m.mem.drained t x l).ar.words 0 1) ((m.mem.drained t x l).ar.words 0 2) _
        rw [m.mem.drained_waits t x l, hd]
        rcases e3 with ⟨e, h3⟩ | ⟨e, h3⟩
        · have q1 : ((m.mem.setWaits t l).setWord 0 x.w.toNat x.v).ar.words 0 1 = x.v := by rw [e]; rfl
          have q2 : ((m.mem.setWaits t l).setWord 0 x.w.toNat x.v).ar.words 0 2 = m.mem.ar.words 0 2 := by rw [e]; rfl
          rw [q1, q2]; exact h3
        · have q1 : ((m.mem.setWaits t l).setWord 0 x.w.toNat x.v).ar.words 0 1 = m.mem.ar.words 0 1 := by rw [e]; rfl
          have q2 : ((m.mem.setWaits t l).setWord 0 x.w.toNat x.v).ar.words 0 2 = x.v := by rw [e]; rfl
          rw [q1, q2]; exact h3
      · show (m.mem.drained t x l).ar.words 0 0 = _
        rw [← h.w0, hd]
        show (if 0 = 0 ∧ 0 = x.w.toNat then x.v else m.mem.ar.words 0 0) = _
        rw [if_neg]
        rcases e3 with ⟨e, -⟩ | ⟨e, -⟩ <;> rw [e] <;> decide
      · rw [ho] at e; cases e

theorem getD_rep {α : Type} (n i : Nat) (x d : α) (h : i < n) : (List.replicate n x).getD i d = x := by
  rw [List.getD_eq_getElem?_getD, List.getElem?_replicate, if_pos h]; rfl

theorem Inv.turn (h : Inv T tm a m) (htm : tm ≤ 3) (hT : T ≤ 6) (h1 : 1 ≤ T) (n : Int) : Inv T tm (aTurn tm T a n) (m.turnO (List.replicate T (spCode tm)) n).2 := by
  unfold aTurn Mk.turnO
  rw [List.length_replicate]
  have b1 := Int.emod_nonneg n (show (2 * (T : Int)) ≠ 0 by omega)
  have b2 := Int.emod_lt_of_pos n (show 0 < (2 * (T : Int)) by omega)
  generalize n % (2 * (T : Int)) = k at *
  obtain ⟨i, rfl⟩ := Int.eq_ofNat_of_zero_le b1
  by_cases hk : ((i : Nat) : Int) < T
  · rw [if_pos hk, if_pos hk]
    have hi : i < T := by omega
    unfold Mk.stepO
    rw [List.length_replicate, if_pos ⟨by omega, hk⟩]
    rw [show ((i : Nat) : Int).toNat = i from rfl, getD_rep _ _ _ _ hi, spDone]
    obtain ⟨p, hp⟩ : ∃ p, a.ps[i]? = some p := ⟨_, List.getElem?_eq_getElem (by rw [h.len]; exact hi)⟩
    have hpc := (h.pc i p hp).1
    rw [hpc]
    by_cases hlt : 19 * tm ≤ p
    · rw [decide_eq_true hlt, if_pos rfl, aStepE hp hlt]
      exact h
    · rw [decide_eq_false hlt, if_neg (by decide)]
      exact h.step htm hT hp (by omega)
  · rw [if_neg hk, if_neg hk]
    unfold Mk.drainO
    rw [List.length_replicate]
    have hi : (i - T : Nat) < T := by omega
    have e : ((i : Nat) : Int) - T = ((i - T : Nat) : Int) := by omega
    rw [e, if_pos ⟨by omega, by omega⟩, show (((i - T : Nat) : Nat) : Int).toNat = i - T from rfl]
    obtain ⟨p, hp⟩ : ∃ p, a.ps[i - T]? = some p := ⟨_, List.getElem?_eq_getElem (by rw [h.len]; exact hi)⟩
    split
    · exact h
    · exact h.drain hp

def aRun (tm T : Nat) (a : AS) : List Int → AS
  | [] => a
  | n :: l => aRun tm T (aTurn tm T a n) l
theorem Inv.run (htm : tm ≤ 3) (hT : T ≤ 6) (h1 : 1 ≤ T) : ∀ (l : List Int) {a : AS} {m : Mk}, Inv T tm a m → Inv T tm (aRun tm T a l) (m.runO (List.replicate T (spCode tm)) l).2
  | [], _, _, h => h
  | n :: l, _, _, h => Inv.run htm hT h1 l (h.turn htm hT h1 n)

theorem Inv.start {m : Mk} (h0 : ∀ u, m.pc u = 0) (h7 : ∀ u, u < T → m.regs u 7 = 1) (hw : ∀ u, u < T → m.mem.waits u = []) (hz : ∀ j, m.mem.ar.words 0 j = 0) (hh : m.mem.ar.has 0 0 = true) (hf : m.faults = 0) (ht : m.mem.threads = T) : Inv T tm ⟨List.replicate T 0, none⟩ m where
  len := List.length_replicate
  pc t p hp := by
    rw [List.getElem?_replicate] at hp
    split at hp
    · cases hp; exact ⟨h0 t, Nat.zero_le _⟩
    · cases hp
  tc t p hp := by
    rw [List.getElem?_replicate] at hp
    split at hp
    · rename_i hlt
      cases hp
      exact ⟨by decide, h7 t hlt, fun e => absurd e (by omega), fun e => absurd e (by omega), fun e => absurd e (by omega), hw t hlt⟩
    · cases hp
  own o e := by cases e
  w0 := by rw [if_pos rfl]; exact hz 0
  free _ := by
    refine ⟨hz 1, ?_⟩
    rw [hz 2]
    have : rounds (List.replicate T 0) = 0 := by simp [rounds]
    rw [this]; rfl
  has := hh
  faults := hf
  thr := ht
end
end Go.Proofs.YtnnlkolhahjokaaGreatDoor

/- CodeC -/
namespace Go.Proofs.YtnnlkolhahjokaaGreatDoor
open Go.RowKit Go.Extern.Stop Go.Stop Go.Extern
def Ins.cells (x : Ins) : List Value := [.string x.op, .int .i64 x.a, .int .i64 x.b, .int .i64 x.c, .string x.to]

end Go.Proofs.YtnnlkolhahjokaaGreatDoor
