import Derived.Test.YtgmokighfgdnjaaGreatDoorB38
import Derived.Test.YtgmokighfgdnjaaGreatDoorB25
import Derived.Laws.IdiomStrings
import Derived.Test.YtgmokighfgdnjaaGreatDoorB22
import Derived.Test.YtgmokighfgdnjaaGreatDoorB31

/- SpD -/
namespace Go.Proofs.YtgmokighfgdnjaaGreatDoor
open Go.RowKit

section
variable {T tm t p : Nat} {a : AS} {m : Mk}

theorem mine_own {a : AS} {t : Nat} (h : (a.o == some t) = true) : a.o = some t := by simpa using h

theorem Inv.step (h : Inv T tm a m) (htm : tm ≤ 3) (hT : T ≤ 6) (hp : a.ps[t]? = some p) (hlt : p < 19 * tm) : Inv T tm (aStep tm a t) (m.step (spCode tm) t) := by
  obtain ⟨hpc, hle⟩ := h.pc t p hp
  have tc := h.tc t p hp
  have hk : p / 19 < tm := by omega
  have hr : rounds a.ps ≤ T * tm := rounds_le (fun u q hq => (h.pc u q hq).2) h.len
  have hr' : rounds a.ps ≤ 18 := Nat.le_trans hr (Nat.le_trans (Nat.mul_le_mul hT htm) (by decide))
  obtain ⟨lb1, lb2⟩ := spLabs htm hk
  have hh : (m.setPc t (p + 1)).mem.ar.has 0 0 = true := h.has
  have hrt : (m.setPc t (p + 1)).regs = m.regs := rfl
  rw [spStep hpc hlt]
  have hq : p % 19 < 19 := Nat.mod_lt _ (by decide)
  generalize hqq : p % 19 = q at *
  have hcases : q = 0 ∨ q = 1 ∨ q = 2 ∨ q = 3 ∨ q = 4 ∨ q = 5 ∨ q = 6 ∨ q = 7 ∨ q = 8 ∨ q = 9 ∨ q = 10 ∨ q = 11 ∨ q = 12 ∨ q = 13 ∨ q = 14 ∨ q = 15 ∨ q = 16 ∨ q = 17 ∨ q = 18 := by omega
  rcases hcases with rfl | rfl | rfl | rfl | rfl | rfl | rfl | rfl | rfl | rfl | rfl | rfl | rfl | rfl | rfl | rfl | rfl | rfl | rfl
  · rw [ex0, aStepN hp hlt (by omega)]
    obtain ⟨hb, hO⟩ := tc.other' (by omega)
    refine h.place hp (p + 1) (by omega) (by omega) _ rfl (fun u => rfl) rfl rfl ?_
    rw [hb, show (p + 1) % 19 = 1 by omega]
    exact ⟨by decide, hO.r7, fun e => absurd e (by omega), fun e => absurd e (by omega), fun e => absurd e (by omega), hO.ws⟩
  · rw [ex1, aStepN hp hlt (by omega)]
    obtain ⟨hb, hO⟩ := tc.other' (by omega)
    refine h.reg hp hlt (by omega) 0 0 ?_
    rw [hb, hqq]
    exact ⟨by decide, (upd_ne _ _ (by decide)).trans hO.r7, fun _ => upd_same _ _ _, fun e => absurd e (by omega), fun e => absurd e (by omega), hO.ws⟩
  · rw [ex2, aStepN hp hlt (by omega)]
    obtain ⟨hb, hO⟩ := tc.other' (by omega)
    refine h.reg hp hlt (by omega) 1 1 ?_
    rw [hb, hqq]
    exact ⟨by decide, (upd_ne _ _ (by decide)).trans hO.r7, fun _ => (upd_ne _ _ (by decide)).trans (hO.r0a (by omega)), fun _ => upd_same _ _ _, fun e => absurd e (by omega), hO.ws⟩
  · rw [ex3, aStep3 hp hlt (by omega)]
    obtain ⟨hb, hO⟩ := tc.other' (by omega)
    rw [hrt, hO.r7, hO.r0a (by omega), hO.r1 rfl]
    exact h.cas hp hlt hqq hb hO
  · rw [ex4, aStep4 hp hlt (by omega), hrt]
    cases hb : (a.o == some t)
    · rw [hb] at tc
      have hO : Other 4 (m.regs t) (m.mem.waits t) := tc
      have ho : ¬ a.o = some t := fun e => by rw [e] at hb; simp at hb
      rw [hO.r0b rfl, if_neg ho, if_neg (by decide)]
      refine h.place hp (p + 1) (by omega) (by omega) _ rfl (fun u => rfl) rfl rfl ?_
      rw [hb, show (p + 1) % 19 = 5 by omega]
      exact ⟨by decide, hO.r7, fun e => absurd e (by omega), fun e => absurd e (by omega), fun e => absurd e (by omega), hO.ws⟩
    · rw [hb] at tc
      have hM : Mine 4 (m.regs t) (m.mem.waits t) (m.mem.ar.words 0 1) (m.mem.ar.words 0 2) (rounds a.ps) := tc
      have h0 : m.regs t 0 = 0 := by rcases hM.at' with e | e <;> first | exact e.2 | omega
      rw [if_pos h0, if_pos (mine_own hb)]
      unfold Mk.jump
      rw [lb2]
      refine h.place hp (p + 2) (by omega) (by omega) _ rfl (fun u => ?_) rfl rfl ?_
      · show (if u = t then _ else if u = t then _ else m.pc u) = _
        by_cases e : u = t
        · rw [if_pos e, if_pos e]; omega
        · rw [if_neg e, if_neg e, if_neg e]
      · rw [hb, show (p + 2) % 19 = 6 by omega]
        exact hM.next rfl (by decide) hM.r7 (fun e => absurd e (by omega)) (fun e => absurd e (by omega)) (fun e => absurd e (by omega)) (fun e => absurd e (by omega)) (fun e => absurd e (by omega)) (fun e => absurd e (by omega)) (fun e => absurd e (by omega))
  · rw [ex5, aStep5 hp hlt (by omega)]
    obtain ⟨hb, hO⟩ := tc.other' (by omega)
    unfold Mk.jump
    rw [lb1]
    refine h.place hp (p - 5) (by omega) (by omega) _ rfl (fun u => ?_) rfl rfl ?_
    · show (if u = t then _ else if u = t then _ else m.pc u) = _
      by_cases e : u = t
      · rw [if_pos e, if_pos e]; omega
      · rw [if_neg e, if_neg e, if_neg e]
    · rw [hb, show (p - 5) % 19 = 0 by omega]
      exact ⟨by decide, hO.r7, fun e => absurd e (by omega), fun e => absurd e (by omega), fun e => absurd e (by omega), hO.ws⟩
  · rw [ex6, aStepN hp hlt (by omega)]
    obtain ⟨hb, hM⟩ := tc.mine' (by omega)
    refine h.place hp (p + 1) (by omega) (by omega) _ rfl (fun u => rfl) rfl rfl ?_
    rw [hb, show (p + 1) % 19 = 7 by omega]
    exact hM.next rfl (by decide) hM.r7 (fun e => absurd e (by omega)) (fun e => absurd e (by omega)) (fun e => absurd e (by omega)) (fun e => absurd e (by omega)) (fun e => absurd e (by omega)) (fun e => absurd e (by omega)) (fun e => absurd e (by omega))
  · rw [ex7, aStepN hp hlt (by omega)]
    obtain ⟨hb, hM⟩ := tc.mine' (by omega)
    have hl := hM.look.1
    rw [if_neg (by omega)] at hl
    rw [hrt, hM.r7, show (1 : Int) = ((1 : Nat) : Int) from rfl, show (((1 : Nat) : Int)) = 1 from rfl]
    have e := load_one (m := m.setPc t (p + 1)) hh t 2 1
    rw [show (((1 : Nat) : Int)) = 1 from rfl] at e
    rw [e]
    show Inv T tm _ ((m.setPc t (p + 1)).setReg t 2 ((m.mem.waits t).foldl (Wt.pick 0 0 1) (m.mem.ar.words 0 1)))
    rw [hl]
    refine h.reg hp hlt (by omega) 2 0 ?_
    rw [hb, hqq]
    exact hM.next rfl (by decide) ((upd_ne _ _ (by decide)).trans hM.r7) (fun _ => upd_same _ _ _) (fun e => absurd e (by omega)) (fun e => absurd e (by omega)) (fun e => absurd e (by omega)) (fun e => absurd e (by omega)) (fun e => absurd e (by omega)) (fun e => absurd e (by omega))
  · rw [ex8, aStepN hp hlt (by omega)]
    obtain ⟨hb, hM⟩ := tc.mine' (by omega)
    refine h.reg hp hlt (by omega) 3 1 ?_
    rw [hb, hqq]
    exact hM.next rfl (by decide) ((upd_ne _ _ (by decide)).trans hM.r7) (fun _ => (upd_ne _ _ (by decide)).trans (hM.r2a (by omega))) (fun _ => upd_same _ _ _) (fun e => absurd e (by omega)) (fun e => absurd e (by omega)) (fun e => absurd e (by omega)) (fun e => absurd e (by omega)) (fun e => absurd e (by omega))
  · rw [ex9, aStepN hp hlt (by omega)]
    obtain ⟨hb, hM⟩ := tc.mine' (by omega)
    rw [hrt, hM.r2a (by omega), hM.r3 (by omega), show xorW 0 1 = 1 from rfl]
    refine h.reg hp hlt (by omega) 4 1 ?_
    rw [hb, hqq]
    exact hM.next rfl (by decide) ((upd_ne _ _ (by decide)).trans hM.r7) (fun e => absurd e (by omega)) (fun _ => (upd_ne _ _ (by decide)).trans (hM.r3 (by omega))) (fun _ => upd_same _ _ _) (fun e => absurd e (by omega)) (fun e => absurd e (by omega)) (fun e => absurd e (by omega)) (fun e => absurd e (by omega))
  · rw [ex10, aStepN hp hlt (by omega)]
    obtain ⟨hb, hM⟩ := tc.mine' (by omega)
    rw [hrt, hM.r4a rfl]
    unfold Mk.need
    rw [if_neg (by decide)]
    refine h.place hp (p + 1) (by omega) (by omega) _ rfl (fun u => rfl) rfl rfl ?_
    rw [hb, show (p + 1) % 19 = 11 by omega]
    exact hM.next rfl (by decide) hM.r7 (fun e => absurd e (by omega)) (fun _ => hM.r3 (by omega)) (fun e => absurd e (by omega)) (fun e => absurd e (by omega)) (fun e => absurd e (by omega)) (fun e => absurd e (by omega)) (fun e => absurd e (by omega))
  · rw [ex11, aStepN hp hlt (by omega)]
    obtain ⟨hb, hM⟩ := tc.mine' (by omega)
    rw [hrt, hM.r7, hM.r3 (by omega), store_one hh t hM.few]
    refine h.store hp hlt (by omega) ⟨0, 0, 1, 1⟩ (mine_own hb) ?_
    rw [hqq]
    exact ⟨.inr (by decide), hM.r7, fun e => absurd e (by omega), fun _ => hM.r3 (by omega), fun e => absurd e (by omega), fun e => absurd e (by omega), fun e => absurd e (by omega), fun e => absurd e (by omega), fun e => absurd e (by omega), hM.put (.inl ⟨rfl, rfl⟩)⟩
  · rw [ex12, aStepN hp hlt (by omega)]
    obtain ⟨hb, hM⟩ := tc.mine' (by omega)
    have hl := hM.look.2
    rw [if_pos (by omega)] at hl
    rw [hrt, hM.r7]
    have e := load_one (m := m.setPc t (p + 1)) hh t 2 2
    rw [show (((2 : Nat) : Int)) = 2 from rfl] at e
    rw [e]
    show Inv T tm _ ((m.setPc t (p + 1)).setReg t 2 ((m.mem.waits t).foldl (Wt.pick 0 0 2) (m.mem.ar.words 0 2)))
    rw [hl]
    refine h.reg hp hlt (by omega) 2 _ ?_
    rw [hb, hqq]
    exact hM.next rfl (by decide) ((upd_ne _ _ (by decide)).trans hM.r7) (fun e => absurd e (by omega)) (fun _ => (upd_ne _ _ (by decide)).trans (hM.r3 (by omega))) (fun e => absurd e (by omega)) (fun _ => upd_same _ _ _) (fun e => absurd e (by omega)) (fun e => absurd e (by omega)) (fun e => absurd e (by omega))
  · rw [ex13, aStepN hp hlt (by omega)]
    obtain ⟨hb, hM⟩ := tc.mine' (by omega)
    rw [hrt, hM.r2b rfl, hM.r3 (by omega), show (((rounds a.ps : Nat) : Int) + 1) % 4294967296 = (rounds a.ps : Int) + 1 by omega]
    refine h.reg hp hlt (by omega) 2 _ ?_
    rw [hb, hqq]
    exact hM.next rfl (by decide) ((upd_ne _ _ (by decide)).trans hM.r7) (fun e => absurd e (by omega)) (fun e => absurd e (by omega)) (fun e => absurd e (by omega)) (fun e => absurd e (by omega)) (fun _ => upd_same _ _ _) (fun e => absurd e (by omega)) (fun e => absurd e (by omega))
  · rw [ex14, aStepN hp hlt (by omega)]
    obtain ⟨hb, hM⟩ := tc.mine' (by omega)
    rw [hrt, hM.r7, hM.r2c rfl, store_one hh t hM.few]
    refine h.store hp hlt (by omega) ⟨0, 0, 2, _⟩ (mine_own hb) ?_
    rw [hqq]
    exact ⟨.inr (by decide), hM.r7, fun e => absurd e (by omega), fun e => absurd e (by omega), fun e => absurd e (by omega), fun e => absurd e (by omega), fun e => absurd e (by omega), fun e => absurd e (by omega), fun e => absurd e (by omega), hM.put (.inr (.inl ⟨rfl, rfl⟩))⟩
  · rw [ex15, aStepN hp hlt (by omega)]
    obtain ⟨hb, hM⟩ := tc.mine' (by omega)
    refine h.reg hp hlt (by omega) 4 0 ?_
    rw [hb, hqq]
    exact hM.next rfl (by decide) ((upd_ne _ _ (by decide)).trans hM.r7) (fun e => absurd e (by omega)) (fun e => absurd e (by omega)) (fun e => absurd e (by omega)) (fun e => absurd e (by omega)) (fun e => absurd e (by omega)) (fun _ => upd_same _ _ _) (fun e => absurd e (by omega))
  · rw [ex16, aStepN hp hlt (by omega)]
    obtain ⟨hb, hM⟩ := tc.mine' (by omega)
    rw [hrt, hM.r7, hM.r4b rfl, store_one hh t hM.few]
    refine h.store hp hlt (by omega) ⟨0, 0, 1, 0⟩ (mine_own hb) ?_
    rw [hqq]
    exact ⟨.inr (by decide), hM.r7, fun e => absurd e (by omega), fun e => absurd e (by omega), fun e => absurd e (by omega), fun e => absurd e (by omega), fun e => absurd e (by omega), fun e => absurd e (by omega), fun e => absurd e (by omega), hM.put (.inr (.inr ⟨rfl, rfl⟩))⟩
  · rw [ex17, aStepN hp hlt (by omega)]
    obtain ⟨hb, hM⟩ := tc.mine' (by omega)
    refine h.reg hp hlt (by omega) 0 0 ?_
    rw [hb, hqq]
    exact hM.next rfl (by decide) ((upd_ne _ _ (by decide)).trans hM.r7) (fun e => absurd e (by omega)) (fun e => absurd e (by omega)) (fun e => absurd e (by omega)) (fun e => absurd e (by omega)) (fun e => absurd e (by omega)) (fun e => absurd e (by omega)) (fun _ => upd_same _ _ _)
  · rw [ex18, aStep18 hp hlt (by omega)]
    obtain ⟨hb, hM⟩ := tc.mine' (by omega)
    rw [hrt, hM.r7, hM.r0 rfl]
    exact h.give hp hlt hqq (mine_own hb) hM

theorem set_self {l : List Nat} {t p : Nat} (hp : l[t]? = some p) : l.set t p = l := by
  apply List.ext_getElem?
  intro i
  by_cases e : i = t
  · subst e
    rw [List.getElem?_set_self (List.getElem?_eq_some_iff.1 hp).1, hp]
  · rw [List.getElem?_set_ne (fun h => e h.symm)]

theorem Inv.drain (h : Inv T tm a m) (hp : a.ps[t]? = some p) : Inv T tm a (m.drain1 t) := by
  unfold Mk.drain1
  cases hw : m.mem.waits t with
  | nil => exact h
  | cons x l =>
    have tc := h.tc t p hp
    cases hb : (a.o == some t)
    · rw [hb] at tc
      have hO : Other (p % 19) (m.regs t) (m.mem.waits t) := tc
      have := hO.ws
      rw [hw] at this
      cases this
    · rw [hb] at tc
      have hM : Mine (p % 19) (m.regs t) (m.mem.waits t) (m.mem.ar.words 0 1) (m.mem.ar.words 0 2) (rounds a.ps) := tc
      obtain ⟨e1, e2, e3⟩ := hM.drain hw
      have hs := set_self hp
      have key := h.mv hp p a.o (m' := { m with mem := m.mem.drained t x l, faults := m.faults + if m.mem.ar.has x.c x.g = true then 0 else 1 })
      rw [hs] at key
      have hd : m.mem.drained t x l = (m.mem.setWaits t l).setWord 0 x.w.toNat x.v := by
        unfold Rm.drained
        rw [e1, e2, if_pos h.has]
        rfl
      have ho := mine_own hb
      refine key (fun u => ?_) (fun u _ => rfl) (fun u hu => ?_) ?_ ?_ ?_ (h.pc t p hp).2 (fun _ _ => rfl) (fun u hu e => ?_) ?_ h.own ?_ (fun e => ?_)
      · show m.pc u = _
        by_cases e : u = t
        · rw [if_pos e, e]; exact (h.pc t p hp).1
        · rw [if_neg e]
      · exact Rm.drained_waits_ne m.mem t u x l hu
      · show (m.mem.drained t x l).ar.has 0 0 = true
        rw [hd]; exact h.has
      · show m.faults + (if m.mem.ar.has x.c x.g = true then 0 else 1) = 0
        rw [e1, e2, if_pos h.has, h.faults]
      · show (m.mem.drained t x l).threads = T
        rw [hd]; exact h.thr
      · rw [ho] at e
        exact absurd (Option.some.inj e).symm hu
      · rw [hb]
        show Mine _ (m.regs t) ((m.mem.drained t x l).waits t) ((m.mem.drained t x l).ar.words 0 1) ((m.mem.drained t x l).ar.words 0 2) _
        rw [m.mem.drained_waits t x l, hd]
        rcases e3 with ⟨e, h3⟩ | ⟨e, h3⟩
        · have q1 : ((m.mem.setWaits t l).setWord 0 x.w.toNat x.v).ar.words 0 1 = x.v := by rw [e]; rfl
          have q2 : ((m.mem.setWaits t l).setWord 0 x.w.toNat x.v).ar.words 0 2 = m.mem.ar.words 0 2 := by rw [e]; rfl
          rw [q1, q2]; exact h3
        · have q1 : ((m.mem.setWaits t l).setWord 0 x.w.toNat x.v).ar.words 0 1 = m.mem.ar.words 0 1 := by rw [e]; rfl
          have q2 : ((m.mem.setWaits t l).setWord 0 x.w.toNat x.v).ar.words 0 2 = x.v := by rw [e]; rfl
          rw [q1, q2]; exact h3
      · show (m.mem.drained t x l).ar.words 0 0 = _
        rw [← h.w0, hd]
        show (if 0 = 0 ∧ 0 = x.w.toNat then x.v else m.mem.ar.words 0 0) = _
        rw [if_neg]
        rcases e3 with ⟨e, -⟩ | ⟨e, -⟩ <;> rw [e] <;> decide
      · rw [ho] at e; cases e

theorem getD_rep {α : Type} (n i : Nat) (x d : α) (h : i < n) : (List.replicate n x).getD i d = x := by
  rw [List.getD_eq_getElem?_getD, List.getElem?_replicate, if_pos h]; rfl

theorem Inv.turn (h : Inv T tm a m) (htm : tm ≤ 3) (hT : T ≤ 6) (h1 : 1 ≤ T) (n : Int) : Inv T tm (aTurn tm T a n) (m.turnO (List.replicate T (spCode tm)) n).2 := by
  unfold aTurn Mk.turnO
  rw [List.length_replicate]
  have b1 := Int.emod_nonneg n (show (2 * (T : Int)) ≠ 0 by omega)
  have b2 := Int.emod_lt_of_pos n (show 0 < (2 * (T : Int)) by omega)
  generalize n % (2 * (T : Int)) = k at *
  obtain ⟨i, rfl⟩ := Int.eq_ofNat_of_zero_le b1
  by_cases hk : ((i : Nat) : Int) < T
  · rw [if_pos hk, if_pos hk]
    have hi : i < T := by omega
    unfold Mk.stepO
    rw [List.length_replicate, if_pos ⟨by omega, hk⟩]
    rw [show ((i : Nat) : Int).toNat = i from rfl, getD_rep _ _ _ _ hi, spDone]
    obtain ⟨p, hp⟩ : ∃ p, a.ps[i]? = some p := ⟨_, List.getElem?_eq_getElem (by rw [h.len]; exact hi)⟩
    have hpc := (h.pc i p hp).1
    rw [hpc]
    by_cases hlt : 19 * tm ≤ p
    · rw [decide_eq_true hlt, if_pos rfl, aStepE hp hlt]
      exact h
    · rw [decide_eq_false hlt, if_neg (by decide)]
      exact h.step htm hT hp (by omega)
  · rw [if_neg hk, if_neg hk]
    unfold Mk.drainO
    rw [List.length_replicate]
    have hi : (i - T : Nat) < T := by omega
    have e : ((i : Nat) : Int) - T = ((i - T : Nat) : Int) := by omega
    rw [e, if_pos ⟨by omega, by omega⟩, show (((i - T : Nat) : Nat) : Int).toNat = i - T from rfl]
    obtain ⟨p, hp⟩ : ∃ p, a.ps[i - T]? = some p := ⟨_, List.getElem?_eq_getElem (by rw [h.len]; exact hi)⟩
    split
    · exact h
    · exact h.drain hp

def aRun (tm T : Nat) (a : AS) : List Int → AS
  | [] => a
  | n :: l => aRun tm T (aTurn tm T a n) l
theorem Inv.run (htm : tm ≤ 3) (hT : T ≤ 6) (h1 : 1 ≤ T) : ∀ (l : List Int) {a : AS} {m : Mk}, Inv T tm a m → Inv T tm (aRun tm T a l) (m.runO (List.replicate T (spCode tm)) l).2
  | [], _, _, h => h
  | n :: l, _, _, h => Inv.run htm hT h1 l (h.turn htm hT h1 n)

theorem Inv.start {m : Mk} (h0 : ∀ u, m.pc u = 0) (h7 : ∀ u, u < T → m.regs u 7 = 1) (hw : ∀ u, u < T → m.mem.waits u = []) (hz : ∀ j, m.mem.ar.words 0 j = 0) (hh : m.mem.ar.has 0 0 = true) (hf : m.faults = 0) (ht : m.mem.threads = T) : Inv T tm ⟨List.replicate T 0, none⟩ m where
  len := List.length_replicate
  pc t p hp := by
    rw [List.getElem?_replicate] at hp
    split at hp
    · cases hp; exact ⟨h0 t, Nat.zero_le _⟩
    · cases hp
  tc t p hp := by
    rw [List.getElem?_replicate] at hp
    split at hp
    · rename_i hlt
      cases hp
      exact ⟨by decide, h7 t hlt, fun e => absurd e (by omega), fun e => absurd e (by omega), fun e => absurd e (by omega), hw t hlt⟩
    · cases hp
  own o e := by cases e
  w0 := by rw [if_pos rfl]; exact hz 0
  free _ := by
    refine ⟨hz 1, ?_⟩
    rw [hz 2]
    have : rounds (List.replicate T 0) = 0 := by simp [rounds]
    rw [this]; rfl
  has := hh
  faults := hf
  thr := ht
end
end Go.Proofs.YtgmokighfgdnjaaGreatDoor

/- CodeF -/
namespace Go.Proofs.YtgmokighfgdnjaaGreatDoor
open Go.RowKit Go.Extern.Stop Go.Stop Go.Extern
set_option maxRecDepth 20000 in
theorem byte_any (k : Nat) (hk : k < 256) (w : World) : Calls Tryz.prog 117 #[.int .i64 k] w fun e w' => e = .returned (.string (oneByte k)) ∧ Below w.heap.size w w' := by
  have k0 : 0 ≤ (k : Int) := by omega
  have k1 : (k : Int) < 256 := by omega
  have hcv : (convert 158 9 (.slice (some ⟨w.heap.size, 0, none⟩) 1 1)).run Tryz.prog (w.alloc (.cells #[.int .u8 k] 5)) = .ok (.string (oneByte k)) (w.alloc (.cells #[.int .u8 k] 5)) :=
    run_convert_bytes_back (P := Tryz.prog) (w.alloc (.cells #[.int .u8 k] 5)) 158 9 5 ⟨w.heap.size, 0, none⟩ 1 [UInt8.ofNat k] Tryz.underlying158 Tryz.underlying5 Tryz.underlying9 (fun j hj => by
      obtain rfl : j = 0 := by simpa using hj
      have : (UInt8.ofNat k).toNat = k := by simp; omega
      simp [this, Addr.add])
  go_enter Tryz.func117, Tryz.ntmps117
  go_wp2_with fail
  go_ret
  exact ⟨rfl, (Below.refl _ _).alloc (Nat.le_refl _) _⟩

set_option maxRecDepth 20000 in
theorem below_any : ∀ (m : Nat), m < 9223372036854775808 → ∀ (w : World), Calls Tryz.prog 115 #[.int .i64 (-(m : Int))] w fun e w' => e = .returned (.string (digits m)) ∧ Below w.heap.size w w' := by
  intro m
  induction m using Nat.strongRecOn with
  | _ m ih =>
    intro hm w
    by_cases h10 : m < 10
    · have hd : digits m = oneByte (48 + m) := by unfold digits; rw [if_pos h10]
      have h1 : -10 < -(m : Int) := by omega
      rw [hd]
      go_enter Tryz.func115, Tryz.ntmps115
      go_wp2_with fail
      have hB := byte_any (48 + m) (by omega) w
      rw [show ((48 + m : Nat) : Int) = 48 + (m : Int) by omega] at hB
      refine hB.mono ?_
      rintro e w1 ⟨rfl, hb⟩
      clear hB
      go_wp2_with fail
      go_ret
      exact ⟨rfl, hb⟩
    · have hd : digits m = digits (m / 10) ++ oneByte (48 + m % 10) := by rw [digits, if_neg h10]
      have h1 : ¬ -10 < -(m : Int) := by omega
      have hq : (-(m : Int)).tdiv 10 = -((m / 10 : Nat) : Int) := by rw [Int.neg_tdiv, Int.tdiv_eq_ediv_of_nonneg (by omega)]; omega
      have hr : (-(m : Int)).tmod 10 = -((m % 10 : Nat) : Int) := by rw [Int.neg_tmod, Int.tmod_eq_emod_of_nonneg (by omega)]; omega
      rw [hd]
      go_enter Tryz.func115, Tryz.ntmps115
      go_wp2_with fail
      have hI := ih (m / 10) (by omega) (by omega) w
      rw [show ((m / 10 : Nat) : Int) = (m : Int) / 10 by omega] at hI
      refine hI.mono ?_
      rintro e w1 ⟨rfl, hb⟩
      clear hI ih
      go_wp2_with fail
      have hsz : (digits (m / 10)).size + (oneByte (48 + m % 10)).size ≤ 9223372036854775807 := by
        have := digits_size (m / 10)
        have h1 : (oneByte (48 + m % 10)).size = 1 := rfl
        omega
      have hB := byte_any (48 + m % 10) (by omega) w1
      rw [show ((48 + m % 10 : Nat) : Int) = 48 + (m : Int) % 10 by omega] at hB
      refine hB.mono ?_
      rintro e w2 ⟨rfl, hb2⟩
      clear hB
      go_wp2_with fail
      go_ret
      exact ⟨rfl, below_step hb hb2⟩

set_option maxRecDepth 20000 in
theorem decimal_any (n : Int) (h1 : -9223372036854775808 < n) (h2 : n < 9223372036854775808) (w : World) : Calls Tryz.prog 105 #[.int .i64 n] w fun e w' => e = .returned (.string (decimal n)) ∧ Below w.heap.size w w' := by
  have hI := below_any n.natAbs (by omega) w
  by_cases h0 : n < 0
  · have hd : decimal n = ⟨#[45]⟩ ++ digits n.natAbs := if_pos h0
    rw [hd]
    rw [show -((n.natAbs : Nat) : Int) = n by omega] at hI
    have hsz := digits_size n.natAbs
    have hsz : 1 + (digits n.natAbs).size ≤ 9223372036854775807 := by omega
    generalize digits n.natAbs = s at *
    go_enter Tryz.func105, Tryz.ntmps105
    go_wp2_with fail
    refine hI.mono ?_
    rintro e w1 ⟨rfl, hb⟩
    clear hI
    go_wp2_with fail
    go_ret
    exact ⟨rfl, hb⟩
  · have hd : decimal n = digits n.natAbs := if_neg h0
    rw [hd]
    rw [show -((n.natAbs : Nat) : Int) = -n by omega] at hI
    generalize digits n.natAbs = s at *
    go_enter Tryz.func105, Tryz.ntmps105
    go_wp2_with fail
    refine hI.mono ?_
    rintro e w1 ⟨rfl, hb⟩
    clear hI
    go_wp2_with fail
    go_ret
    exact ⟨rfl, hb⟩

end Go.Proofs.YtgmokighfgdnjaaGreatDoor

/- SpG -/
namespace Go.Proofs.YtgmokighfgdnjaaGreatDoor
open Go.RowKit Go.Extern.Stop Go.Stop Go.Extern Go.Maps Go.WideMaps Go.Sort

theorem insOwn_kept {w w' : World} {base : Nat} {v : Value} {l : List Ins} {ob : Option Nat} (h : insOwn w base v l) (hg : w.grownBy w' ob) (hne : v.ownBlock = none ∨ v.ownBlock ≠ ob) : insOwn w' base v l := World.ownsRow.kept h hg hne

def spDig (j : Nat) : ByteArray := ⟨#[UInt8.ofNat (48 + j)]⟩
theorem sp_decimal (j : Nat) (hj : j < 10) : decimal (j : Int) = spDig j := by
  unfold decimal
  rw [if_neg (by omega), show (j : Int).natAbs = j from rfl]
  unfold digits
  rw [if_pos hj]
  rfl
end Go.Proofs.YtgmokighfgdnjaaGreatDoor
