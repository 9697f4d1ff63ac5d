import Derived.Test.YtaiigfcfmcicjaaGreatDoorB17

/- GcB -/
namespace Go.Proofs.YtaiigfcfmcicjaaGreatDoor
open Go.RowKit

theorem u8_digit {k l : Nat} (hk : k ≤ 9) (hl : l ≤ 9) (h : UInt8.ofNat (48 + k) = UInt8.ofNat (48 + l)) : k = l := by
  have := congrArg UInt8.toNat h
  simp at this
  omega
def noLab (p : ByteArray) (A : List Ins) : Prop := ∀ y ∈ A, ∀ l, l ≤ 9 → setsLabel y (lb p l) = false
def gOk (s : List GI) : Bool := s.all fun i => match i with
  | .label k => decide (k ≤ 9)
  | .zero _ l => decide (l ≤ 9) && (gLab l s 0).isSome
  | .same _ _ l => decide (l ≤ 9) && (gLab l s 0).isSome
  | .goto l => decide (l ≤ 9) && (gLab l s 0).isSome
  | _ => true

theorem gLab_at {l : Nat} : ∀ {s : List GI} {i j : Nat}, gLab l s i = some j → i ≤ j ∧ s[j - i]? = some (.label l) ∧ ∀ k, k < j - i → s[k]? ≠ some (.label l)
  | [], _, _, h => by cases h
  | x :: r, i, j, h => by
    by_cases e : x = .label l
    · subst e
      have h' : (if l = l then some i else gLab l r (i + 1)) = some j := h
      rw [if_pos rfl] at h'
      cases h'
      refine ⟨Nat.le_refl _, by rw [Nat.sub_self]; rfl, fun k hk => absurd hk (by omega)⟩
    · have h' : gLab l r (i + 1) = some j := by
        cases x with
        | label k =>
          have h2 : (if k = l then some i else gLab l r (i + 1)) = some j := h
          rwa [if_neg (fun e2 => e (by rw [e2]))] at h2
        | _ => exact h
      obtain ⟨h1, h2, h3⟩ := gLab_at h'
      refine ⟨by omega, ?_, fun k hk => ?_⟩
      · rw [show j - i = (j - (i + 1)) + 1 by omega]
        exact h2
      · cases k with
        | zero => exact fun e2 => e (by simpa using e2)
        | succ k => exact h3 k (by omega)
theorem GI.sets {p : ByteArray} {i : GI} {l : Nat} (h : setsLabel (i.ins p) (lb p l) = true) (hl : l ≤ 9) (hk : ∀ k, i = .label k → k ≤ 9) : i = .label l := by
  unfold setsLabel at h
  simp only [Bool.and_eq_true] at h
  obtain ⟨h1, h2⟩ := h
  rw [toList_bl] at h1
  cases i with
  | label k =>
    have e : lb p k = lb p l := by
      have := eq_of_beq h2
      rw [toList_bl, toList_bl] at this
      exact bl_inj this
    rw [u8_digit (hk k rfl) hl (lb_inj e).2]
  | _ => exact Bool.noConfusion (show false = true from h1)
theorem gLab_labelAt {p : ByteArray} {A B : List Ins} {s : List GI} {l j : Nat} (hA : noLab p A) (hs : gOk s = true) (hl : l ≤ 9) (h : gLab l s 0 = some j) : labelAt (A ++ (gCode p s ++ B)) (lb p l) = ((A.length + j : Nat) : Int) := by
  obtain ⟨-, h2, h3⟩ := gLab_at h
  rw [Nat.sub_zero] at h2 h3
  have hj : j < s.length := (List.getElem?_eq_some_iff.1 h2).1
  have hsl : ∀ k, .label k ∈ s → k ≤ 9 := fun k hk => by
    have := List.all_eq_true.1 hs _ hk
    simpa using this
  have at' : ∀ k, k < s.length → (A ++ (gCode p s ++ B))[A.length + k]? = (s[k]?).map (GI.ins p) := fun k hk => by
    rw [List.getElem?_append_right (Nat.le_add_right _ _), Nat.add_sub_cancel_left, List.getElem?_append_left (by unfold gCode; rw [List.length_map]; exact hk)]
    unfold gCode
    rw [List.getElem?_map]
  refine labelAt_some (x := (GI.label l).ins p) ?_ ?_ ?_
  · rw [at' j hj, h2]; rfl
  · unfold setsLabel
    rw [toList_bl]
    have e1 : (bl ((GI.label l).ins p).op == [108, 97, 98, 101, 108]) = true := rfl
    rw [e1, Bool.true_and]
    exact beq_self_eq_true _
  · intro k y hk hy
    by_cases hkA : k < A.length
    · rw [List.getElem?_append_left hkA] at hy
      exact hA y (List.mem_of_getElem? hy) l hl
    · obtain ⟨k', rfl⟩ : ∃ k', k = A.length + k' := ⟨k - A.length, by omega⟩
      rw [at' k' (by omega)] at hy
      cases hx : s[k']? with
      | none => rw [hx] at hy; cases hy
      | some i =>
        rw [hx] at hy
        have hy : y = i.ins p := (Option.some.inj hy).symm
        subst hy
        cases hb : setsLabel (i.ins p) (lb p l) with
        | false => rfl
        | true =>
          have := GI.sets hb hl (fun k2 e => hsl k2 (by rw [← e]; exact List.mem_of_getElem? hx))
          subst this
          exact absurd hx (h3 k' (by omega))

theorem setPc_setPc (m : Mk) (t a b : Nat) : (m.setPc t a).setPc t b = m.setPc t b := by
  unfold Mk.setPc
  simp only [Mk.mk.injEq, true_and, and_true]
  funext u
  by_cases e : u = t
  · rw [if_pos e, if_pos e]
  · rw [if_neg e, if_neg e, if_neg e]

theorem gstep {m : Mk} {t q : Nat} {L A B : List Ins} {p : ByteArray} {s : List GI} {i : GI} (hL : L = A ++ (gCode p s ++ B)) (hpc : m.pc t = A.length + q) (hq : s[q]? = some i) (hA : noLab p A) (hs : gOk s = true) :
    doneAt L (m.pc t) = false ∧ m.step L t = gExec (m.setPc t (A.length + gNext s q (m.regs t) i)) t i := by
  have hlt : q < s.length := (List.getElem?_eq_some_iff.1 hq).1
  have hx : L[m.pc t]? = some (i.ins p) := by
    rw [hL, hpc, List.getElem?_append_right (Nat.le_add_right _ _), Nat.add_sub_cancel_left, List.getElem?_append_left (by unfold gCode; rw [List.length_map]; exact hlt)]
    unfold gCode
    rw [List.getElem?_map, hq]; rfl
  have hi := List.all_eq_true.1 hs i (List.mem_of_getElem? hq)
  have lab : ∀ l, l ≤ 9 → (gLab l s 0).isSome = true → (labelAt L (lb p l)).toNat = A.length + gAt l s := fun l hl hS => by
    obtain ⟨j, hj⟩ := Option.isSome_iff_exists.1 hS
    rw [hL, gLab_labelAt hA hs hl hj]
    unfold gAt
    rw [hj]
    exact Int.toNat_natCast _
  refine ⟨?_, ?_⟩
  · unfold doneAt
    rw [hx]
    exact i.goes p
  · unfold Mk.step
    rw [hx]
    show (m.setPc t (m.pc t + 1)).exec L t (i.ins p) = _
    rw [hpc]
    cases i with
    | load r a k => rw [exec_load _ _ _ rfl]; rfl
    | const r v => rw [exec_const _ _ _ rfl]; rfl
    | move r a => rw [exec_move _ _ _ rfl]; rfl
    | add r a b => rw [exec_add _ _ _ rfl]; rfl
    | sub r a b => rw [exec_sub _ _ _ rfl]; rfl
    | store a r k => rw [exec_store _ _ _ rfl]; rfl
    | swap r a k => rw [exec_swap _ _ _ rfl]; rfl
    | cas a r k => rw [exec_cas _ _ _ rfl]; rfl
    | fence => rw [exec_fence _ _ _ rfl]; rfl
    | force => rw [exec_force _ _ _ rfl]; rfl
    | alloc r => rw [exec_alloc _ _ _ rfl]; rfl
    | free r => rw [exec_free _ _ _ rfl]; rfl
    | need r => rw [exec_need _ _ _ rfl]; rfl
    | label k => rw [exec_label _ _ _ rfl]; rfl
    | zero r l =>
      rw [exec_zero _ _ _ rfl]
      simp only [Bool.and_eq_true, decide_eq_true_eq] at hi
      show (if m.regs t r = 0 then (m.setPc t (A.length + q + 1)).setPc t (labelAt L (lb p l)).toNat else m.setPc t (A.length + q + 1)) = m.setPc t (A.length + if m.regs t r = 0 then gAt l s else q + 1)
      split
      · rw [setPc_setPc, lab l hi.1 hi.2]
      · rfl
    | same r a l =>
      rw [exec_same _ _ _ rfl]
      simp only [Bool.and_eq_true, decide_eq_true_eq] at hi
      show (if m.regs t r = m.regs t a then (m.setPc t (A.length + q + 1)).setPc t (labelAt L (lb p l)).toNat else m.setPc t (A.length + q + 1)) = m.setPc t (A.length + if m.regs t r = m.regs t a then gAt l s else q + 1)
      split
      · rw [setPc_setPc, lab l hi.1 hi.2]
      · rfl
    | goto l =>
      rw [exec_goto _ _ _ rfl]
      simp only [Bool.and_eq_true, decide_eq_true_eq] at hi
      show (m.setPc t (A.length + q + 1)).setPc t (labelAt L (lb p l)).toNat = m.setPc t (A.length + gAt l s)
      rw [setPc_setPc, lab l hi.1 hi.2]
end Go.Proofs.YtaiigfcfmcicjaaGreatDoor

/- GcC -/
namespace Go.Proofs.YtaiigfcfmcicjaaGreatDoor
open Go.RowKit

def vw (m : Mk) (t : Nat) (c : Nat) (g : Int) (k : Nat) : Int := (m.mem.waits t).foldl (Wt.pick c g k) (m.mem.ar.words c k)
def rf (m : Mk) (c : Nat) : Int := ((m.mem.ar.given c : Int) - 1) * 64 + c + 1
structure Live (m : Mk) (c : Nat) : Prop where
  lt : c < m.mem.ar.size
  there : m.mem.ar.there c = true
  given : 0 < m.mem.ar.given c
  small : m.mem.ar.size ≤ 64
def gn (m : Mk) (c : Nat) : Int := (m.mem.ar.given c : Int) - 1

theorem rf_cell {m : Mk} {c : Nat} (h : Live m c) : cellOf (rf m c) = c ∧ genOf (rf m c) = gn m c := by
  have h1 := h.lt
  have h2 := h.small
  unfold cellOf genOf rf gn
  constructor <;> omega
theorem rf_pos {m : Mk} {c : Nat} (h : Live m c) : 0 < rf m c := by
  have h1 := h.given
  unfold rf
  omega
theorem has_iff {s : Ar} {c : Nat} {g : Int} (hs : c < s.size) : s.has c g = true ↔ s.there c = true ∧ g = (s.given c : Int) - 1 := by
  unfold Ar.has
  simp only [Bool.and_eq_true, decide_eq_true_eq, beq_iff_eq, Int.toNat_natCast]
  constructor
  · rintro ⟨⟨-, h1⟩, h2⟩; exact ⟨h1, h2⟩
  · rintro ⟨h1, h2⟩; exact ⟨⟨by omega, h1⟩, h2⟩
theorem Live.has {m : Mk} {c : Nat} (h : Live m c) : m.mem.ar.has c (gn m c) = true := (has_iff h.lt).2 ⟨h.there, rfl⟩
theorem Live.names {m : Mk} {c : Nat} (h : Live m c) : m.names (rf m c) = true := by
  unfold Mk.names
  rw [(rf_cell h).1, (rf_cell h).2, h.has]
  have := rf_pos h
  have e : (rf m c == 0) = false := by rw [beq_eq_false_iff_ne]; omega
  rw [e]; rfl
theorem Live.loaded {m : Mk} {c : Nat} (h : Live m c) (t k : Nat) : m.loaded t (rf m c) k = vw m t c (gn m c) k := by
  unfold Mk.loaded vw
  rw [(rf_cell h).1, (rf_cell h).2, Int.toNat_natCast, Int.toNat_natCast]
theorem load_live {m : Mk} {c : Nat} (h : Live m c) (t r k : Nat) : m.load t r (rf m c) k = m.setReg t r (vw m t c (gn m c) k) := by
  unfold Mk.load
  rw [if_pos h.names, h.loaded]

structure SameCells (m m' : Mk) : Prop where
  size : m'.mem.ar.size = m.mem.ar.size
  there : m'.mem.ar.there = m.mem.ar.there
  given : m'.mem.ar.given = m.mem.ar.given
theorem SameCells.refl (m : Mk) : SameCells m m := ⟨rfl, rfl, rfl⟩
theorem SameCells.trans {a b c : Mk} (h : SameCells a b) (k : SameCells b c) : SameCells a c := ⟨k.size.trans h.size, k.there.trans h.there, k.given.trans h.given⟩
theorem SameCells.live {m m' : Mk} (h : SameCells m m') {c : Nat} (k : Live m c) : Live m' c := ⟨by rw [h.size]; exact k.lt, by rw [h.there]; exact k.there, by rw [h.given]; exact k.given, by rw [h.size]; exact k.small⟩
theorem SameCells.rf {m m' : Mk} (h : SameCells m m') (c : Nat) : rf m' c = rf m c := by unfold Go.Proofs.YtaiigfcfmcicjaaGreatDoor.rf; rw [h.given]
theorem SameCells.gn {m m' : Mk} (h : SameCells m m') (c : Nat) : gn m' c = gn m c := by unfold Go.Proofs.YtaiigfcfmcicjaaGreatDoor.gn; rw [h.given]

theorem foldl_snoc (l : List Wt) (x : Wt) (c g k v : Int) : (l ++ [x]).foldl (Wt.pick c g k) v = Wt.pick c g k (l.foldl (Wt.pick c g k) v) x := by
  rw [List.foldl_append]; rfl
theorem foldl_none {c g k : Int} : ∀ {l : List Wt} {v : Int}, (∀ x ∈ l, ¬ (x.c = c ∧ x.g = g ∧ x.w = k)) → l.foldl (Wt.pick c g k) v = v
  | [], _, _ => rfl
  | x :: l, v, h => by
    rw [List.foldl_cons]
    have : Wt.pick c g k v x = v := if_neg (h x List.mem_cons_self)
    rw [this]
    exact foldl_none (fun y hy => h y (List.mem_cons_of_mem _ hy))

structure Drained (m m' : Mk) (t : Nat) (x : Wt) (l : List Wt) : Prop where
  cells : SameCells m m'
  thr : m'.mem.threads = m.mem.threads
  own : m'.mem.waits t = l
  was : m.mem.waits t = x :: l
  waits : ∀ u, u ≠ t → m'.mem.waits u = m.mem.waits u
  regs : m'.regs = m.regs
  pc : m'.pc = m.pc
  words : ∀ c k, m'.mem.ar.words c k = if c = x.c.toNat ∧ k = x.w.toNat ∧ m.mem.ar.has x.c x.g = true then x.v else m.mem.ar.words c k
  faults : m'.faults = m.faults + if m.mem.ar.has x.c x.g = true then 0 else 1
theorem drain1_cons {m : Mk} {t : Nat} {x : Wt} {l : List Wt} (h : m.mem.waits t = x :: l) : Drained m (m.drain1 t) t x l := by
  have e : m.drain1 t = { m with mem := m.mem.drained t x l, faults := m.faults + if m.mem.ar.has x.c x.g = true then 0 else 1 } := by
    unfold Mk.drain1
    rw [h]
  rw [e]
  refine ⟨⟨(Rm.drained_ar _ _ _ _).1, (Rm.drained_ar _ _ _ _).2.1, (Rm.drained_ar _ _ _ _).2.2⟩, Rm.drained_threads _ _ _ _, Rm.drained_waits _ _ _ _, h, fun u hu => Rm.drained_waits_ne _ _ _ _ _ hu, rfl, rfl, fun c k => ?_, rfl⟩
  show (m.mem.drained t x l).ar.words c k = _
  unfold Rm.drained
  by_cases hh : m.mem.ar.has x.c x.g = true
  · rw [if_pos hh]
    show (if c = x.c.toNat ∧ k = x.w.toNat then x.v else m.mem.ar.words c k) = _
    by_cases e : c = x.c.toNat ∧ k = x.w.toNat
    · rw [if_pos e, if_pos ⟨e.1, e.2, hh⟩]
    · rw [if_neg e, if_neg (fun e2 => e ⟨e2.1, e2.2.1⟩)]
  · rw [if_neg hh, if_neg (fun e2 => hh e2.2.2)]; rfl
theorem drain1_nil {m : Mk} {t : Nat} (h : m.mem.waits t = []) : m.drain1 t = m := by
  unfold Mk.drain1
  rw [h]
theorem Drained.vw {m m' : Mk} {t : Nat} {x : Wt} {l : List Wt} (h : Drained m m' t x l) {c : Nat} (hc : Live m c) (hx : 0 ≤ x.c ∧ 0 ≤ x.w) (k : Nat) : vw m' t c (gn m c) k = vw m t c (gn m c) k := by
  unfold Go.Proofs.YtaiigfcfmcicjaaGreatDoor.vw
  rw [h.own, h.was, List.foldl_cons, h.words]
  congr 1
  unfold Wt.pick
  by_cases e : x.c = c ∧ x.g = gn m c ∧ x.w = k
  · rw [if_pos e]
    obtain ⟨e1, e2, e3⟩ := e
    rw [if_pos ⟨by omega, by omega, by rw [e1, e2]; exact hc.has⟩]
  · rw [if_neg e, if_neg]
    rintro ⟨e1, e2, e3⟩
    have ec : x.c = c := by omega
    refine e ⟨ec, ?_, by omega⟩
    rw [ec] at e3
    exact ((has_iff hc.lt).1 e3).2
theorem Drained.vw_ne {m m' : Mk} {t u : Nat} {x : Wt} {l : List Wt} (h : Drained m m' t x l) (hu : u ≠ t) {c : Nat} (hc : c ≠ x.c.toNat) (g : Int) (k : Nat) : Go.Proofs.YtaiigfcfmcicjaaGreatDoor.vw m' u c g k = Go.Proofs.YtaiigfcfmcicjaaGreatDoor.vw m u c g k := by
  unfold Go.Proofs.YtaiigfcfmcicjaaGreatDoor.vw
  rw [h.waits u hu, h.words, if_neg (fun e => hc e.1)]

theorem fence_of {P : Mk → Prop} {t : Nat} (hd : ∀ m, P m → P (m.drain1 t)) : ∀ {m : Mk}, P m → P (m.fence t) := by
  have key : ∀ (l : List Wt) (m : Mk), m.mem.waits t = l → P m → P { m with mem := m.mem.drainAll t l, faults := m.faults + m.mem.gone t l } := by
    intro l
    induction l with
    | nil => intro m _ h; exact h
    | cons x l ih =>
      intro m hm h
      have e : m.drain1 t = { m with mem := m.mem.drained t x l, faults := m.faults + if m.mem.ar.has x.c x.g = true then 0 else 1 } := by
        unfold Mk.drain1
        rw [hm]
      have h1 := hd m h
      rw [e] at h1
      have := ih _ (Rm.drained_waits m.mem t x l) h1
      have e2 : m.faults + (if m.mem.ar.has x.c x.g = true then 0 else 1) + (m.mem.drained t x l).gone t l = m.faults + m.mem.gone t (x :: l) := by
        show _ = m.faults + ((if m.mem.ar.has x.c x.g = true then 0 else 1) + (m.mem.drained t x l).gone t l)
        omega
      dsimp only at this
      rw [e2] at this
      exact this
  intro m h
  exact key _ m rfl h
theorem fence_waits_ne (m : Mk) (t : Nat) {u : Nat} (h : u ≠ t) : (m.fence t).mem.waits u = m.mem.waits u := Rm.drainAll_waits_ne _ _ _ h _
theorem force_waits (k : Nat) : ∀ (m : Mk) (t u : Nat), (t ≤ u ∧ u < t + k ∨ m.mem.waits u = []) → (m.fenceFrom t k).mem.waits u = [] := by
  induction k with
  | zero =>
    intro m t u h
    rcases h with h | h
    · omega
    · exact h
  | succ k ih =>
    intro m t u h
    refine ih (m.fence t) (t + 1) u ?_
    by_cases e : u = t
    · subst e
      exact .inr (Rm.drainAll_waits _ _ _ rfl)
    · rcases h with h | h
      · exact .inl ⟨by omega, by omega⟩
      · exact .inr (by rw [fence_waits_ne m t e]; exact h)

theorem setReg_reg (m : Mk) (t r : Nat) (v : Int) (k : Nat) : (m.setReg t r v).regs t k = if k = r then v else m.regs t k := by
  show (if t = t ∧ k = r then v else m.regs t k) = _
  by_cases e : k = r
  · rw [if_pos ⟨rfl, e⟩, if_pos e]
  · rw [if_neg (fun h => e h.2), if_neg e]
theorem setReg_other (m : Mk) (t r : Nat) (v : Int) {u : Nat} (hu : u ≠ t) : (m.setReg t r v).regs u = m.regs u := by
  funext k
  exact if_neg (fun h => hu h.1)
theorem drain1_regs (m : Mk) (t : Nat) : (m.drain1 t).regs = m.regs ∧ (m.drain1 t).pc = m.pc := by
  unfold Mk.drain1
  split <;> exact ⟨rfl, rfl⟩
theorem fenceFrom_regs : ∀ (k : Nat) (m : Mk) (t : Nat), (m.fenceFrom t k).regs = m.regs ∧ (m.fenceFrom t k).pc = m.pc
  | 0, _, _ => ⟨rfl, rfl⟩
  | k + 1, m, t => fenceFrom_regs k (m.fence t) (t + 1)

theorem store_live {m : Mk} {c : Nat} (h : Live m c) (t k : Nat) (v : Int) : m.store t (rf m c) k v = (m.room t).put t (rf m c) k v := by
  unfold Mk.store
  rw [if_pos h.names]
theorem room_of {P : Mk → Prop} {t : Nat} {m : Mk} (hd : ∀ m, P m → P (m.drain1 t)) (h : P m) : P (m.room t) := by
  unfold Mk.room
  split
  · exact hd m h
  · exact h
theorem room_regs (m : Mk) (t : Nat) : (m.room t).regs = m.regs ∧ (m.room t).pc = m.pc := by
  unfold Mk.room
  split
  · exact drain1_regs m t
  · exact ⟨rfl, rfl⟩
end Go.Proofs.YtaiigfcfmcicjaaGreatDoor

/- GcD -/
namespace Go.Proofs.YtaiigfcfmcicjaaGreatDoor
open Go.RowKit

inductive Tg
  | enter | leave | rest | gone | wait | get | read | new (v : Int) | pub | free
deriving DecidableEq
def tgCode (f : Nat) : Tg → List GI
  | .enter => gEnter f
  | .leave => gLeave f
  | .rest => gRest f
  | .gone => gGone f
  | .wait => gWait f
  | .get => [.load 3 5 0]
  | .read => [.load 4 3 0, .need 4]
  | .new v => [.alloc 3, .const 4 v, .store 3 4 0]
  | .pub => [.swap 3 5 0]
  | .free => [.free 3]
structure Pt where
  tg : Tg
  q : Nat
  d : Nat
structure Gh where
  pt : Nat → Option Pt
  old : Nat → Nat → Bool
  ch : List Nat
  pp : Nat
  dx : Nat → Nat

def Bs (f : Nat) (J : Prop) (t d : Nat) (V : Nat → Int) : Prop :=
  (f = 3 → V 0 % 2 = 1) ∧ (f ≠ 3 → (d = 0 → V 0 = 0 ∧ V 2 = 0) ∧ (0 < d → V 0 ≠ 0 ∧ V 2 = (d : Int) - 1)) ∧ (f = 4 → (J → V 3 = (t : Int) + 2) ∧ (¬ J → V 3 = 0 ∧ d = 0))
def Nj (J : Prop) (d : Nat) (V : Nat → Int) : Prop := d = 0 ∧ V 0 = 0 ∧ V 2 = 0 ∧ ¬ J

def Le (f : Nat) (J : Prop) (t d : Nat) (V r : Nat → Int) : Nat → Prop
  | 0 => Bs f J t d V
  | 1 => Bs f J t d V ∧ r 0 = V 0
  | 2 => Bs f J t d V ∧ 0 < d
  | 3 => Bs f J t d V ∧ 0 < d ∧ r 0 = V 2
  | 4 => Bs f J t d V ∧ 0 < d ∧ r 0 = V 2 ∧ r 1 = 1
  | 5 => Bs f J t d V ∧ 0 < d ∧ r 0 = V 2 + 1
  | 6 => Bs f J t (d + 1) V
  | 7 => Bs f J t d V ∧ d = 0
  | q => if f = 4 then
      match q with
      | 8 => Bs f J t d V ∧ d = 0
      | 9 => Bs f J t d V ∧ d = 0 ∧ r 0 = V 3
      | 10 => Nj J d V
      | 11 => Nj J d V
      | 12 => Nj J d V
      | 13 => Nj J d V ∧ r 1 = (t : Int) + 2
      | 14 => Nj J d V ∧ r 1 = (t : Int) + 2 ∧ V 3 = (t : Int) + 2
      | 15 => Nj J d V ∧ r 1 = (t : Int) + 2 ∧ V 3 = (t : Int) + 2 ∧ V 1 = r 0
      | 16 => d = 0 ∧ V 0 = 0 ∧ V 2 = 0 ∧ V 3 = (t : Int) + 2 ∧ (J ∧ V 1 = r 0 ∨ ¬ J ∧ V 1 ≠ r 0)
      | 17 => d = 0 ∧ V 0 = 0 ∧ V 2 = 0 ∧ V 3 = (t : Int) + 2 ∧ (J ∧ r 0 = r 1 ∨ ¬ J ∧ r 0 ≠ r 1)
      | 18 => Nj J d V
      | 19 => Bs f J t d V ∧ d = 0 ∧ J
      | 20 => Bs f J t d V ∧ d = 0 ∧ J
      | 21 => Bs f J t d V ∧ d = 0 ∧ J ∧ r 0 ≠ 0
      | _ => Bs f J t (d + 1) V
    else
      match q with
      | 8 => Bs f J t d V ∧ d = 0
      | 9 => Bs f J t d V ∧ d = 0 ∧ r 0 ≠ 0
      | _ => Bs f J t (d + 1) V
def Ll (f : Nat) (J : Prop) (t d : Nat) (V r : Nat → Int) : Nat → Prop
  | 0 => Bs f J t d V ∧ 0 < d
  | 1 => Bs f J t d V ∧ 0 < d ∧ r 0 = V 2
  | 2 => Bs f J t d V ∧ 1 < d
  | 3 => Bs f J t d V ∧ 1 < d ∧ r 0 = V 2
  | 4 => Bs f J t d V ∧ 1 < d ∧ r 0 = V 2 ∧ r 1 = 1
  | 5 => Bs f J t d V ∧ 1 < d ∧ r 0 = V 2 - 1
  | 6 => Bs f J t (d - 1) V ∧ 1 < d
  | 7 => Bs f J t d V ∧ d = 1 ∧ r 0 = 0
  | 8 => Bs f J t d V ∧ d = 1 ∧ r 0 = 0
  | _ => Bs f J t (d - 1) V
def Lr (V r : Nat → Int) : Nat → Prop
  | 0 => V 0 % 2 = 1
  | 1 => V 0 % 2 = 1
  | 2 => V 0 % 2 = 1 ∧ r 0 = V 0
  | 3 => V 0 % 2 = 1 ∧ r 0 = V 0
  | 4 => V 0 % 2 = 1 ∧ r 0 = V 0 ∧ r 1 = 2
  | 5 => V 0 % 2 = 1 ∧ r 0 % 2 = 1
  | _ => V 0 % 2 = 1
def Lg (V r : Nat → Int) : Nat → Prop
  | 0 => V 0 % 2 = 1
  | 1 => V 0 % 2 = 1
  | 2 => V 0 % 2 = 1 ∧ r 0 = 0
  | _ => V 0 = 0
def Lw3 (V r : Nat → Int) : Nat → Prop
  | 0 => V 0 % 2 = 1
  | 1 => V 0 % 2 = 1
  | 2 => V 0 % 2 = 1 ∧ r 0 = 0
  | 3 => V 0 = 0 ∧ r 0 % 2 = 1
  | 20 => V 0 = 0 ∧ V 3 % 2 = 1 ∧ r 0 = V 3
  | 21 => V 0 = 0 ∧ V 3 % 2 = 1 ∧ r 0 = V 3
  | 22 => V 0 = 0 ∧ V 3 % 2 = 1 ∧ r 0 = V 3 ∧ r 1 = 2
  | 23 => V 0 = 0 ∧ r 0 % 2 = 1
  | 24 => V 0 % 2 = 1
  | 25 => V 0 % 2 = 1
  | _ => V 0 = 0 ∧ V 3 % 2 = 1

def stage (f q : Nat) : Nat :=
  if f = 3 then (if q ≤ 5 then 0 else if q = 6 then 1 else if q = 7 then 2 else if q = 8 then 3 else if q = 9 then 4 else if q = 10 then 5 else if q = 11 then 6 else if q = 12 then 7 else if q = 13 then 12 else if q = 14 then 13 else if q = 15 then 14 else if q = 16 then 15 else 16)
  else if f = 2 then (if q ≤ 13 then q else q - 1)
  else q
def Cur (C : List Nat) (O : Nat → Prop) (r : Nat → Int) (P : Nat → Prop) : Prop := ∃ i u : Nat, C[i]? = some u ∧ r 2 = (u : Int) + 2 ∧ (∀ t, O t → ∃ j, j ≤ i ∧ C[j]? = some t) ∧ (O u → P u)
def Scan (C : List Nat) (O : Nat → Prop) (s r : Nat → Int) : Nat → Prop
  | 0 => ∀ t, ¬ O t
  | 1 => ∀ t, O t → t ∈ C
  | 2 => (r 2 = 1 ∧ ∀ t, O t → t ∈ C) ∨ Cur C O r (fun _ => False)
  | 3 => (r 2 = 1 ∧ ∀ t, O t → t ∈ C) ∨ Cur C O r (fun _ => False)
  | 4 => (r 2 = 0 ∧ ∀ t, ¬ O t) ∨ Cur C O r (fun _ => True)
  | 5 => Cur C O r (fun _ => True)
  | 6 => Cur C O r (fun u => r 0 = s u)
  | 7 => Cur C O r (fun u => r 0 = s u)
  | 8 => r 1 = 2 ∧ Cur C O r (fun u => r 0 = s u)
  | 9 => r 1 = (2 + r 0) % 4294967296 ∧ Cur C O r (fun u => r 0 = s u)
  | 10 => Cur C O r (fun u => r 1 = (2 + s u) % 4294967296)
  | 11 => r 0 = 2 ∧ Cur C O r (fun u => r 1 = (2 + s u) % 4294967296)
  | 12 => Cur C O r (fun u => r 1 = s u)
  | 13 => Cur C O r (fun u => r 1 = s u)
  | 14 => Cur C O r (fun u => r 1 = s u ∧ r 0 = s u)
  | 15 => Cur C O r (fun _ => False)
  | _ => ∀ t, ¬ O t

def La (f : Nat) (C : List Nat) (O : Nat → Prop) (s : Nat → Int) (t : Nat) (V r : Nat → Int) : Option Pt → Prop
  | none => f ≠ 3 → Bs f (t ∈ C) t 0 V
  | some ⟨.enter, q, d⟩ => f ≠ 3 ∧ Le f (t ∈ C) t d V r q
  | some ⟨.leave, q, d⟩ => f ≠ 3 ∧ Ll f (t ∈ C) t d V r q
  | some ⟨.rest, q, _⟩ => f = 3 ∧ Lr V r q
  | some ⟨.gone, q, _⟩ => f = 3 ∧ Lg V r q
  | some ⟨.wait, q, d⟩ => d = 0 ∧ (f = 3 → Lw3 V r q) ∧ (f ≠ 3 → Bs f (t ∈ C) t 0 V) ∧ Scan C O s r (stage f q)
  | some ⟨.get, _, d⟩ => Bs f (t ∈ C) t d V ∧ 0 < d
  | some ⟨.read, _, d⟩ => Bs f (t ∈ C) t d V ∧ 0 < d
  | some ⟨_, _, d⟩ => Bs f (t ∈ C) t d V ∧ d = 0

def ov (m : Mk) (t k : Nat) : Int := vw m t (t + 1) 0 k
def sh (m : Mk) (u : Nat) : Int := m.mem.ar.words (u + 1) 0
def Ol (G : Gh) (w t : Nat) : Prop := G.old w t = true
structure PI (f n : Nat) (G : Gh) (m : Mk) : Prop where
  fl : 1 ≤ f ∧ f ≤ 4
  few : n ≤ 6
  thr : m.mem.threads = n
  here : ∀ c, c ≤ n + 1 → Live m c ∧ m.mem.ar.given c = 1
  r5 : ∀ t, t < n → m.regs t 5 = (n : Int) + 2
  r6 : ∀ t, t < n → m.regs t 6 = (t : Int) + 2
  r7 : ∀ t, t < n → m.regs t 7 = 1
  hub : m.mem.ar.words 0 0 % 2 = 1
  wts : ∀ t, t < n → ∀ x ∈ m.mem.waits t, (0 ≤ x.c ∧ 0 ≤ x.w) ∧ (x.c = (t : Int) + 1 ∧ x.g = 0 ∧ (f ≠ 2 → x.w ≠ 0) ∧ (x.w = 1 → f = 4 ∧ t ∉ G.ch) ∨ (n : Int) + 2 ≤ x.c)
  chn : G.ch.Nodup
  chl : ∀ t ∈ G.ch, t < n
  chf : f ≠ 4 → ∀ t, t < n → t ∈ G.ch
  chh : m.mem.ar.words 0 1 = match G.ch.getLast? with | none => 0 | some u => (u : Int) + 2
  chw : ∀ (i u : Nat), G.ch[i]? = some u → m.mem.ar.words (u + 1) 1 = match i with | 0 => 0 | j + 1 => match G.ch[j]? with | none => 0 | some v => (v : Int) + 2
  la : ∀ t, t < n → La f G.ch (Ol G t) (sh m) t (ov m t) (m.regs t) (G.pt t)
  old : ∀ w t, w < n → Ol G w t → t < n ∧ (∃ q d, G.pt w = some ⟨.wait, q, d⟩) ∧ ov m t 0 ≠ 0 ∧ ∀ x ∈ m.mem.waits t, x.c = (t : Int) + 1 → x.w ≠ 0

def dst : Option Pt → Nat
  | some ⟨.new _, q, _⟩ => if q = 0 then 0 else if q < 3 then 1 else 2
  | some ⟨.pub, q, _⟩ => if q = 0 then 2 else 3
  | some ⟨.wait, _, _⟩ => 3
  | some ⟨.free, q, _⟩ => if q = 0 then 3 else 0
  | _ => 0
def pre (f : Nat) : Option Pt → Prop
  | some ⟨.pub, _, _⟩ => True
  | some ⟨.wait, q, _⟩ => stage f q = 0
  | _ => False
def reads : Option Pt → Prop
  | some ⟨.get, q, _⟩ => 0 < q
  | some ⟨.read, _, _⟩ => True
  | _ => False
structure DI (f n : Nat) (G : Gh) (m : Mk) : Prop where
  size : m.mem.ar.size = 30
  pub : (n + 2 ≤ G.pp ∧ Live m G.pp) ∧ m.mem.ar.words (n + 1) 0 = rf m G.pp ∧ m.mem.ar.words G.pp 0 ≠ 0
  pubw : ∀ t, t < n → ∀ x ∈ m.mem.waits t, x.c ≠ (G.pp : Int)
  own : ∀ w, w < n → dst (G.pt w) ≠ 0 → (n + 2 ≤ G.dx w ∧ Live m (G.dx w)) ∧ m.regs w 3 = rf m (G.dx w) ∧ G.dx w ≠ G.pp
  apart : ∀ w u, w < n → u < n → w ≠ u → dst (G.pt w) ≠ 0 → dst (G.pt u) ≠ 0 → G.dx w ≠ G.dx u
  wts : ∀ t, t < n → ∀ x ∈ m.mem.waits t, (n : Int) + 2 ≤ x.c → dst (G.pt t) = 2 ∧ x.c = (G.dx t : Int) ∧ x.g = gn m (G.dx t) ∧ x.w = 0 ∧ x.v ≠ 0
  set : ∀ w, w < n → dst (G.pt w) = 2 → vw m w (G.dx w) (gn m (G.dx w)) 0 ≠ 0
  ret : ∀ w, w < n → dst (G.pt w) = 3 → m.mem.ar.words (G.dx w) 0 ≠ 0
  hold : ∀ t, t < n → reads (G.pt t) → m.regs t 3 = rf m G.pp ∨ ∃ w, w < n ∧ dst (G.pt w) = 3 ∧ m.regs t 3 = rf m (G.dx w) ∧ (pre f (G.pt w) ∨ Ol G w t)
  r4 : ∀ t d, t < n → G.pt t = some ⟨.read, 1, d⟩ → m.regs t 4 ≠ 0
  new4 : ∀ t v q d, t < n → G.pt t = some ⟨.new v, q, d⟩ → v ≠ 0 ∧ (q = 2 → m.regs t 4 = v)
  live : ∀ c, n + 2 ≤ c → c < 30 → m.mem.ar.there c = true → c = G.pp ∨ ∃ w, w < n ∧ dst (G.pt w) ≠ 0 ∧ c = G.dx w
  ok : m.faults = 0
end Go.Proofs.YtaiigfcfmcicjaaGreatDoor
