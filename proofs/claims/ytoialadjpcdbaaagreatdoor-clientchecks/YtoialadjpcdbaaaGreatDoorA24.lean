import Derived.Test.YtoialadjpcdbaaaGreatDoorA23

/- GcC -/
namespace Go.Proofs.YtoialadjpcdbaaaGreatDoor
open Go.RowKit

def vw (m : Mk) (t : Nat) (c : Nat) (g : Int) (k : Nat) : Int := (m.mem.waits t).foldl (Wt.pick c g k) (m.mem.ar.words c k)
def rf (m : Mk) (c : Nat) : Int := ((m.mem.ar.given c : Int) - 1) * 64 + c + 1
structure Live (m : Mk) (c : Nat) : Prop where
  lt : c < m.mem.ar.size
  there : m.mem.ar.there c = true
  given : 0 < m.mem.ar.given c
  small : m.mem.ar.size ≤ 64
def gn (m : Mk) (c : Nat) : Int := (m.mem.ar.given c : Int) - 1

theorem rf_cell {m : Mk} {c : Nat} (h : Live m c) : cellOf (rf m c) = c ∧ genOf (rf m c) = gn m c := by
  have h1 := h.lt
  have h2 := h.small
  unfold cellOf genOf rf gn
  constructor <;> omega
theorem rf_pos {m : Mk} {c : Nat} (h : Live m c) : 0 < rf m c := by
  have h1 := h.given
  unfold rf
  omega
theorem has_iff {s : Ar} {c : Nat} {g : Int} (hs : c < s.size) : s.has c g = true ↔ s.there c = true ∧ g = (s.given c : Int) - 1 := by
  unfold Ar.has
  simp only [Bool.and_eq_true, decide_eq_true_eq, beq_iff_eq, Int.toNat_natCast]
  constructor
  · rintro ⟨⟨-, h1⟩, h2⟩; exact ⟨h1, h2⟩
  · rintro ⟨h1, h2⟩; exact ⟨⟨by omega, h1⟩, h2⟩
theorem Live.has {m : Mk} {c : Nat} (h : Live m c) : m.mem.ar.has c (gn m c) = true := (has_iff h.lt).2 ⟨h.there, rfl⟩
theorem Live.names {m : Mk} {c : Nat} (h : Live m c) : m.names (rf m c) = true := by
  unfold Mk.names
  rw [(rf_cell h).1, (rf_cell h).2, h.has]
  have := rf_pos h
  have e : (rf m c == 0) = false := by rw [beq_eq_false_iff_ne]; omega
  rw [e]; rfl
theorem Live.loaded {m : Mk} {c : Nat} (h : Live m c) (t k : Nat) : m.loaded t (rf m c) k = vw m t c (gn m c) k := by
  unfold Mk.loaded vw
  rw [(rf_cell h).1, (rf_cell h).2, Int.toNat_natCast, Int.toNat_natCast]
theorem load_live {m : Mk} {c : Nat} (h : Live m c) (t r k : Nat) : m.load t r (rf m c) k = m.setReg t r (vw m t c (gn m c) k) := by
  unfold Mk.load
  rw [if_pos h.names, h.loaded]

structure SameCells (m m' : Mk) : Prop where
  size : m'.mem.ar.size = m.mem.ar.size
  there : m'.mem.ar.there = m.mem.ar.there
  given : m'.mem.ar.given = m.mem.ar.given
theorem SameCells.refl (m : Mk) : SameCells m m := ⟨rfl, rfl, rfl⟩
theorem SameCells.trans {a b c : Mk} (h : SameCells a b) (k : SameCells b c) : SameCells a c := ⟨k.size.trans h.size, k.there.trans h.there, k.given.trans h.given⟩
theorem SameCells.live {m m' : Mk} (h : SameCells m m') {c : Nat} (k : Live m c) : Live m' c := ⟨by rw [h.size]; exact k.lt, by rw [h.there]; exact k.there, by rw [h.given]; exact k.given, by rw [h.size]; exact k.small⟩
theorem SameCells.rf {m m' : Mk} (h : SameCells m m') (c : Nat) : rf m' c = rf m c := by unfold Go.Proofs.YtoialadjpcdbaaaGreatDoor.rf; rw [h.given]
theorem SameCells.gn {m m' : Mk} (h : SameCells m m') (c : Nat) : gn m' c = gn m c := by unfold Go.Proofs.YtoialadjpcdbaaaGreatDoor.gn; rw [h.given]

theorem foldl_snoc (l : List Wt) (x : Wt) (c g k v : Int) : (l ++ [x]).foldl (Wt.pick c g k) v = Wt.pick c g k (l.foldl (Wt.pick c g k) v) x := by
  rw [List.foldl_append]; rfl
theorem foldl_none {c g k : Int} : ∀ {l : List Wt} {v : Int}, (∀ x ∈ l, ¬ (x.c = c ∧ x.g = g ∧ x.w = k)) → l.foldl (Wt.pick c g k) v = v
  | [], _, _ => rfl
  | x :: l, v, h => by
    rw [List.foldl_cons]
    have : Wt.pick c g k v x = v := if_neg (h x List.mem_cons_self)
    rw [this]
    exact foldl_none (fun y hy => h y (List.mem_cons_of_mem _ hy))

structure Drained (m m' : Mk) (t : Nat) (x : Wt) (l : List Wt) : Prop where
  cells : SameCells m m'
  thr : m'.mem.threads = m.mem.threads
  own : m'.mem.waits t = l
  was : m.mem.waits t = x :: l
  waits : ∀ u, u ≠ t → m'.mem.waits u = m.mem.waits u
  regs : m'.regs = m.regs
  pc : m'.pc = m.pc
  words : ∀ c k, m'.mem.ar.words c k = if c = x.c.toNat ∧ k = x.w.toNat ∧ m.mem.ar.has x.c x.g = true then x.v else m.mem.ar.words c k
  faults : m'.faults = m.faults + if m.mem.ar.has x.c x.g = true then 0 else 1
theorem drain1_cons {m : Mk} {t : Nat} {x : Wt} {l : List Wt} (h : m.mem.waits t = x :: l) : Drained m (m.drain1 t) t x l := by
  have e : m.drain1 t = { m with mem := m.mem.drained t x l, faults := m.faults + if m.mem.ar.has x.c x.g = true then 0 else 1 } := by
    unfold Mk.drain1
    rw [h]
  rw [e]
  refine ⟨⟨(Rm.drained_ar _ _ _ _).1, (Rm.drained_ar _ _ _ _).2.1, (Rm.drained_ar _ _ _ _).2.2⟩, Rm.drained_threads _ _ _ _, Rm.drained_waits _ _ _ _, h, fun u hu => Rm.drained_waits_ne _ _ _ _ _ hu, rfl, rfl, fun c k => ?_, rfl⟩
  show (m.mem.drained t x l).ar.words c k = _
  unfold Rm.drained
  by_cases hh : m.mem.ar.has x.c x.g = true
  · rw [if_pos hh]
    show (if c = x.c.toNat ∧ k = x.w.toNat then x.v else m.mem.ar.words c k) = _
    by_cases e : c = x.c.toNat ∧ k = x.w.toNat
    · rw [if_pos e, if_pos ⟨e.1, e.2, hh⟩]
    · rw [if_neg e, if_neg (fun e2 => e ⟨e2.1, e2.2.1⟩)]
  · rw [if_neg hh, if_neg (fun e2 => hh e2.2.2)]; rfl
theorem drain1_nil {m : Mk} {t : Nat} (h : m.mem.waits t = []) : m.drain1 t = m := by
  unfold Mk.drain1
  rw [h]
theorem Drained.vw {m m' : Mk} {t : Nat} {x : Wt} {l : List Wt} (h : Drained m m' t x l) {c : Nat} (hc : Live m c) (hx : 0 ≤ x.c ∧ 0 ≤ x.w) (k : Nat) : vw m' t c (gn m c) k = vw m t c (gn m c) k := by
  unfold Go.Proofs.YtoialadjpcdbaaaGreatDoor.vw
  rw [h.own, h.was, List.foldl_cons, h.words]
  congr 1
  unfold Wt.pick
  by_cases e : x.c = c ∧ x.g = gn m c ∧ x.w = k
  · rw [if_pos e]
    obtain ⟨e1, e2, e3⟩ := e
    rw [if_pos ⟨by omega, by omega, by rw [e1, e2]; exact hc.has⟩]
  · rw [if_neg e, if_neg]
    rintro ⟨e1, e2, e3⟩
    have ec : x.c = c := by omega
    refine e ⟨ec, ?_, by omega⟩
    rw [ec] at e3
    exact ((has_iff hc.lt).1 e3).2
theorem Drained.vw_ne {m m' : Mk} {t u : Nat} {x : Wt} {l : List Wt} (h : Drained m m' t x l) (hu : u ≠ t) {c : Nat} (hc : c ≠ x.c.toNat) (g : Int) (k : Nat) : Go.Proofs.YtoialadjpcdbaaaGreatDoor.vw m' u c g k = Go.Proofs.YtoialadjpcdbaaaGreatDoor.vw m u c g k := by
  unfold Go.Proofs.YtoialadjpcdbaaaGreatDoor.vw
  rw [h.waits u hu, h.words, if_neg (fun e => hc e.1)]

theorem fence_of {P : Mk → Prop} {t : Nat} (hd : ∀ m, P m → P (m.drain1 t)) : ∀ {m : Mk}, P m → P (m.fence t) := by
  have key : ∀ (l : List Wt) (m : Mk), m.mem.waits t = l → P m → P { m with mem := m.mem.drainAll t l, faults := m.faults + m.mem.gone t l } := by
    intro l
    induction l with
    | nil => intro m _ h; exact h
    | cons x l ih =>
      intro m hm h
      have e : m.drain1 t = { m with mem := m.mem.drained t x l, faults := m.faults + if m.mem.ar.has x.c x.g = true then 0 else 1 } := by
        unfold Mk.drain1
        rw [hm]
      have h1 := hd m h
      rw [e] at h1
      have := ih _ (Rm.drained_waits m.mem t x l) h1
      have e2 : m.faults + (if m.mem.ar.has x.c x.g = true then 0 else 1) + (m.mem.drained t x l).gone t l = m.faults + m.mem.gone t (x :: l) := by
        show _ = m.faults + ((if m.mem.ar.has x.c x.g = true then 0 else 1) + (m.mem.drained t x l).gone t l)
        omega
      dsimp only at this
      rw [e2] at this
      exact this
  intro m h
  exact key _ m rfl h
theorem fence_waits_ne (m : Mk) (t : Nat) {u : Nat} (h : u ≠ t) : (m.fence t).mem.waits u = m.mem.waits u := Rm.drainAll_waits_ne _ _ _ h _
theorem force_waits (k : Nat) : ∀ (m : Mk) (t u : Nat), (t ≤ u ∧ u < t + k ∨ m.mem.waits u = []) → (m.fenceFrom t k).mem.waits u = [] := by
  induction k with
  | zero =>
    intro m t u h
    rcases h with h | h
    · omega
    · exact h
  | succ k ih =>
    intro m t u h
    refine ih (m.fence t) (t + 1) u ?_
    by_cases e : u = t
    · subst e
      exact .inr (Rm.drainAll_waits _ _ _ rfl)
    · rcases h with h | h
      · exact .inl ⟨by omega, by omega⟩
      · exact .inr (by rw [fence_waits_ne m t e]; exact h)

theorem setReg_reg (m : Mk) (t r : Nat) (v : Int) (k : Nat) : (m.setReg t r v).regs t k = if k = r then v else m.regs t k := by
  show (if t = t ∧ k = r then v else m.regs t k) = _
  by_cases e : k = r
  · rw [if_pos ⟨rfl, e⟩, if_pos e]
  · rw [if_neg (fun h => e h.2), if_neg e]
theorem setReg_other (m : Mk) (t r : Nat) (v : Int) {u : Nat} (hu : u ≠ t) : (m.setReg t r v).regs u = m.regs u := by
  funext k
  exact if_neg (fun h => hu h.1)
theorem drain1_regs (m : Mk) (t : Nat) : (m.drain1 t).regs = m.regs ∧ (m.drain1 t).pc = m.pc := by
  unfold Mk.drain1
  split <;> exact ⟨rfl, rfl⟩
theorem fenceFrom_regs : ∀ (k : Nat) (m : Mk) (t : Nat), (m.fenceFrom t k).regs = m.regs ∧ (m.fenceFrom t k).pc = m.pc
  | 0, _, _ => ⟨rfl, rfl⟩
  | k + 1, m, t => fenceFrom_regs k (m.fence t) (t + 1)

theorem store_live {m : Mk} {c : Nat} (h : Live m c) (t k : Nat) (v : Int) : m.store t (rf m c) k v = (m.room t).put t (rf m c) k v := by
  unfold Mk.store
  rw [if_pos h.names]
theorem room_of {P : Mk → Prop} {t : Nat} {m : Mk} (hd : ∀ m, P m → P (m.drain1 t)) (h : P m) : P (m.room t) := by
  unfold Mk.room
  split
  · exact hd m h
  · exact h
theorem room_regs (m : Mk) (t : Nat) : (m.room t).regs = m.regs ∧ (m.room t).pc = m.pc := by
  unfold Mk.room
  split
  · exact drain1_regs m t
  · exact ⟨rfl, rfl⟩
end Go.Proofs.YtoialadjpcdbaaaGreatDoor

/- GcD -/
namespace Go.Proofs.YtoialadjpcdbaaaGreatDoor
open Go.RowKit

inductive Tg
  | enter | leave | rest | gone | wait | get | read | new (v : Int) | pub | free
deriving DecidableEq
def tgCode (f : Nat) : Tg → List GI
  | .enter => gEnter f
  | .leave => gLeave f
  | .rest => gRest f
  | .gone => gGone f
  | .wait => gWait f
  | .get => [.load 3 5 0]
  | .read => [.load 4 3 0, .need 4]
  | .new v => [.alloc 3, .const 4 v, .store 3 4 0]
  | .pub => [.swap 3 5 0]
  | .free => [.free 3]
structure Pt where
  tg : Tg
  q : Nat
  d : Nat
structure Gh where
  pt : Nat → Option Pt
  old : Nat → Nat → Bool
  ch : List Nat
  pp : Nat
  dx : Nat → Nat

def Bs (f : Nat) (J : Prop) (t d : Nat) (V : Nat → Int) : Prop :=
  (f = 3 → V 0 % 2 = 1) ∧ (f ≠ 3 → (d = 0 → V 0 = 0 ∧ V 2 = 0) ∧ (0 < d → V 0 ≠ 0 ∧ V 2 = (d : Int) - 1)) ∧ (f = 4 → (J → V 3 = (t : Int) + 2) ∧ (¬ J → V 3 = 0 ∧ d = 0))
def Nj (J : Prop) (d : Nat) (V : Nat → Int) : Prop := d = 0 ∧ V 0 = 0 ∧ V 2 = 0 ∧ ¬ J

def Le (f : Nat) (J : Prop) (t d : Nat) (V r : Nat → Int) : Nat → Prop
  | 0 => Bs f J t d V
  | 1 => Bs f J t d V ∧ r 0 = V 0
  | 2 => Bs f J t d V ∧ 0 < d
  | 3 => Bs f J t d V ∧ 0 < d ∧ r 0 = V 2
  | 4 => Bs f J t d V ∧ 0 < d ∧ r 0 = V 2 ∧ r 1 = 1
  | 5 => Bs f J t d V ∧ 0 < d ∧ r 0 = V 2 + 1
  | 6 => Bs f J t (d + 1) V
  | 7 => Bs f J t d V ∧ d = 0
  | q => if f = 4 then
      match q with
      | 8 => Bs f J t d V ∧ d = 0
      | 9 => Bs f J t d V ∧ d = 0 ∧ r 0 = V 3
      | 10 => Nj J d V
      | 11 => Nj J d V
      | 12 => Nj J d V
      | 13 => Nj J d V ∧ r 1 = (t : Int) + 2
      | 14 => Nj J d V ∧ r 1 = (t : Int) + 2 ∧ V 3 = (t : Int) + 2
      | 15 => Nj J d V ∧ r 1 = (t : Int) + 2 ∧ V 3 = (t : Int) + 2 ∧ V 1 = r 0
      | 16 => d = 0 ∧ V 0 = 0 ∧ V 2 = 0 ∧ V 3 = (t : Int) + 2 ∧ (J ∧ V 1 = r 0 ∨ ¬ J ∧ V 1 ≠ r 0)
      | 17 => d = 0 ∧ V 0 = 0 ∧ V 2 = 0 ∧ V 3 = (t : Int) + 2 ∧ (J ∧ r 0 = r 1 ∨ ¬ J ∧ r 0 ≠ r 1)
      | 18 => Nj J d V
      | 19 => Bs f J t d V ∧ d = 0 ∧ J
      | 20 => Bs f J t d V ∧ d = 0 ∧ J
      | 21 => Bs f J t d V ∧ d = 0 ∧ J ∧ r 0 ≠ 0
      | _ => Bs f J t (d + 1) V
    else
      match q with
      | 8 => Bs f J t d V ∧ d = 0
      | 9 => Bs f J t d V ∧ d = 0 ∧ r 0 ≠ 0
      | _ => Bs f J t (d + 1) V
def Ll (f : Nat) (J : Prop) (t d : Nat) (V r : Nat → Int) : Nat → Prop
  | 0 => Bs f J t d V ∧ 0 < d
  | 1 => Bs f J t d V ∧ 0 < d ∧ r 0 = V 2
  | 2 => Bs f J t d V ∧ 1 < d
  | 3 => Bs f J t d V ∧ 1 < d ∧ r 0 = V 2
  | 4 => Bs f J t d V ∧ 1 < d ∧ r 0 = V 2 ∧ r 1 = 1
  | 5 => Bs f J t d V ∧ 1 < d ∧ r 0 = V 2 - 1
  | 6 => Bs f J t (d - 1) V ∧ 1 < d
  | 7 => Bs f J t d V ∧ d = 1 ∧ r 0 = 0
  | 8 => Bs f J t d V ∧ d = 1 ∧ r 0 = 0
  | _ => Bs f J t (d - 1) V
def Lr (V r : Nat → Int) : Nat → Prop
  | 0 => V 0 % 2 = 1
  | 1 => V 0 % 2 = 1
  | 2 => V 0 % 2 = 1 ∧ r 0 = V 0
  | 3 => V 0 % 2 = 1 ∧ r 0 = V 0
  | 4 => V 0 % 2 = 1 ∧ r 0 = V 0 ∧ r 1 = 2
  | 5 => V 0 % 2 = 1 ∧ r 0 % 2 = 1
  | _ => V 0 % 2 = 1
def Lg (V r : Nat → Int) : Nat → Prop
  | 0 => V 0 % 2 = 1
  | 1 => V 0 % 2 = 1
  | 2 => V 0 % 2 = 1 ∧ r 0 = 0
  | _ => V 0 = 0
def Lw3 (V r : Nat → Int) : Nat → Prop
  | 0 => V 0 % 2 = 1
  | 1 => V 0 % 2 = 1
  | 2 => V 0 % 2 = 1 ∧ r 0 = 0
  | 3 => V 0 = 0 ∧ r 0 % 2 = 1
  | 20 => V 0 = 0 ∧ V 3 % 2 = 1 ∧ r 0 = V 3
  | 21 => V 0 = 0 ∧ V 3 % 2 = 1 ∧ r 0 = V 3
  | 22 => V 0 = 0 ∧ V 3 % 2 = 1 ∧ r 0 = V 3 ∧ r 1 = 2
  | 23 => V 0 = 0 ∧ r 0 % 2 = 1
  | 24 => V 0 % 2 = 1
  | 25 => V 0 % 2 = 1
  | _ => V 0 = 0 ∧ V 3 % 2 = 1

def stage (f q : Nat) : Nat :=
  if f = 3 then (if q ≤ 5 then 0 else if q = 6 then 1 else if q = 7 then 2 else if q = 8 then 3 else if q = 9 then 4 else if q = 10 then 5 else if q = 11 then 6 else if q = 12 then 7 else if q = 13 then 12 else if q = 14 then 13 else if q = 15 then 14 else if q = 16 then 15 else 16)
  else if f = 2 then (if q ≤ 13 then q else q - 1)
  else q
def Cur (C : List Nat) (O : Nat → Prop) (r : Nat → Int) (P : Nat → Prop) : Prop := ∃ i u : Nat, C[i]? = some u ∧ r 2 = (u : Int) + 2 ∧ (∀ t, O t → ∃ j, j ≤ i ∧ C[j]? = some t) ∧ (O u → P u)
def Scan (C : List Nat) (O : Nat → Prop) (s r : Nat → Int) : Nat → Prop
  | 0 => ∀ t, ¬ O t
  | 1 => ∀ t, O t → t ∈ C
  | 2 => (r 2 = 1 ∧ ∀ t, O t → t ∈ C) ∨ Cur C O r (fun _ => False)
  | 3 => (r 2 = 1 ∧ ∀ t, O t → t ∈ C) ∨ Cur C O r (fun _ => False)
  | 4 => (r 2 = 0 ∧ ∀ t, ¬ O t) ∨ Cur C O r (fun _ => True)
  | 5 => Cur C O r (fun _ => True)
  | 6 => Cur C O r (fun u => r 0 = s u)
  | 7 => Cur C O r (fun u => r 0 = s u)
  | 8 => r 1 = 2 ∧ Cur C O r (fun u => r 0 = s u)
  | 9 => r 1 = (2 + r 0) % 4294967296 ∧ Cur C O r (fun u => r 0 = s u)
  | 10 => Cur C O r (fun u => r 1 = (2 + s u) % 4294967296)
  | 11 => r 0 = 2 ∧ Cur C O r (fun u => r 1 = (2 + s u) % 4294967296)
  | 12 => Cur C O r (fun u => r 1 = s u)
  | 13 => Cur C O r (fun u => r 1 = s u)
  | 14 => Cur C O r (fun u => r 1 = s u ∧ r 0 = s u)
  | 15 => Cur C O r (fun _ => False)
  | _ => ∀ t, ¬ O t

def La (f : Nat) (C : List Nat) (O : Nat → Prop) (s : Nat → Int) (t : Nat) (V r : Nat → Int) : Option Pt → Prop
  | none => f ≠ 3 → Bs f (t ∈ C) t 0 V
  | some ⟨.enter, q, d⟩ => f ≠ 3 ∧ Le f (t ∈ C) t d V r q
  | some ⟨.leave, q, d⟩ => f ≠ 3 ∧ Ll f (t ∈ C) t d V r q
  | some ⟨.rest, q, _⟩ => f = 3 ∧ Lr V r q
  | some ⟨.gone, q, _⟩ => f = 3 ∧ Lg V r q
  | some ⟨.wait, q, d⟩ => d = 0 ∧ (f = 3 → Lw3 V r q) ∧ (f ≠ 3 → Bs f (t ∈ C) t 0 V) ∧ Scan C O s r (stage f q)
  | some ⟨.get, _, d⟩ => Bs f (t ∈ C) t d V ∧ 0 < d
  | some ⟨.read, _, d⟩ => Bs f (t ∈ C) t d V ∧ 0 < d
  | some ⟨_, _, d⟩ => Bs f (t ∈ C) t d V ∧ d = 0

def ov (m : Mk) (t k : Nat) : Int := vw m t (t + 1) 0 k
def sh (m : Mk) (u : Nat) : Int := m.mem.ar.words (u + 1) 0
def Ol (G : Gh) (w t : Nat) : Prop := G.old w t = true
structure PI (f n : Nat) (G : Gh) (m : Mk) : Prop where
  fl : 1 ≤ f ∧ f ≤ 4
  few : n ≤ 6
  thr : m.mem.threads = n
  here : ∀ c, c ≤ n + 1 → Live m c ∧ m.mem.ar.given c = 1
  r5 : ∀ t, t < n → m.regs t 5 = (n : Int) + 2
  r6 : ∀ t, t < n → m.regs t 6 = (t : Int) + 2
  r7 : ∀ t, t < n → m.regs t 7 = 1
  hub : m.mem.ar.words 0 0 % 2 = 1
  wts : ∀ t, t < n → ∀ x ∈ m.mem.waits t, (0 ≤ x.c ∧ 0 ≤ x.w) ∧ (x.c = (t : Int) + 1 ∧ x.g = 0 ∧ (f ≠ 2 → x.w ≠ 0) ∧ (x.w = 1 → f = 4 ∧ t ∉ G.ch) ∨ (n : Int) + 2 ≤ x.c)
  chn : G.ch.Nodup
  chl : ∀ t ∈ G.ch, t < n
  chf : f ≠ 4 → ∀ t, t < n → t ∈ G.ch
  chh : m.mem.ar.words 0 1 = match G.ch.getLast? with | none => 0 | some u => (u : Int) + 2
  chw : ∀ (i u : Nat), G.ch[i]? = some u → m.mem.ar.words (u + 1) 1 = match i with | 0 => 0 | j + 1 => match G.ch[j]? with | none => 0 | some v => (v : Int) + 2
  la : ∀ t, t < n → La f G.ch (Ol G t) (sh m) t (ov m t) (m.regs t) (G.pt t)
  old : ∀ w t, w < n → Ol G w t → t < n ∧ (∃ q d, G.pt w = some ⟨.wait, q, d⟩) ∧ ov m t 0 ≠ 0 ∧ ∀ x ∈ m.mem.waits t, x.c = (t : Int) + 1 → x.w ≠ 0

def dst : Option Pt → Nat
  | some ⟨.new _, q, _⟩ => if q = 0 then 0 else if q < 3 then 1 else 2
  | some ⟨.pub, q, _⟩ => if q = 0 then 2 else 3
  | some ⟨.wait, _, _⟩ => 3
  | some ⟨.free, q, _⟩ => if q = 0 then 3 else 0
  | _ => 0
def pre (f : Nat) : Option Pt → Prop
  | some ⟨.pub, _, _⟩ => True
  | some ⟨.wait, q, _⟩ => stage f q = 0
  | _ => False
def reads : Option Pt → Prop
  | some ⟨.get, q, _⟩ => 0 < q
  | some ⟨.read, _, _⟩ => True
  | _ => False
structure DI (f n : Nat) (G : Gh) (m : Mk) : Prop where
  size : m.mem.ar.size = 30
  pub : (n + 2 ≤ G.pp ∧ Live m G.pp) ∧ m.mem.ar.words (n + 1) 0 = rf m G.pp ∧ m.mem.ar.words G.pp 0 ≠ 0
  pubw : ∀ t, t < n → ∀ x ∈ m.mem.waits t, x.c ≠ (G.pp : Int)
  own : ∀ w, w < n → dst (G.pt w) ≠ 0 → (n + 2 ≤ G.dx w ∧ Live m (G.dx w)) ∧ m.regs w 3 = rf m (G.dx w) ∧ G.dx w ≠ G.pp
  apart : ∀ w u, w < n → u < n → w ≠ u → dst (G.pt w) ≠ 0 → dst (G.pt u) ≠ 0 → G.dx w ≠ G.dx u
  wts : ∀ t, t < n → ∀ x ∈ m.mem.waits t, (n : Int) + 2 ≤ x.c → dst (G.pt t) = 2 ∧ x.c = (G.dx t : Int) ∧ x.g = gn m (G.dx t) ∧ x.w = 0 ∧ x.v ≠ 0
  set : ∀ w, w < n → dst (G.pt w) = 2 → vw m w (G.dx w) (gn m (G.dx w)) 0 ≠ 0
  ret : ∀ w, w < n → dst (G.pt w) = 3 → m.mem.ar.words (G.dx w) 0 ≠ 0
  hold : ∀ t, t < n → reads (G.pt t) → m.regs t 3 = rf m G.pp ∨ ∃ w, w < n ∧ dst (G.pt w) = 3 ∧ m.regs t 3 = rf m (G.dx w) ∧ (pre f (G.pt w) ∨ Ol G w t)
  r4 : ∀ t d, t < n → G.pt t = some ⟨.read, 1, d⟩ → m.regs t 4 ≠ 0
  new4 : ∀ t v q d, t < n → G.pt t = some ⟨.new v, q, d⟩ → v ≠ 0 ∧ (q = 2 → m.regs t 4 = v)
  live : ∀ c, n + 2 ≤ c → c < 30 → m.mem.ar.there c = true → c = G.pp ∨ ∃ w, w < n ∧ dst (G.pt w) ≠ 0 ∧ c = G.dx w
  ok : m.faults = 0
end Go.Proofs.YtoialadjpcdbaaaGreatDoor

/- GcE -/
namespace Go.Proofs.YtoialadjpcdbaaaGreatDoor
open Go.RowKit

theorem pre_at {C D : List Nat} {i u : Nat} (h : C[i]? = some u) : (C ++ D)[i]? = some u := by
  rw [List.getElem?_append_left (List.getElem?_eq_some_iff.1 h).1]; exact h
theorem Cur.frame {C C' : List Nat} {O O' : Nat → Prop} {r : Nat → Int} {P P' : Nat → Prop} (h : Cur C O r P) (hC : ∃ D, C' = C ++ D) (hO : ∀ t, O' t → O t) (hP : ∀ u, O' u → P u → P' u) : Cur C' O' r P' := by
  obtain ⟨i, u, h1, h2, h3, h4⟩ := h
  obtain ⟨D, rfl⟩ := hC
  refine ⟨i, u, pre_at h1, h2, fun t ht => ?_, fun hu => hP u hu (h4 (hO u hu))⟩
  obtain ⟨j, hj, hc⟩ := h3 t (hO t ht)
  exact ⟨j, hj, pre_at hc⟩
theorem Scan.frame {C C' : List Nat} {O O' : Nat → Prop} {s s' r : Nat → Int} (hC : ∃ D, C' = C ++ D) (hO : ∀ t, O' t → O t) (hs : ∀ u, O' u → s' u = s u) : ∀ {k : Nat}, Scan C O s r k → Scan C' O' s' r k := by
  have hm : ∀ t, t ∈ C → t ∈ C' := fun t ht => by obtain ⟨D, rfl⟩ := hC; exact List.mem_append_left _ ht
  intro k
  match k with
  | 0 => exact fun h t ht => h t (hO t ht)
  | 1 => exact fun h t ht => hm t (h t (hO t ht))
  | 2 =>
    rintro (⟨h1, h2⟩ | h)
    · exact .inl ⟨h1, fun t ht => hm t (h2 t (hO t ht))⟩
    · exact .inr (h.frame hC hO (fun _ _ h => h))
  | 3 =>
    rintro (⟨h1, h2⟩ | h)
    · exact .inl ⟨h1, fun t ht => hm t (h2 t (hO t ht))⟩
    · exact .inr (h.frame hC hO (fun _ _ h => h))
  | 4 =>
    rintro (⟨h1, h2⟩ | h)
    · exact .inl ⟨h1, fun t ht => h2 t (hO t ht)⟩
    · exact .inr (h.frame hC hO (fun _ _ h => h))
  | 5 => exact fun h => Cur.frame h hC hO (fun _ _ h => h)
  | 6 => exact fun h => Cur.frame h hC hO (fun u hu h => by rw [hs u hu]; exact h)
  | 7 => exact fun h => Cur.frame h hC hO (fun u hu h => by rw [hs u hu]; exact h)
  | 8 => exact fun h => ⟨h.1, h.2.frame hC hO (fun u hu h => by rw [hs u hu]; exact h)⟩
  | 9 => exact fun h => ⟨h.1, h.2.frame hC hO (fun u hu h => by rw [hs u hu]; exact h)⟩
  | 10 => exact fun h => Cur.frame h hC hO (fun u hu h => by rw [hs u hu]; exact h)
  | 11 => exact fun h => ⟨h.1, h.2.frame hC hO (fun u hu h => by rw [hs u hu]; exact h)⟩
  | 12 => exact fun h => Cur.frame h hC hO (fun u hu h => by rw [hs u hu]; exact h)
  | 13 => exact fun h => Cur.frame h hC hO (fun u hu h => by rw [hs u hu]; exact h)
  | 14 => exact fun h => Cur.frame h hC hO (fun u hu h => by rw [hs u hu]; exact h)
  | 15 => exact fun h => Cur.frame h hC hO (fun _ _ h => h)
  | _ + 16 => exact fun h t ht => h t (hO t ht)
theorem La.frame {f : Nat} {C C' : List Nat} {O O' : Nat → Prop} {s s' : Nat → Int} {t : Nat} {V r : Nat → Int} {g : Option Pt} (h : La f C O s t V r g) (hJ : t ∈ C' ↔ t ∈ C) (hC : ∃ D, C' = C ++ D) (hO : ∀ u, O' u → O u) (hs : ∀ u, O' u → s' u = s u) : La f C' O' s' t V r g := by
  have eJ : (t ∈ C') = (t ∈ C) := propext hJ
  cases g with
  | none => unfold La at h ⊢; rw [eJ]; exact h
  | some p =>
    obtain ⟨tg, q, d⟩ := p
    cases tg with
    | wait => exact ⟨h.1, h.2.1, by rw [eJ]; exact h.2.2.1, Scan.frame hC hO hs h.2.2.2⟩
    | rest => exact h
    | gone => exact h
    | enter => unfold La at h ⊢; rw [eJ]; exact h
    | leave => unfold La at h ⊢; rw [eJ]; exact h
    | get => unfold La at h ⊢; rw [eJ]; exact h
    | read => unfold La at h ⊢; rw [eJ]; exact h
    | new v => unfold La at h ⊢; rw [eJ]; exact h
    | pub => unfold La at h ⊢; rw [eJ]; exact h
    | free => unfold La at h ⊢; rw [eJ]; exact h

def PD (f n : Nat) (G : Gh) (m : Mk) : Prop := PI f n G m ∧ DI f n G m

section
variable {f n : Nat} {G : Gh} {m : Mk}
theorem PI.own (h : PI f n G m) {t : Nat} (ht : t < n) : Live m (t + 1) ∧ gn m (t + 1) = 0 ∧ rf m (t + 1) = (t : Int) + 2 := by
  obtain ⟨h1, h2⟩ := h.here (t + 1) (by omega)
  refine ⟨h1, ?_, ?_⟩
  · unfold gn; rw [h2]; rfl
  · unfold rf; rw [h2]; omega
theorem PI.cell (h : PI f n G m) {c : Nat} (hc : c ≤ n + 1) : Live m c ∧ gn m c = 0 ∧ rf m c = (c : Int) + 1 := by
  obtain ⟨h1, h2⟩ := h.here c hc
  refine ⟨h1, ?_, ?_⟩
  · unfold gn; rw [h2]; rfl
  · unfold rf; rw [h2]; omega

theorem PD.drain1 (h : PD f n G m) {t : Nat} (ht : t < n) : PD f n G (m.drain1 t) := by
  obtain ⟨P, D⟩ := h
  cases hw : m.mem.waits t with
  | nil => rw [drain1_nil hw]; exact ⟨P, D⟩
  | cons x l =>
    have E := drain1_cons hw
    generalize m.drain1 t = m' at E
    have hxm : x ∈ m.mem.waits t := by rw [hw]; exact List.mem_cons_self
    have hsub : ∀ y ∈ m'.mem.waits t, y ∈ m.mem.waits t := fun y hy => by rw [E.own] at hy; rw [hw]; exact List.mem_cons_of_mem _ hy
    have hsub' : ∀ u, ∀ y ∈ m'.mem.waits u, y ∈ m.mem.waits u := fun u y hy => by
      by_cases e : u = t
      · subst e; exact hsub y hy
      · rwa [E.waits u e] at hy
    obtain ⟨⟨x0, x1⟩, hx⟩ := P.wts t ht x hxm
    have hxd : (n : Int) + 2 ≤ x.c → dst (G.pt t) = 2 ∧ x.c = (G.dx t : Int) ∧ x.g = gn m (G.dx t) ∧ x.w = 0 ∧ x.v ≠ 0 := D.wts t ht x hxm
    have W : ∀ c k, (c ≠ x.c.toNat ∨ k ≠ x.w.toNat) → m'.mem.ar.words c k = m.mem.ar.words c k := fun c k hne => by
      rw [E.words, if_neg]
      rintro ⟨e1, e2, -⟩
      rcases hne with h | h
      · exact h e1
      · exact h e2
    have hov : ∀ u, u < n → ov m' u = ov m u := fun u hu => by
      funext k
      unfold ov
      by_cases e : u = t
      · subst e
        obtain ⟨L, e0, -⟩ := P.own hu
        have := E.vw L ⟨x0, x1⟩ k
        rwa [e0] at this
      · refine E.vw_ne e ?_ _ _
        rcases hx with ⟨h1, -⟩ | h1 <;> omega
    have hsh : ∀ w, w < n → ∀ u, Ol G w u → sh m' u = sh m u := fun w hw' u hu => by
      obtain ⟨hun, -, -, h4⟩ := P.old w u hw' hu
      unfold sh
      refine W _ _ ?_
      by_cases e : u = t
      · subst e
        rcases hx with ⟨h1, -⟩ | h1
        · have := h4 x hxm h1
          exact .inr (by omega)
        · exact .inl (by omega)
      · refine .inl ?_
        rcases hx with ⟨h1, -⟩ | h1 <;> omega
    have hrf : ∀ c, rf m' c = rf m c := E.cells.rf
    have hgn : ∀ c, gn m' c = gn m c := E.cells.gn
    have hne1 : ∀ c, c ≤ n + 1 → c ≠ t + 1 → c ≠ x.c.toNat := fun c h1 h2 => by
      rcases hx with ⟨h3, -⟩ | h3 <;> omega
    refine ⟨⟨P.fl, P.few, E.thr.trans P.thr, fun c hc => ⟨E.cells.live (P.here c hc).1, by rw [E.cells.given]; exact (P.here c hc).2⟩, fun u hu => by rw [E.regs]; exact P.r5 u hu, fun u hu => by rw [E.regs]; exact P.r6 u hu, fun u hu => by rw [E.regs]; exact P.r7 u hu, ?_, fun u hu y hy => P.wts u hu y (hsub' u y hy), P.chn, P.chl, P.chf, ?_, fun i u hi => ?_, fun u hu => ?_, fun w u hw' hu => ?_⟩,
      ⟨by rw [E.cells.size]; exact D.size, ⟨⟨D.pub.1.1, E.cells.live D.pub.1.2⟩, ?_, ?_⟩, fun u hu y hy => D.pubw u hu y (hsub' u y hy), fun w hw' hd => ?_, D.apart, fun u hu y hy hc => ?_, fun w hw' hd => ?_, fun w hw' hd => ?_, fun u hu hr => ?_, fun u d hu hp => by rw [E.regs]; exact D.r4 u d hu hp, fun u v q d hu hp => by rw [E.regs]; exact D.new4 u v q d hu hp, fun c h1 h2 h3 => ?_, ?_⟩⟩
    · rw [W 0 0 (.inl (hne1 0 (by omega) (by omega)))]; exact P.hub
    · rw [W 0 1 (.inl (hne1 0 (by omega) (by omega)))]; exact P.chh
    · rw [W (u + 1) 1 ?_]
      · exact P.chw i u hi
      · have hmem := List.mem_of_getElem? hi
        have hun := P.chl u hmem
        by_cases e : u = t
        · subst e
          rcases hx with ⟨h1, h2, h3, h4⟩ | h1
          · refine .inr (fun e => ?_)
            exact (h4 (by omega)).2 hmem
          · exact .inl (by omega)
        · exact .inl (hne1 _ (by omega) (by omega))
    · rw [hov u hu, E.regs]
      exact (P.la u hu).frame Iff.rfl ⟨[], (List.append_nil _).symm⟩ (fun _ h => h) (fun v hv => hsh u hu v hv)
    · obtain ⟨h1, h2, h3, h4⟩ := P.old w u hw' hu
      exact ⟨h1, h2, by rw [hov u h1]; exact h3, fun y hy => h4 y (hsub' u y hy)⟩
    · rw [W (n + 1) 0 (.inl (hne1 _ (Nat.le_refl _) (by omega))), hrf]; exact D.pub.2.1
    · rw [W G.pp 0 (.inl ?_)]
      · exact D.pub.2.2
      · have := D.pubw t ht x hxm
        omega
    · obtain ⟨⟨h1, h2⟩, h3, h4⟩ := D.own w hw' hd
      exact ⟨⟨h1, E.cells.live h2⟩, by rw [E.regs, hrf]; exact h3, h4⟩
    · rw [hgn]; exact D.wts u hu y (hsub' u y hy) hc
    · rw [hgn]
      obtain ⟨⟨h1, h2⟩, -, -⟩ := D.own w hw' (by omega)
      by_cases e : w = t
      · subst e
        rw [E.vw h2 ⟨x0, x1⟩]; exact D.set w hw' hd
      · rw [E.vw_ne e]
        · exact D.set w hw' hd
        · rcases hx with ⟨h3, -⟩ | h3
          · omega
          · obtain ⟨k1, k2, -⟩ := hxd h3
            have := D.apart w t hw' ht e (by omega) (by omega)
            omega
    · obtain ⟨⟨h1, h2⟩, -, -⟩ := D.own w hw' (by omega)
      rw [W (G.dx w) 0 (.inl ?_)]
      · exact D.ret w hw' hd
      · rcases hx with ⟨h3, -⟩ | h3
        · omega
        · obtain ⟨k1, k2, -⟩ := hxd h3
          by_cases e : w = t
          · subst e; omega
          · have := D.apart w t hw' ht e (by omega) (by omega)
            omega
    · rw [E.regs, hrf]
      rcases D.hold u hu hr with h | ⟨w, h1, h2, h3, h4⟩
      · exact .inl h
      · exact .inr ⟨w, h1, h2, by rw [hrf]; exact h3, h4⟩
    · rw [E.cells.there] at h3; exact D.live c h1 h2 h3
    · rw [E.faults, if_pos]
      · exact D.ok
      · rcases hx with ⟨h1, h2, -⟩ | h1
        · obtain ⟨L, e0, -⟩ := P.own ht
          have := L.has
          rw [e0] at this
          rw [h1, h2]; exact this
        · obtain ⟨k1, k2, k3, -⟩ := hxd h1
          obtain ⟨⟨-, L⟩, -, -⟩ := D.own t ht (by omega)
          rw [k2, k3]; exact L.has
theorem PD.fence (h : PD f n G m) {t : Nat} (ht : t < n) : PD f n G (m.fence t) := fence_of (P := PD f n G) (fun _ h => h.drain1 ht) h
theorem PD.force (h : PD f n G m) : PD f n G (m.fenceFrom 0 m.mem.threads) := by
  have key : ∀ (k t : Nat) (m : Mk), t + k ≤ n → PD f n G m → PD f n G (m.fenceFrom t k) := by
    intro k
    induction k with
    | zero => intro t m _ h; exact h
    | succ k ih => intro t m hk h; exact ih (t + 1) _ (by omega) (h.fence (show t < n by omega))
  rw [h.1.thr]
  exact key n 0 m (by omega) h
theorem PD.room (h : PD f n G m) {t : Nat} (ht : t < n) : PD f n G (m.room t) := room_of (P := PD f n G) (fun _ h => h.drain1 ht) h
end
end Go.Proofs.YtoialadjpcdbaaaGreatDoor
