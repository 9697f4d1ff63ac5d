import Derived.Test.YtaiigfcfmcicjaaGreatDoorD21
namespace Go.Proofs.YtaiigfcfmcicjaaGreatDoor
set_option maxRecDepth 100000
set_option maxHeartbeats 8000000
section
open Go.RowKit
def stageq (f q : Nat) : Nat :=
 if f = 3 then (if q <= 5 then 0 else if q = 6 then 1 else if q = 7 then 2 else if q = 8 then 3 else if q = 9 then 4 else if q = 10 then 5 else if q = 11 then 6 else if q = 12 then 7 else if q = 13 then 12 else if q = 14 then 13 else if q = 15 then 14 else if q = 16 then 15 else 16)
 else if f = 2 then (if q <= 13 then q else q - 1)
 else q
theorem qlive_mem {m m' : Mk} (e : m'.mem = m.mem) {c : Nat} (h : Live m c) : Live m' c := ⟨by rw [e]; exact h.lt, by rw [e]; exact h.there, by rw [e]; exact h.given, by rw [e]; exact h.small⟩
theorem qrf_mem {m m' : Mk} (e : m'.mem = m.mem) (c : Nat) : rf m' c = rf m c := by unfold rf; rw [e]
theorem qgn_mem {m m' : Mk} (e : m'.mem = m.mem) (c : Nat) : gn m' c = gn m c := by unfold gn; rw [e]
theorem qvw_mem {m m' : Mk} (e : m'.mem = m.mem) (u c : Nat) (g : Int) (k : Nat) : vw m' u c g k = vw m u c g k := by unfold vw; rw [e]
def rgq (m : Mk) (t r : Nat) (v : Int) : Nat -> Int := fun j => if j = r then v else m.regs t j
theorem rgq_regs (m : Mk) (t r : Nat) (v : Int) : (m.setReg t r v).regs t = rgq m t r v := by
 funext j
 exact setReg_reg m t r v j
theorem reg3q {u : Nat} (m : Mk) (t r : Nat) (v : Int) (hu : u ≠ t) : (m.setReg t r v).regs u = m.regs u := setReg_other _ _ _ _ hu
theorem stageq_zero (f : Nat) : stageq f 0 = 0 := by
 unfold stageq
 by_cases h : f = 3
 ·rw [if_pos h]; rfl
 ·rw [if_neg h]
  by_cases h2 : f = 2
  ·rw [if_pos h2]; rfl
  ·rw [if_neg h2]
theorem qExec_pc (m : Mk) (t : Nat) (i : GI) : (gExec m t i).pc = m.pc := by
 cases i with
 | load r a k => show (m.load _ _ _ _).pc = _; unfold Mk.load; split <;> rfl
 | store a r k =>
  show (m.store _ _ _ _).pc = _
  unfold Mk.store
  split
  ·exact (room_regs m t).2
  ·rfl
 | swap r a k => show (m.swap _ _ _ _ _).pc = _; unfold Mk.swap; split <;> rfl
 | cas a r k => show (m.cas _ _ _ _ _ _).pc = _; unfold Mk.cas; split <;> rfl
 | force => exact (fenceFrom_regs _ m 0).2
 | alloc r => show (m.alloc _ _).pc = _; unfold Mk.alloc; split <;> rfl
 | free r => show (m.free _ _).pc = _; unfold Mk.free; split <;> rfl
 | need r => show (m.need _).pc = _; unfold Mk.need; split <;> rfl
 | _ => rfl
theorem qAt_lt {s : List GI} {l : Nat} (h : (gLab l s 0).isSome = true) : gAt l s < s.length := by
 obtain ⟨j, hj⟩ := Option.isSome_iff_exists.1 h
 unfold gAt
 rw [hj]
 have := (gLab_at hj).2.1
 rw [Nat.sub_zero] at this
 exact (List.getElem?_eq_some_iff.1 this).1
theorem qNext_le {s : List GI} {q : Nat} {i : GI} (r : Nat -> Int) (hs : gOk s = true) (hq : s[q]? = some i) : gNext s q r i <= s.length := by
 have hlt := (List.getElem?_eq_some_iff.1 hq).1
 have hi := List.all_eq_true.1 hs i (List.mem_of_getElem? hq)
 cases i with
 | zero a l =>
  simp only [Bool.and_eq_true] at hi
  have := qAt_lt hi.2
  show (if r a = 0 then gAt l s else q + 1) <= _
  split <;> omega
 | same a b l =>
  simp only [Bool.and_eq_true] at hi
  have := qAt_lt hi.2
  show (if r a = r b then gAt l s else q + 1) <= _
  split <;> omega
 | goto l =>
  simp only [Bool.and_eq_true] at hi
  exact Nat.le_of_lt (qAt_lt hi.2)
 | _ => exact hlt
end
section
open Go.RowKit
inductive Tq
 | enter | leave | rest | gone | wait | read | put (v : Int) | drop | later | empty
deriving DecidableEq
def tqCode (f : Nat) : Tq -> List GI
 | .enter => gEnter f
 | .leave => gLeave f
 | .rest => gRest f
 | .gone => gGone f
 | .wait => gWait f
 | .read => [.load 0 5 0, .load 0 0 0, .need 0, .label 9]
 | .put v => [.alloc 3, .zero 3 0, .const 0 v, .store 3 0 0, .swap 3 5 0, .label 0]
 | .drop => [.zero 3 0, .free 3, .label 0]
 | .later => [.zero 3 0, .store 3 4 1, .move 4 3, .label 0]
 | .empty => [.label 1, .zero 4 0, .load 0 4 1, .free 4, .move 4 0, .goto 1, .label 0]
def hExec (m : Mk) (t : Nat) (tg : Tq) (q : Nat) (i : GI) : Mk := if tg = .read /\ q = 3 then m.mark t (m.regs t 0) else gExec m t i
structure Pq where
 tg : Tq
 q : Nat
 d : Nat
structure Fl where
 r : Bool
 w : Bool
 k : Bool
structure Gq where
 pt : Nat -> Option Pq
 old : Nat -> Nat -> Bool
 ch : List Nat
 pp : Nat
 nd : Nat -> Option Nat
 ls : Nat -> List Nat
 fl : Nat -> Fl
 val : Int -> Prop
def Bq (f : Nat) (J : Prop) (t d : Nat) (V : Nat -> Int) : Prop :=
 (f = 3 -> V 0 % 2 = 1) /\ (f ≠ 3 -> (d = 0 -> V 0 = 0 /\ V 2 = 0) /\ (0 < d -> V 0 ≠ 0 /\ V 2 = (d : Int) - 1)) /\ (f = 4 -> (J -> V 3 = (t : Int) + 4) /\ (¬ J -> V 3 = 0 /\ d = 0))
def Nq (J : Prop) (d : Nat) (V : Nat -> Int) : Prop := d = 0 /\ V 0 = 0 /\ V 2 = 0 /\ ¬ J
def Leq (f : Nat) (J : Prop) (t d : Nat) (V r : Nat -> Int) : Nat -> Prop
 | 0 => Bq f J t d V
 | 1 => Bq f J t d V /\ r 0 = V 0
 | 2 => Bq f J t d V /\ 0 < d
 | 3 => Bq f J t d V /\ 0 < d /\ r 0 = V 2
 | 4 => Bq f J t d V /\ 0 < d /\ r 0 = V 2 /\ r 1 = 1
 | 5 => Bq f J t d V /\ 0 < d /\ r 0 = V 2 + 1
 | 6 => Bq f J t (d + 1) V
 | 7 => Bq f J t d V /\ d = 0
 | q => if f = 4 then
   match q with
   | 8 => Bq f J t d V /\ d = 0
   | 9 => Bq f J t d V /\ d = 0 /\ r 0 = V 3
   | 10 => Nq J d V
   | 11 => Nq J d V
   | 12 => Nq J d V
   | 13 => Nq J d V /\ r 1 = (t : Int) + 4
   | 14 => Nq J d V /\ r 1 = (t : Int) + 4 /\ V 3 = (t : Int) + 4
   | 15 => Nq J d V /\ r 1 = (t : Int) + 4 /\ V 3 = (t : Int) + 4 /\ V 1 = r 0
   | 16 => d = 0 /\ V 0 = 0 /\ V 2 = 0 /\ V 3 = (t : Int) + 4 /\ (J /\ V 1 = r 0 ∨ ¬ J /\ V 1 ≠ r 0)
   | 17 => d = 0 /\ V 0 = 0 /\ V 2 = 0 /\ V 3 = (t : Int) + 4 /\ (J /\ r 0 = r 1 ∨ ¬ J /\ r 0 ≠ r 1)
   | 18 => Nq J d V
   | 19 => Bq f J t d V /\ d = 0 /\ J
   | 20 => Bq f J t d V /\ d = 0 /\ J
   | 21 => Bq f J t d V /\ d = 0 /\ J /\ r 0 ≠ 0
   | _ => Bq f J t (d + 1) V
  else
   match q with
   | 8 => Bq f J t d V /\ d = 0
   | 9 => Bq f J t d V /\ d = 0 /\ r 0 ≠ 0
   | _ => Bq f J t (d + 1) V
def Llq (f : Nat) (J : Prop) (t d : Nat) (V r : Nat -> Int) : Nat -> Prop
 | 0 => Bq f J t d V /\ 0 < d
 | 1 => Bq f J t d V /\ 0 < d /\ r 0 = V 2
 | 2 => Bq f J t d V /\ 1 < d
 | 3 => Bq f J t d V /\ 1 < d /\ r 0 = V 2
 | 4 => Bq f J t d V /\ 1 < d /\ r 0 = V 2 /\ r 1 = 1
 | 5 => Bq f J t d V /\ 1 < d /\ r 0 = V 2 - 1
 | 6 => Bq f J t (d - 1) V /\ 1 < d
 | 7 => Bq f J t d V /\ d = 1 /\ r 0 = 0
 | 8 => Bq f J t d V /\ d = 1 /\ r 0 = 0
 | _ => Bq f J t (d - 1) V
def Lrq (V r : Nat -> Int) : Nat -> Prop
 | 0 => V 0 % 2 = 1
 | 1 => V 0 % 2 = 1
 | 2 => V 0 % 2 = 1 /\ r 0 = V 0
 | 3 => V 0 % 2 = 1 /\ r 0 = V 0
 | 4 => V 0 % 2 = 1 /\ r 0 = V 0 /\ r 1 = 2
 | 5 => V 0 % 2 = 1 /\ r 0 % 2 = 1
 | _ => V 0 % 2 = 1
def Lgq (V r : Nat -> Int) : Nat -> Prop
 | 0 => V 0 % 2 = 1
 | 1 => V 0 % 2 = 1
 | 2 => V 0 % 2 = 1 /\ r 0 = 0
 | _ => V 0 = 0
def Lwq (V r : Nat -> Int) : Nat -> Prop
 | 0 => V 0 % 2 = 1
 | 1 => V 0 % 2 = 1
 | 2 => V 0 % 2 = 1 /\ r 0 = 0
 | 3 => V 0 = 0 /\ r 0 % 2 = 1
 | 20 => V 0 = 0 /\ V 3 % 2 = 1 /\ r 0 = V 3
 | 21 => V 0 = 0 /\ V 3 % 2 = 1 /\ r 0 = V 3
 | 22 => V 0 = 0 /\ V 3 % 2 = 1 /\ r 0 = V 3 /\ r 1 = 2
 | 23 => V 0 = 0 /\ r 0 % 2 = 1
 | 24 => V 0 % 2 = 1
 | 25 => V 0 % 2 = 1
 | _ => V 0 = 0 /\ V 3 % 2 = 1
def Cuq (C : List Nat) (O : Nat -> Prop) (r : Nat -> Int) (P : Nat -> Prop) : Prop := ∃ i u : Nat, C[i]? = some u /\ r 2 = (u : Int) + 4 /\ (∀ t, O t -> ∃ j, j <= i /\ C[j]? = some t) /\ (O u -> P u)
def Scq (C : List Nat) (O : Nat -> Prop) (s r : Nat -> Int) : Nat -> Prop
 | 0 => ∀ t, ¬ O t
 | 1 => ∀ t, O t -> t ∈ C
 | 2 => (r 2 = 3 /\ ∀ t, O t -> t ∈ C) ∨ Cuq C O r (fun _ => False)
 | 3 => (r 2 = 3 /\ ∀ t, O t -> t ∈ C) ∨ Cuq C O r (fun _ => False)
 | 4 => (r 2 = 0 /\ ∀ t, ¬ O t) ∨ Cuq C O r (fun _ => True)
 | 5 => Cuq C O r (fun _ => True)
 | 6 => Cuq C O r (fun u => r 0 = s u)
 | 7 => Cuq C O r (fun u => r 0 = s u)
 | 8 => r 1 = 2 /\ Cuq C O r (fun u => r 0 = s u)
 | 9 => r 1 = (2 + r 0) % 4294967296 /\ Cuq C O r (fun u => r 0 = s u)
 | 10 => Cuq C O r (fun u => r 1 = (2 + s u) % 4294967296)
 | 11 => r 0 = 2 /\ Cuq C O r (fun u => r 1 = (2 + s u) % 4294967296)
 | 12 => Cuq C O r (fun u => r 1 = s u)
 | 13 => Cuq C O r (fun u => r 1 = s u)
 | 14 => Cuq C O r (fun u => r 1 = s u /\ r 0 = s u)
 | 15 => Cuq C O r (fun _ => False)
 | _ => ∀ t, ¬ O t
def Lq (f : Nat) (C : List Nat) (O : Nat -> Prop) (s : Nat -> Int) (t : Nat) (V r : Nat -> Int) : Option Pq -> Prop
 | none => f ≠ 3 -> Bq f (t ∈ C) t 0 V
 | some ⟨.enter, q, d⟩ => f ≠ 3 /\ Leq f (t ∈ C) t d V r q
 | some ⟨.leave, q, d⟩ => f ≠ 3 /\ Llq f (t ∈ C) t d V r q
 | some ⟨.rest, q, _⟩ => f = 3 /\ Lrq V r q
 | some ⟨.gone, q, _⟩ => f = 3 /\ Lgq V r q
 | some ⟨.wait, q, d⟩ => d = 0 /\ (f = 3 -> Lwq V r q) /\ (f ≠ 3 -> Bq f (t ∈ C) t 0 V) /\ Scq C O s r (stageq f q)
 | some ⟨.read, _, d⟩ => Bq f (t ∈ C) t d V /\ 0 < d
 | some ⟨.put _, _, d⟩ => Bq f (t ∈ C) t d V /\ d = 0
 | some ⟨_, _, d⟩ => Bq f (t ∈ C) t d V
def ovq (m : Mk) (t k : Nat) : Int := vw m t (t + 3) 0 k
def shq (m : Mk) (u : Nat) : Int := m.mem.ar.words (u + 3) 0
def Olq (G : Gq) (w t : Nat) : Prop := G.old w t = true
def Dc (n c : Nat) : Prop := c = 0 ∨ n + 3 <= c
structure QI (f n : Nat) (G : Gq) (m : Mk) : Prop where
 fl : 1 <= f /\ f <= 4
 few : n <= 6
 thr : m.mem.threads = n
 here : ∀ c, 1 <= c -> c <= n + 2 -> Live m c /\ m.mem.ar.given c = 1
 r5 : ∀ t, t < n -> m.regs t 5 = 2
 r6 : ∀ t, t < n -> m.regs t 6 = (t : Int) + 4
 r7 : ∀ t, t < n -> m.regs t 7 = 3
 hub : m.mem.ar.words 2 0 % 2 = 1
 wts : ∀ t, t < n -> ∀ x ∈ m.mem.waits t, (0 <= x.c /\ 0 <= x.w) /\ (x.c = (t : Int) + 3 /\ x.g = 0 /\ (f ≠ 2 -> x.w ≠ 0) /\ (x.w = 1 -> f = 4 /\ t ∉ G.ch) ∨ (x.c = 0 ∨ (n : Int) + 3 <= x.c))
 chn : G.ch.Nodup
 chl : ∀ t ∈ G.ch, t < n
 chf : f ≠ 4 -> ∀ t, t < n -> t ∈ G.ch
 chh : m.mem.ar.words 2 1 = match G.ch.getLast? with | none => 0 | some u => (u : Int) + 4
 chw : ∀ (i u : Nat), G.ch[i]? = some u -> m.mem.ar.words (u + 3) 1 = match i with | 0 => 0 | j + 1 => match G.ch[j]? with | none => 0 | some v => (v : Int) + 4
 la : ∀ t, t < n -> Lq f G.ch (Olq G t) (shq m) t (ovq m t) (m.regs t) (G.pt t)
 old : ∀ w t, w < n -> Olq G w t -> t < n /\ (∃ q d, G.pt w = some ⟨.wait, q, d⟩) /\ ovq m t 0 ≠ 0 /\ ∀ x ∈ m.mem.waits t, x.c = (t : Int) + 3 -> x.w ≠ 0
def ow (G : Gq) (w : Nat) : List Nat := (G.nd w).toList ++ G.ls w
def hdn (m : Mk) : List Nat -> Int
 | [] => 0
 | c :: _ => rf m c
def Lkq (m : Mk) (w : Nat) : List Nat -> Prop
 | [] => True
 | c :: l => vw m w c (gn m c) 1 = hdn m l /\ Lkq m w l
def rtd : Option Pq -> Prop
 | some ⟨.put _, q, _⟩ => 5 <= q
 | _ => True
def Ret (G : Gq) (w c : Nat) : Prop := c ∈ G.ls w ∨ (G.nd w = some c /\ rtd (G.pt w))
def An (f : Nat) (G : Gq) (w c : Nat) : Prop := match G.pt w with
 | some ⟨.wait, q, _⟩ => stageq f q = 0
 | some ⟨.empty, _, _⟩ => False
 | _ => c ∈ G.ls w ∨ (G.fl w).w = false
def rdq : Option Pq -> Prop
 | some ⟨.read, q, _⟩ => q = 1
 | _ => False
def NR (m : Mk) (w : Nat) (nd : Option Nat) : Prop := (nd = none /\ m.regs w 3 = 0) ∨ ∃ c, nd = some c /\ m.regs w 3 = rf m c
def NS (m : Mk) (w : Nat) (nd : Option Nat) : Prop := ∃ c, nd = some c /\ m.regs w 3 = rf m c
def Nf (m : Mk) (w : Nat) (nd : Option Nat) (r : Bool) : Prop := (r = true -> NR m w nd) /\ (r = false -> nd = none)
def Lc (V : Int -> Prop) (m : Mk) (w : Nat) (nd : Option Nat) (ls : List Nat) (r : Bool) : Option Pq -> Prop
 | some ⟨.put v, q, _⟩ => (V v /\ m.regs w 4 = hdn m ls) /\ match q with
  | 0 => nd = none
  | 1 => NR m w nd
  | 2 => NS m w nd
  | 3 => NS m w nd /\ m.regs w 0 = v
  | 4 => ∃ c, nd = some c /\ m.regs w 3 = rf m c /\ V (vw m w c (gn m c) 0)
  | _ => NR m w nd
 | some ⟨.drop, q, _⟩ => m.regs w 4 = hdn m ls /\ match q with
  | 0 => NR m w nd
  | 1 => NS m w nd
  | _ => nd = none
 | some ⟨.later, q, _⟩ => m.regs w 4 = hdn m ls /\ match q with
  | 0 => NR m w nd
  | 1 => NS m w nd
  | 2 => ∃ c, nd = some c /\ m.regs w 3 = rf m c /\ vw m w c (gn m c) 1 = hdn m ls
  | _ => nd = none
 | some ⟨.read, q, _⟩ => (m.regs w 4 = hdn m ls /\ Nf m w nd r) /\ (q = 2 ∨ q = 3 -> V (m.regs w 0))
 | some ⟨.empty, q, _⟩ => Nf m w nd r /\ match q with
  | 2 => m.regs w 4 = hdn m ls /\ ls ≠ []
  | 3 => m.regs w 4 = hdn m ls /\ ∃ c l, ls = c :: l /\ m.regs w 0 = hdn m l
  | 4 => m.regs w 0 = hdn m ls
  | 6 => m.regs w 4 = hdn m ls /\ ls = []
  | 7 => m.regs w 4 = hdn m ls /\ ls = []
  | _ => m.regs w 4 = hdn m ls
 | _ => m.regs w 4 = hdn m ls /\ Nf m w nd r
structure CI (f n : Nat) (G : Gq) (m : Mk) : Prop where
 size : m.mem.ar.size = 64
 pub : (Dc n G.pp /\ Live m G.pp) /\ m.mem.ar.words 1 0 = rf m G.pp /\ G.val (m.mem.ar.words G.pp 0)
 own : ∀ w, w < n -> ∀ c ∈ ow G w, (Dc n c /\ Live m c) /\ c ≠ G.pp
 nod : ∀ w, w < n -> (ow G w).Nodup
 apart : ∀ w u, w < n -> u < n -> w ≠ u -> ∀ c ∈ ow G w, c ∉ ow G u
 wts : ∀ t, t < n -> ∀ x ∈ m.mem.waits t, (x.c = 0 ∨ (n : Int) + 3 <= x.c) -> ∃ c ∈ ow G t, x.c = (c : Int) /\ x.g = gn m c /\ (x.w = 1 ∨ x.w = 0 /\ G.val x.v)
 ret : ∀ w, w < n -> ∀ c, Ret G w c -> G.val (m.mem.ar.words c 0)
 lst : ∀ w, w < n -> Lkq m w (G.ls w)
 kep : ∀ w, w < n -> (G.fl w).k = false -> G.ls w = []
 loc : ∀ w, w < n -> Lc G.val m w (G.nd w) (G.ls w) (G.fl w).r (G.pt w)
 hold : ∀ t, t < n -> rdq (G.pt t) -> m.regs t 0 = rf m G.pp ∨ ∃ w, w < n /\ ∃ c, Ret G w c /\ m.regs t 0 = rf m c /\ (An f G w c ∨ Olq G w t)
 live : ∀ c, Dc n c -> c < 64 -> m.mem.ar.there c = true -> c = G.pp ∨ ∃ w, w < n /\ c ∈ ow G w
 ok : m.faults = 0
 mks : ∀ x ∈ m.marks, G.val x.2
 nz : ¬ G.val 0
def QD (f n : Nat) (G : Gq) (m : Mk) : Prop := QI f n G m /\ CI f n G m
end
section
open Go.RowKit
theorem qpre_at {C D : List Nat} {i u : Nat} (h : C[i]? = some u) : (C ++ D)[i]? = some u := by
 rw [List.getElem?_append_left (List.getElem?_eq_some_iff.1 h).1]; exact h
theorem Cuq.frame {C C' : List Nat} {O O' : Nat -> Prop} {r : Nat -> Int} {P P' : Nat -> Prop} (h : Cuq C O r P) (hC : ∃ D, C' = C ++ D) (hO : ∀ t, O' t -> O t) (hP : ∀ u, O' u -> P u -> P' u) : Cuq C' O' r P' := by
 obtain ⟨i, u, h1, h2, h3, h4⟩ := h
 obtain ⟨D, rfl⟩ := hC
 refine ⟨i, u, qpre_at h1, h2, fun t ht => ?_, fun hu => hP u hu (h4 (hO u hu))⟩
 obtain ⟨j, hj, hc⟩ := h3 t (hO t ht)
 exact ⟨j, hj, qpre_at hc⟩
theorem Scq.frame {C C' : List Nat} {O O' : Nat -> Prop} {s s' r : Nat -> Int} (hC : ∃ D, C' = C ++ D) (hO : ∀ t, O' t -> O t) (hs : ∀ u, O' u -> s' u = s u) : ∀ {k : Nat}, Scq C O s r k -> Scq C' O' s' r k := by
 have hm : ∀ t, t ∈ C -> t ∈ C' := fun t ht => by obtain ⟨D, rfl⟩ := hC; exact List.mem_append_left _ ht
 intro k
 match k with
 | 0 => exact fun h t ht => h t (hO t ht)
 | 1 => exact fun h t ht => hm t (h t (hO t ht))
 | 2 =>
  rintro (⟨h1, h2⟩ | h)
  ·exact .inl ⟨h1, fun t ht => hm t (h2 t (hO t ht))⟩
  ·exact .inr (h.frame hC hO (fun _ _ h => h))
 | 3 =>
  rintro (⟨h1, h2⟩ | h)
  ·exact .inl ⟨h1, fun t ht => hm t (h2 t (hO t ht))⟩
  ·exact .inr (h.frame hC hO (fun _ _ h => h))
 | 4 =>
  rintro (⟨h1, h2⟩ | h)
  ·exact .inl ⟨h1, fun t ht => h2 t (hO t ht)⟩
  ·exact .inr (h.frame hC hO (fun _ _ h => h))
 | 5 => exact fun h => Cuq.frame h hC hO (fun _ _ h => h)
 | 6 => exact fun h => Cuq.frame h hC hO (fun u hu h => by rw [hs u hu]; exact h)
 | 7 => exact fun h => Cuq.frame h hC hO (fun u hu h => by rw [hs u hu]; exact h)
 | 8 => exact fun h => ⟨h.1, h.2.frame hC hO (fun u hu h => by rw [hs u hu]; exact h)⟩
 | 9 => exact fun h => ⟨h.1, h.2.frame hC hO (fun u hu h => by rw [hs u hu]; exact h)⟩
 | 10 => exact fun h => Cuq.frame h hC hO (fun u hu h => by rw [hs u hu]; exact h)
 | 11 => exact fun h => ⟨h.1, h.2.frame hC hO (fun u hu h => by rw [hs u hu]; exact h)⟩
 | 12 => exact fun h => Cuq.frame h hC hO (fun u hu h => by rw [hs u hu]; exact h)
 | 13 => exact fun h => Cuq.frame h hC hO (fun u hu h => by rw [hs u hu]; exact h)
 | 14 => exact fun h => Cuq.frame h hC hO (fun u hu h => by rw [hs u hu]; exact h)
 | 15 => exact fun h => Cuq.frame h hC hO (fun _ _ h => h)
 | _ + 16 => exact fun h t ht => h t (hO t ht)
theorem Lq.frame {f : Nat} {C C' : List Nat} {O O' : Nat -> Prop} {s s' : Nat -> Int} {t : Nat} {V r : Nat -> Int} {g : Option Pq} (h : Lq f C O s t V r g) (hJ : t ∈ C' ↔ t ∈ C) (hC : ∃ D, C' = C ++ D) (hO : ∀ u, O' u -> O u) (hs : ∀ u, O' u -> s' u = s u) : Lq f C' O' s' t V r g := by
 have eJ : (t ∈ C') = (t ∈ C) := propext hJ
 cases g with
 | none => unfold Lq at h ⊢; rw [eJ]; exact h
 | some p =>
  obtain ⟨tg, q, d⟩ := p
  cases tg with
  | wait => exact ⟨h.1, h.2.1, by rw [eJ]; exact h.2.2.1, Scq.frame hC hO hs h.2.2.2⟩
  | rest => exact h
  | gone => exact h
  | enter => unfold Lq at h ⊢; rw [eJ]; exact h
  | leave => unfold Lq at h ⊢; rw [eJ]; exact h
  | read => unfold Lq at h ⊢; rw [eJ]; exact h
  | put v => unfold Lq at h ⊢; rw [eJ]; exact h
  | drop => unfold Lq at h ⊢; rw [eJ]; exact h
  | later => unfold Lq at h ⊢; rw [eJ]; exact h
  | empty => unfold Lq at h ⊢; rw [eJ]; exact h
section
variable {f n : Nat} {G : Gq} {m m' : Mk} {t : Nat}
theorem QI.own (h : QI f n G m) {t : Nat} (ht : t < n) : Live m (t + 3) /\ gn m (t + 3) = 0 /\ rf m (t + 3) = (t : Int) + 4 := by
 obtain ⟨h1, h2⟩ := h.here (t + 3) (by omega) (by omega)
 refine ⟨h1, ?_, ?_⟩
 ·unfold gn; rw [h2]; rfl
 ·unfold rf; rw [h2]; omega
theorem QI.cell (h : QI f n G m) {c : Nat} (h1 : 1 <= c) (hc : c <= n + 2) : Live m c /\ gn m c = 0 /\ rf m c = (c : Int) + 1 := by
 obtain ⟨h1, h2⟩ := h.here c h1 hc
 refine ⟨h1, ?_, ?_⟩
 ·unfold gn; rw [h2]; rfl
 ·unfold rf; rw [h2]; omega
theorem CI.dc (h : CI f n G m) {w c : Nat} (hw : w < n) (hc : c ∈ ow G w) : (c = 0 ∨ n + 3 <= c) /\ Live m c /\ c ≠ G.pp := ⟨(h.own w hw c hc).1.1, (h.own w hw c hc).1.2, (h.own w hw c hc).2⟩
theorem Ret.ow {w c : Nat} (h : Ret G w c) : c ∈ ow G w := by
 unfold Go.Proofs.YtaiigfcfmcicjaaGreatDoor.ow
 rcases h with h | ⟨h, -⟩
 ·exact List.mem_append_right _ h
 ·rw [h]; exact List.mem_append_left _ (by simp)
theorem QD.wt_has (h : QD f n G m) (ht : t < n) {x : Wt} (hx : x ∈ m.mem.waits t) : m.mem.ar.has x.c x.g = true := by
 obtain ⟨P, D⟩ := h
 rcases (P.wts t ht x hx).2 with ⟨h1, h2, -⟩ | h1
 ·obtain ⟨L, e0, -⟩ := P.own ht
  have := L.has
  rw [e0] at this
  rw [h1, h2]; exact this
 ·obtain ⟨c, hc, k1, k2, -⟩ := D.wts t ht x hx h1
  have := (D.dc ht hc).2.1.has
  rw [k1, k2]; exact this
theorem hdn_same {l : List Nat} (hr : ∀ c, rf m' c = rf m c) : hdn m' l = hdn m l := by
 cases l with
 | nil => rfl
 | cons c l => exact hr c
theorem Lkq.same {w : Nat} (hr : ∀ c, rf m' c = rf m c) (hg : ∀ c, gn m' c = gn m c) : ∀ {l : List Nat}, (∀ c ∈ l, vw m' w c (gn m c) 1 = vw m w c (gn m c) 1) -> Lkq m w l -> Lkq m' w l
 | [], _, h => h
 | c :: l, hv, h => by
  refine ⟨?_, Lkq.same hr hg (fun c hc => hv c (List.mem_cons_of_mem _ hc)) h.2⟩
  rw [hg, hv c List.mem_cons_self, hdn_same hr]; exact h.1
theorem Lc.same {V : Int -> Prop} {w : Nat} {nd : Option Nat} {ls : List Nat} {r : Bool} {g : Option Pq} (hr : ∀ c, rf m' c = rf m c) (hg : ∀ c, gn m' c = gn m c) (he : m'.regs w = m.regs w) (hv : ∀ c k, nd = some c -> vw m' w c (gn m c) k = vw m w c (gn m c) k) (h : Lc V m w nd ls r g) : Lc V m' w nd ls r g := by
 have eh : ∀ l, hdn m' l = hdn m l := fun l => hdn_same hr
 have e1 : NR m' w nd = NR m w nd := by
  unfold NR
  rw [he]
  simp only [hr]
 have e2 : NS m' w nd = NS m w nd := by
  unfold NS
  rw [he]
  simp only [hr]
 have e3 : Nf m' w nd r = Nf m w nd r := by
  unfold Nf
  rw [e1]
 cases g with
 | none =>
  unfold Lc at h ⊢
  rw [he, eh, e3]; exact h
 | some p =>
  obtain ⟨tg, q, d⟩ := p
  cases tg with
  | put v =>
   unfold Lc at h ⊢
   rw [he, eh]
   refine ⟨h.1, ?_⟩
   have h := h.2
   match q, h with
   | 0, h => exact h
   | 1, h => show NR m' w nd; rw [e1]; exact h
   | 2, h => show NS m' w nd; rw [e2]; exact h
   | 3, h => exact ⟨by rw [e2]; exact h.1, h.2⟩
   | 4, h =>
    obtain ⟨c, h1, h2, h3⟩ := h
    exact ⟨c, h1, by rw [hr]; exact h2, by rw [hg, hv c 0 h1]; exact h3⟩
   | q + 5, h => show NR m' w nd; rw [e1]; exact h
  | drop =>
   unfold Lc at h ⊢
   rw [he, eh]
   refine ⟨h.1, ?_⟩
   have h := h.2
   match q, h with
   | 0, h => show NR m' w nd; rw [e1]; exact h
   | 1, h => show NS m' w nd; rw [e2]; exact h
   | q + 2, h => exact h
  | later =>
   unfold Lc at h ⊢
   rw [he, eh]
   refine ⟨h.1, ?_⟩
   have h := h.2
   match q, h with
   | 0, h => show NR m' w nd; rw [e1]; exact h
   | 1, h => show NS m' w nd; rw [e2]; exact h
   | 2, h =>
    obtain ⟨c, h1, h2, h3⟩ := h
    exact ⟨c, h1, by rw [hr]; exact h2, by rw [hg, hv c 1 h1]; exact h3⟩
   | q + 3, h => exact h
  | read =>
   unfold Lc at h ⊢
   rw [he, eh, e3]; exact h
  | empty =>
   unfold Lc at h ⊢
   rw [he, e3]
   refine ⟨h.1, ?_⟩
   have h := h.2
   simp only [eh]
   exact h
  | _ =>
   unfold Lc at h ⊢
   rw [he, eh, e3]; exact h
theorem QI.drain1 (h : QI f n G m) (hh : ∀ x ∈ m.mem.waits t, m.mem.ar.has x.c x.g = true) (ht : t < n) : QI f n G (m.drain1 t) := by
 have P := h
 cases hw : m.mem.waits t with
 | nil => rw [drain1_nil hw]; exact P
 | cons x l =>
  have E := drain1_cons hw
  generalize m.drain1 t = m' at E
  have hxm : x ∈ m.mem.waits t := by rw [hw]; exact List.mem_cons_self
  have hsub : ∀ y ∈ m'.mem.waits t, y ∈ m.mem.waits t := fun y hy => by rw [E.own] at hy; rw [hw]; exact List.mem_cons_of_mem _ hy
  have hsub' : ∀ u, ∀ y ∈ m'.mem.waits u, y ∈ m.mem.waits u := fun u y hy => by
   by_cases e : u = t
   ·subst e; exact hsub y hy
   ·rwa [E.waits u e] at hy
  obtain ⟨⟨x0, x1⟩, hx⟩ := P.wts t ht x hxm
  have W : ∀ c k, (c ≠ x.c.toNat ∨ k ≠ x.w.toNat) -> m'.mem.ar.words c k = m.mem.ar.words c k := fun c k hne => by
   rw [E.words, if_neg]
   rintro ⟨e1, e2, -⟩
   rcases hne with h | h
   ·exact h e1
   ·exact h e2
  have hov : ∀ u, u < n -> ovq m' u = ovq m u := fun u hu => by
   funext k
   unfold ovq
   by_cases e : u = t
   ·subst e
    obtain ⟨L, e0, -⟩ := P.own hu
    have := E.vw L ⟨x0, x1⟩ k
    rwa [e0] at this
   ·refine E.vw_ne e ?_ _ _
    rcases hx with ⟨h1, -⟩ | h1 <;> omega
  have hsh : ∀ w, w < n -> ∀ u, Olq G w u -> shq m' u = shq m u := fun w hw' u hu => by
   obtain ⟨hun, -, -, h4⟩ := P.old w u hw' hu
   unfold shq
   refine W _ _ ?_
   by_cases e : u = t
   ·subst e
    rcases hx with ⟨h1, -⟩ | h1
    ·have := h4 x hxm h1
     exact .inr (by omega)
    ·exact .inl (by omega)
   ·refine .inl ?_
    rcases hx with ⟨h1, -⟩ | h1 <;> omega
  have hne1 : ∀ c, 1 <= c -> c <= n + 2 -> c ≠ t + 3 -> c ≠ x.c.toNat := fun c h0 h1 h2 => by
   rcases hx with ⟨h3, -⟩ | h3 <;> omega
  refine ⟨P.fl, P.few, E.thr.trans P.thr, fun c h0 hc => ⟨E.cells.live (P.here c h0 hc).1, by rw [E.cells.given]; exact (P.here c h0 hc).2⟩, fun u hu => by rw [E.regs]; exact P.r5 u hu, fun u hu => by rw [E.regs]; exact P.r6 u hu, fun u hu => by rw [E.regs]; exact P.r7 u hu, ?_, fun u hu y hy => P.wts u hu y (hsub' u y hy), P.chn, P.chl, P.chf, ?_, fun i u hi => ?_, fun u hu => ?_, fun w u hw' hu => ?_⟩
  ·rw [W 2 0 (.inl (hne1 2 (by omega) (by omega) (by omega)))]; exact P.hub
  ·rw [W 2 1 (.inl (hne1 2 (by omega) (by omega) (by omega)))]; exact P.chh
  ·rw [W (u + 3) 1 ?_]
   ·exact P.chw i u hi
   ·have hmem := List.mem_of_getElem? hi
    have hun := P.chl u hmem
    by_cases e : u = t
    ·subst e
     rcases hx with ⟨h1, h2, h3, h4⟩ | h1
     ·refine .inr (fun e => ?_)
      exact (h4 (by omega)).2 hmem
     ·exact .inl (by omega)
    ·exact .inl (hne1 _ (by omega) (by omega) (by omega))
  ·rw [hov u hu, E.regs]
   exact (P.la u hu).frame Iff.rfl ⟨[], (List.append_nil _).symm⟩ (fun _ h => h) (fun v hv => hsh u hu v hv)
  ·obtain ⟨h1, h2, h3, h4⟩ := P.old w u hw' hu
   exact ⟨h1, h2, by rw [hov u h1]; exact h3, fun y hy => h4 y (hsub' u y hy)⟩
theorem drain1_marks (m : Mk) (t : Nat) : (m.drain1 t).marks = m.marks := by
 unfold Mk.drain1
 split <;> rfl
theorem CI.drain1 (P : QI f n G m) (h : CI f n G m) (hh : ∀ x ∈ m.mem.waits t, m.mem.ar.has x.c x.g = true) (ht : t < n) : CI f n G (m.drain1 t) := by
 have D := h
 have em := drain1_marks m t
 cases hw : m.mem.waits t with
 | nil => rw [drain1_nil hw]; exact D
 | cons x l =>
  have E := drain1_cons hw
  generalize m.drain1 t = m' at E em
  have hxm : x ∈ m.mem.waits t := by rw [hw]; exact List.mem_cons_self
  have hsub' : ∀ u, ∀ y ∈ m'.mem.waits u, y ∈ m.mem.waits u := fun u y hy => by
   by_cases e : u = t
   ·subst e
    rw [E.own] at hy; rw [hw]; exact List.mem_cons_of_mem _ hy
   ·rwa [E.waits u e] at hy
  obtain ⟨⟨x0, x1⟩, hx⟩ := P.wts t ht x hxm
  have hrf : ∀ c, rf m' c = rf m c := E.cells.rf
  have hgn : ∀ c, gn m' c = gn m c := E.cells.gn
  -- a word of a cell that may be put: as it was, or one that may be read, or a link
  have hwd : ∀ c, (c = 0 ∨ n + 3 <= c) -> m'.mem.ar.words c 0 = m.mem.ar.words c 0 ∨ (c ∈ ow G t /\ G.val (m'.mem.ar.words c 0)) := fun c hc => by
   rw [E.words]
   by_cases e : c = x.c.toNat /\ 0 = x.w.toNat /\ m.mem.ar.has x.c x.g = true
   ·rw [if_pos e]
    rcases hx with ⟨h1, -⟩ | h1
    ·omega
    ·obtain ⟨c', k1, k2, -, k3⟩ := D.wts t ht x hxm h1
     have e2 : c = c' := by omega
     subst e2
     rcases k3 with k3 | ⟨-, k3⟩
     ·omega
     ·exact .inr ⟨k1, k3⟩
   ·rw [if_neg e]; exact .inl rfl
  have hval : ∀ c, (c = 0 ∨ n + 3 <= c) -> G.val (m.mem.ar.words c 0) -> G.val (m'.mem.ar.words c 0) := fun c hc hv => by
   rcases hwd c hc with e | e
   ·rw [e]; exact hv
   ·exact e.2
  have hvw : ∀ u, u < n -> ∀ c ∈ ow G u, ∀ k, vw m' u c (gn m c) k = vw m u c (gn m c) k := fun u hu c hc k => by
   obtain ⟨h1, h2, h3⟩ := D.dc hu hc
   by_cases e : u = t
   ·subst e
    exact E.vw h2 ⟨x0, x1⟩ k
   ·refine E.vw_ne e (fun e2 => ?_) _ _
    rcases hx with ⟨h4, -⟩ | h4
    ·omega
    ·obtain ⟨c', k1, k2, -⟩ := D.wts t ht x hxm h4
     have e3 : c = c' := by omega
     subst e3
     exact D.apart u t hu ht e c hc k1
  refine ⟨by rw [E.cells.size]; exact D.size, ⟨⟨D.pub.1.1, E.cells.live D.pub.1.2⟩, ?_, ?_⟩, fun w hw' c hc => ⟨⟨(D.own w hw' c hc).1.1, E.cells.live (D.own w hw' c hc).1.2⟩, (D.own w hw' c hc).2⟩, D.nod, D.apart, fun u hu y hy hc => ?_, fun w hw' c hr => ?_, fun w hw' => ?_, D.kep, fun w hw' => ?_, fun u hu hr => ?_, by rw [E.cells.there]; exact D.live, ?_, by rw [em]; exact D.mks, D.nz⟩
  ·rw [E.words, if_neg (fun e => by rcases hx with ⟨h1, -⟩ | h1 <;> omega), hrf]; exact D.pub.2.1
  ·exact hval _ D.pub.1.1 D.pub.2.2
  ·obtain ⟨c, k1, k2, k3, k4⟩ := D.wts u hu y (hsub' u y hy) hc
   exact ⟨c, k1, k2, by rw [hgn]; exact k3, k4⟩
  ·exact hval c (D.dc hw' hr.ow).1 (D.ret w hw' c hr)
  ·exact Lkq.same hrf hgn (fun c hc => hvw w hw' c (List.mem_append_right _ hc) 1) (D.lst w hw')
  ·exact Lc.same hrf hgn (by rw [E.regs]) (fun c k hc => hvw w hw' c (List.mem_append_left _ (by rw [hc]; simp)) k) (D.loc w hw')
  ·rw [E.regs, hrf]
   rcases D.hold u hu hr with h | ⟨w, h1, c, h2, h3, h4⟩
   ·exact .inl h
   ·exact .inr ⟨w, h1, c, h2, by rw [hrf]; exact h3, h4⟩
  ·rw [E.faults, if_pos (hh x hxm)]; exact D.ok
theorem QD.drain1 (h : QD f n G m) {t : Nat} (ht : t < n) : QD f n G (m.drain1 t) := ⟨h.1.drain1 (fun _ hx => h.wt_has ht hx) ht, h.2.drain1 h.1 (fun _ hx => h.wt_has ht hx) ht⟩
theorem QD.fence (h : QD f n G m) {t : Nat} (ht : t < n) : QD f n G (m.fence t) := fence_of (P := QD f n G) (fun _ h => h.drain1 ht) h
theorem QD.force (h : QD f n G m) : QD f n G (m.fenceFrom 0 m.mem.threads) := by
 have key : ∀ (k t : Nat) (m : Mk), t + k <= n -> QD f n G m -> QD f n G (m.fenceFrom t k) := by
  intro k
  induction k with
  | zero => intro t m _ h; exact h
  | succ k ih => intro t m hk h; exact ih (t + 1) _ (by omega) (h.fence (show t < n by omega))
 rw [h.1.thr]
 exact key n 0 m (by omega) h
theorem QD.room (h : QD f n G m) {t : Nat} (ht : t < n) : QD f n G (m.room t) := room_of (P := QD f n G) (fun _ h => h.drain1 ht) h
end
end
end Go.Proofs.YtaiigfcfmcicjaaGreatDoor
