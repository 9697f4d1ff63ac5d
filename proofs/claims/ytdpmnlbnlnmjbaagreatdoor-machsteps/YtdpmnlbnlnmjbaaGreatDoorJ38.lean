import Derived.Test.YtdpmnlbnlnmjbaaGreatDoorJ34
import Derived.Test.YtdpmnlbnlnmjbaaGreatDoorJ35
import Derived.Test.YtdpmnlbnlnmjbaaGreatDoorJ36
import Derived.Test.YtdpmnlbnlnmjbaaGreatDoorJ37
import Derived.Test.YtdpmnlbnlnmjbaaGreatDoorJ25
import Derived.Test.YtdpmnlbnlnmjbaaGreatDoorJ32
import Derived.Test.YtdpmnlbnlnmjbaaGreatDoorJ26
import Derived.Test.YtdpmnlbnlnmjbaaGreatDoorJ31
import Derived.Test.YtdpmnlbnlnmjbaaGreatDoorJ20
import Derived.Test.YtdpmnlbnlnmjbaaGreatDoorJ33
import Derived.Test.YtdpmnlbnlnmjbaaGreatDoorJ01
import Derived.Test.YtdpmnlbnlnmjbaaGreatDoorJ18
import Derived.Test.YtdpmnlbnlnmjbaaGreatDoorJ30

/- RkP -/
namespace Go.Proofs.YtdpmnlbnlnmjbaaGreatDoor
open Go.RowKit Go.Extern.Stop Go.Stop Go.Extern Go.Sort

theorem rstep_any {cs : List (List Ins)} {p : RkPl} {m : Mk} {K t : Nat} {w : World} (D : RkX cs p m K w) {L : List Ins} (ht : cs[t]? = some L) (hd : doneAt L (m.pc t) = false) :
    Calls Tryz.prog 25 #[.pointer (some ⟨p.k, 0, none⟩), .int .i64 t] w fun e w' => e = .returned (.int .i64 0) ∧ ∃ r v, RkStep cs p m.mem w r v (m.step L t) w' := by
  obtain ⟨x, hx, hst⟩ := doneAt_no hd
  obtain ⟨-, hI⟩ := D.right.right t L ht
  obtain ⟨hok, -⟩ := hI _ x hx
  rcases kinds hok with ⟨e, ⟨i0, l0, g0⟩, -⟩ | ⟨e, ⟨i0, l0, g0⟩, ⟨i1, l1, g1⟩⟩ | ⟨e, ⟨i0, l0, g0⟩, ⟨i1, l1, g1⟩, ⟨i2, l2, g2⟩⟩ | ⟨e, ⟨i0, l0, g0⟩, ⟨i1, l1, g1⟩, ⟨i2, l2, g2⟩⟩ | ⟨e, ⟨i0, l0, g0⟩, ⟨i1, l1, g1⟩, ⟨i2, l2, g2⟩⟩ | ⟨e, ⟨i0, l0, g0⟩, ⟨i1, l1, g1⟩, ⟨i2, l2, g2⟩⟩ | ⟨e, ⟨i0, l0, g0⟩, ⟨i1, l1, g1⟩, ⟨i2, l2, g2⟩⟩ | ⟨e, ⟨i0, l0, g0⟩, ⟨i1, l1, g1⟩, ⟨i2, l2, g2⟩⟩ | ⟨e, ⟨i0, l0, g0⟩, ⟨i1, l1, g1⟩, ⟨i2, l2, g2⟩⟩ | ⟨e, ⟨i0, l0, g0⟩, ⟨i1, l1, g1⟩, ⟨i2, l2, g2⟩⟩ | ⟨e, ⟨i0, l0, g0⟩⟩ | ⟨e, ⟨i0, l0, g0⟩⟩ | ⟨e, ⟨i0, l0, g0⟩⟩ | ⟨e, ⟨i0, l0, g0⟩⟩ | e | e | e | ⟨e, ⟨i0, l0, g0⟩, ⟨i1, g1⟩⟩ | ⟨e, ⟨i0, l0, g0⟩, ⟨i1, l1, g1⟩, ⟨i2, g2⟩⟩ | ⟨e, ⟨i0, g0⟩⟩ | ⟨e, -⟩
  · exact rstep_const D ht hx e l0 g0
  · exact rstep_move D ht hx e l0 g0 l1 g1
  · exact rstep_add D ht hx e l0 g0 l1 g1 l2 g2
  · exact rstep_sub D ht hx e l0 g0 l1 g1 l2 g2
  · exact rstep_and D ht hx e l0 g0 l1 g1 l2 g2
  · exact rstep_xor D ht hx e l0 g0 l1 g1 l2 g2
  · exact rstep_load D ht hx e l0 g0 l1 g1 l2 g2
  · exact rstep_store D ht hx e l0 g0 l1 g1 l2 g2
  · exact rstep_swap D ht hx e l0 g0 l1 g1 l2 g2
  · exact rstep_cas D ht hx e l0 g0 l1 g1 l2 g2
  · exact rstep_alloc D ht hx e l0 g0
  · exact rstep_free D ht hx e l0 g0
  · exact rstep_mark D ht hx e l0 g0
  · exact rstep_need D ht hx e l0 g0
  · exact rstep_fence D ht hx e
  · exact rstep_force D ht hx e
  · rw [e, toList_bl] at hst; cases hst
  · exact rstep_zero D ht hx e l0 g0 g1
  · exact rstep_same D ht hx e l0 g0 l1 g1 g2
  · exact rstep_goto D ht hx e g0
  · exact rstep_label D ht hx e

theorem rdone_any {cs : List (List Ins)} {p : RkPl} {m : Mk} {t : Nat} {L : List Ins} (ht : cs[t]? = some L) {w : World} (h : RkAt cs p m w) :
    Calls Tryz.prog 51 #[.pointer (some ⟨p.k, 0, none⟩), .int .i64 t] w fun e w' => e = .returned (.bool (doneAt L (m.pc t))) ∧ Below w.heap.size w w' := by
  unfold doneAt
  cases hx : L[m.pc t]? with
  | none =>
    have : L.length ≤ m.pc t := by
      rcases Nat.lt_or_ge (m.pc t) L.length with h1 | h1
      · rw [List.getElem?_eq_getElem h1] at hx; cases hx
      · exact h1
    exact rdone_end ht this h
  | some x => exact rdone_at ht hx h

set_option maxRecDepth 20000 in
theorem rstep_no {cs : List (List Ins)} {p : RkPl} {m : Mk} {t : Int} (ht : ¬ (0 ≤ t ∧ t < cs.length)) {w : World} (h : RkAt cs p m w) :
    Calls Tryz.prog 25 #[.pointer (some ⟨p.k, 0, none⟩), .int .i64 t] w fun e w' => e = .returned (.int .i64 2) ∧ Below w.heap.size w w' := by
  have hT := h.mT
  clear h
  go_enter Tryz.func25, Tryz.ntmps25
  rcases Int.lt_or_le t 0 with h0 | h0
  · go_wp2
    go_ret
    exact ⟨rfl, Below.refl _ _⟩
  · have h1 : (cs.length : Int) ≤ t := by omega
    clear ht
    go_wp2
    go_ret
    exact ⟨rfl, Below.refl _ _⟩

set_option maxRecDepth 20000 in
theorem rstep_done {cs : List (List Ins)} {p : RkPl} {m : Mk} {t : Nat} {L : List Ins} (ht : cs[t]? = some L) (hd : doneAt L (m.pc t) = true) {w : World} (h : RkAt cs p m w) :
    Calls Tryz.prog 25 #[.pointer (some ⟨p.k, 0, none⟩), .int .i64 t] w fun e w' => e = .returned (.int .i64 9) ∧ Below w.heap.size w w' := by
  have hT := h.mT
  have HD := hide (rdone_any ht h)
  rw [hd] at HD
  have htl := lt_of_get ht
  have ti : (t : Int) < cs.length := by omega
  have d0 : decide ((t : Int) < 0) = false := by simp
  clear h hd ht
  go_enter Tryz.func25, Tryz.ntmps25
  go_wp2_with fail
  refine HD.out.mono ?_
  rintro e w1 ⟨rfl, hb1⟩
  go_wp2
  go_ret
  exact ⟨rfl, hb1⟩

theorem rstepO {cs : List (List Ins)} {p : RkPl} {m : Mk} {K : Nat} {w : World} (h : RkX cs p m K w) (t : Int) :
    Calls Tryz.prog 25 #[.pointer (some ⟨p.k, 0, none⟩), .int .i64 t] w fun e w' => e = .returned (.int .i64 (m.stepO cs t).1) ∧ ∃ r v, RkStep cs p m.mem w r v (m.stepO cs t).2 w' := by
  unfold Mk.stepO
  by_cases h1 : 0 ≤ t ∧ t < cs.length
  · rw [if_pos h1]
    obtain ⟨u, rfl⟩ := Int.eq_ofNat_of_zero_le h1.1
    have hu : u < cs.length := by omega
    rw [Int.toNat_natCast]
    cases hd : doneAt (cs.getD u []) (m.pc u)
    · rw [if_neg (by decide)]
      exact rstep_any h (getD_some hu) hd
    · rw [if_pos rfl]
      exact (rstep_done (getD_some hu) hd h.at').mono fun e w' ⟨e1, e2⟩ => ⟨e1, _, _, RkStep.of_below' h.at' e2⟩
  · rw [if_neg h1]
    exact (rstep_no h1 h.at').mono fun e w' ⟨e1, e2⟩ => ⟨e1, _, _, RkStep.of_below' h.at' e2⟩

set_option maxRecDepth 20000 in
theorem rkdrain_no {cs : List (List Ins)} {p : RkPl} {m : Mk} {t : Int} (ht : ¬ (0 ≤ t ∧ t < cs.length)) {w : World} (h : RkAt cs p m w) :
    Calls Tryz.prog 27 #[.pointer (some ⟨p.k, 0, none⟩), .int .i64 t] w fun e w' => e = .returned (.int .i64 2) ∧ Below w.heap.size w w' := by
  have hT := h.mT
  clear h
  go_enter Tryz.func27, Tryz.ntmps27
  rcases Int.lt_or_le t 0 with h0 | h0
  · go_wp2
    go_ret
    exact ⟨rfl, Below.refl _ _⟩
  · have h1 : (cs.length : Int) ≤ t := by omega
    clear ht
    go_wp2
    go_ret
    exact ⟨rfl, Below.refl _ _⟩

set_option maxRecDepth 20000 in
theorem rkdrain_none {cs : List (List Ins)} {p : RkPl} {m : Mk} {t : Nat} (ht : t < cs.length) (he : m.mem.waits t = []) {w : World} (h : RkAt cs p m w) :
    Calls Tryz.prog 27 #[.pointer (some ⟨p.k, 0, none⟩), .int .i64 t] w fun e w' => e = .returned (.int .i64 5) ∧ Below w.heap.size w w' := by
  have hT := h.mT
  have hM := h.mM
  have HD := hide (rk_drain_none h ht he)
  have ti : (t : Int) < cs.length := by omega
  have d0 : decide ((t : Int) < 0) = false := by simp
  clear h he ht
  go_enter Tryz.func27, Tryz.ntmps27
  go_wp2_with fail
  refine HD.out.mono ?_
  rintro e w1 ⟨rfl, hb1⟩
  go_wp2
  go_ret
  exact ⟨rfl, hb1⟩

set_option maxRecDepth 20000 in
theorem rkdrain_some {cs : List (List Ins)} {p : RkPl} {m : Mk} {K t : Nat} {w : World} (D : RkX cs p m K w) (ht : t < cs.length) {x : Wt} {l : List Wt} (he : m.mem.waits t = x :: l) :
    Calls Tryz.prog 27 #[.pointer (some ⟨p.k, 0, none⟩), .int .i64 t] w fun e w' => e = .returned (.int .i64 0) ∧ ∃ r v, RkStep cs p m.mem w r v (m.drain1 t) w' := by
  have hT := D.at'.mT
  have hM := D.at'.mM
  have hf := D.faults
  have HD := hide (rk_drain D.at' ht he (D.waits ht x (by rw [he]; exact List.mem_cons_self)) (D.few ht))
  have ti : (t : Int) < cs.length := by omega
  have d0 : decide ((t : Int) < 0) = false := by simp
  obtain ⟨M', HM'⟩ : ∃ M', Hid (M' = m.drain1 t) := ⟨_, hide rfl⟩
  rw [← HM'.out]
  have HR0 : Hid (M' = if m.mem.ar.has x.c x.g = true then m.setMem (m.mem.drained t x l) else (m.setMem (m.mem.drained t x l)).addFault 1) := by
    show _ = _
    rw [HM'.out]
    unfold Mk.drain1
    rw [he]
    by_cases hh : m.mem.ar.has x.c x.g = true
    · simp only [if_pos hh]; rfl
    · simp only [if_neg hh]; rfl
  clear D he ht HM'
  cases hh : m.mem.ar.has x.c x.g
  · have HR : Hid (M' = (m.setMem (m.mem.drained t x l)).addFault 1) := by show _ = _; rw [HR0.out, hh]; rfl
    rw [hh, if_neg (by decide)] at HD
    clear HR0 hh
    go_enter Tryz.func27, Tryz.ntmps27
    go_wp2_with fail
    refine HD.out.mono ?_
    rintro e w1 ⟨rfl, r, k1⟩
    have HM1 := hide k1.at'
    have f1 : w1.cell? ⟨p.k, 3, none⟩ = some (.int .i64 m.faults) := HM1.out.mFaults
    have z1 : w1.frozen? ⟨p.k, 3, none⟩ = false := HM1.out.fk 3
    have kF : RkStep cs (p.to r p.mv) (m.setMem (m.mem.drained t x l)).mem w1 r p.mv ((m.setMem (m.mem.drained t x l)).addFault 1) (w1.setCell ⟨p.k, 3, none⟩ (.int .i64 ((m.faults : Int) + 1))) := HM1.out.addFault 1
    have HS := hide (k1.trans kF)
    clear k1 kF HM1 HD
    generalize m.faults = N at *
    go_wp2
    go_ret
    exact ⟨rfl, _, _, by rw [HR.out]; exact HS.out⟩
  · have HR : Hid (M' = m.setMem (m.mem.drained t x l)) := by show _ = _; rw [HR0.out, hh]; rfl
    rw [hh, if_pos rfl] at HD
    clear HR0 hh
    go_enter Tryz.func27, Tryz.ntmps27
    go_wp2_with fail
    refine HD.out.mono ?_
    rintro e w1 ⟨rfl, r, k1⟩
    have HS := hide k1
    clear k1 HD
    go_wp2
    go_ret
    exact ⟨rfl, _, _, by rw [HR.out]; exact HS.out⟩

theorem rdrainO {cs : List (List Ins)} {p : RkPl} {m : Mk} {K : Nat} {w : World} (h : RkX cs p m K w) (t : Int) :
    Calls Tryz.prog 27 #[.pointer (some ⟨p.k, 0, none⟩), .int .i64 t] w fun e w' => e = .returned (.int .i64 (m.drainO cs t).1) ∧ ∃ r v, RkStep cs p m.mem w r v (m.drainO cs t).2 w' := by
  unfold Mk.drainO
  by_cases h1 : 0 ≤ t ∧ t < cs.length
  · rw [if_pos h1]
    obtain ⟨u, rfl⟩ := Int.eq_ofNat_of_zero_le h1.1
    have hu : u < cs.length := by omega
    rw [Int.toNat_natCast]
    cases hd : m.mem.waits u with
    | nil =>
      rw [if_pos rfl]
      exact (rkdrain_none hu hd h.at').mono fun e w' ⟨e1, e2⟩ => ⟨e1, _, _, RkStep.of_below' h.at' e2⟩
    | cons x l =>
      rw [if_neg (by simp)]
      exact rkdrain_some h hu hd
  · rw [if_neg h1]
    exact (rkdrain_no h1 h.at').mono fun e w' ⟨e1, e2⟩ => ⟨e1, _, _, RkStep.of_below' h.at' e2⟩
end Go.Proofs.YtdpmnlbnlnmjbaaGreatDoor

/- RkQ -/
namespace Go.Proofs.YtdpmnlbnlnmjbaaGreatDoor
open Go.RowKit Go.Extern.Stop Go.Stop Go.Extern Go.Maps Go.WideMaps Go.Sort

def RkRel (cs : List (List Ins)) (p : RkPl) (m : Mk) (K : Nat) (w : World) (ad : Option Addr) (l : List Int) (j : Nat) (wr : World) : Prop :=
  ∃ r v, RkStep cs p m.mem w r v (m.runO cs (l.take j)).2 wr ∧ RkX cs (p.to r v) (m.runO cs (l.take j)).2 (K + j) wr ∧ numsAt ad l wr

theorem RkRel.next {cs : List (List Ins)} {p : RkPl} {m : Mk} {K : Nat} {w : World} {ad : Option Addr} {l : List Int} {j : Nat} {x : Int} {r r' : RmPl} {v v' : Value} {wr w' : World}
    (hx : l[j]? = some x) (k : RkStep cs p m.mem w r v (m.runO cs (l.take j)).2 wr) (h : RkX cs (p.to r v) (m.runO cs (l.take j)).2 (K + j) wr) (hn : numsAt ad l wr)
    (hd : ∀ b off, ad = some ⟨b, off, none⟩ → ¬ (p.to r v).fp cs.length (m.runO cs (l.take j)).2.mem b) (hK : K + l.length ≤ 10000000)
    (k' : RkStep cs (p.to r v) (m.runO cs (l.take j)).2.mem wr r' v' (((m.runO cs (l.take j)).2.turnO cs x)).2 w') : RkRel cs p m K w ad l (j + 1) w' := by
  have hj : j < l.length := (List.getElem?_eq_some_iff.1 hx).1
  have e : l.take (j + 1) = l.take j ++ [x] := by rw [List.take_add_one, hx]; rfl
  unfold RkRel
  rw [e, Mk.runO_snoc]
  exact ⟨r', v', k.trans k', h.of k' (h.ok.turnO h.right x (by omega)) (by omega), hn.turns k'.turns (fun b off o hb => hd b off hb)⟩

end Go.Proofs.YtdpmnlbnlnmjbaaGreatDoor

/- RsG -/
namespace Go.Proofs.YtdpmnlbnlnmjbaaGreatDoor
open Go.RowKit Go.Extern.Stop Go.Stop Go.Extern Go.Maps Go.WideMaps Go.Sort

structure Pair (a : Nat → Addr) (cs : List (List Ins)) (N : Nat) (p : MkPl) (q : RkPl) (m : Mk) (K : Nat) (w : World) : Prop where
  xp : RunX a cs p m K w
  xq : RkX cs q m K w
  ap : ∀ k, p.fp k → ¬ q.fp cs.length m.mem k
  bp : ∀ k, p.fp k → N ≤ k
  bq : q.B = N
  bq2 : N ≤ p.B
  bq3 : ∀ k, q.fp cs.length m.mem k → p.B ≤ k
theorem Pair.below {a : Nat → Addr} {cs : List (List Ins)} {N : Nat} {p : MkPl} {q : RkPl} {m : Mk} {K : Nat} {w w' : World} (h : Pair a cs N p q m K w) (hb : Below w.heap.size w w') : Pair a cs N p q m K w' := ⟨h.xp.below hb, h.xq.below hb, h.ap, h.bp, h.bq, h.bq2, h.bq3⟩

end Go.Proofs.YtdpmnlbnlnmjbaaGreatDoor
