import Derived.Test.YtaiigfcfmcicjaaGreatDoorD43
import Derived.Test.YtaiigfcfmcicjaaGreatDoorD44
import Derived.Test.YtaiigfcfmcicjaaGreatDoorD45
import Derived.Test.YtaiigfcfmcicjaaGreatDoorD46
import Derived.Test.YtaiigfcfmcicjaaGreatDoorD13
import Derived.Test.YtaiigfcfmcicjaaGreatDoorD42
import Derived.Test.YtaiigfcfmcicjaaGreatDoorD38
import Derived.Test.YtaiigfcfmcicjaaGreatDoorD24
import Derived.Test.YtaiigfcfmcicjaaGreatDoorD28
import Derived.Test.YtaiigfcfmcicjaaGreatDoorD20
import Derived.Test.YtaiigfcfmcicjaaGreatDoorD03
import Derived.Test.YtaiigfcfmcicjaaGreatDoorD23
import Derived.Deep.QuietTactic
import Derived.Test.YtaiigfcfmcicjaaGreatDoorD27
namespace Go.Proofs.YtaiigfcfmcicjaaGreatDoor
set_option maxRecDepth 100000
set_option maxHeartbeats 8000000
section
open Go.RowKit Go.Extern.Stop Go.Stop Go.Extern Go.Sort
theorem rstep_any {cs : List (List Ins)} {p : RkPl} {m : Mk} {K t : Nat} {w : World} (D : RkX cs p m K w) {L : List Ins} (ht : cs[t]? = some L) (hd : doneAt L (m.pc t) = false) :
  Calls Tryz.prog 47 #[.pointer (some ⟨p.k, 0, none⟩), .int .i64 t] w fun e w' => e = .returned (.int .i64 0) /\ ∃ r v, RkStep cs p m.mem w r v (m.step L t) w' := by
 obtain ⟨x, hx, hst⟩ := doneAt_no hd
 obtain ⟨-, hI⟩ := D.right.right t L ht
 obtain ⟨hok, -⟩ := hI _ x hx
 rcases kinds hok with ⟨e, ⟨i0, l0, g0⟩, -⟩ | ⟨e, ⟨i0, l0, g0⟩, ⟨i1, l1, g1⟩⟩ | ⟨e, ⟨i0, l0, g0⟩, ⟨i1, l1, g1⟩, ⟨i2, l2, g2⟩⟩ | ⟨e, ⟨i0, l0, g0⟩, ⟨i1, l1, g1⟩, ⟨i2, l2, g2⟩⟩ | ⟨e, ⟨i0, l0, g0⟩, ⟨i1, l1, g1⟩, ⟨i2, l2, g2⟩⟩ | ⟨e, ⟨i0, l0, g0⟩, ⟨i1, l1, g1⟩, ⟨i2, l2, g2⟩⟩ | ⟨e, ⟨i0, l0, g0⟩, ⟨i1, l1, g1⟩, ⟨i2, l2, g2⟩⟩ | ⟨e, ⟨i0, l0, g0⟩, ⟨i1, l1, g1⟩, ⟨i2, l2, g2⟩⟩ | ⟨e, ⟨i0, l0, g0⟩, ⟨i1, l1, g1⟩, ⟨i2, l2, g2⟩⟩ | ⟨e, ⟨i0, l0, g0⟩, ⟨i1, l1, g1⟩, ⟨i2, l2, g2⟩⟩ | ⟨e, ⟨i0, l0, g0⟩⟩ | ⟨e, ⟨i0, l0, g0⟩⟩ | ⟨e, ⟨i0, l0, g0⟩⟩ | ⟨e, ⟨i0, l0, g0⟩⟩ | e | e | e | ⟨e, ⟨i0, l0, g0⟩, ⟨i1, g1⟩⟩ | ⟨e, ⟨i0, l0, g0⟩, ⟨i1, l1, g1⟩, ⟨i2, g2⟩⟩ | ⟨e, ⟨i0, g0⟩⟩ | ⟨e, -⟩
 ·exact rstep_const D ht hx e l0 g0
 ·exact rstep_move D ht hx e l0 g0 l1 g1
 ·exact rstep_add D ht hx e l0 g0 l1 g1 l2 g2
 ·exact rstep_sub D ht hx e l0 g0 l1 g1 l2 g2
 ·exact rstep_and D ht hx e l0 g0 l1 g1 l2 g2
 ·exact rstep_xor D ht hx e l0 g0 l1 g1 l2 g2
 ·exact rstep_load D ht hx e l0 g0 l1 g1 l2 g2
 ·exact rstep_store D ht hx e l0 g0 l1 g1 l2 g2
 ·exact rstep_swap D ht hx e l0 g0 l1 g1 l2 g2
 ·exact rstep_cas D ht hx e l0 g0 l1 g1 l2 g2
 ·exact rstep_alloc D ht hx e l0 g0
 ·exact rstep_free D ht hx e l0 g0
 ·exact rstep_mark D ht hx e l0 g0
 ·exact rstep_need D ht hx e l0 g0
 ·exact rstep_fence D ht hx e
 ·exact rstep_force D ht hx e
 ·rw [e, toList_bl] at hst; cases hst
 ·exact rstep_zero D ht hx e l0 g0 g1
 ·exact rstep_same D ht hx e l0 g0 l1 g1 g2
 ·exact rstep_goto D ht hx e g0
 ·exact rstep_label D ht hx e
theorem rdone_any {cs : List (List Ins)} {p : RkPl} {m : Mk} {t : Nat} {L : List Ins} (ht : cs[t]? = some L) {w : World} (h : RkAt cs p m w) :
  Calls Tryz.prog 27 #[.pointer (some ⟨p.k, 0, none⟩), .int .i64 t] w fun e w' => e = .returned (.bool (doneAt L (m.pc t))) /\ Below w.heap.size w w' := by
 unfold doneAt
 cases hx : L[m.pc t]? with
 | none =>
  have : L.length <= m.pc t := by
   rcases Nat.lt_or_ge (m.pc t) L.length with h1 | h1
   ·rw [List.getElem?_eq_getElem h1] at hx; cases hx
   ·exact h1
  exact rdone_end ht this h
 | some x => exact rdone_at ht hx h
theorem rstep_no {cs : List (List Ins)} {p : RkPl} {m : Mk} {t : Int} (ht : ¬ (0 <= t /\ t < cs.length)) {w : World} (h : RkAt cs p m w) :
  Calls Tryz.prog 47 #[.pointer (some ⟨p.k, 0, none⟩), .int .i64 t] w fun e w' => e = .returned (.int .i64 2) /\ Below w.heap.size w w' := by
 have hT := h.mT
 clear h
 go_enter Tryz.func47, Tryz.ntmps47
 rcases Int.lt_or_le t 0 with h0 | h0
 ·go_wp2
  go_ret
  exact ⟨rfl, Below.refl _ _⟩
 ·have h1 : (cs.length : Int) <= t := by omega
  clear ht
  go_wp2
  go_ret
  exact ⟨rfl, Below.refl _ _⟩
theorem rstep_done {cs : List (List Ins)} {p : RkPl} {m : Mk} {t : Nat} {L : List Ins} (ht : cs[t]? = some L) (hd : doneAt L (m.pc t) = true) {w : World} (h : RkAt cs p m w) :
  Calls Tryz.prog 47 #[.pointer (some ⟨p.k, 0, none⟩), .int .i64 t] w fun e w' => e = .returned (.int .i64 9) /\ Below w.heap.size w w' := by
 have hT := h.mT
 have HD := hide (rdone_any ht h)
 rw [hd] at HD
 have htl := lt_of_get ht
 have ti : (t : Int) < cs.length := by omega
 have d0 : decide ((t : Int) < 0) = false := by simp
 clear h hd ht
 go_enter Tryz.func47, Tryz.ntmps47
 go_wp2_with fail
 refine HD.out.mono ?_
 rintro e w1 ⟨rfl, hb1⟩
 go_wp2
 go_ret
 exact ⟨rfl, hb1⟩
theorem rstepO {cs : List (List Ins)} {p : RkPl} {m : Mk} {K : Nat} {w : World} (h : RkX cs p m K w) (t : Int) :
  Calls Tryz.prog 47 #[.pointer (some ⟨p.k, 0, none⟩), .int .i64 t] w fun e w' => e = .returned (.int .i64 (m.stepO cs t).1) /\ ∃ r v, RkStep cs p m.mem w r v (m.stepO cs t).2 w' := by
 unfold Mk.stepO
 by_cases h1 : 0 <= t /\ t < cs.length
 ·rw [if_pos h1]
  obtain ⟨u, rfl⟩ := Int.eq_ofNat_of_zero_le h1.1
  have hu : u < cs.length := by omega
  rw [Int.toNat_natCast]
  cases hd : doneAt (cs.getD u []) (m.pc u)
  ·rw [if_neg (by decide)]
   exact rstep_any h (getD_some hu) hd
  ·rw [if_pos rfl]
   exact (rstep_done (getD_some hu) hd h.at').mono fun e w' ⟨e1, e2⟩ => ⟨e1, _, _, RkStep.of_below' h.at' e2⟩
 ·rw [if_neg h1]
  exact (rstep_no h1 h.at').mono fun e w' ⟨e1, e2⟩ => ⟨e1, _, _, RkStep.of_below' h.at' e2⟩
theorem rkdrain_no {cs : List (List Ins)} {p : RkPl} {m : Mk} {t : Int} (ht : ¬ (0 <= t /\ t < cs.length)) {w : World} (h : RkAt cs p m w) :
  Calls Tryz.prog 48 #[.pointer (some ⟨p.k, 0, none⟩), .int .i64 t] w fun e w' => e = .returned (.int .i64 2) /\ Below w.heap.size w w' := by
 have hT := h.mT
 clear h
 go_enter Tryz.func48, Tryz.ntmps48
 rcases Int.lt_or_le t 0 with h0 | h0
 ·go_wp2
  go_ret
  exact ⟨rfl, Below.refl _ _⟩
 ·have h1 : (cs.length : Int) <= t := by omega
  clear ht
  go_wp2
  go_ret
  exact ⟨rfl, Below.refl _ _⟩
theorem rkdrain_none {cs : List (List Ins)} {p : RkPl} {m : Mk} {t : Nat} (ht : t < cs.length) (he : m.mem.waits t = []) {w : World} (h : RkAt cs p m w) :
  Calls Tryz.prog 48 #[.pointer (some ⟨p.k, 0, none⟩), .int .i64 t] w fun e w' => e = .returned (.int .i64 5) /\ Below w.heap.size w w' := by
 have hT := h.mT
 have hM := h.mM
 have HD := hide (rk_drain_none h ht he)
 have ti : (t : Int) < cs.length := by omega
 have d0 : decide ((t : Int) < 0) = false := by simp
 clear h he ht
 go_enter Tryz.func48, Tryz.ntmps48
 go_wp2_with fail
 refine HD.out.mono ?_
 rintro e w1 ⟨rfl, hb1⟩
 go_wp2
 go_ret
 exact ⟨rfl, hb1⟩
theorem rkdrain_some {cs : List (List Ins)} {p : RkPl} {m : Mk} {K t : Nat} {w : World} (D : RkX cs p m K w) (ht : t < cs.length) {x : Wt} {l : List Wt} (he : m.mem.waits t = x :: l) :
  Calls Tryz.prog 48 #[.pointer (some ⟨p.k, 0, none⟩), .int .i64 t] w fun e w' => e = .returned (.int .i64 0) /\ ∃ r v, RkStep cs p m.mem w r v (m.drain1 t) w' := by
 have hT := D.at'.mT
 have hM := D.at'.mM
 have hf := D.faults
 have HD := hide (rk_drain D.at' ht he (D.waits ht x (by rw [he]; exact List.mem_cons_self)) (D.few ht))
 have ti : (t : Int) < cs.length := by omega
 have d0 : decide ((t : Int) < 0) = false := by simp
 obtain ⟨M', HM'⟩ : ∃ M', Hid (M' = m.drain1 t) := ⟨_, hide rfl⟩
 rw [<- HM'.out]
 have HR0 : Hid (M' = if m.mem.ar.has x.c x.g = true then m.setMem (m.mem.drained t x l) else (m.setMem (m.mem.drained t x l)).addFault 1) := by
  show _ = _
  rw [HM'.out]
  unfold Mk.drain1
  rw [he]
  by_cases hh : m.mem.ar.has x.c x.g = true
  ·simp only [if_pos hh]; rfl
  ·simp only [if_neg hh]; rfl
 clear D he ht HM'
 cases hh : m.mem.ar.has x.c x.g
 ·have HR : Hid (M' = (m.setMem (m.mem.drained t x l)).addFault 1) := by show _ = _; rw [HR0.out, hh]; rfl
  rw [hh, if_neg (by decide)] at HD
  clear HR0 hh
  go_enter Tryz.func48, Tryz.ntmps48
  go_wp2_with fail
  refine HD.out.mono ?_
  rintro e w1 ⟨rfl, r, k1⟩
  have HM1 := hide k1.at'
  have f1 : w1.cell? ⟨p.k, 3, none⟩ = some (.int .i64 m.faults) := HM1.out.mFaults
  have z1 : w1.frozen? ⟨p.k, 3, none⟩ = false := HM1.out.fk 3
  have kF : RkStep cs (p.to r p.mv) (m.setMem (m.mem.drained t x l)).mem w1 r p.mv ((m.setMem (m.mem.drained t x l)).addFault 1) (w1.setCell ⟨p.k, 3, none⟩ (.int .i64 ((m.faults : Int) + 1))) := HM1.out.addFault 1
  have HS := hide (k1.trans kF)
  clear k1 kF HM1 HD
  generalize m.faults = N at *
  go_wp2
  go_ret
  exact ⟨rfl, _, _, by rw [HR.out]; exact HS.out⟩
 ·have HR : Hid (M' = m.setMem (m.mem.drained t x l)) := by show _ = _; rw [HR0.out, hh]; rfl
  rw [hh, if_pos rfl] at HD
  clear HR0 hh
  go_enter Tryz.func48, Tryz.ntmps48
  go_wp2_with fail
  refine HD.out.mono ?_
  rintro e w1 ⟨rfl, r, k1⟩
  have HS := hide k1
  clear k1 HD
  go_wp2
  go_ret
  exact ⟨rfl, _, _, by rw [HR.out]; exact HS.out⟩
theorem rdrainO {cs : List (List Ins)} {p : RkPl} {m : Mk} {K : Nat} {w : World} (h : RkX cs p m K w) (t : Int) :
  Calls Tryz.prog 48 #[.pointer (some ⟨p.k, 0, none⟩), .int .i64 t] w fun e w' => e = .returned (.int .i64 (m.drainO cs t).1) /\ ∃ r v, RkStep cs p m.mem w r v (m.drainO cs t).2 w' := by
 unfold Mk.drainO
 by_cases h1 : 0 <= t /\ t < cs.length
 ·rw [if_pos h1]
  obtain ⟨u, rfl⟩ := Int.eq_ofNat_of_zero_le h1.1
  have hu : u < cs.length := by omega
  rw [Int.toNat_natCast]
  cases hd : m.mem.waits u with
  | nil =>
   rw [if_pos rfl]
   exact (rkdrain_none hu hd h.at').mono fun e w' ⟨e1, e2⟩ => ⟨e1, _, _, RkStep.of_below' h.at' e2⟩
  | cons x l =>
   rw [if_neg (by simp)]
   exact rkdrain_some h hu hd
 ·rw [if_neg h1]
  exact (rkdrain_no h1 h.at').mono fun e w' ⟨e1, e2⟩ => ⟨e1, _, _, RkStep.of_below' h.at' e2⟩
end
section
open Go.RowKit Go.Extern.Stop Go.Stop Go.Extern Go.Maps Go.WideMaps Go.Sort
theorem rturn_any {cs : List (List Ins)} {p : RkPl} {m : Mk} {K : Nat} {w : World} (h : RkX cs p m K w) (n : Int) :
  Calls Tryz.prog 25 #[.pointer (some ⟨p.k, 0, none⟩), .int .i64 n] w fun e w' => e = .returned (.int .i64 (m.turnO cs n).1) /\ ∃ r v, RkStep cs p m.mem w r v (m.turnO cs n).2 w' := by
 have hp := h.at'.mT
 have h6 := h.at'.few
 have h1 := h.right.some'
 have HM : Hid ((if n.tmod (2 * (cs.length : Int)) < 0 then n.tmod (2 * (cs.length : Int)) + 2 * (cs.length : Int) else n.tmod (2 * (cs.length : Int))) = n % (2 * (cs.length : Int))) := tmod_mod n (by omega)
 have b1 := Int.emod_nonneg n (show (2 * (cs.length : Int)) ≠ 0 by omega)
 have b2 := Int.emod_lt_of_pos n (show 0 < (2 * (cs.length : Int)) by omega)
 have HS : Hid (n % (2 * (cs.length : Int)) < cs.length -> Calls Tryz.prog 47 #[.pointer (some ⟨p.k, 0, none⟩), .int .i64 (n % (2 * (cs.length : Int)))] w fun e w' => e = .returned (.int .i64 (m.turnO cs n).1) /\ Hid (∃ r v, RkStep cs p m.mem w r v (m.turnO cs n).2 w')) := fun hlt => by
  unfold Mk.turnO
  rw [if_pos hlt]
  exact rstepO h _
 have HD : Hid (¬ n % (2 * (cs.length : Int)) < cs.length -> Calls Tryz.prog 48 #[.pointer (some ⟨p.k, 0, none⟩), .int .i64 (n % (2 * (cs.length : Int)) - cs.length)] w fun e w' => e = .returned (.int .i64 (m.turnO cs n).1) /\ Hid (∃ r v, RkStep cs p m.mem w r v (m.turnO cs n).2 w')) := fun hlt => by
  unfold Mk.turnO
  rw [if_neg hlt]
  exact rdrainO h _
 have w2 : IntKind.i64.wrap (2 * (cs.length : Int)) = 2 * (cs.length : Int) := by rw [IntKind.wrap_i64]; omega
 clear h
 generalize (m.turnO cs n).1 = E at *
 generalize (m.turnO cs n).2 = M' at *
 clear HM
 generalize hN : cs.length = N at *
 have HN := hide hN
 clear hN
 obtain ⟨k, hk⟩ : ∃ k : Int, (N : Int) = k := ⟨_, rfl⟩
 have k1 : 1 <= k := by omega
 have k2 : k <= 6 := by omega
 rw [hk] at HS HD w2 b1 b2
 obtain ⟨r, hr⟩ : ∃ r, n.tmod (2 * k) = r := ⟨_, rfl⟩
 have HMM := tmod_mod n (show 0 < 2 * k by omega)
 rw [hr] at HMM
 obtain ⟨f1, f2, w3, w4⟩ := turn_facts n k (by omega) (by omega) r hr
 have kz : ¬ (2 * k = 0) := by omega
 have k0 : (2 * k == 0) = false := by simp; omega
 have kd : decide (2 * k = 0) = false := by simp; omega
 have kn : ¬ k = 0 := by omega
 clear h6 h1
 by_cases hc : r < 0
 ·have hM := HMM
  rw [if_pos hc] at hM
  by_cases hd : n % (2 * k) < k
  ·have HS1 := hide (HS.out hd)
   clear HS HD HMM
   rw [<- hM] at HS1 hd
   clear hM b1 b2 f1 f2
   go_enter Tryz.func25, Tryz.ntmps25
   go_wp2_with fail
   refine HS1.out.mono ?_
   rintro e w1 ⟨rfl, h2⟩
   go_wp2
   go_ret
   exact ⟨rfl, h2.out⟩
  ·have HD1 := hide (HD.out hd)
   clear HS HD HMM
   have w5 : IntKind.i64.wrap (n % (2 * k) - k) = n % (2 * k) - k := by rw [IntKind.wrap_i64]; omega
   rw [<- hM] at HD1 hd w5
   clear hM b1 b2 f1 f2
   go_enter Tryz.func25, Tryz.ntmps25
   go_wp2_with fail
   refine HD1.out.mono ?_
   rintro e w1 ⟨rfl, h2⟩
   go_wp2
   go_ret
   exact ⟨rfl, h2.out⟩
 ·have hM := HMM
  rw [if_neg hc] at hM
  by_cases hd : n % (2 * k) < k
  ·have HS1 := hide (HS.out hd)
   clear HS HD HMM
   rw [<- hM] at HS1 hd
   clear hM b1 b2 f1 f2
   go_enter Tryz.func25, Tryz.ntmps25
   go_wp2_with fail
   refine HS1.out.mono ?_
   rintro e w1 ⟨rfl, h2⟩
   go_wp2
   go_ret
   exact ⟨rfl, h2.out⟩
  ·have HD1 := hide (HD.out hd)
   clear HS HD HMM
   have w5 : IntKind.i64.wrap (n % (2 * k) - k) = n % (2 * k) - k := by rw [IntKind.wrap_i64]; omega
   rw [<- hM] at HD1 hd w5
   clear hM b1 b2 f1 f2
   go_enter Tryz.func25, Tryz.ntmps25
   go_wp2_with fail
   refine HD1.out.mono ?_
   rintro e w1 ⟨rfl, h2⟩
   go_wp2
   go_ret
   exact ⟨rfl, h2.out⟩
def RkRel (cs : List (List Ins)) (p : RkPl) (m : Mk) (K : Nat) (w : World) (ad : Option Addr) (l : List Int) (j : Nat) (wr : World) : Prop :=
 ∃ r v, RkStep cs p m.mem w r v (m.runO cs (l.take j)).2 wr /\ RkX cs (p.to r v) (m.runO cs (l.take j)).2 (K + j) wr /\ numsAt ad l wr
theorem RkRel.next {cs : List (List Ins)} {p : RkPl} {m : Mk} {K : Nat} {w : World} {ad : Option Addr} {l : List Int} {j : Nat} {x : Int} {r r' : RmPl} {v v' : Value} {wr w' : World}
  (hx : l[j]? = some x) (k : RkStep cs p m.mem w r v (m.runO cs (l.take j)).2 wr) (h : RkX cs (p.to r v) (m.runO cs (l.take j)).2 (K + j) wr) (hn : numsAt ad l wr)
  (hd : ∀ b off, ad = some ⟨b, off, none⟩ -> ¬ (p.to r v).fp cs.length (m.runO cs (l.take j)).2.mem b) (hK : K + l.length <= 10000000)
  (k' : RkStep cs (p.to r v) (m.runO cs (l.take j)).2.mem wr r' v' (((m.runO cs (l.take j)).2.turnO cs x)).2 w') : RkRel cs p m K w ad l (j + 1) w' := by
 have hj : j < l.length := (List.getElem?_eq_some_iff.1 hx).1
 have e : l.take (j + 1) = l.take j ++ [x] := by rw [List.take_add_one, hx]; rfl
 unfold RkRel
 rw [e, Mk.runO_snoc]
 exact ⟨r', v', k.trans k', h.of k' (h.ok.turnO h.right x (by omega)) (by omega), hn.turns k'.turns (fun b off o hb => hd b off hb)⟩
theorem rrun_any {cs : List (List Ins)} {p : RkPl} {m : Mk} {K : Nat} {w : World} (h : RkX cs p m K w) {ad : Option Addr} {l : List Int} {cap : Nat} (hl : numsAt ad l w) (hlen : l.length <= 20000) (hcap : l.length <= cap) (hK : K + l.length <= 10000000)
  (hd : 0 < l.length -> ∀ b off, ad = some ⟨b, off, none⟩ -> b < w.heap.size /\ ¬ p.fp cs.length m.mem b) :
  Calls Tryz.prog 28 #[.pointer (some ⟨p.k, 0, none⟩), .slice ad l.length cap] w fun e w' => e = .returned (.int .i64 (m.runO cs l).1) /\ ∃ r v, RkStep cs p m.mem w r v (m.runO cs l).2 w' /\ RkX cs (p.to r v) (m.runO cs l).2 (K + l.length) w' := by
 have H0 : Hid (RkRel cs p m K w ad l 0 w) := hide ⟨p.rp, p.mv, RkStep.refl h.at', h, hl⟩
 have HD := hide hd
 have i1 : (l.length : Int) <= 20000 := by omega
 have i2 : (l.length : Int) <= cap := by omega
 clear h hl hd
 go_enter Tryz.func28, Tryz.ntmps28
 go_wp2_with fail
 go_loopw [5, 6, 7] (fun c i _ wr => ∃ j : Nat, j <= l.length /\ i = .int .i64 j /\ c = .int .i64 (m.runO cs (l.take j)).1 /\ Hid (RkRel cs p m K w ad l j wr)) (fun _ i _ _ => l.length - (intOf i).toNat)
 case atStart => exact ⟨0, Nat.zero_le _, rfl, rfl, H0⟩
 case round =>
  obtain ⟨j, hj, rfl, rfl, HH⟩ := hrel
  obtain ⟨r, v, hk, hx, hn⟩ := HH.out
  have hle := Mk.runO_le cs (l.take j) m
  rw [List.length_take] at hle
  by_cases hlt : j < l.length
  ·obtain ⟨x, hxx⟩ : ∃ x, l[j]? = some x := ⟨_, List.getElem?_eq_getElem hlt⟩
   obtain ⟨ab, off, rfl, c0⟩ := hn j x hxx
   have ji : (j : Int) < l.length := by omega
   have j2 : (j : Int) < 20000 := by omega
   have HT := hide (rturn_any hx x)
   have HC := runO_count (cs := cs) (m := m) hxx
   have HF : ∀ b off', (some ⟨ab, off, none⟩ : Option Addr) = some ⟨b, off', none⟩ -> ¬ (p.to r v).fp cs.length (m.runO cs (l.take j)).2.mem b := fun b off' e hb => by
    have := HD.out (by omega) b off' e
    rcases hk.fp b hb with h1 | h1
    ·exact this.2 h1
    ·omega
   have HR : Hid (∀ r' v' w', RkStep cs (p.to r v) (m.runO cs (l.take j)).2.mem wr r' v' (((m.runO cs (l.take j)).2.turnO cs x)).2 w' -> RkRel cs p m K w (some ⟨ab, off, none⟩) l (j + 1) w') := hide (fun r' v' w' k' => RkRel.next hxx hk hx hn HF hK k')
   have hp : (p.to r v).k = p.k := rfl
   rw [hp] at HT
   clear hk hx hn HF H0 HH hp
   have hh : (m.runO cs (l.take (j + 1))).1 <= j + 1 := by have := Mk.runO_le cs (l.take (j + 1)) m; rw [List.length_take] at this; omega
   generalize hC1 : (m.runO cs (l.take (j + 1))).1 = C1 at *
   have HC1 := hide hC1
   clear hC1
   generalize (m.runO cs (l.take j)).1 = C0 at *
   generalize hm : (m.runO cs (l.take j)).2 = M at *
   clear hm
   have HT2 := HT.out
   clear HT
   generalize (M.turnO cs x).2 = M2 at *
   generalize (M.turnO cs x).1 = E1 at *
   clear hxx
   have w1c : IntKind.i64.wrap ((C0 : Int) + 1) = (C0 : Int) + 1 := by rw [IntKind.wrap_i64]; omega
   cases E1 with
   | zero =>
    have e0 : ((C1 : Nat) : Int) = (C0 : Int) + 1 := by rw [HC]; rfl
    clear HC
    rw [show (((0 : Nat) : Int)) = 0 from rfl] at HT2
    go_wp2_with fail
    refine HT2.mono ?_
    rintro e w1 ⟨rfl, r', v', hk'⟩
    have H1 := hide (HR.out r' v' w1 hk')
    clear hk' HR
    go_wp2
    go_roundw
    case rel => exact ⟨j + 1, by omega, by go_num, by rw [HC1.out, e0], H1⟩
    case measure => simp [intOf]; omega
   | succ E2 =>
    have e0 : C1 = C0 := by rw [HC]; rfl
    clear HC
    have ne0 : ¬ (((E2 + 1 : Nat) : Int)) = 0 := by omega
    have nb0 : ((((E2 + 1 : Nat) : Int)) == 0) = false := beq_eq_false_iff_ne.2 ne0
    generalize (((E2 + 1 : Nat) : Int)) = EE at *
    go_wp2_with fail
    refine HT2.mono ?_
    rintro e w1 ⟨rfl, r', v', hk'⟩
    have H1 := hide (HR.out r' v' w1 hk')
    clear hk' HR
    go_wp2
    go_roundw
    case rel => exact ⟨j + 1, by omega, by go_num, by rw [HC1.out, e0], H1⟩
    case measure => simp [intOf]; omega
  ·obtain rfl : j = l.length := by omega
   have HZ : Hid (∃ r v, RkStep cs p m.mem w r v (m.runO cs l).2 wr /\ RkX cs (p.to r v) (m.runO cs l).2 (K + l.length) wr) := hide ⟨r, v, by rw [List.take_length] at hk; exact hk, by rw [List.take_length] at hx; exact hx⟩
   have ht : l.take l.length = l := List.take_length
   rw [ht]
   clear hk hx hn H0 ht HH
   go_wp2
   go_ret
   exact ⟨rfl, HZ.out⟩
end
section
open Go.RowKit Go.Extern.Stop Go.Stop Go.Extern Go.Maps Go.WideMaps Go.Sort
theorem clNewX {f : Nat} (hf : 1 <= f /\ f <= 4) {cl : List (List OpI)} (h : (eachE cl).1 = 0) {ai ar ad : Option Addr} {ci cr cap : Nat} {w0 w : World} (h0 : Below w0.heap.size w0 w) (hs : StaAt (clSta f cl.length) ⟨ai, ci, ar, cr⟩ w) (hl : codesAt ad (cl.map (clC f)) w0) :
  Calls Tryz.prog 20 #[.agg #[.int .i64 64, .slice ai (graceI f (clCells.map pad4) cl.length).length ci, .slice ar (rowsG 2 cl.length cl.length).length cr], .slice ad cl.length cap] w fun e w' => ∃ p : RkPl, e = .returned (.pointer (some ⟨p.k, 0, none⟩)) /\ Hid (RkX (cl.map (clC f)) p ((clSta f cl.length).mach cl.length) 1 w' /\ Below w.heap.size w w' /\ ∀ b, p.fp cl.length ((clSta f cl.length).mach cl.length).mem b -> w.heap.size <= b) := by
 obtain ⟨-, h6, h1, -⟩ := eachE_ok h
 have hl' : (cl.map (clC f)).length = cl.length := List.length_map _
 have h' := newMachine_any (cap := cap) h0 hs hl (show (1 : Int) <= 64 by decide) (show (64 : Int) <= 64 by decide) (by rw [hl']; exact h1) (by rw [hl']; exact h6) (by rw [hl']; exact cl_fits h1 h6 hf)
 rw [hl'] at h'
 refine h'.mono ?_
 rintro e w' ⟨p, he, hh⟩
 obtain ⟨g1, -, g3, g4⟩ := hh.out
 exact ⟨p, he, hide ⟨⟨g1, by rw [hl']; exact Sta.mach_ok (cl_fits h1 h6 hf) (by show (64 : Int) <= 64; decide) h6, cl_right hf h, by decide⟩, g3, g4⟩⟩
theorem has2_any {ad : Option Addr} {l : List Int} {cap : Nat} {w : World} (h : numsAt ad l w) (hl : l.length <= 1000) (x : Int) :
  Calls Tryz.prog 30 #[.slice ad l.length cap, .int .i64 x] w fun e w' => e = .returned (.bool (decide (x ∈ l))) /\ w' = w := by
 have HH := hide h
 obtain ⟨n, hn⟩ : ∃ n, Hid (l.length = n) := ⟨_, hide rfl⟩
 have HN : Hid (¬ (∃ j, j < n /\ l[j]? = some x) -> x ∉ l) := hide (fun h hx => by
  obtain ⟨j, hj, e⟩ := List.getElem_of_mem hx
  exact h ⟨j, by rw [<- hn.out]; exact hj, by rw [List.getElem?_eq_getElem hj, e]⟩)
 rw [hn.out] at hl ⊢
 clear h
 go_enter Tryz.func30, Tryz.ntmps30
 go_wp2_with fail
 go_loopw [5] (fun i wr => ∃ j : Nat, j <= n /\ i = .int .i64 j /\ Hid (∀ (t : Nat), t < j -> l[t]? ≠ some x) /\ w = wr) (fun i _ => n - (intOf i).toNat)
 case atStart => exact ⟨0, Nat.zero_le _, rfl, hide (fun t ht => absurd ht (Nat.not_lt_zero _)), (by first | rfl | trivial)⟩
 case round =>
  obtain ⟨j, hj, rfl, HA, rfl⟩ := hrel
  by_cases hlt : j < n
  ·have ji : (j : Int) < n := by omega
   obtain ⟨y, hy⟩ : ∃ y, l[j]? = some y := ⟨_, List.getElem?_eq_getElem (by rw [hn.out]; exact hlt)⟩
   have HY := hide hy
   obtain ⟨b, off, rfl, c0⟩ := HH.out j y hy
   clear hy
   by_cases he : y = x
   ·have HX : Hid (x ∈ l) := hide (by rw [<- he]; exact List.mem_of_getElem? HY.out)
    have hq : (y == x) = true := beq_iff_eq.2 he
    clear he HA
    go_wp2_with fail
    go_ret
    exact ⟨by rw [decide_eq_true HX.out]; rfl, rfl⟩
   ·have hq : (y == x) = false := beq_eq_false_iff_ne.2 he
    have HA2 : Hid (∀ (t : Nat), t < j + 1 -> l[t]? ≠ some x) := hide (fun t ht => by
     by_cases e : t = j
     ·subst e
      rw [HY.out]
      exact fun h => he (Option.some.inj h)
     ·exact HA.out t (by omega))
    clear HA
    go_wp2_with fail
    go_roundw
    case rel => exact ⟨j + 1, by omega, by go_num, HA2, (by first | rfl | trivial)⟩
    case measure => simp [intOf]; omega
  ·obtain rfl : j = n := by omega
   have HX : Hid (x ∉ l) := hide (HN.out (fun ⟨t, ht, h⟩ => HA.out t ht h))
   go_wp2_with fail
   go_ret
   exact ⟨by rw [decide_eq_false HX.out]; rfl, rfl⟩
def putsL (L : List OpI) : List Int := (L.filter fun x => x.kind.toList == [112, 117, 116]).map (·.n)
def putsC (cl : List (List OpI)) : List Int := 1 :: cl.flatMap putsL
theorem putsL_snoc {L : List OpI} {k : Nat} {x : OpI} (h : L[k]? = some x) : putsL (L.take (k + 1)) = putsL (L.take k) ++ (if (x.kind.toList == [112, 117, 116]) = true then [x.n] else []) := by
 unfold putsL
 rw [List.take_add_one, h, List.filter_append, List.map_append]
 congr 1
 show (List.filter _ [x]).map _ = _
 rw [List.filter_cons]
 split <;> rfl
theorem putsC_snoc {cl : List (List OpI)} {j : Nat} {L : List OpI} (h : cl[j]? = some L) : (cl.take (j + 1)).flatMap putsL = (cl.take j).flatMap putsL ++ putsL L := by
 rw [List.take_add_one, h, List.flatMap_append]
 simp
theorem putsL_len (L : List OpI) : (putsL L).length <= L.length := by
 unfold putsL
 rw [List.length_map]
 exact List.length_filter_le _ _
theorem putsC_len {cl : List (List OpI)} (h : ∀ L ∈ cl, L.length <= 30) : (cl.flatMap putsL).length <= cl.length * 30 := by
 induction cl with
 | nil => simp
 | cons L cl ih =>
  rw [List.flatMap_cons, List.length_append, List.length_cons]
  have h1 := putsL_len L
  have h2 := h L List.mem_cons_self
  have h3 := ih (fun L hL => h L (List.mem_cons_of_mem _ hL))
  omega
theorem kn_put (s : List UInt8) : kn s = 1 ↔ (s == [112, 117, 116]) = true := by
 rcases kcases s with ⟨h, hk⟩ | ⟨h, hk⟩ | ⟨h, hk⟩ | ⟨h, hk⟩ | ⟨h, hk⟩ | ⟨h, hk⟩ | ⟨h, hk⟩ | ⟨h, hk⟩ | ⟨h, hk⟩ | ⟨h, hk⟩ <;> rw [hk, h.1] <;> decide
theorem Vq_puts {cl : List (List OpI)} {v : Int} (h : Vq cl v) : v ∈ putsC cl := by
 rcases h with rfl | ⟨L, hL, x, hx, hk, rfl⟩
 ·exact List.mem_cons_self
 ·refine List.mem_cons_of_mem _ (List.mem_flatMap.2 ⟨L, hL, List.mem_map.2 ⟨x, List.mem_filter.2 ⟨hx, (kn_put _).1 hk⟩, rfl⟩⟩)
theorem puts_any {ad : Option Addr} {cl : List (List OpI)} {cap : Nat} {w : World} (h : opRowsAt ad cl w) (h10 : cl.length <= 10) (h30 : ∀ L ∈ cl, L.length <= 30) :
  Calls Tryz.prog 29 #[.slice ad cl.length cap] w fun e w' => ∃ v, e = .returned v /\ numsOwn w' w.heap.size v (putsC cl) /\ Below w.heap.size w w' := by
 have HH := hide h
 obtain ⟨n, hn⟩ : ∃ n, Hid (cl.length = n) := ⟨_, hide rfl⟩
 have HZ : Hid (∀ j, j <= n -> ((cl.take j).flatMap putsL).length <= 300) := hide (fun j hj => by
  have := putsC_len (cl := cl.take j) (fun L hL => h30 L (List.mem_of_mem_take hL))
  rw [List.length_take, hn.out] at this
  have : min j n <= 10 := by have := hn.out; omega
  omega)
 have HM := hide h30
 have HE : Hid ((cl.take n).flatMap putsL = cl.flatMap putsL) := hide (by rw [<- hn.out, List.take_length])
 rw [hn.out] at h10 ⊢
 clear h h30
 have HB0 : Hid (Below w.heap.size w (w.alloc (.cells #[.int .i64 1] 3))) := hide (bRf.alloc nL _)
 have HO0 : Hid (numsOwn (w.alloc (.cells #[.int .i64 1] 3)) w.heap.size (.slice (some ⟨w.heap.size, 0, none⟩) 1 1) (1 :: (cl.take 0).flatMap putsL)) := hide (numsOwn_new (l := [1]) rfl nL (by decide))
 go_enter Tryz.func29, Tryz.ntmps29
 go_wp2_with fail
 go_loopw [3, 4, 5] (fun v i _ wr => ∃ j : Nat, j <= n /\ i = .int .i64 j /\ Hid (numsOwn wr w.heap.size v (1 :: (cl.take j).flatMap putsL)) /\ Hid (Below w.heap.size w wr)) (fun _ i _ _ => n - (intOf i).toNat)
 case atStart => exact ⟨0, Nat.zero_le _, rfl, HO0, HB0⟩
 case round =>
  clear HO0 HB0
  obtain ⟨j, hj, rfl, HO, HB⟩ := hrel
  generalize u3 = v at *
  by_cases hlt : j < n
  ·have ji : (j : Int) < n := by omega
   obtain ⟨L, hL⟩ : ∃ L, cl[j]? = some L := ⟨_, List.getElem?_eq_getElem (by rw [hn.out]; exact hlt)⟩
   have HL := hide hL
   obtain ⟨ln, hln⟩ : ∃ ln, Hid (L.length = ln) := ⟨_, hide rfl⟩
   have hl30 : ln <= 30 := by rw [<- hln.out]; exact HM.out L (List.mem_of_getElem? hL)
   clear hL
   go_wp2_with fail
   go_loopw [3, 5] (fun v i wr => ∃ k : Nat, k <= ln /\ i = .int .i64 k /\ Hid (numsOwn wr w.heap.size v (1 :: ((cl.take j).flatMap putsL ++ putsL (L.take k)))) /\ Hid (Below w.heap.size w wr)) (fun _ i _ => ln - (intOf i).toNat)
   case atStart => exact ⟨0, Nat.zero_le _, rfl, hide (by rw [show putsL (L.take 0) = [] from rfl, List.append_nil]; exact HO.out), HB⟩
   case round =>
    clear HO HB
    obtain ⟨k, hk, rfl, HO, HB⟩ := hrel
    generalize u3 = v at *
    obtain ⟨b, off, adl, capl, rfl, c0, ho⟩ := (HH.out.below HB.out) j L HL.out
    rw [hln.out] at c0
    by_cases hkl : k < ln
    ·have kj : (k : Int) < ln := by omega
     obtain ⟨x, hx⟩ : ∃ x, L[k]? = some x := ⟨_, List.getElem?_eq_getElem (by rw [hln.out]; exact hkl)⟩
     have HX := hide hx
     have HS := hide (putsL_snoc hx)
     obtain ⟨b2, off2, rfl, d0, d1⟩ := ho k x hx
     obtain ⟨xk, xn⟩ := x
     dsimp only at d0 d1 HS
     clear hx ho
     cases hq : (xk.toList == [112, 117, 116])
     ·rw [hq] at HS
      have HO2 : Hid (numsOwn wr w.heap.size v (1 :: ((cl.take j).flatMap putsL ++ putsL (L.take (k + 1))))) := hide (by
       rw [HS.out, if_neg (by decide), List.append_nil]; exact HO.out)
      clear HO HS
      go_wp2_with fail
      go_roundw
      case rel => exact ⟨k + 1, by omega, by go_num, HO2, HB⟩
      case measure => simp [intOf]; omega
     ·rw [hq] at HS
      have HS2 : Hid (putsL (L.take (k + 1)) = putsL (L.take k) ++ [xn]) := hide (by rw [HS.out]; rfl)
      have HLN : Hid ((1 :: ((cl.take j).flatMap putsL ++ putsL (L.take k)) : List Int).length + 1 <= 1000000) := hide (by
       have h1 := HZ.out j hj
       have h2 := putsL_len (L.take k)
       rw [List.length_take] at h2
       have h4 := hln.out
       rw [List.length_cons, List.length_append]
       omega)
      obtain ⟨P, hP⟩ : ∃ P, Hid (P = (1 :: ((cl.take j).flatMap putsL ++ putsL (L.take k)) : List Int)) := ⟨_, hide rfl⟩
      rw [<- hP.out] at HO HLN
      go_wp2_with (at_builtin; refine wpList_append_ints _ rfl _ _ rfl w.heap.size P [xn] _ ⟨wr.heap.size, 0, none⟩ 1 rfl ?q1 rfl ?q2 ?q3 ?q4 ?_)
      case q1 => exact numsOwn_keep HO.out (bRf.alloc nL _)
      case q2 => exact numsAt_new rfl
      case q3 => have := HLN.out; omega
      case q4 => have := HB.out.size; simp; omega
      intro v' w' h1 h2 h3 h4 h5
      have HO2 : Hid (numsOwn w' w.heap.size v' (1 :: ((cl.take j).flatMap putsL ++ putsL (L.take (k + 1))))) := hide (by
       rw [HS2.out, <- List.append_assoc]
       rw [hP.out] at h1
       exact h1)
      have HB2 : Hid (Below w.heap.size w w') := hide ((HB.out.alloc HB.out.size _).trans (h2.mono nL))
      clear h1 h2 h3 h4 h5 HO HB HS HS2 hP HLN d0 d1 c0
      go_wp2_with fail
      go_roundw
      case rel => exact ⟨k + 1, by omega, by go_num, HO2, HB2⟩
      case measure => simp [intOf]; omega
    ·obtain rfl : k = ln := by omega
     have HO2 : Hid (numsOwn wr w.heap.size v (1 :: (cl.take (j + 1)).flatMap putsL)) := hide (by
      rw [putsC_snoc HL.out]
      have := HO.out
      rw [<- hln.out, List.take_length] at this
      exact this)
     clear HO ho
     go_wp2_with fail
     go_roundw
     case rel => exact ⟨j + 1, by omega, by go_num, HO2, HB⟩
     case measure => simp [intOf]; omega
  ·obtain rfl : j = n := by omega
   have HO2 : Hid (numsOwn wr w.heap.size v (putsC cl)) := hide (by
    have := HO.out
    rw [HE.out] at this
    exact this)
   obtain ⟨av, cv, rfl, -⟩ := ownsRow_shape HO2.out
   clear HO
   go_wp2_with fail
   go_ret
   exact ⟨_, rfl, HO2.out, HB.out⟩
end
end Go.Proofs.YtaiigfcfmcicjaaGreatDoor
