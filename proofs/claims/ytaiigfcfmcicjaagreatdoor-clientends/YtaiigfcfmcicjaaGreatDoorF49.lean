import Derived.Test.YtaiigfcfmcicjaaGreatDoorF39
import Derived.Test.YtaiigfcfmcicjaaGreatDoorF40
import Derived.Test.YtaiigfcfmcicjaaGreatDoorF41
import Derived.Test.YtaiigfcfmcicjaaGreatDoorF43
import Derived.Test.YtaiigfcfmcicjaaGreatDoorF44
import Derived.Test.YtaiigfcfmcicjaaGreatDoorF45
import Derived.Test.YtaiigfcfmcicjaaGreatDoorF46
import Derived.Test.YtaiigfcfmcicjaaGreatDoorF48
import Derived.Test.YtaiigfcfmcicjaaGreatDoorF10
import Derived.Test.YtaiigfcfmcicjaaGreatDoorF15
import Derived.Test.YtaiigfcfmcicjaaGreatDoorF16
import Derived.Test.YtaiigfcfmcicjaaGreatDoorF36
import Derived.Test.YtaiigfcfmcicjaaGreatDoorF32
import Derived.Test.YtaiigfcfmcicjaaGreatDoorF18
import Derived.Test.YtaiigfcfmcicjaaGreatDoorF21
import Derived.Test.YtaiigfcfmcicjaaGreatDoorF02
import Derived.Deep.QuietTactic
import Derived.Test.YtaiigfcfmcicjaaGreatDoorF20
namespace Go.Proofs.YtaiigfcfmcicjaaGreatDoor
set_option maxRecDepth 100000
set_option maxHeartbeats 8000000
section
open Go.RowKit Go.Extern.Stop Go.Stop Go.Extern Go.Sort
variable {cs : List (List Ins)} {w : World} {p : RkPl} {m : Mk} {L : List Ins} {t : Nat}
theorem rstep_any {K t : Nat} (D : RkX cs p m K w) (ht : cs[t]? = some L) (hd : doneAt L (m.pc t) = false) :
  Calls Tryz.prog 47 #[.pointer (some ⟨p.k, 0, none⟩), .int .i64 t] w fun e w' => e = .returned (.int .i64 0) /\ ∃ r v, RkStep cs p m.mem w r v (m.step L t) w' := by
 obtain ⟨x, hx, hst⟩ := doneAt_no hd
 obtain ⟨-, hI⟩ := D.right.right t L ht
 obtain ⟨hok, -⟩ := hI _ x hx
 rcases kinds hok with ⟨e, ⟨i0, l0, g0⟩, -⟩ | ⟨e, ⟨i0, l0, g0⟩, ⟨i1, l1, g1⟩⟩ | ⟨e, ⟨i0, l0, g0⟩, ⟨i1, l1, g1⟩, ⟨i2, l2, g2⟩⟩ | ⟨e, ⟨i0, l0, g0⟩, ⟨i1, l1, g1⟩, ⟨i2, l2, g2⟩⟩ | ⟨e, ⟨i0, l0, g0⟩, ⟨i1, l1, g1⟩, ⟨i2, l2, g2⟩⟩ | ⟨e, ⟨i0, l0, g0⟩, ⟨i1, l1, g1⟩, ⟨i2, l2, g2⟩⟩ | ⟨e, ⟨i0, l0, g0⟩, ⟨i1, l1, g1⟩, ⟨i2, l2, g2⟩⟩ | ⟨e, ⟨i0, l0, g0⟩, ⟨i1, l1, g1⟩, ⟨i2, l2, g2⟩⟩ | ⟨e, ⟨i0, l0, g0⟩, ⟨i1, l1, g1⟩, ⟨i2, l2, g2⟩⟩ | ⟨e, ⟨i0, l0, g0⟩, ⟨i1, l1, g1⟩, ⟨i2, l2, g2⟩⟩ | ⟨e, ⟨i0, l0, g0⟩⟩ | ⟨e, ⟨i0, l0, g0⟩⟩ | ⟨e, ⟨i0, l0, g0⟩⟩ | ⟨e, ⟨i0, l0, g0⟩⟩ | e | e | e | ⟨e, ⟨i0, l0, g0⟩, ⟨i1, g1⟩⟩ | ⟨e, ⟨i0, l0, g0⟩, ⟨i1, l1, g1⟩, ⟨i2, g2⟩⟩ | ⟨e, ⟨i0, g0⟩⟩ | ⟨e, -⟩
 ·exact rstep_const D ht hx e l0 g0
 ·exact rstep_move D ht hx e l0 g0 l1 g1
 ·exact rstep_add D ht hx e l0 g0 l1 g1 l2 g2
 ·exact rstep_sub D ht hx e l0 g0 l1 g1 l2 g2
 ·exact rstep_and D ht hx e l0 g0 l1 g1 l2 g2
 ·exact rstep_xor D ht hx e l0 g0 l1 g1 l2 g2
 ·exact rstep_load D ht hx e l0 g0 l1 g1 l2 g2
 ·exact rstep_store D ht hx e l0 g0 l1 g1 l2 g2
 ·exact rstep_swap D ht hx e l0 g0 l1 g1 l2 g2
 ·exact rstep_cas D ht hx e l0 g0 l1 g1 l2 g2
 ·exact rstep_alloc D ht hx e l0 g0
 ·exact rstep_free D ht hx e l0 g0
 ·exact rstep_mark D ht hx e l0 g0
 ·exact rstep_need D ht hx e l0 g0
 ·exact rstep_fence D ht hx e
 ·exact rstep_force D ht hx e
 ·rw [e, toList_bl] at hst; cases hst
 ·exact rstep_zero D ht hx e l0 g0 g1
 ·exact rstep_same D ht hx e l0 g0 l1 g1 g2
 ·exact rstep_goto D ht hx e g0
 ·exact rstep_label D ht hx e
theorem rdone_any (ht : cs[t]? = some L) (h : RkAt cs p m w) :
  Calls Tryz.prog 27 #[.pointer (some ⟨p.k, 0, none⟩), .int .i64 t] w fun e w' => e = .returned (.bool (doneAt L (m.pc t))) /\ Below w.heap.size w w' := by
 unfold doneAt
 cases hx : L[m.pc t]? with
 | none =>
  have : L.length <= m.pc t := by
   rcases Nat.lt_or_ge (m.pc t) L.length with h1 | h1
   ·rw [List.getElem?_eq_getElem h1] at hx; cases hx
   ·exact h1
  exact rdone_end ht this h
 | some x => exact rdone_at ht hx h
theorem rstep_no {t : Int} (ht : ¬ (0 <= t /\ t < cs.length)) (h : RkAt cs p m w) :
  Calls Tryz.prog 47 #[.pointer (some ⟨p.k, 0, none⟩), .int .i64 t] w fun e w' => e = .returned (.int .i64 2) /\ Below w.heap.size w w' := by
 have hT := h.mT
 clear h
 go_enter Tryz.func47, Tryz.ntmps47
 rcases Int.lt_or_le t 0 with h0 | h0
 ·go_wp2
  go_ret
  exact ⟨rfl, Below.refl _ _⟩
 ·have h1 : (cs.length : Int) <= t := by omega
  clear ht
  go_wp2
  go_ret
  exact ⟨rfl, Below.refl _ _⟩
theorem rstep_done (ht : cs[t]? = some L) (hd : doneAt L (m.pc t) = true) (h : RkAt cs p m w) :
  Calls Tryz.prog 47 #[.pointer (some ⟨p.k, 0, none⟩), .int .i64 t] w fun e w' => e = .returned (.int .i64 9) /\ Below w.heap.size w w' := by
 have hT := h.mT
 have HD := hide (rdone_any ht h)
 rw [hd] at HD
 have htl := lt_of_get ht
 have ti : (t : Int) < cs.length := by omega
 have d0 : decide ((t : Int) < 0) = false := by simp
 clear h hd ht
 go_enter Tryz.func47, Tryz.ntmps47
 go_wp2_with fail
 refine HD.out.mono ?_
 rintro e w1 ⟨rfl, hb1⟩
 go_wp2
 go_ret
 exact ⟨rfl, hb1⟩
theorem rstepO {K : Nat} (h : RkX cs p m K w) (t : Int) :
  Calls Tryz.prog 47 #[.pointer (some ⟨p.k, 0, none⟩), .int .i64 t] w fun e w' => e = .returned (.int .i64 (m.stepO cs t).1) /\ ∃ r v, RkStep cs p m.mem w r v (m.stepO cs t).2 w' := by
 unfold Mk.stepO
 by_cases h1 : 0 <= t /\ t < cs.length
 ·rw [if_pos h1]
  obtain ⟨u, rfl⟩ := Int.eq_ofNat_of_zero_le h1.1
  have hu : u < cs.length := by omega
  rw [Int.toNat_natCast]
  cases hd : doneAt (cs.getD u []) (m.pc u)
  ·rw [if_neg (by decide)]
   exact rstep_any h (getD_some hu) hd
  ·rw [if_pos rfl]
   exact (rstep_done (getD_some hu) hd h.at').mono fun e w' ⟨e1, e2⟩ => ⟨e1, _, _, RkStep.of_below' h.at' e2⟩
 ·rw [if_neg h1]
  exact (rstep_no h1 h.at').mono fun e w' ⟨e1, e2⟩ => ⟨e1, _, _, RkStep.of_below' h.at' e2⟩
theorem rkdrain_no {t : Int} (ht : ¬ (0 <= t /\ t < cs.length)) (h : RkAt cs p m w) :
  Calls Tryz.prog 48 #[.pointer (some ⟨p.k, 0, none⟩), .int .i64 t] w fun e w' => e = .returned (.int .i64 2) /\ Below w.heap.size w w' := by
 have hT := h.mT
 clear h
 go_enter Tryz.func48, Tryz.ntmps48
 rcases Int.lt_or_le t 0 with h0 | h0
 ·go_wp2
  go_ret
  exact ⟨rfl, Below.refl _ _⟩
 ·have h1 : (cs.length : Int) <= t := by omega
  clear ht
  go_wp2
  go_ret
  exact ⟨rfl, Below.refl _ _⟩
theorem rkdrain_none (ht : t < cs.length) (he : m.mem.waits t = []) (h : RkAt cs p m w) :
  Calls Tryz.prog 48 #[.pointer (some ⟨p.k, 0, none⟩), .int .i64 t] w fun e w' => e = .returned (.int .i64 5) /\ Below w.heap.size w w' := by
 have hT := h.mT
 have hM := h.mM
 have HD := hide (rk_drain_none h ht he)
 have ti : (t : Int) < cs.length := by omega
 have d0 : decide ((t : Int) < 0) = false := by simp
 clear h he ht
 go_enter Tryz.func48, Tryz.ntmps48
 go_wp2_with fail
 refine HD.out.mono ?_
 rintro e w1 ⟨rfl, hb1⟩
 go_wp2
 go_ret
 exact ⟨rfl, hb1⟩
theorem rkdrain_some {K t : Nat} (D : RkX cs p m K w) (ht : t < cs.length) {x : Wt} {l : List Wt} (he : m.mem.waits t = x :: l) :
  Calls Tryz.prog 48 #[.pointer (some ⟨p.k, 0, none⟩), .int .i64 t] w fun e w' => e = .returned (.int .i64 0) /\ ∃ r v, RkStep cs p m.mem w r v (m.drain1 t) w' := by
 have hT := D.at'.mT
 have hM := D.at'.mM
 have hf := D.faults
 have HD := hide (rk_drain D.at' ht he (D.waits ht x (by rw [he]; exact List.mem_cons_self)) (D.few ht))
 have ti : (t : Int) < cs.length := by omega
 have d0 : decide ((t : Int) < 0) = false := by simp
 obtain ⟨M', HM'⟩ : ∃ M', Hid (M' = m.drain1 t) := ⟨_, hide rfl⟩
 rw [<- HM'.out]
 have HR0 : Hid (M' = if m.mem.ar.has x.c x.g = true then m.setMem (m.mem.drained t x l) else (m.setMem (m.mem.drained t x l)).addFault 1) := by
  show _ = _
  rw [HM'.out]
  unfold Mk.drain1
  rw [he]
  by_cases hh : m.mem.ar.has x.c x.g = true
  ·simp only [if_pos hh]; rfl
  ·simp only [if_neg hh]; rfl
 clear D he ht HM'
 cases hh : m.mem.ar.has x.c x.g
 ·have HR : Hid (M' = (m.setMem (m.mem.drained t x l)).addFault 1) := by show _ = _; rw [HR0.out, hh]; rfl
  rw [hh, if_neg (by decide)] at HD
  clear HR0 hh
  go_enter Tryz.func48, Tryz.ntmps48
  go_wp2_with fail
  refine HD.out.mono ?_
  rintro e w1 ⟨rfl, r, k1⟩
  have HM1 := hide k1.at'
  have f1 : w1.cell? ⟨p.k, 3, none⟩ = some (.int .i64 m.faults) := HM1.out.mFaults
  have z1 : w1.frozen? ⟨p.k, 3, none⟩ = false := HM1.out.fk 3
  have kF : RkStep cs (p.to r p.mv) (m.setMem (m.mem.drained t x l)).mem w1 r p.mv ((m.setMem (m.mem.drained t x l)).addFault 1) (w1.setCell ⟨p.k, 3, none⟩ (.int .i64 ((m.faults : Int) + 1))) := HM1.out.addFault 1
  have HS := hide (k1.trans kF)
  clear k1 kF HM1 HD
  generalize m.faults = N at *
  go_wp2
  go_ret
  exact ⟨rfl, _, _, by rw [HR.out]; exact HS.out⟩
 ·have HR : Hid (M' = m.setMem (m.mem.drained t x l)) := by show _ = _; rw [HR0.out, hh]; rfl
  rw [hh, if_pos rfl] at HD
  clear HR0 hh
  go_enter Tryz.func48, Tryz.ntmps48
  go_wp2_with fail
  refine HD.out.mono ?_
  rintro e w1 ⟨rfl, r, k1⟩
  have HS := hide k1
  clear k1 HD
  go_wp2
  go_ret
  exact ⟨rfl, _, _, by rw [HR.out]; exact HS.out⟩
theorem rdrainO {K : Nat} (h : RkX cs p m K w) (t : Int) :
  Calls Tryz.prog 48 #[.pointer (some ⟨p.k, 0, none⟩), .int .i64 t] w fun e w' => e = .returned (.int .i64 (m.drainO cs t).1) /\ ∃ r v, RkStep cs p m.mem w r v (m.drainO cs t).2 w' := by
 unfold Mk.drainO
 by_cases h1 : 0 <= t /\ t < cs.length
 ·rw [if_pos h1]
  obtain ⟨u, rfl⟩ := Int.eq_ofNat_of_zero_le h1.1
  have hu : u < cs.length := by omega
  rw [Int.toNat_natCast]
  cases hd : m.mem.waits u with
  | nil =>
   rw [if_pos rfl]
   exact (rkdrain_none hu hd h.at').mono fun e w' ⟨e1, e2⟩ => ⟨e1, _, _, RkStep.of_below' h.at' e2⟩
  | cons x l =>
   rw [if_neg (by simp)]
   exact rkdrain_some h hu hd
 ·rw [if_neg h1]
  exact (rkdrain_no h1 h.at').mono fun e w' ⟨e1, e2⟩ => ⟨e1, _, _, RkStep.of_below' h.at' e2⟩
end
section
open Go.RowKit Go.Extern.Stop Go.Stop Go.Extern Go.Maps Go.WideMaps Go.Sort
theorem rturn_any {cs : List (List Ins)} {p : RkPl} {m : Mk} {K : Nat} {w : World} (h : RkX cs p m K w) (n : Int) :
  Calls Tryz.prog 25 #[.pointer (some ⟨p.k, 0, none⟩), .int .i64 n] w fun e w' => e = .returned (.int .i64 (m.turnO cs n).1) /\ ∃ r v, RkStep cs p m.mem w r v (m.turnO cs n).2 w' := by
 have hp := h.at'.mT
 have h6 := h.at'.few
 have h1 := h.right.some'
 have HM : Hid ((if n.tmod (2 * (cs.length : Int)) < 0 then n.tmod (2 * (cs.length : Int)) + 2 * (cs.length : Int) else n.tmod (2 * (cs.length : Int))) = n % (2 * (cs.length : Int))) := tmod_mod n (by omega)
 have b1 := Int.emod_nonneg n (show (2 * (cs.length : Int)) ≠ 0 by omega)
 have b2 := Int.emod_lt_of_pos n (show 0 < (2 * (cs.length : Int)) by omega)
 have HS : Hid (n % (2 * (cs.length : Int)) < cs.length -> Calls Tryz.prog 47 #[.pointer (some ⟨p.k, 0, none⟩), .int .i64 (n % (2 * (cs.length : Int)))] w fun e w' => e = .returned (.int .i64 (m.turnO cs n).1) /\ Hid (∃ r v, RkStep cs p m.mem w r v (m.turnO cs n).2 w')) := fun hlt => by
  unfold Mk.turnO
  rw [if_pos hlt]
  exact rstepO h _
 have HD : Hid (¬ n % (2 * (cs.length : Int)) < cs.length -> Calls Tryz.prog 48 #[.pointer (some ⟨p.k, 0, none⟩), .int .i64 (n % (2 * (cs.length : Int)) - cs.length)] w fun e w' => e = .returned (.int .i64 (m.turnO cs n).1) /\ Hid (∃ r v, RkStep cs p m.mem w r v (m.turnO cs n).2 w')) := fun hlt => by
  unfold Mk.turnO
  rw [if_neg hlt]
  exact rdrainO h _
 have w2 : IntKind.i64.wrap (2 * (cs.length : Int)) = 2 * (cs.length : Int) := by rw [IntKind.wrap_i64]; omega
 clear h
 generalize (m.turnO cs n).1 = E at *
 generalize (m.turnO cs n).2 = M' at *
 clear HM
 generalize hN : cs.length = N at *
 have HN := hide hN
 clear hN
 obtain ⟨k, hk⟩ : ∃ k : Int, (N : Int) = k := ⟨_, rfl⟩
 have k1 : 1 <= k := by omega
 have k2 : k <= 6 := by omega
 rw [hk] at HS HD w2 b1 b2
 obtain ⟨r, hr⟩ : ∃ r, n.tmod (2 * k) = r := ⟨_, rfl⟩
 have HMM := tmod_mod n (show 0 < 2 * k by omega)
 rw [hr] at HMM
 obtain ⟨f1, f2, w3, w4⟩ := turn_facts n k (by omega) (by omega) r hr
 have kz : ¬ (2 * k = 0) := by omega
 have k0 : (2 * k == 0) = false := by simp; omega
 have kd : decide (2 * k = 0) = false := by simp; omega
 have kn : ¬ k = 0 := by omega
 clear h6 h1
 by_cases hc : r < 0
 ·have hM := HMM
  rw [if_pos hc] at hM
  by_cases hd : n % (2 * k) < k
  ·have HS1 := hide (HS.out hd)
   clear HS HD HMM
   rw [<- hM] at HS1 hd
   clear hM b1 b2 f1 f2
   go_enter Tryz.func25, Tryz.ntmps25
   go_wp2_with fail
   refine HS1.out.mono ?_
   rintro e w1 ⟨rfl, h2⟩
   go_wp2
   go_ret
   exact ⟨rfl, h2.out⟩
  ·have HD1 := hide (HD.out hd)
   clear HS HD HMM
   have w5 : IntKind.i64.wrap (n % (2 * k) - k) = n % (2 * k) - k := by rw [IntKind.wrap_i64]; omega
   rw [<- hM] at HD1 hd w5
   clear hM b1 b2 f1 f2
   go_enter Tryz.func25, Tryz.ntmps25
   go_wp2_with fail
   refine HD1.out.mono ?_
   rintro e w1 ⟨rfl, h2⟩
   go_wp2
   go_ret
   exact ⟨rfl, h2.out⟩
 ·have hM := HMM
  rw [if_neg hc] at hM
  by_cases hd : n % (2 * k) < k
  ·have HS1 := hide (HS.out hd)
   clear HS HD HMM
   rw [<- hM] at HS1 hd
   clear hM b1 b2 f1 f2
   go_enter Tryz.func25, Tryz.ntmps25
   go_wp2_with fail
   refine HS1.out.mono ?_
   rintro e w1 ⟨rfl, h2⟩
   go_wp2
   go_ret
   exact ⟨rfl, h2.out⟩
  ·have HD1 := hide (HD.out hd)
   clear HS HD HMM
   have w5 : IntKind.i64.wrap (n % (2 * k) - k) = n % (2 * k) - k := by rw [IntKind.wrap_i64]; omega
   rw [<- hM] at HD1 hd w5
   clear hM b1 b2 f1 f2
   go_enter Tryz.func25, Tryz.ntmps25
   go_wp2_with fail
   refine HD1.out.mono ?_
   rintro e w1 ⟨rfl, h2⟩
   go_wp2
   go_ret
   exact ⟨rfl, h2.out⟩
variable {cs : List (List Ins)}
def restTo (cs : List (List Ins)) (m : Mk) (n : Nat) : Bool := (List.range n).all fun t => doneAt (cs.getD t []) (m.pc t) && (m.mem.waits t).isEmpty
theorem restTo_succ (cs : List (List Ins)) (m : Mk) (n : Nat) : restTo cs m (n + 1) = (restTo cs m n && (doneAt (cs.getD n []) (m.pc n) && (m.mem.waits n).isEmpty)) := by
 unfold restTo
 rw [List.range_succ, List.all_append]
 simp
theorem restTo_no {m : Mk} {n t : Nat} (ht : t < n) (h : (doneAt (cs.getD t []) (m.pc t) && (m.mem.waits t).isEmpty) = false) : restTo cs m n = false := by
 unfold restTo
 cases hb : (List.range n).all fun t => doneAt (cs.getD t []) (m.pc t) && (m.mem.waits t).isEmpty with
 | false => rfl
 | true =>
  have := List.all_eq_true.1 hb t (List.mem_range.2 ht)
  rw [h] at this; cases this
theorem rrest_any {p : RkPl} {m : Mk} {w : World} (h : RkAt cs p m w) :
  Calls Tryz.prog 26 #[.pointer (some ⟨p.k, 0, none⟩)] w fun e w' => e = .returned (.bool (restTo cs m cs.length)) /\ Below w.heap.size w w' := by
 have HH := hide h
 have h6 := h.few
 clear h
 go_enter Tryz.func26, Tryz.ntmps26
 go_wp2_with fail
 go_loopw [3, 4] (fun i _ wr => ∃ j : Nat, j <= cs.length /\ i = .int .i64 j /\ Hid (restTo cs m j = true) /\ Below w.heap.size w wr) (fun i _ _ => cs.length - (intOf i).toNat)
 case atStart => exact ⟨0, Nat.zero_le _, rfl, rfl, Below.refl _ _⟩
 case round =>
  obtain ⟨j, hj, rfl, HR, HB⟩ := hrel
  have hr := HH.out.below HB
  have hT := hr.mT
  by_cases hlt : j < cs.length
  ·have ji : (j : Int) < cs.length := by omega
   obtain ⟨L, hL⟩ : ∃ L, cs[j]? = some L := ⟨_, List.getElem?_eq_getElem hlt⟩
   have hd : cs.getD j [] = L := by rw [List.getD_eq_getElem?_getD, hL]; rfl
   have HD := hide (rdone_any hL hr)
   have HS := hide (restTo_succ cs m j)
   have HN := hide (fun e => restTo_no (cs := cs) (m := m) hlt e)
   rw [hd] at HS HN
   have HQ := hide hr
   clear hr hd hL
   cases hdd : doneAt L (m.pc j)
   ·rw [hdd] at HD HN
    have HF := hide (HN.out rfl)
    clear HN HS hdd
    go_wp2_with fail
    refine HD.out.mono ?_
    rintro e w1 ⟨rfl, hb1⟩
    have HB1 := below_step HB hb1
    clear HB hb1 HD HQ
    go_wp2_with fail
    go_ret
    exact ⟨by rw [HF.out]; rfl, HB1⟩
   ·rw [hdd] at HD HN HS
    clear hdd
    go_wp2_with fail
    refine HD.out.mono ?_
    rintro e w1 ⟨rfl, hb1⟩
    have HB1 := below_step HB hb1
    have hq := HQ.out.below hb1
    have hM := hq.mM
    have hWs := hq.mem.mWaits
    have htc := hq.mem.tcap
    have hthr := hq.thr
    obtain ⟨hv, hown⟩ := hq.mem.waits j (by rw [hthr]; exact hlt)
    obtain ⟨adv, cpv, hvs, -, -, -⟩ := ownsRow_shape hown
    rw [hvs] at hv
    rw [hthr] at hWs htc
    have jt : (j : Int) < p.rp.tcap := by omega
    clear HB hb1 HD HQ hq hown hvs hthr
    cases hl : m.mem.waits j with
    | nil =>
     rw [hl] at hv HS
     have HS2 : Hid (restTo cs m (j + 1) = true) := hide (by rw [HS.out, HR.out]; rfl)
     clear HS HN HR hl
     go_wp2_with fail
     go_roundw
     case rel => exact ⟨j + 1, by omega, by go_num, HS2, HB1⟩
     case measure => simp [intOf]; omega
    | cons x l =>
     rw [hl] at hv HN
     have HF := hide (HN.out rfl)
     have hlen : 0 < (((x :: l).length : Nat) : Int) := by rw [List.length_cons]; omega
     generalize (x :: l).length = len at *
     clear HS HN HR hl
     go_wp2_with fail
     go_ret
     exact ⟨by rw [HF.out]; rfl, HB1⟩
  ·obtain rfl : j = cs.length := by omega
   clear hr
   go_wp2
   go_ret
   exact ⟨by rw [HR.out]; rfl, HB⟩
end
section
open Go.RowKit Go.Extern.Stop Go.Stop Go.Extern Go.Maps Go.WideMaps Go.Sort
def fl0 : Fl := ⟨false, false, false⟩
theorem flOp_snoc {L : List OpI} {k : Nat} {x : OpI} (h : L[k]? = some x) : (L.take (k + 1)).foldl flOp fl0 = flOp ((L.take k).foldl flOp fl0) x := by
 rw [List.take_add_one, h, List.foldl_append]
 rfl
theorem rdN_app : ∀ l l' : List OpI, rdN (l ++ l') = rdN l + rdN l'
 | [], l' => (Nat.zero_add _).symm
 | x :: l, l' => by
  show (if _ then 1 else 0) + rdN (l ++ l') = (if _ then 1 else 0) + rdN l + rdN l'
  rw [rdN_app l l']
  omega
theorem rdN_snoc {L : List OpI} {k : Nat} {x : OpI} (h : L[k]? = some x) : rdN (L.take (k + 1)) = rdN (L.take k) + if kn x.kind.toList = 6 then 1 else 0 := by
 rw [List.take_add_one, h, rdN_app]
 rfl
theorem kn_rd (s : List UInt8) : kn s = 6 ↔ (s == [114, 101, 97, 100]) = true := by
 rcases kcases s with ⟨h, hk⟩ | ⟨h, hk⟩ | ⟨h, hk⟩ | ⟨h, hk⟩ | ⟨h, hk⟩ | ⟨h, hk⟩ | ⟨h, hk⟩ | ⟨h, hk⟩ | ⟨h, hk⟩ | ⟨h, hk⟩ <;> obtain ⟨-, -, -, -, -, e, -, -, -⟩ := h <;> rw [hk, e] <;> decide
def keptB (L : List OpI) : Bool := (L.foldl flOp fl0).r || (L.foldl flOp fl0).k
theorem retires_any {ad : Option Addr} {l : List OpI} {cap : Nat} {w : World} (h : opsAt ad l w) (hl : l.length <= 1000) :
  Calls Tryz.prog 23 #[.slice ad l.length cap] w fun e w' => e = .returned (.bool (keptB l)) /\ w' = w := by
 have HH := hide h
 obtain ⟨n, hn⟩ : ∃ n, Hid (l.length = n) := ⟨_, hide rfl⟩
 have HE : Hid (l.take n = l) := hide (by rw [<- hn.out, List.take_length])
 rw [hn.out] at hl ⊢
 clear h
 go_enter Tryz.func23, Tryz.ntmps23
 go_wp2_with fail
 go_loopw [3, 4, 5, 17, 19, 21, 23] (fun o k i _ _ _ _ wr => ∃ j : Nat, ∃ s : Fl, j <= n /\ i = .int .i64 j /\ o = .bool s.r /\ k = .bool s.k /\ Hid ((l.take j).foldl flOp fl0 = s) /\ w = wr) (fun _ _ i _ _ _ _ _ => n - (intOf i).toNat)
 case atStart => exact ⟨0, fl0, Nat.zero_le _, rfl, rfl, rfl, rfl, (by first | rfl | trivial)⟩
 case round =>
  obtain ⟨j, s, hj, rfl, rfl, rfl, HS, rfl⟩ := hrel
  obtain ⟨sr, sw, sk⟩ := s
  dsimp only
  by_cases hlt : j < n
  ·have ji : (j : Int) < n := by omega
   obtain ⟨x, hx⟩ : ∃ x, l[j]? = some x := ⟨_, List.getElem?_eq_getElem (by rw [hn.out]; exact hlt)⟩
   have HN := hide (flOp_snoc hx)
   rw [HS.out] at HN
   obtain ⟨b, off, rfl, c0, c1⟩ := HH.out j x hx
   obtain ⟨kd, nn⟩ := x
   dsimp only at c0 c1
   unfold flOp at HN
   dsimp only at HN
   clear hx HS
   rcases kcases kd.toList with ⟨h, hkk⟩ | ⟨h, hkk⟩ | ⟨h, hkk⟩ | ⟨h, hkk⟩ | ⟨h, hkk⟩ | ⟨h, hkk⟩ | ⟨h, hkk⟩ | ⟨h, hkk⟩ | ⟨h, hkk⟩ | ⟨h, hkk⟩
   all_goals
    rw [hkk] at HN
    clear hkk
    obtain ⟨e1, e2, e3, e4, e5, e6, e7, e8, e9⟩ := h
    go_wp2_with fail
    go_roundw
    case rel => exact ⟨j + 1, _, by omega, by go_num, rfl, rfl, HN, (by first | rfl | trivial)⟩
    case measure => simp [intOf]; omega
  ·obtain rfl : j = n := by omega
   rw [HE.out] at HS
   cases sr
   ·go_wp2_with fail
    go_ret
    exact ⟨by unfold keptB; rw [HS.out]; rfl, rfl⟩
   ·go_wp2_with fail
    go_ret
    exact ⟨by unfold keptB; rw [HS.out]; rfl, rfl⟩
def rdS (cl : List (List OpI)) (j : Nat) : Nat := sm j fun t => rdN (cl.getD t [])
def frS (cl : List (List OpI)) (j : Nat) : Bool := (List.range j).all fun t => !keptB (cl.getD t [])
theorem rdS_succ {cl : List (List OpI)} {j : Nat} {L : List OpI} (h : cl[j]? = some L) : rdS cl (j + 1) = rdS cl j + rdN L := by
 show rdS cl j + rdN (cl.getD j []) = _
 rw [List.getD_eq_getElem?_getD, h]
 rfl
theorem frS_succ {cl : List (List OpI)} {j : Nat} {L : List OpI} (h : cl[j]? = some L) : frS cl (j + 1) = (frS cl j && !keptB L) := by
 unfold frS
 rw [List.range_succ, List.all_append]
 have e : cl.getD j [] = L := by rw [List.getD_eq_getElem?_getD, h]; rfl
 simp [h]
def FinC (cs : List (List Ins)) (m0 : Mk) (k : Nat) (fr : Bool) (m : Mk) : Prop := m.faults = 0 /\ restTo cs m cs.length = true /\ m.marks.length = k /\ (fr = true -> m.mem.ar.count = m0.mem.ar.count)
theorem cl_fin {f : Nat} (hf : 1 <= f /\ f <= 4) {cl : List (List OpI)} (h : (eachE cl).1 = 0) (hs : eachS cl = true) (h3 : cl.length <= 3) (hk : ∀ L ∈ cl, L.length <= 3) :
  FinC (cl.map (clC f)) ((clSta f cl.length).mach cl.length) (rdS cl cl.length) (frS cl cl.length) (((clSta f cl.length).mach cl.length).runO (cl.map (clC f)) (upto 20000)).2 := by
 obtain ⟨e1, e2, e3, e4⟩ := cl_ends hf h hs h3 hk
 refine ⟨e1, ?_, e3, fun hfr => e4 fun t ht => ?_⟩
 ·unfold restTo
  rw [List.all_eq_true, List.length_map]
  intro t ht
  rw [List.mem_range] at ht
  obtain ⟨g1, g2⟩ := e2 t ht
  have e : (cl.map (clC f)).getD t [] = clCs f cl t := by rw [List.getD_eq_getElem?_getD, clCs_at f cl t ht]; rfl
  rw [e, g1, g2]
  rfl
 ·have := List.all_eq_true.1 hfr t (List.mem_range.2 ht)
  unfold keptB at this
  simp only [Bool.not_eq_true', Bool.or_eq_false_iff] at this
  exact this
theorem upto_snoc (k : Nat) : upto (k + 1) = upto k ++ [(k : Int)] := by
 rw [upto_add]
 rfl
def ERel (cs : List (List Ins)) (p : RkPl) (m : Mk) (w : World) (k : Nat) (wr : World) : Prop := ∃ r v, RkStep cs p m.mem w r v (m.runO cs (upto k)).2 wr /\ RkX cs (p.to r v) (m.runO cs (upto k)).2 (1 + k) wr
theorem ERel.turn {cs : List (List Ins)} {p : RkPl} {m : Mk} {w : World} {k : Nat} {wr : World} (h : ERel cs p m w k wr) (hk : k <= 20000) :
  Calls Tryz.prog 25 #[.pointer (some ⟨p.k, 0, none⟩), .int .i64 k] wr fun e w' => ∃ c : Int, e = .returned (.int .i64 c) /\ ERel cs p m w (k + 1) w' := by
 obtain ⟨r, v, h1, h2⟩ := h
 refine (rturn_any h2 k).mono ?_
 rintro e w' ⟨he, r', v', h3⟩
 refine ⟨_, he, ?_⟩
 unfold ERel
 rw [upto_snoc, Mk.runO_snoc]
 exact ⟨r', v', h1.trans h3, h2.of h3 (h2.ok.turnO h2.right k (by omega)) (by omega)⟩
end
end Go.Proofs.YtaiigfcfmcicjaaGreatDoor
