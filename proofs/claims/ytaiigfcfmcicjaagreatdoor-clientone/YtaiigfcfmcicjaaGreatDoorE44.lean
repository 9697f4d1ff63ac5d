import Derived.Test.YtaiigfcfmcicjaaGreatDoorE40
import Derived.Test.YtaiigfcfmcicjaaGreatDoorE41
import Derived.Test.YtaiigfcfmcicjaaGreatDoorE42
import Derived.Test.YtaiigfcfmcicjaaGreatDoorE43
import Derived.Test.YtaiigfcfmcicjaaGreatDoorE13
import Derived.Test.YtaiigfcfmcicjaaGreatDoorE38
import Derived.Test.YtaiigfcfmcicjaaGreatDoorE34
import Derived.Test.YtaiigfcfmcicjaaGreatDoorE24
import Derived.Test.YtaiigfcfmcicjaaGreatDoorE28
import Derived.Test.YtaiigfcfmcicjaaGreatDoorE20
import Derived.Test.YtaiigfcfmcicjaaGreatDoorE03
import Derived.Test.YtaiigfcfmcicjaaGreatDoorE23
import Derived.Deep.QuietTactic
import Derived.Test.YtaiigfcfmcicjaaGreatDoorE27
namespace Go.Proofs.YtaiigfcfmcicjaaGreatDoor
set_option maxRecDepth 100000
set_option maxHeartbeats 8000000
section
open Go.RowKit Go.Extern.Stop Go.Stop Go.Extern Go.Sort
theorem rstep_any {cs : List (List Ins)} {p : RkPl} {m : Mk} {K t : Nat} {w : World} (D : RkX cs p m K w) {L : List Ins} (ht : cs[t]? = some L) (hd : doneAt L (m.pc t) = false) :
  Calls Tryz.prog 47 #[.pointer (some ⟨p.k, 0, none⟩), .int .i64 t] w fun e w' => e = .returned (.int .i64 0) /\ ∃ r v, RkStep cs p m.mem w r v (m.step L t) w' := by
 obtain ⟨x, hx, hst⟩ := doneAt_no hd
 obtain ⟨-, hI⟩ := D.right.right t L ht
 obtain ⟨hok, -⟩ := hI _ x hx
 rcases kinds hok with ⟨e, ⟨i0, l0, g0⟩, -⟩ | ⟨e, ⟨i0, l0, g0⟩, ⟨i1, l1, g1⟩⟩ | ⟨e, ⟨i0, l0, g0⟩, ⟨i1, l1, g1⟩, ⟨i2, l2, g2⟩⟩ | ⟨e, ⟨i0, l0, g0⟩, ⟨i1, l1, g1⟩, ⟨i2, l2, g2⟩⟩ | ⟨e, ⟨i0, l0, g0⟩, ⟨i1, l1, g1⟩, ⟨i2, l2, g2⟩⟩ | ⟨e, ⟨i0, l0, g0⟩, ⟨i1, l1, g1⟩, ⟨i2, l2, g2⟩⟩ | ⟨e, ⟨i0, l0, g0⟩, ⟨i1, l1, g1⟩, ⟨i2, l2, g2⟩⟩ | ⟨e, ⟨i0, l0, g0⟩, ⟨i1, l1, g1⟩, ⟨i2, l2, g2⟩⟩ | ⟨e, ⟨i0, l0, g0⟩, ⟨i1, l1, g1⟩, ⟨i2, l2, g2⟩⟩ | ⟨e, ⟨i0, l0, g0⟩, ⟨i1, l1, g1⟩, ⟨i2, l2, g2⟩⟩ | ⟨e, ⟨i0, l0, g0⟩⟩ | ⟨e, ⟨i0, l0, g0⟩⟩ | ⟨e, ⟨i0, l0, g0⟩⟩ | ⟨e, ⟨i0, l0, g0⟩⟩ | e | e | e | ⟨e, ⟨i0, l0, g0⟩, ⟨i1, g1⟩⟩ | ⟨e, ⟨i0, l0, g0⟩, ⟨i1, l1, g1⟩, ⟨i2, g2⟩⟩ | ⟨e, ⟨i0, g0⟩⟩ | ⟨e, -⟩
 ·exact rstep_const D ht hx e l0 g0
 ·exact rstep_move D ht hx e l0 g0 l1 g1
 ·exact rstep_add D ht hx e l0 g0 l1 g1 l2 g2
 ·exact rstep_sub D ht hx e l0 g0 l1 g1 l2 g2
 ·exact rstep_and D ht hx e l0 g0 l1 g1 l2 g2
 ·exact rstep_xor D ht hx e l0 g0 l1 g1 l2 g2
 ·exact rstep_load D ht hx e l0 g0 l1 g1 l2 g2
 ·exact rstep_store D ht hx e l0 g0 l1 g1 l2 g2
 ·exact rstep_swap D ht hx e l0 g0 l1 g1 l2 g2
 ·exact rstep_cas D ht hx e l0 g0 l1 g1 l2 g2
 ·exact rstep_alloc D ht hx e l0 g0
 ·exact rstep_free D ht hx e l0 g0
 ·exact rstep_mark D ht hx e l0 g0
 ·exact rstep_need D ht hx e l0 g0
 ·exact rstep_fence D ht hx e
 ·exact rstep_force D ht hx e
 ·rw [e, toList_bl] at hst; cases hst
 ·exact rstep_zero D ht hx e l0 g0 g1
 ·exact rstep_same D ht hx e l0 g0 l1 g1 g2
 ·exact rstep_goto D ht hx e g0
 ·exact rstep_label D ht hx e
theorem rdone_any {cs : List (List Ins)} {p : RkPl} {m : Mk} {t : Nat} {L : List Ins} (ht : cs[t]? = some L) {w : World} (h : RkAt cs p m w) :
  Calls Tryz.prog 27 #[.pointer (some ⟨p.k, 0, none⟩), .int .i64 t] w fun e w' => e = .returned (.bool (doneAt L (m.pc t))) /\ Below w.heap.size w w' := by
 unfold doneAt
 cases hx : L[m.pc t]? with
 | none =>
  have : L.length <= m.pc t := by
   rcases Nat.lt_or_ge (m.pc t) L.length with h1 | h1
   ·rw [List.getElem?_eq_getElem h1] at hx; cases hx
   ·exact h1
  exact rdone_end ht this h
 | some x => exact rdone_at ht hx h
theorem rstep_no {cs : List (List Ins)} {p : RkPl} {m : Mk} {t : Int} (ht : ¬ (0 <= t /\ t < cs.length)) {w : World} (h : RkAt cs p m w) :
  Calls Tryz.prog 47 #[.pointer (some ⟨p.k, 0, none⟩), .int .i64 t] w fun e w' => e = .returned (.int .i64 2) /\ Below w.heap.size w w' := by
 have hT := h.mT
 clear h
 go_enter Tryz.func47, Tryz.ntmps47
 rcases Int.lt_or_le t 0 with h0 | h0
 ·go_wp2
  go_ret
  exact ⟨rfl, Below.refl _ _⟩
 ·have h1 : (cs.length : Int) <= t := by omega
  clear ht
  go_wp2
  go_ret
  exact ⟨rfl, Below.refl _ _⟩
theorem rstep_done {cs : List (List Ins)} {p : RkPl} {m : Mk} {t : Nat} {L : List Ins} (ht : cs[t]? = some L) (hd : doneAt L (m.pc t) = true) {w : World} (h : RkAt cs p m w) :
  Calls Tryz.prog 47 #[.pointer (some ⟨p.k, 0, none⟩), .int .i64 t] w fun e w' => e = .returned (.int .i64 9) /\ Below w.heap.size w w' := by
 have hT := h.mT
 have HD := hide (rdone_any ht h)
 rw [hd] at HD
 have htl := lt_of_get ht
 have ti : (t : Int) < cs.length := by omega
 have d0 : decide ((t : Int) < 0) = false := by simp
 clear h hd ht
 go_enter Tryz.func47, Tryz.ntmps47
 go_wp2_with fail
 refine HD.out.mono ?_
 rintro e w1 ⟨rfl, hb1⟩
 go_wp2
 go_ret
 exact ⟨rfl, hb1⟩
theorem rstepO {cs : List (List Ins)} {p : RkPl} {m : Mk} {K : Nat} {w : World} (h : RkX cs p m K w) (t : Int) :
  Calls Tryz.prog 47 #[.pointer (some ⟨p.k, 0, none⟩), .int .i64 t] w fun e w' => e = .returned (.int .i64 (m.stepO cs t).1) /\ ∃ r v, RkStep cs p m.mem w r v (m.stepO cs t).2 w' := by
 unfold Mk.stepO
 by_cases h1 : 0 <= t /\ t < cs.length
 ·rw [if_pos h1]
  obtain ⟨u, rfl⟩ := Int.eq_ofNat_of_zero_le h1.1
  have hu : u < cs.length := by omega
  rw [Int.toNat_natCast]
  cases hd : doneAt (cs.getD u []) (m.pc u)
  ·rw [if_neg (by decide)]
   exact rstep_any h (getD_some hu) hd
  ·rw [if_pos rfl]
   exact (rstep_done (getD_some hu) hd h.at').mono fun e w' ⟨e1, e2⟩ => ⟨e1, _, _, RkStep.of_below' h.at' e2⟩
 ·rw [if_neg h1]
  exact (rstep_no h1 h.at').mono fun e w' ⟨e1, e2⟩ => ⟨e1, _, _, RkStep.of_below' h.at' e2⟩
theorem rkdrain_no {cs : List (List Ins)} {p : RkPl} {m : Mk} {t : Int} (ht : ¬ (0 <= t /\ t < cs.length)) {w : World} (h : RkAt cs p m w) :
  Calls Tryz.prog 48 #[.pointer (some ⟨p.k, 0, none⟩), .int .i64 t] w fun e w' => e = .returned (.int .i64 2) /\ Below w.heap.size w w' := by
 have hT := h.mT
 clear h
 go_enter Tryz.func48, Tryz.ntmps48
 rcases Int.lt_or_le t 0 with h0 | h0
 ·go_wp2
  go_ret
  exact ⟨rfl, Below.refl _ _⟩
 ·have h1 : (cs.length : Int) <= t := by omega
  clear ht
  go_wp2
  go_ret
  exact ⟨rfl, Below.refl _ _⟩
theorem rkdrain_none {cs : List (List Ins)} {p : RkPl} {m : Mk} {t : Nat} (ht : t < cs.length) (he : m.mem.waits t = []) {w : World} (h : RkAt cs p m w) :
  Calls Tryz.prog 48 #[.pointer (some ⟨p.k, 0, none⟩), .int .i64 t] w fun e w' => e = .returned (.int .i64 5) /\ Below w.heap.size w w' := by
 have hT := h.mT
 have hM := h.mM
 have HD := hide (rk_drain_none h ht he)
 have ti : (t : Int) < cs.length := by omega
 have d0 : decide ((t : Int) < 0) = false := by simp
 clear h he ht
 go_enter Tryz.func48, Tryz.ntmps48
 go_wp2_with fail
 refine HD.out.mono ?_
 rintro e w1 ⟨rfl, hb1⟩
 go_wp2
 go_ret
 exact ⟨rfl, hb1⟩
theorem rkdrain_some {cs : List (List Ins)} {p : RkPl} {m : Mk} {K t : Nat} {w : World} (D : RkX cs p m K w) (ht : t < cs.length) {x : Wt} {l : List Wt} (he : m.mem.waits t = x :: l) :
  Calls Tryz.prog 48 #[.pointer (some ⟨p.k, 0, none⟩), .int .i64 t] w fun e w' => e = .returned (.int .i64 0) /\ ∃ r v, RkStep cs p m.mem w r v (m.drain1 t) w' := by
 have hT := D.at'.mT
 have hM := D.at'.mM
 have hf := D.faults
 have HD := hide (rk_drain D.at' ht he (D.waits ht x (by rw [he]; exact List.mem_cons_self)) (D.few ht))
 have ti : (t : Int) < cs.length := by omega
 have d0 : decide ((t : Int) < 0) = false := by simp
 obtain ⟨M', HM'⟩ : ∃ M', Hid (M' = m.drain1 t) := ⟨_, hide rfl⟩
 rw [<- HM'.out]
 have HR0 : Hid (M' = if m.mem.ar.has x.c x.g = true then m.setMem (m.mem.drained t x l) else (m.setMem (m.mem.drained t x l)).addFault 1) := by
  show _ = _
  rw [HM'.out]
  unfold Mk.drain1
  rw [he]
  by_cases hh : m.mem.ar.has x.c x.g = true
  ·simp only [if_pos hh]; rfl
  ·simp only [if_neg hh]; rfl
 clear D he ht HM'
 cases hh : m.mem.ar.has x.c x.g
 ·have HR : Hid (M' = (m.setMem (m.mem.drained t x l)).addFault 1) := by show _ = _; rw [HR0.out, hh]; rfl
  rw [hh, if_neg (by decide)] at HD
  clear HR0 hh
  go_enter Tryz.func48, Tryz.ntmps48
  go_wp2_with fail
  refine HD.out.mono ?_
  rintro e w1 ⟨rfl, r, k1⟩
  have HM1 := hide k1.at'
  have f1 : w1.cell? ⟨p.k, 3, none⟩ = some (.int .i64 m.faults) := HM1.out.mFaults
  have z1 : w1.frozen? ⟨p.k, 3, none⟩ = false := HM1.out.fk 3
  have kF : RkStep cs (p.to r p.mv) (m.setMem (m.mem.drained t x l)).mem w1 r p.mv ((m.setMem (m.mem.drained t x l)).addFault 1) (w1.setCell ⟨p.k, 3, none⟩ (.int .i64 ((m.faults : Int) + 1))) := HM1.out.addFault 1
  have HS := hide (k1.trans kF)
  clear k1 kF HM1 HD
  generalize m.faults = N at *
  go_wp2
  go_ret
  exact ⟨rfl, _, _, by rw [HR.out]; exact HS.out⟩
 ·have HR : Hid (M' = m.setMem (m.mem.drained t x l)) := by show _ = _; rw [HR0.out, hh]; rfl
  rw [hh, if_pos rfl] at HD
  clear HR0 hh
  go_enter Tryz.func48, Tryz.ntmps48
  go_wp2_with fail
  refine HD.out.mono ?_
  rintro e w1 ⟨rfl, r, k1⟩
  have HS := hide k1
  clear k1 HD
  go_wp2
  go_ret
  exact ⟨rfl, _, _, by rw [HR.out]; exact HS.out⟩
theorem rdrainO {cs : List (List Ins)} {p : RkPl} {m : Mk} {K : Nat} {w : World} (h : RkX cs p m K w) (t : Int) :
  Calls Tryz.prog 48 #[.pointer (some ⟨p.k, 0, none⟩), .int .i64 t] w fun e w' => e = .returned (.int .i64 (m.drainO cs t).1) /\ ∃ r v, RkStep cs p m.mem w r v (m.drainO cs t).2 w' := by
 unfold Mk.drainO
 by_cases h1 : 0 <= t /\ t < cs.length
 ·rw [if_pos h1]
  obtain ⟨u, rfl⟩ := Int.eq_ofNat_of_zero_le h1.1
  have hu : u < cs.length := by omega
  rw [Int.toNat_natCast]
  cases hd : m.mem.waits u with
  | nil =>
   rw [if_pos rfl]
   exact (rkdrain_none hu hd h.at').mono fun e w' ⟨e1, e2⟩ => ⟨e1, _, _, RkStep.of_below' h.at' e2⟩
  | cons x l =>
   rw [if_neg (by simp)]
   exact rkdrain_some h hu hd
 ·rw [if_neg h1]
  exact (rkdrain_no h1 h.at').mono fun e w' ⟨e1, e2⟩ => ⟨e1, _, _, RkStep.of_below' h.at' e2⟩
end
section
open Go.RowKit Go.Extern.Stop Go.Stop Go.Extern Go.Maps Go.WideMaps Go.Sort
theorem rturn_any {cs : List (List Ins)} {p : RkPl} {m : Mk} {K : Nat} {w : World} (h : RkX cs p m K w) (n : Int) :
  Calls Tryz.prog 25 #[.pointer (some ⟨p.k, 0, none⟩), .int .i64 n] w fun e w' => e = .returned (.int .i64 (m.turnO cs n).1) /\ ∃ r v, RkStep cs p m.mem w r v (m.turnO cs n).2 w' := by
 have hp := h.at'.mT
 have h6 := h.at'.few
 have h1 := h.right.some'
 have HM : Hid ((if n.tmod (2 * (cs.length : Int)) < 0 then n.tmod (2 * (cs.length : Int)) + 2 * (cs.length : Int) else n.tmod (2 * (cs.length : Int))) = n % (2 * (cs.length : Int))) := tmod_mod n (by omega)
 have b1 := Int.emod_nonneg n (show (2 * (cs.length : Int)) ≠ 0 by omega)
 have b2 := Int.emod_lt_of_pos n (show 0 < (2 * (cs.length : Int)) by omega)
 have HS : Hid (n % (2 * (cs.length : Int)) < cs.length -> Calls Tryz.prog 47 #[.pointer (some ⟨p.k, 0, none⟩), .int .i64 (n % (2 * (cs.length : Int)))] w fun e w' => e = .returned (.int .i64 (m.turnO cs n).1) /\ Hid (∃ r v, RkStep cs p m.mem w r v (m.turnO cs n).2 w')) := fun hlt => by
  unfold Mk.turnO
  rw [if_pos hlt]
  exact rstepO h _
 have HD : Hid (¬ n % (2 * (cs.length : Int)) < cs.length -> Calls Tryz.prog 48 #[.pointer (some ⟨p.k, 0, none⟩), .int .i64 (n % (2 * (cs.length : Int)) - cs.length)] w fun e w' => e = .returned (.int .i64 (m.turnO cs n).1) /\ Hid (∃ r v, RkStep cs p m.mem w r v (m.turnO cs n).2 w')) := fun hlt => by
  unfold Mk.turnO
  rw [if_neg hlt]
  exact rdrainO h _
 have w2 : IntKind.i64.wrap (2 * (cs.length : Int)) = 2 * (cs.length : Int) := by rw [IntKind.wrap_i64]; omega
 clear h
 generalize (m.turnO cs n).1 = E at *
 generalize (m.turnO cs n).2 = M' at *
 clear HM
 generalize hN : cs.length = N at *
 have HN := hide hN
 clear hN
 obtain ⟨k, hk⟩ : ∃ k : Int, (N : Int) = k := ⟨_, rfl⟩
 have k1 : 1 <= k := by omega
 have k2 : k <= 6 := by omega
 rw [hk] at HS HD w2 b1 b2
 obtain ⟨r, hr⟩ : ∃ r, n.tmod (2 * k) = r := ⟨_, rfl⟩
 have HMM := tmod_mod n (show 0 < 2 * k by omega)
 rw [hr] at HMM
 obtain ⟨f1, f2, w3, w4⟩ := turn_facts n k (by omega) (by omega) r hr
 have kz : ¬ (2 * k = 0) := by omega
 have k0 : (2 * k == 0) = false := by simp; omega
 have kd : decide (2 * k = 0) = false := by simp; omega
 have kn : ¬ k = 0 := by omega
 clear h6 h1
 by_cases hc : r < 0
 ·have hM := HMM
  rw [if_pos hc] at hM
  by_cases hd : n % (2 * k) < k
  ·have HS1 := hide (HS.out hd)
   clear HS HD HMM
   rw [<- hM] at HS1 hd
   clear hM b1 b2 f1 f2
   go_enter Tryz.func25, Tryz.ntmps25
   go_wp2_with fail
   refine HS1.out.mono ?_
   rintro e w1 ⟨rfl, h2⟩
   go_wp2
   go_ret
   exact ⟨rfl, h2.out⟩
  ·have HD1 := hide (HD.out hd)
   clear HS HD HMM
   have w5 : IntKind.i64.wrap (n % (2 * k) - k) = n % (2 * k) - k := by rw [IntKind.wrap_i64]; omega
   rw [<- hM] at HD1 hd w5
   clear hM b1 b2 f1 f2
   go_enter Tryz.func25, Tryz.ntmps25
   go_wp2_with fail
   refine HD1.out.mono ?_
   rintro e w1 ⟨rfl, h2⟩
   go_wp2
   go_ret
   exact ⟨rfl, h2.out⟩
 ·have hM := HMM
  rw [if_neg hc] at hM
  by_cases hd : n % (2 * k) < k
  ·have HS1 := hide (HS.out hd)
   clear HS HD HMM
   rw [<- hM] at HS1 hd
   clear hM b1 b2 f1 f2
   go_enter Tryz.func25, Tryz.ntmps25
   go_wp2_with fail
   refine HS1.out.mono ?_
   rintro e w1 ⟨rfl, h2⟩
   go_wp2
   go_ret
   exact ⟨rfl, h2.out⟩
  ·have HD1 := hide (HD.out hd)
   clear HS HD HMM
   have w5 : IntKind.i64.wrap (n % (2 * k) - k) = n % (2 * k) - k := by rw [IntKind.wrap_i64]; omega
   rw [<- hM] at HD1 hd w5
   clear hM b1 b2 f1 f2
   go_enter Tryz.func25, Tryz.ntmps25
   go_wp2_with fail
   refine HD1.out.mono ?_
   rintro e w1 ⟨rfl, h2⟩
   go_wp2
   go_ret
   exact ⟨rfl, h2.out⟩
end
section
open Go.RowKit Go.Extern.Stop Go.Stop Go.Extern Go.Maps Go.WideMaps Go.Sort
theorem clNewX {f : Nat} (hf : 1 <= f /\ f <= 4) {cl : List (List OpI)} (h : (eachE cl).1 = 0) {ai ar ad : Option Addr} {ci cr cap : Nat} {w0 w : World} (h0 : Below w0.heap.size w0 w) (hs : StaAt (clSta f cl.length) ⟨ai, ci, ar, cr⟩ w) (hl : codesAt ad (cl.map (clC f)) w0) :
  Calls Tryz.prog 20 #[.agg #[.int .i64 64, .slice ai (graceI f (clCells.map pad4) cl.length).length ci, .slice ar (rowsG 2 cl.length cl.length).length cr], .slice ad cl.length cap] w fun e w' => ∃ p : RkPl, e = .returned (.pointer (some ⟨p.k, 0, none⟩)) /\ Hid (RkX (cl.map (clC f)) p ((clSta f cl.length).mach cl.length) 1 w' /\ Below w.heap.size w w' /\ ∀ b, p.fp cl.length ((clSta f cl.length).mach cl.length).mem b -> w.heap.size <= b) := by
 obtain ⟨-, h6, h1, -⟩ := eachE_ok h
 have hl' : (cl.map (clC f)).length = cl.length := List.length_map _
 have h' := newMachine_any (cap := cap) h0 hs hl (show (1 : Int) <= 64 by decide) (show (64 : Int) <= 64 by decide) (by rw [hl']; exact h1) (by rw [hl']; exact h6) (by rw [hl']; exact cl_fits h1 h6 hf)
 rw [hl'] at h'
 refine h'.mono ?_
 rintro e w' ⟨p, he, hh⟩
 obtain ⟨g1, -, g3, g4⟩ := hh.out
 exact ⟨p, he, hide ⟨⟨g1, by rw [hl']; exact Sta.mach_ok (cl_fits h1 h6 hf) (by show (64 : Int) <= 64; decide) h6, cl_right hf h, by decide⟩, g3, g4⟩⟩
end
end Go.Proofs.YtaiigfcfmcicjaaGreatDoor
