import Derived.Test.YtpjabgdcpogdiaaGreatDoorE30
import Derived.Test.YtpjabgdcpogdiaaGreatDoorE31
import Derived.Test.YtpjabgdcpogdiaaGreatDoorE32
import Derived.Test.YtpjabgdcpogdiaaGreatDoorE08
import Derived.Test.YtpjabgdcpogdiaaGreatDoorE26
import Derived.Test.YtpjabgdcpogdiaaGreatDoorE17
import Derived.Test.YtpjabgdcpogdiaaGreatDoorE28
import Derived.Laws.IdiomStrings

/- RkP -/
namespace Go.Proofs.YtpjabgdcpogdiaaGreatDoor
open Go.RowKit Go.Extern.Stop Go.Stop Go.Extern Go.Sort

theorem rstep_any {cs : List (List Ins)} {p : RkPl} {m : Mk} {K t : Nat} {w : World} (D : RkX cs p m K w) {L : List Ins} (ht : cs[t]? = some L) (hd : doneAt L (m.pc t) = false) :
    Calls Tryz.prog 16 #[.pointer (some ⟨p.k, 0, none⟩), .int .i64 t] w fun e w' => e = .returned (.int .i64 0) ∧ ∃ r v, RkStep cs p m.mem w r v (m.step L t) w' := by
  obtain ⟨x, hx, hst⟩ := doneAt_no hd
  obtain ⟨-, hI⟩ := D.right.right t L ht
  obtain ⟨hok, -⟩ := hI _ x hx
  rcases kinds hok with ⟨e, ⟨i0, l0, g0⟩, -⟩ | ⟨e, ⟨i0, l0, g0⟩, ⟨i1, l1, g1⟩⟩ | ⟨e, ⟨i0, l0, g0⟩, ⟨i1, l1, g1⟩, ⟨i2, l2, g2⟩⟩ | ⟨e, ⟨i0, l0, g0⟩, ⟨i1, l1, g1⟩, ⟨i2, l2, g2⟩⟩ | ⟨e, ⟨i0, l0, g0⟩, ⟨i1, l1, g1⟩, ⟨i2, l2, g2⟩⟩ | ⟨e, ⟨i0, l0, g0⟩, ⟨i1, l1, g1⟩, ⟨i2, l2, g2⟩⟩ | ⟨e, ⟨i0, l0, g0⟩, ⟨i1, l1, g1⟩, ⟨i2, l2, g2⟩⟩ | ⟨e, ⟨i0, l0, g0⟩, ⟨i1, l1, g1⟩, ⟨i2, l2, g2⟩⟩ | ⟨e, ⟨i0, l0, g0⟩, ⟨i1, l1, g1⟩, ⟨i2, l2, g2⟩⟩ | ⟨e, ⟨i0, l0, g0⟩, ⟨i1, l1, g1⟩, ⟨i2, l2, g2⟩⟩ | ⟨e, ⟨i0, l0, g0⟩⟩ | ⟨e, ⟨i0, l0, g0⟩⟩ | ⟨e, ⟨i0, l0, g0⟩⟩ | ⟨e, ⟨i0, l0, g0⟩⟩ | e | e | e | ⟨e, ⟨i0, l0, g0⟩, ⟨i1, g1⟩⟩ | ⟨e, ⟨i0, l0, g0⟩, ⟨i1, l1, g1⟩, ⟨i2, g2⟩⟩ | ⟨e, ⟨i0, g0⟩⟩ | ⟨e, -⟩
  · exact rstep_const D ht hx e l0 g0
  · exact rstep_move D ht hx e l0 g0 l1 g1
  · exact rstep_add D ht hx e l0 g0 l1 g1 l2 g2
  · exact rstep_sub D ht hx e l0 g0 l1 g1 l2 g2
  · exact rstep_and D ht hx e l0 g0 l1 g1 l2 g2
  · exact rstep_xor D ht hx e l0 g0 l1 g1 l2 g2
  · exact rstep_load D ht hx e l0 g0 l1 g1 l2 g2
  · exact rstep_store D ht hx e l0 g0 l1 g1 l2 g2
  · exact rstep_swap D ht hx e l0 g0 l1 g1 l2 g2
  · exact rstep_cas D ht hx e l0 g0 l1 g1 l2 g2
  · exact rstep_alloc D ht hx e l0 g0
  · exact rstep_free D ht hx e l0 g0
  · exact rstep_mark D ht hx e l0 g0
  · exact rstep_need D ht hx e l0 g0
  · exact rstep_fence D ht hx e
  · exact rstep_force D ht hx e
  · rw [e, toList_bl] at hst; cases hst
  · exact rstep_zero D ht hx e l0 g0 g1
  · exact rstep_same D ht hx e l0 g0 l1 g1 g2
  · exact rstep_goto D ht hx e g0
  · exact rstep_label D ht hx e

theorem rdone_any {cs : List (List Ins)} {p : RkPl} {m : Mk} {t : Nat} {L : List Ins} (ht : cs[t]? = some L) {w : World} (h : RkAt cs p m w) :
    Calls Tryz.prog 18 #[.pointer (some ⟨p.k, 0, none⟩), .int .i64 t] w fun e w' => e = .returned (.bool (doneAt L (m.pc t))) ∧ Below w.heap.size w w' := by
  unfold doneAt
  cases hx : L[m.pc t]? with
  | none =>
    have : L.length ≤ m.pc t := by
      rcases Nat.lt_or_ge (m.pc t) L.length with h1 | h1
      · rw [List.getElem?_eq_getElem h1] at hx; cases hx
      · exact h1
    exact rdone_end ht this h
  | some x => exact rdone_at ht hx h

set_option maxRecDepth 20000 in
theorem rstep_no {cs : List (List Ins)} {p : RkPl} {m : Mk} {t : Int} (ht : ¬ (0 ≤ t ∧ t < cs.length)) {w : World} (h : RkAt cs p m w) :
    Calls Tryz.prog 16 #[.pointer (some ⟨p.k, 0, none⟩), .int .i64 t] w fun e w' => e = .returned (.int .i64 2) ∧ Below w.heap.size w w' := by
  have hT := h.mT
  clear h
  go_enter Tryz.func16, Tryz.ntmps16
  rcases Int.lt_or_le t 0 with h0 | h0
  · go_wp2
    go_ret
    exact ⟨rfl, Below.refl _ _⟩
  · have h1 : (cs.length : Int) ≤ t := by omega
    clear ht
    go_wp2
    go_ret
    exact ⟨rfl, Below.refl _ _⟩

set_option maxRecDepth 20000 in
theorem rstep_done {cs : List (List Ins)} {p : RkPl} {m : Mk} {t : Nat} {L : List Ins} (ht : cs[t]? = some L) (hd : doneAt L (m.pc t) = true) {w : World} (h : RkAt cs p m w) :
    Calls Tryz.prog 16 #[.pointer (some ⟨p.k, 0, none⟩), .int .i64 t] w fun e w' => e = .returned (.int .i64 9) ∧ Below w.heap.size w w' := by
  have hT := h.mT
  have HD := hide (rdone_any ht h)
  rw [hd] at HD
  have htl := lt_of_get ht
  have ti : (t : Int) < cs.length := by omega
  have d0 : decide ((t : Int) < 0) = false := by simp
  clear h hd ht
  go_enter Tryz.func16, Tryz.ntmps16
  go_wp2_with fail
  refine HD.out.mono ?_
  rintro e w1 ⟨rfl, hb1⟩
  go_wp2
  go_ret
  exact ⟨rfl, hb1⟩

theorem rstepO {cs : List (List Ins)} {p : RkPl} {m : Mk} {K : Nat} {w : World} (h : RkX cs p m K w) (t : Int) :
    Calls Tryz.prog 16 #[.pointer (some ⟨p.k, 0, none⟩), .int .i64 t] w fun e w' => e = .returned (.int .i64 (m.stepO cs t).1) ∧ ∃ r v, RkStep cs p m.mem w r v (m.stepO cs t).2 w' := by
  unfold Mk.stepO
  by_cases h1 : 0 ≤ t ∧ t < cs.length
  · rw [if_pos h1]
    obtain ⟨u, rfl⟩ := Int.eq_ofNat_of_zero_le h1.1
    have hu : u < cs.length := by omega
    rw [Int.toNat_natCast]
    cases hd : doneAt (cs.getD u []) (m.pc u)
    · rw [if_neg (by decide)]
      exact rstep_any h (getD_some hu) hd
    · rw [if_pos rfl]
      exact (rstep_done (getD_some hu) hd h.at').mono fun e w' ⟨e1, e2⟩ => ⟨e1, _, _, RkStep.of_below' h.at' e2⟩
  · rw [if_neg h1]
    exact (rstep_no h1 h.at').mono fun e w' ⟨e1, e2⟩ => ⟨e1, _, _, RkStep.of_below' h.at' e2⟩

set_option maxRecDepth 20000 in
theorem rkdrain_no {cs : List (List Ins)} {p : RkPl} {m : Mk} {t : Int} (ht : ¬ (0 ≤ t ∧ t < cs.length)) {w : World} (h : RkAt cs p m w) :
    Calls Tryz.prog 17 #[.pointer (some ⟨p.k, 0, none⟩), .int .i64 t] w fun e w' => e = .returned (.int .i64 2) ∧ Below w.heap.size w w' := by
  have hT := h.mT
  clear h
  go_enter Tryz.func17, Tryz.ntmps17
  rcases Int.lt_or_le t 0 with h0 | h0
  · go_wp2
    go_ret
    exact ⟨rfl, Below.refl _ _⟩
  · have h1 : (cs.length : Int) ≤ t := by omega
    clear ht
    go_wp2
    go_ret
    exact ⟨rfl, Below.refl _ _⟩

set_option maxRecDepth 20000 in
theorem rkdrain_none {cs : List (List Ins)} {p : RkPl} {m : Mk} {t : Nat} (ht : t < cs.length) (he : m.mem.waits t = []) {w : World} (h : RkAt cs p m w) :
    Calls Tryz.prog 17 #[.pointer (some ⟨p.k, 0, none⟩), .int .i64 t] w fun e w' => e = .returned (.int .i64 5) ∧ Below w.heap.size w w' := by
  have hT := h.mT
  have hM := h.mM
  have HD := hide (rk_drain_none h ht he)
  have ti : (t : Int) < cs.length := by omega
  have d0 : decide ((t : Int) < 0) = false := by simp
  clear h he ht
  go_enter Tryz.func17, Tryz.ntmps17
  go_wp2_with fail
  refine HD.out.mono ?_
  rintro e w1 ⟨rfl, hb1⟩
  go_wp2
  go_ret
  exact ⟨rfl, hb1⟩

set_option maxRecDepth 20000 in
theorem rkdrain_some {cs : List (List Ins)} {p : RkPl} {m : Mk} {K t : Nat} {w : World} (D : RkX cs p m K w) (ht : t < cs.length) {x : Wt} {l : List Wt} (he : m.mem.waits t = x :: l) :
    Calls Tryz.prog 17 #[.pointer (some ⟨p.k, 0, none⟩), .int .i64 t] w fun e w' => e = .returned (.int .i64 0) ∧ ∃ r v, RkStep cs p m.mem w r v (m.drain1 t) w' := by
  have hT := D.at'.mT
  have hM := D.at'.mM
  have hf := D.faults
  have HD := hide (rk_drain D.at' ht he (D.waits ht x (by rw [he]; exact List.mem_cons_self)) (D.few ht))
  have ti : (t : Int) < cs.length := by omega
  have d0 : decide ((t : Int) < 0) = false := by simp
  obtain ⟨M', HM'⟩ : ∃ M', Hid (M' = m.drain1 t) := ⟨_, hide rfl⟩
  rw [← HM'.out]
  have HR0 : Hid (M' = if m.mem.ar.has x.c x.g = true then m.setMem (m.mem.drained t x l) else (m.setMem (m.mem.drained t x l)).addFault 1) := by
    show _ = _
    rw [HM'.out]
    unfold Mk.drain1
    rw [he]
    by_cases hh : m.mem.ar.has x.c x.g = true
    · simp only [if_pos hh]; rfl
    · simp only [if_neg hh]; rfl
  clear D he ht HM'
  cases hh : m.mem.ar.has x.c x.g
  · have HR : Hid (M' = (m.setMem (m.mem.drained t x l)).addFault 1) := by show _ = _; rw [HR0.out, hh]; rfl
    rw [hh, if_neg (by decide)] at HD
    clear HR0 hh
    go_enter Tryz.func17, Tryz.ntmps17
    go_wp2_with fail
    refine HD.out.mono ?_
    rintro e w1 ⟨rfl, r, k1⟩
    have HM1 := hide k1.at'
    have f1 : w1.cell? ⟨p.k, 3, none⟩ = some (.int .i64 m.faults) := HM1.out.mFaults
    have z1 : w1.frozen? ⟨p.k, 3, none⟩ = false := HM1.out.fk 3
    have kF : RkStep cs (p.to r p.mv) (m.setMem (m.mem.drained t x l)).mem w1 r p.mv ((m.setMem (m.mem.drained t x l)).addFault 1) (w1.setCell ⟨p.k, 3, none⟩ (.int .i64 ((m.faults : Int) + 1))) := HM1.out.addFault 1
    have HS := hide (k1.trans kF)
    clear k1 kF HM1 HD
    generalize m.faults = N at *
    go_wp2
    go_ret
    exact ⟨rfl, _, _, by rw [HR.out]; exact HS.out⟩
  · have HR : Hid (M' = m.setMem (m.mem.drained t x l)) := by show _ = _; rw [HR0.out, hh]; rfl
    rw [hh, if_pos rfl] at HD
    clear HR0 hh
    go_enter Tryz.func17, Tryz.ntmps17
    go_wp2_with fail
    refine HD.out.mono ?_
    rintro e w1 ⟨rfl, r, k1⟩
    have HS := hide k1
    clear k1 HD
    go_wp2
    go_ret
    exact ⟨rfl, _, _, by rw [HR.out]; exact HS.out⟩

theorem rdrainO {cs : List (List Ins)} {p : RkPl} {m : Mk} {K : Nat} {w : World} (h : RkX cs p m K w) (t : Int) :
    Calls Tryz.prog 17 #[.pointer (some ⟨p.k, 0, none⟩), .int .i64 t] w fun e w' => e = .returned (.int .i64 (m.drainO cs t).1) ∧ ∃ r v, RkStep cs p m.mem w r v (m.drainO cs t).2 w' := by
  unfold Mk.drainO
  by_cases h1 : 0 ≤ t ∧ t < cs.length
  · rw [if_pos h1]
    obtain ⟨u, rfl⟩ := Int.eq_ofNat_of_zero_le h1.1
    have hu : u < cs.length := by omega
    rw [Int.toNat_natCast]
    cases hd : m.mem.waits u with
    | nil =>
      rw [if_pos rfl]
      exact (rkdrain_none hu hd h.at').mono fun e w' ⟨e1, e2⟩ => ⟨e1, _, _, RkStep.of_below' h.at' e2⟩
    | cons x l =>
      rw [if_neg (by simp)]
      exact rkdrain_some h hu hd
  · rw [if_neg h1]
    exact (rkdrain_no h1 h.at').mono fun e w' ⟨e1, e2⟩ => ⟨e1, _, _, RkStep.of_below' h.at' e2⟩
end Go.Proofs.YtpjabgdcpogdiaaGreatDoor

/- RkQ -/
namespace Go.Proofs.YtpjabgdcpogdiaaGreatDoor
open Go.RowKit Go.Extern.Stop Go.Stop Go.Extern Go.Maps Go.WideMaps Go.Sort

set_option maxRecDepth 20000 in
set_option maxHeartbeats 1000000 in
theorem rturn_any {cs : List (List Ins)} {p : RkPl} {m : Mk} {K : Nat} {w : World} (h : RkX cs p m K w) (n : Int) :
    Calls Tryz.prog 7 #[.pointer (some ⟨p.k, 0, none⟩), .int .i64 n] w fun e w' => e = .returned (.int .i64 (m.turnO cs n).1) ∧ ∃ r v, RkStep cs p m.mem w r v (m.turnO cs n).2 w' := by
  have hp := h.at'.mT
  have h6 := h.at'.few
  have h1 := h.right.some'
  have HM : Hid ((if n.tmod (2 * (cs.length : Int)) < 0 then n.tmod (2 * (cs.length : Int)) + 2 * (cs.length : Int) else n.tmod (2 * (cs.length : Int))) = n % (2 * (cs.length : Int))) := tmod_mod n (by omega)
  have b1 := Int.emod_nonneg n (show (2 * (cs.length : Int)) ≠ 0 by omega)
  have b2 := Int.emod_lt_of_pos n (show 0 < (2 * (cs.length : Int)) by omega)
  have HS : Hid (n % (2 * (cs.length : Int)) < cs.length → Calls Tryz.prog 16 #[.pointer (some ⟨p.k, 0, none⟩), .int .i64 (n % (2 * (cs.length : Int)))] w fun e w' => e = .returned (.int .i64 (m.turnO cs n).1) ∧ Hid (∃ r v, RkStep cs p m.mem w r v (m.turnO cs n).2 w')) := fun hlt => by
    unfold Mk.turnO
    rw [if_pos hlt]
    exact rstepO h _
  have HD : Hid (¬ n % (2 * (cs.length : Int)) < cs.length → Calls Tryz.prog 17 #[.pointer (some ⟨p.k, 0, none⟩), .int .i64 (n % (2 * (cs.length : Int)) - cs.length)] w fun e w' => e = .returned (.int .i64 (m.turnO cs n).1) ∧ Hid (∃ r v, RkStep cs p m.mem w r v (m.turnO cs n).2 w')) := fun hlt => by
    unfold Mk.turnO
    rw [if_neg hlt]
    exact rdrainO h _
  have w2 : IntKind.i64.wrap (2 * (cs.length : Int)) = 2 * (cs.length : Int) := by rw [IntKind.wrap_i64]; omega
  clear h
  generalize (m.turnO cs n).1 = E at *
  generalize (m.turnO cs n).2 = M' at *
  clear HM
  generalize hN : cs.length = N at *
  have HN := hide hN
  clear hN
  obtain ⟨k, hk⟩ : ∃ k : Int, (N : Int) = k := ⟨_, rfl⟩
  have k1 : 1 ≤ k := by omega
  have k2 : k ≤ 6 := by omega
  rw [hk] at HS HD w2 b1 b2
  obtain ⟨r, hr⟩ : ∃ r, n.tmod (2 * k) = r := ⟨_, rfl⟩
  have HMM := tmod_mod n (show 0 < 2 * k by omega)
  rw [hr] at HMM
  obtain ⟨f1, f2, w3, w4⟩ := turn_facts n k (by omega) (by omega) r hr
  have kz : ¬ (2 * k = 0) := by omega
  have k0 : (2 * k == 0) = false := by simp; omega
  have kd : decide (2 * k = 0) = false := by simp; omega
  have kn : ¬ k = 0 := by omega
  clear h6 h1
  by_cases hc : r < 0
  · have hM := HMM
    rw [if_pos hc] at hM
    by_cases hd : n % (2 * k) < k
    · have HS1 := hide (HS.out hd)
      clear HS HD HMM
      rw [← hM] at HS1 hd
      clear hM b1 b2 f1 f2
      go_enter Tryz.func7, Tryz.ntmps7
      go_wp2_with fail
      refine HS1.out.mono ?_
      rintro e w1 ⟨rfl, h2⟩
      go_wp2
      go_ret
      exact ⟨rfl, h2.out⟩
    · have HD1 := hide (HD.out hd)
      clear HS HD HMM
      have w5 : IntKind.i64.wrap (n % (2 * k) - k) = n % (2 * k) - k := by rw [IntKind.wrap_i64]; omega
      rw [← hM] at HD1 hd w5
      clear hM b1 b2 f1 f2
      go_enter Tryz.func7, Tryz.ntmps7
      go_wp2_with fail
      refine HD1.out.mono ?_
      rintro e w1 ⟨rfl, h2⟩
      go_wp2
      go_ret
      exact ⟨rfl, h2.out⟩
  · have hM := HMM
    rw [if_neg hc] at hM
    by_cases hd : n % (2 * k) < k
    · have HS1 := hide (HS.out hd)
      clear HS HD HMM
      rw [← hM] at HS1 hd
      clear hM b1 b2 f1 f2
      go_enter Tryz.func7, Tryz.ntmps7
      go_wp2_with fail
      refine HS1.out.mono ?_
      rintro e w1 ⟨rfl, h2⟩
      go_wp2
      go_ret
      exact ⟨rfl, h2.out⟩
    · have HD1 := hide (HD.out hd)
      clear HS HD HMM
      have w5 : IntKind.i64.wrap (n % (2 * k) - k) = n % (2 * k) - k := by rw [IntKind.wrap_i64]; omega
      rw [← hM] at HD1 hd w5
      clear hM b1 b2 f1 f2
      go_enter Tryz.func7, Tryz.ntmps7
      go_wp2_with fail
      refine HD1.out.mono ?_
      rintro e w1 ⟨rfl, h2⟩
      go_wp2
      go_ret
      exact ⟨rfl, h2.out⟩

end Go.Proofs.YtpjabgdcpogdiaaGreatDoor

/- SpH -/
namespace Go.Proofs.YtpjabgdcpogdiaaGreatDoor
open Go.RowKit Go.Extern.Stop Go.Stop Go.Extern Go.Maps Go.WideMaps Go.Sort

def restTo (cs : List (List Ins)) (m : Mk) (n : Nat) : Bool := (List.range n).all fun t => doneAt (cs.getD t []) (m.pc t) && (m.mem.waits t).isEmpty
theorem restTo_succ (cs : List (List Ins)) (m : Mk) (n : Nat) : restTo cs m (n + 1) = (restTo cs m n && (doneAt (cs.getD n []) (m.pc n) && (m.mem.waits n).isEmpty)) := by
  unfold restTo
  rw [List.range_succ, List.all_append]
  simp
theorem restTo_no {cs : List (List Ins)} {m : Mk} {n t : Nat} (ht : t < n) (h : (doneAt (cs.getD t []) (m.pc t) && (m.mem.waits t).isEmpty) = false) : restTo cs m n = false := by
  unfold restTo
  cases hb : (List.range n).all fun t => doneAt (cs.getD t []) (m.pc t) && (m.mem.waits t).isEmpty with
  | false => rfl
  | true =>
    have := List.all_eq_true.1 hb t (List.mem_range.2 ht)
    rw [h] at this; cases this

set_option maxRecDepth 20000 in
set_option maxHeartbeats 1000000 in
theorem rrest_any {cs : List (List Ins)} {p : RkPl} {m : Mk} {w : World} (h : RkAt cs p m w) :
    Calls Tryz.prog 8 #[.pointer (some ⟨p.k, 0, none⟩)] w fun e w' => e = .returned (.bool (restTo cs m cs.length)) ∧ Below w.heap.size w w' := by
  have HH := hide h
  have h6 := h.few
  clear h
  go_enter Tryz.func8, Tryz.ntmps8
  go_wp2_with fail
  go_loopw [3, 4] (fun i _ wr => ∃ j : Nat, j ≤ cs.length ∧ i = .int .i64 j ∧ Hid (restTo cs m j = true) ∧ Below w.heap.size w wr) (fun i _ _ => cs.length - (intOf i).toNat)
  case atStart => exact ⟨0, Nat.zero_le _, rfl, rfl, Below.refl _ _⟩
  case round =>
    obtain ⟨j, hj, rfl, HR, HB⟩ := hrel
    have hr := HH.out.below HB
    have hT := hr.mT
    by_cases hlt : j < cs.length
    · have ji : (j : Int) < cs.length := by omega
      obtain ⟨L, hL⟩ : ∃ L, cs[j]? = some L := ⟨_, List.getElem?_eq_getElem hlt⟩
      have hd : cs.getD j [] = L := by rw [List.getD_eq_getElem?_getD, hL]; rfl
      have HD := hide (rdone_any hL hr)
      have HS := hide (restTo_succ cs m j)
      have HN := hide (fun e => restTo_no (cs := cs) (m := m) hlt e)
      rw [hd] at HS HN
      have HQ := hide hr
      clear hr hd hL
      cases hdd : doneAt L (m.pc j)
      · rw [hdd] at HD HN
        have HF := hide (HN.out rfl)
        clear HN HS hdd
        go_wp2_with fail
        refine HD.out.mono ?_
        rintro e w1 ⟨rfl, hb1⟩
        have HB1 := below_step HB hb1
        clear HB hb1 HD HQ
        go_wp2_with fail
        go_ret
        exact ⟨by rw [HF.out]; rfl, HB1⟩
      · rw [hdd] at HD HN HS
        clear hdd
        go_wp2_with fail
        refine HD.out.mono ?_
        rintro e w1 ⟨rfl, hb1⟩
        have HB1 := below_step HB hb1
        have hq := HQ.out.below hb1
        have hM := hq.mM
        have hWs := hq.mem.mWaits
        have htc := hq.mem.tcap
        have hthr := hq.thr
        obtain ⟨hv, hown⟩ := hq.mem.waits j (by rw [hthr]; exact hlt)
        obtain ⟨adv, cpv, hvs, -, -, -⟩ := ownsRow_shape hown
        rw [hvs] at hv
        rw [hthr] at hWs htc
        have jt : (j : Int) < p.rp.tcap := by omega
        clear HB hb1 HD HQ hq hown hvs hthr
        cases hl : m.mem.waits j with
        | nil =>
          rw [hl] at hv HS
          have HS2 : Hid (restTo cs m (j + 1) = true) := hide (by rw [HS.out, HR.out]; rfl)
          clear HS HN HR hl
          go_wp2_with fail
          go_roundw
          case rel => exact ⟨j + 1, by omega, by go_num, HS2, HB1⟩
          case measure => simp [intOf]; omega
        | cons x l =>
          rw [hl] at hv HN
          have HF := hide (HN.out rfl)
          have hlen : 0 < (((x :: l).length : Nat) : Int) := by rw [List.length_cons]; omega
          generalize (x :: l).length = len at *
          clear HS HN HR hl
          go_wp2_with fail
          go_ret
          exact ⟨by rw [HF.out]; rfl, HB1⟩
    · obtain rfl : j = cs.length := by omega
      clear hr
      go_wp2
      go_ret
      exact ⟨by rw [HR.out]; rfl, HB⟩

end Go.Proofs.YtpjabgdcpogdiaaGreatDoor

/- CodeF -/
namespace Go.Proofs.YtpjabgdcpogdiaaGreatDoor
open Go.RowKit Go.Extern.Stop Go.Stop Go.Extern
set_option maxRecDepth 20000 in
theorem byte_any (k : Nat) (hk : k < 256) (w : World) : Calls Tryz.prog 91 #[.int .i64 k] w fun e w' => e = .returned (.string (oneByte k)) ∧ Below w.heap.size w w' := by
  have k0 : 0 ≤ (k : Int) := by omega
  have k1 : (k : Int) < 256 := by omega
  have hcv : (convert 120 9 (.slice (some ⟨w.heap.size, 0, none⟩) 1 1)).run Tryz.prog (w.alloc (.cells #[.int .u8 k] 5)) = .ok (.string (oneByte k)) (w.alloc (.cells #[.int .u8 k] 5)) :=
    run_convert_bytes_back (P := Tryz.prog) (w.alloc (.cells #[.int .u8 k] 5)) 120 9 5 ⟨w.heap.size, 0, none⟩ 1 [UInt8.ofNat k] Tryz.underlying120 Tryz.underlying5 Tryz.underlying9 (fun j hj => by
      obtain rfl : j = 0 := by simpa using hj
      have : (UInt8.ofNat k).toNat = k := by simp; omega
      simp [this, Addr.add])
  go_enter Tryz.func91, Tryz.ntmps91
  go_wp2_with fail
  go_ret
  exact ⟨rfl, (Below.refl _ _).alloc (Nat.le_refl _) _⟩

set_option maxRecDepth 20000 in
theorem below_any : ∀ (m : Nat), m < 9223372036854775808 → ∀ (w : World), Calls Tryz.prog 77 #[.int .i64 (-(m : Int))] w fun e w' => e = .returned (.string (digits m)) ∧ Below w.heap.size w w' := by
  intro m
  induction m using Nat.strongRecOn with
  | _ m ih =>
    intro hm w
    by_cases h10 : m < 10
    · have hd : digits m = oneByte (48 + m) := by unfold digits; rw [if_pos h10]
      have h1 : -10 < -(m : Int) := by omega
      rw [hd]
      go_enter Tryz.func77, Tryz.ntmps77
      go_wp2_with fail
      have hB := byte_any (48 + m) (by omega) w
      rw [show ((48 + m : Nat) : Int) = 48 + (m : Int) by omega] at hB
      refine hB.mono ?_
      rintro e w1 ⟨rfl, hb⟩
      clear hB
      go_wp2_with fail
      go_ret
      exact ⟨rfl, hb⟩
    · have hd : digits m = digits (m / 10) ++ oneByte (48 + m % 10) := by rw [digits, if_neg h10]
      have h1 : ¬ -10 < -(m : Int) := by omega
      have hq : (-(m : Int)).tdiv 10 = -((m / 10 : Nat) : Int) := by rw [Int.neg_tdiv, Int.tdiv_eq_ediv_of_nonneg (by omega)]; omega
      have hr : (-(m : Int)).tmod 10 = -((m % 10 : Nat) : Int) := by rw [Int.neg_tmod, Int.tmod_eq_emod_of_nonneg (by omega)]; omega
      rw [hd]
      go_enter Tryz.func77, Tryz.ntmps77
      go_wp2_with fail
      have hI := ih (m / 10) (by omega) (by omega) w
      rw [show ((m / 10 : Nat) : Int) = (m : Int) / 10 by omega] at hI
      refine hI.mono ?_
      rintro e w1 ⟨rfl, hb⟩
      clear hI ih
      go_wp2_with fail
      have hsz : (digits (m / 10)).size + (oneByte (48 + m % 10)).size ≤ 9223372036854775807 := by
        have := digits_size (m / 10)
        have h1 : (oneByte (48 + m % 10)).size = 1 := rfl
        omega
      have hB := byte_any (48 + m % 10) (by omega) w1
      rw [show ((48 + m % 10 : Nat) : Int) = 48 + (m : Int) % 10 by omega] at hB
      refine hB.mono ?_
      rintro e w2 ⟨rfl, hb2⟩
      clear hB
      go_wp2_with fail
      go_ret
      exact ⟨rfl, below_step hb hb2⟩

set_option maxRecDepth 20000 in
theorem decimal_any (n : Int) (h1 : -9223372036854775808 < n) (h2 : n < 9223372036854775808) (w : World) : Calls Tryz.prog 63 #[.int .i64 n] w fun e w' => e = .returned (.string (decimal n)) ∧ Below w.heap.size w w' := by
  have hI := below_any n.natAbs (by omega) w
  by_cases h0 : n < 0
  · have hd : decimal n = ⟨#[45]⟩ ++ digits n.natAbs := if_pos h0
    rw [hd]
    rw [show -((n.natAbs : Nat) : Int) = n by omega] at hI
    have hsz := digits_size n.natAbs
    have hsz : 1 + (digits n.natAbs).size ≤ 9223372036854775807 := by omega
    generalize digits n.natAbs = s at *
    go_enter Tryz.func63, Tryz.ntmps63
    go_wp2_with fail
    refine hI.mono ?_
    rintro e w1 ⟨rfl, hb⟩
    clear hI
    go_wp2_with fail
    go_ret
    exact ⟨rfl, hb⟩
  · have hd : decimal n = digits n.natAbs := if_neg h0
    rw [hd]
    rw [show -((n.natAbs : Nat) : Int) = -n by omega] at hI
    generalize digits n.natAbs = s at *
    go_enter Tryz.func63, Tryz.ntmps63
    go_wp2_with fail
    refine hI.mono ?_
    rintro e w1 ⟨rfl, hb⟩
    clear hI
    go_wp2_with fail
    go_ret
    exact ⟨rfl, hb⟩

end Go.Proofs.YtpjabgdcpogdiaaGreatDoor
