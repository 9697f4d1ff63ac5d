import Derived.Test.YtnnlkolhahjokaaGreatDoorA22
import Derived.Deep.QuietTactic
import Derived.BigQuiet

/- MkV -/
namespace Go.Proofs.YtnnlkolhahjokaaGreatDoor
open Go.RowKit Go.Extern.Stop Go.Stop Go.Extern Go.Maps Go.WideMaps Go.Sort

set_option maxRecDepth 20000 in
set_option maxHeartbeats 2000000 in
theorem ktouch_force {a : Nat → Addr} {cs : List (List Ins)} {p : MkPl} {m : Mk} {K t : Nat} {w : World} (D : DoX a cs p m K t w) (L : List Ins) (x : Ins) (e : x.op = ⟨#[102, 111, 114, 99, 101]⟩) :
    Calls Tryz.prog 72 #[.pointer (some ⟨p.b, 0, none⟩), .int .i64 t, .agg #[.string x.op, .int .i64 x.a, .int .i64 x.b, .int .i64 x.c, .string x.to]] w fun e w' => e = .returned (.tuple #[]) ∧ MkStep a cs p w p.mv (m.exec L t x) w' := by
  rw [exec_force m L t e]
  obtain ⟨xo, xa, xb, xc, xt⟩ := x
  dsimp only at e ⊢
  subst e
  have t6 := D.t6
  have t6i : (t : Int) < 6 := by omega
  have hba : Below w.heap.size w (w.alloc (.cells #[.string ⟨#[102, 111, 114, 99, 101]⟩, .int .i64 xa, .int .i64 xb, .int .i64 xc, .string xt] 44)) := (Below.refl _ _).alloc (Nat.le_refl _) _
  have q0 : (w.alloc (.cells #[.string ⟨#[102, 111, 114, 99, 101]⟩, .int .i64 xa, .int .i64 xb, .int .i64 xc, .string xt] 44)).cell? ⟨w.heap.size, 0, none⟩ = some (.string ⟨#[102, 111, 114, 99, 101]⟩) := by simp
  have D1 := D.below hba
  have hp := D1.at'.prog
  have h6 := D1.at'.few
  have hthr := D.ok.thr
  have hK := D.hK
  rw [hthr]
  have HI : Hid (∃ mj, MkStep a cs p w p.mv mj (w.alloc (.cells #[.string ⟨#[102, 111, 114, 99, 101]⟩, .int .i64 xa, .int .i64 xb, .int .i64 xc, .string xt] 44)) ∧ MkIn cs.length K (64 * K + 8 * 0) mj ∧ mj.fenceFrom 0 (cs.length - 0) = m.fenceFrom 0 cs.length) := ⟨m, MkStep.of_below' D.at' hba, D.ok.in, rfl⟩
  generalize m.fenceFrom 0 cs.length = R at *
  clear D D1 hba hthr
  generalize hw : w.alloc (.cells #[.string ⟨#[102, 111, 114, 99, 101]⟩, .int .i64 xa, .int .i64 xb, .int .i64 xc, .string xt] 44) = w1 at *
  go_enter Tryz.func72, Tryz.ntmps72
  go_wp2_with fail
  clear hw
  go_loopw [7, 141] (fun _ i wr => ∃ j : Nat, j ≤ cs.length ∧ i = .int .i64 j ∧ ∃ mj, MkStep a cs p w p.mv mj wr ∧ MkIn cs.length K (64 * K + 8 * j) mj ∧ mj.fenceFrom j (cs.length - j) = R) (fun _ i _ => cs.length - (intOf i).toNat)
  case atStart => exact ⟨0, Nat.zero_le _, rfl, HI.out⟩
  case round =>
    clear HI
    obtain ⟨j, hj, rfl, mj, h1, h2, h3⟩ := hrel
    have H1 := hide h1
    clear h1
    by_cases hlt : j < cs.length
    · have ji : (j : Int) < cs.length := by omega
      have hth : mj.mem.threads = cs.length := h2.thr
      have HF := hide (kfence_any hlt H1.out.at' (h2.mem.ok j (by rw [hth]; exact hlt)) (by have := h2.faults; omega))
      have HN : Hid (∀ w2, MkStep a cs (p.marked p.mv) wr p.mv (mj.fence j) w2 → ∃ m2, MkStep a cs p w p.mv m2 w2 ∧ MkIn cs.length K (64 * K + 8 * (j + 1)) m2 ∧ m2.fenceFrom (j + 1) (cs.length - (j + 1)) = R) := fun w2 k =>
        ⟨mj.fence j, H1.out.trans k, (h2.fence hlt).mono (Nat.le_refl _) (by omega), by
          rw [show cs.length - j = cs.length - (j + 1) + 1 by omega] at h3
          exact h3⟩
      clear h2 h3 H1
      go_wp2_with fail
      refine HF.out.mono ?_
      rintro e w2 ⟨rfl, k2⟩
      have HR := hide (HN.out _ k2)
      clear HF HN k2
      go_wp2_with fail
      go_roundw
      case rel => exact ⟨j + 1, by omega, by go_num, HR.out⟩
      case measure => simp [intOf]; omega
    · obtain rfl : j = cs.length := by omega
      have HD : Hid (mj = R) := by rw [Nat.sub_self] at h3; exact h3
      clear h2 h3
      go_wp2
      go_end0
      exact ⟨rfl, by rw [← HD.out]; exact H1.out⟩

theorem ktouch_none {a : Nat → Addr} {cs : List (List Ins)} {p : MkPl} {m : Mk} {K t : Nat} {w : World} (D : DoX a cs p m K t w) (x : Ins) (e : x.op = ⟨#[115, 116, 111, 112]⟩ ∨ x.op = ⟨#[108, 97, 98, 101, 108]⟩) :
    Calls Tryz.prog 72 #[.pointer (some ⟨p.b, 0, none⟩), .int .i64 t, .agg #[.string x.op, .int .i64 x.a, .int .i64 x.b, .int .i64 x.c, .string x.to]] w fun e w' => e = .returned (.tuple #[]) ∧ MkStep a cs p w p.mv m w' := by
  obtain ⟨xo, xa, xb, xc, xt⟩ := x
  dsimp only at e ⊢
  have t6 := D.t6
  have t6i : (t : Int) < 6 := by omega
  rcases e with rfl | rfl
  · have HS := hide (MkStep.of_below' D.at' ((Below.refl _ _).alloc (Nat.le_refl _) (.cells #[.string ⟨#[115, 116, 111, 112]⟩, .int .i64 xa, .int .i64 xb, .int .i64 xc, .string xt] 44)))
    clear D
    go_enter Tryz.func72, Tryz.ntmps72
    go_wp2
    go_end0
    exact ⟨rfl, HS.out⟩
  · have HS := hide (MkStep.of_below' D.at' ((Below.refl _ _).alloc (Nat.le_refl _) (.cells #[.string ⟨#[108, 97, 98, 101, 108]⟩, .int .i64 xa, .int .i64 xb, .int .i64 xc, .string xt] 44)))
    clear D
    go_enter Tryz.func72, Tryz.ntmps72
    go_wp2
    go_end0
    exact ⟨rfl, HS.out⟩

theorem kdo_any {a : Nat → Addr} {cs : List (List Ins)} {p : MkPl} {m : Mk} {K t : Nat} {w : World} (D : DoX a cs p m K t w) {L : List Ins} (ht : cs[t]? = some L) {x : Ins} (hx : InsOk L x) (hs : x.to.size ≤ maxLen) :
    Calls Tryz.prog 49 #[.pointer (some ⟨p.b, 0, none⟩), .int .i64 t, .agg #[.string x.op, .int .i64 x.a, .int .i64 x.b, .int .i64 x.c, .string x.to]] w fun e w' => e = .returned (.tuple #[]) ∧ ∃ v, MkStep a cs p w v (m.exec L t x) w' := by
  rcases kinds hx with ⟨e, ⟨i0, l0, g0⟩, -⟩ | ⟨e, ⟨i0, l0, g0⟩, ⟨i1, l1, g1⟩⟩ | ⟨e, ⟨i0, l0, g0⟩, ⟨i1, l1, g1⟩, ⟨i2, l2, g2⟩⟩ | ⟨e, ⟨i0, l0, g0⟩, ⟨i1, l1, g1⟩, ⟨i2, l2, g2⟩⟩ | ⟨e, ⟨i0, l0, g0⟩, ⟨i1, l1, g1⟩, ⟨i2, l2, g2⟩⟩ | ⟨e, ⟨i0, l0, g0⟩, ⟨i1, l1, g1⟩, ⟨i2, l2, g2⟩⟩ | ⟨e, ⟨i0, l0, g0⟩, ⟨i1, l1, g1⟩, ⟨i2, l2, g2⟩⟩ | ⟨e, ⟨i0, l0, g0⟩, ⟨i1, l1, g1⟩, ⟨i2, l2, g2⟩⟩ | ⟨e, ⟨i0, l0, g0⟩, ⟨i1, l1, g1⟩, ⟨i2, l2, g2⟩⟩ | ⟨e, ⟨i0, l0, g0⟩, ⟨i1, l1, g1⟩, ⟨i2, l2, g2⟩⟩ | ⟨e, ⟨i0, l0, g0⟩⟩ | ⟨e, ⟨i0, l0, g0⟩⟩ | ⟨e, ⟨i0, l0, g0⟩⟩ | ⟨e, ⟨i0, l0, g0⟩⟩ | e | e | e | ⟨e, ⟨i0, l0, g0⟩, ⟨L', hi⟩⟩ | ⟨e, ⟨i0, l0, g0⟩, ⟨i1, l1, g1⟩, ⟨L', hi⟩⟩ | ⟨e, ⟨L', hi⟩⟩ | ⟨e, ⟨L', hi⟩⟩
  · exact kdo_const D L x e l0 g0
  · exact kdo_move D L x e l0 g0 l1 g1
  · exact kdo_add D L x e l0 g0 l1 g1 l2 g2
  · exact kdo_sub D L x e l0 g0 l1 g1 l2 g2
  · exact kdo_and D L x e l0 g0 l1 g1 l2 g2
  · exact kdo_xor D L x e l0 g0 l1 g1 l2 g2
  · exact kdo_load x e _ (fun w' hb => ktouch_load (D.below hb) L x e l0 g0 l1 g1 l2 g2) D.t6
  · exact kdo_store x e _ (fun w' hb => ktouch_store (D.below hb) L x e l0 g0 l1 g1 l2 g2) D.t6
  · exact kdo_swap x e _ (fun w' hb => ktouch_swap (D.below hb) L x e l0 g0 l1 g1 l2 g2) D.t6
  · exact kdo_cas x e _ (fun w' hb => ktouch_cas (D.below hb) L x e l0 g0 l1 g1 l2 g2) D.t6
  · exact kdo_alloc x e _ (fun w' hb => ktouch_alloc (D.below hb) L x e l0 g0) D.t6
  · exact kdo_free x e _ (fun w' hb => ktouch_free (D.below hb) L x e l0 g0) D.t6
  · exact kdo_mark D L x e l0 g0
  · exact kdo_need D L x e l0 g0
  · exact kdo_fence x e _ (fun w' hb => ktouch_fence (D.below hb) L x e ) D.t6
  · exact kdo_force x e _ (fun w' hb => ktouch_force (D.below hb) L x e ) D.t6
  · rw [exec_stop m L t e]; exact kdo_stop x e m (fun w' hb => ktouch_none (D.below hb) x (.inl e)) D.t6
  · exact kdo_zero D L x e l0 g0 ht hs hi
  · exact kdo_same D L x e l0 g0 l1 g1 ht hs hi
  · exact kdo_goto D L x e  ht hs hi
  · rw [exec_label m L t e]; exact kdo_label x e m (fun w' hb => ktouch_none (D.below hb) x (.inr e)) D.t6
end Go.Proofs.YtnnlkolhahjokaaGreatDoor

/- MkW -/
namespace Go.Proofs.YtnnlkolhahjokaaGreatDoor
open Go.RowKit Go.Extern.Stop Go.Stop Go.Extern Go.Maps Go.WideMaps Go.Sort

abbrev insZ : Array Value := #[.string ⟨#[]⟩, .int .i64 0, .int .i64 0, .int .i64 0, .string ⟨#[]⟩]

theorem setFive {w : World} {b : Nat} {W : World} (hB : Below b W w) (hW : b = W.heap.size) (v0 v1 v2 v3 v4 : Value) : Below b W (((((w.setCell ⟨b, 0, none⟩ v0).setCell ⟨b, 1, none⟩ v1).setCell ⟨b, 2, none⟩ v2).setCell ⟨b, 3, none⟩ v3).setCell ⟨b, 4, none⟩ v4) := by
  subst hW
  exact ((((hB.setCell (Nat.le_refl _) _).setCell (Nat.le_refl _) _).setCell (Nat.le_refl _) _).setCell (Nat.le_refl _) _).setCell (Nat.le_refl _) _

set_option maxRecDepth 20000 in
set_option maxHeartbeats 1000000 in
theorem next_no {a : Nat → Addr} {cs : List (List Ins)} {p : MkPl} {m : Mk} {t : Nat} {L : List Ins} (ht : cs[t]? = some L) (hd : doneAt L (m.pc t) = true) {w : World} (h : MkAt a cs p m w) :
    Calls Tryz.prog 48 #[.pointer (some ⟨p.b, 0, none⟩), .int .i64 t] w fun e w' => e = .returned (.tuple #[.agg insZ, .bool false]) ∧ Below w.heap.size w w' := by
  have hlt := lt_of_some ht
  have h6 := h.few
  obtain ⟨ad, cap, lb, hc, hcc, -, hins, -⟩ := h.pg.pg.code t L ht
  have hcap := h.pg.pg.cap
  have ti : (t : Int) < cs.length := by omega
  have t6 : (t : Int) < 6 := by omega
  have h1 := h.alloc (.cells insZ 44)
  have hba : Below w.heap.size w (w.alloc (.cells insZ 44)) := (Below.refl _ _).alloc (Nat.le_refl _) _
  have hp := h1.prog
  have hpc := h1.pc t (by omega)
  replace hc := keep_cell hba hc
  have hin1 := insAt_below hins hba
  have z0 : (w.alloc (.cells insZ 44)).cell? ⟨w.heap.size, 0, none⟩ = some (.string ⟨#[]⟩) := by simp
  have z1 : (w.alloc (.cells insZ 44)).cell? ⟨w.heap.size, 1, none⟩ = some (.int .i64 0) := by simp
  have z2 : (w.alloc (.cells insZ 44)).cell? ⟨w.heap.size, 2, none⟩ = some (.int .i64 0) := by simp
  have z3 : (w.alloc (.cells insZ 44)).cell? ⟨w.heap.size, 3, none⟩ = some (.int .i64 0) := by simp
  have z4 : (w.alloc (.cells insZ 44)).cell? ⟨w.heap.size, 4, none⟩ = some (.string ⟨#[]⟩) := by simp
  have y0 : (w.alloc (.cells insZ 44)).frozen? ⟨w.heap.size, 0, none⟩ = false := by simp
  have y1 : (w.alloc (.cells insZ 44)).frozen? ⟨w.heap.size, 1, none⟩ = false := by simp
  have y2 : (w.alloc (.cells insZ 44)).frozen? ⟨w.heap.size, 2, none⟩ = false := by simp
  have y3 : (w.alloc (.cells insZ 44)).frozen? ⟨w.heap.size, 3, none⟩ = false := by simp
  have y4 : (w.alloc (.cells insZ 44)).frozen? ⟨w.heap.size, 4, none⟩ = false := by simp
  generalize hPC : m.pc t = pc at *
  clear h h1 hPC hins
  by_cases hle : L.length ≤ pc
  · have hd1 : decide ((L.length : Int) ≤ pc) = true := by simp; omega
    have hle' : (L.length : Int) ≤ pc := by omega
    clear hin1 hd ht
    generalize hw : w.alloc (.cells insZ 44) = w1 at *
    go_enter Tryz.func48, Tryz.ntmps48
    go_wp2_with fail
    clear hw
    go_quiet (fail)
    go_wp2
    refine bodyPost_ret (v := .tuple #[.agg insZ, .bool false]) (by simp only [results, Tryz.results48]; go_simp) rfl ⟨rfl, ?_⟩
    exact setFive (below_dN hba nq) rfl _ _ _ _ _
  · obtain ⟨x, hx⟩ : ∃ x, L[pc]? = some x := ⟨_, List.getElem?_eq_getElem (by omega)⟩
    obtain ⟨b, off, rfl, a0, -, -, -, -⟩ := hin1 pc x hx
    have hst : (x.op.toList == [115, 116, 111, 112]) = true := by
      unfold doneAt at hd
      rw [hx] at hd
      exact hd
    have hd1 : decide ((L.length : Int) ≤ pc) = false := by simp; omega
    have hle' : ¬ (L.length : Int) ≤ pc := by omega
    have pi : (pc : Int) < L.length := by omega
    clear hin1 hd ht hx
    generalize hw : w.alloc (.cells insZ 44) = w1 at *
    go_enter Tryz.func48, Tryz.ntmps48
    go_wp2_with fail
    clear hw
    go_quiet (fail)
    go_wp2
    refine bodyPost_ret (v := .tuple #[.agg insZ, .bool false]) (by simp only [results, Tryz.results48]; go_simp) rfl ⟨rfl, ?_⟩
    exact setFive (below_dN hba nq) rfl _ _ _ _ _

set_option maxRecDepth 20000 in
set_option maxHeartbeats 1000000 in
theorem next_yes {a : Nat → Addr} {cs : List (List Ins)} {p : MkPl} {m : Mk} {t : Nat} {L : List Ins} {x : Ins} (ht : cs[t]? = some L) (hx : L[m.pc t]? = some x) (hst : (x.op.toList == [115, 116, 111, 112]) = false) {w : World} (h : MkAt a cs p m w) :
    Calls Tryz.prog 48 #[.pointer (some ⟨p.b, 0, none⟩), .int .i64 t] w fun e w' => e = .returned (.tuple #[.agg #[.string x.op, .int .i64 x.a, .int .i64 x.b, .int .i64 x.c, .string x.to], .bool true]) ∧ Below w.heap.size w w' := by
  have hlt := lt_of_some ht
  have h6 := h.few
  obtain ⟨ad, cap, lb, hc, hcc, -, hins, -⟩ := h.pg.pg.code t L ht
  have hcap := h.pg.pg.cap
  have ti : (t : Int) < cs.length := by omega
  have t6 : (t : Int) < 6 := by omega
  have hpl := lt_of_some hx
  have h1 := h.alloc (.cells insZ 44)
  have hba : Below w.heap.size w (w.alloc (.cells insZ 44)) := (Below.refl _ _).alloc (Nat.le_refl _) _
  have hp := h1.prog
  have hpc := h1.pc t (by omega)
  replace hc := keep_cell hba hc
  obtain ⟨b', off', e', c0, -⟩ := hins (m.pc t) x hx
  have hlb' : b' < w.heap.size := World.block_lt_of_cell? _ _ c0
  obtain ⟨b, off, rfl, a0, a1, a2, a3, a4⟩ := insAt_below hins hba (m.pc t) x hx
  have hlb : b < w.heap.size := by cases e'; exact hlb'
  clear e' c0 hlb'
  have z0 : (w.alloc (.cells insZ 44)).cell? ⟨w.heap.size, 0, none⟩ = some (.string ⟨#[]⟩) := by simp
  have z1 : (w.alloc (.cells insZ 44)).cell? ⟨w.heap.size, 1, none⟩ = some (.int .i64 0) := by simp
  have z2 : (w.alloc (.cells insZ 44)).cell? ⟨w.heap.size, 2, none⟩ = some (.int .i64 0) := by simp
  have z3 : (w.alloc (.cells insZ 44)).cell? ⟨w.heap.size, 3, none⟩ = some (.int .i64 0) := by simp
  have z4 : (w.alloc (.cells insZ 44)).cell? ⟨w.heap.size, 4, none⟩ = some (.string ⟨#[]⟩) := by simp
  have y0 : (w.alloc (.cells insZ 44)).frozen? ⟨w.heap.size, 0, none⟩ = false := by simp
  have y1 : (w.alloc (.cells insZ 44)).frozen? ⟨w.heap.size, 1, none⟩ = false := by simp
  have y2 : (w.alloc (.cells insZ 44)).frozen? ⟨w.heap.size, 2, none⟩ = false := by simp
  have y3 : (w.alloc (.cells insZ 44)).frozen? ⟨w.heap.size, 3, none⟩ = false := by simp
  have y4 : (w.alloc (.cells insZ 44)).frozen? ⟨w.heap.size, 4, none⟩ = false := by simp
  generalize hPC : m.pc t = pc at *
  clear h h1 hPC hins
  have hd1 : decide ((L.length : Int) ≤ pc) = false := by simp; omega
  have hle' : ¬ (L.length : Int) ≤ pc := by omega
  have pi : (pc : Int) < L.length := by omega
  clear ht hx
  generalize hw : w.alloc (.cells insZ 44) = w1 at *
  go_enter Tryz.func48, Tryz.ntmps48
  go_wp2_with fail
  clear hw
  go_quiet (fail)
  go_wp2
  refine bodyPost_ret (v := .tuple #[.agg #[.string x.op, .int .i64 x.a, .int .i64 x.b, .int .i64 x.c, .string x.to], .bool true]) (by simp only [results, Tryz.results48]; go_simp) rfl ⟨rfl, ?_⟩
  exact setFive (below_dN hba nq) rfl _ _ _ _ _

theorem kdone_any {a : Nat → Addr} {cs : List (List Ins)} {p : MkPl} {m : Mk} {t : Nat} {L : List Ins} (ht : cs[t]? = some L) {w : World} (h : MkAt a cs p m w) :
    Calls Tryz.prog 35 #[.pointer (some ⟨p.b, 0, none⟩), .int .i64 t] w fun e w' => e = .returned (.bool (doneAt L (m.pc t))) ∧ Below w.heap.size w w' := by
  have HH := hide (khas_yes (lt_of_some ht) h)
  cases hd : doneAt L (m.pc t)
  · obtain ⟨x, hx, hst⟩ : ∃ x, L[m.pc t]? = some x ∧ (x.op.toList == [115, 116, 111, 112]) = false := by
      unfold doneAt at hd
      cases hx : L[m.pc t]? with
      | none => rw [hx] at hd; cases hd
      | some x => rw [hx] at hd; exact ⟨x, rfl, hd⟩
    have HN := hide (next_yes ht hx hst h)
    clear h hd hx hst ht
    go_enter Tryz.func35, Tryz.ntmps35
    go_wp2_with fail
    refine HH.out.mono ?_
    rintro e w1 ⟨rfl, rfl⟩
    clear HH
    go_wp2_with fail
    refine HN.out.mono ?_
    rintro e w2 ⟨rfl, hb2⟩
    go_wp2
    go_ret
    exact ⟨rfl, by first | exact hb2 | exact hb2.alloc hb2.size _⟩
  · have HN := hide (next_no ht hd h)
    clear h hd ht
    go_enter Tryz.func35, Tryz.ntmps35
    go_wp2_with fail
    refine HH.out.mono ?_
    rintro e w1 ⟨rfl, rfl⟩
    clear HH
    go_wp2_with fail
    refine HN.out.mono ?_
    rintro e w2 ⟨rfl, hb2⟩
    go_wp2
    go_ret
    exact ⟨rfl, by first | exact hb2 | exact hb2.alloc hb2.size _⟩

end Go.Proofs.YtnnlkolhahjokaaGreatDoor

/- MkX -/
namespace Go.Proofs.YtnnlkolhahjokaaGreatDoor
open Go.RowKit Go.Extern.Stop Go.Stop Go.Extern Go.Maps Go.WideMaps Go.Sort

theorem kstep_no {a : Nat → Addr} {cs : List (List Ins)} {p : MkPl} {m : Mk} {t : Int} (ht : ¬ (0 ≤ t ∧ t < cs.length)) {w : World} (h : MkAt a cs p m w) :
    Calls Tryz.prog 33 #[.pointer (some ⟨p.b, 0, none⟩), .int .i64 t] w fun e w' => e = .returned (errAt (a 1)) ∧ w' = w := by
  have HH := hide (khas_no ht h)
  have c1 : w.cell? ⟨0, 0, none⟩ = some (errAt (a 1)) := h.env.cell 1 (by decide)
  clear h ht
  go_enter Tryz.func33, Tryz.ntmps33
  go_wp2_with fail
  refine HH.out.mono ?_
  rintro e w1 ⟨rfl, rfl⟩
  go_wp2
  go_ret
  exact ⟨rfl, rfl⟩

theorem kstep_done {a : Nat → Addr} {cs : List (List Ins)} {p : MkPl} {m : Mk} {t : Nat} {L : List Ins} (ht : cs[t]? = some L) (hd : doneAt L (m.pc t) = true) {w : World} (h : MkAt a cs p m w) :
    Calls Tryz.prog 33 #[.pointer (some ⟨p.b, 0, none⟩), .int .i64 t] w fun e w' => e = .returned (errAt (a 8)) ∧ Below w.heap.size w w' := by
  have HH := hide (khas_yes (lt_of_some ht) h)
  have HN := hide (next_no ht hd h)
  have HE := hide h.env
  clear h ht hd
  go_enter Tryz.func33, Tryz.ntmps33
  go_wp2_with fail
  refine HH.out.mono ?_
  rintro e w1 ⟨rfl, rfl⟩
  go_wp2_with fail
  refine HN.out.mono ?_
  rintro e w2 ⟨rfl, hb2⟩
  have c8 : w2.cell? ⟨1, 0, none⟩ = some (errAt (a 8)) := (HE.out.below hb2.block).cell 8 (by decide)
  have l8 : 1 < w2.heap.size := World.block_lt_of_cell? _ _ c8
  go_wp2
  go_ret
  exact ⟨rfl, hb2.alloc hb2.size _⟩

set_option maxRecDepth 20000 in
set_option maxHeartbeats 1000000 in
theorem kstep_any {a : Nat → Addr} {cs : List (List Ins)} {p : MkPl} {m : Mk} {K t : Nat} {w : World} (D : DoX a cs p m K t w) {L : List Ins} (ht : cs[t]? = some L) (hd : doneAt L (m.pc t) = false) :
    Calls Tryz.prog 33 #[.pointer (some ⟨p.b, 0, none⟩), .int .i64 t] w fun e w' => e = .returned .nilIface ∧ ∃ v, MkStep a cs p w v (m.step L t) w' := by
  obtain ⟨x, hx, hst⟩ : ∃ x, L[m.pc t]? = some x ∧ (x.op.toList == [115, 116, 111, 112]) = false := by
    unfold doneAt at hd
    cases hx : L[m.pc t]? with
    | none => rw [hx] at hd; cases hd
    | some x => rw [hx] at hd; exact ⟨x, rfl, hd⟩
  obtain ⟨hL, hI⟩ := D.at'.pg.pg.right t L ht
  obtain ⟨hok, hs⟩ := hI _ x hx
  have hpl := lt_of_some hx
  have HM : Hid (m.step L t = (m.setPc t (m.pc t + 1)).exec L t x) := by show _ = _; unfold Mk.step; rw [hx]
  rw [HM.out]
  have HH := hide (khas_yes (lt_of_some ht) D.at')
  have HN := hide (next_yes ht hx hst D.at')
  have HD := hide D
  have t6 := D.t6
  have t6i : (t : Int) < 6 := by omega
  have hpc2 : m.pc t ≤ 2000 := D.ok.pcs t
  have hw1 : IntKind.i64.wrap ((m.pc t : Int) + 1) = (m.pc t : Int) + 1 := by rw [IntKind.wrap_i64]; omega
  have HS : Hid (∀ w', MkStep a cs p w p.mv (m.setPc t (m.pc t + 1)) w' → Calls Tryz.prog 49 #[.pointer (some ⟨p.b, 0, none⟩), .int .i64 t, .agg #[.string x.op, .int .i64 x.a, .int .i64 x.b, .int .i64 x.c, .string x.to]] w' fun e w'' => e = .returned (.tuple #[]) ∧ Hid (∃ v, MkStep a cs p w v ((m.setPc t (m.pc t + 1)).exec L t x) w'')) := fun w' k => by
    have D2 : DoX a cs (p.marked p.mv) (m.setPc t (m.pc t + 1)) K t w' := ⟨k.at', D.ok.setPc t (by omega), D.ht, D.hK⟩
    exact (kdo_any D2 ht hok hs).mono fun e w'' ⟨e1, v, e2⟩ => ⟨e1, v, k.trans e2⟩
  clear HM hd hL hI hok hs hst ht D
  go_enter Tryz.func33, Tryz.ntmps33
  go_wp2_with fail
  refine HH.out.mono ?_
  rintro e w1 ⟨rfl, rfl⟩
  clear HH
  go_wp2_with fail
  refine HN.out.mono ?_
  rintro e w2 ⟨rfl, hb2⟩
  obtain ⟨W3, hW3⟩ : ∃ W3, W3 = w2.alloc (.cells #[.string x.op, .int .i64 x.a, .int .i64 x.b, .int .i64 x.c, .string x.to] 44) := ⟨_, rfl⟩
  obtain ⟨q0, q1, q2, q3, q4⟩ := insX w2 x
  have B3 : Below w1.heap.size w1 W3 := by rw [hW3]; exact hb2.alloc hb2.size _
  rw [← hW3] at q0 q1 q2 q3 q4
  have H3 := hide (HD.out.below B3)
  have hpc := H3.out.at'.pc t t6
  have hz : W3.frozen? ⟨p.b, 585 + t * 9 + 8, none⟩ = false := H3.out.at'.frozen _ (by omega) (by omega)
  have hbn : w2.heap.size ≠ p.b := by have := HD.out.at'.lt; have := hb2.size; omega
  clear HN hb2
  go_wp2_with fail
  rw [← hW3]
  clear hW3
  refine wp_region_F (S := (fun w' => w'.cell? ⟨p.b, 585 + t * 9 + 8, none⟩ = some (.int .i64 (m.pc t)))) (by kernel_rfl) (by (try dsimp only); go_keep) (fun hHeld => ?_)
  refine' wpAnyF_take (i := 0) (n := 12) (v := _) rfl (by kernel_rfl) (fun _ _ _ h => h) (by assumption) (Or.inl ⟨by rfl, ?hy1⟩) ?rest1
  case' hy1 => (intro w' hSw; (try dsimp only at hSw); go_simp; try with_reducible rfl)
  try simp only [Act.put, List.getElem_toArray, List.getElem_cons_zero, List.setIfInBounds_toArray, List.set_cons_zero, List.set_cons_succ]
  refine' wpAnyF_take (i := 1) (n := 12) (v := _) rfl (by kernel_rfl) (fun _ _ _ h => h) (by assumption) (Or.inl ⟨by rfl, ?hy2⟩) ?rest2
  case' hy2 => (intro w' hSw; (try dsimp only at hSw); go_simp; try with_reducible rfl)
  try simp only [Act.put, List.getElem_toArray, List.getElem_cons_zero, List.getElem_cons_succ, List.setIfInBounds_toArray, List.set_cons_zero, List.set_cons_succ]
  refine' wpAnyF_take (i := 2) (n := 12) (v := _) rfl (by kernel_rfl) (fun _ _ _ h => h) (by assumption) (Or.inl ⟨by rfl, ?hy3⟩) ?rest3
  case' hy3 => (intro w' hSw; (try dsimp only at hSw); go_simp; try with_reducible rfl)
  try simp only [Act.put, List.getElem_toArray, List.getElem_cons_zero, List.getElem_cons_succ, List.setIfInBounds_toArray, List.set_cons_zero, List.set_cons_succ]
  refine' wpAnyF_take (i := 3) (n := 12) (v := _) rfl (by kernel_rfl) (fun _ _ _ h => h) (by assumption) (Or.inl ⟨by rfl, ?hy4⟩) ?rest4
  case' hy4 => (intro w' hSw; (try dsimp only at hSw); go_simp; try with_reducible rfl)
  try simp only [Act.put, List.getElem_toArray, List.getElem_cons_zero, List.getElem_cons_succ, List.setIfInBounds_toArray, List.set_cons_zero, List.set_cons_succ]
  refine' wpAnyF_take (i := 4) (n := 12) (v := _) rfl (by kernel_rfl) (fun _ _ _ h => h) (by assumption) (Or.inl ⟨by rfl, ?hy5⟩) ?rest5
  case' hy5 => (intro w' hSw; (try dsimp only at hSw); go_simp; try with_reducible rfl)
  try simp only [Act.put, List.getElem_toArray, List.getElem_cons_zero, List.getElem_cons_succ, List.setIfInBounds_toArray, List.set_cons_zero, List.set_cons_succ]
  refine' wpAnyF_take (i := 5) (n := 12) (v := _) rfl (by kernel_rfl) (fun _ _ _ h => h) (by assumption) (Or.inl ⟨by rfl, ?hy6⟩) ?rest6
  case' hy6 => (intro w' hSw; (try dsimp only at hSw); go_simp; try with_reducible rfl)
  try simp only [Act.put, List.getElem_toArray, List.getElem_cons_zero, List.getElem_cons_succ, List.setIfInBounds_toArray, List.set_cons_zero, List.set_cons_succ]
  refine' wpAnyF_take (i := 6) (n := 12) (v := _) rfl (by kernel_rfl) (fun _ _ _ h => h) (by assumption) (Or.inl ⟨by rfl, ?hy7⟩) ?rest7
  case' hy7 => (intro w' hSw; (try dsimp only at hSw); go_simp; try with_reducible rfl)
  try simp only [Act.put, List.getElem_toArray, List.getElem_cons_zero, List.getElem_cons_succ, List.setIfInBounds_toArray, List.set_cons_zero, List.set_cons_succ]
  refine' wpAnyF_take (i := 7) (n := 12) (v := _) rfl (by kernel_rfl) (fun _ _ _ h => h) (by assumption) (Or.inl ⟨by rfl, ?hy8⟩) ?rest8
  case' hy8 => (intro w' hSw; (try dsimp only at hSw); go_simp; try with_reducible rfl)
  try simp only [Act.put, List.getElem_toArray, List.getElem_cons_zero, List.getElem_cons_succ, List.setIfInBounds_toArray, List.set_cons_zero, List.set_cons_succ]
  refine' wpAnyF_take (i := 8) (n := 12) (v := _) rfl (by kernel_rfl) (fun _ _ _ h => h) (by assumption) (Or.inl ⟨by rfl, ?hy9⟩) ?rest9
  case' hy9 => (intro w' hSw; (try dsimp only at hSw); go_simp; try with_reducible rfl)
  try simp only [Act.put, List.getElem_toArray, List.getElem_cons_zero, List.getElem_cons_succ, List.setIfInBounds_toArray, List.set_cons_zero, List.set_cons_succ]
  refine' wpAnyF_take (i := 9) (n := 12) (v := _) rfl (by kernel_rfl) (fun _ _ _ h => h) (by assumption) (Or.inl ⟨by rfl, ?hy10⟩) ?rest10
  case' hy10 => (intro w' hSw; (try dsimp only at hSw); go_simp; try with_reducible rfl)
  try simp only [Act.put, List.getElem_toArray, List.getElem_cons_zero, List.getElem_cons_succ, List.setIfInBounds_toArray, List.set_cons_zero, List.set_cons_succ]
  refine' wpAnyF_take (i := 10) (n := 12) (v := _) rfl (by kernel_rfl) (fun _ _ _ h => h) (by assumption) (Or.inl ⟨by rfl, ?hy11⟩) ?rest11
  case' hy11 => (intro w' hSw; (try dsimp only at hSw); go_simp; try with_reducible rfl)
  try simp only [Act.put, List.getElem_toArray, List.getElem_cons_zero, List.getElem_cons_succ, List.setIfInBounds_toArray, List.set_cons_zero, List.set_cons_succ]
  refine' wpAnyF_take (i := 11) (n := 12) (v := _) rfl (by kernel_rfl) (fun _ _ _ h => h) (by assumption) (Or.inl ⟨by rfl, ?hy12⟩) ?rest12
  case' hy12 => (intro w' hSw; (try dsimp only at hSw); go_simp; try with_reducible rfl)
  try simp only [Act.put, List.getElem_toArray, List.getElem_cons_zero, List.getElem_cons_succ, List.setIfInBounds_toArray, List.set_cons_zero, List.set_cons_succ]
  clear hHeld
  refine wpAnyF_only (i := 12) rfl (by kernel_rfl) (fun K hK => ?_)
  go_simp
  refine hK.out _ _ (Or.inl (by kernel_rfl)) ?_
  clear hK K
  try simp only [Act.put, List.getElem_toArray, List.getElem_cons_zero, List.getElem_cons_succ, List.setIfInBounds_toArray, List.set_cons_zero, List.set_cons_succ]
  refine wpAnyF_done (by kernel_rfl) ?_ _
  obtain ⟨W4, hW4⟩ : ∃ W4, W4 = (W3.setCell ⟨p.b, 585 + t * 9 + 8, none⟩ (.int .i64 ((m.pc t : Int) + 1))).drew := ⟨_, rfl⟩
  have H4 : Hid (MkStep a cs p w1 p.mv (m.setPc t (m.pc t + 1)) W4) := by rw [hW4]; exact hide ((MkStep.of_below B3 (H3.out.at'.setPc t6 (m.pc t + 1))).below (Below.refl _ _).drew)
  replace q0 : W4.cell? ⟨w2.heap.size, 0, none⟩ = some (.string x.op) := by rw [hW4]; exact cell_ne q0 (Or.inl hbn)
  replace q1 : W4.cell? ⟨w2.heap.size, 1, none⟩ = some (.int .i64 x.a) := by rw [hW4]; exact cell_ne q1 (Or.inl hbn)
  replace q2 : W4.cell? ⟨w2.heap.size, 2, none⟩ = some (.int .i64 x.b) := by rw [hW4]; exact cell_ne q2 (Or.inl hbn)
  replace q3 : W4.cell? ⟨w2.heap.size, 3, none⟩ = some (.int .i64 x.c) := by rw [hW4]; exact cell_ne q3 (Or.inl hbn)
  replace q4 : W4.cell? ⟨w2.heap.size, 4, none⟩ = some (.string x.to) := by rw [hW4]; exact cell_ne q4 (Or.inl hbn)
  rw [← hW4]
  clear hW4 H3 hpc hz HD B3 hw1 hbn
  go_wp2_with fail
  refine (HS.out _ H4.out).mono ?_
  rintro e w5 ⟨rfl, k5⟩
  go_wp2
  go_ret
  exact ⟨rfl, k5.out⟩
end Go.Proofs.YtnnlkolhahjokaaGreatDoor
