import Derived.Test.YtdpmnlbnlnmjbaaGreatDoorL23
import Derived.Test.YtdpmnlbnlnmjbaaGreatDoorL12

/- MkX -/
namespace Go.Proofs.YtdpmnlbnlnmjbaaGreatDoor
open Go.RowKit Go.Extern.Stop Go.Stop Go.Extern Go.Maps Go.WideMaps Go.Sort

theorem kstep_no {a : Nat → Addr} {cs : List (List Ins)} {p : MkPl} {m : Mk} {t : Int} (ht : ¬ (0 ≤ t ∧ t < cs.length)) {w : World} (h : MkAt a cs p m w) :
    Calls Tryz.prog 24 #[.pointer (some ⟨p.b, 0, none⟩), .int .i64 t] w fun e w' => e = .returned (errAt (a 1)) ∧ w' = w := by
  have HH := hide (khas_no ht h)
  have c1 : w.cell? ⟨0, 0, none⟩ = some (errAt (a 1)) := h.env.cell 1 (by decide)
  clear h ht
  go_enter Tryz.func24, Tryz.ntmps24
  go_wp2_with fail
  refine HH.out.mono ?_
  rintro e w1 ⟨rfl, rfl⟩
  go_wp2
  go_ret
  exact ⟨rfl, rfl⟩

theorem kstep_done {a : Nat → Addr} {cs : List (List Ins)} {p : MkPl} {m : Mk} {t : Nat} {L : List Ins} (ht : cs[t]? = some L) (hd : doneAt L (m.pc t) = true) {w : World} (h : MkAt a cs p m w) :
    Calls Tryz.prog 24 #[.pointer (some ⟨p.b, 0, none⟩), .int .i64 t] w fun e w' => e = .returned (errAt (a 8)) ∧ Below w.heap.size w w' := by
  have HH := hide (khas_yes (lt_of_some ht) h)
  have HN := hide (next_no ht hd h)
  have HE := hide h.env
  clear h ht hd
  go_enter Tryz.func24, Tryz.ntmps24
  go_wp2_with fail
  refine HH.out.mono ?_
  rintro e w1 ⟨rfl, rfl⟩
  go_wp2_with fail
  refine HN.out.mono ?_
  rintro e w2 ⟨rfl, hb2⟩
  have c8 : w2.cell? ⟨1, 0, none⟩ = some (errAt (a 8)) := (HE.out.below hb2.block).cell 8 (by decide)
  have l8 : 1 < w2.heap.size := World.block_lt_of_cell? _ _ c8
  go_wp2
  go_ret
  exact ⟨rfl, hb2.alloc hb2.size _⟩

set_option maxRecDepth 20000 in
set_option maxHeartbeats 1000000 in
theorem kstep_any {a : Nat → Addr} {cs : List (List Ins)} {p : MkPl} {m : Mk} {K t : Nat} {w : World} (D : DoX a cs p m K t w) {L : List Ins} (ht : cs[t]? = some L) (hd : doneAt L (m.pc t) = false) :
    Calls Tryz.prog 24 #[.pointer (some ⟨p.b, 0, none⟩), .int .i64 t] w fun e w' => e = .returned .nilIface ∧ ∃ v, MkStep a cs p w v (m.step L t) w' := by
  obtain ⟨x, hx, hst⟩ : ∃ x, L[m.pc t]? = some x ∧ (x.op.toList == [115, 116, 111, 112]) = false := by
    unfold doneAt at hd
    cases hx : L[m.pc t]? with
    | none => rw [hx] at hd; cases hd
    | some x => rw [hx] at hd; exact ⟨x, rfl, hd⟩
  obtain ⟨hL, hI⟩ := D.at'.pg.pg.right t L ht
  obtain ⟨hok, hs⟩ := hI _ x hx
  have hpl := lt_of_some hx
  have HM : Hid (m.step L t = (m.setPc t (m.pc t + 1)).exec L t x) := by show _ = _; unfold Mk.step; rw [hx]
  rw [HM.out]
  have HH := hide (khas_yes (lt_of_some ht) D.at')
  have HN := hide (next_yes ht hx hst D.at')
  have HD := hide D
  have t6 := D.t6
  have t6i : (t : Int) < 6 := by omega
  have hpc2 : m.pc t ≤ 2000 := D.ok.pcs t
  have hw1 : IntKind.i64.wrap ((m.pc t : Int) + 1) = (m.pc t : Int) + 1 := by rw [IntKind.wrap_i64]; omega
  have HS : Hid (∀ w', MkStep a cs p w p.mv (m.setPc t (m.pc t + 1)) w' → Calls Tryz.prog 54 #[.pointer (some ⟨p.b, 0, none⟩), .int .i64 t, .agg #[.string x.op, .int .i64 x.a, .int .i64 x.b, .int .i64 x.c, .string x.to]] w' fun e w'' => e = .returned (.tuple #[]) ∧ Hid (∃ v, MkStep a cs p w v ((m.setPc t (m.pc t + 1)).exec L t x) w'')) := fun w' k => by
    have D2 : DoX a cs (p.marked p.mv) (m.setPc t (m.pc t + 1)) K t w' := ⟨k.at', D.ok.setPc t (by omega), D.ht, D.hK⟩
    exact (kdo_any D2 ht hok hs).mono fun e w'' ⟨e1, v, e2⟩ => ⟨e1, v, k.trans e2⟩
  clear HM hd hL hI hok hs hst ht D
  go_enter Tryz.func24, Tryz.ntmps24
  go_wp2_with fail
  refine HH.out.mono ?_
  rintro e w1 ⟨rfl, rfl⟩
  clear HH
  go_wp2_with fail
  refine HN.out.mono ?_
  rintro e w2 ⟨rfl, hb2⟩
  obtain ⟨W3, hW3⟩ : ∃ W3, W3 = w2.alloc (.cells #[.string x.op, .int .i64 x.a, .int .i64 x.b, .int .i64 x.c, .string x.to] 75) := ⟨_, rfl⟩
  obtain ⟨q0, q1, q2, q3, q4⟩ := insX w2 x
  have B3 : Below w1.heap.size w1 W3 := by rw [hW3]; exact hb2.alloc hb2.size _
  rw [← hW3] at q0 q1 q2 q3 q4
  have H3 := hide (HD.out.below B3)
  have hpc := H3.out.at'.pc t t6
  have hz : W3.frozen? ⟨p.b, 585 + t * 9 + 8, none⟩ = false := H3.out.at'.frozen _ (by omega) (by omega)
  have hbn : w2.heap.size ≠ p.b := by have := HD.out.at'.lt; have := hb2.size; omega
  clear HN hb2
  go_wp2_with fail
  rw [← hW3]
  clear hW3
  refine wp_region_F (S := (fun w' => w'.cell? ⟨p.b, 585 + t * 9 + 8, none⟩ = some (.int .i64 (m.pc t)))) (by kernel_rfl) (by (try dsimp only); go_keep) (fun hHeld => ?_)
  refine' wpAnyF_take (i := 0) (n := 12) (v := _) rfl (by kernel_rfl) (fun _ _ _ h => h) (by assumption) (Or.inl ⟨by rfl, ?hy1⟩) ?rest1
  case' hy1 => (intro w' hSw; (try dsimp only at hSw); go_simp; try with_reducible rfl)
  try simp only [Act.put, List.getElem_toArray, List.getElem_cons_zero, List.setIfInBounds_toArray, List.set_cons_zero, List.set_cons_succ]
  refine' wpAnyF_take (i := 1) (n := 12) (v := _) rfl (by kernel_rfl) (fun _ _ _ h => h) (by assumption) (Or.inl ⟨by rfl, ?hy2⟩) ?rest2
  case' hy2 => (intro w' hSw; (try dsimp only at hSw); go_simp; try with_reducible rfl)
  try simp only [Act.put, List.getElem_toArray, List.getElem_cons_zero, List.getElem_cons_succ, List.setIfInBounds_toArray, List.set_cons_zero, List.set_cons_succ]
  refine' wpAnyF_take (i := 2) (n := 12) (v := _) rfl (by kernel_rfl) (fun _ _ _ h => h) (by assumption) (Or.inl ⟨by rfl, ?hy3⟩) ?rest3
  case' hy3 => (intro w' hSw; (try dsimp only at hSw); go_simp; try with_reducible rfl)
  try simp only [Act.put, List.getElem_toArray, List.getElem_cons_zero, List.getElem_cons_succ, List.setIfInBounds_toArray, List.set_cons_zero, List.set_cons_succ]
  refine' wpAnyF_take (i := 3) (n := 12) (v := _) rfl (by kernel_rfl) (fun _ _ _ h => h) (by assumption) (Or.inl ⟨by rfl, ?hy4⟩) ?rest4
  case' hy4 => (intro w' hSw; (try dsimp only at hSw); go_simp; try with_reducible rfl)
  try simp only [Act.put, List.getElem_toArray, List.getElem_cons_zero, List.getElem_cons_succ, List.setIfInBounds_toArray, List.set_cons_zero, List.set_cons_succ]
  refine' wpAnyF_take (i := 4) (n := 12) (v := _) rfl (by kernel_rfl) (fun _ _ _ h => h) (by assumption) (Or.inl ⟨by rfl, ?hy5⟩) ?rest5
  case' hy5 => (intro w' hSw; (try dsimp only at hSw); go_simp; try with_reducible rfl)
  try simp only [Act.put, List.getElem_toArray, List.getElem_cons_zero, List.getElem_cons_succ, List.setIfInBounds_toArray, List.set_cons_zero, List.set_cons_succ]
  refine' wpAnyF_take (i := 5) (n := 12) (v := _) rfl (by kernel_rfl) (fun _ _ _ h => h) (by assumption) (Or.inl ⟨by rfl, ?hy6⟩) ?rest6
  case' hy6 => (intro w' hSw; (try dsimp only at hSw); go_simp; try with_reducible rfl)
  try simp only [Act.put, List.getElem_toArray, List.getElem_cons_zero, List.getElem_cons_succ, List.setIfInBounds_toArray, List.set_cons_zero, List.set_cons_succ]
  refine' wpAnyF_take (i := 6) (n := 12) (v := _) rfl (by kernel_rfl) (fun _ _ _ h => h) (by assumption) (Or.inl ⟨by rfl, ?hy7⟩) ?rest7
  case' hy7 => (intro w' hSw; (try dsimp only at hSw); go_simp; try with_reducible rfl)
  try simp only [Act.put, List.getElem_toArray, List.getElem_cons_zero, List.getElem_cons_succ, List.setIfInBounds_toArray, List.set_cons_zero, List.set_cons_succ]
  refine' wpAnyF_take (i := 7) (n := 12) (v := _) rfl (by kernel_rfl) (fun _ _ _ h => h) (by assumption) (Or.inl ⟨by rfl, ?hy8⟩) ?rest8
  case' hy8 => (intro w' hSw; (try dsimp only at hSw); go_simp; try with_reducible rfl)
  try simp only [Act.put, List.getElem_toArray, List.getElem_cons_zero, List.getElem_cons_succ, List.setIfInBounds_toArray, List.set_cons_zero, List.set_cons_succ]
  refine' wpAnyF_take (i := 8) (n := 12) (v := _) rfl (by kernel_rfl) (fun _ _ _ h => h) (by assumption) (Or.inl ⟨by rfl, ?hy9⟩) ?rest9
  case' hy9 => (intro w' hSw; (try dsimp only at hSw); go_simp; try with_reducible rfl)
  try simp only [Act.put, List.getElem_toArray, List.getElem_cons_zero, List.getElem_cons_succ, List.setIfInBounds_toArray, List.set_cons_zero, List.set_cons_succ]
  refine' wpAnyF_take (i := 9) (n := 12) (v := _) rfl (by kernel_rfl) (fun _ _ _ h => h) (by assumption) (Or.inl ⟨by rfl, ?hy10⟩) ?rest10
  case' hy10 => (intro w' hSw; (try dsimp only at hSw); go_simp; try with_reducible rfl)
  try simp only [Act.put, List.getElem_toArray, List.getElem_cons_zero, List.getElem_cons_succ, List.setIfInBounds_toArray, List.set_cons_zero, List.set_cons_succ]
  refine' wpAnyF_take (i := 10) (n := 12) (v := _) rfl (by kernel_rfl) (fun _ _ _ h => h) (by assumption) (Or.inl ⟨by rfl, ?hy11⟩) ?rest11
  case' hy11 => (intro w' hSw; (try dsimp only at hSw); go_simp; try with_reducible rfl)
  try simp only [Act.put, List.getElem_toArray, List.getElem_cons_zero, List.getElem_cons_succ, List.setIfInBounds_toArray, List.set_cons_zero, List.set_cons_succ]
  refine' wpAnyF_take (i := 11) (n := 12) (v := _) rfl (by kernel_rfl) (fun _ _ _ h => h) (by assumption) (Or.inl ⟨by rfl, ?hy12⟩) ?rest12
  case' hy12 => (intro w' hSw; (try dsimp only at hSw); go_simp; try with_reducible rfl)
  try simp only [Act.put, List.getElem_toArray, List.getElem_cons_zero, List.getElem_cons_succ, List.setIfInBounds_toArray, List.set_cons_zero, List.set_cons_succ]
  clear hHeld
  refine wpAnyF_only (i := 12) rfl (by kernel_rfl) (fun K hK => ?_)
  go_simp
  refine hK.out _ _ (Or.inl (by kernel_rfl)) ?_
  clear hK K
  try simp only [Act.put, List.getElem_toArray, List.getElem_cons_zero, List.getElem_cons_succ, List.setIfInBounds_toArray, List.set_cons_zero, List.set_cons_succ]
  refine wpAnyF_done (by kernel_rfl) ?_ _
  obtain ⟨W4, hW4⟩ : ∃ W4, W4 = (W3.setCell ⟨p.b, 585 + t * 9 + 8, none⟩ (.int .i64 ((m.pc t : Int) + 1))).drew := ⟨_, rfl⟩
  have H4 : Hid (MkStep a cs p w1 p.mv (m.setPc t (m.pc t + 1)) W4) := by rw [hW4]; exact hide ((MkStep.of_below B3 (H3.out.at'.setPc t6 (m.pc t + 1))).below (Below.refl _ _).drew)
  replace q0 : W4.cell? ⟨w2.heap.size, 0, none⟩ = some (.string x.op) := by rw [hW4]; exact cell_ne q0 (Or.inl hbn)
  replace q1 : W4.cell? ⟨w2.heap.size, 1, none⟩ = some (.int .i64 x.a) := by rw [hW4]; exact cell_ne q1 (Or.inl hbn)
  replace q2 : W4.cell? ⟨w2.heap.size, 2, none⟩ = some (.int .i64 x.b) := by rw [hW4]; exact cell_ne q2 (Or.inl hbn)
  replace q3 : W4.cell? ⟨w2.heap.size, 3, none⟩ = some (.int .i64 x.c) := by rw [hW4]; exact cell_ne q3 (Or.inl hbn)
  replace q4 : W4.cell? ⟨w2.heap.size, 4, none⟩ = some (.string x.to) := by rw [hW4]; exact cell_ne q4 (Or.inl hbn)
  rw [← hW4]
  clear hW4 H3 hpc hz HD B3 hw1 hbn
  go_wp2_with fail
  refine (HS.out _ H4.out).mono ?_
  rintro e w5 ⟨rfl, k5⟩
  go_wp2
  go_ret
  exact ⟨rfl, k5.out⟩
end Go.Proofs.YtdpmnlbnlnmjbaaGreatDoor

/- MkY -/
namespace Go.Proofs.YtdpmnlbnlnmjbaaGreatDoor
open Go.RowKit Go.Extern.Stop Go.Stop Go.Extern Go.Maps Go.WideMaps Go.Sort

structure RunX (a : Nat → Addr) (cs : List (List Ins)) (p : MkPl) (m : Mk) (K : Nat) (w : World) : Prop where
  at' : MkAt a cs p m w
  ok : MkOk cs.length K m
  right : Right cs
  hK : K ≤ 10000000
theorem RunX.below {a : Nat → Addr} {cs : List (List Ins)} {p : MkPl} {m : Mk} {K : Nat} {w w' : World} (h : RunX a cs p m K w) (hb : Below w.heap.size w w') : RunX a cs p m K w' := ⟨h.at'.below hb, h.ok, h.right, h.hK⟩
theorem RunX.doX {a : Nat → Addr} {cs : List (List Ins)} {p : MkPl} {m : Mk} {K : Nat} {w : World} (h : RunX a cs p m K w) {t : Nat} (ht : t < cs.length) : DoX a cs p m K t w := ⟨h.at', h.ok, ht, h.hK⟩
theorem RunX.of {a : Nat → Addr} {cs : List (List Ins)} {p : MkPl} {m m' : Mk} {K K' : Nat} {w w' : World} {v : Value} (h : RunX a cs p m K w) (k : MkStep a cs p w v m' w') (ok : MkOk cs.length K' m') (hK : K' ≤ 10000000) : RunX a cs (p.marked v) m' K' w' := ⟨k.at', ok, h.right, hK⟩

theorem kstepO {a : Nat → Addr} {cs : List (List Ins)} {p : MkPl} {m : Mk} {K : Nat} {w : World} (h : RunX a cs p m K w) (t : Int) :
    Calls Tryz.prog 24 #[.pointer (some ⟨p.b, 0, none⟩), .int .i64 t] w fun e w' => e = .returned (errVal a (m.stepO cs t).1) ∧ ∃ v, MkStep a cs p w v (m.stepO cs t).2 w' := by
  unfold Mk.stepO
  by_cases h1 : 0 ≤ t ∧ t < cs.length
  · rw [if_pos h1]
    obtain ⟨u, rfl⟩ := Int.eq_ofNat_of_zero_le h1.1
    have hu : u < cs.length := by omega
    rw [Int.toNat_natCast]
    cases hd : doneAt (cs.getD u []) (m.pc u)
    · rw [if_neg (by decide)]
      exact kstep_any (h.doX hu) (getD_some hu) hd
    · rw [if_pos rfl]
      exact (kstep_done (getD_some hu) hd h.at').mono fun e w' ⟨e1, e2⟩ => ⟨e1, _, MkStep.of_below' h.at' e2⟩
  · rw [if_neg h1]
    exact (kstep_no h1 h.at').mono fun e w' hh => by obtain ⟨rfl, rfl⟩ := hh; exact ⟨rfl, _, MkStep.refl h.at'⟩

theorem kdrainO {a : Nat → Addr} {cs : List (List Ins)} {p : MkPl} {m : Mk} {K : Nat} {w : World} (h : RunX a cs p m K w) (t : Int) :
    Calls Tryz.prog 26 #[.pointer (some ⟨p.b, 0, none⟩), .int .i64 t] w fun e w' => e = .returned (errVal a (m.drainO cs t).1) ∧ ∃ v, MkStep a cs p w v (m.drainO cs t).2 w' := by
  unfold Mk.drainO
  by_cases h1 : 0 ≤ t ∧ t < cs.length
  · rw [if_pos h1]
    obtain ⟨u, rfl⟩ := Int.eq_ofNat_of_zero_le h1.1
    have hu : u < cs.length := by omega
    rw [Int.toNat_natCast]
    cases hd : m.mem.waits u with
    | nil =>
      rw [if_pos rfl]
      exact (kdrain_none hu h.at' hd).mono fun e w' hh => by obtain ⟨rfl, rfl⟩ := hh; exact ⟨rfl, _, MkStep.refl h.at'⟩
    | cons x l =>
      rw [if_neg (by simp)]
      have hf := h.ok.faults
      have hK := h.hK
      exact (kdrain_some hu h.at' hd (h.ok.mem.ok u (by rw [h.ok.thr]; exact hu) x (by rw [hd]; exact List.mem_cons_self)) (by omega)).mono fun e w' ⟨e1, e2⟩ => ⟨e1, _, e2⟩
  · rw [if_neg h1]
    exact (kdrain_no h1 h.at').mono fun e w' hh => by obtain ⟨rfl, rfl⟩ := hh; exact ⟨rfl, _, MkStep.refl h.at'⟩

theorem turn_facts (n : Int) (k : Int) (k1 : 1 ≤ k) (k6 : k ≤ 6) (r : Int) (hr : n.tmod (2 * k) = r) : -(2 * k) ≤ r ∧ r < 2 * k ∧ IntKind.i64.wrap r = r ∧ IntKind.i64.wrap (r + 2 * k) = r + 2 * k := by
  have hM := tmod_mod n (show 0 < 2 * k by omega)
  have b1 := Int.emod_nonneg n (show (2 * k) ≠ 0 by omega)
  have b2 := Int.emod_lt_of_pos n (show 0 < 2 * k by omega)
  have b5 := Int.tmod_lt_of_pos n (show 0 < 2 * k by omega)
  rw [hr] at b5
  rw [hr] at hM
  generalize n % (2 * k) = q at *
  by_cases hc : r < 0
  · rw [if_pos hc] at hM
    exact ⟨by omega, by omega, by rw [IntKind.wrap_i64]; omega, by rw [IntKind.wrap_i64]; omega⟩
  · rw [if_neg hc] at hM
    exact ⟨by omega, by omega, by rw [IntKind.wrap_i64]; omega, by rw [IntKind.wrap_i64]; omega⟩

set_option maxRecDepth 20000 in
set_option maxHeartbeats 1000000 in
theorem kturn_any {a : Nat → Addr} {cs : List (List Ins)} {p : MkPl} {m : Mk} {K : Nat} {w : World} (h : RunX a cs p m K w) (n : Int) :
    Calls Tryz.prog 39 #[.pointer (some ⟨p.b, 0, none⟩), .int .i64 n] w fun e w' => e = .returned (errVal a (m.turnO cs n).1) ∧ ∃ v, MkStep a cs p w v (m.turnO cs n).2 w' := by
  have hp := h.at'.prog
  have h6 := h.at'.few
  have h1 := h.right.some'
  have HM : Hid ((if n.tmod (2 * (cs.length : Int)) < 0 then n.tmod (2 * (cs.length : Int)) + 2 * (cs.length : Int) else n.tmod (2 * (cs.length : Int))) = n % (2 * (cs.length : Int))) := tmod_mod n (by omega)
  have b1 := Int.emod_nonneg n (show (2 * (cs.length : Int)) ≠ 0 by omega)
  have b2 := Int.emod_lt_of_pos n (show 0 < (2 * (cs.length : Int)) by omega)
  have HS : Hid (n % (2 * (cs.length : Int)) < cs.length → Calls Tryz.prog 24 #[.pointer (some ⟨p.b, 0, none⟩), .int .i64 (n % (2 * (cs.length : Int)))] w fun e w' => e = .returned (errVal a (m.turnO cs n).1) ∧ Hid (∃ v, MkStep a cs p w v (m.turnO cs n).2 w')) := fun hlt => by
    unfold Mk.turnO
    rw [if_pos hlt]
    exact kstepO h _
  have HD : Hid (¬ n % (2 * (cs.length : Int)) < cs.length → Calls Tryz.prog 26 #[.pointer (some ⟨p.b, 0, none⟩), .int .i64 (n % (2 * (cs.length : Int)) - cs.length)] w fun e w' => e = .returned (errVal a (m.turnO cs n).1) ∧ Hid (∃ v, MkStep a cs p w v (m.turnO cs n).2 w')) := fun hlt => by
    unfold Mk.turnO
    rw [if_neg hlt]
    exact kdrainO h _
  have w2 : IntKind.i64.wrap (2 * (cs.length : Int)) = 2 * (cs.length : Int) := by rw [IntKind.wrap_i64]; omega
  clear h
  generalize errVal a (m.turnO cs n).1 = E at *
  generalize (m.turnO cs n).2 = M' at *
  clear HM
  generalize hN : cs.length = N at *
  clear hN
  obtain ⟨k, hk⟩ : ∃ k : Int, (N : Int) = k := ⟨_, rfl⟩
  have k1 : 1 ≤ k := by omega
  have k2 : k ≤ 6 := by omega
  rw [hk] at HS HD w2 b1 b2
  obtain ⟨r, hr⟩ : ∃ r, n.tmod (2 * k) = r := ⟨_, rfl⟩
  have HMM := tmod_mod n (show 0 < 2 * k by omega)
  rw [hr] at HMM
  obtain ⟨f1, f2, w3, w4⟩ := turn_facts n k (by omega) (by omega) r hr
  have kz : ¬ (2 * k = 0) := by omega
  have k0 : (2 * k == 0) = false := by simp; omega
  have kd : decide (2 * k = 0) = false := by simp; omega
  have kn : ¬ k = 0 := by omega
  clear h6 h1
  by_cases hc : r < 0
  · have hM := HMM
    rw [if_pos hc] at hM
    by_cases hd : n % (2 * k) < k
    · have HS1 := hide (HS.out hd)
      clear HS HD HMM
      rw [← hM] at HS1 hd
      clear hM b1 b2 f1 f2
      go_enter Tryz.func39, Tryz.ntmps39
      go_wp2_with fail
      refine HS1.out.mono ?_
      rintro e w1 ⟨rfl, h2⟩
      go_wp2
      go_ret
      exact ⟨rfl, h2.out⟩
    · have HD1 := hide (HD.out hd)
      clear HS HD HMM
      have w5 : IntKind.i64.wrap (n % (2 * k) - k) = n % (2 * k) - k := by rw [IntKind.wrap_i64]; omega
      rw [← hM] at HD1 hd w5
      clear hM b1 b2 f1 f2
      go_enter Tryz.func39, Tryz.ntmps39
      go_wp2_with fail
      refine HD1.out.mono ?_
      rintro e w1 ⟨rfl, h2⟩
      go_wp2
      go_ret
      exact ⟨rfl, h2.out⟩
  · have hM := HMM
    rw [if_neg hc] at hM
    by_cases hd : n % (2 * k) < k
    · have HS1 := hide (HS.out hd)
      clear HS HD HMM
      rw [← hM] at HS1 hd
      clear hM b1 b2 f1 f2
      go_enter Tryz.func39, Tryz.ntmps39
      go_wp2_with fail
      refine HS1.out.mono ?_
      rintro e w1 ⟨rfl, h2⟩
      go_wp2
      go_ret
      exact ⟨rfl, h2.out⟩
    · have HD1 := hide (HD.out hd)
      clear HS HD HMM
      have w5 : IntKind.i64.wrap (n % (2 * k) - k) = n % (2 * k) - k := by rw [IntKind.wrap_i64]; omega
      rw [← hM] at HD1 hd w5
      clear hM b1 b2 f1 f2
      go_enter Tryz.func39, Tryz.ntmps39
      go_wp2_with fail
      refine HD1.out.mono ?_
      rintro e w1 ⟨rfl, h2⟩
      go_wp2
      go_ret
      exact ⟨rfl, h2.out⟩
end Go.Proofs.YtdpmnlbnlnmjbaaGreatDoor

/- MkZ -/
namespace Go.Proofs.YtdpmnlbnlnmjbaaGreatDoor
open Go.RowKit Go.Extern.Stop Go.Stop Go.Extern Go.Maps Go.WideMaps Go.Sort

def numsAt (ad : Option Addr) (l : List Int) (w : World) : Prop := ∀ (i : Nat) x, l[i]? = some x → ∃ b off, ad = some ⟨b, off, none⟩ ∧ w.cell? ⟨b, off + i, none⟩ = some (.int .i64 x)
theorem numsAt.turns {S : Nat → Nat → Prop} {ad : Option Addr} {l : List Int} {w w' : World} (h : numsAt ad l w) (t : Turns S w w') (hS : ∀ b off o, ad = some ⟨b, off, none⟩ → ¬ S b o) : numsAt ad l w' := fun i x hx => by
  obtain ⟨b, off, e, hc⟩ := h i x hx
  exact ⟨b, off, e, t.keep hc (hS b off _ e)⟩
theorem numsAt.below {ad : Option Addr} {l : List Int} {w w' : World} (h : numsAt ad l w) (hb : Below w.heap.size w w') : numsAt ad l w' := h.turns (S := fun _ _ => False) (Turns.of_below hb) (fun _ _ _ _ h => h)

theorem MkPl.fp_marked {a : Nat → Addr} {cs : List (List Ins)} {p : MkPl} {v : Value} {m' : Mk} {w w' : World} (k : MkStep a cs p w v m' w') {i : Nat} (h : (p.marked v).fp i) : p.fp i ∨ w.heap.size ≤ i := by
  rcases h with h | h
  · exact Or.inl (Or.inl h)
  · exact (k.fp i h).imp Or.inr id

theorem kreg_any {a : Nat → Addr} {cs : List (List Ins)} {p : MkPl} {m : Mk} {w : World} (h : MkAt a cs p m w) {t r : Nat} (ht : t < cs.length) (hr : r < 8) :
    Calls Tryz.prog 17 #[.pointer (some ⟨p.b, 0, none⟩), .int .i64 t, .int .i64 r] w fun e w' => e = .returned (.tuple #[.int .i64 (m.regs t r), .nilIface]) ∧ w' = w := by
  have HH := hide (khas_yes ht h)
  have h6 := h.few
  have t6 : (t : Int) < 6 := by omega
  have r8 : (r : Int) < 8 := by omega
  have r0 : decide ((r : Int) < 0) = false := by simp
  have r1 : decide (8 ≤ (r : Int)) = false := by simp; omega
  have hc := h.reg t r (by omega) hr
  clear h ht hr h6
  go_enter Tryz.func17, Tryz.ntmps17
  go_wp2_with fail
  refine HH.out.mono ?_
  rintro e w1 ⟨rfl, rfl⟩
  go_wp2
  refine bodyPost_ret (v := .tuple #[.int .i64 (m.regs t r), .nilIface]) (by simp only [results, Tryz.results17]; go_simp) rfl ⟨rfl, rfl⟩

theorem kfaults_any {a : Nat → Addr} {cs : List (List Ins)} {p : MkPl} {m : Mk} {w : World} (h : MkAt a cs p m w) :
    Calls Tryz.prog 15 #[.pointer (some ⟨p.b, 0, none⟩)] w fun e w' => e = .returned (.int .i64 m.faults) ∧ w' = w := by
  have hc := h.faults
  clear h
  go_enter Tryz.func15, Tryz.ntmps15
  go_wp2
  go_ret
  exact ⟨rfl, rfl⟩

theorem kcells_any {a : Nat → Addr} {cs : List (List Ins)} {p : MkPl} {m : Mk} {w : World} (h : MkAt a cs p m w) :
    Calls Tryz.prog 16 #[.pointer (some ⟨p.b, 0, none⟩)] w fun e w' => e = .returned (.int .i64 m.mem.ar.count) ∧ w' = w := by
  have HC := hide (count_any p.b 0 m.mem.ar w h.mem.ar)
  clear h
  go_enter Tryz.func16, Tryz.ntmps16
  go_wp2_with fail
  refine HC.out.mono ?_
  rintro e w1 ⟨rfl, rfl⟩
  go_wp2
  go_ret
  exact ⟨rfl, rfl⟩

def RunRel (a : Nat → Addr) (cs : List (List Ins)) (p : MkPl) (m : Mk) (K : Nat) (w : World) (ad : Option Addr) (l : List Int) (j : Nat) (wr : World) : Prop :=
  ∃ v, MkStep a cs p w v (m.runO cs (l.take j)).2 wr ∧ RunX a cs (p.marked v) (m.runO cs (l.take j)).2 (K + j) wr ∧ numsAt ad l wr

theorem RunRel.next {a : Nat → Addr} {cs : List (List Ins)} {p : MkPl} {m : Mk} {K : Nat} {w : World} {ad : Option Addr} {l : List Int} {j : Nat} {x : Int} {v v' : Value} {wr w' : World}
    (hx : l[j]? = some x) (k : MkStep a cs p w v (m.runO cs (l.take j)).2 wr) (h : RunX a cs (p.marked v) (m.runO cs (l.take j)).2 (K + j) wr) (hn : numsAt ad l wr)
    (hd : ∀ b off, ad = some ⟨b, off, none⟩ → ¬ (p.marked v).fp b) (hK : K + l.length ≤ 10000000)
    (k' : MkStep a cs (p.marked v) wr v' (((m.runO cs (l.take j)).2.turnO cs x)).2 w') : RunRel a cs p m K w ad l (j + 1) w' := by
  have hj : j < l.length := (List.getElem?_eq_some_iff.1 hx).1
  have e : l.take (j + 1) = l.take j ++ [x] := by rw [List.take_add_one, hx]; rfl
  unfold RunRel
  rw [e, Mk.runO_snoc]
  exact ⟨v', k.trans k', h.of k' (h.ok.turnO h.right x (by omega)) (by omega), hn.turns k'.turns (fun b off o hb => hd b off hb)⟩

theorem runO_count {cs : List (List Ins)} {m : Mk} {l : List Int} {j : Nat} {x : Int} (hx : l[j]? = some x) : (m.runO cs (l.take (j + 1))).1 = (m.runO cs (l.take j)).1 + okN ((m.runO cs (l.take j)).2.turnO cs x).1 := by
  have e : l.take (j + 1) = l.take j ++ [x] := by rw [List.take_add_one, hx]; rfl
  rw [e, Mk.runO_snoc]

set_option maxRecDepth 20000 in
set_option maxHeartbeats 1000000 in
theorem krun_any {a : Nat → Addr} {cs : List (List Ins)} {p : MkPl} {m : Mk} {K : Nat} {w : World} (h : RunX a cs p m K w) {ad : Option Addr} {l : List Int} {cap : Nat} (hl : numsAt ad l w) (hlen : l.length ≤ 20000) (hcap : l.length ≤ cap) (hK : K + l.length ≤ 10000000)
    (hd : ∀ b off, ad = some ⟨b, off, none⟩ → b < w.heap.size ∧ ¬ p.fp b) :
    Calls Tryz.prog 13 #[.pointer (some ⟨p.b, 0, none⟩), .slice ad l.length cap] w fun e w' => e = .returned (.int .i64 (m.runO cs l).1) ∧ ∃ v, MkStep a cs p w v (m.runO cs l).2 w' ∧ RunX a cs (p.marked v) (m.runO cs l).2 (K + l.length) w' := by
  have H0 : Hid (RunRel a cs p m K w ad l 0 w) := hide ⟨p.mv, MkStep.refl h.at', h, hl⟩
  have HD := hide hd
  have i1 : (l.length : Int) ≤ 20000 := by omega
  have i2 : (l.length : Int) ≤ cap := by omega
  have k1 : decide ((l.length : Int) ≤ 20000) = true := by simp; omega
  clear h hl hd
  go_enter Tryz.func13, Tryz.ntmps13
  go_wp2_with fail
  go_loopw [5, 7, 14] (fun c _ i wr => ∃ j : Nat, j ≤ l.length ∧ i = .int .i64 j ∧ c = .int .i64 (m.runO cs (l.take j)).1 ∧ RunRel a cs p m K w ad l j wr) (fun _ _ i _ => l.length - (intOf i).toNat)
  case atStart => exact ⟨0, Nat.zero_le _, rfl, rfl, H0.out⟩
  case round =>
    obtain ⟨j, hj, rfl, rfl, v, hk, hx, hn⟩ := hrel
    have hle := Mk.runO_le cs (l.take j) m
    rw [List.length_take] at hle
    by_cases hlt : j < l.length
    · obtain ⟨x, hxx⟩ : ∃ x, l[j]? = some x := ⟨_, List.getElem?_eq_getElem hlt⟩
      obtain ⟨ab, off, rfl, c0⟩ := hn j x hxx
      have ji : (j : Int) < l.length := by omega
      have HT := hide (kturn_any hx x)
      have HC := runO_count (cs := cs) (m := m) hxx
      have HF : ∀ b off', (some ⟨ab, off, none⟩ : Option Addr) = some ⟨b, off', none⟩ → ¬ (p.marked v).fp b := fun b off' e hb => by
        have := HD.out b off' e
        rcases MkPl.fp_marked hk hb with h1 | h1
        · exact this.2 h1
        · omega
      have HR : Hid (∀ v' w', MkStep a cs (p.marked v) wr v' (((m.runO cs (l.take j)).2.turnO cs x)).2 w' → RunRel a cs p m K w (some ⟨ab, off, none⟩) l (j + 1) w') := hide (fun v' w' k' => RunRel.next hxx hk hx hn HF hK k')
      clear hk hx hn HF H0
      have hh : (m.runO cs (l.take (j + 1))).1 ≤ j + 1 := by have := Mk.runO_le cs (l.take (j + 1)) m; rw [List.length_take] at this; omega
      generalize hC1 : (m.runO cs (l.take (j + 1))).1 = C1 at *
      have HC1 := hide hC1
      clear hC1
      generalize (m.runO cs (l.take j)).1 = C0 at *
      generalize hm : (m.runO cs (l.take j)).2 = M at *
      clear hm
      have HT2 := HT.out
      clear HT
      generalize (M.turnO cs x).2 = M2 at *
      generalize (M.turnO cs x).1 = E1 at *
      clear hxx
      have w1c : IntKind.i64.wrap ((C0 : Int) + 1) = (C0 : Int) + 1 := by rw [IntKind.wrap_i64]; omega
      cases E1 with
      | zero =>
        have e0 : ((C1 : Nat) : Int) = (C0 : Int) + 1 := by rw [HC]; rfl
        clear HC
        rw [show errVal a 0 = Value.nilIface from rfl] at HT2
        go_wp2_with fail
        refine HT2.mono ?_
        rintro e w1 ⟨rfl, v', hk'⟩
        have H1 := HR.out v' w1 hk'
        clear hk' HR
        go_wp2
        go_roundw
        case rel => exact ⟨j + 1, by omega, by go_num, by rw [HC1.out, e0], H1⟩
        case measure => simp [intOf]; omega
      | succ E2 =>
        have e0 : C1 = C0 := by rw [HC]; rfl
        clear HC
        rw [show errVal a (E2 + 1) = errAt (a E2) from rfl] at HT2
        go_wp2_with fail
        refine HT2.mono ?_
        rintro e w1 ⟨rfl, v', hk'⟩
        have H1 := HR.out v' w1 hk'
        clear hk' HR
        go_wp2
        go_roundw
        case rel => exact ⟨j + 1, by omega, by go_num, by rw [HC1.out, e0], H1⟩
        case measure => simp [intOf]; omega
    · obtain rfl : j = l.length := by omega
      rw [List.take_length] at hk hx ⊢
      have H1 := hide hk
      have H2 := hide hx
      clear hk hx hn H0 HD
      go_wp2
      go_ret
      exact ⟨rfl, v, H1.out, H2.out⟩
end Go.Proofs.YtdpmnlbnlnmjbaaGreatDoor
