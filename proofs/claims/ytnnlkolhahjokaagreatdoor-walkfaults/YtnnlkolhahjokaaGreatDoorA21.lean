import Derived.Test.YtnnlkolhahjokaaGreatDoorA20

/- MkJ -/
namespace Go.Proofs.YtnnlkolhahjokaaGreatDoor
open Go.RowKit Go.Extern.Stop Go.Stop Go.Extern Go.Maps Go.WideMaps Go.Sort

theorem box2 (w : World) (x y : Int) : (w.alloc (.cells #[.int .i64 x, .int .i64 y] 65)).cell? ⟨w.heap.size, 0, none⟩ = some (.int .i64 x) ∧ (w.alloc (.cells #[.int .i64 x, .int .i64 y] 65)).cell? ⟨w.heap.size, 1, none⟩ = some (.int .i64 y) := ⟨by simp, by simp⟩

set_option maxRecDepth 20000 in
set_option maxHeartbeats 1000000 in
theorem kload_yes {a : Nat → Addr} {cs : List (List Ins)} {p : MkPl} {m : Mk} {w : World} (h : MkAt a cs p m w) {t : Nat} (ht : t < cs.length) {n : Int} (hn : Wd n) (hy : m.names n = true) {wi : Nat} (hw : wi < 4) :
    Calls Tryz.prog 83 #[.pointer (some ⟨p.b, 0, none⟩), .int .i64 t, .int .i64 n, .int .i64 wi] w fun e w' => e = .returned (.int .i64 (m.loaded t n wi)) ∧ Below w.heap.size w w' := by
  have HN := hide (named_yes hn h hy)
  have HL : Hid (∀ w', Below w.heap.size w w' → Calls Tryz.prog 94 #[.pointer (some ⟨p.b, 0, none⟩), .int .i64 t, .agg #[.int .i64 (cellOf n), .int .i64 (genOf n)], .int .i64 wi] w' fun e w'' => e = .returned (.tuple #[.int .i64 (m.loaded t n wi), .nilIface]) ∧ Below w'.heap.size w' w'') := fun w' hb => mem_load (h.below hb) ht hy hw
  clear h hy hn
  generalize cellOf n = c at *
  generalize genOf n = g at *
  generalize m.loaded t n wi = V at *
  go_enter Tryz.func83, Tryz.ntmps83
  go_wp2_with fail
  refine HN.out.mono ?_
  rintro e w1 ⟨rfl, hb1⟩
  obtain ⟨W3, hW3⟩ : ∃ W3, W3 = w1.alloc (.cells #[.int .i64 c, .int .i64 g] 65) := ⟨_, rfl⟩
  obtain ⟨q0, q1⟩ := box2 w1 c g
  have B3 : Below w.heap.size w W3 := by rw [hW3]; exact hb1.alloc hb1.size _
  rw [← hW3] at q0 q1
  clear HN hb1
  go_wp2_with fail
  rw [← hW3]
  clear hW3
  have B4 := below_dN B3 1
  go_region_with (go_at_call 94; refine (HL.out _ B4).mono ?_; rintro e w4 ⟨rfl, hb4⟩)
  all_goals
    go_wp2
    go_ret
    exact ⟨rfl, below_step B4 hb4⟩

set_option maxRecDepth 20000 in
set_option maxHeartbeats 1000000 in
theorem kload_no {a : Nat → Addr} {cs : List (List Ins)} {p : MkPl} {m : Mk} {w : World} (h : MkAt a cs p m w) {t : Nat} {n : Int} (hn : Wd n) (hf : m.faults ≤ 900000000) (hy : m.names n = false) (wi : Int) :
    Calls Tryz.prog 83 #[.pointer (some ⟨p.b, 0, none⟩), .int .i64 t, .int .i64 n, .int .i64 wi] w fun e w' => e = .returned (.int .i64 0) ∧ MkStep a cs p w p.mv (m.addFault 1) w' := by
  have HN := hide (named_no hn h (by omega) hy)
  clear h hy hn hf
  go_enter Tryz.func83, Tryz.ntmps83
  go_wp2_with fail
  refine HN.out.mono ?_
  rintro e w1 ⟨rfl, h1⟩
  have H1 := hide (h1.below ((Below.refl _ _).alloc (Nat.le_refl _) (.cells #[.int .i64 0, .int .i64 0] 65)))
  clear h1 HN
  go_wp2
  go_ret
  exact ⟨rfl, H1.out⟩

set_option maxRecDepth 20000 in
set_option maxHeartbeats 1000000 in
theorem kswap_yes {a : Nat → Addr} {cs : List (List Ins)} {p : MkPl} {m : Mk} {w : World} (h : MkAt a cs p m w) {t : Nat} (ht : t < cs.length) (hx : ∀ x ∈ m.mem.waits t, x.Ok) (hf : m.faults ≤ 900000000) {n : Int} (hn : Wd n) (hy : m.names n = true) {wi : Nat} (hw : wi < 4) {v : Int} (hv : Wd v) :
    Calls Tryz.prog 85 #[.pointer (some ⟨p.b, 0, none⟩), .int .i64 t, .int .i64 n, .int .i64 wi, .int .i64 v] w fun e w' => e = .returned (.int .i64 ((m.fence t).word n wi)) ∧ MkStep a cs p w p.mv ((m.fence t).setWord n wi v) w' := by
  have HN := hide (ready_yes ht hn h hx hf hy)
  have HL : Hid (∀ w', MkStep a cs p w p.mv (m.fence t) w' → Calls Tryz.prog 32 #[.pointer (some ⟨p.b, 0, none⟩), .int .i64 t, .agg #[.int .i64 (cellOf n), .int .i64 (genOf n)], .int .i64 wi, .int .i64 v] w' fun e w'' => e = .returned (.tuple #[.int .i64 ((m.fence t).word n wi), .nilIface]) ∧ MkStep a cs p w p.mv ((m.fence t).setWord n wi v) w'') := fun w' k => by
    have q := mem_swap k.at' ht (Mk.fence_waits m t) (n := n) (by rw [Mk.fence_names]; exact hy) hw hv
    exact q.mono fun e w'' ⟨e1, e2⟩ => ⟨e1, k.trans e2⟩
  clear h hy hn hx hf hw hv
  generalize (m.fence t).setWord n wi v = m' at *
  generalize (m.fence t).word n wi = V at *
  generalize cellOf n = c at *
  generalize genOf n = g at *
  go_enter Tryz.func85, Tryz.ntmps85
  go_wp2_with fail
  refine HN.out.mono ?_
  rintro e w1 ⟨rfl, h1⟩
  obtain ⟨W3, hW3⟩ : ∃ W3, W3 = w1.alloc (.cells #[.int .i64 c, .int .i64 g] 65) := ⟨_, rfl⟩
  obtain ⟨q0, q1⟩ := box2 w1 c g
  have H3 : Hid (MkStep a cs p w p.mv (m.fence t) W3) := by rw [hW3]; exact hide (h1.below ((Below.refl _ _).alloc (Nat.le_refl _) _))
  rw [← hW3] at q0 q1
  clear HN h1
  go_wp2_with fail
  rw [← hW3]
  clear hW3
  have H4 := hide (H3.out.below (Below.drewN' 1))
  go_region_with (go_at_call 32; refine (HL.out _ H4.out).mono ?_; rintro e w4 ⟨rfl, h4⟩)
  all_goals
    go_wp2
    go_ret
    exact ⟨rfl, h4⟩

set_option maxRecDepth 20000 in
set_option maxHeartbeats 1000000 in
theorem kcas_yes {a : Nat → Addr} {cs : List (List Ins)} {p : MkPl} {m : Mk} {w : World} (h : MkAt a cs p m w) {t : Nat} (ht : t < cs.length) (hx : ∀ x ∈ m.mem.waits t, x.Ok) (hf : m.faults ≤ 900000000) {n : Int} (hn : Wd n) (hy : m.names n = true) {wi : Nat} (hw : wi < 4) {old v : Int} (ho : Wd old) (hv : Wd v) :
    Calls Tryz.prog 86 #[.pointer (some ⟨p.b, 0, none⟩), .int .i64 t, .int .i64 n, .int .i64 wi, .int .i64 old, .int .i64 v] w fun e w' => e = .returned (.int .i64 ((m.fence t).word n wi)) ∧ MkStep a cs p w p.mv ((m.fence t).setWord n wi (casV ((m.fence t).word n wi) old v)) w' := by
  have HN := hide (ready_yes ht hn h hx hf hy)
  have HL : Hid (∀ w', MkStep a cs p w p.mv (m.fence t) w' → Calls Tryz.prog 97 #[.pointer (some ⟨p.b, 0, none⟩), .int .i64 t, .agg #[.int .i64 (cellOf n), .int .i64 (genOf n)], .int .i64 wi, .int .i64 old, .int .i64 v] w' fun e w'' => e = .returned (.tuple #[.int .i64 ((m.fence t).word n wi), .nilIface]) ∧ MkStep a cs p w p.mv ((m.fence t).setWord n wi (casV ((m.fence t).word n wi) old v)) w'') := fun w' k => by
    have q := mem_cas k.at' ht (Mk.fence_waits m t) (n := n) (by rw [Mk.fence_names]; exact hy) hw ho hv
    exact q.mono fun e w'' ⟨e1, e2⟩ => ⟨e1, k.trans e2⟩
  clear h hy hn hx hf hw ho hv
  generalize (m.fence t).setWord n wi (casV ((m.fence t).word n wi) old v) = m' at *
  generalize (m.fence t).word n wi = V at *
  generalize cellOf n = c at *
  generalize genOf n = g at *
  go_enter Tryz.func86, Tryz.ntmps86
  go_wp2_with fail
  refine HN.out.mono ?_
  rintro e w1 ⟨rfl, h1⟩
  obtain ⟨W3, hW3⟩ : ∃ W3, W3 = w1.alloc (.cells #[.int .i64 c, .int .i64 g] 65) := ⟨_, rfl⟩
  obtain ⟨q0, q1⟩ := box2 w1 c g
  have H3 : Hid (MkStep a cs p w p.mv (m.fence t) W3) := by rw [hW3]; exact hide (h1.below ((Below.refl _ _).alloc (Nat.le_refl _) _))
  rw [← hW3] at q0 q1
  clear HN h1
  go_wp2_with fail
  rw [← hW3]
  clear hW3
  have H4 := hide (H3.out.below (Below.drewN' 1))
  go_region_with (go_at_call 97; refine (HL.out _ H4.out).mono ?_; rintro e w4 ⟨rfl, h4⟩)
  all_goals
    go_wp2
    go_ret
    exact ⟨rfl, h4⟩

set_option maxRecDepth 20000 in
set_option maxHeartbeats 1000000 in
theorem kfree_yes {a : Nat → Addr} {cs : List (List Ins)} {p : MkPl} {m : Mk} {w : World} (h : MkAt a cs p m w) {t : Nat} (ht : t < cs.length) (hx : ∀ x ∈ m.mem.waits t, x.Ok) (hf : m.faults ≤ 900000000) {n : Int} (hn : Wd n) (hy : m.names n = true) :
    Calls Tryz.prog 88 #[.pointer (some ⟨p.b, 0, none⟩), .int .i64 t, .int .i64 n] w fun e w' => e = .returned (.tuple #[]) ∧ MkStep a cs p w p.mv ((m.fence t).setMem ((m.fence t).mem.setThere (cellOf n).toNat false)) w' := by
  have HN := hide (ready_yes ht hn h hx hf hy)
  have HL : Hid (∀ w', MkStep a cs p w p.mv (m.fence t) w' → Calls Tryz.prog 99 #[.pointer (some ⟨p.b, 0, none⟩), .int .i64 t, .agg #[.int .i64 (cellOf n), .int .i64 (genOf n)]] w' fun e w'' => e = .returned .nilIface ∧ MkStep a cs p w p.mv ((m.fence t).setMem ((m.fence t).mem.setThere (cellOf n).toNat false)) w'') := fun w' k => by
    have q := mem_free k.at' ht (Mk.fence_waits m t) (n := n) (by rw [Mk.fence_names]; exact hy) 
    exact q.mono fun e w'' ⟨e1, e2⟩ => ⟨e1, k.trans e2⟩
  clear h hy hn hx hf
  generalize (m.fence t).setMem ((m.fence t).mem.setThere (cellOf n).toNat false) = m' at *
  generalize cellOf n = c at *
  generalize genOf n = g at *
  go_enter Tryz.func88, Tryz.ntmps88
  go_wp2_with fail
  refine HN.out.mono ?_
  rintro e w1 ⟨rfl, h1⟩
  obtain ⟨W3, hW3⟩ : ∃ W3, W3 = w1.alloc (.cells #[.int .i64 c, .int .i64 g] 65) := ⟨_, rfl⟩
  obtain ⟨q0, q1⟩ := box2 w1 c g
  have H3 : Hid (MkStep a cs p w p.mv (m.fence t) W3) := by rw [hW3]; exact hide (h1.below ((Below.refl _ _).alloc (Nat.le_refl _) _))
  rw [← hW3] at q0 q1
  clear HN h1
  go_wp2_with fail
  rw [← hW3]
  clear hW3
  have H4 := hide (H3.out.below (Below.drewN' 1))
  go_region_with (go_at_call 99; refine (HL.out _ H4.out).mono ?_; rintro e w4 ⟨rfl, h4⟩)
  all_goals
    go_wp2
    go_end0
    exact ⟨rfl, h4⟩

set_option maxRecDepth 20000 in
set_option maxHeartbeats 1000000 in
theorem kswap_no {a : Nat → Addr} {cs : List (List Ins)} {p : MkPl} {m : Mk} {w : World} (h : MkAt a cs p m w) {t : Nat} {n : Int} (hn : Wd n) (hf : m.faults ≤ 900000000) (hy : m.names n = false) (wi v : Int) :
    Calls Tryz.prog 85 #[.pointer (some ⟨p.b, 0, none⟩), .int .i64 t, .int .i64 n, .int .i64 wi, .int .i64 v] w fun e w' => e = .returned (.int .i64 0) ∧ MkStep a cs p w p.mv (m.addFault 1) w' := by
  have HN := hide (ready_no (t := t) hn h hf hy)
  clear h hy hn hf
  go_enter Tryz.func85, Tryz.ntmps85
  go_wp2_with fail
  refine HN.out.mono ?_
  rintro e w1 ⟨rfl, h1⟩
  have H1 := hide (h1.below ((Below.refl _ _).alloc (Nat.le_refl _) (.cells #[.int .i64 0, .int .i64 0] 65)))
  clear h1 HN
  go_wp2
  go_ret
  exact ⟨rfl, H1.out⟩

set_option maxRecDepth 20000 in
set_option maxHeartbeats 1000000 in
theorem kcas_no {a : Nat → Addr} {cs : List (List Ins)} {p : MkPl} {m : Mk} {w : World} (h : MkAt a cs p m w) {t : Nat} {n : Int} (hn : Wd n) (hf : m.faults ≤ 900000000) (hy : m.names n = false) (wi old v : Int) :
    Calls Tryz.prog 86 #[.pointer (some ⟨p.b, 0, none⟩), .int .i64 t, .int .i64 n, .int .i64 wi, .int .i64 old, .int .i64 v] w fun e w' => e = .returned (.int .i64 0) ∧ MkStep a cs p w p.mv (m.addFault 1) w' := by
  have HN := hide (ready_no (t := t) hn h hf hy)
  clear h hy hn hf
  go_enter Tryz.func86, Tryz.ntmps86
  go_wp2_with fail
  refine HN.out.mono ?_
  rintro e w1 ⟨rfl, h1⟩
  have H1 := hide (h1.below ((Below.refl _ _).alloc (Nat.le_refl _) (.cells #[.int .i64 0, .int .i64 0] 65)))
  clear h1 HN
  go_wp2
  go_ret
  exact ⟨rfl, H1.out⟩

set_option maxRecDepth 20000 in
set_option maxHeartbeats 1000000 in
theorem kfree_no {a : Nat → Addr} {cs : List (List Ins)} {p : MkPl} {m : Mk} {w : World} (h : MkAt a cs p m w) {t : Nat} {n : Int} (hn : Wd n) (hf : m.faults ≤ 900000000) (hy : m.names n = false) :
    Calls Tryz.prog 88 #[.pointer (some ⟨p.b, 0, none⟩), .int .i64 t, .int .i64 n] w fun e w' => e = .returned (.tuple #[]) ∧ MkStep a cs p w p.mv (m.addFault 1) w' := by
  have HN := hide (ready_no (t := t) hn h hf hy)
  clear h hy hn hf
  go_enter Tryz.func88, Tryz.ntmps88
  go_wp2_with fail
  refine HN.out.mono ?_
  rintro e w1 ⟨rfl, h1⟩
  have H1 := hide (h1.below ((Below.refl _ _).alloc (Nat.le_refl _) (.cells #[.int .i64 0, .int .i64 0] 65)))
  clear h1 HN
  go_wp2
  go_end0
  exact ⟨rfl, H1.out⟩

end Go.Proofs.YtnnlkolhahjokaaGreatDoor

/- MkL -/
namespace Go.Proofs.YtnnlkolhahjokaaGreatDoor
open Go.RowKit Go.Extern.Stop Go.Stop Go.Extern Go.Maps Go.WideMaps Go.Sort

theorem Mk.drain1_has (m : Mk) (t : Nat) (c g : Int) : (m.drain1 t).mem.ar.has c g = m.mem.ar.has c g := by
  unfold Mk.drain1
  split
  · rfl
  · obtain ⟨h1, h2, h3⟩ := Rm.drained_ar m.mem t ‹Wt› ‹List Wt›
    show Ar.has (Rm.drained _ _ _ _).ar c g = _
    unfold Ar.has
    rw [h1, h2, h3]
theorem Mk.drain1_names (m : Mk) (t : Nat) (n : Int) : (m.drain1 t).names n = m.names n := by
  unfold Mk.names
  rw [Mk.drain1_has]

set_option maxRecDepth 20000 in
set_option maxHeartbeats 1000000 in
theorem kstore_few {a : Nat → Addr} {cs : List (List Ins)} {p : MkPl} {m : Mk} {w : World} (h : MkAt a cs p m w) {t : Nat} (ht : t < cs.length) (_hx : ∀ x ∈ m.mem.waits t, x.Ok) (_hf : m.faults ≤ 900000000) (h8 : (m.mem.waits t).length < 8) {n : Int} (hn : Wd n) (hy : m.names n = true) {wi : Nat} (hw : wi < 4) {v : Int} (hv : Wd v) :
    Calls Tryz.prog 84 #[.pointer (some ⟨p.b, 0, none⟩), .int .i64 t, .int .i64 n, .int .i64 wi, .int .i64 v] w fun e w' => e = .returned (.tuple #[]) ∧ MkStep a cs p w p.mv (m.put t n wi v) w' := by
  have HN := hide (named_yes hn h hy)
  have HS : Hid (∀ w', Below w.heap.size w w' → Calls Tryz.prog 95 #[.pointer (some ⟨p.b, 0, none⟩), .int .i64 t, .agg #[.int .i64 (cellOf n), .int .i64 (genOf n)], .int .i64 wi, .int .i64 v] w' fun e w'' => e = .returned .nilIface ∧ MkStep a cs p w p.mv (m.put t n wi v) w'') := fun w' hb =>
    (mem_store (h.below hb) ht h8 hy hw hv).mono fun e w'' ⟨e1, e2⟩ => ⟨e1, MkStep.of_below hb e2⟩
  have hwt : m.mem.waiting t = (m.mem.waits t).length := by unfold Rm.waiting; rw [if_pos (by have := h.thr; omega)]; rfl
  have HW : Hid (∀ w', Below w.heap.size w w' → Calls Tryz.prog 36 #[.pointer (some ⟨p.b, 0, none⟩), .int .i64 t] w' fun e w'' => e = .returned (.int .i64 ((m.mem.waits t).length : Nat)) ∧ w'' = w') := fun w' hb => by
    rw [← hwt]; exact waiting_any p.b m.mem t w' (h.below hb).mem
  have hb8 : (((m.mem.waits t).length : Int) == 8) = false := beq_eq_false_iff_ne.2 (by omega)
  clear h hy hn hw hv hwt
  generalize m.put t n wi v = m' at *
  generalize (m.mem.waits t).length = K at *
  generalize cellOf n = c at *
  generalize genOf n = g at *
  go_enter Tryz.func84, Tryz.ntmps84
  go_wp2_with fail
  refine HN.out.mono ?_
  rintro e w1 ⟨rfl, hb1⟩
  obtain ⟨W3, hW3⟩ : ∃ W3, W3 = w1.alloc (.cells #[.int .i64 c, .int .i64 g] 65) := ⟨_, rfl⟩
  obtain ⟨q0, q1⟩ := box2 w1 c g
  have B3 : Below w.heap.size w W3 := by rw [hW3]; exact hb1.alloc hb1.size _
  rw [← hW3] at q0 q1
  clear HN hb1
  go_wp2_with fail
  rw [← hW3]
  clear hW3
  refine (HW.out _ B3).mono ?_
  rintro e w4 ⟨rfl, rfl⟩
  clear HW
  go_wp2_with fail
  have B4 := below_dN B3 1
  go_region_with (go_at_call 95; refine (HS.out _ B4).mono ?_; rintro e w6 ⟨rfl, h6⟩)
  all_goals
    go_wp2
    go_end0
    exact ⟨rfl, h6⟩

set_option maxRecDepth 20000 in
set_option maxHeartbeats 1000000 in
theorem kstore_full {a : Nat → Addr} {cs : List (List Ins)} {p : MkPl} {m : Mk} {w : World} (h : MkAt a cs p m w) {t : Nat} (ht : t < cs.length) (hx : ∀ x ∈ m.mem.waits t, x.Ok) (hf : m.faults ≤ 900000000) (h8 : (m.mem.waits t).length = 8) {n : Int} (hn : Wd n) (hy : m.names n = true) {wi : Nat} (hw : wi < 4) {v : Int} (hv : Wd v) :
    Calls Tryz.prog 84 #[.pointer (some ⟨p.b, 0, none⟩), .int .i64 t, .int .i64 n, .int .i64 wi, .int .i64 v] w fun e w' => e = .returned (.tuple #[]) ∧ MkStep a cs p w p.mv ((m.drain1 t).put t n wi v) w' := by
  have HN := hide (named_yes hn h hy)
  have HD : Hid (∀ w', Below w.heap.size w w' → Calls Tryz.prog 34 #[.pointer (some ⟨p.b, 0, none⟩), .int .i64 t] w' fun e w'' => e = .returned .nilIface ∧ MkStep a cs p w' p.mv (m.drain1 t) w'') := fun w' hb => by
    cases hws : m.mem.waits t with
    | nil => rw [hws] at h8; cases h8
    | cons x l => exact (kdrain_some ht (h.below hb) hws (hx x (by rw [hws]; exact List.mem_cons_self)) (by omega)).mono fun e w'' ⟨e1, e2⟩ => ⟨e1, e2⟩
  have HS : Hid (∀ w', MkStep a cs p w p.mv (m.drain1 t) w' → Calls Tryz.prog 95 #[.pointer (some ⟨p.b, 0, none⟩), .int .i64 t, .agg #[.int .i64 (cellOf n), .int .i64 (genOf n)], .int .i64 wi, .int .i64 v] w' fun e w'' => e = .returned .nilIface ∧ MkStep a cs p w p.mv ((m.drain1 t).put t n wi v) w'') := fun w' k => by
    have hl : ((m.drain1 t).mem.waits t).length < 8 := by
      cases hws : m.mem.waits t with
      | nil => rw [hws] at h8; cases h8
      | cons x l => rw [Mk.drain1_waits hws]; rw [hws, List.length_cons] at h8; omega
    exact (mem_store k.at' ht hl (n := n) (by rw [Mk.drain1_names]; exact hy) hw hv).mono fun e w'' ⟨e1, e2⟩ => ⟨e1, k.trans e2⟩
  have hwt : m.mem.waiting t = (m.mem.waits t).length := by unfold Rm.waiting; rw [if_pos (by have := h.thr; omega)]; rfl
  have HW : Hid (∀ w', Below w.heap.size w w' → Calls Tryz.prog 36 #[.pointer (some ⟨p.b, 0, none⟩), .int .i64 t] w' fun e w'' => e = .returned (.int .i64 ((m.mem.waits t).length : Nat)) ∧ w'' = w') := fun w' hb => by
    rw [← hwt]; exact waiting_any p.b m.mem t w' (h.below hb).mem
  rw [h8] at HW
  have H := hide h
  clear h hy hn hx hf hw hv h8 hwt
  generalize (m.drain1 t).put t n wi v = m' at *
  generalize cellOf n = c at *
  generalize genOf n = g at *
  go_enter Tryz.func84, Tryz.ntmps84
  go_wp2_with fail
  refine HN.out.mono ?_
  rintro e w1 ⟨rfl, hb1⟩
  obtain ⟨W3, hW3⟩ : ∃ W3, W3 = w1.alloc (.cells #[.int .i64 c, .int .i64 g] 65) := ⟨_, rfl⟩
  obtain ⟨q0, q1⟩ := box2 w1 c g
  have B3 : Below w.heap.size w W3 := by rw [hW3]; exact hb1.alloc hb1.size _
  rw [← hW3] at q0 q1
  have n2 : ¬ p.fp w1.heap.size := fun e => by have := H.out.fp_lt e; have := hb1.size; omega
  clear HN hb1
  go_wp2_with fail
  rw [← hW3]
  clear hW3
  refine (HW.out _ B3).mono ?_
  rintro e w4 ⟨rfl, rfl⟩
  clear HW
  go_wp2_with fail
  refine (HD.out _ B3).mono ?_
  rintro e w5 ⟨rfl, h5⟩
  replace q0 : w5.cell? ⟨w1.heap.size, 0, none⟩ = some (.int .i64 c) := h5.keep q0 n2
  replace q1 : w5.cell? ⟨w1.heap.size, 1, none⟩ = some (.int .i64 g) := h5.keep q1 n2
  have H5 := hide ((MkStep.of_below B3 h5).below (Below.drewN' 1))
  clear HD h5 H n2
  go_wp2_with fail
  go_region_with (go_at_call 95; refine (HS.out _ H5.out).mono ?_; rintro e w6 ⟨rfl, h6⟩)
  all_goals
    go_wp2
    go_end0
    exact ⟨rfl, h6⟩

set_option maxRecDepth 20000 in
set_option maxHeartbeats 1000000 in
theorem kstore_no {a : Nat → Addr} {cs : List (List Ins)} {p : MkPl} {m : Mk} {w : World} (h : MkAt a cs p m w) {t : Nat} {n : Int} (hn : Wd n) (hf : m.faults ≤ 900000000) (hy : m.names n = false) (wi v : Int) :
    Calls Tryz.prog 84 #[.pointer (some ⟨p.b, 0, none⟩), .int .i64 t, .int .i64 n, .int .i64 wi, .int .i64 v] w fun e w' => e = .returned (.tuple #[]) ∧ MkStep a cs p w p.mv (m.addFault 1) w' := by
  have HN := hide (named_no hn h (by omega) hy)
  clear h hy hn hf
  go_enter Tryz.func84, Tryz.ntmps84
  go_wp2_with fail
  refine HN.out.mono ?_
  rintro e w1 ⟨rfl, h1⟩
  have H1 := hide (h1.below ((Below.refl _ _).alloc (Nat.le_refl _) (.cells #[.int .i64 0, .int .i64 0] 65)))
  clear h1 HN
  go_wp2
  refine bodyPost_ret (v := .tuple #[]) (by simp only [results, Tryz.results84]; go_simp) rfl ⟨rfl, H1.out⟩

theorem kstore_any {a : Nat → Addr} {cs : List (List Ins)} {p : MkPl} {m : Mk} {w : World} (h : MkAt a cs p m w) {t : Nat} (ht : t < cs.length) (hx : ∀ x ∈ m.mem.waits t, x.Ok) (hf : m.faults ≤ 900000000) {n : Int} (hn : Wd n) {wi : Nat} (hw : wi < 4) {v : Int} (hv : Wd v) :
    Calls Tryz.prog 84 #[.pointer (some ⟨p.b, 0, none⟩), .int .i64 t, .int .i64 n, .int .i64 wi, .int .i64 v] w fun e w' => e = .returned (.tuple #[]) ∧ MkStep a cs p w p.mv (m.store t n wi v) w' := by
  have h8 := (h.mem.line t (by rw [h.thr]; exact ht)).le
  unfold Mk.store
  cases hy : m.names n
  · rw [if_neg (by decide)]; exact kstore_no h hn hf hy wi v
  · rw [if_pos rfl]
    unfold Mk.room
    by_cases he : 8 ≤ (m.mem.waits t).length
    · rw [if_pos he]; exact kstore_full h ht hx hf (by omega) hn hy hw hv
    · rw [if_neg he]; exact kstore_few h ht hx hf (by omega) hn hy hw hv

theorem kalloc_none {a : Nat → Addr} {cs : List (List Ins)} {p : MkPl} {m : Mk} {w : World} (h : MkAt a cs p m w) {t : Nat} (ht : t < cs.length) (hf : m.mem.ar.free? = none) :
    Calls Tryz.prog 87 #[.pointer (some ⟨p.b, 0, none⟩), .int .i64 t] w fun e w' => e = .returned (.int .i64 0) ∧ Below w.heap.size w w' := by
  have HA := hide (mem_alloc_none h ht hf)
  clear h hf
  go_enter Tryz.func87, Tryz.ntmps87
  go_wp2_with fail
  refine HA.out.mono ?_
  rintro e w1 ⟨rfl, hb1⟩
  go_wp2
  go_ret
  exact ⟨rfl, hb1.alloc hb1.size _⟩

theorem kalloc_some {a : Nat → Addr} {cs : List (List Ins)} {p : MkPl} {m : Mk} {w : World} (h : MkAt a cs p m w) {t c : Nat} (ht : t < cs.length) (hf : m.mem.ar.free? = some c) (hg : m.mem.ar.given c ≤ 60000000) :
    Calls Tryz.prog 87 #[.pointer (some ⟨p.b, 0, none⟩), .int .i64 t] w fun e w' => e = .returned (.int .i64 ((m.mem.ar.given c : Int) * 64 + c + 1)) ∧ MkStep a cs p w p.mv (m.setMem (m.mem.give c)) w' := by
  have HA := hide (mem_alloc_some h ht hf hg)
  obtain ⟨h1, -, -⟩ := Ar.free_some hf
  have h64 := h.mem.ar.small
  have HW : Hid (∀ w', Calls Tryz.prog 98 #[.agg #[.int .i64 c, .int .i64 (m.mem.ar.given c)]] w' fun e w'' => e = .returned (.tuple #[.int .i64 ((m.mem.ar.given c : Int) * 64 + c + 1), .nilIface]) ∧ Below w'.heap.size w' w'') := fun w' => word_ok c _ w' ⟨by omega, by omega, by omega, by omega⟩
  clear h hf
  generalize m.setMem (m.mem.give c) = m' at *
  generalize (m.mem.ar.given c : Int) * 64 + c + 1 = V at *
  generalize (m.mem.ar.given c) = G at *
  go_enter Tryz.func87, Tryz.ntmps87
  go_wp2_with fail
  refine HA.out.mono ?_
  rintro e w1 ⟨rfl, k1⟩
  have H3 := hide (k1.below ((Below.refl _ _).alloc (Nat.le_refl _) (.cells #[.int .i64 c, .int .i64 G] 65)))
  clear k1 HA
  go_wp2_with fail
  refine (HW.out _).mono ?_
  rintro e w2 ⟨rfl, hb2⟩
  have H4 := hide (H3.out.below hb2)
  go_wp2
  go_ret
  exact ⟨rfl, H4.out⟩
end Go.Proofs.YtnnlkolhahjokaaGreatDoor

/- MkN -/
namespace Go.Proofs.YtnnlkolhahjokaaGreatDoor
open Go.RowKit Go.Extern.Stop Go.Stop Go.Extern Go.Maps Go.WideMaps Go.Sort

def Mk.loadM (m : Mk) (n : Int) : Mk := if m.names n = true then m else m.addFault 1
def Mk.loadV (m : Mk) (t : Nat) (n w : Int) : Int := if m.names n = true then m.loaded t n w else 0
def Mk.swapM (m : Mk) (t : Nat) (n w v : Int) : Mk := if m.names n = true then (m.fence t).setWord n w v else m.addFault 1
def Mk.swapV (m : Mk) (t : Nat) (n w : Int) : Int := if m.names n = true then (m.fence t).word n w else 0
def Mk.casM (m : Mk) (t : Nat) (n w old v : Int) : Mk := if m.names n = true then (m.fence t).setWord n w (casV ((m.fence t).word n w) old v) else m.addFault 1
def Mk.allocM (m : Mk) : Mk := match m.mem.ar.free? with
  | none => m
  | some c => m.setMem (m.mem.give c)
def Mk.allocV (m : Mk) : Int := match m.mem.ar.free? with
  | none => 0
  | some c => (m.mem.ar.given c : Int) * 64 + c + 1
theorem Mk.load_eq (m : Mk) (t a : Nat) (n w : Int) : m.load t a n w = (m.loadM n).setReg t a (m.loadV t n w) := by unfold Mk.load Mk.loadM Mk.loadV; split <;> rfl
theorem Mk.swap_eq (m : Mk) (t a : Nat) (n w v : Int) : m.swap t a n w v = (m.swapM t n w v).setReg t a (m.swapV t n w) := by unfold Mk.swap Mk.swapM Mk.swapV; split <;> rfl
theorem Mk.cas_eq (m : Mk) (t b : Nat) (n w old v : Int) : m.cas t b n w old v = (m.casM t n w old v).setReg t b (m.swapV t n w) := by unfold Mk.cas Mk.casM Mk.swapV; split <;> rfl
theorem Mk.alloc_eq (m : Mk) (t a : Nat) : m.alloc t a = (m.allocM).setReg t a m.allocV := by unfold Mk.alloc Mk.allocM Mk.allocV; cases m.mem.ar.free? <;> rfl

theorem Mk.loadM_regs (m : Mk) (n : Int) : (m.loadM n).regs = m.regs := by unfold Mk.loadM; split <;> rfl
theorem Mk.swapM_regs (m : Mk) (t : Nat) (n w v : Int) : (m.swapM t n w v).regs = m.regs := by unfold Mk.swapM; split <;> rfl
theorem Mk.casM_regs (m : Mk) (t : Nat) (n w old v : Int) : (m.casM t n w old v).regs = m.regs := by unfold Mk.casM; split <;> rfl
theorem Mk.allocM_regs (m : Mk) : m.allocM.regs = m.regs := by unfold Mk.allocM; cases m.mem.ar.free? <;> rfl

theorem kload_any {a : Nat → Addr} {cs : List (List Ins)} {p : MkPl} {m : Mk} {w : World} (h : MkAt a cs p m w) {t : Nat} (ht : t < cs.length) (hf : m.faults ≤ 900000000) {n : Int} (hn : Wd n) {wi : Nat} (hw : wi < 4) :
    Calls Tryz.prog 83 #[.pointer (some ⟨p.b, 0, none⟩), .int .i64 t, .int .i64 n, .int .i64 wi] w fun e w' => e = .returned (.int .i64 (m.loadV t n wi)) ∧ MkStep a cs p w p.mv (m.loadM n) w' := by
  unfold Mk.loadV Mk.loadM
  cases hy : m.names n
  · rw [if_neg (by decide), if_neg (by decide)]; exact kload_no h hn hf hy wi
  · rw [if_pos rfl, if_pos rfl]; exact (kload_yes h ht hn hy hw).mono fun e w' ⟨e1, e2⟩ => ⟨e1, MkStep.of_below' h e2⟩

theorem kswap_any {a : Nat → Addr} {cs : List (List Ins)} {p : MkPl} {m : Mk} {w : World} (h : MkAt a cs p m w) {t : Nat} (ht : t < cs.length) (hx : ∀ x ∈ m.mem.waits t, x.Ok) (hf : m.faults ≤ 900000000) {n : Int} (hn : Wd n) {wi : Nat} (hw : wi < 4) {v : Int} (hv : Wd v) :
    Calls Tryz.prog 85 #[.pointer (some ⟨p.b, 0, none⟩), .int .i64 t, .int .i64 n, .int .i64 wi, .int .i64 v] w fun e w' => e = .returned (.int .i64 (m.swapV t n wi)) ∧ MkStep a cs p w p.mv (m.swapM t n wi v) w' := by
  unfold Mk.swapV Mk.swapM
  cases hy : m.names n
  · rw [if_neg (by decide), if_neg (by decide)]; exact kswap_no h hn hf hy wi v
  · rw [if_pos rfl, if_pos rfl]; exact kswap_yes h ht hx hf hn hy hw hv

theorem kcas_any {a : Nat → Addr} {cs : List (List Ins)} {p : MkPl} {m : Mk} {w : World} (h : MkAt a cs p m w) {t : Nat} (ht : t < cs.length) (hx : ∀ x ∈ m.mem.waits t, x.Ok) (hf : m.faults ≤ 900000000) {n : Int} (hn : Wd n) {wi : Nat} (hw : wi < 4) {old v : Int} (ho : Wd old) (hv : Wd v) :
    Calls Tryz.prog 86 #[.pointer (some ⟨p.b, 0, none⟩), .int .i64 t, .int .i64 n, .int .i64 wi, .int .i64 old, .int .i64 v] w fun e w' => e = .returned (.int .i64 (m.swapV t n wi)) ∧ MkStep a cs p w p.mv (m.casM t n wi old v) w' := by
  unfold Mk.swapV Mk.casM
  cases hy : m.names n
  · rw [if_neg (by decide), if_neg (by decide)]; exact kcas_no h hn hf hy wi old v
  · rw [if_pos rfl, if_pos rfl]; exact kcas_yes h ht hx hf hn hy hw ho hv

theorem kfree_any {a : Nat → Addr} {cs : List (List Ins)} {p : MkPl} {m : Mk} {w : World} (h : MkAt a cs p m w) {t : Nat} (ht : t < cs.length) (hx : ∀ x ∈ m.mem.waits t, x.Ok) (hf : m.faults ≤ 900000000) {n : Int} (hn : Wd n) :
    Calls Tryz.prog 88 #[.pointer (some ⟨p.b, 0, none⟩), .int .i64 t, .int .i64 n] w fun e w' => e = .returned (.tuple #[]) ∧ MkStep a cs p w p.mv (m.free t n) w' := by
  unfold Mk.free
  cases hy : m.names n
  · rw [if_neg (by decide)]; exact kfree_no h hn hf hy
  · rw [if_pos rfl]; exact kfree_yes h ht hx hf hn hy

theorem kalloc_any {a : Nat → Addr} {cs : List (List Ins)} {p : MkPl} {m : Mk} {w : World} (h : MkAt a cs p m w) {t : Nat} (ht : t < cs.length) (hg : ∀ c, m.mem.ar.given c ≤ 60000000) :
    Calls Tryz.prog 87 #[.pointer (some ⟨p.b, 0, none⟩), .int .i64 t] w fun e w' => e = .returned (.int .i64 m.allocV) ∧ MkStep a cs p w p.mv m.allocM w' := by
  unfold Mk.allocV Mk.allocM
  cases hf : m.mem.ar.free? with
  | none => exact (kalloc_none h ht hf).mono fun e w' ⟨e1, e2⟩ => ⟨e1, MkStep.of_below' h e2⟩
  | some c => exact kalloc_some h ht hf (hg c)

theorem insX (w : World) (x : Ins) : (w.alloc (.cells #[.string x.op, .int .i64 x.a, .int .i64 x.b, .int .i64 x.c, .string x.to] 44)).cell? ⟨w.heap.size, 0, none⟩ = some (.string x.op) ∧
    (w.alloc (.cells #[.string x.op, .int .i64 x.a, .int .i64 x.b, .int .i64 x.c, .string x.to] 44)).cell? ⟨w.heap.size, 1, none⟩ = some (.int .i64 x.a) ∧
    (w.alloc (.cells #[.string x.op, .int .i64 x.a, .int .i64 x.b, .int .i64 x.c, .string x.to] 44)).cell? ⟨w.heap.size, 2, none⟩ = some (.int .i64 x.b) ∧
    (w.alloc (.cells #[.string x.op, .int .i64 x.a, .int .i64 x.b, .int .i64 x.c, .string x.to] 44)).cell? ⟨w.heap.size, 3, none⟩ = some (.int .i64 x.c) ∧
    (w.alloc (.cells #[.string x.op, .int .i64 x.a, .int .i64 x.b, .int .i64 x.c, .string x.to] 44)).cell? ⟨w.heap.size, 4, none⟩ = some (.string x.to) := ⟨by simp, by simp, by simp, by simp, by simp⟩

structure DoX (a : Nat → Addr) (cs : List (List Ins)) (p : MkPl) (m : Mk) (K t : Nat) (w : World) : Prop where
  at' : MkAt a cs p m w
  ok : MkOk cs.length K m
  ht : t < cs.length
  hK : K ≤ 10000000
theorem DoX.waits {a : Nat → Addr} {cs : List (List Ins)} {p : MkPl} {m : Mk} {K t : Nat} {w : World} (h : DoX a cs p m K t w) : ∀ x ∈ m.mem.waits t, x.Ok := h.ok.mem.ok t (by rw [h.ok.thr]; exact h.ht)
theorem DoX.faults {a : Nat → Addr} {cs : List (List Ins)} {p : MkPl} {m : Mk} {K t : Nat} {w : World} (h : DoX a cs p m K t w) : m.faults ≤ 900000000 := by have := h.ok.faults; have := h.hK; omega
theorem DoX.given {a : Nat → Addr} {cs : List (List Ins)} {p : MkPl} {m : Mk} {K t : Nat} {w : World} (h : DoX a cs p m K t w) : ∀ c, m.mem.ar.given c ≤ 60000000 := fun c => by have := h.ok.mem.given c; have := h.hK; omega
theorem DoX.t6 {a : Nat → Addr} {cs : List (List Ins)} {p : MkPl} {m : Mk} {K t : Nat} {w : World} (h : DoX a cs p m K t w) : t < 6 := Nat.lt_of_lt_of_le h.ht h.at'.few
theorem DoX.below {a : Nat → Addr} {cs : List (List Ins)} {p : MkPl} {m : Mk} {K t : Nat} {w w' : World} (h : DoX a cs p m K t w) (hb : Below w.heap.size w w') : DoX a cs p m K t w' := ⟨h.at'.below hb, h.ok, h.ht, h.hK⟩

end Go.Proofs.YtnnlkolhahjokaaGreatDoor
