import Derived.Test.YtnnlkolhahjokaaGreatDoorA19
import Derived.Lib.QuietBelow

/- MkG -/
namespace Go.Proofs.YtnnlkolhahjokaaGreatDoor
open Go.RowKit Go.Extern.Stop Go.Stop Go.Extern Go.Maps Go.WideMaps Go.Sort

theorem MkStep.setNew {a : Nat → Addr} {cs : List (List Ins)} {p : MkPl} {v : Value} {m : Mk} {w w' : World} (h : MkStep a cs p w v m w') {b o : Nat} (u : Value) (hb : w.heap.size ≤ b) (hn : ¬ (p.marked v).fp b) (hB : p.B ≤ b) : MkStep a cs p w v m (w'.setCell ⟨b, o, none⟩ u) :=
  ⟨h.at'.turns (S := fun k _ => k = b) ((Turns.refl _ _).setCell _ rfl) (fun k _ e => by rw [e]; exact hn) (fun k _ e => by rw [e]; exact hB), h.turns.setNew _ hb, h.fp⟩

theorem chk_zero (s : Ar) (c g : Int) : s.chk c g 0 [] = if s.has c g = true then 0 else 7 := by
  rw [Ar.chk_nil]
  cases h : s.has c g
  · rw [Ar.at_false h]; rfl
  · rw [Ar.at_ok h (by decide)]; rfl

set_option maxRecDepth 20000 in
set_option maxHeartbeats 1000000 in
theorem named_yes {a : Nat → Addr} {cs : List (List Ins)} {p : MkPl} {m : Mk} {n : Int} (hn : Wd n) {w : World} (h : MkAt a cs p m w) (hy : m.names n = true) :
    Calls Tryz.prog 93 #[.pointer (some ⟨p.b, 0, none⟩), .int .i64 n] w fun e w' => e = .returned (.tuple #[.agg #[.int .i64 (cellOf n), .int .i64 (genOf n)], .bool true]) ∧ Below w.heap.size w w' := by
  obtain ⟨hz, hh⟩ := (Bool.and_eq_true _ _).mp hy
  have hn0 : n ≠ 0 := by simpa using hz
  have h1 : 1 ≤ n := by have := hn.1; omega
  have HR : Hid (∀ w', True → Calls Tryz.prog 102 #[.int .i64 n] w' fun e w'' => e = .returned (.tuple #[.agg #[.int .i64 (cellOf n), .int .i64 (genOf n)], .nilIface]) ∧ Below w'.heap.size w' w'') := fun w' _ => ref_ok n w' h1 hn.2
  have hb0 : ∀ w', Below w.heap.size w w' → True := fun _ _ => trivial
  have HC : Hid (∀ w', Below w.heap.size w w' → Calls Tryz.prog 82 #[.pointer (some ⟨p.b, 0, none⟩), .agg #[.int .i64 (cellOf n), .int .i64 (genOf n)], .int .i64 0, .slice none 0 0] w' fun e w'' => e = .returned .nilIface ∧ Below w'.heap.size w' w'') := fun w' hb => by
    have := check_nil a p.b 0 m.mem.ar (cellOf n) (genOf n) 0 w' (h.below hb).env.toM (h.below hb).mem.ar
    rw [chk_zero, hh] at this
    exact this
  clear hy hz hh hn h
  generalize cellOf n = c at *
  generalize genOf n = g at *
  have hba : Below w.heap.size w (w.alloc (.cells #[.int .i64 0, .int .i64 0] 65)) := box_below 0 0 w
  have z0 : (w.alloc (.cells #[.int .i64 0, .int .i64 0] 65)).cell? ⟨w.heap.size, 0, none⟩ = some (.int .i64 0) := by simp
  have z1 : (w.alloc (.cells #[.int .i64 0, .int .i64 0] 65)).cell? ⟨w.heap.size, 1, none⟩ = some (.int .i64 0) := by simp
  have y0 : (w.alloc (.cells #[.int .i64 0, .int .i64 0] 65)).frozen? ⟨w.heap.size, 0, none⟩ = false := by simp
  have y1 : (w.alloc (.cells #[.int .i64 0, .int .i64 0] 65)).frozen? ⟨w.heap.size, 1, none⟩ = false := by simp
  generalize hw : w.alloc (.cells #[.int .i64 0, .int .i64 0] 65) = w1 at *
  go_enter Tryz.func93, Tryz.ntmps93
  go_wp2_with fail
  refine (HR.out _ (hb0 _ hba)).mono ?_
  rintro e w2 ⟨rfl, hb2⟩
  have hzl : w.heap.size < w1.heap.size := World.block_lt_of_cell? _ _ z0
  obtain ⟨W3, hW3⟩ : ∃ W3, W3 = w2.alloc (.cells #[.int .i64 c, .int .i64 g] 65) := ⟨_, rfl⟩
  have hb3 : Below w1.heap.size w1 W3 := by rw [hW3]; exact hb2.alloc hb2.size _
  have q0 : W3.cell? ⟨w2.heap.size, 0, none⟩ = some (.int .i64 c) := by rw [hW3]; simp
  have q1 : W3.cell? ⟨w2.heap.size, 1, none⟩ = some (.int .i64 g) := by rw [hW3]; simp
  have r0 := keep_cell hb3 z0
  have r1 := keep_cell hb3 z1
  have x0 : W3.frozen? ⟨w.heap.size, 0, none⟩ = false := by rw [hb3.frozen hzl]; exact y0
  have x1 : W3.frozen? ⟨w.heap.size, 1, none⟩ = false := by rw [hb3.frozen hzl]; exact y1
  have B3 := below_step hba hb3
  have l3 : w.heap.size < W3.heap.size := World.block_lt_of_cell? _ _ r0
  clear z0 z1 y0 y1 hw HR hb3
  go_wp2_with fail
  rw [← hW3]
  clear hW3 hb2 hzl
  have HCF : Hid (∀ d os, Calls Tryz.prog 82 #[.pointer (some ⟨p.b, 0, none⟩), .agg #[.int .i64 c, .int .i64 g], .int .i64 0, .slice none 0 0] (grow (redrawn W3 d) os) fun e w'' => e = .returned .nilIface ∧ ∃ p : Regrown, w'' = grow (redrawn W3 p.d) p.os) := fun d os =>
    Calls.regrown_of (HC.out _ (below_step B3 (below_regrown W3 d os)))
  have d0 := cell_regrown q0
  have d1 := cell_regrown q1
  clear HC
  go_wp2_with fail
  refine wp_region_quiet_below (by kernel_rfl) (by kernel_rfl) ?_
  repeat (first
    | go_big_quiet_step (exact HCF.out _ _)
    | quiet_step (exact HCF.out _ _))
  refine wpQuiet_nil ?_
  intro _ hw'
  obtain ⟨⟨dq, osq⟩, hw''⟩ := hw'
  subst hw''
  have hb4 := below_regrown W3 dq osq
  have B4 := below_step B3 hb4
  have e0 := d0 dq osq
  have e1 := d1 dq osq
  replace r0 := keep_cell hb4 r0
  replace r1 := keep_cell hb4 r1
  have x0' : (grow (redrawn W3 dq) osq).frozen? ⟨w.heap.size, 0, none⟩ = false := by rw [hb4.frozen l3]; exact x0
  have x1' : (grow (redrawn W3 dq) osq).frozen? ⟨w.heap.size, 1, none⟩ = false := by rw [hb4.frozen l3]; exact x1
  clear HCF d0 d1 q0 q1 x0 x1 B3 hb4 l3
  generalize grow (redrawn W3 dq) osq = w4 at *
  go_wp2
  refine bodyPost_ret (v := .tuple #[.agg #[.int .i64 c, .int .i64 g], .bool true]) (by simp only [results, Tryz.results93]; go_simp) rfl ⟨rfl, ?_⟩
  exact (B4.setCell (Nat.le_refl _) _).setCell (Nat.le_refl _) _

set_option maxRecDepth 20000 in
set_option maxHeartbeats 1000000 in
theorem named_gone {a : Nat → Addr} {cs : List (List Ins)} {p : MkPl} {m : Mk} {n : Int} (hn : Wd n) (hn0 : n ≠ 0) {w : World} (h : MkAt a cs p m w) (hf : m.faults ≤ 1000000000) (hh : m.mem.ar.has (cellOf n) (genOf n) = false) :
    Calls Tryz.prog 93 #[.pointer (some ⟨p.b, 0, none⟩), .int .i64 n] w fun e w' => e = .returned (.tuple #[.agg #[.int .i64 0, .int .i64 0], .bool false]) ∧ MkStep a cs p w p.mv (m.addFault 1) w' := by
  have h1 : 1 ≤ n := by have := hn.1; omega
  have HR : Hid (∀ w', True → Calls Tryz.prog 102 #[.int .i64 n] w' fun e w'' => e = .returned (.tuple #[.agg #[.int .i64 (cellOf n), .int .i64 (genOf n)], .nilIface]) ∧ Below w'.heap.size w' w'') := fun w' _ => ref_ok n w' h1 hn.2
  have hb0 : ∀ w', Below w.heap.size w w' → True := fun _ _ => trivial
  have HC : Hid (∀ w', Below w.heap.size w w' → Calls Tryz.prog 82 #[.pointer (some ⟨p.b, 0, none⟩), .agg #[.int .i64 (cellOf n), .int .i64 (genOf n)], .int .i64 0, .slice none 0 0] w' fun e w'' => e = .returned (errAt (a 6)) ∧ Below w'.heap.size w' w'') := fun w' hb => by
    have := check_nil a p.b 0 m.mem.ar (cellOf n) (genOf n) 0 w' (h.below hb).env.toM (h.below hb).mem.ar
    rw [chk_zero, hh] at this
    exact this
  have H := hide h
  clear hh hn h hn0
  generalize cellOf n = c at *
  generalize genOf n = g at *
  have hba : Below w.heap.size w (w.alloc (.cells #[.int .i64 0, .int .i64 0] 65)) := box_below 0 0 w
  have z0 : (w.alloc (.cells #[.int .i64 0, .int .i64 0] 65)).cell? ⟨w.heap.size, 0, none⟩ = some (.int .i64 0) := by simp
  have z1 : (w.alloc (.cells #[.int .i64 0, .int .i64 0] 65)).cell? ⟨w.heap.size, 1, none⟩ = some (.int .i64 0) := by simp
  have y0 : (w.alloc (.cells #[.int .i64 0, .int .i64 0] 65)).frozen? ⟨w.heap.size, 0, none⟩ = false := by simp
  have y1 : (w.alloc (.cells #[.int .i64 0, .int .i64 0] 65)).frozen? ⟨w.heap.size, 1, none⟩ = false := by simp
  generalize hw : w.alloc (.cells #[.int .i64 0, .int .i64 0] 65) = w1 at *
  go_enter Tryz.func93, Tryz.ntmps93
  go_wp2_with fail
  refine (HR.out _ (hb0 _ hba)).mono ?_
  rintro e w2 ⟨rfl, hb2⟩
  have hzl : w.heap.size < w1.heap.size := World.block_lt_of_cell? _ _ z0
  obtain ⟨W3, hW3⟩ : ∃ W3, W3 = w2.alloc (.cells #[.int .i64 c, .int .i64 g] 65) := ⟨_, rfl⟩
  have hb3 : Below w1.heap.size w1 W3 := by rw [hW3]; exact hb2.alloc hb2.size _
  have q0 : W3.cell? ⟨w2.heap.size, 0, none⟩ = some (.int .i64 c) := by rw [hW3]; simp
  have q1 : W3.cell? ⟨w2.heap.size, 1, none⟩ = some (.int .i64 g) := by rw [hW3]; simp
  have r0 := keep_cell hb3 z0
  have r1 := keep_cell hb3 z1
  have x0 : W3.frozen? ⟨w.heap.size, 0, none⟩ = false := by rw [hb3.frozen hzl]; exact y0
  have x1 : W3.frozen? ⟨w.heap.size, 1, none⟩ = false := by rw [hb3.frozen hzl]; exact y1
  have B3 := below_step hba hb3
  have l3 : w.heap.size < W3.heap.size := World.block_lt_of_cell? _ _ r0
  clear z0 z1 y0 y1 hw HR hb3
  go_wp2_with fail
  rw [← hW3]
  clear hW3 hb2 hzl
  have HCF : Hid (∀ d os, Calls Tryz.prog 82 #[.pointer (some ⟨p.b, 0, none⟩), .agg #[.int .i64 c, .int .i64 g], .int .i64 0, .slice none 0 0] (grow (redrawn W3 d) os) fun e w'' => e = .returned (errAt (a 6)) ∧ ∃ p : Regrown, w'' = grow (redrawn W3 p.d) p.os) := fun d os =>
    Calls.regrown_of (HC.out _ (below_step B3 (below_regrown W3 d os)))
  have d0 := cell_regrown q0
  have d1 := cell_regrown q1
  clear HC
  go_wp2_with fail
  refine wp_region_quiet_below (by kernel_rfl) (by kernel_rfl) ?_
  repeat (first
    | go_big_quiet_step (exact HCF.out _ _)
    | quiet_step (exact HCF.out _ _))
  refine wpQuiet_nil ?_
  intro _ hw'
  obtain ⟨⟨dq, osq⟩, hw''⟩ := hw'
  subst hw''
  have hb4 := below_regrown W3 dq osq
  have B4 := below_step B3 hb4
  have e0 := d0 dq osq
  have e1 := d1 dq osq
  replace r0 := keep_cell hb4 r0
  replace r1 := keep_cell hb4 r1
  have x0' : (grow (redrawn W3 dq) osq).frozen? ⟨w.heap.size, 0, none⟩ = false := by rw [hb4.frozen l3]; exact x0
  have x1' : (grow (redrawn W3 dq) osq).frozen? ⟨w.heap.size, 1, none⟩ = false := by rw [hb4.frozen l3]; exact x1
  clear HCF d0 d1 q0 q1 x0 x1 B3 hb4 l3
  generalize grow (redrawn W3 dq) osq = w4 at *
  have H4 := hide (H.out.below B4)
  have hF := H4.out.faults
  have hZ := H4.out.frozen 640 (by decide) (by decide)
  have hlk := H.out.lt
  have S4 : Hid (∀ u0 u1, MkStep a cs p w p.mv (m.addFault 1) (((w4.setCell ⟨p.b, 640, none⟩ (.int .i64 ((m.faults : Int) + 1))).setCell ⟨w.heap.size, 0, none⟩ u0).setCell ⟨w.heap.size, 1, none⟩ u1)) := fun u0 u1 => by
    have hn : ¬ p.fp w.heap.size := fun e => by have := H.out.fp_lt e; omega
    have hB := H.out.pg.size
    exact ((MkStep.of_below B4 H4.out.fault1).setNew u0 (Nat.le_refl _) hn hB).setNew u1 (Nat.le_refl _) hn hB
  clear H4 H B4
  go_wp2
  refine bodyPost_ret (v := .tuple #[.agg #[.int .i64 0, .int .i64 0], .bool false]) (by simp only [results, Tryz.results93]; go_simp) rfl ⟨rfl, ?_⟩
  exact S4.out _ _

set_option maxRecDepth 20000 in
set_option maxHeartbeats 1000000 in
theorem named_zero {a : Nat → Addr} {cs : List (List Ins)} {p : MkPl} {m : Mk} {w : World} (h : MkAt a cs p m w) (hf : m.faults ≤ 1000000000) :
    Calls Tryz.prog 93 #[.pointer (some ⟨p.b, 0, none⟩), .int .i64 0] w fun e w' => e = .returned (.tuple #[.agg #[.int .i64 0, .int .i64 0], .bool false]) ∧ MkStep a cs p w p.mv (m.addFault 1) w' := by
  have HR : Hid (∀ w', Env a w' → Calls Tryz.prog 102 #[.int .i64 0] w' fun e w'' => e = .returned (.tuple #[.agg #[.int .i64 0, .int .i64 0], errAt (a 4)]) ∧ Below w'.heap.size w' w'') := fun w' hE => ref_zero a w' hE
  have hb0 : ∀ w', Below w.heap.size w w' → Env a w' := fun _ hb => (h.below hb).env
  have H := hide h
  clear h
  have hba : Below w.heap.size w (w.alloc (.cells #[.int .i64 0, .int .i64 0] 65)) := box_below 0 0 w
  have z0 : (w.alloc (.cells #[.int .i64 0, .int .i64 0] 65)).cell? ⟨w.heap.size, 0, none⟩ = some (.int .i64 0) := by simp
  have z1 : (w.alloc (.cells #[.int .i64 0, .int .i64 0] 65)).cell? ⟨w.heap.size, 1, none⟩ = some (.int .i64 0) := by simp
  have y0 : (w.alloc (.cells #[.int .i64 0, .int .i64 0] 65)).frozen? ⟨w.heap.size, 0, none⟩ = false := by simp
  have y1 : (w.alloc (.cells #[.int .i64 0, .int .i64 0] 65)).frozen? ⟨w.heap.size, 1, none⟩ = false := by simp
  generalize hw : w.alloc (.cells #[.int .i64 0, .int .i64 0] 65) = w1 at *
  go_enter Tryz.func93, Tryz.ntmps93
  go_wp2_with fail
  refine (HR.out _ (hb0 _ hba)).mono ?_
  rintro e w2 ⟨rfl, hb2⟩
  have hzl : w.heap.size < w1.heap.size := World.block_lt_of_cell? _ _ z0
  have hzl2 : w.heap.size < w2.heap.size := Nat.lt_of_lt_of_le hzl hb2.size
  have B2 := below_step hba hb2
  have r0 := keep_cell hb2 z0
  have r1 := keep_cell hb2 z1
  have x0 : w2.frozen? ⟨w.heap.size, 0, none⟩ = false := by rw [hb2.frozen hzl]; exact y0
  have x1 : w2.frozen? ⟨w.heap.size, 1, none⟩ = false := by rw [hb2.frozen hzl]; exact y1
  have H4 := hide (H.out.below B2)
  have hF := (H.out.below B2).faults
  have hZ := (H.out.below B2).frozen 640 (by decide) (by decide)
  have hlk := H.out.lt
  have hlk2 : p.b < w2.heap.size := Nat.lt_of_lt_of_le hlk B2.size
  have S4 : Hid (∀ u0 u1, MkStep a cs p w p.mv (m.addFault 1) ((((w2.setCell ⟨p.b, 640, none⟩ (.int .i64 ((m.faults : Int) + 1))).setCell ⟨w.heap.size, 0, none⟩ u0).setCell ⟨w.heap.size, 1, none⟩ u1).alloc (.cells #[.int .i64 0, .int .i64 0] 65))) := fun u0 u1 => by
    have hn : ¬ p.fp w.heap.size := fun e => by have := H.out.fp_lt e; omega
    have hB := H.out.pg.size
    exact (((MkStep.of_below B2 H4.out.fault1).setNew u0 (Nat.le_refl _) hn hB).setNew u1 (Nat.le_refl _) hn hB).below ((Below.refl _ _).alloc (Nat.le_refl _) _)
  clear H4 H B2 z0 z1 y0 y1 hw HR hb2 hb0 hba hzl
  go_wp2
  refine bodyPost_ret (v := .tuple #[.agg #[.int .i64 0, .int .i64 0], .bool false]) (by simp only [results, Tryz.results93]; go_simp) rfl ⟨rfl, ?_⟩
  exact S4.out _ _

theorem named_no {a : Nat → Addr} {cs : List (List Ins)} {p : MkPl} {m : Mk} {n : Int} (hn : Wd n) {w : World} (h : MkAt a cs p m w) (hf : m.faults ≤ 1000000000) (hy : m.names n = false) :
    Calls Tryz.prog 93 #[.pointer (some ⟨p.b, 0, none⟩), .int .i64 n] w fun e w' => e = .returned (.tuple #[.agg #[.int .i64 0, .int .i64 0], .bool false]) ∧ MkStep a cs p w p.mv (m.addFault 1) w' := by
  by_cases h0 : n = 0
  · subst h0; exact named_zero h hf
  · refine named_gone hn h0 h hf ?_
    unfold Mk.names at hy
    have hb : (n == 0) = false := beq_eq_false_iff_ne.2 h0
    rw [hb] at hy
    simpa using hy
end Go.Proofs.YtnnlkolhahjokaaGreatDoor

/- MkH -/
namespace Go.Proofs.YtnnlkolhahjokaaGreatDoor
open Go.RowKit Go.Extern.Stop Go.Stop Go.Extern Go.Maps Go.WideMaps Go.Sort

theorem MkStep.keep {a : Nat → Addr} {cs : List (List Ins)} {p : MkPl} {v : Value} {m : Mk} {w w' : World} (k : MkStep a cs p w v m w') {b o : Nat} {u : Value} (hc : w.cell? ⟨b, o, none⟩ = some u) (hb : ¬ p.fp b) : w'.cell? ⟨b, o, none⟩ = some u := k.turns.keep hc hb
theorem MkStep.keepF {a : Nat → Addr} {cs : List (List Ins)} {p : MkPl} {v : Value} {m : Mk} {w w' : World} (k : MkStep a cs p w v m w') {b o : Nat} (hl : b < w.heap.size) (hc : w.frozen? ⟨b, o, none⟩ = false) (hb : ¬ p.fp b) : w'.frozen? ⟨b, o, none⟩ = false := by
  rw [k.turns.frozen _ _ hl hb]; exact hc

set_option maxRecDepth 20000 in
set_option maxHeartbeats 1000000 in
theorem ready_yes {a : Nat → Addr} {cs : List (List Ins)} {p : MkPl} {m : Mk} {t : Nat} (ht : t < cs.length) {n : Int} (hn : Wd n) {w : World} (h : MkAt a cs p m w) (hx : ∀ x ∈ m.mem.waits t, x.Ok) (hf : m.faults ≤ 900000000) (hy : m.names n = true) :
    Calls Tryz.prog 96 #[.pointer (some ⟨p.b, 0, none⟩), .int .i64 t, .int .i64 n] w fun e w' => e = .returned (.tuple #[.agg #[.int .i64 (cellOf n), .int .i64 (genOf n)], .bool true]) ∧ MkStep a cs p w p.mv (m.fence t) w' := by
  have HN : Hid (∀ w', Below w.heap.size w w' → Calls Tryz.prog 93 #[.pointer (some ⟨p.b, 0, none⟩), .int .i64 n] w' fun e w'' => e = .returned (.tuple #[.agg #[.int .i64 (cellOf n), .int .i64 (genOf n)], .bool true]) ∧ Below w'.heap.size w' w'') := fun w' hb => named_yes hn (h.below hb) hy
  have HF : Hid (∀ w', Below w.heap.size w w' → Calls Tryz.prog 89 #[.pointer (some ⟨p.b, 0, none⟩), .int .i64 t] w' fun e w'' => e = .returned (.tuple #[]) ∧ MkStep a cs p w' p.mv (m.fence t) w'') := fun w' hb => kfence_any ht (h.below hb) hx hf
  have H := hide h
  clear hy hn h hx hf
  generalize cellOf n = c at *
  generalize genOf n = g at *
  have hba : Below w.heap.size w (w.alloc (.cells #[.int .i64 0, .int .i64 0] 65)) := box_below 0 0 w
  have z0 : (w.alloc (.cells #[.int .i64 0, .int .i64 0] 65)).cell? ⟨w.heap.size, 0, none⟩ = some (.int .i64 0) := by simp
  have z1 : (w.alloc (.cells #[.int .i64 0, .int .i64 0] 65)).cell? ⟨w.heap.size, 1, none⟩ = some (.int .i64 0) := by simp
  have y0 : (w.alloc (.cells #[.int .i64 0, .int .i64 0] 65)).frozen? ⟨w.heap.size, 0, none⟩ = false := by simp
  have y1 : (w.alloc (.cells #[.int .i64 0, .int .i64 0] 65)).frozen? ⟨w.heap.size, 1, none⟩ = false := by simp
  generalize hw : w.alloc (.cells #[.int .i64 0, .int .i64 0] 65) = w1 at *
  go_enter Tryz.func96, Tryz.ntmps96
  go_wp2_with fail
  refine (HN.out _ hba).mono ?_
  rintro e w2 ⟨rfl, hb2⟩
  have hzl : w.heap.size < w1.heap.size := World.block_lt_of_cell? _ _ z0
  obtain ⟨W3, hW3⟩ : ∃ W3, W3 = w2.alloc (.cells #[.int .i64 c, .int .i64 g] 65) := ⟨_, rfl⟩
  have hb3 : Below w1.heap.size w1 W3 := by rw [hW3]; exact hb2.alloc hb2.size _
  have q0 : W3.cell? ⟨w2.heap.size, 0, none⟩ = some (.int .i64 c) := by rw [hW3]; simp
  have q1 : W3.cell? ⟨w2.heap.size, 1, none⟩ = some (.int .i64 g) := by rw [hW3]; simp
  have r0 := keep_cell hb3 z0
  have r1 := keep_cell hb3 z1
  have x0 : W3.frozen? ⟨w.heap.size, 0, none⟩ = false := by rw [hb3.frozen hzl]; exact y0
  have x1 : W3.frozen? ⟨w.heap.size, 1, none⟩ = false := by rw [hb3.frozen hzl]; exact y1
  have B3 := below_step hba hb3
  have l3 : w.heap.size < W3.heap.size := World.block_lt_of_cell? _ _ r0
  have n0 : ¬ p.fp w.heap.size := fun e => by have := H.out.fp_lt e; omega
  have n2 : ¬ p.fp w2.heap.size := fun e => by have := H.out.fp_lt e; have := hb2.size; omega
  clear z0 z1 y0 y1 hw HN hb3
  go_wp2_with fail
  rw [← hW3]
  clear hW3 hb2 hzl
  refine (HF.out _ B3).mono ?_
  rintro e w4 ⟨rfl, h4⟩
  replace q0 := h4.keep q0 n2
  replace q1 := h4.keep q1 n2
  replace r0 := h4.keep r0 n0
  replace r1 := h4.keep r1 n0
  replace x0 := h4.keepF l3 x0 n0
  replace x1 := h4.keepF l3 x1 n0
  have S4 : Hid (∀ u0 u1, MkStep a cs p w p.mv (m.fence t) ((w4.setCell ⟨w.heap.size, 0, none⟩ u0).setCell ⟨w.heap.size, 1, none⟩ u1)) := fun u0 u1 => by
    have hB := H.out.pg.size
    exact ((MkStep.of_below B3 h4).setNew u0 (Nat.le_refl _) n0 hB).setNew u1 (Nat.le_refl _) n0 hB
  clear h4 H B3 n0 n2 HF
  go_wp2
  refine bodyPost_ret (v := .tuple #[.agg #[.int .i64 c, .int .i64 g], .bool true]) (by simp only [results, Tryz.results96]; go_simp) rfl ⟨rfl, ?_⟩
  exact S4.out _ _

set_option maxRecDepth 20000 in
set_option maxHeartbeats 1000000 in
theorem ready_no {a : Nat → Addr} {cs : List (List Ins)} {p : MkPl} {m : Mk} {t : Nat} {n : Int} (hn : Wd n) {w : World} (h : MkAt a cs p m w) (hf : m.faults ≤ 900000000) (hy : m.names n = false) :
    Calls Tryz.prog 96 #[.pointer (some ⟨p.b, 0, none⟩), .int .i64 t, .int .i64 n] w fun e w' => e = .returned (.tuple #[.agg #[.int .i64 0, .int .i64 0], .bool false]) ∧ MkStep a cs p w p.mv (m.addFault 1) w' := by
  have HN : Hid (∀ w', Below w.heap.size w w' → Calls Tryz.prog 93 #[.pointer (some ⟨p.b, 0, none⟩), .int .i64 n] w' fun e w'' => e = .returned (.tuple #[.agg #[.int .i64 0, .int .i64 0], .bool false]) ∧ MkStep a cs p w' p.mv (m.addFault 1) w'') := fun w' hb => named_no hn (h.below hb) (by omega) hy
  have H := hide h
  clear hy hn h hf
  generalize m.addFault 1 = m' at *
  have hba : Below w.heap.size w (w.alloc (.cells #[.int .i64 0, .int .i64 0] 65)) := box_below 0 0 w
  have z0 : (w.alloc (.cells #[.int .i64 0, .int .i64 0] 65)).cell? ⟨w.heap.size, 0, none⟩ = some (.int .i64 0) := by simp
  have z1 : (w.alloc (.cells #[.int .i64 0, .int .i64 0] 65)).cell? ⟨w.heap.size, 1, none⟩ = some (.int .i64 0) := by simp
  have y0 : (w.alloc (.cells #[.int .i64 0, .int .i64 0] 65)).frozen? ⟨w.heap.size, 0, none⟩ = false := by simp
  have y1 : (w.alloc (.cells #[.int .i64 0, .int .i64 0] 65)).frozen? ⟨w.heap.size, 1, none⟩ = false := by simp
  generalize hw : w.alloc (.cells #[.int .i64 0, .int .i64 0] 65) = w1 at *
  go_enter Tryz.func96, Tryz.ntmps96
  go_wp2_with fail
  refine (HN.out _ hba).mono ?_
  rintro e w2 ⟨rfl, h2⟩
  have hzl : w.heap.size < w1.heap.size := World.block_lt_of_cell? _ _ z0
  have n0 : ¬ p.fp w.heap.size := fun e => by have := H.out.fp_lt e; omega
  have hzl2 : w.heap.size < w2.heap.size := Nat.lt_of_lt_of_le hzl h2.turns.size
  have r0 := h2.keep z0 n0
  have r1 := h2.keep z1 n0
  have x0 := h2.keepF hzl y0 n0
  have x1 := h2.keepF hzl y1 n0
  have S4 : Hid (∀ u0 u1, MkStep a cs p w p.mv m' (((w2.setCell ⟨w.heap.size, 0, none⟩ u0).setCell ⟨w.heap.size, 1, none⟩ u1).alloc (.cells #[.int .i64 0, .int .i64 0] 65))) := fun u0 u1 => by
    have hB := H.out.pg.size
    exact (((MkStep.of_below hba h2).setNew u0 (Nat.le_refl _) n0 hB).setNew u1 (Nat.le_refl _) n0 hB).below ((Below.refl _ _).alloc (Nat.le_refl _) _)
  clear h2 H n0 z0 z1 y0 y1 HN hw hba
  go_wp2
  refine bodyPost_ret (v := .tuple #[.agg #[.int .i64 0, .int .i64 0], .bool false]) (by simp only [results, Tryz.results96]; go_simp) rfl ⟨rfl, ?_⟩
  exact S4.out _ _
end Go.Proofs.YtnnlkolhahjokaaGreatDoor

/- MkI -/
namespace Go.Proofs.YtnnlkolhahjokaaGreatDoor
open Go.RowKit Go.Extern.Stop Go.Stop Go.Extern Go.Maps Go.WideMaps Go.Sort

theorem Mk.fence_waits (m : Mk) (t : Nat) : (m.fence t).mem.waits t = [] := Rm.drainAll_waits _ _ _ rfl
theorem Mk.fence_has (m : Mk) (t : Nat) (c g : Int) : (m.fence t).mem.ar.has c g = m.mem.ar.has c g := Rm.drainAll_has _ _ _ _ _
theorem Mk.fence_names (m : Mk) (t : Nat) (n : Int) : (m.fence t).names n = m.names n := by
  unfold Mk.names
  rw [Mk.fence_has]
theorem Mk.names_has {m : Mk} {n : Int} (h : m.names n = true) : m.mem.ar.has (cellOf n) (genOf n) = true := ((Bool.and_eq_true _ _).mp h).2

theorem MkAt.cell {a : Nat → Addr} {cs : List (List Ins)} {p : MkPl} {m : Mk} {w : World} (h : MkAt a cs p m w) {n : Int} (hy : m.names n = true) : ∃ k : Nat, cellOf n = k ∧ k < 64 ∧ m.mem.ar.has k (genOf n) = true := by
  have hh := Mk.names_has hy
  obtain ⟨k, hc, hk, -, -⟩ := Ar.has_lt hh
  have h64 := h.mem.ar.small
  exact ⟨k, hc, by omega, by rw [← hc]; exact hh⟩

theorem mem_load {a : Nat → Addr} {cs : List (List Ins)} {p : MkPl} {m : Mk} {w : World} (h : MkAt a cs p m w) {t : Nat} (ht : t < cs.length) {n : Int} (hy : m.names n = true) {wi : Nat} (hw : wi < 4) :
    Calls Tryz.prog 94 #[.pointer (some ⟨p.b, 0, none⟩), .int .i64 t, .agg #[.int .i64 (cellOf n), .int .i64 (genOf n)], .int .i64 wi] w fun e w' => e = .returned (.tuple #[.int .i64 (m.loaded t n wi), .nilIface]) ∧ Below w.heap.size w w' := by
  obtain ⟨k, hc, hk, hh⟩ := h.cell hy
  have := mload_ok a p.b m.mem t k wi (genOf n) w h.env.toM h.mem (by rw [h.thr]; exact ht) hk hh hw
  unfold Mk.loaded
  rw [hc]
  exact this

theorem mem_swap {a : Nat → Addr} {cs : List (List Ins)} {p : MkPl} {m : Mk} {w : World} (h : MkAt a cs p m w) {t : Nat} (ht : t < cs.length) (hws : m.mem.waits t = []) {n : Int} (hy : m.names n = true) {wi : Nat} (hw : wi < 4) {v : Int} (hv : Wd v) :
    Calls Tryz.prog 32 #[.pointer (some ⟨p.b, 0, none⟩), .int .i64 t, .agg #[.int .i64 (cellOf n), .int .i64 (genOf n)], .int .i64 wi, .int .i64 v] w fun e w' => e = .returned (.tuple #[.int .i64 (m.word n wi), .nilIface]) ∧ MkStep a cs p w p.mv (m.setWord n wi v) w' := by
  obtain ⟨k, hc, hk, hh⟩ := h.cell hy
  have := mswap_ok a p.B p.b m.mem t k wi (genOf n) v w h.pg.envB h.hB h.mem (by rw [h.thr]; exact ht) (by rw [hws]; exact fun x hx => absurd hx List.not_mem_nil) hk hw hh hv (by rw [hws]; exact Nat.lt_irrefl _)
  rw [hws] at this
  unfold Mk.word Mk.setWord
  rw [hc]
  exact this.mono fun e w' ⟨e1, e2⟩ => ⟨e1, h.ofMem e2 rfl⟩

theorem mem_cas {a : Nat → Addr} {cs : List (List Ins)} {p : MkPl} {m : Mk} {w : World} (h : MkAt a cs p m w) {t : Nat} (ht : t < cs.length) (hws : m.mem.waits t = []) {n : Int} (hy : m.names n = true) {wi : Nat} (hw : wi < 4) {old v : Int} (ho : Wd old) (hv : Wd v) :
    Calls Tryz.prog 97 #[.pointer (some ⟨p.b, 0, none⟩), .int .i64 t, .agg #[.int .i64 (cellOf n), .int .i64 (genOf n)], .int .i64 wi, .int .i64 old, .int .i64 v] w fun e w' => e = .returned (.tuple #[.int .i64 (m.word n wi), .nilIface]) ∧ MkStep a cs p w p.mv (m.setWord n wi (casV (m.word n wi) old v)) w' := by
  obtain ⟨k, hc, hk, hh⟩ := h.cell hy
  have := mcas_ok a p.B p.b m.mem t k wi (genOf n) old v w h.pg.envB h.hB h.mem (by rw [h.thr]; exact ht) (by rw [hws]; exact fun x hx => absurd hx List.not_mem_nil) hk hw hh ho hv (by rw [hws]; exact Nat.lt_irrefl _)
  rw [hws] at this
  unfold Mk.word Mk.setWord
  rw [hc]
  exact this.mono fun e w' ⟨e1, e2⟩ => ⟨e1, h.ofMem e2 rfl⟩

theorem mem_free {a : Nat → Addr} {cs : List (List Ins)} {p : MkPl} {m : Mk} {w : World} (h : MkAt a cs p m w) {t : Nat} (ht : t < cs.length) (hws : m.mem.waits t = []) {n : Int} (hy : m.names n = true) :
    Calls Tryz.prog 99 #[.pointer (some ⟨p.b, 0, none⟩), .int .i64 t, .agg #[.int .i64 (cellOf n), .int .i64 (genOf n)]] w fun e w' => e = .returned .nilIface ∧ MkStep a cs p w p.mv (m.setMem (m.mem.setThere (cellOf n).toNat false)) w' := by
  obtain ⟨k, hc, hk, hh⟩ := h.cell hy
  have := mfree_ok a p.B p.b m.mem t k (genOf n) w h.pg.envB h.hB h.mem (by rw [h.thr]; exact ht) (by rw [hws]; exact fun x hx => absurd hx List.not_mem_nil) hk hh (by rw [hws]; exact Nat.lt_irrefl _)
  rw [hws] at this
  rw [hc]
  exact this.mono fun e w' ⟨e1, e2⟩ => ⟨e1, h.ofMem e2 rfl⟩

theorem mem_store {a : Nat → Addr} {cs : List (List Ins)} {p : MkPl} {m : Mk} {w : World} (h : MkAt a cs p m w) {t : Nat} (ht : t < cs.length) (h8 : (m.mem.waits t).length < 8) {n : Int} (hy : m.names n = true) {wi : Nat} (hw : wi < 4) {v : Int} (hv : Wd v) :
    Calls Tryz.prog 95 #[.pointer (some ⟨p.b, 0, none⟩), .int .i64 t, .agg #[.int .i64 (cellOf n), .int .i64 (genOf n)], .int .i64 wi, .int .i64 v] w fun e w' => e = .returned .nilIface ∧ MkStep a cs p w p.mv (m.put t n wi v) w' := by
  have ht' : t < m.mem.threads := by rw [h.thr]; exact ht
  have hm : m.mem.may t (cellOf n) (genOf n) wi [v] = 0 := by rw [Rm.may_yes ht']; exact Ar.chk_one_ok (Mk.names_has hy) (by omega) hv
  have := mstore_ok a p.b m.mem t (cellOf n) (genOf n) wi v w h.env.toM h.mem ht' hm h8
  exact this.mono fun e w' ⟨e1, e2⟩ => ⟨e1, h.ofMem e2 rfl⟩

theorem mem_alloc_none {a : Nat → Addr} {cs : List (List Ins)} {p : MkPl} {m : Mk} {w : World} (h : MkAt a cs p m w) {t : Nat} (ht : t < cs.length) (hf : m.mem.ar.free? = none) :
    Calls Tryz.prog 31 #[.pointer (some ⟨p.b, 0, none⟩), .int .i64 t] w fun e w' => e = .returned (.tuple #[.agg #[.int .i64 0, .int .i64 0], errAt (a 5)]) ∧ Below w.heap.size w w' :=
  malloc_full a p.b m.mem t w h.env.toM h.mem (by rw [h.thr]; exact ht) (Ar.free_none hf)

theorem mem_alloc_some {a : Nat → Addr} {cs : List (List Ins)} {p : MkPl} {m : Mk} {w : World} (h : MkAt a cs p m w) {t c : Nat} (ht : t < cs.length) (hf : m.mem.ar.free? = some c) (hg : m.mem.ar.given c ≤ 60000000) :
    Calls Tryz.prog 31 #[.pointer (some ⟨p.b, 0, none⟩), .int .i64 t] w fun e w' => e = .returned (.tuple #[.agg #[.int .i64 c, .int .i64 (m.mem.ar.given c)], .nilIface]) ∧ MkStep a cs p w p.mv (m.setMem (m.mem.give c)) w' := by
  obtain ⟨h1, h2, h3⟩ := Ar.free_some hf
  exact (malloc_some p.b m.mem t c w h.mem (by rw [h.thr]; exact ht) h1 h2 h3 (by omega)).mono fun e w' ⟨e1, e2⟩ => ⟨e1, h.ofMem e2 rfl⟩
end Go.Proofs.YtnnlkolhahjokaaGreatDoor
