import Derived.Test.YtnnlkolhahjokaaGreatDoorB10

/- MemJ -/
namespace Go.Proofs.YtnnlkolhahjokaaGreatDoor
open Go.RowKit Go.Extern.Stop Go.Stop Go.Extern Go.Sort

theorem ref_below (w : World) : Below w.heap.size w (w.alloc (.cells #[.int .i64 0, .int .i64 0] 65)) := box_below 0 0 w

theorem malloc_full (a : Nat → Addr) (b : Nat) (s : Rm) (t : Nat) (w : World) (hE : EnvM a w) (h : MmAt b s w) (ht : t < s.threads) (hfl : ∀ j, j < s.ar.size → s.ar.there j = true) :
    Calls Tryz.prog 31 #[.pointer (some ⟨b, 0, none⟩), .int .i64 t] w fun e w' => e = .returned (.tuple #[.agg #[.int .i64 0, .int .i64 0], errAt (a 5)]) ∧ Below w.heap.size w w' := by
  have hba := ref_below w
  have h1 := h.alloc (.cells #[.int .i64 0, .int .i64 0] 65)
  have HH := has_m_yes b s t _ h1 ht
  have HA := alloc_full a b 0 s.ar _ (hE.below hba.block) h1.ar hfl
  have z0 : (w.alloc (.cells #[.int .i64 0, .int .i64 0] 65)).cell? ⟨w.heap.size, 0, none⟩ = some (.int .i64 0) := by simp
  have z1 : (w.alloc (.cells #[.int .i64 0, .int .i64 0] 65)).cell? ⟨w.heap.size, 1, none⟩ = some (.int .i64 0) := by simp
  have y0 : (w.alloc (.cells #[.int .i64 0, .int .i64 0] 65)).frozen? ⟨w.heap.size, 0, none⟩ = false := by simp
  have y1 : (w.alloc (.cells #[.int .i64 0, .int .i64 0] 65)).frozen? ⟨w.heap.size, 1, none⟩ = false := by simp
  clear h h1
  generalize hw : w.alloc (.cells #[.int .i64 0, .int .i64 0] 65) = w1 at *
  go_enter Tryz.func31, Tryz.ntmps31
  go_wp2_with fail
  refine HH.mono ?_
  rintro e0 w2 ⟨rfl, rfl⟩
  clear HH hw
  go_wp2_with fail
  refine HA.mono ?_
  rintro e1 w3 ⟨rfl, hb3⟩
  have r0 := keep_cell hb3 z0
  have r1 := keep_cell hb3 z1
  have hzl : w.heap.size < w2.heap.size := World.block_lt_of_cell? _ _ z0
  have x0 : w3.frozen? ⟨w.heap.size, 0, none⟩ = false := by rw [hb3.frozen hzl]; exact y0
  have x1 : w3.frozen? ⟨w.heap.size, 1, none⟩ = false := by rw [hb3.frozen hzl]; exact y1
  have B3 := below_step hba hb3
  clear z0 z1 y0 y1 HA hb3
  go_wp2
  refine bodyPost_ret (v := .tuple #[.agg #[.int .i64 0, .int .i64 0], errAt (a 5)]) (by simp only [results, Tryz.results31]; go_simp) rfl ⟨rfl, ?_⟩
  exact (B3.setCell (Nat.le_refl _) _).setCell (Nat.le_refl _) _

theorem malloc_some (b : Nat) (s : Rm) (t c : Nat) (w : World) (h : MmAt b s w) (ht : t < s.threads) (hc : c < s.ar.size) (hfl : ∀ j, j < c → s.ar.there j = true) (hth : s.ar.there c = false) (hg : s.ar.given c + 1 < 4611686018427387904) :
    Calls Tryz.prog 31 #[.pointer (some ⟨b, 0, none⟩), .int .i64 t] w fun e w' => e = .returned (.tuple #[.agg #[.int .i64 c, .int .i64 (s.ar.given c)], .nilIface]) ∧ MmStep b w (s.give c) w' := by
  have hba := ref_below w
  have h1 := h.alloc (.cells #[.int .i64 0, .int .i64 0] 65)
  have hl := h.lt
  have HH := has_m_yes b s t _ h1 ht
  have HA : Hid (Calls Tryz.prog 44 #[.pointer (some ⟨b, 0, none⟩)] (w.alloc (.cells #[.int .i64 0, .int .i64 0] 65)) fun e w' => e = .returned (.tuple #[.agg #[.int .i64 c, .int .i64 (s.ar.given c)], .nilIface]) ∧ MmStep b (w.alloc (.cells #[.int .i64 0, .int .i64 0] 65)) (s.give c) w') :=
    (alloc_some b 0 s.ar c _ h1.ar hc hfl hth hg).mono fun _ _ ⟨e1, e2, e3⟩ => ⟨e1, h1.arena e2 e3⟩
  have z0 : (w.alloc (.cells #[.int .i64 0, .int .i64 0] 65)).cell? ⟨w.heap.size, 0, none⟩ = some (.int .i64 0) := by simp
  have z1 : (w.alloc (.cells #[.int .i64 0, .int .i64 0] 65)).cell? ⟨w.heap.size, 1, none⟩ = some (.int .i64 0) := by simp
  have y0 : (w.alloc (.cells #[.int .i64 0, .int .i64 0] 65)).frozen? ⟨w.heap.size, 0, none⟩ = false := by simp
  have y1 : (w.alloc (.cells #[.int .i64 0, .int .i64 0] 65)).frozen? ⟨w.heap.size, 1, none⟩ = false := by simp
  clear h h1
  generalize hw : w.alloc (.cells #[.int .i64 0, .int .i64 0] 65) = w1 at *
  go_enter Tryz.func31, Tryz.ntmps31
  go_wp2_with fail
  refine HH.mono ?_
  rintro e0 w2 ⟨rfl, rfl⟩
  clear HH hw
  go_wp2_with fail
  refine HA.out.mono ?_
  rintro e1 w3 ⟨rfl, h3⟩
  have t3 := h3.turns
  have hzl : w.heap.size < w2.heap.size := World.block_lt_of_cell? _ _ z0
  have nb : ¬ w.heap.size = b := by omega
  have r0 := t3.keep z0 (fun e => nb e.1)
  have r1 := t3.keep z1 (fun e => nb e.1)
  have x0 : w3.frozen? ⟨w.heap.size, 0, none⟩ = false := by rw [t3.frozen _ _ hzl (fun e => nb e.1)]; exact y0
  have x1 : w3.frozen? ⟨w.heap.size, 1, none⟩ = false := by rw [t3.frozen _ _ hzl (fun e => nb e.1)]; exact y1
  have S3 := MmStep.of_below hba h3
  clear z0 z1 y0 y1 HA h3 t3
  go_wp2
  refine bodyPost_ret (v := .tuple #[.agg #[.int .i64 c, .int .i64 (s.ar.given c)], .nilIface]) (by simp only [results, Tryz.results31]; go_simp) rfl ⟨rfl, ?_⟩
  exact ⟨(S3.at'.turns ((Turns.refl (fun k _ => k = w.heap.size) _).setCell _ rfl |>.setCell _ rfl) (fun _ _ e => nb e.symm)), ((S3.turns.setNew _ (Nat.le_refl _)).setNew _ (Nat.le_refl _))⟩

end Go.Proofs.YtnnlkolhahjokaaGreatDoor

/- MemK -/
namespace Go.Proofs.YtnnlkolhahjokaaGreatDoor
open Go.RowKit Go.Extern.Stop Go.Stop Go.Extern Go.Sort

theorem mready_ok (a : Nat → Addr) (B b : Nat) (s : Rm) (t : Nat) (c g k : Int) (vs : Value) (w : World) (hE : EnvB a B w) (hB : B ≤ b) (h : MmAt b s w) (ht : t < s.threads) (hx : ∀ x ∈ s.waits t, x.Ok)
    (HA : ∀ w', Below w.heap.size w w' → Calls Tryz.prog 64 #[.pointer (some ⟨b, 0, none⟩), .int .i64 t, .agg #[.int .i64 c, .int .i64 g], .int .i64 k, vs] w' fun e w'' => e = .returned .nilIface ∧ Below w'.heap.size w' w'') :
    Calls Tryz.prog 45 #[.pointer (some ⟨b, 0, none⟩), .int .i64 t, .agg #[.int .i64 c, .int .i64 g], .int .i64 k, vs] w fun e w' => e = .returned (errVal a (fenceNum (decide (0 < s.gone t (s.waits t))))) ∧ MmStep b w (s.drainAll t (s.waits t)) w' := by
  have hba := box_below c g w
  have HA1 := HA _ hba
  have HF : Hid (∀ w', Below w.heap.size w w' → Calls Tryz.prog 65 #[.pointer (some ⟨b, 0, none⟩), .int .i64 t] w' fun e w'' => e = .returned (errVal a (fenceNum (decide (0 < s.gone t (s.waits t))))) ∧ MmStep b w (s.drainAll t (s.waits t)) w'') := fun w' hb =>
    (mfence_any a B b s t w' (hE.below hb) hB (h.below hb) ht hx).mono fun _ _ ⟨e1, e2⟩ => ⟨e1, MmStep.of_below hb e2⟩
  generalize errVal a (fenceNum (decide (0 < s.gone t (s.waits t)))) = r at *
  clear HA h hx
  go_enter Tryz.func45, Tryz.ntmps45
  go_wp2_with fail
  refine HA1.mono ?_
  rintro e0 w2 ⟨rfl, hb2⟩
  have B2 := below_step hba hb2
  clear HA1 hb2
  go_wp2_with fail
  refine (HF.out w2 B2).mono ?_
  rintro e1 w3 ⟨rfl, H3⟩
  clear HF
  go_wp2
  go_ret
  exact ⟨rfl, H3⟩

set_option maxRecDepth 20000 in
set_option maxHeartbeats 1000000 in
theorem mfree_ok (a : Nat → Addr) (B b : Nat) (s : Rm) (t n : Nat) (g : Int) (w : World) (hE : EnvB a B w) (hB : B ≤ b) (h : MmAt b s w) (ht : t < s.threads) (hx : ∀ x ∈ s.waits t, x.Ok) (hn : n < 64) (hh : s.ar.has n g = true) (hg : ¬ 0 < s.gone t (s.waits t)) :
    Calls Tryz.prog 99 #[.pointer (some ⟨b, 0, none⟩), .int .i64 t, .agg #[.int .i64 n, .int .i64 g]] w fun e w' => e = .returned .nilIface ∧ MmStep b w ((s.drainAll t (s.waits t)).setThere n false) w' := by
  have hba := box_below n g w
  have he : s.may t n g 0 [] = 0 := by rw [Rm.may_yes ht, Ar.chk_nil, Ar.at_ok hh (by decide)]
  have HR := mready_ok a B b s t n g 0 (.slice none 0 0) (w.alloc (.cells #[.int .i64 n, .int .i64 g] 65)) (hE.below hba) hB (h.below hba) ht hx (fun w' hb => by
    have := allow_nil a b s t n g 0 w' (hE.env.below (below_step hba hb).block) (h.below (below_step hba hb))
    rw [he] at this
    exact this)
  rw [decide_eq_false hg, show errVal a (fenceNum false) = .nilIface from rfl] at HR
  have hh' : (s.drainAll t (s.waits t)).ar.has n g = true := by rw [Rm.drainAll_has]; exact hh
  generalize s.drainAll t (s.waits t) = D at *
  have HFr : Hid (∀ w', MmStep b w D w' → Calls Tryz.prog 107 #[.pointer (some ⟨b, 0, none⟩), .agg #[.int .i64 n, .int .i64 g]] w' fun e w'' => e = .returned .nilIface ∧ MmStep b w (D.setThere n false) w'') := fun w' hs =>
    (free_yes b 0 D.ar n g w' hs.at'.ar hn hh').mono fun _ _ ⟨e1, e2, e3⟩ => ⟨e1, hs.trans (hs.at'.arena e2 e3)⟩
  have hl := h.lt
  have q0 : (w.alloc (.cells #[.int .i64 n, .int .i64 g] 65)).cell? ⟨w.heap.size, 0, none⟩ = some (.int .i64 n) := by simp
  have q1 : (w.alloc (.cells #[.int .i64 n, .int .i64 g] 65)).cell? ⟨w.heap.size, 1, none⟩ = some (.int .i64 g) := by simp
  clear h he hx hE hh hh'
  generalize hw : w.alloc (.cells #[.int .i64 n, .int .i64 g] 65) = w1 at *
  go_enter Tryz.func99, Tryz.ntmps99
  go_wp2_with fail
  refine HR.mono ?_
  rintro e0 w2 ⟨rfl, h2⟩
  have H2 := MmStep.of_below hba h2
  replace q0 := h2.turns.keep q0 (by omega)
  replace q1 := h2.turns.keep q1 (by omega)
  have HA : Hid (∀ k, Calls Tryz.prog 107 #[.pointer (some ⟨b, 0, none⟩), .agg #[.int .i64 n, .int .i64 g]] (w2.drewN k) fun e w'' => e = .returned .nilIface ∧ MmStep b w (D.setThere n false) w'') := fun k => HFr.out _ (H2.below (Below.drewN' k))
  clear HR hw h2 H2 HFr
  go_wp2_with fail
  go_region_with (go_at_call 107; refine (HA.out 1).mono ?_; rintro e4 w4 ⟨rfl, H4⟩)
  all_goals
    go_wp2
    go_ret
    exact ⟨rfl, H4⟩
end Go.Proofs.YtnnlkolhahjokaaGreatDoor

/- MemL -/
namespace Go.Proofs.YtnnlkolhahjokaaGreatDoor
open Go.RowKit Go.Extern.Stop Go.Stop Go.Extern Go.Sort

theorem swap1_any (was v : Int) (vb : Nat) (w : World) (hv : w.cell? ⟨vb, 0, none⟩ = some (.int .i64 v)) :
    Calls Tryz.prog 47 #[.int .i64 was, .pointer (some ⟨vb, 0, none⟩)] w fun e w' => e = .returned (.int .i64 v) ∧ w' = w := by
  go_enter Tryz.func47, Tryz.ntmps47
  go_wp2
  go_ret
  exact ⟨rfl, rfl⟩

def casVal (was old v : Int) : Int := if was = old then v else was

theorem cas1_any (was old v : Int) (ob vb : Nat) (w : World) (ho : w.cell? ⟨ob, 0, none⟩ = some (.int .i64 old)) (hv : w.cell? ⟨vb, 0, none⟩ = some (.int .i64 v)) :
    Calls Tryz.prog 106 #[.int .i64 was, .pointer (some ⟨ob, 0, none⟩), .pointer (some ⟨vb, 0, none⟩)] w fun e w' => e = .returned (.int .i64 (casVal was old v)) ∧ w' = w := by
  by_cases h : was = old
  · have hb : (was == old) = true := beq_iff_eq.2 h
    have hc : casVal was old v = v := if_pos h
    rw [hc]
    clear h hc
    go_enter Tryz.func106, Tryz.ntmps106
    go_wp2
    go_ret
    exact ⟨rfl, rfl⟩
  · have hb : (was == old) = false := beq_eq_false_iff_ne.2 h
    have hc : casVal was old v = was := if_neg h
    rw [hc]
    clear h hc
    go_enter Tryz.func106, Tryz.ntmps106
    go_wp2
    go_ret
    exact ⟨rfl, rfl⟩

set_option maxRecDepth 20000 in
set_option maxHeartbeats 1000000 in
theorem xswap_any (a : Nat → Addr) (B b : Nat) (s : Rm) (n m : Nat) (g v : Int) (vb : Nat) (w : World) (hE : EnvB a B w) (h : MmAt b s w) (hn : n < 64) (hh : s.ar.has n g = true) (hm : m < 4) (hv : 0 ≤ v ∧ v < 4294967296) (hc : w.cell? ⟨vb, 0, none⟩ = some (.int .i64 v)) :
    Calls Tryz.prog 46 #[.pointer (some ⟨b, 0, none⟩), .agg #[.int .i64 n, .int .i64 g], .int .i64 m, .func (.func 47) #[] #[.pointer (some ⟨vb, 0, none⟩)]] w fun e w' => e = .returned (.tuple #[.int .i64 (s.ar.words n m), .nilIface]) ∧ MmStep b w (s.setWord n m v) w' := by
  have hba := box_below n g w
  have HL : Hid (∀ w', Below w.heap.size w w' → Calls Tryz.prog 66 #[.pointer (some ⟨b, 0, none⟩), .agg #[.int .i64 n, .int .i64 g], .int .i64 m] w' fun e w'' => e = .returned (.tuple #[.int .i64 (s.ar.words n m), .nilIface]) ∧ Below w'.heap.size w' w'') := fun w' hb => load_yes a b 0 s.ar n m g w' (hE.env.below hb.block) (h.ar.below hb) hn hh hm
  have HS : Hid (∀ w', Below w.heap.size w w' → Calls Tryz.prog 67 #[.pointer (some ⟨b, 0, none⟩), .agg #[.int .i64 n, .int .i64 g], .int .i64 m, .int .i64 v] w' fun e w'' => e = .returned .nilIface ∧ MmStep b w (s.setWord n m v) w'') := fun w' hb =>
    (store_yes a b 0 s.ar n m g v w' (hE.env.below hb.block) (h.ar.below hb) hn hh hm hv).mono fun _ _ ⟨e1, e2, e3⟩ => ⟨e1, MmStep.of_below hb ((h.below hb).arena e2 e3)⟩
  have q0 : (w.alloc (.cells #[.int .i64 n, .int .i64 g] 65)).cell? ⟨w.heap.size, 0, none⟩ = some (.int .i64 n) := by simp
  have q1 : (w.alloc (.cells #[.int .i64 n, .int .i64 g] 65)).cell? ⟨w.heap.size, 1, none⟩ = some (.int .i64 g) := by simp
  generalize s.ar.words n m = was at *
  clear h hh hE hv
  go_enter Tryz.func46, Tryz.ntmps46
  go_wp2_with fail
  generalize hw : w.alloc (.cells #[.int .i64 n, .int .i64 g] 65) = w1 at *
  have HCF : Hid (∀ d os, Calls Tryz.prog 66 #[.pointer (some ⟨b, 0, none⟩), .agg #[.int .i64 n, .int .i64 g], .int .i64 m] (grow (redrawn w1 d) os) fun e w'' => e = .returned (.tuple #[.int .i64 was, .nilIface]) ∧ ∃ p : Regrown, w'' = grow (redrawn w1 p.d) p.os) := fun d os =>
    Calls.regrown_of (HL.out _ (below_step hba (below_regrown w1 d os)))
  have d0 := cell_regrown q0
  have d1 := cell_regrown q1
  clear HL hw
  refine wp_region_quiet_below (by kernel_rfl) (by kernel_rfl) ?_
  repeat (first
    | go_big_quiet_step (exact HCF.out _ _)
    | quiet_step (exact HCF.out _ _))
  refine wpQuiet_nil ?_
  intro _ hw'
  obtain ⟨⟨dq, osq⟩, hw''⟩ := hw'
  subst hw''
  have B3 := below_step hba (below_regrown w1 dq osq)
  have e0 := d0 dq osq
  have e1 := d1 dq osq
  clear HCF d0 d1 q0 q1
  generalize grow (redrawn w1 dq) osq = w3 at B3 e0 e1 ⊢
  have hc3 := keep_cell B3 hc
  have HA : Hid (∀ k, Calls Tryz.prog 67 #[.pointer (some ⟨b, 0, none⟩), .agg #[.int .i64 n, .int .i64 g], .int .i64 m, .int .i64 v] (w3.drewN k) fun e w'' => e = .returned .nilIface ∧ MmStep b w (s.setWord n m v) w'') := fun k => HS.out _ (below_dN B3 k)
  have HN : Hid (∀ k, Calls Tryz.prog 47 #[.int .i64 was, .pointer (some ⟨vb, 0, none⟩)] (w3.drewN k) fun e w'' => e = .returned (.int .i64 v) ∧ w'' = w3.drewN k) := fun k => swap1_any was v vb _ hc3
  clear HS hc
  go_wp2_with fail
  go_region_with (first
    | (go_at_call 47; refine (HN.out 1).mono ?_; rintro e3 w5 ⟨rfl, rfl⟩)
    | (go_at_call 67; refine (HA.out 1).mono ?_; rintro e4 w4 ⟨rfl, H4⟩))
  all_goals
    go_wp2
    go_ret2
    exact ⟨rfl, H4⟩
end Go.Proofs.YtnnlkolhahjokaaGreatDoor
