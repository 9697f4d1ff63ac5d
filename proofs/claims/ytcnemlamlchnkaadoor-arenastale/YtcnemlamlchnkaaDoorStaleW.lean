/- The law ArenaStale, walked: it returns true. -/
import Derived.Test.YtcnemlamlchnkaaDoorFirst
import Derived.Lib.QuietBelow
import Derived.BigQuiet
import Derived.OwnWalk
namespace Go.Proofs.YtcnemlamlchnkaaDoor
open Go.RowKit Go.Extern.Stop Go.Stop Go.Extern Go.Sort

/-- The cells of the refs (0, 0), (0, 1), .. -/
def goneCells (i : Nat) : List Value := (List.range i).flatMap fun (j : Nat) => [.int .i64 0, .int .i64 (j : Nat)]
theorem goneCells_succ (i : Nat) : goneCells (i + 1) = goneCells i ++ [.int .i64 0, .int .i64 i] := by
  simp [goneCells, List.range_succ]
theorem goneCells_length (i : Nat) : (goneCells i).length = i * 2 := by
  induction i with
  | zero => rfl
  | succ i ih => rw [goneCells_succ, List.length_append, ih]; simp; omega
theorem goneCells_at (i k : Nat) (h : k < i) : (goneCells i)[k * 2]? = some (.int .i64 0) ∧ (goneCells i)[k * 2 + 1]? = some (.int .i64 k) := by
  induction i with
  | zero => omega
  | succ i ih =>
    rw [goneCells_succ]
    by_cases e : k = i
    · subst e
      rw [List.getElem?_append_right (by rw [goneCells_length]; exact Nat.le_refl _), List.getElem?_append_right (by rw [goneCells_length]; omega), goneCells_length]
      simp
    · have := ih (by omega)
      rw [List.getElem?_append_left (by rw [goneCells_length]; omega), List.getElem?_append_left (by rw [goneCells_length]; omega)]
      exact this

theorem refInfo : ∃ i, Tryd.prog.info? 36 = some i ∧ i.zero = some (.agg #[.int .i64 0, .int .i64 0]) ∧ i.size = 2 ∧ i.bytes = 16 := by
  obtain ⟨i, hi, h1⟩ := Option.map_eq_some_iff.1 (show (Tryd.prog.info? 36).map (·.zero) = some (some (.agg #[.int .i64 0, .int .i64 0])) by kernel_rfl)
  obtain ⟨j, hj, h2⟩ := Option.map_eq_some_iff.1 (show (Tryd.prog.info? 36).map (·.size) = some 2 by kernel_rfl)
  obtain ⟨k, hk, h3⟩ := Option.map_eq_some_iff.1 (show (Tryd.prog.info? 36).map (·.bytes) = some 16 by kernel_rfl)
  obtain rfl := Option.some.inj (hi.symm.trans hj)
  obtain rfl := Option.some.inj (hi.symm.trans hk)
  exact ⟨_, hi, h1, h2, h3⟩

/-- The arena between two rounds: nothing is there, cell 0 was given i times. -/
structure Idle (cells i : Nat) (s : Ar) : Prop where
  size : s.size = cells
  there : ∀ c, s.there c = false
  given : s.given 0 = i

theorem Idle.next {cells i : Nat} {s : Ar} (h : Idle cells i s) (v : Int) : Idle cells (i + 1) (((s.give 0).setWord 0 0 v).setThere 0 false) where
  size := h.size
  there c := by
    by_cases e : c = 0
    · simp [Ar.setThere, e]
    · simp [Ar.setThere, Ar.setWord, Ar.give, h.there]
  given := by simp [Ar.setThere, Ar.setWord, Ar.give, h.given]

theorem Idle.has {cells i : Nat} {s : Ar} (h : Idle cells i s) (c g : Int) : s.has c g = false := by simp [Ar.has, h.there]

theorem Idle.count {cells i : Nat} {s : Ar} (h : Idle cells i s) : s.count = 0 := by
  simp [Ar.count, Ar.countTo, h.there]

set_option maxHeartbeats 4000000 in
set_option maxRecDepth 8000 in
theorem stale_any (a : Nat → Addr) (cells times : Nat) (w : World) (hE : Env a w) (h1 : 1 ≤ cells) (h2 : cells ≤ 64) (h3 : times ≤ 60) :
    Calls Tryd.prog 5 #[.int .i64 cells, .int .i64 times] w fun e w' => e = .returned (.bool true) ∧ Below w.heap.size w w' := by
  have i1 : 1 ≤ (cells : Int) := by omega
  have i2 : (cells : Int) ≤ 64 := by omega
  have i3 : (times : Int) ≤ 60 := by omega
  have k1 : decide ((cells : Int) < 1) = false := by simp; omega
  have k2 : decide (64 < (cells : Int)) = false := by simp; omega
  have k3 : decide ((times : Int) < 0) = false := by simp
  have k4 : decide (60 < (times : Int)) = false := by simp; omega
  go_enter Tryd.func5, Tryd.ntmps5
  go_wp2_with fail
  refine (first_any _).mono ?_
  rintro e0 w0 ⟨rfl, hb0⟩
  go_wp2_with fail
  refine (new_ok cells _ h1 h2).mono ?_
  rintro e1 w1 ⟨rfl, hA1, hb1⟩
  have B1 := below_step hb0 hb1
  have hlA : w0.heap.size < w1.heap.size := hA1.lt
  have hbA : w.heap.size ≤ w0.heap.size := hb0.size
  have hI1 : Idle cells 0 ⟨cells, fun _ _ => 0, fun _ => false, fun _ => 0⟩ := ⟨rfl, fun _ => rfl, rfl⟩
  generalize hs : (⟨cells, fun _ _ => 0, fun _ => false, fun _ => 0⟩ : Ar) = s1 at *
  clear hs hb0 hb1
  generalize hA : w0.heap.size = A at *
  go_wp2_with fail
  go_loopw [8, 9, 10, 11, 12, 13, 14] (fun g i _ _ _ _ _ wr => ∃ (j : Nat) (s : Ar), j ≤ times ∧ i = .int .i64 j ∧ Idle cells j s ∧ ArAt A 0 s wr ∧ wr.ownsRow w1.heap.size 36 2 g j (goneCells j) ∧ Below w.heap.size w wr ∧ w1.heap.size ≤ wr.heap.size) (fun _ i _ _ _ _ _ _ => times - (intOf i).toNat)
  case atStart => exact ⟨0, s1, Nat.zero_le _, rfl, hI1, hA1, World.ownsRow_nil _ _ _ _, B1, Nat.le_refl _⟩
  case round =>
    obtain ⟨j, s, hj, rfl, hI, hAr, hown, hB, hz⟩ := hrel
    by_cases hlt : j < times
    · have hg0 : s.given 0 + 1 < 4611686018427387904 := by rw [hI.given]; omega
      have HA : Hid (Calls Tryd.prog 19 #[.pointer (some ⟨A, 0, none⟩)] wr fun e w' => e = .returned (.tuple #[.agg #[.int .i64 0, .int .i64 j], .nilIface]) ∧ ArAt A 0 (s.give 0) w' ∧ Turns (arPl A 0) wr w') := by
        have := alloc_some A 0 s 0 wr hAr (by rw [hI.size]; omega) (fun j hj => absurd hj (by omega)) (hI.there 0) hg0
        rw [hI.given] at this; exact this
      go_wp2_with fail
      refine HA.out.mono ?_
      rintro e2 w2 ⟨rfl, hA2, t2⟩
      have hz2 : w1.heap.size ≤ w2.heap.size := Nat.le_trans hz t2.size
      have hlt2 : wr.heap.size ≤ w2.heap.size := t2.size
      have T2 : Below w.heap.size w w2 := hB.trans (t2.below hB.size (fun k o hk h => by have := h.1; omega))
      have hA3 := hA2.alloc (.cells #[.int .i64 0, .int .i64 j] 36)
      have HS : Hid (∀ w0, Env a w0 → ArAt A 0 (s.give 0) w0 → Calls Tryd.prog 20 #[.pointer (some ⟨A, 0, none⟩), .agg #[.int .i64 0, .int .i64 j], .int .i64 0, .int .i64 j] w0 fun e w' => e = .returned .nilIface ∧ ArAt A 0 ((s.give 0).setWord 0 0 j) w' ∧ Turns (arPl A 0) w0 w') :=
        fun w0 hE h => store_yes a A 0 (s.give 0) 0 0 j j w0 hE.toM h (by decide) (by simp [Ar.has, Ar.give, hI.given, hI.size]; omega) (by decide) (by omega)
      have HF : Hid (∀ w0, ArAt A 0 ((s.give 0).setWord 0 0 j) w0 → Calls Tryd.prog 21 #[.pointer (some ⟨A, 0, none⟩), .agg #[.int .i64 0, .int .i64 j]] w0 fun e w' => e = .returned .nilIface ∧ ArAt A 0 (((s.give 0).setWord 0 0 j).setThere 0 false) w' ∧ Turns (arPl A 0) w0 w') :=
        fun w0 h => free_yes A 0 ((s.give 0).setWord 0 0 j) 0 j w0 h (by decide) (by simp [Ar.has, Ar.setWord, Ar.give, hI.given, hI.size]; omega)
      have hown2 := (ownsRow_turns hown t2 (fun k o hk h => by have := h.1; omega)).alloc (.cells #[.int .i64 0, .int .i64 j] 36)
      have HQ0 : Hid ((w2.alloc (.cells #[.int .i64 0, .int .i64 j] 36)).cell? ⟨w2.heap.size, 0, none⟩ = some (.int .i64 0)) := (World.cell?_alloc_new _ _ _ _).trans rfl
      have HQ1 : Hid ((w2.alloc (.cells #[.int .i64 0, .int .i64 j] 36)).cell? ⟨w2.heap.size, 1, none⟩ = some (.int .i64 j)) := (World.cell?_alloc_new _ _ _ _).trans rfl
      have B3 : Below w.heap.size w (w2.alloc (.cells #[.int .i64 0, .int .i64 j] 36)) := T2.alloc T2.size _
      have hz3 : w1.heap.size ≤ (w2.alloc (.cells #[.int .i64 0, .int .i64 j] 36)).heap.size := Nat.le_trans hz2 (by simp)
      have hl3 : A ≠ w2.heap.size := by omega
      clear t2 T2 HA
      go_wp2_with fail
      refine (HS.out _ (hE.below B3.block) hA3).mono ?_
      rintro e3 w3 ⟨rfl, hA4, t3⟩
      have q0 := t3.keep HQ0.out (fun h => hl3 h.1.symm)
      have q1 := t3.keep HQ1.out (fun h => hl3 h.1.symm)
      have hown3 := ownsRow_turns hown2 t3 (fun k o hk h => by have := h.1; omega)
      have hz4 : w1.heap.size ≤ w3.heap.size := Nat.le_trans hz3 t3.size
      have B4 : Below w.heap.size w w3 := B3.trans (t3.below B3.size (fun k o hk h => by have := h.1; omega))
      clear t3 B3 hz3 HQ0 HQ1 HS hown2 hA3
      go_wp2_with fail
      refine (HF.out _ hA4).mono ?_
      rintro e4 w4 ⟨rfl, hA5, t4⟩
      replace q0 := t4.keep q0 (fun h => hl3 h.1.symm)
      replace q1 := t4.keep q1 (fun h => hl3 h.1.symm)
      have hown4 := ownsRow_turns hown3 t4 (fun k o hk h => by have := h.1; omega)
      have hz5 : w1.heap.size ≤ w4.heap.size := Nat.le_trans hz4 t4.size
      have B5 : Below w.heap.size w w4 := B4.trans (t4.below B4.size (fun k o hk h => by have := h.1; omega))
      clear t4 B4 hz4 HF hown3 hA4
      have HI5 : Hid (Idle cells (j + 1) (((s.give 0).setWord 0 0 j).setThere 0 false)) := hI.next j
      generalize hs5 : ((s.give 0).setWord 0 0 j).setThere 0 false = s5 at hA5 HI5
      clear hs5
      obtain ⟨ri, hri, hrz, hrs, hrb⟩ := refInfo
      go_wp2_with (first
        | (at_builtin; refine wpList_append_own _ rfl _ _ 48 rfl w1.heap.size 36 ri (.agg #[.int .i64 0, .int .i64 0]) 2 16 Tryd.underlying48 hri hrz hrs hrb rfl (by decide) _ _ _ rfl (hown4.alloc _) ⟨w4.heap.size, 0, none⟩ 1 1 [.int .i64 0, .int .i64 j] rfl rfl ?c1 ?c2 ?c3 ?c4 ?c5 ?_))
      case c1 =>
        intro k u hk
        match k, hk with
        | 0, hk => simp at hk; subst hk; simp [Addr.add]
        | 1, hk => simp at hk; subst hk; simp [Addr.add]
      case c2 => intro u hu; simp at hu; rcases hu with rfl | rfl <;> rfl
      case c3 => unfold maxLen; omega
      case c4 => omega
      case c5 => simp; omega
      intro g6 w6 hown6 hgrow _
      have hlt4 : w2.heap.size < w4.heap.size := World.block_lt_of_cell? _ _ q0
      have hrow : ∀ k, u8.ownBlock = some k → w1.heap.size ≤ k ∧ k < w2.heap.size := fun k hk => ⟨(hown.lt k hk).1, Nat.lt_of_lt_of_le (hown.lt k hk).2 hlt2⟩
      have B6 : Below w.heap.size w w6 := (B5.alloc B5.size _).grown hgrow (Nat.le_trans B5.size (by simp)) (fun k hk => by have := (hrow k hk).1; omega)
      have hA6 : ArAt A 0 s5 w6 := (hA5.alloc (.cells #[.int .i64 0, .int .i64 j] 36)).of_block (hgrow.block A (by simp; omega) (fun e => by have := (hrow A e.symm).1; omega))
      have hb6 : w6.heap[w2.heap.size]? = w4.heap[w2.heap.size]? := (hgrow.block w2.heap.size (by simp; omega) (fun e => by have := (hrow _ e.symm).2; omega)).trans (Below.heap_alloc _ _ _ hlt4)
      have q60 : w6.cell? ⟨w2.heap.size, 0, none⟩ = some (.int .i64 0) := by rw [World.cell?_of_block (w := w4) hb6]; exact q0
      have q61 : w6.cell? ⟨w2.heap.size, 1, none⟩ = some (.int .i64 j) := by rw [World.cell?_of_block (w := w4) hb6]; exact q1
      rw [← goneCells_succ] at hown6
      have hz6 : w1.heap.size ≤ w6.heap.size := Nat.le_trans hz5 (Nat.le_trans (by simp) hgrow.size)
      obtain ⟨gb, gcap, hgv⟩ : ∃ gb gcap, g6 = .slice (some ⟨gb, 0, none⟩) (j + 1) gcap := by
        rcases hown6.2 with ⟨_, h0⟩ | ⟨g, cap, cur, hv, _⟩
        · omega
        · exact ⟨g, cap, hv⟩
      subst hgv
      have hcg : ∀ k, k < j + 1 → w6.cell? ⟨gb, k * 2, none⟩ = some (.int .i64 0) ∧ w6.cell? ⟨gb, k * 2 + 1, none⟩ = some (.int .i64 k) := fun k hk => by
        rw [hown6.cellAt (k * 2) (by omega), hown6.cellAt (k * 2 + 1) (by omega)]
        exact goneCells_at _ _ hk
      have E6 : Env a w6 := hE.below B6.block
      clear hown4 hgrow q0 q1 hb6 B5 hz5 hA5 hri hrz hrs hrb
      go_wp2_with fail
      obtain ⟨wo, rfl⟩ : ∃ wo : World, wo = wr := ⟨_, rfl⟩
      go_loopw [12, 13, 14] (fun i _ _ wr => ∃ k : Nat, k ≤ j + 1 ∧ i = .int .i64 k ∧ Below w6.heap.size w6 wr) (fun i _ _ _ => j + 1 - (intOf i).toNat)
      case atStart => exact ⟨0, Nat.zero_le _, rfl, Below.refl _ _⟩
      case round =>
        obtain ⟨k, hk, rfl, hbk⟩ := hrel
        by_cases hkl : k < j + 1
        · have hcell : ∀ w', Below w6.heap.size w6 w' → w'.cell? ⟨gb, k * 2, none⟩ = some (.int .i64 0) ∧ w'.cell? ⟨gb, k * 2 + 1, none⟩ = some (.int .i64 k) ∧ w'.cell? ⟨w2.heap.size, 0, none⟩ = some (.int .i64 0) ∧ w'.cell? ⟨w2.heap.size, 1, none⟩ = some (.int .i64 j) := fun w' h =>
            ⟨keep_cell h (hcg k hkl).1, keep_cell h (hcg k hkl).2, keep_cell h q60, keep_cell h q61⟩
          have HC : Hid (∀ w', Below w6.heap.size w6 w' → w'.cell? ⟨gb, k * 2, none⟩ = some (.int .i64 0) ∧ w'.cell? ⟨gb, k * 2 + 1, none⟩ = some (.int .i64 k) ∧ w'.cell? ⟨w2.heap.size, 0, none⟩ = some (.int .i64 0) ∧ w'.cell? ⟨w2.heap.size, 1, none⟩ = some (.int .i64 j)) := hcell
          have HL : Hid (∀ w', Below w6.heap.size w6 w' → Calls Tryd.prog 22 #[.pointer (some ⟨A, 0, none⟩), .agg #[.int .i64 0, .int .i64 k], .int .i64 0] w' fun e w'' => e = .returned (.tuple #[.int .i64 0, errAt (a 6)]) ∧ Below w6.heap.size w6 w'') :=
            fun w' h => (load_no a A 0 s5 0 k 0 w' (E6.below h.block).toM (hA6.below h) (HI5.out.has _ _)).mono fun _ _ ⟨e1, e2⟩ => ⟨e1, below_step h e2⟩
          obtain ⟨c0, c1, c2, c3⟩ := hcell wr hbk
          clear hcell hcg
          go_wp2_with fail
          refine (HL.out _ hbk).mono ?_
          rintro e7 w7 ⟨rfl, hb7⟩
          clear c0 c1 c2 c3
          obtain ⟨c0, c1, c2, c3⟩ := HC.out w7 hb7
          go_wp2_with fail
          have cF : ∀ d os, Calls Tryd.prog 21 #[.pointer (some ⟨A, 0, none⟩), .agg #[.int .i64 0, .int .i64 k]] (grow (redrawn w7 d) os) fun e w'' => e = .returned (errAt (a 6)) ∧ ∃ p : Regrown, w'' = grow (redrawn w7 p.d) p.os := fun d os =>
            Calls.regrown_of (free_no a A 0 s5 0 k _ (E6.below (below_step hb7 (below_regrown w7 d os)).block).toM (hA6.below (below_step hb7 (below_regrown w7 d os))) (HI5.out.has _ _))
          have cC : ∀ d os, Calls Tryd.prog 11 #[errAt (a 6), .int .i64 7] (grow (redrawn w7 d) os) fun e w'' => e = .returned (.bool true) ∧ ∃ p : Regrown, w'' = grow (redrawn w7 p.d) p.os := fun d os =>
            Calls.regrown_of (coded_sent a 6 (by decide) 7 (by decide) _ (E6.below (below_step hb7 (below_regrown w7 d os)).block))
          have d0 := cell_regrown c0
          have d1 := cell_regrown c1
          have d2 := cell_regrown c2
          have d3 := cell_regrown c3
          have HCF := hide cF
          have HCC := hide cC
          clear cF cC
          by_cases hkj : k < j
          · have hne : ((k : Int) == j) = false := beq_eq_false_iff_ne.2 (by omega)
            have hne' : (k == j) = false := beq_eq_false_iff_ne.2 (by omega)
            refine wp_region_quiet_below (by kernel_rfl) (by kernel_rfl) ?_
            repeat (first
              | go_big_quiet_step (first | exact HCF.out _ _ | exact HCC.out _ _)
              | quiet_step (first | exact HCF.out _ _ | exact HCC.out _ _))
            refine wpQuiet_nil ?_
            intro _ hw'
            obtain ⟨⟨dq, osq⟩, hw''⟩ := hw'
            subst hw''
            have B8 := below_step hb7 (below_regrown w7 dq osq)
            clear HCF HCC d0 d1 d2 d3 c0 c1 c2 c3 hb7
            generalize grow (redrawn w7 dq) osq = w8 at B8 ⊢
            go_wp2
            go_roundw
            case rel => exact ⟨k + 1, by omega, by go_num, B8⟩
            case measure => simp [intOf]; omega
          · have hnl : decide ((k : Int) < j) = false := by simp; omega
            have hnl' : decide (k < j) = false := by simp; omega
            refine wp_region_quiet_below (by kernel_rfl) (by kernel_rfl) ?_
            repeat (first
              | go_big_quiet_step (first | exact HCF.out _ _ | exact HCC.out _ _)
              | quiet_step (first | exact HCF.out _ _ | exact HCC.out _ _))
            refine wpQuiet_nil ?_
            intro _ hw'
            obtain ⟨⟨dq, osq⟩, hw''⟩ := hw'
            subst hw''
            have B8 := below_step hb7 (below_regrown w7 dq osq)
            clear HCF HCC d0 d1 d2 d3 c0 c1 c2 c3 hb7
            generalize grow (redrawn w7 dq) osq = w8 at B8 ⊢
            go_wp2
            go_roundw
            case rel => exact ⟨k + 1, by omega, by go_num, B8⟩
            case measure => simp [intOf]; omega
        · have E9 := hA6.below hbk
          have B9 : Below w.heap.size w wr := B6.trans (hbk.mono B6.size)
          have o9 := ownsRow_turns hown6 (Turns.of_below (S := fun _ _ => False) hbk) (fun _ _ _ h => h)
          have z9 : w1.heap.size ≤ wr.heap.size := Nat.le_trans hz6 hbk.size
          clear hcg q60 q61 E6 hbk hown6 hA6 B6 hz6
          go_wp2
          go_roundw
          case rel => exact ⟨j + 1, s5, by omega, by go_num, HI5.out, E9, o9, B9, z9⟩
          case measure => simp [intOf]; omega
    · obtain rfl : j = times := by omega
      have hcn := hI.count
      have HCn : Hid (Calls Tryd.prog 23 #[.pointer (some ⟨A, 0, none⟩)] wr fun e w' => e = .returned (.int .i64 0) ∧ w' = wr) := (count_any A 0 s wr hAr).mono fun _ _ ⟨e1, e2⟩ => ⟨by rw [e1, hcn]; rfl, e2⟩
      clear hcn
      go_wp2_with fail
      refine HCn.out.mono ?_
      rintro e9 w9 ⟨rfl, rfl⟩
      go_wp2
      go_ret
      exact ⟨rfl, hB⟩
end Go.Proofs.YtcnemlamlchnkaaDoor
