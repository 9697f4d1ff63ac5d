/- The law ArenaActs, walked: it returns true. -/
import Derived.Test.YtcnemlamlchnkaaDoorRefE
import Derived.Test.YtcnemlamlchnkaaDoorFirst
namespace Go.Proofs.YtcnemlamlchnkaaDoor
open Go.RowKit Go.Extern.Stop Go.Stop Go.Extern

/-- An act on cells. -/
structure CAct where
  kind : ByteArray
  c : Int
  g : Int
  k : Int
  v : Int

/-- Acts lie at a place. -/
def actsAt (ad : Option Addr) (l : List CAct) (w : World) : Prop := ∀ i x, l[i]? = some x → ∃ b off, ad = some ⟨b, off, none⟩ ∧
  w.cell? ⟨b, off + i * 5, none⟩ = some (.string x.kind) ∧ w.cell? ⟨b, off + i * 5 + 1, none⟩ = some (.int .i64 x.c) ∧ w.cell? ⟨b, off + i * 5 + 2, none⟩ = some (.int .i64 x.g) ∧
  w.cell? ⟨b, off + i * 5 + 3, none⟩ = some (.int .i64 x.k) ∧ w.cell? ⟨b, off + i * 5 + 4, none⟩ = some (.int .i64 x.v)

theorem first_free (f : Nat → Bool) (n : Nat) (h : ¬ ∀ i, i < n → f i = true) : ∃ c, c < n ∧ f c = false ∧ ∀ i, i < c → f i = true := by
  induction n with
  | zero => exact absurd (fun i hi => absurd hi (Nat.not_lt_zero i)) h
  | succ n ih =>
    by_cases h' : ∀ i, i < n → f i = true
    · refine ⟨n, Nat.lt_succ_self n, ?_, h'⟩
      cases e : f n with
      | false => rfl
      | true =>
        refine absurd (fun i hi => ?_) h
        rcases Nat.lt_or_ge i n with h1 | h1
        · exact h' i h1
        · obtain rfl : i = n := by omega
          exact e
    · obtain ⟨c, hc, h1, h2⟩ := ih h'
      exact ⟨c, by omega, h1, h2⟩

/-- A load by package arena and by the document's answer: the same, and the same error. -/
theorem loads_same (a : Nat → Addr) (A : Nat) (p : RmPl) (s : Ar) (c g k : Int) : ∃ (v : Int) (e : Nat), e ≤ 9 ∧
    (∀ w', Env a w' → ArAt A 0 s w' → Calls Tryd.prog 22 #[.pointer (some ⟨A, 0, none⟩), .agg #[.int .i64 c, .int .i64 g], .int .i64 k] w' fun r w'' => r = .returned (.tuple #[.int .i64 v, errVal a e]) ∧ Below w'.heap.size w' w'') ∧
    (∀ w', RmAt p ⟨s, 1, fun _ => []⟩ w' → Calls Tryd.prog 27 #[.pointer (some ⟨p.mb, 0, none⟩), .int .i64 0, .agg #[.int .i64 c, .int .i64 g], .int .i64 k] w' fun r w'' => r = .returned (.tuple #[.int .i64 v, .int .i64 e]) ∧ Below w'.heap.size w' w'') := by
  by_cases hat : s.at c g k = 0
  · obtain ⟨n, m, rfl, rfl, hn, hm, hh⟩ := Ar.at_zero hat
    exact ⟨s.words n m, 0, by decide, fun w' hE h => load_yes a A 0 s n m g w' hE.toM h (by have := h.small; omega) hh hm, fun w' h => rload_ok p ⟨s, 1, fun _ => []⟩ 0 n m g w' h (by show 0 < 1; decide) hat hn hm (by simp)⟩
  · refine ⟨0, s.at c g k, by unfold Ar.at; split; omega; split <;> omega, fun w' hE h => ?_, fun w' h => rload_bad p ⟨s, 1, fun _ => []⟩ 0 c g k w' h (by show 0 < s.at c g k; omega)⟩
    unfold Ar.at at hat ⊢
    split
    · rename_i hh; exact load_no a A 0 s c g k w' hE.toM h hh
    · rename_i hh
      rw [if_neg hh] at hat
      have hh' : s.has c g = true := by simpa using hh
      obtain ⟨n, rfl, _, _⟩ := Ar.has_lt hh'
      split
      · rename_i hk; rw [if_pos hk] at hat; exact absurd rfl hat
      · rename_i hk; exact load_bad a A 0 s n g k w' hE.toM h hh' hk

/-- What holds between two acts: package arena's cells and the document's answer's are of one state. -/
def ActRel (w : World) (A mb cells j : Nat) (wr : World) : Prop := ∃ (s : Ar) (p : RmPl), s.size = cells ∧ (∀ c, s.given c ≤ j) ∧ ArAt A 0 s wr ∧ RmAt p ⟨s, 1, fun _ => []⟩ wr ∧ p.mb = mb ∧
  (∀ k, p.fp ⟨s, 1, fun _ => []⟩ k → w.heap.size ≤ k ∧ k ≠ A) ∧ Below w.heap.size w wr

set_option maxRecDepth 8000 in
set_option maxHeartbeats 4000000 in
theorem acts_any (a : Nat → Addr) (cells : Nat) (ad : Option Addr) (cap : Nat) (l : List CAct) (w : World) (hE : Env a w) (h1 : 1 ≤ cells) (h2 : cells ≤ 64) (h3 : l.length ≤ 100) (hl : actsAt ad l w) :
    Calls Tryd.prog 6 #[.int .i64 cells, .slice ad l.length cap] w fun e w' => e = .returned (.bool true) ∧ Below w.heap.size w w' := by
  have i1 : 1 ≤ (cells : Int) := by omega
  have i2 : (cells : Int) ≤ 64 := by omega
  have i3 : (l.length : Int) ≤ 100 := by omega
  have k1 : decide ((cells : Int) < 1) = false := by simp; omega
  have k2 : decide (64 < (cells : Int)) = false := by simp; omega
  have k4 : decide (100 < (l.length : Int)) = false := by simp; omega
  have HL : Hid (actsAt ad l w) := hl
  clear hl
  go_enter Tryd.func6, Tryd.ntmps6
  go_wp2_with fail
  refine (first_any _).mono ?_
  rintro e0 w0 ⟨rfl, hb0⟩
  go_wp2_with fail
  refine (new_ok cells _ h1 h2).mono ?_
  rintro e1 w1 ⟨rfl, hA1, hb1⟩
  have B1 := below_step hb0 hb1
  have hlA : w0.heap.size < w1.heap.size := hA1.lt
  have hbA : w.heap.size ≤ w0.heap.size := hb0.size
  clear hb0 hb1
  generalize hA : w0.heap.size = A at *
  clear hA
  go_wp2_with fail
  refine (newMem_any cells 1 _ h2 (by decide)).mono ?_
  rintro e2 w2 ⟨p0, rfl, hR2, hb2, hfp2⟩
  have hA2 := hA1.below hb2
  have B2 := below_step B1 hb2
  have hdis : ∀ k, p0.fp (Rm.fresh cells 1) k → w.heap.size ≤ k ∧ k ≠ A := fun k hk => by have := hfp2 k hk; omega
  have HD : Hid (∀ k, p0.fp (Rm.fresh cells 1) k → w.heap.size ≤ k ∧ k ≠ A) := hdis
  clear hdis hfp2 hb2 B1 hA1
  go_wp2_with fail
  go_loopw [9] (fun i wr => ∃ j : Nat, j ≤ l.length ∧ i = .int .i64 j ∧ ActRel w A p0.mb cells j wr) (fun i _ => l.length - (intOf i).toNat)
  case atStart => exact ⟨0, Nat.zero_le _, rfl, ⟨cells, fun _ _ => 0, fun _ => false, fun _ => 0⟩, p0, rfl, fun _ => Nat.le_refl _, hA2, hR2, rfl, HD.out, B2⟩
  case round =>
    obtain ⟨j, hj, rfl, s, p, hs, hgv, hA, hR, hmb, hfp, hB⟩ := hrel
    by_cases hlt : j < l.length
    · obtain ⟨x, hx⟩ : ∃ x, l[j]? = some x := ⟨_, List.getElem?_eq_getElem hlt⟩
      obtain ⟨b, off, rfl, a0, a1, a2, a3, a4⟩ := HL.out j x hx
      replace a0 := keep_cell hB a0
      replace a1 := keep_cell hB a1
      replace a2 := keep_cell hB a2
      replace a3 := keep_cell hB a3
      replace a4 := keep_cell hB a4
      have ji : (j : Int) < l.length := by omega
      have hAx := hA.alloc (.cells #[.string x.kind, .int .i64 x.c, .int .i64 x.g, .int .i64 x.k, .int .i64 x.v] 59)
      have hRx := hR.alloc (.cells #[.string x.kind, .int .i64 x.c, .int .i64 x.g, .int .i64 x.k, .int .i64 x.v] 59)
      have hBx : Below w.heap.size w (wr.alloc (.cells #[.string x.kind, .int .i64 x.c, .int .i64 x.g, .int .i64 x.k, .int .i64 x.v] 59)) := hB.alloc hB.size _
      have HX : Hid ((wr.alloc (.cells #[.string x.kind, .int .i64 x.c, .int .i64 x.g, .int .i64 x.k, .int .i64 x.v] 59)).cell? ⟨wr.heap.size, 0, none⟩ = some (.string x.kind) ∧ (wr.alloc (.cells #[.string x.kind, .int .i64 x.c, .int .i64 x.g, .int .i64 x.k, .int .i64 x.v] 59)).cell? ⟨wr.heap.size, 1, none⟩ = some (.int .i64 x.c) ∧ (wr.alloc (.cells #[.string x.kind, .int .i64 x.c, .int .i64 x.g, .int .i64 x.k, .int .i64 x.v] 59)).cell? ⟨wr.heap.size, 2, none⟩ = some (.int .i64 x.g) ∧ (wr.alloc (.cells #[.string x.kind, .int .i64 x.c, .int .i64 x.g, .int .i64 x.k, .int .i64 x.v] 59)).cell? ⟨wr.heap.size, 3, none⟩ = some (.int .i64 x.k) ∧ (wr.alloc (.cells #[.string x.kind, .int .i64 x.c, .int .i64 x.g, .int .i64 x.k, .int .i64 x.v] 59)).cell? ⟨wr.heap.size, 4, none⟩ = some (.int .i64 x.v)) :=
        ⟨(World.cell?_alloc_new _ _ _ _).trans rfl, (World.cell?_alloc_new _ _ _ _).trans rfl, (World.cell?_alloc_new _ _ _ _).trans rfl, (World.cell?_alloc_new _ _ _ _).trans rfl, (World.cell?_alloc_new _ _ _ _).trans rfl⟩
      have HFP : Hid (∀ k, p.fp ⟨s, 1, fun _ => []⟩ k → w.heap.size ≤ k ∧ k ≠ A) := hfp
      have HSz : Hid (s.size = cells) := hs
      have HGv : Hid (∀ c, s.given c ≤ j) := hgv
      have HMb : Hid (p.mb = p0.mb) := hmb
      have HAw : Hid (A < wr.heap.size) := hA.lt
      clear hs hgv hmb hfp hA hR hB hx HL
      go_wp2_with fail
      · -- alloc
        clear a0 a1 a2 a3 a4 HX
        have hmb := HMb.out
        by_cases hfull : ∀ i, i < s.size → s.there i = true
        · have HA : Hid (∀ w', Env a w' → ArAt A 0 s w' → Calls Tryd.prog 19 #[.pointer (some ⟨A, 0, none⟩)] w' fun e w'' => e = .returned (.tuple #[.agg #[.int .i64 0, .int .i64 0], errAt (a 5)]) ∧ Below w'.heap.size w' w'') := fun w' hE h => alloc_full a A 0 s w' hE.toM h hfull
          have HR : Hid (∀ w', RmAt p ⟨s, 1, fun _ => []⟩ w' → Calls Tryd.prog 25 #[.pointer (some ⟨p0.mb, 0, none⟩)] w' fun e w'' => e = .returned (.tuple #[.agg #[.int .i64 0, .int .i64 0], .int .i64 6]) ∧ Below w'.heap.size w' w'') := fun w' h => by
            rw [← hmb]; exact ralloc_full p ⟨s, 1, fun _ => []⟩ w' h hfull
          clear hfull
          refine (HA.out _ (hE.below hBx.block) hAx).mono ?_
          rintro e3 w3 ⟨rfl, hb3⟩
          have hA3 := (hAx.below hb3).alloc (.cells #[.int .i64 0, .int .i64 0] 36)
          have hR3 := (hRx.below hb3).alloc (.cells #[.int .i64 0, .int .i64 0] 36)
          have B3 := (below_step hBx hb3).alloc (below_step hBx hb3).size (.cells #[.int .i64 0, .int .i64 0] 36)
          have HC3 : Hid ((w3.alloc (.cells #[.int .i64 0, .int .i64 0] 36)).cell? ⟨w3.heap.size, 0, none⟩ = some (.int .i64 0) ∧ (w3.alloc (.cells #[.int .i64 0, .int .i64 0] 36)).cell? ⟨w3.heap.size, 1, none⟩ = some (.int .i64 0)) := ⟨(World.cell?_alloc_new _ _ _ _).trans rfl, (World.cell?_alloc_new _ _ _ _).trans rfl⟩
          clear hb3 hAx hRx hBx HA
          go_wp2_with fail
          refine (HR.out _ hR3).mono ?_
          rintro e4 w4 ⟨rfl, hb4⟩
          have hA4 := (hA3.below hb4).alloc (.cells #[.int .i64 0, .int .i64 0] 36)
          have hR4 := (hR3.below hb4).alloc (.cells #[.int .i64 0, .int .i64 0] 36)
          have B4 := (below_step B3 hb4).alloc (below_step B3 hb4).size (.cells #[.int .i64 0, .int .i64 0] 36)
          have z0 := cell_new (o := (.cells #[.int .i64 0, .int .i64 0] 36)) (keep_cell hb4 HC3.out.1)
          have z1 := cell_new (o := (.cells #[.int .i64 0, .int .i64 0] 36)) (keep_cell hb4 HC3.out.2)
          have HC4 : Hid ((w4.alloc (.cells #[.int .i64 0, .int .i64 0] 36)).cell? ⟨w4.heap.size, 0, none⟩ = some (.int .i64 0) ∧ (w4.alloc (.cells #[.int .i64 0, .int .i64 0] 36)).cell? ⟨w4.heap.size, 1, none⟩ = some (.int .i64 0)) := ⟨(World.cell?_alloc_new _ _ _ _).trans rfl, (World.cell?_alloc_new _ _ _ _).trans rfl⟩
          clear hb4 hA3 hR3 B3 HR HC3
          go_wp2_with fail
          refine (coded_sent a 5 (by decide) 6 (by decide) _ (hE.below B4.block)).mono ?_
          rintro e5 w5 ⟨rfl, hb5⟩
          have hA5 := hA4.below hb5
          have hR5 := hR4.below hb5
          have B5 := below_step B4 hb5
          replace z0 := keep_cell hb5 z0
          replace z1 := keep_cell hb5 z1
          have z2 := keep_cell hb5 HC4.out.1
          have z3 := keep_cell hb5 HC4.out.2
          clear hb5 hA4 hR4 B4 HC4
          have hcn : Hid (∀ w', RmAt p ⟨s, 1, fun _ => []⟩ w' → Calls Tryd.prog 30 #[.pointer (some ⟨p0.mb, 0, none⟩)] w' fun e w'' => e = .returned (.int .i64 (s).count) ∧ w'' = w') := fun w' h => by
            rw [← hmb]; exact rcount_any p ⟨s, 1, fun _ => []⟩ w' h
          go_wp2_with fail
          refine (count_any A 0 s _ hA5).mono ?_
          rintro ec wc ⟨rfl, rfl⟩
          go_wp2_with fail
          refine (hcn.out _ hR5).mono ?_
          rintro ed wd ⟨rfl, rfl⟩
          go_wp2
          go_roundw
          case rel => exact ⟨j + 1, by omega, by go_num, s, p, HSz.out, fun c => Nat.le_succ_of_le (HGv.out c), hA5, hR5, hmb, HFP.out, B5⟩
          case measure => simp [intOf]; omega
        · obtain ⟨c, hc, hct, hcf⟩ := first_free s.there s.size hfull
          have hg : s.given c + 1 < 4611686018427387904 := by have := HGv.out c; omega
          have HA : Hid (∀ w', ArAt A 0 s w' → Calls Tryd.prog 19 #[.pointer (some ⟨A, 0, none⟩)] w' fun e w'' => e = .returned (.tuple #[.agg #[.int .i64 c, .int .i64 (s.given c)], .nilIface]) ∧ ArAt A 0 (s.give c) w'' ∧ Turns (arPl A 0) w' w'') := fun w' h => alloc_some A 0 s c w' h hc hcf hct hg
          have HR : Hid (∀ w', RmAt p ⟨s, 1, fun _ => []⟩ w' → Calls Tryd.prog 25 #[.pointer (some ⟨p0.mb, 0, none⟩)] w' fun e w'' => e = .returned (.tuple #[.agg #[.int .i64 c, .int .i64 (s.given c)], .int .i64 0]) ∧ Turns (fun k _ => k = p.cb) w' w'' ∧ ∃ b, w'.heap.size ≤ b ∧ RmAt (p.withWords c b 4) ⟨s.give c, 1, fun _ => []⟩ w'') := fun w' h => by
            rw [← hmb]; exact ralloc_some p ⟨s, 1, fun _ => []⟩ c w' h hc hcf hct hg
          clear hfull hcf hct hg
          refine (HA.out _ hAx).mono ?_
          rintro e3 w3 ⟨rfl, hA3', t3⟩
          have hlcb : p.cb < w3.heap.size := Nat.lt_of_lt_of_le hRx.lc t3.size
          have hlAw : A < w3.heap.size := hA3'.lt
          have hA3 := hA3'.alloc (.cells #[.int .i64 c, .int .i64 (s.given c)] 36)
          have hR3 := (hRx.turns t3 (fun k o hk h => (HFP.out k hk).2 h.1)).alloc (.cells #[.int .i64 c, .int .i64 (s.given c)] 36)
          have B3' : Below w.heap.size w w3 := hBx.trans (t3.below hBx.size (fun k o hk h => by have := h.1; omega))
          have B3 := B3'.alloc B3'.size (.cells #[.int .i64 c, .int .i64 (s.given c)] 36)
          have HC3 : Hid ((w3.alloc (.cells #[.int .i64 c, .int .i64 (s.given c)] 36)).cell? ⟨w3.heap.size, 0, none⟩ = some (.int .i64 c) ∧ (w3.alloc (.cells #[.int .i64 c, .int .i64 (s.given c)] 36)).cell? ⟨w3.heap.size, 1, none⟩ = some (.int .i64 (s.given c))) := ⟨(World.cell?_alloc_new _ _ _ _).trans rfl, (World.cell?_alloc_new _ _ _ _).trans rfl⟩
          have hcbA : p.cb ≠ A := (HFP.out p.cb (Or.inr (Or.inl rfl))).2
          have hcbw : w.heap.size ≤ p.cb := (HFP.out p.cb (Or.inr (Or.inl rfl))).1
          clear t3 hA3' B3' hAx hRx hBx HA
          go_wp2_with fail
          refine (HR.out _ hR3).mono ?_
          rintro e4 w4 ⟨rfl, t4, bn, hbn, hR4'⟩
          have hA4 := (hA3.turns t4 (fun k _ h => hcbA h.symm)).alloc (.cells #[.int .i64 c, .int .i64 (s.given c)] 36)
          have hR4 := hR4'.alloc (.cells #[.int .i64 c, .int .i64 (s.given c)] 36)
          have B4' : Below w.heap.size w w4 := B3.trans (t4.below B3.size (fun k o hk h => by omega))
          have B4 := B4'.alloc B4'.size (.cells #[.int .i64 c, .int .i64 (s.given c)] 36)
          have z0 := cell_new (o := (.cells #[.int .i64 c, .int .i64 (s.given c)] 36)) (t4.keep HC3.out.1 (by omega))
          have z1 := cell_new (o := (.cells #[.int .i64 c, .int .i64 (s.given c)] 36)) (t4.keep HC3.out.2 (by omega))
          have HC4 : Hid ((w4.alloc (.cells #[.int .i64 c, .int .i64 (s.given c)] 36)).cell? ⟨w4.heap.size, 0, none⟩ = some (.int .i64 c) ∧ (w4.alloc (.cells #[.int .i64 c, .int .i64 (s.given c)] 36)).cell? ⟨w4.heap.size, 1, none⟩ = some (.int .i64 (s.given c))) := ⟨(World.cell?_alloc_new _ _ _ _).trans rfl, (World.cell?_alloc_new _ _ _ _).trans rfl⟩
          have HFP' : Hid (∀ k, (p.withWords c bn 4).fp ⟨s.give c, 1, fun _ => []⟩ k → w.heap.size ≤ k ∧ k ≠ A) := fun k hk => by
            rcases RmPl.fp_words p ⟨s, 1, fun _ => []⟩ ⟨s.give c, 1, fun _ => []⟩ c bn 4 k rfl rfl hk with h | h
            · exact HFP.out k h
            · have := B3.size
              simp only [World.size_alloc] at hbn this
              omega
          clear t4 hA3 hR3 B3 HR HC3 hR4' B4' hbn hlcb hlAw hcbA hcbw
          go_wp2_with fail
          refine (coded_nil a _ (hE.below B4.block)).mono ?_
          rintro e5 w5 ⟨rfl, hb5⟩
          have hA5 := hA4.below hb5
          have hR5 := hR4.below hb5
          have B5 := below_step B4 hb5
          replace z0 := keep_cell hb5 z0
          replace z1 := keep_cell hb5 z1
          have z2 := keep_cell hb5 HC4.out.1
          have z3 := keep_cell hb5 HC4.out.2
          clear hb5 hA4 hR4 B4 HC4
          have hcn : Hid (∀ w', RmAt (p.withWords c bn 4) ⟨(s.give c), 1, fun _ => []⟩ w' → Calls Tryd.prog 30 #[.pointer (some ⟨p0.mb, 0, none⟩)] w' fun e w'' => e = .returned (.int .i64 ((s.give c)).count) ∧ w'' = w') := fun w' h => by
            rw [← hmb]; exact rcount_any (p.withWords c bn 4) ⟨(s.give c), 1, fun _ => []⟩ w' h
          go_wp2_with fail
          refine (count_any A 0 (s.give c) _ hA5).mono ?_
          rintro ec wc ⟨rfl, rfl⟩
          go_wp2_with fail
          refine (hcn.out _ hR5).mono ?_
          rintro ed wd ⟨rfl, rfl⟩
          go_wp2
          go_roundw
          case rel => exact ⟨j + 1, by omega, by go_num, (s.give c), (p.withWords c bn 4), HSz.out, fun i => (by have h0 := HGv.out i; have h1 := HGv.out c; show (if i = c then s.given c + 1 else s.given i) ≤ j + 1; split <;> omega), hA5, hR5, hmb, HFP'.out, B5⟩
          case measure => simp [intOf]; omega
      · -- free
        clear a0 a1 a2 a3 a4
        have hmb := HMb.out
        have HH : Hid (∀ w', RmAt p ⟨s, 1, fun _ => []⟩ w' → Calls Tryd.prog 26 #[.pointer (some ⟨p0.mb, 0, none⟩), .agg #[.int .i64 x.c, .int .i64 x.g]] w' fun e w'' => e = .returned (.bool (s.has x.c x.g)) ∧ Below w'.heap.size w' w'') := fun w' h => by
          rw [← hmb]; exact here_any p ⟨s, 1, fun _ => []⟩ x.c x.g w' h
        obtain ⟨X0, X1, X2, X3, X4⟩ := HX.out
        cases hh : s.has x.c x.g
        · have HF : Hid (∀ w', Env a w' → ArAt A 0 s w' → Calls Tryd.prog 21 #[.pointer (some ⟨A, 0, none⟩), .agg #[.int .i64 x.c, .int .i64 x.g]] w' fun e w'' => e = .returned (errAt (a 6)) ∧ Below w'.heap.size w' w'') := fun w' hE h => free_no a A 0 s x.c x.g w' hE.toM h hh
          rw [hh] at HH
          clear hh
          refine (HH.out _ hRx).mono ?_
          rintro e3 w3 ⟨rfl, hb3⟩
          have hA3 := hAx.below hb3
          have hR3 := hRx.below hb3
          have B3 := below_step hBx hb3
          replace X1 := keep_cell hb3 X1
          replace X2 := keep_cell hb3 X2
          clear hb3 hAx hRx hBx HH X0 X3 X4 HX
          go_wp2_with fail
          refine (HF.out _ (hE.below B3.block) hA3).mono ?_
          rintro e4 w4 ⟨rfl, hb4⟩
          have hA4 := hA3.below hb4
          have hR4 := hR3.below hb4
          have B4 := below_step B3 hb4
          clear hb4 hA3 hR3 B3 HF X1 X2
          go_wp2_with fail
          refine (coded_sent a 6 (by decide) 7 (by decide) _ (hE.below B4.block)).mono ?_
          rintro e5 w5 ⟨rfl, hb5⟩
          have hA5 := hA4.below hb5
          have hR5 := hR4.below hb5
          have B5 := below_step B4 hb5
          clear hb5 hA4 hR4 B4
          have hcn : Hid (∀ w', RmAt p ⟨s, 1, fun _ => []⟩ w' → Calls Tryd.prog 30 #[.pointer (some ⟨p0.mb, 0, none⟩)] w' fun e w'' => e = .returned (.int .i64 (s).count) ∧ w'' = w') := fun w' h => by
            rw [← hmb]; exact rcount_any p ⟨s, 1, fun _ => []⟩ w' h
          go_wp2_with fail
          refine (count_any A 0 s _ hA5).mono ?_
          rintro ec wc ⟨rfl, rfl⟩
          go_wp2_with fail
          refine (hcn.out _ hR5).mono ?_
          rintro ed wd ⟨rfl, rfl⟩
          go_wp2
          go_roundw
          case rel => exact ⟨j + 1, by omega, by go_num, s, p, HSz.out, fun c => Nat.le_succ_of_le (HGv.out c), hA5, hR5, hmb, HFP.out, B5⟩
          case measure => simp [intOf]; omega
        · obtain ⟨n, hxc, hn, -, -⟩ := Ar.has_lt hh
          have hs64 := hAx.small
          have HF : Hid (∀ w', ArAt A 0 s w' → Calls Tryd.prog 21 #[.pointer (some ⟨A, 0, none⟩), .agg #[.int .i64 n, .int .i64 x.g]] w' fun e w'' => e = .returned .nilIface ∧ ArAt A 0 (s.setThere n false) w'' ∧ Turns (arPl A 0) w' w'') := fun w' h => free_yes A 0 s n x.g w' h (by omega) (by rw [← hxc]; exact hh)
          rw [hh] at HH
          clear hh
          refine (HH.out _ hRx).mono ?_
          rintro e3 w3 ⟨rfl, hb3⟩
          have hA3 := hAx.below hb3
          have hR3 := hRx.below hb3
          have B3 := below_step hBx hb3
          have hlx : A < wr.heap.size := HAw.out
          replace X1 := keep_cell hb3 X1
          replace X2 := keep_cell hb3 X2
          rw [hxc] at X1
          clear hb3 hAx hRx hBx HH X0 X3 X4 HX
          go_wp2_with fail
          refine (HF.out _ hA3).mono ?_
          rintro e4 w4 ⟨rfl, hA4, t4⟩
          have hR4 := hR3.turns t4 (fun k o hk h => (HFP.out k hk).2 h.1)
          have B4 : Below w.heap.size w w4 := B3.trans (t4.below B3.size (fun k o hk h => by have := h.1; omega))
          replace X1 := t4.keep X1 (fun h => by have := h.1; omega)
          replace X2 := t4.keep X2 (fun h => by have := h.1; omega)
          clear t4 hA3 hR3 B3 HF
          go_wp2_with fail
          refine (coded_nil a _ (hE.below B4.block)).mono ?_
          rintro e5 w5 ⟨rfl, hb5⟩
          have hA5 := hA4.below hb5
          have hR5 := hR4.below hb5
          have B5 := below_step B4 hb5
          replace X1 := keep_cell hb5 X1
          replace X2 := keep_cell hb5 X2
          clear hb5 hA4 hR4 B4
          have hm := hR5.mCells
          rw [hmb] at hm
          have hhr := hR5.cHere n hn
          have hfc := hR5.fc (n * 3 + 2)
          have hcc := hR5.ccap
          simp only at hcc hm
          have ni : (n : Int) < s.size := by omega
          have HT : Hid (RmAt p ⟨s.setThere n false, 1, fun _ => []⟩ (w5.setCell ⟨p.cb, n * 3 + 2, none⟩ (.bool false)).drew) := (hR5.setThere n hn false).below (Below.refl _ _).drew
          have hcbA : p.cb ≠ A := (HFP.out p.cb (Or.inr (Or.inl rfl))).2
          have hcbw : w.heap.size ≤ p.cb := (HFP.out p.cb (Or.inr (Or.inl rfl))).1
          have hA6 := (hA5.apart (p := ⟨p.cb, n * 3 + 2, none⟩) (.bool false) hcbA).drew
          have B6 := (B5.setCell (p := ⟨p.cb, n * 3 + 2, none⟩) hcbw (.bool false)).drew
          go_wp2
          go_region
          clear hm hhr hfc hA5 hR5 B5 X1 X2
          generalize (w5.setCell ⟨p.cb, n * 3 + 2, none⟩ (.bool false)).drew = w6 at HT hA6 B6 ⊢
          have hcn : Hid (∀ w', RmAt p ⟨(s.setThere n false), 1, fun _ => []⟩ w' → Calls Tryd.prog 30 #[.pointer (some ⟨p0.mb, 0, none⟩)] w' fun e w'' => e = .returned (.int .i64 ((s.setThere n false)).count) ∧ w'' = w') := fun w' h => by
            rw [← hmb]; exact rcount_any p ⟨(s.setThere n false), 1, fun _ => []⟩ w' h
          go_wp2_with fail
          refine (count_any A 0 (s.setThere n false) _ hA6).mono ?_
          rintro ec wc ⟨rfl, rfl⟩
          go_wp2_with fail
          refine (hcn.out _ HT.out).mono ?_
          rintro ed wd ⟨rfl, rfl⟩
          go_wp2
          go_roundw
          case rel => exact ⟨j + 1, by omega, by go_num, (s.setThere n false), p, HSz.out, fun c => Nat.le_succ_of_le (HGv.out c), hA6, HT.out, hmb, HFP.out, B6⟩
          case measure => simp [intOf]; omega
      · -- load
        clear a0 a1 a2 a3 a4
        have hmb := HMb.out
        obtain ⟨v, k, hk9, L1, L2⟩ := loads_same a A p s x.c x.g x.k
        have HL1 : Hid (∀ w', Env a w' → ArAt A 0 s w' → Calls Tryd.prog 22 #[.pointer (some ⟨A, 0, none⟩), .agg #[.int .i64 x.c, .int .i64 x.g], .int .i64 x.k] w' fun e w'' => e = .returned (.tuple #[.int .i64 v, errVal a k]) ∧ Below w'.heap.size w' w'') := L1
        have HL2 : Hid (∀ w', RmAt p ⟨s, 1, fun _ => []⟩ w' → Calls Tryd.prog 27 #[.pointer (some ⟨p0.mb, 0, none⟩), .int .i64 0, .agg #[.int .i64 x.c, .int .i64 x.g], .int .i64 x.k] w' fun e w'' => e = .returned (.tuple #[.int .i64 v, .int .i64 k]) ∧ Below w'.heap.size w' w'') := fun w' h => by
          rw [← hmb]; exact L2 w' h
        clear L1 L2
        obtain ⟨X0, X1, X2, X3, X4⟩ := HX.out
        refine (HL1.out _ (hE.below hBx.block) hAx).mono ?_
        rintro e3 w3 ⟨rfl, hb3⟩
        have hA3 := hAx.below hb3
        have hR3 := hRx.below hb3
        have B3 := below_step hBx hb3
        replace X1 := keep_cell hb3 X1
        replace X2 := keep_cell hb3 X2
        replace X3 := keep_cell hb3 X3
        clear hb3 hAx hRx hBx HL1 X0 X4 HX
        go_wp2_with fail
        refine (HL2.out _ hR3).mono ?_
        rintro e4 w4 ⟨rfl, hb4⟩
        have hA4 := hA3.below hb4
        have hR4 := hR3.below hb4
        have B4 := below_step B3 hb4
        clear hb4 hA3 hR3 B3 HL2 X1 X2 X3
        go_wp2_with fail
        refine (coded_same a k hk9 _ (hE.below B4.block)).mono ?_
        rintro e5 w5 ⟨rfl, hb5⟩
        have hA5 := hA4.below hb5
        have hR5 := hR4.below hb5
        have B5 := below_step B4 hb5
        clear hb5 hA4 hR4 B4
        have hcn : Hid (∀ w', RmAt p ⟨s, 1, fun _ => []⟩ w' → Calls Tryd.prog 30 #[.pointer (some ⟨p0.mb, 0, none⟩)] w' fun e w'' => e = .returned (.int .i64 (s).count) ∧ w'' = w') := fun w' h => by
          rw [← hmb]; exact rcount_any p ⟨s, 1, fun _ => []⟩ w' h
        go_wp2_with fail
        refine (count_any A 0 s _ hA5).mono ?_
        rintro ec wc ⟨rfl, rfl⟩
        go_wp2_with fail
        refine (hcn.out _ hR5).mono ?_
        rintro ed wd ⟨rfl, rfl⟩
        go_wp2
        go_roundw
        case rel => exact ⟨j + 1, by omega, by go_num, s, p, HSz.out, fun c => Nat.le_succ_of_le (HGv.out c), hA5, hR5, hmb, HFP.out, B5⟩
        case measure => simp [intOf]; omega
      · -- store
        clear a0 a1 a2 a3 a4
        have hmb := HMb.out
        have HAt : Hid (∀ w', RmAt p ⟨s, 1, fun _ => []⟩ w' → Calls Tryd.prog 28 #[.pointer (some ⟨p0.mb, 0, none⟩), .agg #[.int .i64 x.c, .int .i64 x.g], .int .i64 x.k] w' fun e w'' => e = .returned (.int .i64 (s.at x.c x.g x.k)) ∧ Below w'.heap.size w' w'') := fun w' h => by
          rw [← hmb]; exact at_any p ⟨s, 1, fun _ => []⟩ x.c x.g x.k w' h
        obtain ⟨X0, X1, X2, X3, X4⟩ := HX.out
        by_cases hat : s.at x.c x.g x.k = 0
        · by_cases hv : 0 ≤ x.v ∧ x.v < 4294967296
          · obtain ⟨n, m, hxc, hxk, hn, hm4, hhas⟩ := Ar.at_zero hat
            have hs64 := hAx.small
            have HSt : Hid (∀ w', Env a w' → ArAt A 0 s w' → Calls Tryd.prog 20 #[.pointer (some ⟨A, 0, none⟩), .agg #[.int .i64 n, .int .i64 x.g], .int .i64 m, .int .i64 x.v] w' fun e w'' => e = .returned .nilIface ∧ ArAt A 0 (s.setWord n m x.v) w'' ∧ Turns (arPl A 0) w' w'') := fun w' hE h => store_yes a A 0 s n m x.g x.v w' hE.toM h (by omega) hhas hm4 hv
            have HW : Hid (∀ w', Calls Tryd.prog 29 #[.int .i64 x.v] w' fun e w'' => e = .returned (.bool true) ∧ w'' = w') := fun w' => (isWordR_any x.v w').mono fun _ _ ⟨h1, h2⟩ => ⟨by rw [h1, decide_eq_true hv], h2⟩
            rw [hat] at HAt
            have hlx : A < wr.heap.size := HAw.out
            clear hat hhas hv
            refine (HAt.out _ hRx).mono ?_
            rintro e3 w3 ⟨rfl, hb3⟩
            have hA3 := hAx.below hb3
            have hR3 := hRx.below hb3
            have B3 := below_step hBx hb3
            replace X1 := keep_cell hb3 X1
            replace X2 := keep_cell hb3 X2
            replace X3 := keep_cell hb3 X3
            replace X4 := keep_cell hb3 X4
            clear hb3 hAx hRx hBx HAt X0 HX
            rw [hxc] at X1
            rw [hxk] at X3
            go_wp2_with fail
            refine (HW.out _).mono ?_
            rintro e6 w6 ⟨rfl, rfl⟩
            go_wp2_with fail
            refine (HSt.out _ (hE.below B3.block) hA3).mono ?_
            rintro e4 w4 ⟨rfl, hA4, t4⟩
            have hR4 := hR3.turns t4 (fun k o hk h => (HFP.out k hk).2 h.1)
            have B4 : Below w.heap.size w w4 := B3.trans (t4.below B3.size (fun k o hk h => by have := h.1; omega))
            replace X1 := t4.keep X1 (fun h => by have := h.1; omega)
            replace X2 := t4.keep X2 (fun h => by have := h.1; omega)
            replace X3 := t4.keep X3 (fun h => by have := h.1; omega)
            replace X4 := t4.keep X4 (fun h => by have := h.1; omega)
            clear t4 hA3 hR3 B3 HSt HW
            go_wp2_with fail
            refine (coded_nil a _ (hE.below B4.block)).mono ?_
            rintro e5 w5 ⟨rfl, hb5⟩
            have hA5 := hA4.below hb5
            have hR5 := hR4.below hb5
            have B5 := below_step B4 hb5
            replace X1 := keep_cell hb5 X1
            replace X2 := keep_cell hb5 X2
            replace X3 := keep_cell hb5 X3
            replace X4 := keep_cell hb5 X4
            clear hb5 hA4 hR4 B4
            have hm := hR5.mCells
            rw [hmb] at hm
            have hcw := hR5.cWords n hn
            have hww := hR5.words n m hn hm4
            have hfw := hR5.fw n m hn
            have hcc := hR5.ccap
            have hwc := hR5.wcap n hn
            simp only at hcc hm hww
            have ni : (n : Int) < s.size := by omega
            have mi : (m : Int) < 4 := by omega
            have HT : Hid (RmAt p ⟨s.setWord n m x.v, 1, fun _ => []⟩ (w5.setCell ⟨p.wb n, m, none⟩ (.int .i64 x.v)).drew) := (hR5.setWord n m hn hm4 x.v).below (Below.refl _ _).drew
            have hwA : p.wb n ≠ A := (HFP.out (p.wb n) (Or.inr (Or.inr (Or.inr (Or.inl ⟨n, hn, rfl⟩))))).2
            have hww' : w.heap.size ≤ p.wb n := (HFP.out (p.wb n) (Or.inr (Or.inr (Or.inr (Or.inl ⟨n, hn, rfl⟩))))).1
            have hA6 := (hA5.apart (p := ⟨p.wb n, m, none⟩) (.int .i64 x.v) hwA).drew
            have B6 := (B5.setCell (p := ⟨p.wb n, m, none⟩) hww' (.int .i64 x.v)).drew
            go_wp2
            go_region
            clear hm hcw hww hfw hA5 hR5 B5 X1 X2 X3 X4
            generalize (w5.setCell ⟨p.wb n, m, none⟩ (.int .i64 x.v)).drew = w6 at HT hA6 B6 ⊢
            have hcn : Hid (∀ w', RmAt p ⟨(s.setWord n m x.v), 1, fun _ => []⟩ w' → Calls Tryd.prog 30 #[.pointer (some ⟨p0.mb, 0, none⟩)] w' fun e w'' => e = .returned (.int .i64 ((s.setWord n m x.v)).count) ∧ w'' = w') := fun w' h => by
              rw [← hmb]; exact rcount_any p ⟨(s.setWord n m x.v), 1, fun _ => []⟩ w' h
            go_wp2_with fail
            refine (count_any A 0 (s.setWord n m x.v) _ hA6).mono ?_
            rintro ec wc ⟨rfl, rfl⟩
            go_wp2_with fail
            refine (hcn.out _ HT.out).mono ?_
            rintro ed wd ⟨rfl, rfl⟩
            go_wp2
            go_roundw
            case rel => exact ⟨j + 1, by omega, by go_num, (s.setWord n m x.v), p, HSz.out, fun c => Nat.le_succ_of_le (HGv.out c), hA6, HT.out, hmb, HFP.out, B6⟩
            case measure => simp [intOf]; omega
          · obtain ⟨n, m, hxc, hxk, hn, hm4, hhas⟩ := Ar.at_zero hat
            have HSt : Hid (∀ w', Env a w' → ArAt A 0 s w' → Calls Tryd.prog 20 #[.pointer (some ⟨A, 0, none⟩), .agg #[.int .i64 x.c, .int .i64 x.g], .int .i64 x.k, .int .i64 x.v] w' fun e w'' => e = .returned (errVal a 2) ∧ Below w'.heap.size w' w'') := fun w' hE h => by
              rw [hxc]; exact store_bad a A 0 s n x.g x.k x.v w' hE.toM h hhas (fun h => hv h.2)
            have HW : Hid (∀ w', Calls Tryd.prog 29 #[.int .i64 x.v] w' fun e w'' => e = .returned (.bool false) ∧ w'' = w') := fun w' => (isWordR_any x.v w').mono fun _ _ ⟨h1, h2⟩ => ⟨by rw [h1, decide_eq_false hv], h2⟩
            rw [hat] at HAt
            clear hat hhas hv hxc hxk
            refine (HAt.out _ hRx).mono ?_
            rintro e3 w3 ⟨rfl, hb3⟩
            have hA3 := hAx.below hb3
            have hR3 := hRx.below hb3
            have B3 := below_step hBx hb3
            replace X1 := keep_cell hb3 X1
            replace X2 := keep_cell hb3 X2
            replace X3 := keep_cell hb3 X3
            replace X4 := keep_cell hb3 X4
            clear hb3 hAx hRx hBx HAt X0 HX
            go_wp2_with fail
            refine (HW.out _).mono ?_
            rintro e6 w6 ⟨rfl, rfl⟩
            go_wp2_with fail
            refine (HSt.out _ (hE.below B3.block) hA3).mono ?_
            rintro e4 w4 ⟨rfl, hb4⟩
            have hA4 := hA3.below hb4
            have hR4 := hR3.below hb4
            have B4 := below_step B3 hb4
            clear hb4 hA3 hR3 B3 HSt X1 X2 X3 X4
            go_wp2_with fail
            refine (coded_same a 2 (by omega) _ (hE.below B4.block)).mono ?_
            rintro e5 w5 ⟨rfl, hb5⟩
            have hA5 := hA4.below hb5
            have hR5 := hR4.below hb5
            have B5 := below_step B4 hb5
            clear hb5 hA4 hR4 B4
            have hcn : Hid (∀ w', RmAt p ⟨s, 1, fun _ => []⟩ w' → Calls Tryd.prog 30 #[.pointer (some ⟨p0.mb, 0, none⟩)] w' fun e w'' => e = .returned (.int .i64 (s).count) ∧ w'' = w') := fun w' h => by
              rw [← hmb]; exact rcount_any p ⟨s, 1, fun _ => []⟩ w' h
            go_wp2_with fail
            refine (count_any A 0 s _ hA5).mono ?_
            rintro ec wc ⟨rfl, rfl⟩
            go_wp2_with fail
            refine (hcn.out _ hR5).mono ?_
            rintro ed wd ⟨rfl, rfl⟩
            go_wp2
            go_roundw
            case rel => exact ⟨j + 1, by omega, by go_num, s, p, HSz.out, fun c => Nat.le_succ_of_le (HGv.out c), hA5, hR5, hmb, HFP.out, B5⟩
            case measure => simp [intOf]; omega
        · have he9 : s.at x.c x.g x.k ≤ 9 := by unfold Ar.at; split; omega; split <;> omega
          have HSt : Hid (∀ w', Env a w' → ArAt A 0 s w' → Calls Tryd.prog 20 #[.pointer (some ⟨A, 0, none⟩), .agg #[.int .i64 x.c, .int .i64 x.g], .int .i64 x.k, .int .i64 x.v] w' fun e w'' => e = .returned (errVal a (s.at x.c x.g x.k)) ∧ Below w'.heap.size w' w'') := fun w' hE h => by
            unfold Ar.at at hat ⊢
            split
            · rename_i hh; exact store_no a A 0 s x.c x.g x.k x.v w' hE.toM h hh
            · rename_i hh
              rw [if_neg hh] at hat
              have hh' : s.has x.c x.g = true := by simpa using hh
              obtain ⟨n, hxc, _, _⟩ := Ar.has_lt hh'
              split
              · rename_i hk; rw [if_pos hk] at hat; exact absurd rfl hat
              · rename_i hk
                rw [hxc] at hh' ⊢
                exact store_bad a A 0 s n x.g x.k x.v w' hE.toM h hh' (fun h => hk h.1)
          have hpos : 0 < ((s.at x.c x.g x.k : Nat) : Int) := by omega
          have hz0 : (((s.at x.c x.g x.k : Nat) : Int) == 0) = false := beq_eq_false_iff_ne.2 (by omega)
          generalize s.at x.c x.g x.k = E at *
          clear hat
          refine (HAt.out _ hRx).mono ?_
          rintro e3 w3 ⟨rfl, hb3⟩
          have hA3 := hAx.below hb3
          have hR3 := hRx.below hb3
          have B3 := below_step hBx hb3
          replace X1 := keep_cell hb3 X1
          replace X2 := keep_cell hb3 X2
          replace X3 := keep_cell hb3 X3
          replace X4 := keep_cell hb3 X4
          clear hb3 hAx hRx hBx HAt X0 HX
          go_wp2_with fail
          refine (HSt.out _ (hE.below B3.block) hA3).mono ?_
          rintro e4 w4 ⟨rfl, hb4⟩
          have hA4 := hA3.below hb4
          have hR4 := hR3.below hb4
          have B4 := below_step B3 hb4
          clear hb4 hA3 hR3 B3 HSt X1 X2 X3 X4
          go_wp2_with fail
          refine (coded_same a E (by omega) _ (hE.below B4.block)).mono ?_
          rintro e5 w5 ⟨rfl, hb5⟩
          have hA5 := hA4.below hb5
          have hR5 := hR4.below hb5
          have B5 := below_step B4 hb5
          clear hb5 hA4 hR4 B4
          have hcn : Hid (∀ w', RmAt p ⟨s, 1, fun _ => []⟩ w' → Calls Tryd.prog 30 #[.pointer (some ⟨p0.mb, 0, none⟩)] w' fun e w'' => e = .returned (.int .i64 (s).count) ∧ w'' = w') := fun w' h => by
            rw [← hmb]; exact rcount_any p ⟨s, 1, fun _ => []⟩ w' h
          go_wp2_with fail
          refine (count_any A 0 s _ hA5).mono ?_
          rintro ec wc ⟨rfl, rfl⟩
          go_wp2_with fail
          refine (hcn.out _ hR5).mono ?_
          rintro ed wd ⟨rfl, rfl⟩
          go_wp2
          go_roundw
          case rel => exact ⟨j + 1, by omega, by go_num, s, p, HSz.out, fun c => Nat.le_succ_of_le (HGv.out c), hA5, hR5, hmb, HFP.out, B5⟩
          case measure => simp [intOf]; omega
    · obtain rfl : j = l.length := by omega
      clear HL hgv hfp hA hR
      go_wp2
      go_ret
      exact ⟨rfl, hB⟩
end Go.Proofs.YtcnemlamlchnkaaDoor
