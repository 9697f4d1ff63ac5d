/- The law MachSteps answers true for every start, all codes, any script and any two numbers that can be handed in; no condition beside the row's own. -/
import Derived.Test.YtdpmnlbnlnmjbaaGreatDoorJ38
import Derived.Test.YtdpmnlbnlnmjbaaGreatDoorJ30
import Derived.Test.YtdpmnlbnlnmjbaaGreatDoorTie
import Derived.Test.YtdpmnlbnlnmjbaaGreatDoorCards
import Derived.Carry
import Derived.SevenTiedAt

/- RsH -/
namespace Go.Proofs.YtdpmnlbnlnmjbaaGreatDoor
open Go.RowKit Go.Extern.Stop Go.Stop Go.Extern Go.Maps Go.WideMaps Go.Sort

theorem Pair.go {a : Nat → Addr} {cs : List (List Ins)} {N : Nat} {p : MkPl} {q : RkPl} {m m' : Mk} {K : Nat} {w w' w'' : World} {v v2 : Value} {r : RmPl} (h : Pair a cs N p q m K w) (hN : N ≤ w.heap.size) (k : MkStep a cs p w v m' w') (k2 : RkStep cs q m.mem w' r v2 m' w'') (ok : MkOk cs.length (K + 1) m') (hK : K + 1 ≤ 10000000) :
    Pair a cs N (p.marked v) (q.to r v2) m' (K + 1) w'' ∧ Below N w w'' := by
  have hs := k.turns.size
  have hap : ∀ i, (p.marked v).fp i → ¬ q.fp cs.length m.mem i := fun i hp hf => by
    rcases MkPl.fp_marked k hp with h1 | h1
    · exact h.ap i h1 hf
    · have := h.xq.at'.fp_lt hf; omega
  refine ⟨⟨⟨k.at'.turns k2.turns (fun i o hf hp => hap i hp hf) (fun i o hf => h.bq3 i hf), ok, h.xp.right, hK⟩, ⟨k2.at', ok, h.xp.right, hK⟩, fun i hp hq => ?_, fun i hp => ?_, h.bq, h.bq2, fun i hq => ?_⟩, ?_⟩
  · rcases k2.fp i hq with h1 | h1
    · exact hap i hp h1
    · have := k.at'.fp_lt hp; omega
  · rcases MkPl.fp_marked k hp with h1 | h1
    · exact h.bp i h1
    · omega
  · rcases k2.fp i hq with h1 | h1
    · exact h.bq3 i h1
    · have := h.xp.at'.pg.size
      show p.B ≤ i
      omega
  · have b1 : Below N w w' := k.turns.below hN (fun i o hi hf => by have := h.bp i hf; omega)
    refine b1.trans (k2.turns.below (Nat.le_trans hN hs) (fun i o hi hf => ?_))
    have := h.bq3 i hf
    have := h.bq2
    omega
theorem stepO_le (m : Mk) (cs : List (List Ins)) (t : Int) : (m.stepO cs t).1 ≤ 9 := by
  unfold Mk.stepO
  split
  · split
    · exact Nat.le_refl 9
    · exact Nat.zero_le 9
  · exact (show 2 ≤ 9 by decide)
theorem drainO_le (m : Mk) (cs : List (List Ins)) (t : Int) : (m.drainO cs t).1 ≤ 9 := by
  unfold Mk.drainO
  split
  · split
    · exact (show 5 ≤ 9 by decide)
    · exact Nat.zero_le 9
  · exact (show 2 ≤ 9 by decide)
theorem Pair.mid {a : Nat → Addr} {cs : List (List Ins)} {N : Nat} {p : MkPl} {q : RkPl} {m m' : Mk} {K : Nat} {w w' : World} {v : Value} (h : Pair a cs N p q m K w) (k : MkStep a cs p w v m' w') : RkX cs q m K w' :=
  ⟨h.xq.at'.turns k.turns (fun i o hf hq => h.ap i hf hq) (fun i o hf => by rw [h.bq]; exact h.bp i hf), h.xq.ok, h.xq.right, h.xq.hK⟩

set_option maxRecDepth 100000 in
set_option maxHeartbeats 4000000 in
theorem steps_any {a : Nat → Addr} {s : Sta} {ai ar ad ada : Option Addr} {ci cr cap capa : Nat} {cs : List (List Ins)} {la : List Int} {tt rr : Int} {w : World} (hE : Env a w) (hs : StaAt s ⟨ai, ci, ar, cr⟩ w) (hl : codesAt ad cs w) (hsz : ∀ (t : Nat) L, cs[t]? = some L → ∀ (i : Nat) x, L[i]? = some x → x.to.size ≤ maxLen)
    (hc : cs.length ≤ 9223372036854775807) (hL : ∀ (t : Nat) L, cs[t]? = some L → L.length ≤ 9223372036854775807) (na : NumsX ada la capa w) (hca : la.length ≤ capa) :
    Calls Tryz.prog 5 #[.agg #[.int .i64 s.cells, .slice ai s.init.length ci, .slice ar s.regs.length cr], .slice ad cs.length cap, .slice ada la.length capa, .int .i64 tt, .int .i64 rr] w fun e w' => e = .returned (.bool true) ∧ Below w.heap.size w w' := by
  obtain ⟨w1, hw1⟩ : ∃ w1, w1 = w.alloc (.cells #[.int .i64 s.cells, .slice ai s.init.length ci, .slice ar s.regs.length cr] 24) := ⟨_, rfl⟩
  have b1 : Below w.heap.size w w1 := by rw [hw1]; exact (Below.refl _ _).alloc (Nat.le_refl _) _
  have e0 : w1.cell? ⟨w.heap.size, 0, none⟩ = some (.int .i64 s.cells) := by rw [hw1]; simp
  have e1 : w1.cell? ⟨w.heap.size, 1, none⟩ = some (.slice ai s.init.length ci) := by rw [hw1]; simp
  have e2 : w1.cell? ⟨w.heap.size, 2, none⟩ = some (.slice ar s.regs.length cr) := by rw [hw1]; simp
  have HO := hide (one_any (hE.below b1.block))
  have HV := hide (fun w' (hb : Below w1.heap.size w1 w') => vast_any (cap := cap) ((hs.below b1).below hb) ((hl.below b1).below hb) hc hL)
  have HS := hide (fun (w' : World) => startOf_any (s := s) (ai := ai) (ar := ar) (ci := ci) (cr := cr) w')
  have HN := hide (fun w' (hb : Below w1.heap.size w1 w') => new_any (cap := cap) ((hE.below b1.block).below hb.block) ((hs.below b1).below hb) ((hl.below b1).below hb) hsz)
  have HNM := hide (fun w' (hb : Below w1.heap.size w1 w') h1 h64 n1 n6 hfit => newMachine_any (cap := cap) hb ((hs.below b1).below hb) (hl.below b1) h1 h64 n1 n6 hfit)
  have NA := hide (na.below b1)
  have la2 : (la.length : Int) ≤ 9223372036854775807 := by have := na.len; omega
  have lc2 : (cs.length : Int) ≤ 9223372036854775807 := by omega
  clear hE hs hl hsz hL na
  go_enter Tryz.func5, Tryz.ntmps5
  go_wp2_with fail
  rw [← hw1]
  clear hw1
  refine HO.out.mono ?_
  rintro e w2 ⟨rfl, hb2⟩
  replace e0 := keep_cell hb2 e0
  replace e1 := keep_cell hb2 e1
  replace e2 := keep_cell hb2 e2
  have HV2 := hide (HV.out w2 hb2)
  clear HO HV
  go_wp2_with fail
  refine HV2.out.mono ?_
  rintro e w3 ⟨v, hv, rfl, hb3⟩
  have B3 := below_step hb2 hb3
  replace e0 := keep_cell hb3 e0
  replace e1 := keep_cell hb3 e1
  replace e2 := keep_cell hb3 e2
  clear HV2 hb2 hb3
  rcases hv.out with rfl | rfl
  · by_cases ha : (60 : Int) < la.length
    · go_wp2
      go_ret
      exact ⟨rfl, below_step b1 B3⟩
    · go_wp2_with fail
      refine (HS.out w3).mono ?_
      rintro e w4 ⟨rfl, hb4⟩
      have B4 := below_step B3 hb4
      have HN4 := hide (HN.out w4 B4)
      replace e0 := keep_cell hb4 e0
      replace e1 := keep_cell hb4 e1
      replace e2 := keep_cell hb4 e2
      clear HS HN hb4 B3
      go_wp2_with fail
      refine HN4.out.mono ?_
      rintro e w5 hp
      obtain ⟨hb5, hp⟩ := hp.out
      have B5 := below_step B4 hb5
      replace e0 := keep_cell hb5 e0
      replace e1 := keep_cell hb5 e1
      replace e2 := keep_cell hb5 e2
      rcases hp with ⟨hf, hR, p, rfl, hA, hpB, hmv⟩ | ⟨hz, v, rfl, hv⟩
      · obtain ⟨g1, g2, g3, g4⟩ := Sta.fault_fits hf
        have r0 : RunX a cs p (s.mach cs.length) 1 w5 := ⟨hA, Sta.mach_ok g1 g2 g3, hR, by decide⟩
        have HM := hide (HNM.out w5 B5 g4 g2 hR.some' g3 g1)
        have h14 := B4.size
        have hok := Sta.mach_ok (n := cs.length) g1 g2 g3
        have hN : w1.heap.size ≤ p.B := Nat.le_trans h14 hpB
        clear HN4 hb5 B4 hmv hf
        go_wp2_with fail
        refine HM.out.mono ?_
        rintro e w8 ⟨q, rfl, hq⟩
        have P8 := hide (show Pair a cs w1.heap.size p q (s.mach cs.length) 1 w8 from {
          xp := r0.below hq.out.2.2.1
          xq := ⟨hq.out.1, hok, hR, by decide⟩
          ap := fun k h1 h2 => by
            have a1 := hA.fp_lt h1
            have a2 := hq.out.2.2.2 k h2
            omega
          bp := fun k h1 => Nat.le_trans hN (hA.fp_ge h1)
          bq := hq.out.2.1
          bq2 := hN
          bq3 := fun k h2 => by
            have a1 := hA.pg.size
            have a2 := hq.out.2.2.2 k h2
            omega })
        have HB8 := hide (B5.trans (hq.out.2.2.1.mono B5.size))
        have NA8 := NA.out.below HB8.out
        have la3 : la.length ≤ 60 := by omega
        have HB1 := hide b1
        clear HM r0 hq hA hok hpB b1 B5 hR g1 g2 g3 g4 e0 e1 e2 HNM h14
        generalize s.mach cs.length = M0 at *
        go_wp2_with fail
        clear NA8
        go_loopw [15, 16] (fun i _ wr => ∃ j : Nat, j ≤ la.length ∧ i = .int .i64 j ∧ ∃ p' q' m', p'.b = p.b ∧ q'.k = q.k ∧ Hid (Pair a cs w1.heap.size p' q' m' (1 + j) wr) ∧ Hid (Below w1.heap.size w1 wr)) (fun i _ _ => la.length - (intOf i).toNat)
        case atStart => exact ⟨0, Nat.zero_le _, rfl, p, q, M0, rfl, rfl, P8, HB8⟩
        case round =>
          clear P8 HB8
          obtain ⟨j, hj, rfl, p', q', m', ep, eq, PJ, HBJ⟩ := hrel
          by_cases hlt : j < la.length
          · obtain ⟨x, hx⟩ : ∃ x, la[j]? = some x := ⟨_, List.getElem?_eq_getElem hlt⟩
            have NAJ := NA.out.below HBJ.out
            obtain ⟨b', off, rfl, cx⟩ := NAJ.at' j x hx
            have ji : (j : Int) < la.length := by omega
            have jc : (j : Int) < capa := by omega
            have hjK1 : 1 + j ≤ 60000000 := by omega
            have hjK2 : 1 + j + 1 ≤ 10000000 := by omega
            have hjK3 : 1 + j + 1 ≤ 60000000 := by omega
            clear NAJ hx
            go_wp2_with fail
            · have HS := hide (kstepO PJ.out.xp (x / 2))
              rw [ep] at HS
              refine HS.out.mono ?_
              rintro e w10 ⟨rfl, v10, k10⟩
              have HK := hide k10
              have HS2 := hide (rstepO (PJ.out.mid k10) (x / 2))
              rw [eq] at HS2
              clear HS k10 cx
              go_wp2_with fail
              refine HS2.out.mono ?_
              rintro e w11 ⟨rfl, r11, v11, k11⟩
              have PG := hide (PJ.out.go HBJ.out.size HK.out k11 (PJ.out.xp.ok.stepO PJ.out.xp.right (x / 2) hjK1) hjK2)
              have HC := hide (coded_same a (m'.stepO cs (x / 2)).1 (stepO_le _ _ _) w11 PG.out.1.xp.at'.env)
              have HBG := hide (HBJ.out.trans PG.out.2)
              clear HS2 HK k11 PJ HBJ
              generalize (m'.stepO cs (x / 2)).1 = E1 at *
              generalize (m'.stepO cs (x / 2)).2 = M2 at *
              go_wp2_with fail
              refine HC.out.mono ?_
              rintro e w12 ⟨rfl, hb12⟩
              have PK := hide (PG.out.1.below hb12)
              have HBK := hide (HBG.out.trans (hb12.mono HBG.out.size))
              clear HC PG HBG hb12
              obtain ⟨R8, hR8⟩ : ∃ R8, (j : Int).tmod 8 = R8 := ⟨_, rfl⟩
              by_cases h8 : R8 = 0
              · subst h8
                have HAM := hide (asModel_any (p := p'.marked v10) (q := q'.to r11 v11) ⟨PK.out.xp.at', PK.out.xq.at'⟩ PK.out.xp.ok.marks (fun c => Nat.le_trans (PK.out.xp.ok.mem.given c) hjK3))
                rw [show (p'.marked v10).b = p.b from ep, show (q'.to r11 v11).k = q.k from eq] at HAM
                go_wp2_with fail
                refine HAM.out.mono ?_
                rintro e w13 ⟨rfl, hb13⟩
                have PL := hide (PK.out.below hb13)
                have HBL := hide (HBK.out.trans (hb13.mono HBK.out.size))
                clear HAM PK HBK hb13
                go_wp2
                go_roundw
                case rel => exact ⟨j + 1, by omega, by go_num, p'.marked v10, q'.to r11 v11, M2, ep, eq, PL, HBL⟩
                case measure => simp [intOf]; omega
              · have hb8 : (R8 == 0) = false := beq_eq_false_iff_ne.2 h8
                go_wp2
                go_roundw
                case rel => exact ⟨j + 1, by omega, by go_num, p'.marked v10, q'.to r11 v11, M2, ep, eq, PK, HBK⟩
                case measure => simp [intOf]; omega
            · have HS := hide (kdrainO PJ.out.xp (x / 2))
              rw [ep] at HS
              refine HS.out.mono ?_
              rintro e w10 ⟨rfl, v10, k10⟩
              have HK := hide k10
              have HS2 := hide (rdrainO (PJ.out.mid k10) (x / 2))
              rw [eq] at HS2
              clear HS k10 cx
              go_wp2_with fail
              refine HS2.out.mono ?_
              rintro e w11 ⟨rfl, r11, v11, k11⟩
              have PG := hide (PJ.out.go HBJ.out.size HK.out k11 (PJ.out.xp.ok.drainO (x / 2)) hjK2)
              have HC := hide (coded_same a (m'.drainO cs (x / 2)).1 (drainO_le _ _ _) w11 PG.out.1.xp.at'.env)
              have HBG := hide (HBJ.out.trans PG.out.2)
              clear HS2 HK k11 PJ HBJ
              generalize (m'.drainO cs (x / 2)).1 = E1 at *
              generalize (m'.drainO cs (x / 2)).2 = M2 at *
              go_wp2_with fail
              refine HC.out.mono ?_
              rintro e w12 ⟨rfl, hb12⟩
              have PK := hide (PG.out.1.below hb12)
              have HBK := hide (HBG.out.trans (hb12.mono HBG.out.size))
              clear HC PG HBG hb12
              obtain ⟨R8, hR8⟩ : ∃ R8, (j : Int).tmod 8 = R8 := ⟨_, rfl⟩
              by_cases h8 : R8 = 0
              · subst h8
                have HAM := hide (asModel_any (p := p'.marked v10) (q := q'.to r11 v11) ⟨PK.out.xp.at', PK.out.xq.at'⟩ PK.out.xp.ok.marks (fun c => Nat.le_trans (PK.out.xp.ok.mem.given c) hjK3))
                rw [show (p'.marked v10).b = p.b from ep, show (q'.to r11 v11).k = q.k from eq] at HAM
                go_wp2_with fail
                refine HAM.out.mono ?_
                rintro e w13 ⟨rfl, hb13⟩
                have PL := hide (PK.out.below hb13)
                have HBL := hide (HBK.out.trans (hb13.mono HBK.out.size))
                clear HAM PK HBK hb13
                go_wp2
                go_roundw
                case rel => exact ⟨j + 1, by omega, by go_num, p'.marked v10, q'.to r11 v11, M2, ep, eq, PL, HBL⟩
                case measure => simp [intOf]; omega
              · have hb8 : (R8 == 0) = false := beq_eq_false_iff_ne.2 h8
                go_wp2
                go_roundw
                case rel => exact ⟨j + 1, by omega, by go_num, p'.marked v10, q'.to r11 v11, M2, ep, eq, PK, HBK⟩
                case measure => simp [intOf]; omega
          · obtain rfl : j = la.length := by omega
            have HBW := hide (below_step HB1.out HBJ.out)
            have hjK3 : 1 + la.length ≤ 60000000 := Nat.le_trans (Nat.add_le_add_left la3 1) (by decide)
            clear HBJ NA hlt hj
            by_cases ht : 0 ≤ tt ∧ tt < cs.length
            · obtain ⟨u, rfl⟩ := Int.eq_ofNat_of_zero_le ht.1
              have hu : u < cs.length := by omega
              have ui : (u : Int) < cs.length := ht.2
              have du : decide ((u : Int) < 0) = false := by simp
              by_cases hr : 0 ≤ rr ∧ rr < 8
              · obtain ⟨r, rfl⟩ := Int.eq_ofNat_of_zero_le hr.1
                have hrn : r < 8 := by omega
                have ri : (r : Int) < 8 := hr.2
                have dr : decide ((r : Int) < 0) = false := by simp
                have HRg := hide (kreg_any PJ.out.xp.at' hu hrn)
                rw [ep] at HRg
                have HAM := hide (fun w' (hb : Below wr.heap.size wr w') => asModel_any (p := p') (q := q') ⟨(PJ.out.below hb).xp.at', (PJ.out.below hb).xq.at'⟩ PJ.out.xp.ok.marks (fun c => Nat.le_trans (PJ.out.xp.ok.mem.given c) hjK3))
                have rT := PJ.out.xq.at'.mT
                have rR := PJ.out.xq.at'.tRegs u hu
                have rC := PJ.out.xq.at'.rcap u hu
                have rTc := PJ.out.xq.at'.tcap
                have rX := PJ.out.xq.at'.regs u r hu hrn
                rw [ep, eq] at HAM
                rw [eq] at rT
                clear ht hr
                go_wp2_with fail
                refine HRg.out.mono ?_
                rintro e w9 ⟨rfl, rfl⟩
                clear HRg PJ
                generalize m'.regs u r = V at *
                go_wp2_with fail
                refine (HAM.out _ (Below.refl _ _)).mono ?_
                rintro e w10 ⟨rfl, hb10⟩
                have HB10 := hide (HBW.out.trans (hb10.mono HBW.out.size))
                clear HAM hb10 HBW rT rR rX
                go_wp2
                go_ret
                exact ⟨rfl, HB10.out⟩
              · have HRg := hide (kreg_bad PJ.out.xp.at' (Or.inr hr) (t := (u : Int)))
                rw [ep] at HRg
                have HCd := hide (fun w' (hb : Below wr.heap.size wr w') => coded_sent a 1 (by decide) 2 (by decide) w' (PJ.out.below hb).xp.at'.env)
                clear PJ ht
                rcases Int.lt_or_le rr 0 with h0 | h0
                · go_wp2_with fail
                  refine HRg.out.mono ?_
                  rintro e w9 ⟨rfl, hb9⟩
                  have HC9 := hide (HCd.out w9 hb9)
                  have HB9 := hide (HBW.out.trans (hb9.mono HBW.out.size))
                  clear HRg HCd hb9 HBW hr
                  go_wp2_with fail
                  refine HC9.out.mono ?_
                  rintro e w10 ⟨rfl, hb10⟩
                  have HB10 := hide (HB9.out.trans (hb10.mono HB9.out.size))
                  clear HC9 hb10 HB9
                  go_wp2
                  go_ret
                  exact ⟨rfl, HB10.out⟩
                · have h8 : (8 : Int) ≤ rr := by omega
                  go_wp2_with fail
                  refine HRg.out.mono ?_
                  rintro e w9 ⟨rfl, hb9⟩
                  have HC9 := hide (HCd.out w9 hb9)
                  have HB9 := hide (HBW.out.trans (hb9.mono HBW.out.size))
                  clear HRg HCd hb9 HBW hr
                  go_wp2_with fail
                  refine HC9.out.mono ?_
                  rintro e w10 ⟨rfl, hb10⟩
                  have HB10 := hide (HB9.out.trans (hb10.mono HB9.out.size))
                  clear HC9 hb10 HB9
                  go_wp2
                  go_ret
                  exact ⟨rfl, HB10.out⟩
            · have HRg := hide (kreg_bad PJ.out.xp.at' (Or.inl ht) (r := rr))
              rw [ep] at HRg
              have HCd := hide (fun w' (hb : Below wr.heap.size wr w') => coded_sent a 1 (by decide) 2 (by decide) w' (PJ.out.below hb).xp.at'.env)
              have HDn := hide (fun w' (hb : Below wr.heap.size wr w') => kdone_no ht (PJ.out.below hb).xp.at')
              rw [ep] at HDn
              clear PJ
              rcases Int.lt_or_le tt 0 with h0 | h0
              · go_wp2_with fail
                refine HRg.out.mono ?_
                rintro e w9 ⟨rfl, hb9⟩
                have HC9 := hide (HCd.out w9 hb9)
                have HB9 := hide (HBW.out.trans (hb9.mono HBW.out.size))
                have hb9' := hide hb9
                clear HRg HCd hb9 HBW ht
                go_wp2_with fail
                refine HC9.out.mono ?_
                rintro e w10 ⟨rfl, hb10⟩
                have HB10 := hide (HB9.out.trans (hb10.mono HB9.out.size))
                have HD := hide (HDn.out w10 (hb9'.out.trans (hb10.mono hb9'.out.size)))
                clear HC9 hb10 HB9
                go_wp2_with fail
                refine HD.out.mono ?_
                rintro e w11 ⟨rfl, rfl⟩
                go_wp2
                go_ret
                exact ⟨rfl, HB10.out⟩
              · have h8 : (cs.length : Int) ≤ tt := by omega
                go_wp2_with fail
                refine HRg.out.mono ?_
                rintro e w9 ⟨rfl, hb9⟩
                have HC9 := hide (HCd.out w9 hb9)
                have HB9 := hide (HBW.out.trans (hb9.mono HBW.out.size))
                have hb9' := hide hb9
                clear HRg HCd hb9 HBW ht
                go_wp2_with fail
                refine HC9.out.mono ?_
                rintro e w10 ⟨rfl, hb10⟩
                have HB10 := hide (HB9.out.trans (hb10.mono HB9.out.size))
                have HD := hide (HDn.out w10 (hb9'.out.trans (hb10.mono hb9'.out.size)))
                clear HC9 hb10 HB9
                go_wp2_with fail
                refine HD.out.mono ?_
                rintro e w11 ⟨rfl, rfl⟩
                go_wp2
                go_ret
                exact ⟨rfl, HB10.out⟩
      · obtain ⟨k, hk⟩ : ∃ k, (s.fault cs).1 = k + 1 := ⟨(s.fault cs).1 - 1, by omega⟩
        have HBW := hide (below_step b1 B5)
        clear HN4 hb5 B4 B5 HNM NA
        rcases hv with ⟨h, -⟩ | ⟨-, -, rfl⟩ | ⟨-, j2, N2, -, -, rfl, -, -⟩
        · exact absurd h hz
        · rw [hk]
          clear hz hk
          rw [show xval a (k + 1) = xerr (a k) from rfl]
          go_wp2
          go_ret
          exact ⟨rfl, HBW.out⟩
        · clear hz hk
          go_wp2
          go_ret
          exact ⟨rfl, HBW.out⟩
  · go_wp2
    go_ret
    exact ⟨rfl, below_step b1 B3⟩
end Go.Proofs.YtdpmnlbnlnmjbaaGreatDoor

/- StU -/
namespace Go.Proofs.YtdpmnlbnlnmjbaaGreatDoor
open Go.ChangeShapes Go.WideShapes Go.ChangeAt Go.RowKit Go.Joins Go.Deep

theorem trodAll_five {H : Type} {enc : TypeId × Value → H} {P : Program} {w : World} {base : Nat} {spare : Nat → Bool} {held : Bool} {t t' t'' t3 t4 : TypeId} {args : Array Value} {ds : List (DataW H)} {ps : List MemPlace} (h : DataW.TrodAll enc P w base spare held [t, t', t'', t3, t4] args.toList ds ps) :
    ∃ v v' v'' v3 v4 d d' d'' d3 d4 p p' p'' p3 p4, args = #[v, v', v'', v3, v4] ∧ ds = [d, d', d'', d3, d4] ∧ ps = p ++ p' ++ p'' ++ p3 ++ p4 ∧ DataW.Trod enc P w base spare held t v d p ∧ DataW.Trod enc P w base spare held t' v' d' p' ∧ DataW.Trod enc P w base spare held t'' v'' d'' p'' ∧ DataW.Trod enc P w base spare held t3 v3 d3 p3 ∧ DataW.Trod enc P w base spare held t4 v4 d4 p4 := by
  obtain ⟨v, vs, d, ds', p, q, hargs, rfl, rfl, hd, hrest⟩ := trodAll_cons h
  obtain ⟨v', vs', d', ds'', p', q', rfl, rfl, rfl, hd', hrest'⟩ := trodAll_cons hrest
  obtain ⟨v'', vs'', d'', ds''', p'', q'', rfl, rfl, rfl, hd'', hrest''⟩ := trodAll_cons hrest'
  obtain ⟨v3, vs3, d3, ds3, p3, q3, rfl, rfl, rfl, hd3, hrest3⟩ := trodAll_cons hrest''
  obtain ⟨v4, vs4, d4, ds4, p4, q4, rfl, rfl, rfl, hd4, hrest4⟩ := trodAll_cons hrest3
  obtain ⟨rfl, rfl, rfl⟩ := trodAll_nil hrest4
  exact ⟨v, v', v'', v3, v4, d, d', d'', d3, d4, p, p', p'', p3, p4, by cases args; simp_all, rfl, by simp, hd, hd', hd'', hd3, hd4⟩

theorem steps_laid : Rows.machStepsRow.laid = laidAll := rfl
theorem cells_StartS : Tryz.prog.cellsOf 24 = 3 := by kernel_rfl
theorem readableS5 : ∀ t ∈ [24, 25, 26, 3, 3], Tryz.prog.readableRec t = true ∧ t < Tryz.prog.types.size := by
  intro t ht
  simp only [List.mem_cons, List.not_mem_nil, or_false] at ht
  rcases ht with rfl | rfl | rfl | rfl | rfl
  · exact ⟨by kernel_rfl, of_decide_eq_true (by kernel_rfl)⟩
  · exact ⟨by kernel_rfl, of_decide_eq_true (by kernel_rfl)⟩
  · exact ⟨by kernel_rfl, of_decide_eq_true (by kernel_rfl)⟩
  · exact ⟨by kernel_rfl, of_decide_eq_true (by kernel_rfl)⟩
  · exact ⟨by kernel_rfl, of_decide_eq_true (by kernel_rfl)⟩

set_option maxRecDepth 100000 in
theorem steps_lifted (os : Os) (started : os.Started) (H : Type) (enc : TypeId × Value → H) :
    ReturnsInHanded {} Tryz.checked os 5 .any (fun w args => (Rows.machStepsSpec.pre enc Tryz.prog Tryz.f5 [] false w args ∧ laidMetH Tryz.prog Rows.machStepsRow.laid w) ∧ sizedMet enc Tryz.prog Tryz.f5 (OpenSpec.ofChange Rows.machStepsSpec) false w args)
      (Rows.machStepsSpec.post enc Tryz.prog Tryz.f5 false true false false) := by
  rw [steps_laid]
  refine returnsInHanded_of_change_and (C := Tryz.checked) (X := fun w _ => laidMetH Tryz.prog laidAll w) (fun _ _ _ hh h => h.of_heap hh) own started (by kernel_rfl) Tryz.func5
    (ChangeSpec.witness_shaped (enc := enc) (C := Tryz.checked) (os := os) (X := fun w _ => laidMetH Tryz.prog laidAll w) false (World.doorLaid Tryz.prog 400 os) #[.agg #[.int .i64 0, .slice none 0 0, .slice none 0 0], .slice none 0 0, .slice none 0 0, .int .i64 0, .int .i64 0] 8 rfl (World.shaped_of_RefB (by kernel_rfl) (by kernel_rfl)) (by kernel_rfl) (by kernel_rfl) (by kernel_rfl) (door_met os _)) ?_
  intro W base args ds gs before hval0 hW _ _ hL _
  have hval : ∀ (j : Nat) t v, Tryz.f5.params[j]? = some t → args[j]? = some v → Value.okWide Tryz.prog W .any base t v := hval0
  have hW' := hW
  obtain ⟨p, q, hA0, hV, rfl, hfz, hnd⟩ := hW
  have hA : DataW.TrodAll enc Tryz.prog W 0 (fun _ => true) true Tryz.f5.params.toList args.toList ds p := hA0
  rw [Tryz.params5] at hA hval
  have hA2 := hA
  obtain ⟨v0, v1, v2, v3, v4, d0, d1, d2, d3, d4, p0, p1, p2, p3, p4, rfl, rfl, rfl, h0, h1, h2, h3, h4⟩ := trodAll_five hA
  obtain ⟨rfl, rfl⟩ := trodVars_none hV
  obtain ⟨c0, c1, c2, y0, y1, y2, n, rfl, -, -, k0, k1, k2⟩ := open_agg3 Tryz.underlying24 (by kernel_rfl) cells_StartS (hval 0 24 v0 rfl rfl) h0
  obtain ⟨cells, e0⟩ := kint_of_trod k0
  obtain ⟨ai, ci, R1, e1, r1, l1, m1, n1⟩ := rows_of_trod k1
  obtain ⟨ar, cr, R2, e2, r2, l2, m2, n2⟩ := rows_of_trod k2
  obtain rfl : c0 = .int .i64 cells := by simpa using e0
  obtain rfl : c1 = .slice ai R1.length ci := by simpa using e1
  obtain rfl : c2 = .slice ar R2.length cr := by simpa using e2
  obtain ⟨s1, sl1, sc1, rfl⟩ := okWide_slice Tryz.underlying25 (hval 1 25 v1 rfl rfl)
  obtain ⟨f1, hf1⟩ := h1
  obtain ⟨ad, cap, cl, q1, hcodes, hcl, hcL, hcs⟩ := codes_of_trod hf1
  obtain ⟨rfl, rfl, rfl⟩ : s1 = ad ∧ sl1 = cl.length ∧ sc1 = cap := by simpa [Value.cells] using q1
  obtain ⟨s2, sl2, sc2, rfl⟩ := okWide_slice Tryz.underlying26 (hval 2 26 v2 rfl rfl)
  obtain ⟨f2, hf2⟩ := h2
  obtain ⟨ada, capa, la, q2, hna, hca⟩ := nums_of_trod hf2
  obtain ⟨rfl, rfl, rfl⟩ : s2 = ada ∧ sl2 = la.length ∧ sc2 = capa := by simpa [Value.cells] using q2
  obtain ⟨f3, hf3⟩ := h3
  obtain ⟨tt, q3⟩ := kint_of_trod hf3
  obtain ⟨t3, rfl⟩ := okWide_int Tryz.underlying3 (hval 3 3 v3 rfl rfl)
  obtain rfl : t3 = tt := by simpa [Value.cells] using q3
  obtain ⟨f4, hf4⟩ := h4
  obtain ⟨rr, q4⟩ := kint_of_trod hf4
  obtain ⟨t4, rfl⟩ := okWide_int Tryz.underlying3 (hval 4 3 v4 rfl rfl)
  obtain rfl : t4 = rr := by simpa [Value.cells] using q4
  obtain ⟨a, hE⟩ := env_of_laid hL
  clear hA0 hval0
  simp only [List.append_nil] at hW'
  refine (steps_any (s := ⟨cells, R1, R2⟩) hE ⟨r1, r2, l1, l2, m1, m2, n1, n2⟩ hcodes hcs hcl hcL hna hca).mono fun e W' ⟨he, hb⟩ => ?_
  subst he
  refine ⟨_, rfl, _, _, _, [], p0 ++ p1 ++ p2 ++ p3 ++ p4, [], hW', ?_, ?_, ?_, hb.frame _, fun h => by cases h⟩
  · exact trodAll_mk1 (shut_bool Tryz.underlying4 true)
  · exact trodAll_below laidOutA hb _ _ _ _ readableS5 hA2
  · rfl

theorem steps_holds : Rows.MachStepsSaid :=
  OpenClaim.holds_of_wide 5 Tryz.f5 rfl rfl rfl rfl rfl rfl rfl ⟨rfl, rfl, rfl, rfl, rfl⟩ rfl rfl rfl rfl rfl (by kernel_rfl) Tryz.func5 (by kernel_rfl)
    (of_decide_eq_true (by kernel_rfl)) (by unfold Func.isWrapper; rw [if_neg (of_decide_eq_false (by kernel_rfl))]; exact ⟨rfl, rfl⟩)
    (fun os started H enc _ => steps_lifted os started H enc)

theorem steps_card : Rows.MachStepsCardSaid :=
  Claim7.holds_tied_plain_at .later [] [.handle, .sentinel, .sentinel, .sentinel, .sentinel, .sentinel, .sentinel, .sentinel, .sentinel, .sentinel] true (true, "9501355f2512123a200bd46b8cb668dc711361411f025ac1153121af49a39831") true
    steps_holds (fun _ h => absurd h List.not_mem_nil) (by kernel_rfl) (fun _ h => absurd h List.not_mem_nil) machSteps_row_tie rfl ⟨rfl, rfl⟩ (by kernel_rfl) rfl
    (fun f fn hf hfn => by
      obtain rfl : f = 5 := (Option.some.inj ((show Tryz.prog.funcNamed "quiescent/quiescentlaw1.MachSteps" = some 5 by kernel_rfl).symm.trans hf)).symm
      obtain rfl : fn = Tryz.f5 := (Option.some.inj (Tryz.func5.symm.trans hfn)).symm
      exact ⟨by kernel_rfl, fun j t ht => by
        rw [Tryz.params5] at ht
        rcases j with _ | _ | _ | _ | _ | j
        · obtain rfl : t = 24 := by simpa using ht.symm
          exact (show Tryz.prog.wantsStandIn 24 = false by kernel_rfl)
        · obtain rfl : t = 25 := by simpa using ht.symm
          exact (show Tryz.prog.wantsStandIn 25 = false by kernel_rfl)
        · obtain rfl : t = 26 := by simpa using ht.symm
          exact (show Tryz.prog.wantsStandIn 26 = false by kernel_rfl)
        · obtain rfl : t = 3 := by simpa using ht.symm
          exact (show Tryz.prog.wantsStandIn 3 = false by kernel_rfl)
        · obtain rfl : t = 3 := by simpa using ht.symm
          exact (show Tryz.prog.wantsStandIn 3 = false by kernel_rfl)
        · simp at ht⟩)
    (by kernel_rfl)
#print axioms steps_card
end Go.Proofs.YtdpmnlbnlnmjbaaGreatDoor
