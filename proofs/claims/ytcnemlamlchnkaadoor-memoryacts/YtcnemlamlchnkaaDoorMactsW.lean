/- The law MemoryActs, walked: it returns true. -/
import Derived.Test.YtcnemlamlchnkaaDoorMactH
import Derived.Test.YtcnemlamlchnkaaDoorMactX
namespace Go.Proofs.YtcnemlamlchnkaaDoor
open Go.RowKit Go.Extern.Stop Go.Stop Go.Extern

/-- What holds between two acts. -/
def MactRel (a : Nat → Addr) (w : World) (b mb cells threads j : Nat) (wr : World) : Prop := ∃ (s : Rm) (p : RmPl), s.ar.size = cells ∧ s.threads = threads ∧ (∀ c, s.ar.given c ≤ j) ∧ s.Ok ∧ p.mb = mb ∧ Two a w b p s s wr

theorem Two.fresh {a : Nat → Addr} {w w0 w1 w2 : World} {p : RmPl} {cells threads : Nat} (hE : Env a w) (h0 : Below w.heap.size w w0) (hm : MmAt (w0.heap.size + 1) (Rm.fresh cells threads) w1) (h1 : Below w0.heap.size w0 w1) (ho : RmAt p (Rm.fresh cells threads) w2) (h2 : Below w1.heap.size w1 w2) (hf : ∀ k, p.fp (Rm.fresh cells threads) k → w1.heap.size ≤ k) :
    Two a w (w0.heap.size + 1) p (Rm.fresh cells threads) (Rm.fresh cells threads) w2 := by
  have b2 := below_step (below_step h0 h1) h2
  have s0 := h0.size
  have l1 := hm.lt
  exact ⟨hm.below h2, ho, EnvB.of hE.toM b2, hE, b2, by omega, fun k hk => by have := hf k hk; exact ⟨by omega, by omega⟩⟩

set_option maxRecDepth 20000 in
set_option maxHeartbeats 4000000 in
theorem macts_any (a : Nat → Addr) (cells threads : Nat) (ad : Option Addr) (cap : Nat) (l : List MAct) (w : World) (hE : Env a w) (h1 : 1 ≤ cells) (h2 : cells ≤ 64) (t1 : 1 ≤ threads) (t2 : threads ≤ 6) (h3 : l.length ≤ 100) (hl : mactsAt ad l w) :
    Calls Tryd.prog 8 #[.int .i64 cells, .int .i64 threads, .slice ad l.length cap] w fun e w' => e = .returned (.bool true) ∧ Below w.heap.size w w' := by
  have i1 : 1 ≤ (cells : Int) := by omega
  have i2 : (cells : Int) ≤ 64 := by omega
  have i3 : (l.length : Int) ≤ 100 := by omega
  have i4 : 1 ≤ (threads : Int) := by omega
  have i5 : (threads : Int) ≤ 6 := by omega
  have k1 : decide ((cells : Int) < 1) = false := by simp; omega
  have k2 : decide (64 < (cells : Int)) = false := by simp; omega
  have k3 : decide ((threads : Int) < 1) = false := by simp; omega
  have k5 : decide (6 < (threads : Int)) = false := by simp; omega
  have k4 : decide (100 < (l.length : Int)) = false := by simp; omega
  have HL : Hid (mactsAt ad l w) := hl
  clear hl
  go_enter Tryd.func8, Tryd.ntmps8
  go_wp2_with fail
  refine (waits_any a _ hE.toM).mono ?_
  rintro e0 w0 ⟨rfl, hb0⟩
  go_wp2_with fail
  refine (mnew_ok cells threads _ h1 h2 t1 t2).mono ?_
  rintro e1 w1 ⟨rfl, hm1, hb1⟩
  go_wp2_with fail
  refine (newMem_any cells threads _ h2 t2).mono ?_
  rintro e2 w2 ⟨p0, rfl, hR2, hb2, hfp2⟩
  have HT : Hid (Two a w (w0.heap.size + 1) p0 (Rm.fresh cells threads) (Rm.fresh cells threads) w2) := Two.fresh hE hb0 hm1 hb1 hR2 hb2 hfp2
  clear hb0 hm1 hb1 hR2 hb2 hfp2 hE h1 h2 t1 t2
  generalize hb : w0.heap.size + 1 = b at *
  clear hb
  go_wp2_with fail
  go_loopw [11, 12, 13] (fun i _ _ wr => ∃ j : Nat, j ≤ l.length ∧ i = .int .i64 j ∧ MactRel a w b p0.mb cells threads j wr) (fun i _ _ _ => l.length - (intOf i).toNat)
  case atStart => exact ⟨0, Nat.zero_le _, rfl, Rm.fresh cells threads, p0, rfl, rfl, fun _ => Nat.le_refl _, (fun _ _ x hx => by cases hx), rfl, HT.out⟩
  case round =>
    obtain ⟨j, hj, rfl, s, p, hs, hth, hgv, hok, hmb, hT⟩ := hrel
    have HT1 : Hid (Two a w b p s s wr) := hT
    clear HT
    by_cases hlt : j < l.length
    · obtain ⟨x, hx⟩ : ∃ x, l[j]? = some x := ⟨_, List.getElem?_eq_getElem hlt⟩
      obtain ⟨ab, off, rfl, a0, a1, a2, a3, a4, a5, a6⟩ := HL.out j x hx
      have hB := hT.base
      replace a0 := keep_cell hB a0
      replace a1 := keep_cell hB a1
      replace a2 := keep_cell hB a2
      replace a3 := keep_cell hB a3
      replace a4 := keep_cell hB a4
      replace a5 := keep_cell hB a5
      replace a6 := keep_cell hB a6
      have ji : (j : Int) < l.length := by omega
      have HA : Hid (Calls Tryd.prog 39 #[.pointer (some ⟨b, 0, none⟩), .pointer (some ⟨p0.mb, 0, none⟩), .agg #[.string x.kind, .int .i64 x.t, .int .i64 x.c, .int .i64 x.g, .int .i64 x.k, .int .i64 x.v, .int .i64 x.old]] wr fun e w' => e = .returned (.bool true) ∧ MactRel a w b p0.mb cells threads (j + 1) w') := by
        have := act_any a w b p s x.t x.c x.g x.k x.v x.old x.kind wr hT hok (fun c => by have := hgv c; omega)
        rw [hmb] at this
        refine this.mono ?_
        rintro e w' ⟨he, p', s', q1, q2, q3, q4, q5, q6⟩
        exact ⟨he, s', p', q3.trans hs, q2.trans hth, fun c => by have := q4 c; have := hgv c; omega, q5, q1, q6⟩
      clear hT hB hs hth hgv hok hmb HT1 hx
      go_wp2_with fail
      refine HA.out.mono ?_
      rintro e3 w3 ⟨rfl, hrel⟩
      obtain ⟨s1, p1, hs, hth, hgv, hok, hmb, hT⟩ := hrel
      have H3 : Hid (Two a w b p1 s1 s1 w3) := hT
      have HRel : Hid (∀ wr', Two a w b p1 s1 s1 wr' → MactRel a w b p0.mb cells threads (j + 1) wr') := fun wr' h => ⟨s1, p1, hs, hth, hgv, hok, hmb, h⟩
      have HMb : Hid (p1.mb = p0.mb) := hmb
      have HTh : Hid (s1.threads = threads) := hth
      clear HA a0 a1 a2 a3 a4 a5 a6 hs hgv hok hmb hT hth
      go_wp2_with fail
      go_loopw [13] (fun tt wr' => ∃ u : Nat, u ≤ threads ∧ tt = .int .i64 u ∧ Two a w b p1 s1 s1 wr') (fun tt _ => threads - (intOf tt).toNat)
      case atStart => exact ⟨0, Nat.zero_le _, rfl, H3.out⟩
      case round =>
        obtain ⟨u, hu, rfl, hT⟩ := hrel
        have H4 : Hid (Two a w b p1 s1 s1 wr) := hT
        by_cases hul : u < threads
        · have ui : (u : Int) < threads := by omega
          have hts : u < s1.threads := by rw [HTh.out]; exact hul
          have HWt : Hid (∀ w0 n, Two a w b p1 s1 s1 w0 → Calls Tryd.prog 35 #[.pointer (some ⟨b, 0, none⟩), .int .i64 u] (w0.drewN n) fun e w' => e = .returned (.int .i64 (s1.waits u).length) ∧ w' = w0.drewN n) := fun w0 n h => by
            have := waiting_any b s1 u (w0.drewN n) (h.below (Below.drewN' n)).m
            rwa [show s1.waiting u = (s1.waits u).length from if_pos ⟨by omega, by omega⟩] at this
          have r0 := hT.o.mWaits
          rw [HMb.out, HTh.out] at r0
          have htc := hT.o.tcap
          rw [HTh.out] at htc
          obtain ⟨hv, hown⟩ := hT.o.waits u hts
          obtain ⟨adr, cp, hvs, hcl, hcm, hcell⟩ := ownsRow_shape hown
          rw [hvs] at hv
          clear hown hcell hvs hcm hcl hts hT
          generalize (s1.waits u).length = q at *
          go_wp2_with fail
          go_quiet ((go_at_call 35; exact Calls.quiet_of_same (HWt.out _ _ H4.out)))
          have H5 : Hid _ := hide (H4.out.below (Below.drewN' nq))
          clear HWt r0 hv H4
          go_wp2
          go_roundw
          case rel => exact ⟨u + 1, by omega, by go_num, H5.out⟩
          case measure => simp [intOf]; omega
        · obtain rfl : u = threads := by omega
          clear hT
          go_wp2
          go_roundw
          case rel => exact ⟨j + 1, by omega, by go_num, HRel.out _ H4.out⟩
          case measure => simp [intOf]; omega
    · obtain rfl : j = l.length := by omega
      have HW1 : Hid (Calls Tryd.prog 35 #[.pointer (some ⟨b, 0, none⟩), .int .i64 (-1)] wr fun e w' => e = .returned (.int .i64 0) ∧ w' = wr) := by
        have := waiting_any b s (-1) wr hT.m
        rwa [show s.waiting (-1) = 0 from if_neg (fun h => absurd h.1 (by decide))] at this
      have HW2 : Hid (Calls Tryd.prog 35 #[.pointer (some ⟨b, 0, none⟩), .int .i64 threads] wr fun e w' => e = .returned (.int .i64 0) ∧ w' = wr) := by
        have := waiting_any b s threads wr hT.m
        rwa [show s.waiting threads = 0 from if_neg (fun h => by omega)] at this
      clear hT hs hth hgv hok hmb
      go_wp2_with fail
      refine HW1.out.mono ?_
      rintro e5 w5 ⟨rfl, rfl⟩
      go_wp2_with fail
      refine HW2.out.mono ?_
      rintro e6 w6 ⟨rfl, rfl⟩
      go_wp2
      go_ret
      exact ⟨rfl, HT1.out.base⟩
end Go.Proofs.YtcnemlamlchnkaaDoor
