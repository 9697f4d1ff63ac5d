/- memoryAct: force. -/
import Derived.Test.YtcnemlamlchnkaaDoorMactD
namespace Go.Proofs.YtcnemlamlchnkaaDoor
open Go.RowKit Go.Extern.Stop Go.Stop Go.Extern Go.Sort

theorem Rm.forceFrom_ar (n : Nat) : ∀ (s : Rm) (j : Nat), (s.forceFrom j n).ar.size = s.ar.size ∧ (s.forceFrom j n).ar.given = s.ar.given ∧ (s.forceFrom j n).threads = s.threads ∧ (s.Ok → (s.forceFrom j n).Ok) := by
  induction n with
  | zero => intro s j; exact ⟨rfl, rfl, rfl, id⟩
  | succ n ih =>
    intro s j
    obtain ⟨h1, h2, h3, h4⟩ := ih (s.drainAll j (s.waits j)) (j + 1)
    obtain ⟨k1, k2, k3, k4⟩ := s.drainAll_ar (s.waits j) j
    exact ⟨h1.trans k1, h2.trans k3, h3.trans k4, fun ho => h4 (ho.drainAll j)⟩

theorem force_post {a : Nat → Addr} {B : World} {b : Nat} {p p' : RmPl} {s : Rm} {w' : World} (ho : s.Ok) (hmb : p'.mb = p.mb) (h : Two a B b p' (s.forceFrom 0 s.threads) (s.forceFrom 0 s.threads) w') : ActPost a B b p.mb s w' := by
  obtain ⟨k1, k2, k3, k4⟩ := Rm.forceFrom_ar s.threads s 0
  exact ⟨p', s.forceFrom 0 s.threads, hmb, k3, k1, fun c => by rw [k2]; exact Nat.le_succ _, k4 ho, h⟩

theorem Rm.gone_few (s : Rm) (i : Nat) (h : (s.waits i).length ≤ 8) : s.gone i (s.waits i) ≤ 8 := Nat.le_trans (Rm.gone_le _ _ _) h

theorem Rm.drainAll_few {s : Rm} (h : ∀ u, u < s.threads → (s.waits u).length ≤ 8) (j : Nat) : ∀ u, u < (s.drainAll j (s.waits j)).threads → ((s.drainAll j (s.waits j)).waits u).length ≤ 8 := by
  intro u hu
  rw [(s.drainAll_ar (s.waits j) j).2.2.2] at hu
  by_cases e : u = j
  · subst e
    rw [Rm.drainAll_waits _ _ _ rfl]; exact Nat.zero_le _
  · rw [Rm.drainAll_waits_ne _ _ _ e]; exact h u hu

set_option maxRecDepth 20000 in
set_option maxHeartbeats 4000000 in
/-- A force where a store's cell is gone. -/
theorem act_force_gone (a : Nat → Addr) (B : World) (b : Nat) (p : RmPl) (s : Rm) (t c g k v old : Int) (w : World) (H : Two a B b p s s w) (ho : s.Ok) (hg : 0 < s.goneFrom 0 s.threads) (f : Bool) (hf : decide (0 ≤ t ∧ t < s.threads) = f) :
    Calls Tryd.prog 39 #[.pointer (some ⟨b, 0, none⟩), .pointer (some ⟨p.mb, 0, none⟩), .agg #[.string ⟨#[102, 111, 114, 99, 101]⟩, .int .i64 t, .int .i64 c, .int .i64 g, .int .i64 k, .int .i64 v, .int .i64 old]] w fun e w' => e = .returned (.bool true) ∧ ActPost a B b p.mb s w' := by
  have H1 : Hid (Two a B b p s s (actW w ⟨#[102, 111, 114, 99, 101]⟩ t c g k v old)) := H.alloc _
  have X := actX w ⟨#[102, 111, 114, 99, 101]⟩ t c g k v old
  have hlw := H.m.lt
  have HNF : Hid (∀ j, p.fp s j → j ≠ w.heap.size) := fun j hj => Nat.ne_of_lt (H.o.fp_lt hj)
  have h6 := H.m.few
  have hfew : ∀ u, u < s.threads → (s.waits u).length ≤ 8 := fun u hu => (H.m.line u hu).le
  have HL : Hid (∀ p' so w', Two a B b p' s so w' → Calls Tryd.prog 55 #[.pointer (some ⟨b, 0, none⟩)] w' fun e w'' => e = .returned (errVal a 7) ∧ MmStep b w' (s.forceFrom 0 s.threads) w'') := fun _ _ w' h => by
    have := mforce_any a _ b s w' h.e h.hB h.m ho
    rw [decide_eq_true hg] at this
    exact this
  have HP : Hid (∀ p' w', p'.mb = p.mb → Two a B b p' (s.forceFrom 0 s.threads) (s.forceFrom 0 s.threads) w' → ActPost a B b p.mb s w') := fun p' w' hmb h => force_post ho hmb h
  have HI : Hid (s.Ok ∧ (∀ u, u < s.threads → (s.waits u).length ≤ 8)) := ⟨ho, hfew⟩
  have HT : Hid (decide (0 ≤ t ∧ t < s.threads) = f) := hf
  have hgg := hg
  generalize hN : s.threads = N at *
  generalize hGe : s.goneFrom 0 N = G at *
  generalize hDe : s.forceFrom 0 N = D at *
  have HG : Hid (0 + s.goneFrom 0 (N - 0) = G) := by show _ = _; rw [Nat.sub_zero, Nat.zero_add]; exact hGe
  have HD0 : Hid (s.forceFrom 0 (N - 0) = D) := by show _ = _; rw [Nat.sub_zero]; exact hDe
  clear hGe hDe
  clear H ho hg hfew hf
  generalize hw : actW w ⟨#[102, 111, 114, 99, 101]⟩ t c g k v old = w1 at *
  obtain ⟨x0, x1, x2, x3, x4, x5, x6⟩ := X
  go_enter Tryd.func39, Tryd.ntmps39
  go_wp2_with fail
  refine (H1.out.thread t f (by rw [hN]; exact HT.out)).mono ?_
  rintro e0 w2 ⟨rfl, rfl⟩
  clear HT hw
  cases f
  all_goals
    have HS : Hid (Two a B b p s s w2) := H1
    go_wp2_with fail
    go_loopw [9, 10] (fun nn tt wr => ∃ j k : Nat, j ≤ N ∧ tt = .int .i64 j ∧ nn = .int .i64 k ∧ k ≤ 8 * j ∧ ∃ p1 s1, s1.threads = N ∧ s1.Ok ∧ (∀ u, u < s1.threads → (s1.waits u).length ≤ 8) ∧ k + s1.goneFrom j (N - j) = G ∧ s1.forceFrom j (N - j) = D ∧ p1.mb = p.mb ∧ Two a B b p1 s s1 wr) (fun _ tt _ => N - (intOf tt).toNat)
    case atStart => exact ⟨0, 0, Nat.zero_le _, rfl, rfl, Nat.zero_le _, p, s, hN, HI.out.1, (by rw [hN]; exact HI.out.2), HG.out, HD0.out, rfl, HS.out⟩
    case round =>
      obtain ⟨j, k', hj, rfl, rfl, hk8, p1, s1, g1, g2, g3, g4, g5, g6, g7⟩ := hrel
      have H7 : Hid (Two a B b p1 s s1 wr) := g7
      have r0 := g7.o.mWaits
      rw [g6, g1] at r0
      have htc := g7.o.tcap
      by_cases hlt : j < N
      · have ji : (j : Int) < N := by omega
        have hgf := s1.gone_few j (g3 j (by omega))
        have HR : Hid (Calls Tryd.prog 54 #[.pointer (some ⟨p.mb, 0, none⟩), .int .i64 j] wr fun e w' => e = .returned (.int .i64 (s1.gone j (s1.waits j))) ∧ ∃ p', RmStep p1 s1 wr p' (s1.drainAll j (s1.waits j)) w') := by
          have := rfence_any p1 s1 j wr g7.o (by omega) (few_ok g2 (by omega)) (by have := g3 j (by omega); omega)
          rwa [g6] at this
        have HN : Hid (∀ p2 w2, RmStep p1 s1 wr p2 (s1.drainAll j (s1.waits j)) w2 → k' + s1.gone j (s1.waits j) ≤ 8 * (j + 1) ∧ ∃ p1 s1', s1'.threads = N ∧ s1'.Ok ∧ (∀ u, u < s1'.threads → (s1'.waits u).length ≤ 8) ∧ k' + s1.gone j (s1.waits j) + s1'.goneFrom (j + 1) (N - (j + 1)) = G ∧ s1'.forceFrom (j + 1) (N - (j + 1)) = D ∧ p1.mb = p.mb ∧ Two a B b p1 s s1' w2) := by
          intro p2 w2 hst
          have e1 : N - j = (N - (j + 1)) + 1 := by omega
          rw [e1] at g4 g5
          refine ⟨by omega, p2, s1.drainAll j (s1.waits j), ?_, g2.drainAll j, Rm.drainAll_few g3 j, ?_, g5, hst.mb.trans g6, H7.out.ostep hst⟩
          · rw [(s1.drainAll_ar (s1.waits j) j).2.2.2]; exact g1
          · rw [← g4, Rm.goneFrom, Nat.add_assoc]
        generalize s1.gone j (s1.waits j) = u at *
        have hu : (u : Int) ≤ 8 := by omega
        have hj6 : (j : Int) < 6 := by omega
        have hk' : (k' : Int) ≤ 48 := by omega
        clear g2 g3 g4 g5 g7 H7 HI HG HD0 HP HL
        go_wp2_with fail
        refine HR.out.mono ?_
        rintro e3 w3 ⟨rfl, p2, hst⟩
        have HF : Hid _ := hide (HN.out p2 w3 hst)
        clear HR HN hst r0
        go_wp2
        go_roundw
        case rel => exact ⟨j + 1, k' + u, by omega, by go_num, by go_num, HF.out⟩
        case measure => simp [intOf]; omega
      · obtain rfl : j = N := by omega
        rw [Nat.sub_self] at g4 g5
        have HG7 : Hid (k' = G) := hide (by rw [Rm.goneFrom] at g4; exact g4)
        have HD7 : Hid (s1 = D) := g5
        have HT7 : Hid (Two a B b p1 s D wr) := by rw [← HD7.out]; exact H7.out
        have HM : Hid (p1.mb = p.mb) := g6
        have hkk : (0 : Int) < (k' : Int) := by have := HG7.out; omega
        clear g1 g2 g3 g4 g5 g6 g7 H7 HI HG HD0 HD7 HG7 hgg
        go_wp2_with fail
        refine (HL.out _ _ _ HT7.out).mono ?_
        rintro e4 w4 ⟨rfl, hb4⟩
        have H4 : Hid _ := hide (HT7.out.mstep hb4)
        clear HL HT7 hb4 r0
        go_wp2_with fail
        refine (H4.out.coded 7 (by decide)).mono ?_
        rintro e5 w5 ⟨rfl, hb5⟩
        have H5 : Hid _ := hide (H4.out.below hb5)
        clear H4 hb5
        go_wp2
        go_ret
        exact ⟨rfl, HP.out _ _ HM.out H5.out⟩

set_option maxRecDepth 20000 in
set_option maxHeartbeats 4000000 in
/-- A force. -/
theorem act_force_ok (a : Nat → Addr) (B : World) (b : Nat) (p : RmPl) (s : Rm) (t c g k v old : Int) (w : World) (H : Two a B b p s s w) (ho : s.Ok) (hg : ¬ 0 < s.goneFrom 0 s.threads) (f : Bool) (hf : decide (0 ≤ t ∧ t < s.threads) = f) :
    Calls Tryd.prog 39 #[.pointer (some ⟨b, 0, none⟩), .pointer (some ⟨p.mb, 0, none⟩), .agg #[.string ⟨#[102, 111, 114, 99, 101]⟩, .int .i64 t, .int .i64 c, .int .i64 g, .int .i64 k, .int .i64 v, .int .i64 old]] w fun e w' => e = .returned (.bool true) ∧ ActPost a B b p.mb s w' := by
  have H1 : Hid (Two a B b p s s (actW w ⟨#[102, 111, 114, 99, 101]⟩ t c g k v old)) := H.alloc _
  have X := actX w ⟨#[102, 111, 114, 99, 101]⟩ t c g k v old
  have hlw := H.m.lt
  have HNF : Hid (∀ j, p.fp s j → j ≠ w.heap.size) := fun j hj => Nat.ne_of_lt (H.o.fp_lt hj)
  have h6 := H.m.few
  have hfew : ∀ u, u < s.threads → (s.waits u).length ≤ 8 := fun u hu => (H.m.line u hu).le
  have HL : Hid (∀ p' so w', Two a B b p' s so w' → Calls Tryd.prog 55 #[.pointer (some ⟨b, 0, none⟩)] w' fun e w'' => e = .returned (errVal a 0) ∧ MmStep b w' (s.forceFrom 0 s.threads) w'') := fun _ _ w' h => by
    have := mforce_any a _ b s w' h.e h.hB h.m ho
    rw [decide_eq_false hg] at this
    exact this
  have HP : Hid (∀ p' w', p'.mb = p.mb → Two a B b p' (s.forceFrom 0 s.threads) (s.forceFrom 0 s.threads) w' → ActPost a B b p.mb s w') := fun p' w' hmb h => force_post ho hmb h
  have HI : Hid (s.Ok ∧ (∀ u, u < s.threads → (s.waits u).length ≤ 8)) := ⟨ho, hfew⟩
  have HT : Hid (decide (0 ≤ t ∧ t < s.threads) = f) := hf
  have hgg := hg
  generalize hN : s.threads = N at *
  generalize hGe : s.goneFrom 0 N = G at *
  generalize hDe : s.forceFrom 0 N = D at *
  have HG : Hid (0 + s.goneFrom 0 (N - 0) = G) := by show _ = _; rw [Nat.sub_zero, Nat.zero_add]; exact hGe
  have HD0 : Hid (s.forceFrom 0 (N - 0) = D) := by show _ = _; rw [Nat.sub_zero]; exact hDe
  clear hGe hDe
  clear H ho hg hfew hf
  generalize hw : actW w ⟨#[102, 111, 114, 99, 101]⟩ t c g k v old = w1 at *
  obtain ⟨x0, x1, x2, x3, x4, x5, x6⟩ := X
  go_enter Tryd.func39, Tryd.ntmps39
  go_wp2_with fail
  refine (H1.out.thread t f (by rw [hN]; exact HT.out)).mono ?_
  rintro e0 w2 ⟨rfl, rfl⟩
  clear HT hw
  cases f
  all_goals
    have HS : Hid (Two a B b p s s w2) := H1
    go_wp2_with fail
    go_loopw [9, 10] (fun nn tt wr => ∃ j k : Nat, j ≤ N ∧ tt = .int .i64 j ∧ nn = .int .i64 k ∧ k ≤ 8 * j ∧ ∃ p1 s1, s1.threads = N ∧ s1.Ok ∧ (∀ u, u < s1.threads → (s1.waits u).length ≤ 8) ∧ k + s1.goneFrom j (N - j) = G ∧ s1.forceFrom j (N - j) = D ∧ p1.mb = p.mb ∧ Two a B b p1 s s1 wr) (fun _ tt _ => N - (intOf tt).toNat)
    case atStart => exact ⟨0, 0, Nat.zero_le _, rfl, rfl, Nat.zero_le _, p, s, hN, HI.out.1, (by rw [hN]; exact HI.out.2), HG.out, HD0.out, rfl, HS.out⟩
    case round =>
      obtain ⟨j, k', hj, rfl, rfl, hk8, p1, s1, g1, g2, g3, g4, g5, g6, g7⟩ := hrel
      have H7 : Hid (Two a B b p1 s s1 wr) := g7
      have r0 := g7.o.mWaits
      rw [g6, g1] at r0
      have htc := g7.o.tcap
      by_cases hlt : j < N
      · have ji : (j : Int) < N := by omega
        have hgf := s1.gone_few j (g3 j (by omega))
        have HR : Hid (Calls Tryd.prog 54 #[.pointer (some ⟨p.mb, 0, none⟩), .int .i64 j] wr fun e w' => e = .returned (.int .i64 (s1.gone j (s1.waits j))) ∧ ∃ p', RmStep p1 s1 wr p' (s1.drainAll j (s1.waits j)) w') := by
          have := rfence_any p1 s1 j wr g7.o (by omega) (few_ok g2 (by omega)) (by have := g3 j (by omega); omega)
          rwa [g6] at this
        have HN : Hid (∀ p2 w2, RmStep p1 s1 wr p2 (s1.drainAll j (s1.waits j)) w2 → k' + s1.gone j (s1.waits j) ≤ 8 * (j + 1) ∧ ∃ p1 s1', s1'.threads = N ∧ s1'.Ok ∧ (∀ u, u < s1'.threads → (s1'.waits u).length ≤ 8) ∧ k' + s1.gone j (s1.waits j) + s1'.goneFrom (j + 1) (N - (j + 1)) = G ∧ s1'.forceFrom (j + 1) (N - (j + 1)) = D ∧ p1.mb = p.mb ∧ Two a B b p1 s s1' w2) := by
          intro p2 w2 hst
          have e1 : N - j = (N - (j + 1)) + 1 := by omega
          rw [e1] at g4 g5
          refine ⟨by omega, p2, s1.drainAll j (s1.waits j), ?_, g2.drainAll j, Rm.drainAll_few g3 j, ?_, g5, hst.mb.trans g6, H7.out.ostep hst⟩
          · rw [(s1.drainAll_ar (s1.waits j) j).2.2.2]; exact g1
          · rw [← g4, Rm.goneFrom, Nat.add_assoc]
        generalize s1.gone j (s1.waits j) = u at *
        have hu : (u : Int) ≤ 8 := by omega
        have hj6 : (j : Int) < 6 := by omega
        have hk' : (k' : Int) ≤ 48 := by omega
        clear g2 g3 g4 g5 g7 H7 HI HG HD0 HP HL
        go_wp2_with fail
        refine HR.out.mono ?_
        rintro e3 w3 ⟨rfl, p2, hst⟩
        have HF : Hid _ := hide (HN.out p2 w3 hst)
        clear HR HN hst r0
        go_wp2
        go_roundw
        case rel => exact ⟨j + 1, k' + u, by omega, by go_num, by go_num, HF.out⟩
        case measure => simp [intOf]; omega
      · obtain rfl : j = N := by omega
        rw [Nat.sub_self] at g4 g5
        have HG7 : Hid (k' = G) := hide (by rw [Rm.goneFrom] at g4; exact g4)
        have HD7 : Hid (s1 = D) := g5
        have HT7 : Hid (Two a B b p1 s D wr) := by rw [← HD7.out]; exact H7.out
        have HM : Hid (p1.mb = p.mb) := g6
        have hkk : (k' : Int) = 0 := by have := HG7.out; omega
        clear g1 g2 g3 g4 g5 g6 g7 H7 HI HG HD0 HD7 HG7 hgg
        go_wp2_with fail
        refine (HL.out _ _ _ HT7.out).mono ?_
        rintro e4 w4 ⟨rfl, hb4⟩
        have H4 : Hid _ := hide (HT7.out.mstep hb4)
        clear HL HT7 hb4 r0
        go_wp2_with fail
        refine (H4.out.coded 0 (by decide)).mono ?_
        rintro e5 w5 ⟨rfl, hb5⟩
        have H5 : Hid _ := hide (H4.out.below hb5)
        clear H4 hb5
        go_wp2
        go_ret
        exact ⟨rfl, HP.out _ _ HM.out H5.out⟩

end Go.Proofs.YtcnemlamlchnkaaDoor
