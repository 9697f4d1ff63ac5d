/- Package memory by contracts: Force, Alloc, Peek. -/
import Derived.Test.YtcnemlamlchnkaaDoorMemH
namespace Go.Proofs.YtcnemlamlchnkaaDoor
open Go.RowKit Go.Extern.Stop Go.Stop Go.Extern Go.Sort

/-- All that wait are words for words' places. -/
def Rm.Ok (s : Rm) : Prop := ∀ t, t < s.threads → ∀ x ∈ s.waits t, x.Ok

/-- Fences of the threads from t on, n of them. -/
def Rm.forceFrom (s : Rm) (t : Nat) : Nat → Rm
  | 0 => s
  | n + 1 => (s.drainAll t (s.waits t)).forceFrom (t + 1) n
/-- How many stores of them find their cells gone. -/
def Rm.goneFrom (s : Rm) (t : Nat) : Nat → Nat
  | 0 => 0
  | n + 1 => s.gone t (s.waits t) + (s.drainAll t (s.waits t)).goneFrom (t + 1) n

theorem Rm.Ok.drainAll {s : Rm} (h : s.Ok) (t : Nat) : (s.drainAll t (s.waits t)).Ok := by
  intro u hu x hx
  obtain ⟨-, -, -, h4⟩ := s.drainAll_ar (s.waits t) t
  rw [h4] at hu
  by_cases e : u = t
  · subst e
    rw [Rm.drainAll_waits _ _ _ rfl] at hx
    cases hx
  · rw [Rm.drainAll_waits_ne _ _ _ e] at hx
    exact h u hu x hx

set_option maxRecDepth 20000 in
set_option maxHeartbeats 2000000 in
theorem mforce_any (a : Nat → Addr) (B b : Nat) (s : Rm) (w : World) (hE : EnvB a B w) (hB : B ≤ b) (h : MmAt b s w) (hx : s.Ok) :
    Calls Tryd.prog 55 #[.pointer (some ⟨b, 0, none⟩)] w fun e w' => e = .returned (errVal a (fenceNum (decide (0 < s.goneFrom 0 s.threads)))) ∧ MmStep b w (s.forceFrom 0 s.threads) w' := by
  have hf := h.few
  have HI : Hid (∃ s1, s1.threads = s.threads ∧ s1.Ok ∧ (false || decide (0 < s1.goneFrom 0 (s.threads - 0))) = decide (0 < s.goneFrom 0 s.threads) ∧ s1.forceFrom 0 (s.threads - 0) = s.forceFrom 0 s.threads ∧ MmStep b w s1 w) := ⟨s, rfl, hx, by simp, rfl, MmStep.refl h⟩
  generalize decide (0 < s.goneFrom 0 s.threads) = G at *
  generalize hD : s.forceFrom 0 s.threads = D at *
  generalize s.threads = N at *
  clear hD hx h
  go_enter Tryd.func55, Tryd.ntmps55
  go_wp2_with fail
  go_loopw [3, 4, 5] (fun st i _ wr => ∃ j : Nat, j ≤ N ∧ i = .int .i64 j ∧ ∃ f : Bool, st = errVal a (fenceNum f) ∧ ∃ s1, s1.threads = N ∧ s1.Ok ∧ (f || decide (0 < s1.goneFrom j (N - j))) = G ∧ s1.forceFrom j (N - j) = D ∧ MmStep b w s1 wr) (fun _ i _ _ => N - (intOf i).toNat)
  case atStart => exact ⟨0, Nat.zero_le _, rfl, false, rfl, HI.out⟩
  case round =>
    obtain ⟨j, hj, rfl, f, rfl, s1, h1, h2, h3, h4, h5⟩ := hrel
    have H5 : Hid (MmStep b w s1 wr) := h5
    by_cases hlt : j < N
    · have HH : Hid (Calls Tryd.prog 47 #[.pointer (some ⟨b, 0, none⟩), .int .i64 j] wr fun e w' => e = .returned (.bool true) ∧ w' = wr) := has_m_yes b s1 j wr h5.at' (by omega)
      have HFe : Hid (Calls Tryd.prog 38 #[.pointer (some ⟨b, 0, none⟩), .int .i64 j] wr fun e w' => e = .returned (errVal a (fenceNum (decide (0 < s1.gone j (s1.waits j))))) ∧ MmStep b wr (s1.drainAll j (s1.waits j)) w') :=
        mfence_any a B b s1 j wr (hE.step hB h5) hB h5.at' (by omega) (h2 j (by omega))
      have j6 : (j : Int) < 6 := by omega
      have HN : Hid (∀ w2 (f' : Bool), f' = (f || decide (0 < s1.gone j (s1.waits j))) → MmStep b wr (s1.drainAll j (s1.waits j)) w2 → ∃ k : Bool, (errVal a (fenceNum f')) = errVal a (fenceNum k) ∧ ∃ s1, s1.threads = N ∧ s1.Ok ∧ (k || decide (0 < s1.goneFrom (j + 1) (N - (j + 1)))) = G ∧ s1.forceFrom (j + 1) (N - (j + 1)) = D ∧ MmStep b w s1 w2) := by
        intro w2 f' hf' hst
        have e1 : N - j = (N - (j + 1)) + 1 := by omega
        rw [e1] at h3 h4
        refine ⟨f', rfl, s1.drainAll j (s1.waits j), ?_, h2.drainAll j, ?_, h4, H5.out.trans hst⟩
        · rw [(s1.drainAll_ar (s1.waits j) j).2.2.2]; exact h1
        · rw [← h3, hf', Rm.goneFrom]
          cases f <;> simp
          rw [Bool.eq_iff_iff]; simp; omega
      clear h2 h3 h4 h5 HI H5
      cases hg : decide (0 < s1.gone j (s1.waits j))
      · rw [hg] at HFe
        replace HFe : Hid (Calls Tryd.prog 38 #[.pointer (some ⟨b, 0, none⟩), .int .i64 j] wr fun e w' => e = .returned .nilIface ∧ MmStep b wr (s1.drainAll j (s1.waits j)) w') := HFe
        have HF0 : Hid (∀ w2, MmStep b wr (s1.drainAll j (s1.waits j)) w2 → ∃ k : Bool, (errVal a (fenceNum f)) = errVal a (fenceNum k) ∧ ∃ s1, s1.threads = N ∧ s1.Ok ∧ (k || decide (0 < s1.goneFrom (j + 1) (N - (j + 1)))) = G ∧ s1.forceFrom (j + 1) (N - (j + 1)) = D ∧ MmStep b w s1 w2) := fun w2 hst => HN.out w2 f (by rw [hg]; simp) hst
        generalize hv : errVal a (fenceNum f) = V at HF0 ⊢
        clear HN hg
        go_wp2_with fail
        refine HH.out.mono ?_
        rintro e1 w1 ⟨rfl, rfl⟩
        clear HH
        go_wp2_with fail
        refine HFe.out.mono ?_
        rintro e2 w2 ⟨rfl, hst⟩
        have HF : Hid _ := HF0.out w2 hst
        clear HF0 HFe hst hv
        go_wp2
        go_roundw
        case rel => exact ⟨j + 1, by omega, by go_num, HF.out⟩
        case measure => simp [intOf]; omega
      · rw [hg] at HFe
        replace HFe : Hid (Calls Tryd.prog 38 #[.pointer (some ⟨b, 0, none⟩), .int .i64 j] wr fun e w' => e = .returned (errAt (a 6)) ∧ MmStep b wr (s1.drainAll j (s1.waits j)) w') := HFe
        have HF0 : Hid (∀ w2, MmStep b wr (s1.drainAll j (s1.waits j)) w2 → ∃ k : Bool, errAt (a 6) = errVal a (fenceNum k) ∧ ∃ s1, s1.threads = N ∧ s1.Ok ∧ (k || decide (0 < s1.goneFrom (j + 1) (N - (j + 1)))) = G ∧ s1.forceFrom (j + 1) (N - (j + 1)) = D ∧ MmStep b w s1 w2) := fun w2 hst => HN.out w2 true (by rw [hg]; simp) hst
        generalize hv : errVal a (fenceNum f) = V
        clear HN hg
        go_wp2_with fail
        refine HH.out.mono ?_
        rintro e1 w1 ⟨rfl, rfl⟩
        clear HH
        go_wp2_with fail
        refine HFe.out.mono ?_
        rintro e2 w2 ⟨rfl, hst⟩
        have HF : Hid _ := HF0.out w2 hst
        clear HF0 HFe hst hv
        go_wp2
        go_roundw
        case rel => exact ⟨j + 1, by omega, by go_num, HF.out⟩
        case measure => simp [intOf]; omega
    · obtain rfl : j = N := by omega
      have HH : Hid (Calls Tryd.prog 47 #[.pointer (some ⟨b, 0, none⟩), .int .i64 j] wr fun e w' => e = .returned (.bool false) ∧ w' = wr) := has_m_no b s1 j wr h5.at' (by omega)
      rw [Nat.sub_self] at h3 h4
      have HG : Hid (f = G) := hide (by rw [Rm.goneFrom] at h3; simpa using h3)
      have HD : Hid (s1 = D) := h4
      generalize hv : errVal a (fenceNum f) = V
      have HV : Hid (V = errVal a (fenceNum f)) := hv.symm
      clear h3 h4 h2 HI hv h5
      go_wp2_with fail
      refine HH.out.mono ?_
      rintro e1 w1 ⟨rfl, rfl⟩
      go_wp2
      go_ret
      exact ⟨by rw [HV.out, HG.out]; rfl, by rw [← HD.out]; exact H5.out⟩
end Go.Proofs.YtcnemlamlchnkaaDoor
