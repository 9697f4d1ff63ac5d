/- The law CodeReads, walked. -/
import Derived.Test.YtcajklfngeafdaaGreatDoorFaultR
namespace Go.Proofs.YtcajklfngeafdaaGreatDoor
open Go.RowKit Go.Extern.Stop Go.Stop Go.Extern Go.Maps Go.WideMaps

set_option maxRecDepth 20000 in
set_option maxHeartbeats 1000000 in
theorem reads_any (a : Nat → Addr) (s : ByteArray) (w : World) (hE : EnvZ a w) :
    Calls Tryz.prog 4 #[.string s] w fun e w' => e = .returned (.bool true) ∧ Below w.heap.size w w' := by
  have HT : Hid (∀ w', EnvZ a w' → Calls Tryz.prog 5 #[] w' fun e w'' => e = .returned (.bool true) ∧ Below w'.heap.size w' w'') := fun w' h => texted_any a w' h.x
  by_cases hs : s.size ≤ 1500
  · have HR : Hid (∀ w', EnvZ a w' → Calls Tryz.prog 12 #[.string s] w' fun e w'' => readPost a s w' e w'') := fun w' h => read_any a s (by omega) w' h.x
    have HO : Hid (∀ w', Calls Tryz.prog 14 #[.string s] w' fun e w'' => ofPost s w' e w'') := fun w' => codeOf_any s (by omega) w'
    have hi : ¬ 1500 < (s.size : Int) := by omega
    have hLn : (readFault s).1 = 0 → (readCode s).length ≤ 1000000 := fun h0 => by
      have h1 := congrArg List.length (read_zero h0)
      rw [List.length_map, List.length_map] at h1
      rw [← h1]
      unfold linesOf
      split
      · exact Nat.zero_le _
      · unfold cutS
        have h2 := (cutTo_le (stripB s) 10 (stripB s).size).1
        have h3 : (stripB s).size ≤ s.size := by unfold stripB; split <;> (try rw [ByteArray.size_extract]) <;> omega
        simp; omega
    replace hLn := hide hLn
    go_enter Tryz.func4, Tryz.ntmps4
    go_wp2_with fail
    refine (HT.out _ hE).mono ?_
    rintro e w1 ⟨rfl, hb1⟩
    go_wp2_with fail
    have hE1 := hE.below hb1
    refine (HR.out _ hE1).mono ?_
    rintro e w2 ⟨sv, ev, rfl, hev, hg, hbad, hb2⟩
    have hE2 := hE1.below hb2
    have B2 := below_step hb1 hb2
    replace hev := hide hev
    replace hg := hide hg
    replace hbad := hide hbad
    clear hb1 hb2 hE1
    go_wp2_with fail
    refine (HO.out _).mono ?_
    rintro e w3 ⟨so, rfl, hgo, hb3⟩
    have hE3 := hE2.below hb3
    have B3 := below_step B2 hb3
    by_cases h0 : (readFault s).1 = 0
    · obtain ⟨ad, cap, rfl, hI⟩ := hg.out h0
      obtain ⟨ad', cap', rfl, hI'⟩ := hgo h0
      have hI3 := insAt_below hI hb3
      have hev' := hev.out
      rcases hev' with ⟨-, rfl⟩ | ⟨h1, -⟩ | ⟨h1, -⟩
      rotate_left
      · exact absurd h0 h1
      · exact absurd h0 h1
      have HS : Hid (∀ w', Below w3.heap.size w3 w' → Calls Tryz.prog 13 #[.slice ad (readCode s).length cap, .slice ad' (readCode s).length cap'] w' fun e w'' => e = .returned (.bool true) ∧ Below w'.heap.size w' w'') := fun w' hb =>
        sameCode_any ad ad' cap cap' (readCode s) w' (hLn.out h0) (insAt_below hI3 hb) (insAt_below hI' hb)
      rw [h0]
      clear hI hI' hI3 hev hg hgo hbad
      generalize (readFault s).2 = f2
      go_wp2_with fail
      refine (HS.out _ ((Below.refl _ _).alloc (Nat.le_refl _) _)).mono ?_
      rintro e w4 ⟨rfl, hb4⟩
      have B4 := below_step (B3.alloc B3.size _) hb4
      go_wp2_with fail
      exact bodyPost_ret (v := .bool true) (by simp only [results, Tryz.results4]; go_simp) rfl ⟨rfl, B4⟩
    · obtain rfl := hbad.out h0
      have hev3 := errIs_below hev.out hb3
      have HF : Hid (∀ w', Below w3.heap.size w3 w' → Calls Tryz.prog 9 #[ev, .agg #[.int .i64 (readFault s).1, .int .i64 (readFault s).2]] w' fun e w'' => e = .returned (.bool true) ∧ Below w'.heap.size w' w'') := fun w' hb =>
        faulted_any a (readFault s) ev _ w' (hE3.env.below hb.block) (readFault_le s) (errIs_below hev3 hb)
      have hpos : (0 : Int) < ((readFault s).1 : Int) := by omega
      clear hev hg hgo hbad hev3 h0
      generalize (readFault s).2 = f2 at *
      generalize (readFault s).1 = f1 at *
      go_wp2_with fail
      refine (HF.out _ ((Below.refl _ _).alloc (Nat.le_refl _) _)).mono ?_
      rintro e w4 ⟨rfl, hb4⟩
      have B4 := below_step (B3.alloc B3.size _) hb4
      go_wp2_with fail
      exact bodyPost_ret (v := .bool true) (by simp only [results, Tryz.results4]; go_simp) rfl ⟨rfl, B4⟩
  · have hi : 1500 < (s.size : Int) := by omega
    go_enter Tryz.func4, Tryz.ntmps4
    go_wp2_with fail
    refine (HT.out _ hE).mono ?_
    rintro e w1 ⟨rfl, hb1⟩
    go_wp2_with fail
    exact bodyPost_ret (v := .bool true) (by simp only [results, Tryz.results4]; go_simp) rfl ⟨rfl, hb1⟩
end Go.Proofs.YtcajklfngeafdaaGreatDoor
