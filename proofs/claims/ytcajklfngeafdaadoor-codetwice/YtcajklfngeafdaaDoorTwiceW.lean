/- The law CodeTwice, walked. -/
import Derived.Test.YtcajklfngeafdaaDoorTexted
namespace Go.Proofs.YtcajklfngeafdaaDoor
open Go.RowKit Go.Extern.Stop Go.Stop Go.Extern Go.Maps Go.WideMaps

theorem twice_any (a : Nat → Addr) (s : ByteArray) (w : World) (hE : EnvX a w) :
    Calls Tryd.prog 3 #[.string s] w fun e w' => e = .returned (.bool true) ∧ Below w.heap.size w w' := by
  have HT : Hid (∀ w', EnvX a w' → Calls Tryd.prog 4 #[] w' fun e w'' => e = .returned (.bool true) ∧ Below w'.heap.size w' w'') := fun w' h => texted_any a w' h
  by_cases hs : s.size ≤ 1500
  · have HR : Hid (∀ w', EnvX a w' → Calls Tryd.prog 5 #[.string s] w' fun e w'' => readPost a s w' e w'') := fun w' h => read_any a s (by omega) w' h
    go_enter Tryd.func3, Tryd.ntmps3
    go_wp2_with fail
    refine (HT.out _ hE).mono ?_
    rintro e w1 ⟨rfl, hb1⟩
    have hi : ¬ 1500 < (s.size : Int) := by omega
    go_wp2_with fail
    have hE1 := hE.below hb1
    refine (HR.out _ hE1).mono ?_
    rintro e w2 ⟨sv, ev, rfl, hev, hg, hbad, hb2⟩
    have hE2 := hE1.below hb2
    rcases hev with ⟨h0, rfl⟩ | ⟨h0, h1, rfl⟩ | ⟨h0, j, N, h1, h2, rfl, h3, h4⟩
    · obtain ⟨ad, cap, rfl, hI⟩ := hg h0
      have HX : Hid (∀ w', EnvX a w' → insAt ad (readCode s) w' → Calls Tryd.prog 6 #[.slice ad (readCode s).length cap] w' fun e w'' => e = .returned (.tuple #[.string ⟨(textL (readCode s)).toArray⟩, .nilIface]) ∧ Below w'.heap.size w' w'') := fun w' hE' hI' => by
        refine (text_any a ad cap (readCode s) w' hE' (read_short (read_zero h0) (by omega)) hI' ?_).mono ?_
        · have h1 : (bl s).length ≤ 1500 := by rw [← size_bl]; exact hs
          rcases text_of_read (read_zero h0) with h | h <;> rw [h] <;> (try rw [List.length_append, List.length_singleton]) <;> omega
        · rintro e w3 ⟨hr, hb⟩
          rw [(read_good (read_zero h0)).1] at h0
          rcases hr with ⟨h, _⟩ | ⟨_, h⟩
          · exact absurd h0 h
          · exact ⟨h, hb⟩
      rcases text_of_read (read_zero h0) with h5 | h5
      · rw [h5, show (⟨(bl s).toArray⟩ : ByteArray) = s from rfl] at HX
        go_wp2_with fail
        refine (HX.out _ hE2 hI).mono ?_
        rintro e w3 ⟨rfl, hb3⟩
        go_wp2_with fail
        exact bodyPost_ret (v := .bool true) (by simp only [results, Tryd.results3]; go_simp) rfl ⟨rfl, below_step (below_step hb1 hb2) hb3⟩
      · rw [h5] at HX
        go_wp2_with fail
        refine (HX.out _ hE2 hI).mono ?_
        rintro e w3 ⟨rfl, hb3⟩
        go_wp2_with fail
        all_goals
          have h6 : (bl s ++ [10] == s.toList || bl s ++ [10] == (s ++ (⟨#[10]⟩ : ByteArray)).toList) = true := by
            have : (s ++ (⟨#[10]⟩ : ByteArray)).toList = bl s ++ [10] := by rw [toList_bl]; simp [bl]
            rw [this]; simp
          try rw [h6]
          exact bodyPost_ret (v := .bool true) (by simp only [results, Tryd.results3]; go_simp) rfl ⟨rfl, below_step (below_step hb1 hb2) hb3⟩
    · have hx : xval a (readFault s).1 = xerr (a ((readFault s).1 - 1)) := by
        cases hk : (readFault s).1 with
        | zero => exact absurd hk h0
        | succ k => rfl
      rw [hx]
      rw [hbad h0]
      go_wp2_with fail
      exact bodyPost_ret (v := .bool true) (by simp only [results, Tryd.results3]; go_simp) rfl ⟨rfl, below_step hb1 hb2⟩
    · rw [hbad h0]
      go_wp2_with fail
      exact bodyPost_ret (v := .bool true) (by simp only [results, Tryd.results3]; go_simp) rfl ⟨rfl, below_step hb1 hb2⟩
  · have hi : 1500 < (s.size : Int) := by omega
    go_enter Tryd.func3, Tryd.ntmps3
    go_wp2_with fail
    refine (HT.out _ hE).mono ?_
    rintro e w1 ⟨rfl, hb1⟩
    go_wp2_with fail
    exact bodyPost_ret (v := .bool true) (by simp only [results, Tryd.results3]; go_simp) rfl ⟨rfl, hb1⟩
end Go.Proofs.YtcajklfngeafdaaDoor
