/- The law's helper faulted by a contract. -/
import Derived.Test.YtcajklfngeafdaaGreatDoorBase
import Derived.Test.YtcajklfngeafdaaGreatDoorProgF
namespace Go.Proofs.YtcajklfngeafdaaGreatDoor
open Go.RowKit Go.Extern.Stop Go.Stop Go.Extern Go.Maps Go.WideMaps

theorem faultFrom_le : ∀ (l : List Ins) (r : List Ins) (j : Nat), (faultFrom l j r).1 ≤ 5
  | _, [], _ => Nat.zero_le _
  | l, x :: r, j => by
    unfold faultFrom
    split
    · exact faultFrom_le l r (j + 1)
    · dsimp only
      unfold insFault
      split
      · have := insErr_le x; omega
      · split
        · omega
        · split <;> omega
theorem codeFault_le (l : List Ins) : (codeFault l).1 ≤ 5 := by
  unfold codeFault
  split
  · decide
  · exact faultFrom_le _ _ _
/-- An error's meaning, later. -/
theorem errIs_below {a : Nat → Addr} {f : Nat × Int} {v : Value} {w w' : World} {B : Nat} (h : errIs a f v w B) (hb : Below w.heap.size w w') : errIs a f v w' B := by
  rcases h with h | h | ⟨h0, j, N, h1, h2, h3, h4, h5⟩
  · exact .inl h
  · exact .inr (.inl h)
  · exact .inr (.inr ⟨h0, j, N, h1, h2, h3, keep_cell hb h4, keep_cell hb h5⟩)

theorem faulted_any (a : Nat → Addr) (f : Nat × Int) (v : Value) (B : Nat) (w : World) (hE : Env a w) (hf : f.1 ≤ 5) (h : errIs a f v w B) :
    Calls Tryz.prog 9 #[v, .agg #[.int .i64 f.1, .int .i64 f.2]] w fun e w' => e = .returned (.bool true) ∧ Below w.heap.size w w' := by
  obtain ⟨f1, f2⟩ := f
  dsimp only at *
  obtain ⟨W0, hW0⟩ : ∃ W0, W0 = w.alloc (.cells #[.int .i64 f1, .int .i64 f2] 27) := ⟨_, rfl⟩
  have B0 : Below w.heap.size w W0 := by rw [hW0]; exact (Below.refl _ _).alloc (Nat.le_refl _) _
  have q0 : W0.cell? ⟨w.heap.size, 0, none⟩ = some (.int .i64 f1) := by rw [hW0]; simp
  have q1 : W0.cell? ⟨w.heap.size, 1, none⟩ = some (.int .i64 f2) := by rw [hW0]; simp
  have E0 := hE.below B0.block
  have h := errIs_below h B0
  rcases h with ⟨h0, rfl⟩ | ⟨h0, h1, rfl⟩ | ⟨h0, j, N, h1, h2, rfl, h4, h5⟩
  · dsimp only at h0
    subst h0
    have HC := hide (code_nil W0)
    rw [show ((0 : Nat) : Int) = 0 from rfl] at hW0 q0 ⊢
    go_enter Tryz.func9, Tryz.ntmps9
    go_wp2_with fail
    rw [← hW0]
    refine HC.out.mono ?_
    rintro e w1 ⟨rfl, rfl⟩
    go_wp2_with fail
    refine bodyPost_ret (v := .bool true) (by simp only [results, Tryz.results9]; go_simp) rfl ⟨rfl, hW0 ▸ B0⟩
  · dsimp only at h0 h1
    subst h1
    obtain ⟨k, rfl⟩ : ∃ k, f1 = k + 1 := ⟨f1 - 1, by omega⟩
    have HC := hide (code_sent a k (by omega) W0 E0)
    have hk : ((k + 1 : Nat) : Int) = k + 1 := by omega
    rw [hk] at HC hW0 q0 ⊢
    rw [show xval a (k + 1) = errAt (a k) from rfl]
    go_enter Tryz.func9, Tryz.ntmps9
    go_wp2_with fail
    rw [← hW0]
    refine HC.out.mono ?_
    rintro e w1 ⟨rfl, hb1⟩
    have hk0 : ¬ ((k : Int) + 1 = 0) := by omega
    replace q0 := keep_cell hb1 q0
    replace q1 := keep_cell hb1 q1
    go_wp2_with fail
    refine bodyPost_ret (v := .bool true) (by simp only [results, Tryz.results9]; go_simp) rfl ⟨rfl, below_step B0 hb1⟩
  · dsimp only at h0 h1
    subst h1
    obtain ⟨k, rfl⟩ : ∃ k, f1 = k + 1 := ⟨f1 - 1, by omega⟩
    have HC := hide (code_fault a k (by omega) N 0 j W0 E0 h4 h5)
    have hk : ((k + 1 : Nat) : Int) = k + 1 := by omega
    rw [hk] at HC hW0 q0 ⊢
    go_enter Tryz.func9, Tryz.ntmps9
    go_wp2_with fail
    rw [← hW0]
    refine HC.out.mono ?_
    rintro e w1 ⟨rfl, hb1⟩
    have hk0 : ¬ ((k : Int) + 1 = 0) := by omega
    replace q0 := keep_cell hb1 q0
    replace q1 := keep_cell hb1 q1
    go_wp2_with fail
    refine bodyPost_ret (v := .bool true) (by simp only [results, Tryz.results9]; go_simp) rfl ⟨rfl, below_step B0 hb1⟩
end Go.Proofs.YtcajklfngeafdaaGreatDoor
