/- The law Names, walked: it returns true. -/
import Derived.Test.YtcnemlamlchnkaaDoorSameI
namespace Go.Proofs.YtcnemlamlchnkaaDoor
open Go.RowKit Go.Extern.Stop Go.Stop Go.Extern

def nums : List Int := [64, 4, 6, 8, 8, 2000, 40000, 12, 20000, 60000, 20, 500, 100, 16, 1, 2, 3, 4]

theorem nums_at (j : Nat) (h : j < 18) : ([.int .i64 64, .int .i64 4, .int .i64 6, .int .i64 8, .int .i64 8, .int .i64 2000, .int .i64 40000, .int .i64 12, .int .i64 20000, .int .i64 60000, .int .i64 20, .int .i64 500, .int .i64 100, .int .i64 16, .int .i64 1, .int .i64 2, .int .i64 3, .int .i64 4] : List Value)[j]? = some (.int .i64 (nums.getD j 0)) := by
  rw [show ([.int .i64 64, .int .i64 4, .int .i64 6, .int .i64 8, .int .i64 8, .int .i64 2000, .int .i64 40000, .int .i64 12, .int .i64 20000, .int .i64 60000, .int .i64 20, .int .i64 500, .int .i64 100, .int .i64 16, .int .i64 1, .int .i64 2, .int .i64 3, .int .i64 4] : List Value) = nums.map (fun n => .int .i64 n) from rfl, List.getElem?_map, getD_eq_of_lt nums j (by simpa [nums] using h)]
  rfl

theorem new_any (s : ByteArray) (w : World) :
    Calls Tryd.prog 12 #[.string s] w fun ev w' => ev = .returned (errAt ⟨w.heap.size, 0, none⟩) ∧ w' = w.alloc (.cells #[.string s] 91) := by
  go_enter Tryd.func12, Tryd.ntmps12
  go_wp2
  go_ret
  exact ⟨rfl, rfl⟩

/-- SameInts of the two lists of Names. -/
theorem same_nums (w : World) :
    Calls Tryd.prog 9 #[.slice (some ⟨w.heap.size, 0, none⟩) 18 18, .slice (some ⟨w.heap.size + 1, 0, none⟩) 18 18] ((w.alloc (.cells #[.int .i64 64, .int .i64 4, .int .i64 6, .int .i64 8, .int .i64 8, .int .i64 2000, .int .i64 40000, .int .i64 12, .int .i64 20000, .int .i64 60000, .int .i64 20, .int .i64 500, .int .i64 100, .int .i64 16, .int .i64 1, .int .i64 2, .int .i64 3, .int .i64 4] 3)).alloc (.cells #[.int .i64 64, .int .i64 4, .int .i64 6, .int .i64 8, .int .i64 8, .int .i64 2000, .int .i64 40000, .int .i64 12, .int .i64 20000, .int .i64 60000, .int .i64 20, .int .i64 500, .int .i64 100, .int .i64 16, .int .i64 1, .int .i64 2, .int .i64 3, .int .i64 4] 3)) fun ev w' => ev = .returned (.bool true) ∧ Below w.heap.size w w' := by
  have h := same_ints nums ⟨w.heap.size, 0, none⟩ ⟨w.heap.size + 1, 0, none⟩ 18 18 ((w.alloc (.cells #[.int .i64 64, .int .i64 4, .int .i64 6, .int .i64 8, .int .i64 8, .int .i64 2000, .int .i64 40000, .int .i64 12, .int .i64 20000, .int .i64 60000, .int .i64 20, .int .i64 500, .int .i64 100, .int .i64 16, .int .i64 1, .int .i64 2, .int .i64 3, .int .i64 4] 3)).alloc (.cells #[.int .i64 64, .int .i64 4, .int .i64 6, .int .i64 8, .int .i64 8, .int .i64 2000, .int .i64 40000, .int .i64 12, .int .i64 20000, .int .i64 60000, .int .i64 20, .int .i64 500, .int .i64 100, .int .i64 16, .int .i64 1, .int .i64 2, .int .i64 3, .int .i64 4] 3)) (by decide)
    (fun j hj => by
      rw [World.cell?_alloc_lt _ _ _ (by simp)]
      simp only [Nat.zero_add]
      rw [World.cell?_alloc_new]
      simpa using nums_at j hj)
    (fun j hj => by
      simp only [Nat.zero_add]
      rw [show w.heap.size + 1 = (w.alloc (.cells #[.int .i64 64, .int .i64 4, .int .i64 6, .int .i64 8, .int .i64 8, .int .i64 2000, .int .i64 40000, .int .i64 12, .int .i64 20000, .int .i64 60000, .int .i64 20, .int .i64 500, .int .i64 100, .int .i64 16, .int .i64 1, .int .i64 2, .int .i64 3, .int .i64 4] 3)).heap.size from (World.size_alloc _ _).symm, World.cell?_alloc_new]
      simpa using nums_at j hj) rfl rfl
  refine h.mono fun _ _ ⟨h1, h2⟩ => ⟨h1, ?_⟩
  exact (((Below.refl _ _).alloc (Nat.le_refl _) _).alloc (by simp) _).trans (h2.mono (by simp; omega))

set_option maxHeartbeats 2000000 in
theorem names_any (a : Nat → Addr) (w : World) (hE : Env a w) :
    Calls Tryd.prog 3 #[] w fun ev w' => ev = .returned (.bool true) ∧ Below w.heap.size w w' := by
  go_enter Tryd.func3, Tryd.ntmps3
  go_wp2_with fail
  refine (same_nums w).mono ?_
  rintro e0 w1 ⟨rfl, hb1⟩
  have hE1 := hE.below hb1.block
  have c0 : w1.cell? ⟨0, 0, none⟩ = some (errAt (a 0)) := hE1.cell 0 (by decide)
  have c1 : w1.cell? ⟨1, 0, none⟩ = some (errAt (a 1)) := hE1.cell 1 (by decide)
  have c2 : w1.cell? ⟨2, 0, none⟩ = some (errAt (a 2)) := hE1.cell 2 (by decide)
  have c3 : w1.cell? ⟨3, 0, none⟩ = some (errAt (a 3)) := hE1.cell 3 (by decide)
  have c4 : w1.cell? ⟨4, 0, none⟩ = some (errAt (a 4)) := hE1.cell 4 (by decide)
  have c5 : w1.cell? ⟨5, 0, none⟩ = some (errAt (a 5)) := hE1.cell 5 (by decide)
  have c6 : w1.cell? ⟨6, 0, none⟩ = some (errAt (a 6)) := hE1.cell 6 (by decide)
  have c7 : w1.cell? ⟨7, 0, none⟩ = some (errAt (a 7)) := hE1.cell 7 (by decide)
  have c8 : w1.cell? ⟨8, 0, none⟩ = some (errAt (a 8)) := hE1.cell 8 (by decide)
  go_wp2_with fail
  have hc : ∀ j, j < 9 → (w1.alloc (.cells #[errAt (a 0), errAt (a 1), errAt (a 2), errAt (a 3), errAt (a 4), errAt (a 5), errAt (a 6), errAt (a 7), errAt (a 8)] 25)).cell? ⟨w1.heap.size, j, none⟩ = some (errAt (a j)) := fun j hj => by
    rw [World.cell?_alloc_new]; simpa using nine a j hj
  have hE2 := hE1.below fun k hk => Below.heap_alloc w1 (.cells #[errAt (a 0), errAt (a 1), errAt (a 2), errAt (a 3), errAt (a 4), errAt (a 5), errAt (a 6), errAt (a 7), errAt (a 8)] 25) _ hk
  have hb2 := hb1.alloc hb1.size (.cells #[errAt (a 0), errAt (a 1), errAt (a 2), errAt (a 3), errAt (a 4), errAt (a 5), errAt (a 6), errAt (a 7), errAt (a 8)] 25)
  have hz2 : w1.heap.size < (w1.alloc (.cells #[errAt (a 0), errAt (a 1), errAt (a 2), errAt (a 3), errAt (a 4), errAt (a 5), errAt (a 6), errAt (a 7), errAt (a 8)] 25)).heap.size := by simp
  clear c0 c1 c2 c3 c4 c5 c6 c7 c8 hE1
  generalize hw2 : w1.alloc (.cells #[errAt (a 0), errAt (a 1), errAt (a 2), errAt (a 3), errAt (a 4), errAt (a 5), errAt (a 6), errAt (a 7), errAt (a 8)] 25) = w2 at hc hE2 hb2 hz2 ⊢
  clear hw2
  go_loopw [4, 5, 6] (fun i _ _ wr => Below w2.heap.size w2 wr ∧ ∃ j : Nat, j ≤ 9 ∧ i = .int .i64 j) (fun i _ _ _ => 9 - (intOf i).toNat)
  case atStart => exact ⟨Below.refl _ _, 0, Nat.zero_le _, rfl⟩
  case round =>
    obtain ⟨hbw, j, hj9, rfl⟩ := hrel
    have hEr := hE2.below hbw.block
    by_cases h9 : j < 9
    · have hcj : wr.cell? ⟨w1.heap.size, j, none⟩ = some (errAt (a j)) := by rw [hbw.cell hz2]; exact hc j h9
      have hE3 : Env a (wr.alloc (.cells #[.int .i64 7, errAt (a j)] 31)) := hEr.below fun k hk => Below.heap_alloc _ _ _ hk
      have H1 : Hid (∀ w0, w0 = wr.alloc (.cells #[.int .i64 7, errAt (a j)] 31) → Calls Tryd.prog 10 #[.iface 29 (.pointer (some ⟨wr.heap.size, 0, none⟩))] w0 fun ev w' => ev = .returned (.tuple #[.int .i64 (j + 1 : Nat), .int .i64 7]) ∧ Below w0.heap.size w0 w') :=
        fun w0 h => code_fault a j h9 wr.heap.size 0 7 w0 (by rw [h]; exact hE3) (by rw [h]; simp) (by rw [h]; simp)
      go_wp2_with fail
      refine (H1.out _ rfl).mono ?_
      rintro e3 w3 ⟨rfl, hb3⟩
      have hbw3 : Below w2.heap.size w2 w3 := (hbw.alloc hbw.size _).trans (hb3.mono (by have := hbw.size; simp; omega))
      have hcj3 : w3.cell? ⟨w1.heap.size, j, none⟩ = some (errAt (a j)) := by rw [hbw3.cell hz2]; exact hc j h9
      have hE4 : Env a w3 := hE3.below hb3.block
      clear hcj H1 hb3
      go_wp2_with fail
      refine (coded_sent a j h9 _ (by omega) _ hE4).mono ?_
      rintro e4 w4 ⟨rfl, hb4⟩
      have hbw4 : Below w2.heap.size w2 w4 := hbw3.trans (hb4.mono hbw3.size)
      clear hb4 hbw3 hcj3
      have hnn : (((j + 1 : Nat) : Int) != (j : Int) + 1) = false := by simp
      go_wp2
      go_roundw
      case rel => exact ⟨hbw4, j + 1, by omega, by go_num⟩
      case measure => simp [intOf]; omega
    · obtain rfl : j = 9 := by omega
      go_wp2_with fail
      refine (new_any _ _).mono ?_
      rintro e3 w3 ⟨rfl, rfl⟩
      have hE3 := hEr.below fun k hk => Below.heap_alloc wr (.cells #[.string ⟨#[97, 110, 111, 116, 104, 101, 114, 32, 111, 110, 101]⟩] 91) _ hk
      have H3 : Hid (∀ w0, w0 = wr.alloc (.cells #[.string ⟨#[97, 110, 111, 116, 104, 101, 114, 32, 111, 110, 101]⟩] 91) → Calls Tryd.prog 10 #[errAt ⟨wr.heap.size, 0, none⟩] w0 fun ev w' => ev = .returned (.tuple #[.int .i64 (-1), .int .i64 (-1)]) ∧ Below w0.heap.size w0 w') :=
        fun w0 h => code_new a ⟨wr.heap.size, 0, none⟩ w0 (by rw [h]; exact hE3) (fun j hj e => by have := hEr.alt hj; rw [← e] at this; simp at this) #[.string ⟨#[97, 110, 111, 116, 104, 101, 114, 32, 111, 110, 101]⟩] 91 (by rw [h]; show (wr.heap.push _)[wr.heap.size]? = _; simp)
      go_wp2_with fail
      refine (H3.out _ rfl).mono ?_
      rintro e4 w4 ⟨rfl, hb4⟩
      have hE4 := hE3.below hb4.block
      have hbw4 : Below w.heap.size w w4 := (hb2.trans (hbw.mono hb2.size)).trans ((below_drop hb4).mono (Nat.le_trans hb2.size hbw.size))
      go_wp2_with fail
      refine (coded_nil a _ hE4).mono ?_
      rintro e5 w5 ⟨rfl, hb5⟩
      go_wp2
      go_ret
      exact ⟨rfl, hbw4.trans (hb5.mono hbw4.size)⟩
end Go.Proofs.YtcnemlamlchnkaaDoor
