import Derived.Test.YtakocdgniplfmaaGreatDoorJ05

/- ArenaD -/
namespace Go.Proofs.YtakocdgniplfmaaGreatDoor
open Go.RowKit Go.Extern.Stop Go.Stop Go.Extern

theorem new_bad (a : Nat → Addr) (c : Int) (w : World) (hE : EnvM a w) (hc : ¬ (1 ≤ c ∧ c ≤ 64)) :
    Calls Tryz.prog 72 #[.int .i64 c] w fun e w' => e = .returned (.tuple #[.pointer none, errAt (a 1)]) ∧ Below w.heap.size w w' := by
  have c1 : w.cell? ⟨0, 0, none⟩ = some (errAt (a 1)) := hE.cell 1 (by decide)
  by_cases h1 : c < 1
  · clear hc
    go_enter Tryz.func72, Tryz.ntmps72
    go_wp2
    go_quiet (fail)
    go_wp2
    go_ret2
    exact ⟨rfl, below_dN (Below.refl _ _) _⟩
  · have h2 : 64 < c := by omega
    clear hc
    go_enter Tryz.func72, Tryz.ntmps72
    go_wp2
    go_quiet (fail)
    go_wp2
    go_ret2
    exact ⟨rfl, below_dN (Below.refl _ _) _⟩

theorem zero84 : Tryz.zeroCells93 = ((.int .i64 0 :: List.replicate 256 (.int .u32 0)) ++ List.replicate 64 (.bool false) ++ List.replicate 64 (.int .i64 0) : List Value).toArray := by kernel_rfl
theorem rows_len (x a b c : Value) (m n p : Nat) : ((x :: List.replicate m a) ++ List.replicate n b ++ List.replicate p c : List Value).length = m + 1 + n + p := by simp; omega
theorem rows_a (x a b c : Value) (m n p k : Nat) (h1 : 1 ≤ k) (h2 : k < m + 1) : ((x :: List.replicate m a) ++ List.replicate n b ++ List.replicate p c : List Value)[k]? = some a := by
  rw [List.getElem?_append_left (by simp; omega), List.getElem?_append_left (by simp; omega), List.getElem?_cons, if_neg (by omega), List.getElem?_replicate, if_pos (by omega)]
theorem rows_b (x a b c : Value) (m n p k : Nat) (h1 : m + 1 ≤ k) (h2 : k < m + 1 + n) : ((x :: List.replicate m a) ++ List.replicate n b ++ List.replicate p c : List Value)[k]? = some b := by
  rw [List.getElem?_append_left (by simp; omega), List.getElem?_append_right (by simp; omega), List.getElem?_replicate, if_pos (by simp; omega)]
theorem rows_c (x a b c : Value) (m n p k : Nat) (h1 : m + 1 + n ≤ k) (h2 : k < m + 1 + n + p) : ((x :: List.replicate m a) ++ List.replicate n b ++ List.replicate p c : List Value)[k]? = some c := by
  rw [List.getElem?_append_right (by simp; omega), List.getElem?_replicate, if_pos (by simp; omega)]
theorem zero84_size : Tryz.zeroCells93.size = 385 := by
  rw [zero84, List.size_toArray, rows_len]
theorem zero84_word (k : Nat) (h1 : 1 ≤ k) (h2 : k < 257) : Tryz.zeroCells93[k]? = some (.int .u32 0) := by
  rw [zero84, List.getElem?_toArray, rows_a _ _ _ _ 256 64 64 k h1 h2]
theorem zero84_there (k : Nat) (h1 : 257 ≤ k) (h2 : k < 321) : Tryz.zeroCells93[k]? = some (.bool false) := by
  rw [zero84, List.getElem?_toArray, rows_b _ _ _ _ 256 64 64 k h1 h2]
theorem zero84_given (k : Nat) (h1 : 321 ≤ k) (h2 : k < 385) : Tryz.zeroCells93[k]? = some (.int .i64 0) := by
  rw [zero84, List.getElem?_toArray, rows_c _ _ _ _ 256 64 64 k h1 h2]

/-- A new arena lies in its new block. -/
theorem ArAt.fresh (c : Nat) (w : World) (h2 : c ≤ 64) : ArAt w.heap.size 0 ⟨c, fun _ _ => 0, fun _ => false, fun _ => 0⟩ (w.alloc (.cells (Tryz.zeroCells93.setIfInBounds 0 (.int .i64 c)) 93)) where
  small := h2
  size := by
    rw [World.cell?_alloc_new, Array.getElem?_setIfInBounds, if_pos rfl, if_pos (by rw [zero84_size]; decide)]
  words j k hj hk := by
    rw [World.cell?_alloc_new, Array.getElem?_setIfInBounds, if_neg (by omega), zero84_word _ (by omega) (by omega)]
  range _ _ := ⟨Int.le_refl _, by show (0 : Int) < 4294967296; decide⟩
  there j hj := by
    rw [World.cell?_alloc_new, Array.getElem?_setIfInBounds, if_neg (by omega), zero84_there _ (by omega) (by omega)]
  given j hj := by
    rw [World.cell?_alloc_new, Array.getElem?_setIfInBounds, if_neg (by omega), zero84_given _ (by omega) (by omega)]
    rfl
  bound _ := by show 0 < 4611686018427387904; decide
  frozen k hk := World.frozen?_alloc_new _ _ _ _

theorem new_ok (c : Nat) (w : World) (h1 : 1 ≤ c) (h2 : c ≤ 64) :
    Calls Tryz.prog 72 #[.int .i64 c] w fun e w' => e = .returned (.tuple #[.pointer (some ⟨w.heap.size, 0, none⟩), .nilIface]) ∧ ArAt w.heap.size 0 ⟨c, fun _ _ => 0, fun _ => false, fun _ => 0⟩ w' ∧ Below w.heap.size w w' := by
  have i1 : 1 ≤ (c : Int) := by omega
  have i2 : (c : Int) ≤ 64 := by omega
  go_enter Tryz.func72, Tryz.ntmps72
  go_wp2
  go_ret2
  exact ⟨rfl, ArAt.fresh c w h2, (Below.refl _ _).alloc (Nat.le_refl _) _⟩

end Go.Proofs.YtakocdgniplfmaaGreatDoor

/- RWord -/
namespace Go.Proofs.YtakocdgniplfmaaGreatDoor
open Go.RowKit Go.Extern.Stop Go.Stop Go.Extern

theorem isWordR_any (k : Int) (w : World) :
    Calls Tryz.prog 81 #[.int .i64 k] w fun e w' => e = .returned (.bool (decide (0 ≤ k ∧ k < 4294967296))) ∧ w' = w := by
  by_cases h1 : 0 ≤ k
  · by_cases h2 : k < 4294967296
    · rw [decide_eq_true ⟨h1, h2⟩]
      go_enter Tryz.func81, Tryz.ntmps81
      go_wp2
      go_ret
      exact ⟨rfl, rfl⟩
    · rw [decide_eq_false (fun h => h2 h.2)]
      go_enter Tryz.func81, Tryz.ntmps81
      go_wp2
      go_ret
      exact ⟨rfl, rfl⟩
  · rw [decide_eq_false (fun h => h1 h.1)]
    go_enter Tryz.func81, Tryz.ntmps81
    go_wp2
    go_ret
    exact ⟨rfl, rfl⟩
end Go.Proofs.YtakocdgniplfmaaGreatDoor
