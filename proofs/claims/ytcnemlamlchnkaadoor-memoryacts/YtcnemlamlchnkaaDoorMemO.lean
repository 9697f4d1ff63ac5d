/- Package memory by contracts: New. -/
import Derived.Test.YtcnemlamlchnkaaDoorMemN
import Derived.Laws.Rows
namespace Go.Proofs.YtcnemlamlchnkaaDoor
open Go.RowKit Go.Extern.Stop Go.Stop Go.Extern Go.Sort

theorem mnew_cells (a : Nat → Addr) (c t : Int) (w : World) (hE : EnvM a w) (hc : ¬ (1 ≤ c ∧ c ≤ 64)) :
    Calls Tryd.prog 32 #[.int .i64 c, .int .i64 t] w fun e w' => e = .returned (.tuple #[.pointer none, errAt (a 1)]) ∧ Below w.heap.size w w' := by
  have HN := new_bad a c w hE hc
  clear hc hE
  go_enter Tryd.func32, Tryd.ntmps32
  go_wp2_with fail
  refine HN.mono ?_
  rintro e0 w1 ⟨rfl, hb1⟩
  go_wp2
  go_ret2
  exact ⟨rfl, hb1⟩

theorem mnew_threads (a : Nat → Addr) (c : Nat) (t : Int) (w : World) (hE : EnvM a w) (h1 : 1 ≤ c) (h2 : c ≤ 64) (ht : ¬ (1 ≤ t ∧ t ≤ 6)) :
    Calls Tryd.prog 32 #[.int .i64 c, .int .i64 t] w fun e w' => e = .returned (.tuple #[.pointer none, errAt (a 1)]) ∧ Below w.heap.size w w' := by
  have HN := new_ok c w h1 h2
  have HC : Hid (∀ w', Below w.heap.size w w' → w'.cell? ⟨1, 0, none⟩ = some (errAt (a 1))) := fun w' hb => (hE.below hb.block).cell 1 (by decide)
  clear hE
  by_cases t1 : t < 1
  · clear ht
    go_enter Tryd.func32, Tryd.ntmps32
    go_wp2_with fail
    refine HN.mono ?_
    rintro e0 w1 ⟨rfl, -, hb1⟩
    have c1 := HC.out w1 hb1
    go_wp2
    go_quiet (fail)
    go_wp2
    go_ret2
    exact ⟨rfl, below_dN hb1 _⟩
  · have t6 : 6 < t := by omega
    clear ht
    go_enter Tryd.func32, Tryd.ntmps32
    go_wp2_with fail
    refine HN.mono ?_
    rintro e0 w1 ⟨rfl, -, hb1⟩
    have c1 := HC.out w1 hb1
    go_wp2
    go_quiet (fail)
    go_wp2
    go_ret2
    exact ⟨rfl, below_dN hb1 _⟩

theorem new_exact (c : Nat) (w : World) (h1 : 1 ≤ c) (h2 : c ≤ 64) :
    Calls Tryd.prog 18 #[.int .i64 c] w fun e w' => e = .returned (.tuple #[.pointer (some ⟨w.heap.size, 0, none⟩), .nilIface]) ∧ w' = w.alloc (.cells (Tryd.zeroCells98.setIfInBounds 0 (.int .i64 c)) 98) := by
  have i1 : 1 ≤ (c : Int) := by omega
  have i2 : (c : Int) ≤ 64 := by omega
  go_enter Tryd.func18, Tryd.ntmps18
  go_wp2
  go_ret2
  exact ⟨rfl, rfl⟩

theorem zeroM : Tryd.zeroCells110 = ((.int .i64 0 :: List.replicate 256 (.int .u32 0)) ++ List.replicate 64 (.bool false) ++ List.replicate 263 (.int .i64 0) : List Value).toArray := by kernel_rfl
theorem zeroM_size : Tryd.zeroCells110.size = 584 := by
  rw [zeroM, List.size_toArray, rows_len]
theorem zeroM_word (k : Nat) (h1 : 1 ≤ k) (h2 : k < 257) : Tryd.zeroCells110[k]? = some (.int .u32 0) := by
  rw [zeroM, List.getElem?_toArray, rows_a _ _ _ _ 256 64 263 k h1 h2]
theorem zeroM_there (k : Nat) (h1 : 257 ≤ k) (h2 : k < 321) : Tryd.zeroCells110[k]? = some (.bool false) := by
  rw [zeroM, List.getElem?_toArray, rows_b _ _ _ _ 256 64 263 k h1 h2]
theorem zeroM_rest (k : Nat) (h1 : 321 ≤ k) (h2 : k < 584) : Tryd.zeroCells110[k]? = some (.int .i64 0) := by
  rw [zeroM, List.getElem?_toArray, rows_c _ _ _ _ 256 64 263 k h1 h2]

set_option maxRecDepth 100000 in
theorem built_new (c t : Int) : Tryd.prog.built 110 [(0, .agg (Tryd.zeroCells98.setIfInBounds 0 (.int .i64 c))), (1, .int .i64 t)] = some ((Tryd.zeroCells110.setIfInBounds 0 (.int .i64 c)).setIfInBounds 385 (.int .i64 t)) := by kernel_rfl

/-- The cells of a new memory. -/
theorem new_made (c t : Int) : ∃ N : Array Value, Tryd.prog.built 110 [(0, .agg (Tryd.zeroCells98.setIfInBounds 0 (.int .i64 c))), (1, .int .i64 t)] = some N ∧ N[0]? = some (.int .i64 c) ∧ N[385]? = some (.int .i64 t) ∧ ∀ k, k ≠ 0 → k ≠ 385 → N[k]? = Tryd.zeroCells110[k]? := by
  refine ⟨_, built_new c t, ?_, ?_, fun k h0 h1 => ?_⟩
  · rw [Array.getElem?_setIfInBounds, if_neg (by omega), Array.getElem?_setIfInBounds, if_pos rfl, if_pos (by rw [zeroM_size]; decide)]
  · rw [Array.getElem?_setIfInBounds, if_pos rfl, if_pos (by rw [Array.size_setIfInBounds, zeroM_size]; decide)]
  · rw [Array.getElem?_setIfInBounds, if_neg (by omega), Array.getElem?_setIfInBounds, if_neg (by omega)]

/-- A new memory lies in its new block. -/
theorem MmAt.fresh (c t : Nat) (N : Array Value) (w : World) (h2 : c ≤ 64) (t2 : t ≤ 6) (n0 : N[0]? = some (.int .i64 c)) (nt : N[385]? = some (.int .i64 t)) (nk : ∀ k, k ≠ 0 → k ≠ 385 → N[k]? = Tryd.zeroCells110[k]?) : MmAt w.heap.size (Rm.fresh c t) (w.alloc (.cells N 110)) where
  ar := by
    refine ⟨h2, ?_, fun j k hj hk => ?_, fun _ _ => ⟨Int.le_refl _, by show (0 : Int) < 4294967296; decide⟩, fun j hj => ?_, fun j hj => ?_, fun _ => by show 0 < 4611686018427387904; decide, fun k hk => World.frozen?_alloc_new _ _ _ _⟩
    · rw [World.cell?_alloc_new]
      exact n0
    · rw [World.cell?_alloc_new, nk _ (by omega) (by omega), zeroM_word _ (by omega) (by omega)]
      rfl
    · rw [World.cell?_alloc_new, nk _ (by omega) (by omega), zeroM_there _ (by omega) (by omega)]
      rfl
    · rw [World.cell?_alloc_new, nk _ (by omega) (by omega), zeroM_rest _ (by omega) (by omega)]
      rfl
  few := t2
  nt := by
    rw [World.cell?_alloc_new]
    exact nt
  line u hu := by
    have hu' : u < t := hu
    refine ⟨Nat.zero_le _, ?_, fun i k hi hk => ?_, fun k hk => World.frozen?_alloc_new _ _ _ _⟩
    · rw [World.cell?_alloc_new, nk _ (by omega) (by omega), zeroM_rest _ (by omega) (by omega)]
      rfl
    · rw [World.cell?_alloc_new, nk _ (by omega) (by omega), zeroM_rest _ (by omega) (by omega)]
      rfl

theorem wpList_build_is {P : Program} {ops : Array Oper} {rest : List Oper} {o : Oper} {a : Act} {w : World} {Q : Exit → Act → World → Prop} (hg : o.guard = none) (t : TypeId) (parts : Array (Nat × Operand)) (ho : o.op = .build t parts) (cells : Array Value)
    (hf : P.built t (parts.map fun (i, x) => (i, a.eval x)).toList = some cells) (h : wpList P ops Q rest (a.put o.dst (.agg cells)) w) : wpList P ops Q (o :: rest) a w :=
  wpList_build hg t parts ho (by rw [hf]; rfl) (by rw [hf]; exact h)

theorem wpList_build_two {P : Program} {ops : Array Oper} {rest : List Oper} {o : Oper} {a : Act} {w : World} {Q : Exit → Act → World → Prop} (hg : o.guard = none) (t : TypeId) (i0 i1 : Nat) (x0 x1 : Operand) (ho : o.op = .build t #[(i0, x0), (i1, x1)])
    (v0 v1 : Value) (h0 : a.eval x0 = v0) (h1 : a.eval x1 = v1) (cells : Array Value)
    (hf : P.built t [(i0, v0), (i1, v1)] = some cells) (h : wpList P ops Q rest (a.put o.dst (.agg cells)) w) : wpList P ops Q (o :: rest) a w :=
  wpList_build_is hg t _ ho cells (by simp [h0, h1, hf]) h

theorem arenaSize (c : Int) : (Tryd.prog.info? 98).map (·.size) = some (Tryd.zeroCells98.setIfInBounds 0 (.int .i64 c)).size := by
  rw [Array.size_setIfInBounds, zero84_size]; kernel_rfl

set_option maxRecDepth 100000 in
theorem mnew_ok (c t : Nat) (w : World) (h1 : 1 ≤ c) (h2 : c ≤ 64) (t1 : 1 ≤ t) (t2 : t ≤ 6) :
    Calls Tryd.prog 32 #[.int .i64 c, .int .i64 t] w fun e w' => e = .returned (.tuple #[.pointer (some ⟨w.heap.size + 1, 0, none⟩), .nilIface]) ∧ MmAt (w.heap.size + 1) (Rm.fresh c t) w' ∧ Below w.heap.size w w' := by
  have HN := new_exact c w h1 h2
  have i1 : 1 ≤ (t : Int) := by omega
  have i2 : (t : Int) ≤ 6 := by omega
  have hA := arenaSize c
  obtain ⟨N, hB, n0, n385, nk⟩ := new_made c t
  have HM : Hid (∀ w1 : World, w1.heap.size = w.heap.size + 1 → MmAt (w.heap.size + 1) (Rm.fresh c t) (w1.alloc (.cells N 110))) := fun w1 e => by
    rw [← e]; exact MmAt.fresh c t N w1 h2 t2 n0 n385 nk
  clear n0 n385 nk
  generalize Tryd.zeroCells98.setIfInBounds 0 (.int .i64 c) = A at *
  have hg := heap_new w (.cells A 98)
  have hb1 : Below w.heap.size w (w.alloc (.cells A 98)) := (Below.refl _ _).alloc (Nat.le_refl _) _
  have hs1 : (w.alloc (.cells A 98)).heap.size = w.heap.size + 1 := by simp
  generalize w.alloc (.cells A 98) = w1 at *
  go_enter Tryd.func32, Tryd.ntmps32
  go_wp2_with fail
  refine HN.mono ?_
  rintro e0 w2 ⟨rfl, rfl⟩
  go_wp2_with (first
    | refine wpList_load_row (by rfl) 98 _ (by rfl) w.heap.size (by rfl) 98 A (0, 0) _ hg Tryd.underlying98 (by rfl) hA ?_
    | refine wpList_build_two (by rfl) 110 0 1 _ _ (by rfl) (.agg A) (.int .i64 t) (by rfl) (by rfl) N hB ?_)
  go_ret2
  exact ⟨rfl, HM.out _ hs1, hb1.alloc hb1.size _⟩
end Go.Proofs.YtcnemlamlchnkaaDoor
