import Derived.Test.YtdpmnlbnlnmjbaaGreatDoorL14
import Derived.Laws.Rows
import Derived.Test.YtdpmnlbnlnmjbaaGreatDoorProg
import Derived.Test.YtdpmnlbnlnmjbaaGreatDoorL11
import Derived.WalkKit
import Derived.Test.YtdpmnlbnlnmjbaaGreatDoorL01
import Derived.Deep.QuietTactic

/- MemO -/
namespace Go.Proofs.YtdpmnlbnlnmjbaaGreatDoor
open Go.RowKit Go.Extern.Stop Go.Stop Go.Extern Go.Sort

theorem mnew_cells (a : Nat → Addr) (c t : Int) (w : World) (hE : EnvM a w) (hc : ¬ (1 ≤ c ∧ c ≤ 64)) :
    Calls Tryz.prog 35 #[.int .i64 c, .int .i64 t] w fun e w' => e = .returned (.tuple #[.pointer none, errAt (a 1)]) ∧ Below w.heap.size w w' := by
  have HN := new_bad a c w hE hc
  clear hc hE
  go_enter Tryz.func35, Tryz.ntmps35
  go_wp2_with fail
  refine HN.mono ?_
  rintro e0 w1 ⟨rfl, hb1⟩
  go_wp2
  go_ret2
  exact ⟨rfl, hb1⟩

theorem mnew_threads (a : Nat → Addr) (c : Nat) (t : Int) (w : World) (hE : EnvM a w) (h1 : 1 ≤ c) (h2 : c ≤ 64) (ht : ¬ (1 ≤ t ∧ t ≤ 6)) :
    Calls Tryz.prog 35 #[.int .i64 c, .int .i64 t] w fun e w' => e = .returned (.tuple #[.pointer none, errAt (a 1)]) ∧ Below w.heap.size w w' := by
  have HN := new_ok c w h1 h2
  have HC : Hid (∀ w', Below w.heap.size w w' → w'.cell? ⟨0, 0, none⟩ = some (errAt (a 1))) := fun w' hb => (hE.below hb.block).cell 1 (by decide)
  clear hE
  by_cases t1 : t < 1
  · clear ht
    go_enter Tryz.func35, Tryz.ntmps35
    go_wp2_with fail
    refine HN.mono ?_
    rintro e0 w1 ⟨rfl, -, hb1⟩
    have c1 := HC.out w1 hb1
    go_wp2
    go_quiet (fail)
    go_wp2
    go_ret2
    exact ⟨rfl, below_dN hb1 _⟩
  · have t6 : 6 < t := by omega
    clear ht
    go_enter Tryz.func35, Tryz.ntmps35
    go_wp2_with fail
    refine HN.mono ?_
    rintro e0 w1 ⟨rfl, -, hb1⟩
    have c1 := HC.out w1 hb1
    go_wp2
    go_quiet (fail)
    go_wp2
    go_ret2
    exact ⟨rfl, below_dN hb1 _⟩

theorem new_exact (c : Nat) (w : World) (h1 : 1 ≤ c) (h2 : c ≤ 64) :
    Calls Tryz.prog 69 #[.int .i64 c] w fun e w' => e = .returned (.tuple #[.pointer (some ⟨w.heap.size, 0, none⟩), .nilIface]) ∧ w' = w.alloc (.cells (Tryz.zeroCells93.setIfInBounds 0 (.int .i64 c)) 93) := by
  have i1 : 1 ≤ (c : Int) := by omega
  have i2 : (c : Int) ≤ 64 := by omega
  go_enter Tryz.func69, Tryz.ntmps69
  go_wp2
  go_ret2
  exact ⟨rfl, rfl⟩

theorem zeroM : Tryz.zeroCells103 = ((.int .i64 0 :: List.replicate 256 (.int .u32 0)) ++ List.replicate 64 (.bool false) ++ List.replicate 263 (.int .i64 0) : List Value).toArray := by kernel_rfl
theorem zeroM_size : Tryz.zeroCells103.size = 584 := by
  rw [zeroM, List.size_toArray, rows_len]
theorem zeroM_word (k : Nat) (h1 : 1 ≤ k) (h2 : k < 257) : Tryz.zeroCells103[k]? = some (.int .u32 0) := by
  rw [zeroM, List.getElem?_toArray, rows_a _ _ _ _ 256 64 263 k h1 h2]
theorem zeroM_there (k : Nat) (h1 : 257 ≤ k) (h2 : k < 321) : Tryz.zeroCells103[k]? = some (.bool false) := by
  rw [zeroM, List.getElem?_toArray, rows_b _ _ _ _ 256 64 263 k h1 h2]
theorem zeroM_rest (k : Nat) (h1 : 321 ≤ k) (h2 : k < 584) : Tryz.zeroCells103[k]? = some (.int .i64 0) := by
  rw [zeroM, List.getElem?_toArray, rows_c _ _ _ _ 256 64 263 k h1 h2]

set_option maxRecDepth 100000 in
theorem built_new (c t : Int) : Tryz.prog.built 103 [(0, .agg (Tryz.zeroCells93.setIfInBounds 0 (.int .i64 c))), (1, .int .i64 t)] = some ((Tryz.zeroCells103.setIfInBounds 0 (.int .i64 c)).setIfInBounds 385 (.int .i64 t)) := by kernel_rfl

theorem new_made (c t : Int) : ∃ N : Array Value, Tryz.prog.built 103 [(0, .agg (Tryz.zeroCells93.setIfInBounds 0 (.int .i64 c))), (1, .int .i64 t)] = some N ∧ N[0]? = some (.int .i64 c) ∧ N[385]? = some (.int .i64 t) ∧ ∀ k, k ≠ 0 → k ≠ 385 → N[k]? = Tryz.zeroCells103[k]? := by
  refine ⟨_, built_new c t, ?_, ?_, fun k h0 h1 => ?_⟩
  · rw [Array.getElem?_setIfInBounds, if_neg (by omega), Array.getElem?_setIfInBounds, if_pos rfl, if_pos (by rw [zeroM_size]; decide)]
  · rw [Array.getElem?_setIfInBounds, if_pos rfl, if_pos (by rw [Array.size_setIfInBounds, zeroM_size]; decide)]
  · rw [Array.getElem?_setIfInBounds, if_neg (by omega), Array.getElem?_setIfInBounds, if_neg (by omega)]

theorem MmAt.fresh (c t : Nat) (N : Array Value) (w : World) (h2 : c ≤ 64) (t2 : t ≤ 6) (n0 : N[0]? = some (.int .i64 c)) (nt : N[385]? = some (.int .i64 t)) (nk : ∀ k, k ≠ 0 → k ≠ 385 → N[k]? = Tryz.zeroCells103[k]?) : MmAt w.heap.size (Rm.fresh c t) (w.alloc (.cells N 103)) where
  ar := by
    refine ⟨h2, ?_, fun j k hj hk => ?_, fun _ _ => ⟨Int.le_refl _, by show (0 : Int) < 4294967296; decide⟩, fun j hj => ?_, fun j hj => ?_, fun _ => by show 0 < 4611686018427387904; decide, fun k hk => World.frozen?_alloc_new _ _ _ _⟩
    · rw [World.cell?_alloc_new]
      exact n0
    · rw [World.cell?_alloc_new, nk _ (by omega) (by omega), zeroM_word _ (by omega) (by omega)]
      rfl
    · rw [World.cell?_alloc_new, nk _ (by omega) (by omega), zeroM_there _ (by omega) (by omega)]
      rfl
    · rw [World.cell?_alloc_new, nk _ (by omega) (by omega), zeroM_rest _ (by omega) (by omega)]
      rfl
  few := t2
  nt := by
    rw [World.cell?_alloc_new]
    exact nt
  line u hu := by
    have hu' : u < t := hu
    refine ⟨Nat.zero_le _, ?_, fun i k hi hk => ?_, fun k hk => World.frozen?_alloc_new _ _ _ _⟩
    · rw [World.cell?_alloc_new, nk _ (by omega) (by omega), zeroM_rest _ (by omega) (by omega)]
      rfl
    · rw [World.cell?_alloc_new, nk _ (by omega) (by omega), zeroM_rest _ (by omega) (by omega)]
      rfl
  rest o h1 h3 := by
    have h1' : 386 + t * 33 ≤ o := h1
    rw [World.cell?_alloc_new, nk _ (by omega) (by omega), zeroM_rest _ (by omega) (by omega)]

theorem wpList_build_is {P : Program} {ops : Array Oper} {rest : List Oper} {o : Oper} {a : Act} {w : World} {Q : Exit → Act → World → Prop} (hg : o.guard = none) (t : TypeId) (parts : Array (Nat × Operand)) (ho : o.op = .build t parts) (cells : Array Value)
    (hf : P.built t (parts.map fun (i, x) => (i, a.eval x)).toList = some cells) (h : wpList P ops Q rest (a.put o.dst (.agg cells)) w) : wpList P ops Q (o :: rest) a w :=
  wpList_build hg t parts ho (by rw [hf]; rfl) (by rw [hf]; exact h)

theorem wpList_build_two {P : Program} {ops : Array Oper} {rest : List Oper} {o : Oper} {a : Act} {w : World} {Q : Exit → Act → World → Prop} (hg : o.guard = none) (t : TypeId) (i0 i1 : Nat) (x0 x1 : Operand) (ho : o.op = .build t #[(i0, x0), (i1, x1)])
    (v0 v1 : Value) (h0 : a.eval x0 = v0) (h1 : a.eval x1 = v1) (cells : Array Value)
    (hf : P.built t [(i0, v0), (i1, v1)] = some cells) (h : wpList P ops Q rest (a.put o.dst (.agg cells)) w) : wpList P ops Q (o :: rest) a w :=
  wpList_build_is hg t _ ho cells (by simp [h0, h1, hf]) h

theorem arenaSize (c : Int) : (Tryz.prog.info? 93).map (·.size) = some (Tryz.zeroCells93.setIfInBounds 0 (.int .i64 c)).size := by
  rw [Array.size_setIfInBounds, zero84_size]; kernel_rfl

end Go.Proofs.YtdpmnlbnlnmjbaaGreatDoor

/- ProgA -/
namespace Go.Proofs.YtdpmnlbnlnmjbaaGreatDoor
open Go.RowKit Go.Extern.Stop Go.Stop Go.Extern

def limOf (S : List UInt8) (k : Nat) : Int := if k < nums S then mostOf (byteAt ⟨S.toArray⟩ k) else 0
def kindV (S : List UInt8) : Value := .agg #[.int .i64 (limOf S 0), .int .i64 (limOf S 1), .int .i64 (limOf S 2), .bool (hasTo S)]
def kindRet : Option (List UInt8) → Value
  | some S => .tuple #[kindV S, .bool true]
  | none => .tuple #[kindV [], .bool false]

set_option maxRecDepth 20000 in
set_option maxHeartbeats 4000000 in
theorem kindOf_any (op : ByteArray) (w : World) :
    Calls Tryz.prog 126 #[.string op] w fun e w' => e = .returned (kindRet (shape op.toList)) ∧ Below w.heap.size w w' := by
  cases h0 : (op.toList == [99, 111, 110, 115, 116])
  rotate_left
  · have hs : kindRet (shape op.toList) = .tuple #[.agg #[.int .i64 8, .int .i64 4294967296, .int .i64 0, .bool false], .bool true] := by
      rw [show shape op.toList = some [114, 118] by simp only [shape, h0, if_true]]; kernel_rfl
    rw [hs]
    go_enter Tryz.func126, Tryz.ntmps126
    go_wp2
    exact bodyPost_ret (v := .tuple #[.agg #[.int .i64 8, .int .i64 4294967296, .int .i64 0, .bool false], .bool true]) (by simp only [results, Tryz.results126]; go_simp) rfl ⟨rfl, (Below.refl _ _).alloc (Nat.le_refl _) _⟩
  cases h1 : (op.toList == [109, 111, 118, 101])
  rotate_left
  · have hs : kindRet (shape op.toList) = .tuple #[.agg #[.int .i64 8, .int .i64 8, .int .i64 0, .bool false], .bool true] := by
      rw [show shape op.toList = some [114, 114] by simp only [shape, h0, h1, Bool.false_eq_true, if_false, if_true]]; kernel_rfl
    rw [hs]
    go_enter Tryz.func126, Tryz.ntmps126
    go_wp2
    exact bodyPost_ret (v := .tuple #[.agg #[.int .i64 8, .int .i64 8, .int .i64 0, .bool false], .bool true]) (by simp only [results, Tryz.results126]; go_simp) rfl ⟨rfl, (Below.refl _ _).alloc (Nat.le_refl _) _⟩
  cases h2 : (op.toList == [97, 100, 100])
  rotate_left
  · have hs : kindRet (shape op.toList) = .tuple #[.agg #[.int .i64 8, .int .i64 8, .int .i64 8, .bool false], .bool true] := by
      rw [show shape op.toList = some [114, 114, 114] by simp only [shape, h0, h1, h2, Bool.false_eq_true, if_false, if_true]]; kernel_rfl
    rw [hs]
    go_enter Tryz.func126, Tryz.ntmps126
    go_wp2
    exact bodyPost_ret (v := .tuple #[.agg #[.int .i64 8, .int .i64 8, .int .i64 8, .bool false], .bool true]) (by simp only [results, Tryz.results126]; go_simp) rfl ⟨rfl, (Below.refl _ _).alloc (Nat.le_refl _) _⟩
  cases h3 : (op.toList == [115, 117, 98])
  rotate_left
  · have hs : kindRet (shape op.toList) = .tuple #[.agg #[.int .i64 8, .int .i64 8, .int .i64 8, .bool false], .bool true] := by
      rw [show shape op.toList = some [114, 114, 114] by simp only [shape, h0, h1, h2, h3, Bool.false_eq_true, if_false, if_true]]; kernel_rfl
    rw [hs]
    go_enter Tryz.func126, Tryz.ntmps126
    go_wp2
    exact bodyPost_ret (v := .tuple #[.agg #[.int .i64 8, .int .i64 8, .int .i64 8, .bool false], .bool true]) (by simp only [results, Tryz.results126]; go_simp) rfl ⟨rfl, (Below.refl _ _).alloc (Nat.le_refl _) _⟩
  cases h4 : (op.toList == [97, 110, 100])
  rotate_left
  · have hs : kindRet (shape op.toList) = .tuple #[.agg #[.int .i64 8, .int .i64 8, .int .i64 8, .bool false], .bool true] := by
      rw [show shape op.toList = some [114, 114, 114] by simp only [shape, h0, h1, h2, h3, h4, Bool.false_eq_true, if_false, if_true]]; kernel_rfl
    rw [hs]
    go_enter Tryz.func126, Tryz.ntmps126
    go_wp2
    exact bodyPost_ret (v := .tuple #[.agg #[.int .i64 8, .int .i64 8, .int .i64 8, .bool false], .bool true]) (by simp only [results, Tryz.results126]; go_simp) rfl ⟨rfl, (Below.refl _ _).alloc (Nat.le_refl _) _⟩
  cases h5 : (op.toList == [120, 111, 114])
  rotate_left
  · have hs : kindRet (shape op.toList) = .tuple #[.agg #[.int .i64 8, .int .i64 8, .int .i64 8, .bool false], .bool true] := by
      rw [show shape op.toList = some [114, 114, 114] by simp only [shape, h0, h1, h2, h3, h4, h5, Bool.false_eq_true, if_false, if_true]]; kernel_rfl
    rw [hs]
    go_enter Tryz.func126, Tryz.ntmps126
    go_wp2
    exact bodyPost_ret (v := .tuple #[.agg #[.int .i64 8, .int .i64 8, .int .i64 8, .bool false], .bool true]) (by simp only [results, Tryz.results126]; go_simp) rfl ⟨rfl, (Below.refl _ _).alloc (Nat.le_refl _) _⟩
  cases h6 : (op.toList == [108, 111, 97, 100])
  rotate_left
  · have hs : kindRet (shape op.toList) = .tuple #[.agg #[.int .i64 8, .int .i64 8, .int .i64 4, .bool false], .bool true] := by
      rw [show shape op.toList = some [114, 114, 119] by simp only [shape, h0, h1, h2, h3, h4, h5, h6, Bool.false_eq_true, if_false, if_true]]; kernel_rfl
    rw [hs]
    go_enter Tryz.func126, Tryz.ntmps126
    go_wp2
    exact bodyPost_ret (v := .tuple #[.agg #[.int .i64 8, .int .i64 8, .int .i64 4, .bool false], .bool true]) (by simp only [results, Tryz.results126]; go_simp) rfl ⟨rfl, (Below.refl _ _).alloc (Nat.le_refl _) _⟩
  cases h7 : (op.toList == [115, 116, 111, 114, 101])
  rotate_left
  · have hs : kindRet (shape op.toList) = .tuple #[.agg #[.int .i64 8, .int .i64 8, .int .i64 4, .bool false], .bool true] := by
      rw [show shape op.toList = some [114, 114, 119] by simp only [shape, h0, h1, h2, h3, h4, h5, h6, h7, Bool.false_eq_true, if_false, if_true]]; kernel_rfl
    rw [hs]
    go_enter Tryz.func126, Tryz.ntmps126
    go_wp2
    exact bodyPost_ret (v := .tuple #[.agg #[.int .i64 8, .int .i64 8, .int .i64 4, .bool false], .bool true]) (by simp only [results, Tryz.results126]; go_simp) rfl ⟨rfl, (Below.refl _ _).alloc (Nat.le_refl _) _⟩
  cases h8 : (op.toList == [115, 119, 97, 112])
  rotate_left
  · have hs : kindRet (shape op.toList) = .tuple #[.agg #[.int .i64 8, .int .i64 8, .int .i64 4, .bool false], .bool true] := by
      rw [show shape op.toList = some [114, 114, 119] by simp only [shape, h0, h1, h2, h3, h4, h5, h6, h7, h8, Bool.false_eq_true, if_false, if_true]]; kernel_rfl
    rw [hs]
    go_enter Tryz.func126, Tryz.ntmps126
    go_wp2
    exact bodyPost_ret (v := .tuple #[.agg #[.int .i64 8, .int .i64 8, .int .i64 4, .bool false], .bool true]) (by simp only [results, Tryz.results126]; go_simp) rfl ⟨rfl, (Below.refl _ _).alloc (Nat.le_refl _) _⟩
  cases h9 : (op.toList == [99, 97, 115])
  rotate_left
  · have hs : kindRet (shape op.toList) = .tuple #[.agg #[.int .i64 8, .int .i64 7, .int .i64 4, .bool false], .bool true] := by
      rw [show shape op.toList = some [114, 115, 119] by simp only [shape, h0, h1, h2, h3, h4, h5, h6, h7, h8, h9, Bool.false_eq_true, if_false, if_true]]; kernel_rfl
    rw [hs]
    go_enter Tryz.func126, Tryz.ntmps126
    go_wp2
    exact bodyPost_ret (v := .tuple #[.agg #[.int .i64 8, .int .i64 7, .int .i64 4, .bool false], .bool true]) (by simp only [results, Tryz.results126]; go_simp) rfl ⟨rfl, (Below.refl _ _).alloc (Nat.le_refl _) _⟩
  cases h10 : (op.toList == [97, 108, 108, 111, 99])
  rotate_left
  · have hs : kindRet (shape op.toList) = .tuple #[.agg #[.int .i64 8, .int .i64 0, .int .i64 0, .bool false], .bool true] := by
      rw [show shape op.toList = some [114] by simp only [shape, h0, h1, h2, h3, h4, h5, h6, h7, h8, h9, h10, Bool.false_eq_true, if_false, if_true]]; kernel_rfl
    rw [hs]
    go_enter Tryz.func126, Tryz.ntmps126
    go_wp2
    exact bodyPost_ret (v := .tuple #[.agg #[.int .i64 8, .int .i64 0, .int .i64 0, .bool false], .bool true]) (by simp only [results, Tryz.results126]; go_simp) rfl ⟨rfl, (Below.refl _ _).alloc (Nat.le_refl _) _⟩
  cases h11 : (op.toList == [102, 114, 101, 101])
  rotate_left
  · have hs : kindRet (shape op.toList) = .tuple #[.agg #[.int .i64 8, .int .i64 0, .int .i64 0, .bool false], .bool true] := by
      rw [show shape op.toList = some [114] by simp only [shape, h0, h1, h2, h3, h4, h5, h6, h7, h8, h9, h10, h11, Bool.false_eq_true, if_false, if_true]]; kernel_rfl
    rw [hs]
    go_enter Tryz.func126, Tryz.ntmps126
    go_wp2
    exact bodyPost_ret (v := .tuple #[.agg #[.int .i64 8, .int .i64 0, .int .i64 0, .bool false], .bool true]) (by simp only [results, Tryz.results126]; go_simp) rfl ⟨rfl, (Below.refl _ _).alloc (Nat.le_refl _) _⟩
  cases h12 : (op.toList == [109, 97, 114, 107])
  rotate_left
  · have hs : kindRet (shape op.toList) = .tuple #[.agg #[.int .i64 8, .int .i64 0, .int .i64 0, .bool false], .bool true] := by
      rw [show shape op.toList = some [114] by simp only [shape, h0, h1, h2, h3, h4, h5, h6, h7, h8, h9, h10, h11, h12, Bool.false_eq_true, if_false, if_true]]; kernel_rfl
    rw [hs]
    go_enter Tryz.func126, Tryz.ntmps126
    go_wp2
    exact bodyPost_ret (v := .tuple #[.agg #[.int .i64 8, .int .i64 0, .int .i64 0, .bool false], .bool true]) (by simp only [results, Tryz.results126]; go_simp) rfl ⟨rfl, (Below.refl _ _).alloc (Nat.le_refl _) _⟩
  cases h13 : (op.toList == [110, 101, 101, 100])
  rotate_left
  · have hs : kindRet (shape op.toList) = .tuple #[.agg #[.int .i64 8, .int .i64 0, .int .i64 0, .bool false], .bool true] := by
      rw [show shape op.toList = some [114] by simp only [shape, h0, h1, h2, h3, h4, h5, h6, h7, h8, h9, h10, h11, h12, h13, Bool.false_eq_true, if_false, if_true]]; kernel_rfl
    rw [hs]
    go_enter Tryz.func126, Tryz.ntmps126
    go_wp2
    exact bodyPost_ret (v := .tuple #[.agg #[.int .i64 8, .int .i64 0, .int .i64 0, .bool false], .bool true]) (by simp only [results, Tryz.results126]; go_simp) rfl ⟨rfl, (Below.refl _ _).alloc (Nat.le_refl _) _⟩
  cases h14 : (op.toList == [102, 101, 110, 99, 101])
  rotate_left
  · have hs : kindRet (shape op.toList) = .tuple #[.agg #[.int .i64 0, .int .i64 0, .int .i64 0, .bool false], .bool true] := by
      rw [show shape op.toList = some [] by simp only [shape, h0, h1, h2, h3, h4, h5, h6, h7, h8, h9, h10, h11, h12, h13, h14, Bool.false_eq_true, if_false, if_true]]; kernel_rfl
    rw [hs]
    go_enter Tryz.func126, Tryz.ntmps126
    go_wp2
    exact bodyPost_ret (v := .tuple #[.agg #[.int .i64 0, .int .i64 0, .int .i64 0, .bool false], .bool true]) (by simp only [results, Tryz.results126]; go_simp) rfl ⟨rfl, (Below.refl _ _).alloc (Nat.le_refl _) _⟩
  cases h15 : (op.toList == [102, 111, 114, 99, 101])
  rotate_left
  · have hs : kindRet (shape op.toList) = .tuple #[.agg #[.int .i64 0, .int .i64 0, .int .i64 0, .bool false], .bool true] := by
      rw [show shape op.toList = some [] by simp only [shape, h0, h1, h2, h3, h4, h5, h6, h7, h8, h9, h10, h11, h12, h13, h14, h15, Bool.false_eq_true, if_false, if_true]]; kernel_rfl
    rw [hs]
    go_enter Tryz.func126, Tryz.ntmps126
    go_wp2
    exact bodyPost_ret (v := .tuple #[.agg #[.int .i64 0, .int .i64 0, .int .i64 0, .bool false], .bool true]) (by simp only [results, Tryz.results126]; go_simp) rfl ⟨rfl, (Below.refl _ _).alloc (Nat.le_refl _) _⟩
  cases h16 : (op.toList == [115, 116, 111, 112])
  rotate_left
  · have hs : kindRet (shape op.toList) = .tuple #[.agg #[.int .i64 0, .int .i64 0, .int .i64 0, .bool false], .bool true] := by
      rw [show shape op.toList = some [] by simp only [shape, h0, h1, h2, h3, h4, h5, h6, h7, h8, h9, h10, h11, h12, h13, h14, h15, h16, Bool.false_eq_true, if_false, if_true]]; kernel_rfl
    rw [hs]
    go_enter Tryz.func126, Tryz.ntmps126
    go_wp2
    exact bodyPost_ret (v := .tuple #[.agg #[.int .i64 0, .int .i64 0, .int .i64 0, .bool false], .bool true]) (by simp only [results, Tryz.results126]; go_simp) rfl ⟨rfl, (Below.refl _ _).alloc (Nat.le_refl _) _⟩
  cases h17 : (op.toList == [122, 101, 114, 111])
  rotate_left
  · have hs : kindRet (shape op.toList) = .tuple #[.agg #[.int .i64 8, .int .i64 0, .int .i64 0, .bool true], .bool true] := by
      rw [show shape op.toList = some [114, 108] by simp only [shape, h0, h1, h2, h3, h4, h5, h6, h7, h8, h9, h10, h11, h12, h13, h14, h15, h16, h17, Bool.false_eq_true, if_false, if_true]]; kernel_rfl
    rw [hs]
    go_enter Tryz.func126, Tryz.ntmps126
    go_wp2
    exact bodyPost_ret (v := .tuple #[.agg #[.int .i64 8, .int .i64 0, .int .i64 0, .bool true], .bool true]) (by simp only [results, Tryz.results126]; go_simp) rfl ⟨rfl, (Below.refl _ _).alloc (Nat.le_refl _) _⟩
  cases h18 : (op.toList == [115, 97, 109, 101])
  rotate_left
  · have hs : kindRet (shape op.toList) = .tuple #[.agg #[.int .i64 8, .int .i64 8, .int .i64 0, .bool true], .bool true] := by
      rw [show shape op.toList = some [114, 114, 108] by simp only [shape, h0, h1, h2, h3, h4, h5, h6, h7, h8, h9, h10, h11, h12, h13, h14, h15, h16, h17, h18, Bool.false_eq_true, if_false, if_true]]; kernel_rfl
    rw [hs]
    go_enter Tryz.func126, Tryz.ntmps126
    go_wp2
    exact bodyPost_ret (v := .tuple #[.agg #[.int .i64 8, .int .i64 8, .int .i64 0, .bool true], .bool true]) (by simp only [results, Tryz.results126]; go_simp) rfl ⟨rfl, (Below.refl _ _).alloc (Nat.le_refl _) _⟩
  cases h19 : (op.toList == [103, 111, 116, 111])
  rotate_left
  · have hs : kindRet (shape op.toList) = .tuple #[.agg #[.int .i64 0, .int .i64 0, .int .i64 0, .bool true], .bool true] := by
      rw [show shape op.toList = some [108] by simp only [shape, h0, h1, h2, h3, h4, h5, h6, h7, h8, h9, h10, h11, h12, h13, h14, h15, h16, h17, h18, h19, Bool.false_eq_true, if_false, if_true]]; kernel_rfl
    rw [hs]
    go_enter Tryz.func126, Tryz.ntmps126
    go_wp2
    exact bodyPost_ret (v := .tuple #[.agg #[.int .i64 0, .int .i64 0, .int .i64 0, .bool true], .bool true]) (by simp only [results, Tryz.results126]; go_simp) rfl ⟨rfl, (Below.refl _ _).alloc (Nat.le_refl _) _⟩
  cases h20 : (op.toList == [108, 97, 98, 101, 108])
  rotate_left
  · have hs : kindRet (shape op.toList) = .tuple #[.agg #[.int .i64 0, .int .i64 0, .int .i64 0, .bool true], .bool true] := by
      rw [show shape op.toList = some [108] by simp only [shape, h0, h1, h2, h3, h4, h5, h6, h7, h8, h9, h10, h11, h12, h13, h14, h15, h16, h17, h18, h19, h20, Bool.false_eq_true, if_false, if_true]]; kernel_rfl
    rw [hs]
    go_enter Tryz.func126, Tryz.ntmps126
    go_wp2
    exact bodyPost_ret (v := .tuple #[.agg #[.int .i64 0, .int .i64 0, .int .i64 0, .bool true], .bool true]) (by simp only [results, Tryz.results126]; go_simp) rfl ⟨rfl, (Below.refl _ _).alloc (Nat.le_refl _) _⟩
  have hs : kindRet (shape op.toList) = .tuple #[.agg #[.int .i64 0, .int .i64 0, .int .i64 0, .bool false], .bool false] := by
    rw [show shape op.toList = none by simp only [shape, h0, h1, h2, h3, h4, h5, h6, h7, h8, h9, h10, h11, h12, h13, h14, h15, h16, h17, h18, h19, h20, Bool.false_eq_true, if_false]]; kernel_rfl
  rw [hs]
  go_enter Tryz.func126, Tryz.ntmps126
  go_wp2
  exact bodyPost_ret (v := .tuple #[.agg #[.int .i64 0, .int .i64 0, .int .i64 0, .bool false], .bool false]) (by simp only [results, Tryz.results126]; go_simp) rfl ⟨rfl, (Below.refl _ _).alloc (Nat.le_refl _) _⟩
end Go.Proofs.YtdpmnlbnlnmjbaaGreatDoor

/- ProgB -/
namespace Go.Proofs.YtdpmnlbnlnmjbaaGreatDoor
open Go.RowKit Go.Extern.Stop Go.Stop Go.Extern

theorem pnumbers_any (x : Ins) (w : World) :
    Calls Tryz.prog 146 #[.agg #[.string x.op, .int .i64 x.a, .int .i64 x.b, .int .i64 x.c, .string x.to]] w fun e w' => e = .returned (.agg #[.int .i64 x.a, .int .i64 x.b, .int .i64 x.c]) ∧ Below w.heap.size w w' := by
  go_enter Tryz.func146, Tryz.ntmps146
  go_wp2
  exact bodyPost_ret (v := .agg #[.int .i64 x.a, .int .i64 x.b, .int .i64 x.c]) (by simp only [results, Tryz.results146]; go_simp) rfl ⟨rfl, ((Below.refl _ _).alloc (Nat.le_refl _) _).alloc (by simp) _⟩

def one (l : Int) : Int := if 0 < l then 1 else 0


set_option maxRecDepth 20000 in
set_option maxHeartbeats 2000000 in
theorem fits_any (l0 l1 l2 : Int) (t : Bool) (x : Ins) (w : World) :
    Calls Tryz.prog 127 #[.agg #[.int .i64 l0, .int .i64 l1, .int .i64 l2, .bool t], .agg #[.string x.op, .int .i64 x.a, .int .i64 x.b, .int .i64 x.c, .string x.to]] w fun e w' => e = .returned (.bool (decide ((l0 = 0 → x.a = 0) ∧ (l1 = 0 → x.b = 0) ∧ (l2 = 0 → x.c = 0) ∧ (t = false → x.to.toList = [])))) ∧ Below w.heap.size w w' := by
  have HN : Hid (∀ w', Calls Tryz.prog 146 #[.agg #[.string x.op, .int .i64 x.a, .int .i64 x.b, .int .i64 x.c, .string x.to]] w' fun e w'' => e = .returned (.agg #[.int .i64 x.a, .int .i64 x.b, .int .i64 x.c]) ∧ Below w'.heap.size w' w'') := fun w' => pnumbers_any x w'
  have i0 : ∀ w, (Instr.index 234 (.agg #[.int .i64 x.a, .int .i64 x.b, .int .i64 x.c]) (.int .i64 0)).run Tryz.prog w = .ok (.int .i64 x.a) w := fun _ => by kernel_rfl
  have i1 : ∀ w, (Instr.index 234 (.agg #[.int .i64 x.a, .int .i64 x.b, .int .i64 x.c]) (.int .i64 1)).run Tryz.prog w = .ok (.int .i64 x.b) w := fun _ => by kernel_rfl
  have i2 : ∀ w, (Instr.index 234 (.agg #[.int .i64 x.a, .int .i64 x.b, .int .i64 x.c]) (.int .i64 2)).run Tryz.prog w = .ok (.int .i64 x.c) w := fun _ => by kernel_rfl
  obtain ⟨W, hW⟩ : ∃ W, W = (w.alloc (.cells #[.int .i64 l0, .int .i64 l1, .int .i64 l2, .bool t] 236)).alloc (.cells #[.string x.op, .int .i64 x.a, .int .i64 x.b, .int .i64 x.c, .string x.to] 75) := ⟨_, rfl⟩
  have hba : Below w.heap.size w W := by rw [hW]; exact ((Below.refl _ _).alloc (Nat.le_refl _) _).alloc (by simp) _
  have k0 : W.cell? ⟨w.heap.size, 0, none⟩ = some (.int .i64 l0) := by rw [hW]; simp
  have k1 : W.cell? ⟨w.heap.size, 1, none⟩ = some (.int .i64 l1) := by rw [hW]; simp
  have k2 : W.cell? ⟨w.heap.size, 2, none⟩ = some (.int .i64 l2) := by rw [hW]; simp
  have k3 : W.cell? ⟨w.heap.size, 3, none⟩ = some (.bool t) := by rw [hW]; simp
  have q4 : W.cell? ⟨w.heap.size + 1, 4, none⟩ = some (.string x.to) := by rw [hW]; simp
  cases hto : (x.to.toList == [])
  all_goals
    have HT : Hid ((x.to.toList == []) = _) := hto
    cases t
    all_goals
      go_enter Tryz.func127, Tryz.ntmps127
      go_wp2_with fail
      rw [← hW]
      refine (HN.out _).mono ?_
      rintro e w1 ⟨rfl, hb1⟩
      replace k0 := keep_cell hb1 k0
      replace k1 := keep_cell hb1 k1
      replace k2 := keep_cell hb1 k2
      replace k3 := keep_cell hb1 k3
      replace q4 := keep_cell hb1 q4
      have B1 := hide (below_step hba hb1)
      clear hW hba hb1 HN
      go_wp2_with fail
      refine wp_loop_rounds 4 ?_
      rw [rounds_succ]
      go_wp2
      all_goals try (rw [rounds_succ]; go_wp2)
      all_goals try (rw [rounds_succ]; go_wp2)
      all_goals try (rw [rounds_succ]; go_wp2)
      all_goals try go_ret
      all_goals
        refine ⟨?_, B1.out⟩
        have hto' := HT.out
        clear i0 i1 i2 k0 k1 k2 k3 q4 B1 HT
        refine congrArg (fun z => Ending.returned (.bool z)) ?_
        symm
        simp_all

set_option maxRecDepth 20000 in
set_option maxHeartbeats 4000000 in
theorem within_any (l0 l1 l2 : Int) (t : Bool) (x : Ins) (w : World) :
    Calls Tryz.prog 128 #[.agg #[.int .i64 l0, .int .i64 l1, .int .i64 l2, .bool t], .agg #[.string x.op, .int .i64 x.a, .int .i64 x.b, .int .i64 x.c, .string x.to]] w fun e w' => e = .returned (.bool (decide ((0 < l0 → 0 ≤ x.a ∧ x.a < l0) ∧ (0 < l1 → 0 ≤ x.b ∧ x.b < l1) ∧ (0 < l2 → 0 ≤ x.c ∧ x.c < l2)))) ∧ Below w.heap.size w w' := by
  have HN : Hid (∀ w', Calls Tryz.prog 146 #[.agg #[.string x.op, .int .i64 x.a, .int .i64 x.b, .int .i64 x.c, .string x.to]] w' fun e w'' => e = .returned (.agg #[.int .i64 x.a, .int .i64 x.b, .int .i64 x.c]) ∧ Below w'.heap.size w' w'') := fun w' => pnumbers_any x w'
  have i0 : ∀ w, (Instr.index 234 (.agg #[.int .i64 x.a, .int .i64 x.b, .int .i64 x.c]) (.int .i64 0)).run Tryz.prog w = .ok (.int .i64 x.a) w := fun _ => by kernel_rfl
  have i1 : ∀ w, (Instr.index 234 (.agg #[.int .i64 x.a, .int .i64 x.b, .int .i64 x.c]) (.int .i64 1)).run Tryz.prog w = .ok (.int .i64 x.b) w := fun _ => by kernel_rfl
  have i2 : ∀ w, (Instr.index 234 (.agg #[.int .i64 x.a, .int .i64 x.b, .int .i64 x.c]) (.int .i64 2)).run Tryz.prog w = .ok (.int .i64 x.c) w := fun _ => by kernel_rfl
  obtain ⟨W, hW⟩ : ∃ W, W = (w.alloc (.cells #[.int .i64 l0, .int .i64 l1, .int .i64 l2, .bool t] 236)).alloc (.cells #[.string x.op, .int .i64 x.a, .int .i64 x.b, .int .i64 x.c, .string x.to] 75) := ⟨_, rfl⟩
  have hba : Below w.heap.size w W := by rw [hW]; exact ((Below.refl _ _).alloc (Nat.le_refl _) _).alloc (by simp) _
  have k0 : W.cell? ⟨w.heap.size, 0, none⟩ = some (.int .i64 l0) := by rw [hW]; simp
  have k1 : W.cell? ⟨w.heap.size, 1, none⟩ = some (.int .i64 l1) := by rw [hW]; simp
  have k2 : W.cell? ⟨w.heap.size, 2, none⟩ = some (.int .i64 l2) := by rw [hW]; simp
  have k3 : W.cell? ⟨w.heap.size, 3, none⟩ = some (.bool t) := by rw [hW]; simp
  have q4 : W.cell? ⟨w.heap.size + 1, 4, none⟩ = some (.string x.to) := by rw [hW]; simp
  go_enter Tryz.func128, Tryz.ntmps128
  go_wp2_with fail
  rw [← hW]
  refine (HN.out _).mono ?_
  rintro e w1 ⟨rfl, hb1⟩
  replace k0 := keep_cell hb1 k0
  replace k1 := keep_cell hb1 k1
  replace k2 := keep_cell hb1 k2
  replace k3 := keep_cell hb1 k3
  replace q4 := keep_cell hb1 q4
  have B1 := hide (below_step hba hb1)
  clear hW hba hb1 HN
  go_wp2_with fail
  refine wp_loop_rounds 4 ?_
  rw [rounds_succ]
  go_wp2
  all_goals try (rw [rounds_succ]; go_wp2)
  all_goals try (rw [rounds_succ]; go_wp2)
  all_goals try (rw [rounds_succ]; go_wp2)
  all_goals try go_ret
  all_goals
    refine ⟨?_, B1.out⟩
    clear i0 i1 i2 k0 k1 k2 k3 q4 B1
    refine congrArg (fun z => Ending.returned (.bool z)) ?_
    symm
    first
      | (rw [decide_eq_true_iff]; omega)
      | (rw [decide_eq_false_iff_not]; omega)
      | (rw [Bool.eq_false_iff]; simp only [ne_eq, Bool.and_eq_true, Bool.or_eq_true, Bool.not_eq_true', decide_eq_true_eq, decide_eq_false_iff_not]; omega)

end Go.Proofs.YtdpmnlbnlnmjbaaGreatDoor
