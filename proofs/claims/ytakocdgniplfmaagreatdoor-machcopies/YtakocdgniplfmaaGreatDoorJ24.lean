import Derived.Test.YtakocdgniplfmaaGreatDoorJ23
import Derived.Laws.Rows

/- MemN -/
namespace Go.Proofs.YtakocdgniplfmaaGreatDoor
open Go.RowKit Go.Extern.Stop Go.Stop Go.Extern Go.Sort

/-- The three variables and the list of two that Cas lays. -/
abbrev casW (w : World) (c g old v : Int) : World := (((w.alloc (.cells #[.int .i64 c, .int .i64 g] 95)).alloc (.cells #[.int .i64 old] 3)).alloc (.cells #[.int .i64 v] 3)).alloc (.cells #[.int .i64 old, .int .i64 v] 3)
theorem casW_below (w : World) (c g old v : Int) : Below w.heap.size w (casW w c g old v) := (((box_below c g w).alloc (by simp) _).alloc (by simp; omega) _).alloc (by simp; omega) _

theorem casW_cells (w : World) (c g old v : Int) : (casW w c g old v).cell? ⟨w.heap.size, 0, none⟩ = some (.int .i64 c) ∧ (casW w c g old v).cell? ⟨w.heap.size, 1, none⟩ = some (.int .i64 g) ∧ (casW w c g old v).cell? ⟨w.heap.size + 1, 0, none⟩ = some (.int .i64 old) ∧ (casW w c g old v).cell? ⟨w.heap.size + 1 + 1, 0, none⟩ = some (.int .i64 v) ∧ ∀ j, j < [old, v].length → (casW w c g old v).cell? ⟨w.heap.size + 1 + 1 + 1, j, none⟩ = some (.int .i64 ([old, v].getD j 0)) := by
  refine ⟨by go_simp, by go_simp, by go_simp, by go_simp, fun j hj => ?_⟩
  match j, hj with
  | 0, _ => go_simp
  | 1, _ => go_simp

theorem Ar.chk_two_ok {s : Ar} {c g k old v : Int} (h : s.has c g = true) (hk : 0 ≤ k ∧ k < 4) (ho : 0 ≤ old ∧ old < 4294967296) (hv : 0 ≤ v ∧ v < 4294967296) : s.chk c g k [old, v] = 0 := by
  unfold Ar.chk; rw [if_pos (Ar.at_ok h hk), if_pos]; simp [isW]; exact ⟨ho, hv⟩

theorem mcas_err (a : Nat → Addr) (b : Nat) (s : Rm) (t c g k old v : Int) (w : World) (hE : EnvM a w) (h : MmAt b s w) (he : s.may t c g k [old, v] ≠ 0) :
    Calls Tryz.prog 140 #[.pointer (some ⟨b, 0, none⟩), .int .i64 t, .agg #[.int .i64 c, .int .i64 g], .int .i64 k, .int .i64 old, .int .i64 v] w fun e w' => e = .returned (.tuple #[.int .i64 0, errVal a (s.may t c g k [old, v])]) ∧ Below w.heap.size w w' := by
  have hba := casW_below w c g old v
  obtain ⟨-, -, -, -, hj⟩ := casW_cells w c g old v
  have HR := mready_err a (s.may t c g k [old, v] - 1) b t c g k (.slice (some ⟨w.heap.size + 1 + 1 + 1, 0, none⟩) 2 2) (casW w c g old v) (fun w' hb => by
    rw [← errVal_ne a _ he]
    exact allow_list a b s t c g k (w.heap.size + 1 + 1 + 1) 2 [old, v] (by simp) w' (hE.below (below_step hba hb).block) (h.below (below_step hba hb)) (fun j h => keep_cell hb (hj j h)))
  rw [errVal_ne a _ he]
  generalize s.may t c g k [old, v] - 1 = n at *
  clear h he hj
  go_enter Tryz.func140, Tryz.ntmps140
  go_wp2_with fail
  refine HR.mono ?_
  rintro e0 w2 ⟨rfl, hb2⟩
  have B2 := below_step hba hb2
  clear HR hb2 hba
  go_wp2
  go_ret2
  exact ⟨rfl, B2⟩

theorem mcas_gone (a : Nat → Addr) (B b : Nat) (s : Rm) (t : Nat) (c g k old v : Int) (w : World) (hE : EnvB a B w) (hB : B ≤ b) (h : MmAt b s w) (ht : t < s.threads) (hx : ∀ x ∈ s.waits t, x.Ok) (he : s.may t c g k [old, v] = 0) (hg : 0 < s.gone t (s.waits t)) :
    Calls Tryz.prog 140 #[.pointer (some ⟨b, 0, none⟩), .int .i64 t, .agg #[.int .i64 c, .int .i64 g], .int .i64 k, .int .i64 old, .int .i64 v] w fun e w' => e = .returned (.tuple #[.int .i64 0, errAt (a 6)]) ∧ MmStep b w (s.drainAll t (s.waits t)) w' := by
  have hba := casW_below w c g old v
  obtain ⟨-, -, -, -, hj⟩ := casW_cells w c g old v
  have HR := mready_ok a B b s t c g k (.slice (some ⟨w.heap.size + 1 + 1 + 1, 0, none⟩) 2 2) (casW w c g old v) (hE.below hba) hB (h.below hba) ht hx (fun w' hb => by
    have := allow_list a b s t c g k (w.heap.size + 1 + 1 + 1) 2 [old, v] (by simp) w' (hE.env.below (below_step hba hb).block) (h.below (below_step hba hb)) (fun j h => keep_cell hb (hj j h))
    rw [he] at this
    exact this)
  rw [decide_eq_true hg, show errVal a (fenceNum true) = errAt (a 6) from rfl] at HR
  generalize s.drainAll t (s.waits t) = D at *
  clear h he hx hE hj
  go_enter Tryz.func140, Tryz.ntmps140
  go_wp2_with fail
  refine HR.mono ?_
  rintro e0 w2 ⟨rfl, h2⟩
  have H2 := MmStep.of_below hba h2
  clear HR h2 hba
  go_wp2
  go_ret2
  exact ⟨rfl, H2⟩

set_option maxRecDepth 20000 in
set_option maxHeartbeats 1000000 in
theorem mcas_ok (a : Nat → Addr) (B b : Nat) (s : Rm) (t n m : Nat) (g old v : Int) (w : World) (hE : EnvB a B w) (hB : B ≤ b) (h : MmAt b s w) (ht : t < s.threads) (hx : ∀ x ∈ s.waits t, x.Ok) (hn : n < 64) (hm : m < 4) (hh : s.ar.has n g = true) (ho : 0 ≤ old ∧ old < 4294967296) (hv : 0 ≤ v ∧ v < 4294967296) (hg : ¬ 0 < s.gone t (s.waits t)) :
    Calls Tryz.prog 140 #[.pointer (some ⟨b, 0, none⟩), .int .i64 t, .agg #[.int .i64 n, .int .i64 g], .int .i64 m, .int .i64 old, .int .i64 v] w fun e w' => e = .returned (.tuple #[.int .i64 ((s.drainAll t (s.waits t)).ar.words n m), .nilIface]) ∧ MmStep b w ((s.drainAll t (s.waits t)).setWord n m (casVal ((s.drainAll t (s.waits t)).ar.words n m) old v)) w' := by
  have hba := casW_below w n g old v
  have hl := h.lt
  obtain ⟨q0, q1, q2, q3, hj⟩ := casW_cells w n g old v
  have he : s.may t n g m [old, v] = 0 := by rw [Rm.may_yes ht, Ar.chk_two_ok hh (by omega) ho hv]
  have HR := mready_ok a B b s t n g m (.slice (some ⟨w.heap.size + 1 + 1 + 1, 0, none⟩) 2 2) (casW w n g old v) (hE.below hba) hB (h.below hba) ht hx (fun w' hb => by
    have := allow_list a b s t n g m (w.heap.size + 1 + 1 + 1) 2 [old, v] (by simp) w' (hE.env.below (below_step hba hb).block) (h.below (below_step hba hb)) (fun j h => keep_cell hb (hj j h))
    rw [he] at this
    exact this)
  rw [decide_eq_false hg, show errVal a (fenceNum false) = .nilIface from rfl] at HR
  have hh' : (s.drainAll t (s.waits t)).ar.has n g = true := by rw [Rm.drainAll_has]; exact hh
  generalize s.drainAll t (s.waits t) = D at *
  have HX : Hid (∀ w', MmStep b w D w' → w'.cell? ⟨w.heap.size + 1, 0, none⟩ = some (.int .i64 old) → w'.cell? ⟨w.heap.size + 1 + 1, 0, none⟩ = some (.int .i64 v) → Calls Tryz.prog 107 #[.pointer (some ⟨b, 0, none⟩), .agg #[.int .i64 n, .int .i64 g], .int .i64 m, .func (.func 153) #[] #[.pointer (some ⟨w.heap.size + 1, 0, none⟩), .pointer (some ⟨w.heap.size + 1 + 1, 0, none⟩)]] w' fun e w'' => e = .returned (.tuple #[.int .i64 (D.ar.words n m), .nilIface]) ∧ MmStep b w (D.setWord n m (casVal (D.ar.words n m) old v)) w'') := fun w' hs hc1 hc =>
    (xcas_any a B b D n m g old v (w.heap.size + 1) (w.heap.size + 1 + 1) w' (hE.step hB hs) hs.at' hn hh' hm hv hc1 hc).mono fun _ _ ⟨e1, e2⟩ => ⟨e1, hs.trans e2⟩
  generalize casVal (D.ar.words n m) old v = r at *
  generalize D.ar.words n m = was at *
  have hmf : ∀ (fn : Fn) (first cap : Array Value) (w : World), (Instr.makeFunc fn first cap).run Tryz.prog w = .ok (.func fn first cap) w := fun _ _ _ _ => rfl
  clear h he hx hE hj hh hh' hv ho
  go_enter Tryz.func140, Tryz.ntmps140
  go_wp2_with fail
  refine HR.mono ?_
  rintro e0 w2 ⟨rfl, h2⟩
  have H2 := MmStep.of_below hba h2
  replace q0 := h2.turns.keep q0 (by omega)
  replace q1 := h2.turns.keep q1 (by omega)
  replace q2 := h2.turns.keep q2 (by omega)
  replace q3 := h2.turns.keep q3 (by omega)
  have HX2 := HX.out w2 H2 q2 q3
  clear HR h2 hba HX H2
  go_wp2_with fail
  refine HX2.mono ?_
  rintro e1 w3 ⟨rfl, H3⟩
  go_wp2
  go_ret2
  exact ⟨rfl, H3⟩
end Go.Proofs.YtakocdgniplfmaaGreatDoor

/- MemO -/
namespace Go.Proofs.YtakocdgniplfmaaGreatDoor
open Go.RowKit Go.Extern.Stop Go.Stop Go.Extern Go.Sort

theorem mnew_cells (a : Nat → Addr) (c t : Int) (w : World) (hE : EnvM a w) (hc : ¬ (1 ≤ c ∧ c ≤ 64)) :
    Calls Tryz.prog 35 #[.int .i64 c, .int .i64 t] w fun e w' => e = .returned (.tuple #[.pointer none, errAt (a 1)]) ∧ Below w.heap.size w w' := by
  have HN := new_bad a c w hE hc
  clear hc hE
  go_enter Tryz.func35, Tryz.ntmps35
  go_wp2_with fail
  refine HN.mono ?_
  rintro e0 w1 ⟨rfl, hb1⟩
  go_wp2
  go_ret2
  exact ⟨rfl, hb1⟩

theorem mnew_threads (a : Nat → Addr) (c : Nat) (t : Int) (w : World) (hE : EnvM a w) (h1 : 1 ≤ c) (h2 : c ≤ 64) (ht : ¬ (1 ≤ t ∧ t ≤ 6)) :
    Calls Tryz.prog 35 #[.int .i64 c, .int .i64 t] w fun e w' => e = .returned (.tuple #[.pointer none, errAt (a 1)]) ∧ Below w.heap.size w w' := by
  have HN := new_ok c w h1 h2
  have HC : Hid (∀ w', Below w.heap.size w w' → w'.cell? ⟨0, 0, none⟩ = some (errAt (a 1))) := fun w' hb => (hE.below hb.block).cell 1 (by decide)
  clear hE
  by_cases t1 : t < 1
  · clear ht
    go_enter Tryz.func35, Tryz.ntmps35
    go_wp2_with fail
    refine HN.mono ?_
    rintro e0 w1 ⟨rfl, -, hb1⟩
    have c1 := HC.out w1 hb1
    go_wp2
    go_quiet (fail)
    go_wp2
    go_ret2
    exact ⟨rfl, below_dN hb1 _⟩
  · have t6 : 6 < t := by omega
    clear ht
    go_enter Tryz.func35, Tryz.ntmps35
    go_wp2_with fail
    refine HN.mono ?_
    rintro e0 w1 ⟨rfl, -, hb1⟩
    have c1 := HC.out w1 hb1
    go_wp2
    go_quiet (fail)
    go_wp2
    go_ret2
    exact ⟨rfl, below_dN hb1 _⟩

theorem new_exact (c : Nat) (w : World) (h1 : 1 ≤ c) (h2 : c ≤ 64) :
    Calls Tryz.prog 72 #[.int .i64 c] w fun e w' => e = .returned (.tuple #[.pointer (some ⟨w.heap.size, 0, none⟩), .nilIface]) ∧ w' = w.alloc (.cells (Tryz.zeroCells93.setIfInBounds 0 (.int .i64 c)) 93) := by
  have i1 : 1 ≤ (c : Int) := by omega
  have i2 : (c : Int) ≤ 64 := by omega
  go_enter Tryz.func72, Tryz.ntmps72
  go_wp2
  go_ret2
  exact ⟨rfl, rfl⟩

theorem zeroM : Tryz.zeroCells103 = ((.int .i64 0 :: List.replicate 256 (.int .u32 0)) ++ List.replicate 64 (.bool false) ++ List.replicate 263 (.int .i64 0) : List Value).toArray := by kernel_rfl
theorem zeroM_size : Tryz.zeroCells103.size = 584 := by
  rw [zeroM, List.size_toArray, rows_len]
theorem zeroM_word (k : Nat) (h1 : 1 ≤ k) (h2 : k < 257) : Tryz.zeroCells103[k]? = some (.int .u32 0) := by
  rw [zeroM, List.getElem?_toArray, rows_a _ _ _ _ 256 64 263 k h1 h2]
theorem zeroM_there (k : Nat) (h1 : 257 ≤ k) (h2 : k < 321) : Tryz.zeroCells103[k]? = some (.bool false) := by
  rw [zeroM, List.getElem?_toArray, rows_b _ _ _ _ 256 64 263 k h1 h2]
theorem zeroM_rest (k : Nat) (h1 : 321 ≤ k) (h2 : k < 584) : Tryz.zeroCells103[k]? = some (.int .i64 0) := by
  rw [zeroM, List.getElem?_toArray, rows_c _ _ _ _ 256 64 263 k h1 h2]

set_option maxRecDepth 100000 in
theorem built_new (c t : Int) : Tryz.prog.built 103 [(0, .agg (Tryz.zeroCells93.setIfInBounds 0 (.int .i64 c))), (1, .int .i64 t)] = some ((Tryz.zeroCells103.setIfInBounds 0 (.int .i64 c)).setIfInBounds 385 (.int .i64 t)) := by kernel_rfl

/-- The cells of a new memory. -/
theorem new_made (c t : Int) : ∃ N : Array Value, Tryz.prog.built 103 [(0, .agg (Tryz.zeroCells93.setIfInBounds 0 (.int .i64 c))), (1, .int .i64 t)] = some N ∧ N[0]? = some (.int .i64 c) ∧ N[385]? = some (.int .i64 t) ∧ ∀ k, k ≠ 0 → k ≠ 385 → N[k]? = Tryz.zeroCells103[k]? := by
  refine ⟨_, built_new c t, ?_, ?_, fun k h0 h1 => ?_⟩
  · rw [Array.getElem?_setIfInBounds, if_neg (by omega), Array.getElem?_setIfInBounds, if_pos rfl, if_pos (by rw [zeroM_size]; decide)]
  · rw [Array.getElem?_setIfInBounds, if_pos rfl, if_pos (by rw [Array.size_setIfInBounds, zeroM_size]; decide)]
  · rw [Array.getElem?_setIfInBounds, if_neg (by omega), Array.getElem?_setIfInBounds, if_neg (by omega)]

/-- A new memory lies in its new block. -/
theorem MmAt.fresh (c t : Nat) (N : Array Value) (w : World) (h2 : c ≤ 64) (t2 : t ≤ 6) (n0 : N[0]? = some (.int .i64 c)) (nt : N[385]? = some (.int .i64 t)) (nk : ∀ k, k ≠ 0 → k ≠ 385 → N[k]? = Tryz.zeroCells103[k]?) : MmAt w.heap.size (Rm.fresh c t) (w.alloc (.cells N 103)) where
  ar := by
    refine ⟨h2, ?_, fun j k hj hk => ?_, fun _ _ => ⟨Int.le_refl _, by show (0 : Int) < 4294967296; decide⟩, fun j hj => ?_, fun j hj => ?_, fun _ => by show 0 < 4611686018427387904; decide, fun k hk => World.frozen?_alloc_new _ _ _ _⟩
    · rw [World.cell?_alloc_new]
      exact n0
    · rw [World.cell?_alloc_new, nk _ (by omega) (by omega), zeroM_word _ (by omega) (by omega)]
      rfl
    · rw [World.cell?_alloc_new, nk _ (by omega) (by omega), zeroM_there _ (by omega) (by omega)]
      rfl
    · rw [World.cell?_alloc_new, nk _ (by omega) (by omega), zeroM_rest _ (by omega) (by omega)]
      rfl
  few := t2
  nt := by
    rw [World.cell?_alloc_new]
    exact nt
  line u hu := by
    have hu' : u < t := hu
    refine ⟨Nat.zero_le _, ?_, fun i k hi hk => ?_, fun k hk => World.frozen?_alloc_new _ _ _ _⟩
    · rw [World.cell?_alloc_new, nk _ (by omega) (by omega), zeroM_rest _ (by omega) (by omega)]
      rfl
    · rw [World.cell?_alloc_new, nk _ (by omega) (by omega), zeroM_rest _ (by omega) (by omega)]
      rfl
  rest o h1 h3 := by
    have h1' : 386 + t * 33 ≤ o := h1
    rw [World.cell?_alloc_new, nk _ (by omega) (by omega), zeroM_rest _ (by omega) (by omega)]

theorem wpList_build_is {P : Program} {ops : Array Oper} {rest : List Oper} {o : Oper} {a : Act} {w : World} {Q : Exit → Act → World → Prop} (hg : o.guard = none) (t : TypeId) (parts : Array (Nat × Operand)) (ho : o.op = .build t parts) (cells : Array Value)
    (hf : P.built t (parts.map fun (i, x) => (i, a.eval x)).toList = some cells) (h : wpList P ops Q rest (a.put o.dst (.agg cells)) w) : wpList P ops Q (o :: rest) a w :=
  wpList_build hg t parts ho (by rw [hf]; rfl) (by rw [hf]; exact h)

theorem wpList_build_two {P : Program} {ops : Array Oper} {rest : List Oper} {o : Oper} {a : Act} {w : World} {Q : Exit → Act → World → Prop} (hg : o.guard = none) (t : TypeId) (i0 i1 : Nat) (x0 x1 : Operand) (ho : o.op = .build t #[(i0, x0), (i1, x1)])
    (v0 v1 : Value) (h0 : a.eval x0 = v0) (h1 : a.eval x1 = v1) (cells : Array Value)
    (hf : P.built t [(i0, v0), (i1, v1)] = some cells) (h : wpList P ops Q rest (a.put o.dst (.agg cells)) w) : wpList P ops Q (o :: rest) a w :=
  wpList_build_is hg t _ ho cells (by simp [h0, h1, hf]) h

theorem arenaSize (c : Int) : (Tryz.prog.info? 93).map (·.size) = some (Tryz.zeroCells93.setIfInBounds 0 (.int .i64 c)).size := by
  rw [Array.size_setIfInBounds, zero84_size]; kernel_rfl

set_option maxRecDepth 100000 in
theorem mnew_ok (c t : Nat) (w : World) (h1 : 1 ≤ c) (h2 : c ≤ 64) (t1 : 1 ≤ t) (t2 : t ≤ 6) :
    Calls Tryz.prog 35 #[.int .i64 c, .int .i64 t] w fun e w' => e = .returned (.tuple #[.pointer (some ⟨w.heap.size + 1, 0, none⟩), .nilIface]) ∧ MmAt (w.heap.size + 1) (Rm.fresh c t) w' ∧ Below w.heap.size w w' := by
  have HN := new_exact c w h1 h2
  have i1 : 1 ≤ (t : Int) := by omega
  have i2 : (t : Int) ≤ 6 := by omega
  have hA := arenaSize c
  obtain ⟨N, hB, n0, n385, nk⟩ := new_made c t
  have HM : Hid (∀ w1 : World, w1.heap.size = w.heap.size + 1 → MmAt (w.heap.size + 1) (Rm.fresh c t) (w1.alloc (.cells N 103))) := fun w1 e => by
    rw [← e]; exact MmAt.fresh c t N w1 h2 t2 n0 n385 nk
  clear n0 n385 nk
  generalize Tryz.zeroCells93.setIfInBounds 0 (.int .i64 c) = A at *
  have hg := heap_new w (.cells A 93)
  have hb1 : Below w.heap.size w (w.alloc (.cells A 93)) := (Below.refl _ _).alloc (Nat.le_refl _) _
  have hs1 : (w.alloc (.cells A 93)).heap.size = w.heap.size + 1 := by simp
  generalize w.alloc (.cells A 93) = w1 at *
  go_enter Tryz.func35, Tryz.ntmps35
  go_wp2_with fail
  refine HN.mono ?_
  rintro e0 w2 ⟨rfl, rfl⟩
  go_wp2_with (first
    | refine wpList_load_row (by rfl) 93 _ (by rfl) w.heap.size (by rfl) 93 A (0, 0) _ hg Tryz.underlying93 (by rfl) hA ?_
    | refine wpList_build_two (by rfl) 103 0 1 _ _ (by rfl) (.agg A) (.int .i64 t) (by rfl) (by rfl) N hB ?_)
  go_ret2
  exact ⟨rfl, HM.out _ hs1, hb1.alloc hb1.size _⟩
end Go.Proofs.YtakocdgniplfmaaGreatDoor
