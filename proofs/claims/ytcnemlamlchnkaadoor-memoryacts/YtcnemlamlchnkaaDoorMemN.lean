/- Package memory by contracts: Cas. -/
import Derived.Test.YtcnemlamlchnkaaDoorMemM
namespace Go.Proofs.YtcnemlamlchnkaaDoor
open Go.RowKit Go.Extern.Stop Go.Stop Go.Extern Go.Sort

/-- The three variables and the list of two that Cas lays. -/
abbrev casW (w : World) (c g old v : Int) : World := (((w.alloc (.cells #[.int .i64 c, .int .i64 g] 36)).alloc (.cells #[.int .i64 old] 3)).alloc (.cells #[.int .i64 v] 3)).alloc (.cells #[.int .i64 old, .int .i64 v] 3)
theorem casW_below (w : World) (c g old v : Int) : Below w.heap.size w (casW w c g old v) := (((box_below c g w).alloc (by simp) _).alloc (by simp; omega) _).alloc (by simp; omega) _

theorem casW_cells (w : World) (c g old v : Int) : (casW w c g old v).cell? ⟨w.heap.size, 0, none⟩ = some (.int .i64 c) ∧ (casW w c g old v).cell? ⟨w.heap.size, 1, none⟩ = some (.int .i64 g) ∧ (casW w c g old v).cell? ⟨w.heap.size + 1, 0, none⟩ = some (.int .i64 old) ∧ (casW w c g old v).cell? ⟨w.heap.size + 1 + 1, 0, none⟩ = some (.int .i64 v) ∧ ∀ j, j < [old, v].length → (casW w c g old v).cell? ⟨w.heap.size + 1 + 1 + 1, j, none⟩ = some (.int .i64 ([old, v].getD j 0)) := by
  refine ⟨by go_simp, by go_simp, by go_simp, by go_simp, fun j hj => ?_⟩
  match j, hj with
  | 0, _ => go_simp
  | 1, _ => go_simp

theorem Ar.chk_two_ok {s : Ar} {c g k old v : Int} (h : s.has c g = true) (hk : 0 ≤ k ∧ k < 4) (ho : 0 ≤ old ∧ old < 4294967296) (hv : 0 ≤ v ∧ v < 4294967296) : s.chk c g k [old, v] = 0 := by
  unfold Ar.chk; rw [if_pos (Ar.at_ok h hk), if_pos]; simp [isW]; exact ⟨ho, hv⟩

theorem mcas_err (a : Nat → Addr) (b : Nat) (s : Rm) (t c g k old v : Int) (w : World) (hE : EnvM a w) (h : MmAt b s w) (he : s.may t c g k [old, v] ≠ 0) :
    Calls Tryd.prog 61 #[.pointer (some ⟨b, 0, none⟩), .int .i64 t, .agg #[.int .i64 c, .int .i64 g], .int .i64 k, .int .i64 old, .int .i64 v] w fun e w' => e = .returned (.tuple #[.int .i64 0, errVal a (s.may t c g k [old, v])]) ∧ Below w.heap.size w w' := by
  have hba := casW_below w c g old v
  obtain ⟨-, -, -, -, hj⟩ := casW_cells w c g old v
  have HR := mready_err a (s.may t c g k [old, v] - 1) b t c g k (.slice (some ⟨w.heap.size + 1 + 1 + 1, 0, none⟩) 2 2) (casW w c g old v) (fun w' hb => by
    rw [← errVal_ne a _ he]
    exact allow_list a b s t c g k (w.heap.size + 1 + 1 + 1) 2 [old, v] (by simp) w' (hE.below (below_step hba hb).block) (h.below (below_step hba hb)) (fun j h => keep_cell hb (hj j h)))
  rw [errVal_ne a _ he]
  generalize s.may t c g k [old, v] - 1 = n at *
  clear h he hj
  go_enter Tryd.func61, Tryd.ntmps61
  go_wp2_with fail
  refine HR.mono ?_
  rintro e0 w2 ⟨rfl, hb2⟩
  have B2 := below_step hba hb2
  clear HR hb2 hba
  go_wp2
  go_ret2
  exact ⟨rfl, B2⟩

theorem mcas_gone (a : Nat → Addr) (B b : Nat) (s : Rm) (t : Nat) (c g k old v : Int) (w : World) (hE : EnvB a B w) (hB : B ≤ b) (h : MmAt b s w) (ht : t < s.threads) (hx : ∀ x ∈ s.waits t, x.Ok) (he : s.may t c g k [old, v] = 0) (hg : 0 < s.gone t (s.waits t)) :
    Calls Tryd.prog 61 #[.pointer (some ⟨b, 0, none⟩), .int .i64 t, .agg #[.int .i64 c, .int .i64 g], .int .i64 k, .int .i64 old, .int .i64 v] w fun e w' => e = .returned (.tuple #[.int .i64 0, errAt (a 6)]) ∧ MmStep b w (s.drainAll t (s.waits t)) w' := by
  have hba := casW_below w c g old v
  obtain ⟨-, -, -, -, hj⟩ := casW_cells w c g old v
  have HR := mready_ok a B b s t c g k (.slice (some ⟨w.heap.size + 1 + 1 + 1, 0, none⟩) 2 2) (casW w c g old v) (hE.below hba) hB (h.below hba) ht hx (fun w' hb => by
    have := allow_list a b s t c g k (w.heap.size + 1 + 1 + 1) 2 [old, v] (by simp) w' (hE.env.below (below_step hba hb).block) (h.below (below_step hba hb)) (fun j h => keep_cell hb (hj j h))
    rw [he] at this
    exact this)
  rw [decide_eq_true hg, show errVal a (fenceNum true) = errAt (a 6) from rfl] at HR
  generalize s.drainAll t (s.waits t) = D at *
  clear h he hx hE hj
  go_enter Tryd.func61, Tryd.ntmps61
  go_wp2_with fail
  refine HR.mono ?_
  rintro e0 w2 ⟨rfl, h2⟩
  have H2 := MmStep.of_below hba h2
  clear HR h2 hba
  go_wp2
  go_ret2
  exact ⟨rfl, H2⟩

set_option maxRecDepth 20000 in
set_option maxHeartbeats 1000000 in
theorem mcas_ok (a : Nat → Addr) (B b : Nat) (s : Rm) (t n m : Nat) (g old v : Int) (w : World) (hE : EnvB a B w) (hB : B ≤ b) (h : MmAt b s w) (ht : t < s.threads) (hx : ∀ x ∈ s.waits t, x.Ok) (hn : n < 64) (hm : m < 4) (hh : s.ar.has n g = true) (ho : 0 ≤ old ∧ old < 4294967296) (hv : 0 ≤ v ∧ v < 4294967296) (hg : ¬ 0 < s.gone t (s.waits t)) :
    Calls Tryd.prog 61 #[.pointer (some ⟨b, 0, none⟩), .int .i64 t, .agg #[.int .i64 n, .int .i64 g], .int .i64 m, .int .i64 old, .int .i64 v] w fun e w' => e = .returned (.tuple #[.int .i64 ((s.drainAll t (s.waits t)).ar.words n m), .nilIface]) ∧ MmStep b w ((s.drainAll t (s.waits t)).setWord n m (casVal ((s.drainAll t (s.waits t)).ar.words n m) old v)) w' := by
  have hba := casW_below w n g old v
  have hl := h.lt
  obtain ⟨q0, q1, q2, q3, hj⟩ := casW_cells w n g old v
  have he : s.may t n g m [old, v] = 0 := by rw [Rm.may_yes ht, Ar.chk_two_ok hh (by omega) ho hv]
  have HR := mready_ok a B b s t n g m (.slice (some ⟨w.heap.size + 1 + 1 + 1, 0, none⟩) 2 2) (casW w n g old v) (hE.below hba) hB (h.below hba) ht hx (fun w' hb => by
    have := allow_list a b s t n g m (w.heap.size + 1 + 1 + 1) 2 [old, v] (by simp) w' (hE.env.below (below_step hba hb).block) (h.below (below_step hba hb)) (fun j h => keep_cell hb (hj j h))
    rw [he] at this
    exact this)
  rw [decide_eq_false hg, show errVal a (fenceNum false) = .nilIface from rfl] at HR
  have hh' : (s.drainAll t (s.waits t)).ar.has n g = true := by rw [Rm.drainAll_has]; exact hh
  generalize s.drainAll t (s.waits t) = D at *
  have HX : Hid (∀ w', MmStep b w D w' → w'.cell? ⟨w.heap.size + 1, 0, none⟩ = some (.int .i64 old) → w'.cell? ⟨w.heap.size + 1 + 1, 0, none⟩ = some (.int .i64 v) → Calls Tryd.prog 69 #[.pointer (some ⟨b, 0, none⟩), .agg #[.int .i64 n, .int .i64 g], .int .i64 m, .func (.func 71) #[] #[.pointer (some ⟨w.heap.size + 1, 0, none⟩), .pointer (some ⟨w.heap.size + 1 + 1, 0, none⟩)]] w' fun e w'' => e = .returned (.tuple #[.int .i64 (D.ar.words n m), .nilIface]) ∧ MmStep b w (D.setWord n m (casVal (D.ar.words n m) old v)) w'') := fun w' hs hc1 hc =>
    (xcas_any a B b D n m g old v (w.heap.size + 1) (w.heap.size + 1 + 1) w' (hE.step hB hs) hs.at' hn hh' hm hv hc1 hc).mono fun _ _ ⟨e1, e2⟩ => ⟨e1, hs.trans e2⟩
  generalize casVal (D.ar.words n m) old v = r at *
  generalize D.ar.words n m = was at *
  have hmf : ∀ (fn : Fn) (first cap : Array Value) (w : World), (Instr.makeFunc fn first cap).run Tryd.prog w = .ok (.func fn first cap) w := fun _ _ _ _ => rfl
  clear h he hx hE hj hh hh' hv ho
  go_enter Tryd.func61, Tryd.ntmps61
  go_wp2_with fail
  refine HR.mono ?_
  rintro e0 w2 ⟨rfl, h2⟩
  have H2 := MmStep.of_below hba h2
  replace q0 := h2.turns.keep q0 (by omega)
  replace q1 := h2.turns.keep q1 (by omega)
  replace q2 := h2.turns.keep q2 (by omega)
  replace q3 := h2.turns.keep q3 (by omega)
  have HX2 := HX.out w2 H2 q2 q3
  clear HR h2 hba HX H2
  go_wp2_with fail
  refine HX2.mono ?_
  rintro e1 w3 ⟨rfl, H3⟩
  go_wp2
  go_ret2
  exact ⟨rfl, H3⟩
end Go.Proofs.YtcnemlamlchnkaaDoor
