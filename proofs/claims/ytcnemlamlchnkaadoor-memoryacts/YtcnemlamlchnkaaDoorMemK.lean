/- Package memory by contracts: ready, Free. -/
import Derived.Test.YtcnemlamlchnkaaDoorMemJ
namespace Go.Proofs.YtcnemlamlchnkaaDoor
open Go.RowKit Go.Extern.Stop Go.Stop Go.Extern Go.Sort

/-- ready where something is wrong. -/
theorem mready_err (a : Nat → Addr) (n : Nat) (b : Nat) (t c g k : Int) (vs : Value) (w : World)
    (HA : ∀ w', Below w.heap.size w w' → Calls Tryd.prog 48 #[.pointer (some ⟨b, 0, none⟩), .int .i64 t, .agg #[.int .i64 c, .int .i64 g], .int .i64 k, vs] w' fun e w'' => e = .returned (errAt (a n)) ∧ Below w'.heap.size w' w'') :
    Calls Tryd.prog 68 #[.pointer (some ⟨b, 0, none⟩), .int .i64 t, .agg #[.int .i64 c, .int .i64 g], .int .i64 k, vs] w fun e w' => e = .returned (errAt (a n)) ∧ Below w.heap.size w w' := by
  have hba := box_below c g w
  have HA1 := HA _ hba
  clear HA
  go_enter Tryd.func68, Tryd.ntmps68
  go_wp2_with fail
  refine HA1.mono ?_
  rintro e0 w2 ⟨rfl, hb2⟩
  have B2 := below_step hba hb2
  clear HA1 hb2
  go_wp2
  go_ret
  exact ⟨rfl, B2⟩

/-- ready where nothing is wrong: the fence's answer. -/
theorem mready_ok (a : Nat → Addr) (B b : Nat) (s : Rm) (t : Nat) (c g k : Int) (vs : Value) (w : World) (hE : EnvB a B w) (hB : B ≤ b) (h : MmAt b s w) (ht : t < s.threads) (hx : ∀ x ∈ s.waits t, x.Ok)
    (HA : ∀ w', Below w.heap.size w w' → Calls Tryd.prog 48 #[.pointer (some ⟨b, 0, none⟩), .int .i64 t, .agg #[.int .i64 c, .int .i64 g], .int .i64 k, vs] w' fun e w'' => e = .returned .nilIface ∧ Below w'.heap.size w' w'') :
    Calls Tryd.prog 68 #[.pointer (some ⟨b, 0, none⟩), .int .i64 t, .agg #[.int .i64 c, .int .i64 g], .int .i64 k, vs] w fun e w' => e = .returned (errVal a (fenceNum (decide (0 < s.gone t (s.waits t))))) ∧ MmStep b w (s.drainAll t (s.waits t)) w' := by
  have hba := box_below c g w
  have HA1 := HA _ hba
  have HF : Hid (∀ w', Below w.heap.size w w' → Calls Tryd.prog 38 #[.pointer (some ⟨b, 0, none⟩), .int .i64 t] w' fun e w'' => e = .returned (errVal a (fenceNum (decide (0 < s.gone t (s.waits t))))) ∧ MmStep b w (s.drainAll t (s.waits t)) w'') := fun w' hb =>
    (mfence_any a B b s t w' (hE.below hb) hB (h.below hb) ht hx).mono fun _ _ ⟨e1, e2⟩ => ⟨e1, MmStep.of_below hb e2⟩
  generalize errVal a (fenceNum (decide (0 < s.gone t (s.waits t)))) = r at *
  clear HA h hx
  go_enter Tryd.func68, Tryd.ntmps68
  go_wp2_with fail
  refine HA1.mono ?_
  rintro e0 w2 ⟨rfl, hb2⟩
  have B2 := below_step hba hb2
  clear HA1 hb2
  go_wp2_with fail
  refine (HF.out w2 B2).mono ?_
  rintro e1 w3 ⟨rfl, H3⟩
  clear HF
  go_wp2
  go_ret
  exact ⟨rfl, H3⟩

theorem mfree_err (a : Nat → Addr) (b : Nat) (s : Rm) (t c g : Int) (w : World) (hE : EnvM a w) (h : MmAt b s w) (he : s.may t c g 0 [] ≠ 0) :
    Calls Tryd.prog 59 #[.pointer (some ⟨b, 0, none⟩), .int .i64 t, .agg #[.int .i64 c, .int .i64 g]] w fun e w' => e = .returned (errVal a (s.may t c g 0 [])) ∧ Below w.heap.size w w' := by
  have hba := box_below c g w
  have HR := mready_err a (s.may t c g 0 [] - 1) b t c g 0 (.slice none 0 0) (w.alloc (.cells #[.int .i64 c, .int .i64 g] 36)) (fun w' hb => by
    rw [← errVal_ne a _ he]
    exact allow_nil a b s t c g 0 w' (hE.below (below_step hba hb).block) (h.below (below_step hba hb)))
  rw [errVal_ne a _ he]
  generalize s.may t c g 0 [] - 1 = n at *
  clear h he
  go_enter Tryd.func59, Tryd.ntmps59
  go_wp2_with fail
  refine HR.mono ?_
  rintro e0 w2 ⟨rfl, hb2⟩
  have B2 := below_step hba hb2
  clear HR hb2
  go_wp2
  go_ret
  exact ⟨rfl, B2⟩

theorem mfree_gone (a : Nat → Addr) (B b : Nat) (s : Rm) (t : Nat) (c g : Int) (w : World) (hE : EnvB a B w) (hB : B ≤ b) (h : MmAt b s w) (ht : t < s.threads) (hx : ∀ x ∈ s.waits t, x.Ok) (he : s.may t c g 0 [] = 0) (hg : 0 < s.gone t (s.waits t)) :
    Calls Tryd.prog 59 #[.pointer (some ⟨b, 0, none⟩), .int .i64 t, .agg #[.int .i64 c, .int .i64 g]] w fun e w' => e = .returned (errAt (a 6)) ∧ MmStep b w (s.drainAll t (s.waits t)) w' := by
  have hba := box_below c g w
  have HR := mready_ok a B b s t c g 0 (.slice none 0 0) (w.alloc (.cells #[.int .i64 c, .int .i64 g] 36)) (hE.below hba) hB (h.below hba) ht hx (fun w' hb => by
    have := allow_nil a b s t c g 0 w' (hE.env.below (below_step hba hb).block) (h.below (below_step hba hb))
    rw [he] at this
    exact this)
  rw [decide_eq_true hg, show errVal a (fenceNum true) = errAt (a 6) from rfl] at HR
  generalize s.drainAll t (s.waits t) = D at *
  clear h he hx hE
  go_enter Tryd.func59, Tryd.ntmps59
  go_wp2_with fail
  refine HR.mono ?_
  rintro e0 w2 ⟨rfl, h2⟩
  have H2 := MmStep.of_below hba h2
  clear HR h2
  go_wp2
  go_ret
  exact ⟨rfl, H2⟩

set_option maxRecDepth 20000 in
set_option maxHeartbeats 1000000 in
theorem mfree_ok (a : Nat → Addr) (B b : Nat) (s : Rm) (t n : Nat) (g : Int) (w : World) (hE : EnvB a B w) (hB : B ≤ b) (h : MmAt b s w) (ht : t < s.threads) (hx : ∀ x ∈ s.waits t, x.Ok) (hn : n < 64) (hh : s.ar.has n g = true) (hg : ¬ 0 < s.gone t (s.waits t)) :
    Calls Tryd.prog 59 #[.pointer (some ⟨b, 0, none⟩), .int .i64 t, .agg #[.int .i64 n, .int .i64 g]] w fun e w' => e = .returned .nilIface ∧ MmStep b w ((s.drainAll t (s.waits t)).setThere n false) w' := by
  have hba := box_below n g w
  have he : s.may t n g 0 [] = 0 := by rw [Rm.may_yes ht, Ar.chk_nil, Ar.at_ok hh (by decide)]
  have HR := mready_ok a B b s t n g 0 (.slice none 0 0) (w.alloc (.cells #[.int .i64 n, .int .i64 g] 36)) (hE.below hba) hB (h.below hba) ht hx (fun w' hb => by
    have := allow_nil a b s t n g 0 w' (hE.env.below (below_step hba hb).block) (h.below (below_step hba hb))
    rw [he] at this
    exact this)
  rw [decide_eq_false hg, show errVal a (fenceNum false) = .nilIface from rfl] at HR
  have hh' : (s.drainAll t (s.waits t)).ar.has n g = true := by rw [Rm.drainAll_has]; exact hh
  generalize s.drainAll t (s.waits t) = D at *
  have HFr : Hid (∀ w', MmStep b w D w' → Calls Tryd.prog 21 #[.pointer (some ⟨b, 0, none⟩), .agg #[.int .i64 n, .int .i64 g]] w' fun e w'' => e = .returned .nilIface ∧ MmStep b w (D.setThere n false) w'') := fun w' hs =>
    (free_yes b 0 D.ar n g w' hs.at'.ar hn hh').mono fun _ _ ⟨e1, e2, e3⟩ => ⟨e1, hs.trans (hs.at'.arena e2 e3)⟩
  have hl := h.lt
  have q0 : (w.alloc (.cells #[.int .i64 n, .int .i64 g] 36)).cell? ⟨w.heap.size, 0, none⟩ = some (.int .i64 n) := by simp
  have q1 : (w.alloc (.cells #[.int .i64 n, .int .i64 g] 36)).cell? ⟨w.heap.size, 1, none⟩ = some (.int .i64 g) := by simp
  clear h he hx hE hh hh'
  generalize hw : w.alloc (.cells #[.int .i64 n, .int .i64 g] 36) = w1 at *
  go_enter Tryd.func59, Tryd.ntmps59
  go_wp2_with fail
  refine HR.mono ?_
  rintro e0 w2 ⟨rfl, h2⟩
  have H2 := MmStep.of_below hba h2
  replace q0 := h2.turns.keep q0 (by omega)
  replace q1 := h2.turns.keep q1 (by omega)
  have HA : Hid (∀ k, Calls Tryd.prog 21 #[.pointer (some ⟨b, 0, none⟩), .agg #[.int .i64 n, .int .i64 g]] (w2.drewN k) fun e w'' => e = .returned .nilIface ∧ MmStep b w (D.setThere n false) w'') := fun k => HFr.out _ (H2.below (Below.drewN' k))
  clear HR hw h2 H2 HFr
  go_wp2_with fail
  go_region_with (go_at_call 21; refine (HA.out 1).mono ?_; rintro e4 w4 ⟨rfl, H4⟩)
  all_goals
    go_wp2
    go_ret
    exact ⟨rfl, H4⟩
end Go.Proofs.YtcnemlamlchnkaaDoor
