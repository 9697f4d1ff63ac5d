/- Package memory by contracts: Store. -/
import Derived.Test.YtcnemlamlchnkaaDoorMemE
import Derived.Deep.RegionWith
namespace Go.Proofs.YtcnemlamlchnkaaDoor
open Go.RowKit Go.Extern.Stop Go.Stop Go.Extern Go.Sort

theorem varg_cell (c g v : Int) (w : World) (j : Nat) (hj : j < [v].length) : ((w.alloc (.cells #[.int .i64 c, .int .i64 g] 36)).alloc (.cells #[.int .i64 v] 3)).cell? ⟨w.heap.size + 1, j, none⟩ = some (.int .i64 ([v].getD j 0)) := by
  obtain rfl : j = 0 := by simp at hj; omega
  go_simp

/-- Store of what may not be. -/
theorem mstore_err (a : Nat → Addr) (b : Nat) (s : Rm) (t c g k v : Int) (w : World) (hE : EnvM a w) (h : MmAt b s w) (he : s.may t c g k [v] ≠ 0) :
    Calls Tryd.prog 34 #[.pointer (some ⟨b, 0, none⟩), .int .i64 t, .agg #[.int .i64 c, .int .i64 g], .int .i64 k, .int .i64 v] w fun e w' => e = .returned (errVal a (s.may t c g k [v])) ∧ Below w.heap.size w w' := by
  have hba := varg_below c g v w
  have HC := allow_list a b s t c g k (w.heap.size + 1) 1 [v] (by simp) _ (hE.below hba.block) (h.below hba) (fun j hj => varg_cell c g v w j hj)
  rw [errVal_ne a _ he] at HC
  rw [errVal_ne a _ he]
  simp only [List.length_singleton] at HC
  generalize s.may t c g k [v] - 1 = n at *
  clear h he
  go_enter Tryd.func34, Tryd.ntmps34
  go_wp2_with fail
  refine HC.mono ?_
  rintro e0 w2 ⟨rfl, hb2⟩
  have hbw := below_step hba hb2
  go_wp2
  go_ret
  exact ⟨rfl, hbw⟩

theorem full_is (b o : Nat) (l : List Wt) (w : World) (h : LnAt b o l w) (f : Bool) (hf : decide (8 ≤ l.length) = f) :
    Calls Tryd.prog 49 #[.pointer (some ⟨b, o, none⟩)] w fun e w' => e = .returned (.bool f) ∧ w' = w := by
  rw [← hf]; exact full_any b o l w h

/-- Store where eight wait. -/
theorem mstore_full (a : Nat → Addr) (b : Nat) (s : Rm) (t : Nat) (c g k v : Int) (w : World) (hE : EnvM a w) (h : MmAt b s w) (ht : t < s.threads) (he : s.may t c g k [v] = 0) (h8 : 8 ≤ (s.waits t).length) :
    Calls Tryd.prog 34 #[.pointer (some ⟨b, 0, none⟩), .int .i64 t, .agg #[.int .i64 c, .int .i64 g], .int .i64 k, .int .i64 v] w fun e w' => e = .returned (errAt (a 5)) ∧ Below w.heap.size w w' := by
  have hba := varg_below c g v w
  have HC := allow_list a b s t c g k (w.heap.size + 1) 1 [v] (by simp) _ (hE.below hba.block) (h.below hba) (fun j hj => varg_cell c g v w j hj)
  rw [he, show errVal a 0 = .nilIface from rfl] at HC
  simp only [List.length_singleton] at HC
  have hf := h.few
  have t6 : (t : Int) < 6 := by omega
  have HF : Hid (∀ w', Below w.heap.size w w' → Calls Tryd.prog 49 #[.pointer (some ⟨b, 386 + t * 33, none⟩)] w' fun e w'' => e = .returned (.bool true) ∧ w'' = w') := fun w' hb =>
    full_is b _ _ w' ((h.below hb).line t ht) true (decide_eq_true h8)
  have HEV : Hid (∀ w', Below w.heap.size w w' → w'.cell? ⟨5, 0, none⟩ = some (errAt (a 5))) := fun w' hb => (hE.below hb.block).cell 5 (by decide)
  clear h he h8
  go_enter Tryd.func34, Tryd.ntmps34
  go_wp2_with fail
  refine HC.mono ?_
  rintro e0 w2 ⟨rfl, hb2⟩
  have hbw := below_step hba hb2
  have c5 := HEV.out w2 hbw
  go_wp2_with fail
  refine (HF.out w2 hbw).mono ?_
  rintro e1 w3 ⟨rfl, rfl⟩
  go_wp2
  go_ret
  exact ⟨rfl, hbw⟩

set_option maxRecDepth 20000 in
set_option maxHeartbeats 1000000 in
/-- Store: it waits. -/
theorem mstore_ok (a : Nat → Addr) (b : Nat) (s : Rm) (t : Nat) (c g k v : Int) (w : World) (hE : EnvM a w) (h : MmAt b s w) (ht : t < s.threads) (he : s.may t c g k [v] = 0) (h8 : (s.waits t).length < 8) :
    Calls Tryd.prog 34 #[.pointer (some ⟨b, 0, none⟩), .int .i64 t, .agg #[.int .i64 c, .int .i64 g], .int .i64 k, .int .i64 v] w fun e w' => e = .returned .nilIface ∧ MmStep b w (s.setWaits t (s.waits t ++ [⟨c, g, k, v⟩])) w' := by
  have hba := varg_below c g v w
  have HC := allow_list a b s t c g k (w.heap.size + 1) 1 [v] (by simp) _ (hE.below hba.block) (h.below hba) (fun j hj => varg_cell c g v w j hj)
  rw [he, show errVal a 0 = .nilIface from rfl] at HC
  simp only [List.length_singleton] at HC
  have hf := h.few
  have t6 : (t : Int) < 6 := by omega
  have HF : Hid (∀ w', Below w.heap.size w w' → Calls Tryd.prog 49 #[.pointer (some ⟨b, 386 + t * 33, none⟩)] w' fun e w'' => e = .returned (.bool false) ∧ w'' = w') := fun w' hb =>
    full_is b _ _ w' ((h.below hb).line t ht) false (decide_eq_false (by omega))
  have HAdd : Hid (∀ w', Below w.heap.size w w' → Calls Tryd.prog 50 #[.pointer (some ⟨b, 386 + t * 33, none⟩), .agg #[.int .i64 c, .int .i64 g, .int .i64 k, .int .i64 v]] w' fun e w'' => e = .returned (.tuple #[]) ∧ MmStep b w (s.setWaits t (s.waits t ++ [⟨c, g, k, v⟩])) w'') := fun w' hb =>
    (add_any b (386 + t * 33) (s.waits t) ⟨c, g, k, v⟩ w' ((h.below hb).line t ht) h8).mono fun _ _ ⟨e1, e2, e3⟩ => ⟨e1, MmStep.of_below hb ((h.below hb).ofLine ht e2 e3)⟩
  have q0 : ((w.alloc (.cells #[.int .i64 c, .int .i64 g] 36)).alloc (.cells #[.int .i64 v] 3)).cell? ⟨w.heap.size, 0, none⟩ = some (.int .i64 c) := by go_simp
  have q1 : ((w.alloc (.cells #[.int .i64 c, .int .i64 g] 36)).alloc (.cells #[.int .i64 v] 3)).cell? ⟨w.heap.size, 1, none⟩ = some (.int .i64 g) := by go_simp
  clear h he h8
  go_enter Tryd.func34, Tryd.ntmps34
  go_wp2_with fail
  refine HC.mono ?_
  rintro e0 w2 ⟨rfl, hb2⟩
  have hbw := below_step hba hb2
  replace q0 := keep_cell hb2 q0
  replace q1 := keep_cell hb2 q1
  clear hb2 HC hba
  go_wp2_with fail
  refine (HF.out w2 hbw).mono ?_
  rintro e1 w3 ⟨rfl, rfl⟩
  have HA : Hid (∀ n, Calls Tryd.prog 50 #[.pointer (some ⟨b, 386 + t * 33, none⟩), .agg #[.int .i64 c, .int .i64 g, .int .i64 k, .int .i64 v]] (w3.drewN n) fun e w'' => e = .returned (.tuple #[]) ∧ MmStep b w (s.setWaits t (s.waits t ++ [⟨c, g, k, v⟩])) w'') := fun n => HAdd.out _ (below_dN hbw n)
  clear HF HAdd
  go_wp2_with fail
  go_region_with (go_at_call 50; refine (HA.out 1).mono ?_; rintro e4 w4 ⟨rfl, H4⟩)
  go_wp2
  go_ret
  exact ⟨rfl, H4⟩
end Go.Proofs.YtcnemlamlchnkaaDoor
