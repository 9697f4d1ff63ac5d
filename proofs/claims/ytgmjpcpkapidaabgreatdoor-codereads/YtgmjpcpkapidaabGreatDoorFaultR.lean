/- The law's helpers faulted and sameCode by contracts; what every law of code reads of the listed variables. -/
import Derived.Test.YtgmjpcpkapidaabGreatDoorReadR
import Derived.Test.YtgmjpcpkapidaabGreatDoorTexted
import Derived.Test.YtgmjpcpkapidaabGreatDoorBase
namespace Go.Proofs.YtgmjpcpkapidaabGreatDoor
open Go.RowKit Go.Extern.Stop Go.Stop Go.Extern Go.Maps Go.WideMaps

theorem faultFrom_le : ∀ (l : List Ins) (r : List Ins) (j : Nat), (faultFrom l j r).1 ≤ 5
  | _, [], _ => Nat.zero_le _
  | l, x :: r, j => by
    unfold faultFrom
    split
    · exact faultFrom_le l r (j + 1)
    · dsimp only
      unfold insFault
      split
      · have := insErr_le x; omega
      · split
        · omega
        · split <;> omega
theorem codeFault_le (l : List Ins) : (codeFault l).1 ≤ 5 := by
  unfold codeFault
  split
  · decide
  · exact faultFrom_le _ _ _
theorem readFault_le (s : ByteArray) : (readFault s).1 ≤ 5 := by
  unfold readFault
  split
  · exact Nat.succ_le_succ (Nat.zero_le _)
  · exact codeFault_le _

/-- The nine errors, the handle, the table, MaxLen and strconv.ErrSyntax. -/
structure EnvZ (a : Nat → Addr) (w : World) : Prop where
  env : Env a w
  tab : Lib.TabIs Tryz.prog w "internal/strconv.uint64pow10" .u64 Lib.pow10Tab
  maxl : ∃ m, w.cell? ⟨10, 0, none⟩ = some (.int .i64 m)
  syn : ∃ te pe, w.cell? ⟨12, 0, none⟩ = some (.iface te pe)
theorem EnvZ.x {a : Nat → Addr} {w : World} (h : EnvZ a w) : EnvX a w where
  err i hi := by
    match i, hi with
    | 0, _ => exact h.env.cell 0 (by decide)
    | 1, _ => exact h.env.cell 1 (by decide)
    | 2, _ => exact h.env.cell 2 (by decide)
    | 3, _ => exact h.env.cell 3 (by decide)
    | 4, _ => exact h.env.cell 4 (by decide)
  tab := h.tab
  maxl := h.maxl
  syn := h.syn
theorem EnvZ.below {a : Nat → Addr} {w w' : World} (h : EnvZ a w) (hb : Below w.heap.size w w') : EnvZ a w' where
  env := h.env.below hb.block
  tab := (h.x.below hb).tab
  maxl := (h.x.below hb).maxl
  syn := (h.x.below hb).syn

/-- An error's meaning, later. -/
theorem errIs_below {a : Nat → Addr} {f : Nat × Int} {v : Value} {w w' : World} {B : Nat} (h : errIs a f v w B) (hb : Below w.heap.size w w') : errIs a f v w' B := by
  rcases h with h | h | ⟨h0, j, N, h1, h2, h3, h4, h5⟩
  · exact .inl h
  · exact .inr (.inl h)
  · exact .inr (.inr ⟨h0, j, N, h1, h2, h3, keep_cell hb h4, keep_cell hb h5⟩)

theorem faulted_any (a : Nat → Addr) (f : Nat × Int) (v : Value) (B : Nat) (w : World) (hE : Env a w) (hf : f.1 ≤ 5) (h : errIs a f v w B) :
    Calls Tryz.prog 12 #[v, .agg #[.int .i64 f.1, .int .i64 f.2]] w fun e w' => e = .returned (.bool true) ∧ Below w.heap.size w w' := by
  obtain ⟨f1, f2⟩ := f
  dsimp only at *
  obtain ⟨W0, hW0⟩ : ∃ W0, W0 = w.alloc (.cells #[.int .i64 f1, .int .i64 f2] 27) := ⟨_, rfl⟩
  have B0 : Below w.heap.size w W0 := by rw [hW0]; exact (Below.refl _ _).alloc (Nat.le_refl _) _
  have q0 : W0.cell? ⟨w.heap.size, 0, none⟩ = some (.int .i64 f1) := by rw [hW0]; simp
  have q1 : W0.cell? ⟨w.heap.size, 1, none⟩ = some (.int .i64 f2) := by rw [hW0]; simp
  have E0 := hE.below B0.block
  have h := errIs_below h B0
  rcases h with ⟨h0, rfl⟩ | ⟨h0, h1, rfl⟩ | ⟨h0, j, N, h1, h2, rfl, h4, h5⟩
  · dsimp only at h0
    subst h0
    have HC := hide (code_nil W0)
    rw [show ((0 : Nat) : Int) = 0 from rfl] at hW0 q0 ⊢
    go_enter Tryz.func12, Tryz.ntmps12
    go_wp2_with fail
    rw [← hW0]
    refine HC.out.mono ?_
    rintro e w1 ⟨rfl, rfl⟩
    go_wp2_with fail
    refine bodyPost_ret (v := .bool true) (by simp only [results, Tryz.results12]; go_simp) rfl ⟨rfl, hW0 ▸ B0⟩
  · dsimp only at h0 h1
    subst h1
    obtain ⟨k, rfl⟩ : ∃ k, f1 = k + 1 := ⟨f1 - 1, by omega⟩
    have HC := hide (code_sent a k (by omega) W0 E0)
    have hk : ((k + 1 : Nat) : Int) = k + 1 := by omega
    rw [hk] at HC hW0 q0 ⊢
    rw [show xval a (k + 1) = errAt (a k) from rfl]
    go_enter Tryz.func12, Tryz.ntmps12
    go_wp2_with fail
    rw [← hW0]
    refine HC.out.mono ?_
    rintro e w1 ⟨rfl, hb1⟩
    have hk0 : ¬ ((k : Int) + 1 = 0) := by omega
    replace q0 := keep_cell hb1 q0
    replace q1 := keep_cell hb1 q1
    go_wp2_with fail
    refine bodyPost_ret (v := .bool true) (by simp only [results, Tryz.results12]; go_simp) rfl ⟨rfl, below_step B0 hb1⟩
  · dsimp only at h0 h1
    subst h1
    obtain ⟨k, rfl⟩ : ∃ k, f1 = k + 1 := ⟨f1 - 1, by omega⟩
    have HC := hide (code_fault a k (by omega) N 0 j W0 E0 h4 h5)
    have hk : ((k + 1 : Nat) : Int) = k + 1 := by omega
    rw [hk] at HC hW0 q0 ⊢
    go_enter Tryz.func12, Tryz.ntmps12
    go_wp2_with fail
    rw [← hW0]
    refine HC.out.mono ?_
    rintro e w1 ⟨rfl, hb1⟩
    have hk0 : ¬ ((k : Int) + 1 = 0) := by omega
    replace q0 := keep_cell hb1 q0
    replace q1 := keep_cell hb1 q1
    go_wp2_with fail
    refine bodyPost_ret (v := .bool true) (by simp only [results, Tryz.results12]; go_simp) rfl ⟨rfl, below_step B0 hb1⟩

theorem sameCode_any (ad ad' : Option Addr) (cap cap' : Nat) (l : List Ins) (w : World) (hlen : l.length ≤ 1000000) (hl : insAt ad l w) (hl' : insAt ad' l w) :
    Calls Tryz.prog 16 #[.slice ad l.length cap, .slice ad' l.length cap'] w fun e w' => e = .returned (.bool true) ∧ Below w.heap.size w w' := by
  have HL := hide hl
  have HL' := hide hl'
  clear hl hl'
  go_enter Tryz.func16, Tryz.ntmps16
  go_wp2_with fail
  go_loopw [5] (fun ix wr => Below w.heap.size w wr ∧ ∃ j : Nat, j ≤ l.length ∧ ix = .int .i64 j) (fun i _ => l.length - (intOf i).toNat)
  case atStart => exact ⟨Below.refl _ _, 0, Nat.zero_le _, rfl⟩
  case round =>
    obtain ⟨hB, j, hj, rfl⟩ := hrel
    by_cases hlt : j < l.length
    · have ji : (j : Int) < l.length := by omega
      obtain ⟨x, hx⟩ : ∃ x, l[j]? = some x := ⟨_, List.getElem?_eq_getElem hlt⟩
      obtain ⟨b, off, rfl, a0, a1, a2, a3, a4⟩ := insAt_below HL.out hB j x hx
      obtain ⟨b', off', rfl, c0, c1, c2, c3, c4⟩ := insAt_below HL'.out hB j x hx
      clear HL HL'
      go_wp2_with fail
      go_region
      go_wp2_with fail
      go_roundw
      case rel => exact ⟨hB.drew, j + 1, by omega, by go_num⟩
      case measure => simp [intOf]; omega
    · obtain rfl : j = l.length := by omega
      go_wp2_with fail
      go_ret
      exact ⟨rfl, hB⟩
end Go.Proofs.YtgmjpcpkapidaabGreatDoor
