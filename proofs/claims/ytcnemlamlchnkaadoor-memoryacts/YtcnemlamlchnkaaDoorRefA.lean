/- The document's answer's memory (quiescentref1.Memory): where it lies; what reads it, by contracts. -/
import Derived.Test.YtcnemlamlchnkaaDoorRWord
import Derived.Lib.QuietBelow
import Derived.OwnWalk
import Derived.RegionTactic
import Derived.BigRegion
namespace Go.Proofs.YtcnemlamlchnkaaDoor
open Go.RowKit Go.Extern.Stop Go.Stop Go.Extern Go.Sort

/-- A store that waits. -/
structure Wt where
  c : Int
  g : Int
  w : Int
  v : Int

/-- The state of the document's answer's memory. -/
structure Rm where
  ar : Ar
  threads : Nat
  waits : Nat → List Wt

def Wt.cells (x : Wt) : List Value := [.int .i64 x.c, .int .i64 x.g, .int .i64 x.w, .int .i64 x.v]
def wtCells (l : List Wt) : List Value := l.flatMap Wt.cells

/-- Where it lies. -/
structure RmPl where
  mb : Nat
  cb : Nat
  tb : Nat
  ccap : Nat
  tcap : Nat
  wb : Nat → Nat
  wcap : Nat → Nat
  wv : Nat → Value

/-- The blocks that it lies in. -/
def RmPl.fp (p : RmPl) (s : Rm) (k : Nat) : Prop :=
  k = p.mb ∨ k = p.cb ∨ k = p.tb ∨ (∃ c, c < s.ar.size ∧ k = p.wb c) ∨ (∃ t, t < s.threads ∧ (p.wv t).ownBlock = some k)

structure RmAt (p : RmPl) (s : Rm) (w : World) : Prop where
  small : s.ar.size ≤ 64
  few : s.threads ≤ 6
  mCells : w.cell? ⟨p.mb, 0, none⟩ = some (.slice (some ⟨p.cb, 0, none⟩) s.ar.size p.ccap)
  mWaits : w.cell? ⟨p.mb, 1, none⟩ = some (.slice (some ⟨p.tb, 0, none⟩) s.threads p.tcap)
  ccap : s.ar.size ≤ p.ccap
  tcap : s.threads ≤ p.tcap
  cWords : ∀ c, c < s.ar.size → w.cell? ⟨p.cb, c * 3, none⟩ = some (.slice (some ⟨p.wb c, 0, none⟩) 4 (p.wcap c))
  cTimes : ∀ c, c < s.ar.size → w.cell? ⟨p.cb, c * 3 + 1, none⟩ = some (.int .i64 (s.ar.given c))
  cHere : ∀ c, c < s.ar.size → w.cell? ⟨p.cb, c * 3 + 2, none⟩ = some (.bool (s.ar.there c))
  wcap : ∀ c, c < s.ar.size → 4 ≤ p.wcap c
  words : ∀ c k, c < s.ar.size → k < 4 → w.cell? ⟨p.wb c, k, none⟩ = some (.int .i64 (s.ar.words c k))
  bound : ∀ c, s.ar.given c < 4611686018427387904
  waits : ∀ t, t < s.threads → w.cell? ⟨p.tb, t, none⟩ = some (p.wv t) ∧ w.ownsRow 0 102 4 (p.wv t) (s.waits t).length (wtCells (s.waits t))
  fm : ∀ o, w.frozen? ⟨p.mb, o, none⟩ = false
  fc : ∀ o, w.frozen? ⟨p.cb, o, none⟩ = false
  ft : ∀ o, w.frozen? ⟨p.tb, o, none⟩ = false
  fw : ∀ c o, c < s.ar.size → w.frozen? ⟨p.wb c, o, none⟩ = false
  lc : p.cb < w.heap.size
  lt : p.tb < w.heap.size
  d1 : p.mb ≠ p.cb
  d2 : p.mb ≠ p.tb
  d3 : p.cb ≠ p.tb
  dw : ∀ c, c < s.ar.size → p.wb c ≠ p.mb ∧ p.wb c ≠ p.cb ∧ p.wb c ≠ p.tb
  dwi : ∀ c d, c < s.ar.size → d < s.ar.size → c ≠ d → p.wb c ≠ p.wb d
  dv : ∀ t k, t < s.threads → (p.wv t).ownBlock = some k → k ≠ p.mb ∧ k ≠ p.cb ∧ k ≠ p.tb ∧ ∀ c, c < s.ar.size → k ≠ p.wb c
  dvi : ∀ t u k, t < s.threads → u < s.threads → t ≠ u → (p.wv t).ownBlock = some k → (p.wv u).ownBlock ≠ some k

theorem RmAt.lm {p : RmPl} {s : Rm} {w : World} (h : RmAt p s w) : p.mb < w.heap.size := World.block_lt_of_cell? _ _ h.mCells
theorem RmAt.lw {p : RmPl} {s : Rm} {w : World} (h : RmAt p s w) {c : Nat} (hc : c < s.ar.size) : p.wb c < w.heap.size := World.block_lt_of_cell? _ _ (h.words c 0 hc (by decide))
theorem RmAt.lv {p : RmPl} {s : Rm} {w : World} (h : RmAt p s w) {t k : Nat} (ht : t < s.threads) (hk : (p.wv t).ownBlock = some k) : k < w.heap.size := ((h.waits t ht).2.lt k hk).2

/-- All its blocks are there. -/
theorem RmAt.fp_lt {p : RmPl} {s : Rm} {w : World} (h : RmAt p s w) {k : Nat} (hk : p.fp s k) : k < w.heap.size := by
  rcases hk with rfl | rfl | rfl | ⟨c, hc, rfl⟩ | ⟨t, ht, hv⟩
  · exact h.lm
  · exact h.lc
  · exact h.lt
  · exact h.lw hc
  · exact h.lv ht hv

/-- It lies there still where nothing of it has turned. -/
theorem RmAt.turns {S : Nat → Nat → Prop} {p : RmPl} {s : Rm} {w w' : World} (h : RmAt p s w) (t : Turns S w w') (hS : ∀ k o, p.fp s k → ¬ S k o) : RmAt p s w' where
  small := h.small
  few := h.few
  mCells := t.keep h.mCells (hS _ _ (Or.inl rfl))
  mWaits := t.keep h.mWaits (hS _ _ (Or.inl rfl))
  ccap := h.ccap
  tcap := h.tcap
  cWords c hc := t.keep (h.cWords c hc) (hS _ _ (Or.inr (Or.inl rfl)))
  cTimes c hc := t.keep (h.cTimes c hc) (hS _ _ (Or.inr (Or.inl rfl)))
  cHere c hc := t.keep (h.cHere c hc) (hS _ _ (Or.inr (Or.inl rfl)))
  wcap := h.wcap
  words c k hc hk := t.keep (h.words c k hc hk) (hS _ _ (Or.inr (Or.inr (Or.inr (Or.inl ⟨c, hc, rfl⟩)))))
  bound := h.bound
  waits u hu := ⟨t.keep (h.waits u hu).1 (hS _ _ (Or.inr (Or.inr (Or.inl rfl)))), ownsRow_block (h.waits u hu).2 fun k hk => t.block k (h.lv hu hk) fun o => hS k o (Or.inr (Or.inr (Or.inr (Or.inr ⟨u, hu, hk⟩))))⟩
  fm o := by rw [t.frozen _ _ h.lm (hS _ _ (Or.inl rfl))]; exact h.fm o
  fc o := by rw [t.frozen _ _ h.lc (hS _ _ (Or.inr (Or.inl rfl)))]; exact h.fc o
  ft o := by rw [t.frozen _ _ h.lt (hS _ _ (Or.inr (Or.inr (Or.inl rfl))))]; exact h.ft o
  fw c o hc := by rw [t.frozen _ _ (h.lw hc) (hS _ _ (Or.inr (Or.inr (Or.inr (Or.inl ⟨c, hc, rfl⟩)))))]; exact h.fw c o hc
  lc := Nat.lt_of_lt_of_le h.lc t.size
  lt := Nat.lt_of_lt_of_le h.lt t.size
  d1 := h.d1
  d2 := h.d2
  d3 := h.d3
  dw := h.dw
  dwi := h.dwi
  dv := h.dv
  dvi := h.dvi

theorem RmAt.below {p : RmPl} {s : Rm} {w w' : World} (h : RmAt p s w) (hb : Below w.heap.size w w') : RmAt p s w' :=
  h.turns (Turns.of_below (S := fun _ _ => False) hb) (fun _ _ _ h => h)
theorem RmAt.alloc {p : RmPl} {s : Rm} {w : World} (h : RmAt p s w) (o : Obj) : RmAt p s (w.alloc o) := h.below ((Below.refl _ _).alloc (Nat.le_refl _) _)

theorem RmAt.drewN {p : RmPl} {s : Rm} {w : World} (h : RmAt p s w) (n : Nat) : RmAt p s (w.drewN n) := h.below (Below.drewN' n)

theorem here_yes (p : RmPl) (s : Rm) (n : Nat) (g : Int) (w : World) (h : RmAt p s w) (hn : n < s.ar.size) (ct : s.ar.there n = true) :
    Calls Tryd.prog 26 #[.pointer (some ⟨p.mb, 0, none⟩), .agg #[.int .i64 n, .int .i64 g]] w fun e w' => e = .returned (.bool (g == (s.ar.given n : Int) - 1)) ∧ Below w.heap.size w w' := by
  have h1 := h.alloc (.cells #[.int .i64 n, .int .i64 g] 36)
  have hz := h.small
  have hba := box_below n g w
  have q0 : (w.alloc (.cells #[.int .i64 n, .int .i64 g] 36)).cell? ⟨w.heap.size, 0, none⟩ = some (.int .i64 n) := by simp
  have q1 : (w.alloc (.cells #[.int .i64 n, .int .i64 g] 36)).cell? ⟨w.heap.size, 1, none⟩ = some (.int .i64 g) := by simp
  have hm := h1.mCells
  have hcc := h1.ccap
  have d0 : decide ((n : Int) < 0) = false := by simp
  have d1 : decide (s.ar.size ≤ n) = false := by simp; omega
  have hbd := h.bound n
  have CT : Hid (s.ar.there n = true) := ct
  clear ct h
  generalize hw1 : w.alloc (.cells #[.int .i64 n, .int .i64 g] 36) = w1 at *
  go_enter Tryd.func26, Tryd.ntmps26
  go_wp2
  go_quiet (fail)
  go_wp2
  have h2 := h1.drewN nq
  have hb2 := below_dN hba nq
  replace q0 : (w1.drewN nq).cell? ⟨w.heap.size, 0, none⟩ = some (.int .i64 n) := q0
  replace q1 : (w1.drewN nq).cell? ⟨w.heap.size, 1, none⟩ = some (.int .i64 g) := q1
  clear hm h1 hba hw1
  generalize w1.drewN nq = w2 at *
  have hm := h2.mCells
  have hw := h2.cWords n hn
  have ht := h2.cTimes n hn
  have hh := h2.cHere n hn
  rw [CT.out] at hh
  have l0 : w.heap.size < w2.heap.size := World.block_lt_of_cell? _ _ q0
  have l1 := h2.lm
  have l2 := h2.lc
  have ni : (n : Int) < s.ar.size := by omega
  go_region
  go_wp2
  go_ret
  exact ⟨rfl, (hb2.alloc hb2.size _).drew⟩

theorem here_not (p : RmPl) (s : Rm) (n : Nat) (g : Int) (w : World) (h : RmAt p s w) (hn : n < s.ar.size) (ct : s.ar.there n = false) :
    Calls Tryd.prog 26 #[.pointer (some ⟨p.mb, 0, none⟩), .agg #[.int .i64 n, .int .i64 g]] w fun e w' => e = .returned (.bool false) ∧ Below w.heap.size w w' := by
  have h1 := h.alloc (.cells #[.int .i64 n, .int .i64 g] 36)
  have hz := h.small
  have hba := box_below n g w
  have q0 : (w.alloc (.cells #[.int .i64 n, .int .i64 g] 36)).cell? ⟨w.heap.size, 0, none⟩ = some (.int .i64 n) := by simp
  have q1 : (w.alloc (.cells #[.int .i64 n, .int .i64 g] 36)).cell? ⟨w.heap.size, 1, none⟩ = some (.int .i64 g) := by simp
  have hm := h1.mCells
  have hcc := h1.ccap
  have d0 : decide ((n : Int) < 0) = false := by simp
  have d1 : decide (s.ar.size ≤ n) = false := by simp; omega
  have hbd := h.bound n
  have CT : Hid (s.ar.there n = false) := ct
  clear ct h
  generalize hw1 : w.alloc (.cells #[.int .i64 n, .int .i64 g] 36) = w1 at *
  go_enter Tryd.func26, Tryd.ntmps26
  go_wp2
  go_quiet (fail)
  go_wp2
  have h2 := h1.drewN nq
  have hb2 := below_dN hba nq
  replace q0 : (w1.drewN nq).cell? ⟨w.heap.size, 0, none⟩ = some (.int .i64 n) := q0
  replace q1 : (w1.drewN nq).cell? ⟨w.heap.size, 1, none⟩ = some (.int .i64 g) := q1
  clear hm h1 hba hw1
  generalize w1.drewN nq = w2 at *
  have hm := h2.mCells
  have hw := h2.cWords n hn
  have ht := h2.cTimes n hn
  have hh := h2.cHere n hn
  rw [CT.out] at hh
  have l0 : w.heap.size < w2.heap.size := World.block_lt_of_cell? _ _ q0
  have l1 := h2.lm
  have l2 := h2.lc
  have ni : (n : Int) < s.ar.size := by omega
  go_region
  go_wp2
  go_ret
  exact ⟨rfl, (hb2.alloc hb2.size _).drew⟩

theorem here_any (p : RmPl) (s : Rm) (c g : Int) (w : World) (h : RmAt p s w) :
    Calls Tryd.prog 26 #[.pointer (some ⟨p.mb, 0, none⟩), .agg #[.int .i64 c, .int .i64 g]] w fun e w' => e = .returned (.bool (s.ar.has c g)) ∧ Below w.heap.size w w' := by
  by_cases c0 : 0 ≤ c
  · obtain ⟨n, rfl⟩ := Int.eq_ofNat_of_zero_le c0
    by_cases hn : n < s.ar.size
    · cases ct : s.ar.there n
      · rw [show s.ar.has n g = false from by simp [Ar.has, ct]]
        exact here_not p s n g w h hn ct
      · rw [show s.ar.has n g = (g == (s.ar.given n : Int) - 1) from by simp [Ar.has, ct, hn]]
        exact here_yes p s n g w h hn ct
    · rw [show s.ar.has n g = false from by simp [Ar.has]; omega]
      have d0 : decide ((n : Int) < 0) = false := by simp
      have d1 : decide (s.ar.size ≤ n) = true := by simp; omega
      have hba := box_below n g w
      have q0 : (w.alloc (.cells #[.int .i64 n, .int .i64 g] 36)).cell? ⟨w.heap.size, 0, none⟩ = some (.int .i64 n) := by simp
      have hm := (h.alloc (.cells #[.int .i64 n, .int .i64 g] 36)).mCells
      clear h hn c0
      generalize hw1 : w.alloc (.cells #[.int .i64 n, .int .i64 g] 36) = w1 at *
      go_enter Tryd.func26, Tryd.ntmps26
      go_wp2
      go_quiet (fail)
      go_wp2
      go_ret
      exact ⟨rfl, below_dN hba _⟩
  · rw [show s.ar.has c g = false from by simp [Ar.has]; omega]
    have d0 : decide (c < 0) = true := by simp; omega
    have hba := box_below c g w
    have q0 : (w.alloc (.cells #[.int .i64 c, .int .i64 g] 36)).cell? ⟨w.heap.size, 0, none⟩ = some (.int .i64 c) := by simp
    clear h c0
    generalize hw1 : w.alloc (.cells #[.int .i64 c, .int .i64 g] 36) = w1 at *
    go_enter Tryd.func26, Tryd.ntmps26
    go_wp2
    go_quiet (fail)
    go_wp2
    go_ret
    exact ⟨rfl, below_dN hba _⟩

theorem at_any (p : RmPl) (s : Rm) (c g k : Int) (w : World) (h : RmAt p s w) :
    Calls Tryd.prog 28 #[.pointer (some ⟨p.mb, 0, none⟩), .agg #[.int .i64 c, .int .i64 g], .int .i64 k] w fun e w' => e = .returned (.int .i64 (s.ar.at c g k)) ∧ Below w.heap.size w w' := by
  have h1 := h.alloc (.cells #[.int .i64 c, .int .i64 g] 36)
  have hba := box_below c g w
  have q0 : (w.alloc (.cells #[.int .i64 c, .int .i64 g] 36)).cell? ⟨w.heap.size, 0, none⟩ = some (.int .i64 c) := by simp
  have q1 : (w.alloc (.cells #[.int .i64 c, .int .i64 g] 36)).cell? ⟨w.heap.size, 1, none⟩ = some (.int .i64 g) := by simp
  have HH : Hid (∀ w, RmAt p s w → Calls Tryd.prog 26 #[.pointer (some ⟨p.mb, 0, none⟩), .agg #[.int .i64 c, .int .i64 g]] w fun e w' => e = .returned (.bool (s.ar.has c g)) ∧ Below w.heap.size w w') := fun w h => here_any p s c g w h
  cases hs : s.ar.has c g
  · rw [show s.ar.at c g k = 7 from by simp [Ar.at, hs]]
    rw [hs] at HH
    clear hs h
    generalize hw1 : w.alloc (.cells #[.int .i64 c, .int .i64 g] 36) = w1 at *
    go_enter Tryd.func28, Tryd.ntmps28
    go_wp2_with fail
    refine (HH.out _ h1).mono ?_
    rintro e2 w2 ⟨rfl, hb2⟩
    have B2 := below_step hba hb2
    clear hb2 q0 q1 h1
    go_wp2
    go_ret
    exact ⟨rfl, B2⟩
  · rw [hs] at HH
    by_cases hk0 : k < 0
    · rw [show s.ar.at c g k = 2 from by simp [Ar.at, hs]; omega]
      clear hs h
      generalize hw1 : w.alloc (.cells #[.int .i64 c, .int .i64 g] 36) = w1 at *
      go_enter Tryd.func28, Tryd.ntmps28
      go_wp2_with fail
      refine (HH.out _ h1).mono ?_
      rintro e2 w2 ⟨rfl, hb2⟩
      have B2 := below_step hba hb2
      clear hb2 q0 q1 h1
      go_wp2
      go_ret
      exact ⟨rfl, B2⟩
    by_cases hk4 : 4 ≤ k
    · rw [show s.ar.at c g k = 2 from by simp [Ar.at, hs]; omega]
      clear hs h
      generalize hw1 : w.alloc (.cells #[.int .i64 c, .int .i64 g] 36) = w1 at *
      go_enter Tryd.func28, Tryd.ntmps28
      go_wp2_with fail
      refine (HH.out _ h1).mono ?_
      rintro e2 w2 ⟨rfl, hb2⟩
      have B2 := below_step hba hb2
      clear hb2 q0 q1 h1
      go_wp2
      go_ret
      exact ⟨rfl, B2⟩
    · rw [show s.ar.at c g k = 0 from by simp [Ar.at, hs]; omega]
      clear hs h
      generalize hw1 : w.alloc (.cells #[.int .i64 c, .int .i64 g] 36) = w1 at *
      go_enter Tryd.func28, Tryd.ntmps28
      go_wp2_with fail
      refine (HH.out _ h1).mono ?_
      rintro e2 w2 ⟨rfl, hb2⟩
      have B2 := below_step hba hb2
      clear hb2 q0 q1 h1
      go_wp2
      go_ret
      exact ⟨rfl, B2⟩

set_option maxHeartbeats 1000000 in
theorem rcount_any (p : RmPl) (s : Rm) (w : World) (h : RmAt p s w) :
    Calls Tryd.prog 30 #[.pointer (some ⟨p.mb, 0, none⟩)] w fun e w' => e = .returned (.int .i64 s.ar.count) ∧ w' = w := by
  have hz := h.small
  have hm := h.mCells
  have hcc := h.ccap
  go_enter Tryd.func30, Tryd.ntmps30
  go_wp2_with fail
  go_loop [3, 4] (fun n i => ∃ j : Nat, j ≤ s.ar.size ∧ i = .int .i64 j ∧ n = .int .i64 (s.ar.countTo j)) (fun _ i => s.ar.size - (intOf i).toNat)
  case atStart => exact ⟨0, Nat.zero_le _, rfl, rfl⟩
  case round =>
    obtain ⟨j, hj, rfl, rfl⟩ := hrel
    by_cases hlt : j < s.ar.size
    · have ht := h.cHere j hlt
      have hcl := s.ar.countTo_le j
      have HS : Hid (s.ar.countTo (j + 1) = s.ar.countTo j + if s.ar.there j = true then 1 else 0) := s.ar.countTo_succ j
      cases ct : s.ar.there j
      · rw [ct] at ht
        go_wp2
        go_round
        case rel => exact ⟨j + 1, by omega, by go_num, by rw [HS.out, ct]; rfl⟩
        case measure => simp [intOf]; omega
      · rw [ct] at ht
        go_wp2
        go_round
        case rel => exact ⟨j + 1, by omega, by go_num, by rw [HS.out, ct]; go_num⟩
        case measure => simp [intOf]; omega
    · obtain rfl : j = s.ar.size := by omega
      go_wp2
      go_ret
      exact ⟨rfl, rfl⟩
end Go.Proofs.YtcnemlamlchnkaaDoor
