import Derived.Test.YtdpmnlbnlnmjbaaGreatDoorK04
import Derived.Lib.QuietBelow
import Derived.OwnWalk
import Derived.RegionTactic
import Derived.BigRegion

/- RefA -/
namespace Go.Proofs.YtdpmnlbnlnmjbaaGreatDoor
open Go.RowKit Go.Extern.Stop Go.Stop Go.Extern Go.Sort

structure Wt where
  c : Int
  g : Int
  w : Int
  v : Int

structure Rm where
  ar : Ar
  threads : Nat
  waits : Nat → List Wt

def Wt.cells (x : Wt) : List Value := [.int .i64 x.c, .int .i64 x.g, .int .i64 x.w, .int .i64 x.v]
def wtCells (l : List Wt) : List Value := l.flatMap Wt.cells

structure RmPl where
  mb : Nat
  cb : Nat
  tb : Nat
  ccap : Nat
  tcap : Nat
  wb : Nat → Nat
  wcap : Nat → Nat
  wv : Nat → Value

def RmPl.fp (p : RmPl) (s : Rm) (k : Nat) : Prop :=
  k = p.mb ∨ k = p.cb ∨ k = p.tb ∨ (∃ c, c < s.ar.size ∧ k = p.wb c) ∨ (∃ t, t < s.threads ∧ (p.wv t).ownBlock = some k)

structure RmAt (p : RmPl) (s : Rm) (w : World) : Prop where
  small : s.ar.size ≤ 64
  few : s.threads ≤ 6
  mCells : w.cell? ⟨p.mb, 0, none⟩ = some (.slice (some ⟨p.cb, 0, none⟩) s.ar.size p.ccap)
  mWaits : w.cell? ⟨p.mb, 1, none⟩ = some (.slice (some ⟨p.tb, 0, none⟩) s.threads p.tcap)
  ccap : s.ar.size ≤ p.ccap
  tcap : s.threads ≤ p.tcap
  cWords : ∀ c, c < s.ar.size → w.cell? ⟨p.cb, c * 3, none⟩ = some (.slice (some ⟨p.wb c, 0, none⟩) 4 (p.wcap c))
  cTimes : ∀ c, c < s.ar.size → w.cell? ⟨p.cb, c * 3 + 1, none⟩ = some (.int .i64 (s.ar.given c))
  cHere : ∀ c, c < s.ar.size → w.cell? ⟨p.cb, c * 3 + 2, none⟩ = some (.bool (s.ar.there c))
  wcap : ∀ c, c < s.ar.size → 4 ≤ p.wcap c
  words : ∀ c k, c < s.ar.size → k < 4 → w.cell? ⟨p.wb c, k, none⟩ = some (.int .i64 (s.ar.words c k))
  bound : ∀ c, s.ar.given c < 4611686018427387904
  waits : ∀ t, t < s.threads → w.cell? ⟨p.tb, t, none⟩ = some (p.wv t) ∧ w.ownsRow 0 175 4 (p.wv t) (s.waits t).length (wtCells (s.waits t))
  fm : ∀ o, w.frozen? ⟨p.mb, o, none⟩ = false
  fc : ∀ o, w.frozen? ⟨p.cb, o, none⟩ = false
  ft : ∀ o, w.frozen? ⟨p.tb, o, none⟩ = false
  fw : ∀ c o, c < s.ar.size → w.frozen? ⟨p.wb c, o, none⟩ = false
  lc : p.cb < w.heap.size
  lt : p.tb < w.heap.size
  d1 : p.mb ≠ p.cb
  d2 : p.mb ≠ p.tb
  d3 : p.cb ≠ p.tb
  dw : ∀ c, c < s.ar.size → p.wb c ≠ p.mb ∧ p.wb c ≠ p.cb ∧ p.wb c ≠ p.tb
  dwi : ∀ c d, c < s.ar.size → d < s.ar.size → c ≠ d → p.wb c ≠ p.wb d
  dv : ∀ t k, t < s.threads → (p.wv t).ownBlock = some k → k ≠ p.mb ∧ k ≠ p.cb ∧ k ≠ p.tb ∧ ∀ c, c < s.ar.size → k ≠ p.wb c
  dvi : ∀ t u k, t < s.threads → u < s.threads → t ≠ u → (p.wv t).ownBlock = some k → (p.wv u).ownBlock ≠ some k

theorem RmAt.lm {p : RmPl} {s : Rm} {w : World} (h : RmAt p s w) : p.mb < w.heap.size := World.block_lt_of_cell? _ _ h.mCells
theorem RmAt.lw {p : RmPl} {s : Rm} {w : World} (h : RmAt p s w) {c : Nat} (hc : c < s.ar.size) : p.wb c < w.heap.size := World.block_lt_of_cell? _ _ (h.words c 0 hc (by decide))
theorem RmAt.lv {p : RmPl} {s : Rm} {w : World} (h : RmAt p s w) {t k : Nat} (ht : t < s.threads) (hk : (p.wv t).ownBlock = some k) : k < w.heap.size := ((h.waits t ht).2.lt k hk).2

theorem RmAt.fp_lt {p : RmPl} {s : Rm} {w : World} (h : RmAt p s w) {k : Nat} (hk : p.fp s k) : k < w.heap.size := by
  rcases hk with rfl | rfl | rfl | ⟨c, hc, rfl⟩ | ⟨t, ht, hv⟩
  · exact h.lm
  · exact h.lc
  · exact h.lt
  · exact h.lw hc
  · exact h.lv ht hv

theorem RmAt.turns {S : Nat → Nat → Prop} {p : RmPl} {s : Rm} {w w' : World} (h : RmAt p s w) (t : Turns S w w') (hS : ∀ k o, p.fp s k → ¬ S k o) : RmAt p s w' where
  small := h.small
  few := h.few
  mCells := t.keep h.mCells (hS _ _ (Or.inl rfl))
  mWaits := t.keep h.mWaits (hS _ _ (Or.inl rfl))
  ccap := h.ccap
  tcap := h.tcap
  cWords c hc := t.keep (h.cWords c hc) (hS _ _ (Or.inr (Or.inl rfl)))
  cTimes c hc := t.keep (h.cTimes c hc) (hS _ _ (Or.inr (Or.inl rfl)))
  cHere c hc := t.keep (h.cHere c hc) (hS _ _ (Or.inr (Or.inl rfl)))
  wcap := h.wcap
  words c k hc hk := t.keep (h.words c k hc hk) (hS _ _ (Or.inr (Or.inr (Or.inr (Or.inl ⟨c, hc, rfl⟩)))))
  bound := h.bound
  waits u hu := ⟨t.keep (h.waits u hu).1 (hS _ _ (Or.inr (Or.inr (Or.inl rfl)))), ownsRow_block (h.waits u hu).2 fun k hk => t.block k (h.lv hu hk) fun o => hS k o (Or.inr (Or.inr (Or.inr (Or.inr ⟨u, hu, hk⟩))))⟩
  fm o := by rw [t.frozen _ _ h.lm (hS _ _ (Or.inl rfl))]; exact h.fm o
  fc o := by rw [t.frozen _ _ h.lc (hS _ _ (Or.inr (Or.inl rfl)))]; exact h.fc o
  ft o := by rw [t.frozen _ _ h.lt (hS _ _ (Or.inr (Or.inr (Or.inl rfl))))]; exact h.ft o
  fw c o hc := by rw [t.frozen _ _ (h.lw hc) (hS _ _ (Or.inr (Or.inr (Or.inr (Or.inl ⟨c, hc, rfl⟩)))))]; exact h.fw c o hc
  lc := Nat.lt_of_lt_of_le h.lc t.size
  lt := Nat.lt_of_lt_of_le h.lt t.size
  d1 := h.d1
  d2 := h.d2
  d3 := h.d3
  dw := h.dw
  dwi := h.dwi
  dv := h.dv
  dvi := h.dvi

theorem RmAt.below {p : RmPl} {s : Rm} {w w' : World} (h : RmAt p s w) (hb : Below w.heap.size w w') : RmAt p s w' :=
  h.turns (Turns.of_below (S := fun _ _ => False) hb) (fun _ _ _ h => h)
theorem RmAt.alloc {p : RmPl} {s : Rm} {w : World} (h : RmAt p s w) (o : Obj) : RmAt p s (w.alloc o) := h.below ((Below.refl _ _).alloc (Nat.le_refl _) _)

theorem RmAt.drewN {p : RmPl} {s : Rm} {w : World} (h : RmAt p s w) (n : Nat) : RmAt p s (w.drewN n) := h.below (Below.drewN' n)

theorem here_yes (p : RmPl) (s : Rm) (n : Nat) (g : Int) (w : World) (h : RmAt p s w) (hn : n < s.ar.size) (ct : s.ar.there n = true) :
    Calls Tryz.prog 88 #[.pointer (some ⟨p.mb, 0, none⟩), .agg #[.int .i64 n, .int .i64 g]] w fun e w' => e = .returned (.bool (g == (s.ar.given n : Int) - 1)) ∧ Below w.heap.size w w' := by
  have h1 := h.alloc (.cells #[.int .i64 n, .int .i64 g] 95)
  have hz := h.small
  have hba := box_below n g w
  have q0 : (w.alloc (.cells #[.int .i64 n, .int .i64 g] 95)).cell? ⟨w.heap.size, 0, none⟩ = some (.int .i64 n) := by simp
  have q1 : (w.alloc (.cells #[.int .i64 n, .int .i64 g] 95)).cell? ⟨w.heap.size, 1, none⟩ = some (.int .i64 g) := by simp
  have hm := h1.mCells
  have hcc := h1.ccap
  have d0 : decide ((n : Int) < 0) = false := by simp
  have d1 : decide (s.ar.size ≤ n) = false := by simp; omega
  have hbd := h.bound n
  have CT : Hid (s.ar.there n = true) := ct
  clear ct h
  generalize hw1 : w.alloc (.cells #[.int .i64 n, .int .i64 g] 95) = w1 at *
  go_enter Tryz.func88, Tryz.ntmps88
  go_wp2
  go_quiet (fail)
  go_wp2
  have h2 := h1.drewN nq
  have hb2 := below_dN hba nq
  replace q0 : (w1.drewN nq).cell? ⟨w.heap.size, 0, none⟩ = some (.int .i64 n) := q0
  replace q1 : (w1.drewN nq).cell? ⟨w.heap.size, 1, none⟩ = some (.int .i64 g) := q1
  clear hm h1 hba hw1
  generalize w1.drewN nq = w2 at *
  have hm := h2.mCells
  have hw := h2.cWords n hn
  have ht := h2.cTimes n hn
  have hh := h2.cHere n hn
  rw [CT.out] at hh
  have l0 : w.heap.size < w2.heap.size := World.block_lt_of_cell? _ _ q0
  have l1 := h2.lm
  have l2 := h2.lc
  have ni : (n : Int) < s.ar.size := by omega
  go_region
  go_wp2
  go_ret
  exact ⟨rfl, (hb2.alloc hb2.size _).drew⟩

theorem here_not (p : RmPl) (s : Rm) (n : Nat) (g : Int) (w : World) (h : RmAt p s w) (hn : n < s.ar.size) (ct : s.ar.there n = false) :
    Calls Tryz.prog 88 #[.pointer (some ⟨p.mb, 0, none⟩), .agg #[.int .i64 n, .int .i64 g]] w fun e w' => e = .returned (.bool false) ∧ Below w.heap.size w w' := by
  have h1 := h.alloc (.cells #[.int .i64 n, .int .i64 g] 95)
  have hz := h.small
  have hba := box_below n g w
  have q0 : (w.alloc (.cells #[.int .i64 n, .int .i64 g] 95)).cell? ⟨w.heap.size, 0, none⟩ = some (.int .i64 n) := by simp
  have q1 : (w.alloc (.cells #[.int .i64 n, .int .i64 g] 95)).cell? ⟨w.heap.size, 1, none⟩ = some (.int .i64 g) := by simp
  have hm := h1.mCells
  have hcc := h1.ccap
  have d0 : decide ((n : Int) < 0) = false := by simp
  have d1 : decide (s.ar.size ≤ n) = false := by simp; omega
  have hbd := h.bound n
  have CT : Hid (s.ar.there n = false) := ct
  clear ct h
  generalize hw1 : w.alloc (.cells #[.int .i64 n, .int .i64 g] 95) = w1 at *
  go_enter Tryz.func88, Tryz.ntmps88
  go_wp2
  go_quiet (fail)
  go_wp2
  have h2 := h1.drewN nq
  have hb2 := below_dN hba nq
  replace q0 : (w1.drewN nq).cell? ⟨w.heap.size, 0, none⟩ = some (.int .i64 n) := q0
  replace q1 : (w1.drewN nq).cell? ⟨w.heap.size, 1, none⟩ = some (.int .i64 g) := q1
  clear hm h1 hba hw1
  generalize w1.drewN nq = w2 at *
  have hm := h2.mCells
  have hw := h2.cWords n hn
  have ht := h2.cTimes n hn
  have hh := h2.cHere n hn
  rw [CT.out] at hh
  have l0 : w.heap.size < w2.heap.size := World.block_lt_of_cell? _ _ q0
  have l1 := h2.lm
  have l2 := h2.lc
  have ni : (n : Int) < s.ar.size := by omega
  go_region
  go_wp2
  go_ret
  exact ⟨rfl, (hb2.alloc hb2.size _).drew⟩

theorem here_any (p : RmPl) (s : Rm) (c g : Int) (w : World) (h : RmAt p s w) :
    Calls Tryz.prog 88 #[.pointer (some ⟨p.mb, 0, none⟩), .agg #[.int .i64 c, .int .i64 g]] w fun e w' => e = .returned (.bool (s.ar.has c g)) ∧ Below w.heap.size w w' := by
  by_cases c0 : 0 ≤ c
  · obtain ⟨n, rfl⟩ := Int.eq_ofNat_of_zero_le c0
    by_cases hn : n < s.ar.size
    · cases ct : s.ar.there n
      · rw [show s.ar.has n g = false from by simp [Ar.has, ct]]
        exact here_not p s n g w h hn ct
      · rw [show s.ar.has n g = (g == (s.ar.given n : Int) - 1) from by simp [Ar.has, ct, hn]]
        exact here_yes p s n g w h hn ct
    · rw [show s.ar.has n g = false from by simp [Ar.has]; omega]
      have d0 : decide ((n : Int) < 0) = false := by simp
      have d1 : decide (s.ar.size ≤ n) = true := by simp; omega
      have hba := box_below n g w
      have q0 : (w.alloc (.cells #[.int .i64 n, .int .i64 g] 95)).cell? ⟨w.heap.size, 0, none⟩ = some (.int .i64 n) := by simp
      have hm := (h.alloc (.cells #[.int .i64 n, .int .i64 g] 95)).mCells
      clear h hn c0
      generalize hw1 : w.alloc (.cells #[.int .i64 n, .int .i64 g] 95) = w1 at *
      go_enter Tryz.func88, Tryz.ntmps88
      go_wp2
      go_quiet (fail)
      go_wp2
      go_ret
      exact ⟨rfl, below_dN hba _⟩
  · rw [show s.ar.has c g = false from by simp [Ar.has]; omega]
    have d0 : decide (c < 0) = true := by simp; omega
    have hba := box_below c g w
    have q0 : (w.alloc (.cells #[.int .i64 c, .int .i64 g] 95)).cell? ⟨w.heap.size, 0, none⟩ = some (.int .i64 c) := by simp
    clear h c0
    generalize hw1 : w.alloc (.cells #[.int .i64 c, .int .i64 g] 95) = w1 at *
    go_enter Tryz.func88, Tryz.ntmps88
    go_wp2
    go_quiet (fail)
    go_wp2
    go_ret
    exact ⟨rfl, below_dN hba _⟩

theorem at_any (p : RmPl) (s : Rm) (c g k : Int) (w : World) (h : RmAt p s w) :
    Calls Tryz.prog 89 #[.pointer (some ⟨p.mb, 0, none⟩), .agg #[.int .i64 c, .int .i64 g], .int .i64 k] w fun e w' => e = .returned (.int .i64 (s.ar.at c g k)) ∧ Below w.heap.size w w' := by
  have h1 := h.alloc (.cells #[.int .i64 c, .int .i64 g] 95)
  have hba := box_below c g w
  have q0 : (w.alloc (.cells #[.int .i64 c, .int .i64 g] 95)).cell? ⟨w.heap.size, 0, none⟩ = some (.int .i64 c) := by simp
  have q1 : (w.alloc (.cells #[.int .i64 c, .int .i64 g] 95)).cell? ⟨w.heap.size, 1, none⟩ = some (.int .i64 g) := by simp
  have HH : Hid (∀ w, RmAt p s w → Calls Tryz.prog 88 #[.pointer (some ⟨p.mb, 0, none⟩), .agg #[.int .i64 c, .int .i64 g]] w fun e w' => e = .returned (.bool (s.ar.has c g)) ∧ Below w.heap.size w w') := fun w h => here_any p s c g w h
  cases hs : s.ar.has c g
  · rw [show s.ar.at c g k = 7 from by simp [Ar.at, hs]]
    rw [hs] at HH
    clear hs h
    generalize hw1 : w.alloc (.cells #[.int .i64 c, .int .i64 g] 95) = w1 at *
    go_enter Tryz.func89, Tryz.ntmps89
    go_wp2_with fail
    refine (HH.out _ h1).mono ?_
    rintro e2 w2 ⟨rfl, hb2⟩
    have B2 := below_step hba hb2
    clear hb2 q0 q1 h1
    go_wp2
    go_ret
    exact ⟨rfl, B2⟩
  · rw [hs] at HH
    by_cases hk0 : k < 0
    · rw [show s.ar.at c g k = 2 from by simp [Ar.at, hs]; omega]
      clear hs h
      generalize hw1 : w.alloc (.cells #[.int .i64 c, .int .i64 g] 95) = w1 at *
      go_enter Tryz.func89, Tryz.ntmps89
      go_wp2_with fail
      refine (HH.out _ h1).mono ?_
      rintro e2 w2 ⟨rfl, hb2⟩
      have B2 := below_step hba hb2
      clear hb2 q0 q1 h1
      go_wp2
      go_ret
      exact ⟨rfl, B2⟩
    by_cases hk4 : 4 ≤ k
    · rw [show s.ar.at c g k = 2 from by simp [Ar.at, hs]; omega]
      clear hs h
      generalize hw1 : w.alloc (.cells #[.int .i64 c, .int .i64 g] 95) = w1 at *
      go_enter Tryz.func89, Tryz.ntmps89
      go_wp2_with fail
      refine (HH.out _ h1).mono ?_
      rintro e2 w2 ⟨rfl, hb2⟩
      have B2 := below_step hba hb2
      clear hb2 q0 q1 h1
      go_wp2
      go_ret
      exact ⟨rfl, B2⟩
    · rw [show s.ar.at c g k = 0 from by simp [Ar.at, hs]; omega]
      clear hs h
      generalize hw1 : w.alloc (.cells #[.int .i64 c, .int .i64 g] 95) = w1 at *
      go_enter Tryz.func89, Tryz.ntmps89
      go_wp2_with fail
      refine (HH.out _ h1).mono ?_
      rintro e2 w2 ⟨rfl, hb2⟩
      have B2 := below_step hba hb2
      clear hb2 q0 q1 h1
      go_wp2
      go_ret
      exact ⟨rfl, B2⟩

set_option maxHeartbeats 1000000 in
theorem rcount_any (p : RmPl) (s : Rm) (w : World) (h : RmAt p s w) :
    Calls Tryz.prog 50 #[.pointer (some ⟨p.mb, 0, none⟩)] w fun e w' => e = .returned (.int .i64 s.ar.count) ∧ w' = w := by
  have hz := h.small
  have hm := h.mCells
  have hcc := h.ccap
  go_enter Tryz.func50, Tryz.ntmps50
  go_wp2_with fail
  go_loop [3, 4] (fun n i => ∃ j : Nat, j ≤ s.ar.size ∧ i = .int .i64 j ∧ n = .int .i64 (s.ar.countTo j)) (fun _ i => s.ar.size - (intOf i).toNat)
  case atStart => exact ⟨0, Nat.zero_le _, rfl, rfl⟩
  case round =>
    obtain ⟨j, hj, rfl, rfl⟩ := hrel
    by_cases hlt : j < s.ar.size
    · have ht := h.cHere j hlt
      have hcl := s.ar.countTo_le j
      have HS : Hid (s.ar.countTo (j + 1) = s.ar.countTo j + if s.ar.there j = true then 1 else 0) := s.ar.countTo_succ j
      cases ct : s.ar.there j
      · rw [ct] at ht
        go_wp2
        go_round
        case rel => exact ⟨j + 1, by omega, by go_num, by rw [HS.out, ct]; rfl⟩
        case measure => simp [intOf]; omega
      · rw [ct] at ht
        go_wp2
        go_round
        case rel => exact ⟨j + 1, by omega, by go_num, by rw [HS.out, ct]; go_num⟩
        case measure => simp [intOf]; omega
    · obtain rfl : j = s.ar.size := by omega
      go_wp2
      go_ret
      exact ⟨rfl, rfl⟩
end Go.Proofs.YtdpmnlbnlnmjbaaGreatDoor

/- RefB -/
namespace Go.Proofs.YtdpmnlbnlnmjbaaGreatDoor
open Go.RowKit Go.Extern.Stop Go.Stop Go.Extern

theorem wtCells_length (l : List Wt) : (wtCells l).length = l.length * 4 := by
  induction l with
  | nil => rfl
  | cons x l ih =>
    rw [show wtCells (x :: l) = x.cells ++ wtCells l from rfl, List.length_append, ih]
    simp [Wt.cells]; omega

theorem wtCells_at (l : List Wt) (i : Nat) (x : Wt) (h : l[i]? = some x) :
    (wtCells l)[i * 4]? = some (.int .i64 x.c) ∧ (wtCells l)[i * 4 + 1]? = some (.int .i64 x.g) ∧ (wtCells l)[i * 4 + 2]? = some (.int .i64 x.w) ∧ (wtCells l)[i * 4 + 3]? = some (.int .i64 x.v) := by
  induction l generalizing i with
  | nil => simp at h
  | cons y l ih =>
    rw [show wtCells (y :: l) = y.cells ++ wtCells l from rfl]
    have hy : y.cells.length = 4 := rfl
    cases i with
    | zero =>
      simp only [List.getElem?_cons_zero, Option.some.injEq] at h
      subst h
      exact ⟨rfl, rfl, rfl, rfl⟩
    | succ i =>
      simp only [List.getElem?_cons_succ] at h
      have := ih i h
      rw [List.getElem?_append_right (by rw [hy]; omega), List.getElem?_append_right (by rw [hy]; omega), List.getElem?_append_right (by rw [hy]; omega), List.getElem?_append_right (by rw [hy]; omega), hy,
        show (i + 1) * 4 - 4 = i * 4 by omega, show (i + 1) * 4 + 1 - 4 = i * 4 + 1 by omega, show (i + 1) * 4 + 2 - 4 = i * 4 + 2 by omega, show (i + 1) * 4 + 3 - 4 = i * 4 + 3 by omega]
      exact this

theorem ownsRow_shape {w : World} {base : Nat} {e : TypeId} {size : Nat} {v : Value} {n : Nat} {xs : List Value} (h : w.ownsRow base e size v n xs) :
    ∃ ad cap, v = .slice ad n cap ∧ n ≤ cap ∧ cap ≤ maxLen ∧ ∀ j u, xs[j]? = some u → ∃ g, ad = some ⟨g, 0, none⟩ ∧ w.cell? ⟨g, j, none⟩ = some u := by
  have h' := h
  obtain ⟨h1, h2⟩ := h
  rcases h2 with ⟨rfl, rfl⟩ | ⟨g, cap, cur, rfl, hg, hh, hn, hm, r⟩
  · refine ⟨none, 0, rfl, Nat.le_refl _, Nat.zero_le _, fun j u hj => ?_⟩
    have : xs = [] := List.length_eq_zero_iff.1 (by omega)
    subst this
    simp at hj
  · refine ⟨_, cap, rfl, hn, hm, fun j u hj => ⟨g, rfl, ?_⟩⟩
    have hlt : j < xs.length := (List.getElem?_eq_some_iff.1 hj).1
    rw [h'.cellAt j (by omega)]
    exact hj

def Wt.pick (c g k : Int) (v : Int) (x : Wt) : Int := if x.c = c ∧ x.g = g ∧ x.w = k then x.v else v

def Rm.load (s : Rm) (t : Nat) (c g k : Int) : Int × Nat :=
  if s.ar.at c g k = 0 then ((s.waits t).foldl (Wt.pick c g k) (s.ar.words c.toNat k.toNat), 0) else (0, s.ar.at c g k)

set_option maxHeartbeats 2000000 in
theorem rload_ok (p : RmPl) (s : Rm) (t n m : Nat) (g : Int) (w : World) (h : RmAt p s w) (ht : t < s.threads) (he : s.ar.at n g m = 0) (hn : n < s.ar.size) (hm : m < 4) (hfew : (s.waits t).length ≤ 1000000) :
    Calls Tryz.prog 57 #[.pointer (some ⟨p.mb, 0, none⟩), .int .i64 t, .agg #[.int .i64 n, .int .i64 g], .int .i64 m] w fun e w' => e = .returned (.tuple #[.int .i64 ((s.waits t).foldl (Wt.pick n g m) (s.ar.words n m)), .int .i64 0]) ∧ Below w.heap.size w w' := by
  have h1 := h.alloc (.cells #[.int .i64 n, .int .i64 g] 95)
  have hba := box_below n g w
  have q0 : (w.alloc (.cells #[.int .i64 n, .int .i64 g] 95)).cell? ⟨w.heap.size, 0, none⟩ = some (.int .i64 n) := by simp
  have q1 : (w.alloc (.cells #[.int .i64 n, .int .i64 g] 95)).cell? ⟨w.heap.size, 1, none⟩ = some (.int .i64 g) := by simp
  have HA : Hid (∀ w, RmAt p s w → Calls Tryz.prog 89 #[.pointer (some ⟨p.mb, 0, none⟩), .agg #[.int .i64 n, .int .i64 g], .int .i64 m] w fun e w' => e = .returned (.int .i64 0) ∧ Below w.heap.size w w') := fun w h => (at_any p s n g m w h).mono fun _ _ ⟨h1, h2⟩ => ⟨by rw [h1, he]; rfl, h2⟩
  clear h he
  have hz := h1.small
  have hf := h1.few
  have hcc := h1.ccap
  have htc := h1.tcap
  have hwc := h1.wcap n hn
  have ni : (n : Int) < s.ar.size := by omega
  have ti : (t : Int) < s.threads := by omega
  have mi : (m : Int) < 4 := by omega
  generalize hw1 : w.alloc (.cells #[.int .i64 n, .int .i64 g] 95) = w1 at *
  go_enter Tryz.func57, Tryz.ntmps57
  go_wp2_with fail
  refine (HA.out _ h1).mono ?_
  rintro e2 w2 ⟨rfl, hb2⟩
  have B2 := below_step hba hb2
  replace q0 := keep_cell hb2 q0
  replace q1 := keep_cell hb2 q1
  have h2 := h1.below hb2
  clear hb2 h1 hw1 HA
  have hm1 := h2.mCells
  have hcw := h2.cWords n hn
  have hwd := h2.words n m hn hm
  go_wp2_with fail
  go_quiet (fail)
  have h3 := h2.drewN nq
  have B3 := below_dN B2 nq
  replace q0 : (w2.drewN nq).cell? ⟨w.heap.size, 0, none⟩ = some (.int .i64 n) := q0
  replace q1 : (w2.drewN nq).cell? ⟨w.heap.size, 1, none⟩ = some (.int .i64 g) := q1
  clear hm1 hcw hwd h2 B2
  generalize w2.drewN nq = w3 at *
  have hm2 := h3.mWaits
  obtain ⟨hv, hown⟩ := h3.waits t ht
  obtain ⟨ad, cap, hvs, hcl, hcm, hcell⟩ := ownsRow_shape hown
  rw [hvs] at hv
  have HV : Hid (∀ j x, (s.waits t)[j]? = some x → ∃ b, ad = some ⟨b, 0, none⟩ ∧ w3.cell? ⟨b, j * 4, none⟩ = some (.int .i64 x.c) ∧ w3.cell? ⟨b, j * 4 + 1, none⟩ = some (.int .i64 x.g) ∧ w3.cell? ⟨b, j * 4 + 2, none⟩ = some (.int .i64 x.w) ∧ w3.cell? ⟨b, j * 4 + 3, none⟩ = some (.int .i64 x.v)) := fun j x hx => by
    obtain ⟨a0, a1, a2, a3⟩ := wtCells_at _ _ _ hx
    obtain ⟨b, hb, e0⟩ := hcell _ _ a0
    obtain ⟨b1, hb1, e1⟩ := hcell _ _ a1
    obtain ⟨b2, hb2, e2⟩ := hcell _ _ a2
    obtain ⟨b3, hb3, e3⟩ := hcell _ _ a3
    obtain rfl : b = b1 := by rw [hb] at hb1; simpa using hb1
    obtain rfl : b = b2 := by rw [hb] at hb2; simpa using hb2
    obtain rfl : b = b3 := by rw [hb] at hb3; simpa using hb3
    exact ⟨b, hb, e0, e1, e2, e3⟩
  clear hcell hown hvs
  go_wp2_with fail
  go_loopw [11, 12, 13] (fun v i _ wr => Below w3.heap.size w3 wr ∧ ∃ j : Nat, j ≤ (s.waits t).length ∧ i = .int .i64 j ∧ v = .int .i64 (((s.waits t).take j).foldl (Wt.pick n g m) (s.ar.words n m))) (fun _ i _ _ => (s.waits t).length - (intOf i).toNat)
  case atStart => exact ⟨Below.refl _ _, 0, Nat.zero_le _, rfl, rfl⟩
  case round =>
    obtain ⟨hbr, j, hj, rfl, rfl⟩ := hrel
    by_cases hlt : j < (s.waits t).length
    · obtain ⟨x, hx⟩ : ∃ x, (s.waits t)[j]? = some x := ⟨_, List.getElem?_eq_getElem hlt⟩
      obtain ⟨b, rfl, e0, e1, e2, e3⟩ := HV.out j x hx
      have HS : Hid (((s.waits t).take (j + 1)).foldl (Wt.pick n g m) (s.ar.words n m) = Wt.pick n g m (((s.waits t).take j).foldl (Wt.pick n g m) (s.ar.words n m)) x) := by
        show _ = _
        rw [List.take_add_one, hx, List.foldl_append]; rfl
      clear HV hx
      generalize ((s.waits t).take j).foldl (Wt.pick n g m) (s.ar.words n m) = acc at *
      have r0 := keep_cell hbr q0
      have r1 := keep_cell hbr q1
      have rm := keep_cell hbr hm2
      have rv := keep_cell hbr hv
      have f0 := keep_cell hbr e0
      have f1 := keep_cell hbr e1
      have f2 := keep_cell hbr e2
      have f3 := keep_cell hbr e3
      have ji : (j : Int) < (s.waits t).length := by omega
      have y0 := World.block_lt_of_cell? _ _ r0
      clear q0 q1 hm2 hv e0 e1 e2 e3
      by_cases b0 : x.c = (n : Int)
      · have t0 : (x.c == (n : Int)) = true := beq_iff_eq.2 b0
        by_cases b1 : x.g = g
        · have t1 : (x.g == g) = true := beq_iff_eq.2 b1
          by_cases b2 : x.w = (m : Int)
          · have t2 : (x.w == (m : Int)) = true := beq_iff_eq.2 b2
            have HP : Hid (Wt.pick n g m acc x = x.v) := if_pos ⟨b0, b1, b2⟩
            clear b0 b1 b2
            go_wp2
            go_roundw
            case rel => exact ⟨(((((hbr.alloc hbr.size _)))) : Below _ _ _), j + 1, by omega, by go_num, by rw [HS.out, HP.out]⟩
            case measure => simp [intOf]; omega
          · have t2 : (x.w == (m : Int)) = false := beq_eq_false_iff_ne.2 b2
            have HP : Hid (Wt.pick n g m acc x = acc) := if_neg (fun h => b2 h.2.2)
            clear b0 b1 b2
            go_wp2
            go_roundw
            case rel => exact ⟨hbr.alloc hbr.size _, j + 1, by omega, by go_num, by rw [HS.out, HP.out]⟩
            case measure => simp [intOf]; omega
        · have t1 : (x.g == g) = false := beq_eq_false_iff_ne.2 b1
          have HP : Hid (Wt.pick n g m acc x = acc) := if_neg (fun h => b1 h.2.1)
          clear b0 b1
          go_wp2
          go_roundw
          case rel => exact ⟨hbr.alloc hbr.size _, j + 1, by omega, by go_num, by rw [HS.out, HP.out]⟩
          case measure => simp [intOf]; omega
      · have t0 : (x.c == (n : Int)) = false := beq_eq_false_iff_ne.2 b0
        have HP : Hid (Wt.pick n g m acc x = acc) := if_neg (fun h => b0 h.1)
        clear b0
        go_wp2
        go_roundw
        case rel => exact ⟨hbr.alloc hbr.size _, j + 1, by omega, by go_num, by rw [HS.out, HP.out]⟩
        case measure => simp [intOf]; omega
    · have HS : Hid (((s.waits t).take j).foldl (Wt.pick n g m) (s.ar.words n m) = (s.waits t).foldl (Wt.pick n g m) (s.ar.words n m)) := by
        show _ = _
        rw [List.take_of_length_le (by omega)]
      have rm := keep_cell hbr hm2
      have rv := keep_cell hbr hv
      have ji : ¬ (j : Int) < (s.waits t).length := by omega
      have BF := below_step B3 hbr
      generalize ((s.waits t).take j).foldl (Wt.pick n g m) (s.ar.words n m) = acc at *
      clear q0 q1 hm2 hv HV
      go_wp2
      go_ret2
      exact ⟨by rw [← HS.out]; rfl, BF⟩
end Go.Proofs.YtdpmnlbnlnmjbaaGreatDoor

/- RefC -/
namespace Go.Proofs.YtdpmnlbnlnmjbaaGreatDoor
open Go.RowKit

def Rm.setThere (s : Rm) (c : Nat) (t : Bool) : Rm := { s with ar := s.ar.setThere c t }
def Rm.setWord (s : Rm) (c k : Nat) (v : Int) : Rm := { s with ar := s.ar.setWord c k v }
def Rm.setGiven (s : Rm) (c g : Nat) : Rm := { s with ar := s.ar.setGiven c g }
def Ar.zero (s : Ar) (c : Nat) : Ar := { s with words := fun j k => if j = c ∧ k < 4 then 0 else s.words j k }
def Rm.zero (s : Rm) (c : Nat) : Rm := { s with ar := s.ar.zero c }
def Rm.give (s : Rm) (c : Nat) : Rm := { s with ar := s.ar.give c }
def RmPl.withWords (p : RmPl) (c b k : Nat) : RmPl := { p with wb := fun j => if j = c then b else p.wb j, wcap := fun j => if j = c then k else p.wcap j }

theorem Rm.give_eq (s : Rm) (c : Nat) : ((s.zero c).setGiven c (s.ar.given c + 1)).setThere c true = s.give c := rfl

theorem RmAt.setThere {p : RmPl} {s : Rm} {w : World} (h : RmAt p s w) (c : Nat) (hc : c < s.ar.size) (t : Bool) : RmAt p (s.setThere c t) (w.setCell ⟨p.cb, c * 3 + 2, none⟩ (.bool t)) where
  small := h.small
  few := h.few
  mCells := cell_ne h.mCells (Or.inl h.d1)
  mWaits := cell_ne h.mWaits (Or.inl h.d1)
  ccap := h.ccap
  tcap := h.tcap
  cWords j hj := cell_ne (h.cWords j hj) (Or.inr (by omega))
  cTimes j hj := cell_ne (h.cTimes j hj) (Or.inr (by omega))
  cHere j hj := by
    by_cases e : j = c
    · subst e
      simp only [Rm.setThere, Ar.setThere, if_true]
      exact World.cell?_setCell_same _ _ _ (h.cHere j hj)
    · simp only [Rm.setThere, Ar.setThere, if_neg e]
      exact cell_ne (h.cHere j hj) (Or.inr (by omega))
  wcap := h.wcap
  words j k hj hk := cell_ne (h.words j k hj hk) (Or.inl (h.dw j hj).2.1)
  bound := h.bound
  waits u hu := ⟨cell_ne (h.waits u hu).1 (Or.inl (Ne.symm h.d3)), ownsRow_block (h.waits u hu).2 fun k hk => Below.heap_setCell _ _ _ _ (h.dv u k hu hk).2.1⟩
  fm o := by rw [World.frozen?_setCell]; exact h.fm o
  fc o := by rw [World.frozen?_setCell]; exact h.fc o
  ft o := by rw [World.frozen?_setCell]; exact h.ft o
  fw j o hj := by rw [World.frozen?_setCell]; exact h.fw j o hj
  lc := by rw [World.size_setCell]; exact h.lc
  lt := by rw [World.size_setCell]; exact h.lt
  d1 := h.d1
  d2 := h.d2
  d3 := h.d3
  dw := h.dw
  dwi := h.dwi
  dv := h.dv
  dvi := h.dvi

theorem RmAt.setGiven {p : RmPl} {s : Rm} {w : World} (h : RmAt p s w) (c : Nat) (hc : c < s.ar.size) (g : Nat) (hg : g < 4611686018427387904) : RmAt p (s.setGiven c g) (w.setCell ⟨p.cb, c * 3 + 1, none⟩ (.int .i64 g)) where
  small := h.small
  few := h.few
  mCells := cell_ne h.mCells (Or.inl h.d1)
  mWaits := cell_ne h.mWaits (Or.inl h.d1)
  ccap := h.ccap
  tcap := h.tcap
  cWords j hj := cell_ne (h.cWords j hj) (Or.inr (by omega))
  cTimes j hj := by
    by_cases e : j = c
    · subst e
      simp only [Rm.setGiven, Ar.setGiven, if_true]
      exact World.cell?_setCell_same _ _ _ (h.cTimes j hj)
    · simp only [Rm.setGiven, Ar.setGiven, if_neg e]
      exact cell_ne (h.cTimes j hj) (Or.inr (by omega))
  cHere j hj := cell_ne (h.cHere j hj) (Or.inr (by omega))
  wcap := h.wcap
  words j k hj hk := cell_ne (h.words j k hj hk) (Or.inl (h.dw j hj).2.1)
  bound j := by
    simp only [Rm.setGiven, Ar.setGiven]
    split
    · exact hg
    · exact h.bound j
  waits u hu := ⟨cell_ne (h.waits u hu).1 (Or.inl (Ne.symm h.d3)), ownsRow_block (h.waits u hu).2 fun k hk => Below.heap_setCell _ _ _ _ (h.dv u k hu hk).2.1⟩
  fm o := by rw [World.frozen?_setCell]; exact h.fm o
  fc o := by rw [World.frozen?_setCell]; exact h.fc o
  ft o := by rw [World.frozen?_setCell]; exact h.ft o
  fw j o hj := by rw [World.frozen?_setCell]; exact h.fw j o hj
  lc := by rw [World.size_setCell]; exact h.lc
  lt := by rw [World.size_setCell]; exact h.lt
  d1 := h.d1
  d2 := h.d2
  d3 := h.d3
  dw := h.dw
  dwi := h.dwi
  dv := h.dv
  dvi := h.dvi

theorem RmAt.setWord {p : RmPl} {s : Rm} {w : World} (h : RmAt p s w) (c m : Nat) (hc : c < s.ar.size) (hm : m < 4) (v : Int) : RmAt p (s.setWord c m v) (w.setCell ⟨p.wb c, m, none⟩ (.int .i64 v)) where
  small := h.small
  few := h.few
  mCells := cell_ne h.mCells (Or.inl (Ne.symm (h.dw c hc).1))
  mWaits := cell_ne h.mWaits (Or.inl (Ne.symm (h.dw c hc).1))
  ccap := h.ccap
  tcap := h.tcap
  cWords j hj := cell_ne (h.cWords j hj) (Or.inl (Ne.symm (h.dw c hc).2.1))
  cTimes j hj := cell_ne (h.cTimes j hj) (Or.inl (Ne.symm (h.dw c hc).2.1))
  cHere j hj := cell_ne (h.cHere j hj) (Or.inl (Ne.symm (h.dw c hc).2.1))
  wcap := h.wcap
  words j k hj hk := by
    by_cases e : j = c ∧ k = m
    · obtain ⟨rfl, rfl⟩ := e
      simp only [Rm.setWord, Ar.setWord, and_self, if_true]
      exact World.cell?_setCell_same _ _ _ (h.words j k hj hk)
    · simp only [Rm.setWord, Ar.setWord, if_neg e]
      by_cases ej : j = c
      · subst ej
        exact cell_ne (h.words j k hj hk) (Or.inr (fun ek => e ⟨rfl, ek⟩))
      · exact cell_ne (h.words j k hj hk) (Or.inl (h.dwi j c hj hc ej))
  bound := h.bound
  waits u hu := ⟨cell_ne (h.waits u hu).1 (Or.inl (Ne.symm (h.dw c hc).2.2)), ownsRow_block (h.waits u hu).2 fun k hk => Below.heap_setCell _ _ _ _ ((h.dv u k hu hk).2.2.2 c hc)⟩
  fm o := by rw [World.frozen?_setCell]; exact h.fm o
  fc o := by rw [World.frozen?_setCell]; exact h.fc o
  ft o := by rw [World.frozen?_setCell]; exact h.ft o
  fw j o hj := by rw [World.frozen?_setCell]; exact h.fw j o hj
  lc := by rw [World.size_setCell]; exact h.lc
  lt := by rw [World.size_setCell]; exact h.lt
  d1 := h.d1
  d2 := h.d2
  d3 := h.d3
  dw := h.dw
  dwi := h.dwi
  dv := h.dv
  dvi := h.dvi

theorem RmAt.newWords {p : RmPl} {s : Rm} {w : World} (h : RmAt p s w) (c : Nat) (hc : c < s.ar.size) :
    RmAt (p.withWords c w.heap.size 4) (s.zero c) ((w.alloc (.cells #[.int .i64 0, .int .i64 0, .int .i64 0, .int .i64 0] 3)).setCell ⟨p.cb, c * 3, none⟩ (.slice (some ⟨w.heap.size, 0, none⟩) 4 4)) := by
  have h1 := h.alloc (.cells #[.int .i64 0, .int .i64 0, .int .i64 0, .int .i64 0] 3)
  have lm := h.lm
  have lc := h.lc
  have lt := h.lt
  refine { small := h.small, few := h.few, mCells := cell_ne h1.mCells (Or.inl h.d1), mWaits := cell_ne h1.mWaits (Or.inl h.d1), ccap := h.ccap, tcap := h.tcap, cWords := fun j hj => ?_, cTimes := fun j hj => cell_ne (h1.cTimes j hj) (Or.inr (by omega)), cHere := fun j hj => cell_ne (h1.cHere j hj) (Or.inr (by omega)), wcap := fun j hj => ?_, words := fun j k hj hk => ?_, bound := h.bound, waits := fun u hu => ?_, fm := fun o => by rw [World.frozen?_setCell]; exact h1.fm o, fc := fun o => by rw [World.frozen?_setCell]; exact h1.fc o, ft := fun o => by rw [World.frozen?_setCell]; exact h1.ft o, fw := fun j o hj => ?_, lc := by rw [World.size_setCell]; exact h1.lc, lt := by rw [World.size_setCell]; exact h1.lt, d1 := h.d1, d2 := h.d2, d3 := h.d3, dw := fun j hj => ?_, dwi := fun i j hi hj hij => ?_, dv := fun u k hu hk => ⟨(h.dv u k hu hk).1, (h.dv u k hu hk).2.1, (h.dv u k hu hk).2.2.1, fun j hj => ?_⟩, dvi := h.dvi }
  · simp only [RmPl.withWords]
    by_cases e : j = c
    · subst e
      rw [if_pos rfl, if_pos rfl]
      exact World.cell?_setCell_same _ _ _ (h1.cWords j hj)
    · rw [if_neg e, if_neg e]
      exact cell_ne (h1.cWords j hj) (Or.inr (by omega))
  · simp only [RmPl.withWords]
    split
    · exact Nat.le_refl _
    · exact h.wcap j hj
  · simp only [RmPl.withWords, Rm.zero, Ar.zero]
    by_cases e : j = c
    · subst e
      rw [if_pos rfl, if_pos ⟨rfl, hk⟩]
      refine cell_ne ?_ (Or.inl (by omega))
      rw [World.cell?_alloc_new]
      match k, hk with
      | 0, _ => rfl
      | 1, _ => rfl
      | 2, _ => rfl
      | 3, _ => rfl
    · rw [if_neg e, if_neg (fun h => e h.1)]
      exact cell_ne (h1.words j k hj hk) (Or.inl (h.dw j hj).2.1)
  · exact ⟨cell_ne (h1.waits u hu).1 (Or.inl (Ne.symm h.d3)), ownsRow_block (h1.waits u hu).2 fun k hk => Below.heap_setCell _ _ _ _ (h.dv u k hu hk).2.1⟩
  · rw [World.frozen?_setCell]
    simp only [RmPl.withWords]
    split
    · exact World.frozen?_alloc_new _ _ _ _
    · exact h1.fw j o hj
  · simp only [RmPl.withWords]
    split
    · exact ⟨by omega, by omega, by omega⟩
    · exact h.dw j hj
  · simp only [RmPl.withWords]
    have li : i < s.ar.size → p.wb i < w.heap.size := fun hi => h.lw hi
    have lj : j < s.ar.size → p.wb j < w.heap.size := fun hj => h.lw hj
    have hi' : i < s.ar.size := hi
    have hj' : j < s.ar.size := hj
    by_cases ei : i = c
    · rw [if_pos ei, if_neg (fun ej => hij (ei.trans ej.symm))]
      have := lj hj'
      omega
    · rw [if_neg ei]
      by_cases ej : j = c
      · rw [if_pos ej]
        have := li hi'
        omega
      · rw [if_neg ej]
        exact h.dwi i j hi hj hij
  · simp only [RmPl.withWords]
    have hl : k < w.heap.size := h.lv hu hk
    split
    · omega
    · exact (h.dv u k hu hk).2.2.2 j hj
end Go.Proofs.YtdpmnlbnlnmjbaaGreatDoor
