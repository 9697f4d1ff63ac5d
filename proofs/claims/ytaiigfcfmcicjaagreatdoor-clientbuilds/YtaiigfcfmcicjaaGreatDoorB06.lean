import Derived.Test.YtaiigfcfmcicjaaGreatDoorB05
import Derived.Lib.QuietBelow
import Derived.OwnWalk
import Derived.RegionTactic
import Derived.BigRegion

/- RWord -/
namespace Go.Proofs.YtaiigfcfmcicjaaGreatDoor
open Go.RowKit Go.Extern.Stop Go.Stop Go.Extern

theorem isWordR_any (k : Int) (w : World) :
    Calls Tryz.prog 45 #[.int .i64 k] w fun e w' => e = .returned (.bool (decide (0 ≤ k ∧ k < 4294967296))) ∧ w' = w := by
  by_cases h1 : 0 ≤ k
  · by_cases h2 : k < 4294967296
    · rw [decide_eq_true ⟨h1, h2⟩]
      go_enter Tryz.func45, Tryz.ntmps45
      go_wp2
      go_ret
      exact ⟨rfl, rfl⟩
    · rw [decide_eq_false (fun h => h2 h.2)]
      go_enter Tryz.func45, Tryz.ntmps45
      go_wp2
      go_ret
      exact ⟨rfl, rfl⟩
  · rw [decide_eq_false (fun h => h1 h.1)]
    go_enter Tryz.func45, Tryz.ntmps45
    go_wp2
    go_ret
    exact ⟨rfl, rfl⟩
end Go.Proofs.YtaiigfcfmcicjaaGreatDoor

/- RefA -/
namespace Go.Proofs.YtaiigfcfmcicjaaGreatDoor
open Go.RowKit Go.Extern.Stop Go.Stop Go.Extern Go.Sort

structure Wt where
  c : Int
  g : Int
  w : Int
  v : Int

structure Rm where
  ar : Ar
  threads : Nat
  waits : Nat → List Wt

def Wt.cells (x : Wt) : List Value := [.int .i64 x.c, .int .i64 x.g, .int .i64 x.w, .int .i64 x.v]
def wtCells (l : List Wt) : List Value := l.flatMap Wt.cells

structure RmPl where
  mb : Nat
  cb : Nat
  tb : Nat
  ccap : Nat
  tcap : Nat
  wb : Nat → Nat
  wcap : Nat → Nat
  wv : Nat → Value

def RmPl.fp (p : RmPl) (s : Rm) (k : Nat) : Prop :=
  k = p.mb ∨ k = p.cb ∨ k = p.tb ∨ (∃ c, c < s.ar.size ∧ k = p.wb c) ∨ (∃ t, t < s.threads ∧ (p.wv t).ownBlock = some k)

structure RmAt (p : RmPl) (s : Rm) (w : World) : Prop where
  small : s.ar.size ≤ 64
  few : s.threads ≤ 6
  mCells : w.cell? ⟨p.mb, 0, none⟩ = some (.slice (some ⟨p.cb, 0, none⟩) s.ar.size p.ccap)
  mWaits : w.cell? ⟨p.mb, 1, none⟩ = some (.slice (some ⟨p.tb, 0, none⟩) s.threads p.tcap)
  ccap : s.ar.size ≤ p.ccap
  tcap : s.threads ≤ p.tcap
  cWords : ∀ c, c < s.ar.size → w.cell? ⟨p.cb, c * 3, none⟩ = some (.slice (some ⟨p.wb c, 0, none⟩) 4 (p.wcap c))
  cTimes : ∀ c, c < s.ar.size → w.cell? ⟨p.cb, c * 3 + 1, none⟩ = some (.int .i64 (s.ar.given c))
  cHere : ∀ c, c < s.ar.size → w.cell? ⟨p.cb, c * 3 + 2, none⟩ = some (.bool (s.ar.there c))
  wcap : ∀ c, c < s.ar.size → 4 ≤ p.wcap c
  words : ∀ c k, c < s.ar.size → k < 4 → w.cell? ⟨p.wb c, k, none⟩ = some (.int .i64 (s.ar.words c k))
  bound : ∀ c, s.ar.given c < 4611686018427387904
  waits : ∀ t, t < s.threads → w.cell? ⟨p.tb, t, none⟩ = some (p.wv t) ∧ w.ownsRow 0 176 4 (p.wv t) (s.waits t).length (wtCells (s.waits t))
  fm : ∀ o, w.frozen? ⟨p.mb, o, none⟩ = false
  fc : ∀ o, w.frozen? ⟨p.cb, o, none⟩ = false
  ft : ∀ o, w.frozen? ⟨p.tb, o, none⟩ = false
  fw : ∀ c o, c < s.ar.size → w.frozen? ⟨p.wb c, o, none⟩ = false
  lc : p.cb < w.heap.size
  lt : p.tb < w.heap.size
  d1 : p.mb ≠ p.cb
  d2 : p.mb ≠ p.tb
  d3 : p.cb ≠ p.tb
  dw : ∀ c, c < s.ar.size → p.wb c ≠ p.mb ∧ p.wb c ≠ p.cb ∧ p.wb c ≠ p.tb
  dwi : ∀ c d, c < s.ar.size → d < s.ar.size → c ≠ d → p.wb c ≠ p.wb d
  dv : ∀ t k, t < s.threads → (p.wv t).ownBlock = some k → k ≠ p.mb ∧ k ≠ p.cb ∧ k ≠ p.tb ∧ ∀ c, c < s.ar.size → k ≠ p.wb c
  dvi : ∀ t u k, t < s.threads → u < s.threads → t ≠ u → (p.wv t).ownBlock = some k → (p.wv u).ownBlock ≠ some k

theorem RmAt.lm {p : RmPl} {s : Rm} {w : World} (h : RmAt p s w) : p.mb < w.heap.size := World.block_lt_of_cell? _ _ h.mCells
theorem RmAt.lw {p : RmPl} {s : Rm} {w : World} (h : RmAt p s w) {c : Nat} (hc : c < s.ar.size) : p.wb c < w.heap.size := World.block_lt_of_cell? _ _ (h.words c 0 hc (by decide))
theorem RmAt.lv {p : RmPl} {s : Rm} {w : World} (h : RmAt p s w) {t k : Nat} (ht : t < s.threads) (hk : (p.wv t).ownBlock = some k) : k < w.heap.size := ((h.waits t ht).2.lt k hk).2

theorem RmAt.fp_lt {p : RmPl} {s : Rm} {w : World} (h : RmAt p s w) {k : Nat} (hk : p.fp s k) : k < w.heap.size := by
  rcases hk with rfl | rfl | rfl | ⟨c, hc, rfl⟩ | ⟨t, ht, hv⟩
  · exact h.lm
  · exact h.lc
  · exact h.lt
  · exact h.lw hc
  · exact h.lv ht hv

theorem RmAt.turns {S : Nat → Nat → Prop} {p : RmPl} {s : Rm} {w w' : World} (h : RmAt p s w) (t : Turns S w w') (hS : ∀ k o, p.fp s k → ¬ S k o) : RmAt p s w' where
  small := h.small
  few := h.few
  mCells := t.keep h.mCells (hS _ _ (Or.inl rfl))
  mWaits := t.keep h.mWaits (hS _ _ (Or.inl rfl))
  ccap := h.ccap
  tcap := h.tcap
  cWords c hc := t.keep (h.cWords c hc) (hS _ _ (Or.inr (Or.inl rfl)))
  cTimes c hc := t.keep (h.cTimes c hc) (hS _ _ (Or.inr (Or.inl rfl)))
  cHere c hc := t.keep (h.cHere c hc) (hS _ _ (Or.inr (Or.inl rfl)))
  wcap := h.wcap
  words c k hc hk := t.keep (h.words c k hc hk) (hS _ _ (Or.inr (Or.inr (Or.inr (Or.inl ⟨c, hc, rfl⟩)))))
  bound := h.bound
  waits u hu := ⟨t.keep (h.waits u hu).1 (hS _ _ (Or.inr (Or.inr (Or.inl rfl)))), ownsRow_block (h.waits u hu).2 fun k hk => t.block k (h.lv hu hk) fun o => hS k o (Or.inr (Or.inr (Or.inr (Or.inr ⟨u, hu, hk⟩))))⟩
  fm o := by rw [t.frozen _ _ h.lm (hS _ _ (Or.inl rfl))]; exact h.fm o
  fc o := by rw [t.frozen _ _ h.lc (hS _ _ (Or.inr (Or.inl rfl)))]; exact h.fc o
  ft o := by rw [t.frozen _ _ h.lt (hS _ _ (Or.inr (Or.inr (Or.inl rfl))))]; exact h.ft o
  fw c o hc := by rw [t.frozen _ _ (h.lw hc) (hS _ _ (Or.inr (Or.inr (Or.inr (Or.inl ⟨c, hc, rfl⟩)))))]; exact h.fw c o hc
  lc := Nat.lt_of_lt_of_le h.lc t.size
  lt := Nat.lt_of_lt_of_le h.lt t.size
  d1 := h.d1
  d2 := h.d2
  d3 := h.d3
  dw := h.dw
  dwi := h.dwi
  dv := h.dv
  dvi := h.dvi

theorem RmAt.below {p : RmPl} {s : Rm} {w w' : World} (h : RmAt p s w) (hb : Below w.heap.size w w') : RmAt p s w' :=
  h.turns (Turns.of_below (S := fun _ _ => False) hb) (fun _ _ _ h => h)
theorem RmAt.alloc {p : RmPl} {s : Rm} {w : World} (h : RmAt p s w) (o : Obj) : RmAt p s (w.alloc o) := h.below ((Below.refl _ _).alloc (Nat.le_refl _) _)

theorem RmAt.drewN {p : RmPl} {s : Rm} {w : World} (h : RmAt p s w) (n : Nat) : RmAt p s (w.drewN n) := h.below (Below.drewN' n)

theorem here_yes (p : RmPl) (s : Rm) (n : Nat) (g : Int) (w : World) (h : RmAt p s w) (hn : n < s.ar.size) (ct : s.ar.there n = true) :
    Calls Tryz.prog 46 #[.pointer (some ⟨p.mb, 0, none⟩), .agg #[.int .i64 n, .int .i64 g]] w fun e w' => e = .returned (.bool (g == (s.ar.given n : Int) - 1)) ∧ Below w.heap.size w w' := by
  have h1 := h.alloc (.cells #[.int .i64 n, .int .i64 g] 50)
  have hz := h.small
  have hba := box_below n g w
  have q0 : (w.alloc (.cells #[.int .i64 n, .int .i64 g] 50)).cell? ⟨w.heap.size, 0, none⟩ = some (.int .i64 n) := by simp
  have q1 : (w.alloc (.cells #[.int .i64 n, .int .i64 g] 50)).cell? ⟨w.heap.size, 1, none⟩ = some (.int .i64 g) := by simp
  have hm := h1.mCells
  have hcc := h1.ccap
  have d0 : decide ((n : Int) < 0) = false := by simp
  have d1 : decide (s.ar.size ≤ n) = false := by simp; omega
  have hbd := h.bound n
  have CT : Hid (s.ar.there n = true) := ct
  clear ct h
  generalize hw1 : w.alloc (.cells #[.int .i64 n, .int .i64 g] 50) = w1 at *
  go_enter Tryz.func46, Tryz.ntmps46
  go_wp2
  go_quiet (fail)
  go_wp2
  have h2 := h1.drewN nq
  have hb2 := below_dN hba nq
  replace q0 : (w1.drewN nq).cell? ⟨w.heap.size, 0, none⟩ = some (.int .i64 n) := q0
  replace q1 : (w1.drewN nq).cell? ⟨w.heap.size, 1, none⟩ = some (.int .i64 g) := q1
  clear hm h1 hba hw1
  generalize w1.drewN nq = w2 at *
  have hm := h2.mCells
  have hw := h2.cWords n hn
  have ht := h2.cTimes n hn
  have hh := h2.cHere n hn
  rw [CT.out] at hh
  have l0 : w.heap.size < w2.heap.size := World.block_lt_of_cell? _ _ q0
  have l1 := h2.lm
  have l2 := h2.lc
  have ni : (n : Int) < s.ar.size := by omega
  go_region
  go_wp2
  go_ret
  exact ⟨rfl, (hb2.alloc hb2.size _).drew⟩

theorem here_not (p : RmPl) (s : Rm) (n : Nat) (g : Int) (w : World) (h : RmAt p s w) (hn : n < s.ar.size) (ct : s.ar.there n = false) :
    Calls Tryz.prog 46 #[.pointer (some ⟨p.mb, 0, none⟩), .agg #[.int .i64 n, .int .i64 g]] w fun e w' => e = .returned (.bool false) ∧ Below w.heap.size w w' := by
  have h1 := h.alloc (.cells #[.int .i64 n, .int .i64 g] 50)
  have hz := h.small
  have hba := box_below n g w
  have q0 : (w.alloc (.cells #[.int .i64 n, .int .i64 g] 50)).cell? ⟨w.heap.size, 0, none⟩ = some (.int .i64 n) := by simp
  have q1 : (w.alloc (.cells #[.int .i64 n, .int .i64 g] 50)).cell? ⟨w.heap.size, 1, none⟩ = some (.int .i64 g) := by simp
  have hm := h1.mCells
  have hcc := h1.ccap
  have d0 : decide ((n : Int) < 0) = false := by simp
  have d1 : decide (s.ar.size ≤ n) = false := by simp; omega
  have hbd := h.bound n
  have CT : Hid (s.ar.there n = false) := ct
  clear ct h
  generalize hw1 : w.alloc (.cells #[.int .i64 n, .int .i64 g] 50) = w1 at *
  go_enter Tryz.func46, Tryz.ntmps46
  go_wp2
  go_quiet (fail)
  go_wp2
  have h2 := h1.drewN nq
  have hb2 := below_dN hba nq
  replace q0 : (w1.drewN nq).cell? ⟨w.heap.size, 0, none⟩ = some (.int .i64 n) := q0
  replace q1 : (w1.drewN nq).cell? ⟨w.heap.size, 1, none⟩ = some (.int .i64 g) := q1
  clear hm h1 hba hw1
  generalize w1.drewN nq = w2 at *
  have hm := h2.mCells
  have hw := h2.cWords n hn
  have ht := h2.cTimes n hn
  have hh := h2.cHere n hn
  rw [CT.out] at hh
  have l0 : w.heap.size < w2.heap.size := World.block_lt_of_cell? _ _ q0
  have l1 := h2.lm
  have l2 := h2.lc
  have ni : (n : Int) < s.ar.size := by omega
  go_region
  go_wp2
  go_ret
  exact ⟨rfl, (hb2.alloc hb2.size _).drew⟩

theorem here_any (p : RmPl) (s : Rm) (c g : Int) (w : World) (h : RmAt p s w) :
    Calls Tryz.prog 46 #[.pointer (some ⟨p.mb, 0, none⟩), .agg #[.int .i64 c, .int .i64 g]] w fun e w' => e = .returned (.bool (s.ar.has c g)) ∧ Below w.heap.size w w' := by
  by_cases c0 : 0 ≤ c
  · obtain ⟨n, rfl⟩ := Int.eq_ofNat_of_zero_le c0
    by_cases hn : n < s.ar.size
    · cases ct : s.ar.there n
      · rw [show s.ar.has n g = false from by simp [Ar.has, ct]]
        exact here_not p s n g w h hn ct
      · rw [show s.ar.has n g = (g == (s.ar.given n : Int) - 1) from by simp [Ar.has, ct, hn]]
        exact here_yes p s n g w h hn ct
    · rw [show s.ar.has n g = false from by simp [Ar.has]; omega]
      have d0 : decide ((n : Int) < 0) = false := by simp
      have d1 : decide (s.ar.size ≤ n) = true := by simp; omega
      have hba := box_below n g w
      have q0 : (w.alloc (.cells #[.int .i64 n, .int .i64 g] 50)).cell? ⟨w.heap.size, 0, none⟩ = some (.int .i64 n) := by simp
      have hm := (h.alloc (.cells #[.int .i64 n, .int .i64 g] 50)).mCells
      clear h hn c0
      generalize hw1 : w.alloc (.cells #[.int .i64 n, .int .i64 g] 50) = w1 at *
      go_enter Tryz.func46, Tryz.ntmps46
      go_wp2
      go_quiet (fail)
      go_wp2
      go_ret
      exact ⟨rfl, below_dN hba _⟩
  · rw [show s.ar.has c g = false from by simp [Ar.has]; omega]
    have d0 : decide (c < 0) = true := by simp; omega
    have hba := box_below c g w
    have q0 : (w.alloc (.cells #[.int .i64 c, .int .i64 g] 50)).cell? ⟨w.heap.size, 0, none⟩ = some (.int .i64 c) := by simp
    clear h c0
    generalize hw1 : w.alloc (.cells #[.int .i64 c, .int .i64 g] 50) = w1 at *
    go_enter Tryz.func46, Tryz.ntmps46
    go_wp2
    go_quiet (fail)
    go_wp2
    go_ret
    exact ⟨rfl, below_dN hba _⟩

theorem at_any (p : RmPl) (s : Rm) (c g k : Int) (w : World) (h : RmAt p s w) :
    Calls Tryz.prog 22 #[.pointer (some ⟨p.mb, 0, none⟩), .agg #[.int .i64 c, .int .i64 g], .int .i64 k] w fun e w' => e = .returned (.int .i64 (s.ar.at c g k)) ∧ Below w.heap.size w w' := by
  have h1 := h.alloc (.cells #[.int .i64 c, .int .i64 g] 50)
  have hba := box_below c g w
  have q0 : (w.alloc (.cells #[.int .i64 c, .int .i64 g] 50)).cell? ⟨w.heap.size, 0, none⟩ = some (.int .i64 c) := by simp
  have q1 : (w.alloc (.cells #[.int .i64 c, .int .i64 g] 50)).cell? ⟨w.heap.size, 1, none⟩ = some (.int .i64 g) := by simp
  have HH : Hid (∀ w, RmAt p s w → Calls Tryz.prog 46 #[.pointer (some ⟨p.mb, 0, none⟩), .agg #[.int .i64 c, .int .i64 g]] w fun e w' => e = .returned (.bool (s.ar.has c g)) ∧ Below w.heap.size w w') := fun w h => here_any p s c g w h
  cases hs : s.ar.has c g
  · rw [show s.ar.at c g k = 7 from by simp [Ar.at, hs]]
    rw [hs] at HH
    clear hs h
    generalize hw1 : w.alloc (.cells #[.int .i64 c, .int .i64 g] 50) = w1 at *
    go_enter Tryz.func22, Tryz.ntmps22
    go_wp2_with fail
    refine (HH.out _ h1).mono ?_
    rintro e2 w2 ⟨rfl, hb2⟩
    have B2 := below_step hba hb2
    clear hb2 q0 q1 h1
    go_wp2
    go_ret
    exact ⟨rfl, B2⟩
  · rw [hs] at HH
    by_cases hk0 : k < 0
    · rw [show s.ar.at c g k = 2 from by simp [Ar.at, hs]; omega]
      clear hs h
      generalize hw1 : w.alloc (.cells #[.int .i64 c, .int .i64 g] 50) = w1 at *
      go_enter Tryz.func22, Tryz.ntmps22
      go_wp2_with fail
      refine (HH.out _ h1).mono ?_
      rintro e2 w2 ⟨rfl, hb2⟩
      have B2 := below_step hba hb2
      clear hb2 q0 q1 h1
      go_wp2
      go_ret
      exact ⟨rfl, B2⟩
    by_cases hk4 : 4 ≤ k
    · rw [show s.ar.at c g k = 2 from by simp [Ar.at, hs]; omega]
      clear hs h
      generalize hw1 : w.alloc (.cells #[.int .i64 c, .int .i64 g] 50) = w1 at *
      go_enter Tryz.func22, Tryz.ntmps22
      go_wp2_with fail
      refine (HH.out _ h1).mono ?_
      rintro e2 w2 ⟨rfl, hb2⟩
      have B2 := below_step hba hb2
      clear hb2 q0 q1 h1
      go_wp2
      go_ret
      exact ⟨rfl, B2⟩
    · rw [show s.ar.at c g k = 0 from by simp [Ar.at, hs]; omega]
      clear hs h
      generalize hw1 : w.alloc (.cells #[.int .i64 c, .int .i64 g] 50) = w1 at *
      go_enter Tryz.func22, Tryz.ntmps22
      go_wp2_with fail
      refine (HH.out _ h1).mono ?_
      rintro e2 w2 ⟨rfl, hb2⟩
      have B2 := below_step hba hb2
      clear hb2 q0 q1 h1
      go_wp2
      go_ret
      exact ⟨rfl, B2⟩

end Go.Proofs.YtaiigfcfmcicjaaGreatDoor

/- RefB -/
namespace Go.Proofs.YtaiigfcfmcicjaaGreatDoor
open Go.RowKit Go.Extern.Stop Go.Stop Go.Extern

theorem wtCells_length (l : List Wt) : (wtCells l).length = l.length * 4 := by
  induction l with
  | nil => rfl
  | cons x l ih =>
    rw [show wtCells (x :: l) = x.cells ++ wtCells l from rfl, List.length_append, ih]
    simp [Wt.cells]; omega

theorem wtCells_at (l : List Wt) (i : Nat) (x : Wt) (h : l[i]? = some x) :
    (wtCells l)[i * 4]? = some (.int .i64 x.c) ∧ (wtCells l)[i * 4 + 1]? = some (.int .i64 x.g) ∧ (wtCells l)[i * 4 + 2]? = some (.int .i64 x.w) ∧ (wtCells l)[i * 4 + 3]? = some (.int .i64 x.v) := by
  induction l generalizing i with
  | nil => simp at h
  | cons y l ih =>
    rw [show wtCells (y :: l) = y.cells ++ wtCells l from rfl]
    have hy : y.cells.length = 4 := rfl
    cases i with
    | zero =>
      simp only [List.getElem?_cons_zero, Option.some.injEq] at h
      subst h
      exact ⟨rfl, rfl, rfl, rfl⟩
    | succ i =>
      simp only [List.getElem?_cons_succ] at h
      have := ih i h
      rw [List.getElem?_append_right (by rw [hy]; omega), List.getElem?_append_right (by rw [hy]; omega), List.getElem?_append_right (by rw [hy]; omega), List.getElem?_append_right (by rw [hy]; omega), hy,
        show (i + 1) * 4 - 4 = i * 4 by omega, show (i + 1) * 4 + 1 - 4 = i * 4 + 1 by omega, show (i + 1) * 4 + 2 - 4 = i * 4 + 2 by omega, show (i + 1) * 4 + 3 - 4 = i * 4 + 3 by omega]
      exact this

theorem ownsRow_shape {w : World} {base : Nat} {e : TypeId} {size : Nat} {v : Value} {n : Nat} {xs : List Value} (h : w.ownsRow base e size v n xs) :
    ∃ ad cap, v = .slice ad n cap ∧ n ≤ cap ∧ cap ≤ maxLen ∧ ∀ j u, xs[j]? = some u → ∃ g, ad = some ⟨g, 0, none⟩ ∧ w.cell? ⟨g, j, none⟩ = some u := by
  have h' := h
  obtain ⟨h1, h2⟩ := h
  rcases h2 with ⟨rfl, rfl⟩ | ⟨g, cap, cur, rfl, hg, hh, hn, hm, r⟩
  · refine ⟨none, 0, rfl, Nat.le_refl _, Nat.zero_le _, fun j u hj => ?_⟩
    have : xs = [] := List.length_eq_zero_iff.1 (by omega)
    subst this
    simp at hj
  · refine ⟨_, cap, rfl, hn, hm, fun j u hj => ⟨g, rfl, ?_⟩⟩
    have hlt : j < xs.length := (List.getElem?_eq_some_iff.1 hj).1
    rw [h'.cellAt j (by omega)]
    exact hj

def Wt.pick (c g k : Int) (v : Int) (x : Wt) : Int := if x.c = c ∧ x.g = g ∧ x.w = k then x.v else v

def Rm.load (s : Rm) (t : Nat) (c g k : Int) : Int × Nat :=
  if s.ar.at c g k = 0 then ((s.waits t).foldl (Wt.pick c g k) (s.ar.words c.toNat k.toNat), 0) else (0, s.ar.at c g k)

end Go.Proofs.YtaiigfcfmcicjaaGreatDoor
