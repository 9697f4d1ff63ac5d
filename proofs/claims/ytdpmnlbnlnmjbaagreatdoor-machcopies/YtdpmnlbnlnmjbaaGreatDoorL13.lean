import Derived.Test.YtdpmnlbnlnmjbaaGreatDoorL12
import Derived.Test.YtdpmnlbnlnmjbaaGreatDoorL10

/- StA -/
namespace Go.Proofs.YtdpmnlbnlnmjbaaGreatDoor
open Go.RowKit

structure Sta where
  cells : Int
  init : List (List Int)
  regs : List (List Int)

def wordOk (x : Int) : Bool := decide (0 ≤ x ∧ x < 4294967296)
def rowOk (longest : Nat) (row : List Int) : Bool := decide (row.length ≤ longest) && row.all wordOk
def rowsOk (longest : Nat) (R : List (List Int)) : Bool := R.all (rowOk longest)
noncomputable def codesFrom : Nat → List (List Ins) → Nat × Int
  | _, [] => (0, -1)
  | i, L :: cs => if (codeFault L).1 = 0 then codesFrom (i + 1) cs else ((codeFault L).1, i)
def Sta.fits (s : Sta) (n : Nat) : Bool := (decide ((s.init.length : Int) ≤ s.cells) && rowsOk 4 s.init) && (decide (s.regs.length ≤ n) && rowsOk 8 s.regs)
open Classical in
noncomputable def Sta.fault (s : Sta) (cs : List (List Ins)) : Nat × Int :=
  if 1 ≤ s.cells ∧ s.cells ≤ 64 ∧ 1 ≤ cs.length ∧ cs.length ≤ 6 ∧ s.fits cs.length = true then codesFrom 0 cs else (2, -1)

theorem codesFrom_none : ∀ (cs : List (List Ins)) (i : Nat), (∀ (t : Nat) L, cs[t]? = some L → (codeFault L).1 = 0) → codesFrom i cs = (0, -1)
  | [], _, _ => rfl
  | L :: cs, i, h => by
    unfold codesFrom
    rw [if_pos (h 0 L rfl)]
    exact codesFrom_none cs (i + 1) (fun t L' ht => h (t + 1) L' (by simpa using ht))
theorem codesFrom_hit : ∀ (cs : List (List Ins)) (i j : Nat) (L : List Ins), cs[j]? = some L → (codeFault L).1 ≠ 0 → (∀ (t : Nat) L', t < j → cs[t]? = some L' → (codeFault L').1 = 0) → codesFrom i cs = ((codeFault L).1, ((i + j : Nat) : Int))
  | [], _, _, _, h, _, _ => by simp at h
  | M :: cs, i, j, L, hL, h1, h2 => by
    unfold codesFrom
    cases j with
    | zero => simp at hL; subst hL; rw [if_neg h1]; rfl
    | succ j =>
      rw [if_pos (h2 0 M (by omega) rfl), codesFrom_hit cs (i + 1) j L (by simpa using hL) h1 (fun t L' ht hl => h2 (t + 1) L' (by omega) (by simpa using hl))]
      rw [show i + 1 + j = i + (j + 1) by omega]

theorem faultFrom_zero (l : List Ins) : ∀ (r : List Ins) (j : Nat), (faultFrom l j r).1 = 0 → ∀ (k : Nat) x, r[k]? = some x → insFault l (j + k) x = 0
  | [], _, _, k, x, hx => by simp at hx
  | y :: r, j, h, k, x, hx => by
    unfold faultFrom at h
    split at h
    · rename_i h0
      cases k with
      | zero => simp at hx; subst hx; exact h0
      | succ k => rw [show j + (k + 1) = j + 1 + k by omega]; exact faultFrom_zero l r (j + 1) h k x (by simpa using hx)
    · rename_i h0; exact absurd h h0
theorem insOk_of {L : List Ins} {i : Nat} {x : Ins} (h : insFault L i x = 0) : InsOk L x := by
  unfold insFault at h
  split at h
  · rename_i h0; exact absurd h h0
  · rename_i h0
    split at h
    · cases h
    · split at h
      · cases h
      · rename_i h2
        refine ⟨by simpa using h0, fun ht => ?_⟩
        rcases Int.lt_or_le (labelAt L x.to) 0 with h3 | h3
        · exact absurd ⟨ht, h3⟩ h2
        · exact h3
theorem codeFault_right {L : List Ins} (h : (codeFault L).1 = 0) : L.length ≤ 2000 ∧ ∀ (i : Nat) x, L[i]? = some x → InsOk L x := by
  unfold codeFault at h
  split at h
  · cases h
  · rename_i hl
    exact ⟨by omega, fun i x hx => insOk_of (by simpa using faultFrom_zero L L 0 h i x hx)⟩
theorem codesFrom_zero : ∀ (cs : List (List Ins)) (i : Nat), (codesFrom i cs).1 = 0 → ∀ (t : Nat) L, cs[t]? = some L → (codeFault L).1 = 0
  | [], _, _, t, L, h => by simp at h
  | M :: cs, i, h, t, L, ht => by
    unfold codesFrom at h
    split at h
    · rename_i h0
      cases t with
      | zero => simp at ht; subst ht; exact h0
      | succ t => exact codesFrom_zero cs (i + 1) h t L (by simpa using ht)
    · rename_i h0; exact absurd h h0
theorem right_of {cs : List (List Ins)} (h : ∀ (t : Nat) L, cs[t]? = some L → (codeFault L).1 = 0) (h1 : 1 ≤ cs.length) (h6 : cs.length ≤ 6) (hs : ∀ (t : Nat) L, cs[t]? = some L → ∀ (i : Nat) x, L[i]? = some x → x.to.size ≤ maxLen) : Right cs where
  right t L ht := by
    obtain ⟨h2, h3⟩ := codeFault_right (h t L ht)
    exact ⟨h2, fun i x hx => ⟨h3 i x hx, hs t L ht i x hx⟩⟩
  few := h6
  some' := h1

def rowAt (R : List (List Int)) (t r : Nat) : Int := (R.getD t []).getD r 0
def Ar.filled (s : Ar) (R : List (List Int)) : Ar where
  size := s.size
  given c := if c < R.length then 1 else s.given c
  there c := if c < R.length then true else s.there c
  words c k := if c < R.length ∧ k < 4 then rowAt R c k else s.words c k
def Sta.mach (s : Sta) (n : Nat) : Mk where
  mem := { Rm.fresh s.cells.toNat n with ar := (Rm.fresh s.cells.toNat n).ar.filled s.init }
  regs t r := rowAt s.regs t r
  pc _ := 0
  marks := []
  faults := 0
end Go.Proofs.YtdpmnlbnlnmjbaaGreatDoor

/- MemJ -/
namespace Go.Proofs.YtdpmnlbnlnmjbaaGreatDoor
open Go.RowKit Go.Extern.Stop Go.Stop Go.Extern Go.Sort

theorem ref_below (w : World) : Below w.heap.size w (w.alloc (.cells #[.int .i64 0, .int .i64 0] 95)) := box_below 0 0 w

theorem malloc_full (a : Nat → Addr) (b : Nat) (s : Rm) (t : Nat) (w : World) (hE : EnvM a w) (h : MmAt b s w) (ht : t < s.threads) (hfl : ∀ j, j < s.ar.size → s.ar.there j = true) :
    Calls Tryz.prog 75 #[.pointer (some ⟨b, 0, none⟩), .int .i64 t] w fun e w' => e = .returned (.tuple #[.agg #[.int .i64 0, .int .i64 0], errAt (a 5)]) ∧ Below w.heap.size w w' := by
  have hba := ref_below w
  have h1 := h.alloc (.cells #[.int .i64 0, .int .i64 0] 95)
  have HH := has_m_yes b s t _ h1 ht
  have HA := alloc_full a b 0 s.ar _ (hE.below hba.block) h1.ar hfl
  have z0 : (w.alloc (.cells #[.int .i64 0, .int .i64 0] 95)).cell? ⟨w.heap.size, 0, none⟩ = some (.int .i64 0) := by simp
  have z1 : (w.alloc (.cells #[.int .i64 0, .int .i64 0] 95)).cell? ⟨w.heap.size, 1, none⟩ = some (.int .i64 0) := by simp
  have y0 : (w.alloc (.cells #[.int .i64 0, .int .i64 0] 95)).frozen? ⟨w.heap.size, 0, none⟩ = false := by simp
  have y1 : (w.alloc (.cells #[.int .i64 0, .int .i64 0] 95)).frozen? ⟨w.heap.size, 1, none⟩ = false := by simp
  clear h h1
  generalize hw : w.alloc (.cells #[.int .i64 0, .int .i64 0] 95) = w1 at *
  go_enter Tryz.func75, Tryz.ntmps75
  go_wp2_with fail
  refine HH.mono ?_
  rintro e0 w2 ⟨rfl, rfl⟩
  clear HH hw
  go_wp2_with fail
  refine HA.mono ?_
  rintro e1 w3 ⟨rfl, hb3⟩
  have r0 := keep_cell hb3 z0
  have r1 := keep_cell hb3 z1
  have hzl : w.heap.size < w2.heap.size := World.block_lt_of_cell? _ _ z0
  have x0 : w3.frozen? ⟨w.heap.size, 0, none⟩ = false := by rw [hb3.frozen hzl]; exact y0
  have x1 : w3.frozen? ⟨w.heap.size, 1, none⟩ = false := by rw [hb3.frozen hzl]; exact y1
  have B3 := below_step hba hb3
  clear z0 z1 y0 y1 HA hb3
  go_wp2
  refine bodyPost_ret (v := .tuple #[.agg #[.int .i64 0, .int .i64 0], errAt (a 5)]) (by simp only [results, Tryz.results75]; go_simp) rfl ⟨rfl, ?_⟩
  exact (B3.setCell (Nat.le_refl _) _).setCell (Nat.le_refl _) _

theorem malloc_some (b : Nat) (s : Rm) (t c : Nat) (w : World) (h : MmAt b s w) (ht : t < s.threads) (hc : c < s.ar.size) (hfl : ∀ j, j < c → s.ar.there j = true) (hth : s.ar.there c = false) (hg : s.ar.given c + 1 < 4611686018427387904) :
    Calls Tryz.prog 75 #[.pointer (some ⟨b, 0, none⟩), .int .i64 t] w fun e w' => e = .returned (.tuple #[.agg #[.int .i64 c, .int .i64 (s.ar.given c)], .nilIface]) ∧ MmStep b w (s.give c) w' := by
  have hba := ref_below w
  have h1 := h.alloc (.cells #[.int .i64 0, .int .i64 0] 95)
  have hl := h.lt
  have HH := has_m_yes b s t _ h1 ht
  have HA : Hid (Calls Tryz.prog 103 #[.pointer (some ⟨b, 0, none⟩)] (w.alloc (.cells #[.int .i64 0, .int .i64 0] 95)) fun e w' => e = .returned (.tuple #[.agg #[.int .i64 c, .int .i64 (s.ar.given c)], .nilIface]) ∧ MmStep b (w.alloc (.cells #[.int .i64 0, .int .i64 0] 95)) (s.give c) w') :=
    (alloc_some b 0 s.ar c _ h1.ar hc hfl hth hg).mono fun _ _ ⟨e1, e2, e3⟩ => ⟨e1, h1.arena e2 e3⟩
  have z0 : (w.alloc (.cells #[.int .i64 0, .int .i64 0] 95)).cell? ⟨w.heap.size, 0, none⟩ = some (.int .i64 0) := by simp
  have z1 : (w.alloc (.cells #[.int .i64 0, .int .i64 0] 95)).cell? ⟨w.heap.size, 1, none⟩ = some (.int .i64 0) := by simp
  have y0 : (w.alloc (.cells #[.int .i64 0, .int .i64 0] 95)).frozen? ⟨w.heap.size, 0, none⟩ = false := by simp
  have y1 : (w.alloc (.cells #[.int .i64 0, .int .i64 0] 95)).frozen? ⟨w.heap.size, 1, none⟩ = false := by simp
  clear h h1
  generalize hw : w.alloc (.cells #[.int .i64 0, .int .i64 0] 95) = w1 at *
  go_enter Tryz.func75, Tryz.ntmps75
  go_wp2_with fail
  refine HH.mono ?_
  rintro e0 w2 ⟨rfl, rfl⟩
  clear HH hw
  go_wp2_with fail
  refine HA.out.mono ?_
  rintro e1 w3 ⟨rfl, h3⟩
  have t3 := h3.turns
  have hzl : w.heap.size < w2.heap.size := World.block_lt_of_cell? _ _ z0
  have nb : ¬ w.heap.size = b := by omega
  have r0 := t3.keep z0 (fun e => nb e.1)
  have r1 := t3.keep z1 (fun e => nb e.1)
  have x0 : w3.frozen? ⟨w.heap.size, 0, none⟩ = false := by rw [t3.frozen _ _ hzl (fun e => nb e.1)]; exact y0
  have x1 : w3.frozen? ⟨w.heap.size, 1, none⟩ = false := by rw [t3.frozen _ _ hzl (fun e => nb e.1)]; exact y1
  have S3 := MmStep.of_below hba h3
  clear z0 z1 y0 y1 HA h3 t3
  go_wp2
  refine bodyPost_ret (v := .tuple #[.agg #[.int .i64 c, .int .i64 (s.ar.given c)], .nilIface]) (by simp only [results, Tryz.results75]; go_simp) rfl ⟨rfl, ?_⟩
  exact ⟨(S3.at'.turns ((Turns.refl (fun k _ => k = w.heap.size) _).setCell _ rfl |>.setCell _ rfl) (fun _ _ e => nb e.symm)), ((S3.turns.setNew _ (Nat.le_refl _)).setNew _ (Nat.le_refl _))⟩

end Go.Proofs.YtdpmnlbnlnmjbaaGreatDoor

/- MemK -/
namespace Go.Proofs.YtdpmnlbnlnmjbaaGreatDoor
open Go.RowKit Go.Extern.Stop Go.Stop Go.Extern Go.Sort

theorem mready_ok (a : Nat → Addr) (B b : Nat) (s : Rm) (t : Nat) (c g k : Int) (vs : Value) (w : World) (hE : EnvB a B w) (hB : B ≤ b) (h : MmAt b s w) (ht : t < s.threads) (hx : ∀ x ∈ s.waits t, x.Ok)
    (HA : ∀ w', Below w.heap.size w w' → Calls Tryz.prog 131 #[.pointer (some ⟨b, 0, none⟩), .int .i64 t, .agg #[.int .i64 c, .int .i64 g], .int .i64 k, vs] w' fun e w'' => e = .returned .nilIface ∧ Below w'.heap.size w' w'') :
    Calls Tryz.prog 104 #[.pointer (some ⟨b, 0, none⟩), .int .i64 t, .agg #[.int .i64 c, .int .i64 g], .int .i64 k, vs] w fun e w' => e = .returned (errVal a (fenceNum (decide (0 < s.gone t (s.waits t))))) ∧ MmStep b w (s.drainAll t (s.waits t)) w' := by
  have hba := box_below c g w
  have HA1 := HA _ hba
  have HF : Hid (∀ w', Below w.heap.size w w' → Calls Tryz.prog 132 #[.pointer (some ⟨b, 0, none⟩), .int .i64 t] w' fun e w'' => e = .returned (errVal a (fenceNum (decide (0 < s.gone t (s.waits t))))) ∧ MmStep b w (s.drainAll t (s.waits t)) w'') := fun w' hb =>
    (mfence_any a B b s t w' (hE.below hb) hB (h.below hb) ht hx).mono fun _ _ ⟨e1, e2⟩ => ⟨e1, MmStep.of_below hb e2⟩
  generalize errVal a (fenceNum (decide (0 < s.gone t (s.waits t)))) = r at *
  clear HA h hx
  go_enter Tryz.func104, Tryz.ntmps104
  go_wp2_with fail
  refine HA1.mono ?_
  rintro e0 w2 ⟨rfl, hb2⟩
  have B2 := below_step hba hb2
  clear HA1 hb2
  go_wp2_with fail
  refine (HF.out w2 B2).mono ?_
  rintro e1 w3 ⟨rfl, H3⟩
  clear HF
  go_wp2
  go_ret
  exact ⟨rfl, H3⟩

set_option maxRecDepth 20000 in
set_option maxHeartbeats 1000000 in
theorem mfree_ok (a : Nat → Addr) (B b : Nat) (s : Rm) (t n : Nat) (g : Int) (w : World) (hE : EnvB a B w) (hB : B ≤ b) (h : MmAt b s w) (ht : t < s.threads) (hx : ∀ x ∈ s.waits t, x.Ok) (hn : n < 64) (hh : s.ar.has n g = true) (hg : ¬ 0 < s.gone t (s.waits t)) :
    Calls Tryz.prog 141 #[.pointer (some ⟨b, 0, none⟩), .int .i64 t, .agg #[.int .i64 n, .int .i64 g]] w fun e w' => e = .returned .nilIface ∧ MmStep b w ((s.drainAll t (s.waits t)).setThere n false) w' := by
  have hba := box_below n g w
  have he : s.may t n g 0 [] = 0 := by rw [Rm.may_yes ht, Ar.chk_nil, Ar.at_ok hh (by decide)]
  have HR := mready_ok a B b s t n g 0 (.slice none 0 0) (w.alloc (.cells #[.int .i64 n, .int .i64 g] 95)) (hE.below hba) hB (h.below hba) ht hx (fun w' hb => by
    have := allow_nil a b s t n g 0 w' (hE.env.below (below_step hba hb).block) (h.below (below_step hba hb))
    rw [he] at this
    exact this)
  rw [decide_eq_false hg, show errVal a (fenceNum false) = .nilIface from rfl] at HR
  have hh' : (s.drainAll t (s.waits t)).ar.has n g = true := by rw [Rm.drainAll_has]; exact hh
  generalize s.drainAll t (s.waits t) = D at *
  have HFr : Hid (∀ w', MmStep b w D w' → Calls Tryz.prog 153 #[.pointer (some ⟨b, 0, none⟩), .agg #[.int .i64 n, .int .i64 g]] w' fun e w'' => e = .returned .nilIface ∧ MmStep b w (D.setThere n false) w'') := fun w' hs =>
    (free_yes b 0 D.ar n g w' hs.at'.ar hn hh').mono fun _ _ ⟨e1, e2, e3⟩ => ⟨e1, hs.trans (hs.at'.arena e2 e3)⟩
  have hl := h.lt
  have q0 : (w.alloc (.cells #[.int .i64 n, .int .i64 g] 95)).cell? ⟨w.heap.size, 0, none⟩ = some (.int .i64 n) := by simp
  have q1 : (w.alloc (.cells #[.int .i64 n, .int .i64 g] 95)).cell? ⟨w.heap.size, 1, none⟩ = some (.int .i64 g) := by simp
  clear h he hx hE hh hh'
  generalize hw : w.alloc (.cells #[.int .i64 n, .int .i64 g] 95) = w1 at *
  go_enter Tryz.func141, Tryz.ntmps141
  go_wp2_with fail
  refine HR.mono ?_
  rintro e0 w2 ⟨rfl, h2⟩
  have H2 := MmStep.of_below hba h2
  replace q0 := h2.turns.keep q0 (by omega)
  replace q1 := h2.turns.keep q1 (by omega)
  have HA : Hid (∀ k, Calls Tryz.prog 153 #[.pointer (some ⟨b, 0, none⟩), .agg #[.int .i64 n, .int .i64 g]] (w2.drewN k) fun e w'' => e = .returned .nilIface ∧ MmStep b w (D.setThere n false) w'') := fun k => HFr.out _ (H2.below (Below.drewN' k))
  clear HR hw h2 H2 HFr
  go_wp2_with fail
  go_region_with (go_at_call 153; refine (HA.out 1).mono ?_; rintro e4 w4 ⟨rfl, H4⟩)
  all_goals
    go_wp2
    go_ret
    exact ⟨rfl, H4⟩
end Go.Proofs.YtdpmnlbnlnmjbaaGreatDoor
