import Derived.Test.YtlnjghohgoahpaaGreatDoorM18
import Derived.Test.YtlnjghohgoahpaaGreatDoorM15

/- StA -/
namespace Go.Proofs.YtlnjghohgoahpaaGreatDoor
open Go.RowKit

structure Sta where
  cells : Int
  init : List (List Int)
  regs : List (List Int)

def wordOk (x : Int) : Bool := decide (0 ≤ x ∧ x < 4294967296)
def rowOk (longest : Nat) (row : List Int) : Bool := decide (row.length ≤ longest) && row.all wordOk
def rowsOk (longest : Nat) (R : List (List Int)) : Bool := R.all (rowOk longest)
noncomputable def codesFrom : Nat → List (List Ins) → Nat × Int
  | _, [] => (0, -1)
  | i, L :: cs => if (codeFault L).1 = 0 then codesFrom (i + 1) cs else ((codeFault L).1, i)
def Sta.fits (s : Sta) (n : Nat) : Bool := (decide ((s.init.length : Int) ≤ s.cells) && rowsOk 4 s.init) && (decide (s.regs.length ≤ n) && rowsOk 8 s.regs)
open Classical in
noncomputable def Sta.fault (s : Sta) (cs : List (List Ins)) : Nat × Int :=
  if 1 ≤ s.cells ∧ s.cells ≤ 64 ∧ 1 ≤ cs.length ∧ cs.length ≤ 6 ∧ s.fits cs.length = true then codesFrom 0 cs else (2, -1)

theorem codesFrom_none : ∀ (cs : List (List Ins)) (i : Nat), (∀ (t : Nat) L, cs[t]? = some L → (codeFault L).1 = 0) → codesFrom i cs = (0, -1)
  | [], _, _ => rfl
  | L :: cs, i, h => by
    unfold codesFrom
    rw [if_pos (h 0 L rfl)]
    exact codesFrom_none cs (i + 1) (fun t L' ht => h (t + 1) L' (by simpa using ht))
theorem codesFrom_hit : ∀ (cs : List (List Ins)) (i j : Nat) (L : List Ins), cs[j]? = some L → (codeFault L).1 ≠ 0 → (∀ (t : Nat) L', t < j → cs[t]? = some L' → (codeFault L').1 = 0) → codesFrom i cs = ((codeFault L).1, ((i + j : Nat) : Int))
  | [], _, _, _, h, _, _ => by simp at h
  | M :: cs, i, j, L, hL, h1, h2 => by
    unfold codesFrom
    cases j with
    | zero => simp at hL; subst hL; rw [if_neg h1]; rfl
    | succ j =>
      rw [if_pos (h2 0 M (by omega) rfl), codesFrom_hit cs (i + 1) j L (by simpa using hL) h1 (fun t L' ht hl => h2 (t + 1) L' (by omega) (by simpa using hl))]
      rw [show i + 1 + j = i + (j + 1) by omega]

theorem faultFrom_zero (l : List Ins) : ∀ (r : List Ins) (j : Nat), (faultFrom l j r).1 = 0 → ∀ (k : Nat) x, r[k]? = some x → insFault l (j + k) x = 0
  | [], _, _, k, x, hx => by simp at hx
  | y :: r, j, h, k, x, hx => by
    unfold faultFrom at h
    split at h
    · rename_i h0
      cases k with
      | zero => simp at hx; subst hx; exact h0
      | succ k => rw [show j + (k + 1) = j + 1 + k by omega]; exact faultFrom_zero l r (j + 1) h k x (by simpa using hx)
    · rename_i h0; exact absurd h h0
theorem insOk_of {L : List Ins} {i : Nat} {x : Ins} (h : insFault L i x = 0) : InsOk L x := by
  unfold insFault at h
  split at h
  · rename_i h0; exact absurd h h0
  · rename_i h0
    split at h
    · cases h
    · split at h
      · cases h
      · rename_i h2
        refine ⟨by simpa using h0, fun ht => ?_⟩
        rcases Int.lt_or_le (labelAt L x.to) 0 with h3 | h3
        · exact absurd ⟨ht, h3⟩ h2
        · exact h3
theorem codeFault_right {L : List Ins} (h : (codeFault L).1 = 0) : L.length ≤ 2000 ∧ ∀ (i : Nat) x, L[i]? = some x → InsOk L x := by
  unfold codeFault at h
  split at h
  · cases h
  · rename_i hl
    exact ⟨by omega, fun i x hx => insOk_of (by simpa using faultFrom_zero L L 0 h i x hx)⟩
theorem codesFrom_zero : ∀ (cs : List (List Ins)) (i : Nat), (codesFrom i cs).1 = 0 → ∀ (t : Nat) L, cs[t]? = some L → (codeFault L).1 = 0
  | [], _, _, t, L, h => by simp at h
  | M :: cs, i, h, t, L, ht => by
    unfold codesFrom at h
    split at h
    · rename_i h0
      cases t with
      | zero => simp at ht; subst ht; exact h0
      | succ t => exact codesFrom_zero cs (i + 1) h t L (by simpa using ht)
    · rename_i h0; exact absurd h h0
theorem right_of {cs : List (List Ins)} (h : ∀ (t : Nat) L, cs[t]? = some L → (codeFault L).1 = 0) (h1 : 1 ≤ cs.length) (h6 : cs.length ≤ 6) (hs : ∀ (t : Nat) L, cs[t]? = some L → ∀ (i : Nat) x, L[i]? = some x → x.to.size ≤ maxLen) : Right cs where
  right t L ht := by
    obtain ⟨h2, h3⟩ := codeFault_right (h t L ht)
    exact ⟨h2, fun i x hx => ⟨h3 i x hx, hs t L ht i x hx⟩⟩
  few := h6
  some' := h1

def rowAt (R : List (List Int)) (t r : Nat) : Int := (R.getD t []).getD r 0
def Ar.filled (s : Ar) (R : List (List Int)) : Ar where
  size := s.size
  given c := if c < R.length then 1 else s.given c
  there c := if c < R.length then true else s.there c
  words c k := if c < R.length ∧ k < 4 then rowAt R c k else s.words c k
def Sta.mach (s : Sta) (n : Nat) : Mk where
  mem := { Rm.fresh s.cells.toNat n with ar := (Rm.fresh s.cells.toNat n).ar.filled s.init }
  regs t r := rowAt s.regs t r
  pc _ := 0
  marks := []
  faults := 0
end Go.Proofs.YtlnjghohgoahpaaGreatDoor

/- MemJ -/
namespace Go.Proofs.YtlnjghohgoahpaaGreatDoor
open Go.RowKit Go.Extern.Stop Go.Stop Go.Extern Go.Sort

theorem ref_below (w : World) : Below w.heap.size w (w.alloc (.cells #[.int .i64 0, .int .i64 0] 95)) := box_below 0 0 w

theorem malloc_full (a : Nat → Addr) (b : Nat) (s : Rm) (t : Nat) (w : World) (hE : EnvM a w) (h : MmAt b s w) (ht : t < s.threads) (hfl : ∀ j, j < s.ar.size → s.ar.there j = true) :
    Calls Tryz.prog 78 #[.pointer (some ⟨b, 0, none⟩), .int .i64 t] w fun e w' => e = .returned (.tuple #[.agg #[.int .i64 0, .int .i64 0], errAt (a 5)]) ∧ Below w.heap.size w w' := by
  have hba := ref_below w
  have h1 := h.alloc (.cells #[.int .i64 0, .int .i64 0] 95)
  have HH := has_m_yes b s t _ h1 ht
  have HA := alloc_full a b 0 s.ar _ (hE.below hba.block) h1.ar hfl
  have z0 : (w.alloc (.cells #[.int .i64 0, .int .i64 0] 95)).cell? ⟨w.heap.size, 0, none⟩ = some (.int .i64 0) := by simp
  have z1 : (w.alloc (.cells #[.int .i64 0, .int .i64 0] 95)).cell? ⟨w.heap.size, 1, none⟩ = some (.int .i64 0) := by simp
  have y0 : (w.alloc (.cells #[.int .i64 0, .int .i64 0] 95)).frozen? ⟨w.heap.size, 0, none⟩ = false := by simp
  have y1 : (w.alloc (.cells #[.int .i64 0, .int .i64 0] 95)).frozen? ⟨w.heap.size, 1, none⟩ = false := by simp
  clear h h1
  generalize hw : w.alloc (.cells #[.int .i64 0, .int .i64 0] 95) = w1 at *
  go_enter Tryz.func78, Tryz.ntmps78
  go_wp2_with fail
  refine HH.mono ?_
  rintro e0 w2 ⟨rfl, rfl⟩
  clear HH hw
  go_wp2_with fail
  refine HA.mono ?_
  rintro e1 w3 ⟨rfl, hb3⟩
  have r0 := keep_cell hb3 z0
  have r1 := keep_cell hb3 z1
  have hzl : w.heap.size < w2.heap.size := World.block_lt_of_cell? _ _ z0
  have x0 : w3.frozen? ⟨w.heap.size, 0, none⟩ = false := by rw [hb3.frozen hzl]; exact y0
  have x1 : w3.frozen? ⟨w.heap.size, 1, none⟩ = false := by rw [hb3.frozen hzl]; exact y1
  have B3 := below_step hba hb3
  clear z0 z1 y0 y1 HA hb3
  go_wp2
  refine bodyPost_ret (v := .tuple #[.agg #[.int .i64 0, .int .i64 0], errAt (a 5)]) (by simp only [results, Tryz.results78]; go_simp) rfl ⟨rfl, ?_⟩
  exact (B3.setCell (Nat.le_refl _) _).setCell (Nat.le_refl _) _

theorem malloc_some (b : Nat) (s : Rm) (t c : Nat) (w : World) (h : MmAt b s w) (ht : t < s.threads) (hc : c < s.ar.size) (hfl : ∀ j, j < c → s.ar.there j = true) (hth : s.ar.there c = false) (hg : s.ar.given c + 1 < 4611686018427387904) :
    Calls Tryz.prog 78 #[.pointer (some ⟨b, 0, none⟩), .int .i64 t] w fun e w' => e = .returned (.tuple #[.agg #[.int .i64 c, .int .i64 (s.ar.given c)], .nilIface]) ∧ MmStep b w (s.give c) w' := by
  have hba := ref_below w
  have h1 := h.alloc (.cells #[.int .i64 0, .int .i64 0] 95)
  have hl := h.lt
  have HH := has_m_yes b s t _ h1 ht
  have HA : Hid (Calls Tryz.prog 105 #[.pointer (some ⟨b, 0, none⟩)] (w.alloc (.cells #[.int .i64 0, .int .i64 0] 95)) fun e w' => e = .returned (.tuple #[.agg #[.int .i64 c, .int .i64 (s.ar.given c)], .nilIface]) ∧ MmStep b (w.alloc (.cells #[.int .i64 0, .int .i64 0] 95)) (s.give c) w') :=
    (alloc_some b 0 s.ar c _ h1.ar hc hfl hth hg).mono fun _ _ ⟨e1, e2, e3⟩ => ⟨e1, h1.arena e2 e3⟩
  have z0 : (w.alloc (.cells #[.int .i64 0, .int .i64 0] 95)).cell? ⟨w.heap.size, 0, none⟩ = some (.int .i64 0) := by simp
  have z1 : (w.alloc (.cells #[.int .i64 0, .int .i64 0] 95)).cell? ⟨w.heap.size, 1, none⟩ = some (.int .i64 0) := by simp
  have y0 : (w.alloc (.cells #[.int .i64 0, .int .i64 0] 95)).frozen? ⟨w.heap.size, 0, none⟩ = false := by simp
  have y1 : (w.alloc (.cells #[.int .i64 0, .int .i64 0] 95)).frozen? ⟨w.heap.size, 1, none⟩ = false := by simp
  clear h h1
  generalize hw : w.alloc (.cells #[.int .i64 0, .int .i64 0] 95) = w1 at *
  go_enter Tryz.func78, Tryz.ntmps78
  go_wp2_with fail
  refine HH.mono ?_
  rintro e0 w2 ⟨rfl, rfl⟩
  clear HH hw
  go_wp2_with fail
  refine HA.out.mono ?_
  rintro e1 w3 ⟨rfl, h3⟩
  have t3 := h3.turns
  have hzl : w.heap.size < w2.heap.size := World.block_lt_of_cell? _ _ z0
  have nb : ¬ w.heap.size = b := by omega
  have r0 := t3.keep z0 (fun e => nb e.1)
  have r1 := t3.keep z1 (fun e => nb e.1)
  have x0 : w3.frozen? ⟨w.heap.size, 0, none⟩ = false := by rw [t3.frozen _ _ hzl (fun e => nb e.1)]; exact y0
  have x1 : w3.frozen? ⟨w.heap.size, 1, none⟩ = false := by rw [t3.frozen _ _ hzl (fun e => nb e.1)]; exact y1
  have S3 := MmStep.of_below hba h3
  clear z0 z1 y0 y1 HA h3 t3
  go_wp2
  refine bodyPost_ret (v := .tuple #[.agg #[.int .i64 c, .int .i64 (s.ar.given c)], .nilIface]) (by simp only [results, Tryz.results78]; go_simp) rfl ⟨rfl, ?_⟩
  exact ⟨(S3.at'.turns ((Turns.refl (fun k _ => k = w.heap.size) _).setCell _ rfl |>.setCell _ rfl) (fun _ _ e => nb e.symm)), ((S3.turns.setNew _ (Nat.le_refl _)).setNew _ (Nat.le_refl _))⟩

end Go.Proofs.YtlnjghohgoahpaaGreatDoor
