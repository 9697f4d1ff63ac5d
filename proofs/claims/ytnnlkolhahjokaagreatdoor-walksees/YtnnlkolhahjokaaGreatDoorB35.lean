import Derived.Test.YtnnlkolhahjokaaGreatDoorB34
import Derived.Test.YtnnlkolhahjokaaGreatDoorB30
import Derived.Test.YtnnlkolhahjokaaGreatDoorB29

/- WkV -/
namespace Go.Proofs.YtnnlkolhahjokaaGreatDoor
open Go.RowKit

def WtIn (x : Wt) : Prop := (0 ≤ x.c ∧ x.c < 64) ∧ (0 ≤ x.g ∧ x.g < 67108864)
def LnOk (s : Rm) : Prop := ∀ t x, x ∈ s.waits t → WtIn x
theorem LnOk.setWaits {s : Rm} (h : LnOk s) (t : Nat) {l : List Wt} (hl : ∀ x ∈ l, WtIn x) : LnOk (s.setWaits t l) := fun u x hx => by
  simp only [Rm.setWaits] at hx
  split at hx
  · exact hl x hx
  · exact h u x hx
theorem LnOk.drained {s : Rm} (h : LnOk s) (t : Nat) (x : Wt) {l : List Wt} (hl : ∀ x ∈ l, WtIn x) : LnOk (s.drained t x l) := by
  unfold Rm.drained
  split
  · exact h.setWaits t hl
  · exact h.setWaits t hl
theorem LnOk.drainAll : ∀ (l : List Wt) {s : Rm} (_ : LnOk s) (t : Nat), (∀ x ∈ l, WtIn x) → LnOk (s.drainAll t l)
  | [], _, h, _, _ => h
  | x :: l, _, h, t, hl => LnOk.drainAll l (h.drained t x (fun y hy => hl y (List.mem_cons_of_mem _ hy))) t (fun y hy => hl y (List.mem_cons_of_mem _ hy))
theorem LnOk.fence {m : Mk} (h : LnOk m.mem) (t : Nat) : LnOk (m.fence t).mem := LnOk.drainAll _ h t (fun x hx => h t x hx)
theorem LnOk.fenceFrom : ∀ (n : Nat) {m : Mk} (_ : LnOk m.mem) (t : Nat), LnOk (m.fenceFrom t n).mem
  | 0, _, h, _ => h
  | n + 1, _, h, t => LnOk.fenceFrom n (h.fence t) (t + 1)
theorem LnOk.drain1 {m : Mk} (h : LnOk m.mem) (t : Nat) : LnOk (m.drain1 t).mem := by
  unfold Mk.drain1
  cases hl : m.mem.waits t with
  | nil => exact h
  | cons x l => exact h.drained t x (fun y hy => h t y (by rw [hl]; exact List.mem_cons_of_mem _ hy))
theorem LnOk.room {m : Mk} (h : LnOk m.mem) (t : Nat) : LnOk (m.room t).mem := by
  unfold Mk.room
  split
  · exact h.drain1 t
  · exact h
theorem LnOk.store {m : Mk} (h : LnOk m.mem) (t : Nat) (n w v : Int) (hn : Wd n) : LnOk (m.store t n w v).mem := by
  unfold Mk.store
  split
  · rename_i hnm
    have h0 : n ≠ 0 := fun e => by subst e; unfold Mk.names at hnm; simp at hnm
    obtain ⟨n1, n2⟩ := hn
    have hr := h.room t
    refine hr.setWaits t (fun x hx => ?_)
    rcases List.mem_append.1 hx with hx | hx
    · exact hr t x hx
    · obtain rfl : x = ⟨cellOf n, genOf n, w, v⟩ := by simpa using hx
      refine ⟨⟨?_, ?_⟩, ?_, ?_⟩
      · show 0 ≤ cellOf n; unfold cellOf; omega
      · show cellOf n < 64; unfold cellOf; omega
      · show 0 ≤ genOf n; unfold genOf; omega
      · show genOf n < 67108864; unfold genOf; omega
  · exact h
theorem LnOk.exec {m : Mk} (h : LnOk m.mem) (hr : ∀ t r, Wd (m.regs t r)) (L : List Ins) (t : Nat) (x : Ins) : LnOk (m.exec L t x).mem := by
  unfold Mk.exec
  dsimp only
  split
  any_goals exact h
  · unfold Mk.load; split <;> exact h
  · exact h.store t _ _ _ (hr _ _)
  · unfold Mk.swap
    split
    · exact h.fence t
    · exact h
  · unfold Mk.cas
    split
    · exact h.fence t
    · exact h
  · unfold Mk.alloc
    split
    · exact h
    · exact h
  · unfold Mk.free
    split
    · exact h.fence t
    · exact h
  · unfold Mk.mark; split <;> exact h
  · unfold Mk.need; split <;> exact h
  · exact h.fence t
  · exact h.fenceFrom _ 0
  · split <;> exact h
  · split <;> exact h
theorem LnOk.step {m : Mk} (h : LnOk m.mem) (hr : ∀ t r, Wd (m.regs t r)) (L : List Ins) (t : Nat) : LnOk (m.step L t).mem := by
  unfold Mk.step
  split
  · exact h
  · exact LnOk.exec (m := m.setPc t (m.pc t + 1)) h hr L t _
theorem LnOk.turnO {m : Mk} (h : LnOk m.mem) (hr : ∀ t r, Wd (m.regs t r)) (cs : List (List Ins)) (n : Int) : LnOk (m.turnO cs n).2.mem := by
  unfold Mk.turnO
  split
  · unfold Mk.stepO
    split
    · split
      · exact h
      · exact h.step hr _ _
    · exact h
  · unfold Mk.drainO
    split
    · split
      · exact h
      · exact h.drain1 _
    · exact h
theorem Rch.ln {cs : List (List Ins)} {m0 m : Mk} {K d : Nat} (h : Rch cs m0 d m) (h0 : MkOk cs.length K m0) (hl : LnOk m0.mem) (hR : Right cs) (hK : K + d ≤ 60000000) : LnOk m.mem := by
  induction h with
  | zero => exact hl
  | turn n hr ih => exact (ih (by omega)).turnO (hr.ok h0 hR (by omega)).regs cs n

theorem mkNums_len {N K : Nat} {m : Mk} (h : MkOk N K m) (hN : N ≤ 6) : (mkNums N m).length ≤ 700 := by
  have la := arNums_len m.mem.ar m.mem.ar.size 0
  have hz := h.mem.small
  have hl : ∀ k, k ≤ m.mem.threads → (linesNums m.mem k).length ≤ 33 * k := by
    intro k
    induction k with
    | zero => intro _; exact Nat.le_refl _
    | succ k ih =>
      intro hk
      have := ih (by omega)
      have := h.mem.few k (by omega)
      have e : (linesNums m.mem (k + 1)).length = (linesNums m.mem k).length + (lnNums (m.mem.waits k)).length := List.length_append
      rw [e, lnNums_len]; omega
  have h1 := hl m.mem.threads (Nat.le_refl _)
  have ht : ∀ k, (thrsNums m k).length = 9 * k := by
    intro k
    induction k with
    | zero => rfl
    | succ k ih =>
      have e : (thrsNums m (k + 1)).length = (thrsNums m k).length + (thrNums m k).length := List.length_append
      rw [e, ih, show (thrNums m k).length = 9 from rfl]; omega
  have h2 := h.mem.thr
  unfold mkNums memNums
  rw [List.length_append, List.length_append, ht]
  omega
theorem Rch.key {cs : List (List Ins)} {m0 m : Mk} {K d : Nat} (h : Rch cs m0 d m) (h0 : MkOk cs.length K m0) (hl : LnOk m0.mem) (hR : Right cs) (hK : K + d ≤ 60000000) : KeyOk cs.length m ∧ keyOf cs.length m ≠ ByteArray.empty := by
  have ok := h.ok h0 hR hK
  have ln := h.ln h0 hl hR hK
  have hpos : 0 < (mkNums cs.length m).length := by
    unfold mkNums
    rw [List.length_append]
    obtain ⟨n, hn⟩ : ∃ n, cs.length = n + 1 := ⟨cs.length - 1, by have := hR.some'; omega⟩
    rw [hn]
    show 0 < _ + (thrsNums m n ++ thrNums m n).length
    rw [List.length_append, show (thrNums m n).length = 9 from rfl]
    omega
  refine ⟨⟨mkNums_range ok (fun c k => ok.mem.words c k) (fun c => by have := ok.mem.given c; omega) (fun t ht x hx => ?_), mkNums_len ok hR.few⟩, fun e => ?_⟩
  · obtain ⟨⟨a1, a2⟩, a3, a4⟩ := ln t x hx
    obtain ⟨⟨b1, b2⟩, b3, b4⟩ := ok.mem.ok t (by rw [ok.thr]; exact ht) x hx
    exact ⟨⟨a1, by omega⟩, ⟨a3, by omega⟩, ⟨b1, by omega⟩, b3, by omega⟩
  · have e2 : (vbs (mkNums cs.length m)) = [] := by
      have := congrArg (fun b : ByteArray => b.data.toList) e
      simpa [keyOf] using this
    cases hL : mkNums cs.length m with
    | nil => rw [hL] at hpos; cases hpos
    | cons x l =>
      rw [hL] at e2
      have e3 : vbs (x :: l) = vb x.toNat ++ vbs l := rfl
      rw [e3] at e2
      exact vb_ne x.toNat (List.append_eq_nil_iff.1 e2).1
end Go.Proofs.YtnnlkolhahjokaaGreatDoor

/- WkW -/
namespace Go.Proofs.YtnnlkolhahjokaaGreatDoor
open Go.RowKit Go.Extern.Stop Go.Stop Go.Extern Go.Maps Go.WideMaps Go.Sort

def toldV (s e : Int) (f : Bool) (v : Value) : Value := .agg #[.int .i64 s, .int .i64 e, .bool f, v]

end Go.Proofs.YtnnlkolhahjokaaGreatDoor

/- StL -/
namespace Go.Proofs.YtnnlkolhahjokaaGreatDoor
open Go.RowKit

theorem wd_zero : Wd 0 := ⟨by decide, by decide⟩
theorem rowAt_wd {R : List (List Int)} {n : Nat} (h : rowsOk n R = true) (t r : Nat) : Wd (rowAt R t r) := by
  unfold rowAt
  cases ht : R[t]? with
  | none =>
    have e : R.getD t [] = [] := by rw [List.getD_eq_getElem?_getD, ht]; rfl
    rw [e]; exact wd_zero
  | some row =>
    have e : R.getD t [] = row := by rw [List.getD_eq_getElem?_getD, ht]; rfl
    rw [e]
    cases hr : row[r]? with
    | none => rw [List.getD_eq_getElem?_getD, hr]; exact wd_zero
    | some v => rw [List.getD_eq_getElem?_getD, hr]; exact (rowOk_at h ht).2 r v hr
theorem Sta.mach_ok {s : Sta} {n : Nat} (h : s.fits n = true) (h2 : s.cells ≤ 64) (hn : n ≤ 6) : MkOk n 1 (s.mach n) := by
  obtain ⟨-, f2, -, f4⟩ := Sta.fits_of h
  refine ⟨⟨fun t _ x hx => ?_, fun t _ => ?_, fun c k => ?_, fun c => ?_, ?_, hn⟩, rfl, fun t r => rowAt_wd f4 t r, Nat.zero_le _, Nat.zero_le _, fun _ => Nat.zero_le _⟩
  · exact absurd hx List.not_mem_nil
  · exact Nat.zero_le _
  · show Wd (if _ then rowAt s.init c k else 0)
    split
    · exact rowAt_wd f2 c k
    · exact wd_zero
  · show (if c < s.init.length then 1 else 0) ≤ 1
    split <;> decide
  · show s.cells.toNat ≤ 64
    omega
theorem Sta.fault_fits {s : Sta} {cs : List (List Ins)} (h : (s.fault cs).1 = 0) : s.fits cs.length = true ∧ s.cells ≤ 64 ∧ cs.length ≤ 6 ∧ 1 ≤ s.cells := by
  unfold Sta.fault at h
  split at h
  · rename_i h0; exact ⟨h0.2.2.2.2, h0.2.1, h0.2.2.2.1, h0.1⟩
  · cases h
end Go.Proofs.YtnnlkolhahjokaaGreatDoor
