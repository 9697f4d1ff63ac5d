import Derived.Test.YtakocdgniplfmaaGreatDoorJ43
import Derived.Test.YtakocdgniplfmaaGreatDoorJ42

/- StN -/
namespace Go.Proofs.YtakocdgniplfmaaGreatDoor
open Go.RowKit Go.Extern.Stop Go.Stop Go.Extern Go.Maps Go.WideMaps Go.Sort

set_option maxRecDepth 100000 in
set_option maxHeartbeats 2000000 in
theorem kcopy_any {a : Nat → Addr} {cs : List (List Ins)} {p : MkPl} {m : Mk} {w : World} (h : MkAt a cs p m w) (h5 : m.marks.length ≤ 500) :
    Calls Tryz.prog 14 #[.pointer (some ⟨p.b, 0, none⟩)] w fun e w' => ∃ v, e = .returned (.pointer (some ⟨w.heap.size, 0, none⟩)) ∧ Hid (MkAt a cs ⟨p.B, w.heap.size, p.pb, p.pc, v⟩ m w' ∧ Below w.heap.size w w' ∧ ∀ k, v.ownBlock = some k → w.heap.size ≤ k) := by
  obtain ⟨C, hC, hc, h1⟩ := h.rowOf
  have hks := machSize C hC
  have HC : Hid (∀ k, k < C.size → C[k]? = w.cell? ⟨p.b, k, none⟩) := hide fun k hk => hc k (by omega)
  have H := hide h
  have Hc := hide hc
  have H5 := hide h5
  obtain ⟨ad0, cap0, hvs, -⟩ := ownsRow_shape h.own
  have hm := h.marks
  have hl := h.lt
  rw [hvs] at hm
  have HV := hide hvs
  clear h h5 hc hvs
  obtain ⟨W2, hW2⟩ : ∃ W2, W2 = (w.alloc (.cells Tryz.zeroCells109 109)).setRow w.heap.size C := ⟨_, rfl⟩
  have hr1 : (w.alloc (.cells Tryz.zeroCells109 109)).heap[w.heap.size]? = some (.cells Tryz.zeroCells109 109 (0, 0)) := heap_alloc_new w _
  have hrow : W2.heap[w.heap.size]? = some (.cells C 109 (0, 0)) := by rw [hW2]; exact setRow_heap _ _ _ _ _ _ hr1
  have hs2 : W2.heap.size = w.heap.size + 1 := by rw [hW2]; simp [World.setRow]
  have hb2 : Below w.heap.size w W2 := by
    rw [hW2]
    exact ⟨rfl, rfl, rfl, by simp [World.setRow], fun k hk => by rw [setRow_other _ _ _ _ (by omega)]; exact Below.heap_alloc w _ k hk⟩
  have hm2 : W2.cell? ⟨p.b, 639, none⟩ = some (.slice ad0 m.marks.length cap0) := keep_cell hb2 hm
  have HCl := hide (cloneM_any (w := W2) (v := .slice ad0 m.marks.length cap0) (by have := (H.out.below hb2).own; rw [HV.out] at this; exact this) (by have := H5.out; omega))
  have HA : Hid (∀ w3 v, Below W2.heap.size W2 w3 → w3.ownsRow W2.heap.size 80 2 v m.marks.length (markCells m.marks) → MkAt a cs ⟨p.B, w.heap.size, p.pb, p.pc, v⟩ m (w3.setCell ⟨w.heap.size, 639, none⟩ v) ∧ Below w.heap.size w (w3.setCell ⟨w.heap.size, 639, none⟩ v) ∧ ∀ k, v.ownBlock = some k → w.heap.size ≤ k) := hide fun w3 v hb hown => by
    obtain ⟨q1, q2⟩ := copy_at H.out Hc.out hs2 hrow hb2 hb hown
    exact ⟨q1, q2, fun k hk => by have := (hown.lt k hk).1; omega⟩
  have hcell : Hid (∀ w3, Below W2.heap.size W2 w3 → (∃ u, w3.cell? ⟨w.heap.size, 639, none⟩ = some u) ∧ w3.frozen? ⟨w.heap.size, 639, none⟩ = false) := hide fun w3 hb => by
    have hr3 : w3.heap[w.heap.size]? = some (.cells C 109 (0, 0)) := (hb.block _ (by omega)).trans hrow
    obtain ⟨u, hu, -⟩ := H.out.whole 639 (by decide)
    exact ⟨⟨u, by rw [cell_of_row hr3, Hc.out 639 (by decide)]; exact hu⟩, frozen_of_row _ _ _ _ _ hr3⟩
  rw [hW2] at hm2
  clear hrow hs2 hb2 hm H Hc HV H5
  go_enter Tryz.func14, Tryz.ntmps14
  go_wp2_with (first
    | refine wpList_load_cells (by rfl) 109 _ (by rfl) p.b (by rfl) C _ HC.out Tryz.underlying109 (by rfl) hks ?_
    | refine wpList_store_row (by rfl) 109 _ _ (by rfl) w.heap.size C (by rfl) (by rfl) 109 Tryz.zeroCells109 hr1 hks (by rw [zeroK_size, hC]) h1 ?_)
  rw [← hW2]
  refine HCl.out.mono ?_
  rintro e w3 ⟨v, rfl, hown, hb⟩
  obtain ⟨⟨u, hu⟩, hf⟩ := hcell.out w3 hb
  have HZ := hide (HA.out w3 v hb hown)
  obtain ⟨ad, cap, rfl, -⟩ := ownsRow_shape hown
  clear HCl HA hcell hown hb hm2 hr1 HC hks h1 hC
  go_wp2
  go_ret
  exact ⟨_, rfl, HZ.out⟩
end Go.Proofs.YtakocdgniplfmaaGreatDoor

/- StL -/
namespace Go.Proofs.YtakocdgniplfmaaGreatDoor
open Go.RowKit

theorem wd_zero : Wd 0 := ⟨by decide, by decide⟩
theorem rowAt_wd {R : List (List Int)} {n : Nat} (h : rowsOk n R = true) (t r : Nat) : Wd (rowAt R t r) := by
  unfold rowAt
  cases ht : R[t]? with
  | none =>
    have e : R.getD t [] = [] := by rw [List.getD_eq_getElem?_getD, ht]; rfl
    rw [e]; exact wd_zero
  | some row =>
    have e : R.getD t [] = row := by rw [List.getD_eq_getElem?_getD, ht]; rfl
    rw [e]
    cases hr : row[r]? with
    | none => rw [List.getD_eq_getElem?_getD, hr]; exact wd_zero
    | some v => rw [List.getD_eq_getElem?_getD, hr]; exact (rowOk_at h ht).2 r v hr
theorem Sta.mach_ok {s : Sta} {n : Nat} (h : s.fits n = true) (h2 : s.cells ≤ 64) (hn : n ≤ 6) : MkOk n 1 (s.mach n) := by
  obtain ⟨-, f2, -, f4⟩ := Sta.fits_of h
  refine ⟨⟨fun t _ x hx => ?_, fun t _ => ?_, fun c k => ?_, fun c => ?_, ?_, hn⟩, rfl, fun t r => rowAt_wd f4 t r, Nat.zero_le _, Nat.zero_le _, fun _ => Nat.zero_le _⟩
  · exact absurd hx List.not_mem_nil
  · exact Nat.zero_le _
  · show Wd (if _ then rowAt s.init c k else 0)
    split
    · exact rowAt_wd f2 c k
    · exact wd_zero
  · show (if c < s.init.length then 1 else 0) ≤ 1
    split <;> decide
  · show s.cells.toNat ≤ 64
    omega
theorem Sta.fault_fits {s : Sta} {cs : List (List Ins)} (h : (s.fault cs).1 = 0) : s.fits cs.length = true ∧ s.cells ≤ 64 ∧ cs.length ≤ 6 ∧ 1 ≤ s.cells := by
  unfold Sta.fault at h
  split at h
  · rename_i h0; exact ⟨h0.2.2.2.2, h0.2.1, h0.2.2.2.1, h0.1⟩
  · cases h
end Go.Proofs.YtakocdgniplfmaaGreatDoor
