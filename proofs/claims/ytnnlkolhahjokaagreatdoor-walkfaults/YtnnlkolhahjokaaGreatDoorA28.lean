import Derived.Test.YtnnlkolhahjokaaGreatDoorA26
import Derived.Test.YtnnlkolhahjokaaGreatDoorA27
import Derived.Test.YtnnlkolhahjokaaGreatDoorA16
import Derived.Test.YtnnlkolhahjokaaGreatDoorA02

/- StL -/
namespace Go.Proofs.YtnnlkolhahjokaaGreatDoor
open Go.RowKit

theorem wd_zero : Wd 0 := ⟨by decide, by decide⟩
theorem rowAt_wd {R : List (List Int)} {n : Nat} (h : rowsOk n R = true) (t r : Nat) : Wd (rowAt R t r) := by
  unfold rowAt
  cases ht : R[t]? with
  | none =>
    have e : R.getD t [] = [] := by rw [List.getD_eq_getElem?_getD, ht]; rfl
    rw [e]; exact wd_zero
  | some row =>
    have e : R.getD t [] = row := by rw [List.getD_eq_getElem?_getD, ht]; rfl
    rw [e]
    cases hr : row[r]? with
    | none => rw [List.getD_eq_getElem?_getD, hr]; exact wd_zero
    | some v => rw [List.getD_eq_getElem?_getD, hr]; exact (rowOk_at h ht).2 r v hr
theorem Sta.mach_ok {s : Sta} {n : Nat} (h : s.fits n = true) (h2 : s.cells ≤ 64) (hn : n ≤ 6) : MkOk n 1 (s.mach n) := by
  obtain ⟨-, f2, -, f4⟩ := Sta.fits_of h
  refine ⟨⟨fun t _ x hx => ?_, fun t _ => ?_, fun c k => ?_, fun c => ?_, ?_, hn⟩, rfl, fun t r => rowAt_wd f4 t r, Nat.zero_le _, Nat.zero_le _, fun _ => Nat.zero_le _⟩
  · exact absurd hx List.not_mem_nil
  · exact Nat.zero_le _
  · show Wd (if _ then rowAt s.init c k else 0)
    split
    · exact rowAt_wd f2 c k
    · exact wd_zero
  · show (if c < s.init.length then 1 else 0) ≤ 1
    split <;> decide
  · show s.cells.toNat ≤ 64
    omega
theorem Sta.fault_fits {s : Sta} {cs : List (List Ins)} (h : (s.fault cs).1 = 0) : s.fits cs.length = true ∧ s.cells ≤ 64 ∧ cs.length ≤ 6 ∧ 1 ≤ s.cells := by
  unfold Sta.fault at h
  split at h
  · rename_i h0; exact ⟨h0.2.2.2.2, h0.2.1, h0.2.2.2.1, h0.1⟩
  · cases h
end Go.Proofs.YtnnlkolhahjokaaGreatDoor

/- StM -/
namespace Go.Proofs.YtnnlkolhahjokaaGreatDoor
open Go.RowKit Go.Extern.Stop Go.Stop Go.Extern Go.Maps Go.WideMaps Go.Sort

theorem RunX.step {a : Nat → Addr} {cs : List (List Ins)} {p : MkPl} {m : Mk} {K : Nat} {w : World} (h : RunX a cs p m K w) (hK : K + 1 ≤ 10000000) (t : Int) :
    Calls Tryz.prog 33 #[.pointer (some ⟨p.b, 0, none⟩), .int .i64 t] w fun e w' => e = .returned (errVal a (m.stepO cs t).1) ∧ ∃ v, RunX a cs (p.marked v) (m.stepO cs t).2 (K + 1) w' ∧ MkStep a cs p w v (m.stepO cs t).2 w' :=
  (kstepO h t).mono fun e w' ⟨e1, v, e2⟩ => ⟨e1, v, h.of e2 (h.ok.stepO h.right t (by omega)) hK, e2⟩

theorem MkStep.belowB {a : Nat → Addr} {cs : List (List Ins)} {p : MkPl} {v : Value} {m m' : Mk} {w w' : World} (k : MkStep a cs p w v m' w') (h : MkAt a cs p m w) {N : Nat} (hB : N ≤ p.B) (hw : N ≤ w.heap.size) : Below N w w' :=
  k.turns.below hw (fun i o hi hf => by have := h.fp_ge hf; omega)

end Go.Proofs.YtnnlkolhahjokaaGreatDoor

/- StK -/
namespace Go.Proofs.YtnnlkolhahjokaaGreatDoor
open Go.RowKit Go.Extern.Stop Go.Stop Go.Extern Go.Maps Go.WideMaps Go.Sort

set_option maxRecDepth 20000 in
set_option maxHeartbeats 2000000 in
theorem vast_any {s : Sta} {ai ar ad : Option Addr} {ci cr cap : Nat} {cs : List (List Ins)} {w : World} (hs : StaAt s ⟨ai, ci, ar, cr⟩ w) (hl : codesAt ad cs w) (hc : cs.length ≤ 9223372036854775807) (hL : ∀ (t : Nat) L, cs[t]? = some L → L.length ≤ 9223372036854775807) :
    Calls Tryz.prog 6 #[.agg #[.int .i64 s.cells, .slice ai s.init.length ci, .slice ar s.regs.length cr], .slice ad cs.length cap] w fun e w' => ∃ v : Int, Hid (v = 0 ∨ v = 1) ∧ e = .returned (.int .i64 v) ∧ Below w.heap.size w w' := by
  obtain ⟨w1, hw1⟩ : ∃ w1, w1 = w.alloc (.cells #[.int .i64 s.cells, .slice ai s.init.length ci, .slice ar s.regs.length cr] 24) := ⟨_, rfl⟩
  have b1 : Below w.heap.size w w1 := by rw [hw1]; exact (Below.refl _ _).alloc (Nat.le_refl _) _
  have e1 : w1.cell? ⟨w.heap.size, 1, none⟩ = some (.slice ai s.init.length ci) := by rw [hw1]; simp
  have e2 : w1.cell? ⟨w.heap.size, 2, none⟩ = some (.slice ar s.regs.length cr) := by rw [hw1]; simp
  have HS := hide (hs.below b1)
  have HL := hide (hl.below b1)
  have HLen := hide hL
  have li := hs.li
  have lr := hs.lr
  have lii : (s.init.length : Int) ≤ 9223372036854775807 := by omega
  have lri : (s.regs.length : Int) ≤ 9223372036854775807 := by omega
  have lci : (cs.length : Int) ≤ 9223372036854775807 := by omega
  clear hs hl hL
  go_enter Tryz.func6, Tryz.ntmps6
  go_wp2_with fail
  rw [← hw1]
  clear hw1
  go_loopw [5, 6] (fun c x wr => ∃ j : Nat, j ≤ s.init.length ∧ x = .int .i64 j ∧ (∃ v, c = .int .i64 v) ∧ wr = w1) (fun _ x _ => s.init.length - (intOf x).toNat)
  case atStart => exact ⟨0, Nat.zero_le _, rfl, ⟨_, rfl⟩, rfl⟩
  case round =>
    obtain ⟨j, hj, rfl, ⟨v, rfl⟩, rfl⟩ := hrel
    by_cases hlt : j < s.init.length
    · obtain ⟨row, hrow⟩ : ∃ x, s.init[j]? = some x := ⟨_, List.getElem?_eq_getElem hlt⟩
      obtain ⟨b, off, adr, capr, hq, c0, hcp, -⟩ := HS.out.init j row hrow
      obtain rfl : ai = some ⟨b, off, none⟩ := hq
      have ji : (j : Int) < s.init.length := by omega
      clear hrow
      go_wp2
      go_roundw
      case rel => exact ⟨j + 1, by omega, by go_num, ⟨_, rfl⟩, by first | trivial | rfl⟩
      case measure => simp [intOf]; omega
    · obtain rfl : j = s.init.length := by omega
      go_wp2_with fail
      go_loopw [5, 7] (fun c x wr' => ∃ j : Nat, j ≤ s.regs.length ∧ x = .int .i64 j ∧ (∃ v, c = .int .i64 v) ∧ wr' = wr) (fun _ x _ => s.regs.length - (intOf x).toNat)
      case atStart => exact ⟨0, Nat.zero_le _, rfl, ⟨_, rfl⟩, rfl⟩
      case round =>
        obtain ⟨j, hj, rfl, ⟨v, rfl⟩, rfl⟩ := hrel
        by_cases hlt : j < s.regs.length
        · obtain ⟨row, hrow⟩ : ∃ x, s.regs[j]? = some x := ⟨_, List.getElem?_eq_getElem hlt⟩
          obtain ⟨b, off, adr, capr, hq, c0, hcp, -⟩ := HS.out.regs j row hrow
          obtain rfl : ar = some ⟨b, off, none⟩ := hq
          have ji : (j : Int) < s.regs.length := by omega
          clear hrow
          go_wp2
          go_roundw
          case rel => exact ⟨j + 1, by omega, by go_num, ⟨_, rfl⟩, by first | trivial | rfl⟩
          case measure => simp [intOf]; omega
        · obtain rfl : j = s.regs.length := by omega
          go_wp2_with fail
          clear e1 e2 HS li lr lii lri
          generalize wr = wZ at *
          have H1 := hide (Below.refl wZ.heap.size wZ)
          go_loopw [5, 8, 9] (fun c x _ wr' => ∃ j : Nat, j ≤ cs.length ∧ x = .int .i64 j ∧ (∃ v, c = .int .i64 v) ∧ Below wZ.heap.size wZ wr') (fun _ x _ _ => cs.length - (intOf x).toNat)
          case atStart => exact ⟨0, Nat.zero_le _, rfl, ⟨_, rfl⟩, H1.out⟩
          case round =>
            obtain ⟨j, hj, rfl, ⟨v, rfl⟩, hB⟩ := hrel
            by_cases hlt : j < cs.length
            · obtain ⟨L, hLj⟩ : ∃ x, cs[j]? = some x := ⟨_, List.getElem?_eq_getElem hlt⟩
              obtain ⟨b, off, adl, capl, rfl, cW, hcp, hins, -⟩ := HL.out j L hLj
              have ji : (j : Int) < cs.length := by omega
              have c0 := keep_cell hB cW
              have HI := hide hins
              have hl1 := HLen.out j L hLj
              have hl2 : (L.length : Int) ≤ 9223372036854775807 := by omega
              have HB := hide hB
              clear hLj hins hB
              go_wp2_with fail
              go_loopw [5, 9] (fun c x wr' => ∃ k : Nat, k ≤ L.length ∧ x = .int .i64 k ∧ (∃ v, c = .int .i64 v) ∧ Below wZ.heap.size wZ wr') (fun _ x _ => L.length - (intOf x).toNat)
              case atStart => exact ⟨0, Nat.zero_le _, rfl, ⟨_, rfl⟩, HB.out⟩
              case round =>
                obtain ⟨k, hk, rfl, ⟨v, rfl⟩, hB2⟩ := hrel
                replace c0 := keep_cell hB2 cW
                have HB2 := hide hB2
                by_cases hkl : k < L.length
                · obtain ⟨x, hx⟩ : ∃ x, L[k]? = some x := ⟨_, List.getElem?_eq_getElem hkl⟩
                  obtain ⟨b2, off2, rfl, a0, -, -, -, a4⟩ := insAt_below HI.out hB2 k x hx
                  have ki : (k : Int) < L.length := by omega
                  clear hx hB2
                  go_wp2_with fail
                  go_quiet (fail)
                  have H5 := hide (below_dN HB2.out nq)
                  go_wp2
                  go_roundw
                  case rel => exact ⟨k + 1, by omega, by go_num, ⟨_, rfl⟩, H5.out⟩
                  case measure => simp [intOf]; omega
                · obtain rfl : k = L.length := by omega
                  clear hB2
                  go_wp2
                  go_roundw
                  case rel => exact ⟨j + 1, by omega, by go_num, ⟨_, rfl⟩, HB2.out⟩
                  case measure => simp [intOf]; omega
            · obtain rfl : j = cs.length := by omega
              have HB := hide (below_step b1 hB)
              clear hB HL HLen
              by_cases h6 : 600 < v
              · go_wp2
                go_ret
                exact ⟨1, Or.inr rfl, rfl, HB.out⟩
              · go_wp2
                go_ret
                exact ⟨0, Or.inl rfl, rfl, HB.out⟩
end Go.Proofs.YtnnlkolhahjokaaGreatDoor
