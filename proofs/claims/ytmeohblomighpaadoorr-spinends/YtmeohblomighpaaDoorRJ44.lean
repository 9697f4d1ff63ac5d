import Derived.Test.YtmeohblomighpaaDoorRJ41
import Derived.Test.YtmeohblomighpaaDoorRJ43

/- StL -/
namespace Go.Proofs.YtmeohblomighpaaDoorR
open Go.RowKit

theorem wd_zero : Wd 0 := ⟨by decide, by decide⟩
theorem rowAt_wd {R : List (List Int)} {n : Nat} (h : rowsOk n R = true) (t r : Nat) : Wd (rowAt R t r) := by
  unfold rowAt
  cases ht : R[t]? with
  | none =>
    have e : R.getD t [] = [] := by rw [List.getD_eq_getElem?_getD, ht]; rfl
    rw [e]; exact wd_zero
  | some row =>
    have e : R.getD t [] = row := by rw [List.getD_eq_getElem?_getD, ht]; rfl
    rw [e]
    cases hr : row[r]? with
    | none => rw [List.getD_eq_getElem?_getD, hr]; exact wd_zero
    | some v => rw [List.getD_eq_getElem?_getD, hr]; exact (rowOk_at h ht).2 r v hr
theorem Sta.mach_ok {s : Sta} {n : Nat} (h : s.fits n = true) (h2 : s.cells ≤ 64) (hn : n ≤ 6) : MkOk n 1 (s.mach n) := by
  obtain ⟨-, f2, -, f4⟩ := Sta.fits_of h
  refine ⟨⟨fun t _ x hx => ?_, fun t _ => ?_, fun c k => ?_, fun c => ?_, ?_, hn⟩, rfl, fun t r => rowAt_wd f4 t r, Nat.zero_le _, Nat.zero_le _, fun _ => Nat.zero_le _⟩
  · exact absurd hx List.not_mem_nil
  · exact Nat.zero_le _
  · show Wd (if _ then rowAt s.init c k else 0)
    split
    · exact rowAt_wd f2 c k
    · exact wd_zero
  · show (if c < s.init.length then 1 else 0) ≤ 1
    split <;> decide
  · show s.cells.toNat ≤ 64
    omega
end Go.Proofs.YtmeohblomighpaaDoorR

/- SpJ -/
namespace Go.Proofs.YtmeohblomighpaaDoorR
open Go.RowKit Go.Extern.Stop Go.Stop Go.Extern Go.Maps Go.WideMaps Go.Sort

theorem rowsInfo : ∃ i, (Tryd.prog).info? 36 = some i ∧ i.zero = some (.slice none 0 0) ∧ i.size = 1 ∧ i.bytes = 24 := info_parts (by kernel_rfl)
theorem codesInfo : ∃ i, (Tryd.prog).info? 23 = some i ∧ i.zero = some (.slice none 0 0) ∧ i.size = 1 ∧ i.bytes = 24 := info_parts (by kernel_rfl)

theorem Prep.first {tm : Nat} {w w1 : World} (hb : Below w.heap.size w w1) : ∃ vs rv rs, Prep tm 0 0 w (w1.heap.size + 1 + 1 + 1) (w1.heap.size + 1 + 1) (w1.heap.size + 1) (.slice none 0 0) vs rv rs (((w1.alloc (.cells #[] 3)).alloc (.cells #[.slice (some ⟨w1.heap.size, 0, none⟩) 0 0] 36)).alloc (.cells #[.int .i64 1, .slice (some ⟨w1.heap.size + 1, 0, none⟩) 1 1, .slice none 0 0] 39)) := by
  have hs := hb.size
  obtain ⟨Wa, hWa⟩ : ∃ Wa, Wa = (w1.alloc (.cells #[] 3)).alloc (.cells #[.slice (some ⟨w1.heap.size, 0, none⟩) 0 0] 36) := ⟨_, rfl⟩
  rw [← hWa]
  have hz : Wa.heap.size = w1.heap.size + 1 + 1 := by rw [hWa]; simp
  have n := World.cell?_alloc_new Wa #[.int .i64 1, .slice (some ⟨w1.heap.size + 1, 0, none⟩) 1 1, .slice none 0 0] 39
  have f := fun o => World.frozen?_alloc_new Wa #[.int .i64 1, .slice (some ⟨w1.heap.size + 1, 0, none⟩) 1 1, .slice none 0 0] 39 o
  rw [hz] at n f
  have ci : Wa.cell? ⟨w1.heap.size + 1, 0, none⟩ = some (.slice (some ⟨w1.heap.size, 0, none⟩) 0 0) := by rw [hWa]; simp
  have hbW : Below w.heap.size w Wa := by rw [hWa]; exact (hb.alloc hs _).alloc (by simp; omega) _
  refine ⟨[], .slice none 0 0, [], ?_⟩
  exact {
    own := World.ownsRow_nil _ _ _ _
    ownr := World.ownsRow_nil _ _ _ _
    codes := fun u hu => (by cases hu)
    rows := fun u hu => (by cases hu)
    nec := fun u hu => (by cases hu)
    ner := fun u hu => (by cases hu)
    ne := fun b e => (by cases e)
    low := hbW.alloc (by omega) _
    b0 := by omega
    sb0 := by omega
    sb1 := by omega
    bi1 := by omega
    bs := by omega
    c0 := (n 0).trans rfl
    c1 := (n 1).trans rfl
    c2 := (n 2).trans rfl
    ci := ⟨_, _, keep_cell ((Below.refl _ _).alloc (Nat.le_refl _) _) ci⟩
    fz := fun o => f o
    sz := by simp; omega }

theorem Prep.box {tm jc jr : Nat} {w0 : World} {base sb bi : Nat} {v : Value} {vs : List Value} {rv : Value} {rs : List Value} {w w' : World} (h : Prep tm jc jr w0 base sb bi v vs rv rs w) (hg : w.grownBy w' rv.ownBlock) : w'.cell? ⟨sb, 2, none⟩ = some rv ∧ w'.frozen? ⟨sb, 2, none⟩ = false := by
  have hB : Below base w w' := (Below.refl base w).grown hg h.sz (fun k hk => (h.ownr.lt k hk).1)
  exact ⟨by rw [World.cell?_of_block (hB.block sb h.sb1)]; exact h.c2, by rw [World.frozen?_of_block (hB.block sb h.sb1)]; exact h.fz 2⟩
theorem rowOwn_new {w : World} {base : Nat} (hb : base ≤ w.heap.size) : rowOwn ((w.alloc (.cells #[.int .i64 0, .int .i64 0, .int .i64 0, .int .i64 0, .int .i64 0, .int .i64 0, .int .i64 0, .int .i64 1] 3)).alloc (.cells #[.slice (some ⟨w.heap.size, 0, none⟩) 8 8] 36)) base (.slice (some ⟨w.heap.size, 0, none⟩) 8 8) := by
  refine ⟨rfl, .inr ⟨w.heap.size, 8, _, rfl, hb, (Below.heap_alloc _ _ _ (by simp)).trans (heap_new w _), Nat.le_refl _, by decide, rfl, rfl⟩⟩

theorem spStart_inv {T tm : Nat} : Inv T tm ⟨List.replicate T 0, none⟩ ((spSta T).mach T) := by
  refine Inv.start (fun _ => rfl) (fun u hu => ?_) (fun _ _ => rfl) (fun j => ?_) ?_ rfl rfl
  · show rowAt (List.replicate T spRegs) u 7 = 1
    unfold rowAt
    rw [getD_rep _ _ _ _ hu]
    rfl
  · show (if 0 < (spSta T).init.length ∧ j < 4 then rowAt (spSta T).init 0 j else 0) = 0
    split
    · show ([] : List Int).getD j 0 = 0
      simp
    · rfl
  · rfl
theorem spRest_pc {T tm : Nat} {m : Mk} (h : restTo (List.replicate T (spCode tm)) m T = true) : ∀ u, u < T → 19 * tm ≤ m.pc u := fun u hu => by
  have := List.all_eq_true.1 h u (List.mem_range.2 hu)
  rw [getD_rep _ _ _ _ hu, spDone] at this
  simp only [Bool.and_eq_true, decide_eq_true_eq] at this
  exact this.1
set_option maxRecDepth 20000 in
theorem field_fault (a b : Int) (w : World) : (Instr.field 44 (.agg #[.int .i64 a, .int .i64 b]) 0).run Tryd.prog w = .ok (.int .i64 a) w := by
  rfl
theorem spFits (T : Nat) : (spSta T).fits T = true := by
  unfold Sta.fits
  have h1 : decide (((spSta T).init.length : Int) ≤ (spSta T).cells) = true := rfl
  have h2 : rowsOk 4 (spSta T).init = true := rfl
  have h3 : decide ((spSta T).regs.length ≤ T) = true := decide_eq_true (by show (List.replicate T spRegs).length ≤ T; rw [List.length_replicate]; exact Nat.le_refl _)
  have h4 : rowsOk 8 (spSta T).regs = true := by
    unfold rowsOk
    rw [List.all_eq_true]
    intro x hx
    obtain ⟨-, rfl⟩ := List.mem_replicate.1 hx
    rfl
  rw [h1, h2, h3, h4]
  rfl
theorem spFault {T tm : Nat} (h4 : tm ≤ 3) (h1 : 1 ≤ T) (h6 : T ≤ 6) : (spSta T).fault (List.replicate T (spCode tm)) = (0, -1) := by
  unfold Sta.fault
  rw [List.length_replicate, if_pos ⟨(by show (1 : Int) ≤ 1; decide), (by show (1 : Int) ≤ 64; decide), h1, h6, spFits T⟩]
  refine codesFrom_none _ 0 fun t L ht => ?_
  rw [List.getElem?_replicate] at ht
  split at ht
  · cases ht; rw [spGood h4]
  · cases ht
theorem spStart_ok {T tm : Nat} (h4 : tm ≤ 3) (h1 : 1 ≤ T) (h6 : T ≤ 6) {ai ar ad : Option Addr} {ci cr cap : Nat} {w : World} (hs : StaAt (spSta T) ⟨ai, ci, ar, cr⟩ w) (hl : codesAt ad (List.replicate T (spCode tm)) w) :
    Calls Tryd.prog 14 #[.agg #[.int .i64 1, .slice ai 1 ci, .slice ar T cr], .slice ad T cap] w fun e w' => e = .returned (.agg #[.int .i64 0, .int .i64 (-1)]) ∧ Below w.heap.size w w' := by
  have h := startFault_any (cap := cap) hs hl (by rw [List.length_replicate]; omega)
  rw [spFault h4 h1 h6, show (spSta T).regs.length = T from List.length_replicate, List.length_replicate] at h
  exact h
theorem spNew {T tm : Nat} (h4 : tm ≤ 3) (h1 : 1 ≤ T) (h6 : T ≤ 6) {ai ar ad : Option Addr} {ci cr cap : Nat} {w0 w : World} (h0 : Below w0.heap.size w0 w) (hs : StaAt (spSta T) ⟨ai, ci, ar, cr⟩ w) (hl : codesAt ad (List.replicate T (spCode tm)) w0) :
    Calls Tryd.prog 15 #[.agg #[.int .i64 1, .slice ai 1 ci, .slice ar T cr], .slice ad T cap] w fun e w' => ∃ p : RkPl, e = .returned (.pointer (some ⟨p.k, 0, none⟩)) ∧ Hid (RkX (List.replicate T (spCode tm)) p ((spSta T).mach T) 1 w' ∧ Below w.heap.size w w' ∧ ∀ b, p.fp T ((spSta T).mach T).mem b → w.heap.size ≤ b) := by
  have h := newMachine_any (cap := cap) h0 hs hl (show (1 : Int) ≤ 1 by decide) (show (1 : Int) ≤ 64 by decide) (by rw [List.length_replicate]; exact h1) (by rw [List.length_replicate]; exact h6) (by rw [List.length_replicate]; exact spFits T)
  rw [show (spSta T).regs.length = T from List.length_replicate, List.length_replicate] at h
  refine h.mono ?_
  rintro e w' ⟨p, he, hh⟩
  obtain ⟨g1, -, g3, g4⟩ := hh.out
  exact ⟨p, he, hide ⟨⟨g1, by rw [List.length_replicate]; exact Sta.mach_ok (spFits T) (by show (1 : Int) ≤ 64; decide) h6, spCodes h4 h1 h6, by decide⟩, g3, g4⟩⟩

end Go.Proofs.YtmeohblomighpaaDoorR
