/- Package code's Check by a contract. -/
import Derived.Test.YtcajklfngeafdaaDoorProgE
namespace Go.Proofs.YtcajklfngeafdaaDoor
open Go.RowKit Go.Extern.Stop Go.Stop Go.Extern Go.Maps Go.WideMaps

/-- A value that tells a fault, in world w, its block being new since B. -/
def errIs (a : Nat → Addr) (f : Nat × Int) (v : Value) (w : World) (B : Nat) : Prop :=
  (f.1 = 0 ∧ v = .nilIface) ∨ (f.1 ≠ 0 ∧ f.2 = -1 ∧ v = xval a f.1) ∨
  (f.1 ≠ 0 ∧ ∃ j N : Nat, f.2 = j ∧ B ≤ N ∧ v = .iface 39 (.pointer (some ⟨N, 0, none⟩)) ∧ w.cell? ⟨N, 0, none⟩ = some (.int .i64 j) ∧ w.cell? ⟨N, 1, none⟩ = some (xval a f.1))

theorem codeFault_long {l : List Ins} (h : 2000 < l.length) : codeFault l = (2, -1) := if_pos h
theorem codeFault_none {l : List Ins} (h : ¬ 2000 < l.length) (h0 : ∀ k y, l[k]? = some y → insFault l k y = 0) : codeFault l = (0, -1) := by
  unfold codeFault
  rw [if_neg h]
  exact faultFrom_at l l 0 (fun k y hy => by simpa using h0 k y hy)
theorem codeFault_hit {l : List Ins} (h : ¬ 2000 < l.length) {j : Nat} {x : Ins} (hx : l[j]? = some x) (hj : insFault l j x ≠ 0) (h0 : ∀ k y, k < j → l[k]? = some y → insFault l k y = 0) : codeFault l = (insFault l j x, (j : Int)) := by
  unfold codeFault
  rw [if_neg h]
  have := faultFrom_hit l l 0 j x hx (by simpa using hj) (fun k y hk hy => by simpa using h0 k y hk hy)
  simpa using this
theorem insFault_le (l : List Ins) (i : Nat) (x : Ins) : insFault l i x ≤ 5 := by
  have := insErr_le x
  unfold insFault
  repeat' split
  all_goals omega

open Classical in
set_option maxRecDepth 20000 in
set_option maxHeartbeats 2000000 in
theorem pcheck_any (a : Nat → Addr) (ad : Option Addr) (cap : Nat) (l : List Ins) (w : World) (hE : EnvE a w) (hsz : ∀ (i : Nat) x, l[i]? = some x → x.to.size ≤ maxLen) (hl : insAt ad l w) :
    Calls Tryd.prog 10 #[.slice ad l.length cap] w fun e w' => ∃ v, e = .returned v ∧ errIs a (codeFault l) v w' w.heap.size ∧ Below w.heap.size w w' := by
  by_cases hlong : 2000 < l.length
  · have hi : 2000 < (l.length : Int) := by omega
    have E := hE.err 1 (by decide)
    simp only [xid] at E
    go_enter Tryd.func10, Tryd.ntmps10
    go_wp2_with fail
    go_ret
    refine ⟨_, rfl, ?_, Below.refl _ _⟩
    rw [codeFault_long hlong]
    exact .inr (.inl ⟨by decide, rfl, rfl⟩)
  have hi : ¬ 2000 < (l.length : Int) := by omega
  have HL := hide hl
  have HLa : Hid (∀ w', insAt ad l w' → Calls Tryd.prog 23 #[.slice ad l.length cap] w' fun e w'' => e = .returned (.map (some w'.heap.size)) ∧ w''.ownsMap Tryd.prog 9 (plainElem Tryd.prog 3) w'.heap.size l.length (setD l l.length) ∧ Below w'.heap.size w' w'') := fun w' h => labels_any ad cap l w' (by omega) hsz h
  clear hl
  go_enter Tryd.func10, Tryd.ntmps10
  go_wp2_with fail
  refine (HLa.out _ HL.out).mono ?_
  rintro e w1 ⟨rfl, hown, hb1⟩
  clear HLa
  go_wp2_with fail
  go_loopw [4, 5, 6, 15] (fun _ _ _ i wr => ∃ j : Nat, j ≤ l.length ∧ i = .int .i64 j ∧ Below w1.heap.size w1 wr ∧ Hid (∀ k y, k < j → l[k]? = some y → insFault l k y = 0)) (fun _ _ _ i _ => l.length - (intOf i).toNat)
  case atStart => exact ⟨0, Nat.zero_le _, rfl, Below.refl _ _, fun k y h => absurd h (Nat.not_lt_zero _)⟩
  case round =>
    obtain ⟨j, hj, rfl, hB, HJ⟩ := hrel
    have B := below_step hb1 hB
    by_cases hlt : j < l.length
    · obtain ⟨x, hx⟩ : ∃ x, l[j]? = some x := ⟨_, List.getElem?_eq_getElem hlt⟩
      obtain ⟨b, off, rfl, a0, a1, a2, a3, a4⟩ := insAt_below HL.out B j x hx
      have ji : (j : Int) < l.length := by omega
      have hownr := hown.kept (w' := wr) (row := none) ⟨hB.os, hB.tape, hB.output, hB.size, fun i hi _ => hB.block i hi⟩ (by simp)
      have HC : Hid (∀ w', EnvE a w' → w'.ownsMap Tryd.prog 9 (plainElem Tryd.prog 3) w.heap.size l.length (setD l l.length) → Calls Tryd.prog 24 #[.agg #[.string x.op, .int .i64 x.a, .int .i64 x.b, .int .i64 x.c, .string x.to], .int .i64 j, .map (some w.heap.size)] w' fun e w'' => e = .returned (xval a (insFault l j x)) ∧ Below w'.heap.size w' w'') := fun w' hE' ho => check_any a l j x w.heap.size w' hx hE' (hsz j x hx) ho
      have EN := hide (hE.below B)
      have HX : Hid (insFault l j x = 0 → ∀ k y, k < j + 1 → l[k]? = some y → insFault l k y = 0) := fun h k y hk hy => by
        by_cases e : k = j
        · subst e; rw [hx] at hy; cases hy; exact h
        · exact HJ.out k y (by omega) hy
      have HY : Hid (insFault l j x ≠ 0 → codeFault l = (insFault l j x, (j : Int))) := fun h => codeFault_hit hlong hx h HJ.out
      have HZ := hide (insFault_le l j x)
      have hba : Below wr.heap.size wr (wr.alloc (.cells #[.string x.op, .int .i64 x.a, .int .i64 x.b, .int .i64 x.c, .string x.to] 32)) := (Below.refl _ _).alloc (Nat.le_refl _) _
      have B1 := below_step hB hba
      have hownb := hide (hownr.alloc (.cells #[.string x.op, .int .i64 x.a, .int .i64 x.b, .int .i64 x.c, .string x.to] 32))
      have ENb := hide (EN.out.below hba)
      clear hx HJ hownr EN
      generalize insFault l j x = n at *
      go_wp2_with fail
      refine (HC.out _ ENb.out hownb.out).mono ?_
      rintro e w2 ⟨rfl, hb2⟩
      have B2 := below_step B1 hb2
      clear HC ENb hownb hba B1
      cases n with
      | zero =>
        have HX' := hide (HX.out rfl)
        clear HX HY
        rw [show xval a 0 = .nilIface from rfl]
        go_wp2_with fail
        go_roundw
        case rel => exact ⟨j + 1, by omega, by go_num, B2, HX'⟩
        case measure => simp [intOf]; omega
      | succ n =>
        have HY' := hide (HY.out (by omega))
        clear HX HY
        rw [show xval a (n + 1) = xerr (a n) from rfl]
        go_wp2_with fail
        go_ret
        have B3 := below_step hb1 B2
        refine ⟨_, rfl, ?_, B3.alloc B3.size _⟩
        rw [HY'.out]
        exact .inr (.inr ⟨Nat.succ_ne_zero _, j, w2.heap.size, rfl, B3.size, rfl, by simp, by simp; rfl⟩)
    · have HZ := hide (codeFault_none hlong (fun k y hy => HJ.out k y (by have := (List.getElem?_eq_some_iff.1 hy).1; omega) hy))
      obtain rfl : j = l.length := by omega
      clear HJ
      go_wp2_with fail
      go_ret
      exact ⟨_, rfl, by rw [HZ.out]; exact .inl ⟨rfl, rfl⟩, B⟩
end Go.Proofs.YtcajklfngeafdaaDoor
