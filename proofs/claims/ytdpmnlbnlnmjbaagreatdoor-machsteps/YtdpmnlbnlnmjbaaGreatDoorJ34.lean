import Derived.Test.YtdpmnlbnlnmjbaaGreatDoorJ33
import Derived.Laws.BitsLemmas
import Derived.Test.YtdpmnlbnlnmjbaaGreatDoorJ13
import Derived.Deep.RegionHeld3
import Derived.Test.YtdpmnlbnlnmjbaaGreatDoorJ23

/- RkD -/
namespace Go.Proofs.YtdpmnlbnlnmjbaaGreatDoor
open Go.RowKit Go.Extern.Stop Go.Stop Go.Extern

theorem bit_and (x y : Nat) (hx : x < 2) (hy : y < 2) : (x &&& y) = if x + y = 2 then 1 else 0 := by
  rcases (by omega : x = 0 ∨ x = 1) with rfl | rfl <;> rcases (by omega : y = 0 ∨ y = 1) with rfl | rfl <;> decide
theorem bit_xor (x y : Nat) (hx : x < 2) (hy : y < 2) : (x ^^^ y) = if x + y = 1 then 1 else 0 := by
  rcases (by omega : x = 0 ∨ x = 1) with rfl | rfl <;> rcases (by omega : y = 0 ∨ y = 1) with rfl | rfl <;> decide
theorem and_bit (a b i : Nat) : (a &&& b) / 2 ^ i % 2 = if a / 2 ^ i % 2 + b / 2 ^ i % 2 = 2 then 1 else 0 := by
  rw [← Nat.shiftRight_eq_div_pow, Nat.shiftRight_and_distrib, ← bit_and _ _ (Nat.mod_lt _ (by decide)) (Nat.mod_lt _ (by decide)), ← Nat.shiftRight_eq_div_pow, ← Nat.shiftRight_eq_div_pow]
  exact Nat.and_mod_two_pow (n := 1)
theorem xor_bit (a b i : Nat) : (a ^^^ b) / 2 ^ i % 2 = if a / 2 ^ i % 2 + b / 2 ^ i % 2 = 1 then 1 else 0 := by
  rw [← Nat.shiftRight_eq_div_pow, Nat.shiftRight_xor_distrib, ← bit_xor _ _ (Nat.mod_lt _ (by decide)) (Nat.mod_lt _ (by decide)), ← Nat.shiftRight_eq_div_pow, ← Nat.shiftRight_eq_div_pow]
  exact Nat.xor_mod_two_pow (n := 1)
theorem mod_pow_next (n i : Nat) : n % 2 ^ (i + 1) = n % 2 ^ i + 2 ^ i * (n / 2 ^ i % 2) := by
  rw [Nat.pow_succ, Nat.mod_mul]

theorem shr_bit (A j : Nat) : (((A : Nat) : Int) / 2 ^ j).tmod 2 = ((A / 2 ^ j % 2 : Nat) : Int) := by
  have e : ((A : Nat) : Int) / 2 ^ j = ((A / 2 ^ j : Nat) : Int) := by rw [Int.natCast_ediv, Int.natCast_pow]; rfl
  rw [e]
  generalize A / 2 ^ j = X
  rw [Int.tmod_eq_emod_of_nonneg (Int.natCast_nonneg _)]
  omega


structure BitsAnd (A B : Nat) (F : Nat → Int) : Prop where
  zero : F 0 = 0
  next : ∀ (j : Nat) (P X Y : Int), j < 32 → (2 : Int) ^ j = P → ((A : Int) / P).tmod 2 = X → ((B : Int) / P).tmod 2 = Y → (0 ≤ X ∧ X ≤ 1) ∧ (0 ≤ Y ∧ Y ≤ 1) ∧ (1 ≤ P ∧ P ≤ 2147483648) ∧ (0 ≤ F j ∧ F j < P) ∧ F (j + 1) = F j + if X + Y = 2 then P else 0
  last : F 32 = ((A &&& B : Nat) : Int)
theorem bitsAnd_is {A B : Nat} (ha : A < 4294967296) (_hb : B < 4294967296) : BitsAnd A B (fun j => ((((A &&& B) % 2 ^ j : Nat)) : Int)) where
  zero := by simp [Nat.mod_one]
  next j P X Y hj hP hX hY := by
    have hx := shr_bit A j
    have hy := shr_bit B j
    rw [hP, hX] at hx
    rw [hP, hY] at hy
    have hn := mod_pow_next (A &&& B) j
    rw [and_bit] at hn
    have lx := Nat.mod_lt (A / 2 ^ j) (show 2 > 0 by decide)
    have ly := Nat.mod_lt (B / 2 ^ j) (show 2 > 0 by decide)
    have hm : (A &&& B) % 2 ^ j < 2 ^ j := Nat.mod_lt _ (Nat.pow_pos (by decide))
    have h1 : 0 < 2 ^ j := Nat.pow_pos (by decide)
    have hj2 : 2 ^ j ≤ 2147483648 := by
      have e : (2 : Nat) ^ 31 = 2147483648 := by decide +kernel
      have := Nat.pow_le_pow_right (show 0 < 2 by decide) (show j ≤ 31 by omega); omega
    have hp : ((2 ^ j : Nat) : Int) = P := by rw [Int.natCast_pow]; exact hP
    generalize (A &&& B) % 2 ^ (j + 1) = D at *
    generalize (A &&& B) % 2 ^ j = C at *
    generalize A / 2 ^ j % 2 = X' at *
    generalize B / 2 ^ j % 2 = Y' at *
    generalize 2 ^ j = P' at *
    subst hx hy hp
    refine ⟨⟨by omega, by omega⟩, ⟨by omega, by omega⟩, ⟨by omega, by omega⟩, ⟨by omega, by omega⟩, ?_⟩
    by_cases h2 : X' + Y' = 2
    · rw [if_pos h2, Nat.mul_one] at hn
      rw [if_pos (by omega)]
      omega
    · rw [if_neg h2, Nat.mul_zero, Nat.add_zero] at hn
      rw [if_neg (by omega)]
      omega
  last := by
    show (((A &&& B) % 2 ^ 32 : Nat) : Int) = _
    rw [Nat.mod_eq_of_lt]
    exact Nat.lt_of_le_of_lt Nat.and_le_left (by have e : (2 : Nat) ^ 32 = 4294967296 := by decide +kernel
                                                 rw [e]; exact ha)

set_option maxRecDepth 20000 in
set_option maxHeartbeats 1000000 in
theorem rbits_and {A B : Nat} (ha : A < 4294967296) (hb : B < 4294967296) (w : World) :
    Calls Tryz.prog 55 #[.string ⟨#[97, 110, 100]⟩, .int .i64 A, .int .i64 B] w fun e w' => e = .returned (.int .i64 ((A &&& B : Nat) : Int)) ∧ w' = w := by
  obtain ⟨F, HF⟩ : ∃ F, Hid (BitsAnd A B F) := ⟨_, bitsAnd_is ha hb⟩
  have h0 := HF.out.zero
  have HL : Hid (F 32 = ((A &&& B : Nat) : Int)) := HF.out.last
  rw [← HL.out]
  clear HL
  have a2 : (A : Int) < 4294967296 := by omega
  have b2 : (B : Int) < 4294967296 := by omega
  clear ha hb
  go_enter Tryz.func55, Tryz.ntmps55
  go_wp2_with fail
  go_loopw [7, 8, 9, 10] (fun n i _ _ wr => wr = w ∧ ∃ j : Nat, j ≤ 32 ∧ i = .int .i64 j ∧ n = .int .i64 (F j)) (fun _ i _ _ _ => 32 - (intOf i).toNat)
  case atStart => exact ⟨rfl, 0, by decide, rfl, by rw [h0]⟩
  case round =>
    clear h0
    obtain ⟨rfl, j, hj, rfl, rfl⟩ := hrel
    by_cases hlt : j < 32
    · have ji : (j : Int) < 32 := by omega
      obtain ⟨P, hP⟩ : ∃ P : Int, (2 : Int) ^ j = P := ⟨_, rfl⟩
      obtain ⟨X, hX⟩ : ∃ X : Int, ((A : Int) / P).tmod 2 = X := ⟨_, rfl⟩
      obtain ⟨Y, hY⟩ : ∃ Y : Int, ((B : Int) / P).tmod 2 = Y := ⟨_, rfl⟩
      obtain ⟨⟨x0, x1⟩, ⟨y0, y1⟩, ⟨p0, p1⟩, ⟨f0, f1⟩, hn⟩ := HF.out.next j P X Y hlt hP hX hY
      by_cases h2 : X + Y = 2
      · rw [if_pos h2] at hn
        have HN := hide hn
        clear hn
        generalize F j = C at *
        go_wp2
        go_roundw
        case rel => exact ⟨trivial, j + 1, by omega, by go_num, by rw [HN.out]⟩
        case measure => simp [intOf]; omega
      · rw [if_neg h2, Int.add_zero] at hn
        have HN := hide hn
        have k2 : (X + Y == 2) = false := by rw [beq_eq_false_iff_ne]; exact h2
        have k3 : decide (X + Y = 2) = false := decide_eq_false h2
        clear hn h2
        generalize F j = C at *
        go_wp2
        go_roundw
        case rel => exact ⟨trivial, j + 1, by omega, by go_num, by rw [HN.out]⟩
        case measure => simp [intOf]; omega
    · obtain rfl : j = 32 := by omega
      rw [show ((32 : Nat) : Int) = 32 from rfl]
      go_wp2
      go_ret
      exact ⟨rfl, rfl⟩

structure BitsXor (A B : Nat) (F : Nat → Int) : Prop where
  zero : F 0 = 0
  next : ∀ (j : Nat) (P X Y : Int), j < 32 → (2 : Int) ^ j = P → ((A : Int) / P).tmod 2 = X → ((B : Int) / P).tmod 2 = Y → (0 ≤ X ∧ X ≤ 1) ∧ (0 ≤ Y ∧ Y ≤ 1) ∧ (1 ≤ P ∧ P ≤ 2147483648) ∧ (0 ≤ F j ∧ F j < P) ∧ F (j + 1) = F j + if X + Y = 1 then P else 0
  last : F 32 = ((A ^^^ B : Nat) : Int)
theorem bitsXor_is {A B : Nat} (ha : A < 4294967296) (hb : B < 4294967296) : BitsXor A B (fun j => ((((A ^^^ B) % 2 ^ j : Nat)) : Int)) where
  zero := by simp [Nat.mod_one]
  next j P X Y hj hP hX hY := by
    have hx := shr_bit A j
    have hy := shr_bit B j
    rw [hP, hX] at hx
    rw [hP, hY] at hy
    have hn := mod_pow_next (A ^^^ B) j
    rw [xor_bit] at hn
    have lx := Nat.mod_lt (A / 2 ^ j) (show 2 > 0 by decide)
    have ly := Nat.mod_lt (B / 2 ^ j) (show 2 > 0 by decide)
    have hm : (A ^^^ B) % 2 ^ j < 2 ^ j := Nat.mod_lt _ (Nat.pow_pos (by decide))
    have h1 : 0 < 2 ^ j := Nat.pow_pos (by decide)
    have hj2 : 2 ^ j ≤ 2147483648 := by
      have e : (2 : Nat) ^ 31 = 2147483648 := by decide +kernel
      have := Nat.pow_le_pow_right (show 0 < 2 by decide) (show j ≤ 31 by omega); omega
    have hp : ((2 ^ j : Nat) : Int) = P := by rw [Int.natCast_pow]; exact hP
    generalize (A ^^^ B) % 2 ^ (j + 1) = D at *
    generalize (A ^^^ B) % 2 ^ j = C at *
    generalize A / 2 ^ j % 2 = X' at *
    generalize B / 2 ^ j % 2 = Y' at *
    generalize 2 ^ j = P' at *
    subst hx hy hp
    refine ⟨⟨by omega, by omega⟩, ⟨by omega, by omega⟩, ⟨by omega, by omega⟩, ⟨by omega, by omega⟩, ?_⟩
    by_cases h2 : X' + Y' = 1
    · rw [if_pos h2, Nat.mul_one] at hn
      rw [if_pos (by omega)]
      omega
    · rw [if_neg h2, Nat.mul_zero, Nat.add_zero] at hn
      rw [if_neg (by omega)]
      omega
  last := by
    show (((A ^^^ B) % 2 ^ 32 : Nat) : Int) = _
    rw [Nat.mod_eq_of_lt]
    have e : (2 : Nat) ^ 32 = 4294967296 := by decide +kernel
    exact Nat.xor_lt_two_pow (by rw [e]; exact ha) (by rw [e]; exact hb)

set_option maxRecDepth 20000 in
set_option maxHeartbeats 1000000 in
theorem rbits_xor {A B : Nat} (ha : A < 4294967296) (hb : B < 4294967296) (w : World) :
    Calls Tryz.prog 55 #[.string ⟨#[120, 111, 114]⟩, .int .i64 A, .int .i64 B] w fun e w' => e = .returned (.int .i64 ((A ^^^ B : Nat) : Int)) ∧ w' = w := by
  obtain ⟨F, HF⟩ : ∃ F, Hid (BitsXor A B F) := ⟨_, bitsXor_is ha hb⟩
  have h0 := HF.out.zero
  have HL : Hid (F 32 = ((A ^^^ B : Nat) : Int)) := HF.out.last
  rw [← HL.out]
  clear HL
  have a2 : (A : Int) < 4294967296 := by omega
  have b2 : (B : Int) < 4294967296 := by omega
  clear ha hb
  go_enter Tryz.func55, Tryz.ntmps55
  go_wp2_with fail
  go_loopw [7, 8, 9, 10] (fun n i _ _ wr => wr = w ∧ ∃ j : Nat, j ≤ 32 ∧ i = .int .i64 j ∧ n = .int .i64 (F j)) (fun _ i _ _ _ => 32 - (intOf i).toNat)
  case atStart => exact ⟨rfl, 0, by decide, rfl, by rw [h0]⟩
  case round =>
    clear h0
    obtain ⟨rfl, j, hj, rfl, rfl⟩ := hrel
    by_cases hlt : j < 32
    · have ji : (j : Int) < 32 := by omega
      obtain ⟨P, hP⟩ : ∃ P : Int, (2 : Int) ^ j = P := ⟨_, rfl⟩
      obtain ⟨X, hX⟩ : ∃ X : Int, ((A : Int) / P).tmod 2 = X := ⟨_, rfl⟩
      obtain ⟨Y, hY⟩ : ∃ Y : Int, ((B : Int) / P).tmod 2 = Y := ⟨_, rfl⟩
      obtain ⟨⟨x0, x1⟩, ⟨y0, y1⟩, ⟨p0, p1⟩, ⟨f0, f1⟩, hn⟩ := HF.out.next j P X Y hlt hP hX hY
      by_cases h2 : X + Y = 1
      · rw [if_pos h2] at hn
        have HN := hide hn
        clear hn
        generalize F j = C at *
        go_wp2
        go_roundw
        case rel => exact ⟨trivial, j + 1, by omega, by go_num, by rw [HN.out]⟩
        case measure => simp [intOf]; omega
      · rw [if_neg h2, Int.add_zero] at hn
        have HN := hide hn
        have k2 : (X + Y == 1) = false := by rw [beq_eq_false_iff_ne]; exact h2
        have k3 : decide (X + Y = 1) = false := decide_eq_false h2
        clear hn h2
        generalize F j = C at *
        go_wp2
        go_roundw
        case rel => exact ⟨trivial, j + 1, by omega, by go_num, by rw [HN.out]⟩
        case measure => simp [intOf]; omega
    · obtain rfl : j = 32 := by omega
      rw [show ((32 : Nat) : Int) = 32 from rfl]
      go_wp2
      go_ret
      exact ⟨rfl, rfl⟩

theorem rbits_andW {a b : Int} (ha : Wd a) (hb : Wd b) (w : World) :
    Calls Tryz.prog 55 #[.string ⟨#[97, 110, 100]⟩, .int .i64 a, .int .i64 b] w fun e w' => e = .returned (.int .i64 (andW a b)) ∧ w' = w := by
  obtain ⟨A, rfl⟩ := Int.eq_ofNat_of_zero_le ha.1
  obtain ⟨B, rfl⟩ := Int.eq_ofNat_of_zero_le hb.1
  exact rbits_and (by have := ha.2; omega) (by have := hb.2; omega) w
theorem rbits_xorW {a b : Int} (ha : Wd a) (hb : Wd b) (w : World) :
    Calls Tryz.prog 55 #[.string ⟨#[120, 111, 114]⟩, .int .i64 a, .int .i64 b] w fun e w' => e = .returned (.int .i64 (xorW a b)) ∧ w' = w := by
  obtain ⟨A, rfl⟩ := Int.eq_ofNat_of_zero_le ha.1
  obtain ⟨B, rfl⟩ := Int.eq_ofNat_of_zero_le hb.1
  exact rbits_xor (by have := ha.2; omega) (by have := hb.2; omega) w
end Go.Proofs.YtdpmnlbnlnmjbaaGreatDoor

/- RkE -/
namespace Go.Proofs.YtdpmnlbnlnmjbaaGreatDoor
open Go.RowKit

theorem wrapNext {n : Nat} (h : n ≤ 2000) : wrap64 ((n : Int) + 1) = (n : Int) + 1 := by unfold wrap64; omega
theorem wrapNext2 {n : Nat} (h : n ≤ 2000) : IntKind.i64.wrap ((n : Int) + 1) = (n : Int) + 1 := by rw [IntKind.wrap_i64]; omega

structure RkX (cs : List (List Ins)) (p : RkPl) (m : Mk) (K : Nat) (w : World) : Prop where
  at' : RkAt cs p m w
  ok : MkOk cs.length K m
  right : Right cs
  hK : K ≤ 10000000
theorem RkX.below {cs : List (List Ins)} {p : RkPl} {m : Mk} {K : Nat} {w w' : World} (h : RkX cs p m K w) (hb : Below w.heap.size w w') : RkX cs p m K w' := ⟨h.at'.below hb, h.ok, h.right, h.hK⟩
theorem RkX.of {cs : List (List Ins)} {p : RkPl} {m m' : Mk} {K K' : Nat} {r : RmPl} {v : Value} {w w' : World} (h : RkX cs p m K w) (k : RkStep cs p m.mem w r v m' w') (ok : MkOk cs.length K' m') (hK : K' ≤ 10000000) : RkX cs (p.to r v) m' K' w' := ⟨k.at', ok, h.right, hK⟩
theorem RkX.faults {cs : List (List Ins)} {p : RkPl} {m : Mk} {K : Nat} {w : World} (h : RkX cs p m K w) : m.faults ≤ 900000000 := by have := h.ok.faults; have := h.hK; omega
theorem RkX.waits {cs : List (List Ins)} {p : RkPl} {m : Mk} {K : Nat} {w : World} (h : RkX cs p m K w) {t : Nat} (ht : t < cs.length) : ∀ x ∈ m.mem.waits t, x.Ok := h.ok.mem.ok t (by rw [h.ok.thr]; exact ht)
theorem RkX.few {cs : List (List Ins)} {p : RkPl} {m : Mk} {K : Nat} {w : World} (h : RkX cs p m K w) {t : Nat} (ht : t < cs.length) : (m.mem.waits t).length ≤ 8 := h.ok.mem.few t (by rw [h.ok.thr]; exact ht)

structure Stg (cs : List (List Ins)) (p : RkPl) (s : Rm) (w0 : World) (bx : Nat) (r : RmPl) (v : Value) (m : Mk) (W : World) : Prop where
  step : RkStep cs p s w0 r v m W
  ge : w0.heap.size ≤ bx
  nfp : ¬ (p.to r v).fp cs.length m.mem bx
  lt : bx < W.heap.size

section
variable {cs : List (List Ins)} {p : RkPl} {s : Rm} {w0 : World} {bx : Nat} {r r2 : RmPl} {v v2 : Value} {m m2 : Mk} {W W' : World}
theorem Stg.below (h : Stg cs p s w0 bx r v m W) (k : Below W.heap.size W W') : Stg cs p s w0 bx r v m W' := ⟨h.step.below k, h.ge, h.nfp, Nat.lt_of_lt_of_le h.lt k.size⟩
theorem Stg.trans (h : Stg cs p s w0 bx r v m W) (k : RkStep cs (p.to r v) m.mem W r2 v2 m2 W') : Stg cs p s w0 bx r2 v2 m2 W' := ⟨h.step.trans k, h.ge, fun e => by
  rcases k.fp bx e with e | e
  · exact h.nfp e
  · have := h.lt; omega, Nat.lt_of_lt_of_le h.lt k.turns.size⟩
theorem Stg.first (h : RkAt cs p m w0) (k : Below w0.heap.size w0 W) (hb : w0.heap.size ≤ bx) (hl : bx < W.heap.size) : Stg cs p m.mem w0 bx p.rp p.mv m W := ⟨RkStep.of_below' h k, hb, fun e => by have := h.fp_lt e; omega, hl⟩
theorem Stg.other {bx' : Nat} (h : Stg cs p s w0 bx r v m W) (hl : W.heap.size ≤ bx') (k : Below W.heap.size W W') (h2 : bx' < W'.heap.size) : Stg cs p s w0 bx' r v m W' := ⟨h.step.below k, by have := h.step.turns.size; omega, fun e => by have := h.step.at'.fp_lt e; omega, h2⟩
theorem Stg.keep (h : Stg cs p s w0 bx r v m W) (k : RkStep cs (p.to r v) m.mem W r2 v2 m2 W') {o : Nat} {u : Value} (hc : W.cell? ⟨bx, o, none⟩ = some u) : W'.cell? ⟨bx, o, none⟩ = some u := k.turns.keep hc h.nfp
theorem Stg.ne (h : Stg cs p s w0 bx r v m W) : bx ≠ p.k ∧ bx ≠ p.tb ∧ (∀ t, t < cs.length → bx ≠ p.rb t) := ⟨fun e => h.nfp (.inl e), fun e => h.nfp (.inr (.inl e)), fun t ht e => h.nfp (.inr (.inr (.inl ⟨t, ht, e⟩)))⟩
end
end Go.Proofs.YtdpmnlbnlnmjbaaGreatDoor

/- RkF -/
namespace Go.Proofs.YtdpmnlbnlnmjbaaGreatDoor
open Go.RowKit Go.Extern.Stop Go.Stop Go.Extern Go.Sort

set_option maxRecDepth 20000 in
set_option maxHeartbeats 2000000 in
theorem rstep_const {cs : List (List Ins)} {p : RkPl} {m : Mk} {K t : Nat} {w : World} (D : RkX cs p m K w) {L : List Ins} (ht : cs[t]? = some L) {x : Ins} (hx : L[m.pc t]? = some x) (e : x.op = ⟨#[99, 111, 110, 115, 116]⟩) {i : Nat} (hi : i < 8) (ei : x.a = i) :
    Calls Tryz.prog 25 #[.pointer (some ⟨p.k, 0, none⟩), .int .i64 t] w fun e w' => e = .returned (.int .i64 0) ∧ ∃ r v, RkStep cs p m.mem w r v (m.step L t) w' := by
  have hM : m.step L t = (m.setPc t (m.pc t + 1)).exec L t x := by unfold Mk.step; rw [hx]
  obtain ⟨M', hM'⟩ : ∃ M', M' = (m.setPc t (m.pc t + 1)).exec L t x := ⟨_, rfl⟩
  rw [hM, ← hM']
  rw [exec_const (m.setPc t (m.pc t + 1)) L t e] at hM'
  clear hM
  rw [ei] at hM'
  simp only [Int.toNat_natCast] at hM'
  try simp only [show ∀ r, (m.setPc t (m.pc t + 1)).regs t r = m.regs t r from fun _ => rfl] at hM'
  have HD := hide (rdone_at ht hx D.at')
  obtain ⟨xo, xa, xb, xc, xt⟩ := x
  dsimp only at e ei hM' ⊢
  subst e ei
  have HM' := hide hM'
  clear hM'
  have htl := lt_of_get ht
  have h6 := D.at'.few
  have hpl := lt_of_get hx
  have hL2 := (D.right.right t L ht).1
  have hcap := D.at'.tcap
  have hcc := D.at'.ccap t L ht
  have ti : (t : Int) < cs.length := by omega
  have t6 : (t : Int) < 6 := by omega
  have pi : (m.pc t : Int) < L.length := by omega
  have hpc2 : m.pc t ≤ 2000 := D.ok.pcs t
  have hpw := wrapNext hpc2
  have hpw2 := wrapNext2 hpc2
  have hr8 := D.at'.rcap t htl
  have li : (i : Int) < 8 := by omega
  have HIN := hide (D.at'.rc.code ht)
  have HX := hide D
  have H := hide D.at'
  have d0 : decide ((t : Int) < 0) = false := by simp
  have hT := H.out.mT
  clear D
  go_enter Tryz.func25, Tryz.ntmps25
  go_wp2_with fail
  refine HD.out.mono ?_
  rintro e w1 ⟨rfl, hb1⟩
  clear HD hT
  have H1 := hide (H.out.below hb1)
  have HIN1 := hide (insAt_below HIN.out hb1)
  have hT := H1.out.mT
  have hA := H1.out.tAt t htl
  have hC := H1.out.tCode t L ht
  have hR := H1.out.tRegs t htl
  obtain ⟨cb, off, had, c0, c1, c2, c3, c4⟩ := HIN1.out _ _ hx
  dsimp only at c0 c1 c2 c3 c4
  rw [had] at hC
  have lcb : cb < w1.heap.size := World.block_lt_of_cell? _ _ c0
  have lk := H1.out.lk
  have lt := H1.out.lt'
  have lr := H1.out.lr htl
  have zt := H1.out.ft (t * 3 + 2)
  obtain ⟨W2, hW2⟩ : ∃ W2, W2 = (w1.alloc (.cells #[.string ⟨#[99, 111, 110, 115, 116]⟩, .int .i64 i, .int .i64 xb, .int .i64 xc, .string xt] 75)).drew := ⟨_, rfl⟩
  have b2 : Below w1.heap.size w1 W2 := by rw [hW2]; exact ((Below.refl _ _).alloc (Nat.le_refl _) _).drew
  have q0 : W2.cell? ⟨w1.heap.size, 0, none⟩ = some (.string ⟨#[99, 111, 110, 115, 116]⟩) := by rw [hW2]; simp
  have q1 : W2.cell? ⟨w1.heap.size, 1, none⟩ = some (.int .i64 i) := by rw [hW2]; simp
  have q2 : W2.cell? ⟨w1.heap.size, 2, none⟩ = some (.int .i64 xb) := by rw [hW2]; simp
  have q3 : W2.cell? ⟨w1.heap.size, 3, none⟩ = some (.int .i64 xc) := by rw [hW2]; simp
  have q4 : W2.cell? ⟨w1.heap.size, 4, none⟩ = some (.string xt) := by rw [hW2]; simp
  have lW2 : w1.heap.size < W2.heap.size := World.block_lt_of_cell? _ _ q0
  clear HIN HIN1 had
  go_wp2_with fail
  go_region
  rw [← hW2]
  have B2 := below_step hb1 b2
  have H2 := hide (H.out.below B2)
  replace hT := H2.out.mT
  replace hA := H2.out.tAt t htl
  replace hR := H2.out.tRegs t htl
  replace hC := keep_cell b2 hC
  replace zt := H2.out.ft (t * 3 + 2)
  have dk := H2.out.d1
  have dr1 := (H2.out.d2 t htl).1
  have dr2 := (H2.out.d2 t htl).2
  have G2 : Hid (Stg cs p m.mem w w1.heap.size p.rp p.mv m W2) := hide (Stg.first H.out B2 hb1.size lW2)
  obtain ⟨nk, nt, nr⟩ := G2.out.ne
  replace nr := nr t htl
  have lk2 : p.k < W2.heap.size := by omega
  have lt2 : p.tb < W2.heap.size := by omega
  have lr2 : p.rb t < W2.heap.size := by omega
  obtain ⟨W3, hW3⟩ : ∃ W3, W3 = W2.setCell ⟨p.tb, t * 3 + 2, none⟩ (.int .i64 ((m.pc t : Int) + 1)) := ⟨_, rfl⟩
  have S3 : Hid (RkStep cs p m.mem W2 p.rp p.mv (m.setPc t (m.pc t + 1)) W3) := hide (by rw [hW3]; exact H2.out.setPc htl (m.pc t + 1))
  have G3 : Hid (Stg cs p m.mem w w1.heap.size p.rp p.mv (m.setPc t (m.pc t + 1)) W3) := hide (G2.out.trans S3.out)
  have HM3 : Hid (RkAt cs p (m.setPc t (m.pc t + 1)) W3) := hide G3.out.step.at'
  have HX3 : Hid (RkX cs p (m.setPc t (m.pc t + 1)) K W3) := hide ⟨HM3.out, HX.out.ok.setPc t (by omega), HX.out.right, HX.out.hK⟩
  have y0 := G2.out.keep S3.out q0
  have y1 := G2.out.keep S3.out q1
  have y2 := G2.out.keep S3.out q2
  have y3 := G2.out.keep S3.out q3
  have y4 := G2.out.keep S3.out q4
  have T3 := HM3.out.mT
  have R3 := HM3.out.tRegs t htl
  have k3 := HM3.out.mM
  have lW3 : w1.heap.size < W3.heap.size := G3.out.lt
  have G0 : Hid (∀ r, r < 8 → W2.cell? ⟨p.rb t, r, none⟩ = some (.int .i64 (m.regs t r)) ∧ W2.frozen? ⟨p.rb t, r, none⟩ = false) := fun r hr => ⟨H2.out.regs t r htl hr, H2.out.fr t r htl⟩
  clear H2 c0 c1 c2 c3 c4 hb1 b2 B2 hW2 G2 S3 H1 lcb
  obtain ⟨fi, fzi⟩ := G0.out i (by omega)
  have gi : W3.cell? ⟨p.rb t, i, none⟩ = some (.int .i64 (m.regs t i)) := HM3.out.regs t i htl (by omega)
  clear G0
  have HS := hide (G3.out.trans (HM3.out.setReg htl hi xb))
  rw [hW3] at HS
  clear G3 HM3 HX3
  go_wp2
  go_ret
  exact ⟨rfl, _, _, by rw [HM'.out]; exact HS.out.step⟩

set_option maxRecDepth 20000 in
set_option maxHeartbeats 2000000 in
theorem rstep_move {cs : List (List Ins)} {p : RkPl} {m : Mk} {K t : Nat} {w : World} (D : RkX cs p m K w) {L : List Ins} (ht : cs[t]? = some L) {x : Ins} (hx : L[m.pc t]? = some x) (e : x.op = ⟨#[109, 111, 118, 101]⟩) {i : Nat} (hi : i < 8) (ei : x.a = i) {j : Nat} (hj : j < 8) (ej : x.b = j) :
    Calls Tryz.prog 25 #[.pointer (some ⟨p.k, 0, none⟩), .int .i64 t] w fun e w' => e = .returned (.int .i64 0) ∧ ∃ r v, RkStep cs p m.mem w r v (m.step L t) w' := by
  have hM : m.step L t = (m.setPc t (m.pc t + 1)).exec L t x := by unfold Mk.step; rw [hx]
  obtain ⟨M', hM'⟩ : ∃ M', M' = (m.setPc t (m.pc t + 1)).exec L t x := ⟨_, rfl⟩
  rw [hM, ← hM']
  rw [exec_move (m.setPc t (m.pc t + 1)) L t e] at hM'
  clear hM
  rw [ei] at hM'
  rw [ej] at hM'
  simp only [Int.toNat_natCast] at hM'
  try simp only [show ∀ r, (m.setPc t (m.pc t + 1)).regs t r = m.regs t r from fun _ => rfl] at hM'
  have HD := hide (rdone_at ht hx D.at')
  obtain ⟨xo, xa, xb, xc, xt⟩ := x
  dsimp only at e ei ej hM' ⊢
  subst e ei ej
  have HM' := hide hM'
  clear hM'
  have htl := lt_of_get ht
  have h6 := D.at'.few
  have hpl := lt_of_get hx
  have hL2 := (D.right.right t L ht).1
  have hcap := D.at'.tcap
  have hcc := D.at'.ccap t L ht
  have ti : (t : Int) < cs.length := by omega
  have t6 : (t : Int) < 6 := by omega
  have pi : (m.pc t : Int) < L.length := by omega
  have hpc2 : m.pc t ≤ 2000 := D.ok.pcs t
  have hpw := wrapNext hpc2
  have hpw2 := wrapNext2 hpc2
  have hr8 := D.at'.rcap t htl
  have li : (i : Int) < 8 := by omega
  have lj : (j : Int) < 8 := by omega
  have HIN := hide (D.at'.rc.code ht)
  have HX := hide D
  have H := hide D.at'
  have d0 : decide ((t : Int) < 0) = false := by simp
  have hT := H.out.mT
  clear D
  go_enter Tryz.func25, Tryz.ntmps25
  go_wp2_with fail
  refine HD.out.mono ?_
  rintro e w1 ⟨rfl, hb1⟩
  clear HD hT
  have H1 := hide (H.out.below hb1)
  have HIN1 := hide (insAt_below HIN.out hb1)
  have hT := H1.out.mT
  have hA := H1.out.tAt t htl
  have hC := H1.out.tCode t L ht
  have hR := H1.out.tRegs t htl
  obtain ⟨cb, off, had, c0, c1, c2, c3, c4⟩ := HIN1.out _ _ hx
  dsimp only at c0 c1 c2 c3 c4
  rw [had] at hC
  have lcb : cb < w1.heap.size := World.block_lt_of_cell? _ _ c0
  have lk := H1.out.lk
  have lt := H1.out.lt'
  have lr := H1.out.lr htl
  have zt := H1.out.ft (t * 3 + 2)
  obtain ⟨W2, hW2⟩ : ∃ W2, W2 = (w1.alloc (.cells #[.string ⟨#[109, 111, 118, 101]⟩, .int .i64 i, .int .i64 j, .int .i64 xc, .string xt] 75)).drew := ⟨_, rfl⟩
  have b2 : Below w1.heap.size w1 W2 := by rw [hW2]; exact ((Below.refl _ _).alloc (Nat.le_refl _) _).drew
  have q0 : W2.cell? ⟨w1.heap.size, 0, none⟩ = some (.string ⟨#[109, 111, 118, 101]⟩) := by rw [hW2]; simp
  have q1 : W2.cell? ⟨w1.heap.size, 1, none⟩ = some (.int .i64 i) := by rw [hW2]; simp
  have q2 : W2.cell? ⟨w1.heap.size, 2, none⟩ = some (.int .i64 j) := by rw [hW2]; simp
  have q3 : W2.cell? ⟨w1.heap.size, 3, none⟩ = some (.int .i64 xc) := by rw [hW2]; simp
  have q4 : W2.cell? ⟨w1.heap.size, 4, none⟩ = some (.string xt) := by rw [hW2]; simp
  have lW2 : w1.heap.size < W2.heap.size := World.block_lt_of_cell? _ _ q0
  clear HIN HIN1 had
  go_wp2_with fail
  go_region
  rw [← hW2]
  have B2 := below_step hb1 b2
  have H2 := hide (H.out.below B2)
  replace hT := H2.out.mT
  replace hA := H2.out.tAt t htl
  replace hR := H2.out.tRegs t htl
  replace hC := keep_cell b2 hC
  replace zt := H2.out.ft (t * 3 + 2)
  have dk := H2.out.d1
  have dr1 := (H2.out.d2 t htl).1
  have dr2 := (H2.out.d2 t htl).2
  have G2 : Hid (Stg cs p m.mem w w1.heap.size p.rp p.mv m W2) := hide (Stg.first H.out B2 hb1.size lW2)
  obtain ⟨nk, nt, nr⟩ := G2.out.ne
  replace nr := nr t htl
  have lk2 : p.k < W2.heap.size := by omega
  have lt2 : p.tb < W2.heap.size := by omega
  have lr2 : p.rb t < W2.heap.size := by omega
  obtain ⟨W3, hW3⟩ : ∃ W3, W3 = W2.setCell ⟨p.tb, t * 3 + 2, none⟩ (.int .i64 ((m.pc t : Int) + 1)) := ⟨_, rfl⟩
  have S3 : Hid (RkStep cs p m.mem W2 p.rp p.mv (m.setPc t (m.pc t + 1)) W3) := hide (by rw [hW3]; exact H2.out.setPc htl (m.pc t + 1))
  have G3 : Hid (Stg cs p m.mem w w1.heap.size p.rp p.mv (m.setPc t (m.pc t + 1)) W3) := hide (G2.out.trans S3.out)
  have HM3 : Hid (RkAt cs p (m.setPc t (m.pc t + 1)) W3) := hide G3.out.step.at'
  have HX3 : Hid (RkX cs p (m.setPc t (m.pc t + 1)) K W3) := hide ⟨HM3.out, HX.out.ok.setPc t (by omega), HX.out.right, HX.out.hK⟩
  have y0 := G2.out.keep S3.out q0
  have y1 := G2.out.keep S3.out q1
  have y2 := G2.out.keep S3.out q2
  have y3 := G2.out.keep S3.out q3
  have y4 := G2.out.keep S3.out q4
  have T3 := HM3.out.mT
  have R3 := HM3.out.tRegs t htl
  have k3 := HM3.out.mM
  have lW3 : w1.heap.size < W3.heap.size := G3.out.lt
  have G0 : Hid (∀ r, r < 8 → W2.cell? ⟨p.rb t, r, none⟩ = some (.int .i64 (m.regs t r)) ∧ W2.frozen? ⟨p.rb t, r, none⟩ = false) := fun r hr => ⟨H2.out.regs t r htl hr, H2.out.fr t r htl⟩
  clear H2 c0 c1 c2 c3 c4 hb1 b2 B2 hW2 G2 S3 H1 lcb
  obtain ⟨fi, fzi⟩ := G0.out i (by omega)
  have gi : W3.cell? ⟨p.rb t, i, none⟩ = some (.int .i64 (m.regs t i)) := HM3.out.regs t i htl (by omega)
  obtain ⟨fj, fzj⟩ := G0.out j (by omega)
  have gj : W3.cell? ⟨p.rb t, j, none⟩ = some (.int .i64 (m.regs t j)) := HM3.out.regs t j htl (by omega)
  clear G0
  have z3 : W3.frozen? ⟨p.rb t, i, none⟩ = false := HM3.out.fr t i htl
  have HS := hide (G3.out.trans ((HM3.out.setReg htl hi (m.regs t j)).below (Below.refl _ _).drew))
  clear G3 HM3 HX3
  generalize m.regs t i = Ri at *
  generalize m.regs t j = Rj at *
  go_wp2_with fail
  rw [← hW3]
  clear hT hA hR hC zt q0 q1 q2 q3 q4 lW2 lk2 lt2 lr2 hW3
  refine wp_region_F (S := (fun w' => w'.cell? ⟨w1.heap.size, 1, none⟩ = some (.int .i64 i) ∧ w'.cell? ⟨w1.heap.size, 2, none⟩ = some (.int .i64 j) ∧ w'.cell? ⟨p.rb t, i, none⟩ = some (.int .i64 Ri) ∧ w'.cell? ⟨p.rb t, j, none⟩ = some (.int .i64 Rj))) (by kernel_rfl) (by (try dsimp only); go_keep) (fun hHeld => ?_)
  refine' wpAnyF_take (i := 0) (n := 9) (v := _) rfl (by kernel_rfl) (fun _ _ _ h => h) (by assumption) (Or.inl ⟨by rfl, ?hy1⟩) ?rest1
  case' hy1 => (intro w' hSw; (try dsimp only at hSw); go_simp; try with_reducible rfl)
  try simp only [Act.put, List.getElem_toArray, List.getElem_cons_zero, List.setIfInBounds_toArray, List.set_cons_zero, List.set_cons_succ]
  refine' wpAnyF_take (i := 1) (n := 9) (v := _) rfl (by kernel_rfl) (fun _ _ _ h => h) (by assumption) (Or.inl ⟨by rfl, ?hy2⟩) ?rest2
  case' hy2 => (intro w' hSw; (try dsimp only at hSw); go_simp; try with_reducible rfl)
  try simp only [Act.put, List.getElem_toArray, List.getElem_cons_zero, List.getElem_cons_succ, List.setIfInBounds_toArray, List.set_cons_zero, List.set_cons_succ]
  refine' wpAnyF_take (i := 2) (n := 9) (v := _) rfl (by kernel_rfl) (fun _ _ _ h => h) (by assumption) (Or.inl ⟨by rfl, ?hy3⟩) ?rest3
  case' hy3 => (intro w' hSw; (try dsimp only at hSw); go_simp; try with_reducible rfl)
  try simp only [Act.put, List.getElem_toArray, List.getElem_cons_zero, List.getElem_cons_succ, List.setIfInBounds_toArray, List.set_cons_zero, List.set_cons_succ]
  refine' wpAnyF_take (i := 3) (n := 9) (v := _) rfl (by kernel_rfl) (fun _ _ _ h => h) (by assumption) (Or.inl ⟨by rfl, ?hy4⟩) ?rest4
  case' hy4 => (intro w' hSw; (try dsimp only at hSw); go_simp; try with_reducible rfl)
  try simp only [Act.put, List.getElem_toArray, List.getElem_cons_zero, List.getElem_cons_succ, List.setIfInBounds_toArray, List.set_cons_zero, List.set_cons_succ]
  refine' wpAnyF_take (i := 4) (n := 9) (v := _) rfl (by kernel_rfl) (fun _ _ _ h => h) (by assumption) (Or.inl ⟨by rfl, ?hy5⟩) ?rest5
  case' hy5 => (intro w' hSw; (try dsimp only at hSw); go_simp; try with_reducible rfl)
  try simp only [Act.put, List.getElem_toArray, List.getElem_cons_zero, List.getElem_cons_succ, List.setIfInBounds_toArray, List.set_cons_zero, List.set_cons_succ]
  refine' wpAnyF_take (i := 5) (n := 9) (v := _) rfl (by kernel_rfl) (fun _ _ _ h => h) (by assumption) (Or.inl ⟨by rfl, ?hy6⟩) ?rest6
  case' hy6 => (intro w' hSw; (try dsimp only at hSw); go_simp; try with_reducible rfl)
  try simp only [Act.put, List.getElem_toArray, List.getElem_cons_zero, List.getElem_cons_succ, List.setIfInBounds_toArray, List.set_cons_zero, List.set_cons_succ]
  refine' wpAnyF_take (i := 6) (n := 9) (v := _) rfl (by kernel_rfl) (fun _ _ _ h => h) (by assumption) (Or.inl ⟨by rfl, ?hy7⟩) ?rest7
  case' hy7 => (intro w' hSw; (try dsimp only at hSw); go_simp; try with_reducible rfl)
  try simp only [Act.put, List.getElem_toArray, List.getElem_cons_zero, List.getElem_cons_succ, List.setIfInBounds_toArray, List.set_cons_zero, List.set_cons_succ]
  refine' wpAnyF_take (i := 7) (n := 9) (v := _) rfl (by kernel_rfl) (fun _ _ _ h => h) (by assumption) (Or.inl ⟨by rfl, ?hy8⟩) ?rest8
  case' hy8 => (intro w' hSw; (try dsimp only at hSw); go_simp; try with_reducible rfl)
  try simp only [Act.put, List.getElem_toArray, List.getElem_cons_zero, List.getElem_cons_succ, List.setIfInBounds_toArray, List.set_cons_zero, List.set_cons_succ]
  refine' wpAnyF_take (i := 8) (n := 9) (v := _) rfl (by kernel_rfl) (fun _ _ _ h => h) (by assumption) (Or.inl ⟨by rfl, ?hy9⟩) ?rest9
  case' hy9 => (intro w' hSw; (try dsimp only at hSw); go_simp; try with_reducible rfl)
  try simp only [Act.put, List.getElem_toArray, List.getElem_cons_zero, List.getElem_cons_succ, List.setIfInBounds_toArray, List.set_cons_zero, List.set_cons_succ]
  clear hHeld
  refine wpAnyF_only (i := 9) rfl (by kernel_rfl) (fun K hK => ?_)
  go_simp
  refine hK.out _ _ (Or.inl (by kernel_rfl)) ?_
  clear hK K
  try simp only [Act.put, List.getElem_toArray, List.getElem_cons_zero, List.getElem_cons_succ, List.setIfInBounds_toArray, List.set_cons_zero, List.set_cons_succ]
  refine wpAnyF_done (by kernel_rfl) ?_ _
  go_wp2
  go_ret
  exact ⟨rfl, _, _, by rw [HM'.out]; exact HS.out.step⟩

set_option maxRecDepth 20000 in
set_option maxHeartbeats 2000000 in
theorem rstep_and {cs : List (List Ins)} {p : RkPl} {m : Mk} {K t : Nat} {w : World} (D : RkX cs p m K w) {L : List Ins} (ht : cs[t]? = some L) {x : Ins} (hx : L[m.pc t]? = some x) (e : x.op = ⟨#[97, 110, 100]⟩) {i : Nat} (hi : i < 8) (ei : x.a = i) {j : Nat} (hj : j < 8) (ej : x.b = j) {k : Nat} (hk : k < 8) (ek : x.c = k) :
    Calls Tryz.prog 25 #[.pointer (some ⟨p.k, 0, none⟩), .int .i64 t] w fun e w' => e = .returned (.int .i64 0) ∧ ∃ r v, RkStep cs p m.mem w r v (m.step L t) w' := by
  have hM : m.step L t = (m.setPc t (m.pc t + 1)).exec L t x := by unfold Mk.step; rw [hx]
  obtain ⟨M', hM'⟩ : ∃ M', M' = (m.setPc t (m.pc t + 1)).exec L t x := ⟨_, rfl⟩
  rw [hM, ← hM']
  rw [exec_and (m.setPc t (m.pc t + 1)) L t e] at hM'
  clear hM
  rw [ei] at hM'
  rw [ej] at hM'
  rw [ek] at hM'
  simp only [Int.toNat_natCast] at hM'
  try simp only [show ∀ r, (m.setPc t (m.pc t + 1)).regs t r = m.regs t r from fun _ => rfl] at hM'
  have HD := hide (rdone_at ht hx D.at')
  obtain ⟨xo, xa, xb, xc, xt⟩ := x
  dsimp only at e ei ej ek hM' ⊢
  subst e ei ej ek
  have HM' := hide hM'
  clear hM'
  have htl := lt_of_get ht
  have h6 := D.at'.few
  have hpl := lt_of_get hx
  have hL2 := (D.right.right t L ht).1
  have hcap := D.at'.tcap
  have hcc := D.at'.ccap t L ht
  have ti : (t : Int) < cs.length := by omega
  have t6 : (t : Int) < 6 := by omega
  have pi : (m.pc t : Int) < L.length := by omega
  have hpc2 : m.pc t ≤ 2000 := D.ok.pcs t
  have hpw := wrapNext hpc2
  have hpw2 := wrapNext2 hpc2
  have hr8 := D.at'.rcap t htl
  have li : (i : Int) < 8 := by omega
  have lj : (j : Int) < 8 := by omega
  have lk : (k : Int) < 8 := by omega
  have HIN := hide (D.at'.rc.code ht)
  have HX := hide D
  have H := hide D.at'
  have d0 : decide ((t : Int) < 0) = false := by simp
  have hT := H.out.mT
  clear D
  go_enter Tryz.func25, Tryz.ntmps25
  go_wp2_with fail
  refine HD.out.mono ?_
  rintro e w1 ⟨rfl, hb1⟩
  clear HD hT
  have H1 := hide (H.out.below hb1)
  have HIN1 := hide (insAt_below HIN.out hb1)
  have hT := H1.out.mT
  have hA := H1.out.tAt t htl
  have hC := H1.out.tCode t L ht
  have hR := H1.out.tRegs t htl
  obtain ⟨cb, off, had, c0, c1, c2, c3, c4⟩ := HIN1.out _ _ hx
  dsimp only at c0 c1 c2 c3 c4
  rw [had] at hC
  have lcb : cb < w1.heap.size := World.block_lt_of_cell? _ _ c0
  have lk := H1.out.lk
  have lt := H1.out.lt'
  have lr := H1.out.lr htl
  have zt := H1.out.ft (t * 3 + 2)
  obtain ⟨W2, hW2⟩ : ∃ W2, W2 = (w1.alloc (.cells #[.string ⟨#[97, 110, 100]⟩, .int .i64 i, .int .i64 j, .int .i64 k, .string xt] 75)).drew := ⟨_, rfl⟩
  have b2 : Below w1.heap.size w1 W2 := by rw [hW2]; exact ((Below.refl _ _).alloc (Nat.le_refl _) _).drew
  have q0 : W2.cell? ⟨w1.heap.size, 0, none⟩ = some (.string ⟨#[97, 110, 100]⟩) := by rw [hW2]; simp
  have q1 : W2.cell? ⟨w1.heap.size, 1, none⟩ = some (.int .i64 i) := by rw [hW2]; simp
  have q2 : W2.cell? ⟨w1.heap.size, 2, none⟩ = some (.int .i64 j) := by rw [hW2]; simp
  have q3 : W2.cell? ⟨w1.heap.size, 3, none⟩ = some (.int .i64 k) := by rw [hW2]; simp
  have q4 : W2.cell? ⟨w1.heap.size, 4, none⟩ = some (.string xt) := by rw [hW2]; simp
  have lW2 : w1.heap.size < W2.heap.size := World.block_lt_of_cell? _ _ q0
  clear HIN HIN1 had
  go_wp2_with fail
  go_region
  rw [← hW2]
  have B2 := below_step hb1 b2
  have H2 := hide (H.out.below B2)
  replace hT := H2.out.mT
  replace hA := H2.out.tAt t htl
  replace hR := H2.out.tRegs t htl
  replace hC := keep_cell b2 hC
  replace zt := H2.out.ft (t * 3 + 2)
  have dk := H2.out.d1
  have dr1 := (H2.out.d2 t htl).1
  have dr2 := (H2.out.d2 t htl).2
  have G2 : Hid (Stg cs p m.mem w w1.heap.size p.rp p.mv m W2) := hide (Stg.first H.out B2 hb1.size lW2)
  obtain ⟨nk, nt, nr⟩ := G2.out.ne
  replace nr := nr t htl
  have lk2 : p.k < W2.heap.size := by omega
  have lt2 : p.tb < W2.heap.size := by omega
  have lr2 : p.rb t < W2.heap.size := by omega
  obtain ⟨W3, hW3⟩ : ∃ W3, W3 = W2.setCell ⟨p.tb, t * 3 + 2, none⟩ (.int .i64 ((m.pc t : Int) + 1)) := ⟨_, rfl⟩
  have S3 : Hid (RkStep cs p m.mem W2 p.rp p.mv (m.setPc t (m.pc t + 1)) W3) := hide (by rw [hW3]; exact H2.out.setPc htl (m.pc t + 1))
  have G3 : Hid (Stg cs p m.mem w w1.heap.size p.rp p.mv (m.setPc t (m.pc t + 1)) W3) := hide (G2.out.trans S3.out)
  have HM3 : Hid (RkAt cs p (m.setPc t (m.pc t + 1)) W3) := hide G3.out.step.at'
  have HX3 : Hid (RkX cs p (m.setPc t (m.pc t + 1)) K W3) := hide ⟨HM3.out, HX.out.ok.setPc t (by omega), HX.out.right, HX.out.hK⟩
  have y0 := G2.out.keep S3.out q0
  have y1 := G2.out.keep S3.out q1
  have y2 := G2.out.keep S3.out q2
  have y3 := G2.out.keep S3.out q3
  have y4 := G2.out.keep S3.out q4
  have T3 := HM3.out.mT
  have R3 := HM3.out.tRegs t htl
  have k3 := HM3.out.mM
  have lW3 : w1.heap.size < W3.heap.size := G3.out.lt
  have G0 : Hid (∀ r, r < 8 → W2.cell? ⟨p.rb t, r, none⟩ = some (.int .i64 (m.regs t r)) ∧ W2.frozen? ⟨p.rb t, r, none⟩ = false) := fun r hr => ⟨H2.out.regs t r htl hr, H2.out.fr t r htl⟩
  clear H2 c0 c1 c2 c3 c4 hb1 b2 B2 hW2 G2 S3 H1 lcb
  obtain ⟨fi, fzi⟩ := G0.out i (by omega)
  have gi : W3.cell? ⟨p.rb t, i, none⟩ = some (.int .i64 (m.regs t i)) := HM3.out.regs t i htl (by omega)
  obtain ⟨fj, fzj⟩ := G0.out j (by omega)
  have gj : W3.cell? ⟨p.rb t, j, none⟩ = some (.int .i64 (m.regs t j)) := HM3.out.regs t j htl (by omega)
  obtain ⟨fk, fzk⟩ := G0.out k (by omega)
  have gk : W3.cell? ⟨p.rb t, k, none⟩ = some (.int .i64 (m.regs t k)) := HM3.out.regs t k htl (by omega)
  clear G0
  have z3 : W3.frozen? ⟨p.rb t, i, none⟩ = false := HM3.out.fr t i htl
  have HB : Hid (∀ w', Calls Tryz.prog 55 #[.string ⟨#[97, 110, 100]⟩, .int .i64 (m.regs t j), .int .i64 (m.regs t k)] w' fun e w'' => e = .returned (.int .i64 (andW (m.regs t j) (m.regs t k))) ∧ w'' = w') := fun w' => rbits_andW (HX3.out.ok.regs t j) (HX3.out.ok.regs t k) w'
  have HS := hide (G3.out.trans ((HM3.out.setReg htl hi (andW (m.regs t j) (m.regs t k))).below (Below.refl _ _).drew))
  clear G3 HM3 HX3
  generalize andW (m.regs t j) (m.regs t k) = V at *
  generalize m.regs t i = Ri at *
  generalize m.regs t j = Rj at *
  generalize m.regs t k = Rk at *
  go_wp2_with fail
  rw [← hW3]
  clear hT hA hR hC zt q0 q1 q2 q3 q4 lW2 lk2 lt2 lr2 hW3
  refine wp_region_F (S := (fun w' => w'.cell? ⟨w1.heap.size, 0, none⟩ = some (.string ⟨#[97, 110, 100]⟩) ∧ w'.cell? ⟨w1.heap.size, 1, none⟩ = some (.int .i64 i) ∧ w'.cell? ⟨w1.heap.size, 2, none⟩ = some (.int .i64 j) ∧ w'.cell? ⟨w1.heap.size, 3, none⟩ = some (.int .i64 k) ∧ w'.cell? ⟨p.rb t, i, none⟩ = some (.int .i64 Ri) ∧ w'.cell? ⟨p.rb t, j, none⟩ = some (.int .i64 Rj) ∧ w'.cell? ⟨p.rb t, k, none⟩ = some (.int .i64 Rk))) (by kernel_rfl) (by (try dsimp only); go_keep) (fun hHeld => ?_)
  refine' wpAnyF_take (i := 0) (n := 17) (v := _) rfl (by kernel_rfl) (fun _ _ _ h => h) (by assumption) (Or.inl ⟨by rfl, ?hy10⟩) ?rest10
  case' hy10 => (intro w' hSw; (try dsimp only at hSw); go_simp; try with_reducible rfl)
  try simp only [Act.put, List.getElem_toArray, List.getElem_cons_zero, List.setIfInBounds_toArray, List.set_cons_zero, List.set_cons_succ]
  refine' wpAnyF_take (i := 1) (n := 17) (v := _) rfl (by kernel_rfl) (fun _ _ _ h => h) (by assumption) (Or.inl ⟨by rfl, ?hy11⟩) ?rest11
  case' hy11 => (intro w' hSw; (try dsimp only at hSw); go_simp; try with_reducible rfl)
  try simp only [Act.put, List.getElem_toArray, List.getElem_cons_zero, List.getElem_cons_succ, List.setIfInBounds_toArray, List.set_cons_zero, List.set_cons_succ]
  refine' wpAnyF_take (i := 2) (n := 17) (v := _) rfl (by kernel_rfl) (fun _ _ _ h => h) (by assumption) (Or.inl ⟨by rfl, ?hy12⟩) ?rest12
  case' hy12 => (intro w' hSw; (try dsimp only at hSw); go_simp; try with_reducible rfl)
  try simp only [Act.put, List.getElem_toArray, List.getElem_cons_zero, List.getElem_cons_succ, List.setIfInBounds_toArray, List.set_cons_zero, List.set_cons_succ]
  refine' wpAnyF_take (i := 3) (n := 17) (v := _) rfl (by kernel_rfl) (fun _ _ _ h => h) (by assumption) (Or.inl ⟨by rfl, ?hy13⟩) ?rest13
  case' hy13 => (intro w' hSw; (try dsimp only at hSw); go_simp; try with_reducible rfl)
  try simp only [Act.put, List.getElem_toArray, List.getElem_cons_zero, List.getElem_cons_succ, List.setIfInBounds_toArray, List.set_cons_zero, List.set_cons_succ]
  refine' wpAnyF_take (i := 4) (n := 17) (v := _) rfl (by kernel_rfl) (fun _ _ _ h => h) (by assumption) (Or.inl ⟨by rfl, ?hy14⟩) ?rest14
  case' hy14 => (intro w' hSw; (try dsimp only at hSw); go_simp; try with_reducible rfl)
  try simp only [Act.put, List.getElem_toArray, List.getElem_cons_zero, List.getElem_cons_succ, List.setIfInBounds_toArray, List.set_cons_zero, List.set_cons_succ]
  refine' wpAnyF_take (i := 5) (n := 17) (v := _) rfl (by kernel_rfl) (fun _ _ _ h => h) (by assumption) (Or.inl ⟨by rfl, ?hy15⟩) ?rest15
  case' hy15 => (intro w' hSw; (try dsimp only at hSw); go_simp; try with_reducible rfl)
  try simp only [Act.put, List.getElem_toArray, List.getElem_cons_zero, List.getElem_cons_succ, List.setIfInBounds_toArray, List.set_cons_zero, List.set_cons_succ]
  refine' wpAnyF_take (i := 6) (n := 17) (v := _) rfl (by kernel_rfl) (fun _ _ _ h => h) (by assumption) (Or.inl ⟨by rfl, ?hy16⟩) ?rest16
  case' hy16 => (intro w' hSw; (try dsimp only at hSw); go_simp; try with_reducible rfl)
  try simp only [Act.put, List.getElem_toArray, List.getElem_cons_zero, List.getElem_cons_succ, List.setIfInBounds_toArray, List.set_cons_zero, List.set_cons_succ]
  refine' wpAnyF_take (i := 7) (n := 17) (v := _) rfl (by kernel_rfl) (fun _ _ _ h => h) (by assumption) (Or.inl ⟨by rfl, ?hy17⟩) ?rest17
  case' hy17 => (intro w' hSw; (try dsimp only at hSw); go_simp; try with_reducible rfl)
  try simp only [Act.put, List.getElem_toArray, List.getElem_cons_zero, List.getElem_cons_succ, List.setIfInBounds_toArray, List.set_cons_zero, List.set_cons_succ]
  refine' wpAnyF_take (i := 8) (n := 17) (v := _) rfl (by kernel_rfl) (fun _ _ _ h => h) (by assumption) (Or.inl ⟨by rfl, ?hy18⟩) ?rest18
  case' hy18 => (intro w' hSw; (try dsimp only at hSw); go_simp; try with_reducible rfl)
  try simp only [Act.put, List.getElem_toArray, List.getElem_cons_zero, List.getElem_cons_succ, List.setIfInBounds_toArray, List.set_cons_zero, List.set_cons_succ]
  refine' wpAnyF_take (i := 9) (n := 17) (v := _) rfl (by kernel_rfl) (fun _ _ _ h => h) (by assumption) (Or.inl ⟨by rfl, ?hy19⟩) ?rest19
  case' hy19 => (intro w' hSw; (try dsimp only at hSw); go_simp; try with_reducible rfl)
  try simp only [Act.put, List.getElem_toArray, List.getElem_cons_zero, List.getElem_cons_succ, List.setIfInBounds_toArray, List.set_cons_zero, List.set_cons_succ]
  refine' wpAnyF_take (i := 10) (n := 17) (v := _) rfl (by kernel_rfl) (fun _ _ _ h => h) (by assumption) (Or.inl ⟨by rfl, ?hy20⟩) ?rest20
  case' hy20 => (intro w' hSw; (try dsimp only at hSw); go_simp; try with_reducible rfl)
  try simp only [Act.put, List.getElem_toArray, List.getElem_cons_zero, List.getElem_cons_succ, List.setIfInBounds_toArray, List.set_cons_zero, List.set_cons_succ]
  refine' wpAnyF_take (i := 11) (n := 17) (v := _) rfl (by kernel_rfl) (fun _ _ _ h => h) (by assumption) (Or.inl ⟨by rfl, ?hy21⟩) ?rest21
  case' hy21 => (intro w' hSw; (try dsimp only at hSw); go_simp; try with_reducible rfl)
  try simp only [Act.put, List.getElem_toArray, List.getElem_cons_zero, List.getElem_cons_succ, List.setIfInBounds_toArray, List.set_cons_zero, List.set_cons_succ]
  refine' wpAnyF_take (i := 12) (n := 17) (v := _) rfl (by kernel_rfl) (fun _ _ _ h => h) (by assumption) (Or.inl ⟨by rfl, ?hy22⟩) ?rest22
  case' hy22 => (intro w' hSw; (try dsimp only at hSw); go_simp; try with_reducible rfl)
  try simp only [Act.put, List.getElem_toArray, List.getElem_cons_zero, List.getElem_cons_succ, List.setIfInBounds_toArray, List.set_cons_zero, List.set_cons_succ]
  refine' wpAnyF_take (i := 13) (n := 17) (v := _) rfl (by kernel_rfl) (fun _ _ _ h => h) (by assumption) (Or.inl ⟨by rfl, ?hy23⟩) ?rest23
  case' hy23 => (intro w' hSw; (try dsimp only at hSw); go_simp; try with_reducible rfl)
  try simp only [Act.put, List.getElem_toArray, List.getElem_cons_zero, List.getElem_cons_succ, List.setIfInBounds_toArray, List.set_cons_zero, List.set_cons_succ]
  refine' wpAnyF_take (i := 14) (n := 17) (v := _) rfl (by kernel_rfl) (fun _ _ _ h => h) (by assumption) (Or.inl ⟨by rfl, ?hy24⟩) ?rest24
  case' hy24 => (intro w' hSw; (try dsimp only at hSw); go_simp; try with_reducible rfl)
  try simp only [Act.put, List.getElem_toArray, List.getElem_cons_zero, List.getElem_cons_succ, List.setIfInBounds_toArray, List.set_cons_zero, List.set_cons_succ]
  refine wpAnyF_only (i := 15) rfl (by kernel_rfl) (fun K hK => ?_)
  go_simp
  go_at_call 55
  refine (HB.out _).mono ?_
  rintro e w4 ⟨rfl, rfl⟩
  dsimp only
  refine hK.out _ _ (Or.inr (by (try dsimp only); exact hHeld)) ?_
  clear hK K
  try simp only [Act.put, List.getElem_toArray, List.getElem_cons_zero, List.getElem_cons_succ, List.setIfInBounds_toArray, List.set_cons_zero, List.set_cons_succ]
  refine' wpAnyF_take (i := 16) (n := 17) (v := _) rfl (by kernel_rfl) (fun _ _ _ h => h) (by assumption) (Or.inl ⟨by rfl, ?hy25⟩) ?rest25
  case' hy25 => (intro w' hSw; (try dsimp only at hSw); go_simp; try with_reducible rfl)
  try simp only [Act.put, List.getElem_toArray, List.getElem_cons_zero, List.getElem_cons_succ, List.setIfInBounds_toArray, List.set_cons_zero, List.set_cons_succ]
  clear hHeld
  refine wpAnyF_only (i := 17) rfl (by kernel_rfl) (fun K hK => ?_)
  go_simp
  refine hK.out _ _ (Or.inl (by kernel_rfl)) ?_
  clear hK K
  try simp only [Act.put, List.getElem_toArray, List.getElem_cons_zero, List.getElem_cons_succ, List.setIfInBounds_toArray, List.set_cons_zero, List.set_cons_succ]
  refine wpAnyF_done (by kernel_rfl) ?_ _
  go_wp2
  go_ret
  exact ⟨rfl, _, _, by rw [HM'.out]; exact HS.out.step⟩

set_option maxRecDepth 20000 in
set_option maxHeartbeats 2000000 in
theorem rstep_xor {cs : List (List Ins)} {p : RkPl} {m : Mk} {K t : Nat} {w : World} (D : RkX cs p m K w) {L : List Ins} (ht : cs[t]? = some L) {x : Ins} (hx : L[m.pc t]? = some x) (e : x.op = ⟨#[120, 111, 114]⟩) {i : Nat} (hi : i < 8) (ei : x.a = i) {j : Nat} (hj : j < 8) (ej : x.b = j) {k : Nat} (hk : k < 8) (ek : x.c = k) :
    Calls Tryz.prog 25 #[.pointer (some ⟨p.k, 0, none⟩), .int .i64 t] w fun e w' => e = .returned (.int .i64 0) ∧ ∃ r v, RkStep cs p m.mem w r v (m.step L t) w' := by
  have hM : m.step L t = (m.setPc t (m.pc t + 1)).exec L t x := by unfold Mk.step; rw [hx]
  obtain ⟨M', hM'⟩ : ∃ M', M' = (m.setPc t (m.pc t + 1)).exec L t x := ⟨_, rfl⟩
  rw [hM, ← hM']
  rw [exec_xor (m.setPc t (m.pc t + 1)) L t e] at hM'
  clear hM
  rw [ei] at hM'
  rw [ej] at hM'
  rw [ek] at hM'
  simp only [Int.toNat_natCast] at hM'
  try simp only [show ∀ r, (m.setPc t (m.pc t + 1)).regs t r = m.regs t r from fun _ => rfl] at hM'
  have HD := hide (rdone_at ht hx D.at')
  obtain ⟨xo, xa, xb, xc, xt⟩ := x
  dsimp only at e ei ej ek hM' ⊢
  subst e ei ej ek
  have HM' := hide hM'
  clear hM'
  have htl := lt_of_get ht
  have h6 := D.at'.few
  have hpl := lt_of_get hx
  have hL2 := (D.right.right t L ht).1
  have hcap := D.at'.tcap
  have hcc := D.at'.ccap t L ht
  have ti : (t : Int) < cs.length := by omega
  have t6 : (t : Int) < 6 := by omega
  have pi : (m.pc t : Int) < L.length := by omega
  have hpc2 : m.pc t ≤ 2000 := D.ok.pcs t
  have hpw := wrapNext hpc2
  have hpw2 := wrapNext2 hpc2
  have hr8 := D.at'.rcap t htl
  have li : (i : Int) < 8 := by omega
  have lj : (j : Int) < 8 := by omega
  have lk : (k : Int) < 8 := by omega
  have HIN := hide (D.at'.rc.code ht)
  have HX := hide D
  have H := hide D.at'
  have d0 : decide ((t : Int) < 0) = false := by simp
  have hT := H.out.mT
  clear D
  go_enter Tryz.func25, Tryz.ntmps25
  go_wp2_with fail
  refine HD.out.mono ?_
  rintro e w1 ⟨rfl, hb1⟩
  clear HD hT
  have H1 := hide (H.out.below hb1)
  have HIN1 := hide (insAt_below HIN.out hb1)
  have hT := H1.out.mT
  have hA := H1.out.tAt t htl
  have hC := H1.out.tCode t L ht
  have hR := H1.out.tRegs t htl
  obtain ⟨cb, off, had, c0, c1, c2, c3, c4⟩ := HIN1.out _ _ hx
  dsimp only at c0 c1 c2 c3 c4
  rw [had] at hC
  have lcb : cb < w1.heap.size := World.block_lt_of_cell? _ _ c0
  have lk := H1.out.lk
  have lt := H1.out.lt'
  have lr := H1.out.lr htl
  have zt := H1.out.ft (t * 3 + 2)
  obtain ⟨W2, hW2⟩ : ∃ W2, W2 = (w1.alloc (.cells #[.string ⟨#[120, 111, 114]⟩, .int .i64 i, .int .i64 j, .int .i64 k, .string xt] 75)).drew := ⟨_, rfl⟩
  have b2 : Below w1.heap.size w1 W2 := by rw [hW2]; exact ((Below.refl _ _).alloc (Nat.le_refl _) _).drew
  have q0 : W2.cell? ⟨w1.heap.size, 0, none⟩ = some (.string ⟨#[120, 111, 114]⟩) := by rw [hW2]; simp
  have q1 : W2.cell? ⟨w1.heap.size, 1, none⟩ = some (.int .i64 i) := by rw [hW2]; simp
  have q2 : W2.cell? ⟨w1.heap.size, 2, none⟩ = some (.int .i64 j) := by rw [hW2]; simp
  have q3 : W2.cell? ⟨w1.heap.size, 3, none⟩ = some (.int .i64 k) := by rw [hW2]; simp
  have q4 : W2.cell? ⟨w1.heap.size, 4, none⟩ = some (.string xt) := by rw [hW2]; simp
  have lW2 : w1.heap.size < W2.heap.size := World.block_lt_of_cell? _ _ q0
  clear HIN HIN1 had
  go_wp2_with fail
  go_region
  rw [← hW2]
  have B2 := below_step hb1 b2
  have H2 := hide (H.out.below B2)
  replace hT := H2.out.mT
  replace hA := H2.out.tAt t htl
  replace hR := H2.out.tRegs t htl
  replace hC := keep_cell b2 hC
  replace zt := H2.out.ft (t * 3 + 2)
  have dk := H2.out.d1
  have dr1 := (H2.out.d2 t htl).1
  have dr2 := (H2.out.d2 t htl).2
  have G2 : Hid (Stg cs p m.mem w w1.heap.size p.rp p.mv m W2) := hide (Stg.first H.out B2 hb1.size lW2)
  obtain ⟨nk, nt, nr⟩ := G2.out.ne
  replace nr := nr t htl
  have lk2 : p.k < W2.heap.size := by omega
  have lt2 : p.tb < W2.heap.size := by omega
  have lr2 : p.rb t < W2.heap.size := by omega
  obtain ⟨W3, hW3⟩ : ∃ W3, W3 = W2.setCell ⟨p.tb, t * 3 + 2, none⟩ (.int .i64 ((m.pc t : Int) + 1)) := ⟨_, rfl⟩
  have S3 : Hid (RkStep cs p m.mem W2 p.rp p.mv (m.setPc t (m.pc t + 1)) W3) := hide (by rw [hW3]; exact H2.out.setPc htl (m.pc t + 1))
  have G3 : Hid (Stg cs p m.mem w w1.heap.size p.rp p.mv (m.setPc t (m.pc t + 1)) W3) := hide (G2.out.trans S3.out)
  have HM3 : Hid (RkAt cs p (m.setPc t (m.pc t + 1)) W3) := hide G3.out.step.at'
  have HX3 : Hid (RkX cs p (m.setPc t (m.pc t + 1)) K W3) := hide ⟨HM3.out, HX.out.ok.setPc t (by omega), HX.out.right, HX.out.hK⟩
  have y0 := G2.out.keep S3.out q0
  have y1 := G2.out.keep S3.out q1
  have y2 := G2.out.keep S3.out q2
  have y3 := G2.out.keep S3.out q3
  have y4 := G2.out.keep S3.out q4
  have T3 := HM3.out.mT
  have R3 := HM3.out.tRegs t htl
  have k3 := HM3.out.mM
  have lW3 : w1.heap.size < W3.heap.size := G3.out.lt
  have G0 : Hid (∀ r, r < 8 → W2.cell? ⟨p.rb t, r, none⟩ = some (.int .i64 (m.regs t r)) ∧ W2.frozen? ⟨p.rb t, r, none⟩ = false) := fun r hr => ⟨H2.out.regs t r htl hr, H2.out.fr t r htl⟩
  clear H2 c0 c1 c2 c3 c4 hb1 b2 B2 hW2 G2 S3 H1 lcb
  obtain ⟨fi, fzi⟩ := G0.out i (by omega)
  have gi : W3.cell? ⟨p.rb t, i, none⟩ = some (.int .i64 (m.regs t i)) := HM3.out.regs t i htl (by omega)
  obtain ⟨fj, fzj⟩ := G0.out j (by omega)
  have gj : W3.cell? ⟨p.rb t, j, none⟩ = some (.int .i64 (m.regs t j)) := HM3.out.regs t j htl (by omega)
  obtain ⟨fk, fzk⟩ := G0.out k (by omega)
  have gk : W3.cell? ⟨p.rb t, k, none⟩ = some (.int .i64 (m.regs t k)) := HM3.out.regs t k htl (by omega)
  clear G0
  have z3 : W3.frozen? ⟨p.rb t, i, none⟩ = false := HM3.out.fr t i htl
  have HB : Hid (∀ w', Calls Tryz.prog 55 #[.string ⟨#[120, 111, 114]⟩, .int .i64 (m.regs t j), .int .i64 (m.regs t k)] w' fun e w'' => e = .returned (.int .i64 (xorW (m.regs t j) (m.regs t k))) ∧ w'' = w') := fun w' => rbits_xorW (HX3.out.ok.regs t j) (HX3.out.ok.regs t k) w'
  have HS := hide (G3.out.trans ((HM3.out.setReg htl hi (xorW (m.regs t j) (m.regs t k))).below (Below.refl _ _).drew))
  clear G3 HM3 HX3
  generalize xorW (m.regs t j) (m.regs t k) = V at *
  generalize m.regs t i = Ri at *
  generalize m.regs t j = Rj at *
  generalize m.regs t k = Rk at *
  go_wp2_with fail
  rw [← hW3]
  clear hT hA hR hC zt q0 q1 q2 q3 q4 lW2 lk2 lt2 lr2 hW3
  refine wp_region_F (S := (fun w' => w'.cell? ⟨w1.heap.size, 0, none⟩ = some (.string ⟨#[120, 111, 114]⟩) ∧ w'.cell? ⟨w1.heap.size, 1, none⟩ = some (.int .i64 i) ∧ w'.cell? ⟨w1.heap.size, 2, none⟩ = some (.int .i64 j) ∧ w'.cell? ⟨w1.heap.size, 3, none⟩ = some (.int .i64 k) ∧ w'.cell? ⟨p.rb t, i, none⟩ = some (.int .i64 Ri) ∧ w'.cell? ⟨p.rb t, j, none⟩ = some (.int .i64 Rj) ∧ w'.cell? ⟨p.rb t, k, none⟩ = some (.int .i64 Rk))) (by kernel_rfl) (by (try dsimp only); go_keep) (fun hHeld => ?_)
  refine' wpAnyF_take (i := 0) (n := 17) (v := _) rfl (by kernel_rfl) (fun _ _ _ h => h) (by assumption) (Or.inl ⟨by rfl, ?hy26⟩) ?rest26
  case' hy26 => (intro w' hSw; (try dsimp only at hSw); go_simp; try with_reducible rfl)
  try simp only [Act.put, List.getElem_toArray, List.getElem_cons_zero, List.setIfInBounds_toArray, List.set_cons_zero, List.set_cons_succ]
  refine' wpAnyF_take (i := 1) (n := 17) (v := _) rfl (by kernel_rfl) (fun _ _ _ h => h) (by assumption) (Or.inl ⟨by rfl, ?hy27⟩) ?rest27
  case' hy27 => (intro w' hSw; (try dsimp only at hSw); go_simp; try with_reducible rfl)
  try simp only [Act.put, List.getElem_toArray, List.getElem_cons_zero, List.getElem_cons_succ, List.setIfInBounds_toArray, List.set_cons_zero, List.set_cons_succ]
  refine' wpAnyF_take (i := 2) (n := 17) (v := _) rfl (by kernel_rfl) (fun _ _ _ h => h) (by assumption) (Or.inl ⟨by rfl, ?hy28⟩) ?rest28
  case' hy28 => (intro w' hSw; (try dsimp only at hSw); go_simp; try with_reducible rfl)
  try simp only [Act.put, List.getElem_toArray, List.getElem_cons_zero, List.getElem_cons_succ, List.setIfInBounds_toArray, List.set_cons_zero, List.set_cons_succ]
  refine' wpAnyF_take (i := 3) (n := 17) (v := _) rfl (by kernel_rfl) (fun _ _ _ h => h) (by assumption) (Or.inl ⟨by rfl, ?hy29⟩) ?rest29
  case' hy29 => (intro w' hSw; (try dsimp only at hSw); go_simp; try with_reducible rfl)
  try simp only [Act.put, List.getElem_toArray, List.getElem_cons_zero, List.getElem_cons_succ, List.setIfInBounds_toArray, List.set_cons_zero, List.set_cons_succ]
  refine' wpAnyF_take (i := 4) (n := 17) (v := _) rfl (by kernel_rfl) (fun _ _ _ h => h) (by assumption) (Or.inl ⟨by rfl, ?hy30⟩) ?rest30
  case' hy30 => (intro w' hSw; (try dsimp only at hSw); go_simp; try with_reducible rfl)
  try simp only [Act.put, List.getElem_toArray, List.getElem_cons_zero, List.getElem_cons_succ, List.setIfInBounds_toArray, List.set_cons_zero, List.set_cons_succ]
  refine' wpAnyF_take (i := 5) (n := 17) (v := _) rfl (by kernel_rfl) (fun _ _ _ h => h) (by assumption) (Or.inl ⟨by rfl, ?hy31⟩) ?rest31
  case' hy31 => (intro w' hSw; (try dsimp only at hSw); go_simp; try with_reducible rfl)
  try simp only [Act.put, List.getElem_toArray, List.getElem_cons_zero, List.getElem_cons_succ, List.setIfInBounds_toArray, List.set_cons_zero, List.set_cons_succ]
  refine' wpAnyF_take (i := 6) (n := 17) (v := _) rfl (by kernel_rfl) (fun _ _ _ h => h) (by assumption) (Or.inl ⟨by rfl, ?hy32⟩) ?rest32
  case' hy32 => (intro w' hSw; (try dsimp only at hSw); go_simp; try with_reducible rfl)
  try simp only [Act.put, List.getElem_toArray, List.getElem_cons_zero, List.getElem_cons_succ, List.setIfInBounds_toArray, List.set_cons_zero, List.set_cons_succ]
  refine' wpAnyF_take (i := 7) (n := 17) (v := _) rfl (by kernel_rfl) (fun _ _ _ h => h) (by assumption) (Or.inl ⟨by rfl, ?hy33⟩) ?rest33
  case' hy33 => (intro w' hSw; (try dsimp only at hSw); go_simp; try with_reducible rfl)
  try simp only [Act.put, List.getElem_toArray, List.getElem_cons_zero, List.getElem_cons_succ, List.setIfInBounds_toArray, List.set_cons_zero, List.set_cons_succ]
  refine' wpAnyF_take (i := 8) (n := 17) (v := _) rfl (by kernel_rfl) (fun _ _ _ h => h) (by assumption) (Or.inl ⟨by rfl, ?hy34⟩) ?rest34
  case' hy34 => (intro w' hSw; (try dsimp only at hSw); go_simp; try with_reducible rfl)
  try simp only [Act.put, List.getElem_toArray, List.getElem_cons_zero, List.getElem_cons_succ, List.setIfInBounds_toArray, List.set_cons_zero, List.set_cons_succ]
  refine' wpAnyF_take (i := 9) (n := 17) (v := _) rfl (by kernel_rfl) (fun _ _ _ h => h) (by assumption) (Or.inl ⟨by rfl, ?hy35⟩) ?rest35
  case' hy35 => (intro w' hSw; (try dsimp only at hSw); go_simp; try with_reducible rfl)
  try simp only [Act.put, List.getElem_toArray, List.getElem_cons_zero, List.getElem_cons_succ, List.setIfInBounds_toArray, List.set_cons_zero, List.set_cons_succ]
  refine' wpAnyF_take (i := 10) (n := 17) (v := _) rfl (by kernel_rfl) (fun _ _ _ h => h) (by assumption) (Or.inl ⟨by rfl, ?hy36⟩) ?rest36
  case' hy36 => (intro w' hSw; (try dsimp only at hSw); go_simp; try with_reducible rfl)
  try simp only [Act.put, List.getElem_toArray, List.getElem_cons_zero, List.getElem_cons_succ, List.setIfInBounds_toArray, List.set_cons_zero, List.set_cons_succ]
  refine' wpAnyF_take (i := 11) (n := 17) (v := _) rfl (by kernel_rfl) (fun _ _ _ h => h) (by assumption) (Or.inl ⟨by rfl, ?hy37⟩) ?rest37
  case' hy37 => (intro w' hSw; (try dsimp only at hSw); go_simp; try with_reducible rfl)
  try simp only [Act.put, List.getElem_toArray, List.getElem_cons_zero, List.getElem_cons_succ, List.setIfInBounds_toArray, List.set_cons_zero, List.set_cons_succ]
  refine' wpAnyF_take (i := 12) (n := 17) (v := _) rfl (by kernel_rfl) (fun _ _ _ h => h) (by assumption) (Or.inl ⟨by rfl, ?hy38⟩) ?rest38
  case' hy38 => (intro w' hSw; (try dsimp only at hSw); go_simp; try with_reducible rfl)
  try simp only [Act.put, List.getElem_toArray, List.getElem_cons_zero, List.getElem_cons_succ, List.setIfInBounds_toArray, List.set_cons_zero, List.set_cons_succ]
  refine' wpAnyF_take (i := 13) (n := 17) (v := _) rfl (by kernel_rfl) (fun _ _ _ h => h) (by assumption) (Or.inl ⟨by rfl, ?hy39⟩) ?rest39
  case' hy39 => (intro w' hSw; (try dsimp only at hSw); go_simp; try with_reducible rfl)
  try simp only [Act.put, List.getElem_toArray, List.getElem_cons_zero, List.getElem_cons_succ, List.setIfInBounds_toArray, List.set_cons_zero, List.set_cons_succ]
  refine' wpAnyF_take (i := 14) (n := 17) (v := _) rfl (by kernel_rfl) (fun _ _ _ h => h) (by assumption) (Or.inl ⟨by rfl, ?hy40⟩) ?rest40
  case' hy40 => (intro w' hSw; (try dsimp only at hSw); go_simp; try with_reducible rfl)
  try simp only [Act.put, List.getElem_toArray, List.getElem_cons_zero, List.getElem_cons_succ, List.setIfInBounds_toArray, List.set_cons_zero, List.set_cons_succ]
  refine wpAnyF_only (i := 15) rfl (by kernel_rfl) (fun K hK => ?_)
  go_simp
  go_at_call 55
  refine (HB.out _).mono ?_
  rintro e w4 ⟨rfl, rfl⟩
  dsimp only
  refine hK.out _ _ (Or.inr (by (try dsimp only); exact hHeld)) ?_
  clear hK K
  try simp only [Act.put, List.getElem_toArray, List.getElem_cons_zero, List.getElem_cons_succ, List.setIfInBounds_toArray, List.set_cons_zero, List.set_cons_succ]
  refine' wpAnyF_take (i := 16) (n := 17) (v := _) rfl (by kernel_rfl) (fun _ _ _ h => h) (by assumption) (Or.inl ⟨by rfl, ?hy41⟩) ?rest41
  case' hy41 => (intro w' hSw; (try dsimp only at hSw); go_simp; try with_reducible rfl)
  try simp only [Act.put, List.getElem_toArray, List.getElem_cons_zero, List.getElem_cons_succ, List.setIfInBounds_toArray, List.set_cons_zero, List.set_cons_succ]
  clear hHeld
  refine wpAnyF_only (i := 17) rfl (by kernel_rfl) (fun K hK => ?_)
  go_simp
  refine hK.out _ _ (Or.inl (by kernel_rfl)) ?_
  clear hK K
  try simp only [Act.put, List.getElem_toArray, List.getElem_cons_zero, List.getElem_cons_succ, List.setIfInBounds_toArray, List.set_cons_zero, List.set_cons_succ]
  refine wpAnyF_done (by kernel_rfl) ?_ _
  go_wp2
  go_ret
  exact ⟨rfl, _, _, by rw [HM'.out]; exact HS.out.step⟩
end Go.Proofs.YtdpmnlbnlnmjbaaGreatDoor
