import Derived.Test.YtaiigfcfmcicjaaGreatDoorF36
import Derived.Laws.BitsLemmas
namespace Go.Proofs.YtaiigfcfmcicjaaGreatDoor
set_option maxRecDepth 100000
set_option maxHeartbeats 8000000
section
open Go.RowKit Go.Extern.Stop Go.Stop Go.Extern
variable {A B : Nat} {a b : Int}
theorem bit_and (x y : Nat) (hx : x < 2) (hy : y < 2) : (x &&& y) = if x + y = 2 then 1 else 0 := by
 rcases (by omega : x = 0 ∨ x = 1) with rfl | rfl <;> rcases (by omega : y = 0 ∨ y = 1) with rfl | rfl <;> decide
theorem bit_xor (x y : Nat) (hx : x < 2) (hy : y < 2) : (x ^^^ y) = if x + y = 1 then 1 else 0 := by
 rcases (by omega : x = 0 ∨ x = 1) with rfl | rfl <;> rcases (by omega : y = 0 ∨ y = 1) with rfl | rfl <;> decide
theorem and_bit (a b i : Nat) : (a &&& b) / 2 ^ i % 2 = if a / 2 ^ i % 2 + b / 2 ^ i % 2 = 2 then 1 else 0 := by
 rw [<- Nat.shiftRight_eq_div_pow, Nat.shiftRight_and_distrib, <- bit_and _ _ (Nat.mod_lt _ (by decide)) (Nat.mod_lt _ (by decide)), <- Nat.shiftRight_eq_div_pow, <- Nat.shiftRight_eq_div_pow]
 exact Nat.and_mod_two_pow (n := 1)
theorem xor_bit (a b i : Nat) : (a ^^^ b) / 2 ^ i % 2 = if a / 2 ^ i % 2 + b / 2 ^ i % 2 = 1 then 1 else 0 := by
 rw [<- Nat.shiftRight_eq_div_pow, Nat.shiftRight_xor_distrib, <- bit_xor _ _ (Nat.mod_lt _ (by decide)) (Nat.mod_lt _ (by decide)), <- Nat.shiftRight_eq_div_pow, <- Nat.shiftRight_eq_div_pow]
 exact Nat.xor_mod_two_pow (n := 1)
theorem mod_pow_next (n i : Nat) : n % 2 ^ (i + 1) = n % 2 ^ i + 2 ^ i * (n / 2 ^ i % 2) := by
 rw [Nat.pow_succ, Nat.mod_mul]
theorem shr_bit (A j : Nat) : (((A : Nat) : Int) / 2 ^ j).tmod 2 = ((A / 2 ^ j % 2 : Nat) : Int) := by
 have e : ((A : Nat) : Int) / 2 ^ j = ((A / 2 ^ j : Nat) : Int) := by rw [Int.natCast_ediv, Int.natCast_pow]; rfl
 rw [e]
 generalize A / 2 ^ j = X
 rw [Int.tmod_eq_emod_of_nonneg (Int.natCast_nonneg _)]
 omega
structure BitsAnd (A B : Nat) (F : Nat -> Int) : Prop where
 zero : F 0 = 0
 next : ∀ (j : Nat) (P X Y : Int), j < 32 -> (2 : Int) ^ j = P -> ((A : Int) / P).tmod 2 = X -> ((B : Int) / P).tmod 2 = Y -> (0 <= X /\ X <= 1) /\ (0 <= Y /\ Y <= 1) /\ (1 <= P /\ P <= 2147483648) /\ (0 <= F j /\ F j < P) /\ F (j + 1) = F j + if X + Y = 2 then P else 0
 last : F 32 = ((A &&& B : Nat) : Int)
theorem bitsAnd_is (ha : A < 4294967296) (_hb : B < 4294967296) : BitsAnd A B (fun j => ((((A &&& B) % 2 ^ j : Nat)) : Int)) where
 zero := by simp [Nat.mod_one]
 next j P X Y hj hP hX hY := by
  have hx := shr_bit A j
  have hy := shr_bit B j
  rw [hP, hX] at hx
  rw [hP, hY] at hy
  have hn := mod_pow_next (A &&& B) j
  rw [and_bit] at hn
  have lx := Nat.mod_lt (A / 2 ^ j) (show 2 > 0 by decide)
  have ly := Nat.mod_lt (B / 2 ^ j) (show 2 > 0 by decide)
  have hm : (A &&& B) % 2 ^ j < 2 ^ j := Nat.mod_lt _ (Nat.pow_pos (by decide))
  have h1 : 0 < 2 ^ j := Nat.pow_pos (by decide)
  have hj2 : 2 ^ j <= 2147483648 := by
   have e : (2 : Nat) ^ 31 = 2147483648 := by decide +kernel
   have := Nat.pow_le_pow_right (show 0 < 2 by decide) (show j <= 31 by omega); omega
  have hp : ((2 ^ j : Nat) : Int) = P := by rw [Int.natCast_pow]; exact hP
  generalize (A &&& B) % 2 ^ (j + 1) = D at *
  generalize (A &&& B) % 2 ^ j = C at *
  generalize A / 2 ^ j % 2 = X' at *
  generalize B / 2 ^ j % 2 = Y' at *
  generalize 2 ^ j = P' at *
  subst hx hy hp
  refine ⟨⟨by omega, by omega⟩, ⟨by omega, by omega⟩, ⟨by omega, by omega⟩, ⟨by omega, by omega⟩, ?_⟩
  by_cases h2 : X' + Y' = 2
  ·rw [if_pos h2, Nat.mul_one] at hn
   rw [if_pos (by omega)]
   omega
  ·rw [if_neg h2, Nat.mul_zero, Nat.add_zero] at hn
   rw [if_neg (by omega)]
   omega
 last := by
  show (((A &&& B) % 2 ^ 32 : Nat) : Int) = _
  rw [Nat.mod_eq_of_lt]
  exact Nat.lt_of_le_of_lt Nat.and_le_left (by have e : (2 : Nat) ^ 32 = 4294967296 := by decide +kernel
                                               rw [e]; exact ha)
theorem rbits_and (ha : A < 4294967296) (hb : B < 4294967296) (w : World) :
  Calls Tryz.prog 70 #[.string ⟨#[97, 110, 100]⟩, .int .i64 A, .int .i64 B] w fun e w' => e = .returned (.int .i64 ((A &&& B : Nat) : Int)) /\ w' = w := by
 obtain ⟨F, HF⟩ : ∃ F, Hid (BitsAnd A B F) := ⟨_, bitsAnd_is ha hb⟩
 have h0 := HF.out.zero
 have HL : Hid (F 32 = ((A &&& B : Nat) : Int)) := HF.out.last
 rw [<- HL.out]
 clear HL
 have a2 : (A : Int) < 4294967296 := by omega
 have b2 : (B : Int) < 4294967296 := by omega
 clear ha hb
 go_enter Tryz.func70, Tryz.ntmps70
 go_wp2_with fail
 go_loopw [7, 8, 9, 10] (fun n i _ _ wr => wr = w /\ ∃ j : Nat, j <= 32 /\ i = .int .i64 j /\ n = .int .i64 (F j)) (fun _ i _ _ _ => 32 - (intOf i).toNat)
 case atStart => exact ⟨rfl, 0, by decide, rfl, by rw [h0]⟩
 case round =>
  clear h0
  obtain ⟨rfl, j, hj, rfl, rfl⟩ := hrel
  by_cases hlt : j < 32
  ·have ji : (j : Int) < 32 := by omega
   obtain ⟨P, hP⟩ : ∃ P : Int, (2 : Int) ^ j = P := ⟨_, rfl⟩
   obtain ⟨X, hX⟩ : ∃ X : Int, ((A : Int) / P).tmod 2 = X := ⟨_, rfl⟩
   obtain ⟨Y, hY⟩ : ∃ Y : Int, ((B : Int) / P).tmod 2 = Y := ⟨_, rfl⟩
   obtain ⟨⟨x0, x1⟩, ⟨y0, y1⟩, ⟨p0, p1⟩, ⟨f0, f1⟩, hn⟩ := HF.out.next j P X Y hlt hP hX hY
   by_cases h2 : X + Y = 2
   ·rw [if_pos h2] at hn
    have HN := hide hn
    clear hn
    generalize F j = C at *
    go_wp2
    go_roundw
    case rel => exact ⟨trivial, j + 1, by omega, by go_num, by rw [HN.out]⟩
    case measure => simp [intOf]; omega
   ·rw [if_neg h2, Int.add_zero] at hn
    have HN := hide hn
    have k2 : (X + Y == 2) = false := by rw [beq_eq_false_iff_ne]; exact h2
    have k3 : decide (X + Y = 2) = false := decide_eq_false h2
    clear hn h2
    generalize F j = C at *
    go_wp2
    go_roundw
    case rel => exact ⟨trivial, j + 1, by omega, by go_num, by rw [HN.out]⟩
    case measure => simp [intOf]; omega
  ·obtain rfl : j = 32 := by omega
   rw [show ((32 : Nat) : Int) = 32 from rfl]
   go_wp2
   go_ret
   exact ⟨rfl, rfl⟩
structure BitsXor (A B : Nat) (F : Nat -> Int) : Prop where
 zero : F 0 = 0
 next : ∀ (j : Nat) (P X Y : Int), j < 32 -> (2 : Int) ^ j = P -> ((A : Int) / P).tmod 2 = X -> ((B : Int) / P).tmod 2 = Y -> (0 <= X /\ X <= 1) /\ (0 <= Y /\ Y <= 1) /\ (1 <= P /\ P <= 2147483648) /\ (0 <= F j /\ F j < P) /\ F (j + 1) = F j + if X + Y = 1 then P else 0
 last : F 32 = ((A ^^^ B : Nat) : Int)
theorem bitsXor_is (ha : A < 4294967296) (hb : B < 4294967296) : BitsXor A B (fun j => ((((A ^^^ B) % 2 ^ j : Nat)) : Int)) where
 zero := by simp [Nat.mod_one]
 next j P X Y hj hP hX hY := by
  have hx := shr_bit A j
  have hy := shr_bit B j
  rw [hP, hX] at hx
  rw [hP, hY] at hy
  have hn := mod_pow_next (A ^^^ B) j
  rw [xor_bit] at hn
  have lx := Nat.mod_lt (A / 2 ^ j) (show 2 > 0 by decide)
  have ly := Nat.mod_lt (B / 2 ^ j) (show 2 > 0 by decide)
  have hm : (A ^^^ B) % 2 ^ j < 2 ^ j := Nat.mod_lt _ (Nat.pow_pos (by decide))
  have h1 : 0 < 2 ^ j := Nat.pow_pos (by decide)
  have hj2 : 2 ^ j <= 2147483648 := by
   have e : (2 : Nat) ^ 31 = 2147483648 := by decide +kernel
   have := Nat.pow_le_pow_right (show 0 < 2 by decide) (show j <= 31 by omega); omega
  have hp : ((2 ^ j : Nat) : Int) = P := by rw [Int.natCast_pow]; exact hP
  generalize (A ^^^ B) % 2 ^ (j + 1) = D at *
  generalize (A ^^^ B) % 2 ^ j = C at *
  generalize A / 2 ^ j % 2 = X' at *
  generalize B / 2 ^ j % 2 = Y' at *
  generalize 2 ^ j = P' at *
  subst hx hy hp
  refine ⟨⟨by omega, by omega⟩, ⟨by omega, by omega⟩, ⟨by omega, by omega⟩, ⟨by omega, by omega⟩, ?_⟩
  by_cases h2 : X' + Y' = 1
  ·rw [if_pos h2, Nat.mul_one] at hn
   rw [if_pos (by omega)]
   omega
  ·rw [if_neg h2, Nat.mul_zero, Nat.add_zero] at hn
   rw [if_neg (by omega)]
   omega
 last := by
  show (((A ^^^ B) % 2 ^ 32 : Nat) : Int) = _
  rw [Nat.mod_eq_of_lt]
  have e : (2 : Nat) ^ 32 = 4294967296 := by decide +kernel
  exact Nat.xor_lt_two_pow (by rw [e]; exact ha) (by rw [e]; exact hb)
theorem rbits_xor (ha : A < 4294967296) (hb : B < 4294967296) (w : World) :
  Calls Tryz.prog 70 #[.string ⟨#[120, 111, 114]⟩, .int .i64 A, .int .i64 B] w fun e w' => e = .returned (.int .i64 ((A ^^^ B : Nat) : Int)) /\ w' = w := by
 obtain ⟨F, HF⟩ : ∃ F, Hid (BitsXor A B F) := ⟨_, bitsXor_is ha hb⟩
 have h0 := HF.out.zero
 have HL : Hid (F 32 = ((A ^^^ B : Nat) : Int)) := HF.out.last
 rw [<- HL.out]
 clear HL
 have a2 : (A : Int) < 4294967296 := by omega
 have b2 : (B : Int) < 4294967296 := by omega
 clear ha hb
 go_enter Tryz.func70, Tryz.ntmps70
 go_wp2_with fail
 go_loopw [7, 8, 9, 10] (fun n i _ _ wr => wr = w /\ ∃ j : Nat, j <= 32 /\ i = .int .i64 j /\ n = .int .i64 (F j)) (fun _ i _ _ _ => 32 - (intOf i).toNat)
 case atStart => exact ⟨rfl, 0, by decide, rfl, by rw [h0]⟩
 case round =>
  clear h0
  obtain ⟨rfl, j, hj, rfl, rfl⟩ := hrel
  by_cases hlt : j < 32
  ·have ji : (j : Int) < 32 := by omega
   obtain ⟨P, hP⟩ : ∃ P : Int, (2 : Int) ^ j = P := ⟨_, rfl⟩
   obtain ⟨X, hX⟩ : ∃ X : Int, ((A : Int) / P).tmod 2 = X := ⟨_, rfl⟩
   obtain ⟨Y, hY⟩ : ∃ Y : Int, ((B : Int) / P).tmod 2 = Y := ⟨_, rfl⟩
   obtain ⟨⟨x0, x1⟩, ⟨y0, y1⟩, ⟨p0, p1⟩, ⟨f0, f1⟩, hn⟩ := HF.out.next j P X Y hlt hP hX hY
   by_cases h2 : X + Y = 1
   ·rw [if_pos h2] at hn
    have HN := hide hn
    clear hn
    generalize F j = C at *
    go_wp2
    go_roundw
    case rel => exact ⟨trivial, j + 1, by omega, by go_num, by rw [HN.out]⟩
    case measure => simp [intOf]; omega
   ·rw [if_neg h2, Int.add_zero] at hn
    have HN := hide hn
    have k2 : (X + Y == 1) = false := by rw [beq_eq_false_iff_ne]; exact h2
    have k3 : decide (X + Y = 1) = false := decide_eq_false h2
    clear hn h2
    generalize F j = C at *
    go_wp2
    go_roundw
    case rel => exact ⟨trivial, j + 1, by omega, by go_num, by rw [HN.out]⟩
    case measure => simp [intOf]; omega
  ·obtain rfl : j = 32 := by omega
   rw [show ((32 : Nat) : Int) = 32 from rfl]
   go_wp2
   go_ret
   exact ⟨rfl, rfl⟩
theorem rbits_andW (ha : Wd a) (hb : Wd b) (w : World) :
  Calls Tryz.prog 70 #[.string ⟨#[97, 110, 100]⟩, .int .i64 a, .int .i64 b] w fun e w' => e = .returned (.int .i64 (andW a b)) /\ w' = w := by
 obtain ⟨A, rfl⟩ := Int.eq_ofNat_of_zero_le ha.1
 obtain ⟨B, rfl⟩ := Int.eq_ofNat_of_zero_le hb.1
 exact rbits_and (by have := ha.2; omega) (by have := hb.2; omega) w
theorem rbits_xorW (ha : Wd a) (hb : Wd b) (w : World) :
  Calls Tryz.prog 70 #[.string ⟨#[120, 111, 114]⟩, .int .i64 a, .int .i64 b] w fun e w' => e = .returned (.int .i64 (xorW a b)) /\ w' = w := by
 obtain ⟨A, rfl⟩ := Int.eq_ofNat_of_zero_le ha.1
 obtain ⟨B, rfl⟩ := Int.eq_ofNat_of_zero_le hb.1
 exact rbits_xor (by have := ha.2; omega) (by have := hb.2; omega) w
end
end Go.Proofs.YtaiigfcfmcicjaaGreatDoor
