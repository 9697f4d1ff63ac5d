/- Plain Lean: numbers that are written and read. No program. -/
import Derived.Lib.ItoaNum
import Derived.Lib.Atoi
namespace Go.Proofs.YtcajklfngeafdaaDoor
open Go.Lib

/-- The number that a row of bytes spells: decimal digits without needless zeros, at most ten. -/
def numL (l : List UInt8) : Option Nat := if l.length < 1 ∨ 10 < l.length ∨ (1 < l.length ∧ l.head? = some 48) then none else decFrom 0 l

theorem decFrom_snoc (b : UInt8) : ∀ (l : List UInt8) (acc : Nat), decFrom acc (l ++ [b]) = (decFrom acc l).bind fun n => (digitVal b).map fun d => n * 10 + d
  | [], acc => by
    simp only [List.nil_append, decFrom, Option.bind_some]
    cases digitVal b <;> rfl
  | x :: r, acc => by
    simp only [List.cons_append, decFrom]
    cases digitVal x with
    | none => rfl
    | some d => exact decFrom_snoc b r _

theorem digitVal_ofNat {d : Nat} (h : d < 10) : digitVal (UInt8.ofNat (48 + d)) = some d := by
  have e : (UInt8.ofNat (48 + d)).toNat = 48 + d := by simp; omega
  unfold digitVal
  rw [e, if_pos (by omega)]
  simp
theorem digitVal_some {b : UInt8} {d : Nat} (h : digitVal b = some d) : d < 10 ∧ b = UInt8.ofNat (48 + d) := by
  unfold digitVal at h
  split at h
  · cases h
    refine ⟨by omega, ?_⟩
    apply UInt8.toNat_inj.1
    simp
    omega
  · cases h

theorem decFrom_digits (u : Nat) : decFrom 0 (decDigits u) = some u := by
  induction u using Nat.strongRecOn with
  | _ u ih =>
    rw [decDigits]
    by_cases h : u < 10
    · rw [dif_pos h]
      simp only [decFrom, digitVal_ofNat h]
      simp
    · rw [dif_neg h, decFrom_snoc, ih (u / 10) (by omega), digitVal_ofNat (by omega)]
      show some (u / 10 * 10 + u % 10) = some u
      rw [show u / 10 * 10 + u % 10 = u by omega]

theorem digits_len : ∀ (k u : Nat), u < 10 ^ (k + 1) → (decDigits u).length ≤ k + 1
  | 0, u, h => by rw [decDigits, dif_pos (by simpa using h)]; simp
  | k + 1, u, h => by
    rw [decDigits]
    by_cases h10 : u < 10
    · rw [dif_pos h10]; simp
    · rw [dif_neg h10, List.length_append]
      have := digits_len k (u / 10) (by rw [Nat.pow_succ] at h; omega)
      simp; omega

theorem digits_ne (u : Nat) : decDigits u ≠ [] := by
  rw [decDigits]; split <;> simp

theorem digits_head : ∀ (u : Nat), 0 < u → (decDigits u).head? ≠ some 48 := by
  intro u
  induction u using Nat.strongRecOn with
  | _ u ih =>
    intro h0
    rw [decDigits]
    by_cases h : u < 10
    · rw [dif_pos h]
      intro e
      have e : UInt8.ofNat (48 + u) = 48 := by simpa using e
      have := congrArg UInt8.toNat e
      simp at this
      omega
    · rw [dif_neg h]
      have hn := digits_ne (u / 10)
      have := ih (u / 10) (by omega) (by omega)
      rw [List.head?_append]
      cases hd : decDigits (u / 10) with
      | nil => exact absurd hd hn
      | cons x r => rw [hd] at this; simpa using this

theorem numL_digits {u : Nat} (h : u < 10000000000) : numL (decDigits u) = some u := by
  have h1 : 0 < (decDigits u).length := List.length_pos_iff.2 (digits_ne u)
  have h2 := digits_len 9 u (by simpa using h)
  unfold numL
  rw [if_neg, decFrom_digits]
  rintro (h | h | ⟨h, e⟩)
  · omega
  · omega
  · refine digits_head u ?_ e
    rcases Nat.eq_zero_or_pos u with rfl | h0
    · rw [decDigits, dif_pos (by omega)] at h; simp at h
    · exact h0

theorem digits_of_dec : ∀ (n : Nat) (l : List UInt8) (u : Nat), l.length = n + 1 → (1 < l.length → l.head? ≠ some 48) → decFrom 0 l = some u → decDigits u = l := by
  intro n
  induction n with
  | zero =>
    intro l u hl _ h
    obtain ⟨b, rfl⟩ := List.length_eq_one_iff.1 hl
    simp only [decFrom] at h
    cases hd : digitVal b with
    | none => rw [hd] at h; cases h
    | some d =>
      rw [hd] at h
      obtain ⟨h1, h2⟩ := digitVal_some hd
      have : u = d := by simpa using h.symm
      subst this
      rw [decDigits, dif_pos h1, h2]
  | succ n ih =>
    intro l u hl hh h
    have hne : l ≠ [] := fun e => by subst e; simp at hl
    obtain ⟨r, b, rfl⟩ : ∃ r b, l = r ++ [b] := ⟨l.dropLast, l.getLast hne, (List.dropLast_concat_getLast hne).symm⟩
    have hr : r.length = n + 1 := by simpa using hl
    have hrne : r ≠ [] := fun e => by subst e; simp at hr
    have hh := hh (by simp; omega)
    have hh' : r.head? ≠ some 48 := by
      intro e; apply hh
      rw [List.head?_append, e]; rfl
    rw [decFrom_snoc] at h
    cases hv : decFrom 0 r with
    | none => rw [hv] at h; cases h
    | some v =>
      rw [hv] at h
      cases hd : digitVal b with
      | none => rw [hd] at h; cases h
      | some d =>
        rw [hd] at h
        have hu : u = v * 10 + d := by simpa using h.symm
        obtain ⟨h1, h2⟩ := digitVal_some hd
        have hD := ih r v hr (fun _ => hh') hv
        have hv0 : 0 < v := by
          rcases Nat.eq_zero_or_pos v with rfl | h0
          · rw [decDigits, dif_pos (by omega)] at hD
            exact absurd (by rw [← hD]; rfl) hh'
          · exact h0
        rw [decDigits, dif_neg (by omega), show u / 10 = v by omega, show u % 10 = d by omega, hD, h2]

theorem digits_of_num {l : List UInt8} {u : Nat} (h : numL l = some u) : decDigits u = l := by
  unfold numL at h
  split at h
  · cases h
  · rename_i hn
    exact digits_of_dec (l.length - 1) l u (by omega) (fun h1 e => hn (.inr (.inr ⟨h1, e⟩))) h

theorem numL_lt {l : List UInt8} {u : Nat} (h : numL l = some u) : u < 10000000000 := by
  have hd := digits_of_num h
  have hl : l.length ≤ 10 := by
    unfold numL at h
    split at h
    · cases h
    · rename_i hn; omega
  have key : ∀ (k v : Nat), (decDigits v).length ≤ k + 1 → v < 10 ^ (k + 1) := by
    intro k
    induction k with
    | zero =>
      intro v hv
      rw [decDigits] at hv
      split at hv
      · omega
      · have := List.length_pos_iff.2 (digits_ne (v / 10))
        simp at hv; exact absurd hv (digits_ne _)
    | succ k ih =>
      intro v hv
      rw [decDigits] at hv
      split at hv
      · have : 10 ^ 1 ≤ 10 ^ (k + 1 + 1) := Nat.pow_le_pow_right (by decide) (by omega)
        omega
      · have := ih (v / 10) (by simpa using hv)
        rw [Nat.pow_succ]
        omega
  have := key 9 u (by rw [hd]; omega)
  simpa using this

/-- strconv.Atoi and Itoa tell such a number. -/
theorem atoi_of_num {l : List UInt8} {u : Nat} (h : numL l = some u) : atoi l = some (u : Int) ∧ itoa (u : Int) = l := by
  have hd := digits_of_num h
  have hdec : decFrom 0 l = some u := by rw [← hd]; exact decFrom_digits u
  refine ⟨?_, by unfold itoa; rw [if_neg (by omega)]; simpa using hd⟩
  match l, hdec, hd with
  | [], _, hd => exact absurd hd (digits_ne u)
  | b :: r, hdec, _ =>
    have hb : ∃ d, digitVal b = some d := by
      cases e : digitVal b with
      | some d => exact ⟨d, rfl⟩
      | none => simp [decFrom, e] at hdec
    obtain ⟨d, e⟩ := hb
    obtain ⟨h1, h2⟩ := digitVal_some e
    have n1 : (b == 45) = false := by
      rw [beq_eq_false_iff_ne]; rintro rfl; simp [digitVal] at e
    have n2 : (b == 43) = false := by
      rw [beq_eq_false_iff_ne]; rintro rfl; simp [digitVal] at e
    show (if (b == 45) = true then _ else if (b == 43) = true then _ else (decNat (b :: r)).map fun (m : Nat) => (m : Int)) = _
    rw [n1, n2]
    simp only [Bool.false_eq_true, if_false]
    unfold decNat
    rw [if_neg (by simp), hdec]
    rfl

/-- .. and no other. -/
theorem num_of_atoi {l : List UInt8} {n : Int} (hl : l.length ≤ 10) (h0 : 0 ≤ n) (hi : itoa n = l) : numL l = some n.toNat := by
  have hd : decDigits n.toNat = l := by unfold itoa at hi; rw [if_neg (by omega)] at hi; exact hi
  unfold numL
  rw [if_neg, ← hd, decFrom_digits]
  rintro (h1 | h1 | ⟨h1, e⟩)
  · have := List.length_pos_iff.2 (digits_ne n.toNat); rw [hd] at this; omega
  · omega
  · rw [← hd] at e h1
    refine digits_head _ ?_ e
    rcases Nat.eq_zero_or_pos n.toNat with h0 | h0
    · rw [h0, decDigits, dif_pos (by omega)] at h1; simp at h1
    · exact h0
end Go.Proofs.YtcajklfngeafdaaDoor
