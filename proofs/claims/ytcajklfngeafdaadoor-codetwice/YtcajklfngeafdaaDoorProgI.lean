/- Package code's number by a contract. -/
import Derived.Test.YtcajklfngeafdaaDoorProgH
namespace Go.Proofs.YtcajklfngeafdaaDoor
open Go.RowKit Go.Extern.Stop Go.Stop Go.Extern Go.Maps Go.WideMaps

theorem decFrom_lt : ∀ (l : List UInt8) (acc n : Nat), Lib.decFrom acc l = some n → n < (acc + 1) * 10 ^ l.length
  | [], acc, n, h => by simp [Lib.decFrom] at h; simp; omega
  | b :: r, acc, n, h => by
    unfold Lib.decFrom at h
    cases hd : Lib.digitVal b with
    | none => rw [hd] at h; cases h
    | some d =>
      rw [hd] at h
      have h1 := decFrom_lt r (acc * 10 + d) n h
      have h2 := (digitVal_some hd).1
      have h3 : (acc * 10 + d + 1) * 10 ^ r.length ≤ ((acc + 1) * 10) * 10 ^ r.length := Nat.mul_le_mul_right _ (by omega)
      rw [List.length_cons, Nat.pow_succ, Nat.mul_comm (10 ^ r.length) 10, ← Nat.mul_assoc]
      omega
theorem decNat_lt {l : List UInt8} {n : Nat} (hl : l.length ≤ 10) (h : Lib.decNat l = some n) : n < 10000000000 := by
  unfold Lib.decNat at h
  split at h
  · cases h
  · have h1 := decFrom_lt l 0 n h
    have h2 : 10 ^ l.length ≤ 10 ^ 10 := Nat.pow_le_pow_right (by decide) hl
    simp at h1
    omega
theorem atoi_lt {l : List UInt8} {n : Int} (hl : l.length ≤ 10) (h : Lib.atoi l = some n) : n < 10000000000 ∧ -10000000000 < n := by
  match l, h with
  | b :: r, h =>
    have hr : r.length ≤ 10 := by simp at hl; omega
    have h : (if (b == 45) = true then (Lib.decNat r).map fun (m : Nat) => -(m : Int) else if (b == 43) = true then (Lib.decNat r).map fun (m : Nat) => (m : Int) else (Lib.decNat (b :: r)).map fun (m : Nat) => (m : Int)) = some n := h
    split at h
    · obtain ⟨m, hm, rfl⟩ := Option.map_eq_some_iff.1 h
      have := decNat_lt hr hm; omega
    · split at h
      · obtain ⟨m, hm, rfl⟩ := Option.map_eq_some_iff.1 h
        have := decNat_lt hr hm; omega
      · obtain ⟨m, hm, rfl⟩ := Option.map_eq_some_iff.1 h
        have := decNat_lt hl hm; omega

/-- What number answers. -/
def numAns (s : ByteArray) (n : Int) (b : Bool) : Prop := b = (numL (bl s)).isSome ∧ ∀ u, numL (bl s) = some u → n = u

set_option maxRecDepth 20000 in
theorem number_any (a : Nat → Addr) (s : ByteArray) (w : World) (hE : EnvX a w) :
    Calls Tryd.prog 21 #[.string s] w fun e w' => ∃ n b, e = .returned (.tuple #[.int .i64 n, .bool b]) ∧ numAns s n b ∧ Below w.heap.size w w' := by
  by_cases h10 : 10 < s.size
  · have hn : numL (bl s) = none := if_pos (.inr (.inl (by rw [← size_bl]; exact h10)))
    have i10 : 10 < (s.size : Int) := by omega
    go_enter Tryd.func21, Tryd.ntmps21
    go_wp2_with fail
    go_ret2
    exact ⟨0, false, rfl, ⟨by rw [hn]; rfl, fun u h => by rw [hn] at h; cases h⟩, Below.refl _ _⟩
  have i10 : ¬ 10 < (s.size : Int) := by omega
  have hlen : (bl s).length ≤ 10 := by rw [← size_bl]; omega
  cases hat : Lib.atoi (bl s) with
  | none =>
    have hn : numL (bl s) = none := by
      cases h : numL (bl s) with
      | none => rfl
      | some u => have := (atoi_of_num h).1; rw [hat] at this; cases this
    obtain ⟨te, pe, hsyn⟩ := hE.syn
    have HA := hide (Tryd.strconv_Atoi_err s (by omega) hat (.iface te pe) w hsyn (.inr ⟨te, pe, rfl⟩))
    go_enter Tryd.func21, Tryd.ntmps21
    go_wp2_with fail
    refine HA.out.mono ?_
    rintro e w1 ⟨N, rfl, hN, hc, hb1⟩
    clear HA
    go_wp2_with fail
    go_ret2
    exact ⟨0, false, rfl, ⟨by rw [hn]; rfl, fun u h => by rw [hn] at h; cases h⟩, hb1⟩
  | some n =>
    have hlt := atoi_lt hlen hat
    have HA := hide (Tryd.strconv_Atoi s n (by omega) hat w)
    by_cases h0 : 0 ≤ n
    · by_cases hi : Lib.itoa n = bl s
      · have hnum := num_of_atoi hlen h0 hi
        have HI : Hid (∀ w', EnvX a w' → Calls Tryd.prog 27 #[.int .i64 n] w' fun e w'' => e = .returned (.string s) ∧ Below w'.heap.size w' w'') := fun w' hE' => by
          have hd : (⟨(Lib.decDigits n.toNat).toArray⟩ : ByteArray) = s := by
            apply bl_inj
            rw [← hi]
            unfold Lib.itoa
            rw [if_neg (by omega)]
          have := itoa_any a n h0 (by omega) w' hE'
          rwa [hd] at this
        have hss : (s.toList == s.toList) = true := beq_self_eq_true _
        go_enter Tryd.func21, Tryd.ntmps21
        go_wp2_with fail
        refine HA.out.mono ?_
        rintro e w1 ⟨rfl, t, hw⟩
        have hb1 : Below w.heap.size w w1 := by rw [hw]; exact Lib.bytesWorld_below _ _ _
        clear HA hw
        go_wp2_with fail
        refine (HI.out _ (hE.below hb1)).mono ?_
        rintro e w2 ⟨rfl, hb2⟩
        go_wp2_with fail
        go_ret2
        exact ⟨n, true, rfl, ⟨by rw [hnum]; rfl, fun u h => by rw [hnum] at h; cases h; omega⟩, below_step hb1 hb2⟩
      · have hn : numL (bl s) = none := by
          cases h : numL (bl s) with
          | none => rfl
          | some u =>
            have h1 := atoi_of_num h
            rw [hat] at h1
            have : n = u := by have := h1.1; injection this
            rw [this] at hi
            exact absurd h1.2 hi
        have HI : Hid (∀ w', EnvX a w' → Calls Tryd.prog 27 #[.int .i64 n] w' fun e w'' => e = .returned (.string ⟨(Lib.decDigits n.toNat).toArray⟩) ∧ Below w'.heap.size w' w'') := fun w' hE' => itoa_any a n h0 (by omega) w' hE'
        have hd : bl (⟨(Lib.decDigits n.toNat).toArray⟩ : ByteArray) ≠ bl s := fun e => hi (by
          rw [← e]
          unfold Lib.itoa
          rw [if_neg (by omega)])
        generalize (⟨(Lib.decDigits n.toNat).toArray⟩ : ByteArray) = d at *
        have hss : (d.toList == s.toList) = false := by rw [beq_eq_false_iff_ne, toList_bl, toList_bl]; exact hd
        clear hi hd
        go_enter Tryd.func21, Tryd.ntmps21
        go_wp2_with fail
        refine HA.out.mono ?_
        rintro e w1 ⟨rfl, t, hw⟩
        have hb1 : Below w.heap.size w w1 := by rw [hw]; exact Lib.bytesWorld_below _ _ _
        clear HA hw
        go_wp2_with fail
        refine (HI.out _ (hE.below hb1)).mono ?_
        rintro e w2 ⟨rfl, hb2⟩
        go_wp2_with fail
        go_ret2
        exact ⟨n, false, rfl, ⟨by rw [hn]; rfl, fun u h => by rw [hn] at h; cases h⟩, below_step hb1 hb2⟩
    · have hn : numL (bl s) = none := by
        cases h : numL (bl s) with
        | none => rfl
        | some u =>
          have h1 := (atoi_of_num h).1
          rw [hat] at h1
          injection h1
          omega
      go_enter Tryd.func21, Tryd.ntmps21
      go_wp2_with fail
      refine HA.out.mono ?_
      rintro e w1 ⟨rfl, t, hw⟩
      have hb1 : Below w.heap.size w w1 := by rw [hw]; exact Lib.bytesWorld_below _ _ _
      clear HA hw
      go_wp2_with fail
      go_ret2
      exact ⟨n, .inl ⟨rfl, ⟨by rw [hn]; rfl, fun u h => by rw [hn] at h; cases h⟩, hb1⟩⟩
end Go.Proofs.YtcajklfngeafdaaDoor
