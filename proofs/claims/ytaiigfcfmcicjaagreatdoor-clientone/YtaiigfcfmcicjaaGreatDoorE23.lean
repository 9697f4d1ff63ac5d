import Derived.Test.YtaiigfcfmcicjaaGreatDoorE22
import Derived.Test.YtaiigfcfmcicjaaGreatDoorE11
namespace Go.Proofs.YtaiigfcfmcicjaaGreatDoor
set_option maxRecDepth 100000
set_option maxHeartbeats 8000000
section
open Go.RowKit Go.Extern.Stop Go.Stop Go.Extern
theorem numbers_any (x : Ins) (w : World) :
  Calls Tryz.prog 118 #[.agg #[.string x.op, .int .i64 x.a, .int .i64 x.b, .int .i64 x.c, .string x.to]] w fun e w' => e = .returned (.slice (some ⟨w.heap.size + 1, 0, none⟩) 3 3) /\ (∀ k, k < 3 -> w'.cell? ⟨w.heap.size + 1, k, none⟩ = some (.int .i64 (x.n k))) /\ Below w.heap.size w w' := by
 go_enter Tryz.func118, Tryz.ntmps118
 go_wp2
 go_ret
 refine ⟨rfl, fun k hk => ?_, (bRf.alloc nL _).alloc (by simp) _⟩
 match k, hk with
 | 0, _ => go_simp; rfl
 | 1, _ => go_simp; rfl
 | 2, _ => go_simp; rfl
theorem instr_none (x : Ins) (w : World) (h : shape x.op.toList = none) :
  Calls Tryz.prog 68 #[.agg #[.string x.op, .int .i64 x.a, .int .i64 x.b, .int .i64 x.c, .string x.to]] w fun e w' => e = .returned (.int .i64 3) /\ Below w.heap.size w w' := by
 have HS : Hid (∀ w', Calls Tryz.prog 117 #[.string x.op] w' fun e w'' => e = .returned (.tuple #[.string ⟨#[]⟩, .bool false]) /\ w'' = w') := fun w' => by
  have := shape_any x.op w'
  rwa [h] at this
 go_enter Tryz.func68, Tryz.ntmps68
 go_wp2_with fail
 refine (HS.out _).mono ?_
 rintro e0 w1 ⟨rfl, rfl⟩
 go_wp2
 go_ret
 exact ⟨rfl, bRf.alloc nL _⟩
open Classical in
theorem instr_some (x : Ins) (S : ByteArray) (hS3 : S.size <= 3) (w : World) (hS : ∀ w', Calls Tryz.prog 117 #[.string x.op] w' fun e w'' => e = .returned (.tuple #[.string S, .bool true]) /\ w'' = w') :
  Calls Tryz.prog 68 #[.agg #[.string x.op, .int .i64 x.a, .int .i64 x.b, .int .i64 x.c, .string x.to]] w fun e w' => e = .returned (.int .i64 (insBad x S)) /\ Below w.heap.size w w' := by
 have HS := hide hS
 have hcl := cnt_le S S.size
 have q4 : (w.alloc (.cells #[.string x.op, .int .i64 x.a, .int .i64 x.b, .int .i64 x.c, .string x.to] 101)).cell? ⟨w.heap.size, 4, none⟩ = some (.string x.to) := by simp
 have hba : Below w.heap.size w (w.alloc (.cells #[.string x.op, .int .i64 x.a, .int .i64 x.b, .int .i64 x.c, .string x.to] 101)) := bRf.alloc nL _
 have HB : Hid (insBad x S = insBad x S) := rfl
 go_enter Tryz.func68, Tryz.ntmps68
 go_wp2_with fail
 refine (HS.out _).mono ?_
 rintro e0 w1 ⟨rfl, rfl⟩
 clear HS
 go_wp2_with fail
 refine (numbers_any x _).mono ?_
 rintro e1 w2 ⟨rfl, hn, hb2⟩
 have B2 := below_step hba hb2
 replace q4 := keep_cell hb2 q4
 have HN : Hid (∀ k, k < 3 -> w2.cell? ⟨w.heap.size + 1 + 1, k, none⟩ = some (.int .i64 (x.n k))) := hide (by simpa using hn)
 clear hn hb2 hba
 clear HB
 go_wp2_with fail
 go_loopw [6, 7, 8] (fun m lb i wr => wr = w2 /\ ∃ j : Nat, j <= S.size /\ i = .int .i64 j /\ m = .int .i64 (cnt S j) /\ lb = .bool (lab S j)) (fun _ _ i _ => S.size - (intOf i).toNat)
 case atStart => exact ⟨rfl, 0, Nat.zero_le _, rfl, rfl, rfl⟩
 case round =>
  obtain ⟨rfl, j, hj, rfl, rfl, rfl⟩ := hrel
  by_cases hlt : j < S.size
  ·have ji : (j : Int) < S.size := by omega
   have hcj := cnt_le S j
   by_cases h108 : (S[j]'hlt).toNat = 108
   ·have HC1 : Hid (cnt S (j + 1) = cnt S j) := by show _ = _; rw [cnt, byteAt_lt hlt, if_pos h108]; rfl
    have HC2 : Hid (lab S (j + 1) = true) := by show _ = _; rw [lab, byteAt_lt hlt, h108]; simp
    have zb : (((S[j]'hlt).toNat : Int) == 108) = true := beq_iff_eq.2 (by omega)
    go_wp2
    go_roundw
    case rel => exact ⟨trivial, j + 1, by omega, by go_num, by rw [HC1.out], by rw [HC2.out]⟩
    case measure => simp [intOf]; omega
   ·have HC1 : Hid (cnt S (j + 1) = cnt S j + 1) := by show _ = _; rw [cnt, byteAt_lt hlt, if_neg h108]
    have HC2 : Hid (lab S (j + 1) = lab S j) := by show _ = _; rw [lab, byteAt_lt hlt]; simp [h108]
    have zb : (((S[j]'hlt).toNat : Int) == 108) = false := beq_eq_false_iff_ne.2 (by omega)
    go_wp2
    go_roundw
    case rel => exact ⟨trivial, j + 1, by omega, by go_num, by rw [HC1.out]; go_num, by rw [HC2.out]⟩
    case measure => simp [intOf]; omega
  ·obtain rfl : j = S.size := by omega
   by_cases hto : lab S S.size = false /\ ¬ x.to.toList = []
   ·have HZ : Hid (insBad x S = 3) := by show _ = _; unfold insBad; rw [if_pos hto]
    obtain ⟨z1, z2⟩ := hto
    have zb : (x.to.toList == []) = false := beq_eq_false_iff_ne.2 z2
    rw [z1]
    go_wp2
    go_ret
    exact ⟨by rw [HZ.out]; rfl, B2⟩
   ·have hc3 : cnt S S.size <= 3 := by omega
    cases hlb : lab S S.size
    ·have hte : x.to.toList = [] := by
      by_cases h : x.to.toList = []
      ·exact h
      ·exact absurd ⟨hlb, h⟩ hto
     have zb : (x.to.toList == []) = true := beq_iff_eq.2 hte
     go_wp2_with fail
     go_loopw [9] (fun i wr' => wr' = wr /\ ∃ j : Nat, cnt S S.size <= j /\ j <= 3 /\ i = .int .i64 j /\ Hid (∀ k, cnt S S.size <= k -> k < j -> x.n k = 0)) (fun i _ => 3 - (intOf i).toNat)
     case atStart => exact ⟨rfl, cnt S S.size, Nat.le_refl _, by omega, rfl, fun k h1 h2 => absurd h2 (by omega)⟩
     case round =>
      obtain ⟨rfl, j, hj1, hj3, rfl, HJ⟩ := hrel
      by_cases hlt : j < 3
      ·have ji : (j : Int) < 3 := by omega
       have hc := HN.out j hlt
       by_cases hz : x.n j = 0
       ·have HJ' : Hid (∀ k, cnt S S.size <= k -> k < j + 1 -> x.n k = 0) := fun k h1 h2 => by
         by_cases e : k = j
         ·rw [e]; exact hz
         ·exact HJ.out k h1 (by omega)
        rw [hz] at hc
        clear HJ hz
        go_wp2
        go_roundw
        case rel => exact ⟨trivial, j + 1, by omega, by omega, by go_num, HJ'⟩
        case measure => simp [intOf]; omega
       ·have HZ : Hid (insBad x S = 3) := by
         show _ = _
         unfold insBad
         rw [if_neg hto, if_pos ⟨j, hj1, hlt, hz⟩]
        have zb : (x.n j != 0) = true := by rw [bne_iff_ne]; exact hz
        clear HJ hz
        generalize x.n j = v at hc zb
        go_wp2
        go_ret
        exact ⟨by rw [HZ.out]; rfl, B2⟩
      ·obtain rfl : j = 3 := by omega
       rw [show ((3 : Nat) : Int) = 3 from rfl]
       have HZ0 : Hid (¬ ∃ k, cnt S S.size <= k /\ k < 3 /\ x.n k ≠ 0) := fun ⟨k, h1, h2, h3⟩ => h3 (HJ.out k h1 h2)
       clear HJ
       go_wp2_with fail
       go_loopw [10, 11] (fun i _ wr' => wr' = wr /\ ∃ j : Nat, j <= cnt S S.size /\ i = .int .i64 j /\ Hid (∀ k, k < j -> 0 <= x.n k /\ x.n k < mostOf (byteAt S k))) (fun i _ _ => cnt S S.size - (intOf i).toNat)
       case atStart => exact ⟨rfl, 0, Nat.zero_le _, rfl, fun k h => absurd h (Nat.not_lt_zero _)⟩
       case round =>
        obtain ⟨rfl, j, hj, rfl, HJ⟩ := hrel
        by_cases hlt : j < cnt S S.size
        ·have hjs : j < S.size := by omega
         have ji : (j : Int) < cnt S S.size := by omega
         have jS : (j : Int) < S.size := by omega
         have j3 : (j : Int) < 3 := by omega
         have hc := HN.out j (by omega)
         have HY : Hid ((0 <= x.n j /\ x.n j < mostOf (S[j]'hjs).toNat) -> ∀ k, k < j + 1 -> 0 <= x.n k /\ x.n k < mostOf (byteAt S k)) := fun h k hk => by
          by_cases e : k = j
          ·subst e; rw [byteAt_lt hjs]; exact h
          ·exact HJ.out k (by omega)
         have HX : Hid (¬ (0 <= x.n j /\ x.n j < mostOf (S[j]'hjs).toNat) -> insBad x S = 2) := fun h => by
          unfold insBad
          rw [if_neg hto, if_neg HZ0.out, if_pos ⟨j, hlt, by rw [byteAt_lt hjs]; exact h⟩]
         have hor : ((S[j]'hjs).toNat = 114) ∨ ((S[j]'hjs).toNat ≠ 114 /\ (S[j]'hjs).toNat = 115) ∨ ((S[j]'hjs).toNat ≠ 114 /\ (S[j]'hjs).toNat ≠ 115 /\ (S[j]'hjs).toNat = 119) ∨ ((S[j]'hjs).toNat ≠ 114 /\ (S[j]'hjs).toNat ≠ 115 /\ (S[j]'hjs).toNat ≠ 119) := by omega
         clear HJ
         generalize x.n j = v at hc HX HY
         rcases hor with e1 | ⟨e1, e2⟩ | ⟨e1, e2, e3⟩ | ⟨e1, e2, e3⟩
         ·have hm : mostOf (S[j]'hjs).toNat = 8 := by unfold mostOf; simp [e1]
          have z1 : (((S[j]'hjs).toNat : Int) == 114) = true := beq_iff_eq.2 (by omega)
          rw [hm] at HX HY
          by_cases hv : 0 <= v /\ v < 8
          ·have HJ' := hide (HY.out hv)
           obtain ⟨v0, v1⟩ := hv
           clear HX HY hm
           go_wp2
           go_roundw
           case rel => exact ⟨trivial, j + 1, by omega, by go_num, HJ'⟩
           case measure => simp [intOf]; omega
          ·have HZ := hide (HX.out hv)
           by_cases v0 : 0 <= v
           ·have v1 : ¬ v < 8 := fun h => hv ⟨v0, h⟩
            clear HX HY hm hv
            go_wp2
            go_ret
            exact ⟨by rw [HZ.out]; rfl, B2⟩
           ·clear HX HY hm hv
            go_wp2
            go_ret
            exact ⟨by rw [HZ.out]; rfl, B2⟩
         ·have hm : mostOf (S[j]'hjs).toNat = 7 := by unfold mostOf; simp [e2]
          have z1 : (((S[j]'hjs).toNat : Int) == 114) = false := beq_eq_false_iff_ne.2 (by omega)
          have z2 : (((S[j]'hjs).toNat : Int) == 115) = true := beq_iff_eq.2 (by omega)
          rw [hm] at HX HY
          by_cases hv : 0 <= v /\ v < 7
          ·have HJ' := hide (HY.out hv)
           obtain ⟨v0, v1⟩ := hv
           clear HX HY hm
           go_wp2
           go_roundw
           case rel => exact ⟨trivial, j + 1, by omega, by go_num, HJ'⟩
           case measure => simp [intOf]; omega
          ·have HZ := hide (HX.out hv)
           by_cases v0 : 0 <= v
           ·have v1 : ¬ v < 7 := fun h => hv ⟨v0, h⟩
            clear HX HY hm hv
            go_wp2
            go_ret
            exact ⟨by rw [HZ.out]; rfl, B2⟩
           ·clear HX HY hm hv
            go_wp2
            go_ret
            exact ⟨by rw [HZ.out]; rfl, B2⟩
         ·have hm : mostOf (S[j]'hjs).toNat = 4 := by unfold mostOf; simp [e3]
          have z1 : (((S[j]'hjs).toNat : Int) == 114) = false := beq_eq_false_iff_ne.2 (by omega)
          have z2 : (((S[j]'hjs).toNat : Int) == 115) = false := beq_eq_false_iff_ne.2 (by omega)
          have z3 : (((S[j]'hjs).toNat : Int) == 119) = true := beq_iff_eq.2 (by omega)
          rw [hm] at HX HY
          by_cases hv : 0 <= v /\ v < 4
          ·have HJ' := hide (HY.out hv)
           obtain ⟨v0, v1⟩ := hv
           clear HX HY hm
           go_wp2
           go_roundw
           case rel => exact ⟨trivial, j + 1, by omega, by go_num, HJ'⟩
           case measure => simp [intOf]; omega
          ·have HZ := hide (HX.out hv)
           by_cases v0 : 0 <= v
           ·have v1 : ¬ v < 4 := fun h => hv ⟨v0, h⟩
            clear HX HY hm hv
            go_wp2
            go_ret
            exact ⟨by rw [HZ.out]; rfl, B2⟩
           ·clear HX HY hm hv
            go_wp2
            go_ret
            exact ⟨by rw [HZ.out]; rfl, B2⟩
         ·have hm : mostOf (S[j]'hjs).toNat = 4294967296 := by unfold mostOf; simp [e1, e2, e3]
          have z1 : (((S[j]'hjs).toNat : Int) == 114) = false := beq_eq_false_iff_ne.2 (by omega)
          have z2 : (((S[j]'hjs).toNat : Int) == 115) = false := beq_eq_false_iff_ne.2 (by omega)
          have z3 : (((S[j]'hjs).toNat : Int) == 119) = false := beq_eq_false_iff_ne.2 (by omega)
          rw [hm] at HX HY
          by_cases hv : 0 <= v /\ v < 4294967296
          ·have HJ' := hide (HY.out hv)
           obtain ⟨v0, v1⟩ := hv
           clear HX HY hm
           go_wp2
           go_roundw
           case rel => exact ⟨trivial, j + 1, by omega, by go_num, HJ'⟩
           case measure => simp [intOf]; omega
          ·have HZ := hide (HX.out hv)
           by_cases v0 : 0 <= v
           ·have v1 : ¬ v < 4294967296 := fun h => hv ⟨v0, h⟩
            clear HX HY hm hv
            go_wp2
            go_ret
            exact ⟨by rw [HZ.out]; rfl, B2⟩
           ·clear HX HY hm hv
            go_wp2
            go_ret
            exact ⟨by rw [HZ.out]; rfl, B2⟩
        ·obtain rfl : j = cnt S S.size := by omega
         have HZ1 : Hid (¬ ∃ k, k < cnt S S.size /\ ¬ (0 <= x.n k /\ x.n k < mostOf (byteAt S k))) := fun ⟨k, h1, h2⟩ => h2 (HJ.out k h1)
         clear HJ
         have HZ : Hid (insBad x S = 0) := by
          show _ = _
          unfold insBad
          rw [if_neg hto, if_neg HZ0.out, if_neg HZ1.out, if_neg (fun h => by rw [hlb] at h; exact Bool.noConfusion h.1)]
         go_wp2
         go_ret
         exact ⟨by rw [HZ.out]; rfl, B2⟩
    ·skip
     go_wp2_with fail
     go_loopw [9] (fun i wr' => wr' = wr /\ ∃ j : Nat, cnt S S.size <= j /\ j <= 3 /\ i = .int .i64 j /\ Hid (∀ k, cnt S S.size <= k -> k < j -> x.n k = 0)) (fun i _ => 3 - (intOf i).toNat)
     case atStart => exact ⟨rfl, cnt S S.size, Nat.le_refl _, by omega, rfl, fun k h1 h2 => absurd h2 (by omega)⟩
     case round =>
      obtain ⟨rfl, j, hj1, hj3, rfl, HJ⟩ := hrel
      by_cases hlt : j < 3
      ·have ji : (j : Int) < 3 := by omega
       have hc := HN.out j hlt
       by_cases hz : x.n j = 0
       ·have HJ' : Hid (∀ k, cnt S S.size <= k -> k < j + 1 -> x.n k = 0) := fun k h1 h2 => by
         by_cases e : k = j
         ·rw [e]; exact hz
         ·exact HJ.out k h1 (by omega)
        rw [hz] at hc
        clear HJ hz
        go_wp2
        go_roundw
        case rel => exact ⟨trivial, j + 1, by omega, by omega, by go_num, HJ'⟩
        case measure => simp [intOf]; omega
       ·have HZ : Hid (insBad x S = 3) := by
         show _ = _
         unfold insBad
         rw [if_neg hto, if_pos ⟨j, hj1, hlt, hz⟩]
        have zb : (x.n j != 0) = true := by rw [bne_iff_ne]; exact hz
        clear HJ hz
        generalize x.n j = v at hc zb
        go_wp2
        go_ret
        exact ⟨by rw [HZ.out]; rfl, B2⟩
      ·obtain rfl : j = 3 := by omega
       rw [show ((3 : Nat) : Int) = 3 from rfl]
       have HZ0 : Hid (¬ ∃ k, cnt S S.size <= k /\ k < 3 /\ x.n k ≠ 0) := fun ⟨k, h1, h2, h3⟩ => h3 (HJ.out k h1 h2)
       clear HJ
       go_wp2_with fail
       go_loopw [10, 11] (fun i _ wr' => wr' = wr /\ ∃ j : Nat, j <= cnt S S.size /\ i = .int .i64 j /\ Hid (∀ k, k < j -> 0 <= x.n k /\ x.n k < mostOf (byteAt S k))) (fun i _ _ => cnt S S.size - (intOf i).toNat)
       case atStart => exact ⟨rfl, 0, Nat.zero_le _, rfl, fun k h => absurd h (Nat.not_lt_zero _)⟩
       case round =>
        obtain ⟨rfl, j, hj, rfl, HJ⟩ := hrel
        by_cases hlt : j < cnt S S.size
        ·have hjs : j < S.size := by omega
         have ji : (j : Int) < cnt S S.size := by omega
         have jS : (j : Int) < S.size := by omega
         have j3 : (j : Int) < 3 := by omega
         have hc := HN.out j (by omega)
         have HY : Hid ((0 <= x.n j /\ x.n j < mostOf (S[j]'hjs).toNat) -> ∀ k, k < j + 1 -> 0 <= x.n k /\ x.n k < mostOf (byteAt S k)) := fun h k hk => by
          by_cases e : k = j
          ·subst e; rw [byteAt_lt hjs]; exact h
          ·exact HJ.out k (by omega)
         have HX : Hid (¬ (0 <= x.n j /\ x.n j < mostOf (S[j]'hjs).toNat) -> insBad x S = 2) := fun h => by
          unfold insBad
          rw [if_neg hto, if_neg HZ0.out, if_pos ⟨j, hlt, by rw [byteAt_lt hjs]; exact h⟩]
         have hor : ((S[j]'hjs).toNat = 114) ∨ ((S[j]'hjs).toNat ≠ 114 /\ (S[j]'hjs).toNat = 115) ∨ ((S[j]'hjs).toNat ≠ 114 /\ (S[j]'hjs).toNat ≠ 115 /\ (S[j]'hjs).toNat = 119) ∨ ((S[j]'hjs).toNat ≠ 114 /\ (S[j]'hjs).toNat ≠ 115 /\ (S[j]'hjs).toNat ≠ 119) := by omega
         clear HJ
         generalize x.n j = v at hc HX HY
         rcases hor with e1 | ⟨e1, e2⟩ | ⟨e1, e2, e3⟩ | ⟨e1, e2, e3⟩
         ·have hm : mostOf (S[j]'hjs).toNat = 8 := by unfold mostOf; simp [e1]
          have z1 : (((S[j]'hjs).toNat : Int) == 114) = true := beq_iff_eq.2 (by omega)
          rw [hm] at HX HY
          by_cases hv : 0 <= v /\ v < 8
          ·have HJ' := hide (HY.out hv)
           obtain ⟨v0, v1⟩ := hv
           clear HX HY hm
           go_wp2
           go_roundw
           case rel => exact ⟨trivial, j + 1, by omega, by go_num, HJ'⟩
           case measure => simp [intOf]; omega
          ·have HZ := hide (HX.out hv)
           by_cases v0 : 0 <= v
           ·have v1 : ¬ v < 8 := fun h => hv ⟨v0, h⟩
            clear HX HY hm hv
            go_wp2
            go_ret
            exact ⟨by rw [HZ.out]; rfl, B2⟩
           ·clear HX HY hm hv
            go_wp2
            go_ret
            exact ⟨by rw [HZ.out]; rfl, B2⟩
         ·have hm : mostOf (S[j]'hjs).toNat = 7 := by unfold mostOf; simp [e2]
          have z1 : (((S[j]'hjs).toNat : Int) == 114) = false := beq_eq_false_iff_ne.2 (by omega)
          have z2 : (((S[j]'hjs).toNat : Int) == 115) = true := beq_iff_eq.2 (by omega)
          rw [hm] at HX HY
          by_cases hv : 0 <= v /\ v < 7
          ·have HJ' := hide (HY.out hv)
           obtain ⟨v0, v1⟩ := hv
           clear HX HY hm
           go_wp2
           go_roundw
           case rel => exact ⟨trivial, j + 1, by omega, by go_num, HJ'⟩
           case measure => simp [intOf]; omega
          ·have HZ := hide (HX.out hv)
           by_cases v0 : 0 <= v
           ·have v1 : ¬ v < 7 := fun h => hv ⟨v0, h⟩
            clear HX HY hm hv
            go_wp2
            go_ret
            exact ⟨by rw [HZ.out]; rfl, B2⟩
           ·clear HX HY hm hv
            go_wp2
            go_ret
            exact ⟨by rw [HZ.out]; rfl, B2⟩
         ·have hm : mostOf (S[j]'hjs).toNat = 4 := by unfold mostOf; simp [e3]
          have z1 : (((S[j]'hjs).toNat : Int) == 114) = false := beq_eq_false_iff_ne.2 (by omega)
          have z2 : (((S[j]'hjs).toNat : Int) == 115) = false := beq_eq_false_iff_ne.2 (by omega)
          have z3 : (((S[j]'hjs).toNat : Int) == 119) = true := beq_iff_eq.2 (by omega)
          rw [hm] at HX HY
          by_cases hv : 0 <= v /\ v < 4
          ·have HJ' := hide (HY.out hv)
           obtain ⟨v0, v1⟩ := hv
           clear HX HY hm
           go_wp2
           go_roundw
           case rel => exact ⟨trivial, j + 1, by omega, by go_num, HJ'⟩
           case measure => simp [intOf]; omega
          ·have HZ := hide (HX.out hv)
           by_cases v0 : 0 <= v
           ·have v1 : ¬ v < 4 := fun h => hv ⟨v0, h⟩
            clear HX HY hm hv
            go_wp2
            go_ret
            exact ⟨by rw [HZ.out]; rfl, B2⟩
           ·clear HX HY hm hv
            go_wp2
            go_ret
            exact ⟨by rw [HZ.out]; rfl, B2⟩
         ·have hm : mostOf (S[j]'hjs).toNat = 4294967296 := by unfold mostOf; simp [e1, e2, e3]
          have z1 : (((S[j]'hjs).toNat : Int) == 114) = false := beq_eq_false_iff_ne.2 (by omega)
          have z2 : (((S[j]'hjs).toNat : Int) == 115) = false := beq_eq_false_iff_ne.2 (by omega)
          have z3 : (((S[j]'hjs).toNat : Int) == 119) = false := beq_eq_false_iff_ne.2 (by omega)
          rw [hm] at HX HY
          by_cases hv : 0 <= v /\ v < 4294967296
          ·have HJ' := hide (HY.out hv)
           obtain ⟨v0, v1⟩ := hv
           clear HX HY hm
           go_wp2
           go_roundw
           case rel => exact ⟨trivial, j + 1, by omega, by go_num, HJ'⟩
           case measure => simp [intOf]; omega
          ·have HZ := hide (HX.out hv)
           by_cases v0 : 0 <= v
           ·have v1 : ¬ v < 4294967296 := fun h => hv ⟨v0, h⟩
            clear HX HY hm hv
            go_wp2
            go_ret
            exact ⟨by rw [HZ.out]; rfl, B2⟩
           ·clear HX HY hm hv
            go_wp2
            go_ret
            exact ⟨by rw [HZ.out]; rfl, B2⟩
        ·obtain rfl : j = cnt S S.size := by omega
         have HZ1 : Hid (¬ ∃ k, k < cnt S S.size /\ ¬ (0 <= x.n k /\ x.n k < mostOf (byteAt S k))) := fun ⟨k, h1, h2⟩ => h2 (HJ.out k h1)
         clear HJ
         have hlabel : lab S S.size = true := hlb
         have HNm := isName_any x.to wr
         by_cases hnm : isName x.to
         ·have HZ : Hid (insBad x S = 0) := by
           show _ = _
           unfold insBad
           rw [if_neg hto, if_neg HZ0.out, if_neg HZ1.out, if_neg (fun h => h.2 hnm)]
          rw [decide_eq_true hnm] at HNm
          go_wp2_with fail
          refine HNm.mono ?_
          rintro e5 w5 ⟨rfl, rfl⟩
          go_wp2
          go_ret
          exact ⟨by rw [HZ.out]; rfl, B2⟩
         ·have HZ : Hid (insBad x S = 4) := by
           show _ = _
           unfold insBad
           rw [if_neg hto, if_neg HZ0.out, if_neg HZ1.out, if_pos ⟨hlabel, hnm⟩]
          rw [decide_eq_false hnm] at HNm
          go_wp2_with fail
          refine HNm.mono ?_
          rintro e5 w5 ⟨rfl, rfl⟩
          go_wp2
          go_ret
          exact ⟨by rw [HZ.out]; rfl, B2⟩
theorem instr_any (x : Ins) (w : World) :
  Calls Tryz.prog 68 #[.agg #[.string x.op, .int .i64 x.a, .int .i64 x.b, .int .i64 x.c, .string x.to]] w fun e w' => e = .returned (.int .i64 (insErr x)) /\ Below w.heap.size w w' := by
 unfold insErr
 cases h : shape x.op.toList with
 | none => exact instr_none x w h
 | some l =>
  refine instr_some x ⟨l.toArray⟩ (by have := shape_le h; simpa [ByteArray.size] using this) w (fun w' => ?_)
  have := shape_any x.op w'
  rwa [h] at this
end
section
open Go.RowKit Go.Extern.Stop Go.Stop Go.Extern
theorem labelAt_any (ad : Option Addr) (cap : Nat) (l : List Ins) (to : ByteArray) (w : World) (hlen : l.length <= 1000000) (hl : insAt ad l w) :
  Calls Tryz.prog 69 #[.slice ad l.length cap, .string to] w fun e w' => e = .returned (.int .i64 (labelAt l to)) /\ w' = w := by
 have HL := hide hl
 clear hl
 go_enter Tryz.func69, Tryz.ntmps69
 go_wp2_with fail
 go_loopw [5] (fun i wr => wr = w /\ ∃ j : Nat, j <= l.length /\ i = .int .i64 j /\ Hid (∀ k y, k < j -> l[k]? = some y -> setsLabel y to = false)) (fun i _ => l.length - (intOf i).toNat)
 case atStart => exact ⟨rfl, 0, Nat.zero_le _, rfl, fun k y h => absurd h (Nat.not_lt_zero _)⟩
 case round =>
  obtain ⟨rfl, j, hj, rfl, HJ⟩ := hrel
  by_cases hlt : j < l.length
  ·obtain ⟨x, hx⟩ : ∃ x, l[j]? = some x := ⟨_, List.getElem?_eq_getElem hlt⟩
   obtain ⟨b, off, rfl, a0, -, -, -, a4⟩ := HL.out j x hx
   have ji : (j : Int) < l.length := by omega
   have HY : Hid (setsLabel x to = false -> ∀ k y, k < j + 1 -> l[k]? = some y -> setsLabel y to = false) := fun h k y hk hy => by
    by_cases e : k = j
    ·subst e; rw [hx] at hy; cases hy; exact h
    ·exact HJ.out k y (by omega) hy
   have HX : Hid (setsLabel x to = true -> labelAt l to = j) := fun h => labelAt_some hx h HJ.out
   clear HJ hx
   cases k1 : (x.op.toList == [108, 97, 98, 101, 108])
   ·have HZ := hide (HY.out (by unfold setsLabel; rw [k1]; rfl))
    clear HX HY
    go_wp2
    go_roundw
    case rel => exact ⟨trivial, j + 1, by omega, by go_num, HZ⟩
    case measure => simp [intOf]; omega
   ·cases k2 : (x.to.toList == to.toList)
    ·have HZ := hide (HY.out (by unfold setsLabel; rw [k1, k2]; rfl))
     clear HX HY
     go_wp2
     go_roundw
     case rel => exact ⟨trivial, j + 1, by omega, by go_num, HZ⟩
     case measure => simp [intOf]; omega
    ·have HZ := hide (HX.out (by unfold setsLabel; rw [k1, k2]; rfl))
     clear HX HY
     go_wp2
     go_ret
     exact ⟨by rw [HZ.out]; rfl, rfl⟩
  ·have HZ : Hid (labelAt l to = -1) := labelAt_none (fun k y hy => HJ.out k y (by have := (List.getElem?_eq_some_iff.1 hy).1; omega) hy)
   obtain rfl : j = l.length := by omega
   clear HJ
   go_wp2
   go_ret
   exact ⟨by rw [HZ.out]; rfl, rfl⟩
end
section
open Go.RowKit Go.Extern.Stop Go.Stop Go.Extern
theorem rbare_any (k : Int) (w : World) : Calls Tryz.prog 17 #[.int .i64 k] w fun e w' => e = .returned (.agg #[.int .i64 k, .int .i64 (-1)]) /\ Below w.heap.size w w' := by
 go_enter Tryz.func17, Tryz.ntmps17
 go_wp2
 refine bodyPost_ret (v := .agg #[.int .i64 k, .int .i64 (-1)]) (by simp only [results, Tryz.results17]; go_simp) rfl ⟨rfl, ?_⟩
 exact bRf.alloc nL _
theorem fine_any (w : World) : Calls Tryz.prog 35 #[] w fun e w' => e = .returned (.agg #[.int .i64 0, .int .i64 (-1)]) /\ Below w.heap.size w w' := by
 go_enter Tryz.func35, Tryz.ntmps35
 go_wp2
 refine bodyPost_ret (v := .agg #[.int .i64 0, .int .i64 (-1)]) (by simp only [results, Tryz.results35]; go_simp) rfl ⟨rfl, ?_⟩
 exact bRf.alloc nL _
theorem codeFault_any (ad : Option Addr) (cap : Nat) (l : List Ins) (w : World) (hl : insAt ad l w) :
  Calls Tryz.prog 42 #[.slice ad l.length cap] w fun e w' => e = .returned (.agg #[.int .i64 (codeFault l).1, .int .i64 (codeFault l).2]) /\ Below w.heap.size w w' := by
 have HL := hide hl
 clear hl
 have hba : Below w.heap.size w (w.alloc (.cells #[.int .i64 0, .int .i64 0] 31)) := bRf.alloc nL _
 obtain ⟨z0, z1⟩ := box2c w 31 (.int .i64 0) (.int .i64 0)
 have y0 : (w.alloc (.cells #[.int .i64 0, .int .i64 0] 31)).frozen? ⟨w.heap.size, 0, none⟩ = false := by simp
 have y1 : (w.alloc (.cells #[.int .i64 0, .int .i64 0] 31)).frozen? ⟨w.heap.size, 1, none⟩ = false := by simp
 generalize hw : w.alloc (.cells #[.int .i64 0, .int .i64 0] 31) = w1 at *
 by_cases hlen : 2000 < l.length
 ·have hc : codeFault l = (2, -1) := if_pos hlen
  have hi : 2000 < (l.length : Int) := by omega
  rw [hc]
  clear hc
  go_enter Tryz.func42, Tryz.ntmps42
  go_wp2_with fail
  refine (rbare_any _ _).mono ?_
  rintro e w2 ⟨rfl, hb3⟩
  clear hw
  have r0 := keep_cell hb3 z0
  have r1 := keep_cell hb3 z1
  have hzl : w.heap.size < w1.heap.size := bLt z0
  have x0 : w2.frozen? ⟨w.heap.size, 0, none⟩ = false := by rw [hb3.frozen hzl]; exact y0
  have x1 : w2.frozen? ⟨w.heap.size, 1, none⟩ = false := by rw [hb3.frozen hzl]; exact y1
  have B3 := below_step hba hb3
  clear z0 z1 y0 y1 hb3
  go_wp2_with fail
  refine bodyPost_ret (v := .agg #[.int .i64 2, .int .i64 (-1)]) (by simp only [results, Tryz.results42]; go_simp) rfl ⟨rfl, ?_⟩
  exact (B3.setCell nL _).setCell nL _
 ·have hc : codeFault l = faultFrom l 0 l := if_neg hlen
  have hi : ¬ 2000 < (l.length : Int) := by omega
  rw [hc]
  clear hc
  go_enter Tryz.func42, Tryz.ntmps42
  go_wp2_with fail
  clear hw
  go_loopw [3] (fun i wr => Hid (Below w1.heap.size w1 wr) /\ ∃ j : Nat, j <= l.length /\ i = .int .i64 j /\ Hid (∀ k y, k < j -> l[k]? = some y -> insFault l k y = 0)) (fun i _ => l.length - (intOf i).toNat)
  case atStart => exact ⟨Below.refl _ _, 0, Nat.zero_le _, rfl, fun k y h => absurd h (Nat.not_lt_zero _)⟩
  case round =>
   obtain ⟨HB, j, hj, rfl, HJ⟩ := hrel
   by_cases hlt : j < l.length
   ·obtain ⟨x, hx⟩ : ∃ x, l[j]? = some x := ⟨_, List.getElem?_eq_getElem hlt⟩
    have HR := hide (insAt_below (insAt_below HL.out hba) HB.out)
    obtain ⟨b, off, rfl, a0, a1, a2, a3, a4⟩ := HR.out j x hx
    have ji : (j : Int) < l.length := by omega
    have HY : Hid (insFault l j x = 0 -> ∀ k y, k < j + 1 -> l[k]? = some y -> insFault l k y = 0) := fun h k y hk hy => by
     by_cases e : k = j
     ·subst e; rw [hx] at hy; cases hy; exact h
     ·exact HJ.out k y (by omega) hy
    have HX : Hid (insFault l j x ≠ 0 -> faultFrom l 0 l = (insFault l j x, (j : Int))) := fun h => by
     have := faultFrom_hit l l 0 j x hx (by simpa using h) (fun k y hk hy => by simpa using HJ.out k y hk hy)
     simpa using this
    clear HJ hx
    go_wp2_with fail
    refine (instr_any x _).mono ?_
    rintro e2 w2 ⟨rfl, hb2⟩
    have HB2 : Hid (Below w1.heap.size w1 w2) := below_step HB.out hb2
    have HR2 := hide (insAt_below HR.out hb2)
    replace a0 := keep_cell hb2 a0
    replace a4 := keep_cell hb2 a4
    clear HB HR hb2 a1 a2 a3
    by_cases he : insErr x = 0
    ·rw [he]
     rw [show ((0 : Nat) : Int) = 0 from rfl]
     have hlen6 : l.length <= 1000000 := by omega
     cases k1 : (x.op.toList == [108, 97, 98, 101, 108])
     ·cases k2 : (x.to.toList == [])
      ·go_wp2_with fail
       refine (labelAt_any _ _ _ _ _ hlen6 HR2.out).mono ?_
       rintro e3 w3 ⟨rfl, rfl⟩
       by_cases hn : labelAt l x.to < 0
       ·have HZ : Hid (faultFrom l 0 l = (5, (j : Int))) := by
         have hv : insFault l j x = 5 := by unfold insFault; rw [if_neg (fun h => h he)]; rw [if_neg (by simp [k1]), if_pos ⟨k2, hn⟩]
         have := HX.out (by rw [hv]; decide)
         rwa [hv] at this
        clear HX HY
        have hb3 := HB2.out
        have r0 := keep_cell hb3 z0
        have r1 := keep_cell hb3 z1
        have hzl : w.heap.size < w1.heap.size := bLt z0
        have x0 : w3.frozen? ⟨w.heap.size, 0, none⟩ = false := by rw [hb3.frozen hzl]; exact y0
        have x1 : w3.frozen? ⟨w.heap.size, 1, none⟩ = false := by rw [hb3.frozen hzl]; exact y1
        have B3 := below_step hba hb3
        clear z0 z1 y0 y1 hb3
        go_wp2_with fail
        refine bodyPost_ret (v := .agg #[.int .i64 5, .int .i64 j]) (by simp only [results, Tryz.results42]; go_simp) rfl ⟨by rw [HZ.out]; rfl, ?_⟩
        exact (B3.setCell nL _).setCell nL _
       ·have HZ := hide (HY.out (by unfold insFault; rw [if_neg (fun h => h he)]; rw [if_neg (by simp [k1]), if_neg (fun h => hn h.2)]))
        clear HX HY
        go_wp2_with fail
        go_roundw
        case rel => exact ⟨HB2, j + 1, by omega, by go_num, HZ⟩
        case measure => simp [intOf]; omega
      ·have HZ := hide (HY.out (by unfold insFault; rw [if_neg (fun h => h he)]; rw [if_neg (by simp [k1]), if_neg (by simp [k2])]))
       clear HX HY
       go_wp2_with fail
       go_roundw
       case rel => exact ⟨HB2, j + 1, by omega, by go_num, HZ⟩
       case measure => simp [intOf]; omega
     ·go_wp2_with fail
      refine (labelAt_any _ _ _ _ _ hlen6 HR2.out).mono ?_
      rintro e3 w3 ⟨rfl, rfl⟩
      by_cases hn : labelAt l x.to = j
      ·rw [hn]
       cases k2 : (x.to.toList == [])
       ·go_wp2_with fail
        refine (labelAt_any _ _ _ _ _ hlen6 HR2.out).mono ?_
        rintro e3 w4 ⟨rfl, rfl⟩
        rw [hn]
        have hj0 : ¬ (j : Int) < 0 := by omega
        have HZ := hide (HY.out (by unfold insFault; rw [if_neg (fun h => h he)]; rw [if_neg (fun h => h.2 hn), if_neg (fun h => by have := h.2; omega)]))
        clear HX HY
        go_wp2_with fail
        go_roundw
        case rel => exact ⟨HB2, j + 1, by omega, by go_num, HZ⟩
        case measure => simp [intOf]; omega
       ·have HZ := hide (HY.out (by unfold insFault; rw [if_neg (fun h => h he)]; rw [if_neg (fun h => h.2 hn), if_neg (by simp [k2])]))
        clear HX HY
        go_wp2_with fail
        go_roundw
        case rel => exact ⟨HB2, j + 1, by omega, by go_num, HZ⟩
        case measure => simp [intOf]; omega
      ·have hne : (labelAt l x.to == (j : Int)) = false := beq_eq_false_iff_ne.2 hn
       have HZ : Hid (faultFrom l 0 l = (4, (j : Int))) := by
        have hv : insFault l j x = 4 := by unfold insFault; rw [if_neg (fun h => h he)]; rw [if_pos ⟨k1, hn⟩]
        have := HX.out (by rw [hv]; decide)
        rwa [hv] at this
       clear HX HY
       have hb3 := HB2.out
       have r0 := keep_cell hb3 z0
       have r1 := keep_cell hb3 z1
       have hzl : w.heap.size < w1.heap.size := bLt z0
       have x0 : w3.frozen? ⟨w.heap.size, 0, none⟩ = false := by rw [hb3.frozen hzl]; exact y0
       have x1 : w3.frozen? ⟨w.heap.size, 1, none⟩ = false := by rw [hb3.frozen hzl]; exact y1
       have B3 := below_step hba hb3
       clear z0 z1 y0 y1 hb3
       go_wp2_with fail
       refine bodyPost_ret (v := .agg #[.int .i64 4, .int .i64 j]) (by simp only [results, Tryz.results42]; go_simp) rfl ⟨by rw [HZ.out]; rfl, ?_⟩
       exact (B3.setCell nL _).setCell nL _
    ·have HZ : Hid (faultFrom l 0 l = (insErr x, (j : Int))) := by
      have hv : insFault l j x = insErr x := by unfold insFault; rw [if_pos he]
      have := HX.out (by rw [hv]; exact he)
      rwa [hv] at this
     clear HX HY
     have hb3 := HB2.out
     have r0 := keep_cell hb3 z0
     have r1 := keep_cell hb3 z1
     have hzl : w.heap.size < w1.heap.size := bLt z0
     have x0 : w2.frozen? ⟨w.heap.size, 0, none⟩ = false := by rw [hb3.frozen hzl]; exact y0
     have x1 : w2.frozen? ⟨w.heap.size, 1, none⟩ = false := by rw [hb3.frozen hzl]; exact y1
     have B3 := below_step hba hb3
     have he0 : 0 < (insErr x : Int) := by omega
     clear z0 z1 y0 y1 hb3
     generalize insErr x = n at *
     go_wp2_with fail
     refine bodyPost_ret (v := .agg #[.int .i64 n, .int .i64 j]) (by simp only [results, Tryz.results42]; go_simp) rfl ⟨by rw [HZ.out], ?_⟩
     exact (B3.setCell nL _).setCell nL _
   ·have HZ : Hid (faultFrom l 0 l = (0, -1)) := faultFrom_at l l 0 (fun k y hy => by simpa using HJ.out k y (by have := (List.getElem?_eq_some_iff.1 hy).1; omega) hy)
    obtain rfl : j = l.length := by omega
    clear HJ
    go_wp2_with fail
    refine (fine_any _).mono ?_
    rintro e w2 ⟨rfl, hb2⟩
    have hb3 : Below w1.heap.size w1 w2 := below_step HB.out hb2
    have r0 := keep_cell hb3 z0
    have r1 := keep_cell hb3 z1
    have hzl : w.heap.size < w1.heap.size := bLt z0
    have x0 : w2.frozen? ⟨w.heap.size, 0, none⟩ = false := by rw [hb3.frozen hzl]; exact y0
    have x1 : w2.frozen? ⟨w.heap.size, 1, none⟩ = false := by rw [hb3.frozen hzl]; exact y1
    have B3 := below_step hba hb3
    clear z0 z1 y0 y1 hb3 hb2 HB
    go_wp2_with fail
    refine bodyPost_ret (v := .agg #[.int .i64 0, .int .i64 (-1)]) (by simp only [results, Tryz.results42]; go_simp) rfl ⟨by rw [HZ.out]; rfl, ?_⟩
    exact (B3.setCell nL _).setCell nL _
end
end Go.Proofs.YtaiigfcfmcicjaaGreatDoor
