import Derived.Test.YtgmokighfgdnjaaGreatDoorB43
import Derived.Test.YtgmokighfgdnjaaGreatDoorB32

/- GdU -/
namespace Go.Proofs.YtgmokighfgdnjaaGreatDoor
open Go.RowKit Go.Extern.Stop Go.Stop Go.Extern Go.Maps Go.WideMaps Go.Sort

def entC (f a k : Nat) : List Ins := cn f ((List.range k).map fun k => (Tg.enter, a + k + 1))
def levC (f a k : Nat) : List Ins := cn f ((List.range k).map fun k => (Tg.leave, a + k + 1))
def rdsC (f k : Nat) : List Ins := cn f (List.replicate k (Tg.read, 0))
def getI : List Ins := [⟨spLoad, 3, 5, 0, spNo⟩]
def rdI : List Ins := [⟨spLoad, 4, 3, 0, spNo⟩, ⟨⟨#[110, 101, 101, 100]⟩, 4, 0, 0, spNo⟩]
theorem ent_succ (f a k : Nat) : entC f a (k + 1) = entC f a k ++ gCode (pq (a + k + 1)) (tgCode f .enter) := by
  unfold entC
  rw [List.range_succ, List.map_append, cn_append]
  show _ ++ cn f [(Tg.enter, a + k + 1)] = _
  rw [cn_one]
theorem lev_succ (f a k : Nat) : levC f a (k + 1) = levC f a k ++ gCode (pq (a + k + 1)) (tgCode f .leave) := by
  unfold levC
  rw [List.range_succ, List.map_append, cn_append]
  show _ ++ cn f [(Tg.leave, a + k + 1)] = _
  rw [cn_one]
theorem rds_succ (f k : Nat) : rdsC f (k + 1) = rdsC f k ++ rdI := by
  unfold rdsC
  rw [List.replicate_succ', cn_append, cn_one]
  rfl
theorem len_enter (f : Nat) (p : ByteArray) : (gCode p (tgCode f .enter)).length ≤ 25 := by
  unfold gCode
  rw [List.length_map]
  show (gEnter f).length ≤ 25
  unfold gEnter gOuter gJoin
  split <;> (try split) <;> simp
theorem len_leave (f : Nat) (p : ByteArray) : (gCode p (tgCode f .leave)).length ≤ 12 := by
  unfold gCode
  rw [List.length_map]
  show (gLeave f).length ≤ 12
  unfold gLeave gOuter
  split <;> simp
theorem len_rest (f : Nat) (p : ByteArray) : (gCode p (tgCode f .rest)).length ≤ 10 := by
  unfold gCode
  rw [List.length_map]
  show (gRest f).length ≤ 10
  unfold gRest
  split <;> simp
theorem ent_len (f a k : Nat) : (entC f a k).length ≤ 25 * k := by
  induction k with
  | zero => exact Nat.le_refl _
  | succ k ih =>
    have h := len_enter f (pq (a + k + 1))
    rw [ent_succ, List.length_append]; omega
theorem lev_len (f a k : Nat) : (levC f a k).length ≤ 12 * k := by
  induction k with
  | zero => exact Nat.le_refl _
  | succ k ih =>
    have h := len_leave f (pq (a + k + 1))
    rw [lev_succ, List.length_append]; omega
theorem rds_len (f k : Nat) : (rdsC f k).length ≤ 2 * k := by
  induction k with
  | zero => exact Nat.le_refl _
  | succ k ih => rw [rds_succ, List.length_append]; show _ + 2 ≤ _; omega
theorem sect_code (f dp rd a : Nat) : cn f (sect dp rd a) = entC f a dp ++ getI ++ rdsC f rd ++ levC f (a + dp) dp ++ gCode (pq (a + 2 * dp + 1)) (tgCode f .rest) := by
  unfold sect entC levC rdsC
  rw [cn_append, cn_append, cn_append, cn_append, cn_one, cn_one]
  simp only [List.append_assoc]
  rfl
theorem rd_succ (f dp rd j : Nat) : cn f (rdTo dp rd (j + 1)) = cn f (rdTo dp rd j) ++ cn f (sect dp rd (j * (2 * dp + 1))) := by
  unfold rdTo
  rw [List.range_succ, List.flatMap_append, cn_append]
  simp
theorem rd_len (f dp rd j : Nat) (hd : dp ≤ 3) (hr : rd ≤ 5) : (cn f (rdTo dp rd j)).length ≤ 135 * j := by
  induction j with
  | zero => exact Nat.le_refl _
  | succ j ih =>
    have h1 := ent_len f (j * (2 * dp + 1)) dp
    have h2 := rds_len f rd
    have h3 := lev_len f (j * (2 * dp + 1) + dp) dp
    have h4 := len_rest f (pq (j * (2 * dp + 1) + 2 * dp + 1))
    rw [rd_succ, sect_code]
    simp only [List.length_append]
    show _ + (_ + 1 + _ + _ + _) ≤ _
    omega

set_option maxRecDepth 20000 in
set_option maxHeartbeats 4000000 in
theorem reader_false {f : Nat} (hf : 1 ≤ f ∧ f ≤ 4) (tm : Nat) (htm : tm ≤ 3) (rd : Nat) (hrd : rd ≤ 5) (w : World) :
    Calls Tryz.prog 38 #[.int .i64 f, .int .i64 tm, .int .i64 rd, .bool false] w fun e w' => ∃ v, e = .returned (.tuple #[v, .bool true]) ∧ insOwn w' w.heap.size v (Cs.code f true ⟨false, tm, rd, false⟩) ∧ Below w.heap.size w w' := by
  have HA := hide (@add_int f hf)
  have HLn : Hid (∀ j : Nat, (cn f (rdTo 1 rd j)).length ≤ 135 * j) := hide fun j => rd_len f 1 rd j (by decide) hrd
  have HX : Hid (cn f (rdTo 1 rd tm) ++ gCode (pq (tm * 3 + 1)) (tgCode f .gone) = Cs.code f true ⟨false, tm, rd, false⟩) := hide (by
    rw [cn_code]
    show _ = cn f (rdTo 1 rd tm ++ [(.gone, tm * 3 + 1)])
    rw [cn_append, cn_one])
  generalize hfi : (f : Int) = fi at *
  clear hfi hf
  go_enter Tryz.func38, Tryz.ntmps38
  go_wp2_with fail
  go_loopw [10, 11, 12, 13, 14, 15, 16, 17, 18, 19, 20, 21, 22, 23] (fun l g a i _ _ _ _ _ _ _ _ _ _ wr => ∃ j : Nat, j ≤ tm ∧ i = .int .i64 j ∧ g = .bool true ∧ a = .int .i64 ((j * 3 : Nat) : Int) ∧ Hid (insOwn wr w.heap.size l (cn f (rdTo 1 rd j))) ∧ Below w.heap.size w wr) (fun _ _ _ i _ _ _ _ _ _ _ _ _ _ _ => tm - (intOf i).toNat)
  case atStart => exact ⟨0, Nat.zero_le _, rfl, rfl, rfl, insOwn_nil _ _, Below.refl _ _⟩
  case round =>
    obtain ⟨j, hj, rfl, rfl, rfl, HO, HB⟩ := hrel
    by_cases hlt : j < tm
    · have ji : (j : Int) < tm := by omega
      have HS : Hid (cn f (rdTo 1 rd (j + 1)) = cn f (rdTo 1 rd j) ++ (entC f (j * 3) 1 ++ getI ++ rdsC f rd ++ levC f (j * 3 + 1) 1 ++ gCode (pq (j * 3 + 2 + 1)) (tgCode f .rest))) := hide (by rw [rd_succ]; exact congrArg _ (sect_code f 1 rd (j * 3)))
      have HL := hide (HLn.out j)
      have HK : Hid (j * 3 ≤ 6 ∧ (j + 1) * 3 = j * 3 + 2 + 1) := hide (by omega)
      have HO0 : Hid (insOwn wr w.heap.size u10 (cn f (rdTo 1 rd j) ++ entC f (j * 3) 0)) := hide (by rw [show entC f (j * 3) 0 = [] from rfl, List.append_nil]; exact HO.out)
      generalize j * 3 = a at *
      generalize cn f (rdTo 1 rd j) = C at *
      clear HO
      go_wp2_with fail
      go_loopw [10, 11, 12, 15, 16, 17] (fun l g x i _ _ wr => ∃ k : Nat, k ≤ 1 ∧ i = .int .i64 k ∧ g = .bool true ∧ x = .int .i64 ((a + k : Nat) : Int) ∧ Hid (insOwn wr w.heap.size l (C ++ entC f a k)) ∧ Below w.heap.size w wr) (fun _ _ _ i _ _ _ => 1 - (intOf i).toNat)
      case atStart => exact ⟨0, Nat.zero_le _, rfl, rfl, rfl, HO0, HB⟩
      case round =>
        clear HO0 HB
        obtain ⟨k, hk, rfl, rfl, rfl, HO, HB⟩ := hrel
        by_cases hkl : k < 1
        · have ki : (k : Int) < 1 := by omega
          have HE := hide (ent_succ f a k)
          have HEL := hide (ent_len f a k)
          have ha1 : a + k + 1 ≤ 99 := by have := HK.out.1; omega
          generalize entC f a k = E at *
          go_wp2_with fail
          refine (HA.out 0 (by decide) _ (by rfl) _ (a + k + 1) (by omega) ha1 _ w.heap.size _ _ HO.out HB.size (by rw [List.length_append]; have := HL.out; have := HEL.out; omega)).mono ?_
          rintro e w2 ⟨v2, rfl, ho2, hb2⟩
          have HO2 : Hid (insOwn w2 w.heap.size v2 (C ++ entC f a (k + 1))) := hide (by rw [HE.out]; simp only [List.append_assoc] at ho2 ⊢; exact ho2)
          have HB2 := HB.trans hb2
          clear ho2 hb2 HO HB HE HEL ha1
          go_wp2
          go_roundw
          case rel => exact ⟨k + 1, by omega, by go_num, rfl, by go_num, HO2, HB2⟩
          case measure => simp [intOf]; omega
        · have ki : ¬ (k : Int) < 1 := by omega
          have HKE : Hid (k = 1) := hide (by omega)
          have HO1 : Hid (insOwn wr w.heap.size u10 (C ++ entC f a 1)) := hide (by have := HO.out; rwa [HKE.out] at this)
          have HEL := hide (ent_len f a 1)
          generalize entC f a 1 = E at *
          clear HO
          go_wp2_with (at_builtin; refine wpList_append_ins _ rfl _ _ rfl w.heap.size (C ++ E) getI _ _ _ rfl ?q1 rfl ?q2 (Nat.succ_pos _) ?q3 ?q4 ?_)
          case q1 => exact insOwn_keep HO1.out ((Below.refl _ _).alloc (Nat.le_refl _) _)
          case q2 => exact insAt_new rfl
          case q3 => (try simp only [List.length_append]); show _ + 1 ≤ 2000; have := HL.out; have := HEL.out; omega
          case q4 => have := HB.size; simp; omega
          intro v3 w3 ho3 hb3 hs3 hg3 hloc3
          have HO3 : Hid (insOwn w3 w.heap.size v3 (C ++ E ++ getI ++ rdsC f 0)) := hide (by rw [show rdsC f 0 = [] from rfl, List.append_nil]; simp only [List.append_assoc] at ho3 ⊢; exact ho3)
          have HB3 := (HB.alloc HB.size _).trans hb3
          clear ho3 hb3 hs3 hg3 hloc3 HO1 HB
          go_wp2_with fail
          go_loopw [10, 18] (fun l i wr => ∃ r : Nat, r ≤ rd ∧ i = .int .i64 r ∧ Hid (insOwn wr w.heap.size l (C ++ E ++ getI ++ rdsC f r)) ∧ Below w.heap.size w wr) (fun _ i _ => rd - (intOf i).toNat)
          case atStart => exact ⟨0, Nat.zero_le _, rfl, HO3, HB3⟩
          case round =>
            clear HO3 HB3
            obtain ⟨r, hr, rfl, HO, HB⟩ := hrel
            by_cases hrl : r < rd
            · have ri : (r : Int) < rd := by omega
              have HR := hide (rds_succ f r)
              have HRL := hide (rds_len f r)
              generalize rdsC f r = R at *
              go_wp2_with (at_builtin; refine wpList_append_ins _ rfl _ _ rfl w.heap.size (C ++ E ++ getI ++ R) rdI _ _ _ rfl ?q1 rfl ?q2 (Nat.succ_pos _) ?q3 ?q4 ?_)
              case q1 => exact insOwn_keep HO.out ((Below.refl _ _).alloc (Nat.le_refl _) _)
              case q2 => exact insAt_new rfl
              case q3 => simp only [List.length_append]; show _ + 1 + _ + 2 ≤ 2000; have := HL.out; have := HEL.out; have := HRL.out; omega
              case q4 => have := HB.size; simp; omega
              intro v4 w4 ho4 hb4 hs4 hg4 hloc4
              have HO4 : Hid (insOwn w4 w.heap.size v4 (C ++ E ++ getI ++ rdsC f (r + 1))) := hide (by rw [HR.out]; simp only [List.append_assoc] at ho4 ⊢; exact ho4)
              have HB4 := (HB.alloc HB.size _).trans hb4
              clear ho4 hb4 hs4 hg4 hloc4 HO HB HR HRL
              go_wp2
              go_roundw
              case rel => exact ⟨r + 1, by omega, by go_num, HO4, HB4⟩
              case measure => simp [intOf]; omega
            · have ri : ¬ (r : Int) < rd := by omega
              have HO5 : Hid (insOwn wr w.heap.size u10 (C ++ E ++ getI ++ rdsC f rd ++ levC f (a + 1) 0)) := hide (by
                rw [show levC f (a + 1) 0 = [] from rfl, List.append_nil]
                have := HO.out
                rwa [show r = rd by omega] at this)
              have HRL := hide (rds_len f rd)
              generalize rdsC f rd = R at *
              clear HO
              go_wp2_with fail
              go_loopw [10, 11, 12, 19, 20, 21] (fun l g x i _ _ wr => ∃ k : Nat, k ≤ 1 ∧ i = .int .i64 k ∧ g = .bool true ∧ x = .int .i64 ((a + 1 + k : Nat) : Int) ∧ Hid (insOwn wr w.heap.size l (C ++ E ++ getI ++ R ++ levC f (a + 1) k)) ∧ Below w.heap.size w wr) (fun _ _ _ i _ _ _ => 1 - (intOf i).toNat)
              case atStart => exact ⟨0, Nat.zero_le _, rfl, rfl, by rw [HKE.out]; rfl, HO5, HB⟩
              case round =>
                clear HO5 HB
                obtain ⟨k2, hk2, rfl, rfl, rfl, HO, HB⟩ := hrel
                by_cases hkl2 : k2 < 1
                · have ki2 : (k2 : Int) < 1 := by omega
                  have HE2 := hide (lev_succ f (a + 1) k2)
                  have HVL := hide (lev_len f (a + 1) k2)
                  have ha2 : a + 1 + k2 + 1 ≤ 99 := by have := HK.out.1; omega
                  generalize levC f (a + 1) k2 = V at *
                  go_wp2_with fail
                  refine (HA.out 1 (by decide) _ (by rfl) _ (a + 1 + k2 + 1) (by omega) ha2 _ w.heap.size _ _ HO.out HB.size (by simp only [List.length_append]; show _ + 1 + _ + _ ≤ _; have := HL.out; have := HEL.out; have := HRL.out; have := HVL.out; omega)).mono ?_
                  rintro e w6 ⟨v6, rfl, ho6, hb6⟩
                  have HO6 : Hid (insOwn w6 w.heap.size v6 (C ++ E ++ getI ++ R ++ levC f (a + 1) (k2 + 1))) := hide (by rw [HE2.out]; simp only [List.append_assoc] at ho6 ⊢; exact ho6)
                  have HB6 := HB.trans hb6
                  clear ho6 hb6 HO HB HE2 HVL ha2
                  go_wp2
                  go_roundw
                  case rel => exact ⟨k2 + 1, by omega, by go_num, rfl, by go_num, HO6, HB6⟩
                  case measure => simp [intOf]; omega
                · have ki2 : ¬ (k2 : Int) < 1 := by omega
                  have HKE2 : Hid (k2 = 1) := hide (by omega)
                  have HO7 : Hid (insOwn wr w.heap.size u10 (C ++ E ++ getI ++ R ++ levC f (a + 1) 1)) := hide (by have := HO.out; rwa [HKE2.out] at this)
                  have HVL := hide (lev_len f (a + 1) 1)
                  have ha3 : a + 2 + 1 ≤ 99 := by have := HK.out.1; omega
                  generalize levC f (a + 1) 1 = V at *
                  clear HO
                  go_wp2_with fail
                  refine (HA.out 2 (by decide) _ (by rfl) _ (a + 2 + 1) (by have := HKE2.out; omega) ha3 _ w.heap.size _ _ HO7.out HB.size (by simp only [List.length_append]; show _ + 1 + _ + _ ≤ _; have := HL.out; have := HEL.out; have := HRL.out; have := HVL.out; omega)).mono ?_
                  rintro e w8 ⟨v8, rfl, ho8, hb8⟩
                  have HO8 : Hid (insOwn w8 w.heap.size v8 (cn f (rdTo 1 rd (j + 1)))) := hide (by rw [HS.out]; simp only [List.append_assoc] at ho8 ⊢; exact ho8)
                  have HB8 := HB.trans hb8
                  clear ho8 hb8 HO7 HB HS HVL HRL HEL ha3
                  go_wp2
                  go_roundw
                  case rel => exact ⟨j + 1, by omega, by go_num, rfl, by rw [HK.out.2]; have := HKE2.out; go_num, HO8, HB8⟩
                  case measure => simp [intOf]; omega
    · obtain rfl : j = tm := by omega
      have HL := hide (HLn.out j)
      have hg1 : j * 3 + 1 ≤ 99 := by omega
      go_wp2_with fail
      refine (HA.out 3 (by decide) _ (by rfl) _ (j * 3 + 1) (by omega) hg1 _ w.heap.size _ _ HO.out HB.size (by have := HL.out; omega)).mono ?_
      rintro e w2 ⟨v2, rfl, ho2, hb2⟩
      have HO2 : Hid (insOwn w2 w.heap.size v2 (Cs.code f true ⟨false, j, rd, false⟩)) := hide (by rw [← HX.out]; exact ho2)
      have HB2 := HB.trans hb2
      clear ho2 hb2 HO HB HX HL
      go_wp2
      go_ret2
      exact ⟨v2, rfl, HO2.out, HB2⟩
end Go.Proofs.YtgmokighfgdnjaaGreatDoor

/- GdV -/
namespace Go.Proofs.YtgmokighfgdnjaaGreatDoor
open Go.RowKit Go.Extern.Stop Go.Stop Go.Extern Go.Maps Go.WideMaps Go.Sort

set_option maxRecDepth 20000 in
set_option maxHeartbeats 4000000 in
theorem reader_true {f : Nat} (hf : 1 ≤ f ∧ f ≤ 4) (tm : Nat) (htm : tm ≤ 3) (rd : Nat) (hrd : rd ≤ 5) (w : World) :
    Calls Tryz.prog 38 #[.int .i64 f, .int .i64 tm, .int .i64 rd, .bool true] w fun e w' => ∃ v, e = .returned (.tuple #[v, .bool true]) ∧ insOwn w' w.heap.size v (Cs.code f true ⟨false, tm, rd, true⟩) ∧ Below w.heap.size w w' := by
  have HA := hide (@add_int f hf)
  have HLn : Hid (∀ j : Nat, (cn f (rdTo 3 rd j)).length ≤ 135 * j) := hide fun j => rd_len f 3 rd j (by decide) hrd
  have HX : Hid (cn f (rdTo 3 rd tm) ++ gCode (pq (tm * 7 + 1)) (tgCode f .gone) = Cs.code f true ⟨false, tm, rd, true⟩) := hide (by
    rw [cn_code]
    show _ = cn f (rdTo 3 rd tm ++ [(.gone, tm * 7 + 1)])
    rw [cn_append, cn_one])
  generalize hfi : (f : Int) = fi at *
  clear hfi hf
  go_enter Tryz.func38, Tryz.ntmps38
  go_wp2_with fail
  go_loopw [10, 11, 12, 13, 14, 15, 16, 17, 18, 19, 20, 21, 22, 23] (fun l g a i _ _ _ _ _ _ _ _ _ _ wr => ∃ j : Nat, j ≤ tm ∧ i = .int .i64 j ∧ g = .bool true ∧ a = .int .i64 ((j * 7 : Nat) : Int) ∧ Hid (insOwn wr w.heap.size l (cn f (rdTo 3 rd j))) ∧ Below w.heap.size w wr) (fun _ _ _ i _ _ _ _ _ _ _ _ _ _ _ => tm - (intOf i).toNat)
  case atStart => exact ⟨0, Nat.zero_le _, rfl, rfl, rfl, insOwn_nil _ _, Below.refl _ _⟩
  case round =>
    obtain ⟨j, hj, rfl, rfl, rfl, HO, HB⟩ := hrel
    by_cases hlt : j < tm
    · have ji : (j : Int) < tm := by omega
      have HS : Hid (cn f (rdTo 3 rd (j + 1)) = cn f (rdTo 3 rd j) ++ (entC f (j * 7) 3 ++ getI ++ rdsC f rd ++ levC f (j * 7 + 3) 3 ++ gCode (pq (j * 7 + 6 + 1)) (tgCode f .rest))) := hide (by rw [rd_succ]; exact congrArg _ (sect_code f 3 rd (j * 7)))
      have HL := hide (HLn.out j)
      have HK : Hid (j * 7 ≤ 14 ∧ (j + 1) * 7 = j * 7 + 6 + 1) := hide (by omega)
      have HO0 : Hid (insOwn wr w.heap.size u10 (cn f (rdTo 3 rd j) ++ entC f (j * 7) 0)) := hide (by rw [show entC f (j * 7) 0 = [] from rfl, List.append_nil]; exact HO.out)
      generalize j * 7 = a at *
      generalize cn f (rdTo 3 rd j) = C at *
      clear HO
      go_wp2_with fail
      go_loopw [10, 11, 12, 15, 16, 17] (fun l g x i _ _ wr => ∃ k : Nat, k ≤ 3 ∧ i = .int .i64 k ∧ g = .bool true ∧ x = .int .i64 ((a + k : Nat) : Int) ∧ Hid (insOwn wr w.heap.size l (C ++ entC f a k)) ∧ Below w.heap.size w wr) (fun _ _ _ i _ _ _ => 3 - (intOf i).toNat)
      case atStart => exact ⟨0, Nat.zero_le _, rfl, rfl, rfl, HO0, HB⟩
      case round =>
        clear HO0 HB
        obtain ⟨k, hk, rfl, rfl, rfl, HO, HB⟩ := hrel
        by_cases hkl : k < 3
        · have ki : (k : Int) < 3 := by omega
          have HE := hide (ent_succ f a k)
          have HEL := hide (ent_len f a k)
          have ha1 : a + k + 1 ≤ 99 := by have := HK.out.1; omega
          generalize entC f a k = E at *
          go_wp2_with fail
          refine (HA.out 0 (by decide) _ (by rfl) _ (a + k + 1) (by omega) ha1 _ w.heap.size _ _ HO.out HB.size (by rw [List.length_append]; have := HL.out; have := HEL.out; omega)).mono ?_
          rintro e w2 ⟨v2, rfl, ho2, hb2⟩
          have HO2 : Hid (insOwn w2 w.heap.size v2 (C ++ entC f a (k + 1))) := hide (by rw [HE.out]; simp only [List.append_assoc] at ho2 ⊢; exact ho2)
          have HB2 := HB.trans hb2
          clear ho2 hb2 HO HB HE HEL ha1
          go_wp2
          go_roundw
          case rel => exact ⟨k + 1, by omega, by go_num, rfl, by go_num, HO2, HB2⟩
          case measure => simp [intOf]; omega
        · have ki : ¬ (k : Int) < 3 := by omega
          have HKE : Hid (k = 3) := hide (by omega)
          have HO1 : Hid (insOwn wr w.heap.size u10 (C ++ entC f a 3)) := hide (by have := HO.out; rwa [HKE.out] at this)
          have HEL := hide (ent_len f a 3)
          generalize entC f a 3 = E at *
          clear HO
          go_wp2_with (at_builtin; refine wpList_append_ins _ rfl _ _ rfl w.heap.size (C ++ E) getI _ _ _ rfl ?q1 rfl ?q2 (Nat.succ_pos _) ?q3 ?q4 ?_)
          case q1 => exact insOwn_keep HO1.out ((Below.refl _ _).alloc (Nat.le_refl _) _)
          case q2 => exact insAt_new rfl
          case q3 => (try simp only [List.length_append]); show _ + 1 ≤ 2000; have := HL.out; have := HEL.out; omega
          case q4 => have := HB.size; simp; omega
          intro v3 w3 ho3 hb3 hs3 hg3 hloc3
          have HO3 : Hid (insOwn w3 w.heap.size v3 (C ++ E ++ getI ++ rdsC f 0)) := hide (by rw [show rdsC f 0 = [] from rfl, List.append_nil]; simp only [List.append_assoc] at ho3 ⊢; exact ho3)
          have HB3 := (HB.alloc HB.size _).trans hb3
          clear ho3 hb3 hs3 hg3 hloc3 HO1 HB
          go_wp2_with fail
          go_loopw [10, 18] (fun l i wr => ∃ r : Nat, r ≤ rd ∧ i = .int .i64 r ∧ Hid (insOwn wr w.heap.size l (C ++ E ++ getI ++ rdsC f r)) ∧ Below w.heap.size w wr) (fun _ i _ => rd - (intOf i).toNat)
          case atStart => exact ⟨0, Nat.zero_le _, rfl, HO3, HB3⟩
          case round =>
            clear HO3 HB3
            obtain ⟨r, hr, rfl, HO, HB⟩ := hrel
            by_cases hrl : r < rd
            · have ri : (r : Int) < rd := by omega
              have HR := hide (rds_succ f r)
              have HRL := hide (rds_len f r)
              generalize rdsC f r = R at *
              go_wp2_with (at_builtin; refine wpList_append_ins _ rfl _ _ rfl w.heap.size (C ++ E ++ getI ++ R) rdI _ _ _ rfl ?q1 rfl ?q2 (Nat.succ_pos _) ?q3 ?q4 ?_)
              case q1 => exact insOwn_keep HO.out ((Below.refl _ _).alloc (Nat.le_refl _) _)
              case q2 => exact insAt_new rfl
              case q3 => simp only [List.length_append]; show _ + 1 + _ + 2 ≤ 2000; have := HL.out; have := HEL.out; have := HRL.out; omega
              case q4 => have := HB.size; simp; omega
              intro v4 w4 ho4 hb4 hs4 hg4 hloc4
              have HO4 : Hid (insOwn w4 w.heap.size v4 (C ++ E ++ getI ++ rdsC f (r + 1))) := hide (by rw [HR.out]; simp only [List.append_assoc] at ho4 ⊢; exact ho4)
              have HB4 := (HB.alloc HB.size _).trans hb4
              clear ho4 hb4 hs4 hg4 hloc4 HO HB HR HRL
              go_wp2
              go_roundw
              case rel => exact ⟨r + 1, by omega, by go_num, HO4, HB4⟩
              case measure => simp [intOf]; omega
            · have ri : ¬ (r : Int) < rd := by omega
              have HO5 : Hid (insOwn wr w.heap.size u10 (C ++ E ++ getI ++ rdsC f rd ++ levC f (a + 3) 0)) := hide (by
                rw [show levC f (a + 3) 0 = [] from rfl, List.append_nil]
                have := HO.out
                rwa [show r = rd by omega] at this)
              have HRL := hide (rds_len f rd)
              generalize rdsC f rd = R at *
              clear HO
              go_wp2_with fail
              go_loopw [10, 11, 12, 19, 20, 21] (fun l g x i _ _ wr => ∃ k : Nat, k ≤ 3 ∧ i = .int .i64 k ∧ g = .bool true ∧ x = .int .i64 ((a + 3 + k : Nat) : Int) ∧ Hid (insOwn wr w.heap.size l (C ++ E ++ getI ++ R ++ levC f (a + 3) k)) ∧ Below w.heap.size w wr) (fun _ _ _ i _ _ _ => 3 - (intOf i).toNat)
              case atStart => exact ⟨0, Nat.zero_le _, rfl, rfl, by rw [HKE.out]; rfl, HO5, HB⟩
              case round =>
                clear HO5 HB
                obtain ⟨k2, hk2, rfl, rfl, rfl, HO, HB⟩ := hrel
                by_cases hkl2 : k2 < 3
                · have ki2 : (k2 : Int) < 3 := by omega
                  have HE2 := hide (lev_succ f (a + 3) k2)
                  have HVL := hide (lev_len f (a + 3) k2)
                  have ha2 : a + 3 + k2 + 1 ≤ 99 := by have := HK.out.1; omega
                  generalize levC f (a + 3) k2 = V at *
                  go_wp2_with fail
                  refine (HA.out 1 (by decide) _ (by rfl) _ (a + 3 + k2 + 1) (by omega) ha2 _ w.heap.size _ _ HO.out HB.size (by simp only [List.length_append]; show _ + 1 + _ + _ ≤ _; have := HL.out; have := HEL.out; have := HRL.out; have := HVL.out; omega)).mono ?_
                  rintro e w6 ⟨v6, rfl, ho6, hb6⟩
                  have HO6 : Hid (insOwn w6 w.heap.size v6 (C ++ E ++ getI ++ R ++ levC f (a + 3) (k2 + 1))) := hide (by rw [HE2.out]; simp only [List.append_assoc] at ho6 ⊢; exact ho6)
                  have HB6 := HB.trans hb6
                  clear ho6 hb6 HO HB HE2 HVL ha2
                  go_wp2
                  go_roundw
                  case rel => exact ⟨k2 + 1, by omega, by go_num, rfl, by go_num, HO6, HB6⟩
                  case measure => simp [intOf]; omega
                · have ki2 : ¬ (k2 : Int) < 3 := by omega
                  have HKE2 : Hid (k2 = 3) := hide (by omega)
                  have HO7 : Hid (insOwn wr w.heap.size u10 (C ++ E ++ getI ++ R ++ levC f (a + 3) 3)) := hide (by have := HO.out; rwa [HKE2.out] at this)
                  have HVL := hide (lev_len f (a + 3) 3)
                  have ha3 : a + 6 + 1 ≤ 99 := by have := HK.out.1; omega
                  generalize levC f (a + 3) 3 = V at *
                  clear HO
                  go_wp2_with fail
                  refine (HA.out 2 (by decide) _ (by rfl) _ (a + 6 + 1) (by have := HKE2.out; omega) ha3 _ w.heap.size _ _ HO7.out HB.size (by simp only [List.length_append]; show _ + 1 + _ + _ ≤ _; have := HL.out; have := HEL.out; have := HRL.out; have := HVL.out; omega)).mono ?_
                  rintro e w8 ⟨v8, rfl, ho8, hb8⟩
                  have HO8 : Hid (insOwn w8 w.heap.size v8 (cn f (rdTo 3 rd (j + 1)))) := hide (by rw [HS.out]; simp only [List.append_assoc] at ho8 ⊢; exact ho8)
                  have HB8 := HB.trans hb8
                  clear ho8 hb8 HO7 HB HS HVL HRL HEL ha3
                  go_wp2
                  go_roundw
                  case rel => exact ⟨j + 1, by omega, by go_num, rfl, by rw [HK.out.2]; have := HKE2.out; go_num, HO8, HB8⟩
                  case measure => simp [intOf]; omega
    · obtain rfl : j = tm := by omega
      have HL := hide (HLn.out j)
      have hg1 : j * 7 + 1 ≤ 99 := by omega
      go_wp2_with fail
      refine (HA.out 3 (by decide) _ (by rfl) _ (j * 7 + 1) (by omega) hg1 _ w.heap.size _ _ HO.out HB.size (by have := HL.out; omega)).mono ?_
      rintro e w2 ⟨v2, rfl, ho2, hb2⟩
      have HO2 : Hid (insOwn w2 w.heap.size v2 (Cs.code f true ⟨false, j, rd, true⟩)) := hide (by rw [← HX.out]; exact ho2)
      have HB2 := HB.trans hb2
      clear ho2 hb2 HO HB HX HL
      go_wp2
      go_ret2
      exact ⟨v2, rfl, HO2.out, HB2⟩
end Go.Proofs.YtgmokighfgdnjaaGreatDoor

/- GcS -/
namespace Go.Proofs.YtgmokighfgdnjaaGreatDoor
open Go.RowKit

theorem codes1 : ∀ (wt w : Bool) (tm : Fin 4) (rd : Fin 6) (ns : Bool), codeGood (Cs.code 1 wt ⟨w, tm.val, rd.val, ns⟩) = true := by decide +kernel
end Go.Proofs.YtgmokighfgdnjaaGreatDoor
