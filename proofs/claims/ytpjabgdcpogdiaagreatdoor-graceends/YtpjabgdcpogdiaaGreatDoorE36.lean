import Derived.Test.YtpjabgdcpogdiaaGreatDoorE35
import Derived.Test.YtpjabgdcpogdiaaGreatDoorE21

/- GdT -/
namespace Go.Proofs.YtpjabgdcpogdiaaGreatDoor
open Go.RowKit Go.Extern.Stop Go.Stop Go.Extern Go.Maps Go.WideMaps Go.Sort

theorem cd_append (f : Nat) : ∀ (a b : List (Tg × ByteArray)), cd f (a ++ b) = cd f a ++ cd f b
  | [], _ => rfl
  | x :: a, b => by
    show gCode x.2 (tgCode f x.1) ++ cd f (a ++ b) = _
    rw [cd_append f a b, ← List.append_assoc]; rfl
def cn (f : Nat) (l : List (Tg × Nat)) : List Ins := cd f (nm l)
theorem cn_append (f : Nat) (a b : List (Tg × Nat)) : cn f (a ++ b) = cn f a ++ cn f b := by
  unfold cn nm
  rw [List.map_append, cd_append]
theorem cn_one (f : Nat) (t : Tg) (a : Nat) : cn f [(t, a)] = gCode (pq a) (tgCode f t) := by
  show gCode (pq a) (tgCode f t) ++ [] = _
  rw [List.append_nil]
theorem cn_code (f : Nat) (wt : Bool) (c : Cs) : c.code f wt = cn f (c.segs wt) := rfl
theorem tg_small (f : Nat) (t : Tg) : (tgCode f t).length ≤ 70 := by
  cases t with
  | enter => exact tg_len f 0
  | leave => exact tg_len f 1
  | rest => exact tg_len f 2
  | gone => exact tg_len f 3
  | wait => exact tg_len f 4
  | _ => simp [tgCode]
theorem cn_len (f : Nat) : ∀ l : List (Tg × Nat), (cn f l).length ≤ 70 * l.length
  | [] => Nat.le_refl _
  | x :: l => by
    have h1 := cn_len f l
    have h2 := tg_small f x.1
    show (gCode (pq x.2) (tgCode f x.1) ++ cn f l).length ≤ _
    rw [List.length_append, List.length_cons]
    unfold gCode
    rw [List.length_map]
    omega
theorem wr_succ (f : Nat) (wt : Bool) (j : Nat) : cn f (wrTo wt (j + 1)) = cn f (wrTo wt j) ++ cn f (wrOne wt j) := by
  unfold wrTo
  rw [List.range_succ, List.flatMap_append, cn_append]
  simp
theorem wr_len (f : Nat) (wt : Bool) (j : Nat) : (cn f (wrTo wt j)).length ≤ 280 * j := by
  induction j with
  | zero => exact Nat.le_refl _
  | succ j ih =>
    rw [wr_succ, List.length_append]
    have h := cn_len f (wrOne wt j)
    have h2 : (wrOne wt j).length ≤ 4 := by unfold wrOne; split <;> simp
    omega
theorem add_int {f : Nat} (hf : 1 ≤ f ∧ f ≤ 4) (k : Nat) (hk : k < 5) (ki : Int) (hki : ki = k) (ai : Int) (a : Nat) (hai : ai = a) (ha : a ≤ 99) (w : World) (base : Nat) (v : Value) (L : List Ins) (hv : insOwn w base v L) (hb : base ≤ w.heap.size) (hL : L.length ≤ 1900) :
    Calls Tryz.prog 30 #[v, .int .i64 f, .int .i64 ki, .int .i64 ai] w fun e w' => ∃ v', e = .returned (.tuple #[v', .bool true]) ∧ insOwn w' base v' (L ++ gCode (pq a) (tgCode f (kTg k))) ∧ Below base w w' := by
  subst hki
  subst hai
  exact add_ok hf k hk a ha w base v L hv hb hL

def wMid (j : Nat) : List Ins := [⟨⟨#[97, 108, 108, 111, 99]⟩, 3, 0, 0, spNo⟩, ⟨spConst, 4, (j : Int) + 2, 0, spNo⟩, ⟨spStore, 3, 4, 0, spNo⟩, ⟨⟨#[115, 119, 97, 112]⟩, 3, 5, 0, spNo⟩]
def wFree : List Ins := [⟨⟨#[102, 114, 101, 101]⟩, 3, 0, 0, spNo⟩]
theorem wr_one_t (f j : Nat) : cn f (wrOne true j) = wMid j ++ gCode (pq (j + 1)) (tgCode f .wait) ++ wFree := by
  show cn f ([(.new ((j : Int) + 2), 0), (.pub, 0)] ++ ([(.wait, j + 1)] ++ [(.free, 0)])) = _
  rw [cn_append, cn_append, cn_one, List.append_assoc]
  rfl
theorem wr_one_f (f j : Nat) : cn f (wrOne false j) = wMid j ++ wFree := rfl

set_option maxRecDepth 20000 in
set_option maxHeartbeats 2000000 in
theorem writer_true {f : Nat} (hf : 1 ≤ f ∧ f ≤ 4) (tm : Nat) (htm : tm ≤ 3) (rd : Nat) (ns : Bool) (w : World) :
    Calls Tryz.prog 12 #[.int .i64 f, .int .i64 tm, .bool true] w fun e w' => ∃ v, e = .returned (.tuple #[v, .bool true]) ∧ insOwn w' w.heap.size v (Cs.code f true ⟨true, tm, rd, ns⟩) ∧ Below w.heap.size w w' := by
  have HA := hide (@add_int f hf)
  have HE : Hid (∀ j : Nat, cn f (wrTo true (j + 1)) = cn f (wrTo true j) ++ cn f (wrOne true j)) := hide (wr_succ f true)
  have HLn : Hid (∀ j : Nat, (cn f (wrTo true j)).length ≤ 280 * j) := hide (wr_len f true)
  have HX : Hid (cn f (wrTo true tm) ++ gCode (pq (tm + 1)) (tgCode f .gone) = Cs.code f true ⟨true, tm, rd, ns⟩) := hide (by
    rw [cn_code]
    show _ = cn f (wrTo true tm ++ [(.gone, tm + 1)])
    rw [cn_append, cn_one])
  generalize hfi : (f : Int) = fi at *
  clear hfi hf
  go_enter Tryz.func12, Tryz.ntmps12
  go_wp2_with fail
  go_loopw [8, 9, 10, 11, 12, 13] (fun l g a i _ _ wr => ∃ j : Nat, j ≤ tm ∧ i = .int .i64 j ∧ g = .bool true ∧ a = .int .i64 ((j : Nat) : Int) ∧ Hid (insOwn wr w.heap.size l (cn f (wrTo true j))) ∧ Below w.heap.size w wr) (fun _ _ _ i _ _ _ => tm - (intOf i).toNat)
  case atStart => exact ⟨0, Nat.zero_le _, rfl, rfl, rfl, insOwn_nil _ _, Below.refl _ _⟩
  case round =>
    obtain ⟨j, hj, rfl, rfl, rfl, HO, HB⟩ := hrel
    by_cases hlt : j < tm
    · have ji : (j : Int) < tm := by omega
      have wr2 : IntKind.i64.wrap ((j : Int) + 2) = (j : Int) + 2 := by rw [IntKind.wrap_i64]; omega
      have HS := hide (HE.out j)
      have HL := hide (HLn.out j)
      generalize cn f (wrTo true j) = C at *
      go_wp2_with (at_builtin; refine wpList_append_ins _ rfl _ _ rfl w.heap.size C (wMid j) _ _ _ rfl ?q1 rfl ?q2 (Nat.succ_pos _) ?q3 ?q4 ?_)
      case q1 => exact insOwn_keep HO.out ((Below.refl _ _).alloc (Nat.le_refl _) _)
      case q2 => exact insAt_new rfl
      case q3 => show _ + 4 ≤ 2000; have := HL.out; omega
      case q4 => have := HB.size; simp; omega
      intro v1 w1 ho1 hb1 hs1 hg1 hloc1
      have HO1 := hide ho1
      have HB1 := (HB.alloc HB.size _).trans hb1
      clear ho1 hb1 hs1 hg1 hloc1 HO HB
      go_wp2_with fail
      refine (HA.out 4 (by decide) _ (by rfl) _ (j + 1) (by omega) (by omega) _ w.heap.size _ _ HO1.out HB1.size (by rw [List.length_append]; show _ + 4 ≤ _; have := HL.out; omega)).mono ?_
      rintro e w2 ⟨v2, rfl, ho2, hb2⟩
      have HO2 : Hid (insOwn w2 w.heap.size v2 (C ++ wMid j ++ gCode (pq (j + 1)) (tgCode f .wait))) := hide ho2
      have HB2 := HB1.trans hb2
      have HT : Hid ((gCode (pq (j + 1)) (tgCode f .wait)).length ≤ 70) := hide (by unfold gCode; rw [List.length_map]; exact tg_small f .wait)
      have HS2 : Hid (C ++ wMid j ++ gCode (pq (j + 1)) (tgCode f .wait) ++ wFree = cn f (wrTo true (j + 1))) := hide (by rw [HS.out, wr_one_t]; simp only [List.append_assoc])
      clear ho2 hb2 HO1 HB1 HS
      generalize gCode (pq (j + 1)) (tgCode f .wait) = G at *
      go_wp2_with (at_builtin; refine wpList_append_ins _ rfl _ _ rfl w.heap.size (C ++ wMid j ++ G) wFree _ _ _ rfl ?q1 rfl ?q2 (Nat.succ_pos _) ?q3 ?q4 ?_)
      case q1 => exact insOwn_keep HO2.out ((Below.refl _ _).alloc (Nat.le_refl _) _)
      case q2 => exact insAt_new rfl
      case q3 => rw [List.length_append, List.length_append]; show _ + 4 + _ + 1 ≤ 2000; have := HL.out; have := HT.out; omega
      case q4 => have := HB2.size; simp; omega
      intro v3 w3 ho3 hb3 hs3 hg3 hloc3
      have HO3 : Hid (insOwn w3 w.heap.size v3 (cn f (wrTo true (j + 1)))) := hide (by rw [← HS2.out]; simp only [List.append_assoc] at ho3 ⊢; exact ho3)
      have HB3 := (HB2.alloc HB2.size _).trans hb3
      clear ho3 hb3 hs3 hg3 hloc3 HO2 HB2 HS2
      go_wp2
      go_roundw
      case rel => exact ⟨j + 1, by omega, by go_num, rfl, by go_num, HO3, HB3⟩
      case measure => simp [intOf]; omega
    · obtain rfl : j = tm := by omega
      have HL := hide (HLn.out j)
      go_wp2_with fail
      refine (HA.out 3 (by decide) _ (by rfl) _ (j + 1) (by omega) (by omega) _ w.heap.size _ _ HO.out HB.size (by have := HL.out; omega)).mono ?_
      rintro e w2 ⟨v2, rfl, ho2, hb2⟩
      have HO2 : Hid (insOwn w2 w.heap.size v2 (Cs.code f true ⟨true, j, rd, ns⟩)) := hide (by rw [← HX.out]; exact ho2)
      have HB2 := HB.trans hb2
      clear ho2 hb2 HO HB HX HL
      go_wp2
      go_ret2
      exact ⟨v2, rfl, HO2.out, HB2⟩

set_option maxRecDepth 20000 in
set_option maxHeartbeats 2000000 in
theorem writer_false {f : Nat} (hf : 1 ≤ f ∧ f ≤ 4) (tm : Nat) (htm : tm ≤ 3) (rd : Nat) (ns : Bool) (w : World) :
    Calls Tryz.prog 12 #[.int .i64 f, .int .i64 tm, .bool false] w fun e w' => ∃ v, e = .returned (.tuple #[v, .bool true]) ∧ insOwn w' w.heap.size v (Cs.code f false ⟨true, tm, rd, ns⟩) ∧ Below w.heap.size w w' := by
  have HA := hide (@add_int f hf)
  have HE : Hid (∀ j : Nat, cn f (wrTo false (j + 1)) = cn f (wrTo false j) ++ cn f (wrOne false j)) := hide (wr_succ f false)
  have HLn : Hid (∀ j : Nat, (cn f (wrTo false j)).length ≤ 280 * j) := hide (wr_len f false)
  have HX : Hid (cn f (wrTo false tm) ++ gCode (pq (0 + 1)) (tgCode f .gone) = Cs.code f false ⟨true, tm, rd, ns⟩) := hide (by
    rw [cn_code]
    show _ = cn f (wrTo false tm ++ [(.gone, 1)])
    rw [cn_append, cn_one])
  generalize hfi : (f : Int) = fi at *
  clear hfi hf
  go_enter Tryz.func12, Tryz.ntmps12
  go_wp2_with fail
  go_loopw [8, 9, 10, 11, 12, 13] (fun l g a i _ _ wr => ∃ j : Nat, j ≤ tm ∧ i = .int .i64 j ∧ g = .bool true ∧ a = .int .i64 ((0 : Nat) : Int) ∧ Hid (insOwn wr w.heap.size l (cn f (wrTo false j))) ∧ Below w.heap.size w wr) (fun _ _ _ i _ _ _ => tm - (intOf i).toNat)
  case atStart => exact ⟨0, Nat.zero_le _, rfl, rfl, rfl, insOwn_nil _ _, Below.refl _ _⟩
  case round =>
    obtain ⟨j, hj, rfl, rfl, rfl, HO, HB⟩ := hrel
    by_cases hlt : j < tm
    · have ji : (j : Int) < tm := by omega
      have wr2 : IntKind.i64.wrap ((j : Int) + 2) = (j : Int) + 2 := by rw [IntKind.wrap_i64]; omega
      have HS := hide (HE.out j)
      have HL := hide (HLn.out j)
      generalize cn f (wrTo false j) = C at *
      go_wp2_with (at_builtin; refine wpList_append_ins _ rfl _ _ rfl w.heap.size C (wMid j) _ _ _ rfl ?q1 rfl ?q2 (Nat.succ_pos _) ?q3 ?q4 ?_)
      case q1 => exact insOwn_keep HO.out ((Below.refl _ _).alloc (Nat.le_refl _) _)
      case q2 => exact insAt_new rfl
      case q3 => show _ + 4 ≤ 2000; have := HL.out; omega
      case q4 => have := HB.size; simp; omega
      intro v1 w1 ho1 hb1 hs1 hg1 hloc1
      have HO1 := hide ho1
      have HB1 := (HB.alloc HB.size _).trans hb1
      clear ho1 hb1 hs1 hg1 hloc1 HO HB
      have HS2 : Hid (C ++ wMid j ++ wFree = cn f (wrTo false (j + 1))) := hide (by rw [HS.out, wr_one_f]; simp only [List.append_assoc])
      clear HS
      go_wp2_with (at_builtin; refine wpList_append_ins _ rfl _ _ rfl w.heap.size (C ++ wMid j) wFree _ _ _ rfl ?q1 rfl ?q2 (Nat.succ_pos _) ?q3 ?q4 ?_)
      case q1 => exact insOwn_keep HO1.out ((Below.refl _ _).alloc (Nat.le_refl _) _)
      case q2 => exact insAt_new rfl
      case q3 => rw [List.length_append]; show _ + 4 + 1 ≤ 2000; have := HL.out; omega
      case q4 => have := HB1.size; simp; omega
      intro v3 w3 ho3 hb3 hs3 hg3 hloc3
      have HO3 : Hid (insOwn w3 w.heap.size v3 (cn f (wrTo false (j + 1)))) := hide (by rw [← HS2.out]; simp only [List.append_assoc] at ho3 ⊢; exact ho3)
      have HB3 := (HB1.alloc HB1.size _).trans hb3
      clear ho3 hb3 hs3 hg3 hloc3 HO1 HB1 HS2
      go_wp2
      go_roundw
      case rel => exact ⟨j + 1, by omega, by go_num, rfl, by go_num, HO3, HB3⟩
      case measure => simp [intOf]; omega
    · obtain rfl : j = tm := by omega
      have HL := hide (HLn.out j)
      go_wp2_with fail
      refine (HA.out 3 (by decide) _ (by rfl) _ (0 + 1) (by omega) (by omega) _ w.heap.size _ _ HO.out HB.size (by have := HL.out; omega)).mono ?_
      rintro e w2 ⟨v2, rfl, ho2, hb2⟩
      have HO2 : Hid (insOwn w2 w.heap.size v2 (Cs.code f false ⟨true, j, rd, ns⟩)) := hide (by rw [← HX.out]; exact ho2)
      have HB2 := HB.trans hb2
      clear ho2 hb2 HO HB HX HL
      go_wp2
      go_ret2
      exact ⟨v2, rfl, HO2.out, HB2⟩
end Go.Proofs.YtpjabgdcpogdiaaGreatDoor

/- GdU -/
namespace Go.Proofs.YtpjabgdcpogdiaaGreatDoor
open Go.RowKit Go.Extern.Stop Go.Stop Go.Extern Go.Maps Go.WideMaps Go.Sort

def entC (f a k : Nat) : List Ins := cn f ((List.range k).map fun k => (Tg.enter, a + k + 1))
def levC (f a k : Nat) : List Ins := cn f ((List.range k).map fun k => (Tg.leave, a + k + 1))
def rdsC (f k : Nat) : List Ins := cn f (List.replicate k (Tg.read, 0))
def getI : List Ins := [⟨spLoad, 3, 5, 0, spNo⟩]
def rdI : List Ins := [⟨spLoad, 4, 3, 0, spNo⟩, ⟨⟨#[110, 101, 101, 100]⟩, 4, 0, 0, spNo⟩]
theorem ent_succ (f a k : Nat) : entC f a (k + 1) = entC f a k ++ gCode (pq (a + k + 1)) (tgCode f .enter) := by
  unfold entC
  rw [List.range_succ, List.map_append, cn_append]
  show _ ++ cn f [(Tg.enter, a + k + 1)] = _
  rw [cn_one]
theorem lev_succ (f a k : Nat) : levC f a (k + 1) = levC f a k ++ gCode (pq (a + k + 1)) (tgCode f .leave) := by
  unfold levC
  rw [List.range_succ, List.map_append, cn_append]
  show _ ++ cn f [(Tg.leave, a + k + 1)] = _
  rw [cn_one]
theorem rds_succ (f k : Nat) : rdsC f (k + 1) = rdsC f k ++ rdI := by
  unfold rdsC
  rw [List.replicate_succ', cn_append, cn_one]
  rfl
theorem len_enter (f : Nat) (p : ByteArray) : (gCode p (tgCode f .enter)).length ≤ 25 := by
  unfold gCode
  rw [List.length_map]
  show (gEnter f).length ≤ 25
  unfold gEnter gOuter gJoin
  split <;> (try split) <;> simp
theorem len_leave (f : Nat) (p : ByteArray) : (gCode p (tgCode f .leave)).length ≤ 12 := by
  unfold gCode
  rw [List.length_map]
  show (gLeave f).length ≤ 12
  unfold gLeave gOuter
  split <;> simp
theorem len_rest (f : Nat) (p : ByteArray) : (gCode p (tgCode f .rest)).length ≤ 10 := by
  unfold gCode
  rw [List.length_map]
  show (gRest f).length ≤ 10
  unfold gRest
  split <;> simp
theorem ent_len (f a k : Nat) : (entC f a k).length ≤ 25 * k := by
  induction k with
  | zero => exact Nat.le_refl _
  | succ k ih =>
    have h := len_enter f (pq (a + k + 1))
    rw [ent_succ, List.length_append]; omega
theorem lev_len (f a k : Nat) : (levC f a k).length ≤ 12 * k := by
  induction k with
  | zero => exact Nat.le_refl _
  | succ k ih =>
    have h := len_leave f (pq (a + k + 1))
    rw [lev_succ, List.length_append]; omega
theorem rds_len (f k : Nat) : (rdsC f k).length ≤ 2 * k := by
  induction k with
  | zero => exact Nat.le_refl _
  | succ k ih => rw [rds_succ, List.length_append]; show _ + 2 ≤ _; omega
theorem sect_code (f dp rd a : Nat) : cn f (sect dp rd a) = entC f a dp ++ getI ++ rdsC f rd ++ levC f (a + dp) dp ++ gCode (pq (a + 2 * dp + 1)) (tgCode f .rest) := by
  unfold sect entC levC rdsC
  rw [cn_append, cn_append, cn_append, cn_append, cn_one, cn_one]
  simp only [List.append_assoc]
  rfl
theorem rd_succ (f dp rd j : Nat) : cn f (rdTo dp rd (j + 1)) = cn f (rdTo dp rd j) ++ cn f (sect dp rd (j * (2 * dp + 1))) := by
  unfold rdTo
  rw [List.range_succ, List.flatMap_append, cn_append]
  simp
theorem rd_len (f dp rd j : Nat) (hd : dp ≤ 3) (hr : rd ≤ 5) : (cn f (rdTo dp rd j)).length ≤ 135 * j := by
  induction j with
  | zero => exact Nat.le_refl _
  | succ j ih =>
    have h1 := ent_len f (j * (2 * dp + 1)) dp
    have h2 := rds_len f rd
    have h3 := lev_len f (j * (2 * dp + 1) + dp) dp
    have h4 := len_rest f (pq (j * (2 * dp + 1) + 2 * dp + 1))
    rw [rd_succ, sect_code]
    simp only [List.length_append]
    show _ + (_ + 1 + _ + _ + _) ≤ _
    omega

set_option maxRecDepth 20000 in
set_option maxHeartbeats 4000000 in
theorem reader_false {f : Nat} (hf : 1 ≤ f ∧ f ≤ 4) (tm : Nat) (htm : tm ≤ 3) (rd : Nat) (hrd : rd ≤ 5) (w : World) :
    Calls Tryz.prog 13 #[.int .i64 f, .int .i64 tm, .int .i64 rd, .bool false] w fun e w' => ∃ v, e = .returned (.tuple #[v, .bool true]) ∧ insOwn w' w.heap.size v (Cs.code f true ⟨false, tm, rd, false⟩) ∧ Below w.heap.size w w' := by
  have HA := hide (@add_int f hf)
  have HLn : Hid (∀ j : Nat, (cn f (rdTo 1 rd j)).length ≤ 135 * j) := hide fun j => rd_len f 1 rd j (by decide) hrd
  have HX : Hid (cn f (rdTo 1 rd tm) ++ gCode (pq (tm * 3 + 1)) (tgCode f .gone) = Cs.code f true ⟨false, tm, rd, false⟩) := hide (by
    rw [cn_code]
    show _ = cn f (rdTo 1 rd tm ++ [(.gone, tm * 3 + 1)])
    rw [cn_append, cn_one])
  generalize hfi : (f : Int) = fi at *
  clear hfi hf
  go_enter Tryz.func13, Tryz.ntmps13
  go_wp2_with fail
  go_loopw [10, 11, 12, 13, 14, 15, 16, 17, 18, 19, 20, 21, 22, 23] (fun l g a i _ _ _ _ _ _ _ _ _ _ wr => ∃ j : Nat, j ≤ tm ∧ i = .int .i64 j ∧ g = .bool true ∧ a = .int .i64 ((j * 3 : Nat) : Int) ∧ Hid (insOwn wr w.heap.size l (cn f (rdTo 1 rd j))) ∧ Below w.heap.size w wr) (fun _ _ _ i _ _ _ _ _ _ _ _ _ _ _ => tm - (intOf i).toNat)
  case atStart => exact ⟨0, Nat.zero_le _, rfl, rfl, rfl, insOwn_nil _ _, Below.refl _ _⟩
  case round =>
    obtain ⟨j, hj, rfl, rfl, rfl, HO, HB⟩ := hrel
    by_cases hlt : j < tm
    · have ji : (j : Int) < tm := by omega
      have HS : Hid (cn f (rdTo 1 rd (j + 1)) = cn f (rdTo 1 rd j) ++ (entC f (j * 3) 1 ++ getI ++ rdsC f rd ++ levC f (j * 3 + 1) 1 ++ gCode (pq (j * 3 + 2 + 1)) (tgCode f .rest))) := hide (by rw [rd_succ]; exact congrArg _ (sect_code f 1 rd (j * 3)))
      have HL := hide (HLn.out j)
      have HK : Hid (j * 3 ≤ 6 ∧ (j + 1) * 3 = j * 3 + 2 + 1) := hide (by omega)
      have HO0 : Hid (insOwn wr w.heap.size u10 (cn f (rdTo 1 rd j) ++ entC f (j * 3) 0)) := hide (by rw [show entC f (j * 3) 0 = [] from rfl, List.append_nil]; exact HO.out)
      generalize j * 3 = a at *
      generalize cn f (rdTo 1 rd j) = C at *
      clear HO
      go_wp2_with fail
      go_loopw [10, 11, 12, 15, 16, 17] (fun l g x i _ _ wr => ∃ k : Nat, k ≤ 1 ∧ i = .int .i64 k ∧ g = .bool true ∧ x = .int .i64 ((a + k : Nat) : Int) ∧ Hid (insOwn wr w.heap.size l (C ++ entC f a k)) ∧ Below w.heap.size w wr) (fun _ _ _ i _ _ _ => 1 - (intOf i).toNat)
      case atStart => exact ⟨0, Nat.zero_le _, rfl, rfl, rfl, HO0, HB⟩
      case round =>
        clear HO0 HB
        obtain ⟨k, hk, rfl, rfl, rfl, HO, HB⟩ := hrel
        by_cases hkl : k < 1
        · have ki : (k : Int) < 1 := by omega
          have HE := hide (ent_succ f a k)
          have HEL := hide (ent_len f a k)
          have ha1 : a + k + 1 ≤ 99 := by have := HK.out.1; omega
          generalize entC f a k = E at *
          go_wp2_with fail
          refine (HA.out 0 (by decide) _ (by rfl) _ (a + k + 1) (by omega) ha1 _ w.heap.size _ _ HO.out HB.size (by rw [List.length_append]; have := HL.out; have := HEL.out; omega)).mono ?_
          rintro e w2 ⟨v2, rfl, ho2, hb2⟩
          have HO2 : Hid (insOwn w2 w.heap.size v2 (C ++ entC f a (k + 1))) := hide (by rw [HE.out]; simp only [List.append_assoc] at ho2 ⊢; exact ho2)
          have HB2 := HB.trans hb2
          clear ho2 hb2 HO HB HE HEL ha1
          go_wp2
          go_roundw
          case rel => exact ⟨k + 1, by omega, by go_num, rfl, by go_num, HO2, HB2⟩
          case measure => simp [intOf]; omega
        · have ki : ¬ (k : Int) < 1 := by omega
          have HKE : Hid (k = 1) := hide (by omega)
          have HO1 : Hid (insOwn wr w.heap.size u10 (C ++ entC f a 1)) := hide (by have := HO.out; rwa [HKE.out] at this)
          have HEL := hide (ent_len f a 1)
          generalize entC f a 1 = E at *
          clear HO
          go_wp2_with (at_builtin; refine wpList_append_ins _ rfl _ _ rfl w.heap.size (C ++ E) getI _ _ _ rfl ?q1 rfl ?q2 (Nat.succ_pos _) ?q3 ?q4 ?_)
          case q1 => exact insOwn_keep HO1.out ((Below.refl _ _).alloc (Nat.le_refl _) _)
          case q2 => exact insAt_new rfl
          case q3 => (try simp only [List.length_append]); show _ + 1 ≤ 2000; have := HL.out; have := HEL.out; omega
          case q4 => have := HB.size; simp; omega
          intro v3 w3 ho3 hb3 hs3 hg3 hloc3
          have HO3 : Hid (insOwn w3 w.heap.size v3 (C ++ E ++ getI ++ rdsC f 0)) := hide (by rw [show rdsC f 0 = [] from rfl, List.append_nil]; simp only [List.append_assoc] at ho3 ⊢; exact ho3)
          have HB3 := (HB.alloc HB.size _).trans hb3
          clear ho3 hb3 hs3 hg3 hloc3 HO1 HB
          go_wp2_with fail
          go_loopw [10, 18] (fun l i wr => ∃ r : Nat, r ≤ rd ∧ i = .int .i64 r ∧ Hid (insOwn wr w.heap.size l (C ++ E ++ getI ++ rdsC f r)) ∧ Below w.heap.size w wr) (fun _ i _ => rd - (intOf i).toNat)
          case atStart => exact ⟨0, Nat.zero_le _, rfl, HO3, HB3⟩
          case round =>
            clear HO3 HB3
            obtain ⟨r, hr, rfl, HO, HB⟩ := hrel
            by_cases hrl : r < rd
            · have ri : (r : Int) < rd := by omega
              have HR := hide (rds_succ f r)
              have HRL := hide (rds_len f r)
              generalize rdsC f r = R at *
              go_wp2_with (at_builtin; refine wpList_append_ins _ rfl _ _ rfl w.heap.size (C ++ E ++ getI ++ R) rdI _ _ _ rfl ?q1 rfl ?q2 (Nat.succ_pos _) ?q3 ?q4 ?_)
              case q1 => exact insOwn_keep HO.out ((Below.refl _ _).alloc (Nat.le_refl _) _)
              case q2 => exact insAt_new rfl
              case q3 => simp only [List.length_append]; show _ + 1 + _ + 2 ≤ 2000; have := HL.out; have := HEL.out; have := HRL.out; omega
              case q4 => have := HB.size; simp; omega
              intro v4 w4 ho4 hb4 hs4 hg4 hloc4
              have HO4 : Hid (insOwn w4 w.heap.size v4 (C ++ E ++ getI ++ rdsC f (r + 1))) := hide (by rw [HR.out]; simp only [List.append_assoc] at ho4 ⊢; exact ho4)
              have HB4 := (HB.alloc HB.size _).trans hb4
              clear ho4 hb4 hs4 hg4 hloc4 HO HB HR HRL
              go_wp2
              go_roundw
              case rel => exact ⟨r + 1, by omega, by go_num, HO4, HB4⟩
              case measure => simp [intOf]; omega
            · have ri : ¬ (r : Int) < rd := by omega
              have HO5 : Hid (insOwn wr w.heap.size u10 (C ++ E ++ getI ++ rdsC f rd ++ levC f (a + 1) 0)) := hide (by
                rw [show levC f (a + 1) 0 = [] from rfl, List.append_nil]
                have := HO.out
                rwa [show r = rd by omega] at this)
              have HRL := hide (rds_len f rd)
              generalize rdsC f rd = R at *
              clear HO
              go_wp2_with fail
              go_loopw [10, 11, 12, 19, 20, 21] (fun l g x i _ _ wr => ∃ k : Nat, k ≤ 1 ∧ i = .int .i64 k ∧ g = .bool true ∧ x = .int .i64 ((a + 1 + k : Nat) : Int) ∧ Hid (insOwn wr w.heap.size l (C ++ E ++ getI ++ R ++ levC f (a + 1) k)) ∧ Below w.heap.size w wr) (fun _ _ _ i _ _ _ => 1 - (intOf i).toNat)
              case atStart => exact ⟨0, Nat.zero_le _, rfl, rfl, by rw [HKE.out]; rfl, HO5, HB⟩
              case round =>
                clear HO5 HB
                obtain ⟨k2, hk2, rfl, rfl, rfl, HO, HB⟩ := hrel
                by_cases hkl2 : k2 < 1
                · have ki2 : (k2 : Int) < 1 := by omega
                  have HE2 := hide (lev_succ f (a + 1) k2)
                  have HVL := hide (lev_len f (a + 1) k2)
                  have ha2 : a + 1 + k2 + 1 ≤ 99 := by have := HK.out.1; omega
                  generalize levC f (a + 1) k2 = V at *
                  go_wp2_with fail
                  refine (HA.out 1 (by decide) _ (by rfl) _ (a + 1 + k2 + 1) (by omega) ha2 _ w.heap.size _ _ HO.out HB.size (by simp only [List.length_append]; show _ + 1 + _ + _ ≤ _; have := HL.out; have := HEL.out; have := HRL.out; have := HVL.out; omega)).mono ?_
                  rintro e w6 ⟨v6, rfl, ho6, hb6⟩
                  have HO6 : Hid (insOwn w6 w.heap.size v6 (C ++ E ++ getI ++ R ++ levC f (a + 1) (k2 + 1))) := hide (by rw [HE2.out]; simp only [List.append_assoc] at ho6 ⊢; exact ho6)
                  have HB6 := HB.trans hb6
                  clear ho6 hb6 HO HB HE2 HVL ha2
                  go_wp2
                  go_roundw
                  case rel => exact ⟨k2 + 1, by omega, by go_num, rfl, by go_num, HO6, HB6⟩
                  case measure => simp [intOf]; omega
                · have ki2 : ¬ (k2 : Int) < 1 := by omega
                  have HKE2 : Hid (k2 = 1) := hide (by omega)
                  have HO7 : Hid (insOwn wr w.heap.size u10 (C ++ E ++ getI ++ R ++ levC f (a + 1) 1)) := hide (by have := HO.out; rwa [HKE2.out] at this)
                  have HVL := hide (lev_len f (a + 1) 1)
                  have ha3 : a + 2 + 1 ≤ 99 := by have := HK.out.1; omega
                  generalize levC f (a + 1) 1 = V at *
                  clear HO
                  go_wp2_with fail
                  refine (HA.out 2 (by decide) _ (by rfl) _ (a + 2 + 1) (by have := HKE2.out; omega) ha3 _ w.heap.size _ _ HO7.out HB.size (by simp only [List.length_append]; show _ + 1 + _ + _ ≤ _; have := HL.out; have := HEL.out; have := HRL.out; have := HVL.out; omega)).mono ?_
                  rintro e w8 ⟨v8, rfl, ho8, hb8⟩
                  have HO8 : Hid (insOwn w8 w.heap.size v8 (cn f (rdTo 1 rd (j + 1)))) := hide (by rw [HS.out]; simp only [List.append_assoc] at ho8 ⊢; exact ho8)
                  have HB8 := HB.trans hb8
                  clear ho8 hb8 HO7 HB HS HVL HRL HEL ha3
                  go_wp2
                  go_roundw
                  case rel => exact ⟨j + 1, by omega, by go_num, rfl, by rw [HK.out.2]; have := HKE2.out; go_num, HO8, HB8⟩
                  case measure => simp [intOf]; omega
    · obtain rfl : j = tm := by omega
      have HL := hide (HLn.out j)
      have hg1 : j * 3 + 1 ≤ 99 := by omega
      go_wp2_with fail
      refine (HA.out 3 (by decide) _ (by rfl) _ (j * 3 + 1) (by omega) hg1 _ w.heap.size _ _ HO.out HB.size (by have := HL.out; omega)).mono ?_
      rintro e w2 ⟨v2, rfl, ho2, hb2⟩
      have HO2 : Hid (insOwn w2 w.heap.size v2 (Cs.code f true ⟨false, j, rd, false⟩)) := hide (by rw [← HX.out]; exact ho2)
      have HB2 := HB.trans hb2
      clear ho2 hb2 HO HB HX HL
      go_wp2
      go_ret2
      exact ⟨v2, rfl, HO2.out, HB2⟩
end Go.Proofs.YtpjabgdcpogdiaaGreatDoor

/- GdV -/
namespace Go.Proofs.YtpjabgdcpogdiaaGreatDoor
open Go.RowKit Go.Extern.Stop Go.Stop Go.Extern Go.Maps Go.WideMaps Go.Sort

set_option maxRecDepth 20000 in
set_option maxHeartbeats 4000000 in
theorem reader_true {f : Nat} (hf : 1 ≤ f ∧ f ≤ 4) (tm : Nat) (htm : tm ≤ 3) (rd : Nat) (hrd : rd ≤ 5) (w : World) :
    Calls Tryz.prog 13 #[.int .i64 f, .int .i64 tm, .int .i64 rd, .bool true] w fun e w' => ∃ v, e = .returned (.tuple #[v, .bool true]) ∧ insOwn w' w.heap.size v (Cs.code f true ⟨false, tm, rd, true⟩) ∧ Below w.heap.size w w' := by
  have HA := hide (@add_int f hf)
  have HLn : Hid (∀ j : Nat, (cn f (rdTo 3 rd j)).length ≤ 135 * j) := hide fun j => rd_len f 3 rd j (by decide) hrd
  have HX : Hid (cn f (rdTo 3 rd tm) ++ gCode (pq (tm * 7 + 1)) (tgCode f .gone) = Cs.code f true ⟨false, tm, rd, true⟩) := hide (by
    rw [cn_code]
    show _ = cn f (rdTo 3 rd tm ++ [(.gone, tm * 7 + 1)])
    rw [cn_append, cn_one])
  generalize hfi : (f : Int) = fi at *
  clear hfi hf
  go_enter Tryz.func13, Tryz.ntmps13
  go_wp2_with fail
  go_loopw [10, 11, 12, 13, 14, 15, 16, 17, 18, 19, 20, 21, 22, 23] (fun l g a i _ _ _ _ _ _ _ _ _ _ wr => ∃ j : Nat, j ≤ tm ∧ i = .int .i64 j ∧ g = .bool true ∧ a = .int .i64 ((j * 7 : Nat) : Int) ∧ Hid (insOwn wr w.heap.size l (cn f (rdTo 3 rd j))) ∧ Below w.heap.size w wr) (fun _ _ _ i _ _ _ _ _ _ _ _ _ _ _ => tm - (intOf i).toNat)
  case atStart => exact ⟨0, Nat.zero_le _, rfl, rfl, rfl, insOwn_nil _ _, Below.refl _ _⟩
  case round =>
    obtain ⟨j, hj, rfl, rfl, rfl, HO, HB⟩ := hrel
    by_cases hlt : j < tm
    · have ji : (j : Int) < tm := by omega
      have HS : Hid (cn f (rdTo 3 rd (j + 1)) = cn f (rdTo 3 rd j) ++ (entC f (j * 7) 3 ++ getI ++ rdsC f rd ++ levC f (j * 7 + 3) 3 ++ gCode (pq (j * 7 + 6 + 1)) (tgCode f .rest))) := hide (by rw [rd_succ]; exact congrArg _ (sect_code f 3 rd (j * 7)))
      have HL := hide (HLn.out j)
      have HK : Hid (j * 7 ≤ 14 ∧ (j + 1) * 7 = j * 7 + 6 + 1) := hide (by omega)
      have HO0 : Hid (insOwn wr w.heap.size u10 (cn f (rdTo 3 rd j) ++ entC f (j * 7) 0)) := hide (by rw [show entC f (j * 7) 0 = [] from rfl, List.append_nil]; exact HO.out)
      generalize j * 7 = a at *
      generalize cn f (rdTo 3 rd j) = C at *
      clear HO
      go_wp2_with fail
      go_loopw [10, 11, 12, 15, 16, 17] (fun l g x i _ _ wr => ∃ k : Nat, k ≤ 3 ∧ i = .int .i64 k ∧ g = .bool true ∧ x = .int .i64 ((a + k : Nat) : Int) ∧ Hid (insOwn wr w.heap.size l (C ++ entC f a k)) ∧ Below w.heap.size w wr) (fun _ _ _ i _ _ _ => 3 - (intOf i).toNat)
      case atStart => exact ⟨0, Nat.zero_le _, rfl, rfl, rfl, HO0, HB⟩
      case round =>
        clear HO0 HB
        obtain ⟨k, hk, rfl, rfl, rfl, HO, HB⟩ := hrel
        by_cases hkl : k < 3
        · have ki : (k : Int) < 3 := by omega
          have HE := hide (ent_succ f a k)
          have HEL := hide (ent_len f a k)
          have ha1 : a + k + 1 ≤ 99 := by have := HK.out.1; omega
          generalize entC f a k = E at *
          go_wp2_with fail
          refine (HA.out 0 (by decide) _ (by rfl) _ (a + k + 1) (by omega) ha1 _ w.heap.size _ _ HO.out HB.size (by rw [List.length_append]; have := HL.out; have := HEL.out; omega)).mono ?_
          rintro e w2 ⟨v2, rfl, ho2, hb2⟩
          have HO2 : Hid (insOwn w2 w.heap.size v2 (C ++ entC f a (k + 1))) := hide (by rw [HE.out]; simp only [List.append_assoc] at ho2 ⊢; exact ho2)
          have HB2 := HB.trans hb2
          clear ho2 hb2 HO HB HE HEL ha1
          go_wp2
          go_roundw
          case rel => exact ⟨k + 1, by omega, by go_num, rfl, by go_num, HO2, HB2⟩
          case measure => simp [intOf]; omega
        · have ki : ¬ (k : Int) < 3 := by omega
          have HKE : Hid (k = 3) := hide (by omega)
          have HO1 : Hid (insOwn wr w.heap.size u10 (C ++ entC f a 3)) := hide (by have := HO.out; rwa [HKE.out] at this)
          have HEL := hide (ent_len f a 3)
          generalize entC f a 3 = E at *
          clear HO
          go_wp2_with (at_builtin; refine wpList_append_ins _ rfl _ _ rfl w.heap.size (C ++ E) getI _ _ _ rfl ?q1 rfl ?q2 (Nat.succ_pos _) ?q3 ?q4 ?_)
          case q1 => exact insOwn_keep HO1.out ((Below.refl _ _).alloc (Nat.le_refl _) _)
          case q2 => exact insAt_new rfl
          case q3 => (try simp only [List.length_append]); show _ + 1 ≤ 2000; have := HL.out; have := HEL.out; omega
          case q4 => have := HB.size; simp; omega
          intro v3 w3 ho3 hb3 hs3 hg3 hloc3
          have HO3 : Hid (insOwn w3 w.heap.size v3 (C ++ E ++ getI ++ rdsC f 0)) := hide (by rw [show rdsC f 0 = [] from rfl, List.append_nil]; simp only [List.append_assoc] at ho3 ⊢; exact ho3)
          have HB3 := (HB.alloc HB.size _).trans hb3
          clear ho3 hb3 hs3 hg3 hloc3 HO1 HB
          go_wp2_with fail
          go_loopw [10, 18] (fun l i wr => ∃ r : Nat, r ≤ rd ∧ i = .int .i64 r ∧ Hid (insOwn wr w.heap.size l (C ++ E ++ getI ++ rdsC f r)) ∧ Below w.heap.size w wr) (fun _ i _ => rd - (intOf i).toNat)
          case atStart => exact ⟨0, Nat.zero_le _, rfl, HO3, HB3⟩
          case round =>
            clear HO3 HB3
            obtain ⟨r, hr, rfl, HO, HB⟩ := hrel
            by_cases hrl : r < rd
            · have ri : (r : Int) < rd := by omega
              have HR := hide (rds_succ f r)
              have HRL := hide (rds_len f r)
              generalize rdsC f r = R at *
              go_wp2_with (at_builtin; refine wpList_append_ins _ rfl _ _ rfl w.heap.size (C ++ E ++ getI ++ R) rdI _ _ _ rfl ?q1 rfl ?q2 (Nat.succ_pos _) ?q3 ?q4 ?_)
              case q1 => exact insOwn_keep HO.out ((Below.refl _ _).alloc (Nat.le_refl _) _)
              case q2 => exact insAt_new rfl
              case q3 => simp only [List.length_append]; show _ + 1 + _ + 2 ≤ 2000; have := HL.out; have := HEL.out; have := HRL.out; omega
              case q4 => have := HB.size; simp; omega
              intro v4 w4 ho4 hb4 hs4 hg4 hloc4
              have HO4 : Hid (insOwn w4 w.heap.size v4 (C ++ E ++ getI ++ rdsC f (r + 1))) := hide (by rw [HR.out]; simp only [List.append_assoc] at ho4 ⊢; exact ho4)
              have HB4 := (HB.alloc HB.size _).trans hb4
              clear ho4 hb4 hs4 hg4 hloc4 HO HB HR HRL
              go_wp2
              go_roundw
              case rel => exact ⟨r + 1, by omega, by go_num, HO4, HB4⟩
              case measure => simp [intOf]; omega
            · have ri : ¬ (r : Int) < rd := by omega
              have HO5 : Hid (insOwn wr w.heap.size u10 (C ++ E ++ getI ++ rdsC f rd ++ levC f (a + 3) 0)) := hide (by
                rw [show levC f (a + 3) 0 = [] from rfl, List.append_nil]
                have := HO.out
                rwa [show r = rd by omega] at this)
              have HRL := hide (rds_len f rd)
              generalize rdsC f rd = R at *
              clear HO
              go_wp2_with fail
              go_loopw [10, 11, 12, 19, 20, 21] (fun l g x i _ _ wr => ∃ k : Nat, k ≤ 3 ∧ i = .int .i64 k ∧ g = .bool true ∧ x = .int .i64 ((a + 3 + k : Nat) : Int) ∧ Hid (insOwn wr w.heap.size l (C ++ E ++ getI ++ R ++ levC f (a + 3) k)) ∧ Below w.heap.size w wr) (fun _ _ _ i _ _ _ => 3 - (intOf i).toNat)
              case atStart => exact ⟨0, Nat.zero_le _, rfl, rfl, by rw [HKE.out]; rfl, HO5, HB⟩
              case round =>
                clear HO5 HB
                obtain ⟨k2, hk2, rfl, rfl, rfl, HO, HB⟩ := hrel
                by_cases hkl2 : k2 < 3
                · have ki2 : (k2 : Int) < 3 := by omega
                  have HE2 := hide (lev_succ f (a + 3) k2)
                  have HVL := hide (lev_len f (a + 3) k2)
                  have ha2 : a + 3 + k2 + 1 ≤ 99 := by have := HK.out.1; omega
                  generalize levC f (a + 3) k2 = V at *
                  go_wp2_with fail
                  refine (HA.out 1 (by decide) _ (by rfl) _ (a + 3 + k2 + 1) (by omega) ha2 _ w.heap.size _ _ HO.out HB.size (by simp only [List.length_append]; show _ + 1 + _ + _ ≤ _; have := HL.out; have := HEL.out; have := HRL.out; have := HVL.out; omega)).mono ?_
                  rintro e w6 ⟨v6, rfl, ho6, hb6⟩
                  have HO6 : Hid (insOwn w6 w.heap.size v6 (C ++ E ++ getI ++ R ++ levC f (a + 3) (k2 + 1))) := hide (by rw [HE2.out]; simp only [List.append_assoc] at ho6 ⊢; exact ho6)
                  have HB6 := HB.trans hb6
                  clear ho6 hb6 HO HB HE2 HVL ha2
                  go_wp2
                  go_roundw
                  case rel => exact ⟨k2 + 1, by omega, by go_num, rfl, by go_num, HO6, HB6⟩
                  case measure => simp [intOf]; omega
                · have ki2 : ¬ (k2 : Int) < 3 := by omega
                  have HKE2 : Hid (k2 = 3) := hide (by omega)
                  have HO7 : Hid (insOwn wr w.heap.size u10 (C ++ E ++ getI ++ R ++ levC f (a + 3) 3)) := hide (by have := HO.out; rwa [HKE2.out] at this)
                  have HVL := hide (lev_len f (a + 3) 3)
                  have ha3 : a + 6 + 1 ≤ 99 := by have := HK.out.1; omega
                  generalize levC f (a + 3) 3 = V at *
                  clear HO
                  go_wp2_with fail
                  refine (HA.out 2 (by decide) _ (by rfl) _ (a + 6 + 1) (by have := HKE2.out; omega) ha3 _ w.heap.size _ _ HO7.out HB.size (by simp only [List.length_append]; show _ + 1 + _ + _ ≤ _; have := HL.out; have := HEL.out; have := HRL.out; have := HVL.out; omega)).mono ?_
                  rintro e w8 ⟨v8, rfl, ho8, hb8⟩
                  have HO8 : Hid (insOwn w8 w.heap.size v8 (cn f (rdTo 3 rd (j + 1)))) := hide (by rw [HS.out]; simp only [List.append_assoc] at ho8 ⊢; exact ho8)
                  have HB8 := HB.trans hb8
                  clear ho8 hb8 HO7 HB HS HVL HRL HEL ha3
                  go_wp2
                  go_roundw
                  case rel => exact ⟨j + 1, by omega, by go_num, rfl, by rw [HK.out.2]; have := HKE2.out; go_num, HO8, HB8⟩
                  case measure => simp [intOf]; omega
    · obtain rfl : j = tm := by omega
      have HL := hide (HLn.out j)
      have hg1 : j * 7 + 1 ≤ 99 := by omega
      go_wp2_with fail
      refine (HA.out 3 (by decide) _ (by rfl) _ (j * 7 + 1) (by omega) hg1 _ w.heap.size _ _ HO.out HB.size (by have := HL.out; omega)).mono ?_
      rintro e w2 ⟨v2, rfl, ho2, hb2⟩
      have HO2 : Hid (insOwn w2 w.heap.size v2 (Cs.code f true ⟨false, j, rd, true⟩)) := hide (by rw [← HX.out]; exact ho2)
      have HB2 := HB.trans hb2
      clear ho2 hb2 HO HB HX HL
      go_wp2
      go_ret2
      exact ⟨v2, rfl, HO2.out, HB2⟩
end Go.Proofs.YtpjabgdcpogdiaaGreatDoor

/- GeA -/
namespace Go.Proofs.YtpjabgdcpogdiaaGreatDoor
open Go.RowKit Go.Extern.Stop Go.Stop Go.Extern Go.Maps Go.WideMaps Go.Sort

structure CP (base : Nat) (w1 : World) (v : Value) (vs : List Value) (Ls : List (List Ins)) (w : World) : Prop where
  own : w.ownsRow base 37 1 v Ls.length vs
  el : ∀ (i : Nat) L, Ls[i]? = some L → ∃ u, vs[i]? = some u ∧ insOwn w base u L ∧ ∀ b, u.ownBlock = some b → v.ownBlock ≠ some b
  low : Below base w1 w
  bz : base ≤ w.heap.size
section
variable {base : Nat} {w1 : World} {v : Value} {vs : List Value} {Ls : List (List Ins)} {w w' : World}
theorem CP.nil (h : Below base w1 w) (hb : base ≤ w.heap.size) : CP base w1 (.slice none 0 0) [] [] w := ⟨World.ownsRow_nil _ _ _ _, fun i L hi => by simp at hi, h, hb⟩
theorem CP.below (h : CP base w1 v vs Ls w) (k : Below w.heap.size w w') : CP base w1 v vs Ls w' :=
  ⟨ownsRow_block h.own (fun b hb => k.block b (h.own.lt b hb).2), fun i L hi => by obtain ⟨u, h1, h2, h3⟩ := h.el i L hi; exact ⟨u, h1, insOwn_keep h2 k, h3⟩, h.low.trans (k.mono h.bz), Nat.le_trans h.bz k.size⟩
theorem CP.add (h : CP base w1 v vs Ls w) {u : Value} {L : List Ins} (hu : insOwn w base u L) (hne : ∀ b, u.ownBlock = some b → v.ownBlock ≠ some b) {v' : Value} {N : Nat} (hN : w.heap.size ≤ N)
    (ho : w'.ownsRow base 37 1 v' (Ls.length + 1) (vs ++ [u])) (hg : w.grownBy w' v.ownBlock) (hloc : v'.ownBlock = v.ownBlock ∨ v'.ownBlock = some N) : CP base w1 v' (vs ++ [u]) (Ls ++ [L]) w' := by
  have hB : Below base w w' := (Below.refl base w).grown hg h.bz (fun k hk => (h.own.lt k hk).1)
  have nb : ∀ b, b < w.heap.size → v.ownBlock ≠ some b → v'.ownBlock ≠ some b := fun b hb hne e => by
    rcases hloc with h1 | h1
    · rw [h1] at e; exact hne e
    · rw [h1] at e
      have := Option.some.inj e
      omega
  have kn : ∀ {u : Value} {L : List Ins}, insOwn w base u L → (∀ b, u.ownBlock = some b → v.ownBlock ≠ some b) → insOwn w' base u L ∧ ∀ b, u.ownBlock = some b → v'.ownBlock ≠ some b := fun {u L} h1 h2 => by
    refine ⟨insOwn_kept h1 hg ?_, fun b e => nb b (World.ownsRow.lt h1 b e).2 (h2 b e)⟩
    cases hr : u.ownBlock with
    | none => exact .inl rfl
    | some b => exact .inr fun e => h2 b hr e.symm
  have lv : vs.length = Ls.length := by have := h.own.1; omega
  refine ⟨by rw [List.length_append]; exact ho, fun i M hi => ?_, h.low.trans hB, Nat.le_trans h.bz hB.size⟩
  by_cases hlt : i < Ls.length
  · rw [List.getElem?_append_left hlt] at hi
    obtain ⟨x, h1, h2, h3⟩ := h.el i M hi
    exact ⟨x, by rw [List.getElem?_append_left (by omega)]; exact h1, (kn h2 h3).1, (kn h2 h3).2⟩
  · rw [List.getElem?_append_right (by omega)] at hi
    have hi0 : i - Ls.length = 0 := by
      have := (List.getElem?_eq_some_iff.1 hi).1
      simp at this; omega
    rw [hi0] at hi
    cases hi
    exact ⟨u, by rw [List.getElem?_append_right (by omega), lv, hi0]; rfl, (kn hu hne).1, (kn hu hne).2⟩
theorem CP.codes (h : CP base w1 v vs Ls w) : ∃ ad cap, v = .slice ad Ls.length cap ∧ codesAt ad Ls w := by
  obtain ⟨ad, cap, e2, g1, g2, g3⟩ := ownsRow_shape h.own
  refine ⟨ad, cap, e2, fun t L ht => ?_⟩
  obtain ⟨u, h1, h2, -⟩ := h.el t L ht
  obtain ⟨g, eg, cg⟩ := g3 t u h1
  obtain ⟨adl, capl, eu, k1, k2, k3⟩ := insAt_of_icells h2
  refine ⟨g, 0, adl, capl, eg, by rw [Nat.zero_add, cg, eu], k1, k3, fun en => ?_⟩
  rcases h2.2 with ⟨e4, e5⟩ | ⟨gg, cc, cur, e4, _⟩
  · exact List.length_eq_zero_iff.1 e5
  · rw [eu] at e4
    cases e4
    cases en
end

theorem writer_ok {f : Nat} (hf : 1 ≤ f ∧ f ≤ 4) (wt : Bool) (tm : Nat) (htm : tm ≤ 3) (rd : Nat) (ns : Bool) (w : World) :
    Calls Tryz.prog 12 #[.int .i64 f, .int .i64 tm, .bool wt] w fun e w' => ∃ v, e = .returned (.tuple #[v, .bool true]) ∧ insOwn w' w.heap.size v (Cs.code f wt ⟨true, tm, rd, ns⟩) ∧ Below w.heap.size w w' := by
  cases wt
  · exact writer_false hf tm htm rd ns w
  · exact writer_true hf tm htm rd ns w
theorem reader_ok {f : Nat} (hf : 1 ≤ f ∧ f ≤ 4) (wt : Bool) (tm : Nat) (htm : tm ≤ 3) (rd : Nat) (hrd : rd ≤ 5) (ns : Bool) (w : World) :
    Calls Tryz.prog 13 #[.int .i64 f, .int .i64 tm, .int .i64 rd, .bool ns] w fun e w' => ∃ v, e = .returned (.tuple #[v, .bool true]) ∧ insOwn w' w.heap.size v (Cs.code f wt ⟨false, tm, rd, ns⟩) ∧ Below w.heap.size w w' := by
  rw [Cs.code_r f wt true]
  cases ns
  · exact reader_false hf tm htm rd hrd w
  · exact reader_true hf tm htm rd hrd w

theorem gcFault {f : Nat} (hf : 1 ≤ f ∧ f ≤ 4) (wt : Bool) {cast : List Cs} (h : ∀ c ∈ cast, c.ok) (h1 : 1 ≤ cast.length) (h6 : cast.length ≤ 6) : (gcSta f cast.length).fault (cast.map (Cs.code f wt)) = (0, -1) := by
  unfold Sta.fault
  rw [List.length_map, if_pos ⟨(by show (1 : Int) ≤ 30; decide), (by show (30 : Int) ≤ 64; decide), h1, h6, gc_fits h1 h6 hf⟩]
  refine codesFrom_none _ 0 fun t L ht => ?_
  rw [List.getElem?_map] at ht
  cases hc : cast[t]? with
  | none => rw [hc] at ht; cases ht
  | some c => rw [hc] at ht; cases ht; rw [Cs.good hf wt (h c (List.mem_of_getElem? hc))]
theorem gcSta_init (f n : Nat) : (gcSta f n).init.length = n + 3 := gcInit_len f n
theorem gcSta_regs (f n : Nat) : (gcSta f n).regs.length = n := by show ((List.range n).map (gcRegs n)).length = n; simp
theorem gcStart_ok {f : Nat} (hf : 1 ≤ f ∧ f ≤ 4) (wt : Bool) {cast : List Cs} (h : ∀ c ∈ cast, c.ok) {n : Nat} (hn : cast.length = n) (h1 : 1 ≤ n) (h6 : n ≤ 6) {ai ar ad : Option Addr} {ci cr cap : Nat} {w : World} (hs : StaAt (gcSta f n) ⟨ai, ci, ar, cr⟩ w) (hl : codesAt ad (cast.map (Cs.code f wt)) w) :
    Calls Tryz.prog 14 #[.agg #[.int .i64 30, .slice ai (n + 3) ci, .slice ar n cr], .slice ad n cap] w fun e w' => e = .returned (.agg #[.int .i64 0, .int .i64 (-1)]) ∧ Below w.heap.size w w' := by
  subst hn
  have h := startFault_any (cap := cap) hs hl (by rw [List.length_map]; omega)
  rw [gcFault hf wt ‹_› h1 h6, gcSta_init, gcSta_regs, List.length_map] at h
  exact h
theorem gcNew {f : Nat} (hf : 1 ≤ f ∧ f ≤ 4) (wt : Bool) {cast : List Cs} (h : ∀ c ∈ cast, c.ok) {n : Nat} (hn : cast.length = n) (h1 : 1 ≤ n) (h6 : n ≤ 6) {ai ar ad : Option Addr} {ci cr cap : Nat} {w0 w : World} (h0 : Below w0.heap.size w0 w) (hs : StaAt (gcSta f n) ⟨ai, ci, ar, cr⟩ w) (hl : codesAt ad (cast.map (Cs.code f wt)) w0) :
    Calls Tryz.prog 15 #[.agg #[.int .i64 30, .slice ai (n + 3) ci, .slice ar n cr], .slice ad n cap] w fun e w' => ∃ p : RkPl, e = .returned (.pointer (some ⟨p.k, 0, none⟩)) ∧ Hid (RkX (cast.map (Cs.code f wt)) p (gcM f n) 1 w' ∧ Below w.heap.size w w' ∧ ∀ b, p.fp n (gcM f n).mem b → w.heap.size ≤ b) := by
  subst hn
  have hl' : (cast.map (Cs.code f wt)).length = cast.length := List.length_map _
  have h' := newMachine_any (cap := cap) h0 hs hl (show (1 : Int) ≤ 30 by decide) (show (30 : Int) ≤ 64 by decide) (by rw [hl']; exact h1) (by rw [hl']; exact h6) (by rw [hl']; exact gc_fits h1 h6 hf)
  rw [gcSta_init, gcSta_regs, hl'] at h'
  refine h'.mono ?_
  rintro e w' ⟨p, he, hh⟩
  obtain ⟨g1, -, g3, g4⟩ := hh.out
  exact ⟨p, he, hide ⟨⟨g1, by rw [hl']; exact gc_ok h1 h6 hf, casts_right hf wt h h1 h6, by decide⟩, g3, g4⟩⟩
end Go.Proofs.YtpjabgdcpogdiaaGreatDoor
