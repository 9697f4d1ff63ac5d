import Derived.Test.YtoialadjpcdbaaaGreatDoorA33
import Derived.Test.YtoialadjpcdbaaaGreatDoorA34

/- ClB -/
namespace Go.Proofs.YtoialadjpcdbaaaGreatDoor
open Go.RowKit Go.Extern.Stop Go.Stop Go.Extern Go.Maps Go.WideMaps Go.Sort

def txtsAt (ad : Option Addr) (l : List ByteArray) (w : World) : Prop := ∀ (i : Nat) x, l[i]? = some x → ∃ b off, ad = some ⟨b, off, none⟩ ∧ w.cell? ⟨b, off + i, none⟩ = some (.string x)
def anyTo (k : ByteArray) (l : List ByteArray) (j : Nat) : Bool := (l.take j).any fun s => k.toList == s.toList
theorem anyTo_succ {k : ByteArray} {l : List ByteArray} {j : Nat} {s : ByteArray} (h : l[j]? = some s) : anyTo k l (j + 1) = (anyTo k l j || (k.toList == s.toList)) := by
  unfold anyTo
  rw [List.take_add_one, h, List.any_append]
  simp
set_option maxRecDepth 20000 in
set_option maxHeartbeats 1000000 in
theorem index_any {ad : Option Addr} {l : List ByteArray} {cap : Nat} (k : ByteArray) {w : World} (h : txtsAt ad l w) (hl : l.length ≤ 100) :
    Calls Tryz.prog 127 #[.slice ad l.length cap, .string k] w fun e w' => ∃ r : Int, e = .returned (.int .i64 r) ∧ decide (0 ≤ r) = anyTo k l l.length ∧ w' = w := by
  have HH := hide h
  obtain ⟨n, hn⟩ : ∃ n, Hid (l.length = n) := ⟨_, hide rfl⟩
  rw [hn.out] at hl ⊢
  clear h
  go_enter Tryz.func127, Tryz.ntmps127
  go_wp2_with fail
  go_loopw [5, 8] (fun _ i wr => ∃ j : Nat, j ≤ n ∧ i = .int .i64 j ∧ Hid (anyTo k l j = false) ∧ w = wr) (fun _ i _ => n - (intOf i).toNat)
  case atStart => exact ⟨0, Nat.zero_le _, rfl, hide rfl, (by first | rfl | trivial)⟩
  case round =>
    obtain ⟨j, hj, rfl, HA, rfl⟩ := hrel
    by_cases hlt : j < n
    · have ji : (j : Int) < n := by omega
      obtain ⟨s, hs⟩ : ∃ s, l[j]? = some s := ⟨_, List.getElem?_eq_getElem (by rw [hn.out]; exact hlt)⟩
      obtain ⟨b, off, rfl, c0⟩ := HH.out j s hs
      have HS := hide (anyTo_succ (k := k) hs)
      have hmono : ∀ m, j + 1 ≤ m → anyTo k l (j + 1) = true → anyTo k l m = true := fun m hm he => by
        unfold anyTo at he ⊢
        rw [List.any_eq_true] at he ⊢
        obtain ⟨x, hx, hp⟩ := he
        exact ⟨x, (List.take_subset_take_left _ hm) hx, hp⟩
      have HM := hide hmono
      clear hs hmono
      cases he : (k.toList == s.toList)
      · have HA2 : Hid (anyTo k l (j + 1) = false) := hide (by rw [HS.out, HA.out, he]; rfl)
        clear HS HA HM
        go_wp2_with fail
        go_roundw
        case rel => exact ⟨j + 1, by omega, by go_num, HA2, (by first | rfl | trivial)⟩
        case measure => simp [intOf]; omega
      · have HA2 : Hid (anyTo k l n = true) := hide (HM.out n (by omega) (by rw [HS.out, he, Bool.or_true]))
        clear HS HA HM
        go_wp2_with fail
        go_ret
        exact ⟨j, rfl, by rw [HA2.out]; exact decide_eq_true (by omega), rfl⟩
    · obtain rfl : j = n := by omega
      go_wp2_with fail
      go_ret
      exact ⟨-1, rfl, by rw [HA.out]; rfl, rfl⟩
set_option maxRecDepth 20000 in
theorem contains_any {ad : Option Addr} {l : List ByteArray} {cap : Nat} (k : ByteArray) {w : World} (h : txtsAt ad l w) (hl : l.length ≤ 100) :
    Calls Tryz.prog 102 #[.slice ad l.length cap, .string k] w fun e w' => e = .returned (.bool (anyTo k l l.length)) ∧ w' = w := by
  have HI := hide (index_any (cap := cap) k h hl)
  clear h
  generalize anyTo k l l.length = B at *
  go_enter Tryz.func102, Tryz.ntmps102
  go_wp2_with fail
  refine HI.out.mono ?_
  rintro e w2 ⟨r, rfl, hr, rfl⟩
  go_wp2_with fail
  go_ret
  refine ⟨?_, rfl⟩
  rw [← hr]
  rfl

def clKinds : List ByteArray := [⟨#[101, 110, 116, 101, 114]⟩, ⟨#[108, 101, 97, 118, 101]⟩, ⟨#[114, 101, 115, 116]⟩, ⟨#[119, 97, 105, 116]⟩, ⟨#[114, 101, 97, 100]⟩, ⟨#[100, 114, 111, 112]⟩, ⟨#[108, 97, 116, 101, 114]⟩, ⟨#[102, 108, 117, 115, 104]⟩]
theorem clKinds_any (k : ByteArray) : anyTo k clKinds 8 = decide (2 ≤ kn k.toList) := by
  have e : anyTo k clKinds 8 = ((k.toList == [101, 110, 116, 101, 114]) || (k.toList == [108, 101, 97, 118, 101]) || (k.toList == [114, 101, 115, 116]) || (k.toList == [119, 97, 105, 116]) || (k.toList == [114, 101, 97, 100]) || (k.toList == [100, 114, 111, 112]) || (k.toList == [108, 97, 116, 101, 114]) || (k.toList == [102, 108, 117, 115, 104])) := by
    unfold anyTo clKinds
    simp only [List.take_succ_cons, List.take_zero, List.any_cons, List.any_nil, Bool.or_false, toList_bl, Bool.or_assoc]
  rw [e]
  clear e
  rcases kcases k.toList with ⟨h, hk⟩ | ⟨h, hk⟩ | ⟨h, hk⟩ | ⟨h, hk⟩ | ⟨h, hk⟩ | ⟨h, hk⟩ | ⟨h, hk⟩ | ⟨h, hk⟩ | ⟨h, hk⟩ | ⟨h, hk⟩
  all_goals
    rw [hk]
    obtain ⟨e1, e2, e3, e4, e5, e6, e7, e8, e9⟩ := h
    simp only [e2, e3, e4, e5, e6, e7, e8, e9]
    try rfl
def shErr (i : Nat) (n : Int) : Nat := if i = 1 then (if n < 1 ∨ 1000 < n then 2 else 0) else (if n ≠ 0 ∨ i = 0 then 3 else 0)
set_option maxRecDepth 20000 in
set_option maxHeartbeats 4000000 in
theorem tshape_any {a : Nat → Addr} (k : ByteArray) (n : Int) {b c : Nat} {w : World} (hE : Env a w) (ht : txtsAt (some ⟨b, 0, none⟩) clKinds w) :
    Calls Tryz.prog 58 #[.agg #[.string k, .int .i64 n], .string ⟨#[112, 117, 116]⟩, .slice (some ⟨b, 0, none⟩) 8 c] w fun e w' => e = .returned (errVal a (shErr (kn k.toList) n)) ∧ Below w.heap.size w w' := by
  have hB : Below w.heap.size w (w.alloc (.cells #[.string k, .int .i64 n] 71)) := (Below.refl _ _).alloc (Nat.le_refl _) _
  have g1 : (w.alloc (.cells #[.string k, .int .i64 n] 71)).cell? ⟨1, 0, none⟩ = some (errAt (a 1)) := keep_cell hB (hE.cell 1 (by decide))
  have g2 : (w.alloc (.cells #[.string k, .int .i64 n] 71)).cell? ⟨2, 0, none⟩ = some (errAt (a 2)) := keep_cell hB (hE.cell 2 (by decide))
  have htB : txtsAt (some ⟨b, 0, none⟩) clKinds (w.alloc (.cells #[.string k, .int .i64 n] 71)) := fun i x hx => by
    obtain ⟨b', off, e, hc⟩ := ht i x hx
    exact ⟨b', off, e, keep_cell hB hc⟩
  have hct := contains_any (cap := c) k htB (show 8 ≤ 100 by decide)
  rw [show clKinds.length = 8 from rfl, clKinds_any] at hct
  have HC := hide hct
  have hd : n < 1 ∨ ¬ n < 1 ∧ (1000 < n ∨ ¬ 1000 < n) := by omega
  have hz : (n != 0) = true ∧ n ≠ 0 ∨ n = 0 := by
    by_cases e : n = 0
    · exact .inr e
    · exact .inl ⟨by simpa using e, e⟩
  clear hE ht htB hct
  by_cases h1 : kn k.toList = 1
  · have hk1 : (k.toList == [112, 117, 116]) = true := by
      rcases kcases k.toList with ⟨h, hk⟩ | ⟨h, hk⟩ | ⟨h, hk⟩ | ⟨h, hk⟩ | ⟨h, hk⟩ | ⟨h, hk⟩ | ⟨h, hk⟩ | ⟨h, hk⟩ | ⟨h, hk⟩ | ⟨h, hk⟩
      · exact h.1
      all_goals (rw [hk] at h1; exact absurd h1 (by decide))
    rw [h1]
    clear h1 HC
    rcases hd with d1 | ⟨d1, d2 | d2⟩
    all_goals
      go_enter Tryz.func58, Tryz.ntmps58
      go_wp2_with fail
      go_ret
      refine ⟨?_, hB⟩
      first
        | (rw [show shErr 1 n = 2 by unfold shErr; rw [if_pos rfl, if_pos (by omega)]]; rfl)
        | (rw [show shErr 1 n = 0 by unfold shErr; rw [if_pos rfl, if_neg (by omega)]]; rfl)
  · have hk1 : (k.toList == [112, 117, 116]) = false := by
      rcases kcases k.toList with ⟨h, hk⟩ | ⟨h, hk⟩ | ⟨h, hk⟩ | ⟨h, hk⟩ | ⟨h, hk⟩ | ⟨h, hk⟩ | ⟨h, hk⟩ | ⟨h, hk⟩ | ⟨h, hk⟩ | ⟨h, hk⟩
      · exact absurd hk h1
      all_goals exact h.1
    rcases hz with ⟨hz, hz2⟩ | rfl
    · clear HC
      go_enter Tryz.func58, Tryz.ntmps58
      go_wp2_with fail
      go_ret
      refine ⟨?_, hB⟩
      simp [shErr, h1, hz2, errVal]
    · by_cases h0 : kn k.toList = 0
      · rw [h0] at HC
        go_enter Tryz.func58, Tryz.ntmps58
        go_wp2_with fail
        refine HC.out.mono ?_
        rintro e w2 ⟨rfl, rfl⟩
        go_wp2_with fail
        go_ret
        refine ⟨?_, hB⟩
        simp [shErr, h0, errVal]
      · rw [decide_eq_true (show 2 ≤ kn k.toList by omega)] at HC
        go_enter Tryz.func58, Tryz.ntmps58
        go_wp2_with fail
        refine HC.out.mono ?_
        rintro e w2 ⟨rfl, rfl⟩
        go_wp2_with fail
        go_ret
        refine ⟨?_, hB⟩
        simp [shErr, h0, h1, errVal]
end Go.Proofs.YtoialadjpcdbaaaGreatDoor

/- ClC -/
namespace Go.Proofs.YtoialadjpcdbaaaGreatDoor
open Go.RowKit Go.Extern.Stop Go.Stop Go.Extern Go.Maps Go.WideMaps Go.Sort

structure CrI where
  deep : Int
  ret : Bool
  wt : Bool
  sf : Bool
def CrI.first : CrI := ⟨0, false, false, true⟩
def CrI.pass (s : CrI) (x : OpI) : CrI := ⟨psDeep (kn x.kind.toList) s.deep, psRet (kn x.kind.toList) s.ret, psWt (kn x.kind.toList) s.wt, s.sf && !((kn x.kind.toList == 7) && !s.wt)⟩
def folE (s : CrI) : List OpI → Nat
  | [] => if 0 < s.deep then 8 else 0
  | x :: l => if shErr (kn x.kind.toList) x.n ≠ 0 then shErr (kn x.kind.toList) x.n else if ckErr (kn x.kind.toList) s.deep s.ret ≠ 0 then ckErr (kn x.kind.toList) s.deep s.ret else folE (s.pass x) l
def folS (s : CrI) : List OpI → Bool
  | [] => s.sf
  | x :: l => folS (s.pass x) l
theorem psDeep_bound (i : Nat) (d : Int) {k : Nat} (h : -(k : Int) ≤ d ∧ d ≤ k) : -((k + 1 : Nat) : Int) ≤ psDeep i d ∧ psDeep i d ≤ ((k + 1 : Nat) : Int) := by
  unfold psDeep
  split
  · omega
  split
  · omega
  · omega
theorem errVal_pos {a : Nat → Addr} {k : Nat} (h : k ≠ 0) : ∃ j, k = j + 1 ∧ errVal a k = errAt (a j) := by
  cases k with
  | zero => exact absurd rfl h
  | succ j => exact ⟨j, rfl, rfl⟩
theorem errVal_zero (a : Nat → Addr) {k : Nat} (h : k = 0) : errVal a k = .nilIface := by subst h; rfl

set_option maxRecDepth 20000 in
theorem see_check (deep : Int) (ret wt : Bool) (k : ByteArray) (n : Int) (w : World) :
    Calls Tryz.prog 26 #[.agg #[.int .i64 deep, .bool ret, .bool wt], .agg #[.string k, .int .i64 n]] w fun e w' => e = .returned (.tuple #[]) ∧ Below w.heap.size w w' := by
  go_enter Tryz.func26, Tryz.ntmps26
  go_wp2_with fail
  go_end0
  exact ⟨rfl, ((Below.refl _ _).alloc (Nat.le_refl _) _).alloc (by simp) _⟩
set_option maxRecDepth 20000 in
set_option maxHeartbeats 2000000 in
theorem see_safe {sf : Nat} {b : Bool} (deep : Int) (ret wt : Bool) (k : ByteArray) (n : Int) {w : World} (c0 : w.cell? ⟨sf, 0, none⟩ = some (.bool b)) (f0 : w.frozen? ⟨sf, 0, none⟩ = false) :
    Calls Tryz.prog 21 #[.agg #[.int .i64 deep, .bool ret, .bool wt], .agg #[.string k, .int .i64 n], .pointer (some ⟨sf, 0, none⟩)] w fun e w' => e = .returned (.tuple #[]) ∧ w'.cell? ⟨sf, 0, none⟩ = some (.bool (b && !((kn k.toList == 7) && !wt))) ∧ w'.frozen? ⟨sf, 0, none⟩ = false ∧ Turns (fun q _ => q = sf) w w' := by
  have hB : Below w.heap.size w ((w.alloc (.cells #[.int .i64 deep, .bool ret, .bool wt] 75)).alloc (.cells #[.string k, .int .i64 n] 71)) := ((Below.refl _ _).alloc (Nat.le_refl _) _).alloc (by simp) _
  have d0 := keep_cell hB c0
  have z0 : ((w.alloc (.cells #[.int .i64 deep, .bool ret, .bool wt] 75)).alloc (.cells #[.string k, .int .i64 n] 71)).frozen? ⟨sf, 0, none⟩ = false := (hB.frozen (show (⟨sf, 0, none⟩ : Addr).block < _ from World.block_lt_of_cell? _ _ c0)).trans f0
  have HD := hide d0
  have HT : Hid (Turns (fun q _ => q = sf) w ((w.alloc (.cells #[.int .i64 deep, .bool ret, .bool wt] 75)).alloc (.cells #[.string k, .int .i64 n] 71))) := hide (Turns.of_below hB)
  clear hB c0 f0
  cases h7 : (k.toList == [100, 114, 111, 112])
  · have hk : (kn k.toList == 7) = false := by
      rcases kcases k.toList with ⟨h, hk⟩ | ⟨h, hk⟩ | ⟨h, hk⟩ | ⟨h, hk⟩ | ⟨h, hk⟩ | ⟨h, hk⟩ | ⟨h, hk⟩ | ⟨h, hk⟩ | ⟨h, hk⟩ | ⟨h, hk⟩
      all_goals first
        | (rw [hk]; rfl)
        | (have := h.2.2.2.2.2.2.1; rw [h7] at this; cases this)
    rw [hk]
    go_enter Tryz.func21, Tryz.ntmps21
    go_wp2_with fail
    go_end0
    exact ⟨rfl, by rw [HD.out]; simp, z0, HT.out⟩
  · have hk : (kn k.toList == 7) = true := by
      rcases kcases k.toList with ⟨h, hk⟩ | ⟨h, hk⟩ | ⟨h, hk⟩ | ⟨h, hk⟩ | ⟨h, hk⟩ | ⟨h, hk⟩ | ⟨h, hk⟩ | ⟨h, hk⟩ | ⟨h, hk⟩ | ⟨h, hk⟩
      all_goals first
        | (rw [hk]; rfl)
        | (have := h.2.2.2.2.2.2.1; rw [h7] at this; cases this)
    rw [hk]
    cases wt
    · go_enter Tryz.func21, Tryz.ntmps21
      go_wp2_with fail
      go_end0
      refine ⟨rfl, ?_, by rw [World.frozen?_setCell]; exact z0, HT.out.setCell _ rfl⟩
      rw [World.cell?_setCell_same _ _ _ HD.out]
      simp
    · go_enter Tryz.func21, Tryz.ntmps21
      go_wp2_with fail
      go_end0
      exact ⟨rfl, by rw [HD.out]; simp, z0, HT.out⟩
end Go.Proofs.YtoialadjpcdbaaaGreatDoor

/- ClD -/
namespace Go.Proofs.YtoialadjpcdbaaaGreatDoor
open Go.RowKit Go.Extern.Stop Go.Stop Go.Extern Go.Maps Go.WideMaps Go.Sort

theorem folE_sh {s : CrI} {x : OpI} {l : List OpI} (h : shErr (kn x.kind.toList) x.n ≠ 0) : folE s (x :: l) = shErr (kn x.kind.toList) x.n := if_pos h
theorem folE_ck {s : CrI} {x : OpI} {l : List OpI} (h0 : shErr (kn x.kind.toList) x.n = 0) (h : ckErr (kn x.kind.toList) s.deep s.ret ≠ 0) : folE s (x :: l) = ckErr (kn x.kind.toList) s.deep s.ret := (if_neg (fun k => k h0)).trans (if_pos h)
theorem folE_go {s : CrI} {x : OpI} {l : List OpI} (h0 : shErr (kn x.kind.toList) x.n = 0) (h : ckErr (kn x.kind.toList) s.deep s.ret = 0) : folE s (x :: l) = folE (s.pass x) l := (if_neg (fun k => k h0)).trans (if_neg (fun k => k h))

set_option maxRecDepth 20000 in
set_option maxHeartbeats 4000000 in
theorem followOne_check {a : Nat → Addr} {w00 w : World} (hE : Env a w00) {ad : Option Addr} {l : List OpI} {cap : Nat} (ho : opsAt ad l w00) (hw : Below w00.heap.size w00 w) (hl : l.length ≤ 30) :
    Calls Tryz.prog 38 #[.slice ad l.length cap, .func (.func 26) #[] #[]] w fun e w' => e = .returned (errVal a (folE .first l)) ∧ Below w.heap.size w w' := by
  obtain ⟨n, hn⟩ : ∃ n, Hid (l.length = n) := ⟨_, hide rfl⟩
  have HE := hide hE
  have HO := hide ho
  have HWW : Hid (w00.heap.size ≤ w.heap.size) := hide hw.size
  skip
  have hB0 : Below w.heap.size w (w.alloc (.cells #[.int .i64 0, .bool false, .bool false] 75)) := (Below.refl _ _).alloc (Nat.le_refl _) _
  have H0 : Hid (∃ s : CrI, CrAt w.heap.size s.deep s.ret s.wt (w.alloc (.cells #[.int .i64 0, .bool false, .bool false] 75)) ∧ (-((0 : Nat) : Int) ≤ s.deep ∧ s.deep ≤ ((0 : Nat) : Int)) ∧ folE .first l = folE s (l.drop 0) ∧ folS .first l = folS s (l.drop 0) ∧ Below w00.heap.size w00 (w.alloc (.cells #[.int .i64 0, .bool false, .bool false] 75)) ∧ Turns (fun q _ => q = w.heap.size) w (w.alloc (.cells #[.int .i64 0, .bool false, .bool false] 75))) := hide (by
    refine ⟨.first, ⟨?_, ?_, ?_, fun o => ?_⟩, (by show (-((0 : Nat) : Int)) ≤ (0 : Int) ∧ (0 : Int) ≤ ((0 : Nat) : Int); decide), rfl, rfl, below_step hw hB0, Turns.of_below hB0⟩
    · rw [World.cell?_alloc_new]; rfl
    · rw [World.cell?_alloc_new]; rfl
    · rw [World.cell?_alloc_new]; rfl
    · exact World.frozen?_alloc_new _ _ _ _)
  rw [hn.out] at hl ⊢
  clear hE ho hw hB0
  go_enter Tryz.func38, Tryz.ntmps38
  go_wp2_with fail
  go_loopw [7, 8, 9, 12] (fun _ _ _ i wr => ∃ k : Nat, k ≤ n ∧ i = .int .i64 k ∧ Hid (∃ s : CrI, CrAt w.heap.size s.deep s.ret s.wt wr ∧ (-(k : Int) ≤ s.deep ∧ s.deep ≤ (k : Int)) ∧ folE .first l = folE s (l.drop k) ∧ folS .first l = folS s (l.drop k) ∧ Below w00.heap.size w00 wr ∧ Turns (fun q _ => q = w.heap.size) w wr)) (fun _ _ _ i _ => n - (intOf i).toNat)
  case atStart => exact ⟨0, Nat.zero_le _, rfl, H0⟩
  case round =>
    clear H0
    obtain ⟨k, hk, rfl, HR⟩ := hrel
    obtain ⟨s, hcr, hbd, hfe, hfs, hbw, htu⟩ := HR.out
    by_cases hlt : k < n
    · have ki : (k : Int) < n := by omega
      obtain ⟨x, hx⟩ : ∃ x, l[k]? = some x := ⟨_, List.getElem?_eq_getElem (by rw [hn.out]; exact hlt)⟩
      have hdr : l.drop k = x :: l.drop (k + 1) := by
        have := List.drop_eq_getElem_cons (show k < l.length by rw [hn.out]; exact hlt)
        rw [this]
        have h2 := List.getElem?_eq_getElem (show k < l.length by rw [hn.out]; exact hlt)
        rw [hx] at h2
        rw [Option.some.inj h2]
      rw [hdr] at hfe hfs
      obtain ⟨bo, off, rfl, c0, c1⟩ := HO.out.below hbw k x hx
      obtain ⟨kd, nn⟩ := x
      dsimp only at c0 c1
      have HFE := hide hfe
      have HFS := hide hfs
      have HCR := hide hcr
      have HBD := hide hbd
      have HBW := hide hbw
      have HTU := hide htu
      skip
      have hB1 : Below wr.heap.size wr (wr.alloc (.cells #[.string kd, .int .i64 nn] 71)) := (Below.refl _ _).alloc (Nat.le_refl _) _
      have hB2 : Below wr.heap.size wr ((wr.alloc (.cells #[.string kd, .int .i64 nn] 71)).alloc (.cells #[.string ⟨#[101, 110, 116, 101, 114]⟩, .string ⟨#[108, 101, 97, 118, 101]⟩, .string ⟨#[114, 101, 115, 116]⟩, .string ⟨#[119, 97, 105, 116]⟩, .string ⟨#[114, 101, 97, 100]⟩, .string ⟨#[100, 114, 111, 112]⟩, .string ⟨#[108, 97, 116, 101, 114]⟩, .string ⟨#[102, 108, 117, 115, 104]⟩] 9)) := hB1.alloc hB1.size _
      have htx : txtsAt (some ⟨wr.heap.size + 1, 0, none⟩) clKinds ((wr.alloc (.cells #[.string kd, .int .i64 nn] 71)).alloc (.cells #[.string ⟨#[101, 110, 116, 101, 114]⟩, .string ⟨#[108, 101, 97, 118, 101]⟩, .string ⟨#[114, 101, 115, 116]⟩, .string ⟨#[119, 97, 105, 116]⟩, .string ⟨#[114, 101, 97, 100]⟩, .string ⟨#[100, 114, 111, 112]⟩, .string ⟨#[108, 97, 116, 101, 114]⟩, .string ⟨#[102, 108, 117, 115, 104]⟩] 9)) := fun i y hy => by
        have hc : ∀ j, ((wr.alloc (.cells #[.string kd, .int .i64 nn] 71)).alloc (.cells #[.string ⟨#[101, 110, 116, 101, 114]⟩, .string ⟨#[108, 101, 97, 118, 101]⟩, .string ⟨#[114, 101, 115, 116]⟩, .string ⟨#[119, 97, 105, 116]⟩, .string ⟨#[114, 101, 97, 100]⟩, .string ⟨#[100, 114, 111, 112]⟩, .string ⟨#[108, 97, 116, 101, 114]⟩, .string ⟨#[102, 108, 117, 115, 104]⟩] 9)).cell? ⟨wr.heap.size + 1, 0 + j, none⟩ = (#[.string ⟨#[101, 110, 116, 101, 114]⟩, .string ⟨#[108, 101, 97, 118, 101]⟩, .string ⟨#[114, 101, 115, 116]⟩, .string ⟨#[119, 97, 105, 116]⟩, .string ⟨#[114, 101, 97, 100]⟩, .string ⟨#[100, 114, 111, 112]⟩, .string ⟨#[108, 97, 116, 101, 114]⟩, .string ⟨#[102, 108, 117, 115, 104]⟩] : Array Value)[j]? := fun j => by
          have := World.cell?_alloc_new (wr.alloc (.cells #[.string kd, .int .i64 nn] 71)) #[.string ⟨#[101, 110, 116, 101, 114]⟩, .string ⟨#[108, 101, 97, 118, 101]⟩, .string ⟨#[114, 101, 115, 116]⟩, .string ⟨#[119, 97, 105, 116]⟩, .string ⟨#[114, 101, 97, 100]⟩, .string ⟨#[100, 114, 111, 112]⟩, .string ⟨#[108, 97, 116, 101, 114]⟩, .string ⟨#[102, 108, 117, 115, 104]⟩] 9 j
          rw [World.size_alloc] at this
          rw [Nat.zero_add]
          exact this
        refine ⟨_, 0, rfl, ?_⟩
        match i, hy with
        | 0, hy => cases hy; exact hc 0
        | 1, hy => cases hy; exact hc 1
        | 2, hy => cases hy; exact hc 2
        | 3, hy => cases hy; exact hc 3
        | 4, hy => cases hy; exact hc 4
        | 5, hy => cases hy; exact hc 5
        | 6, hy => cases hy; exact hc 6
        | 7, hy => cases hy; exact hc 7
      have hkc : ((wr.alloc (.cells #[.string kd, .int .i64 nn] 71)).alloc (.cells #[.string ⟨#[101, 110, 116, 101, 114]⟩, .string ⟨#[108, 101, 97, 118, 101]⟩, .string ⟨#[114, 101, 115, 116]⟩, .string ⟨#[119, 97, 105, 116]⟩, .string ⟨#[114, 101, 97, 100]⟩, .string ⟨#[100, 114, 111, 112]⟩, .string ⟨#[108, 97, 116, 101, 114]⟩, .string ⟨#[102, 108, 117, 115, 104]⟩] 9)).cell? ⟨wr.heap.size, 0, none⟩ = some (.string kd) := keep_cell ((Below.refl _ _).alloc (Nat.le_refl _) _) (by rw [World.cell?_alloc_new]; rfl)
      have hkn : ((wr.alloc (.cells #[.string kd, .int .i64 nn] 71)).alloc (.cells #[.string ⟨#[101, 110, 116, 101, 114]⟩, .string ⟨#[108, 101, 97, 118, 101]⟩, .string ⟨#[114, 101, 115, 116]⟩, .string ⟨#[119, 97, 105, 116]⟩, .string ⟨#[114, 101, 97, 100]⟩, .string ⟨#[100, 114, 111, 112]⟩, .string ⟨#[108, 97, 116, 101, 114]⟩, .string ⟨#[102, 108, 117, 115, 104]⟩] 9)).cell? ⟨wr.heap.size, 1, none⟩ = some (.int .i64 nn) := keep_cell ((Below.refl _ _).alloc (Nat.le_refl _) _) (by rw [World.cell?_alloc_new]; rfl)
      have HKC := hide hkc
      have HKN := hide hkn
      have HSH := hide (tshape_any (c := 8) kd nn (HE.out.below (below_step hbw hB2).block) htx)
      have HB2 := hide hB2
      have HKW : Hid (w.heap.size < wr.heap.size) := hide (World.block_lt_of_cell? _ _ hcr.c0)
      clear hx hdr hfe hfs hcr hbd hbw htu hB1 hB2 htx hkc hkn HR
      go_wp2_with fail
      refine HSH.out.mono ?_
      rintro e w2 ⟨rfl, hb2⟩
      have HC2 := hide (HCR.out.below (below_step HB2.out hb2))
      have HW2 := hide (below_step HBW.out (below_step HB2.out hb2))
      have HT2 := hide (HTU.out.trans (Turns.of_below (below_step HB2.out hb2)))
      have k0 := keep_cell hb2 HKC.out
      have k1 := keep_cell hb2 HKN.out
      skip
      clear hb2 HSH HB2 HKC HKN HCR HTU HBW
      by_cases hs0 : shErr (kn kd.toList) nn = 0
      · rw [hs0]
        have HCK := hide (ccheck_any s.deep s.ret s.wt kd (HE.out.below HW2.out.block))
        obtain ⟨d0, d1, d2, -⟩ := HC2.out
        obtain ⟨sd, sr, swt, ssf⟩ := s
        dsimp only at d0 d1 d2 HCK HBD HC2
        rw [errVal_zero a rfl]
        go_wp2_with fail
        refine HCK.out.mono ?_
        rintro e w3 ⟨rfl, hb3⟩
        have HC3 := hide (HC2.out.below hb3)
        have HW3 := hide (below_step HW2.out hb3)
        have HT3 := hide (HT2.out.trans (Turns.of_below hb3))
        replace k0 := keep_cell hb3 k0
        replace k1 := keep_cell hb3 k1
        replace d0 := HC3.out.c0
        replace d1 := HC3.out.c1
        replace d2 := HC3.out.c2
        skip
        clear hb3 HC2 HW2 HT2 HCK
        by_cases hq0 : ckErr (kn kd.toList) sd sr = 0
        · rw [hq0, errVal_zero a rfl]
          have HFN := hide (HFE.out.trans (folE_go hs0 hq0))
          clear HFE
          go_wp2_with fail
          refine (see_check sd sr swt kd nn w3).mono ?_
          rintro e w4 ⟨rfl, hb4⟩
          have HC4 := hide (HC3.out.below hb4)
          have HW4 := hide (below_step HW3.out hb4)
          have HT4 := hide (HT3.out.trans (Turns.of_below hb4))
          replace k0 := keep_cell hb4 k0
          clear hb4
          clear HC3 HW3 HT3 d0 d1 d2
          have HPA := hide (cpass_any kd HC4.out ⟨by have := HBD.out.1; omega, by have := HBD.out.2; omega⟩)
          go_wp2_with fail
          refine HPA.out.mono ?_
          rintro e w5 ⟨rfl, hc5, ht5⟩
          have HW5 := hide (HW4.out.trans (ht5.below HW4.out.size (fun q o hq e => by have := HWW.out; omega)))
          have HT5 := hide (HT4.out.trans (ht5.mono (fun q o _ e => e)))
          have HB5 := hide (psDeep_bound (kn kd.toList) sd HBD.out)
          skip
          have HC5 := hide hc5
          have HFS5 := HFS.out
          clear HPA HC4 HW4 HT4 hc5 ht5 k0 k1
          go_wp2_with fail
          go_roundw
          case rel => exact ⟨k + 1, by omega, by go_num, hide ⟨CrI.pass ⟨sd, sr, swt, ssf⟩ ⟨kd, nn⟩, HC5.out, HB5.out, HFN.out, HFS5, HW5.out, HT5.out⟩⟩
          case measure => simp [intOf]; omega
        · have HFN := hide (HFE.out.trans (folE_ck hs0 hq0))
          clear HFE
          obtain ⟨j, hj, hv⟩ := errVal_pos (a := a) hq0
          rw [hv]
          go_wp2_with fail
          go_ret
          exact ⟨by rw [HFN.out]; exact (by rw [hv]; rfl), HT3.out.below (Nat.le_refl _) (fun q o hq e => by rw [e] at hq; exact Nat.lt_irrefl _ hq)⟩
      · have HFN := hide (HFE.out.trans (folE_sh (s := s) (x := ⟨kd, nn⟩) (l := l.drop (k + 1)) hs0))
        clear HFE
        obtain ⟨j, hj, hv⟩ := errVal_pos (a := a) hs0
        rw [hv]
        go_wp2_with fail
        go_ret
        exact ⟨by rw [HFN.out]; exact (by rw [hv]; rfl), HT2.out.below (Nat.le_refl _) (fun q o hq e => by rw [e] at hq; exact Nat.lt_irrefl _ hq)⟩
    · obtain rfl : k = n := by omega
      have hdl : l.drop k = [] := by rw [← hn.out, List.drop_length]
      rw [hdl] at hfe hfs
      have HFE := hide hfe
      have HFS := hide hfs
      have HTU := hide htu
      skip
      have g7 : wr.cell? ⟨7, 0, none⟩ = some (errAt (a 7)) := (HE.out.below hbw.block).cell 7 (by decide)
      obtain ⟨d0, -, -, -⟩ := hcr
      clear hfe hfs htu hbw hbd HR hdl
      by_cases hd : 0 < s.deep
      · have HFN : Hid (folE .first l = 8) := hide (by rw [HFE.out]; exact if_pos hd)
        go_wp2_with fail
        go_ret
        exact ⟨by rw [HFN.out]; exact rfl, HTU.out.below (Nat.le_refl _) (fun q o hq e => by rw [e] at hq; exact Nat.lt_irrefl _ hq)⟩
      · have HFN : Hid (folE .first l = 0) := hide (by rw [HFE.out]; exact if_neg hd)
        go_wp2_with fail
        go_ret
        exact ⟨by rw [HFN.out]; exact rfl, HTU.out.below (Nat.le_refl _) (fun q o hq e => by rw [e] at hq; exact Nat.lt_irrefl _ hq)⟩

set_option maxRecDepth 20000 in
set_option maxHeartbeats 4000000 in
theorem followOne_safe {a : Nat → Addr} {w00 w : World} {sf : Nat} {b : Bool} (hE : Env a w00) {ad : Option Addr} {l : List OpI} {cap : Nat} (ho : opsAt ad l w00) (hw : Below w00.heap.size w00 w) (hsf : w00.heap.size ≤ sf) (hs2 : sf < w.heap.size) (cf : w.cell? ⟨sf, 0, none⟩ = some (.bool b)) (ff : w.frozen? ⟨sf, 0, none⟩ = false) (hl : l.length ≤ 30) :
    Calls Tryz.prog 38 #[.slice ad l.length cap, .func (.func 21) #[] #[.pointer (some ⟨sf, 0, none⟩)]] w fun e w' => e = .returned (errVal a (folE .first l)) ∧ (∃ b', w'.cell? ⟨sf, 0, none⟩ = some (.bool b') ∧ (folE .first l = 0 → b' = (b && folS .first l))) ∧ w'.frozen? ⟨sf, 0, none⟩ = false ∧ Turns (fun q _ => q = sf) w w' := by
  obtain ⟨n, hn⟩ : ∃ n, Hid (l.length = n) := ⟨_, hide rfl⟩
  have HE := hide hE
  have HO := hide ho
  have HWW : Hid (w00.heap.size ≤ w.heap.size) := hide hw.size
  have HSF : Hid (sf < w.heap.size) := hide hs2
  have HSF0 : Hid (w00.heap.size ≤ sf) := hide hsf
  have hB0 : Below w.heap.size w (w.alloc (.cells #[.int .i64 0, .bool false, .bool false] 75)) := (Below.refl _ _).alloc (Nat.le_refl _) _
  have H0 : Hid (∃ s : CrI, CrAt w.heap.size s.deep s.ret s.wt (w.alloc (.cells #[.int .i64 0, .bool false, .bool false] 75)) ∧ (-((0 : Nat) : Int) ≤ s.deep ∧ s.deep ≤ ((0 : Nat) : Int)) ∧ folE .first l = folE s (l.drop 0) ∧ folS .first l = folS s (l.drop 0) ∧ Below w00.heap.size w00 (w.alloc (.cells #[.int .i64 0, .bool false, .bool false] 75)) ∧ Turns (fun q _ => q = w.heap.size ∨ q = sf) w (w.alloc (.cells #[.int .i64 0, .bool false, .bool false] 75)) ∧ (w.alloc (.cells #[.int .i64 0, .bool false, .bool false] 75)).cell? ⟨sf, 0, none⟩ = some (.bool (b && s.sf)) ∧ (w.alloc (.cells #[.int .i64 0, .bool false, .bool false] 75)).frozen? ⟨sf, 0, none⟩ = false) := hide (by
    refine ⟨.first, ⟨?_, ?_, ?_, fun o => ?_⟩, (by show (-((0 : Nat) : Int)) ≤ (0 : Int) ∧ (0 : Int) ≤ ((0 : Nat) : Int); decide), rfl, rfl, below_step hw hB0, Turns.of_below hB0, by rw [show (b && CrI.first.sf) = b from Bool.and_true b]; exact keep_cell hB0 cf, (hB0.frozen (show (⟨sf, 0, none⟩ : Addr).block < _ from hs2)).trans ff⟩
    · rw [World.cell?_alloc_new]; rfl
    · rw [World.cell?_alloc_new]; rfl
    · rw [World.cell?_alloc_new]; rfl
    · exact World.frozen?_alloc_new _ _ _ _)
  rw [hn.out] at hl ⊢
  clear hE ho hw hB0 cf ff hsf hs2
  go_enter Tryz.func38, Tryz.ntmps38
  go_wp2_with fail
  go_loopw [7, 8, 9, 12] (fun _ _ _ i wr => ∃ k : Nat, k ≤ n ∧ i = .int .i64 k ∧ Hid (∃ s : CrI, CrAt w.heap.size s.deep s.ret s.wt wr ∧ (-(k : Int) ≤ s.deep ∧ s.deep ≤ (k : Int)) ∧ folE .first l = folE s (l.drop k) ∧ folS .first l = folS s (l.drop k) ∧ Below w00.heap.size w00 wr ∧ Turns (fun q _ => q = w.heap.size ∨ q = sf) w wr ∧ wr.cell? ⟨sf, 0, none⟩ = some (.bool (b && s.sf)) ∧ wr.frozen? ⟨sf, 0, none⟩ = false)) (fun _ _ _ i _ => n - (intOf i).toNat)
  case atStart => exact ⟨0, Nat.zero_le _, rfl, H0⟩
  case round =>
    clear H0
    obtain ⟨k, hk, rfl, HR⟩ := hrel
    obtain ⟨s, hcr, hbd, hfe, hfs, hbw, htu, hfl, hfz⟩ := HR.out
    by_cases hlt : k < n
    · have ki : (k : Int) < n := by omega
      obtain ⟨x, hx⟩ : ∃ x, l[k]? = some x := ⟨_, List.getElem?_eq_getElem (by rw [hn.out]; exact hlt)⟩
      have hdr : l.drop k = x :: l.drop (k + 1) := by
        have := List.drop_eq_getElem_cons (show k < l.length by rw [hn.out]; exact hlt)
        rw [this]
        have h2 := List.getElem?_eq_getElem (show k < l.length by rw [hn.out]; exact hlt)
        rw [hx] at h2
        rw [Option.some.inj h2]
      rw [hdr] at hfe hfs
      obtain ⟨bo, off, rfl, c0, c1⟩ := HO.out.below hbw k x hx
      obtain ⟨kd, nn⟩ := x
      dsimp only at c0 c1
      have HFE := hide hfe
      have HFS := hide hfs
      have HCR := hide hcr
      have HBD := hide hbd
      have HBW := hide hbw
      have HTU := hide htu
      have HFL := hide (And.intro hfl hfz)
      have hB1 : Below wr.heap.size wr (wr.alloc (.cells #[.string kd, .int .i64 nn] 71)) := (Below.refl _ _).alloc (Nat.le_refl _) _
      have hB2 : Below wr.heap.size wr ((wr.alloc (.cells #[.string kd, .int .i64 nn] 71)).alloc (.cells #[.string ⟨#[101, 110, 116, 101, 114]⟩, .string ⟨#[108, 101, 97, 118, 101]⟩, .string ⟨#[114, 101, 115, 116]⟩, .string ⟨#[119, 97, 105, 116]⟩, .string ⟨#[114, 101, 97, 100]⟩, .string ⟨#[100, 114, 111, 112]⟩, .string ⟨#[108, 97, 116, 101, 114]⟩, .string ⟨#[102, 108, 117, 115, 104]⟩] 9)) := hB1.alloc hB1.size _
      have htx : txtsAt (some ⟨wr.heap.size + 1, 0, none⟩) clKinds ((wr.alloc (.cells #[.string kd, .int .i64 nn] 71)).alloc (.cells #[.string ⟨#[101, 110, 116, 101, 114]⟩, .string ⟨#[108, 101, 97, 118, 101]⟩, .string ⟨#[114, 101, 115, 116]⟩, .string ⟨#[119, 97, 105, 116]⟩, .string ⟨#[114, 101, 97, 100]⟩, .string ⟨#[100, 114, 111, 112]⟩, .string ⟨#[108, 97, 116, 101, 114]⟩, .string ⟨#[102, 108, 117, 115, 104]⟩] 9)) := fun i y hy => by
        have hc : ∀ j, ((wr.alloc (.cells #[.string kd, .int .i64 nn] 71)).alloc (.cells #[.string ⟨#[101, 110, 116, 101, 114]⟩, .string ⟨#[108, 101, 97, 118, 101]⟩, .string ⟨#[114, 101, 115, 116]⟩, .string ⟨#[119, 97, 105, 116]⟩, .string ⟨#[114, 101, 97, 100]⟩, .string ⟨#[100, 114, 111, 112]⟩, .string ⟨#[108, 97, 116, 101, 114]⟩, .string ⟨#[102, 108, 117, 115, 104]⟩] 9)).cell? ⟨wr.heap.size + 1, 0 + j, none⟩ = (#[.string ⟨#[101, 110, 116, 101, 114]⟩, .string ⟨#[108, 101, 97, 118, 101]⟩, .string ⟨#[114, 101, 115, 116]⟩, .string ⟨#[119, 97, 105, 116]⟩, .string ⟨#[114, 101, 97, 100]⟩, .string ⟨#[100, 114, 111, 112]⟩, .string ⟨#[108, 97, 116, 101, 114]⟩, .string ⟨#[102, 108, 117, 115, 104]⟩] : Array Value)[j]? := fun j => by
          have := World.cell?_alloc_new (wr.alloc (.cells #[.string kd, .int .i64 nn] 71)) #[.string ⟨#[101, 110, 116, 101, 114]⟩, .string ⟨#[108, 101, 97, 118, 101]⟩, .string ⟨#[114, 101, 115, 116]⟩, .string ⟨#[119, 97, 105, 116]⟩, .string ⟨#[114, 101, 97, 100]⟩, .string ⟨#[100, 114, 111, 112]⟩, .string ⟨#[108, 97, 116, 101, 114]⟩, .string ⟨#[102, 108, 117, 115, 104]⟩] 9 j
          rw [World.size_alloc] at this
          rw [Nat.zero_add]
          exact this
        refine ⟨_, 0, rfl, ?_⟩
        match i, hy with
        | 0, hy => cases hy; exact hc 0
        | 1, hy => cases hy; exact hc 1
        | 2, hy => cases hy; exact hc 2
        | 3, hy => cases hy; exact hc 3
        | 4, hy => cases hy; exact hc 4
        | 5, hy => cases hy; exact hc 5
        | 6, hy => cases hy; exact hc 6
        | 7, hy => cases hy; exact hc 7
      have hkc : ((wr.alloc (.cells #[.string kd, .int .i64 nn] 71)).alloc (.cells #[.string ⟨#[101, 110, 116, 101, 114]⟩, .string ⟨#[108, 101, 97, 118, 101]⟩, .string ⟨#[114, 101, 115, 116]⟩, .string ⟨#[119, 97, 105, 116]⟩, .string ⟨#[114, 101, 97, 100]⟩, .string ⟨#[100, 114, 111, 112]⟩, .string ⟨#[108, 97, 116, 101, 114]⟩, .string ⟨#[102, 108, 117, 115, 104]⟩] 9)).cell? ⟨wr.heap.size, 0, none⟩ = some (.string kd) := keep_cell ((Below.refl _ _).alloc (Nat.le_refl _) _) (by rw [World.cell?_alloc_new]; rfl)
      have hkn : ((wr.alloc (.cells #[.string kd, .int .i64 nn] 71)).alloc (.cells #[.string ⟨#[101, 110, 116, 101, 114]⟩, .string ⟨#[108, 101, 97, 118, 101]⟩, .string ⟨#[114, 101, 115, 116]⟩, .string ⟨#[119, 97, 105, 116]⟩, .string ⟨#[114, 101, 97, 100]⟩, .string ⟨#[100, 114, 111, 112]⟩, .string ⟨#[108, 97, 116, 101, 114]⟩, .string ⟨#[102, 108, 117, 115, 104]⟩] 9)).cell? ⟨wr.heap.size, 1, none⟩ = some (.int .i64 nn) := keep_cell ((Below.refl _ _).alloc (Nat.le_refl _) _) (by rw [World.cell?_alloc_new]; rfl)
      have HKC := hide hkc
      have HKN := hide hkn
      have HSH := hide (tshape_any (c := 8) kd nn (HE.out.below (below_step hbw hB2).block) htx)
      have HB2 := hide hB2
      have HKW : Hid (w.heap.size < wr.heap.size) := hide (World.block_lt_of_cell? _ _ hcr.c0)
      clear hx hdr hfe hfs hcr hbd hbw htu hB1 hB2 htx hkc hkn HR hfl hfz
      go_wp2_with fail
      refine HSH.out.mono ?_
      rintro e w2 ⟨rfl, hb2⟩
      have HC2 := hide (HCR.out.below (below_step HB2.out hb2))
      have HW2 := hide (below_step HBW.out (below_step HB2.out hb2))
      have HT2 := hide (HTU.out.trans (Turns.of_below (below_step HB2.out hb2)))
      have k0 := keep_cell hb2 HKC.out
      have k1 := keep_cell hb2 HKN.out
      have HF2 : Hid (w2.cell? ⟨sf, 0, none⟩ = some (.bool (b && s.sf)) ∧ w2.frozen? ⟨sf, 0, none⟩ = false) := hide ⟨keep_cell (below_step HB2.out hb2) HFL.out.1, ((below_step HB2.out hb2).frozen (show (⟨sf, 0, none⟩ : Addr).block < _ from World.block_lt_of_cell? _ _ HFL.out.1)).trans HFL.out.2⟩
      clear HFL
      clear hb2 HSH HB2 HKC HKN HCR HTU HBW
      by_cases hs0 : shErr (kn kd.toList) nn = 0
      · rw [hs0]
        have HCK := hide (ccheck_any s.deep s.ret s.wt kd (HE.out.below HW2.out.block))
        obtain ⟨d0, d1, d2, -⟩ := HC2.out
        obtain ⟨sd, sr, swt, ssf⟩ := s
        dsimp only at d0 d1 d2 HCK HBD HC2
        rw [errVal_zero a rfl]
        go_wp2_with fail
        refine HCK.out.mono ?_
        rintro e w3 ⟨rfl, hb3⟩
        have HC3 := hide (HC2.out.below hb3)
        have HW3 := hide (below_step HW2.out hb3)
        have HT3 := hide (HT2.out.trans (Turns.of_below hb3))
        replace k0 := keep_cell hb3 k0
        replace k1 := keep_cell hb3 k1
        replace d0 := HC3.out.c0
        replace d1 := HC3.out.c1
        replace d2 := HC3.out.c2
        have HF3 : Hid (w3.cell? ⟨sf, 0, none⟩ = some (.bool (b && ssf)) ∧ w3.frozen? ⟨sf, 0, none⟩ = false) := hide ⟨keep_cell hb3 HF2.out.1, (hb3.frozen (show (⟨sf, 0, none⟩ : Addr).block < _ from World.block_lt_of_cell? _ _ HF2.out.1)).trans HF2.out.2⟩
        clear HF2
        clear hb3 HC2 HW2 HT2 HCK
        by_cases hq0 : ckErr (kn kd.toList) sd sr = 0
        · rw [hq0, errVal_zero a rfl]
          have HFN := hide (HFE.out.trans (folE_go hs0 hq0))
          clear HFE
          go_wp2_with fail
          refine (see_safe sd sr swt kd nn HF3.out.1 HF3.out.2).mono ?_
          rintro e w4 ⟨rfl, hf4, hz4, ht4⟩
          have HF4 := hide (And.intro hf4 hz4)
          have HC4 : Hid (CrAt w.heap.size sd sr swt w4) := hide ⟨ht4.keep HC3.out.c0 (fun e => by have := HSF.out; omega), ht4.keep HC3.out.c1 (fun e => by have := HSF.out; omega), ht4.keep HC3.out.c2 (fun e => by have := HSF.out; omega), fun o => (ht4.frozen w.heap.size o (World.block_lt_of_cell? _ _ HC3.out.c0) (fun e => by have := HSF.out; omega)).trans (HC3.out.fz o)⟩
          have HW4 := hide (HW3.out.trans (ht4.below HW3.out.size (fun q o hq e => by have := HSF0.out; omega)))
          have HT4 := hide (HT3.out.trans (ht4.mono (fun q o _ e => Or.inr e)))
          replace k0 := ht4.keep k0 (fun e => by have := HSF.out; have := HKW.out; omega)
          clear hf4 hz4 ht4 HF3
          clear HC3 HW3 HT3 d0 d1 d2
          have HPA := hide (cpass_any kd HC4.out ⟨by have := HBD.out.1; omega, by have := HBD.out.2; omega⟩)
          go_wp2_with fail
          refine HPA.out.mono ?_
          rintro e w5 ⟨rfl, hc5, ht5⟩
          have HW5 := hide (HW4.out.trans (ht5.below HW4.out.size (fun q o hq e => by have := HWW.out; omega)))
          have HT5 := hide (HT4.out.trans (ht5.mono (fun q o _ e => Or.inl e)))
          have HB5 := hide (psDeep_bound (kn kd.toList) sd HBD.out)
          have HF5 : Hid (w5.cell? ⟨sf, 0, none⟩ = some (.bool (b && (CrI.pass ⟨sd, sr, swt, ssf⟩ ⟨kd, nn⟩).sf)) ∧ w5.frozen? ⟨sf, 0, none⟩ = false) := hide ⟨by have := ht5.keep HF4.out.1 (fun e => by have := HSF.out; omega); rw [Bool.and_assoc] at this; exact this, (ht5.frozen sf 0 (World.block_lt_of_cell? _ _ HF4.out.1) (fun e => by have := HSF.out; omega)).trans HF4.out.2⟩
          have HC5 := hide hc5
          have HFS5 := HFS.out
          clear HPA HC4 HW4 HT4 hc5 ht5 k0 k1
          go_wp2_with fail
          go_roundw
          case rel => exact ⟨k + 1, by omega, by go_num, hide ⟨CrI.pass ⟨sd, sr, swt, ssf⟩ ⟨kd, nn⟩, HC5.out, HB5.out, HFN.out, HFS5, HW5.out, HT5.out, HF5.out.1, HF5.out.2⟩⟩
          case measure => simp [intOf]; omega
        · have HFN := hide (HFE.out.trans (folE_ck hs0 hq0))
          clear HFE
          obtain ⟨j, hj, hv⟩ := errVal_pos (a := a) hq0
          rw [hv]
          go_wp2_with fail
          go_ret
          exact ⟨by rw [HFN.out]; exact (by rw [hv]; rfl), ⟨_, HF3.out.1, fun e0 => absurd (HFN.out.symm.trans e0) (by first | exact hq0 | exact hs0 | decide)⟩, HF3.out.2, HT3.out.mono (fun q o hq hS => hS.resolve_left (fun e1 => by rw [e1] at hq; exact Nat.lt_irrefl _ hq))⟩
      · have HFN := hide (HFE.out.trans (folE_sh (s := s) (x := ⟨kd, nn⟩) (l := l.drop (k + 1)) hs0))
        clear HFE
        obtain ⟨j, hj, hv⟩ := errVal_pos (a := a) hs0
        rw [hv]
        go_wp2_with fail
        go_ret
        exact ⟨by rw [HFN.out]; exact (by rw [hv]; rfl), ⟨_, HF2.out.1, fun e0 => absurd (HFN.out.symm.trans e0) (by first | exact hq0 | exact hs0 | decide)⟩, HF2.out.2, HT2.out.mono (fun q o hq hS => hS.resolve_left (fun e1 => by rw [e1] at hq; exact Nat.lt_irrefl _ hq))⟩
    · obtain rfl : k = n := by omega
      have hdl : l.drop k = [] := by rw [← hn.out, List.drop_length]
      rw [hdl] at hfe hfs
      have HFE := hide hfe
      have HFS := hide hfs
      have HTU := hide htu
      have HFL := hide (And.intro hfl hfz)
      have g7 : wr.cell? ⟨7, 0, none⟩ = some (errAt (a 7)) := (HE.out.below hbw.block).cell 7 (by decide)
      obtain ⟨d0, -, -, -⟩ := hcr
      clear hfe hfs htu hbw hbd HR hdl hfl hfz
      by_cases hd : 0 < s.deep
      · have HFN : Hid (folE .first l = 8) := hide (by rw [HFE.out]; exact if_pos hd)
        go_wp2_with fail
        go_ret
        exact ⟨by rw [HFN.out]; exact rfl, ⟨_, HFL.out.1, fun e0 => absurd (HFN.out.symm.trans e0) (by first | exact hq0 | exact hs0 | decide)⟩, HFL.out.2, HTU.out.mono (fun q o hq hS => hS.resolve_left (fun e1 => by rw [e1] at hq; exact Nat.lt_irrefl _ hq))⟩
      · have HFN : Hid (folE .first l = 0) := hide (by rw [HFE.out]; exact if_neg hd)
        go_wp2_with fail
        go_ret
        refine ⟨by rw [HFN.out]; exact rfl, ?_, HFL.out.2, HTU.out.mono (fun q o hq hS => hS.resolve_left (fun e1 => by rw [e1] at hq; exact Nat.lt_irrefl _ hq))⟩
        have h1 := HFL.out.1
        have h2 : folS .first l = s.sf := (by rw [HFS.out]; rfl)
        revert h1
        rw [h2]
        cases b <;> cases s.sf <;> simp +contextual
end Go.Proofs.YtoialadjpcdbaaaGreatDoor
