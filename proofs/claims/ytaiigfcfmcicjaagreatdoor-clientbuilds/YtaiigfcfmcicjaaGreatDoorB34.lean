import Derived.Test.YtaiigfcfmcicjaaGreatDoorB33
import Derived.Test.YtaiigfcfmcicjaaGreatDoorB02
import Derived.Test.YtaiigfcfmcicjaaGreatDoorB04
import Derived.Test.YtaiigfcfmcicjaaGreatDoorB03

/- ThH -/
namespace Go.Proofs.YtaiigfcfmcicjaaGreatDoor
open Go.RowKit Go.Extern.Stop Go.Stop Go.Extern Go.Maps Go.WideMaps Go.Sort

def thNo : ByteArray := ⟨#[]⟩
def thNone : ByteArray := ⟨#[110, 111, 110, 101]⟩
def thMore : ByteArray := ⟨#[109, 111, 114, 101]⟩
def oLabel : ByteArray := ⟨#[108, 97, 98, 101, 108]⟩
def oZero : ByteArray := ⟨#[122, 101, 114, 111]⟩
def oConst : ByteArray := ⟨#[99, 111, 110, 115, 116]⟩
def oStore : ByteArray := ⟨#[115, 116, 111, 114, 101]⟩
def oLoad : ByteArray := ⟨#[108, 111, 97, 100]⟩
def oMove : ByteArray := ⟨#[109, 111, 118, 101]⟩
def oAlloc : ByteArray := ⟨#[97, 108, 108, 111, 99]⟩
def oFree : ByteArray := ⟨#[102, 114, 101, 101]⟩
def oGoto : ByteArray := ⟨#[103, 111, 116, 111]⟩
def oSwap : ByteArray := ⟨#[115, 119, 97, 112]⟩
def oNeed : ByteArray := ⟨#[110, 101, 101, 100]⟩
def oMark : ByteArray := ⟨#[109, 97, 114, 107]⟩
def oStop : ByteArray := ⟨#[115, 116, 111, 112]⟩
def uls (r : Int) (l : List Ins) : List Ins := [⟨oZero, r, 0, 0, thNone⟩] ++ (l ++ [⟨oLabel, 0, 0, 0, thNone⟩])
def numC (n : Int) : List Ins := [⟨oConst, 0, n, 0, thNo⟩, ⟨oStore, 3, 0, 0, thNo⟩]
def newC (n : Int) (l : List Ins) : List Ins := [⟨oAlloc, 3, 0, 0, thNo⟩] ++ uls 3 (numC n ++ l)
def emptyC : List Ins := [⟨oLabel, 0, 0, 0, thMore⟩] ++ uls 4 [⟨oLoad, 0, 4, 1, thNo⟩, ⟨oFree, 4, 0, 0, thNo⟩, ⟨oMove, 4, 0, 0, thNo⟩, ⟨oGoto, 0, 0, 0, thMore⟩]
def keepC : List Ins := [⟨oStore, 3, 4, 1, thNo⟩, ⟨oMove, 4, 3, 0, thNo⟩]
def readC : List Ins := [⟨oLoad, 0, 5, 0, thNo⟩, ⟨oLoad, 0, 0, 0, thNo⟩, ⟨oNeed, 0, 0, 0, thNo⟩, ⟨oMark, 0, 0, 0, thNo⟩]
def putC (n : Int) : List Ins := newC n [⟨oSwap, 3, 5, 0, thNo⟩]

set_option maxRecDepth 20000 in
set_option maxHeartbeats 1000000 in
theorem tunless_ok (r : Int) {v : Value} {l : List Ins} {b2 : Nat} {w : World} (h : insOwn w b2 v l) (hl : l.length ≤ 1000) :
    Calls Tryz.prog 66 #[.int .i64 r, v] w fun e w' => ∃ v', e = .returned v' ∧ insOwn w' w.heap.size v' (uls r l) ∧ Below w.heap.size w w' := by
  obtain ⟨x, c, rfl, -⟩ := ownsRow_shape h
  have hB : ∀ A B C, Below w.heap.size w (((w.alloc A).alloc B).alloc C) := fun A B C => (((Below.refl _ _).alloc (Nat.le_refl _) _).alloc (by simp) _).alloc (by simp; omega) _
  have HP : Hid (partsOwn (some ⟨w.heap.size + 1 + 1, 0, none⟩) [[⟨oZero, r, 0, 0, thNone⟩], l, [⟨oLabel, 0, 0, 0, thNone⟩]] (((w.alloc (.cells #[.string oZero, .int .i64 r, .int .i64 0, .int .i64 0, .string thNone] 101)).alloc (.cells #[.string oLabel, .int .i64 0, .int .i64 0, .int .i64 0, .string thNone] 101)).alloc (.cells #[.slice (some ⟨w.heap.size, 0, none⟩) 1 1, .slice x l.length c, .slice (some ⟨w.heap.size + 1, 0, none⟩) 1 1] 53))) := hide (by
    intro t L ht
    have hc : ∀ j, (((w.alloc (.cells #[.string oZero, .int .i64 r, .int .i64 0, .int .i64 0, .string thNone] 101)).alloc (.cells #[.string oLabel, .int .i64 0, .int .i64 0, .int .i64 0, .string thNone] 101)).alloc (.cells #[.slice (some ⟨w.heap.size, 0, none⟩) 1 1, .slice x l.length c, .slice (some ⟨w.heap.size + 1, 0, none⟩) 1 1] 53)).cell? ⟨w.heap.size + 1 + 1, 0 + j, none⟩ = (#[.slice (some ⟨w.heap.size, 0, none⟩) 1 1, .slice x l.length c, .slice (some ⟨w.heap.size + 1, 0, none⟩) 1 1] : Array Value)[j]? := fun j => by
      rw [Nat.zero_add]
      have := World.cell?_alloc_new ((w.alloc (.cells #[.string oZero, .int .i64 r, .int .i64 0, .int .i64 0, .string thNone] 101)).alloc (.cells #[.string oLabel, .int .i64 0, .int .i64 0, .int .i64 0, .string thNone] 101)) #[.slice (some ⟨w.heap.size, 0, none⟩) 1 1, .slice x l.length c, .slice (some ⟨w.heap.size + 1, 0, none⟩) 1 1] 53 j
      rwa [World.size_alloc, World.size_alloc] at this
    match t, ht with
    | 0, ht =>
      cases ht
      refine ⟨_, 0, _, rfl, hc 0, 0, insOwn_keep (insOwn_keep (insOwn_new (l := [⟨oZero, r, 0, 0, thNone⟩]) rfl (Nat.zero_le _) (show 1 ≤ 1000 by decide)) ((Below.refl _ _).alloc (Nat.le_refl _) _)) ((Below.refl _ _).alloc (Nat.le_refl _) _)⟩
    | 1, ht =>
      cases ht
      exact ⟨_, 0, _, rfl, hc 1, b2, insOwn_keep h (hB _ _ _)⟩
    | 2, ht =>
      cases ht
      have h2 := insOwn_new (w := w.alloc (.cells #[.string oZero, .int .i64 r, .int .i64 0, .int .i64 0, .string thNone] 101)) (l := [⟨oLabel, 0, 0, 0, thNone⟩]) (cs := #[.string oLabel, .int .i64 0, .int .i64 0, .int .i64 0, .string thNone]) (base := 0) rfl (Nat.zero_le _) (show 1 ≤ 1000 by decide)
      rw [World.size_alloc] at h2
      exact ⟨_, 0, _, rfl, hc 2, 0, insOwn_keep h2 ((Below.refl _ _).alloc (Nat.le_refl _) _)⟩)
  have HC := hide (concatG_any (cap := 3) HP.out (show 3 ≤ 1000 by decide) (by simp; omega) (by simp))
  have HB := hide (hB (.cells #[.string oZero, .int .i64 r, .int .i64 0, .int .i64 0, .string thNone] 101) (.cells #[.string oLabel, .int .i64 0, .int .i64 0, .int .i64 0, .string thNone] 101) (.cells #[.slice (some ⟨w.heap.size, 0, none⟩) 1 1, .slice x l.length c, .slice (some ⟨w.heap.size + 1, 0, none⟩) 1 1] 53))
  have HE : Hid (([[⟨oZero, r, 0, 0, thNone⟩], l, [⟨oLabel, 0, 0, 0, thNone⟩]] : List (List Ins)).flatten = uls r l) := hide (by simp [uls])
  rw [HE.out] at HC
  clear hB HP h HE
  go_enter Tryz.func66, Tryz.ntmps66
  go_wp2_with fail
  refine HC.out.mono ?_
  rintro e w2 ⟨v, rfl, hv, hb⟩
  have HO := hide (insOwn_mono hv HB.out.size)
  have HB2 := hide (below_step HB.out hb)
  clear hv hb HB HC
  go_wp2_with fail
  go_ret
  exact ⟨_, rfl, HO.out, HB2.out⟩

set_option maxRecDepth 20000 in
set_option maxHeartbeats 1000000 in
theorem tnew_ok (n : Int) {v : Value} {l : List Ins} {b2 : Nat} {w : World} (h : insOwn w b2 v l) (h0 : 0 < l.length) (hl : l.length ≤ 900) :
    Calls Tryz.prog 116 #[.int .i64 n, v] w fun e w' => ∃ v', e = .returned v' ∧ insOwn w' w.heap.size v' (newC n l) ∧ Below w.heap.size w w' := by
  obtain ⟨x, c, rfl, hli⟩ := insOwn_open h h0
  have hB1 : Below w.heap.size w (w.alloc (.cells #[.string oConst, .int .i64 0, .int .i64 n, .int .i64 0, .string thNo, .string oStore, .int .i64 3, .int .i64 0, .int .i64 0, .string thNo] 101)) := (Below.refl _ _).alloc (Nat.le_refl _) _
  have hN := insOwn_new (w := w) (l := numC n) (cs := #[.string oConst, .int .i64 0, .int .i64 n, .int .i64 0, .string thNo, .string oStore, .int .i64 3, .int .i64 0, .int .i64 0, .string thNo]) (base := w.heap.size) rfl (Nat.le_refl _) (show 2 ≤ 1000 by decide)
  have hA := insOwn_new (w := w.alloc (.cells #[.string oConst, .int .i64 0, .int .i64 n, .int .i64 0, .string thNo, .string oStore, .int .i64 3, .int .i64 0, .int .i64 0, .string thNo] 101)) (l := [⟨oAlloc, 3, 0, 0, thNo⟩]) (cs := #[.string oAlloc, .int .i64 3, .int .i64 0, .int .i64 0, .string thNo]) (base := w.heap.size) rfl hB1.size (show 1 ≤ 1000 by decide)
  rw [World.size_alloc] at hA
  have hB2 : Below w.heap.size w ((w.alloc (.cells #[.string oConst, .int .i64 0, .int .i64 n, .int .i64 0, .string thNo, .string oStore, .int .i64 3, .int .i64 0, .int .i64 0, .string thNo] 101)).alloc (.cells #[.string oAlloc, .int .i64 3, .int .i64 0, .int .i64 0, .string thNo] 101)) := hB1.alloc hB1.size _
  have HN := hide (insOwn_keep hN ((Below.refl _ _).alloc (Nat.le_refl _) (.cells #[.string oAlloc, .int .i64 3, .int .i64 0, .int .i64 0, .string thNo] 101)))
  have HA := hide hA
  have HU := hide (insAt_below hli hB2)
  have HB := hide hB2
  have hlc : (numC n).length = 2 := rfl
  clear hB1 hN hA hB2 h hli
  go_enter Tryz.func116, Tryz.ntmps116
  go_wp2_with (at_builtin; refine wpList_append_ins _ rfl _ _ rfl w.heap.size (numC n) l _ _ _ rfl ?q1 rfl ?q2 h0 ?q3 ?q4 ?_)
  case q1 => exact HN.out
  case q2 => exact HU.out
  case q3 => rw [hlc]; omega
  case q4 => exact HB.out.size
  intro v1 w1 ho1 hb1 hs1 hg1 hl1
  have HA1 := hide (insOwn_kept HA.out hg1 (.inr (fun e => by have := Option.some.inj e; dsimp only at this; omega)))
  have HB1 := hide (HB.out.trans hb1)
  have HUN := hide (tunless_ok 3 ho1 (by rw [List.length_append, hlc]; omega))
  clear ho1 hb1 hs1 hg1 hl1 HA HB HU HN
  go_wp2_with fail
  refine HUN.out.mono ?_
  rintro e w2 ⟨v2, rfl, ho2, hb2⟩
  have HA2 := hide (insOwn_keep HA1.out hb2)
  have HB2 := hide (below_step HB1.out hb2)
  have HO2 := hide ho2
  clear ho2 hb2 HA1 HUN HB1
  go_wp2_with (at_builtin; refine wpList_append_insO _ rfl _ _ rfl w.heap.size w1.heap.size [⟨oAlloc, 3, 0, 0, thNo⟩] (uls 3 (numC n ++ l)) _ _ rfl ?q1 rfl ?q2 ?q3 ?q4 ?_)
  case q1 => exact HA2.out
  case q2 => exact HO2.out
  case q3 => simp [uls, hlc]; omega
  case q4 => exact HB2.out.size
  intro v3 w3 ho3 hb3
  have HO3 : Hid (insOwn w3 w.heap.size v3 (newC n l)) := hide ho3
  have HB3 := hide (HB2.out.trans hb3)
  clear ho3 hb3 HB2 HA2 HO2
  go_wp2_with fail
  go_ret
  exact ⟨_, rfl, HO3.out, HB3.out⟩
set_option maxRecDepth 20000 in
theorem tkeep_ok (w : World) : Calls Tryz.prog 67 #[.int .i64 1] w fun e w' => ∃ v', e = .returned v' ∧ insOwn w' w.heap.size v' keepC ∧ Below w.heap.size w w' := by
  go_enter Tryz.func67, Tryz.ntmps67
  go_wp2_with fail
  go_ret
  exact ⟨_, rfl, insOwn_new (l := keepC) rfl (Nat.le_refl _) (show 2 ≤ 1000 by decide), (Below.refl _ _).alloc (Nat.le_refl _) _⟩
set_option maxRecDepth 20000 in
theorem cread_ok (w : World) : Calls Tryz.prog 64 #[] w fun e w' => ∃ v', e = .returned v' ∧ insOwn w' w.heap.size v' readC ∧ Below w.heap.size w w' := by
  go_enter Tryz.func64, Tryz.ntmps64
  go_wp2_with fail
  go_ret
  exact ⟨_, rfl, insOwn_new (l := readC) rfl (Nat.le_refl _) (show 4 ≤ 1000 by decide), (Below.refl _ _).alloc (Nat.le_refl _) _⟩
set_option maxRecDepth 20000 in
theorem cput_ok (n : Int) (w : World) : Calls Tryz.prog 65 #[.int .i64 n] w fun e w' => ∃ v', e = .returned v' ∧ insOwn w' w.heap.size v' (putC n) ∧ Below w.heap.size w w' := by
  have hB : Below w.heap.size w (w.alloc (.cells #[.string oSwap, .int .i64 3, .int .i64 5, .int .i64 0, .string thNo] 101)) := (Below.refl _ _).alloc (Nat.le_refl _) _
  have HN := hide (tnew_ok n (insOwn_new (w := w) (l := [⟨oSwap, 3, 5, 0, thNo⟩]) (cs := #[.string oSwap, .int .i64 3, .int .i64 5, .int .i64 0, .string thNo]) (base := w.heap.size) rfl (Nat.le_refl _) (show 1 ≤ 1000 by decide)) (show 0 < 1 by decide) (show 1 ≤ 900 by decide))
  have HB := hide hB
  clear hB
  go_enter Tryz.func65, Tryz.ntmps65
  go_wp2_with fail
  refine HN.out.mono ?_
  rintro e w2 ⟨v, rfl, hv, hb⟩
  have HO := hide (insOwn_mono hv HB.out.size)
  have HB2 := hide (below_step HB.out hb)
  clear hv hb HB HN
  go_wp2_with fail
  go_ret
  exact ⟨_, rfl, HO.out, HB2.out⟩
set_option maxRecDepth 20000 in
set_option maxHeartbeats 1000000 in
theorem tempty_ok (w : World) : Calls Tryz.prog 63 #[.int .i64 1] w fun e w' => ∃ v', e = .returned v' ∧ insOwn w' w.heap.size v' emptyC ∧ Below w.heap.size w w' := by
  have hB1 : Below w.heap.size w (w.alloc (.cells #[.string oLabel, .int .i64 0, .int .i64 0, .int .i64 0, .string thMore] 101)) := (Below.refl _ _).alloc (Nat.le_refl _) _
  have hL := insOwn_new (w := w) (l := [⟨oLabel, 0, 0, 0, thMore⟩]) (cs := #[.string oLabel, .int .i64 0, .int .i64 0, .int .i64 0, .string thMore]) (base := w.heap.size) rfl (Nat.le_refl _) (show 1 ≤ 1000 by decide)
  have hC := insOwn_new (w := w.alloc (.cells #[.string oLabel, .int .i64 0, .int .i64 0, .int .i64 0, .string thMore] 101)) (l := [⟨oLoad, 0, 4, 1, thNo⟩, ⟨oFree, 4, 0, 0, thNo⟩, ⟨oMove, 4, 0, 0, thNo⟩, ⟨oGoto, 0, 0, 0, thMore⟩]) (cs := #[.string oLoad, .int .i64 0, .int .i64 4, .int .i64 1, .string thNo, .string oFree, .int .i64 4, .int .i64 0, .int .i64 0, .string thNo, .string oMove, .int .i64 4, .int .i64 0, .int .i64 0, .string thNo, .string oGoto, .int .i64 0, .int .i64 0, .int .i64 0, .string thMore]) (base := w.heap.size) rfl hB1.size (show 4 ≤ 1000 by decide)
  rw [World.size_alloc] at hC
  have HU := hide (tunless_ok 4 hC (show 4 ≤ 1000 by decide))
  have hB2 := hB1.alloc hB1.size (.cells #[.string oLoad, .int .i64 0, .int .i64 4, .int .i64 1, .string thNo, .string oFree, .int .i64 4, .int .i64 0, .int .i64 0, .string thNo, .string oMove, .int .i64 4, .int .i64 0, .int .i64 0, .string thNo, .string oGoto, .int .i64 0, .int .i64 0, .int .i64 0, .string thMore] 101)
  have HL := hide (insOwn_keep hL ((Below.refl _ _).alloc (Nat.le_refl _) (.cells #[.string oLoad, .int .i64 0, .int .i64 4, .int .i64 1, .string thNo, .string oFree, .int .i64 4, .int .i64 0, .int .i64 0, .string thNo, .string oMove, .int .i64 4, .int .i64 0, .int .i64 0, .string thNo, .string oGoto, .int .i64 0, .int .i64 0, .int .i64 0, .string thMore] 101)))
  have HB := hide hB2
  clear hB1 hL hC hB2
  go_enter Tryz.func63, Tryz.ntmps63
  go_wp2_with fail
  refine HU.out.mono ?_
  rintro e w2 ⟨v2, rfl, ho2, hb2⟩
  have HL2 := hide (insOwn_keep HL.out hb2)
  have HB2 := hide (below_step HB.out hb2)
  have HO2 := hide (insOwn_mono ho2 (Nat.zero_le _))
  clear ho2 hb2 HL HU HB
  go_wp2_with (at_builtin; refine wpList_append_insO _ rfl _ _ rfl w.heap.size 0 [⟨oLabel, 0, 0, 0, thMore⟩] (uls 4 [⟨oLoad, 0, 4, 1, thNo⟩, ⟨oFree, 4, 0, 0, thNo⟩, ⟨oMove, 4, 0, 0, thNo⟩, ⟨oGoto, 0, 0, 0, thMore⟩]) _ _ rfl ?q1 rfl ?q2 ?q3 ?q4 ?_)
  case q1 => exact HL2.out
  case q2 => exact HO2.out
  case q3 => show 1 + 6 ≤ 2000; decide
  case q4 => exact HB2.out.size
  intro v3 w3 ho3 hb3
  have HO3 : Hid (insOwn w3 w.heap.size v3 emptyC) := hide ho3
  have HB3 := hide (HB2.out.trans hb3)
  clear ho3 hb3 HB2 HL2 HO2
  go_wp2_with fail
  go_ret
  exact ⟨_, rfl, HO3.out, HB3.out⟩
end Go.Proofs.YtaiigfcfmcicjaaGreatDoor

/- ClA -/
namespace Go.Proofs.YtaiigfcfmcicjaaGreatDoor
open Go.RowKit Go.Extern.Stop Go.Stop Go.Extern

def kn (s : List UInt8) : Nat := if (s == [112, 117, 116]) = true then 1 else if (s == [101, 110, 116, 101, 114]) = true then 2 else if (s == [108, 101, 97, 118, 101]) = true then 3 else if (s == [114, 101, 115, 116]) = true then 4 else if (s == [119, 97, 105, 116]) = true then 5 else if (s == [114, 101, 97, 100]) = true then 6 else if (s == [100, 114, 111, 112]) = true then 7 else if (s == [108, 97, 116, 101, 114]) = true then 8 else if (s == [102, 108, 117, 115, 104]) = true then 9 else 0
def KF (s : List UInt8) (b1 b2 b3 b4 b5 b6 b7 b8 b9 : Bool) : Prop := (s == [112, 117, 116]) = b1 ∧ (s == [101, 110, 116, 101, 114]) = b2 ∧ (s == [108, 101, 97, 118, 101]) = b3 ∧ (s == [114, 101, 115, 116]) = b4 ∧ (s == [119, 97, 105, 116]) = b5 ∧ (s == [114, 101, 97, 100]) = b6 ∧ (s == [100, 114, 111, 112]) = b7 ∧ (s == [108, 97, 116, 101, 114]) = b8 ∧ (s == [102, 108, 117, 115, 104]) = b9
theorem kcases (s : List UInt8) : (KF s true false false false false false false false false ∧ kn s = 1) ∨ (KF s false true false false false false false false false ∧ kn s = 2) ∨ (KF s false false true false false false false false false ∧ kn s = 3) ∨ (KF s false false false true false false false false false ∧ kn s = 4) ∨ (KF s false false false false true false false false false ∧ kn s = 5) ∨ (KF s false false false false false true false false false ∧ kn s = 6) ∨ (KF s false false false false false false true false false ∧ kn s = 7) ∨ (KF s false false false false false false false true false ∧ kn s = 8) ∨ (KF s false false false false false false false false true ∧ kn s = 9) ∨ (KF s false false false false false false false false false ∧ kn s = 0) := by
  by_cases h1 : s = [112, 117, 116]
  · subst h1; exact .inl ⟨⟨rfl, rfl, rfl, rfl, rfl, rfl, rfl, rfl, rfl⟩, rfl⟩
  by_cases h2 : s = [101, 110, 116, 101, 114]
  · subst h2; exact .inr (.inl ⟨⟨rfl, rfl, rfl, rfl, rfl, rfl, rfl, rfl, rfl⟩, rfl⟩)
  by_cases h3 : s = [108, 101, 97, 118, 101]
  · subst h3; exact .inr (.inr (.inl ⟨⟨rfl, rfl, rfl, rfl, rfl, rfl, rfl, rfl, rfl⟩, rfl⟩))
  by_cases h4 : s = [114, 101, 115, 116]
  · subst h4; exact .inr (.inr (.inr (.inl ⟨⟨rfl, rfl, rfl, rfl, rfl, rfl, rfl, rfl, rfl⟩, rfl⟩)))
  by_cases h5 : s = [119, 97, 105, 116]
  · subst h5; exact .inr (.inr (.inr (.inr (.inl ⟨⟨rfl, rfl, rfl, rfl, rfl, rfl, rfl, rfl, rfl⟩, rfl⟩))))
  by_cases h6 : s = [114, 101, 97, 100]
  · subst h6; exact .inr (.inr (.inr (.inr (.inr (.inl ⟨⟨rfl, rfl, rfl, rfl, rfl, rfl, rfl, rfl, rfl⟩, rfl⟩)))))
  by_cases h7 : s = [100, 114, 111, 112]
  · subst h7; exact .inr (.inr (.inr (.inr (.inr (.inr (.inl ⟨⟨rfl, rfl, rfl, rfl, rfl, rfl, rfl, rfl, rfl⟩, rfl⟩))))))
  by_cases h8 : s = [108, 97, 116, 101, 114]
  · subst h8; exact .inr (.inr (.inr (.inr (.inr (.inr (.inr (.inl ⟨⟨rfl, rfl, rfl, rfl, rfl, rfl, rfl, rfl, rfl⟩, rfl⟩)))))))
  by_cases h9 : s = [102, 108, 117, 115, 104]
  · subst h9; exact .inr (.inr (.inr (.inr (.inr (.inr (.inr (.inr (.inl ⟨⟨rfl, rfl, rfl, rfl, rfl, rfl, rfl, rfl, rfl⟩, rfl⟩))))))))
  have e : KF s false false false false false false false false false := ⟨beq_eq_false_iff_ne.2 h1, beq_eq_false_iff_ne.2 h2, beq_eq_false_iff_ne.2 h3, beq_eq_false_iff_ne.2 h4, beq_eq_false_iff_ne.2 h5, beq_eq_false_iff_ne.2 h6, beq_eq_false_iff_ne.2 h7, beq_eq_false_iff_ne.2 h8, beq_eq_false_iff_ne.2 h9⟩
  refine .inr (.inr (.inr (.inr (.inr (.inr (.inr (.inr (.inr ⟨e, ?_⟩))))))))
  obtain ⟨e1, e2, e3, e4, e5, e6, e7, e8, e9⟩ := e
  unfold kn
  simp only [e1, e2, e3, e4, e5, e6, e7, e8, e9]
  rfl

def ckErr (i : Nat) (deep : Int) (ret : Bool) : Nat :=
  if i = 3 ∨ i = 6 then (if 0 < deep then 0 else 8) else if i = 4 ∨ i = 5 ∨ i = 9 then (if 0 < deep then 8 else 0) else if i = 1 then (if 0 < deep ∨ ret = true then 8 else 0) else if i = 7 ∨ i = 8 then (if ret = true then 0 else 5) else 0

set_option maxRecDepth 20000 in
set_option maxHeartbeats 4000000 in
theorem ccheck_any {a : Nat → Addr} (deep : Int) (ret wt : Bool) (k : ByteArray) {w : World} (hE : Env a w) :
    Calls Tryz.prog 79 #[.agg #[.int .i64 deep, .bool ret, .bool wt], .string k] w fun e w' => e = .returned (errVal a (ckErr (kn k.toList) deep ret)) ∧ Below w.heap.size w w' := by
  have hB : Below w.heap.size w (w.alloc (.cells #[.int .i64 deep, .bool ret, .bool wt] 85)) := (Below.refl _ _).alloc (Nat.le_refl _) _
  have g7 : (w.alloc (.cells #[.int .i64 deep, .bool ret, .bool wt] 85)).cell? ⟨7, 0, none⟩ = some (errAt (a 7)) := keep_cell hB (hE.cell 7 (by decide))
  have g4 : (w.alloc (.cells #[.int .i64 deep, .bool ret, .bool wt] 85)).cell? ⟨4, 0, none⟩ = some (errAt (a 4)) := keep_cell hB (hE.cell 4 (by decide))
  clear hE
  have hd : 0 < deep ∨ ¬ 0 < deep := by omega
  rcases kcases k.toList with ⟨h, hk⟩ | ⟨h, hk⟩ | ⟨h, hk⟩ | ⟨h, hk⟩ | ⟨h, hk⟩ | ⟨h, hk⟩ | ⟨h, hk⟩ | ⟨h, hk⟩ | ⟨h, hk⟩ | ⟨h, hk⟩
  all_goals
    rw [hk]
    clear hk
    obtain ⟨e1, e2, e3, e4, e5, e6, e7, e8, e9⟩ := h
    rcases hd with hd | hd <;> cases ret
    all_goals
      go_enter Tryz.func79, Tryz.ntmps79
      go_wp2_with fail
      go_ret
      refine ⟨?_, hB⟩
      first | (simp [ckErr, hd, errVal]; done) | ((have hd2 : ¬ 0 < deep := (by omega)); simp [ckErr, hd2, errVal]; done)


structure CrAt (c : Nat) (deep : Int) (ret wt : Bool) (w : World) : Prop where
  c0 : w.cell? ⟨c, 0, none⟩ = some (.int .i64 deep)
  c1 : w.cell? ⟨c, 1, none⟩ = some (.bool ret)
  c2 : w.cell? ⟨c, 2, none⟩ = some (.bool wt)
  fz : ∀ o, w.frozen? ⟨c, o, none⟩ = false
theorem CrAt.below {c : Nat} {deep : Int} {ret wt : Bool} {w w' : World} (h : CrAt c deep ret wt w) (hb : Below w.heap.size w w') : CrAt c deep ret wt w' :=
  ⟨keep_cell hb h.c0, keep_cell hb h.c1, keep_cell hb h.c2, fun o => by rw [hb.frozen (show c < _ from World.block_lt_of_cell? _ _ h.c0)]; exact h.fz o⟩
theorem CrAt.set0 {c : Nat} {deep : Int} {ret wt : Bool} {w : World} (h : CrAt c deep ret wt w) (x : Int) : CrAt c x ret wt (w.setCell ⟨c, 0, none⟩ (.int .i64 x)) :=
  ⟨World.cell?_setCell_same _ _ _ h.c0, cell_ne h.c1 (.inr (by decide)), cell_ne h.c2 (.inr (by decide)), fun o => by rw [World.frozen?_setCell]; exact h.fz o⟩
theorem CrAt.set1 {c : Nat} {deep : Int} {ret wt : Bool} {w : World} (h : CrAt c deep ret wt w) (x : Bool) : CrAt c deep x wt (w.setCell ⟨c, 1, none⟩ (.bool x)) :=
  ⟨cell_ne h.c0 (.inr (by decide)), World.cell?_setCell_same _ _ _ h.c1, cell_ne h.c2 (.inr (by decide)), fun o => by rw [World.frozen?_setCell]; exact h.fz o⟩
theorem CrAt.set2 {c : Nat} {deep : Int} {ret wt : Bool} {w : World} (h : CrAt c deep ret wt w) (x : Bool) : CrAt c deep ret x (w.setCell ⟨c, 2, none⟩ (.bool x)) :=
  ⟨cell_ne h.c0 (.inr (by decide)), cell_ne h.c1 (.inr (by decide)), World.cell?_setCell_same _ _ _ h.c2, fun o => by rw [World.frozen?_setCell]; exact h.fz o⟩
def psDeep (i : Nat) (deep : Int) : Int := if i = 2 then deep + 1 else if i = 3 then deep - 1 else deep
def psRet (i : Nat) (ret : Bool) : Bool := if i = 1 then true else if i = 7 ∨ i = 8 then false else ret
def psWt (i : Nat) (wt : Bool) : Bool := if i = 5 ∨ i = 9 then true else if i = 1 then false else wt
set_option maxRecDepth 20000 in
set_option maxHeartbeats 4000000 in
theorem cpass_any {c : Nat} {deep : Int} {ret wt : Bool} (k : ByteArray) {w : World} (h : CrAt c deep ret wt w) (hd : -1000 ≤ deep ∧ deep ≤ 1000) :
    Calls Tryz.prog 80 #[.pointer (some ⟨c, 0, none⟩), .string k] w fun e w' => e = .returned (.tuple #[]) ∧ CrAt c (psDeep (kn k.toList) deep) (psRet (kn k.toList) ret) (psWt (kn k.toList) wt) w' ∧ Turns (fun b _ => b = c) w w' := by
  have HH := hide h
  obtain ⟨c0, c1, c2, fz⟩ := h
  have f0 := fz 0
  have f1 := fz 1
  have f2 := fz 2
  have w1 : IntKind.i64.wrap (deep + 1) = deep + 1 := by rw [IntKind.wrap_i64]; omega
  have w2 : IntKind.i64.wrap (deep - 1) = deep - 1 := by rw [IntKind.wrap_i64]; omega
  clear fz
  rcases kcases k.toList with ⟨h, hk⟩ | ⟨h, hk⟩ | ⟨h, hk⟩ | ⟨h, hk⟩ | ⟨h, hk⟩ | ⟨h, hk⟩ | ⟨h, hk⟩ | ⟨h, hk⟩ | ⟨h, hk⟩ | ⟨h, hk⟩
  all_goals
    rw [hk]
    clear hk
    obtain ⟨e1, e2, e3, e4, e5, e6, e7, e8, e9⟩ := h
    go_enter Tryz.func80, Tryz.ntmps80
    go_wp2_with fail
    go_end0
    refine ⟨rfl, ?_⟩
    first
      | exact ⟨HH.out, Turns.refl _ _⟩
      | exact ⟨HH.out.set0 _, (Turns.refl _ _).setCell _ rfl⟩
      | exact ⟨HH.out.set1 _, (Turns.refl _ _).setCell _ rfl⟩
      | exact ⟨HH.out.set2 _, (Turns.refl _ _).setCell _ rfl⟩
      | exact ⟨(HH.out.set1 _).set2 _, Turns.setCell (S := fun b _ => b = c) (Turns.setCell (S := fun b _ => b = c) (Turns.refl _ _) _ rfl) _ rfl⟩

end Go.Proofs.YtaiigfcfmcicjaaGreatDoor

/- ThI -/
namespace Go.Proofs.YtaiigfcfmcicjaaGreatDoor
open Go.RowKit Go.Extern.Stop Go.Stop Go.Extern Go.Maps Go.WideMaps Go.Sort

def clG : ByteArray := ⟨#[103]⟩
theorem clG_name : isName clG := nameB_is (by decide +kernel)
def clP (f i : Nat) (n : Int) : List Ins :=
  if i = 1 then putC n else if i = 2 then gCode clG (gEnter f) else if i = 3 then gCode clG (gLeave f) else if i = 4 then gCode clG (gRest f) else if i = 5 then gCode clG (gWait f) else if i = 6 then readC else if i = 7 then uls 3 [⟨oFree, 3, 0, 0, thNo⟩] else if i = 8 then uls 3 keepC else gCode clG (gWait f) ++ emptyC
theorem gwait_len (f : Nat) (hf : 1 ≤ f ∧ f ≤ 4) : (gCode clG (gWait f)).length ≤ 60 := by
  unfold gCode
  rw [List.length_map]
  have : f = 1 ∨ f = 2 ∨ f = 3 ∨ f = 4 := by omega
  rcases this with rfl | rfl | rfl | rfl <;> decide

set_option maxRecDepth 20000 in
set_option maxHeartbeats 4000000 in
theorem cop_ok {f : Nat} (hf : 1 ≤ f ∧ f ≤ 4) (k : ByteArray) (n : Int) (hk0 : kn k.toList ≠ 0) (w : World) :
    Calls Tryz.prog 40 #[.int .i64 f, .agg #[.string k, .int .i64 n]] w fun e w' => ∃ v, e = .returned (.tuple #[v, .nilIface]) ∧ insOwn w' w.heap.size v (clP f (kn k.toList) n) ∧ Below w.heap.size w w' := by
  have hB : Below w.heap.size w (w.alloc (.cells #[.string k, .int .i64 n] 72)) := (Below.refl _ _).alloc (Nat.le_refl _) _
  have HB := hide hB
  have HE := hide (fun w => enter_ok hf clG_name (by decide) w)
  have HL := hide (fun w => leave_ok hf clG_name (by decide) w)
  have HR := hide (fun w => rest_ok hf clG_name (by decide) w)
  have HW := hide (fun w => wait_ok hf clG_name (by decide) w)
  have HWL := hide (gwait_len f hf)
  have HC : Hid (∀ i, i ≠ 0 → clP f i n = clP f i n) := hide fun _ _ => rfl
  have HPU := hide (fun w => cput_ok n w)
  have HRD := hide cread_ok
  have HEM := hide tempty_ok
  have HKE := hide tkeep_ok
  have hcn : ∀ o, (w.alloc (.cells #[.string k, .int .i64 n] 72)).cell? ⟨w.heap.size, o, none⟩ = (#[.string k, .int .i64 n] : Array Value)[o]? := fun o => World.cell?_alloc_new _ _ _ _
  clear hB
  rcases kcases k.toList with ⟨h, hk⟩ | ⟨h, hk⟩ | ⟨h, hk⟩ | ⟨h, hk⟩ | ⟨h, hk⟩ | ⟨h, hk⟩ | ⟨h, hk⟩ | ⟨h, hk⟩ | ⟨h, hk⟩ | ⟨h, hk⟩
  · rw [hk]
    clear hk hk0
    obtain ⟨e1, e2, e3, e4, e5, e6, e7, e8, e9⟩ := h
    show Calls _ _ _ _ (fun e w' => ∃ v, e = .returned (.tuple #[v, .nilIface]) ∧ insOwn w' w.heap.size v (putC n) ∧ Below w.heap.size w w')
    clear hcn
    generalize (f : Int) = fi at *
    go_enter Tryz.func40, Tryz.ntmps40
    go_wp2_with fail
    refine (HPU.out _).mono ?_
    rintro e w2 ⟨v, rfl, hv, hb⟩
    have HO := hide (insOwn_mono hv HB.out.size)
    have HB2 := hide (below_step HB.out hb)
    clear hv hb
    go_wp2_with fail
    go_ret2
    exact ⟨_, rfl, HO.out, HB2.out⟩
  · rw [hk]
    clear hk hk0
    obtain ⟨e1, e2, e3, e4, e5, e6, e7, e8, e9⟩ := h
    show Calls _ _ _ _ (fun e w' => ∃ v, e = .returned (.tuple #[v, .nilIface]) ∧ insOwn w' w.heap.size v (gCode clG (gEnter f)) ∧ Below w.heap.size w w')
    clear hcn
    generalize (f : Int) = fi at *
    go_enter Tryz.func40, Tryz.ntmps40
    go_wp2_with fail
    refine (HE.out _).mono ?_
    rintro e w2 ⟨v, rfl, hv, hb⟩
    have HO := hide (insOwn_mono hv HB.out.size)
    have HB2 := hide (below_step HB.out hb)
    clear hv hb
    go_wp2_with fail
    go_ret2
    exact ⟨_, rfl, HO.out, HB2.out⟩
  · rw [hk]
    clear hk hk0
    obtain ⟨e1, e2, e3, e4, e5, e6, e7, e8, e9⟩ := h
    show Calls _ _ _ _ (fun e w' => ∃ v, e = .returned (.tuple #[v, .nilIface]) ∧ insOwn w' w.heap.size v (gCode clG (gLeave f)) ∧ Below w.heap.size w w')
    clear hcn
    generalize (f : Int) = fi at *
    go_enter Tryz.func40, Tryz.ntmps40
    go_wp2_with fail
    refine (HL.out _).mono ?_
    rintro e w2 ⟨v, rfl, hv, hb⟩
    have HO := hide (insOwn_mono hv HB.out.size)
    have HB2 := hide (below_step HB.out hb)
    clear hv hb
    go_wp2_with fail
    go_ret2
    exact ⟨_, rfl, HO.out, HB2.out⟩
  · rw [hk]
    clear hk hk0
    obtain ⟨e1, e2, e3, e4, e5, e6, e7, e8, e9⟩ := h
    show Calls _ _ _ _ (fun e w' => ∃ v, e = .returned (.tuple #[v, .nilIface]) ∧ insOwn w' w.heap.size v (gCode clG (gRest f)) ∧ Below w.heap.size w w')
    clear hcn
    generalize (f : Int) = fi at *
    go_enter Tryz.func40, Tryz.ntmps40
    go_wp2_with fail
    refine (HR.out _).mono ?_
    rintro e w2 ⟨v, rfl, hv, hb⟩
    have HO := hide (insOwn_mono hv HB.out.size)
    have HB2 := hide (below_step HB.out hb)
    clear hv hb
    go_wp2_with fail
    go_ret2
    exact ⟨_, rfl, HO.out, HB2.out⟩
  · rw [hk]
    clear hk hk0
    obtain ⟨e1, e2, e3, e4, e5, e6, e7, e8, e9⟩ := h
    show Calls _ _ _ _ (fun e w' => ∃ v, e = .returned (.tuple #[v, .nilIface]) ∧ insOwn w' w.heap.size v (gCode clG (gWait f)) ∧ Below w.heap.size w w')
    clear hcn
    generalize (f : Int) = fi at *
    go_enter Tryz.func40, Tryz.ntmps40
    go_wp2_with fail
    refine (HW.out _).mono ?_
    rintro e w2 ⟨v, rfl, hv, hb⟩
    have HO := hide (insOwn_mono hv HB.out.size)
    have HB2 := hide (below_step HB.out hb)
    clear hv hb
    go_wp2_with fail
    go_ret2
    exact ⟨_, rfl, HO.out, HB2.out⟩
  · rw [hk]
    clear hk hk0
    obtain ⟨e1, e2, e3, e4, e5, e6, e7, e8, e9⟩ := h
    show Calls _ _ _ _ (fun e w' => ∃ v, e = .returned (.tuple #[v, .nilIface]) ∧ insOwn w' w.heap.size v readC ∧ Below w.heap.size w w')
    clear hcn
    generalize (f : Int) = fi at *
    go_enter Tryz.func40, Tryz.ntmps40
    go_wp2_with fail
    refine (HRD.out _).mono ?_
    rintro e w2 ⟨v, rfl, hv, hb⟩
    have HO := hide (insOwn_mono hv HB.out.size)
    have HB2 := hide (below_step HB.out hb)
    clear hv hb
    go_wp2_with fail
    go_ret2
    exact ⟨_, rfl, HO.out, HB2.out⟩
  · rw [hk]
    clear hk hk0
    obtain ⟨e1, e2, e3, e4, e5, e6, e7, e8, e9⟩ := h
    have hfr := insOwn_new (w := w.alloc (.cells #[.string k, .int .i64 n] 72)) (l := [⟨oFree, 3, 0, 0, thNo⟩]) (cs := #[.string oFree, .int .i64 3, .int .i64 0, .int .i64 0, .string thNo]) (base := w.heap.size) rfl HB.out.size (show 1 ≤ 1000 by decide)
    rw [World.size_alloc] at hfr
    have HU := hide (tunless_ok 3 hfr (show 1 ≤ 1000 by decide))
    have HBX := hide (HB.out.alloc HB.out.size (.cells #[.string oFree, .int .i64 3, .int .i64 0, .int .i64 0, .string thNo] 101))
    clear hfr
    clear hcn
    generalize (f : Int) = fi at *
    go_enter Tryz.func40, Tryz.ntmps40
    go_wp2_with fail
    refine HU.out.mono ?_
    rintro e w2 ⟨v, rfl, hv, hb⟩
    have HO := hide (insOwn_mono hv HBX.out.size)
    have HB2 := hide (below_step HBX.out hb)
    clear hv hb
    go_wp2_with fail
    go_ret2
    exact ⟨_, rfl, HO.out, HB2.out⟩
  · rw [hk]
    clear hk hk0
    obtain ⟨e1, e2, e3, e4, e5, e6, e7, e8, e9⟩ := h
    clear hcn
    generalize (f : Int) = fi at *
    go_enter Tryz.func40, Tryz.ntmps40
    go_wp2_with fail
    refine (HKE.out _).mono ?_
    rintro e w1 ⟨v1, rfl, hv1, hb1⟩
    have HU := hide (tunless_ok 3 hv1 (show 2 ≤ 1000 by decide))
    have HBX := hide (below_step HB.out hb1)
    obtain ⟨x1, c1, rfl, -⟩ := ownsRow_shape hv1
    clear hv1 hb1
    go_wp2_with fail
    refine HU.out.mono ?_
    rintro e w2 ⟨v, rfl, hv, hb⟩
    have HO := hide (insOwn_mono hv HBX.out.size)
    have HB2 := hide (below_step HBX.out hb)
    clear hv hb
    go_wp2_with fail
    go_ret2
    exact ⟨_, rfl, HO.out, HB2.out⟩
  · rw [hk]
    clear hk hk0
    obtain ⟨e1, e2, e3, e4, e5, e6, e7, e8, e9⟩ := h
    clear hcn
    generalize (f : Int) = fi at *
    go_enter Tryz.func40, Tryz.ntmps40
    go_wp2_with fail
    refine (HW.out _).mono ?_
    rintro e w1 ⟨v1, rfl, hv1, hb1⟩
    have HV1 := hide (insOwn_mono hv1 HB.out.size)
    have HB1 := hide (below_step HB.out hb1)
    obtain ⟨x1, c1, rfl, -⟩ := ownsRow_shape hv1
    clear hv1 hb1
    go_wp2_with fail
    refine (HEM.out _).mono ?_
    rintro e w2 ⟨v2, rfl, hv2, hb2⟩
    have HV2 := hide (insOwn_keep HV1.out hb2)
    have HB2 := hide (below_step HB1.out hb2)
    have HE2 := hide (insOwn_mono hv2 (Nat.zero_le _))
    obtain ⟨x2, c2, rfl, -⟩ := ownsRow_shape hv2
    clear hv2 hb2 HV1 HB1
    go_wp2_with (at_builtin; refine wpList_append_insO _ rfl _ _ rfl w.heap.size 0 (gCode clG (gWait f)) emptyC _ _ rfl ?q1 rfl ?q2 ?q3 ?q4 ?_)
    case q1 => exact HV2.out
    case q2 => exact HE2.out
    case q3 => have := HWL.out; have h7 : emptyC.length = 7 := rfl; omega
    case q4 => exact HB2.out.size
    intro v3 w3 ho3 hb3
    have HO3 := hide ho3
    have HB3 := hide (HB2.out.trans hb3)
    clear ho3 hb3 HB2 HV2 HE2
    go_wp2_with fail
    go_ret2
    exact ⟨_, rfl, HO3.out, HB3.out⟩
  · exact absurd hk hk0
end Go.Proofs.YtaiigfcfmcicjaaGreatDoor
