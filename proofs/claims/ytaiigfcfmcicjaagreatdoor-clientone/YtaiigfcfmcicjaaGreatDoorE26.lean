import Derived.Test.YtaiigfcfmcicjaaGreatDoorE25
import Derived.Test.YtaiigfcfmcicjaaGreatDoorE03
import Derived.Test.YtaiigfcfmcicjaaGreatDoorE02
namespace Go.Proofs.YtaiigfcfmcicjaaGreatDoor
set_option maxRecDepth 100000
set_option maxHeartbeats 8000000
section
open Go.RowKit Go.Extern.Stop Go.Stop Go.Extern
def kn (s : List UInt8) : Nat := if (s == [112, 117, 116]) = true then 1 else if (s == [101, 110, 116, 101, 114]) = true then 2 else if (s == [108, 101, 97, 118, 101]) = true then 3 else if (s == [114, 101, 115, 116]) = true then 4 else if (s == [119, 97, 105, 116]) = true then 5 else if (s == [114, 101, 97, 100]) = true then 6 else if (s == [100, 114, 111, 112]) = true then 7 else if (s == [108, 97, 116, 101, 114]) = true then 8 else if (s == [102, 108, 117, 115, 104]) = true then 9 else 0
def KF (s : List UInt8) (b1 b2 b3 b4 b5 b6 b7 b8 b9 : Bool) : Prop := (s == [112, 117, 116]) = b1 /\ (s == [101, 110, 116, 101, 114]) = b2 /\ (s == [108, 101, 97, 118, 101]) = b3 /\ (s == [114, 101, 115, 116]) = b4 /\ (s == [119, 97, 105, 116]) = b5 /\ (s == [114, 101, 97, 100]) = b6 /\ (s == [100, 114, 111, 112]) = b7 /\ (s == [108, 97, 116, 101, 114]) = b8 /\ (s == [102, 108, 117, 115, 104]) = b9
theorem kcases (s : List UInt8) : (KF s true false false false false false false false false /\ kn s = 1) ∨ (KF s false true false false false false false false false /\ kn s = 2) ∨ (KF s false false true false false false false false false /\ kn s = 3) ∨ (KF s false false false true false false false false false /\ kn s = 4) ∨ (KF s false false false false true false false false false /\ kn s = 5) ∨ (KF s false false false false false true false false false /\ kn s = 6) ∨ (KF s false false false false false false true false false /\ kn s = 7) ∨ (KF s false false false false false false false true false /\ kn s = 8) ∨ (KF s false false false false false false false false true /\ kn s = 9) ∨ (KF s false false false false false false false false false /\ kn s = 0) := by
 by_cases h1 : s = [112, 117, 116]
 ·subst h1; exact .inl ⟨⟨rfl, rfl, rfl, rfl, rfl, rfl, rfl, rfl, rfl⟩, rfl⟩
 by_cases h2 : s = [101, 110, 116, 101, 114]
 ·subst h2; exact .inr (.inl ⟨⟨rfl, rfl, rfl, rfl, rfl, rfl, rfl, rfl, rfl⟩, rfl⟩)
 by_cases h3 : s = [108, 101, 97, 118, 101]
 ·subst h3; exact .inr (.inr (.inl ⟨⟨rfl, rfl, rfl, rfl, rfl, rfl, rfl, rfl, rfl⟩, rfl⟩))
 by_cases h4 : s = [114, 101, 115, 116]
 ·subst h4; exact .inr (.inr (.inr (.inl ⟨⟨rfl, rfl, rfl, rfl, rfl, rfl, rfl, rfl, rfl⟩, rfl⟩)))
 by_cases h5 : s = [119, 97, 105, 116]
 ·subst h5; exact .inr (.inr (.inr (.inr (.inl ⟨⟨rfl, rfl, rfl, rfl, rfl, rfl, rfl, rfl, rfl⟩, rfl⟩))))
 by_cases h6 : s = [114, 101, 97, 100]
 ·subst h6; exact .inr (.inr (.inr (.inr (.inr (.inl ⟨⟨rfl, rfl, rfl, rfl, rfl, rfl, rfl, rfl, rfl⟩, rfl⟩)))))
 by_cases h7 : s = [100, 114, 111, 112]
 ·subst h7; exact .inr (.inr (.inr (.inr (.inr (.inr (.inl ⟨⟨rfl, rfl, rfl, rfl, rfl, rfl, rfl, rfl, rfl⟩, rfl⟩))))))
 by_cases h8 : s = [108, 97, 116, 101, 114]
 ·subst h8; exact .inr (.inr (.inr (.inr (.inr (.inr (.inr (.inl ⟨⟨rfl, rfl, rfl, rfl, rfl, rfl, rfl, rfl, rfl⟩, rfl⟩)))))))
 by_cases h9 : s = [102, 108, 117, 115, 104]
 ·subst h9; exact .inr (.inr (.inr (.inr (.inr (.inr (.inr (.inr (.inl ⟨⟨rfl, rfl, rfl, rfl, rfl, rfl, rfl, rfl, rfl⟩, rfl⟩))))))))
 have e : KF s false false false false false false false false false := ⟨beq_eq_false_iff_ne.2 h1, beq_eq_false_iff_ne.2 h2, beq_eq_false_iff_ne.2 h3, beq_eq_false_iff_ne.2 h4, beq_eq_false_iff_ne.2 h5, beq_eq_false_iff_ne.2 h6, beq_eq_false_iff_ne.2 h7, beq_eq_false_iff_ne.2 h8, beq_eq_false_iff_ne.2 h9⟩
 refine .inr (.inr (.inr (.inr (.inr (.inr (.inr (.inr (.inr ⟨e, ?_⟩))))))))
 obtain ⟨e1, e2, e3, e4, e5, e6, e7, e8, e9⟩ := e
 unfold kn
 simp only [e1, e2, e3, e4, e5, e6, e7, e8, e9]
 rfl
def ckErr (i : Nat) (deep : Int) (ret : Bool) : Nat :=
 if i = 3 ∨ i = 6 then (if 0 < deep then 0 else 8) else if i = 4 ∨ i = 5 ∨ i = 9 then (if 0 < deep then 8 else 0) else if i = 1 then (if 0 < deep ∨ ret = true then 8 else 0) else if i = 7 ∨ i = 8 then (if ret = true then 0 else 5) else 0
theorem ccheck_any {a : Nat -> Addr} (deep : Int) (ret wt : Bool) (k : ByteArray) {w : World} (hE : EnvL a w) :
  Calls Tryz.prog 79 #[.agg #[.int .i64 deep, .bool ret, .bool wt], .string k] w fun e w' => e = .returned (errVal a (ckErr (kn k.toList) deep ret)) /\ Below w.heap.size w w' := by
 have hB : Below w.heap.size w (w.alloc (.cells #[.int .i64 deep, .bool ret, .bool wt] 85)) := bRf.alloc nL _
 have g7 : (w.alloc (.cells #[.int .i64 deep, .bool ret, .bool wt] 85)).cell? ⟨7, 0, none⟩ = some (errAt (a 7)) := keep_cell hB (hE.cell 7 (by decide))
 have g4 : (w.alloc (.cells #[.int .i64 deep, .bool ret, .bool wt] 85)).cell? ⟨4, 0, none⟩ = some (errAt (a 4)) := keep_cell hB (hE.cell 4 (by decide))
 clear hE
 have hd : 0 < deep ∨ ¬ 0 < deep := by omega
 rcases kcases k.toList with ⟨h, hk⟩ | ⟨h, hk⟩ | ⟨h, hk⟩ | ⟨h, hk⟩ | ⟨h, hk⟩ | ⟨h, hk⟩ | ⟨h, hk⟩ | ⟨h, hk⟩ | ⟨h, hk⟩ | ⟨h, hk⟩
 all_goals
  rw [hk]
  clear hk
  obtain ⟨e1, e2, e3, e4, e5, e6, e7, e8, e9⟩ := h
  rcases hd with hd | hd <;> cases ret
  all_goals
   go_enter Tryz.func79, Tryz.ntmps79
   go_wp2_with fail
   go_ret
   refine ⟨?_, hB⟩
   first | (simp [ckErr, hd, errVal]; done) | ((have hd2 : ¬ 0 < deep := (by omega)); simp [ckErr, hd2, errVal]; done)
structure CrAt (c : Nat) (deep : Int) (ret wt : Bool) (w : World) : Prop where
 c0 : w.cell? ⟨c, 0, none⟩ = some (.int .i64 deep)
 c1 : w.cell? ⟨c, 1, none⟩ = some (.bool ret)
 c2 : w.cell? ⟨c, 2, none⟩ = some (.bool wt)
 fz : ∀ o, w.frozen? ⟨c, o, none⟩ = false
theorem CrAt.below {c : Nat} {deep : Int} {ret wt : Bool} {w w' : World} (h : CrAt c deep ret wt w) (hb : Below w.heap.size w w') : CrAt c deep ret wt w' :=
 ⟨keep_cell hb h.c0, keep_cell hb h.c1, keep_cell hb h.c2, fun o => by rw [hb.frozen (show c < _ from bLt h.c0)]; exact h.fz o⟩
theorem CrAt.set0 {c : Nat} {deep : Int} {ret wt : Bool} {w : World} (h : CrAt c deep ret wt w) (x : Int) : CrAt c x ret wt (w.setCell ⟨c, 0, none⟩ (.int .i64 x)) :=
 ⟨World.cell?_setCell_same _ _ _ h.c0, cell_ne h.c1 (.inr (by decide)), cell_ne h.c2 (.inr (by decide)), fun o => by rw [World.frozen?_setCell]; exact h.fz o⟩
theorem CrAt.set1 {c : Nat} {deep : Int} {ret wt : Bool} {w : World} (h : CrAt c deep ret wt w) (x : Bool) : CrAt c deep x wt (w.setCell ⟨c, 1, none⟩ (.bool x)) :=
 ⟨cell_ne h.c0 (.inr (by decide)), World.cell?_setCell_same _ _ _ h.c1, cell_ne h.c2 (.inr (by decide)), fun o => by rw [World.frozen?_setCell]; exact h.fz o⟩
theorem CrAt.set2 {c : Nat} {deep : Int} {ret wt : Bool} {w : World} (h : CrAt c deep ret wt w) (x : Bool) : CrAt c deep ret x (w.setCell ⟨c, 2, none⟩ (.bool x)) :=
 ⟨cell_ne h.c0 (.inr (by decide)), cell_ne h.c1 (.inr (by decide)), World.cell?_setCell_same _ _ _ h.c2, fun o => by rw [World.frozen?_setCell]; exact h.fz o⟩
def psDeep (i : Nat) (deep : Int) : Int := if i = 2 then deep + 1 else if i = 3 then deep - 1 else deep
def psRet (i : Nat) (ret : Bool) : Bool := if i = 1 then true else if i = 7 ∨ i = 8 then false else ret
def psWt (i : Nat) (wt : Bool) : Bool := if i = 5 ∨ i = 9 then true else if i = 1 then false else wt
theorem cpass_any {c : Nat} {deep : Int} {ret wt : Bool} (k : ByteArray) {w : World} (h : CrAt c deep ret wt w) (hd : -1000 <= deep /\ deep <= 1000) :
  Calls Tryz.prog 80 #[.pointer (some ⟨c, 0, none⟩), .string k] w fun e w' => e = .returned (.tuple #[]) /\ CrAt c (psDeep (kn k.toList) deep) (psRet (kn k.toList) ret) (psWt (kn k.toList) wt) w' /\ Turns (fun b _ => b = c) w w' := by
 have HH := hide h
 obtain ⟨c0, c1, c2, fz⟩ := h
 have f0 := fz 0
 have f1 := fz 1
 have f2 := fz 2
 have w1 : IntKind.i64.wrap (deep + 1) = deep + 1 := by rw [IntKind.wrap_i64]; omega
 have w2 : IntKind.i64.wrap (deep - 1) = deep - 1 := by rw [IntKind.wrap_i64]; omega
 clear fz
 rcases kcases k.toList with ⟨h, hk⟩ | ⟨h, hk⟩ | ⟨h, hk⟩ | ⟨h, hk⟩ | ⟨h, hk⟩ | ⟨h, hk⟩ | ⟨h, hk⟩ | ⟨h, hk⟩ | ⟨h, hk⟩ | ⟨h, hk⟩
 all_goals
  rw [hk]
  clear hk
  obtain ⟨e1, e2, e3, e4, e5, e6, e7, e8, e9⟩ := h
  go_enter Tryz.func80, Tryz.ntmps80
  go_wp2_with fail
  go_end0
  refine ⟨rfl, ?_⟩
  first
   | exact ⟨HH.out, Turns.refl _ _⟩
   | exact ⟨HH.out.set0 _, (Turns.refl _ _).setCell _ rfl⟩
   | exact ⟨HH.out.set1 _, (Turns.refl _ _).setCell _ rfl⟩
   | exact ⟨HH.out.set2 _, (Turns.refl _ _).setCell _ rfl⟩
   | exact ⟨(HH.out.set1 _).set2 _, Turns.setCell (S := fun b _ => b = c) (Turns.setCell (S := fun b _ => b = c) (Turns.refl _ _) _ rfl) _ rfl⟩
end
section
open Go.RowKit Go.Extern.Stop Go.Stop Go.Extern Go.Maps Go.WideMaps Go.Sort
def clG : ByteArray := ⟨#[103]⟩
theorem clG_name : isName clG := nameB_is (by decide +kernel)
def clP (f i : Nat) (n : Int) : List Ins :=
 if i = 1 then putC n else if i = 2 then gCode clG (gEnter f) else if i = 3 then gCode clG (gLeave f) else if i = 4 then gCode clG (gRest f) else if i = 5 then gCode clG (gWait f) else if i = 6 then readC else if i = 7 then uls 3 [⟨oFree, 3, 0, 0, thNo⟩] else if i = 8 then uls 3 keepC else gCode clG (gWait f) ++ emptyC
theorem gwait_len (f : Nat) (hf : 1 <= f /\ f <= 4) : (gCode clG (gWait f)).length <= 60 := by
 unfold gCode
 rw [List.length_map]
 have : f = 1 ∨ f = 2 ∨ f = 3 ∨ f = 4 := by omega
 rcases this with rfl | rfl | rfl | rfl <;> decide
theorem cop_ok {f : Nat} (hf : 1 <= f /\ f <= 4) (k : ByteArray) (n : Int) (hk0 : kn k.toList ≠ 0) (w : World) :
  Calls Tryz.prog 40 #[.int .i64 f, .agg #[.string k, .int .i64 n]] w fun e w' => ∃ v, e = .returned (.tuple #[v, .nilIface]) /\ insOwn w' w.heap.size v (clP f (kn k.toList) n) /\ Below w.heap.size w w' := by
 have hB : Below w.heap.size w (w.alloc (.cells #[.string k, .int .i64 n] 72)) := bRf.alloc nL _
 have HB := hide hB
 have HE := hide (fun w => enter_ok hf clG_name (by decide) w)
 have HL := hide (fun w => leave_ok hf clG_name (by decide) w)
 have HR := hide (fun w => rest_ok hf clG_name (by decide) w)
 have HW := hide (fun w => wait_ok hf clG_name (by decide) w)
 have HWL := hide (gwait_len f hf)
 have HC : Hid (∀ i, i ≠ 0 -> clP f i n = clP f i n) := hide fun _ _ => rfl
 have HPU := hide (fun w => cput_ok n w)
 have HRD := hide cread_ok
 have HEM := hide tempty_ok
 have HKE := hide tkeep_ok
 have hcn : ∀ o, (w.alloc (.cells #[.string k, .int .i64 n] 72)).cell? ⟨w.heap.size, o, none⟩ = (#[.string k, .int .i64 n] : Array Value)[o]? := fun o => World.cell?_alloc_new _ _ _ _
 clear hB
 rcases kcases k.toList with ⟨h, hk⟩ | ⟨h, hk⟩ | ⟨h, hk⟩ | ⟨h, hk⟩ | ⟨h, hk⟩ | ⟨h, hk⟩ | ⟨h, hk⟩ | ⟨h, hk⟩ | ⟨h, hk⟩ | ⟨h, hk⟩
 ·rw [hk]
  clear hk hk0
  obtain ⟨e1, e2, e3, e4, e5, e6, e7, e8, e9⟩ := h
  show Calls _ _ _ _ (fun e w' => ∃ v, e = .returned (.tuple #[v, .nilIface]) /\ insOwn w' w.heap.size v (putC n) /\ Below w.heap.size w w')
  clear hcn
  generalize (f : Int) = fi at *
  go_enter Tryz.func40, Tryz.ntmps40
  go_wp2_with fail
  refine (HPU.out _).mono ?_
  rintro e w2 ⟨v, rfl, hv, hb⟩
  have HO := hide (insOwn_mono hv HB.out.size)
  have HB2 := hide (below_step HB.out hb)
  clear hv hb
  go_wp2_with fail
  go_ret2
  exact ⟨_, rfl, HO.out, HB2.out⟩
 ·rw [hk]
  clear hk hk0
  obtain ⟨e1, e2, e3, e4, e5, e6, e7, e8, e9⟩ := h
  show Calls _ _ _ _ (fun e w' => ∃ v, e = .returned (.tuple #[v, .nilIface]) /\ insOwn w' w.heap.size v (gCode clG (gEnter f)) /\ Below w.heap.size w w')
  clear hcn
  generalize (f : Int) = fi at *
  go_enter Tryz.func40, Tryz.ntmps40
  go_wp2_with fail
  refine (HE.out _).mono ?_
  rintro e w2 ⟨v, rfl, hv, hb⟩
  have HO := hide (insOwn_mono hv HB.out.size)
  have HB2 := hide (below_step HB.out hb)
  clear hv hb
  go_wp2_with fail
  go_ret2
  exact ⟨_, rfl, HO.out, HB2.out⟩
 ·rw [hk]
  clear hk hk0
  obtain ⟨e1, e2, e3, e4, e5, e6, e7, e8, e9⟩ := h
  show Calls _ _ _ _ (fun e w' => ∃ v, e = .returned (.tuple #[v, .nilIface]) /\ insOwn w' w.heap.size v (gCode clG (gLeave f)) /\ Below w.heap.size w w')
  clear hcn
  generalize (f : Int) = fi at *
  go_enter Tryz.func40, Tryz.ntmps40
  go_wp2_with fail
  refine (HL.out _).mono ?_
  rintro e w2 ⟨v, rfl, hv, hb⟩
  have HO := hide (insOwn_mono hv HB.out.size)
  have HB2 := hide (below_step HB.out hb)
  clear hv hb
  go_wp2_with fail
  go_ret2
  exact ⟨_, rfl, HO.out, HB2.out⟩
 ·rw [hk]
  clear hk hk0
  obtain ⟨e1, e2, e3, e4, e5, e6, e7, e8, e9⟩ := h
  show Calls _ _ _ _ (fun e w' => ∃ v, e = .returned (.tuple #[v, .nilIface]) /\ insOwn w' w.heap.size v (gCode clG (gRest f)) /\ Below w.heap.size w w')
  clear hcn
  generalize (f : Int) = fi at *
  go_enter Tryz.func40, Tryz.ntmps40
  go_wp2_with fail
  refine (HR.out _).mono ?_
  rintro e w2 ⟨v, rfl, hv, hb⟩
  have HO := hide (insOwn_mono hv HB.out.size)
  have HB2 := hide (below_step HB.out hb)
  clear hv hb
  go_wp2_with fail
  go_ret2
  exact ⟨_, rfl, HO.out, HB2.out⟩
 ·rw [hk]
  clear hk hk0
  obtain ⟨e1, e2, e3, e4, e5, e6, e7, e8, e9⟩ := h
  show Calls _ _ _ _ (fun e w' => ∃ v, e = .returned (.tuple #[v, .nilIface]) /\ insOwn w' w.heap.size v (gCode clG (gWait f)) /\ Below w.heap.size w w')
  clear hcn
  generalize (f : Int) = fi at *
  go_enter Tryz.func40, Tryz.ntmps40
  go_wp2_with fail
  refine (HW.out _).mono ?_
  rintro e w2 ⟨v, rfl, hv, hb⟩
  have HO := hide (insOwn_mono hv HB.out.size)
  have HB2 := hide (below_step HB.out hb)
  clear hv hb
  go_wp2_with fail
  go_ret2
  exact ⟨_, rfl, HO.out, HB2.out⟩
 ·rw [hk]
  clear hk hk0
  obtain ⟨e1, e2, e3, e4, e5, e6, e7, e8, e9⟩ := h
  show Calls _ _ _ _ (fun e w' => ∃ v, e = .returned (.tuple #[v, .nilIface]) /\ insOwn w' w.heap.size v readC /\ Below w.heap.size w w')
  clear hcn
  generalize (f : Int) = fi at *
  go_enter Tryz.func40, Tryz.ntmps40
  go_wp2_with fail
  refine (HRD.out _).mono ?_
  rintro e w2 ⟨v, rfl, hv, hb⟩
  have HO := hide (insOwn_mono hv HB.out.size)
  have HB2 := hide (below_step HB.out hb)
  clear hv hb
  go_wp2_with fail
  go_ret2
  exact ⟨_, rfl, HO.out, HB2.out⟩
 ·rw [hk]
  clear hk hk0
  obtain ⟨e1, e2, e3, e4, e5, e6, e7, e8, e9⟩ := h
  have hfr := insOwn_new (w := w.alloc (.cells #[.string k, .int .i64 n] 72)) (l := [⟨oFree, 3, 0, 0, thNo⟩]) (cs := #[.string oFree, .int .i64 3, .int .i64 0, .int .i64 0, .string thNo]) (base := w.heap.size) rfl HB.out.size (show 1 <= 1000 by decide)
  rw [World.size_alloc] at hfr
  have HU := hide (tunless_ok 3 hfr (show 1 <= 1000 by decide))
  have HBX := hide (HB.out.alloc HB.out.size (.cells #[.string oFree, .int .i64 3, .int .i64 0, .int .i64 0, .string thNo] 101))
  clear hfr
  clear hcn
  generalize (f : Int) = fi at *
  go_enter Tryz.func40, Tryz.ntmps40
  go_wp2_with fail
  refine HU.out.mono ?_
  rintro e w2 ⟨v, rfl, hv, hb⟩
  have HO := hide (insOwn_mono hv HBX.out.size)
  have HB2 := hide (below_step HBX.out hb)
  clear hv hb
  go_wp2_with fail
  go_ret2
  exact ⟨_, rfl, HO.out, HB2.out⟩
 ·rw [hk]
  clear hk hk0
  obtain ⟨e1, e2, e3, e4, e5, e6, e7, e8, e9⟩ := h
  clear hcn
  generalize (f : Int) = fi at *
  go_enter Tryz.func40, Tryz.ntmps40
  go_wp2_with fail
  refine (HKE.out _).mono ?_
  rintro e w1 ⟨v1, rfl, hv1, hb1⟩
  have HU := hide (tunless_ok 3 hv1 (show 2 <= 1000 by decide))
  have HBX := hide (below_step HB.out hb1)
  obtain ⟨x1, c1, rfl, -⟩ := ownsRow_shape hv1
  clear hv1 hb1
  go_wp2_with fail
  refine HU.out.mono ?_
  rintro e w2 ⟨v, rfl, hv, hb⟩
  have HO := hide (insOwn_mono hv HBX.out.size)
  have HB2 := hide (below_step HBX.out hb)
  clear hv hb
  go_wp2_with fail
  go_ret2
  exact ⟨_, rfl, HO.out, HB2.out⟩
 ·rw [hk]
  clear hk hk0
  obtain ⟨e1, e2, e3, e4, e5, e6, e7, e8, e9⟩ := h
  clear hcn
  generalize (f : Int) = fi at *
  go_enter Tryz.func40, Tryz.ntmps40
  go_wp2_with fail
  refine (HW.out _).mono ?_
  rintro e w1 ⟨v1, rfl, hv1, hb1⟩
  have HV1 := hide (insOwn_mono hv1 HB.out.size)
  have HB1 := hide (below_step HB.out hb1)
  obtain ⟨x1, c1, rfl, -⟩ := ownsRow_shape hv1
  clear hv1 hb1
  go_wp2_with fail
  refine (HEM.out _).mono ?_
  rintro e w2 ⟨v2, rfl, hv2, hb2⟩
  have HV2 := hide (insOwn_keep HV1.out hb2)
  have HB2 := hide (below_step HB1.out hb2)
  have HE2 := hide (insOwn_mono hv2 (Nat.zero_le _))
  obtain ⟨x2, c2, rfl, -⟩ := ownsRow_shape hv2
  clear hv2 hb2 HV1 HB1
  go_wp2_with (at_builtin; refine wpList_append_insO _ rfl _ _ rfl w.heap.size 0 (gCode clG (gWait f)) emptyC _ _ rfl ?q1 rfl ?q2 ?q3 ?q4 ?_)
  case q1 => exact HV2.out
  case q2 => exact HE2.out
  case q3 => have := HWL.out; have h7 : emptyC.length = 7 := rfl; omega
  case q4 => exact HB2.out.size
  intro v3 w3 ho3 hb3
  have HO3 := hide ho3
  have HB3 := hide (HB2.out.trans hb3)
  clear ho3 hb3 HB2 HV2 HE2
  go_wp2_with fail
  go_ret2
  exact ⟨_, rfl, HO3.out, HB3.out⟩
 ·exact absurd hk hk0
end
section
open Go.RowKit
def itB (i : Nat) : ByteArray := if i < 10 then ⟨#[UInt8.ofNat (48 + i)]⟩ else ⟨#[49, UInt8.ofNat (38 + i)]⟩
theorem dec_is {i : Nat} (h : i < 20) : (⟨(Lib.decDigits i).toArray⟩ : ByteArray) = itB i := by
 have : ∀ j : Fin 20, (⟨(Lib.decDigits j.val).toArray⟩ : ByteArray) = itB j.val := by decide +kernel
 exact this ⟨i, h⟩
theorem nameExtT {p : ByteArray} (h : isName p) {b : UInt8} (hb : nameOk 1 b.toNat = true) (hz : p.size <= 11) : isName (p ++ ⟨#[b]⟩) := by
 obtain ⟨h1, h2, h3⟩ := h
 have hs : (p ++ (⟨#[b]⟩ : ByteArray)).size = p.size + 1 := by rw [ByteArray.size_append]; rfl
 refine ⟨by omega, by omega, fun j hj => ?_⟩
 by_cases hlt : j < p.size
 ·rw [ByteArray.getElem_append_left hlt]
  exact h3 j hlt
 ·have : j = p.size := by omega
  subst this
  rw [ByteArray.getElem_append_right nL]
  have hne : p.size ≠ 0 := by omega
  simp only [Nat.sub_self]
  have e : (⟨#[b]⟩ : ByteArray)[0]'(by show 0 < 1; decide) = b := rfl
  rw [e]
  unfold nameOk at hb ⊢
  rw [decide_eq_true_eq] at hb ⊢
  rcases hb with h | ⟨-, h⟩
  ·exact .inl h
  ·exact .inr ⟨hne, h⟩
theorem size_extT (p : ByteArray) (b : UInt8) : (p ++ (⟨#[b]⟩ : ByteArray)).size = p.size + 1 := by rw [ByteArray.size_append]; rfl
theorem dig_ok : ∀ j : Fin 10, nameOk 1 (UInt8.ofNat (48 + j.val)).toNat = true := by decide +kernel
theorem name_it {s : ByteArray} (h : isName s) (hs : s.size <= 8) {i : Nat} (hi : i < 20) : isName (s ++ thDot ++ itB i) := by
 have h1 : isName (s ++ ⟨#[46]⟩) := nameExtT h (by decide) (by omega)
 have z1 := size_extT s 46
 show isName (s ++ ⟨#[46]⟩ ++ itB i)
 unfold itB
 split
 ·rename_i h10
  exact nameExtT h1 (dig_ok ⟨i, h10⟩) (by omega)
 ·have e : (⟨#[49, UInt8.ofNat (38 + i)]⟩ : ByteArray) = ⟨#[49]⟩ ++ ⟨#[UInt8.ofNat (38 + i)]⟩ := rfl
  rw [e, <- ByteArray.append_assoc]
  have h2 : isName (s ++ ⟨#[46]⟩ ++ ⟨#[49]⟩) := nameExtT h1 (by decide) (by omega)
  have z2 := size_extT (s ++ ⟨#[46]⟩) 49
  have hd := dig_ok ⟨i - 10, by omega⟩
  rw [show 48 + (i - 10) = 38 + i by omega] at hd
  exact nameExtT h2 hd (by omega)
def LabsOk (l : List Ins) : Prop := ∀ x ∈ l, lbOp x.op = true -> isName x.to /\ x.to.size <= 8
theorem LabsOk.app {a b : List Ins} (h : LabsOk a) (k : LabsOk b) : LabsOk (a ++ b) := fun x hx hl => by
 rcases List.mem_append.1 hx with h' | h'
 ·exact h x h' hl
 ·exact k x h' hl
def labsB (l : List Ins) : Bool := l.all fun x => !(hasTo ((shape (bl x.op)).getD [])) || (nameB (bl x.to) && decide ((bl x.to).length <= 8))
theorem labsB_ok {l : List Ins} (h : labsB l = true) : LabsOk l := fun x hx hl => by
 have := List.all_eq_true.1 h x hx
 unfold lbOp at hl
 rw [toList_bl] at hl
 rw [hl] at this
 simp only [Bool.not_true, Bool.false_or, Bool.and_eq_true, decide_eq_true_eq] at this
 exact ⟨nameB_is this.1, by rw [size_bl]; exact this.2⟩
theorem LabsOk.uls {l : List Ins} (h : LabsOk l) {r : Int} : LabsOk (uls r l) := by
 refine LabsOk.app (fun x hx _ => ?_) (LabsOk.app h (fun x hx _ => ?_))
 ·obtain rfl := List.mem_singleton.1 hx
  exact ⟨nameB_is (show nameB (bl thNone) = true by decide +kernel), show 4 <= 8 by decide⟩
 ·obtain rfl := List.mem_singleton.1 hx
  exact ⟨nameB_is (show nameB (bl thNone) = true by decide +kernel), show 4 <= 8 by decide⟩
theorem lb_consts : lbOp oConst = false /\ lbOp oStore = false /\ lbOp oAlloc = false /\ lbOp oSwap = false := by
 unfold lbOp
 simp only [toList_bl]
 exact ⟨rfl, rfl, rfl, rfl⟩
theorem putC_labs (n : Int) : LabsOk (putC n) := by
 obtain ⟨h1, h2, h3, h4⟩ := lb_consts
 refine LabsOk.app (fun x hx hl => ?_) (LabsOk.uls (LabsOk.app (fun x hx hl => ?_) (fun x hx hl => ?_)))
 ·obtain rfl := List.mem_singleton.1 hx
  rw [h3] at hl; cases hl
 ·simp only [numC, List.mem_cons, List.not_mem_nil, or_false] at hx
  rcases hx with rfl | rfl
  ·rw [h1] at hl; cases hl
  ·rw [h2] at hl; cases hl
 ·obtain rfl := List.mem_singleton.1 hx
  rw [h4] at hl; cases hl
theorem clP_labs {f : Nat} (hf : 1 <= f /\ f <= 4) (i : Nat) (n : Int) : LabsOk (clP f i n) /\ (clP f i n).length <= 60 := by
 have key : ∀ g : Fin 4, labsB (gCode clG (gEnter (g.val + 1))) = true /\ labsB (gCode clG (gLeave (g.val + 1))) = true /\ labsB (gCode clG (gRest (g.val + 1))) = true /\ labsB (gCode clG (gWait (g.val + 1)) ++ emptyC) = true /\ labsB (gCode clG (gWait (g.val + 1))) = true /\ (gCode clG (gEnter (g.val + 1))).length <= 60 /\ (gCode clG (gLeave (g.val + 1))).length <= 60 /\ (gCode clG (gRest (g.val + 1))).length <= 60 /\ (gCode clG (gWait (g.val + 1)) ++ emptyC).length <= 60 /\ (gCode clG (gWait (g.val + 1))).length <= 60 := by decide +kernel
 have := key ⟨f - 1, by omega⟩
 dsimp only at this
 rw [show f - 1 + 1 = f by omega] at this
 obtain ⟨k1, k2, k3, k4, k5, l1, l2, l3, l4, l5⟩ := this
 unfold clP
 split
 ·exact ⟨putC_labs n, show 6 <= 60 by decide⟩
 split
 ·exact ⟨labsB_ok k1, l1⟩
 split
 ·exact ⟨labsB_ok k2, l2⟩
 split
 ·exact ⟨labsB_ok k3, l3⟩
 split
 ·exact ⟨labsB_ok k5, l5⟩
 split
 ·exact ⟨labsB_ok (by decide +kernel), by decide⟩
 split
 ·exact ⟨labsB_ok (by decide +kernel), by decide⟩
 split
 ·exact ⟨labsB_ok (by decide +kernel), by decide⟩
 ·exact ⟨labsB_ok k4, l4⟩
structure OpI where
 kind : ByteArray
 n : Int
def opC (f : Nat) (i : Nat) (x : OpI) : List Ins := (clP f (kn x.kind.toList) x.n).map (namedI (itB i))
def opsC (f : Nat) (l : List OpI) : Nat -> List Ins
 | 0 => []
 | k + 1 => opsC f l k ++ (match l[k]? with | some x => opC f k x | none => [])
theorem opsC_succ {f : Nat} {l : List OpI} {k : Nat} {x : OpI} (h : l[k]? = some x) : opsC f l (k + 1) = opsC f l k ++ opC f k x := by
 show opsC f l k ++ (match l[k]? with | some x => opC f k x | none => []) = _
 rw [h]
theorem opC_len {f : Nat} (hf : 1 <= f /\ f <= 4) (i : Nat) (x : OpI) : (opC f i x).length <= 60 := by
 unfold opC
 rw [List.length_map]
 exact (clP_labs hf _ _).2
theorem opsC_len {f : Nat} (hf : 1 <= f /\ f <= 4) (l : List OpI) : ∀ k : Nat, (opsC f l k).length <= 60 * k
 | 0 => Nat.le_refl _
 | k + 1 => by
  show (opsC f l k ++ _).length <= _
  have h1 := opsC_len hf l k
  rw [List.length_append]
  split
  ·have := opC_len hf k (by assumption); omega
  ·simp; omega
end
end Go.Proofs.YtaiigfcfmcicjaaGreatDoor
