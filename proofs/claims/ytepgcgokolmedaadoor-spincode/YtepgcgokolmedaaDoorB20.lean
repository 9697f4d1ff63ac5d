import Derived.Test.YtepgcgokolmedaaDoorB19
import Derived.Deep.RegionHeld3
import Derived.Test.YtepgcgokolmedaaDoorB13
import Derived.Lib.QuietBelow
import Derived.BigQuiet
import Derived.Maps.AppendAt
import Derived.Test.YtepgcgokolmedaaDoorB07
import Derived.Test.YtepgcgokolmedaaDoorB14
import Derived.Test.YtepgcgokolmedaaDoorB15
import Derived.Test.YtepgcgokolmedaaDoorB18

/- RkI -/
namespace Go.Proofs.YtepgcgokolmedaaDoor
open Go.RowKit Go.Extern.Stop Go.Stop Go.Extern Go.Sort

theorem rnames_has {m : Mk} {n : Int} (h : m.names n = true) : m.mem.ar.has (cellOf n) (genOf n) = true := ((Bool.and_eq_true _ _).mp h).2
section
variable {cs : List (List Ins)} {p : RkPl} {m : Mk} {w : World}
theorem RkAt.cellAt (_h : RkAt cs p m w) {n : Int} (hy : m.names n = true) : ∃ k : Nat, cellOf n = k ∧ k < m.mem.ar.size ∧ m.mem.ar.has k (genOf n) = true := by
  have hh := rnames_has hy
  obtain ⟨k, hc, hk, -, -⟩ := Ar.has_lt hh
  exact ⟨k, hc, hk, by rw [← hc]; exact hh⟩

end
end Go.Proofs.YtepgcgokolmedaaDoor

/- SpH -/
namespace Go.Proofs.YtepgcgokolmedaaDoor
open Go.RowKit Go.Extern.Stop Go.Stop Go.Extern Go.Maps Go.WideMaps Go.Sort

theorem lockT_ok : LockOk ⟨#[116]⟩ 7 0 0 := ⟨by decide, by decide, by decide, by decide, nameB_is (by decide +kernel), by decide⟩
theorem lockG_ok : LockOk ⟨#[103]⟩ 7 0 0 := ⟨by decide, by decide, by decide, by decide, nameB_is (by decide +kernel), by decide⟩

set_option maxRecDepth 20000 in
theorem locked_any (w : World) : Calls Tryd.prog 5 #[] w fun e w' => e = .returned (.bool true) ∧ Below w.heap.size w w' := by
  have HT := hide (fun w => take_ok lockT_ok w)
  have HG := hide (fun w => give_ok lockG_ok w)
  go_enter Tryd.func5, Tryd.ntmps5
  go_wp2_with fail
  refine (HT.out _).mono ?_
  rintro e w1 ⟨va, rfl, ha, hb1⟩
  obtain ⟨ada, capa, rfl, -⟩ := insOwn_open ha (show 0 < 7 by decide)
  have la : ((takeCode ⟨#[116]⟩ 7 0 0).length : Int) = 7 := rfl
  clear ha
  go_wp2_with fail
  refine (HG.out _).mono ?_
  rintro e w2 ⟨vb, rfl, hg, hb2⟩
  obtain ⟨adb, capb, rfl, -⟩ := insOwn_open hg (show 0 < 2 by decide)
  have lb : ((giveCode 7 0 0).length : Int) = 2 := rfl
  have HB := below_step hb1 hb2
  clear hg hb1 hb2 HT HG
  generalize (takeCode ⟨#[116]⟩ 7 0 0).length = la' at *
  generalize (giveCode 7 0 0).length = lb' at *
  have la0 : 0 < (la' : Int) := by omega
  have lb0 : 0 < (lb' : Int) := by omega
  have lb1 : decide (0 < lb') = true := decide_eq_true (by omega)
  clear la lb
  go_wp2_with fail
  go_ret
  exact ⟨rfl, HB⟩
end Go.Proofs.YtepgcgokolmedaaDoor

/- SpU -/
namespace Go.Proofs.YtepgcgokolmedaaDoor
open Go.RowKit Go.Extern.Stop Go.Stop Go.Extern Go.Maps Go.WideMaps Go.Sort

set_option maxRecDepth 20000 in
set_option maxHeartbeats 1000000 in
theorem scode_long (p : ByteArray) (c wd t : Int) (w : World) (h : 100 < p.size) :
    Calls Tryd.prog 3 #[.string p, .int .i64 c, .int .i64 wd, .int .i64 t] w fun e w' => e = .returned (.bool true) ∧ Below w.heap.size w w' := by
  have HL := hide (locked_any w)
  have hi : 100 < (p.size : Int) := by omega
  clear h
  go_enter Tryd.func3, Tryd.ntmps3
  go_wp2_with fail
  refine HL.out.mono ?_
  rintro e w1 ⟨rfl, hb⟩
  clear HL
  go_wp2_with fail
  go_ret
  exact ⟨rfl, hb⟩

open Classical in
set_option maxRecDepth 20000 in
set_option maxHeartbeats 4000000 in
theorem scode_name (p : ByteArray) (c wd t : Int) {a : Nat → Addr} (w : World) (hE : Env a w) (h : ¬ 100 < p.size) (hn : numsOk c wd t) (hp : ¬ nameShort p) :
    Calls Tryd.prog 3 #[.string p, .int .i64 c, .int .i64 wd, .int .i64 t] w fun e w' => e = .returned (.bool true) ∧ Below w.heap.size w w' := by
  have HL := hide (locked_any w)
  have HE := hide hE
  have hi : ¬ 100 < (p.size : Int) := by omega
  have HT := hide (fun w' (hb : Below w.heap.size w w') => take_err (scheck_name hn hp (HE.out.below hb.block)))
  have HG := hide (fun w' (hb : Below w.heap.size w w') => give_err (scheck_name hn hp (HE.out.below hb.block)))
  have HC : Hid (∀ w', Below w.heap.size w w' → Calls Tryd.prog 9 #[errAt (a 3), .int .i64 4] w' fun ev w'' => ev = .returned (.bool true) ∧ Below w'.heap.size w' w'') := hide (fun w' hb => coded2_err a 4 (by decide) w' (HE.out.below hb.block))
  have HP : Hid (∀ w, Calls Tryd.prog 8 #[.string p, .int .i64 8] w fun e w' => e = .returned (.bool false) ∧ w' = w) := hide (fun w => (prefix_any p 8 w).mono fun _ _ ⟨h1, h2⟩ => ⟨by
    rw [h1]
    congr 2
    by_cases hi : isName p
    · have : ¬ (p.size : Int) ≤ 8 := fun e => hp ⟨hi, by omega⟩
      rw [decide_eq_false this, Bool.and_false]
    · rw [decide_eq_false hi, Bool.false_and], h2⟩)
  obtain ⟨⟨c0, c8⟩, ⟨w0, w4⟩, ⟨t0, t7⟩, n1, n2⟩ := hn
  have i1 : ¬ c < 0 := by omega
  have i2 : ¬ 8 ≤ c := by omega
  have i3 : ¬ wd < 0 := by omega
  have i4 : ¬ 4 ≤ wd := by omega
  have i5 : ¬ t < 0 := by omega
  have i6 : ¬ 7 ≤ t := by omega
  have wr1 : IntKind.i64.wrap (t + 1) = t + 1 := by rw [IntKind.wrap_i64]; omega
  have b1 : (c == t) = false := beq_eq_false_iff_ne.2 n1
  have b2 : (c == t + 1) = false := beq_eq_false_iff_ne.2 n2
  clear hE h hp n1 n2
  go_enter Tryd.func3, Tryd.ntmps3
  go_wp2_with fail
  refine HL.out.mono ?_
  rintro e w1 ⟨rfl, hb⟩
  clear HL
  go_wp2_with fail
  refine (HT.out _ hb).mono ?_
  rintro e w2 ⟨rfl, hb2⟩
  have hB2 := below_step hb hb2
  clear hb hb2 HT
  go_wp2_with fail
  refine (HG.out _ hB2).mono ?_
  rintro e w3 ⟨rfl, hb3⟩
  have hB3 := below_step hB2 hb3
  clear hb3 hB2 HG
  go_wp2_with fail
  refine (HP.out _).mono ?_
  rintro e w4 ⟨rfl, rfl⟩
  go_wp2_with fail
  refine (HC.out _ hB3).mono ?_
  rintro e w5 ⟨rfl, hb5⟩
  have hB5 := below_step hB3 hb5
  go_wp2_with fail
  refine (HC.out _ hB5).mono ?_
  rintro e w6 ⟨rfl, hb6⟩
  have hB6 := below_step hB5 hb6
  go_wp2_with fail
  go_ret
  exact ⟨rfl, hB6⟩

set_option maxRecDepth 20000 in
set_option maxHeartbeats 4000000 in
theorem scode_bound (p : ByteArray) (c wd t : Int) {a : Nat → Addr} (w : World) (hE : Env a w) (h : ¬ 100 < p.size) (hn : ¬ numsOk c wd t) :
    Calls Tryd.prog 3 #[.string p, .int .i64 c, .int .i64 wd, .int .i64 t] w fun e w' => e = .returned (.bool true) ∧ Below w.heap.size w w' := by
  have HL := hide (locked_any w)
  have HE := hide hE
  have hi : ¬ 100 < (p.size : Int) := by omega
  have HT := hide (fun w' (hb : Below w.heap.size w w') => take_err ((scheck_nums (p := p) hn (HE.out.below hb.block)).mono fun _ _ ⟨h1, h2⟩ => ⟨h1, by rw [h2]; exact Below.refl _ _⟩))
  have HG := hide (fun w' (hb : Below w.heap.size w w') => give_err ((scheck_nums (p := p) hn (HE.out.below hb.block)).mono fun _ _ ⟨h1, h2⟩ => ⟨h1, by rw [h2]; exact Below.refl _ _⟩))
  have HC : Hid (∀ w', Below w.heap.size w w' → Calls Tryd.prog 9 #[errAt (a 1), .int .i64 2] w' fun ev w'' => ev = .returned (.bool true) ∧ Below w'.heap.size w' w'') := hide (fun w' hb => coded2_err a 2 (by decide) w' (HE.out.below hb.block))
  have hA : (c < 0 ∨ ¬ c < 0 ∧ (8 ≤ c ∨ ¬ 8 ≤ c ∧ (wd < 0 ∨ ¬ wd < 0 ∧ 4 ≤ wd))) ∨ (¬ c < 0 ∧ ¬ 8 ≤ c ∧ ¬ wd < 0 ∧ ¬ 4 ≤ wd) := by omega
  have hB : (t < 0 ∨ ¬ t < 0 ∧ (7 ≤ t ∨ ¬ 7 ≤ t ∧ (c = t ∨ ¬ c = t ∧ c = t + 1))) ∨ (¬ t < 0 ∧ ¬ 7 ≤ t ∧ ¬ c = t ∧ ¬ c = t + 1) := by omega
  have HAB : Hid (¬ ((¬ c < 0 ∧ ¬ 8 ≤ c ∧ ¬ wd < 0 ∧ ¬ 4 ≤ wd) ∧ (¬ t < 0 ∧ ¬ 7 ≤ t ∧ ¬ c = t ∧ ¬ c = t + 1))) := hide (fun ⟨⟨x1, x2, x3, x4⟩, x5, x6, x7, x8⟩ => hn ⟨⟨by omega, by omega⟩, ⟨by omega, by omega⟩, ⟨by omega, by omega⟩, x7, x8⟩)
  clear hE h hn
  go_enter Tryd.func3, Tryd.ntmps3
  go_wp2_with fail
  refine HL.out.mono ?_
  rintro e w1 ⟨rfl, hb⟩
  clear HL
  go_wp2_with fail
  refine (HT.out _ hb).mono ?_
  rintro e w2 ⟨rfl, hb2⟩
  have hB2 := below_step hb hb2
  clear hb hb2 HT
  go_wp2_with fail
  refine (HG.out _ hB2).mono ?_
  rintro e w3 ⟨rfl, hb3⟩
  have hB3 := below_step hB2 hb3
  clear hb3 hB2 HG
  rcases hA with (a1 | ⟨a1, a2 | ⟨a2, a3 | ⟨a3, a4⟩⟩⟩) | ⟨a1, a2, a3, a4⟩ <;> rcases hB with (b1 | ⟨b1, b2 | ⟨b2, b3 | ⟨b3, b4⟩⟩⟩) | ⟨b1, b2, b3, b4⟩
  all_goals first
    | exact (HAB.out ⟨⟨by omega, by omega, by omega, by omega⟩, by omega, by omega, by omega, by omega⟩).elim
    | (clear HAB
       try (have wr2 : IntKind.i64.wrap (t + 1) = t + 1 := by rw [IntKind.wrap_i64]; omega)
       try (have q1 : (c == t) = true := beq_iff_eq.2 b3)
       try (have q1 : (c == t) = false := beq_eq_false_iff_ne.2 b3)
       try (have q2 : (c == t + 1) = true := beq_iff_eq.2 b4)
       try (have q2 : (c == t + 1) = false := beq_eq_false_iff_ne.2 b4)
       try clear b3
       try clear b4
       go_wp2_with fail
       refine (HC.out _ hB3).mono ?_
       rintro e w5 ⟨rfl, hb5⟩
       have hB5 := below_step hB3 hb5
       go_wp2_with fail
       refine (HC.out _ hB5).mono ?_
       rintro e w6 ⟨rfl, hb6⟩
       have hB6 := below_step hB5 hb6
       go_wp2_with fail
       go_ret
       exact ⟨rfl, hB6⟩)
end Go.Proofs.YtepgcgokolmedaaDoor
