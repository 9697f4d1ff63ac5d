import Derived.Test.YtnnlkolhahjokaaGreatDoorB21
import Derived.Deep.QuietTactic
import Derived.BigQuiet

/- MkU -/
namespace Go.Proofs.YtnnlkolhahjokaaGreatDoor
open Go.RowKit Go.Extern.Stop Go.Stop Go.Extern Go.Maps Go.WideMaps Go.Sort

theorem kjump_any {a : Nat → Addr} {cs : List (List Ins)} {p : MkPl} {m : Mk} {t i : Nat} {L : List Ins} {to : ByteArray} (ht : cs[t]? = some L) (hs : to.size ≤ maxLen) (hi : labelAt L to = i) (f : Bool) {w : World} (h : MkAt a cs p m w) :
    Calls Tryz.prog 69 #[.pointer (some ⟨p.b, 0, none⟩), .int .i64 t, .string to, .bool f] w fun e w' => e = .returned (.tuple #[]) ∧ MkStep a cs p w p.mv (if f = true then m.jump t L to else m) w' := by
  cases f
  · exact kjump_no t to h
  · exact kjump_yes ht hs hi h

set_option maxRecDepth 20000 in
set_option maxHeartbeats 2000000 in
theorem kdo_const {a : Nat → Addr} {cs : List (List Ins)} {p : MkPl} {m : Mk} {K t : Nat} {w : World} (D : DoX a cs p m K t w) (L : List Ins) (x : Ins) (e : x.op = ⟨#[99, 111, 110, 115, 116]⟩) {i : Nat} (hi : i < 8) (ei : x.a = i) :
    Calls Tryz.prog 49 #[.pointer (some ⟨p.b, 0, none⟩), .int .i64 t, .agg #[.string x.op, .int .i64 x.a, .int .i64 x.b, .int .i64 x.c, .string x.to]] w fun e w' => e = .returned (.tuple #[]) ∧ ∃ v, MkStep a cs p w v (m.exec L t x) w' := by
  rw [exec_const m L t e]
  rw [ei]
  simp only [Int.toNat_natCast]
  obtain ⟨xo, xa, xb, xc, xt⟩ := x
  dsimp only at e ei ⊢
  subst e ei
  have t6 := D.t6
  have t6i : (t : Int) < 6 := by omega
  have hba : Below w.heap.size w (w.alloc (.cells #[.string ⟨#[99, 111, 110, 115, 116]⟩, .int .i64 i, .int .i64 xb, .int .i64 xc, .string xt] 44)) := (Below.refl _ _).alloc (Nat.le_refl _) _
  have q0 : (w.alloc (.cells #[.string ⟨#[99, 111, 110, 115, 116]⟩, .int .i64 i, .int .i64 xb, .int .i64 xc, .string xt] 44)).cell? ⟨w.heap.size, 0, none⟩ = some (.string ⟨#[99, 111, 110, 115, 116]⟩) := by simp
  have q1 : (w.alloc (.cells #[.string ⟨#[99, 111, 110, 115, 116]⟩, .int .i64 i, .int .i64 xb, .int .i64 xc, .string xt] 44)).cell? ⟨w.heap.size, 1, none⟩ = some (.int .i64 i) := by simp
  have q2 : (w.alloc (.cells #[.string ⟨#[99, 111, 110, 115, 116]⟩, .int .i64 i, .int .i64 xb, .int .i64 xc, .string xt] 44)).cell? ⟨w.heap.size, 2, none⟩ = some (.int .i64 xb) := by simp
  have q3 : (w.alloc (.cells #[.string ⟨#[99, 111, 110, 115, 116]⟩, .int .i64 i, .int .i64 xb, .int .i64 xc, .string xt] 44)).cell? ⟨w.heap.size, 3, none⟩ = some (.int .i64 xc) := by simp
  have q4 : (w.alloc (.cells #[.string ⟨#[99, 111, 110, 115, 116]⟩, .int .i64 i, .int .i64 xb, .int .i64 xc, .string xt] 44)).cell? ⟨w.heap.size, 4, none⟩ = some (.string xt) := by simp
  have D1 := D.below hba
  have hlw := D.at'.lt
  have gi := D1.at'.reg t i t6 (by omega)
  have li : (i : Int) < 8 := by omega
  generalize hw : w.alloc (.cells #[.string ⟨#[99, 111, 110, 115, 116]⟩, .int .i64 i, .int .i64 xb, .int .i64 xc, .string xt] 44) = w1 at *
  have zi : w1.frozen? ⟨p.b, 585 + t * 9 + i, none⟩ = false := D1.at'.frozen _ (by omega) (by omega)
  have HS : Hid (MkStep a cs p w p.mv (m.setReg t i xb) ((w1.setCell ⟨p.b, 585 + t * 9 + i, none⟩ (.int .i64 xb)).drew)) := (MkStep.of_below hba (D1.at'.setReg t6 (by omega) xb)).below (Below.refl _ _).drew
  clear D D1 hba
  generalize m.regs t i = Ri at *
  go_enter Tryz.func49, Tryz.ntmps49
  go_wp2_with fail
  clear hw
  refine wp_region_F (S := (fun w' => w'.cell? ⟨w.heap.size, 1, none⟩ = some (.int .i64 i) ∧ w'.cell? ⟨w.heap.size, 2, none⟩ = some (.int .i64 xb))) (by kernel_rfl) (by (try dsimp only); go_keep) (fun hHeld => ?_)
  refine' wpAnyF_take (i := 0) (n := 7) (v := _) rfl (by kernel_rfl) (fun _ _ _ h => h) (by assumption) (Or.inl ⟨by rfl, ?hy1⟩) ?rest1
  case' hy1 => (intro w' hSw; (try dsimp only at hSw); go_simp; try with_reducible rfl)
  try simp only [Act.put, List.getElem_toArray, List.getElem_cons_zero, List.setIfInBounds_toArray, List.set_cons_zero, List.set_cons_succ]
  refine' wpAnyF_take (i := 1) (n := 7) (v := _) rfl (by kernel_rfl) (fun _ _ _ h => h) (by assumption) (Or.inl ⟨by rfl, ?hy2⟩) ?rest2
  case' hy2 => (intro w' hSw; (try dsimp only at hSw); go_simp; try with_reducible rfl)
  try simp only [Act.put, List.getElem_toArray, List.getElem_cons_zero, List.getElem_cons_succ, List.setIfInBounds_toArray, List.set_cons_zero, List.set_cons_succ]
  refine' wpAnyF_take (i := 2) (n := 7) (v := _) rfl (by kernel_rfl) (fun _ _ _ h => h) (by assumption) (Or.inl ⟨by rfl, ?hy3⟩) ?rest3
  case' hy3 => (intro w' hSw; (try dsimp only at hSw); go_simp; try with_reducible rfl)
  try simp only [Act.put, List.getElem_toArray, List.getElem_cons_zero, List.getElem_cons_succ, List.setIfInBounds_toArray, List.set_cons_zero, List.set_cons_succ]
  refine' wpAnyF_take (i := 3) (n := 7) (v := _) rfl (by kernel_rfl) (fun _ _ _ h => h) (by assumption) (Or.inl ⟨by rfl, ?hy4⟩) ?rest4
  case' hy4 => (intro w' hSw; (try dsimp only at hSw); go_simp; try with_reducible rfl)
  try simp only [Act.put, List.getElem_toArray, List.getElem_cons_zero, List.getElem_cons_succ, List.setIfInBounds_toArray, List.set_cons_zero, List.set_cons_succ]
  refine' wpAnyF_take (i := 4) (n := 7) (v := _) rfl (by kernel_rfl) (fun _ _ _ h => h) (by assumption) (Or.inl ⟨by rfl, ?hy5⟩) ?rest5
  case' hy5 => (intro w' hSw; (try dsimp only at hSw); go_simp; try with_reducible rfl)
  try simp only [Act.put, List.getElem_toArray, List.getElem_cons_zero, List.getElem_cons_succ, List.setIfInBounds_toArray, List.set_cons_zero, List.set_cons_succ]
  refine' wpAnyF_take (i := 5) (n := 7) (v := _) rfl (by kernel_rfl) (fun _ _ _ h => h) (by assumption) (Or.inl ⟨by rfl, ?hy6⟩) ?rest6
  case' hy6 => (intro w' hSw; (try dsimp only at hSw); go_simp; try with_reducible rfl)
  try simp only [Act.put, List.getElem_toArray, List.getElem_cons_zero, List.getElem_cons_succ, List.setIfInBounds_toArray, List.set_cons_zero, List.set_cons_succ]
  refine' wpAnyF_take (i := 6) (n := 7) (v := _) rfl (by kernel_rfl) (fun _ _ _ h => h) (by assumption) (Or.inl ⟨by rfl, ?hy7⟩) ?rest7
  case' hy7 => (intro w' hSw; (try dsimp only at hSw); go_simp; try with_reducible rfl)
  try simp only [Act.put, List.getElem_toArray, List.getElem_cons_zero, List.getElem_cons_succ, List.setIfInBounds_toArray, List.set_cons_zero, List.set_cons_succ]
  clear hHeld
  refine wpAnyF_only (i := 7) rfl (by kernel_rfl) (fun K hK => ?_)
  go_simp
  refine hK.out _ _ (Or.inl (by kernel_rfl)) ?_
  clear hK K
  try simp only [Act.put, List.getElem_toArray, List.getElem_cons_zero, List.getElem_cons_succ, List.setIfInBounds_toArray, List.set_cons_zero, List.set_cons_succ]
  refine wpAnyF_done (by kernel_rfl) ?_ _
  go_wp2
  go_end0
  exact ⟨rfl, _, HS.out⟩

set_option maxRecDepth 20000 in
set_option maxHeartbeats 2000000 in
theorem kdo_move {a : Nat → Addr} {cs : List (List Ins)} {p : MkPl} {m : Mk} {K t : Nat} {w : World} (D : DoX a cs p m K t w) (L : List Ins) (x : Ins) (e : x.op = ⟨#[109, 111, 118, 101]⟩) {i : Nat} (hi : i < 8) (ei : x.a = i) {j : Nat} (hj : j < 8) (ej : x.b = j) :
    Calls Tryz.prog 49 #[.pointer (some ⟨p.b, 0, none⟩), .int .i64 t, .agg #[.string x.op, .int .i64 x.a, .int .i64 x.b, .int .i64 x.c, .string x.to]] w fun e w' => e = .returned (.tuple #[]) ∧ ∃ v, MkStep a cs p w v (m.exec L t x) w' := by
  rw [exec_move m L t e]
  rw [ei]
  rw [ej]
  simp only [Int.toNat_natCast]
  obtain ⟨xo, xa, xb, xc, xt⟩ := x
  dsimp only at e ei ej ⊢
  subst e ei ej
  have t6 := D.t6
  have t6i : (t : Int) < 6 := by omega
  have hba : Below w.heap.size w (w.alloc (.cells #[.string ⟨#[109, 111, 118, 101]⟩, .int .i64 i, .int .i64 j, .int .i64 xc, .string xt] 44)) := (Below.refl _ _).alloc (Nat.le_refl _) _
  have q0 : (w.alloc (.cells #[.string ⟨#[109, 111, 118, 101]⟩, .int .i64 i, .int .i64 j, .int .i64 xc, .string xt] 44)).cell? ⟨w.heap.size, 0, none⟩ = some (.string ⟨#[109, 111, 118, 101]⟩) := by simp
  have q1 : (w.alloc (.cells #[.string ⟨#[109, 111, 118, 101]⟩, .int .i64 i, .int .i64 j, .int .i64 xc, .string xt] 44)).cell? ⟨w.heap.size, 1, none⟩ = some (.int .i64 i) := by simp
  have q2 : (w.alloc (.cells #[.string ⟨#[109, 111, 118, 101]⟩, .int .i64 i, .int .i64 j, .int .i64 xc, .string xt] 44)).cell? ⟨w.heap.size, 2, none⟩ = some (.int .i64 j) := by simp
  have q3 : (w.alloc (.cells #[.string ⟨#[109, 111, 118, 101]⟩, .int .i64 i, .int .i64 j, .int .i64 xc, .string xt] 44)).cell? ⟨w.heap.size, 3, none⟩ = some (.int .i64 xc) := by simp
  have q4 : (w.alloc (.cells #[.string ⟨#[109, 111, 118, 101]⟩, .int .i64 i, .int .i64 j, .int .i64 xc, .string xt] 44)).cell? ⟨w.heap.size, 4, none⟩ = some (.string xt) := by simp
  have D1 := D.below hba
  have hlw := D.at'.lt
  have gi := D1.at'.reg t i t6 (by omega)
  have gj := D1.at'.reg t j t6 (by omega)
  have li : (i : Int) < 8 := by omega
  have lj : (j : Int) < 8 := by omega
  generalize hw : w.alloc (.cells #[.string ⟨#[109, 111, 118, 101]⟩, .int .i64 i, .int .i64 j, .int .i64 xc, .string xt] 44) = w1 at *
  have zi : w1.frozen? ⟨p.b, 585 + t * 9 + i, none⟩ = false := D1.at'.frozen _ (by omega) (by omega)
  have HS : Hid (MkStep a cs p w p.mv (m.setReg t i (m.regs t j)) ((w1.setCell ⟨p.b, 585 + t * 9 + i, none⟩ (.int .i64 (m.regs t j))).drew)) := (MkStep.of_below hba (D1.at'.setReg t6 (by omega) (m.regs t j))).below (Below.refl _ _).drew
  clear D D1 hba
  generalize m.regs t i = Ri at *
  generalize m.regs t j = Rj at *
  go_enter Tryz.func49, Tryz.ntmps49
  go_wp2_with fail
  clear hw
  refine wp_region_F (S := (fun w' => w'.cell? ⟨w.heap.size, 1, none⟩ = some (.int .i64 i) ∧ w'.cell? ⟨w.heap.size, 2, none⟩ = some (.int .i64 j) ∧ w'.cell? ⟨p.b, 585 + t * 9 + i, none⟩ = some (.int .i64 Ri) ∧ w'.cell? ⟨p.b, 585 + t * 9 + j, none⟩ = some (.int .i64 Rj))) (by kernel_rfl) (by (try dsimp only); go_keep) (fun hHeld => ?_)
  refine' wpAnyF_take (i := 0) (n := 11) (v := _) rfl (by kernel_rfl) (fun _ _ _ h => h) (by assumption) (Or.inl ⟨by rfl, ?hy8⟩) ?rest8
  case' hy8 => (intro w' hSw; (try dsimp only at hSw); go_simp; try with_reducible rfl)
  try simp only [Act.put, List.getElem_toArray, List.getElem_cons_zero, List.setIfInBounds_toArray, List.set_cons_zero, List.set_cons_succ]
  refine' wpAnyF_take (i := 1) (n := 11) (v := _) rfl (by kernel_rfl) (fun _ _ _ h => h) (by assumption) (Or.inl ⟨by rfl, ?hy9⟩) ?rest9
  case' hy9 => (intro w' hSw; (try dsimp only at hSw); go_simp; try with_reducible rfl)
  try simp only [Act.put, List.getElem_toArray, List.getElem_cons_zero, List.getElem_cons_succ, List.setIfInBounds_toArray, List.set_cons_zero, List.set_cons_succ]
  refine' wpAnyF_take (i := 2) (n := 11) (v := _) rfl (by kernel_rfl) (fun _ _ _ h => h) (by assumption) (Or.inl ⟨by rfl, ?hy10⟩) ?rest10
  case' hy10 => (intro w' hSw; (try dsimp only at hSw); go_simp; try with_reducible rfl)
  try simp only [Act.put, List.getElem_toArray, List.getElem_cons_zero, List.getElem_cons_succ, List.setIfInBounds_toArray, List.set_cons_zero, List.set_cons_succ]
  refine' wpAnyF_take (i := 3) (n := 11) (v := _) rfl (by kernel_rfl) (fun _ _ _ h => h) (by assumption) (Or.inl ⟨by rfl, ?hy11⟩) ?rest11
  case' hy11 => (intro w' hSw; (try dsimp only at hSw); go_simp; try with_reducible rfl)
  try simp only [Act.put, List.getElem_toArray, List.getElem_cons_zero, List.getElem_cons_succ, List.setIfInBounds_toArray, List.set_cons_zero, List.set_cons_succ]
  refine' wpAnyF_take (i := 4) (n := 11) (v := _) rfl (by kernel_rfl) (fun _ _ _ h => h) (by assumption) (Or.inl ⟨by rfl, ?hy12⟩) ?rest12
  case' hy12 => (intro w' hSw; (try dsimp only at hSw); go_simp; try with_reducible rfl)
  try simp only [Act.put, List.getElem_toArray, List.getElem_cons_zero, List.getElem_cons_succ, List.setIfInBounds_toArray, List.set_cons_zero, List.set_cons_succ]
  refine' wpAnyF_take (i := 5) (n := 11) (v := _) rfl (by kernel_rfl) (fun _ _ _ h => h) (by assumption) (Or.inl ⟨by rfl, ?hy13⟩) ?rest13
  case' hy13 => (intro w' hSw; (try dsimp only at hSw); go_simp; try with_reducible rfl)
  try simp only [Act.put, List.getElem_toArray, List.getElem_cons_zero, List.getElem_cons_succ, List.setIfInBounds_toArray, List.set_cons_zero, List.set_cons_succ]
  refine' wpAnyF_take (i := 6) (n := 11) (v := _) rfl (by kernel_rfl) (fun _ _ _ h => h) (by assumption) (Or.inl ⟨by rfl, ?hy14⟩) ?rest14
  case' hy14 => (intro w' hSw; (try dsimp only at hSw); go_simp; try with_reducible rfl)
  try simp only [Act.put, List.getElem_toArray, List.getElem_cons_zero, List.getElem_cons_succ, List.setIfInBounds_toArray, List.set_cons_zero, List.set_cons_succ]
  refine' wpAnyF_take (i := 7) (n := 11) (v := _) rfl (by kernel_rfl) (fun _ _ _ h => h) (by assumption) (Or.inl ⟨by rfl, ?hy15⟩) ?rest15
  case' hy15 => (intro w' hSw; (try dsimp only at hSw); go_simp; try with_reducible rfl)
  try simp only [Act.put, List.getElem_toArray, List.getElem_cons_zero, List.getElem_cons_succ, List.setIfInBounds_toArray, List.set_cons_zero, List.set_cons_succ]
  refine' wpAnyF_take (i := 8) (n := 11) (v := _) rfl (by kernel_rfl) (fun _ _ _ h => h) (by assumption) (Or.inl ⟨by rfl, ?hy16⟩) ?rest16
  case' hy16 => (intro w' hSw; (try dsimp only at hSw); go_simp; try with_reducible rfl)
  try simp only [Act.put, List.getElem_toArray, List.getElem_cons_zero, List.getElem_cons_succ, List.setIfInBounds_toArray, List.set_cons_zero, List.set_cons_succ]
  refine' wpAnyF_take (i := 9) (n := 11) (v := _) rfl (by kernel_rfl) (fun _ _ _ h => h) (by assumption) (Or.inl ⟨by rfl, ?hy17⟩) ?rest17
  case' hy17 => (intro w' hSw; (try dsimp only at hSw); go_simp; try with_reducible rfl)
  try simp only [Act.put, List.getElem_toArray, List.getElem_cons_zero, List.getElem_cons_succ, List.setIfInBounds_toArray, List.set_cons_zero, List.set_cons_succ]
  refine' wpAnyF_take (i := 10) (n := 11) (v := _) rfl (by kernel_rfl) (fun _ _ _ h => h) (by assumption) (Or.inl ⟨by rfl, ?hy18⟩) ?rest18
  case' hy18 => (intro w' hSw; (try dsimp only at hSw); go_simp; try with_reducible rfl)
  try simp only [Act.put, List.getElem_toArray, List.getElem_cons_zero, List.getElem_cons_succ, List.setIfInBounds_toArray, List.set_cons_zero, List.set_cons_succ]
  clear hHeld
  refine wpAnyF_only (i := 11) rfl (by kernel_rfl) (fun K hK => ?_)
  go_simp
  refine hK.out _ _ (Or.inl (by kernel_rfl)) ?_
  clear hK K
  try simp only [Act.put, List.getElem_toArray, List.getElem_cons_zero, List.getElem_cons_succ, List.setIfInBounds_toArray, List.set_cons_zero, List.set_cons_succ]
  refine wpAnyF_done (by kernel_rfl) ?_ _
  go_wp2
  go_end0
  exact ⟨rfl, _, HS.out⟩

set_option maxRecDepth 20000 in
set_option maxHeartbeats 2000000 in
theorem kdo_and {a : Nat → Addr} {cs : List (List Ins)} {p : MkPl} {m : Mk} {K t : Nat} {w : World} (D : DoX a cs p m K t w) (L : List Ins) (x : Ins) (e : x.op = ⟨#[97, 110, 100]⟩) {i : Nat} (hi : i < 8) (ei : x.a = i) {j : Nat} (hj : j < 8) (ej : x.b = j) {k : Nat} (hk : k < 8) (ek : x.c = k) :
    Calls Tryz.prog 49 #[.pointer (some ⟨p.b, 0, none⟩), .int .i64 t, .agg #[.string x.op, .int .i64 x.a, .int .i64 x.b, .int .i64 x.c, .string x.to]] w fun e w' => e = .returned (.tuple #[]) ∧ ∃ v, MkStep a cs p w v (m.exec L t x) w' := by
  rw [exec_and m L t e]
  rw [ei]
  rw [ej]
  rw [ek]
  simp only [Int.toNat_natCast]
  obtain ⟨xo, xa, xb, xc, xt⟩ := x
  dsimp only at e ei ej ek ⊢
  subst e ei ej ek
  have t6 := D.t6
  have t6i : (t : Int) < 6 := by omega
  have hba : Below w.heap.size w (w.alloc (.cells #[.string ⟨#[97, 110, 100]⟩, .int .i64 i, .int .i64 j, .int .i64 k, .string xt] 44)) := (Below.refl _ _).alloc (Nat.le_refl _) _
  have q0 : (w.alloc (.cells #[.string ⟨#[97, 110, 100]⟩, .int .i64 i, .int .i64 j, .int .i64 k, .string xt] 44)).cell? ⟨w.heap.size, 0, none⟩ = some (.string ⟨#[97, 110, 100]⟩) := by simp
  have q1 : (w.alloc (.cells #[.string ⟨#[97, 110, 100]⟩, .int .i64 i, .int .i64 j, .int .i64 k, .string xt] 44)).cell? ⟨w.heap.size, 1, none⟩ = some (.int .i64 i) := by simp
  have q2 : (w.alloc (.cells #[.string ⟨#[97, 110, 100]⟩, .int .i64 i, .int .i64 j, .int .i64 k, .string xt] 44)).cell? ⟨w.heap.size, 2, none⟩ = some (.int .i64 j) := by simp
  have q3 : (w.alloc (.cells #[.string ⟨#[97, 110, 100]⟩, .int .i64 i, .int .i64 j, .int .i64 k, .string xt] 44)).cell? ⟨w.heap.size, 3, none⟩ = some (.int .i64 k) := by simp
  have q4 : (w.alloc (.cells #[.string ⟨#[97, 110, 100]⟩, .int .i64 i, .int .i64 j, .int .i64 k, .string xt] 44)).cell? ⟨w.heap.size, 4, none⟩ = some (.string xt) := by simp
  have D1 := D.below hba
  have hlw := D.at'.lt
  have gi := D1.at'.reg t i t6 (by omega)
  have gj := D1.at'.reg t j t6 (by omega)
  have gk := D1.at'.reg t k t6 (by omega)
  have li : (i : Int) < 8 := by omega
  have lj : (j : Int) < 8 := by omega
  have lk : (k : Int) < 8 := by omega
  generalize hw : w.alloc (.cells #[.string ⟨#[97, 110, 100]⟩, .int .i64 i, .int .i64 j, .int .i64 k, .string xt] 44) = w1 at *
  have zi : w1.frozen? ⟨p.b, 585 + t * 9 + i, none⟩ = false := D1.at'.frozen _ (by omega) (by omega)
  have HS : Hid (MkStep a cs p w p.mv (m.setReg t i (andW (m.regs t j) (m.regs t k))) ((w1.setCell ⟨p.b, 585 + t * 9 + i, none⟩ (.int .i64 (andW (m.regs t j) (m.regs t k)))).drew)) := (MkStep.of_below hba (D1.at'.setReg t6 (by omega) (andW (m.regs t j) (m.regs t k)))).below (Below.refl _ _).drew
  have HB : Hid (bits .and .i64 (m.regs t j) (m.regs t k) = andW (m.regs t j) (m.regs t k)) := and_word (D.ok.regs _ _) (D.ok.regs _ _)
  clear D D1 hba
  generalize m.regs t i = Ri at *
  generalize m.regs t j = Rj at *
  generalize m.regs t k = Rk at *
  go_enter Tryz.func49, Tryz.ntmps49
  go_wp2_with fail
  clear hw
  refine wp_region_F (S := (fun w' => w'.cell? ⟨w.heap.size, 1, none⟩ = some (.int .i64 i) ∧ w'.cell? ⟨w.heap.size, 2, none⟩ = some (.int .i64 j) ∧ w'.cell? ⟨w.heap.size, 3, none⟩ = some (.int .i64 k) ∧ w'.cell? ⟨p.b, 585 + t * 9 + i, none⟩ = some (.int .i64 Ri) ∧ w'.cell? ⟨p.b, 585 + t * 9 + j, none⟩ = some (.int .i64 Rj) ∧ w'.cell? ⟨p.b, 585 + t * 9 + k, none⟩ = some (.int .i64 Rk))) (by kernel_rfl) (by (try dsimp only); go_keep) (fun hHeld => ?_)
  refine' wpAnyF_take (i := 0) (n := 18) (v := _) rfl (by kernel_rfl) (fun _ _ _ h => h) (by assumption) (Or.inl ⟨by rfl, ?hy19⟩) ?rest19
  case' hy19 => (intro w' hSw; (try dsimp only at hSw); go_simp; try with_reducible rfl)
  try simp only [Act.put, List.getElem_toArray, List.getElem_cons_zero, List.setIfInBounds_toArray, List.set_cons_zero, List.set_cons_succ]
  refine' wpAnyF_take (i := 1) (n := 18) (v := _) rfl (by kernel_rfl) (fun _ _ _ h => h) (by assumption) (Or.inl ⟨by rfl, ?hy20⟩) ?rest20
  case' hy20 => (intro w' hSw; (try dsimp only at hSw); go_simp; try with_reducible rfl)
  try simp only [Act.put, List.getElem_toArray, List.getElem_cons_zero, List.getElem_cons_succ, List.setIfInBounds_toArray, List.set_cons_zero, List.set_cons_succ]
  refine' wpAnyF_take (i := 2) (n := 18) (v := _) rfl (by kernel_rfl) (fun _ _ _ h => h) (by assumption) (Or.inl ⟨by rfl, ?hy21⟩) ?rest21
  case' hy21 => (intro w' hSw; (try dsimp only at hSw); go_simp; try with_reducible rfl)
  try simp only [Act.put, List.getElem_toArray, List.getElem_cons_zero, List.getElem_cons_succ, List.setIfInBounds_toArray, List.set_cons_zero, List.set_cons_succ]
  refine' wpAnyF_take (i := 3) (n := 18) (v := _) rfl (by kernel_rfl) (fun _ _ _ h => h) (by assumption) (Or.inl ⟨by rfl, ?hy22⟩) ?rest22
  case' hy22 => (intro w' hSw; (try dsimp only at hSw); go_simp; try with_reducible rfl)
  try simp only [Act.put, List.getElem_toArray, List.getElem_cons_zero, List.getElem_cons_succ, List.setIfInBounds_toArray, List.set_cons_zero, List.set_cons_succ]
  refine' wpAnyF_take (i := 4) (n := 18) (v := _) rfl (by kernel_rfl) (fun _ _ _ h => h) (by assumption) (Or.inl ⟨by rfl, ?hy23⟩) ?rest23
  case' hy23 => (intro w' hSw; (try dsimp only at hSw); go_simp; try with_reducible rfl)
  try simp only [Act.put, List.getElem_toArray, List.getElem_cons_zero, List.getElem_cons_succ, List.setIfInBounds_toArray, List.set_cons_zero, List.set_cons_succ]
  refine' wpAnyF_take (i := 5) (n := 18) (v := _) rfl (by kernel_rfl) (fun _ _ _ h => h) (by assumption) (Or.inl ⟨by rfl, ?hy24⟩) ?rest24
  case' hy24 => (intro w' hSw; (try dsimp only at hSw); go_simp; try with_reducible rfl)
  try simp only [Act.put, List.getElem_toArray, List.getElem_cons_zero, List.getElem_cons_succ, List.setIfInBounds_toArray, List.set_cons_zero, List.set_cons_succ]
  refine' wpAnyF_take (i := 6) (n := 18) (v := _) rfl (by kernel_rfl) (fun _ _ _ h => h) (by assumption) (Or.inl ⟨by rfl, ?hy25⟩) ?rest25
  case' hy25 => (intro w' hSw; (try dsimp only at hSw); go_simp; try with_reducible rfl)
  try simp only [Act.put, List.getElem_toArray, List.getElem_cons_zero, List.getElem_cons_succ, List.setIfInBounds_toArray, List.set_cons_zero, List.set_cons_succ]
  refine' wpAnyF_take (i := 7) (n := 18) (v := _) rfl (by kernel_rfl) (fun _ _ _ h => h) (by assumption) (Or.inl ⟨by rfl, ?hy26⟩) ?rest26
  case' hy26 => (intro w' hSw; (try dsimp only at hSw); go_simp; try with_reducible rfl)
  try simp only [Act.put, List.getElem_toArray, List.getElem_cons_zero, List.getElem_cons_succ, List.setIfInBounds_toArray, List.set_cons_zero, List.set_cons_succ]
  refine' wpAnyF_take (i := 8) (n := 18) (v := _) rfl (by kernel_rfl) (fun _ _ _ h => h) (by assumption) (Or.inl ⟨by rfl, ?hy27⟩) ?rest27
  case' hy27 => (intro w' hSw; (try dsimp only at hSw); go_simp; try with_reducible rfl)
  try simp only [Act.put, List.getElem_toArray, List.getElem_cons_zero, List.getElem_cons_succ, List.setIfInBounds_toArray, List.set_cons_zero, List.set_cons_succ]
  refine' wpAnyF_take (i := 9) (n := 18) (v := _) rfl (by kernel_rfl) (fun _ _ _ h => h) (by assumption) (Or.inl ⟨by rfl, ?hy28⟩) ?rest28
  case' hy28 => (intro w' hSw; (try dsimp only at hSw); go_simp; try with_reducible rfl)
  try simp only [Act.put, List.getElem_toArray, List.getElem_cons_zero, List.getElem_cons_succ, List.setIfInBounds_toArray, List.set_cons_zero, List.set_cons_succ]
  refine' wpAnyF_take (i := 10) (n := 18) (v := _) rfl (by kernel_rfl) (fun _ _ _ h => h) (by assumption) (Or.inl ⟨by rfl, ?hy29⟩) ?rest29
  case' hy29 => (intro w' hSw; (try dsimp only at hSw); go_simp; try with_reducible rfl)
  try simp only [Act.put, List.getElem_toArray, List.getElem_cons_zero, List.getElem_cons_succ, List.setIfInBounds_toArray, List.set_cons_zero, List.set_cons_succ]
  refine' wpAnyF_take (i := 11) (n := 18) (v := _) rfl (by kernel_rfl) (fun _ _ _ h => h) (by assumption) (Or.inl ⟨by rfl, ?hy30⟩) ?rest30
  case' hy30 => (intro w' hSw; (try dsimp only at hSw); go_simp; try with_reducible rfl)
  try simp only [Act.put, List.getElem_toArray, List.getElem_cons_zero, List.getElem_cons_succ, List.setIfInBounds_toArray, List.set_cons_zero, List.set_cons_succ]
  refine' wpAnyF_take (i := 12) (n := 18) (v := _) rfl (by kernel_rfl) (fun _ _ _ h => h) (by assumption) (Or.inl ⟨by rfl, ?hy31⟩) ?rest31
  case' hy31 => (intro w' hSw; (try dsimp only at hSw); go_simp; try with_reducible rfl)
  try simp only [Act.put, List.getElem_toArray, List.getElem_cons_zero, List.getElem_cons_succ, List.setIfInBounds_toArray, List.set_cons_zero, List.set_cons_succ]
  refine' wpAnyF_take (i := 13) (n := 18) (v := _) rfl (by kernel_rfl) (fun _ _ _ h => h) (by assumption) (Or.inl ⟨by rfl, ?hy32⟩) ?rest32
  case' hy32 => (intro w' hSw; (try dsimp only at hSw); go_simp; try with_reducible rfl)
  try simp only [Act.put, List.getElem_toArray, List.getElem_cons_zero, List.getElem_cons_succ, List.setIfInBounds_toArray, List.set_cons_zero, List.set_cons_succ]
  refine' wpAnyF_take (i := 14) (n := 18) (v := _) rfl (by kernel_rfl) (fun _ _ _ h => h) (by assumption) (Or.inl ⟨by rfl, ?hy33⟩) ?rest33
  case' hy33 => (intro w' hSw; (try dsimp only at hSw); go_simp; try with_reducible rfl)
  try simp only [Act.put, List.getElem_toArray, List.getElem_cons_zero, List.getElem_cons_succ, List.setIfInBounds_toArray, List.set_cons_zero, List.set_cons_succ]
  refine' wpAnyF_take (i := 15) (n := 18) (v := _) rfl (by kernel_rfl) (fun _ _ _ h => h) (by assumption) (Or.inl ⟨by rfl, ?hy34⟩) ?rest34
  case' hy34 => (intro w' hSw; (try dsimp only at hSw); go_simp; try with_reducible rfl)
  try simp only [Act.put, List.getElem_toArray, List.getElem_cons_zero, List.getElem_cons_succ, List.setIfInBounds_toArray, List.set_cons_zero, List.set_cons_succ]
  refine' wpAnyF_take (i := 16) (n := 18) (v := _) rfl (by kernel_rfl) (fun _ _ _ h => h) (by assumption) (Or.inl ⟨by rfl, ?hy35⟩) ?rest35
  case' hy35 => (intro w' hSw; (try dsimp only at hSw); go_simp; try with_reducible rfl)
  try simp only [Act.put, List.getElem_toArray, List.getElem_cons_zero, List.getElem_cons_succ, List.setIfInBounds_toArray, List.set_cons_zero, List.set_cons_succ]
  refine' wpAnyF_take (i := 17) (n := 18) (v := _) rfl (by kernel_rfl) (fun _ _ _ h => h) (by assumption) (Or.inl ⟨by rfl, ?hy36⟩) ?rest36
  case' hy36 => (intro w' hSw; (try dsimp only at hSw); go_simp; try with_reducible rfl)
  try simp only [Act.put, List.getElem_toArray, List.getElem_cons_zero, List.getElem_cons_succ, List.setIfInBounds_toArray, List.set_cons_zero, List.set_cons_succ]
  clear hHeld
  refine wpAnyF_only (i := 18) rfl (by kernel_rfl) (fun K hK => ?_)
  go_simp
  refine hK.out _ _ (Or.inl (by kernel_rfl)) ?_
  clear hK K
  try simp only [Act.put, List.getElem_toArray, List.getElem_cons_zero, List.getElem_cons_succ, List.setIfInBounds_toArray, List.set_cons_zero, List.set_cons_succ]
  refine wpAnyF_done (by kernel_rfl) ?_ _
  go_wp2
  go_end0
  rw [HB.out]
  exact ⟨rfl, _, HS.out⟩

set_option maxRecDepth 20000 in
set_option maxHeartbeats 2000000 in
theorem kdo_xor {a : Nat → Addr} {cs : List (List Ins)} {p : MkPl} {m : Mk} {K t : Nat} {w : World} (D : DoX a cs p m K t w) (L : List Ins) (x : Ins) (e : x.op = ⟨#[120, 111, 114]⟩) {i : Nat} (hi : i < 8) (ei : x.a = i) {j : Nat} (hj : j < 8) (ej : x.b = j) {k : Nat} (hk : k < 8) (ek : x.c = k) :
    Calls Tryz.prog 49 #[.pointer (some ⟨p.b, 0, none⟩), .int .i64 t, .agg #[.string x.op, .int .i64 x.a, .int .i64 x.b, .int .i64 x.c, .string x.to]] w fun e w' => e = .returned (.tuple #[]) ∧ ∃ v, MkStep a cs p w v (m.exec L t x) w' := by
  rw [exec_xor m L t e]
  rw [ei]
  rw [ej]
  rw [ek]
  simp only [Int.toNat_natCast]
  obtain ⟨xo, xa, xb, xc, xt⟩ := x
  dsimp only at e ei ej ek ⊢
  subst e ei ej ek
  have t6 := D.t6
  have t6i : (t : Int) < 6 := by omega
  have hba : Below w.heap.size w (w.alloc (.cells #[.string ⟨#[120, 111, 114]⟩, .int .i64 i, .int .i64 j, .int .i64 k, .string xt] 44)) := (Below.refl _ _).alloc (Nat.le_refl _) _
  have q0 : (w.alloc (.cells #[.string ⟨#[120, 111, 114]⟩, .int .i64 i, .int .i64 j, .int .i64 k, .string xt] 44)).cell? ⟨w.heap.size, 0, none⟩ = some (.string ⟨#[120, 111, 114]⟩) := by simp
  have q1 : (w.alloc (.cells #[.string ⟨#[120, 111, 114]⟩, .int .i64 i, .int .i64 j, .int .i64 k, .string xt] 44)).cell? ⟨w.heap.size, 1, none⟩ = some (.int .i64 i) := by simp
  have q2 : (w.alloc (.cells #[.string ⟨#[120, 111, 114]⟩, .int .i64 i, .int .i64 j, .int .i64 k, .string xt] 44)).cell? ⟨w.heap.size, 2, none⟩ = some (.int .i64 j) := by simp
  have q3 : (w.alloc (.cells #[.string ⟨#[120, 111, 114]⟩, .int .i64 i, .int .i64 j, .int .i64 k, .string xt] 44)).cell? ⟨w.heap.size, 3, none⟩ = some (.int .i64 k) := by simp
  have q4 : (w.alloc (.cells #[.string ⟨#[120, 111, 114]⟩, .int .i64 i, .int .i64 j, .int .i64 k, .string xt] 44)).cell? ⟨w.heap.size, 4, none⟩ = some (.string xt) := by simp
  have D1 := D.below hba
  have hlw := D.at'.lt
  have gi := D1.at'.reg t i t6 (by omega)
  have gj := D1.at'.reg t j t6 (by omega)
  have gk := D1.at'.reg t k t6 (by omega)
  have li : (i : Int) < 8 := by omega
  have lj : (j : Int) < 8 := by omega
  have lk : (k : Int) < 8 := by omega
  generalize hw : w.alloc (.cells #[.string ⟨#[120, 111, 114]⟩, .int .i64 i, .int .i64 j, .int .i64 k, .string xt] 44) = w1 at *
  have zi : w1.frozen? ⟨p.b, 585 + t * 9 + i, none⟩ = false := D1.at'.frozen _ (by omega) (by omega)
  have HS : Hid (MkStep a cs p w p.mv (m.setReg t i (xorW (m.regs t j) (m.regs t k))) ((w1.setCell ⟨p.b, 585 + t * 9 + i, none⟩ (.int .i64 (xorW (m.regs t j) (m.regs t k)))).drew)) := (MkStep.of_below hba (D1.at'.setReg t6 (by omega) (xorW (m.regs t j) (m.regs t k)))).below (Below.refl _ _).drew
  have HB : Hid (bits .xor .i64 (m.regs t j) (m.regs t k) = xorW (m.regs t j) (m.regs t k)) := xor_word (D.ok.regs _ _) (D.ok.regs _ _)
  clear D D1 hba
  generalize m.regs t i = Ri at *
  generalize m.regs t j = Rj at *
  generalize m.regs t k = Rk at *
  go_enter Tryz.func49, Tryz.ntmps49
  go_wp2_with fail
  clear hw
  refine wp_region_F (S := (fun w' => w'.cell? ⟨w.heap.size, 1, none⟩ = some (.int .i64 i) ∧ w'.cell? ⟨w.heap.size, 2, none⟩ = some (.int .i64 j) ∧ w'.cell? ⟨w.heap.size, 3, none⟩ = some (.int .i64 k) ∧ w'.cell? ⟨p.b, 585 + t * 9 + i, none⟩ = some (.int .i64 Ri) ∧ w'.cell? ⟨p.b, 585 + t * 9 + j, none⟩ = some (.int .i64 Rj) ∧ w'.cell? ⟨p.b, 585 + t * 9 + k, none⟩ = some (.int .i64 Rk))) (by kernel_rfl) (by (try dsimp only); go_keep) (fun hHeld => ?_)
  refine' wpAnyF_take (i := 0) (n := 18) (v := _) rfl (by kernel_rfl) (fun _ _ _ h => h) (by assumption) (Or.inl ⟨by rfl, ?hy37⟩) ?rest37
  case' hy37 => (intro w' hSw; (try dsimp only at hSw); go_simp; try with_reducible rfl)
  try simp only [Act.put, List.getElem_toArray, List.getElem_cons_zero, List.setIfInBounds_toArray, List.set_cons_zero, List.set_cons_succ]
  refine' wpAnyF_take (i := 1) (n := 18) (v := _) rfl (by kernel_rfl) (fun _ _ _ h => h) (by assumption) (Or.inl ⟨by rfl, ?hy38⟩) ?rest38
  case' hy38 => (intro w' hSw; (try dsimp only at hSw); go_simp; try with_reducible rfl)
  try simp only [Act.put, List.getElem_toArray, List.getElem_cons_zero, List.getElem_cons_succ, List.setIfInBounds_toArray, List.set_cons_zero, List.set_cons_succ]
  refine' wpAnyF_take (i := 2) (n := 18) (v := _) rfl (by kernel_rfl) (fun _ _ _ h => h) (by assumption) (Or.inl ⟨by rfl, ?hy39⟩) ?rest39
  case' hy39 => (intro w' hSw; (try dsimp only at hSw); go_simp; try with_reducible rfl)
  try simp only [Act.put, List.getElem_toArray, List.getElem_cons_zero, List.getElem_cons_succ, List.setIfInBounds_toArray, List.set_cons_zero, List.set_cons_succ]
  refine' wpAnyF_take (i := 3) (n := 18) (v := _) rfl (by kernel_rfl) (fun _ _ _ h => h) (by assumption) (Or.inl ⟨by rfl, ?hy40⟩) ?rest40
  case' hy40 => (intro w' hSw; (try dsimp only at hSw); go_simp; try with_reducible rfl)
  try simp only [Act.put, List.getElem_toArray, List.getElem_cons_zero, List.getElem_cons_succ, List.setIfInBounds_toArray, List.set_cons_zero, List.set_cons_succ]
  refine' wpAnyF_take (i := 4) (n := 18) (v := _) rfl (by kernel_rfl) (fun _ _ _ h => h) (by assumption) (Or.inl ⟨by rfl, ?hy41⟩) ?rest41
  case' hy41 => (intro w' hSw; (try dsimp only at hSw); go_simp; try with_reducible rfl)
  try simp only [Act.put, List.getElem_toArray, List.getElem_cons_zero, List.getElem_cons_succ, List.setIfInBounds_toArray, List.set_cons_zero, List.set_cons_succ]
  refine' wpAnyF_take (i := 5) (n := 18) (v := _) rfl (by kernel_rfl) (fun _ _ _ h => h) (by assumption) (Or.inl ⟨by rfl, ?hy42⟩) ?rest42
  case' hy42 => (intro w' hSw; (try dsimp only at hSw); go_simp; try with_reducible rfl)
  try simp only [Act.put, List.getElem_toArray, List.getElem_cons_zero, List.getElem_cons_succ, List.setIfInBounds_toArray, List.set_cons_zero, List.set_cons_succ]
  refine' wpAnyF_take (i := 6) (n := 18) (v := _) rfl (by kernel_rfl) (fun _ _ _ h => h) (by assumption) (Or.inl ⟨by rfl, ?hy43⟩) ?rest43
  case' hy43 => (intro w' hSw; (try dsimp only at hSw); go_simp; try with_reducible rfl)
  try simp only [Act.put, List.getElem_toArray, List.getElem_cons_zero, List.getElem_cons_succ, List.setIfInBounds_toArray, List.set_cons_zero, List.set_cons_succ]
  refine' wpAnyF_take (i := 7) (n := 18) (v := _) rfl (by kernel_rfl) (fun _ _ _ h => h) (by assumption) (Or.inl ⟨by rfl, ?hy44⟩) ?rest44
  case' hy44 => (intro w' hSw; (try dsimp only at hSw); go_simp; try with_reducible rfl)
  try simp only [Act.put, List.getElem_toArray, List.getElem_cons_zero, List.getElem_cons_succ, List.setIfInBounds_toArray, List.set_cons_zero, List.set_cons_succ]
  refine' wpAnyF_take (i := 8) (n := 18) (v := _) rfl (by kernel_rfl) (fun _ _ _ h => h) (by assumption) (Or.inl ⟨by rfl, ?hy45⟩) ?rest45
  case' hy45 => (intro w' hSw; (try dsimp only at hSw); go_simp; try with_reducible rfl)
  try simp only [Act.put, List.getElem_toArray, List.getElem_cons_zero, List.getElem_cons_succ, List.setIfInBounds_toArray, List.set_cons_zero, List.set_cons_succ]
  refine' wpAnyF_take (i := 9) (n := 18) (v := _) rfl (by kernel_rfl) (fun _ _ _ h => h) (by assumption) (Or.inl ⟨by rfl, ?hy46⟩) ?rest46
  case' hy46 => (intro w' hSw; (try dsimp only at hSw); go_simp; try with_reducible rfl)
  try simp only [Act.put, List.getElem_toArray, List.getElem_cons_zero, List.getElem_cons_succ, List.setIfInBounds_toArray, List.set_cons_zero, List.set_cons_succ]
  refine' wpAnyF_take (i := 10) (n := 18) (v := _) rfl (by kernel_rfl) (fun _ _ _ h => h) (by assumption) (Or.inl ⟨by rfl, ?hy47⟩) ?rest47
  case' hy47 => (intro w' hSw; (try dsimp only at hSw); go_simp; try with_reducible rfl)
  try simp only [Act.put, List.getElem_toArray, List.getElem_cons_zero, List.getElem_cons_succ, List.setIfInBounds_toArray, List.set_cons_zero, List.set_cons_succ]
  refine' wpAnyF_take (i := 11) (n := 18) (v := _) rfl (by kernel_rfl) (fun _ _ _ h => h) (by assumption) (Or.inl ⟨by rfl, ?hy48⟩) ?rest48
  case' hy48 => (intro w' hSw; (try dsimp only at hSw); go_simp; try with_reducible rfl)
  try simp only [Act.put, List.getElem_toArray, List.getElem_cons_zero, List.getElem_cons_succ, List.setIfInBounds_toArray, List.set_cons_zero, List.set_cons_succ]
  refine' wpAnyF_take (i := 12) (n := 18) (v := _) rfl (by kernel_rfl) (fun _ _ _ h => h) (by assumption) (Or.inl ⟨by rfl, ?hy49⟩) ?rest49
  case' hy49 => (intro w' hSw; (try dsimp only at hSw); go_simp; try with_reducible rfl)
  try simp only [Act.put, List.getElem_toArray, List.getElem_cons_zero, List.getElem_cons_succ, List.setIfInBounds_toArray, List.set_cons_zero, List.set_cons_succ]
  refine' wpAnyF_take (i := 13) (n := 18) (v := _) rfl (by kernel_rfl) (fun _ _ _ h => h) (by assumption) (Or.inl ⟨by rfl, ?hy50⟩) ?rest50
  case' hy50 => (intro w' hSw; (try dsimp only at hSw); go_simp; try with_reducible rfl)
  try simp only [Act.put, List.getElem_toArray, List.getElem_cons_zero, List.getElem_cons_succ, List.setIfInBounds_toArray, List.set_cons_zero, List.set_cons_succ]
  refine' wpAnyF_take (i := 14) (n := 18) (v := _) rfl (by kernel_rfl) (fun _ _ _ h => h) (by assumption) (Or.inl ⟨by rfl, ?hy51⟩) ?rest51
  case' hy51 => (intro w' hSw; (try dsimp only at hSw); go_simp; try with_reducible rfl)
  try simp only [Act.put, List.getElem_toArray, List.getElem_cons_zero, List.getElem_cons_succ, List.setIfInBounds_toArray, List.set_cons_zero, List.set_cons_succ]
  refine' wpAnyF_take (i := 15) (n := 18) (v := _) rfl (by kernel_rfl) (fun _ _ _ h => h) (by assumption) (Or.inl ⟨by rfl, ?hy52⟩) ?rest52
  case' hy52 => (intro w' hSw; (try dsimp only at hSw); go_simp; try with_reducible rfl)
  try simp only [Act.put, List.getElem_toArray, List.getElem_cons_zero, List.getElem_cons_succ, List.setIfInBounds_toArray, List.set_cons_zero, List.set_cons_succ]
  refine' wpAnyF_take (i := 16) (n := 18) (v := _) rfl (by kernel_rfl) (fun _ _ _ h => h) (by assumption) (Or.inl ⟨by rfl, ?hy53⟩) ?rest53
  case' hy53 => (intro w' hSw; (try dsimp only at hSw); go_simp; try with_reducible rfl)
  try simp only [Act.put, List.getElem_toArray, List.getElem_cons_zero, List.getElem_cons_succ, List.setIfInBounds_toArray, List.set_cons_zero, List.set_cons_succ]
  refine' wpAnyF_take (i := 17) (n := 18) (v := _) rfl (by kernel_rfl) (fun _ _ _ h => h) (by assumption) (Or.inl ⟨by rfl, ?hy54⟩) ?rest54
  case' hy54 => (intro w' hSw; (try dsimp only at hSw); go_simp; try with_reducible rfl)
  try simp only [Act.put, List.getElem_toArray, List.getElem_cons_zero, List.getElem_cons_succ, List.setIfInBounds_toArray, List.set_cons_zero, List.set_cons_succ]
  clear hHeld
  refine wpAnyF_only (i := 18) rfl (by kernel_rfl) (fun K hK => ?_)
  go_simp
  refine hK.out _ _ (Or.inl (by kernel_rfl)) ?_
  clear hK K
  try simp only [Act.put, List.getElem_toArray, List.getElem_cons_zero, List.getElem_cons_succ, List.setIfInBounds_toArray, List.set_cons_zero, List.set_cons_succ]
  refine wpAnyF_done (by kernel_rfl) ?_ _
  go_wp2
  go_end0
  rw [HB.out]
  exact ⟨rfl, _, HS.out⟩

set_option maxRecDepth 20000 in
set_option maxHeartbeats 2000000 in
theorem kdo_add {a : Nat → Addr} {cs : List (List Ins)} {p : MkPl} {m : Mk} {K t : Nat} {w : World} (D : DoX a cs p m K t w) (L : List Ins) (x : Ins) (e : x.op = ⟨#[97, 100, 100]⟩) {i : Nat} (hi : i < 8) (ei : x.a = i) {j : Nat} (hj : j < 8) (ej : x.b = j) {k : Nat} (hk : k < 8) (ek : x.c = k) :
    Calls Tryz.prog 49 #[.pointer (some ⟨p.b, 0, none⟩), .int .i64 t, .agg #[.string x.op, .int .i64 x.a, .int .i64 x.b, .int .i64 x.c, .string x.to]] w fun e w' => e = .returned (.tuple #[]) ∧ ∃ v, MkStep a cs p w v (m.exec L t x) w' := by
  rw [exec_add m L t e]
  rw [ei]
  rw [ej]
  rw [ek]
  simp only [Int.toNat_natCast]
  obtain ⟨xo, xa, xb, xc, xt⟩ := x
  dsimp only at e ei ej ek ⊢
  subst e ei ej ek
  have t6 := D.t6
  have t6i : (t : Int) < 6 := by omega
  have hba : Below w.heap.size w (w.alloc (.cells #[.string ⟨#[97, 100, 100]⟩, .int .i64 i, .int .i64 j, .int .i64 k, .string xt] 44)) := (Below.refl _ _).alloc (Nat.le_refl _) _
  have q0 : (w.alloc (.cells #[.string ⟨#[97, 100, 100]⟩, .int .i64 i, .int .i64 j, .int .i64 k, .string xt] 44)).cell? ⟨w.heap.size, 0, none⟩ = some (.string ⟨#[97, 100, 100]⟩) := by simp
  have q1 : (w.alloc (.cells #[.string ⟨#[97, 100, 100]⟩, .int .i64 i, .int .i64 j, .int .i64 k, .string xt] 44)).cell? ⟨w.heap.size, 1, none⟩ = some (.int .i64 i) := by simp
  have q2 : (w.alloc (.cells #[.string ⟨#[97, 100, 100]⟩, .int .i64 i, .int .i64 j, .int .i64 k, .string xt] 44)).cell? ⟨w.heap.size, 2, none⟩ = some (.int .i64 j) := by simp
  have q3 : (w.alloc (.cells #[.string ⟨#[97, 100, 100]⟩, .int .i64 i, .int .i64 j, .int .i64 k, .string xt] 44)).cell? ⟨w.heap.size, 3, none⟩ = some (.int .i64 k) := by simp
  have q4 : (w.alloc (.cells #[.string ⟨#[97, 100, 100]⟩, .int .i64 i, .int .i64 j, .int .i64 k, .string xt] 44)).cell? ⟨w.heap.size, 4, none⟩ = some (.string xt) := by simp
  have D1 := D.below hba
  have hlw := D.at'.lt
  have gi := D1.at'.reg t i t6 (by omega)
  have gj := D1.at'.reg t j t6 (by omega)
  have gk := D1.at'.reg t k t6 (by omega)
  have li : (i : Int) < 8 := by omega
  have lj : (j : Int) < 8 := by omega
  have lk : (k : Int) < 8 := by omega
  generalize hw : w.alloc (.cells #[.string ⟨#[97, 100, 100]⟩, .int .i64 i, .int .i64 j, .int .i64 k, .string xt] 44) = w1 at *
  have hj := D.ok.regs t j
  have hk := D.ok.regs t k
  have hw1 : IntKind.i64.wrap (m.regs t j + m.regs t k) = m.regs t j + m.regs t k := by obtain ⟨_, _⟩ := hj; obtain ⟨_, _⟩ := hk; rw [IntKind.wrap_i64]; omega
  have H1 := hide D1.at'
  have zi : w1.frozen? ⟨p.b, 585 + t * 9 + i, none⟩ = false := D1.at'.frozen _ (by omega) (by omega)
  have HS : Hid (MkStep a cs p w p.mv (m.setReg t i ((m.regs t j + m.regs t k) % 4294967296)) ((w1.setCell ⟨p.b, 585 + t * 9 + i, none⟩ (.int .i64 ((m.regs t j + m.regs t k) % 4294967296))).drew)) := (MkStep.of_below hba (D1.at'.setReg t6 (by omega) ((m.regs t j + m.regs t k) % 4294967296))).below (Below.refl _ _).drew
  clear D D1 hba hj hk H1
  generalize m.regs t i = Ri at *
  generalize m.regs t j = Rj at *
  generalize m.regs t k = Rk at *
  go_enter Tryz.func49, Tryz.ntmps49
  go_wp2_with fail
  clear hw
  refine wp_region_F (S := (fun w' => w'.cell? ⟨w.heap.size, 1, none⟩ = some (.int .i64 i) ∧ w'.cell? ⟨w.heap.size, 2, none⟩ = some (.int .i64 j) ∧ w'.cell? ⟨w.heap.size, 3, none⟩ = some (.int .i64 k) ∧ w'.cell? ⟨p.b, 585 + t * 9 + i, none⟩ = some (.int .i64 Ri) ∧ w'.cell? ⟨p.b, 585 + t * 9 + j, none⟩ = some (.int .i64 Rj) ∧ w'.cell? ⟨p.b, 585 + t * 9 + k, none⟩ = some (.int .i64 Rk))) (by kernel_rfl) (by (try dsimp only); go_keep) (fun hHeld => ?_)
  refine' wpAnyF_take (i := 0) (n := 19) (v := _) rfl (by kernel_rfl) (fun _ _ _ h => h) (by assumption) (Or.inl ⟨by rfl, ?hy55⟩) ?rest55
  case' hy55 => (intro w' hSw; (try dsimp only at hSw); go_simp; try with_reducible rfl)
  try simp only [Act.put, List.getElem_toArray, List.getElem_cons_zero, List.setIfInBounds_toArray, List.set_cons_zero, List.set_cons_succ]
  refine' wpAnyF_take (i := 1) (n := 19) (v := _) rfl (by kernel_rfl) (fun _ _ _ h => h) (by assumption) (Or.inl ⟨by rfl, ?hy56⟩) ?rest56
  case' hy56 => (intro w' hSw; (try dsimp only at hSw); go_simp; try with_reducible rfl)
  try simp only [Act.put, List.getElem_toArray, List.getElem_cons_zero, List.getElem_cons_succ, List.setIfInBounds_toArray, List.set_cons_zero, List.set_cons_succ]
  refine' wpAnyF_take (i := 2) (n := 19) (v := _) rfl (by kernel_rfl) (fun _ _ _ h => h) (by assumption) (Or.inl ⟨by rfl, ?hy57⟩) ?rest57
  case' hy57 => (intro w' hSw; (try dsimp only at hSw); go_simp; try with_reducible rfl)
  try simp only [Act.put, List.getElem_toArray, List.getElem_cons_zero, List.getElem_cons_succ, List.setIfInBounds_toArray, List.set_cons_zero, List.set_cons_succ]
  refine' wpAnyF_take (i := 3) (n := 19) (v := _) rfl (by kernel_rfl) (fun _ _ _ h => h) (by assumption) (Or.inl ⟨by rfl, ?hy58⟩) ?rest58
  case' hy58 => (intro w' hSw; (try dsimp only at hSw); go_simp; try with_reducible rfl)
  try simp only [Act.put, List.getElem_toArray, List.getElem_cons_zero, List.getElem_cons_succ, List.setIfInBounds_toArray, List.set_cons_zero, List.set_cons_succ]
  refine' wpAnyF_take (i := 4) (n := 19) (v := _) rfl (by kernel_rfl) (fun _ _ _ h => h) (by assumption) (Or.inl ⟨by rfl, ?hy59⟩) ?rest59
  case' hy59 => (intro w' hSw; (try dsimp only at hSw); go_simp; try with_reducible rfl)
  try simp only [Act.put, List.getElem_toArray, List.getElem_cons_zero, List.getElem_cons_succ, List.setIfInBounds_toArray, List.set_cons_zero, List.set_cons_succ]
  refine' wpAnyF_take (i := 5) (n := 19) (v := _) rfl (by kernel_rfl) (fun _ _ _ h => h) (by assumption) (Or.inl ⟨by rfl, ?hy60⟩) ?rest60
  case' hy60 => (intro w' hSw; (try dsimp only at hSw); go_simp; try with_reducible rfl)
  try simp only [Act.put, List.getElem_toArray, List.getElem_cons_zero, List.getElem_cons_succ, List.setIfInBounds_toArray, List.set_cons_zero, List.set_cons_succ]
  refine' wpAnyF_take (i := 6) (n := 19) (v := _) rfl (by kernel_rfl) (fun _ _ _ h => h) (by assumption) (Or.inl ⟨by rfl, ?hy61⟩) ?rest61
  case' hy61 => (intro w' hSw; (try dsimp only at hSw); go_simp; try with_reducible rfl)
  try simp only [Act.put, List.getElem_toArray, List.getElem_cons_zero, List.getElem_cons_succ, List.setIfInBounds_toArray, List.set_cons_zero, List.set_cons_succ]
  refine' wpAnyF_take (i := 7) (n := 19) (v := _) rfl (by kernel_rfl) (fun _ _ _ h => h) (by assumption) (Or.inl ⟨by rfl, ?hy62⟩) ?rest62
  case' hy62 => (intro w' hSw; (try dsimp only at hSw); go_simp; try with_reducible rfl)
  try simp only [Act.put, List.getElem_toArray, List.getElem_cons_zero, List.getElem_cons_succ, List.setIfInBounds_toArray, List.set_cons_zero, List.set_cons_succ]
  refine' wpAnyF_take (i := 8) (n := 19) (v := _) rfl (by kernel_rfl) (fun _ _ _ h => h) (by assumption) (Or.inl ⟨by rfl, ?hy63⟩) ?rest63
  case' hy63 => (intro w' hSw; (try dsimp only at hSw); go_simp; try with_reducible rfl)
  try simp only [Act.put, List.getElem_toArray, List.getElem_cons_zero, List.getElem_cons_succ, List.setIfInBounds_toArray, List.set_cons_zero, List.set_cons_succ]
  refine' wpAnyF_take (i := 9) (n := 19) (v := _) rfl (by kernel_rfl) (fun _ _ _ h => h) (by assumption) (Or.inl ⟨by rfl, ?hy64⟩) ?rest64
  case' hy64 => (intro w' hSw; (try dsimp only at hSw); go_simp; try with_reducible rfl)
  try simp only [Act.put, List.getElem_toArray, List.getElem_cons_zero, List.getElem_cons_succ, List.setIfInBounds_toArray, List.set_cons_zero, List.set_cons_succ]
  refine' wpAnyF_take (i := 10) (n := 19) (v := _) rfl (by kernel_rfl) (fun _ _ _ h => h) (by assumption) (Or.inl ⟨by rfl, ?hy65⟩) ?rest65
  case' hy65 => (intro w' hSw; (try dsimp only at hSw); go_simp; try with_reducible rfl)
  try simp only [Act.put, List.getElem_toArray, List.getElem_cons_zero, List.getElem_cons_succ, List.setIfInBounds_toArray, List.set_cons_zero, List.set_cons_succ]
  refine' wpAnyF_take (i := 11) (n := 19) (v := _) rfl (by kernel_rfl) (fun _ _ _ h => h) (by assumption) (Or.inl ⟨by rfl, ?hy66⟩) ?rest66
  case' hy66 => (intro w' hSw; (try dsimp only at hSw); go_simp; try with_reducible rfl)
  try simp only [Act.put, List.getElem_toArray, List.getElem_cons_zero, List.getElem_cons_succ, List.setIfInBounds_toArray, List.set_cons_zero, List.set_cons_succ]
  refine' wpAnyF_take (i := 12) (n := 19) (v := _) rfl (by kernel_rfl) (fun _ _ _ h => h) (by assumption) (Or.inl ⟨by rfl, ?hy67⟩) ?rest67
  case' hy67 => (intro w' hSw; (try dsimp only at hSw); go_simp; try with_reducible rfl)
  try simp only [Act.put, List.getElem_toArray, List.getElem_cons_zero, List.getElem_cons_succ, List.setIfInBounds_toArray, List.set_cons_zero, List.set_cons_succ]
  refine' wpAnyF_take (i := 13) (n := 19) (v := _) rfl (by kernel_rfl) (fun _ _ _ h => h) (by assumption) (Or.inl ⟨by rfl, ?hy68⟩) ?rest68
  case' hy68 => (intro w' hSw; (try dsimp only at hSw); go_simp; try with_reducible rfl)
  try simp only [Act.put, List.getElem_toArray, List.getElem_cons_zero, List.getElem_cons_succ, List.setIfInBounds_toArray, List.set_cons_zero, List.set_cons_succ]
  refine' wpAnyF_take (i := 14) (n := 19) (v := _) rfl (by kernel_rfl) (fun _ _ _ h => h) (by assumption) (Or.inl ⟨by rfl, ?hy69⟩) ?rest69
  case' hy69 => (intro w' hSw; (try dsimp only at hSw); go_simp; try with_reducible rfl)
  try simp only [Act.put, List.getElem_toArray, List.getElem_cons_zero, List.getElem_cons_succ, List.setIfInBounds_toArray, List.set_cons_zero, List.set_cons_succ]
  refine' wpAnyF_take (i := 15) (n := 19) (v := _) rfl (by kernel_rfl) (fun _ _ _ h => h) (by assumption) (Or.inl ⟨by rfl, ?hy70⟩) ?rest70
  case' hy70 => (intro w' hSw; (try dsimp only at hSw); go_simp; try with_reducible rfl)
  try simp only [Act.put, List.getElem_toArray, List.getElem_cons_zero, List.getElem_cons_succ, List.setIfInBounds_toArray, List.set_cons_zero, List.set_cons_succ]
  refine' wpAnyF_take (i := 17) (n := 19) (v := _) rfl (by kernel_rfl) (fun _ _ _ h => h) (by assumption) (Or.inl ⟨by rfl, ?hy71⟩) ?rest71
  case' hy71 => (intro w' hSw; (try dsimp only at hSw); go_simp; try with_reducible rfl)
  try simp only [Act.put, List.getElem_toArray, List.getElem_cons_zero, List.getElem_cons_succ, List.setIfInBounds_toArray, List.set_cons_zero, List.set_cons_succ]
  refine wpAnyF_only (i := 16) rfl (by kernel_rfl) (fun K hK => ?_)
  go_simp
  go_at_call 68
  refine (round_any _ _).mono ?_
  rintro e w4 ⟨rfl, rfl⟩
  dsimp only
  refine hK.out _ _ (Or.inr (by (try dsimp only); exact hHeld)) ?_
  clear hK K
  try simp only [Act.put, List.getElem_toArray, List.getElem_cons_zero, List.getElem_cons_succ, List.setIfInBounds_toArray, List.set_cons_zero, List.set_cons_succ]
  refine' wpAnyF_take (i := 18) (n := 19) (v := _) rfl (by kernel_rfl) (fun _ _ _ h => h) (by assumption) (Or.inl ⟨by rfl, ?hy72⟩) ?rest72
  case' hy72 => (intro w' hSw; (try dsimp only at hSw); go_simp; try with_reducible rfl)
  try simp only [Act.put, List.getElem_toArray, List.getElem_cons_zero, List.getElem_cons_succ, List.setIfInBounds_toArray, List.set_cons_zero, List.set_cons_succ]
  clear hHeld
  refine wpAnyF_only (i := 19) rfl (by kernel_rfl) (fun K hK => ?_)
  go_simp
  refine hK.out _ _ (Or.inl (by kernel_rfl)) ?_
  clear hK K
  try simp only [Act.put, List.getElem_toArray, List.getElem_cons_zero, List.getElem_cons_succ, List.setIfInBounds_toArray, List.set_cons_zero, List.set_cons_succ]
  refine wpAnyF_done (by kernel_rfl) ?_ _
  go_wp2
  go_end0
  exact ⟨rfl, _, HS.out⟩

set_option maxRecDepth 20000 in
set_option maxHeartbeats 2000000 in
theorem kdo_sub {a : Nat → Addr} {cs : List (List Ins)} {p : MkPl} {m : Mk} {K t : Nat} {w : World} (D : DoX a cs p m K t w) (L : List Ins) (x : Ins) (e : x.op = ⟨#[115, 117, 98]⟩) {i : Nat} (hi : i < 8) (ei : x.a = i) {j : Nat} (hj : j < 8) (ej : x.b = j) {k : Nat} (hk : k < 8) (ek : x.c = k) :
    Calls Tryz.prog 49 #[.pointer (some ⟨p.b, 0, none⟩), .int .i64 t, .agg #[.string x.op, .int .i64 x.a, .int .i64 x.b, .int .i64 x.c, .string x.to]] w fun e w' => e = .returned (.tuple #[]) ∧ ∃ v, MkStep a cs p w v (m.exec L t x) w' := by
  rw [exec_sub m L t e]
  rw [ei]
  rw [ej]
  rw [ek]
  simp only [Int.toNat_natCast]
  obtain ⟨xo, xa, xb, xc, xt⟩ := x
  dsimp only at e ei ej ek ⊢
  subst e ei ej ek
  have t6 := D.t6
  have t6i : (t : Int) < 6 := by omega
  have hba : Below w.heap.size w (w.alloc (.cells #[.string ⟨#[115, 117, 98]⟩, .int .i64 i, .int .i64 j, .int .i64 k, .string xt] 44)) := (Below.refl _ _).alloc (Nat.le_refl _) _
  have q0 : (w.alloc (.cells #[.string ⟨#[115, 117, 98]⟩, .int .i64 i, .int .i64 j, .int .i64 k, .string xt] 44)).cell? ⟨w.heap.size, 0, none⟩ = some (.string ⟨#[115, 117, 98]⟩) := by simp
  have q1 : (w.alloc (.cells #[.string ⟨#[115, 117, 98]⟩, .int .i64 i, .int .i64 j, .int .i64 k, .string xt] 44)).cell? ⟨w.heap.size, 1, none⟩ = some (.int .i64 i) := by simp
  have q2 : (w.alloc (.cells #[.string ⟨#[115, 117, 98]⟩, .int .i64 i, .int .i64 j, .int .i64 k, .string xt] 44)).cell? ⟨w.heap.size, 2, none⟩ = some (.int .i64 j) := by simp
  have q3 : (w.alloc (.cells #[.string ⟨#[115, 117, 98]⟩, .int .i64 i, .int .i64 j, .int .i64 k, .string xt] 44)).cell? ⟨w.heap.size, 3, none⟩ = some (.int .i64 k) := by simp
  have q4 : (w.alloc (.cells #[.string ⟨#[115, 117, 98]⟩, .int .i64 i, .int .i64 j, .int .i64 k, .string xt] 44)).cell? ⟨w.heap.size, 4, none⟩ = some (.string xt) := by simp
  have D1 := D.below hba
  have hlw := D.at'.lt
  have gi := D1.at'.reg t i t6 (by omega)
  have gj := D1.at'.reg t j t6 (by omega)
  have gk := D1.at'.reg t k t6 (by omega)
  have li : (i : Int) < 8 := by omega
  have lj : (j : Int) < 8 := by omega
  have lk : (k : Int) < 8 := by omega
  generalize hw : w.alloc (.cells #[.string ⟨#[115, 117, 98]⟩, .int .i64 i, .int .i64 j, .int .i64 k, .string xt] 44) = w1 at *
  have hj := D.ok.regs t j
  have hk := D.ok.regs t k
  have hw1 : IntKind.i64.wrap (m.regs t j - m.regs t k) = m.regs t j - m.regs t k := by obtain ⟨_, _⟩ := hj; obtain ⟨_, _⟩ := hk; rw [IntKind.wrap_i64]; omega
  have H1 := hide D1.at'
  have zi : w1.frozen? ⟨p.b, 585 + t * 9 + i, none⟩ = false := D1.at'.frozen _ (by omega) (by omega)
  have HS : Hid (MkStep a cs p w p.mv (m.setReg t i ((m.regs t j - m.regs t k) % 4294967296)) ((w1.setCell ⟨p.b, 585 + t * 9 + i, none⟩ (.int .i64 ((m.regs t j - m.regs t k) % 4294967296))).drew)) := (MkStep.of_below hba (D1.at'.setReg t6 (by omega) ((m.regs t j - m.regs t k) % 4294967296))).below (Below.refl _ _).drew
  clear D D1 hba hj hk H1
  generalize m.regs t i = Ri at *
  generalize m.regs t j = Rj at *
  generalize m.regs t k = Rk at *
  go_enter Tryz.func49, Tryz.ntmps49
  go_wp2_with fail
  clear hw
  refine wp_region_F (S := (fun w' => w'.cell? ⟨w.heap.size, 1, none⟩ = some (.int .i64 i) ∧ w'.cell? ⟨w.heap.size, 2, none⟩ = some (.int .i64 j) ∧ w'.cell? ⟨w.heap.size, 3, none⟩ = some (.int .i64 k) ∧ w'.cell? ⟨p.b, 585 + t * 9 + i, none⟩ = some (.int .i64 Ri) ∧ w'.cell? ⟨p.b, 585 + t * 9 + j, none⟩ = some (.int .i64 Rj) ∧ w'.cell? ⟨p.b, 585 + t * 9 + k, none⟩ = some (.int .i64 Rk))) (by kernel_rfl) (by (try dsimp only); go_keep) (fun hHeld => ?_)
  refine' wpAnyF_take (i := 0) (n := 19) (v := _) rfl (by kernel_rfl) (fun _ _ _ h => h) (by assumption) (Or.inl ⟨by rfl, ?hy73⟩) ?rest73
  case' hy73 => (intro w' hSw; (try dsimp only at hSw); go_simp; try with_reducible rfl)
  try simp only [Act.put, List.getElem_toArray, List.getElem_cons_zero, List.setIfInBounds_toArray, List.set_cons_zero, List.set_cons_succ]
  refine' wpAnyF_take (i := 1) (n := 19) (v := _) rfl (by kernel_rfl) (fun _ _ _ h => h) (by assumption) (Or.inl ⟨by rfl, ?hy74⟩) ?rest74
  case' hy74 => (intro w' hSw; (try dsimp only at hSw); go_simp; try with_reducible rfl)
  try simp only [Act.put, List.getElem_toArray, List.getElem_cons_zero, List.getElem_cons_succ, List.setIfInBounds_toArray, List.set_cons_zero, List.set_cons_succ]
  refine' wpAnyF_take (i := 2) (n := 19) (v := _) rfl (by kernel_rfl) (fun _ _ _ h => h) (by assumption) (Or.inl ⟨by rfl, ?hy75⟩) ?rest75
  case' hy75 => (intro w' hSw; (try dsimp only at hSw); go_simp; try with_reducible rfl)
  try simp only [Act.put, List.getElem_toArray, List.getElem_cons_zero, List.getElem_cons_succ, List.setIfInBounds_toArray, List.set_cons_zero, List.set_cons_succ]
  refine' wpAnyF_take (i := 3) (n := 19) (v := _) rfl (by kernel_rfl) (fun _ _ _ h => h) (by assumption) (Or.inl ⟨by rfl, ?hy76⟩) ?rest76
  case' hy76 => (intro w' hSw; (try dsimp only at hSw); go_simp; try with_reducible rfl)
  try simp only [Act.put, List.getElem_toArray, List.getElem_cons_zero, List.getElem_cons_succ, List.setIfInBounds_toArray, List.set_cons_zero, List.set_cons_succ]
  refine' wpAnyF_take (i := 4) (n := 19) (v := _) rfl (by kernel_rfl) (fun _ _ _ h => h) (by assumption) (Or.inl ⟨by rfl, ?hy77⟩) ?rest77
  case' hy77 => (intro w' hSw; (try dsimp only at hSw); go_simp; try with_reducible rfl)
  try simp only [Act.put, List.getElem_toArray, List.getElem_cons_zero, List.getElem_cons_succ, List.setIfInBounds_toArray, List.set_cons_zero, List.set_cons_succ]
  refine' wpAnyF_take (i := 5) (n := 19) (v := _) rfl (by kernel_rfl) (fun _ _ _ h => h) (by assumption) (Or.inl ⟨by rfl, ?hy78⟩) ?rest78
  case' hy78 => (intro w' hSw; (try dsimp only at hSw); go_simp; try with_reducible rfl)
  try simp only [Act.put, List.getElem_toArray, List.getElem_cons_zero, List.getElem_cons_succ, List.setIfInBounds_toArray, List.set_cons_zero, List.set_cons_succ]
  refine' wpAnyF_take (i := 6) (n := 19) (v := _) rfl (by kernel_rfl) (fun _ _ _ h => h) (by assumption) (Or.inl ⟨by rfl, ?hy79⟩) ?rest79
  case' hy79 => (intro w' hSw; (try dsimp only at hSw); go_simp; try with_reducible rfl)
  try simp only [Act.put, List.getElem_toArray, List.getElem_cons_zero, List.getElem_cons_succ, List.setIfInBounds_toArray, List.set_cons_zero, List.set_cons_succ]
  refine' wpAnyF_take (i := 7) (n := 19) (v := _) rfl (by kernel_rfl) (fun _ _ _ h => h) (by assumption) (Or.inl ⟨by rfl, ?hy80⟩) ?rest80
  case' hy80 => (intro w' hSw; (try dsimp only at hSw); go_simp; try with_reducible rfl)
  try simp only [Act.put, List.getElem_toArray, List.getElem_cons_zero, List.getElem_cons_succ, List.setIfInBounds_toArray, List.set_cons_zero, List.set_cons_succ]
  refine' wpAnyF_take (i := 8) (n := 19) (v := _) rfl (by kernel_rfl) (fun _ _ _ h => h) (by assumption) (Or.inl ⟨by rfl, ?hy81⟩) ?rest81
  case' hy81 => (intro w' hSw; (try dsimp only at hSw); go_simp; try with_reducible rfl)
  try simp only [Act.put, List.getElem_toArray, List.getElem_cons_zero, List.getElem_cons_succ, List.setIfInBounds_toArray, List.set_cons_zero, List.set_cons_succ]
  refine' wpAnyF_take (i := 9) (n := 19) (v := _) rfl (by kernel_rfl) (fun _ _ _ h => h) (by assumption) (Or.inl ⟨by rfl, ?hy82⟩) ?rest82
  case' hy82 => (intro w' hSw; (try dsimp only at hSw); go_simp; try with_reducible rfl)
  try simp only [Act.put, List.getElem_toArray, List.getElem_cons_zero, List.getElem_cons_succ, List.setIfInBounds_toArray, List.set_cons_zero, List.set_cons_succ]
  refine' wpAnyF_take (i := 10) (n := 19) (v := _) rfl (by kernel_rfl) (fun _ _ _ h => h) (by assumption) (Or.inl ⟨by rfl, ?hy83⟩) ?rest83
  case' hy83 => (intro w' hSw; (try dsimp only at hSw); go_simp; try with_reducible rfl)
  try simp only [Act.put, List.getElem_toArray, List.getElem_cons_zero, List.getElem_cons_succ, List.setIfInBounds_toArray, List.set_cons_zero, List.set_cons_succ]
  refine' wpAnyF_take (i := 11) (n := 19) (v := _) rfl (by kernel_rfl) (fun _ _ _ h => h) (by assumption) (Or.inl ⟨by rfl, ?hy84⟩) ?rest84
  case' hy84 => (intro w' hSw; (try dsimp only at hSw); go_simp; try with_reducible rfl)
  try simp only [Act.put, List.getElem_toArray, List.getElem_cons_zero, List.getElem_cons_succ, List.setIfInBounds_toArray, List.set_cons_zero, List.set_cons_succ]
  refine' wpAnyF_take (i := 12) (n := 19) (v := _) rfl (by kernel_rfl) (fun _ _ _ h => h) (by assumption) (Or.inl ⟨by rfl, ?hy85⟩) ?rest85
  case' hy85 => (intro w' hSw; (try dsimp only at hSw); go_simp; try with_reducible rfl)
  try simp only [Act.put, List.getElem_toArray, List.getElem_cons_zero, List.getElem_cons_succ, List.setIfInBounds_toArray, List.set_cons_zero, List.set_cons_succ]
  refine' wpAnyF_take (i := 13) (n := 19) (v := _) rfl (by kernel_rfl) (fun _ _ _ h => h) (by assumption) (Or.inl ⟨by rfl, ?hy86⟩) ?rest86
  case' hy86 => (intro w' hSw; (try dsimp only at hSw); go_simp; try with_reducible rfl)
  try simp only [Act.put, List.getElem_toArray, List.getElem_cons_zero, List.getElem_cons_succ, List.setIfInBounds_toArray, List.set_cons_zero, List.set_cons_succ]
  refine' wpAnyF_take (i := 14) (n := 19) (v := _) rfl (by kernel_rfl) (fun _ _ _ h => h) (by assumption) (Or.inl ⟨by rfl, ?hy87⟩) ?rest87
  case' hy87 => (intro w' hSw; (try dsimp only at hSw); go_simp; try with_reducible rfl)
  try simp only [Act.put, List.getElem_toArray, List.getElem_cons_zero, List.getElem_cons_succ, List.setIfInBounds_toArray, List.set_cons_zero, List.set_cons_succ]
  refine' wpAnyF_take (i := 15) (n := 19) (v := _) rfl (by kernel_rfl) (fun _ _ _ h => h) (by assumption) (Or.inl ⟨by rfl, ?hy88⟩) ?rest88
  case' hy88 => (intro w' hSw; (try dsimp only at hSw); go_simp; try with_reducible rfl)
  try simp only [Act.put, List.getElem_toArray, List.getElem_cons_zero, List.getElem_cons_succ, List.setIfInBounds_toArray, List.set_cons_zero, List.set_cons_succ]
  refine' wpAnyF_take (i := 17) (n := 19) (v := _) rfl (by kernel_rfl) (fun _ _ _ h => h) (by assumption) (Or.inl ⟨by rfl, ?hy89⟩) ?rest89
  case' hy89 => (intro w' hSw; (try dsimp only at hSw); go_simp; try with_reducible rfl)
  try simp only [Act.put, List.getElem_toArray, List.getElem_cons_zero, List.getElem_cons_succ, List.setIfInBounds_toArray, List.set_cons_zero, List.set_cons_succ]
  refine wpAnyF_only (i := 16) rfl (by kernel_rfl) (fun K hK => ?_)
  go_simp
  go_at_call 68
  refine (round_any _ _).mono ?_
  rintro e w4 ⟨rfl, rfl⟩
  dsimp only
  refine hK.out _ _ (Or.inr (by (try dsimp only); exact hHeld)) ?_
  clear hK K
  try simp only [Act.put, List.getElem_toArray, List.getElem_cons_zero, List.getElem_cons_succ, List.setIfInBounds_toArray, List.set_cons_zero, List.set_cons_succ]
  refine' wpAnyF_take (i := 18) (n := 19) (v := _) rfl (by kernel_rfl) (fun _ _ _ h => h) (by assumption) (Or.inl ⟨by rfl, ?hy90⟩) ?rest90
  case' hy90 => (intro w' hSw; (try dsimp only at hSw); go_simp; try with_reducible rfl)
  try simp only [Act.put, List.getElem_toArray, List.getElem_cons_zero, List.getElem_cons_succ, List.setIfInBounds_toArray, List.set_cons_zero, List.set_cons_succ]
  clear hHeld
  refine wpAnyF_only (i := 19) rfl (by kernel_rfl) (fun K hK => ?_)
  go_simp
  refine hK.out _ _ (Or.inl (by kernel_rfl)) ?_
  clear hK K
  try simp only [Act.put, List.getElem_toArray, List.getElem_cons_zero, List.getElem_cons_succ, List.setIfInBounds_toArray, List.set_cons_zero, List.set_cons_succ]
  refine wpAnyF_done (by kernel_rfl) ?_ _
  go_wp2
  go_end0
  exact ⟨rfl, _, HS.out⟩

set_option maxRecDepth 20000 in
set_option maxHeartbeats 2000000 in
theorem kdo_zero {a : Nat → Addr} {cs : List (List Ins)} {p : MkPl} {m : Mk} {K t : Nat} {w : World} (D : DoX a cs p m K t w) (L : List Ins) (x : Ins) (e : x.op = ⟨#[122, 101, 114, 111]⟩) {i : Nat} (hi : i < 8) (ei : x.a = i) {L' : Nat} (ht : cs[t]? = some L) (hs : x.to.size ≤ maxLen) (hi : labelAt L x.to = L') :
    Calls Tryz.prog 49 #[.pointer (some ⟨p.b, 0, none⟩), .int .i64 t, .agg #[.string x.op, .int .i64 x.a, .int .i64 x.b, .int .i64 x.c, .string x.to]] w fun e w' => e = .returned (.tuple #[]) ∧ ∃ v, MkStep a cs p w v (m.exec L t x) w' := by
  rw [exec_zero m L t e]
  rw [ei]
  simp only [Int.toNat_natCast]
  obtain ⟨xo, xa, xb, xc, xt⟩ := x
  dsimp only at e ei hs hi ⊢
  subst e ei
  have t6 := D.t6
  have t6i : (t : Int) < 6 := by omega
  have hba : Below w.heap.size w (w.alloc (.cells #[.string ⟨#[122, 101, 114, 111]⟩, .int .i64 i, .int .i64 xb, .int .i64 xc, .string xt] 44)) := (Below.refl _ _).alloc (Nat.le_refl _) _
  have q0 : (w.alloc (.cells #[.string ⟨#[122, 101, 114, 111]⟩, .int .i64 i, .int .i64 xb, .int .i64 xc, .string xt] 44)).cell? ⟨w.heap.size, 0, none⟩ = some (.string ⟨#[122, 101, 114, 111]⟩) := by simp
  have q1 : (w.alloc (.cells #[.string ⟨#[122, 101, 114, 111]⟩, .int .i64 i, .int .i64 xb, .int .i64 xc, .string xt] 44)).cell? ⟨w.heap.size, 1, none⟩ = some (.int .i64 i) := by simp
  have q2 : (w.alloc (.cells #[.string ⟨#[122, 101, 114, 111]⟩, .int .i64 i, .int .i64 xb, .int .i64 xc, .string xt] 44)).cell? ⟨w.heap.size, 2, none⟩ = some (.int .i64 xb) := by simp
  have q3 : (w.alloc (.cells #[.string ⟨#[122, 101, 114, 111]⟩, .int .i64 i, .int .i64 xb, .int .i64 xc, .string xt] 44)).cell? ⟨w.heap.size, 3, none⟩ = some (.int .i64 xc) := by simp
  have q4 : (w.alloc (.cells #[.string ⟨#[122, 101, 114, 111]⟩, .int .i64 i, .int .i64 xb, .int .i64 xc, .string xt] 44)).cell? ⟨w.heap.size, 4, none⟩ = some (.string xt) := by simp
  have D1 := D.below hba
  have hlw := D.at'.lt
  have gi := D1.at'.reg t i t6 (by omega)
  have li : (i : Int) < 8 := by omega
  generalize hw : w.alloc (.cells #[.string ⟨#[122, 101, 114, 111]⟩, .int .i64 i, .int .i64 xb, .int .i64 xc, .string xt] 44) = w1 at *
  have HL : Hid (Calls Tryz.prog 69 #[.pointer (some ⟨p.b, 0, none⟩), .int .i64 t, .string xt, .bool (m.regs t i == 0)] (w1.drewN 1) fun e w'' => e = .returned (.tuple #[]) ∧ Hid (∃ v, MkStep a cs p w v (if m.regs t i = 0 then m.jump t L xt else m) w'')) :=
    (kjump_any ht hs hi _ (D1.at'.drewN 1)).mono fun e w'' ⟨e1, e2⟩ => ⟨e1, ⟨_, by have e3 := MkStep.of_below (below_dN hba 1) e2; simpa only [beq_iff_eq] using e3⟩⟩
  clear D D1 hba
  generalize (if m.regs t i = 0 then m.jump t L xt else m) = m1 at *
  generalize m.regs t i = Ri at *
  go_enter Tryz.func49, Tryz.ntmps49
  go_wp2_with fail
  clear hw
  refine wp_region_F (S := (fun w' => w'.cell? ⟨w.heap.size, 1, none⟩ = some (.int .i64 i) ∧ w'.cell? ⟨w.heap.size, 4, none⟩ = some (.string xt) ∧ w'.cell? ⟨p.b, 585 + t * 9 + i, none⟩ = some (.int .i64 Ri))) (by kernel_rfl) (by (try dsimp only); go_keep) (fun hHeld => ?_)
  refine' wpAnyF_take (i := 0) (n := 11) (v := _) rfl (by kernel_rfl) (fun _ _ _ h => h) (by assumption) (Or.inl ⟨by rfl, ?hy91⟩) ?rest91
  case' hy91 => (intro w' hSw; (try dsimp only at hSw); go_simp; try with_reducible rfl)
  try simp only [Act.put, List.getElem_toArray, List.getElem_cons_zero, List.setIfInBounds_toArray, List.set_cons_zero, List.set_cons_succ]
  refine' wpAnyF_take (i := 1) (n := 11) (v := _) rfl (by kernel_rfl) (fun _ _ _ h => h) (by assumption) (Or.inl ⟨by rfl, ?hy92⟩) ?rest92
  case' hy92 => (intro w' hSw; (try dsimp only at hSw); go_simp; try with_reducible rfl)
  try simp only [Act.put, List.getElem_toArray, List.getElem_cons_zero, List.getElem_cons_succ, List.setIfInBounds_toArray, List.set_cons_zero, List.set_cons_succ]
  refine' wpAnyF_take (i := 2) (n := 11) (v := _) rfl (by kernel_rfl) (fun _ _ _ h => h) (by assumption) (Or.inl ⟨by rfl, ?hy93⟩) ?rest93
  case' hy93 => (intro w' hSw; (try dsimp only at hSw); go_simp; try with_reducible rfl)
  try simp only [Act.put, List.getElem_toArray, List.getElem_cons_zero, List.getElem_cons_succ, List.setIfInBounds_toArray, List.set_cons_zero, List.set_cons_succ]
  refine' wpAnyF_take (i := 3) (n := 11) (v := _) rfl (by kernel_rfl) (fun _ _ _ h => h) (by assumption) (Or.inl ⟨by rfl, ?hy94⟩) ?rest94
  case' hy94 => (intro w' hSw; (try dsimp only at hSw); go_simp; try with_reducible rfl)
  try simp only [Act.put, List.getElem_toArray, List.getElem_cons_zero, List.getElem_cons_succ, List.setIfInBounds_toArray, List.set_cons_zero, List.set_cons_succ]
  refine' wpAnyF_take (i := 4) (n := 11) (v := _) rfl (by kernel_rfl) (fun _ _ _ h => h) (by assumption) (Or.inl ⟨by rfl, ?hy95⟩) ?rest95
  case' hy95 => (intro w' hSw; (try dsimp only at hSw); go_simp; try with_reducible rfl)
  try simp only [Act.put, List.getElem_toArray, List.getElem_cons_zero, List.getElem_cons_succ, List.setIfInBounds_toArray, List.set_cons_zero, List.set_cons_succ]
  refine' wpAnyF_take (i := 5) (n := 11) (v := _) rfl (by kernel_rfl) (fun _ _ _ h => h) (by assumption) (Or.inl ⟨by rfl, ?hy96⟩) ?rest96
  case' hy96 => (intro w' hSw; (try dsimp only at hSw); go_simp; try with_reducible rfl)
  try simp only [Act.put, List.getElem_toArray, List.getElem_cons_zero, List.getElem_cons_succ, List.setIfInBounds_toArray, List.set_cons_zero, List.set_cons_succ]
  refine' wpAnyF_take (i := 6) (n := 11) (v := _) rfl (by kernel_rfl) (fun _ _ _ h => h) (by assumption) (Or.inl ⟨by rfl, ?hy97⟩) ?rest97
  case' hy97 => (intro w' hSw; (try dsimp only at hSw); go_simp; try with_reducible rfl)
  try simp only [Act.put, List.getElem_toArray, List.getElem_cons_zero, List.getElem_cons_succ, List.setIfInBounds_toArray, List.set_cons_zero, List.set_cons_succ]
  refine' wpAnyF_take (i := 7) (n := 11) (v := _) rfl (by kernel_rfl) (fun _ _ _ h => h) (by assumption) (Or.inl ⟨by rfl, ?hy98⟩) ?rest98
  case' hy98 => (intro w' hSw; (try dsimp only at hSw); go_simp; try with_reducible rfl)
  try simp only [Act.put, List.getElem_toArray, List.getElem_cons_zero, List.getElem_cons_succ, List.setIfInBounds_toArray, List.set_cons_zero, List.set_cons_succ]
  refine' wpAnyF_take (i := 8) (n := 11) (v := _) rfl (by kernel_rfl) (fun _ _ _ h => h) (by assumption) (Or.inl ⟨by rfl, ?hy99⟩) ?rest99
  case' hy99 => (intro w' hSw; (try dsimp only at hSw); go_simp; try with_reducible rfl)
  try simp only [Act.put, List.getElem_toArray, List.getElem_cons_zero, List.getElem_cons_succ, List.setIfInBounds_toArray, List.set_cons_zero, List.set_cons_succ]
  refine' wpAnyF_take (i := 9) (n := 11) (v := _) rfl (by kernel_rfl) (fun _ _ _ h => h) (by assumption) (Or.inl ⟨by rfl, ?hy100⟩) ?rest100
  case' hy100 => (intro w' hSw; (try dsimp only at hSw); go_simp; try with_reducible rfl)
  try simp only [Act.put, List.getElem_toArray, List.getElem_cons_zero, List.getElem_cons_succ, List.setIfInBounds_toArray, List.set_cons_zero, List.set_cons_succ]
  refine' wpAnyF_take (i := 10) (n := 11) (v := _) rfl (by kernel_rfl) (fun _ _ _ h => h) (by assumption) (Or.inl ⟨by rfl, ?hy101⟩) ?rest101
  case' hy101 => (intro w' hSw; (try dsimp only at hSw); go_simp; try with_reducible rfl)
  try simp only [Act.put, List.getElem_toArray, List.getElem_cons_zero, List.getElem_cons_succ, List.setIfInBounds_toArray, List.set_cons_zero, List.set_cons_succ]
  refine wpAnyF_only (i := 11) rfl (by kernel_rfl) (fun K hK => ?_)
  go_simp
  go_at_call 69
  refine HL.out.mono ?_
  rintro e w4 ⟨rfl, k4⟩
  dsimp only
  refine hK.out _ _ (Or.inl (by kernel_rfl)) ?_
  clear hK K
  try simp only [Act.put, List.getElem_toArray, List.getElem_cons_zero, List.getElem_cons_succ, List.setIfInBounds_toArray, List.set_cons_zero, List.set_cons_succ]
  refine wpAnyF_done (by kernel_rfl) ?_ _
  go_wp2
  go_end0
  exact ⟨rfl, k4.out⟩

set_option maxRecDepth 20000 in
set_option maxHeartbeats 2000000 in
theorem kdo_same {a : Nat → Addr} {cs : List (List Ins)} {p : MkPl} {m : Mk} {K t : Nat} {w : World} (D : DoX a cs p m K t w) (L : List Ins) (x : Ins) (e : x.op = ⟨#[115, 97, 109, 101]⟩) {i : Nat} (hi : i < 8) (ei : x.a = i) {j : Nat} (hj : j < 8) (ej : x.b = j) {L' : Nat} (ht : cs[t]? = some L) (hs : x.to.size ≤ maxLen) (hi : labelAt L x.to = L') :
    Calls Tryz.prog 49 #[.pointer (some ⟨p.b, 0, none⟩), .int .i64 t, .agg #[.string x.op, .int .i64 x.a, .int .i64 x.b, .int .i64 x.c, .string x.to]] w fun e w' => e = .returned (.tuple #[]) ∧ ∃ v, MkStep a cs p w v (m.exec L t x) w' := by
  rw [exec_same m L t e]
  rw [ei]
  rw [ej]
  simp only [Int.toNat_natCast]
  obtain ⟨xo, xa, xb, xc, xt⟩ := x
  dsimp only at e ei ej hs hi ⊢
  subst e ei ej
  have t6 := D.t6
  have t6i : (t : Int) < 6 := by omega
  have hba : Below w.heap.size w (w.alloc (.cells #[.string ⟨#[115, 97, 109, 101]⟩, .int .i64 i, .int .i64 j, .int .i64 xc, .string xt] 44)) := (Below.refl _ _).alloc (Nat.le_refl _) _
  have q0 : (w.alloc (.cells #[.string ⟨#[115, 97, 109, 101]⟩, .int .i64 i, .int .i64 j, .int .i64 xc, .string xt] 44)).cell? ⟨w.heap.size, 0, none⟩ = some (.string ⟨#[115, 97, 109, 101]⟩) := by simp
  have q1 : (w.alloc (.cells #[.string ⟨#[115, 97, 109, 101]⟩, .int .i64 i, .int .i64 j, .int .i64 xc, .string xt] 44)).cell? ⟨w.heap.size, 1, none⟩ = some (.int .i64 i) := by simp
  have q2 : (w.alloc (.cells #[.string ⟨#[115, 97, 109, 101]⟩, .int .i64 i, .int .i64 j, .int .i64 xc, .string xt] 44)).cell? ⟨w.heap.size, 2, none⟩ = some (.int .i64 j) := by simp
  have q3 : (w.alloc (.cells #[.string ⟨#[115, 97, 109, 101]⟩, .int .i64 i, .int .i64 j, .int .i64 xc, .string xt] 44)).cell? ⟨w.heap.size, 3, none⟩ = some (.int .i64 xc) := by simp
  have q4 : (w.alloc (.cells #[.string ⟨#[115, 97, 109, 101]⟩, .int .i64 i, .int .i64 j, .int .i64 xc, .string xt] 44)).cell? ⟨w.heap.size, 4, none⟩ = some (.string xt) := by simp
  have D1 := D.below hba
  have hlw := D.at'.lt
  have gi := D1.at'.reg t i t6 (by omega)
  have gj := D1.at'.reg t j t6 (by omega)
  have li : (i : Int) < 8 := by omega
  have lj : (j : Int) < 8 := by omega
  generalize hw : w.alloc (.cells #[.string ⟨#[115, 97, 109, 101]⟩, .int .i64 i, .int .i64 j, .int .i64 xc, .string xt] 44) = w1 at *
  have HL : Hid (Calls Tryz.prog 69 #[.pointer (some ⟨p.b, 0, none⟩), .int .i64 t, .string xt, .bool (m.regs t i == m.regs t j)] (w1.drewN 1) fun e w'' => e = .returned (.tuple #[]) ∧ Hid (∃ v, MkStep a cs p w v (if m.regs t i = m.regs t j then m.jump t L xt else m) w'')) :=
    (kjump_any ht hs hi _ (D1.at'.drewN 1)).mono fun e w'' ⟨e1, e2⟩ => ⟨e1, ⟨_, by have e3 := MkStep.of_below (below_dN hba 1) e2; simpa only [beq_iff_eq] using e3⟩⟩
  clear D D1 hba
  generalize (if m.regs t i = m.regs t j then m.jump t L xt else m) = m1 at *
  generalize m.regs t i = Ri at *
  generalize m.regs t j = Rj at *
  go_enter Tryz.func49, Tryz.ntmps49
  go_wp2_with fail
  clear hw
  refine wp_region_F (S := (fun w' => w'.cell? ⟨w.heap.size, 1, none⟩ = some (.int .i64 i) ∧ w'.cell? ⟨w.heap.size, 2, none⟩ = some (.int .i64 j) ∧ w'.cell? ⟨w.heap.size, 4, none⟩ = some (.string xt) ∧ w'.cell? ⟨p.b, 585 + t * 9 + i, none⟩ = some (.int .i64 Ri) ∧ w'.cell? ⟨p.b, 585 + t * 9 + j, none⟩ = some (.int .i64 Rj))) (by kernel_rfl) (by (try dsimp only); go_keep) (fun hHeld => ?_)
  refine' wpAnyF_take (i := 0) (n := 17) (v := _) rfl (by kernel_rfl) (fun _ _ _ h => h) (by assumption) (Or.inl ⟨by rfl, ?hy102⟩) ?rest102
  case' hy102 => (intro w' hSw; (try dsimp only at hSw); go_simp; try with_reducible rfl)
  try simp only [Act.put, List.getElem_toArray, List.getElem_cons_zero, List.setIfInBounds_toArray, List.set_cons_zero, List.set_cons_succ]
  refine' wpAnyF_take (i := 1) (n := 17) (v := _) rfl (by kernel_rfl) (fun _ _ _ h => h) (by assumption) (Or.inl ⟨by rfl, ?hy103⟩) ?rest103
  case' hy103 => (intro w' hSw; (try dsimp only at hSw); go_simp; try with_reducible rfl)
  try simp only [Act.put, List.getElem_toArray, List.getElem_cons_zero, List.getElem_cons_succ, List.setIfInBounds_toArray, List.set_cons_zero, List.set_cons_succ]
  refine' wpAnyF_take (i := 2) (n := 17) (v := _) rfl (by kernel_rfl) (fun _ _ _ h => h) (by assumption) (Or.inl ⟨by rfl, ?hy104⟩) ?rest104
  case' hy104 => (intro w' hSw; (try dsimp only at hSw); go_simp; try with_reducible rfl)
  try simp only [Act.put, List.getElem_toArray, List.getElem_cons_zero, List.getElem_cons_succ, List.setIfInBounds_toArray, List.set_cons_zero, List.set_cons_succ]
  refine' wpAnyF_take (i := 3) (n := 17) (v := _) rfl (by kernel_rfl) (fun _ _ _ h => h) (by assumption) (Or.inl ⟨by rfl, ?hy105⟩) ?rest105
  case' hy105 => (intro w' hSw; (try dsimp only at hSw); go_simp; try with_reducible rfl)
  try simp only [Act.put, List.getElem_toArray, List.getElem_cons_zero, List.getElem_cons_succ, List.setIfInBounds_toArray, List.set_cons_zero, List.set_cons_succ]
  refine' wpAnyF_take (i := 4) (n := 17) (v := _) rfl (by kernel_rfl) (fun _ _ _ h => h) (by assumption) (Or.inl ⟨by rfl, ?hy106⟩) ?rest106
  case' hy106 => (intro w' hSw; (try dsimp only at hSw); go_simp; try with_reducible rfl)
  try simp only [Act.put, List.getElem_toArray, List.getElem_cons_zero, List.getElem_cons_succ, List.setIfInBounds_toArray, List.set_cons_zero, List.set_cons_succ]
  refine' wpAnyF_take (i := 5) (n := 17) (v := _) rfl (by kernel_rfl) (fun _ _ _ h => h) (by assumption) (Or.inl ⟨by rfl, ?hy107⟩) ?rest107
  case' hy107 => (intro w' hSw; (try dsimp only at hSw); go_simp; try with_reducible rfl)
  try simp only [Act.put, List.getElem_toArray, List.getElem_cons_zero, List.getElem_cons_succ, List.setIfInBounds_toArray, List.set_cons_zero, List.set_cons_succ]
  refine' wpAnyF_take (i := 6) (n := 17) (v := _) rfl (by kernel_rfl) (fun _ _ _ h => h) (by assumption) (Or.inl ⟨by rfl, ?hy108⟩) ?rest108
  case' hy108 => (intro w' hSw; (try dsimp only at hSw); go_simp; try with_reducible rfl)
  try simp only [Act.put, List.getElem_toArray, List.getElem_cons_zero, List.getElem_cons_succ, List.setIfInBounds_toArray, List.set_cons_zero, List.set_cons_succ]
  refine' wpAnyF_take (i := 7) (n := 17) (v := _) rfl (by kernel_rfl) (fun _ _ _ h => h) (by assumption) (Or.inl ⟨by rfl, ?hy109⟩) ?rest109
  case' hy109 => (intro w' hSw; (try dsimp only at hSw); go_simp; try with_reducible rfl)
  try simp only [Act.put, List.getElem_toArray, List.getElem_cons_zero, List.getElem_cons_succ, List.setIfInBounds_toArray, List.set_cons_zero, List.set_cons_succ]
  refine' wpAnyF_take (i := 8) (n := 17) (v := _) rfl (by kernel_rfl) (fun _ _ _ h => h) (by assumption) (Or.inl ⟨by rfl, ?hy110⟩) ?rest110
  case' hy110 => (intro w' hSw; (try dsimp only at hSw); go_simp; try with_reducible rfl)
  try simp only [Act.put, List.getElem_toArray, List.getElem_cons_zero, List.getElem_cons_succ, List.setIfInBounds_toArray, List.set_cons_zero, List.set_cons_succ]
  refine' wpAnyF_take (i := 9) (n := 17) (v := _) rfl (by kernel_rfl) (fun _ _ _ h => h) (by assumption) (Or.inl ⟨by rfl, ?hy111⟩) ?rest111
  case' hy111 => (intro w' hSw; (try dsimp only at hSw); go_simp; try with_reducible rfl)
  try simp only [Act.put, List.getElem_toArray, List.getElem_cons_zero, List.getElem_cons_succ, List.setIfInBounds_toArray, List.set_cons_zero, List.set_cons_succ]
  refine' wpAnyF_take (i := 10) (n := 17) (v := _) rfl (by kernel_rfl) (fun _ _ _ h => h) (by assumption) (Or.inl ⟨by rfl, ?hy112⟩) ?rest112
  case' hy112 => (intro w' hSw; (try dsimp only at hSw); go_simp; try with_reducible rfl)
  try simp only [Act.put, List.getElem_toArray, List.getElem_cons_zero, List.getElem_cons_succ, List.setIfInBounds_toArray, List.set_cons_zero, List.set_cons_succ]
  refine' wpAnyF_take (i := 11) (n := 17) (v := _) rfl (by kernel_rfl) (fun _ _ _ h => h) (by assumption) (Or.inl ⟨by rfl, ?hy113⟩) ?rest113
  case' hy113 => (intro w' hSw; (try dsimp only at hSw); go_simp; try with_reducible rfl)
  try simp only [Act.put, List.getElem_toArray, List.getElem_cons_zero, List.getElem_cons_succ, List.setIfInBounds_toArray, List.set_cons_zero, List.set_cons_succ]
  refine' wpAnyF_take (i := 12) (n := 17) (v := _) rfl (by kernel_rfl) (fun _ _ _ h => h) (by assumption) (Or.inl ⟨by rfl, ?hy114⟩) ?rest114
  case' hy114 => (intro w' hSw; (try dsimp only at hSw); go_simp; try with_reducible rfl)
  try simp only [Act.put, List.getElem_toArray, List.getElem_cons_zero, List.getElem_cons_succ, List.setIfInBounds_toArray, List.set_cons_zero, List.set_cons_succ]
  refine' wpAnyF_take (i := 13) (n := 17) (v := _) rfl (by kernel_rfl) (fun _ _ _ h => h) (by assumption) (Or.inl ⟨by rfl, ?hy115⟩) ?rest115
  case' hy115 => (intro w' hSw; (try dsimp only at hSw); go_simp; try with_reducible rfl)
  try simp only [Act.put, List.getElem_toArray, List.getElem_cons_zero, List.getElem_cons_succ, List.setIfInBounds_toArray, List.set_cons_zero, List.set_cons_succ]
  refine' wpAnyF_take (i := 14) (n := 17) (v := _) rfl (by kernel_rfl) (fun _ _ _ h => h) (by assumption) (Or.inl ⟨by rfl, ?hy116⟩) ?rest116
  case' hy116 => (intro w' hSw; (try dsimp only at hSw); go_simp; try with_reducible rfl)
  try simp only [Act.put, List.getElem_toArray, List.getElem_cons_zero, List.getElem_cons_succ, List.setIfInBounds_toArray, List.set_cons_zero, List.set_cons_succ]
  refine' wpAnyF_take (i := 15) (n := 17) (v := _) rfl (by kernel_rfl) (fun _ _ _ h => h) (by assumption) (Or.inl ⟨by rfl, ?hy117⟩) ?rest117
  case' hy117 => (intro w' hSw; (try dsimp only at hSw); go_simp; try with_reducible rfl)
  try simp only [Act.put, List.getElem_toArray, List.getElem_cons_zero, List.getElem_cons_succ, List.setIfInBounds_toArray, List.set_cons_zero, List.set_cons_succ]
  refine' wpAnyF_take (i := 16) (n := 17) (v := _) rfl (by kernel_rfl) (fun _ _ _ h => h) (by assumption) (Or.inl ⟨by rfl, ?hy118⟩) ?rest118
  case' hy118 => (intro w' hSw; (try dsimp only at hSw); go_simp; try with_reducible rfl)
  try simp only [Act.put, List.getElem_toArray, List.getElem_cons_zero, List.getElem_cons_succ, List.setIfInBounds_toArray, List.set_cons_zero, List.set_cons_succ]
  refine wpAnyF_only (i := 17) rfl (by kernel_rfl) (fun K hK => ?_)
  go_simp
  go_at_call 69
  refine HL.out.mono ?_
  rintro e w4 ⟨rfl, k4⟩
  dsimp only
  refine hK.out _ _ (Or.inl (by kernel_rfl)) ?_
  clear hK K
  try simp only [Act.put, List.getElem_toArray, List.getElem_cons_zero, List.getElem_cons_succ, List.setIfInBounds_toArray, List.set_cons_zero, List.set_cons_succ]
  refine wpAnyF_done (by kernel_rfl) ?_ _
  go_wp2
  go_end0
  exact ⟨rfl, k4.out⟩

set_option maxRecDepth 20000 in
set_option maxHeartbeats 2000000 in
theorem kdo_mark {a : Nat → Addr} {cs : List (List Ins)} {p : MkPl} {m : Mk} {K t : Nat} {w : World} (D : DoX a cs p m K t w) (L : List Ins) (x : Ins) (e : x.op = ⟨#[109, 97, 114, 107]⟩) {i : Nat} (hi : i < 8) (ei : x.a = i) :
    Calls Tryz.prog 49 #[.pointer (some ⟨p.b, 0, none⟩), .int .i64 t, .agg #[.string x.op, .int .i64 x.a, .int .i64 x.b, .int .i64 x.c, .string x.to]] w fun e w' => e = .returned (.tuple #[]) ∧ ∃ v, MkStep a cs p w v (m.exec L t x) w' := by
  rw [exec_mark m L t e]
  rw [ei]
  simp only [Int.toNat_natCast]
  obtain ⟨xo, xa, xb, xc, xt⟩ := x
  dsimp only at e ei ⊢
  subst e ei
  have t6 := D.t6
  have t6i : (t : Int) < 6 := by omega
  have hba : Below w.heap.size w (w.alloc (.cells #[.string ⟨#[109, 97, 114, 107]⟩, .int .i64 i, .int .i64 xb, .int .i64 xc, .string xt] 44)) := (Below.refl _ _).alloc (Nat.le_refl _) _
  have q0 : (w.alloc (.cells #[.string ⟨#[109, 97, 114, 107]⟩, .int .i64 i, .int .i64 xb, .int .i64 xc, .string xt] 44)).cell? ⟨w.heap.size, 0, none⟩ = some (.string ⟨#[109, 97, 114, 107]⟩) := by simp
  have q1 : (w.alloc (.cells #[.string ⟨#[109, 97, 114, 107]⟩, .int .i64 i, .int .i64 xb, .int .i64 xc, .string xt] 44)).cell? ⟨w.heap.size, 1, none⟩ = some (.int .i64 i) := by simp
  have q2 : (w.alloc (.cells #[.string ⟨#[109, 97, 114, 107]⟩, .int .i64 i, .int .i64 xb, .int .i64 xc, .string xt] 44)).cell? ⟨w.heap.size, 2, none⟩ = some (.int .i64 xb) := by simp
  have q3 : (w.alloc (.cells #[.string ⟨#[109, 97, 114, 107]⟩, .int .i64 i, .int .i64 xb, .int .i64 xc, .string xt] 44)).cell? ⟨w.heap.size, 3, none⟩ = some (.int .i64 xc) := by simp
  have q4 : (w.alloc (.cells #[.string ⟨#[109, 97, 114, 107]⟩, .int .i64 i, .int .i64 xb, .int .i64 xc, .string xt] 44)).cell? ⟨w.heap.size, 4, none⟩ = some (.string xt) := by simp
  have D1 := D.below hba
  have hlw := D.at'.lt
  have gi := D1.at'.reg t i t6 (by omega)
  have li : (i : Int) < 8 := by omega
  generalize hw : w.alloc (.cells #[.string ⟨#[109, 97, 114, 107]⟩, .int .i64 i, .int .i64 xb, .int .i64 xc, .string xt] 44) = w1 at *
  have HL : Hid (Calls Tryz.prog 70 #[.pointer (some ⟨p.b, 0, none⟩), .int .i64 t, .int .i64 (m.regs t i)] (w1.drewN 1) fun e w'' => e = .returned (.tuple #[]) ∧ Hid (∃ v, MkStep a cs p w v (m.mark t (m.regs t i)) w'')) :=
    (kmark_any t _ (D1.at'.drewN 1) D.ok.marks).mono fun e w'' ⟨e1, e2⟩ => ⟨e1, let ⟨v, e3⟩ := e2; ⟨v, MkStep.of_below (below_dN hba 1) e3⟩⟩
  clear D D1 hba
  generalize (m.mark t (m.regs t i)) = m1 at *
  generalize m.regs t i = Ri at *
  go_enter Tryz.func49, Tryz.ntmps49
  go_wp2_with fail
  clear hw
  refine wp_region_F (S := (fun w' => w'.cell? ⟨w.heap.size, 1, none⟩ = some (.int .i64 i) ∧ w'.cell? ⟨p.b, 585 + t * 9 + i, none⟩ = some (.int .i64 Ri))) (by kernel_rfl) (by (try dsimp only); go_keep) (fun hHeld => ?_)
  refine' wpAnyF_take (i := 0) (n := 8) (v := _) rfl (by kernel_rfl) (fun _ _ _ h => h) (by assumption) (Or.inl ⟨by rfl, ?hy119⟩) ?rest119
  case' hy119 => (intro w' hSw; (try dsimp only at hSw); go_simp; try with_reducible rfl)
  try simp only [Act.put, List.getElem_toArray, List.getElem_cons_zero, List.setIfInBounds_toArray, List.set_cons_zero, List.set_cons_succ]
  refine' wpAnyF_take (i := 1) (n := 8) (v := _) rfl (by kernel_rfl) (fun _ _ _ h => h) (by assumption) (Or.inl ⟨by rfl, ?hy120⟩) ?rest120
  case' hy120 => (intro w' hSw; (try dsimp only at hSw); go_simp; try with_reducible rfl)
  try simp only [Act.put, List.getElem_toArray, List.getElem_cons_zero, List.getElem_cons_succ, List.setIfInBounds_toArray, List.set_cons_zero, List.set_cons_succ]
  refine' wpAnyF_take (i := 2) (n := 8) (v := _) rfl (by kernel_rfl) (fun _ _ _ h => h) (by assumption) (Or.inl ⟨by rfl, ?hy121⟩) ?rest121
  case' hy121 => (intro w' hSw; (try dsimp only at hSw); go_simp; try with_reducible rfl)
  try simp only [Act.put, List.getElem_toArray, List.getElem_cons_zero, List.getElem_cons_succ, List.setIfInBounds_toArray, List.set_cons_zero, List.set_cons_succ]
  refine' wpAnyF_take (i := 3) (n := 8) (v := _) rfl (by kernel_rfl) (fun _ _ _ h => h) (by assumption) (Or.inl ⟨by rfl, ?hy122⟩) ?rest122
  case' hy122 => (intro w' hSw; (try dsimp only at hSw); go_simp; try with_reducible rfl)
  try simp only [Act.put, List.getElem_toArray, List.getElem_cons_zero, List.getElem_cons_succ, List.setIfInBounds_toArray, List.set_cons_zero, List.set_cons_succ]
  refine' wpAnyF_take (i := 4) (n := 8) (v := _) rfl (by kernel_rfl) (fun _ _ _ h => h) (by assumption) (Or.inl ⟨by rfl, ?hy123⟩) ?rest123
  case' hy123 => (intro w' hSw; (try dsimp only at hSw); go_simp; try with_reducible rfl)
  try simp only [Act.put, List.getElem_toArray, List.getElem_cons_zero, List.getElem_cons_succ, List.setIfInBounds_toArray, List.set_cons_zero, List.set_cons_succ]
  refine' wpAnyF_take (i := 5) (n := 8) (v := _) rfl (by kernel_rfl) (fun _ _ _ h => h) (by assumption) (Or.inl ⟨by rfl, ?hy124⟩) ?rest124
  case' hy124 => (intro w' hSw; (try dsimp only at hSw); go_simp; try with_reducible rfl)
  try simp only [Act.put, List.getElem_toArray, List.getElem_cons_zero, List.getElem_cons_succ, List.setIfInBounds_toArray, List.set_cons_zero, List.set_cons_succ]
  refine' wpAnyF_take (i := 6) (n := 8) (v := _) rfl (by kernel_rfl) (fun _ _ _ h => h) (by assumption) (Or.inl ⟨by rfl, ?hy125⟩) ?rest125
  case' hy125 => (intro w' hSw; (try dsimp only at hSw); go_simp; try with_reducible rfl)
  try simp only [Act.put, List.getElem_toArray, List.getElem_cons_zero, List.getElem_cons_succ, List.setIfInBounds_toArray, List.set_cons_zero, List.set_cons_succ]
  refine' wpAnyF_take (i := 7) (n := 8) (v := _) rfl (by kernel_rfl) (fun _ _ _ h => h) (by assumption) (Or.inl ⟨by rfl, ?hy126⟩) ?rest126
  case' hy126 => (intro w' hSw; (try dsimp only at hSw); go_simp; try with_reducible rfl)
  try simp only [Act.put, List.getElem_toArray, List.getElem_cons_zero, List.getElem_cons_succ, List.setIfInBounds_toArray, List.set_cons_zero, List.set_cons_succ]
  refine wpAnyF_only (i := 8) rfl (by kernel_rfl) (fun K hK => ?_)
  go_simp
  go_at_call 70
  refine HL.out.mono ?_
  rintro e w4 ⟨rfl, k4⟩
  dsimp only
  refine hK.out _ _ (Or.inl (by kernel_rfl)) ?_
  clear hK K
  try simp only [Act.put, List.getElem_toArray, List.getElem_cons_zero, List.getElem_cons_succ, List.setIfInBounds_toArray, List.set_cons_zero, List.set_cons_succ]
  refine wpAnyF_done (by kernel_rfl) ?_ _
  go_wp2
  go_end0
  exact ⟨rfl, k4.out⟩

set_option maxRecDepth 20000 in
set_option maxHeartbeats 2000000 in
theorem kdo_need {a : Nat → Addr} {cs : List (List Ins)} {p : MkPl} {m : Mk} {K t : Nat} {w : World} (D : DoX a cs p m K t w) (L : List Ins) (x : Ins) (e : x.op = ⟨#[110, 101, 101, 100]⟩) {i : Nat} (hi : i < 8) (ei : x.a = i) :
    Calls Tryz.prog 49 #[.pointer (some ⟨p.b, 0, none⟩), .int .i64 t, .agg #[.string x.op, .int .i64 x.a, .int .i64 x.b, .int .i64 x.c, .string x.to]] w fun e w' => e = .returned (.tuple #[]) ∧ ∃ v, MkStep a cs p w v (m.exec L t x) w' := by
  rw [exec_need m L t e]
  rw [ei]
  simp only [Int.toNat_natCast]
  obtain ⟨xo, xa, xb, xc, xt⟩ := x
  dsimp only at e ei ⊢
  subst e ei
  have t6 := D.t6
  have t6i : (t : Int) < 6 := by omega
  have hba : Below w.heap.size w (w.alloc (.cells #[.string ⟨#[110, 101, 101, 100]⟩, .int .i64 i, .int .i64 xb, .int .i64 xc, .string xt] 44)) := (Below.refl _ _).alloc (Nat.le_refl _) _
  have q0 : (w.alloc (.cells #[.string ⟨#[110, 101, 101, 100]⟩, .int .i64 i, .int .i64 xb, .int .i64 xc, .string xt] 44)).cell? ⟨w.heap.size, 0, none⟩ = some (.string ⟨#[110, 101, 101, 100]⟩) := by simp
  have q1 : (w.alloc (.cells #[.string ⟨#[110, 101, 101, 100]⟩, .int .i64 i, .int .i64 xb, .int .i64 xc, .string xt] 44)).cell? ⟨w.heap.size, 1, none⟩ = some (.int .i64 i) := by simp
  have q2 : (w.alloc (.cells #[.string ⟨#[110, 101, 101, 100]⟩, .int .i64 i, .int .i64 xb, .int .i64 xc, .string xt] 44)).cell? ⟨w.heap.size, 2, none⟩ = some (.int .i64 xb) := by simp
  have q3 : (w.alloc (.cells #[.string ⟨#[110, 101, 101, 100]⟩, .int .i64 i, .int .i64 xb, .int .i64 xc, .string xt] 44)).cell? ⟨w.heap.size, 3, none⟩ = some (.int .i64 xc) := by simp
  have q4 : (w.alloc (.cells #[.string ⟨#[110, 101, 101, 100]⟩, .int .i64 i, .int .i64 xb, .int .i64 xc, .string xt] 44)).cell? ⟨w.heap.size, 4, none⟩ = some (.string xt) := by simp
  have D1 := D.below hba
  have hlw := D.at'.lt
  have gi := D1.at'.reg t i t6 (by omega)
  have li : (i : Int) < 8 := by omega
  generalize hw : w.alloc (.cells #[.string ⟨#[110, 101, 101, 100]⟩, .int .i64 i, .int .i64 xb, .int .i64 xc, .string xt] 44) = w1 at *
  have HL : Hid (Calls Tryz.prog 71 #[.pointer (some ⟨p.b, 0, none⟩), .int .i64 (m.regs t i)] (w1.drewN 1) fun e w'' => e = .returned (.tuple #[]) ∧ Hid (∃ v, MkStep a cs p w v (m.need (m.regs t i)) w'')) :=
    (need_any _ (D1.at'.drewN 1) (by have := D.faults; omega)).mono fun e w'' ⟨e1, e2⟩ => ⟨e1, ⟨_, MkStep.of_below (below_dN hba 1) e2⟩⟩
  clear D D1 hba
  generalize (m.need (m.regs t i)) = m1 at *
  generalize m.regs t i = Ri at *
  go_enter Tryz.func49, Tryz.ntmps49
  go_wp2_with fail
  clear hw
  refine wp_region_F (S := (fun w' => w'.cell? ⟨w.heap.size, 1, none⟩ = some (.int .i64 i) ∧ w'.cell? ⟨p.b, 585 + t * 9 + i, none⟩ = some (.int .i64 Ri))) (by kernel_rfl) (by (try dsimp only); go_keep) (fun hHeld => ?_)
  refine' wpAnyF_take (i := 0) (n := 7) (v := _) rfl (by kernel_rfl) (fun _ _ _ h => h) (by assumption) (Or.inl ⟨by rfl, ?hy127⟩) ?rest127
  case' hy127 => (intro w' hSw; (try dsimp only at hSw); go_simp; try with_reducible rfl)
  try simp only [Act.put, List.getElem_toArray, List.getElem_cons_zero, List.setIfInBounds_toArray, List.set_cons_zero, List.set_cons_succ]
  refine' wpAnyF_take (i := 1) (n := 7) (v := _) rfl (by kernel_rfl) (fun _ _ _ h => h) (by assumption) (Or.inl ⟨by rfl, ?hy128⟩) ?rest128
  case' hy128 => (intro w' hSw; (try dsimp only at hSw); go_simp; try with_reducible rfl)
  try simp only [Act.put, List.getElem_toArray, List.getElem_cons_zero, List.getElem_cons_succ, List.setIfInBounds_toArray, List.set_cons_zero, List.set_cons_succ]
  refine' wpAnyF_take (i := 2) (n := 7) (v := _) rfl (by kernel_rfl) (fun _ _ _ h => h) (by assumption) (Or.inl ⟨by rfl, ?hy129⟩) ?rest129
  case' hy129 => (intro w' hSw; (try dsimp only at hSw); go_simp; try with_reducible rfl)
  try simp only [Act.put, List.getElem_toArray, List.getElem_cons_zero, List.getElem_cons_succ, List.setIfInBounds_toArray, List.set_cons_zero, List.set_cons_succ]
  refine' wpAnyF_take (i := 3) (n := 7) (v := _) rfl (by kernel_rfl) (fun _ _ _ h => h) (by assumption) (Or.inl ⟨by rfl, ?hy130⟩) ?rest130
  case' hy130 => (intro w' hSw; (try dsimp only at hSw); go_simp; try with_reducible rfl)
  try simp only [Act.put, List.getElem_toArray, List.getElem_cons_zero, List.getElem_cons_succ, List.setIfInBounds_toArray, List.set_cons_zero, List.set_cons_succ]
  refine' wpAnyF_take (i := 4) (n := 7) (v := _) rfl (by kernel_rfl) (fun _ _ _ h => h) (by assumption) (Or.inl ⟨by rfl, ?hy131⟩) ?rest131
  case' hy131 => (intro w' hSw; (try dsimp only at hSw); go_simp; try with_reducible rfl)
  try simp only [Act.put, List.getElem_toArray, List.getElem_cons_zero, List.getElem_cons_succ, List.setIfInBounds_toArray, List.set_cons_zero, List.set_cons_succ]
  refine' wpAnyF_take (i := 5) (n := 7) (v := _) rfl (by kernel_rfl) (fun _ _ _ h => h) (by assumption) (Or.inl ⟨by rfl, ?hy132⟩) ?rest132
  case' hy132 => (intro w' hSw; (try dsimp only at hSw); go_simp; try with_reducible rfl)
  try simp only [Act.put, List.getElem_toArray, List.getElem_cons_zero, List.getElem_cons_succ, List.setIfInBounds_toArray, List.set_cons_zero, List.set_cons_succ]
  refine' wpAnyF_take (i := 6) (n := 7) (v := _) rfl (by kernel_rfl) (fun _ _ _ h => h) (by assumption) (Or.inl ⟨by rfl, ?hy133⟩) ?rest133
  case' hy133 => (intro w' hSw; (try dsimp only at hSw); go_simp; try with_reducible rfl)
  try simp only [Act.put, List.getElem_toArray, List.getElem_cons_zero, List.getElem_cons_succ, List.setIfInBounds_toArray, List.set_cons_zero, List.set_cons_succ]
  refine wpAnyF_only (i := 7) rfl (by kernel_rfl) (fun K hK => ?_)
  go_simp
  go_at_call 71
  refine HL.out.mono ?_
  rintro e w4 ⟨rfl, k4⟩
  dsimp only
  refine hK.out _ _ (Or.inl (by kernel_rfl)) ?_
  clear hK K
  try simp only [Act.put, List.getElem_toArray, List.getElem_cons_zero, List.getElem_cons_succ, List.setIfInBounds_toArray, List.set_cons_zero, List.set_cons_succ]
  refine wpAnyF_done (by kernel_rfl) ?_ _
  go_wp2
  go_end0
  exact ⟨rfl, k4.out⟩

set_option maxRecDepth 20000 in
set_option maxHeartbeats 2000000 in
theorem kdo_goto {a : Nat → Addr} {cs : List (List Ins)} {p : MkPl} {m : Mk} {K t : Nat} {w : World} (D : DoX a cs p m K t w) (L : List Ins) (x : Ins) (e : x.op = ⟨#[103, 111, 116, 111]⟩) {L' : Nat} (ht : cs[t]? = some L) (hs : x.to.size ≤ maxLen) (hi : labelAt L x.to = L') :
    Calls Tryz.prog 49 #[.pointer (some ⟨p.b, 0, none⟩), .int .i64 t, .agg #[.string x.op, .int .i64 x.a, .int .i64 x.b, .int .i64 x.c, .string x.to]] w fun e w' => e = .returned (.tuple #[]) ∧ ∃ v, MkStep a cs p w v (m.exec L t x) w' := by
  rw [exec_goto m L t e]
  obtain ⟨xo, xa, xb, xc, xt⟩ := x
  dsimp only at e hs hi ⊢
  subst e
  have t6 := D.t6
  have t6i : (t : Int) < 6 := by omega
  have hba : Below w.heap.size w (w.alloc (.cells #[.string ⟨#[103, 111, 116, 111]⟩, .int .i64 xa, .int .i64 xb, .int .i64 xc, .string xt] 44)) := (Below.refl _ _).alloc (Nat.le_refl _) _
  have q0 : (w.alloc (.cells #[.string ⟨#[103, 111, 116, 111]⟩, .int .i64 xa, .int .i64 xb, .int .i64 xc, .string xt] 44)).cell? ⟨w.heap.size, 0, none⟩ = some (.string ⟨#[103, 111, 116, 111]⟩) := by simp
  have q1 : (w.alloc (.cells #[.string ⟨#[103, 111, 116, 111]⟩, .int .i64 xa, .int .i64 xb, .int .i64 xc, .string xt] 44)).cell? ⟨w.heap.size, 1, none⟩ = some (.int .i64 xa) := by simp
  have q2 : (w.alloc (.cells #[.string ⟨#[103, 111, 116, 111]⟩, .int .i64 xa, .int .i64 xb, .int .i64 xc, .string xt] 44)).cell? ⟨w.heap.size, 2, none⟩ = some (.int .i64 xb) := by simp
  have q3 : (w.alloc (.cells #[.string ⟨#[103, 111, 116, 111]⟩, .int .i64 xa, .int .i64 xb, .int .i64 xc, .string xt] 44)).cell? ⟨w.heap.size, 3, none⟩ = some (.int .i64 xc) := by simp
  have q4 : (w.alloc (.cells #[.string ⟨#[103, 111, 116, 111]⟩, .int .i64 xa, .int .i64 xb, .int .i64 xc, .string xt] 44)).cell? ⟨w.heap.size, 4, none⟩ = some (.string xt) := by simp
  have D1 := D.below hba
  have hlw := D.at'.lt
  generalize hw : w.alloc (.cells #[.string ⟨#[103, 111, 116, 111]⟩, .int .i64 xa, .int .i64 xb, .int .i64 xc, .string xt] 44) = w1 at *
  have HL : Hid (Calls Tryz.prog 69 #[.pointer (some ⟨p.b, 0, none⟩), .int .i64 t, .string xt, .bool true] w1 fun e w'' => e = .returned (.tuple #[]) ∧ Hid (∃ v, MkStep a cs p w v (m.jump t L xt) w'')) :=
    (kjump_yes ht hs hi D1.at').mono fun e w'' ⟨e1, e2⟩ => ⟨e1, ⟨_, MkStep.of_below hba e2⟩⟩
  clear D D1 hba
  generalize m.jump t L xt = m1 at *
  go_enter Tryz.func49, Tryz.ntmps49
  go_wp2_with fail
  clear hw
  refine HL.out.mono ?_
  rintro e w4 ⟨rfl, k4⟩
  go_wp2
  go_end0
  exact ⟨rfl, k4.out⟩

set_option maxRecDepth 20000 in
set_option maxHeartbeats 2000000 in
theorem kdo_load {a : Nat → Addr} {cs : List (List Ins)} {p : MkPl} {t : Nat} {w : World} (x : Ins) (e : x.op = ⟨#[108, 111, 97, 100]⟩) (m' : Mk)
    (HT : ∀ w', Below w.heap.size w w' → Calls Tryz.prog 72 #[.pointer (some ⟨p.b, 0, none⟩), .int .i64 t, .agg #[.string x.op, .int .i64 x.a, .int .i64 x.b, .int .i64 x.c, .string x.to]] w' fun e w'' => e = .returned (.tuple #[]) ∧ MkStep a cs p w' p.mv m' w'') (t6 : t < 6) :
    Calls Tryz.prog 49 #[.pointer (some ⟨p.b, 0, none⟩), .int .i64 t, .agg #[.string x.op, .int .i64 x.a, .int .i64 x.b, .int .i64 x.c, .string x.to]] w fun e w' => e = .returned (.tuple #[]) ∧ ∃ v, MkStep a cs p w v m' w' := by
  obtain ⟨xo, xa, xb, xc, xt⟩ := x
  dsimp only at e HT ⊢
  subst e
  have t6i : (t : Int) < 6 := by omega
  have hba : Below w.heap.size w (w.alloc (.cells #[.string ⟨#[108, 111, 97, 100]⟩, .int .i64 xa, .int .i64 xb, .int .i64 xc, .string xt] 44)) := (Below.refl _ _).alloc (Nat.le_refl _) _
  have HL : Hid (Calls Tryz.prog 72 #[.pointer (some ⟨p.b, 0, none⟩), .int .i64 t, .agg #[.string ⟨#[108, 111, 97, 100]⟩, .int .i64 xa, .int .i64 xb, .int .i64 xc, .string xt]] (w.alloc (.cells #[.string ⟨#[108, 111, 97, 100]⟩, .int .i64 xa, .int .i64 xb, .int .i64 xc, .string xt] 44)) fun e w'' => e = .returned (.tuple #[]) ∧ Hid (∃ v, MkStep a cs p w v m' w'')) :=
    (HT _ hba).mono fun e w'' ⟨e1, e2⟩ => ⟨e1, ⟨_, MkStep.of_below hba e2⟩⟩
  clear HT
  go_enter Tryz.func49, Tryz.ntmps49
  go_wp2_with fail
  refine HL.out.mono ?_
  rintro e w4 ⟨rfl, k4⟩
  go_wp2
  go_end0
  exact ⟨rfl, k4.out⟩

set_option maxRecDepth 20000 in
set_option maxHeartbeats 2000000 in
theorem kdo_store {a : Nat → Addr} {cs : List (List Ins)} {p : MkPl} {t : Nat} {w : World} (x : Ins) (e : x.op = ⟨#[115, 116, 111, 114, 101]⟩) (m' : Mk)
    (HT : ∀ w', Below w.heap.size w w' → Calls Tryz.prog 72 #[.pointer (some ⟨p.b, 0, none⟩), .int .i64 t, .agg #[.string x.op, .int .i64 x.a, .int .i64 x.b, .int .i64 x.c, .string x.to]] w' fun e w'' => e = .returned (.tuple #[]) ∧ MkStep a cs p w' p.mv m' w'') (t6 : t < 6) :
    Calls Tryz.prog 49 #[.pointer (some ⟨p.b, 0, none⟩), .int .i64 t, .agg #[.string x.op, .int .i64 x.a, .int .i64 x.b, .int .i64 x.c, .string x.to]] w fun e w' => e = .returned (.tuple #[]) ∧ ∃ v, MkStep a cs p w v m' w' := by
  obtain ⟨xo, xa, xb, xc, xt⟩ := x
  dsimp only at e HT ⊢
  subst e
  have t6i : (t : Int) < 6 := by omega
  have hba : Below w.heap.size w (w.alloc (.cells #[.string ⟨#[115, 116, 111, 114, 101]⟩, .int .i64 xa, .int .i64 xb, .int .i64 xc, .string xt] 44)) := (Below.refl _ _).alloc (Nat.le_refl _) _
  have HL : Hid (Calls Tryz.prog 72 #[.pointer (some ⟨p.b, 0, none⟩), .int .i64 t, .agg #[.string ⟨#[115, 116, 111, 114, 101]⟩, .int .i64 xa, .int .i64 xb, .int .i64 xc, .string xt]] (w.alloc (.cells #[.string ⟨#[115, 116, 111, 114, 101]⟩, .int .i64 xa, .int .i64 xb, .int .i64 xc, .string xt] 44)) fun e w'' => e = .returned (.tuple #[]) ∧ Hid (∃ v, MkStep a cs p w v m' w'')) :=
    (HT _ hba).mono fun e w'' ⟨e1, e2⟩ => ⟨e1, ⟨_, MkStep.of_below hba e2⟩⟩
  clear HT
  go_enter Tryz.func49, Tryz.ntmps49
  go_wp2_with fail
  refine HL.out.mono ?_
  rintro e w4 ⟨rfl, k4⟩
  go_wp2
  go_end0
  exact ⟨rfl, k4.out⟩

set_option maxRecDepth 20000 in
set_option maxHeartbeats 2000000 in
theorem kdo_swap {a : Nat → Addr} {cs : List (List Ins)} {p : MkPl} {t : Nat} {w : World} (x : Ins) (e : x.op = ⟨#[115, 119, 97, 112]⟩) (m' : Mk)
    (HT : ∀ w', Below w.heap.size w w' → Calls Tryz.prog 72 #[.pointer (some ⟨p.b, 0, none⟩), .int .i64 t, .agg #[.string x.op, .int .i64 x.a, .int .i64 x.b, .int .i64 x.c, .string x.to]] w' fun e w'' => e = .returned (.tuple #[]) ∧ MkStep a cs p w' p.mv m' w'') (t6 : t < 6) :
    Calls Tryz.prog 49 #[.pointer (some ⟨p.b, 0, none⟩), .int .i64 t, .agg #[.string x.op, .int .i64 x.a, .int .i64 x.b, .int .i64 x.c, .string x.to]] w fun e w' => e = .returned (.tuple #[]) ∧ ∃ v, MkStep a cs p w v m' w' := by
  obtain ⟨xo, xa, xb, xc, xt⟩ := x
  dsimp only at e HT ⊢
  subst e
  have t6i : (t : Int) < 6 := by omega
  have hba : Below w.heap.size w (w.alloc (.cells #[.string ⟨#[115, 119, 97, 112]⟩, .int .i64 xa, .int .i64 xb, .int .i64 xc, .string xt] 44)) := (Below.refl _ _).alloc (Nat.le_refl _) _
  have HL : Hid (Calls Tryz.prog 72 #[.pointer (some ⟨p.b, 0, none⟩), .int .i64 t, .agg #[.string ⟨#[115, 119, 97, 112]⟩, .int .i64 xa, .int .i64 xb, .int .i64 xc, .string xt]] (w.alloc (.cells #[.string ⟨#[115, 119, 97, 112]⟩, .int .i64 xa, .int .i64 xb, .int .i64 xc, .string xt] 44)) fun e w'' => e = .returned (.tuple #[]) ∧ Hid (∃ v, MkStep a cs p w v m' w'')) :=
    (HT _ hba).mono fun e w'' ⟨e1, e2⟩ => ⟨e1, ⟨_, MkStep.of_below hba e2⟩⟩
  clear HT
  go_enter Tryz.func49, Tryz.ntmps49
  go_wp2_with fail
  refine HL.out.mono ?_
  rintro e w4 ⟨rfl, k4⟩
  go_wp2
  go_end0
  exact ⟨rfl, k4.out⟩

set_option maxRecDepth 20000 in
set_option maxHeartbeats 2000000 in
theorem kdo_cas {a : Nat → Addr} {cs : List (List Ins)} {p : MkPl} {t : Nat} {w : World} (x : Ins) (e : x.op = ⟨#[99, 97, 115]⟩) (m' : Mk)
    (HT : ∀ w', Below w.heap.size w w' → Calls Tryz.prog 72 #[.pointer (some ⟨p.b, 0, none⟩), .int .i64 t, .agg #[.string x.op, .int .i64 x.a, .int .i64 x.b, .int .i64 x.c, .string x.to]] w' fun e w'' => e = .returned (.tuple #[]) ∧ MkStep a cs p w' p.mv m' w'') (t6 : t < 6) :
    Calls Tryz.prog 49 #[.pointer (some ⟨p.b, 0, none⟩), .int .i64 t, .agg #[.string x.op, .int .i64 x.a, .int .i64 x.b, .int .i64 x.c, .string x.to]] w fun e w' => e = .returned (.tuple #[]) ∧ ∃ v, MkStep a cs p w v m' w' := by
  obtain ⟨xo, xa, xb, xc, xt⟩ := x
  dsimp only at e HT ⊢
  subst e
  have t6i : (t : Int) < 6 := by omega
  have hba : Below w.heap.size w (w.alloc (.cells #[.string ⟨#[99, 97, 115]⟩, .int .i64 xa, .int .i64 xb, .int .i64 xc, .string xt] 44)) := (Below.refl _ _).alloc (Nat.le_refl _) _
  have HL : Hid (Calls Tryz.prog 72 #[.pointer (some ⟨p.b, 0, none⟩), .int .i64 t, .agg #[.string ⟨#[99, 97, 115]⟩, .int .i64 xa, .int .i64 xb, .int .i64 xc, .string xt]] (w.alloc (.cells #[.string ⟨#[99, 97, 115]⟩, .int .i64 xa, .int .i64 xb, .int .i64 xc, .string xt] 44)) fun e w'' => e = .returned (.tuple #[]) ∧ Hid (∃ v, MkStep a cs p w v m' w'')) :=
    (HT _ hba).mono fun e w'' ⟨e1, e2⟩ => ⟨e1, ⟨_, MkStep.of_below hba e2⟩⟩
  clear HT
  go_enter Tryz.func49, Tryz.ntmps49
  go_wp2_with fail
  refine HL.out.mono ?_
  rintro e w4 ⟨rfl, k4⟩
  go_wp2
  go_end0
  exact ⟨rfl, k4.out⟩

set_option maxRecDepth 20000 in
set_option maxHeartbeats 2000000 in
theorem kdo_alloc {a : Nat → Addr} {cs : List (List Ins)} {p : MkPl} {t : Nat} {w : World} (x : Ins) (e : x.op = ⟨#[97, 108, 108, 111, 99]⟩) (m' : Mk)
    (HT : ∀ w', Below w.heap.size w w' → Calls Tryz.prog 72 #[.pointer (some ⟨p.b, 0, none⟩), .int .i64 t, .agg #[.string x.op, .int .i64 x.a, .int .i64 x.b, .int .i64 x.c, .string x.to]] w' fun e w'' => e = .returned (.tuple #[]) ∧ MkStep a cs p w' p.mv m' w'') (t6 : t < 6) :
    Calls Tryz.prog 49 #[.pointer (some ⟨p.b, 0, none⟩), .int .i64 t, .agg #[.string x.op, .int .i64 x.a, .int .i64 x.b, .int .i64 x.c, .string x.to]] w fun e w' => e = .returned (.tuple #[]) ∧ ∃ v, MkStep a cs p w v m' w' := by
  obtain ⟨xo, xa, xb, xc, xt⟩ := x
  dsimp only at e HT ⊢
  subst e
  have t6i : (t : Int) < 6 := by omega
  have hba : Below w.heap.size w (w.alloc (.cells #[.string ⟨#[97, 108, 108, 111, 99]⟩, .int .i64 xa, .int .i64 xb, .int .i64 xc, .string xt] 44)) := (Below.refl _ _).alloc (Nat.le_refl _) _
  have HL : Hid (Calls Tryz.prog 72 #[.pointer (some ⟨p.b, 0, none⟩), .int .i64 t, .agg #[.string ⟨#[97, 108, 108, 111, 99]⟩, .int .i64 xa, .int .i64 xb, .int .i64 xc, .string xt]] (w.alloc (.cells #[.string ⟨#[97, 108, 108, 111, 99]⟩, .int .i64 xa, .int .i64 xb, .int .i64 xc, .string xt] 44)) fun e w'' => e = .returned (.tuple #[]) ∧ Hid (∃ v, MkStep a cs p w v m' w'')) :=
    (HT _ hba).mono fun e w'' ⟨e1, e2⟩ => ⟨e1, ⟨_, MkStep.of_below hba e2⟩⟩
  clear HT
  go_enter Tryz.func49, Tryz.ntmps49
  go_wp2_with fail
  refine HL.out.mono ?_
  rintro e w4 ⟨rfl, k4⟩
  go_wp2
  go_end0
  exact ⟨rfl, k4.out⟩

set_option maxRecDepth 20000 in
set_option maxHeartbeats 2000000 in
theorem kdo_free {a : Nat → Addr} {cs : List (List Ins)} {p : MkPl} {t : Nat} {w : World} (x : Ins) (e : x.op = ⟨#[102, 114, 101, 101]⟩) (m' : Mk)
    (HT : ∀ w', Below w.heap.size w w' → Calls Tryz.prog 72 #[.pointer (some ⟨p.b, 0, none⟩), .int .i64 t, .agg #[.string x.op, .int .i64 x.a, .int .i64 x.b, .int .i64 x.c, .string x.to]] w' fun e w'' => e = .returned (.tuple #[]) ∧ MkStep a cs p w' p.mv m' w'') (t6 : t < 6) :
    Calls Tryz.prog 49 #[.pointer (some ⟨p.b, 0, none⟩), .int .i64 t, .agg #[.string x.op, .int .i64 x.a, .int .i64 x.b, .int .i64 x.c, .string x.to]] w fun e w' => e = .returned (.tuple #[]) ∧ ∃ v, MkStep a cs p w v m' w' := by
  obtain ⟨xo, xa, xb, xc, xt⟩ := x
  dsimp only at e HT ⊢
  subst e
  have t6i : (t : Int) < 6 := by omega
  have hba : Below w.heap.size w (w.alloc (.cells #[.string ⟨#[102, 114, 101, 101]⟩, .int .i64 xa, .int .i64 xb, .int .i64 xc, .string xt] 44)) := (Below.refl _ _).alloc (Nat.le_refl _) _
  have HL : Hid (Calls Tryz.prog 72 #[.pointer (some ⟨p.b, 0, none⟩), .int .i64 t, .agg #[.string ⟨#[102, 114, 101, 101]⟩, .int .i64 xa, .int .i64 xb, .int .i64 xc, .string xt]] (w.alloc (.cells #[.string ⟨#[102, 114, 101, 101]⟩, .int .i64 xa, .int .i64 xb, .int .i64 xc, .string xt] 44)) fun e w'' => e = .returned (.tuple #[]) ∧ Hid (∃ v, MkStep a cs p w v m' w'')) :=
    (HT _ hba).mono fun e w'' ⟨e1, e2⟩ => ⟨e1, ⟨_, MkStep.of_below hba e2⟩⟩
  clear HT
  go_enter Tryz.func49, Tryz.ntmps49
  go_wp2_with fail
  refine HL.out.mono ?_
  rintro e w4 ⟨rfl, k4⟩
  go_wp2
  go_end0
  exact ⟨rfl, k4.out⟩

set_option maxRecDepth 20000 in
set_option maxHeartbeats 2000000 in
theorem kdo_fence {a : Nat → Addr} {cs : List (List Ins)} {p : MkPl} {t : Nat} {w : World} (x : Ins) (e : x.op = ⟨#[102, 101, 110, 99, 101]⟩) (m' : Mk)
    (HT : ∀ w', Below w.heap.size w w' → Calls Tryz.prog 72 #[.pointer (some ⟨p.b, 0, none⟩), .int .i64 t, .agg #[.string x.op, .int .i64 x.a, .int .i64 x.b, .int .i64 x.c, .string x.to]] w' fun e w'' => e = .returned (.tuple #[]) ∧ MkStep a cs p w' p.mv m' w'') (t6 : t < 6) :
    Calls Tryz.prog 49 #[.pointer (some ⟨p.b, 0, none⟩), .int .i64 t, .agg #[.string x.op, .int .i64 x.a, .int .i64 x.b, .int .i64 x.c, .string x.to]] w fun e w' => e = .returned (.tuple #[]) ∧ ∃ v, MkStep a cs p w v m' w' := by
  obtain ⟨xo, xa, xb, xc, xt⟩ := x
  dsimp only at e HT ⊢
  subst e
  have t6i : (t : Int) < 6 := by omega
  have hba : Below w.heap.size w (w.alloc (.cells #[.string ⟨#[102, 101, 110, 99, 101]⟩, .int .i64 xa, .int .i64 xb, .int .i64 xc, .string xt] 44)) := (Below.refl _ _).alloc (Nat.le_refl _) _
  have HL : Hid (Calls Tryz.prog 72 #[.pointer (some ⟨p.b, 0, none⟩), .int .i64 t, .agg #[.string ⟨#[102, 101, 110, 99, 101]⟩, .int .i64 xa, .int .i64 xb, .int .i64 xc, .string xt]] (w.alloc (.cells #[.string ⟨#[102, 101, 110, 99, 101]⟩, .int .i64 xa, .int .i64 xb, .int .i64 xc, .string xt] 44)) fun e w'' => e = .returned (.tuple #[]) ∧ Hid (∃ v, MkStep a cs p w v m' w'')) :=
    (HT _ hba).mono fun e w'' ⟨e1, e2⟩ => ⟨e1, ⟨_, MkStep.of_below hba e2⟩⟩
  clear HT
  go_enter Tryz.func49, Tryz.ntmps49
  go_wp2_with fail
  refine HL.out.mono ?_
  rintro e w4 ⟨rfl, k4⟩
  go_wp2
  go_end0
  exact ⟨rfl, k4.out⟩

set_option maxRecDepth 20000 in
set_option maxHeartbeats 2000000 in
theorem kdo_force {a : Nat → Addr} {cs : List (List Ins)} {p : MkPl} {t : Nat} {w : World} (x : Ins) (e : x.op = ⟨#[102, 111, 114, 99, 101]⟩) (m' : Mk)
    (HT : ∀ w', Below w.heap.size w w' → Calls Tryz.prog 72 #[.pointer (some ⟨p.b, 0, none⟩), .int .i64 t, .agg #[.string x.op, .int .i64 x.a, .int .i64 x.b, .int .i64 x.c, .string x.to]] w' fun e w'' => e = .returned (.tuple #[]) ∧ MkStep a cs p w' p.mv m' w'') (t6 : t < 6) :
    Calls Tryz.prog 49 #[.pointer (some ⟨p.b, 0, none⟩), .int .i64 t, .agg #[.string x.op, .int .i64 x.a, .int .i64 x.b, .int .i64 x.c, .string x.to]] w fun e w' => e = .returned (.tuple #[]) ∧ ∃ v, MkStep a cs p w v m' w' := by
  obtain ⟨xo, xa, xb, xc, xt⟩ := x
  dsimp only at e HT ⊢
  subst e
  have t6i : (t : Int) < 6 := by omega
  have hba : Below w.heap.size w (w.alloc (.cells #[.string ⟨#[102, 111, 114, 99, 101]⟩, .int .i64 xa, .int .i64 xb, .int .i64 xc, .string xt] 44)) := (Below.refl _ _).alloc (Nat.le_refl _) _
  have HL : Hid (Calls Tryz.prog 72 #[.pointer (some ⟨p.b, 0, none⟩), .int .i64 t, .agg #[.string ⟨#[102, 111, 114, 99, 101]⟩, .int .i64 xa, .int .i64 xb, .int .i64 xc, .string xt]] (w.alloc (.cells #[.string ⟨#[102, 111, 114, 99, 101]⟩, .int .i64 xa, .int .i64 xb, .int .i64 xc, .string xt] 44)) fun e w'' => e = .returned (.tuple #[]) ∧ Hid (∃ v, MkStep a cs p w v m' w'')) :=
    (HT _ hba).mono fun e w'' ⟨e1, e2⟩ => ⟨e1, ⟨_, MkStep.of_below hba e2⟩⟩
  clear HT
  go_enter Tryz.func49, Tryz.ntmps49
  go_wp2_with fail
  refine HL.out.mono ?_
  rintro e w4 ⟨rfl, k4⟩
  go_wp2
  go_end0
  exact ⟨rfl, k4.out⟩

set_option maxRecDepth 20000 in
set_option maxHeartbeats 2000000 in
theorem kdo_stop {a : Nat → Addr} {cs : List (List Ins)} {p : MkPl} {t : Nat} {w : World} (x : Ins) (e : x.op = ⟨#[115, 116, 111, 112]⟩) (m' : Mk)
    (HT : ∀ w', Below w.heap.size w w' → Calls Tryz.prog 72 #[.pointer (some ⟨p.b, 0, none⟩), .int .i64 t, .agg #[.string x.op, .int .i64 x.a, .int .i64 x.b, .int .i64 x.c, .string x.to]] w' fun e w'' => e = .returned (.tuple #[]) ∧ MkStep a cs p w' p.mv m' w'') (t6 : t < 6) :
    Calls Tryz.prog 49 #[.pointer (some ⟨p.b, 0, none⟩), .int .i64 t, .agg #[.string x.op, .int .i64 x.a, .int .i64 x.b, .int .i64 x.c, .string x.to]] w fun e w' => e = .returned (.tuple #[]) ∧ ∃ v, MkStep a cs p w v m' w' := by
  obtain ⟨xo, xa, xb, xc, xt⟩ := x
  dsimp only at e HT ⊢
  subst e
  have t6i : (t : Int) < 6 := by omega
  have hba : Below w.heap.size w (w.alloc (.cells #[.string ⟨#[115, 116, 111, 112]⟩, .int .i64 xa, .int .i64 xb, .int .i64 xc, .string xt] 44)) := (Below.refl _ _).alloc (Nat.le_refl _) _
  have HL : Hid (Calls Tryz.prog 72 #[.pointer (some ⟨p.b, 0, none⟩), .int .i64 t, .agg #[.string ⟨#[115, 116, 111, 112]⟩, .int .i64 xa, .int .i64 xb, .int .i64 xc, .string xt]] (w.alloc (.cells #[.string ⟨#[115, 116, 111, 112]⟩, .int .i64 xa, .int .i64 xb, .int .i64 xc, .string xt] 44)) fun e w'' => e = .returned (.tuple #[]) ∧ Hid (∃ v, MkStep a cs p w v m' w'')) :=
    (HT _ hba).mono fun e w'' ⟨e1, e2⟩ => ⟨e1, ⟨_, MkStep.of_below hba e2⟩⟩
  clear HT
  go_enter Tryz.func49, Tryz.ntmps49
  go_wp2_with fail
  refine HL.out.mono ?_
  rintro e w4 ⟨rfl, k4⟩
  go_wp2
  go_end0
  exact ⟨rfl, k4.out⟩

set_option maxRecDepth 20000 in
set_option maxHeartbeats 2000000 in
theorem kdo_label {a : Nat → Addr} {cs : List (List Ins)} {p : MkPl} {t : Nat} {w : World} (x : Ins) (e : x.op = ⟨#[108, 97, 98, 101, 108]⟩) (m' : Mk)
    (HT : ∀ w', Below w.heap.size w w' → Calls Tryz.prog 72 #[.pointer (some ⟨p.b, 0, none⟩), .int .i64 t, .agg #[.string x.op, .int .i64 x.a, .int .i64 x.b, .int .i64 x.c, .string x.to]] w' fun e w'' => e = .returned (.tuple #[]) ∧ MkStep a cs p w' p.mv m' w'') (t6 : t < 6) :
    Calls Tryz.prog 49 #[.pointer (some ⟨p.b, 0, none⟩), .int .i64 t, .agg #[.string x.op, .int .i64 x.a, .int .i64 x.b, .int .i64 x.c, .string x.to]] w fun e w' => e = .returned (.tuple #[]) ∧ ∃ v, MkStep a cs p w v m' w' := by
  obtain ⟨xo, xa, xb, xc, xt⟩ := x
  dsimp only at e HT ⊢
  subst e
  have t6i : (t : Int) < 6 := by omega
  have hba : Below w.heap.size w (w.alloc (.cells #[.string ⟨#[108, 97, 98, 101, 108]⟩, .int .i64 xa, .int .i64 xb, .int .i64 xc, .string xt] 44)) := (Below.refl _ _).alloc (Nat.le_refl _) _
  have HL : Hid (Calls Tryz.prog 72 #[.pointer (some ⟨p.b, 0, none⟩), .int .i64 t, .agg #[.string ⟨#[108, 97, 98, 101, 108]⟩, .int .i64 xa, .int .i64 xb, .int .i64 xc, .string xt]] (w.alloc (.cells #[.string ⟨#[108, 97, 98, 101, 108]⟩, .int .i64 xa, .int .i64 xb, .int .i64 xc, .string xt] 44)) fun e w'' => e = .returned (.tuple #[]) ∧ Hid (∃ v, MkStep a cs p w v m' w'')) :=
    (HT _ hba).mono fun e w'' ⟨e1, e2⟩ => ⟨e1, ⟨_, MkStep.of_below hba e2⟩⟩
  clear HT
  go_enter Tryz.func49, Tryz.ntmps49
  go_wp2_with fail
  refine HL.out.mono ?_
  rintro e w4 ⟨rfl, k4⟩
  go_wp2
  go_end0
  exact ⟨rfl, k4.out⟩

end Go.Proofs.YtnnlkolhahjokaaGreatDoor

/- MkV -/
namespace Go.Proofs.YtnnlkolhahjokaaGreatDoor
open Go.RowKit Go.Extern.Stop Go.Stop Go.Extern Go.Maps Go.WideMaps Go.Sort

set_option maxRecDepth 20000 in
set_option maxHeartbeats 2000000 in
theorem ktouch_force {a : Nat → Addr} {cs : List (List Ins)} {p : MkPl} {m : Mk} {K t : Nat} {w : World} (D : DoX a cs p m K t w) (L : List Ins) (x : Ins) (e : x.op = ⟨#[102, 111, 114, 99, 101]⟩) :
    Calls Tryz.prog 72 #[.pointer (some ⟨p.b, 0, none⟩), .int .i64 t, .agg #[.string x.op, .int .i64 x.a, .int .i64 x.b, .int .i64 x.c, .string x.to]] w fun e w' => e = .returned (.tuple #[]) ∧ MkStep a cs p w p.mv (m.exec L t x) w' := by
  rw [exec_force m L t e]
  obtain ⟨xo, xa, xb, xc, xt⟩ := x
  dsimp only at e ⊢
  subst e
  have t6 := D.t6
  have t6i : (t : Int) < 6 := by omega
  have hba : Below w.heap.size w (w.alloc (.cells #[.string ⟨#[102, 111, 114, 99, 101]⟩, .int .i64 xa, .int .i64 xb, .int .i64 xc, .string xt] 44)) := (Below.refl _ _).alloc (Nat.le_refl _) _
  have q0 : (w.alloc (.cells #[.string ⟨#[102, 111, 114, 99, 101]⟩, .int .i64 xa, .int .i64 xb, .int .i64 xc, .string xt] 44)).cell? ⟨w.heap.size, 0, none⟩ = some (.string ⟨#[102, 111, 114, 99, 101]⟩) := by simp
  have D1 := D.below hba
  have hp := D1.at'.prog
  have h6 := D1.at'.few
  have hthr := D.ok.thr
  have hK := D.hK
  rw [hthr]
  have HI : Hid (∃ mj, MkStep a cs p w p.mv mj (w.alloc (.cells #[.string ⟨#[102, 111, 114, 99, 101]⟩, .int .i64 xa, .int .i64 xb, .int .i64 xc, .string xt] 44)) ∧ MkIn cs.length K (64 * K + 8 * 0) mj ∧ mj.fenceFrom 0 (cs.length - 0) = m.fenceFrom 0 cs.length) := ⟨m, MkStep.of_below' D.at' hba, D.ok.in, rfl⟩
  generalize m.fenceFrom 0 cs.length = R at *
  clear D D1 hba hthr
  generalize hw : w.alloc (.cells #[.string ⟨#[102, 111, 114, 99, 101]⟩, .int .i64 xa, .int .i64 xb, .int .i64 xc, .string xt] 44) = w1 at *
  go_enter Tryz.func72, Tryz.ntmps72
  go_wp2_with fail
  clear hw
  go_loopw [7, 141] (fun _ i wr => ∃ j : Nat, j ≤ cs.length ∧ i = .int .i64 j ∧ ∃ mj, MkStep a cs p w p.mv mj wr ∧ MkIn cs.length K (64 * K + 8 * j) mj ∧ mj.fenceFrom j (cs.length - j) = R) (fun _ i _ => cs.length - (intOf i).toNat)
  case atStart => exact ⟨0, Nat.zero_le _, rfl, HI.out⟩
  case round =>
    clear HI
    obtain ⟨j, hj, rfl, mj, h1, h2, h3⟩ := hrel
    have H1 := hide h1
    clear h1
    by_cases hlt : j < cs.length
    · have ji : (j : Int) < cs.length := by omega
      have hth : mj.mem.threads = cs.length := h2.thr
      have HF := hide (kfence_any hlt H1.out.at' (h2.mem.ok j (by rw [hth]; exact hlt)) (by have := h2.faults; omega))
      have HN : Hid (∀ w2, MkStep a cs (p.marked p.mv) wr p.mv (mj.fence j) w2 → ∃ m2, MkStep a cs p w p.mv m2 w2 ∧ MkIn cs.length K (64 * K + 8 * (j + 1)) m2 ∧ m2.fenceFrom (j + 1) (cs.length - (j + 1)) = R) := fun w2 k =>
        ⟨mj.fence j, H1.out.trans k, (h2.fence hlt).mono (Nat.le_refl _) (by omega), by
          rw [show cs.length - j = cs.length - (j + 1) + 1 by omega] at h3
          exact h3⟩
      clear h2 h3 H1
      go_wp2_with fail
      refine HF.out.mono ?_
      rintro e w2 ⟨rfl, k2⟩
      have HR := hide (HN.out _ k2)
      clear HF HN k2
      go_wp2_with fail
      go_roundw
      case rel => exact ⟨j + 1, by omega, by go_num, HR.out⟩
      case measure => simp [intOf]; omega
    · obtain rfl : j = cs.length := by omega
      have HD : Hid (mj = R) := by rw [Nat.sub_self] at h3; exact h3
      clear h2 h3
      go_wp2
      go_end0
      exact ⟨rfl, by rw [← HD.out]; exact H1.out⟩

theorem ktouch_none {a : Nat → Addr} {cs : List (List Ins)} {p : MkPl} {m : Mk} {K t : Nat} {w : World} (D : DoX a cs p m K t w) (x : Ins) (e : x.op = ⟨#[115, 116, 111, 112]⟩ ∨ x.op = ⟨#[108, 97, 98, 101, 108]⟩) :
    Calls Tryz.prog 72 #[.pointer (some ⟨p.b, 0, none⟩), .int .i64 t, .agg #[.string x.op, .int .i64 x.a, .int .i64 x.b, .int .i64 x.c, .string x.to]] w fun e w' => e = .returned (.tuple #[]) ∧ MkStep a cs p w p.mv m w' := by
  obtain ⟨xo, xa, xb, xc, xt⟩ := x
  dsimp only at e ⊢
  have t6 := D.t6
  have t6i : (t : Int) < 6 := by omega
  rcases e with rfl | rfl
  · have HS := hide (MkStep.of_below' D.at' ((Below.refl _ _).alloc (Nat.le_refl _) (.cells #[.string ⟨#[115, 116, 111, 112]⟩, .int .i64 xa, .int .i64 xb, .int .i64 xc, .string xt] 44)))
    clear D
    go_enter Tryz.func72, Tryz.ntmps72
    go_wp2
    go_end0
    exact ⟨rfl, HS.out⟩
  · have HS := hide (MkStep.of_below' D.at' ((Below.refl _ _).alloc (Nat.le_refl _) (.cells #[.string ⟨#[108, 97, 98, 101, 108]⟩, .int .i64 xa, .int .i64 xb, .int .i64 xc, .string xt] 44)))
    clear D
    go_enter Tryz.func72, Tryz.ntmps72
    go_wp2
    go_end0
    exact ⟨rfl, HS.out⟩

theorem kdo_any {a : Nat → Addr} {cs : List (List Ins)} {p : MkPl} {m : Mk} {K t : Nat} {w : World} (D : DoX a cs p m K t w) {L : List Ins} (ht : cs[t]? = some L) {x : Ins} (hx : InsOk L x) (hs : x.to.size ≤ maxLen) :
    Calls Tryz.prog 49 #[.pointer (some ⟨p.b, 0, none⟩), .int .i64 t, .agg #[.string x.op, .int .i64 x.a, .int .i64 x.b, .int .i64 x.c, .string x.to]] w fun e w' => e = .returned (.tuple #[]) ∧ ∃ v, MkStep a cs p w v (m.exec L t x) w' := by
  rcases kinds hx with ⟨e, ⟨i0, l0, g0⟩, -⟩ | ⟨e, ⟨i0, l0, g0⟩, ⟨i1, l1, g1⟩⟩ | ⟨e, ⟨i0, l0, g0⟩, ⟨i1, l1, g1⟩, ⟨i2, l2, g2⟩⟩ | ⟨e, ⟨i0, l0, g0⟩, ⟨i1, l1, g1⟩, ⟨i2, l2, g2⟩⟩ | ⟨e, ⟨i0, l0, g0⟩, ⟨i1, l1, g1⟩, ⟨i2, l2, g2⟩⟩ | ⟨e, ⟨i0, l0, g0⟩, ⟨i1, l1, g1⟩, ⟨i2, l2, g2⟩⟩ | ⟨e, ⟨i0, l0, g0⟩, ⟨i1, l1, g1⟩, ⟨i2, l2, g2⟩⟩ | ⟨e, ⟨i0, l0, g0⟩, ⟨i1, l1, g1⟩, ⟨i2, l2, g2⟩⟩ | ⟨e, ⟨i0, l0, g0⟩, ⟨i1, l1, g1⟩, ⟨i2, l2, g2⟩⟩ | ⟨e, ⟨i0, l0, g0⟩, ⟨i1, l1, g1⟩, ⟨i2, l2, g2⟩⟩ | ⟨e, ⟨i0, l0, g0⟩⟩ | ⟨e, ⟨i0, l0, g0⟩⟩ | ⟨e, ⟨i0, l0, g0⟩⟩ | ⟨e, ⟨i0, l0, g0⟩⟩ | e | e | e | ⟨e, ⟨i0, l0, g0⟩, ⟨L', hi⟩⟩ | ⟨e, ⟨i0, l0, g0⟩, ⟨i1, l1, g1⟩, ⟨L', hi⟩⟩ | ⟨e, ⟨L', hi⟩⟩ | ⟨e, ⟨L', hi⟩⟩
  · exact kdo_const D L x e l0 g0
  · exact kdo_move D L x e l0 g0 l1 g1
  · exact kdo_add D L x e l0 g0 l1 g1 l2 g2
  · exact kdo_sub D L x e l0 g0 l1 g1 l2 g2
  · exact kdo_and D L x e l0 g0 l1 g1 l2 g2
  · exact kdo_xor D L x e l0 g0 l1 g1 l2 g2
  · exact kdo_load x e _ (fun w' hb => ktouch_load (D.below hb) L x e l0 g0 l1 g1 l2 g2) D.t6
  · exact kdo_store x e _ (fun w' hb => ktouch_store (D.below hb) L x e l0 g0 l1 g1 l2 g2) D.t6
  · exact kdo_swap x e _ (fun w' hb => ktouch_swap (D.below hb) L x e l0 g0 l1 g1 l2 g2) D.t6
  · exact kdo_cas x e _ (fun w' hb => ktouch_cas (D.below hb) L x e l0 g0 l1 g1 l2 g2) D.t6
  · exact kdo_alloc x e _ (fun w' hb => ktouch_alloc (D.below hb) L x e l0 g0) D.t6
  · exact kdo_free x e _ (fun w' hb => ktouch_free (D.below hb) L x e l0 g0) D.t6
  · exact kdo_mark D L x e l0 g0
  · exact kdo_need D L x e l0 g0
  · exact kdo_fence x e _ (fun w' hb => ktouch_fence (D.below hb) L x e ) D.t6
  · exact kdo_force x e _ (fun w' hb => ktouch_force (D.below hb) L x e ) D.t6
  · rw [exec_stop m L t e]; exact kdo_stop x e m (fun w' hb => ktouch_none (D.below hb) x (.inl e)) D.t6
  · exact kdo_zero D L x e l0 g0 ht hs hi
  · exact kdo_same D L x e l0 g0 l1 g1 ht hs hi
  · exact kdo_goto D L x e  ht hs hi
  · rw [exec_label m L t e]; exact kdo_label x e m (fun w' hb => ktouch_none (D.below hb) x (.inr e)) D.t6
end Go.Proofs.YtnnlkolhahjokaaGreatDoor

/- MkW -/
namespace Go.Proofs.YtnnlkolhahjokaaGreatDoor
open Go.RowKit Go.Extern.Stop Go.Stop Go.Extern Go.Maps Go.WideMaps Go.Sort

abbrev insZ : Array Value := #[.string ⟨#[]⟩, .int .i64 0, .int .i64 0, .int .i64 0, .string ⟨#[]⟩]

theorem setFive {w : World} {b : Nat} {W : World} (hB : Below b W w) (hW : b = W.heap.size) (v0 v1 v2 v3 v4 : Value) : Below b W (((((w.setCell ⟨b, 0, none⟩ v0).setCell ⟨b, 1, none⟩ v1).setCell ⟨b, 2, none⟩ v2).setCell ⟨b, 3, none⟩ v3).setCell ⟨b, 4, none⟩ v4) := by
  subst hW
  exact ((((hB.setCell (Nat.le_refl _) _).setCell (Nat.le_refl _) _).setCell (Nat.le_refl _) _).setCell (Nat.le_refl _) _).setCell (Nat.le_refl _) _

set_option maxRecDepth 20000 in
set_option maxHeartbeats 1000000 in
theorem next_no {a : Nat → Addr} {cs : List (List Ins)} {p : MkPl} {m : Mk} {t : Nat} {L : List Ins} (ht : cs[t]? = some L) (hd : doneAt L (m.pc t) = true) {w : World} (h : MkAt a cs p m w) :
    Calls Tryz.prog 48 #[.pointer (some ⟨p.b, 0, none⟩), .int .i64 t] w fun e w' => e = .returned (.tuple #[.agg insZ, .bool false]) ∧ Below w.heap.size w w' := by
  have hlt := lt_of_some ht
  have h6 := h.few
  obtain ⟨ad, cap, lb, hc, hcc, -, hins, -⟩ := h.pg.pg.code t L ht
  have hcap := h.pg.pg.cap
  have ti : (t : Int) < cs.length := by omega
  have t6 : (t : Int) < 6 := by omega
  have h1 := h.alloc (.cells insZ 44)
  have hba : Below w.heap.size w (w.alloc (.cells insZ 44)) := (Below.refl _ _).alloc (Nat.le_refl _) _
  have hp := h1.prog
  have hpc := h1.pc t (by omega)
  replace hc := keep_cell hba hc
  have hin1 := insAt_below hins hba
  have z0 : (w.alloc (.cells insZ 44)).cell? ⟨w.heap.size, 0, none⟩ = some (.string ⟨#[]⟩) := by simp
  have z1 : (w.alloc (.cells insZ 44)).cell? ⟨w.heap.size, 1, none⟩ = some (.int .i64 0) := by simp
  have z2 : (w.alloc (.cells insZ 44)).cell? ⟨w.heap.size, 2, none⟩ = some (.int .i64 0) := by simp
  have z3 : (w.alloc (.cells insZ 44)).cell? ⟨w.heap.size, 3, none⟩ = some (.int .i64 0) := by simp
  have z4 : (w.alloc (.cells insZ 44)).cell? ⟨w.heap.size, 4, none⟩ = some (.string ⟨#[]⟩) := by simp
  have y0 : (w.alloc (.cells insZ 44)).frozen? ⟨w.heap.size, 0, none⟩ = false := by simp
  have y1 : (w.alloc (.cells insZ 44)).frozen? ⟨w.heap.size, 1, none⟩ = false := by simp
  have y2 : (w.alloc (.cells insZ 44)).frozen? ⟨w.heap.size, 2, none⟩ = false := by simp
  have y3 : (w.alloc (.cells insZ 44)).frozen? ⟨w.heap.size, 3, none⟩ = false := by simp
  have y4 : (w.alloc (.cells insZ 44)).frozen? ⟨w.heap.size, 4, none⟩ = false := by simp
  generalize hPC : m.pc t = pc at *
  clear h h1 hPC hins
  by_cases hle : L.length ≤ pc
  · have hd1 : decide ((L.length : Int) ≤ pc) = true := by simp; omega
    have hle' : (L.length : Int) ≤ pc := by omega
    clear hin1 hd ht
    generalize hw : w.alloc (.cells insZ 44) = w1 at *
    go_enter Tryz.func48, Tryz.ntmps48
    go_wp2_with fail
    clear hw
    go_quiet (fail)
    go_wp2
    refine bodyPost_ret (v := .tuple #[.agg insZ, .bool false]) (by simp only [results, Tryz.results48]; go_simp) rfl ⟨rfl, ?_⟩
    exact setFive (below_dN hba nq) rfl _ _ _ _ _
  · obtain ⟨x, hx⟩ : ∃ x, L[pc]? = some x := ⟨_, List.getElem?_eq_getElem (by omega)⟩
    obtain ⟨b, off, rfl, a0, -, -, -, -⟩ := hin1 pc x hx
    have hst : (x.op.toList == [115, 116, 111, 112]) = true := by
      unfold doneAt at hd
      rw [hx] at hd
      exact hd
    have hd1 : decide ((L.length : Int) ≤ pc) = false := by simp; omega
    have hle' : ¬ (L.length : Int) ≤ pc := by omega
    have pi : (pc : Int) < L.length := by omega
    clear hin1 hd ht hx
    generalize hw : w.alloc (.cells insZ 44) = w1 at *
    go_enter Tryz.func48, Tryz.ntmps48
    go_wp2_with fail
    clear hw
    go_quiet (fail)
    go_wp2
    refine bodyPost_ret (v := .tuple #[.agg insZ, .bool false]) (by simp only [results, Tryz.results48]; go_simp) rfl ⟨rfl, ?_⟩
    exact setFive (below_dN hba nq) rfl _ _ _ _ _

set_option maxRecDepth 20000 in
set_option maxHeartbeats 1000000 in
theorem next_yes {a : Nat → Addr} {cs : List (List Ins)} {p : MkPl} {m : Mk} {t : Nat} {L : List Ins} {x : Ins} (ht : cs[t]? = some L) (hx : L[m.pc t]? = some x) (hst : (x.op.toList == [115, 116, 111, 112]) = false) {w : World} (h : MkAt a cs p m w) :
    Calls Tryz.prog 48 #[.pointer (some ⟨p.b, 0, none⟩), .int .i64 t] w fun e w' => e = .returned (.tuple #[.agg #[.string x.op, .int .i64 x.a, .int .i64 x.b, .int .i64 x.c, .string x.to], .bool true]) ∧ Below w.heap.size w w' := by
  have hlt := lt_of_some ht
  have h6 := h.few
  obtain ⟨ad, cap, lb, hc, hcc, -, hins, -⟩ := h.pg.pg.code t L ht
  have hcap := h.pg.pg.cap
  have ti : (t : Int) < cs.length := by omega
  have t6 : (t : Int) < 6 := by omega
  have hpl := lt_of_some hx
  have h1 := h.alloc (.cells insZ 44)
  have hba : Below w.heap.size w (w.alloc (.cells insZ 44)) := (Below.refl _ _).alloc (Nat.le_refl _) _
  have hp := h1.prog
  have hpc := h1.pc t (by omega)
  replace hc := keep_cell hba hc
  obtain ⟨b', off', e', c0, -⟩ := hins (m.pc t) x hx
  have hlb' : b' < w.heap.size := World.block_lt_of_cell? _ _ c0
  obtain ⟨b, off, rfl, a0, a1, a2, a3, a4⟩ := insAt_below hins hba (m.pc t) x hx
  have hlb : b < w.heap.size := by cases e'; exact hlb'
  clear e' c0 hlb'
  have z0 : (w.alloc (.cells insZ 44)).cell? ⟨w.heap.size, 0, none⟩ = some (.string ⟨#[]⟩) := by simp
  have z1 : (w.alloc (.cells insZ 44)).cell? ⟨w.heap.size, 1, none⟩ = some (.int .i64 0) := by simp
  have z2 : (w.alloc (.cells insZ 44)).cell? ⟨w.heap.size, 2, none⟩ = some (.int .i64 0) := by simp
  have z3 : (w.alloc (.cells insZ 44)).cell? ⟨w.heap.size, 3, none⟩ = some (.int .i64 0) := by simp
  have z4 : (w.alloc (.cells insZ 44)).cell? ⟨w.heap.size, 4, none⟩ = some (.string ⟨#[]⟩) := by simp
  have y0 : (w.alloc (.cells insZ 44)).frozen? ⟨w.heap.size, 0, none⟩ = false := by simp
  have y1 : (w.alloc (.cells insZ 44)).frozen? ⟨w.heap.size, 1, none⟩ = false := by simp
  have y2 : (w.alloc (.cells insZ 44)).frozen? ⟨w.heap.size, 2, none⟩ = false := by simp
  have y3 : (w.alloc (.cells insZ 44)).frozen? ⟨w.heap.size, 3, none⟩ = false := by simp
  have y4 : (w.alloc (.cells insZ 44)).frozen? ⟨w.heap.size, 4, none⟩ = false := by simp
  generalize hPC : m.pc t = pc at *
  clear h h1 hPC hins
  have hd1 : decide ((L.length : Int) ≤ pc) = false := by simp; omega
  have hle' : ¬ (L.length : Int) ≤ pc := by omega
  have pi : (pc : Int) < L.length := by omega
  clear ht hx
  generalize hw : w.alloc (.cells insZ 44) = w1 at *
  go_enter Tryz.func48, Tryz.ntmps48
  go_wp2_with fail
  clear hw
  go_quiet (fail)
  go_wp2
  refine bodyPost_ret (v := .tuple #[.agg #[.string x.op, .int .i64 x.a, .int .i64 x.b, .int .i64 x.c, .string x.to], .bool true]) (by simp only [results, Tryz.results48]; go_simp) rfl ⟨rfl, ?_⟩
  exact setFive (below_dN hba nq) rfl _ _ _ _ _

theorem kdone_any {a : Nat → Addr} {cs : List (List Ins)} {p : MkPl} {m : Mk} {t : Nat} {L : List Ins} (ht : cs[t]? = some L) {w : World} (h : MkAt a cs p m w) :
    Calls Tryz.prog 35 #[.pointer (some ⟨p.b, 0, none⟩), .int .i64 t] w fun e w' => e = .returned (.bool (doneAt L (m.pc t))) ∧ Below w.heap.size w w' := by
  have HH := hide (khas_yes (lt_of_some ht) h)
  cases hd : doneAt L (m.pc t)
  · obtain ⟨x, hx, hst⟩ : ∃ x, L[m.pc t]? = some x ∧ (x.op.toList == [115, 116, 111, 112]) = false := by
      unfold doneAt at hd
      cases hx : L[m.pc t]? with
      | none => rw [hx] at hd; cases hd
      | some x => rw [hx] at hd; exact ⟨x, rfl, hd⟩
    have HN := hide (next_yes ht hx hst h)
    clear h hd hx hst ht
    go_enter Tryz.func35, Tryz.ntmps35
    go_wp2_with fail
    refine HH.out.mono ?_
    rintro e w1 ⟨rfl, rfl⟩
    clear HH
    go_wp2_with fail
    refine HN.out.mono ?_
    rintro e w2 ⟨rfl, hb2⟩
    go_wp2
    go_ret
    exact ⟨rfl, by first | exact hb2 | exact hb2.alloc hb2.size _⟩
  · have HN := hide (next_no ht hd h)
    clear h hd ht
    go_enter Tryz.func35, Tryz.ntmps35
    go_wp2_with fail
    refine HH.out.mono ?_
    rintro e w1 ⟨rfl, rfl⟩
    clear HH
    go_wp2_with fail
    refine HN.out.mono ?_
    rintro e w2 ⟨rfl, hb2⟩
    go_wp2
    go_ret
    exact ⟨rfl, by first | exact hb2 | exact hb2.alloc hb2.size _⟩

end Go.Proofs.YtnnlkolhahjokaaGreatDoor
