import Derived.Deep.RegionHeld3
import Derived.StillTail
import Derived.Tactics
import Derived.Test.YtnnlkolhahjokaaGreatDoorA21

/- RegF -/
namespace Go.Proofs.YtnnlkolhahjokaaGreatDoor
open Go

section
variable {P : Program} {ops : Array Oper} {Q : Exit → Act → World → Prop} {md : Region.Mode} {S : World → Prop}

def allL (l : Array Bool) : Bool := l.toList.all fun b => b
theorem allL_get {l : Array Bool} (h : allL l = true) (k : Nat) : l.getD k true = true := by
  rcases Nat.lt_or_ge k l.size with h' | h'
  · have := List.all_eq_true.1 h (l[k]) (by simp)
    simp only [Array.getD_eq_getD_getElem?, Array.getElem?_eq_getElem h', Option.getD_some]
    exact this
  · simp [Array.getElem?_eq_none h']

def shutB (md : Region.Mode) (ops : Array Oper) (listed : Array Bool) : Bool :=
  (List.range ops.size).all fun k => (List.range ops.size).all fun i => !(Region.waitsFor md ops k i) || !(listed.getD k true) || listed.getD i false
structure ShutL (md : Region.Mode) (ops : Array Oper) (listed : Array Bool) : Prop where
  out : ∀ k i, k < ops.size → i < ops.size → Region.waitsFor md ops k i = true → listed.getD k true = true → listed.getD i false = true
theorem shutB_out {listed : Array Bool} (h : shutB md ops listed = true) : ShutL md ops listed := ⟨fun k i hk hi hw hl => by
  have := List.all_eq_true.1 (List.all_eq_true.1 h k (List.mem_range.2 hk)) i (List.mem_range.2 hi)
  rw [hw, hl] at this
  simpa using this⟩
theorem getD_set_self {listed : Array Bool} {j k : Nat} (h : (listed.setIfInBounds j true).getD k true = true) (hne : j ≠ k) : listed.getD k true = true := by
  rwa [getD_set_ne true hne] at h
theorem ShutL.set {listed : Array Bool} {j : Nat} (h : ShutL md ops listed) (hj : j ∈ Region.ready md ops listed) : ShutL md ops (listed.setIfInBounds j true) := ⟨fun k i hk hi hw hl => by
  by_cases e : j = k
  · subst e
    obtain ⟨-, o, ho, hall⟩ := mem_ready.1 hj
    obtain ⟨o', ho', e, he, hb, hon⟩ := Region.waitsFor_spec hw
    obtain rfl : o' = o := Option.some.inj (ho'.symm.trans ho)
    have := hall e he hb
    rw [hon] at this
    exact getD_set_true this
  · exact getD_set_true (h.out k i hk hi hw (getD_set_self hl e))⟩

def wpAnyF (P : Program) (md : Region.Mode) (ops : Array Oper) (Q : Exit → Act → World → Prop) (S : World → Prop) : Nat → Array Bool → Act → World → Prop
  | 0, listed, a, w => Region.ready md ops listed = [] ∧ Q .normal a w
  | fuel + 1, listed, a, w =>
    (Region.ready md ops listed = [] → Q .normal a w) ∧
    ∀ i ∈ Region.ready md ops listed, wpOp P ops Q i (fun a' w' => (allL (listed.setIfInBounds i true) = true ∨ S w') ∧ wpAnyF P md ops Q S fuel (listed.setIfInBounds i true) a' w') a w

theorem wpAny_of_F : ∀ (fuel : Nat) (listed : Array Bool) (a : Act) (w : World), wpAnyF P md ops Q S fuel listed a w → wpAny P md ops Q fuel listed a w
  | 0, _, _, _, h => h
  | fuel + 1, _, _, _, h => ⟨h.1, fun i hi => wpOp_mono (fun a' w' h' => wpAny_of_F fuel _ a' w' h'.2) (h.2 i hi)⟩

theorem wpAnyF_first {i n : Nat} {oi : Oper} {v : Value} (hi : ops[i]? = some oi) (hsel : ∀ (j : Nat) (o : Oper) cs b, ops[j]? = some o → o.op ≠ .select cs b)
    (hQ : ∀ c a w, Q (.panic c) (a.put oi.dst v) w → Q (.panic c) a w) (hs : Region.sinkB md ops n = true) (hin : i < n) (hn : n < ops.size) :
    ∀ (fuel : Nat) (listed : Array Bool) (a : Act) (w : World), ShutL md ops listed → listed.size = ops.size →
      (∀ j oj, ops[j]? = some oj → j ≠ i → listed.getD j true = false → (∀ e ∈ oj.after, Region.binds md e = true → e.on ≠ i) → oi.apart ops oj = true) →
      i ∈ Region.ready md ops listed → YieldsIf P ops S oi v a → S w →
      wpAnyF P md ops Q S fuel (listed.setIfInBounds i true) (a.put oi.dst v) w → wpAnyF P md ops Q S (fuel + 1) listed a w := by
  intro fuel
  induction fuel with
  | zero =>
    intro listed a w _ _ _ hr hy hS H
    refine ⟨fun h => (by rw [h] at hr; cases hr), fun j hj => ?_⟩
    by_cases hji : j = i
    · subst hji; exact hy.wpOp hi hS ⟨.inr hS, H⟩
    · have := ready_mono hj hji
      rw [H.1] at this
      cases this
  | succ fuel ih =>
    intro listed a w hsh hsz hfree hr hy hS H
    refine ⟨fun h => (by rw [h] at hr; cases hr), fun j hj => ?_⟩
    by_cases hji : j = i
    · subst hji; exact hy.wpOp hi hS ⟨.inr hS, H⟩
    · have h1 := H.2 j (ready_mono hj hji)
      obtain ⟨hjun, oj, hoj, hall⟩ := mem_ready.1 hj
      have hiun := (mem_ready.1 hr).1
      have hiun' : listed.getD i false = false := getD_both hiun
      have hnot : ∀ e ∈ oj.after, Region.binds md e = true → e.on ≠ i := fun e he hb heq => by
        have h1 := hall e he hb
        rw [heq, hiun'] at h1
        cases h1
      have h2 := wpOp_putIf hoj (hfree j oj hoj hji hjun hnot) (fun cs b => hsel i oi cs b hi) (fun cs b => hsel j oj cs b hoj) hQ hy h1
      have hfree' : ∀ k ok, ops[k]? = some ok → k ≠ i → (listed.setIfInBounds j true).getD k true = false →
          (∀ e ∈ ok.after, Region.binds md e = true → e.on ≠ i) → oi.apart ops ok = true := fun k ok hk hki hun hno => by
        refine hfree k ok hk hki ?_ hno
        by_cases hjk : j = k
        · subst hjk; exact hjun
        · rw [getD_set_ne true hjk] at hun; exact hun
      have hri : i ∈ Region.ready md ops (listed.setIfInBounds j true) := ready_mono hr (Ne.symm hji)
      -- somebody waits for i: so j is not the last one
      have hlast : allL ((listed.setIfInBounds i true).setIfInBounds j true) = true → False := fun hall' => by
        have h3 := List.all_eq_true.1 hs i (List.mem_range.2 hin)
        obtain ⟨k, hk, hk2⟩ := List.any_eq_true.1 h3
        simp only [Bool.and_eq_true, decide_eq_true_eq] at hk2
        have hkn : k < ops.size := by have := List.mem_range.1 hk; omega
        have hin' : i < ops.size := by omega
        have hjk : j ≠ k := fun e => by
          subst e
          obtain ⟨o', ho', e, he, hb, hon⟩ := Region.waitsFor_spec hk2.2
          obtain rfl : o' = oj := Option.some.inj (ho'.symm.trans hoj)
          exact hnot e he hb hon
        have hik : i ≠ k := by omega
        have h4 := allL_get hall' k
        rw [getD_set_ne true hjk, getD_set_ne true hik] at h4
        have h5 := hsh.out k i hkn hin' hk2.2 h4
        rw [hiun'] at h5
        cases h5
      refine wpOp_mono (fun a' w' h3 => ?_) h2
      have hS' : S w' := h3.2.1.resolve_left (fun e => hlast e)
      refine ⟨.inr hS', ih (listed.setIfInBounds j true) a' w' (hsh.set hj) (by simp [hsz]) hfree' hri h3.1 hS' ?_⟩
      rw [Array.setIfInBounds_comm _ _ hji]
      exact h3.2.2

theorem wpAnyF_take {i n : Nat} {oi : Oper} {v : Value} {fuel : Nat} {listed : Array Bool} {a : Act} {w : World} (hi : ops[i]? = some oi)
    (hB : (Region.noSelect ops && Region.free md ops listed i && (Region.ready md ops listed).contains i && Region.sinkB md ops n && decide (i < n) && decide (n < ops.size) && shutB md ops listed && decide (listed.size = ops.size)) = true)
    (hQ : ∀ c a w, Q (.panic c) (a.put oi.dst v) w → Q (.panic c) a w) (hS : S w) (hy : YieldsIf P ops S oi v a)
    (h : wpAnyF P md ops Q S fuel (listed.setIfInBounds i true) (a.put oi.dst v) w) : wpAnyF P md ops Q S (fuel + 1) listed a w := by
  simp only [Bool.and_eq_true, decide_eq_true_eq] at hB
  obtain ⟨⟨⟨⟨⟨⟨⟨hs, hf⟩, hr⟩, hk⟩, hin⟩, hn⟩, hsh⟩, hsz⟩ := hB
  exact wpAnyF_first hi (Region.noSelect_spec hs) hQ hk hin hn fuel listed a w (shutB_out hsh) hsz (Region.free_spec hi hf) (by simpa using hr) hy hS h

theorem wpAnyF_only {i : Nat} {o : Oper} {fuel : Nat} {listed : Array Bool} {a : Act} {w : World} (ho : ops[i]? = some o) (hr : Region.ready md ops listed = [i])
    (h : ∀ K' : Act → World → Prop, Shut (∀ a w, (allL (listed.setIfInBounds i true) = true ∨ S w) → wpAnyF P md ops Q S fuel (listed.setIfInBounds i true) a w → K' a w) → if Region.wanted o (yielded ops a.tmps) = true then Oper.wp P o a w K' Q else K' (a.put o.dst undef) w) : wpAnyF P md ops Q S (fuel + 1) listed a w := by
  refine ⟨fun h0 => (by rw [hr] at h0; cases h0), fun j hj => ?_⟩
  rw [hr] at hj
  obtain rfl : j = i := by simpa using hj
  exact wpOp_step ho (fun K' hK => h K' (fun a w hS hW => hK a w ⟨hS, hW⟩))

theorem wpAnyF_done {listed : Array Bool} {a : Act} {w : World} (hr : Region.ready md ops listed = []) (h : Q .normal a w) :
    ∀ fuel, wpAnyF P md ops Q S fuel listed a w
  | 0 => ⟨hr, h⟩
  | _ + 1 => ⟨fun _ => h, by rw [hr]; simp⟩

theorem wp_region_F {id : Nat} {a : Act} {w : World} (hm : P.follows .mixedOrders = true) (hS : S w.drew)
    (h : S w.drew → wpAnyF P .any ops Q S ops.size (Array.replicate ops.size false) a w.drew) : (Code.region id ops true).wp P Q a w :=
  wp_region_any hm (wpAny_of_F _ _ _ _ (h hS))
end
end Go.Proofs.YtnnlkolhahjokaaGreatDoor

/- MkT -/
namespace Go.Proofs.YtnnlkolhahjokaaGreatDoor
open Go.RowKit Go.Extern.Stop Go.Stop Go.Extern Go.Maps Go.WideMaps Go.Sort

set_option maxRecDepth 20000 in
set_option maxHeartbeats 2000000 in
theorem ktouch_load {a : Nat → Addr} {cs : List (List Ins)} {p : MkPl} {m : Mk} {K t : Nat} {w : World} (D : DoX a cs p m K t w) (L : List Ins) (x : Ins) (e : x.op = ⟨#[108, 111, 97, 100]⟩) {i : Nat} (hi : i < 8) (ei : x.a = i) {j : Nat} (hj : j < 8) (ej : x.b = j) {k : Nat} (hk : k < 4) (ek : x.c = k) :
    Calls Tryz.prog 72 #[.pointer (some ⟨p.b, 0, none⟩), .int .i64 t, .agg #[.string x.op, .int .i64 x.a, .int .i64 x.b, .int .i64 x.c, .string x.to]] w fun e w' => e = .returned (.tuple #[]) ∧ MkStep a cs p w p.mv (m.exec L t x) w' := by
  rw [exec_load m L t e]
  rw [ei]
  rw [ej]
  rw [ek]
  simp only [Int.toNat_natCast]
  rw [Mk.load_eq]
  obtain ⟨xo, xa, xb, xc, xt⟩ := x
  dsimp only at e ei ej ek ⊢
  subst e ei ej ek
  have t6 := D.t6
  have t6i : (t : Int) < 6 := by omega
  have hba : Below w.heap.size w (w.alloc (.cells #[.string ⟨#[108, 111, 97, 100]⟩, .int .i64 i, .int .i64 j, .int .i64 k, .string xt] 44)) := (Below.refl _ _).alloc (Nat.le_refl _) _
  have q0 : (w.alloc (.cells #[.string ⟨#[108, 111, 97, 100]⟩, .int .i64 i, .int .i64 j, .int .i64 k, .string xt] 44)).cell? ⟨w.heap.size, 0, none⟩ = some (.string ⟨#[108, 111, 97, 100]⟩) := by simp
  have q1 : (w.alloc (.cells #[.string ⟨#[108, 111, 97, 100]⟩, .int .i64 i, .int .i64 j, .int .i64 k, .string xt] 44)).cell? ⟨w.heap.size, 1, none⟩ = some (.int .i64 i) := by simp
  have q2 : (w.alloc (.cells #[.string ⟨#[108, 111, 97, 100]⟩, .int .i64 i, .int .i64 j, .int .i64 k, .string xt] 44)).cell? ⟨w.heap.size, 2, none⟩ = some (.int .i64 j) := by simp
  have q3 : (w.alloc (.cells #[.string ⟨#[108, 111, 97, 100]⟩, .int .i64 i, .int .i64 j, .int .i64 k, .string xt] 44)).cell? ⟨w.heap.size, 3, none⟩ = some (.int .i64 k) := by simp
  have D1 := D.below hba
  have hlw := D.at'.lt
  have gi := D1.at'.reg t i t6 (by omega)
  have gj := D1.at'.reg t j t6 (by omega)
  have li : (i : Int) < 8 := by omega
  have lj : (j : Int) < 8 := by omega
  have lk : (k : Int) < 4 := by omega
  generalize hw : w.alloc (.cells #[.string ⟨#[108, 111, 97, 100]⟩, .int .i64 i, .int .i64 j, .int .i64 k, .string xt] 44) = w1 at *
  have HL : Hid (Calls Tryz.prog 83 #[.pointer (some ⟨p.b, 0, none⟩), .int .i64 t, .int .i64 (m.regs t j), .int .i64 k] (w1.drewN 1) fun e w'' => e = .returned (.int .i64 (m.loadV t (m.regs t j) k)) ∧ (w''.cell? ⟨w.heap.size, 1, none⟩ = some (.int .i64 i) ∧ w''.cell? ⟨w.heap.size, 2, none⟩ = some (.int .i64 j) ∧ w''.cell? ⟨w.heap.size, 3, none⟩ = some (.int .i64 k) ∧ w''.cell? ⟨p.b, 585 + t * 9 + i, none⟩ = some (.int .i64 (m.regs t i)) ∧ w''.cell? ⟨p.b, 585 + t * 9 + j, none⟩ = some (.int .i64 (m.regs t j))) ∧ w''.frozen? ⟨p.b, 585 + t * 9 + i, none⟩ = false ∧ Hid (MkStep a cs p w p.mv (m.loadM (m.regs t j)) w'')) :=
    (kload_any (D1.at'.drewN 1) D.ht D.faults (D.ok.regs _ _) hk).mono fun e w'' ⟨e1, e2⟩ => by
      have keepB : ∀ {o : Nat} {u : Value}, w1.cell? ⟨w.heap.size, o, none⟩ = some u → w''.cell? ⟨w.heap.size, o, none⟩ = some u := fun hc => e2.keep (w := w1.drewN 1) hc (fun e => by have := D.at'.fp_lt e; omega)
      have keepR : ∀ r, r < 8 → w''.cell? ⟨p.b, 585 + t * 9 + r, none⟩ = some (.int .i64 (m.regs t r)) := fun r hr => by have := e2.at'.reg t r t6 hr; rw [Mk.loadM_regs] at this; exact this
      exact ⟨e1, ⟨keepB q1, keepB q2, keepB q3, keepR i (by omega), keepR j (by omega)⟩, e2.at'.frozen _ (by omega) (by omega), MkStep.of_below (below_dN hba 1) e2⟩
  clear D D1 hba
  generalize m.loadV t (m.regs t j) k = V at *
  generalize m.loadM (m.regs t j) = m1 at *
  generalize m.regs t i = Ri at *
  generalize m.regs t j = Rj at *
  go_enter Tryz.func72, Tryz.ntmps72
  go_wp2_with fail
  clear hw
  refine wp_region_F (S := (fun w' => w'.cell? ⟨w.heap.size, 1, none⟩ = some (.int .i64 i) ∧ w'.cell? ⟨w.heap.size, 2, none⟩ = some (.int .i64 j) ∧ w'.cell? ⟨w.heap.size, 3, none⟩ = some (.int .i64 k) ∧ w'.cell? ⟨p.b, 585 + t * 9 + i, none⟩ = some (.int .i64 Ri) ∧ w'.cell? ⟨p.b, 585 + t * 9 + j, none⟩ = some (.int .i64 Rj))) (by kernel_rfl) (by (try dsimp only); go_keep) (fun hHeld => ?_)
  refine' wpAnyF_take (i := 0) (n := 16) (v := _) rfl (by kernel_rfl) (fun _ _ _ h => h) (by assumption) (Or.inl ⟨by rfl, ?hy1⟩) ?rest1
  case' hy1 => (intro w' hSw; (try dsimp only at hSw); go_simp; try with_reducible rfl)
  try simp only [Act.put, List.getElem_toArray, List.getElem_cons_zero, List.setIfInBounds_toArray, List.set_cons_zero, List.set_cons_succ]
  refine' wpAnyF_take (i := 1) (n := 16) (v := _) rfl (by kernel_rfl) (fun _ _ _ h => h) (by assumption) (Or.inl ⟨by rfl, ?hy2⟩) ?rest2
  case' hy2 => (intro w' hSw; (try dsimp only at hSw); go_simp; try with_reducible rfl)
  try simp only [Act.put, List.getElem_toArray, List.getElem_cons_zero, List.getElem_cons_succ, List.setIfInBounds_toArray, List.set_cons_zero, List.set_cons_succ]
  refine' wpAnyF_take (i := 2) (n := 16) (v := _) rfl (by kernel_rfl) (fun _ _ _ h => h) (by assumption) (Or.inl ⟨by rfl, ?hy3⟩) ?rest3
  case' hy3 => (intro w' hSw; (try dsimp only at hSw); go_simp; try with_reducible rfl)
  try simp only [Act.put, List.getElem_toArray, List.getElem_cons_zero, List.getElem_cons_succ, List.setIfInBounds_toArray, List.set_cons_zero, List.set_cons_succ]
  refine' wpAnyF_take (i := 3) (n := 16) (v := _) rfl (by kernel_rfl) (fun _ _ _ h => h) (by assumption) (Or.inl ⟨by rfl, ?hy4⟩) ?rest4
  case' hy4 => (intro w' hSw; (try dsimp only at hSw); go_simp; try with_reducible rfl)
  try simp only [Act.put, List.getElem_toArray, List.getElem_cons_zero, List.getElem_cons_succ, List.setIfInBounds_toArray, List.set_cons_zero, List.set_cons_succ]
  refine' wpAnyF_take (i := 4) (n := 16) (v := _) rfl (by kernel_rfl) (fun _ _ _ h => h) (by assumption) (Or.inl ⟨by rfl, ?hy5⟩) ?rest5
  case' hy5 => (intro w' hSw; (try dsimp only at hSw); go_simp; try with_reducible rfl)
  try simp only [Act.put, List.getElem_toArray, List.getElem_cons_zero, List.getElem_cons_succ, List.setIfInBounds_toArray, List.set_cons_zero, List.set_cons_succ]
  refine' wpAnyF_take (i := 5) (n := 16) (v := _) rfl (by kernel_rfl) (fun _ _ _ h => h) (by assumption) (Or.inl ⟨by rfl, ?hy6⟩) ?rest6
  case' hy6 => (intro w' hSw; (try dsimp only at hSw); go_simp; try with_reducible rfl)
  try simp only [Act.put, List.getElem_toArray, List.getElem_cons_zero, List.getElem_cons_succ, List.setIfInBounds_toArray, List.set_cons_zero, List.set_cons_succ]
  refine' wpAnyF_take (i := 6) (n := 16) (v := _) rfl (by kernel_rfl) (fun _ _ _ h => h) (by assumption) (Or.inl ⟨by rfl, ?hy7⟩) ?rest7
  case' hy7 => (intro w' hSw; (try dsimp only at hSw); go_simp; try with_reducible rfl)
  try simp only [Act.put, List.getElem_toArray, List.getElem_cons_zero, List.getElem_cons_succ, List.setIfInBounds_toArray, List.set_cons_zero, List.set_cons_succ]
  refine' wpAnyF_take (i := 7) (n := 16) (v := _) rfl (by kernel_rfl) (fun _ _ _ h => h) (by assumption) (Or.inl ⟨by rfl, ?hy8⟩) ?rest8
  case' hy8 => (intro w' hSw; (try dsimp only at hSw); go_simp; try with_reducible rfl)
  try simp only [Act.put, List.getElem_toArray, List.getElem_cons_zero, List.getElem_cons_succ, List.setIfInBounds_toArray, List.set_cons_zero, List.set_cons_succ]
  refine' wpAnyF_take (i := 8) (n := 16) (v := _) rfl (by kernel_rfl) (fun _ _ _ h => h) (by assumption) (Or.inl ⟨by rfl, ?hy9⟩) ?rest9
  case' hy9 => (intro w' hSw; (try dsimp only at hSw); go_simp; try with_reducible rfl)
  try simp only [Act.put, List.getElem_toArray, List.getElem_cons_zero, List.getElem_cons_succ, List.setIfInBounds_toArray, List.set_cons_zero, List.set_cons_succ]
  refine' wpAnyF_take (i := 9) (n := 16) (v := _) rfl (by kernel_rfl) (fun _ _ _ h => h) (by assumption) (Or.inl ⟨by rfl, ?hy10⟩) ?rest10
  case' hy10 => (intro w' hSw; (try dsimp only at hSw); go_simp; try with_reducible rfl)
  try simp only [Act.put, List.getElem_toArray, List.getElem_cons_zero, List.getElem_cons_succ, List.setIfInBounds_toArray, List.set_cons_zero, List.set_cons_succ]
  refine' wpAnyF_take (i := 10) (n := 16) (v := _) rfl (by kernel_rfl) (fun _ _ _ h => h) (by assumption) (Or.inl ⟨by rfl, ?hy11⟩) ?rest11
  case' hy11 => (intro w' hSw; (try dsimp only at hSw); go_simp; try with_reducible rfl)
  try simp only [Act.put, List.getElem_toArray, List.getElem_cons_zero, List.getElem_cons_succ, List.setIfInBounds_toArray, List.set_cons_zero, List.set_cons_succ]
  refine' wpAnyF_take (i := 11) (n := 16) (v := _) rfl (by kernel_rfl) (fun _ _ _ h => h) (by assumption) (Or.inl ⟨by rfl, ?hy12⟩) ?rest12
  case' hy12 => (intro w' hSw; (try dsimp only at hSw); go_simp; try with_reducible rfl)
  try simp only [Act.put, List.getElem_toArray, List.getElem_cons_zero, List.getElem_cons_succ, List.setIfInBounds_toArray, List.set_cons_zero, List.set_cons_succ]
  refine' wpAnyF_take (i := 12) (n := 16) (v := _) rfl (by kernel_rfl) (fun _ _ _ h => h) (by assumption) (Or.inl ⟨by rfl, ?hy13⟩) ?rest13
  case' hy13 => (intro w' hSw; (try dsimp only at hSw); go_simp; try with_reducible rfl)
  try simp only [Act.put, List.getElem_toArray, List.getElem_cons_zero, List.getElem_cons_succ, List.setIfInBounds_toArray, List.set_cons_zero, List.set_cons_succ]
  refine' wpAnyF_take (i := 14) (n := 16) (v := _) rfl (by kernel_rfl) (fun _ _ _ h => h) (by assumption) (Or.inl ⟨by rfl, ?hy14⟩) ?rest14
  case' hy14 => (intro w' hSw; (try dsimp only at hSw); go_simp; try with_reducible rfl)
  try simp only [Act.put, List.getElem_toArray, List.getElem_cons_zero, List.getElem_cons_succ, List.setIfInBounds_toArray, List.set_cons_zero, List.set_cons_succ]
  refine wpAnyF_only (i := 13) rfl (by kernel_rfl) (fun K hK => ?_)
  go_simp
  go_at_call 83
  refine HL.out.mono ?_
  rintro e w4 ⟨rfl, hs4, z4, k4⟩
  dsimp only
  refine hK.out _ _ (Or.inr (by (try dsimp only); exact hs4)) ?_
  clear hK K
  try simp only [Act.put, List.getElem_toArray, List.getElem_cons_zero, List.getElem_cons_succ, List.setIfInBounds_toArray, List.set_cons_zero, List.set_cons_succ]
  refine' wpAnyF_take (i := 15) (n := 16) (v := _) rfl (by kernel_rfl) (fun _ _ _ h => h) (by assumption) (Or.inl ⟨by rfl, ?hy15⟩) ?rest15
  case' hy15 => (intro w' hSw; (try dsimp only at hSw); go_simp; try with_reducible rfl)
  try simp only [Act.put, List.getElem_toArray, List.getElem_cons_zero, List.getElem_cons_succ, List.setIfInBounds_toArray, List.set_cons_zero, List.set_cons_succ]
  obtain ⟨s0, s1, s2, s3, s4⟩ := hs4
  refine wpAnyF_only (i := 16) rfl (by kernel_rfl) (fun K hK => ?_)
  go_simp
  refine hK.out _ _ (Or.inl (by kernel_rfl)) ?_
  clear hK K
  try simp only [Act.put, List.getElem_toArray, List.getElem_cons_zero, List.getElem_cons_succ, List.setIfInBounds_toArray, List.set_cons_zero, List.set_cons_succ]
  refine wpAnyF_done (by kernel_rfl) ?_ _
  go_wp2
  go_end0
  exact ⟨rfl, k4.out.trans (k4.out.at'.setReg t6 (by omega) V)⟩

set_option maxRecDepth 20000 in
set_option maxHeartbeats 2000000 in
theorem ktouch_swap {a : Nat → Addr} {cs : List (List Ins)} {p : MkPl} {m : Mk} {K t : Nat} {w : World} (D : DoX a cs p m K t w) (L : List Ins) (x : Ins) (e : x.op = ⟨#[115, 119, 97, 112]⟩) {i : Nat} (hi : i < 8) (ei : x.a = i) {j : Nat} (hj : j < 8) (ej : x.b = j) {k : Nat} (hk : k < 4) (ek : x.c = k) :
    Calls Tryz.prog 72 #[.pointer (some ⟨p.b, 0, none⟩), .int .i64 t, .agg #[.string x.op, .int .i64 x.a, .int .i64 x.b, .int .i64 x.c, .string x.to]] w fun e w' => e = .returned (.tuple #[]) ∧ MkStep a cs p w p.mv (m.exec L t x) w' := by
  rw [exec_swap m L t e]
  rw [ei]
  rw [ej]
  rw [ek]
  simp only [Int.toNat_natCast]
  rw [Mk.swap_eq]
  obtain ⟨xo, xa, xb, xc, xt⟩ := x
  dsimp only at e ei ej ek ⊢
  subst e ei ej ek
  have t6 := D.t6
  have t6i : (t : Int) < 6 := by omega
  have hba : Below w.heap.size w (w.alloc (.cells #[.string ⟨#[115, 119, 97, 112]⟩, .int .i64 i, .int .i64 j, .int .i64 k, .string xt] 44)) := (Below.refl _ _).alloc (Nat.le_refl _) _
  have q0 : (w.alloc (.cells #[.string ⟨#[115, 119, 97, 112]⟩, .int .i64 i, .int .i64 j, .int .i64 k, .string xt] 44)).cell? ⟨w.heap.size, 0, none⟩ = some (.string ⟨#[115, 119, 97, 112]⟩) := by simp
  have q1 : (w.alloc (.cells #[.string ⟨#[115, 119, 97, 112]⟩, .int .i64 i, .int .i64 j, .int .i64 k, .string xt] 44)).cell? ⟨w.heap.size, 1, none⟩ = some (.int .i64 i) := by simp
  have q2 : (w.alloc (.cells #[.string ⟨#[115, 119, 97, 112]⟩, .int .i64 i, .int .i64 j, .int .i64 k, .string xt] 44)).cell? ⟨w.heap.size, 2, none⟩ = some (.int .i64 j) := by simp
  have q3 : (w.alloc (.cells #[.string ⟨#[115, 119, 97, 112]⟩, .int .i64 i, .int .i64 j, .int .i64 k, .string xt] 44)).cell? ⟨w.heap.size, 3, none⟩ = some (.int .i64 k) := by simp
  have D1 := D.below hba
  have hlw := D.at'.lt
  have gi := D1.at'.reg t i t6 (by omega)
  have gj := D1.at'.reg t j t6 (by omega)
  have li : (i : Int) < 8 := by omega
  have lj : (j : Int) < 8 := by omega
  have lk : (k : Int) < 4 := by omega
  generalize hw : w.alloc (.cells #[.string ⟨#[115, 119, 97, 112]⟩, .int .i64 i, .int .i64 j, .int .i64 k, .string xt] 44) = w1 at *
  have HL : Hid (Calls Tryz.prog 85 #[.pointer (some ⟨p.b, 0, none⟩), .int .i64 t, .int .i64 (m.regs t j), .int .i64 k, .int .i64 (m.regs t i)] (w1.drewN 1) fun e w'' => e = .returned (.int .i64 (m.swapV t (m.regs t j) k)) ∧ (w''.cell? ⟨w.heap.size, 1, none⟩ = some (.int .i64 i) ∧ w''.cell? ⟨w.heap.size, 2, none⟩ = some (.int .i64 j) ∧ w''.cell? ⟨w.heap.size, 3, none⟩ = some (.int .i64 k) ∧ w''.cell? ⟨p.b, 585 + t * 9 + i, none⟩ = some (.int .i64 (m.regs t i)) ∧ w''.cell? ⟨p.b, 585 + t * 9 + j, none⟩ = some (.int .i64 (m.regs t j))) ∧ w''.frozen? ⟨p.b, 585 + t * 9 + i, none⟩ = false ∧ Hid (MkStep a cs p w p.mv (m.swapM t (m.regs t j) k (m.regs t i)) w'')) :=
    (kswap_any (D1.at'.drewN 1) D.ht D.waits D.faults (D.ok.regs _ _) hk (D.ok.regs _ _)).mono fun e w'' ⟨e1, e2⟩ => by
      have keepB : ∀ {o : Nat} {u : Value}, w1.cell? ⟨w.heap.size, o, none⟩ = some u → w''.cell? ⟨w.heap.size, o, none⟩ = some u := fun hc => e2.keep (w := w1.drewN 1) hc (fun e => by have := D.at'.fp_lt e; omega)
      have keepR : ∀ r, r < 8 → w''.cell? ⟨p.b, 585 + t * 9 + r, none⟩ = some (.int .i64 (m.regs t r)) := fun r hr => by have := e2.at'.reg t r t6 hr; rw [Mk.swapM_regs] at this; exact this
      exact ⟨e1, ⟨keepB q1, keepB q2, keepB q3, keepR i (by omega), keepR j (by omega)⟩, e2.at'.frozen _ (by omega) (by omega), MkStep.of_below (below_dN hba 1) e2⟩
  clear D D1 hba
  generalize m.swapV t (m.regs t j) k = V at *
  generalize m.swapM t (m.regs t j) k (m.regs t i) = m1 at *
  generalize m.regs t i = Ri at *
  generalize m.regs t j = Rj at *
  go_enter Tryz.func72, Tryz.ntmps72
  go_wp2_with fail
  clear hw
  refine wp_region_F (S := (fun w' => w'.cell? ⟨w.heap.size, 1, none⟩ = some (.int .i64 i) ∧ w'.cell? ⟨w.heap.size, 2, none⟩ = some (.int .i64 j) ∧ w'.cell? ⟨w.heap.size, 3, none⟩ = some (.int .i64 k) ∧ w'.cell? ⟨p.b, 585 + t * 9 + i, none⟩ = some (.int .i64 Ri) ∧ w'.cell? ⟨p.b, 585 + t * 9 + j, none⟩ = some (.int .i64 Rj))) (by kernel_rfl) (by (try dsimp only); go_keep) (fun hHeld => ?_)
  refine' wpAnyF_take (i := 0) (n := 22) (v := _) rfl (by kernel_rfl) (fun _ _ _ h => h) (by assumption) (Or.inl ⟨by rfl, ?hy16⟩) ?rest16
  case' hy16 => (intro w' hSw; (try dsimp only at hSw); go_simp; try with_reducible rfl)
  try simp only [Act.put, List.getElem_toArray, List.getElem_cons_zero, List.setIfInBounds_toArray, List.set_cons_zero, List.set_cons_succ]
  refine' wpAnyF_take (i := 1) (n := 22) (v := _) rfl (by kernel_rfl) (fun _ _ _ h => h) (by assumption) (Or.inl ⟨by rfl, ?hy17⟩) ?rest17
  case' hy17 => (intro w' hSw; (try dsimp only at hSw); go_simp; try with_reducible rfl)
  try simp only [Act.put, List.getElem_toArray, List.getElem_cons_zero, List.getElem_cons_succ, List.setIfInBounds_toArray, List.set_cons_zero, List.set_cons_succ]
  refine' wpAnyF_take (i := 2) (n := 22) (v := _) rfl (by kernel_rfl) (fun _ _ _ h => h) (by assumption) (Or.inl ⟨by rfl, ?hy18⟩) ?rest18
  case' hy18 => (intro w' hSw; (try dsimp only at hSw); go_simp; try with_reducible rfl)
  try simp only [Act.put, List.getElem_toArray, List.getElem_cons_zero, List.getElem_cons_succ, List.setIfInBounds_toArray, List.set_cons_zero, List.set_cons_succ]
  refine' wpAnyF_take (i := 3) (n := 22) (v := _) rfl (by kernel_rfl) (fun _ _ _ h => h) (by assumption) (Or.inl ⟨by rfl, ?hy19⟩) ?rest19
  case' hy19 => (intro w' hSw; (try dsimp only at hSw); go_simp; try with_reducible rfl)
  try simp only [Act.put, List.getElem_toArray, List.getElem_cons_zero, List.getElem_cons_succ, List.setIfInBounds_toArray, List.set_cons_zero, List.set_cons_succ]
  refine' wpAnyF_take (i := 4) (n := 22) (v := _) rfl (by kernel_rfl) (fun _ _ _ h => h) (by assumption) (Or.inl ⟨by rfl, ?hy20⟩) ?rest20
  case' hy20 => (intro w' hSw; (try dsimp only at hSw); go_simp; try with_reducible rfl)
  try simp only [Act.put, List.getElem_toArray, List.getElem_cons_zero, List.getElem_cons_succ, List.setIfInBounds_toArray, List.set_cons_zero, List.set_cons_succ]
  refine' wpAnyF_take (i := 5) (n := 22) (v := _) rfl (by kernel_rfl) (fun _ _ _ h => h) (by assumption) (Or.inl ⟨by rfl, ?hy21⟩) ?rest21
  case' hy21 => (intro w' hSw; (try dsimp only at hSw); go_simp; try with_reducible rfl)
  try simp only [Act.put, List.getElem_toArray, List.getElem_cons_zero, List.getElem_cons_succ, List.setIfInBounds_toArray, List.set_cons_zero, List.set_cons_succ]
  refine' wpAnyF_take (i := 6) (n := 22) (v := _) rfl (by kernel_rfl) (fun _ _ _ h => h) (by assumption) (Or.inl ⟨by rfl, ?hy22⟩) ?rest22
  case' hy22 => (intro w' hSw; (try dsimp only at hSw); go_simp; try with_reducible rfl)
  try simp only [Act.put, List.getElem_toArray, List.getElem_cons_zero, List.getElem_cons_succ, List.setIfInBounds_toArray, List.set_cons_zero, List.set_cons_succ]
  refine' wpAnyF_take (i := 7) (n := 22) (v := _) rfl (by kernel_rfl) (fun _ _ _ h => h) (by assumption) (Or.inl ⟨by rfl, ?hy23⟩) ?rest23
  case' hy23 => (intro w' hSw; (try dsimp only at hSw); go_simp; try with_reducible rfl)
  try simp only [Act.put, List.getElem_toArray, List.getElem_cons_zero, List.getElem_cons_succ, List.setIfInBounds_toArray, List.set_cons_zero, List.set_cons_succ]
  refine' wpAnyF_take (i := 8) (n := 22) (v := _) rfl (by kernel_rfl) (fun _ _ _ h => h) (by assumption) (Or.inl ⟨by rfl, ?hy24⟩) ?rest24
  case' hy24 => (intro w' hSw; (try dsimp only at hSw); go_simp; try with_reducible rfl)
  try simp only [Act.put, List.getElem_toArray, List.getElem_cons_zero, List.getElem_cons_succ, List.setIfInBounds_toArray, List.set_cons_zero, List.set_cons_succ]
  refine' wpAnyF_take (i := 9) (n := 22) (v := _) rfl (by kernel_rfl) (fun _ _ _ h => h) (by assumption) (Or.inl ⟨by rfl, ?hy25⟩) ?rest25
  case' hy25 => (intro w' hSw; (try dsimp only at hSw); go_simp; try with_reducible rfl)
  try simp only [Act.put, List.getElem_toArray, List.getElem_cons_zero, List.getElem_cons_succ, List.setIfInBounds_toArray, List.set_cons_zero, List.set_cons_succ]
  refine' wpAnyF_take (i := 10) (n := 22) (v := _) rfl (by kernel_rfl) (fun _ _ _ h => h) (by assumption) (Or.inl ⟨by rfl, ?hy26⟩) ?rest26
  case' hy26 => (intro w' hSw; (try dsimp only at hSw); go_simp; try with_reducible rfl)
  try simp only [Act.put, List.getElem_toArray, List.getElem_cons_zero, List.getElem_cons_succ, List.setIfInBounds_toArray, List.set_cons_zero, List.set_cons_succ]
  refine' wpAnyF_take (i := 11) (n := 22) (v := _) rfl (by kernel_rfl) (fun _ _ _ h => h) (by assumption) (Or.inl ⟨by rfl, ?hy27⟩) ?rest27
  case' hy27 => (intro w' hSw; (try dsimp only at hSw); go_simp; try with_reducible rfl)
  try simp only [Act.put, List.getElem_toArray, List.getElem_cons_zero, List.getElem_cons_succ, List.setIfInBounds_toArray, List.set_cons_zero, List.set_cons_succ]
  refine' wpAnyF_take (i := 12) (n := 22) (v := _) rfl (by kernel_rfl) (fun _ _ _ h => h) (by assumption) (Or.inl ⟨by rfl, ?hy28⟩) ?rest28
  case' hy28 => (intro w' hSw; (try dsimp only at hSw); go_simp; try with_reducible rfl)
  try simp only [Act.put, List.getElem_toArray, List.getElem_cons_zero, List.getElem_cons_succ, List.setIfInBounds_toArray, List.set_cons_zero, List.set_cons_succ]
  refine' wpAnyF_take (i := 13) (n := 22) (v := _) rfl (by kernel_rfl) (fun _ _ _ h => h) (by assumption) (Or.inl ⟨by rfl, ?hy29⟩) ?rest29
  case' hy29 => (intro w' hSw; (try dsimp only at hSw); go_simp; try with_reducible rfl)
  try simp only [Act.put, List.getElem_toArray, List.getElem_cons_zero, List.getElem_cons_succ, List.setIfInBounds_toArray, List.set_cons_zero, List.set_cons_succ]
  refine' wpAnyF_take (i := 14) (n := 22) (v := _) rfl (by kernel_rfl) (fun _ _ _ h => h) (by assumption) (Or.inl ⟨by rfl, ?hy30⟩) ?rest30
  case' hy30 => (intro w' hSw; (try dsimp only at hSw); go_simp; try with_reducible rfl)
  try simp only [Act.put, List.getElem_toArray, List.getElem_cons_zero, List.getElem_cons_succ, List.setIfInBounds_toArray, List.set_cons_zero, List.set_cons_succ]
  refine' wpAnyF_take (i := 15) (n := 22) (v := _) rfl (by kernel_rfl) (fun _ _ _ h => h) (by assumption) (Or.inl ⟨by rfl, ?hy31⟩) ?rest31
  case' hy31 => (intro w' hSw; (try dsimp only at hSw); go_simp; try with_reducible rfl)
  try simp only [Act.put, List.getElem_toArray, List.getElem_cons_zero, List.getElem_cons_succ, List.setIfInBounds_toArray, List.set_cons_zero, List.set_cons_succ]
  refine' wpAnyF_take (i := 16) (n := 22) (v := _) rfl (by kernel_rfl) (fun _ _ _ h => h) (by assumption) (Or.inl ⟨by rfl, ?hy32⟩) ?rest32
  case' hy32 => (intro w' hSw; (try dsimp only at hSw); go_simp; try with_reducible rfl)
  try simp only [Act.put, List.getElem_toArray, List.getElem_cons_zero, List.getElem_cons_succ, List.setIfInBounds_toArray, List.set_cons_zero, List.set_cons_succ]
  refine' wpAnyF_take (i := 17) (n := 22) (v := _) rfl (by kernel_rfl) (fun _ _ _ h => h) (by assumption) (Or.inl ⟨by rfl, ?hy33⟩) ?rest33
  case' hy33 => (intro w' hSw; (try dsimp only at hSw); go_simp; try with_reducible rfl)
  try simp only [Act.put, List.getElem_toArray, List.getElem_cons_zero, List.getElem_cons_succ, List.setIfInBounds_toArray, List.set_cons_zero, List.set_cons_succ]
  refine' wpAnyF_take (i := 18) (n := 22) (v := _) rfl (by kernel_rfl) (fun _ _ _ h => h) (by assumption) (Or.inl ⟨by rfl, ?hy34⟩) ?rest34
  case' hy34 => (intro w' hSw; (try dsimp only at hSw); go_simp; try with_reducible rfl)
  try simp only [Act.put, List.getElem_toArray, List.getElem_cons_zero, List.getElem_cons_succ, List.setIfInBounds_toArray, List.set_cons_zero, List.set_cons_succ]
  refine' wpAnyF_take (i := 20) (n := 22) (v := _) rfl (by kernel_rfl) (fun _ _ _ h => h) (by assumption) (Or.inl ⟨by rfl, ?hy35⟩) ?rest35
  case' hy35 => (intro w' hSw; (try dsimp only at hSw); go_simp; try with_reducible rfl)
  try simp only [Act.put, List.getElem_toArray, List.getElem_cons_zero, List.getElem_cons_succ, List.setIfInBounds_toArray, List.set_cons_zero, List.set_cons_succ]
  refine wpAnyF_only (i := 19) rfl (by kernel_rfl) (fun K hK => ?_)
  go_simp
  go_at_call 85
  refine HL.out.mono ?_
  rintro e w4 ⟨rfl, hs4, z4, k4⟩
  dsimp only
  refine hK.out _ _ (Or.inr (by (try dsimp only); exact hs4)) ?_
  clear hK K
  try simp only [Act.put, List.getElem_toArray, List.getElem_cons_zero, List.getElem_cons_succ, List.setIfInBounds_toArray, List.set_cons_zero, List.set_cons_succ]
  refine' wpAnyF_take (i := 21) (n := 22) (v := _) rfl (by kernel_rfl) (fun _ _ _ h => h) (by assumption) (Or.inl ⟨by rfl, ?hy36⟩) ?rest36
  case' hy36 => (intro w' hSw; (try dsimp only at hSw); go_simp; try with_reducible rfl)
  try simp only [Act.put, List.getElem_toArray, List.getElem_cons_zero, List.getElem_cons_succ, List.setIfInBounds_toArray, List.set_cons_zero, List.set_cons_succ]
  obtain ⟨s0, s1, s2, s3, s4⟩ := hs4
  refine wpAnyF_only (i := 22) rfl (by kernel_rfl) (fun K hK => ?_)
  go_simp
  refine hK.out _ _ (Or.inl (by kernel_rfl)) ?_
  clear hK K
  try simp only [Act.put, List.getElem_toArray, List.getElem_cons_zero, List.getElem_cons_succ, List.setIfInBounds_toArray, List.set_cons_zero, List.set_cons_succ]
  refine wpAnyF_done (by kernel_rfl) ?_ _
  go_wp2
  go_end0
  exact ⟨rfl, k4.out.trans (k4.out.at'.setReg t6 (by omega) V)⟩

set_option maxRecDepth 20000 in
set_option maxHeartbeats 2000000 in
theorem ktouch_cas {a : Nat → Addr} {cs : List (List Ins)} {p : MkPl} {m : Mk} {K t : Nat} {w : World} (D : DoX a cs p m K t w) (L : List Ins) (x : Ins) (e : x.op = ⟨#[99, 97, 115]⟩) {i : Nat} (hi : i < 8) (ei : x.a = i) {j : Nat} (hj : j < 7) (ej : x.b = j) {k : Nat} (hk : k < 4) (ek : x.c = k) :
    Calls Tryz.prog 72 #[.pointer (some ⟨p.b, 0, none⟩), .int .i64 t, .agg #[.string x.op, .int .i64 x.a, .int .i64 x.b, .int .i64 x.c, .string x.to]] w fun e w' => e = .returned (.tuple #[]) ∧ MkStep a cs p w p.mv (m.exec L t x) w' := by
  rw [exec_cas m L t e]
  rw [ei]
  rw [ej]
  rw [ek]
  simp only [Int.toNat_natCast]
  rw [Mk.cas_eq]
  obtain ⟨xo, xa, xb, xc, xt⟩ := x
  dsimp only at e ei ej ek ⊢
  subst e ei ej ek
  have t6 := D.t6
  have t6i : (t : Int) < 6 := by omega
  have hba : Below w.heap.size w (w.alloc (.cells #[.string ⟨#[99, 97, 115]⟩, .int .i64 i, .int .i64 j, .int .i64 k, .string xt] 44)) := (Below.refl _ _).alloc (Nat.le_refl _) _
  have q0 : (w.alloc (.cells #[.string ⟨#[99, 97, 115]⟩, .int .i64 i, .int .i64 j, .int .i64 k, .string xt] 44)).cell? ⟨w.heap.size, 0, none⟩ = some (.string ⟨#[99, 97, 115]⟩) := by simp
  have q1 : (w.alloc (.cells #[.string ⟨#[99, 97, 115]⟩, .int .i64 i, .int .i64 j, .int .i64 k, .string xt] 44)).cell? ⟨w.heap.size, 1, none⟩ = some (.int .i64 i) := by simp
  have q2 : (w.alloc (.cells #[.string ⟨#[99, 97, 115]⟩, .int .i64 i, .int .i64 j, .int .i64 k, .string xt] 44)).cell? ⟨w.heap.size, 2, none⟩ = some (.int .i64 j) := by simp
  have q3 : (w.alloc (.cells #[.string ⟨#[99, 97, 115]⟩, .int .i64 i, .int .i64 j, .int .i64 k, .string xt] 44)).cell? ⟨w.heap.size, 3, none⟩ = some (.int .i64 k) := by simp
  have D1 := D.below hba
  have hlw := D.at'.lt
  have gi := D1.at'.reg t i t6 (by omega)
  have gj := D1.at'.reg t j t6 (by omega)
  have gj1 := D1.at'.reg t (j + 1) t6 (by omega)
  have li : (i : Int) < 8 := by omega
  have lj : (j : Int) < 7 := by omega
  have lk : (k : Int) < 4 := by omega
  generalize hw : w.alloc (.cells #[.string ⟨#[99, 97, 115]⟩, .int .i64 i, .int .i64 j, .int .i64 k, .string xt] 44) = w1 at *
  have HL : Hid (Calls Tryz.prog 86 #[.pointer (some ⟨p.b, 0, none⟩), .int .i64 t, .int .i64 (m.regs t i), .int .i64 k, .int .i64 (m.regs t j), .int .i64 (m.regs t (j + 1))] (w1.drewN 1) fun e w'' => e = .returned (.int .i64 (m.swapV t (m.regs t i) k)) ∧ (w''.cell? ⟨w.heap.size, 1, none⟩ = some (.int .i64 i) ∧ w''.cell? ⟨w.heap.size, 2, none⟩ = some (.int .i64 j) ∧ w''.cell? ⟨w.heap.size, 3, none⟩ = some (.int .i64 k) ∧ w''.cell? ⟨p.b, 585 + t * 9 + i, none⟩ = some (.int .i64 (m.regs t i)) ∧ w''.cell? ⟨p.b, 585 + t * 9 + j, none⟩ = some (.int .i64 (m.regs t j)) ∧ w''.cell? ⟨p.b, 585 + t * 9 + (j + 1), none⟩ = some (.int .i64 (m.regs t (j + 1)))) ∧ w''.frozen? ⟨p.b, 585 + t * 9 + j, none⟩ = false ∧ Hid (MkStep a cs p w p.mv (m.casM t (m.regs t i) k (m.regs t j) (m.regs t (j + 1))) w'')) :=
    (kcas_any (D1.at'.drewN 1) D.ht D.waits D.faults (D.ok.regs _ _) hk (D.ok.regs _ _) (D.ok.regs _ _)).mono fun e w'' ⟨e1, e2⟩ => by
      have keepB : ∀ {o : Nat} {u : Value}, w1.cell? ⟨w.heap.size, o, none⟩ = some u → w''.cell? ⟨w.heap.size, o, none⟩ = some u := fun hc => e2.keep (w := w1.drewN 1) hc (fun e => by have := D.at'.fp_lt e; omega)
      have keepR : ∀ r, r < 8 → w''.cell? ⟨p.b, 585 + t * 9 + r, none⟩ = some (.int .i64 (m.regs t r)) := fun r hr => by have := e2.at'.reg t r t6 hr; rw [Mk.casM_regs] at this; exact this
      exact ⟨e1, ⟨keepB q1, keepB q2, keepB q3, keepR i (by omega), keepR j (by omega), keepR (j + 1) (by omega)⟩, e2.at'.frozen _ (by omega) (by omega), MkStep.of_below (below_dN hba 1) e2⟩
  clear D D1 hba
  generalize m.swapV t (m.regs t i) k = V at *
  generalize m.casM t (m.regs t i) k (m.regs t j) (m.regs t (j + 1)) = m1 at *
  generalize m.regs t i = Ri at *
  generalize m.regs t j = Rj at *
  generalize m.regs t (j + 1) = Rjp1 at *
  have l8 : (j : Int) < 8 := by omega
  have l81 : (j : Int) + 1 < 8 := by omega
  have l80 : (0 : Int) ≤ (j : Int) + 1 := by omega
  have hw1 : IntKind.i64.wrap ((j : Int) + 1) = (j : Int) + 1 := by rw [IntKind.wrap_i64]; omega
  go_enter Tryz.func72, Tryz.ntmps72
  go_wp2_with fail
  clear hw
  refine wp_region_F (S := (fun w' => w'.cell? ⟨w.heap.size, 1, none⟩ = some (.int .i64 i) ∧ w'.cell? ⟨w.heap.size, 2, none⟩ = some (.int .i64 j) ∧ w'.cell? ⟨w.heap.size, 3, none⟩ = some (.int .i64 k) ∧ w'.cell? ⟨p.b, 585 + t * 9 + i, none⟩ = some (.int .i64 Ri) ∧ w'.cell? ⟨p.b, 585 + t * 9 + j, none⟩ = some (.int .i64 Rj) ∧ w'.cell? ⟨p.b, 585 + t * 9 + (j + 1), none⟩ = some (.int .i64 Rjp1))) (by kernel_rfl) (by (try dsimp only); go_keep) (fun hHeld => ?_)
  refine' wpAnyF_take (i := 0) (n := 29) (v := _) rfl (by kernel_rfl) (fun _ _ _ h => h) (by assumption) (Or.inl ⟨by rfl, ?hy37⟩) ?rest37
  case' hy37 => (intro w' hSw; (try dsimp only at hSw); go_simp; try with_reducible rfl)
  try simp only [Act.put, List.getElem_toArray, List.getElem_cons_zero, List.setIfInBounds_toArray, List.set_cons_zero, List.set_cons_succ]
  refine' wpAnyF_take (i := 1) (n := 29) (v := _) rfl (by kernel_rfl) (fun _ _ _ h => h) (by assumption) (Or.inl ⟨by rfl, ?hy38⟩) ?rest38
  case' hy38 => (intro w' hSw; (try dsimp only at hSw); go_simp; try with_reducible rfl)
  try simp only [Act.put, List.getElem_toArray, List.getElem_cons_zero, List.getElem_cons_succ, List.setIfInBounds_toArray, List.set_cons_zero, List.set_cons_succ]
  refine' wpAnyF_take (i := 2) (n := 29) (v := _) rfl (by kernel_rfl) (fun _ _ _ h => h) (by assumption) (Or.inl ⟨by rfl, ?hy39⟩) ?rest39
  case' hy39 => (intro w' hSw; (try dsimp only at hSw); go_simp; try with_reducible rfl)
  try simp only [Act.put, List.getElem_toArray, List.getElem_cons_zero, List.getElem_cons_succ, List.setIfInBounds_toArray, List.set_cons_zero, List.set_cons_succ]
  refine' wpAnyF_take (i := 3) (n := 29) (v := _) rfl (by kernel_rfl) (fun _ _ _ h => h) (by assumption) (Or.inl ⟨by rfl, ?hy40⟩) ?rest40
  case' hy40 => (intro w' hSw; (try dsimp only at hSw); go_simp; try with_reducible rfl)
  try simp only [Act.put, List.getElem_toArray, List.getElem_cons_zero, List.getElem_cons_succ, List.setIfInBounds_toArray, List.set_cons_zero, List.set_cons_succ]
  refine' wpAnyF_take (i := 4) (n := 29) (v := _) rfl (by kernel_rfl) (fun _ _ _ h => h) (by assumption) (Or.inl ⟨by rfl, ?hy41⟩) ?rest41
  case' hy41 => (intro w' hSw; (try dsimp only at hSw); go_simp; try with_reducible rfl)
  try simp only [Act.put, List.getElem_toArray, List.getElem_cons_zero, List.getElem_cons_succ, List.setIfInBounds_toArray, List.set_cons_zero, List.set_cons_succ]
  refine' wpAnyF_take (i := 5) (n := 29) (v := _) rfl (by kernel_rfl) (fun _ _ _ h => h) (by assumption) (Or.inl ⟨by rfl, ?hy42⟩) ?rest42
  case' hy42 => (intro w' hSw; (try dsimp only at hSw); go_simp; try with_reducible rfl)
  try simp only [Act.put, List.getElem_toArray, List.getElem_cons_zero, List.getElem_cons_succ, List.setIfInBounds_toArray, List.set_cons_zero, List.set_cons_succ]
  refine' wpAnyF_take (i := 6) (n := 29) (v := _) rfl (by kernel_rfl) (fun _ _ _ h => h) (by assumption) (Or.inl ⟨by rfl, ?hy43⟩) ?rest43
  case' hy43 => (intro w' hSw; (try dsimp only at hSw); go_simp; try with_reducible rfl)
  try simp only [Act.put, List.getElem_toArray, List.getElem_cons_zero, List.getElem_cons_succ, List.setIfInBounds_toArray, List.set_cons_zero, List.set_cons_succ]
  refine' wpAnyF_take (i := 7) (n := 29) (v := _) rfl (by kernel_rfl) (fun _ _ _ h => h) (by assumption) (Or.inl ⟨by rfl, ?hy44⟩) ?rest44
  case' hy44 => (intro w' hSw; (try dsimp only at hSw); go_simp; try with_reducible rfl)
  try simp only [Act.put, List.getElem_toArray, List.getElem_cons_zero, List.getElem_cons_succ, List.setIfInBounds_toArray, List.set_cons_zero, List.set_cons_succ]
  refine' wpAnyF_take (i := 8) (n := 29) (v := _) rfl (by kernel_rfl) (fun _ _ _ h => h) (by assumption) (Or.inl ⟨by rfl, ?hy45⟩) ?rest45
  case' hy45 => (intro w' hSw; (try dsimp only at hSw); go_simp; try with_reducible rfl)
  try simp only [Act.put, List.getElem_toArray, List.getElem_cons_zero, List.getElem_cons_succ, List.setIfInBounds_toArray, List.set_cons_zero, List.set_cons_succ]
  refine' wpAnyF_take (i := 9) (n := 29) (v := _) rfl (by kernel_rfl) (fun _ _ _ h => h) (by assumption) (Or.inl ⟨by rfl, ?hy46⟩) ?rest46
  case' hy46 => (intro w' hSw; (try dsimp only at hSw); go_simp; try with_reducible rfl)
  try simp only [Act.put, List.getElem_toArray, List.getElem_cons_zero, List.getElem_cons_succ, List.setIfInBounds_toArray, List.set_cons_zero, List.set_cons_succ]
  refine' wpAnyF_take (i := 10) (n := 29) (v := _) rfl (by kernel_rfl) (fun _ _ _ h => h) (by assumption) (Or.inl ⟨by rfl, ?hy47⟩) ?rest47
  case' hy47 => (intro w' hSw; (try dsimp only at hSw); go_simp; try with_reducible rfl)
  try simp only [Act.put, List.getElem_toArray, List.getElem_cons_zero, List.getElem_cons_succ, List.setIfInBounds_toArray, List.set_cons_zero, List.set_cons_succ]
  refine' wpAnyF_take (i := 11) (n := 29) (v := _) rfl (by kernel_rfl) (fun _ _ _ h => h) (by assumption) (Or.inl ⟨by rfl, ?hy48⟩) ?rest48
  case' hy48 => (intro w' hSw; (try dsimp only at hSw); go_simp; try with_reducible rfl)
  try simp only [Act.put, List.getElem_toArray, List.getElem_cons_zero, List.getElem_cons_succ, List.setIfInBounds_toArray, List.set_cons_zero, List.set_cons_succ]
  refine' wpAnyF_take (i := 12) (n := 29) (v := _) rfl (by kernel_rfl) (fun _ _ _ h => h) (by assumption) (Or.inl ⟨by rfl, ?hy49⟩) ?rest49
  case' hy49 => (intro w' hSw; (try dsimp only at hSw); go_simp; try with_reducible rfl)
  try simp only [Act.put, List.getElem_toArray, List.getElem_cons_zero, List.getElem_cons_succ, List.setIfInBounds_toArray, List.set_cons_zero, List.set_cons_succ]
  refine' wpAnyF_take (i := 13) (n := 29) (v := _) rfl (by kernel_rfl) (fun _ _ _ h => h) (by assumption) (Or.inl ⟨by rfl, ?hy50⟩) ?rest50
  case' hy50 => (intro w' hSw; (try dsimp only at hSw); go_simp; try with_reducible rfl)
  try simp only [Act.put, List.getElem_toArray, List.getElem_cons_zero, List.getElem_cons_succ, List.setIfInBounds_toArray, List.set_cons_zero, List.set_cons_succ]
  refine' wpAnyF_take (i := 14) (n := 29) (v := _) rfl (by kernel_rfl) (fun _ _ _ h => h) (by assumption) (Or.inl ⟨by rfl, ?hy51⟩) ?rest51
  case' hy51 => (intro w' hSw; (try dsimp only at hSw); go_simp; try with_reducible rfl)
  try simp only [Act.put, List.getElem_toArray, List.getElem_cons_zero, List.getElem_cons_succ, List.setIfInBounds_toArray, List.set_cons_zero, List.set_cons_succ]
  refine' wpAnyF_take (i := 15) (n := 29) (v := _) rfl (by kernel_rfl) (fun _ _ _ h => h) (by assumption) (Or.inl ⟨by rfl, ?hy52⟩) ?rest52
  case' hy52 => (intro w' hSw; (try dsimp only at hSw); go_simp; try with_reducible rfl)
  try simp only [Act.put, List.getElem_toArray, List.getElem_cons_zero, List.getElem_cons_succ, List.setIfInBounds_toArray, List.set_cons_zero, List.set_cons_succ]
  refine' wpAnyF_take (i := 16) (n := 29) (v := _) rfl (by kernel_rfl) (fun _ _ _ h => h) (by assumption) (Or.inl ⟨by rfl, ?hy53⟩) ?rest53
  case' hy53 => (intro w' hSw; (try dsimp only at hSw); go_simp; try with_reducible rfl)
  try simp only [Act.put, List.getElem_toArray, List.getElem_cons_zero, List.getElem_cons_succ, List.setIfInBounds_toArray, List.set_cons_zero, List.set_cons_succ]
  refine' wpAnyF_take (i := 17) (n := 29) (v := _) rfl (by kernel_rfl) (fun _ _ _ h => h) (by assumption) (Or.inl ⟨by rfl, ?hy54⟩) ?rest54
  case' hy54 => (intro w' hSw; (try dsimp only at hSw); go_simp; try with_reducible rfl)
  try simp only [Act.put, List.getElem_toArray, List.getElem_cons_zero, List.getElem_cons_succ, List.setIfInBounds_toArray, List.set_cons_zero, List.set_cons_succ]
  refine' wpAnyF_take (i := 18) (n := 29) (v := _) rfl (by kernel_rfl) (fun _ _ _ h => h) (by assumption) (Or.inl ⟨by rfl, ?hy55⟩) ?rest55
  case' hy55 => (intro w' hSw; (try dsimp only at hSw); go_simp; try with_reducible rfl)
  try simp only [Act.put, List.getElem_toArray, List.getElem_cons_zero, List.getElem_cons_succ, List.setIfInBounds_toArray, List.set_cons_zero, List.set_cons_succ]
  refine' wpAnyF_take (i := 19) (n := 29) (v := _) rfl (by kernel_rfl) (fun _ _ _ h => h) (by assumption) (Or.inl ⟨by rfl, ?hy56⟩) ?rest56
  case' hy56 => (intro w' hSw; (try dsimp only at hSw); go_simp; try with_reducible rfl)
  try simp only [Act.put, List.getElem_toArray, List.getElem_cons_zero, List.getElem_cons_succ, List.setIfInBounds_toArray, List.set_cons_zero, List.set_cons_succ]
  refine' wpAnyF_take (i := 20) (n := 29) (v := _) rfl (by kernel_rfl) (fun _ _ _ h => h) (by assumption) (Or.inl ⟨by rfl, ?hy57⟩) ?rest57
  case' hy57 => (intro w' hSw; (try dsimp only at hSw); go_simp; try with_reducible rfl)
  try simp only [Act.put, List.getElem_toArray, List.getElem_cons_zero, List.getElem_cons_succ, List.setIfInBounds_toArray, List.set_cons_zero, List.set_cons_succ]
  refine' wpAnyF_take (i := 21) (n := 29) (v := _) rfl (by kernel_rfl) (fun _ _ _ h => h) (by assumption) (Or.inl ⟨by rfl, ?hy58⟩) ?rest58
  case' hy58 => (intro w' hSw; (try dsimp only at hSw); go_simp; try with_reducible rfl)
  try simp only [Act.put, List.getElem_toArray, List.getElem_cons_zero, List.getElem_cons_succ, List.setIfInBounds_toArray, List.set_cons_zero, List.set_cons_succ]
  refine' wpAnyF_take (i := 22) (n := 29) (v := _) rfl (by kernel_rfl) (fun _ _ _ h => h) (by assumption) (Or.inl ⟨by rfl, ?hy59⟩) ?rest59
  case' hy59 => (intro w' hSw; (try dsimp only at hSw); go_simp; try with_reducible rfl)
  try simp only [Act.put, List.getElem_toArray, List.getElem_cons_zero, List.getElem_cons_succ, List.setIfInBounds_toArray, List.set_cons_zero, List.set_cons_succ]
  refine' wpAnyF_take (i := 23) (n := 29) (v := _) rfl (by kernel_rfl) (fun _ _ _ h => h) (by assumption) (Or.inl ⟨by rfl, ?hy60⟩) ?rest60
  case' hy60 => (intro w' hSw; (try dsimp only at hSw); go_simp; try with_reducible rfl)
  try simp only [Act.put, List.getElem_toArray, List.getElem_cons_zero, List.getElem_cons_succ, List.setIfInBounds_toArray, List.set_cons_zero, List.set_cons_succ]
  refine' wpAnyF_take (i := 24) (n := 29) (v := _) rfl (by kernel_rfl) (fun _ _ _ h => h) (by assumption) (Or.inl ⟨by rfl, ?hy61⟩) ?rest61
  case' hy61 => (intro w' hSw; (try dsimp only at hSw); go_simp; try with_reducible rfl)
  try simp only [Act.put, List.getElem_toArray, List.getElem_cons_zero, List.getElem_cons_succ, List.setIfInBounds_toArray, List.set_cons_zero, List.set_cons_succ]
  refine' wpAnyF_take (i := 25) (n := 29) (v := _) rfl (by kernel_rfl) (fun _ _ _ h => h) (by assumption) (Or.inl ⟨by rfl, ?hy62⟩) ?rest62
  case' hy62 => (intro w' hSw; (try dsimp only at hSw); go_simp; try with_reducible rfl)
  try simp only [Act.put, List.getElem_toArray, List.getElem_cons_zero, List.getElem_cons_succ, List.setIfInBounds_toArray, List.set_cons_zero, List.set_cons_succ]
  refine' wpAnyF_take (i := 27) (n := 29) (v := _) rfl (by kernel_rfl) (fun _ _ _ h => h) (by assumption) (Or.inl ⟨by rfl, ?hy63⟩) ?rest63
  case' hy63 => (intro w' hSw; (try dsimp only at hSw); go_simp; try with_reducible rfl)
  try simp only [Act.put, List.getElem_toArray, List.getElem_cons_zero, List.getElem_cons_succ, List.setIfInBounds_toArray, List.set_cons_zero, List.set_cons_succ]
  refine wpAnyF_only (i := 26) rfl (by kernel_rfl) (fun K hK => ?_)
  go_simp
  go_at_call 86
  refine HL.out.mono ?_
  rintro e w4 ⟨rfl, hs4, z4, k4⟩
  dsimp only
  refine hK.out _ _ (Or.inr (by (try dsimp only); exact hs4)) ?_
  clear hK K
  try simp only [Act.put, List.getElem_toArray, List.getElem_cons_zero, List.getElem_cons_succ, List.setIfInBounds_toArray, List.set_cons_zero, List.set_cons_succ]
  refine' wpAnyF_take (i := 28) (n := 29) (v := _) rfl (by kernel_rfl) (fun _ _ _ h => h) (by assumption) (Or.inl ⟨by rfl, ?hy64⟩) ?rest64
  case' hy64 => (intro w' hSw; (try dsimp only at hSw); go_simp; try with_reducible rfl)
  try simp only [Act.put, List.getElem_toArray, List.getElem_cons_zero, List.getElem_cons_succ, List.setIfInBounds_toArray, List.set_cons_zero, List.set_cons_succ]
  obtain ⟨s0, s1, s2, s3, s4, s5⟩ := hs4
  refine wpAnyF_only (i := 29) rfl (by kernel_rfl) (fun K hK => ?_)
  go_simp
  refine hK.out _ _ (Or.inl (by kernel_rfl)) ?_
  clear hK K
  try simp only [Act.put, List.getElem_toArray, List.getElem_cons_zero, List.getElem_cons_succ, List.setIfInBounds_toArray, List.set_cons_zero, List.set_cons_succ]
  refine wpAnyF_done (by kernel_rfl) ?_ _
  go_wp2
  go_end0
  exact ⟨rfl, k4.out.trans (k4.out.at'.setReg t6 (by omega) V)⟩

set_option maxRecDepth 20000 in
set_option maxHeartbeats 2000000 in
theorem ktouch_alloc {a : Nat → Addr} {cs : List (List Ins)} {p : MkPl} {m : Mk} {K t : Nat} {w : World} (D : DoX a cs p m K t w) (L : List Ins) (x : Ins) (e : x.op = ⟨#[97, 108, 108, 111, 99]⟩) {i : Nat} (hi : i < 8) (ei : x.a = i) :
    Calls Tryz.prog 72 #[.pointer (some ⟨p.b, 0, none⟩), .int .i64 t, .agg #[.string x.op, .int .i64 x.a, .int .i64 x.b, .int .i64 x.c, .string x.to]] w fun e w' => e = .returned (.tuple #[]) ∧ MkStep a cs p w p.mv (m.exec L t x) w' := by
  rw [exec_alloc m L t e]
  rw [ei]
  simp only [Int.toNat_natCast]
  rw [Mk.alloc_eq]
  obtain ⟨xo, xa, xb, xc, xt⟩ := x
  dsimp only at e ei ⊢
  subst e ei
  have t6 := D.t6
  have t6i : (t : Int) < 6 := by omega
  have hba : Below w.heap.size w (w.alloc (.cells #[.string ⟨#[97, 108, 108, 111, 99]⟩, .int .i64 i, .int .i64 xb, .int .i64 xc, .string xt] 44)) := (Below.refl _ _).alloc (Nat.le_refl _) _
  have q0 : (w.alloc (.cells #[.string ⟨#[97, 108, 108, 111, 99]⟩, .int .i64 i, .int .i64 xb, .int .i64 xc, .string xt] 44)).cell? ⟨w.heap.size, 0, none⟩ = some (.string ⟨#[97, 108, 108, 111, 99]⟩) := by simp
  have q1 : (w.alloc (.cells #[.string ⟨#[97, 108, 108, 111, 99]⟩, .int .i64 i, .int .i64 xb, .int .i64 xc, .string xt] 44)).cell? ⟨w.heap.size, 1, none⟩ = some (.int .i64 i) := by simp
  have q2 : (w.alloc (.cells #[.string ⟨#[97, 108, 108, 111, 99]⟩, .int .i64 i, .int .i64 xb, .int .i64 xc, .string xt] 44)).cell? ⟨w.heap.size, 2, none⟩ = some (.int .i64 xb) := by simp
  have q3 : (w.alloc (.cells #[.string ⟨#[97, 108, 108, 111, 99]⟩, .int .i64 i, .int .i64 xb, .int .i64 xc, .string xt] 44)).cell? ⟨w.heap.size, 3, none⟩ = some (.int .i64 xc) := by simp
  have D1 := D.below hba
  have hlw := D.at'.lt
  have gi := D1.at'.reg t i t6 (by omega)
  have li : (i : Int) < 8 := by omega
  generalize hw : w.alloc (.cells #[.string ⟨#[97, 108, 108, 111, 99]⟩, .int .i64 i, .int .i64 xb, .int .i64 xc, .string xt] 44) = w1 at *
  have HL : Hid (Calls Tryz.prog 87 #[.pointer (some ⟨p.b, 0, none⟩), .int .i64 t] (w1.drewN 1) fun e w'' => e = .returned (.int .i64 (m.allocV)) ∧ (w''.cell? ⟨w.heap.size, 1, none⟩ = some (.int .i64 i) ∧ w''.cell? ⟨p.b, 585 + t * 9 + i, none⟩ = some (.int .i64 (m.regs t i))) ∧ w''.frozen? ⟨p.b, 585 + t * 9 + i, none⟩ = false ∧ Hid (MkStep a cs p w p.mv (m.allocM) w'')) :=
    (kalloc_any (D1.at'.drewN 1) D.ht D.given).mono fun e w'' ⟨e1, e2⟩ => by
      have keepB : ∀ {o : Nat} {u : Value}, w1.cell? ⟨w.heap.size, o, none⟩ = some u → w''.cell? ⟨w.heap.size, o, none⟩ = some u := fun hc => e2.keep (w := w1.drewN 1) hc (fun e => by have := D.at'.fp_lt e; omega)
      have keepR : ∀ r, r < 8 → w''.cell? ⟨p.b, 585 + t * 9 + r, none⟩ = some (.int .i64 (m.regs t r)) := fun r hr => by have := e2.at'.reg t r t6 hr; rw [Mk.allocM_regs] at this; exact this
      exact ⟨e1, ⟨keepB q1, keepR i (by omega)⟩, e2.at'.frozen _ (by omega) (by omega), MkStep.of_below (below_dN hba 1) e2⟩
  clear D D1 hba
  generalize m.allocV = V at *
  generalize m.allocM = m1 at *
  generalize m.regs t i = Ri at *
  go_enter Tryz.func72, Tryz.ntmps72
  go_wp2_with fail
  clear hw
  refine wp_region_F (S := (fun w' => w'.cell? ⟨w.heap.size, 1, none⟩ = some (.int .i64 i) ∧ w'.cell? ⟨p.b, 585 + t * 9 + i, none⟩ = some (.int .i64 Ri))) (by kernel_rfl) (by (try dsimp only); go_keep) (fun hHeld => ?_)
  refine' wpAnyF_take (i := 0) (n := 8) (v := _) rfl (by kernel_rfl) (fun _ _ _ h => h) (by assumption) (Or.inl ⟨by rfl, ?hy65⟩) ?rest65
  case' hy65 => (intro w' hSw; (try dsimp only at hSw); go_simp; try with_reducible rfl)
  try simp only [Act.put, List.getElem_toArray, List.getElem_cons_zero, List.setIfInBounds_toArray, List.set_cons_zero, List.set_cons_succ]
  refine' wpAnyF_take (i := 1) (n := 8) (v := _) rfl (by kernel_rfl) (fun _ _ _ h => h) (by assumption) (Or.inl ⟨by rfl, ?hy66⟩) ?rest66
  case' hy66 => (intro w' hSw; (try dsimp only at hSw); go_simp; try with_reducible rfl)
  try simp only [Act.put, List.getElem_toArray, List.getElem_cons_zero, List.getElem_cons_succ, List.setIfInBounds_toArray, List.set_cons_zero, List.set_cons_succ]
  refine' wpAnyF_take (i := 2) (n := 8) (v := _) rfl (by kernel_rfl) (fun _ _ _ h => h) (by assumption) (Or.inl ⟨by rfl, ?hy67⟩) ?rest67
  case' hy67 => (intro w' hSw; (try dsimp only at hSw); go_simp; try with_reducible rfl)
  try simp only [Act.put, List.getElem_toArray, List.getElem_cons_zero, List.getElem_cons_succ, List.setIfInBounds_toArray, List.set_cons_zero, List.set_cons_succ]
  refine' wpAnyF_take (i := 3) (n := 8) (v := _) rfl (by kernel_rfl) (fun _ _ _ h => h) (by assumption) (Or.inl ⟨by rfl, ?hy68⟩) ?rest68
  case' hy68 => (intro w' hSw; (try dsimp only at hSw); go_simp; try with_reducible rfl)
  try simp only [Act.put, List.getElem_toArray, List.getElem_cons_zero, List.getElem_cons_succ, List.setIfInBounds_toArray, List.set_cons_zero, List.set_cons_succ]
  refine' wpAnyF_take (i := 4) (n := 8) (v := _) rfl (by kernel_rfl) (fun _ _ _ h => h) (by assumption) (Or.inl ⟨by rfl, ?hy69⟩) ?rest69
  case' hy69 => (intro w' hSw; (try dsimp only at hSw); go_simp; try with_reducible rfl)
  try simp only [Act.put, List.getElem_toArray, List.getElem_cons_zero, List.getElem_cons_succ, List.setIfInBounds_toArray, List.set_cons_zero, List.set_cons_succ]
  refine' wpAnyF_take (i := 6) (n := 8) (v := _) rfl (by kernel_rfl) (fun _ _ _ h => h) (by assumption) (Or.inl ⟨by rfl, ?hy70⟩) ?rest70
  case' hy70 => (intro w' hSw; (try dsimp only at hSw); go_simp; try with_reducible rfl)
  try simp only [Act.put, List.getElem_toArray, List.getElem_cons_zero, List.getElem_cons_succ, List.setIfInBounds_toArray, List.set_cons_zero, List.set_cons_succ]
  refine wpAnyF_only (i := 5) rfl (by kernel_rfl) (fun K hK => ?_)
  go_simp
  go_at_call 87
  refine HL.out.mono ?_
  rintro e w4 ⟨rfl, hs4, z4, k4⟩
  dsimp only
  refine hK.out _ _ (Or.inr (by (try dsimp only); exact hs4)) ?_
  clear hK K
  try simp only [Act.put, List.getElem_toArray, List.getElem_cons_zero, List.getElem_cons_succ, List.setIfInBounds_toArray, List.set_cons_zero, List.set_cons_succ]
  refine' wpAnyF_take (i := 7) (n := 8) (v := _) rfl (by kernel_rfl) (fun _ _ _ h => h) (by assumption) (Or.inl ⟨by rfl, ?hy71⟩) ?rest71
  case' hy71 => (intro w' hSw; (try dsimp only at hSw); go_simp; try with_reducible rfl)
  try simp only [Act.put, List.getElem_toArray, List.getElem_cons_zero, List.getElem_cons_succ, List.setIfInBounds_toArray, List.set_cons_zero, List.set_cons_succ]
  obtain ⟨s0, s1⟩ := hs4
  refine wpAnyF_only (i := 8) rfl (by kernel_rfl) (fun K hK => ?_)
  go_simp
  refine hK.out _ _ (Or.inl (by kernel_rfl)) ?_
  clear hK K
  try simp only [Act.put, List.getElem_toArray, List.getElem_cons_zero, List.getElem_cons_succ, List.setIfInBounds_toArray, List.set_cons_zero, List.set_cons_succ]
  refine wpAnyF_done (by kernel_rfl) ?_ _
  go_wp2
  go_end0
  exact ⟨rfl, k4.out.trans (k4.out.at'.setReg t6 (by omega) V)⟩

set_option maxRecDepth 20000 in
set_option maxHeartbeats 2000000 in
theorem ktouch_store {a : Nat → Addr} {cs : List (List Ins)} {p : MkPl} {m : Mk} {K t : Nat} {w : World} (D : DoX a cs p m K t w) (L : List Ins) (x : Ins) (e : x.op = ⟨#[115, 116, 111, 114, 101]⟩) {i : Nat} (hi : i < 8) (ei : x.a = i) {j : Nat} (hj : j < 8) (ej : x.b = j) {k : Nat} (hk : k < 4) (ek : x.c = k) :
    Calls Tryz.prog 72 #[.pointer (some ⟨p.b, 0, none⟩), .int .i64 t, .agg #[.string x.op, .int .i64 x.a, .int .i64 x.b, .int .i64 x.c, .string x.to]] w fun e w' => e = .returned (.tuple #[]) ∧ MkStep a cs p w p.mv (m.exec L t x) w' := by
  rw [exec_store m L t e]
  rw [ei]
  rw [ej]
  rw [ek]
  simp only [Int.toNat_natCast]
  obtain ⟨xo, xa, xb, xc, xt⟩ := x
  dsimp only at e ei ej ek ⊢
  subst e ei ej ek
  have t6 := D.t6
  have t6i : (t : Int) < 6 := by omega
  have hba : Below w.heap.size w (w.alloc (.cells #[.string ⟨#[115, 116, 111, 114, 101]⟩, .int .i64 i, .int .i64 j, .int .i64 k, .string xt] 44)) := (Below.refl _ _).alloc (Nat.le_refl _) _
  have q0 : (w.alloc (.cells #[.string ⟨#[115, 116, 111, 114, 101]⟩, .int .i64 i, .int .i64 j, .int .i64 k, .string xt] 44)).cell? ⟨w.heap.size, 0, none⟩ = some (.string ⟨#[115, 116, 111, 114, 101]⟩) := by simp
  have q1 : (w.alloc (.cells #[.string ⟨#[115, 116, 111, 114, 101]⟩, .int .i64 i, .int .i64 j, .int .i64 k, .string xt] 44)).cell? ⟨w.heap.size, 1, none⟩ = some (.int .i64 i) := by simp
  have q2 : (w.alloc (.cells #[.string ⟨#[115, 116, 111, 114, 101]⟩, .int .i64 i, .int .i64 j, .int .i64 k, .string xt] 44)).cell? ⟨w.heap.size, 2, none⟩ = some (.int .i64 j) := by simp
  have q3 : (w.alloc (.cells #[.string ⟨#[115, 116, 111, 114, 101]⟩, .int .i64 i, .int .i64 j, .int .i64 k, .string xt] 44)).cell? ⟨w.heap.size, 3, none⟩ = some (.int .i64 k) := by simp
  have D1 := D.below hba
  have hlw := D.at'.lt
  have gi := D1.at'.reg t i t6 (by omega)
  have gj := D1.at'.reg t j t6 (by omega)
  have li : (i : Int) < 8 := by omega
  have lj : (j : Int) < 8 := by omega
  have lk : (k : Int) < 4 := by omega
  generalize hw : w.alloc (.cells #[.string ⟨#[115, 116, 111, 114, 101]⟩, .int .i64 i, .int .i64 j, .int .i64 k, .string xt] 44) = w1 at *
  have HL : Hid (Calls Tryz.prog 84 #[.pointer (some ⟨p.b, 0, none⟩), .int .i64 t, .int .i64 (m.regs t i), .int .i64 k, .int .i64 (m.regs t j)] (w1.drewN 1) fun e w'' => e = .returned (.tuple #[]) ∧ Hid (MkStep a cs p w p.mv (m.store t (m.regs t i) k (m.regs t j)) w'')) :=
    (kstore_any (D1.at'.drewN 1) D.ht D.waits D.faults (D.ok.regs _ _) hk (D.ok.regs _ _)).mono fun e w'' ⟨e1, e2⟩ => ⟨e1, MkStep.of_below (below_dN hba 1) e2⟩
  clear D D1 hba
  generalize m.store t (m.regs t i) k (m.regs t j) = m1 at *
  generalize m.regs t i = Ri at *
  generalize m.regs t j = Rj at *
  go_enter Tryz.func72, Tryz.ntmps72
  go_wp2_with fail
  clear hw
  refine wp_region_F (S := (fun w' => w'.cell? ⟨w.heap.size, 1, none⟩ = some (.int .i64 i) ∧ w'.cell? ⟨w.heap.size, 2, none⟩ = some (.int .i64 j) ∧ w'.cell? ⟨w.heap.size, 3, none⟩ = some (.int .i64 k) ∧ w'.cell? ⟨p.b, 585 + t * 9 + i, none⟩ = some (.int .i64 Ri) ∧ w'.cell? ⟨p.b, 585 + t * 9 + j, none⟩ = some (.int .i64 Rj))) (by kernel_rfl) (by (try dsimp only); go_keep) (fun hHeld => ?_)
  refine' wpAnyF_take (i := 0) (n := 16) (v := _) rfl (by kernel_rfl) (fun _ _ _ h => h) (by assumption) (Or.inl ⟨by rfl, ?hy72⟩) ?rest72
  case' hy72 => (intro w' hSw; (try dsimp only at hSw); go_simp; try with_reducible rfl)
  try simp only [Act.put, List.getElem_toArray, List.getElem_cons_zero, List.setIfInBounds_toArray, List.set_cons_zero, List.set_cons_succ]
  refine' wpAnyF_take (i := 1) (n := 16) (v := _) rfl (by kernel_rfl) (fun _ _ _ h => h) (by assumption) (Or.inl ⟨by rfl, ?hy73⟩) ?rest73
  case' hy73 => (intro w' hSw; (try dsimp only at hSw); go_simp; try with_reducible rfl)
  try simp only [Act.put, List.getElem_toArray, List.getElem_cons_zero, List.getElem_cons_succ, List.setIfInBounds_toArray, List.set_cons_zero, List.set_cons_succ]
  refine' wpAnyF_take (i := 2) (n := 16) (v := _) rfl (by kernel_rfl) (fun _ _ _ h => h) (by assumption) (Or.inl ⟨by rfl, ?hy74⟩) ?rest74
  case' hy74 => (intro w' hSw; (try dsimp only at hSw); go_simp; try with_reducible rfl)
  try simp only [Act.put, List.getElem_toArray, List.getElem_cons_zero, List.getElem_cons_succ, List.setIfInBounds_toArray, List.set_cons_zero, List.set_cons_succ]
  refine' wpAnyF_take (i := 3) (n := 16) (v := _) rfl (by kernel_rfl) (fun _ _ _ h => h) (by assumption) (Or.inl ⟨by rfl, ?hy75⟩) ?rest75
  case' hy75 => (intro w' hSw; (try dsimp only at hSw); go_simp; try with_reducible rfl)
  try simp only [Act.put, List.getElem_toArray, List.getElem_cons_zero, List.getElem_cons_succ, List.setIfInBounds_toArray, List.set_cons_zero, List.set_cons_succ]
  refine' wpAnyF_take (i := 4) (n := 16) (v := _) rfl (by kernel_rfl) (fun _ _ _ h => h) (by assumption) (Or.inl ⟨by rfl, ?hy76⟩) ?rest76
  case' hy76 => (intro w' hSw; (try dsimp only at hSw); go_simp; try with_reducible rfl)
  try simp only [Act.put, List.getElem_toArray, List.getElem_cons_zero, List.getElem_cons_succ, List.setIfInBounds_toArray, List.set_cons_zero, List.set_cons_succ]
  refine' wpAnyF_take (i := 5) (n := 16) (v := _) rfl (by kernel_rfl) (fun _ _ _ h => h) (by assumption) (Or.inl ⟨by rfl, ?hy77⟩) ?rest77
  case' hy77 => (intro w' hSw; (try dsimp only at hSw); go_simp; try with_reducible rfl)
  try simp only [Act.put, List.getElem_toArray, List.getElem_cons_zero, List.getElem_cons_succ, List.setIfInBounds_toArray, List.set_cons_zero, List.set_cons_succ]
  refine' wpAnyF_take (i := 6) (n := 16) (v := _) rfl (by kernel_rfl) (fun _ _ _ h => h) (by assumption) (Or.inl ⟨by rfl, ?hy78⟩) ?rest78
  case' hy78 => (intro w' hSw; (try dsimp only at hSw); go_simp; try with_reducible rfl)
  try simp only [Act.put, List.getElem_toArray, List.getElem_cons_zero, List.getElem_cons_succ, List.setIfInBounds_toArray, List.set_cons_zero, List.set_cons_succ]
  refine' wpAnyF_take (i := 7) (n := 16) (v := _) rfl (by kernel_rfl) (fun _ _ _ h => h) (by assumption) (Or.inl ⟨by rfl, ?hy79⟩) ?rest79
  case' hy79 => (intro w' hSw; (try dsimp only at hSw); go_simp; try with_reducible rfl)
  try simp only [Act.put, List.getElem_toArray, List.getElem_cons_zero, List.getElem_cons_succ, List.setIfInBounds_toArray, List.set_cons_zero, List.set_cons_succ]
  refine' wpAnyF_take (i := 8) (n := 16) (v := _) rfl (by kernel_rfl) (fun _ _ _ h => h) (by assumption) (Or.inl ⟨by rfl, ?hy80⟩) ?rest80
  case' hy80 => (intro w' hSw; (try dsimp only at hSw); go_simp; try with_reducible rfl)
  try simp only [Act.put, List.getElem_toArray, List.getElem_cons_zero, List.getElem_cons_succ, List.setIfInBounds_toArray, List.set_cons_zero, List.set_cons_succ]
  refine' wpAnyF_take (i := 9) (n := 16) (v := _) rfl (by kernel_rfl) (fun _ _ _ h => h) (by assumption) (Or.inl ⟨by rfl, ?hy81⟩) ?rest81
  case' hy81 => (intro w' hSw; (try dsimp only at hSw); go_simp; try with_reducible rfl)
  try simp only [Act.put, List.getElem_toArray, List.getElem_cons_zero, List.getElem_cons_succ, List.setIfInBounds_toArray, List.set_cons_zero, List.set_cons_succ]
  refine' wpAnyF_take (i := 10) (n := 16) (v := _) rfl (by kernel_rfl) (fun _ _ _ h => h) (by assumption) (Or.inl ⟨by rfl, ?hy82⟩) ?rest82
  case' hy82 => (intro w' hSw; (try dsimp only at hSw); go_simp; try with_reducible rfl)
  try simp only [Act.put, List.getElem_toArray, List.getElem_cons_zero, List.getElem_cons_succ, List.setIfInBounds_toArray, List.set_cons_zero, List.set_cons_succ]
  refine' wpAnyF_take (i := 11) (n := 16) (v := _) rfl (by kernel_rfl) (fun _ _ _ h => h) (by assumption) (Or.inl ⟨by rfl, ?hy83⟩) ?rest83
  case' hy83 => (intro w' hSw; (try dsimp only at hSw); go_simp; try with_reducible rfl)
  try simp only [Act.put, List.getElem_toArray, List.getElem_cons_zero, List.getElem_cons_succ, List.setIfInBounds_toArray, List.set_cons_zero, List.set_cons_succ]
  refine' wpAnyF_take (i := 12) (n := 16) (v := _) rfl (by kernel_rfl) (fun _ _ _ h => h) (by assumption) (Or.inl ⟨by rfl, ?hy84⟩) ?rest84
  case' hy84 => (intro w' hSw; (try dsimp only at hSw); go_simp; try with_reducible rfl)
  try simp only [Act.put, List.getElem_toArray, List.getElem_cons_zero, List.getElem_cons_succ, List.setIfInBounds_toArray, List.set_cons_zero, List.set_cons_succ]
  refine' wpAnyF_take (i := 13) (n := 16) (v := _) rfl (by kernel_rfl) (fun _ _ _ h => h) (by assumption) (Or.inl ⟨by rfl, ?hy85⟩) ?rest85
  case' hy85 => (intro w' hSw; (try dsimp only at hSw); go_simp; try with_reducible rfl)
  try simp only [Act.put, List.getElem_toArray, List.getElem_cons_zero, List.getElem_cons_succ, List.setIfInBounds_toArray, List.set_cons_zero, List.set_cons_succ]
  refine' wpAnyF_take (i := 14) (n := 16) (v := _) rfl (by kernel_rfl) (fun _ _ _ h => h) (by assumption) (Or.inl ⟨by rfl, ?hy86⟩) ?rest86
  case' hy86 => (intro w' hSw; (try dsimp only at hSw); go_simp; try with_reducible rfl)
  try simp only [Act.put, List.getElem_toArray, List.getElem_cons_zero, List.getElem_cons_succ, List.setIfInBounds_toArray, List.set_cons_zero, List.set_cons_succ]
  refine' wpAnyF_take (i := 15) (n := 16) (v := _) rfl (by kernel_rfl) (fun _ _ _ h => h) (by assumption) (Or.inl ⟨by rfl, ?hy87⟩) ?rest87
  case' hy87 => (intro w' hSw; (try dsimp only at hSw); go_simp; try with_reducible rfl)
  try simp only [Act.put, List.getElem_toArray, List.getElem_cons_zero, List.getElem_cons_succ, List.setIfInBounds_toArray, List.set_cons_zero, List.set_cons_succ]
  refine wpAnyF_only (i := 16) rfl (by kernel_rfl) (fun K hK => ?_)
  go_simp
  go_at_call 84
  refine HL.out.mono ?_
  rintro e w4 ⟨rfl, k4⟩
  dsimp only
  refine hK.out _ _ (Or.inl (by kernel_rfl)) ?_
  clear hK K
  try simp only [Act.put, List.getElem_toArray, List.getElem_cons_zero, List.getElem_cons_succ, List.setIfInBounds_toArray, List.set_cons_zero, List.set_cons_succ]
  refine wpAnyF_done (by kernel_rfl) ?_ _
  go_wp2
  go_end0
  exact ⟨rfl, k4.out⟩

set_option maxRecDepth 20000 in
set_option maxHeartbeats 2000000 in
theorem ktouch_free {a : Nat → Addr} {cs : List (List Ins)} {p : MkPl} {m : Mk} {K t : Nat} {w : World} (D : DoX a cs p m K t w) (L : List Ins) (x : Ins) (e : x.op = ⟨#[102, 114, 101, 101]⟩) {i : Nat} (hi : i < 8) (ei : x.a = i) :
    Calls Tryz.prog 72 #[.pointer (some ⟨p.b, 0, none⟩), .int .i64 t, .agg #[.string x.op, .int .i64 x.a, .int .i64 x.b, .int .i64 x.c, .string x.to]] w fun e w' => e = .returned (.tuple #[]) ∧ MkStep a cs p w p.mv (m.exec L t x) w' := by
  rw [exec_free m L t e]
  rw [ei]
  simp only [Int.toNat_natCast]
  obtain ⟨xo, xa, xb, xc, xt⟩ := x
  dsimp only at e ei ⊢
  subst e ei
  have t6 := D.t6
  have t6i : (t : Int) < 6 := by omega
  have hba : Below w.heap.size w (w.alloc (.cells #[.string ⟨#[102, 114, 101, 101]⟩, .int .i64 i, .int .i64 xb, .int .i64 xc, .string xt] 44)) := (Below.refl _ _).alloc (Nat.le_refl _) _
  have q0 : (w.alloc (.cells #[.string ⟨#[102, 114, 101, 101]⟩, .int .i64 i, .int .i64 xb, .int .i64 xc, .string xt] 44)).cell? ⟨w.heap.size, 0, none⟩ = some (.string ⟨#[102, 114, 101, 101]⟩) := by simp
  have q1 : (w.alloc (.cells #[.string ⟨#[102, 114, 101, 101]⟩, .int .i64 i, .int .i64 xb, .int .i64 xc, .string xt] 44)).cell? ⟨w.heap.size, 1, none⟩ = some (.int .i64 i) := by simp
  have q2 : (w.alloc (.cells #[.string ⟨#[102, 114, 101, 101]⟩, .int .i64 i, .int .i64 xb, .int .i64 xc, .string xt] 44)).cell? ⟨w.heap.size, 2, none⟩ = some (.int .i64 xb) := by simp
  have q3 : (w.alloc (.cells #[.string ⟨#[102, 114, 101, 101]⟩, .int .i64 i, .int .i64 xb, .int .i64 xc, .string xt] 44)).cell? ⟨w.heap.size, 3, none⟩ = some (.int .i64 xc) := by simp
  have D1 := D.below hba
  have hlw := D.at'.lt
  have gi := D1.at'.reg t i t6 (by omega)
  have li : (i : Int) < 8 := by omega
  generalize hw : w.alloc (.cells #[.string ⟨#[102, 114, 101, 101]⟩, .int .i64 i, .int .i64 xb, .int .i64 xc, .string xt] 44) = w1 at *
  have HL : Hid (Calls Tryz.prog 88 #[.pointer (some ⟨p.b, 0, none⟩), .int .i64 t, .int .i64 (m.regs t i)] (w1.drewN 1) fun e w'' => e = .returned (.tuple #[]) ∧ Hid (MkStep a cs p w p.mv (m.free t (m.regs t i)) w'')) :=
    (kfree_any (D1.at'.drewN 1) D.ht D.waits D.faults (D.ok.regs _ _)).mono fun e w'' ⟨e1, e2⟩ => ⟨e1, MkStep.of_below (below_dN hba 1) e2⟩
  clear D D1 hba
  generalize m.free t (m.regs t i) = m1 at *
  generalize m.regs t i = Ri at *
  go_enter Tryz.func72, Tryz.ntmps72
  go_wp2_with fail
  clear hw
  refine wp_region_F (S := (fun w' => w'.cell? ⟨w.heap.size, 1, none⟩ = some (.int .i64 i) ∧ w'.cell? ⟨p.b, 585 + t * 9 + i, none⟩ = some (.int .i64 Ri))) (by kernel_rfl) (by (try dsimp only); go_keep) (fun hHeld => ?_)
  refine' wpAnyF_take (i := 0) (n := 8) (v := _) rfl (by kernel_rfl) (fun _ _ _ h => h) (by assumption) (Or.inl ⟨by rfl, ?hy88⟩) ?rest88
  case' hy88 => (intro w' hSw; (try dsimp only at hSw); go_simp; try with_reducible rfl)
  try simp only [Act.put, List.getElem_toArray, List.getElem_cons_zero, List.setIfInBounds_toArray, List.set_cons_zero, List.set_cons_succ]
  refine' wpAnyF_take (i := 1) (n := 8) (v := _) rfl (by kernel_rfl) (fun _ _ _ h => h) (by assumption) (Or.inl ⟨by rfl, ?hy89⟩) ?rest89
  case' hy89 => (intro w' hSw; (try dsimp only at hSw); go_simp; try with_reducible rfl)
  try simp only [Act.put, List.getElem_toArray, List.getElem_cons_zero, List.getElem_cons_succ, List.setIfInBounds_toArray, List.set_cons_zero, List.set_cons_succ]
  refine' wpAnyF_take (i := 2) (n := 8) (v := _) rfl (by kernel_rfl) (fun _ _ _ h => h) (by assumption) (Or.inl ⟨by rfl, ?hy90⟩) ?rest90
  case' hy90 => (intro w' hSw; (try dsimp only at hSw); go_simp; try with_reducible rfl)
  try simp only [Act.put, List.getElem_toArray, List.getElem_cons_zero, List.getElem_cons_succ, List.setIfInBounds_toArray, List.set_cons_zero, List.set_cons_succ]
  refine' wpAnyF_take (i := 3) (n := 8) (v := _) rfl (by kernel_rfl) (fun _ _ _ h => h) (by assumption) (Or.inl ⟨by rfl, ?hy91⟩) ?rest91
  case' hy91 => (intro w' hSw; (try dsimp only at hSw); go_simp; try with_reducible rfl)
  try simp only [Act.put, List.getElem_toArray, List.getElem_cons_zero, List.getElem_cons_succ, List.setIfInBounds_toArray, List.set_cons_zero, List.set_cons_succ]
  refine' wpAnyF_take (i := 4) (n := 8) (v := _) rfl (by kernel_rfl) (fun _ _ _ h => h) (by assumption) (Or.inl ⟨by rfl, ?hy92⟩) ?rest92
  case' hy92 => (intro w' hSw; (try dsimp only at hSw); go_simp; try with_reducible rfl)
  try simp only [Act.put, List.getElem_toArray, List.getElem_cons_zero, List.getElem_cons_succ, List.setIfInBounds_toArray, List.set_cons_zero, List.set_cons_succ]
  refine' wpAnyF_take (i := 5) (n := 8) (v := _) rfl (by kernel_rfl) (fun _ _ _ h => h) (by assumption) (Or.inl ⟨by rfl, ?hy93⟩) ?rest93
  case' hy93 => (intro w' hSw; (try dsimp only at hSw); go_simp; try with_reducible rfl)
  try simp only [Act.put, List.getElem_toArray, List.getElem_cons_zero, List.getElem_cons_succ, List.setIfInBounds_toArray, List.set_cons_zero, List.set_cons_succ]
  refine' wpAnyF_take (i := 6) (n := 8) (v := _) rfl (by kernel_rfl) (fun _ _ _ h => h) (by assumption) (Or.inl ⟨by rfl, ?hy94⟩) ?rest94
  case' hy94 => (intro w' hSw; (try dsimp only at hSw); go_simp; try with_reducible rfl)
  try simp only [Act.put, List.getElem_toArray, List.getElem_cons_zero, List.getElem_cons_succ, List.setIfInBounds_toArray, List.set_cons_zero, List.set_cons_succ]
  refine' wpAnyF_take (i := 7) (n := 8) (v := _) rfl (by kernel_rfl) (fun _ _ _ h => h) (by assumption) (Or.inl ⟨by rfl, ?hy95⟩) ?rest95
  case' hy95 => (intro w' hSw; (try dsimp only at hSw); go_simp; try with_reducible rfl)
  try simp only [Act.put, List.getElem_toArray, List.getElem_cons_zero, List.getElem_cons_succ, List.setIfInBounds_toArray, List.set_cons_zero, List.set_cons_succ]
  refine wpAnyF_only (i := 8) rfl (by kernel_rfl) (fun K hK => ?_)
  go_simp
  go_at_call 88
  refine HL.out.mono ?_
  rintro e w4 ⟨rfl, k4⟩
  dsimp only
  refine hK.out _ _ (Or.inl (by kernel_rfl)) ?_
  clear hK K
  try simp only [Act.put, List.getElem_toArray, List.getElem_cons_zero, List.getElem_cons_succ, List.setIfInBounds_toArray, List.set_cons_zero, List.set_cons_succ]
  refine wpAnyF_done (by kernel_rfl) ?_ _
  go_wp2
  go_end0
  exact ⟨rfl, k4.out⟩

set_option maxRecDepth 20000 in
set_option maxHeartbeats 2000000 in
theorem ktouch_fence {a : Nat → Addr} {cs : List (List Ins)} {p : MkPl} {m : Mk} {K t : Nat} {w : World} (D : DoX a cs p m K t w) (L : List Ins) (x : Ins) (e : x.op = ⟨#[102, 101, 110, 99, 101]⟩) :
    Calls Tryz.prog 72 #[.pointer (some ⟨p.b, 0, none⟩), .int .i64 t, .agg #[.string x.op, .int .i64 x.a, .int .i64 x.b, .int .i64 x.c, .string x.to]] w fun e w' => e = .returned (.tuple #[]) ∧ MkStep a cs p w p.mv (m.exec L t x) w' := by
  rw [exec_fence m L t e]
  obtain ⟨xo, xa, xb, xc, xt⟩ := x
  dsimp only at e ⊢
  subst e
  have t6 := D.t6
  have t6i : (t : Int) < 6 := by omega
  have hba : Below w.heap.size w (w.alloc (.cells #[.string ⟨#[102, 101, 110, 99, 101]⟩, .int .i64 xa, .int .i64 xb, .int .i64 xc, .string xt] 44)) := (Below.refl _ _).alloc (Nat.le_refl _) _
  have q0 : (w.alloc (.cells #[.string ⟨#[102, 101, 110, 99, 101]⟩, .int .i64 xa, .int .i64 xb, .int .i64 xc, .string xt] 44)).cell? ⟨w.heap.size, 0, none⟩ = some (.string ⟨#[102, 101, 110, 99, 101]⟩) := by simp
  have q1 : (w.alloc (.cells #[.string ⟨#[102, 101, 110, 99, 101]⟩, .int .i64 xa, .int .i64 xb, .int .i64 xc, .string xt] 44)).cell? ⟨w.heap.size, 1, none⟩ = some (.int .i64 xa) := by simp
  have q2 : (w.alloc (.cells #[.string ⟨#[102, 101, 110, 99, 101]⟩, .int .i64 xa, .int .i64 xb, .int .i64 xc, .string xt] 44)).cell? ⟨w.heap.size, 2, none⟩ = some (.int .i64 xb) := by simp
  have q3 : (w.alloc (.cells #[.string ⟨#[102, 101, 110, 99, 101]⟩, .int .i64 xa, .int .i64 xb, .int .i64 xc, .string xt] 44)).cell? ⟨w.heap.size, 3, none⟩ = some (.int .i64 xc) := by simp
  have D1 := D.below hba
  have hlw := D.at'.lt
  generalize hw : w.alloc (.cells #[.string ⟨#[102, 101, 110, 99, 101]⟩, .int .i64 xa, .int .i64 xb, .int .i64 xc, .string xt] 44) = w1 at *
  have HL : Hid (Calls Tryz.prog 89 #[.pointer (some ⟨p.b, 0, none⟩), .int .i64 t] (w1) fun e w'' => e = .returned (.tuple #[]) ∧ Hid (MkStep a cs p w p.mv (m.fence t) w'')) :=
    (kfence_any D.ht D1.at' D.waits D.faults).mono fun e w'' ⟨e1, e2⟩ => ⟨e1, MkStep.of_below (hba) e2⟩
  clear D D1 hba
  generalize m.fence t = m1 at *
  go_enter Tryz.func72, Tryz.ntmps72
  go_wp2_with fail
  clear hw
  refine HL.out.mono ?_
  rintro e w4 ⟨rfl, k4⟩
  go_wp2
  go_end0
  exact ⟨rfl, k4.out⟩

end Go.Proofs.YtnnlkolhahjokaaGreatDoor

/- MkU -/
namespace Go.Proofs.YtnnlkolhahjokaaGreatDoor
open Go.RowKit Go.Extern.Stop Go.Stop Go.Extern Go.Maps Go.WideMaps Go.Sort

theorem kjump_any {a : Nat → Addr} {cs : List (List Ins)} {p : MkPl} {m : Mk} {t i : Nat} {L : List Ins} {to : ByteArray} (ht : cs[t]? = some L) (hs : to.size ≤ maxLen) (hi : labelAt L to = i) (f : Bool) {w : World} (h : MkAt a cs p m w) :
    Calls Tryz.prog 69 #[.pointer (some ⟨p.b, 0, none⟩), .int .i64 t, .string to, .bool f] w fun e w' => e = .returned (.tuple #[]) ∧ MkStep a cs p w p.mv (if f = true then m.jump t L to else m) w' := by
  cases f
  · exact kjump_no t to h
  · exact kjump_yes ht hs hi h

set_option maxRecDepth 20000 in
set_option maxHeartbeats 2000000 in
theorem kdo_const {a : Nat → Addr} {cs : List (List Ins)} {p : MkPl} {m : Mk} {K t : Nat} {w : World} (D : DoX a cs p m K t w) (L : List Ins) (x : Ins) (e : x.op = ⟨#[99, 111, 110, 115, 116]⟩) {i : Nat} (hi : i < 8) (ei : x.a = i) :
    Calls Tryz.prog 49 #[.pointer (some ⟨p.b, 0, none⟩), .int .i64 t, .agg #[.string x.op, .int .i64 x.a, .int .i64 x.b, .int .i64 x.c, .string x.to]] w fun e w' => e = .returned (.tuple #[]) ∧ ∃ v, MkStep a cs p w v (m.exec L t x) w' := by
  rw [exec_const m L t e]
  rw [ei]
  simp only [Int.toNat_natCast]
  obtain ⟨xo, xa, xb, xc, xt⟩ := x
  dsimp only at e ei ⊢
  subst e ei
  have t6 := D.t6
  have t6i : (t : Int) < 6 := by omega
  have hba : Below w.heap.size w (w.alloc (.cells #[.string ⟨#[99, 111, 110, 115, 116]⟩, .int .i64 i, .int .i64 xb, .int .i64 xc, .string xt] 44)) := (Below.refl _ _).alloc (Nat.le_refl _) _
  have q0 : (w.alloc (.cells #[.string ⟨#[99, 111, 110, 115, 116]⟩, .int .i64 i, .int .i64 xb, .int .i64 xc, .string xt] 44)).cell? ⟨w.heap.size, 0, none⟩ = some (.string ⟨#[99, 111, 110, 115, 116]⟩) := by simp
  have q1 : (w.alloc (.cells #[.string ⟨#[99, 111, 110, 115, 116]⟩, .int .i64 i, .int .i64 xb, .int .i64 xc, .string xt] 44)).cell? ⟨w.heap.size, 1, none⟩ = some (.int .i64 i) := by simp
  have q2 : (w.alloc (.cells #[.string ⟨#[99, 111, 110, 115, 116]⟩, .int .i64 i, .int .i64 xb, .int .i64 xc, .string xt] 44)).cell? ⟨w.heap.size, 2, none⟩ = some (.int .i64 xb) := by simp
  have q3 : (w.alloc (.cells #[.string ⟨#[99, 111, 110, 115, 116]⟩, .int .i64 i, .int .i64 xb, .int .i64 xc, .string xt] 44)).cell? ⟨w.heap.size, 3, none⟩ = some (.int .i64 xc) := by simp
  have q4 : (w.alloc (.cells #[.string ⟨#[99, 111, 110, 115, 116]⟩, .int .i64 i, .int .i64 xb, .int .i64 xc, .string xt] 44)).cell? ⟨w.heap.size, 4, none⟩ = some (.string xt) := by simp
  have D1 := D.below hba
  have hlw := D.at'.lt
  have gi := D1.at'.reg t i t6 (by omega)
  have li : (i : Int) < 8 := by omega
  generalize hw : w.alloc (.cells #[.string ⟨#[99, 111, 110, 115, 116]⟩, .int .i64 i, .int .i64 xb, .int .i64 xc, .string xt] 44) = w1 at *
  have zi : w1.frozen? ⟨p.b, 585 + t * 9 + i, none⟩ = false := D1.at'.frozen _ (by omega) (by omega)
  have HS : Hid (MkStep a cs p w p.mv (m.setReg t i xb) ((w1.setCell ⟨p.b, 585 + t * 9 + i, none⟩ (.int .i64 xb)).drew)) := (MkStep.of_below hba (D1.at'.setReg t6 (by omega) xb)).below (Below.refl _ _).drew
  clear D D1 hba
  generalize m.regs t i = Ri at *
  go_enter Tryz.func49, Tryz.ntmps49
  go_wp2_with fail
  clear hw
  refine wp_region_F (S := (fun w' => w'.cell? ⟨w.heap.size, 1, none⟩ = some (.int .i64 i) ∧ w'.cell? ⟨w.heap.size, 2, none⟩ = some (.int .i64 xb))) (by kernel_rfl) (by (try dsimp only); go_keep) (fun hHeld => ?_)
  refine' wpAnyF_take (i := 0) (n := 7) (v := _) rfl (by kernel_rfl) (fun _ _ _ h => h) (by assumption) (Or.inl ⟨by rfl, ?hy1⟩) ?rest1
  case' hy1 => (intro w' hSw; (try dsimp only at hSw); go_simp; try with_reducible rfl)
  try simp only [Act.put, List.getElem_toArray, List.getElem_cons_zero, List.setIfInBounds_toArray, List.set_cons_zero, List.set_cons_succ]
  refine' wpAnyF_take (i := 1) (n := 7) (v := _) rfl (by kernel_rfl) (fun _ _ _ h => h) (by assumption) (Or.inl ⟨by rfl, ?hy2⟩) ?rest2
  case' hy2 => (intro w' hSw; (try dsimp only at hSw); go_simp; try with_reducible rfl)
  try simp only [Act.put, List.getElem_toArray, List.getElem_cons_zero, List.getElem_cons_succ, List.setIfInBounds_toArray, List.set_cons_zero, List.set_cons_succ]
  refine' wpAnyF_take (i := 2) (n := 7) (v := _) rfl (by kernel_rfl) (fun _ _ _ h => h) (by assumption) (Or.inl ⟨by rfl, ?hy3⟩) ?rest3
  case' hy3 => (intro w' hSw; (try dsimp only at hSw); go_simp; try with_reducible rfl)
  try simp only [Act.put, List.getElem_toArray, List.getElem_cons_zero, List.getElem_cons_succ, List.setIfInBounds_toArray, List.set_cons_zero, List.set_cons_succ]
  refine' wpAnyF_take (i := 3) (n := 7) (v := _) rfl (by kernel_rfl) (fun _ _ _ h => h) (by assumption) (Or.inl ⟨by rfl, ?hy4⟩) ?rest4
  case' hy4 => (intro w' hSw; (try dsimp only at hSw); go_simp; try with_reducible rfl)
  try simp only [Act.put, List.getElem_toArray, List.getElem_cons_zero, List.getElem_cons_succ, List.setIfInBounds_toArray, List.set_cons_zero, List.set_cons_succ]
  refine' wpAnyF_take (i := 4) (n := 7) (v := _) rfl (by kernel_rfl) (fun _ _ _ h => h) (by assumption) (Or.inl ⟨by rfl, ?hy5⟩) ?rest5
  case' hy5 => (intro w' hSw; (try dsimp only at hSw); go_simp; try with_reducible rfl)
  try simp only [Act.put, List.getElem_toArray, List.getElem_cons_zero, List.getElem_cons_succ, List.setIfInBounds_toArray, List.set_cons_zero, List.set_cons_succ]
  refine' wpAnyF_take (i := 5) (n := 7) (v := _) rfl (by kernel_rfl) (fun _ _ _ h => h) (by assumption) (Or.inl ⟨by rfl, ?hy6⟩) ?rest6
  case' hy6 => (intro w' hSw; (try dsimp only at hSw); go_simp; try with_reducible rfl)
  try simp only [Act.put, List.getElem_toArray, List.getElem_cons_zero, List.getElem_cons_succ, List.setIfInBounds_toArray, List.set_cons_zero, List.set_cons_succ]
  refine' wpAnyF_take (i := 6) (n := 7) (v := _) rfl (by kernel_rfl) (fun _ _ _ h => h) (by assumption) (Or.inl ⟨by rfl, ?hy7⟩) ?rest7
  case' hy7 => (intro w' hSw; (try dsimp only at hSw); go_simp; try with_reducible rfl)
  try simp only [Act.put, List.getElem_toArray, List.getElem_cons_zero, List.getElem_cons_succ, List.setIfInBounds_toArray, List.set_cons_zero, List.set_cons_succ]
  clear hHeld
  refine wpAnyF_only (i := 7) rfl (by kernel_rfl) (fun K hK => ?_)
  go_simp
  refine hK.out _ _ (Or.inl (by kernel_rfl)) ?_
  clear hK K
  try simp only [Act.put, List.getElem_toArray, List.getElem_cons_zero, List.getElem_cons_succ, List.setIfInBounds_toArray, List.set_cons_zero, List.set_cons_succ]
  refine wpAnyF_done (by kernel_rfl) ?_ _
  go_wp2
  go_end0
  exact ⟨rfl, _, HS.out⟩

set_option maxRecDepth 20000 in
set_option maxHeartbeats 2000000 in
theorem kdo_move {a : Nat → Addr} {cs : List (List Ins)} {p : MkPl} {m : Mk} {K t : Nat} {w : World} (D : DoX a cs p m K t w) (L : List Ins) (x : Ins) (e : x.op = ⟨#[109, 111, 118, 101]⟩) {i : Nat} (hi : i < 8) (ei : x.a = i) {j : Nat} (hj : j < 8) (ej : x.b = j) :
    Calls Tryz.prog 49 #[.pointer (some ⟨p.b, 0, none⟩), .int .i64 t, .agg #[.string x.op, .int .i64 x.a, .int .i64 x.b, .int .i64 x.c, .string x.to]] w fun e w' => e = .returned (.tuple #[]) ∧ ∃ v, MkStep a cs p w v (m.exec L t x) w' := by
  rw [exec_move m L t e]
  rw [ei]
  rw [ej]
  simp only [Int.toNat_natCast]
  obtain ⟨xo, xa, xb, xc, xt⟩ := x
  dsimp only at e ei ej ⊢
  subst e ei ej
  have t6 := D.t6
  have t6i : (t : Int) < 6 := by omega
  have hba : Below w.heap.size w (w.alloc (.cells #[.string ⟨#[109, 111, 118, 101]⟩, .int .i64 i, .int .i64 j, .int .i64 xc, .string xt] 44)) := (Below.refl _ _).alloc (Nat.le_refl _) _
  have q0 : (w.alloc (.cells #[.string ⟨#[109, 111, 118, 101]⟩, .int .i64 i, .int .i64 j, .int .i64 xc, .string xt] 44)).cell? ⟨w.heap.size, 0, none⟩ = some (.string ⟨#[109, 111, 118, 101]⟩) := by simp
  have q1 : (w.alloc (.cells #[.string ⟨#[109, 111, 118, 101]⟩, .int .i64 i, .int .i64 j, .int .i64 xc, .string xt] 44)).cell? ⟨w.heap.size, 1, none⟩ = some (.int .i64 i) := by simp
  have q2 : (w.alloc (.cells #[.string ⟨#[109, 111, 118, 101]⟩, .int .i64 i, .int .i64 j, .int .i64 xc, .string xt] 44)).cell? ⟨w.heap.size, 2, none⟩ = some (.int .i64 j) := by simp
  have q3 : (w.alloc (.cells #[.string ⟨#[109, 111, 118, 101]⟩, .int .i64 i, .int .i64 j, .int .i64 xc, .string xt] 44)).cell? ⟨w.heap.size, 3, none⟩ = some (.int .i64 xc) := by simp
  have q4 : (w.alloc (.cells #[.string ⟨#[109, 111, 118, 101]⟩, .int .i64 i, .int .i64 j, .int .i64 xc, .string xt] 44)).cell? ⟨w.heap.size, 4, none⟩ = some (.string xt) := by simp
  have D1 := D.below hba
  have hlw := D.at'.lt
  have gi := D1.at'.reg t i t6 (by omega)
  have gj := D1.at'.reg t j t6 (by omega)
  have li : (i : Int) < 8 := by omega
  have lj : (j : Int) < 8 := by omega
  generalize hw : w.alloc (.cells #[.string ⟨#[109, 111, 118, 101]⟩, .int .i64 i, .int .i64 j, .int .i64 xc, .string xt] 44) = w1 at *
  have zi : w1.frozen? ⟨p.b, 585 + t * 9 + i, none⟩ = false := D1.at'.frozen _ (by omega) (by omega)
  have HS : Hid (MkStep a cs p w p.mv (m.setReg t i (m.regs t j)) ((w1.setCell ⟨p.b, 585 + t * 9 + i, none⟩ (.int .i64 (m.regs t j))).drew)) := (MkStep.of_below hba (D1.at'.setReg t6 (by omega) (m.regs t j))).below (Below.refl _ _).drew
  clear D D1 hba
  generalize m.regs t i = Ri at *
  generalize m.regs t j = Rj at *
  go_enter Tryz.func49, Tryz.ntmps49
  go_wp2_with fail
  clear hw
  refine wp_region_F (S := (fun w' => w'.cell? ⟨w.heap.size, 1, none⟩ = some (.int .i64 i) ∧ w'.cell? ⟨w.heap.size, 2, none⟩ = some (.int .i64 j) ∧ w'.cell? ⟨p.b, 585 + t * 9 + i, none⟩ = some (.int .i64 Ri) ∧ w'.cell? ⟨p.b, 585 + t * 9 + j, none⟩ = some (.int .i64 Rj))) (by kernel_rfl) (by (try dsimp only); go_keep) (fun hHeld => ?_)
  refine' wpAnyF_take (i := 0) (n := 11) (v := _) rfl (by kernel_rfl) (fun _ _ _ h => h) (by assumption) (Or.inl ⟨by rfl, ?hy8⟩) ?rest8
  case' hy8 => (intro w' hSw; (try dsimp only at hSw); go_simp; try with_reducible rfl)
  try simp only [Act.put, List.getElem_toArray, List.getElem_cons_zero, List.setIfInBounds_toArray, List.set_cons_zero, List.set_cons_succ]
  refine' wpAnyF_take (i := 1) (n := 11) (v := _) rfl (by kernel_rfl) (fun _ _ _ h => h) (by assumption) (Or.inl ⟨by rfl, ?hy9⟩) ?rest9
  case' hy9 => (intro w' hSw; (try dsimp only at hSw); go_simp; try with_reducible rfl)
  try simp only [Act.put, List.getElem_toArray, List.getElem_cons_zero, List.getElem_cons_succ, List.setIfInBounds_toArray, List.set_cons_zero, List.set_cons_succ]
  refine' wpAnyF_take (i := 2) (n := 11) (v := _) rfl (by kernel_rfl) (fun _ _ _ h => h) (by assumption) (Or.inl ⟨by rfl, ?hy10⟩) ?rest10
  case' hy10 => (intro w' hSw; (try dsimp only at hSw); go_simp; try with_reducible rfl)
  try simp only [Act.put, List.getElem_toArray, List.getElem_cons_zero, List.getElem_cons_succ, List.setIfInBounds_toArray, List.set_cons_zero, List.set_cons_succ]
  refine' wpAnyF_take (i := 3) (n := 11) (v := _) rfl (by kernel_rfl) (fun _ _ _ h => h) (by assumption) (Or.inl ⟨by rfl, ?hy11⟩) ?rest11
  case' hy11 => (intro w' hSw; (try dsimp only at hSw); go_simp; try with_reducible rfl)
  try simp only [Act.put, List.getElem_toArray, List.getElem_cons_zero, List.getElem_cons_succ, List.setIfInBounds_toArray, List.set_cons_zero, List.set_cons_succ]
  refine' wpAnyF_take (i := 4) (n := 11) (v := _) rfl (by kernel_rfl) (fun _ _ _ h => h) (by assumption) (Or.inl ⟨by rfl, ?hy12⟩) ?rest12
  case' hy12 => (intro w' hSw; (try dsimp only at hSw); go_simp; try with_reducible rfl)
  try simp only [Act.put, List.getElem_toArray, List.getElem_cons_zero, List.getElem_cons_succ, List.setIfInBounds_toArray, List.set_cons_zero, List.set_cons_succ]
  refine' wpAnyF_take (i := 5) (n := 11) (v := _) rfl (by kernel_rfl) (fun _ _ _ h => h) (by assumption) (Or.inl ⟨by rfl, ?hy13⟩) ?rest13
  case' hy13 => (intro w' hSw; (try dsimp only at hSw); go_simp; try with_reducible rfl)
  try simp only [Act.put, List.getElem_toArray, List.getElem_cons_zero, List.getElem_cons_succ, List.setIfInBounds_toArray, List.set_cons_zero, List.set_cons_succ]
  refine' wpAnyF_take (i := 6) (n := 11) (v := _) rfl (by kernel_rfl) (fun _ _ _ h => h) (by assumption) (Or.inl ⟨by rfl, ?hy14⟩) ?rest14
  case' hy14 => (intro w' hSw; (try dsimp only at hSw); go_simp; try with_reducible rfl)
  try simp only [Act.put, List.getElem_toArray, List.getElem_cons_zero, List.getElem_cons_succ, List.setIfInBounds_toArray, List.set_cons_zero, List.set_cons_succ]
  refine' wpAnyF_take (i := 7) (n := 11) (v := _) rfl (by kernel_rfl) (fun _ _ _ h => h) (by assumption) (Or.inl ⟨by rfl, ?hy15⟩) ?rest15
  case' hy15 => (intro w' hSw; (try dsimp only at hSw); go_simp; try with_reducible rfl)
  try simp only [Act.put, List.getElem_toArray, List.getElem_cons_zero, List.getElem_cons_succ, List.setIfInBounds_toArray, List.set_cons_zero, List.set_cons_succ]
  refine' wpAnyF_take (i := 8) (n := 11) (v := _) rfl (by kernel_rfl) (fun _ _ _ h => h) (by assumption) (Or.inl ⟨by rfl, ?hy16⟩) ?rest16
  case' hy16 => (intro w' hSw; (try dsimp only at hSw); go_simp; try with_reducible rfl)
  try simp only [Act.put, List.getElem_toArray, List.getElem_cons_zero, List.getElem_cons_succ, List.setIfInBounds_toArray, List.set_cons_zero, List.set_cons_succ]
  refine' wpAnyF_take (i := 9) (n := 11) (v := _) rfl (by kernel_rfl) (fun _ _ _ h => h) (by assumption) (Or.inl ⟨by rfl, ?hy17⟩) ?rest17
  case' hy17 => (intro w' hSw; (try dsimp only at hSw); go_simp; try with_reducible rfl)
  try simp only [Act.put, List.getElem_toArray, List.getElem_cons_zero, List.getElem_cons_succ, List.setIfInBounds_toArray, List.set_cons_zero, List.set_cons_succ]
  refine' wpAnyF_take (i := 10) (n := 11) (v := _) rfl (by kernel_rfl) (fun _ _ _ h => h) (by assumption) (Or.inl ⟨by rfl, ?hy18⟩) ?rest18
  case' hy18 => (intro w' hSw; (try dsimp only at hSw); go_simp; try with_reducible rfl)
  try simp only [Act.put, List.getElem_toArray, List.getElem_cons_zero, List.getElem_cons_succ, List.setIfInBounds_toArray, List.set_cons_zero, List.set_cons_succ]
  clear hHeld
  refine wpAnyF_only (i := 11) rfl (by kernel_rfl) (fun K hK => ?_)
  go_simp
  refine hK.out _ _ (Or.inl (by kernel_rfl)) ?_
  clear hK K
  try simp only [Act.put, List.getElem_toArray, List.getElem_cons_zero, List.getElem_cons_succ, List.setIfInBounds_toArray, List.set_cons_zero, List.set_cons_succ]
  refine wpAnyF_done (by kernel_rfl) ?_ _
  go_wp2
  go_end0
  exact ⟨rfl, _, HS.out⟩

set_option maxRecDepth 20000 in
set_option maxHeartbeats 2000000 in
theorem kdo_and {a : Nat → Addr} {cs : List (List Ins)} {p : MkPl} {m : Mk} {K t : Nat} {w : World} (D : DoX a cs p m K t w) (L : List Ins) (x : Ins) (e : x.op = ⟨#[97, 110, 100]⟩) {i : Nat} (hi : i < 8) (ei : x.a = i) {j : Nat} (hj : j < 8) (ej : x.b = j) {k : Nat} (hk : k < 8) (ek : x.c = k) :
    Calls Tryz.prog 49 #[.pointer (some ⟨p.b, 0, none⟩), .int .i64 t, .agg #[.string x.op, .int .i64 x.a, .int .i64 x.b, .int .i64 x.c, .string x.to]] w fun e w' => e = .returned (.tuple #[]) ∧ ∃ v, MkStep a cs p w v (m.exec L t x) w' := by
  rw [exec_and m L t e]
  rw [ei]
  rw [ej]
  rw [ek]
  simp only [Int.toNat_natCast]
  obtain ⟨xo, xa, xb, xc, xt⟩ := x
  dsimp only at e ei ej ek ⊢
  subst e ei ej ek
  have t6 := D.t6
  have t6i : (t : Int) < 6 := by omega
  have hba : Below w.heap.size w (w.alloc (.cells #[.string ⟨#[97, 110, 100]⟩, .int .i64 i, .int .i64 j, .int .i64 k, .string xt] 44)) := (Below.refl _ _).alloc (Nat.le_refl _) _
  have q0 : (w.alloc (.cells #[.string ⟨#[97, 110, 100]⟩, .int .i64 i, .int .i64 j, .int .i64 k, .string xt] 44)).cell? ⟨w.heap.size, 0, none⟩ = some (.string ⟨#[97, 110, 100]⟩) := by simp
  have q1 : (w.alloc (.cells #[.string ⟨#[97, 110, 100]⟩, .int .i64 i, .int .i64 j, .int .i64 k, .string xt] 44)).cell? ⟨w.heap.size, 1, none⟩ = some (.int .i64 i) := by simp
  have q2 : (w.alloc (.cells #[.string ⟨#[97, 110, 100]⟩, .int .i64 i, .int .i64 j, .int .i64 k, .string xt] 44)).cell? ⟨w.heap.size, 2, none⟩ = some (.int .i64 j) := by simp
  have q3 : (w.alloc (.cells #[.string ⟨#[97, 110, 100]⟩, .int .i64 i, .int .i64 j, .int .i64 k, .string xt] 44)).cell? ⟨w.heap.size, 3, none⟩ = some (.int .i64 k) := by simp
  have q4 : (w.alloc (.cells #[.string ⟨#[97, 110, 100]⟩, .int .i64 i, .int .i64 j, .int .i64 k, .string xt] 44)).cell? ⟨w.heap.size, 4, none⟩ = some (.string xt) := by simp
  have D1 := D.below hba
  have hlw := D.at'.lt
  have gi := D1.at'.reg t i t6 (by omega)
  have gj := D1.at'.reg t j t6 (by omega)
  have gk := D1.at'.reg t k t6 (by omega)
  have li : (i : Int) < 8 := by omega
  have lj : (j : Int) < 8 := by omega
  have lk : (k : Int) < 8 := by omega
  generalize hw : w.alloc (.cells #[.string ⟨#[97, 110, 100]⟩, .int .i64 i, .int .i64 j, .int .i64 k, .string xt] 44) = w1 at *
  have zi : w1.frozen? ⟨p.b, 585 + t * 9 + i, none⟩ = false := D1.at'.frozen _ (by omega) (by omega)
  have HS : Hid (MkStep a cs p w p.mv (m.setReg t i (andW (m.regs t j) (m.regs t k))) ((w1.setCell ⟨p.b, 585 + t * 9 + i, none⟩ (.int .i64 (andW (m.regs t j) (m.regs t k)))).drew)) := (MkStep.of_below hba (D1.at'.setReg t6 (by omega) (andW (m.regs t j) (m.regs t k)))).below (Below.refl _ _).drew
  have HB : Hid (bits .and .i64 (m.regs t j) (m.regs t k) = andW (m.regs t j) (m.regs t k)) := and_word (D.ok.regs _ _) (D.ok.regs _ _)
  clear D D1 hba
  generalize m.regs t i = Ri at *
  generalize m.regs t j = Rj at *
  generalize m.regs t k = Rk at *
  go_enter Tryz.func49, Tryz.ntmps49
  go_wp2_with fail
  clear hw
  refine wp_region_F (S := (fun w' => w'.cell? ⟨w.heap.size, 1, none⟩ = some (.int .i64 i) ∧ w'.cell? ⟨w.heap.size, 2, none⟩ = some (.int .i64 j) ∧ w'.cell? ⟨w.heap.size, 3, none⟩ = some (.int .i64 k) ∧ w'.cell? ⟨p.b, 585 + t * 9 + i, none⟩ = some (.int .i64 Ri) ∧ w'.cell? ⟨p.b, 585 + t * 9 + j, none⟩ = some (.int .i64 Rj) ∧ w'.cell? ⟨p.b, 585 + t * 9 + k, none⟩ = some (.int .i64 Rk))) (by kernel_rfl) (by (try dsimp only); go_keep) (fun hHeld => ?_)
  refine' wpAnyF_take (i := 0) (n := 18) (v := _) rfl (by kernel_rfl) (fun _ _ _ h => h) (by assumption) (Or.inl ⟨by rfl, ?hy19⟩) ?rest19
  case' hy19 => (intro w' hSw; (try dsimp only at hSw); go_simp; try with_reducible rfl)
  try simp only [Act.put, List.getElem_toArray, List.getElem_cons_zero, List.setIfInBounds_toArray, List.set_cons_zero, List.set_cons_succ]
  refine' wpAnyF_take (i := 1) (n := 18) (v := _) rfl (by kernel_rfl) (fun _ _ _ h => h) (by assumption) (Or.inl ⟨by rfl, ?hy20⟩) ?rest20
  case' hy20 => (intro w' hSw; (try dsimp only at hSw); go_simp; try with_reducible rfl)
  try simp only [Act.put, List.getElem_toArray, List.getElem_cons_zero, List.getElem_cons_succ, List.setIfInBounds_toArray, List.set_cons_zero, List.set_cons_succ]
  refine' wpAnyF_take (i := 2) (n := 18) (v := _) rfl (by kernel_rfl) (fun _ _ _ h => h) (by assumption) (Or.inl ⟨by rfl, ?hy21⟩) ?rest21
  case' hy21 => (intro w' hSw; (try dsimp only at hSw); go_simp; try with_reducible rfl)
  try simp only [Act.put, List.getElem_toArray, List.getElem_cons_zero, List.getElem_cons_succ, List.setIfInBounds_toArray, List.set_cons_zero, List.set_cons_succ]
  refine' wpAnyF_take (i := 3) (n := 18) (v := _) rfl (by kernel_rfl) (fun _ _ _ h => h) (by assumption) (Or.inl ⟨by rfl, ?hy22⟩) ?rest22
  case' hy22 => (intro w' hSw; (try dsimp only at hSw); go_simp; try with_reducible rfl)
  try simp only [Act.put, List.getElem_toArray, List.getElem_cons_zero, List.getElem_cons_succ, List.setIfInBounds_toArray, List.set_cons_zero, List.set_cons_succ]
  refine' wpAnyF_take (i := 4) (n := 18) (v := _) rfl (by kernel_rfl) (fun _ _ _ h => h) (by assumption) (Or.inl ⟨by rfl, ?hy23⟩) ?rest23
  case' hy23 => (intro w' hSw; (try dsimp only at hSw); go_simp; try with_reducible rfl)
  try simp only [Act.put, List.getElem_toArray, List.getElem_cons_zero, List.getElem_cons_succ, List.setIfInBounds_toArray, List.set_cons_zero, List.set_cons_succ]
  refine' wpAnyF_take (i := 5) (n := 18) (v := _) rfl (by kernel_rfl) (fun _ _ _ h => h) (by assumption) (Or.inl ⟨by rfl, ?hy24⟩) ?rest24
  case' hy24 => (intro w' hSw; (try dsimp only at hSw); go_simp; try with_reducible rfl)
  try simp only [Act.put, List.getElem_toArray, List.getElem_cons_zero, List.getElem_cons_succ, List.setIfInBounds_toArray, List.set_cons_zero, List.set_cons_succ]
  refine' wpAnyF_take (i := 6) (n := 18) (v := _) rfl (by kernel_rfl) (fun _ _ _ h => h) (by assumption) (Or.inl ⟨by rfl, ?hy25⟩) ?rest25
  case' hy25 => (intro w' hSw; (try dsimp only at hSw); go_simp; try with_reducible rfl)
  try simp only [Act.put, List.getElem_toArray, List.getElem_cons_zero, List.getElem_cons_succ, List.setIfInBounds_toArray, List.set_cons_zero, List.set_cons_succ]
  refine' wpAnyF_take (i := 7) (n := 18) (v := _) rfl (by kernel_rfl) (fun _ _ _ h => h) (by assumption) (Or.inl ⟨by rfl, ?hy26⟩) ?rest26
  case' hy26 => (intro w' hSw; (try dsimp only at hSw); go_simp; try with_reducible rfl)
  try simp only [Act.put, List.getElem_toArray, List.getElem_cons_zero, List.getElem_cons_succ, List.setIfInBounds_toArray, List.set_cons_zero, List.set_cons_succ]
  refine' wpAnyF_take (i := 8) (n := 18) (v := _) rfl (by kernel_rfl) (fun _ _ _ h => h) (by assumption) (Or.inl ⟨by rfl, ?hy27⟩) ?rest27
  case' hy27 => (intro w' hSw; (try dsimp only at hSw); go_simp; try with_reducible rfl)
  try simp only [Act.put, List.getElem_toArray, List.getElem_cons_zero, List.getElem_cons_succ, List.setIfInBounds_toArray, List.set_cons_zero, List.set_cons_succ]
  refine' wpAnyF_take (i := 9) (n := 18) (v := _) rfl (by kernel_rfl) (fun _ _ _ h => h) (by assumption) (Or.inl ⟨by rfl, ?hy28⟩) ?rest28
  case' hy28 => (intro w' hSw; (try dsimp only at hSw); go_simp; try with_reducible rfl)
  try simp only [Act.put, List.getElem_toArray, List.getElem_cons_zero, List.getElem_cons_succ, List.setIfInBounds_toArray, List.set_cons_zero, List.set_cons_succ]
  refine' wpAnyF_take (i := 10) (n := 18) (v := _) rfl (by kernel_rfl) (fun _ _ _ h => h) (by assumption) (Or.inl ⟨by rfl, ?hy29⟩) ?rest29
  case' hy29 => (intro w' hSw; (try dsimp only at hSw); go_simp; try with_reducible rfl)
  try simp only [Act.put, List.getElem_toArray, List.getElem_cons_zero, List.getElem_cons_succ, List.setIfInBounds_toArray, List.set_cons_zero, List.set_cons_succ]
  refine' wpAnyF_take (i := 11) (n := 18) (v := _) rfl (by kernel_rfl) (fun _ _ _ h => h) (by assumption) (Or.inl ⟨by rfl, ?hy30⟩) ?rest30
  case' hy30 => (intro w' hSw; (try dsimp only at hSw); go_simp; try with_reducible rfl)
  try simp only [Act.put, List.getElem_toArray, List.getElem_cons_zero, List.getElem_cons_succ, List.setIfInBounds_toArray, List.set_cons_zero, List.set_cons_succ]
  refine' wpAnyF_take (i := 12) (n := 18) (v := _) rfl (by kernel_rfl) (fun _ _ _ h => h) (by assumption) (Or.inl ⟨by rfl, ?hy31⟩) ?rest31
  case' hy31 => (intro w' hSw; (try dsimp only at hSw); go_simp; try with_reducible rfl)
  try simp only [Act.put, List.getElem_toArray, List.getElem_cons_zero, List.getElem_cons_succ, List.setIfInBounds_toArray, List.set_cons_zero, List.set_cons_succ]
  refine' wpAnyF_take (i := 13) (n := 18) (v := _) rfl (by kernel_rfl) (fun _ _ _ h => h) (by assumption) (Or.inl ⟨by rfl, ?hy32⟩) ?rest32
  case' hy32 => (intro w' hSw; (try dsimp only at hSw); go_simp; try with_reducible rfl)
  try simp only [Act.put, List.getElem_toArray, List.getElem_cons_zero, List.getElem_cons_succ, List.setIfInBounds_toArray, List.set_cons_zero, List.set_cons_succ]
  refine' wpAnyF_take (i := 14) (n := 18) (v := _) rfl (by kernel_rfl) (fun _ _ _ h => h) (by assumption) (Or.inl ⟨by rfl, ?hy33⟩) ?rest33
  case' hy33 => (intro w' hSw; (try dsimp only at hSw); go_simp; try with_reducible rfl)
  try simp only [Act.put, List.getElem_toArray, List.getElem_cons_zero, List.getElem_cons_succ, List.setIfInBounds_toArray, List.set_cons_zero, List.set_cons_succ]
  refine' wpAnyF_take (i := 15) (n := 18) (v := _) rfl (by kernel_rfl) (fun _ _ _ h => h) (by assumption) (Or.inl ⟨by rfl, ?hy34⟩) ?rest34
  case' hy34 => (intro w' hSw; (try dsimp only at hSw); go_simp; try with_reducible rfl)
  try simp only [Act.put, List.getElem_toArray, List.getElem_cons_zero, List.getElem_cons_succ, List.setIfInBounds_toArray, List.set_cons_zero, List.set_cons_succ]
  refine' wpAnyF_take (i := 16) (n := 18) (v := _) rfl (by kernel_rfl) (fun _ _ _ h => h) (by assumption) (Or.inl ⟨by rfl, ?hy35⟩) ?rest35
  case' hy35 => (intro w' hSw; (try dsimp only at hSw); go_simp; try with_reducible rfl)
  try simp only [Act.put, List.getElem_toArray, List.getElem_cons_zero, List.getElem_cons_succ, List.setIfInBounds_toArray, List.set_cons_zero, List.set_cons_succ]
  refine' wpAnyF_take (i := 17) (n := 18) (v := _) rfl (by kernel_rfl) (fun _ _ _ h => h) (by assumption) (Or.inl ⟨by rfl, ?hy36⟩) ?rest36
  case' hy36 => (intro w' hSw; (try dsimp only at hSw); go_simp; try with_reducible rfl)
  try simp only [Act.put, List.getElem_toArray, List.getElem_cons_zero, List.getElem_cons_succ, List.setIfInBounds_toArray, List.set_cons_zero, List.set_cons_succ]
  clear hHeld
  refine wpAnyF_only (i := 18) rfl (by kernel_rfl) (fun K hK => ?_)
  go_simp
  refine hK.out _ _ (Or.inl (by kernel_rfl)) ?_
  clear hK K
  try simp only [Act.put, List.getElem_toArray, List.getElem_cons_zero, List.getElem_cons_succ, List.setIfInBounds_toArray, List.set_cons_zero, List.set_cons_succ]
  refine wpAnyF_done (by kernel_rfl) ?_ _
  go_wp2
  go_end0
  rw [HB.out]
  exact ⟨rfl, _, HS.out⟩

set_option maxRecDepth 20000 in
set_option maxHeartbeats 2000000 in
theorem kdo_xor {a : Nat → Addr} {cs : List (List Ins)} {p : MkPl} {m : Mk} {K t : Nat} {w : World} (D : DoX a cs p m K t w) (L : List Ins) (x : Ins) (e : x.op = ⟨#[120, 111, 114]⟩) {i : Nat} (hi : i < 8) (ei : x.a = i) {j : Nat} (hj : j < 8) (ej : x.b = j) {k : Nat} (hk : k < 8) (ek : x.c = k) :
    Calls Tryz.prog 49 #[.pointer (some ⟨p.b, 0, none⟩), .int .i64 t, .agg #[.string x.op, .int .i64 x.a, .int .i64 x.b, .int .i64 x.c, .string x.to]] w fun e w' => e = .returned (.tuple #[]) ∧ ∃ v, MkStep a cs p w v (m.exec L t x) w' := by
  rw [exec_xor m L t e]
  rw [ei]
  rw [ej]
  rw [ek]
  simp only [Int.toNat_natCast]
  obtain ⟨xo, xa, xb, xc, xt⟩ := x
  dsimp only at e ei ej ek ⊢
  subst e ei ej ek
  have t6 := D.t6
  have t6i : (t : Int) < 6 := by omega
  have hba : Below w.heap.size w (w.alloc (.cells #[.string ⟨#[120, 111, 114]⟩, .int .i64 i, .int .i64 j, .int .i64 k, .string xt] 44)) := (Below.refl _ _).alloc (Nat.le_refl _) _
  have q0 : (w.alloc (.cells #[.string ⟨#[120, 111, 114]⟩, .int .i64 i, .int .i64 j, .int .i64 k, .string xt] 44)).cell? ⟨w.heap.size, 0, none⟩ = some (.string ⟨#[120, 111, 114]⟩) := by simp
  have q1 : (w.alloc (.cells #[.string ⟨#[120, 111, 114]⟩, .int .i64 i, .int .i64 j, .int .i64 k, .string xt] 44)).cell? ⟨w.heap.size, 1, none⟩ = some (.int .i64 i) := by simp
  have q2 : (w.alloc (.cells #[.string ⟨#[120, 111, 114]⟩, .int .i64 i, .int .i64 j, .int .i64 k, .string xt] 44)).cell? ⟨w.heap.size, 2, none⟩ = some (.int .i64 j) := by simp
  have q3 : (w.alloc (.cells #[.string ⟨#[120, 111, 114]⟩, .int .i64 i, .int .i64 j, .int .i64 k, .string xt] 44)).cell? ⟨w.heap.size, 3, none⟩ = some (.int .i64 k) := by simp
  have q4 : (w.alloc (.cells #[.string ⟨#[120, 111, 114]⟩, .int .i64 i, .int .i64 j, .int .i64 k, .string xt] 44)).cell? ⟨w.heap.size, 4, none⟩ = some (.string xt) := by simp
  have D1 := D.below hba
  have hlw := D.at'.lt
  have gi := D1.at'.reg t i t6 (by omega)
  have gj := D1.at'.reg t j t6 (by omega)
  have gk := D1.at'.reg t k t6 (by omega)
  have li : (i : Int) < 8 := by omega
  have lj : (j : Int) < 8 := by omega
  have lk : (k : Int) < 8 := by omega
  generalize hw : w.alloc (.cells #[.string ⟨#[120, 111, 114]⟩, .int .i64 i, .int .i64 j, .int .i64 k, .string xt] 44) = w1 at *
  have zi : w1.frozen? ⟨p.b, 585 + t * 9 + i, none⟩ = false := D1.at'.frozen _ (by omega) (by omega)
  have HS : Hid (MkStep a cs p w p.mv (m.setReg t i (xorW (m.regs t j) (m.regs t k))) ((w1.setCell ⟨p.b, 585 + t * 9 + i, none⟩ (.int .i64 (xorW (m.regs t j) (m.regs t k)))).drew)) := (MkStep.of_below hba (D1.at'.setReg t6 (by omega) (xorW (m.regs t j) (m.regs t k)))).below (Below.refl _ _).drew
  have HB : Hid (bits .xor .i64 (m.regs t j) (m.regs t k) = xorW (m.regs t j) (m.regs t k)) := xor_word (D.ok.regs _ _) (D.ok.regs _ _)
  clear D D1 hba
  generalize m.regs t i = Ri at *
  generalize m.regs t j = Rj at *
  generalize m.regs t k = Rk at *
  go_enter Tryz.func49, Tryz.ntmps49
  go_wp2_with fail
  clear hw
  refine wp_region_F (S := (fun w' => w'.cell? ⟨w.heap.size, 1, none⟩ = some (.int .i64 i) ∧ w'.cell? ⟨w.heap.size, 2, none⟩ = some (.int .i64 j) ∧ w'.cell? ⟨w.heap.size, 3, none⟩ = some (.int .i64 k) ∧ w'.cell? ⟨p.b, 585 + t * 9 + i, none⟩ = some (.int .i64 Ri) ∧ w'.cell? ⟨p.b, 585 + t * 9 + j, none⟩ = some (.int .i64 Rj) ∧ w'.cell? ⟨p.b, 585 + t * 9 + k, none⟩ = some (.int .i64 Rk))) (by kernel_rfl) (by (try dsimp only); go_keep) (fun hHeld => ?_)
  refine' wpAnyF_take (i := 0) (n := 18) (v := _) rfl (by kernel_rfl) (fun _ _ _ h => h) (by assumption) (Or.inl ⟨by rfl, ?hy37⟩) ?rest37
  case' hy37 => (intro w' hSw; (try dsimp only at hSw); go_simp; try with_reducible rfl)
  try simp only [Act.put, List.getElem_toArray, List.getElem_cons_zero, List.setIfInBounds_toArray, List.set_cons_zero, List.set_cons_succ]
  refine' wpAnyF_take (i := 1) (n := 18) (v := _) rfl (by kernel_rfl) (fun _ _ _ h => h) (by assumption) (Or.inl ⟨by rfl, ?hy38⟩) ?rest38
  case' hy38 => (intro w' hSw; (try dsimp only at hSw); go_simp; try with_reducible rfl)
  try simp only [Act.put, List.getElem_toArray, List.getElem_cons_zero, List.getElem_cons_succ, List.setIfInBounds_toArray, List.set_cons_zero, List.set_cons_succ]
  refine' wpAnyF_take (i := 2) (n := 18) (v := _) rfl (by kernel_rfl) (fun _ _ _ h => h) (by assumption) (Or.inl ⟨by rfl, ?hy39⟩) ?rest39
  case' hy39 => (intro w' hSw; (try dsimp only at hSw); go_simp; try with_reducible rfl)
  try simp only [Act.put, List.getElem_toArray, List.getElem_cons_zero, List.getElem_cons_succ, List.setIfInBounds_toArray, List.set_cons_zero, List.set_cons_succ]
  refine' wpAnyF_take (i := 3) (n := 18) (v := _) rfl (by kernel_rfl) (fun _ _ _ h => h) (by assumption) (Or.inl ⟨by rfl, ?hy40⟩) ?rest40
  case' hy40 => (intro w' hSw; (try dsimp only at hSw); go_simp; try with_reducible rfl)
  try simp only [Act.put, List.getElem_toArray, List.getElem_cons_zero, List.getElem_cons_succ, List.setIfInBounds_toArray, List.set_cons_zero, List.set_cons_succ]
  refine' wpAnyF_take (i := 4) (n := 18) (v := _) rfl (by kernel_rfl) (fun _ _ _ h => h) (by assumption) (Or.inl ⟨by rfl, ?hy41⟩) ?rest41
  case' hy41 => (intro w' hSw; (try dsimp only at hSw); go_simp; try with_reducible rfl)
  try simp only [Act.put, List.getElem_toArray, List.getElem_cons_zero, List.getElem_cons_succ, List.setIfInBounds_toArray, List.set_cons_zero, List.set_cons_succ]
  refine' wpAnyF_take (i := 5) (n := 18) (v := _) rfl (by kernel_rfl) (fun _ _ _ h => h) (by assumption) (Or.inl ⟨by rfl, ?hy42⟩) ?rest42
  case' hy42 => (intro w' hSw; (try dsimp only at hSw); go_simp; try with_reducible rfl)
  try simp only [Act.put, List.getElem_toArray, List.getElem_cons_zero, List.getElem_cons_succ, List.setIfInBounds_toArray, List.set_cons_zero, List.set_cons_succ]
  refine' wpAnyF_take (i := 6) (n := 18) (v := _) rfl (by kernel_rfl) (fun _ _ _ h => h) (by assumption) (Or.inl ⟨by rfl, ?hy43⟩) ?rest43
  case' hy43 => (intro w' hSw; (try dsimp only at hSw); go_simp; try with_reducible rfl)
  try simp only [Act.put, List.getElem_toArray, List.getElem_cons_zero, List.getElem_cons_succ, List.setIfInBounds_toArray, List.set_cons_zero, List.set_cons_succ]
  refine' wpAnyF_take (i := 7) (n := 18) (v := _) rfl (by kernel_rfl) (fun _ _ _ h => h) (by assumption) (Or.inl ⟨by rfl, ?hy44⟩) ?rest44
  case' hy44 => (intro w' hSw; (try dsimp only at hSw); go_simp; try with_reducible rfl)
  try simp only [Act.put, List.getElem_toArray, List.getElem_cons_zero, List.getElem_cons_succ, List.setIfInBounds_toArray, List.set_cons_zero, List.set_cons_succ]
  refine' wpAnyF_take (i := 8) (n := 18) (v := _) rfl (by kernel_rfl) (fun _ _ _ h => h) (by assumption) (Or.inl ⟨by rfl, ?hy45⟩) ?rest45
  case' hy45 => (intro w' hSw; (try dsimp only at hSw); go_simp; try with_reducible rfl)
  try simp only [Act.put, List.getElem_toArray, List.getElem_cons_zero, List.getElem_cons_succ, List.setIfInBounds_toArray, List.set_cons_zero, List.set_cons_succ]
  refine' wpAnyF_take (i := 9) (n := 18) (v := _) rfl (by kernel_rfl) (fun _ _ _ h => h) (by assumption) (Or.inl ⟨by rfl, ?hy46⟩) ?rest46
  case' hy46 => (intro w' hSw; (try dsimp only at hSw); go_simp; try with_reducible rfl)
  try simp only [Act.put, List.getElem_toArray, List.getElem_cons_zero, List.getElem_cons_succ, List.setIfInBounds_toArray, List.set_cons_zero, List.set_cons_succ]
  refine' wpAnyF_take (i := 10) (n := 18) (v := _) rfl (by kernel_rfl) (fun _ _ _ h => h) (by assumption) (Or.inl ⟨by rfl, ?hy47⟩) ?rest47
  case' hy47 => (intro w' hSw; (try dsimp only at hSw); go_simp; try with_reducible rfl)
  try simp only [Act.put, List.getElem_toArray, List.getElem_cons_zero, List.getElem_cons_succ, List.setIfInBounds_toArray, List.set_cons_zero, List.set_cons_succ]
  refine' wpAnyF_take (i := 11) (n := 18) (v := _) rfl (by kernel_rfl) (fun _ _ _ h => h) (by assumption) (Or.inl ⟨by rfl, ?hy48⟩) ?rest48
  case' hy48 => (intro w' hSw; (try dsimp only at hSw); go_simp; try with_reducible rfl)
  try simp only [Act.put, List.getElem_toArray, List.getElem_cons_zero, List.getElem_cons_succ, List.setIfInBounds_toArray, List.set_cons_zero, List.set_cons_succ]
  refine' wpAnyF_take (i := 12) (n := 18) (v := _) rfl (by kernel_rfl) (fun _ _ _ h => h) (by assumption) (Or.inl ⟨by rfl, ?hy49⟩) ?rest49
  case' hy49 => (intro w' hSw; (try dsimp only at hSw); go_simp; try with_reducible rfl)
  try simp only [Act.put, List.getElem_toArray, List.getElem_cons_zero, List.getElem_cons_succ, List.setIfInBounds_toArray, List.set_cons_zero, List.set_cons_succ]
  refine' wpAnyF_take (i := 13) (n := 18) (v := _) rfl (by kernel_rfl) (fun _ _ _ h => h) (by assumption) (Or.inl ⟨by rfl, ?hy50⟩) ?rest50
  case' hy50 => (intro w' hSw; (try dsimp only at hSw); go_simp; try with_reducible rfl)
  try simp only [Act.put, List.getElem_toArray, List.getElem_cons_zero, List.getElem_cons_succ, List.setIfInBounds_toArray, List.set_cons_zero, List.set_cons_succ]
  refine' wpAnyF_take (i := 14) (n := 18) (v := _) rfl (by kernel_rfl) (fun _ _ _ h => h) (by assumption) (Or.inl ⟨by rfl, ?hy51⟩) ?rest51
  case' hy51 => (intro w' hSw; (try dsimp only at hSw); go_simp; try with_reducible rfl)
  try simp only [Act.put, List.getElem_toArray, List.getElem_cons_zero, List.getElem_cons_succ, List.setIfInBounds_toArray, List.set_cons_zero, List.set_cons_succ]
  refine' wpAnyF_take (i := 15) (n := 18) (v := _) rfl (by kernel_rfl) (fun _ _ _ h => h) (by assumption) (Or.inl ⟨by rfl, ?hy52⟩) ?rest52
  case' hy52 => (intro w' hSw; (try dsimp only at hSw); go_simp; try with_reducible rfl)
  try simp only [Act.put, List.getElem_toArray, List.getElem_cons_zero, List.getElem_cons_succ, List.setIfInBounds_toArray, List.set_cons_zero, List.set_cons_succ]
  refine' wpAnyF_take (i := 16) (n := 18) (v := _) rfl (by kernel_rfl) (fun _ _ _ h => h) (by assumption) (Or.inl ⟨by rfl, ?hy53⟩) ?rest53
  case' hy53 => (intro w' hSw; (try dsimp only at hSw); go_simp; try with_reducible rfl)
  try simp only [Act.put, List.getElem_toArray, List.getElem_cons_zero, List.getElem_cons_succ, List.setIfInBounds_toArray, List.set_cons_zero, List.set_cons_succ]
  refine' wpAnyF_take (i := 17) (n := 18) (v := _) rfl (by kernel_rfl) (fun _ _ _ h => h) (by assumption) (Or.inl ⟨by rfl, ?hy54⟩) ?rest54
  case' hy54 => (intro w' hSw; (try dsimp only at hSw); go_simp; try with_reducible rfl)
  try simp only [Act.put, List.getElem_toArray, List.getElem_cons_zero, List.getElem_cons_succ, List.setIfInBounds_toArray, List.set_cons_zero, List.set_cons_succ]
  clear hHeld
  refine wpAnyF_only (i := 18) rfl (by kernel_rfl) (fun K hK => ?_)
  go_simp
  refine hK.out _ _ (Or.inl (by kernel_rfl)) ?_
  clear hK K
  try simp only [Act.put, List.getElem_toArray, List.getElem_cons_zero, List.getElem_cons_succ, List.setIfInBounds_toArray, List.set_cons_zero, List.set_cons_succ]
  refine wpAnyF_done (by kernel_rfl) ?_ _
  go_wp2
  go_end0
  rw [HB.out]
  exact ⟨rfl, _, HS.out⟩

set_option maxRecDepth 20000 in
set_option maxHeartbeats 2000000 in
theorem kdo_add {a : Nat → Addr} {cs : List (List Ins)} {p : MkPl} {m : Mk} {K t : Nat} {w : World} (D : DoX a cs p m K t w) (L : List Ins) (x : Ins) (e : x.op = ⟨#[97, 100, 100]⟩) {i : Nat} (hi : i < 8) (ei : x.a = i) {j : Nat} (hj : j < 8) (ej : x.b = j) {k : Nat} (hk : k < 8) (ek : x.c = k) :
    Calls Tryz.prog 49 #[.pointer (some ⟨p.b, 0, none⟩), .int .i64 t, .agg #[.string x.op, .int .i64 x.a, .int .i64 x.b, .int .i64 x.c, .string x.to]] w fun e w' => e = .returned (.tuple #[]) ∧ ∃ v, MkStep a cs p w v (m.exec L t x) w' := by
  rw [exec_add m L t e]
  rw [ei]
  rw [ej]
  rw [ek]
  simp only [Int.toNat_natCast]
  obtain ⟨xo, xa, xb, xc, xt⟩ := x
  dsimp only at e ei ej ek ⊢
  subst e ei ej ek
  have t6 := D.t6
  have t6i : (t : Int) < 6 := by omega
  have hba : Below w.heap.size w (w.alloc (.cells #[.string ⟨#[97, 100, 100]⟩, .int .i64 i, .int .i64 j, .int .i64 k, .string xt] 44)) := (Below.refl _ _).alloc (Nat.le_refl _) _
  have q0 : (w.alloc (.cells #[.string ⟨#[97, 100, 100]⟩, .int .i64 i, .int .i64 j, .int .i64 k, .string xt] 44)).cell? ⟨w.heap.size, 0, none⟩ = some (.string ⟨#[97, 100, 100]⟩) := by simp
  have q1 : (w.alloc (.cells #[.string ⟨#[97, 100, 100]⟩, .int .i64 i, .int .i64 j, .int .i64 k, .string xt] 44)).cell? ⟨w.heap.size, 1, none⟩ = some (.int .i64 i) := by simp
  have q2 : (w.alloc (.cells #[.string ⟨#[97, 100, 100]⟩, .int .i64 i, .int .i64 j, .int .i64 k, .string xt] 44)).cell? ⟨w.heap.size, 2, none⟩ = some (.int .i64 j) := by simp
  have q3 : (w.alloc (.cells #[.string ⟨#[97, 100, 100]⟩, .int .i64 i, .int .i64 j, .int .i64 k, .string xt] 44)).cell? ⟨w.heap.size, 3, none⟩ = some (.int .i64 k) := by simp
  have q4 : (w.alloc (.cells #[.string ⟨#[97, 100, 100]⟩, .int .i64 i, .int .i64 j, .int .i64 k, .string xt] 44)).cell? ⟨w.heap.size, 4, none⟩ = some (.string xt) := by simp
  have D1 := D.below hba
  have hlw := D.at'.lt
  have gi := D1.at'.reg t i t6 (by omega)
  have gj := D1.at'.reg t j t6 (by omega)
  have gk := D1.at'.reg t k t6 (by omega)
  have li : (i : Int) < 8 := by omega
  have lj : (j : Int) < 8 := by omega
  have lk : (k : Int) < 8 := by omega
  generalize hw : w.alloc (.cells #[.string ⟨#[97, 100, 100]⟩, .int .i64 i, .int .i64 j, .int .i64 k, .string xt] 44) = w1 at *
  have hj := D.ok.regs t j
  have hk := D.ok.regs t k
  have hw1 : IntKind.i64.wrap (m.regs t j + m.regs t k) = m.regs t j + m.regs t k := by obtain ⟨_, _⟩ := hj; obtain ⟨_, _⟩ := hk; rw [IntKind.wrap_i64]; omega
  have H1 := hide D1.at'
  have zi : w1.frozen? ⟨p.b, 585 + t * 9 + i, none⟩ = false := D1.at'.frozen _ (by omega) (by omega)
  have HS : Hid (MkStep a cs p w p.mv (m.setReg t i ((m.regs t j + m.regs t k) % 4294967296)) ((w1.setCell ⟨p.b, 585 + t * 9 + i, none⟩ (.int .i64 ((m.regs t j + m.regs t k) % 4294967296))).drew)) := (MkStep.of_below hba (D1.at'.setReg t6 (by omega) ((m.regs t j + m.regs t k) % 4294967296))).below (Below.refl _ _).drew
  clear D D1 hba hj hk H1
  generalize m.regs t i = Ri at *
  generalize m.regs t j = Rj at *
  generalize m.regs t k = Rk at *
  go_enter Tryz.func49, Tryz.ntmps49
  go_wp2_with fail
  clear hw
  refine wp_region_F (S := (fun w' => w'.cell? ⟨w.heap.size, 1, none⟩ = some (.int .i64 i) ∧ w'.cell? ⟨w.heap.size, 2, none⟩ = some (.int .i64 j) ∧ w'.cell? ⟨w.heap.size, 3, none⟩ = some (.int .i64 k) ∧ w'.cell? ⟨p.b, 585 + t * 9 + i, none⟩ = some (.int .i64 Ri) ∧ w'.cell? ⟨p.b, 585 + t * 9 + j, none⟩ = some (.int .i64 Rj) ∧ w'.cell? ⟨p.b, 585 + t * 9 + k, none⟩ = some (.int .i64 Rk))) (by kernel_rfl) (by (try dsimp only); go_keep) (fun hHeld => ?_)
  refine' wpAnyF_take (i := 0) (n := 19) (v := _) rfl (by kernel_rfl) (fun _ _ _ h => h) (by assumption) (Or.inl ⟨by rfl, ?hy55⟩) ?rest55
  case' hy55 => (intro w' hSw; (try dsimp only at hSw); go_simp; try with_reducible rfl)
  try simp only [Act.put, List.getElem_toArray, List.getElem_cons_zero, List.setIfInBounds_toArray, List.set_cons_zero, List.set_cons_succ]
  refine' wpAnyF_take (i := 1) (n := 19) (v := _) rfl (by kernel_rfl) (fun _ _ _ h => h) (by assumption) (Or.inl ⟨by rfl, ?hy56⟩) ?rest56
  case' hy56 => (intro w' hSw; (try dsimp only at hSw); go_simp; try with_reducible rfl)
  try simp only [Act.put, List.getElem_toArray, List.getElem_cons_zero, List.getElem_cons_succ, List.setIfInBounds_toArray, List.set_cons_zero, List.set_cons_succ]
  refine' wpAnyF_take (i := 2) (n := 19) (v := _) rfl (by kernel_rfl) (fun _ _ _ h => h) (by assumption) (Or.inl ⟨by rfl, ?hy57⟩) ?rest57
  case' hy57 => (intro w' hSw; (try dsimp only at hSw); go_simp; try with_reducible rfl)
  try simp only [Act.put, List.getElem_toArray, List.getElem_cons_zero, List.getElem_cons_succ, List.setIfInBounds_toArray, List.set_cons_zero, List.set_cons_succ]
  refine' wpAnyF_take (i := 3) (n := 19) (v := _) rfl (by kernel_rfl) (fun _ _ _ h => h) (by assumption) (Or.inl ⟨by rfl, ?hy58⟩) ?rest58
  case' hy58 => (intro w' hSw; (try dsimp only at hSw); go_simp; try with_reducible rfl)
  try simp only [Act.put, List.getElem_toArray, List.getElem_cons_zero, List.getElem_cons_succ, List.setIfInBounds_toArray, List.set_cons_zero, List.set_cons_succ]
  refine' wpAnyF_take (i := 4) (n := 19) (v := _) rfl (by kernel_rfl) (fun _ _ _ h => h) (by assumption) (Or.inl ⟨by rfl, ?hy59⟩) ?rest59
  case' hy59 => (intro w' hSw; (try dsimp only at hSw); go_simp; try with_reducible rfl)
  try simp only [Act.put, List.getElem_toArray, List.getElem_cons_zero, List.getElem_cons_succ, List.setIfInBounds_toArray, List.set_cons_zero, List.set_cons_succ]
  refine' wpAnyF_take (i := 5) (n := 19) (v := _) rfl (by kernel_rfl) (fun _ _ _ h => h) (by assumption) (Or.inl ⟨by rfl, ?hy60⟩) ?rest60
  case' hy60 => (intro w' hSw; (try dsimp only at hSw); go_simp; try with_reducible rfl)
  try simp only [Act.put, List.getElem_toArray, List.getElem_cons_zero, List.getElem_cons_succ, List.setIfInBounds_toArray, List.set_cons_zero, List.set_cons_succ]
  refine' wpAnyF_take (i := 6) (n := 19) (v := _) rfl (by kernel_rfl) (fun _ _ _ h => h) (by assumption) (Or.inl ⟨by rfl, ?hy61⟩) ?rest61
  case' hy61 => (intro w' hSw; (try dsimp only at hSw); go_simp; try with_reducible rfl)
  try simp only [Act.put, List.getElem_toArray, List.getElem_cons_zero, List.getElem_cons_succ, List.setIfInBounds_toArray, List.set_cons_zero, List.set_cons_succ]
  refine' wpAnyF_take (i := 7) (n := 19) (v := _) rfl (by kernel_rfl) (fun _ _ _ h => h) (by assumption) (Or.inl ⟨by rfl, ?hy62⟩) ?rest62
  case' hy62 => (intro w' hSw; (try dsimp only at hSw); go_simp; try with_reducible rfl)
  try simp only [Act.put, List.getElem_toArray, List.getElem_cons_zero, List.getElem_cons_succ, List.setIfInBounds_toArray, List.set_cons_zero, List.set_cons_succ]
  refine' wpAnyF_take (i := 8) (n := 19) (v := _) rfl (by kernel_rfl) (fun _ _ _ h => h) (by assumption) (Or.inl ⟨by rfl, ?hy63⟩) ?rest63
  case' hy63 => (intro w' hSw; (try dsimp only at hSw); go_simp; try with_reducible rfl)
  try simp only [Act.put, List.getElem_toArray, List.getElem_cons_zero, List.getElem_cons_succ, List.setIfInBounds_toArray, List.set_cons_zero, List.set_cons_succ]
  refine' wpAnyF_take (i := 9) (n := 19) (v := _) rfl (by kernel_rfl) (fun _ _ _ h => h) (by assumption) (Or.inl ⟨by rfl, ?hy64⟩) ?rest64
  case' hy64 => (intro w' hSw; (try dsimp only at hSw); go_simp; try with_reducible rfl)
  try simp only [Act.put, List.getElem_toArray, List.getElem_cons_zero, List.getElem_cons_succ, List.setIfInBounds_toArray, List.set_cons_zero, List.set_cons_succ]
  refine' wpAnyF_take (i := 10) (n := 19) (v := _) rfl (by kernel_rfl) (fun _ _ _ h => h) (by assumption) (Or.inl ⟨by rfl, ?hy65⟩) ?rest65
  case' hy65 => (intro w' hSw; (try dsimp only at hSw); go_simp; try with_reducible rfl)
  try simp only [Act.put, List.getElem_toArray, List.getElem_cons_zero, List.getElem_cons_succ, List.setIfInBounds_toArray, List.set_cons_zero, List.set_cons_succ]
  refine' wpAnyF_take (i := 11) (n := 19) (v := _) rfl (by kernel_rfl) (fun _ _ _ h => h) (by assumption) (Or.inl ⟨by rfl, ?hy66⟩) ?rest66
  case' hy66 => (intro w' hSw; (try dsimp only at hSw); go_simp; try with_reducible rfl)
  try simp only [Act.put, List.getElem_toArray, List.getElem_cons_zero, List.getElem_cons_succ, List.setIfInBounds_toArray, List.set_cons_zero, List.set_cons_succ]
  refine' wpAnyF_take (i := 12) (n := 19) (v := _) rfl (by kernel_rfl) (fun _ _ _ h => h) (by assumption) (Or.inl ⟨by rfl, ?hy67⟩) ?rest67
  case' hy67 => (intro w' hSw; (try dsimp only at hSw); go_simp; try with_reducible rfl)
  try simp only [Act.put, List.getElem_toArray, List.getElem_cons_zero, List.getElem_cons_succ, List.setIfInBounds_toArray, List.set_cons_zero, List.set_cons_succ]
  refine' wpAnyF_take (i := 13) (n := 19) (v := _) rfl (by kernel_rfl) (fun _ _ _ h => h) (by assumption) (Or.inl ⟨by rfl, ?hy68⟩) ?rest68
  case' hy68 => (intro w' hSw; (try dsimp only at hSw); go_simp; try with_reducible rfl)
  try simp only [Act.put, List.getElem_toArray, List.getElem_cons_zero, List.getElem_cons_succ, List.setIfInBounds_toArray, List.set_cons_zero, List.set_cons_succ]
  refine' wpAnyF_take (i := 14) (n := 19) (v := _) rfl (by kernel_rfl) (fun _ _ _ h => h) (by assumption) (Or.inl ⟨by rfl, ?hy69⟩) ?rest69
  case' hy69 => (intro w' hSw; (try dsimp only at hSw); go_simp; try with_reducible rfl)
  try simp only [Act.put, List.getElem_toArray, List.getElem_cons_zero, List.getElem_cons_succ, List.setIfInBounds_toArray, List.set_cons_zero, List.set_cons_succ]
  refine' wpAnyF_take (i := 15) (n := 19) (v := _) rfl (by kernel_rfl) (fun _ _ _ h => h) (by assumption) (Or.inl ⟨by rfl, ?hy70⟩) ?rest70
  case' hy70 => (intro w' hSw; (try dsimp only at hSw); go_simp; try with_reducible rfl)
  try simp only [Act.put, List.getElem_toArray, List.getElem_cons_zero, List.getElem_cons_succ, List.setIfInBounds_toArray, List.set_cons_zero, List.set_cons_succ]
  refine' wpAnyF_take (i := 17) (n := 19) (v := _) rfl (by kernel_rfl) (fun _ _ _ h => h) (by assumption) (Or.inl ⟨by rfl, ?hy71⟩) ?rest71
  case' hy71 => (intro w' hSw; (try dsimp only at hSw); go_simp; try with_reducible rfl)
  try simp only [Act.put, List.getElem_toArray, List.getElem_cons_zero, List.getElem_cons_succ, List.setIfInBounds_toArray, List.set_cons_zero, List.set_cons_succ]
  refine wpAnyF_only (i := 16) rfl (by kernel_rfl) (fun K hK => ?_)
  go_simp
  go_at_call 68
  refine (round_any _ _).mono ?_
  rintro e w4 ⟨rfl, rfl⟩
  dsimp only
  refine hK.out _ _ (Or.inr (by (try dsimp only); exact hHeld)) ?_
  clear hK K
  try simp only [Act.put, List.getElem_toArray, List.getElem_cons_zero, List.getElem_cons_succ, List.setIfInBounds_toArray, List.set_cons_zero, List.set_cons_succ]
  refine' wpAnyF_take (i := 18) (n := 19) (v := _) rfl (by kernel_rfl) (fun _ _ _ h => h) (by assumption) (Or.inl ⟨by rfl, ?hy72⟩) ?rest72
  case' hy72 => (intro w' hSw; (try dsimp only at hSw); go_simp; try with_reducible rfl)
  try simp only [Act.put, List.getElem_toArray, List.getElem_cons_zero, List.getElem_cons_succ, List.setIfInBounds_toArray, List.set_cons_zero, List.set_cons_succ]
  clear hHeld
  refine wpAnyF_only (i := 19) rfl (by kernel_rfl) (fun K hK => ?_)
  go_simp
  refine hK.out _ _ (Or.inl (by kernel_rfl)) ?_
  clear hK K
  try simp only [Act.put, List.getElem_toArray, List.getElem_cons_zero, List.getElem_cons_succ, List.setIfInBounds_toArray, List.set_cons_zero, List.set_cons_succ]
  refine wpAnyF_done (by kernel_rfl) ?_ _
  go_wp2
  go_end0
  exact ⟨rfl, _, HS.out⟩

set_option maxRecDepth 20000 in
set_option maxHeartbeats 2000000 in
theorem kdo_sub {a : Nat → Addr} {cs : List (List Ins)} {p : MkPl} {m : Mk} {K t : Nat} {w : World} (D : DoX a cs p m K t w) (L : List Ins) (x : Ins) (e : x.op = ⟨#[115, 117, 98]⟩) {i : Nat} (hi : i < 8) (ei : x.a = i) {j : Nat} (hj : j < 8) (ej : x.b = j) {k : Nat} (hk : k < 8) (ek : x.c = k) :
    Calls Tryz.prog 49 #[.pointer (some ⟨p.b, 0, none⟩), .int .i64 t, .agg #[.string x.op, .int .i64 x.a, .int .i64 x.b, .int .i64 x.c, .string x.to]] w fun e w' => e = .returned (.tuple #[]) ∧ ∃ v, MkStep a cs p w v (m.exec L t x) w' := by
  rw [exec_sub m L t e]
  rw [ei]
  rw [ej]
  rw [ek]
  simp only [Int.toNat_natCast]
  obtain ⟨xo, xa, xb, xc, xt⟩ := x
  dsimp only at e ei ej ek ⊢
  subst e ei ej ek
  have t6 := D.t6
  have t6i : (t : Int) < 6 := by omega
  have hba : Below w.heap.size w (w.alloc (.cells #[.string ⟨#[115, 117, 98]⟩, .int .i64 i, .int .i64 j, .int .i64 k, .string xt] 44)) := (Below.refl _ _).alloc (Nat.le_refl _) _
  have q0 : (w.alloc (.cells #[.string ⟨#[115, 117, 98]⟩, .int .i64 i, .int .i64 j, .int .i64 k, .string xt] 44)).cell? ⟨w.heap.size, 0, none⟩ = some (.string ⟨#[115, 117, 98]⟩) := by simp
  have q1 : (w.alloc (.cells #[.string ⟨#[115, 117, 98]⟩, .int .i64 i, .int .i64 j, .int .i64 k, .string xt] 44)).cell? ⟨w.heap.size, 1, none⟩ = some (.int .i64 i) := by simp
  have q2 : (w.alloc (.cells #[.string ⟨#[115, 117, 98]⟩, .int .i64 i, .int .i64 j, .int .i64 k, .string xt] 44)).cell? ⟨w.heap.size, 2, none⟩ = some (.int .i64 j) := by simp
  have q3 : (w.alloc (.cells #[.string ⟨#[115, 117, 98]⟩, .int .i64 i, .int .i64 j, .int .i64 k, .string xt] 44)).cell? ⟨w.heap.size, 3, none⟩ = some (.int .i64 k) := by simp
  have q4 : (w.alloc (.cells #[.string ⟨#[115, 117, 98]⟩, .int .i64 i, .int .i64 j, .int .i64 k, .string xt] 44)).cell? ⟨w.heap.size, 4, none⟩ = some (.string xt) := by simp
  have D1 := D.below hba
  have hlw := D.at'.lt
  have gi := D1.at'.reg t i t6 (by omega)
  have gj := D1.at'.reg t j t6 (by omega)
  have gk := D1.at'.reg t k t6 (by omega)
  have li : (i : Int) < 8 := by omega
  have lj : (j : Int) < 8 := by omega
  have lk : (k : Int) < 8 := by omega
  generalize hw : w.alloc (.cells #[.string ⟨#[115, 117, 98]⟩, .int .i64 i, .int .i64 j, .int .i64 k, .string xt] 44) = w1 at *
  have hj := D.ok.regs t j
  have hk := D.ok.regs t k
  have hw1 : IntKind.i64.wrap (m.regs t j - m.regs t k) = m.regs t j - m.regs t k := by obtain ⟨_, _⟩ := hj; obtain ⟨_, _⟩ := hk; rw [IntKind.wrap_i64]; omega
  have H1 := hide D1.at'
  have zi : w1.frozen? ⟨p.b, 585 + t * 9 + i, none⟩ = false := D1.at'.frozen _ (by omega) (by omega)
  have HS : Hid (MkStep a cs p w p.mv (m.setReg t i ((m.regs t j - m.regs t k) % 4294967296)) ((w1.setCell ⟨p.b, 585 + t * 9 + i, none⟩ (.int .i64 ((m.regs t j - m.regs t k) % 4294967296))).drew)) := (MkStep.of_below hba (D1.at'.setReg t6 (by omega) ((m.regs t j - m.regs t k) % 4294967296))).below (Below.refl _ _).drew
  clear D D1 hba hj hk H1
  generalize m.regs t i = Ri at *
  generalize m.regs t j = Rj at *
  generalize m.regs t k = Rk at *
  go_enter Tryz.func49, Tryz.ntmps49
  go_wp2_with fail
  clear hw
  refine wp_region_F (S := (fun w' => w'.cell? ⟨w.heap.size, 1, none⟩ = some (.int .i64 i) ∧ w'.cell? ⟨w.heap.size, 2, none⟩ = some (.int .i64 j) ∧ w'.cell? ⟨w.heap.size, 3, none⟩ = some (.int .i64 k) ∧ w'.cell? ⟨p.b, 585 + t * 9 + i, none⟩ = some (.int .i64 Ri) ∧ w'.cell? ⟨p.b, 585 + t * 9 + j, none⟩ = some (.int .i64 Rj) ∧ w'.cell? ⟨p.b, 585 + t * 9 + k, none⟩ = some (.int .i64 Rk))) (by kernel_rfl) (by (try dsimp only); go_keep) (fun hHeld => ?_)
  refine' wpAnyF_take (i := 0) (n := 19) (v := _) rfl (by kernel_rfl) (fun _ _ _ h => h) (by assumption) (Or.inl ⟨by rfl, ?hy73⟩) ?rest73
  case' hy73 => (intro w' hSw; (try dsimp only at hSw); go_simp; try with_reducible rfl)
  try simp only [Act.put, List.getElem_toArray, List.getElem_cons_zero, List.setIfInBounds_toArray, List.set_cons_zero, List.set_cons_succ]
  refine' wpAnyF_take (i := 1) (n := 19) (v := _) rfl (by kernel_rfl) (fun _ _ _ h => h) (by assumption) (Or.inl ⟨by rfl, ?hy74⟩) ?rest74
  case' hy74 => (intro w' hSw; (try dsimp only at hSw); go_simp; try with_reducible rfl)
  try simp only [Act.put, List.getElem_toArray, List.getElem_cons_zero, List.getElem_cons_succ, List.setIfInBounds_toArray, List.set_cons_zero, List.set_cons_succ]
  refine' wpAnyF_take (i := 2) (n := 19) (v := _) rfl (by kernel_rfl) (fun _ _ _ h => h) (by assumption) (Or.inl ⟨by rfl, ?hy75⟩) ?rest75
  case' hy75 => (intro w' hSw; (try dsimp only at hSw); go_simp; try with_reducible rfl)
  try simp only [Act.put, List.getElem_toArray, List.getElem_cons_zero, List.getElem_cons_succ, List.setIfInBounds_toArray, List.set_cons_zero, List.set_cons_succ]
  refine' wpAnyF_take (i := 3) (n := 19) (v := _) rfl (by kernel_rfl) (fun _ _ _ h => h) (by assumption) (Or.inl ⟨by rfl, ?hy76⟩) ?rest76
  case' hy76 => (intro w' hSw; (try dsimp only at hSw); go_simp; try with_reducible rfl)
  try simp only [Act.put, List.getElem_toArray, List.getElem_cons_zero, List.getElem_cons_succ, List.setIfInBounds_toArray, List.set_cons_zero, List.set_cons_succ]
  refine' wpAnyF_take (i := 4) (n := 19) (v := _) rfl (by kernel_rfl) (fun _ _ _ h => h) (by assumption) (Or.inl ⟨by rfl, ?hy77⟩) ?rest77
  case' hy77 => (intro w' hSw; (try dsimp only at hSw); go_simp; try with_reducible rfl)
  try simp only [Act.put, List.getElem_toArray, List.getElem_cons_zero, List.getElem_cons_succ, List.setIfInBounds_toArray, List.set_cons_zero, List.set_cons_succ]
  refine' wpAnyF_take (i := 5) (n := 19) (v := _) rfl (by kernel_rfl) (fun _ _ _ h => h) (by assumption) (Or.inl ⟨by rfl, ?hy78⟩) ?rest78
  case' hy78 => (intro w' hSw; (try dsimp only at hSw); go_simp; try with_reducible rfl)
  try simp only [Act.put, List.getElem_toArray, List.getElem_cons_zero, List.getElem_cons_succ, List.setIfInBounds_toArray, List.set_cons_zero, List.set_cons_succ]
  refine' wpAnyF_take (i := 6) (n := 19) (v := _) rfl (by kernel_rfl) (fun _ _ _ h => h) (by assumption) (Or.inl ⟨by rfl, ?hy79⟩) ?rest79
  case' hy79 => (intro w' hSw; (try dsimp only at hSw); go_simp; try with_reducible rfl)
  try simp only [Act.put, List.getElem_toArray, List.getElem_cons_zero, List.getElem_cons_succ, List.setIfInBounds_toArray, List.set_cons_zero, List.set_cons_succ]
  refine' wpAnyF_take (i := 7) (n := 19) (v := _) rfl (by kernel_rfl) (fun _ _ _ h => h) (by assumption) (Or.inl ⟨by rfl, ?hy80⟩) ?rest80
  case' hy80 => (intro w' hSw; (try dsimp only at hSw); go_simp; try with_reducible rfl)
  try simp only [Act.put, List.getElem_toArray, List.getElem_cons_zero, List.getElem_cons_succ, List.setIfInBounds_toArray, List.set_cons_zero, List.set_cons_succ]
  refine' wpAnyF_take (i := 8) (n := 19) (v := _) rfl (by kernel_rfl) (fun _ _ _ h => h) (by assumption) (Or.inl ⟨by rfl, ?hy81⟩) ?rest81
  case' hy81 => (intro w' hSw; (try dsimp only at hSw); go_simp; try with_reducible rfl)
  try simp only [Act.put, List.getElem_toArray, List.getElem_cons_zero, List.getElem_cons_succ, List.setIfInBounds_toArray, List.set_cons_zero, List.set_cons_succ]
  refine' wpAnyF_take (i := 9) (n := 19) (v := _) rfl (by kernel_rfl) (fun _ _ _ h => h) (by assumption) (Or.inl ⟨by rfl, ?hy82⟩) ?rest82
  case' hy82 => (intro w' hSw; (try dsimp only at hSw); go_simp; try with_reducible rfl)
  try simp only [Act.put, List.getElem_toArray, List.getElem_cons_zero, List.getElem_cons_succ, List.setIfInBounds_toArray, List.set_cons_zero, List.set_cons_succ]
  refine' wpAnyF_take (i := 10) (n := 19) (v := _) rfl (by kernel_rfl) (fun _ _ _ h => h) (by assumption) (Or.inl ⟨by rfl, ?hy83⟩) ?rest83
  case' hy83 => (intro w' hSw; (try dsimp only at hSw); go_simp; try with_reducible rfl)
  try simp only [Act.put, List.getElem_toArray, List.getElem_cons_zero, List.getElem_cons_succ, List.setIfInBounds_toArray, List.set_cons_zero, List.set_cons_succ]
  refine' wpAnyF_take (i := 11) (n := 19) (v := _) rfl (by kernel_rfl) (fun _ _ _ h => h) (by assumption) (Or.inl ⟨by rfl, ?hy84⟩) ?rest84
  case' hy84 => (intro w' hSw; (try dsimp only at hSw); go_simp; try with_reducible rfl)
  try simp only [Act.put, List.getElem_toArray, List.getElem_cons_zero, List.getElem_cons_succ, List.setIfInBounds_toArray, List.set_cons_zero, List.set_cons_succ]
  refine' wpAnyF_take (i := 12) (n := 19) (v := _) rfl (by kernel_rfl) (fun _ _ _ h => h) (by assumption) (Or.inl ⟨by rfl, ?hy85⟩) ?rest85
  case' hy85 => (intro w' hSw; (try dsimp only at hSw); go_simp; try with_reducible rfl)
  try simp only [Act.put, List.getElem_toArray, List.getElem_cons_zero, List.getElem_cons_succ, List.setIfInBounds_toArray, List.set_cons_zero, List.set_cons_succ]
  refine' wpAnyF_take (i := 13) (n := 19) (v := _) rfl (by kernel_rfl) (fun _ _ _ h => h) (by assumption) (Or.inl ⟨by rfl, ?hy86⟩) ?rest86
  case' hy86 => (intro w' hSw; (try dsimp only at hSw); go_simp; try with_reducible rfl)
  try simp only [Act.put, List.getElem_toArray, List.getElem_cons_zero, List.getElem_cons_succ, List.setIfInBounds_toArray, List.set_cons_zero, List.set_cons_succ]
  refine' wpAnyF_take (i := 14) (n := 19) (v := _) rfl (by kernel_rfl) (fun _ _ _ h => h) (by assumption) (Or.inl ⟨by rfl, ?hy87⟩) ?rest87
  case' hy87 => (intro w' hSw; (try dsimp only at hSw); go_simp; try with_reducible rfl)
  try simp only [Act.put, List.getElem_toArray, List.getElem_cons_zero, List.getElem_cons_succ, List.setIfInBounds_toArray, List.set_cons_zero, List.set_cons_succ]
  refine' wpAnyF_take (i := 15) (n := 19) (v := _) rfl (by kernel_rfl) (fun _ _ _ h => h) (by assumption) (Or.inl ⟨by rfl, ?hy88⟩) ?rest88
  case' hy88 => (intro w' hSw; (try dsimp only at hSw); go_simp; try with_reducible rfl)
  try simp only [Act.put, List.getElem_toArray, List.getElem_cons_zero, List.getElem_cons_succ, List.setIfInBounds_toArray, List.set_cons_zero, List.set_cons_succ]
  refine' wpAnyF_take (i := 17) (n := 19) (v := _) rfl (by kernel_rfl) (fun _ _ _ h => h) (by assumption) (Or.inl ⟨by rfl, ?hy89⟩) ?rest89
  case' hy89 => (intro w' hSw; (try dsimp only at hSw); go_simp; try with_reducible rfl)
  try simp only [Act.put, List.getElem_toArray, List.getElem_cons_zero, List.getElem_cons_succ, List.setIfInBounds_toArray, List.set_cons_zero, List.set_cons_succ]
  refine wpAnyF_only (i := 16) rfl (by kernel_rfl) (fun K hK => ?_)
  go_simp
  go_at_call 68
  refine (round_any _ _).mono ?_
  rintro e w4 ⟨rfl, rfl⟩
  dsimp only
  refine hK.out _ _ (Or.inr (by (try dsimp only); exact hHeld)) ?_
  clear hK K
  try simp only [Act.put, List.getElem_toArray, List.getElem_cons_zero, List.getElem_cons_succ, List.setIfInBounds_toArray, List.set_cons_zero, List.set_cons_succ]
  refine' wpAnyF_take (i := 18) (n := 19) (v := _) rfl (by kernel_rfl) (fun _ _ _ h => h) (by assumption) (Or.inl ⟨by rfl, ?hy90⟩) ?rest90
  case' hy90 => (intro w' hSw; (try dsimp only at hSw); go_simp; try with_reducible rfl)
  try simp only [Act.put, List.getElem_toArray, List.getElem_cons_zero, List.getElem_cons_succ, List.setIfInBounds_toArray, List.set_cons_zero, List.set_cons_succ]
  clear hHeld
  refine wpAnyF_only (i := 19) rfl (by kernel_rfl) (fun K hK => ?_)
  go_simp
  refine hK.out _ _ (Or.inl (by kernel_rfl)) ?_
  clear hK K
  try simp only [Act.put, List.getElem_toArray, List.getElem_cons_zero, List.getElem_cons_succ, List.setIfInBounds_toArray, List.set_cons_zero, List.set_cons_succ]
  refine wpAnyF_done (by kernel_rfl) ?_ _
  go_wp2
  go_end0
  exact ⟨rfl, _, HS.out⟩

set_option maxRecDepth 20000 in
set_option maxHeartbeats 2000000 in
theorem kdo_zero {a : Nat → Addr} {cs : List (List Ins)} {p : MkPl} {m : Mk} {K t : Nat} {w : World} (D : DoX a cs p m K t w) (L : List Ins) (x : Ins) (e : x.op = ⟨#[122, 101, 114, 111]⟩) {i : Nat} (hi : i < 8) (ei : x.a = i) {L' : Nat} (ht : cs[t]? = some L) (hs : x.to.size ≤ maxLen) (hi : labelAt L x.to = L') :
    Calls Tryz.prog 49 #[.pointer (some ⟨p.b, 0, none⟩), .int .i64 t, .agg #[.string x.op, .int .i64 x.a, .int .i64 x.b, .int .i64 x.c, .string x.to]] w fun e w' => e = .returned (.tuple #[]) ∧ ∃ v, MkStep a cs p w v (m.exec L t x) w' := by
  rw [exec_zero m L t e]
  rw [ei]
  simp only [Int.toNat_natCast]
  obtain ⟨xo, xa, xb, xc, xt⟩ := x
  dsimp only at e ei hs hi ⊢
  subst e ei
  have t6 := D.t6
  have t6i : (t : Int) < 6 := by omega
  have hba : Below w.heap.size w (w.alloc (.cells #[.string ⟨#[122, 101, 114, 111]⟩, .int .i64 i, .int .i64 xb, .int .i64 xc, .string xt] 44)) := (Below.refl _ _).alloc (Nat.le_refl _) _
  have q0 : (w.alloc (.cells #[.string ⟨#[122, 101, 114, 111]⟩, .int .i64 i, .int .i64 xb, .int .i64 xc, .string xt] 44)).cell? ⟨w.heap.size, 0, none⟩ = some (.string ⟨#[122, 101, 114, 111]⟩) := by simp
  have q1 : (w.alloc (.cells #[.string ⟨#[122, 101, 114, 111]⟩, .int .i64 i, .int .i64 xb, .int .i64 xc, .string xt] 44)).cell? ⟨w.heap.size, 1, none⟩ = some (.int .i64 i) := by simp
  have q2 : (w.alloc (.cells #[.string ⟨#[122, 101, 114, 111]⟩, .int .i64 i, .int .i64 xb, .int .i64 xc, .string xt] 44)).cell? ⟨w.heap.size, 2, none⟩ = some (.int .i64 xb) := by simp
  have q3 : (w.alloc (.cells #[.string ⟨#[122, 101, 114, 111]⟩, .int .i64 i, .int .i64 xb, .int .i64 xc, .string xt] 44)).cell? ⟨w.heap.size, 3, none⟩ = some (.int .i64 xc) := by simp
  have q4 : (w.alloc (.cells #[.string ⟨#[122, 101, 114, 111]⟩, .int .i64 i, .int .i64 xb, .int .i64 xc, .string xt] 44)).cell? ⟨w.heap.size, 4, none⟩ = some (.string xt) := by simp
  have D1 := D.below hba
  have hlw := D.at'.lt
  have gi := D1.at'.reg t i t6 (by omega)
  have li : (i : Int) < 8 := by omega
  generalize hw : w.alloc (.cells #[.string ⟨#[122, 101, 114, 111]⟩, .int .i64 i, .int .i64 xb, .int .i64 xc, .string xt] 44) = w1 at *
  have HL : Hid (Calls Tryz.prog 69 #[.pointer (some ⟨p.b, 0, none⟩), .int .i64 t, .string xt, .bool (m.regs t i == 0)] (w1.drewN 1) fun e w'' => e = .returned (.tuple #[]) ∧ Hid (∃ v, MkStep a cs p w v (if m.regs t i = 0 then m.jump t L xt else m) w'')) :=
    (kjump_any ht hs hi _ (D1.at'.drewN 1)).mono fun e w'' ⟨e1, e2⟩ => ⟨e1, ⟨_, by have e3 := MkStep.of_below (below_dN hba 1) e2; simpa only [beq_iff_eq] using e3⟩⟩
  clear D D1 hba
  generalize (if m.regs t i = 0 then m.jump t L xt else m) = m1 at *
  generalize m.regs t i = Ri at *
  go_enter Tryz.func49, Tryz.ntmps49
  go_wp2_with fail
  clear hw
  refine wp_region_F (S := (fun w' => w'.cell? ⟨w.heap.size, 1, none⟩ = some (.int .i64 i) ∧ w'.cell? ⟨w.heap.size, 4, none⟩ = some (.string xt) ∧ w'.cell? ⟨p.b, 585 + t * 9 + i, none⟩ = some (.int .i64 Ri))) (by kernel_rfl) (by (try dsimp only); go_keep) (fun hHeld => ?_)
  refine' wpAnyF_take (i := 0) (n := 11) (v := _) rfl (by kernel_rfl) (fun _ _ _ h => h) (by assumption) (Or.inl ⟨by rfl, ?hy91⟩) ?rest91
  case' hy91 => (intro w' hSw; (try dsimp only at hSw); go_simp; try with_reducible rfl)
  try simp only [Act.put, List.getElem_toArray, List.getElem_cons_zero, List.setIfInBounds_toArray, List.set_cons_zero, List.set_cons_succ]
  refine' wpAnyF_take (i := 1) (n := 11) (v := _) rfl (by kernel_rfl) (fun _ _ _ h => h) (by assumption) (Or.inl ⟨by rfl, ?hy92⟩) ?rest92
  case' hy92 => (intro w' hSw; (try dsimp only at hSw); go_simp; try with_reducible rfl)
  try simp only [Act.put, List.getElem_toArray, List.getElem_cons_zero, List.getElem_cons_succ, List.setIfInBounds_toArray, List.set_cons_zero, List.set_cons_succ]
  refine' wpAnyF_take (i := 2) (n := 11) (v := _) rfl (by kernel_rfl) (fun _ _ _ h => h) (by assumption) (Or.inl ⟨by rfl, ?hy93⟩) ?rest93
  case' hy93 => (intro w' hSw; (try dsimp only at hSw); go_simp; try with_reducible rfl)
  try simp only [Act.put, List.getElem_toArray, List.getElem_cons_zero, List.getElem_cons_succ, List.setIfInBounds_toArray, List.set_cons_zero, List.set_cons_succ]
  refine' wpAnyF_take (i := 3) (n := 11) (v := _) rfl (by kernel_rfl) (fun _ _ _ h => h) (by assumption) (Or.inl ⟨by rfl, ?hy94⟩) ?rest94
  case' hy94 => (intro w' hSw; (try dsimp only at hSw); go_simp; try with_reducible rfl)
  try simp only [Act.put, List.getElem_toArray, List.getElem_cons_zero, List.getElem_cons_succ, List.setIfInBounds_toArray, List.set_cons_zero, List.set_cons_succ]
  refine' wpAnyF_take (i := 4) (n := 11) (v := _) rfl (by kernel_rfl) (fun _ _ _ h => h) (by assumption) (Or.inl ⟨by rfl, ?hy95⟩) ?rest95
  case' hy95 => (intro w' hSw; (try dsimp only at hSw); go_simp; try with_reducible rfl)
  try simp only [Act.put, List.getElem_toArray, List.getElem_cons_zero, List.getElem_cons_succ, List.setIfInBounds_toArray, List.set_cons_zero, List.set_cons_succ]
  refine' wpAnyF_take (i := 5) (n := 11) (v := _) rfl (by kernel_rfl) (fun _ _ _ h => h) (by assumption) (Or.inl ⟨by rfl, ?hy96⟩) ?rest96
  case' hy96 => (intro w' hSw; (try dsimp only at hSw); go_simp; try with_reducible rfl)
  try simp only [Act.put, List.getElem_toArray, List.getElem_cons_zero, List.getElem_cons_succ, List.setIfInBounds_toArray, List.set_cons_zero, List.set_cons_succ]
  refine' wpAnyF_take (i := 6) (n := 11) (v := _) rfl (by kernel_rfl) (fun _ _ _ h => h) (by assumption) (Or.inl ⟨by rfl, ?hy97⟩) ?rest97
  case' hy97 => (intro w' hSw; (try dsimp only at hSw); go_simp; try with_reducible rfl)
  try simp only [Act.put, List.getElem_toArray, List.getElem_cons_zero, List.getElem_cons_succ, List.setIfInBounds_toArray, List.set_cons_zero, List.set_cons_succ]
  refine' wpAnyF_take (i := 7) (n := 11) (v := _) rfl (by kernel_rfl) (fun _ _ _ h => h) (by assumption) (Or.inl ⟨by rfl, ?hy98⟩) ?rest98
  case' hy98 => (intro w' hSw; (try dsimp only at hSw); go_simp; try with_reducible rfl)
  try simp only [Act.put, List.getElem_toArray, List.getElem_cons_zero, List.getElem_cons_succ, List.setIfInBounds_toArray, List.set_cons_zero, List.set_cons_succ]
  refine' wpAnyF_take (i := 8) (n := 11) (v := _) rfl (by kernel_rfl) (fun _ _ _ h => h) (by assumption) (Or.inl ⟨by rfl, ?hy99⟩) ?rest99
  case' hy99 => (intro w' hSw; (try dsimp only at hSw); go_simp; try with_reducible rfl)
  try simp only [Act.put, List.getElem_toArray, List.getElem_cons_zero, List.getElem_cons_succ, List.setIfInBounds_toArray, List.set_cons_zero, List.set_cons_succ]
  refine' wpAnyF_take (i := 9) (n := 11) (v := _) rfl (by kernel_rfl) (fun _ _ _ h => h) (by assumption) (Or.inl ⟨by rfl, ?hy100⟩) ?rest100
  case' hy100 => (intro w' hSw; (try dsimp only at hSw); go_simp; try with_reducible rfl)
  try simp only [Act.put, List.getElem_toArray, List.getElem_cons_zero, List.getElem_cons_succ, List.setIfInBounds_toArray, List.set_cons_zero, List.set_cons_succ]
  refine' wpAnyF_take (i := 10) (n := 11) (v := _) rfl (by kernel_rfl) (fun _ _ _ h => h) (by assumption) (Or.inl ⟨by rfl, ?hy101⟩) ?rest101
  case' hy101 => (intro w' hSw; (try dsimp only at hSw); go_simp; try with_reducible rfl)
  try simp only [Act.put, List.getElem_toArray, List.getElem_cons_zero, List.getElem_cons_succ, List.setIfInBounds_toArray, List.set_cons_zero, List.set_cons_succ]
  refine wpAnyF_only (i := 11) rfl (by kernel_rfl) (fun K hK => ?_)
  go_simp
  go_at_call 69
  refine HL.out.mono ?_
  rintro e w4 ⟨rfl, k4⟩
  dsimp only
  refine hK.out _ _ (Or.inl (by kernel_rfl)) ?_
  clear hK K
  try simp only [Act.put, List.getElem_toArray, List.getElem_cons_zero, List.getElem_cons_succ, List.setIfInBounds_toArray, List.set_cons_zero, List.set_cons_succ]
  refine wpAnyF_done (by kernel_rfl) ?_ _
  go_wp2
  go_end0
  exact ⟨rfl, k4.out⟩

set_option maxRecDepth 20000 in
set_option maxHeartbeats 2000000 in
theorem kdo_same {a : Nat → Addr} {cs : List (List Ins)} {p : MkPl} {m : Mk} {K t : Nat} {w : World} (D : DoX a cs p m K t w) (L : List Ins) (x : Ins) (e : x.op = ⟨#[115, 97, 109, 101]⟩) {i : Nat} (hi : i < 8) (ei : x.a = i) {j : Nat} (hj : j < 8) (ej : x.b = j) {L' : Nat} (ht : cs[t]? = some L) (hs : x.to.size ≤ maxLen) (hi : labelAt L x.to = L') :
    Calls Tryz.prog 49 #[.pointer (some ⟨p.b, 0, none⟩), .int .i64 t, .agg #[.string x.op, .int .i64 x.a, .int .i64 x.b, .int .i64 x.c, .string x.to]] w fun e w' => e = .returned (.tuple #[]) ∧ ∃ v, MkStep a cs p w v (m.exec L t x) w' := by
  rw [exec_same m L t e]
  rw [ei]
  rw [ej]
  simp only [Int.toNat_natCast]
  obtain ⟨xo, xa, xb, xc, xt⟩ := x
  dsimp only at e ei ej hs hi ⊢
  subst e ei ej
  have t6 := D.t6
  have t6i : (t : Int) < 6 := by omega
  have hba : Below w.heap.size w (w.alloc (.cells #[.string ⟨#[115, 97, 109, 101]⟩, .int .i64 i, .int .i64 j, .int .i64 xc, .string xt] 44)) := (Below.refl _ _).alloc (Nat.le_refl _) _
  have q0 : (w.alloc (.cells #[.string ⟨#[115, 97, 109, 101]⟩, .int .i64 i, .int .i64 j, .int .i64 xc, .string xt] 44)).cell? ⟨w.heap.size, 0, none⟩ = some (.string ⟨#[115, 97, 109, 101]⟩) := by simp
  have q1 : (w.alloc (.cells #[.string ⟨#[115, 97, 109, 101]⟩, .int .i64 i, .int .i64 j, .int .i64 xc, .string xt] 44)).cell? ⟨w.heap.size, 1, none⟩ = some (.int .i64 i) := by simp
  have q2 : (w.alloc (.cells #[.string ⟨#[115, 97, 109, 101]⟩, .int .i64 i, .int .i64 j, .int .i64 xc, .string xt] 44)).cell? ⟨w.heap.size, 2, none⟩ = some (.int .i64 j) := by simp
  have q3 : (w.alloc (.cells #[.string ⟨#[115, 97, 109, 101]⟩, .int .i64 i, .int .i64 j, .int .i64 xc, .string xt] 44)).cell? ⟨w.heap.size, 3, none⟩ = some (.int .i64 xc) := by simp
  have q4 : (w.alloc (.cells #[.string ⟨#[115, 97, 109, 101]⟩, .int .i64 i, .int .i64 j, .int .i64 xc, .string xt] 44)).cell? ⟨w.heap.size, 4, none⟩ = some (.string xt) := by simp
  have D1 := D.below hba
  have hlw := D.at'.lt
  have gi := D1.at'.reg t i t6 (by omega)
  have gj := D1.at'.reg t j t6 (by omega)
  have li : (i : Int) < 8 := by omega
  have lj : (j : Int) < 8 := by omega
  generalize hw : w.alloc (.cells #[.string ⟨#[115, 97, 109, 101]⟩, .int .i64 i, .int .i64 j, .int .i64 xc, .string xt] 44) = w1 at *
  have HL : Hid (Calls Tryz.prog 69 #[.pointer (some ⟨p.b, 0, none⟩), .int .i64 t, .string xt, .bool (m.regs t i == m.regs t j)] (w1.drewN 1) fun e w'' => e = .returned (.tuple #[]) ∧ Hid (∃ v, MkStep a cs p w v (if m.regs t i = m.regs t j then m.jump t L xt else m) w'')) :=
    (kjump_any ht hs hi _ (D1.at'.drewN 1)).mono fun e w'' ⟨e1, e2⟩ => ⟨e1, ⟨_, by have e3 := MkStep.of_below (below_dN hba 1) e2; simpa only [beq_iff_eq] using e3⟩⟩
  clear D D1 hba
  generalize (if m.regs t i = m.regs t j then m.jump t L xt else m) = m1 at *
  generalize m.regs t i = Ri at *
  generalize m.regs t j = Rj at *
  go_enter Tryz.func49, Tryz.ntmps49
  go_wp2_with fail
  clear hw
  refine wp_region_F (S := (fun w' => w'.cell? ⟨w.heap.size, 1, none⟩ = some (.int .i64 i) ∧ w'.cell? ⟨w.heap.size, 2, none⟩ = some (.int .i64 j) ∧ w'.cell? ⟨w.heap.size, 4, none⟩ = some (.string xt) ∧ w'.cell? ⟨p.b, 585 + t * 9 + i, none⟩ = some (.int .i64 Ri) ∧ w'.cell? ⟨p.b, 585 + t * 9 + j, none⟩ = some (.int .i64 Rj))) (by kernel_rfl) (by (try dsimp only); go_keep) (fun hHeld => ?_)
  refine' wpAnyF_take (i := 0) (n := 17) (v := _) rfl (by kernel_rfl) (fun _ _ _ h => h) (by assumption) (Or.inl ⟨by rfl, ?hy102⟩) ?rest102
  case' hy102 => (intro w' hSw; (try dsimp only at hSw); go_simp; try with_reducible rfl)
  try simp only [Act.put, List.getElem_toArray, List.getElem_cons_zero, List.setIfInBounds_toArray, List.set_cons_zero, List.set_cons_succ]
  refine' wpAnyF_take (i := 1) (n := 17) (v := _) rfl (by kernel_rfl) (fun _ _ _ h => h) (by assumption) (Or.inl ⟨by rfl, ?hy103⟩) ?rest103
  case' hy103 => (intro w' hSw; (try dsimp only at hSw); go_simp; try with_reducible rfl)
  try simp only [Act.put, List.getElem_toArray, List.getElem_cons_zero, List.getElem_cons_succ, List.setIfInBounds_toArray, List.set_cons_zero, List.set_cons_succ]
  refine' wpAnyF_take (i := 2) (n := 17) (v := _) rfl (by kernel_rfl) (fun _ _ _ h => h) (by assumption) (Or.inl ⟨by rfl, ?hy104⟩) ?rest104
  case' hy104 => (intro w' hSw; (try dsimp only at hSw); go_simp; try with_reducible rfl)
  try simp only [Act.put, List.getElem_toArray, List.getElem_cons_zero, List.getElem_cons_succ, List.setIfInBounds_toArray, List.set_cons_zero, List.set_cons_succ]
  refine' wpAnyF_take (i := 3) (n := 17) (v := _) rfl (by kernel_rfl) (fun _ _ _ h => h) (by assumption) (Or.inl ⟨by rfl, ?hy105⟩) ?rest105
  case' hy105 => (intro w' hSw; (try dsimp only at hSw); go_simp; try with_reducible rfl)
  try simp only [Act.put, List.getElem_toArray, List.getElem_cons_zero, List.getElem_cons_succ, List.setIfInBounds_toArray, List.set_cons_zero, List.set_cons_succ]
  refine' wpAnyF_take (i := 4) (n := 17) (v := _) rfl (by kernel_rfl) (fun _ _ _ h => h) (by assumption) (Or.inl ⟨by rfl, ?hy106⟩) ?rest106
  case' hy106 => (intro w' hSw; (try dsimp only at hSw); go_simp; try with_reducible rfl)
  try simp only [Act.put, List.getElem_toArray, List.getElem_cons_zero, List.getElem_cons_succ, List.setIfInBounds_toArray, List.set_cons_zero, List.set_cons_succ]
  refine' wpAnyF_take (i := 5) (n := 17) (v := _) rfl (by kernel_rfl) (fun _ _ _ h => h) (by assumption) (Or.inl ⟨by rfl, ?hy107⟩) ?rest107
  case' hy107 => (intro w' hSw; (try dsimp only at hSw); go_simp; try with_reducible rfl)
  try simp only [Act.put, List.getElem_toArray, List.getElem_cons_zero, List.getElem_cons_succ, List.setIfInBounds_toArray, List.set_cons_zero, List.set_cons_succ]
  refine' wpAnyF_take (i := 6) (n := 17) (v := _) rfl (by kernel_rfl) (fun _ _ _ h => h) (by assumption) (Or.inl ⟨by rfl, ?hy108⟩) ?rest108
  case' hy108 => (intro w' hSw; (try dsimp only at hSw); go_simp; try with_reducible rfl)
  try simp only [Act.put, List.getElem_toArray, List.getElem_cons_zero, List.getElem_cons_succ, List.setIfInBounds_toArray, List.set_cons_zero, List.set_cons_succ]
  refine' wpAnyF_take (i := 7) (n := 17) (v := _) rfl (by kernel_rfl) (fun _ _ _ h => h) (by assumption) (Or.inl ⟨by rfl, ?hy109⟩) ?rest109
  case' hy109 => (intro w' hSw; (try dsimp only at hSw); go_simp; try with_reducible rfl)
  try simp only [Act.put, List.getElem_toArray, List.getElem_cons_zero, List.getElem_cons_succ, List.setIfInBounds_toArray, List.set_cons_zero, List.set_cons_succ]
  refine' wpAnyF_take (i := 8) (n := 17) (v := _) rfl (by kernel_rfl) (fun _ _ _ h => h) (by assumption) (Or.inl ⟨by rfl, ?hy110⟩) ?rest110
  case' hy110 => (intro w' hSw; (try dsimp only at hSw); go_simp; try with_reducible rfl)
  try simp only [Act.put, List.getElem_toArray, List.getElem_cons_zero, List.getElem_cons_succ, List.setIfInBounds_toArray, List.set_cons_zero, List.set_cons_succ]
  refine' wpAnyF_take (i := 9) (n := 17) (v := _) rfl (by kernel_rfl) (fun _ _ _ h => h) (by assumption) (Or.inl ⟨by rfl, ?hy111⟩) ?rest111
  case' hy111 => (intro w' hSw; (try dsimp only at hSw); go_simp; try with_reducible rfl)
  try simp only [Act.put, List.getElem_toArray, List.getElem_cons_zero, List.getElem_cons_succ, List.setIfInBounds_toArray, List.set_cons_zero, List.set_cons_succ]
  refine' wpAnyF_take (i := 10) (n := 17) (v := _) rfl (by kernel_rfl) (fun _ _ _ h => h) (by assumption) (Or.inl ⟨by rfl, ?hy112⟩) ?rest112
  case' hy112 => (intro w' hSw; (try dsimp only at hSw); go_simp; try with_reducible rfl)
  try simp only [Act.put, List.getElem_toArray, List.getElem_cons_zero, List.getElem_cons_succ, List.setIfInBounds_toArray, List.set_cons_zero, List.set_cons_succ]
  refine' wpAnyF_take (i := 11) (n := 17) (v := _) rfl (by kernel_rfl) (fun _ _ _ h => h) (by assumption) (Or.inl ⟨by rfl, ?hy113⟩) ?rest113
  case' hy113 => (intro w' hSw; (try dsimp only at hSw); go_simp; try with_reducible rfl)
  try simp only [Act.put, List.getElem_toArray, List.getElem_cons_zero, List.getElem_cons_succ, List.setIfInBounds_toArray, List.set_cons_zero, List.set_cons_succ]
  refine' wpAnyF_take (i := 12) (n := 17) (v := _) rfl (by kernel_rfl) (fun _ _ _ h => h) (by assumption) (Or.inl ⟨by rfl, ?hy114⟩) ?rest114
  case' hy114 => (intro w' hSw; (try dsimp only at hSw); go_simp; try with_reducible rfl)
  try simp only [Act.put, List.getElem_toArray, List.getElem_cons_zero, List.getElem_cons_succ, List.setIfInBounds_toArray, List.set_cons_zero, List.set_cons_succ]
  refine' wpAnyF_take (i := 13) (n := 17) (v := _) rfl (by kernel_rfl) (fun _ _ _ h => h) (by assumption) (Or.inl ⟨by rfl, ?hy115⟩) ?rest115
  case' hy115 => (intro w' hSw; (try dsimp only at hSw); go_simp; try with_reducible rfl)
  try simp only [Act.put, List.getElem_toArray, List.getElem_cons_zero, List.getElem_cons_succ, List.setIfInBounds_toArray, List.set_cons_zero, List.set_cons_succ]
  refine' wpAnyF_take (i := 14) (n := 17) (v := _) rfl (by kernel_rfl) (fun _ _ _ h => h) (by assumption) (Or.inl ⟨by rfl, ?hy116⟩) ?rest116
  case' hy116 => (intro w' hSw; (try dsimp only at hSw); go_simp; try with_reducible rfl)
  try simp only [Act.put, List.getElem_toArray, List.getElem_cons_zero, List.getElem_cons_succ, List.setIfInBounds_toArray, List.set_cons_zero, List.set_cons_succ]
  refine' wpAnyF_take (i := 15) (n := 17) (v := _) rfl (by kernel_rfl) (fun _ _ _ h => h) (by assumption) (Or.inl ⟨by rfl, ?hy117⟩) ?rest117
  case' hy117 => (intro w' hSw; (try dsimp only at hSw); go_simp; try with_reducible rfl)
  try simp only [Act.put, List.getElem_toArray, List.getElem_cons_zero, List.getElem_cons_succ, List.setIfInBounds_toArray, List.set_cons_zero, List.set_cons_succ]
  refine' wpAnyF_take (i := 16) (n := 17) (v := _) rfl (by kernel_rfl) (fun _ _ _ h => h) (by assumption) (Or.inl ⟨by rfl, ?hy118⟩) ?rest118
  case' hy118 => (intro w' hSw; (try dsimp only at hSw); go_simp; try with_reducible rfl)
  try simp only [Act.put, List.getElem_toArray, List.getElem_cons_zero, List.getElem_cons_succ, List.setIfInBounds_toArray, List.set_cons_zero, List.set_cons_succ]
  refine wpAnyF_only (i := 17) rfl (by kernel_rfl) (fun K hK => ?_)
  go_simp
  go_at_call 69
  refine HL.out.mono ?_
  rintro e w4 ⟨rfl, k4⟩
  dsimp only
  refine hK.out _ _ (Or.inl (by kernel_rfl)) ?_
  clear hK K
  try simp only [Act.put, List.getElem_toArray, List.getElem_cons_zero, List.getElem_cons_succ, List.setIfInBounds_toArray, List.set_cons_zero, List.set_cons_succ]
  refine wpAnyF_done (by kernel_rfl) ?_ _
  go_wp2
  go_end0
  exact ⟨rfl, k4.out⟩

set_option maxRecDepth 20000 in
set_option maxHeartbeats 2000000 in
theorem kdo_mark {a : Nat → Addr} {cs : List (List Ins)} {p : MkPl} {m : Mk} {K t : Nat} {w : World} (D : DoX a cs p m K t w) (L : List Ins) (x : Ins) (e : x.op = ⟨#[109, 97, 114, 107]⟩) {i : Nat} (hi : i < 8) (ei : x.a = i) :
    Calls Tryz.prog 49 #[.pointer (some ⟨p.b, 0, none⟩), .int .i64 t, .agg #[.string x.op, .int .i64 x.a, .int .i64 x.b, .int .i64 x.c, .string x.to]] w fun e w' => e = .returned (.tuple #[]) ∧ ∃ v, MkStep a cs p w v (m.exec L t x) w' := by
  rw [exec_mark m L t e]
  rw [ei]
  simp only [Int.toNat_natCast]
  obtain ⟨xo, xa, xb, xc, xt⟩ := x
  dsimp only at e ei ⊢
  subst e ei
  have t6 := D.t6
  have t6i : (t : Int) < 6 := by omega
  have hba : Below w.heap.size w (w.alloc (.cells #[.string ⟨#[109, 97, 114, 107]⟩, .int .i64 i, .int .i64 xb, .int .i64 xc, .string xt] 44)) := (Below.refl _ _).alloc (Nat.le_refl _) _
  have q0 : (w.alloc (.cells #[.string ⟨#[109, 97, 114, 107]⟩, .int .i64 i, .int .i64 xb, .int .i64 xc, .string xt] 44)).cell? ⟨w.heap.size, 0, none⟩ = some (.string ⟨#[109, 97, 114, 107]⟩) := by simp
  have q1 : (w.alloc (.cells #[.string ⟨#[109, 97, 114, 107]⟩, .int .i64 i, .int .i64 xb, .int .i64 xc, .string xt] 44)).cell? ⟨w.heap.size, 1, none⟩ = some (.int .i64 i) := by simp
  have q2 : (w.alloc (.cells #[.string ⟨#[109, 97, 114, 107]⟩, .int .i64 i, .int .i64 xb, .int .i64 xc, .string xt] 44)).cell? ⟨w.heap.size, 2, none⟩ = some (.int .i64 xb) := by simp
  have q3 : (w.alloc (.cells #[.string ⟨#[109, 97, 114, 107]⟩, .int .i64 i, .int .i64 xb, .int .i64 xc, .string xt] 44)).cell? ⟨w.heap.size, 3, none⟩ = some (.int .i64 xc) := by simp
  have q4 : (w.alloc (.cells #[.string ⟨#[109, 97, 114, 107]⟩, .int .i64 i, .int .i64 xb, .int .i64 xc, .string xt] 44)).cell? ⟨w.heap.size, 4, none⟩ = some (.string xt) := by simp
  have D1 := D.below hba
  have hlw := D.at'.lt
  have gi := D1.at'.reg t i t6 (by omega)
  have li : (i : Int) < 8 := by omega
  generalize hw : w.alloc (.cells #[.string ⟨#[109, 97, 114, 107]⟩, .int .i64 i, .int .i64 xb, .int .i64 xc, .string xt] 44) = w1 at *
  have HL : Hid (Calls Tryz.prog 70 #[.pointer (some ⟨p.b, 0, none⟩), .int .i64 t, .int .i64 (m.regs t i)] (w1.drewN 1) fun e w'' => e = .returned (.tuple #[]) ∧ Hid (∃ v, MkStep a cs p w v (m.mark t (m.regs t i)) w'')) :=
    (kmark_any t _ (D1.at'.drewN 1) D.ok.marks).mono fun e w'' ⟨e1, e2⟩ => ⟨e1, let ⟨v, e3⟩ := e2; ⟨v, MkStep.of_below (below_dN hba 1) e3⟩⟩
  clear D D1 hba
  generalize (m.mark t (m.regs t i)) = m1 at *
  generalize m.regs t i = Ri at *
  go_enter Tryz.func49, Tryz.ntmps49
  go_wp2_with fail
  clear hw
  refine wp_region_F (S := (fun w' => w'.cell? ⟨w.heap.size, 1, none⟩ = some (.int .i64 i) ∧ w'.cell? ⟨p.b, 585 + t * 9 + i, none⟩ = some (.int .i64 Ri))) (by kernel_rfl) (by (try dsimp only); go_keep) (fun hHeld => ?_)
  refine' wpAnyF_take (i := 0) (n := 8) (v := _) rfl (by kernel_rfl) (fun _ _ _ h => h) (by assumption) (Or.inl ⟨by rfl, ?hy119⟩) ?rest119
  case' hy119 => (intro w' hSw; (try dsimp only at hSw); go_simp; try with_reducible rfl)
  try simp only [Act.put, List.getElem_toArray, List.getElem_cons_zero, List.setIfInBounds_toArray, List.set_cons_zero, List.set_cons_succ]
  refine' wpAnyF_take (i := 1) (n := 8) (v := _) rfl (by kernel_rfl) (fun _ _ _ h => h) (by assumption) (Or.inl ⟨by rfl, ?hy120⟩) ?rest120
  case' hy120 => (intro w' hSw; (try dsimp only at hSw); go_simp; try with_reducible rfl)
  try simp only [Act.put, List.getElem_toArray, List.getElem_cons_zero, List.getElem_cons_succ, List.setIfInBounds_toArray, List.set_cons_zero, List.set_cons_succ]
  refine' wpAnyF_take (i := 2) (n := 8) (v := _) rfl (by kernel_rfl) (fun _ _ _ h => h) (by assumption) (Or.inl ⟨by rfl, ?hy121⟩) ?rest121
  case' hy121 => (intro w' hSw; (try dsimp only at hSw); go_simp; try with_reducible rfl)
  try simp only [Act.put, List.getElem_toArray, List.getElem_cons_zero, List.getElem_cons_succ, List.setIfInBounds_toArray, List.set_cons_zero, List.set_cons_succ]
  refine' wpAnyF_take (i := 3) (n := 8) (v := _) rfl (by kernel_rfl) (fun _ _ _ h => h) (by assumption) (Or.inl ⟨by rfl, ?hy122⟩) ?rest122
  case' hy122 => (intro w' hSw; (try dsimp only at hSw); go_simp; try with_reducible rfl)
  try simp only [Act.put, List.getElem_toArray, List.getElem_cons_zero, List.getElem_cons_succ, List.setIfInBounds_toArray, List.set_cons_zero, List.set_cons_succ]
  refine' wpAnyF_take (i := 4) (n := 8) (v := _) rfl (by kernel_rfl) (fun _ _ _ h => h) (by assumption) (Or.inl ⟨by rfl, ?hy123⟩) ?rest123
  case' hy123 => (intro w' hSw; (try dsimp only at hSw); go_simp; try with_reducible rfl)
  try simp only [Act.put, List.getElem_toArray, List.getElem_cons_zero, List.getElem_cons_succ, List.setIfInBounds_toArray, List.set_cons_zero, List.set_cons_succ]
  refine' wpAnyF_take (i := 5) (n := 8) (v := _) rfl (by kernel_rfl) (fun _ _ _ h => h) (by assumption) (Or.inl ⟨by rfl, ?hy124⟩) ?rest124
  case' hy124 => (intro w' hSw; (try dsimp only at hSw); go_simp; try with_reducible rfl)
  try simp only [Act.put, List.getElem_toArray, List.getElem_cons_zero, List.getElem_cons_succ, List.setIfInBounds_toArray, List.set_cons_zero, List.set_cons_succ]
  refine' wpAnyF_take (i := 6) (n := 8) (v := _) rfl (by kernel_rfl) (fun _ _ _ h => h) (by assumption) (Or.inl ⟨by rfl, ?hy125⟩) ?rest125
  case' hy125 => (intro w' hSw; (try dsimp only at hSw); go_simp; try with_reducible rfl)
  try simp only [Act.put, List.getElem_toArray, List.getElem_cons_zero, List.getElem_cons_succ, List.setIfInBounds_toArray, List.set_cons_zero, List.set_cons_succ]
  refine' wpAnyF_take (i := 7) (n := 8) (v := _) rfl (by kernel_rfl) (fun _ _ _ h => h) (by assumption) (Or.inl ⟨by rfl, ?hy126⟩) ?rest126
  case' hy126 => (intro w' hSw; (try dsimp only at hSw); go_simp; try with_reducible rfl)
  try simp only [Act.put, List.getElem_toArray, List.getElem_cons_zero, List.getElem_cons_succ, List.setIfInBounds_toArray, List.set_cons_zero, List.set_cons_succ]
  refine wpAnyF_only (i := 8) rfl (by kernel_rfl) (fun K hK => ?_)
  go_simp
  go_at_call 70
  refine HL.out.mono ?_
  rintro e w4 ⟨rfl, k4⟩
  dsimp only
  refine hK.out _ _ (Or.inl (by kernel_rfl)) ?_
  clear hK K
  try simp only [Act.put, List.getElem_toArray, List.getElem_cons_zero, List.getElem_cons_succ, List.setIfInBounds_toArray, List.set_cons_zero, List.set_cons_succ]
  refine wpAnyF_done (by kernel_rfl) ?_ _
  go_wp2
  go_end0
  exact ⟨rfl, k4.out⟩

set_option maxRecDepth 20000 in
set_option maxHeartbeats 2000000 in
theorem kdo_need {a : Nat → Addr} {cs : List (List Ins)} {p : MkPl} {m : Mk} {K t : Nat} {w : World} (D : DoX a cs p m K t w) (L : List Ins) (x : Ins) (e : x.op = ⟨#[110, 101, 101, 100]⟩) {i : Nat} (hi : i < 8) (ei : x.a = i) :
    Calls Tryz.prog 49 #[.pointer (some ⟨p.b, 0, none⟩), .int .i64 t, .agg #[.string x.op, .int .i64 x.a, .int .i64 x.b, .int .i64 x.c, .string x.to]] w fun e w' => e = .returned (.tuple #[]) ∧ ∃ v, MkStep a cs p w v (m.exec L t x) w' := by
  rw [exec_need m L t e]
  rw [ei]
  simp only [Int.toNat_natCast]
  obtain ⟨xo, xa, xb, xc, xt⟩ := x
  dsimp only at e ei ⊢
  subst e ei
  have t6 := D.t6
  have t6i : (t : Int) < 6 := by omega
  have hba : Below w.heap.size w (w.alloc (.cells #[.string ⟨#[110, 101, 101, 100]⟩, .int .i64 i, .int .i64 xb, .int .i64 xc, .string xt] 44)) := (Below.refl _ _).alloc (Nat.le_refl _) _
  have q0 : (w.alloc (.cells #[.string ⟨#[110, 101, 101, 100]⟩, .int .i64 i, .int .i64 xb, .int .i64 xc, .string xt] 44)).cell? ⟨w.heap.size, 0, none⟩ = some (.string ⟨#[110, 101, 101, 100]⟩) := by simp
  have q1 : (w.alloc (.cells #[.string ⟨#[110, 101, 101, 100]⟩, .int .i64 i, .int .i64 xb, .int .i64 xc, .string xt] 44)).cell? ⟨w.heap.size, 1, none⟩ = some (.int .i64 i) := by simp
  have q2 : (w.alloc (.cells #[.string ⟨#[110, 101, 101, 100]⟩, .int .i64 i, .int .i64 xb, .int .i64 xc, .string xt] 44)).cell? ⟨w.heap.size, 2, none⟩ = some (.int .i64 xb) := by simp
  have q3 : (w.alloc (.cells #[.string ⟨#[110, 101, 101, 100]⟩, .int .i64 i, .int .i64 xb, .int .i64 xc, .string xt] 44)).cell? ⟨w.heap.size, 3, none⟩ = some (.int .i64 xc) := by simp
  have q4 : (w.alloc (.cells #[.string ⟨#[110, 101, 101, 100]⟩, .int .i64 i, .int .i64 xb, .int .i64 xc, .string xt] 44)).cell? ⟨w.heap.size, 4, none⟩ = some (.string xt) := by simp
  have D1 := D.below hba
  have hlw := D.at'.lt
  have gi := D1.at'.reg t i t6 (by omega)
  have li : (i : Int) < 8 := by omega
  generalize hw : w.alloc (.cells #[.string ⟨#[110, 101, 101, 100]⟩, .int .i64 i, .int .i64 xb, .int .i64 xc, .string xt] 44) = w1 at *
  have HL : Hid (Calls Tryz.prog 71 #[.pointer (some ⟨p.b, 0, none⟩), .int .i64 (m.regs t i)] (w1.drewN 1) fun e w'' => e = .returned (.tuple #[]) ∧ Hid (∃ v, MkStep a cs p w v (m.need (m.regs t i)) w'')) :=
    (need_any _ (D1.at'.drewN 1) (by have := D.faults; omega)).mono fun e w'' ⟨e1, e2⟩ => ⟨e1, ⟨_, MkStep.of_below (below_dN hba 1) e2⟩⟩
  clear D D1 hba
  generalize (m.need (m.regs t i)) = m1 at *
  generalize m.regs t i = Ri at *
  go_enter Tryz.func49, Tryz.ntmps49
  go_wp2_with fail
  clear hw
  refine wp_region_F (S := (fun w' => w'.cell? ⟨w.heap.size, 1, none⟩ = some (.int .i64 i) ∧ w'.cell? ⟨p.b, 585 + t * 9 + i, none⟩ = some (.int .i64 Ri))) (by kernel_rfl) (by (try dsimp only); go_keep) (fun hHeld => ?_)
  refine' wpAnyF_take (i := 0) (n := 7) (v := _) rfl (by kernel_rfl) (fun _ _ _ h => h) (by assumption) (Or.inl ⟨by rfl, ?hy127⟩) ?rest127
  case' hy127 => (intro w' hSw; (try dsimp only at hSw); go_simp; try with_reducible rfl)
  try simp only [Act.put, List.getElem_toArray, List.getElem_cons_zero, List.setIfInBounds_toArray, List.set_cons_zero, List.set_cons_succ]
  refine' wpAnyF_take (i := 1) (n := 7) (v := _) rfl (by kernel_rfl) (fun _ _ _ h => h) (by assumption) (Or.inl ⟨by rfl, ?hy128⟩) ?rest128
  case' hy128 => (intro w' hSw; (try dsimp only at hSw); go_simp; try with_reducible rfl)
  try simp only [Act.put, List.getElem_toArray, List.getElem_cons_zero, List.getElem_cons_succ, List.setIfInBounds_toArray, List.set_cons_zero, List.set_cons_succ]
  refine' wpAnyF_take (i := 2) (n := 7) (v := _) rfl (by kernel_rfl) (fun _ _ _ h => h) (by assumption) (Or.inl ⟨by rfl, ?hy129⟩) ?rest129
  case' hy129 => (intro w' hSw; (try dsimp only at hSw); go_simp; try with_reducible rfl)
  try simp only [Act.put, List.getElem_toArray, List.getElem_cons_zero, List.getElem_cons_succ, List.setIfInBounds_toArray, List.set_cons_zero, List.set_cons_succ]
  refine' wpAnyF_take (i := 3) (n := 7) (v := _) rfl (by kernel_rfl) (fun _ _ _ h => h) (by assumption) (Or.inl ⟨by rfl, ?hy130⟩) ?rest130
  case' hy130 => (intro w' hSw; (try dsimp only at hSw); go_simp; try with_reducible rfl)
  try simp only [Act.put, List.getElem_toArray, List.getElem_cons_zero, List.getElem_cons_succ, List.setIfInBounds_toArray, List.set_cons_zero, List.set_cons_succ]
  refine' wpAnyF_take (i := 4) (n := 7) (v := _) rfl (by kernel_rfl) (fun _ _ _ h => h) (by assumption) (Or.inl ⟨by rfl, ?hy131⟩) ?rest131
  case' hy131 => (intro w' hSw; (try dsimp only at hSw); go_simp; try with_reducible rfl)
  try simp only [Act.put, List.getElem_toArray, List.getElem_cons_zero, List.getElem_cons_succ, List.setIfInBounds_toArray, List.set_cons_zero, List.set_cons_succ]
  refine' wpAnyF_take (i := 5) (n := 7) (v := _) rfl (by kernel_rfl) (fun _ _ _ h => h) (by assumption) (Or.inl ⟨by rfl, ?hy132⟩) ?rest132
  case' hy132 => (intro w' hSw; (try dsimp only at hSw); go_simp; try with_reducible rfl)
  try simp only [Act.put, List.getElem_toArray, List.getElem_cons_zero, List.getElem_cons_succ, List.setIfInBounds_toArray, List.set_cons_zero, List.set_cons_succ]
  refine' wpAnyF_take (i := 6) (n := 7) (v := _) rfl (by kernel_rfl) (fun _ _ _ h => h) (by assumption) (Or.inl ⟨by rfl, ?hy133⟩) ?rest133
  case' hy133 => (intro w' hSw; (try dsimp only at hSw); go_simp; try with_reducible rfl)
  try simp only [Act.put, List.getElem_toArray, List.getElem_cons_zero, List.getElem_cons_succ, List.setIfInBounds_toArray, List.set_cons_zero, List.set_cons_succ]
  refine wpAnyF_only (i := 7) rfl (by kernel_rfl) (fun K hK => ?_)
  go_simp
  go_at_call 71
  refine HL.out.mono ?_
  rintro e w4 ⟨rfl, k4⟩
  dsimp only
  refine hK.out _ _ (Or.inl (by kernel_rfl)) ?_
  clear hK K
  try simp only [Act.put, List.getElem_toArray, List.getElem_cons_zero, List.getElem_cons_succ, List.setIfInBounds_toArray, List.set_cons_zero, List.set_cons_succ]
  refine wpAnyF_done (by kernel_rfl) ?_ _
  go_wp2
  go_end0
  exact ⟨rfl, k4.out⟩

set_option maxRecDepth 20000 in
set_option maxHeartbeats 2000000 in
theorem kdo_goto {a : Nat → Addr} {cs : List (List Ins)} {p : MkPl} {m : Mk} {K t : Nat} {w : World} (D : DoX a cs p m K t w) (L : List Ins) (x : Ins) (e : x.op = ⟨#[103, 111, 116, 111]⟩) {L' : Nat} (ht : cs[t]? = some L) (hs : x.to.size ≤ maxLen) (hi : labelAt L x.to = L') :
    Calls Tryz.prog 49 #[.pointer (some ⟨p.b, 0, none⟩), .int .i64 t, .agg #[.string x.op, .int .i64 x.a, .int .i64 x.b, .int .i64 x.c, .string x.to]] w fun e w' => e = .returned (.tuple #[]) ∧ ∃ v, MkStep a cs p w v (m.exec L t x) w' := by
  rw [exec_goto m L t e]
  obtain ⟨xo, xa, xb, xc, xt⟩ := x
  dsimp only at e hs hi ⊢
  subst e
  have t6 := D.t6
  have t6i : (t : Int) < 6 := by omega
  have hba : Below w.heap.size w (w.alloc (.cells #[.string ⟨#[103, 111, 116, 111]⟩, .int .i64 xa, .int .i64 xb, .int .i64 xc, .string xt] 44)) := (Below.refl _ _).alloc (Nat.le_refl _) _
  have q0 : (w.alloc (.cells #[.string ⟨#[103, 111, 116, 111]⟩, .int .i64 xa, .int .i64 xb, .int .i64 xc, .string xt] 44)).cell? ⟨w.heap.size, 0, none⟩ = some (.string ⟨#[103, 111, 116, 111]⟩) := by simp
  have q1 : (w.alloc (.cells #[.string ⟨#[103, 111, 116, 111]⟩, .int .i64 xa, .int .i64 xb, .int .i64 xc, .string xt] 44)).cell? ⟨w.heap.size, 1, none⟩ = some (.int .i64 xa) := by simp
  have q2 : (w.alloc (.cells #[.string ⟨#[103, 111, 116, 111]⟩, .int .i64 xa, .int .i64 xb, .int .i64 xc, .string xt] 44)).cell? ⟨w.heap.size, 2, none⟩ = some (.int .i64 xb) := by simp
  have q3 : (w.alloc (.cells #[.string ⟨#[103, 111, 116, 111]⟩, .int .i64 xa, .int .i64 xb, .int .i64 xc, .string xt] 44)).cell? ⟨w.heap.size, 3, none⟩ = some (.int .i64 xc) := by simp
  have q4 : (w.alloc (.cells #[.string ⟨#[103, 111, 116, 111]⟩, .int .i64 xa, .int .i64 xb, .int .i64 xc, .string xt] 44)).cell? ⟨w.heap.size, 4, none⟩ = some (.string xt) := by simp
  have D1 := D.below hba
  have hlw := D.at'.lt
  generalize hw : w.alloc (.cells #[.string ⟨#[103, 111, 116, 111]⟩, .int .i64 xa, .int .i64 xb, .int .i64 xc, .string xt] 44) = w1 at *
  have HL : Hid (Calls Tryz.prog 69 #[.pointer (some ⟨p.b, 0, none⟩), .int .i64 t, .string xt, .bool true] w1 fun e w'' => e = .returned (.tuple #[]) ∧ Hid (∃ v, MkStep a cs p w v (m.jump t L xt) w'')) :=
    (kjump_yes ht hs hi D1.at').mono fun e w'' ⟨e1, e2⟩ => ⟨e1, ⟨_, MkStep.of_below hba e2⟩⟩
  clear D D1 hba
  generalize m.jump t L xt = m1 at *
  go_enter Tryz.func49, Tryz.ntmps49
  go_wp2_with fail
  clear hw
  refine HL.out.mono ?_
  rintro e w4 ⟨rfl, k4⟩
  go_wp2
  go_end0
  exact ⟨rfl, k4.out⟩

set_option maxRecDepth 20000 in
set_option maxHeartbeats 2000000 in
theorem kdo_load {a : Nat → Addr} {cs : List (List Ins)} {p : MkPl} {t : Nat} {w : World} (x : Ins) (e : x.op = ⟨#[108, 111, 97, 100]⟩) (m' : Mk)
    (HT : ∀ w', Below w.heap.size w w' → Calls Tryz.prog 72 #[.pointer (some ⟨p.b, 0, none⟩), .int .i64 t, .agg #[.string x.op, .int .i64 x.a, .int .i64 x.b, .int .i64 x.c, .string x.to]] w' fun e w'' => e = .returned (.tuple #[]) ∧ MkStep a cs p w' p.mv m' w'') (t6 : t < 6) :
    Calls Tryz.prog 49 #[.pointer (some ⟨p.b, 0, none⟩), .int .i64 t, .agg #[.string x.op, .int .i64 x.a, .int .i64 x.b, .int .i64 x.c, .string x.to]] w fun e w' => e = .returned (.tuple #[]) ∧ ∃ v, MkStep a cs p w v m' w' := by
  obtain ⟨xo, xa, xb, xc, xt⟩ := x
  dsimp only at e HT ⊢
  subst e
  have t6i : (t : Int) < 6 := by omega
  have hba : Below w.heap.size w (w.alloc (.cells #[.string ⟨#[108, 111, 97, 100]⟩, .int .i64 xa, .int .i64 xb, .int .i64 xc, .string xt] 44)) := (Below.refl _ _).alloc (Nat.le_refl _) _
  have HL : Hid (Calls Tryz.prog 72 #[.pointer (some ⟨p.b, 0, none⟩), .int .i64 t, .agg #[.string ⟨#[108, 111, 97, 100]⟩, .int .i64 xa, .int .i64 xb, .int .i64 xc, .string xt]] (w.alloc (.cells #[.string ⟨#[108, 111, 97, 100]⟩, .int .i64 xa, .int .i64 xb, .int .i64 xc, .string xt] 44)) fun e w'' => e = .returned (.tuple #[]) ∧ Hid (∃ v, MkStep a cs p w v m' w'')) :=
    (HT _ hba).mono fun e w'' ⟨e1, e2⟩ => ⟨e1, ⟨_, MkStep.of_below hba e2⟩⟩
  clear HT
  go_enter Tryz.func49, Tryz.ntmps49
  go_wp2_with fail
  refine HL.out.mono ?_
  rintro e w4 ⟨rfl, k4⟩
  go_wp2
  go_end0
  exact ⟨rfl, k4.out⟩

set_option maxRecDepth 20000 in
set_option maxHeartbeats 2000000 in
theorem kdo_store {a : Nat → Addr} {cs : List (List Ins)} {p : MkPl} {t : Nat} {w : World} (x : Ins) (e : x.op = ⟨#[115, 116, 111, 114, 101]⟩) (m' : Mk)
    (HT : ∀ w', Below w.heap.size w w' → Calls Tryz.prog 72 #[.pointer (some ⟨p.b, 0, none⟩), .int .i64 t, .agg #[.string x.op, .int .i64 x.a, .int .i64 x.b, .int .i64 x.c, .string x.to]] w' fun e w'' => e = .returned (.tuple #[]) ∧ MkStep a cs p w' p.mv m' w'') (t6 : t < 6) :
    Calls Tryz.prog 49 #[.pointer (some ⟨p.b, 0, none⟩), .int .i64 t, .agg #[.string x.op, .int .i64 x.a, .int .i64 x.b, .int .i64 x.c, .string x.to]] w fun e w' => e = .returned (.tuple #[]) ∧ ∃ v, MkStep a cs p w v m' w' := by
  obtain ⟨xo, xa, xb, xc, xt⟩ := x
  dsimp only at e HT ⊢
  subst e
  have t6i : (t : Int) < 6 := by omega
  have hba : Below w.heap.size w (w.alloc (.cells #[.string ⟨#[115, 116, 111, 114, 101]⟩, .int .i64 xa, .int .i64 xb, .int .i64 xc, .string xt] 44)) := (Below.refl _ _).alloc (Nat.le_refl _) _
  have HL : Hid (Calls Tryz.prog 72 #[.pointer (some ⟨p.b, 0, none⟩), .int .i64 t, .agg #[.string ⟨#[115, 116, 111, 114, 101]⟩, .int .i64 xa, .int .i64 xb, .int .i64 xc, .string xt]] (w.alloc (.cells #[.string ⟨#[115, 116, 111, 114, 101]⟩, .int .i64 xa, .int .i64 xb, .int .i64 xc, .string xt] 44)) fun e w'' => e = .returned (.tuple #[]) ∧ Hid (∃ v, MkStep a cs p w v m' w'')) :=
    (HT _ hba).mono fun e w'' ⟨e1, e2⟩ => ⟨e1, ⟨_, MkStep.of_below hba e2⟩⟩
  clear HT
  go_enter Tryz.func49, Tryz.ntmps49
  go_wp2_with fail
  refine HL.out.mono ?_
  rintro e w4 ⟨rfl, k4⟩
  go_wp2
  go_end0
  exact ⟨rfl, k4.out⟩

set_option maxRecDepth 20000 in
set_option maxHeartbeats 2000000 in
theorem kdo_swap {a : Nat → Addr} {cs : List (List Ins)} {p : MkPl} {t : Nat} {w : World} (x : Ins) (e : x.op = ⟨#[115, 119, 97, 112]⟩) (m' : Mk)
    (HT : ∀ w', Below w.heap.size w w' → Calls Tryz.prog 72 #[.pointer (some ⟨p.b, 0, none⟩), .int .i64 t, .agg #[.string x.op, .int .i64 x.a, .int .i64 x.b, .int .i64 x.c, .string x.to]] w' fun e w'' => e = .returned (.tuple #[]) ∧ MkStep a cs p w' p.mv m' w'') (t6 : t < 6) :
    Calls Tryz.prog 49 #[.pointer (some ⟨p.b, 0, none⟩), .int .i64 t, .agg #[.string x.op, .int .i64 x.a, .int .i64 x.b, .int .i64 x.c, .string x.to]] w fun e w' => e = .returned (.tuple #[]) ∧ ∃ v, MkStep a cs p w v m' w' := by
  obtain ⟨xo, xa, xb, xc, xt⟩ := x
  dsimp only at e HT ⊢
  subst e
  have t6i : (t : Int) < 6 := by omega
  have hba : Below w.heap.size w (w.alloc (.cells #[.string ⟨#[115, 119, 97, 112]⟩, .int .i64 xa, .int .i64 xb, .int .i64 xc, .string xt] 44)) := (Below.refl _ _).alloc (Nat.le_refl _) _
  have HL : Hid (Calls Tryz.prog 72 #[.pointer (some ⟨p.b, 0, none⟩), .int .i64 t, .agg #[.string ⟨#[115, 119, 97, 112]⟩, .int .i64 xa, .int .i64 xb, .int .i64 xc, .string xt]] (w.alloc (.cells #[.string ⟨#[115, 119, 97, 112]⟩, .int .i64 xa, .int .i64 xb, .int .i64 xc, .string xt] 44)) fun e w'' => e = .returned (.tuple #[]) ∧ Hid (∃ v, MkStep a cs p w v m' w'')) :=
    (HT _ hba).mono fun e w'' ⟨e1, e2⟩ => ⟨e1, ⟨_, MkStep.of_below hba e2⟩⟩
  clear HT
  go_enter Tryz.func49, Tryz.ntmps49
  go_wp2_with fail
  refine HL.out.mono ?_
  rintro e w4 ⟨rfl, k4⟩
  go_wp2
  go_end0
  exact ⟨rfl, k4.out⟩

set_option maxRecDepth 20000 in
set_option maxHeartbeats 2000000 in
theorem kdo_cas {a : Nat → Addr} {cs : List (List Ins)} {p : MkPl} {t : Nat} {w : World} (x : Ins) (e : x.op = ⟨#[99, 97, 115]⟩) (m' : Mk)
    (HT : ∀ w', Below w.heap.size w w' → Calls Tryz.prog 72 #[.pointer (some ⟨p.b, 0, none⟩), .int .i64 t, .agg #[.string x.op, .int .i64 x.a, .int .i64 x.b, .int .i64 x.c, .string x.to]] w' fun e w'' => e = .returned (.tuple #[]) ∧ MkStep a cs p w' p.mv m' w'') (t6 : t < 6) :
    Calls Tryz.prog 49 #[.pointer (some ⟨p.b, 0, none⟩), .int .i64 t, .agg #[.string x.op, .int .i64 x.a, .int .i64 x.b, .int .i64 x.c, .string x.to]] w fun e w' => e = .returned (.tuple #[]) ∧ ∃ v, MkStep a cs p w v m' w' := by
  obtain ⟨xo, xa, xb, xc, xt⟩ := x
  dsimp only at e HT ⊢
  subst e
  have t6i : (t : Int) < 6 := by omega
  have hba : Below w.heap.size w (w.alloc (.cells #[.string ⟨#[99, 97, 115]⟩, .int .i64 xa, .int .i64 xb, .int .i64 xc, .string xt] 44)) := (Below.refl _ _).alloc (Nat.le_refl _) _
  have HL : Hid (Calls Tryz.prog 72 #[.pointer (some ⟨p.b, 0, none⟩), .int .i64 t, .agg #[.string ⟨#[99, 97, 115]⟩, .int .i64 xa, .int .i64 xb, .int .i64 xc, .string xt]] (w.alloc (.cells #[.string ⟨#[99, 97, 115]⟩, .int .i64 xa, .int .i64 xb, .int .i64 xc, .string xt] 44)) fun e w'' => e = .returned (.tuple #[]) ∧ Hid (∃ v, MkStep a cs p w v m' w'')) :=
    (HT _ hba).mono fun e w'' ⟨e1, e2⟩ => ⟨e1, ⟨_, MkStep.of_below hba e2⟩⟩
  clear HT
  go_enter Tryz.func49, Tryz.ntmps49
  go_wp2_with fail
  refine HL.out.mono ?_
  rintro e w4 ⟨rfl, k4⟩
  go_wp2
  go_end0
  exact ⟨rfl, k4.out⟩

set_option maxRecDepth 20000 in
set_option maxHeartbeats 2000000 in
theorem kdo_alloc {a : Nat → Addr} {cs : List (List Ins)} {p : MkPl} {t : Nat} {w : World} (x : Ins) (e : x.op = ⟨#[97, 108, 108, 111, 99]⟩) (m' : Mk)
    (HT : ∀ w', Below w.heap.size w w' → Calls Tryz.prog 72 #[.pointer (some ⟨p.b, 0, none⟩), .int .i64 t, .agg #[.string x.op, .int .i64 x.a, .int .i64 x.b, .int .i64 x.c, .string x.to]] w' fun e w'' => e = .returned (.tuple #[]) ∧ MkStep a cs p w' p.mv m' w'') (t6 : t < 6) :
    Calls Tryz.prog 49 #[.pointer (some ⟨p.b, 0, none⟩), .int .i64 t, .agg #[.string x.op, .int .i64 x.a, .int .i64 x.b, .int .i64 x.c, .string x.to]] w fun e w' => e = .returned (.tuple #[]) ∧ ∃ v, MkStep a cs p w v m' w' := by
  obtain ⟨xo, xa, xb, xc, xt⟩ := x
  dsimp only at e HT ⊢
  subst e
  have t6i : (t : Int) < 6 := by omega
  have hba : Below w.heap.size w (w.alloc (.cells #[.string ⟨#[97, 108, 108, 111, 99]⟩, .int .i64 xa, .int .i64 xb, .int .i64 xc, .string xt] 44)) := (Below.refl _ _).alloc (Nat.le_refl _) _
  have HL : Hid (Calls Tryz.prog 72 #[.pointer (some ⟨p.b, 0, none⟩), .int .i64 t, .agg #[.string ⟨#[97, 108, 108, 111, 99]⟩, .int .i64 xa, .int .i64 xb, .int .i64 xc, .string xt]] (w.alloc (.cells #[.string ⟨#[97, 108, 108, 111, 99]⟩, .int .i64 xa, .int .i64 xb, .int .i64 xc, .string xt] 44)) fun e w'' => e = .returned (.tuple #[]) ∧ Hid (∃ v, MkStep a cs p w v m' w'')) :=
    (HT _ hba).mono fun e w'' ⟨e1, e2⟩ => ⟨e1, ⟨_, MkStep.of_below hba e2⟩⟩
  clear HT
  go_enter Tryz.func49, Tryz.ntmps49
  go_wp2_with fail
  refine HL.out.mono ?_
  rintro e w4 ⟨rfl, k4⟩
  go_wp2
  go_end0
  exact ⟨rfl, k4.out⟩

set_option maxRecDepth 20000 in
set_option maxHeartbeats 2000000 in
theorem kdo_free {a : Nat → Addr} {cs : List (List Ins)} {p : MkPl} {t : Nat} {w : World} (x : Ins) (e : x.op = ⟨#[102, 114, 101, 101]⟩) (m' : Mk)
    (HT : ∀ w', Below w.heap.size w w' → Calls Tryz.prog 72 #[.pointer (some ⟨p.b, 0, none⟩), .int .i64 t, .agg #[.string x.op, .int .i64 x.a, .int .i64 x.b, .int .i64 x.c, .string x.to]] w' fun e w'' => e = .returned (.tuple #[]) ∧ MkStep a cs p w' p.mv m' w'') (t6 : t < 6) :
    Calls Tryz.prog 49 #[.pointer (some ⟨p.b, 0, none⟩), .int .i64 t, .agg #[.string x.op, .int .i64 x.a, .int .i64 x.b, .int .i64 x.c, .string x.to]] w fun e w' => e = .returned (.tuple #[]) ∧ ∃ v, MkStep a cs p w v m' w' := by
  obtain ⟨xo, xa, xb, xc, xt⟩ := x
  dsimp only at e HT ⊢
  subst e
  have t6i : (t : Int) < 6 := by omega
  have hba : Below w.heap.size w (w.alloc (.cells #[.string ⟨#[102, 114, 101, 101]⟩, .int .i64 xa, .int .i64 xb, .int .i64 xc, .string xt] 44)) := (Below.refl _ _).alloc (Nat.le_refl _) _
  have HL : Hid (Calls Tryz.prog 72 #[.pointer (some ⟨p.b, 0, none⟩), .int .i64 t, .agg #[.string ⟨#[102, 114, 101, 101]⟩, .int .i64 xa, .int .i64 xb, .int .i64 xc, .string xt]] (w.alloc (.cells #[.string ⟨#[102, 114, 101, 101]⟩, .int .i64 xa, .int .i64 xb, .int .i64 xc, .string xt] 44)) fun e w'' => e = .returned (.tuple #[]) ∧ Hid (∃ v, MkStep a cs p w v m' w'')) :=
    (HT _ hba).mono fun e w'' ⟨e1, e2⟩ => ⟨e1, ⟨_, MkStep.of_below hba e2⟩⟩
  clear HT
  go_enter Tryz.func49, Tryz.ntmps49
  go_wp2_with fail
  refine HL.out.mono ?_
  rintro e w4 ⟨rfl, k4⟩
  go_wp2
  go_end0
  exact ⟨rfl, k4.out⟩

set_option maxRecDepth 20000 in
set_option maxHeartbeats 2000000 in
theorem kdo_fence {a : Nat → Addr} {cs : List (List Ins)} {p : MkPl} {t : Nat} {w : World} (x : Ins) (e : x.op = ⟨#[102, 101, 110, 99, 101]⟩) (m' : Mk)
    (HT : ∀ w', Below w.heap.size w w' → Calls Tryz.prog 72 #[.pointer (some ⟨p.b, 0, none⟩), .int .i64 t, .agg #[.string x.op, .int .i64 x.a, .int .i64 x.b, .int .i64 x.c, .string x.to]] w' fun e w'' => e = .returned (.tuple #[]) ∧ MkStep a cs p w' p.mv m' w'') (t6 : t < 6) :
    Calls Tryz.prog 49 #[.pointer (some ⟨p.b, 0, none⟩), .int .i64 t, .agg #[.string x.op, .int .i64 x.a, .int .i64 x.b, .int .i64 x.c, .string x.to]] w fun e w' => e = .returned (.tuple #[]) ∧ ∃ v, MkStep a cs p w v m' w' := by
  obtain ⟨xo, xa, xb, xc, xt⟩ := x
  dsimp only at e HT ⊢
  subst e
  have t6i : (t : Int) < 6 := by omega
  have hba : Below w.heap.size w (w.alloc (.cells #[.string ⟨#[102, 101, 110, 99, 101]⟩, .int .i64 xa, .int .i64 xb, .int .i64 xc, .string xt] 44)) := (Below.refl _ _).alloc (Nat.le_refl _) _
  have HL : Hid (Calls Tryz.prog 72 #[.pointer (some ⟨p.b, 0, none⟩), .int .i64 t, .agg #[.string ⟨#[102, 101, 110, 99, 101]⟩, .int .i64 xa, .int .i64 xb, .int .i64 xc, .string xt]] (w.alloc (.cells #[.string ⟨#[102, 101, 110, 99, 101]⟩, .int .i64 xa, .int .i64 xb, .int .i64 xc, .string xt] 44)) fun e w'' => e = .returned (.tuple #[]) ∧ Hid (∃ v, MkStep a cs p w v m' w'')) :=
    (HT _ hba).mono fun e w'' ⟨e1, e2⟩ => ⟨e1, ⟨_, MkStep.of_below hba e2⟩⟩
  clear HT
  go_enter Tryz.func49, Tryz.ntmps49
  go_wp2_with fail
  refine HL.out.mono ?_
  rintro e w4 ⟨rfl, k4⟩
  go_wp2
  go_end0
  exact ⟨rfl, k4.out⟩

set_option maxRecDepth 20000 in
set_option maxHeartbeats 2000000 in
theorem kdo_force {a : Nat → Addr} {cs : List (List Ins)} {p : MkPl} {t : Nat} {w : World} (x : Ins) (e : x.op = ⟨#[102, 111, 114, 99, 101]⟩) (m' : Mk)
    (HT : ∀ w', Below w.heap.size w w' → Calls Tryz.prog 72 #[.pointer (some ⟨p.b, 0, none⟩), .int .i64 t, .agg #[.string x.op, .int .i64 x.a, .int .i64 x.b, .int .i64 x.c, .string x.to]] w' fun e w'' => e = .returned (.tuple #[]) ∧ MkStep a cs p w' p.mv m' w'') (t6 : t < 6) :
    Calls Tryz.prog 49 #[.pointer (some ⟨p.b, 0, none⟩), .int .i64 t, .agg #[.string x.op, .int .i64 x.a, .int .i64 x.b, .int .i64 x.c, .string x.to]] w fun e w' => e = .returned (.tuple #[]) ∧ ∃ v, MkStep a cs p w v m' w' := by
  obtain ⟨xo, xa, xb, xc, xt⟩ := x
  dsimp only at e HT ⊢
  subst e
  have t6i : (t : Int) < 6 := by omega
  have hba : Below w.heap.size w (w.alloc (.cells #[.string ⟨#[102, 111, 114, 99, 101]⟩, .int .i64 xa, .int .i64 xb, .int .i64 xc, .string xt] 44)) := (Below.refl _ _).alloc (Nat.le_refl _) _
  have HL : Hid (Calls Tryz.prog 72 #[.pointer (some ⟨p.b, 0, none⟩), .int .i64 t, .agg #[.string ⟨#[102, 111, 114, 99, 101]⟩, .int .i64 xa, .int .i64 xb, .int .i64 xc, .string xt]] (w.alloc (.cells #[.string ⟨#[102, 111, 114, 99, 101]⟩, .int .i64 xa, .int .i64 xb, .int .i64 xc, .string xt] 44)) fun e w'' => e = .returned (.tuple #[]) ∧ Hid (∃ v, MkStep a cs p w v m' w'')) :=
    (HT _ hba).mono fun e w'' ⟨e1, e2⟩ => ⟨e1, ⟨_, MkStep.of_below hba e2⟩⟩
  clear HT
  go_enter Tryz.func49, Tryz.ntmps49
  go_wp2_with fail
  refine HL.out.mono ?_
  rintro e w4 ⟨rfl, k4⟩
  go_wp2
  go_end0
  exact ⟨rfl, k4.out⟩

set_option maxRecDepth 20000 in
set_option maxHeartbeats 2000000 in
theorem kdo_stop {a : Nat → Addr} {cs : List (List Ins)} {p : MkPl} {t : Nat} {w : World} (x : Ins) (e : x.op = ⟨#[115, 116, 111, 112]⟩) (m' : Mk)
    (HT : ∀ w', Below w.heap.size w w' → Calls Tryz.prog 72 #[.pointer (some ⟨p.b, 0, none⟩), .int .i64 t, .agg #[.string x.op, .int .i64 x.a, .int .i64 x.b, .int .i64 x.c, .string x.to]] w' fun e w'' => e = .returned (.tuple #[]) ∧ MkStep a cs p w' p.mv m' w'') (t6 : t < 6) :
    Calls Tryz.prog 49 #[.pointer (some ⟨p.b, 0, none⟩), .int .i64 t, .agg #[.string x.op, .int .i64 x.a, .int .i64 x.b, .int .i64 x.c, .string x.to]] w fun e w' => e = .returned (.tuple #[]) ∧ ∃ v, MkStep a cs p w v m' w' := by
  obtain ⟨xo, xa, xb, xc, xt⟩ := x
  dsimp only at e HT ⊢
  subst e
  have t6i : (t : Int) < 6 := by omega
  have hba : Below w.heap.size w (w.alloc (.cells #[.string ⟨#[115, 116, 111, 112]⟩, .int .i64 xa, .int .i64 xb, .int .i64 xc, .string xt] 44)) := (Below.refl _ _).alloc (Nat.le_refl _) _
  have HL : Hid (Calls Tryz.prog 72 #[.pointer (some ⟨p.b, 0, none⟩), .int .i64 t, .agg #[.string ⟨#[115, 116, 111, 112]⟩, .int .i64 xa, .int .i64 xb, .int .i64 xc, .string xt]] (w.alloc (.cells #[.string ⟨#[115, 116, 111, 112]⟩, .int .i64 xa, .int .i64 xb, .int .i64 xc, .string xt] 44)) fun e w'' => e = .returned (.tuple #[]) ∧ Hid (∃ v, MkStep a cs p w v m' w'')) :=
    (HT _ hba).mono fun e w'' ⟨e1, e2⟩ => ⟨e1, ⟨_, MkStep.of_below hba e2⟩⟩
  clear HT
  go_enter Tryz.func49, Tryz.ntmps49
  go_wp2_with fail
  refine HL.out.mono ?_
  rintro e w4 ⟨rfl, k4⟩
  go_wp2
  go_end0
  exact ⟨rfl, k4.out⟩

set_option maxRecDepth 20000 in
set_option maxHeartbeats 2000000 in
theorem kdo_label {a : Nat → Addr} {cs : List (List Ins)} {p : MkPl} {t : Nat} {w : World} (x : Ins) (e : x.op = ⟨#[108, 97, 98, 101, 108]⟩) (m' : Mk)
    (HT : ∀ w', Below w.heap.size w w' → Calls Tryz.prog 72 #[.pointer (some ⟨p.b, 0, none⟩), .int .i64 t, .agg #[.string x.op, .int .i64 x.a, .int .i64 x.b, .int .i64 x.c, .string x.to]] w' fun e w'' => e = .returned (.tuple #[]) ∧ MkStep a cs p w' p.mv m' w'') (t6 : t < 6) :
    Calls Tryz.prog 49 #[.pointer (some ⟨p.b, 0, none⟩), .int .i64 t, .agg #[.string x.op, .int .i64 x.a, .int .i64 x.b, .int .i64 x.c, .string x.to]] w fun e w' => e = .returned (.tuple #[]) ∧ ∃ v, MkStep a cs p w v m' w' := by
  obtain ⟨xo, xa, xb, xc, xt⟩ := x
  dsimp only at e HT ⊢
  subst e
  have t6i : (t : Int) < 6 := by omega
  have hba : Below w.heap.size w (w.alloc (.cells #[.string ⟨#[108, 97, 98, 101, 108]⟩, .int .i64 xa, .int .i64 xb, .int .i64 xc, .string xt] 44)) := (Below.refl _ _).alloc (Nat.le_refl _) _
  have HL : Hid (Calls Tryz.prog 72 #[.pointer (some ⟨p.b, 0, none⟩), .int .i64 t, .agg #[.string ⟨#[108, 97, 98, 101, 108]⟩, .int .i64 xa, .int .i64 xb, .int .i64 xc, .string xt]] (w.alloc (.cells #[.string ⟨#[108, 97, 98, 101, 108]⟩, .int .i64 xa, .int .i64 xb, .int .i64 xc, .string xt] 44)) fun e w'' => e = .returned (.tuple #[]) ∧ Hid (∃ v, MkStep a cs p w v m' w'')) :=
    (HT _ hba).mono fun e w'' ⟨e1, e2⟩ => ⟨e1, ⟨_, MkStep.of_below hba e2⟩⟩
  clear HT
  go_enter Tryz.func49, Tryz.ntmps49
  go_wp2_with fail
  refine HL.out.mono ?_
  rintro e w4 ⟨rfl, k4⟩
  go_wp2
  go_end0
  exact ⟨rfl, k4.out⟩

end Go.Proofs.YtnnlkolhahjokaaGreatDoor
