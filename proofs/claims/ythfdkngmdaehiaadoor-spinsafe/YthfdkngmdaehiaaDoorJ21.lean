import Derived.Deep.RegionHeld3
import Derived.StillTail
import Derived.Tactics
import Derived.Test.YthfdkngmdaehiaaDoorJ20

/- RegF -/
namespace Go.Proofs.YthfdkngmdaehiaaDoor
open Go

section
variable {P : Program} {ops : Array Oper} {Q : Exit → Act → World → Prop} {md : Region.Mode} {S : World → Prop}

def allL (l : Array Bool) : Bool := l.toList.all fun b => b
theorem allL_get {l : Array Bool} (h : allL l = true) (k : Nat) : l.getD k true = true := by
  rcases Nat.lt_or_ge k l.size with h' | h'
  · have := List.all_eq_true.1 h (l[k]) (by simp)
    simp only [Array.getD_eq_getD_getElem?, Array.getElem?_eq_getElem h', Option.getD_some]
    exact this
  · simp [Array.getElem?_eq_none h']

def shutB (md : Region.Mode) (ops : Array Oper) (listed : Array Bool) : Bool :=
  (List.range ops.size).all fun k => (List.range ops.size).all fun i => !(Region.waitsFor md ops k i) || !(listed.getD k true) || listed.getD i false
structure ShutL (md : Region.Mode) (ops : Array Oper) (listed : Array Bool) : Prop where
  out : ∀ k i, k < ops.size → i < ops.size → Region.waitsFor md ops k i = true → listed.getD k true = true → listed.getD i false = true
theorem shutB_out {listed : Array Bool} (h : shutB md ops listed = true) : ShutL md ops listed := ⟨fun k i hk hi hw hl => by
  have := List.all_eq_true.1 (List.all_eq_true.1 h k (List.mem_range.2 hk)) i (List.mem_range.2 hi)
  rw [hw, hl] at this
  simpa using this⟩
theorem getD_set_self {listed : Array Bool} {j k : Nat} (h : (listed.setIfInBounds j true).getD k true = true) (hne : j ≠ k) : listed.getD k true = true := by
  rwa [getD_set_ne true hne] at h
theorem ShutL.set {listed : Array Bool} {j : Nat} (h : ShutL md ops listed) (hj : j ∈ Region.ready md ops listed) : ShutL md ops (listed.setIfInBounds j true) := ⟨fun k i hk hi hw hl => by
  by_cases e : j = k
  · subst e
    obtain ⟨-, o, ho, hall⟩ := mem_ready.1 hj
    obtain ⟨o', ho', e, he, hb, hon⟩ := Region.waitsFor_spec hw
    obtain rfl : o' = o := Option.some.inj (ho'.symm.trans ho)
    have := hall e he hb
    rw [hon] at this
    exact getD_set_true this
  · exact getD_set_true (h.out k i hk hi hw (getD_set_self hl e))⟩

def wpAnyF (P : Program) (md : Region.Mode) (ops : Array Oper) (Q : Exit → Act → World → Prop) (S : World → Prop) : Nat → Array Bool → Act → World → Prop
  | 0, listed, a, w => Region.ready md ops listed = [] ∧ Q .normal a w
  | fuel + 1, listed, a, w =>
    (Region.ready md ops listed = [] → Q .normal a w) ∧
    ∀ i ∈ Region.ready md ops listed, wpOp P ops Q i (fun a' w' => (allL (listed.setIfInBounds i true) = true ∨ S w') ∧ wpAnyF P md ops Q S fuel (listed.setIfInBounds i true) a' w') a w

theorem wpAny_of_F : ∀ (fuel : Nat) (listed : Array Bool) (a : Act) (w : World), wpAnyF P md ops Q S fuel listed a w → wpAny P md ops Q fuel listed a w
  | 0, _, _, _, h => h
  | fuel + 1, _, _, _, h => ⟨h.1, fun i hi => wpOp_mono (fun a' w' h' => wpAny_of_F fuel _ a' w' h'.2) (h.2 i hi)⟩

theorem wpAnyF_first {i n : Nat} {oi : Oper} {v : Value} (hi : ops[i]? = some oi) (hsel : ∀ (j : Nat) (o : Oper) cs b, ops[j]? = some o → o.op ≠ .select cs b)
    (hQ : ∀ c a w, Q (.panic c) (a.put oi.dst v) w → Q (.panic c) a w) (hs : Region.sinkB md ops n = true) (hin : i < n) (hn : n < ops.size) :
    ∀ (fuel : Nat) (listed : Array Bool) (a : Act) (w : World), ShutL md ops listed → listed.size = ops.size →
      (∀ j oj, ops[j]? = some oj → j ≠ i → listed.getD j true = false → (∀ e ∈ oj.after, Region.binds md e = true → e.on ≠ i) → oi.apart ops oj = true) →
      i ∈ Region.ready md ops listed → YieldsIf P ops S oi v a → S w →
      wpAnyF P md ops Q S fuel (listed.setIfInBounds i true) (a.put oi.dst v) w → wpAnyF P md ops Q S (fuel + 1) listed a w := by
  intro fuel
  induction fuel with
  | zero =>
    intro listed a w _ _ _ hr hy hS H
    refine ⟨fun h => (by rw [h] at hr; cases hr), fun j hj => ?_⟩
    by_cases hji : j = i
    · subst hji; exact hy.wpOp hi hS ⟨.inr hS, H⟩
    · have := ready_mono hj hji
      rw [H.1] at this
      cases this
  | succ fuel ih =>
    intro listed a w hsh hsz hfree hr hy hS H
    refine ⟨fun h => (by rw [h] at hr; cases hr), fun j hj => ?_⟩
    by_cases hji : j = i
    · subst hji; exact hy.wpOp hi hS ⟨.inr hS, H⟩
    · have h1 := H.2 j (ready_mono hj hji)
      obtain ⟨hjun, oj, hoj, hall⟩ := mem_ready.1 hj
      have hiun := (mem_ready.1 hr).1
      have hiun' : listed.getD i false = false := getD_both hiun
      have hnot : ∀ e ∈ oj.after, Region.binds md e = true → e.on ≠ i := fun e he hb heq => by
        have h1 := hall e he hb
        rw [heq, hiun'] at h1
        cases h1
      have h2 := wpOp_putIf hoj (hfree j oj hoj hji hjun hnot) (fun cs b => hsel i oi cs b hi) (fun cs b => hsel j oj cs b hoj) hQ hy h1
      have hfree' : ∀ k ok, ops[k]? = some ok → k ≠ i → (listed.setIfInBounds j true).getD k true = false →
          (∀ e ∈ ok.after, Region.binds md e = true → e.on ≠ i) → oi.apart ops ok = true := fun k ok hk hki hun hno => by
        refine hfree k ok hk hki ?_ hno
        by_cases hjk : j = k
        · subst hjk; exact hjun
        · rw [getD_set_ne true hjk] at hun; exact hun
      have hri : i ∈ Region.ready md ops (listed.setIfInBounds j true) := ready_mono hr (Ne.symm hji)
      -- somebody waits for i: so j is not the last one
      have hlast : allL ((listed.setIfInBounds i true).setIfInBounds j true) = true → False := fun hall' => by
        have h3 := List.all_eq_true.1 hs i (List.mem_range.2 hin)
        obtain ⟨k, hk, hk2⟩ := List.any_eq_true.1 h3
        simp only [Bool.and_eq_true, decide_eq_true_eq] at hk2
        have hkn : k < ops.size := by have := List.mem_range.1 hk; omega
        have hin' : i < ops.size := by omega
        have hjk : j ≠ k := fun e => by
          subst e
          obtain ⟨o', ho', e, he, hb, hon⟩ := Region.waitsFor_spec hk2.2
          obtain rfl : o' = oj := Option.some.inj (ho'.symm.trans hoj)
          exact hnot e he hb hon
        have hik : i ≠ k := by omega
        have h4 := allL_get hall' k
        rw [getD_set_ne true hjk, getD_set_ne true hik] at h4
        have h5 := hsh.out k i hkn hin' hk2.2 h4
        rw [hiun'] at h5
        cases h5
      refine wpOp_mono (fun a' w' h3 => ?_) h2
      have hS' : S w' := h3.2.1.resolve_left (fun e => hlast e)
      refine ⟨.inr hS', ih (listed.setIfInBounds j true) a' w' (hsh.set hj) (by simp [hsz]) hfree' hri h3.1 hS' ?_⟩
      rw [Array.setIfInBounds_comm _ _ hji]
      exact h3.2.2

theorem wpAnyF_take {i n : Nat} {oi : Oper} {v : Value} {fuel : Nat} {listed : Array Bool} {a : Act} {w : World} (hi : ops[i]? = some oi)
    (hB : (Region.noSelect ops && Region.free md ops listed i && (Region.ready md ops listed).contains i && Region.sinkB md ops n && decide (i < n) && decide (n < ops.size) && shutB md ops listed && decide (listed.size = ops.size)) = true)
    (hQ : ∀ c a w, Q (.panic c) (a.put oi.dst v) w → Q (.panic c) a w) (hS : S w) (hy : YieldsIf P ops S oi v a)
    (h : wpAnyF P md ops Q S fuel (listed.setIfInBounds i true) (a.put oi.dst v) w) : wpAnyF P md ops Q S (fuel + 1) listed a w := by
  simp only [Bool.and_eq_true, decide_eq_true_eq] at hB
  obtain ⟨⟨⟨⟨⟨⟨⟨hs, hf⟩, hr⟩, hk⟩, hin⟩, hn⟩, hsh⟩, hsz⟩ := hB
  exact wpAnyF_first hi (Region.noSelect_spec hs) hQ hk hin hn fuel listed a w (shutB_out hsh) hsz (Region.free_spec hi hf) (by simpa using hr) hy hS h

theorem wpAnyF_only {i : Nat} {o : Oper} {fuel : Nat} {listed : Array Bool} {a : Act} {w : World} (ho : ops[i]? = some o) (hr : Region.ready md ops listed = [i])
    (h : ∀ K' : Act → World → Prop, Shut (∀ a w, (allL (listed.setIfInBounds i true) = true ∨ S w) → wpAnyF P md ops Q S fuel (listed.setIfInBounds i true) a w → K' a w) → if Region.wanted o (yielded ops a.tmps) = true then Oper.wp P o a w K' Q else K' (a.put o.dst undef) w) : wpAnyF P md ops Q S (fuel + 1) listed a w := by
  refine ⟨fun h0 => (by rw [hr] at h0; cases h0), fun j hj => ?_⟩
  rw [hr] at hj
  obtain rfl : j = i := by simpa using hj
  exact wpOp_step ho (fun K' hK => h K' (fun a w hS hW => hK a w ⟨hS, hW⟩))

theorem wpAnyF_done {listed : Array Bool} {a : Act} {w : World} (hr : Region.ready md ops listed = []) (h : Q .normal a w) :
    ∀ fuel, wpAnyF P md ops Q S fuel listed a w
  | 0 => ⟨hr, h⟩
  | _ + 1 => ⟨fun _ => h, by rw [hr]; simp⟩

theorem wp_region_F {id : Nat} {a : Act} {w : World} (hm : P.follows .mixedOrders = true) (hS : S w.drew)
    (h : S w.drew → wpAnyF P .any ops Q S ops.size (Array.replicate ops.size false) a w.drew) : (Code.region id ops true).wp P Q a w :=
  wp_region_any hm (wpAny_of_F _ _ _ _ (h hS))
end
end Go.Proofs.YthfdkngmdaehiaaDoor

/- RkF -/
namespace Go.Proofs.YthfdkngmdaehiaaDoor
open Go.RowKit Go.Extern.Stop Go.Stop Go.Extern Go.Sort

set_option maxRecDepth 20000 in
set_option maxHeartbeats 2000000 in
theorem rstep_const {cs : List (List Ins)} {p : RkPl} {m : Mk} {K t : Nat} {w : World} (D : RkX cs p m K w) {L : List Ins} (ht : cs[t]? = some L) {x : Ins} (hx : L[m.pc t]? = some x) (e : x.op = ⟨#[99, 111, 110, 115, 116]⟩) {i : Nat} (hi : i < 8) (ei : x.a = i) :
    Calls Tryd.prog 27 #[.pointer (some ⟨p.k, 0, none⟩), .int .i64 t] w fun e w' => e = .returned (.int .i64 0) ∧ ∃ r v, RkStep cs p m.mem w r v (m.step L t) w' := by
  have hM : m.step L t = (m.setPc t (m.pc t + 1)).exec L t x := by unfold Mk.step; rw [hx]
  obtain ⟨M', hM'⟩ : ∃ M', M' = (m.setPc t (m.pc t + 1)).exec L t x := ⟨_, rfl⟩
  rw [hM, ← hM']
  rw [exec_const (m.setPc t (m.pc t + 1)) L t e] at hM'
  clear hM
  rw [ei] at hM'
  simp only [Int.toNat_natCast] at hM'
  try simp only [show ∀ r, (m.setPc t (m.pc t + 1)).regs t r = m.regs t r from fun _ => rfl] at hM'
  have HD := hide (rdone_at ht hx D.at')
  obtain ⟨xo, xa, xb, xc, xt⟩ := x
  dsimp only at e ei hM' ⊢
  subst e ei
  have HM' := hide hM'
  clear hM'
  have htl := lt_of_get ht
  have h6 := D.at'.few
  have hpl := lt_of_get hx
  have hL2 := (D.right.right t L ht).1
  have hcap := D.at'.tcap
  have hcc := D.at'.ccap t L ht
  have ti : (t : Int) < cs.length := by omega
  have t6 : (t : Int) < 6 := by omega
  have pi : (m.pc t : Int) < L.length := by omega
  have hpc2 : m.pc t ≤ 2000 := D.ok.pcs t
  have hpw := wrapNext hpc2
  have hpw2 := wrapNext2 hpc2
  have hr8 := D.at'.rcap t htl
  have li : (i : Int) < 8 := by omega
  have HIN := hide (D.at'.rc.code ht)
  have HX := hide D
  have H := hide D.at'
  have d0 : decide ((t : Int) < 0) = false := by simp
  have hT := H.out.mT
  clear D
  go_enter Tryd.func27, Tryd.ntmps27
  go_wp2_with fail
  refine HD.out.mono ?_
  rintro e w1 ⟨rfl, hb1⟩
  clear HD hT
  have H1 := hide (H.out.below hb1)
  have HIN1 := hide (insAt_below HIN.out hb1)
  have hT := H1.out.mT
  have hA := H1.out.tAt t htl
  have hC := H1.out.tCode t L ht
  have hR := H1.out.tRegs t htl
  obtain ⟨cb, off, had, c0, c1, c2, c3, c4⟩ := HIN1.out _ _ hx
  dsimp only at c0 c1 c2 c3 c4
  rw [had] at hC
  have lcb : cb < w1.heap.size := World.block_lt_of_cell? _ _ c0
  have lk := H1.out.lk
  have lt := H1.out.lt'
  have lr := H1.out.lr htl
  have zt := H1.out.ft (t * 3 + 2)
  obtain ⟨W2, hW2⟩ : ∃ W2, W2 = (w1.alloc (.cells #[.string ⟨#[99, 111, 110, 115, 116]⟩, .int .i64 i, .int .i64 xb, .int .i64 xc, .string xt] 55)).drew := ⟨_, rfl⟩
  have b2 : Below w1.heap.size w1 W2 := by rw [hW2]; exact ((Below.refl _ _).alloc (Nat.le_refl _) _).drew
  have q0 : W2.cell? ⟨w1.heap.size, 0, none⟩ = some (.string ⟨#[99, 111, 110, 115, 116]⟩) := by rw [hW2]; simp
  have q1 : W2.cell? ⟨w1.heap.size, 1, none⟩ = some (.int .i64 i) := by rw [hW2]; simp
  have q2 : W2.cell? ⟨w1.heap.size, 2, none⟩ = some (.int .i64 xb) := by rw [hW2]; simp
  have q3 : W2.cell? ⟨w1.heap.size, 3, none⟩ = some (.int .i64 xc) := by rw [hW2]; simp
  have q4 : W2.cell? ⟨w1.heap.size, 4, none⟩ = some (.string xt) := by rw [hW2]; simp
  have lW2 : w1.heap.size < W2.heap.size := World.block_lt_of_cell? _ _ q0
  clear HIN HIN1 had
  go_wp2_with fail
  go_region
  rw [← hW2]
  have B2 := below_step hb1 b2
  have H2 := hide (H.out.below B2)
  replace hT := H2.out.mT
  replace hA := H2.out.tAt t htl
  replace hR := H2.out.tRegs t htl
  replace hC := keep_cell b2 hC
  replace zt := H2.out.ft (t * 3 + 2)
  have dk := H2.out.d1
  have dr1 := (H2.out.d2 t htl).1
  have dr2 := (H2.out.d2 t htl).2
  have G2 : Hid (Stg cs p m.mem w w1.heap.size p.rp p.mv m W2) := hide (Stg.first H.out B2 hb1.size lW2)
  obtain ⟨nk, nt, nr⟩ := G2.out.ne
  replace nr := nr t htl
  have lk2 : p.k < W2.heap.size := by omega
  have lt2 : p.tb < W2.heap.size := by omega
  have lr2 : p.rb t < W2.heap.size := by omega
  obtain ⟨W3, hW3⟩ : ∃ W3, W3 = W2.setCell ⟨p.tb, t * 3 + 2, none⟩ (.int .i64 ((m.pc t : Int) + 1)) := ⟨_, rfl⟩
  have S3 : Hid (RkStep cs p m.mem W2 p.rp p.mv (m.setPc t (m.pc t + 1)) W3) := hide (by rw [hW3]; exact H2.out.setPc htl (m.pc t + 1))
  have G3 : Hid (Stg cs p m.mem w w1.heap.size p.rp p.mv (m.setPc t (m.pc t + 1)) W3) := hide (G2.out.trans S3.out)
  have HM3 : Hid (RkAt cs p (m.setPc t (m.pc t + 1)) W3) := hide G3.out.step.at'
  have HX3 : Hid (RkX cs p (m.setPc t (m.pc t + 1)) K W3) := hide ⟨HM3.out, HX.out.ok.setPc t (by omega), HX.out.right, HX.out.hK⟩
  have y0 := G2.out.keep S3.out q0
  have y1 := G2.out.keep S3.out q1
  have y2 := G2.out.keep S3.out q2
  have y3 := G2.out.keep S3.out q3
  have y4 := G2.out.keep S3.out q4
  have T3 := HM3.out.mT
  have R3 := HM3.out.tRegs t htl
  have k3 := HM3.out.mM
  have lW3 : w1.heap.size < W3.heap.size := G3.out.lt
  have G0 : Hid (∀ r, r < 8 → W2.cell? ⟨p.rb t, r, none⟩ = some (.int .i64 (m.regs t r)) ∧ W2.frozen? ⟨p.rb t, r, none⟩ = false) := fun r hr => ⟨H2.out.regs t r htl hr, H2.out.fr t r htl⟩
  clear H2 c0 c1 c2 c3 c4 hb1 b2 B2 hW2 G2 S3 H1 lcb
  obtain ⟨fi, fzi⟩ := G0.out i (by omega)
  have gi : W3.cell? ⟨p.rb t, i, none⟩ = some (.int .i64 (m.regs t i)) := HM3.out.regs t i htl (by omega)
  clear G0
  have HS := hide (G3.out.trans (HM3.out.setReg htl hi xb))
  rw [hW3] at HS
  clear G3 HM3 HX3
  go_wp2
  go_ret
  exact ⟨rfl, _, _, by rw [HM'.out]; exact HS.out.step⟩

set_option maxRecDepth 20000 in
set_option maxHeartbeats 2000000 in
theorem rstep_move {cs : List (List Ins)} {p : RkPl} {m : Mk} {K t : Nat} {w : World} (D : RkX cs p m K w) {L : List Ins} (ht : cs[t]? = some L) {x : Ins} (hx : L[m.pc t]? = some x) (e : x.op = ⟨#[109, 111, 118, 101]⟩) {i : Nat} (hi : i < 8) (ei : x.a = i) {j : Nat} (hj : j < 8) (ej : x.b = j) :
    Calls Tryd.prog 27 #[.pointer (some ⟨p.k, 0, none⟩), .int .i64 t] w fun e w' => e = .returned (.int .i64 0) ∧ ∃ r v, RkStep cs p m.mem w r v (m.step L t) w' := by
  have hM : m.step L t = (m.setPc t (m.pc t + 1)).exec L t x := by unfold Mk.step; rw [hx]
  obtain ⟨M', hM'⟩ : ∃ M', M' = (m.setPc t (m.pc t + 1)).exec L t x := ⟨_, rfl⟩
  rw [hM, ← hM']
  rw [exec_move (m.setPc t (m.pc t + 1)) L t e] at hM'
  clear hM
  rw [ei] at hM'
  rw [ej] at hM'
  simp only [Int.toNat_natCast] at hM'
  try simp only [show ∀ r, (m.setPc t (m.pc t + 1)).regs t r = m.regs t r from fun _ => rfl] at hM'
  have HD := hide (rdone_at ht hx D.at')
  obtain ⟨xo, xa, xb, xc, xt⟩ := x
  dsimp only at e ei ej hM' ⊢
  subst e ei ej
  have HM' := hide hM'
  clear hM'
  have htl := lt_of_get ht
  have h6 := D.at'.few
  have hpl := lt_of_get hx
  have hL2 := (D.right.right t L ht).1
  have hcap := D.at'.tcap
  have hcc := D.at'.ccap t L ht
  have ti : (t : Int) < cs.length := by omega
  have t6 : (t : Int) < 6 := by omega
  have pi : (m.pc t : Int) < L.length := by omega
  have hpc2 : m.pc t ≤ 2000 := D.ok.pcs t
  have hpw := wrapNext hpc2
  have hpw2 := wrapNext2 hpc2
  have hr8 := D.at'.rcap t htl
  have li : (i : Int) < 8 := by omega
  have lj : (j : Int) < 8 := by omega
  have HIN := hide (D.at'.rc.code ht)
  have HX := hide D
  have H := hide D.at'
  have d0 : decide ((t : Int) < 0) = false := by simp
  have hT := H.out.mT
  clear D
  go_enter Tryd.func27, Tryd.ntmps27
  go_wp2_with fail
  refine HD.out.mono ?_
  rintro e w1 ⟨rfl, hb1⟩
  clear HD hT
  have H1 := hide (H.out.below hb1)
  have HIN1 := hide (insAt_below HIN.out hb1)
  have hT := H1.out.mT
  have hA := H1.out.tAt t htl
  have hC := H1.out.tCode t L ht
  have hR := H1.out.tRegs t htl
  obtain ⟨cb, off, had, c0, c1, c2, c3, c4⟩ := HIN1.out _ _ hx
  dsimp only at c0 c1 c2 c3 c4
  rw [had] at hC
  have lcb : cb < w1.heap.size := World.block_lt_of_cell? _ _ c0
  have lk := H1.out.lk
  have lt := H1.out.lt'
  have lr := H1.out.lr htl
  have zt := H1.out.ft (t * 3 + 2)
  obtain ⟨W2, hW2⟩ : ∃ W2, W2 = (w1.alloc (.cells #[.string ⟨#[109, 111, 118, 101]⟩, .int .i64 i, .int .i64 j, .int .i64 xc, .string xt] 55)).drew := ⟨_, rfl⟩
  have b2 : Below w1.heap.size w1 W2 := by rw [hW2]; exact ((Below.refl _ _).alloc (Nat.le_refl _) _).drew
  have q0 : W2.cell? ⟨w1.heap.size, 0, none⟩ = some (.string ⟨#[109, 111, 118, 101]⟩) := by rw [hW2]; simp
  have q1 : W2.cell? ⟨w1.heap.size, 1, none⟩ = some (.int .i64 i) := by rw [hW2]; simp
  have q2 : W2.cell? ⟨w1.heap.size, 2, none⟩ = some (.int .i64 j) := by rw [hW2]; simp
  have q3 : W2.cell? ⟨w1.heap.size, 3, none⟩ = some (.int .i64 xc) := by rw [hW2]; simp
  have q4 : W2.cell? ⟨w1.heap.size, 4, none⟩ = some (.string xt) := by rw [hW2]; simp
  have lW2 : w1.heap.size < W2.heap.size := World.block_lt_of_cell? _ _ q0
  clear HIN HIN1 had
  go_wp2_with fail
  go_region
  rw [← hW2]
  have B2 := below_step hb1 b2
  have H2 := hide (H.out.below B2)
  replace hT := H2.out.mT
  replace hA := H2.out.tAt t htl
  replace hR := H2.out.tRegs t htl
  replace hC := keep_cell b2 hC
  replace zt := H2.out.ft (t * 3 + 2)
  have dk := H2.out.d1
  have dr1 := (H2.out.d2 t htl).1
  have dr2 := (H2.out.d2 t htl).2
  have G2 : Hid (Stg cs p m.mem w w1.heap.size p.rp p.mv m W2) := hide (Stg.first H.out B2 hb1.size lW2)
  obtain ⟨nk, nt, nr⟩ := G2.out.ne
  replace nr := nr t htl
  have lk2 : p.k < W2.heap.size := by omega
  have lt2 : p.tb < W2.heap.size := by omega
  have lr2 : p.rb t < W2.heap.size := by omega
  obtain ⟨W3, hW3⟩ : ∃ W3, W3 = W2.setCell ⟨p.tb, t * 3 + 2, none⟩ (.int .i64 ((m.pc t : Int) + 1)) := ⟨_, rfl⟩
  have S3 : Hid (RkStep cs p m.mem W2 p.rp p.mv (m.setPc t (m.pc t + 1)) W3) := hide (by rw [hW3]; exact H2.out.setPc htl (m.pc t + 1))
  have G3 : Hid (Stg cs p m.mem w w1.heap.size p.rp p.mv (m.setPc t (m.pc t + 1)) W3) := hide (G2.out.trans S3.out)
  have HM3 : Hid (RkAt cs p (m.setPc t (m.pc t + 1)) W3) := hide G3.out.step.at'
  have HX3 : Hid (RkX cs p (m.setPc t (m.pc t + 1)) K W3) := hide ⟨HM3.out, HX.out.ok.setPc t (by omega), HX.out.right, HX.out.hK⟩
  have y0 := G2.out.keep S3.out q0
  have y1 := G2.out.keep S3.out q1
  have y2 := G2.out.keep S3.out q2
  have y3 := G2.out.keep S3.out q3
  have y4 := G2.out.keep S3.out q4
  have T3 := HM3.out.mT
  have R3 := HM3.out.tRegs t htl
  have k3 := HM3.out.mM
  have lW3 : w1.heap.size < W3.heap.size := G3.out.lt
  have G0 : Hid (∀ r, r < 8 → W2.cell? ⟨p.rb t, r, none⟩ = some (.int .i64 (m.regs t r)) ∧ W2.frozen? ⟨p.rb t, r, none⟩ = false) := fun r hr => ⟨H2.out.regs t r htl hr, H2.out.fr t r htl⟩
  clear H2 c0 c1 c2 c3 c4 hb1 b2 B2 hW2 G2 S3 H1 lcb
  obtain ⟨fi, fzi⟩ := G0.out i (by omega)
  have gi : W3.cell? ⟨p.rb t, i, none⟩ = some (.int .i64 (m.regs t i)) := HM3.out.regs t i htl (by omega)
  obtain ⟨fj, fzj⟩ := G0.out j (by omega)
  have gj : W3.cell? ⟨p.rb t, j, none⟩ = some (.int .i64 (m.regs t j)) := HM3.out.regs t j htl (by omega)
  clear G0
  have z3 : W3.frozen? ⟨p.rb t, i, none⟩ = false := HM3.out.fr t i htl
  have HS := hide (G3.out.trans ((HM3.out.setReg htl hi (m.regs t j)).below (Below.refl _ _).drew))
  clear G3 HM3 HX3
  generalize m.regs t i = Ri at *
  generalize m.regs t j = Rj at *
  go_wp2_with fail
  rw [← hW3]
  clear hT hA hR hC zt q0 q1 q2 q3 q4 lW2 lk2 lt2 lr2 hW3
  refine wp_region_F (S := (fun w' => w'.cell? ⟨w1.heap.size, 1, none⟩ = some (.int .i64 i) ∧ w'.cell? ⟨w1.heap.size, 2, none⟩ = some (.int .i64 j) ∧ w'.cell? ⟨p.rb t, i, none⟩ = some (.int .i64 Ri) ∧ w'.cell? ⟨p.rb t, j, none⟩ = some (.int .i64 Rj))) (by kernel_rfl) (by (try dsimp only); go_keep) (fun hHeld => ?_)
  refine' wpAnyF_take (i := 0) (n := 9) (v := _) rfl (by kernel_rfl) (fun _ _ _ h => h) (by assumption) (Or.inl ⟨by rfl, ?hy1⟩) ?rest1
  case' hy1 => (intro w' hSw; (try dsimp only at hSw); go_simp; try with_reducible rfl)
  try simp only [Act.put, List.getElem_toArray, List.getElem_cons_zero, List.setIfInBounds_toArray, List.set_cons_zero, List.set_cons_succ]
  refine' wpAnyF_take (i := 1) (n := 9) (v := _) rfl (by kernel_rfl) (fun _ _ _ h => h) (by assumption) (Or.inl ⟨by rfl, ?hy2⟩) ?rest2
  case' hy2 => (intro w' hSw; (try dsimp only at hSw); go_simp; try with_reducible rfl)
  try simp only [Act.put, List.getElem_toArray, List.getElem_cons_zero, List.getElem_cons_succ, List.setIfInBounds_toArray, List.set_cons_zero, List.set_cons_succ]
  refine' wpAnyF_take (i := 2) (n := 9) (v := _) rfl (by kernel_rfl) (fun _ _ _ h => h) (by assumption) (Or.inl ⟨by rfl, ?hy3⟩) ?rest3
  case' hy3 => (intro w' hSw; (try dsimp only at hSw); go_simp; try with_reducible rfl)
  try simp only [Act.put, List.getElem_toArray, List.getElem_cons_zero, List.getElem_cons_succ, List.setIfInBounds_toArray, List.set_cons_zero, List.set_cons_succ]
  refine' wpAnyF_take (i := 3) (n := 9) (v := _) rfl (by kernel_rfl) (fun _ _ _ h => h) (by assumption) (Or.inl ⟨by rfl, ?hy4⟩) ?rest4
  case' hy4 => (intro w' hSw; (try dsimp only at hSw); go_simp; try with_reducible rfl)
  try simp only [Act.put, List.getElem_toArray, List.getElem_cons_zero, List.getElem_cons_succ, List.setIfInBounds_toArray, List.set_cons_zero, List.set_cons_succ]
  refine' wpAnyF_take (i := 4) (n := 9) (v := _) rfl (by kernel_rfl) (fun _ _ _ h => h) (by assumption) (Or.inl ⟨by rfl, ?hy5⟩) ?rest5
  case' hy5 => (intro w' hSw; (try dsimp only at hSw); go_simp; try with_reducible rfl)
  try simp only [Act.put, List.getElem_toArray, List.getElem_cons_zero, List.getElem_cons_succ, List.setIfInBounds_toArray, List.set_cons_zero, List.set_cons_succ]
  refine' wpAnyF_take (i := 5) (n := 9) (v := _) rfl (by kernel_rfl) (fun _ _ _ h => h) (by assumption) (Or.inl ⟨by rfl, ?hy6⟩) ?rest6
  case' hy6 => (intro w' hSw; (try dsimp only at hSw); go_simp; try with_reducible rfl)
  try simp only [Act.put, List.getElem_toArray, List.getElem_cons_zero, List.getElem_cons_succ, List.setIfInBounds_toArray, List.set_cons_zero, List.set_cons_succ]
  refine' wpAnyF_take (i := 6) (n := 9) (v := _) rfl (by kernel_rfl) (fun _ _ _ h => h) (by assumption) (Or.inl ⟨by rfl, ?hy7⟩) ?rest7
  case' hy7 => (intro w' hSw; (try dsimp only at hSw); go_simp; try with_reducible rfl)
  try simp only [Act.put, List.getElem_toArray, List.getElem_cons_zero, List.getElem_cons_succ, List.setIfInBounds_toArray, List.set_cons_zero, List.set_cons_succ]
  refine' wpAnyF_take (i := 7) (n := 9) (v := _) rfl (by kernel_rfl) (fun _ _ _ h => h) (by assumption) (Or.inl ⟨by rfl, ?hy8⟩) ?rest8
  case' hy8 => (intro w' hSw; (try dsimp only at hSw); go_simp; try with_reducible rfl)
  try simp only [Act.put, List.getElem_toArray, List.getElem_cons_zero, List.getElem_cons_succ, List.setIfInBounds_toArray, List.set_cons_zero, List.set_cons_succ]
  refine' wpAnyF_take (i := 8) (n := 9) (v := _) rfl (by kernel_rfl) (fun _ _ _ h => h) (by assumption) (Or.inl ⟨by rfl, ?hy9⟩) ?rest9
  case' hy9 => (intro w' hSw; (try dsimp only at hSw); go_simp; try with_reducible rfl)
  try simp only [Act.put, List.getElem_toArray, List.getElem_cons_zero, List.getElem_cons_succ, List.setIfInBounds_toArray, List.set_cons_zero, List.set_cons_succ]
  clear hHeld
  refine wpAnyF_only (i := 9) rfl (by kernel_rfl) (fun K hK => ?_)
  go_simp
  refine hK.out _ _ (Or.inl (by kernel_rfl)) ?_
  clear hK K
  try simp only [Act.put, List.getElem_toArray, List.getElem_cons_zero, List.getElem_cons_succ, List.setIfInBounds_toArray, List.set_cons_zero, List.set_cons_succ]
  refine wpAnyF_done (by kernel_rfl) ?_ _
  go_wp2
  go_ret
  exact ⟨rfl, _, _, by rw [HM'.out]; exact HS.out.step⟩

set_option maxRecDepth 20000 in
set_option maxHeartbeats 2000000 in
theorem rstep_and {cs : List (List Ins)} {p : RkPl} {m : Mk} {K t : Nat} {w : World} (D : RkX cs p m K w) {L : List Ins} (ht : cs[t]? = some L) {x : Ins} (hx : L[m.pc t]? = some x) (e : x.op = ⟨#[97, 110, 100]⟩) {i : Nat} (hi : i < 8) (ei : x.a = i) {j : Nat} (hj : j < 8) (ej : x.b = j) {k : Nat} (hk : k < 8) (ek : x.c = k) :
    Calls Tryd.prog 27 #[.pointer (some ⟨p.k, 0, none⟩), .int .i64 t] w fun e w' => e = .returned (.int .i64 0) ∧ ∃ r v, RkStep cs p m.mem w r v (m.step L t) w' := by
  have hM : m.step L t = (m.setPc t (m.pc t + 1)).exec L t x := by unfold Mk.step; rw [hx]
  obtain ⟨M', hM'⟩ : ∃ M', M' = (m.setPc t (m.pc t + 1)).exec L t x := ⟨_, rfl⟩
  rw [hM, ← hM']
  rw [exec_and (m.setPc t (m.pc t + 1)) L t e] at hM'
  clear hM
  rw [ei] at hM'
  rw [ej] at hM'
  rw [ek] at hM'
  simp only [Int.toNat_natCast] at hM'
  try simp only [show ∀ r, (m.setPc t (m.pc t + 1)).regs t r = m.regs t r from fun _ => rfl] at hM'
  have HD := hide (rdone_at ht hx D.at')
  obtain ⟨xo, xa, xb, xc, xt⟩ := x
  dsimp only at e ei ej ek hM' ⊢
  subst e ei ej ek
  have HM' := hide hM'
  clear hM'
  have htl := lt_of_get ht
  have h6 := D.at'.few
  have hpl := lt_of_get hx
  have hL2 := (D.right.right t L ht).1
  have hcap := D.at'.tcap
  have hcc := D.at'.ccap t L ht
  have ti : (t : Int) < cs.length := by omega
  have t6 : (t : Int) < 6 := by omega
  have pi : (m.pc t : Int) < L.length := by omega
  have hpc2 : m.pc t ≤ 2000 := D.ok.pcs t
  have hpw := wrapNext hpc2
  have hpw2 := wrapNext2 hpc2
  have hr8 := D.at'.rcap t htl
  have li : (i : Int) < 8 := by omega
  have lj : (j : Int) < 8 := by omega
  have lk : (k : Int) < 8 := by omega
  have HIN := hide (D.at'.rc.code ht)
  have HX := hide D
  have H := hide D.at'
  have d0 : decide ((t : Int) < 0) = false := by simp
  have hT := H.out.mT
  clear D
  go_enter Tryd.func27, Tryd.ntmps27
  go_wp2_with fail
  refine HD.out.mono ?_
  rintro e w1 ⟨rfl, hb1⟩
  clear HD hT
  have H1 := hide (H.out.below hb1)
  have HIN1 := hide (insAt_below HIN.out hb1)
  have hT := H1.out.mT
  have hA := H1.out.tAt t htl
  have hC := H1.out.tCode t L ht
  have hR := H1.out.tRegs t htl
  obtain ⟨cb, off, had, c0, c1, c2, c3, c4⟩ := HIN1.out _ _ hx
  dsimp only at c0 c1 c2 c3 c4
  rw [had] at hC
  have lcb : cb < w1.heap.size := World.block_lt_of_cell? _ _ c0
  have lk := H1.out.lk
  have lt := H1.out.lt'
  have lr := H1.out.lr htl
  have zt := H1.out.ft (t * 3 + 2)
  obtain ⟨W2, hW2⟩ : ∃ W2, W2 = (w1.alloc (.cells #[.string ⟨#[97, 110, 100]⟩, .int .i64 i, .int .i64 j, .int .i64 k, .string xt] 55)).drew := ⟨_, rfl⟩
  have b2 : Below w1.heap.size w1 W2 := by rw [hW2]; exact ((Below.refl _ _).alloc (Nat.le_refl _) _).drew
  have q0 : W2.cell? ⟨w1.heap.size, 0, none⟩ = some (.string ⟨#[97, 110, 100]⟩) := by rw [hW2]; simp
  have q1 : W2.cell? ⟨w1.heap.size, 1, none⟩ = some (.int .i64 i) := by rw [hW2]; simp
  have q2 : W2.cell? ⟨w1.heap.size, 2, none⟩ = some (.int .i64 j) := by rw [hW2]; simp
  have q3 : W2.cell? ⟨w1.heap.size, 3, none⟩ = some (.int .i64 k) := by rw [hW2]; simp
  have q4 : W2.cell? ⟨w1.heap.size, 4, none⟩ = some (.string xt) := by rw [hW2]; simp
  have lW2 : w1.heap.size < W2.heap.size := World.block_lt_of_cell? _ _ q0
  clear HIN HIN1 had
  go_wp2_with fail
  go_region
  rw [← hW2]
  have B2 := below_step hb1 b2
  have H2 := hide (H.out.below B2)
  replace hT := H2.out.mT
  replace hA := H2.out.tAt t htl
  replace hR := H2.out.tRegs t htl
  replace hC := keep_cell b2 hC
  replace zt := H2.out.ft (t * 3 + 2)
  have dk := H2.out.d1
  have dr1 := (H2.out.d2 t htl).1
  have dr2 := (H2.out.d2 t htl).2
  have G2 : Hid (Stg cs p m.mem w w1.heap.size p.rp p.mv m W2) := hide (Stg.first H.out B2 hb1.size lW2)
  obtain ⟨nk, nt, nr⟩ := G2.out.ne
  replace nr := nr t htl
  have lk2 : p.k < W2.heap.size := by omega
  have lt2 : p.tb < W2.heap.size := by omega
  have lr2 : p.rb t < W2.heap.size := by omega
  obtain ⟨W3, hW3⟩ : ∃ W3, W3 = W2.setCell ⟨p.tb, t * 3 + 2, none⟩ (.int .i64 ((m.pc t : Int) + 1)) := ⟨_, rfl⟩
  have S3 : Hid (RkStep cs p m.mem W2 p.rp p.mv (m.setPc t (m.pc t + 1)) W3) := hide (by rw [hW3]; exact H2.out.setPc htl (m.pc t + 1))
  have G3 : Hid (Stg cs p m.mem w w1.heap.size p.rp p.mv (m.setPc t (m.pc t + 1)) W3) := hide (G2.out.trans S3.out)
  have HM3 : Hid (RkAt cs p (m.setPc t (m.pc t + 1)) W3) := hide G3.out.step.at'
  have HX3 : Hid (RkX cs p (m.setPc t (m.pc t + 1)) K W3) := hide ⟨HM3.out, HX.out.ok.setPc t (by omega), HX.out.right, HX.out.hK⟩
  have y0 := G2.out.keep S3.out q0
  have y1 := G2.out.keep S3.out q1
  have y2 := G2.out.keep S3.out q2
  have y3 := G2.out.keep S3.out q3
  have y4 := G2.out.keep S3.out q4
  have T3 := HM3.out.mT
  have R3 := HM3.out.tRegs t htl
  have k3 := HM3.out.mM
  have lW3 : w1.heap.size < W3.heap.size := G3.out.lt
  have G0 : Hid (∀ r, r < 8 → W2.cell? ⟨p.rb t, r, none⟩ = some (.int .i64 (m.regs t r)) ∧ W2.frozen? ⟨p.rb t, r, none⟩ = false) := fun r hr => ⟨H2.out.regs t r htl hr, H2.out.fr t r htl⟩
  clear H2 c0 c1 c2 c3 c4 hb1 b2 B2 hW2 G2 S3 H1 lcb
  obtain ⟨fi, fzi⟩ := G0.out i (by omega)
  have gi : W3.cell? ⟨p.rb t, i, none⟩ = some (.int .i64 (m.regs t i)) := HM3.out.regs t i htl (by omega)
  obtain ⟨fj, fzj⟩ := G0.out j (by omega)
  have gj : W3.cell? ⟨p.rb t, j, none⟩ = some (.int .i64 (m.regs t j)) := HM3.out.regs t j htl (by omega)
  obtain ⟨fk, fzk⟩ := G0.out k (by omega)
  have gk : W3.cell? ⟨p.rb t, k, none⟩ = some (.int .i64 (m.regs t k)) := HM3.out.regs t k htl (by omega)
  clear G0
  have z3 : W3.frozen? ⟨p.rb t, i, none⟩ = false := HM3.out.fr t i htl
  have HB : Hid (∀ w', Calls Tryd.prog 35 #[.string ⟨#[97, 110, 100]⟩, .int .i64 (m.regs t j), .int .i64 (m.regs t k)] w' fun e w'' => e = .returned (.int .i64 (andW (m.regs t j) (m.regs t k))) ∧ w'' = w') := fun w' => rbits_andW (HX3.out.ok.regs t j) (HX3.out.ok.regs t k) w'
  have HS := hide (G3.out.trans ((HM3.out.setReg htl hi (andW (m.regs t j) (m.regs t k))).below (Below.refl _ _).drew))
  clear G3 HM3 HX3
  generalize andW (m.regs t j) (m.regs t k) = V at *
  generalize m.regs t i = Ri at *
  generalize m.regs t j = Rj at *
  generalize m.regs t k = Rk at *
  go_wp2_with fail
  rw [← hW3]
  clear hT hA hR hC zt q0 q1 q2 q3 q4 lW2 lk2 lt2 lr2 hW3
  refine wp_region_F (S := (fun w' => w'.cell? ⟨w1.heap.size, 0, none⟩ = some (.string ⟨#[97, 110, 100]⟩) ∧ w'.cell? ⟨w1.heap.size, 1, none⟩ = some (.int .i64 i) ∧ w'.cell? ⟨w1.heap.size, 2, none⟩ = some (.int .i64 j) ∧ w'.cell? ⟨w1.heap.size, 3, none⟩ = some (.int .i64 k) ∧ w'.cell? ⟨p.rb t, i, none⟩ = some (.int .i64 Ri) ∧ w'.cell? ⟨p.rb t, j, none⟩ = some (.int .i64 Rj) ∧ w'.cell? ⟨p.rb t, k, none⟩ = some (.int .i64 Rk))) (by kernel_rfl) (by (try dsimp only); go_keep) (fun hHeld => ?_)
  refine' wpAnyF_take (i := 0) (n := 17) (v := _) rfl (by kernel_rfl) (fun _ _ _ h => h) (by assumption) (Or.inl ⟨by rfl, ?hy10⟩) ?rest10
  case' hy10 => (intro w' hSw; (try dsimp only at hSw); go_simp; try with_reducible rfl)
  try simp only [Act.put, List.getElem_toArray, List.getElem_cons_zero, List.setIfInBounds_toArray, List.set_cons_zero, List.set_cons_succ]
  refine' wpAnyF_take (i := 1) (n := 17) (v := _) rfl (by kernel_rfl) (fun _ _ _ h => h) (by assumption) (Or.inl ⟨by rfl, ?hy11⟩) ?rest11
  case' hy11 => (intro w' hSw; (try dsimp only at hSw); go_simp; try with_reducible rfl)
  try simp only [Act.put, List.getElem_toArray, List.getElem_cons_zero, List.getElem_cons_succ, List.setIfInBounds_toArray, List.set_cons_zero, List.set_cons_succ]
  refine' wpAnyF_take (i := 2) (n := 17) (v := _) rfl (by kernel_rfl) (fun _ _ _ h => h) (by assumption) (Or.inl ⟨by rfl, ?hy12⟩) ?rest12
  case' hy12 => (intro w' hSw; (try dsimp only at hSw); go_simp; try with_reducible rfl)
  try simp only [Act.put, List.getElem_toArray, List.getElem_cons_zero, List.getElem_cons_succ, List.setIfInBounds_toArray, List.set_cons_zero, List.set_cons_succ]
  refine' wpAnyF_take (i := 3) (n := 17) (v := _) rfl (by kernel_rfl) (fun _ _ _ h => h) (by assumption) (Or.inl ⟨by rfl, ?hy13⟩) ?rest13
  case' hy13 => (intro w' hSw; (try dsimp only at hSw); go_simp; try with_reducible rfl)
  try simp only [Act.put, List.getElem_toArray, List.getElem_cons_zero, List.getElem_cons_succ, List.setIfInBounds_toArray, List.set_cons_zero, List.set_cons_succ]
  refine' wpAnyF_take (i := 4) (n := 17) (v := _) rfl (by kernel_rfl) (fun _ _ _ h => h) (by assumption) (Or.inl ⟨by rfl, ?hy14⟩) ?rest14
  case' hy14 => (intro w' hSw; (try dsimp only at hSw); go_simp; try with_reducible rfl)
  try simp only [Act.put, List.getElem_toArray, List.getElem_cons_zero, List.getElem_cons_succ, List.setIfInBounds_toArray, List.set_cons_zero, List.set_cons_succ]
  refine' wpAnyF_take (i := 5) (n := 17) (v := _) rfl (by kernel_rfl) (fun _ _ _ h => h) (by assumption) (Or.inl ⟨by rfl, ?hy15⟩) ?rest15
  case' hy15 => (intro w' hSw; (try dsimp only at hSw); go_simp; try with_reducible rfl)
  try simp only [Act.put, List.getElem_toArray, List.getElem_cons_zero, List.getElem_cons_succ, List.setIfInBounds_toArray, List.set_cons_zero, List.set_cons_succ]
  refine' wpAnyF_take (i := 6) (n := 17) (v := _) rfl (by kernel_rfl) (fun _ _ _ h => h) (by assumption) (Or.inl ⟨by rfl, ?hy16⟩) ?rest16
  case' hy16 => (intro w' hSw; (try dsimp only at hSw); go_simp; try with_reducible rfl)
  try simp only [Act.put, List.getElem_toArray, List.getElem_cons_zero, List.getElem_cons_succ, List.setIfInBounds_toArray, List.set_cons_zero, List.set_cons_succ]
  refine' wpAnyF_take (i := 7) (n := 17) (v := _) rfl (by kernel_rfl) (fun _ _ _ h => h) (by assumption) (Or.inl ⟨by rfl, ?hy17⟩) ?rest17
  case' hy17 => (intro w' hSw; (try dsimp only at hSw); go_simp; try with_reducible rfl)
  try simp only [Act.put, List.getElem_toArray, List.getElem_cons_zero, List.getElem_cons_succ, List.setIfInBounds_toArray, List.set_cons_zero, List.set_cons_succ]
  refine' wpAnyF_take (i := 8) (n := 17) (v := _) rfl (by kernel_rfl) (fun _ _ _ h => h) (by assumption) (Or.inl ⟨by rfl, ?hy18⟩) ?rest18
  case' hy18 => (intro w' hSw; (try dsimp only at hSw); go_simp; try with_reducible rfl)
  try simp only [Act.put, List.getElem_toArray, List.getElem_cons_zero, List.getElem_cons_succ, List.setIfInBounds_toArray, List.set_cons_zero, List.set_cons_succ]
  refine' wpAnyF_take (i := 9) (n := 17) (v := _) rfl (by kernel_rfl) (fun _ _ _ h => h) (by assumption) (Or.inl ⟨by rfl, ?hy19⟩) ?rest19
  case' hy19 => (intro w' hSw; (try dsimp only at hSw); go_simp; try with_reducible rfl)
  try simp only [Act.put, List.getElem_toArray, List.getElem_cons_zero, List.getElem_cons_succ, List.setIfInBounds_toArray, List.set_cons_zero, List.set_cons_succ]
  refine' wpAnyF_take (i := 10) (n := 17) (v := _) rfl (by kernel_rfl) (fun _ _ _ h => h) (by assumption) (Or.inl ⟨by rfl, ?hy20⟩) ?rest20
  case' hy20 => (intro w' hSw; (try dsimp only at hSw); go_simp; try with_reducible rfl)
  try simp only [Act.put, List.getElem_toArray, List.getElem_cons_zero, List.getElem_cons_succ, List.setIfInBounds_toArray, List.set_cons_zero, List.set_cons_succ]
  refine' wpAnyF_take (i := 11) (n := 17) (v := _) rfl (by kernel_rfl) (fun _ _ _ h => h) (by assumption) (Or.inl ⟨by rfl, ?hy21⟩) ?rest21
  case' hy21 => (intro w' hSw; (try dsimp only at hSw); go_simp; try with_reducible rfl)
  try simp only [Act.put, List.getElem_toArray, List.getElem_cons_zero, List.getElem_cons_succ, List.setIfInBounds_toArray, List.set_cons_zero, List.set_cons_succ]
  refine' wpAnyF_take (i := 12) (n := 17) (v := _) rfl (by kernel_rfl) (fun _ _ _ h => h) (by assumption) (Or.inl ⟨by rfl, ?hy22⟩) ?rest22
  case' hy22 => (intro w' hSw; (try dsimp only at hSw); go_simp; try with_reducible rfl)
  try simp only [Act.put, List.getElem_toArray, List.getElem_cons_zero, List.getElem_cons_succ, List.setIfInBounds_toArray, List.set_cons_zero, List.set_cons_succ]
  refine' wpAnyF_take (i := 13) (n := 17) (v := _) rfl (by kernel_rfl) (fun _ _ _ h => h) (by assumption) (Or.inl ⟨by rfl, ?hy23⟩) ?rest23
  case' hy23 => (intro w' hSw; (try dsimp only at hSw); go_simp; try with_reducible rfl)
  try simp only [Act.put, List.getElem_toArray, List.getElem_cons_zero, List.getElem_cons_succ, List.setIfInBounds_toArray, List.set_cons_zero, List.set_cons_succ]
  refine' wpAnyF_take (i := 14) (n := 17) (v := _) rfl (by kernel_rfl) (fun _ _ _ h => h) (by assumption) (Or.inl ⟨by rfl, ?hy24⟩) ?rest24
  case' hy24 => (intro w' hSw; (try dsimp only at hSw); go_simp; try with_reducible rfl)
  try simp only [Act.put, List.getElem_toArray, List.getElem_cons_zero, List.getElem_cons_succ, List.setIfInBounds_toArray, List.set_cons_zero, List.set_cons_succ]
  refine wpAnyF_only (i := 15) rfl (by kernel_rfl) (fun K hK => ?_)
  go_simp
  go_at_call 35
  refine (HB.out _).mono ?_
  rintro e w4 ⟨rfl, rfl⟩
  dsimp only
  refine hK.out _ _ (Or.inr (by (try dsimp only); exact hHeld)) ?_
  clear hK K
  try simp only [Act.put, List.getElem_toArray, List.getElem_cons_zero, List.getElem_cons_succ, List.setIfInBounds_toArray, List.set_cons_zero, List.set_cons_succ]
  refine' wpAnyF_take (i := 16) (n := 17) (v := _) rfl (by kernel_rfl) (fun _ _ _ h => h) (by assumption) (Or.inl ⟨by rfl, ?hy25⟩) ?rest25
  case' hy25 => (intro w' hSw; (try dsimp only at hSw); go_simp; try with_reducible rfl)
  try simp only [Act.put, List.getElem_toArray, List.getElem_cons_zero, List.getElem_cons_succ, List.setIfInBounds_toArray, List.set_cons_zero, List.set_cons_succ]
  clear hHeld
  refine wpAnyF_only (i := 17) rfl (by kernel_rfl) (fun K hK => ?_)
  go_simp
  refine hK.out _ _ (Or.inl (by kernel_rfl)) ?_
  clear hK K
  try simp only [Act.put, List.getElem_toArray, List.getElem_cons_zero, List.getElem_cons_succ, List.setIfInBounds_toArray, List.set_cons_zero, List.set_cons_succ]
  refine wpAnyF_done (by kernel_rfl) ?_ _
  go_wp2
  go_ret
  exact ⟨rfl, _, _, by rw [HM'.out]; exact HS.out.step⟩

set_option maxRecDepth 20000 in
set_option maxHeartbeats 2000000 in
theorem rstep_xor {cs : List (List Ins)} {p : RkPl} {m : Mk} {K t : Nat} {w : World} (D : RkX cs p m K w) {L : List Ins} (ht : cs[t]? = some L) {x : Ins} (hx : L[m.pc t]? = some x) (e : x.op = ⟨#[120, 111, 114]⟩) {i : Nat} (hi : i < 8) (ei : x.a = i) {j : Nat} (hj : j < 8) (ej : x.b = j) {k : Nat} (hk : k < 8) (ek : x.c = k) :
    Calls Tryd.prog 27 #[.pointer (some ⟨p.k, 0, none⟩), .int .i64 t] w fun e w' => e = .returned (.int .i64 0) ∧ ∃ r v, RkStep cs p m.mem w r v (m.step L t) w' := by
  have hM : m.step L t = (m.setPc t (m.pc t + 1)).exec L t x := by unfold Mk.step; rw [hx]
  obtain ⟨M', hM'⟩ : ∃ M', M' = (m.setPc t (m.pc t + 1)).exec L t x := ⟨_, rfl⟩
  rw [hM, ← hM']
  rw [exec_xor (m.setPc t (m.pc t + 1)) L t e] at hM'
  clear hM
  rw [ei] at hM'
  rw [ej] at hM'
  rw [ek] at hM'
  simp only [Int.toNat_natCast] at hM'
  try simp only [show ∀ r, (m.setPc t (m.pc t + 1)).regs t r = m.regs t r from fun _ => rfl] at hM'
  have HD := hide (rdone_at ht hx D.at')
  obtain ⟨xo, xa, xb, xc, xt⟩ := x
  dsimp only at e ei ej ek hM' ⊢
  subst e ei ej ek
  have HM' := hide hM'
  clear hM'
  have htl := lt_of_get ht
  have h6 := D.at'.few
  have hpl := lt_of_get hx
  have hL2 := (D.right.right t L ht).1
  have hcap := D.at'.tcap
  have hcc := D.at'.ccap t L ht
  have ti : (t : Int) < cs.length := by omega
  have t6 : (t : Int) < 6 := by omega
  have pi : (m.pc t : Int) < L.length := by omega
  have hpc2 : m.pc t ≤ 2000 := D.ok.pcs t
  have hpw := wrapNext hpc2
  have hpw2 := wrapNext2 hpc2
  have hr8 := D.at'.rcap t htl
  have li : (i : Int) < 8 := by omega
  have lj : (j : Int) < 8 := by omega
  have lk : (k : Int) < 8 := by omega
  have HIN := hide (D.at'.rc.code ht)
  have HX := hide D
  have H := hide D.at'
  have d0 : decide ((t : Int) < 0) = false := by simp
  have hT := H.out.mT
  clear D
  go_enter Tryd.func27, Tryd.ntmps27
  go_wp2_with fail
  refine HD.out.mono ?_
  rintro e w1 ⟨rfl, hb1⟩
  clear HD hT
  have H1 := hide (H.out.below hb1)
  have HIN1 := hide (insAt_below HIN.out hb1)
  have hT := H1.out.mT
  have hA := H1.out.tAt t htl
  have hC := H1.out.tCode t L ht
  have hR := H1.out.tRegs t htl
  obtain ⟨cb, off, had, c0, c1, c2, c3, c4⟩ := HIN1.out _ _ hx
  dsimp only at c0 c1 c2 c3 c4
  rw [had] at hC
  have lcb : cb < w1.heap.size := World.block_lt_of_cell? _ _ c0
  have lk := H1.out.lk
  have lt := H1.out.lt'
  have lr := H1.out.lr htl
  have zt := H1.out.ft (t * 3 + 2)
  obtain ⟨W2, hW2⟩ : ∃ W2, W2 = (w1.alloc (.cells #[.string ⟨#[120, 111, 114]⟩, .int .i64 i, .int .i64 j, .int .i64 k, .string xt] 55)).drew := ⟨_, rfl⟩
  have b2 : Below w1.heap.size w1 W2 := by rw [hW2]; exact ((Below.refl _ _).alloc (Nat.le_refl _) _).drew
  have q0 : W2.cell? ⟨w1.heap.size, 0, none⟩ = some (.string ⟨#[120, 111, 114]⟩) := by rw [hW2]; simp
  have q1 : W2.cell? ⟨w1.heap.size, 1, none⟩ = some (.int .i64 i) := by rw [hW2]; simp
  have q2 : W2.cell? ⟨w1.heap.size, 2, none⟩ = some (.int .i64 j) := by rw [hW2]; simp
  have q3 : W2.cell? ⟨w1.heap.size, 3, none⟩ = some (.int .i64 k) := by rw [hW2]; simp
  have q4 : W2.cell? ⟨w1.heap.size, 4, none⟩ = some (.string xt) := by rw [hW2]; simp
  have lW2 : w1.heap.size < W2.heap.size := World.block_lt_of_cell? _ _ q0
  clear HIN HIN1 had
  go_wp2_with fail
  go_region
  rw [← hW2]
  have B2 := below_step hb1 b2
  have H2 := hide (H.out.below B2)
  replace hT := H2.out.mT
  replace hA := H2.out.tAt t htl
  replace hR := H2.out.tRegs t htl
  replace hC := keep_cell b2 hC
  replace zt := H2.out.ft (t * 3 + 2)
  have dk := H2.out.d1
  have dr1 := (H2.out.d2 t htl).1
  have dr2 := (H2.out.d2 t htl).2
  have G2 : Hid (Stg cs p m.mem w w1.heap.size p.rp p.mv m W2) := hide (Stg.first H.out B2 hb1.size lW2)
  obtain ⟨nk, nt, nr⟩ := G2.out.ne
  replace nr := nr t htl
  have lk2 : p.k < W2.heap.size := by omega
  have lt2 : p.tb < W2.heap.size := by omega
  have lr2 : p.rb t < W2.heap.size := by omega
  obtain ⟨W3, hW3⟩ : ∃ W3, W3 = W2.setCell ⟨p.tb, t * 3 + 2, none⟩ (.int .i64 ((m.pc t : Int) + 1)) := ⟨_, rfl⟩
  have S3 : Hid (RkStep cs p m.mem W2 p.rp p.mv (m.setPc t (m.pc t + 1)) W3) := hide (by rw [hW3]; exact H2.out.setPc htl (m.pc t + 1))
  have G3 : Hid (Stg cs p m.mem w w1.heap.size p.rp p.mv (m.setPc t (m.pc t + 1)) W3) := hide (G2.out.trans S3.out)
  have HM3 : Hid (RkAt cs p (m.setPc t (m.pc t + 1)) W3) := hide G3.out.step.at'
  have HX3 : Hid (RkX cs p (m.setPc t (m.pc t + 1)) K W3) := hide ⟨HM3.out, HX.out.ok.setPc t (by omega), HX.out.right, HX.out.hK⟩
  have y0 := G2.out.keep S3.out q0
  have y1 := G2.out.keep S3.out q1
  have y2 := G2.out.keep S3.out q2
  have y3 := G2.out.keep S3.out q3
  have y4 := G2.out.keep S3.out q4
  have T3 := HM3.out.mT
  have R3 := HM3.out.tRegs t htl
  have k3 := HM3.out.mM
  have lW3 : w1.heap.size < W3.heap.size := G3.out.lt
  have G0 : Hid (∀ r, r < 8 → W2.cell? ⟨p.rb t, r, none⟩ = some (.int .i64 (m.regs t r)) ∧ W2.frozen? ⟨p.rb t, r, none⟩ = false) := fun r hr => ⟨H2.out.regs t r htl hr, H2.out.fr t r htl⟩
  clear H2 c0 c1 c2 c3 c4 hb1 b2 B2 hW2 G2 S3 H1 lcb
  obtain ⟨fi, fzi⟩ := G0.out i (by omega)
  have gi : W3.cell? ⟨p.rb t, i, none⟩ = some (.int .i64 (m.regs t i)) := HM3.out.regs t i htl (by omega)
  obtain ⟨fj, fzj⟩ := G0.out j (by omega)
  have gj : W3.cell? ⟨p.rb t, j, none⟩ = some (.int .i64 (m.regs t j)) := HM3.out.regs t j htl (by omega)
  obtain ⟨fk, fzk⟩ := G0.out k (by omega)
  have gk : W3.cell? ⟨p.rb t, k, none⟩ = some (.int .i64 (m.regs t k)) := HM3.out.regs t k htl (by omega)
  clear G0
  have z3 : W3.frozen? ⟨p.rb t, i, none⟩ = false := HM3.out.fr t i htl
  have HB : Hid (∀ w', Calls Tryd.prog 35 #[.string ⟨#[120, 111, 114]⟩, .int .i64 (m.regs t j), .int .i64 (m.regs t k)] w' fun e w'' => e = .returned (.int .i64 (xorW (m.regs t j) (m.regs t k))) ∧ w'' = w') := fun w' => rbits_xorW (HX3.out.ok.regs t j) (HX3.out.ok.regs t k) w'
  have HS := hide (G3.out.trans ((HM3.out.setReg htl hi (xorW (m.regs t j) (m.regs t k))).below (Below.refl _ _).drew))
  clear G3 HM3 HX3
  generalize xorW (m.regs t j) (m.regs t k) = V at *
  generalize m.regs t i = Ri at *
  generalize m.regs t j = Rj at *
  generalize m.regs t k = Rk at *
  go_wp2_with fail
  rw [← hW3]
  clear hT hA hR hC zt q0 q1 q2 q3 q4 lW2 lk2 lt2 lr2 hW3
  refine wp_region_F (S := (fun w' => w'.cell? ⟨w1.heap.size, 0, none⟩ = some (.string ⟨#[120, 111, 114]⟩) ∧ w'.cell? ⟨w1.heap.size, 1, none⟩ = some (.int .i64 i) ∧ w'.cell? ⟨w1.heap.size, 2, none⟩ = some (.int .i64 j) ∧ w'.cell? ⟨w1.heap.size, 3, none⟩ = some (.int .i64 k) ∧ w'.cell? ⟨p.rb t, i, none⟩ = some (.int .i64 Ri) ∧ w'.cell? ⟨p.rb t, j, none⟩ = some (.int .i64 Rj) ∧ w'.cell? ⟨p.rb t, k, none⟩ = some (.int .i64 Rk))) (by kernel_rfl) (by (try dsimp only); go_keep) (fun hHeld => ?_)
  refine' wpAnyF_take (i := 0) (n := 17) (v := _) rfl (by kernel_rfl) (fun _ _ _ h => h) (by assumption) (Or.inl ⟨by rfl, ?hy26⟩) ?rest26
  case' hy26 => (intro w' hSw; (try dsimp only at hSw); go_simp; try with_reducible rfl)
  try simp only [Act.put, List.getElem_toArray, List.getElem_cons_zero, List.setIfInBounds_toArray, List.set_cons_zero, List.set_cons_succ]
  refine' wpAnyF_take (i := 1) (n := 17) (v := _) rfl (by kernel_rfl) (fun _ _ _ h => h) (by assumption) (Or.inl ⟨by rfl, ?hy27⟩) ?rest27
  case' hy27 => (intro w' hSw; (try dsimp only at hSw); go_simp; try with_reducible rfl)
  try simp only [Act.put, List.getElem_toArray, List.getElem_cons_zero, List.getElem_cons_succ, List.setIfInBounds_toArray, List.set_cons_zero, List.set_cons_succ]
  refine' wpAnyF_take (i := 2) (n := 17) (v := _) rfl (by kernel_rfl) (fun _ _ _ h => h) (by assumption) (Or.inl ⟨by rfl, ?hy28⟩) ?rest28
  case' hy28 => (intro w' hSw; (try dsimp only at hSw); go_simp; try with_reducible rfl)
  try simp only [Act.put, List.getElem_toArray, List.getElem_cons_zero, List.getElem_cons_succ, List.setIfInBounds_toArray, List.set_cons_zero, List.set_cons_succ]
  refine' wpAnyF_take (i := 3) (n := 17) (v := _) rfl (by kernel_rfl) (fun _ _ _ h => h) (by assumption) (Or.inl ⟨by rfl, ?hy29⟩) ?rest29
  case' hy29 => (intro w' hSw; (try dsimp only at hSw); go_simp; try with_reducible rfl)
  try simp only [Act.put, List.getElem_toArray, List.getElem_cons_zero, List.getElem_cons_succ, List.setIfInBounds_toArray, List.set_cons_zero, List.set_cons_succ]
  refine' wpAnyF_take (i := 4) (n := 17) (v := _) rfl (by kernel_rfl) (fun _ _ _ h => h) (by assumption) (Or.inl ⟨by rfl, ?hy30⟩) ?rest30
  case' hy30 => (intro w' hSw; (try dsimp only at hSw); go_simp; try with_reducible rfl)
  try simp only [Act.put, List.getElem_toArray, List.getElem_cons_zero, List.getElem_cons_succ, List.setIfInBounds_toArray, List.set_cons_zero, List.set_cons_succ]
  refine' wpAnyF_take (i := 5) (n := 17) (v := _) rfl (by kernel_rfl) (fun _ _ _ h => h) (by assumption) (Or.inl ⟨by rfl, ?hy31⟩) ?rest31
  case' hy31 => (intro w' hSw; (try dsimp only at hSw); go_simp; try with_reducible rfl)
  try simp only [Act.put, List.getElem_toArray, List.getElem_cons_zero, List.getElem_cons_succ, List.setIfInBounds_toArray, List.set_cons_zero, List.set_cons_succ]
  refine' wpAnyF_take (i := 6) (n := 17) (v := _) rfl (by kernel_rfl) (fun _ _ _ h => h) (by assumption) (Or.inl ⟨by rfl, ?hy32⟩) ?rest32
  case' hy32 => (intro w' hSw; (try dsimp only at hSw); go_simp; try with_reducible rfl)
  try simp only [Act.put, List.getElem_toArray, List.getElem_cons_zero, List.getElem_cons_succ, List.setIfInBounds_toArray, List.set_cons_zero, List.set_cons_succ]
  refine' wpAnyF_take (i := 7) (n := 17) (v := _) rfl (by kernel_rfl) (fun _ _ _ h => h) (by assumption) (Or.inl ⟨by rfl, ?hy33⟩) ?rest33
  case' hy33 => (intro w' hSw; (try dsimp only at hSw); go_simp; try with_reducible rfl)
  try simp only [Act.put, List.getElem_toArray, List.getElem_cons_zero, List.getElem_cons_succ, List.setIfInBounds_toArray, List.set_cons_zero, List.set_cons_succ]
  refine' wpAnyF_take (i := 8) (n := 17) (v := _) rfl (by kernel_rfl) (fun _ _ _ h => h) (by assumption) (Or.inl ⟨by rfl, ?hy34⟩) ?rest34
  case' hy34 => (intro w' hSw; (try dsimp only at hSw); go_simp; try with_reducible rfl)
  try simp only [Act.put, List.getElem_toArray, List.getElem_cons_zero, List.getElem_cons_succ, List.setIfInBounds_toArray, List.set_cons_zero, List.set_cons_succ]
  refine' wpAnyF_take (i := 9) (n := 17) (v := _) rfl (by kernel_rfl) (fun _ _ _ h => h) (by assumption) (Or.inl ⟨by rfl, ?hy35⟩) ?rest35
  case' hy35 => (intro w' hSw; (try dsimp only at hSw); go_simp; try with_reducible rfl)
  try simp only [Act.put, List.getElem_toArray, List.getElem_cons_zero, List.getElem_cons_succ, List.setIfInBounds_toArray, List.set_cons_zero, List.set_cons_succ]
  refine' wpAnyF_take (i := 10) (n := 17) (v := _) rfl (by kernel_rfl) (fun _ _ _ h => h) (by assumption) (Or.inl ⟨by rfl, ?hy36⟩) ?rest36
  case' hy36 => (intro w' hSw; (try dsimp only at hSw); go_simp; try with_reducible rfl)
  try simp only [Act.put, List.getElem_toArray, List.getElem_cons_zero, List.getElem_cons_succ, List.setIfInBounds_toArray, List.set_cons_zero, List.set_cons_succ]
  refine' wpAnyF_take (i := 11) (n := 17) (v := _) rfl (by kernel_rfl) (fun _ _ _ h => h) (by assumption) (Or.inl ⟨by rfl, ?hy37⟩) ?rest37
  case' hy37 => (intro w' hSw; (try dsimp only at hSw); go_simp; try with_reducible rfl)
  try simp only [Act.put, List.getElem_toArray, List.getElem_cons_zero, List.getElem_cons_succ, List.setIfInBounds_toArray, List.set_cons_zero, List.set_cons_succ]
  refine' wpAnyF_take (i := 12) (n := 17) (v := _) rfl (by kernel_rfl) (fun _ _ _ h => h) (by assumption) (Or.inl ⟨by rfl, ?hy38⟩) ?rest38
  case' hy38 => (intro w' hSw; (try dsimp only at hSw); go_simp; try with_reducible rfl)
  try simp only [Act.put, List.getElem_toArray, List.getElem_cons_zero, List.getElem_cons_succ, List.setIfInBounds_toArray, List.set_cons_zero, List.set_cons_succ]
  refine' wpAnyF_take (i := 13) (n := 17) (v := _) rfl (by kernel_rfl) (fun _ _ _ h => h) (by assumption) (Or.inl ⟨by rfl, ?hy39⟩) ?rest39
  case' hy39 => (intro w' hSw; (try dsimp only at hSw); go_simp; try with_reducible rfl)
  try simp only [Act.put, List.getElem_toArray, List.getElem_cons_zero, List.getElem_cons_succ, List.setIfInBounds_toArray, List.set_cons_zero, List.set_cons_succ]
  refine' wpAnyF_take (i := 14) (n := 17) (v := _) rfl (by kernel_rfl) (fun _ _ _ h => h) (by assumption) (Or.inl ⟨by rfl, ?hy40⟩) ?rest40
  case' hy40 => (intro w' hSw; (try dsimp only at hSw); go_simp; try with_reducible rfl)
  try simp only [Act.put, List.getElem_toArray, List.getElem_cons_zero, List.getElem_cons_succ, List.setIfInBounds_toArray, List.set_cons_zero, List.set_cons_succ]
  refine wpAnyF_only (i := 15) rfl (by kernel_rfl) (fun K hK => ?_)
  go_simp
  go_at_call 35
  refine (HB.out _).mono ?_
  rintro e w4 ⟨rfl, rfl⟩
  dsimp only
  refine hK.out _ _ (Or.inr (by (try dsimp only); exact hHeld)) ?_
  clear hK K
  try simp only [Act.put, List.getElem_toArray, List.getElem_cons_zero, List.getElem_cons_succ, List.setIfInBounds_toArray, List.set_cons_zero, List.set_cons_succ]
  refine' wpAnyF_take (i := 16) (n := 17) (v := _) rfl (by kernel_rfl) (fun _ _ _ h => h) (by assumption) (Or.inl ⟨by rfl, ?hy41⟩) ?rest41
  case' hy41 => (intro w' hSw; (try dsimp only at hSw); go_simp; try with_reducible rfl)
  try simp only [Act.put, List.getElem_toArray, List.getElem_cons_zero, List.getElem_cons_succ, List.setIfInBounds_toArray, List.set_cons_zero, List.set_cons_succ]
  clear hHeld
  refine wpAnyF_only (i := 17) rfl (by kernel_rfl) (fun K hK => ?_)
  go_simp
  refine hK.out _ _ (Or.inl (by kernel_rfl)) ?_
  clear hK K
  try simp only [Act.put, List.getElem_toArray, List.getElem_cons_zero, List.getElem_cons_succ, List.setIfInBounds_toArray, List.set_cons_zero, List.set_cons_succ]
  refine wpAnyF_done (by kernel_rfl) ?_ _
  go_wp2
  go_ret
  exact ⟨rfl, _, _, by rw [HM'.out]; exact HS.out.step⟩
end Go.Proofs.YthfdkngmdaehiaaDoor
