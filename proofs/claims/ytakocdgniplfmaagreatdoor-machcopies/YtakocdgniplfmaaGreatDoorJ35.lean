import Derived.Test.YtakocdgniplfmaaGreatDoorJ34
import Derived.Deep.RegionHeld3
import Derived.StillTail
import Derived.Tactics

/- MkN -/
namespace Go.Proofs.YtakocdgniplfmaaGreatDoor
open Go.RowKit Go.Extern.Stop Go.Stop Go.Extern Go.Maps Go.WideMaps Go.Sort

/-- What a load leaves but its register, and what comes into it; so for swap, cas, alloc. -/
def Mk.loadM (m : Mk) (n : Int) : Mk := if m.names n = true then m else m.addFault 1
def Mk.loadV (m : Mk) (t : Nat) (n w : Int) : Int := if m.names n = true then m.loaded t n w else 0
def Mk.swapM (m : Mk) (t : Nat) (n w v : Int) : Mk := if m.names n = true then (m.fence t).setWord n w v else m.addFault 1
def Mk.swapV (m : Mk) (t : Nat) (n w : Int) : Int := if m.names n = true then (m.fence t).word n w else 0
def Mk.casM (m : Mk) (t : Nat) (n w old v : Int) : Mk := if m.names n = true then (m.fence t).setWord n w (casV ((m.fence t).word n w) old v) else m.addFault 1
def Mk.allocM (m : Mk) : Mk := match m.mem.ar.free? with
  | none => m
  | some c => m.setMem (m.mem.give c)
def Mk.allocV (m : Mk) : Int := match m.mem.ar.free? with
  | none => 0
  | some c => (m.mem.ar.given c : Int) * 64 + c + 1
theorem Mk.load_eq (m : Mk) (t a : Nat) (n w : Int) : m.load t a n w = (m.loadM n).setReg t a (m.loadV t n w) := by unfold Mk.load Mk.loadM Mk.loadV; split <;> rfl
theorem Mk.swap_eq (m : Mk) (t a : Nat) (n w v : Int) : m.swap t a n w v = (m.swapM t n w v).setReg t a (m.swapV t n w) := by unfold Mk.swap Mk.swapM Mk.swapV; split <;> rfl
theorem Mk.cas_eq (m : Mk) (t b : Nat) (n w old v : Int) : m.cas t b n w old v = (m.casM t n w old v).setReg t b (m.swapV t n w) := by unfold Mk.cas Mk.casM Mk.swapV; split <;> rfl
theorem Mk.alloc_eq (m : Mk) (t a : Nat) : m.alloc t a = (m.allocM).setReg t a m.allocV := by unfold Mk.alloc Mk.allocM Mk.allocV; cases m.mem.ar.free? <;> rfl

theorem Mk.loadM_regs (m : Mk) (n : Int) : (m.loadM n).regs = m.regs := by unfold Mk.loadM; split <;> rfl
theorem Mk.swapM_regs (m : Mk) (t : Nat) (n w v : Int) : (m.swapM t n w v).regs = m.regs := by unfold Mk.swapM; split <;> rfl
theorem Mk.casM_regs (m : Mk) (t : Nat) (n w old v : Int) : (m.casM t n w old v).regs = m.regs := by unfold Mk.casM; split <;> rfl
theorem Mk.allocM_regs (m : Mk) : m.allocM.regs = m.regs := by unfold Mk.allocM; cases m.mem.ar.free? <;> rfl

theorem kload_any {a : Nat → Addr} {cs : List (List Ins)} {p : MkPl} {m : Mk} {w : World} (h : MkAt a cs p m w) {t : Nat} (ht : t < cs.length) (hf : m.faults ≤ 900000000) {n : Int} (hn : Wd n) {wi : Nat} (hw : wi < 4) :
    Calls Tryz.prog 117 #[.pointer (some ⟨p.b, 0, none⟩), .int .i64 t, .int .i64 n, .int .i64 wi] w fun e w' => e = .returned (.int .i64 (m.loadV t n wi)) ∧ MkStep a cs p w p.mv (m.loadM n) w' := by
  unfold Mk.loadV Mk.loadM
  cases hy : m.names n
  · rw [if_neg (by decide), if_neg (by decide)]; exact kload_no h hn hf hy wi
  · rw [if_pos rfl, if_pos rfl]; exact (kload_yes h ht hn hy hw).mono fun e w' ⟨e1, e2⟩ => ⟨e1, MkStep.of_below' h e2⟩

theorem kswap_any {a : Nat → Addr} {cs : List (List Ins)} {p : MkPl} {m : Mk} {w : World} (h : MkAt a cs p m w) {t : Nat} (ht : t < cs.length) (hx : ∀ x ∈ m.mem.waits t, x.Ok) (hf : m.faults ≤ 900000000) {n : Int} (hn : Wd n) {wi : Nat} (hw : wi < 4) {v : Int} (hv : Wd v) :
    Calls Tryz.prog 119 #[.pointer (some ⟨p.b, 0, none⟩), .int .i64 t, .int .i64 n, .int .i64 wi, .int .i64 v] w fun e w' => e = .returned (.int .i64 (m.swapV t n wi)) ∧ MkStep a cs p w p.mv (m.swapM t n wi v) w' := by
  unfold Mk.swapV Mk.swapM
  cases hy : m.names n
  · rw [if_neg (by decide), if_neg (by decide)]; exact kswap_no h hn hf hy wi v
  · rw [if_pos rfl, if_pos rfl]; exact kswap_yes h ht hx hf hn hy hw hv

theorem kcas_any {a : Nat → Addr} {cs : List (List Ins)} {p : MkPl} {m : Mk} {w : World} (h : MkAt a cs p m w) {t : Nat} (ht : t < cs.length) (hx : ∀ x ∈ m.mem.waits t, x.Ok) (hf : m.faults ≤ 900000000) {n : Int} (hn : Wd n) {wi : Nat} (hw : wi < 4) {old v : Int} (ho : Wd old) (hv : Wd v) :
    Calls Tryz.prog 120 #[.pointer (some ⟨p.b, 0, none⟩), .int .i64 t, .int .i64 n, .int .i64 wi, .int .i64 old, .int .i64 v] w fun e w' => e = .returned (.int .i64 (m.swapV t n wi)) ∧ MkStep a cs p w p.mv (m.casM t n wi old v) w' := by
  unfold Mk.swapV Mk.casM
  cases hy : m.names n
  · rw [if_neg (by decide), if_neg (by decide)]; exact kcas_no h hn hf hy wi old v
  · rw [if_pos rfl, if_pos rfl]; exact kcas_yes h ht hx hf hn hy hw ho hv

theorem kfree_any {a : Nat → Addr} {cs : List (List Ins)} {p : MkPl} {m : Mk} {w : World} (h : MkAt a cs p m w) {t : Nat} (ht : t < cs.length) (hx : ∀ x ∈ m.mem.waits t, x.Ok) (hf : m.faults ≤ 900000000) {n : Int} (hn : Wd n) :
    Calls Tryz.prog 122 #[.pointer (some ⟨p.b, 0, none⟩), .int .i64 t, .int .i64 n] w fun e w' => e = .returned (.tuple #[]) ∧ MkStep a cs p w p.mv (m.free t n) w' := by
  unfold Mk.free
  cases hy : m.names n
  · rw [if_neg (by decide)]; exact kfree_no h hn hf hy
  · rw [if_pos rfl]; exact kfree_yes h ht hx hf hn hy

theorem kalloc_any {a : Nat → Addr} {cs : List (List Ins)} {p : MkPl} {m : Mk} {w : World} (h : MkAt a cs p m w) {t : Nat} (ht : t < cs.length) (hg : ∀ c, m.mem.ar.given c ≤ 60000000) :
    Calls Tryz.prog 121 #[.pointer (some ⟨p.b, 0, none⟩), .int .i64 t] w fun e w' => e = .returned (.int .i64 m.allocV) ∧ MkStep a cs p w p.mv m.allocM w' := by
  unfold Mk.allocV Mk.allocM
  cases hf : m.mem.ar.free? with
  | none => exact (kalloc_none h ht hf).mono fun e w' ⟨e1, e2⟩ => ⟨e1, MkStep.of_below' h e2⟩
  | some c => exact kalloc_some h ht hf (hg c)

/-- The box of an instruction. -/
theorem insX (w : World) (x : Ins) : (w.alloc (.cells #[.string x.op, .int .i64 x.a, .int .i64 x.b, .int .i64 x.c, .string x.to] 75)).cell? ⟨w.heap.size, 0, none⟩ = some (.string x.op) ∧
    (w.alloc (.cells #[.string x.op, .int .i64 x.a, .int .i64 x.b, .int .i64 x.c, .string x.to] 75)).cell? ⟨w.heap.size, 1, none⟩ = some (.int .i64 x.a) ∧
    (w.alloc (.cells #[.string x.op, .int .i64 x.a, .int .i64 x.b, .int .i64 x.c, .string x.to] 75)).cell? ⟨w.heap.size, 2, none⟩ = some (.int .i64 x.b) ∧
    (w.alloc (.cells #[.string x.op, .int .i64 x.a, .int .i64 x.b, .int .i64 x.c, .string x.to] 75)).cell? ⟨w.heap.size, 3, none⟩ = some (.int .i64 x.c) ∧
    (w.alloc (.cells #[.string x.op, .int .i64 x.a, .int .i64 x.b, .int .i64 x.c, .string x.to] 75)).cell? ⟨w.heap.size, 4, none⟩ = some (.string x.to) := ⟨by simp, by simp, by simp, by simp, by simp⟩

/-- What an instruction's walk begins with. -/
structure DoX (a : Nat → Addr) (cs : List (List Ins)) (p : MkPl) (m : Mk) (K t : Nat) (w : World) : Prop where
  at' : MkAt a cs p m w
  ok : MkOk cs.length K m
  ht : t < cs.length
  hK : K ≤ 10000000
theorem DoX.waits {a : Nat → Addr} {cs : List (List Ins)} {p : MkPl} {m : Mk} {K t : Nat} {w : World} (h : DoX a cs p m K t w) : ∀ x ∈ m.mem.waits t, x.Ok := h.ok.mem.ok t (by rw [h.ok.thr]; exact h.ht)
theorem DoX.faults {a : Nat → Addr} {cs : List (List Ins)} {p : MkPl} {m : Mk} {K t : Nat} {w : World} (h : DoX a cs p m K t w) : m.faults ≤ 900000000 := by have := h.ok.faults; have := h.hK; omega
theorem DoX.given {a : Nat → Addr} {cs : List (List Ins)} {p : MkPl} {m : Mk} {K t : Nat} {w : World} (h : DoX a cs p m K t w) : ∀ c, m.mem.ar.given c ≤ 60000000 := fun c => by have := h.ok.mem.given c; have := h.hK; omega
theorem DoX.t6 {a : Nat → Addr} {cs : List (List Ins)} {p : MkPl} {m : Mk} {K t : Nat} {w : World} (h : DoX a cs p m K t w) : t < 6 := Nat.lt_of_lt_of_le h.ht h.at'.few
theorem DoX.below {a : Nat → Addr} {cs : List (List Ins)} {p : MkPl} {m : Mk} {K t : Nat} {w w' : World} (h : DoX a cs p m K t w) (hb : Below w.heap.size w w') : DoX a cs p m K t w' := ⟨h.at'.below hb, h.ok, h.ht, h.hK⟩

/-- Behind a call: the box and the register that is written still lie there. -/
theorem after_call {a : Nat → Addr} {cs : List (List Ins)} {p : MkPl} {m m1 : Mk} {w0 w w' : World} (h0 : MkAt a cs p m w0) {o : Nat} {u : Value} (hc : w.cell? ⟨w0.heap.size, o, none⟩ = some u) (hb : Below w0.heap.size w0 w) (k : MkStep a cs p w p.mv m1 w') {t i : Nat} (ht : t < 6) (hi : i < 8) :
    w'.cell? ⟨w0.heap.size, o, none⟩ = some u ∧ w'.cell? ⟨p.b, 585 + t * 9 + i, none⟩ = some (.int .i64 (m1.regs t i)) ∧ w'.frozen? ⟨p.b, 585 + t * 9 + i, none⟩ = false ∧ Hid (MkStep a cs p w0 p.mv m1 w') :=
  ⟨k.keep hc (fun e => by have := h0.fp_lt e; omega), k.at'.reg t i ht hi, k.at'.frozen _ (by omega) (by omega), MkStep.of_below hb k⟩
end Go.Proofs.YtakocdgniplfmaaGreatDoor

/- RegF -/
namespace Go.Proofs.YtakocdgniplfmaaGreatDoor
open Go

section
variable {P : Program} {ops : Array Oper} {Q : Exit → Act → World → Prop} {md : Region.Mode} {S : World → Prop}

/-- Has every operation come up? -/
def allL (l : Array Bool) : Bool := l.toList.all fun b => b
theorem allL_get {l : Array Bool} (h : allL l = true) (k : Nat) : l.getD k true = true := by
  rcases Nat.lt_or_ge k l.size with h' | h'
  · have := List.all_eq_true.1 h (l[k]) (by simp)
    simp only [Array.getD_eq_getD_getElem?, Array.getElem?_eq_getElem h', Option.getD_some]
    exact this
  · simp [Array.getElem?_eq_none h']

/-- Nothing came up ahead of what it waits for. -/
def shutB (md : Region.Mode) (ops : Array Oper) (listed : Array Bool) : Bool :=
  (List.range ops.size).all fun k => (List.range ops.size).all fun i => !(Region.waitsFor md ops k i) || !(listed.getD k true) || listed.getD i false
structure ShutL (md : Region.Mode) (ops : Array Oper) (listed : Array Bool) : Prop where
  out : ∀ k i, k < ops.size → i < ops.size → Region.waitsFor md ops k i = true → listed.getD k true = true → listed.getD i false = true
theorem shutB_out {listed : Array Bool} (h : shutB md ops listed = true) : ShutL md ops listed := ⟨fun k i hk hi hw hl => by
  have := List.all_eq_true.1 (List.all_eq_true.1 h k (List.mem_range.2 hk)) i (List.mem_range.2 hi)
  rw [hw, hl] at this
  simpa using this⟩
theorem getD_set_self {listed : Array Bool} {j k : Nat} (h : (listed.setIfInBounds j true).getD k true = true) (hne : j ≠ k) : listed.getD k true = true := by
  rwa [getD_set_ne true hne] at h
theorem ShutL.set {listed : Array Bool} {j : Nat} (h : ShutL md ops listed) (hj : j ∈ Region.ready md ops listed) : ShutL md ops (listed.setIfInBounds j true) := ⟨fun k i hk hi hw hl => by
  by_cases e : j = k
  · subst e
    obtain ⟨-, o, ho, hall⟩ := mem_ready.1 hj
    obtain ⟨o', ho', e, he, hb, hon⟩ := Region.waitsFor_spec hw
    obtain rfl : o' = o := Option.some.inj (ho'.symm.trans ho)
    have := hall e he hb
    rw [hon] at this
    exact getD_set_true this
  · exact getD_set_true (h.out k i hk hi hw (getD_set_self hl e))⟩

/-- Whatever order is picked from here on; and S holds behind every operation that is not the last. -/
def wpAnyF (P : Program) (md : Region.Mode) (ops : Array Oper) (Q : Exit → Act → World → Prop) (S : World → Prop) : Nat → Array Bool → Act → World → Prop
  | 0, listed, a, w => Region.ready md ops listed = [] ∧ Q .normal a w
  | fuel + 1, listed, a, w =>
    (Region.ready md ops listed = [] → Q .normal a w) ∧
    ∀ i ∈ Region.ready md ops listed, wpOp P ops Q i (fun a' w' => (allL (listed.setIfInBounds i true) = true ∨ S w') ∧ wpAnyF P md ops Q S fuel (listed.setIfInBounds i true) a' w') a w

theorem wpAny_of_F : ∀ (fuel : Nat) (listed : Array Bool) (a : Act) (w : World), wpAnyF P md ops Q S fuel listed a w → wpAny P md ops Q fuel listed a w
  | 0, _, _, _, h => h
  | fuel + 1, _, _, _, h => ⟨h.1, fun i hi => wpOp_mono (fun a' w' h' => wpAny_of_F fuel _ a' w' h'.2) (h.2 i hi)⟩

theorem wpAnyF_first {i n : Nat} {oi : Oper} {v : Value} (hi : ops[i]? = some oi) (hsel : ∀ (j : Nat) (o : Oper) cs b, ops[j]? = some o → o.op ≠ .select cs b)
    (hQ : ∀ c a w, Q (.panic c) (a.put oi.dst v) w → Q (.panic c) a w) (hs : Region.sinkB md ops n = true) (hin : i < n) (hn : n < ops.size) :
    ∀ (fuel : Nat) (listed : Array Bool) (a : Act) (w : World), ShutL md ops listed → listed.size = ops.size →
      (∀ j oj, ops[j]? = some oj → j ≠ i → listed.getD j true = false → (∀ e ∈ oj.after, Region.binds md e = true → e.on ≠ i) → oi.apart ops oj = true) →
      i ∈ Region.ready md ops listed → YieldsIf P ops S oi v a → S w →
      wpAnyF P md ops Q S fuel (listed.setIfInBounds i true) (a.put oi.dst v) w → wpAnyF P md ops Q S (fuel + 1) listed a w := by
  intro fuel
  induction fuel with
  | zero =>
    intro listed a w _ _ _ hr hy hS H
    refine ⟨fun h => (by rw [h] at hr; cases hr), fun j hj => ?_⟩
    by_cases hji : j = i
    · subst hji; exact hy.wpOp hi hS ⟨.inr hS, H⟩
    · have := ready_mono hj hji
      rw [H.1] at this
      cases this
  | succ fuel ih =>
    intro listed a w hsh hsz hfree hr hy hS H
    refine ⟨fun h => (by rw [h] at hr; cases hr), fun j hj => ?_⟩
    by_cases hji : j = i
    · subst hji; exact hy.wpOp hi hS ⟨.inr hS, H⟩
    · have h1 := H.2 j (ready_mono hj hji)
      obtain ⟨hjun, oj, hoj, hall⟩ := mem_ready.1 hj
      have hiun := (mem_ready.1 hr).1
      have hiun' : listed.getD i false = false := getD_both hiun
      have hnot : ∀ e ∈ oj.after, Region.binds md e = true → e.on ≠ i := fun e he hb heq => by
        have h1 := hall e he hb
        rw [heq, hiun'] at h1
        cases h1
      have h2 := wpOp_putIf hoj (hfree j oj hoj hji hjun hnot) (fun cs b => hsel i oi cs b hi) (fun cs b => hsel j oj cs b hoj) hQ hy h1
      have hfree' : ∀ k ok, ops[k]? = some ok → k ≠ i → (listed.setIfInBounds j true).getD k true = false →
          (∀ e ∈ ok.after, Region.binds md e = true → e.on ≠ i) → oi.apart ops ok = true := fun k ok hk hki hun hno => by
        refine hfree k ok hk hki ?_ hno
        by_cases hjk : j = k
        · subst hjk; exact hjun
        · rw [getD_set_ne true hjk] at hun; exact hun
      have hri : i ∈ Region.ready md ops (listed.setIfInBounds j true) := ready_mono hr (Ne.symm hji)
      -- somebody waits for i: so j is not the last one
      have hlast : allL ((listed.setIfInBounds i true).setIfInBounds j true) = true → False := fun hall' => by
        have h3 := List.all_eq_true.1 hs i (List.mem_range.2 hin)
        obtain ⟨k, hk, hk2⟩ := List.any_eq_true.1 h3
        simp only [Bool.and_eq_true, decide_eq_true_eq] at hk2
        have hkn : k < ops.size := by have := List.mem_range.1 hk; omega
        have hin' : i < ops.size := by omega
        have hjk : j ≠ k := fun e => by
          subst e
          obtain ⟨o', ho', e, he, hb, hon⟩ := Region.waitsFor_spec hk2.2
          obtain rfl : o' = oj := Option.some.inj (ho'.symm.trans hoj)
          exact hnot e he hb hon
        have hik : i ≠ k := by omega
        have h4 := allL_get hall' k
        rw [getD_set_ne true hjk, getD_set_ne true hik] at h4
        have h5 := hsh.out k i hkn hin' hk2.2 h4
        rw [hiun'] at h5
        cases h5
      refine wpOp_mono (fun a' w' h3 => ?_) h2
      have hS' : S w' := h3.2.1.resolve_left (fun e => hlast e)
      refine ⟨.inr hS', ih (listed.setIfInBounds j true) a' w' (hsh.set hj) (by simp [hsz]) hfree' hri h3.1 hS' ?_⟩
      rw [Array.setIfInBounds_comm _ _ hji]
      exact h3.2.2

/-- Take number i first. -/
theorem wpAnyF_take {i n : Nat} {oi : Oper} {v : Value} {fuel : Nat} {listed : Array Bool} {a : Act} {w : World} (hi : ops[i]? = some oi)
    (hB : (Region.noSelect ops && Region.free md ops listed i && (Region.ready md ops listed).contains i && Region.sinkB md ops n && decide (i < n) && decide (n < ops.size) && shutB md ops listed && decide (listed.size = ops.size)) = true)
    (hQ : ∀ c a w, Q (.panic c) (a.put oi.dst v) w → Q (.panic c) a w) (hS : S w) (hy : YieldsIf P ops S oi v a)
    (h : wpAnyF P md ops Q S fuel (listed.setIfInBounds i true) (a.put oi.dst v) w) : wpAnyF P md ops Q S (fuel + 1) listed a w := by
  simp only [Bool.and_eq_true, decide_eq_true_eq] at hB
  obtain ⟨⟨⟨⟨⟨⟨⟨hs, hf⟩, hr⟩, hk⟩, hin⟩, hn⟩, hsh⟩, hsz⟩ := hB
  exact wpAnyF_first hi (Region.noSelect_spec hs) hQ hk hin hn fuel listed a w (shutB_out hsh) hsz (Region.free_spec hi hf) (by simpa using hr) hy hS h

/-- One operation alone may come up. -/
theorem wpAnyF_only {i : Nat} {o : Oper} {fuel : Nat} {listed : Array Bool} {a : Act} {w : World} (ho : ops[i]? = some o) (hr : Region.ready md ops listed = [i])
    (h : ∀ K' : Act → World → Prop, Shut (∀ a w, (allL (listed.setIfInBounds i true) = true ∨ S w) → wpAnyF P md ops Q S fuel (listed.setIfInBounds i true) a w → K' a w) → if Region.wanted o (yielded ops a.tmps) = true then Oper.wp P o a w K' Q else K' (a.put o.dst undef) w) : wpAnyF P md ops Q S (fuel + 1) listed a w := by
  refine ⟨fun h0 => (by rw [hr] at h0; cases h0), fun j hj => ?_⟩
  rw [hr] at hj
  obtain rfl : j = i := by simpa using hj
  exact wpOp_step ho (fun K' hK => h K' (fun a w hS hW => hK a w ⟨hS, hW⟩))

theorem wpAnyF_done {listed : Array Bool} {a : Act} {w : World} (hr : Region.ready md ops listed = []) (h : Q .normal a w) :
    ∀ fuel, wpAnyF P md ops Q S fuel listed a w
  | 0 => ⟨hr, h⟩
  | _ + 1 => ⟨fun _ => h, by rw [hr]; simp⟩

theorem wp_region_F {id : Nat} {a : Act} {w : World} (hm : P.follows .mixedOrders = true) (hS : S w.drew)
    (h : S w.drew → wpAnyF P .any ops Q S ops.size (Array.replicate ops.size false) a w.drew) : (Code.region id ops true).wp P Q a w :=
  wp_region_any hm (wpAny_of_F _ _ _ _ (h hS))
end
end Go.Proofs.YtakocdgniplfmaaGreatDoor
