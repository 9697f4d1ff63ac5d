import Derived.Test.YtaiigfcfmcicjaaGreatDoorF02
import Derived.Maps.Views
import Derived.Test.YtaiigfcfmcicjaaGreatDoorF08
import Derived.Maps.Own
import Derived.Maps.OwnOps
import Derived.Maps.OwnSet
import Derived.StringKeys
import Derived.Lib.LaidTab
import Derived.Test.YtaiigfcfmcicjaaGreatDoorF03
import Derived.Deep.RegionHeld3
import Derived.StillTail
import Derived.Tactics
namespace Go.Proofs.YtaiigfcfmcicjaaGreatDoor
set_option maxRecDepth 100000
set_option maxHeartbeats 8000000
section
open Go.RowKit Go.Extern.Stop Go.Stop Go.Extern Go.Maps Go.WideMaps
abbrev xerr (a : Addr) : Value := .iface 227 (.pointer (some a))
def xval (a : Nat -> Addr) : Nat -> Value
 | 0 => .nilIface
 | k + 1 => xerr (a k)
def errIs (a : Nat -> Addr) (f : Nat × Int) (v : Value) (w : World) (B : Nat) : Prop :=
 (f.1 = 0 /\ v = .nilIface) ∨ (f.1 ≠ 0 /\ f.2 = -1 /\ v = xval a f.1) ∨
 (f.1 ≠ 0 /\ ∃ j N : Nat, f.2 = j /\ B <= N /\ v = .iface 105 (.pointer (some ⟨N, 0, none⟩)) /\ w.cell? ⟨N, 0, none⟩ = some (.int .i64 j) /\ w.cell? ⟨N, 1, none⟩ = some (xval a f.1))
end
section
open Go.RowKit Go.Extern.Stop Go.Stop Go.Extern
def Worded (c g : Int) : Prop := 0 <= c /\ c < 64 /\ 0 <= g /\ g * 64 + c + 1 < 4294967296
theorem word_ok (c g : Int) (w : World) (h : Worded c g) :
  Calls Tryz.prog 54 #[.agg #[.int .i64 c, .int .i64 g]] w fun e w' => e = .returned (.tuple #[.int .i64 (g * 64 + c + 1), .nilIface]) /\ Below w.heap.size w w' := by
 obtain ⟨h0, h1, h2, h3⟩ := h
 have h4 : ¬ ((4294967294 - c) / 64 < g) := by omega
 have hg : g <= 67108863 := by omega
 have hba := box_below c g w
 clear h3
 go_enter Tryz.func54, Tryz.ntmps54
 go_wp2
 go_ret2
 exact ⟨rfl, hba⟩
theorem wordOf_ok (c g : Int) (w : World) (h : Worded c g) :
  Calls Tryz.prog 76 #[.agg #[.int .i64 c, .int .i64 g]] w fun e w' => e = .returned (.tuple #[.int .i64 (g * 64 + c + 1), .int .i64 0]) /\ Below w.heap.size w w' := by
 have HI : Hid (∀ w, Calls Tryz.prog 45 #[.int .i64 (g * 64 + c + 1)] w fun e w' => e = .returned (.bool true) /\ w' = w) := fun w => (isWordR_any _ w).mono fun _ _ ⟨h1, h2⟩ => ⟨by rw [h1, decide_eq_true (by unfold Worded at h; omega)], h2⟩
 obtain ⟨h0, h1, h2, h3⟩ := h
 have hg : g <= 67108863 := by omega
 have hba := box_below c g w
 clear h3
 go_enter Tryz.func76, Tryz.ntmps76
 go_wp2_with fail
 refine (HI.out _).mono ?_
 rintro e1 w1 ⟨rfl, rfl⟩
 go_wp2
 go_ret2
 exact ⟨rfl, hba⟩
theorem refOf_zero (w : World) :
  Calls Tryz.prog 21 #[.int .i64 0] w fun e w' => e = .returned (.tuple #[.agg #[.int .i64 0, .int .i64 0], .int .i64 5]) /\ Below w.heap.size w w' := by
 obtain ⟨z0, z1⟩ := box2c w 50 (.int .i64 0) (.int .i64 0)
 have y0 : (w.alloc (.cells #[.int .i64 0, .int .i64 0] 50)).frozen? ⟨w.heap.size, 0, none⟩ = false := by simp
 have y1 : (w.alloc (.cells #[.int .i64 0, .int .i64 0] 50)).frozen? ⟨w.heap.size, 1, none⟩ = false := by simp
 have hba := box_below 0 0 w
 generalize hw : w.alloc (.cells #[.int .i64 0, .int .i64 0] 50) = w1 at *
 go_enter Tryz.func21, Tryz.ntmps21
 go_wp2
 refine bodyPost_ret (v := .tuple #[.agg #[.int .i64 0, .int .i64 0], .int .i64 5]) (by simp only [results, Tryz.results21]; go_simp) rfl ⟨rfl, ?_⟩
 exact ((hba.setCell nL _).setCell nL _)
theorem refOf_ok (n : Int) (w : World) (h1 : 1 <= n) (h2 : n < 4294967296) :
  Calls Tryz.prog 21 #[.int .i64 n] w fun e w' => e = .returned (.tuple #[.agg #[.int .i64 ((n - 1) % 64), .int .i64 ((n - 1) / 64)], .int .i64 0]) /\ Below w.heap.size w w' := by
 have HI : Hid (∀ w, Calls Tryz.prog 45 #[.int .i64 n] w fun e w' => e = .returned (.bool true) /\ w' = w) := fun w => (isWordR_any _ w).mono fun _ _ ⟨h3, h4⟩ => ⟨by rw [h3, decide_eq_true (by omega)], h4⟩
 have hb : (n == 0) = false := beq_eq_false_iff_ne.2 (by omega)
 obtain ⟨z0, z1⟩ := box2c w 50 (.int .i64 0) (.int .i64 0)
 have y0 : (w.alloc (.cells #[.int .i64 0, .int .i64 0] 50)).frozen? ⟨w.heap.size, 0, none⟩ = false := by simp
 have y1 : (w.alloc (.cells #[.int .i64 0, .int .i64 0] 50)).frozen? ⟨w.heap.size, 1, none⟩ = false := by simp
 have hba := box_below 0 0 w
 generalize hw : w.alloc (.cells #[.int .i64 0, .int .i64 0] 50) = w1 at *
 go_enter Tryz.func21, Tryz.ntmps21
 go_wp2_with fail
 refine (HI.out _).mono ?_
 rintro e1 w2 ⟨rfl, rfl⟩
 go_wp2
 refine bodyPost_ret (v := .tuple #[.agg #[.int .i64 ((n - 1) % 64), .int .i64 ((n - 1) / 64)], .int .i64 0]) (by simp only [results, Tryz.results21]; go_simp) rfl ⟨rfl, ?_⟩
 exact (hba.setCell nL _).setCell nL _
end
section
open Go
section
variable {P : Program} {ops : Array Oper} {Q : Exit -> Act -> World -> Prop} {md : Region.Mode} {S : World -> Prop}
def allL (l : Array Bool) : Bool := l.toList.all fun b => b
theorem allL_get {l : Array Bool} (h : allL l = true) (k : Nat) : l.getD k true = true := by
 rcases Nat.lt_or_ge k l.size with h' | h'
 ·have := List.all_eq_true.1 h (l[k]) (by simp)
  simp only [Array.getD_eq_getD_getElem?, Array.getElem?_eq_getElem h', Option.getD_some]
  exact this
 ·simp [Array.getElem?_eq_none h']
def shutB (md : Region.Mode) (ops : Array Oper) (listed : Array Bool) : Bool :=
 (List.range ops.size).all fun k => (List.range ops.size).all fun i => !(Region.waitsFor md ops k i) || !(listed.getD k true) || listed.getD i false
structure ShutL (md : Region.Mode) (ops : Array Oper) (listed : Array Bool) : Prop where
 out : ∀ k i, k < ops.size -> i < ops.size -> Region.waitsFor md ops k i = true -> listed.getD k true = true -> listed.getD i false = true
theorem shutB_out {listed : Array Bool} (h : shutB md ops listed = true) : ShutL md ops listed := ⟨fun k i hk hi hw hl => by
 have := List.all_eq_true.1 (List.all_eq_true.1 h k (List.mem_range.2 hk)) i (List.mem_range.2 hi)
 rw [hw, hl] at this
 simpa using this⟩
theorem getD_set_self {listed : Array Bool} {j k : Nat} (h : (listed.setIfInBounds j true).getD k true = true) (hne : j ≠ k) : listed.getD k true = true := by
 rwa [getD_set_ne true hne] at h
theorem ShutL.set {listed : Array Bool} {j : Nat} (h : ShutL md ops listed) (hj : j ∈ Region.ready md ops listed) : ShutL md ops (listed.setIfInBounds j true) := ⟨fun k i hk hi hw hl => by
 by_cases e : j = k
 ·subst e
  obtain ⟨-, o, ho, hall⟩ := mem_ready.1 hj
  obtain ⟨o', ho', e, he, hb, hon⟩ := Region.waitsFor_spec hw
  obtain rfl : o' = o := Option.some.inj (ho'.symm.trans ho)
  have := hall e he hb
  rw [hon] at this
  exact getD_set_true this
 ·exact getD_set_true (h.out k i hk hi hw (getD_set_self hl e))⟩
def wpAnyF (P : Program) (md : Region.Mode) (ops : Array Oper) (Q : Exit -> Act -> World -> Prop) (S : World -> Prop) : Nat -> Array Bool -> Act -> World -> Prop
 | 0, listed, a, w => Region.ready md ops listed = [] /\ Q .normal a w
 | fuel + 1, listed, a, w =>
  (Region.ready md ops listed = [] -> Q .normal a w) /\
  ∀ i ∈ Region.ready md ops listed, wpOp P ops Q i (fun a' w' => (allL (listed.setIfInBounds i true) = true ∨ S w') /\ wpAnyF P md ops Q S fuel (listed.setIfInBounds i true) a' w') a w
theorem wpAny_of_F : ∀ (fuel : Nat) (listed : Array Bool) (a : Act) (w : World), wpAnyF P md ops Q S fuel listed a w -> wpAny P md ops Q fuel listed a w
 | 0, _, _, _, h => h
 | fuel + 1, _, _, _, h => ⟨h.1, fun i hi => wpOp_mono (fun a' w' h' => wpAny_of_F fuel _ a' w' h'.2) (h.2 i hi)⟩
theorem wpAnyF_first {i n : Nat} {oi : Oper} {v : Value} (hi : ops[i]? = some oi) (hsel : ∀ (j : Nat) (o : Oper) cs b, ops[j]? = some o -> o.op ≠ .select cs b)
  (hQ : ∀ c a w, Q (.panic c) (a.put oi.dst v) w -> Q (.panic c) a w) (hs : Region.sinkB md ops n = true) (hin : i < n) (hn : n < ops.size) :
  ∀ (fuel : Nat) (listed : Array Bool) (a : Act) (w : World), ShutL md ops listed -> listed.size = ops.size ->
   (∀ j oj, ops[j]? = some oj -> j ≠ i -> listed.getD j true = false -> (∀ e ∈ oj.after, Region.binds md e = true -> e.on ≠ i) -> oi.apart ops oj = true) ->
   i ∈ Region.ready md ops listed -> YieldsIf P ops S oi v a -> S w ->
   wpAnyF P md ops Q S fuel (listed.setIfInBounds i true) (a.put oi.dst v) w -> wpAnyF P md ops Q S (fuel + 1) listed a w := by
 intro fuel
 induction fuel with
 | zero =>
  intro listed a w _ _ _ hr hy hS H
  refine ⟨fun h => (by rw [h] at hr; cases hr), fun j hj => ?_⟩
  by_cases hji : j = i
  ·subst hji; exact hy.wpOp hi hS ⟨.inr hS, H⟩
  ·have := ready_mono hj hji
   rw [H.1] at this
   cases this
 | succ fuel ih =>
  intro listed a w hsh hsz hfree hr hy hS H
  refine ⟨fun h => (by rw [h] at hr; cases hr), fun j hj => ?_⟩
  by_cases hji : j = i
  ·subst hji; exact hy.wpOp hi hS ⟨.inr hS, H⟩
  ·have h1 := H.2 j (ready_mono hj hji)
   obtain ⟨hjun, oj, hoj, hall⟩ := mem_ready.1 hj
   have hiun := (mem_ready.1 hr).1
   have hiun' : listed.getD i false = false := getD_both hiun
   have hnot : ∀ e ∈ oj.after, Region.binds md e = true -> e.on ≠ i := fun e he hb heq => by
    have h1 := hall e he hb
    rw [heq, hiun'] at h1
    cases h1
   have h2 := wpOp_putIf hoj (hfree j oj hoj hji hjun hnot) (fun cs b => hsel i oi cs b hi) (fun cs b => hsel j oj cs b hoj) hQ hy h1
   have hfree' : ∀ k ok, ops[k]? = some ok -> k ≠ i -> (listed.setIfInBounds j true).getD k true = false ->
     (∀ e ∈ ok.after, Region.binds md e = true -> e.on ≠ i) -> oi.apart ops ok = true := fun k ok hk hki hun hno => by
    refine hfree k ok hk hki ?_ hno
    by_cases hjk : j = k
    ·subst hjk; exact hjun
    ·rw [getD_set_ne true hjk] at hun; exact hun
   have hri : i ∈ Region.ready md ops (listed.setIfInBounds j true) := ready_mono hr (Ne.symm hji)
   -- somebody waits for i: so j is not the last one
   have hlast : allL ((listed.setIfInBounds i true).setIfInBounds j true) = true -> False := fun hall' => by
    have h3 := List.all_eq_true.1 hs i (List.mem_range.2 hin)
    obtain ⟨k, hk, hk2⟩ := List.any_eq_true.1 h3
    simp only [Bool.and_eq_true, decide_eq_true_eq] at hk2
    have hkn : k < ops.size := by have := List.mem_range.1 hk; omega
    have hin' : i < ops.size := by omega
    have hjk : j ≠ k := fun e => by
     subst e
     obtain ⟨o', ho', e, he, hb, hon⟩ := Region.waitsFor_spec hk2.2
     obtain rfl : o' = oj := Option.some.inj (ho'.symm.trans hoj)
     exact hnot e he hb hon
    have hik : i ≠ k := by omega
    have h4 := allL_get hall' k
    rw [getD_set_ne true hjk, getD_set_ne true hik] at h4
    have h5 := hsh.out k i hkn hin' hk2.2 h4
    rw [hiun'] at h5
    cases h5
   refine wpOp_mono (fun a' w' h3 => ?_) h2
   have hS' : S w' := h3.2.1.resolve_left (fun e => hlast e)
   refine ⟨.inr hS', ih (listed.setIfInBounds j true) a' w' (hsh.set hj) (by simp [hsz]) hfree' hri h3.1 hS' ?_⟩
   rw [Array.setIfInBounds_comm _ _ hji]
   exact h3.2.2
theorem wpAnyF_take {i n : Nat} {oi : Oper} {v : Value} {fuel : Nat} {listed : Array Bool} {a : Act} {w : World} (hi : ops[i]? = some oi)
  (hB : (Region.noSelect ops && Region.free md ops listed i && (Region.ready md ops listed).contains i && Region.sinkB md ops n && decide (i < n) && decide (n < ops.size) && shutB md ops listed && decide (listed.size = ops.size)) = true)
  (hQ : ∀ c a w, Q (.panic c) (a.put oi.dst v) w -> Q (.panic c) a w) (hS : S w) (hy : YieldsIf P ops S oi v a)
  (h : wpAnyF P md ops Q S fuel (listed.setIfInBounds i true) (a.put oi.dst v) w) : wpAnyF P md ops Q S (fuel + 1) listed a w := by
 simp only [Bool.and_eq_true, decide_eq_true_eq] at hB
 obtain ⟨⟨⟨⟨⟨⟨⟨hs, hf⟩, hr⟩, hk⟩, hin⟩, hn⟩, hsh⟩, hsz⟩ := hB
 exact wpAnyF_first hi (Region.noSelect_spec hs) hQ hk hin hn fuel listed a w (shutB_out hsh) hsz (Region.free_spec hi hf) (by simpa using hr) hy hS h
theorem wpAnyF_next {n sz : Nat} {oi : Oper} {v : Value} {fuel : Nat} {listed : Array Bool} {a : Act} {w : World} (hi : ops[sz - (fuel + 1)]? = some oi)
  (hB : (Region.noSelect ops && Region.free md ops listed (sz - (fuel + 1)) && (Region.ready md ops listed).contains (sz - (fuel + 1)) && Region.sinkB md ops n && decide (sz - (fuel + 1) < n) && decide (n < ops.size) && shutB md ops listed && decide (listed.size = ops.size)) = true)
  (hQ : ∀ c a w, Q (.panic c) (a.put oi.dst v) w -> Q (.panic c) a w) (hS : S w) (hy : YieldsIf P ops S oi v a)
  (h : wpAnyF P md ops Q S fuel (listed.setIfInBounds (sz - (fuel + 1)) true) (a.put oi.dst v) w) : wpAnyF P md ops Q S (fuel + 1) listed a w := wpAnyF_take hi hB hQ hS hy h
theorem wpAnyF_only {i : Nat} {o : Oper} {fuel : Nat} {listed : Array Bool} {a : Act} {w : World} (ho : ops[i]? = some o) (hr : Region.ready md ops listed = [i])
  (h : ∀ K' : Act -> World -> Prop, Shut (∀ a w, (allL (listed.setIfInBounds i true) = true ∨ S w) -> wpAnyF P md ops Q S fuel (listed.setIfInBounds i true) a w -> K' a w) -> if Region.wanted o (yielded ops a.tmps) = true then Oper.wp P o a w K' Q else K' (a.put o.dst undef) w) : wpAnyF P md ops Q S (fuel + 1) listed a w := by
 refine ⟨fun h0 => (by rw [hr] at h0; cases h0), fun j hj => ?_⟩
 rw [hr] at hj
 obtain rfl : j = i := by simpa using hj
 exact wpOp_step ho (fun K' hK => h K' (fun a w hS hW => hK a w ⟨hS, hW⟩))
theorem wpAnyF_done {listed : Array Bool} {a : Act} {w : World} (hr : Region.ready md ops listed = []) (h : Q .normal a w) :
  ∀ fuel, wpAnyF P md ops Q S fuel listed a w
 | 0 => ⟨hr, h⟩
 | _ + 1 => ⟨fun _ => h, by rw [hr]; simp⟩
theorem wp_region_F {id : Nat} {a : Act} {w : World} (hm : P.follows .mixedOrders = true) (hS : S w.drew)
  (h : S w.drew -> wpAnyF P .any ops Q S ops.size (Array.replicate ops.size false) a w.drew) : (Code.region id ops true).wp P Q a w :=
 wp_region_any hm (wpAny_of_F _ _ _ _ (h hS))
end
theorem fxs {α : Type} : (∀ (l : List α) (i : Nat) (h : i < l.toArray.size), l.toArray[i] = l[i]'(by simpa using h)) /\ (∀ (a : α) (l : List α) (h : 0 < (a :: l).length), (a :: l)[0] = a) /\ (∀ (a : α) (l : List α) (i : Nat) (h : i + 1 < (a :: l).length), (a :: l)[i + 1] = l[i]'(Nat.lt_of_succ_lt_succ h)) /\ (∀ (l : List α) (i : Nat) (a : α), l.toArray.setIfInBounds i a = (l.set i a).toArray) /\ (∀ (a b : α) (l : List α), (a :: l).set 0 b = b :: l) /\ (∀ (a b : α) (l : List α) (n : Nat), (a :: l).set (n + 1) b = a :: l.set n b) := ⟨fun _ _ _ => List.getElem_toArray .., fun _ _ _ => rfl, fun _ _ _ _ => rfl, fun _ _ _ => List.setIfInBounds_toArray .., fun _ _ _ => rfl, fun _ _ _ _ => rfl⟩
end
end Go.Proofs.YtaiigfcfmcicjaaGreatDoor
