import Derived.Test.YtaiigfcfmcicjaaGreatDoorProg
import Derived.Test.YtaiigfcfmcicjaaGreatDoorRows
import Derived.Test.YtaiigfcfmcicjaaGreatDoorCards
import Derived.ProofKit
import Derived.LaidMore
import Derived.LaidSub
import Derived.Lay
import Derived.MakeChecks
import Derived.OpenShut
import Derived.Stop.Joined
import Derived.Stop.LaidErr
import Derived.LaidHandle
import Derived.HandedShaped
import Derived.Deep.Slices
import Derived.Lib.SmallJoins
import Derived.Lib.LaidTab
import Derived.WalkKit
import Derived.Below
import Derived.Lib.Split
import Derived.Lib.IndexBytes
import Derived.Lib.Join
import Derived.Lib.ItoaNum
import Derived.Lib.Atoi
import Derived.WideShapes
import Derived.Laws.World
import Derived.Deep.Quiet
import Derived.OwnWalk
import Derived.BigQuiet
namespace Go.Proofs.YtaiigfcfmcicjaaGreatDoor
set_option maxRecDepth 100000
set_option maxHeartbeats 8000000
section
open Go.ChangeShapes Go.WideShapes Go.ChangeAt Go.RowKit Go.Joins Go.Deep
theorem own : ownKnob Tryz.prog.godebug = none := by kernel_rfl
def sentOf (x : String × List UInt8) : String × DataW Unit := (x.1, .iface "*errors.errorString" (.ptr (.agg [.lit (.string x.2)])))
theorem sents_of_laid {P : Program} {ti tp te ts : TypeId} {ms : Array (String × TypeId)} {f : Field} {W : World}
  (hi : P.underlying ti = some (.interface ms)) (hrow : ∀ u, P.typeName? 3 u = some "*errors.errorString" -> u = tp)
  (hp : P.underlying tp = some (.pointer te)) (he : P.underlying te = some (.struct #[f])) (hft : f.type = ts) (hfo : f.offset = 0) (hs : P.underlying ts = some .string) (hc : P.cellsOf te = 1) (hcs : P.cellsOf ts = 1) :
  ∀ (l : List (String × List UInt8)) (ps : List MemPlace), DataW.LaidVars P W (l.map sentOf) ps -> ps.Nodup ->
   (∀ b off, MemPlace.cell b off ∈ ps -> (∃ c t, W.heap[b]? = some (.cells c t (0, 0))) /\ ∀ u v, W.cell? ⟨b, off, none⟩ = some (.iface u v) -> Value.okWide P W .any 0 u v) ->
   (∀ x ∈ l, ∃ g, P.globalNamed x.1 = some g /\ (P.globals[g]?).map (·.type) = some ti) ->
   ∃ ads : List Addr, ads.length = l.length /\ ads.Nodup /\ (∀ a ∈ ads, MemPlace.cell a.block a.off ∈ ps /\ ∃ c t, W.heap[a.block]? = some (.cells c t (0, 0))) /\
    ∀ (i : Nat) (x : String × List UInt8), l[i]? = some x -> ∃ a, ads[i]? = some a /\ W.var? P x.1 = some #[.iface tp (.pointer (some a))]
 | [], _, _, _, _, _ => ⟨[], rfl, List.nodup_nil, fun _ h => absurd h List.not_mem_nil, fun i x h => by simp at h⟩
 | x :: r, ps, h, hnd, hrows, hg => by
  obtain ⟨g, t, cs, fuel, p, q, hg1, ht1, hv1, hd1, hr, rfl⟩ := h
  obtain ⟨g', hg', ht'⟩ := hg x (List.mem_cons_self)
  obtain rfl := Option.some.inj (hg'.symm.trans hg1)
  obtain rfl := Option.some.inj (ht'.symm.trans ht1)
  obtain ⟨cl⟩ := cs
  have ok : ∀ u v, cl = [.iface u v] -> Value.okWide P W .any 0 u v := fun u v e => by
   subst e
   exact (hrows g' 0 (by simp [MemPlace.row])).2 u v (by simpa using World.var?_cell hg1 hv1 0)
  obtain ⟨a, s, rfl, _, _, _, rfl⟩ := errorString_of_trod hi hrow hp he hft hfo hs hc hcs hd1 ok
  obtain ⟨ads, hl, hn, hm, hat⟩ := sents_of_laid hi hrow hp he hft hfo hs hc hcs r q hr (List.Nodup.sublist (List.sublist_append_right _ _) hnd) (fun b off hb => hrows b off (List.mem_append_right _ hb)) (fun y hy => hg y (List.mem_cons_of_mem _ hy))
  refine ⟨a :: ads, by simp [hl], List.nodup_cons.2 ⟨fun ha => ?_, hn⟩, fun b hb => ?_, fun i y hy => ?_⟩
  ·have := (hm a ha).1
   rw [List.append_assoc] at hnd
   have h2 := (List.nodup_append.1 (List.nodup_append.1 hnd).2.1).2.2
   exact h2 (MemPlace.cell a.block a.off) (by simp [MemPlace.row]) _ this rfl
  ·rcases List.mem_cons.1 hb with rfl | hb'
   ·exact ⟨by simp [MemPlace.row], (hrows b.block b.off (by simp [MemPlace.row])).1⟩
   ·exact ⟨List.mem_append_right _ (hm b hb').1, (hm b hb').2⟩
  ·cases i with
   | zero =>
    simp only [List.getElem?_cons_zero, Option.some.injEq] at hy
    subst hy
    exact ⟨a, rfl, hv1⟩
   | succ i =>
    simp only [List.getElem?_cons_succ] at hy ⊢
    exact hat i y hy
section
variable {H : Type} {enc : TypeId × Value -> H}
theorem lift_shaped {a : Assume} {C : Checked} {os : Os} {f : FuncId} {fn : Func} {s : ChangeSpec} {conds : List PathCond} {apart fresh handsOn again : Bool} {X : World -> Array Value -> Prop}
  (hX : ∀ (w w' : World) (args : Array Value), w.heap = w'.heap -> X w args -> X w' args)
  (own : ownKnob C.prog.godebug = none) (started : os.Started) (noInit : C.prog.inits.idxOf? f = none) (hfn : C.prog.funcs[f]? = some fn)
  (witness : ∃ (w : World) (tape : Tape) (i : Input), w.os = os /\ (w.forCall tape i).Shaped C.prog /\ i.vars = [] /\ Input.okWide C.prog (w.forCall tape i) .any w.heap.size f i /\
    ((s.pre enc C.prog fn conds apart (w.forCall tape i).memory i.args /\ X (w.forCall tape i).memory i.args) /\ sizedMet enc C.prog fn (OpenSpec.ofChange s) apart (w.forCall tape i).memory i.args) /\ a.holds C.prog (lone (Frame.enter C.prog f i.args .normal) [] (w.forCall tape i)))
  (contract : ∀ (W : World) (base : Nat) (args : Array Value) (ds gs : List (DataW H)) (before : List MemPlace),
    (∀ (j : Nat) t v, fn.params[j]? = some t -> args[j]? = some v -> Value.okWide C.prog W .any base t v) ->
    DataW.Whole enc C.prog fn.params.toList s.vars apart W args.toList ds gs before -> X W args -> W.ShapedOpen C.prog ->
    Calls C.prog f args W fun e W' => ∃ v, e = .returned v /\ s.post enc C.prog fn apart fresh handsOn again W args v W') :
  ReturnsInHanded a C os f .any (fun w args => (s.pre enc C.prog fn conds apart w args /\ X w args) /\ sizedMet enc C.prog fn (OpenSpec.ofChange s) apart w args) (s.post enc C.prog fn apart fresh handsOn again) := by
 refine returnsInHanded_of_calls own started noInit witness ?_
 intro w tape i _ hsh _ hok hpre _
 obtain ⟨_, _, _, g, hg, _, _, _, _, hval⟩ := hok
 obtain rfl : g = fn := Option.some.inj (hg.symm.trans hfn)
 obtain ⟨⟨⟨ds, gs, before, hw, _⟩, hx⟩, _⟩ := hpre
 refine (contract (w.forCall tape i) w.heap.size i.args ds gs before hval (DataW.Whole.of_heap (w' := w.forCall tape i) (by rfl) hw) (hX _ _ _ (by rfl) hx) hsh).mono fun e W' ⟨v, he, hp⟩ => ?_
 subst he
 exact ChangeSpec.post_blind hp
end
theorem laidOutA : laidOutB Tryz.prog = true := by kernel_rfl
theorem trodAll_below {H : Type} {enc : TypeId × Value -> H} {P : Program} (hl : laidOutB P = true) {W W' : World} (hb : Below W.heap.size W W') :
  ∀ (ts : List TypeId) (vs : List Value) (ds : List (DataW H)) (ps : List MemPlace), (∀ t ∈ ts, P.readableRec t = true /\ t < P.types.size) -> DataW.TrodAll enc P W 0 (fun _ => true) true ts vs ds ps ->
   DataW.TrodAll enc P W' 0 (fun b => decide (b < W.heap.size)) true ts vs ds ps
 | [], vs, ds, ps, _, h => by
  obtain ⟨rfl, rfl, rfl⟩ := trodAll_nil h
  exact trodAll_mk0
 | t :: ts, vs, ds, ps, hr, h => by
  have hlt := h.lt
  obtain ⟨v, vs', d, ds', p, q, rfl, rfl, rfl, h0, r0⟩ := trodAll_cons h
  refine trodAll_cons_mk (Below.trod hl (hr t List.mem_cons_self).1 (hr t List.mem_cons_self).2 h0 hb (fun x hx => hlt x (List.mem_append_left _ hx))) (trodAll_below hl hb ts vs' ds' q (fun u hu => hr u (List.mem_cons_of_mem _ hu)) r0)
theorem cells_at {w : World} {a : Addr} {n : Nat} {cs : List Value} (h : w.cells? 0 a n = some cs) : cs.length = n /\ ∀ j, j < n -> w.cell? (a.add j) = cs[j]? := by
 obtain ⟨_, h1, h2⟩ := World.cells?_some h
 exact ⟨h1, h2⟩
theorem spot_none {w : World} {a : Addr} {v : Value} (h : w.cell? a = some v) : a.spot = none := by
 unfold World.cell? at h
 split at h
 ·cases hs : a.spot with
  | none => rfl
  | some q => rw [hs] at h; simp at h
 ·cases h
theorem add_plain (a : Addr) (hs : a.spot = none) (k : Nat) : a.add k = ⟨a.block, a.off + k, none⟩ := by
 unfold Addr.add
 split
 ·rename_i h; subst h; obtain ⟨b, o, sp⟩ := a; simp only at hs; subst hs; rfl
 ·rfl
end
section
open Go.RowKit
variable {l r : List UInt8} {to : ByteArray}
def shape (op : List UInt8) : Option (List UInt8) :=
 if (op == [99, 111, 110, 115, 116]) = true then some [114, 118]
 else if (op == [109, 111, 118, 101]) = true then some [114, 114]
 else if (op == [97, 100, 100]) = true then some [114, 114, 114]
 else if (op == [115, 117, 98]) = true then some [114, 114, 114]
 else if (op == [97, 110, 100]) = true then some [114, 114, 114]
 else if (op == [120, 111, 114]) = true then some [114, 114, 114]
 else if (op == [108, 111, 97, 100]) = true then some [114, 114, 119]
 else if (op == [115, 116, 111, 114, 101]) = true then some [114, 114, 119]
 else if (op == [115, 119, 97, 112]) = true then some [114, 114, 119]
 else if (op == [99, 97, 115]) = true then some [114, 115, 119]
 else if (op == [97, 108, 108, 111, 99]) = true then some [114]
 else if (op == [102, 114, 101, 101]) = true then some [114]
 else if (op == [109, 97, 114, 107]) = true then some [114]
 else if (op == [110, 101, 101, 100]) = true then some [114]
 else if (op == [102, 101, 110, 99, 101]) = true then some []
 else if (op == [102, 111, 114, 99, 101]) = true then some []
 else if (op == [115, 116, 111, 112]) = true then some []
 else if (op == [122, 101, 114, 111]) = true then some [114, 108]
 else if (op == [115, 97, 109, 101]) = true then some [114, 114, 108]
 else if (op == [103, 111, 116, 111]) = true then some [108]
 else if (op == [108, 97, 98, 101, 108]) = true then some [108]
 else none
def shapeV : Option (List UInt8) -> Value
 | some l => .tuple #[.string ⟨l.toArray⟩, .bool true]
 | none => .tuple #[.string ⟨#[]⟩, .bool false]
def nameOk (i c : Nat) : Bool := decide ((97 <= c /\ c <= 122) ∨ (i ≠ 0 /\ ((48 <= c /\ c <= 57) ∨ c = 46)))
def isName (s : ByteArray) : Prop := 1 <= s.size /\ s.size <= 12 /\ ∀ j (h : j < s.size), nameOk j (s[j]'h).toNat = true
structure Ins where
 op : ByteArray
 a : Int
 b : Int
 c : Int
 to : ByteArray
def Ins.n (x : Ins) : Nat -> Int
 | 0 => x.a
 | 1 => x.b
 | _ => x.c
def byteAt (S : ByteArray) (i : Nat) : Nat := if h : i < S.size then (S[i]'h).toNat else 0
theorem byteAt_lt {S : ByteArray} {i : Nat} (h : i < S.size) : byteAt S i = (S[i]'h).toNat := dif_pos h
def cnt (S : ByteArray) : Nat -> Nat
 | 0 => 0
 | j + 1 => cnt S j + if byteAt S j = 108 then 0 else 1
def lab (S : ByteArray) : Nat -> Bool
 | 0 => false
 | j + 1 => lab S j || byteAt S j == 108
theorem cnt_le (S : ByteArray) (j : Nat) : cnt S j <= j := by
 induction j with
 | zero => exact Nat.le_refl _
 | succ j ih => unfold cnt; split <;> omega
def mostOf (c : Nat) : Int := if c = 114 then 8 else if c = 115 then 7 else if c = 119 then 4 else 4294967296
open Classical in
noncomputable def insBad (x : Ins) (S : ByteArray) : Nat :=
 if lab S S.size = false /\ ¬ x.to.toList = [] then 3
 else if ∃ k, cnt S S.size <= k /\ k < 3 /\ x.n k ≠ 0 then 3
 else if ∃ k, k < cnt S S.size /\ ¬ (0 <= x.n k /\ x.n k < mostOf (byteAt S k)) then 2
 else if lab S S.size = true /\ ¬ isName x.to then 4 else 0
noncomputable def insErr (x : Ins) : Nat := match shape x.op.toList with
 | none => 3
 | some l => insBad x ⟨l.toArray⟩
theorem ite_len {c : Prop} [Decidable c] {e : Option (List UInt8)} (h : (if c then some l else e) = some r) (hl : l.length <= 3) (he : e = some r -> r.length <= 3) : r.length <= 3 := by
 by_cases hc : c
 ·rw [if_pos hc] at h; cases h; exact hl
 ·rw [if_neg hc] at h; exact he h
theorem shape_le (h : shape l = some r) : r.length <= 3 := by
 unfold shape at h
 refine ite_len h (by decide) (fun h => ?_)
 refine ite_len h (by decide) (fun h => ?_)
 refine ite_len h (by decide) (fun h => ?_)
 refine ite_len h (by decide) (fun h => ?_)
 refine ite_len h (by decide) (fun h => ?_)
 refine ite_len h (by decide) (fun h => ?_)
 refine ite_len h (by decide) (fun h => ?_)
 refine ite_len h (by decide) (fun h => ?_)
 refine ite_len h (by decide) (fun h => ?_)
 refine ite_len h (by decide) (fun h => ?_)
 refine ite_len h (by decide) (fun h => ?_)
 refine ite_len h (by decide) (fun h => ?_)
 refine ite_len h (by decide) (fun h => ?_)
 refine ite_len h (by decide) (fun h => ?_)
 refine ite_len h (by decide) (fun h => ?_)
 refine ite_len h (by decide) (fun h => ?_)
 refine ite_len h (by decide) (fun h => ?_)
 refine ite_len h (by decide) (fun h => ?_)
 refine ite_len h (by decide) (fun h => ?_)
 refine ite_len h (by decide) (fun h => ?_)
 refine ite_len h (by decide) (fun h => ?_)
 cases h
def setsLabel (x : Ins) (to : ByteArray) : Bool := (x.op.toList == [108, 97, 98, 101, 108]) && (x.to.toList == to.toList)
def labelAt (l : List Ins) (to : ByteArray) : Int := match l.findIdx? (fun x => setsLabel x to) with
 | some j => (j : Int)
 | none => -1
theorem labelAt_some {l : List Ins} {j : Nat} {x : Ins} (hx : l[j]? = some x) (h1 : setsLabel x to = true) (h2 : ∀ (k : Nat) (y : Ins), k < j -> l[k]? = some y -> setsLabel y to = false) : labelAt l to = j := by
 unfold labelAt
 have : l.findIdx? (fun x => setsLabel x to) = some j := by
  rw [List.findIdx?_eq_some_iff_getElem]
  obtain ⟨hl, rfl⟩ := List.getElem?_eq_some_iff.1 hx
  exact ⟨hl, h1, fun k hk => by rw [h2 k _ hk (List.getElem?_eq_getElem (by omega))]; decide⟩
 rw [this]
theorem labelAt_none {l : List Ins} (h : ∀ (k : Nat) (y : Ins), l[k]? = some y -> setsLabel y to = false) : labelAt l to = -1 := by
 unfold labelAt
 have : l.findIdx? (fun x => setsLabel x to) = none := by
  rw [List.findIdx?_eq_none_iff]
  intro x hx
  obtain ⟨k, hk, rfl⟩ := List.getElem_of_mem hx
  rw [h k _ (List.getElem?_eq_getElem hk)]
 rw [this]
open Classical in
noncomputable def insFault (l : List Ins) (i : Nat) (x : Ins) : Nat :=
 if insErr x ≠ 0 then insErr x
 else if (x.op.toList == [108, 97, 98, 101, 108]) = true /\ labelAt l x.to ≠ i then 4
 else if (x.to.toList == []) = false /\ labelAt l x.to < 0 then 5 else 0
noncomputable def faultFrom (l : List Ins) : Nat -> List Ins -> Nat × Int
 | _, [] => (0, -1)
 | j, x :: r => if insFault l j x = 0 then faultFrom l (j + 1) r else (insFault l j x, j)
noncomputable def codeFault (l : List Ins) : Nat × Int := if 2000 < l.length then (2, -1) else faultFrom l 0 l
theorem faultFrom_at (l : List Ins) : ∀ (r : List Ins) (j : Nat), (∀ k y, r[k]? = some y -> insFault l (j + k) y = 0) -> faultFrom l j r = (0, -1)
 | [], _, _ => rfl
 | x :: r, j, h => by
  unfold faultFrom
  rw [if_pos (show insFault l j x = 0 from h 0 x rfl)]
  exact faultFrom_at l r (j + 1) (fun k y hy => by have := h (k + 1) y hy; rwa [show j + (k + 1) = j + 1 + k by omega] at this)
theorem faultFrom_hit (l : List Ins) : ∀ (r : List Ins) (j n : Nat) (x : Ins), r[n]? = some x -> insFault l (j + n) x ≠ 0 -> (∀ k y, k < n -> r[k]? = some y -> insFault l (j + k) y = 0) -> faultFrom l j r = (insFault l (j + n) x, ((j + n : Nat) : Int))
 | [], _, _, _, hx, _, _ => by cases hx
 | z :: r, j, 0, x, hx, h0, _ => by
  cases hx
  unfold faultFrom
  rw [if_neg (show ¬ insFault l j z = 0 from h0)]
  rfl
 | z :: r, j, n + 1, x, hx, h0, h => by
  unfold faultFrom
  rw [if_pos (show insFault l j z = 0 from h 0 z (Nat.succ_pos _) rfl)]
  have := faultFrom_hit l r (j + 1) n x hx (by rwa [show j + 1 + n = j + (n + 1) by omega]) (fun k y hk hy => by have := h (k + 1) y (by omega) hy; rwa [show j + (k + 1) = j + 1 + k by omega] at this)
  rw [this, show j + 1 + n = j + (n + 1) by omega]
end
section
open Go.RowKit Go.Lib
abbrev bl (s : ByteArray) : List UInt8 := s.data.toList
theorem toList_bl (s : ByteArray) : s.toList = bl s := ByteArray.toList_eq s
theorem mk_bl (s : ByteArray) : (⟨(bl s).toArray⟩ : ByteArray) = s := by cases s; simp
theorem bl_inj {a b : ByteArray} (h : bl a = bl b) : a = b := by rw [<- mk_bl a, <- mk_bl b, h]
theorem size_bl (s : ByteArray) : s.size = (bl s).length := Lib.size_eq s
theorem bl_append (a b : ByteArray) : bl (a ++ b) = bl a ++ bl b := by
 show (a ++ b).data.toList = _
 rw [ByteArray.data_append, Array.toList_append]
theorem byteAt_bl (s : ByteArray) (i : Nat) (h : i < s.size) : ∃ h', byteAt s i = ((bl s)[i]'h').toNat := by
 refine ⟨by rw [<- size_bl]; exact h, ?_⟩
 rw [byteAt_lt h]
 simp [bl, ByteArray.getElem_eq_getElem_data]
def table : List (List UInt8 × List UInt8) :=
 [([99, 111, 110, 115, 116], [114, 118]), ([109, 111, 118, 101], [114, 114]), ([97, 100, 100], [114, 114, 114]), ([115, 117, 98], [114, 114, 114]), ([97, 110, 100], [114, 114, 114]), ([120, 111, 114], [114, 114, 114]),
  ([108, 111, 97, 100], [114, 114, 119]), ([115, 116, 111, 114, 101], [114, 114, 119]), ([115, 119, 97, 112], [114, 114, 119]), ([99, 97, 115], [114, 115, 119]), ([97, 108, 108, 111, 99], [114]), ([102, 114, 101, 101], [114]), ([109, 97, 114, 107], [114]), ([110, 101, 101, 100], [114]),
  ([102, 101, 110, 99, 101], []), ([102, 111, 114, 99, 101], []), ([115, 116, 111, 112], []), ([122, 101, 114, 111], [114, 108]), ([115, 97, 109, 101], [114, 114, 108]), ([103, 111, 116, 111], [108]), ([108, 97, 98, 101, 108], [108])]
theorem ite_some {op k l S : List UInt8} {e : Option (List UInt8)} (h : (if (op == k) = true then some l else e) = some S) (hl : (k, l) ∈ table) (he : e = some S -> (op, S) ∈ table) : (op, S) ∈ table := by
 by_cases hc : (op == k) = true
 ·rw [if_pos hc] at h; cases h; rw [beq_iff_eq.1 hc]; exact hl
 ·rw [if_neg hc] at h; exact he h
theorem shape_mem {op S : List UInt8} (h : shape op = some S) : (op, S) ∈ table := by
 unfold shape at h
 iterate 21 (refine ite_some h (by decide) ?_; clear h; intro h)
 cases h
abbrev nums (S : List UInt8) : Nat := cnt ⟨S.toArray⟩ S.length
abbrev hasTo (S : List UInt8) : Bool := lab ⟨S.toArray⟩ S.length
end
section
open Go.RowKit
variable {S : Nat -> Nat -> Prop} {w w' : World} {v : Value}
theorem lt_of_block {w : World} {b : Nat} {o : Obj} (h : w.heap[b]? = some o) : b < w.heap.size := by
 rcases Nat.lt_or_ge b w.heap.size with h' | h'
 ·exact h'
 ·rw [Array.getElem?_eq_none h'] at h; cases h
theorem below_dN {B : Nat} {a w : World} (h : Below B a w) (n : Nat) : Below B a (w.drewN n) := ⟨h.os, h.tape, h.output, h.size, h.block⟩
structure Turns (S : Nat -> Nat -> Prop) (w w' : World) : Prop where
 os : w'.os = w.os
 tape : w'.tape = w.tape
 output : w'.output = w.output
 size : w.heap.size <= w'.heap.size
 block : ∀ k, k < w.heap.size -> (∀ o, ¬ S k o) -> w'.heap[k]? = w.heap[k]?
 cell : ∀ k o, k < w.heap.size -> ¬ S k o -> w'.cell? ⟨k, o, none⟩ = w.cell? ⟨k, o, none⟩
 frozen : ∀ k o, k < w.heap.size -> ¬ S k o -> w'.frozen? ⟨k, o, none⟩ = w.frozen? ⟨k, o, none⟩
theorem Turns.refl (S : Nat -> Nat -> Prop) (w : World) : Turns S w w := ⟨rfl, rfl, rfl, Nat.le_refl _, fun _ _ _ => rfl, fun _ _ _ _ => rfl, fun _ _ _ _ => rfl⟩
theorem Turns.trans {a b c : World} (h : Turns S a b) (k : Turns S b c) : Turns S a c :=
 ⟨k.os.trans h.os, k.tape.trans h.tape, k.output.trans h.output, Nat.le_trans h.size k.size,
  fun i hi ho => (k.block i (Nat.lt_of_lt_of_le hi h.size) ho).trans (h.block i hi ho),
  fun i o hi ho => (k.cell i o (Nat.lt_of_lt_of_le hi h.size) ho).trans (h.cell i o hi ho),
  fun i o hi ho => (k.frozen i o (Nat.lt_of_lt_of_le hi h.size) ho).trans (h.frozen i o hi ho)⟩
theorem Turns.mono {S S' : Nat -> Nat -> Prop} (h : Turns S w w') (hs : ∀ k o, k < w.heap.size -> S k o -> S' k o) : Turns S' w w' :=
 ⟨h.os, h.tape, h.output, h.size, fun k hk ho => h.block k hk fun o hS => ho o (hs k o hk hS), fun k o hk ho => h.cell k o hk fun hS => ho (hs k o hk hS), fun k o hk ho => h.frozen k o hk fun hS => ho (hs k o hk hS)⟩
theorem Turns.of_below (h : Below w.heap.size w w') : Turns S w w' :=
 ⟨h.os, h.tape, h.output, h.size, fun k hk _ => h.block k hk, fun _ _ hk _ => h.cell hk, fun _ _ hk _ => h.frozen hk⟩
theorem Turns.below {B : Nat} (h : Turns S w w') (hB : B <= w.heap.size) (hS : ∀ k o, k < B -> ¬ S k o) : Below B w w' :=
 ⟨h.os, h.tape, h.output, h.size, fun k hk => h.block k (Nat.lt_of_lt_of_le hk hB) fun o => hS k o hk⟩
theorem Turns.drew {a w : World} (h : Turns S a w) : Turns S a w.drew := h.trans ⟨rfl, rfl, rfl, Nat.le_refl _, fun _ _ _ => rfl, fun _ _ _ _ => rfl, fun _ _ _ _ => rfl⟩
theorem Turns.alloc {a w : World} (h : Turns S a w) (o : Obj) : Turns S a (w.alloc o) :=
 h.trans (Turns.of_below ((Below.refl _ _).alloc (Nat.le_refl _) _))
theorem Turns.setCell {a w : World} (h : Turns S a w) {b o : Nat} (v : Value) (hS : S b o) : Turns S a (w.setCell ⟨b, o, none⟩ v) :=
 h.trans ⟨rfl, rfl, rfl, by simp [World.setCell], fun k _ ho => Below.heap_setCell _ _ _ _ fun e => by subst e; exact ho o hS,
  fun k p _ ho => World.cell?_setCell_other _ _ _ _ (fun e => ho (by cases e; exact hS)), fun _ _ _ _ => World.frozen?_setCell _ _ _ _⟩
theorem Turns.setNew {a w : World} (h : Turns S a w) {p : Addr} (v : Value) (hp : a.heap.size <= p.block) : Turns S a (w.setCell p v) :=
 ⟨h.os, h.tape, h.output, Nat.le_trans h.size (by simp [World.setCell]), fun k hk ho => (Below.heap_setCell _ _ _ _ (by omega)).trans (h.block k hk ho),
  fun k o hk ho => (World.cell?_setCell_other _ _ _ _ (fun e => by rw [e] at hp; exact absurd hp (by simp; omega))).trans (h.cell k o hk ho), fun k o hk ho => (World.frozen?_setCell _ _ _ _).trans (h.frozen k o hk ho)⟩
theorem Turns.keep (h : Turns S w w') {k o : Nat} (hc : w.cell? ⟨k, o, none⟩ = some v) (hS : ¬ S k o) : w'.cell? ⟨k, o, none⟩ = some v := by
 rw [h.cell k o (World.block_lt_of_cell? w _ hc) hS]; exact hc
theorem Below.drewN' {w : World} (n : Nat) : Below w.heap.size w (w.drewN n) := ⟨rfl, rfl, rfl, Nat.le_refl _, fun _ _ => rfl⟩
theorem below_step {w b c : World} (h : Below w.heap.size w b) (k : Below b.heap.size b c) : Below w.heap.size w c := h.trans (k.mono h.size)
theorem keep_cell {b c : World} (k : Below b.heap.size b c) {p : Addr} (h : b.cell? p = some v) : c.cell? p = some v := by
 rw [k.cell (World.block_lt_of_cell? _ _ h)]; exact h
theorem hide {p : Prop} (h : p) : Hid p := h
theorem ownsRow_block {base : Nat} {e : TypeId} {size : Nat} {n : Nat} {xs : List Value} (h : w.ownsRow base e size v n xs) (hb : ∀ k, v.ownBlock = some k -> w'.heap[k]? = w.heap[k]?) : w'.ownsRow base e size v n xs := by
 obtain ⟨h1, h2⟩ := h
 refine ⟨h1, ?_⟩
 rcases h2 with h2 | ⟨g, cap, cur, hv, hg, hh, r⟩
 ·exact Or.inl h2
 ·exact Or.inr ⟨g, cap, cur, hv, hg, by rw [hb g (by rw [hv]; rfl)]; exact hh, r⟩
theorem cell_ne {w : World} {b o b' o' : Nat} {v u : Value} (h : w.cell? ⟨b', o', none⟩ = some u) (hne : b' ≠ b ∨ o' ≠ o) : (w.setCell ⟨b, o, none⟩ v).cell? ⟨b', o', none⟩ = some u := by
 rw [World.cell?_setCell_other _ _ _ _ (fun e => by cases e; rcases hne with h | h <;> exact h rfl)]; exact h
theorem box2f (w : World) (T : TypeId) (a b : Value) : (w.alloc (.cells #[a, b] T)).cell? ⟨w.heap.size, 0, none⟩ = some a /\ (w.alloc (.cells #[a, b] T)).cell? ⟨w.heap.size, 1, none⟩ = some b /\ (w.alloc (.cells #[a, b] T)).frozen? ⟨w.heap.size, 0, none⟩ = false /\ (w.alloc (.cells #[a, b] T)).frozen? ⟨w.heap.size, 1, none⟩ = false := by simp
theorem box5 (w : World) (T : TypeId) (a b c d e : Value) : (w.alloc (.cells #[a, b, c, d, e] T)).cell? ⟨w.heap.size, 0, none⟩ = some a /\ (w.alloc (.cells #[a, b, c, d, e] T)).cell? ⟨w.heap.size, 1, none⟩ = some b /\ (w.alloc (.cells #[a, b, c, d, e] T)).cell? ⟨w.heap.size, 2, none⟩ = some c /\ (w.alloc (.cells #[a, b, c, d, e] T)).cell? ⟨w.heap.size, 3, none⟩ = some d /\ (w.alloc (.cells #[a, b, c, d, e] T)).cell? ⟨w.heap.size, 4, none⟩ = some e := by simp
theorem box2c (w : World) (T : TypeId) (a b : Value) : (w.alloc (.cells #[a, b] T)).cell? ⟨w.heap.size, 0, none⟩ = some a /\ (w.alloc (.cells #[a, b] T)).cell? ⟨w.heap.size, 1, none⟩ = some b := by simp
theorem nL {a : Nat} : a <= a := Nat.le_refl a
theorem bLt {w : World} {p : Addr} {v : Value} (h : w.cell? p = some v) : p.block < w.heap.size := World.block_lt_of_cell? _ _ h
theorem bRf {n : Nat} {w : World} : Below n w w := Below.refl n w
end
end Go.Proofs.YtaiigfcfmcicjaaGreatDoor
