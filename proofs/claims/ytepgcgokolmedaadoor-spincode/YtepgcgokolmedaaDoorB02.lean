import Derived.Test.YtepgcgokolmedaaDoorB01
import Derived.Test.YtepgcgokolmedaaDoorRows
import Derived.ProofKit
import Derived.LaidMore
import Derived.OpenShut
import Derived.Stop.Joined
import Derived.Stop.LaidErr
import Derived.LaidHandle
import Derived.Deep.Slices
import Derived.Lib.SmallJoins
import Derived.WalkKit

/- Laid -/
namespace Go.Proofs.YtepgcgokolmedaaDoor
open Go.ChangeShapes Go.WideShapes Go.ChangeAt Go.RowKit

theorem own : ownKnob Tryd.prog.godebug = none := by kernel_rfl

def sentOf (x : String × List UInt8) : String × DataW Unit := (x.1, .iface "*errors.errorString" (.ptr (.agg [.lit (.string x.2)])))

theorem sents_of_laid {P : Program} {ti tp te ts : TypeId} {ms : Array (String × TypeId)} {f : Field} {W : World}
    (hi : P.underlying ti = some (.interface ms)) (hrow : ∀ u, P.typeName? 3 u = some "*errors.errorString" → u = tp)
    (hp : P.underlying tp = some (.pointer te)) (he : P.underlying te = some (.struct #[f])) (hft : f.type = ts) (hfo : f.offset = 0) (hs : P.underlying ts = some .string) (hc : P.cellsOf te = 1) (hcs : P.cellsOf ts = 1) :
    ∀ (l : List (String × List UInt8)) (ps : List MemPlace), DataW.LaidVars P W (l.map sentOf) ps → ps.Nodup →
      (∀ b off, MemPlace.cell b off ∈ ps → (∃ c t, W.heap[b]? = some (.cells c t (0, 0))) ∧ ∀ u v, W.cell? ⟨b, off, none⟩ = some (.iface u v) → Value.okWide P W .any 0 u v) →
      (∀ x ∈ l, ∃ g, P.globalNamed x.1 = some g ∧ (P.globals[g]?).map (·.type) = some ti) →
      ∃ ads : List Addr, ads.length = l.length ∧ ads.Nodup ∧ (∀ a ∈ ads, MemPlace.cell a.block a.off ∈ ps ∧ ∃ c t, W.heap[a.block]? = some (.cells c t (0, 0))) ∧
        ∀ (i : Nat) (x : String × List UInt8), l[i]? = some x → ∃ a, ads[i]? = some a ∧ W.var? P x.1 = some #[.iface tp (.pointer (some a))]
  | [], _, _, _, _, _ => ⟨[], rfl, List.nodup_nil, fun _ h => absurd h List.not_mem_nil, fun i x h => by simp at h⟩
  | x :: r, ps, h, hnd, hrows, hg => by
    obtain ⟨g, t, cs, fuel, p, q, hg1, ht1, hv1, hd1, hr, rfl⟩ := h
    obtain ⟨g', hg', ht'⟩ := hg x (List.mem_cons_self)
    obtain rfl := Option.some.inj (hg'.symm.trans hg1)
    obtain rfl := Option.some.inj (ht'.symm.trans ht1)
    obtain ⟨cl⟩ := cs
    have ok : ∀ u v, cl = [.iface u v] → Value.okWide P W .any 0 u v := fun u v e => by
      subst e
      exact (hrows g' 0 (by simp [MemPlace.row])).2 u v (by simpa using World.var?_cell hg1 hv1 0)
    obtain ⟨a, s, rfl, _, _, _, rfl⟩ := errorString_of_trod hi hrow hp he hft hfo hs hc hcs hd1 ok
    obtain ⟨ads, hl, hn, hm, hat⟩ := sents_of_laid hi hrow hp he hft hfo hs hc hcs r q hr (List.Nodup.sublist (List.sublist_append_right _ _) hnd) (fun b off hb => hrows b off (List.mem_append_right _ hb)) (fun y hy => hg y (List.mem_cons_of_mem _ hy))
    refine ⟨a :: ads, by simp [hl], List.nodup_cons.2 ⟨fun ha => ?_, hn⟩, fun b hb => ?_, fun i y hy => ?_⟩
    · have := (hm a ha).1
      rw [List.append_assoc] at hnd
      have h2 := (List.nodup_append.1 (List.nodup_append.1 hnd).2.1).2.2
      exact h2 (MemPlace.cell a.block a.off) (by simp [MemPlace.row]) _ this rfl
    · rcases List.mem_cons.1 hb with rfl | hb'
      · exact ⟨by simp [MemPlace.row], (hrows b.block b.off (by simp [MemPlace.row])).1⟩
      · exact ⟨List.mem_append_right _ (hm b hb').1, (hm b hb').2⟩
    · cases i with
      | zero =>
        simp only [List.getElem?_cons_zero, Option.some.injEq] at hy
        subst hy
        exact ⟨a, rfl, hv1⟩
      | succ i =>
        simp only [List.getElem?_cons_succ] at hy ⊢
        exact hat i y hy

def nineTexts : List (String × List UInt8) := [("quiescent/api.ErrText", [113, 117, 105, 101, 115, 99, 101, 110, 116, 58, 32, 116, 101, 120, 116]), ("quiescent/api.ErrBound", [113, 117, 105, 101, 115, 99, 101, 110, 116, 58, 32, 98, 111, 117, 110, 100]), ("quiescent/api.ErrShape", [113, 117, 105, 101, 115, 99, 101, 110, 116, 58, 32, 115, 104, 97, 112, 101]), ("quiescent/api.ErrName", [113, 117, 105, 101, 115, 99, 101, 110, 116, 58, 32, 110, 97, 109, 101]), ("quiescent/api.ErrNone", [113, 117, 105, 101, 115, 99, 101, 110, 116, 58, 32, 110, 111, 110, 101]), ("quiescent/api.ErrFull", [113, 117, 105, 101, 115, 99, 101, 110, 116, 58, 32, 102, 117, 108, 108]), ("quiescent/api.ErrStale", [113, 117, 105, 101, 115, 99, 101, 110, 116, 58, 32, 115, 116, 97, 108, 101]), ("quiescent/api.ErrHeld", [113, 117, 105, 101, 115, 99, 101, 110, 116, 58, 32, 104, 101, 108, 100]), ("quiescent/api.ErrDone", [113, 117, 105, 101, 115, 99, 101, 110, 116, 58, 32, 100, 111, 110, 101])]
def laidAll : List (String × DataW Unit) := ("errors.errorType", Rows.laid_errors_errorType) :: nineTexts.map sentOf
theorem handlesOnly : (laidAll.filter fun x => x.2.handleName?.isSome) = [("errors.errorType", Rows.laid_errors_errorType)] := by kernel_rfl
theorem nineOnly : (laidAll.filter fun x => x.2.handleName?.isNone) = nineTexts.map sentOf := by kernel_rfl

theorem gErr : Tryd.prog.globalNamed "errors.errorType" = some 9 := by kernel_rfl
theorem g0 : Tryd.prog.globalNamed "quiescent/api.ErrText" = some 1 := by kernel_rfl
theorem g1 : Tryd.prog.globalNamed "quiescent/api.ErrBound" = some 0 := by kernel_rfl
theorem g2 : Tryd.prog.globalNamed "quiescent/api.ErrShape" = some 2 := by kernel_rfl
theorem g3 : Tryd.prog.globalNamed "quiescent/api.ErrName" = some 3 := by kernel_rfl
theorem g4 : Tryd.prog.globalNamed "quiescent/api.ErrNone" = some 4 := by kernel_rfl
theorem g5 : Tryd.prog.globalNamed "quiescent/api.ErrFull" = some 5 := by kernel_rfl
theorem g6 : Tryd.prog.globalNamed "quiescent/api.ErrStale" = some 6 := by kernel_rfl
theorem g7 : Tryd.prog.globalNamed "quiescent/api.ErrHeld" = some 7 := by kernel_rfl
theorem g8 : Tryd.prog.globalNamed "quiescent/api.ErrDone" = some 8 := by kernel_rfl
theorem gT0 : (Tryd.prog.globals[1]?).map (·.type) = some 25 := by kernel_rfl
theorem gT1 : (Tryd.prog.globals[0]?).map (·.type) = some 25 := by kernel_rfl
theorem gT2 : (Tryd.prog.globals[2]?).map (·.type) = some 25 := by kernel_rfl
theorem gT3 : (Tryd.prog.globals[3]?).map (·.type) = some 25 := by kernel_rfl
theorem gT4 : (Tryd.prog.globals[4]?).map (·.type) = some 25 := by kernel_rfl
theorem gT5 : (Tryd.prog.globals[5]?).map (·.type) = some 25 := by kernel_rfl
theorem gT6 : (Tryd.prog.globals[6]?).map (·.type) = some 25 := by kernel_rfl
theorem gT7 : (Tryd.prog.globals[7]?).map (·.type) = some 25 := by kernel_rfl
theorem gT8 : (Tryd.prog.globals[8]?).map (·.type) = some 25 := by kernel_rfl
theorem nineG : ∀ x ∈ nineTexts, ∃ g, Tryd.prog.globalNamed x.1 = some g ∧ (Tryd.prog.globals[g]?).map (·.type) = some 25 := by
  intro x hx
  simp only [nineTexts, List.mem_cons, List.not_mem_nil, or_false] at hx
  rcases hx with rfl | rfl | rfl | rfl | rfl | rfl | rfl | rfl | rfl
  · exact ⟨_, g0, gT0⟩
  · exact ⟨_, g1, gT1⟩
  · exact ⟨_, g2, gT2⟩
  · exact ⟨_, g3, gT3⟩
  · exact ⟨_, g4, gT4⟩
  · exact ⟨_, g5, gT5⟩
  · exact ⟨_, g6, gT6⟩
  · exact ⟨_, g7, gT7⟩
  · exact ⟨_, g8, gT8⟩

theorem rtypeIs : (Tryd.prog.cutTypes.find? (·.1 == "internal/reflectlite.rtype")).map (·.2) = some 127 := by kernel_rfl
theorem errorRows : ((List.range 174).filter fun t => Tryd.prog.rowNamed t [101, 114, 114, 111, 114]) = [25] := by kernel_rfl
theorem manyTypes : Tryd.prog.types.size = 174 := by kernel_rfl
theorem handleIs : typeHandle Tryd.prog 25 = .pointer (some ⟨10, 25, none⟩) := by kernel_rfl
theorem star : "*" ++ "errors.errorString" = "*errors.errorString" := by decide
theorem errName (u : TypeId) (h : Tryd.prog.typeName? 3 u = some "*errors.errorString") : u = 141 :=
  typeName_ptr_named (nm := "errors.errorString") (by rw [star]; kernel_rfl) (by kernel_rfl) (by decide) u (by rw [star]; exact h)
theorem esStruct : ∃ f : Field, Tryd.prog.underlying 163 = some (.struct #[f]) ∧ f.type = 9 ∧ f.offset = 0 := ⟨_, Tryd.underlying163, rfl, rfl⟩
theorem esCells : Tryd.prog.cellsOf 163 = 1 := by kernel_rfl
theorem strCells : Tryd.prog.cellsOf 9 = 1 := by kernel_rfl

theorem env_of_laid {W : World} (h : laidMetH Tryd.prog laidAll W) : ∃ a, Env a W := by
  unfold laidMetH at h
  rw [handlesOnly, nineOnly] at h
  simp only at h
  obtain ⟨⟨ps, hv, hnd, hrows⟩, hh⟩ := h
  obtain ⟨f, hf, hft, hfo⟩ := esStruct
  obtain ⟨ads, hl, hn, hm, hat⟩ := sents_of_laid (f := f) Tryd.underlying25 errName Tryd.underlying141 hf hft hfo Tryd.underlying9 esCells strCells nineTexts ps hv hnd hrows nineG
  have hl9 : ads.length = 9 := hl
  have hh1 := hh _ (List.mem_singleton.2 rfl)
  obtain ⟨name, u, ty, e1, e2, e3, e4, e5⟩ := (show ∃ name u ty, (Rows.laid_errors_errorType : DataW Unit).handleName? = some name ∧ (Tryd.prog.cutTypes.find? (·.1 == "internal/reflectlite.rtype")).map (·.2) = some u ∧ ty < Tryd.prog.types.size ∧ Tryd.prog.rowNamed ty name = true ∧ W.var? Tryd.prog "errors.errorType" = some #[.iface u (.agg #[typeHandle Tryd.prog ty])] from hh1)
  have en : name = [101, 114, 114, 111, 114] := (Option.some.inj e1).symm
  subst en
  obtain rfl := Option.some.inj (rtypeIs.symm.trans e2)
  have hmm : ty ∈ (List.range 174).filter fun t => Tryd.prog.rowNamed t [101, 114, 114, 111, 114] := List.mem_filter.2 ⟨List.mem_range.2 (by rw [← manyTypes]; exact e3), e4⟩
  rw [errorRows] at hmm
  obtain rfl := List.mem_singleton.1 hmm
  rw [handleIs] at e5
  have look : ∀ (i : Nat) (x : String × List UInt8), nineTexts[i]? = some x → W.var? Tryd.prog x.1 = some #[errAt (ads.getD i default)] := fun i x hx => by
    obtain ⟨a, ha, hva⟩ := hat i x hx
    rw [List.getD_eq_getElem?_getD, ha]; exact hva
  refine ⟨fun i => ads.getD i default, ⟨fun i hi => ?_, fun i hi => ?_, fun i j hi hj hij => ?_, ?_⟩⟩
  · match i, hi with
    | 0, _ => simpa [gid] using World.var?_cell g0 (look 0 _ rfl) 0
    | 1, _ => simpa [gid] using World.var?_cell g1 (look 1 _ rfl) 0
    | 2, _ => simpa [gid] using World.var?_cell g2 (look 2 _ rfl) 0
    | 3, _ => simpa [gid] using World.var?_cell g3 (look 3 _ rfl) 0
    | 4, _ => simpa [gid] using World.var?_cell g4 (look 4 _ rfl) 0
    | 5, _ => simpa [gid] using World.var?_cell g5 (look 5 _ rfl) 0
    | 6, _ => simpa [gid] using World.var?_cell g6 (look 6 _ rfl) 0
    | 7, _ => simpa [gid] using World.var?_cell g7 (look 7 _ rfl) 0
    | 8, _ => simpa [gid] using World.var?_cell g8 (look 8 _ rfl) 0
  · refine (hm (ads.getD i default) ?_).2
    rw [List.getD_eq_getElem?_getD, List.getElem?_eq_getElem (by omega)]
    exact List.getElem_mem _
  · intro e
    simp only [List.getD_eq_getElem?_getD] at e
    rw [List.getElem?_eq_getElem (show i < ads.length by omega), List.getElem?_eq_getElem (show j < ads.length by omega)] at e
    simp only [Option.getD_some] at e
    have hpw := List.pairwise_iff_getElem.1 hn
    rcases Nat.lt_or_gt_of_ne hij with h | h
    · exact hpw i j _ _ h e
    · exact hpw j i _ _ h e.symm
  · simpa using World.var?_cell gErr e5 0

theorem door_met (os : Os) (args : Array Value) : laidMetH Tryd.prog laidAll ((World.doorLaid Tryd.prog 400 os).forCall (fun _ _ => 0) ⟨#[], args, []⟩).memory :=
  laidMetH_of_parts3 (fuel := 8) (laidMet_of_run' 8 (by kernel_rfl) (by kernel_rfl)) (by kernel_rfl) (by kernel_rfl)
end Go.Proofs.YtepgcgokolmedaaDoor

/- Lift -/
namespace Go.Proofs.YtepgcgokolmedaaDoor
open Go.ChangeShapes Go.WideShapes Go.ChangeAt Go.RowKit Go.Joins Go.Deep

theorem laidOutA : laidOutB Tryd.prog = true := by kernel_rfl

theorem trodAll_below {H : Type} {enc : TypeId × Value → H} {P : Program} (hl : laidOutB P = true) {W W' : World} (hb : Below W.heap.size W W') :
    ∀ (ts : List TypeId) (vs : List Value) (ds : List (DataW H)) (ps : List MemPlace), (∀ t ∈ ts, P.readableRec t = true ∧ t < P.types.size) → DataW.TrodAll enc P W 0 (fun _ => true) true ts vs ds ps →
      DataW.TrodAll enc P W' 0 (fun b => decide (b < W.heap.size)) true ts vs ds ps
  | [], vs, ds, ps, _, h => by
    obtain ⟨rfl, rfl, rfl⟩ := trodAll_nil h
    exact trodAll_mk0
  | t :: ts, vs, ds, ps, hr, h => by
    have hlt := h.lt
    obtain ⟨v, vs', d, ds', p, q, rfl, rfl, rfl, h0, r0⟩ := trodAll_cons h
    refine trodAll_cons_mk (Below.trod hl (hr t List.mem_cons_self).1 (hr t List.mem_cons_self).2 h0 hb (fun x hx => hlt x (List.mem_append_left _ hx))) (trodAll_below hl hb ts vs' ds' q (fun u hu => hr u (List.mem_cons_of_mem _ hu)) r0)

end Go.Proofs.YtepgcgokolmedaaDoor

/- PureS -/
namespace Go.Proofs.YtepgcgokolmedaaDoor
open Go.RowKit

def shape (op : List UInt8) : Option (List UInt8) :=
  if (op == [99, 111, 110, 115, 116]) = true then some [114, 118]
  else if (op == [109, 111, 118, 101]) = true then some [114, 114]
  else if (op == [97, 100, 100]) = true then some [114, 114, 114]
  else if (op == [115, 117, 98]) = true then some [114, 114, 114]
  else if (op == [97, 110, 100]) = true then some [114, 114, 114]
  else if (op == [120, 111, 114]) = true then some [114, 114, 114]
  else if (op == [108, 111, 97, 100]) = true then some [114, 114, 119]
  else if (op == [115, 116, 111, 114, 101]) = true then some [114, 114, 119]
  else if (op == [115, 119, 97, 112]) = true then some [114, 114, 119]
  else if (op == [99, 97, 115]) = true then some [114, 115, 119]
  else if (op == [97, 108, 108, 111, 99]) = true then some [114]
  else if (op == [102, 114, 101, 101]) = true then some [114]
  else if (op == [109, 97, 114, 107]) = true then some [114]
  else if (op == [110, 101, 101, 100]) = true then some [114]
  else if (op == [102, 101, 110, 99, 101]) = true then some []
  else if (op == [102, 111, 114, 99, 101]) = true then some []
  else if (op == [115, 116, 111, 112]) = true then some []
  else if (op == [122, 101, 114, 111]) = true then some [114, 108]
  else if (op == [115, 97, 109, 101]) = true then some [114, 114, 108]
  else if (op == [103, 111, 116, 111]) = true then some [108]
  else if (op == [108, 97, 98, 101, 108]) = true then some [108]
  else none

def shapeV : Option (List UInt8) → Value
  | some l => .tuple #[.string ⟨l.toArray⟩, .bool true]
  | none => .tuple #[.string ⟨#[]⟩, .bool false]


def nameOk (i c : Nat) : Bool := decide ((97 ≤ c ∧ c ≤ 122) ∨ (i ≠ 0 ∧ ((48 ≤ c ∧ c ≤ 57) ∨ c = 46)))

def isName (s : ByteArray) : Prop := 1 ≤ s.size ∧ s.size ≤ 12 ∧ ∀ j (h : j < s.size), nameOk j (s[j]'h).toNat = true


structure Ins where
  op : ByteArray
  a : Int
  b : Int
  c : Int
  to : ByteArray

def Ins.n (x : Ins) : Nat → Int
  | 0 => x.a
  | 1 => x.b
  | _ => x.c

def byteAt (S : ByteArray) (i : Nat) : Nat := if h : i < S.size then (S[i]'h).toNat else 0
theorem byteAt_lt {S : ByteArray} {i : Nat} (h : i < S.size) : byteAt S i = (S[i]'h).toNat := dif_pos h

def cnt (S : ByteArray) : Nat → Nat
  | 0 => 0
  | j + 1 => cnt S j + if byteAt S j = 108 then 0 else 1
def lab (S : ByteArray) : Nat → Bool
  | 0 => false
  | j + 1 => lab S j || byteAt S j == 108
theorem cnt_le (S : ByteArray) (j : Nat) : cnt S j ≤ j := by
  induction j with
  | zero => exact Nat.le_refl _
  | succ j ih => unfold cnt; split <;> omega

def mostOf (c : Nat) : Int := if c = 114 then 8 else if c = 115 then 7 else if c = 119 then 4 else 4294967296

open Classical in
noncomputable def insBad (x : Ins) (S : ByteArray) : Nat :=
  if lab S S.size = false ∧ ¬ x.to.toList = [] then 3
  else if ∃ k, cnt S S.size ≤ k ∧ k < 3 ∧ x.n k ≠ 0 then 3
  else if ∃ k, k < cnt S S.size ∧ ¬ (0 ≤ x.n k ∧ x.n k < mostOf (byteAt S k)) then 2
  else if lab S S.size = true ∧ ¬ isName x.to then 4 else 0

noncomputable def insErr (x : Ins) : Nat := match shape x.op.toList with
  | none => 3
  | some l => insBad x ⟨l.toArray⟩

theorem ite_len {c : Prop} [Decidable c] {l r : List UInt8} {e : Option (List UInt8)} (h : (if c then some l else e) = some r) (hl : l.length ≤ 3) (he : e = some r → r.length ≤ 3) : r.length ≤ 3 := by
  by_cases hc : c
  · rw [if_pos hc] at h; cases h; exact hl
  · rw [if_neg hc] at h; exact he h
theorem shape_le {l r : List UInt8} (h : shape l = some r) : r.length ≤ 3 := by
  unfold shape at h
  refine ite_len h (by decide) (fun h => ?_)
  refine ite_len h (by decide) (fun h => ?_)
  refine ite_len h (by decide) (fun h => ?_)
  refine ite_len h (by decide) (fun h => ?_)
  refine ite_len h (by decide) (fun h => ?_)
  refine ite_len h (by decide) (fun h => ?_)
  refine ite_len h (by decide) (fun h => ?_)
  refine ite_len h (by decide) (fun h => ?_)
  refine ite_len h (by decide) (fun h => ?_)
  refine ite_len h (by decide) (fun h => ?_)
  refine ite_len h (by decide) (fun h => ?_)
  refine ite_len h (by decide) (fun h => ?_)
  refine ite_len h (by decide) (fun h => ?_)
  refine ite_len h (by decide) (fun h => ?_)
  refine ite_len h (by decide) (fun h => ?_)
  refine ite_len h (by decide) (fun h => ?_)
  refine ite_len h (by decide) (fun h => ?_)
  refine ite_len h (by decide) (fun h => ?_)
  refine ite_len h (by decide) (fun h => ?_)
  refine ite_len h (by decide) (fun h => ?_)
  refine ite_len h (by decide) (fun h => ?_)
  cases h


def setsLabel (x : Ins) (to : ByteArray) : Bool := (x.op.toList == [108, 97, 98, 101, 108]) && (x.to.toList == to.toList)
def labelAt (l : List Ins) (to : ByteArray) : Int := match l.findIdx? (fun x => setsLabel x to) with
  | some j => (j : Int)
  | none => -1

theorem labelAt_some {l : List Ins} {to : ByteArray} {j : Nat} {x : Ins} (hx : l[j]? = some x) (h1 : setsLabel x to = true) (h2 : ∀ (k : Nat) (y : Ins), k < j → l[k]? = some y → setsLabel y to = false) : labelAt l to = j := by
  unfold labelAt
  have : l.findIdx? (fun x => setsLabel x to) = some j := by
    rw [List.findIdx?_eq_some_iff_getElem]
    obtain ⟨hl, rfl⟩ := List.getElem?_eq_some_iff.1 hx
    exact ⟨hl, h1, fun k hk => by rw [h2 k _ hk (List.getElem?_eq_getElem (by omega))]; decide⟩
  rw [this]
theorem labelAt_none {l : List Ins} {to : ByteArray} (h : ∀ (k : Nat) (y : Ins), l[k]? = some y → setsLabel y to = false) : labelAt l to = -1 := by
  unfold labelAt
  have : l.findIdx? (fun x => setsLabel x to) = none := by
    rw [List.findIdx?_eq_none_iff]
    intro x hx
    obtain ⟨k, hk, rfl⟩ := List.getElem_of_mem hx
    rw [h k _ (List.getElem?_eq_getElem hk)]
  rw [this]


open Classical in
noncomputable def insFault (l : List Ins) (i : Nat) (x : Ins) : Nat :=
  if insErr x ≠ 0 then insErr x
  else if (x.op.toList == [108, 97, 98, 101, 108]) = true ∧ labelAt l x.to ≠ i then 4
  else if (x.to.toList == []) = false ∧ labelAt l x.to < 0 then 5 else 0

noncomputable def faultFrom (l : List Ins) : Nat → List Ins → Nat × Int
  | _, [] => (0, -1)
  | j, x :: r => if insFault l j x = 0 then faultFrom l (j + 1) r else (insFault l j x, j)
noncomputable def codeFault (l : List Ins) : Nat × Int := if 2000 < l.length then (2, -1) else faultFrom l 0 l

theorem faultFrom_at (l : List Ins) : ∀ (r : List Ins) (j : Nat), (∀ k y, r[k]? = some y → insFault l (j + k) y = 0) → faultFrom l j r = (0, -1)
  | [], _, _ => rfl
  | x :: r, j, h => by
    unfold faultFrom
    rw [if_pos (show insFault l j x = 0 from h 0 x rfl)]
    exact faultFrom_at l r (j + 1) (fun k y hy => by have := h (k + 1) y hy; rwa [show j + (k + 1) = j + 1 + k by omega] at this)
theorem faultFrom_hit (l : List Ins) : ∀ (r : List Ins) (j n : Nat) (x : Ins), r[n]? = some x → insFault l (j + n) x ≠ 0 → (∀ k y, k < n → r[k]? = some y → insFault l (j + k) y = 0) → faultFrom l j r = (insFault l (j + n) x, ((j + n : Nat) : Int))
  | [], _, _, _, hx, _, _ => by cases hx
  | z :: r, j, 0, x, hx, h0, _ => by
    cases hx
    unfold faultFrom
    rw [if_neg (show ¬ insFault l j z = 0 from h0)]
    rfl
  | z :: r, j, n + 1, x, hx, h0, h => by
    unfold faultFrom
    rw [if_pos (show insFault l j z = 0 from h 0 z (Nat.succ_pos _) rfl)]
    have := faultFrom_hit l r (j + 1) n x hx (by rwa [show j + 1 + n = j + (n + 1) by omega]) (fun k y hk hy => by have := h (k + 1) y (by omega) hy; rwa [show j + (k + 1) = j + 1 + k by omega] at this)
    rw [this, show j + 1 + n = j + (n + 1) by omega]


end Go.Proofs.YtepgcgokolmedaaDoor
