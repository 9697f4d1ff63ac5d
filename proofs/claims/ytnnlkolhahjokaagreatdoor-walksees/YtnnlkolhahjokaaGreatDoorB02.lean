import Derived.Test.YtnnlkolhahjokaaGreatDoorB01
import Derived.Test.YtnnlkolhahjokaaGreatDoorRows
import Derived.ProofKit
import Derived.LaidMore
import Derived.OpenShut
import Derived.Stop.Joined
import Derived.Stop.LaidErr
import Derived.LaidHandle
import Derived.Deep.Slices
import Derived.Lib.SmallJoins
import Derived.Deep.QuietTactic
import Derived.BigQuiet

/- Laid -/
namespace Go.Proofs.YtnnlkolhahjokaaGreatDoor
open Go.ChangeShapes Go.WideShapes Go.ChangeAt Go.RowKit

theorem own : ownKnob Tryz.prog.godebug = none := by kernel_rfl

def sentOf (x : String × List UInt8) : String × DataW Unit := (x.1, .iface "*errors.errorString" (.ptr (.agg [.lit (.string x.2)])))

theorem sents_of_laid {P : Program} {ti tp te ts : TypeId} {ms : Array (String × TypeId)} {f : Field} {W : World}
    (hi : P.underlying ti = some (.interface ms)) (hrow : ∀ u, P.typeName? 3 u = some "*errors.errorString" → u = tp)
    (hp : P.underlying tp = some (.pointer te)) (he : P.underlying te = some (.struct #[f])) (hft : f.type = ts) (hfo : f.offset = 0) (hs : P.underlying ts = some .string) (hc : P.cellsOf te = 1) (hcs : P.cellsOf ts = 1) :
    ∀ (l : List (String × List UInt8)) (ps : List MemPlace), DataW.LaidVars P W (l.map sentOf) ps → ps.Nodup →
      (∀ b off, MemPlace.cell b off ∈ ps → (∃ c t, W.heap[b]? = some (.cells c t (0, 0))) ∧ ∀ u v, W.cell? ⟨b, off, none⟩ = some (.iface u v) → Value.okWide P W .any 0 u v) →
      (∀ x ∈ l, ∃ g, P.globalNamed x.1 = some g ∧ (P.globals[g]?).map (·.type) = some ti) →
      ∃ ads : List Addr, ads.length = l.length ∧ ads.Nodup ∧ (∀ a ∈ ads, MemPlace.cell a.block a.off ∈ ps ∧ ∃ c t, W.heap[a.block]? = some (.cells c t (0, 0))) ∧
        ∀ (i : Nat) (x : String × List UInt8), l[i]? = some x → ∃ a, ads[i]? = some a ∧ W.var? P x.1 = some #[.iface tp (.pointer (some a))]
  | [], _, _, _, _, _ => ⟨[], rfl, List.nodup_nil, fun _ h => absurd h List.not_mem_nil, fun i x h => by simp at h⟩
  | x :: r, ps, h, hnd, hrows, hg => by
    obtain ⟨g, t, cs, fuel, p, q, hg1, ht1, hv1, hd1, hr, rfl⟩ := h
    obtain ⟨g', hg', ht'⟩ := hg x (List.mem_cons_self)
    obtain rfl := Option.some.inj (hg'.symm.trans hg1)
    obtain rfl := Option.some.inj (ht'.symm.trans ht1)
    obtain ⟨cl⟩ := cs
    have ok : ∀ u v, cl = [.iface u v] → Value.okWide P W .any 0 u v := fun u v e => by
      subst e
      exact (hrows g' 0 (by simp [MemPlace.row])).2 u v (by simpa using World.var?_cell hg1 hv1 0)
    obtain ⟨a, s, rfl, _, _, _, rfl⟩ := errorString_of_trod hi hrow hp he hft hfo hs hc hcs hd1 ok
    obtain ⟨ads, hl, hn, hm, hat⟩ := sents_of_laid hi hrow hp he hft hfo hs hc hcs r q hr (List.Nodup.sublist (List.sublist_append_right _ _) hnd) (fun b off hb => hrows b off (List.mem_append_right _ hb)) (fun y hy => hg y (List.mem_cons_of_mem _ hy))
    refine ⟨a :: ads, by simp [hl], List.nodup_cons.2 ⟨fun ha => ?_, hn⟩, fun b hb => ?_, fun i y hy => ?_⟩
    · have := (hm a ha).1
      rw [List.append_assoc] at hnd
      have h2 := (List.nodup_append.1 (List.nodup_append.1 hnd).2.1).2.2
      exact h2 (MemPlace.cell a.block a.off) (by simp [MemPlace.row]) _ this rfl
    · rcases List.mem_cons.1 hb with rfl | hb'
      · exact ⟨by simp [MemPlace.row], (hrows b.block b.off (by simp [MemPlace.row])).1⟩
      · exact ⟨List.mem_append_right _ (hm b hb').1, (hm b hb').2⟩
    · cases i with
      | zero =>
        simp only [List.getElem?_cons_zero, Option.some.injEq] at hy
        subst hy
        exact ⟨a, rfl, hv1⟩
      | succ i =>
        simp only [List.getElem?_cons_succ] at hy ⊢
        exact hat i y hy

def sevenTexts : List (String × List UInt8) := [("quiescent/api.ErrBound", [113, 117, 105, 101, 115, 99, 101, 110, 116, 58, 32, 98, 111, 117, 110, 100]), ("quiescent/api.ErrShape", [113, 117, 105, 101, 115, 99, 101, 110, 116, 58, 32, 115, 104, 97, 112, 101]), ("quiescent/api.ErrName", [113, 117, 105, 101, 115, 99, 101, 110, 116, 58, 32, 110, 97, 109, 101]), ("quiescent/api.ErrNone", [113, 117, 105, 101, 115, 99, 101, 110, 116, 58, 32, 110, 111, 110, 101]), ("quiescent/api.ErrFull", [113, 117, 105, 101, 115, 99, 101, 110, 116, 58, 32, 102, 117, 108, 108]), ("quiescent/api.ErrStale", [113, 117, 105, 101, 115, 99, 101, 110, 116, 58, 32, 115, 116, 97, 108, 101]), ("quiescent/api.ErrDone", [113, 117, 105, 101, 115, 99, 101, 110, 116, 58, 32, 100, 111, 110, 101])]
def laidAll : List (String × DataW Unit) := ("errors.errorType", Rows.laid_errors_errorType) :: sevenTexts.map sentOf
theorem handlesOnly : (laidAll.filter fun x => x.2.handleName?.isSome) = [("errors.errorType", Rows.laid_errors_errorType)] := by kernel_rfl
theorem sevenOnly : (laidAll.filter fun x => x.2.handleName?.isNone) = sevenTexts.map sentOf := by kernel_rfl

theorem gErr : Tryz.prog.globalNamed "errors.errorType" = some 6 := by kernel_rfl
theorem g1 : Tryz.prog.globalNamed "quiescent/api.ErrBound" = some 0 := by kernel_rfl
theorem g2 : Tryz.prog.globalNamed "quiescent/api.ErrShape" = some 3 := by kernel_rfl
theorem g3 : Tryz.prog.globalNamed "quiescent/api.ErrName" = some 4 := by kernel_rfl
theorem g4 : Tryz.prog.globalNamed "quiescent/api.ErrNone" = some 5 := by kernel_rfl
theorem g5 : Tryz.prog.globalNamed "quiescent/api.ErrFull" = some 7 := by kernel_rfl
theorem g6 : Tryz.prog.globalNamed "quiescent/api.ErrStale" = some 2 := by kernel_rfl
theorem g8 : Tryz.prog.globalNamed "quiescent/api.ErrDone" = some 1 := by kernel_rfl
theorem gT1 : (Tryz.prog.globals[0]?).map (·.type) = some 32 := by kernel_rfl
theorem gT2 : (Tryz.prog.globals[3]?).map (·.type) = some 32 := by kernel_rfl
theorem gT3 : (Tryz.prog.globals[4]?).map (·.type) = some 32 := by kernel_rfl
theorem gT4 : (Tryz.prog.globals[5]?).map (·.type) = some 32 := by kernel_rfl
theorem gT5 : (Tryz.prog.globals[7]?).map (·.type) = some 32 := by kernel_rfl
theorem gT6 : (Tryz.prog.globals[2]?).map (·.type) = some 32 := by kernel_rfl
theorem gT8 : (Tryz.prog.globals[1]?).map (·.type) = some 32 := by kernel_rfl
theorem sevenG : ∀ x ∈ sevenTexts, ∃ g, Tryz.prog.globalNamed x.1 = some g ∧ (Tryz.prog.globals[g]?).map (·.type) = some 32 := by
  intro x hx
  simp only [sevenTexts, List.mem_cons, List.not_mem_nil, or_false] at hx
  rcases hx with rfl | rfl | rfl | rfl | rfl | rfl | rfl
  · exact ⟨_, g1, gT1⟩
  · exact ⟨_, g2, gT2⟩
  · exact ⟨_, g3, gT3⟩
  · exact ⟨_, g4, gT4⟩
  · exact ⟨_, g5, gT5⟩
  · exact ⟨_, g6, gT6⟩
  · exact ⟨_, g8, gT8⟩

theorem rtypeIs : (Tryz.prog.cutTypes.find? (·.1 == "internal/reflectlite.rtype")).map (·.2) = some 169 := by kernel_rfl
theorem errorRows : ((List.range 237).filter fun t => Tryz.prog.rowNamed t [101, 114, 114, 111, 114]) = [32] := by kernel_rfl
theorem manyTypes : Tryz.prog.types.size = 237 := by kernel_rfl
theorem handleIs : typeHandle Tryz.prog 32 = .pointer (some ⟨8, 32, none⟩) := by kernel_rfl
theorem star : "*" ++ "errors.errorString" = "*errors.errorString" := by decide
theorem errName (u : TypeId) (h : Tryz.prog.typeName? 3 u = some "*errors.errorString") : u = 205 :=
  typeName_ptr_named (nm := "errors.errorString") (by rw [star]; kernel_rfl) (by kernel_rfl) (by decide) u (by rw [star]; exact h)
theorem esStruct : ∃ f : Field, Tryz.prog.underlying 225 = some (.struct #[f]) ∧ f.type = 9 ∧ f.offset = 0 := ⟨_, Tryz.underlying225, rfl, rfl⟩
theorem esCells : Tryz.prog.cellsOf 225 = 1 := by kernel_rfl
theorem strCells : Tryz.prog.cellsOf 9 = 1 := by kernel_rfl

theorem env_of_laid {W : World} (h : laidMetH Tryz.prog laidAll W) : ∃ a, Env a W := by
  unfold laidMetH at h
  rw [handlesOnly, sevenOnly] at h
  simp only at h
  obtain ⟨⟨ps, hv, hnd, hrows⟩, hh⟩ := h
  obtain ⟨f, hf, hft, hfo⟩ := esStruct
  obtain ⟨ads, hl, hn, hm, hat⟩ := sents_of_laid (f := f) Tryz.underlying32 errName Tryz.underlying205 hf hft hfo Tryz.underlying9 esCells strCells sevenTexts ps hv hnd hrows sevenG
  have hl9 : ads.length = 7 := hl
  have hh1 := hh _ (List.mem_singleton.2 rfl)
  obtain ⟨name, u, ty, e1, e2, e3, e4, e5⟩ := (show ∃ name u ty, (Rows.laid_errors_errorType : DataW Unit).handleName? = some name ∧ (Tryz.prog.cutTypes.find? (·.1 == "internal/reflectlite.rtype")).map (·.2) = some u ∧ ty < Tryz.prog.types.size ∧ Tryz.prog.rowNamed ty name = true ∧ W.var? Tryz.prog "errors.errorType" = some #[.iface u (.agg #[typeHandle Tryz.prog ty])] from hh1)
  have en : name = [101, 114, 114, 111, 114] := (Option.some.inj e1).symm
  subst en
  obtain rfl := Option.some.inj (rtypeIs.symm.trans e2)
  have hmm : ty ∈ (List.range 237).filter fun t => Tryz.prog.rowNamed t [101, 114, 114, 111, 114] := List.mem_filter.2 ⟨List.mem_range.2 (by rw [← manyTypes]; exact e3), e4⟩
  rw [errorRows] at hmm
  obtain rfl := List.mem_singleton.1 hmm
  rw [handleIs] at e5
  have look : ∀ (i : Nat) (x : String × List UInt8), sevenTexts[i]? = some x → W.var? Tryz.prog x.1 = some #[errAt (ads.getD i default)] := fun i x hx => by
    obtain ⟨a, ha, hva⟩ := hat i x hx
    rw [List.getD_eq_getElem?_getD, ha]; exact hva
  refine ⟨fun i => ads.getD (if i < 7 then i - 1 else i - 2) default, ⟨fun i hi => ?_, fun i hi => ?_, fun i j hi hj hij => ?_, ?_⟩⟩
  · obtain ⟨k1, k2, k3⟩ := hi
    match i, k1, k2, k3 with
    | 0, _, k, _ => exact absurd rfl k
    | 1, _, _, _ => simpa [gid] using World.var?_cell g1 (look 0 _ rfl) 0
    | 2, _, _, _ => simpa [gid] using World.var?_cell g2 (look 1 _ rfl) 0
    | 3, _, _, _ => simpa [gid] using World.var?_cell g3 (look 2 _ rfl) 0
    | 4, _, _, _ => simpa [gid] using World.var?_cell g4 (look 3 _ rfl) 0
    | 5, _, _, _ => simpa [gid] using World.var?_cell g5 (look 4 _ rfl) 0
    | 6, _, _, _ => simpa [gid] using World.var?_cell g6 (look 5 _ rfl) 0
    | 7, _, _, k => exact absurd rfl k
    | 8, _, _, _ => simpa [gid] using World.var?_cell g8 (look 6 _ rfl) 0
  · have hlt : (if i < 7 then i - 1 else i - 2) < ads.length := by
      obtain ⟨k1, k2, k3⟩ := hi
      split <;> omega
    refine (hm (ads.getD (if i < 7 then i - 1 else i - 2) default) ?_).2
    rw [List.getD_eq_getElem?_getD, List.getElem?_eq_getElem hlt]
    exact List.getElem_mem _
  · intro e
    have hlt : (if i < 7 then i - 1 else i - 2) < ads.length := by
      obtain ⟨k1, k2, k3⟩ := hi
      split <;> omega
    have hlt' : (if j < 7 then j - 1 else j - 2) < ads.length := by
      obtain ⟨k1, k2, k3⟩ := hj
      split <;> omega
    have hne : (if i < 7 then i - 1 else i - 2) ≠ (if j < 7 then j - 1 else j - 2) := by
      obtain ⟨k1, k2, k3⟩ := hi
      obtain ⟨l1, l2, l3⟩ := hj
      split <;> split <;> omega
    simp only [List.getD_eq_getElem?_getD] at e
    rw [List.getElem?_eq_getElem hlt, List.getElem?_eq_getElem hlt'] at e
    simp only [Option.getD_some] at e
    have hpw := List.pairwise_iff_getElem.1 hn
    rcases Nat.lt_or_gt_of_ne hne with h | h
    · exact hpw _ _ _ _ h e
    · exact hpw _ _ _ _ h e.symm
  · simpa using World.var?_cell gErr e5 0

theorem door_met (os : Os) (args : Array Value) : laidMetH Tryz.prog laidAll ((World.doorLaid Tryz.prog 400 os).forCall (fun _ _ => 0) ⟨#[], args, []⟩).memory :=
  laidMetH_of_parts3 (fuel := 8) (laidMet_of_run' 8 (by kernel_rfl) (by kernel_rfl)) (by kernel_rfl) (by kernel_rfl)
end Go.Proofs.YtnnlkolhahjokaaGreatDoor

/- Lift -/
namespace Go.Proofs.YtnnlkolhahjokaaGreatDoor
open Go.ChangeShapes Go.WideShapes Go.ChangeAt Go.RowKit Go.Joins Go.Deep

theorem laidOutA : laidOutB Tryz.prog = true := by kernel_rfl

theorem trodAll_below {H : Type} {enc : TypeId × Value → H} {P : Program} (hl : laidOutB P = true) {W W' : World} (hb : Below W.heap.size W W') :
    ∀ (ts : List TypeId) (vs : List Value) (ds : List (DataW H)) (ps : List MemPlace), (∀ t ∈ ts, P.readableRec t = true ∧ t < P.types.size) → DataW.TrodAll enc P W 0 (fun _ => true) true ts vs ds ps →
      DataW.TrodAll enc P W' 0 (fun b => decide (b < W.heap.size)) true ts vs ds ps
  | [], vs, ds, ps, _, h => by
    obtain ⟨rfl, rfl, rfl⟩ := trodAll_nil h
    exact trodAll_mk0
  | t :: ts, vs, ds, ps, hr, h => by
    have hlt := h.lt
    obtain ⟨v, vs', d, ds', p, q, rfl, rfl, rfl, h0, r0⟩ := trodAll_cons h
    refine trodAll_cons_mk (Below.trod hl (hr t List.mem_cons_self).1 (hr t List.mem_cons_self).2 h0 hb (fun x hx => hlt x (List.mem_append_left _ hx))) (trodAll_below hl hb ts vs' ds' q (fun u hu => hr u (List.mem_cons_of_mem _ hu)) r0)

end Go.Proofs.YtnnlkolhahjokaaGreatDoor

/- Ints -/
namespace Go.Proofs.YtnnlkolhahjokaaGreatDoor
open Go.RowKit Go.Extern.Stop Go.Stop Go.Extern

def errVal (a : Nat → Addr) : Nat → Value
  | 0 => .nilIface
  | k + 1 => errAt (a k)

end Go.Proofs.YtnnlkolhahjokaaGreatDoor
