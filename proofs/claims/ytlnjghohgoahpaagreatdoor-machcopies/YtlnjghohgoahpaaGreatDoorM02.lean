import Derived.Test.YtlnjghohgoahpaaGreatDoorM01
import Derived.Below
import Derived.Outline
import Derived.Test.YtlnjghohgoahpaaGreatDoorRows
import Derived.ProofKit
import Derived.LaidMore
import Derived.OpenShut
import Derived.Stop.Joined
import Derived.Stop.LaidErr
import Derived.LaidHandle

/- Base -/
namespace Go.Proofs.YtlnjghohgoahpaaGreatDoor
open Go.RowKit Go.Extern.Stop Go.Stop Go.Extern

def gid : Nat → Nat
  | 0 => 3 | 1 => 0 | 2 => 4 | 3 => 5 | 4 => 6
  | 5 => 7 | 6 => 2 | 7 => 8 | _ => 1

abbrev errAt (a : Addr) : Value := .iface 263 (.pointer (some a))

structure Env (a : Nat → Addr) (w : World) : Prop where
  cell : ∀ i, i < 9 → w.cell? ⟨gid i, 0, none⟩ = some (errAt (a i))
  row : ∀ i, i < 9 → ∃ c t, w.heap[(a i).block]? = some (.cells c t (0, 0))
  ne : ∀ i j, i < 9 → j < 9 → i ≠ j → a i ≠ a j
  handle : w.cell? ⟨9, 0, none⟩ = some (.iface 223 (.agg #[.pointer (some ⟨10, 31, none⟩)]))


theorem Env.glt {a : Nat → Addr} {w : World} (h : Env a w) {i : Nat} (hi : i < 9) : gid i < w.heap.size := World.block_lt_of_cell? w _ (h.cell i hi)
theorem Env.alt {a : Nat → Addr} {w : World} (h : Env a w) {i : Nat} (hi : i < 9) : (a i).block < w.heap.size := by
  obtain ⟨c, t, e⟩ := h.row i hi
  exact lt_of_block e
theorem Env.hlt {a : Nat → Addr} {w : World} (h : Env a w) : 9 < w.heap.size := World.block_lt_of_cell? w _ h.handle

theorem Env.below {a : Nat → Addr} {w w' : World} (h : Env a w) (hb : ∀ k, k < w.heap.size → w'.heap[k]? = w.heap[k]?) : Env a w' where
  cell i hi := by rw [World.cell?_of_block (w := w) (hb _ (h.glt hi))]; exact h.cell i hi
  row i hi := by rw [hb _ (h.alt hi)]; exact h.row i hi
  ne := h.ne
  handle := by rw [World.cell?_of_block (w := w) (hb _ h.hlt)]; exact h.handle

theorem code_nil (w : World) :
    Calls Tryz.prog 46 #[.nilIface] w fun e w' => e = .returned (.tuple #[.int .i64 0, .int .i64 (-1)]) ∧ w' = w := by
  go_enter Tryz.func46, Tryz.ntmps46
  go_wp2
  go_ret2
  exact ⟨rfl, rfl⟩

theorem nine (a : Nat → Addr) (j : Nat) (h : j < 9) : ([errAt (a 0), errAt (a 1), errAt (a 2), errAt (a 3), errAt (a 4), errAt (a 5), errAt (a 6), errAt (a 7), errAt (a 8)] : List Value)[j]? = some (errAt (a j)) := by
  match j, h with
  | 0, _ => rfl
  | 1, _ => rfl
  | 2, _ => rfl
  | 3, _ => rfl
  | 4, _ => rfl
  | 5, _ => rfl
  | 6, _ => rfl
  | 7, _ => rfl
  | 8, _ => rfl

theorem as_miss' (e t : Addr) (w : World) (hg : w.cell? ⟨9, 0, none⟩ = some (.iface 223 (.agg #[.pointer (some ⟨10, 31, none⟩)]))) :
    Calls Tryz.prog 83 #[errAt e, .iface 171 (.pointer (some t))] w fun ev w' => ev = .returned (.bool false) ∧ Below w.heap.size w w' :=
  (as_miss e t w hg).mono fun _ _ ⟨h, h'⟩ => ⟨h, by rw [h']; exact (((Below.refl _ _).alloc (Nat.le_refl _) _).alloc (by simp) _).alloc (by simp; omega) _⟩

theorem as_hit' (e t : Addr) (old : Value) (w : World) (hg : w.cell? ⟨9, 0, none⟩ = some (.iface 223 (.agg #[.pointer (some ⟨10, 31, none⟩)]))) (ht0 : w.cell? t = some old) (hf0 : w.frozen? t = false) :
    Calls Tryz.prog 83 #[.iface 157 (.pointer (some e)), .iface 171 (.pointer (some t))] w fun ev w' => ev = .returned (.bool true) ∧ w'.cell? t = some (.pointer (some e)) ∧ Below t.block w w' := by
  have htl : t.block < w.heap.size := World.block_lt_of_cell? w _ ht0
  refine (as_hit e t old w hg ht0 hf0).mono fun _ _ ⟨h, h'⟩ => ⟨h, ?_, ?_⟩
  · rw [h']
    refine World.cell?_setCell_same _ _ _ (u := old) ?_
    rw [World.cell?_alloc_lt _ _ t (by simp; omega), World.cell?_alloc_lt _ _ t (by simp; omega), World.cell?_alloc_lt _ _ t (by simp; omega), World.cell?_alloc_lt _ _ t htl]
    exact ht0
  · rw [h']
    exact (((((Below.refl _ _).alloc (by omega) _).alloc (by simp; omega) _).alloc (by simp; omega) _).alloc (by simp; omega) _).setCell (Nat.le_refl _) _

def codeNum (k : Nat) : Int := if k < 9 then (k : Int) + 1 else -1

theorem below_drop {w w2 : World} {o : Obj} (h : Below (w.alloc o).heap.size (w.alloc o) w2) : Below w.heap.size w w2 :=
  ((Below.refl _ _).alloc (Nat.le_refl _) o).trans (h.mono (by simp))

set_option maxHeartbeats 1000000 in
theorem code_miss (a : Nat → Addr) (e : Addr) (k : Nat) (w : World) (hE : Env a w) (hne : ∀ j, j < 9 → j < k → e ≠ a j) (heq : k < 9 → e = a k) (hk9 : k ≤ 9) (ca : Array Value) (ta : TypeId) (hrow : w.heap[e.block]? = some (.cells ca ta (0, 0))) :
    Calls Tryz.prog 46 #[errAt e] w fun ev w' => ev = .returned (.tuple #[.int .i64 (codeNum k), .int .i64 (-1)]) ∧ Below w.heap.size w w' := by
  have hE0 : Env a (w.alloc (.cells #[.pointer none] 157)) := hE.below fun k hk => Below.heap_alloc _ _ _ hk
  have H0 : Hid (∀ (t : Addr) (w0 : World), w0 = w.alloc (.cells #[.pointer none] 157) → Calls Tryz.prog 83 #[errAt e, .iface 171 (.pointer (some t))] w0 fun ev w' => ev = .returned (.bool false) ∧ Below w0.heap.size w0 w') := fun t w0 h => as_miss' e t w0 (by rw [h]; exact hE0.handle)
  have hel := lt_of_block hrow
  go_enter Tryz.func46, Tryz.ntmps46
  go_wp2_with fail
  refine (H0.out _ _ rfl).mono ?_
  rintro e0 w1 ⟨rfl, hb1⟩
  have hE1 : Env a w1 := hE0.below hb1.block
  have hbW : Below w.heap.size w w1 := below_drop hb1
  have hre : (w1.alloc (.cells #[errAt (a 0), errAt (a 1), errAt (a 2), errAt (a 3), errAt (a 4), errAt (a 5), errAt (a 6), errAt (a 7), errAt (a 8)] 31)).heap[e.block]? = some (.cells ca ta (0, 0)) := by
    rw [Below.heap_alloc _ _ _ (Nat.lt_of_lt_of_le (by simp; omega) hb1.size), hb1.block _ (by simp; omega), Below.heap_alloc _ _ _ hel]; exact hrow
  have c0 : w1.cell? ⟨3, 0, none⟩ = some (errAt (a 0)) := hE1.cell 0 (by decide)
  have c1 : w1.cell? ⟨0, 0, none⟩ = some (errAt (a 1)) := hE1.cell 1 (by decide)
  have c2 : w1.cell? ⟨4, 0, none⟩ = some (errAt (a 2)) := hE1.cell 2 (by decide)
  have c3 : w1.cell? ⟨5, 0, none⟩ = some (errAt (a 3)) := hE1.cell 3 (by decide)
  have c4 : w1.cell? ⟨6, 0, none⟩ = some (errAt (a 4)) := hE1.cell 4 (by decide)
  have c5 : w1.cell? ⟨7, 0, none⟩ = some (errAt (a 5)) := hE1.cell 5 (by decide)
  have c6 : w1.cell? ⟨2, 0, none⟩ = some (errAt (a 6)) := hE1.cell 6 (by decide)
  have c7 : w1.cell? ⟨8, 0, none⟩ = some (errAt (a 7)) := hE1.cell 7 (by decide)
  have c8 : w1.cell? ⟨1, 0, none⟩ = some (errAt (a 8)) := hE1.cell 8 (by decide)
  go_wp2_with fail
  have hc : ∀ j, j < 9 → (w1.alloc (.cells #[errAt (a 0), errAt (a 1), errAt (a 2), errAt (a 3), errAt (a 4), errAt (a 5), errAt (a 6), errAt (a 7), errAt (a 8)] 31)).cell? ⟨w1.heap.size, j, none⟩ = some (errAt (a j)) := fun j hj => by
    rw [World.cell?_alloc_new]; simpa using nine a j hj
  have hE2 := hE1.below fun k hk => Below.heap_alloc w1 (.cells #[errAt (a 0), errAt (a 1), errAt (a 2), errAt (a 3), errAt (a 4), errAt (a 5), errAt (a 6), errAt (a 7), errAt (a 8)] 31) _ hk
  have hb2 := hbW.alloc hbW.size (.cells #[errAt (a 0), errAt (a 1), errAt (a 2), errAt (a 3), errAt (a 4), errAt (a 5), errAt (a 6), errAt (a 7), errAt (a 8)] 31)
  clear c0 c1 c2 c3 c4 c5 c6 c7 c8 hE0 H0 hE1 
  generalize hw2 : w1.alloc (.cells #[errAt (a 0), errAt (a 1), errAt (a 2), errAt (a 3), errAt (a 4), errAt (a 5), errAt (a 6), errAt (a 7), errAt (a 8)] 31) = w2 at hc hE2 hb2 hre ⊢
  clear hw2
  go_loop [2, 3, 5, 6, 27] (fun _ t _ _ i => t = .int .i64 (-1) ∧ ∃ j : Nat, j ≤ k ∧ j ≤ 9 ∧ i = .int .i64 j) (fun _ _ _ _ i => 9 - (intOf i).toNat)
  case atStart => exact ⟨rfl, 0, Nat.zero_le _, by decide, rfl⟩
  case round =>
    obtain ⟨rfl, j, hj, hj9, rfl⟩ := hrel
    by_cases h9 : j < 9
    · have hcj := hc j h9
      obtain ⟨cb, tb, hrb⟩ := hE2.row j h9
      by_cases hlt : j < k
      · have hnej := hne j h9 hlt
        go_wp2_with fail
        refine (is_other e (a j) ca cb ta tb w2 hnej hre hrb).mono ?_
        rintro e w3 ⟨rfl, rfl⟩
        go_wp2
        go_round
        case rel => exact ⟨rfl, j + 1, by omega, by omega, by go_num⟩
        case measure => simp [intOf]; omega
      · obtain rfl : j = k := by omega
        have hek := heq h9
        subst hek
        go_wp2_with fail
        refine (is_same (a j) w2).mono ?_
        rintro e w3 ⟨rfl, rfl⟩
        go_wp2
        go_ret2
        exact ⟨by rw [codeNum, if_pos h9]; simp, hb2⟩
    · obtain rfl : j = k := by omega
      go_wp2
      go_ret2
      exact ⟨by rw [codeNum, if_neg h9]; rfl, hb2⟩
theorem code_sent (a : Nat → Addr) (k : Nat) (hk : k < 9) (w : World) (hE : Env a w) :
    Calls Tryz.prog 46 #[errAt (a k)] w fun ev w' => ev = .returned (.tuple #[.int .i64 (k + 1 : Nat), .int .i64 (-1)]) ∧ Below w.heap.size w w' := by
  obtain ⟨c, t, hr⟩ := hE.row k hk
  refine (code_miss a (a k) k w hE (fun j hj hlt => hE.ne k j hk hj (by omega)) (fun _ => rfl) (by omega) c t hr).mono fun _ _ ⟨h, h'⟩ => ⟨?_, h'⟩
  rw [h, codeNum, if_pos hk]; rfl

end Go.Proofs.YtlnjghohgoahpaaGreatDoor

/- Laid -/
namespace Go.Proofs.YtlnjghohgoahpaaGreatDoor
open Go.ChangeShapes Go.WideShapes Go.ChangeAt Go.RowKit

theorem own : ownKnob Tryz.prog.godebug = none := by kernel_rfl

def sentOf (x : String × List UInt8) : String × DataW Unit := (x.1, .iface "*errors.errorString" (.ptr (.agg [.lit (.string x.2)])))

theorem sents_of_laid {P : Program} {ti tp te ts : TypeId} {ms : Array (String × TypeId)} {f : Field} {W : World}
    (hi : P.underlying ti = some (.interface ms)) (hrow : ∀ u, P.typeName? 3 u = some "*errors.errorString" → u = tp)
    (hp : P.underlying tp = some (.pointer te)) (he : P.underlying te = some (.struct #[f])) (hft : f.type = ts) (hfo : f.offset = 0) (hs : P.underlying ts = some .string) (hc : P.cellsOf te = 1) (hcs : P.cellsOf ts = 1) :
    ∀ (l : List (String × List UInt8)) (ps : List MemPlace), DataW.LaidVars P W (l.map sentOf) ps → ps.Nodup →
      (∀ b off, MemPlace.cell b off ∈ ps → (∃ c t, W.heap[b]? = some (.cells c t (0, 0))) ∧ ∀ u v, W.cell? ⟨b, off, none⟩ = some (.iface u v) → Value.okWide P W .any 0 u v) →
      (∀ x ∈ l, ∃ g, P.globalNamed x.1 = some g ∧ (P.globals[g]?).map (·.type) = some ti) →
      ∃ ads : List Addr, ads.length = l.length ∧ ads.Nodup ∧ (∀ a ∈ ads, MemPlace.cell a.block a.off ∈ ps ∧ ∃ c t, W.heap[a.block]? = some (.cells c t (0, 0))) ∧
        ∀ (i : Nat) (x : String × List UInt8), l[i]? = some x → ∃ a, ads[i]? = some a ∧ W.var? P x.1 = some #[.iface tp (.pointer (some a))]
  | [], _, _, _, _, _ => ⟨[], rfl, List.nodup_nil, fun _ h => absurd h List.not_mem_nil, fun i x h => by simp at h⟩
  | x :: r, ps, h, hnd, hrows, hg => by
    obtain ⟨g, t, cs, fuel, p, q, hg1, ht1, hv1, hd1, hr, rfl⟩ := h
    obtain ⟨g', hg', ht'⟩ := hg x (List.mem_cons_self)
    obtain rfl := Option.some.inj (hg'.symm.trans hg1)
    obtain rfl := Option.some.inj (ht'.symm.trans ht1)
    obtain ⟨cl⟩ := cs
    have ok : ∀ u v, cl = [.iface u v] → Value.okWide P W .any 0 u v := fun u v e => by
      subst e
      exact (hrows g' 0 (by simp [MemPlace.row])).2 u v (by simpa using World.var?_cell hg1 hv1 0)
    obtain ⟨a, s, rfl, _, _, _, rfl⟩ := errorString_of_trod hi hrow hp he hft hfo hs hc hcs hd1 ok
    obtain ⟨ads, hl, hn, hm, hat⟩ := sents_of_laid hi hrow hp he hft hfo hs hc hcs r q hr (List.Nodup.sublist (List.sublist_append_right _ _) hnd) (fun b off hb => hrows b off (List.mem_append_right _ hb)) (fun y hy => hg y (List.mem_cons_of_mem _ hy))
    refine ⟨a :: ads, by simp [hl], List.nodup_cons.2 ⟨fun ha => ?_, hn⟩, fun b hb => ?_, fun i y hy => ?_⟩
    · have := (hm a ha).1
      rw [List.append_assoc] at hnd
      have h2 := (List.nodup_append.1 (List.nodup_append.1 hnd).2.1).2.2
      exact h2 (MemPlace.cell a.block a.off) (by simp [MemPlace.row]) _ this rfl
    · rcases List.mem_cons.1 hb with rfl | hb'
      · exact ⟨by simp [MemPlace.row], (hrows b.block b.off (by simp [MemPlace.row])).1⟩
      · exact ⟨List.mem_append_right _ (hm b hb').1, (hm b hb').2⟩
    · cases i with
      | zero =>
        simp only [List.getElem?_cons_zero, Option.some.injEq] at hy
        subst hy
        exact ⟨a, rfl, hv1⟩
      | succ i =>
        simp only [List.getElem?_cons_succ] at hy ⊢
        exact hat i y hy

def nineTexts : List (String × List UInt8) := [("quiescent/api.ErrText", [113, 117, 105, 101, 115, 99, 101, 110, 116, 58, 32, 116, 101, 120, 116]), ("quiescent/api.ErrBound", [113, 117, 105, 101, 115, 99, 101, 110, 116, 58, 32, 98, 111, 117, 110, 100]), ("quiescent/api.ErrShape", [113, 117, 105, 101, 115, 99, 101, 110, 116, 58, 32, 115, 104, 97, 112, 101]), ("quiescent/api.ErrName", [113, 117, 105, 101, 115, 99, 101, 110, 116, 58, 32, 110, 97, 109, 101]), ("quiescent/api.ErrNone", [113, 117, 105, 101, 115, 99, 101, 110, 116, 58, 32, 110, 111, 110, 101]), ("quiescent/api.ErrFull", [113, 117, 105, 101, 115, 99, 101, 110, 116, 58, 32, 102, 117, 108, 108]), ("quiescent/api.ErrStale", [113, 117, 105, 101, 115, 99, 101, 110, 116, 58, 32, 115, 116, 97, 108, 101]), ("quiescent/api.ErrHeld", [113, 117, 105, 101, 115, 99, 101, 110, 116, 58, 32, 104, 101, 108, 100]), ("quiescent/api.ErrDone", [113, 117, 105, 101, 115, 99, 101, 110, 116, 58, 32, 100, 111, 110, 101])]

def laidAll : List (String × DataW Unit) := ("errors.errorType", Rows.laid_errors_errorType) :: nineTexts.map sentOf

theorem handlesOnly : (laidAll.filter fun x => x.2.handleName?.isSome) = [("errors.errorType", Rows.laid_errors_errorType)] := by kernel_rfl
theorem nineOnly : (laidAll.filter fun x => x.2.handleName?.isNone) = nineTexts.map sentOf := by kernel_rfl

theorem gErr : Tryz.prog.globalNamed "errors.errorType" = some 9 := by kernel_rfl
theorem g0 : Tryz.prog.globalNamed "quiescent/api.ErrText" = some 3 := by kernel_rfl
theorem g1 : Tryz.prog.globalNamed "quiescent/api.ErrBound" = some 0 := by kernel_rfl
theorem g2 : Tryz.prog.globalNamed "quiescent/api.ErrShape" = some 4 := by kernel_rfl
theorem g3 : Tryz.prog.globalNamed "quiescent/api.ErrName" = some 5 := by kernel_rfl
theorem g4 : Tryz.prog.globalNamed "quiescent/api.ErrNone" = some 6 := by kernel_rfl
theorem g5 : Tryz.prog.globalNamed "quiescent/api.ErrFull" = some 7 := by kernel_rfl
theorem g6 : Tryz.prog.globalNamed "quiescent/api.ErrStale" = some 2 := by kernel_rfl
theorem g7 : Tryz.prog.globalNamed "quiescent/api.ErrHeld" = some 8 := by kernel_rfl
theorem g8 : Tryz.prog.globalNamed "quiescent/api.ErrDone" = some 1 := by kernel_rfl
theorem gT0 : (Tryz.prog.globals[3]?).map (·.type) = some 31 := by kernel_rfl
theorem gT1 : (Tryz.prog.globals[0]?).map (·.type) = some 31 := by kernel_rfl
theorem gT2 : (Tryz.prog.globals[4]?).map (·.type) = some 31 := by kernel_rfl
theorem gT3 : (Tryz.prog.globals[5]?).map (·.type) = some 31 := by kernel_rfl
theorem gT4 : (Tryz.prog.globals[6]?).map (·.type) = some 31 := by kernel_rfl
theorem gT5 : (Tryz.prog.globals[7]?).map (·.type) = some 31 := by kernel_rfl
theorem gT6 : (Tryz.prog.globals[2]?).map (·.type) = some 31 := by kernel_rfl
theorem gT7 : (Tryz.prog.globals[8]?).map (·.type) = some 31 := by kernel_rfl
theorem gT8 : (Tryz.prog.globals[1]?).map (·.type) = some 31 := by kernel_rfl
theorem nineG : ∀ x ∈ nineTexts, ∃ g, Tryz.prog.globalNamed x.1 = some g ∧ (Tryz.prog.globals[g]?).map (·.type) = some 31 := by
  intro x hx
  simp only [nineTexts, List.mem_cons, List.not_mem_nil, or_false] at hx
  rcases hx with rfl | rfl | rfl | rfl | rfl | rfl | rfl | rfl | rfl
  · exact ⟨_, g0, gT0⟩
  · exact ⟨_, g1, gT1⟩
  · exact ⟨_, g2, gT2⟩
  · exact ⟨_, g3, gT3⟩
  · exact ⟨_, g4, gT4⟩
  · exact ⟨_, g5, gT5⟩
  · exact ⟨_, g6, gT6⟩
  · exact ⟨_, g7, gT7⟩
  · exact ⟨_, g8, gT8⟩

theorem rtypeIs : (Tryz.prog.cutTypes.find? (·.1 == "internal/reflectlite.rtype")).map (·.2) = some 223 := by kernel_rfl
theorem errorRows : ((List.range 295).filter fun t => Tryz.prog.rowNamed t [101, 114, 114, 111, 114]) = [31] := by kernel_rfl
theorem manyTypes : Tryz.prog.types.size = 295 := by kernel_rfl
theorem handleIs : typeHandle Tryz.prog 31 = .pointer (some ⟨10, 31, none⟩) := by kernel_rfl
theorem star : "*" ++ "errors.errorString" = "*errors.errorString" := by decide
theorem errName (u : TypeId) (h : Tryz.prog.typeName? 3 u = some "*errors.errorString") : u = 263 :=
  typeName_ptr_named (nm := "errors.errorString") (by rw [star]; kernel_rfl) (by kernel_rfl) (by decide) u (by rw [star]; exact h)
theorem esStruct : ∃ f : Field, Tryz.prog.underlying 283 = some (.struct #[f]) ∧ f.type = 9 ∧ f.offset = 0 := ⟨_, Tryz.underlying283, rfl, rfl⟩
theorem esCells : Tryz.prog.cellsOf 283 = 1 := by kernel_rfl
theorem strCells : Tryz.prog.cellsOf 9 = 1 := by kernel_rfl

theorem env_of_laid {W : World} (h : laidMetH Tryz.prog laidAll W) : ∃ a, Env a W := by
  unfold laidMetH at h
  rw [handlesOnly, nineOnly] at h
  simp only at h
  obtain ⟨⟨ps, hv, hnd, hrows⟩, hh⟩ := h
  obtain ⟨f, hf, hft, hfo⟩ := esStruct
  obtain ⟨ads, hl, hn, hm, hat⟩ := sents_of_laid (f := f) Tryz.underlying31 errName Tryz.underlying263 hf hft hfo Tryz.underlying9 esCells strCells nineTexts ps hv hnd hrows nineG
  have hl9 : ads.length = 9 := hl
  have hh1 := hh _ (List.mem_singleton.2 rfl)
  obtain ⟨name, u, ty, e1, e2, e3, e4, e5⟩ := (show ∃ name u ty, (Rows.laid_errors_errorType : DataW Unit).handleName? = some name ∧ (Tryz.prog.cutTypes.find? (·.1 == "internal/reflectlite.rtype")).map (·.2) = some u ∧ ty < Tryz.prog.types.size ∧ Tryz.prog.rowNamed ty name = true ∧ W.var? Tryz.prog "errors.errorType" = some #[.iface u (.agg #[typeHandle Tryz.prog ty])] from hh1)
  have en : name = [101, 114, 114, 111, 114] := (Option.some.inj e1).symm
  subst en
  obtain rfl := Option.some.inj (rtypeIs.symm.trans e2)
  have hmm : ty ∈ (List.range 295).filter fun t => Tryz.prog.rowNamed t [101, 114, 114, 111, 114] := List.mem_filter.2 ⟨List.mem_range.2 (by rw [← manyTypes]; exact e3), e4⟩
  rw [errorRows] at hmm
  obtain rfl := List.mem_singleton.1 hmm
  rw [handleIs] at e5
  have look : ∀ (i : Nat) (x : String × List UInt8), nineTexts[i]? = some x → W.var? Tryz.prog x.1 = some #[errAt (ads.getD i default)] := fun i x hx => by
    obtain ⟨a, ha, hva⟩ := hat i x hx
    rw [List.getD_eq_getElem?_getD, ha]; exact hva
  refine ⟨fun i => ads.getD i default, ⟨fun i hi => ?_, fun i hi => ?_, fun i j hi hj hij => ?_, ?_⟩⟩
  · match i, hi with
    | 0, _ => simpa [gid] using World.var?_cell g0 (look 0 _ rfl) 0
    | 1, _ => simpa [gid] using World.var?_cell g1 (look 1 _ rfl) 0
    | 2, _ => simpa [gid] using World.var?_cell g2 (look 2 _ rfl) 0
    | 3, _ => simpa [gid] using World.var?_cell g3 (look 3 _ rfl) 0
    | 4, _ => simpa [gid] using World.var?_cell g4 (look 4 _ rfl) 0
    | 5, _ => simpa [gid] using World.var?_cell g5 (look 5 _ rfl) 0
    | 6, _ => simpa [gid] using World.var?_cell g6 (look 6 _ rfl) 0
    | 7, _ => simpa [gid] using World.var?_cell g7 (look 7 _ rfl) 0
    | 8, _ => simpa [gid] using World.var?_cell g8 (look 8 _ rfl) 0
  · refine (hm (ads.getD i default) ?_).2
    rw [List.getD_eq_getElem?_getD, List.getElem?_eq_getElem (by omega)]
    exact List.getElem_mem _
  · intro e
    simp only [List.getD_eq_getElem?_getD] at e
    rw [List.getElem?_eq_getElem (show i < ads.length by omega), List.getElem?_eq_getElem (show j < ads.length by omega)] at e
    simp only [Option.getD_some] at e
    have hpw := List.pairwise_iff_getElem.1 hn
    rcases Nat.lt_or_gt_of_ne hij with h | h
    · exact hpw i j _ _ h e
    · exact hpw j i _ _ h e.symm
  · simpa using World.var?_cell gErr e5 0

theorem door_met (os : Os) (args : Array Value) : laidMetH Tryz.prog laidAll ((World.doorLaid Tryz.prog 400 os).forCall (fun _ _ => 0) ⟨#[], args, []⟩).memory :=
  laidMetH_of_parts3 (fuel := 8) (laidMet_of_run' 8 (by kernel_rfl) (by kernel_rfl)) (by kernel_rfl) (by kernel_rfl)
end Go.Proofs.YtlnjghohgoahpaaGreatDoor
