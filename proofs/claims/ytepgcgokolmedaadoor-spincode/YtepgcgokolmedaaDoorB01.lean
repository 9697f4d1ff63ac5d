import Derived.Test.YtepgcgokolmedaaDoorProg
import Derived.WalkKit
import Derived.LaidEql
import Derived.Stop.Asserts
import Derived.RowKitTokens
import Derived.Below
import Derived.Laws.World
import Derived.Deep.Quiet
import Derived.OwnWalk
import Derived.BigQuiet
import Derived.Outline

/- Errs -/
namespace Go.Proofs.YtepgcgokolmedaaDoor
open Go.RowKit Go.Extern.Stop Go.Stop Go.Extern

theorem isTypeOf (v : Value) (w : World) : (Extern.ReflectliteType.typeOf #[.iface 141 v]).run Tryd.prog w = .ok (.iface 127 (.agg #[.pointer (some ⟨10, 141, none⟩)])) w := by kernel_rfl
theorem isComparable (w : World) : ((Extern.ReflectliteType.method fun t => do Rtype.noPackHeld "Comparable" t; pure (.bool (← typeInfo t).comparable)) #[.agg #[.pointer (some ⟨10, 141, none⟩)]]).run Tryd.prog w = .ok (.bool true) w := by kernel_rfl
theorem callComparable (w : World) : (callFunc 89 #[.agg #[.pointer (some ⟨10, 141, none⟩)]]).run Tryd.prog w = .ok (.value (.bool true)) w := by
  rw [@run_callFunc_extern Tryd.prog 89 _ (Extern.ReflectliteType.method fun t => do Rtype.noPackHeld "Comparable" t; pure (.bool (← typeInfo t).comparable)) Tryd.func89 (by kernel_rfl) (by kernel_rfl) (by kernel_rfl) (by kernel_rfl), isComparable]
  rfl
theorem isMethodComparable (v : Value) (w : World) : (Go.method 274 127 v "Comparable").run Tryd.prog w = .ok (89, v) w := by kernel_rfl
theorem isComp : (Tryd.prog.info? 141).map (·.comparable) = some true := by kernel_rfl
theorem isSize : (Tryd.prog.info? 163).map (·.size) = some 1 := by kernel_rfl

theorem noIsE (v : Value) (xT : TypeId) (w : World) : (Instr.typeAssert (.iface 141 v) xT 138 true).run Tryd.prog w = .ok (.tuple #[.nilIface, .bool false]) w := run_typeAssert_lacksB Tryd.underlying138 (by kernel_rfl) (by kernel_rfl) v xT w
theorem noUnwrapE (v : Value) (xT : TypeId) (w : World) : (Instr.typeAssert (.iface 141 v) xT 134 true).run Tryd.prog w = .ok (.tuple #[.nilIface, .bool false]) w := run_typeAssert_lacksB Tryd.underlying134 (by kernel_rfl) (by kernel_rfl) v xT w
theorem noUnwrapsE (v : Value) (xT : TypeId) (w : World) : (Instr.typeAssert (.iface 141 v) xT 136 true).run Tryd.prog w = .ok (.tuple #[.nilIface, .bool false]) w := run_typeAssert_lacksB Tryd.underlying136 (by kernel_rfl) (by kernel_rfl) v xT w
theorem noAsE (v : Value) (xT : TypeId) (w : World) : (Instr.typeAssert (.iface 141 v) xT 131 true).run Tryd.prog w = .ok (.tuple #[.nilIface, .bool false]) w := run_typeAssert_lacksB Tryd.underlying131 (by kernel_rfl) (by kernel_rfl) v xT w
theorem is_same (a : Addr) (w : World) :
    Calls Tryd.prog 35 #[.iface 141 (.pointer (some a)), .iface 141 (.pointer (some a))] w fun e w' => e = .returned (.bool true) ∧ w' = w := by
  obtain ⟨i, hi, hcmp⟩ := Option.map_eq_some_iff.1 isComp
  obtain ⟨j, hj, hjs⟩ := Option.map_eq_some_iff.1 isSize
  have h8 := @run_callFunc_extern Tryd.prog 52 _ Extern.ReflectliteType.typeOf Tryd.func52 (by kernel_rfl) (by kernel_rfl) (by kernel_rfl) (by kernel_rfl)
  have tT := isTypeOf
  have cT := callComparable
  have mR := isMethodComparable
  have heq := run_eql_iface_ptr_same (P := Tryd.prog) w a Tryd.underlying25 Tryd.underlying141 hi hcmp hj
  go_enter Tryd.func35, Tryd.ntmps35
  go_wp2
  refine wp_loop_rounds 1 ?_
  rw [rounds_succ]
  go_wp2
  go_ret
  exact ⟨rfl, rfl⟩

theorem is_other (a b : Addr) (ca cb : Array Value) (ta tb : TypeId) (w : World) (hne : a ≠ b) (ha : w.heap[a.block]? = some (.cells ca ta (0, 0))) (hb : w.heap[b.block]? = some (.cells cb tb (0, 0))) :
    Calls Tryd.prog 35 #[.iface 141 (.pointer (some a)), .iface 141 (.pointer (some b))] w fun e w' => e = .returned (.bool false) ∧ w' = w := by
  obtain ⟨i, hi, hcmp⟩ := Option.map_eq_some_iff.1 isComp
  obtain ⟨j, hj, hjs⟩ := Option.map_eq_some_iff.1 isSize
  have h8 := @run_callFunc_extern Tryd.prog 52 _ Extern.ReflectliteType.typeOf Tryd.func52 (by kernel_rfl) (by kernel_rfl) (by kernel_rfl) (by kernel_rfl)
  have tT := isTypeOf
  have cT := callComparable
  have mR := isMethodComparable
  have nE := noIsE
  have uE := noUnwrapE
  have vE := noUnwrapsE
  have heq := run_eql_iface_ptr_other (P := Tryd.prog) w Tryd.underlying25 Tryd.underlying141 hi hcmp hj (by rw [hjs]; decide) hne ha hb
  go_enter Tryd.func35, Tryd.ntmps35
  go_wp2
  refine wp_loop_rounds 1 ?_
  rw [rounds_succ]
  go_wp2
  go_ret
  exact ⟨rfl, rfl⟩

/-! ### errors.As, the target a pointer to a variable of type pointer to api.Fault -/
theorem valueOfPP (t : Addr) (w : World) : (ReflectliteValue.unpack (.iface 85 (.pointer (some t)))).run Tryd.prog w
    = .ok (.agg #[.pointer (some ⟨10, 85, none⟩), .pointer (some ⟨w.heap.size, 0, none⟩), .int .u64 150]) (w.alloc (.cells #[.pointer (some t)] 85)) := by kernel_rfl
theorem typePP (a : Addr) (w : World) : (ReflectliteValue.methodAny (ReflectliteValue.valueError "reflectlite.Value.Type" 0) (fun t _ _ _ => ReflectliteType.toType t) #[.agg #[.pointer (some ⟨10, 85, none⟩), .pointer (some a), .int .u64 150]]).run Tryd.prog w
    = .ok (.iface 127 (.agg #[.pointer (some ⟨10, 85, none⟩)])) w := by kernel_rfl
theorem methodKind (h : Value) (w : World) : (Go.method 274 127 (.agg #[h]) "Kind").run Tryd.prog w = .ok (78, h) w := by kernel_rfl
theorem kindPP (w : World) : ((ReflectliteType.abiMethod fun t => (fun a : Nat => Value.int IntKind.u8 (a : Int)) <$> Rtype.kind t) #[.pointer (some ⟨10, 85, none⟩)]).run Tryd.prog w = .ok (.int .u8 22) w := by kernel_rfl
theorem kindP (w : World) : ((ReflectliteType.abiMethod fun t => (fun a : Nat => Value.int IntKind.u8 (a : Int)) <$> Rtype.kind t) #[.pointer (some ⟨10, 83, none⟩)]).run Tryd.prog w = .ok (.int .u8 22) w := by kernel_rfl
theorem rlm (z : Sem Value) (f : TypeId → Addr → Nat → Nat → Sem Value) (v : Value) :
    ReflectliteValue.method z f #[v] = (do match ← ReflectliteValue.parts v with | none => z | some (t, a, fl) => f t a fl (fl % 32)) := rfl
theorem partsPP (a : Addr) (w : World) : (ReflectliteValue.parts (.agg #[.pointer (some ⟨10, 85, none⟩), .pointer (some a), .int .u64 150])).run Tryd.prog w = .ok (some (85, a, 150)) w := by kernel_rfl
theorem isNilPP (a p : Addr) (W : World) (ha : W.cell? a = some (.pointer (some p))) :
    (ReflectliteValue.method (ReflectliteValue.valueError "reflectlite.Value.IsNil" 0) ReflectliteValue.isNil #[.agg #[.pointer (some ⟨10, 85, none⟩), .pointer (some a), .int .u64 150]]).run Tryd.prog W = .ok (.bool false) W := by
  rw [rlm]
  simp only [Sem.run_bind, partsPP, Result.andThen]
  simp [ReflectliteValue.isNil, loadVar, isAgg, underlying, Tryd.underlying85, ha, Result.andThen]
theorem methodElem (h : Value) (w : World) : (Go.method 274 127 (.agg #[h]) "Elem").run Tryd.prog w = .ok (90, .agg #[h]) w := by kernel_rfl
theorem methodImplements (h : Value) (w : World) : (Go.method 274 127 (.agg #[h]) "Implements").run Tryd.prog w = .ok (91, .agg #[h]) w := by kernel_rfl
theorem methodAssignableTo (h : Value) (w : World) : (Go.method 274 127 (.agg #[h]) "AssignableTo").run Tryd.prog w = .ok (88, .agg #[h]) w := by kernel_rfl
theorem elemPP (w : World) : (ReflectliteType.method ReflectliteType.elem #[.agg #[.pointer (some ⟨10, 85, none⟩)]]).run Tryd.prog w = .ok (.iface 127 (.agg #[.pointer (some ⟨10, 83, none⟩)])) w := by kernel_rfl
theorem implementsP (w : World) : (ReflectliteType.relation "Implements" ReflectliteType.implements_ #[.agg #[.pointer (some ⟨10, 83, none⟩)], .iface 127 (.agg #[.pointer (some ⟨10, 25, none⟩)])]).run Tryd.prog w = .ok (.bool true) w := by kernel_rfl
theorem assignableE (w : World) : (ReflectliteType.relation "AssignableTo" ReflectliteType.assignableTo #[.agg #[.pointer (some ⟨10, 141, none⟩)], .iface 127 (.agg #[.pointer (some ⟨10, 83, none⟩)])]).run Tryd.prog w = .ok (.bool false) w := by kernel_rfl
set_option maxHeartbeats 4000000 in
theorem as_miss (e t : Addr) (w : World) (hg : w.cell? ⟨9, 0, none⟩ = some (.iface 127 (.agg #[.pointer (some ⟨10, 25, none⟩)]))) :
    Calls Tryd.prog 34 #[.iface 141 (.pointer (some e)), .iface 85 (.pointer (some t))] w fun ev w' => ev = .returned (.bool false) ∧ w' = ((w.alloc (.cells #[.pointer (some t)] 85)).alloc (.cells #[.pointer (some ⟨10, 85, none⟩), .pointer (some ⟨w.heap.size, 0, none⟩), .int .u64 150] 104)).alloc (.cells #[.pointer (some ⟨10, 85, none⟩), .pointer (some ⟨w.heap.size, 0, none⟩), .int .u64 150] 104) := by
  have h6 := @run_callFunc_extern Tryd.prog 48 _ (fun args => ReflectliteValue.unpack (args.getD 0 (.tuple #[]))) Tryd.func48 (by kernel_rfl) (by kernel_rfl) (by kernel_rfl) (by kernel_rfl)
  have h7 := @run_callFunc_extern Tryd.prog 49 _ (ReflectliteValue.methodAny (ReflectliteValue.valueError "reflectlite.Value.Type" 0) (fun t _ _ _ => ReflectliteType.toType t)) Tryd.func49 (by kernel_rfl) (by kernel_rfl) (by kernel_rfl) (by kernel_rfl)
  have h8 := @run_callFunc_extern Tryd.prog 50 _ (ReflectliteValue.method (ReflectliteValue.valueError "reflectlite.Value.IsNil" 0) ReflectliteValue.isNil) Tryd.func50 (by kernel_rfl) (by kernel_rfl) (by kernel_rfl) (by kernel_rfl)
  have h27 := @run_callFunc_extern Tryd.prog 78 _ (ReflectliteType.abiMethod fun t => do pure (.int .u8 (← Rtype.kind t))) Tryd.func78 (by kernel_rfl) (by kernel_rfl) (by kernel_rfl) (by kernel_rfl)
  have h37 := @run_callFunc_extern Tryd.prog 90 _ (ReflectliteType.method ReflectliteType.elem) Tryd.func90 (by kernel_rfl) (by kernel_rfl) (by kernel_rfl) (by kernel_rfl)
  have h38 := @run_callFunc_extern Tryd.prog 91 _ (ReflectliteType.relation "Implements" ReflectliteType.implements_) Tryd.func91 (by kernel_rfl) (by kernel_rfl) (by kernel_rfl) (by kernel_rfl)
  have h10 := @run_callFunc_extern Tryd.prog 52 _ ReflectliteType.typeOf Tryd.func52 (by kernel_rfl) (by kernel_rfl) (by kernel_rfl) (by kernel_rfl)
  have h35 := @run_callFunc_extern Tryd.prog 88 _ (ReflectliteType.relation "AssignableTo" ReflectliteType.assignableTo) Tryd.func88 (by kernel_rfl) (by kernel_rfl) (by kernel_rfl) (by kernel_rfl)
  have tO := isTypeOf
  have mA := methodAssignableTo
  have a25 := assignableE
  have f6 := valueOfPP
  have f7 := typePP
  have mK := methodKind
  have mE := methodElem
  have mI := methodImplements
  have k27 := kindPP
  have k25 := kindP
  have e27 := elemPP
  have i25 := implementsP
  have nA := noAsE
  have uE := noUnwrapE
  have vE := noUnwrapsE
  have n8 := isNilPP ⟨w.heap.size, 0, none⟩ t ((w.alloc (.cells #[.pointer (some t)] 85)).alloc (.cells #[.pointer (some ⟨10, 85, none⟩), .pointer (some ⟨w.heap.size, 0, none⟩), .int .u64 150] 104)) (by simp)
  have hlt : 9 < w.heap.size := World.block_lt_of_cell? w _ hg
  have hg2 : ((w.alloc (.cells #[.pointer (some t)] 85)).alloc (.cells #[.pointer (some ⟨10, 85, none⟩), .pointer (some ⟨w.heap.size, 0, none⟩), .int .u64 150] 104)).cell? ⟨9, 0, none⟩ = some (.iface 127 (.agg #[.pointer (some ⟨10, 25, none⟩)])) := by
    rw [World.cell?_alloc_lt _ _ ⟨9, 0, none⟩ (by simp; omega), World.cell?_alloc_lt _ _ ⟨9, 0, none⟩ hlt]; exact hg
  go_enter Tryd.func34, Tryd.ntmps34
  go_wp2
  refine wp_loop_rounds 1 ?_
  rw [rounds_succ]
  go_wp2
  go_ret
  exact ⟨rfl, rfl⟩
end Go.Proofs.YtepgcgokolmedaaDoor

/- Frame -/
namespace Go.Proofs.YtepgcgokolmedaaDoor
open Go.RowKit

theorem lt_of_block {w : World} {b : Nat} {o : Obj} (h : w.heap[b]? = some o) : b < w.heap.size := by
  rcases Nat.lt_or_ge b w.heap.size with h' | h'
  · exact h'
  · rw [Array.getElem?_eq_none h'] at h; cases h

theorem below_dN {B : Nat} {a w : World} (h : Below B a w) (n : Nat) : Below B a (w.drewN n) := ⟨h.os, h.tape, h.output, h.size, h.block⟩

structure Turns (S : Nat → Nat → Prop) (w w' : World) : Prop where
  os : w'.os = w.os
  tape : w'.tape = w.tape
  output : w'.output = w.output
  size : w.heap.size ≤ w'.heap.size
  block : ∀ k, k < w.heap.size → (∀ o, ¬ S k o) → w'.heap[k]? = w.heap[k]?
  cell : ∀ k o, k < w.heap.size → ¬ S k o → w'.cell? ⟨k, o, none⟩ = w.cell? ⟨k, o, none⟩
  frozen : ∀ k o, k < w.heap.size → ¬ S k o → w'.frozen? ⟨k, o, none⟩ = w.frozen? ⟨k, o, none⟩

theorem Turns.refl (S : Nat → Nat → Prop) (w : World) : Turns S w w := ⟨rfl, rfl, rfl, Nat.le_refl _, fun _ _ _ => rfl, fun _ _ _ _ => rfl, fun _ _ _ _ => rfl⟩

theorem Turns.trans {S : Nat → Nat → Prop} {a b c : World} (h : Turns S a b) (k : Turns S b c) : Turns S a c :=
  ⟨k.os.trans h.os, k.tape.trans h.tape, k.output.trans h.output, Nat.le_trans h.size k.size,
    fun i hi ho => (k.block i (Nat.lt_of_lt_of_le hi h.size) ho).trans (h.block i hi ho),
    fun i o hi ho => (k.cell i o (Nat.lt_of_lt_of_le hi h.size) ho).trans (h.cell i o hi ho),
    fun i o hi ho => (k.frozen i o (Nat.lt_of_lt_of_le hi h.size) ho).trans (h.frozen i o hi ho)⟩

theorem Turns.mono {S S' : Nat → Nat → Prop} {w w' : World} (h : Turns S w w') (hs : ∀ k o, k < w.heap.size → S k o → S' k o) : Turns S' w w' :=
  ⟨h.os, h.tape, h.output, h.size, fun k hk ho => h.block k hk fun o hS => ho o (hs k o hk hS), fun k o hk ho => h.cell k o hk fun hS => ho (hs k o hk hS), fun k o hk ho => h.frozen k o hk fun hS => ho (hs k o hk hS)⟩

theorem Turns.of_below {S : Nat → Nat → Prop} {w w' : World} (h : Below w.heap.size w w') : Turns S w w' :=
  ⟨h.os, h.tape, h.output, h.size, fun k hk _ => h.block k hk, fun _ _ hk _ => h.cell hk, fun _ _ hk _ => h.frozen hk⟩

theorem Turns.below {S : Nat → Nat → Prop} {B : Nat} {w w' : World} (h : Turns S w w') (hB : B ≤ w.heap.size) (hS : ∀ k o, k < B → ¬ S k o) : Below B w w' :=
  ⟨h.os, h.tape, h.output, h.size, fun k hk => h.block k (Nat.lt_of_lt_of_le hk hB) fun o => hS k o hk⟩

theorem Turns.drewN {S : Nat → Nat → Prop} {a w : World} (h : Turns S a w) (n : Nat) : Turns S a (w.drewN n) := h.trans ⟨rfl, rfl, rfl, Nat.le_refl _, fun _ _ _ => rfl, fun _ _ _ _ => rfl, fun _ _ _ _ => rfl⟩

theorem Turns.alloc {S : Nat → Nat → Prop} {a w : World} (h : Turns S a w) (o : Obj) : Turns S a (w.alloc o) :=
  h.trans (Turns.of_below ((Below.refl _ _).alloc (Nat.le_refl _) _))

theorem Turns.setCell {S : Nat → Nat → Prop} {a w : World} (h : Turns S a w) {b o : Nat} (v : Value) (hS : S b o) : Turns S a (w.setCell ⟨b, o, none⟩ v) :=
  h.trans ⟨rfl, rfl, rfl, by simp [World.setCell], fun k _ ho => Below.heap_setCell _ _ _ _ fun e => by subst e; exact ho o hS,
    fun k p _ ho => World.cell?_setCell_other _ _ _ _ (fun e => ho (by cases e; exact hS)), fun _ _ _ _ => World.frozen?_setCell _ _ _ _⟩

theorem Turns.keep {S : Nat → Nat → Prop} {w w' : World} (h : Turns S w w') {k o : Nat} {v : Value} (hc : w.cell? ⟨k, o, none⟩ = some v) (hS : ¬ S k o) : w'.cell? ⟨k, o, none⟩ = some v := by
  rw [h.cell k o (World.block_lt_of_cell? w _ hc) hS]; exact hc

theorem Below.drewN' {w : World} (n : Nat) : Below w.heap.size w (w.drewN n) := ⟨rfl, rfl, rfl, Nat.le_refl _, fun _ _ => rfl⟩

theorem below_step {w b c : World} (h : Below w.heap.size w b) (k : Below b.heap.size b c) : Below w.heap.size w c := h.trans (k.mono h.size)

theorem keep_cell {b c : World} (k : Below b.heap.size b c) {p : Addr} {v : Value} (h : b.cell? p = some v) : c.cell? p = some v := by
  rw [k.cell (World.block_lt_of_cell? _ _ h)]; exact h

theorem hide {p : Prop} (h : p) : Hid p := h

theorem ownsRow_block {w w' : World} {base : Nat} {e : TypeId} {size : Nat} {v : Value} {n : Nat} {xs : List Value} (h : w.ownsRow base e size v n xs) (hb : ∀ k, v.ownBlock = some k → w'.heap[k]? = w.heap[k]?) : w'.ownsRow base e size v n xs := by
  obtain ⟨h1, h2⟩ := h
  refine ⟨h1, ?_⟩
  rcases h2 with h2 | ⟨g, cap, cur, hv, hg, hh, r⟩
  · exact Or.inl h2
  · exact Or.inr ⟨g, cap, cur, hv, hg, by rw [hb g (by rw [hv]; rfl)]; exact hh, r⟩

theorem cell_ne {w : World} {b o b' o' : Nat} {v u : Value} (h : w.cell? ⟨b', o', none⟩ = some u) (hne : b' ≠ b ∨ o' ≠ o) : (w.setCell ⟨b, o, none⟩ v).cell? ⟨b', o', none⟩ = some u := by
  rw [World.cell?_setCell_other _ _ _ _ (fun e => by cases e; rcases hne with h | h <;> exact h rfl)]; exact h
end Go.Proofs.YtepgcgokolmedaaDoor

/- Base -/
namespace Go.Proofs.YtepgcgokolmedaaDoor
open Go.RowKit Go.Extern.Stop Go.Stop Go.Extern

def gid : Nat → Nat
  | 0 => 1 | 1 => 0 | 2 => 2 | 3 => 3 | 4 => 4
  | 5 => 5 | 6 => 6 | 7 => 7 | _ => 8

abbrev errAt (a : Addr) : Value := .iface 141 (.pointer (some a))

abbrev okI (i : Nat) : Prop := i < 9
structure Env (a : Nat → Addr) (w : World) : Prop where
  cell : ∀ i, okI i → w.cell? ⟨gid i, 0, none⟩ = some (errAt (a i))
  row : ∀ i, okI i → ∃ c t, w.heap[(a i).block]? = some (.cells c t (0, 0))
  ne : ∀ i j, okI i → okI j → i ≠ j → a i ≠ a j
  handle : w.cell? ⟨9, 0, none⟩ = some (.iface 127 (.agg #[.pointer (some ⟨10, 25, none⟩)]))


theorem Env.glt {a : Nat → Addr} {w : World} (h : Env a w) {i : Nat} (hi : okI i) : gid i < w.heap.size := World.block_lt_of_cell? w _ (h.cell i hi)
theorem Env.alt {a : Nat → Addr} {w : World} (h : Env a w) {i : Nat} (hi : okI i) : (a i).block < w.heap.size := by
  obtain ⟨c, t, e⟩ := h.row i hi
  exact lt_of_block e
theorem Env.hlt {a : Nat → Addr} {w : World} (h : Env a w) : 9 < w.heap.size := World.block_lt_of_cell? w _ h.handle

theorem Env.below {a : Nat → Addr} {w w' : World} (h : Env a w) (hb : ∀ k, k < w.heap.size → w'.heap[k]? = w.heap[k]?) : Env a w' where
  cell i hi := by rw [World.cell?_of_block (w := w) (hb _ (h.glt hi))]; exact h.cell i hi
  row i hi := by rw [hb _ (h.alt hi)]; exact h.row i hi
  ne := h.ne
  handle := by rw [World.cell?_of_block (w := w) (hb _ h.hlt)]; exact h.handle

theorem code_nil (w : World) :
    Calls Tryd.prog 21 #[.nilIface] w fun e w' => e = .returned (.tuple #[.int .i64 0, .int .i64 (-1)]) ∧ w' = w := by
  go_enter Tryd.func21, Tryd.ntmps21
  go_wp2
  go_ret2
  exact ⟨rfl, rfl⟩

theorem nine (a : Nat → Addr) (j : Nat) (h : j < 9) : ([errAt (a 0), errAt (a 1), errAt (a 2), errAt (a 3), errAt (a 4), errAt (a 5), errAt (a 6), errAt (a 7), errAt (a 8)] : List Value)[j]? = some (errAt (a j)) := by
  match j, h with
  | 0, _ => rfl
  | 1, _ => rfl
  | 2, _ => rfl
  | 3, _ => rfl
  | 4, _ => rfl
  | 5, _ => rfl
  | 6, _ => rfl
  | 7, _ => rfl
  | 8, _ => rfl

theorem as_miss' (e t : Addr) (w : World) (hg : w.cell? ⟨9, 0, none⟩ = some (.iface 127 (.agg #[.pointer (some ⟨10, 25, none⟩)]))) :
    Calls Tryd.prog 34 #[errAt e, .iface 85 (.pointer (some t))] w fun ev w' => ev = .returned (.bool false) ∧ Below w.heap.size w w' :=
  (as_miss e t w hg).mono fun _ _ ⟨h, h'⟩ => ⟨h, by rw [h']; exact (((Below.refl _ _).alloc (Nat.le_refl _) _).alloc (by simp) _).alloc (by simp; omega) _⟩

def codeNum (k : Nat) : Int := if k < 9 then (k : Int) + 1 else -1

theorem below_drop {w w2 : World} {o : Obj} (h : Below (w.alloc o).heap.size (w.alloc o) w2) : Below w.heap.size w w2 :=
  ((Below.refl _ _).alloc (Nat.le_refl _) o).trans (h.mono (by simp))

set_option maxHeartbeats 1000000 in
theorem code_miss (a : Nat → Addr) (e : Addr) (k : Nat) (w : World) (hE : Env a w) (hne : ∀ j, j < 9 → j < k → e ≠ a j) (heq : k < 9 → e = a k) (hk9 : k ≤ 9) (ca : Array Value) (ta : TypeId) (hrow : w.heap[e.block]? = some (.cells ca ta (0, 0))) :
    Calls Tryd.prog 21 #[errAt e] w fun ev w' => ev = .returned (.tuple #[.int .i64 (codeNum k), .int .i64 (-1)]) ∧ Below w.heap.size w w' := by
  have hE0 : Env a (w.alloc (.cells #[.pointer none] 83)) := hE.below fun k hk => Below.heap_alloc _ _ _ hk
  have H0 : Hid (∀ (t : Addr) (w0 : World), w0 = w.alloc (.cells #[.pointer none] 83) → Calls Tryd.prog 34 #[errAt e, .iface 85 (.pointer (some t))] w0 fun ev w' => ev = .returned (.bool false) ∧ Below w0.heap.size w0 w') := fun t w0 h => as_miss' e t w0 (by rw [h]; exact hE0.handle)
  have hel := lt_of_block hrow
  go_enter Tryd.func21, Tryd.ntmps21
  go_wp2_with fail
  refine (H0.out _ _ rfl).mono ?_
  rintro e0 w1 ⟨rfl, hb1⟩
  have hE1 : Env a w1 := hE0.below hb1.block
  have hbW : Below w.heap.size w w1 := below_drop hb1
  have hre : (w1.alloc (.cells #[errAt (a 0), errAt (a 1), errAt (a 2), errAt (a 3), errAt (a 4), errAt (a 5), errAt (a 6), errAt (a 7), errAt (a 8)] 25)).heap[e.block]? = some (.cells ca ta (0, 0)) := by
    rw [Below.heap_alloc _ _ _ (Nat.lt_of_lt_of_le (by simp; omega) hb1.size), hb1.block _ (by simp; omega), Below.heap_alloc _ _ _ hel]; exact hrow
  have c0 : w1.cell? ⟨1, 0, none⟩ = some (errAt (a 0)) := hE1.cell 0 (by decide)
  have c1 : w1.cell? ⟨0, 0, none⟩ = some (errAt (a 1)) := hE1.cell 1 (by decide)
  have c2 : w1.cell? ⟨2, 0, none⟩ = some (errAt (a 2)) := hE1.cell 2 (by decide)
  have c3 : w1.cell? ⟨3, 0, none⟩ = some (errAt (a 3)) := hE1.cell 3 (by decide)
  have c4 : w1.cell? ⟨4, 0, none⟩ = some (errAt (a 4)) := hE1.cell 4 (by decide)
  have c5 : w1.cell? ⟨5, 0, none⟩ = some (errAt (a 5)) := hE1.cell 5 (by decide)
  have c6 : w1.cell? ⟨6, 0, none⟩ = some (errAt (a 6)) := hE1.cell 6 (by decide)
  have c7 : w1.cell? ⟨7, 0, none⟩ = some (errAt (a 7)) := hE1.cell 7 (by decide)
  have c8 : w1.cell? ⟨8, 0, none⟩ = some (errAt (a 8)) := hE1.cell 8 (by decide)
  go_wp2_with fail
  have hc : ∀ j, j < 9 → (w1.alloc (.cells #[errAt (a 0), errAt (a 1), errAt (a 2), errAt (a 3), errAt (a 4), errAt (a 5), errAt (a 6), errAt (a 7), errAt (a 8)] 25)).cell? ⟨w1.heap.size, j, none⟩ = some (errAt (a j)) := fun j hj => by
    rw [World.cell?_alloc_new]; simpa using nine a j hj
  have hE2 := hE1.below fun k hk => Below.heap_alloc w1 (.cells #[errAt (a 0), errAt (a 1), errAt (a 2), errAt (a 3), errAt (a 4), errAt (a 5), errAt (a 6), errAt (a 7), errAt (a 8)] 25) _ hk
  have hb2 := hbW.alloc hbW.size (.cells #[errAt (a 0), errAt (a 1), errAt (a 2), errAt (a 3), errAt (a 4), errAt (a 5), errAt (a 6), errAt (a 7), errAt (a 8)] 25)
  clear c0 c1 c2 c3 c4 c5 c6 c7 c8 hE0 H0 hE1 
  generalize hw2 : w1.alloc (.cells #[errAt (a 0), errAt (a 1), errAt (a 2), errAt (a 3), errAt (a 4), errAt (a 5), errAt (a 6), errAt (a 7), errAt (a 8)] 25) = w2 at hc hE2 hb2 hre ⊢
  clear hw2
  go_loop [2, 3, 5, 6, 27] (fun _ t _ _ i => t = .int .i64 (-1) ∧ ∃ j : Nat, j ≤ k ∧ j ≤ 9 ∧ i = .int .i64 j) (fun _ _ _ _ i => 9 - (intOf i).toNat)
  case atStart => exact ⟨rfl, 0, Nat.zero_le _, by decide, rfl⟩
  case round =>
    obtain ⟨rfl, j, hj, hj9, rfl⟩ := hrel
    by_cases h9 : j < 9
    · have hcj := hc j h9
      obtain ⟨cb, tb, hrb⟩ := hE2.row j h9
      by_cases hlt : j < k
      · have hnej := hne j h9 hlt
        go_wp2_with fail
        refine (is_other e (a j) ca cb ta tb w2 hnej hre hrb).mono ?_
        rintro e w3 ⟨rfl, rfl⟩
        go_wp2
        go_round
        case rel => exact ⟨rfl, j + 1, by omega, by omega, by go_num⟩
        case measure => simp [intOf]; omega
      · obtain rfl : j = k := by omega
        have hek := heq h9
        subst hek
        go_wp2_with fail
        refine (is_same (a j) w2).mono ?_
        rintro e w3 ⟨rfl, rfl⟩
        go_wp2
        go_ret2
        exact ⟨by rw [codeNum, if_pos h9]; simp, hb2⟩
    · obtain rfl : j = k := by omega
      go_wp2
      go_ret2
      exact ⟨by rw [codeNum, if_neg h9]; rfl, hb2⟩
theorem code_sent (a : Nat → Addr) (k : Nat) (hk : k < 9) (w : World) (hE : Env a w) :
    Calls Tryd.prog 21 #[errAt (a k)] w fun ev w' => ev = .returned (.tuple #[.int .i64 (k + 1 : Nat), .int .i64 (-1)]) ∧ Below w.heap.size w w' := by
  obtain ⟨c, t, hr⟩ := hE.row k hk
  refine (code_miss a (a k) k w hE (fun j hj hlt => hE.ne k j hk hj (by omega)) (fun _ => rfl) (by omega) c t hr).mono fun _ _ ⟨h, h'⟩ => ⟨?_, h'⟩
  rw [h, codeNum, if_pos hk]; rfl

end Go.Proofs.YtepgcgokolmedaaDoor
