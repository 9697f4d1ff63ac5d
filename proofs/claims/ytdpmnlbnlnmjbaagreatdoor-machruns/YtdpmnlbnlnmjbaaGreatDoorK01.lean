import Derived.Test.YtdpmnlbnlnmjbaaGreatDoorProg
import Derived.WalkKit
import Derived.LaidEql
import Derived.Stop.Asserts
import Derived.RowKitTokens
import Derived.Below
import Derived.Laws.World
import Derived.Deep.Quiet
import Derived.OwnWalk
import Derived.BigQuiet
import Derived.Outline

/- Errs -/
namespace Go.Proofs.YtdpmnlbnlnmjbaaGreatDoor
open Go.RowKit Go.Extern.Stop Go.Stop Go.Extern

theorem isTypeOf (v : Value) (w : World) : (Extern.ReflectliteType.typeOf #[.iface 265 v]).run Tryz.prog w = .ok (.iface 218 (.agg #[.pointer (some ⟨10, 265, none⟩)])) w := by kernel_rfl
theorem isComparable (w : World) : ((Extern.ReflectliteType.method fun t => do Rtype.noPackHeld "Comparable" t; pure (.bool (← typeInfo t).comparable)) #[.agg #[.pointer (some ⟨10, 265, none⟩)]]).run Tryz.prog w = .ok (.bool true) w := by kernel_rfl
theorem callComparable (w : World) : (callFunc 184 #[.agg #[.pointer (some ⟨10, 265, none⟩)]]).run Tryz.prog w = .ok (.value (.bool true)) w := by
  rw [@run_callFunc_extern Tryz.prog 184 _ (Extern.ReflectliteType.method fun t => do Rtype.noPackHeld "Comparable" t; pure (.bool (← typeInfo t).comparable)) Tryz.func184 (by kernel_rfl) (by kernel_rfl) (by kernel_rfl) (by kernel_rfl), isComparable]
  rfl
theorem isMethodComparable (v : Value) (w : World) : (Go.method 397 218 v "Comparable").run Tryz.prog w = .ok (184, v) w := by kernel_rfl
theorem isComp : (Tryz.prog.info? 265).map (·.comparable) = some true := by kernel_rfl
theorem isSize : (Tryz.prog.info? 285).map (·.size) = some 1 := by kernel_rfl

theorem noIsE (v : Value) (xT : TypeId) (w : World) : (Instr.typeAssert (.iface 265 v) xT 220 true).run Tryz.prog w = .ok (.tuple #[.nilIface, .bool false]) w := run_typeAssert_lacksB Tryz.underlying220 (by kernel_rfl) (by kernel_rfl) v xT w
theorem noUnwrapE (v : Value) (xT : TypeId) (w : World) : (Instr.typeAssert (.iface 265 v) xT 223 true).run Tryz.prog w = .ok (.tuple #[.nilIface, .bool false]) w := run_typeAssert_lacksB Tryz.underlying223 (by kernel_rfl) (by kernel_rfl) v xT w
theorem noUnwrapsE (v : Value) (xT : TypeId) (w : World) : (Instr.typeAssert (.iface 265 v) xT 225 true).run Tryz.prog w = .ok (.tuple #[.nilIface, .bool false]) w := run_typeAssert_lacksB Tryz.underlying225 (by kernel_rfl) (by kernel_rfl) v xT w
theorem noAsE (v : Value) (xT : TypeId) (w : World) : (Instr.typeAssert (.iface 265 v) xT 243 true).run Tryz.prog w = .ok (.tuple #[.nilIface, .bool false]) w := run_typeAssert_lacksB Tryz.underlying243 (by kernel_rfl) (by kernel_rfl) v xT w
theorem noIsF (v : Value) (xT : TypeId) (w : World) : (Instr.typeAssert (.iface 152 v) xT 220 true).run Tryz.prog w = .ok (.tuple #[.nilIface, .bool false]) w := run_typeAssert_lacksB Tryz.underlying220 (by kernel_rfl) (by kernel_rfl) v xT w
theorem hasUnwrapF (v : Value) (xT : TypeId) (w : World) : (Instr.typeAssert (.iface 152 v) xT 223 true).run Tryz.prog w = .ok (.tuple #[.iface 152 v, .bool true]) w := run_typeAssert_hasB Tryz.underlying223 (by kernel_rfl) v xT w
theorem methodUnwrapF (v : Value) (w : World) : (Go.method 397 152 v "Unwrap").run Tryz.prog w = .ok (178, v) w := by kernel_rfl

theorem is_same (a : Addr) (w : World) :
    Calls Tryz.prog 64 #[.iface 265 (.pointer (some a)), .iface 265 (.pointer (some a))] w fun e w' => e = .returned (.bool true) ∧ w' = w := by
  obtain ⟨i, hi, hcmp⟩ := Option.map_eq_some_iff.1 isComp
  obtain ⟨j, hj, hjs⟩ := Option.map_eq_some_iff.1 isSize
  have h8 := @run_callFunc_extern Tryz.prog 94 _ Extern.ReflectliteType.typeOf Tryz.func94 (by kernel_rfl) (by kernel_rfl) (by kernel_rfl) (by kernel_rfl)
  have tT := isTypeOf
  have cT := callComparable
  have mR := isMethodComparable
  have heq := run_eql_iface_ptr_same (P := Tryz.prog) w a Tryz.underlying31 Tryz.underlying265 hi hcmp hj
  go_enter Tryz.func64, Tryz.ntmps64
  go_wp2
  refine wp_loop_rounds 1 ?_
  rw [rounds_succ]
  go_wp2
  go_ret
  exact ⟨rfl, rfl⟩

theorem is_other (a b : Addr) (ca cb : Array Value) (ta tb : TypeId) (w : World) (hne : a ≠ b) (ha : w.heap[a.block]? = some (.cells ca ta (0, 0))) (hb : w.heap[b.block]? = some (.cells cb tb (0, 0))) :
    Calls Tryz.prog 64 #[.iface 265 (.pointer (some a)), .iface 265 (.pointer (some b))] w fun e w' => e = .returned (.bool false) ∧ w' = w := by
  obtain ⟨i, hi, hcmp⟩ := Option.map_eq_some_iff.1 isComp
  obtain ⟨j, hj, hjs⟩ := Option.map_eq_some_iff.1 isSize
  have h8 := @run_callFunc_extern Tryz.prog 94 _ Extern.ReflectliteType.typeOf Tryz.func94 (by kernel_rfl) (by kernel_rfl) (by kernel_rfl) (by kernel_rfl)
  have tT := isTypeOf
  have cT := callComparable
  have mR := isMethodComparable
  have nE := noIsE
  have uE := noUnwrapE
  have vE := noUnwrapsE
  have heq := run_eql_iface_ptr_other (P := Tryz.prog) w Tryz.underlying31 Tryz.underlying265 hi hcmp hj (by rw [hjs]; decide) hne ha hb
  go_enter Tryz.func64, Tryz.ntmps64
  go_wp2
  refine wp_loop_rounds 1 ?_
  rw [rounds_succ]
  go_wp2
  go_ret
  exact ⟨rfl, rfl⟩

theorem is_fault_same (pb po : Nat) (b : Addr) (w : World) (h1 : w.cell? ⟨pb, po + 1, none⟩ = some (.iface 265 (.pointer (some b)))) :
    Calls Tryz.prog 64 #[.iface 152 (.pointer (some ⟨pb, po, none⟩)), .iface 265 (.pointer (some b))] w fun e w' => e = .returned (.bool true) ∧ w' = w := by
  obtain ⟨i, hi, hcmp⟩ := Option.map_eq_some_iff.1 isComp
  obtain ⟨j, hj, hjs⟩ := Option.map_eq_some_iff.1 isSize
  have h8 := @run_callFunc_extern Tryz.prog 94 _ Extern.ReflectliteType.typeOf Tryz.func94 (by kernel_rfl) (by kernel_rfl) (by kernel_rfl) (by kernel_rfl)
  have tT := isTypeOf
  have cT := callComparable
  have mR := isMethodComparable
  have nW := noIsF
  have uW := hasUnwrapF
  have mU := methodUnwrapF
  have heq := run_eql_iface_ptr_same (P := Tryz.prog) w b Tryz.underlying31 Tryz.underlying265 hi hcmp hj
  have hty := run_eql_iface_types (P := Tryz.prog) 152 265 (.pointer (some ⟨pb, po, none⟩)) (.pointer (some b)) Tryz.underlying31 (by decide) w
  go_enter Tryz.func64, Tryz.ntmps64
  go_wp2
  refine wp_loop_rounds 2 ?_
  rw [rounds_succ]
  go_wp2
  rw [rounds_succ]
  go_wp2
  go_ret
  exact ⟨rfl, rfl⟩

theorem is_fault_other (pb po : Nat) (b a : Addr) (ca cb : Array Value) (ta tb : TypeId) (w : World) (h1 : w.cell? ⟨pb, po + 1, none⟩ = some (.iface 265 (.pointer (some a)))) (hne : a ≠ b) (ha : w.heap[a.block]? = some (.cells ca ta (0, 0))) (hb : w.heap[b.block]? = some (.cells cb tb (0, 0))) :
    Calls Tryz.prog 64 #[.iface 152 (.pointer (some ⟨pb, po, none⟩)), .iface 265 (.pointer (some b))] w fun e w' => e = .returned (.bool false) ∧ w' = w := by
  obtain ⟨i, hi, hcmp⟩ := Option.map_eq_some_iff.1 isComp
  obtain ⟨j, hj, hjs⟩ := Option.map_eq_some_iff.1 isSize
  have h8 := @run_callFunc_extern Tryz.prog 94 _ Extern.ReflectliteType.typeOf Tryz.func94 (by kernel_rfl) (by kernel_rfl) (by kernel_rfl) (by kernel_rfl)
  have tT := isTypeOf
  have cT := callComparable
  have mR := isMethodComparable
  have nE := noIsE
  have uE := noUnwrapE
  have vE := noUnwrapsE
  have nW := noIsF
  have uW := hasUnwrapF
  have mU := methodUnwrapF
  have heq := run_eql_iface_ptr_other (P := Tryz.prog) w Tryz.underlying31 Tryz.underlying265 hi hcmp hj (by rw [hjs]; decide) hne ha hb
  have hty := run_eql_iface_types (P := Tryz.prog) 152 265 (.pointer (some ⟨pb, po, none⟩)) (.pointer (some b)) Tryz.underlying31 (by decide) w
  go_enter Tryz.func64, Tryz.ntmps64
  go_wp2
  refine wp_loop_rounds 2 ?_
  rw [rounds_succ]
  go_wp2
  rw [rounds_succ]
  go_wp2
  go_ret
  exact ⟨rfl, rfl⟩

/-! ### errors.As, the target a pointer to a variable of type pointer to api.Fault -/
theorem valueOfPP (t : Addr) (w : World) : (ReflectliteValue.unpack (.iface 166 (.pointer (some t)))).run Tryz.prog w
    = .ok (.agg #[.pointer (some ⟨10, 166, none⟩), .pointer (some ⟨w.heap.size, 0, none⟩), .int .u64 150]) (w.alloc (.cells #[.pointer (some t)] 166)) := by kernel_rfl
theorem typePP (a : Addr) (w : World) : (ReflectliteValue.methodAny (ReflectliteValue.valueError "reflectlite.Value.Type" 0) (fun t _ _ _ => ReflectliteType.toType t) #[.agg #[.pointer (some ⟨10, 166, none⟩), .pointer (some a), .int .u64 150]]).run Tryz.prog w
    = .ok (.iface 218 (.agg #[.pointer (some ⟨10, 166, none⟩)])) w := by kernel_rfl
theorem methodKind (h : Value) (w : World) : (Go.method 397 218 (.agg #[h]) "Kind").run Tryz.prog w = .ok (174, h) w := by kernel_rfl
theorem kindPP (w : World) : ((ReflectliteType.abiMethod fun t => (fun a : Nat => Value.int IntKind.u8 (a : Int)) <$> Rtype.kind t) #[.pointer (some ⟨10, 166, none⟩)]).run Tryz.prog w = .ok (.int .u8 22) w := by kernel_rfl
theorem kindP (w : World) : ((ReflectliteType.abiMethod fun t => (fun a : Nat => Value.int IntKind.u8 (a : Int)) <$> Rtype.kind t) #[.pointer (some ⟨10, 152, none⟩)]).run Tryz.prog w = .ok (.int .u8 22) w := by kernel_rfl
theorem rlm (z : Sem Value) (f : TypeId → Addr → Nat → Nat → Sem Value) (v : Value) :
    ReflectliteValue.method z f #[v] = (do match ← ReflectliteValue.parts v with | none => z | some (t, a, fl) => f t a fl (fl % 32)) := rfl
theorem partsPP (a : Addr) (w : World) : (ReflectliteValue.parts (.agg #[.pointer (some ⟨10, 166, none⟩), .pointer (some a), .int .u64 150])).run Tryz.prog w = .ok (some (166, a, 150)) w := by kernel_rfl
theorem isNilPP (a p : Addr) (W : World) (ha : W.cell? a = some (.pointer (some p))) :
    (ReflectliteValue.method (ReflectliteValue.valueError "reflectlite.Value.IsNil" 0) ReflectliteValue.isNil #[.agg #[.pointer (some ⟨10, 166, none⟩), .pointer (some a), .int .u64 150]]).run Tryz.prog W = .ok (.bool false) W := by
  rw [rlm]
  simp only [Sem.run_bind, partsPP, Result.andThen]
  simp [ReflectliteValue.isNil, loadVar, isAgg, underlying, Tryz.underlying166, ha, Result.andThen]
theorem methodElem (h : Value) (w : World) : (Go.method 397 218 (.agg #[h]) "Elem").run Tryz.prog w = .ok (185, .agg #[h]) w := by kernel_rfl
theorem methodImplements (h : Value) (w : World) : (Go.method 397 218 (.agg #[h]) "Implements").run Tryz.prog w = .ok (186, .agg #[h]) w := by kernel_rfl
theorem methodAssignableTo (h : Value) (w : World) : (Go.method 397 218 (.agg #[h]) "AssignableTo").run Tryz.prog w = .ok (183, .agg #[h]) w := by kernel_rfl
theorem elemPP (w : World) : (ReflectliteType.method ReflectliteType.elem #[.agg #[.pointer (some ⟨10, 166, none⟩)]]).run Tryz.prog w = .ok (.iface 218 (.agg #[.pointer (some ⟨10, 152, none⟩)])) w := by kernel_rfl
theorem implementsP (w : World) : (ReflectliteType.relation "Implements" ReflectliteType.implements_ #[.agg #[.pointer (some ⟨10, 152, none⟩)], .iface 218 (.agg #[.pointer (some ⟨10, 31, none⟩)])]).run Tryz.prog w = .ok (.bool true) w := by kernel_rfl
theorem typeOfP (v : Value) (w : World) : (ReflectliteType.typeOf #[.iface 152 v]).run Tryz.prog w = .ok (.iface 218 (.agg #[.pointer (some ⟨10, 152, none⟩)])) w := by kernel_rfl
theorem assignableP (w : World) : (ReflectliteType.relation "AssignableTo" ReflectliteType.assignableTo #[.agg #[.pointer (some ⟨10, 152, none⟩)], .iface 218 (.agg #[.pointer (some ⟨10, 152, none⟩)])]).run Tryz.prog w = .ok (.bool true) w := by kernel_rfl
theorem assignableE (w : World) : (ReflectliteType.relation "AssignableTo" ReflectliteType.assignableTo #[.agg #[.pointer (some ⟨10, 265, none⟩)], .iface 218 (.agg #[.pointer (some ⟨10, 152, none⟩)])]).run Tryz.prog w = .ok (.bool false) w := by kernel_rfl
theorem valueOfP (e : Addr) (w : World) : (ReflectliteValue.unpack (.iface 152 (.pointer (some e)))).run Tryz.prog w
    = .ok (.agg #[.pointer (some ⟨10, 152, none⟩), .pointer (some ⟨w.heap.size, 0, none⟩), .int .u64 150]) (w.alloc (.cells #[.pointer (some e)] 152)) := by kernel_rfl
theorem elemOfPP (w : World) : (Rtype.elem? 166).run Tryz.prog w = .ok (some 152) w := by kernel_rfl
theorem mkP (p : Addr) (w : World) : (ReflectliteValue.mk 152 p ReflectliteValue.flagAddr).run Tryz.prog w = .ok (.agg #[.pointer (some ⟨10, 152, none⟩), .pointer (some p), .int .u64 406]) w := by kernel_rfl
theorem elemVPP (a p : Addr) (W : World) (ha : W.cell? a = some (.pointer (some p))) :
    (ReflectliteValue.method (ReflectliteValue.valueError "reflectlite.Value.Elem" 0) ReflectliteValue.elem #[.agg #[.pointer (some ⟨10, 166, none⟩), .pointer (some a), .int .u64 150]]).run Tryz.prog W
      = .ok (.agg #[.pointer (some ⟨10, 152, none⟩), .pointer (some p), .int .u64 406]) W := by
  rw [rlm]
  simp only [Sem.run_bind, partsPP, Result.andThen]
  simp [ReflectliteValue.elem, loadVar, isAgg, underlying, Tryz.underlying166, ha, Result.andThen, elemOfPP, mkP]
theorem rls (v x : Value) : ReflectliteValue.set #[v, x] = (do
    let (some (dst, a, fl), some (src, b, _)) := (← ReflectliteValue.parts v, ← ReflectliteValue.parts x)
      | unsupported (.noEntry "extern/(internal/reflectlite.Value).Set.zeroValue")
    if fl / ReflectliteValue.flagAddr % 2 == 0 then unsupported (.noEntry "extern/(internal/reflectlite.Value).Set.unaddressable")
    let val ← loadVar src b
    if ← Rtype.directlyAssignable dst src then storeVar dst a val
    else if ← Rtype.implements dst src then
      if (← Rtype.kind src) == 20 then
        match val with
        | .nilIface => unsupported (.noEntry "extern/reflectlite: a nil value of one interface type handed on as a value of another")
        | _ => storeVar dst a val
      else storeVar dst a (.iface src val)
    else panicString ("reflectlite.Set: value of type " ++ (← Rtype.spelt src) ++ " is not assignable to type " ++ (← Rtype.spelt dst))
    pure (.tuple #[])) := rfl
theorem partsPa (a : Addr) (w : World) : (ReflectliteValue.parts (.agg #[.pointer (some ⟨10, 152, none⟩), .pointer (some a), .int .u64 406])).run Tryz.prog w = .ok (some (152, a, 406)) w := by kernel_rfl
theorem partsP (a : Addr) (w : World) : (ReflectliteValue.parts (.agg #[.pointer (some ⟨10, 152, none⟩), .pointer (some a), .int .u64 150])).run Tryz.prog w = .ok (some (152, a, 150)) w := by kernel_rfl
theorem directP (w : World) : (Rtype.directlyAssignable 152 152).run Tryz.prog w = .ok true w := by kernel_rfl
theorem setP (ta b e : Addr) (old : Value) (W : World) (hb : W.cell? b = some (.pointer (some e))) (ht : W.cell? ta = some old) (hf : W.frozen? ta = false) :
    (ReflectliteValue.set #[.agg #[.pointer (some ⟨10, 152, none⟩), .pointer (some ta), .int .u64 406], .agg #[.pointer (some ⟨10, 152, none⟩), .pointer (some b), .int .u64 150]]).run Tryz.prog W
      = .ok (.tuple #[]) (W.setCell ta (.pointer (some e))) := by
  rw [rls]
  simp only [Sem.run_bind, partsPa, partsP, Result.andThen]
  simp [ReflectliteValue.flagAddr, loadVar, isAgg, underlying, Tryz.underlying152, hb, Result.andThen, directP, storeVar, Value.cells, storeCells, Addr.add]
  rw [run_store Tryz.prog W ta _ _ (by rfl)]
  simp [ht, hf]

set_option maxHeartbeats 4000000 in
theorem as_hit (e t : Addr) (old : Value) (w : World) (hg : w.cell? ⟨9, 0, none⟩ = some (.iface 218 (.agg #[.pointer (some ⟨10, 31, none⟩)]))) (ht0 : w.cell? t = some old) (hf0 : w.frozen? t = false) :
    Calls Tryz.prog 80 #[.iface 152 (.pointer (some e)), .iface 166 (.pointer (some t))] w fun ev w' => ev = .returned (.bool true) ∧ w' = ((((w.alloc (.cells #[.pointer (some t)] 166)).alloc (.cells #[.pointer (some ⟨10, 166, none⟩), .pointer (some ⟨w.heap.size, 0, none⟩), .int .u64 150] 203)).alloc (.cells #[.pointer (some ⟨10, 166, none⟩), .pointer (some ⟨w.heap.size, 0, none⟩), .int .u64 150] 203)).alloc (.cells #[.pointer (some e)] 152)).setCell t (.pointer (some e)) := by
  have h6 := @run_callFunc_extern Tryz.prog 110 _ (fun args => ReflectliteValue.unpack (args.getD 0 (.tuple #[]))) Tryz.func110 (by kernel_rfl) (by kernel_rfl) (by kernel_rfl) (by kernel_rfl)
  have h7 := @run_callFunc_extern Tryz.prog 111 _ (ReflectliteValue.methodAny (ReflectliteValue.valueError "reflectlite.Value.Type" 0) (fun t _ _ _ => ReflectliteType.toType t)) Tryz.func111 (by kernel_rfl) (by kernel_rfl) (by kernel_rfl) (by kernel_rfl)
  have h8 := @run_callFunc_extern Tryz.prog 112 _ (ReflectliteValue.method (ReflectliteValue.valueError "reflectlite.Value.IsNil" 0) ReflectliteValue.isNil) Tryz.func112 (by kernel_rfl) (by kernel_rfl) (by kernel_rfl) (by kernel_rfl)
  have h27 := @run_callFunc_extern Tryz.prog 174 _ (ReflectliteType.abiMethod fun t => do pure (.int .u8 (← Rtype.kind t))) Tryz.func174 (by kernel_rfl) (by kernel_rfl) (by kernel_rfl) (by kernel_rfl)
  have h37 := @run_callFunc_extern Tryz.prog 185 _ (ReflectliteType.method ReflectliteType.elem) Tryz.func185 (by kernel_rfl) (by kernel_rfl) (by kernel_rfl) (by kernel_rfl)
  have h38 := @run_callFunc_extern Tryz.prog 186 _ (ReflectliteType.relation "Implements" ReflectliteType.implements_) Tryz.func186 (by kernel_rfl) (by kernel_rfl) (by kernel_rfl) (by kernel_rfl)
  have h10 := @run_callFunc_extern Tryz.prog 94 _ ReflectliteType.typeOf Tryz.func94 (by kernel_rfl) (by kernel_rfl) (by kernel_rfl) (by kernel_rfl)
  have h35 := @run_callFunc_extern Tryz.prog 183 _ (ReflectliteType.relation "AssignableTo" ReflectliteType.assignableTo) Tryz.func183 (by kernel_rfl) (by kernel_rfl) (by kernel_rfl) (by kernel_rfl)
  have h11 := @run_callFunc_extern Tryz.prog 133 _ (ReflectliteValue.method (ReflectliteValue.valueError "reflectlite.Value.Elem" 0) ReflectliteValue.elem) Tryz.func133 (by kernel_rfl) (by kernel_rfl) (by kernel_rfl) (by kernel_rfl)
  have h12 := @run_callFunc_extern Tryz.prog 134 _ ReflectliteValue.set Tryz.func134 (by kernel_rfl) (by kernel_rfl) (by kernel_rfl) (by kernel_rfl)
  have tO := typeOfP
  have mA := methodAssignableTo
  have a25 := assignableP
  have v25 := valueOfP
  have f6 := valueOfPP
  have f7 := typePP
  have mK := methodKind
  have mE := methodElem
  have mI := methodImplements
  have k27 := kindPP
  have k25 := kindP
  have e27 := elemPP
  have i25 := implementsP
  have n8 := isNilPP ⟨w.heap.size, 0, none⟩ t ((w.alloc (.cells #[.pointer (some t)] 166)).alloc (.cells #[.pointer (some ⟨10, 166, none⟩), .pointer (some ⟨w.heap.size, 0, none⟩), .int .u64 150] 203)) (by simp)
  have hlt : 9 < w.heap.size := World.block_lt_of_cell? w _ hg
  have hg2 : ((w.alloc (.cells #[.pointer (some t)] 166)).alloc (.cells #[.pointer (some ⟨10, 166, none⟩), .pointer (some ⟨w.heap.size, 0, none⟩), .int .u64 150] 203)).cell? ⟨9, 0, none⟩ = some (.iface 218 (.agg #[.pointer (some ⟨10, 31, none⟩)])) := by
    rw [World.cell?_alloc_lt _ _ ⟨9, 0, none⟩ (by simp; omega), World.cell?_alloc_lt _ _ ⟨9, 0, none⟩ hlt]; exact hg
  have htl : t.block < w.heap.size := World.block_lt_of_cell? w _ ht0
  have el := elemVPP ⟨w.heap.size, 0, none⟩ t (((w.alloc (.cells #[.pointer (some t)] 166)).alloc (.cells #[.pointer (some ⟨10, 166, none⟩), .pointer (some ⟨w.heap.size, 0, none⟩), .int .u64 150] 203)).alloc (.cells #[.pointer (some ⟨10, 166, none⟩), .pointer (some ⟨w.heap.size, 0, none⟩), .int .u64 150] 203)) (by rw [World.cell?_alloc_lt _ _ ⟨w.heap.size, 0, none⟩ (by simp; omega)]; simp)
  have st := setP t ⟨w.heap.size + 1 + 1 + 1, 0, none⟩ e old ((((w.alloc (.cells #[.pointer (some t)] 166)).alloc (.cells #[.pointer (some ⟨10, 166, none⟩), .pointer (some ⟨w.heap.size, 0, none⟩), .int .u64 150] 203)).alloc (.cells #[.pointer (some ⟨10, 166, none⟩), .pointer (some ⟨w.heap.size, 0, none⟩), .int .u64 150] 203)).alloc (.cells #[.pointer (some e)] 152))
    (by rw [World.cell?_alloc_at _ _ _ _ (by simp)]; rfl)
    (by rw [World.cell?_alloc_lt _ _ t (by simp; omega), World.cell?_alloc_lt _ _ t (by simp; omega), World.cell?_alloc_lt _ _ t (by simp; omega), World.cell?_alloc_lt _ _ t htl]; exact ht0)
    (by rw [World.frozen?_alloc_old _ _ t (by simp; omega), World.frozen?_alloc_old _ _ t (by simp; omega), World.frozen?_alloc_old _ _ t (by simp; omega), World.frozen?_alloc_old _ _ t (Nat.ne_of_lt htl)]; exact hf0)
  go_enter Tryz.func80, Tryz.ntmps80
  go_wp2
  refine wp_loop_rounds 1 ?_
  rw [rounds_succ]
  go_wp2
  go_ret
  exact ⟨rfl, rfl⟩

set_option maxHeartbeats 4000000 in
theorem as_miss (e t : Addr) (w : World) (hg : w.cell? ⟨9, 0, none⟩ = some (.iface 218 (.agg #[.pointer (some ⟨10, 31, none⟩)]))) :
    Calls Tryz.prog 80 #[.iface 265 (.pointer (some e)), .iface 166 (.pointer (some t))] w fun ev w' => ev = .returned (.bool false) ∧ w' = ((w.alloc (.cells #[.pointer (some t)] 166)).alloc (.cells #[.pointer (some ⟨10, 166, none⟩), .pointer (some ⟨w.heap.size, 0, none⟩), .int .u64 150] 203)).alloc (.cells #[.pointer (some ⟨10, 166, none⟩), .pointer (some ⟨w.heap.size, 0, none⟩), .int .u64 150] 203) := by
  have h6 := @run_callFunc_extern Tryz.prog 110 _ (fun args => ReflectliteValue.unpack (args.getD 0 (.tuple #[]))) Tryz.func110 (by kernel_rfl) (by kernel_rfl) (by kernel_rfl) (by kernel_rfl)
  have h7 := @run_callFunc_extern Tryz.prog 111 _ (ReflectliteValue.methodAny (ReflectliteValue.valueError "reflectlite.Value.Type" 0) (fun t _ _ _ => ReflectliteType.toType t)) Tryz.func111 (by kernel_rfl) (by kernel_rfl) (by kernel_rfl) (by kernel_rfl)
  have h8 := @run_callFunc_extern Tryz.prog 112 _ (ReflectliteValue.method (ReflectliteValue.valueError "reflectlite.Value.IsNil" 0) ReflectliteValue.isNil) Tryz.func112 (by kernel_rfl) (by kernel_rfl) (by kernel_rfl) (by kernel_rfl)
  have h27 := @run_callFunc_extern Tryz.prog 174 _ (ReflectliteType.abiMethod fun t => do pure (.int .u8 (← Rtype.kind t))) Tryz.func174 (by kernel_rfl) (by kernel_rfl) (by kernel_rfl) (by kernel_rfl)
  have h37 := @run_callFunc_extern Tryz.prog 185 _ (ReflectliteType.method ReflectliteType.elem) Tryz.func185 (by kernel_rfl) (by kernel_rfl) (by kernel_rfl) (by kernel_rfl)
  have h38 := @run_callFunc_extern Tryz.prog 186 _ (ReflectliteType.relation "Implements" ReflectliteType.implements_) Tryz.func186 (by kernel_rfl) (by kernel_rfl) (by kernel_rfl) (by kernel_rfl)
  have h10 := @run_callFunc_extern Tryz.prog 94 _ ReflectliteType.typeOf Tryz.func94 (by kernel_rfl) (by kernel_rfl) (by kernel_rfl) (by kernel_rfl)
  have h35 := @run_callFunc_extern Tryz.prog 183 _ (ReflectliteType.relation "AssignableTo" ReflectliteType.assignableTo) Tryz.func183 (by kernel_rfl) (by kernel_rfl) (by kernel_rfl) (by kernel_rfl)
  have tO := isTypeOf
  have mA := methodAssignableTo
  have a25 := assignableE
  have f6 := valueOfPP
  have f7 := typePP
  have mK := methodKind
  have mE := methodElem
  have mI := methodImplements
  have k27 := kindPP
  have k25 := kindP
  have e27 := elemPP
  have i25 := implementsP
  have nA := noAsE
  have uE := noUnwrapE
  have vE := noUnwrapsE
  have n8 := isNilPP ⟨w.heap.size, 0, none⟩ t ((w.alloc (.cells #[.pointer (some t)] 166)).alloc (.cells #[.pointer (some ⟨10, 166, none⟩), .pointer (some ⟨w.heap.size, 0, none⟩), .int .u64 150] 203)) (by simp)
  have hlt : 9 < w.heap.size := World.block_lt_of_cell? w _ hg
  have hg2 : ((w.alloc (.cells #[.pointer (some t)] 166)).alloc (.cells #[.pointer (some ⟨10, 166, none⟩), .pointer (some ⟨w.heap.size, 0, none⟩), .int .u64 150] 203)).cell? ⟨9, 0, none⟩ = some (.iface 218 (.agg #[.pointer (some ⟨10, 31, none⟩)])) := by
    rw [World.cell?_alloc_lt _ _ ⟨9, 0, none⟩ (by simp; omega), World.cell?_alloc_lt _ _ ⟨9, 0, none⟩ hlt]; exact hg
  go_enter Tryz.func80, Tryz.ntmps80
  go_wp2
  refine wp_loop_rounds 1 ?_
  rw [rounds_succ]
  go_wp2
  go_ret
  exact ⟨rfl, rfl⟩
end Go.Proofs.YtdpmnlbnlnmjbaaGreatDoor

/- Frame -/
namespace Go.Proofs.YtdpmnlbnlnmjbaaGreatDoor
open Go.RowKit

theorem lt_of_block {w : World} {b : Nat} {o : Obj} (h : w.heap[b]? = some o) : b < w.heap.size := by
  rcases Nat.lt_or_ge b w.heap.size with h' | h'
  · exact h'
  · rw [Array.getElem?_eq_none h'] at h; cases h

theorem below_dN {B : Nat} {a w : World} (h : Below B a w) (n : Nat) : Below B a (w.drewN n) := ⟨h.os, h.tape, h.output, h.size, h.block⟩

structure Turns (S : Nat → Nat → Prop) (w w' : World) : Prop where
  os : w'.os = w.os
  tape : w'.tape = w.tape
  output : w'.output = w.output
  size : w.heap.size ≤ w'.heap.size
  block : ∀ k, k < w.heap.size → (∀ o, ¬ S k o) → w'.heap[k]? = w.heap[k]?
  cell : ∀ k o, k < w.heap.size → ¬ S k o → w'.cell? ⟨k, o, none⟩ = w.cell? ⟨k, o, none⟩
  frozen : ∀ k o, k < w.heap.size → ¬ S k o → w'.frozen? ⟨k, o, none⟩ = w.frozen? ⟨k, o, none⟩

theorem Turns.refl (S : Nat → Nat → Prop) (w : World) : Turns S w w := ⟨rfl, rfl, rfl, Nat.le_refl _, fun _ _ _ => rfl, fun _ _ _ _ => rfl, fun _ _ _ _ => rfl⟩

theorem Turns.trans {S : Nat → Nat → Prop} {a b c : World} (h : Turns S a b) (k : Turns S b c) : Turns S a c :=
  ⟨k.os.trans h.os, k.tape.trans h.tape, k.output.trans h.output, Nat.le_trans h.size k.size,
    fun i hi ho => (k.block i (Nat.lt_of_lt_of_le hi h.size) ho).trans (h.block i hi ho),
    fun i o hi ho => (k.cell i o (Nat.lt_of_lt_of_le hi h.size) ho).trans (h.cell i o hi ho),
    fun i o hi ho => (k.frozen i o (Nat.lt_of_lt_of_le hi h.size) ho).trans (h.frozen i o hi ho)⟩

theorem Turns.mono {S S' : Nat → Nat → Prop} {w w' : World} (h : Turns S w w') (hs : ∀ k o, k < w.heap.size → S k o → S' k o) : Turns S' w w' :=
  ⟨h.os, h.tape, h.output, h.size, fun k hk ho => h.block k hk fun o hS => ho o (hs k o hk hS), fun k o hk ho => h.cell k o hk fun hS => ho (hs k o hk hS), fun k o hk ho => h.frozen k o hk fun hS => ho (hs k o hk hS)⟩

theorem Turns.of_below {S : Nat → Nat → Prop} {w w' : World} (h : Below w.heap.size w w') : Turns S w w' :=
  ⟨h.os, h.tape, h.output, h.size, fun k hk _ => h.block k hk, fun _ _ hk _ => h.cell hk, fun _ _ hk _ => h.frozen hk⟩

theorem Turns.below {S : Nat → Nat → Prop} {B : Nat} {w w' : World} (h : Turns S w w') (hB : B ≤ w.heap.size) (hS : ∀ k o, k < B → ¬ S k o) : Below B w w' :=
  ⟨h.os, h.tape, h.output, h.size, fun k hk => h.block k (Nat.lt_of_lt_of_le hk hB) fun o => hS k o hk⟩

theorem Turns.drew {S : Nat → Nat → Prop} {a w : World} (h : Turns S a w) : Turns S a w.drew := h.trans ⟨rfl, rfl, rfl, Nat.le_refl _, fun _ _ _ => rfl, fun _ _ _ _ => rfl, fun _ _ _ _ => rfl⟩
theorem Turns.drewN {S : Nat → Nat → Prop} {a w : World} (h : Turns S a w) (n : Nat) : Turns S a (w.drewN n) := h.trans ⟨rfl, rfl, rfl, Nat.le_refl _, fun _ _ _ => rfl, fun _ _ _ _ => rfl, fun _ _ _ _ => rfl⟩

theorem Turns.alloc {S : Nat → Nat → Prop} {a w : World} (h : Turns S a w) (o : Obj) : Turns S a (w.alloc o) :=
  h.trans (Turns.of_below ((Below.refl _ _).alloc (Nat.le_refl _) _))

theorem Turns.setCell {S : Nat → Nat → Prop} {a w : World} (h : Turns S a w) {b o : Nat} (v : Value) (hS : S b o) : Turns S a (w.setCell ⟨b, o, none⟩ v) :=
  h.trans ⟨rfl, rfl, rfl, by simp [World.setCell], fun k _ ho => Below.heap_setCell _ _ _ _ fun e => by subst e; exact ho o hS,
    fun k p _ ho => World.cell?_setCell_other _ _ _ _ (fun e => ho (by cases e; exact hS)), fun _ _ _ _ => World.frozen?_setCell _ _ _ _⟩

theorem Turns.setNew {S : Nat → Nat → Prop} {a w : World} (h : Turns S a w) {p : Addr} (v : Value) (hp : a.heap.size ≤ p.block) : Turns S a (w.setCell p v) :=
  ⟨h.os, h.tape, h.output, Nat.le_trans h.size (by simp [World.setCell]), fun k hk ho => (Below.heap_setCell _ _ _ _ (by omega)).trans (h.block k hk ho),
    fun k o hk ho => (World.cell?_setCell_other _ _ _ _ (fun e => by rw [e] at hp; exact absurd hp (by simp; omega))).trans (h.cell k o hk ho), fun k o hk ho => (World.frozen?_setCell _ _ _ _).trans (h.frozen k o hk ho)⟩

theorem Turns.keep {S : Nat → Nat → Prop} {w w' : World} (h : Turns S w w') {k o : Nat} {v : Value} (hc : w.cell? ⟨k, o, none⟩ = some v) (hS : ¬ S k o) : w'.cell? ⟨k, o, none⟩ = some v := by
  rw [h.cell k o (World.block_lt_of_cell? w _ hc) hS]; exact hc

theorem Below.drewN' {w : World} (n : Nat) : Below w.heap.size w (w.drewN n) := ⟨rfl, rfl, rfl, Nat.le_refl _, fun _ _ => rfl⟩

theorem below_step {w b c : World} (h : Below w.heap.size w b) (k : Below b.heap.size b c) : Below w.heap.size w c := h.trans (k.mono h.size)

theorem keep_cell {b c : World} (k : Below b.heap.size b c) {p : Addr} {v : Value} (h : b.cell? p = some v) : c.cell? p = some v := by
  rw [k.cell (World.block_lt_of_cell? _ _ h)]; exact h

theorem hide {p : Prop} (h : p) : Hid p := h

theorem ownsRow_block {w w' : World} {base : Nat} {e : TypeId} {size : Nat} {v : Value} {n : Nat} {xs : List Value} (h : w.ownsRow base e size v n xs) (hb : ∀ k, v.ownBlock = some k → w'.heap[k]? = w.heap[k]?) : w'.ownsRow base e size v n xs := by
  obtain ⟨h1, h2⟩ := h
  refine ⟨h1, ?_⟩
  rcases h2 with h2 | ⟨g, cap, cur, hv, hg, hh, r⟩
  · exact Or.inl h2
  · exact Or.inr ⟨g, cap, cur, hv, hg, by rw [hb g (by rw [hv]; rfl)]; exact hh, r⟩

theorem cell_ne {w : World} {b o b' o' : Nat} {v u : Value} (h : w.cell? ⟨b', o', none⟩ = some u) (hne : b' ≠ b ∨ o' ≠ o) : (w.setCell ⟨b, o, none⟩ v).cell? ⟨b', o', none⟩ = some u := by
  rw [World.cell?_setCell_other _ _ _ _ (fun e => by cases e; rcases hne with h | h <;> exact h rfl)]; exact h
end Go.Proofs.YtdpmnlbnlnmjbaaGreatDoor

/- Base -/
namespace Go.Proofs.YtdpmnlbnlnmjbaaGreatDoor
open Go.RowKit Go.Extern.Stop Go.Stop Go.Extern

def gid : Nat → Nat
  | 0 => 3 | 1 => 0 | 2 => 4 | 3 => 5 | 4 => 6
  | 5 => 7 | 6 => 2 | 7 => 8 | _ => 1

abbrev errAt (a : Addr) : Value := .iface 265 (.pointer (some a))

abbrev okI (i : Nat) : Prop := i < 9
structure Env (a : Nat → Addr) (w : World) : Prop where
  cell : ∀ i, okI i → w.cell? ⟨gid i, 0, none⟩ = some (errAt (a i))
  row : ∀ i, okI i → ∃ c t, w.heap[(a i).block]? = some (.cells c t (0, 0))
  ne : ∀ i j, okI i → okI j → i ≠ j → a i ≠ a j
  handle : w.cell? ⟨9, 0, none⟩ = some (.iface 218 (.agg #[.pointer (some ⟨10, 31, none⟩)]))


theorem Env.glt {a : Nat → Addr} {w : World} (h : Env a w) {i : Nat} (hi : okI i) : gid i < w.heap.size := World.block_lt_of_cell? w _ (h.cell i hi)
theorem Env.alt {a : Nat → Addr} {w : World} (h : Env a w) {i : Nat} (hi : okI i) : (a i).block < w.heap.size := by
  obtain ⟨c, t, e⟩ := h.row i hi
  exact lt_of_block e
theorem Env.hlt {a : Nat → Addr} {w : World} (h : Env a w) : 9 < w.heap.size := World.block_lt_of_cell? w _ h.handle

theorem Env.below {a : Nat → Addr} {w w' : World} (h : Env a w) (hb : ∀ k, k < w.heap.size → w'.heap[k]? = w.heap[k]?) : Env a w' where
  cell i hi := by rw [World.cell?_of_block (w := w) (hb _ (h.glt hi))]; exact h.cell i hi
  row i hi := by rw [hb _ (h.alt hi)]; exact h.row i hi
  ne := h.ne
  handle := by rw [World.cell?_of_block (w := w) (hb _ h.hlt)]; exact h.handle

theorem code_nil (w : World) :
    Calls Tryz.prog 46 #[.nilIface] w fun e w' => e = .returned (.tuple #[.int .i64 0, .int .i64 (-1)]) ∧ w' = w := by
  go_enter Tryz.func46, Tryz.ntmps46
  go_wp2
  go_ret2
  exact ⟨rfl, rfl⟩

theorem nine (a : Nat → Addr) (j : Nat) (h : j < 9) : ([errAt (a 0), errAt (a 1), errAt (a 2), errAt (a 3), errAt (a 4), errAt (a 5), errAt (a 6), errAt (a 7), errAt (a 8)] : List Value)[j]? = some (errAt (a j)) := by
  match j, h with
  | 0, _ => rfl
  | 1, _ => rfl
  | 2, _ => rfl
  | 3, _ => rfl
  | 4, _ => rfl
  | 5, _ => rfl
  | 6, _ => rfl
  | 7, _ => rfl
  | 8, _ => rfl

theorem as_miss' (e t : Addr) (w : World) (hg : w.cell? ⟨9, 0, none⟩ = some (.iface 218 (.agg #[.pointer (some ⟨10, 31, none⟩)]))) :
    Calls Tryz.prog 80 #[errAt e, .iface 166 (.pointer (some t))] w fun ev w' => ev = .returned (.bool false) ∧ Below w.heap.size w w' :=
  (as_miss e t w hg).mono fun _ _ ⟨h, h'⟩ => ⟨h, by rw [h']; exact (((Below.refl _ _).alloc (Nat.le_refl _) _).alloc (by simp) _).alloc (by simp; omega) _⟩

theorem as_hit' (e t : Addr) (old : Value) (w : World) (hg : w.cell? ⟨9, 0, none⟩ = some (.iface 218 (.agg #[.pointer (some ⟨10, 31, none⟩)]))) (ht0 : w.cell? t = some old) (hf0 : w.frozen? t = false) :
    Calls Tryz.prog 80 #[.iface 152 (.pointer (some e)), .iface 166 (.pointer (some t))] w fun ev w' => ev = .returned (.bool true) ∧ w'.cell? t = some (.pointer (some e)) ∧ Below t.block w w' := by
  have htl : t.block < w.heap.size := World.block_lt_of_cell? w _ ht0
  refine (as_hit e t old w hg ht0 hf0).mono fun _ _ ⟨h, h'⟩ => ⟨h, ?_, ?_⟩
  · rw [h']
    refine World.cell?_setCell_same _ _ _ (u := old) ?_
    rw [World.cell?_alloc_lt _ _ t (by simp; omega), World.cell?_alloc_lt _ _ t (by simp; omega), World.cell?_alloc_lt _ _ t (by simp; omega), World.cell?_alloc_lt _ _ t htl]
    exact ht0
  · rw [h']
    exact (((((Below.refl _ _).alloc (by omega) _).alloc (by simp; omega) _).alloc (by simp; omega) _).alloc (by simp; omega) _).setCell (Nat.le_refl _) _

def codeNum (k : Nat) : Int := if k < 9 then (k : Int) + 1 else -1

theorem below_drop {w w2 : World} {o : Obj} (h : Below (w.alloc o).heap.size (w.alloc o) w2) : Below w.heap.size w w2 :=
  ((Below.refl _ _).alloc (Nat.le_refl _) o).trans (h.mono (by simp))

set_option maxHeartbeats 1000000 in
theorem code_miss (a : Nat → Addr) (e : Addr) (k : Nat) (w : World) (hE : Env a w) (hne : ∀ j, j < 9 → j < k → e ≠ a j) (heq : k < 9 → e = a k) (hk9 : k ≤ 9) (ca : Array Value) (ta : TypeId) (hrow : w.heap[e.block]? = some (.cells ca ta (0, 0))) :
    Calls Tryz.prog 46 #[errAt e] w fun ev w' => ev = .returned (.tuple #[.int .i64 (codeNum k), .int .i64 (-1)]) ∧ Below w.heap.size w w' := by
  have hE0 : Env a (w.alloc (.cells #[.pointer none] 152)) := hE.below fun k hk => Below.heap_alloc _ _ _ hk
  have H0 : Hid (∀ (t : Addr) (w0 : World), w0 = w.alloc (.cells #[.pointer none] 152) → Calls Tryz.prog 80 #[errAt e, .iface 166 (.pointer (some t))] w0 fun ev w' => ev = .returned (.bool false) ∧ Below w0.heap.size w0 w') := fun t w0 h => as_miss' e t w0 (by rw [h]; exact hE0.handle)
  have hel := lt_of_block hrow
  go_enter Tryz.func46, Tryz.ntmps46
  go_wp2_with fail
  refine (H0.out _ _ rfl).mono ?_
  rintro e0 w1 ⟨rfl, hb1⟩
  have hE1 : Env a w1 := hE0.below hb1.block
  have hbW : Below w.heap.size w w1 := below_drop hb1
  have hre : (w1.alloc (.cells #[errAt (a 0), errAt (a 1), errAt (a 2), errAt (a 3), errAt (a 4), errAt (a 5), errAt (a 6), errAt (a 7), errAt (a 8)] 31)).heap[e.block]? = some (.cells ca ta (0, 0)) := by
    rw [Below.heap_alloc _ _ _ (Nat.lt_of_lt_of_le (by simp; omega) hb1.size), hb1.block _ (by simp; omega), Below.heap_alloc _ _ _ hel]; exact hrow
  have c0 : w1.cell? ⟨3, 0, none⟩ = some (errAt (a 0)) := hE1.cell 0 (by decide)
  have c1 : w1.cell? ⟨0, 0, none⟩ = some (errAt (a 1)) := hE1.cell 1 (by decide)
  have c2 : w1.cell? ⟨4, 0, none⟩ = some (errAt (a 2)) := hE1.cell 2 (by decide)
  have c3 : w1.cell? ⟨5, 0, none⟩ = some (errAt (a 3)) := hE1.cell 3 (by decide)
  have c4 : w1.cell? ⟨6, 0, none⟩ = some (errAt (a 4)) := hE1.cell 4 (by decide)
  have c5 : w1.cell? ⟨7, 0, none⟩ = some (errAt (a 5)) := hE1.cell 5 (by decide)
  have c6 : w1.cell? ⟨2, 0, none⟩ = some (errAt (a 6)) := hE1.cell 6 (by decide)
  have c7 : w1.cell? ⟨8, 0, none⟩ = some (errAt (a 7)) := hE1.cell 7 (by decide)
  have c8 : w1.cell? ⟨1, 0, none⟩ = some (errAt (a 8)) := hE1.cell 8 (by decide)
  go_wp2_with fail
  have hc : ∀ j, j < 9 → (w1.alloc (.cells #[errAt (a 0), errAt (a 1), errAt (a 2), errAt (a 3), errAt (a 4), errAt (a 5), errAt (a 6), errAt (a 7), errAt (a 8)] 31)).cell? ⟨w1.heap.size, j, none⟩ = some (errAt (a j)) := fun j hj => by
    rw [World.cell?_alloc_new]; simpa using nine a j hj
  have hE2 := hE1.below fun k hk => Below.heap_alloc w1 (.cells #[errAt (a 0), errAt (a 1), errAt (a 2), errAt (a 3), errAt (a 4), errAt (a 5), errAt (a 6), errAt (a 7), errAt (a 8)] 31) _ hk
  have hb2 := hbW.alloc hbW.size (.cells #[errAt (a 0), errAt (a 1), errAt (a 2), errAt (a 3), errAt (a 4), errAt (a 5), errAt (a 6), errAt (a 7), errAt (a 8)] 31)
  clear c0 c1 c2 c3 c4 c5 c6 c7 c8 hE0 H0 hE1 
  generalize hw2 : w1.alloc (.cells #[errAt (a 0), errAt (a 1), errAt (a 2), errAt (a 3), errAt (a 4), errAt (a 5), errAt (a 6), errAt (a 7), errAt (a 8)] 31) = w2 at hc hE2 hb2 hre ⊢
  clear hw2
  go_loop [2, 3, 5, 6, 27] (fun _ t _ _ i => t = .int .i64 (-1) ∧ ∃ j : Nat, j ≤ k ∧ j ≤ 9 ∧ i = .int .i64 j) (fun _ _ _ _ i => 9 - (intOf i).toNat)
  case atStart => exact ⟨rfl, 0, Nat.zero_le _, by decide, rfl⟩
  case round =>
    obtain ⟨rfl, j, hj, hj9, rfl⟩ := hrel
    by_cases h9 : j < 9
    · have hcj := hc j h9
      obtain ⟨cb, tb, hrb⟩ := hE2.row j h9
      by_cases hlt : j < k
      · have hnej := hne j h9 hlt
        go_wp2_with fail
        refine (is_other e (a j) ca cb ta tb w2 hnej hre hrb).mono ?_
        rintro e w3 ⟨rfl, rfl⟩
        go_wp2
        go_round
        case rel => exact ⟨rfl, j + 1, by omega, by omega, by go_num⟩
        case measure => simp [intOf]; omega
      · obtain rfl : j = k := by omega
        have hek := heq h9
        subst hek
        go_wp2_with fail
        refine (is_same (a j) w2).mono ?_
        rintro e w3 ⟨rfl, rfl⟩
        go_wp2
        go_ret2
        exact ⟨by rw [codeNum, if_pos h9]; simp, hb2⟩
    · obtain rfl : j = k := by omega
      go_wp2
      go_ret2
      exact ⟨by rw [codeNum, if_neg h9]; rfl, hb2⟩
set_option maxHeartbeats 1000000 in
theorem code_hit (a : Nat → Addr) (e : Addr) (pb po : Nat) (p : Int) (k : Nat) (w : World) (hE : Env a w) (hne : ∀ j, j < 9 → j < k → e ≠ a j) (heq : k < 9 → e = a k) (hk9 : k ≤ 9) (ca : Array Value) (ta : TypeId) (hrow : w.heap[e.block]? = some (.cells ca ta (0, 0)))
    (hp0 : w.cell? ⟨pb, po, none⟩ = some (.int .i64 p)) (hp1 : w.cell? ⟨pb, po + 1, none⟩ = some (errAt e)) :
    Calls Tryz.prog 46 #[.iface 152 (.pointer (some ⟨pb, po, none⟩))] w fun ev w' => ev = .returned (.tuple #[.int .i64 (codeNum k), .int .i64 p]) ∧ Below w.heap.size w w' := by
  have hE0 : Env a (w.alloc (.cells #[.pointer none] 152)) := hE.below fun k hk => Below.heap_alloc _ _ _ hk
  have H0 : Hid (∀ (w0 : World), w0 = w.alloc (.cells #[.pointer none] 152) → Calls Tryz.prog 80 #[.iface 152 (.pointer (some ⟨pb, po, none⟩)), .iface 166 (.pointer (some ⟨w.heap.size, 0, none⟩))] w0 fun ev w' => ev = .returned (.bool true) ∧ w'.cell? ⟨w.heap.size, 0, none⟩ = some (.pointer (some ⟨pb, po, none⟩)) ∧ Below w.heap.size w0 w') := fun w0 h => as_hit' ⟨pb, po, none⟩ ⟨w.heap.size, 0, none⟩ (.pointer none) w0 (by rw [h]; exact hE0.handle) (by rw [h]; simp) (by rw [h]; simp)
  have hel := lt_of_block hrow
  have hpl : pb < w.heap.size := World.block_lt_of_cell? w _ hp0
  go_enter Tryz.func46, Tryz.ntmps46
  go_wp2_with fail
  refine (H0.out _ rfl).mono ?_
  rintro e0 w1 ⟨rfl, hct, hb1⟩
  have hbW : Below w.heap.size w w1 := ((Below.refl _ _).alloc (Nat.le_refl _) _).trans hb1
  have hE1 : Env a w1 := hE.below hbW.block
  have q0 : w1.cell? ⟨pb, po, none⟩ = some (.int .i64 p) := by rw [hbW.cell hpl]; exact hp0
  have hq1 : (w1.alloc (.cells #[errAt (a 0), errAt (a 1), errAt (a 2), errAt (a 3), errAt (a 4), errAt (a 5), errAt (a 6), errAt (a 7), errAt (a 8)] 31)).cell? ⟨pb, po + 1, none⟩ = some (errAt e) := by
    rw [World.cell?_alloc_lt _ _ _ (Nat.lt_of_lt_of_le hpl hbW.size), hbW.cell hpl]; exact hp1
  have hre : (w1.alloc (.cells #[errAt (a 0), errAt (a 1), errAt (a 2), errAt (a 3), errAt (a 4), errAt (a 5), errAt (a 6), errAt (a 7), errAt (a 8)] 31)).heap[e.block]? = some (.cells ca ta (0, 0)) := by
    rw [Below.heap_alloc _ _ _ (Nat.lt_of_lt_of_le hel hbW.size), hbW.block _ hel]; exact hrow
  have c0 : w1.cell? ⟨3, 0, none⟩ = some (errAt (a 0)) := hE1.cell 0 (by decide)
  have c1 : w1.cell? ⟨0, 0, none⟩ = some (errAt (a 1)) := hE1.cell 1 (by decide)
  have c2 : w1.cell? ⟨4, 0, none⟩ = some (errAt (a 2)) := hE1.cell 2 (by decide)
  have c3 : w1.cell? ⟨5, 0, none⟩ = some (errAt (a 3)) := hE1.cell 3 (by decide)
  have c4 : w1.cell? ⟨6, 0, none⟩ = some (errAt (a 4)) := hE1.cell 4 (by decide)
  have c5 : w1.cell? ⟨7, 0, none⟩ = some (errAt (a 5)) := hE1.cell 5 (by decide)
  have c6 : w1.cell? ⟨2, 0, none⟩ = some (errAt (a 6)) := hE1.cell 6 (by decide)
  have c7 : w1.cell? ⟨8, 0, none⟩ = some (errAt (a 7)) := hE1.cell 7 (by decide)
  have c8 : w1.cell? ⟨1, 0, none⟩ = some (errAt (a 8)) := hE1.cell 8 (by decide)
  go_wp2_with fail
  have hc : ∀ j, j < 9 → (w1.alloc (.cells #[errAt (a 0), errAt (a 1), errAt (a 2), errAt (a 3), errAt (a 4), errAt (a 5), errAt (a 6), errAt (a 7), errAt (a 8)] 31)).cell? ⟨w1.heap.size, j, none⟩ = some (errAt (a j)) := fun j hj => by
    rw [World.cell?_alloc_new]; simpa using nine a j hj
  have hE2 := hE1.below fun k hk => Below.heap_alloc w1 (.cells #[errAt (a 0), errAt (a 1), errAt (a 2), errAt (a 3), errAt (a 4), errAt (a 5), errAt (a 6), errAt (a 7), errAt (a 8)] 31) _ hk
  have hb2 := hbW.alloc hbW.size (.cells #[errAt (a 0), errAt (a 1), errAt (a 2), errAt (a 3), errAt (a 4), errAt (a 5), errAt (a 6), errAt (a 7), errAt (a 8)] 31)
  clear c0 c1 c2 c3 c4 c5 c6 c7 c8 hE0 H0 hE1 q0 hct 
  generalize hw2 : w1.alloc (.cells #[errAt (a 0), errAt (a 1), errAt (a 2), errAt (a 3), errAt (a 4), errAt (a 5), errAt (a 6), errAt (a 7), errAt (a 8)] 31) = w2 at hc hE2 hb2 hre hq1 ⊢
  clear hw2
  go_loop [2, 3, 5, 6, 27] (fun _ t _ _ i => t = .int .i64 p ∧ ∃ j : Nat, j ≤ k ∧ j ≤ 9 ∧ i = .int .i64 j) (fun _ _ _ _ i => 9 - (intOf i).toNat)
  case atStart => exact ⟨rfl, 0, Nat.zero_le _, by decide, rfl⟩
  case round =>
    obtain ⟨rfl, j, hj, hj9, rfl⟩ := hrel
    by_cases h9 : j < 9
    · have hcj := hc j h9
      obtain ⟨cb, tb, hrb⟩ := hE2.row j h9
      by_cases hlt : j < k
      · have hnej := hne j h9 hlt
        go_wp2_with fail
        refine (is_fault_other pb po (a j) e ca cb ta tb w2 hq1 hnej hre hrb).mono ?_
        rintro e w3 ⟨rfl, rfl⟩
        go_wp2
        go_round
        case rel => exact ⟨rfl, j + 1, by omega, by omega, by go_num⟩
        case measure => simp [intOf]; omega
      · obtain rfl : j = k := by omega
        have hek := heq h9
        subst hek
        go_wp2_with fail
        refine (is_fault_same pb po (a j) w2 hq1).mono ?_
        rintro e w3 ⟨rfl, rfl⟩
        go_wp2
        go_ret2
        exact ⟨by rw [codeNum, if_pos h9]; simp, hb2⟩
    · obtain rfl : j = k := by omega
      go_wp2
      go_ret2
      exact ⟨by rw [codeNum, if_neg h9]; rfl, hb2⟩

theorem code_sent (a : Nat → Addr) (k : Nat) (hk : k < 9) (w : World) (hE : Env a w) :
    Calls Tryz.prog 46 #[errAt (a k)] w fun ev w' => ev = .returned (.tuple #[.int .i64 (k + 1 : Nat), .int .i64 (-1)]) ∧ Below w.heap.size w w' := by
  obtain ⟨c, t, hr⟩ := hE.row k hk
  refine (code_miss a (a k) k w hE (fun j hj hlt => hE.ne k j hk hj (by omega)) (fun _ => rfl) (by omega) c t hr).mono fun _ _ ⟨h, h'⟩ => ⟨?_, h'⟩
  rw [h, codeNum, if_pos hk]; rfl

theorem code_fault (a : Nat → Addr) (k : Nat) (hk : k < 9) (pb po : Nat) (p : Int) (w : World) (hE : Env a w) (hp0 : w.cell? ⟨pb, po, none⟩ = some (.int .i64 p)) (hp1 : w.cell? ⟨pb, po + 1, none⟩ = some (errAt (a k))) :
    Calls Tryz.prog 46 #[.iface 152 (.pointer (some ⟨pb, po, none⟩))] w fun ev w' => ev = .returned (.tuple #[.int .i64 (k + 1 : Nat), .int .i64 p]) ∧ Below w.heap.size w w' := by
  obtain ⟨c, t, hr⟩ := hE.row k hk
  refine (code_hit a (a k) pb po p k w hE (fun j hj hlt => hE.ne k j hk hj (by omega)) (fun _ => rfl) (by omega) c t hr hp0 hp1).mono fun _ _ ⟨h, h'⟩ => ⟨?_, h'⟩
  rw [h, codeNum, if_pos hk]; rfl

end Go.Proofs.YtdpmnlbnlnmjbaaGreatDoor
