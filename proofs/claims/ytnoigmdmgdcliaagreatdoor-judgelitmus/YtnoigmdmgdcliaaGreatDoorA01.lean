import Derived.Test.YtnoigmdmgdcliaaGreatDoorProg
import Derived.Test.YtnoigmdmgdcliaaGreatDoorRows
import Derived.Test.YtnoigmdmgdcliaaGreatDoorCards
import Derived.ProofKit
import Derived.LaidMore
import Derived.LaidSub
import Derived.Lay
import Derived.MakeChecks
import Derived.OpenShut
import Derived.Stop.Joined
import Derived.Stop.LaidErr
import Derived.LaidHandle
import Derived.HandedShaped
import Derived.Deep.Slices
import Derived.Lib.SmallJoins
import Derived.Lib.LaidTab
import Derived.WalkKit
import Derived.Below
import Derived.LaidEql
import Derived.Stop.Asserts
import Derived.RowKitTokens
import Derived.Laws.World
import Derived.Deep.Quiet
import Derived.OwnWalk
import Derived.BigQuiet
import Derived.Outline
namespace Go.Proofs.YtnoigmdmgdcliaaGreatDoor
set_option maxRecDepth 100000
set_option maxHeartbeats 8000000
section
open Go.ChangeShapes Go.WideShapes Go.ChangeAt Go.RowKit Go.Joins Go.Deep
theorem own:ownKnob Tryz.prog.godebug=none:=by kernel_rfl
def sentOf(x:String×List UInt8):String×DataW Unit:=(x.1, .iface "*errors.errorString" (.ptr (.agg [.lit (.string x.2)])))
theorem sents_of_laid {P:Program} {ti tp te ts:TypeId} {ms:Array (String×TypeId)} {f:Field} {W:World}
  (hi:P.underlying ti=some (.interface ms)) (hrow: ∀u,P.typeName? 3 u=some "*errors.errorString" ->u=tp)
  (hp:P.underlying tp=some (.pointer te)) (he:P.underlying te=some (.struct #[f])) (hft:f.type=ts) (hfo:f.offset=0) (hs:P.underlying ts=some .string) (hc:P.cellsOf te=1) (hcs:P.cellsOf ts=1):
  ∀ (l:List (String×List UInt8)) (ps:List MemPlace),DataW.LaidVars P W (l.map sentOf) ps->ps.Nodup->
   (∀b off,MemPlace.cell b off∈ps->(∃c t,W.heap[b]? =some (.cells c t (0,0)))/\ ∀u v,W.cell? ⟨b,off,none⟩=some (.iface u v)->Value.okWide P W .any 0 u v)->
   (∀x∈l, ∃g,P.globalNamed x.1=some g/\(P.globals[g]?).map (·.type)=some ti)->
   ∃ ads:List Addr,ads.length=l.length/\ads.Nodup/\(∀a∈ads,MemPlace.cell a.block a.off∈ps/\ ∃c t,W.heap[a.block]? =some (.cells c t (0,0)))/\
    ∀(i:Nat) (x:String×List UInt8),l[i]? =some x-> ∃a,ads[i]? =some a/\W.var? P x.1=some #[.iface tp (.pointer (some a))]
 | [],_,_,_,_,_=>⟨[],rfl,List.nodup_nil,fun _ h=>absurd h List.not_mem_nil,fun i x h=>by simp at h⟩
 | x ::r,ps,h,hnd,hrows,hg=>by
  obtain⟨g,t,cs,fuel,p,q,hg1,ht1,hv1,hd1,hr,rfl⟩:=h
  obtain⟨g',hg',ht'⟩:=hg x (List.mem_cons_self)
  obtain rfl:=Option.some.inj (hg'.symm.trans hg1)
  obtain rfl:=Option.some.inj (ht'.symm.trans ht1)
  obtain⟨cl⟩:=cs
  have ok: ∀u v,cl=[.iface u v]->Value.okWide P W .any 0 u v:=fun u v e=>by
   subst e
   exact(hrows g' 0 (by simp[MemPlace.row])).2 u v (by simpa using World.var?_cell hg1 hv1 0)
  obtain⟨a,s,rfl,_,_,_,rfl⟩:=errorString_of_trod hi hrow hp he hft hfo hs hc hcs hd1 ok
  obtain⟨ads,hl,hn,hm,hat⟩:=sents_of_laid hi hrow hp he hft hfo hs hc hcs r q hr (List.Nodup.sublist (List.sublist_append_right _ _) hnd) (fun b off hb=>hrows b off (List.mem_append_right _ hb)) (fun y hy=>hg y (List.mem_cons_of_mem _ hy))
  refine⟨a::ads,by simp[hl],List.nodup_cons.2 ⟨fun ha=>?_,hn⟩,fun b hb=>?_,fun i y hy=>?_⟩
  ·have:=(hm a ha).1
   rw[List.append_assoc] at hnd
   have h2:=(List.nodup_append.1 (List.nodup_append.1 hnd).2.1).2.2
   exact h2 (MemPlace.cell a.block a.off) (by simp[MemPlace.row]) _ this rfl
  ·rcases List.mem_cons.1 hb with rfl |hb'
   ·exact⟨by simp[MemPlace.row],(hrows b.block b.off (by simp[MemPlace.row])).1⟩
   ·exact⟨List.mem_append_right _ (hm b hb').1,(hm b hb').2⟩
  ·cases i with
   | zero=>
    simp only[List.getElem?_cons_zero,Option.some.injEq] at hy
    subst hy
    exact⟨a,rfl,hv1⟩
   | succ i=>
    simp only[List.getElem?_cons_succ] at hy ⊢
    exact hat i y hy
section
variable {H:Type} {enc:TypeId×Value->H}
theorem lift_shaped {a:Assume} {C:Checked} {os:Os} {f:FuncId} {fn:Func} {s:ChangeSpec} {conds:List PathCond} {apart fresh handsOn again:Bool} {X:World->Array Value->Prop}
  (hX: ∀(w w':World) (args:Array Value),w.heap=w'.heap->X w args->X w' args)
  (own:ownKnob C.prog.godebug=none) (started:os.Started) (noInit:C.prog.inits.idxOf? f=none) (hfn:C.prog.funcs[f]? =some fn)
  (witness : ∃(w:World) (tape:Tape) (i:Input),w.os=os/\(w.forCall tape i).Shaped C.prog/\i.vars=[]/\Input.okWide C.prog (w.forCall tape i) .any w.heap.size f i/\
    ((s.pre enc C.prog fn conds apart (w.forCall tape i).memory i.args/\X (w.forCall tape i).memory i.args)/\sizedMet enc C.prog fn (OpenSpec.ofChange s) apart (w.forCall tape i).memory i.args)/\a.holds C.prog (lone (Frame.enter C.prog f i.args .normal) [] (w.forCall tape i)))
  (contract : ∀(W:World) (base:Nat) (args:Array Value) (ds gs:List (DataW H)) (before:List MemPlace),
    (∀(j:Nat) t v,fn.params[j]? =some t->args[j]? =some v->Value.okWide C.prog W .any base t v)->
    DataW.Whole enc C.prog fn.params.toList s.vars apart W args.toList ds gs before->X W args->W.ShapedOpen C.prog->
    Calls C.prog f args W fun e W'=> ∃v,e= .returned v/\s.post enc C.prog fn apart fresh handsOn again W args v W'):
  ReturnsInHanded a C os f .any (fun w args=>(s.pre enc C.prog fn conds apart w args/\X w args)/\sizedMet enc C.prog fn (OpenSpec.ofChange s) apart w args) (s.post enc C.prog fn apart fresh handsOn again):=by
 refine returnsInHanded_of_calls own started noInit witness ?_
 intro w tape i _ hsh _ hok hpre _
 obtain⟨_,_,_,g,hg,_,_,_,_,hval⟩:=hok
 obtain rfl:g=fn:=Option.some.inj (hg.symm.trans hfn)
 obtain⟨⟨⟨ds,gs,before,hw,_⟩,hx⟩,_⟩:=hpre
 refine(contract (w.forCall tape i) w.heap.size i.args ds gs before hval (DataW.Whole.of_heap (w':=w.forCall tape i) (by rfl) hw) (hX _ _ _ (by rfl) hx) hsh).mono fun e W' ⟨v,he,hp⟩=>?_
 subst he
 exact ChangeSpec.post_blind hp
end
theorem laidOutA:laidOutB Tryz.prog=true:=by kernel_rfl
theorem trodAll_below {H:Type} {enc:TypeId×Value->H} {P:Program} (hl:laidOutB P=true) {W W':World} (hb:Below W.heap.size W W'):
  ∀ (ts:List TypeId) (vs:List Value) (ds:List (DataW H)) (ps:List MemPlace),(∀t∈ts,P.readableRec t=true/\t<P.types.size)->DataW.TrodAll enc P W 0 (fun _=>true) true ts vs ds ps->
   DataW.TrodAll enc P W' 0 (fun b=>decide (b<W.heap.size)) true ts vs ds ps
 | [],vs,ds,ps,_,h=>by
  obtain⟨rfl,rfl,rfl⟩:=trodAll_nil h
  exact trodAll_mk0
 | t::ts,vs,ds,ps,hr,h=>by
  have hlt:=h.lt
  obtain⟨v,vs',d,ds',p,q,rfl,rfl,rfl,h0,r0⟩:=trodAll_cons h
  refine trodAll_cons_mk (Below.trod hl (hr t List.mem_cons_self).1 (hr t List.mem_cons_self).2 h0 hb (fun x hx=>hlt x (List.mem_append_left _ hx))) (trodAll_below hl hb ts vs' ds' q (fun u hu=>hr u (List.mem_cons_of_mem _ hu)) r0)
end
section
open Go.RowKit Go.Extern.Stop Go.Stop Go.Extern
theorem isTypeOf(v:Value)(w:World):(Extern.ReflectliteType.typeOf #[.iface 358 v]).run Tryz.prog w= .ok (.iface 261 (.agg #[.pointer (some ⟨13,358,none⟩)])) w:=by kernel_rfl
theorem isComparable(w:World):((Extern.ReflectliteType.method fun t=>do Rtype.noPackHeld "Comparable" t;pure (.bool (<-typeInfo t).comparable)) #[.agg #[.pointer (some ⟨13,358,none⟩)]]).run Tryz.prog w= .ok (.bool true) w:=by kernel_rfl
theorem callComparable(w:World):(callFunc 301 #[.agg #[.pointer (some ⟨13,358,none⟩)]]).run Tryz.prog w= .ok (.value (.bool true)) w:=by
 rw[@run_callFunc_extern Tryz.prog 301 _ (Extern.ReflectliteType.method fun t=>do Rtype.noPackHeld "Comparable" t;pure (.bool (<-typeInfo t).comparable)) Tryz.func301 (by kernel_rfl) (by kernel_rfl) (by kernel_rfl) (by kernel_rfl),isComparable]
 rfl
theorem isMethodComparable(v:Value)(w:World):(Go.method 488 261 v "Comparable").run Tryz.prog w= .ok (301,v) w:=by kernel_rfl
theorem isComp:(Tryz.prog.info? 358).map (·.comparable)=some true:=by kernel_rfl
theorem isSize:(Tryz.prog.info? 377).map (·.size)=some 1:=by kernel_rfl
theorem noIsE(v:Value)(xT:TypeId)(w:World):(Instr.typeAssert (.iface 358 v) xT 263 true).run Tryz.prog w= .ok (.tuple #[.nilIface, .bool false]) w:=run_typeAssert_lacksB Tryz.underlying263 (by kernel_rfl) (by kernel_rfl) v xT w
theorem noUnwrapE(v:Value)(xT:TypeId)(w:World):(Instr.typeAssert (.iface 358 v) xT 266 true).run Tryz.prog w= .ok (.tuple #[.nilIface, .bool false]) w:=run_typeAssert_lacksB Tryz.underlying266 (by kernel_rfl) (by kernel_rfl) v xT w
theorem noUnwrapsE(v:Value)(xT:TypeId)(w:World):(Instr.typeAssert (.iface 358 v) xT 268 true).run Tryz.prog w= .ok (.tuple #[.nilIface, .bool false]) w:=run_typeAssert_lacksB Tryz.underlying268 (by kernel_rfl) (by kernel_rfl) v xT w
theorem noAsE(v:Value)(xT:TypeId)(w:World):(Instr.typeAssert (.iface 358 v) xT 280 true).run Tryz.prog w= .ok (.tuple #[.nilIface, .bool false]) w:=run_typeAssert_lacksB Tryz.underlying280 (by kernel_rfl) (by kernel_rfl) v xT w
theorem is_same(a:Addr)(w:World):
  Calls Tryz.prog 46 #[.iface 358 (.pointer (some a)), .iface 358 (.pointer (some a))] w fun e w'=>e= .returned (.bool true)/\w'=w:=by
 obtain⟨i,hi,hcmp⟩:=Option.map_eq_some_iff.1 isComp
 obtain⟨j,hj,hjs⟩:=Option.map_eq_some_iff.1 isSize
 have h8:= @run_callFunc_extern Tryz.prog 83 _ Extern.ReflectliteType.typeOf Tryz.func83 (by kernel_rfl) (by kernel_rfl) (by kernel_rfl) (by kernel_rfl)
 have tT:=isTypeOf
 have cT:=callComparable
 have mR:=isMethodComparable
 have heq:=run_eql_iface_ptr_same (P:=Tryz.prog) w a Tryz.underlying27 Tryz.underlying358 hi hcmp hj
 go_enter Tryz.func46,Tryz.ntmps46
 go_wp2
 refine wp_loop_rounds 1 ?_
 rw[rounds_succ]
 go_wp2
 go_ret
 exact⟨rfl,rfl⟩
theorem is_other(a b:Addr)(ca cb:Array Value)(ta tb:TypeId)(w:World)(hne:a≠b)(ha:w.heap[a.block]? =some (.cells ca ta (0,0)))(hb:w.heap[b.block]? =some (.cells cb tb (0,0))):
  Calls Tryz.prog 46 #[.iface 358 (.pointer (some a)), .iface 358 (.pointer (some b))] w fun e w'=>e= .returned (.bool false)/\w'=w:=by
 obtain⟨i,hi,hcmp⟩:=Option.map_eq_some_iff.1 isComp
 obtain⟨j,hj,hjs⟩:=Option.map_eq_some_iff.1 isSize
 have h8:= @run_callFunc_extern Tryz.prog 83 _ Extern.ReflectliteType.typeOf Tryz.func83 (by kernel_rfl) (by kernel_rfl) (by kernel_rfl) (by kernel_rfl)
 have tT:=isTypeOf
 have cT:=callComparable
 have mR:=isMethodComparable
 have nE:=noIsE
 have uE:=noUnwrapE
 have vE:=noUnwrapsE
 have heq:=run_eql_iface_ptr_other (P:=Tryz.prog) w Tryz.underlying27 Tryz.underlying358 hi hcmp hj (by rw[hjs];decide) hne ha hb
 go_enter Tryz.func46,Tryz.ntmps46
 go_wp2
 refine wp_loop_rounds 1 ?_
 rw[rounds_succ]
 go_wp2
 go_ret
 exact⟨rfl,rfl⟩
/-! ### errors.As, the target a pointer to a variable of type pointer to api.Fault -/
theorem valueOfPP(t:Addr)(w:World):(ReflectliteValue.unpack (.iface 143 (.pointer (some t)))).run Tryz.prog w
  = .ok (.agg #[.pointer (some ⟨13,143,none⟩), .pointer (some ⟨w.heap.size,0,none⟩), .int .u64 150]) (w.alloc (.cells #[.pointer (some t)] 143)):=by kernel_rfl
theorem typePP(a:Addr)(w:World):(ReflectliteValue.methodAny (ReflectliteValue.valueError "reflectlite.Value.Type" 0) (fun t _ _ _=>ReflectliteType.toType t) #[.agg #[.pointer (some ⟨13,143,none⟩), .pointer (some a), .int .u64 150]]).run Tryz.prog w
  = .ok (.iface 261 (.agg #[.pointer (some ⟨13,143,none⟩)])) w:=by kernel_rfl
theorem methodKind(h:Value)(w:World):(Go.method 488 261 (.agg #[h]) "Kind").run Tryz.prog w= .ok (287,h) w:=by kernel_rfl
theorem kindPP(w:World):((ReflectliteType.abiMethod fun t=>(fun a:Nat=>Value.int IntKind.u8 (a:Int))<$> Rtype.kind t) #[.pointer (some ⟨13,143,none⟩)]).run Tryz.prog w= .ok (.int .u8 22) w:=by kernel_rfl
theorem kindP(w:World):((ReflectliteType.abiMethod fun t=>(fun a:Nat=>Value.int IntKind.u8 (a:Int))<$> Rtype.kind t) #[.pointer (some ⟨13,141,none⟩)]).run Tryz.prog w= .ok (.int .u8 22) w:=by kernel_rfl
theorem rlm(z:Sem Value)(f:TypeId->Addr->Nat->Nat->Sem Value)(v:Value):
  ReflectliteValue.method z f #[v]=(do match <-ReflectliteValue.parts v with |none=>z |some (t,a,fl)=>f t a fl (fl % 32)):=rfl
theorem partsPP(a:Addr)(w:World):(ReflectliteValue.parts (.agg #[.pointer (some ⟨13,143,none⟩), .pointer (some a), .int .u64 150])).run Tryz.prog w= .ok (some (143,a,150)) w:=by kernel_rfl
theorem isNilPP(a p:Addr)(W:World)(ha:W.cell? a=some (.pointer (some p))):
  (ReflectliteValue.method (ReflectliteValue.valueError "reflectlite.Value.IsNil" 0) ReflectliteValue.isNil #[.agg #[.pointer (some ⟨13,143,none⟩), .pointer (some a), .int .u64 150]]).run Tryz.prog W= .ok (.bool false) W:=by
 rw[rlm]
 simp only[Sem.run_bind,partsPP,Result.andThen]
 simp[ReflectliteValue.isNil,loadVar,isAgg,underlying,Tryz.underlying143,ha,Result.andThen]
theorem methodElem(h:Value)(w:World):(Go.method 488 261 (.agg #[h]) "Elem").run Tryz.prog w= .ok (302, .agg #[h]) w:=by kernel_rfl
theorem methodImplements(h:Value)(w:World):(Go.method 488 261 (.agg #[h]) "Implements").run Tryz.prog w= .ok (303, .agg #[h]) w:=by kernel_rfl
theorem methodAssignableTo(h:Value)(w:World):(Go.method 488 261 (.agg #[h]) "AssignableTo").run Tryz.prog w= .ok (300, .agg #[h]) w:=by kernel_rfl
theorem elemPP(w:World):(ReflectliteType.method ReflectliteType.elem #[.agg #[.pointer (some ⟨13,143,none⟩)]]).run Tryz.prog w= .ok (.iface 261 (.agg #[.pointer (some ⟨13,141,none⟩)])) w:=by kernel_rfl
theorem implementsP(w:World):(ReflectliteType.relation "Implements" ReflectliteType.implements_ #[.agg #[.pointer (some ⟨13,141,none⟩)], .iface 261 (.agg #[.pointer (some ⟨13,27,none⟩)])]).run Tryz.prog w= .ok (.bool true) w:=by kernel_rfl
theorem typeOfP(v:Value)(w:World):(ReflectliteType.typeOf #[.iface 141 v]).run Tryz.prog w= .ok (.iface 261 (.agg #[.pointer (some ⟨13,141,none⟩)])) w:=by kernel_rfl
theorem assignableP(w:World):(ReflectliteType.relation "AssignableTo" ReflectliteType.assignableTo #[.agg #[.pointer (some ⟨13,141,none⟩)], .iface 261 (.agg #[.pointer (some ⟨13,141,none⟩)])]).run Tryz.prog w= .ok (.bool true) w:=by kernel_rfl
theorem assignableE(w:World):(ReflectliteType.relation "AssignableTo" ReflectliteType.assignableTo #[.agg #[.pointer (some ⟨13,358,none⟩)], .iface 261 (.agg #[.pointer (some ⟨13,141,none⟩)])]).run Tryz.prog w= .ok (.bool false) w:=by kernel_rfl
theorem valueOfP(e:Addr)(w:World):(ReflectliteValue.unpack (.iface 141 (.pointer (some e)))).run Tryz.prog w
  = .ok (.agg #[.pointer (some ⟨13,141,none⟩), .pointer (some ⟨w.heap.size,0,none⟩), .int .u64 150]) (w.alloc (.cells #[.pointer (some e)] 141)):=by kernel_rfl
theorem elemOfPP(w:World):(Rtype.elem? 143).run Tryz.prog w= .ok (some 141) w:=by kernel_rfl
theorem mkP(p:Addr)(w:World):(ReflectliteValue.mk 141 p ReflectliteValue.flagAddr).run Tryz.prog w= .ok (.agg #[.pointer (some ⟨13,141,none⟩), .pointer (some p), .int .u64 406]) w:=by kernel_rfl
theorem elemVPP (a p:Addr) (W:World) (ha:W.cell? a=some (.pointer (some p))):
  (ReflectliteValue.method (ReflectliteValue.valueError "reflectlite.Value.Elem" 0) ReflectliteValue.elem #[.agg #[.pointer (some ⟨13,143,none⟩), .pointer (some a), .int .u64 150]]).run Tryz.prog W
    = .ok (.agg #[.pointer (some ⟨13,141,none⟩), .pointer (some p), .int .u64 406]) W:=by
 rw[rlm]
 simp only[Sem.run_bind,partsPP,Result.andThen]
 simp[ReflectliteValue.elem,loadVar,isAgg,underlying,Tryz.underlying143,ha,Result.andThen,elemOfPP,mkP]
theorem rls (v x:Value):ReflectliteValue.set #[v,x]=(do
  let (some (dst,a,fl),some (src,b,_)):=(<-ReflectliteValue.parts v, <-ReflectliteValue.parts x)
   |unsupported (.noEntry "extern/(internal/reflectlite.Value).Set.zeroValue")
  if fl / ReflectliteValue.flagAddr % 2==0 then unsupported (.noEntry "extern/(internal/reflectlite.Value).Set.unaddressable")
  let val <-loadVar src b
  if <-Rtype.directlyAssignable dst src then storeVar dst a val
  else if <-Rtype.implements dst src then
   if (<-Rtype.kind src)==20 then
    match val with
    | .nilIface=>unsupported (.noEntry "extern/reflectlite: a nil value of one interface type handed on as a value of another")
    |_=>storeVar dst a val
   else storeVar dst a (.iface src val)
  else panicString ("reflectlite.Set: value of type " ++(<-Rtype.spelt src)++ " is not assignable to type " ++(<-Rtype.spelt dst))
  pure (.tuple #[])):=rfl
theorem partsPa(a:Addr)(w:World):(ReflectliteValue.parts (.agg #[.pointer (some ⟨13,141,none⟩), .pointer (some a), .int .u64 406])).run Tryz.prog w= .ok (some (141,a,406)) w:=by kernel_rfl
theorem partsP(a:Addr)(w:World):(ReflectliteValue.parts (.agg #[.pointer (some ⟨13,141,none⟩), .pointer (some a), .int .u64 150])).run Tryz.prog w= .ok (some (141,a,150)) w:=by kernel_rfl
theorem directP(w:World):(Rtype.directlyAssignable 141 141).run Tryz.prog w= .ok true w:=by kernel_rfl
theorem setP (ta b e:Addr) (old:Value) (W:World) (hb:W.cell? b=some (.pointer (some e))) (ht:W.cell? ta=some old) (hf:W.frozen? ta=false):
  (ReflectliteValue.set #[.agg #[.pointer (some ⟨13,141,none⟩), .pointer (some ta), .int .u64 406], .agg #[.pointer (some ⟨13,141,none⟩), .pointer (some b), .int .u64 150]]).run Tryz.prog W
    = .ok (.tuple #[]) (W.setCell ta (.pointer (some e))):=by
 rw[rls]
 simp only[Sem.run_bind,partsPa,partsP,Result.andThen]
 simp[ReflectliteValue.flagAddr,loadVar,isAgg,underlying,Tryz.underlying141,hb,Result.andThen,directP,storeVar,Value.cells,storeCells,Addr.add]
 rw[run_store Tryz.prog W ta _ _ (by rfl)]
 simp[ht,hf]
theorem as_hit(e t:Addr)(old:Value)(w:World)(hg:w.cell? ⟨9,0,none⟩=some (.iface 261 (.agg #[.pointer (some ⟨13,27,none⟩)])))(ht0:w.cell? t=some old)(hf0:w.frozen? t=false):
  Calls Tryz.prog 52 #[.iface 141 (.pointer (some e)), .iface 143 (.pointer (some t))] w fun ev w'=>ev= .returned (.bool true)/\w'=((((w.alloc (.cells #[.pointer (some t)] 143)).alloc (.cells #[.pointer (some ⟨13,143,none⟩), .pointer (some ⟨w.heap.size,0,none⟩), .int .u64 150] 196)).alloc (.cells #[.pointer (some ⟨13,143,none⟩), .pointer (some ⟨w.heap.size,0,none⟩), .int .u64 150] 196)).alloc (.cells #[.pointer (some e)] 141)).setCell t (.pointer (some e)):=by
 have h6:= @run_callFunc_extern Tryz.prog 95 _ (fun args=>ReflectliteValue.unpack (args.getD 0 (.tuple #[]))) Tryz.func95 (by kernel_rfl) (by kernel_rfl) (by kernel_rfl) (by kernel_rfl)
 have h7:= @run_callFunc_extern Tryz.prog 96 _ (ReflectliteValue.methodAny (ReflectliteValue.valueError "reflectlite.Value.Type" 0) (fun t _ _ _=>ReflectliteType.toType t)) Tryz.func96 (by kernel_rfl) (by kernel_rfl) (by kernel_rfl) (by kernel_rfl)
 have h8:= @run_callFunc_extern Tryz.prog 97 _ (ReflectliteValue.method (ReflectliteValue.valueError "reflectlite.Value.IsNil" 0) ReflectliteValue.isNil) Tryz.func97 (by kernel_rfl) (by kernel_rfl) (by kernel_rfl) (by kernel_rfl)
 have h27:= @run_callFunc_extern Tryz.prog 287 _ (ReflectliteType.abiMethod fun t=>do pure (.int .u8 (<-Rtype.kind t))) Tryz.func287 (by kernel_rfl) (by kernel_rfl) (by kernel_rfl) (by kernel_rfl)
 have h37:= @run_callFunc_extern Tryz.prog 302 _ (ReflectliteType.method ReflectliteType.elem) Tryz.func302 (by kernel_rfl) (by kernel_rfl) (by kernel_rfl) (by kernel_rfl)
 have h38:= @run_callFunc_extern Tryz.prog 303 _ (ReflectliteType.relation "Implements" ReflectliteType.implements_) Tryz.func303 (by kernel_rfl) (by kernel_rfl) (by kernel_rfl) (by kernel_rfl)
 have h10:= @run_callFunc_extern Tryz.prog 83 _ ReflectliteType.typeOf Tryz.func83 (by kernel_rfl) (by kernel_rfl) (by kernel_rfl) (by kernel_rfl)
 have h35:= @run_callFunc_extern Tryz.prog 300 _ (ReflectliteType.relation "AssignableTo" ReflectliteType.assignableTo) Tryz.func300 (by kernel_rfl) (by kernel_rfl) (by kernel_rfl) (by kernel_rfl)
 have h11:= @run_callFunc_extern Tryz.prog 170 _ (ReflectliteValue.method (ReflectliteValue.valueError "reflectlite.Value.Elem" 0) ReflectliteValue.elem) Tryz.func170 (by kernel_rfl) (by kernel_rfl) (by kernel_rfl) (by kernel_rfl)
 have h12:= @run_callFunc_extern Tryz.prog 171 _ ReflectliteValue.set Tryz.func171 (by kernel_rfl) (by kernel_rfl) (by kernel_rfl) (by kernel_rfl)
 have tO:=typeOfP
 have mA:=methodAssignableTo
 have a25:=assignableP
 have v25:=valueOfP
 have f6:=valueOfPP
 have f7:=typePP
 have mK:=methodKind
 have mE:=methodElem
 have mI:=methodImplements
 have k27:=kindPP
 have k25:=kindP
 have e27:=elemPP
 have i25:=implementsP
 have n8:=isNilPP ⟨w.heap.size,0,none⟩ t ((w.alloc (.cells #[.pointer (some t)] 143)).alloc (.cells #[.pointer (some ⟨13,143,none⟩), .pointer (some ⟨w.heap.size,0,none⟩), .int .u64 150] 196)) (by simp)
 have hlt:9<w.heap.size:=World.block_lt_of_cell? w _ hg
 have hg2:((w.alloc (.cells #[.pointer (some t)] 143)).alloc (.cells #[.pointer (some ⟨13,143,none⟩), .pointer (some ⟨w.heap.size,0,none⟩), .int .u64 150] 196)).cell? ⟨9,0,none⟩=some (.iface 261 (.agg #[.pointer (some ⟨13,27,none⟩)])):=by
  rw[World.cell?_alloc_lt _ _ ⟨9,0,none⟩ (by simp;omega),World.cell?_alloc_lt _ _ ⟨9,0,none⟩ hlt];exact hg
 have htl:t.block<w.heap.size:=World.block_lt_of_cell? w _ ht0
 have el:=elemVPP ⟨w.heap.size,0,none⟩ t (((w.alloc (.cells #[.pointer (some t)] 143)).alloc (.cells #[.pointer (some ⟨13,143,none⟩), .pointer (some ⟨w.heap.size,0,none⟩), .int .u64 150] 196)).alloc (.cells #[.pointer (some ⟨13,143,none⟩), .pointer (some ⟨w.heap.size,0,none⟩), .int .u64 150] 196)) (by rw[World.cell?_alloc_lt _ _ ⟨w.heap.size,0,none⟩ (by simp;omega)];simp)
 have st:=setP t ⟨w.heap.size+1+1+1,0,none⟩ e old ((((w.alloc (.cells #[.pointer (some t)] 143)).alloc (.cells #[.pointer (some ⟨13,143,none⟩), .pointer (some ⟨w.heap.size,0,none⟩), .int .u64 150] 196)).alloc (.cells #[.pointer (some ⟨13,143,none⟩), .pointer (some ⟨w.heap.size,0,none⟩), .int .u64 150] 196)).alloc (.cells #[.pointer (some e)] 141))
  (by rw[World.cell?_alloc_at _ _ _ _ (by simp)];rfl)
  (by rw[World.cell?_alloc_lt _ _ t (by simp;omega),World.cell?_alloc_lt _ _ t (by simp;omega),World.cell?_alloc_lt _ _ t (by simp;omega),World.cell?_alloc_lt _ _ t htl];exact ht0)
  (by rw[World.frozen?_alloc_old _ _ t (by simp;omega),World.frozen?_alloc_old _ _ t (by simp;omega),World.frozen?_alloc_old _ _ t (by simp;omega),World.frozen?_alloc_old _ _ t (Nat.ne_of_lt htl)];exact hf0)
 go_enter Tryz.func52,Tryz.ntmps52
 go_wp2
 refine wp_loop_rounds 1 ?_
 rw[rounds_succ]
 go_wp2
 go_ret
 exact⟨rfl,rfl⟩
theorem as_miss(e t:Addr)(w:World)(hg:w.cell? ⟨9,0,none⟩=some (.iface 261 (.agg #[.pointer (some ⟨13,27,none⟩)]))):
  Calls Tryz.prog 52 #[.iface 358 (.pointer (some e)), .iface 143 (.pointer (some t))] w fun ev w'=>ev= .returned (.bool false)/\w'=((w.alloc (.cells #[.pointer (some t)] 143)).alloc (.cells #[.pointer (some ⟨13,143,none⟩), .pointer (some ⟨w.heap.size,0,none⟩), .int .u64 150] 196)).alloc (.cells #[.pointer (some ⟨13,143,none⟩), .pointer (some ⟨w.heap.size,0,none⟩), .int .u64 150] 196):=by
 have h6:= @run_callFunc_extern Tryz.prog 95 _ (fun args=>ReflectliteValue.unpack (args.getD 0 (.tuple #[]))) Tryz.func95 (by kernel_rfl) (by kernel_rfl) (by kernel_rfl) (by kernel_rfl)
 have h7:= @run_callFunc_extern Tryz.prog 96 _ (ReflectliteValue.methodAny (ReflectliteValue.valueError "reflectlite.Value.Type" 0) (fun t _ _ _=>ReflectliteType.toType t)) Tryz.func96 (by kernel_rfl) (by kernel_rfl) (by kernel_rfl) (by kernel_rfl)
 have h8:= @run_callFunc_extern Tryz.prog 97 _ (ReflectliteValue.method (ReflectliteValue.valueError "reflectlite.Value.IsNil" 0) ReflectliteValue.isNil) Tryz.func97 (by kernel_rfl) (by kernel_rfl) (by kernel_rfl) (by kernel_rfl)
 have h27:= @run_callFunc_extern Tryz.prog 287 _ (ReflectliteType.abiMethod fun t=>do pure (.int .u8 (<-Rtype.kind t))) Tryz.func287 (by kernel_rfl) (by kernel_rfl) (by kernel_rfl) (by kernel_rfl)
 have h37:= @run_callFunc_extern Tryz.prog 302 _ (ReflectliteType.method ReflectliteType.elem) Tryz.func302 (by kernel_rfl) (by kernel_rfl) (by kernel_rfl) (by kernel_rfl)
 have h38:= @run_callFunc_extern Tryz.prog 303 _ (ReflectliteType.relation "Implements" ReflectliteType.implements_) Tryz.func303 (by kernel_rfl) (by kernel_rfl) (by kernel_rfl) (by kernel_rfl)
 have h10:= @run_callFunc_extern Tryz.prog 83 _ ReflectliteType.typeOf Tryz.func83 (by kernel_rfl) (by kernel_rfl) (by kernel_rfl) (by kernel_rfl)
 have h35:= @run_callFunc_extern Tryz.prog 300 _ (ReflectliteType.relation "AssignableTo" ReflectliteType.assignableTo) Tryz.func300 (by kernel_rfl) (by kernel_rfl) (by kernel_rfl) (by kernel_rfl)
 have tO:=isTypeOf
 have mA:=methodAssignableTo
 have a25:=assignableE
 have f6:=valueOfPP
 have f7:=typePP
 have mK:=methodKind
 have mE:=methodElem
 have mI:=methodImplements
 have k27:=kindPP
 have k25:=kindP
 have e27:=elemPP
 have i25:=implementsP
 have nA:=noAsE
 have uE:=noUnwrapE
 have vE:=noUnwrapsE
 have n8:=isNilPP ⟨w.heap.size,0,none⟩ t ((w.alloc (.cells #[.pointer (some t)] 143)).alloc (.cells #[.pointer (some ⟨13,143,none⟩), .pointer (some ⟨w.heap.size,0,none⟩), .int .u64 150] 196)) (by simp)
 have hlt:9<w.heap.size:=World.block_lt_of_cell? w _ hg
 have hg2:((w.alloc (.cells #[.pointer (some t)] 143)).alloc (.cells #[.pointer (some ⟨13,143,none⟩), .pointer (some ⟨w.heap.size,0,none⟩), .int .u64 150] 196)).cell? ⟨9,0,none⟩=some (.iface 261 (.agg #[.pointer (some ⟨13,27,none⟩)])):=by
  rw[World.cell?_alloc_lt _ _ ⟨9,0,none⟩ (by simp;omega),World.cell?_alloc_lt _ _ ⟨9,0,none⟩ hlt];exact hg
 go_enter Tryz.func52,Tryz.ntmps52
 go_wp2
 refine wp_loop_rounds 1 ?_
 rw[rounds_succ]
 go_wp2
 go_ret
 exact⟨rfl,rfl⟩
end
section
open Go.RowKit
variable {S:Nat->Nat->Prop} {w w':World} {v:Value}
theorem lt_of_block{w:World}{b:Nat}{o:Obj}(h:w.heap[b]? =some o):b<w.heap.size:=by
 rcases Nat.lt_or_ge b w.heap.size with h' |h'
 ·exact h'
 ·rw[Array.getElem?_eq_none h'] at h;cases h
theorem below_dN{B:Nat}{a w:World}(h:Below B a w)(n:Nat):Below B a (w.drewN n):=⟨h.os,h.tape,h.output,h.size,h.block⟩
structure Turns(S:Nat->Nat->Prop)(w w':World):Prop where
 os:w'.os=w.os
 tape:w'.tape=w.tape
 output:w'.output=w.output
 size:w.heap.size<=w'.heap.size
 block: ∀k,k<w.heap.size->(∀o, ¬S k o)->w'.heap[k]? =w.heap[k]?
 cell: ∀k o,k<w.heap.size-> ¬S k o->w'.cell? ⟨k,o,none⟩=w.cell? ⟨k,o,none⟩
 frozen: ∀k o,k<w.heap.size-> ¬S k o->w'.frozen? ⟨k,o,none⟩=w.frozen? ⟨k,o,none⟩
theorem Turns.refl(S:Nat->Nat->Prop)(w:World):Turns S w w:=⟨rfl,rfl,rfl,Nat.le_refl _,fun _ _ _=>rfl,fun _ _ _ _=>rfl,fun _ _ _ _=>rfl⟩
theorem Turns.trans{a b c:World}(h:Turns S a b)(k:Turns S b c):Turns S a c:=
 ⟨k.os.trans h.os,k.tape.trans h.tape,k.output.trans h.output,Nat.le_trans h.size k.size,
  fun i hi ho=>(k.block i (Nat.lt_of_lt_of_le hi h.size) ho).trans (h.block i hi ho),
  fun i o hi ho=>(k.cell i o (Nat.lt_of_lt_of_le hi h.size) ho).trans (h.cell i o hi ho),
  fun i o hi ho=>(k.frozen i o (Nat.lt_of_lt_of_le hi h.size) ho).trans (h.frozen i o hi ho)⟩
theorem Turns.mono{S S':Nat->Nat->Prop}(h:Turns S w w')(hs: ∀k o,k<w.heap.size->S k o->S' k o):Turns S' w w':=
 ⟨h.os,h.tape,h.output,h.size,fun k hk ho=>h.block k hk fun o hS=>ho o (hs k o hk hS),fun k o hk ho=>h.cell k o hk fun hS=>ho (hs k o hk hS),fun k o hk ho=>h.frozen k o hk fun hS=>ho (hs k o hk hS)⟩
theorem Turns.of_below(h:Below w.heap.size w w'):Turns S w w':=
 ⟨h.os,h.tape,h.output,h.size,fun k hk _=>h.block k hk,fun _ _ hk _=>h.cell hk,fun _ _ hk _=>h.frozen hk⟩
theorem Turns.below{B:Nat}(h:Turns S w w')(hB:B<=w.heap.size)(hS: ∀k o,k<B-> ¬S k o):Below B w w':=
 ⟨h.os,h.tape,h.output,h.size,fun k hk=>h.block k (Nat.lt_of_lt_of_le hk hB) fun o=>hS k o hk⟩
theorem Turns.drew{a w:World}(h:Turns S a w):Turns S a w.drew:=h.trans ⟨rfl,rfl,rfl,Nat.le_refl _,fun _ _ _=>rfl,fun _ _ _ _=>rfl,fun _ _ _ _=>rfl⟩
theorem Turns.alloc{a w:World}(h:Turns S a w)(o:Obj):Turns S a (w.alloc o):=
 h.trans (Turns.of_below ((Below.refl _ _).alloc (Nat.le_refl _) _))
theorem Turns.setCell{a w:World}(h:Turns S a w){b o:Nat}(v:Value)(hS:S b o):Turns S a (w.setCell ⟨b,o,none⟩ v):=
 h.trans ⟨rfl,rfl,rfl,by simp[World.setCell],fun k _ ho=>Below.heap_setCell _ _ _ _ fun e=>by subst e;exact ho o hS,
  fun k p _ ho=>World.cell?_setCell_other _ _ _ _ (fun e=>ho (by cases e;exact hS)),fun _ _ _ _=>World.frozen?_setCell _ _ _ _⟩
theorem Turns.setNew{a w:World}(h:Turns S a w){p:Addr}(v:Value)(hp:a.heap.size<=p.block):Turns S a (w.setCell p v):=
 ⟨h.os,h.tape,h.output,Nat.le_trans h.size (by simp[World.setCell]),fun k hk ho=>(Below.heap_setCell _ _ _ _ (by omega)).trans (h.block k hk ho),
  fun k o hk ho=>(World.cell?_setCell_other _ _ _ _ (fun e=>by rw[e] at hp;exact absurd hp (by simp;omega))).trans (h.cell k o hk ho),fun k o hk ho=>(World.frozen?_setCell _ _ _ _).trans (h.frozen k o hk ho)⟩
theorem Turns.keep(h:Turns S w w'){k o:Nat}(hc:w.cell? ⟨k,o,none⟩=some v)(hS: ¬S k o):w'.cell? ⟨k,o,none⟩=some v:=by
 rw[h.cell k o (World.block_lt_of_cell? w _ hc) hS];exact hc
theorem Below.drewN'{w:World}(n:Nat):Below w.heap.size w (w.drewN n):=⟨rfl,rfl,rfl,Nat.le_refl _,fun _ _=>rfl⟩
theorem below_step{w b c:World}(h:Below w.heap.size w b)(k:Below b.heap.size b c):Below w.heap.size w c:=h.trans (k.mono h.size)
theorem keep_cell{b c:World}(k:Below b.heap.size b c){p:Addr}(h:b.cell? p=some v):c.cell? p=some v:=by
 rw[k.cell (World.block_lt_of_cell? _ _ h)];exact h
theorem hide{p:Prop}(h:p):Hid p:=h
theorem ownsRow_block{base:Nat}{e:TypeId}{size:Nat}{n:Nat}{xs:List Value}(h:w.ownsRow base e size v n xs)(hb: ∀k,v.ownBlock=some k->w'.heap[k]? =w.heap[k]?):w'.ownsRow base e size v n xs:=by
 obtain⟨h1,h2⟩:=h
 refine⟨h1,?_⟩
 rcases h2 with h2 |⟨g,cap,cur,hv,hg,hh,r⟩
 ·exact Or.inl h2
 ·exact Or.inr ⟨g,cap,cur,hv,hg,by rw[hb g (by rw[hv];rfl)];exact hh,r⟩
theorem cell_ne{w:World}{b o b' o':Nat}{v u:Value}(h:w.cell? ⟨b',o',none⟩=some u)(hne:b'≠b∨o'≠o):(w.setCell ⟨b,o,none⟩ v).cell? ⟨b',o',none⟩=some u:=by
 rw[World.cell?_setCell_other _ _ _ _ (fun e=>by cases e;rcases hne with h |h <;> exact h rfl)];exact h
theorem box2f(w:World)(T:TypeId)(a b:Value):(w.alloc (.cells #[a,b] T)).cell? ⟨w.heap.size,0,none⟩=some a/\(w.alloc (.cells #[a,b] T)).cell? ⟨w.heap.size,1,none⟩=some b/\(w.alloc (.cells #[a,b] T)).frozen? ⟨w.heap.size,0,none⟩=false/\(w.alloc (.cells #[a,b] T)).frozen? ⟨w.heap.size,1,none⟩=false:=by simp
theorem box5(w:World)(T:TypeId)(a b c d e:Value):(w.alloc (.cells #[a,b,c,d,e] T)).cell? ⟨w.heap.size,0,none⟩=some a/\(w.alloc (.cells #[a,b,c,d,e] T)).cell? ⟨w.heap.size,1,none⟩=some b/\(w.alloc (.cells #[a,b,c,d,e] T)).cell? ⟨w.heap.size,2,none⟩=some c/\(w.alloc (.cells #[a,b,c,d,e] T)).cell? ⟨w.heap.size,3,none⟩=some d/\(w.alloc (.cells #[a,b,c,d,e] T)).cell? ⟨w.heap.size,4,none⟩=some e:=by simp
theorem box2c(w:World)(T:TypeId)(a b:Value):(w.alloc (.cells #[a,b] T)).cell? ⟨w.heap.size,0,none⟩=some a/\(w.alloc (.cells #[a,b] T)).cell? ⟨w.heap.size,1,none⟩=some b:=by simp
theorem nL{a:Nat}:a<=a:=Nat.le_refl a
theorem bLt{w:World}{p:Addr}{v:Value}(h:w.cell? p=some v):p.block<w.heap.size:=World.block_lt_of_cell? _ _ h
theorem bRf{n:Nat}{w:World}:Below n w w:=Below.refl n w
end
section
open Go.RowKit Go.Extern.Stop Go.Stop Go.Extern
variable {a:Nat->Addr} {w:World}
def gid:Nat->Nat
 |0=>0 |1=>0 |2=>3 |3=>4 |4=>5
 |5=>6 |6=>7 |7=>1 |_=>8
abbrev errAt(a:Addr):Value:= .iface 358 (.pointer (some a))
abbrev okI(i:Nat):Prop:=i<9/\i≠0
structure Env(a:Nat->Addr)(w:World):Prop where
 cell: ∀i,okI i->w.cell? ⟨gid i,0,none⟩=some (errAt (a i))
 row: ∀i,okI i-> ∃c t,w.heap[(a i).block]? =some (.cells c t (0,0))
 ne: ∀i j,okI i->okI j->i≠j->a i≠a j
 handle:w.cell? ⟨9,0,none⟩=some (.iface 261 (.agg #[.pointer (some ⟨13,27,none⟩)]))
theorem Env.glt(h:Env a w){i:Nat}(hi:okI i):gid i<w.heap.size:=World.block_lt_of_cell? w _ (h.cell i hi)
theorem Env.alt(h:Env a w){i:Nat}(hi:okI i):(a i).block<w.heap.size:=by
 obtain⟨c,t,e⟩:=h.row i hi
 exact lt_of_block e
theorem Env.hlt(h:Env a w):9<w.heap.size:=World.block_lt_of_cell? w _ h.handle
theorem Env.below{w w':World}(h:Env a w)(hb: ∀k,k<w.heap.size->w'.heap[k]? =w.heap[k]?):Env a w' where
 cell i hi:=by rw[World.cell?_of_block (w:=w) (hb _ (h.glt hi))];exact h.cell i hi
 row i hi:=by rw[hb _ (h.alt hi)];exact h.row i hi
 ne:=h.ne
 handle:=by rw[World.cell?_of_block (w:=w) (hb _ h.hlt)];exact h.handle
theorem as_miss'(e t:Addr)(w:World)(hg:w.cell? ⟨9,0,none⟩=some (.iface 261 (.agg #[.pointer (some ⟨13,27,none⟩)]))):
  Calls Tryz.prog 52 #[errAt e, .iface 143 (.pointer (some t))] w fun ev w'=>ev= .returned (.bool false)/\Below w.heap.size w w':=
 (as_miss e t w hg).mono fun _ _ ⟨h,h'⟩=>⟨h,by rw[h'];exact((bRf.alloc nL _).alloc (by simp) _).alloc (by simp;omega) _⟩
theorem as_hit'(e t:Addr)(old:Value)(w:World)(hg:w.cell? ⟨9,0,none⟩=some (.iface 261 (.agg #[.pointer (some ⟨13,27,none⟩)])))(ht0:w.cell? t=some old)(hf0:w.frozen? t=false):
  Calls Tryz.prog 52 #[.iface 141 (.pointer (some e)), .iface 143 (.pointer (some t))] w fun ev w'=>ev= .returned (.bool true)/\w'.cell? t=some (.pointer (some e))/\Below t.block w w':=by
 have htl:t.block<w.heap.size:=World.block_lt_of_cell? w _ ht0
 refine(as_hit e t old w hg ht0 hf0).mono fun _ _ ⟨h,h'⟩=>⟨h,?_,?_⟩
 ·rw[h']
  refine World.cell?_setCell_same _ _ _ (u:=old) ?_
  rw[World.cell?_alloc_lt _ _ t (by simp;omega),World.cell?_alloc_lt _ _ t (by simp;omega),World.cell?_alloc_lt _ _ t (by simp;omega),World.cell?_alloc_lt _ _ t htl]
  exact ht0
 ·rw[h']
  exact((((bRf.alloc (by omega) _).alloc (by simp;omega) _).alloc (by simp;omega) _).alloc (by simp;omega) _).setCell nL _
theorem below_drop{w w2:World}{o:Obj}(h:Below (w.alloc o).heap.size (w.alloc o) w2):Below w.heap.size w w2:=
 (bRf.alloc nL o).trans (h.mono (by simp))
end
end Go.Proofs.YtnoigmdmgdcliaaGreatDoor
