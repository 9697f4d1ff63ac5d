import Derived.Test.YtnoigmdmgdcliaaGreatDoorA37
import Derived.Test.YtnoigmdmgdcliaaGreatDoorShelf
import Derived.Test.YtnoigmdmgdcliaaGreatDoorA36
import Derived.Test.YtnoigmdmgdcliaaGreatDoorA20
import Derived.Test.YtnoigmdmgdcliaaGreatDoorA22
import Derived.Test.YtnoigmdmgdcliaaGreatDoorProg
import Derived.Test.YtnoigmdmgdcliaaGreatDoorA08
import Derived.WalkKit
import Derived.Test.YtnoigmdmgdcliaaGreatDoorA01
import Derived.Deep.QuietTactic
import Derived.Test.YtnoigmdmgdcliaaGreatDoorA12
import Derived.Test.YtnoigmdmgdcliaaGreatDoorA14
namespace Go.Proofs.YtnoigmdmgdcliaaGreatDoor
set_option maxRecDepth 100000
set_option maxHeartbeats 8000000
section
open Go.RowKit Go.Extern.Stop Go.Stop Go.Extern Go.Maps Go.WideMaps Go.Sort
def clG:ByteArray:=⟨#[103]⟩
theorem clG_name:isName clG:=nameB_is (by decide+kernel)
def clP(f i:Nat)(n:Int):List Ins:=
 if i=1 then putC n else if i=2 then gCode clG (gEnter f) else if i=3 then gCode clG (gLeave f) else if i=4 then gCode clG (gRest f) else if i=5 then gCode clG (gWait f) else if i=6 then readC else if i=7 then uls 3 [⟨oFree,3,0,0,thNo⟩] else if i=8 then uls 3 keepC else gCode clG (gWait f)++emptyC
theorem gwait_len(f:Nat)(hf:1<=f/\f<=4):(gCode clG (gWait f)).length<=60:=by
 unfold gCode
 rw[List.length_map]
 have:f=1∨f=2∨f=3∨f=4:=by omega
 rcases this with rfl |rfl |rfl |rfl <;> decide
theorem cop_ok{f:Nat}(hf:1<=f/\f<=4)(k:ByteArray)(n:Int)(hk0:kn k.toList≠0)(w:World):
  Calls Tryz.prog 31 #[.int .i64 f, .agg #[.string k, .int .i64 n]] w fun e w'=> ∃v,e= .returned (.tuple #[v, .nilIface])/\insOwn w' w.heap.size v (clP f (kn k.toList) n)/\Below w.heap.size w w':=by
 have hB:Below w.heap.size w (w.alloc (.cells #[.string k, .int .i64 n] 69)):=bRf.alloc nL _
 have HB:=hide hB
 have HE:=hide (fun w=>enter_ok hf clG_name (by decide) w)
 have HL:=hide (fun w=>leave_ok hf clG_name (by decide) w)
 have HR:=hide (fun w=>rest_ok hf clG_name (by decide) w)
 have HW:=hide (fun w=>wait_ok hf clG_name (by decide) w)
 have HWL:=hide (gwait_len f hf)
 have HC:Hid (∀i,i≠0->clP f i n=clP f i n):=hide fun _ _=>rfl
 have HPU:=hide (fun w=>cput_ok n w)
 have HRD:=hide cread_ok
 have HEM:=hide tempty_ok
 have HKE:=hide tkeep_ok
 have hcn: ∀o,(w.alloc (.cells #[.string k, .int .i64 n] 69)).cell? ⟨w.heap.size,o,none⟩=(#[.string k, .int .i64 n]:Array Value)[o]? :=fun o=>World.cell?_alloc_new _ _ _ _
 clear hB
 rcases kcases k.toList with⟨h,hk⟩ |⟨h,hk⟩ |⟨h,hk⟩ |⟨h,hk⟩ |⟨h,hk⟩ |⟨h,hk⟩ |⟨h,hk⟩ |⟨h,hk⟩ |⟨h,hk⟩ |⟨h,hk⟩
 ·rw[hk]
  clear hk hk0
  obtain⟨e1,e2,e3,e4,e5,e6,e7,e8,e9⟩:=h
  show Calls _ _ _ _ (fun e w'=> ∃v,e= .returned (.tuple #[v, .nilIface])/\insOwn w' w.heap.size v (putC n)/\Below w.heap.size w w')
  clear hcn
  generalize (f:Int)=fi at*
  go_enter Tryz.func31,Tryz.ntmps31
  go_wp2_with fail
  refine(HPU.out _).mono ?_
  rintro e w2 ⟨v,rfl,hv,hb⟩
  have HO:=hide (insOwn_mono hv HB.out.size)
  have HB2:=hide (below_step HB.out hb)
  clear hv hb
  go_wp2_with fail
  go_ret2
  exact⟨_,rfl,HO.out,HB2.out⟩
 ·rw[hk]
  clear hk hk0
  obtain⟨e1,e2,e3,e4,e5,e6,e7,e8,e9⟩:=h
  show Calls _ _ _ _ (fun e w'=> ∃v,e= .returned (.tuple #[v, .nilIface])/\insOwn w' w.heap.size v (gCode clG (gEnter f))/\Below w.heap.size w w')
  clear hcn
  generalize (f:Int)=fi at*
  go_enter Tryz.func31,Tryz.ntmps31
  go_wp2_with fail
  refine(HE.out _).mono ?_
  rintro e w2 ⟨v,rfl,hv,hb⟩
  have HO:=hide (insOwn_mono hv HB.out.size)
  have HB2:=hide (below_step HB.out hb)
  clear hv hb
  go_wp2_with fail
  go_ret2
  exact⟨_,rfl,HO.out,HB2.out⟩
 ·rw[hk]
  clear hk hk0
  obtain⟨e1,e2,e3,e4,e5,e6,e7,e8,e9⟩:=h
  show Calls _ _ _ _ (fun e w'=> ∃v,e= .returned (.tuple #[v, .nilIface])/\insOwn w' w.heap.size v (gCode clG (gLeave f))/\Below w.heap.size w w')
  clear hcn
  generalize (f:Int)=fi at*
  go_enter Tryz.func31,Tryz.ntmps31
  go_wp2_with fail
  refine(HL.out _).mono ?_
  rintro e w2 ⟨v,rfl,hv,hb⟩
  have HO:=hide (insOwn_mono hv HB.out.size)
  have HB2:=hide (below_step HB.out hb)
  clear hv hb
  go_wp2_with fail
  go_ret2
  exact⟨_,rfl,HO.out,HB2.out⟩
 ·rw[hk]
  clear hk hk0
  obtain⟨e1,e2,e3,e4,e5,e6,e7,e8,e9⟩:=h
  show Calls _ _ _ _ (fun e w'=> ∃v,e= .returned (.tuple #[v, .nilIface])/\insOwn w' w.heap.size v (gCode clG (gRest f))/\Below w.heap.size w w')
  clear hcn
  generalize (f:Int)=fi at*
  go_enter Tryz.func31,Tryz.ntmps31
  go_wp2_with fail
  refine(HR.out _).mono ?_
  rintro e w2 ⟨v,rfl,hv,hb⟩
  have HO:=hide (insOwn_mono hv HB.out.size)
  have HB2:=hide (below_step HB.out hb)
  clear hv hb
  go_wp2_with fail
  go_ret2
  exact⟨_,rfl,HO.out,HB2.out⟩
 ·rw[hk]
  clear hk hk0
  obtain⟨e1,e2,e3,e4,e5,e6,e7,e8,e9⟩:=h
  show Calls _ _ _ _ (fun e w'=> ∃v,e= .returned (.tuple #[v, .nilIface])/\insOwn w' w.heap.size v (gCode clG (gWait f))/\Below w.heap.size w w')
  clear hcn
  generalize (f:Int)=fi at*
  go_enter Tryz.func31,Tryz.ntmps31
  go_wp2_with fail
  refine(HW.out _).mono ?_
  rintro e w2 ⟨v,rfl,hv,hb⟩
  have HO:=hide (insOwn_mono hv HB.out.size)
  have HB2:=hide (below_step HB.out hb)
  clear hv hb
  go_wp2_with fail
  go_ret2
  exact⟨_,rfl,HO.out,HB2.out⟩
 ·rw[hk]
  clear hk hk0
  obtain⟨e1,e2,e3,e4,e5,e6,e7,e8,e9⟩:=h
  show Calls _ _ _ _ (fun e w'=> ∃v,e= .returned (.tuple #[v, .nilIface])/\insOwn w' w.heap.size v readC/\Below w.heap.size w w')
  clear hcn
  generalize (f:Int)=fi at*
  go_enter Tryz.func31,Tryz.ntmps31
  go_wp2_with fail
  refine(HRD.out _).mono ?_
  rintro e w2 ⟨v,rfl,hv,hb⟩
  have HO:=hide (insOwn_mono hv HB.out.size)
  have HB2:=hide (below_step HB.out hb)
  clear hv hb
  go_wp2_with fail
  go_ret2
  exact⟨_,rfl,HO.out,HB2.out⟩
 ·rw[hk]
  clear hk hk0
  obtain⟨e1,e2,e3,e4,e5,e6,e7,e8,e9⟩:=h
  have hfr:=insOwn_new (w:=w.alloc (.cells #[.string k, .int .i64 n] 69)) (l:=[⟨oFree,3,0,0,thNo⟩]) (cs:=#[.string oFree, .int .i64 3, .int .i64 0, .int .i64 0, .string thNo]) (base:=w.heap.size) rfl HB.out.size (show 1<=1000 by decide)
  rw[World.size_alloc] at hfr
  have HU:=hide (tunless_ok 3 hfr (show 1<=1000 by decide))
  have HBX:=hide (HB.out.alloc HB.out.size (.cells #[.string oFree, .int .i64 3, .int .i64 0, .int .i64 0, .string thNo] 57))
  clear hfr
  clear hcn
  generalize (f:Int)=fi at*
  go_enter Tryz.func31,Tryz.ntmps31
  go_wp2_with fail
  refine HU.out.mono ?_
  rintro e w2 ⟨v,rfl,hv,hb⟩
  have HO:=hide (insOwn_mono hv HBX.out.size)
  have HB2:=hide (below_step HBX.out hb)
  clear hv hb
  go_wp2_with fail
  go_ret2
  exact⟨_,rfl,HO.out,HB2.out⟩
 ·rw[hk]
  clear hk hk0
  obtain⟨e1,e2,e3,e4,e5,e6,e7,e8,e9⟩:=h
  clear hcn
  generalize (f:Int)=fi at*
  go_enter Tryz.func31,Tryz.ntmps31
  go_wp2_with fail
  refine(HKE.out _).mono ?_
  rintro e w1 ⟨v1,rfl,hv1,hb1⟩
  have HU:=hide (tunless_ok 3 hv1 (show 2<=1000 by decide))
  have HBX:=hide (below_step HB.out hb1)
  obtain⟨x1,c1,rfl, -⟩:=ownsRow_shape hv1
  clear hv1 hb1
  go_wp2_with fail
  refine HU.out.mono ?_
  rintro e w2 ⟨v,rfl,hv,hb⟩
  have HO:=hide (insOwn_mono hv HBX.out.size)
  have HB2:=hide (below_step HBX.out hb)
  clear hv hb
  go_wp2_with fail
  go_ret2
  exact⟨_,rfl,HO.out,HB2.out⟩
 ·rw[hk]
  clear hk hk0
  obtain⟨e1,e2,e3,e4,e5,e6,e7,e8,e9⟩:=h
  clear hcn
  generalize (f:Int)=fi at*
  go_enter Tryz.func31,Tryz.ntmps31
  go_wp2_with fail
  refine(HW.out _).mono ?_
  rintro e w1 ⟨v1,rfl,hv1,hb1⟩
  have HV1:=hide (insOwn_mono hv1 HB.out.size)
  have HB1:=hide (below_step HB.out hb1)
  obtain⟨x1,c1,rfl, -⟩:=ownsRow_shape hv1
  clear hv1 hb1
  go_wp2_with fail
  refine(HEM.out _).mono ?_
  rintro e w2 ⟨v2,rfl,hv2,hb2⟩
  have HV2:=hide (insOwn_keep HV1.out hb2)
  have HB2:=hide (below_step HB1.out hb2)
  have HE2:=hide (insOwn_mono hv2 (Nat.zero_le _))
  obtain⟨x2,c2,rfl, -⟩:=ownsRow_shape hv2
  clear hv2 hb2 HV1 HB1
  go_wp2_with (at_builtin;refine wpList_append_insO _ rfl _ _ rfl w.heap.size 0 (gCode clG (gWait f)) emptyC _ _ rfl ?q1 rfl ?q2 ?q3 ?q4 ?_)
  case q1=>exact HV2.out
  case q2=>exact HE2.out
  case q3=>have:=HWL.out;have h7:emptyC.length=7:=rfl;omega
  case q4=>exact HB2.out.size
  intro v3 w3 ho3 hb3
  have HO3:=hide ho3
  have HB3:=hide (HB2.out.trans hb3)
  clear ho3 hb3 HB2 HV2 HE2
  go_wp2_with fail
  go_ret2
  exact⟨_,rfl,HO3.out,HB3.out⟩
 ·exact absurd hk hk0
end
section
open Go.RowKit
variable {f:Nat} {l:List Ins}
def itB(i:Nat):ByteArray:=if i<10 then⟨#[UInt8.ofNat (48+i)]⟩ else⟨#[49,UInt8.ofNat (38+i)]⟩
theorem dec_is{i:Nat}(h:i<20):(⟨(Lib.decDigits i).toArray⟩:ByteArray)=itB i:=by
 have: ∀j:Fin 20,(⟨(Lib.decDigits j.val).toArray⟩:ByteArray)=itB j.val:=by decide+kernel
 exact this ⟨i,h⟩
theorem nameExtT{p:ByteArray}(h:isName p){b:UInt8}(hb:nameOk 1 b.toNat=true)(hz:p.size<=11):isName (p++⟨#[b]⟩):=by
 obtain⟨h1,h2,h3⟩:=h
 have hs:(p++(⟨#[b]⟩:ByteArray)).size=p.size+1:=by rw[ByteArray.size_append];rfl
 refine⟨by omega,by omega,fun j hj=>?_⟩
 by_cases hlt:j<p.size
 ·rw[ByteArray.getElem_append_left hlt]
  exact h3 j hlt
 ·have:j=p.size:=by omega
  subst this
  rw[ByteArray.getElem_append_right nL]
  have hne:p.size≠0:=by omega
  simp only[Nat.sub_self]
  have e:(⟨#[b]⟩:ByteArray)[0]'(by show 0<1;decide)=b:=rfl
  rw[e]
  unfold nameOk at hb ⊢
  rw[decide_eq_true_eq] at hb ⊢
  rcases hb with h |⟨-,h⟩
  ·exact .inl h
  ·exact .inr ⟨hne,h⟩
theorem size_extT(p:ByteArray)(b:UInt8):(p++(⟨#[b]⟩:ByteArray)).size=p.size+1:=by rw[ByteArray.size_append];rfl
theorem dig_ok: ∀j:Fin 10,nameOk 1 (UInt8.ofNat (48+j.val)).toNat=true:=by decide+kernel
theorem name_it{s:ByteArray}(h:isName s)(hs:s.size<=8){i:Nat}(hi:i<20):isName (s++thDot++itB i):=by
 have h1:isName (s++⟨#[46]⟩):=nameExtT h (by decide) (by omega)
 have z1:=size_extT s 46
 show isName (s++⟨#[46]⟩++itB i)
 unfold itB
 split
 ·rename_i h10
  exact nameExtT h1 (dig_ok ⟨i,h10⟩) (by omega)
 ·have e:(⟨#[49,UInt8.ofNat (38+i)]⟩:ByteArray)=⟨#[49]⟩++⟨#[UInt8.ofNat (38+i)]⟩:=rfl
  rw[e, <-ByteArray.append_assoc]
  have h2:isName (s++⟨#[46]⟩++⟨#[49]⟩):=nameExtT h1 (by decide) (by omega)
  have z2:=size_extT (s++⟨#[46]⟩) 49
  have hd:=dig_ok ⟨i - 10,by omega⟩
  rw[show 48+(i - 10)=38+i by omega] at hd
  exact nameExtT h2 hd (by omega)
def LabsOk(l:List Ins):Prop:= ∀x∈l,lbOp x.op=true->isName x.to/\x.to.size<=8
theorem LabsOk.app{a b:List Ins}(h:LabsOk a)(k:LabsOk b):LabsOk (a++b):=fun x hx hl=>by
 rcases List.mem_append.1 hx with h' |h'
 ·exact h x h' hl
 ·exact k x h' hl
def labsB(l:List Ins):Bool:=l.all fun x=> !(hasTo ((shape (bl x.op)).getD [])) ||(nameB (bl x.to)&&decide ((bl x.to).length<=8))
theorem labsB_ok(h:labsB l=true):LabsOk l:=fun x hx hl=>by
 have:=List.all_eq_true.1 h x hx
 unfold lbOp at hl
 rw[toList_bl] at hl
 rw[hl] at this
 simp only[Bool.not_true,Bool.false_or,Bool.and_eq_true,decide_eq_true_eq] at this
 exact⟨nameB_is this.1,by rw[size_bl];exact this.2⟩
theorem LabsOk.uls(h:LabsOk l){r:Int}:LabsOk (uls r l):=by
 refine LabsOk.app (fun x hx _=>?_) (LabsOk.app h (fun x hx _=>?_))
 ·obtain rfl:=List.mem_singleton.1 hx
  exact⟨nameB_is (show nameB (bl thNone)=true by decide+kernel),show 4<=8 by decide⟩
 ·obtain rfl:=List.mem_singleton.1 hx
  exact⟨nameB_is (show nameB (bl thNone)=true by decide+kernel),show 4<=8 by decide⟩
theorem lb_consts:lbOp oConst=false/\lbOp oStore=false/\lbOp oAlloc=false/\lbOp oSwap=false:=by
 unfold lbOp
 simp only[toList_bl]
 exact⟨rfl,rfl,rfl,rfl⟩
theorem putC_labs(n:Int):LabsOk (putC n):=by
 obtain⟨h1,h2,h3,h4⟩:=lb_consts
 refine LabsOk.app (fun x hx hl=>?_) (LabsOk.uls (LabsOk.app (fun x hx hl=>?_) (fun x hx hl=>?_)))
 ·obtain rfl:=List.mem_singleton.1 hx
  rw[h3] at hl;cases hl
 ·simp only[numC,List.mem_cons,List.not_mem_nil,or_false] at hx
  rcases hx with rfl |rfl
  ·rw[h1] at hl;cases hl
  ·rw[h2] at hl;cases hl
 ·obtain rfl:=List.mem_singleton.1 hx
  rw[h4] at hl;cases hl
theorem clP_labs(hf:1<=f/\f<=4)(i:Nat)(n:Int):LabsOk (clP f i n)/\(clP f i n).length<=60:=by
 have key: ∀g:Fin 4,labsB (gCode clG (gEnter (g.val+1)))=true/\labsB (gCode clG (gLeave (g.val+1)))=true/\labsB (gCode clG (gRest (g.val+1)))=true/\labsB (gCode clG (gWait (g.val+1))++emptyC)=true/\labsB (gCode clG (gWait (g.val+1)))=true/\(gCode clG (gEnter (g.val+1))).length<=60/\(gCode clG (gLeave (g.val+1))).length<=60/\(gCode clG (gRest (g.val+1))).length<=60/\(gCode clG (gWait (g.val+1))++emptyC).length<=60/\(gCode clG (gWait (g.val+1))).length<=60:=by decide+kernel
 have:=key ⟨f - 1,by omega⟩
 dsimp only at this
 rw[show f - 1+1=f by omega] at this
 obtain⟨k1,k2,k3,k4,k5,l1,l2,l3,l4,l5⟩:=this
 unfold clP
 split
 ·exact⟨putC_labs n,show 6<=60 by decide⟩
 split
 ·exact⟨labsB_ok k1,l1⟩
 split
 ·exact⟨labsB_ok k2,l2⟩
 split
 ·exact⟨labsB_ok k3,l3⟩
 split
 ·exact⟨labsB_ok k5,l5⟩
 split
 ·exact⟨labsB_ok (by decide+kernel),by decide⟩
 split
 ·exact⟨labsB_ok (by decide+kernel),by decide⟩
 split
 ·exact⟨labsB_ok (by decide+kernel),by decide⟩
 ·exact⟨labsB_ok k4,l4⟩
structure OpI where
 kind:ByteArray
 n:Int
def opC(f:Nat)(i:Nat)(x:OpI):List Ins:=(clP f (kn x.kind.toList) x.n).map (namedI (itB i))
def opsC(f:Nat)(l:List OpI):Nat->List Ins
 |0=>[]
 |k+1=>opsC f l k++(match l[k]? with |some x=>opC f k x |none=>[])
theorem opsC_succ{l:List OpI}{k:Nat}{x:OpI}(h:l[k]? =some x):opsC f l (k+1)=opsC f l k++opC f k x:=by
 show opsC f l k++(match l[k]? with |some x=>opC f k x |none=>[])=_
 rw[h]
theorem opC_len(hf:1<=f/\f<=4)(i:Nat)(x:OpI):(opC f i x).length<=60:=by
 unfold opC
 rw[List.length_map]
 exact(clP_labs hf _ _).2
theorem opsC_len(hf:1<=f/\f<=4)(l:List OpI): ∀k:Nat,(opsC f l k).length<=60*k
 |0=>Nat.le_refl _
 | k+1=>by
  show(opsC f l k++_).length<=_
  have h1:=opsC_len hf l k
  rw[List.length_append]
  split
  ·have:=opC_len hf k (by assumption);omega
  ·simp;omega
end
section
open Go.RowKit Go.Extern.Stop Go.Stop Go.Extern Go.Maps Go.WideMaps Go.Sort
variable {ad:Option Addr} {l:List OpI}
def opsAt(ad:Option Addr)(l:List OpI)(w:World):Prop:= ∀(i:Nat) x,l[i]? =some x-> ∃b off,ad=some ⟨b,off,none⟩/\w.cell? ⟨b,off+i*2,none⟩=some (.string x.kind)/\w.cell? ⟨b,off+i*2+1,none⟩=some (.int .i64 x.n)
theorem opsAt.below{w w':World}(h:opsAt ad l w)(hb:Below w.heap.size w w'):opsAt ad l w':=fun i x hx=>by
 obtain⟨b,off,e,h1,h2⟩:=h i x hx
 exact⟨b,off,e,keep_cell hb h1,keep_cell hb h2⟩
theorem codeOf_ok {f:Nat} (hf:1<=f/\f<=4) {cap:Nat} {w:World} (h:opsAt ad l w) (hk: ∀x∈l,kn x.kind.toList≠0) (hl:l.length<=20):
  Calls Tryz.prog 114 #[.slice ad l.length cap, .func (.func 31) #[.int .i64 f] #[]] w fun e w'=> ∃v,e= .returned (.tuple #[v, .nilIface])/\insOwn w' w.heap.size v (opsC f l l.length)/\Below w.heap.size w w':=by
 have HH:=hide h
 have HK:=hide hk
 have HOP:=hide (fun(x:OpI) (hx:kn x.kind.toList≠0) w=>cop_ok hf x.kind x.n hx w)
 have HLA:=hide (fun(x:OpI)=>clP_labs hf (kn x.kind.toList) x.n)
 have HCL:=hide (opsC_len hf l)
 have HCO:=hide (fun(i:Nat) (x:OpI)=>opC_len hf i x)
 have HIT:Hid (∀(i:Nat),i<20-> ∀w',Calls Tryz.prog 184 #[.int .i64 (i:Int)] w' fun e w''=>e= .returned (.string (itB i))/\w''=w'):=hide fun i hi w'=>by
  have:=Tryz.strconv_Itoa_small i (by omega) w'
  rwa [dec_is hi] at this
 obtain⟨n,hn⟩: ∃n,Hid (l.length=n):=⟨_,hide rfl⟩
 rw[hn.out] at hl ⊢
 have H0:Hid (insOwn w w.heap.size (.slice none 0 0) (opsC f l 0)/\Below w.heap.size w w):=hide ⟨insOwn_nil _ _,Below.refl _ _⟩
 clear h hk hf
 generalize hfi:(f:Int)=fi at*
 clear hfi
 go_enter Tryz.func114,Tryz.ntmps114
 go_wp2_with fail
 go_loopw [6,7,8,9,10,13] (fun v _ _ _ _ i wr=> ∃k:Nat,k<=n/\i= .int .i64 k/\Hid (insOwn wr w.heap.size v (opsC f l k)/\Below w.heap.size w wr)) (fun _ _ _ _ _ i _=>n - (intOf i).toNat)
 case atStart=>exact⟨0,Nat.zero_le _,rfl,H0⟩
 case round=>
  clear H0
  obtain⟨k,hk,rfl,HR⟩:=hrel
  by_cases hlt:k<n
  ·have ki:(k:Int)<n:=by omega
   obtain⟨x,hx⟩: ∃x,l[k]? =some x:=⟨_,List.getElem?_eq_getElem (by rw[hn.out];exact hlt)⟩
   obtain⟨b,off,rfl,c0,c1⟩:=HH.out.below HR.out.2 k x hx
   have HX:=hide (HOP.out x (HK.out x (List.mem_of_getElem? hx)))
   have HS:=hide (opsC_succ (f:=f) hx)
   have HLX:=hide (HLA.out x)
   have HC1:=hide (HCL.out k)
   have HC2:=hide (HCO.out k x)
   have HI:=hide (HIT.out k (by omega))
   obtain⟨xv,xc,e6, -⟩:=ownsRow_shape HR.out.1
   subst e6
   obtain⟨kd,nn⟩:=x
   dsimp only at c0 c1
   clear hx HOP HLA HCL HCO HIT HK
   go_wp2_with fail
   refine(HX.out _).mono ?_
   rintro e w2 ⟨v2,rfl,hv2,hb2⟩
   have hBA:Below wr.heap.size wr (wr.alloc (.cells #[.string kd, .int .i64 nn] 69)):=bRf.alloc nL _
   have HO2:=hide (insOwn_keep (insOwn_keep HR.out.1 hBA) hb2)
   have HB2:=hide (below_step (below_step HR.out.2 hBA) hb2)
   have HNM:=hide (namedG_any (q:=itB k) hv2 (by have:=HLX.out.2;omega) (fun y hy hly=>name_it (HLX.out.1 y hy hly).1 (HLX.out.1 y hy hly).2 (by omega)))
   obtain⟨x2,c2,rfl, -⟩:=ownsRow_shape hv2
   clear hv2 hb2 hBA HR HX HLX c0 c1
   go_wp2_with fail
   refine(HI.out _).mono ?_
   rintro e w3 ⟨rfl,rfl⟩
   go_wp2_with fail
   refine HNM.out.mono ?_
   rintro e w4 ⟨v4,rfl,hv4,hb4⟩
   have HO4:=hide (insOwn_keep HO2.out hb4)
   have HB4:=hide (below_step HB2.out hb4)
   have HV4:Hid (insOwn w4 0 v4 (opC f k ⟨kd,nn⟩)):=hide (insOwn_mono hv4 (Nat.zero_le _))
   obtain⟨x4,c4,e4, -⟩:=ownsRow_shape hv4
   rw[List.length_map] at e4
   subst e4
   clear hv4 hb4 HO2 HB2 HNM HI
   go_wp2_with (at_builtin;refine wpList_append_insO _ rfl _ _ rfl w.heap.size 0 (opsC f l k) (opC f k ⟨kd,nn⟩) _ _ rfl ?q1 rfl ?q2 ?q3 ?q4 ?_)
   case q1=>exact HO4.out
   case q2=>exact HV4.out
   case q3=>
    have h1:=HC1.out
    have h2:=HC2.out
    have h3:60*k<=60*19:=Nat.mul_le_mul_left _ (by omega)
    omega
   case q4=>exact HB4.out.size
   intro v5 w5 ho5 hb5
   have HR5:Hid (insOwn w5 w.heap.size v5 (opsC f l (k+1))/\Below w.heap.size w w5):=hide ⟨by rw[HS.out];exact ho5,HB4.out.trans hb5⟩
   clear ho5 hb5 HB4 HO4 HV4
   go_wp2_with fail
   go_roundw
   case rel=>exact⟨k+1,by omega,by go_num,HR5⟩
   case measure=>simp[intOf];omega
  ·obtain rfl:k=n:=by omega
   obtain⟨xv,xc,e6, -⟩:=ownsRow_shape HR.out.1
   have HZ:=hide HR.out
   clear HR
   subst e6
   go_wp2_with fail
   go_ret2
   exact⟨_,rfl,HZ.out.1,HZ.out.2⟩
end
section
open Go.RowKit Go.Extern.Stop Go.Stop Go.Extern Go.Maps Go.WideMaps Go.Sort
theorem numsOwn_kept{w w':World}{base:Nat}{v:Value}{l:List Int}{ob:Option Nat}(h:numsOwn w base v l)(hg:w.grownBy w' ob)(hne: ∀b,v.ownBlock=some b->ob≠some b):numsOwn w' base v l:=by
 refine World.ownsRow.kept h hg ?_
 cases hr:v.ownBlock with
 |none=>exact .inl rfl
 |some b=>exact .inr fun e=>hne b hr e.symm
theorem numsOwn_form{w:World}{base:Nat}{v:Value}{l:List Int}(h:numsOwn w base v l)(h1:0<l.length): ∃g cap,v= .slice (some ⟨g,0,none⟩) l.length cap/\base<=g/\g<w.heap.size/\l.length<=cap:=by
 obtain⟨ad,cap,e1,hc, -⟩:=numsOwn_at h
 rcases h.2 with⟨rfl,e⟩ |⟨g,cap',cur,rfl,hg,r⟩
 ·rw[e] at h1;exact absurd h1 (Nat.lt_irrefl _)
 ·cases e1
  exact⟨g,_,rfl,hg,(World.ownsRow.lt h g rfl).2,hc⟩
def Ap(sb:Nat)(iv rv u:Value):Prop:= ∀b,u.ownBlock=some b->b≠sb/\iv.ownBlock≠some b/\rv.ownBlock≠some b
theorem hub_ok{f:Nat}(hf:1<=f/\f<=4)(w:World):Calls Tryz.prog 104 #[.int .i64 f] w fun e w'=> ∃v,e= .returned (.tuple #[v, .nilIface])/\numsOwn w' w.heap.size v [1,0,0,0]/\Below w.heap.size w w':=by
 have HK:=hide (fcheck_ok hf)
 have hm4:=make4
 clear hf
 generalize (f:Int)=fi at*
 go_enter Tryz.func104,Tryz.ntmps104
 go_wp2_with (go_at_call 176;refine(HK.out _).mono ?_;rintro e wq ⟨rfl,rfl⟩)
 go_ret2
 exact⟨_,rfl,numsOwn_new (cs:=#[.int .i64 1, .int .i64 0, .int .i64 0, .int .i64 0]) (l:=[1,0,0,0]) rfl nL (by decide),bRf.alloc nL _⟩
def ownX(f:Nat):Int:=if f=3 then 1 else 0
theorem own_ok {f:Nat} (hf:1<=f/\f<=4) (w:World):Calls Tryz.prog 105 #[.int .i64 f] w fun e w'=> ∃v,e= .returned (.tuple #[v, .nilIface])/\numsOwn w' w.heap.size v [ownX f,0,0,0]/\Below w.heap.size w w':=by
 have HK:=hide (fcheck_ok hf)
 have HJ:=hide (counts_any (f:Int))
 have hm4:=make4
 clear hf
 unfold ownX
 by_cases h3:f=3
 ·rw [if_pos h3]
  rw[show decide ((f:Int)=3)=true from decide_eq_true (by omega)] at HJ
  clear h3
  generalize (f:Int)=fi at*
  go_enter Tryz.func105,Tryz.ntmps105
  go_wp2_with (first
   |(go_at_call 176;refine(HK.out _).mono ?_;rintro e wq ⟨rfl,rfl⟩)
   |(go_at_call 109;refine(HJ.out _).mono ?_;rintro e wz ⟨rfl,rfl⟩))
  go_ret2
  exact⟨_,rfl,numsOwn_new (cs:=#[.int .i64 1, .int .i64 0, .int .i64 0, .int .i64 0]) (l:=[1,0,0,0]) rfl nL (by decide),bRf.alloc nL _⟩
 ·rw [if_neg h3]
  rw[show decide ((f:Int)=3)=false from decide_eq_false (by omega)] at HJ
  clear h3
  generalize (f:Int)=fi at*
  go_enter Tryz.func105,Tryz.ntmps105
  go_wp2_with (first
   |(go_at_call 176;refine(HK.out _).mono ?_;rintro e wq ⟨rfl,rfl⟩)
   |(go_at_call 109;refine(HJ.out _).mono ?_;rintro e wz ⟨rfl,rfl⟩))
  go_ret2
  exact⟨_,rfl,numsOwn_new (cs:=#[.int .i64 0, .int .i64 0, .int .i64 0, .int .i64 0]) (l:=[0,0,0,0]) rfl nL (by decide),bRf.alloc nL _⟩
def linkX(f:Nat):Int:=if f=4 then -1 else 1
theorem link_ok {f:Nat} (hf:1<=f/\f<=4) (w:World):Calls Tryz.prog 177 #[.int .i64 f] w fun e w'=>e= .returned (.tuple #[.int .i64 (linkX f), .nilIface])/\w'=w:=by
 have HK:=hide (fcheck_ok hf)
 have HJ:=hide (joins_any (f:Int))
 clear hf
 unfold linkX
 by_cases h3:f=4
 ·rw [if_pos h3]
  rw[show decide ((f:Int)=4)=true from decide_eq_true (by omega)] at HJ
  clear h3
  generalize (f:Int)=fi at*
  go_enter Tryz.func177,Tryz.ntmps177
  go_wp2_with (first
   |(go_at_call 176;refine(HK.out _).mono ?_;rintro e wq ⟨rfl,rfl⟩)
   |(go_at_call 119;refine(HJ.out _).mono ?_;rintro e wz ⟨rfl,rfl⟩))
  go_ret2
  exact⟨rfl,rfl⟩
 ·rw [if_neg h3]
  rw[show decide ((f:Int)=4)=false from decide_eq_false (by omega)] at HJ
  clear h3
  generalize (f:Int)=fi at*
  go_enter Tryz.func177,Tryz.ntmps177
  go_wp2_with (first
   |(go_at_call 176;refine(HK.out _).mono ?_;rintro e wq ⟨rfl,rfl⟩)
   |(go_at_call 119;refine(HJ.out _).mono ?_;rintro e wz ⟨rfl,rfl⟩))
  go_ret2
  exact⟨rfl,rfl⟩
end
end Go.Proofs.YtnoigmdmgdcliaaGreatDoor
