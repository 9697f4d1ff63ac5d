import Derived.Test.YtnoigmdmgdcliaaGreatDoorA35
import Derived.Test.YtnoigmdmgdcliaaGreatDoorA18
import Derived.Test.YtnoigmdmgdcliaaGreatDoorA29
import Derived.Test.YtnoigmdmgdcliaaGreatDoorProg
import Derived.Test.YtnoigmdmgdcliaaGreatDoorA08
import Derived.WalkKit
import Derived.Test.YtnoigmdmgdcliaaGreatDoorA01
import Derived.Deep.QuietTactic
import Derived.Test.YtnoigmdmgdcliaaGreatDoorA12
import Derived.Laws.IdiomStrings
import Derived.Test.YtnoigmdmgdcliaaGreatDoorA31
import Derived.Laws.AppendOwnNone
import Derived.Lib.AppendZerosOnto
namespace Go.Proofs.YtnoigmdmgdcliaaGreatDoor
set_option maxRecDepth 100000
set_option maxHeartbeats 8000000
section
open Go.RowKit Go.Extern.Stop Go.Stop Go.Extern Go.Maps Go.WideMaps Go.Sort
variable {p:ByteArray} {f:Nat} {w:World}
theorem fcheck_ok(hf:1<=f/\f<=4)(w:World):Calls Tryz.prog 176 #[.int .i64 f] w fun e w'=>e= .returned .nilIface/\w'=w:=by
 have h1: ¬(f:Int)<1:=by omega
 have h2: ¬4<(f:Int):=by omega
 clear hf
 go_enter Tryz.func176,Tryz.ntmps176
 go_wp2
 go_ret
 exact⟨rfl,rfl⟩
theorem MAt.new{b:Nat}{f:Int}(c0:w.cell? ⟨b,0,none⟩=some (.int .i64 f))(c1:w.cell? ⟨b,1,none⟩=some (.string p))(c2:w.cell? ⟨b,2,none⟩=some (.int .i64 0))(c3:w.cell? ⟨b,3,none⟩=some (.slice none 0 0))(fz: ∀o,w.frozen? ⟨b,o,none⟩=false)(sz:b+1<=w.heap.size):MAt b f p 0 [] w (.slice none 0 0) [] w:=
 ⟨_,⟨c0,c1,c2,c3,fz,insOwn_nil _ _,sz⟩,LStep.refl _ _ _,fun _ hx=>absurd hx List.not_mem_nil⟩
theorem MAt.made{b:Nat}{f:Int}{k:Nat}{w0:World}{L:List Ins}{v0:Value}(h:MAt b f p k [] w0 v0 L w){base:Nat}(hb:base<=b): ∃v,w.cell? ⟨b,3,none⟩=some v/\insOwn w base v L/\Below b w0 w:=by
 obtain⟨v,h1,h2, -⟩:=h.out
 exact⟨v,h1.c3,insOwn_mono h1.own (by omega),h2.low⟩
open Classical in
theorem made_ok(hf:1<=f/\f<=4)(hp:isName p)(hs:p.size<=4){n:Nat}(hn:Fn.goes n){k':Nat}{D:List Ins}(hc: ∀b:Nat,Adds n #[.pointer (some ⟨b,0,none⟩)] b f p 0 k' [] D 300)(w:World):
  Calls Tryz.prog 107 #[.int .i64 f, .string p, .func (.func n) #[] #[]] w fun e w'=> ∃v,e= .returned (.tuple #[v, .nilIface])/\insOwn w' w.heap.size v D/\Below w.heap.size w w':=by
 have HK:=hide (fcheck_ok hf)
 have HN:Hid (∀w,Calls Tryz.prog 178 #[.string p] w fun e w'=>e= .returned (.bool true)/\Below w.heap.size w w'):=hide fun w=>(pisName_any p w).mono fun _ _ ⟨h1,h2⟩=>⟨by rw[h1,decide_eq_true hp],h2⟩
 have hsz: ¬4<(p.size:Int):=by omega
 have HG:=hide hn
 have HC:=hide hc
 clear hn hc hs hp hf
 generalize (f:Int)=fi at*
 go_enter Tryz.func107,Tryz.ntmps107
 go_wp2_with (first
  |(go_at_call 176;refine(HK.out _).mono ?_;rintro e wq ⟨rfl,rfl⟩)
  |(go_at_call 178;refine(HN.out _).mono ?_;rintro e w1 ⟨rfl,hb⟩))
 have HM:Hid (MAt w1.heap.size fi p 0 [] (w1.alloc (.cells #[.int .i64 fi, .string p, .int .i64 0, .slice none 0 0] 217)) (.slice none 0 0) [] (w1.alloc (.cells #[.int .i64 fi, .string p, .int .i64 0, .slice none 0 0] 217))):=hide (MAt.new (World.cell?_alloc_new _ _ _ 0) (World.cell?_alloc_new _ _ _ 1) (World.cell?_alloc_new _ _ _ 2) (World.cell?_alloc_new _ _ _ 3) (fun o=>World.frozen?_alloc_new _ _ _ o) (by simp))
 rw[HG.out,Oper.upon_enter]
 refine(HC.out w1.heap.size [] _ _ [] _ HM.out (fun _ hx=>absurd hx List.not_mem_nil) (Nat.zero_le _)).mono ?_
 rintro e w2 ⟨rfl,h2⟩
 obtain⟨v,c3,ho,hB⟩:=h2.made hb.size
 dsimp only
 go_wp2_with fail
 go_ret2
 exact⟨v,rfl,ho,(hb.alloc hb.size _).trans (hB.mono hb.size)⟩
theorem gcode_enter(hf:f=1∨f=2)(p:ByteArray):outerD addO 0 (lb p 2) (lb p 1)++[lblI (lb p 2)]++[⟨⟨#[108,111,97,100]⟩,0,7,0,no⟩,showI f]++[lblI (lb p 1)]=gCode p (gEnter f):=by
 rcases hf with rfl |rfl <;> rfl
theorem gcode_enter4(p:ByteArray):outerD addO 0 (lb p 2) (lb p 1)++[lblI (lb p 2)]++(joinD p 2++[⟨⟨#[108,111,97,100]⟩,0,7,0,no⟩,showI 4])++[lblI (lb p 1)]=gCode p (gEnter 4):=rfl
theorem gcode_leave(hf:f=1∨f=2∨f=4)(p:ByteArray):outerD subO 2 (lb p 2) (lb p 1)++[lblI (lb p 2)]++[showI f]++[lblI (lb p 1)]=gCode p (gLeave f):=by
 rcases hf with rfl |rfl |rfl <;> rfl
theorem gcode_rest(p:ByteArray):(⟨⟨#[122,101,114,111]⟩,6,0,0,lb p 1⟩::(restD (lb p 1)++[lblI (lb p 1)]):List Ins)=gCode p (gRest 3):=rfl
theorem gcode_gone(p:ByteArray):(⟨⟨#[122,101,114,111]⟩,6,0,0,lb p 1⟩::(goneD++[lblI (lb p 1)]):List Ins)=gCode p (gGone 3):=rfl
theorem gcode_wait(hf:f=1∨f=2∨f=4)(p:ByteArray):waitD f p 0=gCode p (gWait f):=by
 rcases hf with rfl |rfl |rfl <;> rfl
theorem gcode_wait3(p:ByteArray):((⟨⟨#[122,101,114,111]⟩,6,0,0,lb p 1⟩::(away1D++[lblI (lb p 1)]))++waitD 3 p 1++(⟨⟨#[122,101,114,111]⟩,6,0,0,lb p 5⟩::(away2D (lb p 5)++[lblI (lb p 5)])):List Ins)=gCode p (gWait 3):=rfl
theorem enter1_all(hf:1<=f/\f<=4)(hp:p.size<=4): ∃k', ∀b:Nat,Adds 116 #[.pointer (some ⟨b,0,none⟩)] b f p 0 k' [] (gCode p (gEnter f)) 300:=by
 have hp:p.size<=1000:=by omega
 have h:f=1∨f=2∨f=3∨f=4:=by omega
 rcases h with rfl |rfl |rfl |rfl
 ·exact⟨_,fun b=>by rw[<-gcode_enter (.inl rfl)];exact(enter1_any (k:=0) (by decide) (by decide) hp (by decide) fun x1=>(enter11_plain (by decide) x1).mono (by decide)).mono (by decide)⟩
 ·exact⟨_,fun b=>by rw[<-gcode_enter (.inr rfl)];exact(enter1_any (k:=0) (by decide) (by decide) hp (by decide) fun x1=>(enter11_plain (by decide) x1).mono (by decide)).mono (by decide)⟩
 ·exact⟨_,fun b=>(enter1_none rfl).mono (by decide)⟩
 ·exact⟨_,fun b=>by rw[<-gcode_enter4];exact(enter1_any (k:=0) (by decide) (by decide) hp (by show 14<=50;decide) fun x1=>enter11_joins rfl (by decide) hp x1).mono (by decide)⟩
theorem leave1_all(hf:1<=f/\f<=4)(hp:p.size<=4): ∃k', ∀b:Nat,Adds 121 #[.pointer (some ⟨b,0,none⟩)] b f p 0 k' [] (gCode p (gLeave f)) 300:=by
 have hp:p.size<=1000:=by omega
 by_cases h:f=3
 ·subst h;exact⟨_,fun b=>(leave1_none rfl).mono (by decide)⟩
 ·exact⟨_,fun b=>by rw[<-gcode_leave (by omega)];exact(leave1_any (k:=0) h (by decide) hp).mono (by decide)⟩
theorem rest1_all(hf:1<=f/\f<=4)(hp:p.size<=4): ∃k', ∀b:Nat,Adds 122 #[.pointer (some ⟨b,0,none⟩)] b f p 0 k' [] (gCode p (gRest f)) 300:=by
 have hp:p.size<=1000:=by omega
 by_cases h:f=3
 ·subst h;exact⟨_,fun b=>by rw[<-gcode_rest];exact(rest1_any (k:=0) rfl (by decide) hp).mono (by decide)⟩
 ·exact⟨_,fun b=>by rw[show gCode p (gRest f)=[] by unfold gRest;rw[if_neg h];rfl];exact(rest1_none h).mono (by decide)⟩
theorem gone1_all(hf:1<=f/\f<=4)(hp:p.size<=4): ∃k', ∀b:Nat,Adds 108 #[.pointer (some ⟨b,0,none⟩)] b f p 0 k' [] (gCode p (gGone f)) 300:=by
 have hp:p.size<=1000:=by omega
 by_cases h:f=3
 ·subst h;exact⟨_,fun b=>by rw[<-gcode_gone];exact(gone1_any (k:=0) rfl (by decide) hp).mono (by decide)⟩
 ·exact⟨_,fun b=>by rw[show gCode p (gGone f)=[] by unfold gGone;rw[if_neg h];rfl];exact(gone1_none h).mono (by decide)⟩
theorem wait1_all(hf:1<=f/\f<=4)(hp:p.size<=4): ∃k', ∀b:Nat,Adds 125 #[.pointer (some ⟨b,0,none⟩)] b f p 0 k' [] (gCode p (gWait f)) 300:=by
 have hp:p.size<=1000:=by omega
 by_cases h:f=3
 ·subst h;exact⟨_,fun b=>by rw[<-gcode_wait3];exact wait1_counts (k:=0) rfl (by decide) hp⟩
 ·exact⟨_,fun b=>by rw[<-gcode_wait (by omega)];exact(wait1_plain (k:=0) h (by decide) hp).mono (by decide)⟩
theorem enter_ok(hf:1<=f/\f<=4)(hp:isName p)(hs:p.size<=4)(w:World):
  Calls Tryz.prog 60 #[.int .i64 f, .string p] w fun e w'=> ∃v,e= .returned (.tuple #[v, .nilIface])/\insOwn w' w.heap.size v (gCode p (gEnter f))/\Below w.heap.size w w':=by
 have hmf: ∀(fn:Fn) (first cap:Array Value) (w:World),(Instr.makeFunc fn first cap).run Tryz.prog w= .ok (.func fn first cap) w:=fun _ _ _ _=>rfl
 obtain⟨k',hc⟩:=enter1_all hf hs
 have HM:=hide (made_ok hf hp hs (fun _ _=>rfl) hc w)
 clear hc hf hp hs
 generalize gCode p (gEnter f)=D at*
 generalize (f:Int)=fi at*
 go_enter Tryz.func60,Tryz.ntmps60
 go_wp2_with (go_at_call 107;refine HM.out.mono ?_;rintro e wq ⟨v,rfl,hv⟩)
 go_ret2
 exact⟨v,rfl,hv⟩
theorem leave_ok(hf:1<=f/\f<=4)(hp:isName p)(hs:p.size<=4)(w:World):
  Calls Tryz.prog 61 #[.int .i64 f, .string p] w fun e w'=> ∃v,e= .returned (.tuple #[v, .nilIface])/\insOwn w' w.heap.size v (gCode p (gLeave f))/\Below w.heap.size w w':=by
 have hmf: ∀(fn:Fn) (first cap:Array Value) (w:World),(Instr.makeFunc fn first cap).run Tryz.prog w= .ok (.func fn first cap) w:=fun _ _ _ _=>rfl
 obtain⟨k',hc⟩:=leave1_all hf hs
 have HM:=hide (made_ok hf hp hs (fun _ _=>rfl) hc w)
 clear hc hf hp hs
 generalize gCode p (gLeave f)=D at*
 generalize (f:Int)=fi at*
 go_enter Tryz.func61,Tryz.ntmps61
 go_wp2_with (go_at_call 107;refine HM.out.mono ?_;rintro e wq ⟨v,rfl,hv⟩)
 go_ret2
 exact⟨v,rfl,hv⟩
theorem rest_ok(hf:1<=f/\f<=4)(hp:isName p)(hs:p.size<=4)(w:World):
  Calls Tryz.prog 62 #[.int .i64 f, .string p] w fun e w'=> ∃v,e= .returned (.tuple #[v, .nilIface])/\insOwn w' w.heap.size v (gCode p (gRest f))/\Below w.heap.size w w':=by
 have hmf: ∀(fn:Fn) (first cap:Array Value) (w:World),(Instr.makeFunc fn first cap).run Tryz.prog w= .ok (.func fn first cap) w:=fun _ _ _ _=>rfl
 obtain⟨k',hc⟩:=rest1_all hf hs
 have HM:=hide (made_ok hf hp hs (fun _ _=>rfl) hc w)
 clear hc hf hp hs
 generalize gCode p (gRest f)=D at*
 generalize (f:Int)=fi at*
 go_enter Tryz.func62,Tryz.ntmps62
 go_wp2_with (go_at_call 107;refine HM.out.mono ?_;rintro e wq ⟨v,rfl,hv⟩)
 go_ret2
 exact⟨v,rfl,hv⟩
theorem gone_ok(hf:1<=f/\f<=4)(hp:isName p)(hs:p.size<=4)(w:World):
  Calls Tryz.prog 58 #[.int .i64 f, .string p] w fun e w'=> ∃v,e= .returned (.tuple #[v, .nilIface])/\insOwn w' w.heap.size v (gCode p (gGone f))/\Below w.heap.size w w':=by
 have hmf: ∀(fn:Fn) (first cap:Array Value) (w:World),(Instr.makeFunc fn first cap).run Tryz.prog w= .ok (.func fn first cap) w:=fun _ _ _ _=>rfl
 obtain⟨k',hc⟩:=gone1_all hf hs
 have HM:=hide (made_ok hf hp hs (fun _ _=>rfl) hc w)
 clear hc hf hp hs
 generalize gCode p (gGone f)=D at*
 generalize (f:Int)=fi at*
 go_enter Tryz.func58,Tryz.ntmps58
 go_wp2_with (go_at_call 107;refine HM.out.mono ?_;rintro e wq ⟨v,rfl,hv⟩)
 go_ret2
 exact⟨v,rfl,hv⟩
theorem wait_ok(hf:1<=f/\f<=4)(hp:isName p)(hs:p.size<=4)(w:World):
  Calls Tryz.prog 63 #[.int .i64 f, .string p] w fun e w'=> ∃v,e= .returned (.tuple #[v, .nilIface])/\insOwn w' w.heap.size v (gCode p (gWait f))/\Below w.heap.size w w':=by
 have hmf: ∀(fn:Fn) (first cap:Array Value) (w:World),(Instr.makeFunc fn first cap).run Tryz.prog w= .ok (.func fn first cap) w:=fun _ _ _ _=>rfl
 obtain⟨k',hc⟩:=wait1_all hf hs
 have HM:=hide (made_ok hf hp hs (fun _ _=>rfl) hc w)
 clear hc hf hp hs
 generalize gCode p (gWait f)=D at*
 generalize (f:Int)=fi at*
 go_enter Tryz.func63,Tryz.ntmps63
 go_wp2_with (go_at_call 107;refine HM.out.mono ?_;rintro e wq ⟨v,rfl,hv⟩)
 go_ret2
 exact⟨v,rfl,hv⟩
end
section
open Go.RowKit Go.Extern.Stop Go.Stop Go.Extern Go.Maps Go.WideMaps Go.Sort
theorem insOwn_kept{w w':World}{base:Nat}{v:Value}{l:List Ins}{ob:Option Nat}(h:insOwn w base v l)(hg:w.grownBy w' ob)(hne:v.ownBlock=none∨v.ownBlock≠ob):insOwn w' base v l:=World.ownsRow.kept h hg hne
end
section
open Go.RowKit Go.Extern.Stop Go.Stop Go.Extern Go.Maps Go.WideMaps Go.Sort
theorem run_append_ins {w:World} {base b2:Nat} {l0 l:List Ins} {v u:Value} (hown:insOwn w base v l0) (hu:insOwn w b2 u l) (h3:l0.length+l.length<=2000) (hb:base<=w.heap.size) (ty:TypeId):
  ∃v' w',(Builtin.append_ #[58,58] ty #[v,u]).run Tryz.prog w= .ok v' w'/\insOwn w' base v' (l0++l)/\Below base w w':=by
 obtain⟨ri,hri,hrz,hrs,hrb⟩:=instrInfo
 have hu':=hu
 rcases hu'.2 with⟨rfl,h0⟩ |⟨g,cap,cur,rfl, -⟩
 ·obtain rfl:=List.length_eq_zero_iff.1 h0
  refine⟨v,w,run_append_owned_none (P:=Tryz.prog) (w:=w) base 58 ty 57 ri 5 Tryz.underlying58 hri v l0.length (icells l0) hown,?_,Below.refl _ _⟩
  rw[List.append_nil];exact hown
 ·obtain ⟨v',w',hr,h2,h4, -, -⟩:=run_append_own_at (P:=Tryz.prog) (w:=w) base 58 ty 57 ri (.agg #[.string ⟨#[]⟩, .int .i64 0, .int .i64 0, .int .i64 0, .string ⟨#[]⟩]) 5 56 Tryz.underlying58 hri hrz hrs hrb rfl (by decide) v l0.length (icells l0) hown ⟨g,0,none⟩ l.length cap (icells l) (icells_len l) (fun j x hj=>by
    have hj5:j<l.length*5:=by
     have:=(List.getElem?_eq_some_iff.1 hj).1
     rwa [icells_len] at this
    rw[Addr.add_lit,Nat.zero_add]
    exact(World.ownsRow.cellAt hu j hj5).trans hj) icells_one (by unfold maxLen;omega) (by omega) hb
  refine⟨v',w',hr,?_,(Below.refl base w).grown h4 hb (fun k hk=>(hown.lt k hk).1)⟩
  unfold insOwn
  rw[List.length_append,icells_append]
  exact h2
theorem wpList_append_insO{ops:Array Oper}{rest:List Oper}{o:Oper}{a:Act}(w:World){Q:Exit->Act->World->Prop}(hgd:o.guard=none)(s x:Operand) 
  (ho:o.op= .call { callee:= .builtin .append,args:=#[s,x],argTypes:=#[58,58] }) (base b2:Nat) (l0 l:List Ins) (v u:Value)
  (hs:a.eval s=v) (hown:insOwn w base v l0) (hx:a.eval x=u) (hu:insOwn w b2 u l) (h3:l0.length+l.length<=2000) (hb:base<=w.heap.size)
  (h: ∀v' w',insOwn w' base v' (l0++l)->Below base w w'->wpList Tryz.prog ops Q rest (a.put o.dst v') w'):wpList Tryz.prog ops Q (o::rest) a w:=by
 refine wpList_plain hgd fun K hK=>?_
 obtain⟨v',w',hr,h4,h5⟩:=run_append_ins hown hu h3 hb o.type
 unfold Oper.wp execOp
 simp only[ho,resolve,invoke,builtin,Sem.run_bind,Sem.run_pure,Result.andThen_ok,List.map_toArray,List.map_cons,List.map_nil,hs,hx,hr]
 exact hK _ _ (h v' w' h4 h5)
end
section
open Go.RowKit Go.Extern.Stop Go.Stop Go.Extern Go.Maps Go.WideMaps Go.Sort
variable {l:List Ins}
theorem growI_nil {n:Nat} (h0:0<n) (hn:n<=2000) (w:World):
  Calls Tryz.prog 185 #[.slice none 0 0, .int .i64 n] w fun e w'=> ∃v,e= .returned v/\insOwn w' w.heap.size v []/\Below w.heap.size w w':=by
 obtain⟨ri,hri,hrz,hrs,hrb⟩:=instrInfo
 have h1: ¬((n:Int)<0):=by omega
 have h3:IntKind.i64.wrap ((n:Int) - 0)=(n:Int):=by rw[IntKind.wrap_i64];omega
 have h4:0<(n:Int):=by omega
 have hold:(Builtin.firstCells ri.size 0 (.slice none 0 0)).run Tryz.prog w.drew= .ok (([]:List Value).toArray) w.drew:=run_firstCells_none w.drew ri.size 0 0 0
 have hrz': ∀ty,(Builtin.append_ #[58,3] ty #[.slice none 0 0, .int .i64 (n:Int)]).run Tryz.prog w=
   .ok (.slice (some ⟨w.heap.size,0,none⟩) n (grownCap w n 0 57)) (w.drew.alloc (.cells (([]:List Value).toArray++Builtin.zeroCells (Value.agg #[.string ⟨#[]⟩, .int .i64 0, .int .i64 0, .int .i64 0, .string ⟨#[]⟩]).cells n++Builtin.zeroCells (Value.agg #[.string ⟨#[]⟩, .int .i64 0, .int .i64 0, .int .i64 0, .string ⟨#[]⟩]).cells (grownCap w n 0 57 - n)) 57)):=fun ty=>by
  have h:=Lib.run_append_grow_zeros w 58 3 ty 57 ri _ .i64 .i64 Tryz.underlying58 Tryz.underlying3 hri hrz none 0 0 [] hold n (by omega) (by rw[hrs];decide) (by omega) (by omega)
   (by rw[hrb];omega)
   (by rw[Nat.zero_add];exact growslice_fits (by omega) (by rw[hrb];omega))
  simpa using h
 have hG:=grownCap_ge w n 0 57
 have hGm:grownCap w n 0 57<=maxLen:=grownCap_le_maxLen w n 0 57 (by unfold maxLen;omega)
 generalize grownCap w n 0 57=G at*
 obtain ⟨C,hC,hCs⟩: ∃C:Array Value,(([]:List Value).toArray++Builtin.zeroCells (Value.agg #[.string ⟨#[]⟩, .int .i64 0, .int .i64 0, .int .i64 0, .string ⟨#[]⟩]).cells n++Builtin.zeroCells (Value.agg #[.string ⟨#[]⟩, .int .i64 0, .int .i64 0, .int .i64 0, .string ⟨#[]⟩]).cells (G - n))=C/\C.size=G*5:=⟨_,rfl,by
  simp only[Array.size_append,List.size_toArray,size_zeroCells]
  show 0+n*5+(G - n)*5=G*5
  omega⟩
 simp only[hC] at hrz'
 have hO:Hid (insOwn (w.drew.alloc (.cells C 57)) w.heap.size (.slice (some ⟨w.heap.size,0,none⟩) 0 G) []):=hide ⟨rfl, .inr ⟨w.heap.size,G,C,rfl,Nat.le_refl _,(by show(w.heap.push _)[w.heap.size]? =_;simp),Nat.zero_le _,hGm,hCs,by simp[icells]⟩⟩
 have hB:Below w.heap.size w (w.drew.alloc (.cells C 57)):=bRf.drew.alloc nL _
 clear hC hCs
 have hG63:G<=9223372036854775807:=by unfold maxLen at hGm;omega
 clear hold hri hrz hrs hrb
 go_enter Tryz.func185,Tryz.ntmps185
 go_wp2_with (at_builtin;refine Lib.wpList_append_run _ rfl _ _ _ _ rfl _ _ rfl rfl _ _ (hrz' _) ?_)
 all_goals(go_ret;exact⟨_,rfl,hO.out,hB⟩)
def flatTo(l:List (List Ins))(k:Nat):List Ins:=(l.take k).flatten
theorem flatTo_succ{l:List (List Ins)}{k:Nat}{L:List Ins}(h:l[k]? =some L):flatTo l (k+1)=flatTo l k++L:=by
 unfold flatTo
 rw[List.take_add_one,h,List.flatten_append]
 simp
theorem flatTo_le(l:List (List Ins)): ∀k:Nat,(flatTo l k).length<=l.flatten.length:=fun k=>by
 have:l.flatten=(l.take k).flatten++(l.drop k).flatten:=by rw[<-List.flatten_append,List.take_append_drop]
 rw[this,List.length_append]
 exact Nat.le_add_right _ _
theorem flatTo_all(l:List (List Ins)):flatTo l l.length=l.flatten:=by
 unfold flatTo
 rw[List.take_length]
def lbOp(op:ByteArray):Bool:=hasTo ((shape op.toList).getD [])
theorem hasLabel_any(op:ByteArray)(w:World):Calls Tryz.prog 228 #[.string op] w fun e w'=>e= .returned (.bool (lbOp op))/\Below w.heap.size w w':=by
 have HK:Hid (∀w,Calls Tryz.prog 208 #[.string op] w fun e w'=> ∃a b c d,e= .returned (.tuple #[.agg #[.int .i64 a, .int .i64 b, .int .i64 c, .bool (lbOp op)], .bool d])/\Below w.heap.size w w'):=hide fun w=>(kindOf_any op w).mono fun e w' ⟨h1,h2⟩=>by
  subst h1
  unfold lbOp
  cases shape op.toList with
  |none=>exact⟨_,_,_,_,rfl,h2⟩
  |some S=>exact⟨_,_,_,_,rfl,h2⟩
 generalize lbOp op=B at*
 go_enter Tryz.func228,Tryz.ntmps228
 go_wp2_with fail
 refine(HK.out _).mono ?_
 rintro e w1 ⟨a,b,c,d,rfl,hb⟩
 go_wp2_with fail
 go_ret
 exact⟨rfl,hb.alloc hb.size _⟩
def thDot:ByteArray:=⟨#[46]⟩
def namedI(q:ByteArray)(x:Ins):Ins:=if lbOp x.op=true then⟨x.op,x.a,x.b,x.c,x.to++thDot++q⟩ else x
def namedTo(q:ByteArray)(l:List Ins)(k:Nat):List Ins:=l.mapIdx fun i x=>if i<k then namedI q x else x
theorem namedTo_get(q:ByteArray)(l:List Ins)(k i:Nat):(namedTo q l k)[i]? =l[i]?.map fun x=>if i<k then namedI q x else x:=by
 unfold namedTo
 rw[List.getElem?_mapIdx]
theorem namedTo_zero(q:ByteArray)(l:List Ins):namedTo q l 0=l:=List.ext_getElem? fun i=>by
 rw[namedTo_get]
 cases l[i]? <;> simp
theorem namedTo_all(q:ByteArray)(l:List Ins):namedTo q l l.length=l.map (namedI q):=List.ext_getElem? fun i=>by
 rw[namedTo_get,List.getElem?_map]
 by_cases h:i<l.length
 ·simp only[if_pos h]
 ·rw[List.getElem?_eq_none (by omega)];rfl
theorem namedTo_skip{q:ByteArray}{k:Nat}{x:Ins}(h:l[k]? =some x)(hn:lbOp x.op=false):namedTo q l (k+1)=namedTo q l k:=List.ext_getElem? fun i=>by
 rw[namedTo_get,namedTo_get]
 by_cases e:i=k
 ·subst e
  rw[h]
  have:namedI q x=x:=by unfold namedI;rw[hn];rfl
  simp[this]
 ·have:(i<k+1)=(i<k):=by simp only[eq_iff_iff];omega
  simp only[this]
theorem insOwn_deep{w:World}{base:Nat}{v:Value}(h:insOwn w base v l)(h0:0<l.length): ∃g cap,base<=g/\v= .slice (some ⟨g,0,none⟩) l.length cap/\insAt (some ⟨g,0,none⟩) l w/\(∀o,w.frozen? ⟨g,o,none⟩=false)/\g<w.heap.size/\l.length<=cap:=by
 have h':=h
 rcases h with⟨hlen,⟨rfl,e⟩ |⟨g,cap,cur,rfl,hb,hg,h1,h2,h3,h4⟩⟩
 ·omega
 ·obtain⟨ad,cap',e,hi⟩:=insOwn_open h' h0
  cases e
  exact⟨g,cap,hb,rfl,hi,fun o=>frozen_of_row _ _ _ _ _ hg,(Array.getElem?_eq_some_iff.1 hg).1,h1⟩
end
end Go.Proofs.YtnoigmdmgdcliaaGreatDoor
