import Derived.Test.YtnoigmdmgdcliaaGreatDoorA30
import Derived.Test.YtnoigmdmgdcliaaGreatDoorA18
import Derived.Test.YtnoigmdmgdcliaaGreatDoorA29
import Derived.Test.YtnoigmdmgdcliaaGreatDoorA05
import Derived.Test.YtnoigmdmgdcliaaGreatDoorA16
import Derived.Laws.IdiomCopy
import Derived.Lib.LazyBuf
namespace Go.Proofs.YtnoigmdmgdcliaaGreatDoor
set_option maxRecDepth 100000
set_option maxHeartbeats 8000000
section
open Go.RowKit Go.Extern.Stop Go.Stop Go.Extern Go.Maps Go.WideMaps Go.Sort
variable {a:Nat->Addr} {w:World}
theorem oc_ok{cs:List (List Ins)}{ad:Option Addr}{cap reg cb gb rb:Nat}(h2:cs.length=2)(hr:reg<8)(hcb:cb<rb)(hgb:gb<rb):SeerOk a cs (ocSeer 38 a cs ad cap reg cb gb rb) where
 fr:=ocFr (Nat.le_of_lt hcb) (Nat.le_of_lt hgb)
 box h k e:=by
  cases e
  obtain⟨v,us, -, -,hX⟩:=h.ex
  exact⟨(hX _).2 (.inl rfl),h.box⟩
 call:= .inr ⟨38,_,rfl,fun _ _=>rfl,fun p m w X L h1 _ h3 hL=>oc_call h1 h2 hr hcb hgb h3 hL⟩
theorem seCode_short(fe:Bool): ∀(t:Nat) L,(seCodes fe 1)[t]? =some L-> ∀(i:Nat) x,L[i]? =some x->x.to.size<=maxLen:=fun t L ht i x hx=>by
 have h1:L=seCode fe 1:=by
  match t,ht with
  |0,ht=>cases ht;rfl
  |1,ht=>cases ht;rfl
 subst h1
 cases fe
 ·match i,hx with
  |0,hx=>cases hx;exact Nat.zero_le _
  |1,hx=>cases hx;exact Nat.zero_le _
  |2,hx=>cases hx;exact Nat.zero_le _
 ·match i,hx with
  |0,hx=>cases hx;exact Nat.zero_le _
  |1,hx=>cases hx;exact Nat.zero_le _
  |2,hx=>cases hx;exact Nat.zero_le _
  |3,hx=>cases hx;exact Nat.zero_le _
theorem ocBoxes (hE:Env a w) (cs:List (List Ins)) (h2:cs.length=2) (x y z:Value) (ad:Option Addr) (cap:Nat): ∃W,W=(((w.alloc (.cells #[x,y,z] 40)).alloc (.cells #[.slice ad 2 cap] 41)).alloc (.cells #[.int .i64 0] 3)).alloc (.cells #[.slice none 0 0] 38)/\Below w.heap.size w W/\W.heap.size=w.heap.size+3+1/\
  OcI a cs ad cap 0 (w.heap.size+1) (w.heap.size+1+1) (w.heap.size+3) (fun k=>k=w.heap.size+3) [] W:=by
 have hb:Below w.heap.size w ((((w.alloc (.cells #[x,y,z] 40)).alloc (.cells #[.slice ad 2 cap] 41)).alloc (.cells #[.int .i64 0] 3)).alloc (.cells #[.slice none 0 0] 38)):=((((Below.refl _ w).alloc nL _).alloc (by simp) _).alloc (by simp;omega) _).alloc (by simp;omega) _
 have e3:w.heap.size+3=(((w.alloc (.cells #[x,y,z] 40)).alloc (.cells #[.slice ad 2 cap] 41)).alloc (.cells #[.int .i64 0] 3)).heap.size:=by simp
 have hc3: ∀o,((((w.alloc (.cells #[x,y,z] 40)).alloc (.cells #[.slice ad 2 cap] 41)).alloc (.cells #[.int .i64 0] 3)).alloc (.cells #[.slice none 0 0] 38)).cell? ⟨w.heap.size+3,o,none⟩=(#[.slice none 0 0]:Array Value)[o]? :=fun o=>by rw[e3];exact World.cell?_alloc_new _ _ _ _
 refine⟨_,rfl,hb,by simp,?_,?_,⟨⟨_,_,_,hc3 0⟩,fun o ho=>?_,w,hE,by omega,hb⟩,?_, .slice none 0 0,[],hc3 0,⟨World.ownsRow_nil _ _ _ _,fun i row hi=>by simp[endRows] at hi⟩,fun k=>?_⟩
 ·rw[h2]
  refine keep_cell (bRf.alloc nL _) (keep_cell (bRf.alloc nL _) ?_)
  rw[show w.heap.size+1=(w.alloc (.cells #[x,y,z] 40)).heap.size by simp,World.cell?_alloc_new];rfl
 ·refine keep_cell (bRf.alloc nL _) ?_
  rw[show w.heap.size+1+1=((w.alloc (.cells #[x,y,z] 40)).alloc (.cells #[.slice ad 2 cap] 41)).heap.size by simp,World.cell?_alloc_new];rfl
 ·rw[hc3]
  exact Array.getElem?_eq_none (by simpa using ho)
 ·rw[e3];exact World.frozen?_alloc_new _ _ _ _
 ·constructor
  ·exact fun e=> .inl e
  ·rintro(e |e |⟨u,hu, -⟩)
   ·exact e
   ·cases e
   ·cases hu
theorem outcomes_lit (fe:Bool) (hE:Env a w) {ai ar ad:Option Addr} {ci cr cap:Nat} (hs:StaAt seSta ⟨ai,ci,ar,cr⟩ w) (hl:codesAt ad (seCodes fe 1) w):
  Calls Tryz.prog 18 #[.agg #[.int .i64 2, .slice ai 2 ci, .slice ar 2 cr], .slice ad 2 cap, .int .i64 0, .int .i64 2000] w fun e w'=> ∃ad' cap',e= .returned (.tuple #[.slice ad' (litSorted fe).length cap', .nilIface])/\rwsAt ad' (litSorted fe) w'/\Below w.heap.size w w':=by
 obtain⟨W,hW,hbW,hsz,hI⟩:=ocBoxes hE (seCodes fe 1) rfl (.int .i64 2) (.slice ai 2 ci) (.slice ar 2 cr) ad cap
 have HSEE:Hid (Calls Tryz.prog 37 #[.agg #[.int .i64 2, .slice ai 2 ci, .slice ar 2 cr], .slice ad 2 cap, .int .i64 2000, .func (.func 38) #[] #[.pointer (some ⟨w.heap.size+3,0,none⟩), .pointer (some ⟨w.heap.size+1,0,none⟩), .pointer (some ⟨w.heap.size+1+1,0,none⟩)]] W fun e w'=>Hid (SeePost a (seCodes fe 1) (seSta.mach 2) 2000 (ocSeer 38 a (seCodes fe 1) ad cap 0 (w.heap.size+1) (w.heap.size+1+1) (w.heap.size+3)) (fun k=>k=w.heap.size+3) W e w')):=
  hide (wsee_search (se:=ocSeer 38 a (seCodes fe 1) ad cap 0 (w.heap.size+1) (w.heap.size+1+1) (w.heap.size+3)) (X0:=fun k=>k=w.heap.size+3) rfl (s:=seSta) (ci:=ci) (cr:=cr) (cap:=cap) 2000 (oc_ok rfl (by decide) (by omega) (by omega)) (fun k e=>by rw[e];rfl) hI (by show w.heap.size+3+1<=_;omega) (hE.below hbW.block) (hs.below hbW) (hl.below hbW) (seCode_short fe) (seFault fe ⟨by decide,by decide⟩) ⟨by decide,by decide⟩)
 have HB:=hide hbW
 clear hE hs hl hI hbW
 obtain⟨n,hn⟩: ∃n,n=(litSorted fe).length:=⟨_,rfl⟩
 have HNN:=hide hn
 rw[<-hn]
 clear hn
 have hmf: ∀(fn:Fn) (first cap:Array Value) (w:World),(Instr.makeFunc fn first cap).run Tryz.prog w= .ok (.func fn first cap) w:=fun _ _ _ _=>rfl
 go_enter Tryz.func18,Tryz.ntmps18
 go_wp2_with fail
 rw[<-hW]
 clear hW
 refine HSEE.out.mono ?_
 rintro e w5 hp
 obtain⟨ht,s,en,X,R,hR,hi,hx,rfl⟩:=lit_see hp.out
 have hi:OcI a (seCodes fe 1) ad cap 0 (w.heap.size+1) (w.heap.size+1+1) (w.heap.size+3) X R w5:=hi
 obtain⟨v,us,hv,hrw, -⟩:=hi.ex
 rw[hR] at hrw
 have hb5:Below w.heap.size w w5:=HB.out.trans (ht.below HB.out.size (fun k o hk e=>by omega))
 have hl5:w.heap.size+3<w5.heap.size:=bLt hv
 obtain⟨w6,hw6⟩: ∃w6,w6=w5.alloc (.cells #[.int .i64 s, .int .i64 en, .bool false, .slice none 0 0] 100):=⟨_,rfl⟩
 have b6:Below w5.heap.size w5 w6:=by rw[hw6];exact bRf.alloc nL _
 obtain⟨g,c,rfl,hgb,hgl,l,hl,hH⟩:=(hrw.below b6).sorts (by cases fe <;> decide) (by cases fe <;> decide)
 obtain⟨D,hD,hDr,hDl⟩:=lit_sort fe hl
 have hlen:l.toArray.size=(litEnds fe).length:=by rw[<-hl];simp
 have hll:(litEnds fe).length=n:=by rw[HNN.out];cases fe <;> rfl
 have hn12:n<=12:=by rw[HNN.out];cases fe <;> decide
 have HSORT:=hide (sort_few l.toArray hH hgl (by rw[hlen,hll];exact hn12) c)
 rw[hD,hlen,hll] at HSORT
 have HROWS:=hide (fun(W:World) (h:Go.Proofs.SW RowV.enc w6 g 0 D.toArray W)=>show rwsAt (some ⟨g,0,none⟩) (litSorted fe) W/\Turns (fun k _=>k=g) w6 W from
  ⟨by rw[<-hDr];exact sw_rows h hgl hH (by simp[hDl]) rfl,sw_turns h⟩)
 have HCOMP:=hide (fun(W:World) (h:rwsAt (some ⟨g,0,none⟩) (litSorted fe) W)=>compact_few (cap:=c) h (by rw[<-HNN.out];exact hn12) (by cases fe <;> decide) (by
  cases fe
  ·intro i r r' h1 h2
   match i,h1,h2 with
   |0,h1,h2=>cases h1;cases h2;decide
   |1,h1,h2=>cases h1;cases h2;decide
   |2,h1,h2=>cases h1;cases h2;decide
   |i+3,h1,h2=>simp[litSorted] at h2
  ·intro i r r' h1 h2
   match i,h1,h2 with
   |0,h1,h2=>cases h1;cases h2;decide
   |1,h1,h2=>cases h1;cases h2;decide
   |i+2,h1,h2=>simp[litSorted] at h2))
 rw[<-HNN.out] at HCOMP
 rw[hll] at hv
 have hv6:=keep_cell b6 hv
 have HB6:=hide (below_step hb5 b6)
 clear HSEE hp ht hR hi hx hrw hb5 hD hDr hDl hlen hll hH hl b6 HB
 unfold toldV
 go_wp2_with fail
 rw[<-hw6]
 clear hw6
 refine HSORT.out.mono ?_
 rintro e w7 ⟨rfl,hsw⟩
 obtain⟨hr7,t7⟩:=HROWS.out w7 hsw
 have hv7:=t7.keep hv6 (fun e=>by omega)
 have HC7:=hide (HCOMP.out w7 hr7)
 have HR7:=hide hr7
 have HB7:Hid (Below w.heap.size w w7):=hide (HB6.out.trans (t7.below HB6.out.size (fun k o hk e=>by omega)))
 clear hsw HROWS HCOMP HSORT hr7 t7 hv6 HB6 hv
 go_wp2_with fail
 refine HC7.out.mono ?_
 rintro e w8 ⟨rfl,hb8⟩
 have HB8:=hide (below_step HB7.out hb8)
 have HR8:=hide (HR7.out.below hb8)
 clear HC7 hb8 HB7 HR7
 go_wp2_with fail
 go_ret2
 exact⟨_,_,rfl,HR8.out,HB8.out⟩
end
section
open Go.RowKit
inductive GI
 |load (r a k:Nat)
 |const (r:Nat) (v:Int)
 |move (r a:Nat)
 |add (r a b:Nat)
 |sub (r a b:Nat)
 |store (a r k:Nat)
 |swap (r a k:Nat)
 |cas (a r k:Nat)
 |fence
 |force
 |zero (r l:Nat)
 |same (r a l:Nat)
 |goto (l:Nat)
 |label (l:Nat)
 |alloc (r:Nat)
 |free (r:Nat)
 |need (r:Nat)
deriving DecidableEq
def lb(p:ByteArray)(k:Nat):ByteArray:=p++⟨#[UInt8.ofNat (48+k)]⟩
def no:ByteArray:=⟨#[]⟩
def GI.ins(p:ByteArray):GI->Ins
 |load r a k=>⟨⟨#[108,111,97,100]⟩,r,a,k,no⟩
 |const r v=>⟨⟨#[99,111,110,115,116]⟩,r,v,0,no⟩
 |move r a=>⟨⟨#[109,111,118,101]⟩,r,a,0,no⟩
 |add r a b=>⟨⟨#[97,100,100]⟩,r,a,b,no⟩
 |sub r a b=>⟨⟨#[115,117,98]⟩,r,a,b,no⟩
 |store a r k=>⟨⟨#[115,116,111,114,101]⟩,a,r,k,no⟩
 |swap r a k=>⟨⟨#[115,119,97,112]⟩,r,a,k,no⟩
 |cas a r k=>⟨⟨#[99,97,115]⟩,a,r,k,no⟩
 |fence=>⟨⟨#[102,101,110,99,101]⟩,0,0,0,no⟩
 |force=>⟨⟨#[102,111,114,99,101]⟩,0,0,0,no⟩
 |zero r l=>⟨⟨#[122,101,114,111]⟩,r,0,0,lb p l⟩
 |same r a l=>⟨⟨#[115,97,109,101]⟩,r,a,0,lb p l⟩
 |goto l=>⟨⟨#[103,111,116,111]⟩,0,0,0,lb p l⟩
 |label l=>⟨⟨#[108,97,98,101,108]⟩,0,0,0,lb p l⟩
 |alloc r=>⟨⟨#[97,108,108,111,99]⟩,r,0,0,no⟩
 |free r=>⟨⟨#[102,114,101,101]⟩,r,0,0,no⟩
 |need r=>⟨⟨#[110,101,101,100]⟩,r,0,0,no⟩
def gShow(f:Nat):GI:=if f=2 then .store 6 0 0 else .swap 0 6 0
def gFence(f:Nat):GI:=if f=2 then .force else .fence
def gJoin:List GI:=[.load 0 6 3, .same 0 6 3, .load 0 7 1, .label 4, .move 1 6, .store 6 6 3, .store 6 0 1, .cas 7 0 1, .load 1 6 1, .same 0 1 3, .goto 4, .label 3]
def gOuter(k:Nat)(op:GI):List GI:=[.load 0 6 k, .zero 0 2, .load 0 6 2, .const 1 1,op, .store 6 0 2, .goto 1, .label 2]
def gEnter(f:Nat):List GI:=if f=3 then [] else gOuter 0 (.add 0 0 1)++((if f=4 then gJoin else [])++[.load 0 7 0,gShow f, .label 1])
def gLeave(f:Nat):List GI:=if f=3 then [] else gOuter 2 (.sub 0 0 1)++[gShow f, .label 1]
def gRest(f:Nat):List GI:=if f=3 then [.zero 6 1, .load 0 6 0, .zero 0 1, .const 1 2, .add 0 0 1, .swap 0 6 0, .label 1] else []
def gGone(f:Nat):List GI:=if f=3 then [.zero 6 1, .const 0 0, .swap 0 6 0, .label 1] else []
def gWait(f:Nat):List GI:=
 if f=3 then [.zero 6 1, .const 0 0, .swap 0 6 0, .swap 0 6 3, .label 1, .fence, .move 2 7, .label 3, .load 2 2 1, .zero 2 2, .load 0 2 0, .zero 0 3, .move 1 0, .label 4, .load 0 2 0, .same 0 1 4, .goto 3, .label 2, .zero 6 5, .load 0 6 3, .zero 0 5, .const 1 2, .add 0 0 1, .swap 0 6 0, .label 5]
 else [gFence f, .move 2 7, .label 2, .load 2 2 1, .zero 2 1, .load 0 2 0, .zero 0 2, .const 1 2, .add 1 1 0, .cas 7 0 0, .const 0 2, .sub 1 1 0, .label 3]++((if f=2 then [.force] else [])++[.load 0 2 0, .same 0 1 3, .goto 2, .label 1])
def gCode(p:ByteArray)(l:List GI):List Ins:=l.map (GI.ins p)
end
section
open Go.RowKit Go.Extern.Stop Go.Stop Go.Extern Go.Maps Go.WideMaps Go.Sort
variable {Q:Exit->Act->World->Prop} {b:Nat} {ops:Array Oper} {rest:List Oper} {p:ByteArray} {L:List Ins} {w:World} {o:Oper} {a:Act} {f:Int} {k:Nat} {P:Program} {v:Value}
theorem wpListG_copy_cells(hgd:o.guard=none)(s x:Operand)(t elem:TypeId) 
  (ho:o.op= .call { callee:= .builtin .copy,args:=#[s,x],argTypes:=#[t,t] })
  (b off dLen dCap:Nat) (ad:Addr) (sLen sCap:Nat) (cs:List Value) (hs:a.eval s= .slice (some ⟨b,off,none⟩) dLen dCap) (hx:a.eval x= .slice (some ad) sLen sCap)
  (hu:P.underlying t=some (.slice elem)) (hz:(P.info? elem).map (·.size)=some 1) (hn:cs.length=Nat.min sLen dLen)
  (hsrc: ∀j v,cs[j]? =some v->w.cell? (ad.add j)=some v) (hc: ∀j,j<cs.length->(w.cell? ⟨b,off+j,none⟩).isSome=true) (hf: ∀j,j<cs.length->w.frozen? ⟨b,off+j,none⟩=false) (h1: ∀v∈cs,v.oneCell'=true)
  (h:wpList P ops Q rest (a.put o.dst (goInt cs.length)) (w.setCells b off cs)):wpList P ops Q (o::rest) a w:=by
 refine wpList_plain hgd fun K hK=>?_
 have hr:=run_copy_cells (P:=P) w t t o.type elem b off dLen dCap ad sLen sCap cs hu hz hn hsrc hc hf h1
 unfold Oper.wp execOp
 simp only[ho,resolve,invoke,builtin,Sem.run_bind,Sem.run_pure,Result.andThen_ok,List.map_toArray,List.map_cons,List.map_nil,hs,hx,hr]
 exact hK _ _ h
theorem wpListG_copy_none(hgd:o.guard=none)(s x:Operand)(t elem:TypeId) 
  (ho:o.op= .call { callee:= .builtin .copy,args:=#[s,x],argTypes:=#[t,t] })
  (d:Option Addr) (dLen dCap:Nat) (ad:Option Addr) (sCap:Nat) (hs:a.eval s= .slice d dLen dCap) (hx:a.eval x= .slice ad 0 sCap)
  (hu:P.underlying t=some (.slice elem)) (hz:(P.info? elem).map (·.size)=some 1)
  (h:wpList P ops Q rest (a.put o.dst (goInt 0)) w):wpList P ops Q (o::rest) a w:=by
 refine wpList_plain hgd fun K hK=>?_
 have hr:=run_copy_none (P:=P) w t t o.type elem d ad dLen dCap 0 sCap hu hz (by simp)
 unfold Oper.wp execOp
 simp only[ho,resolve,invoke,builtin,Sem.run_bind,Sem.run_pure,Result.andThen_ok,List.map_toArray,List.map_cons,List.map_nil,hs,hx,hr]
 exact hK _ _ h
theorem intOne:((Tryz.prog).info? 3).map (·.size)=some 1:=by kernel_rfl
def gcells(l:List Int):List Value:=l.map (Value.int .i64)
theorem wpList_copy_three {w0:World} (hgd:o.guard=none) (s x:Operand) 
  (ho:o.op= .call { callee:= .builtin .copy,args:=#[s,x],argTypes:=#[23,23] }) (nums:List Int) (hk:nums.length<=3) {x0 x1 x2:Int} (h0:nums.getD 0 0=x0) (h1:nums.getD 1 0=x1) (h2:nums.getD 2 0=x2) (ad:Option Addr) (cap:Nat)
  (hs:a.eval s= .slice (some ⟨w0.heap.size,0,none⟩) 3 3) (hx:a.eval x= .slice ad nums.length cap) (ha:numsAt ad nums w0)
  (h: ∀w1,Below w0.heap.size w0 w1->w1.heap.size=w0.heap.size+1->w1.cell? ⟨w0.heap.size,0,none⟩=some (.int .i64 x0)->w1.cell? ⟨w0.heap.size,1,none⟩=some (.int .i64 x1)->w1.cell? ⟨w0.heap.size,2,none⟩=some (.int .i64 x2)->wpList Tryz.prog ops Q rest (a.put o.dst (goInt nums.length)) w1):
  wpList Tryz.prog ops Q (o::rest) a (w0.alloc (.cells #[.int .i64 0, .int .i64 0, .int .i64 0] 305)):=by
 have hu:=Tryz.underlying23
 have hz:=intOne
 have hB:Below w0.heap.size w0 (w0.alloc (.cells #[.int .i64 0, .int .i64 0, .int .i64 0] 305)):=bRf.alloc nL _
 have hc0: ∀j,j<3->(w0.alloc (.cells #[.int .i64 0, .int .i64 0, .int .i64 0] 305)).cell? ⟨w0.heap.size,j,none⟩=some (.int .i64 0):=fun j hj=>by
  rw[World.cell?_alloc_new]
  match j,hj with
  |0,_=>rfl
  |1,_=>rfl
  |2,_=>rfl
 have hf0: ∀j,(w0.alloc (.cells #[.int .i64 0, .int .i64 0, .int .i64 0] 305)).frozen? ⟨w0.heap.size,j,none⟩=false:=fun j=>World.frozen?_alloc_new _ _ _ j
 have hsz:(w0.alloc (.cells #[.int .i64 0, .int .i64 0, .int .i64 0] 305)).heap.size=w0.heap.size+1:=by simp
 have hat:=ha.below (w:=w0) (bRf.alloc nL (.cells #[.int .i64 0, .int .i64 0, .int .i64 0] 305))
 generalize w0.alloc (.cells #[.int .i64 0, .int .i64 0, .int .i64 0] 305)=w2 at*
 cases nums with
 |nil=>exact wpListG_copy_none hgd s x 23 3 ho _ 3 3 ad cap hs hx hu hz (h w2 hB hsz (by rw[<-h0];exact hc0 0 (by omega)) (by rw[<-h1];exact hc0 1 (by omega)) (by rw[<-h2];exact hc0 2 (by omega)))
 | cons n ns=>
  obtain⟨b,off,rfl, -⟩:=hat 0 n rfl
  have hl:(gcells (n::ns)).length=(n::ns).length:=by simp[gcells]
  have hk:(n::ns).length<=3:=hk
  have hc1: ∀j,j<(gcells (n::ns)).length->(w2.cell? ⟨w0.heap.size,0+j,none⟩).isSome=true:=fun j hj=>by rw[Nat.zero_add,hc0 j (by omega)];rfl
  have hs2: ∀(vs:List Value) (o:Nat) (w:World),(w.setCells w0.heap.size o vs).heap.size=w.heap.size:=fun vs=>by
   induction vs with
   |nil=>intro o w;rfl
   |cons v vs ih=>intro o w;rw[World.setCells,ih];simp[World.setCell]
  refine wpListG_copy_cells hgd s x 23 3 ho w0.heap.size 0 3 3 ⟨b,off,none⟩ (n::ns).length cap (gcells (n::ns)) hs hx hu hz (by rw[hl];exact(Nat.min_eq_left hk).symm) (fun j v hj=>?_) hc1 (fun j hj=>?_) (fun v hv=>?_) ?_
  ·unfold gcells at hj
   rw[List.getElem?_map] at hj
   cases hn:(n::ns)[j]? with
   |none=>rw[hn] at hj;cases hj
   | some y=>
    rw[hn] at hj;cases hj
    obtain⟨b',off',e,hc⟩:=hat j y hn
    cases e
    rw[Addr.add_lit]
    exact hc
  ·rw[Nat.zero_add];exact hf0 j
  ·obtain⟨y, -,rfl⟩:=List.mem_map.1 hv;rfl
  ·rw [hl]
   have hb2: ∀(vs:List Value) (o:Nat) (w:World),Below w0.heap.size w0 w->Below w0.heap.size w0 (w.setCells w0.heap.size o vs):=fun vs=>by
    induction vs with
    |nil=>intro o w h;exact h
    |cons v vs ih=>intro o w h;rw[World.setCells];exact ih _ _ (h.setCell nL v)
   have key: ∀j,j<3->(w2.setCells w0.heap.size 0 (gcells (n::ns))).cell? ⟨w0.heap.size,j,none⟩=some (.int .i64 ((n::ns).getD j 0)):=fun j hj=>?_
   ·exact h _ (hb2 _ _ _ hB) (by rw[hs2];exact hsz) (by rw[<-h0];exact key 0 (by omega)) (by rw[<-h1];exact key 1 (by omega)) (by rw[<-h2];exact key 2 (by omega))
   by_cases hj2:j<(n::ns).length
   ·have:=World.cell?_setCells_in w0.heap.size (gcells (n::ns)) 0 w2 hc1 j (by rw[hl];exact hj2)
    rw[Nat.zero_add] at this
    rw[this]
    unfold gcells
    rw[List.getElem_map,List.getD_eq_getElem?_getD,List.getElem?_eq_getElem hj2];rfl
   ·rw[World.cell?_setCells_out _ _ _ _ _ (fun _ _=> .inr (by rw[hl];show 0+_<=j;omega)),hc0 j hj,List.getD_eq_getElem?_getD,List.getElem?_eq_none (by omega)]
    rfl
structure LnsAt(b:Nat)(f:Int)(p:ByteArray)(k:Nat)(v:Value)(L:List Ins)(w:World):Prop where
 c0:w.cell? ⟨b,0,none⟩=some (.int .i64 f)
 c1:w.cell? ⟨b,1,none⟩=some (.string p)
 c2:w.cell? ⟨b,2,none⟩=some (.int .i64 k)
 c3:w.cell? ⟨b,3,none⟩=some v
 fz: ∀o,w.frozen? ⟨b,o,none⟩=false
 own:insOwn w (b+1) v L
 sz:b+1<=w.heap.size
structure LStep(b:Nat)(w:World)(v:Value)(w':World)(v':Value):Prop where
 low:Below b w w'
 keep: ∀k,k<w.heap.size->k≠b->v.ownBlock≠some k->w'.heap[k]? =w.heap[k]?
 own: ∀k,k<w.heap.size->v'.ownBlock=some k->v.ownBlock=some k
theorem LStep.refl(b:Nat)(w:World)(v:Value):LStep b w v w v:=⟨Below.refl _ _,fun _ _ _ _=>rfl,fun _ _ h=>h⟩
theorem LStep.trans{w1 w2 w3:World}{v1 v2 v3:Value}(h:LStep b w1 v1 w2 v2)(g:LStep b w2 v2 w3 v3):LStep b w1 v1 w3 v3:=by
 have hs:=h.low.size
 refine⟨h.low.trans g.low,fun k hk h1 h2=>?_,fun k hk h1=>h.own k hk (g.own k (by omega) h1)⟩
 rw[g.keep k (by omega) h1 (fun e=>h2 (h.own k hk e))]
 exact h.keep k hk h1 h2
theorem LStep.of_below{w w':World}(v:Value)(h:Below w.heap.size w w')(hb:b<=w.heap.size):LStep b w v w' v:=⟨h.mono hb,fun k hk _ _=>h.block k hk,fun _ _ h=>h⟩
theorem LnsAt.below{w w':World}(h:LnsAt b f p k v L w)(g:Below w.heap.size w w'):LnsAt b f p k v L w':=
 ⟨keep_cell g h.c0,keep_cell g h.c1,keep_cell g h.c2,keep_cell g h.c3,fun o=>by rw[g.frozen (show b<_ from h.sz)];exact h.fz o,insOwn_keep h.own g,by have:=h.sz;have:=g.size;omega⟩
theorem lns_added{v v':Value}{w w2 w6:World}(h:LnsAt b f p k v L w)(hB:Below w.heap.size w w2)(x:Ins)(own6:w6.ownsRow (b+1) 57 5 v' (L.length+1) (icells L++icell x))(hg:w2.grownBy w6 v.ownBlock)(hat:v'.ownBlock=v.ownBlock∨v'.ownBlock=some w2.heap.size):
  LnsAt b f p k v' (L++[x]) (w6.setCell ⟨b,3,none⟩ v')/\LStep b w v (w6.setCell ⟨b,3,none⟩ v') v':=by
 have hr: ∀q,v.ownBlock=some q->b+1<=q/\q<w.heap.size:=fun q e=>h.own.lt q e
 have hs:=hB.size
 have sz:=h.sz
 have hg6:=hg.size
 have hb6:w6.heap[b]? =w2.heap[b]? :=hg.block b (by omega) (fun e=>by have:=(hr b e.symm).1;omega)
 have h2:=h.below hB
 have C: ∀o,w6.cell? ⟨b,o,none⟩=w2.cell? ⟨b,o,none⟩:=fun o=>World.cell?_of_block hb6
 have F: ∀o,w6.frozen? ⟨b,o,none⟩=w2.frozen? ⟨b,o,none⟩:=fun o=>World.frozen?_of_block hb6
 have q3:w6.cell? ⟨b,3,none⟩=some v:=(C 3).trans h2.c3
 refine⟨⟨cell_ne ((C 0).trans h2.c0) (.inr (by decide)),cell_ne ((C 1).trans h2.c1) (.inr (by decide)),cell_ne ((C 2).trans h2.c2) (.inr (by decide)),World.cell?_setCell_same _ _ _ q3,fun o=>by rw[World.frozen?_setCell,F];exact h2.fz o,?_,?_⟩,?_,?_,?_⟩
 ·unfold insOwn
  rw[List.length_append,icells_append]
  refine ownsRow_block (w:=w6) (by simpa [icells] using own6) fun q hq=>?_
  refine Below.heap_setCell _ _ _ _ fun e=>?_
  have:=(own6.lt q hq).1
  dsimp only at e
  omega
 ·have e:(w6.setCell ⟨b,3,none⟩ v').heap.size=w6.heap.size:=by simp[World.setCell]
  rw[e];omega
 ·have h7:Below b w w6:=(hB.mono (by omega)).grown hg (by omega) (fun q e=>by have:=(hr q e).1;omega)
  exact h7.setCell (show b<=b from Nat.le_refl _) v'
 ·intro q hq h1 h3
  rw[Below.heap_setCell _ _ _ _ (Ne.symm h1 |> fun e=>fun e2=>e (by simpa using e2.symm)),hg.block q (by omega) (fun e=>h3 e.symm)]
  exact hB.block q hq
 ·intro q hq e
  rcases hat with h4 |h4
  ·rw[<-h4];exact e
  ·rw[h4] at e;cases e;omega
theorem lines_to(h:LnsAt b f p k v L w)(hL:L.length<=1000)(to op:ByteArray)(ad:Option Addr)(nums:List Int)(ncap:Nat)(hk:nums.length<=3)(ha:numsAt ad nums w){x0 x1 x2:Int}(h0:nums.getD 0 0=x0)(h1:nums.getD 1 0=x1)(h2:nums.getD 2 0=x2):
  Calls Tryz.prog 181 #[.pointer (some ⟨b,1,none⟩), .string to, .string op, .slice ad nums.length ncap] w fun e w'=>e= .returned (.tuple #[])/\ ∃v',LnsAt b f p k v' (L++[⟨op,x0,x1,x2,to⟩]) w'/\LStep b w v w' v':=by
 have sz:=h.sz
 have hb:b<w.heap.size:=by omega
 obtain⟨ri,hri,hrz,hrs,hrb⟩:=instrInfo
 have hml:L.length+1<=maxLen:=by unfold maxLen;omega
 have hmb:(L.length+1)*56<=140737488355328:=by omega
 go_enter Tryz.func181,Tryz.ntmps181
 go_wp2_with (refine wpList_copy_three (by rfl) _ _ (by rfl) nums hk h0 h1 h2 ad ncap (by rfl) (by rfl) ha ?_)
 intro w1 hB1 hs1 n0 n1 n2
 have hh:=h.below hB1
 have HOWN:=hide h.own
 have HH:=hide h
 clear h0 h1 h2
 generalize hnb:w.heap.size=nb at*
 have HB1:=hide hB1
 clear ha hB1 h
 have H1:=hide hh
 have HR:Hid (∀q,v.ownBlock=some q->b+1<=q/\q<w.heap.size):=hide fun q e=>HOWN.out.lt q e
 clear HOWN
 rw[hnb] at HR
 obtain⟨c0,c1,c2,c3,fz,own,sz1⟩:=hh
 obtain⟨ad',cap',hvs, -, -, -⟩:=insAt_of_icells own
 subst hvs
 have f3:=fz 3
 have own':w1.ownsRow (b+1) 57 5 (.slice ad' L.length cap') L.length (icells L):=own
 have OWN:=hide own'
 clear c0 c1 c2 fz own own'
 go_wp2_with fail
 refine wp_region_F (S:=(fun w'=>w'.cell? ⟨b,3,none⟩=some (.slice ad' L.length cap')/\w'.cell? ⟨nb,0,none⟩=some (.int .i64 x0)/\w'.cell? ⟨nb,1,none⟩=some (.int .i64 x1)/\w'.cell? ⟨nb,2,none⟩=some (.int .i64 x2))) (by kernel_rfl) (by(try dsimp only);first |go_keep |(refine⟨?_,?_,?_,?_⟩ <;> assumption)) (fun hHeld=>?_)
 iterate 14
  refine' wpAnyF_next (sz:=19) (n:=18) (v:=_) rfl (by kernel_rfl) (fun _ _ _ h=>h) (by assumption) (Or.inl ⟨by rfl,?_⟩) ?_
  case' refine'_2=>(intro w' hSw;(try dsimp only at hSw);go_simp;try with_reducible rfl)
  try simp only[Act.put,fxs]
 refine wpAnyF_only (i:=14) rfl (by kernel_rfl) (fun K hK=>?_)
 go_simp
 have HB2:Hid (Below w.heap.size w ((w1.alloc (.cells #[.string op, .int .i64 x0, .int .i64 x1, .int .i64 x2, .string to] 57)).drew)):=hide (below_dN (below_step (by rw[hnb];exact HB1.out) (bRf.alloc nL _)) 1)
 have HS2:Hid (((w1.alloc (.cells #[.string op, .int .i64 x0, .int .i64 x1, .int .i64 x2, .string to] 57)).drew).heap.size=nb+2):=hide (by simp;omega)
 have HC2:Hid (∀(a:Addr) (u:Value),w1.cell? a=some u->((w1.alloc (.cells #[.string op, .int .i64 x0, .int .i64 x1, .int .i64 x2, .string to] 57)).drew).cell? a=some u):=hide fun a u hc=>keep_cell (below_dN (bRf.alloc nL _) 1) hc
 have HN2:Hid (∀j u,[Value.string op, .int .i64 x0, .int .i64 x1, .int .i64 x2, .string to][j]? =some u->((w1.alloc (.cells #[.string op, .int .i64 x0, .int .i64 x1, .int .i64 x2, .string to] 57)).drew).cell? ((⟨nb+1,0,none⟩:Addr).add j)=some u):=hide (by
  have:=World.news_of_block (cs:=#[.string op, .int .i64 x0, .int .i64 x1, .int .i64 x2, .string to]) (t:=57) (fr:=(0,0)) (heap_alloc_new w1 _)
  rw[hs1] at this
  exact this)
 have HO2:Hid (((w1.alloc (.cells #[.string op, .int .i64 x0, .int .i64 x1, .int .i64 x2, .string to] 57)).drew).ownsRow (b+1) 57 5 (.slice ad' L.length cap') L.length (icells L)):=hide ((OWN.out.alloc _).drew)
 generalize (w1.alloc (.cells #[.string op, .int .i64 x0, .int .i64 x1, .int .i64 x2, .string to] 57)).drew=w2 at*
 refine hK.out _ _ (Or.inr ⟨HC2.out _ _ c3,HC2.out _ _ n0,HC2.out _ _ n1,HC2.out _ _ n2⟩) ?_
 clear hK K
 try simp only[Act.put,fxs]
 have hs2:=HS2.out
 refine wpAnyF_only (i:=15) rfl (by kernel_rfl) (fun K hK=>?_)
 refine step_append_at _ (by rfl) _ _ _ (by rfl) (b+1) 57 ri _ 5 56 Tryz.underlying58 hri hrz hrs hrb rfl (by omega) (.slice ad' L.length cap') L.length (icells L) (by rfl) HO2.out ⟨nb+1,0,none⟩ 1 1 [.string op, .int .i64 x0, .int .i64 x1, .int .i64 x2, .string to] (by rfl) (by rfl) HN2.out (by intro u hu;simp at hu;rcases hu with rfl |rfl |rfl |rfl |rfl <;> rfl) hml hmb (by omega) ?_
 intro gg gcap w6 hown6 hgrow hat
 have HG6:Hid (∀(a:Addr) (u:Value),w2.cell? a=some u->(∀q,(Value.slice ad' L.length cap').ownBlock=some q->a.block≠q)->w6.cell? a=some u):=hide fun a u hc hne=>hgrow.cell hc (fun e=>hne _ e.symm rfl)
 have s3:=HG6.out _ _ (HC2.out _ _ c3) (fun q e=>by have:=HR.out q e;show b≠q;omega)
 have s0:=HG6.out _ _ (HC2.out _ _ n0) (fun q e=>by have:=HR.out q e;show nb≠q;omega)
 have s1:=HG6.out _ _ (HC2.out _ _ n1) (fun q e=>by have:=HR.out q e;show nb≠q;omega)
 have s2:=HG6.out _ _ (HC2.out _ _ n2) (fun q e=>by have:=HR.out q e;show nb≠q;omega)
 have HEND:=hide (lns_added HH.out HB2.out ⟨op,x0,x1,x2,to⟩ hown6 hgrow hat)
 have f6:w6.frozen? ⟨b,3,none⟩=false:=by have:=HEND.out.1.fz 3;rwa [World.frozen?_setCell] at this
 clear hown6 hgrow hat HG6 HO2 HN2 HC2 HB2 HB1 HR HH H1 OWN
 refine hK.out _ _ (Or.inr ⟨s3,s0,s1,s2⟩) ?_
 clear hK K hHeld c3 n0 n1 n2
 have hS6:w6.cell? ⟨b,3,none⟩=some (.slice ad' L.length cap')/\w6.cell? ⟨nb,0,none⟩=some (.int .i64 x0)/\w6.cell? ⟨nb,1,none⟩=some (.int .i64 x1)/\w6.cell? ⟨nb,2,none⟩=some (.int .i64 x2):=⟨s3,s0,s1,s2⟩
 try simp only[Act.put,fxs]
 refine' wpAnyF_take (i:=16) (n:=18) (v:=_) rfl (by kernel_rfl) (fun _ _ _ h=>h) (by assumption) (Or.inl ⟨by rfl,?hy15⟩) ?rest15
 case' hy15=>(intro w' hSw;(try dsimp only at hSw);go_simp;try with_reducible rfl)
 try simp only[Act.put,fxs]
 refine' wpAnyF_take (i:=17) (n:=18) (v:=_) rfl (by kernel_rfl) (fun _ _ _ h=>h) (by assumption) (Or.inl ⟨by rfl,?hy16⟩) ?rest16
 case' hy16=>(intro w' hSw;(try dsimp only at hSw);go_simp;try with_reducible rfl)
 try simp only[Act.put,fxs]
 refine wpAnyF_only (i:=18) rfl (by kernel_rfl) (fun K hK=>?_)
 go_simp
 refine hK.out _ _ (Or.inl (by kernel_rfl)) ?_
 clear hK K
 try simp only[Act.put,fxs]
 refine wpAnyF_done (by kernel_rfl) ?_ _
 go_wp2
 go_end0
 exact⟨rfl,_,HEND.out⟩
end
section
open Go.RowKit Go.Extern.Stop Go.Stop Go.Extern Go.Maps Go.WideMaps Go.Sort
variable {p:ByteArray} {v:Value} {w:World} {b:Nat} {f:Int} {L D:List Ins} {k k':Nat}
def Put(b:Nat)(f:Int)(p:ByteArray)(k':Nat)(v:Value)(L D:List Ins)(w:World):Ending->World->Prop:=fun e w'=>e= .returned (.tuple #[])/\ ∃v',LnsAt b f p k' v' (L++D) w'/\LStep b w v w' v'
theorem lines_do{k:Nat}{L:List Ins}(h:LnsAt b f p k v L w)(hL:L.length<=1000)(op:ByteArray)(ad:Option Addr)(nums:List Int)(ncap:Nat)(hk:nums.length<=3)(ha:numsAt ad nums w){x0 x1 x2:Int}(h0:nums.getD 0 0=x0)(h1:nums.getD 1 0=x1)(h2:nums.getD 2 0=x2):
  Calls Tryz.prog 112 #[.pointer (some ⟨b,1,none⟩), .string op, .slice ad nums.length ncap] w (Put b f p k v L [⟨op,x0,x1,x2,no⟩] w):=by
 unfold Put
 go_enter Tryz.func112,Tryz.ntmps112
 go_wp2_with (go_at_call 181;refine(lines_to h hL no op ad nums ncap hk ha h0 h1 h2).mono ?_;rintro e w' ⟨rfl,hp⟩)
 go_end0
 exact⟨rfl,hp⟩
theorem numsAt_none(w:World):numsAt none [] w:=fun i x h=>by simp at h
def Fn.goes(n:Nat):Prop:= ∀(args:Array Value) (w:World),Sem.run Tryz.prog (callFunc n args) w= .ok (.enter n args) w
def FreshIs(b:Nat)(f:Int)(p:ByteArray)(k:Nat):Prop:= ∀(v:Value) (L:List Ins) (w:World),LnsAt b f p k v L w->Calls Tryz.prog 227 #[.pointer (some ⟨b,1,none⟩)] w fun e w'=>e= .returned (.string (lb p (k+1)))/\LnsAt b f p (k+1) v L w'/\LStep b w v w' v
def lblI(q:ByteArray):Ins:=⟨⟨#[108,97,98,101,108]⟩,0,0,0,q⟩
theorem lines_block(h:LnsAt b f p k v L w)(hq:FreshIs b f p k) 
  (n:Nat) (hn:Fn.goes n) (caps:Array Value) (hL:(L++D).length<=1000)
  (hb: ∀w1,LnsAt b f p (k+1) v L w1->LStep b w v w1 v->Calls Tryz.prog n (#[.string (lb p (k+1))]++caps) w1 (Put b f p k' v L D w1)):
  Calls Tryz.prog 179 #[.pointer (some ⟨b,1,none⟩), .func (.func n) #[] caps] w (Put b f p k' v L (D++[lblI (lb p (k+1))]) w):=by
 have HQ:=hide (hq v L w h)
 have HB:=hide hb
 have HN:=hide hn
 clear hb hq hn h
 unfold Put
 generalize lb p (k+1)=q at*
 go_enter Tryz.func179,Tryz.ntmps179
 go_wp2_with (go_at_call 227;refine HQ.out.mono ?_;rintro e w1 ⟨rfl,h1,s1⟩)
 rw[HN.out,Oper.upon_enter]
 refine(HB.out w1 h1 s1).mono ?_
 rintro e w2 ⟨rfl,v2,h2,s2⟩
 dsimp only
 go_wp2_with (go_at_call 181;refine(lines_to h2 hL q ⟨#[108,97,98,101,108]⟩ none [] 0 (by decide) (numsAt_none _) rfl rfl rfl).mono ?_;rintro e w3 ⟨rfl,v3,h3,s3⟩)
 go_end0
 exact⟨rfl,v3,by rw[<-List.append_assoc];exact h3,(s1.trans s2).trans s3⟩
theorem lines_loop(h:LnsAt b f p k v L w)(hq:FreshIs b f p k) 
  (n:Nat) (hn:Fn.goes n) (caps:Array Value) (hL:L.length<=1000)
  (hb: ∀v1 w1,LnsAt b f p (k+1) v1 (L++[lblI (lb p (k+1))]) w1->LStep b w v w1 v1->Calls Tryz.prog n (#[.string (lb p (k+1))]++caps) w1 (Put b f p k' v1 (L++[lblI (lb p (k+1))]) D w1)):
  Calls Tryz.prog 189 #[.pointer (some ⟨b,1,none⟩), .func (.func n) #[] caps] w (Put b f p k' v L (lblI (lb p (k+1))::D) w):=by
 have HQ:=hide (hq v L w h)
 have HB:=hide hb
 have HN:=hide hn
 clear hb hq hn h
 unfold Put
 generalize lb p (k+1)=q at*
 go_enter Tryz.func189,Tryz.ntmps189
 go_wp2_with (first
  |(go_at_call 227;refine HQ.out.mono ?_;rintro e w1 ⟨rfl,h1,s1⟩)
  |(go_at_call 181;refine(lines_to h1 hL q ⟨#[108,97,98,101,108]⟩ none [] 0 (by decide) (numsAt_none _) rfl rfl rfl).mono ?_;rintro e w2 ⟨rfl,v2,h2,s2⟩))
 rw[HN.out,Oper.upon_enter]
 refine(HB.out v2 w2 h2 (s1.trans s2)).mono ?_
 rintro e w3 ⟨rfl,v3,h3,s3⟩
 dsimp only
 go_wp2
 go_end0
 exact⟨rfl,v3,by rw[List.append_assoc] at h3;exact h3,(s1.trans s2).trans s3⟩
end
end Go.Proofs.YtnoigmdmgdcliaaGreatDoor
