import Derived.Test.YtnoigmdmgdcliaaGreatDoorA29
import Derived.Test.YtnoigmdmgdcliaaGreatDoorA27
import Derived.KernelRfl
import Derived.Test.YtnoigmdmgdcliaaGreatDoorA28
import Derived.Test.YtnoigmdmgdcliaaGreatDoorA19
namespace Go.Proofs.YtnoigmdmgdcliaaGreatDoor
set_option maxRecDepth 100000
set_option maxHeartbeats 8000000
section
open Go.RowKit Go.Extern.Stop Go.Stop Go.Extern Go.Maps Go.WideMaps Go.Sort
variable {v:Int}
def seConst(v:Int):Ins:=⟨⟨#[99,111,110,115,116]⟩,1,v,0,⟨#[]⟩⟩
def seStore:Ins:=⟨⟨#[115,116,111,114,101]⟩,6,1,0,⟨#[]⟩⟩
def seFence:Ins:=⟨⟨#[102,101,110,99,101]⟩,0,0,0,⟨#[]⟩⟩
def seLoad:Ins:=⟨⟨#[108,111,97,100]⟩,0,7,0,⟨#[]⟩⟩
def seCode(fe:Bool)(v:Int):List Ins:=match fe with
 |true=>[seConst v,seStore,seFence,seLoad]
 |false=>[seConst v,seStore,seLoad]
def seCodes(fe:Bool)(v:Int):List (List Ins):=[seCode fe v,seCode fe v]
def seSta:Sta:=⟨2,[[0],[0]],[[0,0,0,0,0,0,1,2],[0,0,0,0,0,0,2,1]]⟩
theorem seConst_good (L:List Ins) (i:Nat) (hv:0<=v/\v<4294967296):insGood L i (seConst v)=true:=by
 have e:insGood L i (seConst v)=(shapeGood (seConst v) [114,118]&&true):=by kernel_rfl
 rw[e,Bool.and_true]
 unfold shapeGood
 rw[Bool.and_eq_true,List.all_eq_true]
 refine⟨?_,fun k hk=>?_⟩
 ·kernel_rfl
 ·rw [List.mem_range] at hk
  match k,hk with
  |0,_=>show _=true;kernel_rfl
  | 1,_=>
   show(if 1<cnt ⟨[114,118].toArray⟩ [114,118].length then decide (0<=v/\v<mostOf (byteAt ⟨[114,118].toArray⟩ 1)) else decide (v=0))=true
   rw[if_pos (by decide+kernel),show mostOf (byteAt ⟨[114,118].toArray⟩ 1)=4294967296 from by decide+kernel]
   exact decide_eq_true hv
  |2,_=>show _=true;kernel_rfl
theorem seGood(fe:Bool)(hv:0<=v/\v<4294967296):codeFault (seCode fe v)=(0, -1):=by
 refine codeGood_is ?_
 unfold codeGood
 rw[Bool.and_eq_true,List.all_eq_true]
 cases fe with
 | true=>
  refine⟨by kernel_rfl,fun i hi=>?_⟩
  rw[List.mem_range] at hi
  have hi:i<4:=hi
  match i,hi with
  |0,_=>exact seConst_good _ _ hv
  |1,_=>show _=true;kernel_rfl
  |2,_=>show _=true;kernel_rfl
  |3,_=>show _=true;kernel_rfl
 | false=>
  refine⟨by kernel_rfl,fun i hi=>?_⟩
  rw[List.mem_range] at hi
  have hi:i<3:=hi
  match i,hi with
  |0,_=>exact seConst_good _ _ hv
  |1,_=>show _=true;kernel_rfl
  |2,_=>show _=true;kernel_rfl
theorem seFault(fe:Bool)(hv:0<=v/\v<4294967296):(seSta.fault (seCodes fe v)).1=0:=by
 unfold Sta.fault
 rw[if_pos ⟨by decide,by decide,by show 1<=2;decide,by show 2<=6;decide,by show seSta.fits 2=true;decide⟩,codesFrom_none _ 0 fun t L ht=>?_]
 match t,ht with
 |0,ht=>cases ht;rw[seGood fe hv]
 |1,ht=>cases ht;rw[seGood fe hv]
end
section
open Go.RowKit
variable {cs:List (List Ins)} {m:Mk} {mo:Int} {S:Sp}
theorem bytes_eq{a b:ByteArray}:(a.toList==b.toList)=true↔a=b:=by
 constructor
 ·intro h
  have h:=beq_iff_eq.1 h
  rw[toList_bl,toList_bl] at h
  exact bl_inj h
 ·rintro rfl
  exact beq_self_eq_true _
theorem keyIn_map{E:List (ByteArray×ByteArray×Int)}{k:ByteArray}:keyIn E k=true↔k∈E.map (·.1):=by
 unfold keyIn
 rw[List.any_eq_true,List.mem_map]
 constructor
 ·rintro⟨x,h1,h2⟩
  exact⟨x,h1,bytes_eq.1 h2⟩
 ·rintro⟨x,h1,h2⟩
  exact⟨x,h1,bytes_eq.2 h2⟩
structure Sl where
 R:List Mk
 ms:List Mk
def numsGood(n:Nat)(m:Mk):Bool:=(mkNums n m).all fun x=>decide (0<=x)
def addL(cs:List (List Ins))(T:Sl)(m:Mk):Sl:=if(T.R.any fun x=>decide (mkNums cs.length x=mkNums cs.length m))=true then T else⟨T.R++[m],T.ms++[m]⟩
def spreadL(cs:List (List Ins))(m:Mk):Nat->Nat->Sl->Option Sl
 |0,_,T=>some T
 | k+1,n,T=>
  if okN (m.turnO cs n).1=0 then spreadL cs m k (n+1) T
  else if 0<(m.turnO cs n).2.faults then none
  else if numsGood cs.length (m.turnO cs n).2=true then spreadL cs m k (n+1) (addL cs T (m.turnO cs n).2)
  else none
def searchL (cs:List (List Ins)) (N:Nat):Nat->Sl->Option (List Mk)
 | 0,T=>match T.ms with
  | []=>some T.R
  |_::_=>none
 | f+1,T=>match T.ms with
  | []=>some T.R
  | m::l=>match spreadL cs m N 0 ⟨T.R,l⟩ with
   |some T'=>searchL cs N f T'
   |none=>none
structure Sm(cs:List (List Ins))(S:Sp)(T:Sl):Prop where
 keys:S.E.map (·.1)=T.R.map (keyOf cs.length)
 ms:S.ms=T.ms
 sl:S.L=T.R
 s:S.s=T.R.length
 good: ∀m∈T.R,numsGood cs.length m=true
theorem numsGood_is{n:Nat}(h:numsGood n m=true): ∀x∈mkNums n m,0<=x:=fun x hx=>of_decide_eq_true (List.all_eq_true.1 h x hx)
theorem Sm.len{T:Sl}(h:Sm cs S T):S.E.length=T.R.length:=by
 have:=congrArg List.length h.keys
 rwa [List.length_map,List.length_map] at this
theorem Sm.seen{T:Sl}(h:Sm cs S T)(hm:numsGood cs.length m=true):keyIn S.E (keyOf cs.length m)=(T.R.any fun x=>decide (mkNums cs.length x=mkNums cs.length m)):=by
 rw[Bool.eq_iff_iff,keyIn_map,h.keys,List.mem_map,List.any_eq_true]
 constructor
 ·rintro⟨x,h1,h2⟩
  exact⟨x,h1,decide_eq_true (keyOf_inj (numsGood_is (h.good x h1)) (numsGood_is hm) h2)⟩
 ·rintro⟨x,h1,h2⟩
  refine⟨x,h1,?_⟩
  unfold keyOf
  rw[of_decide_eq_true h2]
theorem addL_len(cs:List (List Ins))(T:Sl)(m:Mk):T.R.length<=(addL cs T m).R.length:=by
 unfold addL
 split
 ·exact Nat.le_refl _
 ·show _<=(T.R++[m]).length
  rw[List.length_append];omega
theorem spreadL_len: ∀(k n:Nat) {T T':Sl},spreadL cs m k n T=some T'->T.R.length<=T'.R.length
 |0,_,T,T',h=>by cases h;exact Nat.le_refl _
 | k +1,n,T,T',h=>by
  unfold spreadL at h
  split at h
  ·exact spreadL_len k (n+1) h
  ·split at h
   ·cases h
   ·split at h
    ·exact Nat.le_trans (addL_len cs T _) (spreadL_len k (n+1) h)
    ·cases h
theorem searchL_len {N:Nat}: ∀(f:Nat) {T:Sl} {R:List Mk},searchL cs N f T=some R->T.R.length<=R.length
 | 0,T,R,h=>by
  unfold searchL at h
  split at h
  ·cases h;exact Nat.le_refl _
  ·cases h
 | f +1,T,R,h=>by
  unfold searchL at h
  split at h
  ·cases h;exact Nat.le_refl _
  ·split at h
   ·rename_i hs
    have h1:=spreadL_len _ _ hs
    exact Nat.le_trans h1 (searchL_len f h)
   ·cases h
theorem Sm.add {T:Sl} (h:Sm cs S T) (hm:numsGood cs.length m=true) (hl:((addL cs T m).R.length:Int)<=mo) (x:ByteArray×Int): ∃S',addSp cs mo S m x=some S'/\Sm cs S' (addL cs T m):=by
 have hs:=h.seen hm
 unfold addSp
 cases hc:T.R.any fun x=>decide (mkNums cs.length x=mkNums cs.length m) with
 | true=>
  rw[hc] at hs
  rw[hs,if_pos rfl]
  have e:addL cs T m=T:=by unfold addL;rw[hc,if_pos rfl]
  exact⟨S,rfl,by rw[e];exact h⟩
 | false =>
  rw[hc] at hs
  have e:addL cs T m=⟨T.R++[m],T.ms++[m]⟩:=by unfold addL;rw[hc,if_neg (by decide)]
  rw[e] at hl ⊢
  have hl:((T.R++[m]).length:Int)<=mo:=hl
  rw[List.length_append,List.length_singleton] at hl
  rw[hs,if_neg (by decide),if_neg (by have:=h.len;omega)]
  refine⟨_,rfl,?_,?_,?_,?_,fun y hy=>?_⟩
  ·show(S.E++[(keyOf cs.length m,x)]).map (·.1)=(T.R++[m]).map (keyOf cs.length)
   rw[List.map_append,List.map_append,h.keys];rfl
  ·show S.ms++[m]=T.ms++[m]
   rw[h.ms]
  ·show S.L++[m]=T.R++[m]
   rw[h.sl]
  ·show S.s+1=((T.R++[m]).length:Int)
   rw[h.s,List.length_append]
   rfl
  ·rcases List.mem_append.1 hy with hy |hy
   ·exact h.good y hy
   ·obtain rfl:y=m:=by simpa using hy
    exact hm
theorem spreadL_ok: ∀(k n:Nat) {S:Sp} {T T':Sl},Sm cs S T->spreadL cs m k n T=some T'->(T'.R.length:Int)<=mo-> ∃S',spreadO cs mo m k n S=(.go,S')/\Sm cs S' T'
 |0,_,S,T,T',h,e,_=>by cases e;exact⟨S,rfl,h⟩
 | k +1,n,S,T,T',h,e,hl=>by
  unfold spreadL at e
  by_cases h0:okN (m.turnO cs n).1=0
  ·rw[if_pos h0] at e
   rw[spreadO_err h0]
   exact spreadL_ok k (n+1) h e hl
  ·rw [if_neg h0] at e
   by_cases hf:0<(m.turnO cs n).2.faults
   ·rw[if_pos hf] at e;cases e
   ·rw [if_neg hf] at e
    cases hg:numsGood cs.length (m.turnO cs n).2 with
    |false=>rw[hg,if_neg (by decide)] at e;cases e
    | true=>
     rw[hg,if_pos rfl] at e
     have h1:=spreadL_len k (n+1) e
     obtain⟨S1,e1,s1⟩:=h.add (mo:=mo) hg (by omega) (keyOf cs.length m,(n:Int))
     rw[spreadO_add h0 hf,e1]
     exact spreadL_ok k (n+1) s1 e hl
theorem searchL_ok {N:Nat}: ∀(f f':Nat) {S:Sp} {T:Sl} {R:List Mk},Sm cs S T->searchL cs N f T=some R->(R.length:Int)<=mo-> ∃S',searchO cs mo N f' S=(.go,S')/\(S'.ms=[]->S'.L=R/\S'.s=R.length)
 | f,0,S,T,R,h,e,_=>by
  refine⟨S,rfl,fun hm=>?_⟩
  rw[h.ms] at hm
  have e2:searchL cs N f T=some T.R:=by cases f <;> (unfold searchL;rw[hm])
  rw[e2] at e
  cases e
  exact⟨h.sl,h.s⟩
 | f, f'+1,S,T,R,h,e,hl=>by
  cases hm:T.ms with
  | nil=>
   have e2:searchL cs N f T=some T.R:=by cases f <;> (unfold searchL;rw[hm])
   rw[e2] at e
   cases e
   refine⟨S,?_,fun _=>⟨h.sl,h.s⟩⟩
   unfold searchO
   rw[h.ms,hm]
  | cons m l=>
   cases f with
   |zero=>unfold searchL at e;rw[hm] at e;cases e
   | succ f=>
    unfold searchL at e
    rw[hm] at e
    dsimp only at e
    cases hs:spreadL cs m N 0 ⟨T.R,l⟩ with
    |none=>rw[hs] at e;cases e
    | some T'=>
     rw[hs] at e
     have h1:=searchL_len f e
     obtain⟨S1,e1,s1⟩:=spreadL_ok (mo:=mo) N 0 (S:={ S with ms:=l }) (T:=⟨T.R,l⟩) ⟨h.keys,rfl,h.sl,h.s,h.good⟩ hs (by omega)
     rw[searchO_cons (by rw[h.ms];exact hm),e1]
     exact searchL_ok f f' s1 e hl
theorem first_sm{m0:Mk}(h:numsGood cs.length m0=true):Sm cs (firstS cs m0) ⟨[m0],[m0]⟩:=⟨rfl,rfl,rfl,rfl,fun m hm=>by
 obtain rfl:m=m0:=by simpa using hm
 exact h⟩
end
section
open Go.RowKit
def litEnds:Bool->List (List Int)
 |true=>[[0,1],[1,1],[1,0]]
 |false=>[[0,0],[0,1],[1,0],[1,1]]
theorem lit_some(fe:Bool):(match searchL (seCodes fe 1) 4 60 ⟨[seSta.mach 2],[seSta.mach 2]⟩ with
 |some R=>decide (R.length<=100)&&decide (endRows (seCodes fe 1) 0 R=litEnds fe)
 |none=>false)=true:=by
 cases fe
 ·decide+kernel
 ·decide+kernel
end
section
open Go.RowKit Go.Extern.Stop Go.Stop Go.Extern Go.Maps Go.WideMaps Go.Sort
variable {w:World} {g:Nat} {w0 W:World} {blk:Nat}
theorem list_rv: ∀(rows:List (List Int)) (us:List Value),us.length=rows.length->(∀(i:Nat) row,rows[i]? =some row-> ∃x:RowV w g,x.row=row/\us[i]? =some x.enc)-> ∃l:List (RowV w g),l.map (·.row)=rows/\l.map RowV.enc=us
 | [],us,hl,_=>⟨[],rfl,by rw[show us=[] from List.length_eq_zero_iff.1 hl];rfl⟩
 | r ::rows,us,hl,h=>by
  cases us with
  |nil=>simp at hl
  | cons u us=>
   obtain⟨x,h1,h2⟩:=h 0 r rfl
   obtain ⟨l,g1,g2⟩:=list_rv rows us (by simpa using hl) (fun i row hi=>by
    obtain⟨y,k1,k2⟩:=h (i+1) row (by simpa using hi)
    exact⟨y,k1,by simpa using k2⟩)
   have e:u=x.enc:=by simpa using h2
   exact⟨x::l,by rw[List.map_cons,h1,g1],by rw[List.map_cons,e,g2]⟩
theorem RwAt.sorts {base:Nat} {rows:List (List Int)} {v:Value} {us:List Value} (h:RwAt base rows v us w) (h0:0<rows.length) (hf: ∀row∈rows,row.length<=1000000): ∃g cap,v= .slice (some ⟨g,0,none⟩) rows.length cap/\base<=g/\g<w.heap.size/\ ∃l:List (RowV w g),l.map (·.row)=rows/\Holds RowV.enc w g 0 l.toArray:=by
 obtain⟨ad,cp,ev, -, -,hcells⟩:=ownsRow_shape h.own
 rcases h.own with⟨hlen,⟨-,e0⟩ |⟨g,cap,cur,hv,hb,hh, -⟩⟩
 ·omega
 ·have hg:g<w.heap.size:=lt_of_block hh
  refine⟨g,cap,hv,hb,hg,?_⟩
  obtain ⟨l,h1,h2⟩:=list_rv (w:=w) (g:=g) rows us h.len (fun i row hi=>by
   obtain⟨u,g1,g2,g3⟩:=h.el i row hi
   obtain⟨ad,cp,eu, -,hat⟩:=numsOwn_at g2
   refine⟨⟨ad,cp,row,fun j x hx=>?_,hf row (List.mem_of_getElem? hi)⟩,rfl,by rw[g1,eu];rfl⟩
   obtain⟨b,off,e,hcell⟩:=hat j x hx
   refine⟨b,off,e,fun eb=>g3 b ?_ ?_,hcell⟩
   ·rw[eu,e];rfl
   ·rw[hv,eb];rfl)
  refine⟨l,h1,fun j hj=>?_⟩
  have hj':j<l.length:=by simpa using hj
  have hu:us[j]? =some (l[j]).enc:=by rw[<-h2,List.getElem?_map,List.getElem?_eq_getElem hj'];rfl
  have el:l.toArray[j]! =l[j]:=by simp[hj']
  obtain⟨g',eg,hc⟩:=hcells j _ hu
  rw[hv] at ev
  cases ev
  cases eg
  rw[el,Nat.zero_add]
  refine⟨hc,?_⟩
  unfold World.frozen?
  rw[hh]
  rfl
theorem sw_turns{dk:Array (RowV w0 blk)}(h:Go.Proofs.SW RowV.enc w0 blk 0 dk W):Turns (fun k _=>k=blk) w0 W:=by
 obtain⟨n,os,rfl⟩:=h
 refine Turns.of_grown ⟨rfl,rfl,rfl,by unfold Go.Proofs.sortWorld;simp[grow,putRow,mapBlock,Sort.ahead],fun k hk hne=>?_⟩
 unfold Go.Proofs.sortWorld
 rw[heap_grow_old _ _ (by simpa using hk)]
 have:blk≠k:=fun e=>hne (by rw[e])
 simp[putRow,mapBlock,Sort.ahead,Array.getElem?_modify,this]
theorem sw_rows{d0 dk:Array (RowV w0 blk)}(h:Go.Proofs.SW RowV.enc w0 blk 0 dk W)(hb:blk<w0.heap.size)(h0:Holds RowV.enc w0 blk 0 d0)(hs:dk.size=d0.size){D:List (RowV w0 blk)}(hD:dk=D.toArray):rwsAt (some ⟨blk,0,none⟩) (D.map (·.row)) W:=fun i row hi=>by
 have hH:=h.holds hb h0 hs
 have t:=sw_turns h
 rw[List.getElem?_map] at hi
 cases hx:D[i]? with
 |none=>rw[hx] at hi;cases hi
 | some x=>
  rw[hx] at hi
  obtain rfl:x.row=row:=by simpa using hi
  obtain⟨hil,hxe⟩:=List.getElem?_eq_some_iff.1 hx
  have hc:=(hH i (by rw[hD];simpa using hil)).1
  rw[hD,show D.toArray[i]! =x by simp[hil,hxe]] at hc
  refine⟨blk,0,x.ad,x.cap,rfl,hc,fun j v hv=>?_⟩
  obtain⟨b,off,e,hne,hcell⟩:=x.at' j v hv
  exact⟨b,off,e,t.keep hcell hne⟩
def litSorted:Bool->List (List Int)
 |true=>[[0,1],[1,0],[1,1]]
 |false=>[[0,0],[0,1],[1,0],[1,1]]
theorem lt_rv{x y:RowV w g}{l m:List Int}(hx:x.row=l)(hy:y.row=m):Go.Proofs.ltOf rvCmp x y=decide (cmpL l m<0):=by
 unfold Go.Proofs.ltOf rvCmp
 rw[hx,hy]
theorem lit_sort (fe:Bool) {l:List (RowV w g)} (h:l.map (·.row)=litEnds fe): ∃D:List (RowV w g),Sort.insertionSort (Go.Proofs.ltOf rvCmp) l.toArray 0 l.toArray.size=D.toArray/\D.map (·.row)=litSorted fe/\D.length=l.length:=by
 cases fe with
 | true =>
  have hl:l.length=3:=by
   have:=congrArg List.length h
   rwa [List.length_map] at this
  match l,hl with
  | [x0,x1,x2],_=>
   simp only[litEnds,List.map_cons,List.map_nil,List.cons.injEq,and_true] at h
   obtain⟨h0,h1,h2⟩:=h
   refine⟨[x0,x2,x1],?_,by simp only[List.map_cons,List.map_nil,h0,h1,h2];rfl,rfl⟩
   show Sort.insertionSort (Go.Proofs.ltOf rvCmp) #[x0,x1,x2] 0 3=#[x0,x2,x1]
   have a10:Go.Proofs.ltOf rvCmp (#[x0,x1,x2]:Array (RowV w g))[1]! (#[x0,x1,x2]:Array (RowV w g))[1 - 1]! =false:=(lt_rv (x:=x1) (y:=x0) h1 h0).trans (by decide)
   have a21:Go.Proofs.ltOf rvCmp (#[x0,x1,x2]:Array (RowV w g))[2]! (#[x0,x1,x2]:Array (RowV w g))[2 - 1]! =true:=(lt_rv (x:=x2) (y:=x1) h2 h1).trans (by decide)
   have a20:Go.Proofs.ltOf rvCmp (#[x0,x2,x1]:Array (RowV w g))[1]! (#[x0,x2,x1]:Array (RowV w g))[1 - 1]! =false:=(lt_rv (x:=x2) (y:=x0) h2 h0).trans (by decide)
   unfold Sort.insertionSort
   rw [insOuter_go _ _ _ _ _ (by decide),insInner_stop _ _ _ _ (.inr a10),insOuter_go _ _ _ _ _ (by decide),insInner_go _ _ _ _ (by decide) a21,
    show swp (#[x0,x1,x2]:Array (RowV w g)) (0+1+1) (0+1+1 - 1)=#[x0,x2,x1] from rfl,insInner_stop _ _ _ _ (.inr a20),insOuter_stop _ _ _ _ _ (by decide)]
 | false=>
  have hl:l.length=4:=by
   have:=congrArg List.length h
   rwa [List.length_map] at this
  match l,hl with
  | [x0,x1,x2,x3],_=>
   simp only[litEnds,List.map_cons,List.map_nil,List.cons.injEq,and_true] at h
   obtain⟨h0,h1,h2,h3⟩:=h
   refine⟨[x0,x1,x2,x3],?_,by simp only[List.map_cons,List.map_nil,h0,h1,h2,h3];rfl,rfl⟩
   show Sort.insertionSort (Go.Proofs.ltOf rvCmp) #[x0,x1,x2,x3] 0 4=#[x0,x1,x2,x3]
   have a10:Go.Proofs.ltOf rvCmp (#[x0,x1,x2,x3]:Array (RowV w g))[1]! (#[x0,x1,x2,x3]:Array (RowV w g))[1 - 1]! =false:=(lt_rv (x:=x1) (y:=x0) h1 h0).trans (by decide)
   have a21:Go.Proofs.ltOf rvCmp (#[x0,x1,x2,x3]:Array (RowV w g))[2]! (#[x0,x1,x2,x3]:Array (RowV w g))[2 - 1]! =false:=(lt_rv (x:=x2) (y:=x1) h2 h1).trans (by decide)
   have a32:Go.Proofs.ltOf rvCmp (#[x0,x1,x2,x3]:Array (RowV w g))[3]! (#[x0,x1,x2,x3]:Array (RowV w g))[3 - 1]! =false:=(lt_rv (x:=x3) (y:=x2) h3 h2).trans (by decide)
   unfold Sort.insertionSort
   rw[insOuter_go _ _ _ _ _ (by decide),insInner_stop _ _ _ _ (.inr a10),insOuter_go _ _ _ _ _ (by decide),insInner_stop _ _ _ _ (.inr a21),insOuter_go _ _ _ _ _ (by decide),insInner_stop _ _ _ _ (.inr a32),insOuter_stop _ _ _ _ _ (by decide)]
theorem lit_see {a:Nat->Addr} {fe:Bool} {w w':World} {e:Ending} {se:Seer} {X0:Nat->Prop} (h:SeePost a (seCodes fe 1) (seSta.mach 2) 2000 se X0 w e w'):
  Turns (fun k _=>X0 k) w w'/\ ∃s en X R,endRows (seCodes fe 1) 0 R=litEnds fe/\se.I X R w'/\(∀k,X k->X0 k∨w.heap.size<=k)/\e= .returned (.tuple #[toldV s en false (.slice none 0 0), .nilIface]):=by
 obtain⟨ht,f,S,⟨X,hi,hx⟩,hres⟩:=h
 refine⟨ht,?_⟩
 have hl:=lit_some fe
 have hg:numsGood (seCodes fe 1).length (seSta.mach 2)=true:=by cases fe <;> decide+kernel
 cases hs:searchL (seCodes fe 1) 4 60 ⟨[seSta.mach 2],[seSta.mach 2]⟩ with
 |none=>rw[hs] at hl;cases hl
 | some R=>
  rw[hs] at hl
  simp only[Bool.and_eq_true,decide_eq_true_eq] at hl
  obtain⟨S',g1,g2⟩:=searchL_ok (mo:=2000) 60 f (first_sm hg) hs (by omega)
  have hN:2*(seCodes fe 1).length=4:=rfl
  rw[hN] at hres
  rcases hres with⟨r1,r2,r3⟩ |⟨r1, -⟩ |⟨x,l,r1, -⟩
  ·rw[r1] at g1
   cases g1
   rw[(g2 r2).1] at hi
   exact⟨_,_,X,R,hl.2,hi,hx,r3⟩
  ·rw[r1] at g1;cases g1
  ·rw[r1] at g1;cases g1
end
end Go.Proofs.YtnoigmdmgdcliaaGreatDoor
