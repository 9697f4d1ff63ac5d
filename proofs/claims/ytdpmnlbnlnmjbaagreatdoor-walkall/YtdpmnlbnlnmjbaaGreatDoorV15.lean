import Derived.Test.YtdpmnlbnlnmjbaaGreatDoorV14
import Derived.Test.YtdpmnlbnlnmjbaaGreatDoorV09
import Derived.Test.YtdpmnlbnlnmjbaaGreatDoorV01
import Derived.Maps.AppendAt
import Derived.Laws.AppendOwnNone
import Derived.Test.YtdpmnlbnlnmjbaaGreatDoorV07
namespace Go.Proofs.YtdpmnlbnlnmjbaaGreatDoor
set_option maxRecDepth 100000
set_option maxHeartbeats 8000000
section
open Go.RowKit
theorem wd_zero:Wd 0:=⟨by decide,by decide⟩
theorem rowAt_wd{R:List (List Int)}{n:Nat}(h:rowsOk n R=true)(t r:Nat):Wd (rowAt R t r):=by
 unfold rowAt
 cases ht:R[t]? with
 | none=>
  have e:R.getD t []=[]:=by rw[List.getD_eq_getElem?_getD,ht];rfl
  rw[e];exact wd_zero
 | some row=>
  have e:R.getD t []=row:=by rw[List.getD_eq_getElem?_getD,ht];rfl
  rw[e]
  cases hr:row[r]? with
  |none=>rw[List.getD_eq_getElem?_getD,hr];exact wd_zero
  |some v=>rw[List.getD_eq_getElem?_getD,hr];exact(rowOk_at h ht).2 r v hr
theorem Sta.mach_ok{s:Sta}{n:Nat}(h:s.fits n=true)(h2:s.cells<=64)(hn:n<=6):MkOk n 1 (s.mach n):=by
 obtain⟨-,f2, -,f4⟩:=Sta.fits_of h
 refine⟨⟨fun t _ x hx=>?_,fun t _=>?_,fun c k=>?_,fun c=>?_,?_,hn⟩,rfl,fun t r=>rowAt_wd f4 t r,Nat.zero_le _,Nat.zero_le _,fun _=>Nat.zero_le _⟩
 ·exact absurd hx List.not_mem_nil
 ·exact Nat.zero_le _
 ·show Wd (if _ then rowAt s.init c k else 0)
  split
  ·exact rowAt_wd f2 c k
  ·exact wd_zero
 ·show(if c<s.init.length then 1 else 0)<=1
  split <;> decide
 ·show s.cells.toNat<=64
  omega
theorem Sta.fault_fits{s:Sta}{cs:List (List Ins)}(h:(s.fault cs).1=0):s.fits cs.length=true/\s.cells<=64/\cs.length<=6/\1<=s.cells:=by
 unfold Sta.fault at h
 split at h
 ·rename_i h0;exact⟨h0.2.2.2.2,h0.2.1,h0.2.2.2.1,h0.1⟩
 ·cases h
end
section
open Go.RowKit Go.Extern.Stop Go.Stop Go.Extern Go.Maps Go.WideMaps Go.Sort
theorem vast_any {s:Sta} {ai ar ad:Option Addr} {ci cr cap:Nat} {cs:List (List Ins)} {w:World} (hs:StaAt s ⟨ai,ci,ar,cr⟩ w) (hl:codesAt ad cs w) (hc:cs.length<=9223372036854775807) (hL: ∀(t:Nat) L,cs[t]? =some L->L.length<=9223372036854775807):
  Calls Tryz.prog 10 #[.agg #[.int .i64 s.cells, .slice ai s.init.length ci, .slice ar s.regs.length cr], .slice ad cs.length cap] w fun e w'=> ∃v:Int,Hid (v=0∨v=1)/\e= .returned (.int .i64 v)/\Below w.heap.size w w':=by
 obtain⟨w1,hw1⟩: ∃w1,w1=w.alloc (.cells #[.int .i64 s.cells, .slice ai s.init.length ci, .slice ar s.regs.length cr] 24):=⟨_,rfl⟩
 have b1:Below w.heap.size w w1:=by rw[hw1];exact bRf.alloc nL _
 have e1:w1.cell? ⟨w.heap.size,1,none⟩=some (.slice ai s.init.length ci):=by rw[hw1];simp
 have e2:w1.cell? ⟨w.heap.size,2,none⟩=some (.slice ar s.regs.length cr):=by rw[hw1];simp
 have HS:=hide (hs.below b1)
 have HL:=hide (hl.below b1)
 have HLen:=hide hL
 have li:=hs.li
 have lr:=hs.lr
 have lii:(s.init.length:Int)<=9223372036854775807:=by omega
 have lri:(s.regs.length:Int)<=9223372036854775807:=by omega
 have lci:(cs.length:Int)<=9223372036854775807:=by omega
 clear hs hl hL
 go_enter Tryz.func10,Tryz.ntmps10
 go_wp2_with fail
 rw[<-hw1]
 clear hw1
 go_loopw [5,6] (fun c x wr=> ∃j:Nat,j<=s.init.length/\x= .int .i64 j/\(∃v,c= .int .i64 v)/\wr=w1) (fun _ x _=>s.init.length - (intOf x).toNat)
 case atStart=>exact⟨0,Nat.zero_le _,rfl,⟨_,rfl⟩,rfl⟩
 case round =>
  obtain⟨j,hj,rfl,⟨v,rfl⟩,rfl⟩:=hrel
  by_cases hlt:j<s.init.length
  ·obtain⟨row,hrow⟩: ∃x,s.init[j]? =some x:=⟨_,List.getElem?_eq_getElem hlt⟩
   obtain⟨b,off,adr,capr,hq,c0,hcp, -⟩:=HS.out.init j row hrow
   obtain rfl:ai=some ⟨b,off,none⟩:=hq
   have ji:(j:Int)<s.init.length:=by omega
   clear hrow
   go_wp2
   go_roundw
   case rel=>exact⟨j+1,by omega,by go_num,⟨_,rfl⟩,by first |trivial |rfl⟩
   case measure=>simp[intOf];omega
  ·obtain rfl:j=s.init.length:=by omega
   go_wp2_with fail
   go_loopw [5,7] (fun c x wr'=> ∃j:Nat,j<=s.regs.length/\x= .int .i64 j/\(∃v,c= .int .i64 v)/\wr'=wr) (fun _ x _=>s.regs.length - (intOf x).toNat)
   case atStart=>exact⟨0,Nat.zero_le _,rfl,⟨_,rfl⟩,rfl⟩
   case round =>
    obtain⟨j,hj,rfl,⟨v,rfl⟩,rfl⟩:=hrel
    by_cases hlt:j<s.regs.length
    ·obtain⟨row,hrow⟩: ∃x,s.regs[j]? =some x:=⟨_,List.getElem?_eq_getElem hlt⟩
     obtain⟨b,off,adr,capr,hq,c0,hcp, -⟩:=HS.out.regs j row hrow
     obtain rfl:ar=some ⟨b,off,none⟩:=hq
     have ji:(j:Int)<s.regs.length:=by omega
     clear hrow
     go_wp2
     go_roundw
     case rel=>exact⟨j+1,by omega,by go_num,⟨_,rfl⟩,by first |trivial |rfl⟩
     case measure=>simp[intOf];omega
    ·obtain rfl:j=s.regs.length:=by omega
     go_wp2_with fail
     clear e1 e2 HS li lr lii lri
     generalize wr=wZ at*
     have H1:=hide (Below.refl wZ.heap.size wZ)
     go_loopw [5,8,9] (fun c x _ wr'=> ∃j:Nat,j<=cs.length/\x= .int .i64 j/\(∃v,c= .int .i64 v)/\Below wZ.heap.size wZ wr') (fun _ x _ _=>cs.length - (intOf x).toNat)
     case atStart=>exact⟨0,Nat.zero_le _,rfl,⟨_,rfl⟩,H1.out⟩
     case round=>
      obtain⟨j,hj,rfl,⟨v,rfl⟩,hB⟩:=hrel
      by_cases hlt:j<cs.length
      ·obtain ⟨L,hLj⟩: ∃x,cs[j]? =some x:=⟨_,List.getElem?_eq_getElem hlt⟩
       obtain⟨b,off,adl,capl,rfl,cW,hcp,hins, -⟩:=HL.out j L hLj
       have ji:(j:Int)<cs.length:=by omega
       have c0:=keep_cell hB cW
       have HI:=hide hins
       have hl1:=HLen.out j L hLj
       have hl2:(L.length:Int)<=9223372036854775807:=by omega
       have HB:=hide hB
       clear hLj hins hB
       go_wp2_with fail
       go_loopw [5,9] (fun c x wr'=> ∃k:Nat,k<=L.length/\x= .int .i64 k/\(∃v,c= .int .i64 v)/\Below wZ.heap.size wZ wr') (fun _ x _=>L.length - (intOf x).toNat)
       case atStart=>exact⟨0,Nat.zero_le _,rfl,⟨_,rfl⟩,HB.out⟩
       case round=>
        obtain⟨k,hk,rfl,⟨v,rfl⟩,hB2⟩:=hrel
        replace c0:=keep_cell hB2 cW
        have HB2:=hide hB2
        by_cases hkl:k<L.length
        ·obtain⟨x,hx⟩: ∃x,L[k]? =some x:=⟨_,List.getElem?_eq_getElem hkl⟩
         obtain⟨b2,off2,rfl,a0, -, -, -,a4⟩:=insAt_below HI.out hB2 k x hx
         have ki:(k:Int)<L.length:=by omega
         clear hx hB2
         go_wp2_with fail
         go_quiet (fail)
         have H5:=hide (below_dN HB2.out nq)
         go_wp2
         go_roundw
         case rel=>exact⟨k+1,by omega,by go_num,⟨_,rfl⟩,H5.out⟩
         case measure=>simp[intOf];omega
        ·obtain rfl:k=L.length:=by omega
         clear hB2
         go_wp2
         go_roundw
         case rel=>exact⟨j+1,by omega,by go_num,⟨_,rfl⟩,HB2.out⟩
         case measure=>simp[intOf];omega
      ·obtain rfl:j=cs.length:=by omega
       have HB:=hide (below_step b1 hB)
       clear hB HL HLen
       by_cases h6:600<v
       ·go_wp2
        go_ret
        exact⟨1,Or.inr rfl,rfl,HB.out⟩
       ·go_wp2
        go_ret
        exact⟨0,Or.inl rfl,rfl,HB.out⟩
end
section
open Go.RowKit Go.Extern.Stop Go.Stop Go.Extern Go.Maps Go.WideMaps Go.Sort
theorem startOf_any{s:Sta}{ai ar:Option Addr}{ci cr:Nat}(w:World):
  Calls Tryz.prog 12 #[.agg #[.int .i64 s.cells, .slice ai s.init.length ci, .slice ar s.regs.length cr]] w fun e w'=>e= .returned (.agg #[.int .i64 s.cells, .slice ai s.init.length ci, .slice ar s.regs.length cr])/\Below w.heap.size w w':=by
 go_enter Tryz.func12,Tryz.ntmps12
 go_wp2
 refine bodyPost_ret (v:= .agg #[.int .i64 s.cells, .slice ai s.init.length ci, .slice ar s.regs.length cr]) (by simp only[results,Tryz.results12];go_simp) rfl ⟨rfl,?_⟩
 exact(bRf.alloc nL _).alloc (by simp) _
end
section
open Go.RowKit Go.Extern.Stop Go.Stop Go.Extern Go.Maps Go.WideMaps Go.Sort
structure NumsX(ad:Option Addr)(l:List Int)(cap:Nat)(w:World):Prop where
 at':numsAt ad l w
 nil':ad=none->l=[]/\cap=0
 len:l.length<=9223372036854775807
end
section
open Go.ChangeShapes Go.WideShapes Go.ChangeAt Go.RowKit Go.Joins Go.Deep
variable {sp:Nat->Bool} {cs:List Value} {held:Bool} {fuel:Nat} {W:World} {H:Type}
theorem kcells_Instr:Tryz.prog.cellsOf 75=5:=by kernel_rfl
theorem kcells_s:Tryz.prog.cellsOf 9=1:=by kernel_rfl
theorem kcells_n:Tryz.prog.cellsOf 3=1:=by kernel_rfl
theorem kcells_ns:Tryz.prog.cellsOf 26=1:=by kernel_rfl
theorem kcells_is:Tryz.prog.cellsOf 55=1:=by kernel_rfl
theorem kin_of_trod {enc:TypeId×Value->H} {x:DataW H×List MemPlace} 
  (h:DataW.trod enc Tryz.prog W 0 sp held fuel 75 cs=some x): ∃y:Ins,cs=[.string y.op, .int .i64 y.a, .int .i64 y.b, .int .i64 y.c, .string y.to]/\y.to.size<=maxLen:=by
 obtain⟨xs,n,_,_,hl,hlen,hf⟩:=DataW.trod_struct Tryz.underlying75 h
 rw[kcells_Instr] at hl
 match cs,hl with
 | [c0,c1,c2,c3,c4],_=>
  match xs,hlen with
  | [x0,x1,x2,x3,x4],_=>
   have f0:DataW.trod enc Tryz.prog W 0 sp held n 9 [c0]=some x0:=by simpa [kcells_s] using hf 0 _ rfl
   have f1:DataW.trod enc Tryz.prog W 0 sp held n 3 [c1]=some x1:=by simpa [kcells_n] using hf 1 _ rfl
   have f2:DataW.trod enc Tryz.prog W 0 sp held n 3 [c2]=some x2:=by simpa [kcells_n] using hf 2 _ rfl
   have f3:DataW.trod enc Tryz.prog W 0 sp held n 3 [c3]=some x3:=by simpa [kcells_n] using hf 3 _ rfl
   have f4:DataW.trod enc Tryz.prog W 0 sp held n 9 [c4]=some x4:=by simpa [kcells_s] using hf 4 _ rfl
   obtain⟨s,e0,_,_⟩:=DataW.trod_string Tryz.underlying9 f0
   obtain⟨r1,e1,_,_⟩:=DataW.trod_int Tryz.underlying3 f1
   obtain⟨r2,e2,_,_⟩:=DataW.trod_int Tryz.underlying3 f2
   obtain⟨r3,e3,_,_⟩:=DataW.trod_int Tryz.underlying3 f3
   obtain⟨s4,e4,_,h4⟩:=DataW.trod_string Tryz.underlying9 f4
   refine⟨⟨s,r1,r2,r3,s4⟩,?_,h4⟩
   simp only[List.cons.injEq,and_true] at e0 e1 e2 e3 e4
   rw[e0,e1,e2,e3,e4]
theorem list_of_trod {enc:TypeId×Value->H} {x:DataW H×List MemPlace} {t e:TypeId} {α:Type} [Inhabited α] (F:α->List Value) (k:Nat) (hk:0<k) (Q:α->Prop) 
  (ht:Tryz.prog.underlying t=some (.slice e)) (hc:Tryz.prog.cellsOf e=k) (hF: ∀y,(F y).length=k)
  (hr: ∀(n:Nat) (cs:List Value) x,DataW.trod enc Tryz.prog W 0 sp held n e cs=some x-> ∃y,cs=F y/\Q y)
  (h:DataW.trod enc Tryz.prog W 0 sp held fuel t cs=some x):
  ∃(ad:Option Addr) (cap:Nat) (l:List α),cs=[.slice ad l.length cap]/\(∀(i:Nat) y,l[i]? =some y-> ∃b off,ad=some ⟨b,off,none⟩/\(∀j,j<k->W.cell? ⟨b,off+i*k+j,none⟩=(F y)[j]?)/\Q y)/\(ad=none->l=[]/\cap=0)/\l.length<=cap/\l.length<=maxLen:=by
 rcases open_slice ht h with⟨rfl,_⟩ |⟨a,len,cap,m,n,D,Pl,rfl,_,hl,hl2,hm,hx,hel⟩
 ·exact⟨none,0,[],rfl,fun i y hy=>by simp at hy,fun _=>⟨rfl,rfl⟩,Nat.zero_le _,Nat.zero_le _⟩
 ·have hm':len<=m:=by rw[hm];split <;> omega
  have hex: ∀i,i<len-> ∃y:α,(∀j,j<k->W.cell? ((a.add (i*k)).add j)=(F y)[j]?)/\Q y:=fun i hi=>by
   obtain⟨cs',h1,h2⟩:=hel i (by omega)
   rw[hc] at h1
   obtain⟨y,rfl,h3⟩:=hr _ _ _ h2
   exact⟨y,(cells_at h1).2,h3⟩
  obtain⟨f,hf⟩:=choose_lt (p:=fun i (y:α)=>(∀j,j<k->W.cell? ((a.add (i*k)).add j)=(F y)[j]?)/\Q y) (h:=hex)
  refine⟨some a,cap,(List.range len).map f,by simp,fun i y hy=>?_,fun h=>(by cases h),by simpa using hl,by simp;omega⟩
  have hi:i<len:=by
   have:=(List.getElem?_eq_some_iff.1 hy).1
   simpa using this
  obtain rfl:y=f i:=by
   rw[List.getElem?_map,List.getElem?_range hi] at hy
   simpa using hy.symm
  have h00:=(hf 0 (by omega)).1 0 hk
  obtain⟨v0,hv0⟩: ∃v,(F (f 0))[0]? =some v:=⟨_,List.getElem?_eq_getElem (by rw[hF];exact hk)⟩
  rw[hv0,Nat.zero_mul] at h00
  have hs:a.spot=none:=spot_none (a:=a) h00
  have e: ∀j,(a.add (i*k)).add j=⟨a.block,a.off+i*k+j,none⟩:=fun j=>by
   rw[add_plain a hs,add_plain _ rfl]
  refine⟨a.block,a.off,by obtain⟨b,o,sp⟩:=a;simp only at hs;subst hs;rfl,fun j hj=>?_,(hf i hi).2⟩
  have:=(hf i hi).1 j hj
  rw[e] at this
  exact this
theorem kint_of_trod{enc:TypeId×Value->H}{x:DataW H×List MemPlace} 
  (h:DataW.trod enc Tryz.prog W 0 sp held fuel 3 cs=some x): ∃y:Int,cs=[.int .i64 y]:=by
 obtain⟨r,e,_,_⟩:=DataW.trod_int Tryz.underlying3 h
 exact⟨r,e⟩
theorem nums_of_trod{enc:TypeId×Value->H}{x:DataW H×List MemPlace}(h:DataW.trod enc Tryz.prog W 0 sp held fuel 26 cs=some x):
  ∃(ad:Option Addr) (cap:Nat) (l:List Int),cs=[.slice ad l.length cap]/\NumsX ad l cap W/\l.length<=cap:=by
 obtain⟨ad,cap,l,h1,h2,h3,h4,h5⟩:=list_of_trod (fun y:Int=>[.int .i64 y]) 1 (by decide) (fun _=>True) Tryz.underlying26 kcells_n (fun _=>rfl) (fun n cs x h=>by obtain⟨y,e⟩:=kint_of_trod h;exact⟨y,e,trivial⟩) h
 refine⟨ad,cap,l,h1,⟨fun i y hy=>?_,h3,by have:l.length<=2 ^ 63 - 1:=h5;omega⟩,h4⟩
 obtain⟨b,off,e,hc, -⟩:=h2 i y hy
 have:=hc 0 (by decide)
 rw[Nat.mul_one,Nat.add_zero] at this
 exact⟨b,off,e,this⟩
structure RowV where
 ad:Option Addr
 cap:Nat
 l:List Int
instance:Inhabited RowV:=⟨⟨none,0,[]⟩⟩
theorem rows_of_trod{enc:TypeId×Value->H}{x:DataW H×List MemPlace}(h:DataW.trod enc Tryz.prog W 0 sp held fuel 22 cs=some x):
  ∃(ad:Option Addr) (cap:Nat) (R:List (List Int)),cs=[.slice ad R.length cap]/\rowsAt ad R W/\R.length<=cap/\R.length<=9223372036854775807/\ ∀(i:Nat) row,R[i]? =some row->row.length<=9223372036854775807:=by
 obtain⟨ad,cap,l,h1,h2,h3,h4,h5⟩:=list_of_trod (fun y:RowV=>[.slice y.ad y.l.length y.cap]) 1 (by decide) (fun y=>NumsX y.ad y.l y.cap W/\y.l.length<=y.cap) Tryz.underlying22 kcells_ns (fun _=>rfl) (fun n cs x h=>by obtain⟨ad,cap,l,e,h1,h2⟩:=nums_of_trod h;exact⟨⟨ad,cap,l⟩,e,h1,h2⟩) h
 have key: ∀(i:Nat) row,(l.map RowV.l)[i]? =some row-> ∃y,l[i]? =some y/\row=y.l:=fun i row hr=>by
  rw[List.getElem?_map] at hr
  cases hy:l[i]? with
  |none=>rw[hy] at hr;cases hr
  |some y=>rw[hy] at hr;cases hr;exact⟨y,rfl,rfl⟩
 refine⟨ad,cap,l.map RowV.l,by rw[List.length_map];exact h1,fun i row hr=>?_,by rw[List.length_map];exact h4,by rw[List.length_map];have:l.length<=2 ^ 63 - 1:=h5;omega,fun i row hr=>?_⟩
 ·obtain⟨y,hy,rfl⟩:=key i row hr
  obtain⟨b,off,e,hc,hn,hl⟩:=h2 i y hy
  have:=hc 0 (by decide)
  rw[Nat.mul_one,Nat.add_zero] at this
  exact⟨b,off,y.ad,y.cap,e,this,hl,hn.at'⟩
 ·obtain⟨y,hy,rfl⟩:=key i row hr
  obtain⟨_,_,_,_,hn,_⟩:=h2 i y hy
  exact hn.len
structure CodeV where
 ad:Option Addr
 cap:Nat
 l:List Ins
instance:Inhabited CodeV:=⟨⟨none,0,[]⟩⟩
instance:Inhabited Ins:=⟨⟨ByteArray.empty,0,0,0,ByteArray.empty⟩⟩
def CodeV.Ok(y:CodeV)(W:World):Prop:=insAt y.ad y.l W/\(y.ad=none->y.l=[])/\(∀(i:Nat) x,y.l[i]? =some x->x.to.size<=maxLen)/\y.l.length<=y.cap/\y.l.length<=9223372036854775807
theorem code_of_trod{enc:TypeId×Value->H}{x:DataW H×List MemPlace}(h:DataW.trod enc Tryz.prog W 0 sp held fuel 55 cs=some x):
  ∃y:CodeV,cs=[.slice y.ad y.l.length y.cap]/\y.Ok W:=by
 obtain⟨ad,cap,l,h1,h2,h3,h4,h5⟩:=list_of_trod (fun y:Ins=>[.string y.op, .int .i64 y.a, .int .i64 y.b, .int .i64 y.c, .string y.to]) 5 (by decide) (fun y=>y.to.size<=maxLen) Tryz.underlying55 kcells_Instr (fun _=>rfl) (fun n cs x h=>kin_of_trod h) h
 refine⟨⟨ad,cap,l⟩,h1,fun i x hx=>?_,fun e=>(h3 e).1,fun i x hx=>?_,h4,by have:l.length<=2 ^ 63 - 1:=h5;show l.length<=_;omega⟩
 ·obtain⟨b,off,e,hc, -⟩:=h2 i x hx
  exact⟨b,off,e,hc 0 (by decide),hc 1 (by decide),hc 2 (by decide),hc 3 (by decide),hc 4 (by decide)⟩
 ·obtain⟨_,_,_,_,hq⟩:=h2 i x hx
  exact hq
theorem codes_of_trod{enc:TypeId×Value->H}{x:DataW H×List MemPlace}(h:DataW.trod enc Tryz.prog W 0 sp held fuel 25 cs=some x):
  ∃(ad:Option Addr) (cap:Nat) (cl:List (List Ins)),cs=[.slice ad cl.length cap]/\codesAt ad cl W/\cl.length<=9223372036854775807/\(∀(t:Nat) L,cl[t]? =some L->L.length<=9223372036854775807)/\ ∀(t:Nat) L,cl[t]? =some L-> ∀(i:Nat) x,L[i]? =some x->x.to.size<=maxLen:=by
 obtain⟨ad,cap,l,h1,h2,h3,h4,h5⟩:=list_of_trod (fun y:CodeV=>[.slice y.ad y.l.length y.cap]) 1 (by decide) (fun y=>y.Ok W) Tryz.underlying25 kcells_is (fun _=>rfl) (fun n cs x h=>code_of_trod h) h
 have key: ∀(i:Nat) row,(l.map CodeV.l)[i]? =some row-> ∃y,l[i]? =some y/\row=y.l:=fun i row hr=>by
  rw[List.getElem?_map] at hr
  cases hy:l[i]? with
  |none=>rw[hy] at hr;cases hr
  |some y=>rw[hy] at hr;cases hr;exact⟨y,rfl,rfl⟩
 refine⟨ad,cap,l.map CodeV.l,by rw[List.length_map];exact h1,fun i row hr=>?_,by rw[List.length_map];have:l.length<=2 ^ 63 - 1:=h5;omega,fun i row hr=>?_,fun i row hr=>?_⟩
 ·obtain⟨y,hy,rfl⟩:=key i row hr
  obtain⟨b,off,e,hc,hq⟩:=h2 i y hy
  have:=hc 0 (by decide)
  rw[Nat.mul_one,Nat.add_zero] at this
  exact⟨b,off,y.ad,y.cap,e,this,hq.2.2.2.1,hq.1,hq.2.1⟩
 ·obtain⟨y,hy,rfl⟩:=key i row hr
  obtain⟨_,_,_,_,hq⟩:=h2 i y hy
  exact hq.2.2.2.2
 ·obtain⟨y,hy,rfl⟩:=key i row hr
  obtain⟨_,_,_,_,hq⟩:=h2 i y hy
  exact hq.2.2.1
end
section
open Go.RowKit
variable {r r':List Int} {m m':Mk} {s s':Ar}
def wordNums(s:Ar)(c:Nat):List Int:=if s.there c=true then [4,s.words c 0,s.words c 1,s.words c 2,s.words c 3] else [0]
theorem wordNums_len(s:Ar)(c:Nat):0<(wordNums s c).length/\(wordNums s c).length<=5:=by
 unfold wordNums
 split <;> simp
def arNums(s:Ar):Nat->Nat->List Int
 |0,_=>[]
 |n+1,c=>(s.given c:Int)::if s.given c=0 then [] else wordNums s c++arNums s n (c+1)
theorem arNums_len (s:Ar): ∀(n c:Nat),(arNums s n c).length<=6*n
 |0,_=>Nat.zero_le _
 | n+1,c=>by
  unfold arNums
  rw[List.length_cons]
  split
  ·simp;omega
  ·have:=arNums_len s n (c+1)
   have:=(wordNums_len s c).2
   rw[List.length_append];omega
def wtNums(x:Wt):List Int:=[x.c,x.g,x.w,x.v]
def lnNums(l:List Wt):List Int:=(l.length:Int)::l.flatMap wtNums
theorem wts_len(l:List Wt):(l.flatMap wtNums).length=4*l.length:=by
 induction l with
 |nil=>rfl
 |cons x l ih=>rw[List.flatMap_cons,List.length_append,ih,List.length_cons];show 4+_=_;omega
theorem lnNums_len(l:List Wt):(lnNums l).length=4*l.length+1:=by
 unfold lnNums
 rw[List.length_cons,wts_len]
def linesNums(s:Rm):Nat->List Int
 |0=>[]
 |n+1=>linesNums s n++lnNums (s.waits n)
def memNums(s:Rm):List Int:=arNums s.ar s.ar.size 0++linesNums s s.threads
def thrNums(m:Mk)(t:Nat):List Int:=[m.regs t 0,m.regs t 1,m.regs t 2,m.regs t 3,m.regs t 4,m.regs t 5,m.regs t 6,m.regs t 7]++[(m.pc t:Int)]
def thrsNums(m:Mk):Nat->List Int
 |0=>[]
 |n+1=>thrsNums m n++thrNums m n
def mkNums(n:Nat)(m:Mk):List Int:=memNums m.mem++thrsNums m n
def cellsLike(s s':Ar)(c:Nat):Prop:=s.given c=s'.given c/\s.there c=s'.there c/\(s.there c=true-> ∀k,k<4->s.words c k=s'.words c k)
theorem wordNums_like{c:Nat}(h:wordNums s c++r=wordNums s' c++r'):s.there c=s'.there c/\(s.there c=true-> ∀k,k<4->s.words c k=s'.words c k)/\r=r':=by
 unfold wordNums at h
 cases h1:s.there c <;> cases h2:s'.there c <;> rw[h1,h2] at h
 ·simp at h
  exact⟨rfl,fun e=>(by cases e),h⟩
 ·simp at h
 ·simp at h
 ·simp at h
  obtain⟨a0,a1,a2,a3,a4⟩:=h
  refine⟨rfl,fun _ k hk=>?_,a4⟩
  match k,hk with
  |0,_=>exact a0
  |1,_=>exact a1
  |2,_=>exact a2
  |3,_=>exact a3
def GivenOk(s:Ar):Prop:= ∀c d,c<s.size->c<=d->d<s.size->s.given c=0->s.given d=0/\s.there d=false
theorem arNums_like (hz:s.size=s'.size) (h1:GivenOk s) (h2:GivenOk s'): ∀(n c:Nat) (r r':List Int),c+n=s.size->arNums s n c++r=arNums s' n c++r'->(∀d,c<=d->d<s.size->cellsLike s s' d)/\r=r'
 |0,c,r,r',hc,h=>⟨fun d hd hd'=>absurd hd' (by omega),h⟩
 | n+1,c,r,r',hc,h=>by
  unfold arNums at h
  rw[List.cons_append,List.cons_append] at h
  have hg:s.given c=s'.given c:=by have:=(List.cons.inj h).1;omega
  have ht:=(List.cons.inj h).2
  by_cases h0:s.given c=0
  ·rw[if_pos h0,if_pos (by rw[<-hg];exact h0)] at ht
   refine⟨fun d hd hd'=>?_,by simpa using ht⟩
   obtain⟨g1,g2⟩:=h1 c d (by omega) hd hd' h0
   obtain⟨g3,g4⟩:=h2 c d (by omega) hd (by omega) (by rw[<-hg];exact h0)
   exact⟨by rw[g1,g3],by rw[g2,g4],fun e=>by rw[g2] at e;cases e⟩
  ·rw[if_neg h0,if_neg (by rw[<-hg];exact h0),List.append_assoc,List.append_assoc] at ht
   obtain⟨w1,w2,w3⟩:=wordNums_like ht
   obtain⟨q1,q2⟩:=arNums_like hz h1 h2 n (c+1) r r' (by omega) w3
   refine⟨fun d hd hd'=>?_,q2⟩
   by_cases e:d=c
   ·subst e;exact⟨hg,w1,w2⟩
   ·exact q1 d (by omega) hd'
theorem wts_like: ∀(l l':List Wt) (r r':List Int),l.length=l'.length->l.flatMap wtNums++r=l'.flatMap wtNums++r'->l=l'/\r=r'
 | [],[],r,r',_,h=>⟨rfl,h⟩
 | [],_::_,_,_,e,_=>by cases e
 |_::_,[],_,_,e,_=>by cases e
 | x::l,y::l',r,r',e,h=>by
  rw[List.flatMap_cons,List.flatMap_cons,List.append_assoc,List.append_assoc] at h
  simp[wtNums] at h
  obtain⟨a0,a1,a2,a3,a4⟩:=h
  obtain⟨b1,b2⟩:=wts_like l l' r r' (by simpa using e) (by simpa [wtNums] using a4)
  refine⟨?_,b2⟩
  rw[b1]
  obtain⟨xc,xg,xw,xv⟩:=x
  obtain⟨yc,yg,yw,yv⟩:=y
  simp at a0 a1 a2 a3
  rw[a0,a1,a2,a3]
theorem lnNums_like{l l':List Wt}(h:lnNums l++r=lnNums l'++r'):l=l'/\r=r':=by
 unfold lnNums at h
 rw[List.cons_append,List.cons_append] at h
 have h1:l.length=l'.length:=by have:=(List.cons.inj h).1;omega
 exact wts_like l l' r r' h1 (List.cons.inj h).2
theorem linesNums_like {s s':Rm}: ∀(n:Nat) (r r':List Int),linesNums s n++r=linesNums s' n++r'->(∀t,t<n->s.waits t=s'.waits t)/\r=r':=by
 have key: ∀(n k:Nat) (r r':List Int),(List.range' k n).flatMap (fun t=>lnNums (s.waits t))++r=(List.range' k n).flatMap (fun t=>lnNums (s'.waits t))++r'->(∀t,k<=t->t<k+n->s.waits t=s'.waits t)/\r=r':=by
  intro n
  induction n with
  |zero=>intro k r r' h;exact⟨fun t h1 h2=>absurd h2 (by omega),by simpa using h⟩
  | succ n ih=>
   intro k r r' h
   rw[List.range'_succ,List.flatMap_cons,List.flatMap_cons,List.append_assoc,List.append_assoc] at h
   obtain⟨h1,h2⟩:=lnNums_like h
   obtain⟨h3,h4⟩:=ih (k+1) r r' h2
   refine⟨fun t q1 q2=>?_,h4⟩
   by_cases e:t=k
   ·rw[e];exact h1
   ·exact h3 t (by omega) (by omega)
 have eq: ∀(s:Rm) (n:Nat),linesNums s n=(List.range' 0 n).flatMap (fun t=>lnNums (s.waits t)):=by
  intro s n
  induction n with
  |zero=>rfl
  | succ n ih=>
   show linesNums s n++lnNums (s.waits n)=_
   rw[ih,List.range'_concat,List.flatMap_append]
   simp
 intro n r r' h
 rw[eq,eq] at h
 obtain⟨h1,h2⟩:=key n 0 r r' h
 exact⟨fun t ht=>h1 t (Nat.zero_le _) (by omega),h2⟩
theorem thrNums_like{t:Nat}(h:thrNums m t++r=thrNums m' t++r'):(∀k,k<8->m.regs t k=m'.regs t k)/\m.pc t=m'.pc t/\r=r':=by
 unfold thrNums at h
 simp at h
 obtain⟨a0,a1,a2,a3,a4,a5,a6,a7,a8,a9⟩:=h
 refine⟨fun k hk=>?_,by omega,a9⟩
 match k,hk with
 |0,_=>exact a0
 |1,_=>exact a1
 |2,_=>exact a2
 |3,_=>exact a3
 |4,_=>exact a4
 |5,_=>exact a5
 |6,_=>exact a6
 |7,_=>exact a7
theorem thrsNums_like: ∀(n:Nat),thrsNums m n=thrsNums m' n-> ∀t,t<n->(∀k,k<8->m.regs t k=m'.regs t k)/\m.pc t=m'.pc t:=by
 intro n
 induction n with
 |zero=>intro _ t ht;exact absurd ht (by omega)
 | succ n ih=>
  intro h t ht
  have h':thrsNums m n++thrNums m n=thrsNums m' n++thrNums m' n:=h
  have hl:(thrNums m n).length=(thrNums m' n).length:=rfl
  obtain⟨h1,h2⟩:=List.append_inj' h' hl
  by_cases e:t=n
  ·subst e
   obtain⟨q1,q2, -⟩:=thrNums_like (r:=[]) (r':=[]) (by simpa using h2)
   exact⟨q1,q2⟩
  ·exact ih h1 t (by omega)
structure Alike(n:Nat)(m m':Mk):Prop where
 cells: ∀c,c<m.mem.ar.size->cellsLike m.mem.ar m'.mem.ar c
 waits: ∀t,t<n->m.mem.waits t=m'.mem.waits t
 regs: ∀t,t<n-> ∀k,k<8->m.regs t k=m'.regs t k
 pcs: ∀t,t<n->m.pc t=m'.pc t
theorem mkNums_alike{n:Nat}(hz:m.mem.ar.size=m'.mem.ar.size)(ht:m.mem.threads=n)(ht':m'.mem.threads=n)(h1:GivenOk m.mem.ar)(h2:GivenOk m'.mem.ar)(h:mkNums n m=mkNums n m'):Alike n m m':=by
 unfold mkNums memNums at h
 rw[List.append_assoc,List.append_assoc,ht,ht', <-hz] at h
 obtain⟨a1,a2⟩:=arNums_like hz h1 h2 m.mem.ar.size 0 _ _ (by omega) h
 obtain⟨b1,b2⟩:=linesNums_like n _ _ a2
 have c1:=thrsNums_like n b2
 exact⟨fun c hc=>a1 c (Nat.zero_le _) hc,b1,fun t ht=>(c1 t ht).1,fun t ht=>(c1 t ht).2⟩
end
end Go.Proofs.YtdpmnlbnlnmjbaaGreatDoor
