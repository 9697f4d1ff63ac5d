import Derived.Test.YtdpmnlbnlnmjbaaGreatDoorV07
import Derived.Test.YtdpmnlbnlnmjbaaGreatDoorV24
import Derived.Test.YtdpmnlbnlnmjbaaGreatDoorV08
import Derived.Test.YtdpmnlbnlnmjbaaGreatDoorV13
import Derived.Test.YtdpmnlbnlnmjbaaGreatDoorV15
import Derived.Deep.Cut
import Derived.Test.YtdpmnlbnlnmjbaaGreatDoorV19
import Derived.Test.YtdpmnlbnlnmjbaaGreatDoorV14
namespace Go.Proofs.YtdpmnlbnlnmjbaaGreatDoor
set_option maxRecDepth 100000
set_option maxHeartbeats 8000000
section
open Go.RowKit
variable {L:List Ins}
def labelAtB(l:List Ins)(to:List UInt8):Option Nat:=l.findIdx? (fun x=>(bl x.op==[108,97,98,101,108])&&(bl x.to==to))
theorem labelAt_B(l:List Ins)(to:ByteArray):labelAt l to=match labelAtB l (bl to) with
  |some j=>(j:Int)
  |none=> -1:=by
 unfold labelAt labelAtB
 rw[show(fun x=>setsLabel x to)=(fun x=>(bl x.op==[108,97,98,101,108])&&(bl x.to==bl to)) from funext fun x=>by unfold setsLabel;rw[toList_bl,toList_bl,toList_bl]]
 rfl
def nameB(l:List UInt8):Bool:=decide (1<=l.length)&&(decide (l.length<=12)&&(List.range l.length).all fun j=>nameOk j (l.getD j 0).toNat)
theorem nameB_is{s:ByteArray}(h:nameB (bl s)=true):isName s:=by
 unfold nameB at h
 simp only[Bool.and_eq_true,decide_eq_true_eq,List.all_eq_true,List.mem_range] at h
 obtain⟨h1,h2,h3⟩:=h
 have hz:s.size=(bl s).length:=size_bl s
 refine⟨by omega,by omega,fun j hj=>?_⟩
 have:=h3 j (by omega)
 rw[List.getD_eq_getElem?_getD,List.getElem?_eq_getElem (by omega)] at this
 exact this
def shapeGood(x:Ins)(l:List UInt8):Bool:=
 ((lab ⟨l.toArray⟩ l.length ||(bl x.to==[]))&&(!(lab ⟨l.toArray⟩ l.length) ||nameB (bl x.to)))&&
 (List.range 3).all fun k=>if k<cnt ⟨l.toArray⟩ l.length then decide (0<=x.n k/\x.n k<mostOf (byteAt ⟨l.toArray⟩ k)) else decide (x.n k=0)
def insGood(L:List Ins)(i:Nat)(x:Ins):Bool:=match shape (bl x.op) with
 |none=>false
 |some l=>shapeGood x l&&((!(bl x.op==[108,97,98,101,108]) ||labelAtB L (bl x.to)==some i)&&((bl x.to==[]) ||(labelAtB L (bl x.to)).isSome))
theorem insGood_is {i:Nat} {x:Ins} (h:insGood L i x=true):insFault L i x=0:=by
 unfold insGood at h
 cases hs:shape (bl x.op) with
 |none=>rw[hs] at h;cases h
 | some l=>
  rw[hs] at h
  simp only[Bool.and_eq_true] at h
  obtain⟨h1,h2,h3⟩:=h
  unfold shapeGood at h1
  simp only[Bool.and_eq_true,List.all_eq_true,List.mem_range] at h1
  obtain⟨⟨g1,g2⟩,g3⟩:=h1
  have hsz:(⟨l.toArray⟩:ByteArray).size=l.length:=by simp[ByteArray.size]
  have he:insErr x=0:=by
   unfold insErr
   rw[toList_bl,hs]
   show insBad x ⟨l.toArray⟩=0
   unfold insBad
   rw[hsz,if_neg,if_neg,if_neg,if_neg]
   ·rintro⟨e1,e2⟩
    rw[e1] at g2
    exact e2 (nameB_is (by simpa using g2))
   ·rintro⟨k,hk,e⟩
    have:=cnt_le ⟨l.toArray⟩ l.length
    have hl:=shape_le hs
    have g:=g3 k (by omega)
    rw[if_pos hk] at g
    exact e (by simpa using g)
   ·rintro⟨k,hk,hk3,e⟩
    have g:=g3 k hk3
    rw[if_neg (by omega)] at g
    exact e (by simpa using g)
   ·rintro⟨e1,e2⟩
    rw[e1,Bool.false_or] at g1
    rw[toList_bl] at e2
    exact e2 (by simpa using g1)
  unfold insFault
  rw[if_neg (by rw[he];simp),if_neg,if_neg]
  ·rintro⟨e1,e2⟩
   rw[toList_bl] at e1
   rw[e1,Bool.false_or] at h3
   rw[labelAt_B] at e2
   cases hb:labelAtB L (bl x.to) with
   |none=>rw[hb] at h3;cases h3
   |some j=>rw[hb] at e2;exact absurd e2 (by simp)
  ·rintro⟨e1,e2⟩
   rw[toList_bl] at e1
   rw[e1,Bool.not_true,Bool.false_or] at h2
   rw[labelAt_B,show labelAtB L (bl x.to)=some i by simpa using h2] at e2
   exact e2 rfl
def codeGood(L:List Ins):Bool:=decide (L.length<=2000)&&(List.range L.length).all fun i=>match L[i]? with
 |none=>true
 |some x=>insGood L i x
theorem faultFrom_good: ∀(r:List Ins) (j:Nat),(∀(k:Nat) x,r[k]? =some x->insFault L (j+k) x=0)->faultFrom L j r=(0, -1)
 | [],_,_=>rfl
 | y::r,j,h=>by
  unfold faultFrom
  rw[if_pos (by simpa using h 0 y rfl)]
  exact faultFrom_good r (j+1) (fun k x hx=>by rw[show j+1+k=j+(k+1) by omega];exact h (k+1) x (by simpa using hx))
theorem codeGood_is(h:codeGood L=true):codeFault L=(0, -1):=by
 unfold codeGood at h
 simp only[Bool.and_eq_true,decide_eq_true_eq,List.all_eq_true,List.mem_range] at h
 obtain⟨h1,h2⟩:=h
 unfold codeFault
 rw[if_neg (by omega)]
 refine faultFrom_good L 0 fun k x hx=>insGood_is ?_
 have:=h2 k (List.getElem?_eq_some_iff.1 hx).1
 rw[hx] at this
 rw[Nat.zero_add];exact this
end
section
open Go.RowKit Go.Extern.Stop Go.Stop Go.Extern Go.Maps Go.WideMaps Go.Sort
variable {cs:List (List Ins)}
def restTo(cs:List (List Ins))(m:Mk)(n:Nat):Bool:=(List.range n).all fun t=>doneAt (cs.getD t []) (m.pc t)&&(m.mem.waits t).isEmpty
theorem restTo_succ(cs:List (List Ins))(m:Mk)(n:Nat):restTo cs m (n+1)=(restTo cs m n&&(doneAt (cs.getD n []) (m.pc n)&&(m.mem.waits n).isEmpty)):=by
 unfold restTo
 rw[List.range_succ,List.all_append]
 simp
theorem restTo_no{m:Mk}{n t:Nat}(ht:t<n)(h:(doneAt (cs.getD t []) (m.pc t)&&(m.mem.waits t).isEmpty)=false):restTo cs m n=false:=by
 unfold restTo
 cases hb:(List.range n).all fun t=>doneAt (cs.getD t []) (m.pc t)&&(m.mem.waits t).isEmpty with
 |false=>rfl
 | true=>
  have:=List.all_eq_true.1 hb t (List.mem_range.2 ht)
  rw[h] at this;cases this
theorem rrest_any {p:RkPl} {m:Mk} {w:World} (h:RkAt cs p m w):
  Calls Tryz.prog 66 #[.pointer (some ⟨p.k,0,none⟩)] w fun e w'=>e= .returned (.bool (restTo cs m cs.length))/\Below w.heap.size w w':=by
 have HH:=hide h
 have h6:=h.few
 clear h
 go_enter Tryz.func66,Tryz.ntmps66
 go_wp2_with fail
 go_loopw [3,4] (fun i _ wr=> ∃j:Nat,j<=cs.length/\i= .int .i64 j/\Hid (restTo cs m j=true)/\Below w.heap.size w wr) (fun i _ _=>cs.length - (intOf i).toNat)
 case atStart=>exact⟨0,Nat.zero_le _,rfl,rfl,Below.refl _ _⟩
 case round=>
  obtain⟨j,hj,rfl,HR,HB⟩:=hrel
  have hr:=HH.out.below HB
  have hT:=hr.mT
  by_cases hlt:j<cs.length
  ·have ji:(j:Int)<cs.length:=by omega
   obtain⟨L,hL⟩: ∃L,cs[j]? =some L:=⟨_,List.getElem?_eq_getElem hlt⟩
   have hd:cs.getD j []=L:=by rw[List.getD_eq_getElem?_getD,hL];rfl
   have HD:=hide (rdone_any hL hr)
   have HS:=hide (restTo_succ cs m j)
   have HN:=hide (fun e=>restTo_no (cs:=cs) (m:=m) hlt e)
   rw[hd] at HS HN
   have HQ:=hide hr
   clear hr hd hL
   cases hdd:doneAt L (m.pc j)
   ·rw[hdd] at HD HN
    have HF:=hide (HN.out rfl)
    clear HN HS hdd
    go_wp2_with fail
    refine HD.out.mono ?_
    rintro e w1 ⟨rfl,hb1⟩
    have HB1:=below_step HB hb1
    clear HB hb1 HD HQ
    go_wp2_with fail
    go_ret
    exact⟨by rw[HF.out];rfl,HB1⟩
   ·rw [hdd] at HD HN HS
    clear hdd
    go_wp2_with fail
    refine HD.out.mono ?_
    rintro e w1 ⟨rfl,hb1⟩
    have HB1:=below_step HB hb1
    have hq:=HQ.out.below hb1
    have hM:=hq.mM
    have hWs:=hq.mem.mWaits
    have htc:=hq.mem.tcap
    have hthr:=hq.thr
    obtain⟨hv,hown⟩:=hq.mem.waits j (by rw[hthr];exact hlt)
    obtain⟨adv,cpv,hvs, -, -, -⟩:=ownsRow_shape hown
    rw[hvs] at hv
    rw[hthr] at hWs htc
    have jt:(j:Int)<p.rp.tcap:=by omega
    clear HB hb1 HD HQ hq hown hvs hthr
    cases hl:m.mem.waits j with
    | nil=>
     rw[hl] at hv HS
     have HS2:Hid (restTo cs m (j+1)=true):=hide (by rw[HS.out,HR.out];rfl)
     clear HS HN HR hl
     go_wp2_with fail
     go_roundw
     case rel=>exact⟨j+1,by omega,by go_num,HS2,HB1⟩
     case measure=>simp[intOf];omega
    | cons x l=>
     rw[hl] at hv HN
     have HF:=hide (HN.out rfl)
     have hlen:0<(((x::l).length:Nat):Int):=by rw[List.length_cons];omega
     generalize (x::l).length=len at*
     clear HS HN HR hl
     go_wp2_with fail
     go_ret
     exact⟨by rw[HF.out];rfl,HB1⟩
  ·obtain rfl:j=cs.length:=by omega
   clear hr
   go_wp2
   go_ret
   exact⟨by rw[HR.out];rfl,HB⟩
end
section
open Go.RowKit Go.Extern.Stop Go.Stop Go.Extern Go.Maps Go.WideMaps Go.Sort
variable {cs:List (List Ins)} {L:List (Mk×List Int)} {j:Nat} {m:Mk}
theorem rest_end(cs:List (List Ins))(m:Mk)(n:Nat):restTo cs m n=endTo cs m n:=rfl
def OfPost(cs:List (List Ins))(m0:Mk)(M base:Nat)(e:Ending)(w':World):Prop:=
 ∃ T,(walkR cs M (2*cs.length) (M+2) 0 (firstR cs m0)=(.go,T)/\e= .returned (.tuple #[.agg #[.int .i64 T.L.length, .int .i64 T.e, .bool false, .slice none 0 0], .bool true]))∨
  (walkR cs M (2*cs.length) (M+2) 0 (firstR cs m0)=(.more,T)/\e= .returned (.tuple #[.agg #[.int .i64 0, .int .i64 0, .bool false, .slice none 0 0], .bool false]))∨
  (∃wy u,walkR cs M (2*cs.length) (M+2) 0 (firstR cs m0)=(.fault wy,T)/\numsOwn w' base u wy/\e= .returned (.tuple #[.agg #[.int .i64 T.L.length, .int .i64 T.e, .bool true,u], .bool true]))
theorem spotInfo: ∃i,Tryz.prog.info? 143=some i/\i.zero=some (.agg #[.pointer none, .slice none 0 0])/\i.size=2/\i.bytes=32:=by
 obtain⟨i,hi,h1⟩:=Option.map_eq_some_iff.1 (show(Tryz.prog.info? 143).map (·.zero)=some (some (.agg #[.pointer none, .slice none 0 0])) by kernel_rfl)
 obtain⟨j,hj,h2⟩:=Option.map_eq_some_iff.1 (show(Tryz.prog.info? 143).map (·.size)=some 2 by kernel_rfl)
 obtain⟨k,hk,h3⟩:=Option.map_eq_some_iff.1 (show(Tryz.prog.info? 143).map (·.bytes)=some 32 by kernel_rfl)
 obtain rfl:=Option.some.inj (hi.symm.trans hj)
 obtain rfl:=Option.some.inj (hi.symm.trans hk)
 exact⟨_,hi,h1,h2,h3⟩
theorem ls_first{B:Nat}{m0:Mk}{p:RkPl}{w:World}(h:RkAt cs p m0 w)(hB:B<=w.heap.size)(hpB:p.B<=B):
  LsAt B cs [(m0,[])] (.slice (some ⟨w.heap.size,0,none⟩) 1 1) (fun _=>p) (fun _=> .slice none 0 0) (w.alloc (.cells #[.pointer (some ⟨p.k,0,none⟩), .slice none 0 0] 143)):=by
 have key: ∀(i:Nat) x,[(m0,([]:List Int))][i]? =some x->x=(m0,[]):=fun i x hx=>by
  have h1:=(List.getElem?_eq_some_iff.1 hx).1
  have h1:i<1:=h1
  obtain rfl:i=0:=by omega
  cases hx;rfl
 refine⟨⟨rfl, .inr ⟨w.heap.size,1,_,rfl,hB,heap_new w _,Nat.le_refl _,by unfold maxLen;omega,rfl,rfl⟩⟩,fun i x hx=>?_,fun i x hx=>?_,fun i x hx b hb e=>?_,fun i x hx b hb e=>?_,fun i x hx=>hpB⟩
 ·obtain rfl:=key i x hx
  exact h.alloc _
 ·obtain rfl:=key i x hx
  exact numsOwn_nil _ _
 ·obtain rfl:=key i x hx
  have h1:=h.fp_lt hb
  have e':w.heap.size=b:=Option.some.inj e
  omega
 ·cases hb
def seenTo(cs:List (List Ins))(L:List (Mk×List Int))(m:Mk)(j:Nat):Bool:=seenO cs (L.take j) m
theorem seenTo_succ{x:Mk×List Int}(h:L[j]? =some x):seenTo cs L m (j+1)=(seenTo cs L m j ||decide (keyOf cs.length x.1=keyOf cs.length m)):=by
 unfold seenTo seenO
 rw[List.take_add_one,h,List.any_append]
 simp
theorem seenTo_all(h:L.length<=j):seenO cs L m=seenTo cs L m j:=by
 unfold seenTo
 rw[List.take_of_length_le h]
theorem seenTo_yes(h:seenTo cs L m j=true):seenO cs L m=true:=by
 unfold seenTo seenO at*
 obtain⟨x,hx,he⟩:=List.any_eq_true.1 h
 exact List.any_eq_true.2 ⟨x,List.mem_of_mem_take hx,he⟩
theorem walkof_any {s:Sta} {ai ar ad:Option Addr} {ci cr cap:Nat} {w0 w:World} (h0:Below w0.heap.size w0 w) (hs:StaAt s ⟨ai,ci,ar,cr⟩ w) (hl:codesAt ad cs w0) (h1:1<=s.cells) (h64:s.cells<=64) (hR:Right cs) (hfit:s.fits cs.length=true) (hok:MkOk cs.length 1 (s.mach cs.length)) (M:Nat) (hM:1<=M/\M<=150):
  Calls Tryz.prog 32 #[.agg #[.int .i64 s.cells, .slice ai s.init.length ci, .slice ar s.regs.length cr], .slice ad cs.length cap, .int .i64 M] w fun e w'=>Hid (Below w.heap.size w w'/\OfPost cs (s.mach cs.length) M w.heap.size e w'):=by
 obtain⟨w1,hw1⟩: ∃w1,w1=(w.alloc (.cells #[.int .i64 s.cells, .slice ai s.init.length ci, .slice ar s.regs.length cr] 24)).alloc (.cells #[.int .i64 0, .int .i64 0, .bool false, .slice none 0 0] 69):=⟨_,rfl⟩
 have b1:Below w.heap.size w w1:=by rw[hw1];exact(bRf.alloc nL _).alloc (by simp) _
 have hz1:w.heap.size+1=(w.alloc (.cells #[.int .i64 s.cells, .slice ai s.init.length ci, .slice ar s.regs.length cr] 24)).heap.size:=by simp
 have hZ1:Zr (w.heap.size+1) w1:=by
  rw[hw1,hz1]
  exact⟨by rw[World.cell?_alloc_new];rfl,by rw[World.cell?_alloc_new];rfl,by rw[World.cell?_alloc_new];rfl,by rw[World.cell?_alloc_new];rfl,fun o=>World.frozen?_alloc_new _ _ _ _⟩
 have s0:w1.cell? ⟨w.heap.size,0,none⟩=some (.int .i64 s.cells):=by rw[hw1];simp
 have s1:w1.cell? ⟨w.heap.size,1,none⟩=some (.slice ai s.init.length ci):=by rw[hw1];simp
 have s2:w1.cell? ⟨w.heap.size,2,none⟩=some (.slice ar s.regs.length cr):=by rw[hw1];simp
 have HNM:=hide (newMachine_any (cap:=cap) (h0.trans (b1.mono h0.size)) (hs.below b1) hl h1 h64 hR.some' hR.few hfit)
 have hzz:1<=(s.mach cs.length).mem.ar.size:=by show 1<=s.cells.toNat;omega
 have h60:=h0.size
 have hln:LnOk (s.mach cs.length).mem:=fun t x hx=>by
  have e:(s.mach cs.length).mem.waits t=[]:=rfl
  rw[e] at hx;cases hx
 have hgv:=Sta.mach_given s cs.length
 have n1:=hR.some'
 have n6:=hR.few
 have hl1:w.heap.size+1<w1.heap.size:=bLt hZ1.c0
 clear h0 hs hl h1 h64 hfit hz1
 generalize s.mach cs.length=m0 at*
 go_enter Tryz.func32,Tryz.ntmps32
 go_wp2_with fail
 rw[<-hw1]
 clear hw1
 refine HNM.out.mono ?_
 rintro e w2 ⟨p,rfl,hp⟩
 obtain⟨hA2,hpB,hb2,hge2⟩:=hp.out
 have B2:Below w.heap.size w w2:=below_step b1 hb2
 have hZ2:=hZ1.below hb2
 have hs2:=hb2.size
 have HLS:=hide (ls_first (B:=w1.heap.size) hA2 (by omega) (by omega))
 have HA3:=hide (hA2.alloc (.cells #[.pointer (some ⟨p.k,0,none⟩), .slice none 0 0] 143))
 have q0:(w2.alloc (.cells #[.pointer (some ⟨p.k,0,none⟩), .slice none 0 0] 143)).cell? ⟨w2.heap.size,0,none⟩=some (.pointer (some ⟨p.k,0,none⟩)):=by rw[World.cell?_alloc_new];rfl
 have hb3:Below w2.heap.size w2 (w2.alloc (.cells #[.pointer (some ⟨p.k,0,none⟩), .slice none 0 0] 143)):=bRf.alloc nL _
 have HB3:Hid (Below w1.heap.size w1 (w2.alloc (.cells #[.pointer (some ⟨p.k,0,none⟩), .slice none 0 0] 143))):=below_step hb2 hb3
 have HZ3:=hide (hZ2.below hb3)
 clear hp HNM hA2 hb2 hZ2 hb3 B2 s0 s1 s2 hge2
 go_wp2_with fail
 generalize (w2.alloc (.cells #[.pointer (some ⟨p.k,0,none⟩), .slice none 0 0] 143))=w3 at*
 refine(rrest_any HA3.out).mono ?_
 rintro e w4 ⟨rfl,hb4⟩
 have HB4:=hide (below_step HB3.out hb4)
 have HZ4:=hide (HZ3.out.below hb4)
 have HL4:=hide (HLS.out.below hb4)
 clear HA3 HB3 HZ3 HLS hb4 q0
 rw[rest_end]
 go_upto_if 28 with(fail)
 go_cut [9,10] from 18 (fun en _ wx=>en= .int .i64 (endN 0 (endTo cs m0 cs.length))/\wx=w4)
 case first=>
  cases hb:endTo cs m0 cs.length
  all_goals
   go_wp2_with fail
   go_meet
   exact⟨by rw[hb];rfl,rfl⟩
 case rest =>
  obtain⟨rfl,rfl⟩:=hcut
  have w2c:IntKind.i64.wrap (2*(cs.length:Int))=2*(cs.length:Int):=by rw[IntKind.wrap_i64];omega
  go_wp2_with fail
  go_loopw [8,9,10,11,12,13,14,15,16,17] (fun l en _ i _ _ _ _ _ _ wr=> ∃(I:Nat) (T:Ro) (pl:Nat->RkPl) (wv:Nat->Value),i= .int .i64 I/\en= .int .i64 T.e/\Hid (LsAt w1.heap.size cs T.L l pl wv wr)/\Hid (WkOut cs m0 M I T)/\Hid (Below w1.heap.size w1 wr/\Zr (w.heap.size+1) wr)/\(0<=T.e/\T.e<=150)/\I<=150) (fun _ _ _ i _ _ _ _ _ _ _=>151 - (intOf i).toNat)
  case atStart=>
   have hF:=WkOut.first (cs:=cs) (m0:=m0) hM.1
   exact⟨0,firstR cs m0,fun _=>p,fun _=> .slice none 0 0,rfl,rfl,HL4,hF,⟨HB4.out,HZ4.out⟩,⟨hF.e.1,by have h1:=hF.e.2;have h2:(firstR cs m0).L.length=1:=rfl;omega⟩,Nat.zero_le _⟩
  case round =>
   clear HL4 HB4 HZ4
   obtain⟨I,T,pl,wv,rfl,rfl,HL,HO,HBZ,hTe,hI⟩:=hrel
   obtain⟨g,gc,rfl,hgc,hgB,hgl, -⟩:=HL.out.shape HO.out.pos
   by_cases hlt:I<T.L.length
   ·obtain ⟨x, hx⟩: ∃x,T.L[I]? =some x:=⟨_,List.getElem?_eq_getElem hlt⟩
    have HI:=hide (HO.out.start hx)
    have hi:(I:Int)<T.L.length:=by omega
    clear HO hx
    go_wp2_with fail
    go_loopw [8,9,10,12,13,14,15,16,17] (fun l en _ k _ _ _ _ _ wr'=> ∃(K:Nat) (T':Ro) (pl':Nat->RkPl) (wv':Nat->Value),k= .int .i64 K/\en= .int .i64 T'.e/\Hid (LsAt w1.heap.size cs T'.L l pl' wv' wr')/\Hid (WkIn cs m0 M I x K T')/\Hid (Below w1.heap.size w1 wr'/\Zr (w.heap.size+1) wr')/\(0<=T'.e/\T'.e<=150)/\K<=2*cs.length) (fun _ _ _ k _ _ _ _ _ _=>2*cs.length - (intOf k).toNat)
    case atStart=>exact⟨0,T,pl,wv,rfl,rfl,HL,HI,HBZ,hTe,Nat.zero_le _⟩
    case round =>
     clear HL HI HBZ hTe hgc hgB hgl hlt hi
     obtain⟨K,T,pl,wv,rfl,rfl,HL,HI,HBZ,hTe,hK⟩:=hrel
     have hIl:=HI.out.lt
     have hle:=HI.out.le
     obtain⟨g,gc,rfl,hgc,hgB,hgl, -⟩:=HL.out.shape (by omega)
     obtain⟨N0,hNa,hNb⟩: ∃N0,N0<=wr.heap.size/\wr.heap.size<=N0:=⟨_,Nat.le_refl _,Nat.le_refl _⟩
     by_cases hk:K<2*cs.length
     ·obtain ⟨c0,c1⟩:=HL.out.cells hIl
      have hmach:=HL.out.mach I x HI.out.at'
      obtain⟨hwl,d,hd,hr⟩:=HI.out.rch I x HI.out.at'
      have hd1:1+d<=1000:=by omega
      have okm:=hr.ok hok hR (by omega)
      have HOwn:=hide (rown_any hmach (by rw[hr.size];exact hzz) n1 (fun t ht=>Nat.le_trans (okm.mem.few t (by rw[okm.thr];exact ht)) (by decide)) (Nat.le_trans okm.marks (by decide)))
      have hpB:=HL.out.plB I x HI.out.at'
      have hiI:(I:Int)<T.L.length:=by omega
      have hk2:(K:Int)<2*cs.length:=by omega
      have hgr:g<wr.heap.size:=hgl
      clear hmach
      go_wp2_with fail
      refine HOwn.out.mono ?_
      rintro e w5 ⟨p',rfl,hB',hA',hb5,hge'⟩
      have HT:=hide (rturn_any (⟨hA',okm,hR,by omega⟩:RkX cs p' x.1 (1+d) w5) (K:Int))
      have HGE:=hide hge'
      have HR5:=hide (hr.turn K)
      have HB5:=hide hb5
      clear HOwn hA' hge' hb5 c0 c1 okm hr
      generalize hm':(x.1.turnO cs K).2=m' at*
      have HM:=hide hm'
      clear hm'
      cases hE:(x.1.turnO cs K).1 with
      | succ E2=>
       have HI2:=hide (HI.out.err hk (by rw[hE];rfl))
       have HT2:=HT.out
       rw[hE] at HT2
       have hpos:(0:Int)<((E2+1:Nat):Int):=by omega
       clear HT hE HI
       generalize ((E2+1:Nat):Int)=EE at*
       go_wp2_with fail
       refine HT2.mono ?_
       rintro e w6 ⟨rfl,r,v,k6⟩
       have b6:Below wr.heap.size wr w6:=HB5.out.trans (k6.turns.below HB5.out.size (fun k o hk hs=>by have:=HGE.out k hs;omega))
       have HL6:=hide (HL.out.below b6)
       have HBZ6:Hid (Below w1.heap.size w1 w6/\Zr (w.heap.size+1) w6):=⟨below_step HBZ.out.1 b6,HBZ.out.2.below b6⟩
       clear k6 b6 HL HBZ HT2
       go_wp2_with fail
       go_roundw
       case rel=>exact⟨K+1,T,pl,wv,by go_num,rfl,HL6,HI2,HBZ6,hTe,by omega⟩
       case measure=>simp[intOf];omega
      | zero =>
       have ho: ¬okN (x.1.turnO cs K).1=0:=by rw[hE];decide
       have HO:=hide ho
       have HT2:=HT.out
       rw[hE] at HT2
       rw[show(((0:Nat):Int))=0 from rfl] at HT2
       clear HT hE ho
       go_wp2_with fail
       refine HT2.mono ?_
       rintro e w6 ⟨rfl,r,v,k6⟩
       have b6:Below wr.heap.size wr w6:=HB5.out.trans (k6.turns.below HB5.out.size (fun k o hk hs=>by have:=HGE.out k hs;omega))
       have HX6:=hide k6.at'
       have HXg:Hid (∀b,(p'.to r v).fp cs.length m'.mem b->wr.heap.size<=b):=fun b hb=>by
        rcases k6.fp b hb with e |e
        ·exact HGE.out b e
        ·exact Nat.le_trans HB5.out.size e
       have HL6:=hide (HL.out.below b6)
       have HB6:=hide b6
       have hsz6:w1.heap.size<=w6.heap.size:=by have:=b6.size;have:=HBZ.out.1.size;omega
       have d1:=(HL6.out.cells hIl).2
       clear k6 b6 HT2 HGE HB5
       have hm0:=(HL6.out.way I x HI.out.at')
       have HW:=hide hm0
       have hxl:x.2.length<=150:=by omega
       clear hm0
       go_wp2_with (at_builtin;refine wpList_append_intsO _ rfl _ _ rfl w1.heap.size w1.heap.size [] x.2 (.slice none 0 0) (wv I) rfl ?q1 rfl ?q2 ?q3 ?q4 ?_)
       case q1=>exact numsOwn_nil _ _
       case q2=>exact HW.out
       case q3=>show 0+x.2.length<=_;omega
       case q4=>exact hsz6
       intro u1 w7 hu1 hb7 hs7 hg7 hl7
       have b7:Below w6.heap.size w6 w7:=bRf.grown hg7 nL (fun k hk=>by cases hk)
       have hu1g: ∀b,u1.ownBlock=some b->w6.heap.size<=b:=fun b hb=>by
        rcases hl7 with e |e
        ·rw[e] at hb;cases hb
        ·rw[e] at hb;cases hb;exact Nat.le_refl _
       have HU1:=hide hu1
       have HB7:=hide b7
       have HU1g:=hide hu1g
       clear hu1 b7 hb7 hg7 hl7 hu1g HW
       go_wp2_with (at_builtin;refine wpList_append_ints _ rfl _ _ rfl w1.heap.size x.2 [(K:Int)] u1 _ _ rfl ?q1b rfl ?q2b ?q3b ?q4b ?_)
       case q1b=>exact numsOwn_keep HU1.out (bRf.alloc nL _)
       case q2b=>exact numsAt_new rfl
       case q3b=>show x.2.length+1<=_;omega
       case q4b=>simp;omega
       intro u2 w8 hu2 hb8 hs8 hg8 hl8
       have b8:Below w6.heap.size w6 w8:=(HB7.out.alloc HB7.out.size _).grown hg8 (by simp;omega) (fun k hk=>HU1g.out k hk)
       obtain⟨ua,uc,rfl, -⟩:=numsOwn_open hu2 (by simp)
       have hu2g: ∀b,(Value.slice (some ua) (x.2++[(K:Int)]).length uc).ownBlock=some b->w6.heap.size<=b:=fun b hb=>by
        rcases hl8 with e |e
        ·rw[e] at hb;exact HU1g.out b hb
        ·rw[e] at hb
         have:b=w7.heap.size+1:=(Option.some.inj hb).symm
         omega
       have HU:=hide hu2
       have HUg:=hide hu2g
       have HX:=hide (HX6.out.below b8)
       have HL8:=hide (HL6.out.below b8)
       have b68:Below wr.heap.size wr w8:=HB6.out.trans (b8.mono HB6.out.size)
       have HBZ8:Hid (Below w1.heap.size w1 w8/\Zr (w.heap.size+1) w8):=⟨below_step HBZ.out.1 b68,HBZ.out.2.below b68⟩
       have hs68:wr.heap.size<=w6.heap.size:=HB6.out.size
       have hs88:w6.heap.size<=w8.heap.size:=b8.size
       have hs1r:=HBZ.out.1.size
       clear hu2 hu2g hb8 hg8 hl8 b8 b68 HU1 HU1g HB7 HX6 HL6 HB6 HL HBZ hs7 hs8 d1 hsz6
       generalize hUL:(x.2++[(K:Int)]).length=UL at*
       have hrb:w.heap.size+1<wr.heap.size:=by omega
       have HFt:w8.cell? ⟨p'.k,3,none⟩=some (.int .i64 m'.faults):=HX.out.mFaults
       by_cases hf:0<m'.faults
       ·have HQ:=hide (HI.out.fault hk HO.out (by rw[HM.out];exact hf))
        have hfi:(0:Int)<m'.faults:=by omega
        have hz:=HBZ8.out.2
        have r0:=hz.c0
        have r1:=hz.c1
        have r2:=hz.c2
        have r3:=hz.c3
        have z0:=hz.z 0
        have z1:=hz.z 1
        have z2:=hz.z 2
        have z3:=hz.z 3
        have HBB:=hide (b1.trans (HBZ8.out.1.mono b1.size))
        have hrb6:w.heap.size+1<w6.heap.size:=by omega
        clear HBZ8 hz HI HL8 hf HX
        go_wp2_with fail
        refine bodyPost_ret (v:= .tuple #[.agg #[.int .i64 T.L.length, .int .i64 T.e, .bool true, .slice (some ua) UL uc], .bool true]) (by simp only[results,Tryz.results32];go_simp) rfl ?_
        refine hide ⟨(((HBB.out.setCell (Nat.le_succ _) _).setCell (Nat.le_succ _) _).setCell (Nat.le_succ _) _).setCell (Nat.le_succ _) _,T, .inr (.inr ⟨_,_,HQ.out,?_,rfl⟩)⟩
        refine numsOwn_mono (base:=w1.heap.size) (ownsRow_block HU.out fun b hb=>?_) b1.size
        have n1:b≠w.heap.size+1:=by have:=HUg.out b hb;omega
        rw[Below.heap_setCell _ _ _ _ n1,Below.heap_setCell _ _ _ _ n1,Below.heap_setCell _ _ _ _ n1,Below.heap_setCell _ _ _ _ n1]
       ·have hnf :m'.faults=0:=by omega
        have hnf2: ¬0<m'.faults:=hf
        rw[hnf] at HFt
        have HLK:Hid (∀(J:Nat) y,T.L[J]? =some y->likeB cs.length y.1 m'=decide (keyOf cs.length y.1=keyOf cs.length m')/\y.1.mem.ar.size=m'.mem.ar.size/\ ∀t,t<cs.length->(y.1.mem.waits t).length<=8):=fun J y hy=>by
         obtain⟨-,d2,hd2,hr2⟩:=HI.out.rch J y hy
         have hJ:=(List.getElem?_eq_some_iff.1 hy).1
         have ok2:=hr2.ok hok hR (show 1+d2<=60000000 by omega)
         exact⟨like_key hr2 HR5.out hok hln hgv hR (show 1+d2<=60000000 by omega) (show 1+(d+1)<=60000000 by omega),hr2.size.trans HR5.out.size.symm,fun t ht=>ok2.mem.few t (by rw[ok2.thr];exact ht)⟩
        have HGY:Hid (∀J,J<T.L.length-> ∃y,T.L[J]? =some y):=fun J hJ=>⟨_,List.getElem?_eq_getElem hJ⟩
        clear hf hnf
        go_wp2_with fail
        go_loopw [16,17] (fun sn j wq=> ∃J:Nat,J<=T.L.length/\j= .int .i64 J/\sn= .bool (seenTo cs T.L m' J)/\Hid (Below w8.heap.size w8 wq)) (fun _ j _=>T.L.length - (intOf j).toNat)
        case atStart=>exact⟨0,Nat.zero_le _,rfl,rfl,Below.refl _ _⟩
        case round =>
         obtain⟨J,hJ,rfl,rfl,HBQ⟩:=hrel
         cases hsn:seenTo cs T.L m' J with
         | true=>
          have HI2:=hide (HI.out.seen hk HO.out (by rw[HM.out];exact hnf2) (by rw[HM.out];exact seenTo_yes hsn))
          have HL9:=hide (HL8.out.below HBQ.out)
          have HBZ9:Hid (Below w1.heap.size w1 wr/\Zr (w.heap.size+1) wr):=⟨below_step HBZ8.out.1 HBQ.out,HBZ8.out.2.below HBQ.out⟩
          clear hsn HI HL8 HBZ8 HX HU
          by_cases hJl:J<T.L.length
          all_goals
           go_wp2_with fail
           go_roundw
           case rel=>exact⟨K+1,T,pl,wv,by go_num,rfl,HL9,HI2,HBZ9,hTe,by omega⟩
           case measure=>simp[intOf];omega
         | false =>
          by_cases hJl:J<T.L.length
          ·obtain ⟨y,hy⟩:=HGY.out J hJl
           obtain⟨lk1,lk2,lk3⟩:=HLK.out J y hy
           have HLq:=hide (HL8.out.below HBQ.out)
           obtain⟨e0, -⟩:=HLq.out.cells hJl
           have HA:=asother_any (HLq.out.mach J y hy) (HX.out.below HBQ.out) lk2 lk3
           rw[lk1] at HA
           have HA2:=hide HA
           have HSN:Hid (seenTo cs T.L m' (J+1)=decide (keyOf cs.length y.1=keyOf cs.length m')):=by
            show _=_
            rw[seenTo_succ hy,hsn,Bool.false_or]
           have hJi:(J:Int)<T.L.length:=by omega
           clear HA lk1 lk2 lk3 hy hsn HLq
           go_wp2_with fail
           refine HA2.out.mono ?_
           rintro e wz ⟨rfl,hbz⟩
           have HBz:=hide (below_step HBQ.out hbz)
           clear HA2 hbz HBQ e0
           go_wp2_with fail
           go_roundw
           case rel=>exact⟨J+1,by omega,by go_num,by rw[HSN.out],HBz⟩
           case measure=>simp[intOf];omega
          ·have hns: ¬seenO cs T.L m'=true:=by rw[seenTo_all (show T.L.length<=J by omega),hsn];decide
           have HNS:=hide hns
           obtain rfl:J=T.L.length:=by omega
           clear hns hsn hJl HLK HGY
           by_cases hm:(T.L.length:Int)=M
           ·have HQ:=hide (HI.out.more hk HO.out (by rw[HM.out];exact hnf2) (by rw[HM.out];exact HNS.out) hm)
            have hmb:((T.L.length:Int)==(M:Int))=true:=beq_iff_eq.2 hm
            have hz:=HBZ8.out.2.below HBQ.out
            have r0:=hz.c0
            have r1:=hz.c1
            have r2:=hz.c2
            have r3:=hz.c3
            have z0:=hz.z 0
            have z1:=hz.z 1
            have z2:=hz.z 2
            have z3:=hz.z 3
            have HBB:=hide (b1.trans ((below_step HBZ8.out.1 HBQ.out).mono b1.size))
            clear HBZ8 hz HI HL8 HX hm HFt
            go_wp2_with fail
            refine bodyPost_ret (v:= .tuple #[.agg #[.int .i64 0, .int .i64 0, .bool false, .slice none 0 0], .bool false]) (by simp only[results,Tryz.results32];go_simp) rfl ?_
            exact hide ⟨(((HBB.out.setCell (Nat.le_succ _) _).setCell (Nat.le_succ _) _).setCell (Nat.le_succ _) _).setCell (Nat.le_succ _) _,T, .inr (.inl ⟨HQ.out,rfl⟩)⟩
           ·have HI2:=hide (HI.out.add hk HO.out (by rw[HM.out];exact hnf2) (by rw[HM.out];exact HNS.out) hm)
            rw[HM.out] at HI2
            have hmb:((T.L.length:Int)==(M:Int))=false:=beq_eq_false_iff_ne.2 hm
            have HLq:=hide (HL8.out.below HBQ.out)
            have HBZq:Hid (Below w1.heap.size w1 wr/\Zr (w.heap.size+1) wr):=⟨below_step HBZ8.out.1 HBQ.out,HBZ8.out.2.below HBQ.out⟩
            have HXq:=hide (HX.out.below HBQ.out)
            have HUq:Hid (numsOwn wr w1.heap.size (.slice (some ua) UL uc) (x.2++[(K:Int)])):=numsOwn_keep HU.out HBQ.out
            have hs8q:=HBQ.out.size
            obtain⟨ri,hri,hrz,hrs,hrb⟩:=spotInfo
            have bA:Below wr.heap.size wr (wr.alloc (.cells #[.pointer (some ⟨p'.k,0,none⟩), .slice (some ua) UL uc] 143)):=bRf.alloc nL _
            have HLA:=hide (HLq.out.below bA)
            have HXA:=hide (HXq.out.below bA)
            have HUA:=hide (numsOwn_keep HUq.out bA)
            have HBA:Hid (Below w1.heap.size w1 (wr.alloc (.cells #[.pointer (some ⟨p'.k,0,none⟩), .slice (some ua) UL uc] 143))/\Zr (w.heap.size+1) (wr.alloc (.cells #[.pointer (some ⟨p'.k,0,none⟩), .slice (some ua) UL uc] 143))):=⟨below_step HBZq.out.1 bA,HBZq.out.2.below bA⟩
            have HNW:Hid (∀i u,([.pointer (some ⟨p'.k,0,none⟩), .slice (some ua) UL uc]:List Value)[i]? =some u->(wr.alloc (.cells #[.pointer (some ⟨p'.k,0,none⟩), .slice (some ua) UL uc] 143)).cell? ((⟨wr.heap.size,0,none⟩:Addr).add i)=some u):=fun i u hu=>by
             rw[Addr.add_lit,Nat.zero_add,World.cell?_alloc_new, <-hu, <-Array.getElem?_toList]
            have hone: ∀u∈([.pointer (some ⟨p'.k,0,none⟩), .slice (some ua) UL uc]:List Value),u.oneCell'=true:=fun u hu=>by
             simp only[List.mem_cons,List.not_mem_nil,or_false] at hu
             rcases hu with rfl |rfl <;> rfl
            have HONE:=hide hone
            clear HI HL8 HBZ8 HX HU HFt hm hone bA HLq HXq HUq HBZq HBQ HNS hnf2
            go_wp2_with (at_builtin;refine wpList_append_own_at _ rfl _ _ 144 rfl w1.heap.size 143 ri (.agg #[.pointer none, .slice none 0 0]) 2 32 Tryz.underlying144 hri hrz hrs hrb rfl (by decide) (.slice (some ⟨g,0,none⟩) T.L.length gc) T.L.length (spotCells pl wv T.L.length) rfl HLA.out.own ⟨wr.heap.size,0,none⟩ 1 1 [.pointer (some ⟨p'.k,0,none⟩), .slice (some ua) UL uc] rfl rfl HNW.out HONE.out ?q1c ?q2c ?q3c ?_)
            case q1c=>unfold maxLen;omega
            case q2c=>omega
            case q3c=>simp;omega
            intro v6 w9 hown9 hgr9 _ hat9
            have hvg: ∀b,N0<=b->(Value.slice (some ⟨g,0,none⟩) T.L.length gc).ownBlock≠some b:=fun b hb e=>by
             have:g=b:=Option.some.inj e
             omega
            have HL9:=hide (HLA.out.more (u:= .slice (some ua) UL uc) (l:=x.2++[(K:Int)]) HXA.out (by show p'.B<=_;omega) (fun b hb=>hvg b (by have:=HXg.out b hb;omega)) HUA.out (fun b hb=>hvg b (by have:=HUg.out b hb;omega)) hown9 hgr9 (hat9.imp id (fun e=>by rw[e];simp)))
            have hgk: ∀k,(Value.slice (some ⟨g,0,none⟩) T.L.length gc).ownBlock=some k->w1.heap.size<=k:=fun k hk=>(HLA.out.own.lt k hk).1
            have hW1:w1.heap.size<=(wr.alloc (.cells #[.pointer (some ⟨p'.k,0,none⟩), .slice (some ua) UL uc] 143)).heap.size:=HBA.out.1.size
            have HB9:Hid (Below w1.heap.size w1 w9/\Zr (w.heap.size+1) w9):=⟨HBA.out.1.grown hgr9 hW1 hgk,HBA.out.2.belowB hl1 ((Below.refl w1.heap.size _).grown hgr9 hW1 hgk)⟩
            have hx9:=HL9.out.mach T.L.length (m',x.2++[(K:Int)]) (by rw[List.getElem?_append_right nL,Nat.sub_self];rfl)
            dsimp only at hx9
            rw[if_pos rfl] at hx9
            have HRest:=rrest_any hx9
            rw[rest_end] at HRest
            obtain⟨gv,gvc,rfl, -⟩:=ownsRow_shape hown9
            have hTe1:=HI2.out.e
            have hTl1:=HI2.out.le
            clear HLA HXA HUA HBA HNW HONE hown9 hgr9 hat9 hvg hgk hW1 hx9 hri hrz hrs hrb HUg HXg HO HM HR5
            have hTe2:=hTe.2
            have hTe0:=hTe.1
            cases hbb:endTo cs m' cs.length
            all_goals
             rw[hbb] at HRest HI2 hTe1
             have HR2:=hide HRest
             have hTe3:=And.intro hTe1.1 (Int.le_trans hTe1.2 (show(((T.L++[(m',x.2++[(K:Int)])]).length:Nat):Int)<=150 by have h5:(T.L++[(m',x.2++[(K:Int)])]).length<=M:=hTl1;omega))
             clear HRest hbb hTe1
             go_wp2_with fail
             refine HR2.out.mono ?_
             rintro e w10 ⟨rfl,hb10⟩
             have HL10:=hide (HL9.out.below hb10)
             have HB10:Hid (Below w1.heap.size w1 w10/\Zr (w.heap.size+1) w10):=⟨below_step HB9.out.1 hb10,HB9.out.2.below hb10⟩
             clear HR2 hb10 HL9 HB9
             go_wp2_with fail
             go_roundw
             case rel=>first
              |exact⟨K+1,⟨T.L++[(m',x.2++[(K:Int)])],endN T.e false⟩,_,_,by go_num,rfl,HL10,HI2,HB10,hTe3,by omega⟩
              |exact⟨K+1,⟨T.L++[(m',x.2++[(K:Int)])],endN T.e true⟩,_,_,by go_num,rfl,HL10,HI2,HB10,hTe3,by omega⟩
             case measure=>simp[intOf];omega
     ·obtain rfl:K=2*cs.length:=by omega
      have HO2:=hide (HI.out.done rfl)
      clear HI
      go_wp2_with fail
      go_roundw
      case rel=>exact⟨I+1,T,pl,wv,by go_num,rfl,HL,HO2,HBZ,hTe,by omega⟩
      case measure=>simp[intOf];omega
   ·obtain rfl:I=T.L.length:=by have:=HO.out.hI;omega
    have HQ:=hide HO.out.stop
    have hz:=HBZ.out.2
    have r0:=hz.c0
    have r1:=hz.c1
    have r2:=hz.c2
    have r3:=hz.c3
    have z0:=hz.z 0
    have z1:=hz.z 1
    have z2:=hz.z 2
    have z3:=hz.z 3
    have HBB:=hide (b1.trans (HBZ.out.1.mono b1.size))
    clear HBZ hz HO HL
    go_wp2_with fail
    refine bodyPost_ret (v:= .tuple #[.agg #[.int .i64 T.L.length, .int .i64 T.e, .bool false, .slice none 0 0], .bool true]) (by simp only[results,Tryz.results32];go_simp) rfl ?_
    exact hide ⟨(((HBB.out.setCell (Nat.le_succ _) _).setCell (Nat.le_succ _) _).setCell (Nat.le_succ _) _).setCell (Nat.le_succ _) _,T, .inl ⟨HQ.out,rfl⟩⟩
end
section
open Go.RowKit Go.Extern.Stop Go.Stop Go.Extern Go.Maps Go.WideMaps Go.Sort
def toldV(s e:Int)(f:Bool)(v:Value):Value:= .agg #[.int .i64 s, .int .i64 e, .bool f,v]
theorem wsee_bad {sv:Value} (hsv:sv.oneCell'=true) {a:Nat->Addr} {s:Sta} {ai ar ad:Option Addr} {ci cr cap:Nat} {cs:List (List Ins)} {w:World} (mo:Int) (hE:Env a w) (hs:StaAt s ⟨ai,ci,ar,cr⟩ w) (hl:codesAt ad cs w) (hsz: ∀(t:Nat) L,cs[t]? =some L-> ∀(i:Nat) x,L[i]? =some x->x.to.size<=maxLen) (hbad:(s.fault cs).1≠0):
  Calls Tryz.prog 65 #[.agg #[.int .i64 s.cells, .slice ai s.init.length ci, .slice ar s.regs.length cr], .slice ad cs.length cap, .int .i64 mo,sv] w fun e w'=>Below w.heap.size w w'/\ ∃v,e= .returned (.tuple #[toldV 0 0 false (.slice none 0 0),v])/\errIs a (s.fault cs) v w' w.heap.size:=by
 have HN:=hide (fun w1 (hb:Below w.heap.size w w1)=>new_any (cap:=cap) (hE.below hb.block) (hs.below hb) (hl.below hb) hsz)
 clear hE hs hl
 go_enter Tryz.func65,Tryz.ntmps65
 go_wp2_with fail
 generalize hw1:(((w.alloc _).alloc _).alloc _).alloc _=w1
 have b1:Below w.heap.size w w1:=by rw[<-hw1];exact((((Below.refl _ w).alloc nL _).alloc (by simp) _).alloc (by simp;omega) _).alloc (by simp;omega) _
 have hsz3:w.heap.size+3=(((w.alloc (.cells #[.int .i64 s.cells, .slice ai s.init.length ci, .slice ar s.regs.length cr] 34)).alloc (.cells #[.slice ad cs.length cap] 25)).alloc (.cells #[sv] 182)).heap.size:=by simp
 have t0:w1.cell? ⟨w.heap.size+3,0,none⟩=some (.int .i64 0):=by rw[<-hw1,hsz3,World.cell?_alloc_new];rfl
 have t1:w1.cell? ⟨w.heap.size+3,1,none⟩=some (.int .i64 0):=by rw[<-hw1,hsz3,World.cell?_alloc_new];rfl
 have t2:w1.cell? ⟨w.heap.size+3,2,none⟩=some (.bool false):=by rw[<-hw1,hsz3,World.cell?_alloc_new];rfl
 have t3:w1.cell? ⟨w.heap.size+3,3,none⟩=some (.slice none 0 0):=by rw[<-hw1,hsz3,World.cell?_alloc_new];rfl
 have z: ∀o,w1.frozen? ⟨w.heap.size+3,o,none⟩=false:=fun o=>by rw[<-hw1,hsz3];exact World.frozen?_alloc_new _ _ _ _
 have hlt:=bLt t0
 clear hw1 hsz3
 refine(HN.out w1 b1).mono ?_
 rintro e w2 hp
 obtain⟨hb2,hres⟩:=hp.out
 rcases hres with⟨h0, -⟩ |⟨-,v,rfl,herr⟩
 ·exact absurd h0 hbad
 replace t0:=keep_cell hb2 t0
 replace t1:=keep_cell hb2 t1
 replace t2:=keep_cell hb2 t2
 replace t3:=keep_cell hb2 t3
 have z0:w2.frozen? ⟨w.heap.size+3,0,none⟩=false:=(hb2.frozen hlt).trans (z 0)
 have z1:w2.frozen? ⟨w.heap.size+3,1,none⟩=false:=(hb2.frozen (p:=⟨w.heap.size+3,1,none⟩) hlt).trans (z 1)
 have z2:w2.frozen? ⟨w.heap.size+3,2,none⟩=false:=(hb2.frozen (p:=⟨w.heap.size+3,2,none⟩) hlt).trans (z 2)
 have z3:w2.frozen? ⟨w.heap.size+3,3,none⟩=false:=(hb2.frozen (p:=⟨w.heap.size+3,3,none⟩) hlt).trans (z 3)
 clear hp z HN
 obtain ⟨ty,pv,rfl⟩: ∃ty pv,v= .iface ty (.pointer (some pv)):=by
  rcases herr with⟨h0, -⟩ |⟨h0, -,rfl⟩ |⟨-,j,M, -, -,rfl, -, -⟩
  ·exact absurd h0 hbad
  ·obtain⟨k,hk⟩:=Nat.exists_eq_succ_of_ne_zero h0
   rw[hk]
   exact⟨_,_,rfl⟩
  ·exact⟨_,_,rfl⟩
 have HR:=hide herr
 have B2:=below_step b1 hb2
 clear herr b1 hb2
 go_wp2_with fail
 refine bodyPost_ret (v:= .tuple #[toldV 0 0 false (.slice none 0 0), .iface ty (.pointer (some pv))]) (by simp only[results,Tryz.results65];go_simp;rfl) rfl ⟨?_,_,rfl,?_⟩
 ·have hle:w.heap.size<=w.heap.size+1+1+1:=by omega
  exact(((B2.setCell hle _).setCell hle _).setCell hle _).setCell hle _
 ·rcases HR.out with⟨h0,e⟩ |⟨h0,h2,e⟩ |⟨h0,j,M,e1,e2,e3,e4,e5⟩
  ·exact .inl ⟨h0,e⟩
  ·exact .inr (.inl ⟨h0,h2,e⟩)
  ·have hM:w.heap.size+1+1+1<M:=Nat.lt_of_lt_of_le hlt e2
   exact .inr (.inr ⟨h0,j,M,e1,by omega,e3,cell_ne (cell_ne (cell_ne (cell_ne e4 (.inl (by omega))) (.inl (by omega))) (.inl (by omega))) (.inl (by omega)),cell_ne (cell_ne (cell_ne (cell_ne e5 (.inl (by omega))) (.inl (by omega))) (.inl (by omega))) (.inl (by omega))⟩)
end
section
open Go.RowKit Go.Extern.Stop Go.Stop Go.Extern Go.Maps Go.WideMaps Go.Sort
theorem wsee_bound {sv:Value} (hsv:sv.oneCell'=true) {a:Nat->Addr} {s:Sta} {ai ar ad:Option Addr} {ci cr cap:Nat} {cs:List (List Ins)} {w:World} (mo:Int) (hE:Env a w) (hs:StaAt s ⟨ai,ci,ar,cr⟩ w) (hl:codesAt ad cs w) (hsz: ∀(t:Nat) L,cs[t]? =some L-> ∀(i:Nat) x,L[i]? =some x->x.to.size<=maxLen) (hgood:(s.fault cs).1=0) (hmo:mo<1∨60000<mo):
  Calls Tryz.prog 65 #[.agg #[.int .i64 s.cells, .slice ai s.init.length ci, .slice ar s.regs.length cr], .slice ad cs.length cap, .int .i64 mo,sv] w fun e w'=>Below w.heap.size w w'/\e= .returned (.tuple #[toldV 0 0 false (.slice none 0 0),errAt (a 1)]):=by
 have HN:=hide (fun w1 (hb:Below w.heap.size w w1)=>new_any (cap:=cap) (hE.below hb.block) (hs.below hb) (hl.below hb) hsz)
 have HEnv:=hide (fun w1 (hb:Below w.heap.size w w1)=>(hE.below hb.block).cell 1 (by decide))
 clear hE hs hl
 go_enter Tryz.func65,Tryz.ntmps65
 go_wp2_with fail
 generalize hw1:(((w.alloc _).alloc _).alloc _).alloc _=w1
 have b1:Below w.heap.size w w1:=by rw[<-hw1];exact((((Below.refl _ w).alloc nL _).alloc (by simp) _).alloc (by simp;omega) _).alloc (by simp;omega) _
 have hsz3:w.heap.size+3=(((w.alloc (.cells #[.int .i64 s.cells, .slice ai s.init.length ci, .slice ar s.regs.length cr] 34)).alloc (.cells #[.slice ad cs.length cap] 25)).alloc (.cells #[sv] 182)).heap.size:=by simp
 have t0:w1.cell? ⟨w.heap.size+3,0,none⟩=some (.int .i64 0):=by rw[<-hw1,hsz3,World.cell?_alloc_new];rfl
 have t1:w1.cell? ⟨w.heap.size+3,1,none⟩=some (.int .i64 0):=by rw[<-hw1,hsz3,World.cell?_alloc_new];rfl
 have t2:w1.cell? ⟨w.heap.size+3,2,none⟩=some (.bool false):=by rw[<-hw1,hsz3,World.cell?_alloc_new];rfl
 have t3:w1.cell? ⟨w.heap.size+3,3,none⟩=some (.slice none 0 0):=by rw[<-hw1,hsz3,World.cell?_alloc_new];rfl
 have z: ∀o,w1.frozen? ⟨w.heap.size+3,o,none⟩=false:=fun o=>by rw[<-hw1,hsz3];exact World.frozen?_alloc_new _ _ _ _
 have hlt:=bLt t0
 clear hw1 hsz3
 refine(HN.out w1 b1).mono ?_
 rintro e w2 hp
 obtain⟨hb2,hres⟩:=hp.out
 rcases hres with⟨-, -,p,rfl, -⟩ |⟨h0, -⟩
 rotate_left
 ·exact absurd hgood h0
 replace t0:=keep_cell hb2 t0
 replace t1:=keep_cell hb2 t1
 replace t2:=keep_cell hb2 t2
 replace t3:=keep_cell hb2 t3
 have z0:w2.frozen? ⟨w.heap.size+3,0,none⟩=false:=(hb2.frozen hlt).trans (z 0)
 have z1:w2.frozen? ⟨w.heap.size+3,1,none⟩=false:=(hb2.frozen (p:=⟨w.heap.size+3,1,none⟩) hlt).trans (z 1)
 have z2:w2.frozen? ⟨w.heap.size+3,2,none⟩=false:=(hb2.frozen (p:=⟨w.heap.size+3,2,none⟩) hlt).trans (z 2)
 have z3:w2.frozen? ⟨w.heap.size+3,3,none⟩=false:=(hb2.frozen (p:=⟨w.heap.size+3,3,none⟩) hlt).trans (z 3)
 have g2:w2.cell? ⟨0,0,none⟩=some (errAt (a 1)):=HEnv.out w2 (below_step b1 hb2)
 have B2:=below_step b1 hb2
 clear hp z HN HEnv b1 hb2
 have hle:w.heap.size<=w.heap.size+1+1+1:=by omega
 rcases hmo with hm |hm
 ·go_wp2_with fail
  go_region
  all_goals
   go_wp2_with fail
   refine bodyPost_ret (v:= .tuple #[toldV 0 0 false (.slice none 0 0),errAt (a 1)]) (by simp only[results,Tryz.results65];go_simp;rfl) rfl ⟨?_,rfl⟩
   exact below_dN ((((B2.setCell hle _).setCell hle _).setCell hle _).setCell hle _) 1
 ·have hm1: ¬mo<1:=by omega
  go_wp2_with fail
  go_region
  all_goals
   go_wp2_with fail
   refine bodyPost_ret (v:= .tuple #[toldV 0 0 false (.slice none 0 0),errAt (a 1)]) (by simp only[results,Tryz.results65];go_simp;rfl) rfl ⟨?_,rfl⟩
   exact below_dN ((((B2.setCell hle _).setCell hle _).setCell hle _).setCell hle _) 1
end
section
open Go.RowKit Go.Extern.Stop Go.Stop Go.Extern Go.Maps Go.WideMaps Go.Sort
def SeePost (a:Nat->Addr) (cs:List (List Ins)) (m0:Mk) (mo:Int) (se:Seer) (X0:Nat->Prop) (w:World) (e:Ending) (w':World):Prop:=
 Turns (fun k _=>X0 k) w w'/\ ∃f S,(∃X,se.I X S.L w'/\ ∀k,X k->X0 k∨w.heap.size<=k)/\
  ((searchO cs mo (2*cs.length) f (firstS cs m0)=(.go,S)/\S.ms=[]/\e= .returned (.tuple #[toldV S.s S.e false (.slice none 0 0), .nilIface]))∨(searchO cs mo (2*cs.length) f (firstS cs m0)=(.bound,S)/\e= .returned (.tuple #[toldV 0 0 false (.slice none 0 0),errAt (a 1)]))∨
   (∃x l,searchO cs mo (2*cs.length) f (firstS cs m0)=(.fault x,S)/\Back S.E x l/\0<l.length/\ ∃v,e= .returned (.tuple #[toldV S.s S.e true v, .nilIface])/\numsOwn w' w.heap.size v l.reverse))
theorem all_run {a:Nat->Addr} {cs:List (List Ins)} {s:Sta} {p:MkPl} {ad:Option Addr} {cap cb:Nat} {mo:Int} {se:Seer} {X0:Nat->Prop} {w2 w4:World} (so:SeerOk a cs se) (hX: ∀k,X0 k->se.bx=some k/\k<cb) (hI:se.I X0 [] w2) (hlo:se.lo<=cb) (hm:MkAt a cs p (s.mach cs.length) w2) (hR:Right cs) (hgood:(s.fault cs).1=0) (hmo:1<=mo/\mo<=60000) (hcb:cb+1<p.B) (q0:w2.cell? ⟨cb,0,none⟩=some (.slice ad cs.length cap)) (q1:w2.cell? ⟨cb+1,0,none⟩=some se.v)
  (b4:Below w2.heap.size w2 w4) (ht:ToldAt w2.heap.size 0 0 w4) (hws:WsAt (w2.heap.size+1+1) (2*(cs.length:Int)) mo (w2.heap.size+1) (.slice none 0 0) (.func (.func 97) #[] #[.pointer (some ⟨cb,0,none⟩), .pointer (some ⟨w2.heap.size,0,none⟩), .pointer (some ⟨cb+1,0,none⟩)]) w4) (hfo:FoundAt w4 (w2.heap.size+1) []):
  Calls Tryz.prog 99 #[.pointer (some ⟨w2.heap.size+1+1,0,none⟩), .pointer (some ⟨p.b,0,none⟩)] w4 fun e w'=>Hid (RnPost a cs (s.mach cs.length) ⟨w2.heap.size+1+1,w2.heap.size+1,w2.heap.size,cb,ad,cap,2*(cs.length:Int),mo,se⟩ X0 w4 (2*cs.length) e w'):=by
 obtain⟨f1,f2,f3,f4⟩:=Sta.fault_fits hgood
 have ok:=Sta.mach_ok f1 f2 f3
 have hlt:=hm.lt
 have hB:=hm.hB
 have HXO: ∀k,(sq0 X0).X k->k≠cb/\k≠cb+1/\ ¬SrPl.fp0 ⟨w2.heap.size+1+1,w2.heap.size+1,w2.heap.size,cb,ad,cap,2*(cs.length:Int),mo,se⟩ (sq0 X0).v k:=fun k hk=>by
  have h2:=(hX k hk).2
  refine⟨by omega,by omega,fun hf=>?_⟩
  rcases hf with e |e |e |e
  ·have e:k=w2.heap.size+1+1:=e
   omega
  ·have e:k=w2.heap.size+1:=e
   omega
  ·have e:k=w2.heap.size:=e
   omega
  ·cases e
 have SR:SrAt p.B cs.length ⟨w2.heap.size+1+1,w2.heap.size+1,w2.heap.size,cb,ad,cap,2*(cs.length:Int),mo,se⟩ [] (sq0 X0) [] 0 0 w4:=
  ⟨hws,hfo,QAt.nil _ _,ht,⟨keep_cell b4 q0,keep_cell b4 q1⟩,by show w2.heap.size+1+1≠w2.heap.size+1;omega,by show w2.heap.size+1+1≠w2.heap.size;omega,by show w2.heap.size+1≠w2.heap.size;omega,hcb,by show p.B<=w2.heap.size+1+1;omega,by show p.B<=w2.heap.size+1;omega,by show p.B<=w2.heap.size;omega,(fun k hk=>by cases hk),so.fr,so.fr.keep hI (Turns.of_below (S:=fun _ _=>False) b4) (fun _ _ h=>h.elim),HXO,fun k hk=> .inr (hX k hk).1,by show se.lo<=p.B;omega⟩
 refine wrun_any (K:=1) ⟨hm.below b4,ok,hR,by decide⟩ ⟨SR,rfl,fun x hx=>absurd hx List.not_mem_nil,List.Pairwise.nil,so,rfl,rfl⟩ (fun k hp hk=>?_) (by show 2*(cs.length:Int)=((2*cs.length:Nat):Int);omega) (by omega) hR.some' hmo (by decide) (fun d m' hd hr=>hr.key ok (fun t x hx=>?_) hR (by omega))
 ·have :=hm.fp_lt hp
  rcases hk with(e |e |e |e) |e
  ·have e:k=w2.heap.size+1+1:=e
   omega
  ·have e:k=w2.heap.size+1:=e
   omega
  ·have e:k=w2.heap.size:=e
   omega
  ·cases e
  ·have:=(hX k e).2
   have:=hm.fp_ge hp
   omega
 ·have e:(s.mach cs.length).mem.waits t=[]:=rfl
  rw[e] at hx;cases hx
end
end Go.Proofs.YtdpmnlbnlnmjbaaGreatDoor
