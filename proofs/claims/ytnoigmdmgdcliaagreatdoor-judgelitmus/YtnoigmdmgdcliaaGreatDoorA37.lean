import Derived.Test.YtnoigmdmgdcliaaGreatDoorA36
import Derived.Test.YtnoigmdmgdcliaaGreatDoorA01
import Derived.Test.YtnoigmdmgdcliaaGreatDoorA02
import Derived.Test.YtnoigmdmgdcliaaGreatDoorA11
namespace Go.Proofs.YtnoigmdmgdcliaaGreatDoor
set_option maxRecDepth 100000
set_option maxHeartbeats 8000000
section
open Go.RowKit Go.Extern.Stop Go.Stop Go.Extern Go.Maps Go.WideMaps Go.Sort
variable {l:List Ins} {q:ByteArray} {k:Nat} {x:Ins} {g c:Nat} {w0 w:World} {v:Value} {ad:Option Addr}
def partsOwn(ad:Option Addr)(l:List (List Ins))(w:World):Prop:= ∀(t:Nat) L,l[t]? =some L-> ∃b off u,ad=some ⟨b,off,none⟩/\w.cell? ⟨b,off+t,none⟩=some u/\ ∃b2,insOwn w b2 u L
theorem partsOwn.below{l:List (List Ins)}{w w':World}(h:partsOwn ad l w)(hb:Below w.heap.size w w'):partsOwn ad l w':=fun t L ht=>by
 obtain⟨b,off,u,h1,h2,b2,h3⟩:=h t L ht
 exact⟨b,off,u,h1,keep_cell hb h2,b2,insOwn_keep h3 hb⟩
theorem concatG_any {l:List (List Ins)} {cap:Nat} {w:World} (h:partsOwn ad l w) (hk:l.length<=1000) (hl:l.flatten.length<=2000) (h0:0<l.flatten.length):
  Calls Tryz.prog 115 #[.slice ad l.length cap] w fun e w'=> ∃v,e= .returned v/\insOwn w' w.heap.size v l.flatten/\Below w.heap.size w w':=by
 have HH:=hide h
 have HG:=hide (fun w=>growI_nil h0 hl w)
 have HFL:=hide (flatTo_le l)
 have HFA:=hide (flatTo_all l)
 have HNN:=hide (rfl:l.length=l.length)
 obtain⟨n,hn⟩: ∃n,Hid (l.length=n):=⟨_,hide rfl⟩
 obtain⟨N,hN⟩: ∃N,Hid (l.flatten.length=N):=⟨_,hide rfl⟩
 rw[hn.out] at hk ⊢
 rw[hN.out] at hl h0 HG
 clear h
 go_enter Tryz.func115,Tryz.ntmps115
 go_wp2_with fail
 go_loopw [3,5,11] (fun s _ i wr=> ∃k:Nat,k<=n/\i= .int .i64 k/\s= .int .i64 ((flatTo l k).length)/\w=wr) (fun _ _ i _=>n - (intOf i).toNat)
 case atStart=>exact⟨0,Nat.zero_le _,rfl,rfl,(by first |rfl |trivial)⟩
 case round=>
  obtain⟨k,hk',rfl,rfl,rfl⟩:=hrel
  by_cases hlt:k<n
  ·have ki:(k:Int)<n:=by omega
   obtain⟨L,hL⟩: ∃L,l[k]? =some L:=⟨_,List.getElem?_eq_getElem (by rw[hn.out];exact hlt)⟩
   obtain⟨b,off,u,rfl,c0,b2,hu⟩:=HH.out k L hL
   have hs:=congrArg List.length (flatTo_succ hL)
   rw[List.length_append] at hs
   have hle:=HFL.out (k+1)
   rw[hN.out] at hle
   obtain ⟨x,c,rfl⟩: ∃x c,u= .slice x L.length c:=by
    obtain⟨x,c,e, -⟩:=ownsRow_shape hu
    exact⟨x,c,e⟩
   have HS:Hid ((flatTo l (k+1)).length=(flatTo l k).length+L.length):=hide hs
   have q1: ¬(((flatTo l k).length:Int)+(L.length:Int)<0):=by omega
   rw[hs] at hle
   clear hu hL hs
   generalize (flatTo l k).length=f at*
   generalize L.length=m at*
   have wr1:IntKind.i64.wrap ((f:Int)+(m:Int))=(f:Int)+(m:Int):=by rw[IntKind.wrap_i64];omega
   go_wp2_with fail
   go_roundw
   case rel=>exact⟨k+1,by omega,by go_num,by rw[HS.out];go_num,(by first |rfl |trivial)⟩
   case measure=>simp[intOf];omega
  ·obtain rfl:k=n:=by omega
   have e1:flatTo l k=l.flatten:=by rw[<-hn.out];exact HFA.out
   rw[e1,hN.out]
   go_wp2_with fail
   refine(HG.out _).mono ?_
   rintro e w1 ⟨v,rfl,hv,hb1⟩
   have HV:Hid (∃v',insOwn w1 w.heap.size v' []/\v'=v):=hide ⟨v,hv,rfl⟩
   have HB1:=hide hb1
   have HW0:Hid (insOwn w1 w.heap.size v (flatTo l 0)/\Below w.heap.size w w1):=hide ⟨hv,hb1⟩
   clear hv hb1 HV HB1
   go_wp2_with fail
   go_loopw [6,8,27] (fun v _ i wr=> ∃j:Nat,j<=k/\i= .int .i64 j/\Hid (insOwn wr w.heap.size v (flatTo l j)/\Below w.heap.size w wr)) (fun _ _ i _=>k - (intOf i).toNat)
   case atStart=>exact⟨0,Nat.zero_le _,rfl,HW0⟩
   case round=>
    clear HW0
    obtain⟨j,hj,rfl,HR⟩:=hrel
    by_cases hlt2:j<k
    ·have ji:(j:Int)<k:=by omega
     obtain⟨L,hL⟩: ∃L,l[j]? =some L:=⟨_,List.getElem?_eq_getElem (by rw[hn.out];exact hlt2)⟩
     obtain⟨b,off,u,rfl,c0,b2,hu⟩:=HH.out.below HR.out.2 j L hL
     have HS:=hide (flatTo_succ hL)
     have hle:=HFL.out (j+1)
     rw[hN.out,HS.out,List.length_append] at hle
     have HU:=hide hu
     obtain ⟨x,c,rfl⟩: ∃x c,u= .slice x L.length c:=by
      obtain⟨x,c,e, -⟩:=ownsRow_shape hu
      exact⟨x,c,e⟩
     clear hu hL
     go_wp2_with (at_builtin;refine wpList_append_insO _ rfl _ _ rfl w.heap.size b2 (flatTo l j) L _ _ rfl ?q1 rfl ?q2 ?q3 ?q4 ?_)
     case q1=>exact HR.out.1
     case q2=>exact HU.out
     case q3=>omega
     case q4=>exact HR.out.2.size
     intro v' w3 HO3 hb3
     have HR2:Hid (insOwn w3 w.heap.size v' (flatTo l (j+1))/\Below w.heap.size w w3):=hide ⟨by rw[HS.out];exact HO3,HR.out.2.trans hb3⟩
     clear HO3 hb3 HR HU
     go_wp2_with fail
     go_roundw
     case rel=>exact⟨j+1,by omega,by go_num,HR2⟩
     case measure=>simp[intOf];omega
    ·obtain rfl:j=k:=by omega
     have HZ:=hide (show insOwn wr w.heap.size u6 l.flatten/\Below w.heap.size w wr by rw[<-e1];exact HR.out)
     clear HR
     go_wp2_with fail
     go_ret
     exact⟨_,rfl,HZ.out.1,HZ.out.2⟩
theorem cloneG_any {b2:Nat} {w:World} (h:insOwn w b2 v l) (hl:l.length<=2000):
  Calls Tryz.prog 89 #[v] w fun e w'=> ∃v',e= .returned v'/\insOwn w' w.heap.size v' l/\Below w.heap.size w w':=by
 have q22: ∀(w:World) (a:Option Addr) (n c:Nat),(binOp .eql 58 (.slice a n c) (.slice none 0 0)).run Tryz.prog w= .ok (.bool a.isNone) w:=fun w a n c=>Go.run_eql_slice_nil w _ 57 a n c Tryz.underlying58
 have h':=h
 rcases h' with⟨hlen,⟨rfl,h0⟩ |⟨g,cap,cur,rfl,hb,hg,h1,h2,h3,h4⟩⟩
 ·obtain rfl:=List.length_eq_zero_iff.1 h0
  clear h hlen h0 hl
  go_enter Tryz.func89,Tryz.ntmps89
  go_wp2
  go_ret
  exact⟨_,rfl,insOwn_nil _ _,Below.refl _ _⟩
 ·have HC:Hid (∀(k:Nat) u,(icells l)[k]? =some u->w.cell? (Addr.add ⟨g,0,none⟩ k)=some u):=fun k u hu=>by
   have hk:k<l.length*5:=by
    have:=(List.getElem?_eq_some_iff.1 hu).1
    rwa [icells_len] at this
   rw[Addr.add_lit,Nat.zero_add]
   exact(World.ownsRow.cellAt h k hk).trans hu
  obtain⟨ri,hri,hrz,hrs,hrb⟩:=instrInfo
  clear h hlen hb hg h1 h2 h3 h4
  go_enter Tryz.func89,Tryz.ntmps89
  go_wp2_with (at_builtin;refine wpList_append_own _ rfl _ _ 58 rfl w.heap.size 57 ri (.agg #[.string ⟨#[]⟩, .int .i64 0, .int .i64 0, .int .i64 0, .string ⟨#[]⟩]) 5 56 Tryz.underlying58 hri hrz hrs hrb rfl (by decide) _ _ _ rfl (World.ownsRow_made w #[] 0 nL (Nat.zero_le _) rfl) ⟨g,0,none⟩ l.length cap (icells l) rfl ?qc1 ?qc2 ?qc3 ?qc4 ?qc5 ?qc6 ?_)
  case qc1=>exact icells_len l
  case qc2=>
   intro j u hj
   exact keep_cell (bRf.alloc nL _) (HC.out j u hj)
  case qc3=>exact icells_one
  case qc4=>unfold maxLen;omega
  case qc5=>omega
  case qc6=>simp
  intro v' w1 hown hgrow hnil
  have HB:Below w.heap.size w w1:=((Below.refl _ w).alloc nL _).grown hgrow (by simp) (by intro k hk;simp[Value.ownBlock] at hk;omega)
  have HO:Hid (insOwn w1 w.heap.size v' l):=hide (by unfold insOwn;simpa using hown)
  clear hown hgrow hnil
  go_wp2
  go_ret
  exact⟨_,rfl,HO.out,HB⟩
theorem icells_set: ∀(l:List Ins) (k:Nat) (x:Ins) (s:ByteArray),l[k]? =some x->icells (l.set k ⟨x.op,x.a,x.b,x.c,s⟩)=(icells l).set (k*5+4) (.string s)
 | [],_,_,_,h=>by simp at h
 | y::l,0,x,s,h=>by
  obtain rfl:y=x:=by simpa using h
  rfl
 | y::l,k+1,x,s,h=>by
  have ih:=icells_set l k x s (by simpa using h)
  rw[show(k+1)*5+4=(k*5+4)+5 by omega]
  show icell y++icells (l.set k ⟨x.op,x.a,x.b,x.c,s⟩)=(icell y++icells l).set ((k*5+4)+5) (.string s)
  rw[ih]
  rfl
theorem insOwn_setTo{w:World}{base g cap n:Nat}(h:insOwn w base (.slice (some ⟨g,0,none⟩) n cap) l)(hx:l[k]? =some x)(s:ByteArray):insOwn (w.setCell ⟨g,k*5+4,none⟩ (.string s)) base (.slice (some ⟨g,0,none⟩) n cap) (l.set k ⟨x.op,x.a,x.b,x.c,s⟩):=by
 obtain⟨h1,h2⟩:=h
 rcases h2 with⟨e, -⟩ |⟨g',cap',cur,e,hg,hh,hn,hm,hs,hc⟩
 ·cases e
 ·cases e
  refine⟨by rw[icells_len,List.length_set], .inr ⟨g,cap,cur.setIfInBounds (k*5+4) (.string s),by rw[List.length_set],hg,heap_setCell_same w g (k*5+4) cur _ _ hh,by rw[List.length_set];exact hn,hm,by simpa using hs,?_⟩⟩
  rw[List.length_set,Array.toList_setIfInBounds,List.take_set,hc,icells_set l k x s hx]
theorem namedTo_set(h:l[k]? =some x)(hx:lbOp x.op=true):namedTo q l (k+1)=(namedTo q l k).set k ⟨x.op,x.a,x.b,x.c,x.to++thDot++q⟩:=List.ext_getElem? fun i=>by
 have hk:k<l.length:=(List.getElem?_eq_some_iff.1 h).1
 by_cases e:i=k
 ·subst e
  rw[List.getElem?_set_self (by unfold namedTo;rw[List.length_mapIdx];exact hk),namedTo_get,h,Option.map_some,if_pos (Nat.lt_succ_self _)]
  unfold namedI
  rw[if_pos hx]
 ·rw[List.getElem?_set_ne (Ne.symm e),namedTo_get,namedTo_get]
  have:(i<k+1)=(i<k):=by simp only[eq_iff_iff];omega
  simp only[this]
theorem namedTo_at(h:l[k]? =some x):(namedTo q l k)[k]? =some x:=by
 rw[namedTo_get,h,Option.map_some,if_neg (Nat.lt_irrefl _)]
structure NOwn(q:ByteArray)(l:List Ins)(g c:Nat)(w0:World)(k:Nat)(w:World):Prop where
 own:insOwn w w0.heap.size (.slice (some ⟨g,0,none⟩) l.length c) (namedTo q l k)
 fz: ∀o,w.frozen? ⟨g,o,none⟩=false
 low:Below w0.heap.size w0 w
 ge:w0.heap.size<=g
 lt:g<w.heap.size
theorem NOwn.below{w0 w w':World}(h:NOwn q l g c w0 k w)(hb:Below w.heap.size w w'):NOwn q l g c w0 k w':=
 ⟨insOwn_keep h.own hb,fun o=>by rw[hb.frozen (show g<_ from h.lt)];exact h.fz o,below_step h.low hb,h.ge,Nat.lt_of_lt_of_le h.lt hb.size⟩
theorem NOwn.skip(h:NOwn q l g c w0 k w)(hx:l[k]? =some x)(hn:lbOp x.op=false):NOwn q l g c w0 (k+1) w:=⟨by rw[namedTo_skip hx hn];exact h.own,h.fz,h.low,h.ge,h.lt⟩
theorem NOwn.put(h:NOwn q l g c w0 k w)(hx:l[k]? =some x)(hn:lbOp x.op=true):NOwn q l g c w0 (k+1) (w.setCell ⟨g,k*5+4,none⟩ (.string (x.to++thDot++q))):=
 ⟨by rw[namedTo_set hx hn];exact insOwn_setTo h.own (namedTo_at hx) _,fun o=>by rw[World.frozen?_setCell];exact h.fz o,h.low.setCell h.ge _,h.ge,by simpa [World.setCell] using h.lt⟩
theorem NOwn.to(h:NOwn q l g c w0 k w)(hx:l[k]? =some x):w.cell? ⟨g,k*5+4,none⟩=some (.string x.to):=by
 have hlen:(namedTo q l k).length=l.length:=by unfold namedTo;rw[List.length_mapIdx]
 have hk:0<(namedTo q l k).length:=by rw[hlen];have:=(List.getElem?_eq_some_iff.1 hx).1;omega
 obtain⟨ad,cap,e,hi⟩:=insOwn_open h.own hk
 rw[hlen] at e
 cases e
 obtain⟨b,off,e, -, -, -, -,c4⟩:=hi k x (namedTo_at hx)
 cases e
 rw[Nat.zero_add] at c4
 exact c4
open Classical in
theorem namedG_pos {x0:Addr} {cap b0:Nat} {w0:World} (h:insOwn w0 b0 (.slice (some x0) l.length cap) l) (hl:l.length<=2000) (h0:0<l.length) (hn: ∀x∈l,lbOp x.op=true->isName (x.to++thDot++q)):
  Calls Tryz.prog 183 #[.string q, .slice (some x0) l.length cap] w0 fun e w'=> ∃v',e= .returned (.tuple #[v', .nilIface])/\insOwn w' w0.heap.size v' (l.map (namedI q))/\Below w0.heap.size w0 w':=by
 have HCL:=hide (cloneG_any h hl)
 have HH:Hid (insAt (some x0) l w0):=hide (by
  obtain⟨ad,cap',e,hi⟩:=insOwn_open h h0
  cases e
  exact hi)
 have HN:=hide hn
 have HL:=hide (fun op w=>hasLabel_any op w)
 have HI:=hide (fun(s:ByteArray) (hs:isName s) w=>show Calls Tryz.prog 178 #[.string s] w fun e w'=>e= .returned (.bool true)/\Below w.heap.size w w' from(pisName_any s w).mono fun _ _ ⟨h1,h2⟩=>⟨by rw[h1,decide_eq_true hs],h2⟩)
 have HAL:=hide (namedTo_all q l)
 have HZ:=hide (namedTo_zero q l)
 obtain⟨n,hln⟩: ∃n,Hid (l.length=n):=⟨_,hide rfl⟩
 rw[hln.out] at HCL HAL hl h0 ⊢
 clear h hn
 go_enter Tryz.func183,Tryz.ntmps183
 go_wp2_with fail
 refine HCL.out.mono ?_
 rintro e w1 ⟨v,rfl,hv,hb1⟩
 obtain⟨g,c,hge,hve,hat,hfz,hlt,hcl⟩:=insOwn_deep hv (by rw[hln.out];exact h0)
 have hv2:=hv
 rw[hve] at hv2
 have HV2:=hide hv2
 clear hv2
 rw[hln.out] at hcl hve
 subst hve
 have H0:Hid (NOwn q l g c w0 0 w1):=hide ⟨by rw[HZ.out];exact HV2.out,hfz,hb1,hge,hlt⟩
 clear hv hat hfz hb1 hge hlt HCL HV2
 go_wp2_with fail
 go_loopw [7,8,9,14] (fun _ _ _ i wr=> ∃k:Nat,k<=n/\i= .int .i64 k/\Hid (NOwn q l g c w0 k wr)) (fun _ _ _ i _=>n - (intOf i).toNat)
 case atStart=>exact⟨0,Nat.zero_le _,rfl,H0⟩
 case round=>
  clear H0
  obtain⟨k,hk,rfl,HR⟩:=hrel
  by_cases hlt:k<n
  ·have ki:(k:Int)<n:=by omega
   obtain⟨x,hx⟩: ∃x,l[k]? =some x:=⟨_,List.getElem?_eq_getElem (by rw[hln.out];exact hlt)⟩
   obtain⟨b,off,e0,c0,c1,c2,c3,c4⟩:=insAt_below HH.out HR.out.low k x hx
   cases e0
   have HLx:=hide (HL.out x.op)
   cases hlb:lbOp x.op
   ·rw[hlb] at HLx
    have HST:=hide (fun w (h:NOwn q l g c w0 k w)=>h.skip hx hlb)
    clear hx hlb
    go_wp2_with fail
    refine(HLx.out _).mono ?_
    rintro e w2 ⟨rfl,hb2⟩
    have HR2:=hide (HST.out _ ((HR.out.below (bRf.alloc nL _)).below hb2))
    clear HST HR hb2 HLx
    go_wp2_with fail
    go_roundw
    case rel=>exact⟨k+1,by omega,by go_num,HR2⟩
    case measure=>simp[intOf];omega
   ·rw[hlb] at HLx
    have HST:=hide (fun w (h:NOwn q l g c w0 k w)=>h.put hx hlb)
    have HTO:=hide (fun w (h:NOwn q l g c w0 k w)=>h.to hx)
    have hnm:=HN.out x (List.mem_of_getElem? hx) hlb
    have HIx:=hide (HI.out _ hnm)
    have hz:=hnm.2.1
    rw[ByteArray.size_append,ByteArray.size_append] at hz
    have hz1:thDot.size=1:=rfl
    have hz2:x.to.size+1<=9223372036854775807:=by omega
    have hz3:(x.to++(⟨#[46]⟩:ByteArray)).size+q.size<=9223372036854775807:=by rw[ByteArray.size_append];show x.to.size+1+q.size<=_;omega
    clear hx hlb hnm hz hz1
    go_wp2_with fail
    refine(HLx.out _).mono ?_
    rintro e w2 ⟨rfl,hb2⟩
    have HR2:=hide ((HR.out.below (bRf.alloc nL _)).below hb2)
    have k4:w2.cell? ⟨wr.heap.size,4,none⟩=some (.string x.to):=keep_cell hb2 (by rw[World.cell?_alloc_new];rfl)
    clear HR hb2 HLx
    go_wp2_with fail
    refine(HIx.out _).mono ?_
    rintro e w3 ⟨rfl,hb3⟩
    have HR3:=hide (HR2.out.below hb3)
    have d4:=HTO.out _ HR3.out
    have z4:=HR3.out.fz (k*5+4)
    have HR4:=hide (HST.out _ HR3.out)
    clear HR2 hb3 HIx k4 HR3 HST HTO
    go_wp2_with fail
    go_roundw
    case rel=>exact⟨k+1,by omega,by go_num,HR4⟩
    case measure=>simp[intOf];omega
  ·obtain rfl:k=n:=by omega
   have HF:Hid (insOwn wr w0.heap.size (.slice (some ⟨g,0,none⟩) k c) (l.map (namedI q))/\Below w0.heap.size w0 wr):=hide ⟨by have:=HR.out.own;rw[HAL.out,hln.out] at this;exact this,HR.out.low⟩
   clear HR
   go_wp2_with fail
   go_ret2
   exact⟨_,rfl,HF.out.1,HF.out.2⟩
theorem namedG_nil{b0:Nat}{w0:World}(h:insOwn w0 b0 v []):
  Calls Tryz.prog 183 #[.string q,v] w0 fun e w'=> ∃v',e= .returned (.tuple #[v', .nilIface])/\insOwn w' w0.heap.size v' []/\Below w0.heap.size w0 w':=by
 have HCL:=hide (cloneG_any h (Nat.zero_le _))
 obtain⟨x,c,rfl, -⟩:=ownsRow_shape h
 clear h
 go_enter Tryz.func183,Tryz.ntmps183
 go_wp2_with fail
 refine HCL.out.mono ?_
 rintro e w1 ⟨v,rfl,hv,hb1⟩
 have HV:=hide (And.intro hv hb1)
 obtain⟨x2,c2,rfl, -⟩:=ownsRow_shape hv
 clear hv hb1 HCL
 go_wp2_with fail
 go_loopw [7,8,9,14] (fun _ _ _ i wr=>i= .int .i64 0/\w1=wr) (fun _ _ _ i _=>1 - (intOf i).toNat)
 case atStart=>exact⟨rfl,(by first |rfl |trivial)⟩
 case round=>
  obtain⟨rfl,rfl⟩:=hrel
  go_wp2_with fail
  go_ret2
  exact⟨_,rfl,HV.out.1,HV.out.2⟩
theorem namedG_any{b0:Nat}{w0:World}(h:insOwn w0 b0 v l)(hl:l.length<=2000)(hn: ∀x∈l,lbOp x.op=true->isName (x.to++thDot++q)):
  Calls Tryz.prog 183 #[.string q,v] w0 fun e w'=> ∃v',e= .returned (.tuple #[v', .nilIface])/\insOwn w' w0.heap.size v' (l.map (namedI q))/\Below w0.heap.size w0 w':=by
 by_cases h0:0<l.length
 ·obtain⟨ad,cap,rfl, -⟩:=insOwn_open h h0
  exact namedG_pos h hl h0 hn
 ·obtain rfl:l=[]:=List.length_eq_zero_iff.1 (by omega)
  exact namedG_nil h
end
section
open Go.RowKit Go.Extern.Stop Go.Stop Go.Extern Go.Maps Go.WideMaps Go.Sort
variable {l:List Ins} {v:Value} {w:World}
def thNo:ByteArray:=⟨#[]⟩
def thNone:ByteArray:=⟨#[110,111,110,101]⟩
def thMore:ByteArray:=⟨#[109,111,114,101]⟩
def oLabel:ByteArray:=⟨#[108,97,98,101,108]⟩
def oZero:ByteArray:=⟨#[122,101,114,111]⟩
def oConst:ByteArray:=⟨#[99,111,110,115,116]⟩
def oStore:ByteArray:=⟨#[115,116,111,114,101]⟩
def oLoad:ByteArray:=⟨#[108,111,97,100]⟩
def oMove:ByteArray:=⟨#[109,111,118,101]⟩
def oAlloc:ByteArray:=⟨#[97,108,108,111,99]⟩
def oFree:ByteArray:=⟨#[102,114,101,101]⟩
def oGoto:ByteArray:=⟨#[103,111,116,111]⟩
def oSwap:ByteArray:=⟨#[115,119,97,112]⟩
def oNeed:ByteArray:=⟨#[110,101,101,100]⟩
def oMark:ByteArray:=⟨#[109,97,114,107]⟩
def oStop:ByteArray:=⟨#[115,116,111,112]⟩
def uls(r:Int)(l:List Ins):List Ins:=[⟨oZero,r,0,0,thNone⟩]++(l++[⟨oLabel,0,0,0,thNone⟩])
def numC(n:Int):List Ins:=[⟨oConst,0,n,0,thNo⟩,⟨oStore,3,0,0,thNo⟩]
def newC(n:Int)(l:List Ins):List Ins:=[⟨oAlloc,3,0,0,thNo⟩]++uls 3 (numC n++l)
def emptyC:List Ins:=[⟨oLabel,0,0,0,thMore⟩]++uls 4 [⟨oLoad,0,4,1,thNo⟩,⟨oFree,4,0,0,thNo⟩,⟨oMove,4,0,0,thNo⟩,⟨oGoto,0,0,0,thMore⟩]
def keepC:List Ins:=[⟨oStore,3,4,1,thNo⟩,⟨oMove,4,3,0,thNo⟩]
def readC:List Ins:=[⟨oLoad,0,5,0,thNo⟩,⟨oLoad,0,0,0,thNo⟩,⟨oNeed,0,0,0,thNo⟩,⟨oMark,0,0,0,thNo⟩]
def putC(n:Int):List Ins:=newC n [⟨oSwap,3,5,0,thNo⟩]
theorem tunless_ok (r:Int) {b2:Nat} (h:insOwn w b2 v l) (hl:l.length<=1000):
  Calls Tryz.prog 67 #[.int .i64 r,v] w fun e w'=> ∃v',e= .returned v'/\insOwn w' w.heap.size v' (uls r l)/\Below w.heap.size w w':=by
 obtain⟨x,c,rfl, -⟩:=ownsRow_shape h
 have hB: ∀A B C,Below w.heap.size w (((w.alloc A).alloc B).alloc C):=fun A B C=>((bRf.alloc nL _).alloc (by simp) _).alloc (by simp;omega) _
 have HP:Hid (partsOwn (some ⟨w.heap.size+1+1,0,none⟩) [[⟨oZero,r,0,0,thNone⟩],l,[⟨oLabel,0,0,0,thNone⟩]] (((w.alloc (.cells #[.string oZero, .int .i64 r, .int .i64 0, .int .i64 0, .string thNone] 57)).alloc (.cells #[.string oLabel, .int .i64 0, .int .i64 0, .int .i64 0, .string thNone] 57)).alloc (.cells #[.slice (some ⟨w.heap.size,0,none⟩) 1 1, .slice x l.length c, .slice (some ⟨w.heap.size+1,0,none⟩) 1 1] 58))):=hide (by
  intro t L ht
  have hc: ∀j,(((w.alloc (.cells #[.string oZero, .int .i64 r, .int .i64 0, .int .i64 0, .string thNone] 57)).alloc (.cells #[.string oLabel, .int .i64 0, .int .i64 0, .int .i64 0, .string thNone] 57)).alloc (.cells #[.slice (some ⟨w.heap.size,0,none⟩) 1 1, .slice x l.length c, .slice (some ⟨w.heap.size+1,0,none⟩) 1 1] 58)).cell? ⟨w.heap.size+1+1,0+j,none⟩=(#[.slice (some ⟨w.heap.size,0,none⟩) 1 1, .slice x l.length c, .slice (some ⟨w.heap.size+1,0,none⟩) 1 1]:Array Value)[j]? :=fun j=>by
   rw[Nat.zero_add]
   have:=World.cell?_alloc_new ((w.alloc (.cells #[.string oZero, .int .i64 r, .int .i64 0, .int .i64 0, .string thNone] 57)).alloc (.cells #[.string oLabel, .int .i64 0, .int .i64 0, .int .i64 0, .string thNone] 57)) #[.slice (some ⟨w.heap.size,0,none⟩) 1 1, .slice x l.length c, .slice (some ⟨w.heap.size+1,0,none⟩) 1 1] 58 j
   rwa [World.size_alloc,World.size_alloc] at this
  match t,ht with
  | 0,ht=>
   cases ht
   refine⟨_,0,_,rfl,hc 0,0,insOwn_keep (insOwn_keep (insOwn_new (l:=[⟨oZero,r,0,0,thNone⟩]) rfl (Nat.zero_le _) (show 1<=1000 by decide)) (bRf.alloc nL _)) (bRf.alloc nL _)⟩
  | 1,ht=>
   cases ht
   exact⟨_,0,_,rfl,hc 1,b2,insOwn_keep h (hB _ _ _)⟩
  | 2,ht=>
   cases ht
   have h2:=insOwn_new (w:=w.alloc (.cells #[.string oZero, .int .i64 r, .int .i64 0, .int .i64 0, .string thNone] 57)) (l:=[⟨oLabel,0,0,0,thNone⟩]) (cs:=#[.string oLabel, .int .i64 0, .int .i64 0, .int .i64 0, .string thNone]) (base:=0) rfl (Nat.zero_le _) (show 1<=1000 by decide)
   rw[World.size_alloc] at h2
   exact⟨_,0,_,rfl,hc 2,0,insOwn_keep h2 (bRf.alloc nL _)⟩)
 have HC:=hide (concatG_any (cap:=3) HP.out (show 3<=1000 by decide) (by simp;omega) (by simp))
 have HB:=hide (hB (.cells #[.string oZero, .int .i64 r, .int .i64 0, .int .i64 0, .string thNone] 57) (.cells #[.string oLabel, .int .i64 0, .int .i64 0, .int .i64 0, .string thNone] 57) (.cells #[.slice (some ⟨w.heap.size,0,none⟩) 1 1, .slice x l.length c, .slice (some ⟨w.heap.size+1,0,none⟩) 1 1] 58))
 have HE:Hid (([[⟨oZero,r,0,0,thNone⟩],l,[⟨oLabel,0,0,0,thNone⟩]]:List (List Ins)).flatten=uls r l):=hide (by simp[uls])
 rw[HE.out] at HC
 clear hB HP h HE
 go_enter Tryz.func67,Tryz.ntmps67
 go_wp2_with fail
 refine HC.out.mono ?_
 rintro e w2 ⟨v,rfl,hv,hb⟩
 have HO:=hide (insOwn_mono hv HB.out.size)
 have HB2:=hide (below_step HB.out hb)
 clear hv hb HB HC
 go_wp2_with fail
 go_ret
 exact⟨_,rfl,HO.out,HB2.out⟩
theorem tnew_ok(n:Int){b2:Nat}(h:insOwn w b2 v l)(h0:0<l.length)(hl:l.length<=900):
  Calls Tryz.prog 131 #[.int .i64 n,v] w fun e w'=> ∃v',e= .returned v'/\insOwn w' w.heap.size v' (newC n l)/\Below w.heap.size w w':=by
 obtain⟨x,c,rfl,hli⟩:=insOwn_open h h0
 have hB1:Below w.heap.size w (w.alloc (.cells #[.string oConst, .int .i64 0, .int .i64 n, .int .i64 0, .string thNo, .string oStore, .int .i64 3, .int .i64 0, .int .i64 0, .string thNo] 57)):=bRf.alloc nL _
 have hN:=insOwn_new (w:=w) (l:=numC n) (cs:=#[.string oConst, .int .i64 0, .int .i64 n, .int .i64 0, .string thNo, .string oStore, .int .i64 3, .int .i64 0, .int .i64 0, .string thNo]) (base:=w.heap.size) rfl nL (show 2<=1000 by decide)
 have hA:=insOwn_new (w:=w.alloc (.cells #[.string oConst, .int .i64 0, .int .i64 n, .int .i64 0, .string thNo, .string oStore, .int .i64 3, .int .i64 0, .int .i64 0, .string thNo] 57)) (l:=[⟨oAlloc,3,0,0,thNo⟩]) (cs:=#[.string oAlloc, .int .i64 3, .int .i64 0, .int .i64 0, .string thNo]) (base:=w.heap.size) rfl hB1.size (show 1<=1000 by decide)
 rw[World.size_alloc] at hA
 have hB2:Below w.heap.size w ((w.alloc (.cells #[.string oConst, .int .i64 0, .int .i64 n, .int .i64 0, .string thNo, .string oStore, .int .i64 3, .int .i64 0, .int .i64 0, .string thNo] 57)).alloc (.cells #[.string oAlloc, .int .i64 3, .int .i64 0, .int .i64 0, .string thNo] 57)):=hB1.alloc hB1.size _
 have HN:=hide (insOwn_keep hN (bRf.alloc nL (.cells #[.string oAlloc, .int .i64 3, .int .i64 0, .int .i64 0, .string thNo] 57)))
 have HA:=hide hA
 have HU:=hide (insAt_below hli hB2)
 have HB:=hide hB2
 have hlc:(numC n).length=2:=rfl
 clear hB1 hN hA hB2 h hli
 go_enter Tryz.func131,Tryz.ntmps131
 go_wp2_with (at_builtin;refine wpList_append_ins _ rfl _ _ rfl w.heap.size (numC n) l _ _ _ rfl ?q1 rfl ?q2 h0 ?q3 ?q4 ?_)
 case q1=>exact HN.out
 case q2=>exact HU.out
 case q3=>rw[hlc];omega
 case q4=>exact HB.out.size
 intro v1 w1 ho1 hb1 hs1 hg1 hl1
 have HA1:=hide (insOwn_kept HA.out hg1 (.inr (fun e=>by have:=Option.some.inj e;dsimp only at this;omega)))
 have HB1:=hide (HB.out.trans hb1)
 have HUN:=hide (tunless_ok 3 ho1 (by rw[List.length_append,hlc];omega))
 clear ho1 hb1 hs1 hg1 hl1 HA HB HU HN
 go_wp2_with fail
 refine HUN.out.mono ?_
 rintro e w2 ⟨v2,rfl,ho2,hb2⟩
 have HA2:=hide (insOwn_keep HA1.out hb2)
 have HB2:=hide (below_step HB1.out hb2)
 have HO2:=hide ho2
 clear ho2 hb2 HA1 HUN HB1
 go_wp2_with (at_builtin;refine wpList_append_insO _ rfl _ _ rfl w.heap.size w1.heap.size [⟨oAlloc,3,0,0,thNo⟩] (uls 3 (numC n++l)) _ _ rfl ?q1 rfl ?q2 ?q3 ?q4 ?_)
 case q1=>exact HA2.out
 case q2=>exact HO2.out
 case q3=>simp[uls,hlc];omega
 case q4=>exact HB2.out.size
 intro v3 w3 ho3 hb3
 have HO3:Hid (insOwn w3 w.heap.size v3 (newC n l)):=hide ho3
 have HB3:=hide (HB2.out.trans hb3)
 clear ho3 hb3 HB2 HA2 HO2
 go_wp2_with fail
 go_ret
 exact⟨_,rfl,HO3.out,HB3.out⟩
theorem tkeep_ok(w:World):Calls Tryz.prog 68 #[.int .i64 1] w fun e w'=> ∃v',e= .returned v'/\insOwn w' w.heap.size v' keepC/\Below w.heap.size w w':=by
 go_enter Tryz.func68,Tryz.ntmps68
 go_wp2_with fail
 go_ret
 exact⟨_,rfl,insOwn_new (l:=keepC) rfl nL (show 2<=1000 by decide),bRf.alloc nL _⟩
theorem cread_ok(w:World):Calls Tryz.prog 65 #[] w fun e w'=> ∃v',e= .returned v'/\insOwn w' w.heap.size v' readC/\Below w.heap.size w w':=by
 go_enter Tryz.func65,Tryz.ntmps65
 go_wp2_with fail
 go_ret
 exact⟨_,rfl,insOwn_new (l:=readC) rfl nL (show 4<=1000 by decide),bRf.alloc nL _⟩
theorem cput_ok(n:Int)(w:World):Calls Tryz.prog 66 #[.int .i64 n] w fun e w'=> ∃v',e= .returned v'/\insOwn w' w.heap.size v' (putC n)/\Below w.heap.size w w':=by
 have hB:Below w.heap.size w (w.alloc (.cells #[.string oSwap, .int .i64 3, .int .i64 5, .int .i64 0, .string thNo] 57)):=bRf.alloc nL _
 have HN:=hide (tnew_ok n (insOwn_new (w:=w) (l:=[⟨oSwap,3,5,0,thNo⟩]) (cs:=#[.string oSwap, .int .i64 3, .int .i64 5, .int .i64 0, .string thNo]) (base:=w.heap.size) rfl nL (show 1<=1000 by decide)) (show 0<1 by decide) (show 1<=900 by decide))
 have HB:=hide hB
 clear hB
 go_enter Tryz.func66,Tryz.ntmps66
 go_wp2_with fail
 refine HN.out.mono ?_
 rintro e w2 ⟨v,rfl,hv,hb⟩
 have HO:=hide (insOwn_mono hv HB.out.size)
 have HB2:=hide (below_step HB.out hb)
 clear hv hb HB HN
 go_wp2_with fail
 go_ret
 exact⟨_,rfl,HO.out,HB2.out⟩
theorem tempty_ok(w:World):Calls Tryz.prog 64 #[.int .i64 1] w fun e w'=> ∃v',e= .returned v'/\insOwn w' w.heap.size v' emptyC/\Below w.heap.size w w':=by
 have hB1:Below w.heap.size w (w.alloc (.cells #[.string oLabel, .int .i64 0, .int .i64 0, .int .i64 0, .string thMore] 57)):=bRf.alloc nL _
 have hL:=insOwn_new (w:=w) (l:=[⟨oLabel,0,0,0,thMore⟩]) (cs:=#[.string oLabel, .int .i64 0, .int .i64 0, .int .i64 0, .string thMore]) (base:=w.heap.size) rfl nL (show 1<=1000 by decide)
 have hC:=insOwn_new (w:=w.alloc (.cells #[.string oLabel, .int .i64 0, .int .i64 0, .int .i64 0, .string thMore] 57)) (l:=[⟨oLoad,0,4,1,thNo⟩,⟨oFree,4,0,0,thNo⟩,⟨oMove,4,0,0,thNo⟩,⟨oGoto,0,0,0,thMore⟩]) (cs:=#[.string oLoad, .int .i64 0, .int .i64 4, .int .i64 1, .string thNo, .string oFree, .int .i64 4, .int .i64 0, .int .i64 0, .string thNo, .string oMove, .int .i64 4, .int .i64 0, .int .i64 0, .string thNo, .string oGoto, .int .i64 0, .int .i64 0, .int .i64 0, .string thMore]) (base:=w.heap.size) rfl hB1.size (show 4<=1000 by decide)
 rw[World.size_alloc] at hC
 have HU:=hide (tunless_ok 4 hC (show 4<=1000 by decide))
 have hB2:=hB1.alloc hB1.size (.cells #[.string oLoad, .int .i64 0, .int .i64 4, .int .i64 1, .string thNo, .string oFree, .int .i64 4, .int .i64 0, .int .i64 0, .string thNo, .string oMove, .int .i64 4, .int .i64 0, .int .i64 0, .string thNo, .string oGoto, .int .i64 0, .int .i64 0, .int .i64 0, .string thMore] 57)
 have HL:=hide (insOwn_keep hL (bRf.alloc nL (.cells #[.string oLoad, .int .i64 0, .int .i64 4, .int .i64 1, .string thNo, .string oFree, .int .i64 4, .int .i64 0, .int .i64 0, .string thNo, .string oMove, .int .i64 4, .int .i64 0, .int .i64 0, .string thNo, .string oGoto, .int .i64 0, .int .i64 0, .int .i64 0, .string thMore] 57)))
 have HB:=hide hB2
 clear hB1 hL hC hB2
 go_enter Tryz.func64,Tryz.ntmps64
 go_wp2_with fail
 refine HU.out.mono ?_
 rintro e w2 ⟨v2,rfl,ho2,hb2⟩
 have HL2:=hide (insOwn_keep HL.out hb2)
 have HB2:=hide (below_step HB.out hb2)
 have HO2:=hide (insOwn_mono ho2 (Nat.zero_le _))
 clear ho2 hb2 HL HU HB
 go_wp2_with (at_builtin;refine wpList_append_insO _ rfl _ _ rfl w.heap.size 0 [⟨oLabel,0,0,0,thMore⟩] (uls 4 [⟨oLoad,0,4,1,thNo⟩,⟨oFree,4,0,0,thNo⟩,⟨oMove,4,0,0,thNo⟩,⟨oGoto,0,0,0,thMore⟩]) _ _ rfl ?q1 rfl ?q2 ?q3 ?q4 ?_)
 case q1=>exact HL2.out
 case q2=>exact HO2.out
 case q3=>show 1+6<=2000;decide
 case q4=>exact HB2.out.size
 intro v3 w3 ho3 hb3
 have HO3:Hid (insOwn w3 w.heap.size v3 emptyC):=hide ho3
 have HB3:=hide (HB2.out.trans hb3)
 clear ho3 hb3 HB2 HL2 HO2
 go_wp2_with fail
 go_ret
 exact⟨_,rfl,HO3.out,HB3.out⟩
end
section
open Go.RowKit Go.Extern.Stop Go.Stop Go.Extern
variable {a:Nat->Addr}
structure EnvL(a:Nat->Addr)(w:World):Prop where
 cell: ∀i,i=1∨i=2∨i=4∨i=7->w.cell? ⟨gid i,0,none⟩=some (errAt (a i))
theorem EnvL.below{w w':World}(h:EnvL a w)(hb: ∀k,k<w.heap.size->w'.heap[k]? =w.heap[k]?):EnvL a w' where
 cell i hi:=by rw[World.cell?_of_block (w:=w) (hb _ (World.block_lt_of_cell? w _ (h.cell i hi)))];exact h.cell i hi
theorem Env.toL{w:World}(h:Env a w):EnvL a w:=⟨fun i hi=>h.cell i (by unfold okI;omega)⟩
end
section
open Go.RowKit Go.Extern.Stop Go.Stop Go.Extern
variable {ret wt:Bool} {deep:Int} {w:World} {c:Nat}
def kn(s:List UInt8):Nat:=if(s==[112,117,116])=true then 1 else if(s==[101,110,116,101,114])=true then 2 else if(s==[108,101,97,118,101])=true then 3 else if(s==[114,101,115,116])=true then 4 else if(s==[119,97,105,116])=true then 5 else if(s==[114,101,97,100])=true then 6 else if(s==[100,114,111,112])=true then 7 else if(s==[108,97,116,101,114])=true then 8 else if(s==[102,108,117,115,104])=true then 9 else 0
def KF(s:List UInt8)(b1 b2 b3 b4 b5 b6 b7 b8 b9:Bool):Prop:=(s==[112,117,116])=b1/\(s==[101,110,116,101,114])=b2/\(s==[108,101,97,118,101])=b3/\(s==[114,101,115,116])=b4/\(s==[119,97,105,116])=b5/\(s==[114,101,97,100])=b6/\(s==[100,114,111,112])=b7/\(s==[108,97,116,101,114])=b8/\(s==[102,108,117,115,104])=b9
theorem kcases(s:List UInt8):(KF s true false false false false false false false false/\kn s=1)∨(KF s false true false false false false false false false/\kn s=2)∨(KF s false false true false false false false false false/\kn s=3)∨(KF s false false false true false false false false false/\kn s=4)∨(KF s false false false false true false false false false/\kn s=5)∨(KF s false false false false false true false false false/\kn s=6)∨(KF s false false false false false false true false false/\kn s=7)∨(KF s false false false false false false false true false/\kn s=8)∨(KF s false false false false false false false false true/\kn s=9)∨(KF s false false false false false false false false false/\kn s=0):=by
 by_cases h1:s=[112,117,116]
 ·subst h1;exact .inl ⟨⟨rfl,rfl,rfl,rfl,rfl,rfl,rfl,rfl,rfl⟩,rfl⟩
 by_cases h2:s=[101,110,116,101,114]
 ·subst h2;exact .inr (.inl ⟨⟨rfl,rfl,rfl,rfl,rfl,rfl,rfl,rfl,rfl⟩,rfl⟩)
 by_cases h3:s=[108,101,97,118,101]
 ·subst h3;exact .inr (.inr (.inl ⟨⟨rfl,rfl,rfl,rfl,rfl,rfl,rfl,rfl,rfl⟩,rfl⟩))
 by_cases h4:s=[114,101,115,116]
 ·subst h4;exact .inr (.inr (.inr (.inl ⟨⟨rfl,rfl,rfl,rfl,rfl,rfl,rfl,rfl,rfl⟩,rfl⟩)))
 by_cases h5:s=[119,97,105,116]
 ·subst h5;exact .inr (.inr (.inr (.inr (.inl ⟨⟨rfl,rfl,rfl,rfl,rfl,rfl,rfl,rfl,rfl⟩,rfl⟩))))
 by_cases h6:s=[114,101,97,100]
 ·subst h6;exact .inr (.inr (.inr (.inr (.inr (.inl ⟨⟨rfl,rfl,rfl,rfl,rfl,rfl,rfl,rfl,rfl⟩,rfl⟩)))))
 by_cases h7:s=[100,114,111,112]
 ·subst h7;exact .inr (.inr (.inr (.inr (.inr (.inr (.inl ⟨⟨rfl,rfl,rfl,rfl,rfl,rfl,rfl,rfl,rfl⟩,rfl⟩))))))
 by_cases h8:s=[108,97,116,101,114]
 ·subst h8;exact .inr (.inr (.inr (.inr (.inr (.inr (.inr (.inl ⟨⟨rfl,rfl,rfl,rfl,rfl,rfl,rfl,rfl,rfl⟩,rfl⟩)))))))
 by_cases h9:s=[102,108,117,115,104]
 ·subst h9;exact .inr (.inr (.inr (.inr (.inr (.inr (.inr (.inr (.inl ⟨⟨rfl,rfl,rfl,rfl,rfl,rfl,rfl,rfl,rfl⟩,rfl⟩))))))))
 have e:KF s false false false false false false false false false:=⟨beq_eq_false_iff_ne.2 h1,beq_eq_false_iff_ne.2 h2,beq_eq_false_iff_ne.2 h3,beq_eq_false_iff_ne.2 h4,beq_eq_false_iff_ne.2 h5,beq_eq_false_iff_ne.2 h6,beq_eq_false_iff_ne.2 h7,beq_eq_false_iff_ne.2 h8,beq_eq_false_iff_ne.2 h9⟩
 refine .inr (.inr (.inr (.inr (.inr (.inr (.inr (.inr (.inr ⟨e,?_⟩))))))))
 obtain⟨e1,e2,e3,e4,e5,e6,e7,e8,e9⟩:=e
 unfold kn
 simp only[e1,e2,e3,e4,e5,e6,e7,e8,e9]
 rfl
def ckErr(i:Nat)(deep:Int)(ret:Bool):Nat:=
 if i=3∨i=6 then(if 0<deep then 0 else 8) else if i=4∨i=5∨i=9 then(if 0<deep then 8 else 0) else if i=1 then(if 0<deep∨ret=true then 8 else 0) else if i=7∨i=8 then(if ret=true then 0 else 5) else 0
theorem ccheck_any {a:Nat->Addr} (deep:Int) (ret wt:Bool) (k:ByteArray) (hE:EnvL a w):
  Calls Tryz.prog 174 #[.agg #[.int .i64 deep, .bool ret, .bool wt], .string k] w fun e w'=>e= .returned (errVal a (ckErr (kn k.toList) deep ret))/\Below w.heap.size w w':=by
 have hB:Below w.heap.size w (w.alloc (.cells #[.int .i64 deep, .bool ret, .bool wt] 149)):=bRf.alloc nL _
 have g7:(w.alloc (.cells #[.int .i64 deep, .bool ret, .bool wt] 149)).cell? ⟨1,0,none⟩=some (errAt (a 7)):=keep_cell hB (hE.cell 7 (by decide))
 have g4:(w.alloc (.cells #[.int .i64 deep, .bool ret, .bool wt] 149)).cell? ⟨5,0,none⟩=some (errAt (a 4)):=keep_cell hB (hE.cell 4 (by decide))
 clear hE
 have hd:0<deep∨ ¬0<deep:=by omega
 rcases kcases k.toList with⟨h,hk⟩ |⟨h,hk⟩ |⟨h,hk⟩ |⟨h,hk⟩ |⟨h,hk⟩ |⟨h,hk⟩ |⟨h,hk⟩ |⟨h,hk⟩ |⟨h,hk⟩ |⟨h,hk⟩
 all_goals
  rw[hk]
  clear hk
  obtain⟨e1,e2,e3,e4,e5,e6,e7,e8,e9⟩:=h
  rcases hd with hd |hd <;> cases ret
  all_goals
   go_enter Tryz.func174,Tryz.ntmps174
   go_wp2_with fail
   go_ret
   refine⟨?_,hB⟩
   first |(simp[ckErr,hd,errVal];done) |((have hd2: ¬0<deep:=(by omega));simp[ckErr,hd2,errVal];done)
structure CrAt(c:Nat)(deep:Int)(ret wt:Bool)(w:World):Prop where
 c0:w.cell? ⟨c,0,none⟩=some (.int .i64 deep)
 c1:w.cell? ⟨c,1,none⟩=some (.bool ret)
 c2:w.cell? ⟨c,2,none⟩=some (.bool wt)
 fz: ∀o,w.frozen? ⟨c,o,none⟩=false
theorem CrAt.below{w w':World}(h:CrAt c deep ret wt w)(hb:Below w.heap.size w w'):CrAt c deep ret wt w':=
 ⟨keep_cell hb h.c0,keep_cell hb h.c1,keep_cell hb h.c2,fun o=>by rw[hb.frozen (show c<_ from bLt h.c0)];exact h.fz o⟩
theorem CrAt.set0(h:CrAt c deep ret wt w)(x:Int):CrAt c x ret wt (w.setCell ⟨c,0,none⟩ (.int .i64 x)):=
 ⟨World.cell?_setCell_same _ _ _ h.c0,cell_ne h.c1 (.inr (by decide)),cell_ne h.c2 (.inr (by decide)),fun o=>by rw[World.frozen?_setCell];exact h.fz o⟩
theorem CrAt.set1(h:CrAt c deep ret wt w)(x:Bool):CrAt c deep x wt (w.setCell ⟨c,1,none⟩ (.bool x)):=
 ⟨cell_ne h.c0 (.inr (by decide)),World.cell?_setCell_same _ _ _ h.c1,cell_ne h.c2 (.inr (by decide)),fun o=>by rw[World.frozen?_setCell];exact h.fz o⟩
theorem CrAt.set2(h:CrAt c deep ret wt w)(x:Bool):CrAt c deep ret x (w.setCell ⟨c,2,none⟩ (.bool x)):=
 ⟨cell_ne h.c0 (.inr (by decide)),cell_ne h.c1 (.inr (by decide)),World.cell?_setCell_same _ _ _ h.c2,fun o=>by rw[World.frozen?_setCell];exact h.fz o⟩
def psDeep(i:Nat)(deep:Int):Int:=if i=2 then deep+1 else if i=3 then deep - 1 else deep
def psRet(i:Nat)(ret:Bool):Bool:=if i=1 then true else if i=7∨i=8 then false else ret
def psWt(i:Nat)(wt:Bool):Bool:=if i=5∨i=9 then true else if i=1 then false else wt
theorem cpass_any (k:ByteArray) (h:CrAt c deep ret wt w) (hd: -1000<=deep/\deep<=1000):
  Calls Tryz.prog 175 #[.pointer (some ⟨c,0,none⟩), .string k] w fun e w'=>e= .returned (.tuple #[])/\CrAt c (psDeep (kn k.toList) deep) (psRet (kn k.toList) ret) (psWt (kn k.toList) wt) w'/\Turns (fun b _=>b=c) w w':=by
 have HH:=hide h
 obtain⟨c0,c1,c2,fz⟩:=h
 have f0:=fz 0
 have f1:=fz 1
 have f2:=fz 2
 have w1:IntKind.i64.wrap (deep+1)=deep+1:=by rw[IntKind.wrap_i64];omega
 have w2:IntKind.i64.wrap (deep - 1)=deep - 1:=by rw[IntKind.wrap_i64];omega
 clear fz
 rcases kcases k.toList with⟨h,hk⟩ |⟨h,hk⟩ |⟨h,hk⟩ |⟨h,hk⟩ |⟨h,hk⟩ |⟨h,hk⟩ |⟨h,hk⟩ |⟨h,hk⟩ |⟨h,hk⟩ |⟨h,hk⟩
 all_goals
  rw[hk]
  clear hk
  obtain⟨e1,e2,e3,e4,e5,e6,e7,e8,e9⟩:=h
  go_enter Tryz.func175,Tryz.ntmps175
  go_wp2_with fail
  go_end0
  refine⟨rfl,?_⟩
  first
   |exact⟨HH.out,Turns.refl _ _⟩
   |exact⟨HH.out.set0 _,(Turns.refl _ _).setCell _ rfl⟩
   |exact⟨HH.out.set1 _,(Turns.refl _ _).setCell _ rfl⟩
   |exact⟨HH.out.set2 _,(Turns.refl _ _).setCell _ rfl⟩
   |exact⟨(HH.out.set1 _).set2 _,Turns.setCell (S:=fun b _=>b=c) (Turns.setCell (S:=fun b _=>b=c) (Turns.refl _ _) _ rfl) _ rfl⟩
end
end Go.Proofs.YtnoigmdmgdcliaaGreatDoor
