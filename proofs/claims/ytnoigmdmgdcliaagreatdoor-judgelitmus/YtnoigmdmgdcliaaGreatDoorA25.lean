import Derived.Test.YtnoigmdmgdcliaaGreatDoorA24
import Derived.Deep.RegionLaw
import Derived.Test.YtnoigmdmgdcliaaGreatDoorA18
namespace Go.Proofs.YtnoigmdmgdcliaaGreatDoor
set_option maxRecDepth 100000
set_option maxHeartbeats 8000000
section
open Go.RowKit Go.Extern.Stop Go.Stop Go.Extern Go.Maps Go.WideMaps Go.Sort
variable {E:List (ByteArray×ByteArray×Int)} {l:List Value} {s e:Int} {B nc:Nat} {w:World} {cs:List (List Ins)} {a:Nat->Addr} {m:Mk} {p:MkPl} {k:Nat}
structure SrPl where
 b:Nat
 fb:Nat
 tb:Nat
 cb:Nat
 ad:Option Addr
 cap:Nat
 n:Int
 mo:Int
 se:Seer
structure Sq where
 v:Value
 X:Nat->Prop
 L:List Mk
def SrPl.see(q:SrPl):Value:= .func (.func 75) #[] #[.pointer (some ⟨q.cb,0,none⟩), .pointer (some ⟨q.tb,0,none⟩), .pointer (some ⟨q.cb+1,0,none⟩)]
def SrPl.fp0(q:SrPl)(v:Value)(k:Nat):Prop:=k=q.b∨k=q.fb∨k=q.tb∨v.ownBlock=some k
def SrPl.fp(q:SrPl)(qv:Sq)(k:Nat):Prop:=q.fp0 qv.v k∨qv.X k
structure SrAt(B nc:Nat)(q:SrPl)(E:List (ByteArray×ByteArray×Int))(qv:Sq)(l:List Value)(s e:Int)(w:World):Prop where
 ws:WsAt q.b q.n q.mo q.fb qv.v q.see w
 found:FoundAt w q.fb E
 que:QAt w B qv.v l
 told:ToldAt q.tb s e w
 codes:w.cell? ⟨q.cb,0,none⟩=some (.slice q.ad nc q.cap)/\w.cell? ⟨q.cb+1,0,none⟩=some q.se.v
 b_fb:q.b≠q.fb
 b_tb:q.b≠q.tb
 fb_tb:q.fb≠q.tb
 hcb:q.cb+1<B
 hb:B<=q.b
 hfb:B<=q.fb
 htb:B<=q.tb
 qo: ∀k,qv.v.ownBlock=some k->k≠q.b/\k≠q.fb/\k≠q.tb
 so:SeerFr q.se
 si:q.se.I qv.X qv.L w
 xo: ∀k,qv.X k->k≠q.cb/\k≠q.cb+1/\ ¬q.fp0 qv.v k
 xb: ∀k,qv.X k->B<=k∨q.se.bx=some k
 lo:q.se.lo<=B
theorem SrAt.lt{q:SrPl}{qv:Sq}(h:SrAt B nc q E qv l s e w)(hk:q.fp qv k):k<w.heap.size:=by
 rcases hk with(rfl |rfl |rfl |hk) |hk
 ·exact h.ws.lt
 ·exact h.found.1.lt
 ·exact h.told.lt
 ·exact(h.que.lt hk).2
 ·exact h.so.lt h.si k hk
theorem SrAt.ge{q:SrPl}{qv:Sq}(h:SrAt B nc q E qv l s e w)(hk:q.fp0 qv.v k):B<=k:=by
 rcases hk with rfl |rfl |rfl |hk
 ·exact h.hb
 ·exact h.hfb
 ·exact h.htb
 ·exact(h.que.lt hk).1
theorem SrAt.geX{q:SrPl}{qv:Sq}(h:SrAt B nc q E qv l s e w)(hk:q.fp qv k):B<=k∨q.se.bx=some k:=hk.elim (fun e=> .inl (h.ge e)) (h.xb k)
theorem SrAt.turns{S:Nat->Nat->Prop}{q:SrPl}{qv:Sq}{w w':World}(h:SrAt B nc q E qv l s e w)(t:Turns S w w')(hS: ∀k o,S k o-> ¬q.fp qv k)(hB: ∀k o,S k o->B<=k):SrAt B nc q E qv l s e w' where
 ws:=h.ws.turns t (fun o hs=>hS _ _ hs (.inl (.inl rfl)))
 found:=h.found.kept (t.block _ h.found.1.lt (fun o hs=>hS _ _ hs (.inl (.inr (.inl rfl)))))
 que:=h.que.turns t (fun k o hk hs=>hS _ _ hs (.inl (.inr (.inr (.inr hk)))))
 told:=h.told.turns t (fun o hs=>hS _ _ hs (.inl (.inr (.inr (.inl rfl)))))
 so:=h.so
 si:=h.so.keep h.si t (fun k o hs=>⟨fun hx=>hS _ _ hs (.inr hx),Nat.le_trans h.lo (hB _ _ hs)⟩)
 xo:=h.xo
 xb:=h.xb
 lo:=h.lo
 codes:=⟨t.keep h.codes.1 (fun hs=>by have:=hB _ _ hs;have:=h.hcb;omega),t.keep h.codes.2 (fun hs=>by have:=hB _ _ hs;have:=h.hcb;omega)⟩
 b_fb:=h.b_fb
 b_tb:=h.b_tb
 fb_tb:=h.fb_tb
 hcb:=h.hcb
 hb:=h.hb
 hfb:=h.hfb
 htb:=h.htb
 qo:=h.qo
theorem SrAt.below{q:SrPl}{qv:Sq}{w w':World}(h:SrAt B nc q E qv l s e w)(k:Below w.heap.size w w'):SrAt B nc q E qv l s e w':=
 h.turns (S:=fun _ _=>False) (Turns.of_below k) (fun _ _ h=>h.elim) (fun _ _ h=>h.elim)
theorem Turns.of_grown{w w':World}{r:Nat}(h:w.grownBy w' (some r)):Turns (fun k _=>k=r) w w':=
 have hg: ∀k,k<w.heap.size->k≠r->w'.heap[k]? =w.heap[k]? :=fun k hk hne=>h.block k hk (fun e=>hne (by cases e;rfl))
 ⟨h.os,h.tape,h.output,h.size,fun k hk ho=>hg k hk (fun e=>ho 0 e),fun k o hk ho=>World.cell?_of_block (hg k hk ho),fun k o hk ho=>World.frozen?_of_block (hg k hk ho)⟩
theorem SrAt.pushed {q:SrPl} {E E':List (ByteArray×ByteArray×Int)} {qv:Sq} {v':Value} {l l':List Value} {w4 w5 w6 w7:World} (h:SrAt B nc q E qv l s e w4) (T5:Turns (fun k _=>k=q.fb) w4 w5) (F5:FoundAt w5 q.fb E') (b6:Below w5.heap.size w5 w6) 
  (T7:Turns (fun k _=>qv.v.ownBlock=some k) w6 w7) (Q7:QAt w7 B v' l') (hv:v'.ownBlock=qv.v.ownBlock∨ ∃k,v'.ownBlock=some k/\w6.heap.size<=k):
  SrAt B nc q E' ⟨v',qv.X,qv.L⟩ l' s e (w7.setCell ⟨q.b,3,none⟩ v')/\Turns (fun k _=>q.fp0 qv.v k) w4 (w7.setCell ⟨q.b,3,none⟩ v')/\(∀k,v'.ownBlock=some k->qv.v.ownBlock=some k∨w4.heap.size<=k):=by
 have T57:Turns (fun k _=>qv.v.ownBlock=some k) w5 w7:=(Turns.of_below b6).trans T7
 have T47:Turns (fun k _=>k=q.fb∨qv.v.ownBlock=some k) w4 w7:=(T5.mono fun _ _ _ e=> .inl e).trans (T57.mono fun _ _ _ e=> .inr e)
 have T8:Turns (fun k o=>k=q.b/\o=3) w7 (w7.setCell ⟨q.b,3,none⟩ v'):=(Turns.refl _ _).setCell _ ⟨rfl,rfl⟩
 have hb:=h.ws.lt
 have hfb:=h.found.1.lt
 have htb:=h.told.lt
 have hsz:w4.heap.size<=w6.heap.size:=Nat.le_trans T5.size b6.size
 have hv4: ∀k,v'.ownBlock=some k->qv.v.ownBlock=some k∨w4.heap.size<=k:=fun k hk=>by
  rcases hv with e |⟨k',e,h2⟩
  ·exact .inl (by rw[<-e];exact hk)
  ·rw[hk] at e;cases e;exact .inr (by omega)
 have hqo: ∀k,v'.ownBlock=some k->k≠q.b/\k≠q.fb/\k≠q.tb:=fun k hk=>by
  rcases hv4 k hk with e |e
  ·exact h.qo k e
  ·exact⟨by omega,by omega,by omega⟩
 have nb: ∀o:Nat, ¬(fun k (_:Nat)=>k=q.fb∨qv.v.ownBlock=some k) q.b o:=fun _ e=>e.elim h.b_fb (fun e=>(h.qo _ e).1 rfl)
 have nt: ∀o:Nat, ¬(fun k (_:Nat)=>k=q.fb∨qv.v.ownBlock=some k) q.tb o:=fun _ e=>e.elim (fun e=>h.fb_tb e.symm) (fun e=>(h.qo _ e).2.2 rfl)
 refine⟨⟨(h.ws.turns T47 nb).set v',?_,?_,(h.told.turns T47 nt).turns T8 (fun o e=>h.b_tb e.1.symm),?_,h.b_fb,h.b_tb,h.fb_tb,h.hcb,h.hb,h.hfb,h.htb,hqo,h.so,?_,fun k hk=>?_,h.xb,h.lo⟩,?_,hv4⟩
 ·refine F5.kept ?_
  rw[Below.heap_setCell _ _ _ _ (show q.fb≠q.b from h.b_fb.symm)]
  exact T57.block _ F5.1.lt (fun _ e=>(h.qo _ e).2.1 rfl)
 ·exact Q7.turns T8 (fun k o hk hs=>(hqo k hk).1 hs.1)
 ·constructor
  ·refine T8.keep (T47.keep h.codes.1 (fun hs=>?_)) (fun hs=>?_)
   ·have h1:=h.hcb
    rcases hs with e |e
    ·have:=h.hfb;omega
    ·have:=(h.que.lt e).1;omega
   ·have h1:=h.hcb
    have:=h.hb
    have:=hs.1
    omega
  ·refine T8.keep (T47.keep h.codes.2 (fun hs=>?_)) (fun hs=>?_)
   ·have h1:=h.hcb
    rcases hs with e |e
    ·have:=h.hfb;omega
    ·have:=(h.que.lt e).1;omega
   ·have h1:=h.hcb
    have:=h.hb
    have:=hs.1
    omega
 ·have hf: ∀k,(k=q.fb∨qv.v.ownBlock=some k)->q.fp0 qv.v k:=fun k e=>e.elim (fun e=> .inr (.inl e)) (fun e=> .inr (.inr (.inr e)))
  refine h.so.keep (h.so.keep h.si T47 (fun k _ e=>⟨fun hx=>(h.xo k hx).2.2 (hf k e),Nat.le_trans h.lo (h.ge (hf k e))⟩)) T8 (fun k _ e=>⟨fun hx=>(h.xo k hx).2.2 (.inl e.1),by rw[e.1];exact Nat.le_trans h.lo h.hb⟩)
 ·obtain ⟨x1,x2,x3⟩:=h.xo k hk
  have hl:=h.so.lt h.si k hk
  refine⟨x1,x2,fun hf=>?_⟩
  rcases hf with e |e |e |e
  ·exact x3 (.inl e)
  ·exact x3 (.inr (.inl e))
  ·exact x3 (.inr (.inr (.inl e)))
  ·rcases hv4 k e with e |e
   ·exact x3 (.inr (.inr (.inr e)))
   ·omega
 ·refine(T47.mono fun k _ _ e=>?_).setCell _ (.inl rfl)
  rcases e with e |e
  ·exact .inr (.inl e)
  ·exact .inr (.inr (.inr e))
theorem SrAt.seen {q:SrPl} {qv:Sq} {s e s' e':Int} {w w':World} {X':Nat->Prop} {L':List Mk} (h:SrAt B nc q E qv l s e w) (t:Turns (fun k _=>k=q.tb∨qv.X k) w w') (ht:ToldAt q.tb s' e' w') (hi:q.se.I X' L' w') (hx: ∀k,X' k->qv.X k∨w.heap.size<=k):SrAt B nc q E ⟨qv.v,X',L'⟩ l s' e' w' where
 ws:=h.ws.turns t (fun _ e=>e.elim h.b_tb (fun e=>(h.xo _ e).2.2 (.inl rfl)))
 found:=h.found.kept (t.block _ h.found.1.lt (fun _ e=>e.elim h.fb_tb (fun e=>(h.xo _ e).2.2 (.inr (.inl rfl)))))
 que:=h.que.turns t (fun k _ hk e=>e.elim (h.qo k hk).2.2 (fun e=>(h.xo _ e).2.2 (.inr (.inr (.inr hk)))))
 told:=ht
 codes:=⟨t.keep h.codes.1 (fun e=>e.elim (fun e=>by have:=h.hcb;have:=h.htb;omega) (fun e=>(h.xo _ e).1 rfl)),t.keep h.codes.2 (fun e=>e.elim (fun e=>by have:=h.hcb;have:=h.htb;omega) (fun e=>(h.xo _ e).2.1 rfl))⟩
 b_fb:=h.b_fb
 b_tb:=h.b_tb
 fb_tb:=h.fb_tb
 hcb:=h.hcb
 hb:=h.hb
 hfb:=h.hfb
 htb:=h.htb
 qo:=h.qo
 so:=h.so
 si:=hi
 xo k hk:=by
  rcases hx k hk with e |e
  ·exact h.xo k e
  ·have h1:q.cb<w.heap.size:=bLt h.codes.1
   have h2:q.cb+1<w.heap.size:=bLt h.codes.2
   refine⟨by omega,by omega,fun hf=>?_⟩
   have:=h.lt (k:=k) (.inl hf)
   omega
 xb k hk:=by
  rcases hx k hk with e |e
  ·exact h.xb k e
  ·have:=h.hb;have:=h.ws.lt;exact .inl (by omega)
 lo:=h.lo
structure KeyOk(nc:Nat)(m:Mk):Prop where
 range: ∀x∈mkNums nc m,0<=x/\x<4611686018427387904
 few:(mkNums nc m).length<=700
theorem KeyOk.size{nc:Nat}(h:KeyOk nc m):(keyOf nc m).size<=maxLen:=by
 have h1:=vbs_len h.range
 have h2:=h.few
 have e:(keyOf nc m).size=(vbs (mkNums nc m)).length:=by unfold keyOf;simp[ByteArray.size]
 rw[e]
 unfold maxLen
 omega
theorem add_old{q:SrPl}{qv:Sq}(h:MkAt a cs p m w)(hs:SrAt p.B cs.length q E qv l s e w)(h1:1<=cs.length)(hk:KeyOk cs.length m)(x:ByteArray×Int) 
  (hin:keyIn E (keyOf cs.length m)=true):
  Calls Tryz.prog 146 #[.pointer (some ⟨q.b,0,none⟩), .pointer (some ⟨p.b,0,none⟩), .agg #[.string x.1, .int .i64 x.2]] w fun r w'=>r= .returned .nilIface/\Below w.heap.size w w':=by
 obtain⟨w1,hw1⟩: ∃w1,w1=w.alloc (.cells #[.string x.1, .int .i64 x.2] 249):=⟨_,rfl⟩
 have b1:Below w.heap.size w w1:=by rw[hw1];exact bRf.alloc nL _
 have HK:=hide (key_any (h.below b1) h1 hk.range hk.few)
 have HS:=hide (hs.below b1)
 have hsz:=hk.size
 clear h hs hk
 generalize keyOf cs.length m=K at*
 go_enter Tryz.func146,Tryz.ntmps146
 go_wp2_with fail
 rw[<-hw1]
 clear hw1
 refine HK.out.mono ?_
 rintro r w2 ⟨rfl,hb2⟩
 have S2:=HS.out.below hb2
 have B2:=below_step b1 hb2
 obtain⟨y,hlook⟩:=S2.found.look K hsz
 rw[hin] at hlook
 unfold stepV at hlook
 have c2:=S2.ws.found
 clear HK HS S2 b1 hb2
 go_wp2_with fail
 go_ret
 exact⟨rfl,B2.alloc B2.size _⟩
theorem add_more{q:SrPl}{qv:Sq}(h:MkAt a cs p m w)(hs:SrAt p.B cs.length q E qv l s e w)(h1:1<=cs.length)(hk:KeyOk cs.length m)(x:ByteArray×Int) 
  (hin:keyIn E (keyOf cs.length m)=false) (hmo:(E.length:Int)=q.mo):
  Calls Tryz.prog 146 #[.pointer (some ⟨q.b,0,none⟩), .pointer (some ⟨p.b,0,none⟩), .agg #[.string x.1, .int .i64 x.2]] w fun r w'=>r= .returned (errAt (a 1))/\Below w.heap.size w w':=by
 obtain⟨w1,hw1⟩: ∃w1,w1=w.alloc (.cells #[.string x.1, .int .i64 x.2] 249):=⟨_,rfl⟩
 have b1:Below w.heap.size w w1:=by rw[hw1];exact bRf.alloc nL _
 have HK:=hide (key_any (h.below b1) h1 hk.range hk.few)
 have HS:=hide (hs.below b1)
 have HE:=hide (h.below b1).pg.envB.env
 have hsz:=hk.size
 clear h hs hk
 generalize keyOf cs.length m=K at*
 go_enter Tryz.func146,Tryz.ntmps146
 go_wp2_with fail
 rw[<-hw1]
 clear hw1
 refine HK.out.mono ?_
 rintro r w2 ⟨rfl,hb2⟩
 have S2:=HS.out.below hb2
 have B2:=below_step b1 hb2
 obtain⟨y,hlook⟩:=S2.found.look K hsz
 rw[hin] at hlook
 unfold stepV at hlook
 have c2:=S2.ws.found
 have m2:=S2.ws.most
 rw[<-hmo] at m2
 have HL:=hide S2.found
 have g2:w2.cell? ⟨0,0,none⟩=some (errAt (a 1)):=(HE.out.below hb2.block).cell 1 (by decide)
 clear HK HS S2 b1 hb2 HE
 go_wp2_with fail
 generalize hw3:w2.alloc _=w3
 have b3:Below w2.heap.size w2 w3:=by rw[<-hw3];exact bRf.alloc nL _
 have c3:=keep_cell b3 c2
 have m3:=keep_cell b3 m2
 have g3:=keep_cell b3 g2
 have hlen:=fun n ty=>FoundAt.len (HL.out.kept (w':=w3.drewN n) ((by rfl:(w3.drewN n).heap[q.fb]? =w3.heap[q.fb]?).trans (b3.block _ HL.out.1.lt))) ty
 have B3:=below_step B2 b3
 clear c2 m2 g2 HL hlook b3 hw3
 go_quiet (fail)
 go_wp2
 go_ret
 exact⟨rfl,below_dN B3 _⟩
theorem add_new {q:SrPl} {qv:Sq} (so:SeerOk a cs q.se) (h5:m.marks.length<=500) (hL:qv.L.length<=100000) (h:MkAt a cs p m w) (hs:SrAt p.B cs.length q E qv l s e w) (hd: ∀k,p.fp k-> ¬q.fp qv k) (h1:1<=cs.length) (hk:KeyOk cs.length m) (x:ByteArray×Int) 
  (hE:E.length<=100000) (hl:l.length<=100000) (hse:(0<=s/\s<=1000000)/\(0<=e/\e<=1000000)) (hin:keyIn E (keyOf cs.length m)=false) (hmo:(E.length:Int)≠q.mo):
  Calls Tryz.prog 146 #[.pointer (some ⟨q.b,0,none⟩), .pointer (some ⟨p.b,0,none⟩), .agg #[.string x.1, .int .i64 x.2]] w fun r w'=>r= .returned .nilIface/\
   ∃qv':Sq,SrAt p.B cs.length q (E++[(keyOf cs.length m,x)]) qv' (l++[.pointer (some ⟨p.b,0,none⟩)]) (s+1) (endN e (endTo cs m cs.length)) w'/\Turns (fun k _=>q.fp qv k) w w'/\(∀k,q.fp qv' k->q.fp qv k∨w.heap.size<=k)/\qv'.L=qv.L++[m]:=by
 obtain⟨w1,hw1⟩: ∃w1,w1=w.alloc (.cells #[.string x.1, .int .i64 x.2] 249):=⟨_,rfl⟩
 have b1:Below w.heap.size w w1:=by rw[hw1];exact bRf.alloc nL _
 have e0:w1.cell? ⟨w.heap.size,0,none⟩=some (.string x.1):=by rw[hw1];simp
 have e1:w1.cell? ⟨w.heap.size,1,none⟩=some (.int .i64 x.2):=by rw[hw1];simp
 have HK:=hide (key_any (h.below b1) h1 hk.range hk.few)
 have HS:=hide (hs.below b1)
 have HM:=hide (h.below b1)
 have hsz:=hk.size
 have hne:((E.length:Int)==q.mo)=false:=beq_eq_false_iff_ne.2 hmo
 clear h hs hk
 generalize keyOf cs.length m=K at*
 go_enter Tryz.func146,Tryz.ntmps146
 go_wp2_with fail
 rw[<-hw1]
 clear hw1
 refine HK.out.mono ?_
 rintro r w2 ⟨rfl,hb2⟩
 have S2:=hide (HS.out.below hb2)
 have M2:=hide (HM.out.below hb2)
 have B2:=below_step b1 hb2
 replace e0:=keep_cell hb2 e0
 replace e1:=keep_cell hb2 e1
 obtain⟨y,hlook⟩:=S2.out.found.look K hsz
 rw[hin] at hlook
 unfold stepV at hlook
 have c2:=S2.out.ws.found
 clear HK HS HM b1 hb2
 go_wp2_with fail
 generalize hw3:w2.alloc _=w3
 have b3:Below w2.heap.size w2 w3:=by rw[<-hw3];exact bRf.alloc nL _
 have S3:=hide (S2.out.below b3)
 have M3:=hide (M2.out.below b3)
 have B3:=below_step B2 b3
 have c3:=S3.out.ws.found
 have m3:=S3.out.ws.most
 replace e0:=keep_cell b3 e0
 replace e1:=keep_cell b3 e1
 have hlen:=fun n ty=>FoundAt.len (S3.out.found.kept (w':=w3.drewN n) (by rfl)) ty
 clear c2 S2 M2 hlook b3 hw3 B2
 go_quiet (fail)
 clear hlen
 rename_i nq
 generalize hw4:w3.drewN nq=w4
 have b4:Below w3.heap.size w3 w4:=by rw[<-hw4];exact Below.drewN' nq
 have S4:=hide (S3.out.below b4)
 have M4:=hide (M3.out.below b4)
 have B4:=below_step B3 b4
 have c4:=S4.out.ws.found
 replace e0:=keep_cell b4 e0
 replace e1:=keep_cell b4 e1
 clear c3 m3 S3 M3 b4 hw4 B3
 obtain⟨w5,hrun,F5,G5⟩:=(S4.out.found.kept (w':=w4.drew) (by rfl)).store K hsz x (by unfold maxLen;omega) hin
 unfold stepV at hrun
 go_wp2
 go_region
 have T5:Turns (fun k _=>k=q.fb) w4 w5:=(Turns.of_below (w':=w4.drew) (below_step bRf (Below.drewN' 1))).trans (Turns.of_grown G5)
 have a5:w5.cell? ⟨q.b,3,none⟩=some qv.v:=T5.keep S4.out.ws.ahead S4.out.b_fb
 have z5:w5.frozen? ⟨q.b,3,none⟩=false:=by rw[T5.frozen _ _ S4.out.ws.lt S4.out.b_fb];exact S4.out.ws.fz
 have Q5:QAt w5 p.B qv.v l:=S4.out.que.turns T5 (fun k _ hk=>(S4.out.qo k hk).2.1)
 have hq5:p.B<=w5.heap.size:=by have:=S4.out.hb;have:=S4.out.ws.lt;have:=T5.size;omega
 have s5:=T5.size
 clear hrun G5 e0 e1 c4
 go_wp2_with (at_builtin;refine wpList_append_q _ rfl _ _ rfl p.B l (.pointer (some ⟨p.b,0,none⟩)) qv.v ⟨w5.heap.size,0,none⟩ 1 rfl ?q1 rfl ?q2 rfl ?q3 ?q4 ?_)
 case q1=>exact Q5.below (bRf.alloc nL _)
 case q2=>rw[Addr.add_lit,World.cell?_alloc_new];rfl
 case q3=>omega
 case q4=>simp;omega
 intro v7 w7 Q7 T7 hv7
 obtain ⟨g7,n7,c7,rfl⟩: ∃g n c,v7= .slice g n c:=by
  rcases Q7 with⟨e, -⟩ |⟨g,off,cap,e, -⟩
  ·exact⟨_,_,_,e⟩
  ·exact⟨_,_,_,e⟩
 have b6:Below w5.heap.size w5 (w5.alloc (.cells #[.pointer (some ⟨p.b,0,none⟩)] 70)):=bRf.alloc nL _
 obtain⟨S8,T8,hv8⟩:=S4.out.pushed T5 F5 b6 T7 Q7 (by rw[World.size_alloc];exact hv7)
 have a7:w7.cell? ⟨q.b,3,none⟩=some qv.v:=T7.keep (keep_cell b6 a5) (fun e=>(S4.out.qo _ e).1 rfl)
 have z7:w7.frozen? ⟨q.b,3,none⟩=false:=by
  rw[T7.frozen _ _ (by have:=S4.out.ws.lt;have:=b6.size;omega) (fun e=>(S4.out.qo _ e).1 rfl),b6.frozen (by have:=S4.out.ws.lt;show q.b<_;omega)]
  exact z5
 have sc:=S8.ws.see
 have M8:=M4.out.turns T8 (fun k _ hk hp=>hd k hp (.inl hk)) (fun k _ hk=>S4.out.ge hk)
 have HSee:=hide (see_any so M8 S8.told S8.codes.1 S8.codes.2 (by have:=S4.out.hcb;have:=S4.out.htb;omega) (fun hp=>hd _ hp (.inl (.inr (.inr (.inl rfl))))) S4.out.htb (fun hx=>(S4.out.xo _ hx).2.2 (.inr (.inr (.inl rfl)))) (Nat.le_trans S4.out.lo S4.out.htb) S8.si hL h5 hse.1 hse.2)
 unfold SrPl.see at sc
 have HZ:=hide S8
 have HT:=hide ((Turns.of_below (S:=fun k _=>q.fp qv k) B4).trans (T8.mono fun _ _ _ e=> .inl e))
 have HV:=hide hv8
 have HLT:=hide (fun k (hk:q.fp0 qv.v k)=>S4.out.lt (.inl hk))
 have s4:=B4.size
 have s8:=T8.size
 clear S8 T8 hv8 M8 S4 M4 Q5 Q7 T7 hv7 T5 F5 a5 z5 b6 hd hq5 B4 hin hmo hne so
 go_wp2_with fail
 refine HSee.out.mono ?_
 rintro r w9 ⟨rfl,ht9,X9,hi9,T9,hx9⟩
 have S9:=hide (HZ.out.seen T9 ht9 hi9 hx9)
 have TZ:=hide (HT.out.trans (T9.mono (fun k _ _ e=>e.elim (fun e=> .inl (.inr (.inr (.inl e)))) (fun e=> .inr e))))
 have HX9:=hide hx9
 clear HSee HZ HT ht9 T9 hi9 hx9
 go_wp2_with fail
 go_ret
 refine⟨rfl,_,S9.out,TZ.out,fun k hk=>?_,rfl⟩
 rcases hk with(e |e |e |e) |e
 ·exact .inl (.inl (.inl e))
 ·exact .inl (.inl (.inr (.inl e)))
 ·exact .inl (.inl (.inr (.inr (.inl e))))
 ·exact(HV.out k e).imp (fun e=> .inl (.inr (.inr (.inr e)))) (fun e=>Nat.le_trans s4 e)
 ·exact(HX9.out k e).imp (fun e=> .inr e) (fun e=>by omega)
end
section
open Go.RowKit Go.Extern.Stop Go.Stop Go.Extern Go.Maps Go.WideMaps Go.Sort
variable {w:World}
inductive Back (E:List (ByteArray×ByteArray×Int)):ByteArray×Int->List Int->Prop
 |first(n:Int):Back E (ByteArray.empty,n) []
 |step {k:ByteArray} {y:ByteArray×Int} {l:List Int} (n:Int):k≠ByteArray.empty->(k,y)∈E->Back E y l->Back E (k,n) (n::l)
def sliceN:Value->Nat
 | .slice _ n _=>n
 |_=>0
theorem sliceN_own{base:Nat}{v:Value}{l:List Int}(h:numsOwn w base v l):sliceN v=l.length:=by
 obtain⟨_,_,rfl, -, -⟩:=numsOwn_at h
 rfl
theorem way_loop {q:SrPl} {E:List (ByteArray×ByteArray×Int)} {qv:Value} (hw:WsAt q.b q.n q.mo q.fb qv q.see w) (hf:FoundAt w q.fb E) (hk: ∀x∈E,x.1.size<=maxLen) (x:ByteArray×Int) (L:List Int) (hb:Back E x L) (hL:L.length<=100000) 
  (HR: ∀(v:Value) (w1:World),numsOwn w1 w.heap.size v L->Below w.heap.size w w1->Calls Tryz.prog 231 #[v] w1 fun r w'=>r= .returned (.tuple #[])/\numsOwn w' w.heap.size v L.reverse/\Below w.heap.size w w'):
  Calls Tryz.prog 202 #[.pointer (some ⟨q.b,0,none⟩), .agg #[.string x.1, .int .i64 x.2]] w fun r w'=> ∃v,r= .returned v/\numsOwn w' w.heap.size v L.reverse/\Below w.heap.size w w':=by
 have HW:=hide hw
 have HF:=hide hf
 have HK:=hide hk
 have HB:=hide hb
 have HR':=hide HR
 clear hw hf hk hb HR
 go_enter Tryz.func202,Tryz.ntmps202
 go_wp2_with fail
 go_loopw [5,6] (fun v p wr=> ∃pre rest y bx,Hid (numsOwn wr w.heap.size v pre)/\p= .pointer (some ⟨bx,0,none⟩)/\wr.cell? ⟨bx,0,none⟩=some (.string y.1)/\wr.cell? ⟨bx,1,none⟩=some (.int .i64 y.2)/\w.heap.size<=bx/\v.ownBlock≠some bx/\Hid (Back E y rest)/\Hid (L=pre++rest)/\Below w.heap.size w wr) (fun v _ _=>L.length - sliceN v)
 case atStart=>exact⟨[],L,x,w.heap.size+1,hide (numsOwn_nil _ _),rfl,by rw[show w.heap.size+1=(w.alloc (.cells #[.string x.1, .int .i64 x.2] 249)).heap.size by simp,World.cell?_alloc_new];rfl,by rw[show w.heap.size+1=(w.alloc (.cells #[.string x.1, .int .i64 x.2] 249)).heap.size by simp,World.cell?_alloc_new];rfl,by omega,by simp[Value.ownBlock],HB,hide rfl,((Below.refl _ w).alloc nL _).alloc (by simp) _⟩
 case round=>
  obtain⟨pre,rest,y,bx,HO,rfl,e0,e1,hbx,hob,HBk,HLp,HBl⟩:=hrel
  have hyc:=HBk.out
  clear HBk HB
  cases hyc with
  | first n=>
   have HO':Hid (numsOwn wr w.heap.size u5 L):=hide (by rw[HLp.out,List.append_nil];exact HO.out)
   have HRc:=hide (HR'.out _ _ HO'.out HBl)
   clear HO HO' HLp HF HW HK HR' hob
   dsimp only at e0 e1
   go_wp2_with fail
   refine HRc.out.mono ?_
   rintro r w2 ⟨rfl,h1,h2⟩
   have HZ:=hide h1
   clear HRc h1 e0 e1 HBl
   go_wp2_with fail
   go_ret
   exact⟨_,rfl,HZ.out,h2⟩
  | step n hne hmem hy=>
   rename_i k y' rest'
   dsimp only at e0 e1
   have hkt:(k.toList==[])=false:=by
    rw[beq_eq_false_iff_ne,toList_bl]
    exact fun e=>hne (bl_inj (by rw[e];rfl))
   have hpL:pre.length+1<=L.length:=by
    have h1:=congrArg List.length HLp.out
    rw[List.length_append,List.length_cons] at h1
    omega
   have hpl:pre.length+1<=100000:=by omega
   have hbs:=HBl.size
   go_wp2_with (at_builtin;refine wpList_append_ints _ rfl _ _ rfl w.heap.size pre [n] _ ⟨wr.heap.size,0,none⟩ 1 rfl ?r1 rfl ?r2 ?r3 ?r4 ?_)
   case r1=>exact numsOwn_keep HO.out (bRf.alloc nL _)
   case r2=>exact numsAt_new rfl
   case r3=>show pre.length+1<=_;omega
   case r4=>simp;omega
   intro v' w2 ho2 hb2 hs2 hg2 hl2
   have bl:=bLt e0
   have f0:w2.cell? ⟨bx,0,none⟩=some (.string k):=hg2.cell (keep_cell ((Below.refl _ wr).alloc nL _) e0) (fun e=>hob e.symm)
   have f1:w2.cell? ⟨bx,1,none⟩=some (.int .i64 n):=hg2.cell (keep_cell ((Below.refl _ wr).alloc nL _) e1) (fun e=>hob e.symm)
   have B2:Below w.heap.size w w2:=(HBl.alloc hbs _).trans hb2
   have HO2:=hide ho2
   have hn6:=sliceN_own ho2
   have hn5:=sliceN_own HO.out
   rw[List.length_append,List.length_singleton] at hn6
   have hvn:v'.ownBlock≠some w2.heap.size:=fun e=>by have:=(ho2.lt _ e).2;omega
   have hbs2:=B2.size
   clear e0 e1 hg2 hl2 hs2 hb2 ho2 HO hob HBl hbs
   go_wp2_with fail
   generalize hW3:w2.alloc (.cells #[.string k, .int .i64 n] 249)=W3
   have b3:Below w2.heap.size w2 W3:=by rw[<-hW3];exact bRf.alloc nL _
   have d0:W3.cell? ⟨w2.heap.size,0,none⟩=some (.string k):=by rw[<-hW3,World.cell?_alloc_new];rfl
   have d1:W3.cell? ⟨w2.heap.size,1,none⟩=some (.int .i64 n):=by rw[<-hW3,World.cell?_alloc_new];rfl
   have z0:W3.frozen? ⟨w2.heap.size,0,none⟩=false:=by rw[<-hW3];exact World.frozen?_alloc_new _ _ _ _
   have z1:W3.frozen? ⟨w2.heap.size,1,none⟩=false:=by rw[<-hW3];exact World.frozen?_alloc_new _ _ _ _
   have B3:Below w.heap.size w W3:=below_step B2 b3
   have HO3:=hide (numsOwn_keep HO2.out b3)
   have c3:W3.cell? ⟨q.b,2,none⟩=some (.map (some q.fb)):=keep_cell B3 HW.out.found
   have hlk:=(HF.out.kept (w':=W3.drew) (B3.block _ HF.out.1.lt)).at hmem (HK.out _ hmem)
   unfold stepV at hlk
   dsimp only at hlk
   clear hW3 b3 B2 HO2 f0 f1
   go_region
   go_wp2_with fail
   go_roundw
   case rel=>
    refine⟨pre++[n],rest',y',w2.heap.size,hide ?_,rfl,?_,?_,hbs2,hvn,hide hy,hide (by rw[HLp.out];simp),?_⟩
    ·refine ownsRow_block HO3.out fun b hb=>?_
     have hne:b≠w2.heap.size:=fun e=>hvn (by rw[<-e];exact hb)
     exact(Below.heap_setCell _ _ _ _ hne).trans (Below.heap_setCell _ _ _ _ hne)
    ·exact cell_ne (World.cell?_setCell_same _ _ _ d0) (.inr (by omega))
    ·exact World.cell?_setCell_same _ _ _ (cell_ne d1 (.inr (by omega)))
    ·exact((((Turns.of_below (S:=fun _ _=>False) B3).setNew (p:=⟨w2.heap.size,0,none⟩) _ hbs2).setNew (p:=⟨w2.heap.size,1,none⟩) _ hbs2).drew).below nL (fun _ _ _ h=>h)
   case measure=>rw[hn5,hn6];omega
end
section
open Go.RowKit Go.Extern.Stop Go.Stop Go.Extern Go.Maps Go.WideMaps Go.Sort
variable {L l:List Int} {w:World}
def RevTo(L:List Int)(i:Nat)(l:List Int):Prop:=l.length=L.length/\ ∀p,p<L.length->l[p]? =if p<i∨L.length<=p+i then L[L.length - 1 - p]? else L[p]?
theorem RevTo.zero(L:List Int):RevTo L 0 L:=⟨rfl,fun p hp=>by rw[if_neg (by omega)]⟩
theorem RevTo.step {i j:Nat} (h:RevTo L i l) (hij:i<j) (hj:i+j+1=L.length) {x y:Int} (hx:l[i]? =some x) (hy:l[j]? =some y):RevTo L (i+1) ((l.set i y).set j x):=by
 obtain⟨h1,h2⟩:=h
 refine⟨by simpa using h1,fun p hp=>?_⟩
 have hi:=h2 i (by omega)
 have hjj:=h2 j (by omega)
 rw[if_neg (by omega)] at hi hjj
 rw[List.getElem?_set,List.getElem?_set]
 by_cases e1:j=p
 ·subst e1
  rw[if_pos rfl,if_pos (by simp;omega),if_pos (by omega),show L.length - 1 - j=i by omega, <-hi,hx]
 ·rw [if_neg e1]
  by_cases e2:i=p
  ·subst e2
   rw[if_pos rfl,if_pos (by omega),if_pos (by omega),show L.length - 1 - i=j by omega, <-hjj,hy]
  ·rw[if_neg e2,h2 p hp]
   by_cases e3:p<i∨L.length<=p+i
   ·rw[if_pos e3,if_pos (by omega)]
   ·rw[if_neg e3,if_neg (by omega)]
theorem RevTo.done{i:Nat}(h:RevTo L i l)(hi:L.length<=i+i+1):l=L.reverse:=by
 obtain⟨h1,h2⟩:=h
 refine List.ext_getElem? fun p=>?_
 by_cases hp:p<L.length
 ·rw[h2 p hp,List.getElem?_reverse hp]
  by_cases e:p<i∨L.length<=p+i
  ·rw[if_pos e]
  ·rw[if_neg e,show L.length - 1 - p=p by omega]
 ·rw[List.getElem?_eq_none (by omega),List.getElem?_eq_none (by simp;omega)]
theorem rev_any {base g cap:Nat} {L:List Int} (h:numsOwn w base (.slice (some ⟨g,0,none⟩) L.length cap) L) (hL:L.length<=100000) (hc:L.length<=cap):
  Calls Tryz.prog 231 #[.slice (some ⟨g,0,none⟩) L.length cap] w fun r w'=>r= .returned (.tuple #[])/\numsOwn w' base (.slice (some ⟨g,0,none⟩) L.length cap) L.reverse/\Turns (fun k _=>k=g) w w':=by
 have HH:=hide h
 clear h
 have hcc:(L.length:Int)<=cap:=by omega
 go_enter Tryz.func231,Tryz.ntmps231
 go_wp2_with fail
 go_loopw [2,3] (fun u v wr=> ∃(i:Nat) (jz:Int) (l:List Int),u= .int .i64 i/\v= .int .i64 jz/\jz=(L.length:Int) - 1 - i/\i<=L.length/\Hid (RevTo L i l)/\Hid (numsOwn wr base (.slice (some ⟨g,0,none⟩) L.length cap) l)/\Hid (Turns (fun k _=>k=g) w wr)) (fun u _ _=>L.length - (intOf u).toNat)
 case atStart=>exact⟨0,(L.length:Int) - 1,L,rfl,rfl,by omega,Nat.zero_le _,hide (RevTo.zero L),HH,hide (Turns.refl _ _)⟩
 case round=>
  obtain⟨i,jz,l,rfl,rfl,hjz,hi,HR,HO,HT⟩:=hrel
  by_cases hlt:(i:Int)<jz
  ·obtain ⟨j,rfl⟩:=Int.eq_ofNat_of_zero_le (show 0<=jz by omega)
   have hij:i<j:=by omega
   have hj:i+j+1=L.length:=by omega
   have hl:=HR.out.1
   obtain⟨x,hx⟩: ∃x,l[i]? =some x:=⟨_,List.getElem?_eq_getElem (by omega)⟩
   obtain⟨y,hy⟩: ∃y,l[j]? =some y:=⟨_,List.getElem?_eq_getElem (by omega)⟩
   obtain⟨ci,zi⟩:=numsOwn_cell HO.out hx
   obtain⟨cj,zj⟩:=numsOwn_cell HO.out hy
   have HR2:=hide (HR.out.step hij hj hx hy)
   have HO2:=hide (numsOwn_set (numsOwn_set HO.out i y) j x)
   have HT2:=hide (((HT.out.setCell (b:=g) (o:=i) (.int .i64 y) rfl).setCell (b:=g) (o:=j) (.int .i64 x) rfl).drew)
   have il:(i:Int)<L.length:=by omega
   have jl:(j:Int)<L.length:=by omega
   clear HR HO HT hx hy hjz
   go_wp2_with fail
   go_region
   all_goals
    go_wp2_with fail
    go_roundw
    case rel=>exact⟨i+1,(j:Int) - 1,_,by go_num,by go_num,by omega,by omega,HR2,hide HO2.out,HT2⟩
    case measure=>simp[intOf];omega
  ·have HZ:=hide (HR.out.done (by omega))
   go_wp2_with fail
   go_end0
   exact⟨rfl,by rw[<-HZ.out];exact HO.out,HT.out⟩
theorem way_any {q:SrPl} {E:List (ByteArray×ByteArray×Int)} {qv:Value} (hw:WsAt q.b q.n q.mo q.fb qv q.see w) (hf:FoundAt w q.fb E) (hk: ∀x∈E,x.1.size<=maxLen) (x:ByteArray×Int) (L:List Int) (hb:Back E x L) (hL:L.length<=100000) (h0:0<L.length):
  Calls Tryz.prog 202 #[.pointer (some ⟨q.b,0,none⟩), .agg #[.string x.1, .int .i64 x.2]] w fun r w'=> ∃v,r= .returned v/\numsOwn w' w.heap.size v L.reverse/\Below w.heap.size w w':=
 way_loop hw hf hk x L hb hL fun v w1 ho hb1=>by
  rcases ho.2 with⟨-,e0⟩ |⟨g,cap,cur,rfl,hg,hh,hn,hm,hs,hc⟩
  ·omega
  ·refine(rev_any ho hL hn).mono ?_
   rintro r w' ⟨rfl,q1,q2⟩
   refine⟨rfl,?_,hb1.trans (q2.below hb1.size (fun k o hk e=>by omega))⟩
   exact q1
theorem Back.grow{E F:List (ByteArray×ByteArray×Int)}{x:ByteArray×Int}{L:List Int}(h:Back E x L):Back (E++F) x L:=by
 induction h with
 |first n=>exact .first n
 |step n h1 h2 _ ih=>exact .step n h1 (List.mem_append_left _ h2) ih
end
section
open Go.RowKit Go.Extern.Stop Go.Stop Go.Extern Go.Maps Go.WideMaps Go.Sort
variable {cs:List (List Ins)} {a:Nat->Addr} {F:List (MkPl×Mk)} {q:SrPl} {w w':World} {qv:Sq}
structure Sp where
 E:List (ByteArray×ByteArray×Int)
 ms:List Mk
 s:Int
 e:Int
 L:List Mk
def addSp(cs:List (List Ins))(mo:Int)(S:Sp)(m:Mk)(x:ByteArray×Int):Option Sp:=
 if keyIn S.E (keyOf cs.length m)=true then some S
 else if(S.E.length:Int)=mo then none
 else some ⟨S.E++[(keyOf cs.length m,x)],S.ms++[m],S.s+1,endN S.e (endTo cs m cs.length),S.L++[m]⟩
inductive SpEnd
 |fault (x:ByteArray×Int)
 |bound
 |go
def spreadO (cs:List (List Ins)) (mo:Int) (m:Mk):Nat->Nat->Sp->SpEnd×Sp
 |0,_,S=>(.go,S)
 | k+1,n,S=>
  if okN (m.turnO cs n).1=0 then spreadO cs mo m k (n+1) S
  else if 0<(m.turnO cs n).2.faults then(.fault (keyOf cs.length m,n),S)
  else match addSp cs mo S (m.turnO cs n).2 (keyOf cs.length m,n) with
   |none=>(.bound,S)
   |some S'=>spreadO cs mo m k (n+1) S'
def searchO (cs:List (List Ins)) (mo:Int) (N:Nat):Nat->Sp->SpEnd×Sp
 |0,S=>(.go,S)
 | f+1,S=>match S.ms with
  | []=>(.go,S)
  | m::l=>match spreadO cs mo m N 0 { S with ms:=l } with
   |(.go,S')=>searchO cs mo N f S'
   |r=>r
def aheadV(F:List (MkPl×Mk)):List Value:=F.map fun x=> .pointer (some ⟨x.1.b,0,none⟩)
structure SpAt(a:Nat->Addr)(cs:List (List Ins))(B:Nat)(q:SrPl)(S:Sp)(qv:Sq)(F:List (MkPl×Mk))(w:World):Prop where
 sr:SrAt B cs.length q S.E qv (aheadV F) S.s S.e w
 ms:F.map (·.2)=S.ms
 at': ∀x∈F,x.1.B=B/\MkAt a cs x.1 x.2 w/\ ∀k,x.1.fp k-> ¬q.fp qv k
 apart:F.Pairwise fun x y=> ∀k,x.1.fp k-> ¬y.1.fp k
 so:SeerOk a cs q.se
 keys:S.E.map (·.1)=qv.L.map (keyOf cs.length)
 sl:S.L=qv.L
theorem SpAt.turns{B:Nat}{S:Sp}{T:Nat->Nat->Prop}(h:SpAt a cs B q S qv F w)(t:Turns T w w')(hq: ∀k o,T k o-> ¬q.fp qv k)(hF: ∀x∈F, ∀k o,T k o-> ¬x.1.fp k)(hB: ∀k o,T k o->B<=k):SpAt a cs B q S qv F w' where
 sr:=h.sr.turns t hq hB
 ms:=h.ms
 at' x hx:=by
  obtain⟨h1,h2,h3⟩:=h.at' x hx
  exact⟨h1,h2.turns t (hF x hx) (by rw[h1];exact hB),h3⟩
 apart:=h.apart
 so:=h.so
 keys:=h.keys
 sl:=h.sl
theorem SpAt.below{B:Nat}{S:Sp}(h:SpAt a cs B q S qv F w)(k:Below w.heap.size w w'):SpAt a cs B q S qv F w':=
 h.turns (T:=fun _ _=>False) (Turns.of_below k) (fun _ _ h=>h.elim) (fun _ _ _ _ h=>h.elim) (fun _ _ h=>h.elim)
theorem MkAt.searched{p:MkPl}{m:Mk}{nc B':Nat}{E E':List (ByteArray×ByteArray×Int)}{qv qv':Sq}{l l':List Value}{s e s' e':Int}(h:MkAt a cs p m w)(so:SeerOk a cs q.se)(hs:SrAt p.B nc q E qv l s e w)(hs':SrAt B' nc q E' qv' l' s' e' w')(t:Turns (fun k _=>q.fp qv k) w w')(hd: ∀k,p.fp k-> ¬q.fp qv k):MkAt a cs p m w':=
 h.turnsX t (fun k _ hk hp=>hd k hp hk) (fun _ _ hk=>hs.geX hk) (fun k e=>(so.box hs.si k e).2) (fun k e=>(so.box hs'.si k e).2)
def AddPost(a:Nat->Addr)(cs:List (List Ins))(B:Nat)(q:SrPl)(qv:Sq)(F:List (MkPl×Mk))(p:MkPl)(m:Mk)(w:World)(r:Ending)(w':World):Option Sp->Prop
 |none=>r= .returned (errAt (a 1))/\Below w.heap.size w w'
 |some S'=>r= .returned .nilIface/\ ∃(qv':Sq) (F':List (MkPl×Mk)),SpAt a cs B q S' qv' F' w'/\Turns (fun k _=>q.fp qv k) w w'/\(∀k,q.fp qv' k->q.fp qv k∨w.heap.size<=k)/\(F'=F∨F'=F++[(p,m)])
theorem wadd_any {p:MkPl} {m:Mk} {w:World} {S:Sp} (h5:m.marks.length<=500) (h:MkAt a cs p m w) (hs:SpAt a cs p.B q S qv F w) (hd: ∀k,p.fp k-> ¬q.fp qv k) (hF: ∀x∈F, ∀k,x.1.fp k-> ¬p.fp k) (h1:1<=cs.length) (hk:KeyOk cs.length m) (x:ByteArray×Int) 
  (hE:S.E.length<=100000) (hl:F.length<=100000) (hse:(0<=S.s/\S.s<=1000000)/\(0<=S.e/\S.e<=1000000)):
  Calls Tryz.prog 146 #[.pointer (some ⟨q.b,0,none⟩), .pointer (some ⟨p.b,0,none⟩), .agg #[.string x.1, .int .i64 x.2]] w fun r w'=>AddPost a cs p.B q qv F p m w r w' (addSp cs q.mo S m x):=by
 unfold addSp
 cases hin:keyIn S.E (keyOf cs.length m) with
 | true=>
  rw[if_pos rfl]
  refine(add_old h hs.sr h1 hk x hin).mono ?_
  rintro r w' ⟨rfl,hb⟩
  exact⟨rfl,qv,F,hs.below hb,Turns.of_below hb,fun k hk=> .inl hk, .inl rfl⟩
 | false =>
  rw[if_neg (by decide)]
  by_cases hmo:(S.E.length:Int)=q.mo
  ·rw[if_pos hmo]
   exact add_more h hs.sr h1 hk x hin hmo
  ·rw [if_neg hmo]
   refine(add_new hs.so h5 (by have:=congrArg List.length hs.keys;rw[List.length_map,List.length_map] at this;omega) h hs.sr hd h1 hk x hE (by unfold aheadV;rw[List.length_map];exact hl) hse hin hmo).mono ?_
   rintro r w' ⟨rfl,qv',hs',ht,hfp,hqL⟩
   refine⟨rfl,qv',F++[(p,m)],⟨?_,?_,fun y hy=>?_,?_,hs.so,?_,?_⟩,ht,hfp, .inr rfl⟩
   ·unfold aheadV at hs' ⊢
    rw[List.map_append]
    exact hs'
   ·rw[List.map_append,hs.ms];rfl
   ·rcases List.mem_append.1 hy with hy |hy
    ·obtain⟨g1,g2,g3⟩:=hs.at' y hy
     refine⟨g1,g2.searched hs.so (by rw[g1];exact hs.sr) hs' ht g3,fun k hp hk=>?_⟩
     rcases hfp k hk with e |e
     ·exact g3 k hp e
     ·have:=g2.fp_lt hp;omega
    ·obtain rfl:y=(p,m):=by simpa using hy
     refine⟨rfl,h.searched hs.so hs.sr hs' ht hd,fun k hp hk=>?_⟩
     rcases hfp k hk with e |e
     ·exact hd k hp e
     ·have:=h.fp_lt hp;omega
   ·refine List.pairwise_append.2 ⟨hs.apart,List.pairwise_singleton _ _,fun y hy z hz=>?_⟩
    obtain rfl:z=(p,m):=by simpa using hz
    exact hF y hy
   ·show(S.E++[(keyOf cs.length m,x)]).map (·.1)=_
    rw[hqL,List.map_append,List.map_append,hs.keys];rfl
   ·rw[hqL, <-hs.sl]
end
end Go.Proofs.YtnoigmdmgdcliaaGreatDoor
