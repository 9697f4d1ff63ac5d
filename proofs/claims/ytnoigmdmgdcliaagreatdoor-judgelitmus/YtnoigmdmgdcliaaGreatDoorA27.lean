import Derived.Test.YtnoigmdmgdcliaaGreatDoorA26
import Derived.Deep.LoopGhost
import Derived.WalkSpells
import Derived.Test.YtnoigmdmgdcliaaGreatDoorA24
namespace Go.Proofs.YtnoigmdmgdcliaaGreatDoor
set_option maxRecDepth 100000
set_option maxHeartbeats 8000000
section
open Go.RowKit
variable {cs:List (List Ins)} {m0 m:Mk}
def Kn(cs:List (List Ins))(m0:Mk)(r:Nat)(E:List (ByteArray×ByteArray×Int))(m:Mk):Prop:=
 ∃d,d<=r/\Rch cs m0 d m/\ ∃y l,(keyOf cs.length m,y)∈E/\Back E y l/\l.length<=d
theorem Kn.mono{r r':Nat}{E G:List (ByteArray×ByteArray×Int)}(h:Kn cs m0 r E m)(hr:r<=r'):Kn cs m0 r' (E++G) m:=by
 obtain⟨d,h1,h2,y,l,h3,h4,h5⟩:=h
 exact⟨d,by omega,h2,y,l,List.mem_append_left _ h3,h4.grow,h5⟩
structure SpOk(cs:List (List Ins))(m0:Mk)(mo:Int)(r c:Nat)(S:Sp):Prop where
 le:(S.E.length:Int)<=mo
 s:S.s=S.E.length
 e:0<=S.e/\S.e<=S.s
 count:S.E.length=c+S.ms.length
 back: ∀m∈S.ms,Kn cs m0 r S.E m
theorem addO_ok {m0 m m':Mk} {mo:Int} {r c n:Nat} {S S':Sp} (h:SpOk cs m0 mo (r+1) c S) (hk:Kn cs m0 r S.E m) (hne:keyOf cs.length m≠ByteArray.empty) (hm:m'=(m.turnO cs n).2) (hadd:addSp cs mo S m' (keyOf cs.length m,(n:Int))=some S'):
  SpOk cs m0 mo (r+1) c S'/\ ∃G,S'.E=S.E++G:=by
 unfold addSp at hadd
 split at hadd
 ·cases hadd;exact⟨h,[],by simp⟩
 ·rename_i hin
  split at hadd
  ·cases hadd
  ·rename_i hmo
   cases hadd
   refine⟨⟨?_,?_,⟨?_,?_⟩,?_,fun x hx=>?_⟩,_,rfl⟩
   ·have:=h.le
    show(((S.E++_).length:Nat):Int)<=mo
    rw[List.length_append]
    simp
    omega
   ·show S.s+1=(((S.E++_).length:Nat):Int)
    rw[h.s,List.length_append];simp
   ·have:=(endN_range S.e (endTo cs m' cs.length)).1
    have:=h.e.1
    show 0<=endN _ _;omega
   ·have:=(endN_range S.e (endTo cs m' cs.length)).2
    have:=h.e.2
    show endN _ _<=S.s+1;omega
   ·show(S.E++_).length=c+(S.ms++_).length
    rw[List.length_append,List.length_append,h.count];simp;omega
   ·rcases List.mem_append.1 hx with hx |hx
    ·exact(h.back x hx).mono nL
    ·obtain rfl:x=m':=by simpa using hx
     obtain⟨d,h1,h2,y,l,h3,h4,h5⟩:=hk
     refine⟨d+1,by omega,by rw[hm];exact h2.turn n,(keyOf cs.length m,(n:Int)),(n:Int)::l,List.mem_append_right _ (by simp), .step _ hne (List.mem_append_left _ h3) h4.grow,by simp;omega⟩
theorem spreadO_ok {mo:Int} {r c:Nat} (hne:keyOf cs.length m≠ByteArray.empty): ∀(k n:Nat) {S:Sp},SpOk cs m0 mo (r+1) c S->Kn cs m0 r S.E m->SpOk cs m0 mo (r+1) c (spreadO cs mo m k n S).2/\ ∃G,(spreadO cs mo m k n S).2.E=S.E++G
 |0,_,S,h,_=>⟨h,[],by simp[spreadO]⟩
 | k +1,n,S,h,hk=>by
  by_cases ho:okN (m.turnO cs n).1=0
  ·rw[spreadO_err ho]
   exact spreadO_ok hne k (n+1) h hk
  ·by_cases hf:0<(m.turnO cs n).2.faults
   ·rw[spreadO_fault ho hf]
    exact⟨h,[],by simp⟩
   ·rw [spreadO_add ho hf]
    cases hA:addSp cs mo S (m.turnO cs n).2 (keyOf cs.length m,(n:Int)) with
    |none=>exact⟨h,[],by simp⟩
    | some S'=>
     obtain⟨h1,G,hG⟩:=addO_ok h hk hne rfl hA
     obtain⟨h2,G2,hG2⟩:=spreadO_ok hne k (n+1) h1 (by rw[hG];exact hk.mono nL)
     exact⟨h2,G++G2,by show(spreadO cs mo m k (n+1) S').2.E=_;rw[hG2,hG,List.append_assoc]⟩
end
section
open Go.RowKit Go.Extern.Stop Go.Stop Go.Extern Go.Maps Go.WideMaps Go.Sort
variable {cs:List (List Ins)} {m:Mk} {mo:Int} {a:Nat->Addr} {w:World}
def firstS(cs:List (List Ins))(m:Mk):Sp:=⟨[(keyOf cs.length m,(ByteArray.empty,0))],[m],1,endN 0 (endTo cs m cs.length),[m]⟩
def Sp.none:Sp:=⟨[],[],0,0,[]⟩
theorem addO_first(h:1<=mo):addSp cs mo Sp.none m (ByteArray.empty,0)=some (firstS cs m):=by
 have e1:keyIn Sp.none.E (keyOf cs.length m)=false:=rfl
 have e2:((Sp.none.E.length:Nat):Int)=0:=rfl
 unfold addSp
 rw[e1,e2,if_neg (by decide),if_neg (by omega)]
 rfl
theorem first_ok(h:1<=mo):SpOk cs m mo 0 0 (firstS cs m):=by
 have:=endN_range 0 (endTo cs m cs.length)
 refine⟨by show((1:Nat):Int)<=mo;omega,rfl,⟨this.1,by show endN _ _<=(1:Int);omega⟩,rfl,fun x hx=>?_⟩
 obtain rfl:x=m:=by simpa [firstS] using hx
 exact⟨0,Nat.le_refl _, .zero,_,[],by simp[firstS], .first 0,Nat.zero_le _⟩
def sq0(X:Nat->Prop):Sq:=⟨.slice Option.none 0 0,X,[]⟩
structure SnRel(a:Nat->Addr)(cs:List (List Ins))(B:Nat)(m0:Mk)(q:SrPl)(X0:Nat->Prop)(w0:World)(N r:Nat)(S:Sp)(qv:Sq)(F:List (MkPl×Mk))(w:World):Prop where
 sp:SpAt a cs B q S qv F w
 ok:SpOk cs m0 q.mo r r S
 turns:Turns (fun k _=>q.fp (sq0 X0) k) w0 w
 fp: ∀k,q.fp qv k->q.fp (sq0 X0) k∨w0.heap.size<=k
 keys: ∀x∈S.E,x.1.size<=maxLen
 eq: ∀f,searchO cs q.mo N (f+r) (firstS cs m0)=searchO cs q.mo N f S
def RnPost (a:Nat->Addr) (cs:List (List Ins)) (m0:Mk) (q:SrPl) (X0:Nat->Prop) (w:World) (N:Nat) (e:Ending) (w':World):Prop:=
 Turns (fun k _=>q.fp (sq0 X0) k) w w'/\ ∃f S,ToldAt q.tb S.s S.e w'/\(∃X,q.se.I X S.L w'/\ ∀k,X k->X0 k∨w.heap.size<=k)/\
  ((searchO cs q.mo N f (firstS cs m0)=(.go,S)/\S.ms=[]/\e= .returned (.tuple #[.slice Option.none 0 0, .nilIface]))∨(searchO cs q.mo N f (firstS cs m0)=(.bound,S)/\e= .returned (.tuple #[.slice Option.none 0 0,errAt (a 1)]))∨
   (∃x l,searchO cs q.mo N f (firstS cs m0)=(.fault x,S)/\Back S.E x l/\0<l.length/\ ∃v,e= .returned (.tuple #[v, .nilIface])/\numsOwn w' w.heap.size v l.reverse))
theorem searchO_cons{N f:Nat}{S:Sp}{l:List Mk}(h:S.ms=m::l):searchO cs mo N (f+1) S=(match spreadO cs mo m N 0 { S with ms:=l } with |(.go,S')=>searchO cs mo N f S' |r=>r):=by
 obtain⟨E,ms,s,e,L⟩:=S
 dsimp only at h
 subst h
 rfl
def StPost(a:Nat->Addr)(cs:List (List Ins))(B:Nat)(m0:Mk)(q:SrPl)(X0:Nat->Prop)(w0:World)(N r:Nat)(e:Ending)(w':World):Prop:=
 (e= .returned (.tuple #[.slice Option.none 0 0, .nilIface])/\ ∃S1 qv1 F1,SnRel a cs B m0 q X0 w0 N (r+1) S1 qv1 F1 w')∨
 (e= .returned (.tuple #[.slice Option.none 0 0,errAt (a 1)])/\RnPost a cs m0 q X0 w0 N e w')∨
 (∃ad n cap,e= .returned (.tuple #[.slice (some ad) n cap, .nilIface])/\RnPost a cs m0 q X0 w0 N e w')
theorem spread_step {B:Nat} {m0:Mk} {K:Nat} {q:SrPl} {X0 X:Nat->Prop} {L:List Mk} {w0:World} {N r:Nat} {S:Sp} {g off cap:Nat} {p1:MkPl} {m1:Mk} {F:List (MkPl×Mk)} (h:SnRel a cs B m0 q X0 w0 N r S ⟨.slice (some ⟨g,off,Option.none⟩) (F.length+1) cap,X,L⟩ ((p1,m1)::F) w) 
  (hO:MkOk cs.length K m0) (hR:Right cs) (hN:q.n=(N:Nat)) (hN2:N<=12) (h1:1<=cs.length) (hmo:1<=q.mo/\q.mo<=60000) (hK:K+60002<=10000000) (hkey: ∀d m',d<=60001->Rch cs m0 d m'->KeyOk cs.length m'/\keyOf cs.length m'≠ByteArray.empty):
  r<q.mo.toNat/\Calls Tryz.prog 147 #[.pointer (some ⟨q.b,0,Option.none⟩), .pointer (some ⟨p1.b,0,Option.none⟩)] ((w.setCell ⟨g,off,Option.none⟩ (.pointer Option.none)).setCell ⟨q.b,3,Option.none⟩ (.slice (some (qCut g off cap)) F.length (cap - 1))) fun e w'=>Hid (StPost a cs B m0 q X0 w0 N r e w'):=by
 obtain⟨hs2,T2,hf2⟩:=h.sp.popped
 have hms:S.ms=m1::F.map (·.2):=h.sp.ms.symm
 obtain⟨g1,g2,g3⟩:=h.sp.at' (p1,m1) List.mem_cons_self
 dsimp only at g1 g2 g3
 obtain⟨hap, -⟩:=List.pairwise_cons.1 h.sp.apart
 have hKn:=h.ok.back m1 (by rw[hms];exact List.mem_cons_self)
 obtain⟨d,hd,hrch,y,l,hin,hback,hll⟩:=id hKn
 have hcnt:=h.ok.count
 rw[hms,List.length_cons,List.length_map] at hcnt
 have hle:=h.ok.le
 have hse:=h.ok.e
 have hss:=h.ok.s
 have hr:r<q.mo.toNat:=by omega
 obtain⟨hk1,hne1⟩:=hkey d m1 (by omega) hrch
 generalize hW:(w.setCell ⟨g,off,Option.none⟩ (.pointer Option.none)).setCell ⟨q.b,3,Option.none⟩ (.slice (some (qCut g off cap)) F.length (cap - 1))=W at*
 have rx1:RunX a cs p1 m1 (K+d) W:=⟨g2.searched h.sp.so (by rw[g1];exact h.sp.sr) hs2.sr T2 g3,hrch.ok hO hR (by omega),hR,by omega⟩
 have hok2:SpOk cs m0 q.mo (r+1) (r+1) { S with ms:=S.ms.tail }:=⟨hle,hss,hse,by
  show S.E.length=r+1+S.ms.tail.length
  rw[hms,List.tail_cons,List.length_map];omega,fun x hx=>by
  have:=(h.ok.back x (List.mem_of_mem_tail hx)).mono (r':=r+1) (G:=[]) (by omega)
  rwa [List.append_nil] at this⟩
 have HS:=spread_any (N:=N) (S:={ S with ms:=S.ms.tail }) rx1 (by rw[g1];exact hs2) (fun k hp hk=>g3 k hp (hf2 k hk)) (fun x hx k hk hp=>hap x hx k hp hk) hN hN2 h1 hk1 (fun n hn=>(hkey (d+1) _ (by omega) (hrch.turn n)).1) (by omega)
  (by show S.E.length+N<=_;omega) (by omega) ⟨⟨by show 0<=S.s;omega,by show S.s+N<=_;omega⟩,by show 0<=S.e;omega,by show S.e+N<=_;omega⟩ h.keys hin hback (by omega) hne1
 refine⟨hr,HS.mono ?_⟩
 rintro e w' ⟨S1,qv1,F1,j,hj,hsp1,hkp1,hres⟩
 rw[g1] at hsp1
 obtain⟨hok1,G,hG⟩:=spreadO_ok hne1 N 0 hok2 hKn
 have T3:Turns (fun k _=>q.fp (sq0 X0) k) w0 w':=by
  have hsz:=h.turns.size
  refine(h.turns.then T2 (fun k _ hk hq=>(h.fp k hq).elim id (fun e=>by omega))).then hkp1.turns (fun k _ hk hq=>?_)
  exact(h.fp k (hf2 k hq)).elim id (fun e=>by omega)
 have hfp1: ∀k,q.fp qv1 k->q.fp (sq0 X0) k∨w0.heap.size<=k:=fun k hk=>by
  rcases hkp1.fp k hk with e |e
  ·exact h.fp k (hf2 k e)
  ·have:=h.turns.size;have:=T2.size;exact .inr (by omega)
 have hsee: ∃X,q.se.I X S1.L w'/\ ∀k,X k->X0 k∨w0.heap.size<=k:=⟨qv1.X,by rw[hsp1.sl];exact hsp1.sr.si,fun k hk=>by
  rcases hfp1 k (.inr hk) with((e |e |e |e) |e) |e
  ·exact absurd (.inl e) (hsp1.sr.xo k hk).2.2
  ·exact absurd (.inr (.inl e)) (hsp1.sr.xo k hk).2.2
  ·exact absurd (.inr (.inr (.inl e))) (hsp1.sr.xo k hk).2.2
  ·cases e
  ·exact .inl e
  ·exact .inr e⟩
 have hwz:w0.heap.size<=W.heap.size:=Nat.le_trans h.turns.size T2.size
 have hmt:S.ms.tail=F.map (·.2):=by rw[hms];rfl
 rw[hmt] at hres hok1 hG
 refine hide ?_
 rcases hres with⟨hr1,rfl⟩ |⟨hr1,rfl⟩ |⟨n,hr1,v,rfl,hv⟩
 ·rw [hr1] at hok1
  exact .inl ⟨rfl,S1,qv1,F1,hsp1,hok1,T3,hfp1,hkp1.keys,fun f=>by
   rw[show f+(r+1)=f+1+r by omega,h.eq (f+1),searchO_cons hms,hr1]⟩
 ·refine .inr (.inl ⟨rfl,T3,0+1+r,S1,hsp1.sr.told,hsee, .inr (.inl ⟨?_,rfl⟩)⟩)
  rw[h.eq (0+1),searchO_cons hms,hr1]
 ·obtain ⟨ad,cap',rfl, -⟩:=numsOwn_open hv (by simp)
  refine .inr (.inr ⟨ad,_,cap',rfl,T3,0+1+r,S1,hsp1.sr.told,hsee, .inr (.inr ⟨(keyOf cs.length m1,(n:Int)),(n:Int)::l,?_,?_,by simp,_,rfl,numsOwn_mono hv hwz⟩)⟩)
  ·rw[h.eq (0+1),searchO_cons hms,hr1]
  ·obtain⟨G2,hG2⟩:=hkp1.grow
   rw[hG2]
   exact .step _ hne1 (List.mem_append_left _ hin) hback.grow
theorem wrun_any {p:MkPl} {K:Nat} {q:SrPl} {X0:Nat->Prop} {N:Nat} (rx:RunX a cs p m K w) (hs:SpAt a cs p.B q Sp.none (sq0 X0) [] w) (hd: ∀k,p.fp k-> ¬q.fp (sq0 X0) k) 
  (hN:q.n=(N:Nat)) (hN2:N<=12) (h1:1<=cs.length) (hmo:1<=q.mo/\q.mo<=60000) (hK:K+60002<=10000000) (hkey: ∀d m',d<=60001->Rch cs m d m'->KeyOk cs.length m'/\keyOf cs.length m'≠ByteArray.empty):
  Calls Tryz.prog 78 #[.pointer (some ⟨q.b,0,none⟩), .pointer (some ⟨p.b,0,none⟩)] w fun e w'=>Hid (RnPost a cs m q X0 w N e w'):=by
 have hk0:=hkey 0 m (by omega) .zero
 have HA:=hide (wadd_any rx.ok.marks rx.at' hs hd (fun x hx=>by cases hx) h1 hk0.1 (ByteArray.empty,0) (by decide) (by decide) ⟨⟨by decide,by decide⟩,by decide,by decide⟩)
 rw[addO_first hmo.1] at HA
 have HKey:=hide hkey
 have HO:=hide rx.ok
 have HRt:=hide rx.right
 have h0:=hide (first_ok (cs:=cs) (m:=m) hmo.1)
 have hk1:=hide hk0.1.size
 clear rx hs hd hkey hk0
 have hn0: ∀w:World,(binOp .neq 23 (.slice Option.none 0 0) (.slice Option.none 0 0)).run Tryz.prog w= .ok (.bool false) w:=fun w=>run_neq_slice_nil_any w _ _ _ _ _ _ _ Tryz.underlying23
 have hn1: ∀(w:World) (ad:Addr) (n c:Nat),(binOp .neq 23 (.slice (some ad) n c) (.slice Option.none 0 0)).run Tryz.prog w= .ok (.bool true) w:=fun w ad n c=>run_neq_slice_nil_any w _ _ _ _ _ _ _ Tryz.underlying23
 go_enter Tryz.func78,Tryz.ntmps78
 go_wp2_with fail
 refine HA.out.mono ?_
 rintro e w1 ⟨rfl,qv1,F1,hs1,t1,hf1,hF1⟩
 have R1:Hid (SnRel a cs p.B m q X0 w N 0 (firstS cs m) qv1 F1 w1):=hide ⟨hs1,h0.out,t1,hf1,fun x hx=>by
  obtain rfl:x=(keyOf cs.length m,(ByteArray.empty,0)):=by simpa [firstS] using hx
  exact hk1.out,fun f=>rfl⟩
 clear HA hs1 t1 hf1 hF1 h0 hk1
 go_wp2_with fail
 go_loopg [7] q.mo.toNat (fun k _ wr=> ∃(r:Nat) (S:Sp) (qv:Sq) (F:List (MkPl×Mk)),q.mo.toNat - r<=k/\Hid (SnRel a cs p.B m q X0 w N r S qv F wr))
 case atStart=>exact⟨0,_,qv1,F1,by omega,R1⟩
 case round=>
  obtain⟨r,S,⟨vq,Xq,Lq⟩,F,hgk,HR⟩:=hrel
  clear R1
  have hque:=HR.out.sp.sr.que
  have c1:=HR.out.sp.sr.ws.ahead
  have z1:=HR.out.sp.sr.ws.fz
  dsimp only at hque c1
  cases F with
  | nil=>
   obtain ⟨ad,cap,rfl⟩: ∃ad cap,vq= .slice ad 0 cap:=by
    rcases hque with⟨e, -⟩ |⟨g,off,cap,e, -⟩
    ·exact⟨_,_,e⟩
    ·exact⟨_,_,e⟩
   have HZ:Hid (RnPost a cs m q X0 w N (.returned (.tuple #[.slice Option.none 0 0, .nilIface])) wr):=hide ⟨HR.out.turns,r,S,HR.out.sp.sr.told,⟨Xq,by rw[HR.out.sp.sl];exact HR.out.sp.sr.si,fun k hk=>by
    rcases HR.out.fp k (.inr hk) with((e |e |e |e) |e) |e
    ·exact absurd (.inl e) (HR.out.sp.sr.xo k hk).2.2
    ·exact absurd (.inr (.inl e)) (HR.out.sp.sr.xo k hk).2.2
    ·exact absurd (.inr (.inr (.inl e))) (HR.out.sp.sr.xo k hk).2.2
    ·cases e
    ·exact .inl e
    ·exact .inr e⟩, .inl ⟨by have:=HR.out.eq 0;rw[Nat.zero_add] at this;exact this,HR.out.sp.ms.symm,rfl⟩⟩
   clear HR hque
   go_wp2_with fail
   go_ret2
   exact HZ
  | cons x F2=>
   obtain⟨p1,m1⟩:=x
   have hl:(aheadV ((p1,m1)::F2)).length=F2.length+1:=by simp[aheadV]
   obtain ⟨g,off,cap,rfl,hcap,d0,y0⟩: ∃g off cap,vq= .slice (some ⟨g,off,none⟩) (F2.length+1) cap/\F2.length+1<=cap/\wr.cell? ⟨g,off,none⟩=some (.pointer (some ⟨p1.b,0,none⟩))/\wr.frozen? ⟨g,off,none⟩=false:=by
    rcases hque with⟨-,e⟩ |⟨g,off,cap,e,q1,q2,q3,q4,q5,q6⟩
    ·cases e
    ·rw[hl] at e q3
     exact⟨g,off,cap,e,q3,q5 0 _ rfl,(q6 0 (by omega)).2⟩
   have hgb:g≠q.b:=(HR.out.sp.sr.qo g rfl).1
   obtain⟨hrm,hst⟩:=spread_step HR.out HO.out HRt.out hN hN2 h1 hmo hK HKey.out
   have HSt:=hide hst
   have hc1:(1:Int)<=F2.length+1:=by omega
   have hc0:(0:Int)<F2.length+1:=by omega
   have hc2:((F2.length:Int)+1)<=cap:=by omega
   clear hque hl hst HR
   by_cases hc:cap=1
   ·rw [show qCut g off cap=⟨g,off,Option.none⟩ from if_pos hc,show cap - 1=0 by omega] at HSt
    go_wp2_with fail
    refine HSt.out.mono ?_
    rintro e2 w2 hp
    clear HSt
    rcases hp.out with⟨rfl,S1,qv1,F1,hrel⟩ |⟨rfl,hz⟩ |⟨ad,n2,cap2,rfl,hz⟩
    ·have R2:=hide hrel
     clear hp hrel
     go_wp2_with fail
     go_roundg (q.mo.toNat - (r+1))
     case rel=>exact⟨r+1,S1,qv1,F1,Nat.le_refl _,R2⟩
     case measure=>omega
    ·have HZ:=hide hz
     clear hp hz
     go_wp2_with fail
     go_ret2
     exact HZ
    ·have HZ:=hide hz
     clear hp hz
     go_wp2_with fail
     go_ret2
     exact HZ
   ·rw [show qCut g off cap=⟨g,off+1,Option.none⟩ from if_neg hc] at HSt
    go_wp2_with fail
    refine HSt.out.mono ?_
    rintro e2 w2 hp
    clear HSt
    rcases hp.out with⟨rfl,S1,qv1,F1,hrel⟩ |⟨rfl,hz⟩ |⟨ad,n2,cap2,rfl,hz⟩
    ·have R2:=hide hrel
     clear hp hrel
     go_wp2_with fail
     go_roundg (q.mo.toNat - (r+1))
     case rel=>exact⟨r+1,S1,qv1,F1,Nat.le_refl _,R2⟩
     case measure=>omega
    ·have HZ:=hide hz
     clear hp hz
     go_wp2_with fail
     go_ret2
     exact HZ
    ·have HZ:=hide hz
     clear hp hz
     go_wp2_with fail
     go_ret2
     exact HZ
end
section
open Go.RowKit
variable {m:Mk} {cs:List (List Ins)} {l:List Wt} {K d:Nat}
def WtIn(x:Wt):Prop:=(0<=x.c/\x.c<64)/\(0<=x.g/\x.g<67108864)
def LnOk(s:Rm):Prop:= ∀t x,x∈s.waits t->WtIn x
theorem LnOk.setWaits{s:Rm}(h:LnOk s)(t:Nat)(hl: ∀x∈l,WtIn x):LnOk (s.setWaits t l):=fun u x hx=>by
 simp only[Rm.setWaits] at hx
 split at hx
 ·exact hl x hx
 ·exact h u x hx
theorem LnOk.drained{s:Rm}(h:LnOk s)(t:Nat)(x:Wt)(hl: ∀x∈l,WtIn x):LnOk (s.drained t x l):=by
 unfold Rm.drained
 split
 ·exact h.setWaits t hl
 ·exact h.setWaits t hl
theorem LnOk.drainAll: ∀(l:List Wt) {s:Rm} (_:LnOk s) (t:Nat),(∀x∈l,WtIn x)->LnOk (s.drainAll t l)
 | [],_,h,_,_=>h
 |x::l,_,h,t,hl=>LnOk.drainAll l (h.drained t x (fun y hy=>hl y (List.mem_cons_of_mem _ hy))) t (fun y hy=>hl y (List.mem_cons_of_mem _ hy))
theorem LnOk.fence(h:LnOk m.mem)(t:Nat):LnOk (m.fence t).mem:=LnOk.drainAll _ h t (fun x hx=>h t x hx)
theorem LnOk.fenceFrom: ∀(n:Nat) {m:Mk} (_:LnOk m.mem) (t:Nat),LnOk (m.fenceFrom t n).mem
 |0,_,h,_=>h
 |n+1,_,h,t=>LnOk.fenceFrom n (h.fence t) (t+1)
theorem LnOk.drain1(h:LnOk m.mem)(t:Nat):LnOk (m.drain1 t).mem:=by
 unfold Mk.drain1
 cases hl:m.mem.waits t with
 |nil=>exact h
 |cons x l=>exact h.drained t x (fun y hy=>h t y (by rw[hl];exact List.mem_cons_of_mem _ hy))
theorem LnOk.room(h:LnOk m.mem)(t:Nat):LnOk (m.room t).mem:=by
 unfold Mk.room
 split
 ·exact h.drain1 t
 ·exact h
theorem LnOk.store (h:LnOk m.mem) (t:Nat) (n w v:Int) (hn:Wd n):LnOk (m.store t n w v).mem:=by
 unfold Mk.store
 split
 ·rename_i hnm
  have h0:n≠0:=fun e=>by subst e;unfold Mk.names at hnm;simp at hnm
  obtain⟨n1,n2⟩:=hn
  have hr:=h.room t
  refine hr.setWaits t (fun x hx=>?_)
  rcases List.mem_append.1 hx with hx |hx
  ·exact hr t x hx
  ·obtain rfl:x=⟨cellOf n,genOf n,w,v⟩:=by simpa using hx
   refine⟨⟨?_,?_⟩,?_,?_⟩
   ·show 0<=cellOf n;unfold cellOf;omega
   ·show cellOf n<64;unfold cellOf;omega
   ·show 0<=genOf n;unfold genOf;omega
   ·show genOf n<67108864;unfold genOf;omega
 ·exact h
theorem LnOk.exec(h:LnOk m.mem)(hr: ∀t r,Wd (m.regs t r))(L:List Ins)(t:Nat)(x:Ins):LnOk (m.exec L t x).mem:=by
 unfold Mk.exec
 dsimp only
 split
 any_goals exact h
 ·unfold Mk.load;split <;> exact h
 ·exact h.store t _ _ _ (hr _ _)
 ·unfold Mk.swap
  split
  ·exact h.fence t
  ·exact h
 ·unfold Mk.cas
  split
  ·exact h.fence t
  ·exact h
 ·unfold Mk.alloc
  split
  ·exact h
  ·exact h
 ·unfold Mk.free
  split
  ·exact h.fence t
  ·exact h
 ·unfold Mk.mark;split <;> exact h
 ·unfold Mk.need;split <;> exact h
 ·exact h.fence t
 ·exact h.fenceFrom _ 0
 ·split <;> exact h
 ·split <;> exact h
theorem LnOk.step(h:LnOk m.mem)(hr: ∀t r,Wd (m.regs t r))(L:List Ins)(t:Nat):LnOk (m.step L t).mem:=by
 unfold Mk.step
 split
 ·exact h
 ·exact LnOk.exec (m:=m.setPc t (m.pc t+1)) h hr L t _
theorem LnOk.turnO (h:LnOk m.mem) (hr: ∀t r,Wd (m.regs t r)) (cs:List (List Ins)) (n:Int):LnOk (m.turnO cs n).2.mem:=by
 unfold Mk.turnO
 split
 ·unfold Mk.stepO
  split
  ·split
   ·exact h
   ·exact h.step hr _ _
  ·exact h
 ·unfold Mk.drainO
  split
  ·split
   ·exact h
   ·exact h.drain1 _
  ·exact h
theorem Rch.ln{m0 m:Mk}(h:Rch cs m0 d m)(h0:MkOk cs.length K m0)(hl:LnOk m0.mem)(hR:Right cs)(hK:K+d<=60000000):LnOk m.mem:=by
 induction h with
 |zero=>exact hl
 |turn n hr ih=>exact(ih (by omega)).turnO (hr.ok h0 hR (by omega)).regs cs n
theorem mkNums_len {N K:Nat} (h:MkOk N K m) (hN:N<=6):(mkNums N m).length<=700:=by
 have la:=arNums_len m.mem.ar m.mem.ar.size 0
 have hz:=h.mem.small
 have hl: ∀k,k<=m.mem.threads->(linesNums m.mem k).length<=33*k:=by
  intro k
  induction k with
  |zero=>intro _;exact Nat.le_refl _
  | succ k ih=>
   intro hk
   have:=ih (by omega)
   have:=h.mem.few k (by omega)
   have e:(linesNums m.mem (k+1)).length=(linesNums m.mem k).length+(lnNums (m.mem.waits k)).length:=List.length_append
   rw[e,lnNums_len];omega
 have h1:=hl m.mem.threads nL
 have ht: ∀k,(thrsNums m k).length=9*k:=by
  intro k
  induction k with
  |zero=>rfl
  | succ k ih=>
   have e:(thrsNums m (k+1)).length=(thrsNums m k).length+(thrNums m k).length:=List.length_append
   rw[e,ih,show(thrNums m k).length=9 from rfl];omega
 have h2:=h.mem.thr
 unfold mkNums memNums
 rw[List.length_append,List.length_append,ht]
 omega
theorem Rch.key {m0 m:Mk} (h:Rch cs m0 d m) (h0:MkOk cs.length K m0) (hl:LnOk m0.mem) (hR:Right cs) (hK:K+d<=60000000):KeyOk cs.length m/\keyOf cs.length m≠ByteArray.empty:=by
 have ok:=h.ok h0 hR hK
 have ln:=h.ln h0 hl hR hK
 have hpos:0<(mkNums cs.length m).length:=by
  unfold mkNums
  rw[List.length_append]
  obtain⟨n,hn⟩: ∃n,cs.length=n+1:=⟨cs.length - 1,by have:=hR.some';omega⟩
  rw[hn]
  show 0<_+(thrsNums m n++thrNums m n).length
  rw[List.length_append,show(thrNums m n).length=9 from rfl]
  omega
 refine⟨⟨mkNums_range ok (fun c k=>ok.mem.words c k) (fun c=>by have:=ok.mem.given c;omega) (fun t ht x hx=>?_),mkNums_len ok hR.few⟩,fun e=>?_⟩
 ·obtain⟨⟨a1,a2⟩,a3,a4⟩:=ln t x hx
  obtain⟨⟨b1,b2⟩,b3,b4⟩:=ok.mem.ok t (by rw[ok.thr];exact ht) x hx
  exact⟨⟨a1,by omega⟩,⟨a3,by omega⟩,⟨b1,by omega⟩,b3,by omega⟩
 ·have e2:(vbs (mkNums cs.length m))=[]:=by
   have:=congrArg (fun b:ByteArray=>b.data.toList) e
   simpa [keyOf] using this
  cases hL:mkNums cs.length m with
  |nil=>rw[hL] at hpos;cases hpos
  | cons x l=>
   rw[hL] at e2
   have e3:vbs (x::l)=vb x.toNat++vbs l:=rfl
   rw[e3] at e2
   exact vb_ne x.toNat (List.append_eq_nil_iff.1 e2).1
end
section
open Go.RowKit Go.Extern.Stop Go.Stop Go.Extern Go.Maps Go.WideMaps Go.Sort
def toldV(s e:Int)(f:Bool)(v:Value):Value:= .agg #[.int .i64 s, .int .i64 e, .bool f,v]
end
end Go.Proofs.YtnoigmdmgdcliaaGreatDoor
