import Derived.Test.YtdpmnlbnlnmjbaaGreatDoorV18
import Derived.Deep.LoopGhost
import Derived.WalkSpells
namespace Go.Proofs.YtdpmnlbnlnmjbaaGreatDoor
set_option maxRecDepth 100000
set_option maxHeartbeats 8000000
section
open Go.RowKit
variable {cs:List (List Ins)} {m0 m:Mk}
def Kn(cs:List (List Ins))(m0:Mk)(r:Nat)(E:List (ByteArray×ByteArray×Int))(m:Mk):Prop:=
 ∃d,d<=r/\Rch cs m0 d m/\ ∃y l,(keyOf cs.length m,y)∈E/\Back E y l/\l.length<=d
theorem Kn.mono{r r':Nat}{E G:List (ByteArray×ByteArray×Int)}(h:Kn cs m0 r E m)(hr:r<=r'):Kn cs m0 r' (E++G) m:=by
 obtain⟨d,h1,h2,y,l,h3,h4,h5⟩:=h
 exact⟨d,by omega,h2,y,l,List.mem_append_left _ h3,h4.grow,h5⟩
structure SpOk(cs:List (List Ins))(m0:Mk)(mo:Int)(r c:Nat)(S:Sp):Prop where
 le:(S.E.length:Int)<=mo
 s:S.s=S.E.length
 e:0<=S.e/\S.e<=S.s
 count:S.E.length=c+S.ms.length
 back: ∀m∈S.ms,Kn cs m0 r S.E m
theorem addO_ok {m0 m m':Mk} {mo:Int} {r c n:Nat} {S S':Sp} (h:SpOk cs m0 mo (r+1) c S) (hk:Kn cs m0 r S.E m) (hne:keyOf cs.length m≠ByteArray.empty) (hm:m'=(m.turnO cs n).2) (hadd:addO cs mo S m' (keyOf cs.length m,(n:Int))=some S'):
  SpOk cs m0 mo (r+1) c S'/\ ∃G,S'.E=S.E++G:=by
 unfold addO at hadd
 split at hadd
 ·cases hadd;exact⟨h,[],by simp⟩
 ·rename_i hin
  split at hadd
  ·cases hadd
  ·rename_i hmo
   cases hadd
   refine⟨⟨?_,?_,⟨?_,?_⟩,?_,fun x hx=>?_⟩,_,rfl⟩
   ·have:=h.le
    show(((S.E++_).length:Nat):Int)<=mo
    rw[List.length_append]
    simp
    omega
   ·show S.s+1=(((S.E++_).length:Nat):Int)
    rw[h.s,List.length_append];simp
   ·have:=(endN_range S.e (endTo cs m' cs.length)).1
    have:=h.e.1
    show 0<=endN _ _;omega
   ·have:=(endN_range S.e (endTo cs m' cs.length)).2
    have:=h.e.2
    show endN _ _<=S.s+1;omega
   ·show(S.E++_).length=c+(S.ms++_).length
    rw[List.length_append,List.length_append,h.count];simp;omega
   ·rcases List.mem_append.1 hx with hx |hx
    ·exact(h.back x hx).mono nL
    ·obtain rfl:x=m':=by simpa using hx
     obtain⟨d,h1,h2,y,l,h3,h4,h5⟩:=hk
     refine⟨d+1,by omega,by rw[hm];exact h2.turn n,(keyOf cs.length m,(n:Int)),(n:Int)::l,List.mem_append_right _ (by simp), .step _ hne (List.mem_append_left _ h3) h4.grow,by simp;omega⟩
theorem spreadO_ok {mo:Int} {r c:Nat} (hne:keyOf cs.length m≠ByteArray.empty): ∀(k n:Nat) {S:Sp},SpOk cs m0 mo (r+1) c S->Kn cs m0 r S.E m->SpOk cs m0 mo (r+1) c (spreadO cs mo m k n S).2/\ ∃G,(spreadO cs mo m k n S).2.E=S.E++G
 |0,_,S,h,_=>⟨h,[],by simp[spreadO]⟩
 | k +1,n,S,h,hk=>by
  by_cases ho:okN (m.turnO cs n).1=0
  ·rw[spreadO_err ho]
   exact spreadO_ok hne k (n+1) h hk
  ·by_cases hf:0<(m.turnO cs n).2.faults
   ·rw[spreadO_fault ho hf]
    exact⟨h,[],by simp⟩
   ·rw [spreadO_add ho hf]
    cases hA:addO cs mo S (m.turnO cs n).2 (keyOf cs.length m,(n:Int)) with
    |none=>exact⟨h,[],by simp⟩
    | some S'=>
     obtain⟨h1,G,hG⟩:=addO_ok h hk hne rfl hA
     obtain⟨h2,G2,hG2⟩:=spreadO_ok hne k (n+1) h1 (by rw[hG];exact hk.mono nL)
     exact⟨h2,G++G2,by show(spreadO cs mo m k (n+1) S').2.E=_;rw[hG2,hG,List.append_assoc]⟩
end
section
open Go.RowKit Go.Extern.Stop Go.Stop Go.Extern Go.Maps Go.WideMaps Go.Sort
variable {cs:List (List Ins)} {m:Mk} {mo:Int} {a:Nat->Addr} {w:World}
def firstS(cs:List (List Ins))(m:Mk):Sp:=⟨[(keyOf cs.length m,(ByteArray.empty,0))],[m],1,endN 0 (endTo cs m cs.length),[m]⟩
def Sp.none:Sp:=⟨[],[],0,0,[]⟩
theorem addO_first(h:1<=mo):addO cs mo Sp.none m (ByteArray.empty,0)=some (firstS cs m):=by
 have e1:keyIn Sp.none.E (keyOf cs.length m)=false:=rfl
 have e2:((Sp.none.E.length:Nat):Int)=0:=rfl
 unfold addO
 rw[e1,e2,if_neg (by decide),if_neg (by omega)]
 rfl
theorem first_ok(h:1<=mo):SpOk cs m mo 0 0 (firstS cs m):=by
 have:=endN_range 0 (endTo cs m cs.length)
 refine⟨by show((1:Nat):Int)<=mo;omega,rfl,⟨this.1,by show endN _ _<=(1:Int);omega⟩,rfl,fun x hx=>?_⟩
 obtain rfl:x=m:=by simpa [firstS] using hx
 exact⟨0,Nat.le_refl _, .zero,_,[],by simp[firstS], .first 0,Nat.zero_le _⟩
def sq0(X:Nat->Prop):Sq:=⟨.slice Option.none 0 0,X,[]⟩
structure SnRel(a:Nat->Addr)(cs:List (List Ins))(B:Nat)(m0:Mk)(q:SrPl)(X0:Nat->Prop)(w0:World)(N r:Nat)(S:Sp)(qv:Sq)(F:List (MkPl×Mk))(w:World):Prop where
 sp:SpAt a cs B q S qv F w
 ok:SpOk cs m0 q.mo r r S
 turns:Turns (fun k _=>q.fp (sq0 X0) k) w0 w
 fp: ∀k,q.fp qv k->q.fp (sq0 X0) k∨w0.heap.size<=k
 keys: ∀x∈S.E,x.1.size<=maxLen
 eq: ∀f,searchO cs q.mo N (f+r) (firstS cs m0)=searchO cs q.mo N f S
def RnPost (a:Nat->Addr) (cs:List (List Ins)) (m0:Mk) (q:SrPl) (X0:Nat->Prop) (w:World) (N:Nat) (e:Ending) (w':World):Prop:=
 Turns (fun k _=>q.fp (sq0 X0) k) w w'/\ ∃f S,ToldAt q.tb S.s S.e w'/\(∃X,q.se.I X S.L w'/\ ∀k,X k->X0 k∨w.heap.size<=k)/\
  ((searchO cs q.mo N f (firstS cs m0)=(.go,S)/\S.ms=[]/\e= .returned (.tuple #[.slice Option.none 0 0, .nilIface]))∨(searchO cs q.mo N f (firstS cs m0)=(.bound,S)/\e= .returned (.tuple #[.slice Option.none 0 0,errAt (a 1)]))∨
   (∃x l,searchO cs q.mo N f (firstS cs m0)=(.fault x,S)/\Back S.E x l/\0<l.length/\ ∃v,e= .returned (.tuple #[v, .nilIface])/\numsOwn w' w.heap.size v l.reverse))
theorem searchO_cons{N f:Nat}{S:Sp}{l:List Mk}(h:S.ms=m::l):searchO cs mo N (f+1) S=(match spreadO cs mo m N 0 { S with ms:=l } with |(.go,S')=>searchO cs mo N f S' |r=>r):=by
 obtain⟨E,ms,s,e,L⟩:=S
 dsimp only at h
 subst h
 rfl
def StPost(a:Nat->Addr)(cs:List (List Ins))(B:Nat)(m0:Mk)(q:SrPl)(X0:Nat->Prop)(w0:World)(N r:Nat)(e:Ending)(w':World):Prop:=
 (e= .returned (.tuple #[.slice Option.none 0 0, .nilIface])/\ ∃S1 qv1 F1,SnRel a cs B m0 q X0 w0 N (r+1) S1 qv1 F1 w')∨
 (e= .returned (.tuple #[.slice Option.none 0 0,errAt (a 1)])/\RnPost a cs m0 q X0 w0 N e w')∨
 (∃ad n cap,e= .returned (.tuple #[.slice (some ad) n cap, .nilIface])/\RnPost a cs m0 q X0 w0 N e w')
theorem spread_step {B:Nat} {m0:Mk} {K:Nat} {q:SrPl} {X0 X:Nat->Prop} {L:List Mk} {w0:World} {N r:Nat} {S:Sp} {g off cap:Nat} {p1:MkPl} {m1:Mk} {F:List (MkPl×Mk)} (h:SnRel a cs B m0 q X0 w0 N r S ⟨.slice (some ⟨g,off,Option.none⟩) (F.length+1) cap,X,L⟩ ((p1,m1)::F) w) 
  (hO:MkOk cs.length K m0) (hR:Right cs) (hN:q.n=(N:Nat)) (hN2:N<=12) (h1:1<=cs.length) (hmo:1<=q.mo/\q.mo<=60000) (hK:K+60002<=10000000) (hkey: ∀d m',d<=60001->Rch cs m0 d m'->KeyOk cs.length m'/\keyOf cs.length m'≠ByteArray.empty):
  r<q.mo.toNat/\Calls Tryz.prog 125 #[.pointer (some ⟨q.b,0,Option.none⟩), .pointer (some ⟨p1.b,0,Option.none⟩)] ((w.setCell ⟨g,off,Option.none⟩ (.pointer Option.none)).setCell ⟨q.b,3,Option.none⟩ (.slice (some (qCut g off cap)) F.length (cap - 1))) fun e w'=>Hid (StPost a cs B m0 q X0 w0 N r e w'):=by
 obtain⟨hs2,T2,hf2⟩:=h.sp.popped
 have hms:S.ms=m1::F.map (·.2):=h.sp.ms.symm
 obtain⟨g1,g2,g3⟩:=h.sp.at' (p1,m1) List.mem_cons_self
 dsimp only at g1 g2 g3
 obtain⟨hap, -⟩:=List.pairwise_cons.1 h.sp.apart
 have hKn:=h.ok.back m1 (by rw[hms];exact List.mem_cons_self)
 obtain⟨d,hd,hrch,y,l,hin,hback,hll⟩:=id hKn
 have hcnt:=h.ok.count
 rw[hms,List.length_cons,List.length_map] at hcnt
 have hle:=h.ok.le
 have hse:=h.ok.e
 have hss:=h.ok.s
 have hr:r<q.mo.toNat:=by omega
 obtain⟨hk1,hne1⟩:=hkey d m1 (by omega) hrch
 generalize hW:(w.setCell ⟨g,off,Option.none⟩ (.pointer Option.none)).setCell ⟨q.b,3,Option.none⟩ (.slice (some (qCut g off cap)) F.length (cap - 1))=W at*
 have rx1:RunX a cs p1 m1 (K+d) W:=⟨g2.searched h.sp.so (by rw[g1];exact h.sp.sr) hs2.sr T2 g3,hrch.ok hO hR (by omega),hR,by omega⟩
 have hok2:SpOk cs m0 q.mo (r+1) (r+1) { S with ms:=S.ms.tail }:=⟨hle,hss,hse,by
  show S.E.length=r+1+S.ms.tail.length
  rw[hms,List.tail_cons,List.length_map];omega,fun x hx=>by
  have:=(h.ok.back x (List.mem_of_mem_tail hx)).mono (r':=r+1) (G:=[]) (by omega)
  rwa [List.append_nil] at this⟩
 have HS:=spread_any (N:=N) (S:={ S with ms:=S.ms.tail }) rx1 (by rw[g1];exact hs2) (fun k hp hk=>g3 k hp (hf2 k hk)) (fun x hx k hk hp=>hap x hx k hp hk) hN hN2 h1 hk1 (fun n hn=>(hkey (d+1) _ (by omega) (hrch.turn n)).1) (by omega)
  (by show S.E.length+N<=_;omega) (by omega) ⟨⟨by show 0<=S.s;omega,by show S.s+N<=_;omega⟩,by show 0<=S.e;omega,by show S.e+N<=_;omega⟩ h.keys hin hback (by omega) hne1
 refine⟨hr,HS.mono ?_⟩
 rintro e w' ⟨S1,qv1,F1,j,hj,hsp1,hkp1,hres⟩
 rw[g1] at hsp1
 obtain⟨hok1,G,hG⟩:=spreadO_ok hne1 N 0 hok2 hKn
 have T3:Turns (fun k _=>q.fp (sq0 X0) k) w0 w':=by
  have hsz:=h.turns.size
  refine(h.turns.then T2 (fun k _ hk hq=>(h.fp k hq).elim id (fun e=>by omega))).then hkp1.turns (fun k _ hk hq=>?_)
  exact(h.fp k (hf2 k hq)).elim id (fun e=>by omega)
 have hfp1: ∀k,q.fp qv1 k->q.fp (sq0 X0) k∨w0.heap.size<=k:=fun k hk=>by
  rcases hkp1.fp k hk with e |e
  ·exact h.fp k (hf2 k e)
  ·have:=h.turns.size;have:=T2.size;exact .inr (by omega)
 have hsee: ∃X,q.se.I X S1.L w'/\ ∀k,X k->X0 k∨w0.heap.size<=k:=⟨qv1.X,by rw[hsp1.sl];exact hsp1.sr.si,fun k hk=>by
  rcases hfp1 k (.inr hk) with((e |e |e |e) |e) |e
  ·exact absurd (.inl e) (hsp1.sr.xo k hk).2.2
  ·exact absurd (.inr (.inl e)) (hsp1.sr.xo k hk).2.2
  ·exact absurd (.inr (.inr (.inl e))) (hsp1.sr.xo k hk).2.2
  ·cases e
  ·exact .inl e
  ·exact .inr e⟩
 have hwz:w0.heap.size<=W.heap.size:=Nat.le_trans h.turns.size T2.size
 have hmt:S.ms.tail=F.map (·.2):=by rw[hms];rfl
 rw[hmt] at hres hok1 hG
 refine hide ?_
 rcases hres with⟨hr1,rfl⟩ |⟨hr1,rfl⟩ |⟨n,hr1,v,rfl,hv⟩
 ·rw [hr1] at hok1
  exact .inl ⟨rfl,S1,qv1,F1,hsp1,hok1,T3,hfp1,hkp1.keys,fun f=>by
   rw[show f+(r+1)=f+1+r by omega,h.eq (f+1),searchO_cons hms,hr1]⟩
 ·refine .inr (.inl ⟨rfl,T3,0+1+r,S1,hsp1.sr.told,hsee, .inr (.inl ⟨?_,rfl⟩)⟩)
  rw[h.eq (0+1),searchO_cons hms,hr1]
 ·obtain ⟨ad,cap',rfl, -⟩:=numsOwn_open hv (by simp)
  refine .inr (.inr ⟨ad,_,cap',rfl,T3,0+1+r,S1,hsp1.sr.told,hsee, .inr (.inr ⟨(keyOf cs.length m1,(n:Int)),(n:Int)::l,?_,?_,by simp,_,rfl,numsOwn_mono hv hwz⟩)⟩)
  ·rw[h.eq (0+1),searchO_cons hms,hr1]
  ·obtain⟨G2,hG2⟩:=hkp1.grow
   rw[hG2]
   exact .step _ hne1 (List.mem_append_left _ hin) hback.grow
theorem wrun_any {p:MkPl} {K:Nat} {q:SrPl} {X0:Nat->Prop} {N:Nat} (rx:RunX a cs p m K w) (hs:SpAt a cs p.B q Sp.none (sq0 X0) [] w) (hd: ∀k,p.fp k-> ¬q.fp (sq0 X0) k) 
  (hN:q.n=(N:Nat)) (hN2:N<=12) (h1:1<=cs.length) (hmo:1<=q.mo/\q.mo<=60000) (hK:K+60002<=10000000) (hkey: ∀d m',d<=60001->Rch cs m d m'->KeyOk cs.length m'/\keyOf cs.length m'≠ByteArray.empty):
  Calls Tryz.prog 99 #[.pointer (some ⟨q.b,0,none⟩), .pointer (some ⟨p.b,0,none⟩)] w fun e w'=>Hid (RnPost a cs m q X0 w N e w'):=by
 have hk0:=hkey 0 m (by omega) .zero
 have HA:=hide (wadd_any rx.ok.marks rx.at' hs hd (fun x hx=>by cases hx) h1 hk0.1 (ByteArray.empty,0) (by decide) (by decide) ⟨⟨by decide,by decide⟩,by decide,by decide⟩)
 rw[addO_first hmo.1] at HA
 have HKey:=hide hkey
 have HO:=hide rx.ok
 have HRt:=hide rx.right
 have h0:=hide (first_ok (cs:=cs) (m:=m) hmo.1)
 have hk1:=hide hk0.1.size
 clear rx hs hd hkey hk0
 have hn0: ∀w:World,(binOp .neq 26 (.slice Option.none 0 0) (.slice Option.none 0 0)).run Tryz.prog w= .ok (.bool false) w:=fun w=>run_neq_slice_nil_any w _ _ _ _ _ _ _ Tryz.underlying26
 have hn1: ∀(w:World) (ad:Addr) (n c:Nat),(binOp .neq 26 (.slice (some ad) n c) (.slice Option.none 0 0)).run Tryz.prog w= .ok (.bool true) w:=fun w ad n c=>run_neq_slice_nil_any w _ _ _ _ _ _ _ Tryz.underlying26
 go_enter Tryz.func99,Tryz.ntmps99
 go_wp2_with fail
 refine HA.out.mono ?_
 rintro e w1 ⟨rfl,qv1,F1,hs1,t1,hf1,hF1⟩
 have R1:Hid (SnRel a cs p.B m q X0 w N 0 (firstS cs m) qv1 F1 w1):=hide ⟨hs1,h0.out,t1,hf1,fun x hx=>by
  obtain rfl:x=(keyOf cs.length m,(ByteArray.empty,0)):=by simpa [firstS] using hx
  exact hk1.out,fun f=>rfl⟩
 clear HA hs1 t1 hf1 hF1 h0 hk1
 go_wp2_with fail
 go_loopg [7] q.mo.toNat (fun k _ wr=> ∃(r:Nat) (S:Sp) (qv:Sq) (F:List (MkPl×Mk)),q.mo.toNat - r<=k/\Hid (SnRel a cs p.B m q X0 w N r S qv F wr))
 case atStart=>exact⟨0,_,qv1,F1,by omega,R1⟩
 case round=>
  obtain⟨r,S,⟨vq,Xq,Lq⟩,F,hgk,HR⟩:=hrel
  clear R1
  have hque:=HR.out.sp.sr.que
  have c1:=HR.out.sp.sr.ws.ahead
  have z1:=HR.out.sp.sr.ws.fz
  dsimp only at hque c1
  cases F with
  | nil=>
   obtain ⟨ad,cap,rfl⟩: ∃ad cap,vq= .slice ad 0 cap:=by
    rcases hque with⟨e, -⟩ |⟨g,off,cap,e, -⟩
    ·exact⟨_,_,e⟩
    ·exact⟨_,_,e⟩
   have HZ:Hid (RnPost a cs m q X0 w N (.returned (.tuple #[.slice Option.none 0 0, .nilIface])) wr):=hide ⟨HR.out.turns,r,S,HR.out.sp.sr.told,⟨Xq,by rw[HR.out.sp.sl];exact HR.out.sp.sr.si,fun k hk=>by
    rcases HR.out.fp k (.inr hk) with((e |e |e |e) |e) |e
    ·exact absurd (.inl e) (HR.out.sp.sr.xo k hk).2.2
    ·exact absurd (.inr (.inl e)) (HR.out.sp.sr.xo k hk).2.2
    ·exact absurd (.inr (.inr (.inl e))) (HR.out.sp.sr.xo k hk).2.2
    ·cases e
    ·exact .inl e
    ·exact .inr e⟩, .inl ⟨by have:=HR.out.eq 0;rw[Nat.zero_add] at this;exact this,HR.out.sp.ms.symm,rfl⟩⟩
   clear HR hque
   go_wp2_with fail
   go_ret2
   exact HZ
  | cons x F2=>
   obtain⟨p1,m1⟩:=x
   have hl:(aheadV ((p1,m1)::F2)).length=F2.length+1:=by simp[aheadV]
   obtain ⟨g,off,cap,rfl,hcap,d0,y0⟩: ∃g off cap,vq= .slice (some ⟨g,off,none⟩) (F2.length+1) cap/\F2.length+1<=cap/\wr.cell? ⟨g,off,none⟩=some (.pointer (some ⟨p1.b,0,none⟩))/\wr.frozen? ⟨g,off,none⟩=false:=by
    rcases hque with⟨-,e⟩ |⟨g,off,cap,e,q1,q2,q3,q4,q5,q6⟩
    ·cases e
    ·rw[hl] at e q3
     exact⟨g,off,cap,e,q3,q5 0 _ rfl,(q6 0 (by omega)).2⟩
   have hgb:g≠q.b:=(HR.out.sp.sr.qo g rfl).1
   obtain⟨hrm,hst⟩:=spread_step HR.out HO.out HRt.out hN hN2 h1 hmo hK HKey.out
   have HSt:=hide hst
   have hc1:(1:Int)<=F2.length+1:=by omega
   have hc0:(0:Int)<F2.length+1:=by omega
   have hc2:((F2.length:Int)+1)<=cap:=by omega
   clear hque hl hst HR
   by_cases hc:cap=1
   ·rw [show qCut g off cap=⟨g,off,Option.none⟩ from if_pos hc,show cap - 1=0 by omega] at HSt
    go_wp2_with fail
    refine HSt.out.mono ?_
    rintro e2 w2 hp
    clear HSt
    rcases hp.out with⟨rfl,S1,qv1,F1,hrel⟩ |⟨rfl,hz⟩ |⟨ad,n2,cap2,rfl,hz⟩
    ·have R2:=hide hrel
     clear hp hrel
     go_wp2_with fail
     go_roundg (q.mo.toNat - (r+1))
     case rel=>exact⟨r+1,S1,qv1,F1,Nat.le_refl _,R2⟩
     case measure=>omega
    ·have HZ:=hide hz
     clear hp hz
     go_wp2_with fail
     go_ret2
     exact HZ
    ·have HZ:=hide hz
     clear hp hz
     go_wp2_with fail
     go_ret2
     exact HZ
   ·rw [show qCut g off cap=⟨g,off+1,Option.none⟩ from if_neg hc] at HSt
    go_wp2_with fail
    refine HSt.out.mono ?_
    rintro e2 w2 hp
    clear HSt
    rcases hp.out with⟨rfl,S1,qv1,F1,hrel⟩ |⟨rfl,hz⟩ |⟨ad,n2,cap2,rfl,hz⟩
    ·have R2:=hide hrel
     clear hp hrel
     go_wp2_with fail
     go_roundg (q.mo.toNat - (r+1))
     case rel=>exact⟨r+1,S1,qv1,F1,Nat.le_refl _,R2⟩
     case measure=>omega
    ·have HZ:=hide hz
     clear hp hz
     go_wp2_with fail
     go_ret2
     exact HZ
    ·have HZ:=hide hz
     clear hp hz
     go_wp2_with fail
     go_ret2
     exact HZ
end
section
open Go.RowKit
variable {m:Mk} {cs:List (List Ins)} {l:List Wt} {K d:Nat}
def WtIn(x:Wt):Prop:=(0<=x.c/\x.c<64)/\(0<=x.g/\x.g<67108864)
def LnOk(s:Rm):Prop:= ∀t x,x∈s.waits t->WtIn x
theorem LnOk.setWaits{s:Rm}(h:LnOk s)(t:Nat)(hl: ∀x∈l,WtIn x):LnOk (s.setWaits t l):=fun u x hx=>by
 simp only[Rm.setWaits] at hx
 split at hx
 ·exact hl x hx
 ·exact h u x hx
theorem LnOk.drained{s:Rm}(h:LnOk s)(t:Nat)(x:Wt)(hl: ∀x∈l,WtIn x):LnOk (s.drained t x l):=by
 unfold Rm.drained
 split
 ·exact h.setWaits t hl
 ·exact h.setWaits t hl
theorem LnOk.drainAll: ∀(l:List Wt) {s:Rm} (_:LnOk s) (t:Nat),(∀x∈l,WtIn x)->LnOk (s.drainAll t l)
 | [],_,h,_,_=>h
 |x::l,_,h,t,hl=>LnOk.drainAll l (h.drained t x (fun y hy=>hl y (List.mem_cons_of_mem _ hy))) t (fun y hy=>hl y (List.mem_cons_of_mem _ hy))
theorem LnOk.fence(h:LnOk m.mem)(t:Nat):LnOk (m.fence t).mem:=LnOk.drainAll _ h t (fun x hx=>h t x hx)
theorem LnOk.fenceFrom: ∀(n:Nat) {m:Mk} (_:LnOk m.mem) (t:Nat),LnOk (m.fenceFrom t n).mem
 |0,_,h,_=>h
 |n+1,_,h,t=>LnOk.fenceFrom n (h.fence t) (t+1)
theorem LnOk.drain1(h:LnOk m.mem)(t:Nat):LnOk (m.drain1 t).mem:=by
 unfold Mk.drain1
 cases hl:m.mem.waits t with
 |nil=>exact h
 |cons x l=>exact h.drained t x (fun y hy=>h t y (by rw[hl];exact List.mem_cons_of_mem _ hy))
theorem LnOk.room(h:LnOk m.mem)(t:Nat):LnOk (m.room t).mem:=by
 unfold Mk.room
 split
 ·exact h.drain1 t
 ·exact h
theorem LnOk.store (h:LnOk m.mem) (t:Nat) (n w v:Int) (hn:Wd n):LnOk (m.store t n w v).mem:=by
 unfold Mk.store
 split
 ·rename_i hnm
  have h0:n≠0:=fun e=>by subst e;unfold Mk.names at hnm;simp at hnm
  obtain⟨n1,n2⟩:=hn
  have hr:=h.room t
  refine hr.setWaits t (fun x hx=>?_)
  rcases List.mem_append.1 hx with hx |hx
  ·exact hr t x hx
  ·obtain rfl:x=⟨cellOf n,genOf n,w,v⟩:=by simpa using hx
   refine⟨⟨?_,?_⟩,?_,?_⟩
   ·show 0<=cellOf n;unfold cellOf;omega
   ·show cellOf n<64;unfold cellOf;omega
   ·show 0<=genOf n;unfold genOf;omega
   ·show genOf n<67108864;unfold genOf;omega
 ·exact h
theorem LnOk.exec(h:LnOk m.mem)(hr: ∀t r,Wd (m.regs t r))(L:List Ins)(t:Nat)(x:Ins):LnOk (m.exec L t x).mem:=by
 unfold Mk.exec
 dsimp only
 split
 any_goals exact h
 ·unfold Mk.load;split <;> exact h
 ·exact h.store t _ _ _ (hr _ _)
 ·unfold Mk.swap
  split
  ·exact h.fence t
  ·exact h
 ·unfold Mk.cas
  split
  ·exact h.fence t
  ·exact h
 ·unfold Mk.alloc
  split
  ·exact h
  ·exact h
 ·unfold Mk.free
  split
  ·exact h.fence t
  ·exact h
 ·unfold Mk.mark;split <;> exact h
 ·unfold Mk.need;split <;> exact h
 ·exact h.fence t
 ·exact h.fenceFrom _ 0
 ·split <;> exact h
 ·split <;> exact h
theorem LnOk.step(h:LnOk m.mem)(hr: ∀t r,Wd (m.regs t r))(L:List Ins)(t:Nat):LnOk (m.step L t).mem:=by
 unfold Mk.step
 split
 ·exact h
 ·exact LnOk.exec (m:=m.setPc t (m.pc t+1)) h hr L t _
theorem LnOk.turnO (h:LnOk m.mem) (hr: ∀t r,Wd (m.regs t r)) (cs:List (List Ins)) (n:Int):LnOk (m.turnO cs n).2.mem:=by
 unfold Mk.turnO
 split
 ·unfold Mk.stepO
  split
  ·split
   ·exact h
   ·exact h.step hr _ _
  ·exact h
 ·unfold Mk.drainO
  split
  ·split
   ·exact h
   ·exact h.drain1 _
  ·exact h
theorem Rch.ln{m0 m:Mk}(h:Rch cs m0 d m)(h0:MkOk cs.length K m0)(hl:LnOk m0.mem)(hR:Right cs)(hK:K+d<=60000000):LnOk m.mem:=by
 induction h with
 |zero=>exact hl
 |turn n hr ih=>exact(ih (by omega)).turnO (hr.ok h0 hR (by omega)).regs cs n
theorem mkNums_len {N K:Nat} (h:MkOk N K m) (hN:N<=6):(mkNums N m).length<=700:=by
 have la:=arNums_len m.mem.ar m.mem.ar.size 0
 have hz:=h.mem.small
 have hl: ∀k,k<=m.mem.threads->(linesNums m.mem k).length<=33*k:=by
  intro k
  induction k with
  |zero=>intro _;exact Nat.le_refl _
  | succ k ih=>
   intro hk
   have:=ih (by omega)
   have:=h.mem.few k (by omega)
   have e:(linesNums m.mem (k+1)).length=(linesNums m.mem k).length+(lnNums (m.mem.waits k)).length:=List.length_append
   rw[e,lnNums_len];omega
 have h1:=hl m.mem.threads nL
 have ht: ∀k,(thrsNums m k).length=9*k:=by
  intro k
  induction k with
  |zero=>rfl
  | succ k ih=>
   have e:(thrsNums m (k+1)).length=(thrsNums m k).length+(thrNums m k).length:=List.length_append
   rw[e,ih,show(thrNums m k).length=9 from rfl];omega
 have h2:=h.mem.thr
 unfold mkNums memNums
 rw[List.length_append,List.length_append,ht]
 omega
theorem Rch.key {m0 m:Mk} (h:Rch cs m0 d m) (h0:MkOk cs.length K m0) (hl:LnOk m0.mem) (hR:Right cs) (hK:K+d<=60000000):KeyOk cs.length m/\keyOf cs.length m≠ByteArray.empty:=by
 have ok:=h.ok h0 hR hK
 have ln:=h.ln h0 hl hR hK
 have hpos:0<(mkNums cs.length m).length:=by
  unfold mkNums
  rw[List.length_append]
  obtain⟨n,hn⟩: ∃n,cs.length=n+1:=⟨cs.length - 1,by have:=hR.some';omega⟩
  rw[hn]
  show 0<_+(thrsNums m n++thrNums m n).length
  rw[List.length_append,show(thrNums m n).length=9 from rfl]
  omega
 refine⟨⟨mkNums_range ok (fun c k=>ok.mem.words c k) (fun c=>by have:=ok.mem.given c;omega) (fun t ht x hx=>?_),mkNums_len ok hR.few⟩,fun e=>?_⟩
 ·obtain⟨⟨a1,a2⟩,a3,a4⟩:=ln t x hx
  obtain⟨⟨b1,b2⟩,b3,b4⟩:=ok.mem.ok t (by rw[ok.thr];exact ht) x hx
  exact⟨⟨a1,by omega⟩,⟨a3,by omega⟩,⟨b1,by omega⟩,b3,by omega⟩
 ·have e2:(vbs (mkNums cs.length m))=[]:=by
   have:=congrArg (fun b:ByteArray=>b.data.toList) e
   simpa [keyOf] using this
  cases hL:mkNums cs.length m with
  |nil=>rw[hL] at hpos;cases hpos
  | cons x l=>
   rw[hL] at e2
   have e3:vbs (x::l)=vb x.toNat++vbs l:=rfl
   rw[e3] at e2
   exact vb_ne x.toNat (List.append_eq_nil_iff.1 e2).1
end
section
open Go.RowKit
theorem size_exec(m:Mk)(L:List Ins)(t:Nat)(x:Ins):(m.exec L t x).mem.ar.size=m.mem.ar.size:=by
 unfold Mk.exec
 dsimp only
 split
 any_goals rfl
 ·unfold Mk.load;split <;> rfl
 ·unfold Mk.store
  split
  ·exact(room_given m t).1
  ·rfl
 ·unfold Mk.swap
  split
  ·exact(fence_given m t).1
  ·rfl
 ·unfold Mk.cas
  split
  ·exact(fence_given m t).1
  ·rfl
 ·unfold Mk.alloc
  split <;> rfl
 ·unfold Mk.free
  split
  ·exact(fence_given m t).1
  ·rfl
 ·unfold Mk.mark;split <;> rfl
 ·unfold Mk.need;split <;> rfl
 ·exact(fence_given m t).1
 ·exact(fenceFrom_given _ m 0).1
 ·split <;> rfl
 ·split <;> rfl
theorem size_turn (m:Mk) (cs:List (List Ins)) (k:Int):(m.turnO cs k).2.mem.ar.size=m.mem.ar.size:=by
 unfold Mk.turnO
 split
 ·unfold Mk.stepO
  split
  ·split
   ·rfl
   ·show(m.step _ _).mem.ar.size=_
    unfold Mk.step
    split
    ·rfl
    ·exact size_exec (m.setPc _ _) _ _ _
  ·rfl
 ·unfold Mk.drainO
  split
  ·split
   ·rfl
   ·exact(drain1_given m _).1
  ·rfl
theorem Rch.size{cs:List (List Ins)}{m0 m:Mk}{d:Nat}(h:Rch cs m0 d m):m.mem.ar.size=m0.mem.ar.size:=by
 induction h with
 |zero=>rfl
 |turn n hr ih=>rw[size_turn];exact ih
theorem Rch.given{cs:List (List Ins)}{m0 m:Mk}{d:Nat}(h:Rch cs m0 d m)(h0:GivenOk m0.mem.ar):GivenOk m.mem.ar:=by
 induction h with
 |zero=>exact h0
 |turn n hr ih=>exact ih.turnO cs n
theorem Sta.mach_given(s:Sta)(n:Nat):GivenOk (s.mach n).mem.ar:=by
 intro c d hc hcd hd h0
 have e:(if c<s.init.length then 1 else 0)=0:=h0
 have hc': ¬c<s.init.length:=fun hlt=>by rw[if_pos hlt] at e;cases e
 refine⟨?_,?_⟩
 ·show(if d<s.init.length then 1 else 0)=0
  rw[if_neg (by omega)]
 ·show(if d<s.init.length then true else false)=false
  rw[if_neg (by omega)]
end
section
open Go.RowKit
variable {cs:List (List Ins)} {mo:Int} {m0:Mk} {R:List Mk} {c:Nat} {S:Sp} {m:Mk} {l:List Int}
structure Srch(cs:List (List Ins))(m0:Mk)(mo:Int)(S:Sp)(R:List Mk)(c:Nat):Prop where
 keys:S.E.map (·.1)=R.map (keyOf cs.length)
 ms:S.ms=R.drop c
 cnt:c<=R.length
 first:R[0]? =some m0/\S.E[0]? =some (keyOf cs.length m0,(ByteArray.empty,0))
 once: ∀(i j:Nat) m m',R[i]? =some m->R[j]? =some m'->keyOf cs.length m=keyOf cs.length m'->i=j
 by': ∀(i:Nat),0<i->i<R.length-> ∃(j n:Nat) (m m':Mk),j<i/\R[j]? =some m/\R[i]? =some m'/\S.E[i]? =some (keyOf cs.length m',(keyOf cs.length m,(n:Int)))/\m.turnO cs n=(0,m')
 good: ∀m∈R,m.faults=0
 rch: ∀(i:Nat) m,R[i]? =some m-> ∃d,d<=i/\Rch cs m0 d m
 s:S.s=R.length
 le:(R.length:Int)<=mo
def Tried(cs:List (List Ins))(R:List Mk)(m:Mk)(n:Nat):Prop:=(m.turnO cs n).1≠0∨((m.turnO cs n).2.faults=0/\ ∃m'∈R,keyOf cs.length m'=keyOf cs.length (m.turnO cs n).2)
theorem Tried.mono{R R':List Mk}{n:Nat}(h:Tried cs R m n)(hp:R<+:R'):Tried cs R' m n:=by
 rcases h with h |⟨h1,m',h2,h3⟩
 ·exact .inl h
 ·exact .inr ⟨h1,m',hp.subset h2,h3⟩
def Closed(cs:List (List Ins))(R:List Mk)(c N:Nat):Prop:= ∀(j:Nat) m,j<c->R[j]? =some m-> ∀n,n<N->Tried cs R m n
theorem pre_get{R R':List Mk}(hp:R<+:R'){j:Nat}(hj:j<R.length):R'[j]? =R[j]? :=by
 obtain⟨T,rfl⟩:=hp
 exact List.getElem?_append_left hj
theorem Closed.mono{R R':List Mk}{c N:Nat}(h:Closed cs R c N)(hp:R<+:R')(hc:c<=R.length):Closed cs R' c N:=fun j m hj hm n hn=>by
 rw[pre_get hp (by omega)] at hm
 exact(h j m hj hm n hn).mono hp
theorem Srch.len(h:Srch cs m0 mo S R c):S.E.length=R.length:=by
 have:=congrArg List.length h.keys
 simpa using this
theorem Srch.key(h:Srch cs m0 mo S R c){i:Nat}{x:ByteArray×ByteArray×Int}(hx:S.E[i]? =some x): ∃m,R[i]? =some m/\x.1=keyOf cs.length m:=by
 have h1:(S.E.map (·.1))[i]? =some x.1:=by rw[List.getElem?_map,hx];rfl
 rw[h.keys,List.getElem?_map] at h1
 cases hm:R[i]? with
 |none=>rw[hm] at h1;cases h1
 |some m=>rw[hm] at h1;exact⟨m,rfl,(Option.some.inj h1).symm⟩
theorem keyIn_srch(h:Srch cs m0 mo S R c)(k:ByteArray):keyIn S.E k=true↔ ∃m∈R,keyOf cs.length m=k:=by
 unfold keyIn
 rw[List.any_eq_true]
 constructor
 ·rintro⟨x,hx,he⟩
  obtain⟨i,hi⟩:=List.mem_iff_getElem?.1 hx
  obtain⟨m,hm,hk⟩:=h.key hi
  refine⟨m,List.mem_of_getElem? hm,?_⟩
  rw[<-hk]
  have:=eq_of_beq he
  rw[toList_bl,toList_bl] at this
  exact bl_inj this
 ·rintro⟨m,hm,rfl⟩
  have h1:keyOf cs.length m∈S.E.map (·.1):=by rw[h.keys];exact List.mem_map_of_mem hm
  obtain⟨x,hx,he⟩:=List.mem_map.1 h1
  exact⟨x,hx,by rw[he];exact beq_self_eq_true _⟩
theorem Srch.add (h:Srch cs m0 mo S R c) {j n:Nat} {m m':Mk} (hm:R[j]? =some m) (ht:m.turnO cs n=(0,m')) (hf:m'.faults=0) (hin:keyIn S.E (keyOf cs.length m')=false) (hmo: ¬(S.E.length:Int)=mo):
  Srch cs m0 mo ⟨S.E++[(keyOf cs.length m',(keyOf cs.length m,(n:Int)))],S.ms++[m'],S.s+1,endN S.e (endTo cs m' cs.length),S.L++[m']⟩ (R++[m']) c:=by
 have hnew: ∀x∈R,keyOf cs.length x≠keyOf cs.length m':=fun x hx e=>by
  rw[(keyIn_srch h _).2 ⟨x,hx,e⟩] at hin;cases hin
 have hjl:j<R.length:=(List.getElem?_eq_some_iff.1 hm).1
 have hlen:=h.len
 refine⟨?_,?_,?_,⟨?_,?_⟩,?_,?_,?_,?_,?_,?_⟩
 ·rw[List.map_append,List.map_append,h.keys];rfl
 ·show S.ms++[m']=(R++[m']).drop c
  rw[List.drop_append_of_le_length h.cnt,h.ms]
 ·have:=h.cnt
  rw[List.length_append];omega
 ·rw[List.getElem?_append_left (by omega)];exact h.first.1
 ·show(S.E++_)[0]? =_
  rw[List.getElem?_append_left (by omega)];exact h.first.2
 ·intro i i' x x' hx hx' he
  rw[List.getElem?_append] at hx hx'
  split at hx
  ·split at hx'
   ·exact h.once i i' x x' hx hx' he
   ·rename_i h2
    cases hd:i' - R.length with
    | zero=>
     rw[hd] at hx'
     obtain rfl:m'=x':=by simpa using hx'
     exact absurd he (hnew x (List.mem_of_getElem? hx))
    |succ k=>rw[hd] at hx';simp at hx'
  ·rename_i h1
   cases hd:i - R.length with
   |succ k=>rw[hd] at hx;simp at hx
   | zero=>
    rw[hd] at hx
    obtain rfl:m'=x:=by simpa using hx
    split at hx'
    ·exact absurd he.symm (hnew x' (List.mem_of_getElem? hx'))
    ·cases hd':i' - R.length with
     |zero=>omega
     |succ k=>rw[hd'] at hx';simp at hx'
 ·intro i h0 hi
  rw[List.length_append] at hi
  have hi:i<R.length+1:=hi
  by_cases hlt:i<R.length
  ·obtain ⟨j',n',x,x',g1,g2,g3,g4,g5⟩:=h.by' i h0 hlt
   refine⟨j',n',x,x',g1,?_,?_,?_,g5⟩
   ·rw[List.getElem?_append_left (by omega)];exact g2
   ·rw[List.getElem?_append_left hlt];exact g3
   ·show(S.E++_)[i]? =_
    rw[List.getElem?_append_left (by omega)];exact g4
  ·obtain rfl:i=R.length:=by omega
   refine⟨j,n,m,m',hjl,?_,?_,?_,ht⟩
   ·rw[List.getElem?_append_left hjl];exact hm
   ·simp
   ·show(S.E++_)[R.length]? =_
    rw[<-hlen];simp
 ·intro x hx
  rcases List.mem_append.1 hx with hx |hx
  ·exact h.good x hx
  ·obtain rfl:x=m':=by simpa using hx
   exact hf
 ·intro i x hx
  rw[List.getElem?_append] at hx
  split at hx
  ·exact h.rch i x hx
  ·rename_i h1
   cases hd:i - R.length with
   |succ k=>rw[hd] at hx;simp at hx
   | zero=>
    rw[hd] at hx
    obtain rfl:m'=x:=by simpa using hx
    obtain⟨d,h2,h3⟩:=h.rch j m hm
    refine⟨d+1,by omega,?_⟩
    have:=h3.turn n
    rw[ht] at this
    exact this
 ·show S.s+1=((R++[m']).length:Int)
  rw[h.s,List.length_append];simp
 ·have h1:=h.le
  rw[List.length_append]
  rw[hlen] at hmo
  show((R.length+1:Nat):Int)<=mo
  omega
def SrPost(cs:List (List Ins))(m0:Mk)(mo:Int)(R:List Mk)(c:Nat)(P:List Mk->Prop):SpEnd×Sp->Prop
 |(.go,S')=> ∃R',R<+:R'/\Srch cs m0 mo S' R' c/\P R'
 |(.fault x,S')=> ∃R' c',R<+:R'/\Srch cs m0 mo S' R' c'/\ ∃m∈R', ∃n:Nat,x=(keyOf cs.length m,(n:Int))/\(m.turnO cs n).1=0/\0<(m.turnO cs n).2.faults
 |(.bound,_)=>True
theorem okN_zero{k:Nat}(h:okN k=0):k≠0:=fun e=>by rw[e] at h;cases h
theorem okN_one{k:Nat}(h: ¬okN k=0):k=0:=by
 unfold okN at h
 split at h
 ·assumption
 ·exact absurd rfl h
theorem spreadO_srch: ∀(k n:Nat) {S:Sp} {R:List Mk},Srch cs m0 mo S R (c+1)->R[c]? =some m->(∀i,i<n->Tried cs R m i)->
  SrPost cs m0 mo R (c+1) (fun R'=> ∀i,i<n+k->Tried cs R' m i) (spreadO cs mo m k n S)
 |0,n,S,R,h,hm,ht=>⟨R,List.prefix_refl _,h,ht⟩
 | k + 1,n,S,R,h,hm,ht=>by
  by_cases ho:okN (m.turnO cs n).1=0
  ·rw [spreadO_err ho]
   have :=spreadO_srch k (n+1) h hm (fun i hi=>by
    by_cases e:i=n
    ·subst e;exact .inl (okN_zero ho)
    ·exact ht i (by omega))
   rwa [show n+(k+1)=n+1+k by omega]
  ·have h0:=okN_one ho
   by_cases hf:0<(m.turnO cs n).2.faults
   ·rw[spreadO_fault ho hf]
    exact⟨R,c+1,List.prefix_refl _,h,m,List.mem_of_getElem? hm,n,rfl,h0,hf⟩
   ·rw [spreadO_add ho hf]
    unfold addO
    cases hin:keyIn S.E (keyOf cs.length (m.turnO cs n).2) with
    | true=>
     rw[if_pos rfl]
     have :=spreadO_srch k (n+1) h hm (fun i hi=>by
      by_cases e:i=n
      ·subst e;exact .inr ⟨by omega,(keyIn_srch h _).1 hin⟩
      ·exact ht i (by omega))
     rw[show n+(k+1)=n+1+k by omega]
     exact this
    | false =>
     rw[if_neg (by decide)]
     by_cases hmo:(S.E.length:Int)=mo
     ·rw[if_pos hmo];exact trivial
     ·rw [if_neg hmo]
      have hp:R<+:R++[(m.turnO cs n).2]:=List.prefix_append _ _
      have hlt:=(List.getElem?_eq_some_iff.1 hm).1
      have h2:=h.add (j:=c) (n:=n) (m:=m) (m':=(m.turnO cs n).2) hm (by rw[<-h0]) (by omega) hin hmo
      have :=spreadO_srch k (n+1) h2 (by rw[pre_get hp hlt];exact hm) (fun i hi=>by
       by_cases e:i=n
       ·subst e;exact .inr ⟨by omega,_,List.mem_append_right _ (by simp),rfl⟩
       ·exact(ht i (by omega)).mono hp)
      rw[show n+(k+1)=n+1+k by omega]
      show SrPost cs m0 mo R (c+1) (fun R'=> ∀i,i<n+1+k->Tried cs R' m i) (spreadO cs mo m k (n+1) ⟨S.E++[(keyOf cs.length (m.turnO cs n).2,(keyOf cs.length m,(n:Int)))],S.ms++[(m.turnO cs n).2],S.s+1,endN S.e (endTo cs (m.turnO cs n).2 cs.length),S.L++[(m.turnO cs n).2]⟩)
      revert this
      generalize spreadO cs mo m k (n+1) _=r
      obtain⟨e,S'⟩:=r
      cases e with
      |go=>rintro⟨R',g1,g2,g3⟩;exact⟨R',hp.trans g1,g2,g3⟩
      |bound=>exact fun _=>trivial
      |fault x=>rintro⟨R',c',g1,g2,g3⟩;exact⟨R',c',hp.trans g1,g2,g3⟩
theorem searchO_srch {N:Nat}: ∀(f:Nat) {S:Sp} {R:List Mk} {c:Nat},Srch cs m0 mo S R c->Closed cs R c N->
  match searchO cs mo N f S with
  |(.go,S')=> ∃R' c',Srch cs m0 mo S' R' c'/\Closed cs R' c' N
  |(.fault x,S')=> ∃R' c',Srch cs m0 mo S' R' c'/\ ∃m∈R', ∃n:Nat,x=(keyOf cs.length m,(n:Int))/\(m.turnO cs n).1=0/\0<(m.turnO cs n).2.faults
  |(.bound,_)=>True
 |0,S,R,c,h,hc=>⟨R,c,h,hc⟩
 | f +1,S,R,c,h,hc=>by
  cases hms:S.ms with
  | nil=>
   have e:searchO cs mo N (f+1) S=(.go,S):=by
    obtain⟨E,ms,s,e,L⟩:=S
    dsimp only at hms
    subst hms
    rfl
   rw[e]
   exact⟨R,c,h,hc⟩
  | cons m l=>
   rw[searchO_cons hms]
   have hd:R.drop c=m::l:=by rw[<-h.ms];exact hms
   have hlt:c<R.length:=by
    have:=congrArg List.length hd
    rw[List.length_drop,List.length_cons] at this;omega
   have hm:R[c]? =some m:=by
    have h1:(R.drop c)[0]? =some m:=by rw[hd];rfl
    rw[List.getElem?_drop] at h1
    exact h1
   have hl:l=R.drop (c+1):=by
    have h1:(R.drop c).drop 1=l:=by rw[hd];rfl
    rw[<-h1,List.drop_drop]
   have h':Srch cs m0 mo { S with ms:=l } R (c+1):=⟨h.keys,hl,hlt,h.first,h.once,h.by',h.good,h.rch,h.s,h.le⟩
   have hs:=spreadO_srch N 0 h' hm (fun i hi=>absurd hi (by omega))
   revert hs
   generalize spreadO cs mo m N 0 { S with ms:=l }=r
   obtain⟨e,S'⟩:=r
   cases e with
   |bound=>exact fun _=>trivial
   |fault x=>rintro⟨R',c',g1,g2,g3⟩;exact⟨R',c',g2,g3⟩
   | go=>
    rintro⟨R',g1,g2,g3⟩
    refine searchO_srch f g2 (fun j x hj hx n hn=>?_)
    by_cases e:j=c
    ·subst e
     rw[pre_get g1 hlt,hm] at hx
     cases hx
     exact g3 n (by omega)
    ·exact hc.mono g1 (by omega) j x (by omega) hx n hn
theorem first_srch(h:1<=mo)(hf:m0.faults=0):Srch cs m0 mo (firstS cs m0) [m0] 0:=by
 refine⟨rfl,rfl,Nat.zero_le _,⟨rfl,rfl⟩,fun i j m m' hi hj _=>?_,fun i h0 hi=>?_,fun m hm=>?_,fun i m hi=>?_,rfl,by show((1:Nat):Int)<=mo;omega⟩
 ·have:=(List.getElem?_eq_some_iff.1 hi).1
  have:=(List.getElem?_eq_some_iff.1 hj).1
  simp at*
  omega
 ·have hi:i<1:=hi
  omega
 ·obtain rfl:m=m0:=by simpa using hm
  exact hf
 ·have h1:=(List.getElem?_eq_some_iff.1 hi).1
  have h1:i<1:=h1
  obtain rfl:i=0:=by omega
  obtain rfl:m0=m:=by simpa using hi
  exact⟨0,Nat.le_refl _, .zero⟩
theorem back_run (h:Srch cs m0 mo S R c) (hne: ∀m∈R,keyOf cs.length m≠ByteArray.empty) {y:ByteArray×Int} (hb:Back S.E y l):
  ∀(i:Nat) m k,R[i]? =some m->S.E[i]? =some (k,y)->m0.runO cs l.reverse=(l.length,m)/\l.length<=i:=by
 induction hb with
 | first n=>
  intro i m k hm hE
  by_cases hi:0<i
  ·obtain ⟨j,n',x,x',g1,g2,g3,g4, -⟩:=h.by' i hi (List.getElem?_eq_some_iff.1 hm).1
   rw[hE] at g4
   have e:ByteArray.empty=keyOf cs.length x:=by
    have:=Option.some.inj g4
    exact congrArg (fun z:ByteArray×ByteArray×Int=>z.2.1) this
   exact absurd e.symm (hne x (List.mem_of_getElem? g2))
  ·obtain rfl:i=0:=by omega
   rw[h.first.1] at hm
   cases hm
   exact⟨rfl,Nat.le_refl _⟩
 | step n hk hin hb ih=>
  rename_i k0 y0 l0
  intro i m k hm hE
  by_cases hi:0<i
  ·obtain⟨j,n',x,x',g1,g2,g3,g4,g5⟩:=h.by' i hi (List.getElem?_eq_some_iff.1 hm).1
   rw[hE] at g4
   rw[hm] at g3
   cases g3
   have hz:=Option.some.inj g4
   have e1:k0=keyOf cs.length x:=congrArg (fun z:ByteArray×ByteArray×Int=>z.2.1) hz
   have e2:n=(n':Int):=congrArg (fun z:ByteArray×ByteArray×Int=>z.2.2) hz
   subst e2
   obtain⟨j',hj'⟩:=List.mem_iff_getElem?.1 hin
   obtain⟨x2,hx2,hk2⟩:=h.key hj'
   have ej:j'=j:=h.once j' j x2 x hx2 g2 (by rw[<-hk2, <-e1])
   subst ej
   obtain⟨hr,hle⟩:=ih j' x k0 g2 hj'
   refine⟨?_,by rw[List.length_cons];omega⟩
   rw[List.reverse_cons,Mk.runO_snoc,hr,g5,List.length_cons]
   rfl
  ·obtain rfl:i=0:=by omega
   rw[h.first.2] at hE
   have e:ByteArray.empty=k0:=by
    have:=Option.some.inj hE
    exact congrArg (fun z:ByteArray×ByteArray×Int=>z.2.1) this
   exact absurd e.symm hk
theorem back_fault(h:Srch cs m0 mo S R c)(hne: ∀m∈R,keyOf cs.length m≠ByteArray.empty)(hm:m∈R){n:Nat}(hb:Back S.E (keyOf cs.length m,(n:Int)) l):
  ∃l0,l=(n:Int)::l0/\m0.runO cs l0.reverse=(l0.length,m)/\l0.length<R.length:=by
 have hk:=hne m hm
 generalize hy:(keyOf cs.length m,(n:Int))=y at hb
 cases hb with
 |first n'=>exact absurd (congrArg Prod.fst hy) hk
 | step n' h1 h2 h3=>
  rename_i k0 y0 l0
  cases hy
  obtain⟨i,hi⟩:=List.mem_iff_getElem?.1 hm
  obtain⟨j,hj⟩:=List.mem_iff_getElem?.1 h2
  obtain⟨x,hx,hkx⟩:=h.key hj
  obtain rfl:j=i:=h.once j i x m hx hi hkx.symm
  obtain⟨g1,g2⟩:=back_run h hne h3 j m _ hi hj
  have:=(List.getElem?_eq_some_iff.1 hi).1
  exact⟨l0,rfl,g1,by omega⟩
end
section
open Go.RowKit
variable {cs:List (List Ins)} {mo:Int} {m0:Mk} {c:Nat} {R:List Mk} {S:Sp}
structure Ro where
 L:List (Mk×List Int)
 e:Int
inductive RoEnd
 |fault (l:List Int)
 |more
 |go
 |fuel
def seenO(cs:List (List Ins))(L:List (Mk×List Int))(m:Mk):Bool:=L.any fun x=>decide (keyOf cs.length x.1=keyOf cs.length m)
def spreadR(cs:List (List Ins))(mo:Int)(m:Mk)(wy:List Int):Nat->Nat->Ro->RoEnd×Ro
 |0,_,T=>(.go,T)
 | k+1,n,T=>
  if okN (m.turnO cs n).1=0 then spreadR cs mo m wy k (n+1) T
  else if 0<(m.turnO cs n).2.faults then(.fault (wy++[(n:Int)]),T)
  else if seenO cs T.L (m.turnO cs n).2=true then spreadR cs mo m wy k (n+1) T
  else if(T.L.length:Int)=mo then(.more,T)
  else spreadR cs mo m wy k (n+1) ⟨T.L++[((m.turnO cs n).2,wy++[(n:Int)])],endN T.e (endTo cs (m.turnO cs n).2 cs.length)⟩
def walkR (cs:List (List Ins)) (mo:Int) (N:Nat):Nat->Nat->Ro->RoEnd×Ro
 |0,_,T=>(.fuel,T)
 | f+1,i,T=>match T.L[i]? with
  |none=>(.go,T)
  | some x=>match spreadR cs mo x.1 x.2 N 0 T with
   |(.go,T')=>walkR cs mo N f (i+1) T'
   |r=>r
def firstR(cs:List (List Ins))(m0:Mk):Ro:=⟨[(m0,[])],endN 0 (endTo cs m0 cs.length)⟩
structure Lk(cs:List (List Ins))(m0:Mk)(mo:Int)(S:Sp)(R:List Mk)(c:Nat)(T:Ro):Prop where
 srch:Srch cs m0 mo S R c
 L:T.L.map (·.1)=R
 e:S.e=T.e
 way: ∀(i:Nat) x,T.L[i]? =some x-> ∃y,S.E[i]? =some (keyOf cs.length x.1,y)/\Back S.E y x.2.reverse
theorem Lk.len{T:Ro}(h:Lk cs m0 mo S R c T):S.E.length=T.L.length:=by
 rw[h.srch.len, <-h.L,List.length_map]
theorem Lk.seen {T:Ro} (h:Lk cs m0 mo S R c T) (m:Mk):seenO cs T.L m=keyIn S.E (keyOf cs.length m):=by
 have h1:seenO cs T.L m=true↔keyIn S.E (keyOf cs.length m)=true:=by
  rw[keyIn_srch h.srch]
  unfold seenO
  rw[List.any_eq_true, <-h.L]
  constructor
  ·rintro⟨x,hx,he⟩
   exact⟨x.1,List.mem_map_of_mem hx,of_decide_eq_true he⟩
  ·rintro⟨m',hm',he⟩
   obtain⟨x,hx,rfl⟩:=List.mem_map.1 hm'
   exact⟨x,hx,decide_eq_true he⟩
 cases h2:seenO cs T.L m with
 |true=>exact(h1.1 h2).symm
 | false=>
  cases h3:keyIn S.E (keyOf cs.length m) with
  |false=>rfl
  |true=>rw[h1.2 h3] at h2;cases h2
theorem Back.det {E:List (ByteArray×ByteArray×Int)} (hu: ∀k y y',(k,y)∈E->(k,y')∈E->y=y') {x:ByteArray×Int} {l:List Int} (h:Back E x l): ∀{l':List Int},Back E x l'->l=l':=by
 induction h with
 | first n=>
  intro l' h'
  generalize hx:(ByteArray.empty,n)=x at h'
  cases h' with
  |first n'=>rfl
  |step n' hk h1 h2=>exact absurd (congrArg Prod.fst hx).symm hk
 | step n hk h1 h2 ih=>
  rename_i k y l
  intro l' h'
  generalize hx:(k,n)=x at h'
  cases h' with
  |first n'=>exact absurd (congrArg Prod.fst hx) hk
  | step n' hk' h1' h2'=>
   cases hx
   obtain rfl:=hu _ _ _ h1 h1'
   rw[ih h2']
theorem Srch.uniq(h:Srch cs m0 mo S R c): ∀k y y',(k,y)∈S.E->(k,y')∈S.E->y=y':=by
 intro k y y' h1 h2
 obtain⟨i,hi⟩:=List.mem_iff_getElem?.1 h1
 obtain⟨j,hj⟩:=List.mem_iff_getElem?.1 h2
 obtain⟨m,hm,hk⟩:=h.key hi
 obtain⟨m',hm',hk'⟩:=h.key hj
 obtain rfl:=h.once i j m m' hm hm' (hk.symm.trans hk')
 rw[hi] at hj
 exact congrArg Prod.snd (Option.some.inj hj)
def BothW(cs:List (List Ins))(m0:Mk)(mo:Int)(c:Nat):SpEnd×Sp->RoEnd×Ro->Prop
 |(.go,S),(.go,T)=> ∃R,Lk cs m0 mo S R c T
 |(.bound,_),(.more,_)=>True
 |(.fault x,S),(.fault wy,T)=>S.s=T.L.length/\S.e=T.e/\ ∀l,Back S.E x l->l.reverse=wy
 |_,_=>False
theorem spread_both {m:Mk} {wy:List Int} (hne: ∀S R c,Srch cs m0 mo S R c-> ∀m∈R,keyOf cs.length m≠ByteArray.empty): ∀(k n:Nat) {S:Sp} {R:List Mk} {T:Ro},
  Lk cs m0 mo S R (c+1) T->T.L[c]? =some (m,wy)->BothW cs m0 mo (c+1) (spreadO cs mo m k n S) (spreadR cs mo m wy k n T)
 |0,n,S,R,T,h,hm=>⟨R,h⟩
 | k + 1,n,S,R,T,h,hm=>by
  have hRm:R[c]? =some m:=by rw[<-h.L,List.getElem?_map,hm];rfl
  obtain⟨y,hy,hb⟩:=h.way c _ hm
  have hk:=hne _ _ _ h.srch m (List.mem_of_getElem? hRm)
  have hbn:Back S.E (keyOf cs.length m,(n:Int)) ((n:Int)::wy.reverse):= .step _ hk (List.mem_of_getElem? hy) hb
  unfold spreadR
  by_cases ho:okN (m.turnO cs n).1=0
  ·rw[spreadO_err ho,if_pos ho]
   exact spread_both hne k (n+1) h hm
  ·have h0:=okN_one ho
   rw[if_neg ho]
   by_cases hf:0<(m.turnO cs n).2.faults
   ·rw[spreadO_fault ho hf,if_pos hf]
    refine⟨by rw[h.srch.s, <-h.L,List.length_map],h.e,fun l hl=>?_⟩
    rw[Back.det h.srch.uniq hl hbn,List.reverse_cons,List.reverse_reverse]
   ·rw [spreadO_add ho hf,if_neg hf,h.seen]
    unfold addO
    cases hin:keyIn S.E (keyOf cs.length (m.turnO cs n).2) with
    | true=>
     rw[if_pos rfl,if_pos rfl]
     exact spread_both hne k (n+1) h hm
    | false =>
     rw[if_neg (show ¬(false=true) by decide),if_neg (show ¬(false=true) by decide), <-h.len]
     by_cases hmo:(S.E.length:Int)=mo
     ·rw[if_pos hmo,if_pos hmo];exact trivial
     ·rw [if_neg hmo,if_neg hmo]
      have hlt:=(List.getElem?_eq_some_iff.1 hm).1
      have h2:=h.srch.add (j:=c) (n:=n) (m:=m) (m':=(m.turnO cs n).2) hRm (by rw[<-h0]) (by omega) hin hmo
      refine spread_both hne k (n+1) (R:=R++[(m.turnO cs n).2]) ⟨h2,?_,?_,fun i x hx=>?_⟩ (by show(T.L++_)[c]? =_;rw[List.getElem?_append_left hlt];exact hm)
      ·show(T.L++_).map _=_
       rw[List.map_append,h.L];rfl
      ·show endN S.e _=endN T.e _
       rw[h.e]
      ·have hx:(T.L++[((m.turnO cs n).2,wy++[(n:Int)])])[i]? =some x:=hx
       by_cases hi:i<T.L.length
       ·rw[List.getElem?_append_left hi] at hx
        obtain⟨z,hz,hbz⟩:=h.way i x hx
        exact⟨z,by show(S.E++_)[i]? =_;rw[List.getElem?_append_left (by rw[h.len];exact hi)];exact hz,hbz.grow⟩
       ·have hi2:=(List.getElem?_eq_some_iff.1 hx).1
        rw[List.length_append] at hi2
        have hi2:i<T.L.length+1:=hi2
        obtain rfl:i=T.L.length:=by omega
        rw[List.getElem?_append_right nL,Nat.sub_self] at hx
        cases hx
        refine⟨_,by show(S.E++_)[_]? =_;rw[List.getElem?_append_right (by rw[h.len];exact Nat.le_refl _),h.len,Nat.sub_self];rfl,?_⟩
        show Back (S.E++_) (keyOf cs.length m,(n:Int)) (wy++[(n:Int)]).reverse
        rw[List.reverse_append]
        exact hbn.grow
def Same(r:SpEnd×Sp)(q:RoEnd×Ro):Prop:=
 match r,q with
 |(.go,S),(.go,T)=>S.s=T.L.length/\S.e=T.e
 |(.bound,_),(.more,_)=>True
 |(.fault x,S),(.fault wy,T)=>S.s=T.L.length/\S.e=T.e/\ ∀l,Back S.E x l->l.reverse=wy
 |_,_=>False
theorem search_both {N:Nat} (hne: ∀S R c,Srch cs m0 mo S R c-> ∀m∈R,keyOf cs.length m≠ByteArray.empty): ∀(f f':Nat) {S:Sp} {R:List Mk} {c:Nat} {T:Ro},Lk cs m0 mo S R c T->
  ((searchO cs mo N f S).1= .go->(searchO cs mo N f S).2.ms=[])->(walkR cs mo N f' c T).1≠ .fuel->Same (searchO cs mo N f S) (walkR cs mo N f' c T)
 |f,0,S,R,c,T,h,_,hq=>absurd rfl hq
 | f, f' +1,S,R,c,T,h,hr,hq=>by
  cases hms:S.ms with
  | nil=>
   have e:searchO cs mo N f S=(.go,S):=by
    obtain⟨E,ms,s,e,L⟩:=S
    dsimp only at hms
    subst hms
    cases f <;> rfl
   have hc:T.L[c]? =none:=by
    have e:=h.srch.ms
    rw[hms] at e
    have:=congrArg List.length e
    rw[List.length_drop,List.length_nil] at this
    refine List.getElem?_eq_none ?_
    rw[<-h.L,List.length_map] at this
    omega
   unfold walkR
   rw[e,hc]
   exact⟨by rw[h.srch.s, <-h.L,List.length_map],h.e⟩
  | cons m l=>
   cases f with
   | zero=>
    have:=hr rfl
    rw[show(searchO cs mo N 0 S).2=S from rfl,hms] at this
    cases this
   | succ f=>
    have hd:R.drop c=m::l:=by rw[<-h.srch.ms];exact hms
    have hlt:c<R.length:=by
     have:=congrArg List.length hd
     rw[List.length_drop,List.length_cons] at this;omega
    have hm:R[c]? =some m:=by
     have h1:(R.drop c)[0]? =some m:=by rw[hd];rfl
     rw[List.getElem?_drop] at h1
     exact h1
    have hl:l=R.drop (c+1):=by
     have h1:(R.drop c).drop 1=l:=by rw[hd];rfl
     rw[<-h1,List.drop_drop]
    obtain ⟨wy,hx⟩: ∃wy,T.L[c]? =some (m,wy):=by
     rw[<-h.L,List.getElem?_map] at hm
     cases hx:T.L[c]? with
     |none=>rw[hx] at hm;cases hm
     | some x=>
      rw[hx] at hm
      obtain⟨x1,x2⟩:=x
      cases hm
      exact⟨x2,rfl⟩
    have h':Lk cs m0 mo { S with ms:=l } R (c+1) T:=⟨⟨h.srch.keys,hl,hlt,h.srch.first,h.srch.once,h.srch.by',h.srch.good,h.srch.rch,h.srch.s,h.srch.le⟩,h.L,h.e,h.way⟩
    have hb:=spread_both hne N 0 h' hx
    have e2:walkR cs mo N (f'+1) c T=match spreadR cs mo m wy N 0 T with
      |(.go,T')=>walkR cs mo N f' (c+1) T'
      |r=>r:=by
     show (match T.L[c]? with
      |none=>(RoEnd.go,T)
      | some x=>match spreadR cs mo x.1 x.2 N 0 T with
       |(.go,T')=>walkR cs mo N f' (c+1) T'
       |r=>r)=_
     rw[hx]
    rw[e2] at hq ⊢
    rw[searchO_cons hms] at hr ⊢
    revert hb hr hq
    generalize spreadO cs mo m N 0 { S with ms:=l }=r
    generalize spreadR cs mo m wy N 0 T=q
    obtain⟨r1,r2⟩:=r
    obtain⟨q1,q2⟩:=q
    cases r1 <;> cases q1 <;> intro hr hq hb
    all_goals first
     |exact hb
     |exact False.elim hb
     | (obtain⟨R',hR'⟩:=hb
        exact search_both hne f f' hR' hr hq)
theorem first_both(h:1<=mo)(hf:m0.faults=0):Lk cs m0 mo (firstS cs m0) [m0] 0 (firstR cs m0):=
 ⟨first_srch h hf,rfl,rfl,fun i x hx=>by
  have h1:=(List.getElem?_eq_some_iff.1 hx).1
  have h1:i<1:=h1
  obtain rfl:i=0:=by omega
  cases hx
  exact⟨_,rfl, .first _⟩⟩
end
end Go.Proofs.YtdpmnlbnlnmjbaaGreatDoor
