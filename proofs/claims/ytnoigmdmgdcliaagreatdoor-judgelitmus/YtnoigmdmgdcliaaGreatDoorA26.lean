import Derived.Test.YtnoigmdmgdcliaaGreatDoorA25
import Derived.Test.YtnoigmdmgdcliaaGreatDoorA18
import Derived.Test.YtnoigmdmgdcliaaGreatDoorA24
namespace Go.Proofs.YtnoigmdmgdcliaaGreatDoor
set_option maxRecDepth 100000
set_option maxHeartbeats 8000000
section
open Go.RowKit Go.Extern.Stop Go.Stop Go.Extern Go.Maps Go.WideMaps Go.Sort
structure SdAt(a:Nat->Addr)(cs:List (List Ins))(p:MkPl)(m:Mk)(K:Nat)(q:SrPl)(S:Sp)(qv:Sq)(F:List (MkPl×Mk))(p':MkPl)(m':Mk)(K':Nat)(w:World):Prop where
 rx:RunX a cs p m K w
 cp:RunX a cs p' m' K' w
 pB:p'.B=p.B
 sp:SpAt a cs p.B q S qv F w
 ap: ∀k,p'.fp k-> ¬p.fp k
 aq: ∀k,p.fp k-> ¬q.fp qv k
 aq': ∀k,p'.fp k-> ¬q.fp qv k
 aF: ∀x∈F, ∀k,x.1.fp k-> ¬p.fp k
 aF': ∀x∈F, ∀k,x.1.fp k-> ¬p'.fp k
variable {a:Nat->Addr} {cs:List (List Ins)} {p p':MkPl} {m m' m2:Mk} {K K':Nat} {q:SrPl} {S S':Sp} {qv qv':Sq} {F F':List (MkPl×Mk)} {w w1 w2:World}
theorem SdAt.below{w':World}(h:SdAt a cs p m K q S qv F p' m' K' w)(k:Below w.heap.size w w'):SdAt a cs p m K q S qv F p' m' K' w':=
 ⟨h.rx.below k,h.cp.below k,h.pB,h.sp.below k,h.ap,h.aq,h.aq',h.aF,h.aF'⟩
theorem SdAt.ran{v:Value}(h:SdAt a cs p m K q S qv F p' m' K' w)(b1:Below w.heap.size w w1)(k:MkStep a cs p' w1 v m2 w2){K2:Nat}(rx:RunX a cs (p'.marked v) m2 K2 w2):SdAt a cs p m K q S qv F (p'.marked v) m2 K2 w2:=by
 have T:Turns (fun k _=>p'.fp k) w w2:=(Turns.of_below b1).trans k.turns
 have hB: ∀i,p'.fp i->p.B<=i:=fun i hi=>by rw[<-h.pB];exact h.cp.at'.fp_ge hi
 have hm: ∀i,(p'.marked v).fp i->p'.fp i∨w.heap.size<=i:=fun i hi=>(MkPl.fp_marked k hi).imp id (fun e=>Nat.le_trans b1.size e)
 refine⟨⟨h.rx.at'.turns T (fun i _ hi hp=>h.ap i hi hp) (fun i _ hi=>hB i hi),h.rx.ok,h.rx.right,h.rx.hK⟩,rx,h.pB,h.sp.turns T (fun i _ hi=>h.aq' i hi) (fun x hx i _ hi hp=>h.aF' x hx i hp hi) (fun i _ hi=>hB i hi),fun i hi hp=>?_,h.aq,fun i hi hp=>?_,h.aF,fun x hx i hp hi=>?_⟩
 ·rcases hm i hi with e |e
  ·exact h.ap i e hp
  ·have:=h.rx.at'.fp_lt hp;omega
 ·rcases hm i hi with e |e
  ·exact h.aq' i e hp
  ·have:=h.sp.sr.lt hp;omega
 ·rcases hm i hi with e |e
  ·exact h.aF' x hx i hp e
  ·have:=(h.sp.at' x hx).2.1.fp_lt hp;omega
theorem SdAt.same(h:SdAt a cs p m K q S qv F p' m K' w):SdAt a cs p m K q S qv F p' m K w:=
 ⟨h.rx,⟨h.cp.at',h.rx.ok,h.cp.right,h.rx.hK⟩,h.pB,h.sp,h.ap,h.aq,h.aq',h.aF,h.aF'⟩
theorem SdAt.next {v:Value} (h:SdAt a cs p m K q S qv F p' m' K' w) (hs:SpAt a cs p.B q S' qv' F' w1) (t:Turns (fun k _=>q.fp qv k) w w1) (hf: ∀k,q.fp qv' k->q.fp qv k∨w.heap.size<=k) (hF:F'=F∨F'=F++[(p',m')])
  (hm:MkAt a cs ⟨p.B,w1.heap.size,p.pb,p.pc,v⟩ m w2) (b2:Below w1.heap.size w1 w2) (hv: ∀k,v.ownBlock=some k->w1.heap.size<=k):SdAt a cs p m K q S' qv' F' ⟨p.B,w1.heap.size,p.pb,p.pc,v⟩ m K w2:=by
 have rx1:RunX a cs p m K w1:=⟨h.rx.at'.searched h.sp.so h.sp.sr hs.sr t h.aq,h.rx.ok,h.rx.right,h.rx.hK⟩
 have hnew: ∀i,(⟨p.B,w1.heap.size,p.pb,p.pc,v⟩:MkPl).fp i->w1.heap.size<=i:=fun i hi=>by
  rcases hi with rfl |hi
  ·exact Nat.le_refl _
  ·exact hv i hi
 refine⟨rx1.below b2,⟨hm,h.rx.ok,h.rx.right,h.rx.hK⟩,rfl,hs.below b2,fun i hi hp=>?_,fun i hp hi=>?_,fun i hi hq=>?_,fun x hx i hi hp=>?_,fun x hx i hp hi=>?_⟩
 ·have:=hnew i hi;have:=rx1.at'.fp_lt hp;omega
 ·rcases hf i hi with e |e
  ·exact h.aq i hp e
  ·have:=h.rx.at'.fp_lt hp;omega
 ·have:=hnew i hi;have:=hs.sr.lt hq;omega
 ·rcases hF with rfl |rfl
  ·exact h.aF x hx i hi hp
  ·rcases List.mem_append.1 hx with hx |hx
   ·exact h.aF x hx i hi hp
   ·obtain rfl:x=(p',m'):=by simpa using hx
    exact h.ap i hi hp
 ·have:=hnew i hi;have:=(hs.at' x hx).2.1.fp_lt hp;omega
theorem turnO_err {n:Int} (h:okN (m.turnO cs n).1=0):(m.turnO cs n).2=m:=by
 have h0:(m.turnO cs n).1≠0:=fun e=>by rw[e] at h;exact absurd h (by decide)
 revert h0
 unfold Mk.turnO Mk.stepO Mk.drainO
 split
 ·split
  ·split
   ·exact fun _=>rfl
   ·exact fun h=>absurd rfl h
  ·exact fun _=>rfl
 ·split
  ·split
   ·exact fun _=>rfl
   ·exact fun h=>absurd rfl h
  ·exact fun _=>rfl
end
section
open Go.RowKit Go.Extern.Stop Go.Stop Go.Extern Go.Maps Go.WideMaps Go.Sort
theorem Turns.then{S S':Nat->Nat->Prop}{w w1 w2:World}(h:Turns S w w1)(t:Turns S' w1 w2)(hS: ∀k o,k<w.heap.size->S' k o->S k o):Turns S w w2:=
 ⟨t.os.trans h.os,t.tape.trans h.tape,t.output.trans h.output,Nat.le_trans h.size t.size,
  fun k hk ho=>(t.block k (Nat.lt_of_lt_of_le hk h.size) (fun o hs=>ho o (hS k o hk hs))).trans (h.block k hk ho),
  fun k o hk ho=>(t.cell k o (Nat.lt_of_lt_of_le hk h.size) (fun hs=>ho (hS k o hk hs))).trans (h.cell k o hk ho),
  fun k o hk ho=>(t.frozen k o (Nat.lt_of_lt_of_le hk h.size) (fun hs=>ho (hS k o hk hs))).trans (h.frozen k o hk ho)⟩
structure Kept(q:SrPl)(S0:Sp)(qv0:Sq)(F0:List (MkPl×Mk))(w0:World)(j:Nat)(S:Sp)(qv:Sq)(F:List (MkPl×Mk))(w:World):Prop where
 grow: ∃G,S.E=S0.E++G
 len:S.E.length<=S0.E.length+j
 ahead:F.length<=F0.length+j
 s:0<=S.s/\S.s<=S0.s+j
 e:0<=S.e/\S.e<=S0.e+j
 keys: ∀x∈S.E,x.1.size<=maxLen
 turns:Turns (fun k _=>q.fp qv0 k) w0 w
 fp: ∀k,q.fp qv k->q.fp qv0 k∨w0.heap.size<=k
 new: ∀y∈F,y∈F0∨ ∀k,y.1.fp k->w0.heap.size<=k
variable {a:Nat->Addr} {cs:List (List Ins)} {p p':MkPl} {m m':Mk} {K K':Nat} {q:SrPl} {S0 S S':Sp} {qv0 qv qv':Sq} {F0 F F':List (MkPl×Mk)} {w0 w w1 w2:World} {j:Nat}
theorem Kept.start(h1: ∀x∈S.E,x.1.size<=maxLen)(hs:0<=S.s)(he:0<=S.e):Kept q S qv F w 0 S qv F w:=
 ⟨⟨[],by simp⟩,by omega,by omega,⟨hs,by omega⟩,⟨he,by omega⟩,h1,Turns.refl _ _,fun _ h=> .inl h,fun _ h=> .inl h⟩
theorem Kept.quiet(h:Kept q S0 qv0 F0 w0 j S qv F w)(k:Below w0.heap.size w w1):Kept q S0 qv0 F0 w0 j S qv F w1:=
 ⟨h.grow,h.len,h.ahead,h.s,h.e,h.keys,h.turns.then (S':=fun k _=>w0.heap.size<=k) ⟨k.os,k.tape,k.output,k.size,fun i hi ho=>k.block i (Nat.lt_of_not_le (ho 0)),fun i o hi ho=>World.cell?_of_block (k.block i (Nat.lt_of_not_le ho)),fun i o hi ho=>World.frozen?_of_block (k.block i (Nat.lt_of_not_le ho))⟩ (fun i _ hi hs=>by omega),h.fp,h.new⟩
theorem Kept.more(h:Kept q S0 qv0 F0 w0 j S qv F w):Kept q S0 qv0 F0 w0 (j+1) S qv F w:=
 ⟨h.grow,by have:=h.len;omega,by have:=h.ahead;omega,⟨h.s.1,by have:=h.s.2;omega⟩,⟨h.e.1,by have:=h.e.2;omega⟩,h.keys,h.turns,h.fp,h.new⟩
theorem endN_range(e:Int)(b:Bool):e<=endN e b/\endN e b<=e+1:=by cases b <;> simp[endN] <;> omega
theorem Kept.added {x:ByteArray×Int} (h:Kept q S0 qv0 F0 w0 j S qv F w) (hk:KeyOk cs.length m') (hadd:addSp cs q.mo S m' x=some S') (t:Turns (fun k _=>q.fp qv k) w w1) (hf: ∀k,q.fp qv' k->q.fp qv k∨w.heap.size<=k) (hF:F'=F∨F'=F++[(p',m')]) (hp: ∀k,p'.fp k->w0.heap.size<=k):Kept q S0 qv0 F0 w0 (j+1) S' qv' F' w1:=by
 have hsz:=h.turns.size
 have hturn:Turns (fun k _=>q.fp qv0 k) w0 w1:=h.turns.then t (fun k _ hk hq=>(h.fp k hq).elim id (fun e=>by omega))
 have hfp: ∀k,q.fp qv' k->q.fp qv0 k∨w0.heap.size<=k:=fun k hk=>by
  rcases hf k hk with e |e
  ·exact h.fp k e
  ·exact .inr (by omega)
 have hnew: ∀y∈F',y∈F0∨ ∀k,y.1.fp k->w0.heap.size<=k:=fun y hy=>by
  rcases hF with rfl |rfl
  ·exact h.new y hy
  ·rcases List.mem_append.1 hy with hy |hy
   ·exact h.new y hy
   ·obtain rfl:y=(p',m'):=by simpa using hy
    exact .inr hp
 have hlen:F'.length<=F0.length+(j+1):=by
  have:=h.ahead
  rcases hF with rfl |rfl
  ·omega
  ·rw[List.length_append];simp;omega
 unfold addSp at hadd
 split at hadd
 ·cases hadd
  exact⟨h.grow,by have:=h.len;omega,hlen,⟨h.s.1,by have:=h.s.2;omega⟩,⟨h.e.1,by have:=h.e.2;omega⟩,h.keys,hturn,hfp,hnew⟩
 ·split at hadd
  ·cases hadd
  ·cases hadd
   obtain⟨G,hG⟩:=h.grow
   have hr:=endN_range S.e (endTo cs m' cs.length)
   refine⟨⟨G++[(keyOf cs.length m',x)],by rw[hG,List.append_assoc]⟩,?_,hlen,⟨?_,?_⟩,⟨?_,?_⟩,fun y hy=>?_,hturn,hfp,hnew⟩
   ·rw[List.length_append];have:=h.len;simp;omega
   ·have:=h.s.1;show 0<=S.s+1;omega
   ·have:=h.s.2;show S.s+1<=_;omega
   ·have:=h.e.1;show 0<=endN _ _;omega
   ·have:=h.e.2;show endN _ _<=_;omega
   ·rcases List.mem_append.1 hy with hy |hy
    ·exact h.keys y hy
    ·obtain rfl:y=(keyOf cs.length m',x):=by simpa using hy
     exact hk.size
end
section
open Go.RowKit Go.Extern.Stop Go.Stop Go.Extern Go.Maps Go.WideMaps Go.Sort
def SdPost (a:Nat->Addr) (cs:List (List Ins)) (p:MkPl) (m:Mk) (q:SrPl) (S:Sp) (qv:Sq) (F:List (MkPl×Mk)) (w:World) (N:Nat) (l:List Int) (r:Ending) (w':World):Prop:=
 ∃ S1 qv1 F1 j,j<=N/\SpAt a cs p.B q S1 qv1 F1 w'/\Kept q S qv F w j S1 qv1 F1 w'/\
  ((spreadO cs q.mo m N 0 S=(.go,S1)/\r= .returned (.tuple #[.slice none 0 0, .nilIface]))∨(spreadO cs q.mo m N 0 S=(.bound,S1)/\r= .returned (.tuple #[.slice none 0 0,errAt (a 1)]))∨
   (∃n:Nat,spreadO cs q.mo m N 0 S=(.fault (keyOf cs.length m,n),S1)/\ ∃v,r= .returned (.tuple #[v, .nilIface])/\numsOwn w' w.heap.size v ((n:Int)::l).reverse))
structure SdRel(a:Nat->Addr)(cs:List (List Ins))(p:MkPl)(m:Mk)(K:Nat)(q:SrPl)(S0:Sp)(qv0:Sq)(F0:List (MkPl×Mk))(w0:World)(N j:Nat)(S:Sp)(qv:Sq)(F:List (MkPl×Mk))(p':MkPl)(w:World):Prop where
 sd:SdAt a cs p m K q S qv F p' m K w
 kept:Kept q S0 qv0 F0 w0 j S qv F w
 new: ∀k,p'.fp k->w0.heap.size<=k
 eq:spreadO cs q.mo m N 0 S0=spreadO cs q.mo m (N - j) j S
theorem spreadO_err{cs:List (List Ins)}{mo:Int}{m:Mk}{k n:Nat}{S:Sp}(h:okN (m.turnO cs n).1=0):spreadO cs mo m (k+1) n S=spreadO cs mo m k (n+1) S:=if_pos h
theorem spreadO_fault{cs:List (List Ins)}{mo:Int}{m:Mk}{k n:Nat}{S:Sp}(h: ¬okN (m.turnO cs n).1=0)(hf:0<(m.turnO cs n).2.faults):spreadO cs mo m (k+1) n S=(.fault (keyOf cs.length m,n),S):=by
 show(if _ then _ else _)=_
 rw[if_neg h,if_pos hf]
theorem spreadO_add{cs:List (List Ins)}{mo:Int}{m:Mk}{k n:Nat}{S:Sp}(h: ¬okN (m.turnO cs n).1=0)(hf: ¬0<(m.turnO cs n).2.faults):spreadO cs mo m (k+1) n S=(match addSp cs mo S (m.turnO cs n).2 (keyOf cs.length m,n) with |none=>(.bound,S) |some S'=>spreadO cs mo m k (n+1) S'):=by
 show(if _ then _ else _)=_
 rw[if_neg h,if_neg hf]
 all_goals rfl
theorem SdAt.start{a:Nat->Addr}{cs:List (List Ins)}{p:MkPl}{m:Mk}{K:Nat}{q:SrPl}{S:Sp}{qv:Sq}{v:Value}{F:List (MkPl×Mk)}{w w1:World}(rx:RunX a cs p m K w)(hs:SpAt a cs p.B q S qv F w)(hd: ∀k,p.fp k-> ¬q.fp qv k)(hF: ∀x∈F, ∀k,x.1.fp k-> ¬p.fp k) 
  (hm:MkAt a cs ⟨p.B,w.heap.size,p.pb,p.pc,v⟩ m w1) (b:Below w.heap.size w w1) (hv: ∀k,v.ownBlock=some k->w.heap.size<=k):SdAt a cs p m K q S qv F ⟨p.B,w.heap.size,p.pb,p.pc,v⟩ m K w1:=by
 have hnew: ∀i,(⟨p.B,w.heap.size,p.pb,p.pc,v⟩:MkPl).fp i->w.heap.size<=i:=fun i hi=>by
  rcases hi with rfl |hi
  ·exact Nat.le_refl _
  ·exact hv i hi
 refine⟨rx.below b,⟨hm,rx.ok,rx.right,rx.hK⟩,rfl,hs.below b,fun i hi hp=>?_,hd,fun i hi hq=>?_,hF,fun x hx i hp hi=>?_⟩
 ·have:=hnew i hi;have:=rx.at'.fp_lt hp;omega
 ·have:=hnew i hi;have:=hs.sr.lt hq;omega
 ·have:=hnew i hi;have:=(hs.at' x hx).2.1.fp_lt hp;omega
section
variable {a:Nat->Addr} {cs:List (List Ins)} {p p':MkPl} {m m':Mk} {K K' N j:Nat} {q:SrPl} {S0 S S':Sp} {qv0 qv qv':Sq} {v:Value} {F0 F F':List (MkPl×Mk)} {w0 w w1 w2 w3:World}
theorem SdRel.ran(h:SdRel a cs p m K q S0 qv0 F0 w0 N j S qv F p' w)(b1:Below w.heap.size w w1)(k:MkStep a cs p' w1 v m' w2)(rx:RunX a cs (p'.marked v) m' K' w2):
  SdAt a cs p m K q S qv F (p'.marked v) m' K' w2/\Kept q S0 qv0 F0 w0 j S qv F w2/\ ∀k,(p'.marked v).fp k->w0.heap.size<=k:=by
 have T:Turns (fun k _=>p'.fp k) w w2:=(Turns.of_below b1).trans k.turns
 have hsz:=h.kept.turns.size
 refine⟨h.sd.ran b1 k rx,h.kept.quiet (T.below hsz (fun i o hi hp=>by have:=h.new i hp;omega)),fun i hi=>?_⟩
 rcases MkPl.fp_marked k hi with e |e
 ·exact h.new i e
 ·have:=b1.size;omega
theorem SdRel.err(h:SdRel a cs p m K q S0 qv0 F0 w0 N j S qv F p' w)(hj:j<N)(b1:Below w.heap.size w w1)(k:MkStep a cs p' w1 v (m.turnO cs j).2 w2)(rx:RunX a cs (p'.marked v) (m.turnO cs j).2 K' w2)(ho:okN (m.turnO cs j).1=0):
  SdRel a cs p m K q S0 qv0 F0 w0 N (j+1) S qv F (p'.marked v) w2:=by
 obtain⟨h1,h2,h3⟩:=h.ran b1 k rx
 rw[turnO_err ho] at h1
 exact⟨h1.same,h2.more,h3,by rw[h.eq,show N - j=N - (j+1)+1 by omega,spreadO_err ho]⟩
theorem sd_add(h:SdAt a cs p m K q S qv F p' m' K' w)(hk:Kept q S0 qv0 F0 w0 j S qv F w)(h1:1<=cs.length)(hm:KeyOk cs.length m')(x:ByteArray×Int)(hE:S0.E.length+j<=100000)(hFl:F0.length+j<=100000)(hse:S0.s+j<=1000000/\S0.e+j<=1000000):
  Calls Tryz.prog 146 #[.pointer (some ⟨q.b,0,none⟩), .pointer (some ⟨p'.b,0,none⟩), .agg #[.string x.1, .int .i64 x.2]] w fun r w'=>AddPost a cs p.B q qv F p' m' w r w' (addSp cs q.mo S m' x):=by
 rw[<-h.pB]
 exact wadd_any h.cp.ok.marks h.cp.at' (by rw[h.pB];exact h.sp) h.aq' h.aF' h1 hm x (by have:=hk.len;omega) (by have:=hk.ahead;omega) ⟨⟨hk.s.1,by have:=hk.s.2;omega⟩,⟨hk.e.1,by have:=hk.e.2;omega⟩⟩
theorem SdRel.next(h:SdAt a cs p m K q S qv F p' m' K' w)(hk:Kept q S0 qv0 F0 w0 j S qv F w)(hp: ∀k,p'.fp k->w0.heap.size<=k)(hm:KeyOk cs.length m'){x:ByteArray×Int}(hadd:addSp cs q.mo S m' x=some S')(heq:spreadO cs q.mo m N 0 S0=spreadO cs q.mo m (N - (j+1)) (j+1) S') 
  (hs:SpAt a cs p.B q S' qv' F' w1) (t:Turns (fun k _=>q.fp qv k) w w1) (hf: ∀k,q.fp qv' k->q.fp qv k∨w.heap.size<=k) (hF:F'=F∨F'=F++[(p',m')])
  (hc:MkAt a cs ⟨p.B,w1.heap.size,p.pb,p.pc,v⟩ m w2) (b2:Below w1.heap.size w1 w2) (hv: ∀k,v.ownBlock=some k->w1.heap.size<=k):SdRel a cs p m K q S0 qv0 F0 w0 N (j+1) S' qv' F' ⟨p.B,w1.heap.size,p.pb,p.pc,v⟩ w2:=by
 have k1:=hk.added hm hadd t hf hF hp
 have hsz:=k1.turns.size
 refine⟨h.next hs t hf hF hc b2 hv,k1.quiet (b2.mono hsz),fun i hi=>?_,heq⟩
 rcases hi with rfl |hi
 ·exact hsz
 ·exact Nat.le_trans hsz (hv i hi)
end
theorem spread_any {a:Nat->Addr} {cs:List (List Ins)} {p:MkPl} {m:Mk} {K:Nat} {q:SrPl} {S:Sp} {qv:Sq} {F:List (MkPl×Mk)} {w:World} {N:Nat} {y:ByteArray×Int} {l:List Int} (rx:RunX a cs p m K w) (hs:SpAt a cs p.B q S qv F w) (hd: ∀k,p.fp k-> ¬q.fp qv k) (hF: ∀x∈F, ∀k,x.1.fp k-> ¬p.fp k)
  (hN:q.n=(N:Nat)) (hN2:N<=12) (h1:1<=cs.length) (hk:KeyOk cs.length m) (hkn: ∀n,n<N->KeyOk cs.length (m.turnO cs (n:Nat)).2) (hK:K+1<=10000000)
  (hE:S.E.length+N<=100000) (hFl:F.length+N<=100000) (hse:(0<=S.s/\S.s+N<=1000000)/\(0<=S.e/\S.e+N<=1000000)) (hkeys: ∀x∈S.E,x.1.size<=maxLen)
  (hin:(keyOf cs.length m,y)∈S.E) (hback:Back S.E y l) (hl:l.length<=90000) (hne:keyOf cs.length m≠ByteArray.empty):
  Calls Tryz.prog 147 #[.pointer (some ⟨q.b,0,none⟩), .pointer (some ⟨p.b,0,none⟩)] w fun r w'=>Hid (SdPost a cs p m q S qv F w N l r w'):=by
 have HK:=hide (key_any rx.at' h1 hk.range hk.few)
 have H0:=hide rx
 have HS:=hide hs
 have HD:=hide hd
 have HF:=hide hF
 have HB:=hide (show ∀(E:List (ByteArray×ByteArray×Int)) (n:Int),(∃G,E=S.E++G)->Back E (keyOf cs.length m,n) (n::l) from fun E n ⟨G,hG⟩=>by
  rw[hG]
  exact .step n hne (List.mem_append_left _ hin) hback.grow)
 have HKN:=hide hkn
 have hkc:=hide (Kept.start (q:=q) (qv:=qv) (F:=F) (w:=w) hkeys hse.1.1 hse.2.1)
 have h5:=rx.ok.marks
 have i12:(N:Int)<=12:=by omega
 clear hs hd hF hin hback hne hkn hk hkeys rx
 generalize hK1:keyOf cs.length m=K1 at HK HB
 have HK1:=hide hK1
 clear hK1
 go_enter Tryz.func147,Tryz.ntmps147
 go_wp2_with fail
 refine HK.out.mono ?_
 rintro r w1 ⟨rfl,hb1⟩
 have HC:=hide (kcopy_any (H0.out.below hb1).at' h5)
 clear HK
 go_wp2_with fail
 refine HC.out.mono ?_
 rintro r w2 ⟨v2,rfl,hq2⟩
 obtain⟨hm2,hb2,hv2⟩:=hq2.out
 have S1:=HS.out.below hb1
 have n2:w2.cell? ⟨q.b,0,none⟩=some (.int .i64 N):=by
  have:=(S1.below hb2).sr.ws.numbers
  rw[hN] at this
  exact this
 have R2:Hid (SdRel a cs p m K q S qv F w N 0 S qv F ⟨p.B,w1.heap.size,p.pb,p.pc,v2⟩ w2):=hide ⟨SdAt.start (H0.out.below hb1) S1 HD.out HF.out hm2 hb2 hv2,hkc.out.quiet (below_step hb1 hb2),fun k hk=>by
  have:=hb1.size
  rcases hk with rfl |hk
  ·exact this
  ·exact Nat.le_trans this (hv2 k hk),rfl⟩
 clear hq2 hm2 hb2 hv2 S1 HC H0 HS HD HF hkc hb1
 go_wp2_with fail
 go_loopw [7,19] (fun nx c wr=> ∃(j:Nat) (S1:Sp) (qv1:Sq) (F1:List (MkPl×Mk)) (p1:MkPl),j<=N/\c= .int .i64 j/\nx= .pointer (some ⟨p1.b,0,none⟩)/\Hid (SdRel a cs p m K q S qv F w N j S1 qv1 F1 p1 wr)) (fun _ c _=>N - (intOf c).toNat)
 case atStart=>exact⟨0,S,qv,F,_,Nat.zero_le _,rfl,rfl,R2⟩
 case round =>
  obtain⟨j,S1,qv1,F1,p1,hj,rfl,rfl,HR⟩:=hrel
  clear R2 n2
  by_cases hlt:j<N
  ·have ji:(j:Int)<N:=by omega
   have HRun:=hide (krun_any (HR.out.sd.cp.below ((Below.refl _ wr).alloc nL (.cells #[.int .i64 j] 3))) (ad:=some ⟨wr.heap.size,0,none⟩) (l:=[(j:Int)]) (cap:=1) (numsAt_new rfl) (by simp) (by simp) hK (fun b off e=>by
    cases e
    exact⟨by simp,fun hp=>by have:=HR.out.sd.cp.at'.fp_lt hp;omega⟩))
   have e1:(m.runO cs [(j:Int)]).1=okN (m.turnO cs j).1:=rfl
   have e2:(m.runO cs [(j:Int)]).2=(m.turnO cs j).2:=rfl
   rw[e1,e2] at HRun
   clear e1 e2
   have b1:Below wr.heap.size wr (wr.alloc (.cells #[.int .i64 j] 3)):=(Below.refl _ wr).alloc nL _
   by_cases ho:okN (m.turnO cs j).1=0
   ·have HE:=hide (fun(v:Value) (w2:World) (K':Nat) (k:MkStep a cs p1 (wr.alloc (.cells #[.int .i64 j] 3)) v (m.turnO cs j).2 w2) (rx:RunX a cs (p1.marked v) (m.turnO cs j).2 K' w2)=>HR.out.err hlt b1 k rx ho)
    rw[show((okN (m.turnO cs j).1:Nat):Int)=0 by rw[ho];rfl] at HRun
    clear HR b1 ho HKN HB
    go_wp2_with fail
    refine HRun.out.mono ?_
    rintro r w2 ⟨rfl,v,hst,hrx⟩
    have R3:=hide (HE.out v w2 _ hst hrx)
    clear HRun HE hst hrx
    go_wp2_with fail
    go_roundw
    case rel=>exact⟨j+1,S1,qv1,F1,p1.marked v,by omega,by go_num,rfl,R3⟩
    case measure=>simp[intOf];omega
   ·have ho1:okN (m.turnO cs j).1=1:=by
     have:=okN_le (m.turnO cs j).1
     omega
    have HX:=hide (fun(v:Value) (w2:World) (k:MkStep a cs p1 (wr.alloc (.cells #[.int .i64 j] 3)) v (m.turnO cs j).2 w2) (rx:RunX a cs (p1.marked v) (m.turnO cs j).2 (K+1) w2)=>HR.out.ran b1 k rx)
    have HEQ:=hide HR.out.eq
    rw[show((okN (m.turnO cs j).1:Nat):Int)=1 by rw[ho1];rfl] at HRun
    clear HR b1 ho1
    go_wp2_with fail
    refine HRun.out.mono ?_
    rintro r w2 ⟨rfl,v,hst,hrx⟩
    obtain⟨X2,k2,n2⟩:=HX.out v w2 hst hrx
    have H2:=hide (And.intro X2 (And.intro k2 n2))
    have hbv:(p1.marked v).b=p1.b:=rfl
    clear HRun HX hst hrx X2 k2 n2
    go_wp2_with fail
    generalize hW3:w2.alloc _=W3
    have b3:Below w2.heap.size w2 W3:=by rw[<-hW3];exact bRf.alloc nL _
    have d0:W3.cell? ⟨w2.heap.size,0,none⟩=some (.string K1):=by rw[<-hW3,World.cell?_alloc_new];rfl
    have d1:W3.cell? ⟨w2.heap.size,1,none⟩=some (.int .i64 j):=by rw[<-hW3,World.cell?_alloc_new];rfl
    have X3:=hide (H2.out.1.below b3)
    have hsw:=H2.out.2.1.turns.size
    have k3:=hide (H2.out.2.1.quiet (b3.mono hsw))
    have n3:=hide H2.out.2.2
    have hs3:=k3.out.turns.size
    clear hW3 b3 H2 hsw
    refine(kfaults_any X3.out.cp.at').mono ?_
    rintro r w4 ⟨rfl,rfl⟩
    by_cases hfl:0<(m.turnO cs j).2.faults
    ·have hfi:(0:Int)<((m.turnO cs j).2.faults:Int):=by omega
     have HW:=hide (way_any X3.out.sp.sr.ws X3.out.sp.sr.found k3.out.keys (K1,(j:Int)) (j::l) (HB.out S1.E j k3.out.grow) (by simp;omega) (by simp))
     have HP:Hid (∀v5 w5,numsOwn w5 w4.heap.size v5 ((j:Int)::l).reverse->Below w4.heap.size w4 w5->SdPost a cs p m q S qv F w N l (.returned (.tuple #[v5, .nilIface])) w5):=hide fun v5 w5 ho5 hb5=>
      ⟨S1,qv1,F1,j,hj,X3.out.sp.below hb5,k3.out.quiet (hb5.mono hs3), .inr (.inr ⟨j,by rw[HEQ.out,show N - j=N - (j+1)+1 by omega,spreadO_fault ho hfl],v5,rfl,numsOwn_mono ho5 hs3⟩)⟩
     clear X3 k3 n3 HEQ HKN HB ho
     go_wp2_with fail
     refine HW.out.mono ?_
     rintro r w5 ⟨v5,rfl,ho5,hb5⟩
     have HZ:=hide (HP.out v5 w5 ho5 hb5)
     clear HP HW ho5 hb5
     go_wp2_with fail
     go_ret2
     exact HZ
    ·have hfi: ¬(0:Int)<((m.turnO cs j).2.faults:Int):=by omega
     have HA:=hide (sd_add X3.out k3.out h1 (HKN.out j hlt) (K1,(j:Int)) (by omega) (by omega) ⟨by omega,by omega⟩)
     have HEQ2:Hid (spreadO cs q.mo m N 0 S=(match addSp cs q.mo S1 (m.turnO cs j).2 (K1,(j:Int)) with |none=>(.bound,S1) |some S'=>spreadO cs q.mo m (N - (j+1)) (j+1) S')):=hide (by rw[HEQ.out,show N - j=N - (j+1)+1 by omega,spreadO_add ho hfl,HK1.out])
     clear HEQ HB ho
     go_wp2_with fail
     refine HA.out.mono ?_
     rintro r w5 hpost
     clear HA
     cases hA:addSp cs q.mo S1 (m.turnO cs j).2 (K1,(j:Int)) with
     | none=>
      rw[hA] at hpost HEQ2
      obtain⟨rfl,hb5⟩:=hpost
      have HZ:Hid (SdPost a cs p m q S qv F w N l (.returned (.tuple #[.slice none 0 0,errAt (a 1)])) w5):=hide ⟨S1,qv1,F1,j,hj,X3.out.sp.below hb5,k3.out.quiet (hb5.mono hs3), .inr (.inl ⟨HEQ2.out,rfl⟩)⟩
      clear X3 k3 n3 HEQ2 HKN hb5
      go_wp2_with fail
      go_ret2
      exact HZ
     | some S'=>
      rw[hA] at hpost HEQ2
      obtain⟨rfl,qv',F',hs',t5,hf5,hF5⟩:=hpost
      have HC:=hide (kcopy_any (X3.out.rx.at'.searched X3.out.sp.so X3.out.sp.sr hs'.sr t5 X3.out.aq) h5)
      have HN:Hid (∀v6 w6,MkAt a cs ⟨p.B,w5.heap.size,p.pb,p.pc,v6⟩ m w6->Below w5.heap.size w5 w6->(∀k,v6.ownBlock=some k->w5.heap.size<=k)->SdRel a cs p m K q S qv F w N (j+1) S' qv' F' ⟨p.B,w5.heap.size,p.pb,p.pc,v6⟩ w6):=hide fun v6 w6 hm6 hb6 hv6=>
       SdRel.next X3.out k3.out n3.out (HKN.out j hlt) hA HEQ2.out hs' t5 hf5 hF5 hm6 hb6 hv6
      clear X3 k3 n3 HEQ2 HKN hs' t5 hf5 hF5 hA
      go_wp2_with fail
      refine HC.out.mono ?_
      rintro r w6 ⟨v6,rfl,hq6⟩
      have R6:=hide (HN.out v6 w6 hq6.out.1 hq6.out.2.1 hq6.out.2.2)
      clear HN HC hq6
      go_wp2_with fail
      go_roundw
      case rel=>exact⟨j+1,S',qv',F',_,by omega,by go_num,rfl,R6⟩
      case measure=>simp[intOf];omega
  ·have HZ:Hid (SdPost a cs p m q S qv F w N l (.returned (.tuple #[.slice none 0 0, .nilIface])) wr):=hide ⟨S1,qv1,F1,j,hj,HR.out.sd.sp,HR.out.kept, .inl ⟨by rw[HR.out.eq,show N - j=0 by omega];rfl,rfl⟩⟩
   clear HR
   go_wp2_with fail
   go_ret2
   exact HZ
end
section
open Go.RowKit Go.Extern.Stop Go.Stop Go.Extern Go.Maps Go.WideMaps Go.Sort
variable {cs:List (List Ins)} {w:World}
theorem QAt.set0 {base g off cap:Nat} {u x:Value} {l:List Value} (h:QAt w base (.slice (some ⟨g,off,none⟩) (u::l).length cap) (u::l)):QAt (w.setCell ⟨g,off,none⟩ x) base (.slice (some ⟨g,off,none⟩) (x::l).length cap) (x::l):=by
 rcases h with⟨-,h1⟩ |⟨g',off',cap',e,h1,h2,h3,h4,h5,h6⟩
 ·cases h1
 ·cases e
  have h0:=h5 0 u rfl
  rw[Nat.add_zero] at h0
  refine .inr ⟨g,off,cap,rfl,h1,by simp[World.setCell];exact h2,h3,h4,fun j y hj=>?_,fun j hj=>?_⟩
  ·cases j with
   |zero=>cases hj;exact World.cell?_setCell_same _ _ _ h0
   |succ j=>exact cell_ne (h5 (j+1) y hj) (.inr (by omega))
  ·obtain ⟨k1,k2⟩:=h6 j hj
   refine⟨?_,by rw[World.frozen?_setCell];exact k2⟩
   by_cases e:j=0
   ·subst e
    rw[Nat.add_zero,World.cell?_setCell_same _ _ _ h0];rfl
   ·obtain⟨y,hy⟩:=Option.isSome_iff_exists.1 k1
    rw[cell_ne hy (.inr (by omega))];rfl
def qCut(g off cap:Nat):Addr:=if cap=1 then⟨g,off,none⟩ else⟨g,off+1,none⟩
theorem SpAt.popped {a:Nat->Addr} {B:Nat} {q:SrPl} {S:Sp} {g off cap:Nat} {p:MkPl} {m:Mk} {F:List (MkPl×Mk)} {X:Nat->Prop} {L:List Mk} (h:SpAt a cs B q S ⟨.slice (some ⟨g,off,none⟩) (F.length+1) cap,X,L⟩ ((p,m)::F) w):
  SpAt a cs B q { S with ms:=S.ms.tail } ⟨.slice (some (qCut g off cap)) F.length (cap - 1),X,L⟩ F ((w.setCell ⟨g,off,none⟩ (.pointer none)).setCell ⟨q.b,3,none⟩ (.slice (some (qCut g off cap)) F.length (cap - 1)))/\
  Turns (fun k _=>q.fp ⟨.slice (some ⟨g,off,none⟩) (F.length+1) cap,X,L⟩ k) w ((w.setCell ⟨g,off,none⟩ (.pointer none)).setCell ⟨q.b,3,none⟩ (.slice (some (qCut g off cap)) F.length (cap - 1)))/\
  (∀k,q.fp ⟨.slice (some (qCut g off cap)) F.length (cap - 1),X,L⟩ k->q.fp ⟨.slice (some ⟨g,off,none⟩) (F.length+1) cap,X,L⟩ k):=by
 have hob: ∀k,(Value.slice (some (qCut g off cap)) F.length (cap - 1)).ownBlock=some k->k=g:=fun k hk=>by
  unfold qCut at hk
  split at hk <;> (cases hk;rfl)
 have hq0:=h.sr.qo g rfl
 have T1:Turns (fun k _=>k=g) w (w.setCell ⟨g,off,none⟩ (.pointer none)):=(Turns.refl _ _).setCell _ rfl
 have T2:Turns (fun k o=>k=q.b/\o=3) (w.setCell ⟨g,off,none⟩ (.pointer none)) ((w.setCell ⟨g,off,none⟩ (.pointer none)).setCell ⟨q.b,3,none⟩ (.slice (some (qCut g off cap)) F.length (cap - 1))):=(Turns.refl _ _).setCell _ ⟨rfl,rfl⟩
 have hl:(aheadV ((p,m)::F)).length=F.length+1:=by unfold aheadV;simp
 have Q0:=h.sr.que
 have Q1:QAt w B (.slice (some ⟨g,off,none⟩) (Value.pointer (some ⟨p.b,0,none⟩)::aheadV F).length cap) (Value.pointer (some ⟨p.b,0,none⟩)::aheadV F):=by
  rw[show(Value.pointer (some ⟨p.b,0,none⟩)::aheadV F).length=F.length+1 by simp[aheadV]]
  exact Q0
 have Q2:=(QAt.set0 (x:= .pointer none) Q1).tail
 have hgB:B<=g:=(Q0.lt rfl).1
 rw[show(aheadV F).length=F.length by simp[aheadV]] at Q2
 have W1:=h.sr.ws.turns T1 (fun _ e=>hq0.1 e.symm)
 have htur:Turns (fun k _=>q.fp ⟨.slice (some ⟨g,off,none⟩) (F.length+1) cap,X,L⟩ k) w ((w.setCell ⟨g,off,none⟩ (.pointer none)).setCell ⟨q.b,3,none⟩ (.slice (some (qCut g off cap)) F.length (cap - 1))):=
  (T1.mono fun k _ _ e=> .inl (.inr (.inr (.inr (by rw[e];rfl))))).setCell _ (.inl (.inl rfl))
 have hfp: ∀k,q.fp ⟨.slice (some (qCut g off cap)) F.length (cap - 1),X,L⟩ k->q.fp ⟨.slice (some ⟨g,off,none⟩) (F.length+1) cap,X,L⟩ k:=fun k hk=>by
  rcases hk with(e |e |e |e) |e
  ·exact .inl (.inl e)
  ·exact .inl (.inr (.inl e))
  ·exact .inl (.inr (.inr (.inl e)))
  ·exact .inl (.inr (.inr (.inr (by rw[hob k e];rfl))))
  ·exact .inr e
 have hxg: ∀k,X k->k≠g/\k≠q.b:=fun k hk=>⟨fun e=>(h.sr.xo k hk).2.2 (.inr (.inr (.inr (by rw[e];rfl)))),fun e=>(h.sr.xo k hk).2.2 (.inl e)⟩
 have hsi:q.se.I X L ((w.setCell ⟨g,off,none⟩ (.pointer none)).setCell ⟨q.b,3,none⟩ (.slice (some (qCut g off cap)) F.length (cap - 1))):=h.sr.so.keep (h.sr.so.keep h.sr.si T1 (fun k _ e=>⟨fun hx=>(hxg k hx).1 e,by rw[e];exact Nat.le_trans h.sr.lo hgB⟩)) T2 (fun k _ e=>⟨fun hx=>(hxg k hx).2 e.1,by rw[e.1];exact Nat.le_trans h.sr.lo h.sr.hb⟩)
 refine⟨⟨⟨W1.set _,?_,Q2.turns T2 (fun k o hk hs=>hq0.1 (by rw[<-hob k hk];exact hs.1)),(h.sr.told.turns T1 (fun _ e=>hq0.2.2 e.symm)).turns T2 (fun _ e=>h.sr.b_tb e.1.symm),?_,h.sr.b_fb,h.sr.b_tb,h.sr.fb_tb,h.sr.hcb,h.sr.hb,h.sr.hfb,h.sr.htb,fun k hk=>by rw[hob k hk];exact hq0,h.sr.so,hsi,fun k hk=>⟨(h.sr.xo k hk).1,(h.sr.xo k hk).2.1,fun hf=>?_⟩,h.sr.xb,h.sr.lo⟩,?_,fun x hx=>?_,(List.pairwise_cons.1 h.apart).2,h.so,h.keys,h.sl⟩,htur,hfp⟩
 ·refine h.sr.found.kept ?_
  rw[Below.heap_setCell _ _ _ _ (show q.fb≠q.b from h.sr.b_fb.symm),Below.heap_setCell _ _ _ _ (show q.fb≠g from fun e=>hq0.2.1 e.symm)]
 ·constructor
  ·refine T2.keep (T1.keep h.sr.codes.1 (fun e=>?_)) (fun e=>?_)
   ·have:=h.sr.hcb;omega
   ·have:=h.sr.hcb;have:=h.sr.hb;have:=e.1;omega
  ·refine T2.keep (T1.keep h.sr.codes.2 (fun e=>?_)) (fun e=>?_)
   ·have:=h.sr.hcb;omega
   ·have:=h.sr.hcb;have:=h.sr.hb;have:=e.1;omega
 ·rcases hfp k (.inl hf) with e |e
  ·exact(h.sr.xo k hk).2.2 e
  ·rcases hf with e2 |e2 |e2 |e2
   ·exact(hxg k hk).2 e2
   ·exact(h.sr.xo k hk).2.2 (.inr (.inl e2))
   ·exact(h.sr.xo k hk).2.2 (.inr (.inr (.inl e2)))
   ·exact(hxg k hk).1 (hob k e2)
 ·have:=h.ms
  show F.map (·.2)=S.ms.tail
  rw[<-this];rfl
 ·obtain⟨g1,g2,g3⟩:=h.at' x (List.mem_cons_of_mem _ hx)
  exact⟨g1,g2.turnsX htur (fun k _ hk hp=>g3 k hp hk) (fun k _ hk=>by rw[g1];exact h.sr.geX hk) (fun k e=>(h.so.box h.sr.si k e).2) (fun k e=>(h.so.box hsi k e).2),fun k hp hk=>g3 k hp (hfp k hk)⟩
inductive Rch (cs:List (List Ins)) (m0:Mk):Nat->Mk->Prop
 |zero:Rch cs m0 0 m0
 |turn {d:Nat} {m:Mk} (n:Nat):Rch cs m0 d m->Rch cs m0 (d+1) (m.turnO cs n).2
theorem Rch.ok{m0 m:Mk}{K d:Nat}(h:Rch cs m0 d m)(h0:MkOk cs.length K m0)(hR:Right cs)(hK:K+d<=60000000):MkOk cs.length (K+d) m:=by
 induction h with
 |zero=>exact h0
 |turn n _ ih=>exact(ih (by omega)).turnO hR n (by omega)
end
end Go.Proofs.YtnoigmdmgdcliaaGreatDoor
