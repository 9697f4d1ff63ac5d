import Derived.Test.YtdpmnlbnlnmjbaaGreatDoorV25
import Derived.Test.YtdpmnlbnlnmjbaaGreatDoorV19
import Derived.Test.YtdpmnlbnlnmjbaaGreatDoorV20
import Derived.Test.YtdpmnlbnlnmjbaaGreatDoorV13
import Derived.Test.YtdpmnlbnlnmjbaaGreatDoorV10
import Derived.Test.YtdpmnlbnlnmjbaaGreatDoorV01
import Derived.Test.YtdpmnlbnlnmjbaaGreatDoorV09
namespace Go.Proofs.YtdpmnlbnlnmjbaaGreatDoor
set_option maxRecDepth 100000
set_option maxHeartbeats 8000000
section
open Go.RowKit Go.Extern.Stop Go.Stop Go.Extern Go.Maps Go.WideMaps Go.Sort
theorem wsee_search {se:Seer} {X0:Nat->Prop} (hsv:se.v.oneCell'=true) {a:Nat->Addr} {s:Sta} {ai ar ad:Option Addr} {ci cr cap:Nat} {cs:List (List Ins)} {w:World} (mo:Int) (so:SeerOk a cs se) (hX: ∀k,X0 k->se.bx=some k) (hI:se.I X0 [] w) (hlo:se.lo<=w.heap.size) (hE:Env a w) (hs:StaAt s ⟨ai,ci,ar,cr⟩ w) (hl:codesAt ad cs w) (hsz: ∀(t:Nat) L,cs[t]? =some L-> ∀(i:Nat) x,L[i]? =some x->x.to.size<=maxLen) (hgood:(s.fault cs).1=0) (hmo:1<=mo/\mo<=60000):
  Calls Tryz.prog 65 #[.agg #[.int .i64 s.cells, .slice ai s.init.length ci, .slice ar s.regs.length cr], .slice ad cs.length cap, .int .i64 mo,se.v] w fun e w'=>Hid (SeePost a cs (s.mach cs.length) mo se X0 w e w'):=by
 obtain⟨sv,hse⟩: ∃sv,se.v=sv:=⟨_,rfl⟩
 rw[hse] at hsv ⊢
 have HN:=hide (fun w1 (hb:Below w.heap.size w w1)=>new_any (cap:=cap) (hE.below hb.block) (hs.below hb) (hl.below hb) hsz)
 have HIw:=hide hI
 have HSO:=hide so
 have HX:=hide hX
 have hxl: ∀k,X0 k->k<w.heap.size:=fun k hk=>so.fr.lt hI k hk
 clear hE hs hl hI so hX
 have hmf: ∀(fn:Fn) (first cap:Array Value) (w:World),(Instr.makeFunc fn first cap).run Tryz.prog w= .ok (.func fn first cap) w:=fun _ _ _ _=>rfl
 have hn0: ∀w:World,(binOp .neq 26 (.slice Option.none 0 0) (.slice Option.none 0 0)).run Tryz.prog w= .ok (.bool false) w:=fun w=>run_neq_slice_nil_any w _ _ _ _ _ _ _ Tryz.underlying26
 have hn1: ∀(w:World) (ad:Addr) (n c:Nat),(binOp .neq 26 (.slice (some ad) n c) (.slice Option.none 0 0)).run Tryz.prog w= .ok (.bool true) w:=fun w ad n c=>run_neq_slice_nil_any w _ _ _ _ _ _ _ Tryz.underlying26
 go_enter Tryz.func65,Tryz.ntmps65
 go_wp2_with fail
 generalize hw1:(((w.alloc _).alloc _).alloc _).alloc _=w1
 have b1:Below w.heap.size w w1:=by rw[<-hw1];exact((((Below.refl _ w).alloc nL _).alloc (by simp) _).alloc (by simp;omega) _).alloc (by simp;omega) _
 have hsz3:w.heap.size+3=(((w.alloc (.cells #[.int .i64 s.cells, .slice ai s.init.length ci, .slice ar s.regs.length cr] 34)).alloc (.cells #[.slice ad cs.length cap] 25)).alloc (.cells #[sv] 182)).heap.size:=by simp
 have t0:w1.cell? ⟨w.heap.size+3,0,none⟩=some (.int .i64 0):=by rw[<-hw1,hsz3,World.cell?_alloc_new];rfl
 have t1:w1.cell? ⟨w.heap.size+3,1,none⟩=some (.int .i64 0):=by rw[<-hw1,hsz3,World.cell?_alloc_new];rfl
 have t2:w1.cell? ⟨w.heap.size+3,2,none⟩=some (.bool false):=by rw[<-hw1,hsz3,World.cell?_alloc_new];rfl
 have t3:w1.cell? ⟨w.heap.size+3,3,none⟩=some (.slice none 0 0):=by rw[<-hw1,hsz3,World.cell?_alloc_new];rfl
 have z: ∀o,w1.frozen? ⟨w.heap.size+3,o,none⟩=false:=fun o=>by rw[<-hw1,hsz3];exact World.frozen?_alloc_new _ _ _ _
 have hlt:=bLt t0
 have q0:w1.cell? ⟨w.heap.size+1,0,none⟩=some (.slice ad cs.length cap):=by
  rw[<-hw1]
  refine keep_cell (bRf.alloc nL _) (keep_cell (bRf.alloc nL _) ?_)
  rw[show w.heap.size+1=(w.alloc (.cells #[.int .i64 s.cells, .slice ai s.init.length ci, .slice ar s.regs.length cr] 34)).heap.size by simp,World.cell?_alloc_new];rfl
 have q1:w1.cell? ⟨w.heap.size+1+1,0,none⟩=some sv:=by
  rw[<-hw1]
  refine keep_cell (bRf.alloc nL _) ?_
  rw[show w.heap.size+1+1=((w.alloc (.cells #[.int .i64 s.cells, .slice ai s.init.length ci, .slice ar s.regs.length cr] 34)).alloc (.cells #[.slice ad cs.length cap] 25)).heap.size by simp,World.cell?_alloc_new];rfl
 clear hw1 hsz3
 refine(HN.out w1 b1).mono ?_
 rintro e w2 hp
 obtain⟨hb2,hres⟩:=hp.out
 rcases hres with⟨-,hR,p,rfl,hm2,hpB,hpv⟩ |⟨h0, -⟩
 rotate_left
 ·exact absurd hgood h0
 replace t0:=keep_cell hb2 t0
 replace t1:=keep_cell hb2 t1
 replace t2:=keep_cell hb2 t2
 replace t3:=keep_cell hb2 t3
 have z0:w2.frozen? ⟨w.heap.size+3,0,none⟩=false:=(hb2.frozen hlt).trans (z 0)
 have z1:w2.frozen? ⟨w.heap.size+3,1,none⟩=false:=(hb2.frozen (p:=⟨w.heap.size+3,1,none⟩) hlt).trans (z 1)
 have z2:w2.frozen? ⟨w.heap.size+3,2,none⟩=false:=(hb2.frozen (p:=⟨w.heap.size+3,2,none⟩) hlt).trans (z 2)
 have z3:w2.frozen? ⟨w.heap.size+3,3,none⟩=false:=(hb2.frozen (p:=⟨w.heap.size+3,3,none⟩) hlt).trans (z 3)
 replace q0:=keep_cell hb2 q0
 replace q1:=keep_cell hb2 q1
 have B2:=below_step b1 hb2
 have hR6:=hR.few
 have hR1:=hR.some'
 have c6:(cs.length:Int)<=6:=by omega
 have hm1: ¬mo<1:=by omega
 have hm6: ¬60000<mo:=by omega
 have hq:w.heap.size+1<w2.heap.size:=bLt q0
 have hw3:Hid (w2.heap.size<(w2.alloc (.cells #[.int .i64 0, .int .i64 0, .bool false, .slice none 0 0] 65)).heap.size):=hide (by simp)
 have HNS:=hide (newSearch_any (2*(cs.length:Int)) mo (.func (.func 97) #[] #[.pointer (some ⟨w.heap.size+1,0,none⟩), .pointer (some ⟨w2.heap.size,0,none⟩), .pointer (some ⟨w.heap.size+1+1,0,none⟩)]) (w2.alloc (.cells #[.int .i64 0, .int .i64 0, .bool false, .slice none 0 0] 65)) ⟨_,_,_,rfl⟩)
 clear hp z HN b1
 go_wp2_with fail
 refine HNS.out.mono ?_
 rintro e w4 ⟨rfl,hws,hfo,hb4⟩
 have e3:(w2.alloc (.cells #[.int .i64 0, .int .i64 0, .bool false, .slice none 0 0] 65)).heap.size=w2.heap.size+1:=by simp
 rw[e3] at hws hfo
 have b3:Below w2.heap.size w2 (w2.alloc (.cells #[.int .i64 0, .int .i64 0, .bool false, .slice none 0 0] 65)):=bRf.alloc nL _
 have b4:Below w2.heap.size w2 w4:=below_step b3 hb4
 have HT0:ToldAt w2.heap.size 0 0 w4:=⟨keep_cell hb4 (by rw[World.cell?_alloc_new];rfl),keep_cell hb4 (by rw[World.cell?_alloc_new];rfl),fun o _=>(hb4.frozen (p:=⟨w2.heap.size,o,none⟩) (by show w2.heap.size<_;omega)).trans (World.frozen?_alloc_new _ _ _ _),keep_cell hb4 (by rw[World.cell?_alloc_new];rfl),keep_cell hb4 (by rw[World.cell?_alloc_new];rfl)⟩
 rw[<-hse] at q1
 have HRun:=hide (all_run HSO.out (fun k hk=>⟨HX.out k hk,by have:=hxl k hk;show k<w.heap.size+1;omega⟩) (HSO.out.fr.keep HIw.out (Turns.of_below (S:=fun _ _=>False) B2) (fun _ _ h=>h.elim)) (by show se.lo<=w.heap.size+1;omega) hm2 hR hgood hmo (by omega) q0 q1 b4 HT0 hws hfo)
 have hq3:w.heap.size+1+1+1<w2.heap.size:=bLt t0
 have hfpb: ∀k,(⟨w2.heap.size+1+1,w2.heap.size+1,w2.heap.size,w.heap.size+1,ad,cap,2*(cs.length:Int),mo,se⟩:SrPl).fp (sq0 X0) k->w2.heap.size<=k∨X0 k:=fun k hk=>by
  rcases hk with(e |e |e |e) |e
  ·have e:k=w2.heap.size+1+1:=e
   exact .inl (by omega)
  ·have e:k=w2.heap.size+1:=e
   exact .inl (by omega)
  ·have e:k=w2.heap.size:=e
   exact .inl (by omega)
  ·cases e
  ·exact .inr e
 have s4:=b4.size
 have hl4:w2.heap.size<w4.heap.size:=HT0.lt
 have hw2:=B2.size
 have HB:=hide (fun w5 (t:Turns (fun k _=>(⟨w2.heap.size+1+1,w2.heap.size+1,w2.heap.size,w.heap.size+1,ad,cap,2*(cs.length:Int),mo,se⟩:SrPl).fp (sq0 X0) k) w4 w5)=>show(∀(o:Nat) (v:Value),w2.cell? ⟨w.heap.size+3,o,none⟩=some v->w5.cell? ⟨w.heap.size+3,o,none⟩=some v)/\(∀o:Nat,w2.frozen? ⟨w.heap.size+3,o,none⟩=false->w5.frozen? ⟨w.heap.size+3,o,none⟩=false)/\Turns (fun k _=>X0 k) w w5 from
  have hn: ∀o:Nat, ¬(fun k (_:Nat)=>(⟨w2.heap.size+1+1,w2.heap.size+1,w2.heap.size,w.heap.size+1,ad,cap,2*(cs.length:Int),mo,se⟩:SrPl).fp (sq0 X0) k) (w.heap.size+3) o:=fun o hf=>by
   rcases hfpb _ hf with e |e
   ·omega
   ·have:=hxl _ e
    omega
  ⟨fun o v hc=>t.keep (keep_cell b4 hc) (hn o),fun o hz=>by rw[t.frozen _ _ (by omega) (hn o),b4.frozen (p:=⟨w.heap.size+3,o,none⟩) hq3];exact hz,
   ((Turns.of_below B2).trans (Turns.of_below (below_step bRf b4))).then t (fun k _ hk hf=>(hfpb k hf).elim (fun e=>by omega) id)⟩)
 clear HNS hw3 HT0 hws hfo hb4 b3 e3 hm2 hpB hpv q0 q1 b4 hfpb
 go_wp2_with fail
 refine HRun.out.mono ?_
 rintro e w5 hp
 obtain⟨t5,f,S,ht,⟨X5,hi5,hx5⟩,hres⟩:=hp.out
 obtain⟨hc5,hz5,hT5⟩:=HB.out w5 t5
 have u0:=hc5 _ _ t0
 have u1:=hc5 _ _ t1
 have u2:=hc5 _ _ t2
 have u3:=hc5 _ _ t3
 have y0:=hz5 _ z0
 have y1:=hz5 _ z1
 have y2:=hz5 _ z2
 have y3:=hz5 _ z3
 have T5:=hide hT5
 have c0:=ht.states
 have c1:=ht.ends
 have c2:=ht.fault
 have c3:=ht.way
 have x2:=ht.fz 2 (by decide)
 have x3:=ht.fz 3 (by decide)
 have hle:w.heap.size<=w.heap.size+1+1+1:=by omega
 have hle2:w.heap.size<=w2.heap.size:=by omega
 have hle4:w.heap.size<=w4.heap.size:=Nat.le_trans hle2 s4
 dsimp only at c0 c1 c2 c3 x2 x3
 have HI5:=hide (fun w' (t:Turns (fun k _=>k=w2.heap.size∨k=w.heap.size+1+1+1) w5 w')=>show ∃X,se.I X S.L w'/\ ∀k,X k->X0 k∨w.heap.size<=k from
  ⟨X5,HSO.out.fr.keep hi5 t (fun k _ e=>⟨fun hx=>by
   rcases hx5 k hx with e2 |e2
   ·have:=hxl k e2
    omega
   ·omega,by omega⟩),fun k hk=>(hx5 k hk).imp id (fun e=>Nat.le_trans hle4 e)⟩)
 clear t0 t1 t2 t3 z0 z1 z2 z3 HRun HB hp ht t5 hc5 hz5 hT5 B2 hi5 hx5 HSO HX HIw
 rcases hres with⟨h1,h2,rfl⟩ |⟨h1,rfl⟩ |⟨x,l,h1,h2,h3,v,rfl,hv⟩
 ·go_wp2_with fail
  refine bodyPost_ret (v:= .tuple #[toldV S.s S.e false (.slice none 0 0), .nilIface]) (by simp only[results,Tryz.results65];go_simp;rfl) rfl ?_
  exact hide ⟨(((((T5.out.setNew _ hle2).setNew _ hle2).setNew _ hle).setNew _ hle).setNew _ hle).setNew _ hle,f,S,HI5.out _ (((((((Turns.refl _ _).setCell _ (.inl rfl)).setCell _ (.inl rfl)).setCell _ (.inr rfl)).setCell _ (.inr rfl)).setCell _ (.inr rfl)).setCell _ (.inr rfl)), .inl ⟨h1,h2,rfl⟩⟩
 ·go_wp2_with fail
  refine bodyPost_ret (v:= .tuple #[toldV 0 0 false (.slice none 0 0),errAt (a 1)]) (by simp only[results,Tryz.results65];go_simp;rfl) rfl ?_
  exact hide ⟨(((T5.out.setNew _ hle).setNew _ hle).setNew _ hle).setNew _ hle,f,S,HI5.out _ (((((Turns.refl _ _).setCell _ (.inr rfl)).setCell _ (.inr rfl)).setCell _ (.inr rfl)).setCell _ (.inr rfl)), .inr (.inl ⟨h1,rfl⟩)⟩
 ·obtain ⟨av,cv,rfl, -⟩:=numsOwn_open hv (by rw[List.length_reverse];exact h3)
  have HV:=hide hv
  have hob:w4.heap.size<=av.block:=(World.ownsRow.lt hv av.block rfl).1
  have hob2:w2.heap.size<av.block∨w2.heap.size=av.block:=by omega
  clear hv
  go_wp2_with fail
  refine bodyPost_ret (v:= .tuple #[toldV S.s S.e true (.slice (some av) l.reverse.length cv), .nilIface]) (by simp only[results,Tryz.results65];go_simp;rfl) rfl ?_
  refine hide ⟨(((((T5.out.setNew _ hle2).setNew _ hle2).setNew _ hle).setNew _ hle).setNew _ hle).setNew _ hle,f,S,HI5.out _ (((((((Turns.refl _ _).setCell _ (.inl rfl)).setCell _ (.inl rfl)).setCell _ (.inr rfl)).setCell _ (.inr rfl)).setCell _ (.inr rfl)).setCell _ (.inr rfl)), .inr (.inr ⟨x,l,h1,h2,h3,_,rfl,?_⟩)⟩
  ·refine numsOwn_mono (base:=w4.heap.size) (ownsRow_block HV.out fun b hb=>?_) hle4
   obtain rfl:av.block=b:=by cases hb;rfl
   have n1:av.block≠w2.heap.size:=by omega
   have n2:av.block≠w.heap.size+1+1+1:=by omega
   rw[Below.heap_setCell _ _ _ _ n2,Below.heap_setCell _ _ _ _ n2,Below.heap_setCell _ _ _ _ n2,Below.heap_setCell _ _ _ _ n2,Below.heap_setCell _ _ _ _ n1,Below.heap_setCell _ _ _ _ n1]
end
section
open Go.RowKit Go.Extern.Stop Go.Stop Go.Extern Go.Maps Go.WideMaps Go.Sort
variable {ai ar ad:Option Addr} {cs:List (List Ins)} {a:Nat->Addr} {ci cr cap:Nat} {w:World} {s:Sta}
def AllPost (a:Nat->Addr) (cs:List (List Ins)) (m0:Mk) (mo:Int) (w:World) (e:Ending) (w':World):Prop:=
 Below w.heap.size w w'/\ ∃f S,
  ((searchO cs mo (2*cs.length) f (firstS cs m0)=(.go,S)/\S.ms=[]/\e= .returned (.tuple #[toldV S.s S.e false (.slice none 0 0), .nilIface]))∨(searchO cs mo (2*cs.length) f (firstS cs m0)=(.bound,S)/\e= .returned (.tuple #[toldV 0 0 false (.slice none 0 0),errAt (a 1)]))∨
   (∃x l,searchO cs mo (2*cs.length) f (firstS cs m0)=(.fault x,S)/\Back S.E x l/\0<l.length/\ ∃v,e= .returned (.tuple #[toldV S.s S.e true v, .nilIface])/\numsOwn w' w.heap.size v l.reverse))
theorem alBox(w:World)(x:Array Value): ∃w1,w1=(w.alloc (.cells x 34)).alloc (.cells #[.int .i64 0, .int .i64 0, .bool false, .slice none 0 0] 65)/\Below w.heap.size w w1/\w.heap.size+1<w1.heap.size/\w1.cell? ⟨w.heap.size+1,0,none⟩=some (.int .i64 0)/\w1.cell? ⟨w.heap.size+1,1,none⟩=some (.int .i64 0)/\w1.cell? ⟨w.heap.size+1,2,none⟩=some (.bool false)/\w1.cell? ⟨w.heap.size+1,3,none⟩=some (.slice none 0 0)/\ ∀o,w1.frozen? ⟨w.heap.size+1,o,none⟩=false:=by
 have e:w.heap.size+1=(w.alloc (.cells x 34)).heap.size:=by simp
 refine⟨_,rfl,((Below.refl _ w).alloc nL _).alloc (by simp) _,by simp,?_,?_,?_,?_,fun o=>?_⟩
 ·rw[e,World.cell?_alloc_new];rfl
 ·rw[e,World.cell?_alloc_new];rfl
 ·rw[e,World.cell?_alloc_new];rfl
 ·rw[e,World.cell?_alloc_new];rfl
 ·rw[e];exact World.frozen?_alloc_new _ _ _ _
theorem all_bad (mo:Int) (hE:Env a w) (hs:StaAt s ⟨ai,ci,ar,cr⟩ w) (hl:codesAt ad cs w) (hsz: ∀(t:Nat) L,cs[t]? =some L-> ∀(i:Nat) x,L[i]? =some x->x.to.size<=maxLen) (hbad:(s.fault cs).1≠0):
  Calls Tryz.prog 30 #[.agg #[.int .i64 s.cells, .slice ai s.init.length ci, .slice ar s.regs.length cr], .slice ad cs.length cap, .int .i64 mo] w fun e w'=>Below w.heap.size w w'/\ ∃v,e= .returned (.tuple #[toldV 0 0 false (.slice none 0 0),v])/\errIs a (s.fault cs) v w' w.heap.size:=by
 have HW:=hide (fun w1 (hb:Below w.heap.size w w1)=>wsee_bad (sv:= .nilFunc) rfl (ci:=ci) (cr:=cr) (cap:=cap) mo (hE.below hb.block) (hs.below hb) (hl.below hb) hsz hbad)
 clear hE hs hl
 obtain⟨w1,hw1,b1,hlt,t0,t1,t2,t3,z⟩:=alBox w #[.int .i64 s.cells, .slice ai s.init.length ci, .slice ar s.regs.length cr]
 go_enter Tryz.func30,Tryz.ntmps30
 go_wp2_with fail
 rw[<-hw1]
 clear hw1
 refine(HW.out w1 b1).mono ?_
 rintro e w2 ⟨hb2,v,rfl,herr⟩
 replace t0:=keep_cell hb2 t0
 replace t1:=keep_cell hb2 t1
 replace t2:=keep_cell hb2 t2
 replace t3:=keep_cell hb2 t3
 have z0:w2.frozen? ⟨w.heap.size+1,0,none⟩=false:=(hb2.frozen (p:=⟨w.heap.size+1,0,none⟩) hlt).trans (z 0)
 have z1:w2.frozen? ⟨w.heap.size+1,1,none⟩=false:=(hb2.frozen (p:=⟨w.heap.size+1,1,none⟩) hlt).trans (z 1)
 have z2:w2.frozen? ⟨w.heap.size+1,2,none⟩=false:=(hb2.frozen (p:=⟨w.heap.size+1,2,none⟩) hlt).trans (z 2)
 have z3:w2.frozen? ⟨w.heap.size+1,3,none⟩=false:=(hb2.frozen (p:=⟨w.heap.size+1,3,none⟩) hlt).trans (z 3)
 have B2:=below_step b1 hb2
 have hle:w.heap.size<=w.heap.size+1:=by omega
 clear z HW
 obtain ⟨ty,pv,rfl⟩: ∃ty pv,v= .iface ty (.pointer (some pv)):=by
  rcases herr with⟨h0, -⟩ |⟨h0, -,rfl⟩ |⟨-,j,M, -, -,rfl, -, -⟩
  ·exact absurd h0 hbad
  ·obtain⟨k,hk⟩:=Nat.exists_eq_succ_of_ne_zero h0
   rw[hk]
   exact⟨_,_,rfl⟩
  ·exact⟨_,_,rfl⟩
 have HR:=hide herr
 clear herr b1 hb2
 unfold toldV
 go_wp2_with fail
 refine bodyPost_ret (v:= .tuple #[toldV 0 0 false (.slice none 0 0), .iface ty (.pointer (some pv))]) (by simp only[results,Tryz.results30];go_simp;rfl) rfl ⟨(((B2.setCell hle _).setCell hle _).setCell hle _).setCell hle _,_,rfl,?_⟩
 rcases HR.out with⟨h0,e⟩ |⟨h0,h2,e⟩ |⟨h0,j,M,e1,e2,e3,e4,e5⟩
 ·exact .inl ⟨h0,e⟩
 ·exact .inr (.inl ⟨h0,h2,e⟩)
 ·have hM:w.heap.size+1<M:=Nat.lt_of_lt_of_le hlt e2
  exact .inr (.inr ⟨h0,j,M,e1,by omega,e3,cell_ne (cell_ne (cell_ne (cell_ne e4 (.inl (by omega))) (.inl (by omega))) (.inl (by omega))) (.inl (by omega)),cell_ne (cell_ne (cell_ne (cell_ne e5 (.inl (by omega))) (.inl (by omega))) (.inl (by omega))) (.inl (by omega))⟩)
theorem all_bound(mo:Int)(hE:Env a w)(hs:StaAt s ⟨ai,ci,ar,cr⟩ w)(hl:codesAt ad cs w)(hsz: ∀(t:Nat) L,cs[t]? =some L-> ∀(i:Nat) x,L[i]? =some x->x.to.size<=maxLen)(hgood:(s.fault cs).1=0)(hmo:mo<1∨60000<mo):
  Calls Tryz.prog 30 #[.agg #[.int .i64 s.cells, .slice ai s.init.length ci, .slice ar s.regs.length cr], .slice ad cs.length cap, .int .i64 mo] w fun e w'=>Below w.heap.size w w'/\e= .returned (.tuple #[toldV 0 0 false (.slice none 0 0),errAt (a 1)]):=by
 have HW:=hide (fun w1 (hb:Below w.heap.size w w1)=>wsee_bound (sv:= .nilFunc) rfl (ci:=ci) (cr:=cr) (cap:=cap) mo (hE.below hb.block) (hs.below hb) (hl.below hb) hsz hgood hmo)
 clear hE hs hl
 obtain⟨w1,hw1,b1,hlt,t0,t1,t2,t3,z⟩:=alBox w #[.int .i64 s.cells, .slice ai s.init.length ci, .slice ar s.regs.length cr]
 go_enter Tryz.func30,Tryz.ntmps30
 go_wp2_with fail
 rw[<-hw1]
 clear hw1
 refine(HW.out w1 b1).mono ?_
 rintro e w2 ⟨hb2,rfl⟩
 replace t0:=keep_cell hb2 t0
 replace t1:=keep_cell hb2 t1
 replace t2:=keep_cell hb2 t2
 replace t3:=keep_cell hb2 t3
 have z0:w2.frozen? ⟨w.heap.size+1,0,none⟩=false:=(hb2.frozen (p:=⟨w.heap.size+1,0,none⟩) hlt).trans (z 0)
 have z1:w2.frozen? ⟨w.heap.size+1,1,none⟩=false:=(hb2.frozen (p:=⟨w.heap.size+1,1,none⟩) hlt).trans (z 1)
 have z2:w2.frozen? ⟨w.heap.size+1,2,none⟩=false:=(hb2.frozen (p:=⟨w.heap.size+1,2,none⟩) hlt).trans (z 2)
 have z3:w2.frozen? ⟨w.heap.size+1,3,none⟩=false:=(hb2.frozen (p:=⟨w.heap.size+1,3,none⟩) hlt).trans (z 3)
 have B2:=below_step b1 hb2
 have hle:w.heap.size<=w.heap.size+1:=by omega
 clear z HW
 clear b1 hb2
 unfold toldV
 go_wp2_with fail
 refine bodyPost_ret (v:= .tuple #[toldV 0 0 false (.slice none 0 0),errAt (a 1)]) (by simp only[results,Tryz.results30];go_simp;rfl) rfl ⟨(((B2.setCell hle _).setCell hle _).setCell hle _).setCell hle _,rfl⟩
theorem all_search(mo:Int)(hE:Env a w)(hs:StaAt s ⟨ai,ci,ar,cr⟩ w)(hl:codesAt ad cs w)(hsz: ∀(t:Nat) L,cs[t]? =some L-> ∀(i:Nat) x,L[i]? =some x->x.to.size<=maxLen)(hgood:(s.fault cs).1=0)(hmo:1<=mo/\mo<=60000):
  Calls Tryz.prog 30 #[.agg #[.int .i64 s.cells, .slice ai s.init.length ci, .slice ar s.regs.length cr], .slice ad cs.length cap, .int .i64 mo] w fun e w'=>Hid (AllPost a cs (s.mach cs.length) mo w e w'):=by
 have HW:=hide (fun w1 (hb:Below w.heap.size w w1)=>wsee_search (se:=noSeer) (X0:=fun _=>False) rfl (ci:=ci) (cr:=cr) (cap:=cap) mo (noSeer_ok a cs) (fun _ h=>h.elim) (fun _ h=>h) (Nat.zero_le _) (hE.below hb.block) (hs.below hb) (hl.below hb) hsz hgood hmo)
 clear hE hs hl
 obtain⟨w1,hw1,b1,hlt,t0,t1,t2,t3,z⟩:=alBox w #[.int .i64 s.cells, .slice ai s.init.length ci, .slice ar s.regs.length cr]
 go_enter Tryz.func30,Tryz.ntmps30
 go_wp2_with fail
 rw[<-hw1]
 clear hw1
 refine(HW.out w1 b1).mono ?_
 rintro e w2 hp
 obtain⟨hT2,f,S, -,hres⟩:=hp.out
 have hb2:Below w1.heap.size w1 w2:=hT2.below nL (fun _ _ _ h=>h)
 replace t0:=keep_cell hb2 t0
 replace t1:=keep_cell hb2 t1
 replace t2:=keep_cell hb2 t2
 replace t3:=keep_cell hb2 t3
 have z0:w2.frozen? ⟨w.heap.size+1,0,none⟩=false:=(hb2.frozen (p:=⟨w.heap.size+1,0,none⟩) hlt).trans (z 0)
 have z1:w2.frozen? ⟨w.heap.size+1,1,none⟩=false:=(hb2.frozen (p:=⟨w.heap.size+1,1,none⟩) hlt).trans (z 1)
 have z2:w2.frozen? ⟨w.heap.size+1,2,none⟩=false:=(hb2.frozen (p:=⟨w.heap.size+1,2,none⟩) hlt).trans (z 2)
 have z3:w2.frozen? ⟨w.heap.size+1,3,none⟩=false:=(hb2.frozen (p:=⟨w.heap.size+1,3,none⟩) hlt).trans (z 3)
 have B2:=below_step b1 hb2
 have hle:w.heap.size<=w.heap.size+1:=by omega
 clear z HW
 have hw:w.heap.size<=w1.heap.size:=by omega
 clear b1 hb2 hp hT2
 rcases hres with⟨h1,h2,rfl⟩ |⟨h1,rfl⟩ |⟨x,l,h1,h2,h3,v,rfl,hv⟩
 ·unfold toldV
  go_wp2_with fail
  refine bodyPost_ret (v:= .tuple #[toldV S.s S.e false (.slice none 0 0), .nilIface]) (by simp only[results,Tryz.results30];go_simp;rfl) rfl ?_
  exact hide ⟨(((B2.setCell hle _).setCell hle _).setCell hle _).setCell hle _,f,S, .inl ⟨h1,h2,rfl⟩⟩
 ·unfold toldV
  go_wp2_with fail
  refine bodyPost_ret (v:= .tuple #[toldV 0 0 false (.slice none 0 0),errAt (a 1)]) (by simp only[results,Tryz.results30];go_simp;rfl) rfl ?_
  exact hide ⟨(((B2.setCell hle _).setCell hle _).setCell hle _).setCell hle _,f,S, .inr (.inl ⟨h1,rfl⟩)⟩
 ·obtain⟨av,cv,rfl, -⟩:=numsOwn_open hv (by rw[List.length_reverse];exact h3)
  have HV:=hide hv
  have hob:w1.heap.size<=av.block:=(World.ownsRow.lt hv av.block rfl).1
  clear hv
  unfold toldV
  go_wp2_with fail
  refine bodyPost_ret (v:= .tuple #[toldV S.s S.e true (.slice (some av) l.reverse.length cv), .nilIface]) (by simp only[results,Tryz.results30];go_simp;rfl) rfl ?_
  refine hide ⟨(((B2.setCell hle _).setCell hle _).setCell hle _).setCell hle _,f,S, .inr (.inr ⟨x,l,h1,h2,h3,_,rfl,?_⟩)⟩
  refine numsOwn_mono (base:=w1.heap.size) (ownsRow_block HV.out fun b hb=>?_) hw
  obtain rfl:av.block=b:=by cases hb;rfl
  have n2:av.block≠w.heap.size+1:=by omega
  rw[Below.heap_setCell _ _ _ _ n2,Below.heap_setCell _ _ _ _ n2,Below.heap_setCell _ _ _ _ n2,Below.heap_setCell _ _ _ _ n2]
end
section
open Go.RowKit Go.Extern.Stop Go.Stop Go.Extern Go.Maps Go.WideMaps Go.Sort
variable {a:Nat->Addr}
def wIns:Ins:=⟨⟨#[99,111,110,115,116]⟩,0,7,0,⟨#[]⟩⟩
def wSta:Sta:=⟨1,[],[]⟩
def wM0:Mk:=wSta.mach 1
def wM1:Mk:=(wM0.setPc 0 1).setReg 0 0 7
theorem wGood:codeFault [wIns]=(0, -1):=codeGood_is (by decide+kernel)
theorem wFault:(wSta.fault [[wIns]]).1=0:=by
 unfold Sta.fault
 rw[if_pos ⟨by decide,by decide,by decide,by decide,by decide⟩]
 rw[codesFrom_none _ 0 fun t L ht=>?_]
 cases t with
 |zero=>cases ht;rw[wGood]
 |succ t=>cases ht
theorem wDone0:doneAt [wIns] 0=false:=by
 show(wIns.op.toList==[115,116,111,112])=false
 rw[toList_bl];rfl
theorem wTurn0:wM0.turnO [[wIns]] ((0:Nat):Int)=(0,wM1):=by
 show(if doneAt [wIns] 0=true then(9,wM0) else(0,wM0.step [wIns] 0))=_
 rw[wDone0,if_neg (by decide)]
 show(0,(wM0.setPc 0 1).exec [wIns] 0 wIns)=_
 rw[exec_const _ _ _ rfl]
 rfl
theorem wTurn1:wM0.turnO [[wIns]] ((1:Nat):Int)=(5,wM0):=rfl
theorem wTurn2:wM1.turnO [[wIns]] ((0:Nat):Int)=(9,wM1):=rfl
theorem wTurn3:wM1.turnO [[wIns]] ((1:Nat):Int)=(5,wM1):=rfl
theorem wNums0:mkNums 1 wM0=[0,0,0,0,0,0,0,0,0,0,0]:=rfl
theorem wNums1:mkNums 1 wM1=[0,0,7,0,0,0,0,0,0,0,1]:=rfl
theorem wKey:keyOf 1 wM1≠keyOf 1 wM0:=fun e=>by
 have:=keyOf_inj (by rw[wNums1];decide) (by rw[wNums0];decide) e
 rw[wNums0,wNums1] at this
 exact absurd this (by decide)
def wS2:Sp:=⟨[(keyOf 1 wM0,(ByteArray.empty,0)),(keyOf 1 wM1,(keyOf 1 wM0,0))],[],2,1,[wM0,wM1]⟩
theorem wEnd0:endTo [[wIns]] wM0 1=false:=by
 show(doneAt [wIns] 0&&true&&true)=false
 rw[wDone0];rfl
theorem wEnd1:endTo [[wIns]] wM1 1=true:=rfl
theorem wSpread0:spreadO [[wIns]] 5 wM0 2 0 ⟨[(keyOf 1 wM0,(ByteArray.empty,0))],[],1,0,[wM0]⟩=(.go,{ wS2 with ms:=[wM1] }):=by
 rw[spreadO_add (by rw[wTurn0];decide) (by rw[wTurn0];decide),wTurn0]
 have e:addO [[wIns]] 5 ⟨[(keyOf 1 wM0,(ByteArray.empty,0))],[],1,0,[wM0]⟩ wM1 (keyOf 1 wM0,((0:Nat):Int))=some { wS2 with ms:=[wM1] }:=by
  have hk:keyIn [(keyOf 1 wM0,(ByteArray.empty,(0:Int)))] (keyOf 1 wM1)=false:=by
   unfold keyIn
   rw[List.any_cons,List.any_nil,Bool.or_false,beq_eq_false_iff_ne,toList_bl,toList_bl]
   exact fun e=>wKey (bl_inj e).symm
  unfold addO
  show(if keyIn [(keyOf 1 wM0,(ByteArray.empty,(0:Int)))] (keyOf 1 wM1)=true then some _ else if((1:Nat):Int)=5 then none else some (Sp.mk _ _ _ (endN 0 (endTo [[wIns]] wM1 1)) _))=_
  rw[hk,if_neg (by decide),if_neg (by decide),wEnd1]
  rfl
 show(match addO [[wIns]] 5 ⟨[(keyOf 1 wM0,(ByteArray.empty,0))],[],1,0,[wM0]⟩ wM1 (keyOf 1 wM0,((0:Nat):Int)) with |none=>(SpEnd.bound,_) |some S'=>spreadO [[wIns]] 5 wM0 1 1 S')=_
 rw[e]
 show spreadO [[wIns]] 5 wM0 1 1 _=_
 rw[spreadO_err (by rw[wTurn1];decide)]
 rfl
theorem wSpread1:spreadO [[wIns]] 5 wM1 2 0 wS2=(.go,wS2):=by
 rw[spreadO_err (by rw[wTurn2];decide),spreadO_err (by rw[wTurn3];decide)]
 rfl
theorem wFirst:firstS [[wIns]] wM0=⟨[(keyOf 1 wM0,(ByteArray.empty,0))],[wM0],1,0,[wM0]⟩:=by
 unfold firstS
 rw[show endTo [[wIns]] wM0 ([[wIns]]:List (List Ins)).length=false from wEnd0]
 rfl
theorem wSearch(f:Nat):(f<2/\ ∃S,searchO [[wIns]] 5 2 f (firstS [[wIns]] wM0)=(.go,S)/\S.ms≠[])∨searchO [[wIns]] 5 2 f (firstS [[wIns]] wM0)=(.go,wS2):=by
 have h1: ∀f,searchO [[wIns]] 5 2 (f+1) (firstS [[wIns]] wM0)=searchO [[wIns]] 5 2 f { wS2 with ms:=[wM1] }:=fun f=>by
  rw[searchO_cons (m:=wM0) (l:=[]) (by rw[wFirst]),wFirst]
  show(match spreadO [[wIns]] 5 wM0 2 0 ⟨[(keyOf 1 wM0,(ByteArray.empty,0))],[],1,0,[wM0]⟩ with |(.go,S')=>searchO [[wIns]] 5 2 f S' |r=>r)=_
  rw[wSpread0]
 have h2: ∀f,searchO [[wIns]] 5 2 (f+1) { wS2 with ms:=[wM1] }=searchO [[wIns]] 5 2 f wS2:=fun f=>by
  rw[searchO_cons (m:=wM1) (l:=[]) rfl]
  show(match spreadO [[wIns]] 5 wM1 2 0 wS2 with |(.go,S')=>searchO [[wIns]] 5 2 f S' |r=>r)=_
  rw[wSpread1]
 match f with
 |0=>exact .inl ⟨by decide,_,rfl,by rw[wFirst];simp⟩
 |1=>exact .inl ⟨by decide,{ wS2 with ms:=[wM1] },by rw[h1];rfl,by simp⟩
 | f+2=>
  refine .inr ?_
  rw[h1,h2]
  cases f <;> rfl
theorem wAll{w w':World}{e:Ending}(h:AllPost a [[wIns]] wM0 5 w e w'):Below w.heap.size w w'/\e= .returned (.tuple #[toldV 2 1 false (.slice none 0 0), .nilIface]):=by
 obtain⟨hb,f,S,h⟩:=h
 refine⟨hb,?_⟩
 rcases h with⟨h1,h2,h3⟩ |⟨h1, -⟩ |⟨x,l,h1, -⟩
 ·have h1:searchO [[wIns]] 5 2 f (firstS [[wIns]] wM0)=(.go,S):=h1
  rcases wSearch f with⟨-,S',g1,g2⟩ |g1
  ·rw[g1] at h1;cases h1;exact absurd h2 g2
  ·rw[g1] at h1;cases h1;exact h3
 ·have h1:searchO [[wIns]] 5 2 f (firstS [[wIns]] wM0)=(.bound,S):=h1
  rcases wSearch f with⟨-,S',g1,g2⟩ |g1
  ·rw[g1] at h1;cases h1
  ·rw[g1] at h1;cases h1
 ·have h1:searchO [[wIns]] 5 2 f (firstS [[wIns]] wM0)=(.fault x,S):=h1
  rcases wSearch f with⟨-,S',g1,g2⟩ |g1
  ·rw[g1] at h1;cases h1
  ·rw[g1] at h1;cases h1
theorem wIns_at(w:World):insAt (some ⟨w.heap.size,0,none⟩) [wIns] (w.alloc (.cells #[.string ⟨#[99,111,110,115,116]⟩, .int .i64 0, .int .i64 7, .int .i64 0, .string ⟨#[]⟩] 75)):=by
 intro i x hx
 cases i with
 | zero=>
  cases hx
  refine⟨w.heap.size,0,rfl,?_,?_,?_,?_,?_⟩ <;> (rw[World.cell?_alloc_new];rfl)
 |succ i=>cases hx
theorem wCodes(w:World)(B:Obj)(hB:B= .cells #[.slice (some ⟨w.heap.size,0,none⟩) 1 1] 55):codesAt (some ⟨w.heap.size+1,0,none⟩) [[wIns]] ((w.alloc (.cells #[.string ⟨#[99,111,110,115,116]⟩, .int .i64 0, .int .i64 7, .int .i64 0, .string ⟨#[]⟩] 75)).alloc B):=by
 subst hB
 intro t L ht
 cases t with
 | zero=>
  cases ht
  refine⟨w.heap.size+1,0,some ⟨w.heap.size,0,none⟩,1,rfl,?_,Nat.le_refl _,insAt_below (wIns_at w) (bRf.alloc nL _),fun e=>by cases e⟩
  have:=World.cell?_alloc_new (w.alloc (.cells #[.string ⟨#[99,111,110,115,116]⟩, .int .i64 0, .int .i64 7, .int .i64 0, .string ⟨#[]⟩] 75)) #[.slice (some ⟨w.heap.size,0,none⟩) 1 1] 55 0
  rw[World.size_alloc] at this
  exact this
 |succ t=>cases ht
theorem ways_any {w:World} (hE:Env a w):Calls Tryz.prog 29 #[] w fun e w'=>e= .returned (.bool true)/\Below w.heap.size w w':=by
 obtain⟨W2,hW2⟩: ∃W2,W2=(w.alloc (.cells #[.string ⟨#[99,111,110,115,116]⟩, .int .i64 0, .int .i64 7, .int .i64 0, .string ⟨#[]⟩] 75)).alloc (.cells #[.slice (some ⟨w.heap.size,0,none⟩) 1 1] 55):=⟨_,rfl⟩
 have b2:Below w.heap.size w W2:=by rw[hW2];exact(bRf.alloc nL _).alloc (by simp) _
 have hs:StaAt wSta ⟨none,0,none,0⟩ W2:=⟨fun i row h=>by simp[wSta] at h,fun i row h=>by simp[wSta] at h,Nat.le_refl _,Nat.le_refl _,Nat.zero_le _,Nat.zero_le _,fun i row h=>by simp[wSta] at h,fun i row h=>by simp[wSta] at h⟩
 have HA:=hide (all_search (s:=wSta) (ai:=none) (ar:=none) (ci:=0) (cr:=0) (ad:=some ⟨w.heap.size+1,0,none⟩) (cap:=1) (cs:=[[wIns]]) (w:=W2) 5 (hE.below b2.block) hs (by rw[hW2];exact wCodes w _ rfl) (fun t L ht i x hx=>by
  match t,ht with
  | 0,ht=>
   cases ht
   match i,hx with
   |0,hx=>cases hx;decide
   |n+1,hx=>simp at hx) wFault (by decide))
 clear hE hs
 go_enter Tryz.func29,Tryz.ntmps29
 go_wp2_with fail
 rw[<-hW2]
 clear hW2
 refine HA.out.mono ?_
 rintro e w3 hp
 obtain⟨hb3,rfl⟩:=wAll hp.out
 have hb:=below_step b2 hb3
 clear HA hp hb3 b2
 unfold toldV
 go_wp2_with fail
 go_ret
 exact⟨rfl,hb.alloc hb.size _⟩
end
section
open Go.RowKit Go.Extern.Stop Go.Stop Go.Extern
theorem rbare_any(k:Int)(w:World):Calls Tryz.prog 31 #[.int .i64 k] w fun e w'=>e= .returned (.agg #[.int .i64 k, .int .i64 (-1)])/\Below w.heap.size w w':=by
 go_enter Tryz.func31,Tryz.ntmps31
 go_wp2
 refine bodyPost_ret (v:= .agg #[.int .i64 k, .int .i64 (-1)]) (by simp only[results,Tryz.results31];go_simp) rfl ⟨rfl,?_⟩
 exact bRf.alloc nL _
theorem fine_any(w:World):Calls Tryz.prog 45 #[] w fun e w'=>e= .returned (.agg #[.int .i64 0, .int .i64 (-1)])/\Below w.heap.size w w':=by
 go_enter Tryz.func45,Tryz.ntmps45
 go_wp2
 refine bodyPost_ret (v:= .agg #[.int .i64 0, .int .i64 (-1)]) (by simp only[results,Tryz.results45];go_simp) rfl ⟨rfl,?_⟩
 exact bRf.alloc nL _
theorem codeFault_any (ad:Option Addr) (cap:Nat) (l:List Ins) (w:World) (hl:insAt ad l w):
  Calls Tryz.prog 44 #[.slice ad l.length cap] w fun e w'=>e= .returned (.agg #[.int .i64 (codeFault l).1, .int .i64 (codeFault l).2])/\Below w.heap.size w w':=by
 have HL:=hide hl
 clear hl
 have hba:Below w.heap.size w (w.alloc (.cells #[.int .i64 0, .int .i64 0] 43)):=bRf.alloc nL _
 obtain⟨z0,z1⟩:=box2c w 43 (.int .i64 0) (.int .i64 0)
 have y0:(w.alloc (.cells #[.int .i64 0, .int .i64 0] 43)).frozen? ⟨w.heap.size,0,none⟩=false:=by simp
 have y1:(w.alloc (.cells #[.int .i64 0, .int .i64 0] 43)).frozen? ⟨w.heap.size,1,none⟩=false:=by simp
 generalize hw:w.alloc (.cells #[.int .i64 0, .int .i64 0] 43)=w1 at*
 by_cases hlen:2000<l.length
 ·have hc:codeFault l=(2, -1):=if_pos hlen
  have hi:2000<(l.length:Int):=by omega
  rw[hc]
  clear hc
  go_enter Tryz.func44,Tryz.ntmps44
  go_wp2_with fail
  refine(rbare_any _ _).mono ?_
  rintro e w2 ⟨rfl,hb3⟩
  clear hw
  have r0:=keep_cell hb3 z0
  have r1:=keep_cell hb3 z1
  have hzl:w.heap.size<w1.heap.size:=bLt z0
  have x0:w2.frozen? ⟨w.heap.size,0,none⟩=false:=by rw[hb3.frozen hzl];exact y0
  have x1:w2.frozen? ⟨w.heap.size,1,none⟩=false:=by rw[hb3.frozen hzl];exact y1
  have B3:=below_step hba hb3
  clear z0 z1 y0 y1 hb3
  go_wp2_with fail
  refine bodyPost_ret (v:= .agg #[.int .i64 2, .int .i64 (-1)]) (by simp only[results,Tryz.results44];go_simp) rfl ⟨rfl,?_⟩
  exact(B3.setCell nL _).setCell nL _
 ·have hc :codeFault l=faultFrom l 0 l:=if_neg hlen
  have hi: ¬2000<(l.length:Int):=by omega
  rw[hc]
  clear hc
  go_enter Tryz.func44,Tryz.ntmps44
  go_wp2_with fail
  clear hw
  go_loopw [3] (fun i wr=>Hid (Below w1.heap.size w1 wr)/\ ∃j:Nat,j<=l.length/\i= .int .i64 j/\Hid (∀k y,k<j->l[k]? =some y->insFault l k y=0)) (fun i _=>l.length - (intOf i).toNat)
  case atStart=>exact⟨Below.refl _ _,0,Nat.zero_le _,rfl,fun k y h=>absurd h (Nat.not_lt_zero _)⟩
  case round =>
   obtain⟨HB,j,hj,rfl,HJ⟩:=hrel
   by_cases hlt:j<l.length
   ·obtain ⟨x,hx⟩: ∃x,l[j]? =some x:=⟨_,List.getElem?_eq_getElem hlt⟩
    have HR:=hide (insAt_below (insAt_below HL.out hba) HB.out)
    obtain⟨b,off,rfl,a0,a1,a2,a3,a4⟩:=HR.out j x hx
    have ji:(j:Int)<l.length:=by omega
    have HY:Hid (insFault l j x=0-> ∀k y,k<j+1->l[k]? =some y->insFault l k y=0):=fun h k y hk hy=>by
     by_cases e:k=j
     ·subst e;rw[hx] at hy;cases hy;exact h
     ·exact HJ.out k y (by omega) hy
    have HX:Hid (insFault l j x≠0->faultFrom l 0 l=(insFault l j x,(j:Int))):=fun h=>by
     have:=faultFrom_hit l l 0 j x hx (by simpa using h) (fun k y hk hy=>by simpa using HJ.out k y hk hy)
     simpa using this
    clear HJ hx
    go_wp2_with fail
    refine(instr_any x _).mono ?_
    rintro e2 w2 ⟨rfl,hb2⟩
    have HB2:Hid (Below w1.heap.size w1 w2):=below_step HB.out hb2
    have HR2:=hide (insAt_below HR.out hb2)
    replace a0:=keep_cell hb2 a0
    replace a4:=keep_cell hb2 a4
    clear HB HR hb2 a1 a2 a3
    by_cases he:insErr x=0
    ·rw [he]
     rw[show((0:Nat):Int)=0 from rfl]
     have hlen6:l.length<=1000000:=by omega
     cases k1:(x.op.toList==[108,97,98,101,108])
     ·cases k2:(x.to.toList==[])
      ·go_wp2_with fail
       refine(labelAt_any _ _ _ _ _ hlen6 HR2.out).mono ?_
       rintro e3 w3 ⟨rfl,rfl⟩
       by_cases hn:labelAt l x.to<0
       ·have HZ:Hid (faultFrom l 0 l=(5,(j:Int))):=by
         have hv:insFault l j x=5:=by unfold insFault;rw[if_neg (fun h=>h he)];rw[if_neg (by simp[k1]),if_pos ⟨k2,hn⟩]
         have:=HX.out (by rw[hv];decide)
         rwa [hv] at this
        clear HX HY
        have hb3:=HB2.out
        have r0:=keep_cell hb3 z0
        have r1:=keep_cell hb3 z1
        have hzl:w.heap.size<w1.heap.size:=bLt z0
        have x0:w3.frozen? ⟨w.heap.size,0,none⟩=false:=by rw[hb3.frozen hzl];exact y0
        have x1:w3.frozen? ⟨w.heap.size,1,none⟩=false:=by rw[hb3.frozen hzl];exact y1
        have B3:=below_step hba hb3
        clear z0 z1 y0 y1 hb3
        go_wp2_with fail
        refine bodyPost_ret (v:= .agg #[.int .i64 5, .int .i64 j]) (by simp only[results,Tryz.results44];go_simp) rfl ⟨by rw[HZ.out];rfl,?_⟩
        exact(B3.setCell nL _).setCell nL _
       ·have HZ:=hide (HY.out (by unfold insFault;rw[if_neg (fun h=>h he)];rw[if_neg (by simp[k1]),if_neg (fun h=>hn h.2)]))
        clear HX HY
        go_wp2_with fail
        go_roundw
        case rel=>exact⟨HB2,j+1,by omega,by go_num,HZ⟩
        case measure=>simp[intOf];omega
      ·have HZ:=hide (HY.out (by unfold insFault;rw[if_neg (fun h=>h he)];rw[if_neg (by simp[k1]),if_neg (by simp[k2])]))
       clear HX HY
       go_wp2_with fail
       go_roundw
       case rel=>exact⟨HB2,j+1,by omega,by go_num,HZ⟩
       case measure=>simp[intOf];omega
     ·go_wp2_with fail
      refine(labelAt_any _ _ _ _ _ hlen6 HR2.out).mono ?_
      rintro e3 w3 ⟨rfl,rfl⟩
      by_cases hn:labelAt l x.to=j
      ·rw [hn]
       cases k2:(x.to.toList==[])
       ·go_wp2_with fail
        refine(labelAt_any _ _ _ _ _ hlen6 HR2.out).mono ?_
        rintro e3 w4 ⟨rfl,rfl⟩
        rw[hn]
        have hj0: ¬(j:Int)<0:=by omega
        have HZ:=hide (HY.out (by unfold insFault;rw[if_neg (fun h=>h he)];rw[if_neg (fun h=>h.2 hn),if_neg (fun h=>by have:=h.2;omega)]))
        clear HX HY
        go_wp2_with fail
        go_roundw
        case rel=>exact⟨HB2,j+1,by omega,by go_num,HZ⟩
        case measure=>simp[intOf];omega
       ·have HZ:=hide (HY.out (by unfold insFault;rw[if_neg (fun h=>h he)];rw[if_neg (fun h=>h.2 hn),if_neg (by simp[k2])]))
        clear HX HY
        go_wp2_with fail
        go_roundw
        case rel=>exact⟨HB2,j+1,by omega,by go_num,HZ⟩
        case measure=>simp[intOf];omega
      ·have hne:(labelAt l x.to==(j:Int))=false:=beq_eq_false_iff_ne.2 hn
       have HZ:Hid (faultFrom l 0 l=(4,(j:Int))):=by
        have hv:insFault l j x=4:=by unfold insFault;rw[if_neg (fun h=>h he)];rw[if_pos ⟨k1,hn⟩]
        have:=HX.out (by rw[hv];decide)
        rwa [hv] at this
       clear HX HY
       have hb3:=HB2.out
       have r0:=keep_cell hb3 z0
       have r1:=keep_cell hb3 z1
       have hzl:w.heap.size<w1.heap.size:=bLt z0
       have x0:w3.frozen? ⟨w.heap.size,0,none⟩=false:=by rw[hb3.frozen hzl];exact y0
       have x1:w3.frozen? ⟨w.heap.size,1,none⟩=false:=by rw[hb3.frozen hzl];exact y1
       have B3:=below_step hba hb3
       clear z0 z1 y0 y1 hb3
       go_wp2_with fail
       refine bodyPost_ret (v:= .agg #[.int .i64 4, .int .i64 j]) (by simp only[results,Tryz.results44];go_simp) rfl ⟨by rw[HZ.out];rfl,?_⟩
       exact(B3.setCell nL _).setCell nL _
    ·have HZ:Hid (faultFrom l 0 l=(insErr x,(j:Int))):=by
      have hv:insFault l j x=insErr x:=by unfold insFault;rw[if_pos he]
      have:=HX.out (by rw[hv];exact he)
      rwa [hv] at this
     clear HX HY
     have hb3:=HB2.out
     have r0:=keep_cell hb3 z0
     have r1:=keep_cell hb3 z1
     have hzl:w.heap.size<w1.heap.size:=bLt z0
     have x0:w2.frozen? ⟨w.heap.size,0,none⟩=false:=by rw[hb3.frozen hzl];exact y0
     have x1:w2.frozen? ⟨w.heap.size,1,none⟩=false:=by rw[hb3.frozen hzl];exact y1
     have B3:=below_step hba hb3
     have he0:0<(insErr x:Int):=by omega
     clear z0 z1 y0 y1 hb3
     generalize insErr x=n at*
     go_wp2_with fail
     refine bodyPost_ret (v:= .agg #[.int .i64 n, .int .i64 j]) (by simp only[results,Tryz.results44];go_simp) rfl ⟨by rw[HZ.out],?_⟩
     exact(B3.setCell nL _).setCell nL _
   ·have HZ:Hid (faultFrom l 0 l=(0, -1)):=faultFrom_at l l 0 (fun k y hy=>by simpa using HJ.out k y (by have:=(List.getElem?_eq_some_iff.1 hy).1;omega) hy)
    obtain rfl:j=l.length:=by omega
    clear HJ
    go_wp2_with fail
    refine(fine_any _).mono ?_
    rintro e w2 ⟨rfl,hb2⟩
    have hb3:Below w1.heap.size w1 w2:=below_step HB.out hb2
    have r0:=keep_cell hb3 z0
    have r1:=keep_cell hb3 z1
    have hzl:w.heap.size<w1.heap.size:=bLt z0
    have x0:w2.frozen? ⟨w.heap.size,0,none⟩=false:=by rw[hb3.frozen hzl];exact y0
    have x1:w2.frozen? ⟨w.heap.size,1,none⟩=false:=by rw[hb3.frozen hzl];exact y1
    have B3:=below_step hba hb3
    clear z0 z1 y0 y1 hb3 hb2 HB
    go_wp2_with fail
    refine bodyPost_ret (v:= .agg #[.int .i64 0, .int .i64 (-1)]) (by simp only[results,Tryz.results44];go_simp) rfl ⟨by rw[HZ.out];rfl,?_⟩
    exact(B3.setCell nL _).setCell nL _
end
section
open Go.RowKit Go.Extern.Stop Go.Stop Go.Extern Go.Maps Go.WideMaps Go.Sort
variable {w:World}
theorem rightWords_any {ad:Option Addr} {l:List Int} {cap most:Nat} (hl:numsAt ad l w) (hlen:l.length<=9223372036854775807):
  Calls Tryz.prog 43 #[.slice ad l.length cap, .int .i64 most] w fun e w'=>e= .returned (.bool (rowOk most l))/\w'=w:=by
 have HL:=hide hl
 clear hl
 go_enter Tryz.func43,Tryz.ntmps43
 go_wp2_with fail
 go_loopw [5] (fun i wr=> ∃j:Nat,j<=l.length/\i= .int .i64 j/\wr=w/\Hid (∀(k:Nat) x,k<j->l[k]? =some x->wordOk x=true)) (fun i _=>l.length - (intOf i).toNat)
 case atStart=>exact⟨0,Nat.zero_le _,rfl,rfl,fun k x h=>absurd h (Nat.not_lt_zero _)⟩
 case round=>
  obtain⟨j,hj,rfl,rfl,HJ⟩:=hrel
  by_cases hlt:j<l.length
  ·obtain ⟨x,hx⟩: ∃x,l[j]? =some x:=⟨_,List.getElem?_eq_getElem hlt⟩
   obtain⟨b,off,rfl,c0⟩:=HL.out j x hx
   have ji:(j:Int)<l.length:=by omega
   have HI:=hide (isWordR_any x wr)
   cases hw:wordOk x
   ·have HR:Hid (rowOk most l=false):=by
     show _=_
     unfold rowOk
     rw[all_hit hx hw,Bool.and_false]
    rw[show decide (0<=x/\x<4294967296)=false from hw] at HI
    clear HL HJ hx
    go_wp2_with fail
    refine HI.out.mono ?_
    rintro e w1 ⟨rfl,rfl⟩
    go_wp2
    go_ret
    exact⟨by rw[HR.out];rfl,rfl⟩
   ·have HR:Hid (∀(k:Nat) x,k<j+1->l[k]? =some x->wordOk x=true):=fun k y hk hy=>by
     by_cases e:k=j
     ·subst e;rw[hx] at hy;cases hy;exact hw
     ·exact HJ.out k y (by omega) hy
    rw[show decide (0<=x/\x<4294967296)=true from hw] at HI
    clear HL HJ hx
    go_wp2_with fail
    refine HI.out.mono ?_
    rintro e w1 ⟨rfl,rfl⟩
    go_wp2
    go_roundw
    case rel=>exact⟨j+1,by omega,by go_num,by first |trivial |rfl,HR⟩
    case measure=>simp[intOf];omega
  ·obtain rfl:j=l.length:=by omega
   have HR:Hid (rowOk most l=decide (l.length<=most)):=by
    show _=_
    unfold rowOk
    rw[all_done (fun k x hk hx=>HJ.out k x hk hx),Bool.and_true]
   clear HL HJ
   go_wp2
   go_ret
   exact⟨by rw[HR.out];rfl,rfl⟩
theorem startFault_any {s:Sta} {ai ar ad:Option Addr} {ci cr cap:Nat} {cs:List (List Ins)} (hs:StaAt s ⟨ai,ci,ar,cr⟩ w) (hl:codesAt ad cs w) (hc:cs.length<=9223372036854775807):
  Calls Tryz.prog 18 #[.agg #[.int .i64 s.cells, .slice ai s.init.length ci, .slice ar s.regs.length cr], .slice ad cs.length cap] w fun e w'=>e= .returned (.agg #[.int .i64 (s.fault cs).1, .int .i64 (s.fault cs).2])/\Below w.heap.size w w':=by
 obtain⟨W1,hW1⟩: ∃W1,W1=(w.alloc (.cells #[.int .i64 s.cells, .slice ai s.init.length ci, .slice ar s.regs.length cr] 24)).alloc (.cells #[.int .i64 0, .int .i64 0] 43):=⟨_,rfl⟩
 have hba:Below w.heap.size w W1:=by rw[hW1];exact(bRf.alloc nL _).alloc (by simp) _
 have s0:W1.cell? ⟨w.heap.size,0,none⟩=some (.int .i64 s.cells):=by rw[hW1];simp
 have s1:W1.cell? ⟨w.heap.size,1,none⟩=some (.slice ai s.init.length ci):=by rw[hW1];simp
 have s2:W1.cell? ⟨w.heap.size,2,none⟩=some (.slice ar s.regs.length cr):=by rw[hW1];simp
 have z0:W1.cell? ⟨w.heap.size+1,0,none⟩=some (.int .i64 0):=by rw[hW1];simp
 have z1:W1.cell? ⟨w.heap.size+1,1,none⟩=some (.int .i64 0):=by rw[hW1];simp
 have y0:W1.frozen? ⟨w.heap.size+1,0,none⟩=false:=by rw[hW1];simp
 have y1:W1.frozen? ⟨w.heap.size+1,1,none⟩=false:=by rw[hW1];simp
 have hzl:w.heap.size+1<W1.heap.size:=bLt z0
 have HS:Hid (StaAt s ⟨ai,ci,ar,cr⟩ W1):=hide (hs.below hba)
 have HL:Hid (codesAt ad cs W1):=hide (hl.below hba)
 have i1:=hs.ci
 have i2:=hs.cr
 have i3:=hs.li
 have i4:=hs.lr
 dsimp only at i1 i2
 clear hs hl
 obtain⟨n,hn⟩: ∃n:Nat,n=cs.length:=⟨_,rfl⟩
 by_cases c1:s.cells<1
 ·have HZ:Hid (s.fault cs=(2, -1)):=by
   show _=_
   unfold Sta.fault
   exact if_neg (fun h=>by obtain⟨h1,h2,h3,h4,h5⟩:=h;omega)
  rw[HZ.out]
  clear HZ HS HL
  go_enter Tryz.func18,Tryz.ntmps18
  go_wp2_with fail
  rw[<-hW1]
  refine(rbare_any _ _).mono ?_
  rintro e w2 ⟨rfl,hb3⟩
  clear hW1
  have r0:=keep_cell hb3 z0
  have r1:=keep_cell hb3 z1
  have x0:w2.frozen? ⟨w.heap.size+1,0,none⟩=false:=by rw[hb3.frozen hzl];exact y0
  have x1:w2.frozen? ⟨w.heap.size+1,1,none⟩=false:=by rw[hb3.frozen hzl];exact y1
  have B3:=below_step hba hb3
  clear z0 z1 y0 y1 hb3 s0 s1 s2
  go_wp2_with fail
  refine bodyPost_ret (v:= .agg #[.int .i64 2, .int .i64 (-1)]) (by simp only[results,Tryz.results18];go_simp) rfl ⟨rfl,?_⟩
  exact(B3.setCell (Nat.le_succ _) _).setCell (Nat.le_succ _) _
 by_cases c2:64<s.cells
 ·have HZ:Hid (s.fault cs=(2, -1)):=by
   show _=_
   unfold Sta.fault
   exact if_neg (fun h=>by obtain⟨h1,h2,h3,h4,h5⟩:=h;omega)
  rw[HZ.out]
  clear HZ HS HL
  go_enter Tryz.func18,Tryz.ntmps18
  go_wp2_with fail
  rw[<-hW1]
  refine(rbare_any _ _).mono ?_
  rintro e w2 ⟨rfl,hb3⟩
  clear hW1
  have r0:=keep_cell hb3 z0
  have r1:=keep_cell hb3 z1
  have x0:w2.frozen? ⟨w.heap.size+1,0,none⟩=false:=by rw[hb3.frozen hzl];exact y0
  have x1:w2.frozen? ⟨w.heap.size+1,1,none⟩=false:=by rw[hb3.frozen hzl];exact y1
  have B3:=below_step hba hb3
  clear z0 z1 y0 y1 hb3 s0 s1 s2
  go_wp2_with fail
  refine bodyPost_ret (v:= .agg #[.int .i64 2, .int .i64 (-1)]) (by simp only[results,Tryz.results18];go_simp) rfl ⟨rfl,?_⟩
  exact(B3.setCell (Nat.le_succ _) _).setCell (Nat.le_succ _) _
 by_cases c3:(cs.length:Int)<1
 ·have HZ:Hid (s.fault cs=(2, -1)):=by
   show _=_
   unfold Sta.fault
   exact if_neg (fun h=>by obtain⟨h1,h2,h3,h4,h5⟩:=h;omega)
  rw[HZ.out]
  clear HZ HS HL
  go_enter Tryz.func18,Tryz.ntmps18
  go_wp2_with fail
  rw[<-hW1]
  refine(rbare_any _ _).mono ?_
  rintro e w2 ⟨rfl,hb3⟩
  clear hW1
  have r0:=keep_cell hb3 z0
  have r1:=keep_cell hb3 z1
  have x0:w2.frozen? ⟨w.heap.size+1,0,none⟩=false:=by rw[hb3.frozen hzl];exact y0
  have x1:w2.frozen? ⟨w.heap.size+1,1,none⟩=false:=by rw[hb3.frozen hzl];exact y1
  have B3:=below_step hba hb3
  clear z0 z1 y0 y1 hb3 s0 s1 s2
  go_wp2_with fail
  refine bodyPost_ret (v:= .agg #[.int .i64 2, .int .i64 (-1)]) (by simp only[results,Tryz.results18];go_simp) rfl ⟨rfl,?_⟩
  exact(B3.setCell (Nat.le_succ _) _).setCell (Nat.le_succ _) _
 by_cases c4:6<(cs.length:Int)
 ·have HZ:Hid (s.fault cs=(2, -1)):=by
   show _=_
   unfold Sta.fault
   exact if_neg (fun h=>by obtain⟨h1,h2,h3,h4,h5⟩:=h;omega)
  rw[HZ.out]
  clear HZ HS HL
  go_enter Tryz.func18,Tryz.ntmps18
  go_wp2_with fail
  rw[<-hW1]
  refine(rbare_any _ _).mono ?_
  rintro e w2 ⟨rfl,hb3⟩
  clear hW1
  have r0:=keep_cell hb3 z0
  have r1:=keep_cell hb3 z1
  have x0:w2.frozen? ⟨w.heap.size+1,0,none⟩=false:=by rw[hb3.frozen hzl];exact y0
  have x1:w2.frozen? ⟨w.heap.size+1,1,none⟩=false:=by rw[hb3.frozen hzl];exact y1
  have B3:=below_step hba hb3
  clear z0 z1 y0 y1 hb3 s0 s1 s2
  go_wp2_with fail
  refine bodyPost_ret (v:= .agg #[.int .i64 2, .int .i64 (-1)]) (by simp only[results,Tryz.results18];go_simp) rfl ⟨rfl,?_⟩
  exact(B3.setCell (Nat.le_succ _) _).setCell (Nat.le_succ _) _
 by_cases c5:s.cells<(s.init.length:Int)
 ·have HZ:Hid (s.fault cs=(2, -1)):=by
   show _=_
   unfold Sta.fault
   exact if_neg (fun h=>by obtain⟨h1,h2,h3,h4,h5⟩:=h;(unfold Sta.fits at h5;rw[Bool.and_eq_true,Bool.and_eq_true,decide_eq_true_eq] at h5;omega))
  rw[HZ.out]
  clear HZ HS HL
  go_enter Tryz.func18,Tryz.ntmps18
  go_wp2_with fail
  rw[<-hW1]
  refine(rbare_any _ _).mono ?_
  rintro e w2 ⟨rfl,hb3⟩
  clear hW1
  have r0:=keep_cell hb3 z0
  have r1:=keep_cell hb3 z1
  have x0:w2.frozen? ⟨w.heap.size+1,0,none⟩=false:=by rw[hb3.frozen hzl];exact y0
  have x1:w2.frozen? ⟨w.heap.size+1,1,none⟩=false:=by rw[hb3.frozen hzl];exact y1
  have B3:=below_step hba hb3
  clear z0 z1 y0 y1 hb3 s0 s1 s2
  go_wp2_with fail
  refine bodyPost_ret (v:= .agg #[.int .i64 2, .int .i64 (-1)]) (by simp only[results,Tryz.results18];go_simp) rfl ⟨rfl,?_⟩
  exact(B3.setCell (Nat.le_succ _) _).setCell (Nat.le_succ _) _
 by_cases c6:(cs.length:Int)<(s.regs.length:Int)
 ·have HZ:Hid (s.fault cs=(2, -1)):=by
   show _=_
   unfold Sta.fault
   exact if_neg (fun h=>by obtain⟨h1,h2,h3,h4,h5⟩:=h;(unfold Sta.fits at h5;rw[Bool.and_eq_true,Bool.and_eq_true,Bool.and_eq_true,decide_eq_true_eq,decide_eq_true_eq] at h5;omega))
  rw[HZ.out]
  clear HZ HS HL
  go_enter Tryz.func18,Tryz.ntmps18
  go_wp2_with fail
  rw[<-hW1]
  refine(rbare_any _ _).mono ?_
  rintro e w2 ⟨rfl,hb3⟩
  clear hW1
  have r0:=keep_cell hb3 z0
  have r1:=keep_cell hb3 z1
  have x0:w2.frozen? ⟨w.heap.size+1,0,none⟩=false:=by rw[hb3.frozen hzl];exact y0
  have x1:w2.frozen? ⟨w.heap.size+1,1,none⟩=false:=by rw[hb3.frozen hzl];exact y1
  have B3:=below_step hba hb3
  clear z0 z1 y0 y1 hb3 s0 s1 s2
  go_wp2_with fail
  refine bodyPost_ret (v:= .agg #[.int .i64 2, .int .i64 (-1)]) (by simp only[results,Tryz.results18];go_simp) rfl ⟨rfl,?_⟩
  exact(B3.setCell (Nat.le_succ _) _).setCell (Nat.le_succ _) _
 have FITS:Hid (s.fits cs.length=(rowsOk 4 s.init&&rowsOk 8 s.regs)):=by
  show _=_
  unfold Sta.fits
  rw[decide_eq_true (show(s.init.length:Int)<=s.cells by omega),decide_eq_true (show s.regs.length<=cs.length by omega),Bool.true_and,Bool.true_and]
 have RNG:1<=s.cells/\s.cells<=64/\1<=cs.length/\cs.length<=6:=⟨by omega,by omega,by omega,by omega⟩
 have HNO:Hid (s.fits cs.length=false->s.fault cs=(2, -1)):=hide fun h=>by
  unfold Sta.fault
  exact if_neg (fun h5=>by rw[h] at h5;exact absurd h5.2.2.2.2 (by decide))
 have HYES:Hid (s.fits cs.length=true->s.fault cs=codesFrom 0 cs):=hide fun h=>by
  unfold Sta.fault
  exact if_pos ⟨RNG.1,RNG.2.1,RNG.2.2.1,RNG.2.2.2,h⟩
 obtain⟨F,HF⟩: ∃F,Hid (F=s.fault cs):=⟨_,hide rfl⟩
 rw[<-HF.out]
 clear RNG
 go_enter Tryz.func18,Tryz.ntmps18
 go_wp2_with fail
 rw[<-hW1]
 clear hW1
 go_loopw [5,6] (fun i _ wr=> ∃j:Nat,j<=s.init.length/\i= .int .i64 j/\wr=W1/\Hid (∀(k:Nat) x,k<j->s.init[k]? =some x->rowOk 4 x=true)) (fun i _ _=>s.init.length - (intOf i).toNat)
 case atStart=>exact⟨0,Nat.zero_le _,rfl,rfl,fun k x h=>absurd h (Nat.not_lt_zero _)⟩
 case round =>
  obtain⟨j,hj,rfl,hwr,HJ⟩:=hrel
  have hwr:=hwr.symm
  subst hwr
  by_cases hlt:j<s.init.length
  ·obtain ⟨row,hrow⟩: ∃row,s.init[j]? =some row:=⟨_,List.getElem?_eq_getElem hlt⟩
   obtain⟨b,off,adr,capr,hb',c0,hcr,hnr⟩:=HS.out.init j row hrow
   dsimp only at hb'
   subst hb'
   have ji:(j:Int)<s.init.length:=by omega
   have HRW:=hide (rightWords_any (cap:=capr) (most:=4) hnr (HS.out.ri j row hrow))
   cases hw:rowOk 4 row
   ·have HR:Hid (F=(2, -1)):=by
     show _=_
     rw[HF.out]
     exact HNO.out (by rw[FITS.out,show rowsOk 4 s.init=false from all_hit hrow hw,Bool.false_and])
    rw[hw] at HRW
    clear HL HJ hrow HS hnr FITS HNO HYES
    go_wp2_with fail
    refine HRW.out.mono ?_
    rintro e w1 ⟨rfl,rfl⟩
    go_wp2_with fail
    refine(rbare_any _ _).mono ?_
    rintro e w2 ⟨rfl,hb3⟩
    have HB2:=hide hb3
    clear hb3
    have r0:=keep_cell HB2.out z0
    have r1:=keep_cell HB2.out z1
    have x0:w2.frozen? ⟨w.heap.size+1,0,none⟩=false:=by rw[HB2.out.frozen hzl];exact y0
    have x1:w2.frozen? ⟨w.heap.size+1,1,none⟩=false:=by rw[HB2.out.frozen hzl];exact y1
    have B3:=below_step hba HB2.out
    clear z0 z1 y0 y1 HB2 s0 s1 s2
    go_wp2_with fail
    refine bodyPost_ret (v:= .agg #[.int .i64 2, .int .i64 (-1)]) (by simp only[results,Tryz.results18];go_simp) rfl ⟨by rw[HR.out];rfl,?_⟩
    exact(B3.setCell (Nat.le_succ _) _).setCell (Nat.le_succ _) _
   ·have HR:Hid (∀(k:Nat) x,k<j+1->s.init[k]? =some x->rowOk 4 x=true):=fun k y hk hy=>by
     by_cases e:k=j
     ·subst e;rw[hrow] at hy;cases hy;exact hw
     ·exact HJ.out k y (by omega) hy
    rw[hw] at HRW
    clear HL HJ hrow HS hnr
    go_wp2_with fail
    refine HRW.out.mono ?_
    rintro e w1 ⟨rfl,rfl⟩
    go_wp2
    go_roundw
    case rel=>exact⟨j+1,by omega,by go_num,by first |trivial |rfl,HR⟩
    case measure=>simp[intOf];omega
  ·obtain rfl:j=s.init.length:=by omega
   have HA:Hid (rowsOk 4 s.init=true):=all_done (fun k x hk hx=>HJ.out k x hk hx)
   clear HJ
   go_wp2_with fail
   go_loopw [7,8] (fun i _ wr=> ∃j:Nat,j<=s.regs.length/\i= .int .i64 j/\wr=W1/\Hid (∀(k:Nat) x,k<j->s.regs[k]? =some x->rowOk 8 x=true)) (fun i _ _=>s.regs.length - (intOf i).toNat)
   case atStart=>exact⟨0,Nat.zero_le _,rfl,rfl,fun k x h=>absurd h (Nat.not_lt_zero _)⟩
   case round =>
    obtain⟨j,hj,rfl,hwr,HJ⟩:=hrel
    have hwr:=hwr.symm
    subst hwr
    by_cases hlt:j<s.regs.length
    ·obtain ⟨row,hrow⟩: ∃row,s.regs[j]? =some row:=⟨_,List.getElem?_eq_getElem hlt⟩
     obtain⟨b,off,adr,capr,hb',c0,hcr,hnr⟩:=HS.out.regs j row hrow
     dsimp only at hb'
     subst hb'
     have ji:(j:Int)<s.regs.length:=by omega
     have HRW:=hide (rightWords_any (cap:=capr) (most:=8) hnr (HS.out.rr j row hrow))
     cases hw:rowOk 8 row
     ·have HR:Hid (F=(2, -1)):=by
       show _=_
       rw[HF.out]
       exact HNO.out (by rw[FITS.out,show rowsOk 8 s.regs=false from all_hit hrow hw,Bool.and_false])
      rw[hw] at HRW
      clear HL HJ hrow HS hnr FITS HNO HYES
      go_wp2_with fail
      refine HRW.out.mono ?_
      rintro e w1 ⟨rfl,rfl⟩
      go_wp2_with fail
      refine(rbare_any _ _).mono ?_
      rintro e w2 ⟨rfl,hb3⟩
      have HB2:=hide hb3
      clear hb3
      have r0:=keep_cell HB2.out z0
      have r1:=keep_cell HB2.out z1
      have x0:w2.frozen? ⟨w.heap.size+1,0,none⟩=false:=by rw[HB2.out.frozen hzl];exact y0
      have x1:w2.frozen? ⟨w.heap.size+1,1,none⟩=false:=by rw[HB2.out.frozen hzl];exact y1
      have B3:=below_step hba HB2.out
      clear z0 z1 y0 y1 HB2 s0 s1 s2
      go_wp2_with fail
      refine bodyPost_ret (v:= .agg #[.int .i64 2, .int .i64 (-1)]) (by simp only[results,Tryz.results18];go_simp) rfl ⟨by rw[HR.out];rfl,?_⟩
      exact(B3.setCell (Nat.le_succ _) _).setCell (Nat.le_succ _) _
     ·have HR:Hid (∀(k:Nat) x,k<j+1->s.regs[k]? =some x->rowOk 8 x=true):=fun k y hk hy=>by
       by_cases e:k=j
       ·subst e;rw[hrow] at hy;cases hy;exact hw
       ·exact HJ.out k y (by omega) hy
      rw[hw] at HRW
      clear HL HJ hrow HS hnr
      go_wp2_with fail
      refine HRW.out.mono ?_
      rintro e w1 ⟨rfl,rfl⟩
      go_wp2
      go_roundw
      case rel=>exact⟨j+1,by omega,by go_num,by first |trivial |rfl,HR⟩
      case measure=>simp[intOf];omega
    ·obtain rfl:j=s.regs.length:=by omega
     have HFC:Hid (F=codesFrom 0 cs):=by
      show _=_
      rw[HF.out]
      exact HYES.out (by rw[FITS.out,HA.out,show rowsOk 8 s.regs=true from all_done (fun k x hk hx=>HJ.out k x hk hx)];rfl)
     clear HJ HS HNO HYES FITS HF HA
     go_wp2_with fail
     go_loopw [9] (fun i wr=> ∃j:Nat,j<=cs.length/\i= .int .i64 j/\Hid (Below W1.heap.size W1 wr)/\Hid (∀(t:Nat) L,t<j->cs[t]? =some L->(codeFault L).1=0)) (fun i _=>cs.length - (intOf i).toNat)
     case atStart=>exact⟨0,Nat.zero_le _,rfl,Below.refl _ _,fun k x h=>absurd h (Nat.not_lt_zero _)⟩
     case round=>
      obtain⟨j,hj,rfl,HB,HJ⟩:=hrel
      by_cases hlt:j<cs.length
      ·obtain ⟨L,hLj⟩: ∃L,cs[j]? =some L:=⟨_,List.getElem?_eq_getElem hlt⟩
       obtain⟨b,off,adl,capl,rfl,c0,hcl,hin, -⟩:=(HL.out.below HB.out) j L hLj
       have ji:(j:Int)<cs.length:=by omega
       have HCF:=hide (codeFault_any adl capl L wr hin)
       cases hz:(codeFault L).1 with
       | zero=>
        have HR:Hid (∀(t:Nat) L,t<j+1->cs[t]? =some L->(codeFault L).1=0):=fun k y hk hy=>by
         by_cases e:k=j
         ·subst e;rw[hLj] at hy;cases hy;exact hz
         ·exact HJ.out k y (by omega) hy
        rw[hz,show((0:Nat):Int)=0 from rfl] at HCF
        generalize (codeFault L).2=c2 at*
        clear HJ hLj hin
        go_wp2_with fail
        refine HCF.out.mono ?_
        rintro e w4 ⟨rfl,hb4⟩
        have HB4:=hide ((HB.out.trans (hb4.mono HB.out.size)).alloc (HB.out.trans (hb4.mono HB.out.size)).size (.cells #[.int .i64 0, .int .i64 c2] 43))
        clear HB hb4 HCF
        go_wp2
        go_roundw
        case rel=>exact⟨j+1,by omega,by go_num,HB4,HR⟩
        case measure=>simp[intOf];omega
       | succ k=>
        have HR:Hid (F=((k+1:Nat),(j:Int))):=by
         show _=_
         rw[HFC.out,codesFrom_hit cs 0 j L hLj (by rw[hz];exact Nat.succ_ne_zero k) (fun t L' ht hl=>HJ.out t L' ht hl),hz,Nat.zero_add]
        rw[hz] at HCF
        have kp:0<(((k+1:Nat):Int)):=by omega
        generalize (codeFault L).2=c2 at*
        clear HJ hLj hin hz
        generalize hke:(((k+1:Nat):Int))=ke at*
        go_wp2_with fail
        refine HCF.out.mono ?_
        rintro e w4 ⟨rfl,hb4⟩
        have b4:=HB.out.trans (hb4.mono HB.out.size)
        have r0:=keep_cell b4 z0
        have r1:=keep_cell b4 z1
        have x0:w4.frozen? ⟨w.heap.size+1,0,none⟩=false:=by rw[b4.frozen hzl];exact y0
        have x1:w4.frozen? ⟨w.heap.size+1,1,none⟩=false:=by rw[b4.frozen hzl];exact y1
        have lz:w.heap.size+1<w4.heap.size:=bLt r0
        have B3:=below_step hba b4
        clear z0 z1 y0 y1 s0 s1 s2 HB hb4 b4 HCF HFC
        go_wp2_with fail
        refine bodyPost_ret (v:= .agg #[.int .i64 ke, .int .i64 j]) (by simp only[results,Tryz.results18];go_simp) rfl ⟨by rw[HR.out, <-hke],?_⟩
        first
        |exact((B3.setCell (Nat.le_succ _) _).setCell (Nat.le_succ _) _).alloc (by simp;exact B3.size) _
        |exact((B3.alloc B3.size _).setCell (Nat.le_succ _) _).setCell (Nat.le_succ _) _
      ·obtain rfl:j=cs.length:=by omega
       have HR:Hid (F=(0, -1)):=by
        show _=_
        rw[HFC.out]
        exact codesFrom_none cs 0 (fun t L ht=>HJ.out t L (List.getElem?_eq_some_iff.1 ht).1 ht)
       clear HJ HFC
       go_wp2_with fail
       refine(fine_any _).mono ?_
       rintro e w4 ⟨rfl,hb4⟩
       have HB2:=hide (HB.out.trans (hb4.mono HB.out.size))
       clear HB hb4
       have r0:=keep_cell HB2.out z0
       have r1:=keep_cell HB2.out z1
       have x0:w4.frozen? ⟨w.heap.size+1,0,none⟩=false:=by rw[HB2.out.frozen hzl];exact y0
       have x1:w4.frozen? ⟨w.heap.size+1,1,none⟩=false:=by rw[HB2.out.frozen hzl];exact y1
       have B3:=below_step hba HB2.out
       clear z0 z1 y0 y1 HB2 s0 s1 s2
       go_wp2_with fail
       refine bodyPost_ret (v:= .agg #[.int .i64 0, .int .i64 (-1)]) (by simp only[results,Tryz.results18];go_simp) rfl ⟨by rw[HR.out];rfl,?_⟩
       exact(B3.setCell (Nat.le_succ _) _).setCell (Nat.le_succ _) _
end
section
open Go.RowKit Go.Extern.Stop Go.Stop Go.Extern Go.Maps Go.WideMaps
theorem faultFrom_le: ∀(l:List Ins) (r:List Ins) (j:Nat),(faultFrom l j r).1<=5
 |_,[],_=>Nat.zero_le _
 | l,x::r,j=>by
  unfold faultFrom
  split
  ·exact faultFrom_le l r (j+1)
  ·dsimp only
   unfold insFault
   split
   ·have:=insErr_le x;omega
   ·split
    ·omega
    ·split <;> omega
theorem codeFault_le(l:List Ins):(codeFault l).1<=5:=by
 unfold codeFault
 split
 ·decide
 ·exact faultFrom_le _ _ _
theorem errIs_below{a:Nat->Addr}{f:Nat×Int}{v:Value}{w w':World}{B:Nat}(h:errIs a f v w B)(hb:Below w.heap.size w w'):errIs a f v w' B:=by
 rcases h with h |h |⟨h0,j,N,h1,h2,h3,h4,h5⟩
 ·exact .inl h
 ·exact .inr (.inl h)
 ·exact .inr (.inr ⟨h0,j,N,h1,h2,h3,keep_cell hb h4,keep_cell hb h5⟩)
theorem faulted_any(a:Nat->Addr)(f:Nat×Int)(v:Value)(B:Nat)(w:World)(hE:Env a w)(hf:f.1<=5)(h:errIs a f v w B):
  Calls Tryz.prog 19 #[v, .agg #[.int .i64 f.1, .int .i64 f.2]] w fun e w'=>e= .returned (.bool true)/\Below w.heap.size w w':=by
 obtain⟨f1,f2⟩:=f
 dsimp only at*
 obtain⟨W0,hW0⟩: ∃W0,W0=w.alloc (.cells #[.int .i64 f1, .int .i64 f2] 43):=⟨_,rfl⟩
 have B0:Below w.heap.size w W0:=by rw[hW0];exact bRf.alloc nL _
 have q0:W0.cell? ⟨w.heap.size,0,none⟩=some (.int .i64 f1):=by rw[hW0];simp
 have q1:W0.cell? ⟨w.heap.size,1,none⟩=some (.int .i64 f2):=by rw[hW0];simp
 have E0:=hE.below B0.block
 have h:=errIs_below h B0
 rcases h with⟨h0,rfl⟩ |⟨h0,h1,rfl⟩ |⟨h0,j,N,h1,h2,rfl,h4,h5⟩
 ·dsimp only at h0
  subst h0
  have HC:=hide (code_nil W0)
  rw[show((0:Nat):Int)=0 from rfl] at hW0 q0 ⊢
  go_enter Tryz.func19,Tryz.ntmps19
  go_wp2_with fail
  rw[<-hW0]
  refine HC.out.mono ?_
  rintro e w1 ⟨rfl,rfl⟩
  go_wp2_with fail
  refine bodyPost_ret (v:= .bool true) (by simp only[results,Tryz.results19];go_simp) rfl ⟨rfl,hW0 ▸ B0⟩
 ·dsimp only at h0 h1
  subst h1
  obtain⟨k,rfl⟩: ∃k,f1=k+1:=⟨f1 - 1,by omega⟩
  have HC:=hide (code_sent a k (by omega) W0 E0)
  have hk:((k+1:Nat):Int)=k+1:=by omega
  rw[hk] at HC hW0 q0 ⊢
  rw[show xval a (k+1)=errAt (a k) from rfl]
  go_enter Tryz.func19,Tryz.ntmps19
  go_wp2_with fail
  rw[<-hW0]
  refine HC.out.mono ?_
  rintro e w1 ⟨rfl,hb1⟩
  have hk0: ¬((k:Int)+1=0):=by omega
  replace q0:=keep_cell hb1 q0
  replace q1:=keep_cell hb1 q1
  go_wp2_with fail
  refine bodyPost_ret (v:= .bool true) (by simp only[results,Tryz.results19];go_simp) rfl ⟨rfl,below_step B0 hb1⟩
 ·dsimp only at h0 h1
  subst h1
  obtain⟨k,rfl⟩: ∃k,f1=k+1:=⟨f1 - 1,by omega⟩
  have HC:=hide (code_fault a k (by omega) N 0 j W0 E0 h4 h5)
  have hk:((k+1:Nat):Int)=k+1:=by omega
  rw[hk] at HC hW0 q0 ⊢
  go_enter Tryz.func19,Tryz.ntmps19
  go_wp2_with fail
  rw[<-hW0]
  refine HC.out.mono ?_
  rintro e w1 ⟨rfl,hb1⟩
  have hk0: ¬((k:Int)+1=0):=by omega
  replace q0:=keep_cell hb1 q0
  replace q1:=keep_cell hb1 q1
  go_wp2_with fail
  refine bodyPost_ret (v:= .bool true) (by simp only[results,Tryz.results19];go_simp) rfl ⟨rfl,below_step B0 hb1⟩
end
end Go.Proofs.YtdpmnlbnlnmjbaaGreatDoor
