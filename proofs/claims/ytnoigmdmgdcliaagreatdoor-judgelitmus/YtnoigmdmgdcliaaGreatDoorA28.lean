import Derived.Test.YtnoigmdmgdcliaaGreatDoorA23
import Derived.Test.YtnoigmdmgdcliaaGreatDoorA27
import Derived.Test.YtnoigmdmgdcliaaGreatDoorA25
namespace Go.Proofs.YtnoigmdmgdcliaaGreatDoor
set_option maxRecDepth 100000
set_option maxHeartbeats 8000000
section
open Go.RowKit
theorem wd_zero:Wd 0:=⟨by decide,by decide⟩
theorem rowAt_wd{R:List (List Int)}{n:Nat}(h:rowsOk n R=true)(t r:Nat):Wd (rowAt R t r):=by
 unfold rowAt
 cases ht:R[t]? with
 | none=>
  have e:R.getD t []=[]:=by rw[List.getD_eq_getElem?_getD,ht];rfl
  rw[e];exact wd_zero
 | some row=>
  have e:R.getD t []=row:=by rw[List.getD_eq_getElem?_getD,ht];rfl
  rw[e]
  cases hr:row[r]? with
  |none=>rw[List.getD_eq_getElem?_getD,hr];exact wd_zero
  |some v=>rw[List.getD_eq_getElem?_getD,hr];exact(rowOk_at h ht).2 r v hr
theorem Sta.mach_ok{s:Sta}{n:Nat}(h:s.fits n=true)(h2:s.cells<=64)(hn:n<=6):MkOk n 1 (s.mach n):=by
 obtain⟨-,f2, -,f4⟩:=Sta.fits_of h
 refine⟨⟨fun t _ x hx=>?_,fun t _=>?_,fun c k=>?_,fun c=>?_,?_,hn⟩,rfl,fun t r=>rowAt_wd f4 t r,Nat.zero_le _,Nat.zero_le _,fun _=>Nat.zero_le _⟩
 ·exact absurd hx List.not_mem_nil
 ·exact Nat.zero_le _
 ·show Wd (if _ then rowAt s.init c k else 0)
  split
  ·exact rowAt_wd f2 c k
  ·exact wd_zero
 ·show(if c<s.init.length then 1 else 0)<=1
  split <;> decide
 ·show s.cells.toNat<=64
  omega
theorem Sta.fault_fits{s:Sta}{cs:List (List Ins)}(h:(s.fault cs).1=0):s.fits cs.length=true/\s.cells<=64/\cs.length<=6/\1<=s.cells:=by
 unfold Sta.fault at h
 split at h
 ·rename_i h0;exact⟨h0.2.2.2.2,h0.2.1,h0.2.2.2.1,h0.1⟩
 ·cases h
end
section
open Go.RowKit Go.Extern.Stop Go.Stop Go.Extern Go.Maps Go.WideMaps Go.Sort
def SeePost (a:Nat->Addr) (cs:List (List Ins)) (m0:Mk) (mo:Int) (se:Seer) (X0:Nat->Prop) (w:World) (e:Ending) (w':World):Prop:=
 Turns (fun k _=>X0 k) w w'/\ ∃f S,(∃X,se.I X S.L w'/\ ∀k,X k->X0 k∨w.heap.size<=k)/\
  ((searchO cs mo (2*cs.length) f (firstS cs m0)=(.go,S)/\S.ms=[]/\e= .returned (.tuple #[toldV S.s S.e false (.slice none 0 0), .nilIface]))∨(searchO cs mo (2*cs.length) f (firstS cs m0)=(.bound,S)/\e= .returned (.tuple #[toldV 0 0 false (.slice none 0 0),errAt (a 1)]))∨
   (∃x l,searchO cs mo (2*cs.length) f (firstS cs m0)=(.fault x,S)/\Back S.E x l/\0<l.length/\ ∃v,e= .returned (.tuple #[toldV S.s S.e true v, .nilIface])/\numsOwn w' w.heap.size v l.reverse))
theorem all_run {a:Nat->Addr} {cs:List (List Ins)} {s:Sta} {p:MkPl} {ad:Option Addr} {cap cb:Nat} {mo:Int} {se:Seer} {X0:Nat->Prop} {w2 w4:World} (so:SeerOk a cs se) (hX: ∀k,X0 k->se.bx=some k/\k<cb) (hI:se.I X0 [] w2) (hlo:se.lo<=cb) (hm:MkAt a cs p (s.mach cs.length) w2) (hR:Right cs) (hgood:(s.fault cs).1=0) (hmo:1<=mo/\mo<=60000) (hcb:cb+1<p.B) (q0:w2.cell? ⟨cb,0,none⟩=some (.slice ad cs.length cap)) (q1:w2.cell? ⟨cb+1,0,none⟩=some se.v)
  (b4:Below w2.heap.size w2 w4) (ht:ToldAt w2.heap.size 0 0 w4) (hws:WsAt (w2.heap.size+1+1) (2*(cs.length:Int)) mo (w2.heap.size+1) (.slice none 0 0) (.func (.func 75) #[] #[.pointer (some ⟨cb,0,none⟩), .pointer (some ⟨w2.heap.size,0,none⟩), .pointer (some ⟨cb+1,0,none⟩)]) w4) (hfo:FoundAt w4 (w2.heap.size+1) []):
  Calls Tryz.prog 78 #[.pointer (some ⟨w2.heap.size+1+1,0,none⟩), .pointer (some ⟨p.b,0,none⟩)] w4 fun e w'=>Hid (RnPost a cs (s.mach cs.length) ⟨w2.heap.size+1+1,w2.heap.size+1,w2.heap.size,cb,ad,cap,2*(cs.length:Int),mo,se⟩ X0 w4 (2*cs.length) e w'):=by
 obtain⟨f1,f2,f3,f4⟩:=Sta.fault_fits hgood
 have ok:=Sta.mach_ok f1 f2 f3
 have hlt:=hm.lt
 have hB:=hm.hB
 have HXO: ∀k,(sq0 X0).X k->k≠cb/\k≠cb+1/\ ¬SrPl.fp0 ⟨w2.heap.size+1+1,w2.heap.size+1,w2.heap.size,cb,ad,cap,2*(cs.length:Int),mo,se⟩ (sq0 X0).v k:=fun k hk=>by
  have h2:=(hX k hk).2
  refine⟨by omega,by omega,fun hf=>?_⟩
  rcases hf with e |e |e |e
  ·have e:k=w2.heap.size+1+1:=e
   omega
  ·have e:k=w2.heap.size+1:=e
   omega
  ·have e:k=w2.heap.size:=e
   omega
  ·cases e
 have SR:SrAt p.B cs.length ⟨w2.heap.size+1+1,w2.heap.size+1,w2.heap.size,cb,ad,cap,2*(cs.length:Int),mo,se⟩ [] (sq0 X0) [] 0 0 w4:=
  ⟨hws,hfo,QAt.nil _ _,ht,⟨keep_cell b4 q0,keep_cell b4 q1⟩,by show w2.heap.size+1+1≠w2.heap.size+1;omega,by show w2.heap.size+1+1≠w2.heap.size;omega,by show w2.heap.size+1≠w2.heap.size;omega,hcb,by show p.B<=w2.heap.size+1+1;omega,by show p.B<=w2.heap.size+1;omega,by show p.B<=w2.heap.size;omega,(fun k hk=>by cases hk),so.fr,so.fr.keep hI (Turns.of_below (S:=fun _ _=>False) b4) (fun _ _ h=>h.elim),HXO,fun k hk=> .inr (hX k hk).1,by show se.lo<=p.B;omega⟩
 refine wrun_any (K:=1) ⟨hm.below b4,ok,hR,by decide⟩ ⟨SR,rfl,fun x hx=>absurd hx List.not_mem_nil,List.Pairwise.nil,so,rfl,rfl⟩ (fun k hp hk=>?_) (by show 2*(cs.length:Int)=((2*cs.length:Nat):Int);omega) (by omega) hR.some' hmo (by decide) (fun d m' hd hr=>hr.key ok (fun t x hx=>?_) hR (by omega))
 ·have :=hm.fp_lt hp
  rcases hk with(e |e |e |e) |e
  ·have e:k=w2.heap.size+1+1:=e
   omega
  ·have e:k=w2.heap.size+1:=e
   omega
  ·have e:k=w2.heap.size:=e
   omega
  ·cases e
  ·have:=(hX k e).2
   have:=hm.fp_ge hp
   omega
 ·have e:(s.mach cs.length).mem.waits t=[]:=rfl
  rw[e] at hx;cases hx
end
section
open Go.RowKit Go.Extern.Stop Go.Stop Go.Extern Go.Maps Go.WideMaps Go.Sort
theorem wsee_search {se:Seer} {X0:Nat->Prop} (hsv:se.v.oneCell'=true) {a:Nat->Addr} {s:Sta} {ai ar ad:Option Addr} {ci cr cap:Nat} {cs:List (List Ins)} {w:World} (mo:Int) (so:SeerOk a cs se) (hX: ∀k,X0 k->se.bx=some k) (hI:se.I X0 [] w) (hlo:se.lo<=w.heap.size) (hE:Env a w) (hs:StaAt s ⟨ai,ci,ar,cr⟩ w) (hl:codesAt ad cs w) (hsz: ∀(t:Nat) L,cs[t]? =some L-> ∀(i:Nat) x,L[i]? =some x->x.to.size<=maxLen) (hgood:(s.fault cs).1=0) (hmo:1<=mo/\mo<=60000):
  Calls Tryz.prog 37 #[.agg #[.int .i64 s.cells, .slice ai s.init.length ci, .slice ar s.regs.length cr], .slice ad cs.length cap, .int .i64 mo,se.v] w fun e w'=>Hid (SeePost a cs (s.mach cs.length) mo se X0 w e w'):=by
 obtain⟨sv,hse⟩: ∃sv,se.v=sv:=⟨_,rfl⟩
 rw[hse] at hsv ⊢
 have HN:=hide (fun w1 (hb:Below w.heap.size w w1)=>new_any (cap:=cap) (hE.below hb.block) (hs.below hb) (hl.below hb) hsz)
 have HIw:=hide hI
 have HSO:=hide so
 have HX:=hide hX
 have hxl: ∀k,X0 k->k<w.heap.size:=fun k hk=>so.fr.lt hI k hk
 clear hE hs hl hI so hX
 have hmf: ∀(fn:Fn) (first cap:Array Value) (w:World),(Instr.makeFunc fn first cap).run Tryz.prog w= .ok (.func fn first cap) w:=fun _ _ _ _=>rfl
 have hn0: ∀w:World,(binOp .neq 23 (.slice Option.none 0 0) (.slice Option.none 0 0)).run Tryz.prog w= .ok (.bool false) w:=fun w=>run_neq_slice_nil_any w _ _ _ _ _ _ _ Tryz.underlying23
 have hn1: ∀(w:World) (ad:Addr) (n c:Nat),(binOp .neq 23 (.slice (some ad) n c) (.slice Option.none 0 0)).run Tryz.prog w= .ok (.bool true) w:=fun w ad n c=>run_neq_slice_nil_any w _ _ _ _ _ _ _ Tryz.underlying23
 go_enter Tryz.func37,Tryz.ntmps37
 go_wp2_with fail
 generalize hw1:(((w.alloc _).alloc _).alloc _).alloc _=w1
 have b1:Below w.heap.size w w1:=by rw[<-hw1];exact((((Below.refl _ w).alloc nL _).alloc (by simp) _).alloc (by simp;omega) _).alloc (by simp;omega) _
 have hsz3:w.heap.size+3=(((w.alloc (.cells #[.int .i64 s.cells, .slice ai s.init.length ci, .slice ar s.regs.length cr] 40)).alloc (.cells #[.slice ad cs.length cap] 41)).alloc (.cells #[sv] 104)).heap.size:=by simp
 have t0:w1.cell? ⟨w.heap.size+3,0,none⟩=some (.int .i64 0):=by rw[<-hw1,hsz3,World.cell?_alloc_new];rfl
 have t1:w1.cell? ⟨w.heap.size+3,1,none⟩=some (.int .i64 0):=by rw[<-hw1,hsz3,World.cell?_alloc_new];rfl
 have t2:w1.cell? ⟨w.heap.size+3,2,none⟩=some (.bool false):=by rw[<-hw1,hsz3,World.cell?_alloc_new];rfl
 have t3:w1.cell? ⟨w.heap.size+3,3,none⟩=some (.slice none 0 0):=by rw[<-hw1,hsz3,World.cell?_alloc_new];rfl
 have z: ∀o,w1.frozen? ⟨w.heap.size+3,o,none⟩=false:=fun o=>by rw[<-hw1,hsz3];exact World.frozen?_alloc_new _ _ _ _
 have hlt:=bLt t0
 have q0:w1.cell? ⟨w.heap.size+1,0,none⟩=some (.slice ad cs.length cap):=by
  rw[<-hw1]
  refine keep_cell (bRf.alloc nL _) (keep_cell (bRf.alloc nL _) ?_)
  rw[show w.heap.size+1=(w.alloc (.cells #[.int .i64 s.cells, .slice ai s.init.length ci, .slice ar s.regs.length cr] 40)).heap.size by simp,World.cell?_alloc_new];rfl
 have q1:w1.cell? ⟨w.heap.size+1+1,0,none⟩=some sv:=by
  rw[<-hw1]
  refine keep_cell (bRf.alloc nL _) ?_
  rw[show w.heap.size+1+1=((w.alloc (.cells #[.int .i64 s.cells, .slice ai s.init.length ci, .slice ar s.regs.length cr] 40)).alloc (.cells #[.slice ad cs.length cap] 41)).heap.size by simp,World.cell?_alloc_new];rfl
 clear hw1 hsz3
 refine(HN.out w1 b1).mono ?_
 rintro e w2 hp
 obtain⟨hb2,hres⟩:=hp.out
 rcases hres with⟨-,hR,p,rfl,hm2,hpB,hpv⟩ |⟨h0, -⟩
 rotate_left
 ·exact absurd hgood h0
 replace t0:=keep_cell hb2 t0
 replace t1:=keep_cell hb2 t1
 replace t2:=keep_cell hb2 t2
 replace t3:=keep_cell hb2 t3
 have z0:w2.frozen? ⟨w.heap.size+3,0,none⟩=false:=(hb2.frozen hlt).trans (z 0)
 have z1:w2.frozen? ⟨w.heap.size+3,1,none⟩=false:=(hb2.frozen (p:=⟨w.heap.size+3,1,none⟩) hlt).trans (z 1)
 have z2:w2.frozen? ⟨w.heap.size+3,2,none⟩=false:=(hb2.frozen (p:=⟨w.heap.size+3,2,none⟩) hlt).trans (z 2)
 have z3:w2.frozen? ⟨w.heap.size+3,3,none⟩=false:=(hb2.frozen (p:=⟨w.heap.size+3,3,none⟩) hlt).trans (z 3)
 replace q0:=keep_cell hb2 q0
 replace q1:=keep_cell hb2 q1
 have B2:=below_step b1 hb2
 have hR6:=hR.few
 have hR1:=hR.some'
 have c6:(cs.length:Int)<=6:=by omega
 have hm1: ¬mo<1:=by omega
 have hm6: ¬60000<mo:=by omega
 have hq:w.heap.size+1<w2.heap.size:=bLt q0
 have hw3:Hid (w2.heap.size<(w2.alloc (.cells #[.int .i64 0, .int .i64 0, .bool false, .slice none 0 0] 100)).heap.size):=hide (by simp)
 have HNS:=hide (newSearch_any (2*(cs.length:Int)) mo (.func (.func 75) #[] #[.pointer (some ⟨w.heap.size+1,0,none⟩), .pointer (some ⟨w2.heap.size,0,none⟩), .pointer (some ⟨w.heap.size+1+1,0,none⟩)]) (w2.alloc (.cells #[.int .i64 0, .int .i64 0, .bool false, .slice none 0 0] 100)) ⟨_,_,_,rfl⟩)
 clear hp z HN b1
 go_wp2_with fail
 refine HNS.out.mono ?_
 rintro e w4 ⟨rfl,hws,hfo,hb4⟩
 have e3:(w2.alloc (.cells #[.int .i64 0, .int .i64 0, .bool false, .slice none 0 0] 100)).heap.size=w2.heap.size+1:=by simp
 rw[e3] at hws hfo
 have b3:Below w2.heap.size w2 (w2.alloc (.cells #[.int .i64 0, .int .i64 0, .bool false, .slice none 0 0] 100)):=bRf.alloc nL _
 have b4:Below w2.heap.size w2 w4:=below_step b3 hb4
 have HT0:ToldAt w2.heap.size 0 0 w4:=⟨keep_cell hb4 (by rw[World.cell?_alloc_new];rfl),keep_cell hb4 (by rw[World.cell?_alloc_new];rfl),fun o _=>(hb4.frozen (p:=⟨w2.heap.size,o,none⟩) (by show w2.heap.size<_;omega)).trans (World.frozen?_alloc_new _ _ _ _),keep_cell hb4 (by rw[World.cell?_alloc_new];rfl),keep_cell hb4 (by rw[World.cell?_alloc_new];rfl)⟩
 rw[<-hse] at q1
 have HRun:=hide (all_run HSO.out (fun k hk=>⟨HX.out k hk,by have:=hxl k hk;show k<w.heap.size+1;omega⟩) (HSO.out.fr.keep HIw.out (Turns.of_below (S:=fun _ _=>False) B2) (fun _ _ h=>h.elim)) (by show se.lo<=w.heap.size+1;omega) hm2 hR hgood hmo (by omega) q0 q1 b4 HT0 hws hfo)
 have hq3:w.heap.size+1+1+1<w2.heap.size:=bLt t0
 have hfpb: ∀k,(⟨w2.heap.size+1+1,w2.heap.size+1,w2.heap.size,w.heap.size+1,ad,cap,2*(cs.length:Int),mo,se⟩:SrPl).fp (sq0 X0) k->w2.heap.size<=k∨X0 k:=fun k hk=>by
  rcases hk with(e |e |e |e) |e
  ·have e:k=w2.heap.size+1+1:=e
   exact .inl (by omega)
  ·have e:k=w2.heap.size+1:=e
   exact .inl (by omega)
  ·have e:k=w2.heap.size:=e
   exact .inl (by omega)
  ·cases e
  ·exact .inr e
 have s4:=b4.size
 have hl4:w2.heap.size<w4.heap.size:=HT0.lt
 have hw2:=B2.size
 have HB:=hide (fun w5 (t:Turns (fun k _=>(⟨w2.heap.size+1+1,w2.heap.size+1,w2.heap.size,w.heap.size+1,ad,cap,2*(cs.length:Int),mo,se⟩:SrPl).fp (sq0 X0) k) w4 w5)=>show(∀(o:Nat) (v:Value),w2.cell? ⟨w.heap.size+3,o,none⟩=some v->w5.cell? ⟨w.heap.size+3,o,none⟩=some v)/\(∀o:Nat,w2.frozen? ⟨w.heap.size+3,o,none⟩=false->w5.frozen? ⟨w.heap.size+3,o,none⟩=false)/\Turns (fun k _=>X0 k) w w5 from
  have hn: ∀o:Nat, ¬(fun k (_:Nat)=>(⟨w2.heap.size+1+1,w2.heap.size+1,w2.heap.size,w.heap.size+1,ad,cap,2*(cs.length:Int),mo,se⟩:SrPl).fp (sq0 X0) k) (w.heap.size+3) o:=fun o hf=>by
   rcases hfpb _ hf with e |e
   ·omega
   ·have:=hxl _ e
    omega
  ⟨fun o v hc=>t.keep (keep_cell b4 hc) (hn o),fun o hz=>by rw[t.frozen _ _ (by omega) (hn o),b4.frozen (p:=⟨w.heap.size+3,o,none⟩) hq3];exact hz,
   ((Turns.of_below B2).trans (Turns.of_below (below_step bRf b4))).then t (fun k _ hk hf=>(hfpb k hf).elim (fun e=>by omega) id)⟩)
 clear HNS hw3 HT0 hws hfo hb4 b3 e3 hm2 hpB hpv q0 q1 b4 hfpb
 go_wp2_with fail
 refine HRun.out.mono ?_
 rintro e w5 hp
 obtain⟨t5,f,S,ht,⟨X5,hi5,hx5⟩,hres⟩:=hp.out
 obtain⟨hc5,hz5,hT5⟩:=HB.out w5 t5
 have u0:=hc5 _ _ t0
 have u1:=hc5 _ _ t1
 have u2:=hc5 _ _ t2
 have u3:=hc5 _ _ t3
 have y0:=hz5 _ z0
 have y1:=hz5 _ z1
 have y2:=hz5 _ z2
 have y3:=hz5 _ z3
 have T5:=hide hT5
 have c0:=ht.states
 have c1:=ht.ends
 have c2:=ht.fault
 have c3:=ht.way
 have x2:=ht.fz 2 (by decide)
 have x3:=ht.fz 3 (by decide)
 have hle:w.heap.size<=w.heap.size+1+1+1:=by omega
 have hle2:w.heap.size<=w2.heap.size:=by omega
 have hle4:w.heap.size<=w4.heap.size:=Nat.le_trans hle2 s4
 dsimp only at c0 c1 c2 c3 x2 x3
 have HI5:=hide (fun w' (t:Turns (fun k _=>k=w2.heap.size∨k=w.heap.size+1+1+1) w5 w')=>show ∃X,se.I X S.L w'/\ ∀k,X k->X0 k∨w.heap.size<=k from
  ⟨X5,HSO.out.fr.keep hi5 t (fun k _ e=>⟨fun hx=>by
   rcases hx5 k hx with e2 |e2
   ·have:=hxl k e2
    omega
   ·omega,by omega⟩),fun k hk=>(hx5 k hk).imp id (fun e=>Nat.le_trans hle4 e)⟩)
 clear t0 t1 t2 t3 z0 z1 z2 z3 HRun HB hp ht t5 hc5 hz5 hT5 B2 hi5 hx5 HSO HX HIw
 rcases hres with⟨h1,h2,rfl⟩ |⟨h1,rfl⟩ |⟨x,l,h1,h2,h3,v,rfl,hv⟩
 ·go_wp2_with fail
  refine bodyPost_ret (v:= .tuple #[toldV S.s S.e false (.slice none 0 0), .nilIface]) (by simp only[results,Tryz.results37];go_simp;rfl) rfl ?_
  exact hide ⟨(((((T5.out.setNew _ hle2).setNew _ hle2).setNew _ hle).setNew _ hle).setNew _ hle).setNew _ hle,f,S,HI5.out _ (((((((Turns.refl _ _).setCell _ (.inl rfl)).setCell _ (.inl rfl)).setCell _ (.inr rfl)).setCell _ (.inr rfl)).setCell _ (.inr rfl)).setCell _ (.inr rfl)), .inl ⟨h1,h2,rfl⟩⟩
 ·go_wp2_with fail
  refine bodyPost_ret (v:= .tuple #[toldV 0 0 false (.slice none 0 0),errAt (a 1)]) (by simp only[results,Tryz.results37];go_simp;rfl) rfl ?_
  exact hide ⟨(((T5.out.setNew _ hle).setNew _ hle).setNew _ hle).setNew _ hle,f,S,HI5.out _ (((((Turns.refl _ _).setCell _ (.inr rfl)).setCell _ (.inr rfl)).setCell _ (.inr rfl)).setCell _ (.inr rfl)), .inr (.inl ⟨h1,rfl⟩)⟩
 ·obtain ⟨av,cv,rfl, -⟩:=numsOwn_open hv (by rw[List.length_reverse];exact h3)
  have HV:=hide hv
  have hob:w4.heap.size<=av.block:=(World.ownsRow.lt hv av.block rfl).1
  have hob2:w2.heap.size<av.block∨w2.heap.size=av.block:=by omega
  clear hv
  go_wp2_with fail
  refine bodyPost_ret (v:= .tuple #[toldV S.s S.e true (.slice (some av) l.reverse.length cv), .nilIface]) (by simp only[results,Tryz.results37];go_simp;rfl) rfl ?_
  refine hide ⟨(((((T5.out.setNew _ hle2).setNew _ hle2).setNew _ hle).setNew _ hle).setNew _ hle).setNew _ hle,f,S,HI5.out _ (((((((Turns.refl _ _).setCell _ (.inl rfl)).setCell _ (.inl rfl)).setCell _ (.inr rfl)).setCell _ (.inr rfl)).setCell _ (.inr rfl)).setCell _ (.inr rfl)), .inr (.inr ⟨x,l,h1,h2,h3,_,rfl,?_⟩)⟩
  ·refine numsOwn_mono (base:=w4.heap.size) (ownsRow_block HV.out fun b hb=>?_) hle4
   obtain rfl:av.block=b:=by cases hb;rfl
   have n1:av.block≠w2.heap.size:=by omega
   have n2:av.block≠w.heap.size+1+1+1:=by omega
   rw[Below.heap_setCell _ _ _ _ n2,Below.heap_setCell _ _ _ _ n2,Below.heap_setCell _ _ _ _ n2,Below.heap_setCell _ _ _ _ n2,Below.heap_setCell _ _ _ _ n1,Below.heap_setCell _ _ _ _ n1]
end
section
open Go.RowKit Go.Extern.Stop Go.Stop Go.Extern Go.Maps Go.WideMaps Go.Sort
def rowOf(n reg:Nat)(m:Mk):List Int:=(List.range n).map fun t=>m.regs t reg
def endRows(cs:List (List Ins))(reg:Nat)(R:List Mk):List (List Int):=(R.filter fun m=>endTo cs m cs.length).map (rowOf cs.length reg)
theorem endRows_more(cs:List (List Ins))(reg:Nat)(R:List Mk)(m:Mk):endRows cs reg (R++[m])=if endTo cs m cs.length=true then endRows cs reg R++[rowOf cs.length reg m] else endRows cs reg R:=by
 unfold endRows
 rw[List.filter_append]
 cases h:endTo cs m cs.length <;> simp[h]
structure RwAt(base:Nat)(rows:List (List Int))(v:Value)(us:List Value)(w:World):Prop where
 own:w.ownsRow base 23 1 v rows.length us
 el: ∀(i:Nat) row,rows[i]? =some row-> ∃u,us[i]? =some u/\numsOwn w base u row/\ ∀b,u.ownBlock=some b->v.ownBlock≠some b
def RwX(v:Value)(us:List Value)(k:Nat):Prop:=v.ownBlock=some k∨ ∃u∈us,u.ownBlock=some k
section
variable {base:Nat} {rows:List (List Int)} {v:Value} {us:List Value} {w w':World}
theorem RwAt.len(h:RwAt base rows v us w):us.length=rows.length:=by have:=h.own.1;omega
theorem RwAt.el'(h:RwAt base rows v us w){u:Value}(hu:u∈us): ∃row,numsOwn w base u row/\ ∀b,u.ownBlock=some b->v.ownBlock≠some b:=by
 obtain⟨i,hi⟩:=List.getElem?_of_mem hu
 have hl:=(List.getElem?_eq_some_iff.1 hi).1
 rw[h.len] at hl
 obtain⟨u',h1,h2,h3⟩:=h.el i _ (List.getElem?_eq_getElem hl)
 rw[hi] at h1
 cases h1
 exact⟨_,h2,h3⟩
theorem RwAt.lt(h:RwAt base rows v us w){k:Nat}(hk:RwX v us k):base<=k/\k<w.heap.size:=by
 rcases hk with e |⟨u,hu,e⟩
 ·exact h.own.lt k e
 ·obtain⟨row,h1, -⟩:=h.el' hu
  exact World.ownsRow.lt h1 k e
theorem RwAt.block(h:RwAt base rows v us w)(hb: ∀k,RwX v us k->w'.heap[k]? =w.heap[k]?):RwAt base rows v us w':=
 ⟨ownsRow_block h.own fun k hk=>hb k (.inl hk),fun i row hi=>by
  obtain⟨u,h1,h2,h3⟩:=h.el i row hi
  exact⟨u,h1,ownsRow_block h2 fun k hk=>hb k (.inr ⟨u,List.mem_of_getElem? h1,hk⟩),h3⟩⟩
theorem RwAt.below(h:RwAt base rows v us w)(k:Below w.heap.size w w'):RwAt base rows v us w':=h.block fun b hb=>k.block b (h.lt hb).2
theorem RwAt.more (h:RwAt base rows v us w) {u:Value} {row:List Int} (hu:numsOwn w base u row) (hne: ∀b,u.ownBlock=some b->v.ownBlock≠some b) {v':Value} {N:Nat} (hN:w.heap.size<=N)
  (ho:w'.ownsRow base 23 1 v' (rows.length+1) (us++[u])) (hg:w.grownBy w' v.ownBlock) (hloc:v'.ownBlock=v.ownBlock∨v'.ownBlock=some N):RwAt base (rows++[row]) v' (us++[u]) w':=by
 have nb: ∀b,b<w.heap.size->v.ownBlock≠some b->v'.ownBlock≠some b:=fun b hb hne e=>by
  rcases hloc with h1 |h1
  ·rw[h1] at e;exact hne e
  ·rw[h1] at e
   have:=Option.some.inj e
   omega
 have kn: ∀{u:Value} {row:List Int},numsOwn w base u row->(∀b,u.ownBlock=some b->v.ownBlock≠some b)->numsOwn w' base u row/\ ∀b,u.ownBlock=some b->v'.ownBlock≠some b:=fun {u row} h1 h2=>by
  refine⟨World.ownsRow.kept h1 hg ?_,fun b e=>nb b (World.ownsRow.lt h1 b e).2 (h2 b e)⟩
  cases hr:u.ownBlock with
  |none=>exact .inl rfl
  |some b=>exact .inr fun e=>h2 b hr e.symm
 refine⟨by rw[List.length_append];exact ho,fun i row' hi=>?_⟩
 by_cases hlt:i<rows.length
 ·rw[List.getElem?_append_left hlt] at hi
  obtain⟨x,h1,h2,h3⟩:=h.el i row' hi
  exact⟨x,by rw[List.getElem?_append_left (by rw[h.len];exact hlt)];exact h1,(kn h2 h3).1,(kn h2 h3).2⟩
 ·rw [List.getElem?_append_right (by omega)] at hi
  have hi0:i=rows.length:=by
   have:=(List.getElem?_eq_some_iff.1 hi).1
   simp at this
   omega
  subst hi0
  rw[Nat.sub_self] at hi
  cases hi
  exact⟨u,by rw[List.getElem?_append_right (by rw[h.len];exact Nat.le_refl _),h.len,Nat.sub_self];rfl,(kn hu hne).1,(kn hu hne).2⟩
end
structure OcI(a:Nat->Addr)(cs:List (List Ins))(ad:Option Addr)(cap reg cb gb rb:Nat)(X:Nat->Prop)(L:List Mk)(w:World):Prop where
 code:w.cell? ⟨cb,0,none⟩=some (.slice ad cs.length cap)
 rg:w.cell? ⟨gb,0,none⟩=some (.int .i64 reg)
 box:BoxAt a rb w
 fz:w.frozen? ⟨rb,0,none⟩=false
 ex: ∃v us,w.cell? ⟨rb,0,none⟩=some v/\RwAt (rb+1) (endRows cs reg L) v us w/\ ∀k,X k↔(k=rb∨RwX v us k)
def ocSeer(n:Nat)(a:Nat->Addr)(cs:List (List Ins))(ad:Option Addr)(cap reg cb gb rb:Nat):Seer:=⟨.func (.func n) #[] #[.pointer (some ⟨rb,0,none⟩), .pointer (some ⟨cb,0,none⟩), .pointer (some ⟨gb,0,none⟩)],OcI a cs ad cap reg cb gb rb,some rb,rb+1⟩
theorem BoxAt.keep{a:Nat->Addr}{k:Nat}{w w':World}{T:Nat->Nat->Prop}(h:BoxAt a k w)(t:Turns T w w')(hT: ∀j o,T j o->k<j):BoxAt a k w':=by
 obtain⟨s,n,c,e⟩:=h.c0
 obtain⟨W,h1,h2,h3⟩:=h.env
 exact⟨⟨s,n,c,t.keep e (fun hs=>by have:=hT _ _ hs;simp at this)⟩,fun o ho=>by rw[t.cell _ _ h.lt (fun hs=>by have:=hT _ _ hs;omega)];exact h.c1 o ho,⟨W,h1,h2,h3.trans (t.below h3.size (fun j o hj hs=>by have:=hT _ _ hs;omega))⟩⟩
theorem ocFr{n:Nat}{a:Nat->Addr}{cs:List (List Ins)}{ad:Option Addr}{cap reg cb gb rb:Nat}(hcb:cb<=rb)(hgb:gb<=rb):SeerFr (ocSeer n a cs ad cap reg cb gb rb) where
 lt {X L w} h k hk:=by
  obtain⟨v,us,h1,h2,h3⟩:=h.ex
  rcases(h3 k).1 hk with rfl |e
  ·exact h.box.lt
  ·exact(h2.lt e).2
 keep {X L w w' T} h t hT:=by
  have hlo: ∀j o,T j o->rb<j:=fun j o hs=>(hT j o hs).2
  obtain⟨v,us,h1,h2,h3⟩:=h.ex
  refine⟨t.keep h.code (fun hs=>by have:=hlo _ _ hs;omega),t.keep h.rg (fun hs=>by have:=hlo _ _ hs;omega),h.box.keep t hlo,by rw[t.frozen _ _ h.box.lt (fun hs=>by have:=hlo _ _ hs;omega)];exact h.fz,v,us,t.keep h1 (fun hs=>by have:=hlo _ _ hs;omega),h2.block fun k hk=>t.block k (h2.lt hk).2 (fun o hs=>(hT k o hs).1 ((h3 k).2 (.inr hk))),h3⟩
end
end Go.Proofs.YtnoigmdmgdcliaaGreatDoor
