import Derived.Test.YtnoigmdmgdcliaaGreatDoorA39
import Derived.Test.YtnoigmdmgdcliaaGreatDoorA38
import Derived.Laws.ResultCell
import Derived.Test.YtnoigmdmgdcliaaGreatDoorA37
namespace Go.Proofs.YtnoigmdmgdcliaaGreatDoor
set_option maxRecDepth 100000
set_option maxHeartbeats 8000000
section
open Go.RowKit Go.Extern.Stop Go.Stop Go.Extern Go.Maps Go.WideMaps Go.Sort
variable {rs:List Value} {base sb:Nat} {rv:Value} {w1:World} {w:World}
theorem TAt.regs{I R:List (List Int)}(h:TAt base sb w1 rv rs I R w):w.cell? ⟨sb,2,none⟩=some rv/\ ∃ar cr,rv= .slice ar R.length cr:=by
 obtain⟨iv,vs,hT,hD⟩:=h
 obtain⟨ar,cr,e, -⟩:=ownsRow_shape hT.or'
 exact⟨hT.c2,ar,cr,e⟩
theorem chain_no{f:Nat}(hf:f=4)(sb:Nat)(b:Int)(w:World):
  Calls Tryz.prog 106 #[.pointer (some ⟨sb,0,none⟩), .int .i64 f, .int .i64 b] w fun e w'=>e= .returned .nilIface/\w'=w:=by
 have HK:=hide (link_ok (f:=f) (by omega) w)
 rw[show linkX f= -1 from if_pos hf] at HK
 clear hf
 generalize (f:Int)=fi at*
 go_enter Tryz.func106,Tryz.ntmps106
 go_wp2_with fail
 refine HK.out.mono ?_
 rintro e w2 ⟨rfl,rfl⟩
 go_wp2_with fail
 go_ret
 exact⟨rfl,rfl⟩
def ownRow(f:Nat):List Int:=[ownX f,0,0,0]
def graceJ(f:Nat)(I:List (List Int))(k:Nat):List (List Int):=I++[[1,0,0,0]]++List.replicate k (ownRow f)
theorem graceJ_succ(f:Nat)(I:List (List Int))(k:Nat):graceJ f I (k+1)=graceJ f I k++[ownRow f]:=by
 unfold graceJ
 rw[List.replicate_succ', <-List.append_assoc]
theorem graceJ_len(f:Nat)(I:List (List Int))(k:Nat):(graceJ f I k).length=I.length+1+k:=by
 unfold graceJ
 simp
 omega
def graceI(f:Nat)(I:List (List Int))(n:Nat):List (List Int):=if f=4 then graceJ f I n else linked (graceJ f I n) I.length n
def regG(m t:Nat):List Int:=[0,0,0,0,0,(m:Int),(m:Int)+2+t,(m:Int)+1]
def rowsG(m n k:Nat):List (List Int):=(List.range n).map fun t=>if t<k then regG m t else regRow m
theorem rowsG_zero(m n:Nat):rowsG m n 0=List.replicate n (regRow m):=by
 unfold rowsG
 rw[List.eq_replicate_iff]
 refine⟨by simp,fun b hb=>?_⟩
 obtain⟨t, -,rfl⟩:=List.mem_map.1 hb
 simp
theorem rowsG_len(m n k:Nat):(rowsG m n k).length=n:=by simp[rowsG]
theorem rowsG_get{m n k t:Nat}(ht:t<n):(rowsG m n k)[t]? =some (if t<k then regG m t else regRow m):=by
 unfold rowsG
 rw[List.getElem?_map,List.getElem?_range ht]
 rfl
theorem rowsG_succ {m n k:Nat} (hk:k<n) {x:List Int}:((rowsG m n k).set k x).set k (regG m k)=rowsG m n (k+1):=List.ext_getElem? fun i=>by
 by_cases hi:i<n
 ·by_cases e:i=k
  ·subst e
   rw[List.getElem?_set_self (by rw[List.length_set,rowsG_len];exact hi),rowsG_get hi,if_pos (Nat.lt_succ_self _)]
  ·rw[List.getElem?_set_ne (Ne.symm e),List.getElem?_set_ne (Ne.symm e),rowsG_get hi,rowsG_get hi]
   have:(i<k+1)=(i<k):=by simp only[eq_iff_iff];omega
   simp only[this]
 ·rw[List.getElem?_eq_none (by rw[List.length_set,List.length_set,rowsG_len];omega),List.getElem?_eq_none (by rw[rowsG_len];omega)]
theorem grace_ok {I:List (List Int)} {f m n:Nat} (h:TAt base sb w1 rv rs I (List.replicate n (regRow m)) w) (hf:1<=f/\f<=4) (hm:I.length=m) (hm20:m<=20) (hn:n<=6) (hrow: ∀row∈I,row.length=4):
  Calls Tryz.prog 57 #[.pointer (some ⟨sb,0,none⟩), .int .i64 f] w fun e w'=>e= .returned .nilIface/\TAt base sb w1 rv rs (graceI f I n) (rowsG m n n) w':=by
 have HH:=hide h
 have HHB:=hide (hub_ok hf w)
 have HOW:=hide (fun w=>own_ok hf w)
 have HNM:=hide (fun w=>tname_ok m (by omega) w)
 have HCH:Hid (∀w,TAt base sb w1 rv rs (graceJ f I n) (rowsG m n n) w->Calls Tryz.prog 106 #[.pointer (some ⟨sb,0,none⟩), .int .i64 f, .int .i64 ((m+1:Nat):Int)] w fun e w'=>e= .returned .nilIface/\TAt base sb w1 rv rs (graceI f I n) (rowsG m n n) w'):=hide fun w ht=>by
  by_cases h4:f=4
  ·refine(chain_no h4 sb _ w).mono ?_
   rintro e w' ⟨rfl,rfl⟩
   refine⟨rfl,?_⟩
   unfold graceI
   rw[if_pos h4]
   exact ht
  ·have :=chain_yes ht hf h4 (b:=m) (n:=n) (by rw[graceJ_len,hm]) (by rw[graceJ_len,hm];omega) (fun row hr=>by
    unfold graceJ at hr
    simp only[List.mem_append,List.mem_singleton] at hr
    rcases hr with(hr |rfl) |hr
    ·exact hrow row hr
    ·rfl
    ·rw[List.eq_of_mem_replicate hr];rfl)
   unfold graceI
   rw[if_neg h4,hm]
   exact this
 have HJ0:Hid (graceJ f I 0=I++[pad4 [1,0,0,0]]):=hide (by unfold graceJ;simp;rfl)
 have HJS:Hid (∀k,graceJ f I k++[pad4 [ownX f,0,0,0]]=graceJ f I (k+1)):=hide fun k=>(graceJ_succ f I k).symm
 have HJL:Hid (∀k,(graceJ f I k).length=m+1+k):=hide fun k=>by rw[graceJ_len,hm]
 have HR0:=hide (rowsG_zero m n)
 have HGS:=hide (fun(k:Nat) (hk:k<n) (x:List Int)=>rowsG_succ (m:=m) hk (x:=x))
 have HGG:=hide (fun(k:Nat) (hk:k<n)=>rowsG_get (m:=m) (k:=k) hk)
 have HIL:=hide hm
 clear h hrow hm
 generalize ownX f=ox at*
 generalize hfi:(f:Int)=fi at*
 clear hf hfi
 go_enter Tryz.func57,Tryz.ntmps57
 go_wp2_with fail
 refine HHB.out.mono ?_
 rintro e w2 ⟨v,rfl,hv,hb2⟩
 obtain⟨adh,ch,rfl,hat⟩:=numsOwn_open hv (by decide)
 have HC:=hide (tcell_ok (cap:=ch) (HH.out.below hb2) hat (by decide) (by decide) (by rw[HIL.out];omega))
 clear hv hb2 hat HHB HH
 go_wp2_with fail
 refine HC.out.mono ?_
 rintro e w3 ⟨rfl,h3⟩
 rw[<-HJ0.out, <-HR0.out] at h3
 have H3:=hide h3
 obtain⟨ai,ci,c1⟩:=h3.head
 rw[HJL.out 0,Nat.add_zero] at c1
 obtain⟨c2,ar,cr,hrv⟩:=h3.regs
 rw[rowsG_len] at hrv
 have HRV:=hide hrv
 rw[hrv] at c2
 obtain⟨q,hq⟩: ∃q,Hid (m+1=q):=⟨_,hide rfl⟩
 rw[hq.out] at c1 HCH
 have wr0:IntKind.i64.wrap ((q:Int) - 1)=(m:Int):=by have:=hq.out;rw[IntKind.wrap_i64];omega
 clear h3 HC HJ0 HR0
 go_wp2_with fail
 go_loopw [5,6,9,33] (fun _ _ _ i wr=> ∃k:Nat,k<=n/\i= .int .i64 k/\Hid (TAt base sb w1 rv rs (graceJ f I k) (rowsG m n k) wr)) (fun _ _ _ i _=>n - (intOf i).toNat)
 case atStart=>exact⟨0,Nat.zero_le _,rfl,H3⟩
 case round=>
  clear H3
  obtain⟨k,hk,rfl,HR⟩:=hrel
  by_cases hlt:k<n
  ·have ki:(k:Int)<n:=by omega
   have hg:=HGG.out k hlt
   rw[if_neg (Nat.lt_irrefl _)] at hg
   obtain⟨ga,gc,g,c,e1,d1,rsk,d3,d4,d5⟩:=HR.out.rowR hg (show 0<8 by decide)
   rw[HRV.out,rowsG_len] at e1
   cases e1
   have d1':wr.cell? ⟨ga,k,none⟩=some (.slice (some ⟨g,0,none⟩) 8 c):=d1
   have k7:wr.cell? ⟨g,7,none⟩=some (.int .i64 0):=d3 7 0 rfl
   have z7:=d4 7
   have HST:=hide d5
   have HRS:=hide rsk
   clear d1 d3 d4 d5 rsk hg HR
   go_wp2_with fail
   refine(HNM.out _).mono ?_
   rintro e w4 ⟨rfl,hb4⟩
   replace z7:=(hb4.frozen (show(⟨g,7,none⟩:Addr).block<_ from bLt k7)).trans z7
   replace k7:=keep_cell hb4 k7
   have H5:=hide (HST.out w4 hb4 7 ((m:Int)+1))
   have HOW5:=hide (HOW.out (w4.setCell ⟨g,7,none⟩ (.int .i64 ((m:Int)+1))))
   clear HST hb4 d1'
   go_wp2_with fail
   generalize w4.setCell ⟨g,7,none⟩ (.int .i64 ((m:Int)+1))=w5 at*
   refine HOW5.out.mono ?_
   rintro e w6 ⟨v6,rfl,hv6,hb6⟩
   obtain⟨ad6,c6,rfl,hat6⟩:=numsOwn_open hv6 (show 0<4 by decide)
   have HC6:=hide (tcell_ok (cap:=c6) (H5.out.below hb6) hat6 (show 0<4 by decide) (show 4<=4 by decide) (by rw[HJL.out];omega))
   clear hv6 hb6 hat6 HOW5 H5 k7 z7
   go_wp2_with fail
   refine HC6.out.mono ?_
   rintro e w7 ⟨rfl,h7⟩
   rw[HJS.out] at h7
   have hL:=tlast_ok h7 (by rw[HJL.out];omega) (by rw[HJL.out];omega)
   rw[HJL.out] at hL
   have HL7:=hide hL
   have hg2:((rowsG m n k).set k ((regRow m).set 7 ((m:Int)+1)))[k]? =some ((regRow m).set 7 ((m:Int)+1)):=List.getElem?_set_self (by rw[rowsG_len];exact hlt)
   obtain⟨ga2,gc2,g2,cc2, -, -,rsk2,d3,d4,d5⟩:=h7.rowR hg2 (show 0<8 by decide)
   rw[HRS.out] at rsk2
   obtain ⟨rfl, -,rfl⟩:g=g2/\8=8/\c=cc2:=by
    have:=Option.some.inj rsk2
    cases this
    exact⟨rfl,rfl,rfl⟩
   have k6:w7.cell? ⟨g,6,none⟩=some (.int .i64 0):=d3 6 0 rfl
   have z6:=d4 6
   have hvq:(((m+1+(k+1):Nat)):Int)=(m:Int)+2+k:=by omega
   rw[hvq] at HL7
   have HN9:Hid (∀w8,Below w7.heap.size w7 w8->TAt base sb w1 rv rs (graceJ f I (k+1)) (rowsG m n (k+1)) (w8.setCell ⟨g,6,none⟩ (.int .i64 ((m:Int)+2+k)))):=hide fun w8 hb8=>by
    have:=d5 w8 hb8 6 ((m:Int)+2+k)
    rw[show((regRow m).set 7 ((m:Int)+1)).set 6 ((m:Int)+2+k)=regG m k from rfl,HGS.out k hlt] at this
    exact this
   clear h7 hL hg2 rsk2 d3 d4 d5 HC6 HRS hvq
   go_wp2_with fail
   refine HL7.out.mono ?_
   rintro e w8 ⟨rfl,hb8⟩
   replace z6:=(hb8.frozen (show(⟨g,6,none⟩:Addr).block<_ from bLt k6)).trans z6
   replace k6:=keep_cell hb8 k6
   have HR9:=hide (HN9.out w8 hb8)
   clear HN9 hb8 HL7
   go_wp2_with fail
   go_roundw
   case rel=>exact⟨k+1,by omega,by go_num,HR9⟩
   case measure=>simp[intOf];omega
  ·obtain rfl:k=n:=by omega
   have HC2:=hide (HCH.out wr HR.out)
   clear HR HCH
   go_wp2_with fail
   refine HC2.out.mono ?_
   rintro e w4 ⟨rfl,h4⟩
   go_wp2_with fail
   go_ret
   exact⟨rfl,h4⟩
end
section
open Go.RowKit Go.Extern.Stop Go.Stop Go.Extern Go.Maps Go.WideMaps Go.Sort
structure KP(base:Nat)(w1:World)(v:Value)(vs:List Value)(Ls:List (List Ins))(w:World):Prop where
 own:w.ownsRow base 58 1 v Ls.length vs
 el: ∀(i:Nat) L,Ls[i]? =some L-> ∃u,vs[i]? =some u/\insOwn w base u L/\ ∀b,u.ownBlock=some b->v.ownBlock≠some b
 low:Below base w1 w
 bz:base<=w.heap.size
section
variable {base:Nat} {w1:World} {v:Value} {vs:List Value} {Ls:List (List Ins)} {w w':World}
theorem KP.nil(h:Below base w1 w)(hb:base<=w.heap.size):KP base w1 (.slice none 0 0) [] [] w:=⟨World.ownsRow_nil _ _ _ _,fun i L hi=>by simp at hi,h,hb⟩
theorem KP.below(h:KP base w1 v vs Ls w)(k:Below w.heap.size w w'):KP base w1 v vs Ls w':=
 ⟨ownsRow_block h.own (fun b hb=>k.block b (h.own.lt b hb).2),fun i L hi=>by obtain⟨u,h1,h2,h3⟩:=h.el i L hi;exact⟨u,h1,insOwn_keep h2 k,h3⟩,h.low.trans (k.mono h.bz),Nat.le_trans h.bz k.size⟩
theorem KP.add (h:KP base w1 v vs Ls w) {u:Value} {L:List Ins} (hu:insOwn w base u L) (hne: ∀b,u.ownBlock=some b->v.ownBlock≠some b) {v':Value} {N:Nat} (hN:w.heap.size<=N)
  (ho:w'.ownsRow base 58 1 v' (Ls.length+1) (vs++[u])) (hg:w.grownBy w' v.ownBlock) (hloc:v'.ownBlock=v.ownBlock∨v'.ownBlock=some N):KP base w1 v' (vs++[u]) (Ls++[L]) w':=by
 have hB:Below base w w':=(Below.refl base w).grown hg h.bz (fun k hk=>(h.own.lt k hk).1)
 have nb: ∀b,b<w.heap.size->v.ownBlock≠some b->v'.ownBlock≠some b:=fun b hb hne e=>by
  rcases hloc with h1 |h1
  ·rw[h1] at e;exact hne e
  ·rw[h1] at e
   have:=Option.some.inj e
   omega
 have kn: ∀{u:Value} {L:List Ins},insOwn w base u L->(∀b,u.ownBlock=some b->v.ownBlock≠some b)->insOwn w' base u L/\ ∀b,u.ownBlock=some b->v'.ownBlock≠some b:=fun {u L} h1 h2=>by
  refine⟨insOwn_kept h1 hg ?_,fun b e=>nb b (World.ownsRow.lt h1 b e).2 (h2 b e)⟩
  cases hr:u.ownBlock with
  |none=>exact .inl rfl
  |some b=>exact .inr fun e=>h2 b hr e.symm
 have lv:vs.length=Ls.length:=by have:=h.own.1;omega
 refine⟨by rw[List.length_append];exact ho,fun i M hi=>?_,h.low.trans hB,Nat.le_trans h.bz hB.size⟩
 by_cases hlt:i<Ls.length
 ·rw[List.getElem?_append_left hlt] at hi
  obtain⟨x,h1,h2,h3⟩:=h.el i M hi
  exact⟨x,by rw[List.getElem?_append_left (by omega)];exact h1,(kn h2 h3).1,(kn h2 h3).2⟩
 ·rw [List.getElem?_append_right (by omega)] at hi
  have hi0:i - Ls.length=0:=by
   have:=(List.getElem?_eq_some_iff.1 hi).1
   simp at this;omega
  rw[hi0] at hi
  cases hi
  exact⟨u,by rw[List.getElem?_append_right (by omega),lv,hi0];rfl,(kn hu hne).1,(kn hu hne).2⟩
theorem KP.codes(h:KP base w1 v vs Ls w): ∃ad cap,v= .slice ad Ls.length cap/\codesAt ad Ls w:=by
 obtain⟨ad,cap,e2,g1,g2,g3⟩:=ownsRow_shape h.own
 refine⟨ad,cap,e2,fun t L ht=>?_⟩
 obtain⟨u,h1,h2, -⟩:=h.el t L ht
 obtain⟨g,eg,cg⟩:=g3 t u h1
 obtain⟨adl,capl,eu,k1,k2,k3⟩:=insAt_of_icells h2
 refine⟨g,0,adl,capl,eg,by rw[Nat.zero_add,cg,eu],k1,k3,fun en=>?_⟩
 rcases h2.2 with⟨e4,e5⟩ |⟨gg,cc,cur,e4,_⟩
 ·exact List.length_eq_zero_iff.1 e5
 ·rw[eu] at e4
  cases e4
  cases en
end
theorem results_cell_tmp2 {fn:Func} {p u u2:Tmp} {ty:TypeId} (h:fn.results=#[.cell p ty, .tmp u, .tmp u2]) (tmps:Array Value) (P:Program) (w:World):
  (results fn tmps).run P w=
    ((asAddr (tmps.getD p undef)).run P w).andThen fun a w₁=>((loadVar ty a).run P w₁).andThen fun v w₂=> .ok (.tuple #[v,tmps.getD u undef,tmps.getD u2 undef]) w₂:=by
 simp only[results,h]
 simp[Sem.run_bind,Result.andThen]
theorem KP.out{base:Nat}{w1:World}{v:Value}{vs:List Value}{Ls:List (List Ins)}{w:World}(h:KP base w1 v vs Ls w){r:Nat}(hr:r<base)(o:Nat)(x:Value):KP base (w.setCell ⟨r,o,none⟩ x) v vs Ls (w.setCell ⟨r,o,none⟩ x):=by
 have hb: ∀b,base<=b->(w.setCell ⟨r,o,none⟩ x).heap[b]? =w.heap[b]? :=fun b hb=>Below.heap_setCell _ _ _ _ (fun e=>by dsimp only at e;omega)
 refine⟨ownsRow_block h.own (fun b e=>hb b (h.own.lt b e).1),fun i L hi=>?_,Below.refl _ _,by simpa [World.setCell] using h.bz⟩
 obtain⟨u,h1,h2,h3⟩:=h.el i L hi
 exact⟨u,h1,ownsRow_block h2 (fun b e=>hb b (World.ownsRow.lt h2 b e).1),h3⟩
theorem codesInfoT: ∃i,(Tryz.prog).info? 58=some i/\i.zero=some (.slice none 0 0)/\i.size=1/\i.bytes=24:=info_parts (by kernel_rfl)
def opRowsAt(ad:Option Addr)(cl:List (List OpI))(w:World):Prop:= ∀(t:Nat) L,cl[t]? =some L-> ∃b off adl capl,ad=some ⟨b,off,none⟩/\w.cell? ⟨b,off+t,none⟩=some (.slice adl L.length capl)/\opsAt adl L w
theorem opRowsAt.below{ad:Option Addr}{cl:List (List OpI)}{w w':World}(h:opRowsAt ad cl w)(hb:Below w.heap.size w w'):opRowsAt ad cl w':=fun t L ht=>by
 obtain⟨b,off,adl,capl,e,h1,h2⟩:=h t L ht
 exact⟨b,off,adl,capl,e,keep_cell hb h1,h2.below hb⟩
def kindsOk(cl:List (List OpI)):Prop:= ∀L∈cl,L.length<=20/\ ∀x∈L,kn x.kind.toList≠0
def thC(f:Nat)(G:List Ins)(L:List OpI):List Ins:=opsC f L L.length++(G++[⟨oStop,0,0,0,thNo⟩])
def stopI:Ins:=⟨oStop,0,0,0,thNo⟩
theorem concat3 {w2:World} {x2 xg:Option Addr} {c2 cg b2 b3:Nat} {C G:List Ins} (h2:insOwn w2 b2 (.slice x2 C.length c2) C) (hg:insOwn w2 b3 (.slice xg G.length cg) G) (hC:C.length<=1300) (hG:G.length<=100):
  Calls Tryz.prog 115 #[.slice (some ⟨w2.heap.size+1,0,none⟩) 3 3] ((w2.alloc (.cells #[.string oStop, .int .i64 0, .int .i64 0, .int .i64 0, .string thNo] 57)).alloc (.cells #[.slice x2 C.length c2, .slice xg G.length cg, .slice (some ⟨w2.heap.size,0,none⟩) 1 1] 58)) fun e w'=> ∃v,e= .returned v/\insOwn w' w2.heap.size v (C++(G++[stopI]))/\Below w2.heap.size w2 w':=by
 have hB:Below w2.heap.size w2 ((w2.alloc (.cells #[.string oStop, .int .i64 0, .int .i64 0, .int .i64 0, .string thNo] 57)).alloc (.cells #[.slice x2 C.length c2, .slice xg G.length cg, .slice (some ⟨w2.heap.size,0,none⟩) 1 1] 58)):=(bRf.alloc nL _).alloc (by simp) _
 have hp:partsOwn (some ⟨w2.heap.size+1,0,none⟩) [C,G,[stopI]] ((w2.alloc (.cells #[.string oStop, .int .i64 0, .int .i64 0, .int .i64 0, .string thNo] 57)).alloc (.cells #[.slice x2 C.length c2, .slice xg G.length cg, .slice (some ⟨w2.heap.size,0,none⟩) 1 1] 58)):=by
  intro t L ht
  have hc: ∀j,((w2.alloc (.cells #[.string oStop, .int .i64 0, .int .i64 0, .int .i64 0, .string thNo] 57)).alloc (.cells #[.slice x2 C.length c2, .slice xg G.length cg, .slice (some ⟨w2.heap.size,0,none⟩) 1 1] 58)).cell? ⟨w2.heap.size+1,0+j,none⟩=(#[.slice x2 C.length c2, .slice xg G.length cg, .slice (some ⟨w2.heap.size,0,none⟩) 1 1]:Array Value)[j]? :=fun j=>by
   rw[Nat.zero_add]
   have:=World.cell?_alloc_new (w2.alloc (.cells #[.string oStop, .int .i64 0, .int .i64 0, .int .i64 0, .string thNo] 57)) #[.slice x2 C.length c2, .slice xg G.length cg, .slice (some ⟨w2.heap.size,0,none⟩) 1 1] 58 j
   rwa [World.size_alloc] at this
  match t,ht with
  | 0,ht=>
   cases ht
   exact⟨_,0,_,rfl,hc 0,b2,insOwn_keep h2 hB⟩
  | 1,ht=>
   cases ht
   exact⟨_,0,_,rfl,hc 1,b3,insOwn_keep hg hB⟩
  | 2,ht=>
   cases ht
   exact⟨_,0,_,rfl,hc 2,0,insOwn_keep (insOwn_new (l:=[stopI]) rfl (Nat.zero_le _) (show 1<=1000 by decide)) (bRf.alloc nL _)⟩
 have hcc:=concatG_any (cap:=3) hp (show 3<=1000 by decide) (by simp;omega) (by simp;omega)
 refine hcc.mono ?_
 rintro e w' ⟨v,rfl,hv,hb⟩
 refine⟨v,rfl,?_,below_step hB hb⟩
 have e:([C,G,[stopI]]:List (List Ins)).flatten=C++(G++[stopI]):=by simp
 rw[e] at hv
 exact insOwn_mono hv hB.size
theorem with_ok {f:Nat} (hf:1<=f/\f<=4) {base sb:Nat} {w1:World} {rv:Value} {rs:List Value} {I R:List (List Int)} {w:World} (h:TAt base sb w1 rv rs I R w) {ad:Option Addr} {cl:List (List OpI)} {cap:Nat} (ho:opRowsAt ad cl w) (hk:kindsOk cl) (hn:cl.length<=6) {vg:Value} {G:List Ins} {b3:Nat} (hg:insOwn w b3 vg G) (hG:G.length<=100):
  Calls Tryz.prog 59 #[.pointer (some ⟨sb,0,none⟩), .slice ad cl.length cap, .func (.func 31) #[.int .i64 f] #[],vg] w fun e w'=> ∃iv vs vc ks B,e= .returned (.tuple #[.agg #[.int .i64 64,iv,rv],vc, .nilIface])/\TW base sb w1 [] iv vs I rv rs R w'/\KP B w' vc ks (cl.map (thC f G)) w'/\w.heap.size<=B/\Below w.heap.size w w':=by
 have HH:=hide h
 have HOP:=hide ho
 have HKO:=hide hk
 have HG:=hide hg
 have HCO:=hide (fun(ad:Option Addr) (L:List OpI) (cap:Nat) (w:World) (ho:opsAt ad L w) (hk: ∀x∈L,kn x.kind.toList≠0) (hl:L.length<=20)=>codeOf_ok (cap:=cap) hf ho hk hl)
 have HLN:=hide (fun(L:List OpI)=>opsC_len hf L L.length)
 obtain⟨xg,cg,eg, -⟩:=ownsRow_shape hg
 subst eg
 have hbw:w.heap.size<=(w.alloc (.cells #[.int .i64 0, .slice none 0 0, .slice none 0 0] 40)).heap.size:=by simp
 have HB0:Hid (Below w.heap.size w (w.alloc (.cells #[.int .i64 0, .slice none 0 0, .slice none 0 0] 40))):=hide (bRf.alloc nL _)
 obtain⟨n,hln⟩: ∃n,Hid (cl.length=n):=⟨_,hide rfl⟩
 rw[hln.out] at hn ⊢
 clear h ho hk hg hbw
 generalize hfi:(f:Int)=fi at*
 clear hfi hf
 go_enter Tryz.func59,Tryz.ntmps59
 go_wp2_with fail
 obtain⟨W0,hW0⟩: ∃W0,W0=w.alloc (.cells #[.int .i64 0, .slice none 0 0, .slice none 0 0] 40):=⟨_,rfl⟩
 have HRC:Hid ((∀o,W0.cell? ⟨w.heap.size,o,none⟩=(#[.int .i64 0, .slice none 0 0, .slice none 0 0]:Array Value)[o]?)/\(∀o,W0.frozen? ⟨w.heap.size,o,none⟩=false)/\w.heap.size<W0.heap.size):=hide (by
  subst hW0
  exact⟨fun o=>World.cell?_alloc_new _ _ _ _,fun o=>World.frozen?_alloc_new _ _ _ _,by simp⟩)
 rw[<-hW0] at HB0 ⊢
 have HP0:Hid (KP W0.heap.size W0 (.slice none 0 0) [] ((cl.take 0).map (thC f G)) W0):=hide (KP.nil bRf nL)
 clear hW0
 go_loopw [11,13,14,15,18] (fun v _ _ _ i wr=> ∃t:Nat,t<=n/\i= .int .i64 t/\Hid (∃vs,KP W0.heap.size W0 v vs ((cl.take t).map (thC f G)) wr)) (fun _ _ _ _ i _=>n - (intOf i).toNat)
 case atStart=>exact⟨0,Nat.zero_le _,rfl,hide ⟨_,HP0.out⟩⟩
 case round=>
  clear HP0
  obtain⟨t,ht,rfl,HP⟩:=hrel
  generalize u11=v at*
  obtain⟨vs,hP⟩:=HP.out
  by_cases hlt:t<n
  ·have ti:(t:Int)<n:=by omega
   have HP1:=hide hP
   obtain⟨L,hL⟩: ∃L,cl[t]? =some L:=⟨_,List.getElem?_eq_getElem (by rw[hln.out];exact hlt)⟩
   have HBW:=hide (below_step HB0.out (hP.low.mono nL))
   obtain⟨b,off,adl,capl,rfl,c0,hops⟩:=HOP.out.below HBW.out t L hL
   have hkl:=HKO.out L (List.mem_of_getElem? hL)
   have HC:=hide (HCO.out adl L capl wr hops hkl.2 hkl.1)
   have HLL:=hide (HLN.out L)
   have HL20:=hide hkl.1
   have HSU:Hid (cl.take (t+1)=cl.take t++[L]):=hide (by rw[List.take_add_one,hL];rfl)
   have HG1:=hide (insOwn_keep HG.out HBW.out)
   clear hP HP hL hops hkl HCO HLN HKO
   generalize hLn:L.length=ln at*
   go_wp2_with fail
   refine HC.out.mono ?_
   rintro e w2 ⟨v2,rfl,hv2,hb2⟩
   obtain⟨x2,c2,e2, -⟩:=ownsRow_shape hv2
   subst e2
   have HP2:=hide (HP1.out.below hb2)
   have HV2:=hide hv2
   have HG2:=hide (insOwn_keep HG1.out hb2)
   clear hv2 hb2 HP1 HC c0 HG1
   have HC3:Hid (Calls Tryz.prog 115 #[.slice (some ⟨w2.heap.size+1,0,none⟩) 3 3] ((w2.alloc (.cells #[.string oStop, .int .i64 0, .int .i64 0, .int .i64 0, .string thNo] 57)).alloc (.cells #[.slice x2 (opsC f L ln).length c2, .slice xg G.length cg, .slice (some ⟨w2.heap.size,0,none⟩) 1 1] 58)) fun e w'=> ∃v,e= .returned v/\insOwn w' w2.heap.size v (thC f G L)/\Below w2.heap.size w2 w'):=hide (by
    have:=concat3 HV2.out HG2.out (by have h1:=HLL.out;have h2:=HL20.out;have h3:60*ln<=60*20:=Nat.mul_le_mul_left _ h2;omega) hG
    unfold thC
    rw[hLn]
    exact this)
   go_wp2_with fail
   refine HC3.out.mono ?_
   rintro e w3 ⟨v3,rfl,hv3,hb3⟩
   obtain⟨au,cu,e3, -⟩:=ownsRow_shape hv3
   subst e3
   have HU:Hid (insOwn w3 W0.heap.size (.slice au (thC f G L).length cu) (thC f G L)):=hide (insOwn_mono hv3 HP2.out.bz)
   have HNE:Hid (∀b,(Value.slice au (thC f G L).length cu).ownBlock=some b->v.ownBlock≠some b):=hide fun b e e2=>by
    have h1:=(World.ownsRow.lt hv3 b e).1
    have h2:=(HP2.out.own.lt b e2).2
    omega
   have HP3:=hide (HP2.out.below hb3)
   clear hv3 hb3 HP2 HC3 HV2 HG2
   generalize (thC f G L).length=lu at*
   obtain⟨ric,hric,hrz,hrs,hrb⟩:=codesInfoT
   have bel:Below w3.heap.size w3 (w3.alloc (.cells #[.slice au lu cu] 58)):=bRf.alloc nL _
   obtain⟨LC,HLC,hLC⟩: ∃LC,Hid (LC=((cl.take t).map (thC f G)).length)/\LC<=7:=⟨_,hide rfl,by rw[List.length_map,List.length_take];omega⟩
   go_wp2_with (at_builtin;refine wpList_append_own_at _ rfl _ _ 41 rfl W0.heap.size 58 ric (.slice none 0 0) 1 24 Tryz.underlying41 hric hrz hrs hrb rfl (by decide) v LC vs rfl ?p0 ⟨w3.heap.size,0,none⟩ 1 1 [.slice au lu cu] rfl rfl ?p1 ?p2 ?p3 ?p4 ?p5 ?_)
   case p0=>rw[HLC.out];exact(HP3.out.below bel).own
   case p1=>
    intro k x hk
    cases k with
    |zero=>cases hk;rw[Addr.add_lit];simp
    |succ k=>simp at hk
   case p2=>
    intro x hx
    obtain rfl:x= .slice au lu cu:=by simpa using hx
    rfl
   case p3=>unfold maxLen;omega
   case p4=>omega
   case p5=>have:=HP3.out.bz;simp;omega
   intro v' w6 ho hg hnil hloc
   have HP6:Hid (KP W0.heap.size W0 v' (vs++[.slice au lu cu]) ((cl.take (t+1)).map (thC f G)) w6):=hide (by
    rw[HSU.out,List.map_append]
    exact(HP3.out.below bel).add (insOwn_keep HU.out bel) HNE.out (N:=w3.heap.size+1) (by simp) (by rw[<-HLC.out];exact ho) hg hloc)
   clear ho hg hnil hloc HP3 HU HNE HSU bel HLC hLC hric hrz hrs hrb
   go_wp2_with fail
   go_roundw
   case rel=>exact⟨t+1,by omega,by go_num,hide ⟨_,HP6.out⟩⟩
   case measure=>simp[intOf];omega
  ·obtain rfl:t=n:=by omega
   have HBW:=hide (below_step HB0.out (hP.low.mono nL))
   obtain⟨iv,vs1,hT0,hD⟩:=HH.out
   have HT0:=hide hT0
   have hT:=hT0.below HBW.out
   have a0:=hT.c0
   have a1:=hT.c1
   have a2:=hT.c2
   obtain⟨ai,ci,eiv, -⟩:=ownsRow_shape hT0.oi
   obtain⟨ar,cr,erv, -⟩:=ownsRow_shape hT0.or'
   rw[eiv] at a1
   rw[erv] at a2
   obtain⟨q1,q2,q3⟩:=HRC.out
   have b0:=keep_cell hP.low ((q1 0).trans (show _=some (.int .i64 0) from rfl))
   have b1:=keep_cell hP.low ((q1 1).trans (show _=some (.slice none 0 0) from rfl))
   have b2:=keep_cell hP.low ((q1 2).trans (show _=some (.slice none 0 0) from rfl))
   have z0:=(hP.low.frozen (show(⟨w.heap.size,0,none⟩:Addr).block<_ from q3)).trans (q2 0)
   have z1:=(hP.low.frozen (show(⟨w.heap.size,1,none⟩:Addr).block<_ from q3)).trans (q2 1)
   have z2:=(hP.low.frozen (show(⟨w.heap.size,2,none⟩:Addr).block<_ from q3)).trans (q2 2)
   have HP9:=hide hP
   have HRL:=hide q3
   obtain⟨ac,cc,ev, -⟩:=ownsRow_shape hP.own
   have HLN9:Hid (((cl.take t).map (thC f G)).length=t):=hide (by rw[List.length_map,List.length_take,hln.out];omega)
   have HTK:Hid (cl.take t=cl):=hide (by rw[<-hln.out,List.take_length])
   rw[HLN9.out] at ev
   clear hT hT0 hP HP hD q1 q2 q3 HH
   have HK9:=hide (((HP9.out.out HRL.out 0 (.int .i64 64)).out HRL.out 1 (.slice ai I.length ci)).out HRL.out 2 (.slice ar R.length cr))
   have HB9:Hid (Below w.heap.size w (((wr.setCell ⟨w.heap.size,0,none⟩ (.int .i64 64)).setCell ⟨w.heap.size,1,none⟩ (.slice ai I.length ci)).setCell ⟨w.heap.size,2,none⟩ (.slice ar R.length cr))):=hide (((HBW.out.setCell nL _).setCell nL _).setCell nL _)
   have HE9:Hid ((((wr.setCell ⟨w.heap.size,0,none⟩ (.int .i64 64)).setCell ⟨w.heap.size,1,none⟩ (.slice ai I.length ci)).setCell ⟨w.heap.size,2,none⟩ (.slice ar R.length cr)).cell? ⟨w.heap.size,0,none⟩=some (.int .i64 64)/\(((wr.setCell ⟨w.heap.size,0,none⟩ (.int .i64 64)).setCell ⟨w.heap.size,1,none⟩ (.slice ai I.length ci)).setCell ⟨w.heap.size,2,none⟩ (.slice ar R.length cr)).cell? ⟨w.heap.size,1,none⟩=some (.slice ai I.length ci)/\(((wr.setCell ⟨w.heap.size,0,none⟩ (.int .i64 64)).setCell ⟨w.heap.size,1,none⟩ (.slice ai I.length ci)).setCell ⟨w.heap.size,2,none⟩ (.slice ar R.length cr)).cell? ⟨w.heap.size,2,none⟩=some (.slice ar R.length cr)):=hide (by
    have x0:(wr.setCell ⟨w.heap.size,0,none⟩ (.int .i64 64)).cell? ⟨w.heap.size,0,none⟩=some (.int .i64 64):=World.cell?_setCell_same _ _ _ b0
    have x1:((wr.setCell ⟨w.heap.size,0,none⟩ (.int .i64 64)).setCell ⟨w.heap.size,1,none⟩ (.slice ai I.length ci)).cell? ⟨w.heap.size,1,none⟩=some (.slice ai I.length ci):=World.cell?_setCell_same _ _ _ (cell_ne b1 (.inr (by decide)))
    have x2:(((wr.setCell ⟨w.heap.size,0,none⟩ (.int .i64 64)).setCell ⟨w.heap.size,1,none⟩ (.slice ai I.length ci)).setCell ⟨w.heap.size,2,none⟩ (.slice ar R.length cr)).cell? ⟨w.heap.size,2,none⟩=some (.slice ar R.length cr):=World.cell?_setCell_same _ _ _ (cell_ne (cell_ne b2 (.inr (by decide))) (.inr (by decide)))
    exact⟨cell_ne (cell_ne x0 (.inr (by decide))) (.inr (by decide)),cell_ne x1 (.inr (by decide)),x2⟩)
   go_wp2_with fail
   obtain⟨e0,e1,e2⟩:=HE9.out
   have hK:=HK9.out
   rw[HTK.out] at hK
   have hTf:=HT0.out.below HB9.out
   have hBf:=HB9.out
   have hBB:=HB0.out.size
   generalize (((wr.setCell ⟨w.heap.size,0,none⟩ (.int .i64 64)).setCell ⟨w.heap.size,1,none⟩ (.slice ai I.length ci)).setCell ⟨w.heap.size,2,none⟩ (.slice ar R.length cr))=W9 at*
   refine bodyPost_ret (v:= .tuple #[.agg #[.int .i64 64, .slice ai I.length ci, .slice ar R.length cr],v, .nilIface]) (by rw[results_cell_tmp2 (show Tryz.f59.results=_ from rfl)];go_simp) rfl ?_
   exact⟨iv,vs1,v,vs,W0.heap.size,by rw[eiv,erv],hTf,hK,hBB,hBf⟩
end
section
open Go.RowKit Go.Extern.Stop Go.Stop Go.Extern Go.Maps Go.WideMaps Go.Sort
def clGone:ByteArray:=⟨#[103,111,110,101]⟩
theorem clGone_name:isName clGone:=nameB_is (by decide+kernel)
theorem ggone_len(f:Nat)(hf:1<=f/\f<=4):(gCode clGone (gGone f)).length<=100:=by
 unfold gCode
 rw[List.length_map]
 have:f=1∨f=2∨f=3∨f=4:=by omega
 rcases this with rfl |rfl |rfl |rfl <;> decide
theorem pad4_len: ∀l:List Int,(pad4 l).length=4:=fun l=>by
 have : ∀(l:List Int) (o:Nat) (r:List Int),(layTo r o l).length=r.length:=fun l=>by
  induction l with
  |nil=>intro o r;rfl
  | cons x l ih=>
   intro o r
   show(layTo (r.set o x) (o+1) l).length=_
   rw[ih,List.length_set]
 unfold pad4
 rw[this]
 rfl
def clC(f:Nat)(L:List OpI):List Ins:=thC f (gCode clGone (gGone f)) L
theorem graceI_len(f:Nat)(I:List (List Int))(n:Nat):(graceI f I n).length=I.length+1+n:=by
 unfold graceI
 split
 ·exact graceJ_len _ _ _
 ·rw[linked_length,graceJ_len]
theorem graceI_rows{f n:Nat}{I:List (List Int)}(h: ∀row∈I,row.length=4): ∀row∈graceI f I n,row.length=4:=by
 have hj: ∀row∈graceJ f I n,row.length=4:=fun row hr=>by
  unfold graceJ at hr
  simp only[List.mem_append,List.mem_singleton] at hr
  rcases hr with(hr |rfl) |hr
  ·exact h row hr
  ·rfl
  ·rw[List.eq_of_mem_replicate hr];rfl
 unfold graceI
 split
 ·exact hj
 ·exact linked_rows hj n
theorem rowsG_rows{m n k:Nat}: ∀row∈rowsG m n k,row.length=8:=fun row hr=>by
 unfold rowsG at hr
 obtain⟨t, -,rfl⟩:=List.mem_map.1 hr
 split <;> rfl
theorem tbuild_ok{f:Nat}(hf:1<=f/\f<=4){ad:Option Addr}{cl:List (List OpI)}{cap:Nat}{w:World}(ho:opRowsAt ad cl w)(hk:kindsOk cl)(hn:cl.length<=6){ac:Option Addr}{cells:List (List Int)}{capc:Nat}(hc:cellsAt ac cells w)(h0:0<cells.length)(hl:cells.length<=20):
  Calls Tryz.prog 30 #[.int .i64 f, .slice ad cl.length cap, .func (.func 31) #[.int .i64 f] #[], .slice ac cells.length capc] w fun e w'=> ∃base sb iv vs rv rs vc ks B,e= .returned (.tuple #[.agg #[.int .i64 64,iv,rv],vc, .nilIface])/\TW base sb w' [] iv vs (graceI f (cells.map pad4) cl.length) rv rs (rowsG cells.length cl.length cl.length) w'/\KP B w' vc ks (cl.map (clC f)) w'/\w.heap.size<base/\w.heap.size<B/\Below w.heap.size w w':=by
 have HOP:=hide ho
 have HB0:Hid (Below w.heap.size w (w.alloc (.cells #[.int .i64 0, .slice none 0 0, .slice none 0 0] 40))):=hide (bRf.alloc nL _)
 have HRC:Hid ((∀o,(w.alloc (.cells #[.int .i64 0, .slice none 0 0, .slice none 0 0] 40)).cell? ⟨w.heap.size,o,none⟩=(#[.int .i64 0, .slice none 0 0, .slice none 0 0]:Array Value)[o]?)/\(∀o,(w.alloc (.cells #[.int .i64 0, .slice none 0 0, .slice none 0 0] 40)).frozen? ⟨w.heap.size,o,none⟩=false)/\w.heap.size<(w.alloc (.cells #[.int .i64 0, .slice none 0 0, .slice none 0 0] 40)).heap.size):=hide ⟨fun o=>World.cell?_alloc_new _ _ _ _,fun o=>World.frozen?_alloc_new _ _ _ _,by simp⟩
 have HBE:=hide (begin_ok (cap:=capc) hn (hc.below HB0.out) h0 hl)
 have HGR:=hide (fun(base sb:Nat) (w1:World) (rv:Value) (rs:List Value) (w:World) (h:TAt base sb w1 rv rs (cells.map pad4) (List.replicate cl.length (regRow cells.length)) w)=>grace_ok h hf (List.length_map _) hl hn (fun row hr=>by
  obtain⟨x, -,rfl⟩:=List.mem_map.1 hr
  exact pad4_len x))
 have HGO:=hide (fun w=>gone_ok hf clGone_name (by decide) w)
 have HWI:=hide (fun(base sb:Nat) (w1:World) (rv:Value) (rs:List Value) (W:World) (h:TAt base sb w1 rv rs (graceI f (cells.map pad4) cl.length) (rowsG cells.length cl.length cl.length) W) (hb:Below w.heap.size w W) (vg:Value) (b3:Nat) (hg:insOwn W b3 vg (gCode clGone (gGone f)))=>with_ok (cap:=cap) hf h (ho.below hb) hk hn hg (ggone_len f hf))
 have HIL:Hid ((graceI f (cells.map pad4) cl.length).length<=100):=hide (by rw[graceI_len,List.length_map];omega)
 have HIR:Hid (∀row∈graceI f (cells.map pad4) cl.length,row.length<=100):=hide fun row hr=>by
  rw[graceI_rows (fun row hr=>by obtain⟨x, -,rfl⟩:=List.mem_map.1 hr;exact pad4_len x) row hr];decide
 have HRR:Hid (∀row∈rowsG cells.length cl.length cl.length,row.length<=100):=hide fun row hr=>by
  rw[rowsG_rows row hr];decide
 have HRL:Hid ((rowsG cells.length cl.length cl.length).length=cl.length):=hide (rowsG_len _ _ _)
 have HMC:Hid ((cl.map (clC f)).length=cl.length):=hide (List.length_map _)
 generalize hII:graceI f (cells.map pad4) cl.length=II at*
 generalize hRR:rowsG cells.length cl.length cl.length=RR at*
 generalize hfi:(f:Int)=fi at*
 clear hfi hf ho hc hk
 go_enter Tryz.func30,Tryz.ntmps30
 go_wp2_with fail
 refine HBE.out.mono ?_
 rintro e w2 ⟨sb,rv,rs,rfl,h2⟩
 have HG2:=hide (HGR.out _ _ _ _ _ _ h2)
 clear h2 HBE HGR
 go_wp2_with fail
 refine HG2.out.mono ?_
 rintro e w3 ⟨rfl,h3⟩
 have H3:=hide h3
 clear h3 HG2
 go_wp2_with fail
 refine(HGO.out _).mono ?_
 rintro e w4 ⟨vg,rfl,hg,hb4⟩
 have H4:=hide (H3.out.below hb4)
 have HBW:=hide (below_step HB0.out (H4.out.low))
 have HW4:=hide (HWI.out _ _ _ _ _ _ H4.out HBW.out vg _ hg)
 obtain⟨xg,cg,eg, -⟩:=ownsRow_shape hg
 subst eg
 clear hg hb4 H3 HWI HGO
 go_wp2_with fail
 refine HW4.out.mono ?_
 rintro e w5 ⟨iv,vs,vc,ks,B,rfl,hT5,hK5,hB5,hb5⟩
 have hlow:=below_step H4.out.low hb5
 have HB6:=hide (below_step HBW.out hb5)
 obtain⟨ai,ci,eiv, -⟩:=ownsRow_shape hT5.oi
 obtain⟨ar,cr,erv, -⟩:=ownsRow_shape hT5.or'
 rw[HRL.out] at erv
 obtain⟨ax,cx,evc,hcx⟩:=hK5.codes
 have hmc:(cl.map (thC f (gCode clGone (gGone f)))).length=cl.length:=List.length_map _
 rw[hmc] at evc
 subst eiv
 subst erv
 subst evc
 obtain⟨q1,q2,q3⟩:=HRC.out
 have b0:=keep_cell hlow ((q1 0).trans (show _=some (.int .i64 0) from rfl))
 have b1:=keep_cell hlow ((q1 1).trans (show _=some (.slice none 0 0) from rfl))
 have b2:=keep_cell hlow ((q1 2).trans (show _=some (.slice none 0 0) from rfl))
 have z0:=(hlow.frozen (show(⟨w.heap.size,0,none⟩:Addr).block<_ from q3)).trans (q2 0)
 have z1:=(hlow.frozen (show(⟨w.heap.size,1,none⟩:Addr).block<_ from q3)).trans (q2 1)
 have z2:=(hlow.frozen (show(⟨w.heap.size,2,none⟩:Addr).block<_ from q3)).trans (q2 2)
 have hw4:w.heap.size<B:=by have:=HBW.out.size;have:=H4.out.low.size;omega
 have HB9:Hid (Below w.heap.size w (((w5.setCell ⟨w.heap.size,0,none⟩ (.int .i64 64)).setCell ⟨w.heap.size,1,none⟩ (.slice ai II.length ci)).setCell ⟨w.heap.size,2,none⟩ (.slice ar cl.length cr))):=hide (((HB6.out.setCell nL _).setCell nL _).setCell nL _)
 have HS9:Hid (TW _ sb (((w5.setCell ⟨w.heap.size,0,none⟩ (.int .i64 64)).setCell ⟨w.heap.size,1,none⟩ (.slice ai II.length ci)).setCell ⟨w.heap.size,2,none⟩ (.slice ar cl.length cr)) [] (.slice ai II.length ci) vs II (.slice ar cl.length cr) rs RR (((w5.setCell ⟨w.heap.size,0,none⟩ (.int .i64 64)).setCell ⟨w.heap.size,1,none⟩ (.slice ai II.length ci)).setCell ⟨w.heap.size,2,none⟩ (.slice ar cl.length cr))):=hide
  (((hT5.out q3 0 (.int .i64 64) rfl).out q3 1 (.slice ai II.length ci) rfl).out q3 2 (.slice ar cl.length cr) rfl)
 have HK9:Hid (KP B (((w5.setCell ⟨w.heap.size,0,none⟩ (.int .i64 64)).setCell ⟨w.heap.size,1,none⟩ (.slice ai II.length ci)).setCell ⟨w.heap.size,2,none⟩ (.slice ar cl.length cr)) (.slice ax cl.length cx) ks (cl.map (clC f)) (((w5.setCell ⟨w.heap.size,0,none⟩ (.int .i64 64)).setCell ⟨w.heap.size,1,none⟩ (.slice ai II.length ci)).setCell ⟨w.heap.size,2,none⟩ (.slice ar cl.length cr))):=hide
  (((hK5.out hw4 0 (.int .i64 64)).out hw4 1 (.slice ai II.length ci)).out hw4 2 (.slice ar cl.length cr))
 have HE9:Hid ((((w5.setCell ⟨w.heap.size,0,none⟩ (.int .i64 64)).setCell ⟨w.heap.size,1,none⟩ (.slice ai II.length ci)).setCell ⟨w.heap.size,2,none⟩ (.slice ar cl.length cr)).cell? ⟨w.heap.size,0,none⟩=some (.int .i64 64)/\(((w5.setCell ⟨w.heap.size,0,none⟩ (.int .i64 64)).setCell ⟨w.heap.size,1,none⟩ (.slice ai II.length ci)).setCell ⟨w.heap.size,2,none⟩ (.slice ar cl.length cr)).cell? ⟨w.heap.size,1,none⟩=some (.slice ai II.length ci)/\(((w5.setCell ⟨w.heap.size,0,none⟩ (.int .i64 64)).setCell ⟨w.heap.size,1,none⟩ (.slice ai II.length ci)).setCell ⟨w.heap.size,2,none⟩ (.slice ar cl.length cr)).cell? ⟨w.heap.size,2,none⟩=some (.slice ar cl.length cr)):=hide (by
  have x0:(w5.setCell ⟨w.heap.size,0,none⟩ (.int .i64 64)).cell? ⟨w.heap.size,0,none⟩=some (.int .i64 64):=World.cell?_setCell_same _ _ _ b0
  have x1:((w5.setCell ⟨w.heap.size,0,none⟩ (.int .i64 64)).setCell ⟨w.heap.size,1,none⟩ (.slice ai II.length ci)).cell? ⟨w.heap.size,1,none⟩=some (.slice ai II.length ci):=World.cell?_setCell_same _ _ _ (cell_ne b1 (.inr (by decide)))
  have x2:(((w5.setCell ⟨w.heap.size,0,none⟩ (.int .i64 64)).setCell ⟨w.heap.size,1,none⟩ (.slice ai II.length ci)).setCell ⟨w.heap.size,2,none⟩ (.slice ar cl.length cr)).cell? ⟨w.heap.size,2,none⟩=some (.slice ar cl.length cr):=World.cell?_setCell_same _ _ _ (cell_ne (cell_ne b2 (.inr (by decide))) (.inr (by decide)))
  exact⟨cell_ne (cell_ne x0 (.inr (by decide))) (.inr (by decide)),cell_ne x1 (.inr (by decide)),x2⟩)
 have HQ3:=hide q3
 have HQ4:=hide hw4
 clear hT5 hK5 hb5 hlow H4 HW4 hcx q1 q2 q3 hw4 HRC
 go_wp2_with fail
 obtain⟨e0,e1,e2⟩:=HE9.out
 have hBf:=HB9.out
 have hst:=HS9.out
 have hco:=HK9.out
 generalize (((w5.setCell ⟨w.heap.size,0,none⟩ (.int .i64 64)).setCell ⟨w.heap.size,1,none⟩ (.slice ai II.length ci)).setCell ⟨w.heap.size,2,none⟩ (.slice ar cl.length cr))=W9 at*
 refine bodyPost_ret (v:= .tuple #[.agg #[.int .i64 64, .slice ai II.length ci, .slice ar cl.length cr], .slice ax cl.length cx, .nilIface]) (by rw[results_cell_tmp2 (show Tryz.f30.results=_ from rfl)];go_simp) rfl ?_
 exact⟨_,sb,_,vs,_,rs,_,ks,B,rfl,hst,hco,HQ3.out,HQ4.out,hBf⟩
end
section
open Go.RowKit Go.Extern.Stop Go.Stop Go.Extern Go.Maps Go.WideMaps Go.Sort
variable {l:List ByteArray} {w:World} {ad:Option Addr} {cap:Nat}
def txtsAt(ad:Option Addr)(l:List ByteArray)(w:World):Prop:= ∀(i:Nat) x,l[i]? =some x-> ∃b off,ad=some ⟨b,off,none⟩/\w.cell? ⟨b,off+i,none⟩=some (.string x)
def anyTo(k:ByteArray)(l:List ByteArray)(j:Nat):Bool:=(l.take j).any fun s=>k.toList==s.toList
theorem anyTo_succ{k:ByteArray}{j:Nat}{s:ByteArray}(h:l[j]? =some s):anyTo k l (j+1)=(anyTo k l j ||(k.toList==s.toList)):=by
 unfold anyTo
 rw[List.take_add_one,h,List.any_append]
 simp
theorem index_any (k:ByteArray) (h:txtsAt ad l w) (hl:l.length<=100):
  Calls Tryz.prog 243 #[.slice ad l.length cap, .string k] w fun e w'=> ∃r:Int,e= .returned (.int .i64 r)/\decide (0<=r)=anyTo k l l.length/\w'=w:=by
 have HH:=hide h
 obtain⟨n,hn⟩: ∃n,Hid (l.length=n):=⟨_,hide rfl⟩
 rw[hn.out] at hl ⊢
 clear h
 go_enter Tryz.func243,Tryz.ntmps243
 go_wp2_with fail
 go_loopw [5,8] (fun _ i wr=> ∃j:Nat,j<=n/\i= .int .i64 j/\Hid (anyTo k l j=false)/\w=wr) (fun _ i _=>n - (intOf i).toNat)
 case atStart=>exact⟨0,Nat.zero_le _,rfl,hide rfl,(by first |rfl |trivial)⟩
 case round=>
  obtain⟨j,hj,rfl,HA,rfl⟩:=hrel
  by_cases hlt:j<n
  ·have ji:(j:Int)<n:=by omega
   obtain⟨s,hs⟩: ∃s,l[j]? =some s:=⟨_,List.getElem?_eq_getElem (by rw[hn.out];exact hlt)⟩
   obtain⟨b,off,rfl,c0⟩:=HH.out j s hs
   have HS:=hide (anyTo_succ (k:=k) hs)
   have hmono: ∀m,j+1<=m->anyTo k l (j+1)=true->anyTo k l m=true:=fun m hm he=>by
    unfold anyTo at he ⊢
    rw[List.any_eq_true] at he ⊢
    obtain⟨x,hx,hp⟩:=he
    exact⟨x,(List.take_subset_take_left _ hm) hx,hp⟩
   have HM:=hide hmono
   clear hs hmono
   cases he:(k.toList==s.toList)
   ·have HA2:Hid (anyTo k l (j+1)=false):=hide (by rw[HS.out,HA.out,he];rfl)
    clear HS HA HM
    go_wp2_with fail
    go_roundw
    case rel=>exact⟨j+1,by omega,by go_num,HA2,(by first |rfl |trivial)⟩
    case measure=>simp[intOf];omega
   ·have HA2:Hid (anyTo k l n=true):=hide (HM.out n (by omega) (by rw[HS.out,he,Bool.or_true]))
    clear HS HA HM
    go_wp2_with fail
    go_ret
    exact⟨j,rfl,by rw[HA2.out];exact decide_eq_true (by omega),rfl⟩
  ·obtain rfl:j=n:=by omega
   go_wp2_with fail
   go_ret
   exact⟨-1,rfl,by rw[HA.out];rfl,rfl⟩
theorem contains_any(k:ByteArray)(h:txtsAt ad l w)(hl:l.length<=100):
  Calls Tryz.prog 225 #[.slice ad l.length cap, .string k] w fun e w'=>e= .returned (.bool (anyTo k l l.length))/\w'=w:=by
 have HI:=hide (index_any (cap:=cap) k h hl)
 clear h
 generalize anyTo k l l.length=B at*
 go_enter Tryz.func225,Tryz.ntmps225
 go_wp2_with fail
 refine HI.out.mono ?_
 rintro e w2 ⟨r,rfl,hr,rfl⟩
 go_wp2_with fail
 go_ret
 refine⟨?_,rfl⟩
 rw[<-hr]
 rfl
def clKinds:List ByteArray:=[⟨#[101,110,116,101,114]⟩,⟨#[108,101,97,118,101]⟩,⟨#[114,101,115,116]⟩,⟨#[119,97,105,116]⟩,⟨#[114,101,97,100]⟩,⟨#[100,114,111,112]⟩,⟨#[108,97,116,101,114]⟩,⟨#[102,108,117,115,104]⟩]
theorem clKinds_any(k:ByteArray):anyTo k clKinds 8=decide (2<=kn k.toList):=by
 have e:anyTo k clKinds 8=((k.toList==[101,110,116,101,114]) ||(k.toList==[108,101,97,118,101]) ||(k.toList==[114,101,115,116]) ||(k.toList==[119,97,105,116]) ||(k.toList==[114,101,97,100]) ||(k.toList==[100,114,111,112]) ||(k.toList==[108,97,116,101,114]) ||(k.toList==[102,108,117,115,104])):=by
  unfold anyTo clKinds
  simp only[List.take_succ_cons,List.take_zero,List.any_cons,List.any_nil,Bool.or_false,toList_bl,Bool.or_assoc]
 rw[e]
 clear e
 rcases kcases k.toList with⟨h,hk⟩ |⟨h,hk⟩ |⟨h,hk⟩ |⟨h,hk⟩ |⟨h,hk⟩ |⟨h,hk⟩ |⟨h,hk⟩ |⟨h,hk⟩ |⟨h,hk⟩ |⟨h,hk⟩
 all_goals
  rw[hk]
  obtain⟨e1,e2,e3,e4,e5,e6,e7,e8,e9⟩:=h
  simp only[e2,e3,e4,e5,e6,e7,e8,e9]
  try rfl
def shErr(i:Nat)(n:Int):Nat:=if i=1 then(if n<1∨1000<n then 2 else 0) else(if n≠0∨i=0 then 3 else 0)
theorem tshape_any {a:Nat->Addr} (k:ByteArray) (n:Int) {b c:Nat} (hE:EnvL a w) (ht:txtsAt (some ⟨b,0,none⟩) clKinds w):
  Calls Tryz.prog 173 #[.agg #[.string k, .int .i64 n], .string ⟨#[112,117,116]⟩, .slice (some ⟨b,0,none⟩) 8 c] w fun e w'=>e= .returned (errVal a (shErr (kn k.toList) n))/\Below w.heap.size w w':=by
 have hB:Below w.heap.size w (w.alloc (.cells #[.string k, .int .i64 n] 69)):=bRf.alloc nL _
 have g1:(w.alloc (.cells #[.string k, .int .i64 n] 69)).cell? ⟨0,0,none⟩=some (errAt (a 1)):=keep_cell hB (hE.cell 1 (by decide))
 have g2:(w.alloc (.cells #[.string k, .int .i64 n] 69)).cell? ⟨3,0,none⟩=some (errAt (a 2)):=keep_cell hB (hE.cell 2 (by decide))
 have htB:txtsAt (some ⟨b,0,none⟩) clKinds (w.alloc (.cells #[.string k, .int .i64 n] 69)):=fun i x hx=>by
  obtain⟨b',off,e,hc⟩:=ht i x hx
  exact⟨b',off,e,keep_cell hB hc⟩
 have hct:=contains_any (cap:=c) k htB (show 8<=100 by decide)
 rw[show clKinds.length=8 from rfl,clKinds_any] at hct
 have HC:=hide hct
 have hd:n<1∨ ¬n<1/\(1000<n∨ ¬1000<n):=by omega
 have hz:(n !=0)=true/\n≠0∨n=0:=by
  by_cases e:n=0
  ·exact .inr e
  ·exact .inl ⟨by simpa using e,e⟩
 clear hE ht htB hct
 by_cases h1:kn k.toList=1
 ·have hk1:(k.toList==[112,117,116])=true:=by
   rcases kcases k.toList with⟨h,hk⟩ |⟨h,hk⟩ |⟨h,hk⟩ |⟨h,hk⟩ |⟨h,hk⟩ |⟨h,hk⟩ |⟨h,hk⟩ |⟨h,hk⟩ |⟨h,hk⟩ |⟨h,hk⟩
   ·exact h.1
   all_goals(rw[hk] at h1;exact absurd h1 (by decide))
  rw[h1]
  clear h1 HC
  rcases hd with d1 |⟨d1,d2 |d2⟩
  all_goals
   go_enter Tryz.func173,Tryz.ntmps173
   go_wp2_with fail
   go_ret
   refine⟨?_,hB⟩
   first
    |(rw[show shErr 1 n=2 by unfold shErr;rw[if_pos rfl,if_pos (by omega)]];rfl)
    |(rw[show shErr 1 n=0 by unfold shErr;rw[if_pos rfl,if_neg (by omega)]];rfl)
 ·have hk1:(k.toList==[112,117,116])=false:=by
   rcases kcases k.toList with⟨h,hk⟩ |⟨h,hk⟩ |⟨h,hk⟩ |⟨h,hk⟩ |⟨h,hk⟩ |⟨h,hk⟩ |⟨h,hk⟩ |⟨h,hk⟩ |⟨h,hk⟩ |⟨h,hk⟩
   ·exact absurd hk h1
   all_goals exact h.1
  rcases hz with⟨hz,hz2⟩ |rfl
  ·clear HC
   go_enter Tryz.func173,Tryz.ntmps173
   go_wp2_with fail
   go_ret
   refine⟨?_,hB⟩
   simp[shErr,h1,hz2,errVal]
  ·by_cases h0:kn k.toList=0
   ·rw[h0] at HC
    go_enter Tryz.func173,Tryz.ntmps173
    go_wp2_with fail
    refine HC.out.mono ?_
    rintro e w2 ⟨rfl,rfl⟩
    go_wp2_with fail
    go_ret
    refine⟨?_,hB⟩
    simp[shErr,h0,errVal]
   ·rw[decide_eq_true (show 2<=kn k.toList by omega)] at HC
    go_enter Tryz.func173,Tryz.ntmps173
    go_wp2_with fail
    refine HC.out.mono ?_
    rintro e w2 ⟨rfl,rfl⟩
    go_wp2_with fail
    go_ret
    refine⟨?_,hB⟩
    simp[shErr,h0,h1,errVal]
end
end Go.Proofs.YtnoigmdmgdcliaaGreatDoor
