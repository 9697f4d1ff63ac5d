import Derived.Test.YtnoigmdmgdcliaaGreatDoorA29
import Derived.Test.YtnoigmdmgdcliaaGreatDoorA42
import Derived.Test.YtnoigmdmgdcliaaGreatDoorA30
import Derived.Test.YtnoigmdmgdcliaaGreatDoorA36
import Derived.Test.YtnoigmdmgdcliaaGreatDoorA27
import Derived.Test.YtnoigmdmgdcliaaGreatDoorA24
import Derived.Test.YtnoigmdmgdcliaaGreatDoorA28
import Derived.Test.YtnoigmdmgdcliaaGreatDoorA11
import Derived.Test.YtnoigmdmgdcliaaGreatDoorA02
import Derived.Maps.AppendAt
import Derived.Laws.AppendOwnNone
namespace Go.Proofs.YtnoigmdmgdcliaaGreatDoor
set_option maxRecDepth 100000
set_option maxHeartbeats 8000000
section
open Go.RowKit Go.Extern.Stop Go.Stop Go.Extern Go.Maps Go.WideMaps Go.Sort
theorem is_nilE(b:Addr)(w:World):Calls Tryz.prog 46 #[.nilIface, .iface 358 (.pointer (some b))] w fun e w'=>e= .returned (.bool false)/\w'=w:=by
 have heq: ∀w:World,(binOp .eql 27 .nilIface (.iface 358 (.pointer (some b)))).run Tryz.prog w= .ok (.bool false) w:=fun _=>by kernel_rfl
 go_enter Tryz.func46,Tryz.ntmps46
 go_wp2
 go_ret
 exact⟨rfl,rfl⟩
def VerdPost (cs:List (List Ins)) (m0:Mk) (mo:Int) (w:World) (e:Ending) (w':World):Prop:=
 Below w.heap.size w w'/\ ∃f S,
  ((searchO cs mo (2*cs.length) f (firstS cs m0)=(.go,S)/\S.ms=[]/\e= .returned (.tuple #[.agg #[.string ⟨#[115,97,102,101]⟩, .int .i64 S.s, .slice none 0 0], .nilIface]))∨
   (searchO cs mo (2*cs.length) f (firstS cs m0)=(.bound,S)/\e= .returned (.tuple #[.agg #[.string ⟨#[108,97,114,103,101]⟩, .int .i64 0, .slice none 0 0], .nilIface]))∨
   (∃x l,searchO cs mo (2*cs.length) f (firstS cs m0)=(.fault x,S)/\Back S.E x l/\0<l.length/\ ∃v,e= .returned (.tuple #[.agg #[.string ⟨#[102,97,117,108,116]⟩, .int .i64 S.s,v], .nilIface])/\numsOwn w' w.heap.size v l.reverse))
theorem jclient_ok{a:Nat->Addr}{f:Nat}(hf:1<=f/\f<=4){ad:Option Addr}{cl:List (List OpI)}{cap:Nat}{w:World}(hE:Env a w)(ho:opRowsAt ad cl w)(h0:(eachE cl).1=0) 
  (hsz: ∀(t:Nat) L,(cl.map (clC f))[t]? =some L-> ∀(i:Nat) x,L[i]? =some x->x.to.size<=maxLen) {mo:Int} (hmo:1<=mo/\mo<=60000):
  Calls Tryz.prog 20 #[.int .i64 f, .slice ad cl.length cap, .int .i64 mo] w fun e w'=>Hid (VerdPost (cl.map (clC f)) ((clSta f cl.length).mach cl.length) mo w e w'):=by
 obtain⟨-,h6,h1, -⟩:=eachE_ok h0
 obtain⟨w1,hw1⟩: ∃w1,w1=w.alloc (.cells #[.string ⟨#[]⟩, .int .i64 0, .slice none 0 0] 64):=⟨_,rfl⟩
 have b1:Below w.heap.size w w1:=by rw[hw1];exact bRf.alloc nL _
 have t0:w1.cell? ⟨w.heap.size,0,none⟩=some (.string ⟨#[]⟩):=by rw[hw1];simp
 have t1:w1.cell? ⟨w.heap.size,1,none⟩=some (.int .i64 0):=by rw[hw1];simp
 have t2:w1.cell? ⟨w.heap.size,2,none⟩=some (.slice none 0 0):=by rw[hw1];simp
 have z: ∀o,w1.frozen? ⟨w.heap.size,o,none⟩=false:=fun o=>by rw[hw1];exact World.frozen?_alloc_new _ _ _ _
 have HBU:=hide (clbuild_ok (cap:=cap) hf (hE.below b1.block).toL (ho.below b1) h0)
 have hfl0:=clFault_none hf h0
 have HAS:=hide (fun(ai ar ad:Option Addr) (ci cr cap:Nat) (W:World) (hb:Below w.heap.size w W) (hs:StaAt (clSta f cl.length) ⟨ai,ci,ar,cr⟩ W) (hl:codesAt ad (cl.map (clC f)) W)=>all_search (cap:=cap) mo (hE.below hb.block) hs hl hsz (by rw[hfl0]) hmo)
 have HEB:=hide (fun(W:World) (hb:Below w.heap.size w W)=>show W.cell? ⟨0,0,none⟩=some (errAt (a 1)) from(hE.below hb.block).cell 1 (by decide))
 have HIL:Hid ((graceI f (clCells.map pad4) cl.length).length<=20):=hide (by rw[graceI_len,List.length_map];show 2+1+_<=20;omega)
 have HIR:Hid (∀row∈graceI f (clCells.map pad4) cl.length,row.length<=100):=hide fun row hr=>by
  rw[graceI_rows (fun row hr=>by obtain⟨x, -,rfl⟩:=List.mem_map.1 hr;exact pad4_len x) row hr];decide
 have HRR:Hid (∀row∈rowsG 2 cl.length cl.length,row.length<=100):=hide fun row hr=>by
  rw[rowsG_rows row hr];decide
 have HRL:Hid ((rowsG 2 cl.length cl.length).length<=6):=hide (by rw[rowsG_len];exact h6)
 have HMC:Hid ((cl.map (clC f)).length=cl.length):=hide (List.length_map _)
 have HST:Hid (clSta f cl.length=⟨64,graceI f (clCells.map pad4) cl.length,rowsG 2 cl.length cl.length⟩):=hide rfl
 have i1: ¬mo<1:=by omega
 have i2: ¬60000<mo:=by omega
 clear hE ho h0 hsz hfl0 h1 h6
 have HM:Hid ((clSta f cl.length).cells=64/\(clSta f cl.length).init=graceI f (clCells.map pad4) cl.length/\(clSta f cl.length).regs=rowsG 2 cl.length cl.length):=hide ⟨rfl,rfl,rfl⟩
 generalize clSta f cl.length=S at*
 generalize graceI f (clCells.map pad4) cl.length=II at*
 generalize rowsG 2 cl.length cl.length=RR at*
 generalize cl.map (clC f)=CC at*
 generalize hfi:(f:Int)=fi at*
 clear hfi hf
 generalize hn:cl.length=n at*
 clear hn
 obtain⟨s1,s2,s3⟩:=HM.out
 clear HM
 go_enter Tryz.func20,Tryz.ntmps20
 go_wp2_with fail
 rw[<-hw1]
 have hlt:w.heap.size<w1.heap.size:=bLt t0
 have HW1:=hide hw1
 clear hw1
 refine HBU.out.mono ?_
 rintro e w6 ⟨base,sb,iv,vs,rv,rs,vc,ks,B,rfl,hT6,hK6, -, -,hb6⟩
 obtain⟨ai,ci,ar,cr,eiv,erv,hsta⟩:=TW.sta hT6 rfl (by have:=HIL.out;omega) (by have:=HRL.out;omega) HIR.out HRR.out
 obtain⟨ax,cx,evc,hcx⟩:=hK6.codes
 rw[HMC.out] at evc
 subst eiv
 subst erv
 subst evc
 rw[<-HST.out] at hsta
 have hal:Below w6.heap.size w6 (w6.alloc (.cells #[.int .i64 64, .slice ai II.length ci, .slice ar RR.length cr] 40)):=bRf.alloc nL _
 have b7:Below w1.heap.size w1 (w6.alloc (.cells #[.int .i64 64, .slice ai II.length ci, .slice ar RR.length cr] 40)):=below_step hb6 hal
 have HA6:=hide (HAS.out _ _ _ _ _ cx _ (below_step b1 b7) (hsta.below hal) (hcx.below hal))
 rw[s1,s2,s3,HMC.out] at HA6
 have HB7:=hide (below_step b1 b7)
 have z0:(w6.alloc (.cells #[.int .i64 64, .slice ai II.length ci, .slice ar RR.length cr] 40)).cell? ⟨w6.heap.size,0,none⟩=some (.int .i64 64):=by simp
 have z1:(w6.alloc (.cells #[.int .i64 64, .slice ai II.length ci, .slice ar RR.length cr] 40)).cell? ⟨w6.heap.size,1,none⟩=some (.slice ai II.length ci):=by simp
 have z2:(w6.alloc (.cells #[.int .i64 64, .slice ai II.length ci, .slice ar RR.length cr] 40)).cell? ⟨w6.heap.size,2,none⟩=some (.slice ar RR.length cr):=by simp
 replace t0:=keep_cell b7 t0
 replace t1:=keep_cell b7 t1
 replace t2:=keep_cell b7 t2
 have y0:=(b7.frozen (p:=⟨w.heap.size,0,none⟩) hlt).trans (z 0)
 have y1:=(b7.frozen (p:=⟨w.heap.size,1,none⟩) hlt).trans (z 1)
 have y2:=(b7.frozen (p:=⟨w.heap.size,2,none⟩) hlt).trans (z 2)
 clear hT6 hK6 hb6 hsta hcx HBU HIL HIR HRR HRL HST HAS hal b7 b1 z HW1
 generalize II.length=iL at*
 generalize RR.length=rL at*
 go_wp2_with fail
 generalize w6.alloc (.cells #[.int .i64 64, .slice ai iL ci, .slice ar rL cr] 40)=w7 at*
 generalize w6.heap.size=bs at*
 refine HA6.out.mono ?_
 rintro e w8 hp
 obtain⟨hb8,fu,T,hres⟩:=hp.out
 have hl7:w.heap.size<w7.heap.size:=bLt t0
 have HB8:=hide (below_step HB7.out hb8)
 have g8:=HEB.out w8 HB8.out
 replace t0:=keep_cell hb8 t0
 replace t1:=keep_cell hb8 t1
 replace t2:=keep_cell hb8 t2
 replace y0:=(hb8.frozen (p:=⟨w.heap.size,0,none⟩) hl7).trans y0
 replace y1:=(hb8.frozen (p:=⟨w.heap.size,1,none⟩) hl7).trans y1
 replace y2:=(hb8.frozen (p:=⟨w.heap.size,2,none⟩) hl7).trans y2
 have hg8:0<w8.heap.size:=bLt g8
 have hl8:w.heap.size<w8.heap.size:=bLt t0
 clear HA6 hp hb8 HB7 HEB z0 z1 z2
 rcases hres with⟨r1,r2,rfl⟩ |⟨r1,rfl⟩ |⟨x,l,r1,r2,r3,v,rfl,hv⟩
 ·unfold toldV
  have HIS:=hide (fun W=>is_nilE (a 1) W)
  go_wp2_with fail
  refine(HIS.out _).mono ?_
  rintro e w9 ⟨rfl,rfl⟩
  go_wp2_with fail
  refine bodyPost_ret (v:= .tuple #[.agg #[.string ⟨#[115,97,102,101]⟩, .int .i64 T.s, .slice none 0 0], .nilIface]) (by simp only[results,Tryz.results20];go_simp) rfl ?_
  exact hide ⟨((((HB8.out.setCell nL _).setCell nL _).setCell nL _).alloc (by simp only[World.size_setCell];omega) _),fu,T, .inl ⟨r1,r2,rfl⟩⟩
 ·unfold toldV
  have HIS:=hide (fun W=>is_same (a 1) W)
  go_wp2_with fail
  refine(HIS.out _).mono ?_
  rintro e w9 ⟨rfl,rfl⟩
  go_wp2_with fail
  refine bodyPost_ret (v:= .tuple #[.agg #[.string ⟨#[108,97,114,103,101]⟩, .int .i64 0, .slice none 0 0], .nilIface]) (by simp only[results,Tryz.results20];go_simp) rfl ?_
  exact hide ⟨((((HB8.out.setCell nL _).setCell nL _).setCell nL _).alloc (by simp only[World.size_setCell];omega) _),fu,T, .inr (.inl ⟨r1,rfl⟩)⟩
 ·obtain⟨av,cv,rfl, -⟩:=numsOwn_open hv (by rw[List.length_reverse];exact r3)
  have HV:=hide hv
  have HIS:=hide (fun W=>is_nilE (a 1) W)
  clear hv
  unfold toldV
  go_wp2_with fail
  refine(HIS.out _).mono ?_
  rintro e w9 ⟨rfl,rfl⟩
  go_wp2_with fail
  refine bodyPost_ret (v:= .tuple #[.agg #[.string ⟨#[102,97,117,108,116]⟩, .int .i64 T.s, .slice (some av) l.reverse.length cv], .nilIface]) (by simp only[results,Tryz.results20];go_simp) rfl ?_
  refine hide ⟨((((HB8.out.setCell nL _).setCell nL _).setCell nL _).alloc (by simp only[World.size_setCell];omega) _),fu,T, .inr (.inr ⟨x,l,r1,r2,r3,_,rfl,?_⟩)⟩
  have hob:w7.heap.size<=av.block:=(World.ownsRow.lt HV.out av.block rfl).1
  have hob2:av.block<w8.heap.size:=(World.ownsRow.lt HV.out av.block rfl).2
  refine numsOwn_mono (base:=w7.heap.size) (ownsRow_block HV.out fun b hb=>?_) (Nat.le_of_lt hl7)
  obtain rfl:av.block=b:=by cases hb;rfl
  have n2:av.block≠w.heap.size:=by omega
  rw[Below.heap_alloc _ _ _ (by simp only[World.size_setCell];exact hob2),Below.heap_setCell _ _ _ _ n2,Below.heap_setCell _ _ _ _ n2,Below.heap_setCell _ _ _ _ n2]
end
section
open Go.RowKit Go.Extern.Stop Go.Stop Go.Extern Go.Maps Go.WideMaps Go.Sort
theorem each_nil1:(eachE [[]]).1=0:=by decide
theorem opRowsAt_one{w:World}{L:List OpI}{adl:Option Addr}{n capl:Nat}{t:TypeId}(hn:L.length=n)(h:opsAt adl L w):opRowsAt (some ⟨w.heap.size,0,none⟩) [L] (w.alloc (.cells #[.slice adl n capl] t)):=by
 subst hn
 intro i M hM
 cases i with
 | zero=>
  cases hM
  exact⟨_,0,adl,capl,rfl,by rw[World.cell?_alloc_new];rfl,h.below (bRf.alloc nL _)⟩
 |succ i=>simp at hM
end
section
open Go.RowKit Go.Extern.Stop Go.Stop Go.Extern Go.Maps Go.WideMaps Go.Sort
def toldCs:List (List Ins):=([[]]:List (List OpI)).map (clC 1)
def toldM:Mk:=(clSta 1 1).mach 1
theorem told_some:(match searchL toldCs 2 5 ⟨[toldM],[toldM]⟩ with
 |some R=>decide (0<R.length)&&decide (R.length<=40)
 |none=>false)=true:=by decide+kernel
theorem told_verd {w w':World} {e:Ending} (h:VerdPost toldCs toldM 50 w e w'):Below w.heap.size w w'/\ ∃s:Int,0<s/\e= .returned (.tuple #[.agg #[.string ⟨#[115,97,102,101]⟩, .int .i64 s, .slice none 0 0], .nilIface]):=by
 obtain⟨hb,f,S,hres⟩:=h
 refine⟨hb,?_⟩
 have hl:=told_some
 have hg:numsGood toldCs.length toldM=true:=by decide+kernel
 have hN:2*toldCs.length=2:=rfl
 rw[hN] at hres
 cases hs:searchL toldCs 2 5 ⟨[toldM],[toldM]⟩ with
 |none=>rw[hs] at hl;cases hl
 | some R=>
  rw[hs] at hl
  simp only[Bool.and_eq_true,decide_eq_true_eq] at hl
  obtain⟨S',g1,g2⟩:=searchL_ok (mo:=50) 5 f (first_sm hg) hs (by omega)
  rcases hres with⟨r1,r2,r3⟩ |⟨r1, -⟩ |⟨x,l,r1, -⟩
  ·rw[r1] at g1
   cases g1
   exact⟨_,by rw[(g2 r2).2];omega,r3⟩
  ·rw[r1] at g1;cases g1
  ·rw[r1] at g1;cases g1
theorem told_short: ∀(t:Nat) L,(([[]]:List (List OpI)).map (clC 1))[t]? =some L-> ∀(i:Nat) x,L[i]? =some x->x.to.size<=maxLen:=fun t L ht i x hx=>by
 have key:(toldCs.all fun L=>L.all fun x=>decide (x.to.size<=12))=true:=by decide+kernel
 have h1:=List.all_eq_true.1 key L (List.mem_of_getElem? ht)
 have h2:=of_decide_eq_true (List.all_eq_true.1 h1 x (List.mem_of_getElem? hx))
 unfold maxLen
 omega
theorem told_any{a:Nat->Addr}{w:World}(hE:Env a w):
  Calls Tryz.prog 5 #[] w fun e w'=>e= .returned (.bool true)/\Below w.heap.size w w':=by
 have HJ:=hide (fun(W:World) (hb:Below w.heap.size w W) (ad:Option Addr) (cap:Nat) (h:opRowsAt ad [[]] W)=>jclient_ok (f:=1) (cap:=cap) (by decide) (hE.below hb.block) h each_nil1 told_short (mo:=50) (by decide))
 have HO:=hide (fun(n cp:Nat) (t:TypeId) (W:World)=>opRowsAt_one (w:=W) (L:=[]) (adl:=some ⟨n,0,none⟩) (n:=0) (capl:=cp) (t:=t) rfl (fun i x hx=>by simp at hx))
 clear hE
 go_enter Tryz.func5,Tryz.ntmps5
 go_wp2_with fail
 have b2:Below w.heap.size w ((w.alloc (.cells #[] 69)).alloc (.cells #[.slice (some ⟨w.heap.size,0,none⟩) 0 0] 67)):=(bRf.alloc nL _).alloc (by simp) _
 have hr:=HO.out w.heap.size 0 67 (w.alloc (.cells #[] 69))
 rw[World.size_alloc] at hr
 refine(HJ.out _ b2 _ 1 hr).mono ?_
 rintro e w3 hp
 obtain⟨hb3,s,hs,rfl⟩:=told_verd hp.out
 have HB3:=hide (below_step b2 hb3)
 clear HJ HO hp hb3 hr b2
 go_wp2_with fail
 go_ret
 exact⟨rfl,HB3.out.alloc HB3.out.size _⟩
end
section
open Go.RowKit Go.Extern.Stop Go.Stop Go.Extern Go.Maps Go.WideMaps Go.Sort
theorem codesInfoW: ∃i,(Tryz.prog).info? 58=some i/\i.zero=some (.slice none 0 0)/\i.size=1/\i.bytes=24:=info_parts (by kernel_rfl)
structure Sees(fe:Bool)(v:Int)(j:Nat)(w0:World)(cv:Value)(us:List Value)(w:World):Prop where
 own:w.ownsRow w0.heap.size 58 1 cv j us
 codes: ∀u∈us,insOwn w w0.heap.size u (seCode fe v)
 ne: ∀u∈us, ∀b,u.ownBlock=some b->cv.ownBlock≠some b
 low:Below w0.heap.size w0 w
section
variable {fe:Bool} {v:Int} {j:Nat} {w0:World} {cv:Value} {us:List Value} {w w':World}
theorem Sees.below(h:Sees fe v j w0 cv us w)(k:Below w.heap.size w w'):Sees fe v j w0 cv us w' where
 own:=ownsRow_block h.own (fun b hb=>k.block b (h.own.lt b hb).2)
 codes u hu:=insOwn_keep (h.codes u hu) k
 ne:=h.ne
 low:=below_step h.low k
theorem Sees.code (h:Sees fe v j w0 cv us w) {u:Value} (hu:insOwn w w0.heap.size u (seCode fe v)) (hne: ∀b,u.ownBlock=some b->cv.ownBlock≠some b) {cv':Value} {N:Nat} (hN:w.heap.size<=N)
  (ho:w'.ownsRow w0.heap.size 58 1 cv' (j+1) (us++[u])) (hg:w.grownBy w' cv.ownBlock) (hloc:cv'.ownBlock=cv.ownBlock∨cv'.ownBlock=some N):Sees fe v (j+1) w0 cv' (us++[u]) w':=by
 have hB:Below w0.heap.size w w':=(Below.refl _ w).grown hg h.low.size (fun k hk=>(h.own.lt k hk).1)
 have nb: ∀b,b<w.heap.size->cv.ownBlock≠some b->cv'.ownBlock≠some b:=fun b hb hne e=>by
  rcases hloc with h1 |h1
  ·rw[h1] at e;exact hne e
  ·rw[h1] at e
   have:=Option.some.inj e
   omega
 have all: ∀x∈us++[u],insOwn w w0.heap.size x (seCode fe v)/\ ∀b,x.ownBlock=some b->cv.ownBlock≠some b:=fun x hx=>by
  rcases List.mem_append.1 hx with hx |hx
  ·exact⟨h.codes x hx,h.ne x hx⟩
  ·obtain rfl:x=u:=by simpa using hx
   exact⟨hu,hne⟩
 refine⟨ho,fun x hx=>insOwn_kept (all x hx).1 hg ?_,fun x hx b e=>nb b (World.ownsRow.lt (all x hx).1 b e).2 ((all x hx).2 b e),h.low.trans hB⟩
 cases hr:x.ownBlock with
 |none=>exact .inl rfl
 |some b=>exact .inr fun e=>(all x hx).2 b hr e.symm
theorem Sees.at'(h:Sees fe v 2 w0 cv us w): ∃ad cap,cv= .slice ad 2 cap/\codesAt ad (seCodes fe v) w:=by
 obtain⟨ad,cap,e2,g1,g2,g3⟩:=ownsRow_shape h.own
 have lv:us.length=2:=by have:=h.own.1;omega
 refine⟨ad,cap,e2,fun t L ht=>?_⟩
 have htl:t<2:=(List.getElem?_eq_some_iff.1 ht).1
 have hL:L=seCode fe v:=by
  match t,htl with
  |0,_=>cases ht;rfl
  |1,_=>cases ht;rfl
 subst hL
 obtain⟨u,hu⟩: ∃u,us[t]? =some u:=⟨_,List.getElem?_eq_getElem (by omega)⟩
 obtain⟨g,eg,cg⟩:=g3 t u hu
 obtain⟨adl,capl,eu,k1,k2,k3⟩:=insAt_of_icells (h.codes u (List.mem_of_getElem? hu))
 refine⟨g,0,adl,capl,eg,by rw[Nat.zero_add,cg,eu],k1,k3,fun en=>?_⟩
 rcases(h.codes u (List.mem_of_getElem? hu)).2 with⟨e4,e5⟩ |⟨gg,cc,cur,e4,_⟩
 ·exact List.length_eq_zero_iff.1 e5
 ·rw[eu] at e4
  cases e4
  cases en
end
theorem seCode_len(fe:Bool)(v:Int):0<(seCode fe v).length/\(seCode fe v).length<=4:=by
 cases fe
 ·exact⟨by show 0<3;decide,by show 3<=4;decide⟩
 ·exact⟨by show 0<4;decide,by show 4<=4;decide⟩
theorem insAt_new2{w:World}{l:List Ins}{cs:Array Value}{t:TypeId}{ob:Obj}(h:cs.toList=icells l):insAt (some ⟨w.heap.size+1,0,none⟩) l ((w.alloc ob).alloc (.cells cs t)):=by
 have:=insAt_new (w:=w.alloc ob) (t:=t) h
 rwa [World.size_alloc] at this
def seW(w:World):World:=((((((w.alloc (.cells #[.int .i64 0] 3)).alloc (.cells #[.int .i64 0] 3)).alloc (.cells #[.slice (some ⟨w.heap.size,0,none⟩) 1 1, .slice (some ⟨w.heap.size+1,0,none⟩) 1 1] 23)).alloc
 (.cells #[.int .i64 0, .int .i64 0, .int .i64 0, .int .i64 0, .int .i64 0, .int .i64 0, .int .i64 1, .int .i64 2] 3)).alloc (.cells #[.int .i64 0, .int .i64 0, .int .i64 0, .int .i64 0, .int .i64 0, .int .i64 0, .int .i64 2, .int .i64 1] 3)).alloc
 (.cells #[.slice (some ⟨w.heap.size+1+1+1,0,none⟩) 8 8, .slice (some ⟨w.heap.size+1+1+1+1,0,none⟩) 8 8] 23)).alloc (.cells #[.int .i64 2, .slice (some ⟨w.heap.size+1+1,0,none⟩) 2 2, .slice (some ⟨w.heap.size+1+1+1+1+1,0,none⟩) 2 2] 40)
theorem seW_below(w:World):Below w.heap.size w (seW w):=by
 unfold seW
 exact((((((((Below.refl _ w).alloc nL _).alloc (by simp) _).alloc (by simp;omega) _).alloc (by simp;omega) _).alloc (by simp;omega) _).alloc (by simp;omega) _).alloc (by simp;omega) _)
theorem seSta_at(w:World):StaAt seSta ⟨some ⟨w.heap.size+1+1,0,none⟩,2,some ⟨w.heap.size+1+1+1+1+1,0,none⟩,2⟩ (seW w):=by
 obtain⟨W1,h1⟩: ∃W,W=w.alloc (.cells #[.int .i64 0] 3):=⟨_,rfl⟩
 obtain⟨W2,h2⟩: ∃W,W=W1.alloc (.cells #[.int .i64 0] 3):=⟨_,rfl⟩
 obtain⟨W3,h3⟩: ∃W,W=W2.alloc (.cells #[.slice (some ⟨w.heap.size,0,none⟩) 1 1, .slice (some ⟨w.heap.size+1,0,none⟩) 1 1] 23):=⟨_,rfl⟩
 obtain⟨W4,h4⟩: ∃W,W=W3.alloc (.cells #[.int .i64 0, .int .i64 0, .int .i64 0, .int .i64 0, .int .i64 0, .int .i64 0, .int .i64 1, .int .i64 2] 3):=⟨_,rfl⟩
 obtain⟨W5,h5⟩: ∃W,W=W4.alloc (.cells #[.int .i64 0, .int .i64 0, .int .i64 0, .int .i64 0, .int .i64 0, .int .i64 0, .int .i64 2, .int .i64 1] 3):=⟨_,rfl⟩
 obtain⟨W6,h6⟩: ∃W,W=W5.alloc (.cells #[.slice (some ⟨w.heap.size+1+1+1,0,none⟩) 8 8, .slice (some ⟨w.heap.size+1+1+1+1,0,none⟩) 8 8] 23):=⟨_,rfl⟩
 obtain⟨W7,h7⟩: ∃W,W=W6.alloc (.cells #[.int .i64 2, .slice (some ⟨w.heap.size+1+1,0,none⟩) 2 2, .slice (some ⟨w.heap.size+1+1+1+1+1,0,none⟩) 2 2] 40):=⟨_,rfl⟩
 have e7:seW w=W7:=by rw[h7,h6,h5,h4,h3,h2,h1];rfl
 have s1:W1.heap.size=w.heap.size+1:=by rw[h1];simp
 have s2:W2.heap.size=w.heap.size+1+1:=by rw[h2,World.size_alloc,s1]
 have s3:W3.heap.size=w.heap.size+1+1+1:=by rw[h3,World.size_alloc,s2]
 have s4:W4.heap.size=w.heap.size+1+1+1+1:=by rw[h4,World.size_alloc,s3]
 have s5:W5.heap.size=w.heap.size+1+1+1+1+1:=by rw[h5,World.size_alloc,s4]
 have a6:Below W6.heap.size W6 W7:=by rw[h7];exact bRf.alloc nL _
 have a5:Below W5.heap.size W5 W7:=below_step (by rw[h6];exact bRf.alloc nL _) a6
 have a4:Below W4.heap.size W4 W7:=below_step (by rw[h5];exact bRf.alloc nL _) a5
 have a3:Below W3.heap.size W3 W7:=below_step (by rw[h4];exact bRf.alloc nL _) a4
 have a2:Below W2.heap.size W2 W7:=below_step (by rw[h3];exact bRf.alloc nL _) a3
 have a1:Below W1.heap.size W1 W7:=below_step (by rw[h2];exact bRf.alloc nL _) a2
 rw[e7]
 have z1:numsAt (some ⟨w.heap.size,0,none⟩) [0] W7:=(show numsAt (some ⟨w.heap.size,0,none⟩) [0] W1 from by rw[h1];exact numsAt_new rfl).below a1
 have z2:numsAt (some ⟨w.heap.size+1,0,none⟩) [0] W7:=(show numsAt (some ⟨w.heap.size+1,0,none⟩) [0] W2 from by rw[h2, <-s1];exact numsAt_new rfl).below a2
 have r1:numsAt (some ⟨w.heap.size+1+1+1,0,none⟩) [0,0,0,0,0,0,1,2] W7:=(show numsAt (some ⟨w.heap.size+1+1+1,0,none⟩) [0,0,0,0,0,0,1,2] W4 from by rw[h4, <-s3];exact numsAt_new rfl).below a4
 have r2:numsAt (some ⟨w.heap.size+1+1+1+1,0,none⟩) [0,0,0,0,0,0,2,1] W7:=(show numsAt (some ⟨w.heap.size+1+1+1+1,0,none⟩) [0,0,0,0,0,0,2,1] W5 from by rw[h5, <-s4];exact numsAt_new rfl).below a5
 have c0:W7.cell? ⟨w.heap.size+1+1,0,none⟩=some (.slice (some ⟨w.heap.size,0,none⟩) 1 1):=keep_cell a3 (by rw[h3, <-s2,World.cell?_alloc_new];rfl)
 have c1:W7.cell? ⟨w.heap.size+1+1,1,none⟩=some (.slice (some ⟨w.heap.size+1,0,none⟩) 1 1):=keep_cell a3 (by rw[h3, <-s2,World.cell?_alloc_new];rfl)
 have d0:W7.cell? ⟨w.heap.size+1+1+1+1+1,0,none⟩=some (.slice (some ⟨w.heap.size+1+1+1,0,none⟩) 8 8):=keep_cell a6 (by rw[h6, <-s5,World.cell?_alloc_new];rfl)
 have d1:W7.cell? ⟨w.heap.size+1+1+1+1+1,1,none⟩=some (.slice (some ⟨w.heap.size+1+1+1+1,0,none⟩) 8 8):=keep_cell a6 (by rw[h6, <-s5,World.cell?_alloc_new];rfl)
 refine⟨fun i row hr=>?_,fun i row hr=>?_,Nat.le_refl _,Nat.le_refl _,by decide,by decide,fun i row hr=>?_,fun i row hr=>?_⟩
 ·match i,hr with
  |0,hr=>cases hr;exact⟨_,0,_,1,rfl,c0,by decide,z1⟩
  |1,hr=>cases hr;exact⟨_,0,_,1,rfl,c1,by decide,z2⟩
 ·match i,hr with
  |0,hr=>cases hr;exact⟨_,0,_,8,rfl,d0,by decide,r1⟩
  |1,hr=>cases hr;exact⟨_,0,_,8,rfl,d1,by decide,r2⟩
 ·match i,hr with
  |0,hr=>cases hr;decide
  |1,hr=>cases hr;decide
 ·match i,hr with
  |0,hr=>cases hr;decide
  |1,hr=>cases hr;decide
end
end Go.Proofs.YtnoigmdmgdcliaaGreatDoor
