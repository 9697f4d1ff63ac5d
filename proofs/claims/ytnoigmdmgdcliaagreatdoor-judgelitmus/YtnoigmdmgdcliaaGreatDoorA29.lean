import Derived.Test.YtnoigmdmgdcliaaGreatDoorA28
import Derived.Test.YtnoigmdmgdcliaaGreatDoorA24
import Derived.Test.YtnoigmdmgdcliaaGreatDoorA11
import Derived.Test.YtnoigmdmgdcliaaGreatDoorA02
import Derived.Maps.AppendAt
import Derived.Laws.AppendOwnNone
import Derived.Test.YtnoigmdmgdcliaaGreatDoorA05
import Derived.Test.YtnoigmdmgdcliaaGreatDoorA22
import Derived.Test.YtnoigmdmgdcliaaGreatDoorA18
namespace Go.Proofs.YtnoigmdmgdcliaaGreatDoor
set_option maxRecDepth 100000
set_option maxHeartbeats 8000000
section
open Go.RowKit Go.Extern.Stop Go.Stop Go.Extern Go.Maps Go.WideMaps Go.Sort
variable {cs:List (List Ins)} {a:Nat->Addr} {reg:Nat} {w:World}
def rowTo(m:Mk)(reg:Nat):Nat->List Int
 |0=>[0,0]
 |1=>[m.regs 0 reg,0]
 |_=>[m.regs 0 reg,m.regs 1 reg]
theorem rowTo_len(m:Mk)(reg j:Nat):(rowTo m reg j).length=2:=by
 match j with
 |0=>rfl
 |1=>rfl
 |_+2=>rfl
theorem rowTo_set(m:Mk)(reg:Nat){j:Nat}(hj:j<2):(rowTo m reg j).set j (m.regs j reg)=rowTo m reg (j+1):=by
 match j,hj with
 |0,_=>rfl
 |1,_=>rfl
theorem makeJ2(w:World):(Instr.makeSlice 23 (.int .i64 2) (.int .i64 2)).run Tryz.prog w= .ok (.slice (some ⟨w.heap.size,0,none⟩) 2 2) (w.alloc (.cells #[.int .i64 0, .int .i64 0] 3)):=by kernel_rfl
theorem row_two {p:MkPl} {m:Mk} (h:MkAt a cs p m w) (h2:cs.length=2) (hr:reg<8):
  Calls Tryz.prog 39 #[.pointer (some ⟨p.b,0,none⟩), .int .i64 2, .int .i64 reg] w fun e w'=> ∃v,e= .returned v/\numsOwn w' w.heap.size v (rowOf 2 reg m)/\Below w.heap.size w w':=by
 have HM:=hide h
 have HREG:=hide (fun(W:World) (hb:Below w.heap.size w W) (j:Nat) (hj:j<2)=>kreg_any (t:=j) (r:=reg) (HM.out.below hb) (by omega) hr)
 clear h
 have hmk:=makeJ2
 go_enter Tryz.func39,Tryz.ntmps39
 go_wp2_with fail
 have R0:Hid (numsOwn (w.alloc (.cells #[.int .i64 0, .int .i64 0] 3)) w.heap.size (.slice (some ⟨w.heap.size,0,none⟩) 2 2) (rowTo m reg 0)):=hide (numsOwn_new (l:=[0,0]) rfl nL (by decide))
 have B0:Hid (Below w.heap.size w (w.alloc (.cells #[.int .i64 0, .int .i64 0] 3))):=hide (bRf.alloc nL _)
 go_loopw [13] (fun t wr=> ∃j:Nat,j<=2/\t= .int .i64 j/\Hid (numsOwn wr w.heap.size (.slice (some ⟨w.heap.size,0,none⟩) 2 2) (rowTo m reg j))/\Hid (Below w.heap.size w wr)) (fun t _=>2 - (intOf t).toNat)
 case atStart=>exact⟨0,Nat.zero_le _,rfl,R0,B0⟩
 case round=>
  clear R0 B0
  obtain⟨j,hj,rfl,RJ,BJ⟩:=hrel
  by_cases hlt:j<2
  ·have ji:(j:Int)<2:=by omega
   have HJ:=hide (HREG.out wr BJ.out j hlt)
   obtain⟨x,hx⟩: ∃x,(rowTo m reg j)[j]? =some x:=⟨_,List.getElem?_eq_getElem (by rw[rowTo_len];exact hlt)⟩
   obtain⟨c1,z1⟩:=numsOwn_cell RJ.out hx
   have RN:Hid (numsOwn (wr.setCell ⟨w.heap.size,j,none⟩ (.int .i64 (m.regs j reg))) w.heap.size (.slice (some ⟨w.heap.size,0,none⟩) 2 2) (rowTo m reg (j+1))):=hide (by rw[<-rowTo_set m reg hlt];exact numsOwn_set RJ.out j _)
   have BN:Hid (Below w.heap.size w (wr.setCell ⟨w.heap.size,j,none⟩ (.int .i64 (m.regs j reg)))):=hide (BJ.out.setCell nL _)
   clear RJ BJ hx
   go_wp2_with fail
   refine HJ.out.mono ?_
   rintro e w2 ⟨rfl,e2⟩
   obtain rfl:wr=w2:=e2.symm
   clear HJ
   generalize m.regs j reg=rj at*
   go_wp2_with fail
   go_roundw
   case rel=>exact⟨j+1,by omega,by go_num,RN,BN⟩
   case measure=>simp[intOf];omega
  ·obtain rfl:j=2:=by omega
   rw[show((2:Nat):Int)=2 from rfl]
   go_wp2_with fail
   go_ret
   exact⟨_,rfl,RJ.out,BJ.out⟩
theorem rowsInfo: ∃i,(Tryz.prog).info? 23=some i/\i.zero=some (.slice none 0 0)/\i.size=1/\i.bytes=24:=info_parts (by kernel_rfl)
theorem oc_call {p:MkPl} {m:Mk} (h:MkAt a cs p m w) (h2:cs.length=2) (hr:reg<8) {ad:Option Addr} {cap cb gb rb:Nat} {X:Nat->Prop} {L:List Mk} (hcb:cb<rb) (hgb:gb<rb) (hI:OcI a cs ad cap reg cb gb rb X L w) (hL:L.length<=100000):
  Calls Tryz.prog 38 (#[.pointer (some ⟨p.b,0,none⟩), .bool (endTo cs m cs.length)]++#[.pointer (some ⟨rb,0,none⟩), .pointer (some ⟨cb,0,none⟩), .pointer (some ⟨gb,0,none⟩)]) w fun x w'=>x= .returned (.tuple #[])/\ ∃X',OcI a cs ad cap reg cb gb rb X' (L++[m]) w'/\Turns (fun k _=>X k) w w'/\ ∀k,X' k->X k∨w.heap.size<=k:=by
 obtain⟨v,us,hv,hrw,hX⟩:=hI.ex
 have hmore:=endRows_more cs reg L m
 cases hx:endTo cs m cs.length
 ·rw[hx,if_neg (by decide)] at hmore
  have HP:Hid (∃X',OcI a cs ad cap reg cb gb rb X' (L++[m]) w/\Turns (fun k _=>X k) w w/\ ∀k,X' k->X k∨w.heap.size<=k):=hide ⟨X,⟨hI.code,hI.rg,hI.box,hI.fz,v,us,hv,by rw[hmore];exact hrw,hX⟩,Turns.refl _ _,fun _ hk=> .inl hk⟩
  clear hI hv hrw hX hmore h
  show Calls _ _ #[.pointer (some ⟨p.b,0,none⟩), .bool false, .pointer (some ⟨rb,0,none⟩), .pointer (some ⟨cb,0,none⟩), .pointer (some ⟨gb,0,none⟩)] _ _
  go_enter Tryz.func38,Tryz.ntmps38
  go_wp2_with fail
  go_end0
  exact⟨rfl,HP.out⟩
 ·rw [hx,if_pos rfl] at hmore
  have hcode:=hI.code
  rw[h2] at hcode
  have hrg:=hI.rg
  have hlb:=hI.box.lt
  have HI:=hide hI
  have HV:=hide hrw
  have HX:=hide hX
  have HMR:=hide hmore
  have hfz:=hI.fz
  obtain⟨va,vc,hvs, -⟩:=ownsRow_shape hrw.own
  have HRW:=hide (fun(W:World) (hb:Below w.heap.size w W)=>row_two (h.below hb) h2 hr)
  have hrl:(endRows cs reg L).length<=100000:=by
   unfold endRows
   rw[List.length_map]
   exact Nat.le_trans (List.length_filter_le _ _) hL
  generalize endRows cs reg L=RW at*
  clear hI hrw hX hmore h hx hL
  subst hvs
  obtain⟨ri,hri,hrz,hrs,hrb⟩:=rowsInfo
  show Calls _ _ #[.pointer (some ⟨p.b,0,none⟩), .bool true, .pointer (some ⟨rb,0,none⟩), .pointer (some ⟨cb,0,none⟩), .pointer (some ⟨gb,0,none⟩)] _ _
  go_enter Tryz.func38,Tryz.ntmps38
  go_wp2_with fail
  refine wp_region_F (S:=(fun w'=>w'.cell? ⟨rb,0,none⟩=some (.slice va RW.length vc)/\w'.cell? ⟨cb,0,none⟩=some (.slice ad 2 cap)/\w'.cell? ⟨gb,0,none⟩=some (.int .i64 reg))) (by kernel_rfl) (by(try dsimp only);exact⟨hv,hcode,hrg⟩) (fun hHeld=>?_)
  iterate 5
   refine' wpAnyF_next (sz:=9) (n:=8) (v:=_) rfl (by kernel_rfl) (fun _ _ _ h=>h) (by assumption) (Or.inl ⟨by rfl,?_⟩) ?_
   case' refine'_2=>(intro w' hSw;(try dsimp only at hSw);go_simp;try with_reducible rfl)
   try simp only[Act.put,fxs]
  refine wpAnyF_only (i:=5) rfl (by kernel_rfl) (fun K hK=>?_)
  go_simp
  go_at_call 39
  refine(HRW.out _ (below_dN bRf 1)).mono ?_
  rintro e w4 ⟨u,rfl,hu,hb4⟩
  dsimp only
  obtain⟨ua,uc,rfl, -⟩:=numsOwn_open hu (by show 0<2;decide)
  have B4:Below w.heap.size w w4:=(below_dN bRf 1).trans hb4
  have s1:=keep_cell B4 hv
  have s2:=keep_cell B4 hcode
  have s3:=keep_cell B4 hrg
  have HB4:=hide B4
  have HU:=hide hu
  refine hK.out _ _ (Or.inr ⟨s1,s2,s3⟩) ?_
  clear hK K hu hb4 B4 HRW
  rw[show(rowOf 2 reg m).length=2 from rfl]
  try simp only[Act.put,fxs]
  refine wpAnyF_only (i:=6) rfl (by kernel_rfl) (fun K hK=>?_)
  go_simp
  have hs4:w.heap.size<=w4.heap.size:=HB4.out.size
  have b5:Below w4.heap.size w4 (w4.alloc (.cells #[.slice (some ua) 2 uc] 23)):=bRf.alloc nL _
  have HB5:Hid (Below w.heap.size w (w4.alloc (.cells #[.slice (some ua) 2 uc] 23))):=hide (below_step HB4.out b5)
  have HV5:=hide (HV.out.below HB5.out)
  have HU5:=hide (numsOwn_mono (base':=rb+1) (numsOwn_keep HU.out b5) hlb)
  have hne5: ∀b,(Value.slice (some ua) 2 uc).ownBlock=some b->(Value.slice va RW.length vc).ownBlock≠some b:=fun b e e2=>by
   have h1:w.heap.size<=b:=(World.ownsRow.lt HU.out b e).1
   have h2:=(World.ownsRow.lt HV.out.own b e2).2
   omega
  have HN5:Hid (∀j u,[Value.slice (some ua) 2 uc][j]? =some u->(w4.alloc (.cells #[.slice (some ua) 2 uc] 23)).cell? ((⟨w4.heap.size,0,none⟩:Addr).add j)=some u):=hide (World.news_of_block (cs:=#[.slice (some ua) 2 uc]) (t:=23) (fr:=(0,0)) (heap_alloc_new w4 _))
  have t1:=keep_cell b5 s1
  have t2:=keep_cell b5 s2
  have t3:=keep_cell b5 s3
  have hsz5:(w4.alloc (.cells #[.slice (some ua) 2 uc] 23)).heap.size=w4.heap.size+1:=by simp
  have HNE:=hide hne5
  have hua: ∀b,(Value.slice (some ua) 2 uc).ownBlock=some b->w.heap.size<=b:=fun b e=>(World.ownsRow.lt HU.out b e).1
  have HUA:=hide hua
  clear hua
  refine hK.out _ _ (Or.inr ⟨t1,t2,t3⟩) ?_
  clear hK K HB4 HU s1 s2 s3 hne5
  generalize w4.alloc (.cells #[.slice (some ua) 2 uc] 23)=w5 at*
  generalize w4.heap.size=n4 at*
  try simp only[Act.put,fxs]
  refine wpAnyF_only (i:=7) rfl (by kernel_rfl) (fun K hK=>?_)
  refine step_append_at _ (by rfl) _ _ _ (by rfl) (rb+1) 23 ri _ 1 24 Tryz.underlying38 hri hrz hrs hrb rfl (by omega) (.slice va RW.length vc) RW.length us (by rfl) HV5.out.own ⟨n4,0,none⟩ 1 1 [.slice (some ua) 2 uc] (by rfl) (by rfl) HN5.out (by intro u hu;simp at hu;rcases hu with rfl;rfl) (by unfold maxLen;omega) (by omega) (by omega) ?_
  intro gg gcap w6 hown6 hgrow hat
  have RW6:=hide (HV5.out.more HU5.out HNE.out (Nat.le_of_eq rfl) hown6 hgrow hat)
  have hrbx: ∀q,(Value.slice va RW.length vc).ownBlock=some q->rb<q:=fun q e=>(World.ownsRow.lt HV.out.own q e).1
  have c6:w6.cell? ⟨rb,0,none⟩=some (.slice va RW.length vc):=hgrow.cell t1 (fun e=>by have:=hrbx rb e.symm;omega)
  have f6:w6.frozen? ⟨rb,0,none⟩=false:=by
   rw[World.frozen?_of_block (w:=w5) (hgrow.block rb (by omega) (fun e=>by have:=hrbx rb e.symm;omega)),HB5.out.frozen (p:=⟨rb,0,none⟩) hlb]
   exact hfz
  have T6:Hid (Turns (fun k _=>(Value.slice va RW.length vc).ownBlock=some k) w w6):=hide ((Turns.of_below HB5.out).trans (by
   cases hq:(Value.slice va RW.length vc).ownBlock with
   | none=>
    rw[hq] at hgrow
    exact⟨hgrow.os,hgrow.tape,hgrow.output,hgrow.size,fun k hk _=>hgrow.block k hk (fun e=>by cases e),fun k o hk _=>World.cell?_of_block (hgrow.block k hk (fun e=>by cases e)),fun k o hk _=>World.frozen?_of_block (hgrow.block k hk (fun e=>by cases e))⟩
   | some q=>
    rw[hq] at hgrow
    exact(Turns.of_grown hgrow).mono fun k _ _ e=>by rw[e]))
  have HAT:=hide hat
  have hs6:=T6.out.size
  have d6:=hgrow.cell t2 (fun e=>by have:=hrbx cb e.symm;omega)
  have e6:=hgrow.cell t3 (fun e=>by have:=hrbx gb e.symm;omega)
  clear hgrow hown6 hat
  refine hK.out _ _ (Or.inr ⟨c6,d6,e6⟩) ?_
  clear hK K hHeld HV5 HU5 HNE HN5 t1 t2 t3
  try simp only[Act.put,fxs]
  refine wpAnyF_only (i:=8) rfl (by kernel_rfl) (fun K hK=>?_)
  go_simp
  refine hK.out _ _ (Or.inl (by kernel_rfl)) ?_
  clear hK K
  try simp only[Act.put,fxs]
  refine wpAnyF_done (by kernel_rfl) ?_ _
  go_wp2
  go_end0
  have T7:Turns (fun k _=>k=rb∨(Value.slice va RW.length vc).ownBlock=some k) w (w6.setCell ⟨rb,0,none⟩ (.slice gg (RW.length+1) gcap)):=(T6.out.mono fun _ _ _ e=>Or.inr e).setCell _ (Or.inl rfl)
  have hno: ∀k o:Nat,k<rb-> ¬(fun k (_:Nat)=>k=rb∨(Value.slice va RW.length vc).ownBlock=some k) k o:=fun k o hk e=>e.elim (fun e=>by omega) (fun e=>by have:=hrbx k e;omega)
  obtain⟨W0,g1,g2,g3⟩:=HI.out.box.env
  refine⟨rfl,fun k=>k=rb∨RwX (.slice gg (RW.length+1) gcap) (us++[.slice (some ua) 2 uc]) k,⟨T7.keep HI.out.code (hno cb 0 hcb),T7.keep HI.out.rg (hno gb 0 hgb),⟨⟨_,_,_,World.cell?_setCell_same _ _ _ c6⟩,fun o ho=>?_,W0,g1,g2,g3.trans (T7.below g3.size (fun k o hk e=>hno k o (by omega) e))⟩,by rw[World.frozen?_setCell];exact f6, .slice gg (RW.length+1) gcap,us++[.slice (some ua) 2 uc],World.cell?_setCell_same _ _ _ c6,?_,fun k=>Iff.rfl⟩,T7.mono fun k _ _ e=>?_,fun k hk=>?_⟩
  ·rw[World.cell?_setCell_other _ _ _ _ (by intro e;simp only[Addr.mk.injEq] at e;omega),T6.out.cell rb o hlb (fun e=>by have:=hrbx rb e;omega)]
   exact HI.out.box.c1 o ho
  ·rw [HMR.out,h2]
   exact RW6.out.block (w':=w6.setCell ⟨rb,0,none⟩ (.slice gg (RW.length+1) gcap)) fun k hk=>by
    have:=(RW6.out.lt hk).1
    exact Below.heap_setCell _ _ _ _ (show k≠rb by omega)
  ·rcases e with e |e
   ·exact(HX.out k).2 (.inl e)
   ·exact(HX.out k).2 (.inr (.inl e))
  ·rcases hk with e |e |⟨u,hu,e⟩
   ·exact .inl ((HX.out k).2 (.inl e))
   ·rcases HAT.out with e2 |e2
    ·rw[e2] at e
     exact .inl ((HX.out k).2 (.inr (.inl e)))
    ·rw[e2] at e
     cases e
     exact .inr HB5.out.size
   ·rcases List.mem_append.1 hu with hu |hu
    ·exact .inl ((HX.out k).2 (.inr (.inr ⟨u,hu,e⟩)))
    ·obtain rfl:u= .slice (some ua) 2 uc:=by simpa using hu
     exact .inr (HUA.out k e)
end
section
open Go.RowKit Go.Extern.Stop Go.Stop Go.Extern Go.Maps Go.WideMaps Go.Sort
def AllPost (a:Nat->Addr) (cs:List (List Ins)) (m0:Mk) (mo:Int) (w:World) (e:Ending) (w':World):Prop:=
 Below w.heap.size w w'/\ ∃f S,
  ((searchO cs mo (2*cs.length) f (firstS cs m0)=(.go,S)/\S.ms=[]/\e= .returned (.tuple #[toldV S.s S.e false (.slice none 0 0), .nilIface]))∨(searchO cs mo (2*cs.length) f (firstS cs m0)=(.bound,S)/\e= .returned (.tuple #[toldV 0 0 false (.slice none 0 0),errAt (a 1)]))∨
   (∃x l,searchO cs mo (2*cs.length) f (firstS cs m0)=(.fault x,S)/\Back S.E x l/\0<l.length/\ ∃v,e= .returned (.tuple #[toldV S.s S.e true v, .nilIface])/\numsOwn w' w.heap.size v l.reverse))
theorem alBox(w:World)(x:Array Value): ∃w1,w1=(w.alloc (.cells x 40)).alloc (.cells #[.int .i64 0, .int .i64 0, .bool false, .slice none 0 0] 100)/\Below w.heap.size w w1/\w.heap.size+1<w1.heap.size/\w1.cell? ⟨w.heap.size+1,0,none⟩=some (.int .i64 0)/\w1.cell? ⟨w.heap.size+1,1,none⟩=some (.int .i64 0)/\w1.cell? ⟨w.heap.size+1,2,none⟩=some (.bool false)/\w1.cell? ⟨w.heap.size+1,3,none⟩=some (.slice none 0 0)/\ ∀o,w1.frozen? ⟨w.heap.size+1,o,none⟩=false:=by
 have e:w.heap.size+1=(w.alloc (.cells x 40)).heap.size:=by simp
 refine⟨_,rfl,((Below.refl _ w).alloc nL _).alloc (by simp) _,by simp,?_,?_,?_,?_,fun o=>?_⟩
 ·rw[e,World.cell?_alloc_new];rfl
 ·rw[e,World.cell?_alloc_new];rfl
 ·rw[e,World.cell?_alloc_new];rfl
 ·rw[e,World.cell?_alloc_new];rfl
 ·rw[e];exact World.frozen?_alloc_new _ _ _ _
theorem all_search{a:Nat->Addr}{s:Sta}{ai ar ad:Option Addr}{ci cr cap:Nat}{cs:List (List Ins)}{w:World}(mo:Int)(hE:Env a w)(hs:StaAt s ⟨ai,ci,ar,cr⟩ w)(hl:codesAt ad cs w)(hsz: ∀(t:Nat) L,cs[t]? =some L-> ∀(i:Nat) x,L[i]? =some x->x.to.size<=maxLen)(hgood:(s.fault cs).1=0)(hmo:1<=mo/\mo<=60000):
  Calls Tryz.prog 45 #[.agg #[.int .i64 s.cells, .slice ai s.init.length ci, .slice ar s.regs.length cr], .slice ad cs.length cap, .int .i64 mo] w fun e w'=>Hid (AllPost a cs (s.mach cs.length) mo w e w'):=by
 have HW:=hide (fun w1 (hb:Below w.heap.size w w1)=>wsee_search (se:=noSeer) (X0:=fun _=>False) rfl (ci:=ci) (cr:=cr) (cap:=cap) mo (noSeer_ok a cs) (fun _ h=>h.elim) (fun _ h=>h) (Nat.zero_le _) (hE.below hb.block) (hs.below hb) (hl.below hb) hsz hgood hmo)
 clear hE hs hl
 obtain⟨w1,hw1,b1,hlt,t0,t1,t2,t3,z⟩:=alBox w #[.int .i64 s.cells, .slice ai s.init.length ci, .slice ar s.regs.length cr]
 go_enter Tryz.func45,Tryz.ntmps45
 go_wp2_with fail
 rw[<-hw1]
 clear hw1
 refine(HW.out w1 b1).mono ?_
 rintro e w2 hp
 obtain⟨hT2,f,S, -,hres⟩:=hp.out
 have hb2:Below w1.heap.size w1 w2:=hT2.below nL (fun _ _ _ h=>h)
 replace t0:=keep_cell hb2 t0
 replace t1:=keep_cell hb2 t1
 replace t2:=keep_cell hb2 t2
 replace t3:=keep_cell hb2 t3
 have z0:w2.frozen? ⟨w.heap.size+1,0,none⟩=false:=(hb2.frozen (p:=⟨w.heap.size+1,0,none⟩) hlt).trans (z 0)
 have z1:w2.frozen? ⟨w.heap.size+1,1,none⟩=false:=(hb2.frozen (p:=⟨w.heap.size+1,1,none⟩) hlt).trans (z 1)
 have z2:w2.frozen? ⟨w.heap.size+1,2,none⟩=false:=(hb2.frozen (p:=⟨w.heap.size+1,2,none⟩) hlt).trans (z 2)
 have z3:w2.frozen? ⟨w.heap.size+1,3,none⟩=false:=(hb2.frozen (p:=⟨w.heap.size+1,3,none⟩) hlt).trans (z 3)
 have B2:=below_step b1 hb2
 have hle:w.heap.size<=w.heap.size+1:=by omega
 clear z HW
 have hw:w.heap.size<=w1.heap.size:=by omega
 clear b1 hb2 hp hT2
 rcases hres with⟨h1,h2,rfl⟩ |⟨h1,rfl⟩ |⟨x,l,h1,h2,h3,v,rfl,hv⟩
 ·unfold toldV
  go_wp2_with fail
  refine bodyPost_ret (v:= .tuple #[toldV S.s S.e false (.slice none 0 0), .nilIface]) (by simp only[results,Tryz.results45];go_simp;rfl) rfl ?_
  exact hide ⟨(((B2.setCell hle _).setCell hle _).setCell hle _).setCell hle _,f,S, .inl ⟨h1,h2,rfl⟩⟩
 ·unfold toldV
  go_wp2_with fail
  refine bodyPost_ret (v:= .tuple #[toldV 0 0 false (.slice none 0 0),errAt (a 1)]) (by simp only[results,Tryz.results45];go_simp;rfl) rfl ?_
  exact hide ⟨(((B2.setCell hle _).setCell hle _).setCell hle _).setCell hle _,f,S, .inr (.inl ⟨h1,rfl⟩)⟩
 ·obtain⟨av,cv,rfl, -⟩:=numsOwn_open hv (by rw[List.length_reverse];exact h3)
  have HV:=hide hv
  have hob:w1.heap.size<=av.block:=(World.ownsRow.lt hv av.block rfl).1
  clear hv
  unfold toldV
  go_wp2_with fail
  refine bodyPost_ret (v:= .tuple #[toldV S.s S.e true (.slice (some av) l.reverse.length cv), .nilIface]) (by simp only[results,Tryz.results45];go_simp;rfl) rfl ?_
  refine hide ⟨(((B2.setCell hle _).setCell hle _).setCell hle _).setCell hle _,f,S, .inr (.inr ⟨x,l,h1,h2,h3,_,rfl,?_⟩)⟩
  refine numsOwn_mono (base:=w1.heap.size) (ownsRow_block HV.out fun b hb=>?_) hw
  obtain rfl:av.block=b:=by cases hb;rfl
  have n2:av.block≠w.heap.size+1:=by omega
  rw[Below.heap_setCell _ _ _ _ n2,Below.heap_setCell _ _ _ _ n2,Below.heap_setCell _ _ _ _ n2,Below.heap_setCell _ _ _ _ n2]
end
section
open Go.RowKit
variable {L:List Ins}
def labelAtB(l:List Ins)(to:List UInt8):Option Nat:=l.findIdx? (fun x=>(bl x.op==[108,97,98,101,108])&&(bl x.to==to))
theorem labelAt_B(l:List Ins)(to:ByteArray):labelAt l to=match labelAtB l (bl to) with
  |some j=>(j:Int)
  |none=> -1:=by
 unfold labelAt labelAtB
 rw[show(fun x=>setsLabel x to)=(fun x=>(bl x.op==[108,97,98,101,108])&&(bl x.to==bl to)) from funext fun x=>by unfold setsLabel;rw[toList_bl,toList_bl,toList_bl]]
 rfl
def nameB(l:List UInt8):Bool:=decide (1<=l.length)&&(decide (l.length<=12)&&(List.range l.length).all fun j=>nameOk j (l.getD j 0).toNat)
theorem nameB_is{s:ByteArray}(h:nameB (bl s)=true):isName s:=by
 unfold nameB at h
 simp only[Bool.and_eq_true,decide_eq_true_eq,List.all_eq_true,List.mem_range] at h
 obtain⟨h1,h2,h3⟩:=h
 have hz:s.size=(bl s).length:=size_bl s
 refine⟨by omega,by omega,fun j hj=>?_⟩
 have:=h3 j (by omega)
 rw[List.getD_eq_getElem?_getD,List.getElem?_eq_getElem (by omega)] at this
 exact this
def shapeGood(x:Ins)(l:List UInt8):Bool:=
 ((lab ⟨l.toArray⟩ l.length ||(bl x.to==[]))&&(!(lab ⟨l.toArray⟩ l.length) ||nameB (bl x.to)))&&
 (List.range 3).all fun k=>if k<cnt ⟨l.toArray⟩ l.length then decide (0<=x.n k/\x.n k<mostOf (byteAt ⟨l.toArray⟩ k)) else decide (x.n k=0)
def insGood(L:List Ins)(i:Nat)(x:Ins):Bool:=match shape (bl x.op) with
 |none=>false
 |some l=>shapeGood x l&&((!(bl x.op==[108,97,98,101,108]) ||labelAtB L (bl x.to)==some i)&&((bl x.to==[]) ||(labelAtB L (bl x.to)).isSome))
theorem insGood_is {i:Nat} {x:Ins} (h:insGood L i x=true):insFault L i x=0:=by
 unfold insGood at h
 cases hs:shape (bl x.op) with
 |none=>rw[hs] at h;cases h
 | some l=>
  rw[hs] at h
  simp only[Bool.and_eq_true] at h
  obtain⟨h1,h2,h3⟩:=h
  unfold shapeGood at h1
  simp only[Bool.and_eq_true,List.all_eq_true,List.mem_range] at h1
  obtain⟨⟨g1,g2⟩,g3⟩:=h1
  have hsz:(⟨l.toArray⟩:ByteArray).size=l.length:=by simp[ByteArray.size]
  have he:insErr x=0:=by
   unfold insErr
   rw[toList_bl,hs]
   show insBad x ⟨l.toArray⟩=0
   unfold insBad
   rw[hsz,if_neg,if_neg,if_neg,if_neg]
   ·rintro⟨e1,e2⟩
    rw[e1] at g2
    exact e2 (nameB_is (by simpa using g2))
   ·rintro⟨k,hk,e⟩
    have:=cnt_le ⟨l.toArray⟩ l.length
    have hl:=shape_le hs
    have g:=g3 k (by omega)
    rw[if_pos hk] at g
    exact e (by simpa using g)
   ·rintro⟨k,hk,hk3,e⟩
    have g:=g3 k hk3
    rw[if_neg (by omega)] at g
    exact e (by simpa using g)
   ·rintro⟨e1,e2⟩
    rw[e1,Bool.false_or] at g1
    rw[toList_bl] at e2
    exact e2 (by simpa using g1)
  unfold insFault
  rw[if_neg (by rw[he];simp),if_neg,if_neg]
  ·rintro⟨e1,e2⟩
   rw[toList_bl] at e1
   rw[e1,Bool.false_or] at h3
   rw[labelAt_B] at e2
   cases hb:labelAtB L (bl x.to) with
   |none=>rw[hb] at h3;cases h3
   |some j=>rw[hb] at e2;exact absurd e2 (by simp)
  ·rintro⟨e1,e2⟩
   rw[toList_bl] at e1
   rw[e1,Bool.not_true,Bool.false_or] at h2
   rw[labelAt_B,show labelAtB L (bl x.to)=some i by simpa using h2] at e2
   exact e2 rfl
def codeGood(L:List Ins):Bool:=decide (L.length<=2000)&&(List.range L.length).all fun i=>match L[i]? with
 |none=>true
 |some x=>insGood L i x
theorem faultFrom_good: ∀(r:List Ins) (j:Nat),(∀(k:Nat) x,r[k]? =some x->insFault L (j+k) x=0)->faultFrom L j r=(0, -1)
 | [],_,_=>rfl
 | y::r,j,h=>by
  unfold faultFrom
  rw[if_pos (by simpa using h 0 y rfl)]
  exact faultFrom_good r (j+1) (fun k x hx=>by rw[show j+1+k=j+(k+1) by omega];exact h (k+1) x (by simpa using hx))
theorem codeGood_is(h:codeGood L=true):codeFault L=(0, -1):=by
 unfold codeGood at h
 simp only[Bool.and_eq_true,decide_eq_true_eq,List.all_eq_true,List.mem_range] at h
 obtain⟨h1,h2⟩:=h
 unfold codeFault
 rw[if_neg (by omega)]
 refine faultFrom_good L 0 fun k x hx=>insGood_is ?_
 have:=h2 k (List.getElem?_eq_some_iff.1 hx).1
 rw[hx] at this
 rw[Nat.zero_add];exact this
end
section
open Go.RowKit Go.Extern.Stop Go.Stop Go.Extern Go.Maps Go.WideMaps Go.Sort
variable {l:List Ins}
def insOwn(w:World)(base:Nat)(v:Value)(l:List Ins):Prop:=w.ownsRow base 57 5 v l.length (icells l)
theorem insOwn_nil(w:World)(base:Nat):insOwn w base (.slice none 0 0) []:=World.ownsRow_nil _ _ _ _
theorem icells_append(a b:List Ins):icells (a++b)=icells a++icells b:=by simp[icells]
theorem insOwn_keep{w w':World}{base:Nat}{v:Value}(h:insOwn w base v l)(k:Below w.heap.size w w'):insOwn w' base v l:=
 ownsRow_block h (fun b hb=>k.block b (h.lt b hb).2)
theorem wpList_append_ins{ops:Array Oper}{rest:List Oper}{o:Oper}{a:Act}(w:World){Q:Exit->Act->World->Prop}(hgd:o.guard=none)(s x:Operand) 
  (ho:o.op= .call { callee:= .builtin .append,args:=#[s,x],argTypes:=#[58,58] }) (base:Nat) (l0 l:List Ins) (v:Value) (ad:Addr) (cap:Nat)
  (hs:a.eval s=v) (hown:insOwn w base v l0) (hx:a.eval x= .slice (some ad) l.length cap) (hl:insAt (some ad) l w) (h1:0<l.length) (h3:l0.length+l.length<=2000) (hb:base<=w.heap.size)
  (h: ∀v' w',insOwn w' base v' (l0++l)->Below base w w'->w.heap.size<=w'.heap.size->w.grownBy w' v.ownBlock->(v'.ownBlock=v.ownBlock∨v'.ownBlock=some w.heap.size)->wpList Tryz.prog ops Q rest (a.put o.dst v') w'):wpList Tryz.prog ops Q (o::rest) a w:=by
 obtain⟨ri,hri,hrz,hrs,hrb⟩:=instrInfo
 refine wpList_append_own_at w hgd s x 58 ho base 57 ri (.agg #[.string ⟨#[]⟩, .int .i64 0, .int .i64 0, .int .i64 0, .string ⟨#[]⟩]) 5 56 Tryz.underlying58 hri hrz hrs hrb rfl (by decide) v l0.length (icells l0) hs hown ad l.length cap (icells l) hx (icells_len l) (fun j u hj=>?_) icells_one (by unfold maxLen;omega) (by omega) hb (fun v' w' h2 hg _ hloc=>?_)
 ·obtain⟨y,hy⟩: ∃y,l[0]? =some y:=⟨_,List.getElem?_eq_getElem h1⟩
  obtain⟨b,off,e, -⟩:=hl 0 y hy
  cases e
  rw[Addr.add_lit]
  exact insAt_cells hl j u hj
 ·have hB:Below base w w':=(Below.refl base w).grown hg hb (fun k hk=>(hown.lt k hk).1)
  refine h v' w' ?_ hB hB.size hg hloc
  unfold insOwn
  rw[List.length_append,icells_append]
  exact h2
theorem insAt_new{w:World}{cs:Array Value}{t:TypeId}(h:cs.toList=icells l):insAt (some ⟨w.heap.size,0,none⟩) l (w.alloc (.cells cs t)):=by
 intro i x hx
 have hi:=(List.getElem?_eq_some_iff.1 hx).1
 have key: ∀j,j<5->(w.alloc (.cells cs t)).cell? ⟨w.heap.size,i*5+j,none⟩=(icell x)[j]? :=fun j hj=>by
  rw[World.cell?_alloc_new, <-icells_at l i j x hx hj, <-h]
  simp
 refine⟨w.heap.size,0,rfl,?_,?_,?_,?_,?_⟩
 ·rw[show 0+i*5=i*5+0 by omega];exact key 0 (by decide)
 ·rw[show 0+i*5+1=i*5+1 by omega];exact key 1 (by decide)
 ·rw[show 0+i*5+2=i*5+2 by omega];exact key 2 (by decide)
 ·rw[show 0+i*5+3=i*5+3 by omega];exact key 3 (by decide)
 ·rw[show 0+i*5+4=i*5+4 by omega];exact key 4 (by decide)
end
end Go.Proofs.YtnoigmdmgdcliaaGreatDoor
