import Derived.Test.YtdpmnlbnlnmjbaaGreatDoorV21
import Derived.Deep.RegionHeld3
import Derived.Test.YtdpmnlbnlnmjbaaGreatDoorV12
import Derived.Test.YtdpmnlbnlnmjbaaGreatDoorV22
import Derived.Lib.QuietBelow
import Derived.BigQuiet
import Derived.Test.YtdpmnlbnlnmjbaaGreatDoorV03
import Derived.Test.YtdpmnlbnlnmjbaaGreatDoorV23
import Derived.Test.YtdpmnlbnlnmjbaaGreatDoorV13
import Derived.Test.YtdpmnlbnlnmjbaaGreatDoorV19
import Derived.Test.YtdpmnlbnlnmjbaaGreatDoorV18
import Derived.Laws.AppendOwnNone
import Derived.Deep.RegionLaw
namespace Go.Proofs.YtdpmnlbnlnmjbaaGreatDoor
set_option maxRecDepth 100000
set_option maxHeartbeats 8000000
section
open Go.RowKit Go.Extern.Stop Go.Stop Go.Extern Go.Sort
theorem rstep_store {cs:List (List Ins)} {p:RkPl} {m:Mk} {K t:Nat} {w:World} (D:RkX cs p m K w) {L:List Ins} (ht:cs[t]? =some L) {x:Ins} (hx:L[m.pc t]? =some x) (e:x.op=⟨#[115,116,111,114,101]⟩) {i:Nat} (hi:i<8) (ei:x.a=i) {j:Nat} (hj:j<8) (ej:x.b=j) {k:Nat} (hk:k<4) (ek:x.c=k):
  Calls Tryz.prog 25 #[.pointer (some ⟨p.k,0,none⟩), .int .i64 t] w fun e w'=>e= .returned (.int .i64 0)/\ ∃r v,RkStep cs p m.mem w r v (m.step L t) w':=by
 have hM:m.step L t=(m.setPc t (m.pc t+1)).exec L t x:=by unfold Mk.step;rw[hx]
 obtain⟨M',hM'⟩: ∃M',M'=(m.setPc t (m.pc t+1)).exec L t x:=⟨_,rfl⟩
 rw[hM, <-hM']
 rw[exec_store (m.setPc t (m.pc t+1)) L t e] at hM'
 clear hM
 rw[ei] at hM'
 rw[ej] at hM'
 rw[ek] at hM'
 simp only[Int.toNat_natCast] at hM'
 try simp only[show ∀r,(m.setPc t (m.pc t+1)).regs t r=m.regs t r from fun _=>rfl] at hM'
 have HD:=hide (rdone_at ht hx D.at')
 obtain⟨xo,xa,xb,xc,xt⟩:=x
 dsimp only at e ei ej ek hM' ⊢
 subst e ei ej ek
 have HM':=hide hM'
 clear hM'
 obtain⟨htl,h6,hpl,hL2,hcap,hcc,ti,t6,pi,hpc2,hpw,hpw2,hr8,HIN,HX,H,d0,hT⟩:=pfx1 D ht hx
 have li:(i:Int)<8:=by omega
 have lj:(j:Int)<8:=by omega
 have lk:(k:Int)<4:=by omega
 clear D
 go_enter Tryz.func25,Tryz.ntmps25
 go_wp2_with fail
 refine HD.out.mono ?_
 rintro e w1 ⟨rfl,hb1⟩
 clear HD hT
 obtain⟨cb,off,H1,hT,hA,hR,had,c0,c1,c2,c3,c4,hC,lcb,lk,lt,lr,zt⟩:=pfx2 H HIN htl ht hx hb1
 dsimp only at c0 c1 c2 c3 c4
 obtain⟨W2,hW2⟩: ∃W2,W2=(w1.alloc (.cells #[.string ⟨#[115,116,111,114,101]⟩, .int .i64 i, .int .i64 j, .int .i64 k, .string xt] 75)).drew:=⟨_,rfl⟩
 obtain⟨b2,q0,q1,q2,q3,q4,lW2⟩:=box5d hW2
 clear HIN had
 go_wp2_with fail
 go_region
 rw[<-hW2]
 have P:=pfx3a H htl hb1 b2 lW2
 replace hC:=keep_cell b2 hC
 clear hT hA hR zt
 obtain⟨B2,H2,hT,hA,hR,zt,dk,dr1,dr2,G2,nk,nt,nr,lk2,lt2,lr2⟩:=P
 obtain⟨W3,hW3,S3,G3,HM3,HX3,y0,y1,y2,y3,y4,T3,R3,k3,lW3,G0⟩:=pfx3b HX htl (by omega) H2 G2 q0 q1 q2 q3 q4
 clear H2 c0 c1 c2 c3 c4 hb1 b2 B2 hW2 G2 S3 H1 lcb
 obtain⟨fi,fzi⟩:=G0.out i (by omega)
 have gi:W3.cell? ⟨p.rb t,i,none⟩=some (.int .i64 (m.regs t i)):=HM3.out.regs t i htl (by omega)
 obtain⟨fj,fzj⟩:=G0.out j (by omega)
 have gj:W3.cell? ⟨p.rb t,j,none⟩=some (.int .i64 (m.regs t j)):=HM3.out.regs t j htl (by omega)
 clear G0
 have hwd:Wd (m.regs t i):=HX3.out.ok.regs t i
 have hfl:(m.setPc t (m.pc t+1)).faults<=900000000:=HX3.out.faults
 have hx8:=HX3.out.few htl
 have hwj:Wd (m.regs t j):=HX3.out.ok.regs t j
 cases hy:(m.setPc t (m.pc t+1)).names (m.regs t i)
 ·have HQ:Hid (M'=(m.setPc t (m.pc t+1)).addFault 1):=by show _=_;rw[HM'.out];unfold Mk.store;rw[hy];rfl
  have HN:=hide (rnames_no hwd HM3.out (by omega) hy)
  clear HM3 HX3 hwd hy HM'
  clear hwj
  generalize m.regs t j=Rj at*
  generalize m.regs t i=Ri at*
  go_wp2_with fail
  rw[<-hW3]
  clear hT hA hR hC zt q0 q1 q2 q3 q4 lW2 lk2 lt2 lr2 hW3
  refine HN.out.mono ?_
  rintro e w4 ⟨⟨c4,g4,rfl⟩,k4⟩
  clear HN
  replace y1:=G3.out.keep k4 y1
  replace y2:=G3.out.keep k4 y2
  have G4:=hide (G3.out.trans k4)
  have HM4:=hide G4.out.step.at'
  have lr4:p.rb t<w4.heap.size:=HM4.out.lr htl
  have lx4:=G4.out.lt
  have HS:=hide (G4.out.below (bRf.alloc nL (.cells #[.int .i64 c4, .int .i64 g4] 95)))
  clear k4 G4 HM4 G3 T3 R3 k3 y0 y3 y4
  go_wp2
  go_ret
  exact⟨rfl,_,_,by rw[HQ.out];exact HS.out.step⟩
 ·have HQ:Hid (M'=((m.setPc t (m.pc t+1)).room t).put t (m.regs t i) k (m.regs t j)):=by show _=_;rw[HM'.out];unfold Mk.store;rw[hy];rfl
  have HST:Hid (∀(r:RmPl) (m':Mk) w',RkAt cs (p.to r p.mv) m' w'->(m'.mem.waits t).length<8->m'.names (m.regs t i)=true->Calls Tryz.prog 59 #[.pointer (some ⟨r.mb,0,none⟩), .int .i64 t, .agg #[.int .i64 (cellOf (m.regs t i)), .int .i64 (genOf (m.regs t i))], .int .i64 k, .int .i64 (m.regs t j)] w' fun e w''=>e= .returned (.int .i64 0)/\Hid (∃r',RkStep cs (p.to r p.mv) m'.mem w' r' p.mv (m'.put t (m.regs t i) k (m.regs t j)) w'')):=fun r m' w' h h8 hn=>rk_store h htl h8 hn hk hwj
  have hxs:=HX3.out.waits htl
  obtain⟨kk,hck,hkk,hhas⟩:=HM3.out.cellAt hy
  have HN:=hide (rnames_yes hwd HM3.out hy)
  rw[hck] at HN
  obtain⟨Gn,hGn⟩: ∃Gn,Gn=genOf (m.regs t i):=⟨_,rfl⟩
  rw[<-hGn] at HN
  rw[hck, <-hGn] at HST
  have hthr:(m.setPc t (m.pc t+1)).mem.threads=cs.length:=HM3.out.thr
  have hHD:Hid (∀w' x l,RkAt cs p (m.setPc t (m.pc t+1)) w'->(m.setPc t (m.pc t+1)).mem.waits t=x::l->Calls Tryz.prog 58 #[.pointer (some ⟨p.rp.mb,0,none⟩), .int .i64 t] w' fun e w''=>e= .returned (.int .i64 (if(m.setPc t (m.pc t+1)).mem.ar.has x.c x.g=true then 0 else 7))/\Hid (∃r,RkStep cs p (m.setPc t (m.pc t+1)).mem w' r p.mv ((m.setPc t (m.pc t+1)).setMem ((m.setPc t (m.pc t+1)).mem.drained t x l)) w'')):=fun w' x l h he=>rk_drain h htl he (hxs x (by rw[he];exact List.mem_cons_self)) hx8
  clear HM3 HX3 hwd hwj hhas HM' hck hGn hxs
  obtain⟨Rj,RJ⟩: ∃Rj,m.regs t j=Rj:=⟨_,rfl⟩
  rw[RJ] at gj fj HST HQ
  go_wp2_with fail
  rw[<-hW3]
  clear hT hA hR hC zt q0 q1 q2 q3 q4 lW2 lk2 lt2 lr2 hW3
  refine HN.out.mono ?_
  rintro e w4 ⟨rfl,hb4⟩
  clear HN
  have G4:=hide (G3.out.below hb4)
  have HM4:Hid (RkAt cs p (m.setPc t (m.pc t+1)) w4):=hide G4.out.step.at'
  obtain⟨W5,hW5⟩: ∃W5,W5=w4.alloc (.cells #[.int .i64 kk, .int .i64 Gn] 95):=⟨_,rfl⟩
  have b5:Below w4.heap.size w4 W5:=by rw[hW5];exact bRf.alloc nL _
  have G5:=hide (G4.out.below b5)
  have HM5:Hid (RkAt cs p (m.setPc t (m.pc t+1)) W5):=hide G5.out.step.at'
  have R5:=hide (G4.out.other (bx':=w4.heap.size) nL b5 (by rw[hW5];simp))
  have x0:W5.cell? ⟨w4.heap.size,0,none⟩=some (.int .i64 kk):=by rw[hW5];simp
  have x1:W5.cell? ⟨w4.heap.size,1,none⟩=some (.int .i64 Gn):=by rw[hW5];simp
  have p2:=keep_cell b5 (keep_cell hb4 y2)
  have p3:=keep_cell b5 (keep_cell hb4 y3)
  have uM:W5.cell? ⟨p.k,0,none⟩=some (.pointer (some ⟨p.rp.mb,0,none⟩)):=HM5.out.mM
  have sj:=keep_cell b5 (keep_cell hb4 gj)
  have u4:w4.cell? ⟨p.k,0,none⟩=some (.pointer (some ⟨p.rp.mb,0,none⟩)):=HM4.out.mM
  have t4:w4.cell? ⟨p.rp.mb,1,none⟩=some (.slice (some ⟨p.rp.tb,0,none⟩) (m.setPc t (m.pc t+1)).mem.threads p.rp.tcap):=HM4.out.mem.mWaits
  have tc4:(m.setPc t (m.pc t+1)).mem.threads<=p.rp.tcap:=HM4.out.mem.tcap
  obtain⟨uv,uown⟩:=HM4.out.mem.waits t (by rw[hthr];exact htl)
  obtain⟨uad,ucap,uvs, -, -, -⟩:=ownsRow_shape uown
  rw[uvs] at uv
  rw[hthr] at t4 tc4
  clear uown uvs
  have q4k:p.k<w4.heap.size:=HM4.out.lk
  have q4m:p.rp.mb<w4.heap.size:=HM4.out.mem.lm
  have q4t:p.rp.tb<w4.heap.size:=HM4.out.mem.lt
  clear b5 hb4 G3 G4 HM4 y0 y1 y2 y3 y4 gi gj T3 R3 k3
  by_cases h8:((m.setPc t (m.pc t+1)).mem.waits t).length<8
  ·have HR:Hid ((m.setPc t (m.pc t+1)).room t=(m.setPc t (m.pc t+1))):=by show _=_;unfold Mk.room;rw[if_neg (by omega)]
   have HS5:=hide (HST.out p.rp (m.setPc t (m.pc t+1)) (W5.drewN 1) (HM5.out.drewN 1) h8 hy)
   have h8i:((((m.setPc t (m.pc t+1)).mem.waits t).length:Nat):Int)<8:=by omega
   clear HST hy hx8 h8 R5 HM5 hHD
   generalize ((m.setPc t (m.pc t+1)).mem.waits t).length=N8 at*
   go_wp2_with fail
   rw[<-hW5]
   clear hW5 u4 t4 uv
   refine wp_region_F (S:=(fun w'=>w'.cell? ⟨p.k,0,none⟩=some (.pointer (some ⟨p.rp.mb,0,none⟩))/\w'.cell? ⟨w4.heap.size,0,none⟩=some (.int .i64 kk)/\w'.cell? ⟨w4.heap.size,1,none⟩=some (.int .i64 Gn)/\w'.cell? ⟨w1.heap.size,2,none⟩=some (.int .i64 j)/\w'.cell? ⟨w1.heap.size,3,none⟩=some (.int .i64 k)/\w'.cell? ⟨p.rb t,j,none⟩=some (.int .i64 Rj))) (by kernel_rfl) (by(try dsimp only);go_keep) (fun hHeld=>?_)
   iterate 13
    refine' wpAnyF_next (sz:=14) (n:=13) (v:=_) rfl (by kernel_rfl) (fun _ _ _ h=>h) (by assumption) (Or.inl ⟨by rfl,?_⟩) ?_
    case' refine'_2=>(intro w' hSw;(try dsimp only at hSw);go_simp;try with_reducible rfl)
    try simp only[Act.put,fxs]
   refine wpAnyF_only (i:=13) rfl (by kernel_rfl) (fun K hK=>?_)
   go_simp
   go_at_call 59
   refine HS5.out.mono ?_
   rintro e w9 ⟨rfl,k9⟩
   dsimp only
   refine hK.out _ _ (Or.inl (by kernel_rfl)) ?_
   clear hK K
   try simp only[Act.put,fxs]
   refine wpAnyF_done (by kernel_rfl) ?_ _
   go_wp2
   go_ret
   obtain⟨r9,k10⟩:=k9.out
   exact⟨rfl,_,_,by rw[HQ.out,HR.out];exact(G5.out.below (Below.drewN' 1)).step.trans k10⟩
  ·obtain ⟨x,l,he⟩: ∃x l,(m.setPc t (m.pc t+1)).mem.waits t=x::l:=by
    cases hh:(m.setPc t (m.pc t+1)).mem.waits t with
    |nil=>rw[hh] at h8;exact absurd (show 0<8 by decide) h8
    |cons x l=>exact⟨x,l,rfl⟩
   have h8i: ¬((((m.setPc t (m.pc t+1)).mem.waits t).length:Nat):Int)<8:=by omega
   have h8j:(8:Int)<=((((m.setPc t (m.pc t+1)).mem.waits t).length:Nat):Int):=by omega
   have hl8:l.length<8:=by rw[he,List.length_cons] at hx8;omega
   have HD5:=hide (hHD.out W5 x l HM5.out he)
   have hdn:((m.setPc t (m.pc t+1)).setMem ((m.setPc t (m.pc t+1)).mem.drained t x l)).names (m.regs t i)=true:=by rw[<-hy];unfold Mk.names;rw[show((m.setPc t (m.pc t+1)).setMem ((m.setPc t (m.pc t+1)).mem.drained t x l)).mem=(m.setPc t (m.pc t+1)).mem.drained t x l from rfl,Ar.has_drained]
   have hdw:(((m.setPc t (m.pc t+1)).setMem ((m.setPc t (m.pc t+1)).mem.drained t x l)).mem.waits t).length<8:=by rw[show((m.setPc t (m.pc t+1)).setMem ((m.setPc t (m.pc t+1)).mem.drained t x l)).mem=(m.setPc t (m.pc t+1)).mem.drained t x l from rfl,Rm.drained_waits];exact hl8
   have HR0:Hid ((m.setPc t (m.pc t+1)).room t=if(m.setPc t (m.pc t+1)).mem.ar.has x.c x.g=true then(m.setPc t (m.pc t+1)).setMem ((m.setPc t (m.pc t+1)).mem.drained t x l) else((m.setPc t (m.pc t+1)).setMem ((m.setPc t (m.pc t+1)).mem.drained t x l)).addFault 1):=by
    show _=_
    unfold Mk.room Mk.drain1
    rw[if_pos (by omega),he]
    by_cases hh:(m.setPc t (m.pc t+1)).mem.ar.has x.c x.g=true
    ·simp only[if_pos hh];rfl
    ·simp only[if_neg hh];rfl
   clear hHD hy hx8 h8 he HM5
   generalize ((m.setPc t (m.pc t+1)).mem.waits t).length=N8 at*
   cases hh:(m.setPc t (m.pc t+1)).mem.ar.has x.c x.g
   ·have HR:Hid ((m.setPc t (m.pc t+1)).room t=((m.setPc t (m.pc t+1)).setMem ((m.setPc t (m.pc t+1)).mem.drained t x l)).addFault 1):=by show _=_;rw[HR0.out,hh];rfl
    rw[hh,if_neg (by decide)] at HD5
    clear HR0 hh hl8
    go_wp2_with fail
    rw[<-hW5]
    clear hW5 u4 t4 uv
    refine HD5.out.mono ?_
    rintro e w6 ⟨rfl,k6⟩
    clear HD5
    obtain⟨r,k6⟩:=k6.out
    replace x0:=R5.out.keep k6 x0
    replace x1:=R5.out.keep k6 x1
    replace p2:=G5.out.keep k6 p2
    replace p3:=G5.out.keep k6 p3
    have G6:=hide (G5.out.trans k6)
    have R6:=hide (R5.out.trans k6)
    have HM6:Hid (RkAt cs (p.to r p.mv) ((m.setPc t (m.pc t+1)).setMem ((m.setPc t (m.pc t+1)).mem.drained t x l)) w6):=hide G6.out.step.at'
    have hf6:w6.cell? ⟨p.k,3,none⟩=some (.int .i64 m.faults):=HM6.out.mFaults
    have hz6:w6.frozen? ⟨p.k,3,none⟩=false:=HM6.out.fk 3
    have hfl2:m.faults<=900000000:=hfl
    have kF:RkStep cs (p.to r p.mv) ((m.setPc t (m.pc t+1)).setMem ((m.setPc t (m.pc t+1)).mem.drained t x l)).mem w6 r p.mv (((m.setPc t (m.pc t+1)).setMem ((m.setPc t (m.pc t+1)).mem.drained t x l)).addFault 1) (w6.setCell ⟨p.k,3,none⟩ (.int .i64 ((m.faults:Int)+1))):=HM6.out.addFault 1
    obtain⟨W7,hW7⟩: ∃W7,W7=w6.setCell ⟨p.k,3,none⟩ (.int .i64 ((m.faults:Int)+1)):=⟨_,rfl⟩
    rw[<-hW7] at kF
    have z0:=R6.out.keep kF x0
    have z1:=R6.out.keep kF x1
    have z2:=G6.out.keep kF p2
    have z3:=G6.out.keep kF p3
    have G7:=hide (G6.out.trans kF)
    have HM7:Hid (RkAt cs (p.to r p.mv) (((m.setPc t (m.pc t+1)).setMem ((m.setPc t (m.pc t+1)).mem.drained t x l)).addFault 1) W7):=hide G7.out.step.at'
    have HS5:=hide (HST.out r (((m.setPc t (m.pc t+1)).setMem ((m.setPc t (m.pc t+1)).mem.drained t x l)).addFault 1) (W7.drewN 1) (HM7.out.drewN 1) hdw hdn)
    have zM:W7.cell? ⟨p.k,0,none⟩=some (.pointer (some ⟨r.mb,0,none⟩)):=HM7.out.mM
    have zj:W7.cell? ⟨p.rb t,j,none⟩=some (.int .i64 (m.regs t j)):=HM7.out.regs t j htl hj
    have um6:w6.cell? ⟨p.k,0,none⟩=some (.pointer (some ⟨r.mb,0,none⟩)):=HM6.out.mM
    rw[RJ] at zj
    clear HST G6 R6 HM6 kF k6 R5 HM7 uM sj hdw hdn
    generalize m.faults=N at*
    go_wp2_with fail
    rw[<-hW7]
    clear hW7 hf6 hz6 x0 x1 p2 p3 um6
    refine wp_region_F (S:=(fun w'=>w'.cell? ⟨p.k,0,none⟩=some (.pointer (some ⟨r.mb,0,none⟩))/\w'.cell? ⟨w4.heap.size,0,none⟩=some (.int .i64 kk)/\w'.cell? ⟨w4.heap.size,1,none⟩=some (.int .i64 Gn)/\w'.cell? ⟨w1.heap.size,2,none⟩=some (.int .i64 j)/\w'.cell? ⟨w1.heap.size,3,none⟩=some (.int .i64 k)/\w'.cell? ⟨p.rb t,j,none⟩=some (.int .i64 Rj))) (by kernel_rfl) (by(try dsimp only);go_keep) (fun hHeld=>?_)
    iterate 13
     refine' wpAnyF_next (sz:=14) (n:=13) (v:=_) rfl (by kernel_rfl) (fun _ _ _ h=>h) (by assumption) (Or.inl ⟨by rfl,?_⟩) ?_
     case' refine'_2=>(intro w' hSw;(try dsimp only at hSw);go_simp;try with_reducible rfl)
     try simp only[Act.put,fxs]
    refine wpAnyF_only (i:=13) rfl (by kernel_rfl) (fun K hK=>?_)
    go_simp
    go_at_call 59
    refine HS5.out.mono ?_
    rintro e w9 ⟨rfl,k9⟩
    dsimp only
    refine hK.out _ _ (Or.inl (by kernel_rfl)) ?_
    clear hK K
    try simp only[Act.put,fxs]
    refine wpAnyF_done (by kernel_rfl) ?_ _
    go_wp2
    go_ret
    obtain⟨r9,k10⟩:=k9.out
    exact⟨rfl,_,_,by rw[HQ.out,HR.out];exact(G7.out.below (Below.drewN' 1)).step.trans k10⟩
   ·have HR:Hid ((m.setPc t (m.pc t+1)).room t=(m.setPc t (m.pc t+1)).setMem ((m.setPc t (m.pc t+1)).mem.drained t x l)):=by show _=_;rw[HR0.out,hh];rfl
    rw[hh,if_pos rfl] at HD5
    clear HR0 hh hl8
    go_wp2_with fail
    rw[<-hW5]
    clear hW5 u4 t4 uv
    refine HD5.out.mono ?_
    rintro e w6 ⟨rfl,k6⟩
    clear HD5
    obtain⟨r,k6⟩:=k6.out
    replace x0:=R5.out.keep k6 x0
    replace x1:=R5.out.keep k6 x1
    replace p2:=G5.out.keep k6 p2
    replace p3:=G5.out.keep k6 p3
    have G6:=hide (G5.out.trans k6)
    have HM6:Hid (RkAt cs (p.to r p.mv) ((m.setPc t (m.pc t+1)).setMem ((m.setPc t (m.pc t+1)).mem.drained t x l)) w6):=hide G6.out.step.at'
    have HS5:=hide (HST.out r ((m.setPc t (m.pc t+1)).setMem ((m.setPc t (m.pc t+1)).mem.drained t x l)) (w6.drewN 1) (HM6.out.drewN 1) hdw hdn)
    have zM:w6.cell? ⟨p.k,0,none⟩=some (.pointer (some ⟨r.mb,0,none⟩)):=HM6.out.mM
    have zj:w6.cell? ⟨p.rb t,j,none⟩=some (.int .i64 (m.regs t j)):=HM6.out.regs t j htl hj
    rw[RJ] at zj
    clear HST HM6 k6 R5 uM sj hdw hdn
    go_wp2_with fail
    refine wp_region_F (S:=(fun w'=>w'.cell? ⟨p.k,0,none⟩=some (.pointer (some ⟨r.mb,0,none⟩))/\w'.cell? ⟨w4.heap.size,0,none⟩=some (.int .i64 kk)/\w'.cell? ⟨w4.heap.size,1,none⟩=some (.int .i64 Gn)/\w'.cell? ⟨w1.heap.size,2,none⟩=some (.int .i64 j)/\w'.cell? ⟨w1.heap.size,3,none⟩=some (.int .i64 k)/\w'.cell? ⟨p.rb t,j,none⟩=some (.int .i64 Rj))) (by kernel_rfl) (by(try dsimp only);go_keep) (fun hHeld=>?_)
    iterate 13
     refine' wpAnyF_next (sz:=14) (n:=13) (v:=_) rfl (by kernel_rfl) (fun _ _ _ h=>h) (by assumption) (Or.inl ⟨by rfl,?_⟩) ?_
     case' refine'_2=>(intro w' hSw;(try dsimp only at hSw);go_simp;try with_reducible rfl)
     try simp only[Act.put,fxs]
    refine wpAnyF_only (i:=13) rfl (by kernel_rfl) (fun K hK=>?_)
    go_simp
    go_at_call 59
    refine HS5.out.mono ?_
    rintro e w9 ⟨rfl,k9⟩
    dsimp only
    refine hK.out _ _ (Or.inl (by kernel_rfl)) ?_
    clear hK K
    try simp only[Act.put,fxs]
    refine wpAnyF_done (by kernel_rfl) ?_ _
    go_wp2
    go_ret
    obtain⟨r9,k10⟩:=k9.out
    exact⟨rfl,_,_,by rw[HQ.out,HR.out];exact(G6.out.below (Below.drewN' 1)).step.trans k10⟩
end
section
open Go.RowKit Go.Extern.Stop Go.Stop Go.Extern Go.Sort
variable {cs:List (List Ins)} {L:List Ins} {K t:Nat} {w:World}
theorem rstep_mark {p:RkPl} {m:Mk} (D:RkX cs p m K w) (ht:cs[t]? =some L) {x:Ins} (hx:L[m.pc t]? =some x) (e:x.op=⟨#[109,97,114,107]⟩) {i:Nat} (hi:i<8) (ei:x.a=i):
  Calls Tryz.prog 25 #[.pointer (some ⟨p.k,0,none⟩), .int .i64 t] w fun e w'=>e= .returned (.int .i64 0)/\ ∃r v,RkStep cs p m.mem w r v (m.step L t) w':=by
 have hM:m.step L t=(m.setPc t (m.pc t+1)).exec L t x:=by unfold Mk.step;rw[hx]
 obtain⟨M',hM'⟩: ∃M',M'=(m.setPc t (m.pc t+1)).exec L t x:=⟨_,rfl⟩
 rw[hM, <-hM']
 rw[exec_mark (m.setPc t (m.pc t+1)) L t e] at hM'
 clear hM
 rw[ei] at hM'
 simp only[Int.toNat_natCast] at hM'
 try simp only[show ∀r,(m.setPc t (m.pc t+1)).regs t r=m.regs t r from fun _=>rfl] at hM'
 have HD:=hide (rdone_at ht hx D.at')
 obtain⟨xo,xa,xb,xc,xt⟩:=x
 dsimp only at e ei hM' ⊢
 subst e ei
 have HM':=hide hM'
 clear hM'
 obtain⟨htl,h6,hpl,hL2,hcap,hcc,ti,t6,pi,hpc2,hpw,hpw2,hr8,HIN,HX,H,d0,hT⟩:=pfx1 D ht hx
 have li:(i:Int)<8:=by omega
 clear D
 go_enter Tryz.func25,Tryz.ntmps25
 go_wp2_with fail
 refine HD.out.mono ?_
 rintro e w1 ⟨rfl,hb1⟩
 clear HD hT
 obtain⟨cb,off,H1,hT,hA,hR,had,c0,c1,c2,c3,c4,hC,lcb,lk,lt,lr,zt⟩:=pfx2 H HIN htl ht hx hb1
 dsimp only at c0 c1 c2 c3 c4
 obtain⟨W2,hW2⟩: ∃W2,W2=(w1.alloc (.cells #[.string ⟨#[109,97,114,107]⟩, .int .i64 i, .int .i64 xb, .int .i64 xc, .string xt] 75)).drew:=⟨_,rfl⟩
 obtain⟨b2,q0,q1,q2,q3,q4,lW2⟩:=box5d hW2
 clear HIN had
 go_wp2_with fail
 go_region
 rw[<-hW2]
 have P:=pfx3a H htl hb1 b2 lW2
 replace hC:=keep_cell b2 hC
 clear hT hA hR zt
 obtain⟨B2,H2,hT,hA,hR,zt,dk,dr1,dr2,G2,nk,nt,nr,lk2,lt2,lr2⟩:=P
 obtain⟨W3,hW3⟩: ∃W3,W3=W2.setCell ⟨p.tb,t*3+2,none⟩ (.int .i64 ((m.pc t:Int)+1)):=⟨_,rfl⟩
 have S3:Hid (RkStep cs p m.mem W2 p.rp p.mv (m.setPc t (m.pc t+1)) W3):=hide (by rw[hW3];exact H2.out.setPc htl (m.pc t+1))
 have G3:Hid (Stg cs p m.mem w w1.heap.size p.rp p.mv (m.setPc t (m.pc t+1)) W3):=hide (G2.out.trans S3.out)
 have HM3:Hid (RkAt cs p (m.setPc t (m.pc t+1)) W3):=hide G3.out.step.at'
 have HX3:Hid (RkX cs p (m.setPc t (m.pc t+1)) K W3):=hide ⟨HM3.out,HX.out.ok.setPc t (by omega),HX.out.right,HX.out.hK⟩
 have y0:=G2.out.keep S3.out q0
 have y1:=G2.out.keep S3.out q1
 have y2:=G2.out.keep S3.out q2
 have y3:=G2.out.keep S3.out q3
 have y4:=G2.out.keep S3.out q4
 have HK2:=hide H2.out.mMarks
 have T3:=HM3.out.mT
 have R3:=HM3.out.tRegs t htl
 have k3:=HM3.out.mM
 have lW3:w1.heap.size<W3.heap.size:=G3.out.lt
 have G0:Hid (∀r,r<8->W2.cell? ⟨p.rb t,r,none⟩=some (.int .i64 (m.regs t r))/\W2.frozen? ⟨p.rb t,r,none⟩=false):=fun r hr=>⟨H2.out.regs t r htl hr,H2.out.fr t r htl⟩
 clear H2 c0 c1 c2 c3 c4 hb1 b2 B2 hW2 G2 S3 H1 lcb
 obtain⟨fi,fzi⟩:=G0.out i (by omega)
 have gi:W3.cell? ⟨p.rb t,i,none⟩=some (.int .i64 (m.regs t i)):=HM3.out.regs t i htl (by omega)
 clear G0
 obtain⟨ad,cap,hvs,hcl,hcm, -⟩:=ownsRow_shape HM3.out.own
 have hv:=HM3.out.own
 rw[hvs] at hv
 rw[show(m.setPc t (m.pc t+1)).marks=m.marks from rfl] at hv hvs hcl
 have hm:W3.cell? ⟨p.k,2,none⟩=some (.slice ad m.marks.length cap):=by rw[<-hvs];exact HM3.out.mMarks
 have hm2:W2.cell? ⟨p.k,2,none⟩=some (.slice ad m.marks.length cap):=by rw[<-hvs];exact HK2.out
 clear HK2
 have zk:W3.frozen? ⟨p.k,2,none⟩=false:=HM3.out.fk 2
 have lk3:p.k<W3.heap.size:=HM3.out.lk
 have lr3:p.rb t<W3.heap.size:=HM3.out.lr htl
 have hml5:=HX3.out.ok.marks
 rw[show(m.setPc t (m.pc t+1)).marks=m.marks from rfl] at hml5
 by_cases hl:m.marks.length<500
 ·have HQ :Hid (M'={ (m.setPc t (m.pc t+1)) with marks:=m.marks++[(t,m.regs t i)] }):=by show _=_;rw[HM'.out];unfold Mk.mark;rw[if_pos (show(m.setPc t (m.pc t+1)).marks.length<500 from hl)];rfl
  have hli:(m.marks.length:Int)<500:=by omega
  obtain⟨ri,hri,hrz,hrs,hrb⟩:=rmarkInfo
  have om:(Value.slice ad m.marks.length cap).ownBlock≠some p.k:=fun e=>(HM3.out.d4 _ (by rw[hvs];exact e)).1 rfl
  have orr:(Value.slice ad m.marks.length cap).ownBlock≠some (p.rb t):=fun e=>(HM3.out.d4 _ (by rw[hvs];exact e)).2.2 t htl rfl
  have ob:(Value.slice ad m.marks.length cap).ownBlock≠some w1.heap.size:=fun e=>G3.out.nfp (.inr (.inr (.inr (.inl (by show p.mv.ownBlock=_;rw[hvs];exact e)))))
  have HV:=hide hvs
  have hml:m.marks.length+1<=maxLen:=by unfold maxLen;omega
  have hmb:(m.marks.length+1)*16<=140737488355328:=by omega
  clear HX3 HM' hvs hcl hcm hl hml5
  generalize m.regs t i=Ri at*
  go_wp2_with fail
  rw[<-hW3]
  clear hT hA hR hC zt q0 q1 q2 q3 q4 lW2 lk2 lt2 lr2 hW3 hm2 fi fzi
  go_region_held3 (fun w'=>w'.cell? ⟨p.k,2,none⟩=some (.slice ad m.marks.length cap)/\w'.cell? ⟨w1.heap.size,1,none⟩=some (.int .i64 i)/\w'.cell? ⟨p.rb t,i,none⟩=some (.int .i64 Ri))
   (first
     |go_keep
     | (go_split_ands
        refine⟨?_,?_,?_⟩
        ·(rw[hgrow.cell_far _ (by simp;omega) (Ne.symm om)];assumption)
        ·(rw[hgrow.cell_far _ (by simp;omega) (Ne.symm ob)];assumption)
        ·(rw[hgrow.cell_far _ (by simp;omega) (Ne.symm orr)];assumption)))
   ((refine step_append_at _ (by rfl) _ _ _ (by rfl) 0 126 ri _ 2 16 Tryz.underlying60 hri hrz hrs hrb rfl (by omega) (.slice ad m.marks.length cap) _ (rmarkCells m.marks) (by rfl) ((hv.alloc _).drew)
      ⟨W3.heap.size,0,none⟩ 1 1 [.int .i64 t, .int .i64 Ri] (by rfl) (by rfl) (World.news_of_block (cs:=#[.int .i64 t, .int .i64 Ri]) (t:=126) (fr:=(0,0)) (heap_alloc_new W3 _)) (by simp[Value.oneCell'])
      hml hmb (by simp) ?_;intro gg gcap w6 hown6 hgrow hat))
  obtain⟨j1,j2,j3⟩:= ‹_/\_/\_›
  have hg: ∀b,b<W3.heap.size->(Value.slice ad m.marks.length cap).ownBlock≠some b->w6.heap[b]? =W3.heap[b]? :=fun b hb hne=>by
   rw[hgrow.block b (by simp;omega) (Ne.symm hne)]
   exact Below.heap_alloc _ _ _ hb
  have hz:W3.heap.size<=w6.heap.size:=Nat.le_trans (by simp) hgrow.size
  have hf6:w6.frozen? ⟨p.k,2,none⟩=false:=by rw[World.frozen?_of_block (hg p.k lk3 om)];exact zk
  have HT:Turns (fun k _=>p.mv.ownBlock=some k) W3 w6:=⟨hgrow.os,hgrow.tape,hgrow.output,hz,fun k hk ho=>hg k hk (fun e=>ho 0 (by rw[HV.out];exact e)),
   fun k o hk ho=>World.cell?_of_block (hg k hk (fun e=>ho (by rw[HV.out];exact e))),fun k o hk ho=>World.frozen?_of_block (hg k hk (fun e=>ho (by rw[HV.out];exact e)))⟩
  have HS:=hide (G3.out.step.trans (HM3.out.marked (.slice gg (m.marks.length+1) gcap) (m.marks++[(t,Ri)]) (by rw[rmarkCells_append,List.length_append];exact hown6) HT (fun k e=>by
   rcases hat with e2 |e2
   ·left;rw[HV.out, <-e2];exact e
   ·right;rw[e2] at e;simp at e;omega)))
  clear hown6 hgrow hat hg HT HM3 G3 HV hri hrz hrs hrb hv hm zk om orr ob
  go_wp2
  go_ret
  exact⟨rfl,_,_,by rw[HQ.out];exact HS.out⟩
 ·have HQ:Hid (M'=(m.setPc t (m.pc t+1))):=by show _=_;rw[HM'.out];unfold Mk.mark;rw[if_neg (show ¬(m.setPc t (m.pc t+1)).marks.length<500 from hl)]
  have hli: ¬(m.marks.length:Int)<500:=by omega
  have HS:=hide G3.out.step
  rw[hW3] at HS
  clear G3 HM3 HX3 HM' hv hvs hl
  go_wp2
  go_ret
  exact⟨rfl,_,_,by rw[HQ.out];exact HS.out⟩
theorem rstep_force {p:RkPl} {m:Mk} (D:RkX cs p m K w) (ht:cs[t]? =some L) {x:Ins} (hx:L[m.pc t]? =some x) (e:x.op=⟨#[102,111,114,99,101]⟩):
  Calls Tryz.prog 25 #[.pointer (some ⟨p.k,0,none⟩), .int .i64 t] w fun e w'=>e= .returned (.int .i64 0)/\ ∃r v,RkStep cs p m.mem w r v (m.step L t) w':=by
 have hM:m.step L t=(m.setPc t (m.pc t+1)).exec L t x:=by unfold Mk.step;rw[hx]
 obtain⟨M',hM'⟩: ∃M',M'=(m.setPc t (m.pc t+1)).exec L t x:=⟨_,rfl⟩
 rw[hM, <-hM']
 rw[exec_force (m.setPc t (m.pc t+1)) L t e] at hM'
 clear hM
 have HD:=hide (rdone_at ht hx D.at')
 obtain⟨xo,xa,xb,xc,xt⟩:=x
 dsimp only at e hM' ⊢
 subst e
 have HM':=hide hM'
 clear hM'
 obtain⟨htl,h6,hpl,hL2,hcap,hcc,ti,t6,pi,hpc2,hpw,hpw2,hr8,HIN,HX,H,d0,hT⟩:=pfx1 D ht hx
 clear D
 go_enter Tryz.func25,Tryz.ntmps25
 go_wp2_with fail
 refine HD.out.mono ?_
 rintro e w1 ⟨rfl,hb1⟩
 clear HD hT
 obtain⟨cb,off,H1,hT,hA,hR,had,c0,c1,c2,c3,c4,hC,lcb,lk,lt,lr,zt⟩:=pfx2 H HIN htl ht hx hb1
 dsimp only at c0 c1 c2 c3 c4
 obtain⟨W2,hW2⟩: ∃W2,W2=(w1.alloc (.cells #[.string ⟨#[102,111,114,99,101]⟩, .int .i64 xa, .int .i64 xb, .int .i64 xc, .string xt] 75)).drew:=⟨_,rfl⟩
 obtain⟨b2,q0,q1,q2,q3,q4,lW2⟩:=box5d hW2
 clear HIN had
 go_wp2_with fail
 go_region
 rw[<-hW2]
 have P:=pfx3a H htl hb1 b2 lW2
 replace hC:=keep_cell b2 hC
 clear hT hA hR zt
 obtain⟨B2,H2,hT,hA,hR,zt,dk,dr1,dr2,G2,nk,nt,nr,lk2,lt2,lr2⟩:=P
 obtain⟨W3,hW3,S3,G3,HM3,HX3,y0,y1,y2,y3,y4,T3,R3,k3,lW3,G0⟩:=pfx3b HX htl (by omega) H2 G2 q0 q1 q2 q3 q4
 clear H2 c0 c1 c2 c3 c4 hb1 b2 B2 hW2 G2 S3 H1 lcb
 clear G0
 have hthr:(m.setPc t (m.pc t+1)).mem.threads=cs.length:=HM3.out.thr
 have hN:=HX3.out.ok.thr
 rw[hthr] at HM'
 have HI:Hid (∃mj r,Stg cs p m.mem w w1.heap.size r p.mv mj W3/\MkIn cs.length K (64*K+8*0) mj/\mj.fenceFrom 0 (cs.length - 0)=M'):=hide ⟨_,_,G3.out,HX3.out.ok.in,HM'.out.symm⟩
 have hKK:=HX3.out.hK
 have T3': ∀(r:RmPl) (mj:Mk) (wr:World),Hid (Stg cs p m.mem w w1.heap.size r p.mv mj wr)->wr.cell? ⟨p.k,1,none⟩=some (.slice (some ⟨p.tb,0,none⟩) cs.length p.tcap):=fun r mj wr h=>h.out.step.at'.mT
 clear HM3 HX3 hthr hN HM'
 go_wp2_with fail
 rw[<-hW3]
 clear hT hA hR hC zt q0 q1 q2 q3 q4 lW2 lk2 lt2 lr2 hW3
 clear y0 y1 y2 y3 y4 T3 R3 k3 G3
 go_loopw [29] (fun i wr=> ∃j:Nat,j<=cs.length/\i= .int .i64 j/\ ∃mj r,Hid (Stg cs p m.mem w w1.heap.size r p.mv mj wr/\MkIn cs.length K (64*K+8*j) mj/\mj.fenceFrom j (cs.length - j)=M')) (fun i _=>cs.length - (intOf i).toNat)
 case atStart=>
  obtain⟨mj,r,hh⟩:=HI.out
  exact⟨0,Nat.zero_le _,rfl,mj,r,hide hh⟩
 case round=>
  clear HI
  obtain⟨j,hj,rfl,mj,r,HH⟩:=hrel
  have TT:=T3' r mj wr (hide HH.out.1)
  by_cases hlt:j<cs.length
  ·have ji:(j:Int)<cs.length:=by omega
   have HF:=hide (rkfence_any hlt HH.out.1.step.at' (HH.out.2.1.mem.ok j (by rw[HH.out.2.1.thr];exact hlt)) (HH.out.2.1.mem.few j (by rw[HH.out.2.1.thr];exact hlt)) (by have:=HH.out.2.1.faults;omega))
   go_wp2_with fail
   refine HF.out.mono ?_
   rintro e w4 ⟨rfl,r2,k4⟩
   have H2:Hid (Stg cs p m.mem w w1.heap.size r2 p.mv (mj.fence j) w4/\MkIn cs.length K (64*K+8*(j+1)) (mj.fence j)/\(mj.fence j).fenceFrom (j+1) (cs.length - (j+1))=M'):=hide ⟨HH.out.1.trans k4,by have:=HH.out.2.1.fence hlt;exact this,by
    have:=HH.out.2.2
    rw[show cs.length - j=(cs.length - (j+1))+1 by omega] at this
    exact this⟩
   clear k4 HF HH TT
   go_wp2
   go_roundw
   case rel=>exact⟨j+1,by omega,by go_num,_,_,H2⟩
   case measure=>simp[intOf];omega
  ·obtain rfl:j=cs.length:=by omega
   have HZ:Hid (mj=M'):=by
    have:=HH.out.2.2
    rw[Nat.sub_self] at this
    exact this
   go_wp2
   go_ret
   exact⟨rfl,_,_,by rw[<-HZ.out];exact HH.out.1.step⟩
end
section
open Go.RowKit Go.Extern.Stop Go.Stop Go.Extern Go.Sort
variable {cs:List (List Ins)} {w:World} {p:RkPl} {m:Mk} {L:List Ins} {t:Nat}
theorem rstep_any{K t:Nat}(D:RkX cs p m K w)(ht:cs[t]? =some L)(hd:doneAt L (m.pc t)=false):
  Calls Tryz.prog 25 #[.pointer (some ⟨p.k,0,none⟩), .int .i64 t] w fun e w'=>e= .returned (.int .i64 0)/\ ∃r v,RkStep cs p m.mem w r v (m.step L t) w':=by
 obtain⟨x,hx,hst⟩:=doneAt_no hd
 obtain⟨-,hI⟩:=D.right.right t L ht
 obtain⟨hok, -⟩:=hI _ x hx
 rcases kinds hok with⟨e,⟨i0,l0,g0⟩, -⟩ |⟨e,⟨i0,l0,g0⟩,⟨i1,l1,g1⟩⟩ |⟨e,⟨i0,l0,g0⟩,⟨i1,l1,g1⟩,⟨i2,l2,g2⟩⟩ |⟨e,⟨i0,l0,g0⟩,⟨i1,l1,g1⟩,⟨i2,l2,g2⟩⟩ |⟨e,⟨i0,l0,g0⟩,⟨i1,l1,g1⟩,⟨i2,l2,g2⟩⟩ |⟨e,⟨i0,l0,g0⟩,⟨i1,l1,g1⟩,⟨i2,l2,g2⟩⟩ |⟨e,⟨i0,l0,g0⟩,⟨i1,l1,g1⟩,⟨i2,l2,g2⟩⟩ |⟨e,⟨i0,l0,g0⟩,⟨i1,l1,g1⟩,⟨i2,l2,g2⟩⟩ |⟨e,⟨i0,l0,g0⟩,⟨i1,l1,g1⟩,⟨i2,l2,g2⟩⟩ |⟨e,⟨i0,l0,g0⟩,⟨i1,l1,g1⟩,⟨i2,l2,g2⟩⟩ |⟨e,⟨i0,l0,g0⟩⟩ |⟨e,⟨i0,l0,g0⟩⟩ |⟨e,⟨i0,l0,g0⟩⟩ |⟨e,⟨i0,l0,g0⟩⟩ |e |e |e |⟨e,⟨i0,l0,g0⟩,⟨i1,g1⟩⟩ |⟨e,⟨i0,l0,g0⟩,⟨i1,l1,g1⟩,⟨i2,g2⟩⟩ |⟨e,⟨i0,g0⟩⟩ |⟨e, -⟩
 ·exact rstep_const D ht hx e l0 g0
 ·exact rstep_move D ht hx e l0 g0 l1 g1
 ·exact rstep_add D ht hx e l0 g0 l1 g1 l2 g2
 ·exact rstep_sub D ht hx e l0 g0 l1 g1 l2 g2
 ·exact rstep_and D ht hx e l0 g0 l1 g1 l2 g2
 ·exact rstep_xor D ht hx e l0 g0 l1 g1 l2 g2
 ·exact rstep_load D ht hx e l0 g0 l1 g1 l2 g2
 ·exact rstep_store D ht hx e l0 g0 l1 g1 l2 g2
 ·exact rstep_swap D ht hx e l0 g0 l1 g1 l2 g2
 ·exact rstep_cas D ht hx e l0 g0 l1 g1 l2 g2
 ·exact rstep_alloc D ht hx e l0 g0
 ·exact rstep_free D ht hx e l0 g0
 ·exact rstep_mark D ht hx e l0 g0
 ·exact rstep_need D ht hx e l0 g0
 ·exact rstep_fence D ht hx e
 ·exact rstep_force D ht hx e
 ·rw[e,toList_bl] at hst;cases hst
 ·exact rstep_zero D ht hx e l0 g0 g1
 ·exact rstep_same D ht hx e l0 g0 l1 g1 g2
 ·exact rstep_goto D ht hx e g0
 ·exact rstep_label D ht hx e
theorem rdone_any (ht:cs[t]? =some L) (h:RkAt cs p m w):
  Calls Tryz.prog 51 #[.pointer (some ⟨p.k,0,none⟩), .int .i64 t] w fun e w'=>e= .returned (.bool (doneAt L (m.pc t)))/\Below w.heap.size w w':=by
 unfold doneAt
 cases hx:L[m.pc t]? with
 | none=>
  have :L.length<=m.pc t:=by
   rcases Nat.lt_or_ge (m.pc t) L.length with h1 |h1
   ·rw[List.getElem?_eq_getElem h1] at hx;cases hx
   ·exact h1
  exact rdone_end ht this h
 |some x=>exact rdone_at ht hx h
theorem rstep_no{t:Int}(ht: ¬(0<=t/\t<cs.length))(h:RkAt cs p m w):
  Calls Tryz.prog 25 #[.pointer (some ⟨p.k,0,none⟩), .int .i64 t] w fun e w'=>e= .returned (.int .i64 2)/\Below w.heap.size w w':=by
 have hT:=h.mT
 clear h
 go_enter Tryz.func25,Tryz.ntmps25
 rcases Int.lt_or_le t 0 with h0 |h0
 ·go_wp2
  go_ret
  exact⟨rfl,Below.refl _ _⟩
 ·have h1:(cs.length:Int)<=t:=by omega
  clear ht
  go_wp2
  go_ret
  exact⟨rfl,Below.refl _ _⟩
theorem rstep_done(ht:cs[t]? =some L)(hd:doneAt L (m.pc t)=true)(h:RkAt cs p m w):
  Calls Tryz.prog 25 #[.pointer (some ⟨p.k,0,none⟩), .int .i64 t] w fun e w'=>e= .returned (.int .i64 9)/\Below w.heap.size w w':=by
 have hT:=h.mT
 have HD:=hide (rdone_any ht h)
 rw[hd] at HD
 have htl:=lt_of_get ht
 have ti:(t:Int)<cs.length:=by omega
 have d0:decide ((t:Int)<0)=false:=by simp
 clear h hd ht
 go_enter Tryz.func25,Tryz.ntmps25
 go_wp2_with fail
 refine HD.out.mono ?_
 rintro e w1 ⟨rfl,hb1⟩
 go_wp2
 go_ret
 exact⟨rfl,hb1⟩
theorem rstepO {K:Nat} (h:RkX cs p m K w) (t:Int):
  Calls Tryz.prog 25 #[.pointer (some ⟨p.k,0,none⟩), .int .i64 t] w fun e w'=>e= .returned (.int .i64 (m.stepO cs t).1)/\ ∃r v,RkStep cs p m.mem w r v (m.stepO cs t).2 w':=by
 unfold Mk.stepO
 by_cases h1:0<=t/\t<cs.length
 ·rw [if_pos h1]
  obtain⟨u,rfl⟩:=Int.eq_ofNat_of_zero_le h1.1
  have hu:u<cs.length:=by omega
  rw[Int.toNat_natCast]
  cases hd:doneAt (cs.getD u []) (m.pc u)
  ·rw[if_neg (by decide)]
   exact rstep_any h (getD_some hu) hd
  ·rw[if_pos rfl]
   exact(rstep_done (getD_some hu) hd h.at').mono fun e w' ⟨e1,e2⟩=>⟨e1,_,_,RkStep.of_below' h.at' e2⟩
 ·rw[if_neg h1]
  exact(rstep_no h1 h.at').mono fun e w' ⟨e1,e2⟩=>⟨e1,_,_,RkStep.of_below' h.at' e2⟩
theorem rkdrain_no{t:Int}(ht: ¬(0<=t/\t<cs.length))(h:RkAt cs p m w):
  Calls Tryz.prog 27 #[.pointer (some ⟨p.k,0,none⟩), .int .i64 t] w fun e w'=>e= .returned (.int .i64 2)/\Below w.heap.size w w':=by
 have hT:=h.mT
 clear h
 go_enter Tryz.func27,Tryz.ntmps27
 rcases Int.lt_or_le t 0 with h0 |h0
 ·go_wp2
  go_ret
  exact⟨rfl,Below.refl _ _⟩
 ·have h1:(cs.length:Int)<=t:=by omega
  clear ht
  go_wp2
  go_ret
  exact⟨rfl,Below.refl _ _⟩
theorem rkdrain_none(ht:t<cs.length)(he:m.mem.waits t=[])(h:RkAt cs p m w):
  Calls Tryz.prog 27 #[.pointer (some ⟨p.k,0,none⟩), .int .i64 t] w fun e w'=>e= .returned (.int .i64 5)/\Below w.heap.size w w':=by
 have hT:=h.mT
 have hM:=h.mM
 have HD:=hide (rk_drain_none h ht he)
 have ti:(t:Int)<cs.length:=by omega
 have d0:decide ((t:Int)<0)=false:=by simp
 clear h he ht
 go_enter Tryz.func27,Tryz.ntmps27
 go_wp2_with fail
 refine HD.out.mono ?_
 rintro e w1 ⟨rfl,hb1⟩
 go_wp2
 go_ret
 exact⟨rfl,hb1⟩
theorem rkdrain_some{K t:Nat}(D:RkX cs p m K w)(ht:t<cs.length){x:Wt}{l:List Wt}(he:m.mem.waits t=x::l):
  Calls Tryz.prog 27 #[.pointer (some ⟨p.k,0,none⟩), .int .i64 t] w fun e w'=>e= .returned (.int .i64 0)/\ ∃r v,RkStep cs p m.mem w r v (m.drain1 t) w':=by
 have hT:=D.at'.mT
 have hM:=D.at'.mM
 have hf:=D.faults
 have HD:=hide (rk_drain D.at' ht he (D.waits ht x (by rw[he];exact List.mem_cons_self)) (D.few ht))
 have ti:(t:Int)<cs.length:=by omega
 have d0:decide ((t:Int)<0)=false:=by simp
 obtain⟨M',HM'⟩: ∃M',Hid (M'=m.drain1 t):=⟨_,hide rfl⟩
 rw[<-HM'.out]
 have HR0:Hid (M'=if m.mem.ar.has x.c x.g=true then m.setMem (m.mem.drained t x l) else(m.setMem (m.mem.drained t x l)).addFault 1):=by
  show _=_
  rw[HM'.out]
  unfold Mk.drain1
  rw[he]
  by_cases hh:m.mem.ar.has x.c x.g=true
  ·simp only[if_pos hh];rfl
  ·simp only[if_neg hh];rfl
 clear D he ht HM'
 cases hh:m.mem.ar.has x.c x.g
 ·have HR:Hid (M'=(m.setMem (m.mem.drained t x l)).addFault 1):=by show _=_;rw[HR0.out,hh];rfl
  rw[hh,if_neg (by decide)] at HD
  clear HR0 hh
  go_enter Tryz.func27,Tryz.ntmps27
  go_wp2_with fail
  refine HD.out.mono ?_
  rintro e w1 ⟨rfl,r,k1⟩
  have HM1:=hide k1.at'
  have f1:w1.cell? ⟨p.k,3,none⟩=some (.int .i64 m.faults):=HM1.out.mFaults
  have z1:w1.frozen? ⟨p.k,3,none⟩=false:=HM1.out.fk 3
  have kF:RkStep cs (p.to r p.mv) (m.setMem (m.mem.drained t x l)).mem w1 r p.mv ((m.setMem (m.mem.drained t x l)).addFault 1) (w1.setCell ⟨p.k,3,none⟩ (.int .i64 ((m.faults:Int)+1))):=HM1.out.addFault 1
  have HS:=hide (k1.trans kF)
  clear k1 kF HM1 HD
  generalize m.faults=N at*
  go_wp2
  go_ret
  exact⟨rfl,_,_,by rw[HR.out];exact HS.out⟩
 ·have HR:Hid (M'=m.setMem (m.mem.drained t x l)):=by show _=_;rw[HR0.out,hh];rfl
  rw[hh,if_pos rfl] at HD
  clear HR0 hh
  go_enter Tryz.func27,Tryz.ntmps27
  go_wp2_with fail
  refine HD.out.mono ?_
  rintro e w1 ⟨rfl,r,k1⟩
  have HS:=hide k1
  clear k1 HD
  go_wp2
  go_ret
  exact⟨rfl,_,_,by rw[HR.out];exact HS.out⟩
theorem rdrainO {K:Nat} (h:RkX cs p m K w) (t:Int):
  Calls Tryz.prog 27 #[.pointer (some ⟨p.k,0,none⟩), .int .i64 t] w fun e w'=>e= .returned (.int .i64 (m.drainO cs t).1)/\ ∃r v,RkStep cs p m.mem w r v (m.drainO cs t).2 w':=by
 unfold Mk.drainO
 by_cases h1:0<=t/\t<cs.length
 ·rw [if_pos h1]
  obtain⟨u,rfl⟩:=Int.eq_ofNat_of_zero_le h1.1
  have hu:u<cs.length:=by omega
  rw[Int.toNat_natCast]
  cases hd:m.mem.waits u with
  | nil=>
   rw[if_pos rfl]
   exact(rkdrain_none hu hd h.at').mono fun e w' ⟨e1,e2⟩=>⟨e1,_,_,RkStep.of_below' h.at' e2⟩
  | cons x l=>
   rw[if_neg (by simp)]
   exact rkdrain_some h hu hd
 ·rw[if_neg h1]
  exact(rkdrain_no h1 h.at').mono fun e w' ⟨e1,e2⟩=>⟨e1,_,_,RkStep.of_below' h.at' e2⟩
end
section
open Go.RowKit Go.Extern.Stop Go.Stop Go.Extern Go.Maps Go.WideMaps Go.Sort
theorem rturn_any {cs:List (List Ins)} {p:RkPl} {m:Mk} {K:Nat} {w:World} (h:RkX cs p m K w) (n:Int):
  Calls Tryz.prog 49 #[.pointer (some ⟨p.k,0,none⟩), .int .i64 n] w fun e w'=>e= .returned (.int .i64 (m.turnO cs n).1)/\ ∃r v,RkStep cs p m.mem w r v (m.turnO cs n).2 w':=by
 have hp:=h.at'.mT
 have h6:=h.at'.few
 have h1:=h.right.some'
 have HM:Hid ((if n.tmod (2*(cs.length:Int))<0 then n.tmod (2*(cs.length:Int))+2*(cs.length:Int) else n.tmod (2*(cs.length:Int)))=n % (2*(cs.length:Int))):=tmod_mod n (by omega)
 have b1:=Int.emod_nonneg n (show(2*(cs.length:Int))≠0 by omega)
 have b2:=Int.emod_lt_of_pos n (show 0<(2*(cs.length:Int)) by omega)
 have HS:Hid (n % (2*(cs.length:Int))<cs.length->Calls Tryz.prog 25 #[.pointer (some ⟨p.k,0,none⟩), .int .i64 (n % (2*(cs.length:Int)))] w fun e w'=>e= .returned (.int .i64 (m.turnO cs n).1)/\Hid (∃r v,RkStep cs p m.mem w r v (m.turnO cs n).2 w')):=fun hlt=>by
  unfold Mk.turnO
  rw[if_pos hlt]
  exact rstepO h _
 have HD:Hid (¬n % (2*(cs.length:Int))<cs.length->Calls Tryz.prog 27 #[.pointer (some ⟨p.k,0,none⟩), .int .i64 (n % (2*(cs.length:Int)) - cs.length)] w fun e w'=>e= .returned (.int .i64 (m.turnO cs n).1)/\Hid (∃r v,RkStep cs p m.mem w r v (m.turnO cs n).2 w')):=fun hlt=>by
  unfold Mk.turnO
  rw[if_neg hlt]
  exact rdrainO h _
 have w2:IntKind.i64.wrap (2*(cs.length:Int))=2*(cs.length:Int):=by rw[IntKind.wrap_i64];omega
 clear h
 generalize (m.turnO cs n).1=E at*
 generalize (m.turnO cs n).2=M' at*
 clear HM
 generalize hN:cs.length=N at*
 have HN:=hide hN
 clear hN
 obtain⟨k,hk⟩: ∃k:Int,(N:Int)=k:=⟨_,rfl⟩
 have k1:1<=k:=by omega
 have k2:k<=6:=by omega
 rw[hk] at HS HD w2 b1 b2
 obtain⟨r,hr⟩: ∃r,n.tmod (2*k)=r:=⟨_,rfl⟩
 have HMM:=tmod_mod n (show 0<2*k by omega)
 rw[hr] at HMM
 obtain⟨f1,f2,w3,w4⟩:=turn_facts n k (by omega) (by omega) r hr
 have kz: ¬(2*k=0):=by omega
 have k0:(2*k==0)=false:=by simp;omega
 have kd:decide (2*k=0)=false:=by simp;omega
 have kn: ¬k=0:=by omega
 clear h6 h1
 by_cases hc:r<0
 ·have hM:=HMM
  rw[if_pos hc] at hM
  by_cases hd:n % (2*k)<k
  ·have HS1:=hide (HS.out hd)
   clear HS HD HMM
   rw[<-hM] at HS1 hd
   clear hM b1 b2 f1 f2
   go_enter Tryz.func49,Tryz.ntmps49
   go_wp2_with fail
   refine HS1.out.mono ?_
   rintro e w1 ⟨rfl,h2⟩
   go_wp2
   go_ret
   exact⟨rfl,h2.out⟩
  ·have HD1:=hide (HD.out hd)
   clear HS HD HMM
   have w5:IntKind.i64.wrap (n % (2*k) - k)=n % (2*k) - k:=by rw[IntKind.wrap_i64];omega
   rw[<-hM] at HD1 hd w5
   clear hM b1 b2 f1 f2
   go_enter Tryz.func49,Tryz.ntmps49
   go_wp2_with fail
   refine HD1.out.mono ?_
   rintro e w1 ⟨rfl,h2⟩
   go_wp2
   go_ret
   exact⟨rfl,h2.out⟩
 ·have hM:=HMM
  rw[if_neg hc] at hM
  by_cases hd:n % (2*k)<k
  ·have HS1:=hide (HS.out hd)
   clear HS HD HMM
   rw[<-hM] at HS1 hd
   clear hM b1 b2 f1 f2
   go_enter Tryz.func49,Tryz.ntmps49
   go_wp2_with fail
   refine HS1.out.mono ?_
   rintro e w1 ⟨rfl,h2⟩
   go_wp2
   go_ret
   exact⟨rfl,h2.out⟩
  ·have HD1:=hide (HD.out hd)
   clear HS HD HMM
   have w5:IntKind.i64.wrap (n % (2*k) - k)=n % (2*k) - k:=by rw[IntKind.wrap_i64];omega
   rw[<-hM] at HD1 hd w5
   clear hM b1 b2 f1 f2
   go_enter Tryz.func49,Tryz.ntmps49
   go_wp2_with fail
   refine HD1.out.mono ?_
   rintro e w1 ⟨rfl,h2⟩
   go_wp2
   go_ret
   exact⟨rfl,h2.out⟩
end
section
open Go.RowKit Go.Extern.Stop Go.Stop Go.Extern
theorem like_key{cs:List (List Ins)}{m0 m m':Mk}{K d d':Nat}(h:Rch cs m0 d m)(h':Rch cs m0 d' m')(h0:MkOk cs.length K m0)(hl:LnOk m0.mem)(hg:GivenOk m0.mem.ar)(hR:Right cs)(hK:K+d<=60000000)(hK':K+d'<=60000000):
  likeB cs.length m m'=decide (keyOf cs.length m=keyOf cs.length m'):=by
 have o:=h.ok h0 hR hK
 have o':=h'.ok h0 hR hK'
 have r:=(h.key h0 hl hR hK).1
 have r':=(h'.key h0 hl hR hK').1
 have hz:m.mem.ar.size=m'.mem.ar.size:=h.size.trans h'.size.symm
 by_cases hk:keyOf cs.length m=keyOf cs.length m'
 ·rw[decide_eq_true hk]
  exact likeB_yes (mkNums_alike hz o.thr o'.thr (h.given hg) (h'.given hg) (keyOf_inj (fun x hx=>(r.1 x hx).1) (fun x hx=>(r'.1 x hx).1) hk))
 ·rw[decide_eq_false hk]
  refine likeB_no (fun ha=>hk ?_)
  unfold keyOf
  rw[ha.nums hz o.thr o'.thr]
theorem wpList_append_intsO {ops:Array Oper} {rest:List Oper} {o:Oper} {a:Act} (w:World) {Q:Exit->Act->World->Prop} (hgd:o.guard=none) (s x:Operand)
  (ho:o.op= .call { callee:= .builtin .append,args:=#[s,x],argTypes:=#[26,26] }) (base b2:Nat) (l0 l:List Int) (v u:Value)
  (hs:a.eval s=v) (hown:numsOwn w base v l0) (hx:a.eval x=u) (hu:numsOwn w b2 u l) (h3:l0.length+l.length<=1000000) (hb:base<=w.heap.size)
  (h: ∀v' w',numsOwn w' base v' (l0++l)->Below base w w'->w.heap.size<=w'.heap.size->w.grownBy w' v.ownBlock->(v'.ownBlock=v.ownBlock∨v'.ownBlock=some w.heap.size)->wpList Tryz.prog ops Q rest (a.put o.dst v') w'):wpList Tryz.prog ops Q (o::rest) a w:=by
 by_cases hl:0<l.length
 ·obtain⟨ad,cap,rfl,hn⟩:=numsOwn_open hu hl
  exact wpList_append_ints w hgd s x ho base l0 l v ad cap hs hown hx hn h3 hb h
 ·obtain rfl:l=[]:=List.length_eq_zero_iff.1 (by omega)
  have hu':=hu
  rcases hu'.2 with⟨rfl, -⟩ |⟨g,cap,cur,rfl, -⟩
  ·obtain⟨ri,hri,hrz,hrs,hrb⟩:=wkInt
   refine wpList_append_own_none hgd s x 26 ho base 3 ri 1 Tryz.underlying26 hri v l0.length (ncells l0) hs hown hx (h v w ?_ bRf nL (World.grownBy.refl _ _) (.inl rfl))
   rw[List.append_nil];exact hown
  ·obtain⟨_,_, -, -,hn⟩:=numsOwn_at hu
   exact wpList_append_ints w hgd s x ho base l0 [] v ⟨g,0,none⟩ cap hs hown hx (fun i y hy=>by simp at hy) h3 hb h
section
variable (pl:Nat->RkPl) (wv:Nat->Value)
def spotCells:Nat->List Value
 |0=>[]
 |n+1=>spotCells n++[.pointer (some ⟨(pl n).k,0,none⟩),wv n]
theorem spotCells_length: ∀n,(spotCells pl wv n).length=n*2
 |0=>rfl
 | n+1=>by
  show(spotCells pl wv n++_).length=_
  rw[List.length_append,spotCells_length n]
  show n*2+2=_
  omega
theorem spotCells_at: ∀(n c:Nat),c<n->(spotCells pl wv n)[c*2]? =some (.pointer (some ⟨(pl c).k,0,none⟩))/\(spotCells pl wv n)[c*2+1]? =some (wv c)
 |0,c,hc=>absurd hc (by omega)
 | n+1,c,hc=>by
  show(spotCells pl wv n++_)[c*2]? =_/\(spotCells pl wv n++_)[c*2+1]? =_
  have hl:=spotCells_length pl wv n
  by_cases e:c=n
  ·subst e
   rw[List.getElem?_append_right (by omega),List.getElem?_append_right (by omega),hl,show c*2 - c*2=0 by omega,show c*2+1 - c*2=1 by omega]
   exact⟨rfl,rfl⟩
  ·rw[List.getElem?_append_left (by omega),List.getElem?_append_left (by omega)]
   exact spotCells_at n c (by omega)
end
theorem spotCells_congr{pl pl':Nat->RkPl}{wv wv':Nat->Value}: ∀n,(∀c,c<n->pl c=pl' c/\wv c=wv' c)->spotCells pl wv n=spotCells pl' wv' n
 |0,_=>rfl
 | n+1,h=>by
  show spotCells pl wv n++_=spotCells pl' wv' n++_
  rw[spotCells_congr n (fun c hc=>h c (by omega)),(h n (by omega)).1,(h n (by omega)).2]
structure LsAt(B:Nat)(cs:List (List Ins))(L:List (Mk×List Int))(v:Value)(pl:Nat->RkPl)(wv:Nat->Value)(w:World):Prop where
 own:w.ownsRow B 143 2 v L.length (spotCells pl wv L.length)
 mach: ∀(i:Nat) x,L[i]? =some x->RkAt cs (pl i) x.1 w
 way: ∀(i:Nat) x,L[i]? =some x->numsOwn w B (wv i) x.2
 a1: ∀(i:Nat) x,L[i]? =some x-> ∀b,(pl i).fp cs.length x.1.mem b->v.ownBlock≠some b
 a2: ∀(i:Nat) x,L[i]? =some x-> ∀b,(wv i).ownBlock=some b->v.ownBlock≠some b
 plB: ∀(i:Nat) x,L[i]? =some x->(pl i).B<=B
section
variable {B:Nat} {cs:List (List Ins)} {L:List (Mk×List Int)} {v:Value} {pl:Nat->RkPl} {wv:Nat->Value} {w w':World}
theorem LsAt.below(h:LsAt B cs L v pl wv w)(k:Below w.heap.size w w'):LsAt B cs L v pl wv w':=
 ⟨ownsRow_block h.own fun b hb=>k.block b (h.own.lt b hb).2,fun i x hx=>(h.mach i x hx).below k,fun i x hx=>numsOwn_keep (h.way i x hx) k,h.a1,h.a2,h.plB⟩
theorem LsAt.shape(h:LsAt B cs L v pl wv w)(h1:0<L.length): ∃g cap,v= .slice (some ⟨g,0,none⟩) L.length cap/\L.length<=cap/\B<=g/\g<w.heap.size/\ ∀i,i<L.length->w.cell? ⟨g,i*2,none⟩=some (.pointer (some ⟨(pl i).k,0,none⟩))/\w.cell? ⟨g,i*2+1,none⟩=some (wv i):=by
 obtain⟨ad,cap,rfl,hc, -,hcell⟩:=ownsRow_shape h.own
 obtain⟨g,rfl, -⟩:=hcell 0 _ (spotCells_at pl wv L.length 0 h1).1
 refine⟨g,cap,rfl,hc,(h.own.lt g rfl).1,(h.own.lt g rfl).2,fun i hi=>?_⟩
 obtain⟨e1,e2⟩:=spotCells_at pl wv L.length i hi
 obtain⟨g1,q1,c1⟩:=hcell _ _ e1
 obtain⟨g2,q2,c2⟩:=hcell _ _ e2
 cases q1
 cases q2
 exact⟨c1,c2⟩
theorem LsAt.cells{g n cap:Nat}(h:LsAt B cs L (.slice (some ⟨g,0,none⟩) n cap) pl wv w){i:Nat}(hi:i<L.length):w.cell? ⟨g,i*2,none⟩=some (.pointer (some ⟨(pl i).k,0,none⟩))/\w.cell? ⟨g,i*2+1,none⟩=some (wv i):=by
 obtain⟨g',cap',e, -, -, -,hc⟩:=h.shape (by omega)
 cases e
 exact hc i hi
theorem turns_grown1(h:w.grownBy w' v.ownBlock):Turns (fun b _=>v.ownBlock=some b) w w':=
 ⟨h.os,h.tape,h.output,h.size,fun b hb ho=>h.block b hb (fun e=>ho 0 e.symm),fun b _ hb ho=>World.cell?_of_block (h.block b hb (fun e=>ho e.symm)),fun b _ hb ho=>World.frozen?_of_block (h.block b hb (fun e=>ho e.symm))⟩
theorem LsAt.more (h:LsAt B cs L v pl wv w) {p':RkPl} {m':Mk} {u v':Value} {l:List Int} (hm:RkAt cs p' m' w) (hB:p'.B<=B) (hf: ∀b,p'.fp cs.length m'.mem b->v.ownBlock≠some b) (hu:numsOwn w B u l) (huv: ∀b,u.ownBlock=some b->v.ownBlock≠some b)
  (hown:w'.ownsRow B 143 2 v' (L.length+1) (spotCells pl wv L.length++[.pointer (some ⟨p'.k,0,none⟩),u])) (hgr:w.grownBy w' v.ownBlock) (hat:v'.ownBlock=v.ownBlock∨v'.ownBlock=some w.heap.size):
  LsAt B cs (L++[(m',l)]) v' (fun c=>if c=L.length then p' else pl c) (fun c=>if c=L.length then u else wv c) w':=by
 have T:=turns_grown1 hgr
 have lm: ∀(i:Nat) x,L[i]? =some x->i<L.length:=fun i x hx=>(List.getElem?_eq_some_iff.1 hx).1
 have hv': ∀b,b<w.heap.size->v.ownBlock≠some b->v'.ownBlock≠some b:=fun b hb hv e=>by
  rcases hat with e' |e'
  ·exact hv (e'.symm.trans e)
  ·rw[e'] at e
   cases e
   omega
 have hge: ∀b,v.ownBlock=some b->B<=b:=fun b hb=>(h.own.lt b hb).1
 have key: ∀(i:Nat) x,(L++[(m',l)])[i]? =some x->(i<L.length/\L[i]? =some x)∨(i=L.length/\x=(m',l)):=fun i x hx=>by
  by_cases hi:i<L.length
  ·rw[List.getElem?_append_left hi] at hx;exact .inl ⟨hi,hx⟩
  ·have hi2:=(List.getElem?_eq_some_iff.1 hx).1
   rw[List.length_append] at hi2
   have hi2:i<L.length+1:=hi2
   obtain rfl:i=L.length:=by omega
   rw[List.getElem?_append_right nL,Nat.sub_self] at hx
   cases hx
   exact .inr ⟨rfl,rfl⟩
 refine⟨?_,fun i x hx=>?_,fun i x hx=>?_,fun i x hx b hb=>?_,fun i x hx b hb=>?_,fun i x hx=>?_⟩
 ·rw[List.length_append]
  show w'.ownsRow B _ 2 v' (L.length+1) (spotCells _ _ L.length++[.pointer (some ⟨(if L.length=L.length then p' else pl L.length).k,0,none⟩),if L.length=L.length then u else wv L.length])
  rw[if_pos rfl,if_pos rfl,spotCells_congr (pl':=pl) (wv':=wv) L.length (fun c hc=>⟨if_neg (by omega),if_neg (by omega)⟩)]
  exact hown
 ·rcases key i x hx with⟨hi,hx⟩ |⟨rfl,rfl⟩
  ·rw[if_neg (by omega)]
   exact(h.mach i x hx).turns T (fun k _ hk hb=>h.a1 i x hx k hb hk) (fun k _ hk=>Nat.le_trans (h.plB i x hx) (hge k hk))
  ·rw[if_pos rfl]
   exact hm.turns T (fun k _ hk hb=>hf k hb hk) (fun k _ hk=>Nat.le_trans hB (hge k hk))
 ·rcases key i x hx with⟨hi,hx⟩ |⟨rfl,rfl⟩
  ·rw[if_neg (by omega)]
   exact ownsRow_block (h.way i x hx) fun b hb=>hgr.block b ((h.way i x hx).lt b hb).2 (fun e=>h.a2 i x hx b hb e.symm)
  ·rw[if_pos rfl]
   exact ownsRow_block hu fun b hb=>hgr.block b (hu.lt b hb).2 (fun e=>huv b hb e.symm)
 ·rcases key i x hx with⟨hi,hx⟩ |⟨rfl,rfl⟩
  ·rw[if_neg (by omega)] at hb
   exact hv' b ((h.mach i x hx).fp_lt hb) (h.a1 i x hx b hb)
  ·rw[if_pos rfl] at hb
   exact hv' b (hm.fp_lt hb) (hf b hb)
 ·rcases key i x hx with⟨hi,hx⟩ |⟨rfl,rfl⟩
  ·rw[if_neg (by omega)] at hb
   exact hv' b ((h.way i x hx).lt b hb).2 (h.a2 i x hx b hb)
  ·rw[if_pos rfl] at hb
   exact hv' b (hu.lt b hb).2 (huv b hb)
 ·rcases key i x hx with⟨hi,hx⟩ |⟨rfl,rfl⟩
  ·rw[if_neg (by omega)]
   exact h.plB i x hx
  ·rw[if_pos rfl]
   exact hB
end
structure Zr(b:Nat)(w:World):Prop where
 c0:w.cell? ⟨b,0,none⟩=some (.int .i64 0)
 c1:w.cell? ⟨b,1,none⟩=some (.int .i64 0)
 c2:w.cell? ⟨b,2,none⟩=some (.bool false)
 c3:w.cell? ⟨b,3,none⟩=some (.slice none 0 0)
 z: ∀o,w.frozen? ⟨b,o,none⟩=false
theorem Zr.below{b:Nat}{w w':World}(h:Zr b w)(k:Below w.heap.size w w'):Zr b w':=
 ⟨keep_cell k h.c0,keep_cell k h.c1,keep_cell k h.c2,keep_cell k h.c3,fun o=>(k.frozen (p:=⟨b,o,none⟩) (show b<w.heap.size from bLt h.c0)).trans (h.z o)⟩
theorem Zr.belowB{b B:Nat}{w w':World}(h:Zr b w)(hb:b<B)(k:Below B w w'):Zr b w':=
 ⟨by rw[k.cell (p:=⟨b,0,none⟩) hb];exact h.c0,by rw[k.cell (p:=⟨b,1,none⟩) hb];exact h.c1,by rw[k.cell (p:=⟨b,2,none⟩) hb];exact h.c2,by rw[k.cell (p:=⟨b,3,none⟩) hb];exact h.c3,fun o=>by rw[k.frozen (p:=⟨b,o,none⟩) hb];exact h.z o⟩
structure WkOut(cs:List (List Ins))(m0:Mk)(M:Nat)(I:Nat)(T:Ro):Prop where
 rch: ∀(i:Nat) x,T.L[i]? =some x->x.2.length<=i/\ ∃d,d<=i/\Rch cs m0 d x.1
 hI:I<=T.L.length
 pos:0<T.L.length
 le:T.L.length<=M
 e:0<=T.e/\T.e<=T.L.length
 eq:walkR cs M (2*cs.length) (M+2) 0 (firstR cs m0)=walkR cs M (2*cs.length) (M+2 - I) I T
structure WkIn(cs:List (List Ins))(m0:Mk)(M:Nat)(I:Nat)(x:Mk×List Int)(k:Nat)(T:Ro):Prop where
 rch: ∀(i:Nat) x,T.L[i]? =some x->x.2.length<=i/\ ∃d,d<=i/\Rch cs m0 d x.1
 at':T.L[I]? =some x
 le:T.L.length<=M
 e:0<=T.e/\T.e<=T.L.length
 hk:k<=2*cs.length
 eq :walkR cs M (2*cs.length) (M+2) 0 (firstR cs m0)=match spreadR cs M x.1 x.2 (2*cs.length - k) k T with
  |(.go,T')=>walkR cs M (2*cs.length) (M+1 - I) (I+1) T'
  |r=>r
section
variable {cs:List (List Ins)} {m0:Mk} {M I:Nat} {T:Ro}
theorem WkOut.first(h:1<=M):WkOut cs m0 M 0 (firstR cs m0):=
 ⟨fun i x hx=>by
  have h1:=(List.getElem?_eq_some_iff.1 hx).1
  have h1:i<1:=h1
  obtain rfl:i=0:=by omega
  cases hx
  exact⟨Nat.le_refl _,0,Nat.le_refl _, .zero⟩,Nat.zero_le _,Nat.one_pos,h,by
  unfold firstR
  cases endTo cs m0 cs.length
  ·exact⟨(show(0:Int)<=0 by decide),(show(0:Int)<=1 by decide)⟩
  ·exact⟨(show(0:Int)<=0+1 by decide),(show(0:Int)+1<=1 by decide)⟩,rfl⟩
theorem WkOut.start(h:WkOut cs m0 M I T){x:Mk×List Int}(hx:T.L[I]? =some x):WkIn cs m0 M I x 0 T:=by
 refine⟨h.rch,hx,h.le,h.e,Nat.zero_le _,?_⟩
 have hI:=h.hI
 have hM:=h.le
 rw[h.eq,show M+2 - I=(M+1 - I)+1 by omega]
 conv=>lhs;unfold walkR
 rw[hx]
 rfl
theorem WkOut.stop(h:WkOut cs m0 M T.L.length T):walkR cs M (2*cs.length) (M+2) 0 (firstR cs m0)=(.go,T):=by
 have hM:=h.le
 rw[h.eq,show M+2 - T.L.length=(M+1 - T.L.length)+1 by omega]
 conv=>lhs;unfold walkR
 rw[List.getElem?_eq_none nL]
variable {x:Mk×List Int} {k:Nat}
theorem WkIn.lt(h:WkIn cs m0 M I x k T):I<T.L.length:=(List.getElem?_eq_some_iff.1 h.at').1
theorem WkIn.step(h:WkIn cs m0 M I x k T)(hk:k<2*cs.length):walkR cs M (2*cs.length) (M+2) 0 (firstR cs m0)=match(
  if okN (x.1.turnO cs k).1=0 then spreadR cs M x.1 x.2 (2*cs.length - (k+1)) (k+1) T
  else if 0<(x.1.turnO cs k).2.faults then(.fault (x.2++[(k:Int)]),T)
  else if seenO cs T.L (x.1.turnO cs k).2=true then spreadR cs M x.1 x.2 (2*cs.length - (k+1)) (k+1) T
  else if(T.L.length:Int)=M then(.more,T)
  else spreadR cs M x.1 x.2 (2*cs.length - (k+1)) (k+1) ⟨T.L++[((x.1.turnO cs k).2,x.2++[(k:Int)])],endN T.e (endTo cs (x.1.turnO cs k).2 cs.length)⟩) with
  |(.go,T')=>walkR cs M (2*cs.length) (M+1 - I) (I+1) T'
  |r=>r:=by
 rw[h.eq,show 2*cs.length - k=(2*cs.length - (k+1))+1 by omega]
 conv=>lhs;unfold spreadR
theorem WkIn.err(h:WkIn cs m0 M I x k T)(hk:k<2*cs.length)(ho:okN (x.1.turnO cs k).1=0):WkIn cs m0 M I x (k+1) T:=
 ⟨h.rch,h.at',h.le,h.e,hk,by rw[h.step hk,if_pos ho]⟩
theorem WkIn.fault(h:WkIn cs m0 M I x k T)(hk:k<2*cs.length)(ho: ¬okN (x.1.turnO cs k).1=0)(hf:0<(x.1.turnO cs k).2.faults):walkR cs M (2*cs.length) (M+2) 0 (firstR cs m0)=(.fault (x.2++[(k:Int)]),T):=by
 rw[h.step hk,if_neg ho,if_pos hf]
theorem WkIn.seen(h:WkIn cs m0 M I x k T)(hk:k<2*cs.length)(ho: ¬okN (x.1.turnO cs k).1=0)(hf: ¬0<(x.1.turnO cs k).2.faults)(hs:seenO cs T.L (x.1.turnO cs k).2=true):WkIn cs m0 M I x (k+1) T:=
 ⟨h.rch,h.at',h.le,h.e,hk,by rw[h.step hk,if_neg ho,if_neg hf,if_pos hs]⟩
theorem WkIn.more(h:WkIn cs m0 M I x k T)(hk:k<2*cs.length)(ho: ¬okN (x.1.turnO cs k).1=0)(hf: ¬0<(x.1.turnO cs k).2.faults)(hs: ¬seenO cs T.L (x.1.turnO cs k).2=true)(hm:(T.L.length:Int)=M):walkR cs M (2*cs.length) (M+2) 0 (firstR cs m0)=(.more,T):=by
 rw[h.step hk,if_neg ho,if_neg hf,if_neg hs,if_pos hm]
theorem WkIn.add (h:WkIn cs m0 M I x k T) (hk:k<2*cs.length) (ho: ¬okN (x.1.turnO cs k).1=0) (hf: ¬0<(x.1.turnO cs k).2.faults) (hs: ¬seenO cs T.L (x.1.turnO cs k).2=true) (hm: ¬(T.L.length:Int)=M):
  WkIn cs m0 M I x (k+1) ⟨T.L++[((x.1.turnO cs k).2,x.2++[(k:Int)])],endN T.e (endTo cs (x.1.turnO cs k).2 cs.length)⟩:=by
 have hlt:=h.lt
 have hle:=h.le
 obtain⟨e1,e2⟩:=h.e
 obtain⟨r1,d,r2,r3⟩:=h.rch I x h.at'
 refine⟨fun i y hy=>?_,?_,?_,?_,hk,by rw[h.step hk,if_neg ho,if_neg hf,if_neg hs,if_neg hm]⟩
 ·have hy:(T.L++[((x.1.turnO cs k).2,x.2++[(k:Int)])])[i]? =some y:=hy
  by_cases hi:i<T.L.length
  ·rw[List.getElem?_append_left hi] at hy
   exact h.rch i y hy
  ·have hi2:=(List.getElem?_eq_some_iff.1 hy).1
   rw[List.length_append] at hi2
   have hi2:i<T.L.length+1:=hi2
   obtain rfl:i=T.L.length:=by omega
   rw[List.getElem?_append_right nL,Nat.sub_self] at hy
   cases hy
   refine⟨?_,d+1,by omega,r3.turn k⟩
   show(x.2++[(k:Int)]).length<=_
   rw[List.length_append]
   show x.2.length+1<=_
   omega
 ·show(T.L++_)[I]? =_
  rw[List.getElem?_append_left hlt]
  exact h.at'
 ·show(T.L++_).length<=M
  rw[List.length_append]
  show T.L.length+1<=M
  omega
 ·show 0<=endN T.e _/\endN T.e _<=((T.L++_).length:Int)
  rw[List.length_append]
  have h3:((T.L.length+[((x.1.turnO cs k).2,x.2++[(k:Int)])].length:Nat):Int)=T.L.length+1:=by simp
  rw[h3]
  cases endTo cs (x.1.turnO cs k).2 cs.length
  ·exact⟨e1,by show T.e<=_;omega⟩
  ·exact⟨by show 0<=T.e+1;omega,by show T.e+1<=_;omega⟩
theorem WkIn.done(h:WkIn cs m0 M I x k T)(hk:k=2*cs.length):WkOut cs m0 M (I+1) T:=by
 have hlt:=h.lt
 have hle:=h.le
 refine⟨h.rch,hlt,by omega,h.le,h.e,?_⟩
 rw[h.eq,hk,Nat.sub_self,show M+2 - (I+1)=M+1 - I by omega]
 rfl
end
end
section
open Go.RowKit Go.Extern.Stop Go.Stop Go.Extern Go.Maps Go.WideMaps Go.Sort
variable {W:World} {cs:List (List Ins)} {w0 w:World} {rb bx:Nat} {wr:World} {A:Value}
theorem Nm1.start{bs k:Nat}{sv:Array Value}{mb:Nat}{s:Sta}{sr:Value}{rp:RmPl}{R:Rm}(h:Nm1 w bs k sv #[.pointer (some ⟨mb,0,none⟩), .slice none 0 0, .slice none 0 0, .int .i64 0] mb rp R W)(hs:sv[2]? =some sr)(hk:k≠bs)(h0:Below w0.heap.size w0 w):Nm2 w0 w bs k s cs sr rp R [] (.slice none 0 0) W:=by
 have ck: ∀o u,(#[.pointer (some ⟨mb,0,none⟩), .slice none 0 0, .slice none 0 0, .int .i64 0]:Array Value)[o]? =some u->W.cell? ⟨k,o,none⟩=some u:=fun o u hu=>by
  simp[World.cell?,h.bk,hu]
 refine⟨h.mem,h.fp,h.gk,h.gs,hk,by rw[h.emb];exact ck 0 _ rfl,ck 1 _ rfl,ck 2 _ rfl,ck 3 _ rfl,fun o=>by simp[World.frozen?,h.bk],?_,h.bw,World.ownsRow_nil _ _ _ _,fun b e=>(by cases e),h0,fun t x hx=>(by simp at hx),fun t x hx=>(by simp at hx),fun t x hx=>(by simp at hx),fun t u x y hx=>(by simp at hx)⟩
 simp[World.cell?,h.bb,hs]
structure ThrAt(wr:World)(rb bx:Nat)(A:Value)(f:Nat->Int)(W:World):Prop where
 b:Below wr.heap.size wr W
 gr:wr.heap.size<=rb
 gx:wr.heap.size<=bx
 ne:bx≠rb
 x0:W.cell? ⟨bx,0,none⟩=some A
 x1:W.cell? ⟨bx,1,none⟩=some (.slice (some ⟨rb,0,none⟩) 8 8)
 x2:W.cell? ⟨bx,2,none⟩=some (.int .i64 0)
 reg: ∀r,r<8->W.cell? ⟨rb,r,none⟩=some (.int .i64 (f r))
 fz: ∀o,W.frozen? ⟨rb,o,none⟩=false
theorem zero8{r:Nat}(hr:r<8):(#[.int .i64 0, .int .i64 0, .int .i64 0, .int .i64 0, .int .i64 0, .int .i64 0, .int .i64 0, .int .i64 0]:Array Value)[r]? =some (.int .i64 0):=by
 match r,hr with
 |0,_=>rfl
 |1,_=>rfl
 |2,_=>rfl
 |3,_=>rfl
 |4,_=>rfl
 |5,_=>rfl
 |6,_=>rfl
 |7,_=>rfl
theorem cell_two(w:World)(C D:Array Value)(ty uy:TypeId)(o:Nat)(u:Value)(h:C[o]? =some u):((w.alloc (.cells C ty)).alloc (.cells D uy)).cell? ⟨w.heap.size,o,none⟩=some u:=by
 have:=(blk3 w (.cells C ty) (.cells D uy) (.cells D uy))
 rw[cell_new (w:=w.alloc (.cells C ty)) (v:=u)]
 rw[World.cell?_alloc_new];exact h
theorem cell_two'(w:World)(C D:Array Value)(ty uy:TypeId)(o:Nat)(u:Value)(h:D[o]? =some u):((w.alloc (.cells C ty)).alloc (.cells D uy)).cell? ⟨w.heap.size+1,o,none⟩=some u:=by
 have e:(w.alloc (.cells C ty)).heap.size=w.heap.size+1:=by simp
 rw[<-e,World.cell?_alloc_new];exact h
theorem fz_two(w:World)(C D:Array Value)(ty uy:TypeId)(o:Nat):((w.alloc (.cells C ty)).alloc (.cells D uy)).frozen? ⟨w.heap.size,o,none⟩=false:=by
 have hb:=(Below.refl (w.alloc (.cells C ty)).heap.size (w.alloc (.cells C ty))).alloc nL (.cells D uy)
 have e:=(hb.block w.heap.size (by simp)).trans (heap_new w (.cells C ty))
 simp[World.frozen?,e]
theorem fz_two'(w:World)(C D:Array Value)(ty uy:TypeId)(o:Nat):((w.alloc (.cells C ty)).alloc (.cells D uy)).frozen? ⟨w.heap.size+1,o,none⟩=false:=by
 have h:=heap_new (w.alloc (.cells C ty)) (.cells D uy)
 rw[show(w.alloc (.cells C ty)).heap.size=w.heap.size+1 by simp] at h
 generalize (w.alloc (.cells C ty)).alloc (.cells D uy)=W at h ⊢
 simp[World.frozen?,h]
theorem ThrAt.of1(wr:World)(A:Value):ThrAt wr wr.heap.size (wr.heap.size+1) A (fun _=>0) ((wr.alloc (.cells #[.int .i64 0, .int .i64 0, .int .i64 0, .int .i64 0, .int .i64 0, .int .i64 0, .int .i64 0, .int .i64 0] 3)).alloc (.cells #[A, .slice (some ⟨wr.heap.size,0,none⟩) 8 8, .int .i64 0] 57)).drew where
 b:=((bRf.alloc nL _).alloc (by simp) _).drew
 gr:=Nat.le_refl _
 gx:=Nat.le_succ _
 ne:=by omega
 x0:=cell_two' _ _ _ _ _ 0 _ rfl
 x1:=cell_two' _ _ _ _ _ 1 _ rfl
 x2:=cell_two' _ _ _ _ _ 2 _ rfl
 reg r hr:=cell_two _ _ _ _ _ r _ (zero8 hr)
 fz o:=fz_two _ _ _ _ _ o
theorem ThrAt.of2(wr:World)(A:Value):ThrAt wr (wr.heap.size+1) wr.heap.size A (fun _=>0) ((wr.alloc (.cells #[A, .slice (some ⟨wr.heap.size+1,0,none⟩) 8 8, .int .i64 0] 57)).alloc (.cells #[.int .i64 0, .int .i64 0, .int .i64 0, .int .i64 0, .int .i64 0, .int .i64 0, .int .i64 0, .int .i64 0] 3)).drew where
 b:=((bRf.alloc nL _).alloc (by simp) _).drew
 gr:=Nat.le_succ _
 gx:=Nat.le_refl _
 ne:=by omega
 x0:=cell_two _ _ _ _ _ 0 _ rfl
 x1:=cell_two _ _ _ _ _ 1 _ rfl
 x2:=cell_two _ _ _ _ _ 2 _ rfl
 reg r hr:=cell_two' _ _ _ _ _ r _ (zero8 hr)
 fz o:=fz_two' _ _ _ _ _ o
theorem ThrAt.copy (h:ThrAt wr rb bx A (fun _=>0) W) (row:List Int) (h8:row.length<=8):ThrAt wr rb bx A (fun r=>row.getD r 0) (W.setCells rb 0 (row.map (Value.int .i64))) where
 b:=h.b.trans ((turns_setCells rb (row.map (Value.int .i64)) 0 W (Turns.refl (fun k _=>k=rb) W) (fun _ _=>rfl)).below h.b.size (fun k _ hk e=>by have:=h.gr;omega))
 gr:=h.gr
 gx:=h.gx
 ne:=h.ne
 x0:=by rw[World.cell?_setCells_out _ _ _ _ _ (fun e _=>absurd e h.ne)];exact h.x0
 x1:=by rw[World.cell?_setCells_out _ _ _ _ _ (fun e _=>absurd e h.ne)];exact h.x1
 x2:=by rw[World.cell?_setCells_out _ _ _ _ _ (fun e _=>absurd e h.ne)];exact h.x2
 reg r hr:=by
  by_cases e:r<row.length
  ·have:=World.cell?_setCells_in rb (row.map (Value.int .i64)) 0 W (fun j hj=>by rw[List.length_map] at hj;rw[Nat.zero_add,h.reg j (by omega)];rfl) r (by rw[List.length_map];exact e)
   rw[Nat.zero_add] at this
   rw[this,List.getElem_map,List.getD_eq_getElem?_getD,List.getElem?_eq_getElem e];rfl
  ·rw[World.cell?_setCells_out _ _ _ _ _ (fun _ _=>Or.inr (by rw[List.length_map];show 0+row.length<=r;omega)),h.reg r hr,List.getD_eq_getElem?_getD,List.getElem?_eq_none (by omega)];rfl
 fz o:=by rw[World.frozen?_setCells];exact h.fz o
theorem ThrAt.drew{f:Nat->Int}(h:ThrAt wr rb bx A f W):ThrAt wr rb bx A f W.drew:=⟨h.b.drew,h.gr,h.gx,h.ne,h.x0,h.x1,h.x2,h.reg,h.fz⟩
theorem setCells_drew(b:Nat): ∀(l:List Value) (o:Nat) (w:World),w.drew.setCells b o l=(w.setCells b o l).drew
 | [],_,_=>rfl
 |v::l,o,w=>setCells_drew b l (o+1) (w.setCell ⟨b,o,none⟩ v)
theorem newMachine_any {s:Sta} {ai ar ad:Option Addr} {ci cr cap:Nat} (h0:Below w0.heap.size w0 w) (hs:StaAt s ⟨ai,ci,ar,cr⟩ w) (hl:codesAt ad cs w0) (h1:1<=s.cells) (h64:s.cells<=64) (n1:1<=cs.length) (n6:cs.length<=6) (hfit:s.fits cs.length=true):
  Calls Tryz.prog 20 #[.agg #[.int .i64 s.cells, .slice ai s.init.length ci, .slice ar s.regs.length cr], .slice ad cs.length cap] w fun e w'=> ∃p:RkPl,e= .returned (.pointer (some ⟨p.k,0,none⟩))/\Hid (RkAt cs p (s.mach cs.length) w'/\p.B=w0.heap.size/\Below w.heap.size w w'/\ ∀b,p.fp cs.length (s.mach cs.length).mem b->w.heap.size<=b):=by
 obtain⟨f1,f2,f3,f4⟩:=Sta.fits_of hfit
 obtain⟨C,hC⟩:=Int.eq_ofNat_of_zero_le (show 0<=s.cells by omega)
 have hCt:s.cells.toNat=C:=by omega
 rw[hC]
 obtain⟨W1,hW1⟩: ∃W1,W1=w.alloc (.cells #[.int .i64 C, .slice ai s.init.length ci, .slice ar s.regs.length cr] 24):=⟨_,rfl⟩
 have b1:Below w.heap.size w W1:=by rw[hW1];exact bRf.alloc nL _
 have hbb:W1.heap[w.heap.size]? =some (.cells #[.int .i64 C, .slice ai s.init.length ci, .slice ar s.regs.length cr] 24):=by rw[hW1];exact heap_new w _
 have s0:W1.cell? ⟨w.heap.size,0,none⟩=some (.int .i64 C):=by rw[hW1];simp
 have HN:=hide (newMem_any C cs.length W1 (by omega) (by omega))
 have HS:=hide hs
 have HL:=hide hl
 have i1:=hs.ci
 have i2:=hs.cr
 have i3:s.init.length<=64:=by omega
 have i4:s.regs.length<=6:=by omega
 dsimp only at i1 i2
 clear hs hl
 go_enter Tryz.func20,Tryz.ntmps20
 go_wp2_with fail
 rw[<-hW1]
 refine HN.out.mono ?_
 rintro e w2 ⟨rp0,rfl,hm2,hb2,hf2⟩
 have l1:w.heap.size<W1.heap.size:=by rw[hW1];simp
 obtain⟨W3,hW3⟩: ∃W3,W3=w2.alloc (.cells #[.pointer (some ⟨rp0.mb,0,none⟩), .slice none 0 0, .slice none 0 0, .int .i64 0] 62):=⟨_,rfl⟩
 have b3:Below w2.heap.size w2 W3:=by rw[hW3];exact bRf.alloc nL _
 have N3:Hid (Nm1 w w.heap.size w2.heap.size #[.int .i64 C, .slice ai s.init.length ci, .slice ar s.regs.length cr] #[.pointer (some ⟨rp0.mb,0,none⟩), .slice none 0 0, .slice none 0 0, .int .i64 0] rp0.mb rp0 (s.at1 cs.length 0 0).mem W3):=hide {
  mem :=by
   have :(s.at1 cs.length 0 0).mem=Rm.fresh C cs.length:=by
    show Rm.mk _ _ _=_
    rw[hCt,List.take_zero,Ar.filled_nil]
   rw[this]
   exact hm2.below b3
  emb:=rfl
  fp :=fun b hb=>by
   have :(s.at1 cs.length 0 0).mem=Rm.fresh C cs.length:=by
    show Rm.mk _ _ _=_
    rw[hCt,List.take_zero,Ar.filled_nil]
   rw[this] at hb
   have a1:=hf2 b hb
   have a2:=hm2.fp_lt hb
   exact⟨by omega,by omega,by omega⟩
  gk:=by have:=hb2.size;omega
  gs:=Nat.le_refl _
  bk:=by rw[hW3];exact heap_new w2 _
  bb:=by rw[b3.block _ (by have:=hb2.size;omega),hb2.block _ l1];exact hbb
  bw:=below_step b1 (hb2.trans (b3.mono hb2.size)) }
 have hks:w2.heap.size≠w.heap.size:=by have:=hb2.size;omega
 clear HN s0 hm2 hb2 hf2 b3 hbb b1 hW1
 go_wp2_with fail
 rw[<-hW3]
 clear hW3
 go_loopw [6] (fun i wr=> ∃j:Nat,j<=s.init.length/\i= .int .i64 j/\ ∃rp,Hid (Nm1 w w.heap.size w2.heap.size #[.int .i64 C, .slice ai s.init.length ci, .slice ar s.regs.length cr] #[.pointer (some ⟨rp0.mb,0,none⟩), .slice none 0 0, .slice none 0 0, .int .i64 0] rp0.mb rp (s.at1 cs.length j 0).mem wr)) (fun i _=>s.init.length - (intOf i).toNat)
 case atStart=>exact⟨0,Nat.zero_le _,rfl,rp0,N3⟩
 case round =>
  clear N3
  obtain⟨j,hj,rfl,rp,NJ⟩:=hrel
  have kc0:wr.cell? ⟨w2.heap.size,0,none⟩=some (.pointer (some ⟨rp0.mb,0,none⟩)):=by simp[World.cell?,NJ.out.bk]
  have sc1:wr.cell? ⟨w.heap.size,1,none⟩=some (.slice ai s.init.length ci):=by simp[World.cell?,NJ.out.bb]
  by_cases hlt:j<s.init.length
  ·obtain ⟨row,hrow⟩: ∃x,s.init[j]? =some x:=⟨_,List.getElem?_eq_getElem hlt⟩
   obtain⟨b,off,adr,capr,hq,cW,hcp,hnW⟩:=HS.out.init j row hrow
   obtain rfl:ai=some ⟨b,off,none⟩:=hq
   obtain⟨r4, -⟩:=rowOk_at f2 hrow
   have ji:(j:Int)<s.init.length:=by omega
   have hfree:=Ar.free_some (Sta.at1_free (s:=s) (n:=cs.length) (t:=0) hlt f1)
   have HA:=hide (ralloc_step rp (s.at1 cs.length j 0).mem j wr NJ.out.mem hfree.1 hfree.2.1 hfree.2.2 (by rw[Sta.at1_given hlt];decide))
   rw[NJ.out.emb] at HA
   have hE:Hid ((s.at1 cs.length j 0).rowPart j row row.length=s.at1 cs.length (j+1) 0):=hide (Sta.at1_row hrow r4)
   have hsz:j<(s.at1 cs.length j 0).mem.ar.size:=hfree.1
   generalize (s.at1 cs.length j 0).mem.ar.given j=gg at*
   go_wp2_with fail
   refine HA.out.mono ?_
   rintro e w4 ⟨rfl,rp4,q4⟩
   have N4:=hide (NJ.out.step q4)
   clear HA NJ kc0 sc1
   have kc0:w4.cell? ⟨w2.heap.size,0,none⟩=some (.pointer (some ⟨rp0.mb,0,none⟩)):=by simp[World.cell?,N4.out.bk]
   have sc1:w4.cell? ⟨w.heap.size,1,none⟩=some (.slice (some ⟨b,off,none⟩) s.init.length ci):=by simp[World.cell?,N4.out.bb]
   have hP0:Hid (((s.at1 cs.length j 0).rowPart j row 0).mem=(s.at1 cs.length j 0).mem.give j):=hide (by rw[Mk.rowPart_zero];rfl)
   have mC:=N4.out.mem.mCells
   have mcc:=N4.out.mem.ccap
   have mW:=N4.out.mem.cWords j hsz
   have mwc:=N4.out.mem.wcap j hsz
   have cW4:=keep_cell N4.out.bw cW
   rw[N4.out.emb] at mC
   have hsz4:(j:Int)<((s.at1 cs.length j 0).mem.give j).ar.size:=by have:j<((s.at1 cs.length j 0).mem.give j).ar.size:=hsz;omega
   have hu:(Tryz.prog).underlying 26=some (.slice 3):=Tryz.underlying26
   have hz1:((Tryz.prog).info? 3).map (·.size)=some 1:=by kernel_rfl
   have HLY:=hide (RmStep.lay (rp:=rp4) (M:=s.at1 cs.length j 0) (i:=j) r4 row 0 (w:=w4) rfl (Nat.zero_le _) (by rw[hP0.out];exact hsz) (by rw[hP0.out];exact N4.out.mem))
   have hE2:Hid (((s.at1 cs.length j 0).rowPart j row row.length).mem=(s.at1 cs.length (j+1) 0).mem):=hide (by rw[hE.out])
   rw[hE2.out,hP0.out] at HLY
   cases hL:row.length with
   | zero=>
    obtain rfl:=List.eq_nil_of_length_eq_zero hL
    have N5:Hid (Nm1 w w.heap.size w2.heap.size #[.int .i64 C, .slice (some ⟨b,off,none⟩) s.init.length ci, .slice ar s.regs.length cr] #[.pointer (some ⟨rp0.mb,0,none⟩), .slice none 0 0, .slice none 0 0, .int .i64 0] rp0.mb rp4 (s.at1 cs.length (j+1) 0).mem w4.drew):=hide ((N4.out.step HLY.out).below bRf.drew)
    rw[hL] at cW4
    clear HLY hE hE2 hP0 q4 cW hfree hrow
    generalize ((s.at1 cs.length j 0).mem.give j).ar.size=SZ at*
    go_wp2_with fail
    go_region_law (refine step_copy_none _ (by rfl) _ _ _ 3 (by rfl) _ _ _ _ _ (by rfl) (by rfl) hu hz1 ?_)
    all_goals
     go_wp2
     go_roundw
    all_goals first
     |exact⟨j+1,by omega,by go_num,rp4,N5⟩
     |(simp[intOf];omega)
   | succ n=>
    obtain⟨x0,hx0⟩: ∃x,row[0]? =some x:=⟨_,List.getElem?_eq_getElem (by omega)⟩
    obtain⟨ab,ao,rfl, -⟩:=hnW 0 x0 hx0
    have HNs:Hid (∀(i:Nat) u,(row.map (Value.int .i64))[i]? =some u->w4.cell? ((⟨ab,ao,none⟩:Addr).add i)=some u):=hide fun i u hu=>by
     rw[List.getElem?_map] at hu
     cases hr:row[i]? with
     |none=>rw[hr] at hu;cases hu
     | some y=>
      rw[hr] at hu;cases hu
      obtain⟨b',o',e1,e2⟩:=hnW i y hr
      cases e1
      rw[Addr.add_lit]
      exact keep_cell N4.out.bw e2
    have hmin:(row.map (Value.int .i64)).length=Nat.min (n+1) 4:=by rw[List.length_map,hL];have:Nat.min (n+1) 4=min (n+1) 4:=rfl;rw[this];omega
    have HCc:Hid (∀i,i<(row.map (Value.int .i64)).length->(w4.cell? ⟨rp4.wb j,0+i,none⟩).isSome=true):=hide fun i hi=>by
     rw[List.length_map] at hi
     rw[Nat.zero_add,N4.out.mem.words j i hsz (by omega)];rfl
    have HCf:Hid (∀i,i<(row.map (Value.int .i64)).length->w4.frozen? ⟨rp4.wb j,0+i,none⟩=false):=hide fun i _=>N4.out.mem.fw j _ hsz
    have H1c: ∀u∈row.map (Value.int .i64),u.oneCell'=true:=fun u hu=>by
     obtain⟨y, -,rfl⟩:=List.mem_map.1 hu
     rfl
    have N5:Hid (Nm1 w w.heap.size w2.heap.size #[.int .i64 C, .slice (some ⟨b,off,none⟩) s.init.length ci, .slice ar s.regs.length cr] #[.pointer (some ⟨rp0.mb,0,none⟩), .slice none 0 0, .slice none 0 0, .int .i64 0] rp0.mb rp4 (s.at1 cs.length (j+1) 0).mem (w4.setCells (rp4.wb j) 0 (row.map (Value.int .i64))).drew):=hide ((N4.out.step HLY.out).below bRf.drew)
    have N6:Hid (Nm1 w w.heap.size w2.heap.size #[.int .i64 C, .slice (some ⟨b,off,none⟩) s.init.length ci, .slice ar s.regs.length cr] #[.pointer (some ⟨rp0.mb,0,none⟩), .slice none 0 0, .slice none 0 0, .int .i64 0] rp0.mb rp4 (s.at1 cs.length (j+1) 0).mem (w4.drew.setCells (rp4.wb j) 0 (row.map (Value.int .i64)))):=hide (by rw[setCells_drew];exact N5.out)
    rw[hL] at cW4
    clear HLY hE hE2 hP0 q4 cW hfree hrow hnW hx0
    generalize ((s.at1 cs.length j 0).mem.give j).ar.size=SZ at*
    generalize row.map (Value.int .i64)=RC at*
    go_wp2_with fail
    go_region_law (refine step_copy_cells _ (by rfl) _ _ _ 3 (by rfl) (rp4.wb j) 0 4 (rp4.wcap j) ⟨ab,ao,none⟩ (n+1) capr RC (by rfl) (by rfl) hu hz1 hmin (fun i u hi=>HNs.out i u hi) (fun i hi=>HCc.out i hi) (fun i hi=>HCf.out i hi) H1c ?_)
    all_goals
     go_wp2
     go_roundw
    all_goals first
     |exact⟨j+1,by omega,by go_num,rp4,N5⟩
     |exact⟨j+1,by omega,by go_num,rp4,N6⟩
     |(simp[intOf];omega)
     |trace_state
  ·obtain rfl :j=s.init.length:=by omega
   have hR:Hid ((s.at1 cs.length s.init.length 0).mem=(s.mach cs.length).mem):=hide (by rw[<-Sta.at1_end];rfl)
   have N2:Hid (Nm2 w0 w w.heap.size w2.heap.size s cs (.slice ar s.regs.length cr) rp (s.mach cs.length).mem [] (.slice none 0 0) wr):=hide (by have:=NJ.out.start (s:=s) (cs:=cs) (sr:= .slice ar s.regs.length cr) (by simp) hks h0;rw[hR.out] at this;exact this)
   clear NJ hR hlt f2 i3
   go_wp2_with fail
   clear kc0 sc1
   generalize wr=w5 at*
   go_loopw [7] (fun i wr=> ∃t:Nat,t<=cs.length/\i= .int .i64 t/\ ∃T v,Hid (T.length=t/\Nm2 w0 w w.heap.size w2.heap.size s cs (.slice ar s.regs.length cr) rp (s.mach cs.length).mem T v wr)) (fun i _=>cs.length - (intOf i).toNat)
   case atStart=>exact⟨0,Nat.zero_le _,rfl,[],_,hide ⟨rfl,N2.out⟩⟩
   case round =>
    clear N2
    obtain⟨t,ht,rfl,T,v,NT⟩:=hrel
    have n6i:(cs.length:Int)<=6:=by omega
    by_cases hlt:t<cs.length
    ·obtain ⟨L,hL⟩: ∃L,cs[t]? =some L:=⟨_,List.getElem?_eq_getElem hlt⟩
     obtain⟨cb,co,adl,capl,hq,c0,hcl,hin, -⟩:=HL.out t L hL
     subst hq
     replace c0:=keep_cell NT.out.2.bw (keep_cell h0 c0)
     have ti:(t:Int)<cs.length:=by omega
     have m8:=make8
     have lcb:cb<wr.heap.size:=bLt c0
     go_wp2_with fail
     go_region
     ·obtain ⟨W7,hW7⟩: ∃W7,W7=((wr.alloc (.cells #[.int .i64 0, .int .i64 0, .int .i64 0, .int .i64 0, .int .i64 0, .int .i64 0, .int .i64 0, .int .i64 0] 3)).alloc (.cells #[.slice adl L.length capl, .slice (some ⟨wr.heap.size,0,none⟩) 8 8, .int .i64 0] 57)).drew:=⟨_,rfl⟩
      have TA:=ThrAt.of1 wr (.slice adl L.length capl)
      rw[<-hW7] at TA ⊢
      clear hW7
      generalize wr.heap.size+1=bx at*
      generalize hrb:wr.heap.size=rb at TA ⊢
      have TH:=hide TA
      have hTl:T.length=t:=NT.out.1
      have HTl:=hide hTl
      have hT6:T.length<=6:=by omega
      have NT7:=hide (NT.out.2.below TA.b)
      have ss:=NT7.out.s2
      have z1:=TA.x1
      clear TA
      by_cases htr:t<s.regs.length
      ·obtain ⟨row,hrow⟩: ∃x,s.regs[t]? =some x:=⟨_,List.getElem?_eq_getElem htr⟩
       obtain⟨rbk,ro,adr,capr,hq,cW,hcp,hnW⟩:=HS.out.regs t row hrow
       obtain rfl:ar=some ⟨rbk,ro,none⟩:=hq
       obtain⟨r8, -⟩:=rowOk_at f4 hrow
       have tri:(t:Int)<s.regs.length:=by omega
       have hu:(Tryz.prog).underlying 26=some (.slice 3):=Tryz.underlying26
       have hz1:((Tryz.prog).info? 3).map (·.size)=some 1:=by kernel_rfl
       have cR:=keep_cell NT7.out.bw cW
       have TB0:Hid (ThrAt wr rb bx (.slice adl L.length capl) (fun r=>rowAt s.regs t r) (W7.setCells rb 0 (row.map (Value.int .i64))).drew):=hide (by
        have h0:s.regs.getD t []=row:=by rw[List.getD_eq_getElem?_getD,hrow];rfl
        have e:(fun r=>rowAt s.regs t r)=(fun r=>row.getD r 0):=by
         funext r;unfold rowAt;rw[h0]
        rw[e];exact(TH.out.copy row r8).drew)
       have NT0:=hide (NT.out.2.below TB0.out.b)
       have HXX:=hide (And.intro hL hin)
       cases hLn:row.length with
       | zero =>
        obtain rfl:=List.eq_nil_of_length_eq_zero hLn
        obtain⟨W8,hW8⟩: ∃W8,W8=W7.drew:=⟨_,rfl⟩
        have TB:Hid (ThrAt wr rb bx (.slice adl L.length capl) (fun r=>rowAt s.regs t r) W8):=by rw[hW8];exact TB0
        have NT8:Hid (Nm2 w0 w w.heap.size w2.heap.size s cs (.slice (some ⟨rbk,ro,none⟩) s.regs.length cr) rp (s.mach cs.length).mem T v W8):=by rw[hW8];exact NT0
        rw[hLn] at cR
        clear TB0 NT0 hrow cW hnW hTl
        go_wp2_with fail
        go_region_law (refine step_copy_none _ (by rfl) _ _ _ 3 (by rfl) _ _ _ _ _ (by rfl) (by rfl) hu hz1 ?_)
        all_goals
         rw[<-hW8]
         clear hW8
         have hTl:=HTl.out
         have hL:=HXX.out.1
         have hin:=HXX.out.2
         have k1:=NT8.out.k1
         have hown:=NT8.out.own
         have fk1:=NT8.out.fk 1
         have lk8:w2.heap.size<W8.heap.size:=bLt k1
         have y0:=TB.out.x0
         have y1:=TB.out.x1
         have y2:=TB.out.x2
         obtain⟨ti0,hti,htz,hts,htb⟩:=thrInfo
         have nk:v.ownBlock≠some w2.heap.size:=fun e=>(NT8.out.vb _ e).1 rfl
         have hml:T.length+1<=maxLen:=Nat.le_trans (Nat.succ_le_succ hT6) (by decide)
         have hmb:(T.length+1)*56<=140737488355328:=Nat.le_trans (Nat.mul_le_mul_right 56 (Nat.succ_le_succ hT6)) (by decide)
         have hws:w.heap.size<=W8.heap.size:=NT8.out.bw.size
         obtain⟨W9,hW9⟩: ∃W9,W9=W8.alloc (.cells #[.slice adl L.length capl, .slice (some ⟨rb,0,none⟩) 8 8, .int .i64 0] 57):=⟨_,rfl⟩
         have b9:Below W8.heap.size W8 W9:=by rw[hW9];exact bRf.alloc nL _
         have rlt:rb<W8.heap.size:=bLt (TB.out.reg 0 (by decide))
         have fzr: ∀o,W9.frozen? ⟨rb,o,none⟩=false:=fun o=>by rw[b9.frozen rlt];exact TB.out.fz o
         have NT9:=hide (NT8.out.below b9)
         have k19:=NT9.out.k1
         have hown9:=NT9.out.own
         have fk9:=NT9.out.fk 1
         have lk9:w2.heap.size<W9.heap.size:=bLt k19
         have hws9:w.heap.size<=W9.heap.size:=NT9.out.bw.size
         have nw9: ∀j u,([.slice adl L.length capl, .slice (some ⟨rb,0,none⟩) 8 8, .int .i64 0]:List Value)[j]? =some u->W9.cell? ((⟨W8.heap.size,0,none⟩:Addr).add j)=some u:=by rw[hW9];exact World.news_of_block (cs:=#[.slice adl L.length capl, .slice (some ⟨rb,0,none⟩) 8 8, .int .i64 0]) (t:=57) (fr:=(0,0)) (heap_alloc_new W8 _)
         clear hTl
         go_wp2_with fail
         go_region_law
          ((try rw[<-hW9])
           refine step_append_at _ (by rfl) _ _ _ (by rfl) w.heap.size 57 ti0 _ 3 56 Tryz.underlying59 hti htz hts htb rfl (by omega) v T.length (thrCells T) (by rfl) hown9
            ⟨W8.heap.size,0,none⟩ 1 1 [.slice adl L.length capl, .slice (some ⟨rb,0,none⟩) 8 8, .int .i64 0] (by rfl) (by rfl) nw9 (by simp[Value.oneCell']) hml hmb hws9 ?_;intro g10 cap10 w10 hown10 hgrow hat
           have k110:w10.cell? ⟨w2.heap.size,1,none⟩=some v:=(World.cell?_of_block (hgrow.block w2.heap.size lk9 (Ne.symm nk))).trans k19
           have fk10:w10.frozen? ⟨w2.heap.size,1,none⟩=false:=(World.frozen?_of_block (hgrow.block w2.heap.size lk9 (Ne.symm nk))).trans fk9)
         all_goals
          have NF:=hide (Nm2.add (x:=⟨adl,L.length,capl,rb⟩) NT9.out (by rw[HTl.out];exact hL) rfl hcl hin (W0:=wr) TB.out.gr (fun b e=>(NT.out.2.own.lt b e).2) (fun b e=>NT.out.2.mem.fp_lt e) (fun t y hy=>NT.out.2.rlt hy) (bLt NT.out.2.k0) (bLt NT.out.2.s2)
           (fun r hr=>by rw[HTl.out];exact keep_cell b9 (TB.out.reg r hr)) fzr NT.out.2.bw.size
           (W9 :=w10) (v':= .slice g10 (T.length+1) cap10) (by rw[thrCells_append];exact hown10) hgrow.size hgrow.os hgrow.tape hgrow.output (fun b hb hn=>hgrow.block b hb (Ne.symm hn)) (fun b e=>by
             rcases hat with e2 |e2
             ·left;rw[<-e2];exact e
             ·right;rw[e2] at e;cases e;exact Nat.le_refl _))
          clear hown10 hgrow hat hti htz hts htb hown9 hown nw9 NT9 NT8 NT7 TB TH hin hL
          go_wp2
          go_roundw
         all_goals first
          |exact⟨t+1,by omega,by go_num,_,_,hide ⟨by rw[List.length_append,HTl.out];rfl,NF.out.below bRf.drew⟩⟩
          |exact⟨t+1,by omega,by go_num,_,_,hide ⟨by rw[List.length_append,HTl.out];rfl,NF.out⟩⟩
          |(simp[intOf];omega)
          |trace_state
       | succ n=>
        obtain⟨x0,hx0⟩: ∃x,row[0]? =some x:=⟨_,List.getElem?_eq_getElem (by rw[hLn];exact Nat.succ_pos n)⟩
        obtain⟨ab,ao,rfl, -⟩:=hnW 0 x0 hx0
        have HNs:Hid (∀(i:Nat) u,(row.map (Value.int .i64))[i]? =some u->W7.cell? ((⟨ab,ao,none⟩:Addr).add i)=some u):=hide fun i u hu=>by
         rw[List.getElem?_map] at hu
         cases hr:row[i]? with
         |none=>rw[hr] at hu;cases hu
         | some y=>
          rw[hr] at hu;cases hu
          obtain⟨b',o',e1,e2⟩:=hnW i y hr
          cases e1
          rw[Addr.add_lit]
          exact keep_cell NT7.out.bw e2
        have hmin:(row.map (Value.int .i64)).length=Nat.min (n+1) 8:=by rw[List.length_map,hLn];have:Nat.min (n+1) 8=min (n+1) 8:=rfl;rw[this,Nat.min_eq_left (by rw[hLn] at r8;exact r8)]
        have HCc:Hid (∀i,i<(row.map (Value.int .i64)).length->(W7.cell? ⟨rb,0+i,none⟩).isSome=true):=hide fun i hi=>by
         rw[List.length_map] at hi
         rw[Nat.zero_add,TH.out.reg i (Nat.lt_of_lt_of_le hi r8)];rfl
        have HCf:Hid (∀i,i<(row.map (Value.int .i64)).length->W7.frozen? ⟨rb,0+i,none⟩=false):=hide fun i _=>TH.out.fz _
        have H1c: ∀u∈row.map (Value.int .i64),u.oneCell'=true:=fun u hu=>by
         obtain⟨y, -,rfl⟩:=List.mem_map.1 hu
         rfl
        rw[hLn] at cR
        clear hrow cW hnW hTl hx0
        generalize row.map (Value.int .i64)=RC at*
        obtain⟨W8,hW8⟩: ∃W8,W8=(W7.setCells rb 0 RC).drew:=⟨_,rfl⟩
        rw[<-hW8] at TB0 NT0
        have TB:=TB0
        have NT8:=NT0
        clear TB0 NT0
        go_wp2_with fail
        go_region_law (refine step_copy_cells _ (by rfl) _ _ _ 3 (by rfl) rb 0 8 8 ⟨ab,ao,none⟩ (n+1) capr RC (by rfl) (by rfl) hu hz1 hmin (fun i u hi=>HNs.out i u hi) (fun i hi=>HCc.out i hi) (fun i hi=>HCf.out i hi) H1c ?_)
        all_goals
         (try rw[setCells_drew])
         rw[<-hW8]
         clear hW8
         have hTl:=HTl.out
         have hL:=HXX.out.1
         have hin:=HXX.out.2
         have k1:=NT8.out.k1
         have hown:=NT8.out.own
         have fk1:=NT8.out.fk 1
         have lk8:w2.heap.size<W8.heap.size:=bLt k1
         have y0:=TB.out.x0
         have y1:=TB.out.x1
         have y2:=TB.out.x2
         obtain⟨ti0,hti,htz,hts,htb⟩:=thrInfo
         have nk:v.ownBlock≠some w2.heap.size:=fun e=>(NT8.out.vb _ e).1 rfl
         have hml:T.length+1<=maxLen:=Nat.le_trans (Nat.succ_le_succ hT6) (by decide)
         have hmb:(T.length+1)*56<=140737488355328:=Nat.le_trans (Nat.mul_le_mul_right 56 (Nat.succ_le_succ hT6)) (by decide)
         have hws:w.heap.size<=W8.heap.size:=NT8.out.bw.size
         obtain⟨W9,hW9⟩: ∃W9,W9=W8.alloc (.cells #[.slice adl L.length capl, .slice (some ⟨rb,0,none⟩) 8 8, .int .i64 0] 57):=⟨_,rfl⟩
         have b9:Below W8.heap.size W8 W9:=by rw[hW9];exact bRf.alloc nL _
         have rlt:rb<W8.heap.size:=bLt (TB.out.reg 0 (by decide))
         have fzr: ∀o,W9.frozen? ⟨rb,o,none⟩=false:=fun o=>by rw[b9.frozen rlt];exact TB.out.fz o
         have NT9:=hide (NT8.out.below b9)
         have k19:=NT9.out.k1
         have hown9:=NT9.out.own
         have fk9:=NT9.out.fk 1
         have lk9:w2.heap.size<W9.heap.size:=bLt k19
         have hws9:w.heap.size<=W9.heap.size:=NT9.out.bw.size
         have nw9: ∀j u,([.slice adl L.length capl, .slice (some ⟨rb,0,none⟩) 8 8, .int .i64 0]:List Value)[j]? =some u->W9.cell? ((⟨W8.heap.size,0,none⟩:Addr).add j)=some u:=by rw[hW9];exact World.news_of_block (cs:=#[.slice adl L.length capl, .slice (some ⟨rb,0,none⟩) 8 8, .int .i64 0]) (t:=57) (fr:=(0,0)) (heap_alloc_new W8 _)
         clear hTl
         go_wp2_with fail
         go_region_law
          ((try rw[<-hW9])
           refine step_append_at _ (by rfl) _ _ _ (by rfl) w.heap.size 57 ti0 _ 3 56 Tryz.underlying59 hti htz hts htb rfl (by omega) v T.length (thrCells T) (by rfl) hown9
            ⟨W8.heap.size,0,none⟩ 1 1 [.slice adl L.length capl, .slice (some ⟨rb,0,none⟩) 8 8, .int .i64 0] (by rfl) (by rfl) nw9 (by simp[Value.oneCell']) hml hmb hws9 ?_;intro g10 cap10 w10 hown10 hgrow hat
           have k110:w10.cell? ⟨w2.heap.size,1,none⟩=some v:=(World.cell?_of_block (hgrow.block w2.heap.size lk9 (Ne.symm nk))).trans k19
           have fk10:w10.frozen? ⟨w2.heap.size,1,none⟩=false:=(World.frozen?_of_block (hgrow.block w2.heap.size lk9 (Ne.symm nk))).trans fk9)
         all_goals
          have NF:=hide (Nm2.add (x:=⟨adl,L.length,capl,rb⟩) NT9.out (by rw[HTl.out];exact hL) rfl hcl hin (W0:=wr) TB.out.gr (fun b e=>(NT.out.2.own.lt b e).2) (fun b e=>NT.out.2.mem.fp_lt e) (fun t y hy=>NT.out.2.rlt hy) (bLt NT.out.2.k0) (bLt NT.out.2.s2)
           (fun r hr=>by rw[HTl.out];exact keep_cell b9 (TB.out.reg r hr)) fzr NT.out.2.bw.size
           (W9 :=w10) (v':= .slice g10 (T.length+1) cap10) (by rw[thrCells_append];exact hown10) hgrow.size hgrow.os hgrow.tape hgrow.output (fun b hb hn=>hgrow.block b hb (Ne.symm hn)) (fun b e=>by
             rcases hat with e2 |e2
             ·left;rw[<-e2];exact e
             ·right;rw[e2] at e;cases e;exact Nat.le_refl _))
          clear hown10 hgrow hat hti htz hts htb hown9 hown nw9 NT9 NT8 NT7 TB TH hin hL
          go_wp2
          go_roundw
         all_goals first
          |exact⟨t+1,by omega,by go_num,_,_,hide ⟨by rw[List.length_append,HTl.out];rfl,NF.out.below bRf.drew⟩⟩
          |exact⟨t+1,by omega,by go_num,_,_,hide ⟨by rw[List.length_append,HTl.out];rfl,NF.out⟩⟩
          |(simp[intOf];omega)
          |trace_state
      ·have tri: ¬(t:Int)<s.regs.length:=by omega
       have TB:Hid (ThrAt wr rb bx (.slice adl L.length capl) (fun r=>rowAt s.regs t r) W7):=hide (by
        have e:(fun r=>rowAt s.regs t r)=(fun _=>0):=by
         have h0:s.regs.getD t []=[]:=by rw[List.getD_eq_getElem?_getD,List.getElem?_eq_none (Nat.le_of_not_lt htr)];rfl
         funext r;unfold rowAt;rw[h0];rfl
        rw[e];exact TH.out)
       have NT8:=NT7
       have k1:=NT8.out.k1
       have hown:=NT8.out.own
       have fk1:=NT8.out.fk 1
       have lk8:w2.heap.size<W7.heap.size:=bLt k1
       have y0:=TB.out.x0
       have y1:=TB.out.x1
       have y2:=TB.out.x2
       obtain⟨ti0,hti,htz,hts,htb⟩:=thrInfo
       have nk:v.ownBlock≠some w2.heap.size:=fun e=>(NT8.out.vb _ e).1 rfl
       have hml:T.length+1<=maxLen:=Nat.le_trans (Nat.succ_le_succ hT6) (by decide)
       have hmb:(T.length+1)*56<=140737488355328:=Nat.le_trans (Nat.mul_le_mul_right 56 (Nat.succ_le_succ hT6)) (by decide)
       have hws:w.heap.size<=W7.heap.size:=NT8.out.bw.size
       obtain⟨W9,hW9⟩: ∃W9,W9=W7.alloc (.cells #[.slice adl L.length capl, .slice (some ⟨rb,0,none⟩) 8 8, .int .i64 0] 57):=⟨_,rfl⟩
       have b9:Below W7.heap.size W7 W9:=by rw[hW9];exact bRf.alloc nL _
       have rlt:rb<W7.heap.size:=bLt (TB.out.reg 0 (by decide))
       have fzr: ∀o,W9.frozen? ⟨rb,o,none⟩=false:=fun o=>by rw[b9.frozen rlt];exact TB.out.fz o
       have NT9:=hide (NT8.out.below b9)
       have k19:=NT9.out.k1
       have hown9:=NT9.out.own
       have fk9:=NT9.out.fk 1
       have lk9:w2.heap.size<W9.heap.size:=bLt k19
       have hws9:w.heap.size<=W9.heap.size:=NT9.out.bw.size
       have nw9: ∀j u,([.slice adl L.length capl, .slice (some ⟨rb,0,none⟩) 8 8, .int .i64 0]:List Value)[j]? =some u->W9.cell? ((⟨W7.heap.size,0,none⟩:Addr).add j)=some u:=by rw[hW9];exact World.news_of_block (cs:=#[.slice adl L.length capl, .slice (some ⟨rb,0,none⟩) 8 8, .int .i64 0]) (t:=57) (fr:=(0,0)) (heap_alloc_new W7 _)
       clear hTl
       go_wp2_with fail
       go_region_law
        ((try rw[<-hW9])
         refine step_append_at _ (by rfl) _ _ _ (by rfl) w.heap.size 57 ti0 _ 3 56 Tryz.underlying59 hti htz hts htb rfl (by omega) v T.length (thrCells T) (by rfl) hown9
          ⟨W7.heap.size,0,none⟩ 1 1 [.slice adl L.length capl, .slice (some ⟨rb,0,none⟩) 8 8, .int .i64 0] (by rfl) (by rfl) nw9 (by simp[Value.oneCell']) hml hmb hws9 ?_;intro g10 cap10 w10 hown10 hgrow hat
         have k110:w10.cell? ⟨w2.heap.size,1,none⟩=some v:=(World.cell?_of_block (hgrow.block w2.heap.size lk9 (Ne.symm nk))).trans k19
         have fk10:w10.frozen? ⟨w2.heap.size,1,none⟩=false:=(World.frozen?_of_block (hgrow.block w2.heap.size lk9 (Ne.symm nk))).trans fk9)
       all_goals
        have NF:=hide (Nm2.add (x:=⟨adl,L.length,capl,rb⟩) NT9.out (by rw[HTl.out];exact hL) rfl hcl hin (W0:=wr) TB.out.gr (fun b e=>(NT.out.2.own.lt b e).2) (fun b e=>NT.out.2.mem.fp_lt e) (fun t y hy=>NT.out.2.rlt hy) (bLt NT.out.2.k0) (bLt NT.out.2.s2)
         (fun r hr=>by rw[HTl.out];exact keep_cell b9 (TB.out.reg r hr)) fzr NT.out.2.bw.size
         (W9 :=w10) (v':= .slice g10 (T.length+1) cap10) (by rw[thrCells_append];exact hown10) hgrow.size hgrow.os hgrow.tape hgrow.output (fun b hb hn=>hgrow.block b hb (Ne.symm hn)) (fun b e=>by
           rcases hat with e2 |e2
           ·left;rw[<-e2];exact e
           ·right;rw[e2] at e;cases e;exact Nat.le_refl _))
        clear hown10 hgrow hat hti htz hts htb hown9 hown nw9 NT9 NT8 NT7 TB TH hin hL
        go_wp2
        go_roundw
       all_goals first
        |exact⟨t+1,by omega,by go_num,_,_,hide ⟨by rw[List.length_append,HTl.out];rfl,NF.out.below bRf.drew⟩⟩
        |exact⟨t+1,by omega,by go_num,_,_,hide ⟨by rw[List.length_append,HTl.out];rfl,NF.out⟩⟩
        |(simp[intOf];omega)
        |trace_state
     ·obtain ⟨W7,hW7⟩: ∃W7,W7=((wr.alloc (.cells #[.slice adl L.length capl, .slice (some ⟨wr.heap.size+1,0,none⟩) 8 8, .int .i64 0] 57)).alloc (.cells #[.int .i64 0, .int .i64 0, .int .i64 0, .int .i64 0, .int .i64 0, .int .i64 0, .int .i64 0, .int .i64 0] 3)).drew:=⟨_,rfl⟩
      have TA:=ThrAt.of2 wr (.slice adl L.length capl)
      rw[<-hW7] at TA ⊢
      clear hW7
      generalize wr.heap.size+1=rb at*
      generalize hbx:wr.heap.size=bx at TA ⊢
      have TH:=hide TA
      have hTl:T.length=t:=NT.out.1
      have HTl:=hide hTl
      have hT6:T.length<=6:=by omega
      have NT7:=hide (NT.out.2.below TA.b)
      have ss:=NT7.out.s2
      have z1:=TA.x1
      clear TA
      by_cases htr:t<s.regs.length
      ·obtain ⟨row,hrow⟩: ∃x,s.regs[t]? =some x:=⟨_,List.getElem?_eq_getElem htr⟩
       obtain⟨rbk,ro,adr,capr,hq,cW,hcp,hnW⟩:=HS.out.regs t row hrow
       obtain rfl:ar=some ⟨rbk,ro,none⟩:=hq
       obtain⟨r8, -⟩:=rowOk_at f4 hrow
       have tri:(t:Int)<s.regs.length:=by omega
       have hu:(Tryz.prog).underlying 26=some (.slice 3):=Tryz.underlying26
       have hz1:((Tryz.prog).info? 3).map (·.size)=some 1:=by kernel_rfl
       have cR:=keep_cell NT7.out.bw cW
       have TB0:Hid (ThrAt wr rb bx (.slice adl L.length capl) (fun r=>rowAt s.regs t r) (W7.setCells rb 0 (row.map (Value.int .i64))).drew):=hide (by
        have h0:s.regs.getD t []=row:=by rw[List.getD_eq_getElem?_getD,hrow];rfl
        have e:(fun r=>rowAt s.regs t r)=(fun r=>row.getD r 0):=by
         funext r;unfold rowAt;rw[h0]
        rw[e];exact(TH.out.copy row r8).drew)
       have NT0:=hide (NT.out.2.below TB0.out.b)
       have HXX:=hide (And.intro hL hin)
       cases hLn:row.length with
       | zero =>
        obtain rfl:=List.eq_nil_of_length_eq_zero hLn
        obtain⟨W8,hW8⟩: ∃W8,W8=W7.drew:=⟨_,rfl⟩
        have TB:Hid (ThrAt wr rb bx (.slice adl L.length capl) (fun r=>rowAt s.regs t r) W8):=by rw[hW8];exact TB0
        have NT8:Hid (Nm2 w0 w w.heap.size w2.heap.size s cs (.slice (some ⟨rbk,ro,none⟩) s.regs.length cr) rp (s.mach cs.length).mem T v W8):=by rw[hW8];exact NT0
        rw[hLn] at cR
        clear TB0 NT0 hrow cW hnW hTl
        go_wp2_with fail
        go_region_law (refine step_copy_none _ (by rfl) _ _ _ 3 (by rfl) _ _ _ _ _ (by rfl) (by rfl) hu hz1 ?_)
        all_goals
         rw[<-hW8]
         clear hW8
         have hTl:=HTl.out
         have hL:=HXX.out.1
         have hin:=HXX.out.2
         have k1:=NT8.out.k1
         have hown:=NT8.out.own
         have fk1:=NT8.out.fk 1
         have lk8:w2.heap.size<W8.heap.size:=bLt k1
         have y0:=TB.out.x0
         have y1:=TB.out.x1
         have y2:=TB.out.x2
         obtain⟨ti0,hti,htz,hts,htb⟩:=thrInfo
         have nk:v.ownBlock≠some w2.heap.size:=fun e=>(NT8.out.vb _ e).1 rfl
         have hml:T.length+1<=maxLen:=Nat.le_trans (Nat.succ_le_succ hT6) (by decide)
         have hmb:(T.length+1)*56<=140737488355328:=Nat.le_trans (Nat.mul_le_mul_right 56 (Nat.succ_le_succ hT6)) (by decide)
         have hws:w.heap.size<=W8.heap.size:=NT8.out.bw.size
         obtain⟨W9,hW9⟩: ∃W9,W9=W8.alloc (.cells #[.slice adl L.length capl, .slice (some ⟨rb,0,none⟩) 8 8, .int .i64 0] 57):=⟨_,rfl⟩
         have b9:Below W8.heap.size W8 W9:=by rw[hW9];exact bRf.alloc nL _
         have rlt:rb<W8.heap.size:=bLt (TB.out.reg 0 (by decide))
         have fzr: ∀o,W9.frozen? ⟨rb,o,none⟩=false:=fun o=>by rw[b9.frozen rlt];exact TB.out.fz o
         have NT9:=hide (NT8.out.below b9)
         have k19:=NT9.out.k1
         have hown9:=NT9.out.own
         have fk9:=NT9.out.fk 1
         have lk9:w2.heap.size<W9.heap.size:=bLt k19
         have hws9:w.heap.size<=W9.heap.size:=NT9.out.bw.size
         have nw9: ∀j u,([.slice adl L.length capl, .slice (some ⟨rb,0,none⟩) 8 8, .int .i64 0]:List Value)[j]? =some u->W9.cell? ((⟨W8.heap.size,0,none⟩:Addr).add j)=some u:=by rw[hW9];exact World.news_of_block (cs:=#[.slice adl L.length capl, .slice (some ⟨rb,0,none⟩) 8 8, .int .i64 0]) (t:=57) (fr:=(0,0)) (heap_alloc_new W8 _)
         clear hTl
         go_wp2_with fail
         go_region_law
          ((try rw[<-hW9])
           refine step_append_at _ (by rfl) _ _ _ (by rfl) w.heap.size 57 ti0 _ 3 56 Tryz.underlying59 hti htz hts htb rfl (by omega) v T.length (thrCells T) (by rfl) hown9
            ⟨W8.heap.size,0,none⟩ 1 1 [.slice adl L.length capl, .slice (some ⟨rb,0,none⟩) 8 8, .int .i64 0] (by rfl) (by rfl) nw9 (by simp[Value.oneCell']) hml hmb hws9 ?_;intro g10 cap10 w10 hown10 hgrow hat
           have k110:w10.cell? ⟨w2.heap.size,1,none⟩=some v:=(World.cell?_of_block (hgrow.block w2.heap.size lk9 (Ne.symm nk))).trans k19
           have fk10:w10.frozen? ⟨w2.heap.size,1,none⟩=false:=(World.frozen?_of_block (hgrow.block w2.heap.size lk9 (Ne.symm nk))).trans fk9)
         all_goals
          have NF:=hide (Nm2.add (x:=⟨adl,L.length,capl,rb⟩) NT9.out (by rw[HTl.out];exact hL) rfl hcl hin (W0:=wr) TB.out.gr (fun b e=>(NT.out.2.own.lt b e).2) (fun b e=>NT.out.2.mem.fp_lt e) (fun t y hy=>NT.out.2.rlt hy) (bLt NT.out.2.k0) (bLt NT.out.2.s2)
           (fun r hr=>by rw[HTl.out];exact keep_cell b9 (TB.out.reg r hr)) fzr NT.out.2.bw.size
           (W9 :=w10) (v':= .slice g10 (T.length+1) cap10) (by rw[thrCells_append];exact hown10) hgrow.size hgrow.os hgrow.tape hgrow.output (fun b hb hn=>hgrow.block b hb (Ne.symm hn)) (fun b e=>by
             rcases hat with e2 |e2
             ·left;rw[<-e2];exact e
             ·right;rw[e2] at e;cases e;exact Nat.le_refl _))
          clear hown10 hgrow hat hti htz hts htb hown9 hown nw9 NT9 NT8 NT7 TB TH hin hL
          go_wp2
          go_roundw
         all_goals first
          |exact⟨t+1,by omega,by go_num,_,_,hide ⟨by rw[List.length_append,HTl.out];rfl,NF.out.below bRf.drew⟩⟩
          |exact⟨t+1,by omega,by go_num,_,_,hide ⟨by rw[List.length_append,HTl.out];rfl,NF.out⟩⟩
          |(simp[intOf];omega)
          |trace_state
       | succ n=>
        obtain⟨x0,hx0⟩: ∃x,row[0]? =some x:=⟨_,List.getElem?_eq_getElem (by rw[hLn];exact Nat.succ_pos n)⟩
        obtain⟨ab,ao,rfl, -⟩:=hnW 0 x0 hx0
        have HNs:Hid (∀(i:Nat) u,(row.map (Value.int .i64))[i]? =some u->W7.cell? ((⟨ab,ao,none⟩:Addr).add i)=some u):=hide fun i u hu=>by
         rw[List.getElem?_map] at hu
         cases hr:row[i]? with
         |none=>rw[hr] at hu;cases hu
         | some y=>
          rw[hr] at hu;cases hu
          obtain⟨b',o',e1,e2⟩:=hnW i y hr
          cases e1
          rw[Addr.add_lit]
          exact keep_cell NT7.out.bw e2
        have hmin:(row.map (Value.int .i64)).length=Nat.min (n+1) 8:=by rw[List.length_map,hLn];have:Nat.min (n+1) 8=min (n+1) 8:=rfl;rw[this,Nat.min_eq_left (by rw[hLn] at r8;exact r8)]
        have HCc:Hid (∀i,i<(row.map (Value.int .i64)).length->(W7.cell? ⟨rb,0+i,none⟩).isSome=true):=hide fun i hi=>by
         rw[List.length_map] at hi
         rw[Nat.zero_add,TH.out.reg i (Nat.lt_of_lt_of_le hi r8)];rfl
        have HCf:Hid (∀i,i<(row.map (Value.int .i64)).length->W7.frozen? ⟨rb,0+i,none⟩=false):=hide fun i _=>TH.out.fz _
        have H1c: ∀u∈row.map (Value.int .i64),u.oneCell'=true:=fun u hu=>by
         obtain⟨y, -,rfl⟩:=List.mem_map.1 hu
         rfl
        rw[hLn] at cR
        clear hrow cW hnW hTl hx0
        generalize row.map (Value.int .i64)=RC at*
        obtain⟨W8,hW8⟩: ∃W8,W8=(W7.setCells rb 0 RC).drew:=⟨_,rfl⟩
        rw[<-hW8] at TB0 NT0
        have TB:=TB0
        have NT8:=NT0
        clear TB0 NT0
        go_wp2_with fail
        go_region_law (refine step_copy_cells _ (by rfl) _ _ _ 3 (by rfl) rb 0 8 8 ⟨ab,ao,none⟩ (n+1) capr RC (by rfl) (by rfl) hu hz1 hmin (fun i u hi=>HNs.out i u hi) (fun i hi=>HCc.out i hi) (fun i hi=>HCf.out i hi) H1c ?_)
        all_goals
         (try rw[setCells_drew])
         rw[<-hW8]
         clear hW8
         have hTl:=HTl.out
         have hL:=HXX.out.1
         have hin:=HXX.out.2
         have k1:=NT8.out.k1
         have hown:=NT8.out.own
         have fk1:=NT8.out.fk 1
         have lk8:w2.heap.size<W8.heap.size:=bLt k1
         have y0:=TB.out.x0
         have y1:=TB.out.x1
         have y2:=TB.out.x2
         obtain⟨ti0,hti,htz,hts,htb⟩:=thrInfo
         have nk:v.ownBlock≠some w2.heap.size:=fun e=>(NT8.out.vb _ e).1 rfl
         have hml:T.length+1<=maxLen:=Nat.le_trans (Nat.succ_le_succ hT6) (by decide)
         have hmb:(T.length+1)*56<=140737488355328:=Nat.le_trans (Nat.mul_le_mul_right 56 (Nat.succ_le_succ hT6)) (by decide)
         have hws:w.heap.size<=W8.heap.size:=NT8.out.bw.size
         obtain⟨W9,hW9⟩: ∃W9,W9=W8.alloc (.cells #[.slice adl L.length capl, .slice (some ⟨rb,0,none⟩) 8 8, .int .i64 0] 57):=⟨_,rfl⟩
         have b9:Below W8.heap.size W8 W9:=by rw[hW9];exact bRf.alloc nL _
         have rlt:rb<W8.heap.size:=bLt (TB.out.reg 0 (by decide))
         have fzr: ∀o,W9.frozen? ⟨rb,o,none⟩=false:=fun o=>by rw[b9.frozen rlt];exact TB.out.fz o
         have NT9:=hide (NT8.out.below b9)
         have k19:=NT9.out.k1
         have hown9:=NT9.out.own
         have fk9:=NT9.out.fk 1
         have lk9:w2.heap.size<W9.heap.size:=bLt k19
         have hws9:w.heap.size<=W9.heap.size:=NT9.out.bw.size
         have nw9: ∀j u,([.slice adl L.length capl, .slice (some ⟨rb,0,none⟩) 8 8, .int .i64 0]:List Value)[j]? =some u->W9.cell? ((⟨W8.heap.size,0,none⟩:Addr).add j)=some u:=by rw[hW9];exact World.news_of_block (cs:=#[.slice adl L.length capl, .slice (some ⟨rb,0,none⟩) 8 8, .int .i64 0]) (t:=57) (fr:=(0,0)) (heap_alloc_new W8 _)
         clear hTl
         go_wp2_with fail
         go_region_law
          ((try rw[<-hW9])
           refine step_append_at _ (by rfl) _ _ _ (by rfl) w.heap.size 57 ti0 _ 3 56 Tryz.underlying59 hti htz hts htb rfl (by omega) v T.length (thrCells T) (by rfl) hown9
            ⟨W8.heap.size,0,none⟩ 1 1 [.slice adl L.length capl, .slice (some ⟨rb,0,none⟩) 8 8, .int .i64 0] (by rfl) (by rfl) nw9 (by simp[Value.oneCell']) hml hmb hws9 ?_;intro g10 cap10 w10 hown10 hgrow hat
           have k110:w10.cell? ⟨w2.heap.size,1,none⟩=some v:=(World.cell?_of_block (hgrow.block w2.heap.size lk9 (Ne.symm nk))).trans k19
           have fk10:w10.frozen? ⟨w2.heap.size,1,none⟩=false:=(World.frozen?_of_block (hgrow.block w2.heap.size lk9 (Ne.symm nk))).trans fk9)
         all_goals
          have NF:=hide (Nm2.add (x:=⟨adl,L.length,capl,rb⟩) NT9.out (by rw[HTl.out];exact hL) rfl hcl hin (W0:=wr) TB.out.gr (fun b e=>(NT.out.2.own.lt b e).2) (fun b e=>NT.out.2.mem.fp_lt e) (fun t y hy=>NT.out.2.rlt hy) (bLt NT.out.2.k0) (bLt NT.out.2.s2)
           (fun r hr=>by rw[HTl.out];exact keep_cell b9 (TB.out.reg r hr)) fzr NT.out.2.bw.size
           (W9 :=w10) (v':= .slice g10 (T.length+1) cap10) (by rw[thrCells_append];exact hown10) hgrow.size hgrow.os hgrow.tape hgrow.output (fun b hb hn=>hgrow.block b hb (Ne.symm hn)) (fun b e=>by
             rcases hat with e2 |e2
             ·left;rw[<-e2];exact e
             ·right;rw[e2] at e;cases e;exact Nat.le_refl _))
          clear hown10 hgrow hat hti htz hts htb hown9 hown nw9 NT9 NT8 NT7 TB TH hin hL
          go_wp2
          go_roundw
         all_goals first
          |exact⟨t+1,by omega,by go_num,_,_,hide ⟨by rw[List.length_append,HTl.out];rfl,NF.out.below bRf.drew⟩⟩
          |exact⟨t+1,by omega,by go_num,_,_,hide ⟨by rw[List.length_append,HTl.out];rfl,NF.out⟩⟩
          |(simp[intOf];omega)
          |trace_state
      ·have tri: ¬(t:Int)<s.regs.length:=by omega
       have TB:Hid (ThrAt wr rb bx (.slice adl L.length capl) (fun r=>rowAt s.regs t r) W7):=hide (by
        have e:(fun r=>rowAt s.regs t r)=(fun _=>0):=by
         have h0:s.regs.getD t []=[]:=by rw[List.getD_eq_getElem?_getD,List.getElem?_eq_none (Nat.le_of_not_lt htr)];rfl
         funext r;unfold rowAt;rw[h0];rfl
        rw[e];exact TH.out)
       have NT8:=NT7
       have k1:=NT8.out.k1
       have hown:=NT8.out.own
       have fk1:=NT8.out.fk 1
       have lk8:w2.heap.size<W7.heap.size:=bLt k1
       have y0:=TB.out.x0
       have y1:=TB.out.x1
       have y2:=TB.out.x2
       obtain⟨ti0,hti,htz,hts,htb⟩:=thrInfo
       have nk:v.ownBlock≠some w2.heap.size:=fun e=>(NT8.out.vb _ e).1 rfl
       have hml:T.length+1<=maxLen:=Nat.le_trans (Nat.succ_le_succ hT6) (by decide)
       have hmb:(T.length+1)*56<=140737488355328:=Nat.le_trans (Nat.mul_le_mul_right 56 (Nat.succ_le_succ hT6)) (by decide)
       have hws:w.heap.size<=W7.heap.size:=NT8.out.bw.size
       obtain⟨W9,hW9⟩: ∃W9,W9=W7.alloc (.cells #[.slice adl L.length capl, .slice (some ⟨rb,0,none⟩) 8 8, .int .i64 0] 57):=⟨_,rfl⟩
       have b9:Below W7.heap.size W7 W9:=by rw[hW9];exact bRf.alloc nL _
       have rlt:rb<W7.heap.size:=bLt (TB.out.reg 0 (by decide))
       have fzr: ∀o,W9.frozen? ⟨rb,o,none⟩=false:=fun o=>by rw[b9.frozen rlt];exact TB.out.fz o
       have NT9:=hide (NT8.out.below b9)
       have k19:=NT9.out.k1
       have hown9:=NT9.out.own
       have fk9:=NT9.out.fk 1
       have lk9:w2.heap.size<W9.heap.size:=bLt k19
       have hws9:w.heap.size<=W9.heap.size:=NT9.out.bw.size
       have nw9: ∀j u,([.slice adl L.length capl, .slice (some ⟨rb,0,none⟩) 8 8, .int .i64 0]:List Value)[j]? =some u->W9.cell? ((⟨W7.heap.size,0,none⟩:Addr).add j)=some u:=by rw[hW9];exact World.news_of_block (cs:=#[.slice adl L.length capl, .slice (some ⟨rb,0,none⟩) 8 8, .int .i64 0]) (t:=57) (fr:=(0,0)) (heap_alloc_new W7 _)
       clear hTl
       go_wp2_with fail
       go_region_law
        ((try rw[<-hW9])
         refine step_append_at _ (by rfl) _ _ _ (by rfl) w.heap.size 57 ti0 _ 3 56 Tryz.underlying59 hti htz hts htb rfl (by omega) v T.length (thrCells T) (by rfl) hown9
          ⟨W7.heap.size,0,none⟩ 1 1 [.slice adl L.length capl, .slice (some ⟨rb,0,none⟩) 8 8, .int .i64 0] (by rfl) (by rfl) nw9 (by simp[Value.oneCell']) hml hmb hws9 ?_;intro g10 cap10 w10 hown10 hgrow hat
         have k110:w10.cell? ⟨w2.heap.size,1,none⟩=some v:=(World.cell?_of_block (hgrow.block w2.heap.size lk9 (Ne.symm nk))).trans k19
         have fk10:w10.frozen? ⟨w2.heap.size,1,none⟩=false:=(World.frozen?_of_block (hgrow.block w2.heap.size lk9 (Ne.symm nk))).trans fk9)
       all_goals
        have NF:=hide (Nm2.add (x:=⟨adl,L.length,capl,rb⟩) NT9.out (by rw[HTl.out];exact hL) rfl hcl hin (W0:=wr) TB.out.gr (fun b e=>(NT.out.2.own.lt b e).2) (fun b e=>NT.out.2.mem.fp_lt e) (fun t y hy=>NT.out.2.rlt hy) (bLt NT.out.2.k0) (bLt NT.out.2.s2)
         (fun r hr=>by rw[HTl.out];exact keep_cell b9 (TB.out.reg r hr)) fzr NT.out.2.bw.size
         (W9 :=w10) (v':= .slice g10 (T.length+1) cap10) (by rw[thrCells_append];exact hown10) hgrow.size hgrow.os hgrow.tape hgrow.output (fun b hb hn=>hgrow.block b hb (Ne.symm hn)) (fun b e=>by
           rcases hat with e2 |e2
           ·left;rw[<-e2];exact e
           ·right;rw[e2] at e;cases e;exact Nat.le_refl _))
        clear hown10 hgrow hat hti htz hts htb hown9 hown nw9 NT9 NT8 NT7 TB TH hin hL
        go_wp2
        go_roundw
       all_goals first
        |exact⟨t+1,by omega,by go_num,_,_,hide ⟨by rw[List.length_append,HTl.out];rfl,NF.out.below bRf.drew⟩⟩
        |exact⟨t+1,by omega,by go_num,_,_,hide ⟨by rw[List.length_append,HTl.out];rfl,NF.out⟩⟩
        |(simp[intOf];omega)
        |trace_state
    ·obtain rfl:t=cs.length:=by omega
     have HD:Hid (∃p:RkPl,p.k=w2.heap.size/\p.B=w0.heap.size/\RkAt cs p (s.mach cs.length) wr/\ ∀b,p.fp cs.length (s.mach cs.length).mem b->w.heap.size<=b):=hide (NT.out.2.done NT.out.1 n1 n6)
     have HBW:=hide NT.out.2.bw
     clear NT
     go_wp2
     go_ret
     obtain⟨p,e1,e2,e3,e4⟩:=HD.out
     exact⟨p,by rw[e1];rfl,hide ⟨e3,e2,HBW.out,e4⟩⟩
end
end Go.Proofs.YtdpmnlbnlnmjbaaGreatDoor
