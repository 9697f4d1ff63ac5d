import Derived.Test.YtdpmnlbnlnmjbaaGreatDoorV21
import Derived.Deep.RegionHeld3
import Derived.Test.YtdpmnlbnlnmjbaaGreatDoorV12
import Derived.Test.YtdpmnlbnlnmjbaaGreatDoorV22
import Derived.Lib.QuietBelow
import Derived.BigQuiet
namespace Go.Proofs.YtdpmnlbnlnmjbaaGreatDoor
set_option maxRecDepth 100000
set_option maxHeartbeats 8000000
section
open Go.RowKit Go.Extern.Stop Go.Stop Go.Extern Go.Sort
variable {cs:List (List Ins)} {L:List Ins} {K t:Nat} {w:World} {p:RkPl} {i:Nat} {x:Ins} {m:Mk} {j:Nat}
theorem rstep_const(D:RkX cs p m K w)(ht:cs[t]? =some L)(hx:L[m.pc t]? =some x)(e:x.op=⟨#[99,111,110,115,116]⟩)(hi:i<8)(ei:x.a=i):
  Calls Tryz.prog 25 #[.pointer (some ⟨p.k,0,none⟩), .int .i64 t] w fun e w'=>e= .returned (.int .i64 0)/\ ∃r v,RkStep cs p m.mem w r v (m.step L t) w':=by
 have hM:m.step L t=(m.setPc t (m.pc t+1)).exec L t x:=by unfold Mk.step;rw[hx]
 obtain⟨M',hM'⟩: ∃M',M'=(m.setPc t (m.pc t+1)).exec L t x:=⟨_,rfl⟩
 rw[hM, <-hM']
 rw[exec_const (m.setPc t (m.pc t+1)) L t e] at hM'
 clear hM
 rw[ei] at hM'
 simp only[Int.toNat_natCast] at hM'
 try simp only[show ∀r,(m.setPc t (m.pc t+1)).regs t r=m.regs t r from fun _=>rfl] at hM'
 have HD:=hide (rdone_at ht hx D.at')
 obtain⟨xo,xa,xb,xc,xt⟩:=x
 dsimp only at e ei hM' ⊢
 subst e ei
 have HM':=hide hM'
 clear hM'
 obtain⟨htl,h6,hpl,hL2,hcap,hcc,ti,t6,pi,hpc2,hpw,hpw2,hr8,HIN,HX,H,d0,hT⟩:=pfx1 D ht hx
 have li:(i:Int)<8:=by omega
 clear D
 go_enter Tryz.func25,Tryz.ntmps25
 go_wp2_with fail
 refine HD.out.mono ?_
 rintro e w1 ⟨rfl,hb1⟩
 clear HD hT
 obtain⟨cb,off,H1,hT,hA,hR,had,c0,c1,c2,c3,c4,hC,lcb,lk,lt,lr,zt⟩:=pfx2 H HIN htl ht hx hb1
 dsimp only at c0 c1 c2 c3 c4
 obtain⟨W2,hW2⟩: ∃W2,W2=(w1.alloc (.cells #[.string ⟨#[99,111,110,115,116]⟩, .int .i64 i, .int .i64 xb, .int .i64 xc, .string xt] 75)).drew:=⟨_,rfl⟩
 obtain⟨b2,q0,q1,q2,q3,q4,lW2⟩:=box5d hW2
 clear HIN had
 go_wp2_with fail
 go_region
 rw[<-hW2]
 have P:=pfx3a H htl hb1 b2 lW2
 replace hC:=keep_cell b2 hC
 clear hT hA hR zt
 obtain⟨B2,H2,hT,hA,hR,zt,dk,dr1,dr2,G2,nk,nt,nr,lk2,lt2,lr2⟩:=P
 obtain⟨W3,hW3,S3,G3,HM3,HX3,y0,y1,y2,y3,y4,T3,R3,k3,lW3,G0⟩:=pfx3b HX htl (by omega) H2 G2 q0 q1 q2 q3 q4
 clear H2 c0 c1 c2 c3 c4 hb1 b2 B2 hW2 G2 S3 H1 lcb
 obtain⟨fi,fzi⟩:=G0.out i (by omega)
 have gi:W3.cell? ⟨p.rb t,i,none⟩=some (.int .i64 (m.regs t i)):=HM3.out.regs t i htl (by omega)
 clear G0
 have HS:=hide (G3.out.trans (HM3.out.setReg htl hi xb))
 rw[hW3] at HS
 clear G3 HM3 HX3
 go_wp2
 go_ret
 exact⟨rfl,_,_,by rw[HM'.out];exact HS.out.step⟩
theorem rstep_move(D:RkX cs p m K w)(ht:cs[t]? =some L)(hx:L[m.pc t]? =some x)(e:x.op=⟨#[109,111,118,101]⟩)(hi:i<8)(ei:x.a=i)(hj:j<8)(ej:x.b=j):
  Calls Tryz.prog 25 #[.pointer (some ⟨p.k,0,none⟩), .int .i64 t] w fun e w'=>e= .returned (.int .i64 0)/\ ∃r v,RkStep cs p m.mem w r v (m.step L t) w':=by
 have hM:m.step L t=(m.setPc t (m.pc t+1)).exec L t x:=by unfold Mk.step;rw[hx]
 obtain⟨M',hM'⟩: ∃M',M'=(m.setPc t (m.pc t+1)).exec L t x:=⟨_,rfl⟩
 rw[hM, <-hM']
 rw[exec_move (m.setPc t (m.pc t+1)) L t e] at hM'
 clear hM
 rw[ei] at hM'
 rw[ej] at hM'
 simp only[Int.toNat_natCast] at hM'
 try simp only[show ∀r,(m.setPc t (m.pc t+1)).regs t r=m.regs t r from fun _=>rfl] at hM'
 have HD:=hide (rdone_at ht hx D.at')
 obtain⟨xo,xa,xb,xc,xt⟩:=x
 dsimp only at e ei ej hM' ⊢
 subst e ei ej
 have HM':=hide hM'
 clear hM'
 obtain⟨htl,h6,hpl,hL2,hcap,hcc,ti,t6,pi,hpc2,hpw,hpw2,hr8,HIN,HX,H,d0,hT⟩:=pfx1 D ht hx
 have li:(i:Int)<8:=by omega
 have lj:(j:Int)<8:=by omega
 clear D
 go_enter Tryz.func25,Tryz.ntmps25
 go_wp2_with fail
 refine HD.out.mono ?_
 rintro e w1 ⟨rfl,hb1⟩
 clear HD hT
 obtain⟨cb,off,H1,hT,hA,hR,had,c0,c1,c2,c3,c4,hC,lcb,lk,lt,lr,zt⟩:=pfx2 H HIN htl ht hx hb1
 dsimp only at c0 c1 c2 c3 c4
 obtain⟨W2,hW2⟩: ∃W2,W2=(w1.alloc (.cells #[.string ⟨#[109,111,118,101]⟩, .int .i64 i, .int .i64 j, .int .i64 xc, .string xt] 75)).drew:=⟨_,rfl⟩
 obtain⟨b2,q0,q1,q2,q3,q4,lW2⟩:=box5d hW2
 clear HIN had
 go_wp2_with fail
 go_region
 rw[<-hW2]
 have P:=pfx3a H htl hb1 b2 lW2
 replace hC:=keep_cell b2 hC
 clear hT hA hR zt
 obtain⟨B2,H2,hT,hA,hR,zt,dk,dr1,dr2,G2,nk,nt,nr,lk2,lt2,lr2⟩:=P
 obtain⟨W3,hW3,S3,G3,HM3,HX3,y0,y1,y2,y3,y4,T3,R3,k3,lW3,G0⟩:=pfx3b HX htl (by omega) H2 G2 q0 q1 q2 q3 q4
 clear H2 c0 c1 c2 c3 c4 hb1 b2 B2 hW2 G2 S3 H1 lcb
 obtain⟨fi,fzi⟩:=G0.out i (by omega)
 have gi:W3.cell? ⟨p.rb t,i,none⟩=some (.int .i64 (m.regs t i)):=HM3.out.regs t i htl (by omega)
 obtain⟨fj,fzj⟩:=G0.out j (by omega)
 have gj:W3.cell? ⟨p.rb t,j,none⟩=some (.int .i64 (m.regs t j)):=HM3.out.regs t j htl (by omega)
 clear G0
 have z3:W3.frozen? ⟨p.rb t,i,none⟩=false:=HM3.out.fr t i htl
 have HS:=hide (G3.out.trans ((HM3.out.setReg htl hi (m.regs t j)).below bRf.drew))
 clear G3 HM3 HX3
 generalize m.regs t i=Ri at*
 generalize m.regs t j=Rj at*
 go_wp2_with fail
 rw[<-hW3]
 clear hT hA hR hC zt q0 q1 q2 q3 q4 lW2 lk2 lt2 lr2 hW3
 refine wp_region_F (S:=(fun w'=>w'.cell? ⟨w1.heap.size,1,none⟩=some (.int .i64 i)/\w'.cell? ⟨w1.heap.size,2,none⟩=some (.int .i64 j)/\w'.cell? ⟨p.rb t,i,none⟩=some (.int .i64 Ri)/\w'.cell? ⟨p.rb t,j,none⟩=some (.int .i64 Rj))) (by kernel_rfl) (by(try dsimp only);go_keep) (fun hHeld=>?_)
 iterate 9
  refine' wpAnyF_next (sz:=10) (n:=9) (v:=_) rfl (by kernel_rfl) (fun _ _ _ h=>h) (by assumption) (Or.inl ⟨by rfl,?_⟩) ?_
  case' refine'_2=>(intro w' hSw;(try dsimp only at hSw);go_simp;try with_reducible rfl)
  try simp only[Act.put,fxs]
 clear hHeld
 refine wpAnyF_only (i:=9) rfl (by kernel_rfl) (fun K hK=>?_)
 go_simp
 refine hK.out _ _ (Or.inl (by kernel_rfl)) ?_
 clear hK K
 try simp only[Act.put,fxs]
 refine wpAnyF_done (by kernel_rfl) ?_ _
 go_wp2
 go_ret
 exact⟨rfl,_,_,by rw[HM'.out];exact HS.out.step⟩
theorem rstep_and(D:RkX cs p m K w)(ht:cs[t]? =some L)(hx:L[m.pc t]? =some x)(e:x.op=⟨#[97,110,100]⟩)(hi:i<8)(ei:x.a=i)(hj:j<8)(ej:x.b=j){k:Nat}(hk:k<8)(ek:x.c=k):
  Calls Tryz.prog 25 #[.pointer (some ⟨p.k,0,none⟩), .int .i64 t] w fun e w'=>e= .returned (.int .i64 0)/\ ∃r v,RkStep cs p m.mem w r v (m.step L t) w':=by
 have hM:m.step L t=(m.setPc t (m.pc t+1)).exec L t x:=by unfold Mk.step;rw[hx]
 obtain⟨M',hM'⟩: ∃M',M'=(m.setPc t (m.pc t+1)).exec L t x:=⟨_,rfl⟩
 rw[hM, <-hM']
 rw[exec_and (m.setPc t (m.pc t+1)) L t e] at hM'
 clear hM
 rw[ei] at hM'
 rw[ej] at hM'
 rw[ek] at hM'
 simp only[Int.toNat_natCast] at hM'
 try simp only[show ∀r,(m.setPc t (m.pc t+1)).regs t r=m.regs t r from fun _=>rfl] at hM'
 have HD:=hide (rdone_at ht hx D.at')
 obtain⟨xo,xa,xb,xc,xt⟩:=x
 dsimp only at e ei ej ek hM' ⊢
 subst e ei ej ek
 have HM':=hide hM'
 clear hM'
 obtain⟨htl,h6,hpl,hL2,hcap,hcc,ti,t6,pi,hpc2,hpw,hpw2,hr8,HIN,HX,H,d0,hT⟩:=pfx1 D ht hx
 have li:(i:Int)<8:=by omega
 have lj:(j:Int)<8:=by omega
 have lk:(k:Int)<8:=by omega
 clear D
 go_enter Tryz.func25,Tryz.ntmps25
 go_wp2_with fail
 refine HD.out.mono ?_
 rintro e w1 ⟨rfl,hb1⟩
 clear HD hT
 obtain⟨cb,off,H1,hT,hA,hR,had,c0,c1,c2,c3,c4,hC,lcb,lk,lt,lr,zt⟩:=pfx2 H HIN htl ht hx hb1
 dsimp only at c0 c1 c2 c3 c4
 obtain⟨W2,hW2⟩: ∃W2,W2=(w1.alloc (.cells #[.string ⟨#[97,110,100]⟩, .int .i64 i, .int .i64 j, .int .i64 k, .string xt] 75)).drew:=⟨_,rfl⟩
 obtain⟨b2,q0,q1,q2,q3,q4,lW2⟩:=box5d hW2
 clear HIN had
 go_wp2_with fail
 go_region
 rw[<-hW2]
 have P:=pfx3a H htl hb1 b2 lW2
 replace hC:=keep_cell b2 hC
 clear hT hA hR zt
 obtain⟨B2,H2,hT,hA,hR,zt,dk,dr1,dr2,G2,nk,nt,nr,lk2,lt2,lr2⟩:=P
 obtain⟨W3,hW3,S3,G3,HM3,HX3,y0,y1,y2,y3,y4,T3,R3,k3,lW3,G0⟩:=pfx3b HX htl (by omega) H2 G2 q0 q1 q2 q3 q4
 clear H2 c0 c1 c2 c3 c4 hb1 b2 B2 hW2 G2 S3 H1 lcb
 obtain⟨fi,fzi⟩:=G0.out i (by omega)
 have gi:W3.cell? ⟨p.rb t,i,none⟩=some (.int .i64 (m.regs t i)):=HM3.out.regs t i htl (by omega)
 obtain⟨fj,fzj⟩:=G0.out j (by omega)
 have gj:W3.cell? ⟨p.rb t,j,none⟩=some (.int .i64 (m.regs t j)):=HM3.out.regs t j htl (by omega)
 obtain⟨fk,fzk⟩:=G0.out k (by omega)
 have gk:W3.cell? ⟨p.rb t,k,none⟩=some (.int .i64 (m.regs t k)):=HM3.out.regs t k htl (by omega)
 clear G0
 have z3:W3.frozen? ⟨p.rb t,i,none⟩=false:=HM3.out.fr t i htl
 have HB:Hid (∀w',Calls Tryz.prog 55 #[.string ⟨#[97,110,100]⟩, .int .i64 (m.regs t j), .int .i64 (m.regs t k)] w' fun e w''=>e= .returned (.int .i64 (andW (m.regs t j) (m.regs t k)))/\w''=w'):=fun w'=>rbits_andW (HX3.out.ok.regs t j) (HX3.out.ok.regs t k) w'
 have HS:=hide (G3.out.trans ((HM3.out.setReg htl hi (andW (m.regs t j) (m.regs t k))).below bRf.drew))
 clear G3 HM3 HX3
 generalize andW (m.regs t j) (m.regs t k)=V at*
 generalize m.regs t i=Ri at*
 generalize m.regs t j=Rj at*
 generalize m.regs t k=Rk at*
 go_wp2_with fail
 rw[<-hW3]
 clear hT hA hR hC zt q0 q1 q2 q3 q4 lW2 lk2 lt2 lr2 hW3
 refine wp_region_F (S:=(fun w'=>w'.cell? ⟨w1.heap.size,0,none⟩=some (.string ⟨#[97,110,100]⟩)/\w'.cell? ⟨w1.heap.size,1,none⟩=some (.int .i64 i)/\w'.cell? ⟨w1.heap.size,2,none⟩=some (.int .i64 j)/\w'.cell? ⟨w1.heap.size,3,none⟩=some (.int .i64 k)/\w'.cell? ⟨p.rb t,i,none⟩=some (.int .i64 Ri)/\w'.cell? ⟨p.rb t,j,none⟩=some (.int .i64 Rj)/\w'.cell? ⟨p.rb t,k,none⟩=some (.int .i64 Rk))) (by kernel_rfl) (by(try dsimp only);go_keep) (fun hHeld=>?_)
 iterate 15
  refine' wpAnyF_next (sz:=18) (n:=17) (v:=_) rfl (by kernel_rfl) (fun _ _ _ h=>h) (by assumption) (Or.inl ⟨by rfl,?_⟩) ?_
  case' refine'_2=>(intro w' hSw;(try dsimp only at hSw);go_simp;try with_reducible rfl)
  try simp only[Act.put,fxs]
 refine wpAnyF_only (i:=15) rfl (by kernel_rfl) (fun K hK=>?_)
 go_simp
 go_at_call 55
 refine(HB.out _).mono ?_
 rintro e w4 ⟨rfl,rfl⟩
 dsimp only
 refine hK.out _ _ (Or.inr (by(try dsimp only);exact hHeld)) ?_
 clear hK K
 try simp only[Act.put,fxs]
 refine' wpAnyF_take (i:=16) (n:=17) (v:=_) rfl (by kernel_rfl) (fun _ _ _ h=>h) (by assumption) (Or.inl ⟨by rfl,?hy25⟩) ?rest25
 case' hy25=>(intro w' hSw;(try dsimp only at hSw);go_simp;try with_reducible rfl)
 try simp only[Act.put,fxs]
 clear hHeld
 refine wpAnyF_only (i:=17) rfl (by kernel_rfl) (fun K hK=>?_)
 go_simp
 refine hK.out _ _ (Or.inl (by kernel_rfl)) ?_
 clear hK K
 try simp only[Act.put,fxs]
 refine wpAnyF_done (by kernel_rfl) ?_ _
 go_wp2
 go_ret
 exact⟨rfl,_,_,by rw[HM'.out];exact HS.out.step⟩
theorem rstep_xor(D:RkX cs p m K w)(ht:cs[t]? =some L)(hx:L[m.pc t]? =some x)(e:x.op=⟨#[120,111,114]⟩)(hi:i<8)(ei:x.a=i)(hj:j<8)(ej:x.b=j){k:Nat}(hk:k<8)(ek:x.c=k):
  Calls Tryz.prog 25 #[.pointer (some ⟨p.k,0,none⟩), .int .i64 t] w fun e w'=>e= .returned (.int .i64 0)/\ ∃r v,RkStep cs p m.mem w r v (m.step L t) w':=by
 have hM:m.step L t=(m.setPc t (m.pc t+1)).exec L t x:=by unfold Mk.step;rw[hx]
 obtain⟨M',hM'⟩: ∃M',M'=(m.setPc t (m.pc t+1)).exec L t x:=⟨_,rfl⟩
 rw[hM, <-hM']
 rw[exec_xor (m.setPc t (m.pc t+1)) L t e] at hM'
 clear hM
 rw[ei] at hM'
 rw[ej] at hM'
 rw[ek] at hM'
 simp only[Int.toNat_natCast] at hM'
 try simp only[show ∀r,(m.setPc t (m.pc t+1)).regs t r=m.regs t r from fun _=>rfl] at hM'
 have HD:=hide (rdone_at ht hx D.at')
 obtain⟨xo,xa,xb,xc,xt⟩:=x
 dsimp only at e ei ej ek hM' ⊢
 subst e ei ej ek
 have HM':=hide hM'
 clear hM'
 obtain⟨htl,h6,hpl,hL2,hcap,hcc,ti,t6,pi,hpc2,hpw,hpw2,hr8,HIN,HX,H,d0,hT⟩:=pfx1 D ht hx
 have li:(i:Int)<8:=by omega
 have lj:(j:Int)<8:=by omega
 have lk:(k:Int)<8:=by omega
 clear D
 go_enter Tryz.func25,Tryz.ntmps25
 go_wp2_with fail
 refine HD.out.mono ?_
 rintro e w1 ⟨rfl,hb1⟩
 clear HD hT
 obtain⟨cb,off,H1,hT,hA,hR,had,c0,c1,c2,c3,c4,hC,lcb,lk,lt,lr,zt⟩:=pfx2 H HIN htl ht hx hb1
 dsimp only at c0 c1 c2 c3 c4
 obtain⟨W2,hW2⟩: ∃W2,W2=(w1.alloc (.cells #[.string ⟨#[120,111,114]⟩, .int .i64 i, .int .i64 j, .int .i64 k, .string xt] 75)).drew:=⟨_,rfl⟩
 obtain⟨b2,q0,q1,q2,q3,q4,lW2⟩:=box5d hW2
 clear HIN had
 go_wp2_with fail
 go_region
 rw[<-hW2]
 have P:=pfx3a H htl hb1 b2 lW2
 replace hC:=keep_cell b2 hC
 clear hT hA hR zt
 obtain⟨B2,H2,hT,hA,hR,zt,dk,dr1,dr2,G2,nk,nt,nr,lk2,lt2,lr2⟩:=P
 obtain⟨W3,hW3,S3,G3,HM3,HX3,y0,y1,y2,y3,y4,T3,R3,k3,lW3,G0⟩:=pfx3b HX htl (by omega) H2 G2 q0 q1 q2 q3 q4
 clear H2 c0 c1 c2 c3 c4 hb1 b2 B2 hW2 G2 S3 H1 lcb
 obtain⟨fi,fzi⟩:=G0.out i (by omega)
 have gi:W3.cell? ⟨p.rb t,i,none⟩=some (.int .i64 (m.regs t i)):=HM3.out.regs t i htl (by omega)
 obtain⟨fj,fzj⟩:=G0.out j (by omega)
 have gj:W3.cell? ⟨p.rb t,j,none⟩=some (.int .i64 (m.regs t j)):=HM3.out.regs t j htl (by omega)
 obtain⟨fk,fzk⟩:=G0.out k (by omega)
 have gk:W3.cell? ⟨p.rb t,k,none⟩=some (.int .i64 (m.regs t k)):=HM3.out.regs t k htl (by omega)
 clear G0
 have z3:W3.frozen? ⟨p.rb t,i,none⟩=false:=HM3.out.fr t i htl
 have HB:Hid (∀w',Calls Tryz.prog 55 #[.string ⟨#[120,111,114]⟩, .int .i64 (m.regs t j), .int .i64 (m.regs t k)] w' fun e w''=>e= .returned (.int .i64 (xorW (m.regs t j) (m.regs t k)))/\w''=w'):=fun w'=>rbits_xorW (HX3.out.ok.regs t j) (HX3.out.ok.regs t k) w'
 have HS:=hide (G3.out.trans ((HM3.out.setReg htl hi (xorW (m.regs t j) (m.regs t k))).below bRf.drew))
 clear G3 HM3 HX3
 generalize xorW (m.regs t j) (m.regs t k)=V at*
 generalize m.regs t i=Ri at*
 generalize m.regs t j=Rj at*
 generalize m.regs t k=Rk at*
 go_wp2_with fail
 rw[<-hW3]
 clear hT hA hR hC zt q0 q1 q2 q3 q4 lW2 lk2 lt2 lr2 hW3
 refine wp_region_F (S:=(fun w'=>w'.cell? ⟨w1.heap.size,0,none⟩=some (.string ⟨#[120,111,114]⟩)/\w'.cell? ⟨w1.heap.size,1,none⟩=some (.int .i64 i)/\w'.cell? ⟨w1.heap.size,2,none⟩=some (.int .i64 j)/\w'.cell? ⟨w1.heap.size,3,none⟩=some (.int .i64 k)/\w'.cell? ⟨p.rb t,i,none⟩=some (.int .i64 Ri)/\w'.cell? ⟨p.rb t,j,none⟩=some (.int .i64 Rj)/\w'.cell? ⟨p.rb t,k,none⟩=some (.int .i64 Rk))) (by kernel_rfl) (by(try dsimp only);go_keep) (fun hHeld=>?_)
 iterate 15
  refine' wpAnyF_next (sz:=18) (n:=17) (v:=_) rfl (by kernel_rfl) (fun _ _ _ h=>h) (by assumption) (Or.inl ⟨by rfl,?_⟩) ?_
  case' refine'_2=>(intro w' hSw;(try dsimp only at hSw);go_simp;try with_reducible rfl)
  try simp only[Act.put,fxs]
 refine wpAnyF_only (i:=15) rfl (by kernel_rfl) (fun K hK=>?_)
 go_simp
 go_at_call 55
 refine(HB.out _).mono ?_
 rintro e w4 ⟨rfl,rfl⟩
 dsimp only
 refine hK.out _ _ (Or.inr (by(try dsimp only);exact hHeld)) ?_
 clear hK K
 try simp only[Act.put,fxs]
 refine' wpAnyF_take (i:=16) (n:=17) (v:=_) rfl (by kernel_rfl) (fun _ _ _ h=>h) (by assumption) (Or.inl ⟨by rfl,?hy41⟩) ?rest41
 case' hy41=>(intro w' hSw;(try dsimp only at hSw);go_simp;try with_reducible rfl)
 try simp only[Act.put,fxs]
 clear hHeld
 refine wpAnyF_only (i:=17) rfl (by kernel_rfl) (fun K hK=>?_)
 go_simp
 refine hK.out _ _ (Or.inl (by kernel_rfl)) ?_
 clear hK K
 try simp only[Act.put,fxs]
 refine wpAnyF_done (by kernel_rfl) ?_ _
 go_wp2
 go_ret
 exact⟨rfl,_,_,by rw[HM'.out];exact HS.out.step⟩
end
section
open Go.RowKit Go.Extern.Stop Go.Stop Go.Extern Go.Sort
variable {cs:List (List Ins)} {L:List Ins} {K t:Nat} {w:World} {p:RkPl} {x:Ins} {m:Mk} {i:Nat}
theorem rstep_add(D:RkX cs p m K w)(ht:cs[t]? =some L)(hx:L[m.pc t]? =some x)(e:x.op=⟨#[97,100,100]⟩)(hi:i<8)(ei:x.a=i){j:Nat}(hj:j<8)(ej:x.b=j){k:Nat}(hk:k<8)(ek:x.c=k):
  Calls Tryz.prog 25 #[.pointer (some ⟨p.k,0,none⟩), .int .i64 t] w fun e w'=>e= .returned (.int .i64 0)/\ ∃r v,RkStep cs p m.mem w r v (m.step L t) w':=by
 have hM:m.step L t=(m.setPc t (m.pc t+1)).exec L t x:=by unfold Mk.step;rw[hx]
 obtain⟨M',hM'⟩: ∃M',M'=(m.setPc t (m.pc t+1)).exec L t x:=⟨_,rfl⟩
 rw[hM, <-hM']
 rw[exec_add (m.setPc t (m.pc t+1)) L t e] at hM'
 clear hM
 rw[ei] at hM'
 rw[ej] at hM'
 rw[ek] at hM'
 simp only[Int.toNat_natCast] at hM'
 simp only[show ∀r,(m.setPc t (m.pc t+1)).regs t r=m.regs t r from fun _=>rfl] at hM'
 have HD:=hide (rdone_at ht hx D.at')
 obtain⟨xo,xa,xb,xc,xt⟩:=x
 dsimp only at e ei ej ek hM' ⊢
 subst e ei ej ek
 have HM':=hide hM'
 clear hM'
 obtain⟨htl,h6,hpl,hL2,hcap,hcc,ti,t6,pi,hpc2,hpw,hpw2,hr8,HIN,HX,H,d0,hT⟩:=pfx1 D ht hx
 have li:(i:Int)<8:=by omega
 have lj:(j:Int)<8:=by omega
 have lk:(k:Int)<8:=by omega
 clear D
 go_enter Tryz.func25,Tryz.ntmps25
 go_wp2_with fail
 refine HD.out.mono ?_
 rintro e w1 ⟨rfl,hb1⟩
 clear HD hT
 obtain⟨cb,off,H1,hT,hA,hR,had,c0,c1,c2,c3,c4,hC,lcb,lk,lt,lr,zt⟩:=pfx2 H HIN htl ht hx hb1
 dsimp only at c0 c1 c2 c3 c4
 obtain⟨W2,hW2⟩: ∃W2,W2=(w1.alloc (.cells #[.string ⟨#[97,100,100]⟩, .int .i64 i, .int .i64 j, .int .i64 k, .string xt] 75)).drew:=⟨_,rfl⟩
 obtain⟨b2,q0,q1,q2,q3,q4,lW2⟩:=box5d hW2
 clear HIN had
 go_wp2_with fail
 go_region
 rw[<-hW2]
 have P:=pfx3a H htl hb1 b2 lW2
 replace hC:=keep_cell b2 hC
 clear hT hA hR zt
 obtain⟨B2,H2,hT,hA,hR,zt,dk,dr1,dr2,G2,nk,nt,nr,lk2,lt2,lr2⟩:=P
 obtain⟨W3,hW3,S3,G3,HM3,HX3,y0,y1,y2,y3,y4,T3,R3,k3,lW3,G0⟩:=pfx3b HX htl (by omega) H2 G2 q0 q1 q2 q3 q4
 clear H2 c0 c1 c2 c3 c4 hb1 b2 B2 hW2 G2 S3 H1 lcb
 obtain⟨fi,fzi⟩:=G0.out i (by omega)
 have gi:W3.cell? ⟨p.rb t,i,none⟩=some (.int .i64 (m.regs t i)):=HM3.out.regs t i htl (by omega)
 obtain⟨fj,fzj⟩:=G0.out j (by omega)
 have gj:W3.cell? ⟨p.rb t,j,none⟩=some (.int .i64 (m.regs t j)):=HM3.out.regs t j htl (by omega)
 obtain⟨fk,fzk⟩:=G0.out k (by omega)
 have gk:W3.cell? ⟨p.rb t,k,none⟩=some (.int .i64 (m.regs t k)):=HM3.out.regs t k htl (by omega)
 clear G0
 have z3:W3.frozen? ⟨p.rb t,i,none⟩=false:=HM3.out.fr t i htl
 obtain⟨j1,j2⟩:=HX3.out.ok.regs t j
 obtain⟨k1,k2⟩:=HX3.out.ok.regs t k
 have HS:Hid (∀n,Stg cs p m.mem w w1.heap.size p.rp p.mv ((m.setPc t (m.pc t+1)).setReg t i ((m.regs t j+m.regs t k) % 4294967296)) ((W3.drewN n).setCell ⟨p.rb t,i,none⟩ (.int .i64 ((m.regs t j+m.regs t k) % 4294967296)))):=fun n=>(G3.out.below (Below.drewN' n)).trans ((HM3.out.drewN n).setReg htl hi ((m.regs t j+m.regs t k) % 4294967296))
 rw[show(m.setPc t (m.pc t+1)).regs t j=m.regs t j from rfl] at j1 j2
 rw[show(m.setPc t (m.pc t+1)).regs t k=m.regs t k from rfl] at k1 k2
 clear G3 HM3 HX3
 have hw5:wrap64 (m.regs t j+m.regs t k)=m.regs t j+m.regs t k:=by unfold wrap64;omega
 have hw6:IntKind.i64.wrap (m.regs t j+m.regs t k)=m.regs t j+m.regs t k:=by rw[IntKind.wrap_i64];omega
 obtain⟨V,hV⟩: ∃V,V=m.regs t j+m.regs t k:=⟨_,rfl⟩
 have v1: -4294967296<V:=by omega
 have hV0:0<=V:=by omega
 have v2:V<8589934592:=by omega
 rw[<-hV] at hw5 hw6 HS
 have HM2:=HM'.out
 rw[<-hV] at HM2
 replace HM':=hide HM2
 clear HM2
 have HV:=hide hV
 clear j1 j2 k1 k2 hV
 generalize m.regs t i=Ri at*
 generalize m.regs t j=Rj at*
 generalize m.regs t k=Rk at*
 go_wp2_with fail
 rw[<-hW3]
 clear hT hA hR hC zt q0 q1 q2 q3 q4 lW2 lk2 lt2 lr2 hW3
 go_quiet (fail)
 rw[<-HV.out]
 replace y0:(W3.drewN nq).cell? ⟨w1.heap.size,0,none⟩=some (.string ⟨#[97,100,100]⟩):=y0
 replace y1:(W3.drewN nq).cell? ⟨w1.heap.size,1,none⟩=some (.int .i64 i):=y1
 replace gi:(W3.drewN nq).cell? ⟨p.rb t,i,none⟩=some (.int .i64 Ri):=gi
 replace z3:(W3.drewN nq).frozen? ⟨p.rb t,i,none⟩=false:=z3
 have HS2:=hide (HS.out nq)
 clear HS HV T3 R3 k3 y2 y3 y4 gj gk
 generalize W3.drewN nq=W4 at*
 by_cases hb:4294967296<=V
 ·have HE:Hid (V % 4294967296=V - 4294967296):=by show _=_;omega
  have hw7:wrap64 (V - 4294967296)=V - 4294967296:=by unfold wrap64;omega
  rw[HE.out] at HS2
  have HM2:=HM'.out
  rw[HE.out] at HM2
  replace HM':=hide HM2
  clear HE HM2
  go_wp2
  go_ret
  exact⟨rfl,_,_,by rw[HM'.out];exact HS2.out.step⟩
 ·have HE:Hid (V % 4294967296=V):=by show _=_;omega
  rw[HE.out] at HS2
  have HM2:=HM'.out
  rw[HE.out] at HM2
  replace HM':=hide HM2
  clear HE HM2
  go_wp2
  go_ret
  exact⟨rfl,_,_,by rw[HM'.out];exact HS2.out.step⟩
theorem rstep_sub(D:RkX cs p m K w)(ht:cs[t]? =some L)(hx:L[m.pc t]? =some x)(e:x.op=⟨#[115,117,98]⟩)(hi:i<8)(ei:x.a=i){j:Nat}(hj:j<8)(ej:x.b=j){k:Nat}(hk:k<8)(ek:x.c=k):
  Calls Tryz.prog 25 #[.pointer (some ⟨p.k,0,none⟩), .int .i64 t] w fun e w'=>e= .returned (.int .i64 0)/\ ∃r v,RkStep cs p m.mem w r v (m.step L t) w':=by
 have hM:m.step L t=(m.setPc t (m.pc t+1)).exec L t x:=by unfold Mk.step;rw[hx]
 obtain⟨M',hM'⟩: ∃M',M'=(m.setPc t (m.pc t+1)).exec L t x:=⟨_,rfl⟩
 rw[hM, <-hM']
 rw[exec_sub (m.setPc t (m.pc t+1)) L t e] at hM'
 clear hM
 rw[ei] at hM'
 rw[ej] at hM'
 rw[ek] at hM'
 simp only[Int.toNat_natCast] at hM'
 simp only[show ∀r,(m.setPc t (m.pc t+1)).regs t r=m.regs t r from fun _=>rfl] at hM'
 have HD:=hide (rdone_at ht hx D.at')
 obtain⟨xo,xa,xb,xc,xt⟩:=x
 dsimp only at e ei ej ek hM' ⊢
 subst e ei ej ek
 have HM':=hide hM'
 clear hM'
 obtain⟨htl,h6,hpl,hL2,hcap,hcc,ti,t6,pi,hpc2,hpw,hpw2,hr8,HIN,HX,H,d0,hT⟩:=pfx1 D ht hx
 have li:(i:Int)<8:=by omega
 have lj:(j:Int)<8:=by omega
 have lk:(k:Int)<8:=by omega
 clear D
 go_enter Tryz.func25,Tryz.ntmps25
 go_wp2_with fail
 refine HD.out.mono ?_
 rintro e w1 ⟨rfl,hb1⟩
 clear HD hT
 obtain⟨cb,off,H1,hT,hA,hR,had,c0,c1,c2,c3,c4,hC,lcb,lk,lt,lr,zt⟩:=pfx2 H HIN htl ht hx hb1
 dsimp only at c0 c1 c2 c3 c4
 obtain⟨W2,hW2⟩: ∃W2,W2=(w1.alloc (.cells #[.string ⟨#[115,117,98]⟩, .int .i64 i, .int .i64 j, .int .i64 k, .string xt] 75)).drew:=⟨_,rfl⟩
 obtain⟨b2,q0,q1,q2,q3,q4,lW2⟩:=box5d hW2
 clear HIN had
 go_wp2_with fail
 go_region
 rw[<-hW2]
 have P:=pfx3a H htl hb1 b2 lW2
 replace hC:=keep_cell b2 hC
 clear hT hA hR zt
 obtain⟨B2,H2,hT,hA,hR,zt,dk,dr1,dr2,G2,nk,nt,nr,lk2,lt2,lr2⟩:=P
 obtain⟨W3,hW3,S3,G3,HM3,HX3,y0,y1,y2,y3,y4,T3,R3,k3,lW3,G0⟩:=pfx3b HX htl (by omega) H2 G2 q0 q1 q2 q3 q4
 clear H2 c0 c1 c2 c3 c4 hb1 b2 B2 hW2 G2 S3 H1 lcb
 obtain⟨fi,fzi⟩:=G0.out i (by omega)
 have gi:W3.cell? ⟨p.rb t,i,none⟩=some (.int .i64 (m.regs t i)):=HM3.out.regs t i htl (by omega)
 obtain⟨fj,fzj⟩:=G0.out j (by omega)
 have gj:W3.cell? ⟨p.rb t,j,none⟩=some (.int .i64 (m.regs t j)):=HM3.out.regs t j htl (by omega)
 obtain⟨fk,fzk⟩:=G0.out k (by omega)
 have gk:W3.cell? ⟨p.rb t,k,none⟩=some (.int .i64 (m.regs t k)):=HM3.out.regs t k htl (by omega)
 clear G0
 have z3:W3.frozen? ⟨p.rb t,i,none⟩=false:=HM3.out.fr t i htl
 obtain⟨j1,j2⟩:=HX3.out.ok.regs t j
 obtain⟨k1,k2⟩:=HX3.out.ok.regs t k
 have HS:Hid (∀n,Stg cs p m.mem w w1.heap.size p.rp p.mv ((m.setPc t (m.pc t+1)).setReg t i ((m.regs t j - m.regs t k) % 4294967296)) ((W3.drewN n).setCell ⟨p.rb t,i,none⟩ (.int .i64 ((m.regs t j - m.regs t k) % 4294967296)))):=fun n=>(G3.out.below (Below.drewN' n)).trans ((HM3.out.drewN n).setReg htl hi ((m.regs t j - m.regs t k) % 4294967296))
 rw[show(m.setPc t (m.pc t+1)).regs t j=m.regs t j from rfl] at j1 j2
 rw[show(m.setPc t (m.pc t+1)).regs t k=m.regs t k from rfl] at k1 k2
 clear G3 HM3 HX3
 have hw5:wrap64 (m.regs t j - m.regs t k)=m.regs t j - m.regs t k:=by unfold wrap64;omega
 have hw6:IntKind.i64.wrap (m.regs t j - m.regs t k)=m.regs t j - m.regs t k:=by rw[IntKind.wrap_i64];omega
 obtain⟨V,hV⟩: ∃V,V=m.regs t j - m.regs t k:=⟨_,rfl⟩
 have v1: -4294967296<V:=by omega
 have v2:V<4294967296:=by omega
 rw[<-hV] at hw5 hw6 HS
 have HM2:=HM'.out
 rw[<-hV] at HM2
 replace HM':=hide HM2
 clear HM2
 have HV:=hide hV
 clear j1 j2 k1 k2 hV
 generalize m.regs t i=Ri at*
 generalize m.regs t j=Rj at*
 generalize m.regs t k=Rk at*
 go_wp2_with fail
 rw[<-hW3]
 clear hT hA hR hC zt q0 q1 q2 q3 q4 lW2 lk2 lt2 lr2 hW3
 go_quiet (fail)
 rw[<-HV.out]
 replace y0:(W3.drewN nq).cell? ⟨w1.heap.size,0,none⟩=some (.string ⟨#[115,117,98]⟩):=y0
 replace y1:(W3.drewN nq).cell? ⟨w1.heap.size,1,none⟩=some (.int .i64 i):=y1
 replace gi:(W3.drewN nq).cell? ⟨p.rb t,i,none⟩=some (.int .i64 Ri):=gi
 replace z3:(W3.drewN nq).frozen? ⟨p.rb t,i,none⟩=false:=z3
 have HS2:=hide (HS.out nq)
 clear HS HV T3 R3 k3 y2 y3 y4 gj gk
 generalize W3.drewN nq=W4 at*
 by_cases hb:V<0
 ·have HE:Hid (V % 4294967296=V+4294967296):=by show _=_;omega
  have hw7:wrap64 (V+4294967296)=V+4294967296:=by unfold wrap64;omega
  rw[HE.out] at HS2
  have HM2:=HM'.out
  rw[HE.out] at HM2
  replace HM':=hide HM2
  clear HE HM2
  go_wp2
  go_ret
  exact⟨rfl,_,_,by rw[HM'.out];exact HS2.out.step⟩
 ·have HE:Hid (V % 4294967296=V):=by show _=_;omega
  rw[HE.out] at HS2
  have HM2:=HM'.out
  rw[HE.out] at HM2
  replace HM':=hide HM2
  clear HE HM2
  go_wp2
  go_ret
  exact⟨rfl,_,_,by rw[HM'.out];exact HS2.out.step⟩
theorem rstep_need(D:RkX cs p m K w)(ht:cs[t]? =some L)(hx:L[m.pc t]? =some x)(e:x.op=⟨#[110,101,101,100]⟩)(hi:i<8)(ei:x.a=i):
  Calls Tryz.prog 25 #[.pointer (some ⟨p.k,0,none⟩), .int .i64 t] w fun e w'=>e= .returned (.int .i64 0)/\ ∃r v,RkStep cs p m.mem w r v (m.step L t) w':=by
 have hM:m.step L t=(m.setPc t (m.pc t+1)).exec L t x:=by unfold Mk.step;rw[hx]
 obtain⟨M',hM'⟩: ∃M',M'=(m.setPc t (m.pc t+1)).exec L t x:=⟨_,rfl⟩
 rw[hM, <-hM']
 rw[exec_need (m.setPc t (m.pc t+1)) L t e] at hM'
 clear hM
 rw[ei] at hM'
 simp only[Int.toNat_natCast] at hM'
 simp only[show ∀r,(m.setPc t (m.pc t+1)).regs t r=m.regs t r from fun _=>rfl] at hM'
 have HD:=hide (rdone_at ht hx D.at')
 obtain⟨xo,xa,xb,xc,xt⟩:=x
 dsimp only at e ei hM' ⊢
 subst e ei
 have HM':=hide hM'
 clear hM'
 obtain⟨htl,h6,hpl,hL2,hcap,hcc,ti,t6,pi,hpc2,hpw,hpw2,hr8,HIN,HX,H,d0,hT⟩:=pfx1 D ht hx
 have li:(i:Int)<8:=by omega
 clear D
 go_enter Tryz.func25,Tryz.ntmps25
 go_wp2_with fail
 refine HD.out.mono ?_
 rintro e w1 ⟨rfl,hb1⟩
 clear HD hT
 obtain⟨cb,off,H1,hT,hA,hR,had,c0,c1,c2,c3,c4,hC,lcb,lk,lt,lr,zt⟩:=pfx2 H HIN htl ht hx hb1
 dsimp only at c0 c1 c2 c3 c4
 obtain⟨W2,hW2⟩: ∃W2,W2=(w1.alloc (.cells #[.string ⟨#[110,101,101,100]⟩, .int .i64 i, .int .i64 xb, .int .i64 xc, .string xt] 75)).drew:=⟨_,rfl⟩
 obtain⟨b2,q0,q1,q2,q3,q4,lW2⟩:=box5d hW2
 clear HIN had
 go_wp2_with fail
 go_region
 rw[<-hW2]
 have P:=pfx3a H htl hb1 b2 lW2
 replace hC:=keep_cell b2 hC
 clear hT hA hR zt
 obtain⟨B2,H2,hT,hA,hR,zt,dk,dr1,dr2,G2,nk,nt,nr,lk2,lt2,lr2⟩:=P
 obtain⟨W3,hW3,S3,G3,HM3,HX3,y0,y1,y2,y3,y4,T3,R3,k3,lW3,G0⟩:=pfx3b HX htl (by omega) H2 G2 q0 q1 q2 q3 q4
 have HF2:Hid (W2.cell? ⟨p.k,3,none⟩=some (.int .i64 m.faults)/\W2.frozen? ⟨p.k,3,none⟩=false):=hide ⟨H2.out.mFaults,H2.out.fk 3⟩
 clear H2 c0 c1 c2 c3 c4 hb1 b2 B2 hW2 G2 S3 H1 lcb
 obtain⟨fi,fzi⟩:=G0.out i (by omega)
 have gi:W3.cell? ⟨p.rb t,i,none⟩=some (.int .i64 (m.regs t i)):=HM3.out.regs t i htl (by omega)
 clear G0
 have hF:W2.cell? ⟨p.k,3,none⟩=some (.int .i64 m.faults):=HF2.out.1
 have hZ:W2.frozen? ⟨p.k,3,none⟩=false:=HF2.out.2
 clear HF2
 have hf:=HX3.out.faults
 rw[show(m.setPc t (m.pc t+1)).faults=m.faults from rfl] at hf
 by_cases h0:m.regs t i=0
 ·have HS:=hide (G3.out.trans (HM3.out.addFault 1))
  rw[show(m.setPc t (m.pc t+1)).faults=m.faults from rfl,hW3,show((m.faults+1:Nat):Int)=(m.faults:Int)+1 from rfl] at HS
  have HQ:Hid ((m.setPc t (m.pc t+1)).need (m.regs t i)=(m.setPc t (m.pc t+1)).addFault 1):=by show _=_;unfold Mk.need;rw[if_pos h0]
  have HM2:=HM'.out
  rw[HQ.out] at HM2
  replace HM':=hide HM2
  clear HM2
  rw[h0] at fi
  clear G3 HM3 HX3 HQ h0 gi
  generalize m.faults=N at*
  go_wp2
  go_ret
  exact⟨rfl,_,_,by rw[HM'.out];exact HS.out.step⟩
 ·have HS:=hide G3.out.step
  rw[hW3] at HS
  have HQ:Hid ((m.setPc t (m.pc t+1)).need (m.regs t i)=m.setPc t (m.pc t+1)):=by show _=_;unfold Mk.need;rw[if_neg h0]
  have HM2:=HM'.out
  rw[HQ.out] at HM2
  replace HM':=hide HM2
  clear HM2
  clear G3 HM3 HX3 HQ
  generalize m.regs t i=Ri at*
  go_wp2
  go_ret
  exact⟨rfl,_,_,by rw[HM'.out];exact HS.out⟩
theorem rstep_label(D:RkX cs p m K w)(ht:cs[t]? =some L)(hx:L[m.pc t]? =some x)(e:x.op=⟨#[108,97,98,101,108]⟩):
  Calls Tryz.prog 25 #[.pointer (some ⟨p.k,0,none⟩), .int .i64 t] w fun e w'=>e= .returned (.int .i64 0)/\ ∃r v,RkStep cs p m.mem w r v (m.step L t) w':=by
 have hM:m.step L t=(m.setPc t (m.pc t+1)).exec L t x:=by unfold Mk.step;rw[hx]
 obtain⟨M',hM'⟩: ∃M',M'=(m.setPc t (m.pc t+1)).exec L t x:=⟨_,rfl⟩
 rw[hM, <-hM']
 rw[exec_label (m.setPc t (m.pc t+1)) L t e] at hM'
 clear hM
 have HD:=hide (rdone_at ht hx D.at')
 obtain⟨xo,xa,xb,xc,xt⟩:=x
 dsimp only at e hM' ⊢
 subst e
 have HM':=hide hM'
 clear hM'
 obtain⟨htl,h6,hpl,hL2,hcap,hcc,ti,t6,pi,hpc2,hpw,hpw2,hr8,HIN,HX,H,d0,hT⟩:=pfx1 D ht hx
 clear D
 go_enter Tryz.func25,Tryz.ntmps25
 go_wp2_with fail
 refine HD.out.mono ?_
 rintro e w1 ⟨rfl,hb1⟩
 clear HD hT
 obtain⟨cb,off,H1,hT,hA,hR,had,c0,c1,c2,c3,c4,hC,lcb,lk,lt,lr,zt⟩:=pfx2 H HIN htl ht hx hb1
 dsimp only at c0 c1 c2 c3 c4
 obtain⟨W2,hW2⟩: ∃W2,W2=(w1.alloc (.cells #[.string ⟨#[108,97,98,101,108]⟩, .int .i64 xa, .int .i64 xb, .int .i64 xc, .string xt] 75)).drew:=⟨_,rfl⟩
 obtain⟨b2,q0,q1,q2,q3,q4,lW2⟩:=box5d hW2
 clear HIN had
 go_wp2_with fail
 go_region
 rw[<-hW2]
 have P:=pfx3a H htl hb1 b2 lW2
 replace hC:=keep_cell b2 hC
 clear hT hA hR zt
 obtain⟨B2,H2,hT,hA,hR,zt,dk,dr1,dr2,G2,nk,nt,nr,lk2,lt2,lr2⟩:=P
 obtain⟨W3,hW3,S3,G3,HM3,HX3,y0,y1,y2,y3,y4,T3,R3,k3,lW3,G0⟩:=pfx3b HX htl (by omega) H2 G2 q0 q1 q2 q3 q4
 clear H2 c0 c1 c2 c3 c4 hb1 b2 B2 hW2 G2 S3 H1 lcb
 clear G0
 have HS:=hide G3.out.step
 rw[hW3] at HS
 clear G3 HM3 HX3
 go_wp2
 go_ret
 exact⟨rfl,_,_,by rw[HM'.out];exact HS.out⟩
theorem rstep_fence(D:RkX cs p m K w)(ht:cs[t]? =some L)(hx:L[m.pc t]? =some x)(e:x.op=⟨#[102,101,110,99,101]⟩):
  Calls Tryz.prog 25 #[.pointer (some ⟨p.k,0,none⟩), .int .i64 t] w fun e w'=>e= .returned (.int .i64 0)/\ ∃r v,RkStep cs p m.mem w r v (m.step L t) w':=by
 have hM:m.step L t=(m.setPc t (m.pc t+1)).exec L t x:=by unfold Mk.step;rw[hx]
 obtain⟨M',hM'⟩: ∃M',M'=(m.setPc t (m.pc t+1)).exec L t x:=⟨_,rfl⟩
 rw[hM, <-hM']
 rw[exec_fence (m.setPc t (m.pc t+1)) L t e] at hM'
 clear hM
 have HD:=hide (rdone_at ht hx D.at')
 obtain⟨xo,xa,xb,xc,xt⟩:=x
 dsimp only at e hM' ⊢
 subst e
 have HM':=hide hM'
 clear hM'
 obtain⟨htl,h6,hpl,hL2,hcap,hcc,ti,t6,pi,hpc2,hpw,hpw2,hr8,HIN,HX,H,d0,hT⟩:=pfx1 D ht hx
 clear D
 go_enter Tryz.func25,Tryz.ntmps25
 go_wp2_with fail
 refine HD.out.mono ?_
 rintro e w1 ⟨rfl,hb1⟩
 clear HD hT
 obtain⟨cb,off,H1,hT,hA,hR,had,c0,c1,c2,c3,c4,hC,lcb,lk,lt,lr,zt⟩:=pfx2 H HIN htl ht hx hb1
 dsimp only at c0 c1 c2 c3 c4
 obtain⟨W2,hW2⟩: ∃W2,W2=(w1.alloc (.cells #[.string ⟨#[102,101,110,99,101]⟩, .int .i64 xa, .int .i64 xb, .int .i64 xc, .string xt] 75)).drew:=⟨_,rfl⟩
 obtain⟨b2,q0,q1,q2,q3,q4,lW2⟩:=box5d hW2
 clear HIN had
 go_wp2_with fail
 go_region
 rw[<-hW2]
 have P:=pfx3a H htl hb1 b2 lW2
 replace hC:=keep_cell b2 hC
 clear hT hA hR zt
 obtain⟨B2,H2,hT,hA,hR,zt,dk,dr1,dr2,G2,nk,nt,nr,lk2,lt2,lr2⟩:=P
 obtain⟨W3,hW3,S3,G3,HM3,HX3,y0,y1,y2,y3,y4,T3,R3,k3,lW3,G0⟩:=pfx3b HX htl (by omega) H2 G2 q0 q1 q2 q3 q4
 clear H2 c0 c1 c2 c3 c4 hb1 b2 B2 hW2 G2 S3 H1 lcb
 clear G0
 have HF:=hide (rkfence_any htl HM3.out (HX3.out.waits htl) (HX3.out.few htl) (by have:=HX3.out.faults;omega))
 clear HM3 HX3
 go_wp2_with fail
 rw[<-hW3]
 clear hT hA hR hC zt q0 q1 q2 q3 q4 lW2 lk2 lt2 lr2 hW3
 refine HF.out.mono ?_
 rintro e w4 ⟨rfl,r,hk⟩
 have HS:=hide (G3.out.step.trans hk)
 clear HF hk G3 y0 y1 y2 y3 y4 T3 R3 k3
 go_wp2
 go_ret
 exact⟨rfl,_,_,by rw[HM'.out];exact HS.out⟩
end
section
open Go.RowKit Go.Extern.Stop Go.Stop Go.Extern Go.Sort
variable {cs:List (List Ins)} {L:List Ins} {K t:Nat} {w:World} {L':Nat} {p:RkPl} {x:Ins} {m:Mk}
theorem rstep_goto(D:RkX cs p m K w)(ht:cs[t]? =some L)(hx:L[m.pc t]? =some x)(e:x.op=⟨#[103,111,116,111]⟩)(hl:labelAt L x.to=L'):
  Calls Tryz.prog 25 #[.pointer (some ⟨p.k,0,none⟩), .int .i64 t] w fun e w'=>e= .returned (.int .i64 0)/\ ∃r v,RkStep cs p m.mem w r v (m.step L t) w':=by
 have hM:m.step L t=(m.setPc t (m.pc t+1)).exec L t x:=by unfold Mk.step;rw[hx]
 obtain⟨M',hM'⟩: ∃M',M'=(m.setPc t (m.pc t+1)).exec L t x:=⟨_,rfl⟩
 rw[hM, <-hM']
 rw[exec_goto (m.setPc t (m.pc t+1)) L t e] at hM'
 clear hM
 have HD:=hide (rdone_at ht hx D.at')
 obtain⟨xo,xa,xb,xc,xt⟩:=x
 dsimp only at e hl hM' ⊢
 subst e
 have HM':=hide hM'
 clear hM'
 have HLL:=hide hl
 clear hl
 obtain⟨htl,h6,hpl,hL2,hcap,hcc,ti,t6,pi,hpc2,hpw,hpw2,hr8,HIN,HX,H,d0,hT⟩:=pfx1 D ht hx
 clear D
 go_enter Tryz.func25,Tryz.ntmps25
 go_wp2_with fail
 refine HD.out.mono ?_
 rintro e w1 ⟨rfl,hb1⟩
 clear HD hT
 obtain⟨cb,off,H1,hT,hA,hR,had,c0,c1,c2,c3,c4,hC,lcb,lk,lt,lr,zt⟩:=pfx2 H HIN htl ht hx hb1
 dsimp only at c0 c1 c2 c3 c4
 obtain⟨W2,hW2⟩: ∃W2,W2=(w1.alloc (.cells #[.string ⟨#[103,111,116,111]⟩, .int .i64 xa, .int .i64 xb, .int .i64 xc, .string xt] 75)).drew:=⟨_,rfl⟩
 obtain⟨b2,q0,q1,q2,q3,q4,lW2⟩:=box5d hW2
 clear HIN had
 go_wp2_with fail
 go_region
 rw[<-hW2]
 have P:=pfx3a H htl hb1 b2 lW2
 replace hC:=keep_cell b2 hC
 clear hT hA hR zt
 obtain⟨B2,H2,hT,hA,hR,zt,dk,dr1,dr2,G2,nk,nt,nr,lk2,lt2,lr2⟩:=P
 obtain⟨W3,hW3,S3,G3,HM3,HX3,y0,y1,y2,y3,y4,T3,R3,k3,lW3,G0⟩:=pfx3b HX htl (by omega) H2 G2 q0 q1 q2 q3 q4
 clear H2 c0 c1 c2 c3 c4 hb1 b2 B2 hW2 G2 S3 H1 lcb
 clear G0
 have hl:=HLL.out
 have HLB:Hid (∀w',Below W3.heap.size W3 w'->Calls Tryz.prog 62 #[.slice (p.ad t) L.length (p.cc t), .string xt] w' fun e w''=>e= .returned (.int .i64 L')/\w''=w'):=fun w' hb=>by rw[<-hl];exact labelAt_any (p.ad t) (p.cc t) L xt w' (by omega) (insAt_below (HM3.out.rc.code ht) hb)
 have C3:W3.cell? ⟨p.tb,t*3,none⟩=some (.slice (p.ad t) L.length (p.cc t)):=HM3.out.tCode t L ht
 have P3:W3.cell? ⟨p.tb,t*3+2,none⟩=some (.int .i64 ((m.pc t:Int)+1)):=(HM3.out.tAt t htl).trans (by simp[Mk.setPc])
 have z3:W3.frozen? ⟨p.tb,t*3+2,none⟩=false:=HM3.out.ft _
 have HJ:Hid ((m.setPc t (m.pc t+1)).jump t L xt=(m.setPc t (m.pc t+1)).setPc t L'):=by show _=_;unfold Mk.jump;rw[hl,Int.toNat_natCast]
 clear hl
 have HS:=hide (G3.out.trans ((HM3.out.setPc htl L').below bRf.drew))
 have HM2:=HM'.out
 rw[HJ.out] at HM2
 replace HM':=hide HM2
 clear HM2
 clear G3 HM3 HX3 HJ
 go_wp2_with fail
 rw[<-hW3]
 clear hT hA hR hC zt q0 q1 q2 q3 q4 lW2 lk2 lt2 lr2 hW3
 refine wp_region_F (S:=(fun w'=>w'.cell? ⟨p.k,1,none⟩=some (.slice (some ⟨p.tb,0,none⟩) cs.length p.tcap)/\w'.cell? ⟨p.tb,t*3,none⟩=some (.slice (p.ad t) L.length (p.cc t))/\w'.cell? ⟨w1.heap.size,4,none⟩=some (.string xt)/\w'.cell? ⟨p.tb,t*3+2,none⟩=some (.int .i64 ((m.pc t:Int)+1)))) (by kernel_rfl) (by(try dsimp only);go_keep) (fun hHeld=>?_)
 iterate 15
  refine' wpAnyF_next (sz:=19) (n:=18) (v:=_) rfl (by kernel_rfl) (fun _ _ _ h=>h) (by assumption) (Or.inl ⟨by rfl,?_⟩) ?_
  case' refine'_2=>(intro w' hSw;(try dsimp only at hSw);go_simp;try with_reducible rfl)
  try simp only[Act.put,fxs]
 refine wpAnyF_only (i:=15) rfl (by kernel_rfl) (fun K hK=>?_)
 go_simp
 go_at_call 62
 refine(HLB.out _ (Below.drewN' 1)).mono ?_
 rintro e w4 ⟨rfl,rfl⟩
 dsimp only
 refine hK.out _ _ (Or.inr (by(try dsimp only);exact hHeld)) ?_
 clear hK K
 try simp only[Act.put,fxs]
 refine' wpAnyF_take (i:=16) (n:=18) (v:=_) rfl (by kernel_rfl) (fun _ _ _ h=>h) (by assumption) (Or.inl ⟨by rfl,?hy57⟩) ?rest57
 case' hy57=>(intro w' hSw;(try dsimp only at hSw);go_simp;try with_reducible rfl)
 try simp only[Act.put,fxs]
 refine' wpAnyF_take (i:=17) (n:=18) (v:=_) rfl (by kernel_rfl) (fun _ _ _ h=>h) (by assumption) (Or.inl ⟨by rfl,?hy58⟩) ?rest58
 case' hy58=>(intro w' hSw;(try dsimp only at hSw);go_simp;try with_reducible rfl)
 try simp only[Act.put,fxs]
 clear hHeld
 refine wpAnyF_only (i:=18) rfl (by kernel_rfl) (fun K hK=>?_)
 go_simp
 refine hK.out _ _ (Or.inl (by kernel_rfl)) ?_
 clear hK K
 try simp only[Act.put,fxs]
 refine wpAnyF_done (by kernel_rfl) ?_ _
 go_wp2
 go_ret
 exact⟨rfl,_,_,by rw[HM'.out];exact HS.out.step⟩
theorem rstep_zero (D:RkX cs p m K w) (ht:cs[t]? =some L) (hx:L[m.pc t]? =some x) (e:x.op=⟨#[122,101,114,111]⟩) {i:Nat} (hi:i<8) (ei:x.a=i) (hl:labelAt L x.to=L'):
  Calls Tryz.prog 25 #[.pointer (some ⟨p.k,0,none⟩), .int .i64 t] w fun e w'=>e= .returned (.int .i64 0)/\ ∃r v,RkStep cs p m.mem w r v (m.step L t) w':=by
 have hM:m.step L t=(m.setPc t (m.pc t+1)).exec L t x:=by unfold Mk.step;rw[hx]
 obtain⟨M',hM'⟩: ∃M',M'=(m.setPc t (m.pc t+1)).exec L t x:=⟨_,rfl⟩
 rw[hM, <-hM']
 rw[exec_zero (m.setPc t (m.pc t+1)) L t e] at hM'
 clear hM
 rw[ei] at hM'
 simp only[Int.toNat_natCast] at hM'
 simp only[show ∀r,(m.setPc t (m.pc t+1)).regs t r=m.regs t r from fun _=>rfl] at hM'
 have HD:=hide (rdone_at ht hx D.at')
 obtain⟨xo,xa,xb,xc,xt⟩:=x
 dsimp only at e ei hl hM' ⊢
 subst e ei
 have HM':=hide hM'
 clear hM'
 have HLL:=hide hl
 clear hl
 obtain⟨htl,h6,hpl,hL2,hcap,hcc,ti,t6,pi,hpc2,hpw,hpw2,hr8,HIN,HX,H,d0,hT⟩:=pfx1 D ht hx
 have li:(i:Int)<8:=by omega
 clear D
 go_enter Tryz.func25,Tryz.ntmps25
 go_wp2_with fail
 refine HD.out.mono ?_
 rintro e w1 ⟨rfl,hb1⟩
 clear HD hT
 obtain⟨cb,off,H1,hT,hA,hR,had,c0,c1,c2,c3,c4,hC,lcb,lk,lt,lr,zt⟩:=pfx2 H HIN htl ht hx hb1
 dsimp only at c0 c1 c2 c3 c4
 obtain⟨W2,hW2⟩: ∃W2,W2=(w1.alloc (.cells #[.string ⟨#[122,101,114,111]⟩, .int .i64 i, .int .i64 xb, .int .i64 xc, .string xt] 75)).drew:=⟨_,rfl⟩
 obtain⟨b2,q0,q1,q2,q3,q4,lW2⟩:=box5d hW2
 clear HIN had
 go_wp2_with fail
 go_region
 rw[<-hW2]
 have P:=pfx3a H htl hb1 b2 lW2
 replace hC:=keep_cell b2 hC
 clear hT hA hR zt
 obtain⟨B2,H2,hT,hA,hR,zt,dk,dr1,dr2,G2,nk,nt,nr,lk2,lt2,lr2⟩:=P
 obtain⟨W3,hW3,S3,G3,HM3,HX3,y0,y1,y2,y3,y4,T3,R3,k3,lW3,G0⟩:=pfx3b HX htl (by omega) H2 G2 q0 q1 q2 q3 q4
 clear H2 c0 c1 c2 c3 c4 hb1 b2 B2 hW2 G2 S3 H1 lcb
 obtain⟨fi,fzi⟩:=G0.out i (by omega)
 have gi:W3.cell? ⟨p.rb t,i,none⟩=some (.int .i64 (m.regs t i)):=HM3.out.regs t i htl (by omega)
 clear G0
 have hl:=HLL.out
 have HLB:Hid (∀w',Below W3.heap.size W3 w'->Calls Tryz.prog 62 #[.slice (p.ad t) L.length (p.cc t), .string xt] w' fun e w''=>e= .returned (.int .i64 L')/\w''=w'):=fun w' hb=>by rw[<-hl];exact labelAt_any (p.ad t) (p.cc t) L xt w' (by omega) (insAt_below (HM3.out.rc.code ht) hb)
 have C3:W3.cell? ⟨p.tb,t*3,none⟩=some (.slice (p.ad t) L.length (p.cc t)):=HM3.out.tCode t L ht
 have P3:W3.cell? ⟨p.tb,t*3+2,none⟩=some (.int .i64 ((m.pc t:Int)+1)):=(HM3.out.tAt t htl).trans (by simp[Mk.setPc])
 have z3:W3.frozen? ⟨p.tb,t*3+2,none⟩=false:=HM3.out.ft _
 have HJ:Hid ((m.setPc t (m.pc t+1)).jump t L xt=(m.setPc t (m.pc t+1)).setPc t L'):=by show _=_;unfold Mk.jump;rw[hl,Int.toNat_natCast]
 clear hl
 by_cases h0:m.regs t i=0
 ·have HM2:=HM'.out
  rw[if_pos h0,HJ.out] at HM2
  replace HM':=hide HM2
  clear HM2
  have HS:=hide (G3.out.trans ((HM3.out.setPc htl L').below bRf.drew))
  rw[h0] at fi gi
  clear G3 HM3 HX3 HJ h0
  go_wp2_with fail
  rw[<-hW3]
  clear hT hA hR hC zt q0 q1 q2 q3 q4 lW2 lk2 lt2 lr2 hW3
  refine wp_region_F (S:=(fun w'=>w'.cell? ⟨p.k,1,none⟩=some (.slice (some ⟨p.tb,0,none⟩) cs.length p.tcap)/\w'.cell? ⟨p.tb,t*3,none⟩=some (.slice (p.ad t) L.length (p.cc t))/\w'.cell? ⟨w1.heap.size,4,none⟩=some (.string xt)/\w'.cell? ⟨p.tb,t*3+2,none⟩=some (.int .i64 ((m.pc t:Int)+1)))) (by kernel_rfl) (by(try dsimp only);go_keep) (fun hHeld=>?_)
  iterate 15
   refine' wpAnyF_next (sz:=19) (n:=18) (v:=_) rfl (by kernel_rfl) (fun _ _ _ h=>h) (by assumption) (Or.inl ⟨by rfl,?_⟩) ?_
   case' refine'_2=>(intro w' hSw;(try dsimp only at hSw);go_simp;try with_reducible rfl)
   try simp only[Act.put,fxs]
  refine wpAnyF_only (i:=15) rfl (by kernel_rfl) (fun K hK=>?_)
  go_simp
  go_at_call 62
  refine(HLB.out _ (Below.drewN' 1)).mono ?_
  rintro e w4 ⟨rfl,rfl⟩
  dsimp only
  refine hK.out _ _ (Or.inr (by(try dsimp only);exact hHeld)) ?_
  clear hK K
  try simp only[Act.put,fxs]
  refine' wpAnyF_take (i:=16) (n:=18) (v:=_) rfl (by kernel_rfl) (fun _ _ _ h=>h) (by assumption) (Or.inl ⟨by rfl,?hy74⟩) ?rest74
  case' hy74=>(intro w' hSw;(try dsimp only at hSw);go_simp;try with_reducible rfl)
  try simp only[Act.put,fxs]
  refine' wpAnyF_take (i:=17) (n:=18) (v:=_) rfl (by kernel_rfl) (fun _ _ _ h=>h) (by assumption) (Or.inl ⟨by rfl,?hy75⟩) ?rest75
  case' hy75=>(intro w' hSw;(try dsimp only at hSw);go_simp;try with_reducible rfl)
  try simp only[Act.put,fxs]
  clear hHeld
  refine wpAnyF_only (i:=18) rfl (by kernel_rfl) (fun K hK=>?_)
  go_simp
  refine hK.out _ _ (Or.inl (by kernel_rfl)) ?_
  clear hK K
  try simp only[Act.put,fxs]
  refine wpAnyF_done (by kernel_rfl) ?_ _
  go_wp2
  go_ret
  exact⟨rfl,_,_,by rw[HM'.out];exact HS.out.step⟩
 ·have HM2:=HM'.out
  rw[if_neg h0] at HM2
  replace HM':=hide HM2
  clear HM2
  have HS:=hide G3.out.step
  rw[hW3] at HS
  clear G3 HM3 HX3 HJ HLB
  generalize m.regs t i=Ri at*
  go_wp2
  go_ret
  exact⟨rfl,_,_,by rw[HM'.out];exact HS.out⟩
theorem rstep_same (D:RkX cs p m K w) (ht:cs[t]? =some L) (hx:L[m.pc t]? =some x) (e:x.op=⟨#[115,97,109,101]⟩) {i:Nat} (hi:i<8) (ei:x.a=i) {j:Nat} (hj:j<8) (ej:x.b=j) (hl:labelAt L x.to=L'):
  Calls Tryz.prog 25 #[.pointer (some ⟨p.k,0,none⟩), .int .i64 t] w fun e w'=>e= .returned (.int .i64 0)/\ ∃r v,RkStep cs p m.mem w r v (m.step L t) w':=by
 have hM:m.step L t=(m.setPc t (m.pc t+1)).exec L t x:=by unfold Mk.step;rw[hx]
 obtain⟨M',hM'⟩: ∃M',M'=(m.setPc t (m.pc t+1)).exec L t x:=⟨_,rfl⟩
 rw[hM, <-hM']
 rw[exec_same (m.setPc t (m.pc t+1)) L t e] at hM'
 clear hM
 rw[ei] at hM'
 rw[ej] at hM'
 simp only[Int.toNat_natCast] at hM'
 simp only[show ∀r,(m.setPc t (m.pc t+1)).regs t r=m.regs t r from fun _=>rfl] at hM'
 have HD:=hide (rdone_at ht hx D.at')
 obtain⟨xo,xa,xb,xc,xt⟩:=x
 dsimp only at e ei ej hl hM' ⊢
 subst e ei ej
 have HM':=hide hM'
 clear hM'
 have HLL:=hide hl
 clear hl
 obtain⟨htl,h6,hpl,hL2,hcap,hcc,ti,t6,pi,hpc2,hpw,hpw2,hr8,HIN,HX,H,d0,hT⟩:=pfx1 D ht hx
 have li:(i:Int)<8:=by omega
 have lj:(j:Int)<8:=by omega
 clear D
 go_enter Tryz.func25,Tryz.ntmps25
 go_wp2_with fail
 refine HD.out.mono ?_
 rintro e w1 ⟨rfl,hb1⟩
 clear HD hT
 obtain⟨cb,off,H1,hT,hA,hR,had,c0,c1,c2,c3,c4,hC,lcb,lk,lt,lr,zt⟩:=pfx2 H HIN htl ht hx hb1
 dsimp only at c0 c1 c2 c3 c4
 obtain⟨W2,hW2⟩: ∃W2,W2=(w1.alloc (.cells #[.string ⟨#[115,97,109,101]⟩, .int .i64 i, .int .i64 j, .int .i64 xc, .string xt] 75)).drew:=⟨_,rfl⟩
 obtain⟨b2,q0,q1,q2,q3,q4,lW2⟩:=box5d hW2
 clear HIN had
 go_wp2_with fail
 go_region
 rw[<-hW2]
 have P:=pfx3a H htl hb1 b2 lW2
 replace hC:=keep_cell b2 hC
 clear hT hA hR zt
 obtain⟨B2,H2,hT,hA,hR,zt,dk,dr1,dr2,G2,nk,nt,nr,lk2,lt2,lr2⟩:=P
 obtain⟨W3,hW3,S3,G3,HM3,HX3,y0,y1,y2,y3,y4,T3,R3,k3,lW3,G0⟩:=pfx3b HX htl (by omega) H2 G2 q0 q1 q2 q3 q4
 clear H2 c0 c1 c2 c3 c4 hb1 b2 B2 hW2 G2 S3 H1 lcb
 obtain⟨fi,fzi⟩:=G0.out i (by omega)
 have gi:W3.cell? ⟨p.rb t,i,none⟩=some (.int .i64 (m.regs t i)):=HM3.out.regs t i htl (by omega)
 obtain⟨fj,fzj⟩:=G0.out j (by omega)
 have gj:W3.cell? ⟨p.rb t,j,none⟩=some (.int .i64 (m.regs t j)):=HM3.out.regs t j htl (by omega)
 clear G0
 have hl:=HLL.out
 have HLB:Hid (∀w',Below W3.heap.size W3 w'->Calls Tryz.prog 62 #[.slice (p.ad t) L.length (p.cc t), .string xt] w' fun e w''=>e= .returned (.int .i64 L')/\w''=w'):=fun w' hb=>by rw[<-hl];exact labelAt_any (p.ad t) (p.cc t) L xt w' (by omega) (insAt_below (HM3.out.rc.code ht) hb)
 have C3:W3.cell? ⟨p.tb,t*3,none⟩=some (.slice (p.ad t) L.length (p.cc t)):=HM3.out.tCode t L ht
 have P3:W3.cell? ⟨p.tb,t*3+2,none⟩=some (.int .i64 ((m.pc t:Int)+1)):=(HM3.out.tAt t htl).trans (by simp[Mk.setPc])
 have z3:W3.frozen? ⟨p.tb,t*3+2,none⟩=false:=HM3.out.ft _
 have HJ:Hid ((m.setPc t (m.pc t+1)).jump t L xt=(m.setPc t (m.pc t+1)).setPc t L'):=by show _=_;unfold Mk.jump;rw[hl,Int.toNat_natCast]
 clear hl
 by_cases h0:m.regs t i=m.regs t j
 ·have HM2:=HM'.out
  rw[if_pos h0,HJ.out] at HM2
  replace HM':=hide HM2
  clear HM2
  have HS:Hid (∀n,Stg cs p m.mem w w1.heap.size p.rp p.mv ((m.setPc t (m.pc t+1)).setPc t L') (((W3.drewN n).setCell ⟨p.tb,t*3+2,none⟩ (.int .i64 L')).drew)):=fun n=>(G3.out.below (Below.drewN' n)).trans (((HM3.out.drewN n).setPc htl L').below bRf.drew)
  rw[h0] at fi gi
  clear G3 HM3 HX3 HJ h0
  generalize m.regs t j=Rj at*
  go_wp2_with fail
  rw[<-hW3]
  clear hT hA hR hC zt q0 q1 q2 q3 q4 lW2 lk2 lt2 lr2 hW3
  go_quiet (fail)
  replace y4:(W3.drewN nq).cell? ⟨w1.heap.size,4,none⟩=some (.string xt):=y4
  replace T3:(W3.drewN nq).cell? ⟨p.k,1,none⟩=some (.slice (some ⟨p.tb,0,none⟩) cs.length p.tcap):=T3
  replace C3:(W3.drewN nq).cell? ⟨p.tb,t*3,none⟩=some (.slice (p.ad t) L.length (p.cc t)):=C3
  replace P3:(W3.drewN nq).cell? ⟨p.tb,t*3+2,none⟩=some (.int .i64 ((m.pc t:Int)+1)):=P3
  replace z3:(W3.drewN nq).frozen? ⟨p.tb,t*3+2,none⟩=false:=z3
  have HLB4:Hid (∀w',Below (W3.drewN nq).heap.size (W3.drewN nq) w'->Calls Tryz.prog 62 #[.slice (p.ad t) L.length (p.cc t), .string xt] w' fun e w''=>e= .returned (.int .i64 L')/\w''=w'):=fun w' hb=>HLB.out w' (below_step (Below.drewN' nq) hb)
  have HS2:=hide (HS.out nq)
  clear HS HLB y0 y1 y2 y3 R3 k3 gi gj
  have HLB:=HLB4
  clear HLB4
  generalize W3.drewN nq=W4 at*
  go_wp2_with fail
  refine wp_region_F (S:=(fun w'=>w'.cell? ⟨p.k,1,none⟩=some (.slice (some ⟨p.tb,0,none⟩) cs.length p.tcap)/\w'.cell? ⟨p.tb,t*3,none⟩=some (.slice (p.ad t) L.length (p.cc t))/\w'.cell? ⟨w1.heap.size,4,none⟩=some (.string xt)/\w'.cell? ⟨p.tb,t*3+2,none⟩=some (.int .i64 ((m.pc t:Int)+1)))) (by kernel_rfl) (by(try dsimp only);go_keep) (fun hHeld=>?_)
  iterate 15
   refine' wpAnyF_next (sz:=19) (n:=18) (v:=_) rfl (by kernel_rfl) (fun _ _ _ h=>h) (by assumption) (Or.inl ⟨by rfl,?_⟩) ?_
   case' refine'_2=>(intro w' hSw;(try dsimp only at hSw);go_simp;try with_reducible rfl)
   try simp only[Act.put,fxs]
  refine wpAnyF_only (i:=15) rfl (by kernel_rfl) (fun K hK=>?_)
  go_simp
  go_at_call 62
  refine(HLB.out _ (Below.drewN' 1)).mono ?_
  rintro e w4 ⟨rfl,rfl⟩
  dsimp only
  refine hK.out _ _ (Or.inr (by(try dsimp only);exact hHeld)) ?_
  clear hK K
  try simp only[Act.put,fxs]
  refine' wpAnyF_take (i:=16) (n:=18) (v:=_) rfl (by kernel_rfl) (fun _ _ _ h=>h) (by assumption) (Or.inl ⟨by rfl,?hy91⟩) ?rest91
  case' hy91=>(intro w' hSw;(try dsimp only at hSw);go_simp;try with_reducible rfl)
  try simp only[Act.put,fxs]
  refine' wpAnyF_take (i:=17) (n:=18) (v:=_) rfl (by kernel_rfl) (fun _ _ _ h=>h) (by assumption) (Or.inl ⟨by rfl,?hy92⟩) ?rest92
  case' hy92=>(intro w' hSw;(try dsimp only at hSw);go_simp;try with_reducible rfl)
  try simp only[Act.put,fxs]
  clear hHeld
  refine wpAnyF_only (i:=18) rfl (by kernel_rfl) (fun K hK=>?_)
  go_simp
  refine hK.out _ _ (Or.inl (by kernel_rfl)) ?_
  clear hK K
  try simp only[Act.put,fxs]
  refine wpAnyF_done (by kernel_rfl) ?_ _
  go_wp2
  go_ret
  exact⟨rfl,_,_,by rw[HM'.out];exact HS2.out.step⟩
 ·have HM2:=HM'.out
  rw[if_neg h0] at HM2
  replace HM':=hide HM2
  clear HM2
  have HS:Hid (∀n,RkStep cs p m.mem w p.rp p.mv (m.setPc t (m.pc t+1)) (W3.drewN n)):=fun n=>G3.out.step.below (Below.drewN' n)
  have hb0:(m.regs t i==m.regs t j)=false:=beq_eq_false_iff_ne.2 h0
  clear G3 HM3 HX3 HJ HLB h0
  generalize m.regs t i=Ri at*
  generalize m.regs t j=Rj at*
  go_wp2_with fail
  rw[<-hW3]
  clear hT hA hR hC zt q0 q1 q2 q3 q4 lW2 lk2 lt2 lr2 hW3
  go_quiet (fail)
  go_wp2
  go_ret
  exact⟨rfl,_,_,by rw[HM'.out];exact HS.out nq⟩
end
section
open Go.RowKit Go.Extern.Stop Go.Stop Go.Extern Go.Sort
variable {cs:List (List Ins)} {L:List Ins} {K t:Nat} {w:World} {p:RkPl} {i:Nat} {x:Ins} {m:Mk}
theorem rstep_load (D:RkX cs p m K w) (ht:cs[t]? =some L) (hx:L[m.pc t]? =some x) (e:x.op=⟨#[108,111,97,100]⟩) (hi:i<8) (ei:x.a=i) {j:Nat} (hj:j<8) (ej:x.b=j) {k:Nat} (hk:k<4) (ek:x.c=k):
  Calls Tryz.prog 25 #[.pointer (some ⟨p.k,0,none⟩), .int .i64 t] w fun e w'=>e= .returned (.int .i64 0)/\ ∃r v,RkStep cs p m.mem w r v (m.step L t) w':=by
 have hM:m.step L t=(m.setPc t (m.pc t+1)).exec L t x:=by unfold Mk.step;rw[hx]
 obtain⟨M',hM'⟩: ∃M',M'=(m.setPc t (m.pc t+1)).exec L t x:=⟨_,rfl⟩
 rw[hM, <-hM']
 rw[exec_load (m.setPc t (m.pc t+1)) L t e] at hM'
 clear hM
 rw[ei] at hM'
 rw[ej] at hM'
 rw[ek] at hM'
 simp only[Int.toNat_natCast] at hM'
 try simp only[show ∀r,(m.setPc t (m.pc t+1)).regs t r=m.regs t r from fun _=>rfl] at hM'
 have HD:=hide (rdone_at ht hx D.at')
 obtain⟨xo,xa,xb,xc,xt⟩:=x
 dsimp only at e ei ej ek hM' ⊢
 subst e ei ej ek
 have HM':=hide hM'
 clear hM'
 obtain⟨htl,h6,hpl,hL2,hcap,hcc,ti,t6,pi,hpc2,hpw,hpw2,hr8,HIN,HX,H,d0,hT⟩:=pfx1 D ht hx
 have li:(i:Int)<8:=by omega
 have lj:(j:Int)<8:=by omega
 have lk:(k:Int)<4:=by omega
 clear D
 go_enter Tryz.func25,Tryz.ntmps25
 go_wp2_with fail
 refine HD.out.mono ?_
 rintro e w1 ⟨rfl,hb1⟩
 clear HD hT
 obtain⟨cb,off,H1,hT,hA,hR,had,c0,c1,c2,c3,c4,hC,lcb,lk,lt,lr,zt⟩:=pfx2 H HIN htl ht hx hb1
 dsimp only at c0 c1 c2 c3 c4
 obtain⟨W2,hW2⟩: ∃W2,W2=(w1.alloc (.cells #[.string ⟨#[108,111,97,100]⟩, .int .i64 i, .int .i64 j, .int .i64 k, .string xt] 75)).drew:=⟨_,rfl⟩
 obtain⟨b2,q0,q1,q2,q3,q4,lW2⟩:=box5d hW2
 clear HIN had
 go_wp2_with fail
 go_region
 rw[<-hW2]
 have P:=pfx3a H htl hb1 b2 lW2
 replace hC:=keep_cell b2 hC
 clear hT hA hR zt
 obtain⟨B2,H2,hT,hA,hR,zt,dk,dr1,dr2,G2,nk,nt,nr,lk2,lt2,lr2⟩:=P
 obtain⟨W3,hW3,S3,G3,HM3,HX3,y0,y1,y2,y3,y4,T3,R3,k3,lW3,G0⟩:=pfx3b HX htl (by omega) H2 G2 q0 q1 q2 q3 q4
 clear H2 c0 c1 c2 c3 c4 hb1 b2 B2 hW2 G2 S3 H1 lcb
 obtain⟨fi,fzi⟩:=G0.out i (by omega)
 have gi:W3.cell? ⟨p.rb t,i,none⟩=some (.int .i64 (m.regs t i)):=HM3.out.regs t i htl (by omega)
 obtain⟨fj,fzj⟩:=G0.out j (by omega)
 have gj:W3.cell? ⟨p.rb t,j,none⟩=some (.int .i64 (m.regs t j)):=HM3.out.regs t j htl (by omega)
 clear G0
 have hwd:Wd (m.regs t j):=HX3.out.ok.regs t j
 have hfl:(m.setPc t (m.pc t+1)).faults<=900000000:=HX3.out.faults
 have hx8:=HX3.out.few htl
 cases hy:(m.setPc t (m.pc t+1)).names (m.regs t j)
 ·have HQ:Hid (M'=((m.setPc t (m.pc t+1)).addFault 1).setReg t i 0):=by show _=_;rw[HM'.out];unfold Mk.load;rw[hy];rfl
  have HN:=hide (rnames_no hwd HM3.out (by omega) hy)
  clear HM3 HX3 hwd hy HM'
  generalize m.regs t j=Rj at*
  generalize m.regs t i=Ri at*
  go_wp2_with fail
  rw[<-hW3]
  clear hT hA hR hC zt q0 q1 q2 q3 q4 lW2 lk2 lt2 lr2 hW3
  refine HN.out.mono ?_
  rintro e w4 ⟨⟨c4,g4,rfl⟩,k4⟩
  clear HN
  replace y1:=G3.out.keep k4 y1
  have G4:=hide (G3.out.trans k4)
  have HM4:=hide G4.out.step.at'
  have lr4:p.rb t<w4.heap.size:=HM4.out.lr htl
  have lx4:=G4.out.lt
  have v4:w4.cell? ⟨p.rb t,i,none⟩=some (.int .i64 (((m.setPc t (m.pc t+1)).addFault 1).regs t i)):=HM4.out.regs t i htl hi
  have z4:w4.frozen? ⟨p.rb t,i,none⟩=false:=HM4.out.fr t i htl
  have HS:=hide ((G4.out.trans (HM4.out.setReg htl hi 0)).below (bRf.alloc nL (.cells #[.int .i64 c4, .int .i64 g4] 95)))
  clear k4 G4 HM4 G3 gj gi T3 R3 k3 y0 y2 y3 y4
  go_wp2
  go_ret
  exact⟨rfl,_,_,by rw[HQ.out];exact HS.out.step⟩
 ·have HQ:Hid (M'=(m.setPc t (m.pc t+1)).setReg t i ((m.setPc t (m.pc t+1)).loaded t (m.regs t j) k)):=by show _=_;rw[HM'.out];unfold Mk.load;rw[hy];rfl
  have HL5:Hid (∀w',RkAt cs p ((m.setPc t (m.pc t+1)).setReg t i 0) w'->Calls Tryz.prog 57 #[.pointer (some ⟨p.rp.mb,0,none⟩), .int .i64 t, .agg #[.int .i64 (cellOf (m.regs t j)), .int .i64 (genOf (m.regs t j))], .int .i64 k] w' fun e w''=>e= .returned (.tuple #[.int .i64 ((m.setPc t (m.pc t+1)).loaded t (m.regs t j) k), .int .i64 0])/\Below w'.heap.size w' w''):=fun w' h=>rk_load h htl hx8 hy hk
  obtain⟨kk,hck,hkk,hhas⟩:=HM3.out.cellAt hy
  have HN:=hide (rnames_yes hwd HM3.out hy)
  rw[hck] at HN
  obtain⟨Gn,hGn⟩: ∃Gn,Gn=genOf (m.regs t j):=⟨_,rfl⟩
  rw[<-hGn] at HN
  rw[hck, <-hGn] at HL5
  clear HM3 HX3 hwd hy HM' hck hkk hhas hGn
  generalize (m.setPc t (m.pc t+1)).loaded t (m.regs t j) k=V at*
  generalize m.regs t j=Rj at*
  generalize m.regs t i=Ri at*
  go_wp2_with fail
  rw[<-hW3]
  clear hT hA hR hC zt q0 q1 q2 q3 q4 lW2 lk2 lt2 lr2 hW3
  refine HN.out.mono ?_
  rintro e w4 ⟨rfl,hb4⟩
  clear HN
  have G4:=hide (G3.out.below hb4)
  have HM4:=hide G4.out.step.at'
  replace y1:=keep_cell hb4 y1
  replace y3:=keep_cell hb4 y3
  have lr4:p.rb t<w4.heap.size:=HM4.out.lr htl
  have lx4:=G4.out.lt
  have v4:w4.cell? ⟨p.rb t,i,none⟩=some (.int .i64 ((m.setPc t (m.pc t+1)).regs t i)):=HM4.out.regs t i htl hi
  have z4:w4.frozen? ⟨p.rb t,i,none⟩=false:=HM4.out.fr t i htl
  obtain⟨W5,hW5⟩: ∃W5,W5=(w4.setCell ⟨p.rb t,i,none⟩ (.int .i64 0)).alloc (.cells #[.int .i64 kk, .int .i64 Gn] 95):=⟨_,rfl⟩
  have kS:RkStep cs p (m.setPc t (m.pc t+1)).mem w4 p.rp p.mv ((m.setPc t (m.pc t+1)).setReg t i 0) W5:=by rw[hW5];exact(HM4.out.setReg htl hi 0).below (bRf.alloc nL _)
  have G5:=hide (G4.out.trans kS)
  have x0:W5.cell? ⟨w4.heap.size,0,none⟩=some (.int .i64 kk):=by rw[hW5];exact boxAfter0 _ _ _ _ _
  have x1:W5.cell? ⟨w4.heap.size,1,none⟩=some (.int .i64 Gn):=by rw[hW5];exact boxAfter1 _ _ _ _ _
  have y3':=G4.out.keep kS y3
  have y1':=G4.out.keep kS y1
  have HM5:=hide G5.out.step.at'
  have u5:W5.cell? ⟨p.k,0,none⟩=some (.pointer (some ⟨p.rp.mb,0,none⟩)):=HM5.out.mM
  clear hb4 G4 HM4 G3 gj gi T3 R3 k3 y0 y2 y4 kS
  go_wp2_with fail
  rw[<-hW5]
  clear hW5 v4 z4 y1 y3 lr4 lx4
  have HCF:Hid (∀d os,Calls Tryz.prog 57 #[.pointer (some ⟨p.rp.mb,0,none⟩), .int .i64 t, .agg #[.int .i64 kk, .int .i64 Gn], .int .i64 k] (grow (redrawn W5 d) os) fun e w''=>e= .returned (.tuple #[.int .i64 V, .int .i64 0])/\ ∃p:Regrown,w''=grow (redrawn W5 p.d) p.os):=fun d os=>
   Calls.regrown_of (HL5.out _ (HM5.out.below (below_regrown W5 d os)))
  have d0:=cell_regrown x0
  have d1:=cell_regrown x1
  have d3:=cell_regrown y3'
  have dM:=cell_regrown u5
  clear HL5
  refine wp_region_quiet_below (by kernel_rfl) (by kernel_rfl) ?_
  repeat (first
   |go_big_quiet_step (exact HCF.out _ _)
   |quiet_step (exact HCF.out _ _))
  refine wpQuiet_nil ?_
  intro _ hw'
  obtain⟨⟨dq,osq⟩,hw''⟩:=hw'
  subst hw''
  have b6:=below_regrown W5 dq osq
  have G6:=hide (G5.out.below b6)
  have HM6:=hide G6.out.step.at'
  have v6:(grow (redrawn W5 dq) osq).cell? ⟨p.rb t,i,none⟩=some (.int .i64 (((m.setPc t (m.pc t+1)).setReg t i 0).regs t i)):=HM6.out.regs t i htl hi
  have z6:(grow (redrawn W5 dq) osq).frozen? ⟨p.rb t,i,none⟩=false:=HM6.out.fr t i htl
  have y6:=keep_cell b6 y1'
  have HS:=hide (G6.out.trans (HM6.out.setReg htl hi V))
  clear HCF d0 d1 d3 dM x0 x1 y3' y1' u5 b6 G5 HM5 G6 HM6
  generalize grow (redrawn W5 dq) osq=W6 at*
  go_wp2
  go_ret
  exact⟨rfl,_,_,by rw[HQ.out, <-Mk.setReg_twice];exact HS.out.step⟩
theorem rstep_alloc(D:RkX cs p m K w)(ht:cs[t]? =some L)(hx:L[m.pc t]? =some x)(e:x.op=⟨#[97,108,108,111,99]⟩)(hi:i<8)(ei:x.a=i):
  Calls Tryz.prog 25 #[.pointer (some ⟨p.k,0,none⟩), .int .i64 t] w fun e w'=>e= .returned (.int .i64 0)/\ ∃r v,RkStep cs p m.mem w r v (m.step L t) w':=by
 have hM:m.step L t=(m.setPc t (m.pc t+1)).exec L t x:=by unfold Mk.step;rw[hx]
 obtain⟨M',hM'⟩: ∃M',M'=(m.setPc t (m.pc t+1)).exec L t x:=⟨_,rfl⟩
 rw[hM, <-hM']
 rw[exec_alloc (m.setPc t (m.pc t+1)) L t e] at hM'
 clear hM
 rw[ei] at hM'
 simp only[Int.toNat_natCast] at hM'
 try simp only[show ∀r,(m.setPc t (m.pc t+1)).regs t r=m.regs t r from fun _=>rfl] at hM'
 have HD:=hide (rdone_at ht hx D.at')
 obtain⟨xo,xa,xb,xc,xt⟩:=x
 dsimp only at e ei hM' ⊢
 subst e ei
 have HM':=hide hM'
 clear hM'
 obtain⟨htl,h6,hpl,hL2,hcap,hcc,ti,t6,pi,hpc2,hpw,hpw2,hr8,HIN,HX,H,d0,hT⟩:=pfx1 D ht hx
 have li:(i:Int)<8:=by omega
 clear D
 go_enter Tryz.func25,Tryz.ntmps25
 go_wp2_with fail
 refine HD.out.mono ?_
 rintro e w1 ⟨rfl,hb1⟩
 clear HD hT
 obtain⟨cb,off,H1,hT,hA,hR,had,c0,c1,c2,c3,c4,hC,lcb,lk,lt,lr,zt⟩:=pfx2 H HIN htl ht hx hb1
 dsimp only at c0 c1 c2 c3 c4
 obtain⟨W2,hW2⟩: ∃W2,W2=(w1.alloc (.cells #[.string ⟨#[97,108,108,111,99]⟩, .int .i64 i, .int .i64 xb, .int .i64 xc, .string xt] 75)).drew:=⟨_,rfl⟩
 obtain⟨b2,q0,q1,q2,q3,q4,lW2⟩:=box5d hW2
 clear HIN had
 go_wp2_with fail
 go_region
 rw[<-hW2]
 have P:=pfx3a H htl hb1 b2 lW2
 replace hC:=keep_cell b2 hC
 clear hT hA hR zt
 obtain⟨B2,H2,hT,hA,hR,zt,dk,dr1,dr2,G2,nk,nt,nr,lk2,lt2,lr2⟩:=P
 obtain⟨W3,hW3⟩: ∃W3,W3=W2.setCell ⟨p.tb,t*3+2,none⟩ (.int .i64 ((m.pc t:Int)+1)):=⟨_,rfl⟩
 have S3:Hid (RkStep cs p m.mem W2 p.rp p.mv (m.setPc t (m.pc t+1)) W3):=hide (by rw[hW3];exact H2.out.setPc htl (m.pc t+1))
 have G3:Hid (Stg cs p m.mem w w1.heap.size p.rp p.mv (m.setPc t (m.pc t+1)) W3):=hide (G2.out.trans S3.out)
 have HM3:Hid (RkAt cs p (m.setPc t (m.pc t+1)) W3):=hide G3.out.step.at'
 have HX3:Hid (RkX cs p (m.setPc t (m.pc t+1)) K W3):=hide ⟨HM3.out,HX.out.ok.setPc t (by omega),HX.out.right,HX.out.hK⟩
 have y0:=G2.out.keep S3.out q0
 have y1:=G2.out.keep S3.out q1
 have y2:=G2.out.keep S3.out q2
 have y3:=G2.out.keep S3.out q3
 have y4:=G2.out.keep S3.out q4
 have hMM:=H2.out.mM
 have T3:=HM3.out.mT
 have R3:=HM3.out.tRegs t htl
 have k3:=HM3.out.mM
 have lW3:w1.heap.size<W3.heap.size:=G3.out.lt
 have G0:Hid (∀r,r<8->W2.cell? ⟨p.rb t,r,none⟩=some (.int .i64 (m.regs t r))/\W2.frozen? ⟨p.rb t,r,none⟩=false):=fun r hr=>⟨H2.out.regs t r htl hr,H2.out.fr t r htl⟩
 clear H2 c0 c1 c2 c3 c4 hb1 b2 B2 hW2 G2 S3 H1 lcb
 obtain⟨fi,fzi⟩:=G0.out i (by omega)
 have gi:W3.cell? ⟨p.rb t,i,none⟩=some (.int .i64 (m.regs t i)):=HM3.out.regs t i htl (by omega)
 clear G0
 cases hy:m.mem.ar.free? with
 | none=>
  have HQ:Hid (M'=(m.setPc t (m.pc t+1)).setReg t i 0):=by show _=_;rw[HM'.out];unfold Mk.alloc;rw[show(m.setPc t (m.pc t+1)).mem.ar.free?=none from hy]
  have HN:=hide (rk_alloc_none HM3.out hy)
  clear HM3 HX3 hy HM'
  generalize m.regs t i=Ri at*
  go_wp2_with fail
  rw[<-hW3]
  clear hMM hT hA hR hC zt q0 q1 q2 q3 q4 lW2 lk2 lt2 lr2 hW3
  refine HN.out.mono ?_
  rintro e w4 ⟨rfl,hb4⟩
  clear HN
  replace y1:=keep_cell hb4 y1
  have G4:=hide (G3.out.below hb4)
  have HM4:=hide G4.out.step.at'
  have lr4:p.rb t<w4.heap.size:=HM4.out.lr htl
  have lx4:=G4.out.lt
  have v4:w4.cell? ⟨p.rb t,i,none⟩=some (.int .i64 ((m.setPc t (m.pc t+1)).regs t i)):=HM4.out.regs t i htl hi
  have z4:w4.frozen? ⟨p.rb t,i,none⟩=false:=HM4.out.fr t i htl
  have HS:=hide ((G4.out.trans (HM4.out.setReg htl hi 0)).below (bRf.alloc nL (.cells #[.int .i64 0, .int .i64 0] 95)))
  clear hb4 G4 HM4 G3 gi T3 R3 k3 y0 y2 y3 y4
  go_wp2
  go_ret
  exact⟨rfl,_,_,by rw[HQ.out];exact HS.out.step⟩
 | some c=>
  obtain⟨g,hg⟩: ∃g:Nat,g=m.mem.ar.given c:=⟨_,rfl⟩
  have HQ:Hid (M'=((m.setPc t (m.pc t+1)).setMem ((m.setPc t (m.pc t+1)).mem.give c)).setReg t i ((g:Int)*64+c+1)):=by show _=_;rw[HM'.out,hg];unfold Mk.alloc;rw[show(m.setPc t (m.pc t+1)).mem.ar.free?=some c from hy];rfl
  have hgk:=HX3.out.ok.mem.given c
  have hK:=HX3.out.hK
  have hcl:=(Ar.free_some hy).1
  have h64:=HM3.out.mem.small
  have HN:=hide (rk_alloc_some HM3.out hy (by omega))
  rw[show(m.setPc t (m.pc t+1)).mem.ar.given c=m.mem.ar.given c from rfl, <-hg] at HN hgk
  rw[show(m.setPc t (m.pc t+1)).mem.ar.size=m.mem.ar.size from rfl] at h64
  have HWO:Hid (∀w',Calls Tryz.prog 61 #[.agg #[.int .i64 c, .int .i64 g]] w' fun e w''=>e= .returned (.tuple #[.int .i64 ((g:Int)*64+c+1), .int .i64 0])/\Below w'.heap.size w' w''):=fun w'=>wordOf_ok c g w' ⟨by omega,by omega,by omega,by omega⟩
  clear HM3 HX3 hy HM' hgk hK hcl h64 hg
  generalize ((g:Int)*64+c+1)=V at*
  generalize m.regs t i=Ri at*
  go_wp2_with fail
  rw[<-hW3]
  clear hMM hT hA hR hC zt q0 q1 q2 q3 q4 lW2 lk2 lt2 lr2 hW3
  refine HN.out.mono ?_
  rintro e w4 ⟨rfl,r,k4⟩
  clear HN
  replace y1:=G3.out.keep k4 y1
  have G4:=hide (G3.out.trans k4)
  have HM4:=hide G4.out.step.at'
  have lr4:p.rb t<w4.heap.size:=HM4.out.lr htl
  have lx4:=G4.out.lt
  have v4:w4.cell? ⟨p.rb t,i,none⟩=some (.int .i64 ((m.setPc t (m.pc t+1)).regs t i)):=HM4.out.regs t i htl hi
  have z4:w4.frozen? ⟨p.rb t,i,none⟩=false:=HM4.out.fr t i htl
  obtain⟨W5,hW5⟩: ∃W5,W5=(w4.setCell ⟨p.rb t,i,none⟩ (.int .i64 0)).alloc (.cells #[.int .i64 c, .int .i64 g] 95):=⟨_,rfl⟩
  have kS:RkStep cs (p.to r p.mv) ((m.setPc t (m.pc t+1)).setMem ((m.setPc t (m.pc t+1)).mem.give c)).mem w4 r p.mv (((m.setPc t (m.pc t+1)).setMem ((m.setPc t (m.pc t+1)).mem.give c)).setReg t i 0) W5:=by rw[hW5];exact(HM4.out.setReg htl hi 0).below (bRf.alloc nL _)
  have G5:=hide (G4.out.trans kS)
  have x0:W5.cell? ⟨w4.heap.size,0,none⟩=some (.int .i64 c):=by rw[hW5];exact boxAfter0 _ _ _ _ _
  have x1:W5.cell? ⟨w4.heap.size,1,none⟩=some (.int .i64 g):=by rw[hW5];exact boxAfter1 _ _ _ _ _
  have y1':=G4.out.keep kS y1
  clear G4 HM4 G3 gi T3 R3 k3 y0 y2 y3 y4 kS k4
  go_wp2_with fail
  rw[<-hW5]
  clear hW5 v4 z4 y1 lr4 lx4
  refine(HWO.out W5).mono ?_
  rintro e W6 ⟨rfl,b6⟩
  have G6:=hide (G5.out.below b6)
  have HM6:=hide G6.out.step.at'
  have v6:W6.cell? ⟨p.rb t,i,none⟩=some (.int .i64 ((((m.setPc t (m.pc t+1)).setMem ((m.setPc t (m.pc t+1)).mem.give c)).setReg t i 0).regs t i)):=HM6.out.regs t i htl hi
  have z6:W6.frozen? ⟨p.rb t,i,none⟩=false:=HM6.out.fr t i htl
  have y6:=keep_cell b6 y1'
  have HS:=hide (G6.out.trans (HM6.out.setReg htl hi V))
  clear HWO x0 x1 y1' b6 G5 G6 HM6
  go_wp2
  go_ret
  exact⟨rfl,_,_,by rw[HQ.out, <-Mk.setReg_twice];exact HS.out.step⟩
theorem rstep_free (D:RkX cs p m K w) (ht:cs[t]? =some L) (hx:L[m.pc t]? =some x) (e:x.op=⟨#[102,114,101,101]⟩) (hi:i<8) (ei:x.a=i):
  Calls Tryz.prog 25 #[.pointer (some ⟨p.k,0,none⟩), .int .i64 t] w fun e w'=>e= .returned (.int .i64 0)/\ ∃r v,RkStep cs p m.mem w r v (m.step L t) w':=by
 have hM:m.step L t=(m.setPc t (m.pc t+1)).exec L t x:=by unfold Mk.step;rw[hx]
 obtain⟨M',hM'⟩: ∃M',M'=(m.setPc t (m.pc t+1)).exec L t x:=⟨_,rfl⟩
 rw[hM, <-hM']
 rw[exec_free (m.setPc t (m.pc t+1)) L t e] at hM'
 clear hM
 rw[ei] at hM'
 simp only[Int.toNat_natCast] at hM'
 try simp only[show ∀r,(m.setPc t (m.pc t+1)).regs t r=m.regs t r from fun _=>rfl] at hM'
 have HD:=hide (rdone_at ht hx D.at')
 obtain⟨xo,xa,xb,xc,xt⟩:=x
 dsimp only at e ei hM' ⊢
 subst e ei
 have HM':=hide hM'
 clear hM'
 obtain⟨htl,h6,hpl,hL2,hcap,hcc,ti,t6,pi,hpc2,hpw,hpw2,hr8,HIN,HX,H,d0,hT⟩:=pfx1 D ht hx
 have li:(i:Int)<8:=by omega
 clear D
 go_enter Tryz.func25,Tryz.ntmps25
 go_wp2_with fail
 refine HD.out.mono ?_
 rintro e w1 ⟨rfl,hb1⟩
 clear HD hT
 obtain⟨cb,off,H1,hT,hA,hR,had,c0,c1,c2,c3,c4,hC,lcb,lk,lt,lr,zt⟩:=pfx2 H HIN htl ht hx hb1
 dsimp only at c0 c1 c2 c3 c4
 obtain⟨W2,hW2⟩: ∃W2,W2=(w1.alloc (.cells #[.string ⟨#[102,114,101,101]⟩, .int .i64 i, .int .i64 xb, .int .i64 xc, .string xt] 75)).drew:=⟨_,rfl⟩
 obtain⟨b2,q0,q1,q2,q3,q4,lW2⟩:=box5d hW2
 clear HIN had
 go_wp2_with fail
 go_region
 rw[<-hW2]
 have P:=pfx3a H htl hb1 b2 lW2
 replace hC:=keep_cell b2 hC
 clear hT hA hR zt
 obtain⟨B2,H2,hT,hA,hR,zt,dk,dr1,dr2,G2,nk,nt,nr,lk2,lt2,lr2⟩:=P
 obtain⟨W3,hW3,S3,G3,HM3,HX3,y0,y1,y2,y3,y4,T3,R3,k3,lW3,G0⟩:=pfx3b HX htl (by omega) H2 G2 q0 q1 q2 q3 q4
 clear H2 c0 c1 c2 c3 c4 hb1 b2 B2 hW2 G2 S3 H1 lcb
 obtain⟨fi,fzi⟩:=G0.out i (by omega)
 have gi:W3.cell? ⟨p.rb t,i,none⟩=some (.int .i64 (m.regs t i)):=HM3.out.regs t i htl (by omega)
 clear G0
 have hwd:Wd (m.regs t i):=HX3.out.ok.regs t i
 have hfl:(m.setPc t (m.pc t+1)).faults<=900000000:=HX3.out.faults
 have hx8:=HX3.out.few htl
 cases hy:(m.setPc t (m.pc t+1)).names (m.regs t i)
 ·have HQ:Hid (M'=(m.setPc t (m.pc t+1)).addFault 1):=by show _=_;rw[HM'.out];unfold Mk.free;rw[hy];rfl
  have HN:=hide (rnames_no hwd HM3.out (by omega) hy)
  clear HM3 HX3 hwd hy HM'
  generalize m.regs t i=Ri at*
  go_wp2_with fail
  rw[<-hW3]
  clear hT hA hR hC zt q0 q1 q2 q3 q4 lW2 lk2 lt2 lr2 hW3
  refine HN.out.mono ?_
  rintro e w4 ⟨⟨c4,g4,rfl⟩,k4⟩
  clear HN
  replace y1:=G3.out.keep k4 y1
  replace y2:=G3.out.keep k4 y2
  have G4:=hide (G3.out.trans k4)
  have HM4:=hide G4.out.step.at'
  have lr4:p.rb t<w4.heap.size:=HM4.out.lr htl
  have lx4:=G4.out.lt
  have HS:=hide (G4.out.below (bRf.alloc nL (.cells #[.int .i64 c4, .int .i64 g4] 95)))
  clear k4 G4 HM4 G3 T3 R3 k3 y0 y3 y4
  go_wp2
  go_ret
  exact⟨rfl,_,_,by rw[HQ.out];exact HS.out.step⟩
 ·have HQ:Hid (M'=((m.setPc t (m.pc t+1)).fence t).setMem (((m.setPc t (m.pc t+1)).fence t).mem.setThere (cellOf (m.regs t i)).toNat false)):=by show _=_;rw[HM'.out];unfold Mk.free;rw[hy];rfl
  have HFE:=hide (fun w' (h:RkAt cs p (m.setPc t (m.pc t+1)) w')=>rkfence_any htl h (HX3.out.waits htl) hx8 (by omega))
  obtain⟨kk,hck,hkk,hhas⟩:=HM3.out.cellAt hy
  have HN:=hide (rnames_yes hwd HM3.out hy)
  rw[hck] at HN
  obtain⟨Gn,hGn⟩: ∃Gn,Gn=genOf (m.regs t i):=⟨_,rfl⟩
  rw[<-hGn] at HN
  have hsz:((m.setPc t (m.pc t+1)).fence t).mem.ar.size=m.mem.ar.size:=(Rm.drainAll_ar _ _ _).1
  have h64:=HM3.out.mem.small
  rw[show(m.setPc t (m.pc t+1)).mem.ar.size=m.mem.ar.size from rfl] at h64 hkk
  clear HM3 HX3 hy hhas HM'
  rw[hck,Int.toNat_natCast] at HQ
  clear hck hGn hwd
  go_wp2_with fail
  rw[<-hW3]
  clear hT hA hR hC zt q0 q1 q2 q3 q4 lW2 lk2 lt2 lr2 hW3
  refine HN.out.mono ?_
  rintro e w4 ⟨rfl,hb4⟩
  clear HN
  have G4:=hide (G3.out.below hb4)
  have HM4:=hide G4.out.step.at'
  obtain⟨W5,hW5⟩: ∃W5,W5=w4.alloc (.cells #[.int .i64 kk, .int .i64 Gn] 95):=⟨_,rfl⟩
  have b5:Below w4.heap.size w4 W5:=by rw[hW5];exact bRf.alloc nL _
  have G5:=hide (G4.out.below b5)
  have R5:=hide (G4.out.other (bx':=w4.heap.size) nL b5 (by rw[hW5];simp))
  have x0:W5.cell? ⟨w4.heap.size,0,none⟩=some (.int .i64 kk):=by rw[hW5];simp
  have HF5:=hide (HFE.out W5 G5.out.step.at')
  have p1:=keep_cell b5 (keep_cell hb4 y1)
  have p2:=keep_cell b5 (keep_cell hb4 y2)
  have p3:=keep_cell b5 (keep_cell hb4 y3)
  clear HFE b5 HM4 G3 G4 T3 R3 k3 y0 y1 y2 y3 y4 hb4 gi
  go_wp2_with fail
  rw[<-hW5]
  clear hW5
  refine HF5.out.mono ?_
  rintro e w6 ⟨rfl,r,k6⟩
  clear HF5
  replace x0:=R5.out.keep k6 x0
  replace p1:=G5.out.keep k6 p1
  replace p2:=G5.out.keep k6 p2
  replace p3:=G5.out.keep k6 p3
  have G6:=hide (G5.out.trans k6)
  have R6:=hide (R5.out.trans k6)
  have HM6:Hid (RkAt cs (p.to r p.mv) ((m.setPc t (m.pc t+1)).fence t) w6):=hide G6.out.step.at'
  clear G5 R5 k6
  have uM:w6.cell? ⟨p.k,0,none⟩=some (.pointer (some ⟨r.mb,0,none⟩)):=HM6.out.mM
  have uC:w6.cell? ⟨r.mb,0,none⟩=some (.slice (some ⟨r.cb,0,none⟩) ((m.setPc t (m.pc t+1)).fence t).mem.ar.size r.ccap):=HM6.out.mem.mCells
  have ucc:((m.setPc t (m.pc t+1)).fence t).mem.ar.size<=r.ccap:=HM6.out.mem.ccap
  rw[hsz] at uC ucc
  have uki:(kk:Int)<m.mem.ar.size:=by omega
  have ukz:kk<((m.setPc t (m.pc t+1)).fence t).mem.ar.size:=by rw[hsz];exact hkk
  have si:w6.cell? ⟨p.rb t,i,none⟩=some (.int .i64 (m.regs t i)):=HM6.out.regs t i htl (by omega)
  have uH:w6.cell? ⟨r.cb,kk*3+2,none⟩=some (.bool (((m.setPc t (m.pc t+1)).fence t).mem.ar.there kk)):=HM6.out.mem.cHere kk ukz
  have uZ:w6.frozen? ⟨r.cb,kk*3+2,none⟩=false:=HM6.out.mem.fc _
  have HS:=hide (G6.out.trans ((HM6.out.setThereM ukz false).below bRf.drew))
  clear G6 R6 HM6 p1 p2 p3 si hsz ukz
  go_wp2_with fail
  refine wp_region_F (S:=(fun w'=>w'.cell? ⟨p.k,0,none⟩=some (.pointer (some ⟨r.mb,0,none⟩))/\w'.cell? ⟨r.mb,0,none⟩=some (.slice (some ⟨r.cb,0,none⟩) m.mem.ar.size r.ccap)/\w'.cell? ⟨w4.heap.size,0,none⟩=some (.int .i64 kk))) (by kernel_rfl) (by(try dsimp only);go_keep) (fun hHeld=>?_)
  iterate 11
   refine' wpAnyF_next (sz:=12) (n:=11) (v:=_) rfl (by kernel_rfl) (fun _ _ _ h=>h) (by assumption) (Or.inl ⟨by rfl,?_⟩) ?_
   case' refine'_2=>(intro w' hSw;(try dsimp only at hSw);go_simp;try with_reducible rfl)
   try simp only[Act.put,fxs]
  clear hHeld
  refine wpAnyF_only (i:=11) rfl (by kernel_rfl) (fun K hK=>?_)
  go_simp
  refine hK.out _ _ (Or.inl (by kernel_rfl)) ?_
  clear hK K
  try simp only[Act.put,fxs]
  refine wpAnyF_done (by kernel_rfl) ?_ _
  go_wp2
  go_ret
  exact⟨rfl,_,_,by rw[HQ.out];exact HS.out.step⟩
end
section
open Go.RowKit Go.Extern.Stop Go.Stop Go.Extern Go.Sort
theorem rstep_swap {cs:List (List Ins)} {p:RkPl} {m:Mk} {K t:Nat} {w:World} (D:RkX cs p m K w) {L:List Ins} (ht:cs[t]? =some L) {x:Ins} (hx:L[m.pc t]? =some x) (e:x.op=⟨#[115,119,97,112]⟩) {i:Nat} (hi:i<8) (ei:x.a=i) {j:Nat} (hj:j<8) (ej:x.b=j) {k:Nat} (hk:k<4) (ek:x.c=k):
  Calls Tryz.prog 25 #[.pointer (some ⟨p.k,0,none⟩), .int .i64 t] w fun e w'=>e= .returned (.int .i64 0)/\ ∃r v,RkStep cs p m.mem w r v (m.step L t) w':=by
 have hM:m.step L t=(m.setPc t (m.pc t+1)).exec L t x:=by unfold Mk.step;rw[hx]
 obtain⟨M',hM'⟩: ∃M',M'=(m.setPc t (m.pc t+1)).exec L t x:=⟨_,rfl⟩
 rw[hM, <-hM']
 rw[exec_swap (m.setPc t (m.pc t+1)) L t e] at hM'
 clear hM
 rw[ei] at hM'
 rw[ej] at hM'
 rw[ek] at hM'
 simp only[Int.toNat_natCast] at hM'
 try simp only[show ∀r,(m.setPc t (m.pc t+1)).regs t r=m.regs t r from fun _=>rfl] at hM'
 have HD:=hide (rdone_at ht hx D.at')
 obtain⟨xo,xa,xb,xc,xt⟩:=x
 dsimp only at e ei ej ek hM' ⊢
 subst e ei ej ek
 have HM':=hide hM'
 clear hM'
 obtain⟨htl,h6,hpl,hL2,hcap,hcc,ti,t6,pi,hpc2,hpw,hpw2,hr8,HIN,HX,H,d0,hT⟩:=pfx1 D ht hx
 have li:(i:Int)<8:=by omega
 have lj:(j:Int)<8:=by omega
 have lk:(k:Int)<4:=by omega
 clear D
 go_enter Tryz.func25,Tryz.ntmps25
 go_wp2_with fail
 refine HD.out.mono ?_
 rintro e w1 ⟨rfl,hb1⟩
 clear HD hT
 obtain⟨cb,off,H1,hT,hA,hR,had,c0,c1,c2,c3,c4,hC,lcb,lk,lt,lr,zt⟩:=pfx2 H HIN htl ht hx hb1
 dsimp only at c0 c1 c2 c3 c4
 obtain⟨W2,hW2⟩: ∃W2,W2=(w1.alloc (.cells #[.string ⟨#[115,119,97,112]⟩, .int .i64 i, .int .i64 j, .int .i64 k, .string xt] 75)).drew:=⟨_,rfl⟩
 obtain⟨b2,q0,q1,q2,q3,q4,lW2⟩:=box5d hW2
 clear HIN had
 go_wp2_with fail
 go_region
 rw[<-hW2]
 have P:=pfx3a H htl hb1 b2 lW2
 replace hC:=keep_cell b2 hC
 clear hT hA hR zt
 obtain⟨B2,H2,hT,hA,hR,zt,dk,dr1,dr2,G2,nk,nt,nr,lk2,lt2,lr2⟩:=P
 obtain⟨W3,hW3,S3,G3,HM3,HX3,y0,y1,y2,y3,y4,T3,R3,k3,lW3,G0⟩:=pfx3b HX htl (by omega) H2 G2 q0 q1 q2 q3 q4
 clear H2 c0 c1 c2 c3 c4 hb1 b2 B2 hW2 G2 S3 H1 lcb
 obtain⟨fi,fzi⟩:=G0.out i (by omega)
 have gi:W3.cell? ⟨p.rb t,i,none⟩=some (.int .i64 (m.regs t i)):=HM3.out.regs t i htl (by omega)
 obtain⟨fj,fzj⟩:=G0.out j (by omega)
 have gj:W3.cell? ⟨p.rb t,j,none⟩=some (.int .i64 (m.regs t j)):=HM3.out.regs t j htl (by omega)
 clear G0
 have hwd:Wd (m.regs t j):=HX3.out.ok.regs t j
 have hfl:(m.setPc t (m.pc t+1)).faults<=900000000:=HX3.out.faults
 have hx8:=HX3.out.few htl
 cases hy:(m.setPc t (m.pc t+1)).names (m.regs t j)
 ·have HQ:Hid (M'=((m.setPc t (m.pc t+1)).addFault 1).setReg t i 0):=by show _=_;rw[HM'.out];unfold Mk.swap;rw[hy];rfl
  have HN:=hide (rnames_no hwd HM3.out (by omega) hy)
  clear HM3 HX3 hwd hy HM'
  generalize m.regs t i=Ri at*
  generalize m.regs t j=Rj at*
  go_wp2_with fail
  rw[<-hW3]
  clear hT hA hR hC zt q0 q1 q2 q3 q4 lW2 lk2 lt2 lr2 hW3
  refine HN.out.mono ?_
  rintro e w4 ⟨⟨c4,g4,rfl⟩,k4⟩
  clear HN
  replace y1:=G3.out.keep k4 y1
  replace y2:=G3.out.keep k4 y2
  have G4:=hide (G3.out.trans k4)
  have HM4:=hide G4.out.step.at'
  have lr4:p.rb t<w4.heap.size:=HM4.out.lr htl
  have lx4:=G4.out.lt
  have v4:w4.cell? ⟨p.rb t,i,none⟩=some (.int .i64 (((m.setPc t (m.pc t+1)).addFault 1).regs t i)):=HM4.out.regs t i htl (by omega)
  have z4:w4.frozen? ⟨p.rb t,i,none⟩=false:=HM4.out.fr t i htl
  have HS:=hide ((G4.out.trans (HM4.out.setReg htl (show i<8 by omega) 0)).below (bRf.alloc nL (.cells #[.int .i64 c4, .int .i64 g4] 95)))
  clear k4 G4 HM4 G3 T3 R3 k3 y0 y3 y4
  go_wp2
  go_ret
  exact⟨rfl,_,_,by rw[HQ.out];exact HS.out.step⟩
 ·have HQ:Hid (M'=(((m.setPc t (m.pc t+1)).fence t).setMem (((m.setPc t (m.pc t+1)).fence t).mem.setWord (cellOf (m.regs t j)).toNat k (m.regs t i))).setReg t i (((m.setPc t (m.pc t+1)).fence t).mem.ar.words (cellOf (m.regs t j)).toNat k)):=by show _=_;rw[HM'.out];unfold Mk.swap;rw[hy];rfl
  have HFE:=hide (fun w' (h:RkAt cs p (m.setPc t (m.pc t+1)) w')=>rkfence_any htl h (HX3.out.waits htl) hx8 (by omega))
  obtain⟨kk,hck,hkk,hhas⟩:=HM3.out.cellAt hy
  have HN:=hide (rnames_yes hwd HM3.out hy)
  rw[hck] at HN
  obtain⟨Gn,hGn⟩: ∃Gn,Gn=genOf (m.regs t j):=⟨_,rfl⟩
  rw[<-hGn] at HN
  have hsz:((m.setPc t (m.pc t+1)).fence t).mem.ar.size=m.mem.ar.size:=(Rm.drainAll_ar _ _ _).1
  have h64:=HM3.out.mem.small
  rw[show(m.setPc t (m.pc t+1)).mem.ar.size=m.mem.ar.size from rfl] at h64 hkk
  clear HM3 HX3 hy hhas HM'
  rw[hck,Int.toNat_natCast] at HQ
  clear hck hGn hwd
  go_wp2_with fail
  rw[<-hW3]
  clear hT hA hR hC zt q0 q1 q2 q3 q4 lW2 lk2 lt2 lr2 hW3
  refine HN.out.mono ?_
  rintro e w4 ⟨rfl,hb4⟩
  clear HN
  have G4:=hide (G3.out.below hb4)
  have HM4:=hide G4.out.step.at'
  obtain⟨W5,hW5⟩: ∃W5,W5=w4.alloc (.cells #[.int .i64 kk, .int .i64 Gn] 95):=⟨_,rfl⟩
  have b5:Below w4.heap.size w4 W5:=by rw[hW5];exact bRf.alloc nL _
  have G5:=hide (G4.out.below b5)
  have R5:=hide (G4.out.other (bx':=w4.heap.size) nL b5 (by rw[hW5];simp))
  have x0:W5.cell? ⟨w4.heap.size,0,none⟩=some (.int .i64 kk):=by rw[hW5];simp
  have HF5:=hide (HFE.out W5 G5.out.step.at')
  have p1:=keep_cell b5 (keep_cell hb4 y1)
  have p2:=keep_cell b5 (keep_cell hb4 y2)
  have p3:=keep_cell b5 (keep_cell hb4 y3)
  clear HFE b5 HM4 G3 G4 T3 R3 k3 y0 y1 y2 y3 y4 hb4 gi gj
  go_wp2_with fail
  rw[<-hW5]
  clear hW5
  refine HF5.out.mono ?_
  rintro e w6 ⟨rfl,r,k6⟩
  clear HF5
  replace x0:=R5.out.keep k6 x0
  replace p1:=G5.out.keep k6 p1
  replace p2:=G5.out.keep k6 p2
  replace p3:=G5.out.keep k6 p3
  have G6:=hide (G5.out.trans k6)
  have R6:=hide (R5.out.trans k6)
  have HM6:Hid (RkAt cs (p.to r p.mv) ((m.setPc t (m.pc t+1)).fence t) w6):=hide G6.out.step.at'
  clear G5 R5 k6
  have uM:w6.cell? ⟨p.k,0,none⟩=some (.pointer (some ⟨r.mb,0,none⟩)):=HM6.out.mM
  have uC:w6.cell? ⟨r.mb,0,none⟩=some (.slice (some ⟨r.cb,0,none⟩) ((m.setPc t (m.pc t+1)).fence t).mem.ar.size r.ccap):=HM6.out.mem.mCells
  have ucc:((m.setPc t (m.pc t+1)).fence t).mem.ar.size<=r.ccap:=HM6.out.mem.ccap
  rw[hsz] at uC ucc
  have uki:(kk:Int)<m.mem.ar.size:=by omega
  have ukz:kk<((m.setPc t (m.pc t+1)).fence t).mem.ar.size:=by rw[hsz];exact hkk
  have si:w6.cell? ⟨p.rb t,i,none⟩=some (.int .i64 (m.regs t i)):=HM6.out.regs t i htl (by omega)
  have sj:w6.cell? ⟨p.rb t,j,none⟩=some (.int .i64 (m.regs t j)):=HM6.out.regs t j htl (by omega)
  have uW:w6.cell? ⟨r.cb,kk*3,none⟩=some (.slice (some ⟨r.wb kk,0,none⟩) 4 (r.wcap kk)):=HM6.out.mem.cWords kk ukz
  have ucw:4<=r.wcap kk:=HM6.out.mem.wcap kk ukz
  have uX:w6.cell? ⟨r.wb kk,k,none⟩=some (.int .i64 (((m.setPc t (m.pc t+1)).fence t).mem.ar.words kk k)):=HM6.out.mem.words kk k ukz hk
  have uZ:w6.frozen? ⟨r.wb kk,k,none⟩=false:=HM6.out.mem.fw kk _ ukz
  have HW:Hid (∀n,Stg cs p m.mem w w1.heap.size r p.mv (((m.setPc t (m.pc t+1)).fence t).setMem (((m.setPc t (m.pc t+1)).fence t).mem.setWord kk k (m.regs t i))) (((w6.drewN n).setCell ⟨r.wb kk,k,none⟩ (.int .i64 (m.regs t i))).drew)):=fun n=>(G6.out.below (Below.drewN' n)).trans (((HM6.out.drewN n).setWordM ukz hk (m.regs t i)).below bRf.drew)
  have HZ:Hid (∀n,RkStep cs (p.to r p.mv) ((m.setPc t (m.pc t+1)).fence t).mem (w6.drewN n) r p.mv (((m.setPc t (m.pc t+1)).fence t).setMem (((m.setPc t (m.pc t+1)).fence t).mem.setWord kk k (m.regs t i))) (((w6.drewN n).setCell ⟨r.wb kk,k,none⟩ (.int .i64 (m.regs t i))).drew)):=fun n=>((HM6.out.drewN n).setWordM ukz hk (m.regs t i)).below bRf.drew
  have HG:Hid (∀n,Stg cs p m.mem w w1.heap.size r p.mv ((m.setPc t (m.pc t+1)).fence t) (w6.drewN n)):=fun n=>G6.out.below (Below.drewN' n)
  generalize ((m.setPc t (m.pc t+1)).fence t).mem.ar.words kk k=V at*
  generalize m.regs t i=Ri at*
  clear G6 R6 HM6 p2 sj hsz ukz
  go_wp2_with fail
  go_quiet (fail)
  replace x0:(w6.drewN nq).cell? ⟨w4.heap.size,0,none⟩=some (.int .i64 kk):=x0
  replace p1:(w6.drewN nq).cell? ⟨w1.heap.size,1,none⟩=some (.int .i64 i):=p1
  replace p3:(w6.drewN nq).cell? ⟨w1.heap.size,3,none⟩=some (.int .i64 k):=p3
  replace uM:(w6.drewN nq).cell? ⟨p.k,0,none⟩=some (.pointer (some ⟨r.mb,0,none⟩)):=uM
  replace uC:(w6.drewN nq).cell? ⟨r.mb,0,none⟩=some (.slice (some ⟨r.cb,0,none⟩) m.mem.ar.size r.ccap):=uC
  replace uW:(w6.drewN nq).cell? ⟨r.cb,kk*3,none⟩=some (.slice (some ⟨r.wb kk,0,none⟩) 4 (r.wcap kk)):=uW
  replace uX:(w6.drewN nq).cell? ⟨r.wb kk,k,none⟩=some (.int .i64 V):=uX
  replace uZ:(w6.drewN nq).frozen? ⟨r.wb kk,k,none⟩=false:=uZ
  replace si:(w6.drewN nq).cell? ⟨p.rb t,i,none⟩=some (.int .i64 Ri):=si
  have HW2:=hide (HW.out nq)
  have HZ2:=hide (HZ.out nq)
  have HG2:=hide (HG.out nq)
  clear HW HZ HG
  generalize w6.drewN nq=w7 at*
  go_wp2_with fail
  refine wp_region_F (S:=(fun w'=>w'.cell? ⟨p.k,0,none⟩=some (.pointer (some ⟨r.mb,0,none⟩))/\w'.cell? ⟨r.mb,0,none⟩=some (.slice (some ⟨r.cb,0,none⟩) m.mem.ar.size r.ccap)/\w'.cell? ⟨r.cb,kk*3,none⟩=some (.slice (some ⟨r.wb kk,0,none⟩) 4 (r.wcap kk))/\w'.cell? ⟨r.wb kk,k,none⟩=some (.int .i64 V)/\w'.cell? ⟨w4.heap.size,0,none⟩=some (.int .i64 kk)/\w'.cell? ⟨w1.heap.size,1,none⟩=some (.int .i64 i)/\w'.cell? ⟨w1.heap.size,3,none⟩=some (.int .i64 k)/\w'.cell? ⟨p.rb t,i,none⟩=some (.int .i64 Ri))) (by kernel_rfl) (by(try dsimp only);go_keep) (fun hHeld=>?_)
  iterate 20
   refine' wpAnyF_next (sz:=21) (n:=20) (v:=_) rfl (by kernel_rfl) (fun _ _ _ h=>h) (by assumption) (Or.inl ⟨by rfl,?_⟩) ?_
   case' refine'_2=>(intro w' hSw;(try dsimp only at hSw);go_simp;try with_reducible rfl)
   try simp only[Act.put,fxs]
  clear hHeld
  refine wpAnyF_only (i:=20) rfl (by kernel_rfl) (fun K hK=>?_)
  go_simp
  refine hK.out _ _ (Or.inl (by kernel_rfl)) ?_
  clear hK K
  try simp only[Act.put,fxs]
  refine wpAnyF_done (by kernel_rfl) ?_ _
  replace p1:=HG2.out.keep HZ2.out p1
  have HM8:=hide HW2.out.step.at'
  generalize hW8:(w7.setCell ⟨r.wb kk,k,none⟩ (.int .i64 Ri)).drew=w8 at*
  have v8:w8.cell? ⟨p.rb t,i,none⟩=some (.int .i64 (((m.setPc t (m.pc t+1)).fence t).regs t i)):=HM8.out.regs t i htl hi
  have z8:w8.frozen? ⟨p.rb t,i,none⟩=false:=HM8.out.fr t i htl
  have HS:=hide (HW2.out.trans (HM8.out.setReg htl hi V))
  clear HM8 HW2 HZ2 HG2 hW8 uM uC uW uX uZ si x0 p3
  go_wp2
  go_ret
  exact⟨rfl,_,_,by rw[HQ.out];exact HS.out.step⟩
end
section
open Go.RowKit Go.Extern.Stop Go.Stop Go.Extern Go.Sort
theorem rstep_cas {cs:List (List Ins)} {p:RkPl} {m:Mk} {K t:Nat} {w:World} (D:RkX cs p m K w) {L:List Ins} (ht:cs[t]? =some L) {x:Ins} (hx:L[m.pc t]? =some x) (e:x.op=⟨#[99,97,115]⟩) {i:Nat} (hi:i<8) (ei:x.a=i) {j:Nat} (hj:j<7) (ej:x.b=j) {k:Nat} (hk:k<4) (ek:x.c=k):
  Calls Tryz.prog 25 #[.pointer (some ⟨p.k,0,none⟩), .int .i64 t] w fun e w'=>e= .returned (.int .i64 0)/\ ∃r v,RkStep cs p m.mem w r v (m.step L t) w':=by
 have ln:(j:Int)+1<8:=by omega
 have hjw:=wrapNext (n:=j) (by omega)
 have hjw2:=wrapNext2 (n:=j) (by omega)
 have hj8:j<8:=by omega
 have hj9:j+1<8:=by omega
 have ln0:(0:Int)<=(j:Int)+1:=by omega
 have hpc3:m.pc t+1<=2000:=by have h1:=lt_of_get hx;have h2:=(D.right.right t L ht).1;omega
 have hM:m.step L t=(m.setPc t (m.pc t+1)).exec L t x:=by unfold Mk.step;rw[hx]
 obtain⟨M',hM'⟩: ∃M',M'=(m.setPc t (m.pc t+1)).exec L t x:=⟨_,rfl⟩
 rw[hM, <-hM']
 rw[exec_cas (m.setPc t (m.pc t+1)) L t e] at hM'
 clear hM
 rw[ei] at hM'
 rw[ej] at hM'
 rw[ek] at hM'
 simp only[Int.toNat_natCast] at hM'
 try simp only[show ∀r,(m.setPc t (m.pc t+1)).regs t r=m.regs t r from fun _=>rfl] at hM'
 have HD:=hide (rdone_at ht hx D.at')
 obtain⟨xo,xa,xb,xc,xt⟩:=x
 dsimp only at e ei ej ek hM' ⊢
 subst e ei ej ek
 have HM':=hide hM'
 clear hM'
 obtain⟨htl,h6,hpl,hL2,hcap,hcc,ti,t6,pi,hpc2,hpw,hpw2,hr8,HIN,HX,H,d0,hT⟩:=pfx1 D ht hx
 have li:(i:Int)<8:=by omega
 have lj:(j:Int)<7:=by omega
 have lk:(k:Int)<4:=by omega
 clear D
 go_enter Tryz.func25,Tryz.ntmps25
 go_wp2_with fail
 refine HD.out.mono ?_
 rintro e w1 ⟨rfl,hb1⟩
 clear HD hT
 obtain⟨cb,off,H1,hT,hA,hR,had,c0,c1,c2,c3,c4,hC,lcb,lk,lt,lr,zt⟩:=pfx2 H HIN htl ht hx hb1
 dsimp only at c0 c1 c2 c3 c4
 obtain⟨W2,hW2⟩: ∃W2,W2=(w1.alloc (.cells #[.string ⟨#[99,97,115]⟩, .int .i64 i, .int .i64 j, .int .i64 k, .string xt] 75)).drew:=⟨_,rfl⟩
 obtain⟨b2,q0,q1,q2,q3,q4,lW2⟩:=box5d hW2
 clear HIN had
 go_wp2_with fail
 go_region
 rw[<-hW2]
 have P:=pfx3a H htl hb1 b2 lW2
 replace hC:=keep_cell b2 hC
 clear hT hA hR zt
 obtain⟨B2,H2,hT,hA,hR,zt,dk,dr1,dr2,G2,nk,nt,nr,lk2,lt2,lr2⟩:=P
 obtain⟨W3,hW3⟩: ∃W3,W3=W2.setCell ⟨p.tb,t*3+2,none⟩ (.int .i64 ((m.pc t:Int)+1)):=⟨_,rfl⟩
 have S3:Hid (RkStep cs p m.mem W2 p.rp p.mv (m.setPc t (m.pc t+1)) W3):=hide (by rw[hW3];exact H2.out.setPc htl (m.pc t+1))
 have G3:Hid (Stg cs p m.mem w w1.heap.size p.rp p.mv (m.setPc t (m.pc t+1)) W3):=hide (G2.out.trans S3.out)
 have HM3:Hid (RkAt cs p (m.setPc t (m.pc t+1)) W3):=hide G3.out.step.at'
 have HX3:Hid (RkX cs p (m.setPc t (m.pc t+1)) K W3):=hide ⟨HM3.out,HX.out.ok.setPc t hpc3,HX.out.right,HX.out.hK⟩
 have y0:=G2.out.keep S3.out q0
 have y1:=G2.out.keep S3.out q1
 have y2:=G2.out.keep S3.out q2
 have y3:=G2.out.keep S3.out q3
 have y4:=G2.out.keep S3.out q4
 have T3:=HM3.out.mT
 have R3:=HM3.out.tRegs t htl
 have k3:=HM3.out.mM
 have lW3:w1.heap.size<W3.heap.size:=G3.out.lt
 have G0:Hid (∀r,r<8->W2.cell? ⟨p.rb t,r,none⟩=some (.int .i64 (m.regs t r))/\W2.frozen? ⟨p.rb t,r,none⟩=false):=fun r hr=>⟨H2.out.regs t r htl hr,H2.out.fr t r htl⟩
 clear H2 c0 c1 c2 c3 c4 hb1 b2 B2 hW2 G2 S3 H1 lcb
 obtain⟨fi,fzi⟩:=G0.out i (by omega)
 have gi:W3.cell? ⟨p.rb t,i,none⟩=some (.int .i64 (m.regs t i)):=HM3.out.regs t i htl (by omega)
 obtain⟨fj,fzj⟩:=G0.out j hj8
 have gj:W3.cell? ⟨p.rb t,j,none⟩=some (.int .i64 (m.regs t j)):=HM3.out.regs t j htl hj8
 obtain⟨fn,fzn⟩:=G0.out (j+1) hj9
 have gn:W3.cell? ⟨p.rb t,j+1,none⟩=some (.int .i64 (m.regs t (j+1))):=HM3.out.regs t (j+1) htl hj9
 clear G0
 have hwd:Wd (m.regs t i):=HX3.out.ok.regs t i
 have hfl:(m.setPc t (m.pc t+1)).faults<=900000000:=HX3.out.faults
 have hx8:=HX3.out.few htl
 cases hy:(m.setPc t (m.pc t+1)).names (m.regs t i)
 ·have HQ:Hid (M'=((m.setPc t (m.pc t+1)).addFault 1).setReg t j 0):=by show _=_;rw[HM'.out];unfold Mk.cas;rw[hy];rfl
  have HN:=hide (rnames_no hwd HM3.out (by omega) hy)
  clear HM3 HX3 hwd hy HM'
  generalize m.regs t i=Ri at*
  generalize m.regs t j=Rj at*
  generalize m.regs t (j+1)=Rn at*
  go_wp2_with fail
  rw[<-hW3]
  clear hT hA hR hC zt q0 q1 q2 q3 q4 lW2 lk2 lt2 lr2 hW3
  refine HN.out.mono ?_
  rintro e w4 ⟨⟨c4,g4,rfl⟩,k4⟩
  clear HN
  replace y1:=G3.out.keep k4 y1
  replace y2:=G3.out.keep k4 y2
  have G4:=hide (G3.out.trans k4)
  have HM4:=hide G4.out.step.at'
  have lr4:p.rb t<w4.heap.size:=HM4.out.lr htl
  have lx4:=G4.out.lt
  have v4:w4.cell? ⟨p.rb t,j,none⟩=some (.int .i64 (((m.setPc t (m.pc t+1)).addFault 1).regs t j)):=HM4.out.regs t j htl hj8
  have z4:w4.frozen? ⟨p.rb t,j,none⟩=false:=HM4.out.fr t j htl
  have HS:=hide ((G4.out.trans (HM4.out.setReg htl (show j<8 by omega) 0)).below (bRf.alloc nL (.cells #[.int .i64 c4, .int .i64 g4] 95)))
  clear k4 G4 HM4 G3 T3 R3 k3 y0 y3 y4
  go_wp2
  go_ret
  exact⟨rfl,_,_,by rw[HQ.out];exact HS.out.step⟩
 ·have HQ:Hid (M'=(((m.setPc t (m.pc t+1)).fence t).setMem (((m.setPc t (m.pc t+1)).fence t).mem.setWord (cellOf (m.regs t i)).toNat k (casV (((m.setPc t (m.pc t+1)).fence t).mem.ar.words (cellOf (m.regs t i)).toNat k) (m.regs t j) (m.regs t (j+1))))).setReg t j (((m.setPc t (m.pc t+1)).fence t).mem.ar.words (cellOf (m.regs t i)).toNat k)):=by show _=_;rw[HM'.out];unfold Mk.cas;rw[hy];rfl
  have HFE:=hide (fun w' (h:RkAt cs p (m.setPc t (m.pc t+1)) w')=>rkfence_any htl h (HX3.out.waits htl) hx8 (by omega))
  obtain⟨kk,hck,hkk,hhas⟩:=HM3.out.cellAt hy
  have HN:=hide (rnames_yes hwd HM3.out hy)
  rw[hck] at HN
  obtain⟨Gn,hGn⟩: ∃Gn,Gn=genOf (m.regs t i):=⟨_,rfl⟩
  rw[<-hGn] at HN
  have hsz:((m.setPc t (m.pc t+1)).fence t).mem.ar.size=m.mem.ar.size:=(Rm.drainAll_ar _ _ _).1
  have h64:=HM3.out.mem.small
  rw[show(m.setPc t (m.pc t+1)).mem.ar.size=m.mem.ar.size from rfl] at h64 hkk
  clear HM3 HX3 hy hhas HM'
  rw[hck,Int.toNat_natCast] at HQ
  clear hck hGn hwd
  go_wp2_with fail
  rw[<-hW3]
  clear hT hA hR hC zt q0 q1 q2 q3 q4 lW2 lk2 lt2 lr2 hW3
  refine HN.out.mono ?_
  rintro e w4 ⟨rfl,hb4⟩
  clear HN
  have G4:=hide (G3.out.below hb4)
  have HM4:=hide G4.out.step.at'
  obtain⟨W5,hW5⟩: ∃W5,W5=w4.alloc (.cells #[.int .i64 kk, .int .i64 Gn] 95):=⟨_,rfl⟩
  have b5:Below w4.heap.size w4 W5:=by rw[hW5];exact bRf.alloc nL _
  have G5:=hide (G4.out.below b5)
  have R5:=hide (G4.out.other (bx':=w4.heap.size) nL b5 (by rw[hW5];simp))
  have x0:W5.cell? ⟨w4.heap.size,0,none⟩=some (.int .i64 kk):=by rw[hW5];simp
  have HF5:=hide (HFE.out W5 G5.out.step.at')
  have p1:=keep_cell b5 (keep_cell hb4 y1)
  have p2:=keep_cell b5 (keep_cell hb4 y2)
  have p3:=keep_cell b5 (keep_cell hb4 y3)
  clear HFE b5 HM4 G3 G4 T3 R3 k3 y0 y1 y2 y3 y4 hb4 gi gj gn
  go_wp2_with fail
  rw[<-hW5]
  clear hW5
  refine HF5.out.mono ?_
  rintro e w6 ⟨rfl,r,k6⟩
  clear HF5
  replace x0:=R5.out.keep k6 x0
  replace p1:=G5.out.keep k6 p1
  replace p2:=G5.out.keep k6 p2
  replace p3:=G5.out.keep k6 p3
  have G6:=hide (G5.out.trans k6)
  have R6:=hide (R5.out.trans k6)
  have HM6:Hid (RkAt cs (p.to r p.mv) ((m.setPc t (m.pc t+1)).fence t) w6):=hide G6.out.step.at'
  clear G5 R5 k6
  have uM:w6.cell? ⟨p.k,0,none⟩=some (.pointer (some ⟨r.mb,0,none⟩)):=HM6.out.mM
  have uC:w6.cell? ⟨r.mb,0,none⟩=some (.slice (some ⟨r.cb,0,none⟩) ((m.setPc t (m.pc t+1)).fence t).mem.ar.size r.ccap):=HM6.out.mem.mCells
  have ucc:((m.setPc t (m.pc t+1)).fence t).mem.ar.size<=r.ccap:=HM6.out.mem.ccap
  rw[hsz] at uC ucc
  have uki:(kk:Int)<m.mem.ar.size:=by omega
  have ukz:kk<((m.setPc t (m.pc t+1)).fence t).mem.ar.size:=by rw[hsz];exact hkk
  have si:w6.cell? ⟨p.rb t,i,none⟩=some (.int .i64 (m.regs t i)):=HM6.out.regs t i htl (by omega)
  have sj:w6.cell? ⟨p.rb t,j,none⟩=some (.int .i64 (m.regs t j)):=HM6.out.regs t j htl hj8
  have sn:w6.cell? ⟨p.rb t,j+1,none⟩=some (.int .i64 (m.regs t (j+1))):=HM6.out.regs t (j+1) htl hj9
  have uW:w6.cell? ⟨r.cb,kk*3,none⟩=some (.slice (some ⟨r.wb kk,0,none⟩) 4 (r.wcap kk)):=HM6.out.mem.cWords kk ukz
  have ucw:4<=r.wcap kk:=HM6.out.mem.wcap kk ukz
  have uX:w6.cell? ⟨r.wb kk,k,none⟩=some (.int .i64 (((m.setPc t (m.pc t+1)).fence t).mem.ar.words kk k)):=HM6.out.mem.words kk k ukz hk
  have uZ:w6.frozen? ⟨r.wb kk,k,none⟩=false:=HM6.out.mem.fw kk _ ukz
  by_cases hcv:((m.setPc t (m.pc t+1)).fence t).mem.ar.words kk k=m.regs t j
  ·have HQ2:Hid (M'=(((m.setPc t (m.pc t+1)).fence t).setMem (((m.setPc t (m.pc t+1)).fence t).mem.setWord kk k (m.regs t (j+1)))).setReg t j (((m.setPc t (m.pc t+1)).fence t).mem.ar.words kk k)):=by show _=_;rw[HQ.out];unfold casV;rw[if_pos hcv]
   have HW:Hid (∀n,Stg cs p m.mem w w1.heap.size r p.mv (((m.setPc t (m.pc t+1)).fence t).setMem (((m.setPc t (m.pc t+1)).fence t).mem.setWord kk k (m.regs t (j+1)))) (((w6.drewN n).setCell ⟨r.wb kk,k,none⟩ (.int .i64 (m.regs t (j+1)))).drew)):=fun n=>(G6.out.below (Below.drewN' n)).trans (((HM6.out.drewN n).setWordM ukz hk (m.regs t (j+1))).below bRf.drew)
   have HZ:Hid (∀n,RkStep cs (p.to r p.mv) ((m.setPc t (m.pc t+1)).fence t).mem (w6.drewN n) r p.mv (((m.setPc t (m.pc t+1)).fence t).setMem (((m.setPc t (m.pc t+1)).fence t).mem.setWord kk k (m.regs t (j+1)))) (((w6.drewN n).setCell ⟨r.wb kk,k,none⟩ (.int .i64 (m.regs t (j+1)))).drew)):=fun n=>((HM6.out.drewN n).setWordM ukz hk (m.regs t (j+1))).below bRf.drew
   have HG:Hid (∀n,Stg cs p m.mem w w1.heap.size r p.mv ((m.setPc t (m.pc t+1)).fence t) (w6.drewN n)):=fun n=>G6.out.below (Below.drewN' n)
   rw[<-hcv] at sj
   generalize ((m.setPc t (m.pc t+1)).fence t).mem.ar.words kk k=V at*
   clear G6 R6 HM6 si hsz ukz HQ hcv
   generalize m.regs t (j+1)=Rn at*
   go_wp2_with fail
   go_quiet (fail)
   replace x0:(w6.drewN nq).cell? ⟨w4.heap.size,0,none⟩=some (.int .i64 kk):=x0
   replace p2:(w6.drewN nq).cell? ⟨w1.heap.size,2,none⟩=some (.int .i64 j):=p2
   replace p3:(w6.drewN nq).cell? ⟨w1.heap.size,3,none⟩=some (.int .i64 k):=p3
   replace uM:(w6.drewN nq).cell? ⟨p.k,0,none⟩=some (.pointer (some ⟨r.mb,0,none⟩)):=uM
   replace uC:(w6.drewN nq).cell? ⟨r.mb,0,none⟩=some (.slice (some ⟨r.cb,0,none⟩) m.mem.ar.size r.ccap):=uC
   replace uW:(w6.drewN nq).cell? ⟨r.cb,kk*3,none⟩=some (.slice (some ⟨r.wb kk,0,none⟩) 4 (r.wcap kk)):=uW
   replace uX:(w6.drewN nq).cell? ⟨r.wb kk,k,none⟩=some (.int .i64 V):=uX
   replace uZ:(w6.drewN nq).frozen? ⟨r.wb kk,k,none⟩=false:=uZ
   replace sj:(w6.drewN nq).cell? ⟨p.rb t,j,none⟩=some (.int .i64 V):=sj
   replace sn:(w6.drewN nq).cell? ⟨p.rb t,j+1,none⟩=some (.int .i64 Rn):=sn
   have HW2:=hide (HW.out nq)
   have HZ2:=hide (HZ.out nq)
   have HG2:=hide (HG.out nq)
   clear HW HZ HG
   generalize w6.drewN nq=w7 at*
   go_wp2_with fail
   refine wp_region_F (S:=(fun w'=>w'.cell? ⟨p.k,0,none⟩=some (.pointer (some ⟨r.mb,0,none⟩))/\w'.cell? ⟨r.mb,0,none⟩=some (.slice (some ⟨r.cb,0,none⟩) m.mem.ar.size r.ccap)/\w'.cell? ⟨r.cb,kk*3,none⟩=some (.slice (some ⟨r.wb kk,0,none⟩) 4 (r.wcap kk))/\w'.cell? ⟨r.wb kk,k,none⟩=some (.int .i64 V)/\w'.cell? ⟨w4.heap.size,0,none⟩=some (.int .i64 kk)/\w'.cell? ⟨w1.heap.size,2,none⟩=some (.int .i64 j)/\w'.cell? ⟨w1.heap.size,3,none⟩=some (.int .i64 k)/\w'.cell? ⟨p.rb t,j+1,none⟩=some (.int .i64 Rn))) (by kernel_rfl) (by(try dsimp only);go_keep) (fun hHeld=>?_)
   iterate 21
    refine' wpAnyF_next (sz:=22) (n:=21) (v:=_) rfl (by kernel_rfl) (fun _ _ _ h=>h) (by assumption) (Or.inl ⟨by rfl,?_⟩) ?_
    case' refine'_2=>(intro w' hSw;(try dsimp only at hSw);go_simp;try with_reducible rfl)
    try simp only[Act.put,fxs]
   clear hHeld
   refine wpAnyF_only (i:=21) rfl (by kernel_rfl) (fun K hK=>?_)
   go_simp
   refine hK.out _ _ (Or.inl (by kernel_rfl)) ?_
   clear hK K
   try simp only[Act.put,fxs]
   refine wpAnyF_done (by kernel_rfl) ?_ _
   replace p2:=HG2.out.keep HZ2.out p2
   have HM8:=hide HW2.out.step.at'
   generalize hW8:(w7.setCell ⟨r.wb kk,k,none⟩ (.int .i64 Rn)).drew=w8 at*
   have v8:w8.cell? ⟨p.rb t,j,none⟩=some (.int .i64 (((m.setPc t (m.pc t+1)).fence t).regs t j)):=HM8.out.regs t j htl hj8
   have z8:w8.frozen? ⟨p.rb t,j,none⟩=false:=HM8.out.fr t j htl
   have HS:=hide (HW2.out.trans (HM8.out.setReg htl hj8 V))
   clear HM8 HW2 HZ2 HG2 hW8 uM uC uW uX uZ sj sn x0 p3
   go_wp2
   go_ret
   exact⟨rfl,_,_,by rw[HQ2.out];exact HS.out.step⟩
  ·have HQ2:Hid (M'=((m.setPc t (m.pc t+1)).fence t).setReg t j (((m.setPc t (m.pc t+1)).fence t).mem.ar.words kk k)):=by show _=_;rw[HQ.out];unfold casV;rw[if_neg hcv,Mk.setWord_self]
   have HS:Hid (∀n,Stg cs p m.mem w w1.heap.size r p.mv (((m.setPc t (m.pc t+1)).fence t).setReg t j (((m.setPc t (m.pc t+1)).fence t).mem.ar.words kk k)) ((w6.drewN n).setCell ⟨p.rb t,j,none⟩ (.int .i64 (((m.setPc t (m.pc t+1)).fence t).mem.ar.words kk k)))):=fun n=>(G6.out.below (Below.drewN' n)).trans ((HM6.out.drewN n).setReg htl hj8 _)
   have HF8:Hid (∀n,(w6.drewN n).frozen? ⟨p.rb t,j,none⟩=false):=fun n=>(HM6.out.drewN n).fr t j htl
   have hcb:(((m.setPc t (m.pc t+1)).fence t).mem.ar.words kk k==m.regs t j)=false:=beq_eq_false_iff_ne.2 hcv
   clear G6 R6 HM6 si sn hsz ukz HQ hcv
   generalize ((m.setPc t (m.pc t+1)).fence t).mem.ar.words kk k=V at*
   generalize m.regs t j=Rj at*
   go_wp2_with fail
   go_quiet (fail)
   replace p2:(w6.drewN nq).cell? ⟨w1.heap.size,2,none⟩=some (.int .i64 j):=p2
   replace sj:(w6.drewN nq).cell? ⟨p.rb t,j,none⟩=some (.int .i64 Rj):=sj
   have zj:=HF8.out nq
   have HS2:=hide (HS.out nq)
   clear HS HF8 x0 p1 p3 uM uC uW uX uZ
   generalize w6.drewN nq=w7 at*
   go_wp2
   go_ret
   exact⟨rfl,_,_,by rw[HQ2.out];exact HS2.out.step⟩
end
end Go.Proofs.YtdpmnlbnlnmjbaaGreatDoor
