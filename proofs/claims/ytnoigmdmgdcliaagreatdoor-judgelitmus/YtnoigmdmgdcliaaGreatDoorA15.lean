import Derived.Test.YtnoigmdmgdcliaaGreatDoorA14
import Derived.Lib.QuietBelow
namespace Go.Proofs.YtnoigmdmgdcliaaGreatDoor
set_option maxRecDepth 100000
set_option maxHeartbeats 8000000
section
open Go.RowKit Go.Extern.Stop Go.Stop Go.Extern Go.Maps Go.WideMaps Go.Sort
variable {cs:List (List Ins)} {a:Nat->Addr} {p:MkPl} {m:Mk} {w:World} {n:Int}
theorem MkStep.setNew{v:Value}{w w':World}(h:MkStep a cs p w v m w'){b o:Nat}(u:Value)(hb:w.heap.size<=b)(hn: ¬(p.marked v).fp b)(hB:p.B<=b):MkStep a cs p w v m (w'.setCell ⟨b,o,none⟩ u):=
 ⟨h.at'.turns (S:=fun k _=>k=b) ((Turns.refl _ _).setCell _ rfl) (fun k _ e=>by rw[e];exact hn) (fun k _ e=>by rw[e];exact hB),h.turns.setNew _ hb,h.fp⟩
theorem chk_zero(s:Ar)(c g:Int):s.chk c g 0 []=if s.has c g=true then 0 else 7:=by
 rw[Ar.chk_nil]
 cases h:s.has c g
 ·rw[Ar.at_false h];rfl
 ·rw[Ar.at_ok h (by decide)];rfl
theorem named_yes(hn:Wd n)(h:MkAt a cs p m w)(hy:m.names n=true):
  Calls Tryz.prog 248 #[.pointer (some ⟨p.b,0,none⟩), .int .i64 n] w fun e w'=>e= .returned (.tuple #[.agg #[.int .i64 (cellOf n), .int .i64 (genOf n)], .bool true])/\Below w.heap.size w w':=by
 obtain⟨hz,hh⟩:=(Bool.and_eq_true _ _).mp hy
 have hn0:n≠0:=by simpa using hz
 have h1:1<=n:=by have:=hn.1;omega
 have HR:Hid (∀w',True->Calls Tryz.prog 260 #[.int .i64 n] w' fun e w''=>e= .returned (.tuple #[.agg #[.int .i64 (cellOf n), .int .i64 (genOf n)], .nilIface])/\Below w'.heap.size w' w''):=fun w' _=>ref_ok n w' h1 hn.2
 have hb0: ∀w',Below w.heap.size w w'->True:=fun _ _=>trivial
 have HC:Hid (∀w',Below w.heap.size w w'->Calls Tryz.prog 234 #[.pointer (some ⟨p.b,0,none⟩), .agg #[.int .i64 (cellOf n), .int .i64 (genOf n)], .int .i64 0, .slice none 0 0] w' fun e w''=>e= .returned .nilIface/\Below w'.heap.size w' w''):=fun w' hb=>by
  have:=check_nil a p.b 0 m.mem.ar (cellOf n) (genOf n) 0 w' (h.below hb).env.toM (h.below hb).mem.ar
  rw[chk_zero,hh] at this
  exact this
 clear hy hz hh hn h
 generalize cellOf n=c at*
 generalize genOf n=g at*
 have hba:Below w.heap.size w (w.alloc (.cells #[.int .i64 0, .int .i64 0] 88)):=box_below 0 0 w
 obtain⟨z0,z1⟩:=box2c w 88 (.int .i64 0) (.int .i64 0)
 have y0:(w.alloc (.cells #[.int .i64 0, .int .i64 0] 88)).frozen? ⟨w.heap.size,0,none⟩=false:=by simp
 have y1:(w.alloc (.cells #[.int .i64 0, .int .i64 0] 88)).frozen? ⟨w.heap.size,1,none⟩=false:=by simp
 generalize hw:w.alloc (.cells #[.int .i64 0, .int .i64 0] 88)=w1 at*
 go_enter Tryz.func248,Tryz.ntmps248
 go_wp2_with fail
 refine(HR.out _ (hb0 _ hba)).mono ?_
 rintro e w2 ⟨rfl,hb2⟩
 have hzl:w.heap.size<w1.heap.size:=bLt z0
 obtain⟨W3,hW3⟩: ∃W3,W3=w2.alloc (.cells #[.int .i64 c, .int .i64 g] 88):=⟨_,rfl⟩
 have hb3:Below w1.heap.size w1 W3:=by rw[hW3];exact hb2.alloc hb2.size _
 have q0:W3.cell? ⟨w2.heap.size,0,none⟩=some (.int .i64 c):=by rw[hW3];simp
 have q1:W3.cell? ⟨w2.heap.size,1,none⟩=some (.int .i64 g):=by rw[hW3];simp
 have r0:=keep_cell hb3 z0
 have r1:=keep_cell hb3 z1
 have x0:W3.frozen? ⟨w.heap.size,0,none⟩=false:=by rw[hb3.frozen hzl];exact y0
 have x1:W3.frozen? ⟨w.heap.size,1,none⟩=false:=by rw[hb3.frozen hzl];exact y1
 have B3:=below_step hba hb3
 have l3:w.heap.size<W3.heap.size:=bLt r0
 clear z0 z1 y0 y1 hw HR hb3
 go_wp2_with fail
 rw[<-hW3]
 clear hW3 hb2 hzl
 have HCF:Hid (∀d os,Calls Tryz.prog 234 #[.pointer (some ⟨p.b,0,none⟩), .agg #[.int .i64 c, .int .i64 g], .int .i64 0, .slice none 0 0] (grow (redrawn W3 d) os) fun e w''=>e= .returned .nilIface/\ ∃p:Regrown,w''=grow (redrawn W3 p.d) p.os):=fun d os=>
  Calls.regrown_of (HC.out _ (below_step B3 (below_regrown W3 d os)))
 have d0:=cell_regrown q0
 have d1:=cell_regrown q1
 clear HC
 go_wp2_with fail
 refine wp_region_quiet_below (by kernel_rfl) (by kernel_rfl) ?_
 repeat (first
  |go_big_quiet_step (exact HCF.out _ _)
  |quiet_step (exact HCF.out _ _))
 refine wpQuiet_nil ?_
 intro _ hw'
 obtain⟨⟨dq,osq⟩,hw''⟩:=hw'
 subst hw''
 have hb4:=below_regrown W3 dq osq
 have B4:=below_step B3 hb4
 have e0:=d0 dq osq
 have e1:=d1 dq osq
 replace r0:=keep_cell hb4 r0
 replace r1:=keep_cell hb4 r1
 have x0':(grow (redrawn W3 dq) osq).frozen? ⟨w.heap.size,0,none⟩=false:=by rw[hb4.frozen l3];exact x0
 have x1':(grow (redrawn W3 dq) osq).frozen? ⟨w.heap.size,1,none⟩=false:=by rw[hb4.frozen l3];exact x1
 clear HCF d0 d1 q0 q1 x0 x1 B3 hb4 l3
 generalize grow (redrawn W3 dq) osq=w4 at*
 go_wp2
 refine bodyPost_ret (v:= .tuple #[.agg #[.int .i64 c, .int .i64 g], .bool true]) (by simp only[results,Tryz.results248];go_simp) rfl ⟨rfl,?_⟩
 exact(B4.setCell nL _).setCell nL _
theorem named_gone(hn:Wd n)(hn0:n≠0)(h:MkAt a cs p m w)(hf:m.faults<=1000000000)(hh:m.mem.ar.has (cellOf n) (genOf n)=false):
  Calls Tryz.prog 248 #[.pointer (some ⟨p.b,0,none⟩), .int .i64 n] w fun e w'=>e= .returned (.tuple #[.agg #[.int .i64 0, .int .i64 0], .bool false])/\MkStep a cs p w p.mv (m.addFault 1) w':=by
 have h1:1<=n:=by have:=hn.1;omega
 have HR:Hid (∀w',True->Calls Tryz.prog 260 #[.int .i64 n] w' fun e w''=>e= .returned (.tuple #[.agg #[.int .i64 (cellOf n), .int .i64 (genOf n)], .nilIface])/\Below w'.heap.size w' w''):=fun w' _=>ref_ok n w' h1 hn.2
 have hb0: ∀w',Below w.heap.size w w'->True:=fun _ _=>trivial
 have HC:Hid (∀w',Below w.heap.size w w'->Calls Tryz.prog 234 #[.pointer (some ⟨p.b,0,none⟩), .agg #[.int .i64 (cellOf n), .int .i64 (genOf n)], .int .i64 0, .slice none 0 0] w' fun e w''=>e= .returned (errAt (a 6))/\Below w'.heap.size w' w''):=fun w' hb=>by
  have:=check_nil a p.b 0 m.mem.ar (cellOf n) (genOf n) 0 w' (h.below hb).env.toM (h.below hb).mem.ar
  rw[chk_zero,hh] at this
  exact this
 have H:=hide h
 clear hh hn h hn0
 generalize cellOf n=c at*
 generalize genOf n=g at*
 have hba:Below w.heap.size w (w.alloc (.cells #[.int .i64 0, .int .i64 0] 88)):=box_below 0 0 w
 obtain⟨z0,z1⟩:=box2c w 88 (.int .i64 0) (.int .i64 0)
 have y0:(w.alloc (.cells #[.int .i64 0, .int .i64 0] 88)).frozen? ⟨w.heap.size,0,none⟩=false:=by simp
 have y1:(w.alloc (.cells #[.int .i64 0, .int .i64 0] 88)).frozen? ⟨w.heap.size,1,none⟩=false:=by simp
 generalize hw:w.alloc (.cells #[.int .i64 0, .int .i64 0] 88)=w1 at*
 go_enter Tryz.func248,Tryz.ntmps248
 go_wp2_with fail
 refine(HR.out _ (hb0 _ hba)).mono ?_
 rintro e w2 ⟨rfl,hb2⟩
 have hzl:w.heap.size<w1.heap.size:=bLt z0
 obtain⟨W3,hW3⟩: ∃W3,W3=w2.alloc (.cells #[.int .i64 c, .int .i64 g] 88):=⟨_,rfl⟩
 have hb3:Below w1.heap.size w1 W3:=by rw[hW3];exact hb2.alloc hb2.size _
 have q0:W3.cell? ⟨w2.heap.size,0,none⟩=some (.int .i64 c):=by rw[hW3];simp
 have q1:W3.cell? ⟨w2.heap.size,1,none⟩=some (.int .i64 g):=by rw[hW3];simp
 have r0:=keep_cell hb3 z0
 have r1:=keep_cell hb3 z1
 have x0:W3.frozen? ⟨w.heap.size,0,none⟩=false:=by rw[hb3.frozen hzl];exact y0
 have x1:W3.frozen? ⟨w.heap.size,1,none⟩=false:=by rw[hb3.frozen hzl];exact y1
 have B3:=below_step hba hb3
 have l3:w.heap.size<W3.heap.size:=bLt r0
 clear z0 z1 y0 y1 hw HR hb3
 go_wp2_with fail
 rw[<-hW3]
 clear hW3 hb2 hzl
 have HCF:Hid (∀d os,Calls Tryz.prog 234 #[.pointer (some ⟨p.b,0,none⟩), .agg #[.int .i64 c, .int .i64 g], .int .i64 0, .slice none 0 0] (grow (redrawn W3 d) os) fun e w''=>e= .returned (errAt (a 6))/\ ∃p:Regrown,w''=grow (redrawn W3 p.d) p.os):=fun d os=>
  Calls.regrown_of (HC.out _ (below_step B3 (below_regrown W3 d os)))
 have d0:=cell_regrown q0
 have d1:=cell_regrown q1
 clear HC
 go_wp2_with fail
 refine wp_region_quiet_below (by kernel_rfl) (by kernel_rfl) ?_
 repeat (first
  |go_big_quiet_step (exact HCF.out _ _)
  |quiet_step (exact HCF.out _ _))
 refine wpQuiet_nil ?_
 intro _ hw'
 obtain⟨⟨dq,osq⟩,hw''⟩:=hw'
 subst hw''
 have hb4:=below_regrown W3 dq osq
 have B4:=below_step B3 hb4
 have e0:=d0 dq osq
 have e1:=d1 dq osq
 replace r0:=keep_cell hb4 r0
 replace r1:=keep_cell hb4 r1
 have x0':(grow (redrawn W3 dq) osq).frozen? ⟨w.heap.size,0,none⟩=false:=by rw[hb4.frozen l3];exact x0
 have x1':(grow (redrawn W3 dq) osq).frozen? ⟨w.heap.size,1,none⟩=false:=by rw[hb4.frozen l3];exact x1
 clear HCF d0 d1 q0 q1 x0 x1 B3 hb4 l3
 generalize grow (redrawn W3 dq) osq=w4 at*
 have H4:=hide (H.out.below B4)
 have hF:=H4.out.faults
 have hZ:=H4.out.frozen 640 (by decide) (by decide)
 have hlk:=H.out.lt
 have S4:Hid (∀u0 u1,MkStep a cs p w p.mv (m.addFault 1) (((w4.setCell ⟨p.b,640,none⟩ (.int .i64 ((m.faults:Int)+1))).setCell ⟨w.heap.size,0,none⟩ u0).setCell ⟨w.heap.size,1,none⟩ u1)):=fun u0 u1=>by
  have hn: ¬p.fp w.heap.size:=fun e=>by have:=H.out.fp_lt e;omega
  have hB:=H.out.pg.size
  exact((MkStep.of_below B4 H4.out.fault1).setNew u0 nL hn hB).setNew u1 nL hn hB
 clear H4 H B4
 go_wp2
 refine bodyPost_ret (v:= .tuple #[.agg #[.int .i64 0, .int .i64 0], .bool false]) (by simp only[results,Tryz.results248];go_simp) rfl ⟨rfl,?_⟩
 exact S4.out _ _
theorem named_zero(h:MkAt a cs p m w)(hf:m.faults<=1000000000):
  Calls Tryz.prog 248 #[.pointer (some ⟨p.b,0,none⟩), .int .i64 0] w fun e w'=>e= .returned (.tuple #[.agg #[.int .i64 0, .int .i64 0], .bool false])/\MkStep a cs p w p.mv (m.addFault 1) w':=by
 have HR:Hid (∀w',Env a w'->Calls Tryz.prog 260 #[.int .i64 0] w' fun e w''=>e= .returned (.tuple #[.agg #[.int .i64 0, .int .i64 0],errAt (a 4)])/\Below w'.heap.size w' w''):=fun w' hE=>ref_zero a w' hE
 have hb0: ∀w',Below w.heap.size w w'->Env a w':=fun _ hb=>(h.below hb).env
 have H:=hide h
 clear h
 have hba:Below w.heap.size w (w.alloc (.cells #[.int .i64 0, .int .i64 0] 88)):=box_below 0 0 w
 obtain⟨z0,z1⟩:=box2c w 88 (.int .i64 0) (.int .i64 0)
 have y0:(w.alloc (.cells #[.int .i64 0, .int .i64 0] 88)).frozen? ⟨w.heap.size,0,none⟩=false:=by simp
 have y1:(w.alloc (.cells #[.int .i64 0, .int .i64 0] 88)).frozen? ⟨w.heap.size,1,none⟩=false:=by simp
 generalize hw:w.alloc (.cells #[.int .i64 0, .int .i64 0] 88)=w1 at*
 go_enter Tryz.func248,Tryz.ntmps248
 go_wp2_with fail
 refine(HR.out _ (hb0 _ hba)).mono ?_
 rintro e w2 ⟨rfl,hb2⟩
 have hzl:w.heap.size<w1.heap.size:=bLt z0
 have hzl2:w.heap.size<w2.heap.size:=Nat.lt_of_lt_of_le hzl hb2.size
 have B2:=below_step hba hb2
 have r0:=keep_cell hb2 z0
 have r1:=keep_cell hb2 z1
 have x0:w2.frozen? ⟨w.heap.size,0,none⟩=false:=by rw[hb2.frozen hzl];exact y0
 have x1:w2.frozen? ⟨w.heap.size,1,none⟩=false:=by rw[hb2.frozen hzl];exact y1
 have H4:=hide (H.out.below B2)
 have hF:=(H.out.below B2).faults
 have hZ:=(H.out.below B2).frozen 640 (by decide) (by decide)
 have hlk:=H.out.lt
 have hlk2:p.b<w2.heap.size:=Nat.lt_of_lt_of_le hlk B2.size
 have S4:Hid (∀u0 u1,MkStep a cs p w p.mv (m.addFault 1) ((((w2.setCell ⟨p.b,640,none⟩ (.int .i64 ((m.faults:Int)+1))).setCell ⟨w.heap.size,0,none⟩ u0).setCell ⟨w.heap.size,1,none⟩ u1).alloc (.cells #[.int .i64 0, .int .i64 0] 88))):=fun u0 u1=>by
  have hn: ¬p.fp w.heap.size:=fun e=>by have:=H.out.fp_lt e;omega
  have hB:=H.out.pg.size
  exact(((MkStep.of_below B2 H4.out.fault1).setNew u0 nL hn hB).setNew u1 nL hn hB).below (bRf.alloc nL _)
 clear H4 H B2 z0 z1 y0 y1 hw HR hb2 hb0 hba hzl
 go_wp2
 refine bodyPost_ret (v:= .tuple #[.agg #[.int .i64 0, .int .i64 0], .bool false]) (by simp only[results,Tryz.results248];go_simp) rfl ⟨rfl,?_⟩
 exact S4.out _ _
theorem named_no(hn:Wd n)(h:MkAt a cs p m w)(hf:m.faults<=1000000000)(hy:m.names n=false):
  Calls Tryz.prog 248 #[.pointer (some ⟨p.b,0,none⟩), .int .i64 n] w fun e w'=>e= .returned (.tuple #[.agg #[.int .i64 0, .int .i64 0], .bool false])/\MkStep a cs p w p.mv (m.addFault 1) w':=by
 by_cases h0:n=0
 ·subst h0;exact named_zero h hf
 ·refine named_gone hn h0 h hf ?_
  unfold Mk.names at hy
  have hb:(n==0)=false:=beq_eq_false_iff_ne.2 h0
  rw[hb] at hy
  simpa using hy
end
section
open Go.RowKit Go.Extern.Stop Go.Stop Go.Extern Go.Maps Go.WideMaps Go.Sort
variable {cs:List (List Ins)} {a:Nat->Addr} {p:MkPl} {m:Mk} {w w':World} {b o:Nat} {v:Value}
theorem MkStep.keep(k:MkStep a cs p w v m w'){u:Value}(hc:w.cell? ⟨b,o,none⟩=some u)(hb: ¬p.fp b):w'.cell? ⟨b,o,none⟩=some u:=k.turns.keep hc hb
theorem MkStep.keepF(k:MkStep a cs p w v m w')(hl:b<w.heap.size)(hc:w.frozen? ⟨b,o,none⟩=false)(hb: ¬p.fp b):w'.frozen? ⟨b,o,none⟩=false:=by
 rw[k.turns.frozen _ _ hl hb];exact hc
theorem ready_yes{t:Nat}(ht:t<cs.length){n:Int}(hn:Wd n){w:World}(h:MkAt a cs p m w)(hx: ∀x∈m.mem.waits t,x.Ok)(hf:m.faults<=900000000)(hy:m.names n=true):
  Calls Tryz.prog 251 #[.pointer (some ⟨p.b,0,none⟩), .int .i64 t, .int .i64 n] w fun e w'=>e= .returned (.tuple #[.agg #[.int .i64 (cellOf n), .int .i64 (genOf n)], .bool true])/\MkStep a cs p w p.mv (m.fence t) w':=by
 have HN:Hid (∀w',Below w.heap.size w w'->Calls Tryz.prog 248 #[.pointer (some ⟨p.b,0,none⟩), .int .i64 n] w' fun e w''=>e= .returned (.tuple #[.agg #[.int .i64 (cellOf n), .int .i64 (genOf n)], .bool true])/\Below w'.heap.size w' w''):=fun w' hb=>named_yes hn (h.below hb) hy
 have HF:Hid (∀w',Below w.heap.size w w'->Calls Tryz.prog 241 #[.pointer (some ⟨p.b,0,none⟩), .int .i64 t] w' fun e w''=>e= .returned (.tuple #[])/\MkStep a cs p w' p.mv (m.fence t) w''):=fun w' hb=>kfence_any ht (h.below hb) hx hf
 have H:=hide h
 clear hy hn h hx hf
 generalize cellOf n=c at*
 generalize genOf n=g at*
 have hba:Below w.heap.size w (w.alloc (.cells #[.int .i64 0, .int .i64 0] 88)):=box_below 0 0 w
 obtain⟨z0,z1⟩:=box2c w 88 (.int .i64 0) (.int .i64 0)
 have y0:(w.alloc (.cells #[.int .i64 0, .int .i64 0] 88)).frozen? ⟨w.heap.size,0,none⟩=false:=by simp
 have y1:(w.alloc (.cells #[.int .i64 0, .int .i64 0] 88)).frozen? ⟨w.heap.size,1,none⟩=false:=by simp
 generalize hw:w.alloc (.cells #[.int .i64 0, .int .i64 0] 88)=w1 at*
 go_enter Tryz.func251,Tryz.ntmps251
 go_wp2_with fail
 refine(HN.out _ hba).mono ?_
 rintro e w2 ⟨rfl,hb2⟩
 have hzl:w.heap.size<w1.heap.size:=bLt z0
 obtain⟨W3,hW3⟩: ∃W3,W3=w2.alloc (.cells #[.int .i64 c, .int .i64 g] 88):=⟨_,rfl⟩
 have hb3:Below w1.heap.size w1 W3:=by rw[hW3];exact hb2.alloc hb2.size _
 have q0:W3.cell? ⟨w2.heap.size,0,none⟩=some (.int .i64 c):=by rw[hW3];simp
 have q1:W3.cell? ⟨w2.heap.size,1,none⟩=some (.int .i64 g):=by rw[hW3];simp
 have r0:=keep_cell hb3 z0
 have r1:=keep_cell hb3 z1
 have x0:W3.frozen? ⟨w.heap.size,0,none⟩=false:=by rw[hb3.frozen hzl];exact y0
 have x1:W3.frozen? ⟨w.heap.size,1,none⟩=false:=by rw[hb3.frozen hzl];exact y1
 have B3:=below_step hba hb3
 have l3:w.heap.size<W3.heap.size:=bLt r0
 have n0: ¬p.fp w.heap.size:=fun e=>by have:=H.out.fp_lt e;omega
 have n2: ¬p.fp w2.heap.size:=fun e=>by have:=H.out.fp_lt e;have:=hb2.size;omega
 clear z0 z1 y0 y1 hw HN hb3
 go_wp2_with fail
 rw[<-hW3]
 clear hW3 hb2 hzl
 refine(HF.out _ B3).mono ?_
 rintro e w4 ⟨rfl,h4⟩
 replace q0:=h4.keep q0 n2
 replace q1:=h4.keep q1 n2
 replace r0:=h4.keep r0 n0
 replace r1:=h4.keep r1 n0
 replace x0:=h4.keepF l3 x0 n0
 replace x1:=h4.keepF l3 x1 n0
 have S4:Hid (∀u0 u1,MkStep a cs p w p.mv (m.fence t) ((w4.setCell ⟨w.heap.size,0,none⟩ u0).setCell ⟨w.heap.size,1,none⟩ u1)):=fun u0 u1=>by
  have hB:=H.out.pg.size
  exact((MkStep.of_below B3 h4).setNew u0 nL n0 hB).setNew u1 nL n0 hB
 clear h4 H B3 n0 n2 HF
 go_wp2
 refine bodyPost_ret (v:= .tuple #[.agg #[.int .i64 c, .int .i64 g], .bool true]) (by simp only[results,Tryz.results251];go_simp) rfl ⟨rfl,?_⟩
 exact S4.out _ _
theorem ready_no{t:Nat}{n:Int}(hn:Wd n){w:World}(h:MkAt a cs p m w)(hf:m.faults<=900000000)(hy:m.names n=false):
  Calls Tryz.prog 251 #[.pointer (some ⟨p.b,0,none⟩), .int .i64 t, .int .i64 n] w fun e w'=>e= .returned (.tuple #[.agg #[.int .i64 0, .int .i64 0], .bool false])/\MkStep a cs p w p.mv (m.addFault 1) w':=by
 have HN:Hid (∀w',Below w.heap.size w w'->Calls Tryz.prog 248 #[.pointer (some ⟨p.b,0,none⟩), .int .i64 n] w' fun e w''=>e= .returned (.tuple #[.agg #[.int .i64 0, .int .i64 0], .bool false])/\MkStep a cs p w' p.mv (m.addFault 1) w''):=fun w' hb=>named_no hn (h.below hb) (by omega) hy
 have H:=hide h
 clear hy hn h hf
 generalize m.addFault 1=m' at*
 have hba:Below w.heap.size w (w.alloc (.cells #[.int .i64 0, .int .i64 0] 88)):=box_below 0 0 w
 obtain⟨z0,z1⟩:=box2c w 88 (.int .i64 0) (.int .i64 0)
 have y0:(w.alloc (.cells #[.int .i64 0, .int .i64 0] 88)).frozen? ⟨w.heap.size,0,none⟩=false:=by simp
 have y1:(w.alloc (.cells #[.int .i64 0, .int .i64 0] 88)).frozen? ⟨w.heap.size,1,none⟩=false:=by simp
 generalize hw:w.alloc (.cells #[.int .i64 0, .int .i64 0] 88)=w1 at*
 go_enter Tryz.func251,Tryz.ntmps251
 go_wp2_with fail
 refine(HN.out _ hba).mono ?_
 rintro e w2 ⟨rfl,h2⟩
 have hzl:w.heap.size<w1.heap.size:=bLt z0
 have n0: ¬p.fp w.heap.size:=fun e=>by have:=H.out.fp_lt e;omega
 have hzl2:w.heap.size<w2.heap.size:=Nat.lt_of_lt_of_le hzl h2.turns.size
 have r0:=h2.keep z0 n0
 have r1:=h2.keep z1 n0
 have x0:=h2.keepF hzl y0 n0
 have x1:=h2.keepF hzl y1 n0
 have S4:Hid (∀u0 u1,MkStep a cs p w p.mv m' (((w2.setCell ⟨w.heap.size,0,none⟩ u0).setCell ⟨w.heap.size,1,none⟩ u1).alloc (.cells #[.int .i64 0, .int .i64 0] 88))):=fun u0 u1=>by
  have hB:=H.out.pg.size
  exact(((MkStep.of_below hba h2).setNew u0 nL n0 hB).setNew u1 nL n0 hB).below (bRf.alloc nL _)
 clear h2 H n0 z0 z1 y0 y1 HN hw hba
 go_wp2
 refine bodyPost_ret (v:= .tuple #[.agg #[.int .i64 0, .int .i64 0], .bool false]) (by simp only[results,Tryz.results251];go_simp) rfl ⟨rfl,?_⟩
 exact S4.out _ _
end
section
open Go.RowKit Go.Extern.Stop Go.Stop Go.Extern Go.Maps Go.WideMaps Go.Sort
variable {cs:List (List Ins)} {a:Nat->Addr} {w:World} {p:MkPl} {m:Mk} {n:Int} {t:Nat} {wi:Nat}
theorem Mk.fence_waits(m:Mk)(t:Nat):(m.fence t).mem.waits t=[]:=Rm.drainAll_waits _ _ _ rfl
theorem Mk.fence_has(m:Mk)(t:Nat)(c g:Int):(m.fence t).mem.ar.has c g=m.mem.ar.has c g:=Rm.drainAll_has _ _ _ _ _
theorem Mk.fence_names(m:Mk)(t:Nat)(n:Int):(m.fence t).names n=m.names n:=by
 unfold Mk.names
 rw[Mk.fence_has]
theorem Mk.names_has(h:m.names n=true):m.mem.ar.has (cellOf n) (genOf n)=true:=((Bool.and_eq_true _ _).mp h).2
theorem MkAt.cell(h:MkAt a cs p m w)(hy:m.names n=true): ∃k:Nat,cellOf n=k/\k<64/\m.mem.ar.has k (genOf n)=true:=by
 have hh:=Mk.names_has hy
 obtain⟨k,hc,hk, -, -⟩:=Ar.has_lt hh
 have h64:=h.mem.ar.small
 exact⟨k,hc,by omega,by rw[<-hc];exact hh⟩
theorem mem_load(h:MkAt a cs p m w)(ht:t<cs.length)(hy:m.names n=true)(hw:wi<4):
  Calls Tryz.prog 249 #[.pointer (some ⟨p.b,0,none⟩), .int .i64 t, .agg #[.int .i64 (cellOf n), .int .i64 (genOf n)], .int .i64 wi] w fun e w'=>e= .returned (.tuple #[.int .i64 (m.loaded t n wi), .nilIface])/\Below w.heap.size w w':=by
 obtain⟨k,hc,hk,hh⟩:=h.cell hy
 have:=mload_ok a p.b m.mem t k wi (genOf n) w h.env.toM h.mem (by rw[h.thr];exact ht) hk hh hw
 unfold Mk.loaded
 rw[hc]
 exact this
theorem mem_swap(h:MkAt a cs p m w)(ht:t<cs.length)(hws:m.mem.waits t=[])(hy:m.names n=true)(hw:wi<4){v:Int}(hv:Wd v):
  Calls Tryz.prog 92 #[.pointer (some ⟨p.b,0,none⟩), .int .i64 t, .agg #[.int .i64 (cellOf n), .int .i64 (genOf n)], .int .i64 wi, .int .i64 v] w fun e w'=>e= .returned (.tuple #[.int .i64 (m.word n wi), .nilIface])/\MkStep a cs p w p.mv (m.setWord n wi v) w':=by
 obtain⟨k,hc,hk,hh⟩:=h.cell hy
 have:=mswap_ok a p.B p.b m.mem t k wi (genOf n) v w h.pg.envB h.hB h.mem (by rw[h.thr];exact ht) (by rw[hws];exact fun x hx=>absurd hx List.not_mem_nil) hk hw hh hv (by rw[hws];exact Nat.lt_irrefl _)
 rw[hws] at this
 unfold Mk.word Mk.setWord
 rw[hc]
 exact this.mono fun e w' ⟨e1,e2⟩=>⟨e1,h.ofMem e2 rfl⟩
theorem mem_cas(h:MkAt a cs p m w)(ht:t<cs.length)(hws:m.mem.waits t=[])(hy:m.names n=true)(hw:wi<4){old v:Int}(ho:Wd old)(hv:Wd v):
  Calls Tryz.prog 252 #[.pointer (some ⟨p.b,0,none⟩), .int .i64 t, .agg #[.int .i64 (cellOf n), .int .i64 (genOf n)], .int .i64 wi, .int .i64 old, .int .i64 v] w fun e w'=>e= .returned (.tuple #[.int .i64 (m.word n wi), .nilIface])/\MkStep a cs p w p.mv (m.setWord n wi (casV (m.word n wi) old v)) w':=by
 obtain⟨k,hc,hk,hh⟩:=h.cell hy
 have:=mcas_ok a p.B p.b m.mem t k wi (genOf n) old v w h.pg.envB h.hB h.mem (by rw[h.thr];exact ht) (by rw[hws];exact fun x hx=>absurd hx List.not_mem_nil) hk hw hh ho hv (by rw[hws];exact Nat.lt_irrefl _)
 rw[hws] at this
 unfold Mk.word Mk.setWord
 rw[hc]
 exact this.mono fun e w' ⟨e1,e2⟩=>⟨e1,h.ofMem e2 rfl⟩
theorem mem_free(h:MkAt a cs p m w)(ht:t<cs.length)(hws:m.mem.waits t=[])(hy:m.names n=true):
  Calls Tryz.prog 253 #[.pointer (some ⟨p.b,0,none⟩), .int .i64 t, .agg #[.int .i64 (cellOf n), .int .i64 (genOf n)]] w fun e w'=>e= .returned .nilIface/\MkStep a cs p w p.mv (m.setMem (m.mem.setThere (cellOf n).toNat false)) w':=by
 obtain⟨k,hc,hk,hh⟩:=h.cell hy
 have:=mfree_ok a p.B p.b m.mem t k (genOf n) w h.pg.envB h.hB h.mem (by rw[h.thr];exact ht) (by rw[hws];exact fun x hx=>absurd hx List.not_mem_nil) hk hh (by rw[hws];exact Nat.lt_irrefl _)
 rw[hws] at this
 rw[hc]
 exact this.mono fun e w' ⟨e1,e2⟩=>⟨e1,h.ofMem e2 rfl⟩
theorem mem_store(h:MkAt a cs p m w)(ht:t<cs.length)(h8:(m.mem.waits t).length<8)(hy:m.names n=true)(hw:wi<4){v:Int}(hv:Wd v):
  Calls Tryz.prog 250 #[.pointer (some ⟨p.b,0,none⟩), .int .i64 t, .agg #[.int .i64 (cellOf n), .int .i64 (genOf n)], .int .i64 wi, .int .i64 v] w fun e w'=>e= .returned .nilIface/\MkStep a cs p w p.mv (m.put t n wi v) w':=by
 have ht':t<m.mem.threads:=by rw[h.thr];exact ht
 have hm:m.mem.may t (cellOf n) (genOf n) wi [v]=0:=by rw[Rm.may_yes ht'];exact Ar.chk_one_ok (Mk.names_has hy) (by omega) hv
 have:=mstore_ok a p.b m.mem t (cellOf n) (genOf n) wi v w h.env.toM h.mem ht' hm h8
 exact this.mono fun e w' ⟨e1,e2⟩=>⟨e1,h.ofMem e2 rfl⟩
theorem mem_alloc_none(h:MkAt a cs p m w)(ht:t<cs.length)(hf:m.mem.ar.free?=none):
  Calls Tryz.prog 91 #[.pointer (some ⟨p.b,0,none⟩), .int .i64 t] w fun e w'=>e= .returned (.tuple #[.agg #[.int .i64 0, .int .i64 0],errAt (a 5)])/\Below w.heap.size w w':=
 malloc_full a p.b m.mem t w h.env.toM h.mem (by rw[h.thr];exact ht) (Ar.free_none hf)
theorem mem_alloc_some(h:MkAt a cs p m w){t c:Nat}(ht:t<cs.length)(hf:m.mem.ar.free?=some c)(hg:m.mem.ar.given c<=60000000):
  Calls Tryz.prog 91 #[.pointer (some ⟨p.b,0,none⟩), .int .i64 t] w fun e w'=>e= .returned (.tuple #[.agg #[.int .i64 c, .int .i64 (m.mem.ar.given c)], .nilIface])/\MkStep a cs p w p.mv (m.setMem (m.mem.give c)) w':=by
 obtain⟨h1,h2,h3⟩:=Ar.free_some hf
 exact(malloc_some p.b m.mem t c w h.mem (by rw[h.thr];exact ht) h1 h2 h3 (by omega)).mono fun e w' ⟨e1,e2⟩=>⟨e1,h.ofMem e2 rfl⟩
end
section
open Go.RowKit Go.Extern.Stop Go.Stop Go.Extern Go.Maps Go.WideMaps Go.Sort
variable {cs:List (List Ins)} {a:Nat->Addr} {w:World} {p:MkPl} {n:Int} {t:Nat} {m:Mk} {wi:Nat}
theorem box2(w:World)(x y:Int):(w.alloc (.cells #[.int .i64 x, .int .i64 y] 88)).cell? ⟨w.heap.size,0,none⟩=some (.int .i64 x)/\(w.alloc (.cells #[.int .i64 x, .int .i64 y] 88)).cell? ⟨w.heap.size,1,none⟩=some (.int .i64 y):=⟨by simp,by simp⟩
theorem kload_yes(h:MkAt a cs p m w)(ht:t<cs.length)(hn:Wd n)(hy:m.names n=true)(hw:wi<4):
  Calls Tryz.prog 235 #[.pointer (some ⟨p.b,0,none⟩), .int .i64 t, .int .i64 n, .int .i64 wi] w fun e w'=>e= .returned (.int .i64 (m.loaded t n wi))/\Below w.heap.size w w':=by
 have HN:=hide (named_yes hn h hy)
 have HL:Hid (∀w',Below w.heap.size w w'->Calls Tryz.prog 249 #[.pointer (some ⟨p.b,0,none⟩), .int .i64 t, .agg #[.int .i64 (cellOf n), .int .i64 (genOf n)], .int .i64 wi] w' fun e w''=>e= .returned (.tuple #[.int .i64 (m.loaded t n wi), .nilIface])/\Below w'.heap.size w' w''):=fun w' hb=>mem_load (h.below hb) ht hy hw
 clear h hy hn
 generalize cellOf n=c at*
 generalize genOf n=g at*
 generalize m.loaded t n wi=V at*
 go_enter Tryz.func235,Tryz.ntmps235
 go_wp2_with fail
 refine HN.out.mono ?_
 rintro e w1 ⟨rfl,hb1⟩
 obtain⟨W3,hW3⟩: ∃W3,W3=w1.alloc (.cells #[.int .i64 c, .int .i64 g] 88):=⟨_,rfl⟩
 obtain⟨q0,q1⟩:=box2 w1 c g
 have B3:Below w.heap.size w W3:=by rw[hW3];exact hb1.alloc hb1.size _
 rw[<-hW3] at q0 q1
 clear HN hb1
 go_wp2_with fail
 rw[<-hW3]
 clear hW3
 have B4:=below_dN B3 1
 go_region_with (go_at_call 249;refine(HL.out _ B4).mono ?_;rintro e w4 ⟨rfl,hb4⟩)
 all_goals
  go_wp2
  go_ret
  exact⟨rfl,below_step B4 hb4⟩
theorem kload_no(h:MkAt a cs p m w)(hn:Wd n)(hf:m.faults<=900000000)(hy:m.names n=false)(wi:Int):
  Calls Tryz.prog 235 #[.pointer (some ⟨p.b,0,none⟩), .int .i64 t, .int .i64 n, .int .i64 wi] w fun e w'=>e= .returned (.int .i64 0)/\MkStep a cs p w p.mv (m.addFault 1) w':=by
 have HN:=hide (named_no hn h (by omega) hy)
 clear h hy hn hf
 go_enter Tryz.func235,Tryz.ntmps235
 go_wp2_with fail
 refine HN.out.mono ?_
 rintro e w1 ⟨rfl,h1⟩
 have H1:=hide (h1.below (bRf.alloc nL (.cells #[.int .i64 0, .int .i64 0] 88)))
 clear h1 HN
 go_wp2
 go_ret
 exact⟨rfl,H1.out⟩
theorem kswap_yes(h:MkAt a cs p m w)(ht:t<cs.length)(hx: ∀x∈m.mem.waits t,x.Ok)(hf:m.faults<=900000000)(hn:Wd n)(hy:m.names n=true)(hw:wi<4){v:Int}(hv:Wd v):
  Calls Tryz.prog 237 #[.pointer (some ⟨p.b,0,none⟩), .int .i64 t, .int .i64 n, .int .i64 wi, .int .i64 v] w fun e w'=>e= .returned (.int .i64 ((m.fence t).word n wi))/\MkStep a cs p w p.mv ((m.fence t).setWord n wi v) w':=by
 have HN:=hide (ready_yes ht hn h hx hf hy)
 have HL:Hid (∀w',MkStep a cs p w p.mv (m.fence t) w'->Calls Tryz.prog 92 #[.pointer (some ⟨p.b,0,none⟩), .int .i64 t, .agg #[.int .i64 (cellOf n), .int .i64 (genOf n)], .int .i64 wi, .int .i64 v] w' fun e w''=>e= .returned (.tuple #[.int .i64 ((m.fence t).word n wi), .nilIface])/\MkStep a cs p w p.mv ((m.fence t).setWord n wi v) w''):=fun w' k=>by
  have q:=mem_swap k.at' ht (Mk.fence_waits m t) (n:=n) (by rw[Mk.fence_names];exact hy) hw hv
  exact q.mono fun e w'' ⟨e1,e2⟩=>⟨e1,k.trans e2⟩
 clear h hy hn hx hf hw hv
 generalize (m.fence t).setWord n wi v=m' at*
 generalize (m.fence t).word n wi=V at*
 generalize cellOf n=c at*
 generalize genOf n=g at*
 go_enter Tryz.func237,Tryz.ntmps237
 go_wp2_with fail
 refine HN.out.mono ?_
 rintro e w1 ⟨rfl,h1⟩
 obtain⟨W3,hW3⟩: ∃W3,W3=w1.alloc (.cells #[.int .i64 c, .int .i64 g] 88):=⟨_,rfl⟩
 obtain⟨q0,q1⟩:=box2 w1 c g
 have H3:Hid (MkStep a cs p w p.mv (m.fence t) W3):=by rw[hW3];exact hide (h1.below (bRf.alloc nL _))
 rw[<-hW3] at q0 q1
 clear HN h1
 go_wp2_with fail
 rw[<-hW3]
 clear hW3
 have H4:=hide (H3.out.below (Below.drewN' 1))
 go_region_with (go_at_call 92;refine(HL.out _ H4.out).mono ?_;rintro e w4 ⟨rfl,h4⟩)
 all_goals
  go_wp2
  go_ret
  exact⟨rfl,h4⟩
theorem kcas_yes(h:MkAt a cs p m w)(ht:t<cs.length)(hx: ∀x∈m.mem.waits t,x.Ok)(hf:m.faults<=900000000)(hn:Wd n)(hy:m.names n=true)(hw:wi<4){old v:Int}(ho:Wd old)(hv:Wd v):
  Calls Tryz.prog 238 #[.pointer (some ⟨p.b,0,none⟩), .int .i64 t, .int .i64 n, .int .i64 wi, .int .i64 old, .int .i64 v] w fun e w'=>e= .returned (.int .i64 ((m.fence t).word n wi))/\MkStep a cs p w p.mv ((m.fence t).setWord n wi (casV ((m.fence t).word n wi) old v)) w':=by
 have HN:=hide (ready_yes ht hn h hx hf hy)
 have HL:Hid (∀w',MkStep a cs p w p.mv (m.fence t) w'->Calls Tryz.prog 252 #[.pointer (some ⟨p.b,0,none⟩), .int .i64 t, .agg #[.int .i64 (cellOf n), .int .i64 (genOf n)], .int .i64 wi, .int .i64 old, .int .i64 v] w' fun e w''=>e= .returned (.tuple #[.int .i64 ((m.fence t).word n wi), .nilIface])/\MkStep a cs p w p.mv ((m.fence t).setWord n wi (casV ((m.fence t).word n wi) old v)) w''):=fun w' k=>by
  have q:=mem_cas k.at' ht (Mk.fence_waits m t) (n:=n) (by rw[Mk.fence_names];exact hy) hw ho hv
  exact q.mono fun e w'' ⟨e1,e2⟩=>⟨e1,k.trans e2⟩
 clear h hy hn hx hf hw ho hv
 generalize (m.fence t).setWord n wi (casV ((m.fence t).word n wi) old v)=m' at*
 generalize (m.fence t).word n wi=V at*
 generalize cellOf n=c at*
 generalize genOf n=g at*
 go_enter Tryz.func238,Tryz.ntmps238
 go_wp2_with fail
 refine HN.out.mono ?_
 rintro e w1 ⟨rfl,h1⟩
 obtain⟨W3,hW3⟩: ∃W3,W3=w1.alloc (.cells #[.int .i64 c, .int .i64 g] 88):=⟨_,rfl⟩
 obtain⟨q0,q1⟩:=box2 w1 c g
 have H3:Hid (MkStep a cs p w p.mv (m.fence t) W3):=by rw[hW3];exact hide (h1.below (bRf.alloc nL _))
 rw[<-hW3] at q0 q1
 clear HN h1
 go_wp2_with fail
 rw[<-hW3]
 clear hW3
 have H4:=hide (H3.out.below (Below.drewN' 1))
 go_region_with (go_at_call 252;refine(HL.out _ H4.out).mono ?_;rintro e w4 ⟨rfl,h4⟩)
 all_goals
  go_wp2
  go_ret
  exact⟨rfl,h4⟩
theorem kfree_yes(h:MkAt a cs p m w)(ht:t<cs.length)(hx: ∀x∈m.mem.waits t,x.Ok)(hf:m.faults<=900000000)(hn:Wd n)(hy:m.names n=true):
  Calls Tryz.prog 240 #[.pointer (some ⟨p.b,0,none⟩), .int .i64 t, .int .i64 n] w fun e w'=>e= .returned (.tuple #[])/\MkStep a cs p w p.mv ((m.fence t).setMem ((m.fence t).mem.setThere (cellOf n).toNat false)) w':=by
 have HN:=hide (ready_yes ht hn h hx hf hy)
 have HL:Hid (∀w',MkStep a cs p w p.mv (m.fence t) w'->Calls Tryz.prog 253 #[.pointer (some ⟨p.b,0,none⟩), .int .i64 t, .agg #[.int .i64 (cellOf n), .int .i64 (genOf n)]] w' fun e w''=>e= .returned .nilIface/\MkStep a cs p w p.mv ((m.fence t).setMem ((m.fence t).mem.setThere (cellOf n).toNat false)) w''):=fun w' k=>by
  have q:=mem_free k.at' ht (Mk.fence_waits m t) (n:=n) (by rw[Mk.fence_names];exact hy) 
  exact q.mono fun e w'' ⟨e1,e2⟩=>⟨e1,k.trans e2⟩
 clear h hy hn hx hf
 generalize (m.fence t).setMem ((m.fence t).mem.setThere (cellOf n).toNat false)=m' at*
 generalize cellOf n=c at*
 generalize genOf n=g at*
 go_enter Tryz.func240,Tryz.ntmps240
 go_wp2_with fail
 refine HN.out.mono ?_
 rintro e w1 ⟨rfl,h1⟩
 obtain⟨W3,hW3⟩: ∃W3,W3=w1.alloc (.cells #[.int .i64 c, .int .i64 g] 88):=⟨_,rfl⟩
 obtain⟨q0,q1⟩:=box2 w1 c g
 have H3:Hid (MkStep a cs p w p.mv (m.fence t) W3):=by rw[hW3];exact hide (h1.below (bRf.alloc nL _))
 rw[<-hW3] at q0 q1
 clear HN h1
 go_wp2_with fail
 rw[<-hW3]
 clear hW3
 have H4:=hide (H3.out.below (Below.drewN' 1))
 go_region_with (go_at_call 253;refine(HL.out _ H4.out).mono ?_;rintro e w4 ⟨rfl,h4⟩)
 all_goals
  go_wp2
  go_end0
  exact⟨rfl,h4⟩
theorem kswap_no(h:MkAt a cs p m w)(hn:Wd n)(hf:m.faults<=900000000)(hy:m.names n=false)(wi v:Int):
  Calls Tryz.prog 237 #[.pointer (some ⟨p.b,0,none⟩), .int .i64 t, .int .i64 n, .int .i64 wi, .int .i64 v] w fun e w'=>e= .returned (.int .i64 0)/\MkStep a cs p w p.mv (m.addFault 1) w':=by
 have HN:=hide (ready_no (t:=t) hn h hf hy)
 clear h hy hn hf
 go_enter Tryz.func237,Tryz.ntmps237
 go_wp2_with fail
 refine HN.out.mono ?_
 rintro e w1 ⟨rfl,h1⟩
 have H1:=hide (h1.below (bRf.alloc nL (.cells #[.int .i64 0, .int .i64 0] 88)))
 clear h1 HN
 go_wp2
 go_ret
 exact⟨rfl,H1.out⟩
theorem kcas_no(h:MkAt a cs p m w)(hn:Wd n)(hf:m.faults<=900000000)(hy:m.names n=false)(wi old v:Int):
  Calls Tryz.prog 238 #[.pointer (some ⟨p.b,0,none⟩), .int .i64 t, .int .i64 n, .int .i64 wi, .int .i64 old, .int .i64 v] w fun e w'=>e= .returned (.int .i64 0)/\MkStep a cs p w p.mv (m.addFault 1) w':=by
 have HN:=hide (ready_no (t:=t) hn h hf hy)
 clear h hy hn hf
 go_enter Tryz.func238,Tryz.ntmps238
 go_wp2_with fail
 refine HN.out.mono ?_
 rintro e w1 ⟨rfl,h1⟩
 have H1:=hide (h1.below (bRf.alloc nL (.cells #[.int .i64 0, .int .i64 0] 88)))
 clear h1 HN
 go_wp2
 go_ret
 exact⟨rfl,H1.out⟩
theorem kfree_no(h:MkAt a cs p m w)(hn:Wd n)(hf:m.faults<=900000000)(hy:m.names n=false):
  Calls Tryz.prog 240 #[.pointer (some ⟨p.b,0,none⟩), .int .i64 t, .int .i64 n] w fun e w'=>e= .returned (.tuple #[])/\MkStep a cs p w p.mv (m.addFault 1) w':=by
 have HN:=hide (ready_no (t:=t) hn h hf hy)
 clear h hy hn hf
 go_enter Tryz.func240,Tryz.ntmps240
 go_wp2_with fail
 refine HN.out.mono ?_
 rintro e w1 ⟨rfl,h1⟩
 have H1:=hide (h1.below (bRf.alloc nL (.cells #[.int .i64 0, .int .i64 0] 88)))
 clear h1 HN
 go_wp2
 go_end0
 exact⟨rfl,H1.out⟩
end
end Go.Proofs.YtnoigmdmgdcliaaGreatDoor
