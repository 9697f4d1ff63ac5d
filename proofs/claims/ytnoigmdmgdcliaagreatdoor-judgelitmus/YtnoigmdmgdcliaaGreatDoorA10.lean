import Derived.Test.YtnoigmdmgdcliaaGreatDoorA09
import Derived.Laws.Rows
namespace Go.Proofs.YtnoigmdmgdcliaaGreatDoor
set_option maxRecDepth 100000
set_option maxHeartbeats 8000000
section
open Go.RowKit Go.Extern.Stop Go.Stop Go.Extern Go.Sort
theorem swap1_any(was v:Int)(vb:Nat)(w:World)(hv:w.cell? ⟨vb,0,none⟩=some (.int .i64 v)):
  Calls Tryz.prog 166 #[.int .i64 was, .pointer (some ⟨vb,0,none⟩)] w fun e w'=>e= .returned (.int .i64 v)/\w'=w:=by
 go_enter Tryz.func166,Tryz.ntmps166
 go_wp2
 go_ret
 exact⟨rfl,rfl⟩
def casVal(was old v:Int):Int:=if was=old then v else was
theorem cas1_any(was old v:Int)(ob vb:Nat)(w:World)(ho:w.cell? ⟨ob,0,none⟩=some (.int .i64 old))(hv:w.cell? ⟨vb,0,none⟩=some (.int .i64 v)):
  Calls Tryz.prog 264 #[.int .i64 was, .pointer (some ⟨ob,0,none⟩), .pointer (some ⟨vb,0,none⟩)] w fun e w'=>e= .returned (.int .i64 (casVal was old v))/\w'=w:=by
 by_cases h:was=old
 ·have hb:(was==old)=true:=beq_iff_eq.2 h
  have hc:casVal was old v=v:=if_pos h
  rw[hc]
  clear h hc
  go_enter Tryz.func264,Tryz.ntmps264
  go_wp2
  go_ret
  exact⟨rfl,rfl⟩
 ·have hb:(was==old)=false:=beq_eq_false_iff_ne.2 h
  have hc:casVal was old v=was:=if_neg h
  rw[hc]
  clear h hc
  go_enter Tryz.func264,Tryz.ntmps264
  go_wp2
  go_ret
  exact⟨rfl,rfl⟩
theorem xswap_any(a:Nat->Addr)(B b:Nat)(s:Rm)(n m:Nat)(g v:Int)(vb:Nat)(w:World)(hE:EnvB a B w)(h:MmAt b s w)(hn:n<64)(hh:s.ar.has n g=true)(hm:m<4)(hv:0<=v/\v<4294967296)(hc:w.cell? ⟨vb,0,none⟩=some (.int .i64 v)):
  Calls Tryz.prog 165 #[.pointer (some ⟨b,0,none⟩), .agg #[.int .i64 n, .int .i64 g], .int .i64 m, .func (.func 166) #[] #[.pointer (some ⟨vb,0,none⟩)]] w fun e w'=>e= .returned (.tuple #[.int .i64 (s.ar.words n m), .nilIface])/\MmStep b w (s.setWord n m v) w':=by
 have hba:=box_below n g w
 have HL:Hid (∀w',Below w.heap.size w w'->Calls Tryz.prog 215 #[.pointer (some ⟨b,0,none⟩), .agg #[.int .i64 n, .int .i64 g], .int .i64 m] w' fun e w''=>e= .returned (.tuple #[.int .i64 (s.ar.words n m), .nilIface])/\Below w'.heap.size w' w''):=fun w' hb=>load_yes a b 0 s.ar n m g w' (hE.env.below hb.block) (h.ar.below hb) hn hh hm
 have HS:Hid (∀w',Below w.heap.size w w'->Calls Tryz.prog 216 #[.pointer (some ⟨b,0,none⟩), .agg #[.int .i64 n, .int .i64 g], .int .i64 m, .int .i64 v] w' fun e w''=>e= .returned .nilIface/\MmStep b w (s.setWord n m v) w''):=fun w' hb=>
  (store_yes a b 0 s.ar n m g v w' (hE.env.below hb.block) (h.ar.below hb) hn hh hm hv).mono fun _ _ ⟨e1,e2,e3⟩=>⟨e1,MmStep.of_below hb ((h.below hb).arena e2 e3)⟩
 obtain⟨q0,q1⟩:=box2c w 88 (.int .i64 n) (.int .i64 g)
 generalize s.ar.words n m=was at*
 clear h hh hE hv
 go_enter Tryz.func165,Tryz.ntmps165
 go_wp2_with fail
 generalize hw:w.alloc (.cells #[.int .i64 n, .int .i64 g] 88)=w1 at*
 have HCF:Hid (∀d os,Calls Tryz.prog 215 #[.pointer (some ⟨b,0,none⟩), .agg #[.int .i64 n, .int .i64 g], .int .i64 m] (grow (redrawn w1 d) os) fun e w''=>e= .returned (.tuple #[.int .i64 was, .nilIface])/\ ∃p:Regrown,w''=grow (redrawn w1 p.d) p.os):=fun d os=>
  Calls.regrown_of (HL.out _ (below_step hba (below_regrown w1 d os)))
 have d0:=cell_regrown q0
 have d1:=cell_regrown q1
 clear HL hw
 refine wp_region_quiet_below (by kernel_rfl) (by kernel_rfl) ?_
 repeat (first
  |go_big_quiet_step (exact HCF.out _ _)
  |quiet_step (exact HCF.out _ _))
 refine wpQuiet_nil ?_
 intro _ hw'
 obtain⟨⟨dq,osq⟩,hw''⟩:=hw'
 subst hw''
 have B3:=below_step hba (below_regrown w1 dq osq)
 have e0:=d0 dq osq
 have e1:=d1 dq osq
 clear HCF d0 d1 q0 q1
 generalize grow (redrawn w1 dq) osq=w3 at B3 e0 e1 ⊢
 have hc3:=keep_cell B3 hc
 have HA:Hid (∀k,Calls Tryz.prog 216 #[.pointer (some ⟨b,0,none⟩), .agg #[.int .i64 n, .int .i64 g], .int .i64 m, .int .i64 v] (w3.drewN k) fun e w''=>e= .returned .nilIface/\MmStep b w (s.setWord n m v) w''):=fun k=>HS.out _ (below_dN B3 k)
 have HN:Hid (∀k,Calls Tryz.prog 166 #[.int .i64 was, .pointer (some ⟨vb,0,none⟩)] (w3.drewN k) fun e w''=>e= .returned (.int .i64 v)/\w''=w3.drewN k):=fun k=>swap1_any was v vb _ hc3
 clear HS hc
 go_wp2_with fail
 go_region_with (first
  |(go_at_call 166;refine(HN.out 1).mono ?_;rintro e3 w5 ⟨rfl,rfl⟩)
  |(go_at_call 216;refine(HA.out 1).mono ?_;rintro e4 w4 ⟨rfl,H4⟩))
 all_goals
  go_wp2
  go_ret2
  exact⟨rfl,H4⟩
end
section
open Go.RowKit Go.Extern.Stop Go.Stop Go.Extern Go.Sort
theorem xcas_any(a:Nat->Addr)(B b:Nat)(s:Rm)(n m:Nat)(g old v:Int)(ob vb:Nat)(w:World)(hE:EnvB a B w)(h:MmAt b s w)(hn:n<64)(hh:s.ar.has n g=true)(hm:m<4)(hv:0<=v/\v<4294967296)(ho:w.cell? ⟨ob,0,none⟩=some (.int .i64 old))(hc:w.cell? ⟨vb,0,none⟩=some (.int .i64 v)):
  Calls Tryz.prog 165 #[.pointer (some ⟨b,0,none⟩), .agg #[.int .i64 n, .int .i64 g], .int .i64 m, .func (.func 264) #[] #[.pointer (some ⟨ob,0,none⟩), .pointer (some ⟨vb,0,none⟩)]] w fun e w'=>e= .returned (.tuple #[.int .i64 (s.ar.words n m), .nilIface])/\MmStep b w (s.setWord n m (casVal (s.ar.words n m) old v)) w':=by
 have hba:=box_below n g w
 have hr:0<=casVal (s.ar.words n m) old v/\casVal (s.ar.words n m) old v<4294967296:=by
  unfold casVal;split
  ·exact hv
  ·exact h.ar.range n m
 have HL:Hid (∀w',Below w.heap.size w w'->Calls Tryz.prog 215 #[.pointer (some ⟨b,0,none⟩), .agg #[.int .i64 n, .int .i64 g], .int .i64 m] w' fun e w''=>e= .returned (.tuple #[.int .i64 (s.ar.words n m), .nilIface])/\Below w'.heap.size w' w''):=fun w' hb=>load_yes a b 0 s.ar n m g w' (hE.env.below hb.block) (h.ar.below hb) hn hh hm
 have HS:Hid (∀w',Below w.heap.size w w'->Calls Tryz.prog 216 #[.pointer (some ⟨b,0,none⟩), .agg #[.int .i64 n, .int .i64 g], .int .i64 m, .int .i64 (casVal (s.ar.words n m) old v)] w' fun e w''=>e= .returned .nilIface/\MmStep b w (s.setWord n m (casVal (s.ar.words n m) old v)) w''):=fun w' hb=>
  (store_yes a b 0 s.ar n m g (casVal (s.ar.words n m) old v) w' (hE.env.below hb.block) (h.ar.below hb) hn hh hm hr).mono fun _ _ ⟨e1,e2,e3⟩=>⟨e1,MmStep.of_below hb ((h.below hb).arena e2 e3)⟩
 obtain⟨q0,q1⟩:=box2c w 88 (.int .i64 n) (.int .i64 g)
 generalize hcv:casVal (s.ar.words n m) old v=r at*
 generalize s.ar.words n m=was at*
 clear h hh hE hv hr
 go_enter Tryz.func165,Tryz.ntmps165
 go_wp2_with fail
 generalize hw:w.alloc (.cells #[.int .i64 n, .int .i64 g] 88)=w1 at*
 have HCF:Hid (∀d os,Calls Tryz.prog 215 #[.pointer (some ⟨b,0,none⟩), .agg #[.int .i64 n, .int .i64 g], .int .i64 m] (grow (redrawn w1 d) os) fun e w''=>e= .returned (.tuple #[.int .i64 was, .nilIface])/\ ∃p:Regrown,w''=grow (redrawn w1 p.d) p.os):=fun d os=>
  Calls.regrown_of (HL.out _ (below_step hba (below_regrown w1 d os)))
 have d0:=cell_regrown q0
 have d1:=cell_regrown q1
 clear HL hw
 refine wp_region_quiet_below (by kernel_rfl) (by kernel_rfl) ?_
 repeat (first
  |go_big_quiet_step (exact HCF.out _ _)
  |quiet_step (exact HCF.out _ _))
 refine wpQuiet_nil ?_
 intro _ hw'
 obtain⟨⟨dq,osq⟩,hw''⟩:=hw'
 subst hw''
 have B3:=below_step hba (below_regrown w1 dq osq)
 have e0:=d0 dq osq
 have e1:=d1 dq osq
 clear HCF d0 d1 q0 q1
 generalize grow (redrawn w1 dq) osq=w3 at B3 e0 e1 ⊢
 have hc3:=keep_cell B3 hc
 have ho3:=keep_cell B3 ho
 have HA:Hid (∀k,Calls Tryz.prog 216 #[.pointer (some ⟨b,0,none⟩), .agg #[.int .i64 n, .int .i64 g], .int .i64 m, .int .i64 r] (w3.drewN k) fun e w''=>e= .returned .nilIface/\MmStep b w (s.setWord n m r) w''):=fun k=>HS.out _ (below_dN B3 k)
 have HN:Hid (∀k,Calls Tryz.prog 264 #[.int .i64 was, .pointer (some ⟨ob,0,none⟩), .pointer (some ⟨vb,0,none⟩)] (w3.drewN k) fun e w''=>e= .returned (.int .i64 r)/\w''=w3.drewN k):=fun k=>by
  rw[<-hcv];exact cas1_any was old v ob vb _ ho3 hc3
 clear HS hc ho hcv
 go_wp2_with fail
 go_region_with (first
  |(go_at_call 264;refine(HN.out 1).mono ?_;rintro e3 w5 ⟨rfl,rfl⟩)
  |(go_at_call 216;refine(HA.out 1).mono ?_;rintro e4 w4 ⟨rfl,H4⟩))
 all_goals
  go_wp2
  go_ret2
  exact⟨rfl,H4⟩
abbrev swapW(w:World)(c g v:Int):World:=((w.alloc (.cells #[.int .i64 c, .int .i64 g] 88)).alloc (.cells #[.int .i64 v] 3)).alloc (.cells #[.int .i64 v] 3)
theorem swapW_below(w:World)(c g v:Int):Below w.heap.size w (swapW w c g v):=((box_below c g w).alloc (by simp) _).alloc (by simp;omega) _
theorem swapW_cells(w:World)(c g v:Int):(swapW w c g v).cell? ⟨w.heap.size,0,none⟩=some (.int .i64 c)/\(swapW w c g v).cell? ⟨w.heap.size,1,none⟩=some (.int .i64 g)/\(swapW w c g v).cell? ⟨w.heap.size+1,0,none⟩=some (.int .i64 v)/\ ∀j,j<[v].length->(swapW w c g v).cell? ⟨w.heap.size+1+1,j,none⟩=some (.int .i64 ([v].getD j 0)):=by
 refine⟨by go_simp,by go_simp,by go_simp,fun j hj=>?_⟩
 obtain rfl:j=0:=by simp at hj;omega
 go_simp
theorem mswap_ok(a:Nat->Addr)(B b:Nat)(s:Rm)(t n m:Nat)(g v:Int)(w:World)(hE:EnvB a B w)(hB:B<=b)(h:MmAt b s w)(ht:t<s.threads)(hx: ∀x∈s.waits t,x.Ok)(hn:n<64)(hm:m<4)(hh:s.ar.has n g=true)(hv:0<=v/\v<4294967296)(hg: ¬0<s.gone t (s.waits t)):
  Calls Tryz.prog 92 #[.pointer (some ⟨b,0,none⟩), .int .i64 t, .agg #[.int .i64 n, .int .i64 g], .int .i64 m, .int .i64 v] w fun e w'=>e= .returned (.tuple #[.int .i64 ((s.drainAll t (s.waits t)).ar.words n m), .nilIface])/\MmStep b w ((s.drainAll t (s.waits t)).setWord n m v) w':=by
 have hba:=swapW_below w n g v
 have hl:=h.lt
 obtain⟨q0,q1,q2,hj⟩:=swapW_cells w n g v
 have he:s.may t n g m [v]=0:=by rw[Rm.may_yes ht,Ar.chk_one_ok hh (by omega) hv]
 have HR:=mready_ok a B b s t n g m (.slice (some ⟨w.heap.size+1+1,0,none⟩) 1 1) (swapW w n g v) (hE.below hba) hB (h.below hba) ht hx (fun w' hb=>by
  have:=allow_list a b s t n g m (w.heap.size+1+1) 1 [v] (by simp) w' (hE.env.below (below_step hba hb).block) (h.below (below_step hba hb)) (fun j h=>keep_cell hb (hj j h))
  rw[he] at this
  exact this)
 rw[decide_eq_false hg,show errVal a (fenceNum false)= .nilIface from rfl] at HR
 have hh':(s.drainAll t (s.waits t)).ar.has n g=true:=by rw[Rm.drainAll_has];exact hh
 generalize s.drainAll t (s.waits t)=D at*
 have HX:Hid (∀w',MmStep b w D w'->w'.cell? ⟨w.heap.size+1,0,none⟩=some (.int .i64 v)->Calls Tryz.prog 165 #[.pointer (some ⟨b,0,none⟩), .agg #[.int .i64 n, .int .i64 g], .int .i64 m, .func (.func 166) #[] #[.pointer (some ⟨w.heap.size+1,0,none⟩)]] w' fun e w''=>e= .returned (.tuple #[.int .i64 (D.ar.words n m), .nilIface])/\MmStep b w (D.setWord n m v) w''):=fun w' hs hc=>
  (xswap_any a B b D n m g v (w.heap.size+1) w' (hE.step hB hs) hs.at' hn hh' hm hv hc).mono fun _ _ ⟨e1,e2⟩=>⟨e1,hs.trans e2⟩
 generalize D.ar.words n m=was at*
 have hmf: ∀(fn:Fn) (first cap:Array Value) (w:World),(Instr.makeFunc fn first cap).run Tryz.prog w= .ok (.func fn first cap) w:=fun _ _ _ _=>rfl
 clear h he hx hE hj hh hh' hv
 go_enter Tryz.func92,Tryz.ntmps92
 go_wp2_with fail
 refine HR.mono ?_
 rintro e0 w2 ⟨rfl,h2⟩
 have H2:=MmStep.of_below hba h2
 replace q0:=h2.turns.keep q0 (by omega)
 replace q1:=h2.turns.keep q1 (by omega)
 replace q2:=h2.turns.keep q2 (by omega)
 have HX2:=HX.out w2 H2 q2
 clear HR h2 hba HX H2
 go_wp2_with fail
 refine HX2.mono ?_
 rintro e1 w3 ⟨rfl,H3⟩
 go_wp2
 go_ret2
 exact⟨rfl,H3⟩
end
section
open Go.RowKit Go.Extern.Stop Go.Stop Go.Extern Go.Sort
abbrev casW(w:World)(c g old v:Int):World:=(((w.alloc (.cells #[.int .i64 c, .int .i64 g] 88)).alloc (.cells #[.int .i64 old] 3)).alloc (.cells #[.int .i64 v] 3)).alloc (.cells #[.int .i64 old, .int .i64 v] 3)
theorem casW_below(w:World)(c g old v:Int):Below w.heap.size w (casW w c g old v):=(((box_below c g w).alloc (by simp) _).alloc (by simp;omega) _).alloc (by simp;omega) _
theorem casW_cells(w:World)(c g old v:Int):(casW w c g old v).cell? ⟨w.heap.size,0,none⟩=some (.int .i64 c)/\(casW w c g old v).cell? ⟨w.heap.size,1,none⟩=some (.int .i64 g)/\(casW w c g old v).cell? ⟨w.heap.size+1,0,none⟩=some (.int .i64 old)/\(casW w c g old v).cell? ⟨w.heap.size+1+1,0,none⟩=some (.int .i64 v)/\ ∀j,j<[old,v].length->(casW w c g old v).cell? ⟨w.heap.size+1+1+1,j,none⟩=some (.int .i64 ([old,v].getD j 0)):=by
 refine⟨by go_simp,by go_simp,by go_simp,by go_simp,fun j hj=>?_⟩
 match j,hj with
 |0,_=>go_simp
 |1,_=>go_simp
theorem Ar.chk_two_ok{s:Ar}{c g k old v:Int}(h:s.has c g=true)(hk:0<=k/\k<4)(ho:0<=old/\old<4294967296)(hv:0<=v/\v<4294967296):s.chk c g k [old,v]=0:=by
 unfold Ar.chk;rw[if_pos (Ar.at_ok h hk),if_pos];simp[isW];exact⟨ho,hv⟩
theorem mcas_ok(a:Nat->Addr)(B b:Nat)(s:Rm)(t n m:Nat)(g old v:Int)(w:World)(hE:EnvB a B w)(hB:B<=b)(h:MmAt b s w)(ht:t<s.threads)(hx: ∀x∈s.waits t,x.Ok)(hn:n<64)(hm:m<4)(hh:s.ar.has n g=true)(ho:0<=old/\old<4294967296)(hv:0<=v/\v<4294967296)(hg: ¬0<s.gone t (s.waits t)):
  Calls Tryz.prog 252 #[.pointer (some ⟨b,0,none⟩), .int .i64 t, .agg #[.int .i64 n, .int .i64 g], .int .i64 m, .int .i64 old, .int .i64 v] w fun e w'=>e= .returned (.tuple #[.int .i64 ((s.drainAll t (s.waits t)).ar.words n m), .nilIface])/\MmStep b w ((s.drainAll t (s.waits t)).setWord n m (casVal ((s.drainAll t (s.waits t)).ar.words n m) old v)) w':=by
 have hba:=casW_below w n g old v
 have hl:=h.lt
 obtain⟨q0,q1,q2,q3,hj⟩:=casW_cells w n g old v
 have he:s.may t n g m [old,v]=0:=by rw[Rm.may_yes ht,Ar.chk_two_ok hh (by omega) ho hv]
 have HR:=mready_ok a B b s t n g m (.slice (some ⟨w.heap.size+1+1+1,0,none⟩) 2 2) (casW w n g old v) (hE.below hba) hB (h.below hba) ht hx (fun w' hb=>by
  have:=allow_list a b s t n g m (w.heap.size+1+1+1) 2 [old,v] (by simp) w' (hE.env.below (below_step hba hb).block) (h.below (below_step hba hb)) (fun j h=>keep_cell hb (hj j h))
  rw[he] at this
  exact this)
 rw[decide_eq_false hg,show errVal a (fenceNum false)= .nilIface from rfl] at HR
 have hh':(s.drainAll t (s.waits t)).ar.has n g=true:=by rw[Rm.drainAll_has];exact hh
 generalize s.drainAll t (s.waits t)=D at*
 have HX:Hid (∀w',MmStep b w D w'->w'.cell? ⟨w.heap.size+1,0,none⟩=some (.int .i64 old)->w'.cell? ⟨w.heap.size+1+1,0,none⟩=some (.int .i64 v)->Calls Tryz.prog 165 #[.pointer (some ⟨b,0,none⟩), .agg #[.int .i64 n, .int .i64 g], .int .i64 m, .func (.func 264) #[] #[.pointer (some ⟨w.heap.size+1,0,none⟩), .pointer (some ⟨w.heap.size+1+1,0,none⟩)]] w' fun e w''=>e= .returned (.tuple #[.int .i64 (D.ar.words n m), .nilIface])/\MmStep b w (D.setWord n m (casVal (D.ar.words n m) old v)) w''):=fun w' hs hc1 hc=>
  (xcas_any a B b D n m g old v (w.heap.size+1) (w.heap.size+1+1) w' (hE.step hB hs) hs.at' hn hh' hm hv hc1 hc).mono fun _ _ ⟨e1,e2⟩=>⟨e1,hs.trans e2⟩
 generalize casVal (D.ar.words n m) old v=r at*
 generalize D.ar.words n m=was at*
 have hmf: ∀(fn:Fn) (first cap:Array Value) (w:World),(Instr.makeFunc fn first cap).run Tryz.prog w= .ok (.func fn first cap) w:=fun _ _ _ _=>rfl
 clear h he hx hE hj hh hh' hv ho
 go_enter Tryz.func252,Tryz.ntmps252
 go_wp2_with fail
 refine HR.mono ?_
 rintro e0 w2 ⟨rfl,h2⟩
 have H2:=MmStep.of_below hba h2
 replace q0:=h2.turns.keep q0 (by omega)
 replace q1:=h2.turns.keep q1 (by omega)
 replace q2:=h2.turns.keep q2 (by omega)
 replace q3:=h2.turns.keep q3 (by omega)
 have HX2:=HX.out w2 H2 q2 q3
 clear HR h2 hba HX H2
 go_wp2_with fail
 refine HX2.mono ?_
 rintro e1 w3 ⟨rfl,H3⟩
 go_wp2
 go_ret2
 exact⟨rfl,H3⟩
end
section
open Go.RowKit Go.Extern.Stop Go.Stop Go.Extern Go.Sort
variable {Q:Exit->Act->World->Prop} {ops:Array Oper} {rest:List Oper} {P:Program} {w:World}
theorem mnew_cells(a:Nat->Addr)(c t:Int)(w:World)(hE:EnvM a w)(hc: ¬(1<=c/\c<=64)):
  Calls Tryz.prog 47 #[.int .i64 c, .int .i64 t] w fun e w'=>e= .returned (.tuple #[.pointer none,errAt (a 1)])/\Below w.heap.size w w':=by
 have HN:=new_bad a c w hE hc
 clear hc hE
 go_enter Tryz.func47,Tryz.ntmps47
 go_wp2_with fail
 refine HN.mono ?_
 rintro e0 w1 ⟨rfl,hb1⟩
 go_wp2
 go_ret2
 exact⟨rfl,hb1⟩
theorem mnew_threads(a:Nat->Addr)(c:Nat)(t:Int)(w:World)(hE:EnvM a w)(h1:1<=c)(h2:c<=64)(ht: ¬(1<=t/\t<=6)):
  Calls Tryz.prog 47 #[.int .i64 c, .int .i64 t] w fun e w'=>e= .returned (.tuple #[.pointer none,errAt (a 1)])/\Below w.heap.size w w':=by
 have HN:=new_ok c w h1 h2
 have HC:Hid (∀w',Below w.heap.size w w'->w'.cell? ⟨0,0,none⟩=some (errAt (a 1))):=fun w' hb=>(hE.below hb.block).cell 1 (by decide)
 clear hE
 by_cases t1:t<1
 ·clear ht
  go_enter Tryz.func47,Tryz.ntmps47
  go_wp2_with fail
  refine HN.mono ?_
  rintro e0 w1 ⟨rfl, -,hb1⟩
  have c1:=HC.out w1 hb1
  go_wp2
  go_quiet (fail)
  go_wp2
  go_ret2
  exact⟨rfl,below_dN hb1 _⟩
 ·have t6:6<t:=by omega
  clear ht
  go_enter Tryz.func47,Tryz.ntmps47
  go_wp2_with fail
  refine HN.mono ?_
  rintro e0 w1 ⟨rfl, -,hb1⟩
  have c1:=HC.out w1 hb1
  go_wp2
  go_quiet (fail)
  go_wp2
  go_ret2
  exact⟨rfl,below_dN hb1 _⟩
theorem new_exact(c:Nat)(w:World)(h1:1<=c)(h2:c<=64):
  Calls Tryz.prog 85 #[.int .i64 c] w fun e w'=>e= .returned (.tuple #[.pointer (some ⟨w.heap.size,0,none⟩), .nilIface])/\w'=w.alloc (.cells (Tryz.zeroCells123.setIfInBounds 0 (.int .i64 c)) 123):=by
 have i1:1<=(c:Int):=by omega
 have i2:(c:Int)<=64:=by omega
 go_enter Tryz.func85,Tryz.ntmps85
 go_wp2
 go_ret2
 exact⟨rfl,rfl⟩
theorem zeroM:Tryz.zeroCells131=((.int .i64 0::List.replicate 256 (.int .u32 0))++List.replicate 64 (.bool false)++List.replicate 263 (.int .i64 0):List Value).toArray:=by kernel_rfl
theorem zeroM_size:Tryz.zeroCells131.size=584:=by
 rw[zeroM,List.size_toArray,rows_len]
theorem zeroM_word(k:Nat)(h1:1<=k)(h2:k<257):Tryz.zeroCells131[k]? =some (.int .u32 0):=by
 rw[zeroM,List.getElem?_toArray,rows_a _ _ _ _ 256 64 263 k h1 h2]
theorem zeroM_there(k:Nat)(h1:257<=k)(h2:k<321):Tryz.zeroCells131[k]? =some (.bool false):=by
 rw[zeroM,List.getElem?_toArray,rows_b _ _ _ _ 256 64 263 k h1 h2]
theorem zeroM_rest(k:Nat)(h1:321<=k)(h2:k<584):Tryz.zeroCells131[k]? =some (.int .i64 0):=by
 rw[zeroM,List.getElem?_toArray,rows_c _ _ _ _ 256 64 263 k h1 h2]
theorem built_new(c t:Int):Tryz.prog.built 131 [(0, .agg (Tryz.zeroCells123.setIfInBounds 0 (.int .i64 c))),(1, .int .i64 t)]=some ((Tryz.zeroCells131.setIfInBounds 0 (.int .i64 c)).setIfInBounds 385 (.int .i64 t)):=by kernel_rfl
theorem new_made(c t:Int): ∃N:Array Value,Tryz.prog.built 131 [(0, .agg (Tryz.zeroCells123.setIfInBounds 0 (.int .i64 c))),(1, .int .i64 t)]=some N/\N[0]? =some (.int .i64 c)/\N[385]? =some (.int .i64 t)/\ ∀k,k≠0->k≠385->N[k]? =Tryz.zeroCells131[k]? :=by
 refine⟨_,built_new c t,?_,?_,fun k h0 h1=>?_⟩
 ·rw[Array.getElem?_setIfInBounds,if_neg (by omega),Array.getElem?_setIfInBounds,if_pos rfl,if_pos (by rw[zeroM_size];decide)]
 ·rw[Array.getElem?_setIfInBounds,if_pos rfl,if_pos (by rw[Array.size_setIfInBounds,zeroM_size];decide)]
 ·rw[Array.getElem?_setIfInBounds,if_neg (by omega),Array.getElem?_setIfInBounds,if_neg (by omega)]
theorem MmAt.fresh (c t:Nat) (N:Array Value) (w:World) (h2:c<=64) (t2:t<=6) (n0:N[0]? =some (.int .i64 c)) (nt:N[385]? =some (.int .i64 t)) (nk: ∀k,k≠0->k≠385->N[k]? =Tryz.zeroCells131[k]?):MmAt w.heap.size (Rm.fresh c t) (w.alloc (.cells N 131)) where
 ar :=by
  refine⟨h2,?_,fun j k hj hk=>?_,fun _ _=>⟨Int.le_refl _,by show(0:Int)<4294967296;decide⟩,fun j hj=>?_,fun j hj=>?_,fun _=>by show 0<4611686018427387904;decide,fun k hk=>World.frozen?_alloc_new _ _ _ _⟩
  ·rw[World.cell?_alloc_new]
   exact n0
  ·rw[World.cell?_alloc_new,nk _ (by omega) (by omega),zeroM_word _ (by omega) (by omega)]
   rfl
  ·rw[World.cell?_alloc_new,nk _ (by omega) (by omega),zeroM_there _ (by omega) (by omega)]
   rfl
  ·rw[World.cell?_alloc_new,nk _ (by omega) (by omega),zeroM_rest _ (by omega) (by omega)]
   rfl
 few:=t2
 nt :=by
  rw[World.cell?_alloc_new]
  exact nt
 line u hu:=by
  have hu':u<t:=hu
  refine⟨Nat.zero_le _,?_,fun i k hi hk=>?_,fun k hk=>World.frozen?_alloc_new _ _ _ _⟩
  ·rw[World.cell?_alloc_new,nk _ (by omega) (by omega),zeroM_rest _ (by omega) (by omega)]
   rfl
  ·rw[World.cell?_alloc_new,nk _ (by omega) (by omega),zeroM_rest _ (by omega) (by omega)]
   rfl
 rest o h1 h3:=by
  have h1':386+t*33<=o:=h1
  rw[World.cell?_alloc_new,nk _ (by omega) (by omega),zeroM_rest _ (by omega) (by omega)]
theorem wpList_build_is{o:Oper}{a:Act}(hg:o.guard=none)(t:TypeId)(parts:Array (Nat×Operand))(ho:o.op= .build t parts)(cells:Array Value) 
  (hf:P.built t (parts.map fun(i,x)=>(i,a.eval x)).toList=some cells) (h:wpList P ops Q rest (a.put o.dst (.agg cells)) w):wpList P ops Q (o::rest) a w:=
 wpList_build hg t parts ho (by rw[hf];rfl) (by rw[hf];exact h)
theorem wpList_build_two{o:Oper}{a:Act}(hg:o.guard=none)(t:TypeId)(i0 i1:Nat)(x0 x1:Operand)(ho:o.op= .build t #[(i0,x0),(i1,x1)]) 
  (v0 v1:Value) (h0:a.eval x0=v0) (h1:a.eval x1=v1) (cells:Array Value)
  (hf:P.built t [(i0,v0),(i1,v1)]=some cells) (h:wpList P ops Q rest (a.put o.dst (.agg cells)) w):wpList P ops Q (o::rest) a w:=
 wpList_build_is hg t _ ho cells (by simp[h0,h1,hf]) h
theorem arenaSize(c:Int):(Tryz.prog.info? 123).map (·.size)=some (Tryz.zeroCells123.setIfInBounds 0 (.int .i64 c)).size:=by
 rw[Array.size_setIfInBounds,zero84_size];kernel_rfl
end
end Go.Proofs.YtnoigmdmgdcliaaGreatDoor
