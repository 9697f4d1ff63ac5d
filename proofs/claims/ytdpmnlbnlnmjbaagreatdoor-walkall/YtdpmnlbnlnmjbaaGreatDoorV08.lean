import Derived.Test.YtdpmnlbnlnmjbaaGreatDoorV07
import Derived.Laws.Rows
import Derived.Test.YtdpmnlbnlnmjbaaGreatDoorProg
import Derived.Test.YtdpmnlbnlnmjbaaGreatDoorV06
import Derived.WalkKit
import Derived.Test.YtdpmnlbnlnmjbaaGreatDoorV01
import Derived.Deep.QuietTactic
import Derived.Lib.ConvBytes
import Derived.Lib.AtoiErrMem
namespace Go.Proofs.YtdpmnlbnlnmjbaaGreatDoor
set_option maxRecDepth 100000
set_option maxHeartbeats 8000000
section
open Go.RowKit Go.Extern.Stop Go.Stop Go.Extern Go.Sort
theorem xcas_any(a:Nat->Addr)(B b:Nat)(s:Rm)(n m:Nat)(g old v:Int)(ob vb:Nat)(w:World)(hE:EnvB a B w)(h:MmAt b s w)(hn:n<64)(hh:s.ar.has n g=true)(hm:m<4)(hv:0<=v/\v<4294967296)(ho:w.cell? ⟨ob,0,none⟩=some (.int .i64 old))(hc:w.cell? ⟨vb,0,none⟩=some (.int .i64 v)):
  Calls Tryz.prog 105 #[.pointer (some ⟨b,0,none⟩), .agg #[.int .i64 n, .int .i64 g], .int .i64 m, .func (.func 152) #[] #[.pointer (some ⟨ob,0,none⟩), .pointer (some ⟨vb,0,none⟩)]] w fun e w'=>e= .returned (.tuple #[.int .i64 (s.ar.words n m), .nilIface])/\MmStep b w (s.setWord n m (casVal (s.ar.words n m) old v)) w':=by
 have hba:=box_below n g w
 have hr:0<=casVal (s.ar.words n m) old v/\casVal (s.ar.words n m) old v<4294967296:=by
  unfold casVal;split
  ·exact hv
  ·exact h.ar.range n m
 have HL:Hid (∀w',Below w.heap.size w w'->Calls Tryz.prog 114 #[.pointer (some ⟨b,0,none⟩), .agg #[.int .i64 n, .int .i64 g], .int .i64 m] w' fun e w''=>e= .returned (.tuple #[.int .i64 (s.ar.words n m), .nilIface])/\Below w'.heap.size w' w''):=fun w' hb=>load_yes a b 0 s.ar n m g w' (hE.env.below hb.block) (h.ar.below hb) hn hh hm
 have HS:Hid (∀w',Below w.heap.size w w'->Calls Tryz.prog 93 #[.pointer (some ⟨b,0,none⟩), .agg #[.int .i64 n, .int .i64 g], .int .i64 m, .int .i64 (casVal (s.ar.words n m) old v)] w' fun e w''=>e= .returned .nilIface/\MmStep b w (s.setWord n m (casVal (s.ar.words n m) old v)) w''):=fun w' hb=>
  (store_yes a b 0 s.ar n m g (casVal (s.ar.words n m) old v) w' (hE.env.below hb.block) (h.ar.below hb) hn hh hm hr).mono fun _ _ ⟨e1,e2,e3⟩=>⟨e1,MmStep.of_below hb ((h.below hb).arena e2 e3)⟩
 obtain⟨q0,q1⟩:=box2c w 95 (.int .i64 n) (.int .i64 g)
 generalize hcv:casVal (s.ar.words n m) old v=r at*
 generalize s.ar.words n m=was at*
 clear h hh hE hv hr
 go_enter Tryz.func105,Tryz.ntmps105
 go_wp2_with fail
 generalize hw:w.alloc (.cells #[.int .i64 n, .int .i64 g] 95)=w1 at*
 have HCF:Hid (∀d os,Calls Tryz.prog 114 #[.pointer (some ⟨b,0,none⟩), .agg #[.int .i64 n, .int .i64 g], .int .i64 m] (grow (redrawn w1 d) os) fun e w''=>e= .returned (.tuple #[.int .i64 was, .nilIface])/\ ∃p:Regrown,w''=grow (redrawn w1 p.d) p.os):=fun d os=>
  Calls.regrown_of (HL.out _ (below_step hba (below_regrown w1 d os)))
 have d0:=cell_regrown q0
 have d1:=cell_regrown q1
 clear HL hw
 refine wp_region_quiet_below (by kernel_rfl) (by kernel_rfl) ?_
 repeat (first
  |go_big_quiet_step (exact HCF.out _ _)
  |quiet_step (exact HCF.out _ _))
 refine wpQuiet_nil ?_
 intro _ hw'
 obtain⟨⟨dq,osq⟩,hw''⟩:=hw'
 subst hw''
 have B3:=below_step hba (below_regrown w1 dq osq)
 have e0:=d0 dq osq
 have e1:=d1 dq osq
 clear HCF d0 d1 q0 q1
 generalize grow (redrawn w1 dq) osq=w3 at B3 e0 e1 ⊢
 have hc3:=keep_cell B3 hc
 have ho3:=keep_cell B3 ho
 have HA:Hid (∀k,Calls Tryz.prog 93 #[.pointer (some ⟨b,0,none⟩), .agg #[.int .i64 n, .int .i64 g], .int .i64 m, .int .i64 r] (w3.drewN k) fun e w''=>e= .returned .nilIface/\MmStep b w (s.setWord n m r) w''):=fun k=>HS.out _ (below_dN B3 k)
 have HN:Hid (∀k,Calls Tryz.prog 152 #[.int .i64 was, .pointer (some ⟨ob,0,none⟩), .pointer (some ⟨vb,0,none⟩)] (w3.drewN k) fun e w''=>e= .returned (.int .i64 r)/\w''=w3.drewN k):=fun k=>by
  rw[<-hcv];exact cas1_any was old v ob vb _ ho3 hc3
 clear HS hc ho hcv
 go_wp2_with fail
 go_region_with (first
  |(go_at_call 152;refine(HN.out 1).mono ?_;rintro e3 w5 ⟨rfl,rfl⟩)
  |(go_at_call 93;refine(HA.out 1).mono ?_;rintro e4 w4 ⟨rfl,H4⟩))
 all_goals
  go_wp2
  go_ret2
  exact⟨rfl,H4⟩
abbrev swapW(w:World)(c g v:Int):World:=((w.alloc (.cells #[.int .i64 c, .int .i64 g] 95)).alloc (.cells #[.int .i64 v] 3)).alloc (.cells #[.int .i64 v] 3)
theorem swapW_below(w:World)(c g v:Int):Below w.heap.size w (swapW w c g v):=((box_below c g w).alloc (by simp) _).alloc (by simp;omega) _
theorem swapW_cells(w:World)(c g v:Int):(swapW w c g v).cell? ⟨w.heap.size,0,none⟩=some (.int .i64 c)/\(swapW w c g v).cell? ⟨w.heap.size,1,none⟩=some (.int .i64 g)/\(swapW w c g v).cell? ⟨w.heap.size+1,0,none⟩=some (.int .i64 v)/\ ∀j,j<[v].length->(swapW w c g v).cell? ⟨w.heap.size+1+1,j,none⟩=some (.int .i64 ([v].getD j 0)):=by
 refine⟨by go_simp,by go_simp,by go_simp,fun j hj=>?_⟩
 obtain rfl:j=0:=by simp at hj;omega
 go_simp
theorem mswap_ok(a:Nat->Addr)(B b:Nat)(s:Rm)(t n m:Nat)(g v:Int)(w:World)(hE:EnvB a B w)(hB:B<=b)(h:MmAt b s w)(ht:t<s.threads)(hx: ∀x∈s.waits t,x.Ok)(hn:n<64)(hm:m<4)(hh:s.ar.has n g=true)(hv:0<=v/\v<4294967296)(hg: ¬0<s.gone t (s.waits t)):
  Calls Tryz.prog 76 #[.pointer (some ⟨b,0,none⟩), .int .i64 t, .agg #[.int .i64 n, .int .i64 g], .int .i64 m, .int .i64 v] w fun e w'=>e= .returned (.tuple #[.int .i64 ((s.drainAll t (s.waits t)).ar.words n m), .nilIface])/\MmStep b w ((s.drainAll t (s.waits t)).setWord n m v) w':=by
 have hba:=swapW_below w n g v
 have hl:=h.lt
 obtain⟨q0,q1,q2,hj⟩:=swapW_cells w n g v
 have he:s.may t n g m [v]=0:=by rw[Rm.may_yes ht,Ar.chk_one_ok hh (by omega) hv]
 have HR:=mready_ok a B b s t n g m (.slice (some ⟨w.heap.size+1+1,0,none⟩) 1 1) (swapW w n g v) (hE.below hba) hB (h.below hba) ht hx (fun w' hb=>by
  have:=allow_list a b s t n g m (w.heap.size+1+1) 1 [v] (by simp) w' (hE.env.below (below_step hba hb).block) (h.below (below_step hba hb)) (fun j h=>keep_cell hb (hj j h))
  rw[he] at this
  exact this)
 rw[decide_eq_false hg,show errVal a (fenceNum false)= .nilIface from rfl] at HR
 have hh':(s.drainAll t (s.waits t)).ar.has n g=true:=by rw[Rm.drainAll_has];exact hh
 generalize s.drainAll t (s.waits t)=D at*
 have HX:Hid (∀w',MmStep b w D w'->w'.cell? ⟨w.heap.size+1,0,none⟩=some (.int .i64 v)->Calls Tryz.prog 105 #[.pointer (some ⟨b,0,none⟩), .agg #[.int .i64 n, .int .i64 g], .int .i64 m, .func (.func 106) #[] #[.pointer (some ⟨w.heap.size+1,0,none⟩)]] w' fun e w''=>e= .returned (.tuple #[.int .i64 (D.ar.words n m), .nilIface])/\MmStep b w (D.setWord n m v) w''):=fun w' hs hc=>
  (xswap_any a B b D n m g v (w.heap.size+1) w' (hE.step hB hs) hs.at' hn hh' hm hv hc).mono fun _ _ ⟨e1,e2⟩=>⟨e1,hs.trans e2⟩
 generalize D.ar.words n m=was at*
 have hmf: ∀(fn:Fn) (first cap:Array Value) (w:World),(Instr.makeFunc fn first cap).run Tryz.prog w= .ok (.func fn first cap) w:=fun _ _ _ _=>rfl
 clear h he hx hE hj hh hh' hv
 go_enter Tryz.func76,Tryz.ntmps76
 go_wp2_with fail
 refine HR.mono ?_
 rintro e0 w2 ⟨rfl,h2⟩
 have H2:=MmStep.of_below hba h2
 replace q0:=h2.turns.keep q0 (by omega)
 replace q1:=h2.turns.keep q1 (by omega)
 replace q2:=h2.turns.keep q2 (by omega)
 have HX2:=HX.out w2 H2 q2
 clear HR h2 hba HX H2
 go_wp2_with fail
 refine HX2.mono ?_
 rintro e1 w3 ⟨rfl,H3⟩
 go_wp2
 go_ret2
 exact⟨rfl,H3⟩
end
section
open Go.RowKit Go.Extern.Stop Go.Stop Go.Extern Go.Sort
abbrev casW(w:World)(c g old v:Int):World:=(((w.alloc (.cells #[.int .i64 c, .int .i64 g] 95)).alloc (.cells #[.int .i64 old] 3)).alloc (.cells #[.int .i64 v] 3)).alloc (.cells #[.int .i64 old, .int .i64 v] 3)
theorem casW_below(w:World)(c g old v:Int):Below w.heap.size w (casW w c g old v):=(((box_below c g w).alloc (by simp) _).alloc (by simp;omega) _).alloc (by simp;omega) _
theorem casW_cells(w:World)(c g old v:Int):(casW w c g old v).cell? ⟨w.heap.size,0,none⟩=some (.int .i64 c)/\(casW w c g old v).cell? ⟨w.heap.size,1,none⟩=some (.int .i64 g)/\(casW w c g old v).cell? ⟨w.heap.size+1,0,none⟩=some (.int .i64 old)/\(casW w c g old v).cell? ⟨w.heap.size+1+1,0,none⟩=some (.int .i64 v)/\ ∀j,j<[old,v].length->(casW w c g old v).cell? ⟨w.heap.size+1+1+1,j,none⟩=some (.int .i64 ([old,v].getD j 0)):=by
 refine⟨by go_simp,by go_simp,by go_simp,by go_simp,fun j hj=>?_⟩
 match j,hj with
 |0,_=>go_simp
 |1,_=>go_simp
theorem Ar.chk_two_ok{s:Ar}{c g k old v:Int}(h:s.has c g=true)(hk:0<=k/\k<4)(ho:0<=old/\old<4294967296)(hv:0<=v/\v<4294967296):s.chk c g k [old,v]=0:=by
 unfold Ar.chk;rw[if_pos (Ar.at_ok h hk),if_pos];simp[isW];exact⟨ho,hv⟩
theorem mcas_ok(a:Nat->Addr)(B b:Nat)(s:Rm)(t n m:Nat)(g old v:Int)(w:World)(hE:EnvB a B w)(hB:B<=b)(h:MmAt b s w)(ht:t<s.threads)(hx: ∀x∈s.waits t,x.Ok)(hn:n<64)(hm:m<4)(hh:s.ar.has n g=true)(ho:0<=old/\old<4294967296)(hv:0<=v/\v<4294967296)(hg: ¬0<s.gone t (s.waits t)):
  Calls Tryz.prog 139 #[.pointer (some ⟨b,0,none⟩), .int .i64 t, .agg #[.int .i64 n, .int .i64 g], .int .i64 m, .int .i64 old, .int .i64 v] w fun e w'=>e= .returned (.tuple #[.int .i64 ((s.drainAll t (s.waits t)).ar.words n m), .nilIface])/\MmStep b w ((s.drainAll t (s.waits t)).setWord n m (casVal ((s.drainAll t (s.waits t)).ar.words n m) old v)) w':=by
 have hba:=casW_below w n g old v
 have hl:=h.lt
 obtain⟨q0,q1,q2,q3,hj⟩:=casW_cells w n g old v
 have he:s.may t n g m [old,v]=0:=by rw[Rm.may_yes ht,Ar.chk_two_ok hh (by omega) ho hv]
 have HR:=mready_ok a B b s t n g m (.slice (some ⟨w.heap.size+1+1+1,0,none⟩) 2 2) (casW w n g old v) (hE.below hba) hB (h.below hba) ht hx (fun w' hb=>by
  have:=allow_list a b s t n g m (w.heap.size+1+1+1) 2 [old,v] (by simp) w' (hE.env.below (below_step hba hb).block) (h.below (below_step hba hb)) (fun j h=>keep_cell hb (hj j h))
  rw[he] at this
  exact this)
 rw[decide_eq_false hg,show errVal a (fenceNum false)= .nilIface from rfl] at HR
 have hh':(s.drainAll t (s.waits t)).ar.has n g=true:=by rw[Rm.drainAll_has];exact hh
 generalize s.drainAll t (s.waits t)=D at*
 have HX:Hid (∀w',MmStep b w D w'->w'.cell? ⟨w.heap.size+1,0,none⟩=some (.int .i64 old)->w'.cell? ⟨w.heap.size+1+1,0,none⟩=some (.int .i64 v)->Calls Tryz.prog 105 #[.pointer (some ⟨b,0,none⟩), .agg #[.int .i64 n, .int .i64 g], .int .i64 m, .func (.func 152) #[] #[.pointer (some ⟨w.heap.size+1,0,none⟩), .pointer (some ⟨w.heap.size+1+1,0,none⟩)]] w' fun e w''=>e= .returned (.tuple #[.int .i64 (D.ar.words n m), .nilIface])/\MmStep b w (D.setWord n m (casVal (D.ar.words n m) old v)) w''):=fun w' hs hc1 hc=>
  (xcas_any a B b D n m g old v (w.heap.size+1) (w.heap.size+1+1) w' (hE.step hB hs) hs.at' hn hh' hm hv hc1 hc).mono fun _ _ ⟨e1,e2⟩=>⟨e1,hs.trans e2⟩
 generalize casVal (D.ar.words n m) old v=r at*
 generalize D.ar.words n m=was at*
 have hmf: ∀(fn:Fn) (first cap:Array Value) (w:World),(Instr.makeFunc fn first cap).run Tryz.prog w= .ok (.func fn first cap) w:=fun _ _ _ _=>rfl
 clear h he hx hE hj hh hh' hv ho
 go_enter Tryz.func139,Tryz.ntmps139
 go_wp2_with fail
 refine HR.mono ?_
 rintro e0 w2 ⟨rfl,h2⟩
 have H2:=MmStep.of_below hba h2
 replace q0:=h2.turns.keep q0 (by omega)
 replace q1:=h2.turns.keep q1 (by omega)
 replace q2:=h2.turns.keep q2 (by omega)
 replace q3:=h2.turns.keep q3 (by omega)
 have HX2:=HX.out w2 H2 q2 q3
 clear HR h2 hba HX H2
 go_wp2_with fail
 refine HX2.mono ?_
 rintro e1 w3 ⟨rfl,H3⟩
 go_wp2
 go_ret2
 exact⟨rfl,H3⟩
end
section
open Go.RowKit Go.Extern.Stop Go.Stop Go.Extern Go.Sort
variable {Q:Exit->Act->World->Prop} {ops:Array Oper} {rest:List Oper} {P:Program} {w:World}
theorem mnew_cells(a:Nat->Addr)(c t:Int)(w:World)(hE:EnvM a w)(hc: ¬(1<=c/\c<=64)):
  Calls Tryz.prog 35 #[.int .i64 c, .int .i64 t] w fun e w'=>e= .returned (.tuple #[.pointer none,errAt (a 1)])/\Below w.heap.size w w':=by
 have HN:=new_bad a c w hE hc
 clear hc hE
 go_enter Tryz.func35,Tryz.ntmps35
 go_wp2_with fail
 refine HN.mono ?_
 rintro e0 w1 ⟨rfl,hb1⟩
 go_wp2
 go_ret2
 exact⟨rfl,hb1⟩
theorem mnew_threads(a:Nat->Addr)(c:Nat)(t:Int)(w:World)(hE:EnvM a w)(h1:1<=c)(h2:c<=64)(ht: ¬(1<=t/\t<=6)):
  Calls Tryz.prog 35 #[.int .i64 c, .int .i64 t] w fun e w'=>e= .returned (.tuple #[.pointer none,errAt (a 1)])/\Below w.heap.size w w':=by
 have HN:=new_ok c w h1 h2
 have HC:Hid (∀w',Below w.heap.size w w'->w'.cell? ⟨0,0,none⟩=some (errAt (a 1))):=fun w' hb=>(hE.below hb.block).cell 1 (by decide)
 clear hE
 by_cases t1:t<1
 ·clear ht
  go_enter Tryz.func35,Tryz.ntmps35
  go_wp2_with fail
  refine HN.mono ?_
  rintro e0 w1 ⟨rfl, -,hb1⟩
  have c1:=HC.out w1 hb1
  go_wp2
  go_quiet (fail)
  go_wp2
  go_ret2
  exact⟨rfl,below_dN hb1 _⟩
 ·have t6:6<t:=by omega
  clear ht
  go_enter Tryz.func35,Tryz.ntmps35
  go_wp2_with fail
  refine HN.mono ?_
  rintro e0 w1 ⟨rfl, -,hb1⟩
  have c1:=HC.out w1 hb1
  go_wp2
  go_quiet (fail)
  go_wp2
  go_ret2
  exact⟨rfl,below_dN hb1 _⟩
theorem new_exact(c:Nat)(w:World)(h1:1<=c)(h2:c<=64):
  Calls Tryz.prog 69 #[.int .i64 c] w fun e w'=>e= .returned (.tuple #[.pointer (some ⟨w.heap.size,0,none⟩), .nilIface])/\w'=w.alloc (.cells (Tryz.zeroCells93.setIfInBounds 0 (.int .i64 c)) 93):=by
 have i1:1<=(c:Int):=by omega
 have i2:(c:Int)<=64:=by omega
 go_enter Tryz.func69,Tryz.ntmps69
 go_wp2
 go_ret2
 exact⟨rfl,rfl⟩
theorem zeroM:Tryz.zeroCells103=((.int .i64 0::List.replicate 256 (.int .u32 0))++List.replicate 64 (.bool false)++List.replicate 263 (.int .i64 0):List Value).toArray:=by kernel_rfl
theorem zeroM_size:Tryz.zeroCells103.size=584:=by
 rw[zeroM,List.size_toArray,rows_len]
theorem zeroM_word(k:Nat)(h1:1<=k)(h2:k<257):Tryz.zeroCells103[k]? =some (.int .u32 0):=by
 rw[zeroM,List.getElem?_toArray,rows_a _ _ _ _ 256 64 263 k h1 h2]
theorem zeroM_there(k:Nat)(h1:257<=k)(h2:k<321):Tryz.zeroCells103[k]? =some (.bool false):=by
 rw[zeroM,List.getElem?_toArray,rows_b _ _ _ _ 256 64 263 k h1 h2]
theorem zeroM_rest(k:Nat)(h1:321<=k)(h2:k<584):Tryz.zeroCells103[k]? =some (.int .i64 0):=by
 rw[zeroM,List.getElem?_toArray,rows_c _ _ _ _ 256 64 263 k h1 h2]
theorem built_new(c t:Int):Tryz.prog.built 103 [(0, .agg (Tryz.zeroCells93.setIfInBounds 0 (.int .i64 c))),(1, .int .i64 t)]=some ((Tryz.zeroCells103.setIfInBounds 0 (.int .i64 c)).setIfInBounds 385 (.int .i64 t)):=by kernel_rfl
theorem new_made(c t:Int): ∃N:Array Value,Tryz.prog.built 103 [(0, .agg (Tryz.zeroCells93.setIfInBounds 0 (.int .i64 c))),(1, .int .i64 t)]=some N/\N[0]? =some (.int .i64 c)/\N[385]? =some (.int .i64 t)/\ ∀k,k≠0->k≠385->N[k]? =Tryz.zeroCells103[k]? :=by
 refine⟨_,built_new c t,?_,?_,fun k h0 h1=>?_⟩
 ·rw[Array.getElem?_setIfInBounds,if_neg (by omega),Array.getElem?_setIfInBounds,if_pos rfl,if_pos (by rw[zeroM_size];decide)]
 ·rw[Array.getElem?_setIfInBounds,if_pos rfl,if_pos (by rw[Array.size_setIfInBounds,zeroM_size];decide)]
 ·rw[Array.getElem?_setIfInBounds,if_neg (by omega),Array.getElem?_setIfInBounds,if_neg (by omega)]
theorem MmAt.fresh (c t:Nat) (N:Array Value) (w:World) (h2:c<=64) (t2:t<=6) (n0:N[0]? =some (.int .i64 c)) (nt:N[385]? =some (.int .i64 t)) (nk: ∀k,k≠0->k≠385->N[k]? =Tryz.zeroCells103[k]?):MmAt w.heap.size (Rm.fresh c t) (w.alloc (.cells N 103)) where
 ar :=by
  refine⟨h2,?_,fun j k hj hk=>?_,fun _ _=>⟨Int.le_refl _,by show(0:Int)<4294967296;decide⟩,fun j hj=>?_,fun j hj=>?_,fun _=>by show 0<4611686018427387904;decide,fun k hk=>World.frozen?_alloc_new _ _ _ _⟩
  ·rw[World.cell?_alloc_new]
   exact n0
  ·rw[World.cell?_alloc_new,nk _ (by omega) (by omega),zeroM_word _ (by omega) (by omega)]
   rfl
  ·rw[World.cell?_alloc_new,nk _ (by omega) (by omega),zeroM_there _ (by omega) (by omega)]
   rfl
  ·rw[World.cell?_alloc_new,nk _ (by omega) (by omega),zeroM_rest _ (by omega) (by omega)]
   rfl
 few:=t2
 nt :=by
  rw[World.cell?_alloc_new]
  exact nt
 line u hu:=by
  have hu':u<t:=hu
  refine⟨Nat.zero_le _,?_,fun i k hi hk=>?_,fun k hk=>World.frozen?_alloc_new _ _ _ _⟩
  ·rw[World.cell?_alloc_new,nk _ (by omega) (by omega),zeroM_rest _ (by omega) (by omega)]
   rfl
  ·rw[World.cell?_alloc_new,nk _ (by omega) (by omega),zeroM_rest _ (by omega) (by omega)]
   rfl
 rest o h1 h3:=by
  have h1':386+t*33<=o:=h1
  rw[World.cell?_alloc_new,nk _ (by omega) (by omega),zeroM_rest _ (by omega) (by omega)]
theorem wpList_build_is{o:Oper}{a:Act}(hg:o.guard=none)(t:TypeId)(parts:Array (Nat×Operand))(ho:o.op= .build t parts)(cells:Array Value) 
  (hf:P.built t (parts.map fun(i,x)=>(i,a.eval x)).toList=some cells) (h:wpList P ops Q rest (a.put o.dst (.agg cells)) w):wpList P ops Q (o::rest) a w:=
 wpList_build hg t parts ho (by rw[hf];rfl) (by rw[hf];exact h)
theorem wpList_build_two{o:Oper}{a:Act}(hg:o.guard=none)(t:TypeId)(i0 i1:Nat)(x0 x1:Operand)(ho:o.op= .build t #[(i0,x0),(i1,x1)]) 
  (v0 v1:Value) (h0:a.eval x0=v0) (h1:a.eval x1=v1) (cells:Array Value)
  (hf:P.built t [(i0,v0),(i1,v1)]=some cells) (h:wpList P ops Q rest (a.put o.dst (.agg cells)) w):wpList P ops Q (o::rest) a w:=
 wpList_build_is hg t _ ho cells (by simp[h0,h1,hf]) h
theorem arenaSize(c:Int):(Tryz.prog.info? 93).map (·.size)=some (Tryz.zeroCells93.setIfInBounds 0 (.int .i64 c)).size:=by
 rw[Array.size_setIfInBounds,zero84_size];kernel_rfl
end
section
open Go.RowKit Go.Extern.Stop Go.Stop Go.Extern
def limOf(S:List UInt8)(k:Nat):Int:=if k<nums S then mostOf (byteAt ⟨S.toArray⟩ k) else 0
def kindV(S:List UInt8):Value:= .agg #[.int .i64 (limOf S 0), .int .i64 (limOf S 1), .int .i64 (limOf S 2), .bool (hasTo S)]
def kindRet:Option (List UInt8)->Value
 |some S=> .tuple #[kindV S, .bool true]
 |none=> .tuple #[kindV [], .bool false]
theorem kindOf_any (op:ByteArray) (w:World):
  Calls Tryz.prog 126 #[.string op] w fun e w'=>e= .returned (kindRet (shape op.toList))/\Below w.heap.size w w':=by
 cases h0:(op.toList==[99,111,110,115,116])
 rotate_left
 ·have hs:kindRet (shape op.toList)= .tuple #[.agg #[.int .i64 8, .int .i64 4294967296, .int .i64 0, .bool false], .bool true]:=by
   rw[show shape op.toList=some [114,118] by simp only[shape,h0,if_true]];kernel_rfl
  rw[hs]
  go_enter Tryz.func126,Tryz.ntmps126
  go_wp2
  exact bodyPost_ret (v:= .tuple #[.agg #[.int .i64 8, .int .i64 4294967296, .int .i64 0, .bool false], .bool true]) (by simp only[results,Tryz.results126];go_simp) rfl ⟨rfl,bRf.alloc nL _⟩
 cases h1:(op.toList==[109,111,118,101])
 rotate_left
 ·have hs:kindRet (shape op.toList)= .tuple #[.agg #[.int .i64 8, .int .i64 8, .int .i64 0, .bool false], .bool true]:=by
   rw[show shape op.toList=some [114,114] by simp only[shape,h0,h1,Bool.false_eq_true,if_false,if_true]];kernel_rfl
  rw[hs]
  go_enter Tryz.func126,Tryz.ntmps126
  go_wp2
  exact bodyPost_ret (v:= .tuple #[.agg #[.int .i64 8, .int .i64 8, .int .i64 0, .bool false], .bool true]) (by simp only[results,Tryz.results126];go_simp) rfl ⟨rfl,bRf.alloc nL _⟩
 cases h2:(op.toList==[97,100,100])
 rotate_left
 ·have hs:kindRet (shape op.toList)= .tuple #[.agg #[.int .i64 8, .int .i64 8, .int .i64 8, .bool false], .bool true]:=by
   rw[show shape op.toList=some [114,114,114] by simp only[shape,h0,h1,h2,Bool.false_eq_true,if_false,if_true]];kernel_rfl
  rw[hs]
  go_enter Tryz.func126,Tryz.ntmps126
  go_wp2
  exact bodyPost_ret (v:= .tuple #[.agg #[.int .i64 8, .int .i64 8, .int .i64 8, .bool false], .bool true]) (by simp only[results,Tryz.results126];go_simp) rfl ⟨rfl,bRf.alloc nL _⟩
 cases h3:(op.toList==[115,117,98])
 rotate_left
 ·have hs:kindRet (shape op.toList)= .tuple #[.agg #[.int .i64 8, .int .i64 8, .int .i64 8, .bool false], .bool true]:=by
   rw[show shape op.toList=some [114,114,114] by simp only[shape,h0,h1,h2,h3,Bool.false_eq_true,if_false,if_true]];kernel_rfl
  rw[hs]
  go_enter Tryz.func126,Tryz.ntmps126
  go_wp2
  exact bodyPost_ret (v:= .tuple #[.agg #[.int .i64 8, .int .i64 8, .int .i64 8, .bool false], .bool true]) (by simp only[results,Tryz.results126];go_simp) rfl ⟨rfl,bRf.alloc nL _⟩
 cases h4:(op.toList==[97,110,100])
 rotate_left
 ·have hs:kindRet (shape op.toList)= .tuple #[.agg #[.int .i64 8, .int .i64 8, .int .i64 8, .bool false], .bool true]:=by
   rw[show shape op.toList=some [114,114,114] by simp only[shape,h0,h1,h2,h3,h4,Bool.false_eq_true,if_false,if_true]];kernel_rfl
  rw[hs]
  go_enter Tryz.func126,Tryz.ntmps126
  go_wp2
  exact bodyPost_ret (v:= .tuple #[.agg #[.int .i64 8, .int .i64 8, .int .i64 8, .bool false], .bool true]) (by simp only[results,Tryz.results126];go_simp) rfl ⟨rfl,bRf.alloc nL _⟩
 cases h5:(op.toList==[120,111,114])
 rotate_left
 ·have hs:kindRet (shape op.toList)= .tuple #[.agg #[.int .i64 8, .int .i64 8, .int .i64 8, .bool false], .bool true]:=by
   rw[show shape op.toList=some [114,114,114] by simp only[shape,h0,h1,h2,h3,h4,h5,Bool.false_eq_true,if_false,if_true]];kernel_rfl
  rw[hs]
  go_enter Tryz.func126,Tryz.ntmps126
  go_wp2
  exact bodyPost_ret (v:= .tuple #[.agg #[.int .i64 8, .int .i64 8, .int .i64 8, .bool false], .bool true]) (by simp only[results,Tryz.results126];go_simp) rfl ⟨rfl,bRf.alloc nL _⟩
 cases h6:(op.toList==[108,111,97,100])
 rotate_left
 ·have hs:kindRet (shape op.toList)= .tuple #[.agg #[.int .i64 8, .int .i64 8, .int .i64 4, .bool false], .bool true]:=by
   rw[show shape op.toList=some [114,114,119] by simp only[shape,h0,h1,h2,h3,h4,h5,h6,Bool.false_eq_true,if_false,if_true]];kernel_rfl
  rw[hs]
  go_enter Tryz.func126,Tryz.ntmps126
  go_wp2
  exact bodyPost_ret (v:= .tuple #[.agg #[.int .i64 8, .int .i64 8, .int .i64 4, .bool false], .bool true]) (by simp only[results,Tryz.results126];go_simp) rfl ⟨rfl,bRf.alloc nL _⟩
 cases h7:(op.toList==[115,116,111,114,101])
 rotate_left
 ·have hs:kindRet (shape op.toList)= .tuple #[.agg #[.int .i64 8, .int .i64 8, .int .i64 4, .bool false], .bool true]:=by
   rw[show shape op.toList=some [114,114,119] by simp only[shape,h0,h1,h2,h3,h4,h5,h6,h7,Bool.false_eq_true,if_false,if_true]];kernel_rfl
  rw[hs]
  go_enter Tryz.func126,Tryz.ntmps126
  go_wp2
  exact bodyPost_ret (v:= .tuple #[.agg #[.int .i64 8, .int .i64 8, .int .i64 4, .bool false], .bool true]) (by simp only[results,Tryz.results126];go_simp) rfl ⟨rfl,bRf.alloc nL _⟩
 cases h8:(op.toList==[115,119,97,112])
 rotate_left
 ·have hs:kindRet (shape op.toList)= .tuple #[.agg #[.int .i64 8, .int .i64 8, .int .i64 4, .bool false], .bool true]:=by
   rw[show shape op.toList=some [114,114,119] by simp only[shape,h0,h1,h2,h3,h4,h5,h6,h7,h8,Bool.false_eq_true,if_false,if_true]];kernel_rfl
  rw[hs]
  go_enter Tryz.func126,Tryz.ntmps126
  go_wp2
  exact bodyPost_ret (v:= .tuple #[.agg #[.int .i64 8, .int .i64 8, .int .i64 4, .bool false], .bool true]) (by simp only[results,Tryz.results126];go_simp) rfl ⟨rfl,bRf.alloc nL _⟩
 cases h9:(op.toList==[99,97,115])
 rotate_left
 ·have hs:kindRet (shape op.toList)= .tuple #[.agg #[.int .i64 8, .int .i64 7, .int .i64 4, .bool false], .bool true]:=by
   rw[show shape op.toList=some [114,115,119] by simp only[shape,h0,h1,h2,h3,h4,h5,h6,h7,h8,h9,Bool.false_eq_true,if_false,if_true]];kernel_rfl
  rw[hs]
  go_enter Tryz.func126,Tryz.ntmps126
  go_wp2
  exact bodyPost_ret (v:= .tuple #[.agg #[.int .i64 8, .int .i64 7, .int .i64 4, .bool false], .bool true]) (by simp only[results,Tryz.results126];go_simp) rfl ⟨rfl,bRf.alloc nL _⟩
 cases h10:(op.toList==[97,108,108,111,99])
 rotate_left
 ·have hs:kindRet (shape op.toList)= .tuple #[.agg #[.int .i64 8, .int .i64 0, .int .i64 0, .bool false], .bool true]:=by
   rw[show shape op.toList=some [114] by simp only[shape,h0,h1,h2,h3,h4,h5,h6,h7,h8,h9,h10,Bool.false_eq_true,if_false,if_true]];kernel_rfl
  rw[hs]
  go_enter Tryz.func126,Tryz.ntmps126
  go_wp2
  exact bodyPost_ret (v:= .tuple #[.agg #[.int .i64 8, .int .i64 0, .int .i64 0, .bool false], .bool true]) (by simp only[results,Tryz.results126];go_simp) rfl ⟨rfl,bRf.alloc nL _⟩
 cases h11:(op.toList==[102,114,101,101])
 rotate_left
 ·have hs:kindRet (shape op.toList)= .tuple #[.agg #[.int .i64 8, .int .i64 0, .int .i64 0, .bool false], .bool true]:=by
   rw[show shape op.toList=some [114] by simp only[shape,h0,h1,h2,h3,h4,h5,h6,h7,h8,h9,h10,h11,Bool.false_eq_true,if_false,if_true]];kernel_rfl
  rw[hs]
  go_enter Tryz.func126,Tryz.ntmps126
  go_wp2
  exact bodyPost_ret (v:= .tuple #[.agg #[.int .i64 8, .int .i64 0, .int .i64 0, .bool false], .bool true]) (by simp only[results,Tryz.results126];go_simp) rfl ⟨rfl,bRf.alloc nL _⟩
 cases h12:(op.toList==[109,97,114,107])
 rotate_left
 ·have hs:kindRet (shape op.toList)= .tuple #[.agg #[.int .i64 8, .int .i64 0, .int .i64 0, .bool false], .bool true]:=by
   rw[show shape op.toList=some [114] by simp only[shape,h0,h1,h2,h3,h4,h5,h6,h7,h8,h9,h10,h11,h12,Bool.false_eq_true,if_false,if_true]];kernel_rfl
  rw[hs]
  go_enter Tryz.func126,Tryz.ntmps126
  go_wp2
  exact bodyPost_ret (v:= .tuple #[.agg #[.int .i64 8, .int .i64 0, .int .i64 0, .bool false], .bool true]) (by simp only[results,Tryz.results126];go_simp) rfl ⟨rfl,bRf.alloc nL _⟩
 cases h13:(op.toList==[110,101,101,100])
 rotate_left
 ·have hs:kindRet (shape op.toList)= .tuple #[.agg #[.int .i64 8, .int .i64 0, .int .i64 0, .bool false], .bool true]:=by
   rw[show shape op.toList=some [114] by simp only[shape,h0,h1,h2,h3,h4,h5,h6,h7,h8,h9,h10,h11,h12,h13,Bool.false_eq_true,if_false,if_true]];kernel_rfl
  rw[hs]
  go_enter Tryz.func126,Tryz.ntmps126
  go_wp2
  exact bodyPost_ret (v:= .tuple #[.agg #[.int .i64 8, .int .i64 0, .int .i64 0, .bool false], .bool true]) (by simp only[results,Tryz.results126];go_simp) rfl ⟨rfl,bRf.alloc nL _⟩
 cases h14:(op.toList==[102,101,110,99,101])
 rotate_left
 ·have hs:kindRet (shape op.toList)= .tuple #[.agg #[.int .i64 0, .int .i64 0, .int .i64 0, .bool false], .bool true]:=by
   rw[show shape op.toList=some [] by simp only[shape,h0,h1,h2,h3,h4,h5,h6,h7,h8,h9,h10,h11,h12,h13,h14,Bool.false_eq_true,if_false,if_true]];kernel_rfl
  rw[hs]
  go_enter Tryz.func126,Tryz.ntmps126
  go_wp2
  exact bodyPost_ret (v:= .tuple #[.agg #[.int .i64 0, .int .i64 0, .int .i64 0, .bool false], .bool true]) (by simp only[results,Tryz.results126];go_simp) rfl ⟨rfl,bRf.alloc nL _⟩
 cases h15:(op.toList==[102,111,114,99,101])
 rotate_left
 ·have hs:kindRet (shape op.toList)= .tuple #[.agg #[.int .i64 0, .int .i64 0, .int .i64 0, .bool false], .bool true]:=by
   rw[show shape op.toList=some [] by simp only[shape,h0,h1,h2,h3,h4,h5,h6,h7,h8,h9,h10,h11,h12,h13,h14,h15,Bool.false_eq_true,if_false,if_true]];kernel_rfl
  rw[hs]
  go_enter Tryz.func126,Tryz.ntmps126
  go_wp2
  exact bodyPost_ret (v:= .tuple #[.agg #[.int .i64 0, .int .i64 0, .int .i64 0, .bool false], .bool true]) (by simp only[results,Tryz.results126];go_simp) rfl ⟨rfl,bRf.alloc nL _⟩
 cases h16:(op.toList==[115,116,111,112])
 rotate_left
 ·have hs:kindRet (shape op.toList)= .tuple #[.agg #[.int .i64 0, .int .i64 0, .int .i64 0, .bool false], .bool true]:=by
   rw[show shape op.toList=some [] by simp only[shape,h0,h1,h2,h3,h4,h5,h6,h7,h8,h9,h10,h11,h12,h13,h14,h15,h16,Bool.false_eq_true,if_false,if_true]];kernel_rfl
  rw[hs]
  go_enter Tryz.func126,Tryz.ntmps126
  go_wp2
  exact bodyPost_ret (v:= .tuple #[.agg #[.int .i64 0, .int .i64 0, .int .i64 0, .bool false], .bool true]) (by simp only[results,Tryz.results126];go_simp) rfl ⟨rfl,bRf.alloc nL _⟩
 cases h17:(op.toList==[122,101,114,111])
 rotate_left
 ·have hs:kindRet (shape op.toList)= .tuple #[.agg #[.int .i64 8, .int .i64 0, .int .i64 0, .bool true], .bool true]:=by
   rw[show shape op.toList=some [114,108] by simp only[shape,h0,h1,h2,h3,h4,h5,h6,h7,h8,h9,h10,h11,h12,h13,h14,h15,h16,h17,Bool.false_eq_true,if_false,if_true]];kernel_rfl
  rw[hs]
  go_enter Tryz.func126,Tryz.ntmps126
  go_wp2
  exact bodyPost_ret (v:= .tuple #[.agg #[.int .i64 8, .int .i64 0, .int .i64 0, .bool true], .bool true]) (by simp only[results,Tryz.results126];go_simp) rfl ⟨rfl,bRf.alloc nL _⟩
 cases h18:(op.toList==[115,97,109,101])
 rotate_left
 ·have hs:kindRet (shape op.toList)= .tuple #[.agg #[.int .i64 8, .int .i64 8, .int .i64 0, .bool true], .bool true]:=by
   rw[show shape op.toList=some [114,114,108] by simp only[shape,h0,h1,h2,h3,h4,h5,h6,h7,h8,h9,h10,h11,h12,h13,h14,h15,h16,h17,h18,Bool.false_eq_true,if_false,if_true]];kernel_rfl
  rw[hs]
  go_enter Tryz.func126,Tryz.ntmps126
  go_wp2
  exact bodyPost_ret (v:= .tuple #[.agg #[.int .i64 8, .int .i64 8, .int .i64 0, .bool true], .bool true]) (by simp only[results,Tryz.results126];go_simp) rfl ⟨rfl,bRf.alloc nL _⟩
 cases h19:(op.toList==[103,111,116,111])
 rotate_left
 ·have hs:kindRet (shape op.toList)= .tuple #[.agg #[.int .i64 0, .int .i64 0, .int .i64 0, .bool true], .bool true]:=by
   rw[show shape op.toList=some [108] by simp only[shape,h0,h1,h2,h3,h4,h5,h6,h7,h8,h9,h10,h11,h12,h13,h14,h15,h16,h17,h18,h19,Bool.false_eq_true,if_false,if_true]];kernel_rfl
  rw[hs]
  go_enter Tryz.func126,Tryz.ntmps126
  go_wp2
  exact bodyPost_ret (v:= .tuple #[.agg #[.int .i64 0, .int .i64 0, .int .i64 0, .bool true], .bool true]) (by simp only[results,Tryz.results126];go_simp) rfl ⟨rfl,bRf.alloc nL _⟩
 cases h20:(op.toList==[108,97,98,101,108])
 rotate_left
 ·have hs:kindRet (shape op.toList)= .tuple #[.agg #[.int .i64 0, .int .i64 0, .int .i64 0, .bool true], .bool true]:=by
   rw[show shape op.toList=some [108] by simp only[shape,h0,h1,h2,h3,h4,h5,h6,h7,h8,h9,h10,h11,h12,h13,h14,h15,h16,h17,h18,h19,h20,Bool.false_eq_true,if_false,if_true]];kernel_rfl
  rw[hs]
  go_enter Tryz.func126,Tryz.ntmps126
  go_wp2
  exact bodyPost_ret (v:= .tuple #[.agg #[.int .i64 0, .int .i64 0, .int .i64 0, .bool true], .bool true]) (by simp only[results,Tryz.results126];go_simp) rfl ⟨rfl,bRf.alloc nL _⟩
 have hs:kindRet (shape op.toList)= .tuple #[.agg #[.int .i64 0, .int .i64 0, .int .i64 0, .bool false], .bool false]:=by
  rw[show shape op.toList=none by simp only[shape,h0,h1,h2,h3,h4,h5,h6,h7,h8,h9,h10,h11,h12,h13,h14,h15,h16,h17,h18,h19,h20,Bool.false_eq_true,if_false]];kernel_rfl
 rw[hs]
 go_enter Tryz.func126,Tryz.ntmps126
 go_wp2
 exact bodyPost_ret (v:= .tuple #[.agg #[.int .i64 0, .int .i64 0, .int .i64 0, .bool false], .bool false]) (by simp only[results,Tryz.results126];go_simp) rfl ⟨rfl,bRf.alloc nL _⟩
end
section
open Go.RowKit Go.Extern.Stop Go.Stop Go.Extern
theorem pnumbers_any(x:Ins)(w:World):
  Calls Tryz.prog 146 #[.agg #[.string x.op, .int .i64 x.a, .int .i64 x.b, .int .i64 x.c, .string x.to]] w fun e w'=>e= .returned (.agg #[.int .i64 x.a, .int .i64 x.b, .int .i64 x.c])/\Below w.heap.size w w':=by
 go_enter Tryz.func146,Tryz.ntmps146
 go_wp2
 exact bodyPost_ret (v:= .agg #[.int .i64 x.a, .int .i64 x.b, .int .i64 x.c]) (by simp only[results,Tryz.results146];go_simp) rfl ⟨rfl,(bRf.alloc nL _).alloc (by simp) _⟩
theorem fits_any (l0 l1 l2:Int) (t:Bool) (x:Ins) (w:World):
  Calls Tryz.prog 127 #[.agg #[.int .i64 l0, .int .i64 l1, .int .i64 l2, .bool t], .agg #[.string x.op, .int .i64 x.a, .int .i64 x.b, .int .i64 x.c, .string x.to]] w fun e w'=>e= .returned (.bool (decide ((l0=0->x.a=0)/\(l1=0->x.b=0)/\(l2=0->x.c=0)/\(t=false->x.to.toList=[]))))/\Below w.heap.size w w':=by
 have HN:Hid (∀w',Calls Tryz.prog 146 #[.agg #[.string x.op, .int .i64 x.a, .int .i64 x.b, .int .i64 x.c, .string x.to]] w' fun e w''=>e= .returned (.agg #[.int .i64 x.a, .int .i64 x.b, .int .i64 x.c])/\Below w'.heap.size w' w''):=fun w'=>pnumbers_any x w'
 have i0: ∀w,(Instr.index 234 (.agg #[.int .i64 x.a, .int .i64 x.b, .int .i64 x.c]) (.int .i64 0)).run Tryz.prog w= .ok (.int .i64 x.a) w:=fun _=>by kernel_rfl
 have i1: ∀w,(Instr.index 234 (.agg #[.int .i64 x.a, .int .i64 x.b, .int .i64 x.c]) (.int .i64 1)).run Tryz.prog w= .ok (.int .i64 x.b) w:=fun _=>by kernel_rfl
 have i2: ∀w,(Instr.index 234 (.agg #[.int .i64 x.a, .int .i64 x.b, .int .i64 x.c]) (.int .i64 2)).run Tryz.prog w= .ok (.int .i64 x.c) w:=fun _=>by kernel_rfl
 obtain⟨W,hW⟩: ∃W,W=(w.alloc (.cells #[.int .i64 l0, .int .i64 l1, .int .i64 l2, .bool t] 236)).alloc (.cells #[.string x.op, .int .i64 x.a, .int .i64 x.b, .int .i64 x.c, .string x.to] 75):=⟨_,rfl⟩
 have hba:Below w.heap.size w W:=by rw[hW];exact(bRf.alloc nL _).alloc (by simp) _
 have k0:W.cell? ⟨w.heap.size,0,none⟩=some (.int .i64 l0):=by rw[hW];simp
 have k1:W.cell? ⟨w.heap.size,1,none⟩=some (.int .i64 l1):=by rw[hW];simp
 have k2:W.cell? ⟨w.heap.size,2,none⟩=some (.int .i64 l2):=by rw[hW];simp
 have k3:W.cell? ⟨w.heap.size,3,none⟩=some (.bool t):=by rw[hW];simp
 have q4:W.cell? ⟨w.heap.size+1,4,none⟩=some (.string x.to):=by rw[hW];simp
 cases hto:(x.to.toList==[])
 all_goals
  have HT:Hid ((x.to.toList==[])=_):=hto
  cases t
  all_goals
   go_enter Tryz.func127,Tryz.ntmps127
   go_wp2_with fail
   rw[<-hW]
   refine(HN.out _).mono ?_
   rintro e w1 ⟨rfl,hb1⟩
   replace k0:=keep_cell hb1 k0
   replace k1:=keep_cell hb1 k1
   replace k2:=keep_cell hb1 k2
   replace k3:=keep_cell hb1 k3
   replace q4:=keep_cell hb1 q4
   have B1:=hide (below_step hba hb1)
   clear hW hba hb1 HN
   go_wp2_with fail
   refine wp_loop_rounds 4 ?_
   rw[rounds_succ]
   go_wp2
   all_goals try(rw[rounds_succ];go_wp2)
   all_goals try(rw[rounds_succ];go_wp2)
   all_goals try(rw[rounds_succ];go_wp2)
   all_goals try go_ret
   all_goals
    refine⟨?_,B1.out⟩
    have hto':=HT.out
    clear i0 i1 i2 k0 k1 k2 k3 q4 B1 HT
    refine congrArg (fun z=>Ending.returned (.bool z)) ?_
    symm
    simp_all
theorem within_any (l0 l1 l2:Int) (t:Bool) (x:Ins) (w:World):
  Calls Tryz.prog 128 #[.agg #[.int .i64 l0, .int .i64 l1, .int .i64 l2, .bool t], .agg #[.string x.op, .int .i64 x.a, .int .i64 x.b, .int .i64 x.c, .string x.to]] w fun e w'=>e= .returned (.bool (decide ((0<l0->0<=x.a/\x.a<l0)/\(0<l1->0<=x.b/\x.b<l1)/\(0<l2->0<=x.c/\x.c<l2))))/\Below w.heap.size w w':=by
 have HN:Hid (∀w',Calls Tryz.prog 146 #[.agg #[.string x.op, .int .i64 x.a, .int .i64 x.b, .int .i64 x.c, .string x.to]] w' fun e w''=>e= .returned (.agg #[.int .i64 x.a, .int .i64 x.b, .int .i64 x.c])/\Below w'.heap.size w' w''):=fun w'=>pnumbers_any x w'
 have i0: ∀w,(Instr.index 234 (.agg #[.int .i64 x.a, .int .i64 x.b, .int .i64 x.c]) (.int .i64 0)).run Tryz.prog w= .ok (.int .i64 x.a) w:=fun _=>by kernel_rfl
 have i1: ∀w,(Instr.index 234 (.agg #[.int .i64 x.a, .int .i64 x.b, .int .i64 x.c]) (.int .i64 1)).run Tryz.prog w= .ok (.int .i64 x.b) w:=fun _=>by kernel_rfl
 have i2: ∀w,(Instr.index 234 (.agg #[.int .i64 x.a, .int .i64 x.b, .int .i64 x.c]) (.int .i64 2)).run Tryz.prog w= .ok (.int .i64 x.c) w:=fun _=>by kernel_rfl
 obtain⟨W,hW⟩: ∃W,W=(w.alloc (.cells #[.int .i64 l0, .int .i64 l1, .int .i64 l2, .bool t] 236)).alloc (.cells #[.string x.op, .int .i64 x.a, .int .i64 x.b, .int .i64 x.c, .string x.to] 75):=⟨_,rfl⟩
 have hba:Below w.heap.size w W:=by rw[hW];exact(bRf.alloc nL _).alloc (by simp) _
 have k0:W.cell? ⟨w.heap.size,0,none⟩=some (.int .i64 l0):=by rw[hW];simp
 have k1:W.cell? ⟨w.heap.size,1,none⟩=some (.int .i64 l1):=by rw[hW];simp
 have k2:W.cell? ⟨w.heap.size,2,none⟩=some (.int .i64 l2):=by rw[hW];simp
 have k3:W.cell? ⟨w.heap.size,3,none⟩=some (.bool t):=by rw[hW];simp
 have q4:W.cell? ⟨w.heap.size+1,4,none⟩=some (.string x.to):=by rw[hW];simp
 go_enter Tryz.func128,Tryz.ntmps128
 go_wp2_with fail
 rw[<-hW]
 refine(HN.out _).mono ?_
 rintro e w1 ⟨rfl,hb1⟩
 replace k0:=keep_cell hb1 k0
 replace k1:=keep_cell hb1 k1
 replace k2:=keep_cell hb1 k2
 replace k3:=keep_cell hb1 k3
 replace q4:=keep_cell hb1 q4
 have B1:=hide (below_step hba hb1)
 clear hW hba hb1 HN
 go_wp2_with fail
 refine wp_loop_rounds 4 ?_
 rw[rounds_succ]
 go_wp2
 all_goals try(rw[rounds_succ];go_wp2)
 all_goals try(rw[rounds_succ];go_wp2)
 all_goals try(rw[rounds_succ];go_wp2)
 all_goals try go_ret
 all_goals
  refine⟨?_,B1.out⟩
  clear i0 i1 i2 k0 k1 k2 k3 q4 B1
  refine congrArg (fun z=>Ending.returned (.bool z)) ?_
  symm
  first
   |(rw[decide_eq_true_iff];omega)
   |(rw[decide_eq_false_iff_not];omega)
   |(rw[Bool.eq_false_iff];simp only[ne_eq,Bool.and_eq_true,Bool.or_eq_true,Bool.not_eq_true',decide_eq_true_eq,decide_eq_false_iff_not];omega)
end
section
open Go.RowKit Go.Extern.Stop Go.Stop Go.Extern
theorem isSmall_any (c:Nat) (w:World):
  Calls Tryz.prog 147 #[.int .u8 c] w fun e w'=>e= .returned (.bool (decide (97<=c/\c<=122)))/\w'=w:=by
 have i1:(97:Int)<=c↔97<=c:=by omega
 by_cases h1:(97:Int)<=c
 ·by_cases h2:(c:Int)<=122
  ·rw[decide_eq_true (show 97<=c/\c<=122 by omega)]
   go_enter Tryz.func147,Tryz.ntmps147
   go_wp2
   go_ret
   exact⟨rfl,rfl⟩
  ·rw[decide_eq_false (show ¬(97<=c/\c<=122) by omega)]
   go_enter Tryz.func147,Tryz.ntmps147
   go_wp2
   go_ret
   exact⟨rfl,rfl⟩
 ·rw[decide_eq_false (show ¬(97<=c/\c<=122) by omega)]
  go_enter Tryz.func147,Tryz.ntmps147
  go_wp2
  go_ret
  exact⟨rfl,rfl⟩
open Classical in
theorem pisName_any (s:ByteArray) (w:World):
  Calls Tryz.prog 129 #[.string s] w fun e w'=>e= .returned (.bool (decide (isName s)))/\Below w.heap.size w w':=by
 by_cases h0:s.size=0
 ·have HZ:decide (isName s)=false:=decide_eq_false (fun h=>by have:=h.1;omega)
  have hb:(s.toList==[])=true:=by rw[beq_iff_eq,toList_bl, <-List.length_eq_zero_iff, <-size_bl];exact h0
  rw[HZ]
  go_enter Tryz.func129,Tryz.ntmps129
  go_wp2_with fail
  go_ret
  exact⟨rfl,Below.refl _ _⟩
 have hb:(s.toList==[])=false:=by rw[beq_eq_false_iff_ne,toList_bl];intro e;apply h0;rw[size_bl,e];rfl
 have hs0:0<s.size:=by omega
 by_cases h12:12<s.size
 ·have HZ:decide (isName s)=false:=decide_eq_false (fun h=>by have:=h.2.1;omega)
  have i12:12<(s.size:Int):=by omega
  rw[HZ]
  go_enter Tryz.func129,Tryz.ntmps129
  go_wp2_with fail
  go_ret
  exact⟨rfl,Below.refl _ _⟩
 have i12: ¬12<(s.size:Int):=by omega
 have HS:Hid (∀w',Calls Tryz.prog 147 #[.int .u8 (s[0]'hs0).toNat] w' fun e w''=>e= .returned (.bool (decide (97<=(s[0]'hs0).toNat/\(s[0]'hs0).toNat<=122)))/\w''=w'):=fun w'=>isSmall_any _ w'
 by_cases hc:97<=(s[0]'hs0).toNat/\(s[0]'hs0).toNat<=122
 rotate_left
 ·have HZ:decide (isName s)=false:=decide_eq_false (fun h=>by
   have:=h.2.2 0 hs0
   unfold nameOk at this
   have:=of_decide_eq_true this
   omega)
  rw[HZ]
  rw[decide_eq_false hc] at HS
  clear hc
  go_enter Tryz.func129,Tryz.ntmps129
  go_wp2_with fail
  refine(HS.out _).mono ?_
  rintro e w1 ⟨rfl,rfl⟩
  go_wp2_with fail
  go_ret
  exact⟨rfl,Below.refl _ _⟩
 have hc':=hide hc
 rw[decide_eq_true hc] at HS
 clear hc
 have hcv: ∀w',(convert 9 257 (.string s)).run Tryz.prog w'= .ok (.slice (some ⟨w'.heap.size,0,none⟩) s.size (grownCap w' s.size 0 5)) (Lib.bytesWorld w' 5 s):=fun w'=>Lib.run_convert_string_bytes w' 9 257 5 s Tryz.underlying9 Tryz.underlying257 Tryz.underlying5
 have HD:Hid (∀f:Bool,(f=true↔ ∀j,j<s.size->nameOk j (byteAt s j)=true)->decide (isName s)=f):=fun f hf=>by
  cases f with
  |true=>exact decide_eq_true ⟨by omega,by omega,fun j h=>by have:=hf.1 rfl j h;rwa [byteAt_lt h] at this⟩
  |false=>exact decide_eq_false (fun h=>by have:=hf.2 (fun j hj=>by rw[byteAt_lt hj];exact h.2.2 j hj);cases this)
 generalize decide (isName s)=F at*
 go_enter Tryz.func129,Tryz.ntmps129
 go_wp2_with fail
 refine(HS.out _).mono ?_
 rintro e w1 ⟨rfl,rfl⟩
 obtain⟨W,hW⟩: ∃W,W=Lib.bytesWorld w1 5 s:=⟨_,rfl⟩
 have hcell:Hid (∀j,j<s.size->W.cell? ⟨w1.heap.size,j,none⟩=some (.int .u8 (byteAt s j))):=fun j hj=>by
  rw[hW,Lib.bytesWorld_cell _ _ _ _ hj]
  obtain⟨h',e⟩:=byteAt_bl s j hj
  rw[e,List.getD_eq_getElem?_getD,List.getElem?_eq_getElem h'];rfl
 have HB:Hid (Below w1.heap.size w1 W):=by rw[hW];exact Lib.bytesWorld_below _ _ _
 go_wp2_with fail
 rw[<-hW]
 clear hW hcv HS
 go_loopw [4,21] (fun _ i wr=>wr=W/\ ∃j:Nat,j<=s.size/\i= .int .i64 j/\Hid (∀k,k<j->nameOk k (byteAt s k)=true)) (fun _ i _=>s.size - (intOf i).toNat)
 case atStart=>exact⟨rfl,0,Nat.zero_le _,rfl,fun k h=>absurd h (Nat.not_lt_zero _)⟩
 case round=>
  obtain⟨rfl,j,hj,rfl,HJ⟩:=hrel
  by_cases hlt:j<s.size
  ·have hcj:=hcell.out j hlt
   have ji:(j:Int)<s.size:=by omega
   have HY:Hid (nameOk j (byteAt s j)=true-> ∀k,k<j+1->nameOk k (byteAt s k)=true):=fun hy k hk=>by
    by_cases e:k=j
    ·subst e;exact hy
    ·exact HJ.out k (by omega)
   have HX:Hid (nameOk j (byteAt s j)=false->F=false):=fun hx=>HD.out false ⟨(fun h=>Bool.noConfusion h),(fun h=>by rw[h j hlt] at hx;cases hx)⟩
   have H0:Hid (j=0->97<=byteAt s j/\byteAt s j<=122):=fun h=>by subst h;rw[byteAt_lt hs0];exact hc'.out
   generalize byteAt s j=c at*
   have HC:Hid (∀w',Calls Tryz.prog 147 #[.int .u8 c] w' fun e w''=>e= .returned (.bool (decide (97<=c/\c<=122)))/\w''=w'):=fun w'=>isSmall_any c w'
   have hor:(97<=c/\c<=122)∨(¬(97<=c/\c<=122)/\48<=c/\c<=57)∨(¬(97<=c/\c<=122)/\c<48/\c=46)∨(¬(97<=c/\c<=122)/\c<48/\c≠46)∨(¬(97<=c/\c<=122)/\ ¬c<48/\57<c):=by omega
   rcases hor with q1 |⟨q1,q2,q3⟩ |⟨q1,q2,q3⟩ |⟨q1,q2,q3⟩ |⟨q1,q2,q3⟩
   ·have HZ:=hide (HY.out (decide_eq_true (by omega)))
    rw[decide_eq_true q1] at HC
    clear HX HY H0 q1 HJ
    go_wp2_with fail
    refine(HC.out _).mono ?_
    rintro e w1 ⟨rfl,rfl⟩
    go_wp2_with fail
    go_roundw
    case rel=>exact⟨trivial,j+1,by omega,by go_num,HZ⟩
    case measure=>simp[intOf];omega
   ·have HZ:=hide (HY.out (decide_eq_true (by have:=H0.out;omega)))
    rw[decide_eq_false q1] at HC
    have z1: ¬(c:Int)<48:=by omega
    have z2: ¬57<(c:Int):=by omega
    clear HX HY H0 q1 q2 q3 HJ
    go_wp2_with fail
    refine(HC.out _).mono ?_
    rintro e w1 ⟨rfl,rfl⟩
    go_wp2_with fail
    go_roundw
    case rel=>exact⟨trivial,j+1,by omega,by go_num,HZ⟩
    case measure=>simp[intOf];omega
   ·have HZ:=hide (HY.out (decide_eq_true (by have:=H0.out;omega)))
    rw[decide_eq_false q1] at HC
    have z1:(c:Int)<48:=by omega
    have z2:((c:Int) !=46)=false:=by rw[bne_eq_false_iff_eq];omega
    clear HX HY H0 q1 q2 q3 HJ
    go_wp2_with fail
    refine(HC.out _).mono ?_
    rintro e w1 ⟨rfl,rfl⟩
    go_wp2_with fail
    go_roundw
    case rel=>exact⟨trivial,j+1,by omega,by go_num,HZ⟩
    case measure=>simp[intOf];omega
   ·have HZ:=hide (HX.out (decide_eq_false (by omega)))
    rw[decide_eq_false q1] at HC
    have z1:(c:Int)<48:=by omega
    have z2:((c:Int) !=46)=true:=by rw[bne_iff_ne];omega
    clear HX HY H0 q1 q2 q3 HJ
    go_wp2_with fail
    refine(HC.out _).mono ?_
    rintro e w1 ⟨rfl,rfl⟩
    go_wp2_with fail
    go_ret
    exact⟨by rw[HZ.out];rfl,HB.out⟩
   ·have HZ:=hide (HX.out (decide_eq_false (by omega)))
    rw[decide_eq_false q1] at HC
    have z1: ¬(c:Int)<48:=by omega
    have z2:57<(c:Int):=by omega
    have z3:((c:Int) !=46)=true:=by rw[bne_iff_ne];omega
    clear HX HY H0 q1 q2 q3 HJ
    go_wp2_with fail
    refine(HC.out _).mono ?_
    rintro e w1 ⟨rfl,rfl⟩
    go_wp2_with fail
    go_ret
    exact⟨by rw[HZ.out];rfl,HB.out⟩
  ·have HZ:Hid (F=true):=HD.out true ⟨fun _ k hk=>HJ.out k (by omega),fun _=>rfl⟩
   obtain rfl:j=s.size:=by omega
   clear HJ HD
   go_wp2_with fail
   go_ret
   exact⟨by rw[HZ.out];rfl,HB.out⟩
end
end Go.Proofs.YtdpmnlbnlnmjbaaGreatDoor
