import Derived.Test.YtnoigmdmgdcliaaGreatDoorA15
import Derived.Deep.RegionHeld3
import Derived.StillTail
import Derived.Tactics
namespace Go.Proofs.YtnoigmdmgdcliaaGreatDoor
set_option maxRecDepth 100000
set_option maxHeartbeats 8000000
section
open Go.RowKit Go.Extern.Stop Go.Stop Go.Extern Go.Maps Go.WideMaps Go.Sort
variable {cs:List (List Ins)} {a:Nat->Addr} {w:World} {p:MkPl} {m:Mk} {t:Nat} {n:Int} {wi:Nat} {v:Int}
theorem Mk.drain1_has(m:Mk)(t:Nat)(c g:Int):(m.drain1 t).mem.ar.has c g=m.mem.ar.has c g:=by
 unfold Mk.drain1
 split
 ·rfl
 ·obtain⟨h1,h2,h3⟩:=Rm.drained_ar m.mem t ‹Wt› ‹List Wt›
  show Ar.has (Rm.drained _ _ _ _).ar c g=_
  unfold Ar.has
  rw[h1,h2,h3]
theorem Mk.drain1_names(m:Mk)(t:Nat)(n:Int):(m.drain1 t).names n=m.names n:=by
 unfold Mk.names
 rw[Mk.drain1_has]
theorem kstore_few(h:MkAt a cs p m w)(ht:t<cs.length)(_hx: ∀x∈m.mem.waits t,x.Ok)(_hf:m.faults<=900000000)(h8:(m.mem.waits t).length<8)(hn:Wd n)(hy:m.names n=true)(hw:wi<4)(hv:Wd v):
  Calls Tryz.prog 236 #[.pointer (some ⟨p.b,0,none⟩), .int .i64 t, .int .i64 n, .int .i64 wi, .int .i64 v] w fun e w'=>e= .returned (.tuple #[])/\MkStep a cs p w p.mv (m.put t n wi v) w':=by
 have HN:=hide (named_yes hn h hy)
 have HS:Hid (∀w',Below w.heap.size w w'->Calls Tryz.prog 250 #[.pointer (some ⟨p.b,0,none⟩), .int .i64 t, .agg #[.int .i64 (cellOf n), .int .i64 (genOf n)], .int .i64 wi, .int .i64 v] w' fun e w''=>e= .returned .nilIface/\MkStep a cs p w p.mv (m.put t n wi v) w''):=fun w' hb=>
  (mem_store (h.below hb) ht h8 hy hw hv).mono fun e w'' ⟨e1,e2⟩=>⟨e1,MkStep.of_below hb e2⟩
 have hwt:m.mem.waiting t=(m.mem.waits t).length:=by unfold Rm.waiting;rw[if_pos (by have:=h.thr;omega)];rfl
 have HW:Hid (∀w',Below w.heap.size w w'->Calls Tryz.prog 144 #[.pointer (some ⟨p.b,0,none⟩), .int .i64 t] w' fun e w''=>e= .returned (.int .i64 ((m.mem.waits t).length:Nat))/\w''=w'):=fun w' hb=>by
  rw[<-hwt];exact waiting_any p.b m.mem t w' (h.below hb).mem
 have hb8:(((m.mem.waits t).length:Int)==8)=false:=beq_eq_false_iff_ne.2 (by omega)
 clear h hy hn hw hv hwt
 generalize m.put t n wi v=m' at*
 generalize (m.mem.waits t).length=K at*
 generalize cellOf n=c at*
 generalize genOf n=g at*
 go_enter Tryz.func236,Tryz.ntmps236
 go_wp2_with fail
 refine HN.out.mono ?_
 rintro e w1 ⟨rfl,hb1⟩
 obtain⟨W3,hW3⟩: ∃W3,W3=w1.alloc (.cells #[.int .i64 c, .int .i64 g] 88):=⟨_,rfl⟩
 obtain⟨q0,q1⟩:=box2 w1 c g
 have B3:Below w.heap.size w W3:=by rw[hW3];exact hb1.alloc hb1.size _
 rw[<-hW3] at q0 q1
 clear HN hb1
 go_wp2_with fail
 rw[<-hW3]
 clear hW3
 refine(HW.out _ B3).mono ?_
 rintro e w4 ⟨rfl,rfl⟩
 clear HW
 go_wp2_with fail
 have B4:=below_dN B3 1
 go_region_with (go_at_call 250;refine(HS.out _ B4).mono ?_;rintro e w6 ⟨rfl,h6⟩)
 all_goals
  go_wp2
  go_end0
  exact⟨rfl,h6⟩
theorem kstore_full (h:MkAt a cs p m w) (ht:t<cs.length) (hx: ∀x∈m.mem.waits t,x.Ok) (hf:m.faults<=900000000) (h8:(m.mem.waits t).length=8) (hn:Wd n) (hy:m.names n=true) (hw:wi<4) (hv:Wd v):
  Calls Tryz.prog 236 #[.pointer (some ⟨p.b,0,none⟩), .int .i64 t, .int .i64 n, .int .i64 wi, .int .i64 v] w fun e w'=>e= .returned (.tuple #[])/\MkStep a cs p w p.mv ((m.drain1 t).put t n wi v) w':=by
 have HN:=hide (named_yes hn h hy)
 have HD:Hid (∀w',Below w.heap.size w w'->Calls Tryz.prog 94 #[.pointer (some ⟨p.b,0,none⟩), .int .i64 t] w' fun e w''=>e= .returned .nilIface/\MkStep a cs p w' p.mv (m.drain1 t) w''):=fun w' hb=>by
  cases hws:m.mem.waits t with
  |nil=>rw[hws] at h8;cases h8
  |cons x l=>exact(kdrain_some ht (h.below hb) hws (hx x (by rw[hws];exact List.mem_cons_self)) (by omega)).mono fun e w'' ⟨e1,e2⟩=>⟨e1,e2⟩
 have HS:Hid (∀w',MkStep a cs p w p.mv (m.drain1 t) w'->Calls Tryz.prog 250 #[.pointer (some ⟨p.b,0,none⟩), .int .i64 t, .agg #[.int .i64 (cellOf n), .int .i64 (genOf n)], .int .i64 wi, .int .i64 v] w' fun e w''=>e= .returned .nilIface/\MkStep a cs p w p.mv ((m.drain1 t).put t n wi v) w''):=fun w' k=>by
  have hl:((m.drain1 t).mem.waits t).length<8:=by
   cases hws:m.mem.waits t with
   |nil=>rw[hws] at h8;cases h8
   |cons x l=>rw[Mk.drain1_waits hws];rw[hws,List.length_cons] at h8;omega
  exact(mem_store k.at' ht hl (n:=n) (by rw[Mk.drain1_names];exact hy) hw hv).mono fun e w'' ⟨e1,e2⟩=>⟨e1,k.trans e2⟩
 have hwt:m.mem.waiting t=(m.mem.waits t).length:=by unfold Rm.waiting;rw[if_pos (by have:=h.thr;omega)];rfl
 have HW:Hid (∀w',Below w.heap.size w w'->Calls Tryz.prog 144 #[.pointer (some ⟨p.b,0,none⟩), .int .i64 t] w' fun e w''=>e= .returned (.int .i64 ((m.mem.waits t).length:Nat))/\w''=w'):=fun w' hb=>by
  rw[<-hwt];exact waiting_any p.b m.mem t w' (h.below hb).mem
 rw[h8] at HW
 have H:=hide h
 clear h hy hn hx hf hw hv h8 hwt
 generalize (m.drain1 t).put t n wi v=m' at*
 generalize cellOf n=c at*
 generalize genOf n=g at*
 go_enter Tryz.func236,Tryz.ntmps236
 go_wp2_with fail
 refine HN.out.mono ?_
 rintro e w1 ⟨rfl,hb1⟩
 obtain⟨W3,hW3⟩: ∃W3,W3=w1.alloc (.cells #[.int .i64 c, .int .i64 g] 88):=⟨_,rfl⟩
 obtain⟨q0,q1⟩:=box2 w1 c g
 have B3:Below w.heap.size w W3:=by rw[hW3];exact hb1.alloc hb1.size _
 rw[<-hW3] at q0 q1
 have n2: ¬p.fp w1.heap.size:=fun e=>by have:=H.out.fp_lt e;have:=hb1.size;omega
 clear HN hb1
 go_wp2_with fail
 rw[<-hW3]
 clear hW3
 refine(HW.out _ B3).mono ?_
 rintro e w4 ⟨rfl,rfl⟩
 clear HW
 go_wp2_with fail
 refine(HD.out _ B3).mono ?_
 rintro e w5 ⟨rfl,h5⟩
 replace q0:w5.cell? ⟨w1.heap.size,0,none⟩=some (.int .i64 c):=h5.keep q0 n2
 replace q1:w5.cell? ⟨w1.heap.size,1,none⟩=some (.int .i64 g):=h5.keep q1 n2
 have H5:=hide ((MkStep.of_below B3 h5).below (Below.drewN' 1))
 clear HD h5 H n2
 go_wp2_with fail
 go_region_with (go_at_call 250;refine(HS.out _ H5.out).mono ?_;rintro e w6 ⟨rfl,h6⟩)
 all_goals
  go_wp2
  go_end0
  exact⟨rfl,h6⟩
theorem kstore_no(h:MkAt a cs p m w)(hn:Wd n)(hf:m.faults<=900000000)(hy:m.names n=false)(wi v:Int):
  Calls Tryz.prog 236 #[.pointer (some ⟨p.b,0,none⟩), .int .i64 t, .int .i64 n, .int .i64 wi, .int .i64 v] w fun e w'=>e= .returned (.tuple #[])/\MkStep a cs p w p.mv (m.addFault 1) w':=by
 have HN:=hide (named_no hn h (by omega) hy)
 clear h hy hn hf
 go_enter Tryz.func236,Tryz.ntmps236
 go_wp2_with fail
 refine HN.out.mono ?_
 rintro e w1 ⟨rfl,h1⟩
 have H1:=hide (h1.below (bRf.alloc nL (.cells #[.int .i64 0, .int .i64 0] 88)))
 clear h1 HN
 go_wp2
 refine bodyPost_ret (v:= .tuple #[]) (by simp only[results,Tryz.results236];go_simp) rfl ⟨rfl,H1.out⟩
theorem kstore_any(h:MkAt a cs p m w)(ht:t<cs.length)(hx: ∀x∈m.mem.waits t,x.Ok)(hf:m.faults<=900000000)(hn:Wd n)(hw:wi<4)(hv:Wd v):
  Calls Tryz.prog 236 #[.pointer (some ⟨p.b,0,none⟩), .int .i64 t, .int .i64 n, .int .i64 wi, .int .i64 v] w fun e w'=>e= .returned (.tuple #[])/\MkStep a cs p w p.mv (m.store t n wi v) w':=by
 have h8:=(h.mem.line t (by rw[h.thr];exact ht)).le
 unfold Mk.store
 cases hy:m.names n
 ·rw[if_neg (by decide)];exact kstore_no h hn hf hy wi v
 ·rw[if_pos rfl]
  unfold Mk.room
  by_cases he:8<=(m.mem.waits t).length
  ·rw[if_pos he];exact kstore_full h ht hx hf (by omega) hn hy hw hv
  ·rw[if_neg he];exact kstore_few h ht hx hf (by omega) hn hy hw hv
theorem kalloc_none(h:MkAt a cs p m w)(ht:t<cs.length)(hf:m.mem.ar.free?=none):
  Calls Tryz.prog 239 #[.pointer (some ⟨p.b,0,none⟩), .int .i64 t] w fun e w'=>e= .returned (.int .i64 0)/\Below w.heap.size w w':=by
 have HA:=hide (mem_alloc_none h ht hf)
 clear h hf
 go_enter Tryz.func239,Tryz.ntmps239
 go_wp2_with fail
 refine HA.out.mono ?_
 rintro e w1 ⟨rfl,hb1⟩
 go_wp2
 go_ret
 exact⟨rfl,hb1.alloc hb1.size _⟩
theorem kalloc_some(h:MkAt a cs p m w){t c:Nat}(ht:t<cs.length)(hf:m.mem.ar.free?=some c)(hg:m.mem.ar.given c<=60000000):
  Calls Tryz.prog 239 #[.pointer (some ⟨p.b,0,none⟩), .int .i64 t] w fun e w'=>e= .returned (.int .i64 ((m.mem.ar.given c:Int)*64+c+1))/\MkStep a cs p w p.mv (m.setMem (m.mem.give c)) w':=by
 have HA:=hide (mem_alloc_some h ht hf hg)
 obtain⟨h1, -, -⟩:=Ar.free_some hf
 have h64:=h.mem.ar.small
 have HW:Hid (∀w',Calls Tryz.prog 55 #[.agg #[.int .i64 c, .int .i64 (m.mem.ar.given c)]] w' fun e w''=>e= .returned (.tuple #[.int .i64 ((m.mem.ar.given c:Int)*64+c+1), .nilIface])/\Below w'.heap.size w' w''):=fun w'=>word_ok c _ w' ⟨by omega,by omega,by omega,by omega⟩
 clear h hf
 generalize m.setMem (m.mem.give c)=m' at*
 generalize (m.mem.ar.given c:Int)*64+c+1=V at*
 generalize (m.mem.ar.given c)=G at*
 go_enter Tryz.func239,Tryz.ntmps239
 go_wp2_with fail
 refine HA.out.mono ?_
 rintro e w1 ⟨rfl,k1⟩
 have H3:=hide (k1.below (bRf.alloc nL (.cells #[.int .i64 c, .int .i64 G] 88)))
 clear k1 HA
 go_wp2_with fail
 refine(HW.out _).mono ?_
 rintro e w2 ⟨rfl,hb2⟩
 have H4:=hide (H3.out.below hb2)
 go_wp2
 go_ret
 exact⟨rfl,H4.out⟩
end
section
open Go.RowKit Go.Extern.Stop Go.Stop Go.Extern Go.Maps Go.WideMaps Go.Sort
variable {cs:List (List Ins)} {a:Nat->Addr} {p:MkPl} {w:World} {m:Mk} {K t:Nat} {n:Int} {wi:Nat}
def Mk.loadM(m:Mk)(n:Int):Mk:=if m.names n=true then m else m.addFault 1
def Mk.loadV(m:Mk)(t:Nat)(n w:Int):Int:=if m.names n=true then m.loaded t n w else 0
def Mk.swapM(m:Mk)(t:Nat)(n w v:Int):Mk:=if m.names n=true then(m.fence t).setWord n w v else m.addFault 1
def Mk.swapV(m:Mk)(t:Nat)(n w:Int):Int:=if m.names n=true then(m.fence t).word n w else 0
def Mk.casM(m:Mk)(t:Nat)(n w old v:Int):Mk:=if m.names n=true then(m.fence t).setWord n w (casV ((m.fence t).word n w) old v) else m.addFault 1
def Mk.allocM(m:Mk):Mk:=match m.mem.ar.free? with
 |none=>m
 |some c=>m.setMem (m.mem.give c)
def Mk.allocV(m:Mk):Int:=match m.mem.ar.free? with
 |none=>0
 |some c=>(m.mem.ar.given c:Int)*64+c+1
theorem Mk.load_eq(m:Mk)(t a:Nat)(n w:Int):m.load t a n w=(m.loadM n).setReg t a (m.loadV t n w):=by unfold Mk.load Mk.loadM Mk.loadV;split <;> rfl
theorem Mk.swap_eq(m:Mk)(t a:Nat)(n w v:Int):m.swap t a n w v=(m.swapM t n w v).setReg t a (m.swapV t n w):=by unfold Mk.swap Mk.swapM Mk.swapV;split <;> rfl
theorem Mk.cas_eq(m:Mk)(t b:Nat)(n w old v:Int):m.cas t b n w old v=(m.casM t n w old v).setReg t b (m.swapV t n w):=by unfold Mk.cas Mk.casM Mk.swapV;split <;> rfl
theorem Mk.alloc_eq(m:Mk)(t a:Nat):m.alloc t a=(m.allocM).setReg t a m.allocV:=by unfold Mk.alloc Mk.allocM Mk.allocV;cases m.mem.ar.free? <;> rfl
theorem Mk.loadM_regs(m:Mk)(n:Int):(m.loadM n).regs=m.regs:=by unfold Mk.loadM;split <;> rfl
theorem Mk.swapM_regs(m:Mk)(t:Nat)(n w v:Int):(m.swapM t n w v).regs=m.regs:=by unfold Mk.swapM;split <;> rfl
theorem Mk.casM_regs(m:Mk)(t:Nat)(n w old v:Int):(m.casM t n w old v).regs=m.regs:=by unfold Mk.casM;split <;> rfl
theorem Mk.allocM_regs(m:Mk):m.allocM.regs=m.regs:=by unfold Mk.allocM;cases m.mem.ar.free? <;> rfl
theorem kload_any(h:MkAt a cs p m w){t:Nat}(ht:t<cs.length)(hf:m.faults<=900000000)(hn:Wd n)(hw:wi<4):
  Calls Tryz.prog 235 #[.pointer (some ⟨p.b,0,none⟩), .int .i64 t, .int .i64 n, .int .i64 wi] w fun e w'=>e= .returned (.int .i64 (m.loadV t n wi))/\MkStep a cs p w p.mv (m.loadM n) w':=by
 unfold Mk.loadV Mk.loadM
 cases hy:m.names n
 ·rw[if_neg (by decide),if_neg (by decide)];exact kload_no h hn hf hy wi
 ·rw[if_pos rfl,if_pos rfl];exact(kload_yes h ht hn hy hw).mono fun e w' ⟨e1,e2⟩=>⟨e1,MkStep.of_below' h e2⟩
theorem kswap_any(h:MkAt a cs p m w){t:Nat}(ht:t<cs.length)(hx: ∀x∈m.mem.waits t,x.Ok)(hf:m.faults<=900000000)(hn:Wd n)(hw:wi<4){v:Int}(hv:Wd v):
  Calls Tryz.prog 237 #[.pointer (some ⟨p.b,0,none⟩), .int .i64 t, .int .i64 n, .int .i64 wi, .int .i64 v] w fun e w'=>e= .returned (.int .i64 (m.swapV t n wi))/\MkStep a cs p w p.mv (m.swapM t n wi v) w':=by
 unfold Mk.swapV Mk.swapM
 cases hy:m.names n
 ·rw[if_neg (by decide),if_neg (by decide)];exact kswap_no h hn hf hy wi v
 ·rw[if_pos rfl,if_pos rfl];exact kswap_yes h ht hx hf hn hy hw hv
theorem kcas_any(h:MkAt a cs p m w){t:Nat}(ht:t<cs.length)(hx: ∀x∈m.mem.waits t,x.Ok)(hf:m.faults<=900000000)(hn:Wd n)(hw:wi<4){old v:Int}(ho:Wd old)(hv:Wd v):
  Calls Tryz.prog 238 #[.pointer (some ⟨p.b,0,none⟩), .int .i64 t, .int .i64 n, .int .i64 wi, .int .i64 old, .int .i64 v] w fun e w'=>e= .returned (.int .i64 (m.swapV t n wi))/\MkStep a cs p w p.mv (m.casM t n wi old v) w':=by
 unfold Mk.swapV Mk.casM
 cases hy:m.names n
 ·rw[if_neg (by decide),if_neg (by decide)];exact kcas_no h hn hf hy wi old v
 ·rw[if_pos rfl,if_pos rfl];exact kcas_yes h ht hx hf hn hy hw ho hv
theorem kfree_any(h:MkAt a cs p m w){t:Nat}(ht:t<cs.length)(hx: ∀x∈m.mem.waits t,x.Ok)(hf:m.faults<=900000000)(hn:Wd n):
  Calls Tryz.prog 240 #[.pointer (some ⟨p.b,0,none⟩), .int .i64 t, .int .i64 n] w fun e w'=>e= .returned (.tuple #[])/\MkStep a cs p w p.mv (m.free t n) w':=by
 unfold Mk.free
 cases hy:m.names n
 ·rw[if_neg (by decide)];exact kfree_no h hn hf hy
 ·rw[if_pos rfl];exact kfree_yes h ht hx hf hn hy
theorem kalloc_any(h:MkAt a cs p m w){t:Nat}(ht:t<cs.length)(hg: ∀c,m.mem.ar.given c<=60000000):
  Calls Tryz.prog 239 #[.pointer (some ⟨p.b,0,none⟩), .int .i64 t] w fun e w'=>e= .returned (.int .i64 m.allocV)/\MkStep a cs p w p.mv m.allocM w':=by
 unfold Mk.allocV Mk.allocM
 cases hf:m.mem.ar.free? with
 |none=>exact(kalloc_none h ht hf).mono fun e w' ⟨e1,e2⟩=>⟨e1,MkStep.of_below' h e2⟩
 |some c=>exact kalloc_some h ht hf (hg c)
theorem insX(w:World)(x:Ins):(w.alloc (.cells #[.string x.op, .int .i64 x.a, .int .i64 x.b, .int .i64 x.c, .string x.to] 57)).cell? ⟨w.heap.size,0,none⟩=some (.string x.op)/\
  (w.alloc (.cells #[.string x.op, .int .i64 x.a, .int .i64 x.b, .int .i64 x.c, .string x.to] 57)).cell? ⟨w.heap.size,1,none⟩=some (.int .i64 x.a)/\
  (w.alloc (.cells #[.string x.op, .int .i64 x.a, .int .i64 x.b, .int .i64 x.c, .string x.to] 57)).cell? ⟨w.heap.size,2,none⟩=some (.int .i64 x.b)/\
  (w.alloc (.cells #[.string x.op, .int .i64 x.a, .int .i64 x.b, .int .i64 x.c, .string x.to] 57)).cell? ⟨w.heap.size,3,none⟩=some (.int .i64 x.c)/\
  (w.alloc (.cells #[.string x.op, .int .i64 x.a, .int .i64 x.b, .int .i64 x.c, .string x.to] 57)).cell? ⟨w.heap.size,4,none⟩=some (.string x.to):=⟨by simp,by simp,by simp,by simp,by simp⟩
structure DoX(a:Nat->Addr)(cs:List (List Ins))(p:MkPl)(m:Mk)(K t:Nat)(w:World):Prop where
 at':MkAt a cs p m w
 ok:MkOk cs.length K m
 ht:t<cs.length
 hK:K<=10000000
theorem DoX.waits(h:DoX a cs p m K t w): ∀x∈m.mem.waits t,x.Ok:=h.ok.mem.ok t (by rw[h.ok.thr];exact h.ht)
theorem DoX.faults(h:DoX a cs p m K t w):m.faults<=900000000:=by have:=h.ok.faults;have:=h.hK;omega
theorem DoX.given(h:DoX a cs p m K t w): ∀c,m.mem.ar.given c<=60000000:=fun c=>by have:=h.ok.mem.given c;have:=h.hK;omega
theorem DoX.t6(h:DoX a cs p m K t w):t<6:=Nat.lt_of_lt_of_le h.ht h.at'.few
theorem DoX.below{w w':World}(h:DoX a cs p m K t w)(hb:Below w.heap.size w w'):DoX a cs p m K t w':=⟨h.at'.below hb,h.ok,h.ht,h.hK⟩
end
section
open Go
section
variable {P:Program} {ops:Array Oper} {Q:Exit->Act->World->Prop} {md:Region.Mode} {S:World->Prop}
def allL(l:Array Bool):Bool:=l.toList.all fun b=>b
theorem allL_get{l:Array Bool}(h:allL l=true)(k:Nat):l.getD k true=true:=by
 rcases Nat.lt_or_ge k l.size with h' |h'
 ·have:=List.all_eq_true.1 h (l[k]) (by simp)
  simp only[Array.getD_eq_getD_getElem?,Array.getElem?_eq_getElem h',Option.getD_some]
  exact this
 ·simp[Array.getElem?_eq_none h']
def shutB(md:Region.Mode)(ops:Array Oper)(listed:Array Bool):Bool:=
 (List.range ops.size).all fun k=>(List.range ops.size).all fun i=> !(Region.waitsFor md ops k i) || !(listed.getD k true) ||listed.getD i false
structure ShutL(md:Region.Mode)(ops:Array Oper)(listed:Array Bool):Prop where
 out: ∀k i,k<ops.size->i<ops.size->Region.waitsFor md ops k i=true->listed.getD k true=true->listed.getD i false=true
theorem shutB_out{listed:Array Bool}(h:shutB md ops listed=true):ShutL md ops listed:=⟨fun k i hk hi hw hl=>by
 have:=List.all_eq_true.1 (List.all_eq_true.1 h k (List.mem_range.2 hk)) i (List.mem_range.2 hi)
 rw[hw,hl] at this
 simpa using this⟩
theorem getD_set_self{listed:Array Bool}{j k:Nat}(h:(listed.setIfInBounds j true).getD k true=true)(hne:j≠k):listed.getD k true=true:=by
 rwa [getD_set_ne true hne] at h
theorem ShutL.set{listed:Array Bool}{j:Nat}(h:ShutL md ops listed)(hj:j∈Region.ready md ops listed):ShutL md ops (listed.setIfInBounds j true):=⟨fun k i hk hi hw hl=>by
 by_cases e:j=k
 ·subst e
  obtain⟨-,o,ho,hall⟩:=mem_ready.1 hj
  obtain⟨o',ho',e,he,hb,hon⟩:=Region.waitsFor_spec hw
  obtain rfl:o'=o:=Option.some.inj (ho'.symm.trans ho)
  have:=hall e he hb
  rw[hon] at this
  exact getD_set_true this
 ·exact getD_set_true (h.out k i hk hi hw (getD_set_self hl e))⟩
def wpAnyF(P:Program)(md:Region.Mode)(ops:Array Oper)(Q:Exit->Act->World->Prop)(S:World->Prop):Nat->Array Bool->Act->World->Prop
 |0,listed,a,w=>Region.ready md ops listed=[]/\Q .normal a w
 | fuel+1,listed,a,w=>
  (Region.ready md ops listed=[]->Q .normal a w)/\
  ∀i∈Region.ready md ops listed,wpOp P ops Q i (fun a' w'=>(allL (listed.setIfInBounds i true)=true∨S w')/\wpAnyF P md ops Q S fuel (listed.setIfInBounds i true) a' w') a w
theorem wpAny_of_F: ∀(fuel:Nat) (listed:Array Bool) (a:Act) (w:World),wpAnyF P md ops Q S fuel listed a w->wpAny P md ops Q fuel listed a w
 |0,_,_,_,h=>h
 |fuel+1,_,_,_,h=>⟨h.1,fun i hi=>wpOp_mono (fun a' w' h'=>wpAny_of_F fuel _ a' w' h'.2) (h.2 i hi)⟩
theorem wpAnyF_first {i n:Nat} {oi:Oper} {v:Value} (hi:ops[i]? =some oi) (hsel: ∀(j:Nat) (o:Oper) cs b,ops[j]? =some o->o.op≠ .select cs b)
  (hQ: ∀c a w,Q (.panic c) (a.put oi.dst v) w->Q (.panic c) a w) (hs:Region.sinkB md ops n=true) (hin:i<n) (hn:n<ops.size):
  ∀ (fuel:Nat) (listed:Array Bool) (a:Act) (w:World),ShutL md ops listed->listed.size=ops.size->
   (∀j oj,ops[j]? =some oj->j≠i->listed.getD j true=false->(∀e∈oj.after,Region.binds md e=true->e.on≠i)->oi.apart ops oj=true)->
   i∈Region.ready md ops listed->YieldsIf P ops S oi v a->S w->
   wpAnyF P md ops Q S fuel (listed.setIfInBounds i true) (a.put oi.dst v) w->wpAnyF P md ops Q S (fuel+1) listed a w:=by
 intro fuel
 induction fuel with
 | zero=>
  intro listed a w _ _ _ hr hy hS H
  refine⟨fun h=>(by rw[h] at hr;cases hr),fun j hj=>?_⟩
  by_cases hji:j=i
  ·subst hji;exact hy.wpOp hi hS ⟨.inr hS,H⟩
  ·have:=ready_mono hj hji
   rw[H.1] at this
   cases this
 | succ fuel ih=>
  intro listed a w hsh hsz hfree hr hy hS H
  refine⟨fun h=>(by rw[h] at hr;cases hr),fun j hj=>?_⟩
  by_cases hji:j=i
  ·subst hji;exact hy.wpOp hi hS ⟨.inr hS,H⟩
  ·have h1:=H.2 j (ready_mono hj hji)
   obtain⟨hjun,oj,hoj,hall⟩:=mem_ready.1 hj
   have hiun:=(mem_ready.1 hr).1
   have hiun':listed.getD i false=false:=getD_both hiun
   have hnot: ∀e∈oj.after,Region.binds md e=true->e.on≠i:=fun e he hb heq=>by
    have h1:=hall e he hb
    rw[heq,hiun'] at h1
    cases h1
   have h2:=wpOp_putIf hoj (hfree j oj hoj hji hjun hnot) (fun cs b=>hsel i oi cs b hi) (fun cs b=>hsel j oj cs b hoj) hQ hy h1
   have hfree': ∀k ok,ops[k]? =some ok->k≠i->(listed.setIfInBounds j true).getD k true=false->
     (∀e∈ok.after,Region.binds md e=true->e.on≠i)->oi.apart ops ok=true:=fun k ok hk hki hun hno=>by
    refine hfree k ok hk hki ?_ hno
    by_cases hjk:j=k
    ·subst hjk;exact hjun
    ·rw[getD_set_ne true hjk] at hun;exact hun
   have hri:i∈Region.ready md ops (listed.setIfInBounds j true):=ready_mono hr (Ne.symm hji)
   -- somebody waits for i: so j is not the last one
   have hlast:allL ((listed.setIfInBounds i true).setIfInBounds j true)=true->False:=fun hall'=>by
    have h3:=List.all_eq_true.1 hs i (List.mem_range.2 hin)
    obtain⟨k,hk,hk2⟩:=List.any_eq_true.1 h3
    simp only[Bool.and_eq_true,decide_eq_true_eq] at hk2
    have hkn:k<ops.size:=by have:=List.mem_range.1 hk;omega
    have hin':i<ops.size:=by omega
    have hjk:j≠k:=fun e=>by
     subst e
     obtain⟨o',ho',e,he,hb,hon⟩:=Region.waitsFor_spec hk2.2
     obtain rfl:o'=oj:=Option.some.inj (ho'.symm.trans hoj)
     exact hnot e he hb hon
    have hik:i≠k:=by omega
    have h4:=allL_get hall' k
    rw[getD_set_ne true hjk,getD_set_ne true hik] at h4
    have h5:=hsh.out k i hkn hin' hk2.2 h4
    rw[hiun'] at h5
    cases h5
   refine wpOp_mono (fun a' w' h3=>?_) h2
   have hS':S w':=h3.2.1.resolve_left (fun e=>hlast e)
   refine⟨.inr hS',ih (listed.setIfInBounds j true) a' w' (hsh.set hj) (by simp[hsz]) hfree' hri h3.1 hS' ?_⟩
   rw[Array.setIfInBounds_comm _ _ hji]
   exact h3.2.2
theorem wpAnyF_take{i n:Nat}{oi:Oper}{v:Value}{fuel:Nat}{listed:Array Bool}{a:Act}{w:World}(hi:ops[i]? =some oi) 
  (hB:(Region.noSelect ops&&Region.free md ops listed i&&(Region.ready md ops listed).contains i&&Region.sinkB md ops n&&decide (i<n)&&decide (n<ops.size)&&shutB md ops listed&&decide (listed.size=ops.size))=true)
  (hQ: ∀c a w,Q (.panic c) (a.put oi.dst v) w->Q (.panic c) a w) (hS:S w) (hy:YieldsIf P ops S oi v a)
  (h:wpAnyF P md ops Q S fuel (listed.setIfInBounds i true) (a.put oi.dst v) w):wpAnyF P md ops Q S (fuel+1) listed a w:=by
 simp only[Bool.and_eq_true,decide_eq_true_eq] at hB
 obtain⟨⟨⟨⟨⟨⟨⟨hs,hf⟩,hr⟩,hk⟩,hin⟩,hn⟩,hsh⟩,hsz⟩:=hB
 exact wpAnyF_first hi (Region.noSelect_spec hs) hQ hk hin hn fuel listed a w (shutB_out hsh) hsz (Region.free_spec hi hf) (by simpa using hr) hy hS h
theorem wpAnyF_next{n sz:Nat}{oi:Oper}{v:Value}{fuel:Nat}{listed:Array Bool}{a:Act}{w:World}(hi:ops[sz - (fuel+1)]? =some oi) 
  (hB:(Region.noSelect ops&&Region.free md ops listed (sz - (fuel+1))&&(Region.ready md ops listed).contains (sz - (fuel+1))&&Region.sinkB md ops n&&decide (sz - (fuel+1)<n)&&decide (n<ops.size)&&shutB md ops listed&&decide (listed.size=ops.size))=true)
  (hQ: ∀c a w,Q (.panic c) (a.put oi.dst v) w->Q (.panic c) a w) (hS:S w) (hy:YieldsIf P ops S oi v a)
  (h:wpAnyF P md ops Q S fuel (listed.setIfInBounds (sz - (fuel+1)) true) (a.put oi.dst v) w):wpAnyF P md ops Q S (fuel+1) listed a w:=wpAnyF_take hi hB hQ hS hy h
theorem wpAnyF_only{i:Nat}{o:Oper}{fuel:Nat}{listed:Array Bool}{a:Act}{w:World}(ho:ops[i]? =some o)(hr:Region.ready md ops listed=[i]) 
  (h: ∀K':Act->World->Prop,Shut (∀a w,(allL (listed.setIfInBounds i true)=true∨S w)->wpAnyF P md ops Q S fuel (listed.setIfInBounds i true) a w->K' a w)->if Region.wanted o (yielded ops a.tmps)=true then Oper.wp P o a w K' Q else K' (a.put o.dst undef) w):wpAnyF P md ops Q S (fuel+1) listed a w:=by
 refine⟨fun h0=>(by rw[hr] at h0;cases h0),fun j hj=>?_⟩
 rw[hr] at hj
 obtain rfl:j=i:=by simpa using hj
 exact wpOp_step ho (fun K' hK=>h K' (fun a w hS hW=>hK a w ⟨hS,hW⟩))
theorem wpAnyF_done{listed:Array Bool}{a:Act}{w:World}(hr:Region.ready md ops listed=[])(h:Q .normal a w):
  ∀fuel,wpAnyF P md ops Q S fuel listed a w
 |0=>⟨hr,h⟩
 |_+1=>⟨fun _=>h,by rw[hr];simp⟩
theorem wp_region_F{id:Nat}{a:Act}{w:World}(hm:P.follows .mixedOrders=true)(hS:S w.drew) 
  (h:S w.drew->wpAnyF P .any ops Q S ops.size (Array.replicate ops.size false) a w.drew):(Code.region id ops true).wp P Q a w:=
 wp_region_any hm (wpAny_of_F _ _ _ _ (h hS))
end
theorem fxs{α:Type}:(∀(l:List α) (i:Nat) (h:i<l.toArray.size),l.toArray[i]=l[i]'(by simpa using h))/\(∀(a:α) (l:List α) (h:0<(a::l).length),(a::l)[0]=a)/\(∀(a:α) (l:List α) (i:Nat) (h:i+1<(a::l).length),(a::l)[i+1]=l[i]'(Nat.lt_of_succ_lt_succ h))/\(∀(l:List α) (i:Nat) (a:α),l.toArray.setIfInBounds i a=(l.set i a).toArray)/\(∀(a b:α) (l:List α),(a::l).set 0 b=b::l)/\(∀(a b:α) (l:List α) (n:Nat),(a::l).set (n+1) b=a::l.set n b):=⟨fun _ _ _=>List.getElem_toArray ..,fun _ _ _=>rfl,fun _ _ _ _=>rfl,fun _ _ _=>List.setIfInBounds_toArray ..,fun _ _ _=>rfl,fun _ _ _ _=>rfl⟩
end
section
open Go.RowKit Go.Extern.Stop Go.Stop Go.Extern Go.Maps Go.WideMaps Go.Sort
variable {cs:List (List Ins)} {a:Nat->Addr} {K t:Nat} {w:World} {p:MkPl} {m:Mk} {i:Nat} {j:Nat} {k:Nat}
theorem ktouch_load (D:DoX a cs p m K t w) (L:List Ins) (x:Ins) (e:x.op=⟨#[108,111,97,100]⟩) (hi:i<8) (ei:x.a=i) (hj:j<8) (ej:x.b=j) (hk:k<4) (ek:x.c=k):
  Calls Tryz.prog 221 #[.pointer (some ⟨p.b,0,none⟩), .int .i64 t, .agg #[.string x.op, .int .i64 x.a, .int .i64 x.b, .int .i64 x.c, .string x.to]] w fun e w'=>e= .returned (.tuple #[])/\MkStep a cs p w p.mv (m.exec L t x) w':=by
 rw[exec_load m L t e]
 rw[ei]
 rw[ej]
 rw[ek]
 simp only[Int.toNat_natCast]
 rw[Mk.load_eq]
 obtain⟨xo,xa,xb,xc,xt⟩:=x
 dsimp only at e ei ej ek ⊢
 subst e ei ej ek
 have t6:=D.t6
 have t6i:(t:Int)<6:=by omega
 have hba:Below w.heap.size w (w.alloc (.cells #[.string ⟨#[108,111,97,100]⟩, .int .i64 i, .int .i64 j, .int .i64 k, .string xt] 57)):=bRf.alloc nL _
 have q0:(w.alloc (.cells #[.string ⟨#[108,111,97,100]⟩, .int .i64 i, .int .i64 j, .int .i64 k, .string xt] 57)).cell? ⟨w.heap.size,0,none⟩=some (.string ⟨#[108,111,97,100]⟩):=by simp
 have q1:(w.alloc (.cells #[.string ⟨#[108,111,97,100]⟩, .int .i64 i, .int .i64 j, .int .i64 k, .string xt] 57)).cell? ⟨w.heap.size,1,none⟩=some (.int .i64 i):=by simp
 have q2:(w.alloc (.cells #[.string ⟨#[108,111,97,100]⟩, .int .i64 i, .int .i64 j, .int .i64 k, .string xt] 57)).cell? ⟨w.heap.size,2,none⟩=some (.int .i64 j):=by simp
 have q3:(w.alloc (.cells #[.string ⟨#[108,111,97,100]⟩, .int .i64 i, .int .i64 j, .int .i64 k, .string xt] 57)).cell? ⟨w.heap.size,3,none⟩=some (.int .i64 k):=by simp
 have D1:=D.below hba
 have hlw:=D.at'.lt
 have gi:=D1.at'.reg t i t6 (by omega)
 have gj:=D1.at'.reg t j t6 (by omega)
 have li:(i:Int)<8:=by omega
 have lj:(j:Int)<8:=by omega
 have lk:(k:Int)<4:=by omega
 generalize hw:w.alloc (.cells #[.string ⟨#[108,111,97,100]⟩, .int .i64 i, .int .i64 j, .int .i64 k, .string xt] 57)=w1 at*
 have HL:Hid (Calls Tryz.prog 235 #[.pointer (some ⟨p.b,0,none⟩), .int .i64 t, .int .i64 (m.regs t j), .int .i64 k] (w1.drewN 1) fun e w''=>e= .returned (.int .i64 (m.loadV t (m.regs t j) k))/\(w''.cell? ⟨w.heap.size,1,none⟩=some (.int .i64 i)/\w''.cell? ⟨w.heap.size,2,none⟩=some (.int .i64 j)/\w''.cell? ⟨w.heap.size,3,none⟩=some (.int .i64 k)/\w''.cell? ⟨p.b,585+t*9+i,none⟩=some (.int .i64 (m.regs t i))/\w''.cell? ⟨p.b,585+t*9+j,none⟩=some (.int .i64 (m.regs t j)))/\w''.frozen? ⟨p.b,585+t*9+i,none⟩=false/\Hid (MkStep a cs p w p.mv (m.loadM (m.regs t j)) w'')):=
  (kload_any (D1.at'.drewN 1) D.ht D.faults (D.ok.regs _ _) hk).mono fun e w'' ⟨e1,e2⟩=>by
    have keepB: ∀{o:Nat} {u:Value},w1.cell? ⟨w.heap.size,o,none⟩=some u->w''.cell? ⟨w.heap.size,o,none⟩=some u:=fun hc=>e2.keep (w:=w1.drewN 1) hc (fun e=>by have:=D.at'.fp_lt e;omega)
    have keepR: ∀r,r<8->w''.cell? ⟨p.b,585+t*9+r,none⟩=some (.int .i64 (m.regs t r)):=fun r hr=>by have:=e2.at'.reg t r t6 hr;rw[Mk.loadM_regs] at this;exact this
    exact⟨e1,⟨keepB q1,keepB q2,keepB q3,keepR i (by omega),keepR j (by omega)⟩,e2.at'.frozen _ (by omega) (by omega),MkStep.of_below (below_dN hba 1) e2⟩
 clear D D1 hba
 generalize m.loadV t (m.regs t j) k=V at*
 generalize m.loadM (m.regs t j)=m1 at*
 generalize m.regs t i=Ri at*
 generalize m.regs t j=Rj at*
 go_enter Tryz.func221,Tryz.ntmps221
 go_wp2_with fail
 clear hw
 refine wp_region_F (S:=(fun w'=>w'.cell? ⟨w.heap.size,1,none⟩=some (.int .i64 i)/\w'.cell? ⟨w.heap.size,2,none⟩=some (.int .i64 j)/\w'.cell? ⟨w.heap.size,3,none⟩=some (.int .i64 k)/\w'.cell? ⟨p.b,585+t*9+i,none⟩=some (.int .i64 Ri)/\w'.cell? ⟨p.b,585+t*9+j,none⟩=some (.int .i64 Rj))) (by kernel_rfl) (by(try dsimp only);go_keep) (fun hHeld=>?_)
 iterate 13
  refine' wpAnyF_next (sz:=17) (n:=16) (v:=_) rfl (by kernel_rfl) (fun _ _ _ h=>h) (by assumption) (Or.inl ⟨by rfl,?_⟩) ?_
  case' refine'_2=>(intro w' hSw;(try dsimp only at hSw);go_simp;try with_reducible rfl)
  try simp only[Act.put,fxs]
 refine' wpAnyF_take (i:=14) (n:=16) (v:=_) rfl (by kernel_rfl) (fun _ _ _ h=>h) (by assumption) (Or.inl ⟨by rfl,?hy14⟩) ?rest14
 case' hy14=>(intro w' hSw;(try dsimp only at hSw);go_simp;try with_reducible rfl)
 try simp only[Act.put,fxs]
 refine wpAnyF_only (i:=13) rfl (by kernel_rfl) (fun K hK=>?_)
 go_simp
 go_at_call 235
 refine HL.out.mono ?_
 rintro e w4 ⟨rfl,hs4,z4,k4⟩
 dsimp only
 refine hK.out _ _ (Or.inr (by(try dsimp only);exact hs4)) ?_
 clear hK K
 try simp only[Act.put,fxs]
 refine' wpAnyF_take (i:=15) (n:=16) (v:=_) rfl (by kernel_rfl) (fun _ _ _ h=>h) (by assumption) (Or.inl ⟨by rfl,?hy15⟩) ?rest15
 case' hy15=>(intro w' hSw;(try dsimp only at hSw);go_simp;try with_reducible rfl)
 try simp only[Act.put,fxs]
 obtain⟨s0,s1,s2,s3,s4⟩:=hs4
 refine wpAnyF_only (i:=16) rfl (by kernel_rfl) (fun K hK=>?_)
 go_simp
 refine hK.out _ _ (Or.inl (by kernel_rfl)) ?_
 clear hK K
 try simp only[Act.put,fxs]
 refine wpAnyF_done (by kernel_rfl) ?_ _
 go_wp2
 go_end0
 exact⟨rfl,k4.out.trans (k4.out.at'.setReg t6 (by omega) V)⟩
theorem ktouch_swap (D:DoX a cs p m K t w) (L:List Ins) (x:Ins) (e:x.op=⟨#[115,119,97,112]⟩) (hi:i<8) (ei:x.a=i) (hj:j<8) (ej:x.b=j) (hk:k<4) (ek:x.c=k):
  Calls Tryz.prog 221 #[.pointer (some ⟨p.b,0,none⟩), .int .i64 t, .agg #[.string x.op, .int .i64 x.a, .int .i64 x.b, .int .i64 x.c, .string x.to]] w fun e w'=>e= .returned (.tuple #[])/\MkStep a cs p w p.mv (m.exec L t x) w':=by
 rw[exec_swap m L t e]
 rw[ei]
 rw[ej]
 rw[ek]
 simp only[Int.toNat_natCast]
 rw[Mk.swap_eq]
 obtain⟨xo,xa,xb,xc,xt⟩:=x
 dsimp only at e ei ej ek ⊢
 subst e ei ej ek
 have t6:=D.t6
 have t6i:(t:Int)<6:=by omega
 have hba:Below w.heap.size w (w.alloc (.cells #[.string ⟨#[115,119,97,112]⟩, .int .i64 i, .int .i64 j, .int .i64 k, .string xt] 57)):=bRf.alloc nL _
 have q0:(w.alloc (.cells #[.string ⟨#[115,119,97,112]⟩, .int .i64 i, .int .i64 j, .int .i64 k, .string xt] 57)).cell? ⟨w.heap.size,0,none⟩=some (.string ⟨#[115,119,97,112]⟩):=by simp
 have q1:(w.alloc (.cells #[.string ⟨#[115,119,97,112]⟩, .int .i64 i, .int .i64 j, .int .i64 k, .string xt] 57)).cell? ⟨w.heap.size,1,none⟩=some (.int .i64 i):=by simp
 have q2:(w.alloc (.cells #[.string ⟨#[115,119,97,112]⟩, .int .i64 i, .int .i64 j, .int .i64 k, .string xt] 57)).cell? ⟨w.heap.size,2,none⟩=some (.int .i64 j):=by simp
 have q3:(w.alloc (.cells #[.string ⟨#[115,119,97,112]⟩, .int .i64 i, .int .i64 j, .int .i64 k, .string xt] 57)).cell? ⟨w.heap.size,3,none⟩=some (.int .i64 k):=by simp
 have D1:=D.below hba
 have hlw:=D.at'.lt
 have gi:=D1.at'.reg t i t6 (by omega)
 have gj:=D1.at'.reg t j t6 (by omega)
 have li:(i:Int)<8:=by omega
 have lj:(j:Int)<8:=by omega
 have lk:(k:Int)<4:=by omega
 generalize hw:w.alloc (.cells #[.string ⟨#[115,119,97,112]⟩, .int .i64 i, .int .i64 j, .int .i64 k, .string xt] 57)=w1 at*
 have HL:Hid (Calls Tryz.prog 237 #[.pointer (some ⟨p.b,0,none⟩), .int .i64 t, .int .i64 (m.regs t j), .int .i64 k, .int .i64 (m.regs t i)] (w1.drewN 1) fun e w''=>e= .returned (.int .i64 (m.swapV t (m.regs t j) k))/\(w''.cell? ⟨w.heap.size,1,none⟩=some (.int .i64 i)/\w''.cell? ⟨w.heap.size,2,none⟩=some (.int .i64 j)/\w''.cell? ⟨w.heap.size,3,none⟩=some (.int .i64 k)/\w''.cell? ⟨p.b,585+t*9+i,none⟩=some (.int .i64 (m.regs t i))/\w''.cell? ⟨p.b,585+t*9+j,none⟩=some (.int .i64 (m.regs t j)))/\w''.frozen? ⟨p.b,585+t*9+i,none⟩=false/\Hid (MkStep a cs p w p.mv (m.swapM t (m.regs t j) k (m.regs t i)) w'')):=
  (kswap_any (D1.at'.drewN 1) D.ht D.waits D.faults (D.ok.regs _ _) hk (D.ok.regs _ _)).mono fun e w'' ⟨e1,e2⟩=>by
    have keepB: ∀{o:Nat} {u:Value},w1.cell? ⟨w.heap.size,o,none⟩=some u->w''.cell? ⟨w.heap.size,o,none⟩=some u:=fun hc=>e2.keep (w:=w1.drewN 1) hc (fun e=>by have:=D.at'.fp_lt e;omega)
    have keepR: ∀r,r<8->w''.cell? ⟨p.b,585+t*9+r,none⟩=some (.int .i64 (m.regs t r)):=fun r hr=>by have:=e2.at'.reg t r t6 hr;rw[Mk.swapM_regs] at this;exact this
    exact⟨e1,⟨keepB q1,keepB q2,keepB q3,keepR i (by omega),keepR j (by omega)⟩,e2.at'.frozen _ (by omega) (by omega),MkStep.of_below (below_dN hba 1) e2⟩
 clear D D1 hba
 generalize m.swapV t (m.regs t j) k=V at*
 generalize m.swapM t (m.regs t j) k (m.regs t i)=m1 at*
 generalize m.regs t i=Ri at*
 generalize m.regs t j=Rj at*
 go_enter Tryz.func221,Tryz.ntmps221
 go_wp2_with fail
 clear hw
 refine wp_region_F (S:=(fun w'=>w'.cell? ⟨w.heap.size,1,none⟩=some (.int .i64 i)/\w'.cell? ⟨w.heap.size,2,none⟩=some (.int .i64 j)/\w'.cell? ⟨w.heap.size,3,none⟩=some (.int .i64 k)/\w'.cell? ⟨p.b,585+t*9+i,none⟩=some (.int .i64 Ri)/\w'.cell? ⟨p.b,585+t*9+j,none⟩=some (.int .i64 Rj))) (by kernel_rfl) (by(try dsimp only);go_keep) (fun hHeld=>?_)
 iterate 19
  refine' wpAnyF_next (sz:=23) (n:=22) (v:=_) rfl (by kernel_rfl) (fun _ _ _ h=>h) (by assumption) (Or.inl ⟨by rfl,?_⟩) ?_
  case' refine'_2=>(intro w' hSw;(try dsimp only at hSw);go_simp;try with_reducible rfl)
  try simp only[Act.put,fxs]
 refine' wpAnyF_take (i:=20) (n:=22) (v:=_) rfl (by kernel_rfl) (fun _ _ _ h=>h) (by assumption) (Or.inl ⟨by rfl,?hy35⟩) ?rest35
 case' hy35=>(intro w' hSw;(try dsimp only at hSw);go_simp;try with_reducible rfl)
 try simp only[Act.put,fxs]
 refine wpAnyF_only (i:=19) rfl (by kernel_rfl) (fun K hK=>?_)
 go_simp
 go_at_call 237
 refine HL.out.mono ?_
 rintro e w4 ⟨rfl,hs4,z4,k4⟩
 dsimp only
 refine hK.out _ _ (Or.inr (by(try dsimp only);exact hs4)) ?_
 clear hK K
 try simp only[Act.put,fxs]
 refine' wpAnyF_take (i:=21) (n:=22) (v:=_) rfl (by kernel_rfl) (fun _ _ _ h=>h) (by assumption) (Or.inl ⟨by rfl,?hy36⟩) ?rest36
 case' hy36=>(intro w' hSw;(try dsimp only at hSw);go_simp;try with_reducible rfl)
 try simp only[Act.put,fxs]
 obtain⟨s0,s1,s2,s3,s4⟩:=hs4
 refine wpAnyF_only (i:=22) rfl (by kernel_rfl) (fun K hK=>?_)
 go_simp
 refine hK.out _ _ (Or.inl (by kernel_rfl)) ?_
 clear hK K
 try simp only[Act.put,fxs]
 refine wpAnyF_done (by kernel_rfl) ?_ _
 go_wp2
 go_end0
 exact⟨rfl,k4.out.trans (k4.out.at'.setReg t6 (by omega) V)⟩
theorem ktouch_cas (D:DoX a cs p m K t w) (L:List Ins) (x:Ins) (e:x.op=⟨#[99,97,115]⟩) (hi:i<8) (ei:x.a=i) (hj:j<7) (ej:x.b=j) (hk:k<4) (ek:x.c=k):
  Calls Tryz.prog 221 #[.pointer (some ⟨p.b,0,none⟩), .int .i64 t, .agg #[.string x.op, .int .i64 x.a, .int .i64 x.b, .int .i64 x.c, .string x.to]] w fun e w'=>e= .returned (.tuple #[])/\MkStep a cs p w p.mv (m.exec L t x) w':=by
 rw[exec_cas m L t e]
 rw[ei]
 rw[ej]
 rw[ek]
 simp only[Int.toNat_natCast]
 rw[Mk.cas_eq]
 obtain⟨xo,xa,xb,xc,xt⟩:=x
 dsimp only at e ei ej ek ⊢
 subst e ei ej ek
 have t6:=D.t6
 have t6i:(t:Int)<6:=by omega
 have hba:Below w.heap.size w (w.alloc (.cells #[.string ⟨#[99,97,115]⟩, .int .i64 i, .int .i64 j, .int .i64 k, .string xt] 57)):=bRf.alloc nL _
 have q0:(w.alloc (.cells #[.string ⟨#[99,97,115]⟩, .int .i64 i, .int .i64 j, .int .i64 k, .string xt] 57)).cell? ⟨w.heap.size,0,none⟩=some (.string ⟨#[99,97,115]⟩):=by simp
 have q1:(w.alloc (.cells #[.string ⟨#[99,97,115]⟩, .int .i64 i, .int .i64 j, .int .i64 k, .string xt] 57)).cell? ⟨w.heap.size,1,none⟩=some (.int .i64 i):=by simp
 have q2:(w.alloc (.cells #[.string ⟨#[99,97,115]⟩, .int .i64 i, .int .i64 j, .int .i64 k, .string xt] 57)).cell? ⟨w.heap.size,2,none⟩=some (.int .i64 j):=by simp
 have q3:(w.alloc (.cells #[.string ⟨#[99,97,115]⟩, .int .i64 i, .int .i64 j, .int .i64 k, .string xt] 57)).cell? ⟨w.heap.size,3,none⟩=some (.int .i64 k):=by simp
 have D1:=D.below hba
 have hlw:=D.at'.lt
 have gi:=D1.at'.reg t i t6 (by omega)
 have gj:=D1.at'.reg t j t6 (by omega)
 have gj1:=D1.at'.reg t (j+1) t6 (by omega)
 have li:(i:Int)<8:=by omega
 have lj:(j:Int)<7:=by omega
 have lk:(k:Int)<4:=by omega
 generalize hw:w.alloc (.cells #[.string ⟨#[99,97,115]⟩, .int .i64 i, .int .i64 j, .int .i64 k, .string xt] 57)=w1 at*
 have HL:Hid (Calls Tryz.prog 238 #[.pointer (some ⟨p.b,0,none⟩), .int .i64 t, .int .i64 (m.regs t i), .int .i64 k, .int .i64 (m.regs t j), .int .i64 (m.regs t (j+1))] (w1.drewN 1) fun e w''=>e= .returned (.int .i64 (m.swapV t (m.regs t i) k))/\(w''.cell? ⟨w.heap.size,1,none⟩=some (.int .i64 i)/\w''.cell? ⟨w.heap.size,2,none⟩=some (.int .i64 j)/\w''.cell? ⟨w.heap.size,3,none⟩=some (.int .i64 k)/\w''.cell? ⟨p.b,585+t*9+i,none⟩=some (.int .i64 (m.regs t i))/\w''.cell? ⟨p.b,585+t*9+j,none⟩=some (.int .i64 (m.regs t j))/\w''.cell? ⟨p.b,585+t*9+(j+1),none⟩=some (.int .i64 (m.regs t (j+1))))/\w''.frozen? ⟨p.b,585+t*9+j,none⟩=false/\Hid (MkStep a cs p w p.mv (m.casM t (m.regs t i) k (m.regs t j) (m.regs t (j+1))) w'')):=
  (kcas_any (D1.at'.drewN 1) D.ht D.waits D.faults (D.ok.regs _ _) hk (D.ok.regs _ _) (D.ok.regs _ _)).mono fun e w'' ⟨e1,e2⟩=>by
    have keepB: ∀{o:Nat} {u:Value},w1.cell? ⟨w.heap.size,o,none⟩=some u->w''.cell? ⟨w.heap.size,o,none⟩=some u:=fun hc=>e2.keep (w:=w1.drewN 1) hc (fun e=>by have:=D.at'.fp_lt e;omega)
    have keepR: ∀r,r<8->w''.cell? ⟨p.b,585+t*9+r,none⟩=some (.int .i64 (m.regs t r)):=fun r hr=>by have:=e2.at'.reg t r t6 hr;rw[Mk.casM_regs] at this;exact this
    exact⟨e1,⟨keepB q1,keepB q2,keepB q3,keepR i (by omega),keepR j (by omega),keepR (j+1) (by omega)⟩,e2.at'.frozen _ (by omega) (by omega),MkStep.of_below (below_dN hba 1) e2⟩
 clear D D1 hba
 generalize m.swapV t (m.regs t i) k=V at*
 generalize m.casM t (m.regs t i) k (m.regs t j) (m.regs t (j+1))=m1 at*
 generalize m.regs t i=Ri at*
 generalize m.regs t j=Rj at*
 generalize m.regs t (j+1)=Rjp1 at*
 have l8:(j:Int)<8:=by omega
 have l81:(j:Int)+1<8:=by omega
 have l80:(0:Int)<=(j:Int)+1:=by omega
 have hw1:IntKind.i64.wrap ((j:Int)+1)=(j:Int)+1:=by rw[IntKind.wrap_i64];omega
 go_enter Tryz.func221,Tryz.ntmps221
 go_wp2_with fail
 clear hw
 refine wp_region_F (S:=(fun w'=>w'.cell? ⟨w.heap.size,1,none⟩=some (.int .i64 i)/\w'.cell? ⟨w.heap.size,2,none⟩=some (.int .i64 j)/\w'.cell? ⟨w.heap.size,3,none⟩=some (.int .i64 k)/\w'.cell? ⟨p.b,585+t*9+i,none⟩=some (.int .i64 Ri)/\w'.cell? ⟨p.b,585+t*9+j,none⟩=some (.int .i64 Rj)/\w'.cell? ⟨p.b,585+t*9+(j+1),none⟩=some (.int .i64 Rjp1))) (by kernel_rfl) (by(try dsimp only);go_keep) (fun hHeld=>?_)
 iterate 26
  refine' wpAnyF_next (sz:=30) (n:=29) (v:=_) rfl (by kernel_rfl) (fun _ _ _ h=>h) (by assumption) (Or.inl ⟨by rfl,?_⟩) ?_
  case' refine'_2=>(intro w' hSw;(try dsimp only at hSw);go_simp;try with_reducible rfl)
  try simp only[Act.put,fxs]
 refine' wpAnyF_take (i:=27) (n:=29) (v:=_) rfl (by kernel_rfl) (fun _ _ _ h=>h) (by assumption) (Or.inl ⟨by rfl,?hy63⟩) ?rest63
 case' hy63=>(intro w' hSw;(try dsimp only at hSw);go_simp;try with_reducible rfl)
 try simp only[Act.put,fxs]
 refine wpAnyF_only (i:=26) rfl (by kernel_rfl) (fun K hK=>?_)
 go_simp
 go_at_call 238
 refine HL.out.mono ?_
 rintro e w4 ⟨rfl,hs4,z4,k4⟩
 dsimp only
 refine hK.out _ _ (Or.inr (by(try dsimp only);exact hs4)) ?_
 clear hK K
 try simp only[Act.put,fxs]
 refine' wpAnyF_take (i:=28) (n:=29) (v:=_) rfl (by kernel_rfl) (fun _ _ _ h=>h) (by assumption) (Or.inl ⟨by rfl,?hy64⟩) ?rest64
 case' hy64=>(intro w' hSw;(try dsimp only at hSw);go_simp;try with_reducible rfl)
 try simp only[Act.put,fxs]
 obtain⟨s0,s1,s2,s3,s4,s5⟩:=hs4
 refine wpAnyF_only (i:=29) rfl (by kernel_rfl) (fun K hK=>?_)
 go_simp
 refine hK.out _ _ (Or.inl (by kernel_rfl)) ?_
 clear hK K
 try simp only[Act.put,fxs]
 refine wpAnyF_done (by kernel_rfl) ?_ _
 go_wp2
 go_end0
 exact⟨rfl,k4.out.trans (k4.out.at'.setReg t6 (by omega) V)⟩
theorem ktouch_alloc (D:DoX a cs p m K t w) (L:List Ins) (x:Ins) (e:x.op=⟨#[97,108,108,111,99]⟩) (hi:i<8) (ei:x.a=i):
  Calls Tryz.prog 221 #[.pointer (some ⟨p.b,0,none⟩), .int .i64 t, .agg #[.string x.op, .int .i64 x.a, .int .i64 x.b, .int .i64 x.c, .string x.to]] w fun e w'=>e= .returned (.tuple #[])/\MkStep a cs p w p.mv (m.exec L t x) w':=by
 rw[exec_alloc m L t e]
 rw[ei]
 simp only[Int.toNat_natCast]
 rw[Mk.alloc_eq]
 obtain⟨xo,xa,xb,xc,xt⟩:=x
 dsimp only at e ei ⊢
 subst e ei
 have t6:=D.t6
 have t6i:(t:Int)<6:=by omega
 have hba:Below w.heap.size w (w.alloc (.cells #[.string ⟨#[97,108,108,111,99]⟩, .int .i64 i, .int .i64 xb, .int .i64 xc, .string xt] 57)):=bRf.alloc nL _
 have q0:(w.alloc (.cells #[.string ⟨#[97,108,108,111,99]⟩, .int .i64 i, .int .i64 xb, .int .i64 xc, .string xt] 57)).cell? ⟨w.heap.size,0,none⟩=some (.string ⟨#[97,108,108,111,99]⟩):=by simp
 have q1:(w.alloc (.cells #[.string ⟨#[97,108,108,111,99]⟩, .int .i64 i, .int .i64 xb, .int .i64 xc, .string xt] 57)).cell? ⟨w.heap.size,1,none⟩=some (.int .i64 i):=by simp
 have q2:(w.alloc (.cells #[.string ⟨#[97,108,108,111,99]⟩, .int .i64 i, .int .i64 xb, .int .i64 xc, .string xt] 57)).cell? ⟨w.heap.size,2,none⟩=some (.int .i64 xb):=by simp
 have q3:(w.alloc (.cells #[.string ⟨#[97,108,108,111,99]⟩, .int .i64 i, .int .i64 xb, .int .i64 xc, .string xt] 57)).cell? ⟨w.heap.size,3,none⟩=some (.int .i64 xc):=by simp
 have D1:=D.below hba
 have hlw:=D.at'.lt
 have gi:=D1.at'.reg t i t6 (by omega)
 have li:(i:Int)<8:=by omega
 generalize hw:w.alloc (.cells #[.string ⟨#[97,108,108,111,99]⟩, .int .i64 i, .int .i64 xb, .int .i64 xc, .string xt] 57)=w1 at*
 have HL:Hid (Calls Tryz.prog 239 #[.pointer (some ⟨p.b,0,none⟩), .int .i64 t] (w1.drewN 1) fun e w''=>e= .returned (.int .i64 (m.allocV))/\(w''.cell? ⟨w.heap.size,1,none⟩=some (.int .i64 i)/\w''.cell? ⟨p.b,585+t*9+i,none⟩=some (.int .i64 (m.regs t i)))/\w''.frozen? ⟨p.b,585+t*9+i,none⟩=false/\Hid (MkStep a cs p w p.mv (m.allocM) w'')):=
  (kalloc_any (D1.at'.drewN 1) D.ht D.given).mono fun e w'' ⟨e1,e2⟩=>by
    have keepB: ∀{o:Nat} {u:Value},w1.cell? ⟨w.heap.size,o,none⟩=some u->w''.cell? ⟨w.heap.size,o,none⟩=some u:=fun hc=>e2.keep (w:=w1.drewN 1) hc (fun e=>by have:=D.at'.fp_lt e;omega)
    have keepR: ∀r,r<8->w''.cell? ⟨p.b,585+t*9+r,none⟩=some (.int .i64 (m.regs t r)):=fun r hr=>by have:=e2.at'.reg t r t6 hr;rw[Mk.allocM_regs] at this;exact this
    exact⟨e1,⟨keepB q1,keepR i (by omega)⟩,e2.at'.frozen _ (by omega) (by omega),MkStep.of_below (below_dN hba 1) e2⟩
 clear D D1 hba
 generalize m.allocV=V at*
 generalize m.allocM=m1 at*
 generalize m.regs t i=Ri at*
 go_enter Tryz.func221,Tryz.ntmps221
 go_wp2_with fail
 clear hw
 refine wp_region_F (S:=(fun w'=>w'.cell? ⟨w.heap.size,1,none⟩=some (.int .i64 i)/\w'.cell? ⟨p.b,585+t*9+i,none⟩=some (.int .i64 Ri))) (by kernel_rfl) (by(try dsimp only);go_keep) (fun hHeld=>?_)
 iterate 5
  refine' wpAnyF_next (sz:=9) (n:=8) (v:=_) rfl (by kernel_rfl) (fun _ _ _ h=>h) (by assumption) (Or.inl ⟨by rfl,?_⟩) ?_
  case' refine'_2=>(intro w' hSw;(try dsimp only at hSw);go_simp;try with_reducible rfl)
  try simp only[Act.put,fxs]
 refine' wpAnyF_take (i:=6) (n:=8) (v:=_) rfl (by kernel_rfl) (fun _ _ _ h=>h) (by assumption) (Or.inl ⟨by rfl,?hy70⟩) ?rest70
 case' hy70=>(intro w' hSw;(try dsimp only at hSw);go_simp;try with_reducible rfl)
 try simp only[Act.put,fxs]
 refine wpAnyF_only (i:=5) rfl (by kernel_rfl) (fun K hK=>?_)
 go_simp
 go_at_call 239
 refine HL.out.mono ?_
 rintro e w4 ⟨rfl,hs4,z4,k4⟩
 dsimp only
 refine hK.out _ _ (Or.inr (by(try dsimp only);exact hs4)) ?_
 clear hK K
 try simp only[Act.put,fxs]
 refine' wpAnyF_take (i:=7) (n:=8) (v:=_) rfl (by kernel_rfl) (fun _ _ _ h=>h) (by assumption) (Or.inl ⟨by rfl,?hy71⟩) ?rest71
 case' hy71=>(intro w' hSw;(try dsimp only at hSw);go_simp;try with_reducible rfl)
 try simp only[Act.put,fxs]
 obtain⟨s0,s1⟩:=hs4
 refine wpAnyF_only (i:=8) rfl (by kernel_rfl) (fun K hK=>?_)
 go_simp
 refine hK.out _ _ (Or.inl (by kernel_rfl)) ?_
 clear hK K
 try simp only[Act.put,fxs]
 refine wpAnyF_done (by kernel_rfl) ?_ _
 go_wp2
 go_end0
 exact⟨rfl,k4.out.trans (k4.out.at'.setReg t6 (by omega) V)⟩
theorem ktouch_store(D:DoX a cs p m K t w)(L:List Ins)(x:Ins)(e:x.op=⟨#[115,116,111,114,101]⟩)(hi:i<8)(ei:x.a=i)(hj:j<8)(ej:x.b=j)(hk:k<4)(ek:x.c=k):
  Calls Tryz.prog 221 #[.pointer (some ⟨p.b,0,none⟩), .int .i64 t, .agg #[.string x.op, .int .i64 x.a, .int .i64 x.b, .int .i64 x.c, .string x.to]] w fun e w'=>e= .returned (.tuple #[])/\MkStep a cs p w p.mv (m.exec L t x) w':=by
 rw[exec_store m L t e]
 rw[ei]
 rw[ej]
 rw[ek]
 simp only[Int.toNat_natCast]
 obtain⟨xo,xa,xb,xc,xt⟩:=x
 dsimp only at e ei ej ek ⊢
 subst e ei ej ek
 have t6:=D.t6
 have t6i:(t:Int)<6:=by omega
 have hba:Below w.heap.size w (w.alloc (.cells #[.string ⟨#[115,116,111,114,101]⟩, .int .i64 i, .int .i64 j, .int .i64 k, .string xt] 57)):=bRf.alloc nL _
 have q0:(w.alloc (.cells #[.string ⟨#[115,116,111,114,101]⟩, .int .i64 i, .int .i64 j, .int .i64 k, .string xt] 57)).cell? ⟨w.heap.size,0,none⟩=some (.string ⟨#[115,116,111,114,101]⟩):=by simp
 have q1:(w.alloc (.cells #[.string ⟨#[115,116,111,114,101]⟩, .int .i64 i, .int .i64 j, .int .i64 k, .string xt] 57)).cell? ⟨w.heap.size,1,none⟩=some (.int .i64 i):=by simp
 have q2:(w.alloc (.cells #[.string ⟨#[115,116,111,114,101]⟩, .int .i64 i, .int .i64 j, .int .i64 k, .string xt] 57)).cell? ⟨w.heap.size,2,none⟩=some (.int .i64 j):=by simp
 have q3:(w.alloc (.cells #[.string ⟨#[115,116,111,114,101]⟩, .int .i64 i, .int .i64 j, .int .i64 k, .string xt] 57)).cell? ⟨w.heap.size,3,none⟩=some (.int .i64 k):=by simp
 have D1:=D.below hba
 have hlw:=D.at'.lt
 have gi:=D1.at'.reg t i t6 (by omega)
 have gj:=D1.at'.reg t j t6 (by omega)
 have li:(i:Int)<8:=by omega
 have lj:(j:Int)<8:=by omega
 have lk:(k:Int)<4:=by omega
 generalize hw:w.alloc (.cells #[.string ⟨#[115,116,111,114,101]⟩, .int .i64 i, .int .i64 j, .int .i64 k, .string xt] 57)=w1 at*
 have HL:Hid (Calls Tryz.prog 236 #[.pointer (some ⟨p.b,0,none⟩), .int .i64 t, .int .i64 (m.regs t i), .int .i64 k, .int .i64 (m.regs t j)] (w1.drewN 1) fun e w''=>e= .returned (.tuple #[])/\Hid (MkStep a cs p w p.mv (m.store t (m.regs t i) k (m.regs t j)) w'')):=
  (kstore_any (D1.at'.drewN 1) D.ht D.waits D.faults (D.ok.regs _ _) hk (D.ok.regs _ _)).mono fun e w'' ⟨e1,e2⟩=>⟨e1,MkStep.of_below (below_dN hba 1) e2⟩
 clear D D1 hba
 generalize m.store t (m.regs t i) k (m.regs t j)=m1 at*
 generalize m.regs t i=Ri at*
 generalize m.regs t j=Rj at*
 go_enter Tryz.func221,Tryz.ntmps221
 go_wp2_with fail
 clear hw
 refine wp_region_F (S:=(fun w'=>w'.cell? ⟨w.heap.size,1,none⟩=some (.int .i64 i)/\w'.cell? ⟨w.heap.size,2,none⟩=some (.int .i64 j)/\w'.cell? ⟨w.heap.size,3,none⟩=some (.int .i64 k)/\w'.cell? ⟨p.b,585+t*9+i,none⟩=some (.int .i64 Ri)/\w'.cell? ⟨p.b,585+t*9+j,none⟩=some (.int .i64 Rj))) (by kernel_rfl) (by(try dsimp only);go_keep) (fun hHeld=>?_)
 iterate 16
  refine' wpAnyF_next (sz:=17) (n:=16) (v:=_) rfl (by kernel_rfl) (fun _ _ _ h=>h) (by assumption) (Or.inl ⟨by rfl,?_⟩) ?_
  case' refine'_2=>(intro w' hSw;(try dsimp only at hSw);go_simp;try with_reducible rfl)
  try simp only[Act.put,fxs]
 refine wpAnyF_only (i:=16) rfl (by kernel_rfl) (fun K hK=>?_)
 go_simp
 go_at_call 236
 refine HL.out.mono ?_
 rintro e w4 ⟨rfl,k4⟩
 dsimp only
 refine hK.out _ _ (Or.inl (by kernel_rfl)) ?_
 clear hK K
 try simp only[Act.put,fxs]
 refine wpAnyF_done (by kernel_rfl) ?_ _
 go_wp2
 go_end0
 exact⟨rfl,k4.out⟩
theorem ktouch_free(D:DoX a cs p m K t w)(L:List Ins)(x:Ins)(e:x.op=⟨#[102,114,101,101]⟩)(hi:i<8)(ei:x.a=i):
  Calls Tryz.prog 221 #[.pointer (some ⟨p.b,0,none⟩), .int .i64 t, .agg #[.string x.op, .int .i64 x.a, .int .i64 x.b, .int .i64 x.c, .string x.to]] w fun e w'=>e= .returned (.tuple #[])/\MkStep a cs p w p.mv (m.exec L t x) w':=by
 rw[exec_free m L t e]
 rw[ei]
 simp only[Int.toNat_natCast]
 obtain⟨xo,xa,xb,xc,xt⟩:=x
 dsimp only at e ei ⊢
 subst e ei
 have t6:=D.t6
 have t6i:(t:Int)<6:=by omega
 have hba:Below w.heap.size w (w.alloc (.cells #[.string ⟨#[102,114,101,101]⟩, .int .i64 i, .int .i64 xb, .int .i64 xc, .string xt] 57)):=bRf.alloc nL _
 have q0:(w.alloc (.cells #[.string ⟨#[102,114,101,101]⟩, .int .i64 i, .int .i64 xb, .int .i64 xc, .string xt] 57)).cell? ⟨w.heap.size,0,none⟩=some (.string ⟨#[102,114,101,101]⟩):=by simp
 have q1:(w.alloc (.cells #[.string ⟨#[102,114,101,101]⟩, .int .i64 i, .int .i64 xb, .int .i64 xc, .string xt] 57)).cell? ⟨w.heap.size,1,none⟩=some (.int .i64 i):=by simp
 have q2:(w.alloc (.cells #[.string ⟨#[102,114,101,101]⟩, .int .i64 i, .int .i64 xb, .int .i64 xc, .string xt] 57)).cell? ⟨w.heap.size,2,none⟩=some (.int .i64 xb):=by simp
 have q3:(w.alloc (.cells #[.string ⟨#[102,114,101,101]⟩, .int .i64 i, .int .i64 xb, .int .i64 xc, .string xt] 57)).cell? ⟨w.heap.size,3,none⟩=some (.int .i64 xc):=by simp
 have D1:=D.below hba
 have hlw:=D.at'.lt
 have gi:=D1.at'.reg t i t6 (by omega)
 have li:(i:Int)<8:=by omega
 generalize hw:w.alloc (.cells #[.string ⟨#[102,114,101,101]⟩, .int .i64 i, .int .i64 xb, .int .i64 xc, .string xt] 57)=w1 at*
 have HL:Hid (Calls Tryz.prog 240 #[.pointer (some ⟨p.b,0,none⟩), .int .i64 t, .int .i64 (m.regs t i)] (w1.drewN 1) fun e w''=>e= .returned (.tuple #[])/\Hid (MkStep a cs p w p.mv (m.free t (m.regs t i)) w'')):=
  (kfree_any (D1.at'.drewN 1) D.ht D.waits D.faults (D.ok.regs _ _)).mono fun e w'' ⟨e1,e2⟩=>⟨e1,MkStep.of_below (below_dN hba 1) e2⟩
 clear D D1 hba
 generalize m.free t (m.regs t i)=m1 at*
 generalize m.regs t i=Ri at*
 go_enter Tryz.func221,Tryz.ntmps221
 go_wp2_with fail
 clear hw
 refine wp_region_F (S:=(fun w'=>w'.cell? ⟨w.heap.size,1,none⟩=some (.int .i64 i)/\w'.cell? ⟨p.b,585+t*9+i,none⟩=some (.int .i64 Ri))) (by kernel_rfl) (by(try dsimp only);go_keep) (fun hHeld=>?_)
 iterate 8
  refine' wpAnyF_next (sz:=9) (n:=8) (v:=_) rfl (by kernel_rfl) (fun _ _ _ h=>h) (by assumption) (Or.inl ⟨by rfl,?_⟩) ?_
  case' refine'_2=>(intro w' hSw;(try dsimp only at hSw);go_simp;try with_reducible rfl)
  try simp only[Act.put,fxs]
 refine wpAnyF_only (i:=8) rfl (by kernel_rfl) (fun K hK=>?_)
 go_simp
 go_at_call 240
 refine HL.out.mono ?_
 rintro e w4 ⟨rfl,k4⟩
 dsimp only
 refine hK.out _ _ (Or.inl (by kernel_rfl)) ?_
 clear hK K
 try simp only[Act.put,fxs]
 refine wpAnyF_done (by kernel_rfl) ?_ _
 go_wp2
 go_end0
 exact⟨rfl,k4.out⟩
theorem ktouch_fence(D:DoX a cs p m K t w)(L:List Ins)(x:Ins)(e:x.op=⟨#[102,101,110,99,101]⟩):
  Calls Tryz.prog 221 #[.pointer (some ⟨p.b,0,none⟩), .int .i64 t, .agg #[.string x.op, .int .i64 x.a, .int .i64 x.b, .int .i64 x.c, .string x.to]] w fun e w'=>e= .returned (.tuple #[])/\MkStep a cs p w p.mv (m.exec L t x) w':=by
 rw[exec_fence m L t e]
 obtain⟨xo,xa,xb,xc,xt⟩:=x
 dsimp only at e ⊢
 subst e
 have t6:=D.t6
 have t6i:(t:Int)<6:=by omega
 have hba:Below w.heap.size w (w.alloc (.cells #[.string ⟨#[102,101,110,99,101]⟩, .int .i64 xa, .int .i64 xb, .int .i64 xc, .string xt] 57)):=bRf.alloc nL _
 have q0:(w.alloc (.cells #[.string ⟨#[102,101,110,99,101]⟩, .int .i64 xa, .int .i64 xb, .int .i64 xc, .string xt] 57)).cell? ⟨w.heap.size,0,none⟩=some (.string ⟨#[102,101,110,99,101]⟩):=by simp
 have q1:(w.alloc (.cells #[.string ⟨#[102,101,110,99,101]⟩, .int .i64 xa, .int .i64 xb, .int .i64 xc, .string xt] 57)).cell? ⟨w.heap.size,1,none⟩=some (.int .i64 xa):=by simp
 have q2:(w.alloc (.cells #[.string ⟨#[102,101,110,99,101]⟩, .int .i64 xa, .int .i64 xb, .int .i64 xc, .string xt] 57)).cell? ⟨w.heap.size,2,none⟩=some (.int .i64 xb):=by simp
 have q3:(w.alloc (.cells #[.string ⟨#[102,101,110,99,101]⟩, .int .i64 xa, .int .i64 xb, .int .i64 xc, .string xt] 57)).cell? ⟨w.heap.size,3,none⟩=some (.int .i64 xc):=by simp
 have D1:=D.below hba
 have hlw:=D.at'.lt
 generalize hw:w.alloc (.cells #[.string ⟨#[102,101,110,99,101]⟩, .int .i64 xa, .int .i64 xb, .int .i64 xc, .string xt] 57)=w1 at*
 have HL:Hid (Calls Tryz.prog 241 #[.pointer (some ⟨p.b,0,none⟩), .int .i64 t] (w1) fun e w''=>e= .returned (.tuple #[])/\Hid (MkStep a cs p w p.mv (m.fence t) w'')):=
  (kfence_any D.ht D1.at' D.waits D.faults).mono fun e w'' ⟨e1,e2⟩=>⟨e1,MkStep.of_below (hba) e2⟩
 clear D D1 hba
 generalize m.fence t=m1 at*
 go_enter Tryz.func221,Tryz.ntmps221
 go_wp2_with fail
 clear hw
 refine HL.out.mono ?_
 rintro e w4 ⟨rfl,k4⟩
 go_wp2
 go_end0
 exact⟨rfl,k4.out⟩
end
end Go.Proofs.YtnoigmdmgdcliaaGreatDoor
