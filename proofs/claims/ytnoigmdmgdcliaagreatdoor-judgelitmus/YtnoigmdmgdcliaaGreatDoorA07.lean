import Derived.Test.YtnoigmdmgdcliaaGreatDoorA06
import Derived.Deep.RegionWith
import Derived.Test.YtnoigmdmgdcliaaGreatDoorA05
namespace Go.Proofs.YtnoigmdmgdcliaaGreatDoor
set_option maxRecDepth 100000
set_option maxHeartbeats 8000000
section
open Go.RowKit Go.Extern.Stop Go.Stop Go.Extern Go.Sort
def Rm.may(s:Rm)(t c g k:Int)(L:List Int):Nat:=if 0<=t/\t<s.threads then s.ar.chk c g k L else 2
theorem Rm.may_yes{s:Rm}{t:Nat}(h:t<s.threads)(c g k:Int)(L:List Int):s.may t c g k L=s.ar.chk c g k L:=by unfold Rm.may;rw[if_pos (by omega)]
theorem Rm.may_no{s:Rm}{t:Int}(h: ¬(0<=t/\t<s.threads))(c g k:Int)(L:List Int):s.may t c g k L=2:=by unfold Rm.may;rw[if_neg h]
theorem allow_nil(a:Nat->Addr)(b:Nat)(s:Rm)(t c g k:Int)(w:World)(hE:EnvM a w)(h:MmAt b s w):
  Calls Tryz.prog 213 #[.pointer (some ⟨b,0,none⟩), .int .i64 t, .agg #[.int .i64 c, .int .i64 g], .int .i64 k, .slice none 0 0] w fun e w'=>e= .returned (errVal a (s.may t c g k []))/\Below w.heap.size w w':=by
 by_cases ht:0<=t/\t<s.threads
 ·obtain⟨n,rfl⟩:=Int.eq_ofNat_of_zero_le ht.1
  rw[Rm.may_yes (by omega)]
  exact allow_yes b s n c g k _ _ w h (by omega) (fun w' hb=>check_nil a b 0 s.ar c g k w' (hE.below hb.block) (h.ar.below hb))
 ·rw[Rm.may_no ht]
  exact allow_no a b s t c g k _ w hE h ht
theorem allow_list(a:Nat->Addr)(b:Nat)(s:Rm)(t c g k:Int)(vb cp:Nat)(L:List Int)(hL:L.length<=1000)(w:World)(hE:EnvM a w)(h:MmAt b s w) 
  (hv: ∀j,j<L.length->w.cell? ⟨vb,j,none⟩=some (.int .i64 (L.getD j 0))):
  Calls Tryz.prog 213 #[.pointer (some ⟨b,0,none⟩), .int .i64 t, .agg #[.int .i64 c, .int .i64 g], .int .i64 k, .slice (some ⟨vb,0,none⟩) L.length cp] w fun e w'=>e= .returned (errVal a (s.may t c g k L))/\Below w.heap.size w w':=by
 by_cases ht:0<=t/\t<s.threads
 ·obtain⟨n,rfl⟩:=Int.eq_ofNat_of_zero_le ht.1
  rw[Rm.may_yes (by omega)]
  exact allow_yes b s n c g k _ _ w h (by omega) (fun w' hb=>check_list a b 0 s.ar c g k vb cp L hL w' (hE.below hb.block) (h.ar.below hb) (fun j hj=>keep_cell hb (hv j hj)))
 ·rw[Rm.may_no ht]
  exact allow_no a b s t c g k _ w hE h ht
theorem mload_ok (a:Nat->Addr) (b:Nat) (s:Rm) (t n m:Nat) (g:Int) (w:World) (hE:EnvM a w) (h:MmAt b s w) (ht:t<s.threads) (hn:n<64) (hh:s.ar.has n g=true) (hm:m<4):
  Calls Tryz.prog 249 #[.pointer (some ⟨b,0,none⟩), .int .i64 t, .agg #[.int .i64 n, .int .i64 g], .int .i64 m] w fun e w'=>e= .returned (.tuple #[.int .i64 ((s.waits t).foldl (Wt.pick n g m) (s.ar.words n m)), .nilIface])/\Below w.heap.size w w':=by
 have h1:=h.alloc (.cells #[.int .i64 n, .int .i64 g] 88)
 have hba:=box_below n g w
 have HC:=allow_nil a b s t n g m _ (hE.below hba.block) h1
 rw[Rm.may_yes ht,Ar.chk_nil,Ar.at_ok hh (by omega),show errVal a 0= .nilIface from rfl] at HC
 obtain⟨q0,q1⟩:=box2c w 88 (.int .i64 n) (.int .i64 g)
 have hf:=h.few
 have t6:(t:Int)<6:=by omega
 have HLast:Hid (∀w',Below w.heap.size w w'->Calls Tryz.prog 261 #[.pointer (some ⟨b,386+t*33,none⟩), .agg #[.int .i64 n, .int .i64 g], .int .i64 m] w' fun e w''=>e= .returned (.tuple #[.int .i64 ((s.waits t).foldl (Wt.pick n g m) 0), .bool (waitsFor (s.waits t) n g m)])/\Below w'.heap.size w' w''):=fun w' hb=>
  last_det b (386+t*33) (s.waits t) n g m w' ((h.below hb).line t ht)
 have HLoad:Hid (∀w',Below w.heap.size w w'->Calls Tryz.prog 215 #[.pointer (some ⟨b,0,none⟩), .agg #[.int .i64 n, .int .i64 g], .int .i64 m] w' fun e w''=>e= .returned (.tuple #[.int .i64 (s.ar.words n m), .nilIface])/\Below w'.heap.size w' w''):=fun w' hb=>
  load_yes a b 0 s.ar n m g w' (hE.below hb.block) (h.ar.below hb) hn hh hm
 have HV :Hid (∀v0,(s.waits t).foldl (Wt.pick n g m) v0=if waitsFor (s.waits t) n g m=true then(s.waits t).foldl (Wt.pick n g m) 0 else v0):=by
  have : ∃e,LastIs (s.waits t) n g m e:=by
   by_cases hw: ∃v, ∀v0,(s.waits t).foldl (Wt.pick n g m) v0=v
   ·obtain⟨v,hv⟩:=hw
    exact⟨_,v,true,rfl,(fun h=>Bool.noConfusion h),fun v0=>by rw[hv];rfl⟩
   ·refine ⟨_,0,false,rfl,fun _=>rfl,?_⟩
    have key: ∀l:List Wt,(∃v, ∀v0,l.foldl (Wt.pick n g m) v0=v)∨ ∀v0,l.foldl (Wt.pick n g m) v0=v0:=fun l=>by
     induction l with
     |nil=>exact Or.inr fun _=>rfl
     | cons x l ih=>
      rcases ih with⟨v,hv⟩ |hv
      ·exact Or.inl ⟨v,fun v0=>hv _⟩
      ·by_cases hx:x.c=(n:Int)/\x.g=g/\x.w=(m:Int)
       ·exact Or.inl ⟨x.v,fun v0=>(hv _).trans (if_pos hx)⟩
       ·exact Or.inr fun v0=>(hv _).trans (if_neg hx)
    rcases key (s.waits t) with k |k
    ·exact absurd k hw
    ·intro v0;rw[k];rfl
  obtain⟨e,he⟩:=this
  exact(lastIs_det he).2
 rw[HV.out (s.ar.words n m)]
 clear HV h h1 hE hh
 generalize (s.waits t).foldl (Wt.pick n g m) 0=v at*
 generalize s.ar.words n m=v0 at*
 generalize hw:w.alloc (.cells #[.int .i64 n, .int .i64 g] 88)=w1 at*
 cases hwf:waitsFor (s.waits t) n g m
 all_goals
  rw[hwf] at HLast
  first
   |rw[if_pos (show true=true from rfl)]
   |rw[if_neg (show ¬false=true from(fun h=>Bool.noConfusion h))]
  go_enter Tryz.func249,Tryz.ntmps249
  go_wp2_with fail
  refine HC.mono ?_
  rintro e0 w2 ⟨rfl,hb2⟩
  have B2:=below_step hba hb2
  replace q0:=keep_cell hb2 q0
  replace q1:=keep_cell hb2 q1
  clear hb2 HC hw hba
  have HCF:Hid (∀d os,Calls Tryz.prog 261 #[.pointer (some ⟨b,386+t*33,none⟩), .agg #[.int .i64 n, .int .i64 g], .int .i64 m] (grow (redrawn w2 d) os) fun e w''=>e= .returned (.tuple #[.int .i64 v, .bool _])/\ ∃p:Regrown,w''=grow (redrawn w2 p.d) p.os):=fun d os=>
   Calls.regrown_of (HLast.out _ (below_step B2 (below_regrown w2 d os)))
  have d0:=cell_regrown q0
  have d1:=cell_regrown q1
  clear HLast
  go_wp2_with fail
  refine wp_region_quiet_below (by kernel_rfl) (by kernel_rfl) ?_
  repeat (first
   |go_big_quiet_step (exact HCF.out _ _)
   |quiet_step (exact HCF.out _ _))
  refine wpQuiet_nil ?_
  intro _ hw'
  obtain⟨⟨dq,osq⟩,hw''⟩:=hw'
  subst hw''
  have B3:=below_step B2 (below_regrown w2 dq osq)
  have e0:=d0 dq osq
  have e1:=d1 dq osq
  clear HCF d0 d1 q0 q1 B2
  generalize grow (redrawn w2 dq) osq=w3 at B3 e0 e1 ⊢
 ·have HCF:Hid (∀d os,Calls Tryz.prog 215 #[.pointer (some ⟨b,0,none⟩), .agg #[.int .i64 n, .int .i64 g], .int .i64 m] (grow (redrawn w3 d) os) fun e w''=>e= .returned (.tuple #[.int .i64 v0, .nilIface])/\ ∃p:Regrown,w''=grow (redrawn w3 p.d) p.os):=fun d os=>
   Calls.regrown_of (HLoad.out _ (below_step B3 (below_regrown w3 d os)))
  have d0:=cell_regrown e0
  have d1:=cell_regrown e1
  clear HLoad
  go_wp2_with fail
  refine wp_region_quiet_below (by kernel_rfl) (by kernel_rfl) ?_
  repeat (first
   |go_big_quiet_step (exact HCF.out _ _)
   |quiet_step (exact HCF.out _ _))
  refine wpQuiet_nil ?_
  intro _ hw'
  obtain⟨⟨dq,osq⟩,hw''⟩:=hw'
  subst hw''
  have B4:=below_step B3 (below_regrown w3 dq osq)
  clear HCF d0 d1 e0 e1 B3
  generalize grow (redrawn w3 dq) osq=w4 at B4 ⊢
  go_wp2
  go_ret2
  exact⟨rfl,B4⟩
 ·go_wp2
  go_ret2
  exact⟨rfl,B3⟩
end
section
open Go.RowKit Go.Extern.Stop Go.Stop Go.Extern Go.Sort
theorem varg_cell(c g v:Int)(w:World)(j:Nat)(hj:j<[v].length):((w.alloc (.cells #[.int .i64 c, .int .i64 g] 88)).alloc (.cells #[.int .i64 v] 3)).cell? ⟨w.heap.size+1,j,none⟩=some (.int .i64 ([v].getD j 0)):=by
 obtain rfl:j=0:=by simp at hj;omega
 go_simp
theorem full_is(b o:Nat)(l:List Wt)(w:World)(h:LnAt b o l w)(f:Bool)(hf:decide (8<=l.length)=f):
  Calls Tryz.prog 262 #[.pointer (some ⟨b,o,none⟩)] w fun e w'=>e= .returned (.bool f)/\w'=w:=by
 rw[<-hf];exact full_any b o l w h
theorem mstore_ok(a:Nat->Addr)(b:Nat)(s:Rm)(t:Nat)(c g k v:Int)(w:World)(hE:EnvM a w)(h:MmAt b s w)(ht:t<s.threads)(he:s.may t c g k [v]=0)(h8:(s.waits t).length<8):
  Calls Tryz.prog 250 #[.pointer (some ⟨b,0,none⟩), .int .i64 t, .agg #[.int .i64 c, .int .i64 g], .int .i64 k, .int .i64 v] w fun e w'=>e= .returned .nilIface/\MmStep b w (s.setWaits t (s.waits t++[⟨c,g,k,v⟩])) w':=by
 have hba:=varg_below c g v w
 have HC:=allow_list a b s t c g k (w.heap.size+1) 1 [v] (by simp) _ (hE.below hba.block) (h.below hba) (fun j hj=>varg_cell c g v w j hj)
 rw[he,show errVal a 0= .nilIface from rfl] at HC
 simp only[List.length_singleton] at HC
 have hf:=h.few
 have t6:(t:Int)<6:=by omega
 have HF:Hid (∀w',Below w.heap.size w w'->Calls Tryz.prog 262 #[.pointer (some ⟨b,386+t*33,none⟩)] w' fun e w''=>e= .returned (.bool false)/\w''=w'):=fun w' hb=>
  full_is b _ _ w' ((h.below hb).line t ht) false (decide_eq_false (by omega))
 have HAdd:Hid (∀w',Below w.heap.size w w'->Calls Tryz.prog 263 #[.pointer (some ⟨b,386+t*33,none⟩), .agg #[.int .i64 c, .int .i64 g, .int .i64 k, .int .i64 v]] w' fun e w''=>e= .returned (.tuple #[])/\MmStep b w (s.setWaits t (s.waits t++[⟨c,g,k,v⟩])) w''):=fun w' hb=>
  (add_any b (386+t*33) (s.waits t) ⟨c,g,k,v⟩ w' ((h.below hb).line t ht) h8).mono fun _ _ ⟨e1,e2,e3⟩=>⟨e1,MmStep.of_below hb ((h.below hb).ofLine ht e2 e3)⟩
 have q0:((w.alloc (.cells #[.int .i64 c, .int .i64 g] 88)).alloc (.cells #[.int .i64 v] 3)).cell? ⟨w.heap.size,0,none⟩=some (.int .i64 c):=by go_simp
 have q1:((w.alloc (.cells #[.int .i64 c, .int .i64 g] 88)).alloc (.cells #[.int .i64 v] 3)).cell? ⟨w.heap.size,1,none⟩=some (.int .i64 g):=by go_simp
 clear h he h8
 go_enter Tryz.func250,Tryz.ntmps250
 go_wp2_with fail
 refine HC.mono ?_
 rintro e0 w2 ⟨rfl,hb2⟩
 have hbw:=below_step hba hb2
 replace q0:=keep_cell hb2 q0
 replace q1:=keep_cell hb2 q1
 clear hb2 HC hba
 go_wp2_with fail
 refine(HF.out w2 hbw).mono ?_
 rintro e1 w3 ⟨rfl,rfl⟩
 have HA:Hid (∀n,Calls Tryz.prog 263 #[.pointer (some ⟨b,386+t*33,none⟩), .agg #[.int .i64 c, .int .i64 g, .int .i64 k, .int .i64 v]] (w3.drewN n) fun e w''=>e= .returned (.tuple #[])/\MmStep b w (s.setWaits t (s.waits t++[⟨c,g,k,v⟩])) w''):=fun n=>HAdd.out _ (below_dN hbw n)
 clear HF HAdd
 go_wp2_with fail
 go_region_with (go_at_call 263;refine(HA.out 1).mono ?_;rintro e4 w4 ⟨rfl,H4⟩)
 go_wp2
 go_ret
 exact⟨rfl,H4⟩
end
section
open Go.RowKit Go.Extern.Stop Go.Stop Go.Extern Go.Sort
variable {a:Nat->Addr} {B:Nat} {w w':World}
def Wt.Ok(x:Wt):Prop:=(0<=x.w/\x.w<4)/\(0<=x.v/\x.v<4294967296)
structure EnvB(a:Nat->Addr)(B:Nat)(w:World):Prop where
 ex: ∃W,EnvM a W/\W.heap.size=B/\Below B W w
theorem EnvB.env{w:World}(h:EnvB a B w):EnvM a w:=by
 obtain⟨W,h1,rfl,h3⟩:=h.ex
 exact h1.below h3.block
theorem EnvB.size{w:World}(h:EnvB a B w):B<=w.heap.size:=by
 obtain⟨W,h1,rfl,h3⟩:=h.ex
 exact h3.size
theorem EnvB.turns{S:Nat->Nat->Prop}(h:EnvB a B w)(t:Turns S w w')(hS: ∀k o,S k o->B<=k):EnvB a B w':=by
 obtain⟨W,h1,rfl,h3⟩:=h.ex
 exact⟨W,h1,rfl,h3.trans (t.below h3.size (fun k o hk hs=>by have:=hS k o hs;omega))⟩
theorem EnvB.below(h:EnvB a B w)(t:Below w.heap.size w w'):EnvB a B w':=
 h.turns (Turns.of_below (S:=fun _ _=>False) t) (fun _ _ h=>h.elim)
theorem EnvB.step{B b:Nat}{s:Rm}(h:EnvB a B w)(hB:B<=b)(t:MmStep b w s w'):EnvB a B w':=h.turns t.turns (fun k _ e=>by rw[e.1];exact hB)
theorem late_store(a:Nat->Addr)(b:Nat)(s:Rm)(t:Nat)(x:Wt)(l:List Wt)(w0 w:World)(hE:EnvM a w)(h:MmStep b w0 (s.setWaits t l) w)(hx:x.Ok):
  Calls Tryz.prog 216 #[.pointer (some ⟨b,0,none⟩), .agg #[.int .i64 x.c, .int .i64 x.g], .int .i64 x.w, .int .i64 x.v] w fun e w'=>e= .returned (errVal a (if s.ar.has x.c x.g=true then 0 else 7))/\MmStep b w0 (s.drained t x l) w':=by
 cases hh:s.ar.has x.c x.g
 ·have hd:s.drained t x l=s.setWaits t l:=by unfold Rm.drained;rw[hh];rfl
  rw[hd]
  exact(store_no a b 0 s.ar x.c x.g x.w x.v w hE h.at'.ar hh).mono fun _ _ ⟨e1,e2⟩=>⟨e1,h.below e2⟩
 ·have hd:s.drained t x l=(s.setWaits t l).setWord x.c.toNat x.w.toNat x.v:=by unfold Rm.drained;rw[hh];rfl
  rw[hd]
  obtain⟨n,hc,hn, -, -⟩:=Ar.has_lt hh
  obtain⟨m,hm⟩:=Int.eq_ofNat_of_zero_le hx.1.1
  have h64:=h.at'.ar.small
  have hn64:n<64:=Nat.lt_of_lt_of_le hn h64
  rw[hc,hm]
  rw[hc] at hh
  have hm4:m<4:=by have:=hx.1.2;omega
  exact(store_yes a b 0 s.ar n m x.g x.v w hE h.at'.ar hn64 hh hm4 hx.2).mono fun _ _ ⟨e1,e2,e3⟩=>⟨e1,h.trans (h.at'.arena e2 e3)⟩
theorem mdrain_no(a:Nat->Addr)(b:Nat)(s:Rm)(t:Int)(w:World)(hE:EnvM a w)(h:MmAt b s w)(ht: ¬(0<=t/\t<s.threads)):
  Calls Tryz.prog 169 #[.pointer (some ⟨b,0,none⟩), .int .i64 t] w fun e w'=>e= .returned (errAt (a 1))/\w'=w:=by
 have c1:w.cell? ⟨0,0,none⟩=some (errAt (a 1)):=hE.cell 1 (by decide)
 have HH:=has_m_no b s t w h ht
 clear h ht
 go_enter Tryz.func169,Tryz.ntmps169
 go_wp2_with fail
 refine HH.mono ?_
 rintro e0 w1 ⟨rfl,rfl⟩
 go_wp2
 go_ret
 exact⟨rfl,rfl⟩
theorem mdrain_none(a:Nat->Addr)(b:Nat)(s:Rm)(t:Nat)(w:World)(hE:EnvM a w)(h:MmAt b s w)(ht:t<s.threads)(he:s.waits t=[]):
  Calls Tryz.prog 169 #[.pointer (some ⟨b,0,none⟩), .int .i64 t] w fun e w'=>e= .returned (errAt (a 4))/\w'=w:=by
 have c4:w.cell? ⟨5,0,none⟩=some (errAt (a 4)):=hE.cell 4 (by decide)
 have HH:=has_m_yes b s t w h ht
 have hf:=h.few
 have t6:(t:Int)<6:=by omega
 have hl:=(h.line t ht).len
 rw[he] at hl
 clear h
 go_enter Tryz.func169,Tryz.ntmps169
 go_wp2_with fail
 refine HH.mono ?_
 rintro e0 w1 ⟨rfl,rfl⟩
 go_wp2
 go_ret
 exact⟨rfl,rfl⟩
theorem mdrain_some(a:Nat->Addr)(B b:Nat)(s:Rm)(t:Nat)(x:Wt)(l:List Wt)(w:World)(hE:EnvB a B w)(hB:B<=b)(h:MmAt b s w)(ht:t<s.threads)(he:s.waits t=x::l)(hx:x.Ok):
  Calls Tryz.prog 169 #[.pointer (some ⟨b,0,none⟩), .int .i64 t] w fun e w'=>e= .returned (errVal a (if s.ar.has x.c x.g=true then 0 else 7))/\MmStep b w (s.drained t x l) w':=by
 have HH:=has_m_yes b s t w h ht
 have hf:=h.few
 have t6:(t:Int)<6:=by omega
 have hl:=(h.line t ht).len
 have hln:=h.line t ht
 rw[he] at hl hln
 have h8:=hln.le
 have l0:((l.length:Int)+1==0)=false:=beq_eq_false_iff_ne.2 (by omega)
 rw[List.length_cons] at hl h8
 have HT:Hid (Calls Tryz.prog 222 #[.pointer (some ⟨b,386+t*33,none⟩)] w fun e w'=>e= .returned (.agg #[.int .i64 x.c, .int .i64 x.g, .int .i64 x.w, .int .i64 x.v])/\MmStep b w (s.setWaits t l) w'):=
  (take_any b (386+t*33) x l w hln).mono fun _ _ ⟨e1,e2,e3⟩=>⟨e1,h.ofLine ht e2 e3⟩
 have HS:Hid (∀w',MmStep b w (s.setWaits t l) w'->Calls Tryz.prog 216 #[.pointer (some ⟨b,0,none⟩), .agg #[.int .i64 x.c, .int .i64 x.g], .int .i64 x.w, .int .i64 x.v] w' fun e w''=>e= .returned (errVal a (if s.ar.has x.c x.g=true then 0 else 7))/\MmStep b w (s.drained t x l) w''):=fun w' h'=>
  late_store a b s t x l w w' (hE.step hB h').env h' hx
 generalize errVal a (if s.ar.has x.c x.g=true then 0 else 7)=r at*
 clear h he hln
 go_enter Tryz.func169,Tryz.ntmps169
 go_wp2_with fail
 refine HH.mono ?_
 rintro e0 w1 ⟨rfl,rfl⟩
 clear HH
 go_wp2_with fail
 refine HT.out.mono ?_
 rintro e1 w2 ⟨rfl,H2⟩
 have q0:(w2.alloc (.cells #[.int .i64 x.c, .int .i64 x.g, .int .i64 x.w, .int .i64 x.v] 125)).cell? ⟨w2.heap.size,0,none⟩=some (.int .i64 x.c):=by simp
 have q1:(w2.alloc (.cells #[.int .i64 x.c, .int .i64 x.g, .int .i64 x.w, .int .i64 x.v] 125)).cell? ⟨w2.heap.size,1,none⟩=some (.int .i64 x.g):=by simp
 have q2:(w2.alloc (.cells #[.int .i64 x.c, .int .i64 x.g, .int .i64 x.w, .int .i64 x.v] 125)).cell? ⟨w2.heap.size,2,none⟩=some (.int .i64 x.w):=by simp
 have q3:(w2.alloc (.cells #[.int .i64 x.c, .int .i64 x.g, .int .i64 x.w, .int .i64 x.v] 125)).cell? ⟨w2.heap.size,3,none⟩=some (.int .i64 x.v):=by simp
 have H3:MmStep b w1 (s.setWaits t l) (w2.alloc (.cells #[.int .i64 x.c, .int .i64 x.g, .int .i64 x.w, .int .i64 x.v] 125)):=H2.below (bRf.alloc nL _)
 go_wp2_with fail
 generalize w2.alloc (.cells #[.int .i64 x.c, .int .i64 x.g, .int .i64 x.w, .int .i64 x.v] 125)=w3 at*
 have HA:Hid (∀n,Calls Tryz.prog 216 #[.pointer (some ⟨b,0,none⟩), .agg #[.int .i64 x.c, .int .i64 x.g], .int .i64 x.w, .int .i64 x.v] (w3.drewN n) fun e w''=>e= .returned r/\MmStep b w1 (s.drained t x l) w''):=fun n=>HS.out _ (H3.below (Below.drewN' n))
 clear HS HT H2 H3
 go_region_with (go_at_call 216;refine(HA.out 1).mono ?_;rintro e4 w4 ⟨rfl,H4⟩)
 all_goals
  go_wp2
  go_ret
  exact⟨rfl,H4⟩
end
section
open Go.RowKit Go.Extern.Stop Go.Stop Go.Extern Go.Sort
def lineLen(b t:Nat)(w:World):Nat:=match w.cell? ⟨b,386+t*33+32,none⟩ with
 |some (.int _ n)=>n.toNat
 |_=>0
theorem MmAt.lineLen{b:Nat}{s:Rm}{w:World}(h:MmAt b s w){t:Nat}(ht:t<s.threads):lineLen b t w=(s.waits t).length:=by
 unfold Go.Proofs.YtnoigmdmgdcliaaGreatDoor.lineLen
 rw[(h.line t ht).len]
 exact Int.toNat_natCast _
def fenceNum(f:Bool):Nat:=if f=true then 7 else 0
theorem mfence_any (a:Nat->Addr) (B b:Nat) (s:Rm) (t:Nat) (w:World) (hE:EnvB a B w) (hB:B<=b) (h:MmAt b s w) (ht:t<s.threads) (hx: ∀x∈s.waits t,x.Ok):
  Calls Tryz.prog 214 #[.pointer (some ⟨b,0,none⟩), .int .i64 t] w fun e w'=>e= .returned (errVal a (fenceNum (decide (0<s.gone t (s.waits t)))))/\MmStep b w (s.drainAll t (s.waits t)) w':=by
 have HH:=has_m_yes b s t w h ht
 have hf:=h.few
 have t6:(t:Int)<6:=by omega
 have HI:Hid (∃s1,s1.threads=s.threads/\(∀x∈s1.waits t,x.Ok)/\(false ||decide (0<s1.gone t (s1.waits t)))=decide (0<s.gone t (s.waits t))/\s1.drainAll t (s1.waits t)=s.drainAll t (s.waits t)/\MmStep b w s1 w):=⟨s,rfl,hx,by simp,rfl,MmStep.refl h⟩
 generalize decide (0<s.gone t (s.waits t))=G at*
 generalize hD:s.drainAll t (s.waits t)=D at*
 clear hD hx h
 go_enter Tryz.func214,Tryz.ntmps214
 go_wp2_with fail
 refine HH.mono ?_
 rintro e0 w1 ⟨rfl,rfl⟩
 clear HH
 go_wp2_with fail
 go_loopw [5,6] (fun st _ wr=> ∃f:Bool,st=errVal a (fenceNum f)/\ ∃s1,s1.threads=s.threads/\(∀x∈s1.waits t,x.Ok)/\(f ||decide (0<s1.gone t (s1.waits t)))=G/\s1.drainAll t (s1.waits t)=D/\MmStep b w1 s1 wr) (fun _ _ wr=>lineLen b t wr)
 case atStart=>exact⟨false,rfl,HI.out⟩
 case round=>
  obtain⟨f,rfl,s1,h1,h2,h3,h4,h5⟩:=hrel
  have H5:Hid (MmStep b w1 s1 wr):=h5
  have t1:t<s1.threads:=by omega
  have hl:=(h5.at'.line t t1).len
  have hle:=(h5.at'.line t t1).le
  have hwl:=h5.at'.lineLen t1
  clear h5
  cases hws:s1.waits t with
  | nil=>
   rw[hws] at hl h3 h4
   have HG:Hid (f=G):=hide (by rw[Rm.gone] at h3;simpa using h3)
   have HD:Hid (s1=D):=h4
   generalize hv:errVal a (fenceNum f)=V
   have HV:Hid (V=errVal a (fenceNum f)):=hv.symm
   clear h3 h4 h2 HI hv hwl hle
   go_wp2
   go_ret
   exact⟨by rw[HV.out,HG.out];rfl,by rw[<-HD.out];exact H5.out⟩
  | cons x l=>
   rw[hws] at hl h2 h3 h4 hwl hle
   have l0:(0:Int)<(l.length:Int)+1:=by omega
   rw[List.length_cons] at hl hle
   have HDr:Hid (Calls Tryz.prog 169 #[.pointer (some ⟨b,0,none⟩), .int .i64 t] wr fun e w'=>e= .returned (errVal a (if s1.ar.has x.c x.g=true then 0 else 7))/\MmStep b wr (s1.drained t x l) w'):=
    mdrain_some a B b s1 t x l wr (hE.step hB H5.out) hB H5.out.at' t1 hws (h2 x (List.mem_cons_self ..))
   have HN:Hid (∀w2 (f':Bool),f'=(f || !(s1.ar.has x.c x.g))->MmStep b wr (s1.drained t x l) w2->(∃k:Bool,(errVal a (fenceNum f'))=errVal a (fenceNum k)/\ ∃s1,s1.threads=s.threads/\(∀x∈s1.waits t,x.Ok)/\(k ||decide (0<s1.gone t (s1.waits t)))=G/\s1.drainAll t (s1.waits t)=D/\MmStep b w1 s1 w2)/\lineLen b t w2<lineLen b t wr):=by
    intro w2 f' hf' hst
    refine⟨⟨f',rfl,s1.drained t x l,?_,?_,?_,?_,H5.out.trans hst⟩,?_⟩
    ·rw[Rm.drained_threads];exact h1
    ·rw[Rm.drained_waits];exact fun y hy=>h2 y (List.mem_cons_of_mem _ hy)
    ·rw[Rm.drained_waits, <-h3,hf',Rm.gone]
     cases s1.ar.has x.c x.g <;> cases f <;> simp
     omega
    ·rw[Rm.drained_waits];exact h4
    ·rw[hwl,hst.at'.lineLen (by rw[Rm.drained_threads];exact t1),Rm.drained_waits,List.length_cons]
     omega
   clear h2 h3 h4 HI hwl
   cases hh:s1.ar.has x.c x.g
   ·rw[hh] at HDr
    replace HDr:Hid (Calls Tryz.prog 169 #[.pointer (some ⟨b,0,none⟩), .int .i64 t] wr fun e w'=>e= .returned (errAt (a 6))/\MmStep b wr (s1.drained t x l) w'):=HDr
    generalize hv:errVal a (fenceNum f)=V
    clear H5
    go_wp2_with fail
    refine HDr.out.mono ?_
    rintro e2 w2 ⟨rfl,hst⟩
    have HF:Hid _:=HN.out w2 true (by rw[hh];simp) hst
    clear HN HDr hst hl hh hv
    go_wp2
    go_roundw
    case rel=>exact HF.out.1
    case measure=>exact HF.out.2
   ·rw[hh] at HDr
    replace HDr:Hid (Calls Tryz.prog 169 #[.pointer (some ⟨b,0,none⟩), .int .i64 t] wr fun e w'=>e= .returned .nilIface/\MmStep b wr (s1.drained t x l) w'):=HDr
    have HF0:Hid (∀w2,MmStep b wr (s1.drained t x l) w2->(∃k:Bool,(errVal a (fenceNum f))=errVal a (fenceNum k)/\ ∃s1,s1.threads=s.threads/\(∀x∈s1.waits t,x.Ok)/\(k ||decide (0<s1.gone t (s1.waits t)))=G/\s1.drainAll t (s1.waits t)=D/\MmStep b w1 s1 w2)/\lineLen b t w2<lineLen b t wr):=fun w2 hst=>HN.out w2 f (by rw[hh];simp) hst
    generalize hv:errVal a (fenceNum f)=V at HF0 ⊢
    clear H5 HN
    go_wp2_with fail
    refine HDr.out.mono ?_
    rintro e2 w2 ⟨rfl,hst⟩
    have HF:Hid _:=HF0.out w2 hst
    clear HF0 HDr hst hl hh hv
    go_wp2
    go_roundw
    case rel=>exact HF.out.1
    case measure=>exact HF.out.2
end
end Go.Proofs.YtnoigmdmgdcliaaGreatDoor
