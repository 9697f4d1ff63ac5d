import Derived.Test.YtdpmnlbnlnmjbaaGreatDoorV03
import Derived.Deep.RegionHeld3
import Derived.Deep.AppendLies
import Derived.Deep.RegionLaw
import Derived.Laws.IdiomCopy
namespace Go.Proofs.YtdpmnlbnlnmjbaaGreatDoor
set_option maxRecDepth 100000
set_option maxHeartbeats 8000000
section
open Go.RowKit Go.Extern.Stop Go.Stop Go.Extern
theorem wtInfo: ∃i,Tryz.prog.info? 175=some i/\i.zero=some (.agg #[.int .i64 0, .int .i64 0, .int .i64 0, .int .i64 0])/\i.size=4/\i.bytes=32:=by
 obtain⟨i,hi,h1⟩:=Option.map_eq_some_iff.1 (show(Tryz.prog.info? 175).map (·.zero)=some (some (.agg #[.int .i64 0, .int .i64 0, .int .i64 0, .int .i64 0])) by kernel_rfl)
 obtain⟨j,hj,h2⟩:=Option.map_eq_some_iff.1 (show(Tryz.prog.info? 175).map (·.size)=some 4 by kernel_rfl)
 obtain⟨k,hk,h3⟩:=Option.map_eq_some_iff.1 (show(Tryz.prog.info? 175).map (·.bytes)=some 32 by kernel_rfl)
 obtain rfl:=Option.some.inj (hi.symm.trans hj)
 obtain rfl:=Option.some.inj (hi.symm.trans hk)
 exact⟨_,hi,h1,h2,h3⟩
def Rm.storeErr(s:Rm)(t:Nat)(c g k v:Int):Nat:=
 if s.ar.at c g k=0 then(if 0<=v/\v<4294967296 then(if 8<=(s.waits t).length then 6 else 0) else 2) else s.ar.at c g k
theorem wtCells_append(l:List Wt)(x:Wt):wtCells (l++[x])=wtCells l++x.cells:=by simp[wtCells]
theorem rstore_ok (p:RmPl) (s:Rm) (t:Nat) (c g k v:Int) (w:World) (h:RmAt p s w) (ht:t<s.threads) (he:s.storeErr t c g k v=0):
  Calls Tryz.prog 59 #[.pointer (some ⟨p.mb,0,none⟩), .int .i64 t, .agg #[.int .i64 c, .int .i64 g], .int .i64 k, .int .i64 v] w fun e w'=>e= .returned (.int .i64 0)/\ ∃p',RmStep p s w p' (s.setWaits t (s.waits t++[⟨c,g,k,v⟩])) w':=by
 have ha:s.ar.at c g k=0:=Classical.byContradiction fun e=>by rw[Rm.storeErr,if_neg e] at he;exact e he
 have hv:0<=v/\v<4294967296:=Classical.byContradiction fun e=>by rw[Rm.storeErr,if_pos ha,if_neg e] at he;cases he
 have hl:(s.waits t).length<8:=Classical.byContradiction fun e=>by rw[Rm.storeErr,if_pos ha,if_pos hv,if_pos (by omega)] at he;cases he
 have h0:=h
 have h1:=h.alloc (.cells #[.int .i64 c, .int .i64 g] 95)
 have hba:=box_below c g w
 obtain⟨q0,q1⟩:=box2c w 95 (.int .i64 c) (.int .i64 g)
 have HA:Hid (∀w,RmAt p s w->Calls Tryz.prog 89 #[.pointer (some ⟨p.mb,0,none⟩), .agg #[.int .i64 c, .int .i64 g], .int .i64 k] w fun e w'=>e= .returned (.int .i64 0)/\Below w.heap.size w w'):=fun w h=>by
  have:=at_any p s c g k w h;rw[ha] at this;exact this
 have HI:Hid (∀w,Calls Tryz.prog 78 #[.int .i64 v] w fun e w'=>e= .returned (.bool true)/\w'=w):=fun w=>by
  have:=isWordR_any v w;rw[decide_eq_true hv] at this;exact this
 have H0:Hid (RmAt p s w):=h0
 have hfw:w.heap.size<(w.alloc (.cells #[.int .i64 c, .int .i64 g] 95)).heap.size:=by simp
 clear h h0 ha hv he
 have hi: ¬(8:Int)<=((s.waits t).length:Nat):=by omega
 have htc:=h1.tcap
 have ti:(t:Int)<s.threads:=by omega
 generalize hw1:w.alloc (.cells #[.int .i64 c, .int .i64 g] 95)=w1 at*
 go_enter Tryz.func59,Tryz.ntmps59
 go_wp2_with fail
 refine(HA.out _ h1).mono ?_
 rintro e2 w2 ⟨rfl,hb2⟩
 have B2:=below_step hba hb2
 replace q0:=keep_cell hb2 q0
 replace q1:=keep_cell hb2 q1
 have h2:=h1.below hb2
 have l0:w.heap.size<w2.heap.size:=Nat.lt_of_lt_of_le hfw hb2.size
 clear hb2 h1 HA hw1 hfw hba
 have hm1:=h2.mWaits
 obtain⟨hv,hown⟩:=h2.waits t ht
 have H2:Hid (RmAt p s w2):=h2
 have om:(p.wv t).ownBlock≠some p.mb:=fun e=>(h2.dv t _ ht e).1 rfl
 have ot:(p.wv t).ownBlock≠some p.tb:=fun e=>(h2.dv t _ ht e).2.2.1 rfl
 have ob:(p.wv t).ownBlock≠some w.heap.size:=fun e=>by have:=H0.out.lv ht e;omega
 have lm:=h2.lm
 have lt:=h2.lt
 have hft:=h2.ft t
 obtain⟨ad,cap,hvs,hcl,hcm,hcell⟩:=ownsRow_shape hown
 clear hcell h2
 obtain⟨wi,hwi,hwz,hws,hwb⟩:=wtInfo
 have hml:(s.waits t).length+1<=maxLen:=by unfold maxLen;omega
 have hmb:((s.waits t).length+1)*32<=140737488355328:=by omega
 have HVS:Hid (p.wv t= .slice ad (s.waits t).length cap):=hvs
 rw[hvs] at hv hown om ot ob
 clear hvs
 go_wp2_with fail
 refine(HI.out _).mono ?_
 rintro e3 w3 ⟨rfl,rfl⟩
 clear HI
 go_wp2_with fail
 go_region_held3 (fun w'=>w'.cell? ⟨p.mb,1,none⟩=some (.slice (some ⟨p.tb,0,none⟩) s.threads p.tcap)/\w'.cell? ⟨p.tb,t,none⟩=some (.slice ad (s.waits t).length cap)/\w'.cell? ⟨w.heap.size,0,none⟩=some (.int .i64 c)/\w'.cell? ⟨w.heap.size,1,none⟩=some (.int .i64 g))
  (first
    |go_keep
    | (go_split_ands
       refine⟨?_,?_,?_,?_⟩
       ·(rw[hgrow.cell_far _ (by simp;omega) (Ne.symm om)];assumption)
       ·(rw[hgrow.cell_far _ (by simp;omega) (Ne.symm ot)];assumption)
       ·(rw[hgrow.cell_far _ (by simp;omega) (Ne.symm ob)];assumption)
       ·(rw[hgrow.cell_far _ (by simp;omega) (Ne.symm ob)];assumption)))
  ((refine step_append_at _ (by rfl) _ _ _ (by rfl) 0 175 wi _ 4 32 Tryz.underlying135 hwi hwz hws hwb rfl (by omega) (.slice ad (s.waits t).length cap) _ (wtCells (s.waits t)) (by rfl) ((hown.alloc _).drew)
     ⟨w3.heap.size,0,none⟩ 1 1 [.int .i64 c, .int .i64 g, .int .i64 k, .int .i64 v] (by rfl) (by rfl) (World.news_of_block (cs:=#[.int .i64 c, .int .i64 g, .int .i64 k, .int .i64 v]) (t:=175) (fr:=(0,0)) (heap_alloc_new w3 _)) (by simp[Value.oneCell'])
     hml hmb (by simp) ?_;intro gg gcap w6 hown6 hgrow hat))
 obtain⟨j1,j2, -, -⟩:= ‹_/\_/\_/\_›
 have hg: ∀b,b<w3.heap.size->(Value.slice ad (s.waits t).length cap).ownBlock≠some b->w6.heap[b]? =w3.heap[b]? :=fun b hb hne=>by
  rw[hgrow.block b (by simp;omega) (Ne.symm hne)]
  exact Below.heap_alloc _ _ _ hb
 have hz:w3.heap.size<=w6.heap.size:=Nat.le_trans (by simp) hgrow.size
 have hf6:w6.frozen? ⟨p.tb,t,none⟩=false:=by rw[World.frozen?_of_block (hg p.tb lt ot)];exact hft
 have HT:=H2.out.setWaits (w1:=w6) ht (.slice gg ((s.waits t).length+1) gcap) (s.waits t++[⟨c,g,k,v⟩]) (fun b hb hne=>hg b hb (by rw[<-HVS.out];exact hne)) hz
  (by rw[wtCells_append,List.length_append];exact hown6) (fun b hb=>by
    rcases hat with e |e
    ·left;rw[HVS.out, <-e];exact hb
    ·right;rw[e] at hb;simp at hb;omega)
 have HR:RmStep p s w (p.withRow t (.slice gg ((s.waits t).length+1) gcap)) (s.setWaits t (s.waits t++[⟨c,g,k,v⟩])) (w6.setCell ⟨p.tb,t,none⟩ (.slice gg ((s.waits t).length+1) gcap)):=by
  refine RmStep.of_below B2 ⟨rfl,rfl,HT,?_,?_⟩
  ·refine Turns.trans (b:=w6) ⟨hgrow.os,hgrow.tape,hgrow.output,hz,fun b hb ho=>hg b hb (fun e=>ho 0 (Or.inr (Or.inr (Or.inr (Or.inr ⟨t,ht,by rw[HVS.out];exact e⟩))))),?_,?_⟩ ((Turns.refl _ _).setCell _ (Or.inr (Or.inr (Or.inl rfl))))
   ·intro b o hb ho
    exact World.cell?_of_block (hg b hb (fun e=>ho (Or.inr (Or.inr (Or.inr (Or.inr ⟨t,ht,by rw[HVS.out];exact e⟩))))))
   ·intro b o hb ho
    exact World.frozen?_of_block (hg b hb (fun e=>ho (Or.inr (Or.inr (Or.inr (Or.inr ⟨t,ht,by rw[HVS.out];exact e⟩))))))
  ·intro b hb
   rcases RmPl.fp_row p s _ t _ b rfl rfl hb with e |e
   ·exact Or.inl e
   ·rcases hat with e2 |e2
    ·exact Or.inl (Or.inr (Or.inr (Or.inr (Or.inr ⟨t,ht,by rw[HVS.out, <-e2];exact e⟩))))
    ·right;rw[e2] at e;simp at e;omega
 clear hat hgrow hown6 hown hg HT H2 HVS hwi hwz hws hwb q0 q1 hm1 hv
 go_wp2
 go_ret
 exact⟨rfl,_,HR⟩
end
section
open Go.RowKit Go.Extern.Stop Go.Stop Go.Extern
variable {l:List Wt}
def Rm.drained(s:Rm)(t:Nat)(x:Wt)(l:List Wt):Rm:=
 if s.ar.has x.c x.g=true then(s.setWaits t l).setWord x.c.toNat x.w.toNat x.v else s.setWaits t l
theorem rdrain_none(p:RmPl)(s:Rm)(t:Nat)(w:World)(h:RmAt p s w)(ht:t<s.threads)(he:s.waits t=[]):
  Calls Tryz.prog 58 #[.pointer (some ⟨p.mb,0,none⟩), .int .i64 t] w fun e w'=>e= .returned (.int .i64 5)/\Below w.heap.size w w':=by
 have htc:=h.tcap
 have ti:(t:Int)<s.threads:=by omega
 have hm1:=h.mWaits
 obtain⟨hv,hown⟩:=h.waits t ht
 obtain⟨ad,cap,hvs,hcl,hcm,hcell⟩:=ownsRow_shape hown
 rw[hvs,he] at hv
 clear hcell hown hvs h he
 go_enter Tryz.func58,Tryz.ntmps58
 go_wp2
 go_ret
 exact⟨rfl,Below.refl _ _⟩
theorem wtCells_cons(x:Wt)(l:List Wt):wtCells (x::l)=x.cells++wtCells l:=rfl
theorem wtCells_one: ∀u∈wtCells l,u.oneCell'=true:=by
 induction l with
 |nil=>intro u hu;cases hu
 | cons x l ih=>
  intro u hu
  rw[wtCells_cons,List.mem_append] at hu
  rcases hu with hu |hu
  ·simp only[Wt.cells,List.mem_cons,List.not_mem_nil,or_false] at hu
   rcases hu with rfl |rfl |rfl |rfl <;> rfl
  ·exact ih u hu
theorem drained_at{p:RmPl}{s:Rm}{w1 w6:World}{t:Nat}(H1:RmAt p s w1)(ht:t<s.threads){gg:Option Addr}{gcap:Nat} 
  (hown6:w6.ownsRow 0 175 4 (Value.slice gg (0+l.length) gcap) (0+l.length) ([]++wtCells l)) (hgrow:w1.drew.grownBy w6 (Value.slice none 0 0).ownBlock)
  (hat:(Value.slice gg (0+l.length) gcap).ownBlock=(Value.slice none 0 0).ownBlock∨(Value.slice gg (0+l.length) gcap).ownBlock=some w1.drew.heap.size):
  RmStep p s w1 (p.withRow t (.slice gg l.length gcap)) (s.setWaits t l) (w6.setCell ⟨p.tb,t,none⟩ (.slice gg l.length gcap))/\ ∀b o u,w1.cell? ⟨b,o,none⟩=some u->b≠p.tb->(w6.setCell ⟨p.tb,t,none⟩ (.slice gg l.length gcap)).cell? ⟨b,o,none⟩=some u:=by
 simp only[Nat.zero_add,List.nil_append] at hown6 hat
 have hg: ∀b,b<w1.heap.size->w6.heap[b]? =w1.heap[b]? :=fun b hb=>hgrow.block b hb (by simp[Value.ownBlock])
 have hk: ∀k,(Value.slice gg l.length gcap).ownBlock=some k->w1.heap.size<=k:=fun k e=>by
  rcases hat with e' |e'
  ·rw[e'] at e;cases e
  ·rw[e'] at e;simp at e;omega
 have hz:w1.heap.size<=w6.heap.size:=hgrow.size
 have hb6:Below w1.heap.size w1 w6:=⟨hgrow.os,hgrow.tape,hgrow.output,hz,hg⟩
 refine⟨⟨rfl,rfl,H1.setWaits ht _ _ (fun b hb _=>hg b hb) hz hown6 (fun k e=>Or.inr (hk k e)),(Turns.of_below hb6).setCell _ (Or.inr (Or.inr (Or.inl rfl))),fun b hb=>?_⟩,fun b o u hu hne=>cell_ne (keep_cell hb6 hu) (Or.inl hne)⟩
 rcases RmPl.fp_row p s _ t _ b rfl rfl hb with e |e
 ·exact Or.inl e
 ·exact Or.inr (hk b e)
theorem rdrain_walk (r:Int) (p:RmPl) (s:Rm) (t:Nat) (x:Wt) (l:List Wt) (w:World) (h:RmAt p s w) (ht:t<s.threads) (he:s.waits t=x::l) (hx:0<=x.w/\x.w<4) (hfew:l.length<=1000) (HRR:Hid (r=if s.ar.has x.c x.g=true then 0 else 7)):
  Calls Tryz.prog 58 #[.pointer (some ⟨p.mb,0,none⟩), .int .i64 t] w fun e w'=>e= .returned (.int .i64 r)/\ ∃p',RmStep p s w p' (s.drained t x l) w':=by
 have htc:=h.tcap
 have ti:(t:Int)<s.threads:=by omega
 have hm1:=h.mWaits
 obtain⟨hv,hown⟩:=h.waits t ht
 obtain⟨ad,cap,hvs,hcl,hcm,hcell⟩:=ownsRow_shape hown
 rw[he] at hcell hcl
 obtain⟨gb,rfl,e0⟩:=hcell 0 (.int .i64 x.c) rfl
 have H0:Hid (RmAt p s w):=h
 have om:(p.wv t).ownBlock≠some p.mb:=fun e=>(h.dv t _ ht e).1 rfl
 have ot:(p.wv t).ownBlock≠some p.tb:=fun e=>(h.dv t _ ht e).2.2.1 rfl
 have e1:w.cell? ⟨gb,1,none⟩=some (.int .i64 x.g):=by
  obtain⟨b,hb,h1⟩:=hcell 1 (.int .i64 x.g) rfl;cases hb;exact h1
 have e2:w.cell? ⟨gb,2,none⟩=some (.int .i64 x.w):=by
  obtain⟨b,hb,h1⟩:=hcell 2 (.int .i64 x.w) rfl;cases hb;exact h1
 have e3:w.cell? ⟨gb,3,none⟩=some (.int .i64 x.v):=by
  obtain⟨b,hb,h1⟩:=hcell 3 (.int .i64 x.v) rfl;cases hb;exact h1
 have HC:Hid (∀j u,(wtCells l)[j]? =some u->w.cell? ⟨gb,4+j,none⟩=some u):=fun j u hj=>by
  obtain ⟨b,hb,h1⟩:=hcell (4+j) u (by
   rw[wtCells_cons,List.getElem?_append_right (by show 4<=4+j;omega)]
   show(wtCells l)[4+j - 4]? =some u
   rw[show 4+j - 4=j by omega];exact hj)
  cases hb;exact h1
 have lm:=h.lm
 have lt:=h.lt
 have lg:gb<w.heap.size:=bLt e0
 have HVS:Hid (p.wv t= .slice (some ⟨gb,0,none⟩) (s.waits t).length cap):=hvs
 have hft:=h.ft t
 rw[hvs,he] at hv
 clear hcell hown h hvs
 have hcl':l.length+1<=cap:=hcl
 rw[List.length_cons] at hv
 have y0:(w.alloc (.cells #[.int .i64 x.c, .int .i64 x.g, .int .i64 x.w, .int .i64 x.v] 175)).cell? ⟨w.heap.size,0,none⟩=some (.int .i64 x.c):=by simp
 have y1:(w.alloc (.cells #[.int .i64 x.c, .int .i64 x.g, .int .i64 x.w, .int .i64 x.v] 175)).cell? ⟨w.heap.size,1,none⟩=some (.int .i64 x.g):=by simp
 have y2:(w.alloc (.cells #[.int .i64 x.c, .int .i64 x.g, .int .i64 x.w, .int .i64 x.v] 175)).cell? ⟨w.heap.size,2,none⟩=some (.int .i64 x.w):=by simp
 have y3:(w.alloc (.cells #[.int .i64 x.c, .int .i64 x.g, .int .i64 x.w, .int .i64 x.v] 175)).cell? ⟨w.heap.size,3,none⟩=some (.int .i64 x.v):=by simp
 have bw:Below w.heap.size w (w.alloc (.cells #[.int .i64 x.c, .int .i64 x.g, .int .i64 x.w, .int .i64 x.v] 175)):=bRf.alloc nL _
 have sw:(w.alloc (.cells #[.int .i64 x.c, .int .i64 x.g, .int .i64 x.w, .int .i64 x.v] 175)).heap.size=w.heap.size+1:=by simp
 obtain⟨wi,hwi,hwz,hws,hwb⟩:=wtInfo
 go_enter Tryz.func58,Tryz.ntmps58
 go_wp2_with fail
 generalize hw1:w.alloc (.cells #[.int .i64 x.c, .int .i64 x.g, .int .i64 x.w, .int .i64 x.v] 175)=w1 at*
 replace hm1:=keep_cell bw hm1
 replace hv:=keep_cell bw hv
 replace HC:Hid (∀j u,(wtCells l)[j]? =some u->w1.cell? ⟨gb,4+j,none⟩=some u):=fun j u hj=>keep_cell bw (HC.out j u hj)
 replace hft:w1.frozen? ⟨p.tb,t,none⟩=false:=by rw[bw.frozen lt];exact hft
 have H1:Hid (RmAt p s w1):=H0.out.below bw
 rw[HVS.out] at om ot
 clear e0 e1 e2 e3 hw1
 have hml:0+l.length<=maxLen:=by unfold maxLen;omega
 have hmb:(0+l.length)*32<=140737488355328:=by omega
 have lm1:p.mb<w1.heap.size:=by omega
 have lt1:p.tb<w1.heap.size:=by omega
 have ll1:(1:Int)<=(l.length:Int)+1:=by omega
 obtain ⟨A,hA,HN⟩: ∃A:Addr,(if cap=1 then some (⟨gb,0,none⟩:Addr) else some ⟨gb,4,none⟩)=some A/\Hid (∀j u,(wtCells l)[j]? =some u->w1.cell? (A.add j)=some u):=by
  by_cases hc:cap=1
  ·obtain rfl:l=[]:=List.length_eq_zero_iff.1 (by omega)
   exact⟨_,if_pos hc,fun j u hj=>by cases hj⟩
  ·refine⟨_,if_neg hc,fun j u hj=>?_⟩
   rw[Addr.add_lit]
   exact HC.out j u hj
 go_region_law
  ((refine step_append_at _ (by rfl) _ _ _ (by rfl) 0 175 wi _ 4 32 Tryz.underlying135 hwi hwz hws hwb rfl (by omega) (.slice none 0 0) 0 [] (by rfl) (World.ownsRow_nil _ _ _ _)
     A l.length (cap - 1) (wtCells l) (by rfl) (wtCells_length l) (fun j u hj=>HN.out j u hj) wtCells_one
     hml hmb (Nat.zero_le _) ?_;intro gg gcap w6 hown6 hgrow hat
    have hm6:w6.cell? ⟨p.mb,1,none⟩=some (.slice (some ⟨p.tb,0,none⟩) s.threads p.tcap):=(hgrow.cell_far ⟨p.mb,1,none⟩ (by simp;omega) (by simp[Value.ownBlock])).trans hm1
    have hv6:w6.cell? ⟨p.tb,t,none⟩=some (.slice (some ⟨gb,0,none⟩) (l.length+1) cap):=(hgrow.cell_far ⟨p.tb,t,none⟩ (by simp;omega) (by simp[Value.ownBlock])).trans hv
    have hf6:w6.frozen? ⟨p.tb,t,none⟩=false:=(hgrow.frozen_far ⟨p.tb,t,none⟩ (by simp;omega) (by simp[Value.ownBlock])).trans hft))
 all_goals
  obtain⟨HR,HK⟩:=drained_at H1.out ht hown6 hgrow hat
  replace y0:=HK _ _ _ y0 (by omega)
  replace y1:=HK _ _ _ y1 (by omega)
  replace y2:=HK _ _ _ y2 (by omega)
  replace y3:=HK _ _ _ y3 (by omega)
  have lx:w.heap.size<(w6.setCell ⟨p.tb,t,none⟩ (.slice gg l.length gcap)).heap.size:=bLt y0
  clear HK hat hgrow hown6 hm6 hv6 hf6 hm1 hv hft HC HN hwi hwz hws hwb H1
  generalize (w6.setCell ⟨p.tb,t,none⟩ (.slice gg l.length gcap))=w7 at*
  have PW:(p.withRow t (.slice gg l.length gcap)).wb=p.wb:=rfl
  generalize hP:p.withRow t (.slice gg l.length gcap)=P at*
  have HH:Hid (Calls Tryz.prog 88 #[.pointer (some ⟨P.mb,0,none⟩), .agg #[.int .i64 x.c, .int .i64 x.g]] w7 fun e w'=>e= .returned (.bool (s.ar.has x.c x.g))/\Below w7.heap.size w7 w'):=here_any P (s.setWaits t l) x.c x.g w7 HR.at'
  rw[HR.mb] at HH
  have HS:Hid (RmStep p s w P (s.setWaits t l) w7):=RmStep.of_below bw HR
  clear HR hP
  go_wp2_with fail
 all_goals
  cases hh:s.ar.has x.c x.g
  ·rw[hh] at HH HRR
   have HE:Hid (s.drained t x l=s.setWaits t l):=by show _=_;rw[Rm.drained,if_neg (by rw[hh];decide)]
   have HR7:Hid (r=7):=HRR.out
   clear hh HRR
   refine HH.out.mono ?_
   rintro e8 w8 ⟨rfl,hb8⟩
   have HS8:=HS.out.below hb8
   clear HH HS hb8 y0 y1 y2 y3
   go_wp2
   go_ret
   exact⟨by rw[HR7.out];rfl,P,by rw[HE.out];exact HS8⟩
  ·rw [hh] at HH HRR
   have HR0:Hid (r=0):=HRR.out
   obtain⟨n,xn,hn, -⟩:=Ar.has_lt hh
   obtain⟨m,xm⟩:=Int.eq_ofNat_of_zero_le hx.1
   have hm:m<4:=by omega
   have HE:Hid (s.drained t x l=(s.setWaits t l).setWord n m x.v):=by
    show _=_
    rw[Rm.drained,if_pos hh,xn,xm];rfl
   clear hh HRR
   refine HH.out.mono ?_
   rintro e8 w8 ⟨rfl,hb8⟩
   replace y0:=keep_cell hb8 y0
   replace y2:=keep_cell hb8 y2
   replace y3:=keep_cell hb8 y3
   have HS8:Hid (RmStep p s w P (s.setWaits t l) w8):=HS.out.below hb8
   have lx8:w.heap.size<w8.heap.size:=bLt y0
   clear HH HS hb8 y1
   have A8:=HS8.out.at'
   have hn':n<(s.setWaits t l).ar.size:=hn
   have u0:=A8.mCells
   have u1:=A8.cWords n hn'
   have u2:=A8.words n m hn' hm
   have u3:=A8.fw n m hn'
   have u4:=A8.wcap n hn'
   have u5:=A8.ccap
   have u6:=A8.dw n hn'
   rw[HS8.out.mb] at u0 u6
   rw[xn] at y0
   rw[xm] at y2
   have c1:(0:Int)<=(n:Int):=by omega
   have c2:(n:Int)<(s.setWaits t l).ar.size:=by omega
   have c3:(0:Int)<=(m:Int):=by omega
   have c4:(m:Int)<4:=by omega
   have nx:w.heap.size≠P.wb n:=fun e=>by
    have:=H0.out.lw hn
    rw[PW] at e
    omega
   have n1:p.mb≠P.wb n:=Ne.symm u6.1
   have n2:P.cb≠P.wb n:=Ne.symm u6.2.1
   have lw8:=A8.lw hn'
   have u7:(w8.cell? ⟨P.wb n,m,none⟩).isSome=true:=by rw[u2];rfl
   have HZ:Hid (RmStep p s w P ((s.setWaits t l).setWord n m x.v) ((w8.setCell ⟨p.wb n,m,none⟩ (.int .i64 x.v)).drew)):=
    ⟨HS8.out.mb,HS8.out.tb,by rw[<-PW];exact(A8.setWord n m hn' hm x.v).below bRf.drew,(HS8.out.turns.setCell _ (Or.inr (Or.inr (Or.inr (Or.inl ⟨n,hn,rfl⟩))))).drew,HS8.out.fp⟩
   rw[PW] at u1 u2 u3 u7 lw8 n1 n2 nx
   clear A8 hn' u6 HVS om ot PW
   go_wp2_with fail
   go_region_held3 (fun w'=>w'.cell? ⟨p.mb,0,none⟩=some (.slice (some ⟨P.cb,0,none⟩) (s.setWaits t l).ar.size P.ccap)/\w'.cell? ⟨P.cb,n*3,none⟩=some (.slice (some ⟨p.wb n,0,none⟩) 4 (P.wcap n))/\w'.cell? ⟨w.heap.size,0,none⟩=some (.int .i64 n)/\w'.cell? ⟨w.heap.size,2,none⟩=some (.int .i64 m)/\w'.cell? ⟨w.heap.size,3,none⟩=some (.int .i64 x.v))
    (first
      |exact⟨u0,u1,y0,y2,y3⟩
      | (go_split_ands
         refine⟨cell_ne (by assumption) (Or.inl n1),cell_ne (by assumption) (Or.inl n2),cell_ne (by assumption) (Or.inl nx),cell_ne (by assumption) (Or.inl nx),cell_ne (by assumption) (Or.inl nx)⟩))
    (fail)
   clear u0 u1 u2 u3 u7 y0 y2 y3
   go_wp2
   go_ret
   exact⟨by rw[HR0.out];rfl,P,by rw[HE.out];exact HZ.out⟩
theorem rdrain_gone(p:RmPl)(s:Rm)(t:Nat)(x:Wt)(l:List Wt)(w:World)(h:RmAt p s w)(ht:t<s.threads)(he:s.waits t=x::l)(hx:0<=x.w/\x.w<4)(hfew:l.length<=1000)(hh:s.ar.has x.c x.g=false):
  Calls Tryz.prog 58 #[.pointer (some ⟨p.mb,0,none⟩), .int .i64 t] w fun e w'=>e= .returned (.int .i64 7)/\ ∃p',RmStep p s w p' (s.drained t x l) w':=
 rdrain_walk 7 p s t x l w h ht he hx hfew (by show _=_;rw[hh];rfl)
theorem rdrain_done(p:RmPl)(s:Rm)(t:Nat)(x:Wt)(l:List Wt)(w:World)(h:RmAt p s w)(ht:t<s.threads)(he:s.waits t=x::l)(hx:0<=x.w/\x.w<4)(hfew:l.length<=1000)(hh:s.ar.has x.c x.g=true):
  Calls Tryz.prog 58 #[.pointer (some ⟨p.mb,0,none⟩), .int .i64 t] w fun e w'=>e= .returned (.int .i64 0)/\ ∃p',RmStep p s w p' (s.drained t x l) w':=
 rdrain_walk 0 p s t x l w h ht he hx hfew (by show _=_;rw[hh];rfl)
end
section
open Go.RowKit Go.Extern.Stop Go.Stop Go.Extern
def Rm.drainAll(s:Rm)(t:Nat):List Wt->Rm
 | []=>s
 |x::l=>(s.drained t x l).drainAll t l
def Rm.gone(s:Rm)(t:Nat):List Wt->Nat
 | []=>0
 |x::l=>(if s.ar.has x.c x.g=true then 0 else 1)+(s.drained t x l).gone t l
theorem Rm.drained_waits(s:Rm)(t:Nat)(x:Wt)(l:List Wt):(s.drained t x l).waits t=l:=by
 unfold Rm.drained
 split
 ·simp[Rm.setWord,Rm.setWaits]
 ·simp[Rm.setWaits]
theorem Rm.drained_threads(s:Rm)(t:Nat)(x:Wt)(l:List Wt):(s.drained t x l).threads=s.threads:=by
 unfold Rm.drained
 split <;> rfl
theorem Rm.gone_le(l:List Wt)(t:Nat): ∀s:Rm,s.gone t l<=l.length:=by
 induction l with
 |nil=>intro s;exact Nat.zero_le _
 | cons x l ih=>
  intro s
  have:=ih (s.drained t x l)
  rw[Rm.gone,List.length_cons]
  split <;> omega
def waitLen(tb t:Nat)(w:World):Nat:=match w.cell? ⟨tb,t,none⟩ with
 |some (.slice _ n _)=>n
 |_=>0
theorem RmAt.waitLen{p:RmPl}{s:Rm}{w:World}(h:RmAt p s w){t:Nat}(ht:t<s.threads):waitLen p.tb t w=(s.waits t).length:=by
 obtain⟨hv,hown⟩:=h.waits t ht
 obtain⟨ad,cap,hvs, -⟩:=ownsRow_shape hown
 unfold Go.Proofs.YtdpmnlbnlnmjbaaGreatDoor.waitLen
 rw[hv,hvs]
theorem rfence_any (p:RmPl) (s:Rm) (t:Nat) (w:World) (h:RmAt p s w) (ht:t<s.threads) (hx: ∀x∈s.waits t,0<=x.w/\x.w<4) (hfew:(s.waits t).length<=1000):
  Calls Tryz.prog 90 #[.pointer (some ⟨p.mb,0,none⟩), .int .i64 t] w fun e w'=>e= .returned (.int .i64 (s.gone t (s.waits t)))/\ ∃p',RmStep p s w p' (s.drainAll t (s.waits t)) w':=by
 have hgl:=Rm.gone_le (s.waits t) t s
 generalize hG:s.gone t (s.waits t)=G at*
 generalize hD:s.drainAll t (s.waits t)=D at*
 have H0:Hid (RmStep p s w p s w):=RmStep.refl h
 have HI:Hid (∃p1 s1,s1.threads=s.threads/\(s1.waits t).length<=1000/\(∀x∈s1.waits t,0<=x.w/\x.w<4)/\0+s1.gone t (s1.waits t)=G/\s1.drainAll t (s1.waits t)=D/\RmStep p s w p1 s1 w):=⟨p,s,rfl,hfew,hx,by omega,hD,RmStep.refl h⟩
 clear h hx hG hD
 go_enter Tryz.func90,Tryz.ntmps90
 go_wp2_with fail
 go_loopw [5,6] (fun n _ wr=> ∃k:Nat,n= .int .i64 k/\ ∃p1 s1,s1.threads=s.threads/\(s1.waits t).length<=1000/\(∀x∈s1.waits t,0<=x.w/\x.w<4)/\k+s1.gone t (s1.waits t)=G/\s1.drainAll t (s1.waits t)=D/\RmStep p s w p1 s1 wr) (fun _ _ wr=>waitLen p.tb t wr)
 case atStart=>exact⟨0,rfl,HI.out⟩
 case round=>
  obtain⟨k,rfl,p1,s1,h1,h2,h3,h4,h5,h6⟩:=hrel
  have H6:Hid (RmStep p s w p1 s1 wr):=h6
  have hk:k<=1000:=by omega
  have A6:=h6.at'
  have htc:=A6.tcap
  have t1:t<s1.threads:=by omega
  have ti:(t:Int)<s1.threads:=by omega
  have hm1:=A6.mWaits
  have hwl:=A6.waitLen t1
  rw[h6.tb] at hwl
  obtain⟨hv,hown⟩:=A6.waits t t1
  obtain⟨ad,cap,hvs,hcl,hcm,hcell⟩:=ownsRow_shape hown
  rw[hvs] at hv
  rw[h6.mb] at hm1
  have HA:Hid (RmAt p1 s1 wr):=A6
  clear A6 hown hcell hvs h6
  cases hl:s1.waits t with
  | nil=>
   rw[hl] at hv h4 h5
   rw[List.length_nil] at hv
   have HG:Hid (k=G):=h4
   have HD:Hid (s1=D):=h5
   clear h4 h5 h3 HI H0 HA
   go_wp2
   go_ret
   exact⟨by rw[HG.out];rfl,p1,by rw[<-HD.out];exact H6.out⟩
  | cons x l=>
   rw[hl] at hv h2 h3 h4 h5 hwl
   have hx:=h3 x (List.mem_cons_self ..)
   have hll:l.length<=1000:=by rw[List.length_cons] at h2;omega
   have l0:(0:Int)<(l.length:Int)+1:=by omega
   rw[List.length_cons] at hv
   have HN:Hid (∀p2 w2 (j:Nat),(j:Int)=k+(if s1.ar.has x.c x.g=true then 0 else 1)->RmStep p1 s1 wr p2 (s1.drained t x l) w2->(∃k':Nat,(Value.int .i64 j)= .int .i64 k'/\ ∃p1 s1,s1.threads=s.threads/\(s1.waits t).length<=1000/\(∀x∈s1.waits t,0<=x.w/\x.w<4)/\k'+s1.gone t (s1.waits t)=G/\s1.drainAll t (s1.waits t)=D/\RmStep p s w p1 s1 w2)/\waitLen p.tb t w2<waitLen p.tb t wr):=by
    intro p2 w2 j hj hst
    refine⟨⟨j,rfl,p2,s1.drained t x l,?_,?_,?_,?_,?_,H6.out.trans hst⟩,?_⟩
    ·rw[Rm.drained_threads];exact h1
    ·rw[Rm.drained_waits];exact hll
    ·rw[Rm.drained_waits];exact fun y hy=>h3 y (List.mem_cons_of_mem _ hy)
    ·rw[Rm.drained_waits]
     rw[Rm.gone] at h4
     split at h4 <;> rename_i hh <;> simp only[hh,if_true] at hj <;> simp at hj <;> omega
    ·rw[Rm.drained_waits];exact h5
    ·rw[hwl, <-H6.out.tb, <-hst.tb,hst.at'.waitLen (by rw[Rm.drained_threads];exact t1),Rm.drained_waits,List.length_cons]
     omega
   cases hh:s1.ar.has x.c x.g
   ·have HC:Hid (Calls Tryz.prog 58 #[.pointer (some ⟨p.mb,0,none⟩), .int .i64 t] wr fun e w'=>e= .returned (.int .i64 7)/\ ∃p',RmStep p1 s1 wr p' (s1.drained t x l) w'):=by
     have:=rdrain_gone p1 s1 t x l wr HA.out t1 hl hx hll hh
     rw[H6.out.mb] at this
     exact this
    rw[hh] at HN
    clear hh HA H6 H0 HI h3 h4 h5 hwl hl
    go_wp2_with fail
    refine HC.out.mono ?_
    rintro e2 w2 ⟨rfl,p2,hst⟩
    have HF:=HN.out p2 w2 (k+1) (by simp) hst
    clear HN HC hst hm1 hv
    go_wp2
    go_roundw
    case rel=>
     obtain⟨k',e1,e2⟩:=HF.1
     clear HF
     have e3:((k+1:Nat):Int)=k':=by injection e1
     exact⟨k',by go_num,e2⟩
    case measure=>exact HF.2
   ·have HC:Hid (Calls Tryz.prog 58 #[.pointer (some ⟨p.mb,0,none⟩), .int .i64 t] wr fun e w'=>e= .returned (.int .i64 0)/\ ∃p',RmStep p1 s1 wr p' (s1.drained t x l) w'):=by
     have:=rdrain_done p1 s1 t x l wr HA.out t1 hl hx hll hh
     rw[H6.out.mb] at this
     exact this
    rw[hh] at HN
    clear hh HA H6 H0 HI h3 h4 h5 hwl hl
    go_wp2_with fail
    refine HC.out.mono ?_
    rintro e2 w2 ⟨rfl,p2,hst⟩
    have HF:=HN.out p2 w2 k (by simp) hst
    clear HN HC hst hm1 hv
    go_wp2
    go_roundw
    case rel=>exact HF.1
    case measure=>exact HF.2
end
section
open Go.RowKit Go.Extern.Stop Go.Stop Go.Extern
variable {w:World}
theorem ralloc_step(p:RmPl)(s:Rm)(c:Nat)(w:World)(h:RmAt p s w)(hc:c<s.ar.size)(hf: ∀j,j<c->s.ar.there j=true)(ht:s.ar.there c=false)(hg:s.ar.given c+1<4611686018427387904):
  Calls Tryz.prog 48 #[.pointer (some ⟨p.mb,0,none⟩)] w fun e w'=>e= .returned (.tuple #[.agg #[.int .i64 c, .int .i64 (s.ar.given c)], .int .i64 0])/\ ∃p',RmStep p s w p' (s.give c) w':=by
 refine(ralloc_some p s c w h hc hf ht hg).mono ?_
 rintro e w' ⟨he,hT,b,hb,hA⟩
 refine⟨he,p.withWords c b 4,rfl,rfl,hA,hT.mono (fun k _ _ e=>Or.inr (Or.inl e)),fun k hk=>?_⟩
 rcases RmPl.fp_words p s (s.give c) c b 4 k rfl rfl hk with e |e
 ·exact Or.inl e
 ·exact Or.inr (by omega)
theorem RmStep.setThere{p:RmPl}{s:Rm}(h:RmAt p s w)(c:Nat)(hc:c<s.ar.size)(b:Bool):RmStep p s w p (s.setThere c b) (w.setCell ⟨p.cb,c*3+2,none⟩ (.bool b)):=
 ⟨rfl,rfl,h.setThere c hc b,(Turns.refl _ _).setCell _ (Or.inr (Or.inl rfl)),fun _ hk=>Or.inl hk⟩
theorem RmStep.setWord{p:RmPl}{s:Rm}(h:RmAt p s w)(c m:Nat)(hc:c<s.ar.size)(hm:m<4)(v:Int):RmStep p s w p (s.setWord c m v) (w.setCell ⟨p.wb c,m,none⟩ (.int .i64 v)):=
 ⟨rfl,rfl,h.setWord c m hc hm v,(Turns.refl _ _).setCell _ (Or.inr (Or.inr (Or.inr (Or.inl ⟨c,hc,rfl⟩)))),fun _ hk=>Or.inl hk⟩
theorem Rm.drained_ar(s:Rm)(t:Nat)(x:Wt)(l:List Wt):(s.drained t x l).ar.size=s.ar.size/\(s.drained t x l).ar.there=s.ar.there/\(s.drained t x l).ar.given=s.ar.given:=by
 unfold Rm.drained
 split <;> exact⟨rfl,rfl,rfl⟩
theorem Rm.drainAll_ar(l:List Wt)(t:Nat): ∀s:Rm,(s.drainAll t l).ar.size=s.ar.size/\(s.drainAll t l).ar.there=s.ar.there/\(s.drainAll t l).ar.given=s.ar.given/\(s.drainAll t l).threads=s.threads:=by
 induction l with
 |nil=>intro s;exact⟨rfl,rfl,rfl,rfl⟩
 | cons x l ih=>
  intro s
  obtain⟨h1,h2,h3,h4⟩:=ih (s.drained t x l)
  obtain⟨k1,k2,k3⟩:=s.drained_ar t x l
  exact⟨h1.trans k1,h2.trans k2,h3.trans k3,h4.trans (s.drained_threads t x l)⟩
theorem Rm.drainAll_has(l:List Wt)(t:Nat)(s:Rm)(c g:Int):(s.drainAll t l).ar.has c g=s.ar.has c g:=by
 obtain⟨h1,h2,h3, -⟩:=s.drainAll_ar l t
 simp only[Ar.has,h1,h2,h3]
theorem Rm.drainAll_waits(l:List Wt)(t:Nat): ∀s:Rm,s.waits t=l->(s.drainAll t l).waits t=[]:=by
 induction l with
 |nil=>intro s h;exact h
 |cons x l ih=>intro s _;exact ih (s.drained t x l) (s.drained_waits t x l)
end
section
open Go.RowKit Go.Extern.Stop Go.Stop Go.Extern
variable {l:List Wt} {b o:Nat} {w:World}
def Wt.nth(x:Wt):Nat->Int
 |0=>x.c
 |1=>x.g
 |2=>x.w
 |_=>x.v
def lnCell(l:List Wt)(i k:Nat):Int:=match l[i]? with
 |some x=>x.nth k
 |none=>0
structure LnAt(b o:Nat)(l:List Wt)(w:World):Prop where
 le:l.length<=8
 len:w.cell? ⟨b,o+32,none⟩=some (.int .i64 l.length)
 row: ∀i k,i<8->k<4->w.cell? ⟨b,o+i*4+k,none⟩=some (.int .i64 (lnCell l i k))
 frozen: ∀k,k<33->w.frozen? ⟨b,o+k,none⟩=false
def lnPl(b o:Nat):Nat->Nat->Prop:=fun k p=>k=b/\o<=p/\p<o+33
theorem LnAt.lt(h:LnAt b o l w):b<w.heap.size:=bLt h.len
theorem LnAt.turns{S:Nat->Nat->Prop}{w w':World}(h:LnAt b o l w)(t:Turns S w w')(hS: ∀k,k<33-> ¬S b (o+k)):LnAt b o l w' where
 le:=h.le
 len:=t.keep h.len (hS 32 (by decide))
 row i k hi hk:=t.keep (h.row i k hi hk) (by have:=hS (i*4+k) (by omega);simpa [Nat.add_assoc] using this)
 frozen k hk:=by rw[t.frozen b (o+k) h.lt (hS k hk)];exact h.frozen k hk
theorem LnAt.below{w w':World}(h:LnAt b o l w)(hb:Below w.heap.size w w'):LnAt b o l w':=
 h.turns (Turns.of_below (S:=fun _ _=>False) hb) (fun _ _ h=>h)
theorem LnAt.alloc(h:LnAt b o l w)(ob:Obj):LnAt b o l (w.alloc ob):=h.below (bRf.alloc nL _)
theorem LnAt.drew(h:LnAt b o l w):LnAt b o l w.drew:=h.below bRf.drew
theorem full_any(b o:Nat)(l:List Wt)(w:World)(h:LnAt b o l w):
  Calls Tryz.prog 150 #[.pointer (some ⟨b,o,none⟩)] w fun e w'=>e= .returned (.bool (decide (8<=l.length)))/\w'=w:=by
 have hn:=h.len
 have hle:=h.le
 clear h
 by_cases h8:8<=l.length
 ·have e8:l.length=8:=by omega
  rw[decide_eq_true h8]
  rw[e8] at hn
  go_enter Tryz.func150,Tryz.ntmps150
  go_wp2
  go_ret
  exact⟨rfl,rfl⟩
 ·have e8:((l.length:Int)==8)=false:=beq_eq_false_iff_ne.2 (by omega)
  rw[decide_eq_false h8]
  go_enter Tryz.func150,Tryz.ntmps150
  go_wp2
  go_ret
  exact⟨rfl,rfl⟩
theorem lnCell_append(l:List Wt)(x:Wt)(i k:Nat):lnCell (l++[x]) i k=if i=l.length then x.nth k else lnCell l i k:=by
 unfold lnCell
 by_cases h:i<l.length
 ·rw[List.getElem?_append_left h,if_neg (by omega)]
 ·rw[List.getElem?_append_right (by omega)]
  by_cases e:i=l.length
  ·rw[if_pos e,show i - l.length=0 by omega];rfl
  ·rw[if_neg e,List.getElem?_eq_none (by simp;omega),List.getElem?_eq_none (by omega)]
def lnSet(w:World)(b p:Nat)(x0 x1 x2 x3:Value):World:=(((w.setCell ⟨b,p,none⟩ x0).setCell ⟨b,p+1,none⟩ x1).setCell ⟨b,p+2,none⟩ x2).setCell ⟨b,p+3,none⟩ x3
theorem lnSet_other{b p k:Nat}{x0 x1 x2 x3 u:Value}(hc:w.cell? ⟨b,k,none⟩=some u)(hk:k<p∨p+4<=k):(lnSet w b p x0 x1 x2 x3).cell? ⟨b,k,none⟩=some u:=
 cell_ne (cell_ne (cell_ne (cell_ne hc (Or.inr (by omega))) (Or.inr (by omega))) (Or.inr (by omega))) (Or.inr (by omega))
theorem lnSet_same{b p:Nat}{x0 x1 x2 x3:Value}(hc: ∀k,k<4-> ∃u,w.cell? ⟨b,p+k,none⟩=some u):(lnSet w b p x0 x1 x2 x3).cell? ⟨b,p,none⟩=some x0/\(lnSet w b p x0 x1 x2 x3).cell? ⟨b,p+1,none⟩=some x1/\(lnSet w b p x0 x1 x2 x3).cell? ⟨b,p+2,none⟩=some x2/\(lnSet w b p x0 x1 x2 x3).cell? ⟨b,p+3,none⟩=some x3:=by
 obtain⟨u0,h0⟩:=hc 0 (by decide)
 obtain⟨u1,h1⟩:=hc 1 (by decide)
 obtain⟨u2,h2⟩:=hc 2 (by decide)
 obtain⟨u3,h3⟩:=hc 3 (by decide)
 refine ⟨cell_ne (cell_ne (cell_ne (World.cell?_setCell_same _ _ _ h0) (Or.inr (by omega))) (Or.inr (by omega))) (Or.inr (by omega)),
  cell_ne (cell_ne (World.cell?_setCell_same _ _ _ (cell_ne h1 (Or.inr (by omega)))) (Or.inr (by omega))) (Or.inr (by omega)),
  cell_ne (World.cell?_setCell_same _ _ _ (cell_ne (cell_ne h2 (Or.inr (by omega))) (Or.inr (by omega)))) (Or.inr (by omega)),
  World.cell?_setCell_same _ _ _ (cell_ne (cell_ne (cell_ne h3 (Or.inr (by omega))) (Or.inr (by omega))) (Or.inr (by omega)))⟩
theorem LnAt.put (h:LnAt b o l w) (x:Wt) (h8:l.length<8):
  LnAt b o (l++[x]) ((lnSet w b (o+l.length*4) (.int .i64 x.c) (.int .i64 x.g) (.int .i64 x.w) (.int .i64 x.v)).setCell ⟨b,o+32,none⟩ (.int .i64 (l.length+1))) where
 le:=by simp;omega
 len :=by
  rw[World.cell?_setCell_same _ _ _ (lnSet_other h.len (by omega))];simp
 row i k hi hk:=by
  refine cell_ne ?_ (Or.inr (by omega))
  rw[lnCell_append]
  by_cases e:i=l.length
  ·rw[if_pos e]
   obtain⟨e0,e1,e2,e3⟩:=lnSet_same (w:=w) (b:=b) (p:=o+l.length*4) (x0:= .int .i64 x.c) (x1:= .int .i64 x.g) (x2:= .int .i64 x.w) (x3:= .int .i64 x.v) (fun k hk=>⟨_,h.row l.length k h8 hk⟩)
   subst e
   match k,hk with
   |0,_=>exact e0
   |1,_=>exact e1
   |2,_=>exact e2
   |3,_=>exact e3
  ·rw[if_neg e]
   exact lnSet_other (h.row i k hi hk) (by omega)
 frozen k hk:=by
  simp only[lnSet,World.frozen?_setCell];exact h.frozen k hk
theorem add_any(b o:Nat)(l:List Wt)(x:Wt)(w:World)(h:LnAt b o l w)(h8:l.length<8):
  Calls Tryz.prog 151 #[.pointer (some ⟨b,o,none⟩), .agg #[.int .i64 x.c, .int .i64 x.g, .int .i64 x.w, .int .i64 x.v]] w fun e w'=>e= .returned (.tuple #[])/\LnAt b o (l++[x]) w'/\Turns (lnPl b o) w w':=by
 have h1:=h.alloc (.cells #[.int .i64 x.c, .int .i64 x.g, .int .i64 x.w, .int .i64 x.v] 97)
 have hba:Below w.heap.size w (w.alloc (.cells #[.int .i64 x.c, .int .i64 x.g, .int .i64 x.w, .int .i64 x.v] 97)):=bRf.alloc nL _
 have q0:(w.alloc (.cells #[.int .i64 x.c, .int .i64 x.g, .int .i64 x.w, .int .i64 x.v] 97)).cell? ⟨w.heap.size,0,none⟩=some (.int .i64 x.c):=by simp
 have q1:(w.alloc (.cells #[.int .i64 x.c, .int .i64 x.g, .int .i64 x.w, .int .i64 x.v] 97)).cell? ⟨w.heap.size,1,none⟩=some (.int .i64 x.g):=by simp
 have q2:(w.alloc (.cells #[.int .i64 x.c, .int .i64 x.g, .int .i64 x.w, .int .i64 x.v] 97)).cell? ⟨w.heap.size,2,none⟩=some (.int .i64 x.w):=by simp
 have q3:(w.alloc (.cells #[.int .i64 x.c, .int .i64 x.g, .int .i64 x.w, .int .i64 x.v] 97)).cell? ⟨w.heap.size,3,none⟩=some (.int .i64 x.v):=by simp
 have HL:Hid (LnAt b o (l++[x]) ((lnSet (w.alloc (.cells #[.int .i64 x.c, .int .i64 x.g, .int .i64 x.w, .int .i64 x.v] 97)) b (o+l.length*4) (.int .i64 x.c) (.int .i64 x.g) (.int .i64 x.w) (.int .i64 x.v)).setCell ⟨b,o+32,none⟩ (.int .i64 (l.length+1)))):=h1.put x h8
 generalize hw:w.alloc (.cells #[.int .i64 x.c, .int .i64 x.g, .int .i64 x.w, .int .i64 x.v] 97)=w1 at*
 have hl:=h1.lt
 have hn:=h1.len
 have i8:(l.length:Int)<8:=by omega
 have r0:w1.cell? ⟨b,o+l.length*4,none⟩=some (.int .i64 (lnCell l l.length 0)):=h1.row l.length 0 h8 (by decide)
 have r1:=h1.row l.length 1 h8 (by decide)
 have r2:=h1.row l.length 2 h8 (by decide)
 have r3:=h1.row l.length 3 h8 (by decide)
 have f0:w1.frozen? ⟨b,o+l.length*4,none⟩=false:=h1.frozen (l.length*4) (by omega)
 have f1:w1.frozen? ⟨b,o+l.length*4+1,none⟩=false:=by have:=h1.frozen (l.length*4+1) (by omega);simpa [Nat.add_assoc] using this
 have f2:w1.frozen? ⟨b,o+l.length*4+2,none⟩=false:=by have:=h1.frozen (l.length*4+2) (by omega);simpa [Nat.add_assoc] using this
 have f3:w1.frozen? ⟨b,o+l.length*4+3,none⟩=false:=by have:=h1.frozen (l.length*4+3) (by omega);simpa [Nat.add_assoc] using this
 have fn:w1.frozen? ⟨b,o+32,none⟩=false:=h1.frozen 32 (by decide)
 clear h h1
 go_enter Tryz.func151,Tryz.ntmps151
 go_wp2
 go_region
 go_wp2
 go_end0
 have hp: ∀k,k<4->lnPl b o b (o+l.length*4+k):=fun k hk=>⟨rfl,by omega,by omega⟩
 exact⟨rfl,HL.out.drew,((((((Turns.of_below hba).setCell _ (hp 0 (by decide))).setCell _ (hp 1 (by decide))).setCell _ (hp 2 (by decide))).setCell _ (hp 3 (by decide))).setCell _ ⟨rfl,by omega,by omega⟩).drew⟩
end
section
open Go.RowKit Go.Extern.Stop Go.Stop Go.Extern
variable {w:World} {l:List Wt} {b o:Nat} {P:Program}
theorem run_copy_four(w:World)(dT sT ty elem:TypeId)(b o dLen dCap:Nat)(a:Addr)(sLen sCap n:Nat)(cs:List Value) 
  (hu:P.underlying dT=some (.slice elem)) (hs:(P.info? elem).map (·.size)=some 4) (hm:Nat.min sLen dLen=n) (hn:cs.length=n*4)
  (hsrc: ∀j v,cs[j]? =some v->w.cell? (a.add j)=some v) (hc: ∀j,j<cs.length->(w.cell? ⟨b,o+j,none⟩).isSome=true) (hf: ∀j,j<cs.length->w.frozen? ⟨b,o+j,none⟩=false) (h1: ∀v∈cs,v.oneCell'=true):
  (Builtin.copy_ #[dT,sT] ty #[.slice (some ⟨b,o,none⟩) dLen dCap, .slice (some a) sLen sCap]).run P w= .ok (goInt n) (w.setCells b o cs):=by
 have hl:=run_loadCells_list (P:=P) w a cs hsrc
 have hst:=run_storeCells_cells (P:=P) b o cs 0 w (by simpa using hc) (by simpa using hf) h1
 rw[hn] at hl
 cases hq:P.info? elem with
 |none=>simp[hq] at hs
 | some i=>
  have hi:i.size=4:=by simpa [hq] using hs
  simp[Builtin.copy_,run_underlying hu,Builtin.lenOf,Builtin.firstCells,sizeOf,typeInfo,hq,hi,hm,hl,hst]
theorem wtCells_nth(l:List Wt)(i k:Nat)(hi:i<l.length)(hk:k<4):(wtCells l)[i*4+k]? =some (.int .i64 (lnCell l i k)):=by
 obtain⟨a0,a1,a2,a3⟩:=wtCells_at l i l[i] (List.getElem?_eq_getElem hi)
 unfold lnCell
 rw[List.getElem?_eq_getElem hi]
 match k,hk with
 |0,_=>exact a0
 |1,_=>exact a1
 |2,_=>exact a2
 |3,_=>exact a3
theorem turns_setCells{S:Nat->Nat->Prop}{a:World}(b:Nat): ∀(vs:List Value) (o:Nat) (w:World),Turns S a w->(∀j,j<vs.length->S b (o+j))->Turns S a (w.setCells b o vs)
 | [],_,_,h,_=>h
 |v::r,o,w,h,hS=>turns_setCells b r (o+1) _ (h.setCell v (by simpa using hS 0 (by simp))) (fun j hj=>by have:=hS (j+1) (by simp;omega);rwa [show o+(j+1)=o+1+j by omega] at this)
theorem lnCell_cons(x:Wt)(l:List Wt)(i k:Nat):lnCell (x::l) (i+1) k=lnCell l i k:=rfl
theorem lnCell_out(l:List Wt)(i k:Nat)(h:l.length<=i):lnCell l i k=0:=by unfold lnCell;rw[List.getElem?_eq_none h]
theorem LnAt.src{x:Wt}(h:LnAt b o (x::l) w)(j:Nat)(v:Value)(hj:(wtCells l)[j]? =some v):w.cell? ⟨b,o+4+j,none⟩=some v:=by
 have hlt:j<(wtCells l).length:=(List.getElem?_eq_some_iff.1 hj).1
 rw[wtCells_length] at hlt
 have h8:=h.le
 simp only[List.length_cons] at h8
 have e:=wtCells_nth l (j / 4) (j % 4) (by omega) (by omega)
 rw[show j / 4*4+j % 4=j by omega,hj] at e
 have r:=h.row (j / 4+1) (j % 4) (by omega) (by omega)
 rw[lnCell_cons,show o+(j / 4+1)*4+j % 4=o+4+j by omega] at r
 rw[r, <-e]
theorem LnAt.take {x:Wt} (h:LnAt b o (x::l) w):
  LnAt b o l (lnSet ((w.setCells b o (wtCells l)).setCell ⟨b,o+32,none⟩ (.int .i64 l.length)) b (o+l.length*4) (.int .i64 0) (.int .i64 0) (.int .i64 0) (.int .i64 0)):=by
 have h8:=h.le
 simp only[List.length_cons] at h8
 have hout: ∀p u,w.cell? ⟨b,p,none⟩=some u->o+l.length*4<=p->(w.setCells b o (wtCells l)).cell? ⟨b,p,none⟩=some u:=fun p u hu hp=>by
  rw[World.cell?_setCells_out _ _ _ _ _ (fun _ _=>Or.inr (by rw[wtCells_length];exact hp))];exact hu
 have hall: ∀p,p<l.length*4-> ∃u,(w.setCells b o (wtCells l)).cell? ⟨b,o+p,none⟩=some u/\(wtCells l)[p]? =some u:=fun p hp=>by
  have hl:p<(wtCells l).length:=by rw[wtCells_length];exact hp
  refine⟨(wtCells l)[p],World.cell?_setCells_in b (wtCells l) o w (fun j hj=>?_) p hl,List.getElem?_eq_getElem hl⟩
  rw[wtCells_length] at hj
  have r:=h.row (j / 4) (j % 4) (by omega) (by omega)
  rw[show o+j / 4*4+j % 4=o+j by omega] at r
  rw[r];rfl
 refine⟨by omega,?_,fun i k hi hk=>?_,fun k hk=>?_⟩
 ·exact lnSet_other (World.cell?_setCell_same _ _ _ (hout _ _ h.len (by omega))) (by omega)
 ·by_cases e:i=l.length
  ·have r: ∀k,k<4-> ∃u,((w.setCells b o (wtCells l)).setCell ⟨b,o+32,none⟩ (.int .i64 l.length)).cell? ⟨b,o+l.length*4+k,none⟩=some u:=fun k hk=>⟨_,cell_ne (hout _ _ (h.row l.length k (by omega) hk) (by omega)) (Or.inr (by omega))⟩
   obtain⟨e0,e1,e2,e3⟩:=lnSet_same (x0:= .int .i64 0) (x1:= .int .i64 0) (x2:= .int .i64 0) (x3:= .int .i64 0) r
   rw[lnCell_out l i k (by omega)]
   subst e
   match k,hk with
   |0,_=>exact e0
   |1,_=>exact e1
   |2,_=>exact e2
   |3,_=>exact e3
  ·refine lnSet_other (cell_ne ?_ (Or.inr (by omega))) (by omega)
   by_cases hlt:i<l.length
   ·obtain⟨u,hu,hu'⟩:=hall (i*4+k) (by omega)
    rw[wtCells_nth l i k hlt hk] at hu'
    rw[show o+i*4+k=o+(i*4+k) by omega,hu, <-hu']
   ·have r:=h.row i k hi hk
    obtain⟨m,rfl⟩: ∃m,i=m+1:=⟨i - 1,by omega⟩
    rw[lnCell_cons,lnCell_out l m k (by omega)] at r
    rw[lnCell_out l _ k (by omega)]
    exact hout _ _ r (by omega)
 ·simp only[lnSet,World.frozen?_setCell,World.frozen?_setCells]
  exact h.frozen k hk
theorem stInfo:(Tryz.prog.info? 97).map (·.size)=some 4:=by kernel_rfl
theorem LnAt.apart(h:LnAt b o l w){p:Addr}(v:Value)(hp:p.block≠b):LnAt b o l (w.setCell p v) where
 le:=h.le
 len:=by rw[World.cell?_setCell_other _ _ _ _ (fun e=>hp (by rw[e]))];exact h.len
 row i k hi hk:=by rw[World.cell?_setCell_other _ _ _ _ (fun e=>hp (by rw[e]))];exact h.row i k hi hk
 frozen k hk:=by rw[World.frozen?_setCell];exact h.frozen k hk
theorem blk2(w:World)(o1 o2:Obj):((w.alloc o1).alloc o2).heap[w.heap.size]? =some o1/\((w.alloc o1).alloc o2).heap[w.heap.size+1]? =some o2:=by
 have e1:w.heap.size+1=(w.alloc o1).heap.size:=(World.size_alloc _ _).symm
 refine⟨?_,?_⟩
 ·rw[Below.heap_alloc _ _ _ (by omega)];exact heap_new w o1
 ·rw[e1];exact heap_new _ o2
theorem cells4{k:Nat}{x0 x1 x2 x3:Value}{t:TypeId}(h:w.heap[k]? =some (.cells #[x0,x1,x2,x3] t)):
  (w.cell? ⟨k,0,none⟩=some x0/\w.cell? ⟨k,1,none⟩=some x1/\w.cell? ⟨k,2,none⟩=some x2/\w.cell? ⟨k,3,none⟩=some x3)/\ ∀o,w.frozen? ⟨k,o,none⟩=false:=by
 refine⟨⟨?_,?_,?_,?_⟩,fun o=>?_⟩
 ·simp[World.cell?,h]
 ·simp[World.cell?,h]
 ·simp[World.cell?,h]
 ·simp[World.cell?,h]
 ·simp[World.frozen?,h]
theorem step_copy_four(w:World){ops:Array Oper}{o:Oper}{a:Act}{K:Act->World->Prop}{Q:Exit->Act->World->Prop}{E:Prop}(hgd:o.guard=none)(s x:Operand)(t elem:TypeId) 
  (ho:o.op= .call { callee:= .builtin .copy,args:=#[s,x],argTypes:=#[t,t] })
  (hu:P.underlying t=some (.slice elem)) (hz:(P.info? elem).map (·.size)=some 4)
  (b p dLen dCap:Nat) (ad:Addr) (sLen sCap n:Nat) (cs:List Value) (hs:a.eval s= .slice (some ⟨b,p,none⟩) dLen dCap) (hx:a.eval x= .slice (some ad) sLen sCap)
  (hm:Nat.min sLen dLen=n) (hn:cs.length=n*4)
  (hsrc: ∀j v,cs[j]? =some v->w.cell? (ad.add j)=some v) (hc: ∀j,j<cs.length->(w.cell? ⟨b,p+j,none⟩).isSome=true) (hf: ∀j,j<cs.length->w.frozen? ⟨b,p+j,none⟩=false) (h1: ∀v∈cs,v.oneCell'=true)
  (h:K (a.put o.dst (goInt n)) (w.setCells b p cs)):
  if Region.wanted o (yielded ops a.tmps)=true then Oper.wp P o a w K Q else E:=by
 have hw:Region.wanted o (yielded ops a.tmps)=true:=by simp[Region.wanted,hgd]
 rw[if_pos hw]
 have hr:=run_copy_four (P:=P) w t t o.type elem b p dLen dCap ad sLen sCap n cs hu hz hm hn hsrc hc hf h1
 unfold Oper.wp execOp
 simp only[ho,resolve,invoke,builtin,Sem.run_bind,Sem.run_pure,Result.andThen_ok,List.map_toArray,List.map_cons,List.map_nil,hs,hx,hr]
 exact h
theorem take_any (b o:Nat) (x:Wt) (l:List Wt) (w:World) (h:LnAt b o (x::l) w):
  Calls Tryz.prog 92 #[.pointer (some ⟨b,o,none⟩)] w fun e w'=>e= .returned (.agg #[.int .i64 x.c, .int .i64 x.g, .int .i64 x.w, .int .i64 x.v])/\LnAt b o l w'/\Turns (lnPl b o) w w':=by
 have h8:=h.le
 simp only[List.length_cons] at h8
 have hl:=h.lt
 have r0:w.cell? ⟨b,o,none⟩=some (.int .i64 x.c):=h.row 0 0 (by decide) (by decide)
 have r1:w.cell? ⟨b,o+1,none⟩=some (.int .i64 x.g):=h.row 0 1 (by decide) (by decide)
 have r2:w.cell? ⟨b,o+2,none⟩=some (.int .i64 x.w):=h.row 0 2 (by decide) (by decide)
 have r3:w.cell? ⟨b,o+3,none⟩=some (.int .i64 x.v):=h.row 0 3 (by decide) (by decide)
 go_enter Tryz.func92,Tryz.ntmps92
 go_wp2
 have h1:LnAt b o (x::l) ((w.alloc (.cells #[.int .i64 0, .int .i64 0, .int .i64 0, .int .i64 0] 97)).alloc (.cells #[.int .i64 x.c, .int .i64 x.g, .int .i64 x.w, .int .i64 x.v] 97)):=(h.alloc _).alloc _
 have hba:Below w.heap.size w ((w.alloc (.cells #[.int .i64 0, .int .i64 0, .int .i64 0, .int .i64 0] 97)).alloc (.cells #[.int .i64 x.c, .int .i64 x.g, .int .i64 x.w, .int .i64 x.v] 97)):=(bRf.alloc nL _).alloc (by simp) _
 obtain⟨y0,y1⟩:=blk2 w (.cells #[.int .i64 0, .int .i64 0, .int .i64 0, .int .i64 0] 97) (.cells #[.int .i64 x.c, .int .i64 x.g, .int .i64 x.w, .int .i64 x.v] 97)
 clear r0 r1 r2 r3
 generalize hw1:(w.alloc (.cells #[.int .i64 0, .int .i64 0, .int .i64 0, .int .i64 0] 97)).alloc (.cells #[.int .i64 x.c, .int .i64 x.g, .int .i64 x.w, .int .i64 x.v] 97)=w1 at*
 clear hw1
 have hn:w1.cell? ⟨b,o+32,none⟩=some (.int .i64 ((l.length:Int)+1)):=by rw[h1.len];simp
 have n1:(1:Int)<=(l.length:Int)+1:=by omega
 have n8:(l.length:Int)+1<=8:=by omega
 have HS:Hid (LnAt b o (x::l) w1):=h1
 clear h h1
 have HSrc:Hid (∀j v,(wtCells l)[j]? =some v->w1.cell? ((⟨b,o+4,none⟩:Addr).add j)=some v):=fun j v hj=>by
  rw[Addr.add_lit];exact HS.out.src j v hj
 have HCc:Hid (∀j,j<(wtCells l).length->(w1.cell? ⟨b,o+j,none⟩).isSome=true):=fun j hj=>by
  rw[wtCells_length] at hj
  have r:=HS.out.row (j / 4) (j % 4) (by omega) (by omega)
  rw[show o+j / 4*4+j % 4=o+j by omega] at r
  rw[r];rfl
 have HCf:Hid (∀j,j<(wtCells l).length->w1.frozen? ⟨b,o+j,none⟩=false):=fun j hj=>by
  rw[wtCells_length] at hj
  exact HS.out.frozen j (by omega)
 have hmin:Nat.min l.length 8=l.length:=Nat.min_eq_left (by omega)
 go_region_law
  (refine step_copy_four _ (by rfl) _ _ _ 97 (by rfl) Tryz.underlying215 stInfo b o 8 8 ⟨b,o+4,none⟩ l.length 7 l.length (wtCells l) (by rfl) (by rfl) hmin (wtCells_length l) (fun j v hj=>HSrc.out j v hj) (fun j hj=>HCc.out j hj) (fun j hj=>HCf.out j hj) wtCells_one ?_)
 have H1:LnAt b o (x::l) w1.drew:=HS.out.drew
 have HT:Hid (LnAt b o l (lnSet ((w1.drew.setCells b o (wtCells l)).setCell ⟨b,o+32,none⟩ (.int .i64 l.length)) b (o+l.length*4) (.int .i64 0) (.int .i64 0) (.int .i64 0) (.int .i64 0))):=H1.take
 have T2:Turns (lnPl b o) w (w1.drew.setCells b o (wtCells l)):=turns_setCells b (wtCells l) o _ (Turns.of_below hba).drew (fun j hj=>⟨rfl,by omega,by rw[wtCells_length] at hj;omega⟩)
 have hout: ∀k p u,w1.cell? ⟨k,p,none⟩=some u->k≠b∨o+l.length*4<=p->(w1.drew.setCells b o (wtCells l)).cell? ⟨k,p,none⟩=some u:=fun k p u hu hp=>by
  rw[World.cell?_setCells_out _ _ _ _ _ (fun e _=>Or.inr (by rw[wtCells_length];rcases hp with hp |hp;exact absurd e hp;exact hp))];exact hu
 have hfr: ∀k p,w1.frozen? ⟨k,p,none⟩=false->(w1.drew.setCells b o (wtCells l)).frozen? ⟨k,p,none⟩=false:=fun k p hu=>by
  rw[World.frozen?_setCells];exact hu
 have c32:(w1.drew.setCells b o (wtCells l)).cell? ⟨b,o+32,none⟩=some (.int .i64 ((l.length:Int)+1)):=hout _ _ _ hn (Or.inr (by omega))
 have g32:(w1.drew.setCells b o (wtCells l)).frozen? ⟨b,o+32,none⟩=false:=hfr _ _ (H1.frozen 32 (by decide))
 have r0:(w1.drew.setCells b o (wtCells l)).cell? ⟨b,o+l.length*4,none⟩=some (.int .i64 (lnCell (x::l) l.length 0)):=hout _ _ _ (H1.row l.length 0 (by omega) (by decide)) (Or.inr (by omega))
 have r1:(w1.drew.setCells b o (wtCells l)).cell? ⟨b,o+l.length*4+1,none⟩=some (.int .i64 (lnCell (x::l) l.length 1)):=hout _ _ _ (H1.row l.length 1 (by omega) (by decide)) (Or.inr (by omega))
 have r2:(w1.drew.setCells b o (wtCells l)).cell? ⟨b,o+l.length*4+2,none⟩=some (.int .i64 (lnCell (x::l) l.length 2)):=hout _ _ _ (H1.row l.length 2 (by omega) (by decide)) (Or.inr (by omega))
 have r3:(w1.drew.setCells b o (wtCells l)).cell? ⟨b,o+l.length*4+3,none⟩=some (.int .i64 (lnCell (x::l) l.length 3)):=hout _ _ _ (H1.row l.length 3 (by omega) (by decide)) (Or.inr (by omega))
 have f0:(w1.drew.setCells b o (wtCells l)).frozen? ⟨b,o+l.length*4,none⟩=false:=hfr _ _ (H1.frozen (l.length*4) (by omega))
 have f1:(w1.drew.setCells b o (wtCells l)).frozen? ⟨b,o+l.length*4+1,none⟩=false:=hfr _ _ (by have:=H1.frozen (l.length*4+1) (by omega);simpa [Nat.add_assoc] using this)
 have f2:(w1.drew.setCells b o (wtCells l)).frozen? ⟨b,o+l.length*4+2,none⟩=false:=hfr _ _ (by have:=H1.frozen (l.length*4+2) (by omega);simpa [Nat.add_assoc] using this)
 have f3:(w1.drew.setCells b o (wtCells l)).frozen? ⟨b,o+l.length*4+3,none⟩=false:=hfr _ _ (by have:=H1.frozen (l.length*4+3) (by omega);simpa [Nat.add_assoc] using this)
 obtain⟨⟨z0,z1,z2,z3⟩,zf⟩:=cells4 y0
 obtain⟨⟨v0,v1,v2,v3⟩,_⟩:=cells4 y1
 replace z0:=hout _ _ _ z0 (Or.inl (Nat.ne_of_gt hl))
 replace z1:=hout _ _ _ z1 (Or.inl (Nat.ne_of_gt hl))
 replace z2:=hout _ _ _ z2 (Or.inl (Nat.ne_of_gt hl))
 replace z3:=hout _ _ _ z3 (Or.inl (Nat.ne_of_gt hl))
 replace v0:=hout _ _ _ v0 (Or.inl (by omega))
 replace v1:=hout _ _ _ v1 (Or.inl (by omega))
 replace v2:=hout _ _ _ v2 (Or.inl (by omega))
 replace v3:=hout _ _ _ v3 (Or.inl (by omega))
 have y0:=hfr _ _ (zf 0)
 have y1:=hfr _ _ (zf 1)
 have y2:=hfr _ _ (zf 2)
 have y3:=hfr _ _ (zf 3)
 have i8:(l.length:Int)<8:=by omega
 clear hout hfr H1 HS HSrc HCc HCf hn zf hba hmin
 generalize w1.drew.setCells b o (wtCells l)=w2 at*
 go_wp2
 go_region
 unfold lnSet at HT
 have hp: ∀k,k<4->lnPl b o b (o+l.length*4+k):=fun k hk=>⟨rfl,by omega,by omega⟩
 have T3:Turns (lnPl b o) w (((((w2.setCell ⟨b,o+32,none⟩ (.int .i64 l.length)).setCell ⟨b,o+l.length*4,none⟩ (.int .i64 0)).setCell ⟨b,o+l.length*4+1,none⟩ (.int .i64 0)).setCell ⟨b,o+l.length*4+2,none⟩ (.int .i64 0)).setCell ⟨b,o+l.length*4+3,none⟩ (.int .i64 0)).drew:=
  (((((T2.setCell _ ⟨rfl,by omega,by omega⟩).setCell _ (hp 0 (by decide))).setCell _ (hp 1 (by decide))).setCell _ (hp 2 (by decide))).setCell _ (hp 3 (by decide))).drew
 have H3:LnAt b o l (((((w2.setCell ⟨b,o+32,none⟩ (.int .i64 l.length)).setCell ⟨b,o+l.length*4,none⟩ (.int .i64 0)).setCell ⟨b,o+l.length*4+1,none⟩ (.int .i64 0)).setCell ⟨b,o+l.length*4+2,none⟩ (.int .i64 0)).setCell ⟨b,o+l.length*4+3,none⟩ (.int .i64 0)).drew:=HT.out.drew
 have hz: ∀k p u,w2.cell? ⟨k,p,none⟩=some u->k≠b->(((((w2.setCell ⟨b,o+32,none⟩ (.int .i64 l.length)).setCell ⟨b,o+l.length*4,none⟩ (.int .i64 0)).setCell ⟨b,o+l.length*4+1,none⟩ (.int .i64 0)).setCell ⟨b,o+l.length*4+2,none⟩ (.int .i64 0)).setCell ⟨b,o+l.length*4+3,none⟩ (.int .i64 0)).drew.cell? ⟨k,p,none⟩=some u:=
  fun k p u hu hk=>by
   rw[World.cell?_drew]
   exact cell_ne (cell_ne (cell_ne (cell_ne (cell_ne hu (Or.inl hk)) (Or.inl hk)) (Or.inl hk)) (Or.inl hk)) (Or.inl hk)
 have hf: ∀k p,w2.frozen? ⟨k,p,none⟩=false->(((((w2.setCell ⟨b,o+32,none⟩ (.int .i64 l.length)).setCell ⟨b,o+l.length*4,none⟩ (.int .i64 0)).setCell ⟨b,o+l.length*4+1,none⟩ (.int .i64 0)).setCell ⟨b,o+l.length*4+2,none⟩ (.int .i64 0)).setCell ⟨b,o+l.length*4+3,none⟩ (.int .i64 0)).drew.frozen? ⟨k,p,none⟩=false:=
  fun k p hu=>by rw[World.frozen?_drew,World.frozen?_setCell,World.frozen?_setCell,World.frozen?_setCell,World.frozen?_setCell,World.frozen?_setCell];exact hu
 have kn:w.heap.size≠b:=by omega
 have km:w.heap.size+1≠b:=by omega
 replace z0:=hz _ _ _ z0 kn
 replace z1:=hz _ _ _ z1 kn
 replace z2:=hz _ _ _ z2 kn
 replace z3:=hz _ _ _ z3 kn
 replace v0:=hz _ _ _ v0 km
 replace v1:=hz _ _ _ v1 km
 replace v2:=hz _ _ _ v2 km
 replace v3:=hz _ _ _ v3 km
 replace y0:=hf _ _ y0
 replace y1:=hf _ _ y1
 replace y2:=hf _ _ y2
 replace y3:=hf _ _ y3
 clear HT hz hf T2 c32 g32 r0 r1 r2 r3 f0 f1 f2 f3
 generalize (((((w2.setCell ⟨b,o+32,none⟩ (.int .i64 l.length)).setCell ⟨b,o+l.length*4,none⟩ (.int .i64 0)).setCell ⟨b,o+l.length*4+1,none⟩ (.int .i64 0)).setCell ⟨b,o+l.length*4+2,none⟩ (.int .i64 0)).setCell ⟨b,o+l.length*4+3,none⟩ (.int .i64 0)).drew=w3 at*
 go_wp2
 refine bodyPost_ret (v:= .agg #[.int .i64 x.c, .int .i64 x.g, .int .i64 x.w, .int .i64 x.v]) (by simp only[results,Tryz.results92];go_simp) rfl ⟨rfl,?_,?_⟩
 ·exact(((H3.apart _ kn).apart _ kn).apart _ kn).apart _ kn
 ·exact(((T3.setNew _ nL).setNew _ nL).setNew _ nL).setNew _ nL
end
end Go.Proofs.YtdpmnlbnlnmjbaaGreatDoor
