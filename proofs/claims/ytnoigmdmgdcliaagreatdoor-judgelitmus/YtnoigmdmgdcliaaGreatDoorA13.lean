import Derived.Test.YtnoigmdmgdcliaaGreatDoorA12
import Derived.Test.YtnoigmdmgdcliaaGreatDoorA09
import Derived.Test.YtnoigmdmgdcliaaGreatDoorA10
import Derived.RegionTactic
import Derived.BigRegion
import Derived.OwnWalk
namespace Go.Proofs.YtnoigmdmgdcliaaGreatDoor
set_option maxRecDepth 100000
set_option maxHeartbeats 8000000
section
open Go.RowKit Go.Extern.Stop Go.Stop Go.Extern Go.Maps Go.WideMaps
variable {l:List Ins}
def errIs(a:Nat->Addr)(f:Nat×Int)(v:Value)(w:World)(B:Nat):Prop:=
 (f.1=0/\v= .nilIface)∨(f.1≠0/\f.2= -1/\v=xval a f.1)∨
 (f.1≠0/\ ∃j N:Nat,f.2=j/\B<=N/\v= .iface 141 (.pointer (some ⟨N,0,none⟩))/\w.cell? ⟨N,0,none⟩=some (.int .i64 j)/\w.cell? ⟨N,1,none⟩=some (xval a f.1))
theorem codeFault_long(h:2000<l.length):codeFault l=(2, -1):=if_pos h
theorem codeFault_none(h: ¬2000<l.length)(h0: ∀k y,l[k]? =some y->insFault l k y=0):codeFault l=(0, -1):=by
 unfold codeFault
 rw[if_neg h]
 exact faultFrom_at l l 0 (fun k y hy=>by simpa using h0 k y hy)
theorem codeFault_hit(h: ¬2000<l.length){j:Nat}{x:Ins}(hx:l[j]? =some x)(hj:insFault l j x≠0)(h0: ∀k y,k<j->l[k]? =some y->insFault l k y=0):codeFault l=(insFault l j x,(j:Int)):=by
 unfold codeFault
 rw[if_neg h]
 have:=faultFrom_hit l l 0 j x hx (by simpa using hj) (fun k y hk hy=>by simpa using h0 k y hk hy)
 simpa using this
theorem insFault_le(l:List Ins)(i:Nat)(x:Ins):insFault l i x<=5:=by
 have:=insErr_le x
 unfold insFault
 repeat' split
 all_goals omega
open Classical in
theorem pcheck_any (a:Nat->Addr) (ad:Option Addr) (cap:Nat) (l:List Ins) (w:World) (hE:EnvE a w) (hsz: ∀(i:Nat) x,l[i]? =some x->x.to.size<=maxLen) (hl:insAt ad l w):
  Calls Tryz.prog 87 #[.slice ad l.length cap] w fun e w'=> ∃v,e= .returned v/\errIs a (codeFault l) v w' w.heap.size/\Below w.heap.size w w':=by
 by_cases hlong:2000<l.length
 ·have hi:2000<(l.length:Int):=by omega
  have E:=hE.err 1 (by decide)
  simp only[xid] at E
  go_enter Tryz.func87,Tryz.ntmps87
  go_wp2_with fail
  go_ret
  refine⟨_,rfl,?_,Below.refl _ _⟩
  rw[codeFault_long hlong]
  exact .inr (.inl ⟨by decide,rfl,rfl⟩)
 have hi: ¬2000<(l.length:Int):=by omega
 have HL:=hide hl
 have HLa:Hid (∀w',insAt ad l w'->Calls Tryz.prog 90 #[.slice ad l.length cap] w' fun e w''=>e= .returned (.map (some w'.heap.size))/\w''.ownsMap Tryz.prog 9 (plainElem Tryz.prog 3) w'.heap.size l.length (setD l l.length)/\Below w'.heap.size w' w''):=fun w' h=>labels_any ad cap l w' (by omega) hsz h
 clear hl
 go_enter Tryz.func87,Tryz.ntmps87
 go_wp2_with fail
 refine(HLa.out _ HL.out).mono ?_
 rintro e w1 ⟨rfl,hown,hb1⟩
 clear HLa
 go_wp2_with fail
 go_loopw [4,5,6,15] (fun _ _ _ i wr=> ∃j:Nat,j<=l.length/\i= .int .i64 j/\Below w1.heap.size w1 wr/\Hid (∀k y,k<j->l[k]? =some y->insFault l k y=0)) (fun _ _ _ i _=>l.length - (intOf i).toNat)
 case atStart=>exact⟨0,Nat.zero_le _,rfl,Below.refl _ _,fun k y h=>absurd h (Nat.not_lt_zero _)⟩
 case round=>
  obtain⟨j,hj,rfl,hB,HJ⟩:=hrel
  have B:=below_step hb1 hB
  by_cases hlt:j<l.length
  ·obtain ⟨x,hx⟩: ∃x,l[j]? =some x:=⟨_,List.getElem?_eq_getElem hlt⟩
   obtain⟨b,off,rfl,a0,a1,a2,a3,a4⟩:=insAt_below HL.out B j x hx
   have ji:(j:Int)<l.length:=by omega
   have hownr:=hown.kept (w':=wr) (row:=none) ⟨hB.os,hB.tape,hB.output,hB.size,fun i hi _=>hB.block i hi⟩ (by simp)
   have HC:Hid (∀w',EnvE a w'->w'.ownsMap Tryz.prog 9 (plainElem Tryz.prog 3) w.heap.size l.length (setD l l.length)->Calls Tryz.prog 161 #[.agg #[.string x.op, .int .i64 x.a, .int .i64 x.b, .int .i64 x.c, .string x.to], .int .i64 j, .map (some w.heap.size)] w' fun e w''=>e= .returned (xval a (insFault l j x))/\Below w'.heap.size w' w''):=fun w' hE' ho=>check_any a l j x w.heap.size w' hx hE' (hsz j x hx) ho
   have EN:=hide (hE.below B)
   have HX:Hid (insFault l j x=0-> ∀k y,k<j+1->l[k]? =some y->insFault l k y=0):=fun h k y hk hy=>by
    by_cases e:k=j
    ·subst e;rw[hx] at hy;cases hy;exact h
    ·exact HJ.out k y (by omega) hy
   have HY:Hid (insFault l j x≠0->codeFault l=(insFault l j x,(j:Int))):=fun h=>codeFault_hit hlong hx h HJ.out
   have HZ:=hide (insFault_le l j x)
   have hba:Below wr.heap.size wr (wr.alloc (.cells #[.string x.op, .int .i64 x.a, .int .i64 x.b, .int .i64 x.c, .string x.to] 57)):=bRf.alloc nL _
   have B1:=below_step hB hba
   have hownb:=hide (hownr.alloc (.cells #[.string x.op, .int .i64 x.a, .int .i64 x.b, .int .i64 x.c, .string x.to] 57))
   have ENb:=hide (EN.out.below hba)
   clear hx HJ hownr EN
   generalize insFault l j x=n at*
   go_wp2_with fail
   refine(HC.out _ ENb.out hownb.out).mono ?_
   rintro e w2 ⟨rfl,hb2⟩
   have B2:=below_step B1 hb2
   clear HC ENb hownb hba B1
   cases n with
   | zero=>
    have HX':=hide (HX.out rfl)
    clear HX HY
    rw[show xval a 0= .nilIface from rfl]
    go_wp2_with fail
    go_roundw
    case rel=>exact⟨j+1,by omega,by go_num,B2,HX'⟩
    case measure=>simp[intOf];omega
   | succ n=>
    have HY':=hide (HY.out (by omega))
    clear HX HY
    rw[show xval a (n+1)=xerr (a n) from rfl]
    go_wp2_with fail
    go_ret
    have B3:=below_step hb1 B2
    refine⟨_,rfl,?_,B3.alloc B3.size _⟩
    rw[HY'.out]
    exact .inr (.inr ⟨Nat.succ_ne_zero _,j,w2.heap.size,rfl,B3.size,rfl,by simp,by simp;rfl⟩)
  ·have HZ:=hide (codeFault_none hlong (fun k y hy=>HJ.out k y (by have:=(List.getElem?_eq_some_iff.1 hy).1;omega) hy))
   obtain rfl:j=l.length:=by omega
   clear HJ
   go_wp2_with fail
   go_ret
   exact⟨_,rfl,by rw[HZ.out];exact .inl ⟨rfl,rfl⟩,B⟩
end
section
open Go.RowKit Go.Maps Go.WideMaps
variable {cs:List (List Ins)} {a:Nat->Addr} {w:World} {m:Mk} {pb pc B:Nat} {S:Nat->Nat->Prop} {v:Value}
def markCell(x:Nat×Int):List Value:=[.int .i64 x.1, .int .i64 x.2]
def markCells(l:List (Nat×Int)):List Value:=l.flatMap markCell
theorem markCells_length(l:List (Nat×Int)):(markCells l).length=l.length*2:=by
 induction l with
 |nil=>rfl
 | cons x l ih=>
  show(markCell x++markCells l).length=_
  rw[List.length_append,ih,List.length_cons]
  show 2+_=_
  omega
theorem markCells_append(l:List (Nat×Int))(x:Nat×Int):markCells (l++[x])=markCells l++markCell x:=by simp[markCells]
structure Pg(a:Nat->Addr)(cs:List (List Ins))(pb pc:Nat)(W:World):Prop where
 env:Env a W
 cap:cs.length<=pc
 code : ∀(t:Nat) L,cs[t]? =some L-> ∃ad cap lb,W.cell? ⟨pb,t*2,none⟩=some (.slice ad L.length cap)/\L.length<=cap/\W.cell? ⟨pb,t*2+1,none⟩=some (.map (some lb))/\insAt ad L W/\
  W.ownsMap Tryz.prog 9 (plainElem Tryz.prog 3) lb L.length (setD L L.length)
 right: ∀(t:Nat) L,cs[t]? =some L->L.length<=2000/\ ∀(i:Nat) x,L[i]? =some x->InsOk L x/\x.to.size<=maxLen
 few:cs.length<=6
theorem ownsMap_below{H:Type}{P:Program}{k:TypeId}{R:Value->Option (DataW H×List MemPlace)}{w w':World}{b n:Nat}{D:DataW H}(h:w.ownsMap P k R b n D)(hb:Below w.heap.size w w'):w'.ownsMap P k R b n D:=by
 have hl:=h.lt
 obtain⟨es,clock,h1,F,hs,hD⟩:=h
 exact⟨es,clock,by rw[hb.block b hl];exact h1,F,hs,hD⟩
theorem Pg.below{pb pc:Nat}{W w:World}(h:Pg a cs pb pc W)(hb:Below W.heap.size W w):Pg a cs pb pc w where
 env:=h.env.below hb.block
 cap:=h.cap
 code t L ht:=by
  obtain⟨ad,cap,lb,h1,h2,h3,h4,h5⟩:=h.code t L ht
  exact⟨ad,cap,lb,keep_cell hb h1,h2,keep_cell hb h3,insAt_below h4 hb,ownsMap_below h5 hb⟩
 right:=h.right
 few:=h.few
structure PgB(a:Nat->Addr)(cs:List (List Ins))(pb pc B:Nat)(w:World):Prop where
 ex: ∃W,Pg a cs pb pc W/\W.heap.size=B/\Below B W w
theorem PgB.pg(h:PgB a cs pb pc B w):Pg a cs pb pc w:=by
 obtain⟨W,h1,rfl,h3⟩:=h.ex
 exact h1.below h3
theorem PgB.envB(h:PgB a cs pb pc B w):EnvB a B w:=by
 obtain⟨W,h1,h2,h3⟩:=h.ex
 exact⟨W,h1.env.toM,h2,h3⟩
theorem PgB.size(h:PgB a cs pb pc B w):B<=w.heap.size:=h.envB.size
theorem PgB.turns{w w':World}(h:PgB a cs pb pc B w)(t:Turns S w w')(hS: ∀k o,S k o->B<=k):PgB a cs pb pc B w':=by
 obtain⟨W,h1,rfl,h3⟩:=h.ex
 exact⟨W,h1,rfl,h3.trans (t.below h3.size (fun k o hk hs=>by have:=hS k o hs;omega))⟩
structure MkPl where
 B:Nat
 b:Nat
 pb:Nat
 pc:Nat
 mv:Value
def MkPl.marked(p:MkPl)(v:Value):MkPl:={ p with mv:=v }
def MkPl.fp(p:MkPl)(k:Nat):Prop:=k=p.b∨p.mv.ownBlock=some k
structure MkAt(a:Nat->Addr)(cs:List (List Ins))(p:MkPl)(m:Mk)(w:World):Prop where
 pg:PgB a cs p.pb p.pc p.B w
 mem:MmAt p.b m.mem w
 thr:m.mem.threads=cs.length
 prog:w.cell? ⟨p.b,584,none⟩=some (.slice (some ⟨p.pb,0,none⟩) cs.length p.pc)
 reg: ∀t r,t<6->r<8->w.cell? ⟨p.b,585+t*9+r,none⟩=some (.int .i64 (m.regs t r))
 pc: ∀t,t<6->w.cell? ⟨p.b,585+t*9+8,none⟩=some (.int .i64 (m.pc t))
 marks:w.cell? ⟨p.b,639,none⟩=some p.mv
 own:w.ownsRow 0 246 2 p.mv m.marks.length (markCells m.marks)
 faults:w.cell? ⟨p.b,640,none⟩=some (.int .i64 m.faults)
 frozen: ∀o,584<=o->o<641->w.frozen? ⟨p.b,o,none⟩=false
 ne: ∀k,p.mv.ownBlock=some k->k≠p.b/\p.B<=k
 hB:p.B<=p.b
theorem MkAt.lt{p:MkPl}(h:MkAt a cs p m w):p.b<w.heap.size:=bLt h.prog
theorem MkAt.fp_lt{p:MkPl}(h:MkAt a cs p m w){k:Nat}(hk:p.fp k):k<w.heap.size:=by
 rcases hk with rfl |hk
 ·exact h.lt
 ·exact(h.own.lt k hk).2
theorem MkAt.fp_ge{p:MkPl}(h:MkAt a cs p m w){k:Nat}(hk:p.fp k):p.B<=k:=by
 rcases hk with rfl |hk
 ·exact h.hB
 ·exact(h.ne k hk).2
theorem MkAt.few{p:MkPl}(h:MkAt a cs p m w):cs.length<=6:=h.pg.pg.few
theorem MkAt.turns{p:MkPl}{w w':World}(h:MkAt a cs p m w)(t:Turns S w w')(hS: ∀k o,S k o-> ¬p.fp k)(hB: ∀k o,S k o->p.B<=k):MkAt a cs p m w' where
 pg:=h.pg.turns t hB
 mem:=h.mem.turns t (fun o _ hs=>hS _ _ hs (Or.inl rfl))
 thr:=h.thr
 prog:=t.keep h.prog (fun hs=>hS _ _ hs (Or.inl rfl))
 reg i r hi hr:=t.keep (h.reg i r hi hr) (fun hs=>hS _ _ hs (Or.inl rfl))
 pc i hi:=t.keep (h.pc i hi) (fun hs=>hS _ _ hs (Or.inl rfl))
 marks:=t.keep h.marks (fun hs=>hS _ _ hs (Or.inl rfl))
 own:=ownsRow_block h.own fun k hk=>t.block k (h.own.lt k hk).2 (fun o hs=>hS _ _ hs (Or.inr hk))
 faults:=t.keep h.faults (fun hs=>hS _ _ hs (Or.inl rfl))
 frozen o h1 h2:=by rw[t.frozen _ _ h.lt (fun hs=>hS _ _ hs (Or.inl rfl))];exact h.frozen o h1 h2
 ne:=h.ne
 hB:=h.hB
theorem MkAt.below{p:MkPl}{w w':World}(h:MkAt a cs p m w)(hb:Below w.heap.size w w'):MkAt a cs p m w':=
 h.turns (Turns.of_below (S:=fun _ _=>False) hb) (fun _ _ h=>h.elim) (fun _ _ h=>h.elim)
theorem MkAt.alloc{p:MkPl}(h:MkAt a cs p m w)(o:Obj):MkAt a cs p m (w.alloc o):=h.below (bRf.alloc nL _)
theorem MkAt.drewN{p:MkPl}(h:MkAt a cs p m w)(n:Nat):MkAt a cs p m (w.drewN n):=h.below (Below.drewN' n)
structure MkStep(a:Nat->Addr)(cs:List (List Ins))(p:MkPl)(w:World)(v:Value)(m':Mk)(w':World):Prop where
 at':MkAt a cs (p.marked v) m' w'
 turns:Turns (fun k _=>p.fp k) w w'
 fp: ∀k,v.ownBlock=some k->p.mv.ownBlock=some k∨w.heap.size<=k
theorem MkStep.refl{p:MkPl}(h:MkAt a cs p m w):MkStep a cs p w p.mv m w:=⟨h,Turns.refl _ _,fun _ h=>Or.inl h⟩
theorem MkStep.of_below'{p:MkPl}{w w':World}(h:MkAt a cs p m w)(k:Below w.heap.size w w'):MkStep a cs p w p.mv m w':=⟨h.below k,Turns.of_below k,fun _ h=>Or.inl h⟩
theorem MkStep.below{p:MkPl}{w w' w2:World}(h:MkStep a cs p w v m w')(k:Below w'.heap.size w' w2):MkStep a cs p w v m w2:=⟨h.at'.below k,h.turns.trans (Turns.of_below k),h.fp⟩
theorem MkStep.of_below{p:MkPl}{w0 w w':World}(k:Below w0.heap.size w0 w)(h:MkStep a cs p w v m w'):MkStep a cs p w0 v m w':=
 ⟨h.at',(Turns.of_below k).trans h.turns,fun i hi=>(h.fp i hi).imp id (fun e=>Nat.le_trans k.size e)⟩
theorem MkStep.trans {p:MkPl} {v v2:Value} {m m2:Mk} {w w' w2:World} (h:MkStep a cs p w v m w') (k:MkStep a cs (p.marked v) w' v2 m2 w2):MkStep a cs p w v2 m2 w2 where
 at':=k.at'
 turns :=⟨k.turns.os.trans h.turns.os,k.turns.tape.trans h.turns.tape,k.turns.output.trans h.turns.output,Nat.le_trans h.turns.size k.turns.size,
  fun i hi ho=>(k.turns.block i (Nat.lt_of_lt_of_le hi h.turns.size) (fun o hs=>by
   rcases hs with e |e
   ·exact ho o (Or.inl e)
   ·rcases h.fp i e with e |e
    ·exact ho o (Or.inr e)
    ·omega)).trans (h.turns.block i hi ho),
  fun i o hi ho=>(k.turns.cell i o (Nat.lt_of_lt_of_le hi h.turns.size) (fun hs=>by
   rcases hs with e |e
   ·exact ho (Or.inl e)
   ·rcases h.fp i e with e |e
    ·exact ho (Or.inr e)
    ·omega)).trans (h.turns.cell i o hi ho),
  fun i o hi ho=>(k.turns.frozen i o (Nat.lt_of_lt_of_le hi h.turns.size) (fun hs=>by
   rcases hs with e |e
   ·exact ho (Or.inl e)
   ·rcases h.fp i e with e |e
    ·exact ho (Or.inr e)
    ·omega)).trans (h.turns.frozen i o hi ho)⟩
 fp i hi:=by
  rcases k.fp i hi with e |e
  ·exact h.fp i e
  ·exact Or.inr (Nat.le_trans h.turns.size e)
theorem MkAt.setReg {p:MkPl} (h:MkAt a cs p m w) {t r:Nat} (ht:t<6) (hr:r<8) (v:Int):MkStep a cs p w p.mv (m.setReg t r v) (w.setCell ⟨p.b,585+t*9+r,none⟩ (.int .i64 v)) where
 at' :=by
  have T:Turns (fun k o=>k=p.b/\o=585+t*9+r) w (w.setCell ⟨p.b,585+t*9+r,none⟩ (.int .i64 v)):=(Turns.refl _ _).setCell _ ⟨rfl,rfl⟩
  exact ⟨h.pg.turns T (fun k _ e=>by rw[e.1];exact h.hB),h.mem.turns T (fun o ho e=>by have:=e.2;omega),h.thr,cell_ne h.prog (Or.inr (by omega)),
   fun i k hi hk=>by
    simp only[Mk.setReg]
    by_cases e:i=t/\k=r
    ·rw[if_pos e,e.1,e.2]
     exact World.cell?_setCell_same _ _ _ (h.reg t r ht hr)
    ·rw[if_neg e]
     exact cell_ne (h.reg i k hi hk) (Or.inr (by omega)),
   fun i hi=>cell_ne (h.pc i hi) (Or.inr (by omega)),cell_ne h.marks (Or.inr (by omega)),
   ownsRow_block h.own fun k hk=>Below.heap_setCell _ _ _ _ (h.ne k hk).1,
   cell_ne h.faults (Or.inr (by omega)),fun o h1 h2=>by rw[World.frozen?_setCell];exact h.frozen o h1 h2,h.ne,h.hB⟩
 turns:=(Turns.refl _ _).setCell _ (Or.inl rfl)
 fp _ h:=Or.inl h
theorem MkAt.setPc {p:MkPl} (h:MkAt a cs p m w) {t:Nat} (ht:t<6) (n:Nat):MkStep a cs p w p.mv (m.setPc t n) (w.setCell ⟨p.b,585+t*9+8,none⟩ (.int .i64 n)) where
 at' :=by
  have T:Turns (fun k o=>k=p.b/\o=585+t*9+8) w (w.setCell ⟨p.b,585+t*9+8,none⟩ (.int .i64 n)):=(Turns.refl _ _).setCell _ ⟨rfl,rfl⟩
  exact ⟨h.pg.turns T (fun k _ e=>by rw[e.1];exact h.hB),h.mem.turns T (fun o ho e=>by have:=e.2;omega),h.thr,cell_ne h.prog (Or.inr (by omega)),
   fun i k hi hk=>cell_ne (h.reg i k hi hk) (Or.inr (by omega)),
   fun i hi=>by
    simp only[Mk.setPc]
    by_cases e:i=t
    ·rw[if_pos e,e]
     exact World.cell?_setCell_same _ _ _ (h.pc t ht)
    ·rw[if_neg e]
     exact cell_ne (h.pc i hi) (Or.inr (by omega)),cell_ne h.marks (Or.inr (by omega)),
   ownsRow_block h.own fun k hk=>Below.heap_setCell _ _ _ _ (h.ne k hk).1,
   cell_ne h.faults (Or.inr (by omega)),fun o h1 h2=>by rw[World.frozen?_setCell];exact h.frozen o h1 h2,h.ne,h.hB⟩
 turns:=(Turns.refl _ _).setCell _ (Or.inl rfl)
 fp _ h:=Or.inl h
theorem MkAt.addFault {p:MkPl} (h:MkAt a cs p m w) (n:Nat):MkStep a cs p w p.mv (m.addFault n) (w.setCell ⟨p.b,640,none⟩ (.int .i64 ((m.faults+n:Nat):Int))) where
 at' :=by
  have T:Turns (fun k o=>k=p.b/\o=640) w (w.setCell ⟨p.b,640,none⟩ (.int .i64 ((m.faults+n:Nat):Int))):=(Turns.refl _ _).setCell _ ⟨rfl,rfl⟩
  exact ⟨h.pg.turns T (fun k _ e=>by rw[e.1];exact h.hB),h.mem.turns T (fun o ho e=>by have:=e.2;omega),h.thr,cell_ne h.prog (Or.inr (by omega)),
   fun i k hi hk=>cell_ne (h.reg i k hi hk) (Or.inr (by omega)),fun i hi=>cell_ne (h.pc i hi) (Or.inr (by omega)),cell_ne h.marks (Or.inr (by omega)),
   ownsRow_block h.own fun k hk=>Below.heap_setCell _ _ _ _ (h.ne k hk).1,
   World.cell?_setCell_same _ _ _ h.faults,fun o h1 h2=>by rw[World.frozen?_setCell];exact h.frozen o h1 h2,h.ne,h.hB⟩
 turns:=(Turns.refl _ _).setCell _ (Or.inl rfl)
 fp _ h:=Or.inl h
theorem MkAt.ofMem{p:MkPl}{s:Rm}{w w':World}(h:MkAt a cs p m w)(k:MmStep p.b w s w')(ht:s.threads=m.mem.threads):MkStep a cs p w p.mv (m.setMem s) w' where
 at' :=⟨h.pg.turns k.turns (fun i _ e=>by rw[e.1];exact h.hB),k.at',ht.trans h.thr,k.turns.keep h.prog (fun e=>by have:=e.2;omega),
  fun i r hi hr=>k.turns.keep (h.reg i r hi hr) (fun e=>by have:=e.2;omega),fun i hi=>k.turns.keep (h.pc i hi) (fun e=>by have:=e.2;omega),k.turns.keep h.marks (fun e=>by have:=e.2;omega),
  ownsRow_block h.own fun i hi=>k.turns.block i (h.own.lt i hi).2 (fun o e=>(h.ne i hi).1 e.1),
  k.turns.keep h.faults (fun e=>by have:=e.2;omega),fun o h1 h2=>(k.turns.frozen p.b o h.lt (fun e=>by have:=e.2;omega)).trans (h.frozen o h1 h2),h.ne,h.hB⟩
 turns:=k.turns.mono fun i _ _ e=>Or.inl e.1
 fp _ h:=Or.inl h
end
section
open Go.RowKit
variable {x:Ins}
theorem exec_const(m:Mk)(L:List Ins)(t:Nat)(h:x.op=⟨#[99,111,110,115,116]⟩):m.exec L t x=m.setReg t x.a.toNat x.b:=by
 unfold Mk.exec
 rw[h,toList_bl]
 rfl
theorem exec_move(m:Mk)(L:List Ins)(t:Nat)(h:x.op=⟨#[109,111,118,101]⟩):m.exec L t x=m.setReg t x.a.toNat (m.regs t x.b.toNat):=by
 unfold Mk.exec
 rw[h,toList_bl]
 rfl
theorem exec_add(m:Mk)(L:List Ins)(t:Nat)(h:x.op=⟨#[97,100,100]⟩):m.exec L t x=m.setReg t x.a.toNat ((m.regs t x.b.toNat+m.regs t x.c.toNat) % 4294967296):=by
 unfold Mk.exec
 rw[h,toList_bl]
 rfl
theorem exec_sub(m:Mk)(L:List Ins)(t:Nat)(h:x.op=⟨#[115,117,98]⟩):m.exec L t x=m.setReg t x.a.toNat ((m.regs t x.b.toNat - m.regs t x.c.toNat) % 4294967296):=by
 unfold Mk.exec
 rw[h,toList_bl]
 rfl
theorem exec_and(m:Mk)(L:List Ins)(t:Nat)(h:x.op=⟨#[97,110,100]⟩):m.exec L t x=m.setReg t x.a.toNat (andW (m.regs t x.b.toNat) (m.regs t x.c.toNat)):=by
 unfold Mk.exec
 rw[h,toList_bl]
 rfl
theorem exec_xor(m:Mk)(L:List Ins)(t:Nat)(h:x.op=⟨#[120,111,114]⟩):m.exec L t x=m.setReg t x.a.toNat (xorW (m.regs t x.b.toNat) (m.regs t x.c.toNat)):=by
 unfold Mk.exec
 rw[h,toList_bl]
 rfl
theorem exec_load(m:Mk)(L:List Ins)(t:Nat)(h:x.op=⟨#[108,111,97,100]⟩):m.exec L t x=m.load t x.a.toNat (m.regs t x.b.toNat) x.c:=by
 unfold Mk.exec
 rw[h,toList_bl]
 rfl
theorem exec_store(m:Mk)(L:List Ins)(t:Nat)(h:x.op=⟨#[115,116,111,114,101]⟩):m.exec L t x=m.store t (m.regs t x.a.toNat) x.c (m.regs t x.b.toNat):=by
 unfold Mk.exec
 rw[h,toList_bl]
 rfl
theorem exec_swap(m:Mk)(L:List Ins)(t:Nat)(h:x.op=⟨#[115,119,97,112]⟩):m.exec L t x=m.swap t x.a.toNat (m.regs t x.b.toNat) x.c (m.regs t x.a.toNat):=by
 unfold Mk.exec
 rw[h,toList_bl]
 rfl
theorem exec_cas(m:Mk)(L:List Ins)(t:Nat)(h:x.op=⟨#[99,97,115]⟩):m.exec L t x=m.cas t x.b.toNat (m.regs t x.a.toNat) x.c (m.regs t x.b.toNat) (m.regs t (x.b.toNat+1)):=by
 unfold Mk.exec
 rw[h,toList_bl]
 rfl
theorem exec_alloc(m:Mk)(L:List Ins)(t:Nat)(h:x.op=⟨#[97,108,108,111,99]⟩):m.exec L t x=m.alloc t x.a.toNat:=by
 unfold Mk.exec
 rw[h,toList_bl]
 rfl
theorem exec_free(m:Mk)(L:List Ins)(t:Nat)(h:x.op=⟨#[102,114,101,101]⟩):m.exec L t x=m.free t (m.regs t x.a.toNat):=by
 unfold Mk.exec
 rw[h,toList_bl]
 rfl
theorem exec_mark(m:Mk)(L:List Ins)(t:Nat)(h:x.op=⟨#[109,97,114,107]⟩):m.exec L t x=m.mark t (m.regs t x.a.toNat):=by
 unfold Mk.exec
 rw[h,toList_bl]
 rfl
theorem exec_need(m:Mk)(L:List Ins)(t:Nat)(h:x.op=⟨#[110,101,101,100]⟩):m.exec L t x=m.need (m.regs t x.a.toNat):=by
 unfold Mk.exec
 rw[h,toList_bl]
 rfl
theorem exec_fence(m:Mk)(L:List Ins)(t:Nat)(h:x.op=⟨#[102,101,110,99,101]⟩):m.exec L t x=m.fence t:=by
 unfold Mk.exec
 rw[h,toList_bl]
 rfl
theorem exec_force(m:Mk)(L:List Ins)(t:Nat)(h:x.op=⟨#[102,111,114,99,101]⟩):m.exec L t x=m.fenceFrom 0 m.mem.threads:=by
 unfold Mk.exec
 rw[h,toList_bl]
 rfl
theorem exec_stop(m:Mk)(L:List Ins)(t:Nat)(h:x.op=⟨#[115,116,111,112]⟩):m.exec L t x=m:=by
 unfold Mk.exec
 rw[h,toList_bl]
 rfl
theorem exec_zero(m:Mk)(L:List Ins)(t:Nat)(h:x.op=⟨#[122,101,114,111]⟩):m.exec L t x=if m.regs t x.a.toNat=0 then m.jump t L x.to else m:=by
 unfold Mk.exec
 rw[h,toList_bl]
 rfl
theorem exec_same(m:Mk)(L:List Ins)(t:Nat)(h:x.op=⟨#[115,97,109,101]⟩):m.exec L t x=if m.regs t x.a.toNat=m.regs t x.b.toNat then m.jump t L x.to else m:=by
 unfold Mk.exec
 rw[h,toList_bl]
 rfl
theorem exec_goto(m:Mk)(L:List Ins)(t:Nat)(h:x.op=⟨#[103,111,116,111]⟩):m.exec L t x=m.jump t L x.to:=by
 unfold Mk.exec
 rw[h,toList_bl]
 rfl
theorem exec_label(m:Mk)(L:List Ins)(t:Nat)(h:x.op=⟨#[108,97,98,101,108]⟩):m.exec L t x=m:=by
 unfold Mk.exec
 rw[h,toList_bl]
 rfl
theorem MkOk.exec{N K:Nat}{m:Mk}(h0:MkOk N K m){L:List Ins}{t:Nat}(hx:InsOk L x)(ht:t<N)(hL:L.length<=2000)(hK:K<=60000000):MkOk N (K+1) (m.exec L t x):=by
 have h:=h0.in
 have hN:N<=6:=by have:=h.thr;have:=h.mem.thr;omega
 have k1:K<=K+1:=Nat.le_succ _
 rcases kinds hx with⟨e,⟨i0,l0,g0⟩,hv⟩ |⟨e,⟨i0,l0,g0⟩,⟨i1,l1,g1⟩⟩ |⟨e,⟨i0,l0,g0⟩,⟨i1,l1,g1⟩,⟨i2,l2,g2⟩⟩ |⟨e,⟨i0,l0,g0⟩,⟨i1,l1,g1⟩,⟨i2,l2,g2⟩⟩ |⟨e,⟨i0,l0,g0⟩,⟨i1,l1,g1⟩,⟨i2,l2,g2⟩⟩ |⟨e,⟨i0,l0,g0⟩,⟨i1,l1,g1⟩,⟨i2,l2,g2⟩⟩ |⟨e,⟨i0,l0,g0⟩,⟨i1,l1,g1⟩,⟨i2,l2,g2⟩⟩ |⟨e,⟨i0,l0,g0⟩,⟨i1,l1,g1⟩,⟨i2,l2,g2⟩⟩ |⟨e,⟨i0,l0,g0⟩,⟨i1,l1,g1⟩,⟨i2,l2,g2⟩⟩ |⟨e,⟨i0,l0,g0⟩,⟨i1,l1,g1⟩,⟨i2,l2,g2⟩⟩ |⟨e,⟨i0,l0,g0⟩⟩ |⟨e,⟨i0,l0,g0⟩⟩ |⟨e,⟨i0,l0,g0⟩⟩ |⟨e,⟨i0,l0,g0⟩⟩ |e |e |e |⟨e,⟨i0,l0,g0⟩, -⟩ |⟨e,⟨i0,l0,g0⟩,⟨i1,l1,g1⟩, -⟩ |⟨e, -⟩ |⟨e, -⟩
 ·rw[exec_const m L t e];exact(show MkIn N (K+1) (64*K) _ from(h.mono (Nat.le_succ _) nL).setReg _ _ hv).out nL (by omega)
 ·rw[exec_move m L t e];exact(show MkIn N (K+1) (64*K) _ from(h.mono (Nat.le_succ _) nL).setReg _ _ (h.regs _ _)).out nL (by omega)
 ·rw[exec_add m L t e];exact(show MkIn N (K+1) (64*K) _ from(h.mono (Nat.le_succ _) nL).setReg _ _ (Wd.mod _)).out nL (by omega)
 ·rw[exec_sub m L t e];exact(show MkIn N (K+1) (64*K) _ from(h.mono (Nat.le_succ _) nL).setReg _ _ (Wd.mod _)).out nL (by omega)
 ·rw[exec_and m L t e];exact(show MkIn N (K+1) (64*K) _ from(h.mono (Nat.le_succ _) nL).setReg _ _ ((h.regs _ _).and (h.regs _ _))).out nL (by omega)
 ·rw[exec_xor m L t e];exact(show MkIn N (K+1) (64*K) _ from(h.mono (Nat.le_succ _) nL).setReg _ _ ((h.regs _ _).xor (h.regs _ _))).out nL (by omega)
 ·rw[exec_load m L t e];exact(h.load ht _ _ _).out k1 (by omega)
 ·rw[exec_store m L t e];exact(h.store ht _ (by omega) (h.regs _ _)).out k1 (by omega)
 ·rw[exec_swap m L t e];exact(h.swap ht _ _ _ (h.regs _ _)).out k1 (by omega)
 ·rw[exec_cas m L t e];exact(h.cas ht _ _ _ _ (h.regs _ _)).out k1 (by omega)
 ·rw[exec_alloc m L t e];exact(h.alloc t _ hK).out nL (by omega)
 ·rw[exec_free m L t e];exact(h.free ht _).out k1 (by omega)
 ·rw[exec_mark m L t e];exact(h.mark t _).out k1 (by omega)
 ·rw[exec_need m L t e];exact(h.need _).out k1 (by omega)
 ·rw[exec_fence m L t e];exact(h.fence ht).out k1 (by omega)
 ·rw[exec_force m L t e];exact(MkIn.fenceFrom m.mem.threads (t:=0) h (by have:=h.thr;omega)).out k1 (by have:=h.thr;omega)
 ·rw[exec_stop m L t e];exact h.out k1 (by omega)
 ·rw[exec_zero m L t e]
  split
  ·exact(h.jump t x.to hL).out k1 (by omega)
  ·exact h.out k1 (by omega)
 ·rw[exec_same m L t e]
  split
  ·exact(h.jump t x.to hL).out k1 (by omega)
  ·exact h.out k1 (by omega)
 ·rw[exec_goto m L t e];exact(h.jump t x.to hL).out k1 (by omega)
 ·rw[exec_label m L t e];exact h.out k1 (by omega)
end
section
open Go.RowKit Go.Extern.Stop Go.Stop Go.Extern Go.Maps Go.WideMaps
variable {cs:List (List Ins)} {a:Nat->Addr} {w:World} {p:MkPl} {m:Mk} {to:ByteArray} {L:List Ins}
theorem khas_any (t:Int) (h:MkAt a cs p m w):
  Calls Tryz.prog 148 #[.pointer (some ⟨p.b,0,none⟩), .int .i64 t] w fun e w'=>e= .returned (.bool (decide (0<=t/\t<cs.length)))/\w'=w:=by
 have hn:=h.prog
 have hf:=h.few
 clear h
 by_cases h0:0<=t
 ·by_cases h1:t<cs.length
  ·rw[decide_eq_true ⟨h0,h1⟩]
   go_enter Tryz.func148,Tryz.ntmps148
   go_wp2
   go_ret
   exact⟨rfl,rfl⟩
  ·rw[decide_eq_false (fun e=>h1 e.2)]
   go_enter Tryz.func148,Tryz.ntmps148
   go_wp2
   go_ret
   exact⟨rfl,rfl⟩
 ·rw[decide_eq_false (fun e=>h0 e.1)]
  go_enter Tryz.func148,Tryz.ntmps148
  go_wp2
  go_ret
  exact⟨rfl,rfl⟩
theorem khas_yes{t:Nat}(ht:t<cs.length)(h:MkAt a cs p m w):
  Calls Tryz.prog 148 #[.pointer (some ⟨p.b,0,none⟩), .int .i64 t] w fun e w'=>e= .returned (.bool true)/\w'=w:=
 (khas_any t h).mono fun _ _ ⟨h1,h2⟩=>⟨by rw[h1,decide_eq_true (by omega)],h2⟩
theorem khas_no{t:Int}(ht: ¬(0<=t/\t<cs.length))(h:MkAt a cs p m w):
  Calls Tryz.prog 148 #[.pointer (some ⟨p.b,0,none⟩), .int .i64 t] w fun e w'=>e= .returned (.bool false)/\w'=w:=
 (khas_any t h).mono fun _ _ ⟨h1,h2⟩=>⟨by rw[h1,decide_eq_false ht],h2⟩
theorem and_mask(n:Int):bits .and .i64 n 4294967295=n % 4294967296:=by
 have h1:(BitVec.ofInt 64 4294967295).toNat=2 ^ 32 - 1:=by decide
 have key:(BitVec.ofInt 64 n&&& BitVec.ofInt 64 4294967295).toNat=(n % ((2 ^ 64:Nat):Int)).toNat % 2 ^ 32:=by
  rw[BitVec.toNat_and,BitVec.toNat_ofInt,h1,Nat.and_two_pow_sub_one_eq_mod]
 show IntKind.i64.wrap ((BitVec.ofInt 64 n&&& BitVec.ofInt 64 4294967295).toNat:Nat)=n % 4294967296
 rw[key,IntKind.wrap_i64]
 omega
theorem ofInt_word{n:Int}(h:Wd n):(BitVec.ofInt 64 n).toNat=n.toNat:=by
 rw[BitVec.toNat_ofInt]
 have:=h.1
 have:=h.2
 omega
theorem and_word{a b:Int}(ha:Wd a)(hb:Wd b):bits .and .i64 a b=andW a b:=by
 show IntKind.i64.wrap ((BitVec.ofInt 64 a&&& BitVec.ofInt 64 b).toNat:Nat)=andW a b
 rw[BitVec.toNat_and,ofInt_word ha,ofInt_word hb,IntKind.wrap_i64]
 have h1:=(ha.and hb).1
 have h2:=(ha.and hb).2
 unfold andW at*
 omega
theorem xor_word{a b:Int}(ha:Wd a)(hb:Wd b):bits .xor .i64 a b=xorW a b:=by
 show IntKind.i64.wrap ((BitVec.ofInt 64 a ^^^ BitVec.ofInt 64 b).toNat:Nat)=xorW a b
 rw[BitVec.toNat_xor,ofInt_word ha,ofInt_word hb,IntKind.wrap_i64]
 have h1:=(ha.xor hb).1
 have h2:=(ha.xor hb).2
 unfold xorW at*
 omega
theorem round_any(n:Int)(w:World):
  Calls Tryz.prog 217 #[.int .i64 n] w fun e w'=>e= .returned (.int .i64 (n % 4294967296))/\w'=w:=by
 rw[<-and_mask]
 go_enter Tryz.func217,Tryz.ntmps217
 go_wp2
 go_ret
 exact⟨rfl,rfl⟩
theorem MkAt.fault1(h:MkAt a cs p m w):MkStep a cs p w p.mv (m.addFault 1) (w.setCell ⟨p.b,640,none⟩ (.int .i64 ((m.faults:Int)+1))):=h.addFault 1
theorem need_any(v:Int)(h:MkAt a cs p m w)(hf:m.faults<=1000000000):
  Calls Tryz.prog 220 #[.pointer (some ⟨p.b,0,none⟩), .int .i64 v] w fun e w'=>e= .returned (.tuple #[])/\MkStep a cs p w p.mv (m.need v) w':=by
 have hc:=h.faults
 have hz:=h.frozen 640 (by decide) (by decide)
 unfold Mk.need
 by_cases h0:v=0
 ·subst h0
  rw[if_pos rfl]
  have HS:=hide h.fault1
  clear h
  go_enter Tryz.func220,Tryz.ntmps220
  go_wp2
  go_end0
  exact⟨rfl,HS.out⟩
 ·rw[if_neg h0]
  have hb:(v==0)=false:=beq_eq_false_iff_ne.2 h0
  have HS:=hide (MkStep.refl h)
  clear h
  go_enter Tryz.func220,Tryz.ntmps220
  go_wp2
  go_end0
  exact⟨rfl,HS.out⟩
theorem lt_of_some{α:Type}{l:List α}{i:Nat}{x:α}(h:l[i]? =some x):i<l.length:=(List.getElem?_eq_some_iff.1 h).1
theorem look_label{b:Nat}(h:w.ownsMap Tryz.prog 9 (plainElem Tryz.prog 3) b L.length (setD L L.length))(hs:to.size<=maxLen){i:Nat}(hi:labelAt L to=i):
  (Instr.lookup 186 (.map (some b)) (.string to) false).run Tryz.prog w= .ok (.int .i64 i) w:=by
 obtain⟨c,hrun,hat,_⟩:=h.lookup_int (t:=186) (q:= .i64) mapLaw Tryz.underlying186 Tryz.underlying3 (mapZero w) (keyOf_string_mk Tryz.underlying9 hs)
 rcases setD_all L to with⟨_,h2⟩ |⟨_,j,hj,h2,h3⟩
 ·rw[h2] at hi;omega
 ·rw[h3] at hat
  have e:(j:Int)=c:=by simpa using hat
  rw[hrun, <-e, <-h2,hi]
theorem kjump_yes{t i:Nat}(ht:cs[t]? =some L)(hs:to.size<=maxLen)(hi:labelAt L to=i)(h:MkAt a cs p m w):
  Calls Tryz.prog 218 #[.pointer (some ⟨p.b,0,none⟩), .int .i64 t, .string to, .bool true] w fun e w'=>e= .returned (.tuple #[])/\MkStep a cs p w p.mv (m.jump t L to) w':=by
 have hlt:=lt_of_some ht
 have h6:=h.few
 have hj:m.jump t L to=m.setPc t i:=by unfold Mk.jump;rw[hi];rfl
 rw[hj]
 have hp:=h.prog
 obtain⟨ad,cap,lb, -, -,hm, -,hown⟩:=h.pg.pg.code t L ht
 have hlk:=look_label hown.drew hs hi
 have hpc:=h.pc t (by omega)
 have hz:=h.frozen (585+t*9+8) (by omega) (by omega)
 have hcap:=h.pg.pg.cap
 have ti:(t:Int)<cs.length:=by omega
 have t6:(t:Int)<6:=by omega
 have HS:=hide ((h.below bRf.drew).setPc (t:=t) (by omega) i)
 have HD:=hide (MkStep.of_below' h bRf.drew)
 clear h hown ht hi hj hs
 go_enter Tryz.func218,Tryz.ntmps218
 go_wp2
 go_region
 all_goals
  go_wp2
  go_end0
  exact⟨rfl,HD.out.trans HS.out⟩
theorem kjump_no(t:Int)(to:ByteArray)(h:MkAt a cs p m w):
  Calls Tryz.prog 218 #[.pointer (some ⟨p.b,0,none⟩), .int .i64 t, .string to, .bool false] w fun e w'=>e= .returned (.tuple #[])/\MkStep a cs p w p.mv m w':=by
 have HS:=hide (MkStep.refl h)
 clear h
 go_enter Tryz.func218,Tryz.ntmps218
 go_wp2
 go_end0
 exact⟨rfl,HS.out⟩
end
end Go.Proofs.YtnoigmdmgdcliaaGreatDoor
