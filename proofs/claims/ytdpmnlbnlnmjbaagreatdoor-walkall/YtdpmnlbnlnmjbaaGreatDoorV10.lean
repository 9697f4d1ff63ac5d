import Derived.Test.YtdpmnlbnlnmjbaaGreatDoorV06
import Derived.Test.YtdpmnlbnlnmjbaaGreatDoorV08
import Derived.Test.YtdpmnlbnlnmjbaaGreatDoorV09
import Derived.Test.YtdpmnlbnlnmjbaaGreatDoorV07
import Derived.RegionTactic
import Derived.BigRegion
import Derived.OwnWalk
import Derived.Maps.AppendAt
import Derived.Test.YtdpmnlbnlnmjbaaGreatDoorV02
namespace Go.Proofs.YtdpmnlbnlnmjbaaGreatDoor
set_option maxRecDepth 100000
set_option maxHeartbeats 8000000
section
open Go.RowKit Go.Maps Go.WideMaps
variable {cs:List (List Ins)} {a:Nat->Addr} {w:World} {m:Mk} {pb pc B:Nat} {S:Nat->Nat->Prop} {v:Value}
def markCell(x:Nat×Int):List Value:=[.int .i64 x.1, .int .i64 x.2]
def markCells(l:List (Nat×Int)):List Value:=l.flatMap markCell
theorem markCells_length(l:List (Nat×Int)):(markCells l).length=l.length*2:=by
 induction l with
 |nil=>rfl
 | cons x l ih=>
  show(markCell x++markCells l).length=_
  rw[List.length_append,ih,List.length_cons]
  show 2+_=_
  omega
theorem markCells_append(l:List (Nat×Int))(x:Nat×Int):markCells (l++[x])=markCells l++markCell x:=by simp[markCells]
structure Pg(a:Nat->Addr)(cs:List (List Ins))(pb pc:Nat)(W:World):Prop where
 env:Env a W
 cap:cs.length<=pc
 code : ∀(t:Nat) L,cs[t]? =some L-> ∃ad cap lb,W.cell? ⟨pb,t*2,none⟩=some (.slice ad L.length cap)/\L.length<=cap/\W.cell? ⟨pb,t*2+1,none⟩=some (.map (some lb))/\insAt ad L W/\
  W.ownsMap Tryz.prog 9 (plainElem Tryz.prog 3) lb L.length (setD L L.length)
 right: ∀(t:Nat) L,cs[t]? =some L->L.length<=2000/\ ∀(i:Nat) x,L[i]? =some x->InsOk L x/\x.to.size<=maxLen
 few:cs.length<=6
theorem ownsMap_below{H:Type}{P:Program}{k:TypeId}{R:Value->Option (DataW H×List MemPlace)}{w w':World}{b n:Nat}{D:DataW H}(h:w.ownsMap P k R b n D)(hb:Below w.heap.size w w'):w'.ownsMap P k R b n D:=by
 have hl:=h.lt
 obtain⟨es,clock,h1,F,hs,hD⟩:=h
 exact⟨es,clock,by rw[hb.block b hl];exact h1,F,hs,hD⟩
theorem Pg.below{pb pc:Nat}{W w:World}(h:Pg a cs pb pc W)(hb:Below W.heap.size W w):Pg a cs pb pc w where
 env:=h.env.below hb.block
 cap:=h.cap
 code t L ht:=by
  obtain⟨ad,cap,lb,h1,h2,h3,h4,h5⟩:=h.code t L ht
  exact⟨ad,cap,lb,keep_cell hb h1,h2,keep_cell hb h3,insAt_below h4 hb,ownsMap_below h5 hb⟩
 right:=h.right
 few:=h.few
structure PgB(a:Nat->Addr)(cs:List (List Ins))(pb pc B:Nat)(w:World):Prop where
 ex: ∃W,Pg a cs pb pc W/\W.heap.size=B/\Below B W w
theorem PgB.pg(h:PgB a cs pb pc B w):Pg a cs pb pc w:=by
 obtain⟨W,h1,rfl,h3⟩:=h.ex
 exact h1.below h3
theorem PgB.envB(h:PgB a cs pb pc B w):EnvB a B w:=by
 obtain⟨W,h1,h2,h3⟩:=h.ex
 exact⟨W,h1.env.toM,h2,h3⟩
theorem PgB.size(h:PgB a cs pb pc B w):B<=w.heap.size:=h.envB.size
theorem PgB.turns{w w':World}(h:PgB a cs pb pc B w)(t:Turns S w w')(hS: ∀k o,S k o->B<=k):PgB a cs pb pc B w':=by
 obtain⟨W,h1,rfl,h3⟩:=h.ex
 exact⟨W,h1,rfl,h3.trans (t.below h3.size (fun k o hk hs=>by have:=hS k o hs;omega))⟩
structure MkPl where
 B:Nat
 b:Nat
 pb:Nat
 pc:Nat
 mv:Value
def MkPl.marked(p:MkPl)(v:Value):MkPl:={ p with mv:=v }
def MkPl.fp(p:MkPl)(k:Nat):Prop:=k=p.b∨p.mv.ownBlock=some k
structure MkAt(a:Nat->Addr)(cs:List (List Ins))(p:MkPl)(m:Mk)(w:World):Prop where
 pg:PgB a cs p.pb p.pc p.B w
 mem:MmAt p.b m.mem w
 thr:m.mem.threads=cs.length
 prog:w.cell? ⟨p.b,584,none⟩=some (.slice (some ⟨p.pb,0,none⟩) cs.length p.pc)
 reg: ∀t r,t<6->r<8->w.cell? ⟨p.b,585+t*9+r,none⟩=some (.int .i64 (m.regs t r))
 pc: ∀t,t<6->w.cell? ⟨p.b,585+t*9+8,none⟩=some (.int .i64 (m.pc t))
 marks:w.cell? ⟨p.b,639,none⟩=some p.mv
 own:w.ownsRow 0 80 2 p.mv m.marks.length (markCells m.marks)
 faults:w.cell? ⟨p.b,640,none⟩=some (.int .i64 m.faults)
 frozen: ∀o,584<=o->o<641->w.frozen? ⟨p.b,o,none⟩=false
 ne: ∀k,p.mv.ownBlock=some k->k≠p.b/\p.B<=k
 hB:p.B<=p.b
theorem MkAt.lt{p:MkPl}(h:MkAt a cs p m w):p.b<w.heap.size:=bLt h.prog
theorem MkAt.fp_lt{p:MkPl}(h:MkAt a cs p m w){k:Nat}(hk:p.fp k):k<w.heap.size:=by
 rcases hk with rfl |hk
 ·exact h.lt
 ·exact(h.own.lt k hk).2
theorem MkAt.fp_ge{p:MkPl}(h:MkAt a cs p m w){k:Nat}(hk:p.fp k):p.B<=k:=by
 rcases hk with rfl |hk
 ·exact h.hB
 ·exact(h.ne k hk).2
theorem MkAt.few{p:MkPl}(h:MkAt a cs p m w):cs.length<=6:=h.pg.pg.few
theorem MkAt.turns{p:MkPl}{w w':World}(h:MkAt a cs p m w)(t:Turns S w w')(hS: ∀k o,S k o-> ¬p.fp k)(hB: ∀k o,S k o->p.B<=k):MkAt a cs p m w' where
 pg:=h.pg.turns t hB
 mem:=h.mem.turns t (fun o _ hs=>hS _ _ hs (Or.inl rfl))
 thr:=h.thr
 prog:=t.keep h.prog (fun hs=>hS _ _ hs (Or.inl rfl))
 reg i r hi hr:=t.keep (h.reg i r hi hr) (fun hs=>hS _ _ hs (Or.inl rfl))
 pc i hi:=t.keep (h.pc i hi) (fun hs=>hS _ _ hs (Or.inl rfl))
 marks:=t.keep h.marks (fun hs=>hS _ _ hs (Or.inl rfl))
 own:=ownsRow_block h.own fun k hk=>t.block k (h.own.lt k hk).2 (fun o hs=>hS _ _ hs (Or.inr hk))
 faults:=t.keep h.faults (fun hs=>hS _ _ hs (Or.inl rfl))
 frozen o h1 h2:=by rw[t.frozen _ _ h.lt (fun hs=>hS _ _ hs (Or.inl rfl))];exact h.frozen o h1 h2
 ne:=h.ne
 hB:=h.hB
theorem MkAt.below{p:MkPl}{w w':World}(h:MkAt a cs p m w)(hb:Below w.heap.size w w'):MkAt a cs p m w':=
 h.turns (Turns.of_below (S:=fun _ _=>False) hb) (fun _ _ h=>h.elim) (fun _ _ h=>h.elim)
theorem MkAt.alloc{p:MkPl}(h:MkAt a cs p m w)(o:Obj):MkAt a cs p m (w.alloc o):=h.below (bRf.alloc nL _)
theorem MkAt.drewN{p:MkPl}(h:MkAt a cs p m w)(n:Nat):MkAt a cs p m (w.drewN n):=h.below (Below.drewN' n)
structure MkStep(a:Nat->Addr)(cs:List (List Ins))(p:MkPl)(w:World)(v:Value)(m':Mk)(w':World):Prop where
 at':MkAt a cs (p.marked v) m' w'
 turns:Turns (fun k _=>p.fp k) w w'
 fp: ∀k,v.ownBlock=some k->p.mv.ownBlock=some k∨w.heap.size<=k
theorem MkStep.refl{p:MkPl}(h:MkAt a cs p m w):MkStep a cs p w p.mv m w:=⟨h,Turns.refl _ _,fun _ h=>Or.inl h⟩
theorem MkStep.of_below'{p:MkPl}{w w':World}(h:MkAt a cs p m w)(k:Below w.heap.size w w'):MkStep a cs p w p.mv m w':=⟨h.below k,Turns.of_below k,fun _ h=>Or.inl h⟩
theorem MkStep.below{p:MkPl}{w w' w2:World}(h:MkStep a cs p w v m w')(k:Below w'.heap.size w' w2):MkStep a cs p w v m w2:=⟨h.at'.below k,h.turns.trans (Turns.of_below k),h.fp⟩
theorem MkStep.of_below{p:MkPl}{w0 w w':World}(k:Below w0.heap.size w0 w)(h:MkStep a cs p w v m w'):MkStep a cs p w0 v m w':=
 ⟨h.at',(Turns.of_below k).trans h.turns,fun i hi=>(h.fp i hi).imp id (fun e=>Nat.le_trans k.size e)⟩
theorem MkStep.trans {p:MkPl} {v v2:Value} {m m2:Mk} {w w' w2:World} (h:MkStep a cs p w v m w') (k:MkStep a cs (p.marked v) w' v2 m2 w2):MkStep a cs p w v2 m2 w2 where
 at':=k.at'
 turns :=⟨k.turns.os.trans h.turns.os,k.turns.tape.trans h.turns.tape,k.turns.output.trans h.turns.output,Nat.le_trans h.turns.size k.turns.size,
  fun i hi ho=>(k.turns.block i (Nat.lt_of_lt_of_le hi h.turns.size) (fun o hs=>by
   rcases hs with e |e
   ·exact ho o (Or.inl e)
   ·rcases h.fp i e with e |e
    ·exact ho o (Or.inr e)
    ·omega)).trans (h.turns.block i hi ho),
  fun i o hi ho=>(k.turns.cell i o (Nat.lt_of_lt_of_le hi h.turns.size) (fun hs=>by
   rcases hs with e |e
   ·exact ho (Or.inl e)
   ·rcases h.fp i e with e |e
    ·exact ho (Or.inr e)
    ·omega)).trans (h.turns.cell i o hi ho),
  fun i o hi ho=>(k.turns.frozen i o (Nat.lt_of_lt_of_le hi h.turns.size) (fun hs=>by
   rcases hs with e |e
   ·exact ho (Or.inl e)
   ·rcases h.fp i e with e |e
    ·exact ho (Or.inr e)
    ·omega)).trans (h.turns.frozen i o hi ho)⟩
 fp i hi:=by
  rcases k.fp i hi with e |e
  ·exact h.fp i e
  ·exact Or.inr (Nat.le_trans h.turns.size e)
theorem MkAt.setReg {p:MkPl} (h:MkAt a cs p m w) {t r:Nat} (ht:t<6) (hr:r<8) (v:Int):MkStep a cs p w p.mv (m.setReg t r v) (w.setCell ⟨p.b,585+t*9+r,none⟩ (.int .i64 v)) where
 at' :=by
  have T:Turns (fun k o=>k=p.b/\o=585+t*9+r) w (w.setCell ⟨p.b,585+t*9+r,none⟩ (.int .i64 v)):=(Turns.refl _ _).setCell _ ⟨rfl,rfl⟩
  exact ⟨h.pg.turns T (fun k _ e=>by rw[e.1];exact h.hB),h.mem.turns T (fun o ho e=>by have:=e.2;omega),h.thr,cell_ne h.prog (Or.inr (by omega)),
   fun i k hi hk=>by
    simp only[Mk.setReg]
    by_cases e:i=t/\k=r
    ·rw[if_pos e,e.1,e.2]
     exact World.cell?_setCell_same _ _ _ (h.reg t r ht hr)
    ·rw[if_neg e]
     exact cell_ne (h.reg i k hi hk) (Or.inr (by omega)),
   fun i hi=>cell_ne (h.pc i hi) (Or.inr (by omega)),cell_ne h.marks (Or.inr (by omega)),
   ownsRow_block h.own fun k hk=>Below.heap_setCell _ _ _ _ (h.ne k hk).1,
   cell_ne h.faults (Or.inr (by omega)),fun o h1 h2=>by rw[World.frozen?_setCell];exact h.frozen o h1 h2,h.ne,h.hB⟩
 turns:=(Turns.refl _ _).setCell _ (Or.inl rfl)
 fp _ h:=Or.inl h
theorem MkAt.setPc {p:MkPl} (h:MkAt a cs p m w) {t:Nat} (ht:t<6) (n:Nat):MkStep a cs p w p.mv (m.setPc t n) (w.setCell ⟨p.b,585+t*9+8,none⟩ (.int .i64 n)) where
 at' :=by
  have T:Turns (fun k o=>k=p.b/\o=585+t*9+8) w (w.setCell ⟨p.b,585+t*9+8,none⟩ (.int .i64 n)):=(Turns.refl _ _).setCell _ ⟨rfl,rfl⟩
  exact ⟨h.pg.turns T (fun k _ e=>by rw[e.1];exact h.hB),h.mem.turns T (fun o ho e=>by have:=e.2;omega),h.thr,cell_ne h.prog (Or.inr (by omega)),
   fun i k hi hk=>cell_ne (h.reg i k hi hk) (Or.inr (by omega)),
   fun i hi=>by
    simp only[Mk.setPc]
    by_cases e:i=t
    ·rw[if_pos e,e]
     exact World.cell?_setCell_same _ _ _ (h.pc t ht)
    ·rw[if_neg e]
     exact cell_ne (h.pc i hi) (Or.inr (by omega)),cell_ne h.marks (Or.inr (by omega)),
   ownsRow_block h.own fun k hk=>Below.heap_setCell _ _ _ _ (h.ne k hk).1,
   cell_ne h.faults (Or.inr (by omega)),fun o h1 h2=>by rw[World.frozen?_setCell];exact h.frozen o h1 h2,h.ne,h.hB⟩
 turns:=(Turns.refl _ _).setCell _ (Or.inl rfl)
 fp _ h:=Or.inl h
theorem MkAt.addFault {p:MkPl} (h:MkAt a cs p m w) (n:Nat):MkStep a cs p w p.mv (m.addFault n) (w.setCell ⟨p.b,640,none⟩ (.int .i64 ((m.faults+n:Nat):Int))) where
 at' :=by
  have T:Turns (fun k o=>k=p.b/\o=640) w (w.setCell ⟨p.b,640,none⟩ (.int .i64 ((m.faults+n:Nat):Int))):=(Turns.refl _ _).setCell _ ⟨rfl,rfl⟩
  exact ⟨h.pg.turns T (fun k _ e=>by rw[e.1];exact h.hB),h.mem.turns T (fun o ho e=>by have:=e.2;omega),h.thr,cell_ne h.prog (Or.inr (by omega)),
   fun i k hi hk=>cell_ne (h.reg i k hi hk) (Or.inr (by omega)),fun i hi=>cell_ne (h.pc i hi) (Or.inr (by omega)),cell_ne h.marks (Or.inr (by omega)),
   ownsRow_block h.own fun k hk=>Below.heap_setCell _ _ _ _ (h.ne k hk).1,
   World.cell?_setCell_same _ _ _ h.faults,fun o h1 h2=>by rw[World.frozen?_setCell];exact h.frozen o h1 h2,h.ne,h.hB⟩
 turns:=(Turns.refl _ _).setCell _ (Or.inl rfl)
 fp _ h:=Or.inl h
theorem MkAt.ofMem{p:MkPl}{s:Rm}{w w':World}(h:MkAt a cs p m w)(k:MmStep p.b w s w')(ht:s.threads=m.mem.threads):MkStep a cs p w p.mv (m.setMem s) w' where
 at' :=⟨h.pg.turns k.turns (fun i _ e=>by rw[e.1];exact h.hB),k.at',ht.trans h.thr,k.turns.keep h.prog (fun e=>by have:=e.2;omega),
  fun i r hi hr=>k.turns.keep (h.reg i r hi hr) (fun e=>by have:=e.2;omega),fun i hi=>k.turns.keep (h.pc i hi) (fun e=>by have:=e.2;omega),k.turns.keep h.marks (fun e=>by have:=e.2;omega),
  ownsRow_block h.own fun i hi=>k.turns.block i (h.own.lt i hi).2 (fun o e=>(h.ne i hi).1 e.1),
  k.turns.keep h.faults (fun e=>by have:=e.2;omega),fun o h1 h2=>(k.turns.frozen p.b o h.lt (fun e=>by have:=e.2;omega)).trans (h.frozen o h1 h2),h.ne,h.hB⟩
 turns:=k.turns.mono fun i _ _ e=>Or.inl e.1
 fp _ h:=Or.inl h
end
section
open Go.RowKit Go.Extern.Stop Go.Stop Go.Extern Go.Maps Go.WideMaps
variable {cs:List (List Ins)} {a:Nat->Addr} {w:World} {p:MkPl} {m:Mk} {to:ByteArray} {L:List Ins}
theorem khas_any (t:Int) (h:MkAt a cs p m w):
  Calls Tryz.prog 42 #[.pointer (some ⟨p.b,0,none⟩), .int .i64 t] w fun e w'=>e= .returned (.bool (decide (0<=t/\t<cs.length)))/\w'=w:=by
 have hn:=h.prog
 have hf:=h.few
 clear h
 by_cases h0:0<=t
 ·by_cases h1:t<cs.length
  ·rw[decide_eq_true ⟨h0,h1⟩]
   go_enter Tryz.func42,Tryz.ntmps42
   go_wp2
   go_ret
   exact⟨rfl,rfl⟩
  ·rw[decide_eq_false (fun e=>h1 e.2)]
   go_enter Tryz.func42,Tryz.ntmps42
   go_wp2
   go_ret
   exact⟨rfl,rfl⟩
 ·rw[decide_eq_false (fun e=>h0 e.1)]
  go_enter Tryz.func42,Tryz.ntmps42
  go_wp2
  go_ret
  exact⟨rfl,rfl⟩
theorem khas_yes{t:Nat}(ht:t<cs.length)(h:MkAt a cs p m w):
  Calls Tryz.prog 42 #[.pointer (some ⟨p.b,0,none⟩), .int .i64 t] w fun e w'=>e= .returned (.bool true)/\w'=w:=
 (khas_any t h).mono fun _ _ ⟨h1,h2⟩=>⟨by rw[h1,decide_eq_true (by omega)],h2⟩
theorem khas_no{t:Int}(ht: ¬(0<=t/\t<cs.length))(h:MkAt a cs p m w):
  Calls Tryz.prog 42 #[.pointer (some ⟨p.b,0,none⟩), .int .i64 t] w fun e w'=>e= .returned (.bool false)/\w'=w:=
 (khas_any t h).mono fun _ _ ⟨h1,h2⟩=>⟨by rw[h1,decide_eq_false ht],h2⟩
theorem and_mask(n:Int):bits .and .i64 n 4294967295=n % 4294967296:=by
 have h1:(BitVec.ofInt 64 4294967295).toNat=2 ^ 32 - 1:=by decide
 have key:(BitVec.ofInt 64 n&&& BitVec.ofInt 64 4294967295).toNat=(n % ((2 ^ 64:Nat):Int)).toNat % 2 ^ 32:=by
  rw[BitVec.toNat_and,BitVec.toNat_ofInt,h1,Nat.and_two_pow_sub_one_eq_mod]
 show IntKind.i64.wrap ((BitVec.ofInt 64 n&&& BitVec.ofInt 64 4294967295).toNat:Nat)=n % 4294967296
 rw[key,IntKind.wrap_i64]
 omega
theorem ofInt_word{n:Int}(h:Wd n):(BitVec.ofInt 64 n).toNat=n.toNat:=by
 rw[BitVec.toNat_ofInt]
 have:=h.1
 have:=h.2
 omega
theorem and_word{a b:Int}(ha:Wd a)(hb:Wd b):bits .and .i64 a b=andW a b:=by
 show IntKind.i64.wrap ((BitVec.ofInt 64 a&&& BitVec.ofInt 64 b).toNat:Nat)=andW a b
 rw[BitVec.toNat_and,ofInt_word ha,ofInt_word hb,IntKind.wrap_i64]
 have h1:=(ha.and hb).1
 have h2:=(ha.and hb).2
 unfold andW at*
 omega
theorem xor_word{a b:Int}(ha:Wd a)(hb:Wd b):bits .xor .i64 a b=xorW a b:=by
 show IntKind.i64.wrap ((BitVec.ofInt 64 a ^^^ BitVec.ofInt 64 b).toNat:Nat)=xorW a b
 rw[BitVec.toNat_xor,ofInt_word ha,ofInt_word hb,IntKind.wrap_i64]
 have h1:=(ha.xor hb).1
 have h2:=(ha.xor hb).2
 unfold xorW at*
 omega
theorem round_any(n:Int)(w:World):
  Calls Tryz.prog 82 #[.int .i64 n] w fun e w'=>e= .returned (.int .i64 (n % 4294967296))/\w'=w:=by
 rw[<-and_mask]
 go_enter Tryz.func82,Tryz.ntmps82
 go_wp2
 go_ret
 exact⟨rfl,rfl⟩
theorem MkAt.fault1(h:MkAt a cs p m w):MkStep a cs p w p.mv (m.addFault 1) (w.setCell ⟨p.b,640,none⟩ (.int .i64 ((m.faults:Int)+1))):=h.addFault 1
theorem need_any(v:Int)(h:MkAt a cs p m w)(hf:m.faults<=1000000000):
  Calls Tryz.prog 85 #[.pointer (some ⟨p.b,0,none⟩), .int .i64 v] w fun e w'=>e= .returned (.tuple #[])/\MkStep a cs p w p.mv (m.need v) w':=by
 have hc:=h.faults
 have hz:=h.frozen 640 (by decide) (by decide)
 unfold Mk.need
 by_cases h0:v=0
 ·subst h0
  rw[if_pos rfl]
  have HS:=hide h.fault1
  clear h
  go_enter Tryz.func85,Tryz.ntmps85
  go_wp2
  go_end0
  exact⟨rfl,HS.out⟩
 ·rw[if_neg h0]
  have hb:(v==0)=false:=beq_eq_false_iff_ne.2 h0
  have HS:=hide (MkStep.refl h)
  clear h
  go_enter Tryz.func85,Tryz.ntmps85
  go_wp2
  go_end0
  exact⟨rfl,HS.out⟩
theorem lt_of_some{α:Type}{l:List α}{i:Nat}{x:α}(h:l[i]? =some x):i<l.length:=(List.getElem?_eq_some_iff.1 h).1
theorem look_label{b:Nat}(h:w.ownsMap Tryz.prog 9 (plainElem Tryz.prog 3) b L.length (setD L L.length))(hs:to.size<=maxLen){i:Nat}(hi:labelAt L to=i):
  (Instr.lookup 157 (.map (some b)) (.string to) false).run Tryz.prog w= .ok (.int .i64 i) w:=by
 obtain⟨c,hrun,hat,_⟩:=h.lookup_int (t:=157) (q:= .i64) mapLaw Tryz.underlying157 Tryz.underlying3 (mapZero w) (keyOf_string_mk Tryz.underlying9 hs)
 rcases setD_all L to with⟨_,h2⟩ |⟨_,j,hj,h2,h3⟩
 ·rw[h2] at hi;omega
 ·rw[h3] at hat
  have e:(j:Int)=c:=by simpa using hat
  rw[hrun, <-e, <-h2,hi]
theorem kjump_yes{t i:Nat}(ht:cs[t]? =some L)(hs:to.size<=maxLen)(hi:labelAt L to=i)(h:MkAt a cs p m w):
  Calls Tryz.prog 83 #[.pointer (some ⟨p.b,0,none⟩), .int .i64 t, .string to, .bool true] w fun e w'=>e= .returned (.tuple #[])/\MkStep a cs p w p.mv (m.jump t L to) w':=by
 have hlt:=lt_of_some ht
 have h6:=h.few
 have hj:m.jump t L to=m.setPc t i:=by unfold Mk.jump;rw[hi];rfl
 rw[hj]
 have hp:=h.prog
 obtain⟨ad,cap,lb, -, -,hm, -,hown⟩:=h.pg.pg.code t L ht
 have hlk:=look_label hown.drew hs hi
 have hpc:=h.pc t (by omega)
 have hz:=h.frozen (585+t*9+8) (by omega) (by omega)
 have hcap:=h.pg.pg.cap
 have ti:(t:Int)<cs.length:=by omega
 have t6:(t:Int)<6:=by omega
 have HS:=hide ((h.below bRf.drew).setPc (t:=t) (by omega) i)
 have HD:=hide (MkStep.of_below' h bRf.drew)
 clear h hown ht hi hj hs
 go_enter Tryz.func83,Tryz.ntmps83
 go_wp2
 go_region
 all_goals
  go_wp2
  go_end0
  exact⟨rfl,HD.out.trans HS.out⟩
theorem kjump_no(t:Int)(to:ByteArray)(h:MkAt a cs p m w):
  Calls Tryz.prog 83 #[.pointer (some ⟨p.b,0,none⟩), .int .i64 t, .string to, .bool false] w fun e w'=>e= .returned (.tuple #[])/\MkStep a cs p w p.mv m w':=by
 have HS:=hide (MkStep.refl h)
 clear h
 go_enter Tryz.func83,Tryz.ntmps83
 go_wp2
 go_end0
 exact⟨rfl,HS.out⟩
end
section
open Go.RowKit Go.Extern.Stop Go.Stop Go.Extern Go.Maps Go.WideMaps
variable {cs:List (List Ins)} {a:Nat->Addr}
theorem markInfo: ∃i,Tryz.prog.info? 80=some i/\i.zero=some (.agg #[.int .i64 0, .int .i64 0])/\i.size=2/\i.bytes=16:=info_parts (by kernel_rfl)
theorem MkAt.marked {p:MkPl} {m:Mk} {w w6:World} (h:MkAt a cs p m w) (v:Value) (l:List (Nat×Int)) 
  (hown:w6.ownsRow 0 80 2 v l.length (markCells l)) (hT:Turns (fun k _=>p.mv.ownBlock=some k) w w6) (hk: ∀k,v.ownBlock=some k->p.mv.ownBlock=some k∨w.heap.size<=k):
  MkStep a cs p w v { m with marks:=l } (w6.setCell ⟨p.b,639,none⟩ v):=by
 have nb: ∀o:Nat, ¬(fun k (_:Nat)=>p.mv.ownBlock=some k) p.b o:=fun _ e=>(h.ne _ e).1 rfl
 have nv: ∀k,v.ownBlock=some k->k≠p.b/\p.B<=k:=fun k e=>by
  rcases hk k e with e |e
  ·exact h.ne k e
  ·have:=h.lt;have:=h.pg.size;exact⟨by omega,by omega⟩
 have T:Turns (fun k o=>k=p.b/\o=639) w6 (w6.setCell ⟨p.b,639,none⟩ v):=(Turns.refl _ _).setCell _ ⟨rfl,rfl⟩
 have fz: ∀o,584<=o->o<641->(w6.setCell ⟨p.b,639,none⟩ v).frozen? ⟨p.b,o,none⟩=false:=fun o h1 h2=>by rw[World.frozen?_setCell,hT.frozen _ _ h.lt (nb o)];exact h.frozen o h1 h2
 have hm1:MmAt p.b m.mem w6:=h.mem.turns hT (fun o _ e=>nb o e)
 refine ⟨⟨(h.pg.turns hT (fun k _ e=>(h.ne k e).2)).turns T (fun k _ e=>by rw[e.1];exact h.hB),hm1.turns T (fun o ho e=>by have:=e.2;omega),h.thr,cell_ne (hT.keep h.prog (nb 584)) (Or.inr (by omega)),
   fun i k hi hk=>cell_ne (hT.keep (h.reg i k hi hk) (nb (585+i*9+k))) (Or.inr (by omega)),fun i hi=>cell_ne (hT.keep (h.pc i hi) (nb (585+i*9+8))) (Or.inr (by omega)),World.cell?_setCell_same _ _ _ (hT.keep h.marks (nb 639)),
   ownsRow_block hown fun k hk=>Below.heap_setCell _ _ _ _ (nv k hk).1,
   cell_ne (hT.keep h.faults (nb 640)) (Or.inr (by omega)),fz,nv,h.hB⟩,?_,hk⟩
 exact(hT.mono fun k _ _ e=>Or.inr e).setCell _ (Or.inl rfl)
theorem kmark_any {p:MkPl} {m:Mk} (t:Nat) (v:Int) {w:World} (h:MkAt a cs p m w) (h5:m.marks.length<=500):
  Calls Tryz.prog 84 #[.pointer (some ⟨p.b,0,none⟩), .int .i64 t, .int .i64 v] w fun e w'=>e= .returned (.tuple #[])/\ ∃u,MkStep a cs p w u (m.mark t v) w':=by
 have hm:=h.marks
 obtain⟨ad,cap,hvs,hcl,hcm, -⟩:=ownsRow_shape h.own
 have hv:=h.own
 rw[hvs] at hm hv
 unfold Mk.mark
 by_cases hl:m.marks.length<500
 ·rw [if_pos hl]
  have hi:(m.marks.length:Int)<500:=by omega
  obtain⟨ri,hri,hrz,hrs,hrb⟩:=markInfo
  have hz:=h.frozen 639 (by decide) (by decide)
  have lb:=h.lt
  have ob:(Value.slice ad m.marks.length cap).ownBlock≠some p.b:=fun e=>(h.ne _ (by rw[hvs];exact e)).1 rfl
  have HV:=hide hvs
  have H:=hide h
  clear h hvs hcm hcl h5
  go_enter Tryz.func84,Tryz.ntmps84
  go_wp2_with (first
   |(at_builtin;refine wpList_append_own_at _ rfl _ _ 77 rfl 0 80 ri (.agg #[.int .i64 0, .int .i64 0]) 2 16 Tryz.underlying77 hri hrz hrs hrb rfl (by decide) _ _ _ rfl (hv.alloc _) ⟨w.heap.size,0,none⟩ 1 1 [.int .i64 t, .int .i64 v] rfl rfl ?c1 ?c2 ?c3 ?c4 ?c5 ?_))
  case c1=>exact World.news_of_block (cs:=#[.int .i64 t, .int .i64 v]) (t:=80) (fr:=(0,0)) (heap_alloc_new w _)
  case c2=>intro u hu;simp at hu;rcases hu with rfl |rfl <;> rfl
  case c3=>unfold maxLen;omega
  case c4=>omega
  case c5=>simp
  intro v' w6 hown6 hgrow6 hnil6 hloc6
  obtain ⟨ad6,cap6,rfl⟩: ∃ad6 cap6,v'=Value.slice ad6 (m.marks.length+1) cap6:=by
   obtain⟨g,c,e,_⟩:=ownsRow_shape hown6
   exact⟨g,c,e⟩
  have hg: ∀b,b<w.heap.size->(Value.slice ad m.marks.length cap).ownBlock≠some b->w6.heap[b]? =w.heap[b]? :=fun b hb hne=>by
   rw[hgrow6.block b (by simp;omega) (Ne.symm hne)]
   exact Below.heap_alloc _ _ _ hb
  have HT:Turns (fun k _=>p.mv.ownBlock=some k) w w6:=⟨hgrow6.os,hgrow6.tape,hgrow6.output,Nat.le_trans (by simp) hgrow6.size,fun k hk ho=>hg k hk (fun e=>ho 0 (by rw[HV.out];exact e)),
   fun k o hk ho=>World.cell?_of_block (hg k hk (fun e=>ho (by rw[HV.out];exact e))),fun k o hk ho=>World.frozen?_of_block (hg k hk (fun e=>ho (by rw[HV.out];exact e)))⟩
  have HS:=hide (H.out.marked (.slice ad6 (m.marks.length+1) cap6) (m.marks++[(t,v)]) (by rw[markCells_append,List.length_append];exact hown6) HT (fun k e=>by
   rcases hloc6 with e2 |e2
   ·left;rw[HV.out, <-e2];exact e
   ·right;rw[e2] at e;simp at e;omega))
  have hm6:w6.cell? ⟨p.b,639,none⟩=some (.slice ad m.marks.length cap):=by rw[World.cell?_of_block (hg p.b lb ob)];exact hm
  have hz6:w6.frozen? ⟨p.b,639,none⟩=false:=by rw[World.frozen?_of_block (hg p.b lb ob)];exact hz
  clear hown6 hgrow6 hnil6 hloc6 hg HT H HV hri hrz hrs hrb hv hm hz ob
  go_wp2
  go_end0
  exact⟨rfl,_,HS.out⟩
 ·rw[if_neg hl]
  have hi: ¬(m.marks.length:Int)<500:=by omega
  have HS:=hide (MkStep.refl h)
  clear h hl h5 hv hvs
  go_enter Tryz.func84,Tryz.ntmps84
  go_wp2
  go_end0
  exact⟨rfl,_,HS.out⟩
end
section
open Go.RowKit Go.Extern.Stop Go.Stop Go.Extern Go.Maps Go.WideMaps Go.Sort
variable {a:Nat->Addr} {cs:List (List Ins)} {w:World} {m:Mk} {p:MkPl} {t:Nat} {l:List Wt}
theorem nil_neq(b:Addr)(w:World):(binOp .eql 31 .nilIface (errAt b)).run Tryz.prog w= .ok (.bool false) w:=by kernel_rfl
theorem is_nil(b:Addr)(w:World):
  Calls Tryz.prog 64 #[.nilIface,errAt b] w fun e w'=>e= .returned (.bool false)/\w'=w:=by
 have hq:=nil_neq b
 go_enter Tryz.func64,Tryz.ntmps64
 go_wp2
 go_ret
 exact⟨rfl,rfl⟩
theorem Env.is_err(h:Env a w){i j:Nat}(hi:okI i)(hj:okI j)(hne:i≠j):
  Calls Tryz.prog 64 #[errAt (a i),errAt (a j)] w fun e w'=>e= .returned (.bool false)/\w'=w:=by
 obtain⟨c,t,h1⟩:=h.row i hi
 obtain⟨c',t',h2⟩:=h.row j hj
 exact is_other (a i) (a j) c c' t t' w (h.ne i j hi hj hne) h1 h2
theorem MkAt.env(h:MkAt a cs p m w):Env a w:=h.pg.pg.env
theorem kdrain_no{t:Int}(ht: ¬(0<=t/\t<cs.length))(h:MkAt a cs p m w):
  Calls Tryz.prog 26 #[.pointer (some ⟨p.b,0,none⟩), .int .i64 t] w fun e w'=>e= .returned (errAt (a 1))/\w'=w:=by
 have HD:=hide (mdrain_no a p.b m.mem t w h.env.toM h.mem (by rw[h.thr];exact ht))
 have c6:w.cell? ⟨2,0,none⟩=some (errAt (a 6)):=h.env.cell 6 (by decide)
 have HI:=hide (h.env.is_err (i:=1) (j:=6) (by decide) (by decide) (by decide))
 clear h ht
 go_enter Tryz.func26,Tryz.ntmps26
 go_wp2_with fail
 refine HD.out.mono ?_
 rintro e w1 ⟨rfl,rfl⟩
 clear HD
 go_wp2_with fail
 refine HI.out.mono ?_
 rintro e w2 ⟨rfl,rfl⟩
 go_wp2
 go_ret
 exact⟨rfl,rfl⟩
theorem kdrain_none(ht:t<cs.length)(h:MkAt a cs p m w)(he:m.mem.waits t=[]):
  Calls Tryz.prog 26 #[.pointer (some ⟨p.b,0,none⟩), .int .i64 t] w fun e w'=>e= .returned (errAt (a 4))/\w'=w:=by
 have HD:=hide (mdrain_none a p.b m.mem t w h.env.toM h.mem (by rw[h.thr];exact ht) he)
 have c6:w.cell? ⟨2,0,none⟩=some (errAt (a 6)):=h.env.cell 6 (by decide)
 have HI:=hide (h.env.is_err (i:=4) (j:=6) (by decide) (by decide) (by decide))
 clear h ht he
 go_enter Tryz.func26,Tryz.ntmps26
 go_wp2_with fail
 refine HD.out.mono ?_
 rintro e w1 ⟨rfl,rfl⟩
 clear HD
 go_wp2_with fail
 refine HI.out.mono ?_
 rintro e w2 ⟨rfl,rfl⟩
 go_wp2
 go_ret
 exact⟨rfl,rfl⟩
theorem Mk.drain1_cons{x:Wt}(he:m.mem.waits t=x::l):m.drain1 t=(m.setMem (m.mem.drained t x l)).addFault (if m.mem.ar.has x.c x.g=true then 0 else 1):=by
 unfold Mk.drain1
 rw[he]
 rfl
theorem kdrain_some{x:Wt}(ht:t<cs.length)(h:MkAt a cs p m w)(he:m.mem.waits t=x::l)(hx:x.Ok)(hf:m.faults<=1000000000):
  Calls Tryz.prog 26 #[.pointer (some ⟨p.b,0,none⟩), .int .i64 t] w fun e w'=>e= .returned .nilIface/\MkStep a cs p w p.mv (m.drain1 t) w':=by
 have hD:=mdrain_some a p.B p.b m.mem t x l w h.pg.envB h.hB h.mem (by rw[h.thr];exact ht) he hx
 have HS:Hid (∀w',MmStep p.b w (m.mem.drained t x l) w'->MkStep a cs p w p.mv (m.setMem (m.mem.drained t x l)) w'):=fun w' k=>h.ofMem k (Rm.drained_threads _ _ _ _)
 rw[Mk.drain1_cons he]
 have hfa:((m.setMem (m.mem.drained t x l)).faults:Int)=m.faults:=rfl
 cases hh:m.mem.ar.has x.c x.g
 ·rw[hh] at hD
  rw[show((if false=true then 0 else 1):Nat)=1 from rfl]
  replace hD:Calls Tryz.prog 63 #[.pointer (some ⟨p.b,0,none⟩), .int .i64 t] w fun e w'=>e= .returned (errAt (a 6))/\MmStep p.b w (m.mem.drained t x l) w':=hD
  have HD:=hide hD
  have hn: ¬(9223372036854775807:Int)<(m.faults:Int)+1:=by omega
  clear hD h he hh hx
  generalize m.setMem (m.mem.drained t x l)=m' at*
  go_enter Tryz.func26,Tryz.ntmps26
  go_wp2_with fail
  refine HD.out.mono ?_
  rintro e w1 ⟨rfl,h1⟩
  have H1:=hide (HS.out _ h1)
  clear HD HS h1
  have h1:=H1.out.at'
  have c6:w1.cell? ⟨2,0,none⟩=some (errAt (a 6)):=h1.env.cell 6 (by decide)
  have hc:w1.cell? ⟨p.b,640,none⟩=some (.int .i64 m'.faults):=h1.faults
  have hz:w1.frozen? ⟨p.b,640,none⟩=false:=h1.frozen 640 (by decide) (by decide)
  have HF:=hide (H1.out.trans h1.fault1)
  rw[hfa] at hc
  have HE:Hid ((m'.faults:Int)=m.faults):=hfa
  clear h1 hfa
  go_wp2_with fail
  refine(is_same (a 6) _).mono ?_
  rintro e w2 ⟨rfl,rfl⟩
  go_wp2
  go_ret
  have HF2:=HF.out
  rw[HE.out] at HF2
  exact⟨rfl,HF2⟩
 ·rw[hh] at hD
  rw[show((if true=true then 0 else 1):Nat)=0 from rfl]
  replace hD:Calls Tryz.prog 63 #[.pointer (some ⟨p.b,0,none⟩), .int .i64 t] w fun e w'=>e= .returned .nilIface/\MmStep p.b w (m.mem.drained t x l) w':=hD
  have HD:=hide hD
  clear hD h he hh hx hfa
  generalize m.setMem (m.mem.drained t x l)=m' at*
  go_enter Tryz.func26,Tryz.ntmps26
  go_wp2_with fail
  refine HD.out.mono ?_
  rintro e w1 ⟨rfl,h1⟩
  have H1:=hide (HS.out _ h1)
  clear HD HS h1
  have c6:w1.cell? ⟨2,0,none⟩=some (errAt (a 6)):=H1.out.at'.env.cell 6 (by decide)
  go_wp2_with fail
  refine(is_nil (a 6) _).mono ?_
  rintro e w2 ⟨rfl,rfl⟩
  go_wp2
  go_ret
  exact⟨rfl,H1.out⟩
end
section
open Go.RowKit Go.Extern.Stop Go.Stop Go.Extern Go.Maps Go.WideMaps Go.Sort
variable {t:Nat} {m:Mk} {l:List Wt}
theorem Mk.fence_nil(he:m.mem.waits t=[]):m.fence t=m:=by
 unfold Mk.fence
 rw[he]
 rfl
theorem Mk.fence_cons{x:Wt}(he:m.mem.waits t=x::l):(m.drain1 t).fence t=m.fence t:=by
 have e:(m.drain1 t).mem.waits t=l:=by
  unfold Mk.drain1
  rw[he]
  exact Rm.drained_waits _ _ _ _
 unfold Mk.fence
 rw[e,he]
 unfold Mk.drain1
 rw[he]
 simp only[Rm.drainAll,Rm.gone,Nat.add_assoc]
theorem Mk.drain1_waits{x:Wt}(he:m.mem.waits t=x::l):(m.drain1 t).mem.waits t=l:=by
 unfold Mk.drain1
 rw[he]
 exact Rm.drained_waits _ _ _ _
theorem Mk.drain1_threads(m:Mk)(t:Nat):(m.drain1 t).mem.threads=m.mem.threads:=by
 unfold Mk.drain1
 split
 ·rfl
 ·exact Rm.drained_threads _ _ _ _
theorem Mk.drain1_faults(m:Mk)(t:Nat):(m.drain1 t).faults<=m.faults+1:=by
 unfold Mk.drain1
 split
 ·omega
 ·exact Nat.add_le_add_left (ite01 _) _
theorem kfence_any {a:Nat->Addr} {cs:List (List Ins)} {p:MkPl} (ht:t<cs.length) {w:World} (h:MkAt a cs p m w) (hx: ∀x∈m.mem.waits t,x.Ok) (hf:m.faults<=900000000):
  Calls Tryz.prog 121 #[.pointer (some ⟨p.b,0,none⟩), .int .i64 t] w fun e w'=>e= .returned (.tuple #[])/\MkStep a cs p w p.mv (m.fence t) w':=by
 have h6:=h.few
 have t6:(t:Int)<6:=by omega
 have h8:=(h.mem.line t (by rw[h.thr];exact ht)).le
 have HI:Hid (∃m1,MkStep a cs p w p.mv m1 w/\m1.fence t=m.fence t/\(∀x∈m1.mem.waits t,x.Ok)/\m1.faults+(m1.mem.waits t).length<=900000008):=⟨m,MkStep.refl h,rfl,hx,by omega⟩
 generalize m.fence t=D at*
 clear h hx hf h8
 go_enter Tryz.func121,Tryz.ntmps121
 go_wp2_with fail
 go_loopw [4] (fun _ wr=> ∃m1,MkStep a cs p w p.mv m1 wr/\m1.fence t=D/\(∀x∈m1.mem.waits t,x.Ok)/\m1.faults+(m1.mem.waits t).length<=900000008) (fun _ wr=>lineLen p.b t wr)
 case atStart=>exact HI.out
 case round=>
  obtain⟨m1,h1,h2,h3,h4⟩:=hrel
  have H1:=hide h1
  have t1:t<m1.mem.threads:=by rw[h1.at'.thr];exact ht
  have hwt:m1.mem.waiting t=(m1.mem.waits t).length:=by unfold Rm.waiting;rw[if_pos (by omega)];rfl
  have HW:=hide (waiting_any p.b m1.mem t wr h1.at'.mem)
  have hwl:lineLen p.b t wr=(m1.mem.waits t).length:=MmAt.lineLen h1.at'.mem t1
  rw[hwt] at HW
  clear h1 hwt
  cases hws:m1.mem.waits t with
  | nil=>
   rw[hws] at HW
   have HD:Hid (m1=D):=(Mk.fence_nil hws).symm.trans h2
   clear h2 h3 h4 HI hwl
   go_wp2_with fail
   refine HW.out.mono ?_
   rintro e w2 ⟨rfl,rfl⟩
   go_wp2
   go_end0
   exact⟨rfl,by rw[<-HD.out];exact H1.out⟩
  | cons x l=>
   rw[hws] at HW
   have HDr:=hide (kdrain_some ht H1.out.at' hws (h3 x (by rw[hws];exact List.mem_cons_self)) (by omega))
   have HN:Hid (∀w2,MkStep a cs p wr p.mv (m1.drain1 t) w2->(∃m1,MkStep a cs p w p.mv m1 w2/\m1.fence t=D/\(∀x∈m1.mem.waits t,x.Ok)/\m1.faults+(m1.mem.waits t).length<=900000008)/\lineLen p.b t w2<lineLen p.b t wr):=by
    intro w2 hst
    have e:=Mk.drain1_waits hws
    refine⟨⟨m1.drain1 t,H1.out.trans hst,(Mk.fence_cons hws).trans h2,fun y hy=>h3 y ?_,?_⟩,?_⟩
    ·rw[e] at hy;rw[hws];exact List.mem_cons_of_mem _ hy
    ·have:=Mk.drain1_faults m1 t
     rw[e]
     rw[hws,List.length_cons] at h4
     omega
    ·have e2:lineLen p.b t w2=((m1.drain1 t).mem.waits t).length:=(MkAt.mem hst.at').lineLen (by rw[Mk.drain1_threads];exact t1)
     rw[hwl,e2,e,hws,List.length_cons]
     omega
   rw[List.length_cons] at HW
   have l0:(0:Int)<(l.length:Int)+1:=by omega
   clear h2 h3 h4 HI hwl H1
   go_wp2_with fail
   refine HW.out.mono ?_
   rintro e w2 ⟨rfl,rfl⟩
   clear HW
   go_wp2_with fail
   refine HDr.out.mono ?_
   rintro e w3 ⟨rfl,hst⟩
   have HF:=hide (HN.out _ hst)
   clear HN HDr hst
   go_wp2
   go_roundw
   case rel=>exact HF.out.1
   case measure=>exact HF.out.2
end
section
open Go.RowKit Go.Extern.Stop Go.Stop Go.Extern
def Worded(c g:Int):Prop:=0<=c/\c<64/\0<=g/\g*64+c+1<4294967296
theorem word_ok(c g:Int)(w:World)(h:Worded c g):
  Calls Tryz.prog 140 #[.agg #[.int .i64 c, .int .i64 g]] w fun e w'=>e= .returned (.tuple #[.int .i64 (g*64+c+1), .nilIface])/\Below w.heap.size w w':=by
 obtain⟨h0,h1,h2,h3⟩:=h
 have h4: ¬((4294967294 - c) / 64<g):=by omega
 have hg:g<=67108863:=by omega
 have hba:=box_below c g w
 clear h3
 go_enter Tryz.func140,Tryz.ntmps140
 go_wp2
 go_ret2
 exact⟨rfl,hba⟩
theorem wordOf_ok(c g:Int)(w:World)(h:Worded c g):
  Calls Tryz.prog 61 #[.agg #[.int .i64 c, .int .i64 g]] w fun e w'=>e= .returned (.tuple #[.int .i64 (g*64+c+1), .int .i64 0])/\Below w.heap.size w w':=by
 have HI:Hid (∀w,Calls Tryz.prog 78 #[.int .i64 (g*64+c+1)] w fun e w'=>e= .returned (.bool true)/\w'=w):=fun w=>(isWordR_any _ w).mono fun _ _ ⟨h1,h2⟩=>⟨by rw[h1,decide_eq_true (by unfold Worded at h;omega)],h2⟩
 obtain⟨h0,h1,h2,h3⟩:=h
 have hg:g<=67108863:=by omega
 have hba:=box_below c g w
 clear h3
 go_enter Tryz.func61,Tryz.ntmps61
 go_wp2_with fail
 refine(HI.out _).mono ?_
 rintro e1 w1 ⟨rfl,rfl⟩
 go_wp2
 go_ret2
 exact⟨rfl,hba⟩
theorem ref_zero(a:Nat->Addr)(w:World)(hE:Env a w):
  Calls Tryz.prog 148 #[.int .i64 0] w fun e w'=>e= .returned (.tuple #[.agg #[.int .i64 0, .int .i64 0],errAt (a 4)])/\Below w.heap.size w w':=by
 have hge:6<w.heap.size:=hE.glt (i:=4) (by decide)
 have ke:(w.alloc (.cells #[.int .i64 0, .int .i64 0] 95)).cell? ⟨6,0,none⟩=some (errAt (a 4)):=(hE.below (box_below 0 0 w).block).cell 4 (by decide)
 obtain⟨z0,z1⟩:=box2c w 95 (.int .i64 0) (.int .i64 0)
 have y0:(w.alloc (.cells #[.int .i64 0, .int .i64 0] 95)).frozen? ⟨w.heap.size,0,none⟩=false:=by simp
 have y1:(w.alloc (.cells #[.int .i64 0, .int .i64 0] 95)).frozen? ⟨w.heap.size,1,none⟩=false:=by simp
 have hba:=box_below 0 0 w
 generalize hw:w.alloc (.cells #[.int .i64 0, .int .i64 0] 95)=w1 at*
 go_enter Tryz.func148,Tryz.ntmps148
 go_wp2
 go_region
 go_wp2
 refine bodyPost_ret (v:= .tuple #[.agg #[.int .i64 0, .int .i64 0],errAt (a 4)]) (by simp only[results,Tryz.results148];go_simp) rfl ⟨rfl,?_⟩
 exact((hba.setCell nL _).setCell nL _).drew
theorem ref_ok(n:Int)(w:World)(h1:1<=n)(h2:n<4294967296):
  Calls Tryz.prog 148 #[.int .i64 n] w fun e w'=>e= .returned (.tuple #[.agg #[.int .i64 ((n - 1) % 64), .int .i64 ((n - 1) / 64)], .nilIface])/\Below w.heap.size w w':=by
 have HI:Hid (∀w,Calls Tryz.prog 143 #[.int .i64 n] w fun e w'=>e= .returned (.bool true)/\w'=w):=fun w=>(isWord_any _ w).mono fun _ _ ⟨h3,h4⟩=>⟨by rw[h3,decide_eq_true (by omega)],h4⟩
 have hb:(n==0)=false:=beq_eq_false_iff_ne.2 (by omega)
 obtain⟨z0,z1⟩:=box2c w 95 (.int .i64 0) (.int .i64 0)
 have y0:(w.alloc (.cells #[.int .i64 0, .int .i64 0] 95)).frozen? ⟨w.heap.size,0,none⟩=false:=by simp
 have y1:(w.alloc (.cells #[.int .i64 0, .int .i64 0] 95)).frozen? ⟨w.heap.size,1,none⟩=false:=by simp
 have hba:=box_below 0 0 w
 generalize hw:w.alloc (.cells #[.int .i64 0, .int .i64 0] 95)=w1 at*
 go_enter Tryz.func148,Tryz.ntmps148
 go_wp2_with fail
 refine(HI.out _).mono ?_
 rintro e1 w2 ⟨rfl,rfl⟩
 go_wp2
 refine bodyPost_ret (v:= .tuple #[.agg #[.int .i64 ((n - 1) % 64), .int .i64 ((n - 1) / 64)], .nilIface]) (by simp only[results,Tryz.results148];go_simp) rfl ⟨rfl,?_⟩
 exact(hba.setCell nL _).setCell nL _
theorem refOf_zero(w:World):
  Calls Tryz.prog 87 #[.int .i64 0] w fun e w'=>e= .returned (.tuple #[.agg #[.int .i64 0, .int .i64 0], .int .i64 5])/\Below w.heap.size w w':=by
 obtain⟨z0,z1⟩:=box2c w 95 (.int .i64 0) (.int .i64 0)
 have y0:(w.alloc (.cells #[.int .i64 0, .int .i64 0] 95)).frozen? ⟨w.heap.size,0,none⟩=false:=by simp
 have y1:(w.alloc (.cells #[.int .i64 0, .int .i64 0] 95)).frozen? ⟨w.heap.size,1,none⟩=false:=by simp
 have hba:=box_below 0 0 w
 generalize hw:w.alloc (.cells #[.int .i64 0, .int .i64 0] 95)=w1 at*
 go_enter Tryz.func87,Tryz.ntmps87
 go_wp2
 refine bodyPost_ret (v:= .tuple #[.agg #[.int .i64 0, .int .i64 0], .int .i64 5]) (by simp only[results,Tryz.results87];go_simp) rfl ⟨rfl,?_⟩
 exact((hba.setCell nL _).setCell nL _)
theorem refOf_ok(n:Int)(w:World)(h1:1<=n)(h2:n<4294967296):
  Calls Tryz.prog 87 #[.int .i64 n] w fun e w'=>e= .returned (.tuple #[.agg #[.int .i64 ((n - 1) % 64), .int .i64 ((n - 1) / 64)], .int .i64 0])/\Below w.heap.size w w':=by
 have HI:Hid (∀w,Calls Tryz.prog 78 #[.int .i64 n] w fun e w'=>e= .returned (.bool true)/\w'=w):=fun w=>(isWordR_any _ w).mono fun _ _ ⟨h3,h4⟩=>⟨by rw[h3,decide_eq_true (by omega)],h4⟩
 have hb:(n==0)=false:=beq_eq_false_iff_ne.2 (by omega)
 obtain⟨z0,z1⟩:=box2c w 95 (.int .i64 0) (.int .i64 0)
 have y0:(w.alloc (.cells #[.int .i64 0, .int .i64 0] 95)).frozen? ⟨w.heap.size,0,none⟩=false:=by simp
 have y1:(w.alloc (.cells #[.int .i64 0, .int .i64 0] 95)).frozen? ⟨w.heap.size,1,none⟩=false:=by simp
 have hba:=box_below 0 0 w
 generalize hw:w.alloc (.cells #[.int .i64 0, .int .i64 0] 95)=w1 at*
 go_enter Tryz.func87,Tryz.ntmps87
 go_wp2_with fail
 refine(HI.out _).mono ?_
 rintro e1 w2 ⟨rfl,rfl⟩
 go_wp2
 refine bodyPost_ret (v:= .tuple #[.agg #[.int .i64 ((n - 1) % 64), .int .i64 ((n - 1) / 64)], .int .i64 0]) (by simp only[results,Tryz.results87];go_simp) rfl ⟨rfl,?_⟩
 exact(hba.setCell nL _).setCell nL _
end
end Go.Proofs.YtdpmnlbnlnmjbaaGreatDoor
