import Derived.Test.YtdpmnlbnlnmjbaaGreatDoorV21
import Derived.Maps.AppendAt
import Derived.Deep.RegionHeld3
import Derived.Test.YtdpmnlbnlnmjbaaGreatDoorV20
import Derived.Test.YtdpmnlbnlnmjbaaGreatDoorV14
import Derived.Test.YtdpmnlbnlnmjbaaGreatDoorV03
import Derived.Deep.RegionWith
namespace Go.Proofs.YtdpmnlbnlnmjbaaGreatDoor
set_option maxRecDepth 100000
set_option maxHeartbeats 8000000
section
open Go.RowKit Go.Extern.Stop Go.Stop Go.Extern Go.Sort
theorem rnames_has{m:Mk}{n:Int}(h:m.names n=true):m.mem.ar.has (cellOf n) (genOf n)=true:=((Bool.and_eq_true _ _).mp h).2
theorem boxAfter0(w:World)(a:Addr)(v:Value)(x y:Int):((w.setCell a v).alloc (.cells #[.int .i64 x, .int .i64 y] 95)).cell? ⟨w.heap.size,0,none⟩=some (.int .i64 x):=by
 have h:=World.size_setCell w a v
 generalize w.setCell a v=W at*
 rw[<-h];simp
theorem boxAfter1(w:World)(a:Addr)(v:Value)(x y:Int):((w.setCell a v).alloc (.cells #[.int .i64 x, .int .i64 y] 95)).cell? ⟨w.heap.size,1,none⟩=some (.int .i64 y):=by
 have h:=World.size_setCell w a v
 generalize w.setCell a v=W at*
 rw[<-h];simp
theorem Mk.setWord_self(m:Mk)(c k:Nat):m.setMem (m.mem.setWord c k (m.mem.ar.words c k))=m:=by
 have :m.mem.setWord c k (m.mem.ar.words c k)=m.mem:=by
  simp only[Rm.setWord,Ar.setWord]
  congr 2
  funext a b
  by_cases h:a=c/\b=k
  ·rw[if_pos h,h.1,h.2]
  ·rw[if_neg h]
 rw[this];rfl
theorem Ar.has_drained(s:Rm)(t:Nat)(x:Wt)(l:List Wt)(c g:Int):(s.drained t x l).ar.has c g=s.ar.has c g:=by
 obtain⟨h1,h2,h3⟩:=Rm.drained_ar s t x l
 unfold Ar.has
 rw[h1,h2,h3]
theorem Mk.setReg_twice(m:Mk)(t r:Nat)(u v:Int):(m.setReg t r u).setReg t r v=m.setReg t r v:=by
 simp only[Mk.setReg]
 congr 1
 funext a b
 by_cases h:a=t/\b=r
 ·rw[if_pos h,if_pos h]
 ·rw[if_neg h,if_neg h,if_neg h]
section
variable {cs:List (List Ins)} {p:RkPl} {m:Mk} {w:World}
theorem RkAt.cellAt(_h:RkAt cs p m w){n:Int}(hy:m.names n=true): ∃k:Nat,cellOf n=k/\k<m.mem.ar.size/\m.mem.ar.has k (genOf n)=true:=by
 have hh:=rnames_has hy
 obtain⟨k,hc,hk, -, -⟩:=Ar.has_lt hh
 exact⟨k,hc,hk,by rw[<-hc];exact hh⟩
theorem rk_load(h:RkAt cs p m w){t:Nat}(ht:t<cs.length)(h8:(m.mem.waits t).length<=8){n:Int}(hy:m.names n=true){wi:Nat}(hw:wi<4):
  Calls Tryz.prog 57 #[.pointer (some ⟨p.rp.mb,0,none⟩), .int .i64 t, .agg #[.int .i64 (cellOf n), .int .i64 (genOf n)], .int .i64 wi] w fun e w'=>e= .returned (.tuple #[.int .i64 (m.loaded t n wi), .int .i64 0])/\Below w.heap.size w w':=by
 obtain⟨k,hc,hk,hh⟩:=h.cellAt hy
 have:=rload_ok p.rp m.mem t k wi (genOf n) w h.mem (by rw[h.thr];exact ht) (Ar.at_ok hh (by omega)) hk hw (by omega)
 unfold Mk.loaded
 rw[hc]
 exact this
theorem rk_store(h:RkAt cs p m w){t:Nat}(ht:t<cs.length)(h8:(m.mem.waits t).length<8){n:Int}(hy:m.names n=true){wi:Nat}(hw:wi<4){v:Int}(hv:Wd v):
  Calls Tryz.prog 59 #[.pointer (some ⟨p.rp.mb,0,none⟩), .int .i64 t, .agg #[.int .i64 (cellOf n), .int .i64 (genOf n)], .int .i64 wi, .int .i64 v] w fun e w'=>e= .returned (.int .i64 0)/\ ∃r,RkStep cs p m.mem w r p.mv (m.put t n wi v) w':=by
 have he:m.mem.storeErr t (cellOf n) (genOf n) wi v=0:=by
  unfold Rm.storeErr
  rw[if_pos (Ar.at_ok (rnames_has hy) (by omega)),if_pos (show 0<=v/\v<4294967296 from hv),if_neg (by omega)]
 exact(rstore_ok p.rp m.mem t (cellOf n) (genOf n) wi v w h.mem (by rw[h.thr];exact ht) he).mono fun e w' ⟨e1,r,q⟩=>⟨e1,r,h.ofMem q rfl⟩
theorem rk_drain(h:RkAt cs p m w){t:Nat}(ht:t<cs.length){x:Wt}{l:List Wt}(he:m.mem.waits t=x::l)(hx:x.Ok)(h8:(m.mem.waits t).length<=8):
  Calls Tryz.prog 58 #[.pointer (some ⟨p.rp.mb,0,none⟩), .int .i64 t] w fun e w'=>e= .returned (.int .i64 (if m.mem.ar.has x.c x.g=true then 0 else 7))/\ ∃r,RkStep cs p m.mem w r p.mv (m.setMem (m.mem.drained t x l)) w':=by
 rw[he,List.length_cons] at h8
 exact(rdrain_walk (if m.mem.ar.has x.c x.g=true then 0 else 7) p.rp m.mem t x l w h.mem (by rw[h.thr];exact ht) he hx.1 (by omega) (hide rfl)).mono fun e w' ⟨e1,r,q⟩=>⟨e1,r,h.ofMem q (Rm.drained_threads _ _ _ _)⟩
theorem rk_drain_none(h:RkAt cs p m w){t:Nat}(ht:t<cs.length)(he:m.mem.waits t=[]):
  Calls Tryz.prog 58 #[.pointer (some ⟨p.rp.mb,0,none⟩), .int .i64 t] w fun e w'=>e= .returned (.int .i64 5)/\Below w.heap.size w w':=
 rdrain_none p.rp m.mem t w h.mem (by rw[h.thr];exact ht) he
theorem rk_alloc_none(h:RkAt cs p m w)(hf:m.mem.ar.free?=none):
  Calls Tryz.prog 48 #[.pointer (some ⟨p.rp.mb,0,none⟩)] w fun e w'=>e= .returned (.tuple #[.agg #[.int .i64 0, .int .i64 0], .int .i64 6])/\Below w.heap.size w w':=
 ralloc_full p.rp m.mem w h.mem (Ar.free_none hf)
theorem rk_alloc_some(h:RkAt cs p m w){c:Nat}(hf:m.mem.ar.free?=some c)(hg:m.mem.ar.given c<=60000000):
  Calls Tryz.prog 48 #[.pointer (some ⟨p.rp.mb,0,none⟩)] w fun e w'=>e= .returned (.tuple #[.agg #[.int .i64 c, .int .i64 (m.mem.ar.given c)], .int .i64 0])/\ ∃r,RkStep cs p m.mem w r p.mv (m.setMem (m.mem.give c)) w':=by
 obtain⟨h1,h2,h3⟩:=Ar.free_some hf
 exact(ralloc_step p.rp m.mem c w h.mem h1 h2 h3 (by omega)).mono fun e w' ⟨e1,r,q⟩=>⟨e1,r,h.ofMem q rfl⟩
theorem RkAt.setWordM(h:RkAt cs p m w){k wi:Nat}(hk:k<m.mem.ar.size)(hw:wi<4)(v:Int):RkStep cs p m.mem w p.rp p.mv (m.setMem (m.mem.setWord k wi v)) (w.setCell ⟨p.rp.wb k,wi,none⟩ (.int .i64 v)):=
 h.ofMem (RmStep.setWord h.mem k wi hk hw v) rfl
theorem RkAt.setThereM(h:RkAt cs p m w){k:Nat}(hk:k<m.mem.ar.size)(b:Bool):RkStep cs p m.mem w p.rp p.mv (m.setMem (m.mem.setThere k b)) (w.setCell ⟨p.rp.cb,k*3+2,none⟩ (.bool b)):=
 h.ofMem (RmStep.setThere h.mem k hk b) rfl
end
end
section
open Go.RowKit Go.Extern.Stop Go.Stop Go.Extern
theorem rmarkInfo: ∃i,Tryz.prog.info? 126=some i/\i.zero=some (.agg #[.int .i64 0, .int .i64 0])/\i.size=2/\i.bytes=16:=info_parts (by kernel_rfl)
theorem RkAt.marked {cs:List (List Ins)} {p:RkPl} {m:Mk} {w w6:World} (h:RkAt cs p m w) (v:Value) (l:List (Nat×Int))
  (hown:w6.ownsRow 0 126 2 v l.length (rmarkCells l)) (hT:Turns (fun k _=>p.mv.ownBlock=some k) w w6) (hk: ∀k,v.ownBlock=some k->p.mv.ownBlock=some k∨w.heap.size<=k):
  RkStep cs p m.mem w p.rp v { m with marks:=l } (w6.setCell ⟨p.k,2,none⟩ v):=by
 have nk: ∀o:Nat, ¬(fun k (_:Nat)=>p.mv.ownBlock=some k) p.k o:=fun _ e=>(h.d4 _ e).1 rfl
 have nt: ∀o:Nat, ¬(fun k (_:Nat)=>p.mv.ownBlock=some k) p.tb o:=fun _ e=>(h.d4 _ e).2.1 rfl
 have nr: ∀t (o:Nat),t<cs.length-> ¬(fun k (_:Nat)=>p.mv.ownBlock=some k) (p.rb t) o:=fun t _ ht e=>(h.d4 _ e).2.2 t ht rfl
 have nv: ∀k,v.ownBlock=some k->k≠p.k/\k≠p.tb/\ ∀t,t<cs.length->k≠p.rb t:=fun k e=>by
  rcases hk k e with e |e
  ·exact h.d4 k e
  ·have h1:=h.lk
   have h2:=h.lt'
   exact⟨by omega,by omega,fun t ht=>by have:=h.lr ht;omega⟩
 have T:Turns (fun k o=>k=p.k/\o=2) w6 (w6.setCell ⟨p.k,2,none⟩ v):=(Turns.refl _ _).setCell _ ⟨rfl,rfl⟩
 have T2:Turns (fun k _=>p.mv.ownBlock=some k∨k=p.k) w (w6.setCell ⟨p.k,2,none⟩ v):=(hT.mono fun _ _ _ e=>Or.inl e).setCell _ (Or.inr rfl)
 have hB: ∀k,p.mv.ownBlock=some k∨k=p.k->p.B<=k:=fun k e=>by
  rcases e with e |e
  ·exact h.ge k (.inr (.inr (.inr (.inl e))))
  ·exact h.ge k (.inl e)
 have dk:=h.d1
 have fz1: ∀o,(w6.setCell ⟨p.k,2,none⟩ v).frozen? ⟨p.k,o,none⟩=false:=fun o=>by rw[World.frozen?_setCell,hT.frozen _ _ h.lk (nk o)];exact h.fk o
 have fz2: ∀o,(w6.setCell ⟨p.k,2,none⟩ v).frozen? ⟨p.tb,o,none⟩=false:=fun o=>by rw[World.frozen?_setCell,hT.frozen _ _ h.lt' (nt o)];exact h.ft o
 have fz3: ∀t o,t<cs.length->(w6.setCell ⟨p.k,2,none⟩ v).frozen? ⟨p.rb t,o,none⟩=false:=fun t o ht=>by rw[World.frozen?_setCell,hT.frozen _ _ (h.lr ht) (nr t o ht)];exact h.fr t o ht
 refine ⟨⟨h.rc.turns T2 (fun k _ e=>hB k e),h.mem.turns T2 (fun k o e1 e=>?_),h.thr,h.few,h.tcap,cell_ne (hT.keep h.mM (nk 0)) (Or.inr (by decide)),cell_ne (hT.keep h.mT (nk 1)) (Or.inr (by decide)),
   World.cell?_setCell_same _ _ _ (hT.keep h.mMarks (nk 2)),cell_ne (hT.keep h.mFaults (nk 3)) (Or.inr (by decide)),
   fun i L hi=>cell_ne (hT.keep (h.tCode i L hi) (nt (i*3))) (Or.inl dk.symm),h.ccap,fun i hi=>cell_ne (hT.keep (h.tRegs i hi) (nt (i*3+1))) (Or.inl dk.symm),fun i hi=>cell_ne (hT.keep (h.tAt i hi) (nt (i*3+2))) (Or.inl dk.symm),h.rcap,
   fun i k hi hk=>cell_ne (hT.keep (h.regs i k hi hk) (nr i k hi)) (Or.inl (h.d2 i hi).1),
   ownsRow_block hown fun k hk=>Below.heap_setCell _ _ _ _ (nv k hk).1,
   fz1,fz2,fz3,by rw[World.size_setCell];exact Nat.lt_of_lt_of_le h.lt' hT.size,h.d1,h.d2,h.d3,nv,fun k e1=>?_,fun k e1=>?_⟩,?_,fun k e1=>?_,rfl⟩
 ·rcases e with e |e
  ·exact(h.d5 k e1).2.2.2 e
  ·exact(h.d5 k e1).1 e
 ·obtain⟨g1,g2,g3,g4⟩:=h.d5 k e1
  refine⟨g1,g2,g3,fun e=>?_⟩
  rcases hk k e with e |e
  ·exact g4 e
  ·have:=h.mem.fp_lt e1;omega
 ·rcases e1 with e |e |e |e |e
  ·exact h.ge k (.inl e)
  ·exact h.ge k (.inr (.inl e))
  ·exact h.ge k (.inr (.inr (.inl e)))
  ·rcases hk k e with e |e
   ·exact h.ge k (.inr (.inr (.inr (.inl e))))
   ·have:=h.rc.size;show p.B<=k;omega
  ·exact h.ge k (.inr (.inr (.inr (.inr e))))
 ·refine T2.mono fun k _ _ e=>?_
  rcases e with e |e
  ·exact .inr (.inr (.inr (.inl e)))
  ·exact .inl e
 ·rcases e1 with e |e |e |e |e
  ·exact .inl (.inl e)
  ·exact .inl (.inr (.inl e))
  ·exact .inl (.inr (.inr (.inl e)))
  ·rcases hk k e with e |e
   ·exact .inl (.inr (.inr (.inr (.inl e))))
   ·exact .inr e
  ·exact .inl (.inr (.inr (.inr (.inr e))))
end
section
open Go.RowKit Go.Extern.Stop Go.Stop Go.Extern Go.Maps Go.WideMaps Go.Sort
variable {sv mv:Array Value} {bs k:Nat} {Q:Exit->Act->World->Prop} {rp:RmPl} {w:World} {mb:Nat} {K:Act->World->Prop} {ops:Array Oper} {R:Rm} {W W':World} {P:Program}
theorem step_copy_cells(w:World){o:Oper}{a:Act}{E:Prop}(hgd:o.guard=none)(s x:Operand)(t elem:TypeId) 
  (ho:o.op= .call { callee:= .builtin .copy,args:=#[s,x],argTypes:=#[t,t] })
  (b off dLen dCap:Nat) (ad:Addr) (sLen sCap:Nat) (cs:List Value) (hs:a.eval s= .slice (some ⟨b,off,none⟩) dLen dCap) (hx:a.eval x= .slice (some ad) sLen sCap)
  (hu:P.underlying t=some (.slice elem)) (hz:(P.info? elem).map (·.size)=some 1) (hn:cs.length=Nat.min sLen dLen)
  (hsrc: ∀j v,cs[j]? =some v->w.cell? (ad.add j)=some v) (hc: ∀j,j<cs.length->(w.cell? ⟨b,off+j,none⟩).isSome=true) (hf: ∀j,j<cs.length->w.frozen? ⟨b,off+j,none⟩=false) (h1: ∀v∈cs,v.oneCell'=true)
  (h:K (a.put o.dst (goInt cs.length)) (w.setCells b off cs)):
  if Region.wanted o (yielded ops a.tmps)=true then Oper.wp P o a w K Q else E:=by
 have hw:Region.wanted o (yielded ops a.tmps)=true:=by simp[Region.wanted,hgd]
 rw[if_pos hw]
 have hr:=run_copy_cells (P:=P) w t t o.type elem b off dLen dCap ad sLen sCap cs hu hz hn hsrc hc hf h1
 unfold Oper.wp execOp
 simp only[ho,resolve,invoke,builtin,Sem.run_bind,Sem.run_pure,Result.andThen_ok,List.map_toArray,List.map_cons,List.map_nil,hs,hx,hr]
 exact h
theorem step_copy_none(w:World){o:Oper}{a:Act}{E:Prop}(hgd:o.guard=none)(s x:Operand)(t elem:TypeId) 
  (ho:o.op= .call { callee:= .builtin .copy,args:=#[s,x],argTypes:=#[t,t] })
  (d:Option Addr) (dLen dCap:Nat) (ad:Option Addr) (sCap:Nat) (hs:a.eval s= .slice d dLen dCap) (hx:a.eval x= .slice ad 0 sCap)
  (hu:P.underlying t=some (.slice elem)) (hz:(P.info? elem).map (·.size)=some 1)
  (h:K (a.put o.dst (goInt 0)) w):
  if Region.wanted o (yielded ops a.tmps)=true then Oper.wp P o a w K Q else E:=by
 have hw:Region.wanted o (yielded ops a.tmps)=true:=by simp[Region.wanted,hgd]
 rw[if_pos hw]
 have hr:=run_copy_none (P:=P) w t t o.type elem d ad dLen dCap 0 sCap hu hz (by simp)
 unfold Oper.wp execOp
 simp only[ho,resolve,invoke,builtin,Sem.run_bind,Sem.run_pure,Result.andThen_ok,List.map_toArray,List.map_cons,List.map_nil,hs,hx,hr]
 exact h
theorem RmStep.lay{M:Mk}{i:Nat}{row:List Int}(h4:row.length<=4): ∀(l:List Int) (j:Nat) {w:World},row.drop j=l->j<=row.length->i<(M.rowPart i row j).mem.ar.size->RmAt rp (M.rowPart i row j).mem w->
  RmStep rp (M.rowPart i row j).mem w rp (M.rowPart i row row.length).mem (w.setCells (rp.wb i) j (l.map (Value.int .i64)))
 | [],j,w,hl,hj,_,h=>by
  have:j=row.length:=by have:=congrArg List.length hl;rw[List.length_drop] at this;simp at this;omega
  subst this
  exact RmStep.refl h
 | v::l,j,w,hl,hj,hi,h=>by
  have hjl:j<row.length:=by have:=congrArg List.length hl;rw[List.length_drop,List.length_cons] at this;omega
  have hv:row[j]? =some v:=by have:=List.getElem?_drop (xs:=row) (i:=j) (j:=0);rw[hl] at this;simpa using this.symm
  have k1:=RmStep.setWord h i j hi (by omega) v
  have e:(M.rowPart i row j).mem.setWord i j v=(M.rowPart i row (j+1)).mem:=by rw[<-Mk.rowPart_succ M i row j hv];rfl
  rw[e] at k1
  have k2:=RmStep.lay h4 l (j+1) (by rw[<-List.drop_drop,hl];rfl) (by omega) (by exact hi) k1.at'
  exact k1.trans k2
structure Nm1(w:World)(bs k:Nat)(sv mv:Array Value)(mb:Nat)(rp:RmPl)(R:Rm)(W:World):Prop where
 mem:RmAt rp R W
 emb:rp.mb=mb
 fp: ∀b,rp.fp R b->w.heap.size<=b/\b≠k/\b≠bs
 gk:w.heap.size<=k
 gs:w.heap.size<=bs
 bk:W.heap[k]? =some (.cells mv 62)
 bb:W.heap[bs]? =some (.cells sv 24)
 bw:Below w.heap.size w W
theorem Nm1.lk{W:World}(h:Nm1 w bs k sv mv mb rp R W):k<W.heap.size:=by
 rcases Nat.lt_or_ge k W.heap.size with h' |h'
 ·exact h'
 ·have:=h.bk;rw[Array.getElem?_eq_none h'] at this;cases this
theorem Nm1.ls{W:World}(h:Nm1 w bs k sv mv mb rp R W):bs<W.heap.size:=by
 rcases Nat.lt_or_ge bs W.heap.size with h' |h'
 ·exact h'
 ·have:=h.bb;rw[Array.getElem?_eq_none h'] at this;cases this
theorem Nm1.step {rp rp':RmPl} {R R':Rm} (h:Nm1 w bs k sv mv mb rp R W) (q:RmStep rp R W rp' R' W'):Nm1 w bs k sv mv mb rp' R' W' where
 mem:=q.at'
 emb:=q.mb.trans h.emb
 fp b hb:=by
  rcases q.fp b hb with e |e
  ·exact h.fp b e
  ·have h1:=h.lk
   have h2:=h.ls
   have h3:=h.bw.size
   exact⟨by omega,by omega,by omega⟩
 gk:=h.gk
 gs:=h.gs
 bk:=(q.turns.block k h.lk (fun _ e=>(h.fp _ e).2.1 rfl)).trans h.bk
 bb:=(q.turns.block bs h.ls (fun _ e=>(h.fp _ e).2.2 rfl)).trans h.bb
 bw:=h.bw.trans (q.turns.below h.bw.size (fun i o hi e=>by have:=(h.fp i e).1;omega))
theorem Nm1.below(h:Nm1 w bs k sv mv mb rp R W)(hb:Below W.heap.size W W'):Nm1 w bs k sv mv mb rp R W' where
 mem:=h.mem.below hb
 emb:=h.emb
 fp:=h.fp
 gk:=h.gk
 gs:=h.gs
 bk:=(hb.block _ h.lk).trans h.bk
 bb:=(hb.block _ h.ls).trans h.bb
 bw:=h.bw.trans (hb.mono h.bw.size)
end
section
open Go.RowKit Go.Extern.Stop Go.Stop Go.Extern Go.Maps Go.WideMaps Go.Sort
theorem thrInfo: ∃i,Tryz.prog.info? 57=some i/\i.zero=some (.agg #[.slice none 0 0, .slice none 0 0, .int .i64 0])/\i.size=3/\i.bytes=56:=info_parts (by kernel_rfl)
theorem make8(w:World):(Instr.makeSlice 26 (.int .i64 8) (.int .i64 8)).run Tryz.prog w= .ok (.slice (some ⟨w.heap.size,0,none⟩) 8 8) (w.alloc (.cells #[.int .i64 0, .int .i64 0, .int .i64 0, .int .i64 0, .int .i64 0, .int .i64 0, .int .i64 0, .int .i64 0] 3)):=by kernel_rfl
structure ThrV where
 ad:Option Addr
 n:Nat
 cap:Nat
 rb:Nat
deriving Inhabited
def ThrV.cells(x:ThrV):List Value:=[.slice x.ad x.n x.cap, .slice (some ⟨x.rb,0,none⟩) 8 8, .int .i64 0]
def thrCells(T:List ThrV):List Value:=T.flatMap ThrV.cells
theorem thrCells_append(T:List ThrV)(x:ThrV):thrCells (T++[x])=thrCells T++x.cells:=by simp[thrCells]
theorem thrCells_at {T:List ThrV} {i:Nat} {x:ThrV} (h:T[i]? =some x):(thrCells T)[i*3]? =some (.slice x.ad x.n x.cap)/\(thrCells T)[i*3+1]? =some (.slice (some ⟨x.rb,0,none⟩) 8 8)/\(thrCells T)[i*3+2]? =some (.int .i64 0):=by
 induction T generalizing i with
 |nil=>simp at h
 | cons y T ih=>
  have e:thrCells (y::T)= .slice y.ad y.n y.cap:: .slice (some ⟨y.rb,0,none⟩) 8 8:: .int .i64 0::thrCells T:=rfl
  rw[e]
  cases i with
  |zero=>cases h;exact⟨rfl,rfl,rfl⟩
  | succ i=>
   have:=ih (i:=i) (by simpa using h)
   rw[show(i+1)*3=i*3+1+1+1 by omega]
   simpa using this
structure Nm2(w0 w:World)(bs k:Nat)(s:Sta)(cs:List (List Ins))(sr:Value)(rp:RmPl)(R:Rm)(T:List ThrV)(v:Value)(W:World):Prop where
 mem:RmAt rp R W
 fp: ∀b,rp.fp R b->w.heap.size<=b/\b≠k/\b≠bs
 gk:w.heap.size<=k
 gs:w.heap.size<=bs
 ks:k≠bs
 k0:W.cell? ⟨k,0,none⟩=some (.pointer (some ⟨rp.mb,0,none⟩))
 k1:W.cell? ⟨k,1,none⟩=some v
 k2:W.cell? ⟨k,2,none⟩=some (.slice none 0 0)
 k3:W.cell? ⟨k,3,none⟩=some (.int .i64 0)
 fk: ∀o,W.frozen? ⟨k,o,none⟩=false
 s2:W.cell? ⟨bs,2,none⟩=some sr
 bw:Below w.heap.size w W
 own:W.ownsRow w.heap.size 57 3 v T.length (thrCells T)
 vb: ∀b,v.ownBlock=some b->b≠k/\b≠bs/\ ¬rp.fp R b
 h0:Below w0.heap.size w0 w
 code: ∀(t:Nat) x,T[t]? =some x-> ∃L,cs[t]? =some L/\x.n=L.length/\L.length<=x.cap/\insAt x.ad L w0
 regs: ∀(t:Nat) x,T[t]? =some x->(∀r,r<8->W.cell? ⟨x.rb,r,none⟩=some (.int .i64 (rowAt s.regs t r)))/\(∀o,W.frozen? ⟨x.rb,o,none⟩=false)
 rne: ∀(t:Nat) x,T[t]? =some x->w.heap.size<=x.rb/\x.rb≠k/\x.rb≠bs/\ ¬rp.fp R x.rb/\v.ownBlock≠some x.rb
 dist: ∀(t u:Nat) x y,T[t]? =some x->T[u]? =some y->t≠u->x.rb≠y.rb
section
variable {w0 w:World} {bs k:Nat} {s:Sta} {cs:List (List Ins)} {sr:Value} {rp:RmPl} {R:Rm} {T:List ThrV} {v:Value} {W:World}
theorem Nm2.rlt(h:Nm2 w0 w bs k s cs sr rp R T v W){t:Nat}{x:ThrV}(hx:T[t]? =some x):x.rb<W.heap.size:=bLt ((h.regs t x hx).1 0 (by decide))
theorem Nm2.below(h:Nm2 w0 w bs k s cs sr rp R T v W){W':World}(hb:Below W.heap.size W W'):Nm2 w0 w bs k s cs sr rp R T v W':=
 have lk:k<W.heap.size:=bLt h.k0
 ⟨h.mem.below hb,h.fp,h.gk,h.gs,h.ks,keep_cell hb h.k0,keep_cell hb h.k1,keep_cell hb h.k2,keep_cell hb h.k3,fun o=>by rw[hb.frozen lk];exact h.fk o,keep_cell hb h.s2,h.bw.trans (hb.mono h.bw.size),
  ownsRow_block h.own (fun b hb'=>hb.block _ (h.own.lt b hb').2),h.vb,h.h0,h.code,fun t x hx=>⟨fun r hr=>keep_cell hb ((h.regs t x hx).1 r hr),fun o=>by rw[hb.frozen (h.rlt hx)];exact(h.regs t x hx).2 o⟩,h.rne,h.dist⟩
theorem Nm2.add (h:Nm2 w0 w bs k s cs sr rp R T v W) {x:ThrV} {L:List Ins} (hL:cs[T.length]? =some L) (h1:x.n=L.length) (h2:L.length<=x.cap) (h3:insAt x.ad L w0)
  {W0:World} (hr0:W0.heap.size<=x.rb) (hv0: ∀b,v.ownBlock=some b->b<W0.heap.size) (hf0: ∀b,rp.fp R b->b<W0.heap.size) (hrr0: ∀(t:Nat) y,T[t]? =some y->y.rb<W0.heap.size) (hk0:k<W0.heap.size) (hb0:bs<W0.heap.size)
  (hr1: ∀r,r<8->W.cell? ⟨x.rb,r,none⟩=some (.int .i64 (rowAt s.regs T.length r))) (hr2: ∀o,W.frozen? ⟨x.rb,o,none⟩=false) (hw0:w.heap.size<=W0.heap.size)
  {W9:World} {v':Value} (hown:W9.ownsRow w.heap.size 57 3 v' (T.length+1) (thrCells (T++[x]))) (hz:W.heap.size<=W9.heap.size)
  (hos:W9.os=W.os) (htp:W9.tape=W.tape) (hou:W9.output=W.output)
  (hg: ∀b,b<W.heap.size->v.ownBlock≠some b->W9.heap[b]? =W.heap[b]?) (hat: ∀b,v'.ownBlock=some b->v.ownBlock=some b∨W.heap.size<=b):
  Nm2 w0 w bs k s cs sr rp R (T++[x]) v' (W9.setCell ⟨k,1,none⟩ v'):=by
 have lk:k<W.heap.size:=bLt h.k0
 have ls:bs<W.heap.size:=bLt h.s2
 have nk:v.ownBlock≠some k:=fun e=>(h.vb k e).1 rfl
 have ns:v.ownBlock≠some bs:=fun e=>(h.vb bs e).2.1 rfl
 have xlt:x.rb<W.heap.size:=bLt (hr1 0 (by decide))
 have xv:v.ownBlock≠some x.rb:=fun e=>by have:=hv0 _ e;omega
 have c9: ∀b o,b<W.heap.size->v.ownBlock≠some b->W9.cell? ⟨b,o,none⟩=W.cell? ⟨b,o,none⟩:=fun b o hb hn=>World.cell?_of_block (hg b hb hn)
 have f9: ∀b o,b<W.heap.size->v.ownBlock≠some b->W9.frozen? ⟨b,o,none⟩=W.frozen? ⟨b,o,none⟩:=fun b o hb hn=>World.frozen?_of_block (hg b hb hn)
 have T1:Turns (fun b _=>v.ownBlock=some b∨b=k) W (W9.setCell ⟨k,1,none⟩ v'):=by
  refine Turns.setCell (h:=?_) _ (Or.inr rfl)
  exact⟨hos,htp,hou,hz,fun b hb ho=>hg b hb (fun e=>ho 0 (Or.inl e)),fun b o hb ho=>c9 b o hb (fun e=>ho (Or.inl e)),fun b o hb ho=>f9 b o hb (fun e=>ho (Or.inl e))⟩
 have nv: ∀b,v'.ownBlock=some b->b≠k/\b≠bs/\ ¬rp.fp R b/\b≠x.rb:=fun b e=>by
  rcases hat b e with e1 |e1
  ·obtain⟨a1,a2,a3⟩:=h.vb b e1
   exact⟨a1,a2,a3,fun e2=>by have:=hv0 b e1;omega⟩
  ·exact⟨by omega,by omega,fun e2=>by have:=h.mem.fp_lt e2;omega,by omega⟩
 have get: ∀{t:Nat} {y:ThrV},(T++[x])[t]? =some y->(T[t]? =some y/\t<T.length)∨(y=x/\t=T.length):=fun {t y} hy=>by
  rcases Nat.lt_or_ge t T.length with h' |h'
  ·rw[List.getElem?_append_left h'] at hy;exact Or.inl ⟨hy,h'⟩
  ·rw[List.getElem?_append_right h'] at hy
   cases hd:t - T.length with
   |zero=>rw[hd] at hy;simp at hy;exact Or.inr ⟨hy.symm,by omega⟩
   |succ n=>rw[hd] at hy;simp at hy
 refine⟨h.mem.turns T1 (fun b o e1 e2=>?_),h.fp,h.gk,h.gs,h.ks,?_,World.cell?_setCell_same _ _ _ ((c9 k 1 lk nk).trans h.k1),?_,?_,fun o=>by rw[World.frozen?_setCell,f9 k o lk nk];exact h.fk o,?_,?_,?_,fun b e=>⟨(nv b e).1,(nv b e).2.1,(nv b e).2.2.1⟩,h.h0,fun t y hy=>?_,fun t y hy=>?_,fun t y hy=>?_,fun t u y z hy hz' hne=>?_⟩
 ·rcases e2 with e2 |e2
  ·exact(h.vb b e2).2.2 e1
  ·exact(h.fp b e1).2.1 e2
 ·exact cell_ne ((c9 k 0 lk nk).trans h.k0) (Or.inr (by decide))
 ·exact cell_ne ((c9 k 2 lk nk).trans h.k2) (Or.inr (by decide))
 ·exact cell_ne ((c9 k 3 lk nk).trans h.k3) (Or.inr (by decide))
 ·exact cell_ne ((c9 bs 2 ls ns).trans h.s2) (Or.inl h.ks.symm)
 ·refine h.bw.trans (T1.below h.bw.size (fun b o hb e=>?_))
  rcases e with e |e
  ·have:=(h.own.lt b e).1;omega
  ·have:=h.gk;omega
 ·rw[List.length_append]
  exact ownsRow_block hown (fun b e=>Below.heap_setCell _ _ _ _ (nv b e).1)
 ·rcases get hy with⟨h', -⟩ |⟨rfl,rfl⟩
  ·exact h.code t y h'
  ·exact⟨L,hL,h1,h2,h3⟩
 ·rcases get hy with⟨h', -⟩ |⟨rfl,rfl⟩
  ·obtain⟨a1,a2,a3,a4,a5⟩:=h.rne t y h'
   have l:=h.rlt h'
   exact⟨fun r hr=>cell_ne ((c9 _ r l a5).trans ((h.regs t y h').1 r hr)) (Or.inl a2),fun o=>by rw[World.frozen?_setCell,f9 _ o l a5];exact(h.regs t y h').2 o⟩
  ·exact⟨fun r hr=>cell_ne ((c9 _ r xlt xv).trans (hr1 r hr)) (Or.inl (by omega)),fun o=>by rw[World.frozen?_setCell,f9 _ o xlt xv];exact hr2 o⟩
 ·rcases get hy with⟨h', -⟩ |⟨rfl,rfl⟩
  ·obtain⟨a1,a2,a3,a4,a5⟩:=h.rne t y h'
   refine⟨a1,a2,a3,a4,fun e=>?_⟩
   rcases hat _ e with e1 |e1
   ·exact a5 e1
   ·have:=h.rlt h';omega
  ·exact⟨by omega,by omega,by omega,fun e=>by have:=hf0 _ e;omega,fun e=>(nv _ e).2.2.2 rfl⟩
 ·rcases get hy with⟨h', -⟩ |⟨rfl,e1⟩
  ·rcases get hz' with⟨h'', -⟩ |⟨rfl,e2⟩
   ·exact h.dist t u y z h' h'' hne
   ·have:=hrr0 t y h';omega
  ·rcases get hz' with⟨h'', -⟩ |⟨rfl,e2⟩
   ·have:=hrr0 u z h'';omega
   ·omega
theorem Nm2.done (h:Nm2 w0 w bs k s cs sr rp (s.mach cs.length).mem T v W) (hn:T.length=cs.length) (h1:1<=cs.length) (h6:cs.length<=6): ∃p:RkPl,p.k=k/\p.B=w0.heap.size/\RkAt cs p (s.mach cs.length) W/\ ∀b,p.fp cs.length (s.mach cs.length).mem b->w.heap.size<=b:=by
 obtain⟨ad,cap,hv,hc,hm,hcell⟩:=ownsRow_shape h.own
 have get: ∀t,t<cs.length-> ∃x,T[t]? =some x:=fun t ht=>⟨_,List.getElem?_eq_getElem (by omega)⟩
 obtain⟨x0,hx0⟩:=get 0 h1
 obtain⟨g,hg, -⟩:=hcell (0*3) _ (thrCells_at hx0).1
 subst hg
 have cl: ∀j u,(thrCells T)[j]? =some u->W.cell? ⟨g,j,none⟩=some u:=fun j u hj=>by
  obtain⟨g',e1,e2⟩:=hcell j u hj
  cases e1;exact e2
 have gb:v.ownBlock=some g:=by rw[hv];rfl
 have gl:=(h.own.lt g gb).2
 have gd: ∀t x,T[t]? =some x->T.getD t default=x:=fun t x hx=>by rw[List.getD_eq_getElem?_getD,hx];rfl
 have frz: ∀o,W.frozen? ⟨g,o,none⟩=false:=fun o=>by
  rcases h.own.2 with⟨e, -⟩ |⟨g',cap',cur,e, -,hh, -⟩
  ·rw[hv] at e;cases e
  ·rw[hv] at e;cases e
   simp[World.frozen?,hh]
 obtain⟨v1,v2,v3⟩:=h.vb g gb
 refine⟨⟨w0.heap.size,rp,k,g,cap,fun t=>(T.getD t default).ad,fun t=>(T.getD t default).cap,fun t=>(T.getD t default).rb,fun _=>8, .slice none 0 0⟩,rfl,rfl,?_⟩
 have rx: ∀t,t<cs.length-> ∃x,T[t]? =some x/\(T.getD t default).rb=x.rb:=fun t ht=>by
  obtain⟨x,hx⟩:=get t ht
  exact⟨x,hx,by rw[gd t x hx]⟩
 have cx: ∀(t:Nat) L,cs[t]? =some L-> ∃x,T[t]? =some x/\T.getD t default=x/\x.n=L.length/\L.length<=x.cap/\insAt x.ad L w0:=fun t L hL=>by
  obtain⟨x,hx⟩:=get t (List.getElem?_eq_some_iff.1 hL).1
  obtain⟨L',e1,e2,e3,e4⟩:=h.code t x hx
  rw[hL] at e1;cases e1
  exact⟨x,hx,gd t x hx,e2,e3,e4⟩
 have hge: ∀b,(⟨w0.heap.size,rp,k,g,cap,fun t=>(T.getD t default).ad,fun t=>(T.getD t default).cap,fun t=>(T.getD t default).rb,fun _=>8, .slice none 0 0⟩:RkPl).fp cs.length (s.mach cs.length).mem b->w.heap.size<=b:=fun b hb=>by
  rcases hb with e |e |⟨t,ht,e⟩ |e |e
  ·rw[e];exact h.gk
  ·rw[e];exact(h.own.lt g gb).1
  ·obtain⟨x,hx,e2⟩:=rx t ht
   have e3:b=(T.getD t default).rb:=e
   rw[e3,e2];exact(h.rne t x hx).1
  ·cases e
  ·exact(h.fp b e).1
 refine⟨?_,hge⟩
 exact {
  rc:=⟨w0,fun t L hL=>by obtain⟨x, -,e, -, -,e4⟩:=cx t L hL;show insAt (T.getD t default).ad L w0;rw[e];exact e4,rfl,below_step h.h0 h.bw⟩
  mem:=h.mem
  thr:=rfl
  few:=h6
  tcap:=by show cs.length<=cap;omega
  mM:=h.k0
  mT:=by rw[h.k1,hv,hn]
  mMarks:=h.k2
  mFaults:=h.k3
  tCode :=fun t L hL=>by
   obtain⟨x,hx,e,e2, -⟩:=cx t L hL
   show W.cell? ⟨g,t*3,none⟩=some (.slice (T.getD t default).ad L.length (T.getD t default).cap)
   rw[e, <-e2]
   exact cl _ _ (thrCells_at hx).1
  ccap:=fun t L hL=>by obtain⟨x, -,e, -,e3, -⟩:=cx t L hL;show L.length<=(T.getD t default).cap;rw[e];exact e3
  tRegs :=fun t ht=>by
   obtain⟨x,hx⟩:=get t ht
   show W.cell? ⟨g,t*3+1,none⟩=some (.slice (some ⟨(T.getD t default).rb,0,none⟩) 8 8)
   rw[gd t x hx]
   exact cl _ _ (thrCells_at hx).2.1
  tAt :=fun t ht=>by
   obtain⟨x,hx⟩:=get t ht
   exact cl _ _ (thrCells_at hx).2.2
  rcap:=fun _ _=>Nat.le_refl _
  regs :=fun t r ht hr=>by
   obtain⟨x,hx,e⟩:=rx t ht
   show W.cell? ⟨(T.getD t default).rb,r,none⟩=some (.int .i64 (rowAt s.regs t r))
   rw[e]
   exact(h.regs t x hx).1 r hr
  own:=World.ownsRow_nil _ _ _ _
  fk:=h.fk
  ft:=frz
  fr:=fun t o ht=>by obtain⟨x,hx,e⟩:=rx t ht;show W.frozen? ⟨(T.getD t default).rb,o,none⟩=false;rw[e];exact(h.regs t x hx).2 o
  lt':=gl
  d1:=fun e=>v1 e.symm
  d2 :=fun t ht=>by
   obtain⟨x,hx,e⟩:=rx t ht
   obtain⟨a1,a2,a3,a4,a5⟩:=h.rne t x hx
   show(T.getD t default).rb≠k/\(T.getD t default).rb≠g
   rw[e]
   exact⟨a2,fun e2=>a5 (by rw[gb,e2])⟩
  d3 :=fun t u ht hu hne=>by
   obtain⟨x,hx,e⟩:=rx t ht
   obtain⟨y,hy,e2⟩:=rx u hu
   show(T.getD t default).rb≠(T.getD u default).rb
   rw[e,e2]
   exact h.dist t u x y hx hy hne
  d4:=fun b e=>by cases e
  d5 :=fun b hb=>⟨(h.fp b hb).2.1,fun e=>v3 (by have e':b=g:=e;rw[<-e'];exact hb),fun t ht=>by
   obtain⟨x,hx,e⟩:=rx t ht
   show b≠(T.getD t default).rb
   rw[e]
   exact fun e2=>(h.rne t x hx).2.2.2.1 (by rw[<-e2];exact hb),fun e=>by cases e⟩
  ge:=fun b hb=>Nat.le_trans h.h0.size (hge b hb) }
end
end
section
open Go.RowKit Go.Extern.Stop Go.Stop Go.Extern
section
variable (cs:List (List Ins)) (ad:Nat->Option Addr) (cc pc:Nat->Nat)
def tcell(rb rc:Nat->Nat)(c:Nat):List Value:=[.slice (ad c) (cs.getD c []).length (cc c), .slice (some ⟨rb c,0,none⟩) 8 (rc c), .int .i64 (pc c)]
def tcells(rb rc:Nat->Nat):Nat->List Value
 |0=>[]
 |n+1=>tcells rb rc n++tcell cs ad cc pc rb rc n
theorem tcells_length(rb rc:Nat->Nat): ∀n,(tcells cs ad cc pc rb rc n).length=n*3
 |0=>rfl
 | n+1=>by
  show(tcells cs ad cc pc rb rc n++tcell cs ad cc pc rb rc n).length=_
  rw[List.length_append,tcells_length rb rc n]
  show n*3+3=_
  omega
theorem tcells_at (rb rc:Nat->Nat): ∀(n c r:Nat),c<n->r<3->(tcells cs ad cc pc rb rc n)[c*3+r]? =(tcell cs ad cc pc rb rc c)[r]?
 |0,c,r,hc,_=>absurd hc (by omega)
 | n+1,c,r,hc,hr=>by
  show(tcells cs ad cc pc rb rc n++tcell cs ad cc pc rb rc n)[c*3+r]? =_
  have hl:=tcells_length cs ad cc pc rb rc n
  by_cases e:c=n
  ·subst e
   rw[List.getElem?_append_right (by omega),hl,show c*3+r - c*3=r by omega]
  ·rw[List.getElem?_append_left (by omega)]
   exact tcells_at rb rc n c r (by omega) hr
theorem tcells_congr{rb rc rb' rc':Nat->Nat}: ∀n,(∀c,c<n->rb c=rb' c/\rc c=rc' c)->tcells cs ad cc pc rb rc n=tcells cs ad cc pc rb' rc' n
 |0,_=>rfl
 | n+1,h=>by
  show tcells cs ad cc pc rb rc n++tcell cs ad cc pc rb rc n=tcells cs ad cc pc rb' rc' n++tcell cs ad cc pc rb' rc' n
  rw[tcells_congr n (fun c hc=>h c (by omega))]
  unfold tcell
  rw[(h n (by omega)).1,(h n (by omega)).2]
end
structure OwK(H k:Nat)(cs:List (List Ins))(p:RkPl)(m:Mk)(mp:RmPl)(mv:Value)(i:Nat)(v:Value)(rb rc:Nat->Nat)(w:World):Prop where
 c0:w.cell? ⟨k,0,none⟩=some (.pointer (some ⟨mp.mb,0,none⟩))
 c1:w.cell? ⟨k,1,none⟩=some v
 c2:w.cell? ⟨k,2,none⟩=some mv
 c3:w.cell? ⟨k,3,none⟩=some (.int .i64 m.faults)
 fo: ∀o,w.frozen? ⟨k,o,none⟩=false
 hk:H<=k
 mem:RmAt mp m.mem w
 memge: ∀b,mp.fp m.mem b->H<=b/\b≠k/\mv.ownBlock≠some b/\v.ownBlock≠some b/\ ∀c,c<i->rb c≠b
 mo:w.ownsRow H 126 2 mv m.marks.length (rmarkCells m.marks)
 mvo:mv.ownBlock≠some k
 own:w.ownsRow H 57 3 v i (tcells cs p.ad p.cc m.pc rb rc i)
 regs: ∀c r,c<i->r<8->w.cell? ⟨rb c,r,none⟩=some (.int .i64 (m.regs c r))
 fw: ∀c o,c<i->w.frozen? ⟨rb c,o,none⟩=false
 rc8: ∀c,c<i->8<=rc c
 ge: ∀c,c<i->H<=rb c/\rb c≠k/\v.ownBlock≠some (rb c)/\mv.ownBlock≠some (rb c)
 dwi: ∀c d,c<i->d<i->c≠d->rb c≠rb d
 vo:v.ownBlock≠some k
 vm: ∀b,v.ownBlock=some b->mv.ownBlock≠some b
section
variable {H k:Nat} {cs:List (List Ins)} {p:RkPl} {m:Mk} {mp:RmPl} {mv:Value} {i:Nat} {v v':Value} {rb rc:Nat->Nat} {w w':World}
theorem OwK.below(h:OwK H k cs p m mp mv i v rb rc w)(b:Below w.heap.size w w'):OwK H k cs p m mp mv i v rb rc w' where
 c0:=keep_cell b h.c0
 c1:=keep_cell b h.c1
 c2:=keep_cell b h.c2
 c3:=keep_cell b h.c3
 fo o:=by
  have hl:k<w.heap.size:=bLt h.c0
  exact(b.frozen (p:=⟨k,o,none⟩) hl).trans (h.fo o)
 hk:=h.hk
 mem:=h.mem.below b
 memge:=h.memge
 mo:=ownsRow_block h.mo fun q hq=>b.block q (h.mo.lt q hq).2
 mvo:=h.mvo
 own:=ownsRow_block h.own fun q hq=>b.block q (h.own.lt q hq).2
 regs c j hc hj:=keep_cell b (h.regs c j hc hj)
 fw c o hc:=by
  have hl:rb c<w.heap.size:=bLt (h.regs c 0 hc (by decide))
  exact(b.frozen (p:=⟨rb c,o,none⟩) hl).trans (h.fw c o hc)
 rc8:=h.rc8
 ge:=h.ge
 dwi:=h.dwi
 vo:=h.vo
 vm:=h.vm
theorem turns_grown{k:Nat}{v:Value}{w w':World}(h:w.grownBy w' v.ownBlock):Turns (fun b _=>b=k∨v.ownBlock=some b) w w':=
 ⟨h.os,h.tape,h.output,h.size,fun b hb ho=>h.block b hb (fun e=>ho 0 (.inr e.symm)),fun b _ hb ho=>World.cell?_of_block (h.block b hb (fun e=>ho (.inr e.symm))),fun b _ hb ho=>World.frozen?_of_block (h.block b hb (fun e=>ho (.inr e.symm)))⟩
theorem OwK.more (h:OwK H k cs p m mp mv i v rb rc w) {g gc:Nat} (hg:H<=g) (hgk:g≠k) (hgv:v.ownBlock≠some g) (hgm:mv.ownBlock≠some g) (hgp: ¬mp.fp m.mem g) (hgw: ∀c,c<i->rb c≠g) (hgl:g<w.heap.size) (hgc:8<=gc)
  (hw: ∀r,r<8->w.cell? ⟨g,r,none⟩=some (.int .i64 (m.regs i r))) (hf: ∀o,w.frozen? ⟨g,o,none⟩=false)
  (hown:w'.ownsRow H 57 3 v' (i+1) (tcells cs p.ad p.cc m.pc rb rc i++[.slice (p.ad i) (cs.getD i []).length (p.cc i), .slice (some ⟨g,0,none⟩) 8 gc, .int .i64 (m.pc i)])) (hgr:w.grownBy w' v.ownBlock) (hat:v'.ownBlock=v.ownBlock∨ ∃b,v'.ownBlock=some b/\w.heap.size<=b):
  OwK H k cs p m mp mv (i+1) v' (fun c=>if c=i then g else rb c) (fun c=>if c=i then gc else rc c) (w'.setCell ⟨k,1,none⟩ v'):=by
 have lo:k<w.heap.size:=bLt h.c0
 have lw: ∀c,c<i->rb c<w.heap.size:=fun c hc=>bLt (h.regs c 0 hc (by decide))
 have lm: ∀b,mp.fp m.mem b->b<w.heap.size:=fun b hb=>h.mem.fp_lt hb
 have l2: ∀b,mv.ownBlock=some b->b<w.heap.size:=fun b hb=>(h.mo.lt b hb).2
 have keep: ∀b,b<w.heap.size->v.ownBlock≠some b->w'.heap[b]? =w.heap[b]? :=fun b hb hv=>hgr.block b hb (fun e=>hv e.symm)
 have kc: ∀b o u,w.cell? ⟨b,o,none⟩=some u->v.ownBlock≠some b->w'.cell? ⟨b,o,none⟩=some u:=fun b o u hc hv=>by
  rw[World.cell?_of_block (keep b (bLt hc) hv)];exact hc
 have kf: ∀b o,b<w.heap.size->w.frozen? ⟨b,o,none⟩=false->v.ownBlock≠some b->(w'.setCell ⟨k,1,none⟩ v').frozen? ⟨b,o,none⟩=false:=fun b o hb hc hv=>by
  rw[World.frozen?_setCell,World.frozen?_of_block (keep b hb hv)];exact hc
 have hv': ∀b,b<w.heap.size->v.ownBlock≠some b->v'.ownBlock≠some b:=fun b hb hv e=>by
  rcases hat with e' |⟨b',e',hb'⟩
  ·exact hv (e'.symm.trans e)
  ·rw[e'] at e
   cases e
   omega
 have vo:=hv' k lo h.vo
 have st: ∀b,b≠k->(w'.setCell ⟨k,1,none⟩ v').heap[b]? =w'.heap[b]? :=fun b hb=>Below.heap_setCell _ _ _ _ hb
 have nvm: ∀b,mv.ownBlock=some b->v.ownBlock≠some b:=fun b hb e=>h.vm b e hb
 have T:Turns (fun b _=>b=k∨v.ownBlock=some b) w (w'.setCell ⟨k,1,none⟩ v'):=
  (turns_grown hgr).setCell _ (.inl rfl)
 refine ⟨cell_ne (kc _ _ _ h.c0 h.vo) (.inr (by decide)),World.cell?_setCell_same _ _ _ (kc _ _ _ h.c1 h.vo),cell_ne (kc _ _ _ h.c2 h.vo) (.inr (by decide)),cell_ne (kc _ _ _ h.c3 h.vo) (.inr (by decide)),fun o=>kf _ _ lo (h.fo o) h.vo,h.hk,
  h.mem.turns T (fun b _ hb e=>?_),fun b hb=>?_,?_,h.mvo,?_,fun c r hc hr=>?_,fun c o hc=>?_,fun c hc=>?_,fun c hc=>?_,fun c d hc hd hne=>?_,vo,fun b hb=>?_⟩
 ·rcases e with e |e
  ·exact(h.memge b hb).2.1 e
  ·exact(h.memge b hb).2.2.2.1 e
 ·obtain⟨q1,q2,q3,q4,q5⟩:=h.memge b hb
  refine⟨q1,q2,q3,hv' b (lm b hb) q4,fun c hc=>?_⟩
  by_cases e:c=i
  ·rw[if_pos e];exact fun e'=>hgp (e' ▸ hb)
  ·rw[if_neg e];exact q5 c (by omega)
 ·exact ownsRow_block h.mo fun b hb=>(st b (fun e=>h.mvo (by have e':b=k:=e;rw[<-e'];exact hb))).trans (keep b (l2 b hb) (nvm b hb))
 ·have e:tcells cs p.ad p.cc m.pc (fun c=>if c=i then g else rb c) (fun c=>if c=i then gc else rc c) (i+1)=tcells cs p.ad p.cc m.pc rb rc i++[.slice (p.ad i) (cs.getD i []).length (p.cc i), .slice (some ⟨g,0,none⟩) 8 gc, .int .i64 (m.pc i)]:=by
   show tcells cs p.ad p.cc m.pc _ _ i++tcell cs p.ad p.cc m.pc _ _ i=_
   rw[tcells_congr cs p.ad p.cc m.pc i (rb':=rb) (rc':=rc) (fun c hc=>⟨if_neg (by omega),if_neg (by omega)⟩)]
   unfold tcell
   dsimp only
   rw[if_pos rfl,if_pos rfl]
  rw[e]
  exact ownsRow_block hown (fun b hb=>st b (fun e=>vo (by have e':b=k:=e;rw[<-e'];exact hb)))
 ·by_cases e:c=i
  ·subst e
   rw[if_pos rfl]
   exact cell_ne (kc _ _ _ (hw r hr) hgv) (.inl hgk)
  ·rw[if_neg e]
   have hc':c<i:=by omega
   exact cell_ne (kc _ _ _ (h.regs c r hc' hr) (h.ge c hc').2.2.1) (.inl (h.ge c hc').2.1)
 ·by_cases e:c=i
  ·subst e
   rw[if_pos rfl]
   exact kf _ _ hgl (hf o) hgv
  ·rw[if_neg e]
   have hc':c<i:=by omega
   exact kf _ _ (lw c hc') (h.fw c o hc') (h.ge c hc').2.2.1
 ·by_cases e:c=i
  ·rw[if_pos e];exact hgc
  ·rw[if_neg e];exact h.rc8 c (by omega)
 ·by_cases e:c=i
  ·rw[if_pos e];exact⟨hg,hgk,hv' g hgl hgv,hgm⟩
  ·rw[if_neg e]
   have hc':c<i:=by omega
   exact⟨(h.ge c hc').1,(h.ge c hc').2.1,hv' _ (lw c hc') (h.ge c hc').2.2.1,(h.ge c hc').2.2.2⟩
 ·by_cases e1:c=i
  ·rw[if_pos e1,if_neg (by omega)]
   exact fun e=>hgw d (by omega) e.symm
  ·rw [if_neg e1]
   by_cases e2:d=i
   ·rw[if_pos e2]
    exact hgw c (by omega)
   ·rw[if_neg e2]
    exact h.dwi c d (by omega) (by omega) hne
 ·rcases hat with e |⟨b',e,hb'⟩
  ·exact h.vm b (e ▸ hb)
  ·rw[e] at hb
   cases hb
   exact fun e'=>by have:=l2 _ e';omega
theorem OwK.whole {vg:Option Addr} {vc:Nat} {w0:World} (h:OwK H k cs p m mp mv cs.length (.slice vg cs.length vc) rb rc w) (h0:RkAt cs p m w0) (hH:w0.heap.size<=H) (hb:Below w0.heap.size w0 w) (h1:1<=cs.length):
  ∃p':RkPl,p'.k=k/\p'.B=p.B/\RkAt cs p' m w/\ ∀b,p'.fp cs.length m.mem b->H<=b:=by
 rcases h.own.2 with⟨-,e⟩ |⟨tb,cap,cur,e,hg,hh,hn,hm,hs,hc⟩
 ·omega
 cases e
 have hB:p.B<=H:=Nat.le_trans h0.rc.size hH
 have cl: ∀c r x,c<cs.length->r<3->(tcell cs p.ad p.cc m.pc rb rc c)[r]? =some x->w.cell? ⟨tb,c*3+r,none⟩=some x:=fun c r x hc hr hx=>by
  rw[World.ownsRow.cellAt h.own (c*3+r) (by omega),tcells_at _ _ _ _ _ _ _ _ _ hc hr];exact hx
 have gd: ∀(t:Nat) L,cs[t]? =some L->cs.getD t []=L/\t<cs.length:=fun t L ht=>⟨by rw[List.getD_eq_getElem?_getD,ht];rfl,(List.getElem?_eq_some_iff.1 ht).1⟩
 have hge: ∀b,(⟨p.B,mp,k,tb,vc,p.ad,p.cc,rb,rc,mv⟩:RkPl).fp cs.length m.mem b->H<=b:=fun b hb=>by
  rcases hb with e |e |⟨t,ht,e⟩ |e |e
  ·have e:b=k:=e
   rw[e];exact h.hk
  ·have e:b=tb:=e
   rw[e];exact hg
  ·have e:b=rb t:=e
   rw[e];exact(h.ge t ht).1
  ·exact(h.mo.lt b e).1
  ·exact(h.memge b e).1
 refine⟨⟨p.B,mp,k,tb,vc,p.ad,p.cc,rb,rc,mv⟩,rfl,rfl,⟨?_,h.mem,h0.thr,h0.few,hn,h.c0,h.c1,h.c2,h.c3,fun t L ht=>?_,h0.ccap,fun t ht=>cl t 1 _ ht (by decide) rfl,fun t ht=>cl t 2 _ ht (by decide) rfl,h.rc8,h.regs,h.mo.mono (Nat.zero_le _),h.fo,fun o=>frozen_of_row w tb o cur _ hh,fun t o ht=>h.fw t o ht,lt_of_block hh,?_,fun t ht=>⟨(h.ge t ht).2.1,?_⟩,h.dwi,fun b hb=>⟨?_,?_,fun t ht e=>(h.ge t ht).2.2.2 (by have e':b=rb t:=e;rw[<-e'];exact hb)⟩,fun b hb=>?_,fun b hb=>Nat.le_trans hB (hge b hb)⟩,hge⟩
 ·exact h0.rc.turns (S:=fun _ _=>False) (Turns.of_below hb) (fun _ _ e=>e.elim)
 ·obtain⟨e,hl⟩:=gd t L ht
  have:=cl t 0 _ hl (by decide) rfl
  rw[e] at this
  exact this
 ·exact fun e=>h.vo (by have e':k=tb:=e;rw[e'];rfl)
 ·exact fun e=>(h.ge t ht).2.2.1 (by have e':rb t=tb:=e;rw[e'];rfl)
 ·exact fun e=>h.mvo (by have e':b=k:=e;rw[<-e'];exact hb)
 ·exact fun e=>h.vm tb rfl (by have e':b=tb:=e;rw[<-e'];exact hb)
 ·obtain⟨q1,q2,q3,q4,q5⟩:=h.memge b hb
  exact⟨q2,fun e=>q4 (by have e':b=tb:=e;rw[e'];rfl),fun t ht e=>q5 t ht e.symm,q3⟩
end
end
section
open Go.RowKit Go.Extern.Stop Go.Stop Go.Extern
variable {cs:List (List Ins)}
theorem rmark_one {l:List (Nat×Int)}: ∀u∈rmarkCells l,u.oneCell'=true:=by
 induction l with
 |nil=>intro u hu;cases hu
 | cons x l ih=>
  intro u hu
  have hu:u∈rmarkCell x++rmarkCells l:=hu
  rw[List.mem_append] at hu
  rcases hu with hu |hu
  ·simp only[rmarkCell,List.mem_cons,List.not_mem_nil,or_false] at hu
   rcases hu with rfl |rfl <;> rfl
  ·exact ih u hu
theorem ownK_first{p:RkPl}{m:Mk}{mp:RmPl}{w w1:World}(hm:RmAt mp m.mem w1)(hge: ∀b,mp.fp m.mem b->w.heap.size<=b)(hb:Below w.heap.size w w1){ty:TypeId}{w2 wx:World}{mv:Value} 
  (e2:w1.alloc (.cells #[.pointer (some ⟨mp.mb,0,none⟩), .slice none 0 0, .slice none 0 0, .int .i64 m.faults] ty)=w2) (hx:wx.ownsRow w.heap.size 126 2 mv m.marks.length (rmarkCells m.marks)) (hgx:w2.drew.grownBy wx (Value.slice none 0 0).ownBlock)
  (hat:mv.ownBlock=(Value.slice none 0 0).ownBlock∨mv.ownBlock=some w2.drew.heap.size):
  OwK w.heap.size w1.heap.size cs p m mp mv 0 (.slice none 0 0) (fun _=>0) (fun _=>0) (wx.setCell ⟨w1.heap.size,2,none⟩ mv)/\Below w.heap.size w (wx.setCell ⟨w1.heap.size,2,none⟩ mv):=by
 subst e2
 have b2:Below w1.heap.size w1 (w1.alloc (.cells #[.pointer (some ⟨mp.mb,0,none⟩), .slice none 0 0, .slice none 0 0, .int .i64 m.faults] ty)):=bRf.alloc nL _
 have k0:(w1.alloc (.cells #[.pointer (some ⟨mp.mb,0,none⟩), .slice none 0 0, .slice none 0 0, .int .i64 m.faults] ty)).cell? ⟨w1.heap.size,0,none⟩=some (.pointer (some ⟨mp.mb,0,none⟩)):=by rw[World.cell?_alloc_new];rfl
 have k1:(w1.alloc (.cells #[.pointer (some ⟨mp.mb,0,none⟩), .slice none 0 0, .slice none 0 0, .int .i64 m.faults] ty)).cell? ⟨w1.heap.size,1,none⟩=some (.slice none 0 0):=by rw[World.cell?_alloc_new];rfl
 have k2:(w1.alloc (.cells #[.pointer (some ⟨mp.mb,0,none⟩), .slice none 0 0, .slice none 0 0, .int .i64 m.faults] ty)).cell? ⟨w1.heap.size,2,none⟩=some (.slice none 0 0):=by rw[World.cell?_alloc_new];rfl
 have k3:(w1.alloc (.cells #[.pointer (some ⟨mp.mb,0,none⟩), .slice none 0 0, .slice none 0 0, .int .i64 m.faults] ty)).cell? ⟨w1.heap.size,3,none⟩=some (.int .i64 m.faults):=by rw[World.cell?_alloc_new];rfl
 have kz: ∀o,(w1.alloc (.cells #[.pointer (some ⟨mp.mb,0,none⟩), .slice none 0 0, .slice none 0 0, .int .i64 m.faults] ty)).frozen? ⟨w1.heap.size,o,none⟩=false:=fun o=>World.frozen?_alloc_new _ _ _ _
 have lk:w1.heap.size<(w1.alloc (.cells #[.pointer (some ⟨mp.mb,0,none⟩), .slice none 0 0, .slice none 0 0, .int .i64 m.faults] ty)).heap.size:=bLt k0
 generalize w1.alloc (.cells #[.pointer (some ⟨mp.mb,0,none⟩), .slice none 0 0, .slice none 0 0, .int .i64 m.faults] ty)=w2 at*
 have bx:Below w2.heap.size w2 wx:=(Below.refl w2.heap.size w2).drew.grown hgx nL (fun k hk=>by cases hk)
 have b3:Below w1.heap.size w1 (wx.setCell ⟨w1.heap.size,2,none⟩ mv):=Below.setCell (p:=⟨w1.heap.size,2,none⟩) (b2.trans (bx.mono (Nat.le_of_lt lk))) nL _
 have hmv: ∀b,mv.ownBlock=some b->w1.heap.size<b:=fun b e=>by
  rcases hat with e' |e'
  ·rw[e'] at e;cases e
  ·rw[e'] at e;cases e;exact lk
 have mvo:mv.ownBlock≠some w1.heap.size:=fun e=>absurd (hmv _ e) (Nat.lt_irrefl _)
 refine⟨⟨cell_ne (keep_cell bx k0) (.inr (by decide)),cell_ne (keep_cell bx k1) (.inr (by decide)),World.cell?_setCell_same _ _ _ (keep_cell bx k2),cell_ne (keep_cell bx k3) (.inr (by decide)),fun o=>by rw[World.frozen?_setCell];exact(bx.frozen (p:=⟨w1.heap.size,o,none⟩) lk).trans (kz o),hb.size,hm.below b3,fun b hb'=>?_,?_,mvo,World.ownsRow_nil _ _ _ _,fun c r hc=>absurd hc (by omega),fun c o hc=>absurd hc (by omega),fun c hc=>absurd hc (by omega),fun c hc=>absurd hc (by omega),fun c d hc=>absurd hc (by omega),fun e=>(by cases e),fun b e=>(by cases e)⟩,hb.trans (b3.mono hb.size)⟩
 ·have l:=hm.fp_lt hb'
  exact⟨hge b hb',by omega,(fun e=>by have:=hmv b e;omega),(fun e=>by cases e),fun c hc=>absurd hc (by omega)⟩
 ·exact ownsRow_block hx fun b e=>Below.heap_setCell _ _ _ _ (fun e'=>by have:=hmv b e;have e':b=w1.heap.size:=e';omega)
theorem rown_any {p:RkPl} {m:Mk} {w:World} (h:RkAt cs p m w) (h1:1<=m.mem.ar.size) (h2:1<=cs.length) (hfew: ∀t,t<cs.length->(m.mem.waits t).length<=1000) (hml:m.marks.length<=1000000):
  Calls Tryz.prog 67 #[.pointer (some ⟨p.k,0,none⟩)] w fun e w'=> ∃p',e= .returned (.pointer (some ⟨p'.k,0,none⟩))/\p'.B=p.B/\RkAt cs p' m w'/\Below w.heap.size w w'/\ ∀b,p'.fp cs.length m.mem b->w.heap.size<=b:=by
 have H0:=hide h
 have h6:=h.few
 have HM:Hid (∀n,Calls Tryz.prog 100 #[.pointer (some ⟨p.rp.mb,0,none⟩)] (w.drewN n) fun e w'=> ∃p',e= .returned (.pointer (some ⟨p'.mb,0,none⟩))/\RmAt p' m.mem w'/\Below w.heap.size w w'/\ ∀b,p'.fp m.mem b->w.heap.size<=b):=fun n=>
  (rmown_any (h.mem.drewN n) h1 (by rw[h.thr];exact h2) (fun t ht=>hfew t (by rw[<-h.thr];exact ht))).mono fun e w' ⟨p',q1,q2,q3,q4⟩=>⟨p',q1,q2,(Below.drewN' n).trans q3,q4⟩
 have m0:=h.mM
 have m3:=h.mFaults
 obtain⟨ug,uc,eu, -, -, -⟩:=ownsRow_shape h.own
 have m2:=h.mMarks
 rw[eu] at m2
 have HU:Hid (w.ownsRow 0 126 2 (.slice ug m.marks.length uc) m.marks.length (rmarkCells m.marks)):=by rw[<-eu];exact h.own
 have lk:=h.lk
 obtain⟨ri,hri,hrz,hrs,hrb⟩:=rmarkInfo
 clear h h1 hfew eu
 go_enter Tryz.func67,Tryz.ntmps67
 go_wp2_with fail
 go_region_with (go_at_call 100;refine(HM.out 1).mono ?_;rintro e1 w1 ⟨mp,rfl,hm1,hb1,hge1⟩;have m3x:=keep_cell hb1 m3)
 all_goals
  have HK:=hide (fun w2 wx mv e2 hx hgx hat=>ownK_first (p:=p) (ty:=62) (w2:=w2) (cs:=cs) (wx:=wx) (mv:=mv) hm1 hge1 hb1 e2 hx hgx hat)
  have hs1:=hb1.size
  clear m0 m3 m3x HM hm1 hge1
  go_wp2_with fail
  have bw2:Below w1.heap.size w1 (w1.alloc (.cells #[.pointer (some ⟨mp.mb,0,none⟩), .slice none 0 0, .slice none 0 0, .int .i64 m.faults] 62)):=bRf.alloc nL _
  have k2:(w1.alloc (.cells #[.pointer (some ⟨mp.mb,0,none⟩), .slice none 0 0, .slice none 0 0, .int .i64 m.faults] 62)).cell? ⟨w1.heap.size,2,none⟩=some (.slice none 0 0):=by rw[World.cell?_alloc_new];rfl
  have kz:(w1.alloc (.cells #[.pointer (some ⟨mp.mb,0,none⟩), .slice none 0 0, .slice none 0 0, .int .i64 m.faults] 62)).frozen? ⟨w1.heap.size,2,none⟩=false:=World.frozen?_alloc_new _ _ _ _
  have lk2:w1.heap.size<(w1.alloc (.cells #[.pointer (some ⟨mp.mb,0,none⟩), .slice none 0 0, .slice none 0 0, .int .i64 m.faults] 62)).heap.size:=bLt k2
  have bww:Below w.heap.size w (w1.alloc (.cells #[.pointer (some ⟨mp.mb,0,none⟩), .slice none 0 0, .slice none 0 0, .int .i64 m.faults] 62)):=hb1.trans (bw2.mono hs1)
  have m2x:=keep_cell bww m2
  have HUx:Hid ((w1.alloc (.cells #[.pointer (some ⟨mp.mb,0,none⟩), .slice none 0 0, .slice none 0 0, .int .i64 m.faults] 62)).drew.ownsRow 0 126 2 (.slice ug m.marks.length uc) m.marks.length (rmarkCells m.marks)):=ownsRow_block HU.out fun b hb=>bww.drew.block b (HU.out.lt b hb).2
  generalize hw2:(w1.alloc (.cells #[.pointer (some ⟨mp.mb,0,none⟩), .slice none 0 0, .slice none 0 0, .int .i64 m.faults] 62))=w2 at*
  have HBW:=hide bww
  have hld:w.heap.size<=w2.drew.heap.size:=Nat.le_trans hs1 (Nat.le_of_lt lk2)
  clear m2 bww bw2 hb1 HU
  go_region_law
   ((refine step_append_rows _ (by rfl) _ _ _ (by rfl) w.heap.size 0 126 ri _ 2 16 Tryz.underlying60 hri hrz hrs hrb rfl (by omega) (.slice none 0 0) (.slice ug m.marks.length uc) 0 m.marks.length [] (rmarkCells m.marks) (by rfl) (World.ownsRow_nil _ _ _ _) (by rfl) HUx.out rmark_one m.marks.length (Nat.zero_add _) (rmarkCells m.marks) rfl (by unfold maxLen;omega) (by omega) hld ?_;intro xg xc wx hx hgx hatx
     have bx:Below w2.heap.size w2 wx:=(Below.refl w2.heap.size w2).drew.grown hgx nL (fun k hk=>by cases hk)
     have k2x:=keep_cell bx k2
     have kzx:wx.frozen? ⟨w1.heap.size,2,none⟩=false:=(bx.frozen (p:=⟨w1.heap.size,2,none⟩) lk2).trans kz))
  all_goals
   have HF:=hide (HK.out w2 wx _ rfl hx hgx hatx)
   clear HK hw2 hx hgx hatx bx k2x kzx k2 kz m2x HUx HBW hld
   generalize wx.setCell ⟨w1.heap.size,2,none⟩ (.slice xg m.marks.length xc)=w3 at*
   clear lk2
   generalize hmv:Value.slice xg m.marks.length xc=mv at HF
   clear hmv
   have hKK:=HF.out.1.hk
   generalize w1.heap.size=k at*
   clear hs1 hri hrz hrs hrb
   go_wp2_with fail
   go_loopw [4,5,6] (fun i c l wr=>Below w.heap.size w wr/\ ∃(j:Nat) (v:Value) (rb rc:Nat->Nat),j<=cs.length/\i= .int .i64 j/\Hid (OwK w.heap.size k cs p m mp mv j v rb rc wr)) (fun i _ _ _=>cs.length - (intOf i).toNat)
   case atStart=>exact⟨HF.out.2,0,_,_,_,Nat.zero_le _,rfl,HF.out.1⟩
   case round =>
    clear HF
    obtain⟨hbw,j,v,rb,rc,hj,rfl,HO⟩:=hrel
    have Hr:=hide (H0.out.below hbw)
    obtain⟨vg,vc,rfl, -, -, -⟩:=ownsRow_shape HO.out.own
    have hm:=Hr.out.mT
    have hcc:=Hr.out.tcap
    by_cases hlt:j<cs.length
    ·obtain ⟨L,hL⟩: ∃L,cs[j]? =some L:=⟨_,List.getElem?_eq_getElem hlt⟩
     have HL:Hid (cs.getD j []=L):=by show _=_;rw[List.getD_eq_getElem?_getD,hL];rfl
     have e0:=Hr.out.tCode j L hL
     have e1:=Hr.out.tRegs j hlt
     have e2:=Hr.out.tAt j hlt
     have hw4:=Hr.out.rcap j hlt
     have nl:numsAt (some ⟨p.rb j,0,none⟩) [m.regs j 0,m.regs j 1,m.regs j 2,m.regs j 3,m.regs j 4,m.regs j 5,m.regs j 6,m.regs j 7] wr:=fun r x hx=>by
      refine⟨p.rb j,0,rfl,?_⟩
      rw[Nat.zero_add]
      match r,hx with
      |0,hx=>cases hx;exact Hr.out.regs j 0 hlt (by decide)
      |1,hx=>cases hx;exact Hr.out.regs j 1 hlt (by decide)
      |2,hx=>cases hx;exact Hr.out.regs j 2 hlt (by decide)
      |3,hx=>cases hx;exact Hr.out.regs j 3 hlt (by decide)
      |4,hx=>cases hx;exact Hr.out.regs j 4 hlt (by decide)
      |5,hx=>cases hx;exact Hr.out.regs j 5 hlt (by decide)
      |6,hx=>cases hx;exact Hr.out.regs j 6 hlt (by decide)
      |7,hx=>cases hx;exact Hr.out.regs j 7 hlt (by decide)
     have nj:(j:Int)<cs.length:=by omega
     have HN:=hide nl
     have HB:=hide hbw
     have hkr:k<wr.heap.size:=bLt HO.out.c0
     have bc:Below wr.heap.size wr (wr.alloc (.cells #[.slice (p.ad j) L.length (p.cc j), .slice (some ⟨p.rb j,0,none⟩) 8 (p.rcap j), .int .i64 (m.pc j)] 57)):=bRf.alloc nL _
     clear hbw nl hL
     go_wp2_with (at_builtin;refine wpList_append_ints _ rfl _ _ rfl wr.heap.size [] [m.regs j 0,m.regs j 1,m.regs j 2,m.regs j 3,m.regs j 4,m.regs j 5,m.regs j 6,m.regs j 7] (.slice none 0 0) ⟨p.rb j,0,none⟩ (p.rcap j) rfl ?q1 rfl ?q2 ?q3 ?q4 ?_)
     case q1=>exact numsOwn_nil _ _
     case q2=>exact HN.out.below bc
     case q3=>show 0+8<=_;decide
     case q4=>simp
     intro v1 wq hv1 hb1 hs1 hg1 hl1
     obtain⟨g,gc,rfl,hbg,hgl,hgc,hgw,hgf⟩:=ints_block hv1 (n:=8) rfl (by decide)
     have bw1:Below wr.heap.size wr wq:=bc.trans hb1
     have c0:wq.cell? ⟨wr.heap.size,0,none⟩=some (.slice (p.ad j) L.length (p.cc j)):=by
      rw[hg1.cell_far ⟨wr.heap.size,0,none⟩ (by simp) (by simp[Value.ownBlock]),World.cell?_alloc_new];rfl
     have c1:wq.cell? ⟨wr.heap.size,1,none⟩=some (.slice (some ⟨p.rb j,0,none⟩) 8 (p.rcap j)):=by
      rw[hg1.cell_far ⟨wr.heap.size,1,none⟩ (by simp) (by simp[Value.ownBlock]),World.cell?_alloc_new];rfl
     have c2:wq.cell? ⟨wr.heap.size,2,none⟩=some (.int .i64 (m.pc j)):=by
      rw[hg1.cell_far ⟨wr.heap.size,2,none⟩ (by simp) (by simp[Value.ownBlock]),World.cell?_alloc_new];rfl
     have cz:wq.frozen? ⟨wr.heap.size,1,none⟩=false:=by
      rw[hg1.frozen_far ⟨wr.heap.size,1,none⟩ (by simp) (by simp[Value.ownBlock]),World.frozen?_alloc_new]
     have hgn:g=wr.heap.size+1:=by
      rcases hl1 with e |e
      ·cases e
      ·simpa [Value.ownBlock] using e
     have hgx:g≠wr.heap.size:=by omega
     clear hgn
     have bw2:Below wr.heap.size wq (wq.setCell ⟨wr.heap.size,1,none⟩ (.slice (some ⟨g,0,none⟩) 8 gc)):=Below.setCell (B:=wr.heap.size) (p:=⟨wr.heap.size,1,none⟩) bRf nL _
     have k0:(wq.setCell ⟨wr.heap.size,1,none⟩ (.slice (some ⟨g,0,none⟩) 8 gc)).cell? ⟨wr.heap.size,0,none⟩=some (.slice (p.ad j) L.length (p.cc j)):=cell_ne c0 (.inr (by decide))
     have k1:(wq.setCell ⟨wr.heap.size,1,none⟩ (.slice (some ⟨g,0,none⟩) 8 gc)).cell? ⟨wr.heap.size,1,none⟩=some (.slice (some ⟨g,0,none⟩) 8 gc):=World.cell?_setCell_same _ _ _ c1
     have k2:(wq.setCell ⟨wr.heap.size,1,none⟩ (.slice (some ⟨g,0,none⟩) 8 gc)).cell? ⟨wr.heap.size,2,none⟩=some (.int .i64 (m.pc j)):=cell_ne c2 (.inr (by decide))
     have HGW:Hid (∀r,r<8->(wq.setCell ⟨wr.heap.size,1,none⟩ (.slice (some ⟨g,0,none⟩) 8 gc)).cell? ⟨g,r,none⟩=some (.int .i64 (m.regs j r))):=fun r hr=>by
      refine cell_ne ?_ (.inl hgx)
      match r,hr with
      |0,_=>exact hgw 0 _ rfl
      |1,_=>exact hgw 1 _ rfl
      |2,_=>exact hgw 2 _ rfl
      |3,_=>exact hgw 3 _ rfl
      |4,_=>exact hgw 4 _ rfl
      |5,_=>exact hgw 5 _ rfl
      |6,_=>exact hgw 6 _ rfl
      |7,_=>exact hgw 7 _ rfl
     have HGF:Hid (∀o,(wq.setCell ⟨wr.heap.size,1,none⟩ (.slice (some ⟨g,0,none⟩) 8 gc)).frozen? ⟨g,o,none⟩=false):=fun o=>by rw[World.frozen?_setCell];exact hgf o
     have hgl2:g<(wq.setCell ⟨wr.heap.size,1,none⟩ (.slice (some ⟨g,0,none⟩) 8 gc)).heap.size:=by rw[World.size_setCell];exact hgl
     have HBB:Hid (Below wr.heap.size wr (wq.setCell ⟨wr.heap.size,1,none⟩ (.slice (some ⟨g,0,none⟩) 8 gc))):=bw1.trans bw2
     clear hv1 hb1 hg1 hl1 bc hm hcc e0 e1 e2 hw4 hgw hgf bw1 bw2 HN
     go_wp2_with fail
     clear c0 c1 c2 cz hgl hs1
     generalize wq.setCell ⟨wr.heap.size,1,none⟩ (.slice (some ⟨g,0,none⟩) 8 gc)=w2 at*
     have HO2:=hide (HO.out.below HBB.out)
     have HV:Hid ((Value.slice vg j vc).ownBlock≠some g/\mv.ownBlock≠some g/\ ¬mp.fp m.mem g/\ ∀c,c<j->rb c≠g):=
      ⟨fun e=>by have:=(HO.out.own.lt _ e).2;omega,fun e=>by have:=(HO.out.mo.lt _ e).2;omega,fun e=>by have:=HO.out.mem.fp_lt e;omega,fun c hc=>by
       have:rb c<wr.heap.size:=bLt (HO.out.regs c 0 hc (by decide))
       omega⟩
     have o0:=HO2.out.c1
     have oz:=HO2.out.fo 1
     have hsz2:wr.heap.size+1<=w2.heap.size:=by omega
     have bW:Below w2.heap.size w2 ((w2.alloc (.cells #[.slice (p.ad j) L.length (p.cc j), .slice (some ⟨g,0,none⟩) 8 gc, .int .i64 (m.pc j)] 57)).drew):=(bRf.alloc nL _).drew
     have HOW:=hide (HO2.out.below bW)
     have HNW:Hid (∀i u,([.slice (p.ad j) L.length (p.cc j), .slice (some ⟨g,0,none⟩) 8 gc, .int .i64 (m.pc j)]:List Value)[i]? =some u->((w2.alloc (.cells #[.slice (p.ad j) L.length (p.cc j), .slice (some ⟨g,0,none⟩) 8 gc, .int .i64 (m.pc j)] 57)).drew).cell? ((⟨w2.heap.size,0,none⟩:Addr).add i)=some u):=fun i u hu=>by
      rw[Addr.add_lit,Nat.zero_add]
      rw[World.cell?_drew,World.cell?_alloc_new, <-hu, <-Array.getElem?_toList]
     have hone: ∀u∈([.slice (p.ad j) L.length (p.cc j), .slice (some ⟨g,0,none⟩) 8 gc, .int .i64 (m.pc j)]:List Value),u.oneCell'=true:=fun u hu=>by
      simp only[List.mem_cons,List.not_mem_nil,or_false] at hu
      rcases hu with rfl |rfl |rfl <;> rfl
     have hle:w.heap.size<=((w2.alloc (.cells #[.slice (p.ad j) L.length (p.cc j), .slice (some ⟨g,0,none⟩) 8 gc, .int .i64 (m.pc j)] 57)).drew).heap.size:=by have:=bW.size;omega
     have oW:=HOW.out.c1
     have ozW:=HOW.out.fo 1
     have loW:k<((w2.alloc (.cells #[.slice (p.ad j) L.length (p.cc j), .slice (some ⟨g,0,none⟩) 8 gc, .int .i64 (m.pc j)] 57)).drew).heap.size:=bLt oW
     have vo:=HO.out.vo
     have lo2:k<w2.heap.size:=by omega
     have lr2:wr.heap.size<w2.heap.size:=by omega
     have HGWW:Hid (∀r,r<8->((w2.alloc (.cells #[.slice (p.ad j) L.length (p.cc j), .slice (some ⟨g,0,none⟩) 8 gc, .int .i64 (m.pc j)] 57)).drew).cell? ⟨g,r,none⟩=some (.int .i64 (m.regs j r))):=fun r hr=>keep_cell bW (HGW.out r hr)
     have HGFW:Hid (∀o,((w2.alloc (.cells #[.slice (p.ad j) L.length (p.cc j), .slice (some ⟨g,0,none⟩) 8 gc, .int .i64 (m.pc j)] 57)).drew).frozen? ⟨g,o,none⟩=false):=fun o=>(bW.frozen (p:=⟨g,o,none⟩) hgl2).trans (HGF.out o)
     have glW:g<((w2.alloc (.cells #[.slice (p.ad j) L.length (p.cc j), .slice (some ⟨g,0,none⟩) 8 gc, .int .i64 (m.pc j)] 57)).drew).heap.size:=Nat.lt_of_lt_of_le hgl2 bW.size
     have HBW:Hid (Below w.heap.size w ((w2.alloc (.cells #[.slice (p.ad j) L.length (p.cc j), .slice (some ⟨g,0,none⟩) 8 gc, .int .i64 (m.pc j)] 57)).drew)):=(HB.out.trans (HBB.out.mono (by omega))).trans (bW.mono (by omega))
     obtain⟨ci,hci,hcz,hcs,hcb⟩:=thrInfo
     go_region_law
      ((refine step_append_at _ (by rfl) _ _ _ (by rfl) w.heap.size 57 ci _ 3 56 Tryz.underlying59 hci hcz hcs hcb rfl (by omega) (.slice vg j vc) j (tcells cs p.ad p.cc m.pc rb rc j) (by rfl) HOW.out.own
         ⟨w2.heap.size,0,none⟩ 1 1 [.slice (p.ad j) L.length (p.cc j), .slice (some ⟨g,0,none⟩) 8 gc, .int .i64 (m.pc j)] (by rfl) (by rfl) HNW.out hone
         (by unfold maxLen;omega) (by omega) hle ?_;intro gg gcap w6 hown6 hgrow hat
        have hm6:w6.cell? ⟨k,1,none⟩=some (.slice vg j vc):=(hgrow.cell_far ⟨k,1,none⟩ loW (fun e=>vo e.symm)).trans oW
        have hf6:w6.frozen? ⟨k,1,none⟩=false:=(hgrow.frozen_far ⟨k,1,none⟩ loW (fun e=>vo e.symm)).trans ozW))
     all_goals
      have HF:=hide (HOW.out.more (v':= .slice gg (j+1) gcap) (by omega) (by omega) HV.out.1 HV.out.2.1 HV.out.2.2.1 HV.out.2.2.2 glW hgc HGWW.out HGFW.out (by rw[HL.out];exact hown6) hgrow (hat.imp id (fun e=>⟨_,e,Nat.le_refl _⟩)))
      have HBF:Hid (Below w.heap.size w (w6.setCell ⟨k,1,none⟩ (.slice gg (j+1) gcap))):=Below.setCell (B:=w.heap.size) (p:=⟨k,1,none⟩) (HBW.out.grown hgrow hle (fun b hb=>(HOW.out.own.lt b hb).1)) hKK _
      clear HOW HNW HGWW HGFW HBW HGW HGF HO2 HO Hr HB HBB HV hown6 hgrow hat hm6 hf6 oW ozW o0 oz k0 k1 k2 hone bW loW hle glW hci hcz hcs hcb
      go_wp2_with fail
      go_roundw
      case rel=>exact⟨HBF.out,j+1,_,_,_,by omega,by go_num,HF⟩
      case measure=>simp[intOf];omega
    ·obtain rfl:j=cs.length:=by omega
     have HB:=hide hbw
     have HR:=hide (HO.out.whole H0.out nL hbw h2)
     clear HO Hr hcc hbw hlt hj
     go_wp2_with fail
     go_ret
     obtain⟨p',e1,e2,e3,e4⟩:=HR.out
     exact⟨p',by rw[e1];rfl,e2,e3,HB.out,e4⟩
end
end Go.Proofs.YtdpmnlbnlnmjbaaGreatDoor
