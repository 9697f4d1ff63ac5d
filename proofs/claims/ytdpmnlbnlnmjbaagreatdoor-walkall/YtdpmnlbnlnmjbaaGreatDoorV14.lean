import Derived.Test.YtdpmnlbnlnmjbaaGreatDoorV13
import Derived.Laws.IdiomCopy
import Derived.Laws.Rows
import Derived.Laws.Tables
namespace Go.Proofs.YtdpmnlbnlnmjbaaGreatDoor
set_option maxRecDepth 100000
set_option maxHeartbeats 8000000
section
open Go.RowKit Go.Extern.Stop Go.Stop Go.Extern Go.Maps Go.WideMaps Go.Sort
variable {n i t:Nat} {Q:Exit->Act->World->Prop} {row:List Int} {s:Sta} {R:List (List Int)} {ops:Array Oper} {rest:List Oper} {P:Program} {w:World}
theorem rowAt_take{t:Nat}(h:R[t]? =some row)(u k:Nat):rowAt (R.take (t+1)) u k=if u=t then row.getD k 0 else rowAt (R.take t) u k:=by
 have ht:=(List.getElem?_eq_some_iff.1 h).1
 unfold rowAt
 by_cases e:u=t
 ·rw[if_pos e,e]
  congr 1
  rw[List.getD_eq_getElem?_getD,List.getElem?_take,if_pos (by omega),h];rfl
 ·rw[if_neg e]
  congr 1
  rw[List.getD_eq_getElem?_getD,List.getD_eq_getElem?_getD,List.getElem?_take,List.getElem?_take]
  by_cases e2:u<t
  ·rw[if_pos (by omega),if_pos e2]
  ·rw[if_neg (by omega),if_neg e2]
theorem rowAt_out{t u:Nat}(h:t<=u)(k:Nat):rowAt (R.take t) u k=0:=by
 unfold rowAt
 have:(R.take t).getD u []=[]:=by rw[List.getD_eq_getElem?_getD,List.getElem?_take,if_neg (by omega)];rfl
 rw[this];rfl
def Sta.at1(s:Sta)(n i t:Nat):Mk where
 mem:={ Rm.fresh s.cells.toNat n with ar:=(Rm.fresh s.cells.toNat n).ar.filled (s.init.take i) }
 regs:=rowAt (s.regs.take t)
 pc _:=0
 marks:=[]
 faults:=0
theorem Sta.at1_end(s:Sta)(n:Nat):s.at1 n s.init.length s.regs.length=s.mach n:=by
 unfold Sta.at1 Sta.mach
 rw[List.take_length,List.take_length]
theorem Ar.filled_nil(s:Ar):s.filled []=s:=by
 unfold Ar.filled
 simp
def Mk.setRegs(m:Mk)(t r:Nat):List Int->Mk
 | []=>m
 |v::l=>(m.setReg t r v).setRegs t (r+1) l
theorem Mk.setRegs_regs: ∀(l:List Int) (m:Mk) (t r u k:Nat),(m.setRegs t r l).regs u k=if u=t/\r<=k/\k<r+l.length then l.getD (k - r) 0 else m.regs u k
 | [],m,t,r,u,k=>by rw[if_neg (by simp)];rfl
 | v::l,m,t,r,u,k=>by
  show((m.setReg t r v).setRegs t (r+1) l).regs u k=_
  rw[Mk.setRegs_regs l]
  simp only[Mk.setReg,List.length_cons]
  by_cases h1:u=t/\r+1<=k/\k<r+1+l.length
  ·rw[if_pos h1,if_pos (by omega)]
   rw[show k - r=(k - (r+1))+1 by omega];rfl
  ·rw[if_neg h1]
   by_cases h2:u=t/\k=r
   ·rw[if_pos h2,if_pos (by omega),h2.2,Nat.sub_self];rfl
   ·rw[if_neg h2,if_neg (by omega)]
theorem Mk.setRegs_other: ∀(l:List Int) (m:Mk) (t r:Nat),(m.setRegs t r l).mem=m.mem/\(m.setRegs t r l).pc=m.pc/\(m.setRegs t r l).marks=m.marks/\(m.setRegs t r l).faults=m.faults
 | [],_,_,_=>⟨rfl,rfl,rfl,rfl⟩
 |v::l,m,t,r=>Mk.setRegs_other l (m.setReg t r v) t (r+1)
theorem Mk.ext'{m m':Mk}(h1:m.mem=m'.mem)(h2:m.regs=m'.regs)(h3:m.pc=m'.pc)(h4:m.marks=m'.marks)(h5:m.faults=m'.faults):m=m':=by
 cases m;cases m';simp only at h1 h2 h3 h4 h5;rw[h1,h2,h3,h4,h5]
theorem Sta.at1_regs(h:s.regs[t]? =some row):(s.at1 n i t).setRegs t 0 row=s.at1 n i (t+1):=by
 obtain⟨h1,h2,h3,h4⟩:=Mk.setRegs_other row (s.at1 n i t) t 0
 refine Mk.ext' h1 ?_ h2 h3 h4
 funext u k
 rw[Mk.setRegs_regs]
 show _=rowAt (s.regs.take (t+1)) u k
 rw[rowAt_take h]
 show(if _ then _ else rowAt (s.regs.take t) u k)=_
 by_cases e:u=t
 ·rw[if_pos e]
  by_cases e2:k<row.length
  ·rw[if_pos (by omega),Nat.sub_zero]
  ·rw[if_neg (by omega),e,rowAt_out nL,List.getD_eq_getElem?_getD,List.getElem?_eq_none (by omega)];rfl
 ·rw[if_neg (fun h=>e h.1),if_neg e]
def Mk.rowPart(m:Mk)(i:Nat)(row:List Int)(j:Nat):Mk:=
 m.setMem { m.mem.give i with ar:={ (m.mem.give i).ar with words:=fun c k=>if c=i/\k<j then row.getD k 0 else(m.mem.give i).ar.words c k } }
theorem Mk.rowPart_zero(m:Mk)(i:Nat)(row:List Int):m.rowPart i row 0=m.setMem (m.mem.give i):=by
 unfold Mk.rowPart
 have :(fun c k=>if c=i/\k<0 then row.getD k 0 else(m.mem.give i).ar.words c k)=(m.mem.give i).ar.words:=by
  funext c k;rw[if_neg (by omega)]
 rw[this]
theorem Mk.rowPart_succ(m:Mk)(i:Nat)(row:List Int)(j:Nat){v:Int}(hv:row[j]? =some v):(m.rowPart i row j).setMem ((m.rowPart i row j).mem.setWord i j v)=m.rowPart i row (j+1):=by
 unfold Mk.rowPart Mk.setMem Rm.setWord Ar.setWord
 simp only
 congr 3
 funext c k
 by_cases h1:c=i/\k=j
 ·rw[if_pos h1,if_pos (by omega),h1.2,List.getD_eq_getElem?_getD,hv];rfl
 ·rw[if_neg h1]
  by_cases h2:c=i/\k<j
  ·rw[if_pos h2,if_pos (by omega)]
  ·rw[if_neg h2,if_neg (by omega)]
theorem Sta.at1_row (h:s.init[i]? =some row) (h4:row.length<=4):(s.at1 n i t).rowPart i row row.length=s.at1 n (i+1) t:=by
 have hi:=(List.getElem?_eq_some_iff.1 h).1
 have hl:(s.init.take i).length=i:=by rw[List.length_take];omega
 have hl2:(s.init.take (i+1)).length=i+1:=by rw[List.length_take];omega
 refine Mk.ext' ?_ rfl rfl rfl rfl
 show Rm.mk _ _ _=Rm.mk _ _ _
 congr 1
 show Ar.mk _ _ _ _=Ar.mk _ _ _ _
 congr 1
 ·funext c k
  show(if _ then _ else if c=i/\k<4 then 0 else if c<(s.init.take i).length/\k<4 then rowAt (s.init.take i) c k else _)=(if c<(s.init.take (i+1)).length/\k<4 then rowAt (s.init.take (i+1)) c k else _)
  rw[hl,hl2,rowAt_take h]
  by_cases e:c=i
  ·by_cases e2:k<row.length
   ·rw[if_pos ⟨e,e2⟩,if_pos (by omega),if_pos e]
   ·rw[if_neg (by omega)]
    by_cases e3:k<4
    ·rw[if_pos ⟨e,e3⟩,if_pos (by omega),if_pos e,List.getD_eq_getElem?_getD,List.getElem?_eq_none (by omega)];rfl
    ·rw[if_neg (by omega),if_neg (by omega),if_neg (by omega)]
  ·rw[if_neg (by omega),if_neg (by omega),if_neg e]
   by_cases e2:c<i/\k<4
   ·rw[if_pos e2,if_pos (by omega)]
   ·rw[if_neg e2,if_neg (by omega)]
 ·funext c
  show(if c=i then true else if c<(s.init.take i).length then true else _)=(if c<(s.init.take (i+1)).length then true else _)
  rw[hl,hl2]
  by_cases e:c=i
  ·rw[if_pos e,if_pos (by omega)]
  ·rw[if_neg e]
   by_cases e2:c<i
   ·rw[if_pos e2,if_pos (by omega)]
   ·rw[if_neg e2,if_neg (by omega)]
 ·funext c
  show(if c=i then(if i<(s.init.take i).length then 1 else _)+1 else if c<(s.init.take i).length then 1 else _)=(if c<(s.init.take (i+1)).length then 1 else _)
  rw[hl,hl2]
  by_cases e:c=i
  ·rw[if_pos e,if_neg (by omega),if_pos (by omega)];rfl
  ·rw[if_neg e]
   by_cases e2:c<i
   ·rw[if_pos e2,if_pos (by omega)]
   ·rw[if_neg e2,if_neg (by omega)]
theorem freeFrom_hit {there:Nat->Bool}: ∀(n j i:Nat),j<=i->i<j+n->there i=false->(∀k,j<=k->k<i->there k=true)->freeFrom there j n=some i
 |0,j,i,h1,h2,_,_=>by omega
 | n+1,j,i,h1,h2,h3,h4=>by
  unfold freeFrom
  by_cases e:j=i
  ·rw[e,h3,if_neg (by decide)]
  ·rw[h4 j nL (by omega),if_pos rfl]
   exact freeFrom_hit n (j+1) i (by omega) (by omega) h3 (fun k h5 h6=>h4 k (by omega) h6)
theorem Sta.at1_free(hi:i<s.init.length)(hc:(s.init.length:Int)<=s.cells):(s.at1 n i t).mem.ar.free?=some i:=by
 have hl:(s.init.take i).length=i:=by rw[List.length_take];omega
 refine freeFrom_hit _ 0 i (Nat.zero_le _) (by show i<0+s.cells.toNat;omega) ?_ (fun k _ hk=>?_)
 ·show(if i<(s.init.take i).length then true else false)=false
  rw[hl,if_neg (by omega)]
 ·show(if k<(s.init.take i).length then true else false)=true
  rw[hl,if_pos hk]
theorem Sta.at1_given(hi:i<s.init.length):(s.at1 n i t).mem.ar.given i=0:=by
 have hl:(s.init.take i).length=i:=by rw[List.length_take];omega
 show(if i<(s.init.take i).length then 1 else 0)=0
 rw[hl,if_neg (by omega)]
theorem wpList_copy_cells{o:Oper}{a:Act}(hgd:o.guard=none)(s x:Operand)(t elem:TypeId) 
  (ho:o.op= .call { callee:= .builtin .copy,args:=#[s,x],argTypes:=#[t,t] })
  (b off dLen dCap:Nat) (ad:Addr) (sLen sCap:Nat) (cs:List Value) (hs:a.eval s= .slice (some ⟨b,off,none⟩) dLen dCap) (hx:a.eval x= .slice (some ad) sLen sCap)
  (hu:P.underlying t=some (.slice elem)) (hz:(P.info? elem).map (·.size)=some 1) (hn:cs.length=Nat.min sLen dLen)
  (hsrc: ∀j v,cs[j]? =some v->w.cell? (ad.add j)=some v) (hc: ∀j,j<cs.length->(w.cell? ⟨b,off+j,none⟩).isSome=true) (hf: ∀j,j<cs.length->w.frozen? ⟨b,off+j,none⟩=false) (h1: ∀v∈cs,v.oneCell'=true)
  (h:wpList P ops Q rest (a.put o.dst (goInt cs.length)) (w.setCells b off cs)):wpList P ops Q (o::rest) a w:=by
 refine wpList_plain hgd fun K hK=>?_
 have hr:=run_copy_cells (P:=P) w t t o.type elem b off dLen dCap ad sLen sCap cs hu hz hn hsrc hc hf h1
 unfold Oper.wp execOp
 simp only[ho,resolve,invoke,builtin,Sem.run_bind,Sem.run_pure,Result.andThen_ok,List.map_toArray,List.map_cons,List.map_nil,hs,hx,hr]
 exact hK _ _ h
theorem wpList_copy_none{o:Oper}{a:Act}(hgd:o.guard=none)(s x:Operand)(t elem:TypeId) 
  (ho:o.op= .call { callee:= .builtin .copy,args:=#[s,x],argTypes:=#[t,t] })
  (d:Option Addr) (dLen dCap:Nat) (ad:Option Addr) (sCap:Nat) (hs:a.eval s= .slice d dLen dCap) (hx:a.eval x= .slice ad 0 sCap)
  (hu:P.underlying t=some (.slice elem)) (hz:(P.info? elem).map (·.size)=some 1)
  (h:wpList P ops Q rest (a.put o.dst (goInt 0)) w):wpList P ops Q (o::rest) a w:=by
 refine wpList_plain hgd fun K hK=>?_
 have hr:=run_copy_none (P:=P) w t t o.type elem d ad dLen dCap 0 sCap hu hz (by simp)
 unfold Oper.wp execOp
 simp only[ho,resolve,invoke,builtin,Sem.run_bind,Sem.run_pure,Result.andThen_ok,List.map_toArray,List.map_cons,List.map_nil,hs,hx,hr]
 exact hK _ _ h
theorem MkAt.setRegs{a:Nat->Addr}{cs:List (List Ins)}{p:MkPl}{t:Nat}(ht:t<6): ∀(l:List Int) {m:Mk} {w:World} (r:Nat),r+l.length<=8->MkAt a cs p m w->MkStep a cs p w p.mv (m.setRegs t r l) (w.setCells p.b (585+t*9+r) (l.map (Value.int .i64)))
 | [],m,w,r,_,h=>MkStep.refl h
 | v::l,m,w,r,hr,h=>by
  have k1:=h.setReg ht (r:=r) (by simp at hr;omega) v
  have k2:=MkAt.setRegs ht l (r+1) (by simp at hr;omega) k1.at'
  exact k1.trans k2
end
section
open Go.RowKit Go.Extern.Stop Go.Stop Go.Extern Go.Maps Go.WideMaps Go.Sort
variable {cs:List (List Ins)} {a:Nat->Addr} {s:Sta} {p:MkPl} {row:List Int}
theorem mem_lay{m:Mk}{w:World}(h:MkAt a cs p m w)(h0:0<cs.length)(hws:m.mem.waits 0=[]){n k:Nat}(hn:n<64)(hh:m.mem.ar.has n 0=true)(hk:k<4){v:Int}(hv:Wd v):
  Calls Tryz.prog 76 #[.pointer (some ⟨p.b,0,none⟩), .int .i64 0, .agg #[.int .i64 n, .int .i64 0], .int .i64 k, .int .i64 v] w fun e w'=>e= .returned (.tuple #[.int .i64 (m.mem.ar.words n k), .nilIface])/\MkStep a cs p w p.mv (m.setMem (m.mem.setWord n k v)) w':=by
 have:=mswap_ok a p.B p.b m.mem 0 n k 0 v w h.pg.envB h.hB h.mem (by rw[h.thr];exact h0) (by rw[hws];exact fun x hx=>absurd hx List.not_mem_nil) hn hk hh hv (by rw[hws];exact Nat.lt_irrefl _)
 rw[hws] at this
 exact this.mono fun e w' ⟨e1,e2⟩=>⟨e1,h.ofMem e2 rfl⟩
theorem Sta.part_has{n i j:Nat}(hi:i<s.init.length)(hc:(s.init.length:Int)<=s.cells):((s.at1 n i 0).rowPart i row j).mem.ar.has i 0=true:=by
 have hl:(s.init.take i).length=i:=by rw[List.length_take];omega
 have hg:((s.at1 n i 0).rowPart i row j).mem.ar.given i=1:=by
  show(if i=i then(if i<(s.init.take i).length then 1 else 0)+1 else _)=1
  rw[if_pos rfl,hl,if_neg (by omega)]
 have ht:((s.at1 n i 0).rowPart i row j).mem.ar.there i=true:=by
  show(if i=i then true else _)=true
  rw[if_pos rfl]
 have hz:((s.at1 n i 0).rowPart i row j).mem.ar.size=s.cells.toNat:=rfl
 generalize ((s.at1 n i 0).rowPart i row j).mem.ar=A at*
 unfold Ar.has
 rw[Int.toNat_natCast,ht,hg,hz,decide_eq_true (by omega)]
 rfl
theorem rowOk_at{R:List (List Int)}{n:Nat}(h:rowsOk n R=true){i:Nat}(hr:R[i]? =some row):row.length<=n/\ ∀(j:Nat) v,row[j]? =some v->Wd v:=by
 unfold rowsOk at h
 rw[List.all_eq_true] at h
 have:=h row (List.mem_of_getElem? hr)
 unfold rowOk at this
 rw[Bool.and_eq_true,decide_eq_true_eq,List.all_eq_true] at this
 exact⟨this.1,fun j v hv=>by have:=this.2 v (List.mem_of_getElem? hv);unfold wordOk at this;rw[decide_eq_true_eq] at this;exact this⟩
theorem Sta.fits_of{n:Nat}(h:s.fits n=true):(s.init.length:Int)<=s.cells/\rowsOk 4 s.init=true/\s.regs.length<=n/\rowsOk 8 s.regs=true:=by
 unfold Sta.fits at h
 simp only[Bool.and_eq_true,decide_eq_true_eq] at h
 exact⟨h.1.1,h.1.2,h.2.1,h.2.2⟩
structure FillX(a:Nat->Addr)(cs:List (List Ins))(p:MkPl)(s:Sta)(q:StaPl)(W w:World):Prop where
 at':MkAt a cs p (s.at1 cs.length 0 0) w
 st:StaAt s q W
 sz:W.heap.size=p.B
 low:Below p.B W w
 fits:s.fits cs.length=true
 c64:s.cells<=64
 n1:1<=cs.length
theorem FillX.below{q:StaPl}{W w w':World}{m':Mk}{v:Value}(h:FillX a cs p s q W w)(k:MkStep a cs p w v m' w'):Below W.heap.size W w':=by
 rw[h.sz];exact h.low.trans (k.turns.below (by rw[<-h.sz];exact h.low.size) (fun i o hi hf=>by have:=h.at'.fp_ge hf;omega))
def FillRel(a:Nat->Addr)(cs:List (List Ins))(p:MkPl)(s:Sta)(w:World)(i t:Nat)(wr:World):Prop:=MkStep a cs p w p.mv (s.at1 cs.length i t) wr
theorem kfill_any {ai ar:Option Addr} {ci cr:Nat} {W w:World} (h:FillX a cs p s ⟨ai,ci,ar,cr⟩ W w):
  Calls Tryz.prog 38 #[.pointer (some ⟨p.b,0,none⟩), .agg #[.int .i64 s.cells, .slice ai s.init.length ci, .slice ar s.regs.length cr]] w fun e w'=>e= .returned (.tuple #[])/\Hid (MkStep a cs p w p.mv (s.mach cs.length) w'):=by
 obtain⟨f1,f2,f3,f4⟩:=Sta.fits_of h.fits
 have h6:=h.at'.few
 have hcells:=h.c64
 have n1:=h.n1
 have hba:Below w.heap.size w (w.alloc (.cells #[.int .i64 s.cells, .slice ai s.init.length ci, .slice ar s.regs.length cr] 34)):=bRf.alloc nL _
 have e1:(w.alloc (.cells #[.int .i64 s.cells, .slice ai s.init.length ci, .slice ar s.regs.length cr] 34)).cell? ⟨w.heap.size,1,none⟩=some (.slice ai s.init.length ci):=by simp
 have e2:(w.alloc (.cells #[.int .i64 s.cells, .slice ai s.init.length ci, .slice ar s.regs.length cr] 34)).cell? ⟨w.heap.size,2,none⟩=some (.slice ar s.regs.length cr):=by simp
 have HX:=hide h
 have H0:Hid (FillRel a cs p s w 0 0 (w.alloc (.cells #[.int .i64 s.cells, .slice ai s.init.length ci, .slice ar s.regs.length cr] 34))):=hide (MkStep.of_below' h.at' hba)
 have HF:Hid (∀k,p.fp k->k<w.heap.size):=hide fun k hk=>h.at'.fp_lt hk
 have HK:Hid (∀(wr w':World) (v:Value),wr.cell? ⟨w.heap.size,2,none⟩=some v->Turns (fun k _=>p.fp k) wr w'->w'.cell? ⟨w.heap.size,2,none⟩=some v):=hide fun wr w' v hc k=>k.keep hc (fun hf=>by have:=h.at'.fp_lt hf;omega)
 have i1:(s.init.length:Int)<=64:=by omega
 clear h hba
 generalize hw:w.alloc (.cells #[.int .i64 s.cells, .slice ai s.init.length ci, .slice ar s.regs.length cr] 34)=w1 at*
 go_enter Tryz.func38,Tryz.ntmps38
 go_wp2_with fail
 clear hw
 go_loopw [5,6,7,8,9,15] (fun _ _ _ _ _ x wr=> ∃i:Nat,i<=s.init.length/\x= .int .i64 i/\FillRel a cs p s w i 0 wr/\wr.cell? ⟨w.heap.size,2,none⟩=some (.slice ar s.regs.length cr)) (fun _ _ _ _ _ x _=>s.init.length - (intOf x).toNat)
 case atStart=>exact⟨0,Nat.zero_le _,rfl,H0.out,e2⟩
 case round =>
  obtain⟨i,hi,rfl,hR,hc2⟩:=hrel
  by_cases hlt:i<s.init.length
  ·obtain ⟨row,hrow⟩: ∃x,s.init[i]? =some x:=⟨_,List.getElem?_eq_getElem hlt⟩
   obtain⟨b,off,adr,capr,hq,cW,hcp,hnW⟩:=HX.out.st.init i row hrow
   obtain rfl:ai=some ⟨b,off,none⟩:=hq
   have HB:Hid (∀w' m',MkStep a cs p w p.mv m' w'->numsAt adr row w'):=hide fun w' m' k=>hnW.below (HX.out.below k)
   have c0:=keep_cell (HX.out.below hR) cW
   obtain⟨r4,rw'⟩:=rowOk_at f2 hrow
   have ii:(i:Int)<s.init.length:=by omega
   have HA:=hide (mem_alloc_some hR.at' (t:=0) (c:=i) (by omega) (Sta.at1_free hlt f1) (by rw[Sta.at1_given hlt];omega))
   have hg0:((s.at1 cs.length i 0).mem.ar.given i:Int)=0:=by rw[Sta.at1_given hlt];rfl
   rw[hg0] at HA
   have HP0:Hid (∀w',MkStep a cs p wr p.mv ((s.at1 cs.length i 0).setMem ((s.at1 cs.length i 0).mem.give i)) w'->MkStep a cs p w p.mv ((s.at1 cs.length i 0).rowPart i row 0) w'):=hide fun w' k=>by rw[Mk.rowPart_zero];exact hR.trans k
   have HE:Hid ((s.at1 cs.length i 0).rowPart i row row.length=s.at1 cs.length (i+1) 0):=hide (Sta.at1_row hrow r4)
   have HT:Hid (∀w',MkStep a cs p wr p.mv ((s.at1 cs.length i 0).setMem ((s.at1 cs.length i 0).mem.give i)) w'->w'.cell? ⟨w.heap.size,2,none⟩=some (.slice ar s.regs.length cr)/\ ∀k,p.fp k->k<w'.heap.size):=hide fun w' k=>⟨HK.out wr w' _ hc2 k.turns,fun i hi=>k.at'.fp_lt hi⟩
   have HL:Hid (∀(j:Nat) v w',row[j]? =some v->MkStep a cs p w p.mv ((s.at1 cs.length i 0).rowPart i row j) w'->Calls Tryz.prog 76 #[.pointer (some ⟨p.b,0,none⟩), .int .i64 0, .agg #[.int .i64 i, .int .i64 0], .int .i64 j, .int .i64 v] w' fun e w''=> ∃x,e= .returned (.tuple #[.int .i64 x, .nilIface])/\MkStep a cs p w p.mv ((s.at1 cs.length i 0).rowPart i row (j+1)) w''/\Turns (fun k _=>p.fp k) w' w''):=hide fun j v w' hv k=>by
    have hj:=(List.getElem?_eq_some_iff.1 hv).1
    refine(mem_lay k.at' (by omega) rfl (n:=i) (k:=j) (by omega) (Sta.part_has hlt f1) (by omega) (rw' j v hv)).mono fun e w'' ⟨e1,e2⟩=>⟨_,e1,?_,e2.turns⟩
    rw[<-Mk.rowPart_succ _ _ _ _ hv]
    exact k.trans e2
   clear hR hc2 cW hnW hrow hg0 rw' f1 f2 H0
   generalize (s.at1 cs.length i 0).setMem ((s.at1 cs.length i 0).mem.give i)=M1 at*
   generalize (s.at1 cs.length i 0).mem.ar.given i=G at*
   have r4i:(row.length:Int)<=4:=by omega
   go_wp2_with fail
   refine HA.out.mono ?_
   rintro e w3 ⟨rfl,h3⟩
   obtain⟨hc3,hfl⟩:=HT.out w3 h3
   obtain⟨q0,q1⟩:=box2 w3 i 0
   obtain⟨W4,hW4⟩: ∃W4,W4=w3.alloc (.cells #[.int .i64 i, .int .i64 0] 95):=⟨_,rfl⟩
   have b4:Below w3.heap.size w3 W4:=by rw[hW4];exact bRf.alloc nL _
   have H4:Hid (MkStep a cs p w p.mv ((s.at1 cs.length i 0).rowPart i row 0) W4):=hide ((HP0.out _ h3).below b4)
   replace hc3:=keep_cell b4 hc3
   rw[<-hW4] at q0 q1
   have hbn: ¬p.fp w3.heap.size:=fun hf=>by have:=hfl _ hf;omega
   clear HA HP0 HT h3 b4 hfl
   go_wp2_with fail
   rw[<-hW4]
   clear hW4
   have HN:=hide hbn
   generalize w3.heap.size=rb at*
   clear hbn
   go_loopw [8,9,28] (fun _ _ x wr=> ∃j:Nat,j<=row.length/\x= .int .i64 j/\MkStep a cs p w p.mv ((s.at1 cs.length i 0).rowPart i row j) wr/\wr.cell? ⟨w.heap.size,2,none⟩=some (.slice ar s.regs.length cr)/\wr.cell? ⟨rb,0,none⟩=some (.int .i64 i)/\wr.cell? ⟨rb,1,none⟩=some (.int .i64 0)) (fun _ _ x _=>row.length - (intOf x).toNat)
   case atStart=>exact⟨0,Nat.zero_le _,rfl,H4.out,hc3,q0,q1⟩
   case round=>
    obtain⟨j,hj,rfl,hk,hc2,p0,p1⟩:=hrel
    by_cases hjl:j<row.length
    ·obtain ⟨v,hv⟩: ∃x,row[j]? =some x:=⟨_,List.getElem?_eq_getElem hjl⟩
     obtain⟨b',off',rfl,cv⟩:=HB.out _ _ hk j v hv
     have jj:(j:Int)<row.length:=by omega
     have HL1:=hide (HL.out j v (wr.drewN 1) hv (hk.below (Below.drewN' 1)))
     have HK2:Hid (∀w',Turns (fun k _=>p.fp k) (wr.drewN 1) w'->w'.cell? ⟨w.heap.size,2,none⟩=some (.slice ar s.regs.length cr)/\w'.cell? ⟨rb,0,none⟩=some (.int .i64 i)/\w'.cell? ⟨rb,1,none⟩=some (.int .i64 0)):=hide fun w' k=>
      ⟨HK.out _ _ _ (keep_cell (Below.drewN' 1) hc2) k,k.keep (keep_cell (Below.drewN' 1) p0) HN.out,k.keep (keep_cell (Below.drewN' 1) p1) HN.out⟩
     clear hk hc2 H4 hc3 q0 q1 hv
     go_wp2_with fail
     go_region_with (go_at_call 76;refine HL1.out.mono ?_;rintro e w5 ⟨x,rfl,h5,h6⟩)
     all_goals
      obtain⟨d2,d0,d1⟩:=HK2.out _ h6
      have H5:=hide h5
      clear h5 h6 HK2 HL1
      go_wp2
      go_roundw
     case rel=>exact⟨j+1,by omega,by go_num,H5.out,d2,d0,d1⟩
     case measure=>simp[intOf];omega
    ·obtain rfl:j=row.length:=by omega
     rw[HE.out] at hk
     have H5:=hide hk
     clear hk HL HB p0 p1 H4 hc3 q0 q1
     go_wp2
     go_roundw
     case rel=>exact⟨i+1,by omega,by go_num,H5.out,hc2⟩
     case measure=>simp[intOf];omega
  ·obtain rfl:i=s.init.length:=by omega
   have HR:=hide hR
   clear hR f2 e1 e2
   have ri:(s.regs.length:Int)<=6:=by omega
   go_wp2_with fail
   go_loopw [10,11,45] (fun _ _ x wr=> ∃t:Nat,t<=s.regs.length/\x= .int .i64 t/\Hid (FillRel a cs p s w s.init.length t wr)) (fun _ _ x _=>s.regs.length - (intOf x).toNat)
   case atStart=>exact⟨0,Nat.zero_le _,rfl,HR.out⟩
   case round=>
    obtain⟨t,ht,rfl,HR2⟩:=hrel
    by_cases htl:t<s.regs.length
    ·obtain ⟨row,hrow⟩: ∃x,s.regs[t]? =some x:=⟨_,List.getElem?_eq_getElem htl⟩
     obtain⟨b,off,adr,capr,hq,cW,hcp,hnW⟩:=HX.out.st.regs t row hrow
     obtain rfl:ar=some ⟨b,off,none⟩:=hq
     have c0:=keep_cell (HX.out.below HR2.out) cW
     have hn:=hnW.below (HX.out.below HR2.out)
     obtain⟨r8, -⟩:=rowOk_at f4 hrow
     have ti:(t:Int)<s.regs.length:=by omega
     have t6:(t:Int)<6:=by omega
     have HE:Hid (∀w',MkStep a cs p w p.mv ((s.at1 cs.length s.init.length t).setRegs t 0 row) w'->FillRel a cs p s w s.init.length (t+1) w'):=hide fun w' k=>by rw[Sta.at1_regs hrow] at k;exact k
     have hu:(Tryz.prog).underlying 26=some (.slice 3):=Tryz.underlying26
     have hz:((Tryz.prog).info? 3).map (·.size)=some 1:=by kernel_rfl
     cases hL:row.length with
     | zero=>
      have HE2:Hid (FillRel a cs p s w s.init.length (t+1) wr):=hide (HE.out _ (by rw[List.eq_nil_of_length_eq_zero hL];exact HR2.out))
      rw[hL] at c0
      clear hn hnW cW hrow HE HR2 HR r8
      go_wp2_with (refine wpList_copy_none (by rfl) _ _ 26 3 (by rfl) _ 8 8 adr capr (by rfl) (by rfl) hu hz ?_)
      go_roundw
      case rel=>exact⟨t+1,by omega,by go_num,HE2⟩
      case measure=>simp[intOf];omega
     | succ n=>
      obtain⟨v0,hv0⟩: ∃x,row[0]? =some x:=⟨_,List.getElem?_eq_getElem (by omega)⟩
      obtain⟨b2,off2,rfl, -⟩:=hn 0 v0 hv0
      have HE2:Hid (FillRel a cs p s w s.init.length (t+1) (wr.setCells p.b (585+t*9) (row.map (Value.int .i64)))):=hide (HE.out _ (HR2.out.trans (MkAt.setRegs (by omega) row 0 (by omega) HR2.out.at')))
      have s1: ∀j v,(row.map (Value.int .i64))[j]? =some v->wr.cell? ((⟨b2,off2,none⟩:Addr).add j)=some v:=fun j v hj=>by
       rw[List.getElem?_map] at hj
       cases hx:row[j]? with
       |none=>rw[hx] at hj;cases hj
       | some x=>
        rw[hx] at hj;cases hj
        obtain⟨_,_,e,c⟩:=hn j x hx
        cases e
        rw[Addr.add_lit];exact c
      have s2: ∀j,j<(row.map (Value.int .i64)).length->(wr.cell? ⟨p.b,585+t*9+j,none⟩).isSome=true:=fun j hj=>by
       rw[List.length_map] at hj
       have:=HR2.out.at'.reg t j (by omega) (by omega)
       rw[show wr.cell? ⟨p.b,585+t*9+j,none⟩=_ from this];rfl
      have s3: ∀j,j<(row.map (Value.int .i64)).length->wr.frozen? ⟨p.b,585+t*9+j,none⟩=false:=fun j hj=>by
       rw[List.length_map] at hj
       exact HR2.out.at'.frozen _ (by omega) (by omega)
      have s4: ∀v∈row.map (Value.int .i64),v.oneCell'=true:=fun v hv=>by obtain⟨x,_,rfl⟩:=List.mem_map.1 hv;rfl
      have s5:(row.map (Value.int .i64)).length=Nat.min row.length 8:=by rw[List.length_map];exact(Nat.min_eq_left r8).symm
      have G1:=hide s1
      have G2:=hide s2
      have G3:=hide s3
      have G4:=hide s4
      have G5:=hide s5
      clear hn hnW cW hrow HE HR2 HR s1 s2 s3 s4 s5 hv0 hL
      go_wp2_with (refine wpList_copy_cells (by rfl) _ _ 26 3 (by rfl) p.b (585+t*9) 8 8 ⟨b2,off2,none⟩ row.length capr (row.map (Value.int .i64)) (by rfl) (by rfl) hu hz G5.out G1.out G2.out G3.out G4.out ?_)
      go_roundw
      case rel=>exact⟨t+1,by omega,by go_num,HE2⟩
      case measure=>simp[intOf];omega
    ·obtain rfl:t=s.regs.length:=by omega
     have HZ:Hid (MkStep a cs p w p.mv (s.mach cs.length) wr):=hide (by rw[<-Sta.at1_end];exact HR2.out)
     clear HR2 HR
     go_wp2
     go_end0
     exact⟨rfl,HZ⟩
end
section
open Go.RowKit Go.Extern.Stop Go.Stop Go.Extern Go.Maps Go.WideMaps Go.Sort
variable {w w':World} {b b' o:Nat}
theorem fold_get: ∀(l:List Value) (n off:Nat) (Z:Array Value) (k:Nat),((l.zipIdx n).foldl (fun acc (p:Value×Nat)=>acc.setIfInBounds (off+p.2) p.1) Z)[k]? =if off+n<=k/\k<off+n+l.length/\k<Z.size then l[k - (off+n)]? else Z[k]?
 | [],n,off,Z,k=>by rw[if_neg (by simp;omega)];rfl
 | x ::l,n,off,Z,k=>by
  rw[List.zipIdx_cons,List.foldl_cons,fold_get l (n+1) off]
  rw[Array.size_setIfInBounds,List.length_cons]
  by_cases h1:off+(n+1)<=k/\k<off+(n+1)+l.length/\k<Z.size
  ·rw[if_pos h1,if_pos (by omega),show k - (off+n)=(k - (off+(n+1)))+1 by omega,List.getElem?_cons_succ]
  ·rw [if_neg h1,Array.getElem?_setIfInBounds]
   by_cases h2:off+n=k
   ·subst h2
    rw[if_pos rfl]
    by_cases h3:off+n<Z.size
    ·rw[if_pos h3,if_pos (by omega),Nat.sub_self];rfl
    ·rw[if_neg h3,if_neg (by omega),Array.getElem?_eq_none (by omega)]
   ·rw[if_neg h2,if_neg (by omega)]
theorem fold_size: ∀(l:List Value) (n off:Nat) (Z:Array Value),((l.zipIdx n).foldl (fun acc (p:Value×Nat)=>acc.setIfInBounds (off+p.2) p.1) Z).size=Z.size
 | [],n,off,Z=>rfl
 |x::l,n,off,Z=>by rw[List.zipIdx_cons,List.foldl_cons,fold_size l (n+1) off,Array.size_setIfInBounds]
theorem built_any(parts:List (Nat×Value)):Tryz.prog.built 109 parts=Instr.fill ((#[(0,584),(584,1),(585,54),(639,1),(640,1)]:Array (Nat×Nat))[·]?) Tryz.zeroCells109 parts:=by kernel_rfl
theorem zeroK:Tryz.zeroCells109=(((.int .i64 0::List.replicate 256 (.int .u32 0))++List.replicate 64 (.bool false)++List.replicate 263 (.int .i64 0))++(.slice none 0 0::List.replicate 54 (.int .i64 0))++[.slice none 0 0, .int .i64 0]:List Value).toArray:=by kernel_rfl
theorem tail_len(A:List Value)(x z y u:Value)(n:Nat):((A++(x::List.replicate n z))++[y,u]).length=A.length+n+3:=by
 rw[List.length_append,List.length_append,List.length_cons,List.length_replicate];simp only[List.length_cons,List.length_nil];omega
theorem tail_reg(A:List Value)(x z y u:Value)(n k:Nat)(h1:A.length+1<=k)(h2:k<A.length+1+n):((A++(x::List.replicate n z))++[y,u])[k]? =some z:=by
 rw[List.getElem?_append_left (by rw[List.length_append,List.length_cons,List.length_replicate];omega),List.getElem?_append_right (by omega),show k - A.length=(k - A.length - 1)+1 by omega,List.getElem?_cons_succ,List.getElem?_replicate,if_pos (by omega)]
theorem tail_one(A:List Value)(x z y u:Value)(n k:Nat)(h1:k=A.length+1+n):((A++(x::List.replicate n z))++[y,u])[k]? =some y:=by
 have e:(A++(x::List.replicate n z)).length=k:=by rw[List.length_append,List.length_cons,List.length_replicate];omega
 rw[List.getElem?_append_right (by omega),e,Nat.sub_self];rfl
theorem tail_two(A:List Value)(x z y u:Value)(n k:Nat)(h1:k=A.length+1+n+1):((A++(x::List.replicate n z))++[y,u])[k]? =some u:=by
 have e:(A++(x::List.replicate n z)).length+1=k:=by rw[List.length_append,List.length_cons,List.length_replicate];omega
 rw[List.getElem?_append_right (by omega),show k - (A++(x::List.replicate n z)).length=1 by omega];rfl
theorem zeroK_at: ∃A:List Value,A.length=584/\Tryz.zeroCells109=((A++(.slice none 0 0::List.replicate 54 (.int .i64 0)))++[.slice none 0 0, .int .i64 0]:List Value).toArray:=⟨_,rows_len _ _ _ _ _ _ _,zeroK⟩
theorem zeroK_size:Tryz.zeroCells109.size=641:=by
 obtain⟨A,hA,e⟩:=zeroK_at
 rw[e,List.size_toArray,tail_len,hA]
theorem zeroK_reg(k:Nat)(h1:585<=k)(h2:k<639):Tryz.zeroCells109[k]? =some (.int .i64 0):=by
 obtain⟨A,hA,e⟩:=zeroK_at
 rw[e,List.getElem?_toArray,tail_reg _ _ _ _ _ _ _ (by omega) (by omega)]
theorem zeroK_marks:Tryz.zeroCells109[639]? =some (.slice none 0 0):=by
 obtain⟨A,hA,e⟩:=zeroK_at
 rw[e,List.getElem?_toArray,tail_one _ _ _ _ _ _ _ (by omega)]
theorem zeroK_faults:Tryz.zeroCells109[640]? =some (.int .i64 0):=by
 obtain⟨A,hA,e⟩:=zeroK_at
 rw[e,List.getElem?_toArray,tail_two _ _ _ _ _ _ _ (by omega)]
theorem fill_cons(place:Nat->Option (Nat×Nat))(cells:Array Value)(i:Nat)(v:Value)(rest:List (Nat×Value))(off size:Nat)(hp:place i=some (off,size))(h1:v.cells.size=size)(h2:off+size<=cells.size):
  Instr.fill place cells ((i,v)::rest)=Instr.fill place ((v.cells.toList.zipIdx 0).foldl (fun acc (p:Value×Nat)=>acc.setIfInBounds (off+p.2) p.1) cells) rest:=by
 rw[Instr.fill,hp]
 dsimp only
 rw[if_neg (by simp[h1];omega), <-Array.foldl_toList,Array.toList_zipIdx]
theorem mach_made(N:Array Value)(hN:N.size=584)(v:Value)(hv:v.cells=#[v]): ∃C:Array Value,Tryz.prog.built 109 [(0, .agg N),(1,v)]=some C/\C.size=641/\(∀k,k<584->C[k]? =N[k]?)/\C[584]? =some v/\(∀k,585<=k->k<639->C[k]? =some (.int .i64 0))/\C[639]? =some (.slice none 0 0)/\C[640]? =some (.int .i64 0):=by
 have hl:N.toList.length=584:=by rw[Array.length_toList];exact hN
 have key: ∀k,((N.toList.zipIdx 0).foldl (fun acc (p:Value×Nat)=>acc.setIfInBounds (0+p.2) p.1) Tryz.zeroCells109)[k]? =if k<584 then N[k]? else Tryz.zeroCells109[k]? :=fun k=>by
  rw[fold_get,zeroK_size,hl]
  by_cases h:k<584
  ·rw[if_pos (by omega),if_pos h,Nat.add_zero,Nat.sub_zero,Array.getElem?_toList]
  ·rw[if_neg (by omega),if_neg h]
 refine⟨((N.toList.zipIdx 0).foldl (fun acc (p:Value×Nat)=>acc.setIfInBounds (0+p.2) p.1) Tryz.zeroCells109).setIfInBounds 584 v,?_,?_,fun k hk=>?_,?_,fun k h1 h2=>?_,?_,?_⟩
 ·rw[built_any]
  refine(fill_cons _ _ 0 (.agg N) [(1,v)] 0 584 ?_ hN ?_).trans ?_
  ·rfl
  ·rw[zeroK_size];decide
  refine(fill_cons _ _ 1 v [] 584 1 ?_ ?_ ?_).trans ?_
  ·rfl
  ·rw[hv];rfl
  ·rw[fold_size,zeroK_size];decide
  ·rw[hv];rfl
 ·rw[Array.size_setIfInBounds,fold_size,zeroK_size]
 ·rw[Array.getElem?_setIfInBounds,if_neg (by omega),key,if_pos hk]
 ·rw[Array.getElem?_setIfInBounds,if_pos rfl,if_pos (by rw[fold_size,zeroK_size];decide)]
 ·rw[Array.getElem?_setIfInBounds,if_neg (by omega),key,if_neg (by omega),zeroK_reg k h1 h2]
 ·rw[Array.getElem?_setIfInBounds,if_neg (by omega),key,if_neg (by omega),zeroK_marks]
 ·rw[Array.getElem?_setIfInBounds,if_neg (by omega),key,if_neg (by omega),zeroK_faults]
theorem ArAt.move{s:Ar}(h:ArAt b o s w)(hc: ∀k,k<o+385->w'.cell? ⟨b',k,none⟩=w.cell? ⟨b,k,none⟩)(hf: ∀k,w'.frozen? ⟨b',k,none⟩=false):ArAt b' o s w' where
 small:=h.small
 size:=by rw[hc _ (by omega)];exact h.size
 words c k h1 h2:=by rw[hc _ (by omega)];exact h.words c k h1 h2
 range:=h.range
 there c h1:=by rw[hc _ (by omega)];exact h.there c h1
 given c h1:=by rw[hc _ (by omega)];exact h.given c h1
 bound:=h.bound
 frozen k _:=hf _
theorem LnAt.move{l:List Wt}(h:LnAt b o l w)(hc: ∀k,k<o+33->w'.cell? ⟨b',k,none⟩=w.cell? ⟨b,k,none⟩)(hf: ∀k,w'.frozen? ⟨b',k,none⟩=false):LnAt b' o l w' where
 le:=h.le
 len:=by rw[hc _ (by omega)];exact h.len
 row i k h1 h2:=by rw[hc _ (by omega)];exact h.row i k h1 h2
 frozen k _:=hf _
theorem MmAt.move{b b':Nat}{s:Rm}(h:MmAt b s w)(hc: ∀k,k<584->w'.cell? ⟨b',k,none⟩=w.cell? ⟨b,k,none⟩)(hf: ∀k,w'.frozen? ⟨b',k,none⟩=false):MmAt b' s w' where
 ar:=h.ar.move (fun k hk=>hc k (by omega)) hf
 few:=h.few
 nt:=by rw[hc _ (by omega)];exact h.nt
 line t ht:=(h.line t ht).move (fun k hk=>hc k (by have:=h.few;omega)) hf
 rest o h1 h2:=by rw[hc _ h2];exact h.rest o h1 h2
end
section
open Go.RowKit Go.Extern.Stop Go.Stop Go.Extern Go.Maps Go.WideMaps Go.Sort
variable {cs:List (List Ins)} {a:Nat->Addr} {w:World} {s:Sta}
theorem mnew_row(c t:Nat)(w:World)(h1:1<=c)(h2:c<=64)(t1:1<=t)(t2:t<=6):
  Calls Tryz.prog 35 #[.int .i64 c, .int .i64 t] w fun e w'=>e= .returned (.tuple #[.pointer (some ⟨w.heap.size+1,0,none⟩), .nilIface])/\MmAt (w.heap.size+1) (Rm.fresh c t) w'/\(∃N:Array Value,w'.heap[w.heap.size+1]? =some (.cells N 103 (0,0))/\N.size=584)/\Below w.heap.size w w':=by
 have HN:=new_exact c w h1 h2
 have i1:1<=(t:Int):=by omega
 have i2:(t:Int)<=6:=by omega
 have hA:=arenaSize c
 obtain⟨N,hB,n0,n385,nk⟩:=new_made c t
 have HM:Hid (∀w1:World,w1.heap.size=w.heap.size+1->MmAt (w.heap.size+1) (Rm.fresh c t) (w1.alloc (.cells N 103))/\(w1.alloc (.cells N 103)).heap[w.heap.size+1]? =some (.cells N 103 (0,0))/\N.size=584):=fun w1 e=>by
  refine⟨by rw[<-e];exact MmAt.fresh c t N w1 h2 t2 n0 n385 nk,by rw[<-e];exact heap_alloc_new w1 _,?_⟩
  have k1:=nk 583 (by decide) (by decide)
  have k2:=nk 584 (by decide) (by decide)
  rw[zeroM_rest 583 (by decide) (by decide)] at k1
  rw[Array.getElem?_eq_none (xs:=Tryz.zeroCells103) (by rw[zeroM_size];exact Nat.le_refl _)] at k2
  have a1:=(Array.getElem?_eq_some_iff.1 k1).1
  have a2:=Array.getElem?_eq_none_iff.1 k2
  omega
 clear n0 n385 nk
 generalize Tryz.zeroCells93.setIfInBounds 0 (.int .i64 c)=A at*
 have hg:=heap_new w (.cells A 93)
 have hb1:Below w.heap.size w (w.alloc (.cells A 93)):=bRf.alloc nL _
 have hs1:(w.alloc (.cells A 93)).heap.size=w.heap.size+1:=by simp
 generalize w.alloc (.cells A 93)=w1 at*
 go_enter Tryz.func35,Tryz.ntmps35
 go_wp2_with fail
 refine HN.mono ?_
 rintro e0 w2 ⟨rfl,rfl⟩
 go_wp2_with (first
  |refine wpList_load_row (by rfl) 93 _ (by rfl) w.heap.size (by rfl) 93 A (0,0) _ hg Tryz.underlying93 (by rfl) hA ?_
  |refine wpList_build_two (by rfl) 103 0 1 _ _ (by rfl) (.agg A) (.int .i64 t) (by rfl) (by rfl) N hB ?_)
 go_ret2
 obtain⟨q1,q2,q3⟩:=HM.out _ hs1
 exact⟨rfl,q1,⟨N,q2,q3⟩,hb1.alloc hb1.size _⟩
theorem cell_of_row{b:Nat}{N:Array Value}{ty:TypeId}(h:w.heap[b]? =some (.cells N ty (0,0)))(k:Nat):w.cell? ⟨b,k,none⟩=N[k]? :=by
 simp[World.cell?,h]
theorem MkAt.fresh {pb pc mb:Nat} {N C:Array Value} (hp:Pg a cs pb pc w) (hm:MmAt mb (Rm.fresh s.cells.toNat cs.length) w) (hr:w.heap[mb]? =some (.cells N 103 (0,0))) 
  (c1: ∀k,k<584->C[k]? =N[k]?) (c2:C[584]? =some (.slice (some ⟨pb,0,none⟩) cs.length pc)) (c3: ∀k,585<=k->k<639->C[k]? =some (.int .i64 0)) (c4:C[639]? =some (.slice none 0 0)) (c5:C[640]? =some (.int .i64 0)):
  MkAt a cs ⟨w.heap.size,w.heap.size,pb,pc, .slice none 0 0⟩ (s.at1 cs.length 0 0) (w.alloc (.cells C 109)) where
 pg:=⟨w,hp,rfl,bRf.alloc nL _⟩
 mem :=by
  have e:(s.at1 cs.length 0 0).mem=Rm.fresh s.cells.toNat cs.length:=by
   show Rm.mk _ _ _=_
   rw[List.take_zero,Ar.filled_nil]
  rw[e]
  exact hm.move (fun k hk=>by rw[World.cell?_alloc_new,cell_of_row hr];exact c1 k hk) (fun k=>World.frozen?_alloc_new _ _ _ _)
 thr:=rfl
 prog:=by rw[World.cell?_alloc_new];exact c2
 reg t r ht hr:=by
  rw[World.cell?_alloc_new]
  show C[585+t*9+r]? =some (.int .i64 (rowAt (s.regs.take 0) t r))
  rw[rowAt_out (Nat.zero_le _)]
  exact c3 _ (by omega) (by omega)
 pc t ht:=by
  rw[World.cell?_alloc_new]
  exact c3 _ (by omega) (by omega)
 marks:=by rw[World.cell?_alloc_new];exact c4
 own:=⟨rfl, .inl ⟨rfl,rfl⟩⟩
 faults:=by rw[World.cell?_alloc_new];exact c5
 frozen o _ _:=World.frozen?_alloc_new _ _ _ _
 ne k hk:=by cases hk
 hB:=Nat.le_refl _
def NewPost(a:Nat->Addr)(s:Sta)(cs:List (List Ins))(w:World)(e:Ending)(w':World):Prop:=
 Below w.heap.size w w'/\
 (((s.fault cs).1=0/\Right cs/\ ∃p,e= .returned (.tuple #[.pointer (some ⟨p.b,0,none⟩), .nilIface])/\MkAt a cs p (s.mach cs.length) w'/\w.heap.size<=p.B/\p.mv= .slice none 0 0)∨
  ((s.fault cs).1≠0/\ ∃v,e= .returned (.tuple #[.pointer none,v])/\errIs a (s.fault cs) v w' w.heap.size))
theorem NewPost.bound{w w':World}(h: ¬(1<=s.cells/\s.cells<=64/\1<=cs.length/\cs.length<=6/\s.fits cs.length=true))(hb:Below w.heap.size w w'):NewPost a s cs w (.returned (.tuple #[.pointer none,errAt (a 1)])) w':=by
 have e:s.fault cs=(2, -1):=if_neg h
 exact⟨hb,Or.inr ⟨by rw[e];decide,_,rfl,Or.inr (Or.inl ⟨by rw[e];decide,by rw[e],by rw[e];rfl⟩)⟩⟩
theorem machSize(C:Array Value)(h:C.size=641):(Tryz.prog.info? 109).map (·.size)=some C.size:=by rw[h];kernel_rfl
theorem memSize(N:Array Value)(h:N.size=584):(Tryz.prog.info? 103).map (·.size)=some N.size:=by rw[h];kernel_rfl
theorem new_any {ai ar ad:Option Addr} {ci cr cap:Nat} (hE:Env a w) (hs:StaAt s ⟨ai,ci,ar,cr⟩ w) (hl:codesAt ad cs w) (hsz: ∀(t:Nat) L,cs[t]? =some L-> ∀(i:Nat) x,L[i]? =some x->x.to.size<=maxLen):
  Calls Tryz.prog 11 #[.agg #[.int .i64 s.cells, .slice ai s.init.length ci, .slice ar s.regs.length cr], .slice ad cs.length cap] w fun e w'=>Hid (NewPost a s cs w e w'):=by
 obtain⟨w1,hw1⟩: ∃w1,w1=w.alloc (.cells #[.int .i64 s.cells, .slice ai s.init.length ci, .slice ar s.regs.length cr] 34):=⟨_,rfl⟩
 have b1:Below w.heap.size w w1:=by rw[hw1];exact bRf.alloc nL _
 have e0:w1.cell? ⟨w.heap.size,0,none⟩=some (.int .i64 s.cells):=by rw[hw1];simp
 have e1:w1.cell? ⟨w.heap.size,1,none⟩=some (.slice ai s.init.length ci):=by rw[hw1];simp
 have e2:w1.cell? ⟨w.heap.size,2,none⟩=some (.slice ar s.regs.length cr):=by rw[hw1];simp
 have E1:=hE.below b1.block
 have S1:=hs.below b1
 have L1:=hl.below b1
 have HQ:Hid (∀e w',Below w.heap.size w w'->NewPost a s cs w1 e w'->NewPost a s cs w e w'):=hide fun e w' hb h=>by
  refine⟨hb,h.2.imp (fun⟨h1,h2,p,h3,h4,h5,h6⟩=>⟨h1,h2,p,h3,h4,Nat.le_trans b1.size h5,h6⟩) (fun⟨h1,v,h2,h3⟩=>⟨h1,v,h2,?_⟩)⟩
  rcases h3 with h3 |h3 |⟨h4,j,N,h5,h6,h7⟩
  ·exact .inl h3
  ·exact .inr (.inl h3)
  ·exact .inr (.inr ⟨h4,j,N,h5,Nat.le_trans b1.size h6,h7⟩)
 clear hE hs hl
 by_cases hc:1<=s.cells/\s.cells<=64
 ·obtain ⟨c,hcc⟩:=Int.eq_ofNat_of_zero_le (show 0<=s.cells by omega)
  by_cases ht:1<=cs.length/\cs.length<=6
  ·have HN:=hide (mnew_row c cs.length w1 (by omega) (by omega) ht.1 ht.2)
   rw[<-hcc] at HN
   have HF:=hide (fun w' (h:Below w1.heap.size w1 w')=>sfits_any (S1.below h) cs.length)
   have HS:Hid (∀w',Below w1.heap.size w1 w'->StaAt s ⟨ai,ci,ar,cr⟩ w'):=hide fun w' h=>S1.below h
   have HP:=hide (fun w' (h:Below w1.heap.size w1 w')=>programs_any (cap:=cap) (E1.below h.block) (L1.below h) ht.2 hsz)
   have HE:Hid (∀w',Below w1.heap.size w1 w'->Env a w'):=hide fun w' h=>E1.below h.block
   have hcn:s.cells.toNat=c:=by omega
   cases hfit:s.fits cs.length with
   | false=>
    have HB:Hid (∀w',Below w1.heap.size w1 w'->NewPost a s cs w (.returned (.tuple #[.pointer none,errAt (a 1)])) w'):=hide fun w' h=>NewPost.bound (fun h=>by rw[hfit] at h;exact absurd h.2.2.2.2 (by decide)) (below_step b1 h)
    rw[hfit] at HF
    clear E1 S1 L1 HQ ht hc hcc HS HP hfit
    go_enter Tryz.func11,Tryz.ntmps11
    go_wp2_with fail
    rw[<-hw1]
    clear hw1
    refine HN.out.mono ?_
    rintro e w2 ⟨rfl, -, -,hb2⟩
    replace e0:=keep_cell hb2 (by exact e0)
    replace e1:=keep_cell hb2 (by exact e1)
    replace e2:=keep_cell hb2 (by exact e2)
    clear HN
    go_wp2_with fail
    refine(HF.out w2 hb2).mono ?_
    rintro e w3 ⟨rfl,hb3⟩
    have c1:w3.cell? ⟨0,0,none⟩=some (errAt (a 1)):=(HE.out w3 (below_step hb2 hb3)).cell 1 (by decide)
    have B3:=below_step hb2 hb3
    clear HF HE hb3
    go_wp2
    go_quiet (fail)
    go_wp2
    go_ret2
    exact HB.out _ (below_dN B3 _)
   | true =>
    have HG:Hid (1<=s.cells/\s.cells<=64/\1<=cs.length/\cs.length<=6/\s.fits cs.length=true):=hide ⟨hc.1,hc.2,ht.1,ht.2,hfit⟩
    rw[hfit] at HF
    have HT:=hide ht
    clear E1 S1 L1 ht hc hcc hfit
    go_enter Tryz.func11,Tryz.ntmps11
    go_wp2_with fail
    rw[<-hw1]
    clear hw1
    refine HN.out.mono ?_
    rintro e w2 ⟨rfl,hm2,⟨N,hr2,hN⟩,hb2⟩
    replace e0:=keep_cell hb2 (by exact e0)
    replace e1:=keep_cell hb2 (by exact e1)
    replace e2:=keep_cell hb2 (by exact e2)
    have hml:w1.heap.size+1<w2.heap.size:=lt_of_block hr2
    clear HN
    go_wp2_with fail
    refine(HF.out w2 hb2).mono ?_
    rintro e w3 ⟨rfl,hb3⟩
    have B3:=below_step hb2 hb3
    replace e0:=keep_cell hb3 e0
    replace e1:=keep_cell hb3 e1
    replace e2:=keep_cell hb3 e2
    replace hm2:=hm2.below hb3
    replace hr2:w3.heap[w1.heap.size+1]? =_:=(hb3.block _ hml).trans hr2
    have hml3:=Nat.lt_of_lt_of_le hml hb3.size
    clear HF hb2 hb3 hml
    go_wp2_with fail
    refine(HP.out w3 B3).mono ?_
    rintro e w4 hpp
    obtain⟨hb4,hpp⟩:=hpp.out
    have B4:=below_step B3 hb4
    rcases hpp with⟨hz,v,pl,rfl,hpl⟩ |⟨hz,v,rfl,hv⟩
    ·have HR:Right cs:=right_of (codesFrom_zero cs 0 hz) HT.out.1 HT.out.2 hsz
     obtain⟨pb,pc,rfl,hpb,hpg⟩:=hpl.pg (HE.out w4 B4) HR
     replace e0:=keep_cell hb4 e0
     replace e1:=keep_cell hb4 e1
     replace e2:=keep_cell hb4 e2
     have hm4:=hm2.below hb4
     have hr4:w4.heap[w1.heap.size+1]? =some (.cells N 103 (0,0)):=(hb4.block _ hml3).trans hr2
     obtain⟨C,hC,hCs,c1,c2,c3,c4,c5⟩:=mach_made N hN (.slice (some ⟨pb,0,none⟩) cs.length pc) rfl
     have hA:MkAt a cs ⟨w4.heap.size,w4.heap.size,pb,pc, .slice none 0 0⟩ (s.at1 cs.length 0 0) (w4.alloc (.cells C 109)):=MkAt.fresh hpg (by rw[hcn];exact hm4) hr4 c1 c2 c3 c4 c5
     have b5:Below w4.heap.size w4 (w4.alloc (.cells C 109)):=bRf.alloc nL _
     have hX:FillX a cs ⟨w4.heap.size,w4.heap.size,pb,pc, .slice none 0 0⟩ s ⟨ai,ci,ar,cr⟩ w4 (w4.alloc (.cells C 109)):=⟨hA,HS.out w4 B4,rfl,b5,HG.out.2.2.2.2,HG.out.2.1,HT.out.1⟩
     have HFl:=hide (kfill_any hX)
     have HZ:Hid (∀w',MkStep a cs ⟨w4.heap.size,w4.heap.size,pb,pc, .slice none 0 0⟩ (w4.alloc (.cells C 109)) (.slice none 0 0) (s.mach cs.length) w'->NewPost a s cs w (.returned (.tuple #[.pointer (some ⟨w4.heap.size,0,none⟩), .nilIface])) w'):=hide fun w' k=>by
      have b6:Below w4.heap.size (w4.alloc (.cells C 109)) w':=k.turns.below (by simp) (fun i o hi hf=>by have:=hA.fp_ge hf;dsimp only at this;omega)
      have b7:Below w.heap.size w w':=below_step b1 (B4.trans ((b5.trans b6).mono B4.size))
      have ef:s.fault cs=codesFrom 0 cs:=if_pos HG.out
      exact⟨b7,Or.inl ⟨by rw[ef];exact hz,HR,_,rfl,k.at',Nat.le_trans b1.size B4.size,rfl⟩⟩
     replace e0:=keep_cell b5 e0
     replace e1:=keep_cell b5 e1
     replace e2:=keep_cell b5 e2
     have hms:=memSize N hN
     have hks:=machSize C hCs
     clear hm2 hm4 hr2 hX hA hpg hpl HR c1 c2 c3 c4 c5 hz HE HP HS HQ HG hCs hN hpb b5 hb4 B3 B4 hml3
     obtain⟨W5,hW5⟩: ∃W5,W5=w4.alloc (.cells C 109):=⟨_,rfl⟩
     rw[<-hW5] at HFl HZ
     go_wp2_with (first
      |refine wpList_load_row (by rfl) 103 _ (by rfl) (w1.heap.size+1) (by rfl) 103 N (0,0) _ hr4 Tryz.underlying103 (by rfl) hms ?_
      |refine wpList_build_two (by rfl) 109 0 1 _ _ (by rfl) (.agg N) (.slice (some ⟨pb,0,none⟩) cs.length pc) (by rfl) (by rfl) C hC ?_)
     rw[<-hW5]
     clear hW5 hr4
     refine HFl.out.mono ?_
     rintro e w6 ⟨rfl,hk⟩
     have hZ:=HZ.out w6 hk.out
     clear HFl HZ hk
     go_wp2
     go_ret2
     exact hZ
    ·have ef:s.fault cs=codesFrom 0 cs:=if_pos HG.out
     have HZ:Hid (∀v,errIs a (codesFrom 0 cs) v w4 w3.heap.size->NewPost a s cs w (.returned (.tuple #[.pointer none,v])) w4):=hide fun v hv=>by
      refine⟨below_step b1 B4,Or.inr ⟨by rw[ef];exact hz,v,rfl,?_⟩⟩
      rw[ef]
      rcases hv with h3 |h3 |⟨h4,j,N,h5,h6,h7⟩
      ·exact .inl h3
      ·exact .inr (.inl h3)
      ·exact .inr (.inr ⟨h4,j,N,h5,Nat.le_trans (Nat.le_trans b1.size B3.size) h6,h7⟩)
     have HV:=HZ.out v hv
     clear hm2 hr2 HE HP HS HQ HG HZ hN hb4 B3 B4 hml3 e0 e1 e2
     rcases hv with⟨h, -⟩ |⟨-, -,rfl⟩ |⟨-,j2,N2, -, -,rfl, -, -⟩
     ·exact absurd h hz
     ·obtain⟨k,hk⟩: ∃k,(codesFrom 0 cs).1=k+1:=⟨(codesFrom 0 cs).1 - 1,by omega⟩
      rw[hk] at HV ⊢
      clear hz hk ef
      rw[show xval a (k+1)=xerr (a k) from rfl] at HV ⊢
      have HV2:=hide HV
      clear HV
      go_wp2
      go_ret2
      exact HV2.out
     ·have HV2:=hide HV
      clear HV hz ef
      go_wp2
      go_ret2
      exact HV2.out
  ·have HN:=hide (mnew_threads a c cs.length w1 E1.toM (by omega) (by omega) (by omega))
   rw[<-hcc] at HN
   have HB:Hid (∀w',Below w1.heap.size w1 w'->NewPost a s cs w (.returned (.tuple #[.pointer none,errAt (a 1)])) w'):=hide fun w' h=>NewPost.bound (fun h=>ht ⟨h.2.2.1,h.2.2.2.1⟩) (below_step b1 h)
   clear E1 S1 L1 HQ ht hc hcc e1 e2
   go_enter Tryz.func11,Tryz.ntmps11
   go_wp2_with fail
   rw[<-hw1]
   clear hw1
   refine HN.out.mono ?_
   rintro e w2 ⟨rfl,hb2⟩
   go_wp2
   go_ret2
   exact HB.out _ hb2
 ·have HN:=hide (mnew_cells a s.cells cs.length w1 E1.toM hc)
  have HB:Hid (∀w',Below w1.heap.size w1 w'->NewPost a s cs w (.returned (.tuple #[.pointer none,errAt (a 1)])) w'):=hide fun w' h=>NewPost.bound (fun h=>hc ⟨h.1,h.2.1⟩) (below_step b1 h)
  clear E1 S1 L1 HQ hc e1 e2
  go_enter Tryz.func11,Tryz.ntmps11
  go_wp2_with fail
  rw[<-hw1]
  clear hw1
  refine HN.out.mono ?_
  rintro e w2 ⟨rfl,hb2⟩
  go_wp2
  go_ret2
  exact HB.out _ hb2
end
section
open Go.RowKit Go.Extern.Stop Go.Stop Go.Extern Go.Maps Go.WideMaps Go.Sort
variable {cs:List (List Ins)} {a:Nat->Addr} {w:World} {p:MkPl} {m:Mk} {P:Program} {v:Value}
theorem MkAt.whole(h:MkAt a cs p m w)(k:Nat)(hk:k<641): ∃v,w.cell? ⟨p.b,k,none⟩=some v/\v.oneCell'=true:=by
 have hm:=h.mem
 have h6:=hm.few
 have cast: ∀{o v},w.cell? ⟨p.b,o,none⟩=some v->o=k->v.oneCell'=true-> ∃v,w.cell? ⟨p.b,k,none⟩=some v/\v.oneCell'=true:=fun hc e ho=>by subst e;exact⟨_,hc,ho⟩
 by_cases h0:k=0
 ·exact cast hm.ar.size (by omega) rfl
 by_cases h1:k<257
 ·exact cast (hm.ar.words ((k - 1) / 4) ((k - 1) % 4) (by omega) (by omega)) (by omega) rfl
 by_cases h2:k<321
 ·exact cast (hm.ar.there (k - 257) (by omega)) (by omega) rfl
 by_cases h3:k<385
 ·exact cast (hm.ar.given (k - 321) (by omega)) (by omega) rfl
 by_cases h4:k=385
 ·exact cast hm.nt (by omega) rfl
 by_cases h5:k<386+m.mem.threads*33
 ·have hl:=hm.line ((k - 386) / 33) (by omega)
  by_cases e:(k - 386) % 33=32
  ·exact cast hl.len (by omega) rfl
  ·exact cast (hl.row ((k - 386) % 33 / 4) ((k - 386) % 33 % 4) (by omega) (by omega)) (by omega) rfl
 by_cases h6:k<584
 ·exact cast (hm.rest k (by omega) h6) rfl rfl
 by_cases h7:k=584
 ·exact cast h.prog (by omega) rfl
 by_cases h8:k<639
 ·by_cases e:(k - 585) % 9=8
  ·exact cast (h.pc ((k - 585) / 9) (by omega)) (by omega) rfl
  ·exact cast (h.reg ((k - 585) / 9) ((k - 585) % 9) (by omega) (by omega)) (by omega) rfl
 by_cases h9:k=639
 ·refine cast h.marks (by omega) ?_
  obtain⟨g,c,e,_⟩:=ownsRow_shape h.own
  rw[e];rfl
 ·exact cast h.faults (by omega) rfl
theorem MkAt.rowOf(h:MkAt a cs p m w): ∃C:Array Value,C.size=641/\(∀k,k<641->C[k]? =w.cell? ⟨p.b,k,none⟩)/\C.all (·.oneCell')=true:=by
 refine⟨((List.range 641).map fun k=>(w.cell? ⟨p.b,k,none⟩).getD undef).toArray,by rw[List.size_toArray,List.length_map,List.length_range],fun k hk=>?_,?_⟩
 ·obtain⟨v,hv, -⟩:=h.whole k hk
  rw[List.getElem?_toArray,List.getElem?_map,List.getElem?_range hk,hv]
  simp[hv]
 ·rw[List.all_toArray,List.all_eq_true]
  intro v hv
  obtain⟨k,hk,rfl⟩:=List.mem_map.1 hv
  obtain⟨v,hv,ho⟩:=h.whole k (List.mem_range.1 hk)
  rw[hv];exact ho
theorem run_loadVar_cells (w:World) (b:Nat) (ty:TypeId) (cs:Array Value) (d:TypeDesc) (hc: ∀k,k<cs.size->cs[k]? =w.cell? ⟨b,k,none⟩) 
  (hu:P.underlying ty=some d) (hd:(match d with | .struct _ | .array _ _=>true |_=>false)=true) (hi:(P.info? ty).map (·.size)=some cs.size):
  (loadVar ty ⟨b,0,none⟩).run P w= .ok (.agg cs) w:=by
 have hl:(loadCells ⟨b,0,none⟩ cs.toList.length).run P w= .ok cs.toList.toArray w:=
  run_loadCells_list (P:=P) w ⟨b,0,none⟩ cs.toList (fun j v hv=>by
   have hj:=(List.getElem?_eq_some_iff.1 hv).1
   rw[Addr.add_lit,Nat.zero_add, <-hc j (by simpa using hj)]
   simpa using hv)
 cases hq:P.info? ty with
 |none=>simp[hq] at hi
 | some i=>
  have hs:i.size=cs.size:=by simpa [hq] using hi
  have hagg:(isAgg ty).run P w= .ok true w:=by
   unfold isAgg
   rw[Sem.run_bind,run_underlying hu w]
   cases d <;> simp_all
  simp only[Array.length_toList,Array.toArray_toList] at hl
  simp[loadVar,Sem.run_bind,hagg,sizeOf,typeInfo,hq,hs,hl]
theorem wpList_load_cells{ops:Array Oper}{rest:List Oper}{o:Oper}{a:Act}{Q:Exit->Act->World->Prop}(hgd:o.guard=none)(ty:TypeId)(x:Operand)(ho:o.op= .load ty x) 
  (b:Nat) (hx:a.eval x= .pointer (some ⟨b,0,none⟩)) (cs:Array Value) (d:TypeDesc) (hc: ∀k,k<cs.size->cs[k]? =w.cell? ⟨b,k,none⟩)
  (hu:P.underlying ty=some d) (hd:(match d with | .struct _ | .array _ _=>true |_=>false)=true) (hi:(P.info? ty).map (·.size)=some cs.size)
  (h:wpList P ops Q rest (a.put o.dst (.agg cs)) w):wpList P ops Q (o::rest) a w:=by
 refine wpList_plain hgd fun K hK=>?_
 unfold Oper.wp execOp
 simp only[ho,hx,Instr.loadAt,Instr.sureAddr,Sem.run_bind,Sem.run_pure,Result.andThen_ok,run_loadVar_cells w b ty cs d hc hu hd hi]
 exact hK _ _ h
theorem MkAt.move{w w':World}{b':Nat}(h:MkAt a cs p m w)(hB:Below p.B w w')(hb:p.B<=b')(hc: ∀k,k<641->k≠639->w'.cell? ⟨b',k,none⟩=w.cell? ⟨p.b,k,none⟩)(hf: ∀k,w'.frozen? ⟨b',k,none⟩=false) 
  (hv:w'.cell? ⟨b',639,none⟩=some v) (hown:w'.ownsRow 0 80 2 v m.marks.length (markCells m.marks)) (hne: ∀k,v.ownBlock=some k->k≠b'/\p.B<=k):MkAt a cs ⟨p.B,b',p.pb,p.pc,v⟩ m w' where
 pg :=by
  obtain⟨W,h1,h2,h3⟩:=h.pg.ex
  exact⟨W,h1,h2,h3.trans hB⟩
 mem:=h.mem.move (fun k hk=>hc k (by omega) (by omega)) hf
 thr:=h.thr
 prog:=by rw[hc _ (by omega) (by omega)];exact h.prog
 reg t r ht hr:=by rw[hc _ (by omega) (by omega)];exact h.reg t r ht hr
 pc t ht:=by rw[hc _ (by omega) (by omega)];exact h.pc t ht
 marks:=hv
 own:=hown
 faults:=by rw[hc _ (by omega) (by omega)];exact h.faults
 frozen o _ _:=hf o
 ne:=hne
 hB:=hb
theorem ownsRow_zero{base n sz:Nat}{e:TypeId}{xs:List Value}(h:w.ownsRow base e sz v n xs):w.ownsRow 0 e sz v n xs:=by
 rcases h with⟨hlen,h |⟨g,cap,cur,h1, -,h2⟩⟩
 ·exact⟨hlen, .inl h⟩
 ·exact⟨hlen, .inr ⟨g,cap,cur,h1,Nat.zero_le _,h2⟩⟩
theorem copy_at{w w2 w3:World}(h:MkAt a cs p m w){C:Array Value}(hc: ∀k,k<641->C[k]? =w.cell? ⟨p.b,k,none⟩) 
  (hs:w2.heap.size=w.heap.size+1) (hrow:w2.heap[w.heap.size]? =some (.cells C 109 (0,0))) (hold:Below w.heap.size w w2) {v:Value} (hb:Below w2.heap.size w2 w3) (hown:w3.ownsRow w2.heap.size 80 2 v m.marks.length (markCells m.marks)):
  MkAt a cs ⟨p.B,w.heap.size,p.pb,p.pc,v⟩ m (w3.setCell ⟨w.heap.size,639,none⟩ v)/\Below w.heap.size w (w3.setCell ⟨w.heap.size,639,none⟩ v):=by
 have hB:=below_step hold hb
 have hBs:p.B<=w.heap.size:=by have:=h.hB;have:=h.lt;omega
 have hr3:w3.heap[w.heap.size]? =some (.cells C 109 (0,0)):=(hb.block _ (by omega)).trans hrow
 have hne: ∀k,v.ownBlock=some k->k≠w.heap.size/\w.heap.size<=k:=fun k hk=>by have:=(hown.lt k hk).1;omega
 have hB4:Below w.heap.size w (w3.setCell ⟨w.heap.size,639,none⟩ v):=hB.setCell nL _
 have c3: ∀k,k<641->w3.cell? ⟨w.heap.size,k,none⟩=w.cell? ⟨p.b,k,none⟩:=fun k hk=>by rw[<-hc k hk];exact cell_of_row hr3 k
 refine⟨h.move (hB4.mono hBs) hBs (fun k hk hn=>?_) (fun k=>?_) ?_ ?_ (fun k hk=>⟨(hne k hk).1,Nat.le_trans hBs (hne k hk).2⟩),hB4⟩
 ·obtain⟨u,hu, -⟩:=h.whole k hk
  rw[hu]
  exact cell_ne ((c3 k hk).trans hu) (Or.inr (by omega))
 ·rw[World.frozen?_setCell]
  exact frozen_of_row _ _ _ _ _ hr3
 ·obtain⟨u,hu, -⟩:=h.whole 639 (by decide)
  exact World.cell?_setCell_same _ _ _ ((c3 639 (by decide)).trans hu)
 ·exact ownsRow_zero (ownsRow_block hown fun k hk=>Below.heap_setCell _ _ _ _ (hne k hk).1)
end
section
open Go.RowKit Go.Extern.Stop Go.Stop Go.Extern Go.Maps Go.WideMaps Go.Sort
theorem kcopy_any{a:Nat->Addr}{cs:List (List Ins)}{p:MkPl}{m:Mk}{w:World}(h:MkAt a cs p m w)(h5:m.marks.length<=500):
  Calls Tryz.prog 14 #[.pointer (some ⟨p.b,0,none⟩)] w fun e w'=> ∃v,e= .returned (.pointer (some ⟨w.heap.size,0,none⟩))/\Hid (MkAt a cs ⟨p.B,w.heap.size,p.pb,p.pc,v⟩ m w'/\Below w.heap.size w w'/\ ∀k,v.ownBlock=some k->w.heap.size<=k):=by
 obtain⟨C,hC,hc,h1⟩:=h.rowOf
 have hks:=machSize C hC
 have HC:Hid (∀k,k<C.size->C[k]? =w.cell? ⟨p.b,k,none⟩):=hide fun k hk=>hc k (by omega)
 have H:=hide h
 have Hc:=hide hc
 have H5:=hide h5
 obtain⟨ad0,cap0,hvs, -⟩:=ownsRow_shape h.own
 have hm:=h.marks
 have hl:=h.lt
 rw[hvs] at hm
 have HV:=hide hvs
 clear h h5 hc hvs
 obtain⟨W2,hW2⟩: ∃W2,W2=(w.alloc (.cells Tryz.zeroCells109 109)).setRow w.heap.size C:=⟨_,rfl⟩
 have hr1:(w.alloc (.cells Tryz.zeroCells109 109)).heap[w.heap.size]? =some (.cells Tryz.zeroCells109 109 (0,0)):=heap_alloc_new w _
 have hrow:W2.heap[w.heap.size]? =some (.cells C 109 (0,0)):=by rw[hW2];exact setRow_heap _ _ _ _ _ _ hr1
 have hs2:W2.heap.size=w.heap.size+1:=by rw[hW2];simp[World.setRow]
 have hb2:Below w.heap.size w W2:=by
  rw[hW2]
  exact⟨rfl,rfl,rfl,by simp[World.setRow],fun k hk=>by rw[setRow_other _ _ _ _ (by omega)];exact Below.heap_alloc w _ k hk⟩
 have hm2:W2.cell? ⟨p.b,639,none⟩=some (.slice ad0 m.marks.length cap0):=keep_cell hb2 hm
 have HCl:=hide (cloneM_any (w:=W2) (v:= .slice ad0 m.marks.length cap0) (by have:=(H.out.below hb2).own;rw[HV.out] at this;exact this) (by have:=H5.out;omega))
 have HA:Hid (∀w3 v,Below W2.heap.size W2 w3->w3.ownsRow W2.heap.size 80 2 v m.marks.length (markCells m.marks)->MkAt a cs ⟨p.B,w.heap.size,p.pb,p.pc,v⟩ m (w3.setCell ⟨w.heap.size,639,none⟩ v)/\Below w.heap.size w (w3.setCell ⟨w.heap.size,639,none⟩ v)/\ ∀k,v.ownBlock=some k->w.heap.size<=k):=hide fun w3 v hb hown=>by
  obtain⟨q1,q2⟩:=copy_at H.out Hc.out hs2 hrow hb2 hb hown
  exact⟨q1,q2,fun k hk=>by have:=(hown.lt k hk).1;omega⟩
 have hcell:Hid (∀w3,Below W2.heap.size W2 w3->(∃u,w3.cell? ⟨w.heap.size,639,none⟩=some u)/\w3.frozen? ⟨w.heap.size,639,none⟩=false):=hide fun w3 hb=>by
  have hr3:w3.heap[w.heap.size]? =some (.cells C 109 (0,0)):=(hb.block _ (by omega)).trans hrow
  obtain⟨u,hu, -⟩:=H.out.whole 639 (by decide)
  exact⟨⟨u,by rw[cell_of_row hr3,Hc.out 639 (by decide)];exact hu⟩,frozen_of_row _ _ _ _ _ hr3⟩
 rw[hW2] at hm2
 clear hrow hs2 hb2 hm H Hc HV H5
 go_enter Tryz.func14,Tryz.ntmps14
 go_wp2_with (first
  |refine wpList_load_cells (by rfl) 109 _ (by rfl) p.b (by rfl) C _ HC.out Tryz.underlying109 (by rfl) hks ?_
  |refine wpList_store_row (by rfl) 109 _ _ (by rfl) w.heap.size C (by rfl) (by rfl) 109 Tryz.zeroCells109 hr1 hks (by rw[zeroK_size,hC]) h1 ?_)
 rw[<-hW2]
 refine HCl.out.mono ?_
 rintro e w3 ⟨v,rfl,hown,hb⟩
 obtain⟨⟨u,hu⟩,hf⟩:=hcell.out w3 hb
 have HZ:=hide (HA.out w3 v hb hown)
 obtain⟨ad,cap,rfl, -⟩:=ownsRow_shape hown
 clear HCl HA hcell hown hb hm2 hr1 HC hks h1 hC
 go_wp2
 go_ret
 exact⟨_,rfl,HZ.out⟩
end
end Go.Proofs.YtdpmnlbnlnmjbaaGreatDoor
