import Derived.Test.YtnoigmdmgdcliaaGreatDoorA05
import Derived.Laws.IdiomCopy
import Derived.Deep.RegionHeld3
import Derived.Deep.RegionLaw
namespace Go.Proofs.YtnoigmdmgdcliaaGreatDoor
set_option maxRecDepth 100000
set_option maxHeartbeats 8000000
section
open Go.RowKit Go.Extern.Stop Go.Stop Go.Extern
variable {l:List Wt} {b o:Nat} {w:World}
def Wt.nth(x:Wt):Nat->Int
 |0=>x.c
 |1=>x.g
 |2=>x.w
 |_=>x.v
def lnCell(l:List Wt)(i k:Nat):Int:=match l[i]? with
 |some x=>x.nth k
 |none=>0
structure LnAt(b o:Nat)(l:List Wt)(w:World):Prop where
 le:l.length<=8
 len:w.cell? ⟨b,o+32,none⟩=some (.int .i64 l.length)
 row: ∀i k,i<8->k<4->w.cell? ⟨b,o+i*4+k,none⟩=some (.int .i64 (lnCell l i k))
 frozen: ∀k,k<33->w.frozen? ⟨b,o+k,none⟩=false
def lnPl(b o:Nat):Nat->Nat->Prop:=fun k p=>k=b/\o<=p/\p<o+33
theorem LnAt.lt(h:LnAt b o l w):b<w.heap.size:=bLt h.len
theorem LnAt.turns{S:Nat->Nat->Prop}{w w':World}(h:LnAt b o l w)(t:Turns S w w')(hS: ∀k,k<33-> ¬S b (o+k)):LnAt b o l w' where
 le:=h.le
 len:=t.keep h.len (hS 32 (by decide))
 row i k hi hk:=t.keep (h.row i k hi hk) (by have:=hS (i*4+k) (by omega);simpa [Nat.add_assoc] using this)
 frozen k hk:=by rw[t.frozen b (o+k) h.lt (hS k hk)];exact h.frozen k hk
theorem LnAt.below{w w':World}(h:LnAt b o l w)(hb:Below w.heap.size w w'):LnAt b o l w':=
 h.turns (Turns.of_below (S:=fun _ _=>False) hb) (fun _ _ h=>h)
theorem LnAt.alloc(h:LnAt b o l w)(ob:Obj):LnAt b o l (w.alloc ob):=h.below (bRf.alloc nL _)
theorem LnAt.drew(h:LnAt b o l w):LnAt b o l w.drew:=h.below bRf.drew
theorem full_any(b o:Nat)(l:List Wt)(w:World)(h:LnAt b o l w):
  Calls Tryz.prog 262 #[.pointer (some ⟨b,o,none⟩)] w fun e w'=>e= .returned (.bool (decide (8<=l.length)))/\w'=w:=by
 have hn:=h.len
 have hle:=h.le
 clear h
 by_cases h8:8<=l.length
 ·have e8:l.length=8:=by omega
  rw[decide_eq_true h8]
  rw[e8] at hn
  go_enter Tryz.func262,Tryz.ntmps262
  go_wp2
  go_ret
  exact⟨rfl,rfl⟩
 ·have e8:((l.length:Int)==8)=false:=beq_eq_false_iff_ne.2 (by omega)
  rw[decide_eq_false h8]
  go_enter Tryz.func262,Tryz.ntmps262
  go_wp2
  go_ret
  exact⟨rfl,rfl⟩
theorem lnCell_append(l:List Wt)(x:Wt)(i k:Nat):lnCell (l++[x]) i k=if i=l.length then x.nth k else lnCell l i k:=by
 unfold lnCell
 by_cases h:i<l.length
 ·rw[List.getElem?_append_left h,if_neg (by omega)]
 ·rw[List.getElem?_append_right (by omega)]
  by_cases e:i=l.length
  ·rw[if_pos e,show i - l.length=0 by omega];rfl
  ·rw[if_neg e,List.getElem?_eq_none (by simp;omega),List.getElem?_eq_none (by omega)]
def lnSet(w:World)(b p:Nat)(x0 x1 x2 x3:Value):World:=(((w.setCell ⟨b,p,none⟩ x0).setCell ⟨b,p+1,none⟩ x1).setCell ⟨b,p+2,none⟩ x2).setCell ⟨b,p+3,none⟩ x3
theorem lnSet_other{b p k:Nat}{x0 x1 x2 x3 u:Value}(hc:w.cell? ⟨b,k,none⟩=some u)(hk:k<p∨p+4<=k):(lnSet w b p x0 x1 x2 x3).cell? ⟨b,k,none⟩=some u:=
 cell_ne (cell_ne (cell_ne (cell_ne hc (Or.inr (by omega))) (Or.inr (by omega))) (Or.inr (by omega))) (Or.inr (by omega))
theorem lnSet_same{b p:Nat}{x0 x1 x2 x3:Value}(hc: ∀k,k<4-> ∃u,w.cell? ⟨b,p+k,none⟩=some u):(lnSet w b p x0 x1 x2 x3).cell? ⟨b,p,none⟩=some x0/\(lnSet w b p x0 x1 x2 x3).cell? ⟨b,p+1,none⟩=some x1/\(lnSet w b p x0 x1 x2 x3).cell? ⟨b,p+2,none⟩=some x2/\(lnSet w b p x0 x1 x2 x3).cell? ⟨b,p+3,none⟩=some x3:=by
 obtain⟨u0,h0⟩:=hc 0 (by decide)
 obtain⟨u1,h1⟩:=hc 1 (by decide)
 obtain⟨u2,h2⟩:=hc 2 (by decide)
 obtain⟨u3,h3⟩:=hc 3 (by decide)
 refine ⟨cell_ne (cell_ne (cell_ne (World.cell?_setCell_same _ _ _ h0) (Or.inr (by omega))) (Or.inr (by omega))) (Or.inr (by omega)),
  cell_ne (cell_ne (World.cell?_setCell_same _ _ _ (cell_ne h1 (Or.inr (by omega)))) (Or.inr (by omega))) (Or.inr (by omega)),
  cell_ne (World.cell?_setCell_same _ _ _ (cell_ne (cell_ne h2 (Or.inr (by omega))) (Or.inr (by omega)))) (Or.inr (by omega)),
  World.cell?_setCell_same _ _ _ (cell_ne (cell_ne (cell_ne h3 (Or.inr (by omega))) (Or.inr (by omega))) (Or.inr (by omega)))⟩
theorem LnAt.put (h:LnAt b o l w) (x:Wt) (h8:l.length<8):
  LnAt b o (l++[x]) ((lnSet w b (o+l.length*4) (.int .i64 x.c) (.int .i64 x.g) (.int .i64 x.w) (.int .i64 x.v)).setCell ⟨b,o+32,none⟩ (.int .i64 (l.length+1))) where
 le:=by simp;omega
 len :=by
  rw[World.cell?_setCell_same _ _ _ (lnSet_other h.len (by omega))];simp
 row i k hi hk:=by
  refine cell_ne ?_ (Or.inr (by omega))
  rw[lnCell_append]
  by_cases e:i=l.length
  ·rw[if_pos e]
   obtain⟨e0,e1,e2,e3⟩:=lnSet_same (w:=w) (b:=b) (p:=o+l.length*4) (x0:= .int .i64 x.c) (x1:= .int .i64 x.g) (x2:= .int .i64 x.w) (x3:= .int .i64 x.v) (fun k hk=>⟨_,h.row l.length k h8 hk⟩)
   subst e
   match k,hk with
   |0,_=>exact e0
   |1,_=>exact e1
   |2,_=>exact e2
   |3,_=>exact e3
  ·rw[if_neg e]
   exact lnSet_other (h.row i k hi hk) (by omega)
 frozen k hk:=by
  simp only[lnSet,World.frozen?_setCell];exact h.frozen k hk
theorem add_any(b o:Nat)(l:List Wt)(x:Wt)(w:World)(h:LnAt b o l w)(h8:l.length<8):
  Calls Tryz.prog 263 #[.pointer (some ⟨b,o,none⟩), .agg #[.int .i64 x.c, .int .i64 x.g, .int .i64 x.w, .int .i64 x.v]] w fun e w'=>e= .returned (.tuple #[])/\LnAt b o (l++[x]) w'/\Turns (lnPl b o) w w':=by
 have h1:=h.alloc (.cells #[.int .i64 x.c, .int .i64 x.g, .int .i64 x.w, .int .i64 x.v] 125)
 have hba:Below w.heap.size w (w.alloc (.cells #[.int .i64 x.c, .int .i64 x.g, .int .i64 x.w, .int .i64 x.v] 125)):=bRf.alloc nL _
 have q0:(w.alloc (.cells #[.int .i64 x.c, .int .i64 x.g, .int .i64 x.w, .int .i64 x.v] 125)).cell? ⟨w.heap.size,0,none⟩=some (.int .i64 x.c):=by simp
 have q1:(w.alloc (.cells #[.int .i64 x.c, .int .i64 x.g, .int .i64 x.w, .int .i64 x.v] 125)).cell? ⟨w.heap.size,1,none⟩=some (.int .i64 x.g):=by simp
 have q2:(w.alloc (.cells #[.int .i64 x.c, .int .i64 x.g, .int .i64 x.w, .int .i64 x.v] 125)).cell? ⟨w.heap.size,2,none⟩=some (.int .i64 x.w):=by simp
 have q3:(w.alloc (.cells #[.int .i64 x.c, .int .i64 x.g, .int .i64 x.w, .int .i64 x.v] 125)).cell? ⟨w.heap.size,3,none⟩=some (.int .i64 x.v):=by simp
 have HL:Hid (LnAt b o (l++[x]) ((lnSet (w.alloc (.cells #[.int .i64 x.c, .int .i64 x.g, .int .i64 x.w, .int .i64 x.v] 125)) b (o+l.length*4) (.int .i64 x.c) (.int .i64 x.g) (.int .i64 x.w) (.int .i64 x.v)).setCell ⟨b,o+32,none⟩ (.int .i64 (l.length+1)))):=h1.put x h8
 generalize hw:w.alloc (.cells #[.int .i64 x.c, .int .i64 x.g, .int .i64 x.w, .int .i64 x.v] 125)=w1 at*
 have hl:=h1.lt
 have hn:=h1.len
 have i8:(l.length:Int)<8:=by omega
 have r0:w1.cell? ⟨b,o+l.length*4,none⟩=some (.int .i64 (lnCell l l.length 0)):=h1.row l.length 0 h8 (by decide)
 have r1:=h1.row l.length 1 h8 (by decide)
 have r2:=h1.row l.length 2 h8 (by decide)
 have r3:=h1.row l.length 3 h8 (by decide)
 have f0:w1.frozen? ⟨b,o+l.length*4,none⟩=false:=h1.frozen (l.length*4) (by omega)
 have f1:w1.frozen? ⟨b,o+l.length*4+1,none⟩=false:=by have:=h1.frozen (l.length*4+1) (by omega);simpa [Nat.add_assoc] using this
 have f2:w1.frozen? ⟨b,o+l.length*4+2,none⟩=false:=by have:=h1.frozen (l.length*4+2) (by omega);simpa [Nat.add_assoc] using this
 have f3:w1.frozen? ⟨b,o+l.length*4+3,none⟩=false:=by have:=h1.frozen (l.length*4+3) (by omega);simpa [Nat.add_assoc] using this
 have fn:w1.frozen? ⟨b,o+32,none⟩=false:=h1.frozen 32 (by decide)
 clear h h1
 go_enter Tryz.func263,Tryz.ntmps263
 go_wp2
 go_region
 go_wp2
 go_end0
 have hp: ∀k,k<4->lnPl b o b (o+l.length*4+k):=fun k hk=>⟨rfl,by omega,by omega⟩
 exact⟨rfl,HL.out.drew,((((((Turns.of_below hba).setCell _ (hp 0 (by decide))).setCell _ (hp 1 (by decide))).setCell _ (hp 2 (by decide))).setCell _ (hp 3 (by decide))).setCell _ ⟨rfl,by omega,by omega⟩).drew⟩
end
section
open Go.RowKit Go.Extern.Stop Go.Stop Go.Extern
variable {w:World} {l:List Wt} {b o:Nat} {P:Program}
theorem run_copy_four(w:World)(dT sT ty elem:TypeId)(b o dLen dCap:Nat)(a:Addr)(sLen sCap n:Nat)(cs:List Value) 
  (hu:P.underlying dT=some (.slice elem)) (hs:(P.info? elem).map (·.size)=some 4) (hm:Nat.min sLen dLen=n) (hn:cs.length=n*4)
  (hsrc: ∀j v,cs[j]? =some v->w.cell? (a.add j)=some v) (hc: ∀j,j<cs.length->(w.cell? ⟨b,o+j,none⟩).isSome=true) (hf: ∀j,j<cs.length->w.frozen? ⟨b,o+j,none⟩=false) (h1: ∀v∈cs,v.oneCell'=true):
  (Builtin.copy_ #[dT,sT] ty #[.slice (some ⟨b,o,none⟩) dLen dCap, .slice (some a) sLen sCap]).run P w= .ok (goInt n) (w.setCells b o cs):=by
 have hl:=run_loadCells_list (P:=P) w a cs hsrc
 have hst:=run_storeCells_cells (P:=P) b o cs 0 w (by simpa using hc) (by simpa using hf) h1
 rw[hn] at hl
 cases hq:P.info? elem with
 |none=>simp[hq] at hs
 | some i=>
  have hi:i.size=4:=by simpa [hq] using hs
  simp[Builtin.copy_,run_underlying hu,Builtin.lenOf,Builtin.firstCells,sizeOf,typeInfo,hq,hi,hm,hl,hst]
theorem wtCells_nth(l:List Wt)(i k:Nat)(hi:i<l.length)(hk:k<4):(wtCells l)[i*4+k]? =some (.int .i64 (lnCell l i k)):=by
 obtain⟨a0,a1,a2,a3⟩:=wtCells_at l i l[i] (List.getElem?_eq_getElem hi)
 unfold lnCell
 rw[List.getElem?_eq_getElem hi]
 match k,hk with
 |0,_=>exact a0
 |1,_=>exact a1
 |2,_=>exact a2
 |3,_=>exact a3
theorem turns_setCells{S:Nat->Nat->Prop}{a:World}(b:Nat): ∀(vs:List Value) (o:Nat) (w:World),Turns S a w->(∀j,j<vs.length->S b (o+j))->Turns S a (w.setCells b o vs)
 | [],_,_,h,_=>h
 |v::r,o,w,h,hS=>turns_setCells b r (o+1) _ (h.setCell v (by simpa using hS 0 (by simp))) (fun j hj=>by have:=hS (j+1) (by simp;omega);rwa [show o+(j+1)=o+1+j by omega] at this)
theorem lnCell_cons(x:Wt)(l:List Wt)(i k:Nat):lnCell (x::l) (i+1) k=lnCell l i k:=rfl
theorem lnCell_out(l:List Wt)(i k:Nat)(h:l.length<=i):lnCell l i k=0:=by unfold lnCell;rw[List.getElem?_eq_none h]
theorem LnAt.src{x:Wt}(h:LnAt b o (x::l) w)(j:Nat)(v:Value)(hj:(wtCells l)[j]? =some v):w.cell? ⟨b,o+4+j,none⟩=some v:=by
 have hlt:j<(wtCells l).length:=(List.getElem?_eq_some_iff.1 hj).1
 rw[wtCells_length] at hlt
 have h8:=h.le
 simp only[List.length_cons] at h8
 have e:=wtCells_nth l (j / 4) (j % 4) (by omega) (by omega)
 rw[show j / 4*4+j % 4=j by omega,hj] at e
 have r:=h.row (j / 4+1) (j % 4) (by omega) (by omega)
 rw[lnCell_cons,show o+(j / 4+1)*4+j % 4=o+4+j by omega] at r
 rw[r, <-e]
theorem LnAt.take {x:Wt} (h:LnAt b o (x::l) w):
  LnAt b o l (lnSet ((w.setCells b o (wtCells l)).setCell ⟨b,o+32,none⟩ (.int .i64 l.length)) b (o+l.length*4) (.int .i64 0) (.int .i64 0) (.int .i64 0) (.int .i64 0)):=by
 have h8:=h.le
 simp only[List.length_cons] at h8
 have hout: ∀p u,w.cell? ⟨b,p,none⟩=some u->o+l.length*4<=p->(w.setCells b o (wtCells l)).cell? ⟨b,p,none⟩=some u:=fun p u hu hp=>by
  rw[World.cell?_setCells_out _ _ _ _ _ (fun _ _=>Or.inr (by rw[wtCells_length];exact hp))];exact hu
 have hall: ∀p,p<l.length*4-> ∃u,(w.setCells b o (wtCells l)).cell? ⟨b,o+p,none⟩=some u/\(wtCells l)[p]? =some u:=fun p hp=>by
  have hl:p<(wtCells l).length:=by rw[wtCells_length];exact hp
  refine⟨(wtCells l)[p],World.cell?_setCells_in b (wtCells l) o w (fun j hj=>?_) p hl,List.getElem?_eq_getElem hl⟩
  rw[wtCells_length] at hj
  have r:=h.row (j / 4) (j % 4) (by omega) (by omega)
  rw[show o+j / 4*4+j % 4=o+j by omega] at r
  rw[r];rfl
 refine⟨by omega,?_,fun i k hi hk=>?_,fun k hk=>?_⟩
 ·exact lnSet_other (World.cell?_setCell_same _ _ _ (hout _ _ h.len (by omega))) (by omega)
 ·by_cases e:i=l.length
  ·have r: ∀k,k<4-> ∃u,((w.setCells b o (wtCells l)).setCell ⟨b,o+32,none⟩ (.int .i64 l.length)).cell? ⟨b,o+l.length*4+k,none⟩=some u:=fun k hk=>⟨_,cell_ne (hout _ _ (h.row l.length k (by omega) hk) (by omega)) (Or.inr (by omega))⟩
   obtain⟨e0,e1,e2,e3⟩:=lnSet_same (x0:= .int .i64 0) (x1:= .int .i64 0) (x2:= .int .i64 0) (x3:= .int .i64 0) r
   rw[lnCell_out l i k (by omega)]
   subst e
   match k,hk with
   |0,_=>exact e0
   |1,_=>exact e1
   |2,_=>exact e2
   |3,_=>exact e3
  ·refine lnSet_other (cell_ne ?_ (Or.inr (by omega))) (by omega)
   by_cases hlt:i<l.length
   ·obtain⟨u,hu,hu'⟩:=hall (i*4+k) (by omega)
    rw[wtCells_nth l i k hlt hk] at hu'
    rw[show o+i*4+k=o+(i*4+k) by omega,hu, <-hu']
   ·have r:=h.row i k hi hk
    obtain⟨m,rfl⟩: ∃m,i=m+1:=⟨i - 1,by omega⟩
    rw[lnCell_cons,lnCell_out l m k (by omega)] at r
    rw[lnCell_out l _ k (by omega)]
    exact hout _ _ r (by omega)
 ·simp only[lnSet,World.frozen?_setCell,World.frozen?_setCells]
  exact h.frozen k hk
theorem stInfo:(Tryz.prog.info? 125).map (·.size)=some 4:=by kernel_rfl
theorem LnAt.apart(h:LnAt b o l w){p:Addr}(v:Value)(hp:p.block≠b):LnAt b o l (w.setCell p v) where
 le:=h.le
 len:=by rw[World.cell?_setCell_other _ _ _ _ (fun e=>hp (by rw[e]))];exact h.len
 row i k hi hk:=by rw[World.cell?_setCell_other _ _ _ _ (fun e=>hp (by rw[e]))];exact h.row i k hi hk
 frozen k hk:=by rw[World.frozen?_setCell];exact h.frozen k hk
theorem blk2(w:World)(o1 o2:Obj):((w.alloc o1).alloc o2).heap[w.heap.size]? =some o1/\((w.alloc o1).alloc o2).heap[w.heap.size+1]? =some o2:=by
 have e1:w.heap.size+1=(w.alloc o1).heap.size:=(World.size_alloc _ _).symm
 refine⟨?_,?_⟩
 ·rw[Below.heap_alloc _ _ _ (by omega)];exact heap_new w o1
 ·rw[e1];exact heap_new _ o2
theorem cells4{k:Nat}{x0 x1 x2 x3:Value}{t:TypeId}(h:w.heap[k]? =some (.cells #[x0,x1,x2,x3] t)):
  (w.cell? ⟨k,0,none⟩=some x0/\w.cell? ⟨k,1,none⟩=some x1/\w.cell? ⟨k,2,none⟩=some x2/\w.cell? ⟨k,3,none⟩=some x3)/\ ∀o,w.frozen? ⟨k,o,none⟩=false:=by
 refine⟨⟨?_,?_,?_,?_⟩,fun o=>?_⟩
 ·simp[World.cell?,h]
 ·simp[World.cell?,h]
 ·simp[World.cell?,h]
 ·simp[World.cell?,h]
 ·simp[World.frozen?,h]
theorem step_copy_four(w:World){ops:Array Oper}{o:Oper}{a:Act}{K:Act->World->Prop}{Q:Exit->Act->World->Prop}{E:Prop}(hgd:o.guard=none)(s x:Operand)(t elem:TypeId) 
  (ho:o.op= .call { callee:= .builtin .copy,args:=#[s,x],argTypes:=#[t,t] })
  (hu:P.underlying t=some (.slice elem)) (hz:(P.info? elem).map (·.size)=some 4)
  (b p dLen dCap:Nat) (ad:Addr) (sLen sCap n:Nat) (cs:List Value) (hs:a.eval s= .slice (some ⟨b,p,none⟩) dLen dCap) (hx:a.eval x= .slice (some ad) sLen sCap)
  (hm:Nat.min sLen dLen=n) (hn:cs.length=n*4)
  (hsrc: ∀j v,cs[j]? =some v->w.cell? (ad.add j)=some v) (hc: ∀j,j<cs.length->(w.cell? ⟨b,p+j,none⟩).isSome=true) (hf: ∀j,j<cs.length->w.frozen? ⟨b,p+j,none⟩=false) (h1: ∀v∈cs,v.oneCell'=true)
  (h:K (a.put o.dst (goInt n)) (w.setCells b p cs)):
  if Region.wanted o (yielded ops a.tmps)=true then Oper.wp P o a w K Q else E:=by
 have hw:Region.wanted o (yielded ops a.tmps)=true:=by simp[Region.wanted,hgd]
 rw[if_pos hw]
 have hr:=run_copy_four (P:=P) w t t o.type elem b p dLen dCap ad sLen sCap n cs hu hz hm hn hsrc hc hf h1
 unfold Oper.wp execOp
 simp only[ho,resolve,invoke,builtin,Sem.run_bind,Sem.run_pure,Result.andThen_ok,List.map_toArray,List.map_cons,List.map_nil,hs,hx,hr]
 exact h
theorem take_any (b o:Nat) (x:Wt) (l:List Wt) (w:World) (h:LnAt b o (x::l) w):
  Calls Tryz.prog 222 #[.pointer (some ⟨b,o,none⟩)] w fun e w'=>e= .returned (.agg #[.int .i64 x.c, .int .i64 x.g, .int .i64 x.w, .int .i64 x.v])/\LnAt b o l w'/\Turns (lnPl b o) w w':=by
 have h8:=h.le
 simp only[List.length_cons] at h8
 have hl:=h.lt
 have r0:w.cell? ⟨b,o,none⟩=some (.int .i64 x.c):=h.row 0 0 (by decide) (by decide)
 have r1:w.cell? ⟨b,o+1,none⟩=some (.int .i64 x.g):=h.row 0 1 (by decide) (by decide)
 have r2:w.cell? ⟨b,o+2,none⟩=some (.int .i64 x.w):=h.row 0 2 (by decide) (by decide)
 have r3:w.cell? ⟨b,o+3,none⟩=some (.int .i64 x.v):=h.row 0 3 (by decide) (by decide)
 go_enter Tryz.func222,Tryz.ntmps222
 go_wp2
 have h1:LnAt b o (x::l) ((w.alloc (.cells #[.int .i64 0, .int .i64 0, .int .i64 0, .int .i64 0] 125)).alloc (.cells #[.int .i64 x.c, .int .i64 x.g, .int .i64 x.w, .int .i64 x.v] 125)):=(h.alloc _).alloc _
 have hba:Below w.heap.size w ((w.alloc (.cells #[.int .i64 0, .int .i64 0, .int .i64 0, .int .i64 0] 125)).alloc (.cells #[.int .i64 x.c, .int .i64 x.g, .int .i64 x.w, .int .i64 x.v] 125)):=(bRf.alloc nL _).alloc (by simp) _
 obtain⟨y0,y1⟩:=blk2 w (.cells #[.int .i64 0, .int .i64 0, .int .i64 0, .int .i64 0] 125) (.cells #[.int .i64 x.c, .int .i64 x.g, .int .i64 x.w, .int .i64 x.v] 125)
 clear r0 r1 r2 r3
 generalize hw1:(w.alloc (.cells #[.int .i64 0, .int .i64 0, .int .i64 0, .int .i64 0] 125)).alloc (.cells #[.int .i64 x.c, .int .i64 x.g, .int .i64 x.w, .int .i64 x.v] 125)=w1 at*
 clear hw1
 have hn:w1.cell? ⟨b,o+32,none⟩=some (.int .i64 ((l.length:Int)+1)):=by rw[h1.len];simp
 have n1:(1:Int)<=(l.length:Int)+1:=by omega
 have n8:(l.length:Int)+1<=8:=by omega
 have HS:Hid (LnAt b o (x::l) w1):=h1
 clear h h1
 have HSrc:Hid (∀j v,(wtCells l)[j]? =some v->w1.cell? ((⟨b,o+4,none⟩:Addr).add j)=some v):=fun j v hj=>by
  rw[Addr.add_lit];exact HS.out.src j v hj
 have HCc:Hid (∀j,j<(wtCells l).length->(w1.cell? ⟨b,o+j,none⟩).isSome=true):=fun j hj=>by
  rw[wtCells_length] at hj
  have r:=HS.out.row (j / 4) (j % 4) (by omega) (by omega)
  rw[show o+j / 4*4+j % 4=o+j by omega] at r
  rw[r];rfl
 have HCf:Hid (∀j,j<(wtCells l).length->w1.frozen? ⟨b,o+j,none⟩=false):=fun j hj=>by
  rw[wtCells_length] at hj
  exact HS.out.frozen j (by omega)
 have hmin:Nat.min l.length 8=l.length:=Nat.min_eq_left (by omega)
 go_region_law
  (refine step_copy_four _ (by rfl) _ _ _ 125 (by rfl) Tryz.underlying335 stInfo b o 8 8 ⟨b,o+4,none⟩ l.length 7 l.length (wtCells l) (by rfl) (by rfl) hmin (wtCells_length l) (fun j v hj=>HSrc.out j v hj) (fun j hj=>HCc.out j hj) (fun j hj=>HCf.out j hj) wtCells_one ?_)
 have H1:LnAt b o (x::l) w1.drew:=HS.out.drew
 have HT:Hid (LnAt b o l (lnSet ((w1.drew.setCells b o (wtCells l)).setCell ⟨b,o+32,none⟩ (.int .i64 l.length)) b (o+l.length*4) (.int .i64 0) (.int .i64 0) (.int .i64 0) (.int .i64 0))):=H1.take
 have T2:Turns (lnPl b o) w (w1.drew.setCells b o (wtCells l)):=turns_setCells b (wtCells l) o _ (Turns.of_below hba).drew (fun j hj=>⟨rfl,by omega,by rw[wtCells_length] at hj;omega⟩)
 have hout: ∀k p u,w1.cell? ⟨k,p,none⟩=some u->k≠b∨o+l.length*4<=p->(w1.drew.setCells b o (wtCells l)).cell? ⟨k,p,none⟩=some u:=fun k p u hu hp=>by
  rw[World.cell?_setCells_out _ _ _ _ _ (fun e _=>Or.inr (by rw[wtCells_length];rcases hp with hp |hp;exact absurd e hp;exact hp))];exact hu
 have hfr: ∀k p,w1.frozen? ⟨k,p,none⟩=false->(w1.drew.setCells b o (wtCells l)).frozen? ⟨k,p,none⟩=false:=fun k p hu=>by
  rw[World.frozen?_setCells];exact hu
 have c32:(w1.drew.setCells b o (wtCells l)).cell? ⟨b,o+32,none⟩=some (.int .i64 ((l.length:Int)+1)):=hout _ _ _ hn (Or.inr (by omega))
 have g32:(w1.drew.setCells b o (wtCells l)).frozen? ⟨b,o+32,none⟩=false:=hfr _ _ (H1.frozen 32 (by decide))
 have r0:(w1.drew.setCells b o (wtCells l)).cell? ⟨b,o+l.length*4,none⟩=some (.int .i64 (lnCell (x::l) l.length 0)):=hout _ _ _ (H1.row l.length 0 (by omega) (by decide)) (Or.inr (by omega))
 have r1:(w1.drew.setCells b o (wtCells l)).cell? ⟨b,o+l.length*4+1,none⟩=some (.int .i64 (lnCell (x::l) l.length 1)):=hout _ _ _ (H1.row l.length 1 (by omega) (by decide)) (Or.inr (by omega))
 have r2:(w1.drew.setCells b o (wtCells l)).cell? ⟨b,o+l.length*4+2,none⟩=some (.int .i64 (lnCell (x::l) l.length 2)):=hout _ _ _ (H1.row l.length 2 (by omega) (by decide)) (Or.inr (by omega))
 have r3:(w1.drew.setCells b o (wtCells l)).cell? ⟨b,o+l.length*4+3,none⟩=some (.int .i64 (lnCell (x::l) l.length 3)):=hout _ _ _ (H1.row l.length 3 (by omega) (by decide)) (Or.inr (by omega))
 have f0:(w1.drew.setCells b o (wtCells l)).frozen? ⟨b,o+l.length*4,none⟩=false:=hfr _ _ (H1.frozen (l.length*4) (by omega))
 have f1:(w1.drew.setCells b o (wtCells l)).frozen? ⟨b,o+l.length*4+1,none⟩=false:=hfr _ _ (by have:=H1.frozen (l.length*4+1) (by omega);simpa [Nat.add_assoc] using this)
 have f2:(w1.drew.setCells b o (wtCells l)).frozen? ⟨b,o+l.length*4+2,none⟩=false:=hfr _ _ (by have:=H1.frozen (l.length*4+2) (by omega);simpa [Nat.add_assoc] using this)
 have f3:(w1.drew.setCells b o (wtCells l)).frozen? ⟨b,o+l.length*4+3,none⟩=false:=hfr _ _ (by have:=H1.frozen (l.length*4+3) (by omega);simpa [Nat.add_assoc] using this)
 obtain⟨⟨z0,z1,z2,z3⟩,zf⟩:=cells4 y0
 obtain⟨⟨v0,v1,v2,v3⟩,_⟩:=cells4 y1
 replace z0:=hout _ _ _ z0 (Or.inl (Nat.ne_of_gt hl))
 replace z1:=hout _ _ _ z1 (Or.inl (Nat.ne_of_gt hl))
 replace z2:=hout _ _ _ z2 (Or.inl (Nat.ne_of_gt hl))
 replace z3:=hout _ _ _ z3 (Or.inl (Nat.ne_of_gt hl))
 replace v0:=hout _ _ _ v0 (Or.inl (by omega))
 replace v1:=hout _ _ _ v1 (Or.inl (by omega))
 replace v2:=hout _ _ _ v2 (Or.inl (by omega))
 replace v3:=hout _ _ _ v3 (Or.inl (by omega))
 have y0:=hfr _ _ (zf 0)
 have y1:=hfr _ _ (zf 1)
 have y2:=hfr _ _ (zf 2)
 have y3:=hfr _ _ (zf 3)
 have i8:(l.length:Int)<8:=by omega
 clear hout hfr H1 HS HSrc HCc HCf hn zf hba hmin
 generalize w1.drew.setCells b o (wtCells l)=w2 at*
 go_wp2
 go_region
 unfold lnSet at HT
 have hp: ∀k,k<4->lnPl b o b (o+l.length*4+k):=fun k hk=>⟨rfl,by omega,by omega⟩
 have T3:Turns (lnPl b o) w (((((w2.setCell ⟨b,o+32,none⟩ (.int .i64 l.length)).setCell ⟨b,o+l.length*4,none⟩ (.int .i64 0)).setCell ⟨b,o+l.length*4+1,none⟩ (.int .i64 0)).setCell ⟨b,o+l.length*4+2,none⟩ (.int .i64 0)).setCell ⟨b,o+l.length*4+3,none⟩ (.int .i64 0)).drew:=
  (((((T2.setCell _ ⟨rfl,by omega,by omega⟩).setCell _ (hp 0 (by decide))).setCell _ (hp 1 (by decide))).setCell _ (hp 2 (by decide))).setCell _ (hp 3 (by decide))).drew
 have H3:LnAt b o l (((((w2.setCell ⟨b,o+32,none⟩ (.int .i64 l.length)).setCell ⟨b,o+l.length*4,none⟩ (.int .i64 0)).setCell ⟨b,o+l.length*4+1,none⟩ (.int .i64 0)).setCell ⟨b,o+l.length*4+2,none⟩ (.int .i64 0)).setCell ⟨b,o+l.length*4+3,none⟩ (.int .i64 0)).drew:=HT.out.drew
 have hz: ∀k p u,w2.cell? ⟨k,p,none⟩=some u->k≠b->(((((w2.setCell ⟨b,o+32,none⟩ (.int .i64 l.length)).setCell ⟨b,o+l.length*4,none⟩ (.int .i64 0)).setCell ⟨b,o+l.length*4+1,none⟩ (.int .i64 0)).setCell ⟨b,o+l.length*4+2,none⟩ (.int .i64 0)).setCell ⟨b,o+l.length*4+3,none⟩ (.int .i64 0)).drew.cell? ⟨k,p,none⟩=some u:=
  fun k p u hu hk=>by
   rw[World.cell?_drew]
   exact cell_ne (cell_ne (cell_ne (cell_ne (cell_ne hu (Or.inl hk)) (Or.inl hk)) (Or.inl hk)) (Or.inl hk)) (Or.inl hk)
 have hf: ∀k p,w2.frozen? ⟨k,p,none⟩=false->(((((w2.setCell ⟨b,o+32,none⟩ (.int .i64 l.length)).setCell ⟨b,o+l.length*4,none⟩ (.int .i64 0)).setCell ⟨b,o+l.length*4+1,none⟩ (.int .i64 0)).setCell ⟨b,o+l.length*4+2,none⟩ (.int .i64 0)).setCell ⟨b,o+l.length*4+3,none⟩ (.int .i64 0)).drew.frozen? ⟨k,p,none⟩=false:=
  fun k p hu=>by rw[World.frozen?_drew,World.frozen?_setCell,World.frozen?_setCell,World.frozen?_setCell,World.frozen?_setCell,World.frozen?_setCell];exact hu
 have kn:w.heap.size≠b:=by omega
 have km:w.heap.size+1≠b:=by omega
 replace z0:=hz _ _ _ z0 kn
 replace z1:=hz _ _ _ z1 kn
 replace z2:=hz _ _ _ z2 kn
 replace z3:=hz _ _ _ z3 kn
 replace v0:=hz _ _ _ v0 km
 replace v1:=hz _ _ _ v1 km
 replace v2:=hz _ _ _ v2 km
 replace v3:=hz _ _ _ v3 km
 replace y0:=hf _ _ y0
 replace y1:=hf _ _ y1
 replace y2:=hf _ _ y2
 replace y3:=hf _ _ y3
 clear HT hz hf T2 c32 g32 r0 r1 r2 r3 f0 f1 f2 f3
 generalize (((((w2.setCell ⟨b,o+32,none⟩ (.int .i64 l.length)).setCell ⟨b,o+l.length*4,none⟩ (.int .i64 0)).setCell ⟨b,o+l.length*4+1,none⟩ (.int .i64 0)).setCell ⟨b,o+l.length*4+2,none⟩ (.int .i64 0)).setCell ⟨b,o+l.length*4+3,none⟩ (.int .i64 0)).drew=w3 at*
 go_wp2
 refine bodyPost_ret (v:= .agg #[.int .i64 x.c, .int .i64 x.g, .int .i64 x.w, .int .i64 x.v]) (by simp only[results,Tryz.results222];go_simp) rfl ⟨rfl,?_,?_⟩
 ·exact(((H3.apart _ kn).apart _ kn).apart _ kn).apart _ kn
 ·exact(((T3.setNew _ nL).setNew _ nL).setNew _ nL).setNew _ nL
end
section
open Go.RowKit Go.Extern.Stop Go.Stop Go.Extern
theorem drop_pick(l:List Wt)(j:Nat)(x:Wt)(h:l[j]? =some x)(c g k v:Int):(l.drop j).foldl (Wt.pick c g k) v=(l.drop (j+1)).foldl (Wt.pick c g k) (Wt.pick c g k v x):=by
 obtain⟨hl,rfl⟩:=List.getElem?_eq_some_iff.1 h
 rw[List.drop_eq_getElem_cons hl];rfl
theorem take_drop_pick(l:List Wt)(j:Nat)(c g k v:Int):l.foldl (Wt.pick c g k) v=(l.drop j).foldl (Wt.pick c g k) ((l.take j).foldl (Wt.pick c g k) v):=by
 rw[<-List.foldl_append,List.take_append_drop]
def LastIs(l:List Wt)(c g k:Int)(e:Ending):Prop:= ∃v ok,e= .returned (.tuple #[.int .i64 v, .bool ok])/\(ok=false->v=0)/\ ∀v0,l.foldl (Wt.pick c g k) v0=if ok=true then v else v0
theorem last_any (b o:Nat) (l:List Wt) (c g k:Int) (w:World) (h:LnAt b o l w):
  Calls Tryz.prog 261 #[.pointer (some ⟨b,o,none⟩), .agg #[.int .i64 c, .int .i64 g], .int .i64 k] w fun e w'=>LastIs l c g k e/\Below w.heap.size w w':=by
 have h1:=h.alloc (.cells #[.int .i64 c, .int .i64 g] 88)
 have hba:=box_below c g w
 obtain⟨q0,q1⟩:=box2c w 88 (.int .i64 c) (.int .i64 g)
 generalize hw:w.alloc (.cells #[.int .i64 c, .int .i64 g] 88)=w1 at*
 have hn:=h1.len
 have hle:=h1.le
 have HL:Hid (LnAt b o l w1):=h1
 clear h h1
 have l8:(l.length:Int)<=8:=by omega
 go_enter Tryz.func261,Tryz.ntmps261
 go_wp2_with fail
 go_loopw [8,9] (fun i _ wr=>Below w1.heap.size w1 wr/\ ∃j:Nat,j<=l.length/\i= .int .i64 ((j:Int) - 1)/\Hid (∀v0,(l.drop j).foldl (Wt.pick c g k) v0=v0)) (fun i _ _=>(intOf i+1).toNat)
 case atStart=>exact⟨Below.refl _ _,l.length,Nat.le_refl _,by go_num,fun v0=>by rw[List.drop_length];rfl⟩
 case round=>
  obtain⟨hbr,j,hj,rfl,HD⟩:=hrel
  have r0:=keep_cell hbr q0
  have r1:=keep_cell hbr q1
  have B2:=below_step hba hbr
  have HL2:=HL.out.below hbr
  cases j with
  | zero=>
   have hz:(((0:Nat):Int) - 1)= -1:=rfl
   rw[hz]
   clear HL2 HL
   go_wp2
   go_ret2
   exact⟨⟨0,false,rfl,fun _=>rfl,fun v0=>by have:=HD.out v0;rwa [List.drop_zero] at this⟩,B2⟩
  | succ j=>
   have hz:(((j+1:Nat):Int) - 1)=(j:Int):=by omega
   rw[hz]
   obtain⟨x,hx⟩: ∃x,l[j]? =some x:=⟨_,List.getElem?_eq_getElem (by omega)⟩
   have e0:wr.cell? ⟨b,o+j*4,none⟩=some (.int .i64 x.c):=by have:=HL2.row j 0 (by omega) (by decide);unfold lnCell at this;rw[hx] at this;exact this
   have e1:wr.cell? ⟨b,o+j*4+1,none⟩=some (.int .i64 x.g):=by have:=HL2.row j 1 (by omega) (by decide);unfold lnCell at this;rw[hx] at this;exact this
   have e2:wr.cell? ⟨b,o+j*4+2,none⟩=some (.int .i64 x.w):=by have:=HL2.row j 2 (by omega) (by decide);unfold lnCell at this;rw[hx] at this;exact this
   have e3:wr.cell? ⟨b,o+j*4+3,none⟩=some (.int .i64 x.v):=by have:=HL2.row j 3 (by omega) (by decide);unfold lnCell at this;rw[hx] at this;exact this
   have HP:Hid (∀v0,(l.drop j).foldl (Wt.pick c g k) v0=Wt.pick c g k v0 x):=fun v0=>by rw[drop_pick l j x hx];exact HD.out _
   have j8:(j:Int)<8:=by omega
   have y0:=bLt r0
   clear HL2 HL HD hx q0 q1
   by_cases b0:x.c=c
   ·have t0:(x.c==c)=true:=beq_iff_eq.2 b0
    by_cases b1:x.g=g
    ·have t1:(x.g==g)=true:=beq_iff_eq.2 b1
     by_cases b2:x.w=k
     ·have t2:(x.w==k)=true:=beq_iff_eq.2 b2
      have HQ:Hid (∀v0,l.foldl (Wt.pick c g k) v0=x.v):=fun v0=>by rw[take_drop_pick l j,HP.out];exact if_pos ⟨b0,b1,b2⟩
      clear b0 b1 b2 HP
      go_wp2
      go_ret2
      exact⟨⟨x.v,true,rfl,(fun h=>Bool.noConfusion h),fun v0=>HQ.out v0⟩,B2.alloc B2.size _⟩
     ·have t2:(x.w==k)=false:=beq_eq_false_iff_ne.2 b2
      have HQ:Hid (∀v0,(l.drop j).foldl (Wt.pick c g k) v0=v0):=fun v0=>by rw[HP.out];exact if_neg (fun h=>b2 h.2.2)
      clear b0 b1 b2 HP
      go_wp2
      go_roundw
      case rel=>exact⟨hbr.alloc hbr.size _,j,by omega,by go_num,HQ⟩
      case measure=>simp[intOf]
    ·have t1:(x.g==g)=false:=beq_eq_false_iff_ne.2 b1
     have HQ:Hid (∀v0,(l.drop j).foldl (Wt.pick c g k) v0=v0):=fun v0=>by rw[HP.out];exact if_neg (fun h=>b1 h.2.1)
     clear b0 b1 HP
     go_wp2
     go_roundw
     case rel=>exact⟨hbr.alloc hbr.size _,j,by omega,by go_num,HQ⟩
     case measure=>simp[intOf]
   ·have t0:(x.c==c)=false:=beq_eq_false_iff_ne.2 b0
    have HQ:Hid (∀v0,(l.drop j).foldl (Wt.pick c g k) v0=v0):=fun v0=>by rw[HP.out];exact if_neg (fun h=>b0 h.1)
    clear b0 HP
    go_wp2
    go_roundw
    case rel=>exact⟨hbr.alloc hbr.size _,j,by omega,by go_num,HQ⟩
    case measure=>simp[intOf]
def waitsFor(l:List Wt)(c g k:Int):Bool:=decide (l.foldl (Wt.pick c g k) 0=l.foldl (Wt.pick c g k) 1)
theorem lastIs_det{l:List Wt}{c g k:Int}{e:Ending}(h:LastIs l c g k e):e= .returned (.tuple #[.int .i64 (l.foldl (Wt.pick c g k) 0), .bool (waitsFor l c g k)])/\ ∀v0,l.foldl (Wt.pick c g k) v0=if waitsFor l c g k=true then l.foldl (Wt.pick c g k) 0 else v0:=by
 obtain⟨v,ok,rfl,h0,hv⟩:=h
 cases ok
 ·have h1: ∀v0,l.foldl (Wt.pick c g k) v0=v0:=fun v0=>by rw[hv];rfl
  have hw:waitsFor l c g k=false:=by unfold waitsFor;rw[h1,h1];rfl
  rw[hw,h1,h0 rfl]
  exact⟨rfl,fun v0=>by rw[h1];rfl⟩
 ·have h1: ∀v0,l.foldl (Wt.pick c g k) v0=v:=fun v0=>by rw[hv];rfl
  have hw:waitsFor l c g k=true:=by unfold waitsFor;rw[h1,h1];exact decide_eq_true rfl
  rw[hw,h1]
  exact⟨rfl,fun v0=>by rw[h1];rfl⟩
theorem last_det(b o:Nat)(l:List Wt)(c g k:Int)(w:World)(h:LnAt b o l w):
  Calls Tryz.prog 261 #[.pointer (some ⟨b,o,none⟩), .agg #[.int .i64 c, .int .i64 g], .int .i64 k] w fun e w'=>e= .returned (.tuple #[.int .i64 (l.foldl (Wt.pick c g k) 0), .bool (waitsFor l c g k)])/\Below w.heap.size w w':=
 (last_any b o l c g k w h).mono fun _ _ ⟨h1,h2⟩=>⟨(lastIs_det h1).1,h2⟩
end
section
open Go.RowKit Go.Extern.Stop Go.Stop Go.Extern Go.Sort
variable {b:Nat} {s:Rm} {w w':World}
structure MmAt(b:Nat)(s:Rm)(w:World):Prop where
 ar:ArAt b 0 s.ar w
 few:s.threads<=6
 nt:w.cell? ⟨b,385,none⟩=some (.int .i64 s.threads)
 line: ∀t,t<s.threads->LnAt b (386+t*33) (s.waits t) w
 rest: ∀o,386+s.threads*33<=o->o<584->w.cell? ⟨b,o,none⟩=some (.int .i64 0)
theorem MmAt.lt{w:World}(h:MmAt b s w):b<w.heap.size:=bLt h.nt
theorem MmAt.turns{S:Nat->Nat->Prop}(h:MmAt b s w)(t:Turns S w w')(hS: ∀o,o<584-> ¬S b o):MmAt b s w' where
 ar:=h.ar.turns t (fun _ _=>hS _ (by omega))
 few:=h.few
 nt:=t.keep h.nt (hS _ (by omega))
 line u hu:=(h.line u hu).turns t (fun _ _=>hS _ (by have:=h.few;omega))
 rest o h1 h2:=t.keep (h.rest o h1 h2) (hS o h2)
theorem MmAt.below(h:MmAt b s w)(hb:Below w.heap.size w w'):MmAt b s w':=
 h.turns (Turns.of_below (S:=fun _ _=>False) hb) (fun _ _ h=>h)
theorem MmAt.alloc{w:World}(h:MmAt b s w)(ob:Obj):MmAt b s (w.alloc ob):=h.below (bRf.alloc nL _)
structure MmStep(b:Nat)(w:World)(s':Rm)(w':World):Prop where
 at':MmAt b s' w'
 turns:Turns (fun k o=>k=b/\o<584) w w'
theorem MmStep.refl{w:World}(h:MmAt b s w):MmStep b w s w:=⟨h,Turns.refl _ _⟩
theorem MmStep.trans{s s':Rm}{w w' w2:World}(h:MmStep b w s w')(k:MmStep b w' s' w2):MmStep b w s' w2:=⟨k.at',h.turns.trans k.turns⟩
theorem MmStep.below{w w' w2:World}(h:MmStep b w s w')(k:Below w'.heap.size w' w2):MmStep b w s w2:=⟨h.at'.below k,h.turns.trans (Turns.of_below k)⟩
theorem MmStep.of_below{w0 w w':World}(k:Below w0.heap.size w0 w)(h:MmStep b w s w'):MmStep b w0 s w':=⟨h.at',(Turns.of_below k).trans h.turns⟩
theorem MmAt.arena(h:MmAt b s w){r:Ar}(hr:ArAt b 0 r w')(t:Turns (arPl b 0) w w'):MmStep b w { s with ar:=r } w' where
 at':=⟨hr,h.few,t.keep h.nt (fun e=>by have:=e.2.2;omega),fun u hu=>(h.line u hu).turns t (fun k _ e=>by have:=e.2.2;omega),fun o h1 h2=>t.keep (h.rest o h1 h2) (fun e=>by have:=e.2.2;omega)⟩
 turns:=t.mono fun _ _ _ e=>⟨e.1,by have:=e.2.2;omega⟩
theorem MmAt.ofLine(h:MmAt b s w){t:Nat}(ht:t<s.threads){l:List Wt}(hl:LnAt b (386+t*33) l w')(k:Turns (lnPl b (386+t*33)) w w'):MmStep b w (s.setWaits t l) w' where
 at' :=⟨h.ar.turns k (fun i hi e=>by have:=e.2.1;omega),h.few,k.keep h.nt (fun e=>by have:=e.2.1;omega),fun u hu=>by
  simp only[Rm.setWaits]
  by_cases e:u=t
  ·rw[if_pos e,e];exact hl
  ·rw[if_neg e];exact(h.line u hu).turns k (fun i hi e'=>by have:=e'.2.1;have:=e'.2.2;omega),fun o h1 h2=>k.keep (h.rest o h1 h2) (fun e=>by have:=e.2.2;have h3:386+s.threads*33<=o:=h1;omega)⟩
 turns:=k.mono fun _ _ _ e=>⟨e.1,by have:=e.2.2;have:=h.few;omega⟩
theorem has_m (b:Nat) (s:Rm) (t:Int) (w:World) (h:MmAt b s w):
  Calls Tryz.prog 162 #[.pointer (some ⟨b,0,none⟩), .int .i64 t] w fun e w'=>e= .returned (.bool (decide (0<=t/\t<s.threads)))/\w'=w:=by
 have hn:=h.nt
 have hf:=h.few
 clear h
 by_cases h0:0<=t
 ·by_cases h1:t<s.threads
  ·rw[decide_eq_true ⟨h0,h1⟩]
   go_enter Tryz.func162,Tryz.ntmps162
   go_wp2
   go_ret
   exact⟨rfl,rfl⟩
  ·rw[decide_eq_false (fun e=>h1 e.2)]
   go_enter Tryz.func162,Tryz.ntmps162
   go_wp2
   go_ret
   exact⟨rfl,rfl⟩
 ·rw[decide_eq_false (fun e=>h0 e.1)]
  go_enter Tryz.func162,Tryz.ntmps162
  go_wp2
  go_ret
  exact⟨rfl,rfl⟩
theorem has_m_yes(b:Nat)(s:Rm)(t:Nat)(w:World)(h:MmAt b s w)(ht:t<s.threads):
  Calls Tryz.prog 162 #[.pointer (some ⟨b,0,none⟩), .int .i64 t] w fun e w'=>e= .returned (.bool true)/\w'=w:=
 (has_m b s t w h).mono fun _ _ ⟨h1,h2⟩=>⟨by rw[h1,decide_eq_true (by omega)],h2⟩
theorem has_m_no(b:Nat)(s:Rm)(t:Int)(w:World)(h:MmAt b s w)(ht: ¬(0<=t/\t<s.threads)):
  Calls Tryz.prog 162 #[.pointer (some ⟨b,0,none⟩), .int .i64 t] w fun e w'=>e= .returned (.bool false)/\w'=w:=
 (has_m b s t w h).mono fun _ _ ⟨h1,h2⟩=>⟨by rw[h1,decide_eq_false ht],h2⟩
def Rm.waiting(s:Rm)(t:Int):Nat:=if 0<=t/\t<s.threads then(s.waits t.toNat).length else 0
theorem waiting_any(b:Nat)(s:Rm)(t:Int)(w:World)(h:MmAt b s w):
  Calls Tryz.prog 144 #[.pointer (some ⟨b,0,none⟩), .int .i64 t] w fun e w'=>e= .returned (.int .i64 (s.waiting t))/\w'=w:=by
 by_cases ht:0<=t/\t<s.threads
 ·obtain⟨n,rfl⟩:=Int.eq_ofNat_of_zero_le ht.1
  have hn:n<s.threads:=by omega
  have hf:=h.few
  have n6:(n:Int)<6:=by omega
  have hl:=(h.line n hn).len
  have e:s.waiting n=(s.waits n).length:=by unfold Rm.waiting;rw[if_pos ht];rfl
  rw[e]
  have HH:Hid (Calls Tryz.prog 162 #[.pointer (some ⟨b,0,none⟩), .int .i64 n] w fun e w'=>e= .returned (.bool true)/\w'=w):=has_m_yes b s n w h hn
  clear h e ht
  go_enter Tryz.func144,Tryz.ntmps144
  go_wp2_with fail
  refine HH.out.mono ?_
  rintro e0 w1 ⟨rfl,rfl⟩
  go_wp2
  go_ret
  exact⟨rfl,rfl⟩
 ·have e:s.waiting t=0:=by unfold Rm.waiting;rw[if_neg ht]
  rw[e]
  have HH:Hid (Calls Tryz.prog 162 #[.pointer (some ⟨b,0,none⟩), .int .i64 t] w fun e w'=>e= .returned (.bool false)/\w'=w):=has_m_no b s t w h ht
  clear h e ht
  go_enter Tryz.func144,Tryz.ntmps144
  go_wp2_with fail
  refine HH.out.mono ?_
  rintro e0 w1 ⟨rfl,rfl⟩
  go_wp2
  go_ret
  exact⟨rfl,rfl⟩
theorem allow_no(a:Nat->Addr)(b:Nat)(s:Rm)(t c g k:Int)(vs:Value)(w:World)(hE:EnvM a w)(h:MmAt b s w)(ht: ¬(0<=t/\t<s.threads)):
  Calls Tryz.prog 213 #[.pointer (some ⟨b,0,none⟩), .int .i64 t, .agg #[.int .i64 c, .int .i64 g], .int .i64 k,vs] w fun e w'=>e= .returned (errAt (a 1))/\Below w.heap.size w w':=by
 have hba:=box_below c g w
 have c1:(w.alloc (.cells #[.int .i64 c, .int .i64 g] 88)).cell? ⟨0,0,none⟩=some (errAt (a 1)):=(hE.below hba.block).cell 1 (by decide)
 have HH:=has_m_no b s t _ (h.alloc (.cells #[.int .i64 c, .int .i64 g] 88)) ht
 clear h ht
 generalize hw:w.alloc (.cells #[.int .i64 c, .int .i64 g] 88)=w1 at*
 go_enter Tryz.func213,Tryz.ntmps213
 go_wp2_with fail
 refine HH.mono ?_
 rintro e0 w2 ⟨rfl,rfl⟩
 go_wp2
 go_ret
 exact⟨rfl,hba⟩
theorem allow_yes(b:Nat)(s:Rm)(t:Nat)(c g k:Int)(vs r:Value)(w:World)(h:MmAt b s w)(ht:t<s.threads) 
  (HC: ∀w',Below w.heap.size w w'->Calls Tryz.prog 234 #[.pointer (some ⟨b,0,none⟩), .agg #[.int .i64 c, .int .i64 g], .int .i64 k,vs] w' fun e w''=>e= .returned r/\Below w'.heap.size w' w''):
  Calls Tryz.prog 213 #[.pointer (some ⟨b,0,none⟩), .int .i64 t, .agg #[.int .i64 c, .int .i64 g], .int .i64 k,vs] w fun e w'=>e= .returned r/\Below w.heap.size w w':=by
 have hba:=box_below c g w
 have HH:=has_m_yes b s t _ (h.alloc (.cells #[.int .i64 c, .int .i64 g] 88)) ht
 obtain⟨q0,q1⟩:=box2c w 88 (.int .i64 c) (.int .i64 g)
 clear h ht
 generalize hw:w.alloc (.cells #[.int .i64 c, .int .i64 g] 88)=w1 at*
 go_enter Tryz.func213,Tryz.ntmps213
 go_wp2_with fail
 refine HH.mono ?_
 rintro e0 w2 ⟨rfl,rfl⟩
 clear HH hw
 have HCF:Hid (∀d os,Calls Tryz.prog 234 #[.pointer (some ⟨b,0,none⟩), .agg #[.int .i64 c, .int .i64 g], .int .i64 k,vs] (grow (redrawn w2 d) os) fun e w''=>e= .returned r/\ ∃p:Regrown,w''=grow (redrawn w2 p.d) p.os):=fun d os=>
  Calls.regrown_of (HC _ (below_step hba (below_regrown w2 d os)))
 have d0:=cell_regrown q0
 have d1:=cell_regrown q1
 clear HC
 go_wp2_with fail
 refine wp_region_quiet_below (by kernel_rfl) (by kernel_rfl) ?_
 repeat (first
  |go_big_quiet_step (exact HCF.out _ _)
  |quiet_step (exact HCF.out _ _))
 refine wpQuiet_nil ?_
 intro _ hw'
 obtain⟨⟨dq,osq⟩,hw''⟩:=hw'
 subst hw''
 have B8:=below_step hba (below_regrown w2 dq osq)
 clear HCF d0 d1 q0 q1
 generalize grow (redrawn w2 dq) osq=w8 at B8 ⊢
 go_wp2
 go_ret
 exact⟨rfl,B8⟩
end
end Go.Proofs.YtnoigmdmgdcliaaGreatDoor
