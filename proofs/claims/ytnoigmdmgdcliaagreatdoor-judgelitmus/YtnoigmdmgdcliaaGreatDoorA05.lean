import Derived.Test.YtnoigmdmgdcliaaGreatDoorA04
import Derived.Maps.AppendAt
import Derived.Deep.RegionHeld3
import Derived.Deep.AppendLies
import Derived.Deep.RegionLaw
namespace Go.Proofs.YtnoigmdmgdcliaaGreatDoor
set_option maxRecDepth 100000
set_option maxHeartbeats 8000000
section
open Go.RowKit
theorem step_append_at{P:Program}(w:World){ops:Array Oper}{o:Oper}{a:Act}{K:Act->World->Prop}{Q:Exit->Act->World->Prop}{E:Prop}(hgd:o.guard=none)(s x:Operand)(t:TypeId) 
  (ho:o.op= .call { callee:= .builtin .append,args:=#[s,x],argTypes:=#[t,t] })
  (base:Nat) (e:TypeId) (i:TypeInfo) (z:Value) (size bytes:Nat) (ht:P.underlying t=some (.slice e)) (hi:P.info? e=some i) (hz:i.zero=some z)
  (hsize:i.size=size) (hby:i.bytes=bytes) (hzs:z.cells.size=size) (hsz:0<size)
  (v:Value) (n:Nat) (xs:List Value) (hs:a.eval s=v) (hown:w.ownsRow base e size v n xs)
  (ad:Addr) (m c:Nat) (news:List Value) (hx:a.eval x= .slice (some ad) m c) (hl:news.length=m*size) (hnews: ∀j u,news[j]? =some u->w.cell? (ad.add j)=some u) (h1: ∀u∈news,u.oneCell'=true)
  (h63:n+m<=maxLen) (hbytes:(n+m)*bytes<=140737488355328) (hbase:base<=w.heap.size)
  (h: ∀g cap w',w'.ownsRow base e size (.slice g (n+m) cap) (n+m) (xs++news)->w.grownBy w' v.ownBlock->((Value.slice g (n+m) cap).ownBlock=v.ownBlock∨(Value.slice g (n+m) cap).ownBlock=some w.heap.size)->K (a.put o.dst (.slice g (n+m) cap)) w'):
  if Region.wanted o (yielded ops a.tmps)=true then Oper.wp P o a w K Q else E:=by
 have hw:Region.wanted o (yielded ops a.tmps)=true:=by simp[Region.wanted,hgd]
 rw[if_pos hw]
 obtain⟨v',w',hr,h2,h3,_,h5⟩:=run_append_own_at (P:=P) w base t o.type e i z size bytes ht hi hz hsize hby hzs hsz v n xs hown ad m c news hl hnews h1 h63 hbytes hbase
 obtain⟨g,cap,rfl,_⟩:=ownsRow_shape h2
 unfold Oper.wp execOp
 simp only[ho,resolve,invoke,builtin,Sem.run_bind,Sem.run_pure,Result.andThen_ok,List.map_toArray,List.map_cons,List.map_nil,hs,hx,hr]
 exact h g cap w' h2 h3 h5
def Rm.setWaits(s:Rm)(t:Nat)(l:List Wt):Rm:={ s with waits:=fun u=>if u=t then l else s.waits u }
end
section
open Go.RowKit Go.Extern.Stop Go.Stop Go.Extern
def Rm.drained(s:Rm)(t:Nat)(x:Wt)(l:List Wt):Rm:=
 if s.ar.has x.c x.g=true then(s.setWaits t l).setWord x.c.toNat x.w.toNat x.v else s.setWaits t l
theorem wtCells_cons(x:Wt)(l:List Wt):wtCells (x::l)=x.cells++wtCells l:=rfl
theorem wtCells_one {l:List Wt}: ∀u∈wtCells l,u.oneCell'=true:=by
 induction l with
 |nil=>intro u hu;cases hu
 | cons x l ih=>
  intro u hu
  rw[wtCells_cons,List.mem_append] at hu
  rcases hu with hu |hu
  ·simp only[Wt.cells,List.mem_cons,List.not_mem_nil,or_false] at hu
   rcases hu with rfl |rfl |rfl |rfl <;> rfl
  ·exact ih u hu
end
section
open Go.RowKit Go.Extern.Stop Go.Stop Go.Extern
def Rm.drainAll(s:Rm)(t:Nat):List Wt->Rm
 | []=>s
 |x::l=>(s.drained t x l).drainAll t l
def Rm.gone(s:Rm)(t:Nat):List Wt->Nat
 | []=>0
 |x::l=>(if s.ar.has x.c x.g=true then 0 else 1)+(s.drained t x l).gone t l
theorem Rm.drained_waits(s:Rm)(t:Nat)(x:Wt)(l:List Wt):(s.drained t x l).waits t=l:=by
 unfold Rm.drained
 split
 ·simp[Rm.setWord,Rm.setWaits]
 ·simp[Rm.setWaits]
theorem Rm.drained_threads(s:Rm)(t:Nat)(x:Wt)(l:List Wt):(s.drained t x l).threads=s.threads:=by
 unfold Rm.drained
 split <;> rfl
theorem Rm.gone_le(l:List Wt)(t:Nat): ∀s:Rm,s.gone t l<=l.length:=by
 induction l with
 |nil=>intro s;exact Nat.zero_le _
 | cons x l ih=>
  intro s
  have:=ih (s.drained t x l)
  rw[Rm.gone,List.length_cons]
  split <;> omega
end
section
open Go.RowKit Go.Extern.Stop Go.Stop Go.Extern
theorem Rm.drained_ar(s:Rm)(t:Nat)(x:Wt)(l:List Wt):(s.drained t x l).ar.size=s.ar.size/\(s.drained t x l).ar.there=s.ar.there/\(s.drained t x l).ar.given=s.ar.given:=by
 unfold Rm.drained
 split <;> exact⟨rfl,rfl,rfl⟩
theorem Rm.drainAll_ar(l:List Wt)(t:Nat): ∀s:Rm,(s.drainAll t l).ar.size=s.ar.size/\(s.drainAll t l).ar.there=s.ar.there/\(s.drainAll t l).ar.given=s.ar.given/\(s.drainAll t l).threads=s.threads:=by
 induction l with
 |nil=>intro s;exact⟨rfl,rfl,rfl,rfl⟩
 | cons x l ih=>
  intro s
  obtain⟨h1,h2,h3,h4⟩:=ih (s.drained t x l)
  obtain⟨k1,k2,k3⟩:=s.drained_ar t x l
  exact⟨h1.trans k1,h2.trans k2,h3.trans k3,h4.trans (s.drained_threads t x l)⟩
theorem Rm.drainAll_has(l:List Wt)(t:Nat)(s:Rm)(c g:Int):(s.drainAll t l).ar.has c g=s.ar.has c g:=by
 obtain⟨h1,h2,h3, -⟩:=s.drainAll_ar l t
 simp only[Ar.has,h1,h2,h3]
theorem Rm.drainAll_waits(l:List Wt)(t:Nat): ∀s:Rm,s.waits t=l->(s.drainAll t l).waits t=[]:=by
 induction l with
 |nil=>intro s h;exact h
 |cons x l ih=>intro s _;exact ih (s.drained t x l) (s.drained_waits t x l)
end
end Go.Proofs.YtnoigmdmgdcliaaGreatDoor
