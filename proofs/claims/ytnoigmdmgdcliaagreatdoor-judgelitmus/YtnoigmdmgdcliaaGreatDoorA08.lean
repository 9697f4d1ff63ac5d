import Derived.Test.YtnoigmdmgdcliaaGreatDoorA07
import Derived.WalkKit
import Derived.Lib.Split
import Derived.Lib.IndexBytes
import Derived.Lib.Join
import Derived.Lib.ItoaNum
import Derived.Lib.Atoi
import Derived.WideShapes
import Derived.Test.YtnoigmdmgdcliaaGreatDoorA05
namespace Go.Proofs.YtnoigmdmgdcliaaGreatDoor
set_option maxRecDepth 100000
set_option maxHeartbeats 8000000
section
open Go.RowKit Go.Extern.Stop Go.Stop Go.Extern Go.Sort
def Rm.Ok(s:Rm):Prop:= ∀t,t<s.threads-> ∀x∈s.waits t,x.Ok
end
section
open Go.RowKit
variable {l r:List UInt8} {to:ByteArray}
def shape(op:List UInt8):Option (List UInt8):=
 if(op==[99,111,110,115,116])=true then some [114,118]
 else if(op==[109,111,118,101])=true then some [114,114]
 else if(op==[97,100,100])=true then some [114,114,114]
 else if(op==[115,117,98])=true then some [114,114,114]
 else if(op==[97,110,100])=true then some [114,114,114]
 else if(op==[120,111,114])=true then some [114,114,114]
 else if(op==[108,111,97,100])=true then some [114,114,119]
 else if(op==[115,116,111,114,101])=true then some [114,114,119]
 else if(op==[115,119,97,112])=true then some [114,114,119]
 else if(op==[99,97,115])=true then some [114,115,119]
 else if(op==[97,108,108,111,99])=true then some [114]
 else if(op==[102,114,101,101])=true then some [114]
 else if(op==[109,97,114,107])=true then some [114]
 else if(op==[110,101,101,100])=true then some [114]
 else if(op==[102,101,110,99,101])=true then some []
 else if(op==[102,111,114,99,101])=true then some []
 else if(op==[115,116,111,112])=true then some []
 else if(op==[122,101,114,111])=true then some [114,108]
 else if(op==[115,97,109,101])=true then some [114,114,108]
 else if(op==[103,111,116,111])=true then some [108]
 else if(op==[108,97,98,101,108])=true then some [108]
 else none
def nameOk(i c:Nat):Bool:=decide ((97<=c/\c<=122)∨(i≠0/\((48<=c/\c<=57)∨c=46)))
def isName(s:ByteArray):Prop:=1<=s.size/\s.size<=12/\ ∀j (h:j<s.size),nameOk j (s[j]'h).toNat=true
structure Ins where
 op:ByteArray
 a:Int
 b:Int
 c:Int
 to:ByteArray
def Ins.n(x:Ins):Nat->Int
 |0=>x.a
 |1=>x.b
 |_=>x.c
def byteAt(S:ByteArray)(i:Nat):Nat:=if h:i<S.size then(S[i]'h).toNat else 0
theorem byteAt_lt{S:ByteArray}{i:Nat}(h:i<S.size):byteAt S i=(S[i]'h).toNat:=dif_pos h
def cnt(S:ByteArray):Nat->Nat
 |0=>0
 |j+1=>cnt S j+if byteAt S j=108 then 0 else 1
def lab(S:ByteArray):Nat->Bool
 |0=>false
 |j+1=>lab S j ||byteAt S j==108
theorem cnt_le(S:ByteArray)(j:Nat):cnt S j<=j:=by
 induction j with
 |zero=>exact Nat.le_refl _
 |succ j ih=>unfold cnt;split <;> omega
def mostOf(c:Nat):Int:=if c=114 then 8 else if c=115 then 7 else if c=119 then 4 else 4294967296
open Classical in
noncomputable def insBad(x:Ins)(S:ByteArray):Nat:=
 if lab S S.size=false/\ ¬x.to.toList=[] then 3
 else if ∃k,cnt S S.size<=k/\k<3/\x.n k≠0 then 3
 else if ∃k,k<cnt S S.size/\ ¬(0<=x.n k/\x.n k<mostOf (byteAt S k)) then 2
 else if lab S S.size=true/\ ¬isName x.to then 4 else 0
noncomputable def insErr(x:Ins):Nat:=match shape x.op.toList with
 |none=>3
 |some l=>insBad x ⟨l.toArray⟩
theorem ite_len{c:Prop}[Decidable c]{e:Option (List UInt8)}(h:(if c then some l else e)=some r)(hl:l.length<=3)(he:e=some r->r.length<=3):r.length<=3:=by
 by_cases hc:c
 ·rw[if_pos hc] at h;cases h;exact hl
 ·rw[if_neg hc] at h;exact he h
theorem shape_le(h:shape l=some r):r.length<=3:=by
 unfold shape at h
 refine ite_len h (by decide) (fun h=>?_)
 refine ite_len h (by decide) (fun h=>?_)
 refine ite_len h (by decide) (fun h=>?_)
 refine ite_len h (by decide) (fun h=>?_)
 refine ite_len h (by decide) (fun h=>?_)
 refine ite_len h (by decide) (fun h=>?_)
 refine ite_len h (by decide) (fun h=>?_)
 refine ite_len h (by decide) (fun h=>?_)
 refine ite_len h (by decide) (fun h=>?_)
 refine ite_len h (by decide) (fun h=>?_)
 refine ite_len h (by decide) (fun h=>?_)
 refine ite_len h (by decide) (fun h=>?_)
 refine ite_len h (by decide) (fun h=>?_)
 refine ite_len h (by decide) (fun h=>?_)
 refine ite_len h (by decide) (fun h=>?_)
 refine ite_len h (by decide) (fun h=>?_)
 refine ite_len h (by decide) (fun h=>?_)
 refine ite_len h (by decide) (fun h=>?_)
 refine ite_len h (by decide) (fun h=>?_)
 refine ite_len h (by decide) (fun h=>?_)
 refine ite_len h (by decide) (fun h=>?_)
 cases h
def setsLabel(x:Ins)(to:ByteArray):Bool:=(x.op.toList==[108,97,98,101,108])&&(x.to.toList==to.toList)
def labelAt(l:List Ins)(to:ByteArray):Int:=match l.findIdx? (fun x=>setsLabel x to) with
 |some j=>(j:Int)
 |none=> -1
theorem labelAt_some{l:List Ins}{j:Nat}{x:Ins}(hx:l[j]? =some x)(h1:setsLabel x to=true)(h2: ∀(k:Nat) (y:Ins),k<j->l[k]? =some y->setsLabel y to=false):labelAt l to=j:=by
 unfold labelAt
 have :l.findIdx? (fun x=>setsLabel x to)=some j:=by
  rw[List.findIdx?_eq_some_iff_getElem]
  obtain⟨hl,rfl⟩:=List.getElem?_eq_some_iff.1 hx
  exact⟨hl,h1,fun k hk=>by rw[h2 k _ hk (List.getElem?_eq_getElem (by omega))];decide⟩
 rw[this]
theorem labelAt_none{l:List Ins}(h: ∀(k:Nat) (y:Ins),l[k]? =some y->setsLabel y to=false):labelAt l to= -1:=by
 unfold labelAt
 have :l.findIdx? (fun x=>setsLabel x to)=none:=by
  rw[List.findIdx?_eq_none_iff]
  intro x hx
  obtain⟨k,hk,rfl⟩:=List.getElem_of_mem hx
  rw[h k _ (List.getElem?_eq_getElem hk)]
 rw[this]
open Classical in
noncomputable def insFault(l:List Ins)(i:Nat)(x:Ins):Nat:=
 if insErr x≠0 then insErr x
 else if(x.op.toList==[108,97,98,101,108])=true/\labelAt l x.to≠i then 4
 else if(x.to.toList==[])=false/\labelAt l x.to<0 then 5 else 0
noncomputable def faultFrom(l:List Ins):Nat->List Ins->Nat×Int
 |_,[]=>(0, -1)
 |j,x::r=>if insFault l j x=0 then faultFrom l (j+1) r else(insFault l j x,j)
noncomputable def codeFault(l:List Ins):Nat×Int:=if 2000<l.length then(2, -1) else faultFrom l 0 l
theorem insErr_le (x:Ins):insErr x<=4:=by
 unfold insErr
 split
 ·omega
 ·unfold insBad
  split
  ·omega
  ·split
   ·omega
   ·split
    ·omega
    ·split <;> omega
theorem faultFrom_at(l:List Ins): ∀(r:List Ins) (j:Nat),(∀k y,r[k]? =some y->insFault l (j+k) y=0)->faultFrom l j r=(0, -1)
 | [],_,_=>rfl
 | x::r,j,h=>by
  unfold faultFrom
  rw[if_pos (show insFault l j x=0 from h 0 x rfl)]
  exact faultFrom_at l r (j+1) (fun k y hy=>by have:=h (k+1) y hy;rwa [show j+(k+1)=j+1+k by omega] at this)
theorem faultFrom_hit(l:List Ins): ∀(r:List Ins) (j n:Nat) (x:Ins),r[n]? =some x->insFault l (j+n) x≠0->(∀k y,k<n->r[k]? =some y->insFault l (j+k) y=0)->faultFrom l j r=(insFault l (j+n) x,((j+n:Nat):Int))
 | [],_,_,_,hx,_,_=>by cases hx
 | z::r,j,0,x,hx,h0,_=>by
  cases hx
  unfold faultFrom
  rw[if_neg (show ¬insFault l j z=0 from h0)]
  rfl
 | z::r,j,n+1,x,hx,h0,h=>by
  unfold faultFrom
  rw[if_pos (show insFault l j z=0 from h 0 z (Nat.succ_pos _) rfl)]
  have:=faultFrom_hit l r (j+1) n x hx (by rwa [show j+1+n=j+(n+1) by omega]) (fun k y hk hy=>by have:=h (k+1) y (by omega) hy;rwa [show j+(k+1)=j+1+k by omega] at this)
  rw[this,show j+1+n=j+(n+1) by omega]
end
section
open Go.RowKit Go.Lib
abbrev bl(s:ByteArray):List UInt8:=s.data.toList
theorem toList_bl(s:ByteArray):s.toList=bl s:=ByteArray.toList_eq s
theorem mk_bl(s:ByteArray):(⟨(bl s).toArray⟩:ByteArray)=s:=by cases s;simp
theorem bl_inj{a b:ByteArray}(h:bl a=bl b):a=b:=by rw[<-mk_bl a, <-mk_bl b,h]
theorem size_bl(s:ByteArray):s.size=(bl s).length:=Lib.size_eq s
theorem bl_append(a b:ByteArray):bl (a++b)=bl a++bl b:=by
 show(a++b).data.toList=_
 rw[ByteArray.data_append,Array.toList_append]
theorem byteAt_bl(s:ByteArray)(i:Nat)(h:i<s.size): ∃h',byteAt s i=((bl s)[i]'h').toNat:=by
 refine⟨by rw[<-size_bl];exact h,?_⟩
 rw[byteAt_lt h]
 simp[bl,ByteArray.getElem_eq_getElem_data]
def table:List (List UInt8×List UInt8):=
 [([99,111,110,115,116],[114,118]),([109,111,118,101],[114,114]),([97,100,100],[114,114,114]),([115,117,98],[114,114,114]),([97,110,100],[114,114,114]),([120,111,114],[114,114,114]),
  ([108,111,97,100],[114,114,119]),([115,116,111,114,101],[114,114,119]),([115,119,97,112],[114,114,119]),([99,97,115],[114,115,119]),([97,108,108,111,99],[114]),([102,114,101,101],[114]),([109,97,114,107],[114]),([110,101,101,100],[114]),
  ([102,101,110,99,101],[]),([102,111,114,99,101],[]),([115,116,111,112],[]),([122,101,114,111],[114,108]),([115,97,109,101],[114,114,108]),([103,111,116,111],[108]),([108,97,98,101,108],[108])]
theorem ite_some{op k l S:List UInt8}{e:Option (List UInt8)}(h:(if(op==k)=true then some l else e)=some S)(hl:(k,l)∈table)(he:e=some S->(op,S)∈table):(op,S)∈table:=by
 by_cases hc:(op==k)=true
 ·rw[if_pos hc] at h;cases h;rw[beq_iff_eq.1 hc];exact hl
 ·rw[if_neg hc] at h;exact he h
theorem shape_mem{op S:List UInt8}(h:shape op=some S):(op,S)∈table:=by
 unfold shape at h
 iterate 21 (refine ite_some h (by decide) ?_;clear h;intro h)
 cases h
abbrev nums(S:List UInt8):Nat:=cnt ⟨S.toArray⟩ S.length
abbrev hasTo(S:List UInt8):Bool:=lab ⟨S.toArray⟩ S.length
theorem table_facts: ∀p∈table,(nums p.2+(if hasTo p.2 then 1 else 0)=p.2.length/\nums p.2<=3)/\(32∉p.1/\10∉p.1)/\(∀k,k<3->k<p.2.length->(byteAt ⟨p.2.toArray⟩ k=108↔nums p.2<=k)):=by decide+kernel
end
section
open Go.RowKit
variable {there:Nat->Bool}
structure Mk where
 mem:Rm
 regs:Nat->Nat->Int
 pc:Nat->Nat
 marks:List (Nat×Int)
 faults:Nat
def Mk.setReg(m:Mk)(t r:Nat)(v:Int):Mk:={ m with regs:=fun u k=>if u=t/\k=r then v else m.regs u k }
def Mk.setPc(m:Mk)(t p:Nat):Mk:={ m with pc:=fun u=>if u=t then p else m.pc u }
def Mk.addFault(m:Mk)(n:Nat):Mk:={ m with faults:=m.faults+n }
def Mk.setMem(m:Mk)(s:Rm):Mk:={ m with mem:=s }
def Mk.fence(m:Mk)(t:Nat):Mk:={ m with mem:=m.mem.drainAll t (m.mem.waits t),faults:=m.faults+m.mem.gone t (m.mem.waits t) }
def Mk.fenceFrom(m:Mk)(t:Nat):Nat->Mk
 |0=>m
 |n+1=>(m.fence t).fenceFrom (t+1) n
def Mk.drain1(m:Mk)(t:Nat):Mk:=match m.mem.waits t with
 | []=>m
 |x::l=>{ m with mem:=m.mem.drained t x l,faults:=m.faults+if m.mem.ar.has x.c x.g=true then 0 else 1 }
def cellOf(n:Int):Int:=(n - 1) % 64
def genOf(n:Int):Int:=(n - 1) / 64
def Mk.names(m:Mk)(n:Int):Bool:= !(n==0)&&m.mem.ar.has (cellOf n) (genOf n)
def andW(a b:Int):Int:=((a.toNat&&& b.toNat:Nat):Int)
def xorW(a b:Int):Int:=((a.toNat ^^^ b.toNat:Nat):Int)
def opNo(op:List UInt8):Nat:=
 if(op==[99,111,110,115,116])=true then 0
 else if(op==[109,111,118,101])=true then 1
 else if(op==[97,100,100])=true then 2
 else if(op==[115,117,98])=true then 3
 else if(op==[97,110,100])=true then 4
 else if(op==[120,111,114])=true then 5
 else if(op==[108,111,97,100])=true then 6
 else if(op==[115,116,111,114,101])=true then 7
 else if(op==[115,119,97,112])=true then 8
 else if(op==[99,97,115])=true then 9
 else if(op==[97,108,108,111,99])=true then 10
 else if(op==[102,114,101,101])=true then 11
 else if(op==[109,97,114,107])=true then 12
 else if(op==[110,101,101,100])=true then 13
 else if(op==[102,101,110,99,101])=true then 14
 else if(op==[102,111,114,99,101])=true then 15
 else if(op==[115,116,111,112])=true then 16
 else if(op==[122,101,114,111])=true then 17
 else if(op==[115,97,109,101])=true then 18
 else if(op==[103,111,116,111])=true then 19
 else 20
def freeFrom(there:Nat->Bool)(j:Nat):Nat->Option Nat
 |0=>none
 |n+1=>if there j=true then freeFrom there (j+1) n else some j
def Ar.free?(s:Ar):Option Nat:=freeFrom s.there 0 s.size
theorem freeFrom_none: ∀{n j:Nat},freeFrom there j n=none-> ∀i,j<=i->i<j+n->there i=true
 |0,_,_,i,h1,h2=>absurd h2 (by omega)
 | n+1,j,h,i,h1,h2=>by
  unfold freeFrom at h
  by_cases hj:there j=true
  ·rw[if_pos hj] at h
   by_cases e:i=j
   ·rw[e];exact hj
   ·exact freeFrom_none h i (by omega) (by omega)
  ·rw[if_neg hj] at h;cases h
theorem freeFrom_some: ∀{n j c:Nat},freeFrom there j n=some c->j<=c/\c<j+n/\there c=false/\ ∀i,j<=i->i<c->there i=true
 |0,_,_,h=>by cases h
 | n+1,j,c,h=>by
  unfold freeFrom at h
  by_cases hj:there j=true
  ·rw[if_pos hj] at h
   obtain⟨h1,h2,h3,h4⟩:=freeFrom_some h
   refine⟨by omega,by omega,h3,fun i h5 h6=>?_⟩
   by_cases e:i=j
   ·rw[e];exact hj
   ·exact h4 i (by omega) h6
  ·rw[if_neg hj] at h
   cases h
   exact⟨Nat.le_refl _,by omega,by simpa using hj,fun i h5 h6=>absurd h5 (by omega)⟩
theorem Ar.free_none{s:Ar}(h:s.free?=none): ∀j,j<s.size->s.there j=true:=fun j hj=>freeFrom_none h j (Nat.zero_le _) (by omega)
theorem Ar.free_some{s:Ar}{c:Nat}(h:s.free?=some c):c<s.size/\(∀j,j<c->s.there j=true)/\s.there c=false:=by
 obtain⟨-,h2,h3,h4⟩:=freeFrom_some h
 exact⟨by omega,fun j hj=>h4 j (Nat.zero_le _) hj,h3⟩
def Mk.loaded(m:Mk)(t:Nat)(n:Int)(w:Int):Int:=(m.mem.waits t).foldl (Wt.pick (cellOf n) (genOf n) w) (m.mem.ar.words (cellOf n).toNat w.toNat)
def Mk.put(m:Mk)(t:Nat)(n w v:Int):Mk:=m.setMem (m.mem.setWaits t (m.mem.waits t++[⟨cellOf n,genOf n,w,v⟩]))
def Mk.room(m:Mk)(t:Nat):Mk:=if 8<=(m.mem.waits t).length then m.drain1 t else m
def Mk.load(m:Mk)(t a:Nat)(n w:Int):Mk:=if m.names n=true then m.setReg t a (m.loaded t n w) else(m.addFault 1).setReg t a 0
def Mk.store(m:Mk)(t:Nat)(n w v:Int):Mk:=if m.names n=true then(m.room t).put t n w v else m.addFault 1
def casV(was old v:Int):Int:=if was=old then v else was
def Mk.word(m:Mk)(n w:Int):Int:=m.mem.ar.words (cellOf n).toNat w.toNat
def Mk.setWord(m:Mk)(n w v:Int):Mk:=m.setMem (m.mem.setWord (cellOf n).toNat w.toNat v)
def Mk.swap(m:Mk)(t a:Nat)(n w v:Int):Mk:=if m.names n=true then((m.fence t).setWord n w v).setReg t a ((m.fence t).word n w) else(m.addFault 1).setReg t a 0
def Mk.cas(m:Mk)(t b:Nat)(n w old v:Int):Mk:=if m.names n=true then((m.fence t).setWord n w (casV ((m.fence t).word n w) old v)).setReg t b ((m.fence t).word n w) else(m.addFault 1).setReg t b 0
def Mk.alloc(m:Mk)(t a:Nat):Mk:=match m.mem.ar.free? with
 |none=>m.setReg t a 0
 |some c=>(m.setMem (m.mem.give c)).setReg t a ((m.mem.ar.given c:Int)*64+c+1)
def Mk.free(m:Mk)(t:Nat)(n:Int):Mk:=if m.names n=true then(m.fence t).setMem ((m.fence t).mem.setThere (cellOf n).toNat false) else m.addFault 1
def Mk.mark(m:Mk)(t:Nat)(v:Int):Mk:=if m.marks.length<500 then { m with marks:=m.marks++[(t,v)] } else m
def Mk.need(m:Mk)(v:Int):Mk:=if v=0 then m.addFault 1 else m
def Mk.jump(m:Mk)(t:Nat)(L:List Ins)(to:ByteArray):Mk:=m.setPc t (labelAt L to).toNat
def Mk.exec(m:Mk)(L:List Ins)(t:Nat)(x:Ins):Mk:=
 let g:=fun k:Int=>m.regs t k.toNat
 match opNo x.op.toList with
 |0=>m.setReg t x.a.toNat x.b
 |1=>m.setReg t x.a.toNat (g x.b)
 |2=>m.setReg t x.a.toNat ((g x.b+g x.c) % 4294967296)
 |3=>m.setReg t x.a.toNat ((g x.b - g x.c) % 4294967296)
 |4=>m.setReg t x.a.toNat (andW (g x.b) (g x.c))
 |5=>m.setReg t x.a.toNat (xorW (g x.b) (g x.c))
 |6=>m.load t x.a.toNat (g x.b) x.c
 |7=>m.store t (g x.a) x.c (g x.b)
 |8=>m.swap t x.a.toNat (g x.b) x.c (g x.a)
 |9=>m.cas t x.b.toNat (g x.a) x.c (g x.b) (m.regs t (x.b.toNat+1))
 |10=>m.alloc t x.a.toNat
 |11=>m.free t (g x.a)
 |12=>m.mark t (g x.a)
 |13=>m.need (g x.a)
 |14=>m.fence t
 |15=>m.fenceFrom 0 m.mem.threads
 |17=>if g x.a=0 then m.jump t L x.to else m
 |18=>if g x.a=g x.b then m.jump t L x.to else m
 |19=>m.jump t L x.to
 |_=>m
def doneAt(L:List Ins)(p:Nat):Bool:=match L[p]? with
 |none=>true
 |some x=>x.op.toList==[115,116,111,112]
def Mk.step(m:Mk)(L:List Ins)(t:Nat):Mk:=match L[m.pc t]? with
 |none=>m
 |some x=>(m.setPc t (m.pc t+1)).exec L t x
end
end Go.Proofs.YtnoigmdmgdcliaaGreatDoor
