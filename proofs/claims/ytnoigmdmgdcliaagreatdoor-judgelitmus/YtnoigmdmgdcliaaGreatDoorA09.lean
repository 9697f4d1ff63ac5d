import Derived.Test.YtnoigmdmgdcliaaGreatDoorA08
namespace Go.Proofs.YtnoigmdmgdcliaaGreatDoor
set_option maxRecDepth 100000
set_option maxHeartbeats 8000000
section
open Go.RowKit
variable {N K F:Nat} {m:Mk} {t:Nat} {s:Rm} {v:Int} {a b:Int}
def Wd(v:Int):Prop:=0<=v/\v<4294967296
structure RmOk(K:Nat)(s:Rm):Prop where
 ok:s.Ok
 few: ∀t,t<s.threads->(s.waits t).length<=8
 words: ∀c k,Wd (s.ar.words c k)
 given: ∀c,s.ar.given c<=K
 small:s.ar.size<=64
 thr:s.threads<=6
theorem RmOk.mono{K K':Nat}(h:RmOk K s)(hk:K<=K'):RmOk K' s:=⟨h.ok,h.few,h.words,fun c=>Nat.le_trans (h.given c) hk,h.small,h.thr⟩
theorem RmOk.setWaits{K:Nat}(h:RmOk K s)(t:Nat)(l:List Wt)(h1: ∀x∈l,x.Ok)(h2:l.length<=8):RmOk K (s.setWaits t l) where
 ok u hu x hx:=by
  simp only[Rm.setWaits] at hx
  by_cases e:u=t
  ·rw[if_pos e] at hx;exact h1 x hx
  ·rw[if_neg e] at hx;exact h.ok u hu x hx
 few u hu:=by
  simp only[Rm.setWaits]
  by_cases e:u=t
  ·rw[if_pos e];exact h2
  ·rw[if_neg e];exact h.few u hu
 words:=h.words
 given:=h.given
 small:=h.small
 thr:=h.thr
theorem RmOk.setWord{K:Nat}(h:RmOk K s)(c k:Nat)(v:Int)(hv:Wd v):RmOk K (s.setWord c k v) where
 ok:=h.ok
 few:=h.few
 words j i:=by
  simp only[Rm.setWord,Ar.setWord]
  by_cases e:j=c/\i=k
  ·rw[if_pos e];exact hv
  ·rw[if_neg e];exact h.words j i
 given:=h.given
 small:=h.small
 thr:=h.thr
theorem RmOk.setThere{K:Nat}(h:RmOk K s)(c:Nat)(b:Bool):RmOk K (s.setThere c b):=⟨h.ok,h.few,h.words,h.given,h.small,h.thr⟩
theorem RmOk.give{K:Nat}(h:RmOk K s)(c:Nat):RmOk (K+1) (s.give c) where
 ok:=h.ok
 few:=h.few
 words j i:=by
  rw[<-Rm.give_eq]
  simp only[Rm.setThere,Rm.setGiven,Rm.zero,Ar.setThere,Ar.setGiven,Ar.zero]
  by_cases e:j=c/\i<4
  ·rw[if_pos e];exact⟨by decide,by decide⟩
  ·rw[if_neg e];exact h.words j i
 given j:=by
  rw[<-Rm.give_eq]
  simp only[Rm.setThere,Rm.setGiven,Rm.zero,Ar.setThere,Ar.setGiven,Ar.zero]
  by_cases e:j=c
  ·rw[if_pos e];have:=h.given c;omega
  ·rw[if_neg e];have:=h.given j;omega
 small:=h.small
 thr:=h.thr
theorem RmOk.drained{K:Nat}(h:RmOk K s)(ht:t<s.threads){x:Wt}{l:List Wt}(e:s.waits t=x::l):RmOk K (s.drained t x l):=by
 have h1: ∀y∈l,y.Ok:=fun y hy=>h.ok t ht y (by rw[e];exact List.mem_cons_of_mem _ hy)
 have h2:l.length<=8:=by have:=h.few t ht;rw[e,List.length_cons] at this;omega
 have hx:=h.ok t ht x (by rw[e];exact List.mem_cons_self)
 unfold Rm.drained
 split
 ·exact(h.setWaits t l h1 h2).setWord _ _ _ hx.2
 ·exact h.setWaits t l h1 h2
theorem RmOk.drainAll{K:Nat}: ∀{l:List Wt} {s:Rm},RmOk K s->t<s.threads->s.waits t=l->RmOk K (s.drainAll t l)
 | [],_,h,_,_=>h
 |x::l,s,h,ht,e=>RmOk.drainAll (l:=l) (h.drained ht e) (by rw[Rm.drained_threads];exact ht) (Rm.drained_waits s t x l)
structure MkOk(N K:Nat)(m:Mk):Prop where
 mem:RmOk K m.mem
 thr:m.mem.threads=N
 regs: ∀t r,Wd (m.regs t r)
 faults:m.faults<=64*K
 marks:m.marks.length<=500
 pcs: ∀t,m.pc t<=2000
theorem Wd.mod(n:Int):Wd (n % 4294967296):=⟨Int.emod_nonneg _ (by decide),Int.emod_lt_of_pos _ (by decide)⟩
theorem Wd.zero:Wd 0:=⟨by decide,by decide⟩
theorem Wd.and(_ha:Wd a)(hb:Wd b):Wd (andW a b):=by
 have:a.toNat&&& b.toNat<2 ^ 32:=Nat.and_lt_two_pow _ (by have:=hb.2;have:=hb.1;omega)
 exact⟨by unfold andW;omega,by unfold andW;omega⟩
theorem Wd.xor(ha:Wd a)(hb:Wd b):Wd (xorW a b):=by
 have:a.toNat ^^^ b.toNat<2 ^ 32:=Nat.xor_lt_two_pow (by have:=ha.2;have:=ha.1;omega) (by have:=hb.2;have:=hb.1;omega)
 exact⟨by unfold xorW;omega,by unfold xorW;omega⟩
theorem MkOk.mono{N K K':Nat}(h:MkOk N K m)(hk:K<=K'):MkOk N K' m:=⟨h.mem.mono hk,h.thr,h.regs,by have:=h.faults;omega,h.marks,h.pcs⟩
theorem MkOk.setPc{N K:Nat}(h:MkOk N K m)(t:Nat){p:Nat}(hp:p<=2000):MkOk N K (m.setPc t p):=
 ⟨h.mem,h.thr,h.regs,h.faults,h.marks,fun u=>by
  simp only[Mk.setPc]
  by_cases e:u=t
  ·rw[if_pos e];exact hp
  ·rw[if_neg e];exact h.pcs u⟩
structure MkIn(N K F:Nat)(m:Mk):Prop where
 mem:RmOk K m.mem
 thr:m.mem.threads=N
 regs: ∀t r,Wd (m.regs t r)
 faults:m.faults<=F
 marks:m.marks.length<=500
 pcs: ∀t,m.pc t<=2000
theorem MkOk.in{N K:Nat}(h:MkOk N K m):MkIn N K (64*K) m:=⟨h.mem,h.thr,h.regs,h.faults,h.marks,h.pcs⟩
theorem MkIn.out(h:MkIn N K F m){K':Nat}(hk:K<=K')(hf:F<=64*K'):MkOk N K' m:=⟨h.mem.mono hk,h.thr,h.regs,Nat.le_trans h.faults hf,h.marks,h.pcs⟩
theorem MkIn.setReg(h:MkIn N K F m)(t r:Nat)(hv:Wd v):MkIn N K F (m.setReg t r v):=
 ⟨h.mem,h.thr,fun u k=>by
  simp only[Mk.setReg]
  by_cases e:u=t/\k=r
  ·rw[if_pos e];exact hv
  ·rw[if_neg e];exact h.regs u k,h.faults,h.marks,h.pcs⟩
theorem MkIn.setMem(h:MkIn N K F m)(hs:RmOk K s)(ht:s.threads=N):MkIn N K F (m.setMem s):=⟨hs,ht,h.regs,h.faults,h.marks,h.pcs⟩
theorem MkIn.setPc(h:MkIn N K F m)(t:Nat){p:Nat}(hp:p<=2000):MkIn N K F (m.setPc t p):=
 ⟨h.mem,h.thr,h.regs,h.faults,h.marks,fun u=>by
  simp only[Mk.setPc]
  by_cases e:u=t
  ·rw[if_pos e];exact hp
  ·rw[if_neg e];exact h.pcs u⟩
theorem MkIn.addFault(h:MkIn N K F m)(n:Nat):MkIn N K (F+n) (m.addFault n):=⟨h.mem,h.thr,h.regs,Nat.add_le_add_right h.faults n,h.marks,h.pcs⟩
theorem MkIn.mono(h:MkIn N K F m){K' F':Nat}(hk:K<=K')(hf:F<=F'):MkIn N K' F' m:=⟨h.mem.mono hk,h.thr,h.regs,Nat.le_trans h.faults hf,h.marks,h.pcs⟩
theorem MkIn.fence(h:MkIn N K F m)(ht:t<N):MkIn N K (F+8) (m.fence t):=by
 have h8:=h.mem.few t (by rw[h.thr];exact ht)
 have hg:=Rm.gone_le (m.mem.waits t) t m.mem
 exact⟨h.mem.drainAll (by rw[h.thr];exact ht) rfl,by have:=(Rm.drainAll_ar (m.mem.waits t) t m.mem).2.2.2;exact this.trans h.thr,h.regs,by have:=h.faults;show m.faults+_<=_;omega,h.marks,h.pcs⟩
theorem MkIn.fenceFrom{N K:Nat}: ∀(n:Nat) {F t:Nat} {m:Mk},MkIn N K F m->t+n<=N->MkIn N K (F+8*n) (m.fenceFrom t n)
 |0,F,_,_,h,_=>h
 | n+1,F,t,m,h,hn=>by
  have:=MkIn.fenceFrom n (t:=t+1) (h.fence (t:=t) (by omega)) (by omega)
  rw[show F+8*(n+1)=F+8+8*n by omega]
  exact this
theorem ite01(c:Prop)[Decidable c]:(if c then 0 else 1)<=1:=by split <;> omega
theorem MkIn.drain1(h:MkIn N K F m)(ht:t<N):MkIn N K (F+1) (m.drain1 t):=by
 unfold Mk.drain1
 split
 ·exact h.mono nL (Nat.le_succ _)
 ·rename_i x l e
  refine⟨h.mem.drained (by rw[h.thr];exact ht) e,by rw[Rm.drained_threads];exact h.thr,h.regs,?_,h.marks,h.pcs⟩
  exact Nat.add_le_add h.faults (ite01 _)
structure InsOk(L:List Ins)(x:Ins):Prop where
 err:insErr x=0
 to:(x.to.toList==[])=false->0<=labelAt L x.to
theorem labelAt_le(L:List Ins)(to:ByteArray):labelAt L to<=L.length:=by
 unfold labelAt
 split
 ·rename_i j h
  obtain⟨hl, -⟩:=List.findIdx?_eq_some_iff_getElem.1 h
  omega
 ·omega
theorem pick_wd(l:List Wt)(c g k:Int): ∀{v:Int},Wd v->(∀x∈l,x.Ok)->Wd (l.foldl (Wt.pick c g k) v):=by
 induction l with
 |nil=>exact fun h _=>h
 | cons x l ih=>
  intro v h ho
  refine ih ?_ (fun y hy=>ho y (List.mem_cons_of_mem _ hy))
  unfold Wt.pick
  split
  ·exact(ho x List.mem_cons_self).2
  ·exact h
theorem casV_wd{a b c:Int}(ha:Wd a)(hc:Wd c):Wd (casV a b c):=by unfold casV;split;exact hc;exact ha
theorem MkIn.load(h:MkIn N K F m)(ht:t<N)(a:Nat)(n w:Int):MkIn N K (F+1) (m.load t a n w):=by
 unfold Mk.load
 split
 ·exact(h.mono nL (Nat.le_succ _)).setReg _ _ (pick_wd _ _ _ _ (h.mem.words _ _) (h.mem.ok t (by rw[h.thr];exact ht)))
 ·exact(h.addFault 1).setReg _ _ Wd.zero
theorem room_len (h:MkIn N K F m) (ht:t<N):((m.room t).mem.waits t).length<8:=by
 have h8:=h.mem.few t (by rw[h.thr];exact ht)
 unfold Mk.room
 split
 ·unfold Mk.drain1
  split
  ·rename_i e;rw[e];decide
  ·rename_i x l e
   rw[e,List.length_cons] at h8
   show((m.mem.drained t x l).waits t).length<8
   rw[Rm.drained_waits];omega
 ·omega
theorem MkIn.room(h:MkIn N K F m)(ht:t<N):MkIn N K (F+1) (m.room t):=by
 unfold Mk.room
 split
 ·exact h.drain1 ht
 ·exact h.mono nL (Nat.le_succ _)
theorem MkIn.store(h:MkIn N K F m)(ht:t<N)(n:Int){w v:Int}(hw:0<=w/\w<4)(hv:Wd v):MkIn N K (F+1) (m.store t n w v):=by
 unfold Mk.store
 split
 ·have h1:=h.room ht
  have h2:=room_len h ht
  refine h1.setMem (h1.mem.setWaits t _ (fun x hx=>?_) (by rw[List.length_append];exact h2)) h1.thr
  rcases List.mem_append.1 hx with hx |hx
  ·exact h1.mem.ok t (by rw[h1.thr];exact ht) x hx
  ·rw[List.mem_singleton.1 hx];exact⟨hw,hv⟩
 ·exact h.addFault 1
theorem MkIn.word(h:MkIn N K F m)(n w:Int):Wd (m.word n w):=h.mem.words _ _
theorem MkIn.setWord(h:MkIn N K F m)(n w:Int)(hv:Wd v):MkIn N K F (m.setWord n w v):=h.setMem (h.mem.setWord _ _ _ hv) h.thr
theorem MkIn.swap(h:MkIn N K F m)(ht:t<N)(a:Nat)(n w:Int)(hv:Wd v):MkIn N K (F+8) (m.swap t a n w v):=by
 unfold Mk.swap
 split
 ·have h1:=h.fence ht
  exact(h1.setWord n w hv).setReg _ _ (h1.word n w)
 ·exact((h.addFault 1).mono nL (by omega)).setReg _ _ Wd.zero
theorem MkIn.cas(h:MkIn N K F m)(ht:t<N)(b:Nat)(n w old:Int)(hv:Wd v):MkIn N K (F+8) (m.cas t b n w old v):=by
 unfold Mk.cas
 split
 ·have h1:=h.fence ht
  exact(h1.setWord n w (casV_wd (h1.word n w) hv)).setReg _ _ (h1.word n w)
 ·exact((h.addFault 1).mono nL (by omega)).setReg _ _ Wd.zero
theorem MkIn.alloc(h:MkIn N K F m)(t a:Nat)(hK:K<=60000000):MkIn N (K+1) F (m.alloc t a):=by
 unfold Mk.alloc
 split
 ·exact(h.mono (Nat.le_succ _) nL).setReg _ _ Wd.zero
 ·rename_i c e
  obtain⟨hc, -, -⟩:=Ar.free_some e
  have hs:=h.mem.small
  have hg:=h.mem.given c
  exact((h.mono (Nat.le_succ K) (Nat.le_refl F)).setMem (h.mem.give c) h.thr).setReg _ _ ⟨by omega,by omega⟩
theorem MkIn.free(h:MkIn N K F m)(ht:t<N)(n:Int):MkIn N K (F+8) (m.free t n):=by
 unfold Mk.free
 split
 ·have h1:=h.fence ht
  exact h1.setMem (h1.mem.setThere _ _) h1.thr
 ·exact(h.addFault 1).mono nL (by omega)
theorem MkIn.mark(h:MkIn N K F m)(t:Nat)(v:Int):MkIn N K F (m.mark t v):=by
 unfold Mk.mark
 split
 ·exact⟨h.mem,h.thr,h.regs,h.faults,by show(m.marks++_).length<=_;rw[List.length_append];simp;omega,h.pcs⟩
 ·exact h
theorem MkIn.need(h:MkIn N K F m)(v:Int):MkIn N K (F+1) (m.need v):=by
 unfold Mk.need
 split
 ·exact h.addFault 1
 ·exact h.mono nL (Nat.le_succ _)
theorem MkIn.jump(h:MkIn N K F m)(t:Nat){L:List Ins}(to:ByteArray)(hL:L.length<=2000):MkIn N K F (m.jump t L to):=
 h.setPc t (by have:=labelAt_le L to;omega)
end
section
open Go.RowKit
variable {x:Ins} {S:ByteArray} {L:List Ins}
theorem insErr_zero(h:insErr x=0): ∃S,shape x.op.toList=some S/\insBad x ⟨S.toArray⟩=0:=by
 unfold insErr at h
 cases hS:shape x.op.toList with
 |none=>rw[hS] at h;cases h
 |some S=>rw[hS] at h;exact⟨S,rfl,h⟩
theorem insBad_parts (h:insBad x S=0):(∀k,k<cnt S S.size->0<=x.n k/\x.n k<mostOf (byteAt S k))/\(lab S S.size=true->isName x.to):=by
 unfold insBad at h
 by_cases h1:lab S S.size=false/\ ¬x.to.toList=[]
 ·rw[if_pos h1] at h;cases h
 ·rw [if_neg h1] at h
  by_cases h2: ∃k,cnt S S.size<=k/\k<3/\x.n k≠0
  ·rw[if_pos h2] at h;cases h
  ·rw [if_neg h2] at h
   by_cases h3: ∃k,k<cnt S S.size/\ ¬(0<=x.n k/\x.n k<mostOf (byteAt S k))
   ·rw[if_pos h3] at h;cases h
   ·rw[if_neg h3] at h
    by_cases h4:lab S S.size=true/\ ¬isName x.to
    ·rw[if_pos h4] at h;cases h
    ·exact⟨fun k hk=>Decidable.byContradiction fun c=>h3 ⟨k,hk,c⟩,fun hl=>Classical.byContradiction fun c=>h4 ⟨hl,c⟩⟩
theorem insBad_range(h:insBad x S=0): ∀k,k<cnt S S.size->0<=x.n k/\x.n k<mostOf (byteAt S k):=(insBad_parts h).1
theorem insBad_lab(h:insBad x S=0):lab S S.size=true->isName x.to:=(insBad_parts h).2
theorem op_is{s:ByteArray}{l:List UInt8}(h:s.toList=l):s=⟨l.toArray⟩:=by
 rw[toList_bl] at h;rw[<-h,mk_bl]
theorem nat_of{v:Int}{m:Int}{n:Nat}(h:0<=v/\v<m)(hm:m=n): ∃i:Nat,i<n/\v=i:=⟨v.toNat,by omega,by omega⟩
theorem lab_of(h:InsOk L x)(hn:isName x.to): ∃i:Nat,labelAt L x.to=i:=by
 have :=h.to (by
  rw[beq_eq_false_iff_ne,toList_bl]
  intro e
  have:=hn.1
  rw[size_bl,e] at this
  cases this)
 exact⟨(labelAt L x.to).toNat,by omega⟩
theorem kinds(h:InsOk L x):
  (x.op=⟨#[99,111,110,115,116]⟩/\(∃i:Nat,i<8/\x.a=i)/\Wd x.b)∨
  (x.op=⟨#[109,111,118,101]⟩/\(∃i:Nat,i<8/\x.a=i)/\(∃i:Nat,i<8/\x.b=i))∨
  (x.op=⟨#[97,100,100]⟩/\(∃i:Nat,i<8/\x.a=i)/\(∃i:Nat,i<8/\x.b=i)/\(∃i:Nat,i<8/\x.c=i))∨
  (x.op=⟨#[115,117,98]⟩/\(∃i:Nat,i<8/\x.a=i)/\(∃i:Nat,i<8/\x.b=i)/\(∃i:Nat,i<8/\x.c=i))∨
  (x.op=⟨#[97,110,100]⟩/\(∃i:Nat,i<8/\x.a=i)/\(∃i:Nat,i<8/\x.b=i)/\(∃i:Nat,i<8/\x.c=i))∨
  (x.op=⟨#[120,111,114]⟩/\(∃i:Nat,i<8/\x.a=i)/\(∃i:Nat,i<8/\x.b=i)/\(∃i:Nat,i<8/\x.c=i))∨
  (x.op=⟨#[108,111,97,100]⟩/\(∃i:Nat,i<8/\x.a=i)/\(∃i:Nat,i<8/\x.b=i)/\(∃i:Nat,i<4/\x.c=i))∨
  (x.op=⟨#[115,116,111,114,101]⟩/\(∃i:Nat,i<8/\x.a=i)/\(∃i:Nat,i<8/\x.b=i)/\(∃i:Nat,i<4/\x.c=i))∨
  (x.op=⟨#[115,119,97,112]⟩/\(∃i:Nat,i<8/\x.a=i)/\(∃i:Nat,i<8/\x.b=i)/\(∃i:Nat,i<4/\x.c=i))∨
  (x.op=⟨#[99,97,115]⟩/\(∃i:Nat,i<8/\x.a=i)/\(∃i:Nat,i<7/\x.b=i)/\(∃i:Nat,i<4/\x.c=i))∨
  (x.op=⟨#[97,108,108,111,99]⟩/\(∃i:Nat,i<8/\x.a=i))∨
  (x.op=⟨#[102,114,101,101]⟩/\(∃i:Nat,i<8/\x.a=i))∨
  (x.op=⟨#[109,97,114,107]⟩/\(∃i:Nat,i<8/\x.a=i))∨
  (x.op=⟨#[110,101,101,100]⟩/\(∃i:Nat,i<8/\x.a=i))∨
  (x.op=⟨#[102,101,110,99,101]⟩)∨
  (x.op=⟨#[102,111,114,99,101]⟩)∨
  (x.op=⟨#[115,116,111,112]⟩)∨
  (x.op=⟨#[122,101,114,111]⟩/\(∃i:Nat,i<8/\x.a=i)/\(∃i:Nat,labelAt L x.to=i))∨
  (x.op=⟨#[115,97,109,101]⟩/\(∃i:Nat,i<8/\x.a=i)/\(∃i:Nat,i<8/\x.b=i)/\(∃i:Nat,labelAt L x.to=i))∨
  (x.op=⟨#[103,111,116,111]⟩/\(∃i:Nat,labelAt L x.to=i))∨
  (x.op=⟨#[108,97,98,101,108]⟩/\(∃i:Nat,labelAt L x.to=i)):=by
 obtain⟨S,hS,hB⟩:=insErr_zero h.err
 have hm:=shape_mem hS
 have hr:=insBad_range hB
 have hl:=insBad_lab hB
 simp only[table,List.mem_cons,Prod.mk.injEq,List.not_mem_nil,or_false] at hm
 rcases hm with⟨h1,rfl⟩ |⟨h1,rfl⟩ |⟨h1,rfl⟩ |⟨h1,rfl⟩ |⟨h1,rfl⟩ |⟨h1,rfl⟩ |⟨h1,rfl⟩ |⟨h1,rfl⟩ |⟨h1,rfl⟩ |⟨h1,rfl⟩ |⟨h1,rfl⟩ |⟨h1,rfl⟩ |⟨h1,rfl⟩ |⟨h1,rfl⟩ |⟨h1,rfl⟩ |⟨h1,rfl⟩ |⟨h1,rfl⟩ |⟨h1,rfl⟩ |⟨h1,rfl⟩ |⟨h1,rfl⟩ |⟨h1,rfl⟩
 ·exact Or.inl ⟨op_is h1,nat_of (hr 0 (by decide)) (by decide),hr 1 (by decide)⟩
 ·exact Or.inr (Or.inl ⟨op_is h1,nat_of (hr 0 (by decide)) (by decide),nat_of (hr 1 (by decide)) (by decide)⟩)
 ·exact Or.inr (Or.inr (Or.inl ⟨op_is h1,nat_of (hr 0 (by decide)) (by decide),nat_of (hr 1 (by decide)) (by decide),nat_of (hr 2 (by decide)) (by decide)⟩))
 ·exact Or.inr (Or.inr (Or.inr (Or.inl ⟨op_is h1,nat_of (hr 0 (by decide)) (by decide),nat_of (hr 1 (by decide)) (by decide),nat_of (hr 2 (by decide)) (by decide)⟩)))
 ·exact Or.inr (Or.inr (Or.inr (Or.inr (Or.inl ⟨op_is h1,nat_of (hr 0 (by decide)) (by decide),nat_of (hr 1 (by decide)) (by decide),nat_of (hr 2 (by decide)) (by decide)⟩))))
 ·exact Or.inr (Or.inr (Or.inr (Or.inr (Or.inr (Or.inl ⟨op_is h1,nat_of (hr 0 (by decide)) (by decide),nat_of (hr 1 (by decide)) (by decide),nat_of (hr 2 (by decide)) (by decide)⟩)))))
 ·exact Or.inr (Or.inr (Or.inr (Or.inr (Or.inr (Or.inr (Or.inl ⟨op_is h1,nat_of (hr 0 (by decide)) (by decide),nat_of (hr 1 (by decide)) (by decide),nat_of (hr 2 (by decide)) (by decide)⟩))))))
 ·exact Or.inr (Or.inr (Or.inr (Or.inr (Or.inr (Or.inr (Or.inr (Or.inl ⟨op_is h1,nat_of (hr 0 (by decide)) (by decide),nat_of (hr 1 (by decide)) (by decide),nat_of (hr 2 (by decide)) (by decide)⟩)))))))
 ·exact Or.inr (Or.inr (Or.inr (Or.inr (Or.inr (Or.inr (Or.inr (Or.inr (Or.inl ⟨op_is h1,nat_of (hr 0 (by decide)) (by decide),nat_of (hr 1 (by decide)) (by decide),nat_of (hr 2 (by decide)) (by decide)⟩))))))))
 ·exact Or.inr (Or.inr (Or.inr (Or.inr (Or.inr (Or.inr (Or.inr (Or.inr (Or.inr (Or.inl ⟨op_is h1,nat_of (hr 0 (by decide)) (by decide),nat_of (hr 1 (by decide)) (by decide),nat_of (hr 2 (by decide)) (by decide)⟩)))))))))
 ·exact Or.inr (Or.inr (Or.inr (Or.inr (Or.inr (Or.inr (Or.inr (Or.inr (Or.inr (Or.inr (Or.inl ⟨op_is h1,nat_of (hr 0 (by decide)) (by decide)⟩))))))))))
 ·exact Or.inr (Or.inr (Or.inr (Or.inr (Or.inr (Or.inr (Or.inr (Or.inr (Or.inr (Or.inr (Or.inr (Or.inl ⟨op_is h1,nat_of (hr 0 (by decide)) (by decide)⟩)))))))))))
 ·exact Or.inr (Or.inr (Or.inr (Or.inr (Or.inr (Or.inr (Or.inr (Or.inr (Or.inr (Or.inr (Or.inr (Or.inr (Or.inl ⟨op_is h1,nat_of (hr 0 (by decide)) (by decide)⟩))))))))))))
 ·exact Or.inr (Or.inr (Or.inr (Or.inr (Or.inr (Or.inr (Or.inr (Or.inr (Or.inr (Or.inr (Or.inr (Or.inr (Or.inr (Or.inl ⟨op_is h1,nat_of (hr 0 (by decide)) (by decide)⟩)))))))))))))
 ·exact Or.inr (Or.inr (Or.inr (Or.inr (Or.inr (Or.inr (Or.inr (Or.inr (Or.inr (Or.inr (Or.inr (Or.inr (Or.inr (Or.inr (Or.inl (op_is h1)))))))))))))))
 ·exact Or.inr (Or.inr (Or.inr (Or.inr (Or.inr (Or.inr (Or.inr (Or.inr (Or.inr (Or.inr (Or.inr (Or.inr (Or.inr (Or.inr (Or.inr (Or.inl (op_is h1))))))))))))))))
 ·exact Or.inr (Or.inr (Or.inr (Or.inr (Or.inr (Or.inr (Or.inr (Or.inr (Or.inr (Or.inr (Or.inr (Or.inr (Or.inr (Or.inr (Or.inr (Or.inr (Or.inl (op_is h1)))))))))))))))))
 ·exact Or.inr (Or.inr (Or.inr (Or.inr (Or.inr (Or.inr (Or.inr (Or.inr (Or.inr (Or.inr (Or.inr (Or.inr (Or.inr (Or.inr (Or.inr (Or.inr (Or.inr (Or.inl ⟨op_is h1,nat_of (hr 0 (by decide)) (by decide),lab_of h (hl (by decide))⟩)))))))))))))))))
 ·exact Or.inr (Or.inr (Or.inr (Or.inr (Or.inr (Or.inr (Or.inr (Or.inr (Or.inr (Or.inr (Or.inr (Or.inr (Or.inr (Or.inr (Or.inr (Or.inr (Or.inr (Or.inr (Or.inl ⟨op_is h1,nat_of (hr 0 (by decide)) (by decide),nat_of (hr 1 (by decide)) (by decide),lab_of h (hl (by decide))⟩))))))))))))))))))
 ·exact Or.inr (Or.inr (Or.inr (Or.inr (Or.inr (Or.inr (Or.inr (Or.inr (Or.inr (Or.inr (Or.inr (Or.inr (Or.inr (Or.inr (Or.inr (Or.inr (Or.inr (Or.inr (Or.inr (Or.inl ⟨op_is h1,lab_of h (hl (by decide))⟩)))))))))))))))))))
 ·exact Or.inr (Or.inr (Or.inr (Or.inr (Or.inr (Or.inr (Or.inr (Or.inr (Or.inr (Or.inr (Or.inr (Or.inr (Or.inr (Or.inr (Or.inr (Or.inr (Or.inr (Or.inr (Or.inr (Or.inr (⟨op_is h1,lab_of h (hl (by decide))⟩))))))))))))))))))))
end
section
open Go.RowKit Go.Extern.Stop Go.Stop Go.Extern Go.Sort
theorem ref_below(w:World):Below w.heap.size w (w.alloc (.cells #[.int .i64 0, .int .i64 0] 88)):=box_below 0 0 w
theorem malloc_full(a:Nat->Addr)(b:Nat)(s:Rm)(t:Nat)(w:World)(hE:EnvM a w)(h:MmAt b s w)(ht:t<s.threads)(hfl: ∀j,j<s.ar.size->s.ar.there j=true):
  Calls Tryz.prog 91 #[.pointer (some ⟨b,0,none⟩), .int .i64 t] w fun e w'=>e= .returned (.tuple #[.agg #[.int .i64 0, .int .i64 0],errAt (a 5)])/\Below w.heap.size w w':=by
 have hba:=ref_below w
 have h1:=h.alloc (.cells #[.int .i64 0, .int .i64 0] 88)
 have HH:=has_m_yes b s t _ h1 ht
 have HA:=alloc_full a b 0 s.ar _ (hE.below hba.block) h1.ar hfl
 obtain⟨z0,z1⟩:=box2c w 88 (.int .i64 0) (.int .i64 0)
 have y0:(w.alloc (.cells #[.int .i64 0, .int .i64 0] 88)).frozen? ⟨w.heap.size,0,none⟩=false:=by simp
 have y1:(w.alloc (.cells #[.int .i64 0, .int .i64 0] 88)).frozen? ⟨w.heap.size,1,none⟩=false:=by simp
 clear h h1
 generalize hw:w.alloc (.cells #[.int .i64 0, .int .i64 0] 88)=w1 at*
 go_enter Tryz.func91,Tryz.ntmps91
 go_wp2_with fail
 refine HH.mono ?_
 rintro e0 w2 ⟨rfl,rfl⟩
 clear HH hw
 go_wp2_with fail
 refine HA.mono ?_
 rintro e1 w3 ⟨rfl,hb3⟩
 have r0:=keep_cell hb3 z0
 have r1:=keep_cell hb3 z1
 have hzl:w.heap.size<w2.heap.size:=bLt z0
 have x0:w3.frozen? ⟨w.heap.size,0,none⟩=false:=by rw[hb3.frozen hzl];exact y0
 have x1:w3.frozen? ⟨w.heap.size,1,none⟩=false:=by rw[hb3.frozen hzl];exact y1
 have B3:=below_step hba hb3
 clear z0 z1 y0 y1 HA hb3
 go_wp2
 refine bodyPost_ret (v:= .tuple #[.agg #[.int .i64 0, .int .i64 0],errAt (a 5)]) (by simp only[results,Tryz.results91];go_simp) rfl ⟨rfl,?_⟩
 exact(B3.setCell nL _).setCell nL _
theorem malloc_some(b:Nat)(s:Rm)(t c:Nat)(w:World)(h:MmAt b s w)(ht:t<s.threads)(hc:c<s.ar.size)(hfl: ∀j,j<c->s.ar.there j=true)(hth:s.ar.there c=false)(hg:s.ar.given c+1<4611686018427387904):
  Calls Tryz.prog 91 #[.pointer (some ⟨b,0,none⟩), .int .i64 t] w fun e w'=>e= .returned (.tuple #[.agg #[.int .i64 c, .int .i64 (s.ar.given c)], .nilIface])/\MmStep b w (s.give c) w':=by
 have hba:=ref_below w
 have h1:=h.alloc (.cells #[.int .i64 0, .int .i64 0] 88)
 have hl:=h.lt
 have HH:=has_m_yes b s t _ h1 ht
 have HA:Hid (Calls Tryz.prog 163 #[.pointer (some ⟨b,0,none⟩)] (w.alloc (.cells #[.int .i64 0, .int .i64 0] 88)) fun e w'=>e= .returned (.tuple #[.agg #[.int .i64 c, .int .i64 (s.ar.given c)], .nilIface])/\MmStep b (w.alloc (.cells #[.int .i64 0, .int .i64 0] 88)) (s.give c) w'):=
  (alloc_some b 0 s.ar c _ h1.ar hc hfl hth hg).mono fun _ _ ⟨e1,e2,e3⟩=>⟨e1,h1.arena e2 e3⟩
 obtain⟨z0,z1⟩:=box2c w 88 (.int .i64 0) (.int .i64 0)
 have y0:(w.alloc (.cells #[.int .i64 0, .int .i64 0] 88)).frozen? ⟨w.heap.size,0,none⟩=false:=by simp
 have y1:(w.alloc (.cells #[.int .i64 0, .int .i64 0] 88)).frozen? ⟨w.heap.size,1,none⟩=false:=by simp
 clear h h1
 generalize hw:w.alloc (.cells #[.int .i64 0, .int .i64 0] 88)=w1 at*
 go_enter Tryz.func91,Tryz.ntmps91
 go_wp2_with fail
 refine HH.mono ?_
 rintro e0 w2 ⟨rfl,rfl⟩
 clear HH hw
 go_wp2_with fail
 refine HA.out.mono ?_
 rintro e1 w3 ⟨rfl,h3⟩
 have t3:=h3.turns
 have hzl:w.heap.size<w2.heap.size:=bLt z0
 have nb: ¬w.heap.size=b:=by omega
 have r0:=t3.keep z0 (fun e=>nb e.1)
 have r1:=t3.keep z1 (fun e=>nb e.1)
 have x0:w3.frozen? ⟨w.heap.size,0,none⟩=false:=by rw[t3.frozen _ _ hzl (fun e=>nb e.1)];exact y0
 have x1:w3.frozen? ⟨w.heap.size,1,none⟩=false:=by rw[t3.frozen _ _ hzl (fun e=>nb e.1)];exact y1
 have S3:=MmStep.of_below hba h3
 clear z0 z1 y0 y1 HA h3 t3
 go_wp2
 refine bodyPost_ret (v:= .tuple #[.agg #[.int .i64 c, .int .i64 (s.ar.given c)], .nilIface]) (by simp only[results,Tryz.results91];go_simp) rfl ⟨rfl,?_⟩
 exact⟨(S3.at'.turns ((Turns.refl (fun k _=>k=w.heap.size) _).setCell _ rfl |>.setCell _ rfl) (fun _ _ e=>nb e.symm)),((S3.turns.setNew _ nL).setNew _ nL)⟩
end
section
open Go.RowKit Go.Extern.Stop Go.Stop Go.Extern Go.Sort
theorem mready_ok(a:Nat->Addr)(B b:Nat)(s:Rm)(t:Nat)(c g k:Int)(vs:Value)(w:World)(hE:EnvB a B w)(hB:B<=b)(h:MmAt b s w)(ht:t<s.threads)(hx: ∀x∈s.waits t,x.Ok) 
  (HA: ∀w',Below w.heap.size w w'->Calls Tryz.prog 213 #[.pointer (some ⟨b,0,none⟩), .int .i64 t, .agg #[.int .i64 c, .int .i64 g], .int .i64 k,vs] w' fun e w''=>e= .returned .nilIface/\Below w'.heap.size w' w''):
  Calls Tryz.prog 164 #[.pointer (some ⟨b,0,none⟩), .int .i64 t, .agg #[.int .i64 c, .int .i64 g], .int .i64 k,vs] w fun e w'=>e= .returned (errVal a (fenceNum (decide (0<s.gone t (s.waits t)))))/\MmStep b w (s.drainAll t (s.waits t)) w':=by
 have hba:=box_below c g w
 have HA1:=HA _ hba
 have HF:Hid (∀w',Below w.heap.size w w'->Calls Tryz.prog 214 #[.pointer (some ⟨b,0,none⟩), .int .i64 t] w' fun e w''=>e= .returned (errVal a (fenceNum (decide (0<s.gone t (s.waits t)))))/\MmStep b w (s.drainAll t (s.waits t)) w''):=fun w' hb=>
  (mfence_any a B b s t w' (hE.below hb) hB (h.below hb) ht hx).mono fun _ _ ⟨e1,e2⟩=>⟨e1,MmStep.of_below hb e2⟩
 generalize errVal a (fenceNum (decide (0<s.gone t (s.waits t))))=r at*
 clear HA h hx
 go_enter Tryz.func164,Tryz.ntmps164
 go_wp2_with fail
 refine HA1.mono ?_
 rintro e0 w2 ⟨rfl,hb2⟩
 have B2:=below_step hba hb2
 clear HA1 hb2
 go_wp2_with fail
 refine(HF.out w2 B2).mono ?_
 rintro e1 w3 ⟨rfl,H3⟩
 clear HF
 go_wp2
 go_ret
 exact⟨rfl,H3⟩
theorem mfree_ok(a:Nat->Addr)(B b:Nat)(s:Rm)(t n:Nat)(g:Int)(w:World)(hE:EnvB a B w)(hB:B<=b)(h:MmAt b s w)(ht:t<s.threads)(hx: ∀x∈s.waits t,x.Ok)(hn:n<64)(hh:s.ar.has n g=true)(hg: ¬0<s.gone t (s.waits t)):
  Calls Tryz.prog 253 #[.pointer (some ⟨b,0,none⟩), .int .i64 t, .agg #[.int .i64 n, .int .i64 g]] w fun e w'=>e= .returned .nilIface/\MmStep b w ((s.drainAll t (s.waits t)).setThere n false) w':=by
 have hba:=box_below n g w
 have he:s.may t n g 0 []=0:=by rw[Rm.may_yes ht,Ar.chk_nil,Ar.at_ok hh (by decide)]
 have HR:=mready_ok a B b s t n g 0 (.slice none 0 0) (w.alloc (.cells #[.int .i64 n, .int .i64 g] 88)) (hE.below hba) hB (h.below hba) ht hx (fun w' hb=>by
  have:=allow_nil a b s t n g 0 w' (hE.env.below (below_step hba hb).block) (h.below (below_step hba hb))
  rw[he] at this
  exact this)
 rw[decide_eq_false hg,show errVal a (fenceNum false)= .nilIface from rfl] at HR
 have hh':(s.drainAll t (s.waits t)).ar.has n g=true:=by rw[Rm.drainAll_has];exact hh
 generalize s.drainAll t (s.waits t)=D at*
 have HFr:Hid (∀w',MmStep b w D w'->Calls Tryz.prog 265 #[.pointer (some ⟨b,0,none⟩), .agg #[.int .i64 n, .int .i64 g]] w' fun e w''=>e= .returned .nilIface/\MmStep b w (D.setThere n false) w''):=fun w' hs=>
  (free_yes b 0 D.ar n g w' hs.at'.ar hn hh').mono fun _ _ ⟨e1,e2,e3⟩=>⟨e1,hs.trans (hs.at'.arena e2 e3)⟩
 have hl:=h.lt
 obtain⟨q0,q1⟩:=box2c w 88 (.int .i64 n) (.int .i64 g)
 clear h he hx hE hh hh'
 generalize hw:w.alloc (.cells #[.int .i64 n, .int .i64 g] 88)=w1 at*
 go_enter Tryz.func253,Tryz.ntmps253
 go_wp2_with fail
 refine HR.mono ?_
 rintro e0 w2 ⟨rfl,h2⟩
 have H2:=MmStep.of_below hba h2
 replace q0:=h2.turns.keep q0 (by omega)
 replace q1:=h2.turns.keep q1 (by omega)
 have HA:Hid (∀k,Calls Tryz.prog 265 #[.pointer (some ⟨b,0,none⟩), .agg #[.int .i64 n, .int .i64 g]] (w2.drewN k) fun e w''=>e= .returned .nilIface/\MmStep b w (D.setThere n false) w''):=fun k=>HFr.out _ (H2.below (Below.drewN' k))
 clear HR hw h2 H2 HFr
 go_wp2_with fail
 go_region_with (go_at_call 265;refine(HA.out 1).mono ?_;rintro e4 w4 ⟨rfl,H4⟩)
 all_goals
  go_wp2
  go_ret
  exact⟨rfl,H4⟩
end
end Go.Proofs.YtnoigmdmgdcliaaGreatDoor
