import Derived.Test.YtnoigmdmgdcliaaGreatDoorA22
import Derived.Maps.AppendAt
import Derived.Laws.IdiomCopy
import Derived.Laws.Rows
namespace Go.Proofs.YtnoigmdmgdcliaaGreatDoor
set_option maxRecDepth 100000
set_option maxHeartbeats 8000000
section
open Go.RowKit Go.Extern.Stop Go.Stop Go.Extern Go.Maps Go.WideMaps Go.Sort
def PrPost(a:Nat->Addr)(cs:List (List Ins))(w:World)(e:Ending)(w':World):Prop:=
 Below w.heap.size w w'/\
 (((codesFrom 0 cs).1=0/\ ∃v pl,e= .returned (.tuple #[v, .nilIface])/\PrRel cs w.heap.size v cs.length w' pl)∨
  ((codesFrom 0 cs).1≠0/\ ∃v,e= .returned (.tuple #[.slice none 0 0,v])/\errIs a (codesFrom 0 cs) v w' w.heap.size))
theorem programs_any {a:Nat->Addr} {ad:Option Addr} {cs:List (List Ins)} {cap:Nat} {w:World} (hE:Env a w) (hl:codesAt ad cs w) (h6:cs.length<=6) (hsz: ∀(t:Nat) L,cs[t]? =some L-> ∀(i:Nat) x,L[i]? =some x->x.to.size<=maxLen):
  Calls Tryz.prog 49 #[.slice ad cs.length cap] w fun e w'=>Hid (PrPost a cs w e w'):=by
 have HL:=hide hl
 have HS:=hide hsz
 have HE:=hide hE
 have i6:(cs.length:Int)<=6:=by omega
 clear hl hsz hE
 go_enter Tryz.func49,Tryz.ntmps49
 go_wp2_with fail
 go_loopw [4,5,6,7,10] (fun v _ _ _ i wr=> ∃j:Nat,j<=cs.length/\i= .int .i64 j/\Below w.heap.size w wr/\Hid (∀(t:Nat) L,t<j->cs[t]? =some L->(codeFault L).1=0)/\Hid (∃pl,PrRel cs w.heap.size v j wr pl)) (fun _ _ _ _ i _=>cs.length - (intOf i).toNat)
 case atStart=>exact⟨0,Nat.zero_le _,rfl,Below.refl _ _,fun t L h=>absurd h (Nat.not_lt_zero _),[],rfl,⟨by simp[prCells],Or.inl ⟨rfl,rfl⟩⟩,fun t L x _ h=>by simp at h,fun x h=>absurd h List.not_mem_nil,fun x h=>absurd h List.not_mem_nil⟩
 case round=>
  obtain⟨j,hj,rfl,hB,HJ,HP⟩:=hrel
  by_cases hlt:j<cs.length
  ·obtain ⟨L,hL⟩: ∃L,cs[j]? =some L:=⟨_,List.getElem?_eq_getElem hlt⟩
   obtain⟨b,off,adl,capl,rfl,c0,hcl,hins,hnil⟩:=(HL.out.below hB) j L hL
   have ji:(j:Int)<cs.length:=by omega
   have HC:=hide (pcheck_any a adl capl L wr (HE.out.e.below hB) (HS.out j L hL) hins)
   have HI:=hide hins
   have HLs:=hide hL
   have HN:=hide hnil
   clear hins hL hnil
   go_wp2_with fail
   refine HC.out.mono ?_
   rintro e w1 ⟨v1,rfl,hv1,hb1⟩
   have B1:=below_step hB hb1
   clear HC
   by_cases hf:(codeFault L).1=0
   ·obtain rfl:v1= .nilIface:=by
     rcases hv1 with⟨-,h⟩ |⟨h, -⟩ |⟨h, -⟩
     ·exact h
     ·exact absurd hf h
     ·exact absurd hf h
    clear hv1
    obtain⟨h2000, -⟩:=codeFault_right hf
    have HJ':Hid (∀(t:Nat) L,t<j+1->cs[t]? =some L->(codeFault L).1=0):=fun t M ht hM=>by
     by_cases e:t=j
     ·subst e;rw[HLs.out] at hM;cases hM;exact hf
     ·exact HJ.out t M (by omega) hM
    have HP1:Hid (∃pl,PrRel cs w.heap.size u4 j w1 pl):=by obtain⟨pl,h⟩:=HP.out;exact⟨pl,h.below hb1⟩
    have HCl:=hide (cloneI_any (cap:=capl) (insAt_below HI.out hb1) h2000 HN.out)
    clear hf HJ HP
    obtain ⟨adp,capp,rfl⟩: ∃adp capp,u4= .slice adp j capp:=by
     obtain⟨pl,h⟩:=HP1.out
     obtain⟨g,c,e,_⟩:=ownsRow_shape h.own
     exact⟨g,c,e⟩
    go_wp2_with fail
    refine HCl.out.mono ?_
    rintro e w2 ⟨adc,capc,rfl,hc1,hc2,hc3,hc4,hb2⟩
    have B2:=below_step B1 hb2
    have hlb:=labels_any adl capl L w2 (by omega) (HS.out j L HLs.out) (insAt_below (insAt_below HI.out hb1) hb2)
    have HLa:=hide hlb
    clear hlb HCl HI HN
    go_wp2_with fail
    refine HLa.out.mono ?_
    rintro e w3 ⟨rfl,hmap,hb3⟩
    have B3:=below_step B2 hb3
    have s1:=hb1.size
    have s2:=hb2.size
    have s3:=hb3.size
    have sm:=hmap.lt
    obtain⟨pl,hP⟩:=HP1.out
    have hP3:=(hP.below hb2).below hb3
    have hlt1: ∀k,(Value.slice adp j capp).ownBlock=some k->k<w1.heap.size:=fun k hk=>(hP.own.lt k hk).2
    have HX:Hid (PrOk L ⟨adc,L.length,capc,w2.heap.size⟩ w3):=hide ⟨rfl,hc1,insAt_below hc3 hb3,hmap⟩
    have HXn:Hid (∀k,(PrX.mk adc L.length capc w2.heap.size).uses k->w1.heap.size<=k/\k<w3.heap.size):=hide fun k hk=>by
     rcases hk with⟨off',e⟩ |e
     ·have:=hc4 k off' e;omega
     ·subst e;exact⟨s2,sm⟩
    have HP3:=hide hP3
    have hv:=hP3.own
    have HLT:=hide hlt1
    obtain⟨ri,hri,hrz,hrs,hrb⟩:=progInfo
    clear hP hP3 hlt1 hmap hc3 hc4 HLa hb1 hb2 hb3 B1 B2 HP1 hB
    generalize w2.heap.size=lb at*
    go_wp2_with (first
     |(at_builtin;refine wpList_append_own_at _ rfl _ _ 114 rfl w.heap.size 189 ri (.agg #[.slice none 0 0, .map none]) 2 32 Tryz.underlying114 hri hrz hrs hrb rfl (by decide) _ _ _ rfl (hv.alloc _) ⟨w3.heap.size,0,none⟩ 1 1 [.slice adc L.length capc, .map (some lb)] rfl rfl ?c1 ?c2 ?c3 ?c4 ?c5 ?_))
    case c1=>exact World.news_of_block (cs:=#[.slice adc L.length capc, .map (some lb)]) (t:=189) (fr:=(0,0)) (heap_alloc_new w3 _)
    case c2=>intro u hu;simp at hu;rcases hu with rfl |rfl <;> rfl
    case c3=>unfold maxLen;omega
    case c4=>omega
    case c5=>have:=B3.size;simp;omega
    intro v' w6 hown6 hgrow6 hnil6 hloc6
    have hg: ∀b,b<w3.heap.size->(Value.slice adp j capp).ownBlock≠some b->w6.heap[b]? =w3.heap[b]? :=fun b hb hne=>by
     rw[hgrow6.block b (by simp;omega) (Ne.symm hne)]
     exact Below.heap_alloc _ _ _ hb
    have HR:=hide (HP3.out.snoc HLs.out HX.out (fun k hk=>(HXn.out k hk).2) (fun k hk e=>by have h1:=HXn.out k hk;have h2:=HLT.out k e;omega) hown6 (Nat.le_trans (by simp) hgrow6.size) hg (fun k e=>by
     rcases hloc6 with e2 |e2
     ·left;rw[<-e2];exact e
     ·right;rw[e2] at e;simp at e;omega))
    have HB6:Hid (Below w.heap.size w w6):=hide ((B3.alloc B3.size _).grown hgrow6 (by have:=B3.size;simp;omega) (fun k hk=>(hv.lt k hk).1))
    clear hown6 hgrow6 hnil6 hloc6 hg HP3 HX HXn HLT hv hri hrz hrs hrb B3
    go_wp2
    go_roundw
    case rel=>exact⟨j+1,by omega,by go_num,HB6.out,HJ',_,HR.out⟩
    case measure=>simp[intOf];omega
   ·have hcf:=codesFrom_hit cs 0 j L HLs.out hf (fun t M ht hM=>HJ.out t M ht hM)
    rw[Nat.zero_add] at hcf
    have HB2:=hide (bare_any (HE.out.below B1.block) hf hv1)
    have HQ:Hid (∀e w',Below w.heap.size w w'->(∃v,e= .returned (.tuple #[.slice none 0 0,v])/\errIs a ((codeFault L).1,(j:Int)) v w' w.heap.size)->PrPost a cs w e w'):=hide fun e w' h1 ⟨v,h2,h3⟩=>⟨h1,Or.inr ⟨by rw[hcf];exact hf,v,h2,by rw[hcf];exact h3⟩⟩
    have HF:=hide hf
    rcases hv1 with⟨h, -⟩ |⟨-, -,rfl⟩ |⟨-,j2,N, -, -,rfl, -, -⟩
    ·exact absurd h hf
    ·obtain⟨k,hk⟩: ∃k,(codeFault L).1=k+1:=⟨(codeFault L).1 - 1,by omega⟩
     rw[hk] at HB2 HQ ⊢
     clear hcf hf HJ HP HI HLs HN HF hk
     rw[show xval a (k+1)=xerr (a k) from rfl] at HB2 ⊢
     go_wp2_with fail
     refine HB2.out.mono ?_
     rintro e w2 ⟨rfl,hb2⟩
     have B2:=below_step B1 hb2
     go_wp2
     refine bodyPost_ret (v:= .tuple #[.slice none 0 0, .iface 141 (.pointer (some ⟨w2.heap.size,0,none⟩))]) (by simp only[results,Tryz.results49];go_simp) rfl ?_
     exact HQ.out _ _ (B2.alloc B2.size _) ⟨_,rfl, .inr (.inr ⟨Nat.succ_ne_zero _,j,w2.heap.size,rfl,B2.size,rfl,by simp,by simp;rfl⟩)⟩
    ·obtain⟨k,hk⟩: ∃k,(codeFault L).1=k+1:=⟨(codeFault L).1 - 1,by omega⟩
     rw[hk] at HB2 HQ
     clear hcf hf HJ HP HI HLs HN HF hk
     rw[show xval a (k+1)=xerr (a k) from rfl] at HB2
     go_wp2_with fail
     refine HB2.out.mono ?_
     rintro e w2 ⟨rfl,hb2⟩
     have B2:=below_step B1 hb2
     go_wp2
     refine bodyPost_ret (v:= .tuple #[.slice none 0 0, .iface 141 (.pointer (some ⟨w2.heap.size,0,none⟩))]) (by simp only[results,Tryz.results49];go_simp) rfl ?_
     exact HQ.out _ _ (B2.alloc B2.size _) ⟨_,rfl, .inr (.inr ⟨Nat.succ_ne_zero _,j,w2.heap.size,rfl,B2.size,rfl,by simp,by simp;rfl⟩)⟩
  ·obtain rfl:j=cs.length:=by omega
   have HQ:Hid (∀v,(∃pl,PrRel cs w.heap.size v cs.length wr pl)->PrPost a cs w (.returned (.tuple #[v, .nilIface])) wr):=hide fun v ⟨pl,h⟩=>⟨hB,Or.inl ⟨by rw[codesFrom_none cs 0 (fun t L ht=>HJ.out t L (List.getElem?_eq_some_iff.1 ht).1 ht)],v,pl,rfl,h⟩⟩
   clear HJ
   go_wp2
   refine bodyPost_ret (v:= .tuple #[u4, .nilIface]) (by simp only[results,Tryz.results49];go_simp) rfl ?_
   exact HQ.out _ HP.out
end
section
open Go.RowKit Go.Extern.Stop Go.Stop Go.Extern Go.Maps Go.WideMaps Go.Sort
variable {n i t:Nat} {Q:Exit->Act->World->Prop} {row:List Int} {s:Sta} {R:List (List Int)} {ops:Array Oper} {rest:List Oper} {P:Program} {w:World}
theorem rowAt_take{t:Nat}(h:R[t]? =some row)(u k:Nat):rowAt (R.take (t+1)) u k=if u=t then row.getD k 0 else rowAt (R.take t) u k:=by
 have ht:=(List.getElem?_eq_some_iff.1 h).1
 unfold rowAt
 by_cases e:u=t
 ·rw[if_pos e,e]
  congr 1
  rw[List.getD_eq_getElem?_getD,List.getElem?_take,if_pos (by omega),h];rfl
 ·rw[if_neg e]
  congr 1
  rw[List.getD_eq_getElem?_getD,List.getD_eq_getElem?_getD,List.getElem?_take,List.getElem?_take]
  by_cases e2:u<t
  ·rw[if_pos (by omega),if_pos e2]
  ·rw[if_neg (by omega),if_neg e2]
theorem rowAt_out{t u:Nat}(h:t<=u)(k:Nat):rowAt (R.take t) u k=0:=by
 unfold rowAt
 have:(R.take t).getD u []=[]:=by rw[List.getD_eq_getElem?_getD,List.getElem?_take,if_neg (by omega)];rfl
 rw[this];rfl
def Sta.at1(s:Sta)(n i t:Nat):Mk where
 mem:={ Rm.fresh s.cells.toNat n with ar:=(Rm.fresh s.cells.toNat n).ar.filled (s.init.take i) }
 regs:=rowAt (s.regs.take t)
 pc _:=0
 marks:=[]
 faults:=0
theorem Sta.at1_end(s:Sta)(n:Nat):s.at1 n s.init.length s.regs.length=s.mach n:=by
 unfold Sta.at1 Sta.mach
 rw[List.take_length,List.take_length]
theorem Ar.filled_nil(s:Ar):s.filled []=s:=by
 unfold Ar.filled
 simp
def Mk.setRegs(m:Mk)(t r:Nat):List Int->Mk
 | []=>m
 |v::l=>(m.setReg t r v).setRegs t (r+1) l
theorem Mk.setRegs_regs: ∀(l:List Int) (m:Mk) (t r u k:Nat),(m.setRegs t r l).regs u k=if u=t/\r<=k/\k<r+l.length then l.getD (k - r) 0 else m.regs u k
 | [],m,t,r,u,k=>by rw[if_neg (by simp)];rfl
 | v::l,m,t,r,u,k=>by
  show((m.setReg t r v).setRegs t (r+1) l).regs u k=_
  rw[Mk.setRegs_regs l]
  simp only[Mk.setReg,List.length_cons]
  by_cases h1:u=t/\r+1<=k/\k<r+1+l.length
  ·rw[if_pos h1,if_pos (by omega)]
   rw[show k - r=(k - (r+1))+1 by omega];rfl
  ·rw[if_neg h1]
   by_cases h2:u=t/\k=r
   ·rw[if_pos h2,if_pos (by omega),h2.2,Nat.sub_self];rfl
   ·rw[if_neg h2,if_neg (by omega)]
theorem Mk.setRegs_other: ∀(l:List Int) (m:Mk) (t r:Nat),(m.setRegs t r l).mem=m.mem/\(m.setRegs t r l).pc=m.pc/\(m.setRegs t r l).marks=m.marks/\(m.setRegs t r l).faults=m.faults
 | [],_,_,_=>⟨rfl,rfl,rfl,rfl⟩
 |v::l,m,t,r=>Mk.setRegs_other l (m.setReg t r v) t (r+1)
theorem Mk.ext'{m m':Mk}(h1:m.mem=m'.mem)(h2:m.regs=m'.regs)(h3:m.pc=m'.pc)(h4:m.marks=m'.marks)(h5:m.faults=m'.faults):m=m':=by
 cases m;cases m';simp only at h1 h2 h3 h4 h5;rw[h1,h2,h3,h4,h5]
theorem Sta.at1_regs(h:s.regs[t]? =some row):(s.at1 n i t).setRegs t 0 row=s.at1 n i (t+1):=by
 obtain⟨h1,h2,h3,h4⟩:=Mk.setRegs_other row (s.at1 n i t) t 0
 refine Mk.ext' h1 ?_ h2 h3 h4
 funext u k
 rw[Mk.setRegs_regs]
 show _=rowAt (s.regs.take (t+1)) u k
 rw[rowAt_take h]
 show(if _ then _ else rowAt (s.regs.take t) u k)=_
 by_cases e:u=t
 ·rw[if_pos e]
  by_cases e2:k<row.length
  ·rw[if_pos (by omega),Nat.sub_zero]
  ·rw[if_neg (by omega),e,rowAt_out nL,List.getD_eq_getElem?_getD,List.getElem?_eq_none (by omega)];rfl
 ·rw[if_neg (fun h=>e h.1),if_neg e]
def Mk.rowPart(m:Mk)(i:Nat)(row:List Int)(j:Nat):Mk:=
 m.setMem { m.mem.give i with ar:={ (m.mem.give i).ar with words:=fun c k=>if c=i/\k<j then row.getD k 0 else(m.mem.give i).ar.words c k } }
theorem Mk.rowPart_zero(m:Mk)(i:Nat)(row:List Int):m.rowPart i row 0=m.setMem (m.mem.give i):=by
 unfold Mk.rowPart
 have :(fun c k=>if c=i/\k<0 then row.getD k 0 else(m.mem.give i).ar.words c k)=(m.mem.give i).ar.words:=by
  funext c k;rw[if_neg (by omega)]
 rw[this]
theorem Mk.rowPart_succ(m:Mk)(i:Nat)(row:List Int)(j:Nat){v:Int}(hv:row[j]? =some v):(m.rowPart i row j).setMem ((m.rowPart i row j).mem.setWord i j v)=m.rowPart i row (j+1):=by
 unfold Mk.rowPart Mk.setMem Rm.setWord Ar.setWord
 simp only
 congr 3
 funext c k
 by_cases h1:c=i/\k=j
 ·rw[if_pos h1,if_pos (by omega),h1.2,List.getD_eq_getElem?_getD,hv];rfl
 ·rw[if_neg h1]
  by_cases h2:c=i/\k<j
  ·rw[if_pos h2,if_pos (by omega)]
  ·rw[if_neg h2,if_neg (by omega)]
theorem Sta.at1_row (h:s.init[i]? =some row) (h4:row.length<=4):(s.at1 n i t).rowPart i row row.length=s.at1 n (i+1) t:=by
 have hi:=(List.getElem?_eq_some_iff.1 h).1
 have hl:(s.init.take i).length=i:=by rw[List.length_take];omega
 have hl2:(s.init.take (i+1)).length=i+1:=by rw[List.length_take];omega
 refine Mk.ext' ?_ rfl rfl rfl rfl
 show Rm.mk _ _ _=Rm.mk _ _ _
 congr 1
 show Ar.mk _ _ _ _=Ar.mk _ _ _ _
 congr 1
 ·funext c k
  show(if _ then _ else if c=i/\k<4 then 0 else if c<(s.init.take i).length/\k<4 then rowAt (s.init.take i) c k else _)=(if c<(s.init.take (i+1)).length/\k<4 then rowAt (s.init.take (i+1)) c k else _)
  rw[hl,hl2,rowAt_take h]
  by_cases e:c=i
  ·by_cases e2:k<row.length
   ·rw[if_pos ⟨e,e2⟩,if_pos (by omega),if_pos e]
   ·rw[if_neg (by omega)]
    by_cases e3:k<4
    ·rw[if_pos ⟨e,e3⟩,if_pos (by omega),if_pos e,List.getD_eq_getElem?_getD,List.getElem?_eq_none (by omega)];rfl
    ·rw[if_neg (by omega),if_neg (by omega),if_neg (by omega)]
  ·rw[if_neg (by omega),if_neg (by omega),if_neg e]
   by_cases e2:c<i/\k<4
   ·rw[if_pos e2,if_pos (by omega)]
   ·rw[if_neg e2,if_neg (by omega)]
 ·funext c
  show(if c=i then true else if c<(s.init.take i).length then true else _)=(if c<(s.init.take (i+1)).length then true else _)
  rw[hl,hl2]
  by_cases e:c=i
  ·rw[if_pos e,if_pos (by omega)]
  ·rw[if_neg e]
   by_cases e2:c<i
   ·rw[if_pos e2,if_pos (by omega)]
   ·rw[if_neg e2,if_neg (by omega)]
 ·funext c
  show(if c=i then(if i<(s.init.take i).length then 1 else _)+1 else if c<(s.init.take i).length then 1 else _)=(if c<(s.init.take (i+1)).length then 1 else _)
  rw[hl,hl2]
  by_cases e:c=i
  ·rw[if_pos e,if_neg (by omega),if_pos (by omega)];rfl
  ·rw[if_neg e]
   by_cases e2:c<i
   ·rw[if_pos e2,if_pos (by omega)]
   ·rw[if_neg e2,if_neg (by omega)]
theorem freeFrom_hit {there:Nat->Bool}: ∀(n j i:Nat),j<=i->i<j+n->there i=false->(∀k,j<=k->k<i->there k=true)->freeFrom there j n=some i
 |0,j,i,h1,h2,_,_=>by omega
 | n+1,j,i,h1,h2,h3,h4=>by
  unfold freeFrom
  by_cases e:j=i
  ·rw[e,h3,if_neg (by decide)]
  ·rw[h4 j nL (by omega),if_pos rfl]
   exact freeFrom_hit n (j+1) i (by omega) (by omega) h3 (fun k h5 h6=>h4 k (by omega) h6)
theorem Sta.at1_free(hi:i<s.init.length)(hc:(s.init.length:Int)<=s.cells):(s.at1 n i t).mem.ar.free?=some i:=by
 have hl:(s.init.take i).length=i:=by rw[List.length_take];omega
 refine freeFrom_hit _ 0 i (Nat.zero_le _) (by show i<0+s.cells.toNat;omega) ?_ (fun k _ hk=>?_)
 ·show(if i<(s.init.take i).length then true else false)=false
  rw[hl,if_neg (by omega)]
 ·show(if k<(s.init.take i).length then true else false)=true
  rw[hl,if_pos hk]
theorem Sta.at1_given(hi:i<s.init.length):(s.at1 n i t).mem.ar.given i=0:=by
 have hl:(s.init.take i).length=i:=by rw[List.length_take];omega
 show(if i<(s.init.take i).length then 1 else 0)=0
 rw[hl,if_neg (by omega)]
theorem wpList_copy_cells{o:Oper}{a:Act}(hgd:o.guard=none)(s x:Operand)(t elem:TypeId) 
  (ho:o.op= .call { callee:= .builtin .copy,args:=#[s,x],argTypes:=#[t,t] })
  (b off dLen dCap:Nat) (ad:Addr) (sLen sCap:Nat) (cs:List Value) (hs:a.eval s= .slice (some ⟨b,off,none⟩) dLen dCap) (hx:a.eval x= .slice (some ad) sLen sCap)
  (hu:P.underlying t=some (.slice elem)) (hz:(P.info? elem).map (·.size)=some 1) (hn:cs.length=Nat.min sLen dLen)
  (hsrc: ∀j v,cs[j]? =some v->w.cell? (ad.add j)=some v) (hc: ∀j,j<cs.length->(w.cell? ⟨b,off+j,none⟩).isSome=true) (hf: ∀j,j<cs.length->w.frozen? ⟨b,off+j,none⟩=false) (h1: ∀v∈cs,v.oneCell'=true)
  (h:wpList P ops Q rest (a.put o.dst (goInt cs.length)) (w.setCells b off cs)):wpList P ops Q (o::rest) a w:=by
 refine wpList_plain hgd fun K hK=>?_
 have hr:=run_copy_cells (P:=P) w t t o.type elem b off dLen dCap ad sLen sCap cs hu hz hn hsrc hc hf h1
 unfold Oper.wp execOp
 simp only[ho,resolve,invoke,builtin,Sem.run_bind,Sem.run_pure,Result.andThen_ok,List.map_toArray,List.map_cons,List.map_nil,hs,hx,hr]
 exact hK _ _ h
theorem wpList_copy_none{o:Oper}{a:Act}(hgd:o.guard=none)(s x:Operand)(t elem:TypeId) 
  (ho:o.op= .call { callee:= .builtin .copy,args:=#[s,x],argTypes:=#[t,t] })
  (d:Option Addr) (dLen dCap:Nat) (ad:Option Addr) (sCap:Nat) (hs:a.eval s= .slice d dLen dCap) (hx:a.eval x= .slice ad 0 sCap)
  (hu:P.underlying t=some (.slice elem)) (hz:(P.info? elem).map (·.size)=some 1)
  (h:wpList P ops Q rest (a.put o.dst (goInt 0)) w):wpList P ops Q (o::rest) a w:=by
 refine wpList_plain hgd fun K hK=>?_
 have hr:=run_copy_none (P:=P) w t t o.type elem d ad dLen dCap 0 sCap hu hz (by simp)
 unfold Oper.wp execOp
 simp only[ho,resolve,invoke,builtin,Sem.run_bind,Sem.run_pure,Result.andThen_ok,List.map_toArray,List.map_cons,List.map_nil,hs,hx,hr]
 exact hK _ _ h
theorem MkAt.setRegs{a:Nat->Addr}{cs:List (List Ins)}{p:MkPl}{t:Nat}(ht:t<6): ∀(l:List Int) {m:Mk} {w:World} (r:Nat),r+l.length<=8->MkAt a cs p m w->MkStep a cs p w p.mv (m.setRegs t r l) (w.setCells p.b (585+t*9+r) (l.map (Value.int .i64)))
 | [],m,w,r,_,h=>MkStep.refl h
 | v::l,m,w,r,hr,h=>by
  have k1:=h.setReg ht (r:=r) (by simp at hr;omega) v
  have k2:=MkAt.setRegs ht l (r+1) (by simp at hr;omega) k1.at'
  exact k1.trans k2
end
section
open Go.RowKit Go.Extern.Stop Go.Stop Go.Extern Go.Maps Go.WideMaps Go.Sort
variable {cs:List (List Ins)} {a:Nat->Addr} {s:Sta} {p:MkPl} {row:List Int}
theorem mem_lay{m:Mk}{w:World}(h:MkAt a cs p m w)(h0:0<cs.length)(hws:m.mem.waits 0=[]){n k:Nat}(hn:n<64)(hh:m.mem.ar.has n 0=true)(hk:k<4){v:Int}(hv:Wd v):
  Calls Tryz.prog 92 #[.pointer (some ⟨p.b,0,none⟩), .int .i64 0, .agg #[.int .i64 n, .int .i64 0], .int .i64 k, .int .i64 v] w fun e w'=>e= .returned (.tuple #[.int .i64 (m.mem.ar.words n k), .nilIface])/\MkStep a cs p w p.mv (m.setMem (m.mem.setWord n k v)) w':=by
 have:=mswap_ok a p.B p.b m.mem 0 n k 0 v w h.pg.envB h.hB h.mem (by rw[h.thr];exact h0) (by rw[hws];exact fun x hx=>absurd hx List.not_mem_nil) hn hk hh hv (by rw[hws];exact Nat.lt_irrefl _)
 rw[hws] at this
 exact this.mono fun e w' ⟨e1,e2⟩=>⟨e1,h.ofMem e2 rfl⟩
theorem Sta.part_has{n i j:Nat}(hi:i<s.init.length)(hc:(s.init.length:Int)<=s.cells):((s.at1 n i 0).rowPart i row j).mem.ar.has i 0=true:=by
 have hl:(s.init.take i).length=i:=by rw[List.length_take];omega
 have hg:((s.at1 n i 0).rowPart i row j).mem.ar.given i=1:=by
  show(if i=i then(if i<(s.init.take i).length then 1 else 0)+1 else _)=1
  rw[if_pos rfl,hl,if_neg (by omega)]
 have ht:((s.at1 n i 0).rowPart i row j).mem.ar.there i=true:=by
  show(if i=i then true else _)=true
  rw[if_pos rfl]
 have hz:((s.at1 n i 0).rowPart i row j).mem.ar.size=s.cells.toNat:=rfl
 generalize ((s.at1 n i 0).rowPart i row j).mem.ar=A at*
 unfold Ar.has
 rw[Int.toNat_natCast,ht,hg,hz,decide_eq_true (by omega)]
 rfl
theorem rowOk_at{R:List (List Int)}{n:Nat}(h:rowsOk n R=true){i:Nat}(hr:R[i]? =some row):row.length<=n/\ ∀(j:Nat) v,row[j]? =some v->Wd v:=by
 unfold rowsOk at h
 rw[List.all_eq_true] at h
 have:=h row (List.mem_of_getElem? hr)
 unfold rowOk at this
 rw[Bool.and_eq_true,decide_eq_true_eq,List.all_eq_true] at this
 exact⟨this.1,fun j v hv=>by have:=this.2 v (List.mem_of_getElem? hv);unfold wordOk at this;rw[decide_eq_true_eq] at this;exact this⟩
theorem Sta.fits_of{n:Nat}(h:s.fits n=true):(s.init.length:Int)<=s.cells/\rowsOk 4 s.init=true/\s.regs.length<=n/\rowsOk 8 s.regs=true:=by
 unfold Sta.fits at h
 simp only[Bool.and_eq_true,decide_eq_true_eq] at h
 exact⟨h.1.1,h.1.2,h.2.1,h.2.2⟩
structure FillX(a:Nat->Addr)(cs:List (List Ins))(p:MkPl)(s:Sta)(q:StaPl)(W w:World):Prop where
 at':MkAt a cs p (s.at1 cs.length 0 0) w
 st:StaAt s q W
 sz:W.heap.size=p.B
 low:Below p.B W w
 fits:s.fits cs.length=true
 c64:s.cells<=64
 n1:1<=cs.length
theorem FillX.below{q:StaPl}{W w w':World}{m':Mk}{v:Value}(h:FillX a cs p s q W w)(k:MkStep a cs p w v m' w'):Below W.heap.size W w':=by
 rw[h.sz];exact h.low.trans (k.turns.below (by rw[<-h.sz];exact h.low.size) (fun i o hi hf=>by have:=h.at'.fp_ge hf;omega))
def FillRel(a:Nat->Addr)(cs:List (List Ins))(p:MkPl)(s:Sta)(w:World)(i t:Nat)(wr:World):Prop:=MkStep a cs p w p.mv (s.at1 cs.length i t) wr
theorem kfill_any {ai ar:Option Addr} {ci cr:Nat} {W w:World} (h:FillX a cs p s ⟨ai,ci,ar,cr⟩ W w):
  Calls Tryz.prog 50 #[.pointer (some ⟨p.b,0,none⟩), .agg #[.int .i64 s.cells, .slice ai s.init.length ci, .slice ar s.regs.length cr]] w fun e w'=>e= .returned (.tuple #[])/\Hid (MkStep a cs p w p.mv (s.mach cs.length) w'):=by
 obtain⟨f1,f2,f3,f4⟩:=Sta.fits_of h.fits
 have h6:=h.at'.few
 have hcells:=h.c64
 have n1:=h.n1
 have hba:Below w.heap.size w (w.alloc (.cells #[.int .i64 s.cells, .slice ai s.init.length ci, .slice ar s.regs.length cr] 40)):=bRf.alloc nL _
 have e1:(w.alloc (.cells #[.int .i64 s.cells, .slice ai s.init.length ci, .slice ar s.regs.length cr] 40)).cell? ⟨w.heap.size,1,none⟩=some (.slice ai s.init.length ci):=by simp
 have e2:(w.alloc (.cells #[.int .i64 s.cells, .slice ai s.init.length ci, .slice ar s.regs.length cr] 40)).cell? ⟨w.heap.size,2,none⟩=some (.slice ar s.regs.length cr):=by simp
 have HX:=hide h
 have H0:Hid (FillRel a cs p s w 0 0 (w.alloc (.cells #[.int .i64 s.cells, .slice ai s.init.length ci, .slice ar s.regs.length cr] 40))):=hide (MkStep.of_below' h.at' hba)
 have HF:Hid (∀k,p.fp k->k<w.heap.size):=hide fun k hk=>h.at'.fp_lt hk
 have HK:Hid (∀(wr w':World) (v:Value),wr.cell? ⟨w.heap.size,2,none⟩=some v->Turns (fun k _=>p.fp k) wr w'->w'.cell? ⟨w.heap.size,2,none⟩=some v):=hide fun wr w' v hc k=>k.keep hc (fun hf=>by have:=h.at'.fp_lt hf;omega)
 have i1:(s.init.length:Int)<=64:=by omega
 clear h hba
 generalize hw:w.alloc (.cells #[.int .i64 s.cells, .slice ai s.init.length ci, .slice ar s.regs.length cr] 40)=w1 at*
 go_enter Tryz.func50,Tryz.ntmps50
 go_wp2_with fail
 clear hw
 go_loopw [5,6,7,8,9,15] (fun _ _ _ _ _ x wr=> ∃i:Nat,i<=s.init.length/\x= .int .i64 i/\FillRel a cs p s w i 0 wr/\wr.cell? ⟨w.heap.size,2,none⟩=some (.slice ar s.regs.length cr)) (fun _ _ _ _ _ x _=>s.init.length - (intOf x).toNat)
 case atStart=>exact⟨0,Nat.zero_le _,rfl,H0.out,e2⟩
 case round =>
  obtain⟨i,hi,rfl,hR,hc2⟩:=hrel
  by_cases hlt:i<s.init.length
  ·obtain ⟨row,hrow⟩: ∃x,s.init[i]? =some x:=⟨_,List.getElem?_eq_getElem hlt⟩
   obtain⟨b,off,adr,capr,hq,cW,hcp,hnW⟩:=HX.out.st.init i row hrow
   obtain rfl:ai=some ⟨b,off,none⟩:=hq
   have HB:Hid (∀w' m',MkStep a cs p w p.mv m' w'->numsAt adr row w'):=hide fun w' m' k=>hnW.below (HX.out.below k)
   have c0:=keep_cell (HX.out.below hR) cW
   obtain⟨r4,rw'⟩:=rowOk_at f2 hrow
   have ii:(i:Int)<s.init.length:=by omega
   have HA:=hide (mem_alloc_some hR.at' (t:=0) (c:=i) (by omega) (Sta.at1_free hlt f1) (by rw[Sta.at1_given hlt];omega))
   have hg0:((s.at1 cs.length i 0).mem.ar.given i:Int)=0:=by rw[Sta.at1_given hlt];rfl
   rw[hg0] at HA
   have HP0:Hid (∀w',MkStep a cs p wr p.mv ((s.at1 cs.length i 0).setMem ((s.at1 cs.length i 0).mem.give i)) w'->MkStep a cs p w p.mv ((s.at1 cs.length i 0).rowPart i row 0) w'):=hide fun w' k=>by rw[Mk.rowPart_zero];exact hR.trans k
   have HE:Hid ((s.at1 cs.length i 0).rowPart i row row.length=s.at1 cs.length (i+1) 0):=hide (Sta.at1_row hrow r4)
   have HT:Hid (∀w',MkStep a cs p wr p.mv ((s.at1 cs.length i 0).setMem ((s.at1 cs.length i 0).mem.give i)) w'->w'.cell? ⟨w.heap.size,2,none⟩=some (.slice ar s.regs.length cr)/\ ∀k,p.fp k->k<w'.heap.size):=hide fun w' k=>⟨HK.out wr w' _ hc2 k.turns,fun i hi=>k.at'.fp_lt hi⟩
   have HL:Hid (∀(j:Nat) v w',row[j]? =some v->MkStep a cs p w p.mv ((s.at1 cs.length i 0).rowPart i row j) w'->Calls Tryz.prog 92 #[.pointer (some ⟨p.b,0,none⟩), .int .i64 0, .agg #[.int .i64 i, .int .i64 0], .int .i64 j, .int .i64 v] w' fun e w''=> ∃x,e= .returned (.tuple #[.int .i64 x, .nilIface])/\MkStep a cs p w p.mv ((s.at1 cs.length i 0).rowPart i row (j+1)) w''/\Turns (fun k _=>p.fp k) w' w''):=hide fun j v w' hv k=>by
    have hj:=(List.getElem?_eq_some_iff.1 hv).1
    refine(mem_lay k.at' (by omega) rfl (n:=i) (k:=j) (by omega) (Sta.part_has hlt f1) (by omega) (rw' j v hv)).mono fun e w'' ⟨e1,e2⟩=>⟨_,e1,?_,e2.turns⟩
    rw[<-Mk.rowPart_succ _ _ _ _ hv]
    exact k.trans e2
   clear hR hc2 cW hnW hrow hg0 rw' f1 f2 H0
   generalize (s.at1 cs.length i 0).setMem ((s.at1 cs.length i 0).mem.give i)=M1 at*
   generalize (s.at1 cs.length i 0).mem.ar.given i=G at*
   have r4i:(row.length:Int)<=4:=by omega
   go_wp2_with fail
   refine HA.out.mono ?_
   rintro e w3 ⟨rfl,h3⟩
   obtain⟨hc3,hfl⟩:=HT.out w3 h3
   obtain⟨q0,q1⟩:=box2 w3 i 0
   obtain⟨W4,hW4⟩: ∃W4,W4=w3.alloc (.cells #[.int .i64 i, .int .i64 0] 88):=⟨_,rfl⟩
   have b4:Below w3.heap.size w3 W4:=by rw[hW4];exact bRf.alloc nL _
   have H4:Hid (MkStep a cs p w p.mv ((s.at1 cs.length i 0).rowPart i row 0) W4):=hide ((HP0.out _ h3).below b4)
   replace hc3:=keep_cell b4 hc3
   rw[<-hW4] at q0 q1
   have hbn: ¬p.fp w3.heap.size:=fun hf=>by have:=hfl _ hf;omega
   clear HA HP0 HT h3 b4 hfl
   go_wp2_with fail
   rw[<-hW4]
   clear hW4
   have HN:=hide hbn
   generalize w3.heap.size=rb at*
   clear hbn
   go_loopw [8,9,28] (fun _ _ x wr=> ∃j:Nat,j<=row.length/\x= .int .i64 j/\MkStep a cs p w p.mv ((s.at1 cs.length i 0).rowPart i row j) wr/\wr.cell? ⟨w.heap.size,2,none⟩=some (.slice ar s.regs.length cr)/\wr.cell? ⟨rb,0,none⟩=some (.int .i64 i)/\wr.cell? ⟨rb,1,none⟩=some (.int .i64 0)) (fun _ _ x _=>row.length - (intOf x).toNat)
   case atStart=>exact⟨0,Nat.zero_le _,rfl,H4.out,hc3,q0,q1⟩
   case round=>
    obtain⟨j,hj,rfl,hk,hc2,p0,p1⟩:=hrel
    by_cases hjl:j<row.length
    ·obtain ⟨v,hv⟩: ∃x,row[j]? =some x:=⟨_,List.getElem?_eq_getElem hjl⟩
     obtain⟨b',off',rfl,cv⟩:=HB.out _ _ hk j v hv
     have jj:(j:Int)<row.length:=by omega
     have HL1:=hide (HL.out j v (wr.drewN 1) hv (hk.below (Below.drewN' 1)))
     have HK2:Hid (∀w',Turns (fun k _=>p.fp k) (wr.drewN 1) w'->w'.cell? ⟨w.heap.size,2,none⟩=some (.slice ar s.regs.length cr)/\w'.cell? ⟨rb,0,none⟩=some (.int .i64 i)/\w'.cell? ⟨rb,1,none⟩=some (.int .i64 0)):=hide fun w' k=>
      ⟨HK.out _ _ _ (keep_cell (Below.drewN' 1) hc2) k,k.keep (keep_cell (Below.drewN' 1) p0) HN.out,k.keep (keep_cell (Below.drewN' 1) p1) HN.out⟩
     clear hk hc2 H4 hc3 q0 q1 hv
     go_wp2_with fail
     go_region_with (go_at_call 92;refine HL1.out.mono ?_;rintro e w5 ⟨x,rfl,h5,h6⟩)
     all_goals
      obtain⟨d2,d0,d1⟩:=HK2.out _ h6
      have H5:=hide h5
      clear h5 h6 HK2 HL1
      go_wp2
      go_roundw
     case rel=>exact⟨j+1,by omega,by go_num,H5.out,d2,d0,d1⟩
     case measure=>simp[intOf];omega
    ·obtain rfl:j=row.length:=by omega
     rw[HE.out] at hk
     have H5:=hide hk
     clear hk HL HB p0 p1 H4 hc3 q0 q1
     go_wp2
     go_roundw
     case rel=>exact⟨i+1,by omega,by go_num,H5.out,hc2⟩
     case measure=>simp[intOf];omega
  ·obtain rfl:i=s.init.length:=by omega
   have HR:=hide hR
   clear hR f2 e1 e2
   have ri:(s.regs.length:Int)<=6:=by omega
   go_wp2_with fail
   go_loopw [10,11,45] (fun _ _ x wr=> ∃t:Nat,t<=s.regs.length/\x= .int .i64 t/\Hid (FillRel a cs p s w s.init.length t wr)) (fun _ _ x _=>s.regs.length - (intOf x).toNat)
   case atStart=>exact⟨0,Nat.zero_le _,rfl,HR.out⟩
   case round=>
    obtain⟨t,ht,rfl,HR2⟩:=hrel
    by_cases htl:t<s.regs.length
    ·obtain ⟨row,hrow⟩: ∃x,s.regs[t]? =some x:=⟨_,List.getElem?_eq_getElem htl⟩
     obtain⟨b,off,adr,capr,hq,cW,hcp,hnW⟩:=HX.out.st.regs t row hrow
     obtain rfl:ar=some ⟨b,off,none⟩:=hq
     have c0:=keep_cell (HX.out.below HR2.out) cW
     have hn:=hnW.below (HX.out.below HR2.out)
     obtain⟨r8, -⟩:=rowOk_at f4 hrow
     have ti:(t:Int)<s.regs.length:=by omega
     have t6:(t:Int)<6:=by omega
     have HE:Hid (∀w',MkStep a cs p w p.mv ((s.at1 cs.length s.init.length t).setRegs t 0 row) w'->FillRel a cs p s w s.init.length (t+1) w'):=hide fun w' k=>by rw[Sta.at1_regs hrow] at k;exact k
     have hu:(Tryz.prog).underlying 23=some (.slice 3):=Tryz.underlying23
     have hz:((Tryz.prog).info? 3).map (·.size)=some 1:=by kernel_rfl
     cases hL:row.length with
     | zero=>
      have HE2:Hid (FillRel a cs p s w s.init.length (t+1) wr):=hide (HE.out _ (by rw[List.eq_nil_of_length_eq_zero hL];exact HR2.out))
      rw[hL] at c0
      clear hn hnW cW hrow HE HR2 HR r8
      go_wp2_with (refine wpList_copy_none (by rfl) _ _ 23 3 (by rfl) _ 8 8 adr capr (by rfl) (by rfl) hu hz ?_)
      go_roundw
      case rel=>exact⟨t+1,by omega,by go_num,HE2⟩
      case measure=>simp[intOf];omega
     | succ n=>
      obtain⟨v0,hv0⟩: ∃x,row[0]? =some x:=⟨_,List.getElem?_eq_getElem (by omega)⟩
      obtain⟨b2,off2,rfl, -⟩:=hn 0 v0 hv0
      have HE2:Hid (FillRel a cs p s w s.init.length (t+1) (wr.setCells p.b (585+t*9) (row.map (Value.int .i64)))):=hide (HE.out _ (HR2.out.trans (MkAt.setRegs (by omega) row 0 (by omega) HR2.out.at')))
      have s1: ∀j v,(row.map (Value.int .i64))[j]? =some v->wr.cell? ((⟨b2,off2,none⟩:Addr).add j)=some v:=fun j v hj=>by
       rw[List.getElem?_map] at hj
       cases hx:row[j]? with
       |none=>rw[hx] at hj;cases hj
       | some x=>
        rw[hx] at hj;cases hj
        obtain⟨_,_,e,c⟩:=hn j x hx
        cases e
        rw[Addr.add_lit];exact c
      have s2: ∀j,j<(row.map (Value.int .i64)).length->(wr.cell? ⟨p.b,585+t*9+j,none⟩).isSome=true:=fun j hj=>by
       rw[List.length_map] at hj
       have:=HR2.out.at'.reg t j (by omega) (by omega)
       rw[show wr.cell? ⟨p.b,585+t*9+j,none⟩=_ from this];rfl
      have s3: ∀j,j<(row.map (Value.int .i64)).length->wr.frozen? ⟨p.b,585+t*9+j,none⟩=false:=fun j hj=>by
       rw[List.length_map] at hj
       exact HR2.out.at'.frozen _ (by omega) (by omega)
      have s4: ∀v∈row.map (Value.int .i64),v.oneCell'=true:=fun v hv=>by obtain⟨x,_,rfl⟩:=List.mem_map.1 hv;rfl
      have s5:(row.map (Value.int .i64)).length=Nat.min row.length 8:=by rw[List.length_map];exact(Nat.min_eq_left r8).symm
      have G1:=hide s1
      have G2:=hide s2
      have G3:=hide s3
      have G4:=hide s4
      have G5:=hide s5
      clear hn hnW cW hrow HE HR2 HR s1 s2 s3 s4 s5 hv0 hL
      go_wp2_with (refine wpList_copy_cells (by rfl) _ _ 23 3 (by rfl) p.b (585+t*9) 8 8 ⟨b2,off2,none⟩ row.length capr (row.map (Value.int .i64)) (by rfl) (by rfl) hu hz G5.out G1.out G2.out G3.out G4.out ?_)
      go_roundw
      case rel=>exact⟨t+1,by omega,by go_num,HE2⟩
      case measure=>simp[intOf];omega
    ·obtain rfl:t=s.regs.length:=by omega
     have HZ:Hid (MkStep a cs p w p.mv (s.mach cs.length) wr):=hide (by rw[<-Sta.at1_end];exact HR2.out)
     clear HR2 HR
     go_wp2
     go_end0
     exact⟨rfl,HZ⟩
end
section
open Go.RowKit Go.Extern.Stop Go.Stop Go.Extern Go.Maps Go.WideMaps Go.Sort
variable {w w':World} {b b' o:Nat}
theorem fold_get: ∀(l:List Value) (n off:Nat) (Z:Array Value) (k:Nat),((l.zipIdx n).foldl (fun acc (p:Value×Nat)=>acc.setIfInBounds (off+p.2) p.1) Z)[k]? =if off+n<=k/\k<off+n+l.length/\k<Z.size then l[k - (off+n)]? else Z[k]?
 | [],n,off,Z,k=>by rw[if_neg (by simp;omega)];rfl
 | x ::l,n,off,Z,k=>by
  rw[List.zipIdx_cons,List.foldl_cons,fold_get l (n+1) off]
  rw[Array.size_setIfInBounds,List.length_cons]
  by_cases h1:off+(n+1)<=k/\k<off+(n+1)+l.length/\k<Z.size
  ·rw[if_pos h1,if_pos (by omega),show k - (off+n)=(k - (off+(n+1)))+1 by omega,List.getElem?_cons_succ]
  ·rw [if_neg h1,Array.getElem?_setIfInBounds]
   by_cases h2:off+n=k
   ·subst h2
    rw[if_pos rfl]
    by_cases h3:off+n<Z.size
    ·rw[if_pos h3,if_pos (by omega),Nat.sub_self];rfl
    ·rw[if_neg h3,if_neg (by omega),Array.getElem?_eq_none (by omega)]
   ·rw[if_neg h2,if_neg (by omega)]
theorem fold_size: ∀(l:List Value) (n off:Nat) (Z:Array Value),((l.zipIdx n).foldl (fun acc (p:Value×Nat)=>acc.setIfInBounds (off+p.2) p.1) Z).size=Z.size
 | [],n,off,Z=>rfl
 |x::l,n,off,Z=>by rw[List.zipIdx_cons,List.foldl_cons,fold_size l (n+1) off,Array.size_setIfInBounds]
theorem built_any(parts:List (Nat×Value)):Tryz.prog.built 138 parts=Instr.fill ((#[(0,584),(584,1),(585,54),(639,1),(640,1)]:Array (Nat×Nat))[·]?) Tryz.zeroCells138 parts:=by kernel_rfl
theorem zeroK:Tryz.zeroCells138=(((.int .i64 0::List.replicate 256 (.int .u32 0))++List.replicate 64 (.bool false)++List.replicate 263 (.int .i64 0))++(.slice none 0 0::List.replicate 54 (.int .i64 0))++[.slice none 0 0, .int .i64 0]:List Value).toArray:=by kernel_rfl
theorem tail_len(A:List Value)(x z y u:Value)(n:Nat):((A++(x::List.replicate n z))++[y,u]).length=A.length+n+3:=by
 rw[List.length_append,List.length_append,List.length_cons,List.length_replicate];simp only[List.length_cons,List.length_nil];omega
theorem tail_reg(A:List Value)(x z y u:Value)(n k:Nat)(h1:A.length+1<=k)(h2:k<A.length+1+n):((A++(x::List.replicate n z))++[y,u])[k]? =some z:=by
 rw[List.getElem?_append_left (by rw[List.length_append,List.length_cons,List.length_replicate];omega),List.getElem?_append_right (by omega),show k - A.length=(k - A.length - 1)+1 by omega,List.getElem?_cons_succ,List.getElem?_replicate,if_pos (by omega)]
theorem tail_one(A:List Value)(x z y u:Value)(n k:Nat)(h1:k=A.length+1+n):((A++(x::List.replicate n z))++[y,u])[k]? =some y:=by
 have e:(A++(x::List.replicate n z)).length=k:=by rw[List.length_append,List.length_cons,List.length_replicate];omega
 rw[List.getElem?_append_right (by omega),e,Nat.sub_self];rfl
theorem tail_two(A:List Value)(x z y u:Value)(n k:Nat)(h1:k=A.length+1+n+1):((A++(x::List.replicate n z))++[y,u])[k]? =some u:=by
 have e:(A++(x::List.replicate n z)).length+1=k:=by rw[List.length_append,List.length_cons,List.length_replicate];omega
 rw[List.getElem?_append_right (by omega),show k - (A++(x::List.replicate n z)).length=1 by omega];rfl
theorem zeroK_at: ∃A:List Value,A.length=584/\Tryz.zeroCells138=((A++(.slice none 0 0::List.replicate 54 (.int .i64 0)))++[.slice none 0 0, .int .i64 0]:List Value).toArray:=⟨_,rows_len _ _ _ _ _ _ _,zeroK⟩
theorem zeroK_size:Tryz.zeroCells138.size=641:=by
 obtain⟨A,hA,e⟩:=zeroK_at
 rw[e,List.size_toArray,tail_len,hA]
theorem zeroK_reg(k:Nat)(h1:585<=k)(h2:k<639):Tryz.zeroCells138[k]? =some (.int .i64 0):=by
 obtain⟨A,hA,e⟩:=zeroK_at
 rw[e,List.getElem?_toArray,tail_reg _ _ _ _ _ _ _ (by omega) (by omega)]
theorem zeroK_marks:Tryz.zeroCells138[639]? =some (.slice none 0 0):=by
 obtain⟨A,hA,e⟩:=zeroK_at
 rw[e,List.getElem?_toArray,tail_one _ _ _ _ _ _ _ (by omega)]
theorem zeroK_faults:Tryz.zeroCells138[640]? =some (.int .i64 0):=by
 obtain⟨A,hA,e⟩:=zeroK_at
 rw[e,List.getElem?_toArray,tail_two _ _ _ _ _ _ _ (by omega)]
theorem fill_cons(place:Nat->Option (Nat×Nat))(cells:Array Value)(i:Nat)(v:Value)(rest:List (Nat×Value))(off size:Nat)(hp:place i=some (off,size))(h1:v.cells.size=size)(h2:off+size<=cells.size):
  Instr.fill place cells ((i,v)::rest)=Instr.fill place ((v.cells.toList.zipIdx 0).foldl (fun acc (p:Value×Nat)=>acc.setIfInBounds (off+p.2) p.1) cells) rest:=by
 rw[Instr.fill,hp]
 dsimp only
 rw[if_neg (by simp[h1];omega), <-Array.foldl_toList,Array.toList_zipIdx]
theorem mach_made(N:Array Value)(hN:N.size=584)(v:Value)(hv:v.cells=#[v]): ∃C:Array Value,Tryz.prog.built 138 [(0, .agg N),(1,v)]=some C/\C.size=641/\(∀k,k<584->C[k]? =N[k]?)/\C[584]? =some v/\(∀k,585<=k->k<639->C[k]? =some (.int .i64 0))/\C[639]? =some (.slice none 0 0)/\C[640]? =some (.int .i64 0):=by
 have hl:N.toList.length=584:=by rw[Array.length_toList];exact hN
 have key: ∀k,((N.toList.zipIdx 0).foldl (fun acc (p:Value×Nat)=>acc.setIfInBounds (0+p.2) p.1) Tryz.zeroCells138)[k]? =if k<584 then N[k]? else Tryz.zeroCells138[k]? :=fun k=>by
  rw[fold_get,zeroK_size,hl]
  by_cases h:k<584
  ·rw[if_pos (by omega),if_pos h,Nat.add_zero,Nat.sub_zero,Array.getElem?_toList]
  ·rw[if_neg (by omega),if_neg h]
 refine⟨((N.toList.zipIdx 0).foldl (fun acc (p:Value×Nat)=>acc.setIfInBounds (0+p.2) p.1) Tryz.zeroCells138).setIfInBounds 584 v,?_,?_,fun k hk=>?_,?_,fun k h1 h2=>?_,?_,?_⟩
 ·rw[built_any]
  refine(fill_cons _ _ 0 (.agg N) [(1,v)] 0 584 ?_ hN ?_).trans ?_
  ·rfl
  ·rw[zeroK_size];decide
  refine(fill_cons _ _ 1 v [] 584 1 ?_ ?_ ?_).trans ?_
  ·rfl
  ·rw[hv];rfl
  ·rw[fold_size,zeroK_size];decide
  ·rw[hv];rfl
 ·rw[Array.size_setIfInBounds,fold_size,zeroK_size]
 ·rw[Array.getElem?_setIfInBounds,if_neg (by omega),key,if_pos hk]
 ·rw[Array.getElem?_setIfInBounds,if_pos rfl,if_pos (by rw[fold_size,zeroK_size];decide)]
 ·rw[Array.getElem?_setIfInBounds,if_neg (by omega),key,if_neg (by omega),zeroK_reg k h1 h2]
 ·rw[Array.getElem?_setIfInBounds,if_neg (by omega),key,if_neg (by omega),zeroK_marks]
 ·rw[Array.getElem?_setIfInBounds,if_neg (by omega),key,if_neg (by omega),zeroK_faults]
theorem ArAt.move{s:Ar}(h:ArAt b o s w)(hc: ∀k,k<o+385->w'.cell? ⟨b',k,none⟩=w.cell? ⟨b,k,none⟩)(hf: ∀k,w'.frozen? ⟨b',k,none⟩=false):ArAt b' o s w' where
 small:=h.small
 size:=by rw[hc _ (by omega)];exact h.size
 words c k h1 h2:=by rw[hc _ (by omega)];exact h.words c k h1 h2
 range:=h.range
 there c h1:=by rw[hc _ (by omega)];exact h.there c h1
 given c h1:=by rw[hc _ (by omega)];exact h.given c h1
 bound:=h.bound
 frozen k _:=hf _
theorem LnAt.move{l:List Wt}(h:LnAt b o l w)(hc: ∀k,k<o+33->w'.cell? ⟨b',k,none⟩=w.cell? ⟨b,k,none⟩)(hf: ∀k,w'.frozen? ⟨b',k,none⟩=false):LnAt b' o l w' where
 le:=h.le
 len:=by rw[hc _ (by omega)];exact h.len
 row i k h1 h2:=by rw[hc _ (by omega)];exact h.row i k h1 h2
 frozen k _:=hf _
theorem MmAt.move{b b':Nat}{s:Rm}(h:MmAt b s w)(hc: ∀k,k<584->w'.cell? ⟨b',k,none⟩=w.cell? ⟨b,k,none⟩)(hf: ∀k,w'.frozen? ⟨b',k,none⟩=false):MmAt b' s w' where
 ar:=h.ar.move (fun k hk=>hc k (by omega)) hf
 few:=h.few
 nt:=by rw[hc _ (by omega)];exact h.nt
 line t ht:=(h.line t ht).move (fun k hk=>hc k (by have:=h.few;omega)) hf
 rest o h1 h2:=by rw[hc _ h2];exact h.rest o h1 h2
end
end Go.Proofs.YtnoigmdmgdcliaaGreatDoor
