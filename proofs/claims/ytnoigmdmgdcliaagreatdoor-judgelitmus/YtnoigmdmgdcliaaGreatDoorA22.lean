import Derived.Test.YtnoigmdmgdcliaaGreatDoorA18
import Derived.Laws.AppendOwn
import Derived.Lib.LazyBuf
namespace Go.Proofs.YtnoigmdmgdcliaaGreatDoor
set_option maxRecDepth 100000
set_option maxHeartbeats 8000000
section
open Go.RowKit
variable {L:List Ins}
structure Sta where
 cells:Int
 init:List (List Int)
 regs:List (List Int)
def wordOk(x:Int):Bool:=decide (0<=x/\x<4294967296)
def rowOk(longest:Nat)(row:List Int):Bool:=decide (row.length<=longest)&&row.all wordOk
def rowsOk(longest:Nat)(R:List (List Int)):Bool:=R.all (rowOk longest)
noncomputable def codesFrom:Nat->List (List Ins)->Nat×Int
 |_,[]=>(0, -1)
 |i,L::cs=>if(codeFault L).1=0 then codesFrom (i+1) cs else((codeFault L).1,i)
def Sta.fits(s:Sta)(n:Nat):Bool:=(decide ((s.init.length:Int)<=s.cells)&&rowsOk 4 s.init)&&(decide (s.regs.length<=n)&&rowsOk 8 s.regs)
open Classical in
noncomputable def Sta.fault(s:Sta)(cs:List (List Ins)):Nat×Int:=
 if 1<=s.cells/\s.cells<=64/\1<=cs.length/\cs.length<=6/\s.fits cs.length=true then codesFrom 0 cs else(2, -1)
theorem codesFrom_none: ∀(cs:List (List Ins)) (i:Nat),(∀(t:Nat) L,cs[t]? =some L->(codeFault L).1=0)->codesFrom i cs=(0, -1)
 | [],_,_=>rfl
 | L::cs,i,h=>by
  unfold codesFrom
  rw[if_pos (h 0 L rfl)]
  exact codesFrom_none cs (i+1) (fun t L' ht=>h (t+1) L' (by simpa using ht))
theorem codesFrom_hit: ∀(cs:List (List Ins)) (i j:Nat) (L:List Ins),cs[j]? =some L->(codeFault L).1≠0->(∀(t:Nat) L',t<j->cs[t]? =some L'->(codeFault L').1=0)->codesFrom i cs=((codeFault L).1,((i+j:Nat):Int))
 | [],_,_,_,h,_,_=>by simp at h
 | M::cs,i,j,L,hL,h1,h2=>by
  unfold codesFrom
  cases j with
  |zero=>simp at hL;subst hL;rw[if_neg h1];rfl
  | succ j=>
   rw[if_pos (h2 0 M (by omega) rfl),codesFrom_hit cs (i+1) j L (by simpa using hL) h1 (fun t L' ht hl=>h2 (t+1) L' (by omega) (by simpa using hl))]
   rw[show i+1+j=i+(j+1) by omega]
theorem faultFrom_zero (l:List Ins): ∀(r:List Ins) (j:Nat),(faultFrom l j r).1=0-> ∀(k:Nat) x,r[k]? =some x->insFault l (j+k) x=0
 | [],_,_,k,x,hx=>by simp at hx
 | y::r,j,h,k,x,hx=>by
  unfold faultFrom at h
  split at h
  ·rename_i h0
   cases k with
   |zero=>simp at hx;subst hx;exact h0
   |succ k=>rw[show j+(k+1)=j+1+k by omega];exact faultFrom_zero l r (j+1) h k x (by simpa using hx)
  ·rename_i h0;exact absurd h h0
theorem insOk_of {i:Nat} {x:Ins} (h:insFault L i x=0):InsOk L x:=by
 unfold insFault at h
 split at h
 ·rename_i h0;exact absurd h h0
 ·rename_i h0
  split at h
  ·cases h
  ·split at h
   ·cases h
   ·rename_i h2
    refine⟨by simpa using h0,fun ht=>?_⟩
    rcases Int.lt_or_le (labelAt L x.to) 0 with h3 |h3
    ·exact absurd ⟨ht,h3⟩ h2
    ·exact h3
theorem codeFault_right(h:(codeFault L).1=0):L.length<=2000/\ ∀(i:Nat) x,L[i]? =some x->InsOk L x:=by
 unfold codeFault at h
 split at h
 ·cases h
 ·rename_i hl
  exact⟨by omega,fun i x hx=>insOk_of (by simpa using faultFrom_zero L L 0 h i x hx)⟩
theorem codesFrom_zero: ∀(cs:List (List Ins)) (i:Nat),(codesFrom i cs).1=0-> ∀(t:Nat) L,cs[t]? =some L->(codeFault L).1=0
 | [],_,_,t,L,h=>by simp at h
 | M::cs,i,h,t,L,ht=>by
  unfold codesFrom at h
  split at h
  ·rename_i h0
   cases t with
   |zero=>simp at ht;subst ht;exact h0
   |succ t=>exact codesFrom_zero cs (i+1) h t L (by simpa using ht)
  ·rename_i h0;exact absurd h h0
theorem right_of{cs:List (List Ins)}(h: ∀(t:Nat) L,cs[t]? =some L->(codeFault L).1=0)(h1:1<=cs.length)(h6:cs.length<=6)(hs: ∀(t:Nat) L,cs[t]? =some L-> ∀(i:Nat) x,L[i]? =some x->x.to.size<=maxLen):Right cs where
 right t L ht:=by
  obtain⟨h2,h3⟩:=codeFault_right (h t L ht)
  exact⟨h2,fun i x hx=>⟨h3 i x hx,hs t L ht i x hx⟩⟩
 few:=h6
 some':=h1
def rowAt(R:List (List Int))(t r:Nat):Int:=(R.getD t []).getD r 0
def Ar.filled(s:Ar)(R:List (List Int)):Ar where
 size:=s.size
 given c:=if c<R.length then 1 else s.given c
 there c:=if c<R.length then true else s.there c
 words c k:=if c<R.length/\k<4 then rowAt R c k else s.words c k
def Sta.mach(s:Sta)(n:Nat):Mk where
 mem:={ Rm.fresh s.cells.toNat n with ar:=(Rm.fresh s.cells.toNat n).ar.filled s.init }
 regs t r:=rowAt s.regs t r
 pc _:=0
 marks:=[]
 faults:=0
end
section
open Go.RowKit Go.Extern.Stop Go.Stop Go.Extern Go.Maps Go.WideMaps Go.Sort
variable {ad:Option Addr} {w:World} {R:List (List Int)} {cap:Nat}
def rowsAt(ad:Option Addr)(R:List (List Int))(w:World):Prop:= ∀(i:Nat) row,R[i]? =some row-> ∃b off adr cap,ad=some ⟨b,off,none⟩/\w.cell? ⟨b,off+i,none⟩=some (.slice adr row.length cap)/\row.length<=cap/\numsAt adr row w
theorem rowsAt.below{w w':World}(h:rowsAt ad R w)(hb:Below w.heap.size w w'):rowsAt ad R w':=fun i row hr=>by
 obtain⟨b,off,adr,cap,h1,h2,h3,h4⟩:=h i row hr
 exact⟨b,off,adr,cap,h1,keep_cell hb h2,h3,h4.below hb⟩
theorem all_hit{α:Type}{f:α->Bool}{l:List α}{j:Nat}{x:α}(hx:l[j]? =some x)(h:f x=false):l.all f=false:=by
 cases hb:l.all f with
 |false=>rfl
 |true=>rw[List.all_eq_true] at hb;rw[hb x (List.mem_of_getElem? hx)] at h;cases h
theorem all_done{α:Type}{f:α->Bool}{l:List α}(h: ∀(k:Nat) x,k<l.length->l[k]? =some x->f x=true):l.all f=true:=by
 rw[List.all_eq_true]
 intro x hx
 obtain⟨k,hk,rfl⟩:=List.getElem_of_mem hx
 exact h k _ hk (List.getElem?_eq_getElem hk)
theorem allWords_any {l:List Int} (hl:numsAt ad l w) (hlen:l.length<=9223372036854775807):
  Calls Tryz.prog 160 #[.slice ad l.length cap] w fun e w'=>e= .returned (.bool (l.all wordOk))/\w'=w:=by
 have HL:=hide hl
 clear hl
 go_enter Tryz.func160,Tryz.ntmps160
 go_wp2_with fail
 go_loopw [4,7] (fun _ i wr=> ∃j:Nat,j<=l.length/\i= .int .i64 j/\wr=w/\Hid (∀(k:Nat) x,k<j->l[k]? =some x->wordOk x=true)) (fun _ i _=>l.length - (intOf i).toNat)
 case atStart=>exact⟨0,Nat.zero_le _,rfl,rfl,fun k x h=>absurd h (Nat.not_lt_zero _)⟩
 case round=>
  obtain⟨j,hj,rfl,rfl,HJ⟩:=hrel
  by_cases hlt:j<l.length
  ·obtain ⟨x,hx⟩: ∃x,l[j]? =some x:=⟨_,List.getElem?_eq_getElem hlt⟩
   obtain⟨b,off,rfl,c0⟩:=HL.out j x hx
   have ji:(j:Int)<l.length:=by omega
   by_cases h1:x<0
   ·have HR:Hid (l.all wordOk=false):=all_hit hx (decide_eq_false (by omega))
    clear HL HJ hx
    go_wp2
    go_ret
    exact⟨by rw[HR.out];rfl,rfl⟩
   ·by_cases h2:4294967295<x
    ·have HR:Hid (l.all wordOk=false):=all_hit hx (decide_eq_false (by omega))
     clear HL HJ hx
     go_wp2
     go_ret
     exact⟨by rw[HR.out];rfl,rfl⟩
    ·have HR:Hid (∀(k:Nat) x,k<j+1->l[k]? =some x->wordOk x=true):=fun k y hk hy=>by
      by_cases e:k=j
      ·subst e;rw[hx] at hy;cases hy;exact decide_eq_true (by omega)
      ·exact HJ.out k y (by omega) hy
     clear HL HJ hx
     go_wp2
     go_roundw
     case rel=>exact⟨j+1,by omega,by go_num,by first |trivial |rfl,HR⟩
     case measure=>simp[intOf];omega
  ·obtain rfl:j=l.length:=by omega
   have HR:Hid (l.all wordOk=true):=all_done HJ.out
   clear HL HJ
   go_wp2
   go_ret
   exact⟨by rw[HR.out];rfl,rfl⟩
theorem rowsFit_any (hl:rowsAt ad R w) (hlen: ∀(i:Nat) row,R[i]? =some row->row.length<=9223372036854775807) (hR:R.length<=9223372036854775807) (most:Int) (longest:Nat):
  Calls Tryz.prog 86 #[.slice ad R.length cap, .int .i64 most, .int .i64 longest] w fun e w'=>e= .returned (.bool (decide ((R.length:Int)<=most)&&rowsOk longest R))/\w'=w:=by
 have HL:=hide hl
 have HN:=hide hlen
 clear hl hlen
 by_cases hm:(R.length:Int)<=most
 ·rw [decide_eq_true hm]
  have hm':decide (most<(R.length:Int))=false:=by simp;omega
  rw[Bool.true_and]
  go_enter Tryz.func86,Tryz.ntmps86
  go_wp2_with fail
  go_loopw [8,15] (fun _ i wr=> ∃j:Nat,j<=R.length/\i= .int .i64 j/\wr=w/\Hid (∀(k:Nat) x,k<j->R[k]? =some x->rowOk longest x=true)) (fun _ i _=>R.length - (intOf i).toNat)
  case atStart=>exact⟨0,Nat.zero_le _,rfl,rfl,fun k x h=>absurd h (Nat.not_lt_zero _)⟩
  case round=>
   obtain⟨j,hj,rfl,rfl,HJ⟩:=hrel
   by_cases hlt:j<R.length
   ·obtain ⟨row,hx⟩: ∃x,R[j]? =some x:=⟨_,List.getElem?_eq_getElem hlt⟩
    obtain⟨b,off,adr,capr,rfl,c0,hcp,hnr⟩:=HL.out j row hx
    have hrl:=HN.out j row hx
    have HA:=hide (allWords_any (cap:=capr) hnr hrl)
    have ji:(j:Int)<R.length:=by omega
    by_cases h1:row.length<=longest
    ·have h1':(row.length:Int)<=longest:=by omega
     have h1d:decide ((longest:Int)<row.length)=false:=by simp;omega
     cases hwo:row.all wordOk with
     | false=>
      have HR:Hid (rowsOk longest R=false):=all_hit hx (by unfold rowOk;rw[hwo,Bool.and_false])
      rw[hwo] at HA
      clear HL HN HJ hx hnr
      go_wp2_with fail
      refine HA.out.mono ?_
      rintro e w1 ⟨rfl,rfl⟩
      go_wp2
      go_ret
      exact⟨by rw[HR.out];rfl,rfl⟩
     | true=>
      have HR:Hid (∀(k:Nat) x,k<j+1->R[k]? =some x->rowOk longest x=true):=fun k y hk hy=>by
       by_cases e:k=j
       ·subst e;rw[hx] at hy;cases hy;unfold rowOk;rw[hwo,decide_eq_true h1];rfl
       ·exact HJ.out k y (by omega) hy
      rw[hwo] at HA
      clear HL HN HJ hx hnr
      go_wp2_with fail
      refine HA.out.mono ?_
      rintro e w1 ⟨rfl,rfl⟩
      go_wp2
      go_roundw
      case rel=>exact⟨j+1,by omega,by go_num,by first |trivial |rfl,HR⟩
      case measure=>simp[intOf];omega
    ·have HR:Hid (rowsOk longest R=false):=all_hit hx (by unfold rowOk;rw[decide_eq_false h1,Bool.false_and])
     have h1': ¬(row.length:Int)<=longest:=by omega
     have h1d:decide ((longest:Int)<row.length)=true:=by simp;omega
     clear HL HN HJ hx HA hnr
     go_wp2
     go_ret
     exact⟨by rw[HR.out];rfl,rfl⟩
   ·obtain rfl:j=R.length:=by omega
    have HR:Hid (rowsOk longest R=true):=all_done HJ.out
    clear HL HN HJ
    go_wp2
    go_ret
    exact⟨by rw[HR.out];rfl,rfl⟩
 ·rw[decide_eq_false hm,Bool.false_and]
  have hm2:most<(R.length:Int):=by omega
  have hm':decide (most<(R.length:Int))=true:=by simp;omega
  clear HL HN
  go_enter Tryz.func86,Tryz.ntmps86
  go_wp2
  go_ret
  exact⟨rfl,rfl⟩
structure StaPl where
 ai:Option Addr
 ci:Nat
 ar:Option Addr
 cr:Nat
def Sta.val(s:Sta)(q:StaPl):Value:= .agg #[.int .i64 s.cells, .slice q.ai s.init.length q.ci, .slice q.ar s.regs.length q.cr]
structure StaAt(s:Sta)(q:StaPl)(w:World):Prop where
 init:rowsAt q.ai s.init w
 regs:rowsAt q.ar s.regs w
 ci:s.init.length<=q.ci
 cr:s.regs.length<=q.cr
 li:s.init.length<=9223372036854775807
 lr:s.regs.length<=9223372036854775807
 ri: ∀(i:Nat) row,s.init[i]? =some row->row.length<=9223372036854775807
 rr: ∀(i:Nat) row,s.regs[i]? =some row->row.length<=9223372036854775807
theorem StaAt.below{s:Sta}{q:StaPl}{w w':World}(h:StaAt s q w)(hb:Below w.heap.size w w'):StaAt s q w':=⟨h.init.below hb,h.regs.below hb,h.ci,h.cr,h.li,h.lr,h.ri,h.rr⟩
theorem sfits_any{s:Sta}{q:StaPl}(h:StaAt s q w)(n:Nat):
  Calls Tryz.prog 48 #[s.val q, .int .i64 n] w fun e w'=>e= .returned (.bool (s.fits n))/\Below w.heap.size w w':=by
 have hba:Below w.heap.size w (w.alloc (.cells #[.int .i64 s.cells, .slice q.ai s.init.length q.ci, .slice q.ar s.regs.length q.cr] 40)):=bRf.alloc nL _
 have h':=h.below hba
 have H1:=hide (rowsFit_any (cap:=q.ci) h'.init h'.ri h.li s.cells 4)
 have H2:=hide (rowsFit_any (cap:=q.cr) h'.regs h'.rr h.lr n 8)
 have e0:(w.alloc (.cells #[.int .i64 s.cells, .slice q.ai s.init.length q.ci, .slice q.ar s.regs.length q.cr] 40)).cell? ⟨w.heap.size,0,none⟩=some (.int .i64 s.cells):=by simp
 have e1:(w.alloc (.cells #[.int .i64 s.cells, .slice q.ai s.init.length q.ci, .slice q.ar s.regs.length q.cr] 40)).cell? ⟨w.heap.size,1,none⟩=some (.slice q.ai s.init.length q.ci):=by simp
 have e2:(w.alloc (.cells #[.int .i64 s.cells, .slice q.ai s.init.length q.ci, .slice q.ar s.regs.length q.cr] 40)).cell? ⟨w.heap.size,2,none⟩=some (.slice q.ar s.regs.length q.cr):=by simp
 have HF:Hid (s.fits n=((decide ((s.init.length:Int)<=s.cells)&&rowsOk 4 s.init)&&(decide ((s.regs.length:Int)<=n)&&rowsOk 8 s.regs))):=by
  show _=_
  unfold Sta.fits
  congr 2
  simp
 rw[HF.out]
 clear h h' HF
 unfold Sta.val
 generalize (decide ((s.init.length:Int)<=s.cells)&&rowsOk 4 s.init)=c1 at*
 generalize (decide ((s.regs.length:Int)<=n)&&rowsOk 8 s.regs)=c2 at*
 generalize hw:w.alloc (.cells #[.int .i64 s.cells, .slice q.ai s.init.length q.ci, .slice q.ar s.regs.length q.cr] 40)=W at*
 cases c1 with
 | false=>
  go_enter Tryz.func48,Tryz.ntmps48
  go_wp2_with fail
  clear hw
  refine H1.out.mono ?_
  rintro e w1 ⟨rfl,rfl⟩
  go_wp2
  go_ret
  exact⟨rfl,hba⟩
 | true=>
  go_enter Tryz.func48,Tryz.ntmps48
  go_wp2_with fail
  clear hw
  refine H1.out.mono ?_
  rintro e w1 ⟨rfl,rfl⟩
  go_wp2_with fail
  refine H2.out.mono ?_
  rintro e w2 ⟨rfl,rfl⟩
  go_wp2
  go_ret
  exact⟨by simp,hba⟩
end
section
open Go.RowKit Go.Extern.Stop Go.Stop Go.Extern Go.Maps Go.WideMaps Go.Sort
variable {w:World} {l:List Ins} {v:Value} {a:Nat->Addr} {base:Nat}
def icell(x:Ins):List Value:=[.string x.op, .int .i64 x.a, .int .i64 x.b, .int .i64 x.c, .string x.to]
def icells(l:List Ins):List Value:=l.flatMap icell
theorem icells_len(l:List Ins):(icells l).length=l.length*5:=by
 induction l with
 |nil=>rfl
 | cons x l ih=>
  show(icell x++icells l).length=_
  rw[List.length_append,ih,List.length_cons]
  show 5+_=_
  omega
theorem icells_at: ∀(l:List Ins) (i j:Nat) (x:Ins),l[i]? =some x->j<5->(icells l)[i*5+j]? =(icell x)[j]?
 | [],i,j,x,h,_=>by simp at h
 | y::l,0,j,x,h,hj=>by
  cases h
  show(icell _++icells l)[0*5+j]? =_
  rw[List.getElem?_append_left (by show 0*5+j<5;omega),Nat.zero_mul,Nat.zero_add]
 | y::l,i+1,j,x,h,hj=>by
  show(icell y++icells l)[(i+1)*5+j]? =_
  rw[List.getElem?_append_right (by show 5<=_;omega),show(i+1)*5+j - (icell y).length=i*5+j by show _ - 5=_;omega]
  exact icells_at l i j x (by simpa using h) hj
theorem icells_one: ∀u∈icells l,u.oneCell'=true:=fun u hu=>by
 obtain⟨x, -,h⟩:=List.mem_flatMap.1 hu
 simp only[icell,List.mem_cons,List.not_mem_nil,or_false] at h
 rcases h with rfl |rfl |rfl |rfl |rfl <;> rfl
theorem insAt_cells{b off:Nat}(h:insAt (some ⟨b,off,none⟩) l w)(k:Nat)(u:Value)(hu:(icells l)[k]? =some u):w.cell? ⟨b,off+k,none⟩=some u:=by
 have hk:=(List.getElem?_eq_some_iff.1 hu).1
 rw[icells_len] at hk
 obtain⟨x,hx⟩: ∃x,l[k / 5]? =some x:=⟨_,List.getElem?_eq_getElem (by omega)⟩
 obtain⟨b',off',e,h0,h1,h2,h3,h4⟩:=h _ x hx
 cases e
 have e:=icells_at l (k / 5) (k % 5) x hx (Nat.mod_lt _ (by decide))
 rw[show k / 5*5+k % 5=k by omega,hu] at e
 have h5:k % 5<5:=Nat.mod_lt _ (by decide)
 rw[show off+k=off+k / 5*5+k % 5 by omega]
 generalize k % 5=j at*
 match j,h5,e with
 |0,_,e=>cases e;exact h0
 |1,_,e=>cases e;exact h1
 |2,_,e=>cases e;exact h2
 |3,_,e=>cases e;exact h3
 |4,_,e=>cases e;exact h4
theorem insAt_of_icells{e:TypeId}(h:w.ownsRow base e 5 v l.length (icells l)): ∃ad cap,v= .slice ad l.length cap/\l.length<=cap/\cap<=maxLen/\insAt ad l w:=by
 obtain⟨g,c,rfl,h1,h2,h3⟩:=ownsRow_shape h
 refine⟨g,c,rfl,h1,h2,fun i x hx=>?_⟩
 have hi:=(List.getElem?_eq_some_iff.1 hx).1
 have key: ∀j,j<5-> ∀u,(icell x)[j]? =some u-> ∃b off,g=some ⟨b,off,none⟩/\w.cell? ⟨b,off+(i*5+j),none⟩=some u:=fun j hj u hu=>by
  rw[<-icells_at l i j x hx hj] at hu
  obtain⟨gg,e,hc⟩:=h3 _ _ hu
  exact⟨gg,0,e,by rw[Nat.zero_add];exact hc⟩
 obtain⟨b,off,rfl,k0⟩:=key 0 (by decide) _ rfl
 obtain⟨_,_,e1,k1⟩:=key 1 (by decide) _ rfl
 obtain⟨_,_,e2,k2⟩:=key 2 (by decide) _ rfl
 obtain⟨_,_,e3,k3⟩:=key 3 (by decide) _ rfl
 obtain⟨_,_,e4,k4⟩:=key 4 (by decide) _ rfl
 cases e1;cases e2;cases e3;cases e4
 exact⟨b,off,rfl,k0,k1,k2,k3,k4⟩
theorem instrInfo: ∃i,(Tryz.prog).info? 57=some i/\i.zero=some (.agg #[.string ⟨#[]⟩, .int .i64 0, .int .i64 0, .int .i64 0, .string ⟨#[]⟩])/\i.size=5/\i.bytes=56:=info_parts (by kernel_rfl)
theorem cloneI_any {ad:Option Addr} {cap:Nat} (h:insAt ad l w) (hl:l.length<=2000) (hn:ad=none->l=[]):
  Calls Tryz.prog 89 #[.slice ad l.length cap] w fun e w'=> ∃ad' cap',e= .returned (.slice ad' l.length cap')/\l.length<=cap'/\cap'<=maxLen/\insAt ad' l w'/\(∀b off,ad'=some ⟨b,off,none⟩->w.heap.size<=b/\b<w'.heap.size)/\Below w.heap.size w w':=by
 have q22: ∀(w:World) (a:Option Addr) (n c:Nat),(binOp .eql 58 (.slice a n c) (.slice none 0 0)).run Tryz.prog w= .ok (.bool a.isNone) w:=fun w a n c=>Go.run_eql_slice_nil w _ 57 a n c Tryz.underlying58
 cases ad with
 | none=>
  obtain rfl:=hn rfl
  clear h hl hn
  go_enter Tryz.func89,Tryz.ntmps89
  go_wp2
  go_ret
  exact⟨none,0,rfl,Nat.le_refl _,Nat.zero_le _,fun i x hx=>(by simp at hx),(fun b off e=>nomatch e),Below.refl _ _⟩
 | some x=>
  have HC:Hid (∀(k:Nat) u,(icells l)[k]? =some u->w.cell? (x.add k)=some u):=fun k u hu=>by
   have hk:=(List.getElem?_eq_some_iff.1 hu).1
   rw[icells_len] at hk
   obtain⟨y,hy⟩: ∃y,l[0]? =some y:=⟨_,List.getElem?_eq_getElem (by omega)⟩
   obtain⟨b,off,e, -⟩:=h 0 y hy
   cases e
   rw[Addr.add_lit]
   exact insAt_cells h k u hu
  obtain⟨ri,hri,hrz,hrs,hrb⟩:=instrInfo
  clear h hn
  go_enter Tryz.func89,Tryz.ntmps89
  go_wp2_with (at_builtin;refine wpList_append_own _ rfl _ _ 58 rfl w.heap.size 57 ri (.agg #[.string ⟨#[]⟩, .int .i64 0, .int .i64 0, .int .i64 0, .string ⟨#[]⟩]) 5 56 Tryz.underlying58 hri hrz hrs hrb rfl (by decide) _ _ _ rfl (World.ownsRow_made w #[] 0 nL (Nat.zero_le _) rfl) x l.length cap (icells l) rfl ?qc1 ?qc2 ?qc3 ?qc4 ?qc5 ?qc6 ?_)
  case qc1=>exact icells_len l
  case qc2=>
   intro j u hj
   exact keep_cell (bRf.alloc nL _) (HC.out j u hj)
  case qc3=>exact icells_one
  case qc4=>unfold maxLen;omega
  case qc5=>omega
  case qc6=>simp
  intro v' w1 hown hgrow hnil
  have HB:Below w.heap.size w w1:=((Below.refl _ w).alloc nL _).grown hgrow (by simp) (by intro k hk;simp[Value.ownBlock] at hk;omega)
  obtain⟨ad',cap',rfl,h1,h2,h3⟩:=insAt_of_icells (l:=l) (by simpa using hown)
  have h4: ∀b off,ad'=some ⟨b,off,none⟩->w.heap.size<=b/\b<w1.heap.size:=fun b off e=>hown.lt b (by rw[e];rfl)
  clear hown hgrow hnil
  go_wp2
  go_ret
  exact⟨ad',cap',rfl,h1,h2,h3,h4,HB⟩
theorem cloneM_any {l:List (Nat×Int)} (h:w.ownsRow base 246 2 v l.length (markCells l)) (hl:l.length<=1000):
  Calls Tryz.prog 145 #[v] w fun e w'=> ∃v',e= .returned v'/\w'.ownsRow w.heap.size 246 2 v' l.length (markCells l)/\Below w.heap.size w w':=by
 have q22: ∀(w:World) (a:Option Addr) (n c:Nat),(binOp .eql 136 (.slice a n c) (.slice none 0 0)).run Tryz.prog w= .ok (.bool a.isNone) w:=fun w a n c=>Go.run_eql_slice_nil w _ 246 a n c Tryz.underlying136
 rcases h with⟨hlen,⟨rfl,h0⟩ |⟨g,cap,cur,rfl,hb,hg,h1,h2,h3,h4⟩⟩
 ·go_enter Tryz.func145,Tryz.ntmps145
  go_wp2
  go_ret
  exact⟨_,rfl,⟨hlen, .inl ⟨rfl,h0⟩⟩,Below.refl _ _⟩
 ·have hown:w.ownsRow base 246 2 (.slice (some ⟨g,0,none⟩) l.length cap) l.length (markCells l):=⟨hlen, .inr ⟨g,cap,cur,rfl,hb,hg,h1,h2,h3,h4⟩⟩
  have HC:Hid (∀j u,(markCells l)[j]? =some u->w.cell? ⟨g,j,none⟩=some u):=fun j u hj=>by
   obtain⟨g',c',e, -, -,hk⟩:=ownsRow_shape hown
   obtain⟨g2,e2,hc⟩:=hk j u hj
   cases e;cases e2;exact hc
  obtain⟨ri,hri,hrz,hrs,hrb⟩:=markInfo
  clear hlen hb hg h1 h2 h3 h4 hown
  go_enter Tryz.func145,Tryz.ntmps145
  go_wp2_with (at_builtin;refine wpList_append_own _ rfl _ _ 136 rfl w.heap.size 246 ri (.agg #[.int .i64 0, .int .i64 0]) 2 16 Tryz.underlying136 hri hrz hrs hrb rfl (by decide) _ _ _ rfl (World.ownsRow_made w #[] 0 nL (Nat.zero_le _) rfl) ⟨g,0,none⟩ l.length cap (markCells l) rfl ?qc1 ?qc2 ?qc3 ?qc4 ?qc5 ?qc6 ?_)
  case qc1=>exact markCells_length l
  case qc2=>
   intro j u hj
   rw[Addr.add_lit,Nat.zero_add]
   exact keep_cell (bRf.alloc nL _) (HC.out j u hj)
  case qc3=>
   intro u hu
   obtain⟨x, -,h⟩:=List.mem_flatMap.1 hu
   simp only[markCell,List.mem_cons,List.not_mem_nil,or_false] at h
   rcases h with rfl |rfl <;> rfl
  case qc4=>unfold maxLen;omega
  case qc5=>omega
  case qc6=>simp
  intro v' w1 hown hgrow hnil
  have HB:Below w.heap.size w w1:=((Below.refl _ w).alloc nL _).grown hgrow (by simp) (by intro k hk;simp[Value.ownBlock] at hk;omega)
  obtain ⟨ad',cap',rfl⟩: ∃ad' cap',v'=Value.slice ad' l.length cap':=by
   obtain⟨g,c,e,_⟩:=ownsRow_shape hown
   exact⟨g,c,by first |exact e |(rw[e];simp)⟩
  have HO:Hid (w1.ownsRow w.heap.size 246 2 (.slice ad' l.length cap') l.length (markCells l)):=hide (by simpa using hown)
  clear hown hgrow hnil
  go_wp2
  go_ret
  exact⟨_,rfl,HO.out,HB⟩
theorem Env.e(h:Env a w):EnvE a w:=⟨fun i hi=>by
 have:=h.cell i (by unfold okI;omega)
 match i,hi,this with
 |0,hi,_=>exact absurd hi.1 (by decide)
 |1,_,h=>exact h
 |2,_,h=>exact h
 |3,_,h=>exact h
 |4,_,h=>exact h⟩
theorem bare_any{f:Nat×Int}{B:Nat}(hE:Env a w)(hf:f.1≠0)(h:errIs a f v w B):
  Calls Tryz.prog 88 #[v] w fun e w'=>e= .returned (xval a f.1)/\Below w.heap.size w w':=by
 have hE0:Env a (w.alloc (.cells #[.pointer none] 141)):=hE.below fun k hk=>Below.heap_alloc _ _ _ hk
 rcases h with⟨h0, -⟩ |⟨-, -,rfl⟩ |⟨-,j,N, -,hN,rfl,c0,c1⟩
 ·exact absurd h0 hf
 ·obtain⟨k,hk⟩: ∃k,f.1=k+1:=⟨f.1 - 1,by omega⟩
  rw[hk]
  show Calls Tryz.prog 88 #[errAt (a k)] w fun e w'=>e= .returned (errAt (a k))/\Below w.heap.size w w'
  have H0:Hid (∀(t:Addr) (w0:World),w0=w.alloc (.cells #[.pointer none] 141)->Calls Tryz.prog 52 #[errAt (a k), .iface 143 (.pointer (some t))] w0 fun ev w'=>ev= .returned (.bool false)/\Below w0.heap.size w0 w'):=fun t w0 h=>as_miss' (a k) t w0 (by rw[h];exact hE0.handle)
  clear hE hE0 hf hk
  go_enter Tryz.func88,Tryz.ntmps88
  go_wp2_with fail
  refine(H0.out _ _ rfl).mono ?_
  rintro e0 w1 ⟨rfl,hb1⟩
  have hbW:Below w.heap.size w w1:=below_drop hb1
  go_wp2
  go_ret
  exact⟨rfl,hbW⟩
 ·have H0:Hid (∀(w0:World),w0=w.alloc (.cells #[.pointer none] 141)->Calls Tryz.prog 52 #[.iface 141 (.pointer (some ⟨N,0,none⟩)), .iface 143 (.pointer (some ⟨w.heap.size,0,none⟩))] w0 fun ev w'=>ev= .returned (.bool true)/\w'.cell? ⟨w.heap.size,0,none⟩=some (.pointer (some ⟨N,0,none⟩))/\Below w.heap.size w0 w'):=fun w0 h=>as_hit' ⟨N,0,none⟩ ⟨w.heap.size,0,none⟩ (.pointer none) w0 (by rw[h];exact hE0.handle) (by rw[h];simp) (by rw[h];simp)
  have hpl:N<w.heap.size:=World.block_lt_of_cell? w _ c0
  clear hE hE0 hf
  generalize xval a f.1=xv at*
  go_enter Tryz.func88,Tryz.ntmps88
  go_wp2_with fail
  refine(H0.out _ rfl).mono ?_
  rintro e0 w1 ⟨rfl,hct,hb1⟩
  have hbW:Below w.heap.size w w1:=(bRf.alloc nL _).trans hb1
  have q1:w1.cell? ⟨N,1,none⟩=some xv:=by rw[hbW.cell hpl];exact c1
  clear c0 c1 hb1 H0
  go_wp2
  go_ret
  exact⟨rfl,hbW⟩
end
section
open Go.RowKit Go.Extern.Stop Go.Stop Go.Extern Go.Maps Go.WideMaps Go.Sort
variable {w w':World} {cs:List (List Ins)} {L:List Ins} {base:Nat} {v:Value}
def codesAt(ad:Option Addr)(cs:List (List Ins))(w:World):Prop:= ∀(t:Nat) L,cs[t]? =some L-> ∃b off adl capl,ad=some ⟨b,off,none⟩/\w.cell? ⟨b,off+t,none⟩=some (.slice adl L.length capl)/\L.length<=capl/\insAt adl L w/\(adl=none->L=[])
theorem codesAt.below{ad:Option Addr}(h:codesAt ad cs w)(hb:Below w.heap.size w w'):codesAt ad cs w':=fun t L ht=>by
 obtain⟨b,off,adl,capl,h1,h2,h3,h4,h5⟩:=h t L ht
 exact⟨b,off,adl,capl,h1,keep_cell hb h2,h3,insAt_below h4 hb,h5⟩
structure PrX where
 ad:Option Addr
 n:Nat
 cap:Nat
 lb:Nat
def PrX.cells(x:PrX):List Value:=[.slice x.ad x.n x.cap, .map (some x.lb)]
def prCells(l:List PrX):List Value:=l.flatMap PrX.cells
theorem prCells_snoc(l:List PrX)(x:PrX):prCells (l++[x])=prCells l++x.cells:=by simp[prCells]
theorem prCells_at: ∀(l:List PrX) (i j:Nat) (x:PrX),l[i]? =some x->j<2->(prCells l)[i*2+j]? =x.cells[j]?
 | [],i,j,x,h,_=>by simp at h
 | y::l,0,j,x,h,hj=>by
  cases h
  show(PrX.cells _++prCells l)[0*2+j]? =_
  rw[List.getElem?_append_left (by show 0*2+j<2;omega),Nat.zero_mul,Nat.zero_add]
 | y::l,i+1,j,x,h,hj=>by
  show(y.cells++prCells l)[(i+1)*2+j]? =_
  rw[List.getElem?_append_right (by show 2<=_;omega),show(i+1)*2+j - y.cells.length=i*2+j by show _ - 2=_;omega]
  exact prCells_at l i j x (by simpa using h) hj
def PrX.uses(x:PrX)(k:Nat):Prop:=(∃off,x.ad=some ⟨k,off,none⟩)∨x.lb=k
structure PrOk(L:List Ins)(x:PrX)(w:World):Prop where
 n:x.n=L.length
 cap:L.length<=x.cap
 ins:insAt x.ad L w
 map:w.ownsMap Tryz.prog 9 (plainElem Tryz.prog 3) x.lb L.length (setD L L.length)
theorem ownsMap_same{H:Type}{P:Program}{k:TypeId}{R:Value->Option (DataW H×List MemPlace)}{b n:Nat}{D:DataW H}(h:w.ownsMap P k R b n D)(hb:w'.heap[b]? =w.heap[b]?):w'.ownsMap P k R b n D:=by
 obtain⟨es,clock,h1,F,hs,hD⟩:=h
 exact⟨es,clock,by rw[hb];exact h1,F,hs,hD⟩
theorem PrOk.same{x:PrX}(h:PrOk L x w)(hb: ∀k,k<w.heap.size->x.uses k->w'.heap[k]? =w.heap[k]?):PrOk L x w' where
 n:=h.n
 cap:=h.cap
 ins i y hy:=by
  obtain⟨b,off,e,h0,h1,h2,h3,h4⟩:=h.ins i y hy
  have hk:w'.heap[b]? =w.heap[b]? :=hb b (bLt h0) (Or.inl ⟨off,e⟩)
  exact⟨b,off,e,by rw[World.cell?_of_block (w:=w) hk];exact h0,by rw[World.cell?_of_block (w:=w) hk];exact h1,by rw[World.cell?_of_block (w:=w) hk];exact h2,by rw[World.cell?_of_block (w:=w) hk];exact h3,by rw[World.cell?_of_block (w:=w) hk];exact h4⟩
 map:=ownsMap_same h.map (hb _ h.map.lt (Or.inr rfl))
theorem PrOk.below{x:PrX}(h:PrOk L x w)(hb:Below w.heap.size w w'):PrOk L x w':=h.same fun k hk _=>hb.block k hk
structure PrRel(cs:List (List Ins))(base:Nat)(v:Value)(j:Nat)(w:World)(pl:List PrX):Prop where
 len:pl.length=j
 own:w.ownsRow base 189 2 v j (prCells pl)
 ok: ∀(t:Nat) L x,cs[t]? =some L->pl[t]? =some x->PrOk L x w
 ne: ∀x∈pl, ∀k,x.uses k->v.ownBlock≠some k
 lt: ∀x∈pl, ∀k,x.uses k->k<w.heap.size
theorem PrRel.below{j:Nat}{pl:List PrX}(h:PrRel cs base v j w pl)(hb:Below w.heap.size w w'):PrRel cs base v j w' pl:=
 ⟨h.len,ownsRow_block h.own fun k hk=>hb.block k (h.own.lt k hk).2,fun t L x h1 h2=>(h.ok t L x h1 h2).below hb,h.ne,fun x hx k hk=>Nat.lt_of_lt_of_le (h.lt x hx k hk) hb.size⟩
theorem PrRel.snoc {v v':Value} {j:Nat} {pl:List PrX} (h:PrRel cs base v j w pl) (hL:cs[j]? =some L) {x:PrX} (hx:PrOk L x w) (hlt: ∀k,x.uses k->k<w.heap.size) (hne: ∀k,x.uses k->v.ownBlock≠some k) 
  (hown:w'.ownsRow base 189 2 v' (j+1) (prCells pl++x.cells)) (hs:w.heap.size<=w'.heap.size) (hg: ∀b,b<w.heap.size->v.ownBlock≠some b->w'.heap[b]? =w.heap[b]?) (hloc: ∀k,v'.ownBlock=some k->v.ownBlock=some k∨w.heap.size<=k):
  PrRel cs base v' (j+1) w' (pl++[x]) where
 len:=by simp[h.len]
 own:=by rw[prCells_snoc];exact hown
 ok t M y ht hy:=by
  by_cases e:t<pl.length
  ·rw[List.getElem?_append_left e] at hy
   have hm:=List.mem_of_getElem? hy
   exact(h.ok t M y ht hy).same fun k hk hu=>hg k hk (h.ne y hm k hu)
  ·have e2:t=j:=by
    have:=(List.getElem?_eq_some_iff.1 hy).1
    simp[h.len] at this e;omega
   subst e2
   rw[List.getElem?_append_right (by omega),h.len,Nat.sub_self] at hy
   cases hy
   rw[hL] at ht;cases ht
   exact hx.same fun k hk hu=>hg k hk (hne k hu)
 ne y hy k hu e:=by
  rw[List.mem_append,List.mem_singleton] at hy
  rcases hloc k e with e2 |e2
  ·rcases hy with hy |rfl
   ·exact h.ne y hy k hu e2
   ·exact hne k hu e2
  ·rcases hy with hy |rfl
   ·have:=h.lt y hy k hu;omega
   ·have:=hlt k hu;omega
 lt y hy k hu:=by
  rw[List.mem_append,List.mem_singleton] at hy
  rcases hy with hy |rfl
  ·exact Nat.lt_of_lt_of_le (h.lt y hy k hu) hs
  ·exact Nat.lt_of_lt_of_le (hlt k hu) hs
theorem PrRel.pg{a:Nat->Addr}{w:World}{pl:List PrX}(h:PrRel cs base v cs.length w pl)(hE:Env a w)(hR:Right cs): ∃pb pc,v= .slice (some ⟨pb,0,none⟩) cs.length pc/\base<=pb/\Pg a cs pb pc w:=by
 have h1:=hR.some'
 rcases h.own with⟨hlen,⟨-,h0⟩ |⟨g,cap,cur,rfl,hb,hg,h2,h3,h4,h5⟩⟩
 ·omega
 ·refine⟨g,cap,rfl,hb,⟨hE,h2,fun t L ht=>?_,hR.right,hR.few⟩⟩
  have ht':=(List.getElem?_eq_some_iff.1 ht).1
  obtain⟨x,hx⟩: ∃x,pl[t]? =some x:=⟨_,List.getElem?_eq_getElem (by rw[h.len];exact ht')⟩
  have hk:=h.ok t L x ht hx
  obtain⟨g',c',e, -, -,hcell⟩:=ownsRow_shape h.own
  have k0:=prCells_at pl t 0 x hx (by decide)
  have k1:=prCells_at pl t 1 x hx (by decide)
  obtain⟨g2,e2,c0⟩:=hcell _ _ k0
  obtain⟨g3,e3,c1⟩:=hcell _ _ k1
  cases e;cases e2;cases e3
  exact⟨x.ad,x.cap,x.lb,by rw[<-hk.n];exact c0,hk.cap,c1,hk.ins,hk.map⟩
theorem progInfo: ∃i,(Tryz.prog).info? 189=some i/\i.zero=some (.agg #[.slice none 0 0, .map none])/\i.size=2/\i.bytes=32:=info_parts (by kernel_rfl)
end
end Go.Proofs.YtnoigmdmgdcliaaGreatDoor
