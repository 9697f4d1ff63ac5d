import Derived.Test.YtnoigmdmgdcliaaGreatDoorA20
import Derived.Laws.IdiomStrings
import Derived.Test.YtnoigmdmgdcliaaGreatDoorA17
import Derived.ArgAppend
import Derived.Deep.Onto
import Derived.Maps.Own
import Derived.Maps.OwnOps
import Derived.Maps.OwnSet
import Derived.Maps.Views
import Derived.StringKeys
namespace Go.Proofs.YtnoigmdmgdcliaaGreatDoor
set_option maxRecDepth 100000
set_option maxHeartbeats 8000000
section
open Go.RowKit Go.Extern.Stop Go.Stop Go.Extern Go.Maps Go.WideMaps Go.Sort
variable {l:List UInt8} {base:Nat} {v:Value} {w:World}
theorem wkByte: ∃i,(Tryz.prog).info? 5=some i/\i.zero=some (.int .u8 0)/\i.size=1/\i.bytes=1:=info_parts (by kernel_rfl)
def bcells(l:List UInt8):List Value:=l.map fun c=>Value.int .u8 c.toNat
def bytesOwn(w:World)(base:Nat)(v:Value)(l:List UInt8):Prop:=w.ownsRow base 5 1 v l.length (bcells l)
theorem bytesOwn_nil(w:World)(base:Nat):bytesOwn w base (.slice none 0 0) []:=World.ownsRow_nil _ _ _ _
theorem bytesOwn_keep{w w':World}(h:bytesOwn w base v l)(k:Below w.heap.size w w'):bytesOwn w' base v l:=
 ownsRow_block h (fun b hb=>k.block b (h.lt b hb).2)
theorem bytesOwn_open(h:bytesOwn w base v l)(h1:0<l.length): ∃a cap,v= .slice (some a) l.length cap/\ ∀j (hj:j<l.length),w.cell? (a.add j)=some (.int .u8 (l[j].toNat:Int)):=by
 obtain⟨g,c,rfl, -, -,h3⟩:=ownsRow_shape h
 have key: ∀j (hj:j<l.length), ∃gg,g=some ⟨gg,0,none⟩/\w.cell? ⟨gg,j,none⟩=some (.int .u8 (l[j].toNat:Int)):=fun j hj=>h3 j _ (by unfold bcells;rw[List.getElem?_map,List.getElem?_eq_getElem hj];rfl)
 obtain⟨gg,rfl, -⟩:=key 0 h1
 refine⟨_,c,rfl,fun j hj=>?_⟩
 obtain⟨g2,e,hc⟩:=key j hj
 cases e
 rw[Addr.add_lit,Nat.zero_add]
 exact hc
theorem wpList_append_byte{ops:Array Oper}{rest:List Oper}{o:Oper}{a:Act}(w:World){Q:Exit->Act->World->Prop}(hgd:o.guard=none)(s x:Operand) 
  (ho:o.op= .call { callee:= .builtin .append,args:=#[s,x],argTypes:=#[324,324] }) (base:Nat) (l0:List UInt8) (c:UInt8) (v:Value) (ad:Addr) (cap:Nat)
  (hs:a.eval s=v) (hown:bytesOwn w base v l0) (hx:a.eval x= .slice (some ad) 1 cap) (hl:w.cell? (ad.add 0)=some (.int .u8 c.toNat)) (h3:l0.length<=1000000) (hb:base<=w.heap.size)
  (h: ∀v' w',bytesOwn w' base v' (l0++[c])->Below base w w'->wpList Tryz.prog ops Q rest (a.put o.dst v') w'):wpList Tryz.prog ops Q (o::rest) a w:=by
 obtain⟨ri,hri,hrz,hrs,hrb⟩:=wkByte
 refine wpList_append_own_at w hgd s x 324 ho base 5 ri (.int .u8 0) 1 1 Tryz.underlying324 hri hrz hrs hrb rfl (by decide) v l0.length (bcells l0) hs hown ad 1 cap [.int .u8 c.toNat] hx rfl (fun j u hj=>?_) (fun u hu=>?_) (by unfold maxLen;omega) (by omega) hb (fun v' w' h2 hg _ _=>?_)
 ·cases j with
  |zero=>cases hj;exact hl
  |succ j=>simp at hj
 ·obtain rfl:u= .int .u8 c.toNat:=by simpa using hu
  rfl
 ·refine h v' w' ?_ ((Below.refl base w).grown hg hb (fun k hk=>(hown.lt k hk).1))
  unfold bytesOwn bcells
  rw[List.length_append,List.map_append]
  exact h2
theorem vbs_take{l:List Int}{j:Nat}{x:Int}(hx:l[j]? =some x):vbs (l.take (j+1))=vbs (l.take j)++vb x.toNat:=by
 rw[List.take_add_one,hx]
 exact vbs_snoc _ _
theorem vbs_len: ∀{l:List Int},(∀x∈l,0<=x/\x<4611686018427387904)->(vbs l).length<=9*l.length
 | [],_=>Nat.zero_le _
 | x::l,h=>by
  have h1:=h x List.mem_cons_self
  have h2:=vbs_len (l:=l) (fun y hy=>h y (List.mem_cons_of_mem _ hy))
  have e9:(128:Nat) ^ 9=9223372036854775808:=by decide
  have h3:=vb_len 9 x.toNat (by omega) (by decide)
  have e:(vbs (x::l)).length=(vb x.toNat).length+(vbs l).length:=List.length_append
  rw[e,List.length_cons];omega
theorem vbs_take_len{l:List Int}(h: ∀x∈l,0<=x/\x<4611686018427387904)(j:Nat):(vbs (l.take j)).length<=9*j:=by
 have h1:=vbs_len (l:=l.take j) (fun x hx=>h x (List.mem_of_mem_take hx))
 rw[List.length_take] at h1
 omega
theorem key_any {a:Nat->Addr} {cs:List (List Ins)} {p:MkPl} {m:Mk} (h:MkAt a cs p m w) (h1:1<=cs.length) (hr: ∀x∈mkNums cs.length m,0<=x/\x<4611686018427387904) (hlen:(mkNums cs.length m).length<=700):
  Calls Tryz.prog 201 #[.pointer (some ⟨p.b,0,none⟩)] w fun e w'=>e= .returned (.string (keyOf cs.length m))/\Below w.heap.size w w':=by
 have HS:=hide (mkState_any h)
 have hpos:0<(mkNums cs.length m).length:=by
  unfold mkNums
  rw[List.length_append]
  obtain⟨n,hn⟩: ∃n,cs.length=n+1:=⟨cs.length - 1,by omega⟩
  rw[hn]
  show 0<_+(thrsNums m n++thrNums m n).length
  rw[List.length_append]
  have:(thrNums m n).length=9:=rfl
  omega
 unfold keyOf
 clear h h1
 generalize mkNums cs.length m=L at*
 have HR:=hide hr
 clear hr
 go_enter Tryz.func201,Tryz.ntmps201
 go_wp2_with fail
 refine HS.out.mono ?_
 rintro e w1 ⟨v,rfl,hv,hb1⟩
 obtain⟨al,cl,rfl,hla⟩:=numsOwn_open hv hpos
 have HL:=hide hla
 have HB0:Hid (∀w',Below w1.heap.size w1 w'->Below w.heap.size w w'):=hide (fun w' k=>below_step hb1 k)
 clear HS hv hla
 go_wp2_with fail
 go_loopw [3,5,9] (fun b _ i wr=> ∃j:Nat,j<=L.length/\i= .int .i64 j/\Hid (bytesOwn wr w1.heap.size b (vbs (L.take j)))/\Below w1.heap.size w1 wr) (fun _ _ i _=>L.length - (intOf i).toNat)
 case atStart=>exact⟨0,Nat.zero_le _,rfl,bytesOwn_nil _ _,Below.refl _ _⟩
 case round=>
  obtain⟨j,hj,rfl,HO,HB⟩:=hrel
  by_cases hlt:j<L.length
  ·have ji:(j:Int)<L.length:=by omega
   obtain⟨x,hx⟩: ∃x,L[j]? =some x:=⟨_,List.getElem?_eq_getElem hlt⟩
   obtain⟨x0,x1⟩:=HR.out x (List.mem_of_getElem? hx)
   obtain⟨n,rfl⟩:=Int.eq_ofNat_of_zero_le x0
   obtain⟨bb,off,e,c0⟩:=HL.out.below HB j _ hx
   cases e
   have HV:Hid (vbs (L.take j)++vb n=vbs (L.take (j+1))):=hide (vbs_take hx).symm
   have hpl:(vbs (L.take j)).length<=9*j:=vbs_take_len HR.out j
   clear hx
   generalize vbs (L.take j)=pre0 at*
   go_wp2_with fail
   go_loopw [3,5] (fun b k wr=> ∃q:Nat,k= .int .i64 q/\q<4611686018427387904/\Hid (∃pre,bytesOwn wr w1.heap.size b pre/\pre++vb q=vbs (L.take (j+1))/\pre.length<=9*j+20)/\Below w1.heap.size w1 wr) (fun _ k _=>(intOf k).toNat)
   case atStart=>exact⟨n,rfl,by omega,⟨pre0,HO.out,HV.out,by omega⟩,HB⟩
   case round=>
    clear HO HB c0 HV hpl x0 x1
    obtain⟨q,rfl,hq,HO,HB⟩:=hrel
    obtain⟨pre,ho,hp,hpl⟩:=HO.out
    have HO1:=hide ho
    have HP:=hide hp
    clear HO ho hp
    by_cases h128:q<128
    ·have i1: ¬128<=(q:Int):=by omega
     have wu:IntKind.u8.wrap (q:Int)=(q:Int):=by unfold IntKind.wrap;simp[IntKind.bits,IntKind.signed];omega
     have hu:(UInt8.ofNat q).toNat=q:=u8_nat (by omega)
     have hP2:Hid (pre++[UInt8.ofNat q]=vbs (L.take (j+1))):=hide (by rw[<-HP.out,vb_small h128])
     go_wp2_with (at_builtin;refine wpList_append_byte _ rfl _ _ rfl w1.heap.size pre (UInt8.ofNat q) _ _ _ rfl ?q1 rfl ?q2 ?q3 ?q4 ?_)
     case q1=>exact bytesOwn_keep HO1.out (bRf.alloc nL _)
     case q3=>omega
     case q4=>have:=HB.size;simp;omega
     intro v' w2 ho2 hb2
     have HB2:=(HB.alloc HB.size _).trans hb2
     have HO2:Hid (bytesOwn w2 w1.heap.size v' (vbs (L.take (j+1)))):=hide (by rw[<-hP2.out];exact ho2)
     clear ho2 hb2 HO1 HB HP hP2 hu wu h128
     go_wp2
     go_roundw
     case rel=>exact⟨j+1,by omega,by go_num,HO2,HB2⟩
     case measure=>simp[intOf];omega
    ·have i1:128<=(q:Int):=by omega
     have hm:((q:Nat):Int).tmod 128=((q % 128:Nat):Int):=(Int.ofNat_tmod q 128).symm
     have hd:((q:Nat):Int).tdiv 128=((q / 128:Nat):Int):=(Int.ofNat_tdiv q 128).symm
     have hu:(UInt8.ofNat (128+q % 128)).toNat=128+q % 128:=u8_nat (by omega)
     have hP2:Hid ((pre++[UInt8.ofNat (128+q % 128)])++vb (q / 128)=vbs (L.take (j+1))):=hide (by
      rw[<-HP.out,vb_great h128];simp)
     have w8:IntKind.u8.wrap (128+((q % 128:Nat):Int))=128+((q % 128:Nat):Int):=by unfold IntKind.wrap;simp[IntKind.bits,IntKind.signed];omega
     have w64:IntKind.i64.wrap (128+((q % 128:Nat):Int))=128+((q % 128:Nat):Int):=by rw[IntKind.wrap_i64];omega
     have hui:(((UInt8.ofNat (128+q % 128)).toNat:Nat):Int)=128+((q % 128:Nat):Int):=by rw[hu];push_cast;rfl
     have hql:q / 128<4611686018427387904:=by omega
     have hmeas:q / 128<q:=by omega
     have hlen2:(pre++[UInt8.ofNat (128+q % 128)]).length<=9*(j+1):=by
      have h1:=vbs_take_len HR.out (j+1)
      rw[<-hP2.out,List.length_append] at h1
      omega
     generalize hc:UInt8.ofNat (128+q % 128)=c at*
     clear hc hu h128
     generalize hqq:q / 128=q' at*
     generalize ((q % 128:Nat):Int)=r at*
     clear hqq
     go_wp2_with (at_builtin;refine wpList_append_byte _ rfl _ _ rfl w1.heap.size pre c _ _ _ rfl ?r1 rfl ?r2 ?r3 ?r4 ?_)
     case r1=>exact bytesOwn_keep HO1.out (bRf.alloc nL _)
     case r2=>rw[Addr.add_lit,hui];simp
     case r3=>omega
     case r4=>have:=HB.size;simp;omega
     intro v' w2 ho2 hb2
     have HB2:=(HB.alloc HB.size _).trans hb2
     have HZ:Hid (∃pre,bytesOwn w2 w1.heap.size v' pre/\pre++vb q'=vbs (L.take (j+1))/\pre.length<=9*j+20):=hide ⟨_,ho2,hP2.out,by omega⟩
     clear ho2 hb2 HO1 HB HP hP2 hui hm w8 w64
     go_wp2
     go_roundw
     case rel=>exact⟨q',by go_num,hql,HZ,HB2⟩
     case measure=>simp[intOf];omega
  ·obtain rfl:j=L.length:=by omega
   rw[List.take_length] at HO
   have hvl:0<(vbs L).length:=by
    cases hL:L with
    |nil=>rw[hL] at hpos;cases hpos
    | cons x l=>
     have e:(vbs (x::l)).length=(vb x.toNat).length+(vbs l).length:=List.length_append
     have:=List.length_pos_iff.2 (vb_ne x.toNat)
     omega
   obtain⟨ab,cb,hbe,hbc⟩:=bytesOwn_open HO.out hvl
   have hcv:=run_convert_bytes_back (P:=Tryz.prog) wr 324 9 5 ab cb (vbs L) Tryz.underlying324 Tryz.underlying5 Tryz.underlying9 hbc
   subst hbe
   clear hbc HO
   go_wp2_with fail
   go_ret
   exact⟨rfl,HB0.out _ HB⟩
end
section
open Go.RowKit Go.Extern.Stop Go.Stop Go.Extern Go.Maps Go.WideMaps Go.Sort
variable {cs:List (List Ins)}
def endTo(cs:List (List Ins))(m:Mk)(n:Nat):Bool:=(List.range n).all fun t=>doneAt (cs.getD t []) (m.pc t)&&(m.mem.waits t).isEmpty
theorem endTo_succ(cs:List (List Ins))(m:Mk)(n:Nat):endTo cs m (n+1)=(endTo cs m n&&(doneAt (cs.getD n []) (m.pc n)&&(m.mem.waits n).isEmpty)):=by
 unfold endTo
 rw[List.range_succ,List.all_append]
 simp
theorem endTo_no{m:Mk}{n t:Nat}(ht:t<n)(h:(doneAt (cs.getD t []) (m.pc t)&&(m.mem.waits t).isEmpty)=false):endTo cs m n=false:=by
 unfold endTo
 cases hb:(List.range n).all fun t=>doneAt (cs.getD t []) (m.pc t)&&(m.mem.waits t).isEmpty with
 |false=>rfl
 | true=>
  have:=List.all_eq_true.1 hb t (List.mem_range.2 ht)
  rw[h] at this;cases this
theorem ended_any {a:Nat->Addr} {p:MkPl} {m:Mk} {w:World} (h:MkAt a cs p m w):
  Calls Tryz.prog 76 #[.pointer (some ⟨p.b,0,none⟩), .int .i64 cs.length] w fun e w'=>e= .returned (.bool (endTo cs m cs.length))/\Below w.heap.size w w':=by
 have h6:=h.few
 have HH:=hide h
 clear h
 go_enter Tryz.func76,Tryz.ntmps76
 go_wp2_with fail
 go_loopw [5,7] (fun _ i wr=> ∃j:Nat,j<=cs.length/\i= .int .i64 j/\Hid (endTo cs m j=true)/\Below w.heap.size w wr) (fun _ i _=>cs.length - (intOf i).toNat)
 case atStart=>exact⟨0,Nat.zero_le _,rfl,rfl,Below.refl _ _⟩
 case round=>
  obtain⟨j,hj,rfl,HR,HB⟩:=hrel
  by_cases hlt:j<cs.length
  ·have ji:(j:Int)<cs.length:=by omega
   obtain⟨L,hL⟩: ∃L,cs[j]? =some L:=⟨_,List.getElem?_eq_getElem hlt⟩
   have hd:cs.getD j []=L:=by rw[List.getD_eq_getElem?_getD,hL];rfl
   have HD:=hide (kdone_any hL (HH.out.below HB))
   have HWt:=hide (fun w' (k:Below wr.heap.size wr w')=>mWaiting_any ((HH.out.below HB).below k).mem (t:=j) (by rw[HH.out.thr];exact hlt))
   have HS:=hide (endTo_succ cs m j)
   have HN:=hide (fun e=>endTo_no (cs:=cs) (m:=m) hlt e)
   rw[hd] at HS HN
   clear hd hL
   cases hdd:doneAt L (m.pc j)
   ·rw[hdd] at HD HN
    have HF:=hide (HN.out rfl)
    clear HN HS hdd HWt
    go_wp2_with fail
    refine HD.out.mono ?_
    rintro e w1 ⟨rfl,hb1⟩
    have HB1:=below_step HB hb1
    clear HB hb1 HD
    go_wp2_with fail
    go_ret
    exact⟨by rw[HF.out];rfl,HB1⟩
   ·rw [hdd] at HD HN HS
    clear hdd
    go_wp2_with fail
    refine HD.out.mono ?_
    rintro e w1 ⟨rfl,hb1⟩
    have HB1:=below_step HB hb1
    have HW1:=hide (HWt.out w1 hb1)
    clear HB hb1 HD HWt
    cases hl:m.mem.waits j with
    | nil=>
     rw[hl] at HS HW1
     have HS2:Hid (endTo cs m (j+1)=true):=hide (by rw[HS.out,HR.out];rfl)
     clear HS HN HR hl
     go_wp2_with fail
     refine HW1.out.mono ?_
     rintro e w2 ⟨rfl,rfl⟩
     go_wp2_with fail
     go_roundw
     case rel=>exact⟨j+1,by omega,by go_num,HS2,HB1⟩
     case measure=>simp[intOf];omega
    | cons x l=>
     rw[hl] at HN HW1
     have HF:=hide (HN.out rfl)
     have hlen:0<(((x::l).length:Nat):Int):=by rw[List.length_cons];omega
     generalize (x::l).length=len at*
     clear HS HN HR hl
     go_wp2_with fail
     refine HW1.out.mono ?_
     rintro e w2 ⟨rfl,rfl⟩
     go_wp2_with fail
     go_ret
     exact⟨by rw[HF.out];rfl,HB1⟩
  ·obtain rfl:j=cs.length:=by omega
   go_wp2
   go_ret
   exact⟨by rw[HR.out];rfl,HB⟩
end
section
open Go.RowKit Go.Extern.Stop Go.Stop Go.Extern Go.Maps Go.WideMaps Go.Sort
variable {l:List Value} {base:Nat} {v:Value} {w:World}
def QAt(w:World)(base:Nat)(v:Value)(l:List Value):Prop:=(v= .slice none 0 0/\l=[])∨
 ∃g off cap,v= .slice (some ⟨g,off,none⟩) l.length cap/\base<=g/\g<w.heap.size/\l.length<=cap/\cap<=maxLen/\(∀(j:Nat) u,l[j]? =some u->w.cell? ⟨g,off+j,none⟩=some u)/\(∀j,j<cap->(w.cell? ⟨g,off+j,none⟩).isSome=true/\w.frozen? ⟨g,off+j,none⟩=false)
theorem QAt.nil(w:World)(base:Nat):QAt w base (.slice none 0 0) []:= .inl ⟨rfl,rfl⟩
theorem QAt.lt(h:QAt w base v l){k:Nat}(hk:v.ownBlock=some k):base<=k/\k<w.heap.size:=by
 rcases h with⟨rfl, -⟩ |⟨g,off,cap,rfl,h1,h2, -⟩
 ·cases hk
 ·cases hk;exact⟨h1,h2⟩
theorem QAt.turns{S:Nat->Nat->Prop}{w w':World}(h:QAt w base v l)(t:Turns S w w')(hS: ∀k o,v.ownBlock=some k-> ¬S k o):QAt w' base v l:=by
 rcases h with⟨rfl,h1⟩ |⟨g,off,cap,rfl,h1,h2,h3,h4,h5,h6⟩
 ·exact .inl ⟨rfl,h1⟩
 ·refine .inr ⟨g,off,cap,rfl,h1,Nat.lt_of_lt_of_le h2 t.size,h3,h4,fun j u hu=>t.keep (h5 j u hu) (hS g _ rfl),fun j hj=>?_⟩
  obtain⟨q1,q2⟩:=h6 j hj
  obtain⟨x,hx⟩:=Option.isSome_iff_exists.1 q1
  exact⟨by rw[t.keep hx (hS g _ rfl)];rfl,by rw[t.frozen _ _ h2 (hS g _ rfl)];exact q2⟩
theorem QAt.below{w w':World}(h:QAt w base v l)(k:Below w.heap.size w w'):QAt w' base v l:=
 h.turns (S:=fun _ _=>False) (Turns.of_below k) (fun _ _ _ h=>h)
theorem QAt.of_row {e:TypeId} (h:w.ownsRow base e 1 v l.length l):QAt w base v l:=by
 rcases h.2 with⟨h1,h2⟩ |⟨g,cap,cur,rfl,hg,hh,hn,hm,hs,hc⟩
 ·exact .inl ⟨h1,List.length_eq_zero_iff.1 h2⟩
 ·have hcell: ∀j,w.cell? ⟨g,0+j,none⟩=cur[j]? :=fun j=>by
   rw[Nat.zero_add]
   simp[World.cell?,hh]
  refine .inr ⟨g,0,cap,rfl,hg,lt_of_block hh,hn,hm,fun j u hu=>?_,fun j hj=>⟨?_,?_⟩⟩
  ·rw[Nat.zero_add,h.cellAt j (by have:=(List.getElem?_eq_some_iff.1 hu).1;omega)];exact hu
  ·rw[hcell,Array.getElem?_eq_getElem (by omega)];rfl
  ·rw[Nat.zero_add]
   simp[World.frozen?,hh]
theorem QAt.tail {base g off cap:Nat} {u:Value} (h:QAt w base (.slice (some ⟨g,off,none⟩) (u::l).length cap) (u::l)):QAt w base (.slice (some (if cap=1 then⟨g,off,none⟩ else⟨g,off+1,none⟩)) l.length (cap - 1)) l:=by
 rcases h with⟨-,h1⟩ |⟨g',off',cap',e,h1,h2,h3,h4,h5,h6⟩
 ·cases h1
 ·cases e
  rw[List.length_cons] at h3
  by_cases hc:cap=1
  ·rw[if_pos hc]
   have hl:l=[]:=List.length_eq_zero_iff.1 (by omega)
   subst hl
   exact .inr ⟨g,off,cap - 1,rfl,h1,h2,by simp,by omega,fun j u hu=>by simp at hu,fun j hj=>absurd hj (by omega)⟩
  ·rw [if_neg hc]
   refine .inr ⟨g,off+1,cap - 1,rfl,h1,h2,by omega,by omega,fun j x hx=>?_,fun j hj=>?_⟩
   ·rw[show off+1+j=off+(j+1) by omega]
    exact h5 (j+1) x (by simpa using hx)
   ·rw[show off+1+j=off+(j+1) by omega]
    exact h6 (j+1) (by omega)
theorem wkPtr: ∃i,(Tryz.prog).info? 70=some i/\i.zero=some (.pointer none)/\i.size=1/\i.bytes=8:=info_parts (by kernel_rfl)
theorem wpList_append_q {ops:Array Oper} {rest:List Oper} {o:Oper} {a:Act} (w:World) {Q:Exit->Act->World->Prop} (hgd:o.guard=none) (s x:Operand)
  (ho:o.op= .call { callee:= .builtin .append,args:=#[s,x],argTypes:=#[242,242] }) (base:Nat) (l:List Value) (u v:Value) (ad:Addr) (c:Nat)
  (hs:a.eval s=v) (hq:QAt w base v l) (hx:a.eval x= .slice (some ad) 1 c) (hu:w.cell? (ad.add 0)=some u) (h1:u.oneCell'=true) (h3:l.length<=1000000) (hb:base<=w.heap.size)
  (h: ∀v' w',QAt w' base v' (l++[u])->Turns (fun k _=>v.ownBlock=some k) w w'->(v'.ownBlock=v.ownBlock∨ ∃k,v'.ownBlock=some k/\w.heap.size<=k)->wpList Tryz.prog ops Q rest (a.put o.dst v') w'):wpList Tryz.prog ops Q (o::rest) a w:=by
 obtain⟨ri,hri,hrz,hrs,hrb⟩:=wkPtr
 have hnews: ∀j y,([u]:List Value)[j]? =some y->w.cell? (ad.add j)=some y:=fun j y hj=>by
  cases j with
  |zero=>cases hj;exact hu
  |succ j=>simp at hj
 have h1': ∀y∈([u]:List Value),y.oneCell'=true:=fun y hy=>by
  obtain rfl:y=u:=by simpa using hy
  exact h1
 rcases hq with⟨rfl,rfl⟩ |⟨g,off,cap,rfl,q1,q2,q3,q4,q5,q6⟩
 ·refine wpList_append_own_at w hgd s x 242 ho base 70 ri (.pointer none) 1 8 Tryz.underlying242 hri hrz hrs hrb rfl (by decide) (.slice none 0 0) 0 [] hs (World.ownsRow_nil _ _ _ _) ad 1 c [u] hx rfl hnews h1' (by unfold maxLen;omega) (by omega) hb (fun v' w' h2 hg _ hloc=>?_)
  refine h v' w' (QAt.of_row (by simpa using h2)) (Turns.of_below ((Below.refl _ w).grown hg nL (fun k hk=>by cases hk))) ?_
  rcases hloc with e |e
  ·exact .inl e
  ·exact .inr ⟨_,e,Nat.le_refl _⟩
 ·refine wpList_plain hgd fun K hK=>?_
  unfold Oper.wp execOp
  have hmul:off+l.length*ri.size=off+l.length:=by rw[hrs,Nat.mul_one]
  by_cases hr:l.length+1<=cap
  ·obtain ⟨i1,i2⟩:=q6 l.length (by omega)
   obtain⟨old,hold⟩:=Option.isSome_iff_exists.1 i1
   have hrun:=run_append_room_cells (P:=Tryz.prog) (w:=w) 242 o.type 70 ri Tryz.underlying242 hri g off l.length cap ad 1 c [u] (by rw[hrs];rfl) hnews h1' hr (fun j hj=>by
    obtain rfl:j=0:=by simpa using hj
    rw[hmul];exact i1) (fun j hj=>by
    obtain rfl:j=0:=by simpa using hj
    rw[hmul];exact i2)
   rw[hmul] at hrun
   have hset:w.setCells g (off+l.length) [u]=w.setCell ⟨g,off+l.length,none⟩ u:=rfl
   rw[hset] at hrun
   simp only[ho,resolve,invoke,builtin,Sem.run_bind,Sem.run_pure,Result.andThen_ok,List.map_toArray,List.map_cons,List.map_nil,hs,hx,hrun]
   refine hK _ _ (h _ _ ?_ ((Turns.refl _ _).setCell _ rfl) (.inl rfl))
   refine .inr ⟨g,off,cap,by rw[List.length_append];rfl,q1,by simp[World.setCell];exact q2,by rw[List.length_append];exact hr,q4,fun j y hj=>?_,fun j hj=>?_⟩
   ·by_cases hlt:j<l.length
    ·rw[List.getElem?_append_left hlt] at hj
     exact cell_ne (q5 j y hj) (.inr (by omega))
    ·have hj':=(List.getElem?_eq_some_iff.1 hj).1
     rw[List.length_append] at hj'
     obtain rfl:j=l.length:=by simp at hj';omega
     rw[List.getElem?_append_right nL,Nat.sub_self] at hj
     cases hj
     exact World.cell?_setCell_same _ _ _ hold
   ·obtain ⟨k1,k2⟩:=q6 j hj
    refine⟨?_,by rw[World.frozen?_setCell];exact k2⟩
    by_cases e:j=l.length
    ·subst e
     rw[World.cell?_setCell_same _ _ _ hold];rfl
    ·obtain⟨y,hy⟩:=Option.isSome_iff_exists.1 k1
     rw[cell_ne hy (.inr (by omega))];rfl
  ·obtain ⟨v',w',hrun,hown,hg⟩:=run_append_arg_grows (P:=Tryz.prog) (w:=w) 242 o.type 70 ri (.pointer none) 1 8 Tryz.underlying242 hri hrz hrs hrb rfl (by decide) ⟨g,off,none⟩ l.length cap l (by omega) (fun j y hj=>by rw[Addr.add_lit];exact q5 j y hj) ad 1 c [u] rfl hnews (by omega) (by unfold maxLen;omega) (by omega)
   simp only[ho,resolve,invoke,builtin,Sem.run_bind,Sem.run_pure,Result.andThen_ok,List.map_toArray,List.map_cons,List.map_nil,hs,hx,hrun]
   have hB:Below w.heap.size w w':=(Below.refl _ w).grown hg nL (fun k hk=>by cases hk)
   refine hK _ _ (h _ _ ?_ (Turns.of_below hB) ?_)
   ·have:=QAt.of_row (l:=l++[u]) (by simpa using hown)
    rcases this with⟨e1,e2⟩ |⟨g',off',cap',e1,e2,r⟩
    ·exact .inl ⟨e1,e2⟩
    ·exact .inr ⟨g',off',cap',e1,Nat.le_trans hb e2,r⟩
   ·rcases hown.2 with⟨-,h0⟩ |⟨g',cap',cur,e1,e2, -⟩
    ·omega
    ·exact .inr ⟨g',by rw[e1];rfl,e2⟩
end
section
open Go.RowKit Go.Extern.Stop Go.Stop Go.Extern Go.Maps Go.WideMaps Go.Sort
variable {E:List (ByteArray×ByteArray×Int)} {x:ByteArray×ByteArray×Int} {b:Nat} {w:World}
def stepV(x:ByteArray×Int):Value:= .agg #[.string x.1, .int .i64 x.2]
def stepD(x:ByteArray×Int):DataW Unit:= .agg [.lit (.string x.1.data.toList), .lit (.int .i64 x.2)]
def stepElem:Value->Option (DataW Unit×List MemPlace)
 | .agg cs=>match cs.toList with
  | [.string s, .int .i64 n]=>some (stepD (s,n),[])
  |_=>none
 |_=>none
theorem stepElem_mk(x:ByteArray×Int):stepElem (stepV x)=some (stepD x,[]):=rfl
theorem stepD_inj{x y:ByteArray×Int}(h:stepD x=stepD y):x=y:=by
 obtain⟨a,b⟩:=x
 obtain⟨c,d⟩:=y
 unfold stepD at h
 simp only[DataW.agg.injEq,List.cons.injEq,DataW.lit.injEq,Lit.string.injEq,Lit.int.injEq,true_and,and_true] at h
 obtain⟨h1,h2⟩:=h
 rw[bl_inj (show bl a=bl c from h1),h2]
theorem stepElem_inv {v:Value} {z:DataW Unit×List MemPlace} (h:stepElem v=some z): ∃x,v=stepV x/\z=(stepD x,[]):=by
 unfold stepElem at h
 split at h
 ·rename_i cs
  split at h
  ·rename_i s n e
   cases h
   exact⟨(s,n),by unfold stepV;rw[<-Array.toList_inj.1 (show cs.toList=#[Value.string s, .int .i64 n].toList from e)],rfl⟩
  ·cases h
 ·cases h
def stD(E:List (ByteArray×ByteArray×Int)):DataW Unit:=E.foldl (fun D x=>D.put (.string (bl x.1)) (stepD x.2)) (.map [])
theorem stD_snoc(E:List (ByteArray×ByteArray×Int))(x:ByteArray×ByteArray×Int):stD (E++[x])=(stD E).put (.string (bl x.1)) (stepD x.2):=by
 unfold stD
 rw[List.foldl_append];rfl
theorem snocInd{α:Type}{p:List α->Prop}(h0:p [])(h1: ∀l x,p l->p (l++[x]))(l:List α):p l:=by
 rw[<-List.reverse_reverse l]
 induction l.reverse with
 |nil=>exact h0
 |cons x r ih=>rw[List.reverse_cons];exact h1 _ _ ih
theorem stD_tidy: ∀E,Tidy (stD E):=snocInd tidy_empty fun E x ih=>by
 rw[stD_snoc]
 exact ih.put (by trivial) _
def keyIn(E:List (ByteArray×ByteArray×Int))(k:ByteArray):Bool:=E.any fun x=>x.1.toList==k.toList
theorem keyIn_snoc(E:List (ByteArray×ByteArray×Int))(x:ByteArray×ByteArray×Int)(k:ByteArray):keyIn (E++[x]) k=(keyIn E k ||(x.1.toList==k.toList)):=by
 unfold keyIn
 rw[List.any_append]
 simp
theorem stD_has (k:ByteArray): ∀E,Maps.has (stD E) (.string (bl k))=keyIn E k:=snocInd rfl fun E x ih=>by
 rw[stD_snoc,keyIn_snoc, <-ih]
 by_cases e:x.1=k
 ·subst e
  rw[has_put_same (stD_tidy E).isMap (by trivial)]
  simp
 ·rw [has_put_other (fun e'=>e (bl_inj (by injection e' with e';exact e'.symm)))]
  have :(x.1.toList==k.toList)=false:=by
   rw[beq_eq_false_iff_ne,toList_bl,toList_bl]
   exact fun e'=>e (bl_inj e')
  rw[this,Bool.or_false]
theorem keyIn_iff{k:ByteArray}:keyIn E k=true↔ ∃x∈E,x.1=k:=by
 unfold keyIn
 rw[List.any_eq_true]
 refine exists_congr fun x=>and_congr_right fun _=>?_
 rw[beq_iff_eq,toList_bl,toList_bl]
 exact⟨fun e=>bl_inj e,fun e=>by rw[e]⟩
def Once(E:List (ByteArray×ByteArray×Int)):Prop:=E.Pairwise fun x y=>x.1≠y.1
theorem Once.snoc(h:Once E)(hx:keyIn E x.1=false):Once (E++[x]):=by
 refine List.pairwise_append.2 ⟨h,List.pairwise_singleton _ _,fun y hy z hz e=>?_⟩
 obtain rfl:z=x:=by simpa using hz
 have:keyIn E z.1=true:=keyIn_iff.2 ⟨y,hy,e⟩
 rw[hx] at this;cases this
theorem Once.left{E F:List (ByteArray×ByteArray×Int)}(h:Once (E++F)):Once E:=(List.pairwise_append.1 h).1
theorem Once.last(h:Once (E++[x])):keyIn E x.1=false:=by
 cases hk:keyIn E x.1 with
 |false=>rfl
 | true=>
  obtain⟨y,hy,e⟩:=keyIn_iff.1 hk
  exact absurd e ((List.pairwise_append.1 h).2.2 y hy x (by simp))
theorem stD_size: ∀E,Once E->Maps.size (stD E)=E.length:=snocInd (fun _=>rfl) fun E x ih h=>by
 rw[stD_snoc,size_put (stD_tidy E),stD_has,h.last,ih h.left]
 simp
theorem stD_at(d:DataW Unit): ∀E,Once E-> ∀x∈E,(stD E).atKey (.string (bl x.1)) d=stepD x.2:=snocInd (fun _ x hx=>by cases hx) fun E y ih h x hx=>by
 rw[stD_snoc]
 rcases List.mem_append.1 hx with hx |hx
 ·have hne:x.1≠y.1:=(List.pairwise_append.1 h).2.2 x hx y (by simp)
  rw[atKey_put_other (fun e'=>hne (bl_inj (by injection e')))]
  exact ih h.left x hx
 ·obtain rfl:x=y:=by simpa using hx
  exact atKey_put_same (stD_tidy E).isMap (by trivial) _ _
theorem stepLaw:Keyed Tryz.prog 9:=string_keyed Tryz.underlying9
theorem stepZero(w:World):(zeroValue 249).run Tryz.prog w= .ok (stepV (ByteArray.empty,0)) w:=by kernel_rfl
def FoundAt(w:World)(b:Nat)(E:List (ByteArray×ByteArray×Int)):Prop:=w.ownsMap Tryz.prog 9 stepElem b E.length (stD E)/\Once E
theorem FoundAt.size(h:FoundAt w b E):Maps.size (stD E)=E.length:=stD_size E h.2
theorem FoundAt.look(h:FoundAt w b E)(k:ByteArray)(hk:k.size<=maxLen): ∃x,(Instr.lookup 241 (.map (some b)) (.string k) true).run Tryz.prog w= .ok (.tuple #[stepV x, .bool (keyIn E k)]) w:=by
 obtain⟨v,ps,hrun,hv⟩:=h.1.look_ok (t:=241) stepLaw Tryz.underlying241 (stepZero w) (stepElem_mk _) (keyOf_string_mk Tryz.underlying9 hk)
 obtain⟨x,rfl, -⟩:=stepElem_inv hv
 rw[stD_has] at hrun
 exact⟨x,hrun⟩
theorem FoundAt.at(h:FoundAt w b E)(hx:x∈E)(hk:x.1.size<=maxLen):(Instr.lookup 241 (.map (some b)) (.string x.1) false).run Tryz.prog w= .ok (stepV x.2) w:=by
 obtain⟨v,ps,hrun,hv⟩:=h.1.lookup (t:=241) stepLaw Tryz.underlying241 (stepZero w) (stepElem_mk _) (keyOf_string_mk Tryz.underlying9 hk)
 obtain⟨y,rfl,hy⟩:=stepElem_inv hv
 rw[stD_at _ E h.2 x hx] at hy
 rw[stepD_inj (congrArg Prod.fst hy)]
 exact hrun
theorem FoundAt.store(h:FoundAt w b E)(k:ByteArray)(hk:k.size<=maxLen)(x:ByteArray×Int)(hn:E.length<maxLen)(hnew:keyIn E k=false):
  ∃w',(Instr.mapUpdate 241 (.map (some b)) (.string k) (stepV x)).run Tryz.prog w= .ok () w'/\FoundAt w' b (E++[(k,x)])/\w.grownBy w' (some b):=by
 obtain⟨w',h1,h2,h3⟩:=h.1.update (t:=241) stepLaw Tryz.underlying241 hn (keyOf_string_mk Tryz.underlying9 hk) (stepElem_mk x)
 refine⟨w',h1,⟨?_,h.2.snoc hnew⟩,h3⟩
 rw[stD_snoc,List.length_append]
 exact h2
theorem FoundAt.len(h:FoundAt w b E)(ty:TypeId):(Builtin.len_ #[241] ty #[.map (some b)]).run Tryz.prog w= .ok (.int .i64 E.length) w:=by
 rw[h.1.len Tryz.underlying241 ty,h.size]
theorem FoundAt.kept{w w':World}(h:FoundAt w b E)(e:w'.heap[b]? =w.heap[b]?):FoundAt w' b E:=by
 obtain⟨⟨es,clock,hb,r⟩,h2⟩:=h
 exact⟨⟨es,clock,e.trans hb,r⟩,h2⟩
end
end Go.Proofs.YtnoigmdmgdcliaaGreatDoor
