import Derived.Test.YtnoigmdmgdcliaaGreatDoorA03
import Derived.Test.YtnoigmdmgdcliaaGreatDoorA04
import Derived.Test.YtnoigmdmgdcliaaGreatDoorA18
import Derived.Test.YtnoigmdmgdcliaaGreatDoorA19
import Derived.Laws.AppendOwn
import Derived.Maps.AppendAt
import Derived.Test.YtnoigmdmgdcliaaGreatDoorA06
import Derived.BigQuiet
import Derived.Test.YtnoigmdmgdcliaaGreatDoorA13
import Derived.Test.YtnoigmdmgdcliaaGreatDoorA05
import Derived.Deep.RegionLaw
namespace Go.Proofs.YtnoigmdmgdcliaaGreatDoor
set_option maxRecDepth 100000
set_option maxHeartbeats 8000000
section
open Go.RowKit Go.Extern.Stop Go.Stop Go.Extern Go.Maps Go.WideMaps Go.Sort
variable {l:List Int} {w:World} {base:Nat} {v:Value} {s:Ar} {cs:Array Value} {b o:Nat} {n c:Nat}
theorem wkInt: ∃i,(Tryz.prog).info? 3=some i/\i.zero=some (.int .i64 0)/\i.size=1/\i.bytes=8:=info_parts (by kernel_rfl)
def ncells(l:List Int):List Value:=l.map (Value.int .i64)
def numsOwn(w:World)(base:Nat)(v:Value)(l:List Int):Prop:=w.ownsRow base 3 1 v l.length (ncells l)
theorem numsOwn_nil(w:World)(base:Nat):numsOwn w base (.slice none 0 0) []:=World.ownsRow_nil _ _ _ _
theorem ncells_append(a b:List Int):ncells (a++b)=ncells a++ncells b:=by simp[ncells]
theorem numsOwn_keep{w w':World}(h:numsOwn w base v l)(k:Below w.heap.size w w'):numsOwn w' base v l:=
 ownsRow_block h (fun b hb=>k.block b (h.lt b hb).2)
theorem numsOwn_mono{base base':Nat}(h:numsOwn w base v l)(hb:base'<=base):numsOwn w base' v l:=by
 obtain⟨h1,h2⟩:=h
 refine⟨h1,?_⟩
 rcases h2 with h2 |⟨g,cap,cur,e,hg,r⟩
 ·exact .inl h2
 ·exact .inr ⟨g,cap,cur,e,Nat.le_trans hb hg,r⟩
theorem numsOwn_at(h:numsOwn w base v l): ∃ad cap,v= .slice ad l.length cap/\l.length<=cap/\numsAt ad l w:=by
 obtain⟨g,c,rfl,h1,h2,h3⟩:=ownsRow_shape h
 refine⟨g,c,rfl,h1,fun i x hx=>?_⟩
 obtain⟨gg,e,hc⟩:=h3 i (.int .i64 x) (by unfold ncells;rw[List.getElem?_map,hx];rfl)
 exact⟨gg,0,e,by rw[Nat.zero_add];exact hc⟩
theorem numsOwn_open(h:numsOwn w base v l)(h1:0<l.length): ∃ad cap,v= .slice (some ad) l.length cap/\numsAt (some ad) l w:=by
 obtain⟨ad,cap,rfl, -,h4⟩:=numsOwn_at h
 obtain⟨y,hy⟩: ∃y,l[0]? =some y:=⟨_,List.getElem?_eq_getElem h1⟩
 obtain⟨b,off,rfl, -⟩:=h4 0 y hy
 exact⟨_,cap,rfl,h4⟩
theorem numsOwn_new(h:cs.toList=ncells l)(hb:base<=w.heap.size)(hl:l.length<=1000000):numsOwn (w.alloc (.cells cs 3)) base (.slice (some ⟨w.heap.size,0,none⟩) l.length l.length) l:=by
 have hn:(ncells l).length=l.length:=by simp[ncells]
 refine⟨by rw[hn,Nat.mul_one], .inr ⟨w.heap.size,l.length,cs,rfl,hb,heap_new w _,Nat.le_refl _,by unfold maxLen;omega,?_,?_⟩⟩
 ·rw[<-Array.length_toList,h,hn,Nat.mul_one]
 ·rw[h,Nat.mul_one, <-hn,List.take_length]
theorem numsAt_new{t:TypeId}(h:cs.toList=ncells l):numsAt (some ⟨w.heap.size,0,none⟩) l (w.alloc (.cells cs t)):=by
 intro i x hx
 refine⟨w.heap.size,0,rfl,?_⟩
 rw[World.cell?_alloc_new,Nat.zero_add, <-Array.getElem?_toList,h]
 unfold ncells
 rw[List.getElem?_map,hx]
 rfl
theorem wpList_append_ints {ops:Array Oper} {rest:List Oper} {o:Oper} {a:Act} (w:World) {Q:Exit->Act->World->Prop} (hgd:o.guard=none) (s x:Operand)
  (ho:o.op= .call { callee:= .builtin .append,args:=#[s,x],argTypes:=#[23,23] }) (base:Nat) (l0 l:List Int) (v:Value) (ad:Addr) (cap:Nat)
  (hs:a.eval s=v) (hown:numsOwn w base v l0) (hx:a.eval x= .slice (some ad) l.length cap) (hl:numsAt (some ad) l w) (h3:l0.length+l.length<=1000000) (hb:base<=w.heap.size)
  (h: ∀v' w',numsOwn w' base v' (l0++l)->Below base w w'->w.heap.size<=w'.heap.size->w.grownBy w' v.ownBlock->(v'.ownBlock=v.ownBlock∨v'.ownBlock=some w.heap.size)->wpList Tryz.prog ops Q rest (a.put o.dst v') w'):wpList Tryz.prog ops Q (o::rest) a w:=by
 obtain⟨ri,hri,hrz,hrs,hrb⟩:=wkInt
 refine wpList_append_own_at w hgd s x 23 ho base 3 ri (.int .i64 0) 1 8 Tryz.underlying23 hri hrz hrs hrb rfl (by decide) v l0.length (ncells l0) hs hown ad l.length cap (ncells l) hx (by unfold ncells;rw[List.length_map,Nat.mul_one]) (fun j u hj=>?_) (fun u hu=>?_) (by unfold maxLen;omega) (by omega) hb (fun v' w' h2 hg _ hloc=>?_)
 ·unfold ncells at hj
  rw[List.getElem?_map] at hj
  cases hxj:l[j]? with
  |none=>rw[hxj] at hj;cases hj
  | some y=>
   rw[hxj] at hj;cases hj
   obtain⟨_,_,e,c⟩:=hl j y hxj
   cases e
   rw[Addr.add_lit];exact c
 ·obtain⟨y,_,rfl⟩:=List.mem_map.1 hu;rfl
 ·have hB:Below base w w':=(Below.refl base w).grown hg hb (fun k hk=>(hown.lt k hk).1)
  refine h v' w' ?_ hB hB.size hg hloc
  unfold numsOwn
  rw[List.length_append,ncells_append]
  exact h2
theorem numsOwn_set{base g cap n:Nat}(h:numsOwn w base (.slice (some ⟨g,0,none⟩) n cap) l)(j:Nat)(x:Int):numsOwn (w.setCell ⟨g,j,none⟩ (.int .i64 x)) base (.slice (some ⟨g,0,none⟩) n cap) (l.set j x):=by
 obtain⟨h1,h2⟩:=h
 rcases h2 with⟨e, -⟩ |⟨g',cap',cur,e,hg,hh,hn,hm,hs,hc⟩
 ·cases e
 ·cases e
  refine⟨by unfold ncells;simp, .inr ⟨g,cap,cur.setIfInBounds j (.int .i64 x),by rw[List.length_set],hg,heap_setCell_same w g j cur _ _ hh,by rw[List.length_set];exact hn,hm,by simpa using hs,?_⟩⟩
  rw[List.length_set,Array.toList_setIfInBounds,List.take_set,hc]
  unfold ncells
  rw[List.map_set]
theorem numsOwn_cell {base g cap n:Nat} (h:numsOwn w base (.slice (some ⟨g,0,none⟩) n cap) l) {j:Nat} {x:Int} (hx:l[j]? =some x):w.cell? ⟨g,j,none⟩=some (.int .i64 x)/\w.frozen? ⟨g,j,none⟩=false:=by
 have hl:=(List.getElem?_eq_some_iff.1 hx).1
 obtain rfl:n=l.length:=by
  obtain⟨ad,c,e, -⟩:=numsOwn_at h
  cases e;rfl
 refine⟨?_,?_⟩
 ·unfold numsOwn at h
  rw[World.ownsRow.cellAt h j (by rw[Nat.mul_one];exact hl)]
  unfold ncells
  rw[List.getElem?_map,hx];rfl
 ·obtain ⟨h1,h2⟩:=h
  rcases h2 with⟨e, -⟩ |⟨g',cap',cur,e,hg,hh,hn,hm,hs,hc⟩
  ·cases e
  ·cases e
   exact frozen_of_row w g j cur _ hh
theorem wordsOf_any (h:ArAt b o s w) {c:Nat} (hc:c<64):
  Calls Tryz.prog 270 #[.pointer (some ⟨b,o,none⟩), .int .i64 c] w fun e w'=> ∃v,e= .returned v/\numsOwn w' w.heap.size v (wordNums s c)/\Below w.heap.size w w':=by
 have ht:=h.there c hc
 have ci:(c:Int)<64:=by omega
 have w0:w.cell? ⟨b,o+1+c*4,none⟩=some (.int .u32 (s.words c 0)):=h.words c 0 hc (by decide)
 have w1:=h.words c 1 hc (by decide)
 have w2:=h.words c 2 hc (by decide)
 have w3:=h.words c 3 hc (by decide)
 have r0:=h.range c 0
 have r1:=h.range c 1
 have r2:=h.range c 2
 have r3:=h.range c 3
 have y0:=h.lt
 have HH:=hide h
 clear h
 cases hth:s.there c
 ·have hw:wordNums s c=[0]:=by unfold wordNums;rw[hth];rfl
  rw[hth] at ht
  rw[hw]
  go_enter Tryz.func270,Tryz.ntmps270
  go_wp2_with fail
  go_ret
  exact⟨_,rfl,numsOwn_new (l:=[0]) rfl nL (by decide),bRf.alloc nL _⟩
 ·have hw:wordNums s c=[4,s.words c 0,s.words c 1,s.words c 2,s.words c 3]:=by unfold wordNums;rw[hth];rfl
  rw[hth] at ht
  rw[hw]
  go_enter Tryz.func270,Tryz.ntmps270
  generalize s.words c 0=x0 at*
  generalize s.words c 1=x1 at*
  generalize s.words c 2=x2 at*
  generalize s.words c 3=x3 at*
  have q0:IntKind.i64.wrap x0=x0:=by rw[IntKind.wrap_i64];omega
  have q1:IntKind.i64.wrap x1=x1:=by rw[IntKind.wrap_i64];omega
  have q2:IntKind.i64.wrap x2=x2:=by rw[IntKind.wrap_i64];omega
  have q3:IntKind.i64.wrap x3=x3:=by rw[IntKind.wrap_i64];omega
  have ix0: ∀w,(Instr.index 118 (.agg #[.int .u32 x0, .int .u32 x1, .int .u32 x2, .int .u32 x3]) (.int .i64 0)).run Tryz.prog w= .ok (.int .u32 x0) w:=fun _=>rfl
  have ix1: ∀w,(Instr.index 118 (.agg #[.int .u32 x0, .int .u32 x1, .int .u32 x2, .int .u32 x3]) (.int .i64 1)).run Tryz.prog w= .ok (.int .u32 x1) w:=fun _=>rfl
  have ix2: ∀w,(Instr.index 118 (.agg #[.int .u32 x0, .int .u32 x1, .int .u32 x2, .int .u32 x3]) (.int .i64 2)).run Tryz.prog w= .ok (.int .u32 x2) w:=fun _=>rfl
  have ix3: ∀w,(Instr.index 118 (.agg #[.int .u32 x0, .int .u32 x1, .int .u32 x2, .int .u32 x3]) (.int .i64 3)).run Tryz.prog w= .ok (.int .u32 x3) w:=fun _=>rfl
  clear HH hth hw
  go_wp2_with fail
  go_loopw [5,7,23] (fun l _ i wr=> ∃j:Nat,j<=4/\i= .int .i64 j/\Hid (numsOwn wr w.heap.size l (4::[x0,x1,x2,x3].take j))/\Below w.heap.size w wr) (fun _ _ i _=>4 - (intOf i).toNat)
  case atStart=>exact⟨0,Nat.zero_le _,rfl,numsOwn_new (l:=[4]) rfl nL (by decide),bRf.alloc nL _⟩
  case round=>
   obtain⟨j,hj,rfl,HO,HB⟩:=hrel
   have hc5:j=0∨j=1∨j=2∨j=3∨j=4:=by omega
   rcases hc5 with rfl |rfl |rfl |rfl |rfl
   ·rw[show((0:Nat):Int)=0 from rfl]
    go_wp2_with (at_builtin;refine wpList_append_ints _ rfl _ _ rfl w.heap.size (4::[x0,x1,x2,x3].take 0) [x0] _ _ _ rfl ?q1 rfl ?q2 ?q3 ?q4 ?_)
    case q1=>exact numsOwn_keep HO.out (bRf.alloc nL _)
    case q2=>exact numsAt_new rfl
    case q3=>show 1+1<=1000000;omega
    case q4=>have:=HB.size;simp;omega
    intro v' w1 ho hb1 hs1 hg1 hloc
    have HO2:Hid (numsOwn w1 w.heap.size v' (4::[x0,x1,x2,x3].take (0+1))):=ho
    have HB2:=(HB.alloc HB.size _).trans hb1
    clear ho hb1 hs1 hg1 hloc HO HB
    go_wp2
    go_roundw
    case rel=>exact⟨0+1,by omega,by go_num,HO2,HB2⟩
    case measure=>simp[intOf]
   ·rw[show((1:Nat):Int)=1 from rfl]
    go_wp2_with (at_builtin;refine wpList_append_ints _ rfl _ _ rfl w.heap.size (4::[x0,x1,x2,x3].take 1) [x1] _ _ _ rfl ?q1 rfl ?q2 ?q3 ?q4 ?_)
    case q1=>exact numsOwn_keep HO.out (bRf.alloc nL _)
    case q2=>exact numsAt_new rfl
    case q3=>show 2+1<=1000000;omega
    case q4=>have:=HB.size;simp;omega
    intro v' w1 ho hb1 hs1 hg1 hloc
    have HO2:Hid (numsOwn w1 w.heap.size v' (4::[x0,x1,x2,x3].take (1+1))):=ho
    have HB2:=(HB.alloc HB.size _).trans hb1
    clear ho hb1 hs1 hg1 hloc HO HB
    go_wp2
    go_roundw
    case rel=>exact⟨1+1,by omega,by go_num,HO2,HB2⟩
    case measure=>simp[intOf]
   ·rw[show((2:Nat):Int)=2 from rfl]
    go_wp2_with (at_builtin;refine wpList_append_ints _ rfl _ _ rfl w.heap.size (4::[x0,x1,x2,x3].take 2) [x2] _ _ _ rfl ?q1 rfl ?q2 ?q3 ?q4 ?_)
    case q1=>exact numsOwn_keep HO.out (bRf.alloc nL _)
    case q2=>exact numsAt_new rfl
    case q3=>show 3+1<=1000000;omega
    case q4=>have:=HB.size;simp;omega
    intro v' w1 ho hb1 hs1 hg1 hloc
    have HO2:Hid (numsOwn w1 w.heap.size v' (4::[x0,x1,x2,x3].take (2+1))):=ho
    have HB2:=(HB.alloc HB.size _).trans hb1
    clear ho hb1 hs1 hg1 hloc HO HB
    go_wp2
    go_roundw
    case rel=>exact⟨2+1,by omega,by go_num,HO2,HB2⟩
    case measure=>simp[intOf]
   ·rw[show((3:Nat):Int)=3 from rfl]
    go_wp2_with (at_builtin;refine wpList_append_ints _ rfl _ _ rfl w.heap.size (4::[x0,x1,x2,x3].take 3) [x3] _ _ _ rfl ?q1 rfl ?q2 ?q3 ?q4 ?_)
    case q1=>exact numsOwn_keep HO.out (bRf.alloc nL _)
    case q2=>exact numsAt_new rfl
    case q3=>show 4+1<=1000000;omega
    case q4=>have:=HB.size;simp;omega
    intro v' w1 ho hb1 hs1 hg1 hloc
    have HO2:Hid (numsOwn w1 w.heap.size v' (4::[x0,x1,x2,x3].take (3+1))):=ho
    have HB2:=(HB.alloc HB.size _).trans hb1
    clear ho hb1 hs1 hg1 hloc HO HB
    go_wp2
    go_roundw
    case rel=>exact⟨3+1,by omega,by go_num,HO2,HB2⟩
    case measure=>simp[intOf]
   ·rw[show((4:Nat):Int)=4 from rfl]
    go_wp2_with fail
    go_ret
    exact⟨_,rfl,HO.out,HB⟩
theorem arNums_succ(h: ¬s.given c=0):arNums s (n+1) c=(s.given c:Int)::(wordNums s c++arNums s n (c+1)):=by
 rw[arNums,if_neg h]
theorem arNums_stop(h:s.given c=0):arNums s (n+1) c=[(s.given c:Int)]:=by
 rw[arNums,if_pos h]
theorem arState_any (h:ArAt b o s w):
  Calls Tryz.prog 258 #[.pointer (some ⟨b,o,none⟩)] w fun e w'=> ∃v,e= .returned v/\numsOwn w' w.heap.size v (arNums s s.size 0)/\Below w.heap.size w w':=by
 have HC:=hide (cells_any b o s w h)
 have hz:=h.small
 have HH:=hide h
 clear h
 go_enter Tryz.func258,Tryz.ntmps258
 go_wp2_with fail
 refine HC.out.mono ?_
 rintro e w1 ⟨rfl,rfl⟩
 clear HC
 go_wp2_with fail
 go_loopw [3,4,7] (fun l _ i wr=> ∃j:Nat,j<=s.size/\i= .int .i64 j/\Hid (∃pre,numsOwn wr w1.heap.size l pre/\pre++arNums s (s.size - j) j=arNums s s.size 0/\pre.length<=6*j)/\Below w1.heap.size w1 wr) (fun _ _ i _=>s.size - (intOf i).toNat)
 case atStart=>exact⟨0,Nat.zero_le _,rfl,⟨[],numsOwn_nil _ _,rfl,Nat.le_refl _⟩,Below.refl _ _⟩
 case round=>
  obtain⟨j,hj,rfl,HO,HB⟩:=hrel
  by_cases hlt:j<s.size
  ·obtain ⟨pre,ho,hp,hpl⟩:=HO.out
   have ji:(j:Int)<s.size:=by omega
   have j64:(j:Int)<64:=by omega
   have hr:=HH.out.turns (Turns.of_below (S:=fun _ _=>False) HB) (fun _ _ h=>h)
   have hg:=hr.given j (by omega)
   have yb:=hr.lt
   have HW:=hide (fun w' (k:Below wr.heap.size wr w')=>wordsOf_any (hr.turns (Turns.of_below (S:=fun _ _=>False) k) (fun _ _ h=>h)) (c:=j) (by omega))
   have HO1:=hide ho
   have HP:=hide hp
   have hn:s.size - j=(s.size - (j+1))+1:=by omega
   clear hr ho hp HO
   go_wp2_with (at_builtin;refine wpList_append_ints _ rfl _ _ rfl w1.heap.size pre [(s.given j:Int)] _ _ _ rfl ?q1 rfl ?q2 ?q3 ?q4 ?_)
   case q1=>exact numsOwn_keep HO1.out (bRf.alloc nL _)
   case q2=>exact numsAt_new rfl
   case q3=>show pre.length+1<=1000000;omega
   case q4=>have:=HB.size;simp;omega
   intro v' w2 ho2 hb2 hs2 hgr hloc
   have HO2:=hide ho2
   have HB2:=(HB.alloc HB.size _).trans hb2
   have hr2:=HH.out.below HB2
   have hg2:=hr2.given j (by omega)
   have yb2:=hr2.lt
   have HW:=hide (wordsOf_any hr2 (c:=j) (by omega))
   clear ho2 hb2 hs2 hgr hloc hr2 hg yb HO1 HB
   by_cases hz0:s.given j=0
   ·have z1:((s.given j:Nat):Int)=0:=by omega
    have HZ:Hid (numsOwn w2 w1.heap.size v' (arNums s s.size 0)):=by
     rw[<-HP.out,hn,arNums_stop hz0];exact HO2.out
    clear HO2 HP HW hn
    generalize ((s.given j:Nat):Int)=g at*
    subst z1
    go_wp2_with fail
    go_ret
    exact⟨_,rfl,HZ.out,HB2⟩
   ·have z1: ¬((s.given j:Nat):Int)=0:=by omega
    have z2:(((s.given j:Nat):Int)==0)=false:=beq_eq_false_iff_ne.2 z1
    have HP2:Hid ((pre++[(s.given j:Int)]++wordNums s j)++arNums s (s.size - (j+1)) (j+1)=arNums s s.size 0):=by
     have e:=HP.out
     rw[hn,arNums_succ hz0] at e
     show _=_
     rw[<-e]
     simp
    have wl:=wordNums_len s j
    clear HP hn hz0
    generalize ((s.given j:Nat):Int)=g at*
    go_wp2_with fail
    refine HW.out.mono ?_
    rintro e w3 ⟨u,rfl,hu,hb3⟩
    obtain⟨au,cu,rfl,hua⟩:=numsOwn_open hu wl.1
    have HO3:=hide (numsOwn_keep HO2.out hb3)
    have HU:=hide hua
    have HB3:=below_step HB2 hb3
    clear HO2 hu hua hb3 HW HB2 hg2 yb2
    generalize hL:wordNums s j=L at*
    clear hL
    go_wp2_with (at_builtin;refine wpList_append_ints _ rfl _ _ rfl w1.heap.size (pre++[g]) L _ _ _ rfl ?q1 rfl ?q2 ?q3 ?q4 ?_)
    case q1=>exact HO3.out
    case q2=>exact HU.out
    case q3=>rw[List.length_append];show pre.length+1+L.length<=1000000;omega
    case q4=>exact HB3.size
    intro v4 w4 ho4 hb4 hs4 hgr4 hloc4
    have HB4:=HB3.trans hb4
    have HZ:Hid (∃pre,numsOwn w4 w1.heap.size v4 pre/\pre++arNums s (s.size - (j+1)) (j+1)=arNums s s.size 0/\pre.length<=6*(j+1)):=⟨pre++[g]++L,by simpa using ho4,HP2.out,by simp only[List.length_append];show pre.length+1+L.length<=_;omega⟩
    clear ho4 hb4 hs4 hgr4 hloc4 HO3 HB3 HU HP2
    go_wp2
    go_roundw
    case rel=>exact⟨j+1,by omega,by go_num,HZ,HB4⟩
    case measure=>simp[intOf];omega
  ·obtain rfl:j=s.size:=by omega
   obtain⟨pre,ho,hp, -⟩:=HO.out
   rw[Nat.sub_self] at hp
   have HZ:Hid (numsOwn wr w1.heap.size u3 (arNums s s.size 0)):=by
    rw[<-hp]
    have:pre++arNums s 0 s.size=pre:=List.append_nil _
    rw[this];exact ho
   clear HO ho hp
   go_wp2_with fail
   go_ret
   exact⟨_,rfl,HZ.out,HB⟩
end
section
open Go.RowKit Go.Extern.Stop Go.Stop Go.Extern Go.Maps Go.WideMaps Go.Sort
variable {w:World}
theorem numsAt_new2{l:List Int}{cs:Array Value}{t:TypeId}{ob:Obj}(h:cs.toList=ncells l):numsAt (some ⟨w.heap.size+1,0,none⟩) l ((w.alloc ob).alloc (.cells cs t)):=by
 have:=numsAt_new (w:=w.alloc ob) (t:=t) h
 rwa [World.size_alloc] at this
theorem lnState_any {b o:Nat} {l:List Wt} (h:LnAt b o l w):
  Calls Tryz.prog 259 #[.pointer (some ⟨b,o,none⟩)] w fun e w'=> ∃v,e= .returned v/\numsOwn w' w.heap.size v (lnNums l)/\Below w.heap.size w w':=by
 have hle:=h.le
 have hln:=h.len
 have yb:=h.lt
 have HH:=hide h
 have li:(l.length:Int)<=8:=by omega
 clear h
 go_enter Tryz.func259,Tryz.ntmps259
 go_wp2_with fail
 go_quiet (fail)
 have B1:Below w.heap.size w ((w.alloc (.cells #[.int .i64 l.length] 3)).drewN nq):=below_dN (bRf.alloc nL _) nq
 have HO:Hid (numsOwn ((w.alloc (.cells #[.int .i64 l.length] 3)).drewN nq) w.heap.size (.slice (some ⟨w.heap.size,0,none⟩) 1 1) [(l.length:Int)]):=hide (numsOwn_keep (numsOwn_new (l:=[(l.length:Int)]) rfl nL (show 1<=1000000 by decide)) (Below.drewN' nq))
 generalize (w.alloc (.cells #[.int .i64 l.length] 3)).drewN nq=W1 at*
 go_wp2_with fail
 go_loopw [3,5,20] (fun v _ i wr=> ∃j:Nat,j<=l.length/\i= .int .i64 j/\Hid (numsOwn wr w.heap.size v ((l.length:Int)::(l.take j).flatMap wtNums))/\Below w.heap.size w wr) (fun _ _ i _=>l.length - (intOf i).toNat)
 case atStart=>exact⟨0,Nat.zero_le _,rfl,HO,B1⟩
 case round=>
  clear HO B1
  obtain⟨j,hj,rfl,HO,HB⟩:=hrel
  by_cases hlt:j<l.length
  ·have ji:(j:Int)<l.length:=by omega
   obtain⟨x,hx⟩: ∃x,l[j]? =some x:=⟨_,List.getElem?_eq_getElem hlt⟩
   have hr:=HH.out.below HB
   have cell: ∀k,k<4->wr.cell? ⟨b,o+j*4+k,none⟩=some (.int .i64 (x.nth k)):=fun k hk=>by
    have:=hr.row j k (by omega) hk
    rw[this]
    unfold lnCell
    rw[hx]
   have e0:wr.cell? ⟨b,o+j*4,none⟩=some (.int .i64 x.c):=cell 0 (by decide)
   have e1:wr.cell? ⟨b,o+j*4+1,none⟩=some (.int .i64 x.g):=cell 1 (by decide)
   have e2:wr.cell? ⟨b,o+j*4+2,none⟩=some (.int .i64 x.w):=cell 2 (by decide)
   have e3:wr.cell? ⟨b,o+j*4+3,none⟩=some (.int .i64 x.v):=cell 3 (by decide)
   have HS:Hid ((l.length:Int)::(l.take (j+1)).flatMap wtNums=((l.length:Int)::(l.take j).flatMap wtNums)++[x.c,x.g,x.w,x.v]):=hide (by
    rw[List.take_add_one,hx,List.flatMap_append]
    simp[wtNums])
   have hl4:((l.length:Int)::(l.take j).flatMap wtNums).length<=33:=by rw[List.length_cons,wts_len,List.length_take];omega
   clear hr cell hx
   generalize ((l.length:Int)::(l.take j).flatMap wtNums)=pre at*
   go_wp2_with (at_builtin;refine wpList_append_ints _ rfl _ _ rfl w.heap.size pre [x.c,x.g,x.w,x.v] _ _ _ rfl ?q1 rfl ?q2 ?q3 ?q4 ?_)
   case q1=>exact numsOwn_keep HO.out ((bRf.alloc nL _).alloc (by simp) _)
   case q2=>exact numsAt_new2 rfl
   case q3=>show pre.length+4<=1000000;omega
   case q4=>have:=HB.size;simp;omega
   intro v' w2 ho2 hb2 hs2 hgr hloc
   have HB2:Below w.heap.size w w2:=((HB.alloc HB.size _).alloc (by have:=HB.size;simp;omega) _).trans hb2
   have HO2:Hid (numsOwn w2 w.heap.size v' ((l.length:Int)::(l.take (j+1)).flatMap wtNums)):=hide (by rw[HS.out];exact ho2)
   clear ho2 hb2 hs2 hgr hloc HO HB HS
   go_wp2
   go_roundw
   case rel=>exact⟨j+1,by omega,by go_num,HO2,HB2⟩
   case measure=>simp[intOf];omega
  ·obtain rfl:j=l.length:=by omega
   have HZ:Hid (numsOwn wr w.heap.size u3 (lnNums l)):=by
    have:=HO.out
    rw[List.take_length] at this
    exact this
   clear HO
   go_wp2_with fail
   go_ret
   exact⟨_,rfl,HZ.out,HB⟩
theorem mmState_any {b:Nat} {s:Rm} (h:MmAt b s w):
  Calls Tryz.prog 245 #[.pointer (some ⟨b,0,none⟩)] w fun e w'=> ∃v,e= .returned v/\numsOwn w' w.heap.size v (memNums s)/\Below w.heap.size w w':=by
 have HA:=hide (arState_any h.ar)
 have h6:=h.few
 have hnt:=h.nt
 have HH:=hide h
 have la:=arNums_len s.ar s.ar.size 0
 have hz:=h.ar.small
 clear h
 unfold memNums
 generalize hP:arNums s.ar s.ar.size 0=P at*
 have lp:P.length<=384:=by omega
 clear hP la hz
 go_enter Tryz.func245,Tryz.ntmps245
 go_wp2_with fail
 refine HA.out.mono ?_
 rintro e w1 ⟨v,rfl,hv,hb1⟩
 have hnt1:=keep_cell hb1 hnt
 have HO:=hide hv
 clear HA hnt hv
 go_wp2_with fail
 go_loopw [3,4,15] (fun l _ i wr=> ∃j:Nat,j<=s.threads/\i= .int .i64 j/\Hid (∃pre,numsOwn wr w.heap.size l pre/\pre=P++linesNums s j/\pre.length<=384+33*j)/\Below w.heap.size w wr) (fun _ _ i _=>s.threads - (intOf i).toNat)
 case atStart=>exact⟨0,Nat.zero_le _,rfl,⟨P,HO.out,(List.append_nil _).symm,by omega⟩,hb1⟩
 case round=>
  clear HO hb1 hnt1
  obtain⟨j,hj,rfl,HO,HB⟩:=hrel
  obtain⟨pre,ho,hp,hpl⟩:=HO.out
  by_cases hlt:j<s.threads
  ·have ji:(j:Int)<s.threads:=by omega
   have j6:(j:Int)<6:=by omega
   have hr:=HH.out.below HB
   have HL:=hide (lnState_any (hr.line j hlt))
   have ll:(lnNums (s.waits j)).length<=33:=by
    have:=(hr.line j hlt).le
    rw[lnNums_len];omega
   have l0:0<(lnNums (s.waits j)).length:=by rw[lnNums_len];omega
   have HS:Hid (pre++lnNums (s.waits j)=P++linesNums s (j+1)):=hide (by
    rw[hp,List.append_assoc];rfl)
   have HO1:=hide ho
   clear hr ho hp HO
   generalize lnNums (s.waits j)=LL at*
   go_wp2_with fail
   refine HL.out.mono ?_
   rintro e w2 ⟨u,rfl,hu,hb2⟩
   obtain⟨au,cu,rfl,hua⟩:=numsOwn_open hu l0
   have HO2:=hide (numsOwn_keep HO1.out hb2)
   have HU:=hide hua
   have HB2:=below_step HB hb2
   clear hu hua hb2 HL HB HO1
   go_wp2_with (at_builtin;refine wpList_append_ints _ rfl _ _ rfl w.heap.size pre LL _ _ _ rfl ?q1 rfl ?q2 ?q3 ?q4 ?_)
   case q1=>exact HO2.out
   case q2=>exact HU.out
   case q3=>omega
   case q4=>exact HB2.size
   intro v4 w4 ho4 hb4 hs4 hgr4 hloc4
   have HB4:=HB2.trans hb4
   have HZ:Hid (∃pre,numsOwn w4 w.heap.size v4 pre/\pre=P++linesNums s (j+1)/\pre.length<=384+33*(j+1)):=⟨pre++LL,ho4,HS.out,by rw[List.length_append];omega⟩
   clear ho4 hb4 hs4 hgr4 hloc4 HO2 HB2 HU HS
   go_wp2
   go_roundw
   case rel=>exact⟨j+1,by omega,by go_num,HZ,HB4⟩
   case measure=>simp[intOf];omega
  ·obtain rfl:j=s.threads:=by omega
   have HZ:Hid (numsOwn wr w.heap.size u3 (P++linesNums s s.threads)):=by rw[<-hp];exact ho
   clear HO ho hp
   go_wp2_with fail
   go_ret
   exact⟨_,rfl,HZ.out,HB⟩
theorem mWaiting_any{b:Nat}{s:Rm}(h:MmAt b s w){t:Nat}(ht:t<s.threads):
  Calls Tryz.prog 144 #[.pointer (some ⟨b,0,none⟩), .int .i64 t] w fun e w'=>e= .returned (.int .i64 (s.waits t).length)/\w'=w:=by
 have HH:=hide (has_m_yes b s t w h ht)
 have h6:=h.few
 have hl:=(h.line t ht).len
 have t6:(t:Int)<6:=by omega
 clear h ht
 go_enter Tryz.func144,Tryz.ntmps144
 go_wp2_with fail
 refine HH.out.mono ?_
 rintro e w1 ⟨rfl,rfl⟩
 go_wp2_with fail
 go_ret
 exact⟨rfl,rfl⟩
end
section
open Go.RowKit Go.Extern.Stop Go.Stop Go.Extern Go.Maps Go.WideMaps Go.Sort
theorem step_append_ints (w:World) {ops:Array Oper} {o:Oper} {a:Act} {K:Act->World->Prop} {Q:Exit->Act->World->Prop} {E:Prop} (hgd:o.guard=none) (s x:Operand)
  (ho:o.op= .call { callee:= .builtin .append,args:=#[s,x],argTypes:=#[23,23] }) (base:Nat) (l0 l:List Int) (v:Value) (n0 n:Nat) (ad:Addr) (cap:Nat)
  (hs:a.eval s=v) (hown:numsOwn w base v l0) (hx:a.eval x= .slice (some ad) n cap) (hn0:l0.length=n0) (hn:l.length=n) (hl:numsAt (some ad) l w) (h3:n0+n<=1000000) (hb:base<=w.heap.size)
  (h: ∀g cap w',numsOwn w' base (.slice g (n0+n) cap) (l0++l)->Below base w w'->w.grownBy w' v.ownBlock->K (a.put o.dst (.slice g (n0+n) cap)) w'):
  if Region.wanted o (yielded ops a.tmps)=true then Oper.wp Tryz.prog o a w K Q else E:=by
 obtain⟨ri,hri,hrz,hrs,hrb⟩:=wkInt
 subst hn0
 subst hn
 refine step_append_at w hgd s x 23 ho base 3 ri (.int .i64 0) 1 8 Tryz.underlying23 hri hrz hrs hrb rfl (by decide) v l0.length (ncells l0) hs hown ad l.length cap (ncells l) hx (by unfold ncells;rw[List.length_map,Nat.mul_one]) (fun j u hj=>?_) (fun u hu=>?_) (by unfold maxLen;omega) (by omega) hb (fun g cap' w' h2 hg _=>?_)
 ·unfold ncells at hj
  rw[List.getElem?_map] at hj
  cases hxj:l[j]? with
  |none=>rw[hxj] at hj;cases hj
  | some y=>
   rw[hxj] at hj;cases hj
   obtain⟨_,_,e,c⟩:=hl j y hxj
   cases e
   rw[Addr.add_lit];exact c
 ·obtain⟨y,_,rfl⟩:=List.mem_map.1 hu;rfl
 ·refine h g cap' w' ?_ ((Below.refl base w).grown hg hb (fun k hk=>(hown.lt k hk).1)) hg
  unfold numsOwn
  rw[List.length_append,ncells_append]
  exact h2
theorem numsAt_kept{w w':World}{b:Nat}{l:List Int}{ob:Option Nat}(h:numsAt (some ⟨b,0,none⟩) l w)(hg:w.grownBy w' ob)(hne:some b≠ob):numsAt (some ⟨b,0,none⟩) l w':=fun i x hx=>by
 obtain⟨b',off,e,hc⟩:=h i x hx
 cases e
 exact⟨b,0,rfl,hg.cell hc hne⟩
theorem mkState_any {a:Nat->Addr} {cs:List (List Ins)} {p:MkPl} {m:Mk} {w:World} (h:MkAt a cs p m w):
  Calls Tryz.prog 230 #[.pointer (some ⟨p.b,0,none⟩)] w fun e w'=> ∃v,e= .returned v/\numsOwn w' w.heap.size v (mkNums cs.length m)/\Below w.heap.size w w':=by
 have HM:=hide (mmState_any h.mem)
 have h6:=h.few
 have HH:=hide h
 have lm:(memNums m.mem).length<=384+33*6:=by
  have la:=arNums_len m.mem.ar m.mem.ar.size 0
  have hz:=h.mem.ar.small
  have h7:=h.mem.few
  have hl: ∀k,k<=m.mem.threads->(linesNums m.mem k).length<=33*k:=by
   intro k
   induction k with
   |zero=>intro _;exact Nat.le_refl _
   | succ k ih=>
    intro hk
    have:=ih (by omega)
    have:=(h.mem.line k (by omega)).le
    have e:(linesNums m.mem (k+1)).length=(linesNums m.mem k).length+(lnNums (m.mem.waits k)).length:=List.length_append
    rw[e,lnNums_len];omega
  have:=hl m.mem.threads nL
  unfold memNums
  rw[List.length_append];omega
 have c6:(cs.length:Int)<=6:=by omega
 unfold mkNums
 clear h
 generalize memNums m.mem=P at*
 go_enter Tryz.func230,Tryz.ntmps230
 go_wp2_with fail
 refine HM.out.mono ?_
 rintro e w1 ⟨v,rfl,hv,hb1⟩
 have hpr:=(HH.out.below hb1).prog
 have HO:=hide hv
 clear HM hv
 go_wp2_with fail
 go_quiet (fail)
 have B1:=below_dN hb1 nq
 have HO1:=hide (numsOwn_keep HO.out (Below.drewN' nq))
 clear HO hb1 hpr
 generalize w1.drewN nq=W1 at*
 go_wp2_with fail
 go_loopw [3,5,22] (fun l _ i wr=> ∃j:Nat,j<=cs.length/\i= .int .i64 j/\Hid (∃pre,numsOwn wr w.heap.size l pre/\pre=P++thrsNums m j/\pre.length<=600+9*j)/\Below w.heap.size w wr) (fun _ _ i _=>cs.length - (intOf i).toNat)
 case atStart=>exact⟨0,Nat.zero_le _,rfl,⟨P,HO1.out,(List.append_nil _).symm,by omega⟩,B1⟩
 case round =>
  clear HO1 B1
  obtain⟨j,hj,rfl,HO,HB⟩:=hrel
  obtain⟨pre,ho,hp,hpl⟩:=HO.out
  by_cases hlt:j<cs.length
  ·have ji :(j:Int)<cs.length:=by omega
   have hr:=HH.out.below HB
   have r0:=hr.reg j 0 (by omega) (by decide)
   have r1:=hr.reg j 1 (by omega) (by decide)
   have r2:=hr.reg j 2 (by omega) (by decide)
   have r3:=hr.reg j 3 (by omega) (by decide)
   have r4:=hr.reg j 4 (by omega) (by decide)
   have r5:=hr.reg j 5 (by omega) (by decide)
   have r6:=hr.reg j 6 (by omega) (by decide)
   have r7:=hr.reg j 7 (by omega) (by decide)
   have r8:=hr.pc j (by omega)
   rw[Nat.add_zero] at r0
   have yb:=hr.lt
   have HS:Hid ((pre++[m.regs j 0,m.regs j 1,m.regs j 2,m.regs j 3,m.regs j 4,m.regs j 5,m.regs j 6,m.regs j 7])++[(m.pc j:Int)]=P++thrsNums m (j+1)):=hide (by
    rw[hp]
    show _=P++(thrsNums m j++thrNums m j)
    unfold thrNums
    simp only[List.append_assoc])
   have HO1:=hide ho
   clear hr ho hp HO
   obtain⟨R8,hR8⟩: ∃R8,R8=[m.regs j 0,m.regs j 1,m.regs j 2,m.regs j 3,m.regs j 4,m.regs j 5,m.regs j 6,m.regs j 7]:=⟨_,rfl⟩
   have hR8l:R8.length=8:=by rw[hR8];rfl
   have HR:Hid (numsAt (some ⟨wr.heap.size,0,none⟩) R8 (wr.alloc (.cells #[.int .i64 (m.regs j 0), .int .i64 (m.regs j 1), .int .i64 (m.regs j 2), .int .i64 (m.regs j 3), .int .i64 (m.regs j 4), .int .i64 (m.regs j 5), .int .i64 (m.regs j 6), .int .i64 (m.regs j 7), .int .i64 (m.pc j)] 134))):=hide (fun i x hx=>by
    refine⟨wr.heap.size,0,rfl,?_⟩
    rw[World.cell?_alloc_new,Nat.zero_add]
    rw[hR8] at hx
    match i,hx with
    |0,hx=>cases hx;rfl
    |1,hx=>cases hx;rfl
    |2,hx=>cases hx;rfl
    |3,hx=>cases hx;rfl
    |4,hx=>cases hx;rfl
    |5,hx=>cases hx;rfl
    |6,hx=>cases hx;rfl
    |7,hx=>cases hx;rfl)
   rw[<-hR8] at HS
   go_wp2_with fail
   have c8:(wr.alloc (.cells #[.int .i64 (m.regs j 0), .int .i64 (m.regs j 1), .int .i64 (m.regs j 2), .int .i64 (m.regs j 3), .int .i64 (m.regs j 4), .int .i64 (m.regs j 5), .int .i64 (m.regs j 6), .int .i64 (m.regs j 7), .int .i64 (m.pc j)] 134)).cell? ⟨wr.heap.size,8,none⟩=some (.int .i64 (m.pc j)):=by rw[World.cell?_alloc_new];rfl
   have HN:=hide (numsOwn_keep HO1.out ((Below.refl _ wr).alloc nL (.cells #[.int .i64 (m.regs j 0), .int .i64 (m.regs j 1), .int .i64 (m.regs j 2), .int .i64 (m.regs j 3), .int .i64 (m.regs j 4), .int .i64 (m.regs j 5), .int .i64 (m.regs j 6), .int .i64 (m.regs j 7), .int .i64 (m.pc j)] 134)))
   have B2:Below w.heap.size w (wr.alloc (.cells #[.int .i64 (m.regs j 0), .int .i64 (m.regs j 1), .int .i64 (m.regs j 2), .int .i64 (m.regs j 3), .int .i64 (m.regs j 4), .int .i64 (m.regs j 5), .int .i64 (m.regs j 6), .int .i64 (m.regs j 7), .int .i64 (m.pc j)] 134)):=HB.alloc HB.size _
   have sB:=bLt c8
   have hb2:=B2.size
   have hne:some wr.heap.size≠u3.ownBlock:=fun e=>by have:=(World.ownsRow.lt HO1.out _ e.symm).2;omega
   have hne2:some (wr.alloc (.cells #[.int .i64 (m.regs j 0), .int .i64 (m.regs j 1), .int .i64 (m.regs j 2), .int .i64 (m.regs j 3), .int .i64 (m.regs j 4), .int .i64 (m.regs j 5), .int .i64 (m.regs j 6), .int .i64 (m.regs j 7), .int .i64 (m.pc j)] 134)).heap.size≠u3.ownBlock:=fun e=>by
    rw[World.size_alloc] at e
    have:=(World.ownsRow.lt HO1.out _ e.symm).2
    omega
   clear hR8 HB HO1 r0 r1 r2 r3 r4 r5 r6 r7 r8 yb
   generalize (wr.alloc (.cells #[.int .i64 (m.regs j 0), .int .i64 (m.regs j 1), .int .i64 (m.regs j 2), .int .i64 (m.regs j 3), .int .i64 (m.regs j 4), .int .i64 (m.regs j 5), .int .i64 (m.regs j 6), .int .i64 (m.regs j 7), .int .i64 (m.pc j)] 134))=W2 at*
   generalize wr.heap.size=bx at*
   have hn3:pre.length+8<=1000000:=by omega
   have hn4:pre.length+8+1<=1000000:=by omega
   have HNp:Hid (numsOwn (W2.alloc (.cells #[.int .i64 (m.pc j)] 3)) w.heap.size u3 pre):=hide (numsOwn_keep HN.out ((Below.refl _ W2).alloc nL _))
   have HRp:Hid (numsAt (some ⟨bx,0,none⟩) R8 (W2.alloc (.cells #[.int .i64 (m.pc j)] 3))):=hide (HR.out.below ((Below.refl _ W2).alloc nL _))
   have HPp:Hid (numsAt (some ⟨W2.heap.size,0,none⟩) [(m.pc j:Int)] (W2.alloc (.cells #[.int .i64 (m.pc j)] 3))):=hide (numsAt_new rfl)
   have BBp:Hid (Below w.heap.size w (W2.alloc (.cells #[.int .i64 (m.pc j)] 3))):=hide (B2.alloc hb2 _)
   have BB2:=hide B2
   go_region_law
    (first
      | (refine step_append_ints _ (by rfl) _ _ (by rfl) w.heap.size pre R8 u3 pre.length 8 ⟨bx,0,none⟩ 8 (by rfl) (by exact HN.out) (by rfl) rfl hR8l (by exact HR.out) hn3 (by exact BB2.out.size) ?_
         intro g6 cap6 w6 ho6 hb6 hg6
         have c86:w6.cell? ⟨bx,8,none⟩=some (.int .i64 (m.pc j)):=hg6.cell c8 hne
         have B6:Hid (Below w.heap.size w w6):=hide (by refine Below.trans ?_ hb6;exact Below.mk BB2.out.os BB2.out.tape BB2.out.output BB2.out.size BB2.out.block))
      | (refine step_append_ints _ (by rfl) _ _ (by rfl) w.heap.size pre R8 u3 pre.length 8 ⟨bx,0,none⟩ 8 (by rfl) (by exact HNp.out) (by rfl) rfl hR8l (by exact HRp.out) hn3 (by exact BBp.out.size) ?_
         intro g6 cap6 w6 ho6 hb6 hg6
         have pl6:Hid (numsAt (some ⟨W2.heap.size,0,none⟩) [(m.pc j:Int)] w6):=hide (numsAt_kept (by exact HPp.out) hg6 hne2)
         have B6:Hid (Below w.heap.size w w6):=hide (by refine Below.trans ?_ hb6;exact Below.mk BBp.out.os BBp.out.tape BBp.out.output BBp.out.size BBp.out.block))
      | (refine step_append_ints _ (by rfl) _ _ (by rfl) w.heap.size (pre++R8) [(m.pc j:Int)] (.slice g6 (pre.length+8) cap6) (pre.length+8) 1 ⟨_,0,none⟩ 1 (by rfl) (by exact ho6) (by rfl) (by rw[List.length_append,hR8l]) rfl (by exact pl6.out) hn4 (by exact B6.out.size) ?_
         intro g7 cap7 w7 ho7 hb7 hg7
         have B7:Hid (Below w.heap.size w w7):=hide (by refine Below.trans ?_ hb7;exact Below.mk B6.out.os B6.out.tape B6.out.output B6.out.size B6.out.block))
      | (refine step_append_ints _ (by rfl) _ _ (by rfl) w.heap.size (pre++R8) [(m.pc j:Int)] (.slice g6 (pre.length+8) cap6) (pre.length+8) 1 ⟨_,0,none⟩ 1 (by rfl) (by exact numsOwn_keep ho6 ((Below.refl _ w6).alloc nL (.cells #[.int .i64 (m.pc j)] 3))) (by rfl) (by rw[List.length_append,hR8l]) rfl (by exact numsAt_new (w:=w6) (cs:=#[.int .i64 (m.pc j)]) (t:=3) rfl) hn4 (by exact(B6.out.alloc B6.out.size (.cells #[.int .i64 (m.pc j)] 3)).size) ?_
         intro g7 cap7 w7 ho7 hb7 hg7
         have B7:Hid (Below w.heap.size w w7):=hide (by refine Below.trans ?_ hb7;exact Below.mk B6.out.os B6.out.tape B6.out.output (B6.out.alloc B6.out.size (.cells #[.int .i64 (m.pc j)] 3)).size (B6.out.alloc B6.out.size (.cells #[.int .i64 (m.pc j)] 3)).block))
      |fail "no law")
   all_goals
    obtain⟨vz,hvz⟩: ∃vz,vz=Value.slice g7 (pre.length+8+1) cap7:=⟨_,rfl⟩
    have HZ:Hid (∃pre,numsOwn w7 w.heap.size vz pre/\pre=P++thrsNums m (j+1)/\pre.length<=600+9*(j+1)):=⟨_,by rw[hvz];exact ho7,HS.out,by rw[List.length_append,List.length_append,hR8l];show pre.length+8+1<=_;omega⟩
    rw[hvz] at HZ
    clear hvz
    clear ho7 hb7 hg7 ho6 hb6 hg6
    go_wp2_with fail
    go_roundw
    case rel=>exact⟨j+1,by omega,by go_num,HZ,B7.out⟩
    case measure=>simp[intOf];omega
  ·obtain rfl:j=cs.length:=by omega
   have HZ:Hid (numsOwn wr w.heap.size u3 (P++thrsNums m cs.length)):=by rw[<-hp];exact ho
   clear HO ho hp
   go_wp2_with fail
   go_ret
   exact⟨_,rfl,HZ.out,HB⟩
end
section
open Go.RowKit
variable {n:Nat}
def vb(n:Nat):List UInt8:=if n<128 then [UInt8.ofNat n] else UInt8.ofNat (128+n % 128)::vb (n / 128)
termination_by n
decreasing_by omega
theorem vb_small(h:n<128):vb n=[UInt8.ofNat n]:=by unfold vb;rw[if_pos h]
theorem vb_great(h: ¬n<128):vb n=UInt8.ofNat (128+n % 128)::vb (n / 128):=by rw[vb,if_neg h]
theorem u8_nat(h:n<256):(UInt8.ofNat n).toNat=n:=by simp;omega
theorem vb_ne(n:Nat):vb n≠[]:=by
 by_cases h:n<128
 ·rw[vb_small h];simp
 ·rw[vb_great h];simp
theorem vb_len: ∀(k n:Nat),n<128 ^ k->0<k->(vb n).length<=k
 |0,_,_,h=>absurd h (by omega)
 | k +1,n,h,_=>by
  by_cases h1:n<128
  ·rw[vb_small h1];simp
  ·rw [vb_great h1,List.length_cons]
   have h2:n / 128<128 ^ k:=by
    rw[Nat.div_lt_iff_lt_mul (by decide)]
    rw[Nat.pow_succ] at h;exact h
   by_cases hk:0<k
   ·have:=vb_len k (n / 128) h2 hk
    omega
   ·have:k=0:=by omega
    subst this
    simp at h
    omega
theorem vb_inj: ∀(n m:Nat) (r r':List UInt8),vb n++r=vb m++r'->n=m/\r=r':=by
 intro n
 induction n using Nat.strongRecOn with
 | _ n ih=>
  intro m r r' h
  by_cases h1:n<128
  ·by_cases h2:m<128
   ·rw[vb_small h1,vb_small h2] at h
    have e:=(List.cons.inj h).1
    have:=congrArg UInt8.toNat e
    rw[u8_nat (by omega),u8_nat (by omega)] at this
    exact⟨this,(List.cons.inj h).2⟩
   ·rw[vb_small h1,vb_great h2] at h
    have e:=(List.cons.inj h).1
    have:=congrArg UInt8.toNat e
    rw[u8_nat (by omega),u8_nat (by omega)] at this
    omega
  ·by_cases h2:m<128
   ·rw[vb_great h1,vb_small h2] at h
    have e:=(List.cons.inj h).1
    have:=congrArg UInt8.toNat e
    rw[u8_nat (by omega),u8_nat (by omega)] at this
    omega
   ·rw[vb_great h1,vb_great h2] at h
    have e:=(List.cons.inj h).1
    have:=congrArg UInt8.toNat e
    rw[u8_nat (by omega),u8_nat (by omega)] at this
    obtain⟨q1,q2⟩:=ih (n / 128) (by omega) (m / 128) r r' (List.cons.inj h).2
    exact⟨by omega,q2⟩
def vbs(l:List Int):List UInt8:=l.flatMap fun x=>vb x.toNat
theorem vbs_snoc(l:List Int)(x:Int):vbs (l++[x])=vbs l++vb x.toNat:=by simp[vbs]
theorem vbs_inj: ∀(l l':List Int),(∀x∈l,0<=x)->(∀x∈l',0<=x)->vbs l=vbs l'->l=l'
 | [],[],_,_,_=>rfl
 | [],y::l',_,_,h=>by
  have:vb y.toNat++vbs l'=[]:=h.symm
  exact absurd (List.append_eq_nil_iff.1 this).1 (vb_ne _)
 | x::l,[],_,_,h=>by
  have:vb x.toNat++vbs l=[]:=h
  exact absurd (List.append_eq_nil_iff.1 this).1 (vb_ne _)
 | x::l,y::l',h1,h2,h=>by
  obtain⟨e1,e2⟩:=vb_inj x.toNat y.toNat (vbs l) (vbs l') h
  have:=h1 x List.mem_cons_self
  have:=h2 y List.mem_cons_self
  rw[vbs_inj l l' (fun z hz=>h1 z (List.mem_cons_of_mem _ hz)) (fun z hz=>h2 z (List.mem_cons_of_mem _ hz)) e2]
  rw[show x=y by omega]
def keyOf(n:Nat)(m:Mk):ByteArray:=⟨(vbs (mkNums n m)).toArray⟩
theorem keyOf_inj{m m':Mk}(h1: ∀x∈mkNums n m,0<=x)(h2: ∀x∈mkNums n m',0<=x)(h:keyOf n m=keyOf n m'):mkNums n m=mkNums n m':=by
 refine vbs_inj _ _ h1 h2 ?_
 have:=congrArg (fun b:ByteArray=>b.data.toList) h
 simpa [keyOf] using this
theorem mkNums_range {n K:Nat} {m:Mk} (h:MkOk n K m) (hw: ∀c k,0<=m.mem.ar.words c k/\m.mem.ar.words c k<4294967296) (hg: ∀c,m.mem.ar.given c<4611686018427387904) (hn: ∀t,t<n-> ∀x∈m.mem.waits t,(0<=x.c/\x.c<4611686018427387904)/\(0<=x.g/\x.g<4611686018427387904)/\(0<=x.w/\x.w<4611686018427387904)/\(0<=x.v/\x.v<4611686018427387904)): ∀x∈mkNums n m,0<=x/\x<4611686018427387904:=by
 have har : ∀(k c:Nat), ∀x∈arNums m.mem.ar k c,0<=x/\x<4611686018427387904:=by
  intro k
  induction k with
  |zero=>intro c x hx;cases hx
  | succ k ih=>
   intro c x hx
   unfold arNums at hx
   rcases List.mem_cons.1 hx with rfl |hx
   ·have:=hg c;exact⟨by omega,by omega⟩
   ·split at hx
    ·cases hx
    ·rcases List.mem_append.1 hx with hx |hx
     ·unfold wordNums at hx
      split at hx
      ·simp at hx
       rcases hx with rfl |rfl |rfl |rfl |rfl
       ·decide
       ·have:=hw c 0;omega
       ·have:=hw c 1;omega
       ·have:=hw c 2;omega
       ·have:=hw c 3;omega
      ·simp at hx;subst hx;decide
     ·exact ih (c+1) x hx
 have hln: ∀k,k<=n-> ∀x∈linesNums m.mem k,0<=x/\x<4611686018427387904:=by
  intro k
  induction k with
  |zero=>intro _ x hx;cases hx
  | succ k ih=>
   intro hk x hx
   rcases List.mem_append.1 (show x∈linesNums m.mem k++lnNums (m.mem.waits k) from hx) with hx |hx
   ·exact ih (by omega) x hx
   ·unfold lnNums at hx
    rcases List.mem_cons.1 hx with rfl |hx
    ·have:=h.mem.few k (by rw[h.thr];omega);exact⟨by omega,by omega⟩
    ·obtain⟨y,hy,hx⟩:=List.mem_flatMap.1 hx
     have:=hn k (by omega) y hy
     simp[wtNums] at hx
     rcases hx with rfl |rfl |rfl |rfl <;> omega
 have hth: ∀k, ∀x∈thrsNums m k,0<=x/\x<4611686018427387904:=by
  intro k
  induction k with
  |zero=>intro x hx;cases hx
  | succ k ih=>
   intro x hx
   rcases List.mem_append.1 (show x∈thrsNums m k++thrNums m k from hx) with hx |hx
   ·exact ih x hx
   ·have hr: ∀r,0<=m.regs k r/\m.regs k r<4294967296:=fun r=>h.regs k r
    have hp:=h.pcs k
    simp[thrNums] at hx
    rcases hx with rfl |rfl |rfl |rfl |rfl |rfl |rfl |rfl |rfl
    ·have:=hr 0;omega
    ·have:=hr 1;omega
    ·have:=hr 2;omega
    ·have:=hr 3;omega
    ·have:=hr 4;omega
    ·have:=hr 5;omega
    ·have:=hr 6;omega
    ·have:=hr 7;omega
    ·omega
 intro x hx
 unfold mkNums memNums at hx
 rcases List.mem_append.1 hx with hx |hx
 ·rcases List.mem_append.1 hx with hx |hx
  ·exact har _ _ x hx
  ·exact hln _ (by rw[h.thr];exact Nat.le_refl _) x hx
 ·exact hth n x hx
end
end Go.Proofs.YtnoigmdmgdcliaaGreatDoor
