import Derived.Test.YtnoigmdmgdcliaaGreatDoorA31
import Derived.Test.YtnoigmdmgdcliaaGreatDoorShelf
import Derived.BigQuiet
namespace Go.Proofs.YtnoigmdmgdcliaaGreatDoor
set_option maxRecDepth 100000
set_option maxHeartbeats 8000000
section
open Go.RowKit Go.Extern.Stop Go.Stop Go.Extern Go.Maps Go.WideMaps Go.Sort
theorem dec_one(k:Nat)(h:k+1<=9):(⟨(Lib.decDigits (k+1)).toArray⟩:ByteArray)=⟨#[UInt8.ofNat (48+(k+1))]⟩:=by
 have:k=0∨k=1∨k=2∨k=3∨k=4∨k=5∨k=6∨k=7∨k=8:=by omega
 rcases this with rfl |rfl |rfl |rfl |rfl |rfl |rfl |rfl |rfl <;> decide+kernel
theorem lines_fresh {b:Nat} {f:Int} {p:ByteArray} {k:Nat} (hk:k+1<=9) (hp:p.size<=1000):FreshIs b f p k:=by
 intro v L w h
 have h1:=h.c1
 have h2:=h.c2
 have f2:=h.fz 2
 have hb:b<w.heap.size:=by have:=h.sz;omega
 have HH:=hide h
 clear h
 have wr:IntKind.i64.wrap ((k:Int)+1)=((k+1:Nat):Int):=by rw[IntKind.wrap_i64];omega
 have HI:Hid (∀w',Calls Tryz.prog 184 #[.int .i64 ((k:Int)+1)] w' fun e w''=>e= .returned (.string ⟨#[UInt8.ofNat (48+(k+1))]⟩)/\w''=w'):=hide fun w'=>by
  have:=Tryz.strconv_Itoa_small (k+1) (by omega) w'
  rw[dec_one k hk] at this
  rwa [show((k+1:Nat):Int)=(k:Int)+1 by omega] at this
 have hsz:p.size+(⟨#[UInt8.ofNat (48+(k+1))]⟩:ByteArray).size<=9223372036854775807:=by
  show p.size+1<=_
  omega
 have HD:Hid (lb p (k+1)=p++(⟨#[UInt8.ofNat (48+(k+1))]⟩:ByteArray)):=hide rfl
 generalize UInt8.ofNat (48+(k+1))=d at*
 go_enter Tryz.func227,Tryz.ntmps227
 go_wp2_with fail
 have HL:Hid (LnsAt b f p (k+1) v L (w.setCell ⟨b,2,none⟩ (.int .i64 ((k:Int)+1)))):=hide (by
  obtain⟨c0,c1,c2,c3,fz,own,sz⟩:=HH.out
  exact ⟨cell_ne c0 (.inr (by decide)),cell_ne c1 (.inr (by decide)),World.cell?_setCell_same _ _ _ c2,cell_ne c3 (.inr (by decide)),fun o=>by rw[World.frozen?_setCell];exact fz o,
   ownsRow_block own (fun q hq=>Below.heap_setCell _ _ _ _ (fun e=>by have:=(own.lt q hq).1;dsimp only at e;omega)),by
    have e:(w.setCell ⟨b,2,none⟩ (.int .i64 ((k:Int)+1))).heap.size=w.heap.size:=by simp[World.setCell]
    rw[e];exact sz⟩)
 have HS:Hid (LStep b w v (w.setCell ⟨b,2,none⟩ (.int .i64 ((k:Int)+1))) v):=hide ⟨bRf.setCell (show b<=b from Nat.le_refl _) _,fun q hq h3 _=>Below.heap_setCell _ _ _ _ (fun e=>h3 (by dsimp only at e;omega)),fun _ _ e=>e⟩
 generalize w.setCell ⟨b,2,none⟩ (.int .i64 ((k:Int)+1))=w2 at*
 have c1:=HL.out.c1
 have c2:w2.cell? ⟨b,2,none⟩=some (.int .i64 ((k:Int)+1)):=HL.out.c2
 clear h1 h2 f2
 go_quiet ((go_at_call 184;exact Calls.quiet_of_same (HI.out _)))
 go_wp2
 go_ret
 exact⟨by rw[HD.out];rfl,HL.out.below (below_dN bRf _),HS.out.trans (LStep.of_below v (below_dN bRf _) (by have:=HL.out.sz;omega))⟩
end
section
open Go.RowKit Go.Extern.Stop Go.Stop Go.Extern Go.Maps Go.WideMaps Go.Sort
def Bx(b:Nat)(w:World)(v:Value)(x:Nat×Value):Prop:=x.1≠b/\x.1<w.heap.size/\v.ownBlock≠some x.1/\w.cell? ⟨x.1,0,none⟩=some x.2
theorem Bx.step{b:Nat}{w w':World}{v v':Value}{x:Nat×Value}(h:Bx b w v x)(s:LStep b w v w' v'):Bx b w' v' x:=by
 obtain⟨h1,h2,h3,h4⟩:=h
 refine⟨h1,by have:=s.low.size;omega,fun e=>h3 (s.own _ h2 e),?_⟩
 rw[World.cell?_of_block (s.keep _ h2 h1 h3)];exact h4
structure MAt(b:Nat)(f:Int)(p:ByteArray)(k:Nat)(B:List (Nat×Value))(w0:World)(v0:Value)(L:List Ins)(w:World):Prop where
 out: ∃v,LnsAt b f p k v L w/\LStep b w0 v0 w v/\ ∀x∈B,Bx b w v x
section
variable {b:Nat} {f:Int} {p:ByteArray} {k:Nat} {B:List (Nat×Value)} {w0:World} {v0:Value} {L:List Ins} {w:World}
theorem MAt.step(h: ∃v,LnsAt b f p k v L w/\LStep b w0 v0 w v/\ ∀x∈B,Bx b w v x){k':Nat}{L':List Ins}{w':World}(g: ∀v,LnsAt b f p k v L w-> ∃v',LnsAt b f p k' v' L' w'/\LStep b w v w' v'):MAt b f p k' B w0 v0 L' w':=by
 obtain⟨v,h1,h2,h3⟩:=h
 obtain⟨v',g1,g2⟩:=g v h1
 exact⟨v',g1,h2.trans g2,fun x hx=>(h3 x hx).step g2⟩
theorem MAt.below{w':World}(h:MAt b f p k B w0 v0 L w)(g:Below w.heap.size w w'):MAt b f p k B w0 v0 L w':=
 MAt.step h.out fun v hv=>⟨v,hv.below g,LStep.of_below v g (by have:=hv.sz;omega)⟩
theorem MAt.c0(h:MAt b f p k B w0 v0 L w):w.cell? ⟨b,0,none⟩=some (.int .i64 f):=by obtain⟨v,h1, -⟩:=h.out;exact h1.c0
theorem MAt.bx(h:MAt b f p k B w0 v0 L w){x:Nat×Value}(hx:x∈B):w.cell? ⟨x.1,0,none⟩=some x.2:=by obtain⟨v, -, -,h1⟩:=h.out;exact(h1 x hx).2.2.2
theorem MAt.box (h:MAt b f p k B w0 v0 L w) (u:Value) (t:TypeId):MAt b f p k ((w.heap.size,u)::B) w0 v0 L (w.alloc (.cells #[u] t)):=by
 obtain⟨v,h1,h2,h3⟩:=(h.below (bRf.alloc nL (.cells #[u] t))).out
 refine⟨v,h1,h2,fun x hx=>?_⟩
 rcases List.mem_cons.1 hx with rfl |hx
 ·obtain ⟨v1,g1, -⟩:=h.out
  have hs:=g1.sz
  refine⟨by show w.heap.size≠b;omega,by simp,fun e=>?_,?_⟩
  ·have c1:=g1.below (bRf.alloc nL (.cells #[u] t))
   have e3:v=v1:=Option.some.inj (h1.c3.symm.trans c1.c3)
   subst e3
   have:=(g1.own.lt _ e).2
   exact absurd this (Nat.lt_irrefl _)
  ·show(w.alloc (.cells #[u] t)).cell? ⟨w.heap.size,0,none⟩=_
   rw[World.cell?_alloc_new];rfl
 ·exact h3 x hx
theorem MAt.drop{B':List (Nat×Value)}(h:MAt b f p k B w0 v0 L w)(hB: ∀x∈B',x∈B):MAt b f p k B' w0 v0 L w:=by
 obtain⟨v,h1,h2,h3⟩:=h.out
 exact⟨v,h1,h2,fun x hx=>h3 x (hB x hx)⟩
def numsOf(cs:Array Value):List Int:=cs.toList.map intOf
theorem gnumsAt_new{cs:Array Value}{t:TypeId}(h:cs.toList=gcells (numsOf cs)):numsAt (some ⟨w.heap.size,0,none⟩) (numsOf cs) (w.alloc (.cells cs t)):=fun i x hx=>by
 refine⟨w.heap.size,0,rfl,?_⟩
 rw[World.cell?_alloc_new,Nat.zero_add]
 have:cs.toList[i]? =some (.int .i64 x):=by rw[h];unfold gcells;rw[List.getElem?_map,hx];rfl
 simpa using this
theorem MAt.to(h:MAt b f p k B w0 v0 L w)(hL:L.length<=1000)(q op:ByteArray)(cs:Array Value)(t:TypeId)(n c:Nat)(hn:(numsOf cs).length=n)(h3:n<=3)(hcs:cs.toList=gcells (numsOf cs)):
  Calls Tryz.prog 181 #[.pointer (some ⟨b,1,none⟩), .string q, .string op, .slice (some ⟨w.heap.size,0,none⟩) n c] (w.alloc (.cells cs t)) fun e w'=>e= .returned (.tuple #[])/\MAt b f p k B w0 v0 (L++[⟨op,(numsOf cs).getD 0 0,(numsOf cs).getD 1 0,(numsOf cs).getD 2 0,q⟩]) w':=by
 subst hn
 have h2:=h.below (bRf.alloc nL (.cells cs t))
 obtain⟨v,g1,g2,g3⟩:=h2.out
 refine(lines_to g1 hL q op _ _ c h3 (gnumsAt_new hcs) rfl rfl rfl).mono ?_
 rintro e w' ⟨rfl,v',r1,r2⟩
 exact⟨rfl,v',r1,g2.trans r2,fun x hx=>(g3 x hx).step r2⟩
theorem MAt.to_none(h:MAt b f p k B w0 v0 L w)(hL:L.length<=1000)(q op:ByteArray):
  Calls Tryz.prog 181 #[.pointer (some ⟨b,1,none⟩), .string q, .string op, .slice none 0 0] w fun e w'=>e= .returned (.tuple #[])/\MAt b f p k B w0 v0 (L++[⟨op,0,0,0,q⟩]) w':=by
 obtain⟨v,g1,g2,g3⟩:=h.out
 refine(lines_to g1 hL q op none [] 0 (by decide) (numsAt_none _) rfl rfl rfl).mono ?_
 rintro e w' ⟨rfl,v',r1,r2⟩
 exact⟨rfl,v',r1,g2.trans r2,fun x hx=>(g3 x hx).step r2⟩
theorem MAt.do(h:MAt b f p k B w0 v0 L w)(hL:L.length<=1000)(op:ByteArray)(cs:Array Value)(t:TypeId)(n c:Nat)(hn:(numsOf cs).length=n)(h3:n<=3)(hcs:cs.toList=gcells (numsOf cs)):
  Calls Tryz.prog 112 #[.pointer (some ⟨b,1,none⟩), .string op, .slice (some ⟨w.heap.size,0,none⟩) n c] (w.alloc (.cells cs t)) fun e w'=>e= .returned (.tuple #[])/\MAt b f p k B w0 v0 (L++[⟨op,(numsOf cs).getD 0 0,(numsOf cs).getD 1 0,(numsOf cs).getD 2 0,no⟩]) w':=by
 subst hn
 have h2:=h.below (bRf.alloc nL (.cells cs t))
 obtain⟨v,g1,g2,g3⟩:=h2.out
 refine(lines_do g1 hL op _ _ c h3 (gnumsAt_new hcs) rfl rfl rfl).mono ?_
 rintro e w' ⟨rfl,v',r1,r2⟩
 exact⟨rfl,v',r1,g2.trans r2,fun x hx=>(g3 x hx).step r2⟩
theorem MAt.do_none(h:MAt b f p k B w0 v0 L w)(hL:L.length<=1000)(op:ByteArray):
  Calls Tryz.prog 112 #[.pointer (some ⟨b,1,none⟩), .string op, .slice none 0 0] w fun e w'=>e= .returned (.tuple #[])/\MAt b f p k B w0 v0 (L++[⟨op,0,0,0,no⟩]) w':=by
 obtain⟨v,g1,g2,g3⟩:=h.out
 refine(lines_do g1 hL op none [] 0 (by decide) (numsAt_none _) rfl rfl rfl).mono ?_
 rintro e w' ⟨rfl,v',r1,r2⟩
 exact⟨rfl,v',r1,g2.trans r2,fun x hx=>(g3 x hx).step r2⟩
theorem MAt.to1(h:MAt b f p k B w0 v0 L w)(hL:L.length<=1000)(q:ByteArray)(op:ByteArray)(x:Int)(t:TypeId){s:Nat}(hs:s=w.heap.size):
  Calls Tryz.prog 181 #[.pointer (some ⟨b,1,none⟩), .string q, .string op, .slice (some ⟨s,0,none⟩) 1 1] (w.alloc (.cells #[.int .i64 x] t)) fun e w'=>e= .returned (.tuple #[])/\MAt b f p k B w0 v0 (L++[⟨op,x,0,0,q⟩]) w':=by
 subst hs
 exact MAt.to h hL q op #[.int .i64 x] t 1 1 rfl (by decide) rfl
theorem MAt.to2(h:MAt b f p k B w0 v0 L w)(hL:L.length<=1000)(q:ByteArray)(op:ByteArray)(x y:Int)(t:TypeId){s:Nat}(hs:s=w.heap.size):
  Calls Tryz.prog 181 #[.pointer (some ⟨b,1,none⟩), .string q, .string op, .slice (some ⟨s,0,none⟩) 2 2] (w.alloc (.cells #[.int .i64 x, .int .i64 y] t)) fun e w'=>e= .returned (.tuple #[])/\MAt b f p k B w0 v0 (L++[⟨op,x,y,0,q⟩]) w':=by
 subst hs
 exact MAt.to h hL q op #[.int .i64 x, .int .i64 y] t 2 2 rfl (by decide) rfl
theorem MAt.do2(h:MAt b f p k B w0 v0 L w)(hL:L.length<=1000)(op:ByteArray)(x y:Int)(t:TypeId){s:Nat}(hs:s=w.heap.size):
  Calls Tryz.prog 112 #[.pointer (some ⟨b,1,none⟩), .string op, .slice (some ⟨s,0,none⟩) 2 2] (w.alloc (.cells #[.int .i64 x, .int .i64 y] t)) fun e w'=>e= .returned (.tuple #[])/\MAt b f p k B w0 v0 (L++[⟨op,x,y,0,no⟩]) w':=by
 subst hs
 exact MAt.do h hL op #[.int .i64 x, .int .i64 y] t 2 2 rfl (by decide) rfl
theorem MAt.do3(h:MAt b f p k B w0 v0 L w)(hL:L.length<=1000)(op:ByteArray)(x y z:Int)(t:TypeId){s:Nat}(hs:s=w.heap.size):
  Calls Tryz.prog 112 #[.pointer (some ⟨b,1,none⟩), .string op, .slice (some ⟨s,0,none⟩) 3 3] (w.alloc (.cells #[.int .i64 x, .int .i64 y, .int .i64 z] t)) fun e w'=>e= .returned (.tuple #[])/\MAt b f p k B w0 v0 (L++[⟨op,x,y,z,no⟩]) w':=by
 subst hs
 exact MAt.do h hL op #[.int .i64 x, .int .i64 y, .int .i64 z] t 3 3 rfl (by decide) rfl
theorem MAt.block(h:MAt b f p k B w0 v0 L w)(hk:k+1<=9)(hp:p.size<=1000){k':Nat}(D:List Ins)(n:Nat)(hn:Fn.goes n)(caps:Array Value)(hL:(L++D).length<=1000) 
  (hb: ∀w1 w2 v2,MAt b f p (k+1) B w2 v2 L w1->Calls Tryz.prog n (#[.string (lb p (k+1))]++caps) w1 fun e w'=>e= .returned (.tuple #[])/\MAt b f p k' B w2 v2 (L++D) w'):
  Calls Tryz.prog 179 #[.pointer (some ⟨b,1,none⟩), .func (.func n) #[] caps] w fun e w'=>e= .returned (.tuple #[])/\MAt b f p k' B w0 v0 (L++(D++[lblI (lb p (k+1))])) w':=by
 obtain⟨v,g1,g2,g3⟩:=h.out
 refine(lines_block g1 (lines_fresh hk hp) n hn caps hL (D:=D) (k':=k') fun w1 r1 r2=>?_).mono ?_
 ·refine(hb w1 w1 v ⟨v,r1,LStep.refl _ _ _,fun x hx=>(g3 x hx).step r2⟩).mono ?_
  rintro e w' ⟨rfl,v',t1,t2, -⟩
  exact⟨rfl,v',t1,t2⟩
 ·rintro e w' ⟨rfl,v',t1,t2⟩
  exact⟨rfl,v',t1,g2.trans t2,fun x hx=>(g3 x hx).step t2⟩
theorem MAt.loop(h:MAt b f p k B w0 v0 L w)(hk:k+1<=9)(hp:p.size<=1000){k':Nat}(D:List Ins)(n:Nat)(hn:Fn.goes n)(caps:Array Value)(hL:L.length<=1000) 
  (hb: ∀w1 w2 v2,MAt b f p (k+1) B w2 v2 (L++[lblI (lb p (k+1))]) w1->Calls Tryz.prog n (#[.string (lb p (k+1))]++caps) w1 fun e w'=>e= .returned (.tuple #[])/\MAt b f p k' B w2 v2 (L++[lblI (lb p (k+1))]++D) w'):
  Calls Tryz.prog 189 #[.pointer (some ⟨b,1,none⟩), .func (.func n) #[] caps] w fun e w'=>e= .returned (.tuple #[])/\MAt b f p k' B w0 v0 (L++(lblI (lb p (k+1))::D)) w':=by
 obtain⟨v,g1,g2,g3⟩:=h.out
 refine(lines_loop g1 (lines_fresh hk hp) n hn caps hL (D:=D) (k':=k') fun v1 w1 r1 r2=>?_).mono ?_
 ·refine(hb w1 w1 v1 ⟨v1,r1,LStep.refl _ _ _,fun x hx=>(g3 x hx).step r2⟩).mono ?_
  rintro e w' ⟨rfl,v',t1,t2, -⟩
  exact⟨rfl,v',t1,t2⟩
 ·rintro e w' ⟨rfl,v',t1,t2⟩
  exact⟨rfl,v',t1,g2.trans t2,fun x hx=>(g3 x hx).step t2⟩
end
end
section
open Go.RowKit Go.Extern.Stop Go.Stop Go.Extern Go.Maps Go.WideMaps Go.Sort
variable {B:List (Nat×Value)} {p:ByteArray} {L:List Ins} {v0:Value} {w0:World} {w:World}
theorem forces_any(f:Int)(w:World):Calls Tryz.prog 182 #[.int .i64 f] w fun e w'=>e= .returned (.bool (decide (f=2)))/\w'=w:=by
 by_cases h:f=2
 ·subst h
  go_enter Tryz.func182,Tryz.ntmps182
  go_wp2
  go_ret
  exact⟨rfl,rfl⟩
 ·have h1:(f==2)=false:=by simpa using h
  rw[decide_eq_false h]
  go_enter Tryz.func182,Tryz.ntmps182
  go_wp2
  go_ret
  exact⟨rfl,rfl⟩
theorem counts_any(f:Int)(w:World):Calls Tryz.prog 109 #[.int .i64 f] w fun e w'=>e= .returned (.bool (decide (f=3)))/\w'=w:=by
 by_cases h:f=3
 ·subst h
  go_enter Tryz.func109,Tryz.ntmps109
  go_wp2
  go_ret
  exact⟨rfl,rfl⟩
 ·have h1:(f==3)=false:=by simpa using h
  rw[decide_eq_false h]
  go_enter Tryz.func109,Tryz.ntmps109
  go_wp2
  go_ret
  exact⟨rfl,rfl⟩
theorem joins_any(f:Int)(w:World):Calls Tryz.prog 119 #[.int .i64 f] w fun e w'=>e= .returned (.bool (decide (f=4)))/\w'=w:=by
 by_cases h:f=4
 ·subst h
  go_enter Tryz.func119,Tryz.ntmps119
  go_wp2
  go_ret
  exact⟨rfl,rfl⟩
 ·have h1:(f==4)=false:=by simpa using h
  rw[decide_eq_false h]
  go_enter Tryz.func119,Tryz.ntmps119
  go_wp2
  go_ret
  exact⟨rfl,rfl⟩
theorem renumber_any{b:Nat}{f:Int}{k:Nat}(h:MAt b f p k B w0 v0 L w)(hL:L.length<=900):
  Calls Tryz.prog 195 #[.pointer (some ⟨b,0,none⟩)] w fun e w'=>e= .returned (.tuple #[])/\MAt b f p k B w0 v0 (L++gCode p [.const 1 2, .add 1 1 0, .cas 7 0 0, .const 0 2, .sub 1 1 0]) w':=by
 go_enter Tryz.func195,Tryz.ntmps195
 go_wp2_with (go_at_call 112;(first |((with_reducible show Calls _ _ #[_,_,Value.slice _ 3 _] _ _);refine(MAt.do3 (by first |exact hq |exact h) (by(try simp only[List.length_append]);(try simp only[List.length_cons]);(try simp only[List.length_nil]);omega) _ _ _ _ _ (by first |rfl |simp)).mono ?_) |((with_reducible show Calls _ _ #[_,_,Value.slice _ 2 _] _ _);refine(MAt.do2 (by first |exact hq |exact h) (by(try simp only[List.length_append]);(try simp only[List.length_cons]);(try simp only[List.length_nil]);omega) _ _ _ _ (by first |rfl |simp)).mono ?_) |((with_reducible show Calls _ _ #[_,_,Value.slice _ 1 _] _ _);refine(MAt.do1 (by first |exact hq |exact h) (by(try simp only[List.length_append]);(try simp only[List.length_cons]);(try simp only[List.length_nil]);omega) _ _ _ (by first |rfl |simp)).mono ?_) |((with_reducible show Calls _ _ #[_,_,Value.slice _ 0 _] _ _);refine(MAt.do_none (by first |exact hq |exact h) (by(try simp only[List.length_append]);(try simp only[List.length_cons]);(try simp only[List.length_nil]);omega) _).mono ?_));rintro e wq ⟨rfl,hq⟩)
 go_end0
 refine⟨rfl,?_⟩
 simp only[List.append_assoc,List.cons_append,List.nil_append] at hq
 exact hq
theorem show_any {b:Nat} {f:Nat} {k:Nat} (h:MAt b f p k B w0 v0 L w) (hL:L.length<=900):
  Calls Tryz.prog 113 #[.pointer (some ⟨b,0,none⟩)] w fun e w'=>e= .returned (.tuple #[])/\MAt b f p k B w0 v0 (L++gCode p [gShow f]) w':=by
 have c0:=h.c0
 have HF:=hide (forces_any (f:Int) w)
 unfold gShow
 by_cases hf:f=2
 ·rw [if_pos hf]
  have hd:decide ((f:Int)=2)=true:=by subst hf;rfl
  rw[hd] at HF
  clear hd hf
  generalize (f:Int)=fi at*
  go_enter Tryz.func113,Tryz.ntmps113
  go_wp2_with (first
   |(go_at_call 182;refine HF.out.mono ?_;rintro e wq ⟨rfl,rfl⟩)
   |(go_at_call 112;(first |((with_reducible show Calls _ _ #[_,_,Value.slice _ 3 _] _ _);refine(MAt.do3 (by first |exact hq |exact h) (by(try simp only[List.length_append]);(try simp only[List.length_cons]);(try simp only[List.length_nil]);omega) _ _ _ _ _ (by first |rfl |simp)).mono ?_) |((with_reducible show Calls _ _ #[_,_,Value.slice _ 2 _] _ _);refine(MAt.do2 (by first |exact hq |exact h) (by(try simp only[List.length_append]);(try simp only[List.length_cons]);(try simp only[List.length_nil]);omega) _ _ _ _ (by first |rfl |simp)).mono ?_) |((with_reducible show Calls _ _ #[_,_,Value.slice _ 1 _] _ _);refine(MAt.do1 (by first |exact hq |exact h) (by(try simp only[List.length_append]);(try simp only[List.length_cons]);(try simp only[List.length_nil]);omega) _ _ _ (by first |rfl |simp)).mono ?_) |((with_reducible show Calls _ _ #[_,_,Value.slice _ 0 _] _ _);refine(MAt.do_none (by first |exact hq |exact h) (by(try simp only[List.length_append]);(try simp only[List.length_cons]);(try simp only[List.length_nil]);omega) _).mono ?_));rintro e wq ⟨rfl,hq⟩))
  exact bodyPost_ret (results_none (by kernel_rfl) _ _ _) rfl ⟨rfl,hq⟩
 ·rw [if_neg hf]
  have hd:decide ((f:Int)=2)=false:=decide_eq_false (by omega)
  rw[hd] at HF
  clear hd hf
  generalize (f:Int)=fi at*
  go_enter Tryz.func113,Tryz.ntmps113
  go_wp2_with (first
   |(go_at_call 182;refine HF.out.mono ?_;rintro e wq ⟨rfl,rfl⟩)
   |(go_at_call 112;(first |((with_reducible show Calls _ _ #[_,_,Value.slice _ 3 _] _ _);refine(MAt.do3 (by first |exact hq |exact h) (by(try simp only[List.length_append]);(try simp only[List.length_cons]);(try simp only[List.length_nil]);omega) _ _ _ _ _ (by first |rfl |simp)).mono ?_) |((with_reducible show Calls _ _ #[_,_,Value.slice _ 2 _] _ _);refine(MAt.do2 (by first |exact hq |exact h) (by(try simp only[List.length_append]);(try simp only[List.length_cons]);(try simp only[List.length_nil]);omega) _ _ _ _ (by first |rfl |simp)).mono ?_) |((with_reducible show Calls _ _ #[_,_,Value.slice _ 1 _] _ _);refine(MAt.do1 (by first |exact hq |exact h) (by(try simp only[List.length_append]);(try simp only[List.length_cons]);(try simp only[List.length_nil]);omega) _ _ _ (by first |rfl |simp)).mono ?_) |((with_reducible show Calls _ _ #[_,_,Value.slice _ 0 _] _ _);refine(MAt.do_none (by first |exact hq |exact h) (by(try simp only[List.length_append]);(try simp only[List.length_cons]);(try simp only[List.length_nil]);omega) _).mono ?_));rintro e wq ⟨rfl,hq⟩))
  go_end0
  exact⟨rfl,hq⟩
end
section
open Go.RowKit Go.Extern.Stop Go.Stop Go.Extern Go.Maps Go.WideMaps Go.Sort
variable {p:ByteArray} {S:List (Nat×Value)} {b f:Nat} {caps:Array Value} {D:List Ins} {k k':Nat}
def Adds(n:Nat)(args:Array Value)(b:Nat)(f:Int)(p:ByteArray)(k k':Nat)(S:List (Nat×Value))(D:List Ins)(N:Nat):Prop:=
 ∀(B:List (Nat×Value)) (w0:World) (v0:Value) (L:List Ins) (w:World),MAt b f p k B w0 v0 L w->(∀x∈S,x∈B)->L.length<=N->Calls Tryz.prog n args w fun e w'=>e= .returned (.tuple #[])/\MAt b f p k' B w0 v0 (L++D) w'
def mptr(b:Nat):Value:= .pointer (some ⟨b,0,none⟩)
theorem rested_any{k:Nat}(hf:f=3)(q:ByteArray):
  Adds 124 #[.pointer (some ⟨b,0,none⟩), .string q] b f p k k [] [⟨⟨#[122,101,114,111]⟩,0,0,0,q⟩,⟨⟨#[99,111,110,115,116]⟩,1,2,0,no⟩,⟨⟨#[97,100,100]⟩,0,0,1,no⟩,⟨⟨#[115,119,97,112]⟩,0,6,0,no⟩] 800:=by
 intro B w0 v0 L w h _ hL
 have HS:Hid (∀L w,MAt b f p k B w0 v0 L w->L.length<=900->Calls Tryz.prog 113 #[.pointer (some ⟨b,0,none⟩)] w fun e w'=>e= .returned (.tuple #[])/\MAt b f p k B w0 v0 (L++[⟨⟨#[115,119,97,112]⟩,0,6,0,no⟩]) w'):=hide fun L w h hL=>by
  have:=show_any h hL
  rw[hf] at this ⊢
  exact this
 clear hf
 generalize (f:Int)=fi at*
 go_enter Tryz.func124,Tryz.ntmps124
 go_wp2_with (first
  |(go_at_call 181;(first |((with_reducible show Calls _ _ #[_,_,_,Value.slice _ 3 _] _ _);refine(MAt.to3 (by first |exact hq |exact h) (by(try simp only[List.length_append]);(try simp only[List.length_cons]);(try simp only[List.length_nil]);omega) _ _ _ _ _ _ (by first |rfl |simp)).mono ?_) |((with_reducible show Calls _ _ #[_,_,_,Value.slice _ 2 _] _ _);refine(MAt.to2 (by first |exact hq |exact h) (by(try simp only[List.length_append]);(try simp only[List.length_cons]);(try simp only[List.length_nil]);omega) _ _ _ _ _ (by first |rfl |simp)).mono ?_) |((with_reducible show Calls _ _ #[_,_,_,Value.slice _ 1 _] _ _);refine(MAt.to1 (by first |exact hq |exact h) (by(try simp only[List.length_append]);(try simp only[List.length_cons]);(try simp only[List.length_nil]);omega) _ _ _ _ (by first |rfl |simp)).mono ?_) |((with_reducible show Calls _ _ #[_,_,_,Value.slice _ 0 _] _ _);refine(MAt.to_none (by first |exact hq |exact h) (by(try simp only[List.length_append]);(try simp only[List.length_cons]);(try simp only[List.length_nil]);omega) _ _).mono ?_));rintro e wq ⟨rfl,hq⟩)
  |(go_at_call 112;(first |((with_reducible show Calls _ _ #[_,_,Value.slice _ 3 _] _ _);refine(MAt.do3 (by first |exact hq |exact h) (by(try simp only[List.length_append]);(try simp only[List.length_cons]);(try simp only[List.length_nil]);omega) _ _ _ _ _ (by first |rfl |simp)).mono ?_) |((with_reducible show Calls _ _ #[_,_,Value.slice _ 2 _] _ _);refine(MAt.do2 (by first |exact hq |exact h) (by(try simp only[List.length_append]);(try simp only[List.length_cons]);(try simp only[List.length_nil]);omega) _ _ _ _ (by first |rfl |simp)).mono ?_) |((with_reducible show Calls _ _ #[_,_,Value.slice _ 1 _] _ _);refine(MAt.do1 (by first |exact hq |exact h) (by(try simp only[List.length_append]);(try simp only[List.length_cons]);(try simp only[List.length_nil]);omega) _ _ _ (by first |rfl |simp)).mono ?_) |((with_reducible show Calls _ _ #[_,_,Value.slice _ 0 _] _ _);refine(MAt.do_none (by first |exact hq |exact h) (by(try simp only[List.length_append]);(try simp only[List.length_cons]);(try simp only[List.length_nil]);omega) _).mono ?_));rintro e wq ⟨rfl,hq⟩)
  |(go_at_call 113;refine(HS.out _ _ (by first |exact hq |exact h) (by(try simp only[List.length_append]);(try simp only[List.length_cons]);(try simp only[List.length_nil]);omega)).mono ?_;rintro e wq ⟨rfl,hq⟩))
 go_end0
 refine⟨rfl,?_⟩
 simp only[List.append_assoc,List.cons_append,List.nil_append] at hq
 exact hq
theorem withOwn1_any{q:ByteArray}{n:Nat}(hn:Fn.goes n)(hc:Adds n (#[.string q]++caps) b f p k k' S D 700)(x1 x2:Nat):
  Adds 180 #[.string q, .pointer (some ⟨x1,0,none⟩), .pointer (some ⟨x2,0,none⟩)] b f p k k' ((x1,mptr b)::(x2, .func (.func n) #[] caps)::S) (⟨⟨#[122,101,114,111]⟩,6,0,0,q⟩::D) 650:=by
 intro B w0 v0 L w h hB hL
 have b1:w.cell? ⟨x1,0,none⟩=some (.pointer (some ⟨b,0,none⟩)):=h.bx (hB _ (List.mem_cons_self ..))
 have HC:=hide hc
 have HN:=hide hn
 have HB:=hide hB
 clear hc hn hB
 generalize (f:Int)=fi at*
 go_enter Tryz.func180,Tryz.ntmps180
 go_wp2_with (go_at_call 181;(first |((with_reducible show Calls _ _ #[_,_,_,Value.slice _ 3 _] _ _);refine(MAt.to3 (by first |exact hq |exact h) (by(try simp only[List.length_append]);(try simp only[List.length_cons]);(try simp only[List.length_nil]);omega) _ _ _ _ _ _ (by first |rfl |simp)).mono ?_) |((with_reducible show Calls _ _ #[_,_,_,Value.slice _ 2 _] _ _);refine(MAt.to2 (by first |exact hq |exact h) (by(try simp only[List.length_append]);(try simp only[List.length_cons]);(try simp only[List.length_nil]);omega) _ _ _ _ _ (by first |rfl |simp)).mono ?_) |((with_reducible show Calls _ _ #[_,_,_,Value.slice _ 1 _] _ _);refine(MAt.to1 (by first |exact hq |exact h) (by(try simp only[List.length_append]);(try simp only[List.length_cons]);(try simp only[List.length_nil]);omega) _ _ _ _ (by first |rfl |simp)).mono ?_) |((with_reducible show Calls _ _ #[_,_,_,Value.slice _ 0 _] _ _);refine(MAt.to_none (by first |exact hq |exact h) (by(try simp only[List.length_append]);(try simp only[List.length_cons]);(try simp only[List.length_nil]);omega) _ _).mono ?_));rintro e wq ⟨rfl,hq⟩;have b2:wq.cell? ⟨x2,0,none⟩=some (.func (.func n) #[] caps):=hq.bx (HB.out _ (List.mem_cons_of_mem _ (List.mem_cons_self ..))))
 rw[HN.out,Oper.upon_enter]
 refine(HC.out B w0 v0 _ wq hq (fun x hx=>HB.out x (List.mem_cons_of_mem _ (List.mem_cons_of_mem _ hx))) (by(try simp only[List.length_append]);(try simp only[List.length_cons]);(try simp only[List.length_nil]);omega)).mono ?_
 rintro e w2 ⟨rfl,h2⟩
 dsimp only
 go_wp2
 go_end0
 refine⟨rfl,?_⟩
 rw[List.append_assoc] at h2
 exact h2
theorem withOwn_any (hk:k+1<=9) (hp:p.size<=1000) {n:Nat} (hD:D.length<=50) (hn:Fn.goes n) (hc:Adds n (#[.string (lb p (k+1))]++caps) b f p (k+1) k' S D 700):
  Adds 110 #[.pointer (some ⟨b,0,none⟩), .func (.func n) #[] caps] b f p k k' S (⟨⟨#[122,101,114,111]⟩,6,0,0,lb p (k+1)⟩::(D++[lblI (lb p (k+1))])) 600:=by
 intro B w0 v0 L w h hB hL
 have hmf: ∀(fn:Fn) (first cap:Array Value) (w:World),(Instr.makeFunc fn first cap).run Tryz.prog w= .ok (.func fn first cap) w:=fun _ _ _ _=>rfl
 have HC:Hid (∀x1 x2,Adds 180 (#[.string (lb p (k+1))]++#[.pointer (some ⟨x1,0,none⟩), .pointer (some ⟨x2,0,none⟩)]) b f p (k+1) k' ((x1,mptr b)::(x2, .func (.func n) #[] caps)::S) (⟨⟨#[122,101,114,111]⟩,6,0,0,lb p (k+1)⟩::D) 650):=hide fun x1 x2=>withOwn1_any hn hc x1 x2
 have HG:Hid (Fn.goes 180):=hide fun _ _=>rfl
 have h1:=h.box (mptr b) 212
 have h2:=h1.box (.func (.func n) #[] caps) 220
 rw[show(w.alloc (.cells #[mptr b] 212)).heap.size=w.heap.size+1 by simp] at h2
 have HH:=hide h2
 have HBB:Hid (∀x∈(w.heap.size,mptr b)::(w.heap.size+1,Value.func (.func n) #[] caps)::S,x∈(w.heap.size+1,Value.func (.func n) #[] caps)::(w.heap.size,mptr b)::B):=hide fun x hx=>by
  rcases List.mem_cons.1 hx with rfl |hx
  ·exact .tail _ (.head _)
  ·rcases List.mem_cons.1 hx with rfl |hx
   ·exact .head _
   ·exact .tail _ (.tail _ (hB x hx))
 clear hc hn h h1 h2 hB
 generalize (f:Int)=fi at*
 go_enter Tryz.func110,Tryz.ntmps110
 go_wp2_with (go_at_call 179;refine(MAt.block (k':=k') HH.out hk hp (⟨⟨#[122,101,114,111]⟩,6,0,0,lb p (k+1)⟩::D) _ HG.out _ (by(try simp only[List.length_append]);(try simp only[List.length_cons]);(try simp only[List.length_nil]);omega) (fun w1 w2 v2 h1=>HC.out _ _ _ w2 v2 _ w1 h1 HBB.out (by(try simp only[List.length_append]);(try simp only[List.length_cons]);(try simp only[List.length_nil]);omega))).mono ?_;rintro e wq ⟨rfl,hq⟩)
 go_end0
 exact⟨rfl,hq.drop fun x hx=> .tail _ (.tail _ hx)⟩
end
end Go.Proofs.YtnoigmdmgdcliaaGreatDoor
