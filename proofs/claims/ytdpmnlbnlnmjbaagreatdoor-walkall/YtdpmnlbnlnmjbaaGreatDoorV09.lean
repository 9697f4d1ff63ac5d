import Derived.Test.YtdpmnlbnlnmjbaaGreatDoorV08
import Derived.Maps.Views
import Derived.Maps.OwnSet
import Derived.Test.YtdpmnlbnlnmjbaaGreatDoorV06
import Derived.Test.YtdpmnlbnlnmjbaaGreatDoorV01
import Derived.WalkKit
import Derived.Maps.Own
import Derived.Maps.OwnOps
import Derived.StringKeys
import Derived.Lib.LaidTab
namespace Go.Proofs.YtdpmnlbnlnmjbaaGreatDoor
set_option maxRecDepth 100000
set_option maxHeartbeats 8000000
section
open Go.RowKit
variable {S:List UInt8} {x:Ins} {k:Nat} {l:List Ins}
theorem mostOf_pos(c:Nat):0<mostOf c:=by
 unfold mostOf
 repeat' split
 all_goals omega
theorem limOf_zero:limOf S k=0↔nums S<=k:=by
 unfold limOf
 have:=mostOf_pos (byteAt ⟨S.toArray⟩ k)
 split <;> constructor <;> intro h <;> omega
theorem limOf_pos:0<limOf S k↔k<nums S:=by
 unfold limOf
 have:=mostOf_pos (byteAt ⟨S.toArray⟩ k)
 split <;> constructor <;> intro h <;> omega
theorem limOf_lt(h:k<nums S):limOf S k=mostOf (byteAt ⟨S.toArray⟩ k):=if_pos h
theorem size_mk(S:List UInt8):(⟨S.toArray⟩:ByteArray).size=S.length:=by simp[ByteArray.size]
def fitsP(S:List UInt8)(x:Ins):Prop:=(limOf S 0=0->x.a=0)/\(limOf S 1=0->x.b=0)/\(limOf S 2=0->x.c=0)/\(hasTo S=false->x.to.toList=[])
def withinP(S:List UInt8)(x:Ins):Prop:=(0<limOf S 0->0<=x.a/\x.a<limOf S 0)/\(0<limOf S 1->0<=x.b/\x.b<limOf S 1)/\(0<limOf S 2->0<=x.c/\x.c<limOf S 2)
theorem fitsP_iff(x:Ins):fitsP S x↔ ¬(hasTo S=false/\ ¬x.to.toList=[])/\ ¬ ∃k,nums S<=k/\k<3/\x.n k≠0:=by
 unfold fitsP
 simp only[limOf_zero]
 constructor
 ·rintro⟨h0,h1,h2,ht⟩
  refine⟨fun⟨a,b⟩=>b (ht a),fun⟨k,k1,k2,k3⟩=>k3 ?_⟩
  match k,k2 with
  |0,_=>exact h0 k1
  |1,_=>exact h1 k1
  |2,_=>exact h2 k1
 ·rintro⟨ht,hk⟩
  have hk': ∀k,nums S<=k->k<3->x.n k=0:=fun k a b=>Decidable.byContradiction fun c=>hk ⟨k,a,b,c⟩
  exact⟨fun h=>hk' 0 h (by omega),fun h=>hk' 1 h (by omega),fun h=>hk' 2 h (by omega),fun h=>Decidable.byContradiction fun c=>ht ⟨h,c⟩⟩
theorem withinP_iff (h3:nums S<=3) (x:Ins):withinP S x↔ ¬ ∃k,k<nums S/\ ¬(0<=x.n k/\x.n k<mostOf (byteAt ⟨S.toArray⟩ k)):=by
 unfold withinP
 simp only[limOf_pos]
 constructor
 ·rintro⟨h0,h1,h2⟩ ⟨k,k1,k2⟩
  apply k2
  have k3:k<3:=by omega
  rw[<-limOf_lt k1]
  match k,k3 with
  |0,_=>exact h0 k1
  |1,_=>exact h1 k1
  |2,_=>exact h2 k1
 ·intro hk
  have hk': ∀k,k<nums S->(0<=x.n k/\x.n k<limOf S k):=fun k a=>by
   rw[limOf_lt a]
   exact Decidable.byContradiction fun c=>hk ⟨k,a,c⟩
  exact⟨hk' 0,hk' 1,hk' 2⟩
theorem insErr_none(h:shape x.op.toList=none):insErr x=3:=by unfold insErr;rw[h]
theorem insErr_some(h:shape x.op.toList=some S):insErr x=insBad x ⟨S.toArray⟩:=by unfold insErr;rw[h]
theorem insErr_fits(h:shape x.op.toList=some S)(hf: ¬fitsP S x):insErr x=3:=by
 obtain⟨⟨_,h3⟩,_⟩:=table_facts _ (shape_mem h)
 dsimp only at h3
 rw[fitsP_iff] at hf
 rw[insErr_some h]
 unfold insBad
 rw[size_mk]
 by_cases h1:hasTo S=false/\ ¬x.to.toList=[]
 ·rw[if_pos h1]
 ·by_cases h2: ∃k,nums S<=k/\k<3/\x.n k≠0
  ·rw[if_neg h1,if_pos h2]
  ·exact absurd ⟨h1,h2⟩ hf
theorem insErr_within(h:shape x.op.toList=some S)(hf:fitsP S x)(hw: ¬withinP S x):insErr x=2:=by
 obtain⟨⟨_,h3⟩,_⟩:=table_facts _ (shape_mem h)
 dsimp only at h3
 rw[fitsP_iff] at hf
 rw[withinP_iff h3,Classical.not_not] at hw
 rw[insErr_some h]
 unfold insBad
 rw[size_mk,if_neg hf.1,if_neg hf.2,if_pos hw]
open Classical in
theorem insErr_ok(h:shape x.op.toList=some S)(hf:fitsP S x)(hw:withinP S x):insErr x=if hasTo S=true/\ ¬isName x.to then 4 else 0:=by
 obtain⟨⟨_,h3⟩,_⟩:=table_facts _ (shape_mem h)
 dsimp only at h3
 rw[fitsP_iff] at hf
 rw[withinP_iff h3] at hw
 rw[insErr_some h]
 unfold insBad
 rw[size_mk,if_neg hf.1,if_neg hf.2,if_neg hw]
theorem label_shape{op S:List UInt8}(h:shape op=some S)(h1:hasTo S=false):(op==[108,97,98,101,108])=false:=by
 have:=(by decide+kernel: ∀p∈table,hasTo p.2=false->(p.1==[108,97,98,101,108])=false)
 exact this _ (shape_mem h) h1
open Classical in
theorem insFault_some {i:Nat} (h:shape x.op.toList=some S):insFault l i x=
  if ¬fitsP S x then 3 else if ¬withinP S x then 2 else if hasTo S=false then 0 else if ¬isName x.to then 4
  else if(x.op.toList==[108,97,98,101,108])=true/\labelAt l x.to≠i then 4 else if labelAt l x.to<0 then 5 else 0:=by
 by_cases hf:fitsP S x
 ·rw [if_neg (fun h=>h hf)]
  by_cases hw:withinP S x
  ·rw [if_neg (fun h=>h hw)]
   have hE:=insErr_ok h hf hw
   cases ht:hasTo S with
   | false=>
    rw[if_pos rfl]
    rw[ht,if_neg (fun e=>by cases e.1)] at hE
    unfold insFault
    rw[if_neg (fun e=>e hE),if_neg (fun e=>by rw[label_shape h ht] at e;cases e.1),if_neg]
    rintro⟨e,_⟩
    rw[hf.2.2.2 ht] at e
    cases e
   | true =>
    rw[if_neg (fun e=>by cases e)]
    by_cases hn:isName x.to
    ·rw [if_neg (fun e=>e hn)]
     rw[if_neg (fun e=>e.2 hn)] at hE
     have hto:(x.to.toList==[])=false:=by
      rw[beq_eq_false_iff_ne,toList_bl]
      intro e
      have:=hn.1
      rw[size_bl,e] at this
      cases this
     unfold insFault
     rw[if_neg (fun e=>e hE)]
     by_cases h1:(x.op.toList==[108,97,98,101,108])=true/\labelAt l x.to≠i
     ·rw[if_pos h1,if_pos h1]
     ·rw[if_neg h1,if_neg h1]
      by_cases h2:labelAt l x.to<0
      ·rw[if_pos ⟨hto,h2⟩,if_pos h2]
      ·rw[if_neg (fun e=>h2 e.2),if_neg h2]
    ·rw[if_pos hn]
     rw[ht,if_pos ⟨rfl,hn⟩] at hE
     unfold insFault
     rw[if_pos (by omega),hE]
  ·rw[if_pos hw]
   have:=insErr_within h hf hw
   unfold insFault
   rw[if_pos (by omega),this]
 ·rw[if_pos hf]
  have:=insErr_fits h hf
  unfold insFault
  rw[if_pos (by omega),this]
theorem insFault_none{i:Nat}(h:shape x.op.toList=none):insFault l i x=3:=by
 have:=insErr_none h
 unfold insFault
 rw[if_pos (by omega),this]
end
section
open Go.RowKit Go.Maps
def setD(l:List Ins):Nat->DataW Unit
 |0=> .map []
 | j+1=>match l[j]? with
  |some x=>if((x.op.toList==[108,97,98,101,108])&& !Maps.has (setD l j) (.string (bl x.to)))=true then(setD l j).put (.string (bl x.to)) (.lit (.int .i64 j)) else setD l j
  |none=>setD l j
theorem setD_succ{l:List Ins}{j:Nat}{x:Ins}(hx:l[j]? =some x):setD l (j+1)=if((x.op.toList==[108,97,98,101,108])&& !Maps.has (setD l j) (.string (bl x.to)))=true then(setD l j).put (.string (bl x.to)) (.lit (.int .i64 j)) else setD l j:=by
 rw[setD,hx]
theorem setD_isMap (l:List Ins): ∀j,IsMap (setD l j)
 |0=>isMap_empty
 | j+1=>by
  have ih:=setD_isMap l j
  rw[setD]
  split
  ·split
   ·exact ih.put _ _
   ·exact ih
  ·exact ih
def tells(l:List Ins)(j:Nat)(to:ByteArray):Prop:=
 (Maps.has (setD l j) (.string (bl to))=false/\ ∀i y,i<j->l[i]? =some y->setsLabel y to=false)∨
 (Maps.has (setD l j) (.string (bl to))=true/\ ∃(i:Nat) (y:Ins),i<j/\l[i]? =some y/\setsLabel y to=true/\(∀k z,k<i->l[k]? =some z->setsLabel z to=false)/\ ∀d,(setD l j).atKey (.string (bl to)) d= .lit (.int .i64 i))
theorem setD_tells (l:List Ins) (to:ByteArray): ∀j,tells l j to
 |0=> .inl ⟨rfl,fun i y h=>absurd h (Nat.not_lt_zero _)⟩
 | j + 1=>by
  have ih:=setD_tells l to j
  have hm:=setD_isMap l j
  cases hx:l[j]? with
  | none=>
   have e:setD l (j+1)=setD l j:=by rw[setD,hx]
   unfold tells
   rw[e]
   rcases ih with⟨h1,h2⟩ |⟨h1,i,y,hi,hy,r⟩
   ·refine .inl ⟨h1,fun i y hi hy=>?_⟩
    by_cases e2:i=j
    ·subst e2;rw[hx] at hy;cases hy
    ·exact h2 i y (by omega) hy
   ·exact .inr ⟨h1,i,y,by omega,hy,r⟩
  | some x=>
   have hS:=setD_succ hx
   unfold tells
   by_cases hp:((x.op.toList==[108,97,98,101,108])&& !Maps.has (setD l j) (.string (bl x.to)))=true
   ·rw [if_pos hp] at hS
    rw[hS]
    obtain⟨hop,hh⟩:=(Bool.and_eq_true _ _).mp hp
    have hh:Maps.has (setD l j) (.string (bl x.to))=false:=by simpa using hh
    by_cases ht:to=x.to
    ·subst ht
     refine .inr ⟨has_put_same hm (by trivial) _,j,x,by omega,hx,by unfold setsLabel;rw[hop];simp,?_,fun d=>atKey_put_same hm (by trivial) _ _⟩
     rcases ih with⟨_,h2⟩ |⟨h1,_⟩
     ·exact h2
     ·rw[hh] at h1;cases h1
    ·have hne:(Lit.string (bl to))≠ .string (bl x.to):=fun e=>ht (bl_inj (by injection e))
     rw[has_put_other hne]
     have hset:setsLabel x to=false:=by
      unfold setsLabel
      rw[hop,Bool.true_and,beq_eq_false_iff_ne,toList_bl,toList_bl]
      exact fun e=>ht (bl_inj e).symm
     rcases ih with⟨h1,h2⟩ |⟨h1,i,y,hi,hy,r1,r2,r3⟩
     ·refine .inl ⟨h1,fun i y hi hy=>?_⟩
      by_cases e2:i=j
      ·subst e2;rw[hx] at hy;cases hy;exact hset
      ·exact h2 i y (by omega) hy
     ·exact .inr ⟨h1,i,y,by omega,hy,r1,r2,fun d=>by rw[atKey_put_other hne];exact r3 d⟩
   ·rw [if_neg hp] at hS
    rw[hS]
    rcases ih with⟨h1,h2⟩ |⟨h1,i,y,hi,hy,r⟩
    ·refine .inl ⟨h1,fun i y hi hy=>?_⟩
     by_cases e2:i=j
     ·subst e2
      rw[hx] at hy
      cases hy
      cases hs:setsLabel x to with
      |false=>rfl
      | true=>
       exfalso
       unfold setsLabel at hs
       obtain⟨a,b⟩:=(Bool.and_eq_true _ _).mp hs
       have b:=beq_iff_eq.1 b
       rw[toList_bl,toList_bl] at b
       apply hp
       rw[a,b,h1]
       rfl
     ·exact h2 i y (by omega) hy
    ·exact .inr ⟨h1,i,y,by omega,hy,r⟩
theorem setD_all(l:List Ins)(to:ByteArray):(Maps.has (setD l l.length) (.string (bl to))=false/\labelAt l to= -1)∨
  (Maps.has (setD l l.length) (.string (bl to))=true/\ ∃i:Nat,i<l.length/\labelAt l to=i/\ ∀d,(setD l l.length).atKey (.string (bl to)) d= .lit (.int .i64 i)):=by
 rcases setD_tells l to l.length with⟨h1,h2⟩ |⟨h1,i,y,hi,hy,r1,r2,r3⟩
 ·exact .inl ⟨h1,labelAt_none fun k y hy=>h2 k y (List.getElem?_eq_some_iff.1 hy).1 hy⟩
 ·exact .inr ⟨h1,i,hi,labelAt_some hy r1 (fun k z hk hz=>r2 k z hk hz),r3⟩
end
section
open Go.RowKit Go.Extern.Stop Go.Stop Go.Extern
def insAt(ad:Option Addr)(l:List Ins)(w:World):Prop:= ∀i x,l[i]? =some x-> ∃b off,ad=some ⟨b,off,none⟩/\
 w.cell? ⟨b,off+i*5,none⟩=some (.string x.op)/\w.cell? ⟨b,off+i*5+1,none⟩=some (.int .i64 x.a)/\w.cell? ⟨b,off+i*5+2,none⟩=some (.int .i64 x.b)/\
 w.cell? ⟨b,off+i*5+3,none⟩=some (.int .i64 x.c)/\w.cell? ⟨b,off+i*5+4,none⟩=some (.string x.to)
theorem insAt_below{ad:Option Addr}{l:List Ins}{w w':World}(h:insAt ad l w)(k:Below w.heap.size w w'):insAt ad l w':=fun i x hx=>by
 obtain⟨b,off,e,h0,h1,h2,h3,h4⟩:=h i x hx
 exact⟨b,off,e,keep_cell k h0,keep_cell k h1,keep_cell k h2,keep_cell k h3,keep_cell k h4⟩
end
section
open Go.RowKit Go.Extern.Stop Go.Stop Go.Extern Go.Maps Go.WideMaps
variable {D:DataW Unit} {b n:Nat} {w:World}
theorem mapLaw:Keyed Tryz.prog 9:=string_keyed Tryz.underlying9
theorem mapZero(w:World):(zeroValue 3).run Tryz.prog w= .ok (.int .i64 0) w:=by kernel_rfl
theorem look_eq(h:w.ownsMap Tryz.prog 9 (plainElem Tryz.prog 3) b n D)(s:ByteArray)(hs:s.size<=maxLen):
  ∃c,(Instr.lookup 157 (.map (some b)) (.string s) true).run Tryz.prog w= .ok (.tuple #[.int .i64 c, .bool (Maps.has D (.string (bl s)))]) w/\D.atKey (.string (bl s)) (.lit (.int .i64 0))= .lit (.int .i64 c):=by
 obtain⟨v,ps,hrun,hv⟩:=h.look_ok (t:=157) mapLaw Tryz.underlying157 (mapZero w) (plainElem_int Tryz.underlying3 (by decide)) (keyOf_string_mk Tryz.underlying9 hs)
 obtain⟨c,rfl,hc,_⟩:=plainElem_int_inv Tryz.underlying3 hv
 exact⟨c,hrun,congrArg Prod.fst hc⟩
theorem store_eq(h:w.ownsMap Tryz.prog 9 (plainElem Tryz.prog 3) b n D)(hn:n<maxLen)(s:ByteArray)(hs:s.size<=maxLen)(i:Int)(hi:(Lit.int .i64 i).wf=true):
  ∃w',(Instr.mapUpdate 157 (.map (some b)) (.string s) (.int .i64 i)).run Tryz.prog w= .ok () w'/\w'.ownsMap Tryz.prog 9 (plainElem Tryz.prog 3) b (n+1) (D.put (.string (bl s)) (.lit (.int .i64 i)))/\w.grownBy w' (some b):=
 h.update (t:=157) mapLaw Tryz.underlying157 hn (keyOf_string_mk Tryz.underlying9 hs) (plainElem_int Tryz.underlying3 hi)
theorem labels_any (ad:Option Addr) (cap:Nat) (l:List Ins) (w:World) (hlen:l.length<=1000000) (hto: ∀(i:Nat) x,l[i]? =some x->x.to.size<=maxLen) (hl:insAt ad l w):
  Calls Tryz.prog 74 #[.slice ad l.length cap] w fun e w'=>e= .returned (.map (some w.heap.size))/\w'.ownsMap Tryz.prog 9 (plainElem Tryz.prog 3) w.heap.size l.length (setD l l.length)/\Below w.heap.size w w':=by
 have HL:=hide hl
 have HT:=hide hto
 clear hl hto
 have hmm:= @run_makeMap Tryz.prog
 go_enter Tryz.func74,Tryz.ntmps74
 go_wp2_with fail
 go_loopw [4,5,6,7,11] (fun _ _ _ _ i wr=> ∃j:Nat,j<=l.length/\i= .int .i64 j/\wr.ownsMap Tryz.prog 9 (plainElem Tryz.prog 3) w.heap.size j (setD l j)/\Below w.heap.size w wr) (fun _ _ _ _ i _=>l.length - (intOf i).toNat)
 case atStart=>exact⟨0,Nat.zero_le _,rfl,World.ownsMap_made _ _ _ _,bRf.alloc nL _⟩
 case round=>
  obtain⟨j,hj,rfl,hown,hB⟩:=hrel
  by_cases hlt:j<l.length
  ·obtain ⟨x,hx⟩: ∃x,l[j]? =some x:=⟨_,List.getElem?_eq_getElem hlt⟩
   obtain⟨b,off,rfl,a0,a1,a2,a3,a4⟩:=insAt_below HL.out hB j x hx
   have hts:=HT.out j x hx
   have HS:=hide (setD_succ hx)
   have ji:(j:Int)<l.length:=by omega
   clear hx
   obtain⟨c,hlook, -⟩:=look_eq (hown.alloc (.cells #[.string x.op, .int .i64 x.a, .int .i64 x.b, .int .i64 x.c, .string x.to] 75)) x.to hts
   cases hh:Maps.has (setD l j) (.string (bl x.to))
   ·rw [hh] at hlook
    cases k1:(x.op.toList==[108,97,98,101,108])
    ·have HS':Hid (setD l (j+1)=setD l j):=by
      show _=_
      rw[HS.out,k1,hh];rfl
     clear HS hh
     go_wp2_with fail
     go_roundw
     case rel=>exact⟨j+1,by omega,by go_num,by rw[HS'.out];exact(hown.alloc _).mono (by omega),hB.alloc hB.size _⟩
     case measure=>simp[intOf];omega
    ·have HS':Hid (setD l (j+1)=(setD l j).put (.string (bl x.to)) (.lit (.int .i64 j))):=by
      show _=_
      rw[HS.out,k1,hh];rfl
     obtain⟨w1,hst,hown1,hgrow1⟩:=store_eq (hown.alloc (.cells #[.string x.op, .int .i64 x.a, .int .i64 x.b, .int .i64 x.c, .string x.to] 75)) (by unfold maxLen;omega) x.to hts j (WalkArith.wf_i64 (by omega))
     have B1:=(hB.alloc hB.size (.cells #[.string x.op, .int .i64 x.a, .int .i64 x.b, .int .i64 x.c, .string x.to] 75)).grown hgrow1 (Nat.le_trans hB.size (by simp)) (fun k hk=>by cases hk;exact Nat.le_refl _)
     clear HS hh hown hgrow1
     go_wp2_with fail
     go_roundw
     case rel=>exact⟨j+1,by omega,by go_num,by rw[HS'.out];exact hown1,B1⟩
     case measure=>simp[intOf];omega
   ·have HS':Hid (setD l (j+1)=setD l j):=by
     show _=_
     rw[HS.out,hh];simp
    rw[hh] at hlook
    clear HS hh
    cases k1:(x.op.toList==[108,97,98,101,108])
    all_goals
     go_wp2_with fail
     go_roundw
     case rel=>exact⟨j+1,by omega,by go_num,by rw[HS'.out];exact(hown.alloc _).mono (by omega),hB.alloc hB.size _⟩
     case measure=>simp[intOf];omega
  ·obtain rfl:j=l.length:=by omega
   go_wp2_with fail
   go_ret
   exact⟨rfl,hown,hB⟩
end
section
open Go.RowKit Go.Extern.Stop Go.Stop Go.Extern Go.Maps Go.WideMaps
variable {w w':World} {a:Nat->Addr}
def xid:Nat->Nat
 |0=>3 |1=>0 |2=>4 |3=>5 |_=>6
abbrev xerr(a:Addr):Value:= .iface 265 (.pointer (some a))
def xval(a:Nat->Addr):Nat->Value
 |0=> .nilIface
 |k+1=>xerr (a k)
theorem cell_block(hb: ∀k,k<w.heap.size->w'.heap[k]? =w.heap[k]?){p:Addr}{v:Value}(h:w.cell? p=some v):w'.cell? p=some v:=by
 rw[World.cell?_of_block (w:=w) (hb _ (World.block_lt_of_cell? w _ h))];exact h
structure EnvE(a:Nat->Addr)(w:World):Prop where
 err: ∀i,0<i/\i<5->w.cell? ⟨xid i,0,none⟩=some (xerr (a i))
theorem EnvE.block(h:EnvE a w)(hb: ∀k,k<w.heap.size->w'.heap[k]? =w.heap[k]?):EnvE a w':=⟨fun i hi=>cell_block hb (h.err i hi)⟩
theorem EnvE.below(h:EnvE a w)(hb:Below w.heap.size w w'):EnvE a w':=h.block hb.block
open Classical in
theorem check_any (a:Nat->Addr) (l:List Ins) (i:Nat) (x:Ins) (b:Nat) (w:World) (hx:l[i]? =some x) (hE:EnvE a w) (hsz:x.to.size<=maxLen)
  (hown:w.ownsMap Tryz.prog 9 (plainElem Tryz.prog 3) b l.length (setD l l.length)):
  Calls Tryz.prog 102 #[.agg #[.string x.op, .int .i64 x.a, .int .i64 x.b, .int .i64 x.c, .string x.to], .int .i64 i, .map (some b)] w fun e w'=>e= .returned (xval a (insFault l i x))/\Below w.heap.size w w':=by
 have HK:Hid (∀w',Calls Tryz.prog 126 #[.string x.op] w' fun e w''=>e= .returned (kindRet (shape x.op.toList))/\Below w'.heap.size w' w''):=fun w'=>kindOf_any x.op w'
 have hba:Below w.heap.size w (w.alloc (.cells #[.string x.op, .int .i64 x.a, .int .i64 x.b, .int .i64 x.c, .string x.to] 75)):=bRf.alloc nL _
 obtain⟨q0,q1,q2,q3,q4⟩:=box5 w 75 (.string x.op) (.int .i64 x.a) (.int .i64 x.b) (.int .i64 x.c) (.string x.to)
 cases hS:shape x.op.toList with
 | none=>
  have hF:insFault l i x=3:=insFault_none hS
  rw[hS] at HK
  rw[hF]
  go_enter Tryz.func102,Tryz.ntmps102
  go_wp2_with fail
  refine(HK.out _).mono ?_
  rintro e w1 ⟨rfl,hb1⟩
  have B1:=below_step hba hb1
  have E1:=(hE.below B1).err 2 (by decide)
  simp only[xid] at E1
  have g2:=bLt E1
  simp only at g2
  rw[show kindRet none= .tuple #[.agg #[.int .i64 0, .int .i64 0, .int .i64 0, .bool false], .bool false] by kernel_rfl]
  clear q0 q1 q2 q3 q4 hba hb1 HK hF hown hE
  go_wp2_with fail
  go_ret
  exact⟨rfl,B1.alloc B1.size _⟩
 | some S=>
  obtain⟨⟨_,h3⟩,_⟩:=table_facts _ (shape_mem hS)
  dsimp only at h3
  have hF:=insFault_some (l:=l) (i:=i) hS
  rw[hS,show kindRet (some S)= .tuple #[.agg #[.int .i64 (limOf S 0), .int .i64 (limOf S 1), .int .i64 (limOf S 2), .bool (hasTo S)], .bool true] from rfl] at HK
  clear h3
  by_cases hf:fitsP S x
  rotate_left
  ·rw [if_pos hf] at hF
   rw[hF]
   have HFt:Hid (∀w',Calls Tryz.prog 127 #[.agg #[.int .i64 (limOf S 0), .int .i64 (limOf S 1), .int .i64 (limOf S 2), .bool (hasTo S)], .agg #[.string x.op, .int .i64 x.a, .int .i64 x.b, .int .i64 x.c, .string x.to]] w' fun e w''=>e= .returned (.bool false)/\Below w'.heap.size w' w''):=fun w'=>by
    exact(fits_any (limOf S 0) (limOf S 1) (limOf S 2) (hasTo S) x w').mono fun e w'' ⟨h,h'⟩=>⟨by rw[h];exact congrArg (fun z=>Ending.returned (.bool z)) (decide_eq_false hf),h'⟩
   clear hf hF
   generalize limOf S 0=l0 at*
   generalize limOf S 1=l1 at*
   generalize limOf S 2=l2 at*
   generalize hasTo S=t at*
   go_enter Tryz.func102,Tryz.ntmps102
   go_wp2_with fail
   refine(HK.out _).mono ?_
   rintro e w1 ⟨rfl,hb1⟩
   have hlt:w.heap.size<w1.heap.size:=Nat.lt_of_lt_of_le (by simp) hb1.size
   have B1:=below_step hba hb1
   replace q0:=keep_cell hb1 q0
   replace q1:=keep_cell hb1 q1
   replace q2:=keep_cell hb1 q2
   replace q3:=keep_cell hb1 q3
   replace q4:=keep_cell hb1 q4
   clear HK hba hb1
   go_wp2_with fail
   obtain⟨W2,hW2⟩: ∃W2,W2=w1.alloc (.cells #[.int .i64 l0, .int .i64 l1, .int .i64 l2, .bool t] 236):=⟨_,rfl⟩
   have k0:W2.cell? ⟨w1.heap.size,0,none⟩=some (.int .i64 l0):=by rw[hW2];simp
   have k1:W2.cell? ⟨w1.heap.size,1,none⟩=some (.int .i64 l1):=by rw[hW2];simp
   have k2:W2.cell? ⟨w1.heap.size,2,none⟩=some (.int .i64 l2):=by rw[hW2];simp
   have k3:W2.cell? ⟨w1.heap.size,3,none⟩=some (.bool t):=by rw[hW2];simp
   have hbb:Below w1.heap.size w1 W2:=by rw[hW2];exact bRf.alloc nL _
   have B2:=below_step B1 hbb
   replace q0:=keep_cell hbb q0
   replace q1:=keep_cell hbb q1
   replace q2:=keep_cell hbb q2
   replace q3:=keep_cell hbb q3
   replace q4:=keep_cell hbb q4
   rw[<-hW2]
   clear hbb hW2 B1 hlt
   refine(HFt.out _).mono ?_
   rintro e w3 ⟨rfl,hb3⟩
   have B3:=below_step B2 hb3
   replace q0:=keep_cell hb3 q0
   replace q1:=keep_cell hb3 q1
   replace q2:=keep_cell hb3 q2
   replace q3:=keep_cell hb3 q3
   replace q4:=keep_cell hb3 q4
   replace k0:=keep_cell hb3 k0
   replace k1:=keep_cell hb3 k1
   replace k2:=keep_cell hb3 k2
   replace k3:=keep_cell hb3 k3
   clear B2 HFt hb3
   have E:=(hE.below B3).err 2 (by decide)
   simp only[xid] at E
   go_wp2_with fail
   go_ret
   exact⟨rfl,B3⟩
  rw[if_neg (fun h=>h hf)] at hF
  have HFt:Hid (∀w',Calls Tryz.prog 127 #[.agg #[.int .i64 (limOf S 0), .int .i64 (limOf S 1), .int .i64 (limOf S 2), .bool (hasTo S)], .agg #[.string x.op, .int .i64 x.a, .int .i64 x.b, .int .i64 x.c, .string x.to]] w' fun e w''=>e= .returned (.bool true)/\Below w'.heap.size w' w''):=fun w'=>by
   exact(fits_any (limOf S 0) (limOf S 1) (limOf S 2) (hasTo S) x w').mono fun e w'' ⟨h,h'⟩=>⟨by rw[h];exact congrArg (fun z=>Ending.returned (.bool z)) (decide_eq_true hf),h'⟩
  clear hf
  by_cases hw:withinP S x
  rotate_left
  ·rw [if_pos hw] at hF
   rw[hF]
   have HWi:Hid (∀w',Calls Tryz.prog 128 #[.agg #[.int .i64 (limOf S 0), .int .i64 (limOf S 1), .int .i64 (limOf S 2), .bool (hasTo S)], .agg #[.string x.op, .int .i64 x.a, .int .i64 x.b, .int .i64 x.c, .string x.to]] w' fun e w''=>e= .returned (.bool false)/\Below w'.heap.size w' w''):=fun w'=>by
    exact(within_any (limOf S 0) (limOf S 1) (limOf S 2) (hasTo S) x w').mono fun e w'' ⟨h,h'⟩=>⟨by rw[h];exact congrArg (fun z=>Ending.returned (.bool z)) (decide_eq_false hw),h'⟩
   clear hw hF
   generalize limOf S 0=l0 at*
   generalize limOf S 1=l1 at*
   generalize limOf S 2=l2 at*
   generalize hasTo S=t at*
   go_enter Tryz.func102,Tryz.ntmps102
   go_wp2_with fail
   refine(HK.out _).mono ?_
   rintro e w1 ⟨rfl,hb1⟩
   have hlt:w.heap.size<w1.heap.size:=Nat.lt_of_lt_of_le (by simp) hb1.size
   have B1:=below_step hba hb1
   replace q0:=keep_cell hb1 q0
   replace q1:=keep_cell hb1 q1
   replace q2:=keep_cell hb1 q2
   replace q3:=keep_cell hb1 q3
   replace q4:=keep_cell hb1 q4
   clear HK hba hb1
   go_wp2_with fail
   obtain⟨W2,hW2⟩: ∃W2,W2=w1.alloc (.cells #[.int .i64 l0, .int .i64 l1, .int .i64 l2, .bool t] 236):=⟨_,rfl⟩
   have k0:W2.cell? ⟨w1.heap.size,0,none⟩=some (.int .i64 l0):=by rw[hW2];simp
   have k1:W2.cell? ⟨w1.heap.size,1,none⟩=some (.int .i64 l1):=by rw[hW2];simp
   have k2:W2.cell? ⟨w1.heap.size,2,none⟩=some (.int .i64 l2):=by rw[hW2];simp
   have k3:W2.cell? ⟨w1.heap.size,3,none⟩=some (.bool t):=by rw[hW2];simp
   have hbb:Below w1.heap.size w1 W2:=by rw[hW2];exact bRf.alloc nL _
   have B2:=below_step B1 hbb
   replace q0:=keep_cell hbb q0
   replace q1:=keep_cell hbb q1
   replace q2:=keep_cell hbb q2
   replace q3:=keep_cell hbb q3
   replace q4:=keep_cell hbb q4
   rw[<-hW2]
   clear hbb hW2 B1 hlt
   refine(HFt.out _).mono ?_
   rintro e w3 ⟨rfl,hb3⟩
   have B3:=below_step B2 hb3
   replace q0:=keep_cell hb3 q0
   replace q1:=keep_cell hb3 q1
   replace q2:=keep_cell hb3 q2
   replace q3:=keep_cell hb3 q3
   replace q4:=keep_cell hb3 q4
   replace k0:=keep_cell hb3 k0
   replace k1:=keep_cell hb3 k1
   replace k2:=keep_cell hb3 k2
   replace k3:=keep_cell hb3 k3
   clear B2 HFt hb3
   go_wp2_with fail
   refine(HWi.out _).mono ?_
   rintro e w4 ⟨rfl,hb4⟩
   have B4:=below_step B3 hb4
   replace q0:=keep_cell hb4 q0
   replace q1:=keep_cell hb4 q1
   replace q2:=keep_cell hb4 q2
   replace q3:=keep_cell hb4 q3
   replace q4:=keep_cell hb4 q4
   replace k0:=keep_cell hb4 k0
   replace k1:=keep_cell hb4 k1
   replace k2:=keep_cell hb4 k2
   replace k3:=keep_cell hb4 k3
   clear B3 HWi hb4
   have E:=(hE.below B4).err 1 (by decide)
   simp only[xid] at E
   go_wp2_with fail
   go_ret
   exact⟨rfl,B4⟩
  rw[if_neg (fun h=>h hw)] at hF
  have HWi:Hid (∀w',Calls Tryz.prog 128 #[.agg #[.int .i64 (limOf S 0), .int .i64 (limOf S 1), .int .i64 (limOf S 2), .bool (hasTo S)], .agg #[.string x.op, .int .i64 x.a, .int .i64 x.b, .int .i64 x.c, .string x.to]] w' fun e w''=>e= .returned (.bool true)/\Below w'.heap.size w' w''):=fun w'=>by
   exact(within_any (limOf S 0) (limOf S 1) (limOf S 2) (hasTo S) x w').mono fun e w'' ⟨h,h'⟩=>⟨by rw[h];exact congrArg (fun z=>Ending.returned (.bool z)) (decide_eq_true hw),h'⟩
  clear hw
  cases hto:hasTo S
  ·rw[if_pos hto] at hF
   rw[hF]
   rw[hto] at HK HFt HWi
   clear hF
   generalize limOf S 0=l0 at*
   generalize limOf S 1=l1 at*
   generalize limOf S 2=l2 at*
   go_enter Tryz.func102,Tryz.ntmps102
   go_wp2_with fail
   refine(HK.out _).mono ?_
   rintro e w1 ⟨rfl,hb1⟩
   have hlt:w.heap.size<w1.heap.size:=Nat.lt_of_lt_of_le (by simp) hb1.size
   have B1:=below_step hba hb1
   replace q0:=keep_cell hb1 q0
   replace q1:=keep_cell hb1 q1
   replace q2:=keep_cell hb1 q2
   replace q3:=keep_cell hb1 q3
   replace q4:=keep_cell hb1 q4
   clear HK hba hb1
   go_wp2_with fail
   obtain⟨W2,hW2⟩: ∃W2,W2=w1.alloc (.cells #[.int .i64 l0, .int .i64 l1, .int .i64 l2, .bool false] 236):=⟨_,rfl⟩
   have k0:W2.cell? ⟨w1.heap.size,0,none⟩=some (.int .i64 l0):=by rw[hW2];simp
   have k1:W2.cell? ⟨w1.heap.size,1,none⟩=some (.int .i64 l1):=by rw[hW2];simp
   have k2:W2.cell? ⟨w1.heap.size,2,none⟩=some (.int .i64 l2):=by rw[hW2];simp
   have k3:W2.cell? ⟨w1.heap.size,3,none⟩=some (.bool false):=by rw[hW2];simp
   have hbb:Below w1.heap.size w1 W2:=by rw[hW2];exact bRf.alloc nL _
   have B2:=below_step B1 hbb
   replace q0:=keep_cell hbb q0
   replace q1:=keep_cell hbb q1
   replace q2:=keep_cell hbb q2
   replace q3:=keep_cell hbb q3
   replace q4:=keep_cell hbb q4
   rw[<-hW2]
   clear hbb hW2 B1 hlt
   refine(HFt.out _).mono ?_
   rintro e w3 ⟨rfl,hb3⟩
   have B3:=below_step B2 hb3
   replace q0:=keep_cell hb3 q0
   replace q1:=keep_cell hb3 q1
   replace q2:=keep_cell hb3 q2
   replace q3:=keep_cell hb3 q3
   replace q4:=keep_cell hb3 q4
   replace k0:=keep_cell hb3 k0
   replace k1:=keep_cell hb3 k1
   replace k2:=keep_cell hb3 k2
   replace k3:=keep_cell hb3 k3
   clear B2 HFt hb3
   go_wp2_with fail
   refine(HWi.out _).mono ?_
   rintro e w4 ⟨rfl,hb4⟩
   have B4:=below_step B3 hb4
   replace q0:=keep_cell hb4 q0
   replace q1:=keep_cell hb4 q1
   replace q2:=keep_cell hb4 q2
   replace q3:=keep_cell hb4 q3
   replace q4:=keep_cell hb4 q4
   replace k0:=keep_cell hb4 k0
   replace k1:=keep_cell hb4 k1
   replace k2:=keep_cell hb4 k2
   replace k3:=keep_cell hb4 k3
   clear B3 HWi hb4
   skip
   go_wp2_with fail
   go_ret
   exact⟨rfl,B4⟩
  rw[if_neg (fun h=>by rw[hto] at h;cases h)] at hF
  rw[hto] at HK HFt HWi
  have HN:Hid (∀w',Calls Tryz.prog 129 #[.string x.to] w' fun e w''=>e= .returned (.bool (decide (isName x.to)))/\Below w'.heap.size w' w''):=fun w'=>pisName_any x.to w'
  generalize limOf S 0=l0 at*
  generalize limOf S 1=l1 at*
  generalize limOf S 2=l2 at*
  go_enter Tryz.func102,Tryz.ntmps102
  go_wp2_with fail
  refine(HK.out _).mono ?_
  rintro e w1 ⟨rfl,hb1⟩
  have hlt:w.heap.size<w1.heap.size:=Nat.lt_of_lt_of_le (by simp) hb1.size
  have B1:=below_step hba hb1
  replace q0:=keep_cell hb1 q0
  replace q1:=keep_cell hb1 q1
  replace q2:=keep_cell hb1 q2
  replace q3:=keep_cell hb1 q3
  replace q4:=keep_cell hb1 q4
  clear HK hba hb1
  go_wp2_with fail
  obtain⟨W2,hW2⟩: ∃W2,W2=w1.alloc (.cells #[.int .i64 l0, .int .i64 l1, .int .i64 l2, .bool true] 236):=⟨_,rfl⟩
  have k0:W2.cell? ⟨w1.heap.size,0,none⟩=some (.int .i64 l0):=by rw[hW2];simp
  have k1:W2.cell? ⟨w1.heap.size,1,none⟩=some (.int .i64 l1):=by rw[hW2];simp
  have k2:W2.cell? ⟨w1.heap.size,2,none⟩=some (.int .i64 l2):=by rw[hW2];simp
  have k3:W2.cell? ⟨w1.heap.size,3,none⟩=some (.bool true):=by rw[hW2];simp
  have hbb:Below w1.heap.size w1 W2:=by rw[hW2];exact bRf.alloc nL _
  have B2:=below_step B1 hbb
  replace q0:=keep_cell hbb q0
  replace q1:=keep_cell hbb q1
  replace q2:=keep_cell hbb q2
  replace q3:=keep_cell hbb q3
  replace q4:=keep_cell hbb q4
  rw[<-hW2]
  clear hbb hW2 B1 hlt
  refine(HFt.out _).mono ?_
  rintro e w3 ⟨rfl,hb3⟩
  have B3:=below_step B2 hb3
  replace q0:=keep_cell hb3 q0
  replace q1:=keep_cell hb3 q1
  replace q2:=keep_cell hb3 q2
  replace q3:=keep_cell hb3 q3
  replace q4:=keep_cell hb3 q4
  replace k0:=keep_cell hb3 k0
  replace k1:=keep_cell hb3 k1
  replace k2:=keep_cell hb3 k2
  replace k3:=keep_cell hb3 k3
  clear B2 HFt hb3
  go_wp2_with fail
  refine(HWi.out _).mono ?_
  rintro e w4 ⟨rfl,hb4⟩
  have B4:=below_step B3 hb4
  replace q0:=keep_cell hb4 q0
  replace q1:=keep_cell hb4 q1
  replace q2:=keep_cell hb4 q2
  replace q3:=keep_cell hb4 q3
  replace q4:=keep_cell hb4 q4
  replace k0:=keep_cell hb4 k0
  replace k1:=keep_cell hb4 k1
  replace k2:=keep_cell hb4 k2
  replace k3:=keep_cell hb4 k3
  clear B3 HWi hb4
  skip
  have hown4:=hown.kept (w':=w4) (row:=none) ⟨B4.os,B4.tape,B4.output,B4.size,fun i hi _=>B4.block i hi⟩ (by simp)
  obtain⟨c,hlook,hat⟩:=look_eq hown4 x.to hsz
  have HT:=hide (setD_tells l x.to l.length)
  have hLA:=setD_all l x.to
  clear hown hown4
  by_cases hn:isName x.to
  rotate_left
  ·rw[if_pos hn] at hF
   have HF:=hide hF
   rw[decide_eq_false hn] at HN
   clear hn hF hat HT hLA
   go_wp2_with fail
   refine(HN.out _).mono ?_
   rintro e w5 ⟨rfl,hb5⟩
   have B5:=below_step B4 hb5
   replace q0:=keep_cell hb5 q0
   clear hb5 B4 hlook
   have E:=(hE.below B5).err 3 (by decide)
   simp only[xid] at E
   go_wp2_with fail
   go_ret
   exact⟨by rw[HF.out];rfl,B5⟩
  rw[if_neg (fun h=>h hn)] at hF
  rw[decide_eq_true hn] at HN
  clear hn
  rcases hLA with⟨hh,hla⟩ |⟨hh,i0,hi0,hla,hk⟩
  ·have hop:(x.op.toList==[108,97,98,101,108])=false:=by
    cases h:(x.op.toList==[108,97,98,101,108])
    ·rfl
    ·exfalso
     rcases HT.out with⟨_,h2⟩ |⟨h1,_⟩
     ·have:=h2 i x (List.getElem?_eq_some_iff.1 hx).1 hx
      unfold setsLabel at this
      rw[h] at this
      simp at this
     ·rw[hh] at h1;cases h1
   rw[if_neg (fun h=>by rw[hop] at h;cases h.1),if_pos (by rw[hla];decide)] at hF
   have HF:=hide hF
   rw[hh] at hlook
   clear hF hat HT hh hla
   go_wp2_with fail
   refine(HN.out _).mono ?_
   rintro e w5 ⟨rfl,hb5⟩
   have B5:=below_step B4 hb5
   replace q0:=keep_cell hb5 q0
   clear hb5 B4 hlook
   have E:=(hE.below B5).err 4 (by decide)
   simp only[xid] at E
   go_wp2_with fail
   go_ret
   exact⟨by rw[HF.out];rfl,B5⟩
  ·have hc:c=i0:=by
    have:=hk (.lit (.int .i64 0))
    rw[hat] at this
    injection this with this
    injection this
   subst hc
   rw[hh] at hlook
   rw[hla] at hF
   cases hop:(x.op.toList==[108,97,98,101,108])
   ·rw[if_neg (fun h=>by rw[hop] at h;cases h.1),if_neg (by omega)] at hF
    have HF:=hide hF
    clear hF hat HT hh hla hk
    go_wp2_with fail
    refine(HN.out _).mono ?_
    rintro e w5 ⟨rfl,hb5⟩
    have B5:=below_step B4 hb5
    replace q0:=keep_cell hb5 q0
    clear hb5 B4 hlook
    go_wp2_with fail
    go_ret
    exact⟨by rw[HF.out];rfl,B5⟩
   ·by_cases hii:(i0:Int)=i
    ·have hne:((i0:Int) !=(i:Int))=false:=by rw[bne_eq_false_iff_eq];exact hii
     rw[if_neg (fun h=>h.2 hii),if_neg (by omega)] at hF
     have HF:=hide hF
     clear hF hat HT hh hla hk hii
     go_wp2_with fail
     refine(HN.out _).mono ?_
     rintro e w5 ⟨rfl,hb5⟩
     have B5:=below_step B4 hb5
     replace q0:=keep_cell hb5 q0
     clear hb5 B4 hlook
     go_wp2_with fail
     go_ret
     exact⟨by rw[HF.out];rfl,B5⟩
    ·have hne:((i0:Int) !=(i:Int))=true:=by rw[bne_iff_ne];exact hii
     rw[if_pos ⟨hop,hii⟩] at hF
     have HF:=hide hF
     clear hF hat HT hh hla hk hii
     go_wp2_with fail
     refine(HN.out _).mono ?_
     rintro e w5 ⟨rfl,hb5⟩
     have B5:=below_step B4 hb5
     replace q0:=keep_cell hb5 q0
     clear hb5 B4 hlook
     have E:=(hE.below B5).err 3 (by decide)
     simp only[xid] at E
     go_wp2_with fail
     go_ret
     exact⟨by rw[HF.out];rfl,B5⟩
end
section
open Go.RowKit Go.Extern.Stop Go.Stop Go.Extern Go.Maps Go.WideMaps
variable {l:List Ins}
def errIs(a:Nat->Addr)(f:Nat×Int)(v:Value)(w:World)(B:Nat):Prop:=
 (f.1=0/\v= .nilIface)∨(f.1≠0/\f.2= -1/\v=xval a f.1)∨
 (f.1≠0/\ ∃j N:Nat,f.2=j/\B<=N/\v= .iface 152 (.pointer (some ⟨N,0,none⟩))/\w.cell? ⟨N,0,none⟩=some (.int .i64 j)/\w.cell? ⟨N,1,none⟩=some (xval a f.1))
theorem codeFault_long(h:2000<l.length):codeFault l=(2, -1):=if_pos h
theorem codeFault_none(h: ¬2000<l.length)(h0: ∀k y,l[k]? =some y->insFault l k y=0):codeFault l=(0, -1):=by
 unfold codeFault
 rw[if_neg h]
 exact faultFrom_at l l 0 (fun k y hy=>by simpa using h0 k y hy)
theorem codeFault_hit(h: ¬2000<l.length){j:Nat}{x:Ins}(hx:l[j]? =some x)(hj:insFault l j x≠0)(h0: ∀k y,k<j->l[k]? =some y->insFault l k y=0):codeFault l=(insFault l j x,(j:Int)):=by
 unfold codeFault
 rw[if_neg h]
 have:=faultFrom_hit l l 0 j x hx (by simpa using hj) (fun k y hk hy=>by simpa using h0 k y hk hy)
 simpa using this
theorem insFault_le(l:List Ins)(i:Nat)(x:Ins):insFault l i x<=5:=by
 have:=insErr_le x
 unfold insFault
 repeat' split
 all_goals omega
open Classical in
theorem pcheck_any (a:Nat->Addr) (ad:Option Addr) (cap:Nat) (l:List Ins) (w:World) (hE:EnvE a w) (hsz: ∀(i:Nat) x,l[i]? =some x->x.to.size<=maxLen) (hl:insAt ad l w):
  Calls Tryz.prog 71 #[.slice ad l.length cap] w fun e w'=> ∃v,e= .returned v/\errIs a (codeFault l) v w' w.heap.size/\Below w.heap.size w w':=by
 by_cases hlong:2000<l.length
 ·have hi:2000<(l.length:Int):=by omega
  have E:=hE.err 1 (by decide)
  simp only[xid] at E
  go_enter Tryz.func71,Tryz.ntmps71
  go_wp2_with fail
  go_ret
  refine⟨_,rfl,?_,Below.refl _ _⟩
  rw[codeFault_long hlong]
  exact .inr (.inl ⟨by decide,rfl,rfl⟩)
 have hi: ¬2000<(l.length:Int):=by omega
 have HL:=hide hl
 have HLa:Hid (∀w',insAt ad l w'->Calls Tryz.prog 74 #[.slice ad l.length cap] w' fun e w''=>e= .returned (.map (some w'.heap.size))/\w''.ownsMap Tryz.prog 9 (plainElem Tryz.prog 3) w'.heap.size l.length (setD l l.length)/\Below w'.heap.size w' w''):=fun w' h=>labels_any ad cap l w' (by omega) hsz h
 clear hl
 go_enter Tryz.func71,Tryz.ntmps71
 go_wp2_with fail
 refine(HLa.out _ HL.out).mono ?_
 rintro e w1 ⟨rfl,hown,hb1⟩
 clear HLa
 go_wp2_with fail
 go_loopw [4,5,6,15] (fun _ _ _ i wr=> ∃j:Nat,j<=l.length/\i= .int .i64 j/\Below w1.heap.size w1 wr/\Hid (∀k y,k<j->l[k]? =some y->insFault l k y=0)) (fun _ _ _ i _=>l.length - (intOf i).toNat)
 case atStart=>exact⟨0,Nat.zero_le _,rfl,Below.refl _ _,fun k y h=>absurd h (Nat.not_lt_zero _)⟩
 case round=>
  obtain⟨j,hj,rfl,hB,HJ⟩:=hrel
  have B:=below_step hb1 hB
  by_cases hlt:j<l.length
  ·obtain ⟨x,hx⟩: ∃x,l[j]? =some x:=⟨_,List.getElem?_eq_getElem hlt⟩
   obtain⟨b,off,rfl,a0,a1,a2,a3,a4⟩:=insAt_below HL.out B j x hx
   have ji:(j:Int)<l.length:=by omega
   have hownr:=hown.kept (w':=wr) (row:=none) ⟨hB.os,hB.tape,hB.output,hB.size,fun i hi _=>hB.block i hi⟩ (by simp)
   have HC:Hid (∀w',EnvE a w'->w'.ownsMap Tryz.prog 9 (plainElem Tryz.prog 3) w.heap.size l.length (setD l l.length)->Calls Tryz.prog 102 #[.agg #[.string x.op, .int .i64 x.a, .int .i64 x.b, .int .i64 x.c, .string x.to], .int .i64 j, .map (some w.heap.size)] w' fun e w''=>e= .returned (xval a (insFault l j x))/\Below w'.heap.size w' w''):=fun w' hE' ho=>check_any a l j x w.heap.size w' hx hE' (hsz j x hx) ho
   have EN:=hide (hE.below B)
   have HX:Hid (insFault l j x=0-> ∀k y,k<j+1->l[k]? =some y->insFault l k y=0):=fun h k y hk hy=>by
    by_cases e:k=j
    ·subst e;rw[hx] at hy;cases hy;exact h
    ·exact HJ.out k y (by omega) hy
   have HY:Hid (insFault l j x≠0->codeFault l=(insFault l j x,(j:Int))):=fun h=>codeFault_hit hlong hx h HJ.out
   have HZ:=hide (insFault_le l j x)
   have hba:Below wr.heap.size wr (wr.alloc (.cells #[.string x.op, .int .i64 x.a, .int .i64 x.b, .int .i64 x.c, .string x.to] 75)):=bRf.alloc nL _
   have B1:=below_step hB hba
   have hownb:=hide (hownr.alloc (.cells #[.string x.op, .int .i64 x.a, .int .i64 x.b, .int .i64 x.c, .string x.to] 75))
   have ENb:=hide (EN.out.below hba)
   clear hx HJ hownr EN
   generalize insFault l j x=n at*
   go_wp2_with fail
   refine(HC.out _ ENb.out hownb.out).mono ?_
   rintro e w2 ⟨rfl,hb2⟩
   have B2:=below_step B1 hb2
   clear HC ENb hownb hba B1
   cases n with
   | zero=>
    have HX':=hide (HX.out rfl)
    clear HX HY
    rw[show xval a 0= .nilIface from rfl]
    go_wp2_with fail
    go_roundw
    case rel=>exact⟨j+1,by omega,by go_num,B2,HX'⟩
    case measure=>simp[intOf];omega
   | succ n=>
    have HY':=hide (HY.out (by omega))
    clear HX HY
    rw[show xval a (n+1)=xerr (a n) from rfl]
    go_wp2_with fail
    go_ret
    have B3:=below_step hb1 B2
    refine⟨_,rfl,?_,B3.alloc B3.size _⟩
    rw[HY'.out]
    exact .inr (.inr ⟨Nat.succ_ne_zero _,j,w2.heap.size,rfl,B3.size,rfl,by simp,by simp;rfl⟩)
  ·have HZ:=hide (codeFault_none hlong (fun k y hy=>HJ.out k y (by have:=(List.getElem?_eq_some_iff.1 hy).1;omega) hy))
   obtain rfl:j=l.length:=by omega
   clear HJ
   go_wp2_with fail
   go_ret
   exact⟨_,rfl,by rw[HZ.out];exact .inl ⟨rfl,rfl⟩,B⟩
end
end Go.Proofs.YtdpmnlbnlnmjbaaGreatDoor
