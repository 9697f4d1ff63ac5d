import Derived.Test.YtnoigmdmgdcliaaGreatDoorA11
import Derived.Maps.Views
import Derived.Maps.OwnSet
import Derived.Test.YtnoigmdmgdcliaaGreatDoorA08
import Derived.Test.YtnoigmdmgdcliaaGreatDoorA01
import Derived.WalkKit
import Derived.Maps.Own
import Derived.Maps.OwnOps
import Derived.StringKeys
import Derived.Lib.LaidTab
namespace Go.Proofs.YtnoigmdmgdcliaaGreatDoor
set_option maxRecDepth 100000
set_option maxHeartbeats 8000000
section
open Go.RowKit Go.Maps
def setD(l:List Ins):Nat->DataW Unit
 |0=> .map []
 | j+1=>match l[j]? with
  |some x=>if((x.op.toList==[108,97,98,101,108])&& !Maps.has (setD l j) (.string (bl x.to)))=true then(setD l j).put (.string (bl x.to)) (.lit (.int .i64 j)) else setD l j
  |none=>setD l j
theorem setD_succ{l:List Ins}{j:Nat}{x:Ins}(hx:l[j]? =some x):setD l (j+1)=if((x.op.toList==[108,97,98,101,108])&& !Maps.has (setD l j) (.string (bl x.to)))=true then(setD l j).put (.string (bl x.to)) (.lit (.int .i64 j)) else setD l j:=by
 rw[setD,hx]
theorem setD_isMap (l:List Ins): ∀j,IsMap (setD l j)
 |0=>isMap_empty
 | j+1=>by
  have ih:=setD_isMap l j
  rw[setD]
  split
  ·split
   ·exact ih.put _ _
   ·exact ih
  ·exact ih
def tells(l:List Ins)(j:Nat)(to:ByteArray):Prop:=
 (Maps.has (setD l j) (.string (bl to))=false/\ ∀i y,i<j->l[i]? =some y->setsLabel y to=false)∨
 (Maps.has (setD l j) (.string (bl to))=true/\ ∃(i:Nat) (y:Ins),i<j/\l[i]? =some y/\setsLabel y to=true/\(∀k z,k<i->l[k]? =some z->setsLabel z to=false)/\ ∀d,(setD l j).atKey (.string (bl to)) d= .lit (.int .i64 i))
theorem setD_tells (l:List Ins) (to:ByteArray): ∀j,tells l j to
 |0=> .inl ⟨rfl,fun i y h=>absurd h (Nat.not_lt_zero _)⟩
 | j + 1=>by
  have ih:=setD_tells l to j
  have hm:=setD_isMap l j
  cases hx:l[j]? with
  | none=>
   have e:setD l (j+1)=setD l j:=by rw[setD,hx]
   unfold tells
   rw[e]
   rcases ih with⟨h1,h2⟩ |⟨h1,i,y,hi,hy,r⟩
   ·refine .inl ⟨h1,fun i y hi hy=>?_⟩
    by_cases e2:i=j
    ·subst e2;rw[hx] at hy;cases hy
    ·exact h2 i y (by omega) hy
   ·exact .inr ⟨h1,i,y,by omega,hy,r⟩
  | some x=>
   have hS:=setD_succ hx
   unfold tells
   by_cases hp:((x.op.toList==[108,97,98,101,108])&& !Maps.has (setD l j) (.string (bl x.to)))=true
   ·rw [if_pos hp] at hS
    rw[hS]
    obtain⟨hop,hh⟩:=(Bool.and_eq_true _ _).mp hp
    have hh:Maps.has (setD l j) (.string (bl x.to))=false:=by simpa using hh
    by_cases ht:to=x.to
    ·subst ht
     refine .inr ⟨has_put_same hm (by trivial) _,j,x,by omega,hx,by unfold setsLabel;rw[hop];simp,?_,fun d=>atKey_put_same hm (by trivial) _ _⟩
     rcases ih with⟨_,h2⟩ |⟨h1,_⟩
     ·exact h2
     ·rw[hh] at h1;cases h1
    ·have hne:(Lit.string (bl to))≠ .string (bl x.to):=fun e=>ht (bl_inj (by injection e))
     rw[has_put_other hne]
     have hset:setsLabel x to=false:=by
      unfold setsLabel
      rw[hop,Bool.true_and,beq_eq_false_iff_ne,toList_bl,toList_bl]
      exact fun e=>ht (bl_inj e).symm
     rcases ih with⟨h1,h2⟩ |⟨h1,i,y,hi,hy,r1,r2,r3⟩
     ·refine .inl ⟨h1,fun i y hi hy=>?_⟩
      by_cases e2:i=j
      ·subst e2;rw[hx] at hy;cases hy;exact hset
      ·exact h2 i y (by omega) hy
     ·exact .inr ⟨h1,i,y,by omega,hy,r1,r2,fun d=>by rw[atKey_put_other hne];exact r3 d⟩
   ·rw [if_neg hp] at hS
    rw[hS]
    rcases ih with⟨h1,h2⟩ |⟨h1,i,y,hi,hy,r⟩
    ·refine .inl ⟨h1,fun i y hi hy=>?_⟩
     by_cases e2:i=j
     ·subst e2
      rw[hx] at hy
      cases hy
      cases hs:setsLabel x to with
      |false=>rfl
      | true=>
       exfalso
       unfold setsLabel at hs
       obtain⟨a,b⟩:=(Bool.and_eq_true _ _).mp hs
       have b:=beq_iff_eq.1 b
       rw[toList_bl,toList_bl] at b
       apply hp
       rw[a,b,h1]
       rfl
     ·exact h2 i y (by omega) hy
    ·exact .inr ⟨h1,i,y,by omega,hy,r⟩
theorem setD_all(l:List Ins)(to:ByteArray):(Maps.has (setD l l.length) (.string (bl to))=false/\labelAt l to= -1)∨
  (Maps.has (setD l l.length) (.string (bl to))=true/\ ∃i:Nat,i<l.length/\labelAt l to=i/\ ∀d,(setD l l.length).atKey (.string (bl to)) d= .lit (.int .i64 i)):=by
 rcases setD_tells l to l.length with⟨h1,h2⟩ |⟨h1,i,y,hi,hy,r1,r2,r3⟩
 ·exact .inl ⟨h1,labelAt_none fun k y hy=>h2 k y (List.getElem?_eq_some_iff.1 hy).1 hy⟩
 ·exact .inr ⟨h1,i,hi,labelAt_some hy r1 (fun k z hk hz=>r2 k z hk hz),r3⟩
end
section
open Go.RowKit Go.Extern.Stop Go.Stop Go.Extern
def insAt(ad:Option Addr)(l:List Ins)(w:World):Prop:= ∀i x,l[i]? =some x-> ∃b off,ad=some ⟨b,off,none⟩/\
 w.cell? ⟨b,off+i*5,none⟩=some (.string x.op)/\w.cell? ⟨b,off+i*5+1,none⟩=some (.int .i64 x.a)/\w.cell? ⟨b,off+i*5+2,none⟩=some (.int .i64 x.b)/\
 w.cell? ⟨b,off+i*5+3,none⟩=some (.int .i64 x.c)/\w.cell? ⟨b,off+i*5+4,none⟩=some (.string x.to)
theorem insAt_below{ad:Option Addr}{l:List Ins}{w w':World}(h:insAt ad l w)(k:Below w.heap.size w w'):insAt ad l w':=fun i x hx=>by
 obtain⟨b,off,e,h0,h1,h2,h3,h4⟩:=h i x hx
 exact⟨b,off,e,keep_cell k h0,keep_cell k h1,keep_cell k h2,keep_cell k h3,keep_cell k h4⟩
end
section
open Go.RowKit Go.Extern.Stop Go.Stop Go.Extern Go.Maps Go.WideMaps
variable {D:DataW Unit} {b n:Nat} {w:World}
theorem mapLaw:Keyed Tryz.prog 9:=string_keyed Tryz.underlying9
theorem mapZero(w:World):(zeroValue 3).run Tryz.prog w= .ok (.int .i64 0) w:=by kernel_rfl
theorem look_eq(h:w.ownsMap Tryz.prog 9 (plainElem Tryz.prog 3) b n D)(s:ByteArray)(hs:s.size<=maxLen):
  ∃c,(Instr.lookup 186 (.map (some b)) (.string s) true).run Tryz.prog w= .ok (.tuple #[.int .i64 c, .bool (Maps.has D (.string (bl s)))]) w/\D.atKey (.string (bl s)) (.lit (.int .i64 0))= .lit (.int .i64 c):=by
 obtain⟨v,ps,hrun,hv⟩:=h.look_ok (t:=186) mapLaw Tryz.underlying186 (mapZero w) (plainElem_int Tryz.underlying3 (by decide)) (keyOf_string_mk Tryz.underlying9 hs)
 obtain⟨c,rfl,hc,_⟩:=plainElem_int_inv Tryz.underlying3 hv
 exact⟨c,hrun,congrArg Prod.fst hc⟩
theorem store_eq(h:w.ownsMap Tryz.prog 9 (plainElem Tryz.prog 3) b n D)(hn:n<maxLen)(s:ByteArray)(hs:s.size<=maxLen)(i:Int)(hi:(Lit.int .i64 i).wf=true):
  ∃w',(Instr.mapUpdate 186 (.map (some b)) (.string s) (.int .i64 i)).run Tryz.prog w= .ok () w'/\w'.ownsMap Tryz.prog 9 (plainElem Tryz.prog 3) b (n+1) (D.put (.string (bl s)) (.lit (.int .i64 i)))/\w.grownBy w' (some b):=
 h.update (t:=186) mapLaw Tryz.underlying186 hn (keyOf_string_mk Tryz.underlying9 hs) (plainElem_int Tryz.underlying3 hi)
theorem labels_any (ad:Option Addr) (cap:Nat) (l:List Ins) (w:World) (hlen:l.length<=1000000) (hto: ∀(i:Nat) x,l[i]? =some x->x.to.size<=maxLen) (hl:insAt ad l w):
  Calls Tryz.prog 90 #[.slice ad l.length cap] w fun e w'=>e= .returned (.map (some w.heap.size))/\w'.ownsMap Tryz.prog 9 (plainElem Tryz.prog 3) w.heap.size l.length (setD l l.length)/\Below w.heap.size w w':=by
 have HL:=hide hl
 have HT:=hide hto
 clear hl hto
 have hmm:= @run_makeMap Tryz.prog
 go_enter Tryz.func90,Tryz.ntmps90
 go_wp2_with fail
 go_loopw [4,5,6,7,11] (fun _ _ _ _ i wr=> ∃j:Nat,j<=l.length/\i= .int .i64 j/\wr.ownsMap Tryz.prog 9 (plainElem Tryz.prog 3) w.heap.size j (setD l j)/\Below w.heap.size w wr) (fun _ _ _ _ i _=>l.length - (intOf i).toNat)
 case atStart=>exact⟨0,Nat.zero_le _,rfl,World.ownsMap_made _ _ _ _,bRf.alloc nL _⟩
 case round=>
  obtain⟨j,hj,rfl,hown,hB⟩:=hrel
  by_cases hlt:j<l.length
  ·obtain ⟨x,hx⟩: ∃x,l[j]? =some x:=⟨_,List.getElem?_eq_getElem hlt⟩
   obtain⟨b,off,rfl,a0,a1,a2,a3,a4⟩:=insAt_below HL.out hB j x hx
   have hts:=HT.out j x hx
   have HS:=hide (setD_succ hx)
   have ji:(j:Int)<l.length:=by omega
   clear hx
   obtain⟨c,hlook, -⟩:=look_eq (hown.alloc (.cells #[.string x.op, .int .i64 x.a, .int .i64 x.b, .int .i64 x.c, .string x.to] 57)) x.to hts
   cases hh:Maps.has (setD l j) (.string (bl x.to))
   ·rw [hh] at hlook
    cases k1:(x.op.toList==[108,97,98,101,108])
    ·have HS':Hid (setD l (j+1)=setD l j):=by
      show _=_
      rw[HS.out,k1,hh];rfl
     clear HS hh
     go_wp2_with fail
     go_roundw
     case rel=>exact⟨j+1,by omega,by go_num,by rw[HS'.out];exact(hown.alloc _).mono (by omega),hB.alloc hB.size _⟩
     case measure=>simp[intOf];omega
    ·have HS':Hid (setD l (j+1)=(setD l j).put (.string (bl x.to)) (.lit (.int .i64 j))):=by
      show _=_
      rw[HS.out,k1,hh];rfl
     obtain⟨w1,hst,hown1,hgrow1⟩:=store_eq (hown.alloc (.cells #[.string x.op, .int .i64 x.a, .int .i64 x.b, .int .i64 x.c, .string x.to] 57)) (by unfold maxLen;omega) x.to hts j (WalkArith.wf_i64 (by omega))
     have B1:=(hB.alloc hB.size (.cells #[.string x.op, .int .i64 x.a, .int .i64 x.b, .int .i64 x.c, .string x.to] 57)).grown hgrow1 (Nat.le_trans hB.size (by simp)) (fun k hk=>by cases hk;exact Nat.le_refl _)
     clear HS hh hown hgrow1
     go_wp2_with fail
     go_roundw
     case rel=>exact⟨j+1,by omega,by go_num,by rw[HS'.out];exact hown1,B1⟩
     case measure=>simp[intOf];omega
   ·have HS':Hid (setD l (j+1)=setD l j):=by
     show _=_
     rw[HS.out,hh];simp
    rw[hh] at hlook
    clear HS hh
    cases k1:(x.op.toList==[108,97,98,101,108])
    all_goals
     go_wp2_with fail
     go_roundw
     case rel=>exact⟨j+1,by omega,by go_num,by rw[HS'.out];exact(hown.alloc _).mono (by omega),hB.alloc hB.size _⟩
     case measure=>simp[intOf];omega
  ·obtain rfl:j=l.length:=by omega
   go_wp2_with fail
   go_ret
   exact⟨rfl,hown,hB⟩
end
section
open Go.RowKit Go.Extern.Stop Go.Stop Go.Extern Go.Maps Go.WideMaps
variable {w w':World} {a:Nat->Addr}
def xid:Nat->Nat
 |0=>2 |1=>0 |2=>3 |3=>4 |_=>5
abbrev xerr(a:Addr):Value:= .iface 358 (.pointer (some a))
def xval(a:Nat->Addr):Nat->Value
 |0=> .nilIface
 |k+1=>xerr (a k)
theorem cell_block(hb: ∀k,k<w.heap.size->w'.heap[k]? =w.heap[k]?){p:Addr}{v:Value}(h:w.cell? p=some v):w'.cell? p=some v:=by
 rw[World.cell?_of_block (w:=w) (hb _ (World.block_lt_of_cell? w _ h))];exact h
structure EnvE(a:Nat->Addr)(w:World):Prop where
 err: ∀i,0<i/\i<5->w.cell? ⟨xid i,0,none⟩=some (xerr (a i))
theorem EnvE.block(h:EnvE a w)(hb: ∀k,k<w.heap.size->w'.heap[k]? =w.heap[k]?):EnvE a w':=⟨fun i hi=>cell_block hb (h.err i hi)⟩
theorem EnvE.below(h:EnvE a w)(hb:Below w.heap.size w w'):EnvE a w':=h.block hb.block
open Classical in
theorem check_any (a:Nat->Addr) (l:List Ins) (i:Nat) (x:Ins) (b:Nat) (w:World) (hx:l[i]? =some x) (hE:EnvE a w) (hsz:x.to.size<=maxLen)
  (hown:w.ownsMap Tryz.prog 9 (plainElem Tryz.prog 3) b l.length (setD l l.length)):
  Calls Tryz.prog 161 #[.agg #[.string x.op, .int .i64 x.a, .int .i64 x.b, .int .i64 x.c, .string x.to], .int .i64 i, .map (some b)] w fun e w'=>e= .returned (xval a (insFault l i x))/\Below w.heap.size w w':=by
 have HK:Hid (∀w',Calls Tryz.prog 208 #[.string x.op] w' fun e w''=>e= .returned (kindRet (shape x.op.toList))/\Below w'.heap.size w' w''):=fun w'=>kindOf_any x.op w'
 have hba:Below w.heap.size w (w.alloc (.cells #[.string x.op, .int .i64 x.a, .int .i64 x.b, .int .i64 x.c, .string x.to] 57)):=bRf.alloc nL _
 obtain⟨q0,q1,q2,q3,q4⟩:=box5 w 57 (.string x.op) (.int .i64 x.a) (.int .i64 x.b) (.int .i64 x.c) (.string x.to)
 cases hS:shape x.op.toList with
 | none=>
  have hF:insFault l i x=3:=insFault_none hS
  rw[hS] at HK
  rw[hF]
  go_enter Tryz.func161,Tryz.ntmps161
  go_wp2_with fail
  refine(HK.out _).mono ?_
  rintro e w1 ⟨rfl,hb1⟩
  have B1:=below_step hba hb1
  have E1:=(hE.below B1).err 2 (by decide)
  simp only[xid] at E1
  have g2:=bLt E1
  simp only at g2
  rw[show kindRet none= .tuple #[.agg #[.int .i64 0, .int .i64 0, .int .i64 0, .bool false], .bool false] by kernel_rfl]
  clear q0 q1 q2 q3 q4 hba hb1 HK hF hown hE
  go_wp2_with fail
  go_ret
  exact⟨rfl,B1.alloc B1.size _⟩
 | some S=>
  obtain⟨⟨_,h3⟩,_⟩:=table_facts _ (shape_mem hS)
  dsimp only at h3
  have hF:=insFault_some (l:=l) (i:=i) hS
  rw[hS,show kindRet (some S)= .tuple #[.agg #[.int .i64 (limOf S 0), .int .i64 (limOf S 1), .int .i64 (limOf S 2), .bool (hasTo S)], .bool true] from rfl] at HK
  clear h3
  by_cases hf:fitsP S x
  rotate_left
  ·rw [if_pos hf] at hF
   rw[hF]
   have HFt:Hid (∀w',Calls Tryz.prog 209 #[.agg #[.int .i64 (limOf S 0), .int .i64 (limOf S 1), .int .i64 (limOf S 2), .bool (hasTo S)], .agg #[.string x.op, .int .i64 x.a, .int .i64 x.b, .int .i64 x.c, .string x.to]] w' fun e w''=>e= .returned (.bool false)/\Below w'.heap.size w' w''):=fun w'=>by
    exact(fits_any (limOf S 0) (limOf S 1) (limOf S 2) (hasTo S) x w').mono fun e w'' ⟨h,h'⟩=>⟨by rw[h];exact congrArg (fun z=>Ending.returned (.bool z)) (decide_eq_false hf),h'⟩
   clear hf hF
   generalize limOf S 0=l0 at*
   generalize limOf S 1=l1 at*
   generalize limOf S 2=l2 at*
   generalize hasTo S=t at*
   go_enter Tryz.func161,Tryz.ntmps161
   go_wp2_with fail
   refine(HK.out _).mono ?_
   rintro e w1 ⟨rfl,hb1⟩
   have hlt:w.heap.size<w1.heap.size:=Nat.lt_of_lt_of_le (by simp) hb1.size
   have B1:=below_step hba hb1
   replace q0:=keep_cell hb1 q0
   replace q1:=keep_cell hb1 q1
   replace q2:=keep_cell hb1 q2
   replace q3:=keep_cell hb1 q3
   replace q4:=keep_cell hb1 q4
   clear HK hba hb1
   go_wp2_with fail
   obtain⟨W2,hW2⟩: ∃W2,W2=w1.alloc (.cells #[.int .i64 l0, .int .i64 l1, .int .i64 l2, .bool t] 307):=⟨_,rfl⟩
   have k0:W2.cell? ⟨w1.heap.size,0,none⟩=some (.int .i64 l0):=by rw[hW2];simp
   have k1:W2.cell? ⟨w1.heap.size,1,none⟩=some (.int .i64 l1):=by rw[hW2];simp
   have k2:W2.cell? ⟨w1.heap.size,2,none⟩=some (.int .i64 l2):=by rw[hW2];simp
   have k3:W2.cell? ⟨w1.heap.size,3,none⟩=some (.bool t):=by rw[hW2];simp
   have hbb:Below w1.heap.size w1 W2:=by rw[hW2];exact bRf.alloc nL _
   have B2:=below_step B1 hbb
   replace q0:=keep_cell hbb q0
   replace q1:=keep_cell hbb q1
   replace q2:=keep_cell hbb q2
   replace q3:=keep_cell hbb q3
   replace q4:=keep_cell hbb q4
   rw[<-hW2]
   clear hbb hW2 B1 hlt
   refine(HFt.out _).mono ?_
   rintro e w3 ⟨rfl,hb3⟩
   have B3:=below_step B2 hb3
   replace q0:=keep_cell hb3 q0
   replace q1:=keep_cell hb3 q1
   replace q2:=keep_cell hb3 q2
   replace q3:=keep_cell hb3 q3
   replace q4:=keep_cell hb3 q4
   replace k0:=keep_cell hb3 k0
   replace k1:=keep_cell hb3 k1
   replace k2:=keep_cell hb3 k2
   replace k3:=keep_cell hb3 k3
   clear B2 HFt hb3
   have E:=(hE.below B3).err 2 (by decide)
   simp only[xid] at E
   go_wp2_with fail
   go_ret
   exact⟨rfl,B3⟩
  rw[if_neg (fun h=>h hf)] at hF
  have HFt:Hid (∀w',Calls Tryz.prog 209 #[.agg #[.int .i64 (limOf S 0), .int .i64 (limOf S 1), .int .i64 (limOf S 2), .bool (hasTo S)], .agg #[.string x.op, .int .i64 x.a, .int .i64 x.b, .int .i64 x.c, .string x.to]] w' fun e w''=>e= .returned (.bool true)/\Below w'.heap.size w' w''):=fun w'=>by
   exact(fits_any (limOf S 0) (limOf S 1) (limOf S 2) (hasTo S) x w').mono fun e w'' ⟨h,h'⟩=>⟨by rw[h];exact congrArg (fun z=>Ending.returned (.bool z)) (decide_eq_true hf),h'⟩
  clear hf
  by_cases hw:withinP S x
  rotate_left
  ·rw [if_pos hw] at hF
   rw[hF]
   have HWi:Hid (∀w',Calls Tryz.prog 210 #[.agg #[.int .i64 (limOf S 0), .int .i64 (limOf S 1), .int .i64 (limOf S 2), .bool (hasTo S)], .agg #[.string x.op, .int .i64 x.a, .int .i64 x.b, .int .i64 x.c, .string x.to]] w' fun e w''=>e= .returned (.bool false)/\Below w'.heap.size w' w''):=fun w'=>by
    exact(within_any (limOf S 0) (limOf S 1) (limOf S 2) (hasTo S) x w').mono fun e w'' ⟨h,h'⟩=>⟨by rw[h];exact congrArg (fun z=>Ending.returned (.bool z)) (decide_eq_false hw),h'⟩
   clear hw hF
   generalize limOf S 0=l0 at*
   generalize limOf S 1=l1 at*
   generalize limOf S 2=l2 at*
   generalize hasTo S=t at*
   go_enter Tryz.func161,Tryz.ntmps161
   go_wp2_with fail
   refine(HK.out _).mono ?_
   rintro e w1 ⟨rfl,hb1⟩
   have hlt:w.heap.size<w1.heap.size:=Nat.lt_of_lt_of_le (by simp) hb1.size
   have B1:=below_step hba hb1
   replace q0:=keep_cell hb1 q0
   replace q1:=keep_cell hb1 q1
   replace q2:=keep_cell hb1 q2
   replace q3:=keep_cell hb1 q3
   replace q4:=keep_cell hb1 q4
   clear HK hba hb1
   go_wp2_with fail
   obtain⟨W2,hW2⟩: ∃W2,W2=w1.alloc (.cells #[.int .i64 l0, .int .i64 l1, .int .i64 l2, .bool t] 307):=⟨_,rfl⟩
   have k0:W2.cell? ⟨w1.heap.size,0,none⟩=some (.int .i64 l0):=by rw[hW2];simp
   have k1:W2.cell? ⟨w1.heap.size,1,none⟩=some (.int .i64 l1):=by rw[hW2];simp
   have k2:W2.cell? ⟨w1.heap.size,2,none⟩=some (.int .i64 l2):=by rw[hW2];simp
   have k3:W2.cell? ⟨w1.heap.size,3,none⟩=some (.bool t):=by rw[hW2];simp
   have hbb:Below w1.heap.size w1 W2:=by rw[hW2];exact bRf.alloc nL _
   have B2:=below_step B1 hbb
   replace q0:=keep_cell hbb q0
   replace q1:=keep_cell hbb q1
   replace q2:=keep_cell hbb q2
   replace q3:=keep_cell hbb q3
   replace q4:=keep_cell hbb q4
   rw[<-hW2]
   clear hbb hW2 B1 hlt
   refine(HFt.out _).mono ?_
   rintro e w3 ⟨rfl,hb3⟩
   have B3:=below_step B2 hb3
   replace q0:=keep_cell hb3 q0
   replace q1:=keep_cell hb3 q1
   replace q2:=keep_cell hb3 q2
   replace q3:=keep_cell hb3 q3
   replace q4:=keep_cell hb3 q4
   replace k0:=keep_cell hb3 k0
   replace k1:=keep_cell hb3 k1
   replace k2:=keep_cell hb3 k2
   replace k3:=keep_cell hb3 k3
   clear B2 HFt hb3
   go_wp2_with fail
   refine(HWi.out _).mono ?_
   rintro e w4 ⟨rfl,hb4⟩
   have B4:=below_step B3 hb4
   replace q0:=keep_cell hb4 q0
   replace q1:=keep_cell hb4 q1
   replace q2:=keep_cell hb4 q2
   replace q3:=keep_cell hb4 q3
   replace q4:=keep_cell hb4 q4
   replace k0:=keep_cell hb4 k0
   replace k1:=keep_cell hb4 k1
   replace k2:=keep_cell hb4 k2
   replace k3:=keep_cell hb4 k3
   clear B3 HWi hb4
   have E:=(hE.below B4).err 1 (by decide)
   simp only[xid] at E
   go_wp2_with fail
   go_ret
   exact⟨rfl,B4⟩
  rw[if_neg (fun h=>h hw)] at hF
  have HWi:Hid (∀w',Calls Tryz.prog 210 #[.agg #[.int .i64 (limOf S 0), .int .i64 (limOf S 1), .int .i64 (limOf S 2), .bool (hasTo S)], .agg #[.string x.op, .int .i64 x.a, .int .i64 x.b, .int .i64 x.c, .string x.to]] w' fun e w''=>e= .returned (.bool true)/\Below w'.heap.size w' w''):=fun w'=>by
   exact(within_any (limOf S 0) (limOf S 1) (limOf S 2) (hasTo S) x w').mono fun e w'' ⟨h,h'⟩=>⟨by rw[h];exact congrArg (fun z=>Ending.returned (.bool z)) (decide_eq_true hw),h'⟩
  clear hw
  cases hto:hasTo S
  ·rw[if_pos hto] at hF
   rw[hF]
   rw[hto] at HK HFt HWi
   clear hF
   generalize limOf S 0=l0 at*
   generalize limOf S 1=l1 at*
   generalize limOf S 2=l2 at*
   go_enter Tryz.func161,Tryz.ntmps161
   go_wp2_with fail
   refine(HK.out _).mono ?_
   rintro e w1 ⟨rfl,hb1⟩
   have hlt:w.heap.size<w1.heap.size:=Nat.lt_of_lt_of_le (by simp) hb1.size
   have B1:=below_step hba hb1
   replace q0:=keep_cell hb1 q0
   replace q1:=keep_cell hb1 q1
   replace q2:=keep_cell hb1 q2
   replace q3:=keep_cell hb1 q3
   replace q4:=keep_cell hb1 q4
   clear HK hba hb1
   go_wp2_with fail
   obtain⟨W2,hW2⟩: ∃W2,W2=w1.alloc (.cells #[.int .i64 l0, .int .i64 l1, .int .i64 l2, .bool false] 307):=⟨_,rfl⟩
   have k0:W2.cell? ⟨w1.heap.size,0,none⟩=some (.int .i64 l0):=by rw[hW2];simp
   have k1:W2.cell? ⟨w1.heap.size,1,none⟩=some (.int .i64 l1):=by rw[hW2];simp
   have k2:W2.cell? ⟨w1.heap.size,2,none⟩=some (.int .i64 l2):=by rw[hW2];simp
   have k3:W2.cell? ⟨w1.heap.size,3,none⟩=some (.bool false):=by rw[hW2];simp
   have hbb:Below w1.heap.size w1 W2:=by rw[hW2];exact bRf.alloc nL _
   have B2:=below_step B1 hbb
   replace q0:=keep_cell hbb q0
   replace q1:=keep_cell hbb q1
   replace q2:=keep_cell hbb q2
   replace q3:=keep_cell hbb q3
   replace q4:=keep_cell hbb q4
   rw[<-hW2]
   clear hbb hW2 B1 hlt
   refine(HFt.out _).mono ?_
   rintro e w3 ⟨rfl,hb3⟩
   have B3:=below_step B2 hb3
   replace q0:=keep_cell hb3 q0
   replace q1:=keep_cell hb3 q1
   replace q2:=keep_cell hb3 q2
   replace q3:=keep_cell hb3 q3
   replace q4:=keep_cell hb3 q4
   replace k0:=keep_cell hb3 k0
   replace k1:=keep_cell hb3 k1
   replace k2:=keep_cell hb3 k2
   replace k3:=keep_cell hb3 k3
   clear B2 HFt hb3
   go_wp2_with fail
   refine(HWi.out _).mono ?_
   rintro e w4 ⟨rfl,hb4⟩
   have B4:=below_step B3 hb4
   replace q0:=keep_cell hb4 q0
   replace q1:=keep_cell hb4 q1
   replace q2:=keep_cell hb4 q2
   replace q3:=keep_cell hb4 q3
   replace q4:=keep_cell hb4 q4
   replace k0:=keep_cell hb4 k0
   replace k1:=keep_cell hb4 k1
   replace k2:=keep_cell hb4 k2
   replace k3:=keep_cell hb4 k3
   clear B3 HWi hb4
   skip
   go_wp2_with fail
   go_ret
   exact⟨rfl,B4⟩
  rw[if_neg (fun h=>by rw[hto] at h;cases h)] at hF
  rw[hto] at HK HFt HWi
  have HN:Hid (∀w',Calls Tryz.prog 178 #[.string x.to] w' fun e w''=>e= .returned (.bool (decide (isName x.to)))/\Below w'.heap.size w' w''):=fun w'=>pisName_any x.to w'
  generalize limOf S 0=l0 at*
  generalize limOf S 1=l1 at*
  generalize limOf S 2=l2 at*
  go_enter Tryz.func161,Tryz.ntmps161
  go_wp2_with fail
  refine(HK.out _).mono ?_
  rintro e w1 ⟨rfl,hb1⟩
  have hlt:w.heap.size<w1.heap.size:=Nat.lt_of_lt_of_le (by simp) hb1.size
  have B1:=below_step hba hb1
  replace q0:=keep_cell hb1 q0
  replace q1:=keep_cell hb1 q1
  replace q2:=keep_cell hb1 q2
  replace q3:=keep_cell hb1 q3
  replace q4:=keep_cell hb1 q4
  clear HK hba hb1
  go_wp2_with fail
  obtain⟨W2,hW2⟩: ∃W2,W2=w1.alloc (.cells #[.int .i64 l0, .int .i64 l1, .int .i64 l2, .bool true] 307):=⟨_,rfl⟩
  have k0:W2.cell? ⟨w1.heap.size,0,none⟩=some (.int .i64 l0):=by rw[hW2];simp
  have k1:W2.cell? ⟨w1.heap.size,1,none⟩=some (.int .i64 l1):=by rw[hW2];simp
  have k2:W2.cell? ⟨w1.heap.size,2,none⟩=some (.int .i64 l2):=by rw[hW2];simp
  have k3:W2.cell? ⟨w1.heap.size,3,none⟩=some (.bool true):=by rw[hW2];simp
  have hbb:Below w1.heap.size w1 W2:=by rw[hW2];exact bRf.alloc nL _
  have B2:=below_step B1 hbb
  replace q0:=keep_cell hbb q0
  replace q1:=keep_cell hbb q1
  replace q2:=keep_cell hbb q2
  replace q3:=keep_cell hbb q3
  replace q4:=keep_cell hbb q4
  rw[<-hW2]
  clear hbb hW2 B1 hlt
  refine(HFt.out _).mono ?_
  rintro e w3 ⟨rfl,hb3⟩
  have B3:=below_step B2 hb3
  replace q0:=keep_cell hb3 q0
  replace q1:=keep_cell hb3 q1
  replace q2:=keep_cell hb3 q2
  replace q3:=keep_cell hb3 q3
  replace q4:=keep_cell hb3 q4
  replace k0:=keep_cell hb3 k0
  replace k1:=keep_cell hb3 k1
  replace k2:=keep_cell hb3 k2
  replace k3:=keep_cell hb3 k3
  clear B2 HFt hb3
  go_wp2_with fail
  refine(HWi.out _).mono ?_
  rintro e w4 ⟨rfl,hb4⟩
  have B4:=below_step B3 hb4
  replace q0:=keep_cell hb4 q0
  replace q1:=keep_cell hb4 q1
  replace q2:=keep_cell hb4 q2
  replace q3:=keep_cell hb4 q3
  replace q4:=keep_cell hb4 q4
  replace k0:=keep_cell hb4 k0
  replace k1:=keep_cell hb4 k1
  replace k2:=keep_cell hb4 k2
  replace k3:=keep_cell hb4 k3
  clear B3 HWi hb4
  skip
  have hown4:=hown.kept (w':=w4) (row:=none) ⟨B4.os,B4.tape,B4.output,B4.size,fun i hi _=>B4.block i hi⟩ (by simp)
  obtain⟨c,hlook,hat⟩:=look_eq hown4 x.to hsz
  have HT:=hide (setD_tells l x.to l.length)
  have hLA:=setD_all l x.to
  clear hown hown4
  by_cases hn:isName x.to
  rotate_left
  ·rw[if_pos hn] at hF
   have HF:=hide hF
   rw[decide_eq_false hn] at HN
   clear hn hF hat HT hLA
   go_wp2_with fail
   refine(HN.out _).mono ?_
   rintro e w5 ⟨rfl,hb5⟩
   have B5:=below_step B4 hb5
   replace q0:=keep_cell hb5 q0
   clear hb5 B4 hlook
   have E:=(hE.below B5).err 3 (by decide)
   simp only[xid] at E
   go_wp2_with fail
   go_ret
   exact⟨by rw[HF.out];rfl,B5⟩
  rw[if_neg (fun h=>h hn)] at hF
  rw[decide_eq_true hn] at HN
  clear hn
  rcases hLA with⟨hh,hla⟩ |⟨hh,i0,hi0,hla,hk⟩
  ·have hop:(x.op.toList==[108,97,98,101,108])=false:=by
    cases h:(x.op.toList==[108,97,98,101,108])
    ·rfl
    ·exfalso
     rcases HT.out with⟨_,h2⟩ |⟨h1,_⟩
     ·have:=h2 i x (List.getElem?_eq_some_iff.1 hx).1 hx
      unfold setsLabel at this
      rw[h] at this
      simp at this
     ·rw[hh] at h1;cases h1
   rw[if_neg (fun h=>by rw[hop] at h;cases h.1),if_pos (by rw[hla];decide)] at hF
   have HF:=hide hF
   rw[hh] at hlook
   clear hF hat HT hh hla
   go_wp2_with fail
   refine(HN.out _).mono ?_
   rintro e w5 ⟨rfl,hb5⟩
   have B5:=below_step B4 hb5
   replace q0:=keep_cell hb5 q0
   clear hb5 B4 hlook
   have E:=(hE.below B5).err 4 (by decide)
   simp only[xid] at E
   go_wp2_with fail
   go_ret
   exact⟨by rw[HF.out];rfl,B5⟩
  ·have hc:c=i0:=by
    have:=hk (.lit (.int .i64 0))
    rw[hat] at this
    injection this with this
    injection this
   subst hc
   rw[hh] at hlook
   rw[hla] at hF
   cases hop:(x.op.toList==[108,97,98,101,108])
   ·rw[if_neg (fun h=>by rw[hop] at h;cases h.1),if_neg (by omega)] at hF
    have HF:=hide hF
    clear hF hat HT hh hla hk
    go_wp2_with fail
    refine(HN.out _).mono ?_
    rintro e w5 ⟨rfl,hb5⟩
    have B5:=below_step B4 hb5
    replace q0:=keep_cell hb5 q0
    clear hb5 B4 hlook
    go_wp2_with fail
    go_ret
    exact⟨by rw[HF.out];rfl,B5⟩
   ·by_cases hii:(i0:Int)=i
    ·have hne:((i0:Int) !=(i:Int))=false:=by rw[bne_eq_false_iff_eq];exact hii
     rw[if_neg (fun h=>h.2 hii),if_neg (by omega)] at hF
     have HF:=hide hF
     clear hF hat HT hh hla hk hii
     go_wp2_with fail
     refine(HN.out _).mono ?_
     rintro e w5 ⟨rfl,hb5⟩
     have B5:=below_step B4 hb5
     replace q0:=keep_cell hb5 q0
     clear hb5 B4 hlook
     go_wp2_with fail
     go_ret
     exact⟨by rw[HF.out];rfl,B5⟩
    ·have hne:((i0:Int) !=(i:Int))=true:=by rw[bne_iff_ne];exact hii
     rw[if_pos ⟨hop,hii⟩] at hF
     have HF:=hide hF
     clear hF hat HT hh hla hk hii
     go_wp2_with fail
     refine(HN.out _).mono ?_
     rintro e w5 ⟨rfl,hb5⟩
     have B5:=below_step B4 hb5
     replace q0:=keep_cell hb5 q0
     clear hb5 B4 hlook
     have E:=(hE.below B5).err 3 (by decide)
     simp only[xid] at E
     go_wp2_with fail
     go_ret
     exact⟨by rw[HF.out];rfl,B5⟩
end
end Go.Proofs.YtnoigmdmgdcliaaGreatDoor
