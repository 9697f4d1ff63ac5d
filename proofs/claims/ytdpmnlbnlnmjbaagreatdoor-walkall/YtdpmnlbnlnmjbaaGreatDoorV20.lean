import Derived.Test.YtdpmnlbnlnmjbaaGreatDoorV13
import Derived.Test.YtdpmnlbnlnmjbaaGreatDoorProg
import Derived.Test.YtdpmnlbnlnmjbaaGreatDoorV06
import Derived.WalkKit
import Derived.Test.YtdpmnlbnlnmjbaaGreatDoorV01
import Derived.Deep.QuietTactic
import Derived.Test.YtdpmnlbnlnmjbaaGreatDoorV09
namespace Go.Proofs.YtdpmnlbnlnmjbaaGreatDoor
set_option maxRecDepth 100000
set_option maxHeartbeats 8000000
section
open Go.RowKit Go.Extern.Stop Go.Stop Go.Extern
variable {xs ys:List Int}
theorem take_more{j:Nat}{x:Int}(h:xs.take j=ys.take j)(hx:xs[j]? =some x)(hy:ys[j]? =some x):xs.take (j+1)=ys.take (j+1):=by
 rw[List.take_add_one,List.take_add_one,h,hx,hy]
theorem sameints_any {ad bd:Option Addr} {cp cq:Nat} {w:World} (hl:xs.length<=1000000) (hx:numsAt ad xs w) (hy:numsAt bd ys w):
  Calls Tryz.prog 33 #[.slice ad xs.length cp, .slice bd ys.length cq] w fun e w'=>e= .returned (.bool (decide (xs=ys)))/\Below w.heap.size w w':=by
 by_cases hn:xs.length=ys.length
 ·have HY:Hid (ys.length=xs.length):=hn.symm
  rw[<-hn]
  have HX:=hide hx
  have HZ:=hide hy
  clear hx hy hn
  obtain⟨n,hn⟩: ∃n,n=xs.length:=⟨_,rfl⟩
  have HN:=hide hn
  rw[<-hn] at hl ⊢
  clear hn
  go_enter Tryz.func33,Tryz.ntmps33
  go_wp2
  go_loopw [5] (fun i wr=>Below w.heap.size w wr/\ ∃j:Nat,j<=n/\i= .int .i64 j/\Hid (xs.take j=ys.take j)) (fun i _=>n - (intOf i).toNat)
  case atStart=>exact⟨Below.refl _ _,0,Nat.zero_le _,rfl,rfl⟩
  case round=>
   obtain⟨hbw,j,hj,rfl,HT⟩:=hrel
   by_cases hlt:j<n
   ·obtain ⟨x,hx⟩: ∃x,xs[j]? =some x:=⟨_,List.getElem?_eq_getElem (by rw[<-HN.out];exact hlt)⟩
    obtain⟨y,hy⟩: ∃y,ys[j]? =some y:=⟨_,List.getElem?_eq_getElem (by rw[HY.out, <-HN.out];exact hlt)⟩
    obtain⟨b,off,rfl,c1⟩:=HX.out j x hx
    obtain⟨b',off',rfl,c2⟩:=HZ.out j y hy
    replace c1:=keep_cell hbw c1
    replace c2:=keep_cell hbw c2
    by_cases he:x=y
    ·subst he
     have HM:Hid (xs.take (j+1)=ys.take (j+1)):=take_more HT.out hx hy
     clear hx hy
     go_wp2
     go_quiet (fail)
     go_wp2
     go_roundw
     case rel=>exact⟨hbw.trans ((Below.drewN' nq).mono hbw.size),j+1,by omega,by go_num,HM⟩
     case measure=>simp[intOf];omega
    ·have HF:Hid (decide (xs=ys)=false):=decide_eq_false (fun e=>by rw[e,hy] at hx;exact he (Option.some.inj hx).symm)
     have hne:(x==y)=false:=by simpa using he
     clear hx hy
     go_wp2
     go_quiet (fail)
     go_wp2
     go_ret
     exact⟨by rw[HF.out];rfl,hbw.trans ((Below.drewN' nq).mono hbw.size)⟩
   ·obtain rfl:j=n:=by omega
    have HF:Hid (decide (xs=ys)=true):=decide_eq_true (by
     have h1:=HT.out
     rw[List.take_of_length_le (by rw[<-HN.out];exact Nat.le_refl _),List.take_of_length_le (by rw[HY.out, <-HN.out];exact Nat.le_refl _)] at h1
     exact h1)
    go_wp2
    go_ret
    exact⟨by rw[HF.out];rfl,hbw⟩
 ·have HF:Hid (decide (xs=ys)=false):=decide_eq_false (fun e=>hn (by rw[e]))
  have hne:((xs.length:Int)==(ys.length:Int))=false:=by simp;omega
  clear hx hy
  go_enter Tryz.func33,Tryz.ntmps33
  go_wp2
  go_ret
  exact⟨by rw[HF.out];rfl,Below.refl _ _⟩
end
section
open Go.RowKit Go.Extern.Stop Go.Stop Go.Extern
theorem shape_any(op:ByteArray)(w:World):
  Calls Tryz.prog 107 #[.string op] w fun e w'=>e= .returned (shapeV (shape op.toList))/\w'=w:=by
 cases h0:(op.toList==[99,111,110,115,116])
 rotate_left
 ·have hs:shape op.toList=some [114,118]:=by simp only[shape,h0,if_true]
  rw[hs]
  go_enter Tryz.func107,Tryz.ntmps107
  go_wp2
  go_ret2
  exact⟨rfl,rfl⟩
 cases h1:(op.toList==[109,111,118,101])
 rotate_left
 ·have hs:shape op.toList=some [114,114]:=by simp only[shape,h0,h1,Bool.false_eq_true,if_false,if_true]
  rw[hs]
  go_enter Tryz.func107,Tryz.ntmps107
  go_wp2
  go_ret2
  exact⟨rfl,rfl⟩
 cases h2:(op.toList==[97,100,100])
 rotate_left
 ·have hs:shape op.toList=some [114,114,114]:=by simp only[shape,h0,h1,h2,Bool.false_eq_true,if_false,if_true]
  rw[hs]
  go_enter Tryz.func107,Tryz.ntmps107
  go_wp2
  go_ret2
  exact⟨rfl,rfl⟩
 cases h3:(op.toList==[115,117,98])
 rotate_left
 ·have hs:shape op.toList=some [114,114,114]:=by simp only[shape,h0,h1,h2,h3,Bool.false_eq_true,if_false,if_true]
  rw[hs]
  go_enter Tryz.func107,Tryz.ntmps107
  go_wp2
  go_ret2
  exact⟨rfl,rfl⟩
 cases h4:(op.toList==[97,110,100])
 rotate_left
 ·have hs:shape op.toList=some [114,114,114]:=by simp only[shape,h0,h1,h2,h3,h4,Bool.false_eq_true,if_false,if_true]
  rw[hs]
  go_enter Tryz.func107,Tryz.ntmps107
  go_wp2
  go_ret2
  exact⟨rfl,rfl⟩
 cases h5:(op.toList==[120,111,114])
 rotate_left
 ·have hs:shape op.toList=some [114,114,114]:=by simp only[shape,h0,h1,h2,h3,h4,h5,Bool.false_eq_true,if_false,if_true]
  rw[hs]
  go_enter Tryz.func107,Tryz.ntmps107
  go_wp2
  go_ret2
  exact⟨rfl,rfl⟩
 cases h6:(op.toList==[108,111,97,100])
 rotate_left
 ·have hs:shape op.toList=some [114,114,119]:=by simp only[shape,h0,h1,h2,h3,h4,h5,h6,Bool.false_eq_true,if_false,if_true]
  rw[hs]
  go_enter Tryz.func107,Tryz.ntmps107
  go_wp2
  go_ret2
  exact⟨rfl,rfl⟩
 cases h7:(op.toList==[115,116,111,114,101])
 rotate_left
 ·have hs:shape op.toList=some [114,114,119]:=by simp only[shape,h0,h1,h2,h3,h4,h5,h6,h7,Bool.false_eq_true,if_false,if_true]
  rw[hs]
  go_enter Tryz.func107,Tryz.ntmps107
  go_wp2
  go_ret2
  exact⟨rfl,rfl⟩
 cases h8:(op.toList==[115,119,97,112])
 rotate_left
 ·have hs:shape op.toList=some [114,114,119]:=by simp only[shape,h0,h1,h2,h3,h4,h5,h6,h7,h8,Bool.false_eq_true,if_false,if_true]
  rw[hs]
  go_enter Tryz.func107,Tryz.ntmps107
  go_wp2
  go_ret2
  exact⟨rfl,rfl⟩
 cases h9:(op.toList==[99,97,115])
 rotate_left
 ·have hs:shape op.toList=some [114,115,119]:=by simp only[shape,h0,h1,h2,h3,h4,h5,h6,h7,h8,h9,Bool.false_eq_true,if_false,if_true]
  rw[hs]
  go_enter Tryz.func107,Tryz.ntmps107
  go_wp2
  go_ret2
  exact⟨rfl,rfl⟩
 cases h10:(op.toList==[97,108,108,111,99])
 rotate_left
 ·have hs:shape op.toList=some [114]:=by simp only[shape,h0,h1,h2,h3,h4,h5,h6,h7,h8,h9,h10,Bool.false_eq_true,if_false,if_true]
  rw[hs]
  go_enter Tryz.func107,Tryz.ntmps107
  go_wp2
  go_ret2
  exact⟨rfl,rfl⟩
 cases h11:(op.toList==[102,114,101,101])
 rotate_left
 ·have hs:shape op.toList=some [114]:=by simp only[shape,h0,h1,h2,h3,h4,h5,h6,h7,h8,h9,h10,h11,Bool.false_eq_true,if_false,if_true]
  rw[hs]
  go_enter Tryz.func107,Tryz.ntmps107
  go_wp2
  go_ret2
  exact⟨rfl,rfl⟩
 cases h12:(op.toList==[109,97,114,107])
 rotate_left
 ·have hs:shape op.toList=some [114]:=by simp only[shape,h0,h1,h2,h3,h4,h5,h6,h7,h8,h9,h10,h11,h12,Bool.false_eq_true,if_false,if_true]
  rw[hs]
  go_enter Tryz.func107,Tryz.ntmps107
  go_wp2
  go_ret2
  exact⟨rfl,rfl⟩
 cases h13:(op.toList==[110,101,101,100])
 rotate_left
 ·have hs:shape op.toList=some [114]:=by simp only[shape,h0,h1,h2,h3,h4,h5,h6,h7,h8,h9,h10,h11,h12,h13,Bool.false_eq_true,if_false,if_true]
  rw[hs]
  go_enter Tryz.func107,Tryz.ntmps107
  go_wp2
  go_ret2
  exact⟨rfl,rfl⟩
 cases h14:(op.toList==[102,101,110,99,101])
 rotate_left
 ·have hs:shape op.toList=some []:=by simp only[shape,h0,h1,h2,h3,h4,h5,h6,h7,h8,h9,h10,h11,h12,h13,h14,Bool.false_eq_true,if_false,if_true]
  rw[hs]
  go_enter Tryz.func107,Tryz.ntmps107
  go_wp2
  go_ret2
  exact⟨rfl,rfl⟩
 cases h15:(op.toList==[102,111,114,99,101])
 rotate_left
 ·have hs:shape op.toList=some []:=by simp only[shape,h0,h1,h2,h3,h4,h5,h6,h7,h8,h9,h10,h11,h12,h13,h14,h15,Bool.false_eq_true,if_false,if_true]
  rw[hs]
  go_enter Tryz.func107,Tryz.ntmps107
  go_wp2
  go_ret2
  exact⟨rfl,rfl⟩
 cases h16:(op.toList==[115,116,111,112])
 rotate_left
 ·have hs:shape op.toList=some []:=by simp only[shape,h0,h1,h2,h3,h4,h5,h6,h7,h8,h9,h10,h11,h12,h13,h14,h15,h16,Bool.false_eq_true,if_false,if_true]
  rw[hs]
  go_enter Tryz.func107,Tryz.ntmps107
  go_wp2
  go_ret2
  exact⟨rfl,rfl⟩
 cases h17:(op.toList==[122,101,114,111])
 rotate_left
 ·have hs:shape op.toList=some [114,108]:=by simp only[shape,h0,h1,h2,h3,h4,h5,h6,h7,h8,h9,h10,h11,h12,h13,h14,h15,h16,h17,Bool.false_eq_true,if_false,if_true]
  rw[hs]
  go_enter Tryz.func107,Tryz.ntmps107
  go_wp2
  go_ret2
  exact⟨rfl,rfl⟩
 cases h18:(op.toList==[115,97,109,101])
 rotate_left
 ·have hs:shape op.toList=some [114,114,108]:=by simp only[shape,h0,h1,h2,h3,h4,h5,h6,h7,h8,h9,h10,h11,h12,h13,h14,h15,h16,h17,h18,Bool.false_eq_true,if_false,if_true]
  rw[hs]
  go_enter Tryz.func107,Tryz.ntmps107
  go_wp2
  go_ret2
  exact⟨rfl,rfl⟩
 cases h19:(op.toList==[103,111,116,111])
 rotate_left
 ·have hs:shape op.toList=some [108]:=by simp only[shape,h0,h1,h2,h3,h4,h5,h6,h7,h8,h9,h10,h11,h12,h13,h14,h15,h16,h17,h18,h19,Bool.false_eq_true,if_false,if_true]
  rw[hs]
  go_enter Tryz.func107,Tryz.ntmps107
  go_wp2
  go_ret2
  exact⟨rfl,rfl⟩
 cases h20:(op.toList==[108,97,98,101,108])
 rotate_left
 ·have hs:shape op.toList=some [108]:=by simp only[shape,h0,h1,h2,h3,h4,h5,h6,h7,h8,h9,h10,h11,h12,h13,h14,h15,h16,h17,h18,h19,h20,Bool.false_eq_true,if_false,if_true]
  rw[hs]
  go_enter Tryz.func107,Tryz.ntmps107
  go_wp2
  go_ret2
  exact⟨rfl,rfl⟩
 have hs:shape op.toList=none:=by simp only[shape,h0,h1,h2,h3,h4,h5,h6,h7,h8,h9,h10,h11,h12,h13,h14,h15,h16,h17,h18,h19,h20,Bool.false_eq_true,if_false]
 rw[hs]
 go_enter Tryz.func107,Tryz.ntmps107
 go_wp2
 go_ret2
 exact⟨rfl,rfl⟩
end
section
open Go.RowKit Go.Extern.Stop Go.Stop Go.Extern
open Classical in
theorem isName_any (s:ByteArray) (w:World):
  Calls Tryz.prog 109 #[.string s] w fun e w'=>e= .returned (.bool (decide (isName s)))/\w'=w:=by
 by_cases h1:1<=s.size
 ·by_cases h2:s.size<=12
  ·have HD:Hid (∀f:Bool,(f=true↔ ∀j (h:j<s.size),nameOk j (s[j]'h).toNat=true)->decide (isName s)=f):=fun f hf=>by
    cases f with
    |true=>exact decide_eq_true ⟨h1,h2,hf.1 rfl⟩
    |false=>exact decide_eq_false (fun h=>by have:=hf.2 h.2.2;cases this)
   have i1: ¬(s.size:Int)<1:=by omega
   have i2: ¬12<(s.size:Int):=by omega
   generalize decide (isName s)=F at*
   go_enter Tryz.func109,Tryz.ntmps109
   go_wp2_with fail
   go_loopw [3,4,5] (fun i _ _ wr=>wr=w/\ ∃j:Nat,j<=s.size/\i= .int .i64 j/\Hid (∀i (h:i<s.size),i<j->nameOk i (s[i]'h).toNat=true)) (fun i _ _ _=>s.size - (intOf i).toNat)
   case atStart=>exact⟨rfl,0,Nat.zero_le _,rfl,fun i _ h=>absurd h (Nat.not_lt_zero _)⟩
   case round=>
    obtain⟨rfl,j,hj,rfl,HJ⟩:=hrel
    by_cases hlt:j<s.size
    ·have ji:(j:Int)<s.size:=by omega
     have HY:Hid (nameOk j (s[j]'hlt).toNat=true-> ∀i (h:i<s.size),i<j+1->nameOk i (s[i]'h).toNat=true):=fun hy i h hi=>by
      by_cases e:i=j
      ·subst e;exact hy
      ·exact HJ.out i h (by omega)
     have HX:Hid (nameOk j (s[j]'hlt).toNat=false->F=false):=fun hx=>HD.out false ⟨(fun h=>Bool.noConfusion h),(fun h=>by rw[h j hlt] at hx;cases hx)⟩
     have hor:((97<=(s[j]'hlt).toNat/\(s[j]'hlt).toNat<=122))∨(¬97<=(s[j]'hlt).toNat/\j=0)∨(¬97<=(s[j]'hlt).toNat/\j≠0/\48<=(s[j]'hlt).toNat/\(s[j]'hlt).toNat<=57)∨(¬97<=(s[j]'hlt).toNat/\j≠0/\ ¬48<=(s[j]'hlt).toNat/\(s[j]'hlt).toNat=46)∨(¬97<=(s[j]'hlt).toNat/\j≠0/\ ¬48<=(s[j]'hlt).toNat/\(s[j]'hlt).toNat≠46)
       ∨(¬97<=(s[j]'hlt).toNat/\j≠0/\ ¬(s[j]'hlt).toNat<=57)∨(97<=(s[j]'hlt).toNat/\ ¬(s[j]'hlt).toNat<=122/\j=0)∨(97<=(s[j]'hlt).toNat/\ ¬(s[j]'hlt).toNat<=122/\j≠0):=by omega
     rcases hor with⟨q1,q2⟩ |⟨q1,q2⟩ |⟨q1,q2,q3,q4⟩ |⟨q1,q2,q3,q4⟩ |⟨q1,q2,q3,q4⟩ |⟨q1,q2,q3⟩ |⟨q1,q2,q3⟩ |⟨q1,q2,q3⟩
     ·have HZ:Hid (∀i (h:i<s.size),i<j+1->nameOk i (s[i]'h).toNat=true):=HY.out (decide_eq_true (by omega))
      have z1:(97:Int)<=((s[j]'hlt).toNat:Int):=by omega
      have z2:((s[j]'hlt).toNat:Int)<=122:=by omega
      clear HY HX HJ HD q1 q2
      go_wp2
      go_roundw
      case rel=>exact⟨trivial,j+1,by omega,by go_num,HZ⟩
      case measure=>simp[intOf];omega
     ·have HZ:Hid (F=false):=HX.out (decide_eq_false (by omega))
      subst q2
      have z1: ¬(97:Int)<=((s[0]'hlt).toNat:Int):=by omega
      clear HY HX HJ HD q1
      go_wp2
      all_goals
       go_ret
       exact⟨by rw[HZ.out];rfl,rfl⟩
     ·have HZ:Hid (∀i (h:i<s.size),i<j+1->nameOk i (s[i]'h).toNat=true):=HY.out (decide_eq_true (by omega))
      have z1: ¬(97:Int)<=((s[j]'hlt).toNat:Int):=by omega
      have z2:(48:Int)<=((s[j]'hlt).toNat:Int):=by omega
      have z3:((s[j]'hlt).toNat:Int)<=57:=by omega
      have jz:((j:Int)==0)=false:=beq_eq_false_iff_ne.2 (by omega)
      clear HY HX HJ HD q1 q3 q4
      go_wp2
      go_roundw
      case rel=>exact⟨trivial,j+1,by omega,by go_num,HZ⟩
      case measure=>simp[intOf];omega
     ·have HZ:Hid (∀i (h:i<s.size),i<j+1->nameOk i (s[i]'h).toNat=true):=HY.out (decide_eq_true (by omega))
      have z1: ¬(97:Int)<=((s[j]'hlt).toNat:Int):=by omega
      have z2: ¬(48:Int)<=((s[j]'hlt).toNat:Int):=by omega
      have jz:((j:Int)==0)=false:=beq_eq_false_iff_ne.2 (by omega)
      have zd:(((s[j]'hlt).toNat:Int) !=46)=false:=by rw[bne_eq_false_iff_eq];omega
      clear HY HX HJ HD q1 q3 q4
      go_wp2
      go_roundw
      case rel=>exact⟨trivial,j+1,by omega,by go_num,HZ⟩
      case measure=>simp[intOf];omega
     ·have HZ:Hid (F=false):=HX.out (decide_eq_false (by omega))
      have z1: ¬(97:Int)<=((s[j]'hlt).toNat:Int):=by omega
      have z2: ¬(48:Int)<=((s[j]'hlt).toNat:Int):=by omega
      have jz:((j:Int)==0)=false:=beq_eq_false_iff_ne.2 (by omega)
      have zd:(((s[j]'hlt).toNat:Int) !=46)=true:=by rw[bne_iff_ne];omega
      clear HY HX HJ HD q1 q3 q4
      go_wp2
      all_goals
       go_ret
       exact⟨by rw[HZ.out];rfl,rfl⟩
     ·have HZ:Hid (F=false):=HX.out (decide_eq_false (by omega))
      have z1: ¬(97:Int)<=((s[j]'hlt).toNat:Int):=by omega
      have z2:(48:Int)<=((s[j]'hlt).toNat:Int):=by omega
      have z3: ¬((s[j]'hlt).toNat:Int)<=57:=by omega
      have jz:((j:Int)==0)=false:=beq_eq_false_iff_ne.2 (by omega)
      have zd:(((s[j]'hlt).toNat:Int) !=46)=true:=by rw[bne_iff_ne];omega
      clear HY HX HJ HD q1 q3
      go_wp2
      all_goals
       go_ret
       exact⟨by rw[HZ.out];rfl,rfl⟩
     ·have HZ:Hid (F=false):=HX.out (decide_eq_false (by omega))
      subst q3
      have z1:(97:Int)<=((s[0]'hlt).toNat:Int):=by omega
      have z2: ¬((s[0]'hlt).toNat:Int)<=122:=by omega
      clear HY HX HJ HD q1 q2
      go_wp2
      all_goals
       go_ret
       exact⟨by rw[HZ.out];rfl,rfl⟩
     ·have HZ:Hid (F=false):=HX.out (decide_eq_false (by omega))
      have z1:(97:Int)<=((s[j]'hlt).toNat:Int):=by omega
      have z2: ¬((s[j]'hlt).toNat:Int)<=122:=by omega
      have z3:(48:Int)<=((s[j]'hlt).toNat:Int):=by omega
      have z4: ¬((s[j]'hlt).toNat:Int)<=57:=by omega
      have jz:((j:Int)==0)=false:=beq_eq_false_iff_ne.2 (by omega)
      have zd:(((s[j]'hlt).toNat:Int) !=46)=true:=by rw[bne_iff_ne];omega
      clear HY HX HJ HD q1 q2
      go_wp2
      all_goals
       go_ret
       exact⟨by rw[HZ.out];rfl,rfl⟩
    ·have HZ:Hid (F=true):=HD.out true ⟨fun _ i h=>HJ.out i h (by omega),fun _=>rfl⟩
     obtain rfl:j=s.size:=by omega
     clear HJ HD
     go_wp2
     go_ret
     exact⟨by rw[HZ.out];rfl,rfl⟩
  ·have HZ:decide (isName s)=false:=decide_eq_false (fun h=>h2 h.2.1)
   have i1: ¬(s.size:Int)<1:=by omega
   have i2:12<(s.size:Int):=by omega
   rw[HZ]
   go_enter Tryz.func109,Tryz.ntmps109
   go_wp2
   go_ret
   exact⟨rfl,rfl⟩
 ·have HZ:decide (isName s)=false:=decide_eq_false (fun h=>h1 h.1)
  have i1:(s.size:Int)<1:=by omega
  rw[HZ]
  go_enter Tryz.func109,Tryz.ntmps109
  go_wp2
  go_ret
  exact⟨rfl,rfl⟩
end
section
open Go.RowKit Go.Extern.Stop Go.Stop Go.Extern
theorem numbers_any(x:Ins)(w:World):
  Calls Tryz.prog 108 #[.agg #[.string x.op, .int .i64 x.a, .int .i64 x.b, .int .i64 x.c, .string x.to]] w fun e w'=>e= .returned (.slice (some ⟨w.heap.size+1,0,none⟩) 3 3)/\(∀k,k<3->w'.cell? ⟨w.heap.size+1,k,none⟩=some (.int .i64 (x.n k)))/\Below w.heap.size w w':=by
 go_enter Tryz.func108,Tryz.ntmps108
 go_wp2
 go_ret
 refine⟨rfl,fun k hk=>?_,(bRf.alloc nL _).alloc (by simp) _⟩
 match k,hk with
 |0,_=>go_simp;rfl
 |1,_=>go_simp;rfl
 |2,_=>go_simp;rfl
theorem instr_none(x:Ins)(w:World)(h:shape x.op.toList=none):
  Calls Tryz.prog 79 #[.agg #[.string x.op, .int .i64 x.a, .int .i64 x.b, .int .i64 x.c, .string x.to]] w fun e w'=>e= .returned (.int .i64 3)/\Below w.heap.size w w':=by
 have HS:Hid (∀w',Calls Tryz.prog 107 #[.string x.op] w' fun e w''=>e= .returned (.tuple #[.string ⟨#[]⟩, .bool false])/\w''=w'):=fun w'=>by
  have:=shape_any x.op w'
  rwa [h] at this
 go_enter Tryz.func79,Tryz.ntmps79
 go_wp2_with fail
 refine(HS.out _).mono ?_
 rintro e0 w1 ⟨rfl,rfl⟩
 go_wp2
 go_ret
 exact⟨rfl,bRf.alloc nL _⟩
open Classical in
theorem instr_some (x:Ins) (S:ByteArray) (hS3:S.size<=3) (w:World) (hS: ∀w',Calls Tryz.prog 107 #[.string x.op] w' fun e w''=>e= .returned (.tuple #[.string S, .bool true])/\w''=w'):
  Calls Tryz.prog 79 #[.agg #[.string x.op, .int .i64 x.a, .int .i64 x.b, .int .i64 x.c, .string x.to]] w fun e w'=>e= .returned (.int .i64 (insBad x S))/\Below w.heap.size w w':=by
 have HS:=hide hS
 have hcl:=cnt_le S S.size
 have q4:(w.alloc (.cells #[.string x.op, .int .i64 x.a, .int .i64 x.b, .int .i64 x.c, .string x.to] 75)).cell? ⟨w.heap.size,4,none⟩=some (.string x.to):=by simp
 have hba:Below w.heap.size w (w.alloc (.cells #[.string x.op, .int .i64 x.a, .int .i64 x.b, .int .i64 x.c, .string x.to] 75)):=bRf.alloc nL _
 have HB:Hid (insBad x S=insBad x S):=rfl
 go_enter Tryz.func79,Tryz.ntmps79
 go_wp2_with fail
 refine(HS.out _).mono ?_
 rintro e0 w1 ⟨rfl,rfl⟩
 clear HS
 go_wp2_with fail
 refine(numbers_any x _).mono ?_
 rintro e1 w2 ⟨rfl,hn,hb2⟩
 have B2:=below_step hba hb2
 replace q4:=keep_cell hb2 q4
 have HN:Hid (∀k,k<3->w2.cell? ⟨w.heap.size+1+1,k,none⟩=some (.int .i64 (x.n k))):=hide (by simpa using hn)
 clear hn hb2 hba
 clear HB
 go_wp2_with fail
 go_loopw [6,7,8] (fun m lb i wr=>wr=w2/\ ∃j:Nat,j<=S.size/\i= .int .i64 j/\m= .int .i64 (cnt S j)/\lb= .bool (lab S j)) (fun _ _ i _=>S.size - (intOf i).toNat)
 case atStart=>exact⟨rfl,0,Nat.zero_le _,rfl,rfl,rfl⟩
 case round =>
  obtain⟨rfl,j,hj,rfl,rfl,rfl⟩:=hrel
  by_cases hlt:j<S.size
  ·have ji:(j:Int)<S.size:=by omega
   have hcj:=cnt_le S j
   by_cases h108:(S[j]'hlt).toNat=108
   ·have HC1:Hid (cnt S (j+1)=cnt S j):=by show _=_;rw[cnt,byteAt_lt hlt,if_pos h108];rfl
    have HC2:Hid (lab S (j+1)=true):=by show _=_;rw[lab,byteAt_lt hlt,h108];simp
    have zb:(((S[j]'hlt).toNat:Int)==108)=true:=beq_iff_eq.2 (by omega)
    go_wp2
    go_roundw
    case rel=>exact⟨trivial,j+1,by omega,by go_num,by rw[HC1.out],by rw[HC2.out]⟩
    case measure=>simp[intOf];omega
   ·have HC1:Hid (cnt S (j+1)=cnt S j+1):=by show _=_;rw[cnt,byteAt_lt hlt,if_neg h108]
    have HC2:Hid (lab S (j+1)=lab S j):=by show _=_;rw[lab,byteAt_lt hlt];simp[h108]
    have zb:(((S[j]'hlt).toNat:Int)==108)=false:=beq_eq_false_iff_ne.2 (by omega)
    go_wp2
    go_roundw
    case rel=>exact⟨trivial,j+1,by omega,by go_num,by rw[HC1.out];go_num,by rw[HC2.out]⟩
    case measure=>simp[intOf];omega
  ·obtain rfl :j=S.size:=by omega
   by_cases hto:lab S S.size=false/\ ¬x.to.toList=[]
   ·have HZ:Hid (insBad x S=3):=by show _=_;unfold insBad;rw[if_pos hto]
    obtain⟨z1,z2⟩:=hto
    have zb:(x.to.toList==[])=false:=beq_eq_false_iff_ne.2 z2
    rw[z1]
    go_wp2
    go_ret
    exact⟨by rw[HZ.out];rfl,B2⟩
   ·have hc3 :cnt S S.size<=3:=by omega
    cases hlb:lab S S.size
    ·have hte :x.to.toList=[]:=by
      by_cases h:x.to.toList=[]
      ·exact h
      ·exact absurd ⟨hlb,h⟩ hto
     have zb:(x.to.toList==[])=true:=beq_iff_eq.2 hte
     go_wp2_with fail
     go_loopw [9] (fun i wr'=>wr'=wr/\ ∃j:Nat,cnt S S.size<=j/\j<=3/\i= .int .i64 j/\Hid (∀k,cnt S S.size<=k->k<j->x.n k=0)) (fun i _=>3 - (intOf i).toNat)
     case atStart=>exact⟨rfl,cnt S S.size,Nat.le_refl _,by omega,rfl,fun k h1 h2=>absurd h2 (by omega)⟩
     case round =>
      obtain⟨rfl,j,hj1,hj3,rfl,HJ⟩:=hrel
      by_cases hlt:j<3
      ·have ji:(j:Int)<3:=by omega
       have hc:=HN.out j hlt
       by_cases hz:x.n j=0
       ·have HJ':Hid (∀k,cnt S S.size<=k->k<j+1->x.n k=0):=fun k h1 h2=>by
         by_cases e:k=j
         ·rw[e];exact hz
         ·exact HJ.out k h1 (by omega)
        rw[hz] at hc
        clear HJ hz
        go_wp2
        go_roundw
        case rel=>exact⟨trivial,j+1,by omega,by omega,by go_num,HJ'⟩
        case measure=>simp[intOf];omega
       ·have HZ:Hid (insBad x S=3):=by
         show _=_
         unfold insBad
         rw[if_neg hto,if_pos ⟨j,hj1,hlt,hz⟩]
        have zb:(x.n j !=0)=true:=by rw[bne_iff_ne];exact hz
        clear HJ hz
        generalize x.n j=v at hc zb
        go_wp2
        go_ret
        exact⟨by rw[HZ.out];rfl,B2⟩
      ·obtain rfl:j=3:=by omega
       rw[show((3:Nat):Int)=3 from rfl]
       have HZ0:Hid (¬ ∃k,cnt S S.size<=k/\k<3/\x.n k≠0):=fun⟨k,h1,h2,h3⟩=>h3 (HJ.out k h1 h2)
       clear HJ
       go_wp2_with fail
       go_loopw [10,11] (fun i _ wr'=>wr'=wr/\ ∃j:Nat,j<=cnt S S.size/\i= .int .i64 j/\Hid (∀k,k<j->0<=x.n k/\x.n k<mostOf (byteAt S k))) (fun i _ _=>cnt S S.size - (intOf i).toNat)
       case atStart=>exact⟨rfl,0,Nat.zero_le _,rfl,fun k h=>absurd h (Nat.not_lt_zero _)⟩
       case round=>
        obtain⟨rfl,j,hj,rfl,HJ⟩:=hrel
        by_cases hlt:j<cnt S S.size
        ·have hjs:j<S.size:=by omega
         have ji:(j:Int)<cnt S S.size:=by omega
         have jS:(j:Int)<S.size:=by omega
         have j3:(j:Int)<3:=by omega
         have hc:=HN.out j (by omega)
         have HY:Hid ((0<=x.n j/\x.n j<mostOf (S[j]'hjs).toNat)-> ∀k,k<j+1->0<=x.n k/\x.n k<mostOf (byteAt S k)):=fun h k hk=>by
          by_cases e:k=j
          ·subst e;rw[byteAt_lt hjs];exact h
          ·exact HJ.out k (by omega)
         have HX:Hid (¬(0<=x.n j/\x.n j<mostOf (S[j]'hjs).toNat)->insBad x S=2):=fun h=>by
          unfold insBad
          rw[if_neg hto,if_neg HZ0.out,if_pos ⟨j,hlt,by rw[byteAt_lt hjs];exact h⟩]
         have hor:((S[j]'hjs).toNat=114)∨((S[j]'hjs).toNat≠114/\(S[j]'hjs).toNat=115)∨((S[j]'hjs).toNat≠114/\(S[j]'hjs).toNat≠115/\(S[j]'hjs).toNat=119)∨((S[j]'hjs).toNat≠114/\(S[j]'hjs).toNat≠115/\(S[j]'hjs).toNat≠119):=by omega
         clear HJ
         generalize x.n j=v at hc HX HY
         rcases hor with e1 |⟨e1,e2⟩ |⟨e1,e2,e3⟩ |⟨e1,e2,e3⟩
         ·have hm:mostOf (S[j]'hjs).toNat=8:=by unfold mostOf;simp[e1]
          have z1:(((S[j]'hjs).toNat:Int)==114)=true:=beq_iff_eq.2 (by omega)
          rw[hm] at HX HY
          by_cases hv:0<=v/\v<8
          ·have HJ':=hide (HY.out hv)
           obtain⟨v0,v1⟩:=hv
           clear HX HY hm
           go_wp2
           go_roundw
           case rel=>exact⟨trivial,j+1,by omega,by go_num,HJ'⟩
           case measure=>simp[intOf];omega
          ·have HZ:=hide (HX.out hv)
           by_cases v0:0<=v
           ·have v1: ¬v<8:=fun h=>hv ⟨v0,h⟩
            clear HX HY hm hv
            go_wp2
            go_ret
            exact⟨by rw[HZ.out];rfl,B2⟩
           ·clear HX HY hm hv
            go_wp2
            go_ret
            exact⟨by rw[HZ.out];rfl,B2⟩
         ·have hm:mostOf (S[j]'hjs).toNat=7:=by unfold mostOf;simp[e2]
          have z1:(((S[j]'hjs).toNat:Int)==114)=false:=beq_eq_false_iff_ne.2 (by omega)
          have z2:(((S[j]'hjs).toNat:Int)==115)=true:=beq_iff_eq.2 (by omega)
          rw[hm] at HX HY
          by_cases hv:0<=v/\v<7
          ·have HJ':=hide (HY.out hv)
           obtain⟨v0,v1⟩:=hv
           clear HX HY hm
           go_wp2
           go_roundw
           case rel=>exact⟨trivial,j+1,by omega,by go_num,HJ'⟩
           case measure=>simp[intOf];omega
          ·have HZ:=hide (HX.out hv)
           by_cases v0:0<=v
           ·have v1: ¬v<7:=fun h=>hv ⟨v0,h⟩
            clear HX HY hm hv
            go_wp2
            go_ret
            exact⟨by rw[HZ.out];rfl,B2⟩
           ·clear HX HY hm hv
            go_wp2
            go_ret
            exact⟨by rw[HZ.out];rfl,B2⟩
         ·have hm:mostOf (S[j]'hjs).toNat=4:=by unfold mostOf;simp[e3]
          have z1:(((S[j]'hjs).toNat:Int)==114)=false:=beq_eq_false_iff_ne.2 (by omega)
          have z2:(((S[j]'hjs).toNat:Int)==115)=false:=beq_eq_false_iff_ne.2 (by omega)
          have z3:(((S[j]'hjs).toNat:Int)==119)=true:=beq_iff_eq.2 (by omega)
          rw[hm] at HX HY
          by_cases hv:0<=v/\v<4
          ·have HJ':=hide (HY.out hv)
           obtain⟨v0,v1⟩:=hv
           clear HX HY hm
           go_wp2
           go_roundw
           case rel=>exact⟨trivial,j+1,by omega,by go_num,HJ'⟩
           case measure=>simp[intOf];omega
          ·have HZ:=hide (HX.out hv)
           by_cases v0:0<=v
           ·have v1: ¬v<4:=fun h=>hv ⟨v0,h⟩
            clear HX HY hm hv
            go_wp2
            go_ret
            exact⟨by rw[HZ.out];rfl,B2⟩
           ·clear HX HY hm hv
            go_wp2
            go_ret
            exact⟨by rw[HZ.out];rfl,B2⟩
         ·have hm:mostOf (S[j]'hjs).toNat=4294967296:=by unfold mostOf;simp[e1,e2,e3]
          have z1:(((S[j]'hjs).toNat:Int)==114)=false:=beq_eq_false_iff_ne.2 (by omega)
          have z2:(((S[j]'hjs).toNat:Int)==115)=false:=beq_eq_false_iff_ne.2 (by omega)
          have z3:(((S[j]'hjs).toNat:Int)==119)=false:=beq_eq_false_iff_ne.2 (by omega)
          rw[hm] at HX HY
          by_cases hv:0<=v/\v<4294967296
          ·have HJ':=hide (HY.out hv)
           obtain⟨v0,v1⟩:=hv
           clear HX HY hm
           go_wp2
           go_roundw
           case rel=>exact⟨trivial,j+1,by omega,by go_num,HJ'⟩
           case measure=>simp[intOf];omega
          ·have HZ:=hide (HX.out hv)
           by_cases v0:0<=v
           ·have v1: ¬v<4294967296:=fun h=>hv ⟨v0,h⟩
            clear HX HY hm hv
            go_wp2
            go_ret
            exact⟨by rw[HZ.out];rfl,B2⟩
           ·clear HX HY hm hv
            go_wp2
            go_ret
            exact⟨by rw[HZ.out];rfl,B2⟩
        ·obtain rfl:j=cnt S S.size:=by omega
         have HZ1:Hid (¬ ∃k,k<cnt S S.size/\ ¬(0<=x.n k/\x.n k<mostOf (byteAt S k))):=fun⟨k,h1,h2⟩=>h2 (HJ.out k h1)
         clear HJ
         have HZ:Hid (insBad x S=0):=by
          show _=_
          unfold insBad
          rw[if_neg hto,if_neg HZ0.out,if_neg HZ1.out,if_neg (fun h=>by rw[hlb] at h;exact Bool.noConfusion h.1)]
         go_wp2
         go_ret
         exact⟨by rw[HZ.out];rfl,B2⟩
    ·skip
     go_wp2_with fail
     go_loopw [9] (fun i wr'=>wr'=wr/\ ∃j:Nat,cnt S S.size<=j/\j<=3/\i= .int .i64 j/\Hid (∀k,cnt S S.size<=k->k<j->x.n k=0)) (fun i _=>3 - (intOf i).toNat)
     case atStart=>exact⟨rfl,cnt S S.size,Nat.le_refl _,by omega,rfl,fun k h1 h2=>absurd h2 (by omega)⟩
     case round =>
      obtain⟨rfl,j,hj1,hj3,rfl,HJ⟩:=hrel
      by_cases hlt:j<3
      ·have ji:(j:Int)<3:=by omega
       have hc:=HN.out j hlt
       by_cases hz:x.n j=0
       ·have HJ':Hid (∀k,cnt S S.size<=k->k<j+1->x.n k=0):=fun k h1 h2=>by
         by_cases e:k=j
         ·rw[e];exact hz
         ·exact HJ.out k h1 (by omega)
        rw[hz] at hc
        clear HJ hz
        go_wp2
        go_roundw
        case rel=>exact⟨trivial,j+1,by omega,by omega,by go_num,HJ'⟩
        case measure=>simp[intOf];omega
       ·have HZ:Hid (insBad x S=3):=by
         show _=_
         unfold insBad
         rw[if_neg hto,if_pos ⟨j,hj1,hlt,hz⟩]
        have zb:(x.n j !=0)=true:=by rw[bne_iff_ne];exact hz
        clear HJ hz
        generalize x.n j=v at hc zb
        go_wp2
        go_ret
        exact⟨by rw[HZ.out];rfl,B2⟩
      ·obtain rfl:j=3:=by omega
       rw[show((3:Nat):Int)=3 from rfl]
       have HZ0:Hid (¬ ∃k,cnt S S.size<=k/\k<3/\x.n k≠0):=fun⟨k,h1,h2,h3⟩=>h3 (HJ.out k h1 h2)
       clear HJ
       go_wp2_with fail
       go_loopw [10,11] (fun i _ wr'=>wr'=wr/\ ∃j:Nat,j<=cnt S S.size/\i= .int .i64 j/\Hid (∀k,k<j->0<=x.n k/\x.n k<mostOf (byteAt S k))) (fun i _ _=>cnt S S.size - (intOf i).toNat)
       case atStart=>exact⟨rfl,0,Nat.zero_le _,rfl,fun k h=>absurd h (Nat.not_lt_zero _)⟩
       case round=>
        obtain⟨rfl,j,hj,rfl,HJ⟩:=hrel
        by_cases hlt:j<cnt S S.size
        ·have hjs:j<S.size:=by omega
         have ji:(j:Int)<cnt S S.size:=by omega
         have jS:(j:Int)<S.size:=by omega
         have j3:(j:Int)<3:=by omega
         have hc:=HN.out j (by omega)
         have HY:Hid ((0<=x.n j/\x.n j<mostOf (S[j]'hjs).toNat)-> ∀k,k<j+1->0<=x.n k/\x.n k<mostOf (byteAt S k)):=fun h k hk=>by
          by_cases e:k=j
          ·subst e;rw[byteAt_lt hjs];exact h
          ·exact HJ.out k (by omega)
         have HX:Hid (¬(0<=x.n j/\x.n j<mostOf (S[j]'hjs).toNat)->insBad x S=2):=fun h=>by
          unfold insBad
          rw[if_neg hto,if_neg HZ0.out,if_pos ⟨j,hlt,by rw[byteAt_lt hjs];exact h⟩]
         have hor:((S[j]'hjs).toNat=114)∨((S[j]'hjs).toNat≠114/\(S[j]'hjs).toNat=115)∨((S[j]'hjs).toNat≠114/\(S[j]'hjs).toNat≠115/\(S[j]'hjs).toNat=119)∨((S[j]'hjs).toNat≠114/\(S[j]'hjs).toNat≠115/\(S[j]'hjs).toNat≠119):=by omega
         clear HJ
         generalize x.n j=v at hc HX HY
         rcases hor with e1 |⟨e1,e2⟩ |⟨e1,e2,e3⟩ |⟨e1,e2,e3⟩
         ·have hm:mostOf (S[j]'hjs).toNat=8:=by unfold mostOf;simp[e1]
          have z1:(((S[j]'hjs).toNat:Int)==114)=true:=beq_iff_eq.2 (by omega)
          rw[hm] at HX HY
          by_cases hv:0<=v/\v<8
          ·have HJ':=hide (HY.out hv)
           obtain⟨v0,v1⟩:=hv
           clear HX HY hm
           go_wp2
           go_roundw
           case rel=>exact⟨trivial,j+1,by omega,by go_num,HJ'⟩
           case measure=>simp[intOf];omega
          ·have HZ:=hide (HX.out hv)
           by_cases v0:0<=v
           ·have v1: ¬v<8:=fun h=>hv ⟨v0,h⟩
            clear HX HY hm hv
            go_wp2
            go_ret
            exact⟨by rw[HZ.out];rfl,B2⟩
           ·clear HX HY hm hv
            go_wp2
            go_ret
            exact⟨by rw[HZ.out];rfl,B2⟩
         ·have hm:mostOf (S[j]'hjs).toNat=7:=by unfold mostOf;simp[e2]
          have z1:(((S[j]'hjs).toNat:Int)==114)=false:=beq_eq_false_iff_ne.2 (by omega)
          have z2:(((S[j]'hjs).toNat:Int)==115)=true:=beq_iff_eq.2 (by omega)
          rw[hm] at HX HY
          by_cases hv:0<=v/\v<7
          ·have HJ':=hide (HY.out hv)
           obtain⟨v0,v1⟩:=hv
           clear HX HY hm
           go_wp2
           go_roundw
           case rel=>exact⟨trivial,j+1,by omega,by go_num,HJ'⟩
           case measure=>simp[intOf];omega
          ·have HZ:=hide (HX.out hv)
           by_cases v0:0<=v
           ·have v1: ¬v<7:=fun h=>hv ⟨v0,h⟩
            clear HX HY hm hv
            go_wp2
            go_ret
            exact⟨by rw[HZ.out];rfl,B2⟩
           ·clear HX HY hm hv
            go_wp2
            go_ret
            exact⟨by rw[HZ.out];rfl,B2⟩
         ·have hm:mostOf (S[j]'hjs).toNat=4:=by unfold mostOf;simp[e3]
          have z1:(((S[j]'hjs).toNat:Int)==114)=false:=beq_eq_false_iff_ne.2 (by omega)
          have z2:(((S[j]'hjs).toNat:Int)==115)=false:=beq_eq_false_iff_ne.2 (by omega)
          have z3:(((S[j]'hjs).toNat:Int)==119)=true:=beq_iff_eq.2 (by omega)
          rw[hm] at HX HY
          by_cases hv:0<=v/\v<4
          ·have HJ':=hide (HY.out hv)
           obtain⟨v0,v1⟩:=hv
           clear HX HY hm
           go_wp2
           go_roundw
           case rel=>exact⟨trivial,j+1,by omega,by go_num,HJ'⟩
           case measure=>simp[intOf];omega
          ·have HZ:=hide (HX.out hv)
           by_cases v0:0<=v
           ·have v1: ¬v<4:=fun h=>hv ⟨v0,h⟩
            clear HX HY hm hv
            go_wp2
            go_ret
            exact⟨by rw[HZ.out];rfl,B2⟩
           ·clear HX HY hm hv
            go_wp2
            go_ret
            exact⟨by rw[HZ.out];rfl,B2⟩
         ·have hm:mostOf (S[j]'hjs).toNat=4294967296:=by unfold mostOf;simp[e1,e2,e3]
          have z1:(((S[j]'hjs).toNat:Int)==114)=false:=beq_eq_false_iff_ne.2 (by omega)
          have z2:(((S[j]'hjs).toNat:Int)==115)=false:=beq_eq_false_iff_ne.2 (by omega)
          have z3:(((S[j]'hjs).toNat:Int)==119)=false:=beq_eq_false_iff_ne.2 (by omega)
          rw[hm] at HX HY
          by_cases hv:0<=v/\v<4294967296
          ·have HJ':=hide (HY.out hv)
           obtain⟨v0,v1⟩:=hv
           clear HX HY hm
           go_wp2
           go_roundw
           case rel=>exact⟨trivial,j+1,by omega,by go_num,HJ'⟩
           case measure=>simp[intOf];omega
          ·have HZ:=hide (HX.out hv)
           by_cases v0:0<=v
           ·have v1: ¬v<4294967296:=fun h=>hv ⟨v0,h⟩
            clear HX HY hm hv
            go_wp2
            go_ret
            exact⟨by rw[HZ.out];rfl,B2⟩
           ·clear HX HY hm hv
            go_wp2
            go_ret
            exact⟨by rw[HZ.out];rfl,B2⟩
        ·obtain rfl:j=cnt S S.size:=by omega
         have HZ1:Hid (¬ ∃k,k<cnt S S.size/\ ¬(0<=x.n k/\x.n k<mostOf (byteAt S k))):=fun⟨k,h1,h2⟩=>h2 (HJ.out k h1)
         clear HJ
         have hlabel:lab S S.size=true:=hlb
         have HNm:=isName_any x.to wr
         by_cases hnm:isName x.to
         ·have HZ:Hid (insBad x S=0):=by
           show _=_
           unfold insBad
           rw[if_neg hto,if_neg HZ0.out,if_neg HZ1.out,if_neg (fun h=>h.2 hnm)]
          rw[decide_eq_true hnm] at HNm
          go_wp2_with fail
          refine HNm.mono ?_
          rintro e5 w5 ⟨rfl,rfl⟩
          go_wp2
          go_ret
          exact⟨by rw[HZ.out];rfl,B2⟩
         ·have HZ:Hid (insBad x S=4):=by
           show _=_
           unfold insBad
           rw[if_neg hto,if_neg HZ0.out,if_neg HZ1.out,if_pos ⟨hlabel,hnm⟩]
          rw[decide_eq_false hnm] at HNm
          go_wp2_with fail
          refine HNm.mono ?_
          rintro e5 w5 ⟨rfl,rfl⟩
          go_wp2
          go_ret
          exact⟨by rw[HZ.out];rfl,B2⟩
theorem instr_any(x:Ins)(w:World):
  Calls Tryz.prog 79 #[.agg #[.string x.op, .int .i64 x.a, .int .i64 x.b, .int .i64 x.c, .string x.to]] w fun e w'=>e= .returned (.int .i64 (insErr x))/\Below w.heap.size w w':=by
 unfold insErr
 cases h:shape x.op.toList with
 |none=>exact instr_none x w h
 | some l=>
  refine instr_some x ⟨l.toArray⟩ (by have:=shape_le h;simpa [ByteArray.size] using this) w (fun w'=>?_)
  have:=shape_any x.op w'
  rwa [h] at this
end
section
open Go.RowKit Go.Extern.Stop Go.Stop Go.Extern
theorem labelAt_any (ad:Option Addr) (cap:Nat) (l:List Ins) (to:ByteArray) (w:World) (hlen:l.length<=1000000) (hl:insAt ad l w):
  Calls Tryz.prog 62 #[.slice ad l.length cap, .string to] w fun e w'=>e= .returned (.int .i64 (labelAt l to))/\w'=w:=by
 have HL:=hide hl
 clear hl
 go_enter Tryz.func62,Tryz.ntmps62
 go_wp2_with fail
 go_loopw [5] (fun i wr=>wr=w/\ ∃j:Nat,j<=l.length/\i= .int .i64 j/\Hid (∀k y,k<j->l[k]? =some y->setsLabel y to=false)) (fun i _=>l.length - (intOf i).toNat)
 case atStart=>exact⟨rfl,0,Nat.zero_le _,rfl,fun k y h=>absurd h (Nat.not_lt_zero _)⟩
 case round=>
  obtain⟨rfl,j,hj,rfl,HJ⟩:=hrel
  by_cases hlt:j<l.length
  ·obtain ⟨x,hx⟩: ∃x,l[j]? =some x:=⟨_,List.getElem?_eq_getElem hlt⟩
   obtain⟨b,off,rfl,a0, -, -, -,a4⟩:=HL.out j x hx
   have ji:(j:Int)<l.length:=by omega
   have HY:Hid (setsLabel x to=false-> ∀k y,k<j+1->l[k]? =some y->setsLabel y to=false):=fun h k y hk hy=>by
    by_cases e:k=j
    ·subst e;rw[hx] at hy;cases hy;exact h
    ·exact HJ.out k y (by omega) hy
   have HX:Hid (setsLabel x to=true->labelAt l to=j):=fun h=>labelAt_some hx h HJ.out
   clear HJ hx
   cases k1:(x.op.toList==[108,97,98,101,108])
   ·have HZ:=hide (HY.out (by unfold setsLabel;rw[k1];rfl))
    clear HX HY
    go_wp2
    go_roundw
    case rel=>exact⟨trivial,j+1,by omega,by go_num,HZ⟩
    case measure=>simp[intOf];omega
   ·cases k2:(x.to.toList==to.toList)
    ·have HZ:=hide (HY.out (by unfold setsLabel;rw[k1,k2];rfl))
     clear HX HY
     go_wp2
     go_roundw
     case rel=>exact⟨trivial,j+1,by omega,by go_num,HZ⟩
     case measure=>simp[intOf];omega
    ·have HZ:=hide (HX.out (by unfold setsLabel;rw[k1,k2];rfl))
     clear HX HY
     go_wp2
     go_ret
     exact⟨by rw[HZ.out];rfl,rfl⟩
  ·have HZ:Hid (labelAt l to= -1):=labelAt_none (fun k y hy=>HJ.out k y (by have:=(List.getElem?_eq_some_iff.1 hy).1;omega) hy)
   obtain rfl:j=l.length:=by omega
   clear HJ
   go_wp2
   go_ret
   exact⟨by rw[HZ.out];rfl,rfl⟩
end
section
open Go.RowKit
variable {cs:List (List Ins)} {m:Mk} {w:World} {ad:Nat->Option Addr} {s:Rm} {v:Value} {r:RmPl} {S:Nat->Nat->Prop} {B:Nat} {t:Nat} {b o:Nat}
def rmarkCell(x:Nat×Int):List Value:=[.int .i64 x.1, .int .i64 x.2]
def rmarkCells(l:List (Nat×Int)):List Value:=l.flatMap rmarkCell
theorem rmarkCells_append(l:List (Nat×Int))(x:Nat×Int):rmarkCells (l++[x])=rmarkCells l++rmarkCell x:=by simp[rmarkCells]
structure RcB(cs:List (List Ins))(ad:Nat->Option Addr)(B:Nat)(w:World):Prop where
 ex: ∃W,(∀(t:Nat) L,cs[t]? =some L->insAt (ad t) L W)/\W.heap.size=B/\Below B W w
theorem RcB.code(h:RcB cs ad B w){L:List Ins}(ht:cs[t]? =some L):insAt (ad t) L w:=by
 obtain⟨W,h1,rfl,h3⟩:=h.ex
 exact insAt_below (h1 t L ht) h3
theorem RcB.turns{w w':World}(h:RcB cs ad B w)(t:Turns S w w')(hS: ∀k o,S k o->B<=k):RcB cs ad B w':=by
 obtain⟨W,h1,rfl,h3⟩:=h.ex
 exact⟨W,h1,rfl,h3.trans (t.below h3.size (fun k o hk hs=>by have:=hS k o hs;omega))⟩
theorem RcB.size(h:RcB cs ad B w):B<=w.heap.size:=by
 obtain⟨W,h1,rfl,h3⟩:=h.ex
 exact h3.size
structure RkPl where
 B:Nat
 rp:RmPl
 k:Nat
 tb:Nat
 tcap:Nat
 ad:Nat->Option Addr
 cc:Nat->Nat
 rb:Nat->Nat
 rcap:Nat->Nat
 mv:Value
def RkPl.to(p:RkPl)(r:RmPl)(v:Value):RkPl:={ p with rp:=r,mv:=v }
def RkPl.fp(p:RkPl)(n:Nat)(s:Rm)(k:Nat):Prop:=k=p.k∨k=p.tb∨(∃t,t<n/\k=p.rb t)∨p.mv.ownBlock=some k∨p.rp.fp s k
structure RkAt(cs:List (List Ins))(p:RkPl)(m:Mk)(w:World):Prop where
 rc:RcB cs p.ad p.B w
 mem:RmAt p.rp m.mem w
 thr:m.mem.threads=cs.length
 few:cs.length<=6
 tcap:cs.length<=p.tcap
 mM:w.cell? ⟨p.k,0,none⟩=some (.pointer (some ⟨p.rp.mb,0,none⟩))
 mT:w.cell? ⟨p.k,1,none⟩=some (.slice (some ⟨p.tb,0,none⟩) cs.length p.tcap)
 mMarks:w.cell? ⟨p.k,2,none⟩=some p.mv
 mFaults:w.cell? ⟨p.k,3,none⟩=some (.int .i64 m.faults)
 tCode: ∀(t:Nat) L,cs[t]? =some L->w.cell? ⟨p.tb,t*3,none⟩=some (.slice (p.ad t) L.length (p.cc t))
 ccap: ∀(t:Nat) L,cs[t]? =some L->L.length<=p.cc t
 tRegs: ∀t,t<cs.length->w.cell? ⟨p.tb,t*3+1,none⟩=some (.slice (some ⟨p.rb t,0,none⟩) 8 (p.rcap t))
 tAt: ∀t,t<cs.length->w.cell? ⟨p.tb,t*3+2,none⟩=some (.int .i64 (m.pc t))
 rcap: ∀t,t<cs.length->8<=p.rcap t
 regs: ∀t r,t<cs.length->r<8->w.cell? ⟨p.rb t,r,none⟩=some (.int .i64 (m.regs t r))
 own:w.ownsRow 0 126 2 p.mv m.marks.length (rmarkCells m.marks)
 fk: ∀o,w.frozen? ⟨p.k,o,none⟩=false
 ft: ∀o,w.frozen? ⟨p.tb,o,none⟩=false
 fr: ∀t o,t<cs.length->w.frozen? ⟨p.rb t,o,none⟩=false
 lt':p.tb<w.heap.size
 d1:p.k≠p.tb
 d2: ∀t,t<cs.length->p.rb t≠p.k/\p.rb t≠p.tb
 d3: ∀t u,t<cs.length->u<cs.length->t≠u->p.rb t≠p.rb u
 d4: ∀k,p.mv.ownBlock=some k->k≠p.k/\k≠p.tb/\ ∀t,t<cs.length->k≠p.rb t
 d5: ∀k,p.rp.fp m.mem k->k≠p.k/\k≠p.tb/\(∀t,t<cs.length->k≠p.rb t)/\p.mv.ownBlock≠some k
 ge: ∀k,p.fp cs.length m.mem k->p.B<=k
theorem RkAt.lk{p:RkPl}(h:RkAt cs p m w):p.k<w.heap.size:=bLt h.mM
theorem RkAt.lr{p:RkPl}(h:RkAt cs p m w)(ht:t<cs.length):p.rb t<w.heap.size:=bLt (h.regs t 0 ht (by decide))
theorem RkAt.fp_lt{p:RkPl}(h:RkAt cs p m w){k:Nat}(hk:p.fp cs.length m.mem k):k<w.heap.size:=by
 rcases hk with rfl |rfl |⟨t,ht,rfl⟩ |hk |hk
 ·exact h.lk
 ·exact h.lt'
 ·exact h.lr ht
 ·exact(h.own.lt k hk).2
 ·exact h.mem.fp_lt hk
theorem RkAt.turns{p:RkPl}{w w':World}(h:RkAt cs p m w)(t:Turns S w w')(hS: ∀k o,S k o-> ¬p.fp cs.length m.mem k)(hB: ∀k o,S k o->p.B<=k):RkAt cs p m w' where
 rc:=h.rc.turns t hB
 mem:=h.mem.turns t (fun k o hk hs=>hS k o hs (.inr (.inr (.inr (.inr hk)))))
 thr:=h.thr
 few:=h.few
 tcap:=h.tcap
 mM:=t.keep h.mM (fun hs=>hS _ _ hs (.inl rfl))
 mT:=t.keep h.mT (fun hs=>hS _ _ hs (.inl rfl))
 mMarks:=t.keep h.mMarks (fun hs=>hS _ _ hs (.inl rfl))
 mFaults:=t.keep h.mFaults (fun hs=>hS _ _ hs (.inl rfl))
 tCode i L hi:=t.keep (h.tCode i L hi) (fun hs=>hS _ _ hs (.inr (.inl rfl)))
 ccap:=h.ccap
 tRegs i hi:=t.keep (h.tRegs i hi) (fun hs=>hS _ _ hs (.inr (.inl rfl)))
 tAt i hi:=t.keep (h.tAt i hi) (fun hs=>hS _ _ hs (.inr (.inl rfl)))
 rcap:=h.rcap
 regs i r hi hr:=t.keep (h.regs i r hi hr) (fun hs=>hS _ _ hs (.inr (.inr (.inl ⟨i,hi,rfl⟩))))
 own:=ownsRow_block h.own fun k hk=>t.block k (h.own.lt k hk).2 (fun o hs=>hS _ _ hs (.inr (.inr (.inr (.inl hk)))))
 fk o:=by rw[t.frozen _ _ h.lk (fun hs=>hS _ _ hs (.inl rfl))];exact h.fk o
 ft o:=by rw[t.frozen _ _ h.lt' (fun hs=>hS _ _ hs (.inr (.inl rfl)))];exact h.ft o
 fr i o hi:=by rw[t.frozen _ _ (h.lr hi) (fun hs=>hS _ _ hs (.inr (.inr (.inl ⟨i,hi,rfl⟩))))];exact h.fr i o hi
 lt':=Nat.lt_of_lt_of_le h.lt' t.size
 d1:=h.d1
 d2:=h.d2
 d3:=h.d3
 d4:=h.d4
 d5:=h.d5
 ge:=h.ge
theorem RkAt.below{p:RkPl}{w w':World}(h:RkAt cs p m w)(hb:Below w.heap.size w w'):RkAt cs p m w':=
 h.turns (Turns.of_below (S:=fun _ _=>False) hb) (fun _ _ h=>h.elim) (fun _ _ h=>h.elim)
theorem RkAt.alloc{p:RkPl}(h:RkAt cs p m w)(o:Obj):RkAt cs p m (w.alloc o):=h.below (bRf.alloc nL _)
theorem RkAt.drewN{p:RkPl}(h:RkAt cs p m w)(n:Nat):RkAt cs p m (w.drewN n):=h.below (Below.drewN' n)
structure RkStep(cs:List (List Ins))(p:RkPl)(s:Rm)(w:World)(r:RmPl)(v:Value)(m':Mk)(w':World):Prop where
 at':RkAt cs (p.to r v) m' w'
 turns:Turns (fun k _=>p.fp cs.length s k) w w'
 fp: ∀k,(p.to r v).fp cs.length m'.mem k->p.fp cs.length s k∨w.heap.size<=k
 mb:r.mb=p.rp.mb
theorem RkStep.of_below'{p:RkPl}{w w':World}(h:RkAt cs p m w)(k:Below w.heap.size w w'):RkStep cs p m.mem w p.rp p.mv m w':=⟨h.below k,Turns.of_below k,fun _ h=>Or.inl h,rfl⟩
theorem RkStep.below{p:RkPl}{w w' w2:World}(h:RkStep cs p s w r v m w')(k:Below w'.heap.size w' w2):RkStep cs p s w r v m w2:=⟨h.at'.below k,h.turns.trans (Turns.of_below k),h.fp,h.mb⟩
theorem RkStep.of_below{p:RkPl}{w0 w w':World}(k:Below w0.heap.size w0 w)(h:RkStep cs p s w r v m w'):RkStep cs p s w0 r v m w':=
 ⟨h.at',(Turns.of_below k).trans h.turns,fun i hi=>(h.fp i hi).imp id (fun e=>Nat.le_trans k.size e),h.mb⟩
theorem Turns.chain {S S':Nat->Nat->Prop} {a b c:World} (h:Turns S a b) (k:Turns S' b c) (hs: ∀i o,S' i o->S i o∨a.heap.size<=i):Turns S a c:=
 ⟨k.os.trans h.os,k.tape.trans h.tape,k.output.trans h.output,Nat.le_trans h.size k.size,
  fun i hi ho=>(k.block i (Nat.lt_of_lt_of_le hi h.size) (fun o e=>by
   rcases hs i o e with e |e
   ·exact ho o e
   ·omega)).trans (h.block i hi ho),
  fun i o hi ho=>(k.cell i o (Nat.lt_of_lt_of_le hi h.size) (fun e=>by
   rcases hs i o e with e |e
   ·exact ho e
   ·omega)).trans (h.cell i o hi ho),
  fun i o hi ho=>(k.frozen i o (Nat.lt_of_lt_of_le hi h.size) (fun e=>by
   rcases hs i o e with e |e
   ·exact ho e
   ·omega)).trans (h.frozen i o hi ho)⟩
theorem RkStep.trans{p:RkPl}{r r2:RmPl}{v v2:Value}{m m2:Mk}{w w' w2:World}(h:RkStep cs p s w r v m w')(k:RkStep cs (p.to r v) m.mem w' r2 v2 m2 w2):RkStep cs p s w r2 v2 m2 w2 where
 at':=k.at'
 turns:=h.turns.chain k.turns (fun i _ e=>h.fp i e)
 fp i hi:=by
  rcases k.fp i hi with e |e
  ·exact h.fp i e
  ·exact Or.inr (Nat.le_trans h.turns.size e)
 mb:=k.mb.trans h.mb
theorem RkStep.setNew{p:RkPl}{w w':World}(h:RkStep cs p s w r v m w')(u:Value)(hb:w.heap.size<=b)(hn: ¬(p.to r v).fp cs.length m.mem b)(hB:p.B<=b):RkStep cs p s w r v m (w'.setCell ⟨b,o,none⟩ u):=
 ⟨h.at'.turns (S:=fun k _=>k=b) ((Turns.refl _ _).setCell _ rfl) (fun k _ e=>by rw[e];exact hn) (fun k _ e=>by rw[e];exact hB),h.turns.setNew _ hb,h.fp,h.mb⟩
theorem RkAt.apart{p:RkPl}(h:RkAt cs p m w)(hb:b=p.k∨b=p.tb∨ ∃t,t<cs.length/\b=p.rb t):
  RcB cs p.ad p.B (w.setCell ⟨b,o,none⟩ v)/\RmAt p.rp m.mem (w.setCell ⟨b,o,none⟩ v)/\(w.setCell ⟨b,o,none⟩ v).ownsRow 0 126 2 p.mv m.marks.length (rmarkCells m.marks)/\Turns (fun k _=>p.fp cs.length m.mem k) w (w.setCell ⟨b,o,none⟩ v):=by
 have hfp:p.fp cs.length m.mem b:=by
  rcases hb with e |e |e
  ·exact .inl e
  ·exact .inr (.inl e)
  ·exact .inr (.inr (.inl e))
 have T:Turns (fun k _=>k=b) w (w.setCell ⟨b,o,none⟩ v):=(Turns.refl _ _).setCell _ rfl
 refine⟨h.rc.turns T (fun k _ e=>by rw[e];exact h.ge b hfp),h.mem.turns T (fun k _ hk e=>?_),ownsRow_block h.own fun k hk=>Below.heap_setCell _ _ _ _ (fun e=>?_),(Turns.refl _ _).setCell _ hfp⟩
 ·have:=h.d5 k hk
  rcases hb with e' |e' |⟨t,ht,e'⟩
  ·exact this.1 (e.trans e')
  ·exact this.2.1 (e.trans e')
  ·exact this.2.2.1 t ht (e.trans e')
 ·have:=h.d4 k hk
  rcases hb with e' |e' |⟨t,ht,e'⟩
  ·exact this.1 (e.trans e')
  ·exact this.2.1 (e.trans e')
  ·exact this.2.2 t ht (e.trans e')
theorem RkAt.setReg{p:RkPl}(h:RkAt cs p m w){t r:Nat}(ht:t<cs.length)(hr:r<8)(v:Int):RkStep cs p m.mem w p.rp p.mv (m.setReg t r v) (w.setCell ⟨p.rb t,r,none⟩ (.int .i64 v)):=by
 obtain⟨h1,h2,h3,h4⟩:=h.apart (b:=p.rb t) (o:=r) (v:= .int .i64 v) (.inr (.inr ⟨t,ht,rfl⟩))
 have dk:=(h.d2 t ht).1
 have dt:=(h.d2 t ht).2
 refine ⟨⟨h1,h2,h.thr,h.few,h.tcap,cell_ne h.mM (Or.inl dk.symm),cell_ne h.mT (Or.inl dk.symm),cell_ne h.mMarks (Or.inl dk.symm),cell_ne h.mFaults (Or.inl dk.symm),
  fun i L hi=>cell_ne (h.tCode i L hi) (Or.inl dt.symm),h.ccap,fun i hi=>cell_ne (h.tRegs i hi) (Or.inl dt.symm),fun i hi=>cell_ne (h.tAt i hi) (Or.inl dt.symm),h.rcap,fun i k hi hk=>?_,h3,
  fun o=>by rw[World.frozen?_setCell];exact h.fk o,fun o=>by rw[World.frozen?_setCell];exact h.ft o,fun i o hi=>by rw[World.frozen?_setCell];exact h.fr i o hi,by rw[World.size_setCell];exact h.lt',h.d1,h.d2,h.d3,h.d4,h.d5,h.ge⟩,h4,fun _ h=>Or.inl h,rfl⟩
 simp only[Mk.setReg]
 by_cases e:i=t/\k=r
 ·rw[if_pos e,e.1,e.2]
  exact World.cell?_setCell_same _ _ _ (h.regs t r ht hr)
 ·rw[if_neg e]
  refine cell_ne (h.regs i k hi hk) ?_
  by_cases e1:i=t
  ·exact Or.inr (fun e2=>e ⟨e1,e2⟩)
  ·exact Or.inl (h.d3 i t hi ht e1)
theorem RkAt.setPc{p:RkPl}(h:RkAt cs p m w)(ht:t<cs.length)(n:Nat):RkStep cs p m.mem w p.rp p.mv (m.setPc t n) (w.setCell ⟨p.tb,t*3+2,none⟩ (.int .i64 n)):=by
 obtain⟨h1,h2,h3,h4⟩:=h.apart (b:=p.tb) (o:=t*3+2) (v:= .int .i64 n) (.inr (.inl rfl))
 have dk:=h.d1
 refine ⟨⟨h1,h2,h.thr,h.few,h.tcap,cell_ne h.mM (Or.inl dk),cell_ne h.mT (Or.inl dk),cell_ne h.mMarks (Or.inl dk),cell_ne h.mFaults (Or.inl dk),
  fun i L hi=>cell_ne (h.tCode i L hi) (Or.inr (by omega)),h.ccap,fun i hi=>cell_ne (h.tRegs i hi) (Or.inr (by omega)),fun i hi=>?_,h.rcap,fun i k hi hk=>cell_ne (h.regs i k hi hk) (Or.inl (h.d2 i hi).2),h3,
  fun o=>by rw[World.frozen?_setCell];exact h.fk o,fun o=>by rw[World.frozen?_setCell];exact h.ft o,fun i o hi=>by rw[World.frozen?_setCell];exact h.fr i o hi,by rw[World.size_setCell];exact h.lt',h.d1,h.d2,h.d3,h.d4,h.d5,h.ge⟩,h4,fun _ h=>Or.inl h,rfl⟩
 simp only[Mk.setPc]
 by_cases e:i=t
 ·rw[if_pos e,e]
  exact World.cell?_setCell_same _ _ _ (h.tAt t ht)
 ·rw[if_neg e]
  exact cell_ne (h.tAt i hi) (Or.inr (by omega))
theorem RkAt.addFault{p:RkPl}(h:RkAt cs p m w)(n:Nat):RkStep cs p m.mem w p.rp p.mv (m.addFault n) (w.setCell ⟨p.k,3,none⟩ (.int .i64 ((m.faults+n:Nat):Int))):=by
 obtain⟨h1,h2,h3,h4⟩:=h.apart (b:=p.k) (o:=3) (v:= .int .i64 ((m.faults+n:Nat):Int)) (.inl rfl)
 have dk:=h.d1
 exact ⟨⟨h1,h2,h.thr,h.few,h.tcap,cell_ne h.mM (Or.inr (by decide)),cell_ne h.mT (Or.inr (by decide)),cell_ne h.mMarks (Or.inr (by decide)),World.cell?_setCell_same _ _ _ h.mFaults,
  fun i L hi=>cell_ne (h.tCode i L hi) (Or.inl dk.symm),h.ccap,fun i hi=>cell_ne (h.tRegs i hi) (Or.inl dk.symm),fun i hi=>cell_ne (h.tAt i hi) (Or.inl dk.symm),h.rcap,fun i k hi hk=>cell_ne (h.regs i k hi hk) (Or.inl (h.d2 i hi).1),h3,
  fun o=>by rw[World.frozen?_setCell];exact h.fk o,fun o=>by rw[World.frozen?_setCell];exact h.ft o,fun i o hi=>by rw[World.frozen?_setCell];exact h.fr i o hi,by rw[World.size_setCell];exact h.lt',h.d1,h.d2,h.d3,h.d4,h.d5,h.ge⟩,h4,fun _ h=>Or.inl h,rfl⟩
theorem RkAt.ofMem {p:RkPl} {w w':World} (h:RkAt cs p m w) (q:RmStep p.rp m.mem w r s w') (hn:s.threads=m.mem.threads):RkStep cs p m.mem w r p.mv (m.setMem s) w':=by
 have hmb:=q.mb
 have hS: ∀k,p.rp.fp m.mem k->p.fp cs.length m.mem k:=fun k hk=> .inr (.inr (.inr (.inr hk)))
 have lk:=h.lk
 have ltb:=h.lt'
 have nk: ∀o:Nat, ¬(fun k (_:Nat)=>p.rp.fp m.mem k) p.k o:=fun _ e=>(h.d5 _ e).1 rfl
 have nt: ∀o:Nat, ¬(fun k (_:Nat)=>p.rp.fp m.mem k) p.tb o:=fun _ e=>(h.d5 _ e).2.1 rfl
 have nr: ∀t (o:Nat),t<cs.length-> ¬(fun k (_:Nat)=>p.rp.fp m.mem k) (p.rb t) o:=fun t _ ht e=>(h.d5 _ e).2.2.1 t ht rfl
 have fz1: ∀o,w'.frozen? ⟨p.k,o,none⟩=false:=fun o=>by rw[q.turns.frozen _ _ lk (nk o)];exact h.fk o
 have fz2: ∀o,w'.frozen? ⟨p.tb,o,none⟩=false:=fun o=>by rw[q.turns.frozen _ _ ltb (nt o)];exact h.ft o
 have fz3: ∀t o,t<cs.length->w'.frozen? ⟨p.rb t,o,none⟩=false:=fun t o ht=>by rw[q.turns.frozen _ _ (h.lr ht) (nr t o ht)];exact h.fr t o ht
 refine ⟨⟨h.rc.turns q.turns (fun k _ e=>h.ge k (hS k e)),q.at',hn.trans h.thr,h.few,h.tcap,by have e:=q.turns.keep h.mM (nk 0);rw[<-hmb] at e;exact e,q.turns.keep h.mT (nk 1),q.turns.keep h.mMarks (nk 2),q.turns.keep h.mFaults (nk 3),
  fun i L hi=>q.turns.keep (h.tCode i L hi) (nt (i*3)),h.ccap,fun i hi=>q.turns.keep (h.tRegs i hi) (nt (i*3+1)),fun i hi=>q.turns.keep (h.tAt i hi) (nt (i*3+2)),h.rcap,fun i k hi hk=>q.turns.keep (h.regs i k hi hk) (nr i k hi),
  ownsRow_block h.own fun k hk=>q.turns.block k (h.own.lt k hk).2 (fun _ e=>(h.d5 k e).2.2.2 hk),
  fz1,fz2,fz3,Nat.lt_of_lt_of_le ltb q.turns.size,h.d1,h.d2,h.d3,h.d4,fun k hk=>?_,fun k hk=>?_⟩,
  q.turns.mono (fun k _ _ e=>hS k e),fun k hk=>?_,hmb⟩
 ·rcases q.fp k hk with e |e
  ·exact h.d5 k e
  ·exact⟨by show k≠p.k;omega,by show k≠p.tb;omega,fun t ht=>by have:=h.lr ht;show k≠p.rb t;omega,fun e'=>by have:=(h.own.lt k e').2;omega⟩
 ·rcases hk with e |e |e |e |e
  ·exact h.ge k (.inl e)
  ·exact h.ge k (.inr (.inl e))
  ·exact h.ge k (.inr (.inr (.inl e)))
  ·exact h.ge k (.inr (.inr (.inr (.inl e))))
  ·rcases q.fp k e with e |e
   ·exact h.ge k (hS k e)
   ·have:=h.rc.size;show p.B<=k;omega
 ·rcases hk with e |e |e |e |e
  ·exact Or.inl (.inl e)
  ·exact Or.inl (.inr (.inl e))
  ·exact Or.inl (.inr (.inr (.inl e)))
  ·exact Or.inl (.inr (.inr (.inr (.inl e))))
  ·exact(q.fp k e).imp (hS k) id
end
end Go.Proofs.YtdpmnlbnlnmjbaaGreatDoor
