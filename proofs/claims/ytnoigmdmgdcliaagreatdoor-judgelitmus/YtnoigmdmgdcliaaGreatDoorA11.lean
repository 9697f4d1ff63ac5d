import Derived.Test.YtnoigmdmgdcliaaGreatDoorProg
import Derived.Test.YtnoigmdmgdcliaaGreatDoorA08
import Derived.WalkKit
import Derived.Test.YtnoigmdmgdcliaaGreatDoorA01
import Derived.Deep.QuietTactic
import Derived.Lib.ConvBytes
import Derived.Lib.AtoiErrMem
namespace Go.Proofs.YtnoigmdmgdcliaaGreatDoor
set_option maxRecDepth 100000
set_option maxHeartbeats 8000000
section
open Go.RowKit Go.Extern.Stop Go.Stop Go.Extern
def limOf(S:List UInt8)(k:Nat):Int:=if k<nums S then mostOf (byteAt ⟨S.toArray⟩ k) else 0
def kindV(S:List UInt8):Value:= .agg #[.int .i64 (limOf S 0), .int .i64 (limOf S 1), .int .i64 (limOf S 2), .bool (hasTo S)]
def kindRet:Option (List UInt8)->Value
 |some S=> .tuple #[kindV S, .bool true]
 |none=> .tuple #[kindV [], .bool false]
theorem kindOf_any (op:ByteArray) (w:World):
  Calls Tryz.prog 208 #[.string op] w fun e w'=>e= .returned (kindRet (shape op.toList))/\Below w.heap.size w w':=by
 cases h0:(op.toList==[99,111,110,115,116])
 rotate_left
 ·have hs:kindRet (shape op.toList)= .tuple #[.agg #[.int .i64 8, .int .i64 4294967296, .int .i64 0, .bool false], .bool true]:=by
   rw[show shape op.toList=some [114,118] by simp only[shape,h0,if_true]];kernel_rfl
  rw[hs]
  go_enter Tryz.func208,Tryz.ntmps208
  go_wp2
  exact bodyPost_ret (v:= .tuple #[.agg #[.int .i64 8, .int .i64 4294967296, .int .i64 0, .bool false], .bool true]) (by simp only[results,Tryz.results208];go_simp) rfl ⟨rfl,bRf.alloc nL _⟩
 cases h1:(op.toList==[109,111,118,101])
 rotate_left
 ·have hs:kindRet (shape op.toList)= .tuple #[.agg #[.int .i64 8, .int .i64 8, .int .i64 0, .bool false], .bool true]:=by
   rw[show shape op.toList=some [114,114] by simp only[shape,h0,h1,Bool.false_eq_true,if_false,if_true]];kernel_rfl
  rw[hs]
  go_enter Tryz.func208,Tryz.ntmps208
  go_wp2
  exact bodyPost_ret (v:= .tuple #[.agg #[.int .i64 8, .int .i64 8, .int .i64 0, .bool false], .bool true]) (by simp only[results,Tryz.results208];go_simp) rfl ⟨rfl,bRf.alloc nL _⟩
 cases h2:(op.toList==[97,100,100])
 rotate_left
 ·have hs:kindRet (shape op.toList)= .tuple #[.agg #[.int .i64 8, .int .i64 8, .int .i64 8, .bool false], .bool true]:=by
   rw[show shape op.toList=some [114,114,114] by simp only[shape,h0,h1,h2,Bool.false_eq_true,if_false,if_true]];kernel_rfl
  rw[hs]
  go_enter Tryz.func208,Tryz.ntmps208
  go_wp2
  exact bodyPost_ret (v:= .tuple #[.agg #[.int .i64 8, .int .i64 8, .int .i64 8, .bool false], .bool true]) (by simp only[results,Tryz.results208];go_simp) rfl ⟨rfl,bRf.alloc nL _⟩
 cases h3:(op.toList==[115,117,98])
 rotate_left
 ·have hs:kindRet (shape op.toList)= .tuple #[.agg #[.int .i64 8, .int .i64 8, .int .i64 8, .bool false], .bool true]:=by
   rw[show shape op.toList=some [114,114,114] by simp only[shape,h0,h1,h2,h3,Bool.false_eq_true,if_false,if_true]];kernel_rfl
  rw[hs]
  go_enter Tryz.func208,Tryz.ntmps208
  go_wp2
  exact bodyPost_ret (v:= .tuple #[.agg #[.int .i64 8, .int .i64 8, .int .i64 8, .bool false], .bool true]) (by simp only[results,Tryz.results208];go_simp) rfl ⟨rfl,bRf.alloc nL _⟩
 cases h4:(op.toList==[97,110,100])
 rotate_left
 ·have hs:kindRet (shape op.toList)= .tuple #[.agg #[.int .i64 8, .int .i64 8, .int .i64 8, .bool false], .bool true]:=by
   rw[show shape op.toList=some [114,114,114] by simp only[shape,h0,h1,h2,h3,h4,Bool.false_eq_true,if_false,if_true]];kernel_rfl
  rw[hs]
  go_enter Tryz.func208,Tryz.ntmps208
  go_wp2
  exact bodyPost_ret (v:= .tuple #[.agg #[.int .i64 8, .int .i64 8, .int .i64 8, .bool false], .bool true]) (by simp only[results,Tryz.results208];go_simp) rfl ⟨rfl,bRf.alloc nL _⟩
 cases h5:(op.toList==[120,111,114])
 rotate_left
 ·have hs:kindRet (shape op.toList)= .tuple #[.agg #[.int .i64 8, .int .i64 8, .int .i64 8, .bool false], .bool true]:=by
   rw[show shape op.toList=some [114,114,114] by simp only[shape,h0,h1,h2,h3,h4,h5,Bool.false_eq_true,if_false,if_true]];kernel_rfl
  rw[hs]
  go_enter Tryz.func208,Tryz.ntmps208
  go_wp2
  exact bodyPost_ret (v:= .tuple #[.agg #[.int .i64 8, .int .i64 8, .int .i64 8, .bool false], .bool true]) (by simp only[results,Tryz.results208];go_simp) rfl ⟨rfl,bRf.alloc nL _⟩
 cases h6:(op.toList==[108,111,97,100])
 rotate_left
 ·have hs:kindRet (shape op.toList)= .tuple #[.agg #[.int .i64 8, .int .i64 8, .int .i64 4, .bool false], .bool true]:=by
   rw[show shape op.toList=some [114,114,119] by simp only[shape,h0,h1,h2,h3,h4,h5,h6,Bool.false_eq_true,if_false,if_true]];kernel_rfl
  rw[hs]
  go_enter Tryz.func208,Tryz.ntmps208
  go_wp2
  exact bodyPost_ret (v:= .tuple #[.agg #[.int .i64 8, .int .i64 8, .int .i64 4, .bool false], .bool true]) (by simp only[results,Tryz.results208];go_simp) rfl ⟨rfl,bRf.alloc nL _⟩
 cases h7:(op.toList==[115,116,111,114,101])
 rotate_left
 ·have hs:kindRet (shape op.toList)= .tuple #[.agg #[.int .i64 8, .int .i64 8, .int .i64 4, .bool false], .bool true]:=by
   rw[show shape op.toList=some [114,114,119] by simp only[shape,h0,h1,h2,h3,h4,h5,h6,h7,Bool.false_eq_true,if_false,if_true]];kernel_rfl
  rw[hs]
  go_enter Tryz.func208,Tryz.ntmps208
  go_wp2
  exact bodyPost_ret (v:= .tuple #[.agg #[.int .i64 8, .int .i64 8, .int .i64 4, .bool false], .bool true]) (by simp only[results,Tryz.results208];go_simp) rfl ⟨rfl,bRf.alloc nL _⟩
 cases h8:(op.toList==[115,119,97,112])
 rotate_left
 ·have hs:kindRet (shape op.toList)= .tuple #[.agg #[.int .i64 8, .int .i64 8, .int .i64 4, .bool false], .bool true]:=by
   rw[show shape op.toList=some [114,114,119] by simp only[shape,h0,h1,h2,h3,h4,h5,h6,h7,h8,Bool.false_eq_true,if_false,if_true]];kernel_rfl
  rw[hs]
  go_enter Tryz.func208,Tryz.ntmps208
  go_wp2
  exact bodyPost_ret (v:= .tuple #[.agg #[.int .i64 8, .int .i64 8, .int .i64 4, .bool false], .bool true]) (by simp only[results,Tryz.results208];go_simp) rfl ⟨rfl,bRf.alloc nL _⟩
 cases h9:(op.toList==[99,97,115])
 rotate_left
 ·have hs:kindRet (shape op.toList)= .tuple #[.agg #[.int .i64 8, .int .i64 7, .int .i64 4, .bool false], .bool true]:=by
   rw[show shape op.toList=some [114,115,119] by simp only[shape,h0,h1,h2,h3,h4,h5,h6,h7,h8,h9,Bool.false_eq_true,if_false,if_true]];kernel_rfl
  rw[hs]
  go_enter Tryz.func208,Tryz.ntmps208
  go_wp2
  exact bodyPost_ret (v:= .tuple #[.agg #[.int .i64 8, .int .i64 7, .int .i64 4, .bool false], .bool true]) (by simp only[results,Tryz.results208];go_simp) rfl ⟨rfl,bRf.alloc nL _⟩
 cases h10:(op.toList==[97,108,108,111,99])
 rotate_left
 ·have hs:kindRet (shape op.toList)= .tuple #[.agg #[.int .i64 8, .int .i64 0, .int .i64 0, .bool false], .bool true]:=by
   rw[show shape op.toList=some [114] by simp only[shape,h0,h1,h2,h3,h4,h5,h6,h7,h8,h9,h10,Bool.false_eq_true,if_false,if_true]];kernel_rfl
  rw[hs]
  go_enter Tryz.func208,Tryz.ntmps208
  go_wp2
  exact bodyPost_ret (v:= .tuple #[.agg #[.int .i64 8, .int .i64 0, .int .i64 0, .bool false], .bool true]) (by simp only[results,Tryz.results208];go_simp) rfl ⟨rfl,bRf.alloc nL _⟩
 cases h11:(op.toList==[102,114,101,101])
 rotate_left
 ·have hs:kindRet (shape op.toList)= .tuple #[.agg #[.int .i64 8, .int .i64 0, .int .i64 0, .bool false], .bool true]:=by
   rw[show shape op.toList=some [114] by simp only[shape,h0,h1,h2,h3,h4,h5,h6,h7,h8,h9,h10,h11,Bool.false_eq_true,if_false,if_true]];kernel_rfl
  rw[hs]
  go_enter Tryz.func208,Tryz.ntmps208
  go_wp2
  exact bodyPost_ret (v:= .tuple #[.agg #[.int .i64 8, .int .i64 0, .int .i64 0, .bool false], .bool true]) (by simp only[results,Tryz.results208];go_simp) rfl ⟨rfl,bRf.alloc nL _⟩
 cases h12:(op.toList==[109,97,114,107])
 rotate_left
 ·have hs:kindRet (shape op.toList)= .tuple #[.agg #[.int .i64 8, .int .i64 0, .int .i64 0, .bool false], .bool true]:=by
   rw[show shape op.toList=some [114] by simp only[shape,h0,h1,h2,h3,h4,h5,h6,h7,h8,h9,h10,h11,h12,Bool.false_eq_true,if_false,if_true]];kernel_rfl
  rw[hs]
  go_enter Tryz.func208,Tryz.ntmps208
  go_wp2
  exact bodyPost_ret (v:= .tuple #[.agg #[.int .i64 8, .int .i64 0, .int .i64 0, .bool false], .bool true]) (by simp only[results,Tryz.results208];go_simp) rfl ⟨rfl,bRf.alloc nL _⟩
 cases h13:(op.toList==[110,101,101,100])
 rotate_left
 ·have hs:kindRet (shape op.toList)= .tuple #[.agg #[.int .i64 8, .int .i64 0, .int .i64 0, .bool false], .bool true]:=by
   rw[show shape op.toList=some [114] by simp only[shape,h0,h1,h2,h3,h4,h5,h6,h7,h8,h9,h10,h11,h12,h13,Bool.false_eq_true,if_false,if_true]];kernel_rfl
  rw[hs]
  go_enter Tryz.func208,Tryz.ntmps208
  go_wp2
  exact bodyPost_ret (v:= .tuple #[.agg #[.int .i64 8, .int .i64 0, .int .i64 0, .bool false], .bool true]) (by simp only[results,Tryz.results208];go_simp) rfl ⟨rfl,bRf.alloc nL _⟩
 cases h14:(op.toList==[102,101,110,99,101])
 rotate_left
 ·have hs:kindRet (shape op.toList)= .tuple #[.agg #[.int .i64 0, .int .i64 0, .int .i64 0, .bool false], .bool true]:=by
   rw[show shape op.toList=some [] by simp only[shape,h0,h1,h2,h3,h4,h5,h6,h7,h8,h9,h10,h11,h12,h13,h14,Bool.false_eq_true,if_false,if_true]];kernel_rfl
  rw[hs]
  go_enter Tryz.func208,Tryz.ntmps208
  go_wp2
  exact bodyPost_ret (v:= .tuple #[.agg #[.int .i64 0, .int .i64 0, .int .i64 0, .bool false], .bool true]) (by simp only[results,Tryz.results208];go_simp) rfl ⟨rfl,bRf.alloc nL _⟩
 cases h15:(op.toList==[102,111,114,99,101])
 rotate_left
 ·have hs:kindRet (shape op.toList)= .tuple #[.agg #[.int .i64 0, .int .i64 0, .int .i64 0, .bool false], .bool true]:=by
   rw[show shape op.toList=some [] by simp only[shape,h0,h1,h2,h3,h4,h5,h6,h7,h8,h9,h10,h11,h12,h13,h14,h15,Bool.false_eq_true,if_false,if_true]];kernel_rfl
  rw[hs]
  go_enter Tryz.func208,Tryz.ntmps208
  go_wp2
  exact bodyPost_ret (v:= .tuple #[.agg #[.int .i64 0, .int .i64 0, .int .i64 0, .bool false], .bool true]) (by simp only[results,Tryz.results208];go_simp) rfl ⟨rfl,bRf.alloc nL _⟩
 cases h16:(op.toList==[115,116,111,112])
 rotate_left
 ·have hs:kindRet (shape op.toList)= .tuple #[.agg #[.int .i64 0, .int .i64 0, .int .i64 0, .bool false], .bool true]:=by
   rw[show shape op.toList=some [] by simp only[shape,h0,h1,h2,h3,h4,h5,h6,h7,h8,h9,h10,h11,h12,h13,h14,h15,h16,Bool.false_eq_true,if_false,if_true]];kernel_rfl
  rw[hs]
  go_enter Tryz.func208,Tryz.ntmps208
  go_wp2
  exact bodyPost_ret (v:= .tuple #[.agg #[.int .i64 0, .int .i64 0, .int .i64 0, .bool false], .bool true]) (by simp only[results,Tryz.results208];go_simp) rfl ⟨rfl,bRf.alloc nL _⟩
 cases h17:(op.toList==[122,101,114,111])
 rotate_left
 ·have hs:kindRet (shape op.toList)= .tuple #[.agg #[.int .i64 8, .int .i64 0, .int .i64 0, .bool true], .bool true]:=by
   rw[show shape op.toList=some [114,108] by simp only[shape,h0,h1,h2,h3,h4,h5,h6,h7,h8,h9,h10,h11,h12,h13,h14,h15,h16,h17,Bool.false_eq_true,if_false,if_true]];kernel_rfl
  rw[hs]
  go_enter Tryz.func208,Tryz.ntmps208
  go_wp2
  exact bodyPost_ret (v:= .tuple #[.agg #[.int .i64 8, .int .i64 0, .int .i64 0, .bool true], .bool true]) (by simp only[results,Tryz.results208];go_simp) rfl ⟨rfl,bRf.alloc nL _⟩
 cases h18:(op.toList==[115,97,109,101])
 rotate_left
 ·have hs:kindRet (shape op.toList)= .tuple #[.agg #[.int .i64 8, .int .i64 8, .int .i64 0, .bool true], .bool true]:=by
   rw[show shape op.toList=some [114,114,108] by simp only[shape,h0,h1,h2,h3,h4,h5,h6,h7,h8,h9,h10,h11,h12,h13,h14,h15,h16,h17,h18,Bool.false_eq_true,if_false,if_true]];kernel_rfl
  rw[hs]
  go_enter Tryz.func208,Tryz.ntmps208
  go_wp2
  exact bodyPost_ret (v:= .tuple #[.agg #[.int .i64 8, .int .i64 8, .int .i64 0, .bool true], .bool true]) (by simp only[results,Tryz.results208];go_simp) rfl ⟨rfl,bRf.alloc nL _⟩
 cases h19:(op.toList==[103,111,116,111])
 rotate_left
 ·have hs:kindRet (shape op.toList)= .tuple #[.agg #[.int .i64 0, .int .i64 0, .int .i64 0, .bool true], .bool true]:=by
   rw[show shape op.toList=some [108] by simp only[shape,h0,h1,h2,h3,h4,h5,h6,h7,h8,h9,h10,h11,h12,h13,h14,h15,h16,h17,h18,h19,Bool.false_eq_true,if_false,if_true]];kernel_rfl
  rw[hs]
  go_enter Tryz.func208,Tryz.ntmps208
  go_wp2
  exact bodyPost_ret (v:= .tuple #[.agg #[.int .i64 0, .int .i64 0, .int .i64 0, .bool true], .bool true]) (by simp only[results,Tryz.results208];go_simp) rfl ⟨rfl,bRf.alloc nL _⟩
 cases h20:(op.toList==[108,97,98,101,108])
 rotate_left
 ·have hs:kindRet (shape op.toList)= .tuple #[.agg #[.int .i64 0, .int .i64 0, .int .i64 0, .bool true], .bool true]:=by
   rw[show shape op.toList=some [108] by simp only[shape,h0,h1,h2,h3,h4,h5,h6,h7,h8,h9,h10,h11,h12,h13,h14,h15,h16,h17,h18,h19,h20,Bool.false_eq_true,if_false,if_true]];kernel_rfl
  rw[hs]
  go_enter Tryz.func208,Tryz.ntmps208
  go_wp2
  exact bodyPost_ret (v:= .tuple #[.agg #[.int .i64 0, .int .i64 0, .int .i64 0, .bool true], .bool true]) (by simp only[results,Tryz.results208];go_simp) rfl ⟨rfl,bRf.alloc nL _⟩
 have hs:kindRet (shape op.toList)= .tuple #[.agg #[.int .i64 0, .int .i64 0, .int .i64 0, .bool false], .bool false]:=by
  rw[show shape op.toList=none by simp only[shape,h0,h1,h2,h3,h4,h5,h6,h7,h8,h9,h10,h11,h12,h13,h14,h15,h16,h17,h18,h19,h20,Bool.false_eq_true,if_false]];kernel_rfl
 rw[hs]
 go_enter Tryz.func208,Tryz.ntmps208
 go_wp2
 exact bodyPost_ret (v:= .tuple #[.agg #[.int .i64 0, .int .i64 0, .int .i64 0, .bool false], .bool false]) (by simp only[results,Tryz.results208];go_simp) rfl ⟨rfl,bRf.alloc nL _⟩
end
section
open Go.RowKit Go.Extern.Stop Go.Stop Go.Extern
theorem pnumbers_any(x:Ins)(w:World):
  Calls Tryz.prog 233 #[.agg #[.string x.op, .int .i64 x.a, .int .i64 x.b, .int .i64 x.c, .string x.to]] w fun e w'=>e= .returned (.agg #[.int .i64 x.a, .int .i64 x.b, .int .i64 x.c])/\Below w.heap.size w w':=by
 go_enter Tryz.func233,Tryz.ntmps233
 go_wp2
 exact bodyPost_ret (v:= .agg #[.int .i64 x.a, .int .i64 x.b, .int .i64 x.c]) (by simp only[results,Tryz.results233];go_simp) rfl ⟨rfl,(bRf.alloc nL _).alloc (by simp) _⟩
theorem fits_any (l0 l1 l2:Int) (t:Bool) (x:Ins) (w:World):
  Calls Tryz.prog 209 #[.agg #[.int .i64 l0, .int .i64 l1, .int .i64 l2, .bool t], .agg #[.string x.op, .int .i64 x.a, .int .i64 x.b, .int .i64 x.c, .string x.to]] w fun e w'=>e= .returned (.bool (decide ((l0=0->x.a=0)/\(l1=0->x.b=0)/\(l2=0->x.c=0)/\(t=false->x.to.toList=[]))))/\Below w.heap.size w w':=by
 have HN:Hid (∀w',Calls Tryz.prog 233 #[.agg #[.string x.op, .int .i64 x.a, .int .i64 x.b, .int .i64 x.c, .string x.to]] w' fun e w''=>e= .returned (.agg #[.int .i64 x.a, .int .i64 x.b, .int .i64 x.c])/\Below w'.heap.size w' w''):=fun w'=>pnumbers_any x w'
 have i0: ∀w,(Instr.index 305 (.agg #[.int .i64 x.a, .int .i64 x.b, .int .i64 x.c]) (.int .i64 0)).run Tryz.prog w= .ok (.int .i64 x.a) w:=fun _=>by kernel_rfl
 have i1: ∀w,(Instr.index 305 (.agg #[.int .i64 x.a, .int .i64 x.b, .int .i64 x.c]) (.int .i64 1)).run Tryz.prog w= .ok (.int .i64 x.b) w:=fun _=>by kernel_rfl
 have i2: ∀w,(Instr.index 305 (.agg #[.int .i64 x.a, .int .i64 x.b, .int .i64 x.c]) (.int .i64 2)).run Tryz.prog w= .ok (.int .i64 x.c) w:=fun _=>by kernel_rfl
 obtain⟨W,hW⟩: ∃W,W=(w.alloc (.cells #[.int .i64 l0, .int .i64 l1, .int .i64 l2, .bool t] 307)).alloc (.cells #[.string x.op, .int .i64 x.a, .int .i64 x.b, .int .i64 x.c, .string x.to] 57):=⟨_,rfl⟩
 have hba:Below w.heap.size w W:=by rw[hW];exact(bRf.alloc nL _).alloc (by simp) _
 have k0:W.cell? ⟨w.heap.size,0,none⟩=some (.int .i64 l0):=by rw[hW];simp
 have k1:W.cell? ⟨w.heap.size,1,none⟩=some (.int .i64 l1):=by rw[hW];simp
 have k2:W.cell? ⟨w.heap.size,2,none⟩=some (.int .i64 l2):=by rw[hW];simp
 have k3:W.cell? ⟨w.heap.size,3,none⟩=some (.bool t):=by rw[hW];simp
 have q4:W.cell? ⟨w.heap.size+1,4,none⟩=some (.string x.to):=by rw[hW];simp
 cases hto:(x.to.toList==[])
 all_goals
  have HT:Hid ((x.to.toList==[])=_):=hto
  cases t
  all_goals
   go_enter Tryz.func209,Tryz.ntmps209
   go_wp2_with fail
   rw[<-hW]
   refine(HN.out _).mono ?_
   rintro e w1 ⟨rfl,hb1⟩
   replace k0:=keep_cell hb1 k0
   replace k1:=keep_cell hb1 k1
   replace k2:=keep_cell hb1 k2
   replace k3:=keep_cell hb1 k3
   replace q4:=keep_cell hb1 q4
   have B1:=hide (below_step hba hb1)
   clear hW hba hb1 HN
   go_wp2_with fail
   refine wp_loop_rounds 4 ?_
   rw[rounds_succ]
   go_wp2
   all_goals try(rw[rounds_succ];go_wp2)
   all_goals try(rw[rounds_succ];go_wp2)
   all_goals try(rw[rounds_succ];go_wp2)
   all_goals try go_ret
   all_goals
    refine⟨?_,B1.out⟩
    have hto':=HT.out
    clear i0 i1 i2 k0 k1 k2 k3 q4 B1 HT
    refine congrArg (fun z=>Ending.returned (.bool z)) ?_
    symm
    simp_all
theorem within_any (l0 l1 l2:Int) (t:Bool) (x:Ins) (w:World):
  Calls Tryz.prog 210 #[.agg #[.int .i64 l0, .int .i64 l1, .int .i64 l2, .bool t], .agg #[.string x.op, .int .i64 x.a, .int .i64 x.b, .int .i64 x.c, .string x.to]] w fun e w'=>e= .returned (.bool (decide ((0<l0->0<=x.a/\x.a<l0)/\(0<l1->0<=x.b/\x.b<l1)/\(0<l2->0<=x.c/\x.c<l2))))/\Below w.heap.size w w':=by
 have HN:Hid (∀w',Calls Tryz.prog 233 #[.agg #[.string x.op, .int .i64 x.a, .int .i64 x.b, .int .i64 x.c, .string x.to]] w' fun e w''=>e= .returned (.agg #[.int .i64 x.a, .int .i64 x.b, .int .i64 x.c])/\Below w'.heap.size w' w''):=fun w'=>pnumbers_any x w'
 have i0: ∀w,(Instr.index 305 (.agg #[.int .i64 x.a, .int .i64 x.b, .int .i64 x.c]) (.int .i64 0)).run Tryz.prog w= .ok (.int .i64 x.a) w:=fun _=>by kernel_rfl
 have i1: ∀w,(Instr.index 305 (.agg #[.int .i64 x.a, .int .i64 x.b, .int .i64 x.c]) (.int .i64 1)).run Tryz.prog w= .ok (.int .i64 x.b) w:=fun _=>by kernel_rfl
 have i2: ∀w,(Instr.index 305 (.agg #[.int .i64 x.a, .int .i64 x.b, .int .i64 x.c]) (.int .i64 2)).run Tryz.prog w= .ok (.int .i64 x.c) w:=fun _=>by kernel_rfl
 obtain⟨W,hW⟩: ∃W,W=(w.alloc (.cells #[.int .i64 l0, .int .i64 l1, .int .i64 l2, .bool t] 307)).alloc (.cells #[.string x.op, .int .i64 x.a, .int .i64 x.b, .int .i64 x.c, .string x.to] 57):=⟨_,rfl⟩
 have hba:Below w.heap.size w W:=by rw[hW];exact(bRf.alloc nL _).alloc (by simp) _
 have k0:W.cell? ⟨w.heap.size,0,none⟩=some (.int .i64 l0):=by rw[hW];simp
 have k1:W.cell? ⟨w.heap.size,1,none⟩=some (.int .i64 l1):=by rw[hW];simp
 have k2:W.cell? ⟨w.heap.size,2,none⟩=some (.int .i64 l2):=by rw[hW];simp
 have k3:W.cell? ⟨w.heap.size,3,none⟩=some (.bool t):=by rw[hW];simp
 have q4:W.cell? ⟨w.heap.size+1,4,none⟩=some (.string x.to):=by rw[hW];simp
 go_enter Tryz.func210,Tryz.ntmps210
 go_wp2_with fail
 rw[<-hW]
 refine(HN.out _).mono ?_
 rintro e w1 ⟨rfl,hb1⟩
 replace k0:=keep_cell hb1 k0
 replace k1:=keep_cell hb1 k1
 replace k2:=keep_cell hb1 k2
 replace k3:=keep_cell hb1 k3
 replace q4:=keep_cell hb1 q4
 have B1:=hide (below_step hba hb1)
 clear hW hba hb1 HN
 go_wp2_with fail
 refine wp_loop_rounds 4 ?_
 rw[rounds_succ]
 go_wp2
 all_goals try(rw[rounds_succ];go_wp2)
 all_goals try(rw[rounds_succ];go_wp2)
 all_goals try(rw[rounds_succ];go_wp2)
 all_goals try go_ret
 all_goals
  refine⟨?_,B1.out⟩
  clear i0 i1 i2 k0 k1 k2 k3 q4 B1
  refine congrArg (fun z=>Ending.returned (.bool z)) ?_
  symm
  first
   |(rw[decide_eq_true_iff];omega)
   |(rw[decide_eq_false_iff_not];omega)
   |(rw[Bool.eq_false_iff];simp only[ne_eq,Bool.and_eq_true,Bool.or_eq_true,Bool.not_eq_true',decide_eq_true_eq,decide_eq_false_iff_not];omega)
end
section
open Go.RowKit Go.Extern.Stop Go.Stop Go.Extern
theorem isSmall_any (c:Nat) (w:World):
  Calls Tryz.prog 226 #[.int .u8 c] w fun e w'=>e= .returned (.bool (decide (97<=c/\c<=122)))/\w'=w:=by
 have i1:(97:Int)<=c↔97<=c:=by omega
 by_cases h1:(97:Int)<=c
 ·by_cases h2:(c:Int)<=122
  ·rw[decide_eq_true (show 97<=c/\c<=122 by omega)]
   go_enter Tryz.func226,Tryz.ntmps226
   go_wp2
   go_ret
   exact⟨rfl,rfl⟩
  ·rw[decide_eq_false (show ¬(97<=c/\c<=122) by omega)]
   go_enter Tryz.func226,Tryz.ntmps226
   go_wp2
   go_ret
   exact⟨rfl,rfl⟩
 ·rw[decide_eq_false (show ¬(97<=c/\c<=122) by omega)]
  go_enter Tryz.func226,Tryz.ntmps226
  go_wp2
  go_ret
  exact⟨rfl,rfl⟩
open Classical in
theorem pisName_any (s:ByteArray) (w:World):
  Calls Tryz.prog 178 #[.string s] w fun e w'=>e= .returned (.bool (decide (isName s)))/\Below w.heap.size w w':=by
 by_cases h0:s.size=0
 ·have HZ:decide (isName s)=false:=decide_eq_false (fun h=>by have:=h.1;omega)
  have hb:(s.toList==[])=true:=by rw[beq_iff_eq,toList_bl, <-List.length_eq_zero_iff, <-size_bl];exact h0
  rw[HZ]
  go_enter Tryz.func178,Tryz.ntmps178
  go_wp2_with fail
  go_ret
  exact⟨rfl,Below.refl _ _⟩
 have hb:(s.toList==[])=false:=by rw[beq_eq_false_iff_ne,toList_bl];intro e;apply h0;rw[size_bl,e];rfl
 have hs0:0<s.size:=by omega
 by_cases h12:12<s.size
 ·have HZ:decide (isName s)=false:=decide_eq_false (fun h=>by have:=h.2.1;omega)
  have i12:12<(s.size:Int):=by omega
  rw[HZ]
  go_enter Tryz.func178,Tryz.ntmps178
  go_wp2_with fail
  go_ret
  exact⟨rfl,Below.refl _ _⟩
 have i12: ¬12<(s.size:Int):=by omega
 have HS:Hid (∀w',Calls Tryz.prog 226 #[.int .u8 (s[0]'hs0).toNat] w' fun e w''=>e= .returned (.bool (decide (97<=(s[0]'hs0).toNat/\(s[0]'hs0).toNat<=122)))/\w''=w'):=fun w'=>isSmall_any _ w'
 by_cases hc:97<=(s[0]'hs0).toNat/\(s[0]'hs0).toNat<=122
 rotate_left
 ·have HZ:decide (isName s)=false:=decide_eq_false (fun h=>by
   have:=h.2.2 0 hs0
   unfold nameOk at this
   have:=of_decide_eq_true this
   omega)
  rw[HZ]
  rw[decide_eq_false hc] at HS
  clear hc
  go_enter Tryz.func178,Tryz.ntmps178
  go_wp2_with fail
  refine(HS.out _).mono ?_
  rintro e w1 ⟨rfl,rfl⟩
  go_wp2_with fail
  go_ret
  exact⟨rfl,Below.refl _ _⟩
 have hc':=hide hc
 rw[decide_eq_true hc] at HS
 clear hc
 have hcv: ∀w',(convert 9 324 (.string s)).run Tryz.prog w'= .ok (.slice (some ⟨w'.heap.size,0,none⟩) s.size (grownCap w' s.size 0 5)) (Lib.bytesWorld w' 5 s):=fun w'=>Lib.run_convert_string_bytes w' 9 324 5 s Tryz.underlying9 Tryz.underlying324 Tryz.underlying5
 have HD:Hid (∀f:Bool,(f=true↔ ∀j,j<s.size->nameOk j (byteAt s j)=true)->decide (isName s)=f):=fun f hf=>by
  cases f with
  |true=>exact decide_eq_true ⟨by omega,by omega,fun j h=>by have:=hf.1 rfl j h;rwa [byteAt_lt h] at this⟩
  |false=>exact decide_eq_false (fun h=>by have:=hf.2 (fun j hj=>by rw[byteAt_lt hj];exact h.2.2 j hj);cases this)
 generalize decide (isName s)=F at*
 go_enter Tryz.func178,Tryz.ntmps178
 go_wp2_with fail
 refine(HS.out _).mono ?_
 rintro e w1 ⟨rfl,rfl⟩
 obtain⟨W,hW⟩: ∃W,W=Lib.bytesWorld w1 5 s:=⟨_,rfl⟩
 have hcell:Hid (∀j,j<s.size->W.cell? ⟨w1.heap.size,j,none⟩=some (.int .u8 (byteAt s j))):=fun j hj=>by
  rw[hW,Lib.bytesWorld_cell _ _ _ _ hj]
  obtain⟨h',e⟩:=byteAt_bl s j hj
  rw[e,List.getD_eq_getElem?_getD,List.getElem?_eq_getElem h'];rfl
 have HB:Hid (Below w1.heap.size w1 W):=by rw[hW];exact Lib.bytesWorld_below _ _ _
 go_wp2_with fail
 rw[<-hW]
 clear hW hcv HS
 go_loopw [4,21] (fun _ i wr=>wr=W/\ ∃j:Nat,j<=s.size/\i= .int .i64 j/\Hid (∀k,k<j->nameOk k (byteAt s k)=true)) (fun _ i _=>s.size - (intOf i).toNat)
 case atStart=>exact⟨rfl,0,Nat.zero_le _,rfl,fun k h=>absurd h (Nat.not_lt_zero _)⟩
 case round=>
  obtain⟨rfl,j,hj,rfl,HJ⟩:=hrel
  by_cases hlt:j<s.size
  ·have hcj:=hcell.out j hlt
   have ji:(j:Int)<s.size:=by omega
   have HY:Hid (nameOk j (byteAt s j)=true-> ∀k,k<j+1->nameOk k (byteAt s k)=true):=fun hy k hk=>by
    by_cases e:k=j
    ·subst e;exact hy
    ·exact HJ.out k (by omega)
   have HX:Hid (nameOk j (byteAt s j)=false->F=false):=fun hx=>HD.out false ⟨(fun h=>Bool.noConfusion h),(fun h=>by rw[h j hlt] at hx;cases hx)⟩
   have H0:Hid (j=0->97<=byteAt s j/\byteAt s j<=122):=fun h=>by subst h;rw[byteAt_lt hs0];exact hc'.out
   generalize byteAt s j=c at*
   have HC:Hid (∀w',Calls Tryz.prog 226 #[.int .u8 c] w' fun e w''=>e= .returned (.bool (decide (97<=c/\c<=122)))/\w''=w'):=fun w'=>isSmall_any c w'
   have hor:(97<=c/\c<=122)∨(¬(97<=c/\c<=122)/\48<=c/\c<=57)∨(¬(97<=c/\c<=122)/\c<48/\c=46)∨(¬(97<=c/\c<=122)/\c<48/\c≠46)∨(¬(97<=c/\c<=122)/\ ¬c<48/\57<c):=by omega
   rcases hor with q1 |⟨q1,q2,q3⟩ |⟨q1,q2,q3⟩ |⟨q1,q2,q3⟩ |⟨q1,q2,q3⟩
   ·have HZ:=hide (HY.out (decide_eq_true (by omega)))
    rw[decide_eq_true q1] at HC
    clear HX HY H0 q1 HJ
    go_wp2_with fail
    refine(HC.out _).mono ?_
    rintro e w1 ⟨rfl,rfl⟩
    go_wp2_with fail
    go_roundw
    case rel=>exact⟨trivial,j+1,by omega,by go_num,HZ⟩
    case measure=>simp[intOf];omega
   ·have HZ:=hide (HY.out (decide_eq_true (by have:=H0.out;omega)))
    rw[decide_eq_false q1] at HC
    have z1: ¬(c:Int)<48:=by omega
    have z2: ¬57<(c:Int):=by omega
    clear HX HY H0 q1 q2 q3 HJ
    go_wp2_with fail
    refine(HC.out _).mono ?_
    rintro e w1 ⟨rfl,rfl⟩
    go_wp2_with fail
    go_roundw
    case rel=>exact⟨trivial,j+1,by omega,by go_num,HZ⟩
    case measure=>simp[intOf];omega
   ·have HZ:=hide (HY.out (decide_eq_true (by have:=H0.out;omega)))
    rw[decide_eq_false q1] at HC
    have z1:(c:Int)<48:=by omega
    have z2:((c:Int) !=46)=false:=by rw[bne_eq_false_iff_eq];omega
    clear HX HY H0 q1 q2 q3 HJ
    go_wp2_with fail
    refine(HC.out _).mono ?_
    rintro e w1 ⟨rfl,rfl⟩
    go_wp2_with fail
    go_roundw
    case rel=>exact⟨trivial,j+1,by omega,by go_num,HZ⟩
    case measure=>simp[intOf];omega
   ·have HZ:=hide (HX.out (decide_eq_false (by omega)))
    rw[decide_eq_false q1] at HC
    have z1:(c:Int)<48:=by omega
    have z2:((c:Int) !=46)=true:=by rw[bne_iff_ne];omega
    clear HX HY H0 q1 q2 q3 HJ
    go_wp2_with fail
    refine(HC.out _).mono ?_
    rintro e w1 ⟨rfl,rfl⟩
    go_wp2_with fail
    go_ret
    exact⟨by rw[HZ.out];rfl,HB.out⟩
   ·have HZ:=hide (HX.out (decide_eq_false (by omega)))
    rw[decide_eq_false q1] at HC
    have z1: ¬(c:Int)<48:=by omega
    have z2:57<(c:Int):=by omega
    have z3:((c:Int) !=46)=true:=by rw[bne_iff_ne];omega
    clear HX HY H0 q1 q2 q3 HJ
    go_wp2_with fail
    refine(HC.out _).mono ?_
    rintro e w1 ⟨rfl,rfl⟩
    go_wp2_with fail
    go_ret
    exact⟨by rw[HZ.out];rfl,HB.out⟩
  ·have HZ:Hid (F=true):=HD.out true ⟨fun _ k hk=>HJ.out k (by omega),fun _=>rfl⟩
   obtain rfl:j=s.size:=by omega
   clear HJ HD
   go_wp2_with fail
   go_ret
   exact⟨by rw[HZ.out];rfl,HB.out⟩
end
section
open Go.RowKit
variable {S:List UInt8} {x:Ins} {k:Nat} {l:List Ins}
theorem mostOf_pos(c:Nat):0<mostOf c:=by
 unfold mostOf
 repeat' split
 all_goals omega
theorem limOf_zero:limOf S k=0↔nums S<=k:=by
 unfold limOf
 have:=mostOf_pos (byteAt ⟨S.toArray⟩ k)
 split <;> constructor <;> intro h <;> omega
theorem limOf_pos:0<limOf S k↔k<nums S:=by
 unfold limOf
 have:=mostOf_pos (byteAt ⟨S.toArray⟩ k)
 split <;> constructor <;> intro h <;> omega
theorem limOf_lt(h:k<nums S):limOf S k=mostOf (byteAt ⟨S.toArray⟩ k):=if_pos h
theorem size_mk(S:List UInt8):(⟨S.toArray⟩:ByteArray).size=S.length:=by simp[ByteArray.size]
def fitsP(S:List UInt8)(x:Ins):Prop:=(limOf S 0=0->x.a=0)/\(limOf S 1=0->x.b=0)/\(limOf S 2=0->x.c=0)/\(hasTo S=false->x.to.toList=[])
def withinP(S:List UInt8)(x:Ins):Prop:=(0<limOf S 0->0<=x.a/\x.a<limOf S 0)/\(0<limOf S 1->0<=x.b/\x.b<limOf S 1)/\(0<limOf S 2->0<=x.c/\x.c<limOf S 2)
theorem fitsP_iff(x:Ins):fitsP S x↔ ¬(hasTo S=false/\ ¬x.to.toList=[])/\ ¬ ∃k,nums S<=k/\k<3/\x.n k≠0:=by
 unfold fitsP
 simp only[limOf_zero]
 constructor
 ·rintro⟨h0,h1,h2,ht⟩
  refine⟨fun⟨a,b⟩=>b (ht a),fun⟨k,k1,k2,k3⟩=>k3 ?_⟩
  match k,k2 with
  |0,_=>exact h0 k1
  |1,_=>exact h1 k1
  |2,_=>exact h2 k1
 ·rintro⟨ht,hk⟩
  have hk': ∀k,nums S<=k->k<3->x.n k=0:=fun k a b=>Decidable.byContradiction fun c=>hk ⟨k,a,b,c⟩
  exact⟨fun h=>hk' 0 h (by omega),fun h=>hk' 1 h (by omega),fun h=>hk' 2 h (by omega),fun h=>Decidable.byContradiction fun c=>ht ⟨h,c⟩⟩
theorem withinP_iff (h3:nums S<=3) (x:Ins):withinP S x↔ ¬ ∃k,k<nums S/\ ¬(0<=x.n k/\x.n k<mostOf (byteAt ⟨S.toArray⟩ k)):=by
 unfold withinP
 simp only[limOf_pos]
 constructor
 ·rintro⟨h0,h1,h2⟩ ⟨k,k1,k2⟩
  apply k2
  have k3:k<3:=by omega
  rw[<-limOf_lt k1]
  match k,k3 with
  |0,_=>exact h0 k1
  |1,_=>exact h1 k1
  |2,_=>exact h2 k1
 ·intro hk
  have hk': ∀k,k<nums S->(0<=x.n k/\x.n k<limOf S k):=fun k a=>by
   rw[limOf_lt a]
   exact Decidable.byContradiction fun c=>hk ⟨k,a,c⟩
  exact⟨hk' 0,hk' 1,hk' 2⟩
theorem insErr_none(h:shape x.op.toList=none):insErr x=3:=by unfold insErr;rw[h]
theorem insErr_some(h:shape x.op.toList=some S):insErr x=insBad x ⟨S.toArray⟩:=by unfold insErr;rw[h]
theorem insErr_fits(h:shape x.op.toList=some S)(hf: ¬fitsP S x):insErr x=3:=by
 obtain⟨⟨_,h3⟩,_⟩:=table_facts _ (shape_mem h)
 dsimp only at h3
 rw[fitsP_iff] at hf
 rw[insErr_some h]
 unfold insBad
 rw[size_mk]
 by_cases h1:hasTo S=false/\ ¬x.to.toList=[]
 ·rw[if_pos h1]
 ·by_cases h2: ∃k,nums S<=k/\k<3/\x.n k≠0
  ·rw[if_neg h1,if_pos h2]
  ·exact absurd ⟨h1,h2⟩ hf
theorem insErr_within(h:shape x.op.toList=some S)(hf:fitsP S x)(hw: ¬withinP S x):insErr x=2:=by
 obtain⟨⟨_,h3⟩,_⟩:=table_facts _ (shape_mem h)
 dsimp only at h3
 rw[fitsP_iff] at hf
 rw[withinP_iff h3,Classical.not_not] at hw
 rw[insErr_some h]
 unfold insBad
 rw[size_mk,if_neg hf.1,if_neg hf.2,if_pos hw]
open Classical in
theorem insErr_ok(h:shape x.op.toList=some S)(hf:fitsP S x)(hw:withinP S x):insErr x=if hasTo S=true/\ ¬isName x.to then 4 else 0:=by
 obtain⟨⟨_,h3⟩,_⟩:=table_facts _ (shape_mem h)
 dsimp only at h3
 rw[fitsP_iff] at hf
 rw[withinP_iff h3] at hw
 rw[insErr_some h]
 unfold insBad
 rw[size_mk,if_neg hf.1,if_neg hf.2,if_neg hw]
theorem label_shape{op S:List UInt8}(h:shape op=some S)(h1:hasTo S=false):(op==[108,97,98,101,108])=false:=by
 have:=(by decide+kernel: ∀p∈table,hasTo p.2=false->(p.1==[108,97,98,101,108])=false)
 exact this _ (shape_mem h) h1
open Classical in
theorem insFault_some {i:Nat} (h:shape x.op.toList=some S):insFault l i x=
  if ¬fitsP S x then 3 else if ¬withinP S x then 2 else if hasTo S=false then 0 else if ¬isName x.to then 4
  else if(x.op.toList==[108,97,98,101,108])=true/\labelAt l x.to≠i then 4 else if labelAt l x.to<0 then 5 else 0:=by
 by_cases hf:fitsP S x
 ·rw [if_neg (fun h=>h hf)]
  by_cases hw:withinP S x
  ·rw [if_neg (fun h=>h hw)]
   have hE:=insErr_ok h hf hw
   cases ht:hasTo S with
   | false=>
    rw[if_pos rfl]
    rw[ht,if_neg (fun e=>by cases e.1)] at hE
    unfold insFault
    rw[if_neg (fun e=>e hE),if_neg (fun e=>by rw[label_shape h ht] at e;cases e.1),if_neg]
    rintro⟨e,_⟩
    rw[hf.2.2.2 ht] at e
    cases e
   | true =>
    rw[if_neg (fun e=>by cases e)]
    by_cases hn:isName x.to
    ·rw [if_neg (fun e=>e hn)]
     rw[if_neg (fun e=>e.2 hn)] at hE
     have hto:(x.to.toList==[])=false:=by
      rw[beq_eq_false_iff_ne,toList_bl]
      intro e
      have:=hn.1
      rw[size_bl,e] at this
      cases this
     unfold insFault
     rw[if_neg (fun e=>e hE)]
     by_cases h1:(x.op.toList==[108,97,98,101,108])=true/\labelAt l x.to≠i
     ·rw[if_pos h1,if_pos h1]
     ·rw[if_neg h1,if_neg h1]
      by_cases h2:labelAt l x.to<0
      ·rw[if_pos ⟨hto,h2⟩,if_pos h2]
      ·rw[if_neg (fun e=>h2 e.2),if_neg h2]
    ·rw[if_pos hn]
     rw[ht,if_pos ⟨rfl,hn⟩] at hE
     unfold insFault
     rw[if_pos (by omega),hE]
  ·rw[if_pos hw]
   have:=insErr_within h hf hw
   unfold insFault
   rw[if_pos (by omega),this]
 ·rw[if_pos hf]
  have:=insErr_fits h hf
  unfold insFault
  rw[if_pos (by omega),this]
theorem insFault_none{i:Nat}(h:shape x.op.toList=none):insFault l i x=3:=by
 have:=insErr_none h
 unfold insFault
 rw[if_pos (by omega),this]
end
end Go.Proofs.YtnoigmdmgdcliaaGreatDoor
