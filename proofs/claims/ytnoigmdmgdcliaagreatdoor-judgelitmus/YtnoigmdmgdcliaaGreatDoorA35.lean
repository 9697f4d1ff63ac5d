import Derived.Test.YtnoigmdmgdcliaaGreatDoorA34
import Derived.Test.YtnoigmdmgdcliaaGreatDoorA29
namespace Go.Proofs.YtnoigmdmgdcliaaGreatDoor
set_option maxRecDepth 100000
set_option maxHeartbeats 8000000
section
open Go.RowKit Go.Extern.Stop Go.Stop Go.Extern Go.Maps Go.WideMaps Go.Sort
variable {S:List (Nat×Value)} {fs caps:Array Value} {p:ByteArray} {D:List Ins} {k k':Nat} {b f:Nat} {n:Nat}
def goI(q:ByteArray):Ins:=⟨⟨#[103,111,116,111]⟩,0,0,0,q⟩
def eachD(q qe:ByteArray)(D:List Ins):List Ins:=[⟨⟨#[108,111,97,100]⟩,2,2,1,no⟩,⟨⟨#[122,101,114,111]⟩,2,0,0,qe⟩]++D++[goI q]
theorem each11_any(q qe:ByteArray)(hD:D.length<=50)(hn:Fn.goes n)(hc:Adds n (fs++#[.string q]++caps) b f p k k' S D 600)(x1 x2 x3:Nat):
  Adds 194 #[.string q, .pointer (some ⟨x1,0,none⟩), .pointer (some ⟨x2,0,none⟩), .pointer (some ⟨x3,0,none⟩)] b f p k k' ((x1,mptr b)::(x2, .string qe)::(x3, .func (.func n) fs caps)::S) (eachD q qe D) 500:=by
 intro B w0 v0 L w hq hB hL
 have HB:=hide hB
 have HC:=hide hc
 have HN:=hide hn
 clear hB hc hn
 unfold eachD goI
 generalize (f:Int)=fi at*
 have b1:w.cell? ⟨x1,0,none⟩=some (.pointer (some ⟨b,0,none⟩)):=hq.bx (HB.out _ (.head _))
 go_enter Tryz.func194,Tryz.ntmps194
 go_wp2_with (go_at_call 112;(first |((with_reducible show Calls _ _ #[_,_,Value.slice _ 3 _] _ _);refine(MAt.do3 (by first |exact hq |exact h) (by(try simp only[List.length_append]);(try simp only[List.length_cons]);(try simp only[List.length_nil]);omega) _ _ _ _ _ (by first |rfl |simp)).mono ?_) |((with_reducible show Calls _ _ #[_,_,Value.slice _ 2 _] _ _);refine(MAt.do2 (by first |exact hq |exact h) (by(try simp only[List.length_append]);(try simp only[List.length_cons]);(try simp only[List.length_nil]);omega) _ _ _ _ (by first |rfl |simp)).mono ?_) |((with_reducible show Calls _ _ #[_,_,Value.slice _ 1 _] _ _);refine(MAt.do1 (by first |exact hq |exact h) (by(try simp only[List.length_append]);(try simp only[List.length_cons]);(try simp only[List.length_nil]);omega) _ _ _ (by first |rfl |simp)).mono ?_) |((with_reducible show Calls _ _ #[_,_,Value.slice _ 0 _] _ _);refine(MAt.do_none (by first |exact hq |exact h) (by(try simp only[List.length_append]);(try simp only[List.length_cons]);(try simp only[List.length_nil]);omega) _).mono ?_));rintro e wq ⟨rfl,hq⟩)
 have hq:=hq.below (below_dN bRf 1)
 refine wp_region_F (S:=(fun w'=>w'.cell? ⟨x1,0,none⟩=some (.pointer (some ⟨b,0,none⟩))/\w'.cell? ⟨x2,0,none⟩=some (.string qe))) (by kernel_rfl) ⟨hq.bx (HB.out _ (.head _)),hq.bx (HB.out _ (.tail _ (.head _)))⟩ (fun hHeld=>?_)
 change MAt _ _ _ _ _ _ _ _ (World.drew wq) at hq
 generalize World.drew wq=wd at*
 iterate 4
  refine' wpAnyF_next (sz:=6) (n:=5) (v:=_) rfl (by kernel_rfl) (fun _ _ _ h=>h) (by assumption) (Or.inl ⟨by rfl,?_⟩) ?_
  case' refine'_2=>(intro w' hSw;(try dsimp only at hSw);go_simp;try with_reducible rfl)
  try simp only[Act.put,fxs]
 refine wpAnyF_only (i:=4) rfl (by kernel_rfl) (fun K hK=>?_)
 go_simp
 refine hK.out _ _ (Or.inr ⟨keep_cell (bRf.alloc nL _) hHeld.1,keep_cell (bRf.alloc nL _) hHeld.2⟩) ?_
 clear hK K
 try simp only[Act.put,fxs]
 refine wpAnyF_only (i:=5) rfl (by kernel_rfl) (fun K hK=>?_)
 go_simp
 go_at_call 181
 (first |((with_reducible show Calls _ _ #[_,_,_,Value.slice _ 3 _] _ _);refine(MAt.to3 (by first |exact hq |exact h) (by(try simp only[List.length_append]);(try simp only[List.length_cons]);(try simp only[List.length_nil]);omega) _ _ _ _ _ _ (by first |rfl |simp)).mono ?_) |((with_reducible show Calls _ _ #[_,_,_,Value.slice _ 2 _] _ _);refine(MAt.to2 (by first |exact hq |exact h) (by(try simp only[List.length_append]);(try simp only[List.length_cons]);(try simp only[List.length_nil]);omega) _ _ _ _ _ (by first |rfl |simp)).mono ?_) |((with_reducible show Calls _ _ #[_,_,_,Value.slice _ 1 _] _ _);refine(MAt.to1 (by first |exact hq |exact h) (by(try simp only[List.length_append]);(try simp only[List.length_cons]);(try simp only[List.length_nil]);omega) _ _ _ _ (by first |rfl |simp)).mono ?_) |((with_reducible show Calls _ _ #[_,_,_,Value.slice _ 0 _] _ _);refine(MAt.to_none (by first |exact hq |exact h) (by(try simp only[List.length_append]);(try simp only[List.length_cons]);(try simp only[List.length_nil]);omega) _ _).mono ?_))
 rintro e wq ⟨rfl,hq⟩
 dsimp only
 refine hK.out _ _ (Or.inl (by kernel_rfl)) ?_
 clear hK K hHeld
 try simp only[Act.put,fxs]
 refine wpAnyF_done (by kernel_rfl) ?_ _
 have b3:wq.cell? ⟨x3,0,none⟩=some (.func (.func n) fs caps):=hq.bx (HB.out _ (.tail _ (.tail _ (.head _))))
 go_wp2_with fail
 rw[HN.out,Oper.upon_enter]
 refine(HC.out _ w0 v0 _ _ hq (fun x hx=>HB.out x (.tail _ (.tail _ (.tail _ hx)))) (by(try simp only[List.length_append]);(try simp only[List.length_cons]);(try simp only[List.length_nil]);omega)).mono ?_
 rintro e wq ⟨rfl,hq⟩
 have b1:wq.cell? ⟨x1,0,none⟩=some (.pointer (some ⟨b,0,none⟩)):=hq.bx (HB.out _ (.head _))
 dsimp only
 go_wp2_with (go_at_call 181;(first |((with_reducible show Calls _ _ #[_,_,_,Value.slice _ 3 _] _ _);refine(MAt.to3 (by first |exact hq |exact h) (by(try simp only[List.length_append]);(try simp only[List.length_cons]);(try simp only[List.length_nil]);omega) _ _ _ _ _ _ (by first |rfl |simp)).mono ?_) |((with_reducible show Calls _ _ #[_,_,_,Value.slice _ 2 _] _ _);refine(MAt.to2 (by first |exact hq |exact h) (by(try simp only[List.length_append]);(try simp only[List.length_cons]);(try simp only[List.length_nil]);omega) _ _ _ _ _ (by first |rfl |simp)).mono ?_) |((with_reducible show Calls _ _ #[_,_,_,Value.slice _ 1 _] _ _);refine(MAt.to1 (by first |exact hq |exact h) (by(try simp only[List.length_append]);(try simp only[List.length_cons]);(try simp only[List.length_nil]);omega) _ _ _ _ (by first |rfl |simp)).mono ?_) |((with_reducible show Calls _ _ #[_,_,_,Value.slice _ 0 _] _ _);refine(MAt.to_none (by first |exact hq |exact h) (by(try simp only[List.length_append]);(try simp only[List.length_cons]);(try simp only[List.length_nil]);omega) _ _).mono ?_));rintro e wq ⟨rfl,hq⟩)
 go_end0
 refine⟨rfl,?_⟩
 simp only[List.append_assoc,List.cons_append,List.nil_append] at hq ⊢
 exact hq
theorem each1_any(hk:k+1<=9)(hp:p.size<=1000)(q:ByteArray)(hD:D.length<=50)(hn:Fn.goes n)(hc:Adds n (fs++#[.string (lb p (k+1))]++caps) b f p (k+1) k' S D 600)(x1 x2:Nat):
  Adds 193 #[.string q, .pointer (some ⟨x1,0,none⟩), .pointer (some ⟨x2,0,none⟩)] b f p k k' ((x1,mptr b)::(x2, .func (.func n) fs caps)::S) (⟨⟨#[109,111,118,101]⟩,2,7,0,no⟩::lblI (lb p (k+1))::eachD (lb p (k+1)) q D) 450:=by
 intro B w0 v0 L w h hB hL
 have hmf: ∀(fn:Fn) (first cap:Array Value) (w:World),(Instr.makeFunc fn first cap).run Tryz.prog w= .ok (.func fn first cap) w:=fun _ _ _ _=>rfl
 have HG:Hid (Fn.goes 194):=hide fun _ _=>rfl
 have HI:Hid (∀x3,Adds 194 (#[.string (lb p (k+1))]++#[.pointer (some ⟨x1,0,none⟩), .pointer (some ⟨x3,0,none⟩), .pointer (some ⟨x2,0,none⟩)]) b f p (k+1) k' ((x1,mptr b)::(x3, .string q)::(x2, .func (.func n) fs caps)::S) (eachD (lb p (k+1)) q D) 500):=hide fun x3=>each11_any _ _ hD hn hc x1 x3 x2
 have hq:=h.box (.string q) 9
 have HB:Hid (∀x∈(x1,mptr b)::(w.heap.size,Value.string q)::(x2, .func (.func n) fs caps)::S,x∈(w.heap.size,Value.string q)::B):=hide fun x hx=>by
  rcases List.mem_cons.1 hx with rfl |hx
  ·exact .tail _ (hB _ (.head _))
  rcases List.mem_cons.1 hx with rfl |hx
  ·exact .head _
  ·exact .tail _ (hB x (.tail _ hx))
 have b1:(w.alloc (.cells #[.string q] 9)).cell? ⟨x1,0,none⟩=some (.pointer (some ⟨b,0,none⟩)):=hq.bx (HB.out _ (.head _))
 clear h hB hc hn
 generalize eachD (lb p (k+1)) q D=DD at*
 generalize (f:Int)=fi at*
 go_enter Tryz.func193,Tryz.ntmps193
 go_wp2_with (first
  |(go_at_call 112;(first |((with_reducible show Calls _ _ #[_,_,Value.slice _ 3 _] _ _);refine(MAt.do3 (by first |exact hq |exact h) (by(try simp only[List.length_append]);(try simp only[List.length_cons]);(try simp only[List.length_nil]);omega) _ _ _ _ _ (by first |rfl |simp)).mono ?_) |((with_reducible show Calls _ _ #[_,_,Value.slice _ 2 _] _ _);refine(MAt.do2 (by first |exact hq |exact h) (by(try simp only[List.length_append]);(try simp only[List.length_cons]);(try simp only[List.length_nil]);omega) _ _ _ _ (by first |rfl |simp)).mono ?_) |((with_reducible show Calls _ _ #[_,_,Value.slice _ 1 _] _ _);refine(MAt.do1 (by first |exact hq |exact h) (by(try simp only[List.length_append]);(try simp only[List.length_cons]);(try simp only[List.length_nil]);omega) _ _ _ (by first |rfl |simp)).mono ?_) |((with_reducible show Calls _ _ #[_,_,Value.slice _ 0 _] _ _);refine(MAt.do_none (by first |exact hq |exact h) (by(try simp only[List.length_append]);(try simp only[List.length_cons]);(try simp only[List.length_nil]);omega) _).mono ?_));rintro e wq ⟨rfl,hq⟩;have b1:wq.cell? ⟨x1,0,none⟩=some (.pointer (some ⟨b,0,none⟩)):=hq.bx (HB.out _ (.head _)))
  |(go_at_call 189;refine(MAt.loop (k':=k') hq hk hp DD _ HG.out _ (by(try simp only[List.length_append]);(try simp only[List.length_cons]);(try simp only[List.length_nil]);omega) (fun w1 w2 v2 h1=>HI.out _ _ w2 v2 _ w1 h1 HB.out (by(try simp only[List.length_append]);(try simp only[List.length_cons]);(try simp only[List.length_nil]);omega))).mono ?_;rintro e wq ⟨rfl,hq⟩))
 go_end0
 refine⟨rfl,?_⟩
 have h4:=hq.drop (B':=B) fun x hx=> .tail _ hx
 simp only[List.append_assoc,List.cons_append,List.nil_append] at h4 ⊢
 exact h4
theorem each_any (hk:k+2<=9) (hp:p.size<=1000) (hD:D.length<=50) (hn:Fn.goes n) (hc:Adds n (fs++#[.string (lb p (k+2))]++caps) b f p (k+2) k' S D 600):
  Adds 129 #[.pointer (some ⟨b,0,none⟩), .func (.func n) fs caps] b f p k k' S ((⟨⟨#[109,111,118,101]⟩,2,7,0,no⟩::lblI (lb p (k+2))::eachD (lb p (k+2)) (lb p (k+1)) D)++[lblI (lb p (k+1))]) 400:=by
 intro B w0 v0 L w h hB hL
 have hmf: ∀(fn:Fn) (first cap:Array Value) (w:World),(Instr.makeFunc fn first cap).run Tryz.prog w= .ok (.func fn first cap) w:=fun _ _ _ _=>rfl
 have HG:Hid (Fn.goes 193):=hide fun _ _=>rfl
 have HI:Hid (∀x1 x2,Adds 193 (#[.string (lb p (k+1))]++#[.pointer (some ⟨x1,0,none⟩), .pointer (some ⟨x2,0,none⟩)]) b f p (k+1) k' ((x1,mptr b)::(x2, .func (.func n) fs caps)::S) (⟨⟨#[109,111,118,101]⟩,2,7,0,no⟩::lblI (lb p (k+2))::eachD (lb p (k+2)) (lb p (k+1)) D) 450):=hide fun x1 x2=>each1_any hk hp _ hD hn hc x1 x2
 have h1:=h.box (mptr b) 212
 have h2:=h1.box (.func (.func n) fs caps) 220
 simp only[World.size_alloc] at h2
 have HH:=hide h2
 have HB:=hide hB
 have hl:(⟨⟨#[109,111,118,101]⟩,2,7,0,no⟩::lblI (lb p (k+2))::eachD (lb p (k+2)) (lb p (k+1)) D:List Ins).length<=60:=by
  unfold eachD
  simp only[List.length_append,List.length_cons,List.length_nil]
  omega
 clear hc hn h h1 h2 hB
 generalize (⟨⟨#[109,111,118,101]⟩,2,7,0,no⟩::lblI (lb p (k+2))::eachD (lb p (k+2)) (lb p (k+1)) D:List Ins)=DD at*
 generalize (f:Int)=fi at*
 go_enter Tryz.func129,Tryz.ntmps129
 go_wp2_with (go_at_call 179;refine(MAt.block (k':=k') HH.out (by omega) hp DD _ HG.out _ (by(try simp only[List.length_append]);(try simp only[List.length_cons]);(try simp only[List.length_nil]);omega) (fun w1 w2 v2 h1=>HI.out _ _ _ w2 v2 _ w1 h1 (fun x hx=>by
   rcases List.mem_cons.1 hx with rfl |hx
   ·exact .tail _ (.head _)
   rcases List.mem_cons.1 hx with rfl |hx
   ·exact .head _
   ·exact .tail _ (.tail _ (HB.out x hx))) (by(try simp only[List.length_append]);(try simp only[List.length_cons]);(try simp only[List.length_nil]);omega))).mono ?_;rintro e wq ⟨rfl,hq⟩)
 go_end0
 exact⟨rfl,hq.drop fun x hx=> .tail _ (.tail _ hx)⟩
end
section
open Go.RowKit Go.Extern.Stop Go.Stop Go.Extern Go.Maps Go.WideMaps Go.Sort
def fenceO(f:Nat):ByteArray:=if f=2 then⟨#[102,111,114,99,101]⟩ else⟨#[102,101,110,99,101]⟩
theorem fence_any(f:Nat)(w:World):Calls Tryz.prog 128 #[.int .i64 f] w fun e w'=>e= .returned (.string (fenceO f))/\w'=w:=by
 have HF:=hide (forces_any (f:Int) w)
 unfold fenceO
 by_cases hf:f=2
 ·rw[if_pos hf]
  rw[show decide ((f:Int)=2)=true from decide_eq_true (by omega)] at HF
  clear hf
  generalize (f:Int)=fi at*
  go_enter Tryz.func128,Tryz.ntmps128
  go_wp2_with (go_at_call 182;refine HF.out.mono ?_;rintro e wq ⟨rfl,rfl⟩)
  go_ret
  exact⟨rfl,rfl⟩
 ·rw[if_neg hf]
  rw[show decide ((f:Int)=2)=false from decide_eq_false (by omega)] at HF
  clear hf
  generalize (f:Int)=fi at*
  go_enter Tryz.func128,Tryz.ntmps128
  go_wp2_with (go_at_call 182;refine HF.out.mono ?_;rintro e wq ⟨rfl,rfl⟩)
  go_ret
  exact⟨rfl,rfl⟩
def waitD(f:Nat)(p:ByteArray)(k:Nat):List Ins:=⟨fenceO f,0,0,0,no⟩::((⟨⟨#[109,111,118,101]⟩,2,7,0,no⟩::lblI (lb p (k+2))::eachD (lb p (k+2)) (lb p (k+1)) (outD f p (k+2) (lb p (k+2))))++[lblI (lb p (k+1))])
theorem wait11_any {b f:Nat} {p:ByteArray} {k:Nat} (hk:k+3<=9) (hp:p.size<=1000) (x1:Nat):
  Adds 127 #[.pointer (some ⟨x1,0,none⟩)] b f p k (k+3) [(x1,mptr b)] (waitD f p k) 350:=by
 intro B w0 v0 L w hq hB hL
 have hmf: ∀(fn:Fn) (first cap:Array Value) (w:World),(Instr.makeFunc fn first cap).run Tryz.prog w= .ok (.func fn first cap) w:=fun _ _ _ _=>rfl
 have HB:=hide hB
 have HE:Hid (Adds 129 #[.pointer (some ⟨b,0,none⟩), .func (.func 130) #[.pointer (some ⟨b,0,none⟩)] #[]] b f p k (k+3) [] ((⟨⟨#[109,111,118,101]⟩,2,7,0,no⟩::lblI (lb p (k+2))::eachD (lb p (k+2)) (lb p (k+1)) (outD f p (k+2) (lb p (k+2))))++[lblI (lb p (k+1))]) 400):=hide (each_any (k':=k+3) (by omega) hp (by
   unfold outD renD outlD gCode
   split <;> split <;> simp only[List.length_append,List.length_cons,List.length_nil,List.length_map] <;> omega) (fun _ _=>rfl) (outlast_any (k:=k+2) (by omega) hp (lb p (k+2))))
 have HF:=hide (fence_any f)
 unfold waitD
 clear hB
 generalize fenceO f=fo at*
 generalize (⟨⟨#[109,111,118,101]⟩,2,7,0,no⟩::lblI (lb p (k+2))::eachD (lb p (k+2)) (lb p (k+1)) (outD f p (k+2) (lb p (k+2))))++[lblI (lb p (k+1))]=DD at*
 generalize (f:Int)=fi at*
 go_enter Tryz.func127,Tryz.ntmps127
 go_wp2_with fail
 have hq:=hq.below (below_dN bRf 1)
 refine wp_region_F (S:=(fun w'=>w'.cell? ⟨x1,0,none⟩=some (.pointer (some ⟨b,0,none⟩))/\w'.cell? ⟨b,0,none⟩=some (.int .i64 fi))) (by kernel_rfl) ⟨hq.bx (HB.out _ (.head _)),hq.c0⟩ (fun hHeld=>?_)
 change MAt _ _ _ _ _ _ _ _ (World.drew w) at hq
 generalize World.drew w=wd at*
 iterate 7
  refine' wpAnyF_next (sz:=9) (n:=8) (v:=_) rfl (by kernel_rfl) (fun _ _ _ h=>h) (by assumption) (Or.inl ⟨by rfl,?_⟩) ?_
  case' refine'_2=>(intro w' hSw;(try dsimp only at hSw);go_simp;try with_reducible rfl)
  try simp only[Act.put,fxs]
 refine wpAnyF_only (i:=7) rfl (by kernel_rfl) (fun K hK=>?_)
 go_simp
 go_at_call 128
 refine(HF.out _).mono ?_
 rintro e wz ⟨rfl,rfl⟩
 dsimp only
 refine hK.out _ _ (Or.inr hHeld) ?_
 clear hK K
 try simp only[Act.put,fxs]
 refine wpAnyF_only (i:=8) rfl (by kernel_rfl) (fun K hK=>?_)
 go_simp
 go_at_call 112
 (first |((with_reducible show Calls _ _ #[_,_,Value.slice _ 3 _] _ _);refine(MAt.do3 (by first |exact hq |exact h) (by(try simp only[List.length_append]);(try simp only[List.length_cons]);(try simp only[List.length_nil]);omega) _ _ _ _ _ (by first |rfl |simp)).mono ?_) |((with_reducible show Calls _ _ #[_,_,Value.slice _ 2 _] _ _);refine(MAt.do2 (by first |exact hq |exact h) (by(try simp only[List.length_append]);(try simp only[List.length_cons]);(try simp only[List.length_nil]);omega) _ _ _ _ (by first |rfl |simp)).mono ?_) |((with_reducible show Calls _ _ #[_,_,Value.slice _ 1 _] _ _);refine(MAt.do1 (by first |exact hq |exact h) (by(try simp only[List.length_append]);(try simp only[List.length_cons]);(try simp only[List.length_nil]);omega) _ _ _ (by first |rfl |simp)).mono ?_) |((with_reducible show Calls _ _ #[_,_,Value.slice _ 0 _] _ _);refine(MAt.do_none (by first |exact hq |exact h) (by(try simp only[List.length_append]);(try simp only[List.length_cons]);(try simp only[List.length_nil]);omega) _).mono ?_))
 rintro e wq ⟨rfl,hq⟩
 dsimp only
 refine hK.out _ _ (Or.inl (by kernel_rfl)) ?_
 clear hK K hHeld
 try simp only[Act.put,fxs]
 refine wpAnyF_done (by kernel_rfl) ?_ _
 have b1:wq.cell? ⟨x1,0,none⟩=some (.pointer (some ⟨b,0,none⟩)):=hq.bx (HB.out _ (.head _))
 go_wp2_with (go_at_call 129;refine(HE.out _ w0 v0 _ _ hq (fun x hx=>absurd hx List.not_mem_nil) (by(try simp only[List.length_append]);(try simp only[List.length_cons]);(try simp only[List.length_nil]);omega)).mono ?_;rintro e wq ⟨rfl,hq⟩)
 go_end0
 refine⟨rfl,?_⟩
 simp only[List.append_assoc,List.cons_append,List.nil_append] at hq
 exact hq
end
section
open Go.RowKit Go.Extern.Stop Go.Stop Go.Extern Go.Maps Go.WideMaps Go.Sort
variable {p:ByteArray} {b f:Nat}
theorem wait1_by {k k':Nat} {D:List Ins} {N:Nat} (ha: ∀x1,Adds 126 #[.pointer (some ⟨b,0,none⟩), .func (.func 127) #[] #[.pointer (some ⟨x1,0,none⟩)]] b f p k k' [(x1,mptr b)] D N):
  Adds 125 #[.pointer (some ⟨b,0,none⟩)] b f p k k' [] D N:=by
 intro B w0 v0 L w h hB hL
 have hmf: ∀(fn:Fn) (first cap:Array Value) (w:World),(Instr.makeFunc fn first cap).run Tryz.prog w= .ok (.func fn first cap) w:=fun _ _ _ _=>rfl
 have HO:=hide ha
 have HH:=hide (h.box (mptr b) 212)
 clear ha h hB
 generalize (f:Int)=fi at*
 go_enter Tryz.func125,Tryz.ntmps125
 go_wp2_with (go_at_call 126;refine(HO.out w.heap.size _ w0 v0 _ _ HH.out (fun x hx=>by
    simp only[List.mem_cons,List.not_mem_nil,or_false] at hx
    subst hx
    exact .head _) hL).mono ?_;rintro e wq ⟨rfl,hq⟩)
 go_end0
 exact⟨rfl,hq.drop fun x hx=> .tail _ hx⟩
theorem wait1_plain{k:Nat}(hf:f≠3)(hk:k+3<=9)(hp:p.size<=1000):Adds 125 #[.pointer (some ⟨b,0,none⟩)] b f p k (k+3) [] (waitD f p k) 350:=
 wait1_by fun x1=>away_plain hf (fun _ _=>rfl) (wait11_any hk hp x1)
theorem waitD_len(f:Nat)(p:ByteArray)(k:Nat):(waitD f p k).length<=100:=by
 unfold waitD eachD outD renD outlD gCode
 split <;> split <;> simp only[List.length_append,List.length_cons,List.length_nil,List.length_map] <;> omega
theorem wait1_counts{k:Nat}(hf:f=3)(hk:k+5<=9)(hp:p.size<=1000):Adds 125 #[.pointer (some ⟨b,0,none⟩)] b f p k (k+5) [] ((⟨⟨#[122,101,114,111]⟩,6,0,0,lb p (k+1)⟩::(away1D++[lblI (lb p (k+1))]))++waitD f p (k+1)++(⟨⟨#[122,101,114,111]⟩,6,0,0,lb p (k+5)⟩::(away2D (lb p (k+5))++[lblI (lb p (k+5))]))) 300:=
 wait1_by fun x1=>away_counts (k':=k+4) hf (by omega) (by omega) hp (waitD_len f p (k+1)) (fun _ _=>rfl) (wait11_any (k:=k+1) (by omega) hp x1)
end
section
open Go.RowKit Go.Extern.Stop Go.Stop Go.Extern Go.Maps Go.WideMaps Go.Sort
variable {l:List Ins} {w:World} {base:Nat} {v:Value}
theorem insOwn_mono{base base':Nat}(h:insOwn w base v l)(hb:base'<=base):insOwn w base' v l:=by
 obtain⟨h1,h2⟩:=h
 refine⟨h1,?_⟩
 rcases h2 with h2 |⟨g,cap,cur,e,hg,r⟩
 ·exact .inl h2
 ·exact .inr ⟨g,cap,cur,e,Nat.le_trans hb hg,r⟩
theorem insOwn_open(h:insOwn w base v l)(h1:0<l.length): ∃ad cap,v= .slice (some ad) l.length cap/\insAt (some ad) l w:=by
 obtain⟨ad,cap,rfl,h2,h3,h4⟩:=insAt_of_icells h
 obtain⟨y,hy⟩: ∃y,l[0]? =some y:=⟨_,List.getElem?_eq_getElem h1⟩
 obtain⟨b,off,rfl, -⟩:=h4 0 y hy
 exact⟨_,cap,rfl,h4⟩
theorem insOwn_new{cs:Array Value}(h:cs.toList=icells l)(hb:base<=w.heap.size)(hl:l.length<=1000):insOwn (w.alloc (.cells cs 57)) base (.slice (some ⟨w.heap.size,0,none⟩) l.length l.length) l:=by
 refine⟨icells_len l, .inr ⟨w.heap.size,l.length,cs,rfl,hb,heap_new w _,Nat.le_refl _,by unfold maxLen;omega,?_,?_⟩⟩
 ·rw[<-Array.length_toList,h,icells_len]
 ·rw[h, <-icells_len l,List.take_length]
end
end Go.Proofs.YtnoigmdmgdcliaaGreatDoor
