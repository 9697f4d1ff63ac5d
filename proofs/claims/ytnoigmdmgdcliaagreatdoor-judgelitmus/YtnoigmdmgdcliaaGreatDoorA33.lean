import Derived.Test.YtnoigmdmgdcliaaGreatDoorA32
namespace Go.Proofs.YtnoigmdmgdcliaaGreatDoor
set_option maxRecDepth 100000
set_option maxHeartbeats 8000000
section
open Go.RowKit Go.Extern.Stop Go.Stop Go.Extern Go.Maps Go.WideMaps Go.Sort
theorem outer11_any {b f:Nat} {p:ByteArray} {k:Nat} (q q2 op:ByteArray) (word:Nat) (x1 x2 x3 x4:Nat):
  Adds 187 #[.string q, .pointer (some ⟨x1,0,none⟩), .pointer (some ⟨x2,0,none⟩), .pointer (some ⟨x3,0,none⟩), .pointer (some ⟨x4,0,none⟩)] b f p k k [(x1,mptr b),(x2, .int .i64 word),(x3, .string op),(x4, .string q2)]
   [⟨⟨#[108,111,97,100]⟩,0,6,word,no⟩,⟨⟨#[122,101,114,111]⟩,0,0,0,q⟩,⟨⟨#[108,111,97,100]⟩,0,6,2,no⟩,⟨⟨#[99,111,110,115,116]⟩,1,1,0,no⟩,⟨op,0,0,1,no⟩,⟨⟨#[115,116,111,114,101]⟩,6,0,2,no⟩,⟨⟨#[103,111,116,111]⟩,0,0,0,q2⟩] 800:=by
 intro B w0 v0 L w hq hB hL
 have HB:=hide hB
 clear hB
 generalize (f:Int)=fi at*
 generalize (word:Int)=wi at*
 go_enter Tryz.func187,Tryz.ntmps187
 go_wp2_with fail
 have hq:=hq.below (below_dN bRf 1)
 refine wp_region_F (S:=(fun w'=>w'.cell? ⟨x1,0,none⟩=some (.pointer (some ⟨b,0,none⟩))/\w'.cell? ⟨x2,0,none⟩=some (.int .i64 wi))) (by kernel_rfl) ⟨hq.bx (HB.out _ (.head _)),hq.bx (HB.out _ (.tail _ (.head _)))⟩ (fun hHeld=>?_)
 change MAt _ _ _ _ _ _ _ _ (World.drew w) at hq
 generalize World.drew w=wd at*
 iterate 4
  refine' wpAnyF_next (sz:=6) (n:=5) (v:=_) rfl (by kernel_rfl) (fun _ _ _ h=>h) (by assumption) (Or.inl ⟨by rfl,?_⟩) ?_
  case' refine'_2=>(intro w' hSw;(try dsimp only at hSw);go_simp;try with_reducible rfl)
  try simp only[Act.put,fxs]
 refine wpAnyF_only (i:=4) rfl (by kernel_rfl) (fun K hK=>?_)
 go_simp
 refine hK.out _ _ (Or.inr ⟨keep_cell (bRf.alloc nL _) hHeld.1,keep_cell (bRf.alloc nL _) hHeld.2⟩) ?_
 clear hK K
 try simp only[Act.put,fxs]
 refine wpAnyF_only (i:=5) rfl (by kernel_rfl) (fun K hK=>?_)
 go_simp
 go_at_call 112
 (first |((with_reducible show Calls _ _ #[_,_,Value.slice _ 3 _] _ _);refine(MAt.do3 (by first |exact hq |exact h) (by(try simp only[List.length_append]);(try simp only[List.length_cons]);(try simp only[List.length_nil]);omega) _ _ _ _ _ (by first |rfl |simp)).mono ?_) |((with_reducible show Calls _ _ #[_,_,Value.slice _ 2 _] _ _);refine(MAt.do2 (by first |exact hq |exact h) (by(try simp only[List.length_append]);(try simp only[List.length_cons]);(try simp only[List.length_nil]);omega) _ _ _ _ (by first |rfl |simp)).mono ?_) |((with_reducible show Calls _ _ #[_,_,Value.slice _ 1 _] _ _);refine(MAt.do1 (by first |exact hq |exact h) (by(try simp only[List.length_append]);(try simp only[List.length_cons]);(try simp only[List.length_nil]);omega) _ _ _ (by first |rfl |simp)).mono ?_) |((with_reducible show Calls _ _ #[_,_,Value.slice _ 0 _] _ _);refine(MAt.do_none (by first |exact hq |exact h) (by(try simp only[List.length_append]);(try simp only[List.length_cons]);(try simp only[List.length_nil]);omega) _).mono ?_))
 rintro e wq ⟨rfl,hq⟩
 dsimp only
 refine hK.out _ _ (Or.inl (by kernel_rfl)) ?_
 clear hK K hHeld
 try simp only[Act.put,fxs]
 refine wpAnyF_done (by kernel_rfl) ?_ _
 have b1:wq.cell? ⟨x1,0,none⟩=some (.pointer (some ⟨b,0,none⟩)):=hq.bx (HB.out _ (.head _))
 go_wp2_with (first
  |(go_at_call 181;(first |((with_reducible show Calls _ _ #[_,_,_,Value.slice _ 3 _] _ _);refine(MAt.to3 (by first |exact hq |exact h) (by(try simp only[List.length_append]);(try simp only[List.length_cons]);(try simp only[List.length_nil]);omega) _ _ _ _ _ _ (by first |rfl |simp)).mono ?_) |((with_reducible show Calls _ _ #[_,_,_,Value.slice _ 2 _] _ _);refine(MAt.to2 (by first |exact hq |exact h) (by(try simp only[List.length_append]);(try simp only[List.length_cons]);(try simp only[List.length_nil]);omega) _ _ _ _ _ (by first |rfl |simp)).mono ?_) |((with_reducible show Calls _ _ #[_,_,_,Value.slice _ 1 _] _ _);refine(MAt.to1 (by first |exact hq |exact h) (by(try simp only[List.length_append]);(try simp only[List.length_cons]);(try simp only[List.length_nil]);omega) _ _ _ _ (by first |rfl |simp)).mono ?_) |((with_reducible show Calls _ _ #[_,_,_,Value.slice _ 0 _] _ _);refine(MAt.to_none (by first |exact hq |exact h) (by(try simp only[List.length_append]);(try simp only[List.length_cons]);(try simp only[List.length_nil]);omega) _ _).mono ?_));rintro e wq ⟨rfl,hq⟩;have b1:wq.cell? ⟨x1,0,none⟩=some (.pointer (some ⟨b,0,none⟩)):=hq.bx (HB.out _ (.head _)))
  |(go_at_call 112;(first |((with_reducible show Calls _ _ #[_,_,Value.slice _ 3 _] _ _);refine(MAt.do3 (by first |exact hq |exact h) (by(try simp only[List.length_append]);(try simp only[List.length_cons]);(try simp only[List.length_nil]);omega) _ _ _ _ _ (by first |rfl |simp)).mono ?_) |((with_reducible show Calls _ _ #[_,_,Value.slice _ 2 _] _ _);refine(MAt.do2 (by first |exact hq |exact h) (by(try simp only[List.length_append]);(try simp only[List.length_cons]);(try simp only[List.length_nil]);omega) _ _ _ _ (by first |rfl |simp)).mono ?_) |((with_reducible show Calls _ _ #[_,_,Value.slice _ 1 _] _ _);refine(MAt.do1 (by first |exact hq |exact h) (by(try simp only[List.length_append]);(try simp only[List.length_cons]);(try simp only[List.length_nil]);omega) _ _ _ (by first |rfl |simp)).mono ?_) |((with_reducible show Calls _ _ #[_,_,Value.slice _ 0 _] _ _);refine(MAt.do_none (by first |exact hq |exact h) (by(try simp only[List.length_append]);(try simp only[List.length_cons]);(try simp only[List.length_nil]);omega) _).mono ?_));rintro e wq ⟨rfl,hq⟩;have b1:wq.cell? ⟨x1,0,none⟩=some (.pointer (some ⟨b,0,none⟩)):=hq.bx (HB.out _ (.head _))))
 have hq:=hq.below (below_dN bRf 1)
 refine wp_region_F (S:=(fun w'=>w'.cell? ⟨x1,0,none⟩=some (.pointer (some ⟨b,0,none⟩))/\w'.cell? ⟨x3,0,none⟩=some (.string op))) (by kernel_rfl) ⟨hq.bx (HB.out _ (.head _)),hq.bx (HB.out _ (.tail _ (.tail _ (.head _))))⟩ (fun hHeld=>?_)
 change MAt _ _ _ _ _ _ _ _ (World.drew wq) at hq
 generalize World.drew wq=wd at*
 iterate 4
  refine' wpAnyF_next (sz:=6) (n:=5) (v:=_) rfl (by kernel_rfl) (fun _ _ _ h=>h) (by assumption) (Or.inl ⟨by rfl,?_⟩) ?_
  case' refine'_2=>(intro w' hSw;(try dsimp only at hSw);go_simp;try with_reducible rfl)
  try simp only[Act.put,fxs]
 refine wpAnyF_only (i:=4) rfl (by kernel_rfl) (fun K hK=>?_)
 go_simp
 refine hK.out _ _ (Or.inr ⟨keep_cell (bRf.alloc nL _) hHeld.1,keep_cell (bRf.alloc nL _) hHeld.2⟩) ?_
 clear hK K
 try simp only[Act.put,fxs]
 refine wpAnyF_only (i:=5) rfl (by kernel_rfl) (fun K hK=>?_)
 go_simp
 go_at_call 112
 (first |((with_reducible show Calls _ _ #[_,_,Value.slice _ 3 _] _ _);refine(MAt.do3 (by first |exact hq |exact h) (by(try simp only[List.length_append]);(try simp only[List.length_cons]);(try simp only[List.length_nil]);omega) _ _ _ _ _ (by first |rfl |simp)).mono ?_) |((with_reducible show Calls _ _ #[_,_,Value.slice _ 2 _] _ _);refine(MAt.do2 (by first |exact hq |exact h) (by(try simp only[List.length_append]);(try simp only[List.length_cons]);(try simp only[List.length_nil]);omega) _ _ _ _ (by first |rfl |simp)).mono ?_) |((with_reducible show Calls _ _ #[_,_,Value.slice _ 1 _] _ _);refine(MAt.do1 (by first |exact hq |exact h) (by(try simp only[List.length_append]);(try simp only[List.length_cons]);(try simp only[List.length_nil]);omega) _ _ _ (by first |rfl |simp)).mono ?_) |((with_reducible show Calls _ _ #[_,_,Value.slice _ 0 _] _ _);refine(MAt.do_none (by first |exact hq |exact h) (by(try simp only[List.length_append]);(try simp only[List.length_cons]);(try simp only[List.length_nil]);omega) _).mono ?_))
 rintro e wq ⟨rfl,hq⟩
 dsimp only
 refine hK.out _ _ (Or.inl (by kernel_rfl)) ?_
 clear hK K hHeld
 try simp only[Act.put,fxs]
 refine wpAnyF_done (by kernel_rfl) ?_ _
 have b1:wq.cell? ⟨x1,0,none⟩=some (.pointer (some ⟨b,0,none⟩)):=hq.bx (HB.out _ (.head _))
 go_wp2_with (first
  |(go_at_call 181;(first |((with_reducible show Calls _ _ #[_,_,_,Value.slice _ 3 _] _ _);refine(MAt.to3 (by first |exact hq |exact h) (by(try simp only[List.length_append]);(try simp only[List.length_cons]);(try simp only[List.length_nil]);omega) _ _ _ _ _ _ (by first |rfl |simp)).mono ?_) |((with_reducible show Calls _ _ #[_,_,_,Value.slice _ 2 _] _ _);refine(MAt.to2 (by first |exact hq |exact h) (by(try simp only[List.length_append]);(try simp only[List.length_cons]);(try simp only[List.length_nil]);omega) _ _ _ _ _ (by first |rfl |simp)).mono ?_) |((with_reducible show Calls _ _ #[_,_,_,Value.slice _ 1 _] _ _);refine(MAt.to1 (by first |exact hq |exact h) (by(try simp only[List.length_append]);(try simp only[List.length_cons]);(try simp only[List.length_nil]);omega) _ _ _ _ (by first |rfl |simp)).mono ?_) |((with_reducible show Calls _ _ #[_,_,_,Value.slice _ 0 _] _ _);refine(MAt.to_none (by first |exact hq |exact h) (by(try simp only[List.length_append]);(try simp only[List.length_cons]);(try simp only[List.length_nil]);omega) _ _).mono ?_));rintro e wq ⟨rfl,hq⟩;have b1:wq.cell? ⟨x1,0,none⟩=some (.pointer (some ⟨b,0,none⟩)):=hq.bx (HB.out _ (.head _)))
  |(go_at_call 112;(first |((with_reducible show Calls _ _ #[_,_,Value.slice _ 3 _] _ _);refine(MAt.do3 (by first |exact hq |exact h) (by(try simp only[List.length_append]);(try simp only[List.length_cons]);(try simp only[List.length_nil]);omega) _ _ _ _ _ (by first |rfl |simp)).mono ?_) |((with_reducible show Calls _ _ #[_,_,Value.slice _ 2 _] _ _);refine(MAt.do2 (by first |exact hq |exact h) (by(try simp only[List.length_append]);(try simp only[List.length_cons]);(try simp only[List.length_nil]);omega) _ _ _ _ (by first |rfl |simp)).mono ?_) |((with_reducible show Calls _ _ #[_,_,Value.slice _ 1 _] _ _);refine(MAt.do1 (by first |exact hq |exact h) (by(try simp only[List.length_append]);(try simp only[List.length_cons]);(try simp only[List.length_nil]);omega) _ _ _ (by first |rfl |simp)).mono ?_) |((with_reducible show Calls _ _ #[_,_,Value.slice _ 0 _] _ _);refine(MAt.do_none (by first |exact hq |exact h) (by(try simp only[List.length_append]);(try simp only[List.length_cons]);(try simp only[List.length_nil]);omega) _).mono ?_));rintro e wq ⟨rfl,hq⟩;have b1:wq.cell? ⟨x1,0,none⟩=some (.pointer (some ⟨b,0,none⟩)):=hq.bx (HB.out _ (.head _))))
 have hq:=hq.below (below_dN bRf 1)
 refine wp_region_F (S:=(fun w'=>w'.cell? ⟨x1,0,none⟩=some (.pointer (some ⟨b,0,none⟩))/\w'.cell? ⟨x4,0,none⟩=some (.string q2))) (by kernel_rfl) ⟨hq.bx (HB.out _ (.head _)),hq.bx (HB.out _ (.tail _ (.tail _ (.tail _ (.head _)))))⟩ (fun hHeld=>?_)
 change MAt _ _ _ _ _ _ _ _ (World.drew wq) at hq
 generalize World.drew wq=wd at*
 iterate 4
  refine' wpAnyF_next (sz:=5) (n:=4) (v:=_) rfl (by kernel_rfl) (fun _ _ _ h=>h) (by assumption) (Or.inl ⟨by rfl,?_⟩) ?_
  case' refine'_2=>(intro w' hSw;(try dsimp only at hSw);go_simp;try with_reducible rfl)
  try simp only[Act.put,fxs]
 refine wpAnyF_only (i:=4) rfl (by kernel_rfl) (fun K hK=>?_)
 go_simp
 go_at_call 181
 (first |((with_reducible show Calls _ _ #[_,_,_,Value.slice _ 3 _] _ _);refine(MAt.to3 (by first |exact hq |exact h) (by(try simp only[List.length_append]);(try simp only[List.length_cons]);(try simp only[List.length_nil]);omega) _ _ _ _ _ _ (by first |rfl |simp)).mono ?_) |((with_reducible show Calls _ _ #[_,_,_,Value.slice _ 2 _] _ _);refine(MAt.to2 (by first |exact hq |exact h) (by(try simp only[List.length_append]);(try simp only[List.length_cons]);(try simp only[List.length_nil]);omega) _ _ _ _ _ (by first |rfl |simp)).mono ?_) |((with_reducible show Calls _ _ #[_,_,_,Value.slice _ 1 _] _ _);refine(MAt.to1 (by first |exact hq |exact h) (by(try simp only[List.length_append]);(try simp only[List.length_cons]);(try simp only[List.length_nil]);omega) _ _ _ _ (by first |rfl |simp)).mono ?_) |((with_reducible show Calls _ _ #[_,_,_,Value.slice _ 0 _] _ _);refine(MAt.to_none (by first |exact hq |exact h) (by(try simp only[List.length_append]);(try simp only[List.length_cons]);(try simp only[List.length_nil]);omega) _ _).mono ?_))
 rintro e wq ⟨rfl,hq⟩
 dsimp only
 refine hK.out _ _ (Or.inl (by kernel_rfl)) ?_
 clear hK K hHeld
 try simp only[Act.put,fxs]
 refine wpAnyF_done (by kernel_rfl) ?_ _
 go_wp2
 go_end0
 refine⟨rfl,?_⟩
 simp only[List.append_assoc,List.cons_append,List.nil_append] at hq
 exact hq
end
section
open Go.RowKit Go.Extern.Stop Go.Stop Go.Extern Go.Maps Go.WideMaps Go.Sort
variable {S:List (Nat×Value)} {fs caps:Array Value} {p:ByteArray} {D:List Ins} {k k':Nat} {word:Nat} {b f:Nat}
def outerD(op:ByteArray)(word:Nat)(q q2:ByteArray):List Ins:=
 [⟨⟨#[108,111,97,100]⟩,0,6,word,no⟩,⟨⟨#[122,101,114,111]⟩,0,0,0,q⟩,⟨⟨#[108,111,97,100]⟩,0,6,2,no⟩,⟨⟨#[99,111,110,115,116]⟩,1,1,0,no⟩,⟨op,0,0,1,no⟩,⟨⟨#[115,116,111,114,101]⟩,6,0,2,no⟩,⟨⟨#[103,111,116,111]⟩,0,0,0,q2⟩]
theorem outer1_any (hk:k+1<=9) (hp:p.size<=1000) {q op:ByteArray} {n:Nat} (hn:Fn.goes n) (hc:Adds n (fs++caps) b f p (k+1) k' S D 600) (x1 x2 x3 x4:Nat):
  Adds 186 #[.string q, .pointer (some ⟨x1,0,none⟩), .pointer (some ⟨x2,0,none⟩), .pointer (some ⟨x3,0,none⟩), .pointer (some ⟨x4,0,none⟩)] b f p k k' ((x1,mptr b)::(x2, .int .i64 word)::(x3, .string op)::(x4, .func (.func n) fs caps)::S)
   (outerD op word (lb p (k+1)) q++[lblI (lb p (k+1))]++D) 500:=by
 intro B w0 v0 L w h hB hL
 have hmf: ∀(fn:Fn) (first cap:Array Value) (w:World),(Instr.makeFunc fn first cap).run Tryz.prog w= .ok (.func fn first cap) w:=fun _ _ _ _=>rfl
 have HC:=hide hc
 have HN:=hide hn
 have HG:Hid (Fn.goes 187):=hide fun _ _=>rfl
 have HI:Hid (∀x5,Adds 187 (#[.string (lb p (k+1))]++#[.pointer (some ⟨x1,0,none⟩), .pointer (some ⟨x2,0,none⟩), .pointer (some ⟨x3,0,none⟩), .pointer (some ⟨x5,0,none⟩)]) b f p (k+1) (k+1) [(x1,mptr b),(x2, .int .i64 word),(x3, .string op),(x5, .string q)] (outerD op word (lb p (k+1)) q) 800):=hide fun x5=>outer11_any _ _ _ _ x1 x2 x3 x5
 have h1:=h.box (.string q) 9
 have b1:(w.alloc (.cells #[.string q] 9)).cell? ⟨x1,0,none⟩=some (.pointer (some ⟨b,0,none⟩)):=h1.bx (.tail _ (hB _ (.head _)))
 have HH:=hide h1
 have HB:=hide hB
 clear hc hn h h1 hB
 generalize (f:Int)=fi at*
 generalize hwi:(word:Int)=wi at*
 generalize hDD:outerD op word (lb p (k+1)) q=DD at*
 have hDl:DD.length=7:=by rw[<-hDD];rfl
 go_enter Tryz.func186,Tryz.ntmps186
 go_wp2_with (go_at_call 179;refine(MAt.block (k':=k+1) HH.out hk hp DD _ HG.out _ (by(try simp only[List.length_append]);(try simp only[List.length_cons]);(try simp only[List.length_nil]);omega) (fun w1 w2 v2 h1=>HI.out w.heap.size _ w2 v2 _ w1 h1 (fun x hx=>by
   simp only[List.mem_cons,List.not_mem_nil,or_false] at hx
   rcases hx with rfl |rfl |rfl |rfl
   ·exact .tail _ (HB.out _ (.head _))
   ·exact .tail _ (HB.out _ (.tail _ (.head _)))
   ·exact .tail _ (HB.out _ (.tail _ (.tail _ (.head _))))
   ·exact .head _) (by(try simp only[List.length_append]);(try simp only[List.length_cons]);(try simp only[List.length_nil]);omega))).mono ?_;rintro e wq ⟨rfl,hq⟩;have b4:wq.cell? ⟨x4,0,none⟩=some (.func (.func n) fs caps):=hq.bx (.tail _ (HB.out _ (.tail _ (.tail _ (.tail _ (.head _)))))))
 rw[HN.out,Oper.upon_enter]
 refine(HC.out _ w0 v0 _ wq hq (fun x hx=> .tail _ (HB.out x (.tail _ (.tail _ (.tail _ (.tail _ hx)))))) (by(try simp only[List.length_append]);(try simp only[List.length_cons]);(try simp only[List.length_nil]);omega)).mono ?_
 rintro e w2 ⟨rfl,h2⟩
 dsimp only
 go_wp2
 go_end0
 refine⟨rfl,?_⟩
 rw[List.append_assoc] at h2
 exact h2.drop fun x hx=> .tail _ hx
theorem outermost_any (hk:k+2<=9) (hp:p.size<=1000) {op:ByteArray} {n:Nat} (hD:D.length<=50) (hn:Fn.goes n) (hc:Adds n (fs++caps) b f p (k+2) k' S D 600):
  Adds 117 #[.pointer (some ⟨b,0,none⟩), .int .i64 word, .string op, .func (.func n) fs caps] b f p k k' S
   (outerD op word (lb p (k+2)) (lb p (k+1))++[lblI (lb p (k+2))]++D++[lblI (lb p (k+1))]) 400:=by
 intro B w0 v0 L w h hB hL
 have hmf: ∀(fn:Fn) (first cap:Array Value) (w:World),(Instr.makeFunc fn first cap).run Tryz.prog w= .ok (.func fn first cap) w:=fun _ _ _ _=>rfl
 have HG:Hid (Fn.goes 186):=hide fun _ _=>rfl
 have HI:Hid (∀x1 x2 x3 x4,Adds 186 (#[.string (lb p (k+1))]++#[.pointer (some ⟨x1,0,none⟩), .pointer (some ⟨x2,0,none⟩), .pointer (some ⟨x3,0,none⟩), .pointer (some ⟨x4,0,none⟩)]) b f p (k+1) k' ((x1,mptr b)::(x2, .int .i64 word)::(x3, .string op)::(x4, .func (.func n) fs caps)::S) (outerD op word (lb p (k+2)) (lb p (k+1))++[lblI (lb p (k+2))]++D) 500):=hide fun x1 x2 x3 x4=>outer1_any hk hp hn hc x1 x2 x3 x4
 have h1:=h.box (mptr b) 212
 have h2:=h1.box (.int .i64 word) 3
 have h3:=h2.box (.string op) 9
 have h4:=h3.box (.func (.func n) fs caps) 1
 simp only[World.size_alloc] at h4
 have HH:=hide h4
 have HB:=hide hB
 clear hc hn h h1 h2 h3 h4 hB
 generalize (f:Int)=fi at*
 generalize hwi:(word:Int)=wi at*
 generalize hDD:outerD op word (lb p (k+2)) (lb p (k+1))=DD at*
 have hDl:DD.length=7:=by rw[<-hDD];rfl
 go_enter Tryz.func117,Tryz.ntmps117
 go_wp2_with (go_at_call 179;refine(MAt.block (k':=k') HH.out (by omega) hp (DD++[lblI (lb p (k+2))]++D) _ HG.out _ (by(try simp only[List.length_append]);(try simp only[List.length_cons]);(try simp only[List.length_nil]);omega) (fun w1 w2 v2 h1=>HI.out _ _ _ _ _ w2 v2 _ w1 h1 (fun x hx=>by
   rcases List.mem_cons.1 hx with rfl |hx
   ·exact .tail _ (.tail _ (.tail _ (.head _)))
   rcases List.mem_cons.1 hx with rfl |hx
   ·exact .tail _ (.tail _ (.head _))
   rcases List.mem_cons.1 hx with rfl |hx
   ·exact .tail _ (.head _)
   rcases List.mem_cons.1 hx with rfl |hx
   ·exact .head _
   ·exact .tail _ (.tail _ (.tail _ (.tail _ (HB.out x hx))))) (by(try simp only[List.length_append]);(try simp only[List.length_cons]);(try simp only[List.length_nil]);omega))).mono ?_;rintro e wq ⟨rfl,hq⟩)
 go_end0
 exact⟨rfl,hq.drop fun x hx=> .tail _ (.tail _ (.tail _ (.tail _ hx)))⟩
end
section
open Go.RowKit Go.Extern.Stop Go.Stop Go.Extern Go.Maps Go.WideMaps Go.Sort
variable {p:ByteArray} {b f:Nat} {k:Nat}
def join11D(q q2:ByteArray):List Ins:=
 [⟨⟨#[109,111,118,101]⟩,1,6,0,no⟩,⟨⟨#[115,116,111,114,101]⟩,6,6,3,no⟩,⟨⟨#[115,116,111,114,101]⟩,6,0,1,no⟩,⟨⟨#[99,97,115]⟩,7,0,1,no⟩,⟨⟨#[108,111,97,100]⟩,1,6,1,no⟩,⟨⟨#[115,97,109,101]⟩,0,1,0,q2⟩,⟨⟨#[103,111,116,111]⟩,0,0,0,q⟩]
theorem join11_any(q q2:ByteArray)(x1 x2:Nat):
  Adds 190 #[.string q, .pointer (some ⟨x1,0,none⟩), .pointer (some ⟨x2,0,none⟩)] b f p k k [(x1,mptr b),(x2, .string q2)] (join11D q q2) 800:=by
 intro B w0 v0 L w hq hB hL
 have HB:=hide hB
 clear hB
 generalize (f:Int)=fi at*
 have b1:w.cell? ⟨x1,0,none⟩=some (.pointer (some ⟨b,0,none⟩)):=hq.bx (HB.out _ (.head _))
 go_enter Tryz.func190,Tryz.ntmps190
 go_wp2_with (first
  |(go_at_call 181;(first |((with_reducible show Calls _ _ #[_,_,_,Value.slice _ 3 _] _ _);refine(MAt.to3 (by first |exact hq |exact h) (by(try simp only[List.length_append]);(try simp only[List.length_cons]);(try simp only[List.length_nil]);omega) _ _ _ _ _ _ (by first |rfl |simp)).mono ?_) |((with_reducible show Calls _ _ #[_,_,_,Value.slice _ 2 _] _ _);refine(MAt.to2 (by first |exact hq |exact h) (by(try simp only[List.length_append]);(try simp only[List.length_cons]);(try simp only[List.length_nil]);omega) _ _ _ _ _ (by first |rfl |simp)).mono ?_) |((with_reducible show Calls _ _ #[_,_,_,Value.slice _ 1 _] _ _);refine(MAt.to1 (by first |exact hq |exact h) (by(try simp only[List.length_append]);(try simp only[List.length_cons]);(try simp only[List.length_nil]);omega) _ _ _ _ (by first |rfl |simp)).mono ?_) |((with_reducible show Calls _ _ #[_,_,_,Value.slice _ 0 _] _ _);refine(MAt.to_none (by first |exact hq |exact h) (by(try simp only[List.length_append]);(try simp only[List.length_cons]);(try simp only[List.length_nil]);omega) _ _).mono ?_));rintro e wq ⟨rfl,hq⟩;have b1:wq.cell? ⟨x1,0,none⟩=some (.pointer (some ⟨b,0,none⟩)):=hq.bx (HB.out _ (.head _)))
  |(go_at_call 112;(first |((with_reducible show Calls _ _ #[_,_,Value.slice _ 3 _] _ _);refine(MAt.do3 (by first |exact hq |exact h) (by(try simp only[List.length_append]);(try simp only[List.length_cons]);(try simp only[List.length_nil]);omega) _ _ _ _ _ (by first |rfl |simp)).mono ?_) |((with_reducible show Calls _ _ #[_,_,Value.slice _ 2 _] _ _);refine(MAt.do2 (by first |exact hq |exact h) (by(try simp only[List.length_append]);(try simp only[List.length_cons]);(try simp only[List.length_nil]);omega) _ _ _ _ (by first |rfl |simp)).mono ?_) |((with_reducible show Calls _ _ #[_,_,Value.slice _ 1 _] _ _);refine(MAt.do1 (by first |exact hq |exact h) (by(try simp only[List.length_append]);(try simp only[List.length_cons]);(try simp only[List.length_nil]);omega) _ _ _ (by first |rfl |simp)).mono ?_) |((with_reducible show Calls _ _ #[_,_,Value.slice _ 0 _] _ _);refine(MAt.do_none (by first |exact hq |exact h) (by(try simp only[List.length_append]);(try simp only[List.length_cons]);(try simp only[List.length_nil]);omega) _).mono ?_));rintro e wq ⟨rfl,hq⟩;have b1:wq.cell? ⟨x1,0,none⟩=some (.pointer (some ⟨b,0,none⟩)):=hq.bx (HB.out _ (.head _))))
 have hq:=hq.below (below_dN bRf 1)
 refine wp_region_F (S:=(fun w'=>w'.cell? ⟨x1,0,none⟩=some (.pointer (some ⟨b,0,none⟩))/\w'.cell? ⟨x2,0,none⟩=some (.string q2))) (by kernel_rfl) ⟨hq.bx (HB.out _ (.head _)),hq.bx (HB.out _ (.tail _ (.head _)))⟩ (fun hHeld=>?_)
 change MAt _ _ _ _ _ _ _ _ (World.drew wq) at hq
 generalize World.drew wq=wd at*
 iterate 4
  refine' wpAnyF_next (sz:=6) (n:=5) (v:=_) rfl (by kernel_rfl) (fun _ _ _ h=>h) (by assumption) (Or.inl ⟨by rfl,?_⟩) ?_
  case' refine'_2=>(intro w' hSw;(try dsimp only at hSw);go_simp;try with_reducible rfl)
  try simp only[Act.put,fxs]
 refine wpAnyF_only (i:=4) rfl (by kernel_rfl) (fun K hK=>?_)
 go_simp
 refine hK.out _ _ (Or.inr ⟨keep_cell (bRf.alloc nL _) hHeld.1,keep_cell (bRf.alloc nL _) hHeld.2⟩) ?_
 clear hK K
 try simp only[Act.put,fxs]
 refine wpAnyF_only (i:=5) rfl (by kernel_rfl) (fun K hK=>?_)
 go_simp
 go_at_call 181
 (first |((with_reducible show Calls _ _ #[_,_,_,Value.slice _ 3 _] _ _);refine(MAt.to3 (by first |exact hq |exact h) (by(try simp only[List.length_append]);(try simp only[List.length_cons]);(try simp only[List.length_nil]);omega) _ _ _ _ _ _ (by first |rfl |simp)).mono ?_) |((with_reducible show Calls _ _ #[_,_,_,Value.slice _ 2 _] _ _);refine(MAt.to2 (by first |exact hq |exact h) (by(try simp only[List.length_append]);(try simp only[List.length_cons]);(try simp only[List.length_nil]);omega) _ _ _ _ _ (by first |rfl |simp)).mono ?_) |((with_reducible show Calls _ _ #[_,_,_,Value.slice _ 1 _] _ _);refine(MAt.to1 (by first |exact hq |exact h) (by(try simp only[List.length_append]);(try simp only[List.length_cons]);(try simp only[List.length_nil]);omega) _ _ _ _ (by first |rfl |simp)).mono ?_) |((with_reducible show Calls _ _ #[_,_,_,Value.slice _ 0 _] _ _);refine(MAt.to_none (by first |exact hq |exact h) (by(try simp only[List.length_append]);(try simp only[List.length_cons]);(try simp only[List.length_nil]);omega) _ _).mono ?_))
 rintro e wq ⟨rfl,hq⟩
 dsimp only
 refine hK.out _ _ (Or.inl (by kernel_rfl)) ?_
 clear hK K hHeld
 try simp only[Act.put,fxs]
 refine wpAnyF_done (by kernel_rfl) ?_ _
 have b1:wq.cell? ⟨x1,0,none⟩=some (.pointer (some ⟨b,0,none⟩)):=hq.bx (HB.out _ (.head _))
 go_wp2_with (first
  |(go_at_call 181;(first |((with_reducible show Calls _ _ #[_,_,_,Value.slice _ 3 _] _ _);refine(MAt.to3 (by first |exact hq |exact h) (by(try simp only[List.length_append]);(try simp only[List.length_cons]);(try simp only[List.length_nil]);omega) _ _ _ _ _ _ (by first |rfl |simp)).mono ?_) |((with_reducible show Calls _ _ #[_,_,_,Value.slice _ 2 _] _ _);refine(MAt.to2 (by first |exact hq |exact h) (by(try simp only[List.length_append]);(try simp only[List.length_cons]);(try simp only[List.length_nil]);omega) _ _ _ _ _ (by first |rfl |simp)).mono ?_) |((with_reducible show Calls _ _ #[_,_,_,Value.slice _ 1 _] _ _);refine(MAt.to1 (by first |exact hq |exact h) (by(try simp only[List.length_append]);(try simp only[List.length_cons]);(try simp only[List.length_nil]);omega) _ _ _ _ (by first |rfl |simp)).mono ?_) |((with_reducible show Calls _ _ #[_,_,_,Value.slice _ 0 _] _ _);refine(MAt.to_none (by first |exact hq |exact h) (by(try simp only[List.length_append]);(try simp only[List.length_cons]);(try simp only[List.length_nil]);omega) _ _).mono ?_));rintro e wq ⟨rfl,hq⟩;have b1:wq.cell? ⟨x1,0,none⟩=some (.pointer (some ⟨b,0,none⟩)):=hq.bx (HB.out _ (.head _)))
  |(go_at_call 112;(first |((with_reducible show Calls _ _ #[_,_,Value.slice _ 3 _] _ _);refine(MAt.do3 (by first |exact hq |exact h) (by(try simp only[List.length_append]);(try simp only[List.length_cons]);(try simp only[List.length_nil]);omega) _ _ _ _ _ (by first |rfl |simp)).mono ?_) |((with_reducible show Calls _ _ #[_,_,Value.slice _ 2 _] _ _);refine(MAt.do2 (by first |exact hq |exact h) (by(try simp only[List.length_append]);(try simp only[List.length_cons]);(try simp only[List.length_nil]);omega) _ _ _ _ (by first |rfl |simp)).mono ?_) |((with_reducible show Calls _ _ #[_,_,Value.slice _ 1 _] _ _);refine(MAt.do1 (by first |exact hq |exact h) (by(try simp only[List.length_append]);(try simp only[List.length_cons]);(try simp only[List.length_nil]);omega) _ _ _ (by first |rfl |simp)).mono ?_) |((with_reducible show Calls _ _ #[_,_,Value.slice _ 0 _] _ _);refine(MAt.do_none (by first |exact hq |exact h) (by(try simp only[List.length_append]);(try simp only[List.length_cons]);(try simp only[List.length_nil]);omega) _).mono ?_));rintro e wq ⟨rfl,hq⟩;have b1:wq.cell? ⟨x1,0,none⟩=some (.pointer (some ⟨b,0,none⟩)):=hq.bx (HB.out _ (.head _))))
 go_end0
 refine⟨rfl,?_⟩
 simp only[List.append_assoc,List.cons_append,List.nil_append] at hq
 exact hq
theorem join1_any(hk:k+1<=9)(hp:p.size<=1000)(q:ByteArray)(x1:Nat):
  Adds 188 #[.string q, .pointer (some ⟨x1,0,none⟩)] b f p k (k+1) [(x1,mptr b)] ([⟨⟨#[108,111,97,100]⟩,0,6,3,no⟩,⟨⟨#[115,97,109,101]⟩,0,6,0,q⟩,⟨⟨#[108,111,97,100]⟩,0,7,1,no⟩]++(lblI (lb p (k+1))::join11D (lb p (k+1)) q)) 700:=by
 intro B w0 v0 L w h hB hL
 have hmf: ∀(fn:Fn) (first cap:Array Value) (w:World),(Instr.makeFunc fn first cap).run Tryz.prog w= .ok (.func fn first cap) w:=fun _ _ _ _=>rfl
 have HG:Hid (Fn.goes 190):=hide fun _ _=>rfl
 have hq:=h.box (.string q) 9
 have HB:Hid (∀x∈[(x1,mptr b),(w.heap.size,Value.string q)],x∈(w.heap.size,Value.string q)::B):=hide fun x hx=>by
  simp only[List.mem_cons,List.not_mem_nil,or_false] at hx
  rcases hx with rfl |rfl
  ·exact .tail _ (hB _ (.head _))
  ·exact .head _
 have HI:Hid (∀x2,Adds 190 (#[.string (lb p (k+1))]++#[.pointer (some ⟨x1,0,none⟩), .pointer (some ⟨x2,0,none⟩)]) b f p (k+1) (k+1) [(x1,mptr b),(x2, .string q)] (join11D (lb p (k+1)) q) 800):=hide fun x2=>join11_any _ _ x1 x2
 have b1:(w.alloc (.cells #[.string q] 9)).cell? ⟨x1,0,none⟩=some (.pointer (some ⟨b,0,none⟩)):=hq.bx (HB.out _ (.head _))
 clear h hB
 generalize (f:Int)=fi at*
 generalize join11D (lb p (k+1)) q=DD at*
 go_enter Tryz.func188,Tryz.ntmps188
 go_wp2_with (first
  |(go_at_call 181;(first |((with_reducible show Calls _ _ #[_,_,_,Value.slice _ 3 _] _ _);refine(MAt.to3 (by first |exact hq |exact h) (by(try simp only[List.length_append]);(try simp only[List.length_cons]);(try simp only[List.length_nil]);omega) _ _ _ _ _ _ (by first |rfl |simp)).mono ?_) |((with_reducible show Calls _ _ #[_,_,_,Value.slice _ 2 _] _ _);refine(MAt.to2 (by first |exact hq |exact h) (by(try simp only[List.length_append]);(try simp only[List.length_cons]);(try simp only[List.length_nil]);omega) _ _ _ _ _ (by first |rfl |simp)).mono ?_) |((with_reducible show Calls _ _ #[_,_,_,Value.slice _ 1 _] _ _);refine(MAt.to1 (by first |exact hq |exact h) (by(try simp only[List.length_append]);(try simp only[List.length_cons]);(try simp only[List.length_nil]);omega) _ _ _ _ (by first |rfl |simp)).mono ?_) |((with_reducible show Calls _ _ #[_,_,_,Value.slice _ 0 _] _ _);refine(MAt.to_none (by first |exact hq |exact h) (by(try simp only[List.length_append]);(try simp only[List.length_cons]);(try simp only[List.length_nil]);omega) _ _).mono ?_));rintro e wq ⟨rfl,hq⟩;have b1:wq.cell? ⟨x1,0,none⟩=some (.pointer (some ⟨b,0,none⟩)):=hq.bx (HB.out _ (.head _)))
  |(go_at_call 112;(first |((with_reducible show Calls _ _ #[_,_,Value.slice _ 3 _] _ _);refine(MAt.do3 (by first |exact hq |exact h) (by(try simp only[List.length_append]);(try simp only[List.length_cons]);(try simp only[List.length_nil]);omega) _ _ _ _ _ (by first |rfl |simp)).mono ?_) |((with_reducible show Calls _ _ #[_,_,Value.slice _ 2 _] _ _);refine(MAt.do2 (by first |exact hq |exact h) (by(try simp only[List.length_append]);(try simp only[List.length_cons]);(try simp only[List.length_nil]);omega) _ _ _ _ (by first |rfl |simp)).mono ?_) |((with_reducible show Calls _ _ #[_,_,Value.slice _ 1 _] _ _);refine(MAt.do1 (by first |exact hq |exact h) (by(try simp only[List.length_append]);(try simp only[List.length_cons]);(try simp only[List.length_nil]);omega) _ _ _ (by first |rfl |simp)).mono ?_) |((with_reducible show Calls _ _ #[_,_,Value.slice _ 0 _] _ _);refine(MAt.do_none (by first |exact hq |exact h) (by(try simp only[List.length_append]);(try simp only[List.length_cons]);(try simp only[List.length_nil]);omega) _).mono ?_));rintro e wq ⟨rfl,hq⟩;have b1:wq.cell? ⟨x1,0,none⟩=some (.pointer (some ⟨b,0,none⟩)):=hq.bx (HB.out _ (.head _))))
 have hq:=hq.below (below_dN bRf 1)
 refine wp_region_F (S:=(fun w'=>w'.cell? ⟨x1,0,none⟩=some (.pointer (some ⟨b,0,none⟩))/\w'.cell? ⟨w.heap.size,0,none⟩=some (.string q))) (by kernel_rfl) ⟨hq.bx (HB.out _ (.head _)),hq.bx (HB.out _ (.tail _ (.head _)))⟩ (fun hHeld=>?_)
 change MAt _ _ _ _ _ _ _ _ (World.drew wq) at hq
 generalize World.drew wq=wd at*
 iterate 4
  refine' wpAnyF_next (sz:=6) (n:=5) (v:=_) rfl (by kernel_rfl) (fun _ _ _ h=>h) (by assumption) (Or.inl ⟨by rfl,?_⟩) ?_
  case' refine'_2=>(intro w' hSw;(try dsimp only at hSw);go_simp;try with_reducible rfl)
  try simp only[Act.put,fxs]
 refine wpAnyF_only (i:=4) rfl (by kernel_rfl) (fun K hK=>?_)
 go_simp
 refine hK.out _ _ (Or.inr ⟨keep_cell (bRf.alloc nL _) hHeld.1,keep_cell (bRf.alloc nL _) hHeld.2⟩) ?_
 clear hK K
 try simp only[Act.put,fxs]
 refine wpAnyF_only (i:=5) rfl (by kernel_rfl) (fun K hK=>?_)
 go_simp
 go_at_call 181
 (first |((with_reducible show Calls _ _ #[_,_,_,Value.slice _ 3 _] _ _);refine(MAt.to3 (by first |exact hq |exact h) (by(try simp only[List.length_append]);(try simp only[List.length_cons]);(try simp only[List.length_nil]);omega) _ _ _ _ _ _ (by first |rfl |simp)).mono ?_) |((with_reducible show Calls _ _ #[_,_,_,Value.slice _ 2 _] _ _);refine(MAt.to2 (by first |exact hq |exact h) (by(try simp only[List.length_append]);(try simp only[List.length_cons]);(try simp only[List.length_nil]);omega) _ _ _ _ _ (by first |rfl |simp)).mono ?_) |((with_reducible show Calls _ _ #[_,_,_,Value.slice _ 1 _] _ _);refine(MAt.to1 (by first |exact hq |exact h) (by(try simp only[List.length_append]);(try simp only[List.length_cons]);(try simp only[List.length_nil]);omega) _ _ _ _ (by first |rfl |simp)).mono ?_) |((with_reducible show Calls _ _ #[_,_,_,Value.slice _ 0 _] _ _);refine(MAt.to_none (by first |exact hq |exact h) (by(try simp only[List.length_append]);(try simp only[List.length_cons]);(try simp only[List.length_nil]);omega) _ _).mono ?_))
 rintro e wq ⟨rfl,hq⟩
 dsimp only
 refine hK.out _ _ (Or.inl (by kernel_rfl)) ?_
 clear hK K hHeld
 try simp only[Act.put,fxs]
 refine wpAnyF_done (by kernel_rfl) ?_ _
 have b1:wq.cell? ⟨x1,0,none⟩=some (.pointer (some ⟨b,0,none⟩)):=hq.bx (HB.out _ (.head _))
 go_wp2_with (first
  |(go_at_call 189;refine(MAt.loop (k':=k+1) hq hk hp DD _ HG.out _ (by(try simp only[List.length_append]);(try simp only[List.length_cons]);(try simp only[List.length_nil]);omega) (fun w1 w2 v2 h1=>HI.out _ _ w2 v2 _ w1 h1 HB.out (by(try simp only[List.length_append]);(try simp only[List.length_cons]);(try simp only[List.length_nil]);omega))).mono ?_;rintro e wq ⟨rfl,hq⟩)
  |(go_at_call 181;(first |((with_reducible show Calls _ _ #[_,_,_,Value.slice _ 3 _] _ _);refine(MAt.to3 (by first |exact hq |exact h) (by(try simp only[List.length_append]);(try simp only[List.length_cons]);(try simp only[List.length_nil]);omega) _ _ _ _ _ _ (by first |rfl |simp)).mono ?_) |((with_reducible show Calls _ _ #[_,_,_,Value.slice _ 2 _] _ _);refine(MAt.to2 (by first |exact hq |exact h) (by(try simp only[List.length_append]);(try simp only[List.length_cons]);(try simp only[List.length_nil]);omega) _ _ _ _ _ (by first |rfl |simp)).mono ?_) |((with_reducible show Calls _ _ #[_,_,_,Value.slice _ 1 _] _ _);refine(MAt.to1 (by first |exact hq |exact h) (by(try simp only[List.length_append]);(try simp only[List.length_cons]);(try simp only[List.length_nil]);omega) _ _ _ _ (by first |rfl |simp)).mono ?_) |((with_reducible show Calls _ _ #[_,_,_,Value.slice _ 0 _] _ _);refine(MAt.to_none (by first |exact hq |exact h) (by(try simp only[List.length_append]);(try simp only[List.length_cons]);(try simp only[List.length_nil]);omega) _ _).mono ?_));rintro e wq ⟨rfl,hq⟩;have b1:wq.cell? ⟨x1,0,none⟩=some (.pointer (some ⟨b,0,none⟩)):=hq.bx (HB.out _ (.head _)))
  |(go_at_call 112;(first |((with_reducible show Calls _ _ #[_,_,Value.slice _ 3 _] _ _);refine(MAt.do3 (by first |exact hq |exact h) (by(try simp only[List.length_append]);(try simp only[List.length_cons]);(try simp only[List.length_nil]);omega) _ _ _ _ _ (by first |rfl |simp)).mono ?_) |((with_reducible show Calls _ _ #[_,_,Value.slice _ 2 _] _ _);refine(MAt.do2 (by first |exact hq |exact h) (by(try simp only[List.length_append]);(try simp only[List.length_cons]);(try simp only[List.length_nil]);omega) _ _ _ _ (by first |rfl |simp)).mono ?_) |((with_reducible show Calls _ _ #[_,_,Value.slice _ 1 _] _ _);refine(MAt.do1 (by first |exact hq |exact h) (by(try simp only[List.length_append]);(try simp only[List.length_cons]);(try simp only[List.length_nil]);omega) _ _ _ (by first |rfl |simp)).mono ?_) |((with_reducible show Calls _ _ #[_,_,Value.slice _ 0 _] _ _);refine(MAt.do_none (by first |exact hq |exact h) (by(try simp only[List.length_append]);(try simp only[List.length_cons]);(try simp only[List.length_nil]);omega) _).mono ?_));rintro e wq ⟨rfl,hq⟩;have b1:wq.cell? ⟨x1,0,none⟩=some (.pointer (some ⟨b,0,none⟩)):=hq.bx (HB.out _ (.head _))))
 go_end0
 refine⟨rfl,?_⟩
 have h3:=hq.drop (B':=B) fun x hx=> .tail _ hx
 simp only[List.append_assoc,List.cons_append,List.nil_append] at h3 ⊢
 exact h3
theorem join_any (hk:k+2<=9) (hp:p.size<=1000):
  Adds 120 #[.pointer (some ⟨b,0,none⟩)] b f p k (k+2) [] ([⟨⟨#[108,111,97,100]⟩,0,6,3,no⟩,⟨⟨#[115,97,109,101]⟩,0,6,0,lb p (k+1)⟩,⟨⟨#[108,111,97,100]⟩,0,7,1,no⟩]++(lblI (lb p (k+2))::join11D (lb p (k+2)) (lb p (k+1)))++[lblI (lb p (k+1))]) 650:=by
 intro B w0 v0 L w h hB hL
 have hmf: ∀(fn:Fn) (first cap:Array Value) (w:World),(Instr.makeFunc fn first cap).run Tryz.prog w= .ok (.func fn first cap) w:=fun _ _ _ _=>rfl
 have HG:Hid (Fn.goes 188):=hide fun _ _=>rfl
 have hq:=h.box (mptr b) 212
 have HI:Hid (∀x1,Adds 188 (#[.string (lb p (k+1))]++#[.pointer (some ⟨x1,0,none⟩)]) b f p (k+1) (k+2) [(x1,mptr b)] ([⟨⟨#[108,111,97,100]⟩,0,6,3,no⟩,⟨⟨#[115,97,109,101]⟩,0,6,0,lb p (k+1)⟩,⟨⟨#[108,111,97,100]⟩,0,7,1,no⟩]++(lblI (lb p (k+2))::join11D (lb p (k+2)) (lb p (k+1)))) 700):=hide fun x1=>join1_any hk hp _ x1
 have HH:=hide hq
 clear h hB hq
 generalize hDD:([⟨⟨#[108,111,97,100]⟩,0,6,3,no⟩,⟨⟨#[115,97,109,101]⟩,0,6,0,lb p (k+1)⟩,⟨⟨#[108,111,97,100]⟩,0,7,1,no⟩]++(lblI (lb p (k+2))::join11D (lb p (k+2)) (lb p (k+1))):List Ins)=DD at*
 have hDl:DD.length=11:=by rw[<-hDD];rfl
 generalize (f:Int)=fi at*
 go_enter Tryz.func120,Tryz.ntmps120
 go_wp2_with (go_at_call 179;refine(MAt.block (k':=k+2) HH.out (by omega) hp DD _ HG.out _ (by(try simp only[List.length_append]);(try simp only[List.length_cons]);(try simp only[List.length_nil]);omega) (fun w1 w2 v2 h1=>HI.out _ _ w2 v2 _ w1 h1 (fun x hx=>by
   simp only[List.mem_cons,List.not_mem_nil,or_false] at hx
   subst hx
   exact .head _) (by(try simp only[List.length_append]);(try simp only[List.length_cons]);(try simp only[List.length_nil]);omega))).mono ?_;rintro e wq ⟨rfl,hq⟩)
 go_end0
 exact⟨rfl,hq.drop fun x hx=> .tail _ hx⟩
end
section
open Go.RowKit Go.Extern.Stop Go.Stop Go.Extern Go.Maps Go.WideMaps Go.Sort
variable {p:ByteArray} {b f:Nat} {k:Nat}
def joinD(p:ByteArray)(k:Nat):List Ins:=[⟨⟨#[108,111,97,100]⟩,0,6,3,no⟩,⟨⟨#[115,97,109,101]⟩,0,6,0,lb p (k+1)⟩,⟨⟨#[108,111,97,100]⟩,0,7,1,no⟩]++(lblI (lb p (k+2))::join11D (lb p (k+2)) (lb p (k+1)))++[lblI (lb p (k+1))]
def showI(f:Nat):Ins:=(gShow f).ins no
theorem show_adds:Adds 113 #[.pointer (some ⟨b,0,none⟩)] b f p k k [] [showI f] 900:=by
 intro B w0 v0 L w h _ hL
 have e:gCode p [gShow f]=[showI f]:=by
  unfold showI gShow
  split <;> rfl
 rw[<-e]
 exact show_any h hL
theorem enter11_plain(hf:f≠4)(x1:Nat):
  Adds 118 #[.pointer (some ⟨x1,0,none⟩)] b f p k k [(x1,mptr b)] [⟨⟨#[108,111,97,100]⟩,0,7,0,no⟩,showI f] 850:=by
 intro B w0 v0 L w h hB hL
 have b1:w.cell? ⟨x1,0,none⟩=some (.pointer (some ⟨b,0,none⟩)):=h.bx (hB _ (.head _))
 have c0:=h.c0
 have HB:=hide hB
 have HJ:=hide (joins_any (f:Int) w)
 rw[show decide ((f:Int)=4)=false from decide_eq_false (by omega)] at HJ
 have HS:=hide (show_adds (b:=b) (f:=f) (p:=p) (k:=k))
 clear hB hf
 generalize showI f=si at*
 generalize (f:Int)=fi at*
 go_enter Tryz.func118,Tryz.ntmps118
 go_wp2_with (first
  |(go_at_call 119;refine HJ.out.mono ?_;rintro e wq ⟨rfl,rfl⟩)
  |(go_at_call 112;(first |((with_reducible show Calls _ _ #[_,_,Value.slice _ 3 _] _ _);refine(MAt.do3 (by first |exact hq |exact h) (by(try simp only[List.length_append]);(try simp only[List.length_cons]);(try simp only[List.length_nil]);omega) _ _ _ _ _ (by first |rfl |simp)).mono ?_) |((with_reducible show Calls _ _ #[_,_,Value.slice _ 2 _] _ _);refine(MAt.do2 (by first |exact hq |exact h) (by(try simp only[List.length_append]);(try simp only[List.length_cons]);(try simp only[List.length_nil]);omega) _ _ _ _ (by first |rfl |simp)).mono ?_) |((with_reducible show Calls _ _ #[_,_,Value.slice _ 1 _] _ _);refine(MAt.do1 (by first |exact hq |exact h) (by(try simp only[List.length_append]);(try simp only[List.length_cons]);(try simp only[List.length_nil]);omega) _ _ _ (by first |rfl |simp)).mono ?_) |((with_reducible show Calls _ _ #[_,_,Value.slice _ 0 _] _ _);refine(MAt.do_none (by first |exact hq |exact h) (by(try simp only[List.length_append]);(try simp only[List.length_cons]);(try simp only[List.length_nil]);omega) _).mono ?_));rintro e wq ⟨rfl,hq⟩;have b1:wq.cell? ⟨x1,0,none⟩=some (.pointer (some ⟨b,0,none⟩)):=hq.bx (HB.out _ (.head _)))
  |(go_at_call 113;refine(HS.out B w0 v0 _ _ hq (fun x hx=>absurd hx List.not_mem_nil) (by(try simp only[List.length_append]);(try simp only[List.length_cons]);(try simp only[List.length_nil]);omega)).mono ?_;rintro e wq ⟨rfl,hq⟩))
 go_end0
 refine⟨rfl,?_⟩
 simp only[List.append_assoc,List.cons_append,List.nil_append] at hq
 exact hq
theorem enter11_joins(hf:f=4)(hk:k+2<=9)(hp:p.size<=1000)(x1:Nat):
  Adds 118 #[.pointer (some ⟨x1,0,none⟩)] b f p k (k+2) [(x1,mptr b)] (joinD p k++[⟨⟨#[108,111,97,100]⟩,0,7,0,no⟩,showI f]) 600:=by
 intro B w0 v0 L w h hB hL
 have b1:w.cell? ⟨x1,0,none⟩=some (.pointer (some ⟨b,0,none⟩)):=h.bx (hB _ (.head _))
 have c0:=h.c0
 have HB:=hide hB
 have HJ:=hide (joins_any (f:Int) w)
 rw[show decide ((f:Int)=4)=true from decide_eq_true (by omega)] at HJ
 have HS:=hide (show_adds (b:=b) (f:=f) (p:=p) (k:=k+2))
 have HN:Hid (Adds 120 #[.pointer (some ⟨b,0,none⟩)] b f p k (k+2) [] (joinD p k) 650):=hide (join_any hk hp)
 have hJl:(joinD p k).length=12:=rfl
 clear hB hf
 generalize showI f=si at*
 generalize (f:Int)=fi at*
 generalize joinD p k=JD at*
 go_enter Tryz.func118,Tryz.ntmps118
 go_wp2_with (first
  |(go_at_call 119;refine HJ.out.mono ?_;rintro e wq ⟨rfl,rfl⟩)
  |(go_at_call 120;refine(HN.out B w0 v0 _ _ h (fun x hx=>absurd hx List.not_mem_nil) (by(try simp only[List.length_append]);(try simp only[List.length_cons]);(try simp only[List.length_nil]);omega)).mono ?_;rintro e wq ⟨rfl,hq⟩;have b1:wq.cell? ⟨x1,0,none⟩=some (.pointer (some ⟨b,0,none⟩)):=hq.bx (HB.out _ (.head _)))
  |(go_at_call 112;(first |((with_reducible show Calls _ _ #[_,_,Value.slice _ 3 _] _ _);refine(MAt.do3 (by first |exact hq |exact h) (by(try simp only[List.length_append]);(try simp only[List.length_cons]);(try simp only[List.length_nil]);omega) _ _ _ _ _ (by first |rfl |simp)).mono ?_) |((with_reducible show Calls _ _ #[_,_,Value.slice _ 2 _] _ _);refine(MAt.do2 (by first |exact hq |exact h) (by(try simp only[List.length_append]);(try simp only[List.length_cons]);(try simp only[List.length_nil]);omega) _ _ _ _ (by first |rfl |simp)).mono ?_) |((with_reducible show Calls _ _ #[_,_,Value.slice _ 1 _] _ _);refine(MAt.do1 (by first |exact hq |exact h) (by(try simp only[List.length_append]);(try simp only[List.length_cons]);(try simp only[List.length_nil]);omega) _ _ _ (by first |rfl |simp)).mono ?_) |((with_reducible show Calls _ _ #[_,_,Value.slice _ 0 _] _ _);refine(MAt.do_none (by first |exact hq |exact h) (by(try simp only[List.length_append]);(try simp only[List.length_cons]);(try simp only[List.length_nil]);omega) _).mono ?_));rintro e wq ⟨rfl,hq⟩;have b1:wq.cell? ⟨x1,0,none⟩=some (.pointer (some ⟨b,0,none⟩)):=hq.bx (HB.out _ (.head _)))
  |(go_at_call 113;refine(HS.out B w0 v0 _ _ hq (fun x hx=>absurd hx List.not_mem_nil) (by(try simp only[List.length_append]);(try simp only[List.length_cons]);(try simp only[List.length_nil]);omega)).mono ?_;rintro e wq ⟨rfl,hq⟩))
 go_end0
 refine⟨rfl,?_⟩
 simp only[List.append_assoc,List.cons_append,List.nil_append] at hq
 exact hq
end
end Go.Proofs.YtnoigmdmgdcliaaGreatDoor
