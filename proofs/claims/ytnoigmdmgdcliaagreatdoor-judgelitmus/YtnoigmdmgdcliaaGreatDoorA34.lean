import Derived.Test.YtnoigmdmgdcliaaGreatDoorA33
namespace Go.Proofs.YtnoigmdmgdcliaaGreatDoor
set_option maxRecDepth 100000
set_option maxHeartbeats 8000000
section
open Go.RowKit Go.Extern.Stop Go.Stop Go.Extern Go.Maps Go.WideMaps Go.Sort
variable {p:ByteArray} {D:List Ins} {k k':Nat} {b f:Nat}
theorem Adds.mono{n:Nat}{args:Array Value}{b:Nat}{f:Int}{S:List (Nat×Value)}{N N':Nat}(h:Adds n args b f p k k' S D N)(hN:N'<=N):Adds n args b f p k k' S D N':=fun B w0 v0 L w h1 h2 h3=>h B w0 v0 L w h1 h2 (by omega)
def addO:ByteArray:=⟨#[97,100,100]⟩
def subO:ByteArray:=⟨#[115,117,98]⟩
theorem enter1_any (hf:f≠3) (hk:k+2<=9) (hp:p.size<=1000) (hD:D.length<=50) (hc: ∀x1,Adds 118 #[.pointer (some ⟨x1,0,none⟩)] b f p (k+2) k' [(x1,mptr b)] D 600):
  Adds 116 #[.pointer (some ⟨b,0,none⟩)] b f p k k' [] (outerD addO 0 (lb p (k+2)) (lb p (k+1))++[lblI (lb p (k+2))]++D++[lblI (lb p (k+1))]) 350:=by
 intro B w0 v0 L w h hB hL
 have hmf: ∀(fn:Fn) (first cap:Array Value) (w:World),(Instr.makeFunc fn first cap).run Tryz.prog w= .ok (.func fn first cap) w:=fun _ _ _ _=>rfl
 have HJ:Hid (∀w,Calls Tryz.prog 109 #[.int .i64 (f:Int)] w fun e w'=>e= .returned (.bool false)/\w'=w):=hide fun w=>by
  have:=counts_any (f:Int) w
  rwa [show decide ((f:Int)=3)=false from decide_eq_false (by omega)] at this
 have HO:Hid (∀x1,Adds 117 #[.pointer (some ⟨b,0,none⟩), .int .i64 0, .string ⟨#[97,100,100]⟩, .func (.func 118) #[] #[.pointer (some ⟨x1,0,none⟩)]] b f p k k' [(x1,mptr b)] (outerD addO 0 (lb p (k+2)) (lb p (k+1))++[lblI (lb p (k+2))]++D++[lblI (lb p (k+1))]) 400):=hide fun x1=>outermost_any (word:=0) (op:=addO) hk hp hD (fun _ _=>rfl) (hc x1)
 have hq:=h.box (mptr b) 212
 have c0:(w.alloc (.cells #[.pointer (some ⟨b,0,none⟩)] 212)).cell? ⟨b,0,none⟩=some (.int .i64 f):=hq.c0
 have HH:=hide hq
 clear hc hf h hq hB
 generalize (f:Int)=fi at*
 generalize outerD addO 0 (lb p (k+2)) (lb p (k+1))++[lblI (lb p (k+2))]++D++[lblI (lb p (k+1))]=DD at*
 go_enter Tryz.func116,Tryz.ntmps116
 go_wp2_with (first
  |(go_at_call 109;refine(HJ.out _).mono ?_;rintro e wq ⟨rfl,rfl⟩)
  | (go_at_call 117;refine(HO.out w.heap.size _ w0 v0 _ _ HH.out (fun x hx=>by
      simp only[List.mem_cons,List.not_mem_nil,or_false] at hx
      subst hx
      exact .head _) (by omega)).mono ?_;rintro e wq ⟨rfl,hq⟩))
 go_end0
 exact⟨rfl,hq.drop fun x hx=> .tail _ hx⟩
theorem leave1_any{k:Nat}(hf:f≠3)(hk:k+2<=9)(hp:p.size<=1000):
  Adds 121 #[.pointer (some ⟨b,0,none⟩)] b f p k (k+2) [] (outerD subO 2 (lb p (k+2)) (lb p (k+1))++[lblI (lb p (k+2))]++[showI f]++[lblI (lb p (k+1))]) 350:=by
 intro B w0 v0 L w h hB hL
 have hmf: ∀(fn:Fn) (first cap:Array Value) (w:World),(Instr.makeFunc fn first cap).run Tryz.prog w= .ok (.func fn first cap) w:=fun _ _ _ _=>rfl
 have HJ:Hid (∀w,Calls Tryz.prog 109 #[.int .i64 (f:Int)] w fun e w'=>e= .returned (.bool false)/\w'=w):=hide fun w=>by
  have:=counts_any (f:Int) w
  rwa [show decide ((f:Int)=3)=false from decide_eq_false (by omega)] at this
 have HO:Hid (Adds 117 #[.pointer (some ⟨b,0,none⟩), .int .i64 2, .string ⟨#[115,117,98]⟩, .func (.func 113) #[.pointer (some ⟨b,0,none⟩)] #[]] b f p k (k+2) [] (outerD subO 2 (lb p (k+2)) (lb p (k+1))++[lblI (lb p (k+2))]++[showI f]++[lblI (lb p (k+1))]) 400):=hide (outermost_any (word:=2) (op:=subO) (k':=k+2) hk hp (show 1<=50 by decide) (fun _ _=>rfl) ((show_adds (k:=k+2)).mono (by decide)))
 have c0:=h.c0
 have HH:=hide h
 clear hf h hB
 generalize (f:Int)=fi at*
 generalize outerD subO 2 (lb p (k+2)) (lb p (k+1))++[lblI (lb p (k+2))]++[showI f]++[lblI (lb p (k+1))]=DD at*
 go_enter Tryz.func121,Tryz.ntmps121
 go_wp2_with (first
  |(go_at_call 109;refine(HJ.out _).mono ?_;rintro e wq ⟨rfl,rfl⟩)
  |(go_at_call 117;refine(HO.out _ w0 v0 _ _ HH.out (fun x hx=>absurd hx List.not_mem_nil) (by omega)).mono ?_;rintro e wq ⟨rfl,hq⟩))
 go_end0
 exact⟨rfl,hq⟩
end
section
open Go.RowKit Go.Extern.Stop Go.Stop Go.Extern Go.Maps Go.WideMaps Go.Sort
variable {p:ByteArray} {b f:Nat} {k:Nat}
theorem enter1_none(hf:f=3):Adds 116 #[.pointer (some ⟨b,0,none⟩)] b f p k k [] [] 350:=by
 intro B w0 v0 L w h hB hL
 have HJ:Hid (∀w,Calls Tryz.prog 109 #[.int .i64 (f:Int)] w fun e w'=>e= .returned (.bool true)/\w'=w):=hide fun w=>by
  have:=counts_any (f:Int) w
  rwa [show decide ((f:Int)=3)=true from decide_eq_true (by omega)] at this
 have hq:=h.box (mptr b) 212
 have c0:(w.alloc (.cells #[.pointer (some ⟨b,0,none⟩)] 212)).cell? ⟨b,0,none⟩=some (.int .i64 f):=hq.c0
 have HH:=hide (hq.drop fun x hx=> .tail _ hx)
 clear hf h hq hB
 rw[List.append_nil]
 generalize (f:Int)=fi at*
 go_enter Tryz.func116,Tryz.ntmps116
 go_wp2_with (go_at_call 109;refine(HJ.out _).mono ?_;rintro e wq ⟨rfl,rfl⟩)
 exact bodyPost_ret (results_none (by kernel_rfl) _ _ _) rfl ⟨rfl,HH.out⟩
theorem leave1_none(hf:f=3):Adds 121 #[.pointer (some ⟨b,0,none⟩)] b f p k k [] [] 350:=by
 intro B w0 v0 L w h hB hL
 have HJ:Hid (∀w,Calls Tryz.prog 109 #[.int .i64 (f:Int)] w fun e w'=>e= .returned (.bool true)/\w'=w):=hide fun w=>by
  have:=counts_any (f:Int) w
  rwa [show decide ((f:Int)=3)=true from decide_eq_true (by omega)] at this
 have hq:=h
 have c0:=hq.c0
 have HH:=hide (hq)
 clear hf h hq hB
 rw[List.append_nil]
 generalize (f:Int)=fi at*
 go_enter Tryz.func121,Tryz.ntmps121
 go_wp2_with (go_at_call 109;refine(HJ.out _).mono ?_;rintro e wq ⟨rfl,rfl⟩)
 exact bodyPost_ret (results_none (by kernel_rfl) _ _ _) rfl ⟨rfl,HH.out⟩
theorem rest1_none(hf:f≠3):Adds 122 #[.pointer (some ⟨b,0,none⟩)] b f p k k [] [] 350:=by
 intro B w0 v0 L w h hB hL
 have HJ:Hid (∀w,Calls Tryz.prog 109 #[.int .i64 (f:Int)] w fun e w'=>e= .returned (.bool false)/\w'=w):=hide fun w=>by
  have:=counts_any (f:Int) w
  rwa [show decide ((f:Int)=3)=false from decide_eq_false (by omega)] at this
 have hq:=h.box (mptr b) 212
 have c0:(w.alloc (.cells #[.pointer (some ⟨b,0,none⟩)] 212)).cell? ⟨b,0,none⟩=some (.int .i64 f):=hq.c0
 have HH:=hide (hq.drop fun x hx=> .tail _ hx)
 clear hf h hq hB
 rw[List.append_nil]
 generalize (f:Int)=fi at*
 go_enter Tryz.func122,Tryz.ntmps122
 go_wp2_with (go_at_call 109;refine(HJ.out _).mono ?_;rintro e wq ⟨rfl,rfl⟩)
 exact bodyPost_ret (results_none (by kernel_rfl) _ _ _) rfl ⟨rfl,HH.out⟩
theorem gone1_none(hf:f≠3):Adds 108 #[.pointer (some ⟨b,0,none⟩)] b f p k k [] [] 350:=by
 intro B w0 v0 L w h hB hL
 have HJ:Hid (∀w,Calls Tryz.prog 109 #[.int .i64 (f:Int)] w fun e w'=>e= .returned (.bool false)/\w'=w):=hide fun w=>by
  have:=counts_any (f:Int) w
  rwa [show decide ((f:Int)=3)=false from decide_eq_false (by omega)] at this
 have hq:=h.box (mptr b) 212
 have c0:(w.alloc (.cells #[.pointer (some ⟨b,0,none⟩)] 212)).cell? ⟨b,0,none⟩=some (.int .i64 f):=hq.c0
 have HH:=hide (hq.drop fun x hx=> .tail _ hx)
 clear hf h hq hB
 rw[List.append_nil]
 generalize (f:Int)=fi at*
 go_enter Tryz.func108,Tryz.ntmps108
 go_wp2_with (go_at_call 109;refine(HJ.out _).mono ?_;rintro e wq ⟨rfl,rfl⟩)
 exact bodyPost_ret (results_none (by kernel_rfl) _ _ _) rfl ⟨rfl,HH.out⟩
def restD(q:ByteArray):List Ins:=[⟨⟨#[108,111,97,100]⟩,0,6,0,no⟩,⟨⟨#[122,101,114,111]⟩,0,0,0,q⟩,⟨⟨#[99,111,110,115,116]⟩,1,2,0,no⟩,⟨⟨#[97,100,100]⟩,0,0,1,no⟩,⟨⟨#[115,119,97,112]⟩,0,6,0,no⟩]
theorem rest11_any(hf:f=3)(q:ByteArray)(x1:Nat):Adds 123 #[.string q, .pointer (some ⟨x1,0,none⟩)] b f p k k [(x1,mptr b)] (restD q) 700:=by
 intro B w0 v0 L w h hB hL
 have b1:w.cell? ⟨x1,0,none⟩=some (.pointer (some ⟨b,0,none⟩)):=h.bx (hB _ (.head _))
 have HB:=hide hB
 have HR:=hide (rested_any (b:=b) (p:=p) (k:=k) hf q)
 clear hf hB
 generalize (f:Int)=fi at*
 go_enter Tryz.func123,Tryz.ntmps123
 go_wp2_with (first
  |(go_at_call 112;(first |((with_reducible show Calls _ _ #[_,_,Value.slice _ 3 _] _ _);refine(MAt.do3 (by first |exact hq |exact h) (by(try simp only[List.length_append]);(try simp only[List.length_cons]);(try simp only[List.length_nil]);omega) _ _ _ _ _ (by first |rfl |simp)).mono ?_) |((with_reducible show Calls _ _ #[_,_,Value.slice _ 2 _] _ _);refine(MAt.do2 (by first |exact hq |exact h) (by(try simp only[List.length_append]);(try simp only[List.length_cons]);(try simp only[List.length_nil]);omega) _ _ _ _ (by first |rfl |simp)).mono ?_) |((with_reducible show Calls _ _ #[_,_,Value.slice _ 1 _] _ _);refine(MAt.do1 (by first |exact hq |exact h) (by(try simp only[List.length_append]);(try simp only[List.length_cons]);(try simp only[List.length_nil]);omega) _ _ _ (by first |rfl |simp)).mono ?_) |((with_reducible show Calls _ _ #[_,_,Value.slice _ 0 _] _ _);refine(MAt.do_none (by first |exact hq |exact h) (by(try simp only[List.length_append]);(try simp only[List.length_cons]);(try simp only[List.length_nil]);omega) _).mono ?_));rintro e wq ⟨rfl,hq⟩;have b1:wq.cell? ⟨x1,0,none⟩=some (.pointer (some ⟨b,0,none⟩)):=hq.bx (HB.out _ (.head _)))
  |(go_at_call 124;refine(HR.out B w0 v0 _ _ hq (fun x hx=>absurd hx List.not_mem_nil) (by(try simp only[List.length_append]);(try simp only[List.length_cons]);(try simp only[List.length_nil]);omega)).mono ?_;rintro e wq ⟨rfl,hq⟩))
 go_end0
 refine⟨rfl,?_⟩
 simp only[List.append_assoc,List.cons_append,List.nil_append] at hq
 exact hq
def goneD:List Ins:=[⟨⟨#[99,111,110,115,116]⟩,0,0,0,no⟩,⟨⟨#[115,119,97,112]⟩,0,6,0,no⟩]
theorem gone11_any(hf:f=3)(q:ByteArray)(x1:Nat):Adds 111 #[.string q, .pointer (some ⟨x1,0,none⟩)] b f p k k [(x1,mptr b)] goneD 700:=by
 intro B w0 v0 L w h hB hL
 have b1:w.cell? ⟨x1,0,none⟩=some (.pointer (some ⟨b,0,none⟩)):=h.bx (hB _ (.head _))
 have HB:=hide hB
 have HS:Hid (Adds 113 #[.pointer (some ⟨b,0,none⟩)] b f p k k [] [⟨⟨#[115,119,97,112]⟩,0,6,0,no⟩] 900):=hide (by
  have:=show_adds (b:=b) (f:=f) (p:=p) (k:=k)
  rwa [show showI f=⟨⟨#[115,119,97,112]⟩,0,6,0,no⟩ by rw[hf];rfl] at this)
 clear hf hB
 generalize (f:Int)=fi at*
 go_enter Tryz.func111,Tryz.ntmps111
 go_wp2_with (first
  |(go_at_call 112;(first |((with_reducible show Calls _ _ #[_,_,Value.slice _ 3 _] _ _);refine(MAt.do3 (by first |exact hq |exact h) (by(try simp only[List.length_append]);(try simp only[List.length_cons]);(try simp only[List.length_nil]);omega) _ _ _ _ _ (by first |rfl |simp)).mono ?_) |((with_reducible show Calls _ _ #[_,_,Value.slice _ 2 _] _ _);refine(MAt.do2 (by first |exact hq |exact h) (by(try simp only[List.length_append]);(try simp only[List.length_cons]);(try simp only[List.length_nil]);omega) _ _ _ _ (by first |rfl |simp)).mono ?_) |((with_reducible show Calls _ _ #[_,_,Value.slice _ 1 _] _ _);refine(MAt.do1 (by first |exact hq |exact h) (by(try simp only[List.length_append]);(try simp only[List.length_cons]);(try simp only[List.length_nil]);omega) _ _ _ (by first |rfl |simp)).mono ?_) |((with_reducible show Calls _ _ #[_,_,Value.slice _ 0 _] _ _);refine(MAt.do_none (by first |exact hq |exact h) (by(try simp only[List.length_append]);(try simp only[List.length_cons]);(try simp only[List.length_nil]);omega) _).mono ?_));rintro e wq ⟨rfl,hq⟩;have b1:wq.cell? ⟨x1,0,none⟩=some (.pointer (some ⟨b,0,none⟩)):=hq.bx (HB.out _ (.head _)))
  |(go_at_call 113;refine(HS.out B w0 v0 _ _ hq (fun x hx=>absurd hx List.not_mem_nil) (by(try simp only[List.length_append]);(try simp only[List.length_cons]);(try simp only[List.length_nil]);omega)).mono ?_;rintro e wq ⟨rfl,hq⟩))
 go_end0
 refine⟨rfl,?_⟩
 simp only[List.append_assoc,List.cons_append,List.nil_append] at hq
 exact hq
theorem rest1_any (hf:f=3) (hk:k+1<=9) (hp:p.size<=1000):Adds 122 #[.pointer (some ⟨b,0,none⟩)] b f p k (k+1) [] (⟨⟨#[122,101,114,111]⟩,6,0,0,lb p (k+1)⟩::(restD (lb p (k+1))++[lblI (lb p (k+1))])) 350:=by
 intro B w0 v0 L w h hB hL
 have hmf: ∀(fn:Fn) (first cap:Array Value) (w:World),(Instr.makeFunc fn first cap).run Tryz.prog w= .ok (.func fn first cap) w:=fun _ _ _ _=>rfl
 have HJ:Hid (∀w,Calls Tryz.prog 109 #[.int .i64 (f:Int)] w fun e w'=>e= .returned (.bool true)/\w'=w):=hide fun w=>by
  have:=counts_any (f:Int) w
  rwa [show decide ((f:Int)=3)=true from decide_eq_true (by omega)] at this
 have HO:Hid (∀x1,Adds 110 #[.pointer (some ⟨b,0,none⟩), .func (.func 123) #[] #[.pointer (some ⟨x1,0,none⟩)]] b f p k (k+1) [(x1,mptr b)] (⟨⟨#[122,101,114,111]⟩,6,0,0,lb p (k+1)⟩::(restD (lb p (k+1))++[lblI (lb p (k+1))])) 600):=hide fun x1=>withOwn_any hk hp (Nat.le_of_ble_eq_true rfl) (fun _ _=>rfl) (rest11_any (k:=k+1) hf (lb p (k+1)) x1)
 have hq:=h.box (mptr b) 212
 have c0:(w.alloc (.cells #[.pointer (some ⟨b,0,none⟩)] 212)).cell? ⟨b,0,none⟩=some (.int .i64 f):=hq.c0
 have HH:=hide hq
 clear hf h hq hB
 generalize (f:Int)=fi at*
 generalize (⟨⟨#[122,101,114,111]⟩,6,0,0,lb p (k+1)⟩::(restD (lb p (k+1))++[lblI (lb p (k+1))]):List Ins)=DD at*
 go_enter Tryz.func122,Tryz.ntmps122
 go_wp2_with (first
  |(go_at_call 109;refine(HJ.out _).mono ?_;rintro e wq ⟨rfl,rfl⟩)
  | (go_at_call 110;refine(HO.out w.heap.size _ w0 v0 _ _ HH.out (fun x hx=>by
      simp only[List.mem_cons,List.not_mem_nil,or_false] at hx
      subst hx
      exact .head _) (by omega)).mono ?_;rintro e wq ⟨rfl,hq⟩))
 go_end0
 exact⟨rfl,hq.drop fun x hx=> .tail _ hx⟩
theorem gone1_any (hf:f=3) (hk:k+1<=9) (hp:p.size<=1000):Adds 108 #[.pointer (some ⟨b,0,none⟩)] b f p k (k+1) [] (⟨⟨#[122,101,114,111]⟩,6,0,0,lb p (k+1)⟩::(goneD++[lblI (lb p (k+1))])) 350:=by
 intro B w0 v0 L w h hB hL
 have hmf: ∀(fn:Fn) (first cap:Array Value) (w:World),(Instr.makeFunc fn first cap).run Tryz.prog w= .ok (.func fn first cap) w:=fun _ _ _ _=>rfl
 have HJ:Hid (∀w,Calls Tryz.prog 109 #[.int .i64 (f:Int)] w fun e w'=>e= .returned (.bool true)/\w'=w):=hide fun w=>by
  have:=counts_any (f:Int) w
  rwa [show decide ((f:Int)=3)=true from decide_eq_true (by omega)] at this
 have HO:Hid (∀x1,Adds 110 #[.pointer (some ⟨b,0,none⟩), .func (.func 111) #[] #[.pointer (some ⟨x1,0,none⟩)]] b f p k (k+1) [(x1,mptr b)] (⟨⟨#[122,101,114,111]⟩,6,0,0,lb p (k+1)⟩::(goneD++[lblI (lb p (k+1))])) 600):=hide fun x1=>withOwn_any hk hp (Nat.le_of_ble_eq_true rfl) (fun _ _=>rfl) (gone11_any (k:=k+1) hf (lb p (k+1)) x1)
 have hq:=h.box (mptr b) 212
 have c0:(w.alloc (.cells #[.pointer (some ⟨b,0,none⟩)] 212)).cell? ⟨b,0,none⟩=some (.int .i64 f):=hq.c0
 have HH:=hide hq
 clear hf h hq hB
 generalize (f:Int)=fi at*
 generalize (⟨⟨#[122,101,114,111]⟩,6,0,0,lb p (k+1)⟩::(goneD++[lblI (lb p (k+1))]):List Ins)=DD at*
 go_enter Tryz.func108,Tryz.ntmps108
 go_wp2_with (first
  |(go_at_call 109;refine(HJ.out _).mono ?_;rintro e wq ⟨rfl,rfl⟩)
  | (go_at_call 110;refine(HO.out w.heap.size _ w0 v0 _ _ HH.out (fun x hx=>by
      simp only[List.mem_cons,List.not_mem_nil,or_false] at hx
      subst hx
      exact .head _) (by omega)).mono ?_;rintro e wq ⟨rfl,hq⟩))
 go_end0
 exact⟨rfl,hq.drop fun x hx=> .tail _ hx⟩
end
section
open Go.RowKit Go.Extern.Stop Go.Stop Go.Extern Go.Maps Go.WideMaps Go.Sort
variable {p:ByteArray} {b f:Nat} {S:List (Nat×Value)} {fs caps:Array Value} {D:List Ins} {k k':Nat}
def away1D:List Ins:=[⟨⟨#[99,111,110,115,116]⟩,0,0,0,no⟩,⟨⟨#[115,119,97,112]⟩,0,6,0,no⟩,⟨⟨#[115,119,97,112]⟩,0,6,3,no⟩]
def away2D(q:ByteArray):List Ins:=[⟨⟨#[108,111,97,100]⟩,0,6,3,no⟩,⟨⟨#[122,101,114,111]⟩,0,0,0,q⟩,⟨⟨#[99,111,110,115,116]⟩,1,2,0,no⟩,⟨⟨#[97,100,100]⟩,0,0,1,no⟩,⟨⟨#[115,119,97,112]⟩,0,6,0,no⟩]
theorem away1_any{k:Nat}(hf:f=3)(q:ByteArray)(x1:Nat):Adds 191 #[.string q, .pointer (some ⟨x1,0,none⟩)] b f p k k [(x1,mptr b)] away1D 700:=by
 intro B w0 v0 L w h hB hL
 have b1:w.cell? ⟨x1,0,none⟩=some (.pointer (some ⟨b,0,none⟩)):=h.bx (hB _ (.head _))
 have HB:=hide hB
 have HS:Hid (Adds 113 #[.pointer (some ⟨b,0,none⟩)] b f p k k [] [⟨⟨#[115,119,97,112]⟩,0,6,0,no⟩] 900):=hide (by
  have:=show_adds (b:=b) (f:=f) (p:=p) (k:=k)
  rwa [show showI f=⟨⟨#[115,119,97,112]⟩,0,6,0,no⟩ by rw[hf];rfl] at this)
 clear hf hB
 generalize (f:Int)=fi at*
 go_enter Tryz.func191,Tryz.ntmps191
 go_wp2_with (first
  |(go_at_call 112;(first |((with_reducible show Calls _ _ #[_,_,Value.slice _ 3 _] _ _);refine(MAt.do3 (by first |exact hq |exact h) (by(try simp only[List.length_append]);(try simp only[List.length_cons]);(try simp only[List.length_nil]);omega) _ _ _ _ _ (by first |rfl |simp)).mono ?_) |((with_reducible show Calls _ _ #[_,_,Value.slice _ 2 _] _ _);refine(MAt.do2 (by first |exact hq |exact h) (by(try simp only[List.length_append]);(try simp only[List.length_cons]);(try simp only[List.length_nil]);omega) _ _ _ _ (by first |rfl |simp)).mono ?_) |((with_reducible show Calls _ _ #[_,_,Value.slice _ 1 _] _ _);refine(MAt.do1 (by first |exact hq |exact h) (by(try simp only[List.length_append]);(try simp only[List.length_cons]);(try simp only[List.length_nil]);omega) _ _ _ (by first |rfl |simp)).mono ?_) |((with_reducible show Calls _ _ #[_,_,Value.slice _ 0 _] _ _);refine(MAt.do_none (by first |exact hq |exact h) (by(try simp only[List.length_append]);(try simp only[List.length_cons]);(try simp only[List.length_nil]);omega) _).mono ?_));rintro e wq ⟨rfl,hq⟩;have b1:wq.cell? ⟨x1,0,none⟩=some (.pointer (some ⟨b,0,none⟩)):=hq.bx (HB.out _ (.head _)))
  |(go_at_call 113;refine(HS.out B w0 v0 _ _ hq (fun x hx=>absurd hx List.not_mem_nil) (by(try simp only[List.length_append]);(try simp only[List.length_cons]);(try simp only[List.length_nil]);omega)).mono ?_;rintro e wq ⟨rfl,hq⟩;have b1:wq.cell? ⟨x1,0,none⟩=some (.pointer (some ⟨b,0,none⟩)):=hq.bx (HB.out _ (.head _))))
 go_end0
 refine⟨rfl,?_⟩
 simp only[List.append_assoc,List.cons_append,List.nil_append] at hq
 exact hq
theorem away2_any{k:Nat}(hf:f=3)(q:ByteArray)(x1:Nat):Adds 192 #[.string q, .pointer (some ⟨x1,0,none⟩)] b f p k k [(x1,mptr b)] (away2D q) 700:=by
 intro B w0 v0 L w h hB hL
 have b1:w.cell? ⟨x1,0,none⟩=some (.pointer (some ⟨b,0,none⟩)):=h.bx (hB _ (.head _))
 have HB:=hide hB
 have HR:=hide (rested_any (b:=b) (p:=p) (k:=k) hf q)
 clear hf hB
 generalize (f:Int)=fi at*
 go_enter Tryz.func192,Tryz.ntmps192
 go_wp2_with (first
  |(go_at_call 112;(first |((with_reducible show Calls _ _ #[_,_,Value.slice _ 3 _] _ _);refine(MAt.do3 (by first |exact hq |exact h) (by(try simp only[List.length_append]);(try simp only[List.length_cons]);(try simp only[List.length_nil]);omega) _ _ _ _ _ (by first |rfl |simp)).mono ?_) |((with_reducible show Calls _ _ #[_,_,Value.slice _ 2 _] _ _);refine(MAt.do2 (by first |exact hq |exact h) (by(try simp only[List.length_append]);(try simp only[List.length_cons]);(try simp only[List.length_nil]);omega) _ _ _ _ (by first |rfl |simp)).mono ?_) |((with_reducible show Calls _ _ #[_,_,Value.slice _ 1 _] _ _);refine(MAt.do1 (by first |exact hq |exact h) (by(try simp only[List.length_append]);(try simp only[List.length_cons]);(try simp only[List.length_nil]);omega) _ _ _ (by first |rfl |simp)).mono ?_) |((with_reducible show Calls _ _ #[_,_,Value.slice _ 0 _] _ _);refine(MAt.do_none (by first |exact hq |exact h) (by(try simp only[List.length_append]);(try simp only[List.length_cons]);(try simp only[List.length_nil]);omega) _).mono ?_));rintro e wq ⟨rfl,hq⟩;have b1:wq.cell? ⟨x1,0,none⟩=some (.pointer (some ⟨b,0,none⟩)):=hq.bx (HB.out _ (.head _)))
  |(go_at_call 124;refine(HR.out B w0 v0 _ _ hq (fun x hx=>absurd hx List.not_mem_nil) (by(try simp only[List.length_append]);(try simp only[List.length_cons]);(try simp only[List.length_nil]);omega)).mono ?_;rintro e wq ⟨rfl,hq⟩))
 go_end0
 refine⟨rfl,?_⟩
 simp only[List.append_assoc,List.cons_append,List.nil_append] at hq
 exact hq
theorem away_plain(hf:f≠3){n:Nat}(hn:Fn.goes n)(hc:Adds n (fs++caps) b f p k k' S D 350):
  Adds 126 #[.pointer (some ⟨b,0,none⟩), .func (.func n) fs caps] b f p k k' S D 350:=by
 intro B w0 v0 L w h hB hL
 have HJ:Hid (∀w,Calls Tryz.prog 109 #[.int .i64 (f:Int)] w fun e w'=>e= .returned (.bool false)/\w'=w):=hide fun w=>by
  have:=counts_any (f:Int) w
  rwa [show decide ((f:Int)=3)=false from decide_eq_false (by omega)] at this
 have hq:=h.box (mptr b) 212
 have c0:(w.alloc (.cells #[.pointer (some ⟨b,0,none⟩)] 212)).cell? ⟨b,0,none⟩=some (.int .i64 f):=hq.c0
 have HH:=hide hq
 have HC:=hide hc
 have HN:=hide hn
 have HB:=hide hB
 clear hf h hq hB hc hn
 generalize (f:Int)=fi at*
 go_enter Tryz.func126,Tryz.ntmps126
 go_wp2_with (go_at_call 109;refine(HJ.out _).mono ?_;rintro e wq ⟨rfl,rfl⟩)
 rw[HN.out,Oper.upon_enter]
 refine(HC.out _ w0 v0 _ _ HH.out (fun x hx=> .tail _ (HB.out x hx)) hL).mono ?_
 rintro e w2 ⟨rfl,h2⟩
 dsimp only
 go_wp2
 exact bodyPost_ret (results_none (by kernel_rfl) _ _ _) rfl ⟨rfl,h2.drop fun x hx=> .tail _ hx⟩
theorem away_counts (hf:f=3) (hk:k+1<=9) (hk':k'+1<=9) (hp:p.size<=1000) {n:Nat} (hD:D.length<=100) (hn:Fn.goes n) (hc:Adds n (fs++caps) b f p (k+1) k' S D 350):
  Adds 126 #[.pointer (some ⟨b,0,none⟩), .func (.func n) fs caps] b f p k (k'+1) S ((⟨⟨#[122,101,114,111]⟩,6,0,0,lb p (k+1)⟩::(away1D++[lblI (lb p (k+1))]))++D++(⟨⟨#[122,101,114,111]⟩,6,0,0,lb p (k'+1)⟩::(away2D (lb p (k'+1))++[lblI (lb p (k'+1))]))) 300:=by
 intro B w0 v0 L w h hB hL
 have hmf: ∀(fn:Fn) (first cap:Array Value) (w:World),(Instr.makeFunc fn first cap).run Tryz.prog w= .ok (.func fn first cap) w:=fun _ _ _ _=>rfl
 have HJ:Hid (∀w,Calls Tryz.prog 109 #[.int .i64 (f:Int)] w fun e w'=>e= .returned (.bool true)/\w'=w):=hide fun w=>by
  have:=counts_any (f:Int) w
  rwa [show decide ((f:Int)=3)=true from decide_eq_true (by omega)] at this
 have HO1:Hid (∀x1,Adds 110 #[.pointer (some ⟨b,0,none⟩), .func (.func 191) #[] #[.pointer (some ⟨x1,0,none⟩)]] b f p k (k+1) [(x1,mptr b)] (⟨⟨#[122,101,114,111]⟩,6,0,0,lb p (k+1)⟩::(away1D++[lblI (lb p (k+1))])) 600):=hide fun x1=>withOwn_any hk hp (Nat.le_of_ble_eq_true rfl) (fun _ _=>rfl) (away1_any (k:=k+1) hf (lb p (k+1)) x1)
 have HO2:Hid (∀x1,Adds 110 #[.pointer (some ⟨b,0,none⟩), .func (.func 192) #[] #[.pointer (some ⟨x1,0,none⟩)]] b f p k' (k'+1) [(x1,mptr b)] (⟨⟨#[122,101,114,111]⟩,6,0,0,lb p (k'+1)⟩::(away2D (lb p (k'+1))++[lblI (lb p (k'+1))])) 600):=hide fun x1=>withOwn_any hk' hp (Nat.le_of_ble_eq_true rfl) (fun _ _=>rfl) (away2_any (k:=k'+1) hf (lb p (k'+1)) x1)
 have hq:=h.box (mptr b) 212
 have c0:(w.alloc (.cells #[.pointer (some ⟨b,0,none⟩)] 212)).cell? ⟨b,0,none⟩=some (.int .i64 f):=hq.c0
 have HH:=hide hq
 have HC:=hide hc
 have HN:=hide hn
 have HB:=hide hB
 clear hf h hq hB hc hn
 generalize (f:Int)=fi at*
 generalize hD1:(⟨⟨#[122,101,114,111]⟩,6,0,0,lb p (k+1)⟩::(away1D++[lblI (lb p (k+1))]):List Ins)=D1 at*
 generalize (⟨⟨#[122,101,114,111]⟩,6,0,0,lb p (k'+1)⟩::(away2D (lb p (k'+1))++[lblI (lb p (k'+1))]):List Ins)=D2 at*
 have hl1:D1.length=5:=by rw[<-hD1];rfl
 go_enter Tryz.func126,Tryz.ntmps126
 go_wp2_with (first
  |(go_at_call 109;refine(HJ.out _).mono ?_;rintro e wq ⟨rfl,rfl⟩)
  | (go_at_call 110;refine(HO1.out w.heap.size _ w0 v0 _ _ HH.out (fun x hx=>by
      simp only[List.mem_cons,List.not_mem_nil,or_false] at hx
      subst hx
      exact .head _) (by omega)).mono ?_;rintro e wq ⟨rfl,hq⟩))
 rw[HN.out,Oper.upon_enter]
 refine(HC.out _ w0 v0 _ _ hq (fun x hx=> .tail _ (HB.out x hx)) (by(try simp only[List.length_append]);(try simp only[List.length_cons]);(try simp only[List.length_nil]);omega)).mono ?_
 rintro e w2 ⟨rfl,h2⟩
 have b2:w2.cell? ⟨w.heap.size,0,none⟩=some (.pointer (some ⟨b,0,none⟩)):=h2.bx (.head _)
 dsimp only
 go_wp2_with (go_at_call 110;refine(HO2.out w.heap.size _ w0 v0 _ _ h2 (fun x hx=>by
    simp only[List.mem_cons,List.not_mem_nil,or_false] at hx
    subst hx
    exact .head _) (by(try simp only[List.length_append]);(try simp only[List.length_cons]);(try simp only[List.length_nil]);omega)).mono ?_;rintro e w3 ⟨rfl,h3⟩)
 go_end0
 refine⟨rfl,?_⟩
 have h4:=h3.drop (B':=B) fun x hx=> .tail _ hx
 simp only[List.append_assoc] at h4 ⊢
 exact h4
end
section
open Go.RowKit Go.Extern.Stop Go.Stop Go.Extern Go.Maps Go.WideMaps Go.Sort
variable {p:ByteArray} {b f:Nat} {k:Nat}
def outlD(f:Nat)(q:ByteArray):List Ins:=(if f=2 then [⟨⟨#[102,111,114,99,101]⟩,0,0,0,no⟩] else [])++[⟨⟨#[108,111,97,100]⟩,0,2,0,no⟩,⟨⟨#[115,97,109,101]⟩,0,1,0,q⟩]
theorem outl1_forces(hf:f=2)(q:ByteArray)(x1:Nat):Adds 196 #[.string q, .pointer (some ⟨x1,0,none⟩)] b f p k k [(x1,mptr b)] (outlD f q) 700:=by
 intro B w0 v0 L w h hB hL
 have b1:w.cell? ⟨x1,0,none⟩=some (.pointer (some ⟨b,0,none⟩)):=h.bx (hB _ (.head _))
 have c0:=h.c0
 have HB:=hide hB
 have HJ:=hide (forces_any (f:Int) w)
 rw[show decide ((f:Int)=2)=true from decide_eq_true (by omega)] at HJ
 have e:outlD f q=⟨⟨#[102,111,114,99,101]⟩,0,0,0,no⟩::[⟨⟨#[108,111,97,100]⟩,0,2,0,no⟩,⟨⟨#[115,97,109,101]⟩,0,1,0,q⟩]:=by unfold outlD;rw[if_pos hf];rfl
 rw[e]
 clear hB hf e
 generalize (f:Int)=fi at*
 go_enter Tryz.func196,Tryz.ntmps196
 go_wp2_with (first
  |(go_at_call 182;refine HJ.out.mono ?_;rintro e wq ⟨rfl,rfl⟩)
  |(go_at_call 112;(first |((with_reducible show Calls _ _ #[_,_,Value.slice _ 3 _] _ _);refine(MAt.do3 (by first |exact hq |exact h) (by(try simp only[List.length_append]);(try simp only[List.length_cons]);(try simp only[List.length_nil]);omega) _ _ _ _ _ (by first |rfl |simp)).mono ?_) |((with_reducible show Calls _ _ #[_,_,Value.slice _ 2 _] _ _);refine(MAt.do2 (by first |exact hq |exact h) (by(try simp only[List.length_append]);(try simp only[List.length_cons]);(try simp only[List.length_nil]);omega) _ _ _ _ (by first |rfl |simp)).mono ?_) |((with_reducible show Calls _ _ #[_,_,Value.slice _ 1 _] _ _);refine(MAt.do1 (by first |exact hq |exact h) (by(try simp only[List.length_append]);(try simp only[List.length_cons]);(try simp only[List.length_nil]);omega) _ _ _ (by first |rfl |simp)).mono ?_) |((with_reducible show Calls _ _ #[_,_,Value.slice _ 0 _] _ _);refine(MAt.do_none (by first |exact hq |exact h) (by(try simp only[List.length_append]);(try simp only[List.length_cons]);(try simp only[List.length_nil]);omega) _).mono ?_));rintro e wq ⟨rfl,hq⟩;have b1:wq.cell? ⟨x1,0,none⟩=some (.pointer (some ⟨b,0,none⟩)):=hq.bx (HB.out _ (.head _)))
  |(go_at_call 181;(first |((with_reducible show Calls _ _ #[_,_,_,Value.slice _ 3 _] _ _);refine(MAt.to3 (by first |exact hq |exact h) (by(try simp only[List.length_append]);(try simp only[List.length_cons]);(try simp only[List.length_nil]);omega) _ _ _ _ _ _ (by first |rfl |simp)).mono ?_) |((with_reducible show Calls _ _ #[_,_,_,Value.slice _ 2 _] _ _);refine(MAt.to2 (by first |exact hq |exact h) (by(try simp only[List.length_append]);(try simp only[List.length_cons]);(try simp only[List.length_nil]);omega) _ _ _ _ _ (by first |rfl |simp)).mono ?_) |((with_reducible show Calls _ _ #[_,_,_,Value.slice _ 1 _] _ _);refine(MAt.to1 (by first |exact hq |exact h) (by(try simp only[List.length_append]);(try simp only[List.length_cons]);(try simp only[List.length_nil]);omega) _ _ _ _ (by first |rfl |simp)).mono ?_) |((with_reducible show Calls _ _ #[_,_,_,Value.slice _ 0 _] _ _);refine(MAt.to_none (by first |exact hq |exact h) (by(try simp only[List.length_append]);(try simp only[List.length_cons]);(try simp only[List.length_nil]);omega) _ _).mono ?_));rintro e wq ⟨rfl,hq⟩))
 go_end0
 refine⟨rfl,?_⟩
 simp only[List.append_assoc,List.cons_append,List.nil_append] at hq
 exact hq
theorem outl1_plain(hf:f≠2)(q:ByteArray)(x1:Nat):Adds 196 #[.string q, .pointer (some ⟨x1,0,none⟩)] b f p k k [(x1,mptr b)] (outlD f q) 700:=by
 intro B w0 v0 L w h hB hL
 have b1:w.cell? ⟨x1,0,none⟩=some (.pointer (some ⟨b,0,none⟩)):=h.bx (hB _ (.head _))
 have c0:=h.c0
 have HB:=hide hB
 have HJ:=hide (forces_any (f:Int) w)
 rw[show decide ((f:Int)=2)=false from decide_eq_false (by omega)] at HJ
 have e:outlD f q=[⟨⟨#[108,111,97,100]⟩,0,2,0,no⟩,⟨⟨#[115,97,109,101]⟩,0,1,0,q⟩]:=by unfold outlD;rw[if_neg hf];rfl
 rw[e]
 clear hB hf e
 generalize (f:Int)=fi at*
 go_enter Tryz.func196,Tryz.ntmps196
 go_wp2_with (first
  |(go_at_call 182;refine HJ.out.mono ?_;rintro e wq ⟨rfl,rfl⟩)
  |(go_at_call 112;(first |((with_reducible show Calls _ _ #[_,_,Value.slice _ 3 _] _ _);refine(MAt.do3 (by first |exact hq |exact h) (by(try simp only[List.length_append]);(try simp only[List.length_cons]);(try simp only[List.length_nil]);omega) _ _ _ _ _ (by first |rfl |simp)).mono ?_) |((with_reducible show Calls _ _ #[_,_,Value.slice _ 2 _] _ _);refine(MAt.do2 (by first |exact hq |exact h) (by(try simp only[List.length_append]);(try simp only[List.length_cons]);(try simp only[List.length_nil]);omega) _ _ _ _ (by first |rfl |simp)).mono ?_) |((with_reducible show Calls _ _ #[_,_,Value.slice _ 1 _] _ _);refine(MAt.do1 (by first |exact hq |exact h) (by(try simp only[List.length_append]);(try simp only[List.length_cons]);(try simp only[List.length_nil]);omega) _ _ _ (by first |rfl |simp)).mono ?_) |((with_reducible show Calls _ _ #[_,_,Value.slice _ 0 _] _ _);refine(MAt.do_none (by first |exact hq |exact h) (by(try simp only[List.length_append]);(try simp only[List.length_cons]);(try simp only[List.length_nil]);omega) _).mono ?_));rintro e wq ⟨rfl,hq⟩;have b1:wq.cell? ⟨x1,0,none⟩=some (.pointer (some ⟨b,0,none⟩)):=hq.bx (HB.out _ (.head _)))
  |(go_at_call 181;(first |((with_reducible show Calls _ _ #[_,_,_,Value.slice _ 3 _] _ _);refine(MAt.to3 (by first |exact hq |exact h) (by(try simp only[List.length_append]);(try simp only[List.length_cons]);(try simp only[List.length_nil]);omega) _ _ _ _ _ _ (by first |rfl |simp)).mono ?_) |((with_reducible show Calls _ _ #[_,_,_,Value.slice _ 2 _] _ _);refine(MAt.to2 (by first |exact hq |exact h) (by(try simp only[List.length_append]);(try simp only[List.length_cons]);(try simp only[List.length_nil]);omega) _ _ _ _ _ (by first |rfl |simp)).mono ?_) |((with_reducible show Calls _ _ #[_,_,_,Value.slice _ 1 _] _ _);refine(MAt.to1 (by first |exact hq |exact h) (by(try simp only[List.length_append]);(try simp only[List.length_cons]);(try simp only[List.length_nil]);omega) _ _ _ _ (by first |rfl |simp)).mono ?_) |((with_reducible show Calls _ _ #[_,_,_,Value.slice _ 0 _] _ _);refine(MAt.to_none (by first |exact hq |exact h) (by(try simp only[List.length_append]);(try simp only[List.length_cons]);(try simp only[List.length_nil]);omega) _ _).mono ?_));rintro e wq ⟨rfl,hq⟩))
 go_end0
 refine⟨rfl,?_⟩
 simp only[List.append_assoc,List.cons_append,List.nil_append] at hq
 exact hq
theorem outl1_any(q:ByteArray)(x1:Nat):Adds 196 #[.string q, .pointer (some ⟨x1,0,none⟩)] b f p k k [(x1,mptr b)] (outlD f q) 700:=by
 by_cases h:f=2
 ·exact outl1_forces h q x1
 ·exact outl1_plain h q x1
def renD(f:Nat):List Ins:=if f=3 then [⟨⟨#[109,111,118,101]⟩,1,0,0,no⟩] else gCode no [.const 1 2, .add 1 1 0, .cas 7 0 0, .const 0 2, .sub 1 1 0]
def outD(f:Nat)(p:ByteArray)(k:Nat)(q:ByteArray):List Ins:=[⟨⟨#[108,111,97,100]⟩,0,2,0,no⟩,⟨⟨#[122,101,114,111]⟩,0,0,0,q⟩]++renD f++(lblI (lb p (k+1))::outlD f (lb p (k+1)))
theorem outlast_counts (hf:f=3) (hk:k+1<=9) (hp:p.size<=1000) (q:ByteArray):Adds 130 #[.pointer (some ⟨b,0,none⟩), .string q] b f p k (k+1) [] (outD f p k q) 600:=by
 intro B w0 v0 L w h hB hL
 have hmf: ∀(fn:Fn) (first cap:Array Value) (w:World),(Instr.makeFunc fn first cap).run Tryz.prog w= .ok (.func fn first cap) w:=fun _ _ _ _=>rfl
 have HG:Hid (Fn.goes 196):=hide fun _ _=>rfl
 have HJ:Hid (∀w,Calls Tryz.prog 109 #[.int .i64 (f:Int)] w fun e w'=>e= .returned (.bool true)/\w'=w):=hide fun w=>by
  have:=counts_any (f:Int) w
  rwa [show decide ((f:Int)=3)=true from decide_eq_true (by omega)] at this
 have HI:Hid (∀x1,Adds 196 (#[.string (lb p (k+1))]++#[.pointer (some ⟨x1,0,none⟩)]) b f p (k+1) (k+1) [(x1,mptr b)] (outlD f (lb p (k+1))) 700):=hide fun x1=>outl1_any (lb p (k+1)) x1
 have hq:=h.box (mptr b) 212
 have b1:(w.alloc (.cells #[.pointer (some ⟨b,0,none⟩)] 212)).cell? ⟨w.heap.size,0,none⟩=some (.pointer (some ⟨b,0,none⟩)):=hq.bx (.head _)
 have e:outD f p k q=[⟨⟨#[108,111,97,100]⟩,0,2,0,no⟩,⟨⟨#[122,101,114,111]⟩,0,0,0,q⟩]++[⟨⟨#[109,111,118,101]⟩,1,0,0,no⟩]++(lblI (lb p (k+1))::outlD f (lb p (k+1))):=by unfold outD renD;rw[if_pos hf]
 rw[e]
 clear h hB hf e
 generalize outlD f (lb p (k+1))=DD at*
 generalize (f:Int)=fi at*
 go_enter Tryz.func130,Tryz.ntmps130
 go_wp2_with (first
  |(go_at_call 112;(first |((with_reducible show Calls _ _ #[_,_,Value.slice _ 3 _] _ _);refine(MAt.do3 (by first |exact hq |exact h) (by(try simp only[List.length_append]);(try simp only[List.length_cons]);(try simp only[List.length_nil]);omega) _ _ _ _ _ (by first |rfl |simp)).mono ?_) |((with_reducible show Calls _ _ #[_,_,Value.slice _ 2 _] _ _);refine(MAt.do2 (by first |exact hq |exact h) (by(try simp only[List.length_append]);(try simp only[List.length_cons]);(try simp only[List.length_nil]);omega) _ _ _ _ (by first |rfl |simp)).mono ?_) |((with_reducible show Calls _ _ #[_,_,Value.slice _ 1 _] _ _);refine(MAt.do1 (by first |exact hq |exact h) (by(try simp only[List.length_append]);(try simp only[List.length_cons]);(try simp only[List.length_nil]);omega) _ _ _ (by first |rfl |simp)).mono ?_) |((with_reducible show Calls _ _ #[_,_,Value.slice _ 0 _] _ _);refine(MAt.do_none (by first |exact hq |exact h) (by(try simp only[List.length_append]);(try simp only[List.length_cons]);(try simp only[List.length_nil]);omega) _).mono ?_));rintro e wq ⟨rfl,hq⟩;have b1:wq.cell? ⟨w.heap.size,0,none⟩=some (.pointer (some ⟨b,0,none⟩)):=hq.bx (.head _))
  |(go_at_call 181;(first |((with_reducible show Calls _ _ #[_,_,_,Value.slice _ 3 _] _ _);refine(MAt.to3 (by first |exact hq |exact h) (by(try simp only[List.length_append]);(try simp only[List.length_cons]);(try simp only[List.length_nil]);omega) _ _ _ _ _ _ (by first |rfl |simp)).mono ?_) |((with_reducible show Calls _ _ #[_,_,_,Value.slice _ 2 _] _ _);refine(MAt.to2 (by first |exact hq |exact h) (by(try simp only[List.length_append]);(try simp only[List.length_cons]);(try simp only[List.length_nil]);omega) _ _ _ _ _ (by first |rfl |simp)).mono ?_) |((with_reducible show Calls _ _ #[_,_,_,Value.slice _ 1 _] _ _);refine(MAt.to1 (by first |exact hq |exact h) (by(try simp only[List.length_append]);(try simp only[List.length_cons]);(try simp only[List.length_nil]);omega) _ _ _ _ (by first |rfl |simp)).mono ?_) |((with_reducible show Calls _ _ #[_,_,_,Value.slice _ 0 _] _ _);refine(MAt.to_none (by first |exact hq |exact h) (by(try simp only[List.length_append]);(try simp only[List.length_cons]);(try simp only[List.length_nil]);omega) _ _).mono ?_));rintro e wq ⟨rfl,hq⟩;have b1:wq.cell? ⟨w.heap.size,0,none⟩=some (.pointer (some ⟨b,0,none⟩)):=hq.bx (.head _);have c0:=hq.c0)
  |(go_at_call 109;refine(HJ.out _).mono ?_;rintro e wz ⟨rfl,rfl⟩)
  | (go_at_call 189;refine(MAt.loop (k':=k+1) hq hk hp DD _ HG.out _ (by(try simp only[List.length_append]);(try simp only[List.length_cons]);(try simp only[List.length_nil]);omega) (fun w1 w2 v2 h1=>HI.out _ _ w2 v2 _ w1 h1 (fun x hx=>by
      simp only[List.mem_cons,List.not_mem_nil,or_false] at hx
      subst hx
      exact .head _) (by(try simp only[List.length_append]);(try simp only[List.length_cons]);(try simp only[List.length_nil]);omega))).mono ?_;rintro e wq ⟨rfl,hq⟩))
 go_end0
 refine⟨rfl,?_⟩
 have h4:=hq.drop (B':=B) fun x hx=> .tail _ hx
 simp only[List.append_assoc,List.cons_append,List.nil_append] at h4 ⊢
 exact h4
theorem outlast_plain (hf:f≠3) (hk:k+1<=9) (hp:p.size<=1000) (q:ByteArray):Adds 130 #[.pointer (some ⟨b,0,none⟩), .string q] b f p k (k+1) [] (outD f p k q) 600:=by
 intro B w0 v0 L w h hB hL
 have hmf: ∀(fn:Fn) (first cap:Array Value) (w:World),(Instr.makeFunc fn first cap).run Tryz.prog w= .ok (.func fn first cap) w:=fun _ _ _ _=>rfl
 have HG:Hid (Fn.goes 196):=hide fun _ _=>rfl
 have HJ:Hid (∀w,Calls Tryz.prog 109 #[.int .i64 (f:Int)] w fun e w'=>e= .returned (.bool false)/\w'=w):=hide fun w=>by
  have:=counts_any (f:Int) w
  rwa [show decide ((f:Int)=3)=false from decide_eq_false (by omega)] at this
 have HI:Hid (∀x1,Adds 196 (#[.string (lb p (k+1))]++#[.pointer (some ⟨x1,0,none⟩)]) b f p (k+1) (k+1) [(x1,mptr b)] (outlD f (lb p (k+1))) 700):=hide fun x1=>outl1_any (lb p (k+1)) x1
 have HR:Hid (∀B L w,MAt b f p k B w0 v0 L w->L.length<=900->Calls Tryz.prog 195 #[.pointer (some ⟨b,0,none⟩)] w fun e w'=>e= .returned (.tuple #[])/\MAt b f p k B w0 v0 (L++(gCode no [.const 1 2, .add 1 1 0, .cas 7 0 0, .const 0 2, .sub 1 1 0])) w'):=hide fun B L w h hL=>renumber_any h hL
 have hRl:(gCode no [.const 1 2, .add 1 1 0, .cas 7 0 0, .const 0 2, .sub 1 1 0]).length=5:=rfl
 have hq:=h.box (mptr b) 212
 have b1:(w.alloc (.cells #[.pointer (some ⟨b,0,none⟩)] 212)).cell? ⟨w.heap.size,0,none⟩=some (.pointer (some ⟨b,0,none⟩)):=hq.bx (.head _)
 have e:outD f p k q=[⟨⟨#[108,111,97,100]⟩,0,2,0,no⟩,⟨⟨#[122,101,114,111]⟩,0,0,0,q⟩]++(gCode no [.const 1 2, .add 1 1 0, .cas 7 0 0, .const 0 2, .sub 1 1 0])++(lblI (lb p (k+1))::outlD f (lb p (k+1))):=by unfold outD renD;rw[if_neg hf]
 rw[e]
 clear h hB hf e
 generalize outlD f (lb p (k+1))=DD at*
 generalize (gCode no [.const 1 2, .add 1 1 0, .cas 7 0 0, .const 0 2, .sub 1 1 0])=RD at*
 generalize (f:Int)=fi at*
 go_enter Tryz.func130,Tryz.ntmps130
 go_wp2_with (first
  |(go_at_call 112;(first |((with_reducible show Calls _ _ #[_,_,Value.slice _ 3 _] _ _);refine(MAt.do3 (by first |exact hq |exact h) (by(try simp only[List.length_append]);(try simp only[List.length_cons]);(try simp only[List.length_nil]);omega) _ _ _ _ _ (by first |rfl |simp)).mono ?_) |((with_reducible show Calls _ _ #[_,_,Value.slice _ 2 _] _ _);refine(MAt.do2 (by first |exact hq |exact h) (by(try simp only[List.length_append]);(try simp only[List.length_cons]);(try simp only[List.length_nil]);omega) _ _ _ _ (by first |rfl |simp)).mono ?_) |((with_reducible show Calls _ _ #[_,_,Value.slice _ 1 _] _ _);refine(MAt.do1 (by first |exact hq |exact h) (by(try simp only[List.length_append]);(try simp only[List.length_cons]);(try simp only[List.length_nil]);omega) _ _ _ (by first |rfl |simp)).mono ?_) |((with_reducible show Calls _ _ #[_,_,Value.slice _ 0 _] _ _);refine(MAt.do_none (by first |exact hq |exact h) (by(try simp only[List.length_append]);(try simp only[List.length_cons]);(try simp only[List.length_nil]);omega) _).mono ?_));rintro e wq ⟨rfl,hq⟩;have b1:wq.cell? ⟨w.heap.size,0,none⟩=some (.pointer (some ⟨b,0,none⟩)):=hq.bx (.head _))
  |(go_at_call 181;(first |((with_reducible show Calls _ _ #[_,_,_,Value.slice _ 3 _] _ _);refine(MAt.to3 (by first |exact hq |exact h) (by(try simp only[List.length_append]);(try simp only[List.length_cons]);(try simp only[List.length_nil]);omega) _ _ _ _ _ _ (by first |rfl |simp)).mono ?_) |((with_reducible show Calls _ _ #[_,_,_,Value.slice _ 2 _] _ _);refine(MAt.to2 (by first |exact hq |exact h) (by(try simp only[List.length_append]);(try simp only[List.length_cons]);(try simp only[List.length_nil]);omega) _ _ _ _ _ (by first |rfl |simp)).mono ?_) |((with_reducible show Calls _ _ #[_,_,_,Value.slice _ 1 _] _ _);refine(MAt.to1 (by first |exact hq |exact h) (by(try simp only[List.length_append]);(try simp only[List.length_cons]);(try simp only[List.length_nil]);omega) _ _ _ _ (by first |rfl |simp)).mono ?_) |((with_reducible show Calls _ _ #[_,_,_,Value.slice _ 0 _] _ _);refine(MAt.to_none (by first |exact hq |exact h) (by(try simp only[List.length_append]);(try simp only[List.length_cons]);(try simp only[List.length_nil]);omega) _ _).mono ?_));rintro e wq ⟨rfl,hq⟩;have b1:wq.cell? ⟨w.heap.size,0,none⟩=some (.pointer (some ⟨b,0,none⟩)):=hq.bx (.head _);have c0:=hq.c0)
  |(go_at_call 109;refine(HJ.out _).mono ?_;rintro e wz ⟨rfl,rfl⟩)
  |(go_at_call 195;refine(HR.out _ _ _ hq (by(try simp only[List.length_append]);(try simp only[List.length_cons]);(try simp only[List.length_nil]);omega)).mono ?_;rintro e wq ⟨rfl,hq⟩;have b1:wq.cell? ⟨w.heap.size,0,none⟩=some (.pointer (some ⟨b,0,none⟩)):=hq.bx (.head _))
  | (go_at_call 189;refine(MAt.loop (k':=k+1) hq hk hp DD _ HG.out _ (by(try simp only[List.length_append]);(try simp only[List.length_cons]);(try simp only[List.length_nil]);omega) (fun w1 w2 v2 h1=>HI.out _ _ w2 v2 _ w1 h1 (fun x hx=>by
      simp only[List.mem_cons,List.not_mem_nil,or_false] at hx
      subst hx
      exact .head _) (by(try simp only[List.length_append]);(try simp only[List.length_cons]);(try simp only[List.length_nil]);omega))).mono ?_;rintro e wq ⟨rfl,hq⟩))
 go_end0
 refine⟨rfl,?_⟩
 have h4:=hq.drop (B':=B) fun x hx=> .tail _ hx
 simp only[List.append_assoc,List.cons_append,List.nil_append] at h4 ⊢
 exact h4
theorem outlast_any(hk:k+1<=9)(hp:p.size<=1000)(q:ByteArray):Adds 130 #[.pointer (some ⟨b,0,none⟩), .string q] b f p k (k+1) [] (outD f p k q) 600:=by
 by_cases h:f=3
 ·exact outlast_counts h hk hp q
 ·exact outlast_plain h hk hp q
end
end Go.Proofs.YtnoigmdmgdcliaaGreatDoor
