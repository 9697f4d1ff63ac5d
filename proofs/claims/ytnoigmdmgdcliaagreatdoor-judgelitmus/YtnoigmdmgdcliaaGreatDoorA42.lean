import Derived.Test.YtnoigmdmgdcliaaGreatDoorA41
import Derived.Test.YtnoigmdmgdcliaaGreatDoorA40
import Derived.Test.YtnoigmdmgdcliaaGreatDoorA09
import Derived.Test.YtnoigmdmgdcliaaGreatDoorProg
import Derived.Test.YtnoigmdmgdcliaaGreatDoorA08
import Derived.WalkKit
import Derived.Test.YtnoigmdmgdcliaaGreatDoorA01
import Derived.Deep.QuietTactic
import Derived.Test.YtnoigmdmgdcliaaGreatDoorA12
import Derived.Test.YtnoigmdmgdcliaaGreatDoorA23
import Derived.Test.YtnoigmdmgdcliaaGreatDoorA05
import Derived.Deep.RegionLaw
namespace Go.Proofs.YtnoigmdmgdcliaaGreatDoor
set_option maxRecDepth 100000
set_option maxHeartbeats 8000000
section
open Go.RowKit Go.Extern.Stop Go.Stop Go.Extern Go.Maps Go.WideMaps Go.Sort
variable {a:Nat->Addr} {w:World} {cl:List (List OpI)} {ad:Option Addr} {cap:Nat}
theorem errIs_mono{f:Nat×Int}{v:Value}{B B':Nat}(h:errIs a f v w B)(hb:B'<=B):errIs a f v w B':=by
 rcases h with h |h |⟨h0,j,N,h1,h2,h3⟩
 ·exact .inl h
 ·exact .inr (.inl h)
 ·exact .inr (.inr ⟨h0,j,N,h1,Nat.le_trans hb h2,h3⟩)
theorem follow_check(hE:EnvL a w)(ho:opRowsAt ad cl w):
  Calls Tryz.prog 53 #[.slice ad cl.length cap, .func (.func 54) #[] #[]] w fun e w'=> ∃v,e= .returned v/\errIs a (eachE cl) v w' w.heap.size/\Below w.heap.size w w':=by
 have hB: ∀T,Below w.heap.size w (w.alloc (.cells #[.func (.func 54) #[] #[]] T)):=fun T=>bRf.alloc nL _
 have HEA:=hide (fun T=>each_check (cap:=cap) hE ho (hB T) (bx:=w.heap.size) (by rw[World.cell?_alloc_new];rfl))
 have HB:=hide hB
 clear hE ho hB
 generalize cl.length=n at*
 go_enter Tryz.func53,Tryz.ntmps53
 go_wp2_with fail
 refine(HEA.out _).mono ?_
 rintro e w2 ⟨v,rfl,he,hb⟩
 have HV:=hide (And.intro (errIs_mono he (HB.out _).size) (below_step (HB.out _) hb))
 clear he hb HEA HB
 go_wp2_with fail
 refine bodyPost_ret (v:=v) (by simp only[results,Tryz.results53];go_simp) rfl ⟨_,rfl,HV.out.1,HV.out.2⟩
theorem clcheck_ok(hE:EnvL a w)(ho:opRowsAt ad cl w):
  Calls Tryz.prog 28 #[.slice ad cl.length cap] w fun e w'=> ∃v,e= .returned v/\errIs a (eachE cl) v w' w.heap.size/\Below w.heap.size w w':=by
 have HF:=hide (follow_check (cap:=cap) hE ho)
 clear hE ho
 generalize cl.length=n at*
 go_enter Tryz.func28,Tryz.ntmps28
 go_wp2_with fail
 refine HF.out.mono ?_
 rintro e w2 ⟨v,rfl,h2⟩
 have HV:=hide h2
 clear h2 HF
 go_wp2_with fail
 refine bodyPost_ret (v:=v) (by simp only[results,Tryz.results28];go_simp) rfl ⟨_,rfl,HV.out.1,HV.out.2⟩
end
section
open Go.RowKit Go.Extern.Stop Go.Stop Go.Extern Go.Maps Go.WideMaps Go.Sort
variable {cl:List (List OpI)}
theorem folE_sh0: ∀{l:List OpI} {s:CrI},folE s l=0-> ∀x∈l,kn x.kind.toList≠0
 | [],_,_,x,hx=>by cases hx
 | y ::l,s,h,x,hx=>by
  unfold folE at h
  by_cases h0:shErr (kn y.kind.toList) y.n=0
  ·rw [if_neg (fun k=>k h0)] at h
   by_cases h1:ckErr (kn y.kind.toList) s.deep s.ret=0
   ·rw [if_neg (fun k=>k h1)] at h
    rcases List.mem_cons.1 hx with rfl |hx
    ·intro hk
     rw[hk] at h0
     simp[shErr] at h0
    ·exact folE_sh0 h x hx
   ·rw[if_pos h1] at h;exact absurd h h1
  ·rw[if_pos h0] at h;exact absurd h h0
theorem eachFrom_zero: ∀{cl:List (List OpI)} {t:Nat},(eachFrom cl t).1=0-> ∀L∈cl,folE .first L=0
 | [],_,_,L,hL=>by cases hL
 | M::cl,t,h,L,hL=>by
  unfold eachFrom at h
  by_cases h0:folE .first M=0
  ·rw[if_neg (fun k=>k h0)] at h
   rcases List.mem_cons.1 hL with rfl |hL
   ·exact h0
   ·exact eachFrom_zero h L hL
  ·rw[if_pos h0] at h;exact absurd h h0
theorem eachE_ok(h:(eachE cl).1=0):fitB cl=true/\cl.length<=6/\1<=cl.length/\kindsOk cl:=by
 unfold eachE at h
 by_cases hf:fitB cl=true
 ·rw[if_pos hf] at h
  refine⟨hf,fit_len hf,?_,fun L hL=>⟨fit_rows hf L hL,folE_sh0 (eachFrom_zero h L hL)⟩⟩
  unfold fitB at hf
  simp only[Bool.and_eq_true,decide_eq_true_eq] at hf
  exact hf.1
 ·rw[if_neg hf] at h
  cases h
def clCells:List (List Int):=[[1],[1]]
theorem clbuild_ok {a:Nat->Addr} {f:Nat} (hf:1<=f/\f<=4) {ad:Option Addr} {cap:Nat} {w:World} (hE:EnvL a w) (ho:opRowsAt ad cl w) (h0:(eachE cl).1=0):
  Calls Tryz.prog 13 #[.int .i64 f, .slice ad cl.length cap] w fun e w'=> ∃base sb iv vs rv rs vc ks B,e= .returned (.tuple #[.agg #[.int .i64 64,iv,rv],vc, .nilIface])/\TW base sb w' [] iv vs (graceI f (clCells.map pad4) cl.length) rv rs (rowsG 2 cl.length cl.length) w'/\KP B w' vc ks (cl.map (clC f)) w'/\w.heap.size<base/\w.heap.size<B/\Below w.heap.size w w':=by
 obtain⟨-,h6, -,hk⟩:=eachE_ok h0
 have hB0:Below w.heap.size w (w.alloc (.cells #[.int .i64 0, .slice none 0 0, .slice none 0 0] 40)):=bRf.alloc nL _
 have HB0:=hide hB0
 have HRC:Hid ((∀o,(w.alloc (.cells #[.int .i64 0, .slice none 0 0, .slice none 0 0] 40)).cell? ⟨w.heap.size,o,none⟩=(#[.int .i64 0, .slice none 0 0, .slice none 0 0]:Array Value)[o]?)/\(∀o,(w.alloc (.cells #[.int .i64 0, .slice none 0 0, .slice none 0 0] 40)).frozen? ⟨w.heap.size,o,none⟩=false)/\w.heap.size<(w.alloc (.cells #[.int .i64 0, .slice none 0 0, .slice none 0 0] 40)).heap.size):=hide ⟨fun o=>World.cell?_alloc_new _ _ _ _,fun o=>World.frozen?_alloc_new _ _ _ _,by simp⟩
 have HCH:=hide (clcheck_ok (cap:=cap) (hE.below hB0.block) (ho.below hB0))
 have HNA:=hide (tname_ok 0 (by decide))
 have HBU:=hide (fun(W:World) (hb:Below w.heap.size w W) (ac:Option Addr) (capc:Nat) (hc:cellsAt ac clCells W)=>tbuild_ok (cap:=cap) (capc:=capc) hf (ho.below hb) hk h6 hc (by decide) (by decide))
 rw[show clCells.length=2 from rfl] at HBU
 rw[show((0:Nat):Int)+1=1 from rfl,show((0:Nat):Int)=0 from rfl] at HNA
 have hmf: ∀(fn:Fn) (first cap:Array Value) (w:World),(Instr.makeFunc fn first cap).run Tryz.prog w= .ok (.func fn first cap) w:=fun _ _ _ _=>rfl
 have HII:=hide (fun(n:Nat)=>graceI_len f (clCells.map pad4) n)
 have HRL:=hide (fun(n:Nat)=>rowsG_len 2 n n)
 have HCL:Hid ((cl.map (clC f)).length=cl.length):=hide (List.length_map _)
 clear hE ho hB0
 generalize cl.length=n at*
 generalize graceI f (clCells.map pad4) n=II at*
 generalize rowsG 2 n n=RR at*
 generalize cl.map (clC f)=CC at*
 generalize hfi:(f:Int)=fi at*
 clear hfi hf hk h6
 have H00:=hide h0
 clear h0
 go_enter Tryz.func13,Tryz.ntmps13
 go_wp2_with fail
 refine HCH.out.mono ?_
 rintro e w2 ⟨v,rfl,he,hb2⟩
 obtain rfl:v= .nilIface:=by
  rcases he with⟨-,e⟩ |⟨h, -⟩ |⟨h, -⟩
  ·exact e
  ·exact absurd H00.out h
  ·exact absurd H00.out h
 have HB2:=hide hb2
 clear he hb2 HCH H00
 go_wp2_with fail
 refine(HNA.out _).mono ?_
 rintro e w3 ⟨rfl,hb3⟩
 have HB3:=hide hb3
 clear hb3
 go_wp2_with fail
 have hs3:=HB3.out.size
 rw[World.size_alloc] at hs3
 have hal:Below w3.heap.size w3 ((w3.alloc (.cells #[.int .i64 1] 3)).alloc (.cells #[.slice (some ⟨w2.heap.size,0,none⟩) 1 1, .slice (some ⟨w3.heap.size,0,none⟩) 1 1] 23)):=(bRf.alloc nL _).alloc (by simp) _
 have hb6:Below w2.heap.size w2 ((w3.alloc (.cells #[.int .i64 1] 3)).alloc (.cells #[.slice (some ⟨w2.heap.size,0,none⟩) 1 1, .slice (some ⟨w3.heap.size,0,none⟩) 1 1] 23)):=below_step (below_step (bRf.alloc nL _) HB3.out) hal
 have HB6:=hide (below_step (below_step HB0.out HB2.out) hb6)
 have HB7:=hide (below_step HB2.out hb6)
 have HCL6:Hid (cellsAt (some ⟨w3.heap.size+1,0,none⟩) clCells ((w3.alloc (.cells #[.int .i64 1] 3)).alloc (.cells #[.slice (some ⟨w2.heap.size,0,none⟩) 1 1, .slice (some ⟨w3.heap.size,0,none⟩) 1 1] 23))):=hide (fun i row hr=>by
  have hc: ∀j,((w3.alloc (.cells #[.int .i64 1] 3)).alloc (.cells #[.slice (some ⟨w2.heap.size,0,none⟩) 1 1, .slice (some ⟨w3.heap.size,0,none⟩) 1 1] 23)).cell? ⟨w3.heap.size+1,0+j,none⟩=(#[.slice (some ⟨w2.heap.size,0,none⟩) 1 1, .slice (some ⟨w3.heap.size,0,none⟩) 1 1]:Array Value)[j]? :=fun j=>by
   have:=World.cell?_alloc_new (w3.alloc (.cells #[.int .i64 1] 3)) #[.slice (some ⟨w2.heap.size,0,none⟩) 1 1, .slice (some ⟨w3.heap.size,0,none⟩) 1 1] 23 j
   rw[World.size_alloc] at this
   rw[Nat.zero_add]
   exact this
  match i,hr with
  | 0,hr=>
   cases hr
   exact⟨_,0,⟨w2.heap.size,0,none⟩,1,rfl,hc 0,((numsAt_new (w:=w2) (l:=[1]) (t:=3) rfl).below HB3.out).below hal,by decide,by decide⟩
  | 1,hr=>
   cases hr
   exact⟨_,0,⟨w3.heap.size,0,none⟩,1,rfl,hc 1,(numsAt_new (w:=w3) (l:=[1]) (t:=3) rfl).below (bRf.alloc nL _),by decide,by decide⟩
  |k+2,hr=>cases hr)
 have HT:=hide (HBU.out _ HB6.out _ 2 HCL6.out)
 clear hs3 hal hb6 HB0 HB2 HB3 HCL6 HBU
 generalize ((w3.alloc (.cells #[.int .i64 1] 3)).alloc (.cells #[.slice (some ⟨w2.heap.size,0,none⟩) 1 1, .slice (some ⟨w3.heap.size,0,none⟩) 1 1] 23))=W6 at*
 refine HT.out.mono ?_
 rintro e w7 ⟨base,sb,iv,vs,rv,rs,vc,ks,B,rfl,hT5,hK5,hb5,hB5,hbw⟩
 have hlow:=below_step HB7.out hbw
 have HBZ:=hide (below_step HB6.out hbw)
 have hz6:=HB6.out.size
 have hq5:w.heap.size<base:=by omega
 have hq6:w.heap.size<B:=by omega
 obtain⟨ai,ci,eiv, -⟩:=ownsRow_shape hT5.oi
 obtain⟨ar,cr,erv, -⟩:=ownsRow_shape hT5.or'
 obtain⟨ax,cx,evc,hcx⟩:=hK5.codes
 subst eiv
 subst erv
 subst evc
 obtain⟨q1,q2,q3⟩:=HRC.out
 have b0:=keep_cell hlow ((q1 0).trans (show _=some (.int .i64 0) from rfl))
 have b1:=keep_cell hlow ((q1 1).trans (show _=some (.slice none 0 0) from rfl))
 have b2:=keep_cell hlow ((q1 2).trans (show _=some (.slice none 0 0) from rfl))
 have z0:=(hlow.frozen (show(⟨w.heap.size,0,none⟩:Addr).block<_ from q3)).trans (q2 0)
 have z1:=(hlow.frozen (show(⟨w.heap.size,1,none⟩:Addr).block<_ from q3)).trans (q2 1)
 have z2:=(hlow.frozen (show(⟨w.heap.size,2,none⟩:Addr).block<_ from q3)).trans (q2 2)
 have HB9:Hid (Below w.heap.size w (((w7.setCell ⟨w.heap.size,0,none⟩ (.int .i64 64)).setCell ⟨w.heap.size,1,none⟩ (.slice ai II.length ci)).setCell ⟨w.heap.size,2,none⟩ (.slice ar RR.length cr))):=hide (((HBZ.out.setCell nL _).setCell nL _).setCell nL _)
 have HS9:Hid (TW base sb (((w7.setCell ⟨w.heap.size,0,none⟩ (.int .i64 64)).setCell ⟨w.heap.size,1,none⟩ (.slice ai II.length ci)).setCell ⟨w.heap.size,2,none⟩ (.slice ar RR.length cr)) [] (.slice ai II.length ci) vs II (.slice ar RR.length cr) rs RR (((w7.setCell ⟨w.heap.size,0,none⟩ (.int .i64 64)).setCell ⟨w.heap.size,1,none⟩ (.slice ai II.length ci)).setCell ⟨w.heap.size,2,none⟩ (.slice ar RR.length cr))):=hide
  (((hT5.out hq5 0 (.int .i64 64) rfl).out hq5 1 (.slice ai II.length ci) rfl).out hq5 2 (.slice ar RR.length cr) rfl)
 have HK9:Hid (KP B (((w7.setCell ⟨w.heap.size,0,none⟩ (.int .i64 64)).setCell ⟨w.heap.size,1,none⟩ (.slice ai II.length ci)).setCell ⟨w.heap.size,2,none⟩ (.slice ar RR.length cr)) (.slice ax CC.length cx) ks CC (((w7.setCell ⟨w.heap.size,0,none⟩ (.int .i64 64)).setCell ⟨w.heap.size,1,none⟩ (.slice ai II.length ci)).setCell ⟨w.heap.size,2,none⟩ (.slice ar RR.length cr))):=hide
  (((hK5.out hq6 0 (.int .i64 64)).out hq6 1 (.slice ai II.length ci)).out hq6 2 (.slice ar RR.length cr))
 have HE9:Hid (((((w7.setCell ⟨w.heap.size,0,none⟩ (.int .i64 64)).setCell ⟨w.heap.size,1,none⟩ (.slice ai II.length ci)).setCell ⟨w.heap.size,2,none⟩ (.slice ar RR.length cr))).cell? ⟨w.heap.size,0,none⟩=some (.int .i64 64)/\((((w7.setCell ⟨w.heap.size,0,none⟩ (.int .i64 64)).setCell ⟨w.heap.size,1,none⟩ (.slice ai II.length ci)).setCell ⟨w.heap.size,2,none⟩ (.slice ar RR.length cr))).cell? ⟨w.heap.size,1,none⟩=some (.slice ai II.length ci)/\((((w7.setCell ⟨w.heap.size,0,none⟩ (.int .i64 64)).setCell ⟨w.heap.size,1,none⟩ (.slice ai II.length ci)).setCell ⟨w.heap.size,2,none⟩ (.slice ar RR.length cr))).cell? ⟨w.heap.size,2,none⟩=some (.slice ar RR.length cr)):=hide (by
  have x0:(w7.setCell ⟨w.heap.size,0,none⟩ (.int .i64 64)).cell? ⟨w.heap.size,0,none⟩=some (.int .i64 64):=World.cell?_setCell_same _ _ _ b0
  have x1:((w7.setCell ⟨w.heap.size,0,none⟩ (.int .i64 64)).setCell ⟨w.heap.size,1,none⟩ (.slice ai II.length ci)).cell? ⟨w.heap.size,1,none⟩=some (.slice ai II.length ci):=World.cell?_setCell_same _ _ _ (cell_ne b1 (.inr (by decide)))
  have x2:((((w7.setCell ⟨w.heap.size,0,none⟩ (.int .i64 64)).setCell ⟨w.heap.size,1,none⟩ (.slice ai II.length ci)).setCell ⟨w.heap.size,2,none⟩ (.slice ar RR.length cr))).cell? ⟨w.heap.size,2,none⟩=some (.slice ar RR.length cr):=World.cell?_setCell_same _ _ _ (cell_ne (cell_ne b2 (.inr (by decide))) (.inr (by decide)))
  exact⟨cell_ne (cell_ne x0 (.inr (by decide))) (.inr (by decide)),cell_ne x1 (.inr (by decide)),x2⟩)
 have HQ5:=hide hq5
 have HQ6:=hide hq6
 clear hT5 hK5 hb5 hB5 hbw hlow hcx q1 q2 q3 hq5 hq6 HRC hz6 HT HB6 HB7 HBZ HII HRL HCL HNA
 go_wp2_with fail
 obtain⟨e0,e1,e2⟩:=HE9.out
 have hBf:=HB9.out
 have hst:=HS9.out
 have hco:=HK9.out
 generalize (((w7.setCell ⟨w.heap.size,0,none⟩ (.int .i64 64)).setCell ⟨w.heap.size,1,none⟩ (.slice ai II.length ci)).setCell ⟨w.heap.size,2,none⟩ (.slice ar RR.length cr))=WW at*
 refine bodyPost_ret (v:= .tuple #[.agg #[.int .i64 64, .slice ai II.length ci, .slice ar RR.length cr], .slice ax CC.length cx, .nilIface]) (by rw[results_cell_tmp2 (show Tryz.f13.results=_ from rfl)];go_simp) rfl ?_
 exact⟨base,sb,_,vs,_,rs,_,ks,B,rfl,hst,hco,HQ5.out,HQ6.out,hBf⟩
end
section
open Go.RowKit
variable {A B:List Ins} {x:Ins} {i:Nat} {f:Nat} {t:List UInt8} {q:ByteArray} {L:List Ins}
def lblB:List UInt8:=[108,97,98,101,108]
def AllGood(L:List Ins):Prop:= ∀(i:Nat) x,L[i]? =some x->insGood L i x=true
def Dis(A B:List Ins):Prop:= ∀y∈A,(bl y.op==lblB)=true-> ∀x∈B,(bl y.to==bl x.to)=false
theorem labB_left{j:Nat}(h:labelAtB A t=some j):labelAtB (A++B) t=some j:=by
 unfold labelAtB at h ⊢
 rw[List.findIdx?_append,h]
 rfl
theorem labB_right(h:labelAtB A t=none):labelAtB (A++B) t=(labelAtB B t).map (fun i=>i+A.length):=by
 unfold labelAtB at h ⊢
 rw[List.findIdx?_append,h]
 rfl
theorem dis_none(h:Dis A B)(hx:x∈B):labelAtB A (bl x.to)=none:=by
 unfold labelAtB
 rw[List.findIdx?_eq_none_iff]
 intro y hy
 cases ho:(bl y.op==lblB)
 ·rw[show(bl y.op==[108,97,98,101,108])=false from ho];rfl
 ·rw[show(bl y.op==[108,97,98,101,108])=true from ho,h y hy ho x hx];rfl
theorem allGood_app (hA:AllGood A) (hB:AllGood B) (hd:Dis A B):AllGood (A++B):=fun i x hx=>by
 by_cases hi:i<A.length
 ·rw [List.getElem?_append_left hi] at hx
  have h:=hA i x hx
  unfold insGood at h ⊢
  cases hs:shape (bl x.op) with
  |none=>rw[hs] at h;cases h
  | some l=>
   rw[hs] at h
   simp only[Bool.and_eq_true,Bool.or_eq_true,Bool.not_eq_true'] at h ⊢
   obtain⟨h1,h2,h3⟩:=h
   refine⟨h1,?_,?_⟩
   ·rcases h2 with h2 |h2
    ·exact .inl h2
    ·right
     rw[labB_left (beq_iff_eq.1 h2)]
     exact beq_self_eq_true _
   ·rcases h3 with h3 |h3
    ·exact .inl h3
    ·right
     obtain⟨j,hj⟩:=Option.isSome_iff_exists.1 h3
     rw[labB_left hj]
     rfl
 ·rw [List.getElem?_append_right (by omega)] at hx
  have h:=hB _ x hx
  have hn:=labB_right (B:=B) (dis_none hd (List.mem_of_getElem? hx))
  unfold insGood at h ⊢
  cases hs:shape (bl x.op) with
  |none=>rw[hs] at h;cases h
  | some l=>
   rw[hs] at h
   simp only[Bool.and_eq_true,Bool.or_eq_true,Bool.not_eq_true'] at h ⊢
   obtain⟨h1,h2,h3⟩:=h
   rw[hn]
   refine⟨h1,?_,?_⟩
   ·rcases h2 with h2 |h2
    ·exact .inl h2
    ·right
     rw[beq_iff_eq.1 h2]
     show(some (i - A.length+A.length)==some i)=true
     rw[show i - A.length+A.length=i by omega]
     exact beq_self_eq_true _
   ·rcases h3 with h3 |h3
    ·exact .inl h3
    ·right
     obtain⟨j,hj⟩:=Option.isSome_iff_exists.1 h3
     rw[hj]
     rfl
theorem allGood_code(h:AllGood L)(hl:L.length<=2000):codeFault L=(0, -1):=by
 unfold codeFault
 rw[if_neg (by omega)]
 exact faultFrom_good L 0 fun k x hx=>by rw[Nat.zero_add];exact insGood_is (h k x hx)
theorem codeGood_all(h:codeGood L=true):AllGood L:=fun i x hx=>by
 unfold codeGood at h
 simp only[Bool.and_eq_true,decide_eq_true_eq,List.all_eq_true,List.mem_range] at h
 have:=h.2 i (List.getElem?_eq_some_iff.1 hx).1
 rw[hx] at this
 exact this
def tl46(l:List UInt8):List UInt8:=l.reverse.takeWhile (fun b=>b !=46)
theorem tl46_app{s q:List UInt8}(hq: ∀b∈q,(b !=46)=true):tl46 (s++(46::q))=q.reverse:=by
 unfold tl46
 rw[List.reverse_append,List.reverse_cons,List.append_assoc,List.takeWhile_append_of_pos (fun b hb=>hq b (List.mem_reverse.1 hb))]
 show q.reverse++List.takeWhile _ (46::s.reverse)=_
 rw[List.takeWhile_cons_of_neg (by decide),List.append_nil]
theorem nameB_of{s:ByteArray}(h:isName s):nameB (bl s)=true:=by
 obtain⟨h1,h2,h3⟩:=h
 have hz:s.size=(bl s).length:=size_bl s
 unfold nameB
 simp only[Bool.and_eq_true,decide_eq_true_eq,List.all_eq_true,List.mem_range]
 refine⟨by omega,by omega,fun j hj=>?_⟩
 have:=h3 j (by omega)
 rw[List.getD_eq_getElem?_getD,List.getElem?_eq_getElem (by omega)]
 exact this
theorem lbl_lb{op:ByteArray}(h:(bl op==lblB)=true):lbOp op=true:=by
 unfold lbOp
 rw[toList_bl,beq_iff_eq.1 h]
 rfl
theorem namedI_op(q:ByteArray)(x:Ins):(namedI q x).op=x.op:=by
 unfold namedI
 split <;> rfl
theorem namedI_yes(h:lbOp x.op=true):namedI q x=⟨x.op,x.a,x.b,x.c,x.to++thDot++q⟩:=if_pos h
theorem namedI_no(h:lbOp x.op=false):namedI q x=x:=if_neg (by rw[h];decide)
theorem bl_named(t q:ByteArray):bl (t++thDot++q)=bl t++(46::bl q):=by
 rw[bl_append,bl_append,List.append_assoc]
 rfl
theorem labB_named(B:List Ins)(q:ByteArray)(T:List UInt8):labelAtB (B.map (namedI q)) (T++(46::bl q))=labelAtB B T:=by
 unfold labelAtB
 rw[List.findIdx?_map]
 congr 1
 funext y
 show((bl (namedI q y).op==[108,97,98,101,108])&&(bl (namedI q y).to==T++(46::bl q)))=_
 rw[namedI_op]
 cases ho:(bl y.op==[108,97,98,101,108])
 ·rfl
 ·rw[namedI_yes (lbl_lb ho)]
  show(true&&(bl (y.to++thDot++q)==T++(46::bl q)))=_
  rw[bl_named,Bool.true_and,Bool.true_and,Bool.eq_iff_iff,beq_iff_eq,beq_iff_eq]
  exact⟨fun h=>List.append_cancel_right h,fun h=>by rw[h]⟩
theorem named_good {B:List Ins} (hi:i<20) (hB:AllGood B) (hl:LabsOk B) (hn: ∀x∈B,lbOp x.op=false->bl x.to=[]):AllGood (B.map (namedI (itB i))):=fun k x' hx'=>by
 rw[List.getElem?_map] at hx'
 cases hx:B[k]? with
 |none=>rw[hx] at hx';cases hx'
 | some x=>
  rw[hx] at hx'
  cases hx'
  have hm:=List.mem_of_getElem? hx
  have h:=hB k x hx
  cases hlb:lbOp x.op
  ·rw [namedI_no hlb]
   have ht:=hn x hm hlb
   unfold insGood at h ⊢
   cases hs:shape (bl x.op) with
   |none=>rw[hs] at h;cases h
   | some l=>
    rw[hs] at h
    simp only[Bool.and_eq_true,Bool.or_eq_true,Bool.not_eq_true'] at h ⊢
    refine⟨h.1, .inl ?_, .inl (by rw[ht];rfl)⟩
    cases ho:(bl x.op==[108,97,98,101,108])
    ·rfl
    ·rw[lbl_lb ho] at hlb;cases hlb
  ·obtain ⟨hna,hsz⟩:=hl x hm hlb
   have hnn:=nameB_of (name_it hna hsz hi)
   have h1:bl x.to≠[]:=fun e=>by
    have:=hna.1
    rw[size_bl,e] at this
    exact absurd this (by decide)
   have hL:=labB_named B (itB i) (bl x.to)
   rw[namedI_yes hlb]
   unfold insGood at h ⊢
   rw[show(⟨x.op,x.a,x.b,x.c,x.to++thDot++itB i⟩:Ins).op=x.op from rfl,show(⟨x.op,x.a,x.b,x.c,x.to++thDot++itB i⟩:Ins).to=x.to++thDot++itB i from rfl,bl_named,hL]
   cases hs:shape (bl x.op) with
   |none=>rw[hs] at h;cases h
   | some l=>
    rw[hs] at h
    simp only[Bool.and_eq_true,Bool.or_eq_true,Bool.not_eq_true'] at h ⊢
    obtain⟨g1,g2,g3⟩:=h
    refine⟨?_,g2,?_⟩
    ·unfold shapeGood at g1 ⊢
     simp only[Bool.and_eq_true,Bool.or_eq_true,Bool.not_eq_true'] at g1 ⊢
     refine⟨⟨?_, .inr hnn⟩,g1.2⟩
     rcases g1.1.1 with h |h
     ·exact .inl h
     ·exact absurd (beq_iff_eq.1 h) h1
    ·rcases g3 with h |h
     ·exact absurd (beq_iff_eq.1 h) h1
     ·exact .inr h
theorem itB_dots: ∀i:Fin 20,(bl (itB i.val)).all (fun b=>b !=46)=true:=by decide+kernel
theorem itB_inj: ∀i j:Fin 20,(bl (itB i.val)).reverse=(bl (itB j.val)).reverse->i=j:=by decide+kernel
theorem itB_some: ∀i:Fin 20,(bl (itB i.val)).reverse≠[]:=by decide+kernel
theorem tl46_it{t:ByteArray}(hi:i<20):tl46 (bl (t++thDot++itB i))=(bl (itB i)).reverse:=by
 rw[bl_named]
 exact tl46_app (fun b hb=>List.all_eq_true.1 (itB_dots ⟨i,hi⟩) b hb)
structure BlkOk(B:List Ins):Prop where
 good:AllGood B
 labs:LabsOk B
 no: ∀x∈B,lbOp x.op=false->bl x.to=[]
def noToB(l:List Ins):Bool:=l.all fun x=>(hasTo ((shape (bl x.op)).getD [])) ||(bl x.to==[])
theorem noToB_is{l:List Ins}(h:noToB l=true): ∀x∈l,lbOp x.op=false->bl x.to=[]:=fun x hx hl=>by
 have:=List.all_eq_true.1 h x hx
 unfold lbOp at hl
 rw[toList_bl] at hl
 rw[hl] at this
 simpa using this
def shAll(L:List OpI):Prop:= ∀x∈L,shErr (kn x.kind.toList) x.n=0
theorem folE_shAll: ∀{l:List OpI} {s:CrI},folE s l=0->shAll l
 | [],_,_,x,hx=>by cases hx
 | y ::l,s,h,x,hx=>by
  unfold folE at h
  by_cases h0:shErr (kn y.kind.toList) y.n=0
  ·rw [if_neg (fun k=>k h0)] at h
   by_cases h1:ckErr (kn y.kind.toList) s.deep s.ret=0
   ·rw[if_neg (fun k=>k h1)] at h
    rcases List.mem_cons.1 hx with rfl |hx
    ·exact h0
    ·exact folE_shAll h x hx
   ·rw[if_pos h1] at h;exact absurd h h1
  ·rw[if_pos h0] at h;exact absurd h h0
theorem put_blk{n:Int}(h:1<=n/\n<=1000):BlkOk (putC n):=by
 have key: ∀j:Fin 1001,codeGood (putC (j.val:Int))=true/\noToB (putC (j.val:Int))=true:=by decide+kernel
 have:=key ⟨n.toNat,by omega⟩
 dsimp only at this
 rw[show(n.toNat:Int)=n by omega] at this
 exact⟨codeGood_all this.1,putC_labs n,noToB_is this.2⟩
theorem clP_blk(hf:1<=f/\f<=4){n:Int}(h:shErr i n=0):BlkOk (clP f i n):=by
 have key: ∀g:Fin 4,(codeGood (gCode clG (gEnter (g.val+1)))=true/\codeGood (gCode clG (gLeave (g.val+1)))=true/\codeGood (gCode clG (gRest (g.val+1)))=true/\codeGood (gCode clG (gWait (g.val+1))++emptyC)=true/\codeGood (gCode clG (gWait (g.val+1)))=true)/\noToB (gCode clG (gEnter (g.val+1)))=true/\noToB (gCode clG (gLeave (g.val+1)))=true/\noToB (gCode clG (gRest (g.val+1)))=true/\noToB (gCode clG (gWait (g.val+1))++emptyC)=true/\noToB (gCode clG (gWait (g.val+1)))=true:=by decide+kernel
 have key2:(codeGood readC=true/\noToB readC=true)/\(codeGood (uls 3 [⟨oFree,3,0,0,thNo⟩])=true/\noToB (uls 3 [⟨oFree,3,0,0,thNo⟩])=true)/\codeGood (uls 3 keepC)=true/\noToB (uls 3 keepC)=true:=by decide+kernel
 have:=key ⟨f - 1,by omega⟩
 dsimp only at this
 rw[show f - 1+1=f by omega] at this
 obtain⟨⟨k1,k2,k3,k4,k5⟩,l1,l2,l3,l4,l5⟩:=this
 obtain⟨⟨r1,r2⟩,⟨d1,d2⟩,e1,e2⟩:=key2
 have hL:=(clP_labs hf i n).1
 by_cases h1:i=1
 ·subst h1
  refine put_blk ?_
  unfold shErr at h
  rw[if_pos rfl] at h
  by_cases hb:n<1∨1000<n
  ·rw[if_pos hb] at h;cases h
  ·omega
 unfold clP at hL ⊢
 rw[if_neg h1] at hL ⊢
 by_cases h2:i=2
 ·rw[if_pos h2] at hL ⊢;exact⟨codeGood_all k1,hL,noToB_is l1⟩
 rw[if_neg h2] at hL ⊢
 by_cases h3:i=3
 ·rw[if_pos h3] at hL ⊢;exact⟨codeGood_all k2,hL,noToB_is l2⟩
 rw[if_neg h3] at hL ⊢
 by_cases h4:i=4
 ·rw[if_pos h4] at hL ⊢;exact⟨codeGood_all k3,hL,noToB_is l3⟩
 rw[if_neg h4] at hL ⊢
 by_cases h5:i=5
 ·rw[if_pos h5] at hL ⊢;exact⟨codeGood_all k5,hL,noToB_is l5⟩
 rw[if_neg h5] at hL ⊢
 by_cases h6:i=6
 ·rw[if_pos h6] at hL ⊢;exact⟨codeGood_all r1,hL,noToB_is r2⟩
 rw[if_neg h6] at hL ⊢
 by_cases h7:i=7
 ·rw[if_pos h7] at hL ⊢;exact⟨codeGood_all d1,hL,noToB_is d2⟩
 rw[if_neg h7] at hL ⊢
 by_cases h8:i=8
 ·rw[if_pos h8] at hL ⊢;exact⟨codeGood_all e1,hL,noToB_is e2⟩
 rw[if_neg h8] at hL ⊢
 exact⟨codeGood_all k4,hL,noToB_is l4⟩
theorem opsC_good (hf:1<=f/\f<=4) {l:List OpI} (hs:shAll l) (h20:l.length<=20): ∀k,k<=l.length->AllGood (opsC f l k)/\ ∀y∈opsC f l k,(bl y.op==lblB)=true-> ∃j,j<k/\tl46 (bl y.to)=(bl (itB j)).reverse
 |0,_=>⟨fun i x hx=>by simp[opsC] at hx,fun y hy=>by simp[opsC] at hy⟩
 | k +1,hk=>by
  obtain⟨h1,h2⟩:=opsC_good hf hs h20 k (by omega)
  obtain⟨x,hx⟩: ∃x,l[k]? =some x:=⟨_,List.getElem?_eq_getElem (by omega)⟩
  rw[opsC_succ hx]
  have hb:=clP_blk hf (hs x (List.mem_of_getElem? hx))
  have hg:AllGood (opC f k x):=named_good (by omega) hb.good hb.labs hb.no
  have ht: ∀y∈opC f k x,bl y.to=[]∨tl46 (bl y.to)=(bl (itB k)).reverse:=fun y hy=>by
   obtain⟨z,hz,rfl⟩:=List.mem_map.1 hy
   cases hlb:lbOp z.op
   ·rw[namedI_no hlb];exact .inl (hb.no z hz hlb)
   ·rw[namedI_yes hlb];exact .inr (tl46_it (by omega))
  refine⟨allGood_app h1 hg (fun y hy ho z hz=>?_),fun y hy ho=>?_⟩
  ·obtain ⟨j,hj,e⟩:=h2 y hy ho
   cases hq:(bl y.to==bl z.to)
   ·rfl
   ·have hq:=beq_iff_eq.1 hq
    rw[hq] at e
    rcases ht z hz with h |h
    ·rw[h] at e
     exact absurd e.symm (itB_some ⟨j,by omega⟩)
    ·rw[h] at e
     have:=itB_inj ⟨k,by omega⟩ ⟨j,by omega⟩ e
     have:=Fin.mk.inj this
     omega
  ·rcases List.mem_append.1 hy with hy |hy
   ·obtain⟨j,hj,e⟩:=h2 y hy ho
    exact⟨j,by omega,e⟩
   ·obtain⟨z,hz,rfl⟩:=List.mem_map.1 hy
    rw[namedI_op] at ho
    rw[namedI_yes (lbl_lb ho)]
    exact⟨k,by omega,tl46_it (by omega)⟩
theorem gone_blk: ∀g:Fin 4,codeGood (gCode clGone (gGone (g.val+1))++[stopI])=true/\((gCode clGone (gGone (g.val+1))++[stopI]).all fun x=>(List.range 20).all fun j=> !(tl46 (bl x.to)==(bl (itB j)).reverse))=true:=by decide+kernel
theorem clC_good(hf:1<=f/\f<=4){L:List OpI}(hs:shAll L)(h20:L.length<=20):codeFault (clC f L)=(0, -1):=by
 obtain⟨h1,h2⟩:=opsC_good hf hs h20 L.length nL
 have hg:=gone_blk ⟨f - 1,by omega⟩
 dsimp only at hg
 rw[show f - 1+1=f by omega] at hg
 have hlen:(clC f L).length<=2000:=by
  unfold clC thC
  have h3:=opsC_len hf L L.length
  have h4:=ggone_len f hf
  rw[List.length_append,List.length_append]
  have:60*L.length<=60*20:=Nat.mul_le_mul_left _ h20
  show _+(_+1)<=_
  omega
 refine allGood_code ?_ hlen
 show AllGood (opsC f L L.length++(gCode clGone (gGone f)++[stopI]))
 refine allGood_app h1 (codeGood_all hg.1) (fun y hy ho z hz=>?_)
 obtain⟨j,hj,e⟩:=h2 y hy ho
 cases hq:(bl y.to==bl z.to)
 ·rfl
 ·have hq:=beq_iff_eq.1 hq
  rw[hq] at e
  have h5:=List.all_eq_true.1 (List.all_eq_true.1 hg.2 z hz) j (List.mem_range.2 (by omega))
  rw[e] at h5
  simp at h5
theorem eachE_sh{cl:List (List OpI)}(h:(eachE cl).1=0): ∀L∈cl,shAll L/\L.length<=20:=fun L hL=>by
 obtain⟨hf, -, -,hk⟩:=eachE_ok h
 unfold eachE at h
 rw[if_pos hf] at h
 exact⟨folE_shAll (eachFrom_zero h L hL),(hk L hL).1⟩
end
section
open Go.RowKit Go.Extern.Stop Go.Stop Go.Extern Go.Maps Go.WideMaps Go.Sort
def clSta(f n:Nat):Sta:=⟨64,graceI f (clCells.map pad4) n,rowsG 2 n n⟩
theorem cl_fits{f n:Nat}(h1:1<=n)(h6:n<=6)(hf:1<=f/\f<=4):(clSta f n).fits n=true:=by
 have key: ∀(f:Fin 5) (n:Fin 7),1<=f.val->1<=n.val->(clSta f.val n.val).fits n.val=true:=by decide+kernel
 exact key ⟨f,by omega⟩ ⟨n,by omega⟩ hf.1 h1
theorem clFault_none{f:Nat}(hf:1<=f/\f<=4){cl:List (List OpI)}(h:(eachE cl).1=0):(clSta f cl.length).fault (cl.map (clC f))=(0, -1):=by
 obtain⟨-,h6,h1, -⟩:=eachE_ok h
 unfold Sta.fault
 rw[List.length_map,if_pos ⟨(by show(1:Int)<=64;decide),(by show(64:Int)<=64;decide),h1,h6,cl_fits h1 h6 hf⟩]
 refine codesFrom_none _ 0 fun t L ht=>?_
 rw[List.getElem?_map] at ht
 cases hc:cl[t]? with
 |none=>rw[hc] at ht;cases ht
 | some c=>
  rw[hc] at ht
  cases ht
  obtain⟨k1,k2⟩:=eachE_sh h c (List.mem_of_getElem? hc)
  rw[clC_good hf k1 k2]
end
end Go.Proofs.YtnoigmdmgdcliaaGreatDoor
