import Derived.Test.YtnoigmdmgdcliaaGreatDoorA40
import Derived.Test.YtnoigmdmgdcliaaGreatDoorA01
import Derived.Test.YtnoigmdmgdcliaaGreatDoorA13
namespace Go.Proofs.YtnoigmdmgdcliaaGreatDoor
set_option maxRecDepth 100000
set_option maxHeartbeats 8000000
section
open Go.RowKit Go.Extern.Stop Go.Stop Go.Extern Go.Maps Go.WideMaps Go.Sort
variable {k:Nat}
structure CrI where
 deep:Int
 ret:Bool
 wt:Bool
 sf:Bool
def CrI.first:CrI:=⟨0,false,false,true⟩
def CrI.pass(s:CrI)(x:OpI):CrI:=⟨psDeep (kn x.kind.toList) s.deep,psRet (kn x.kind.toList) s.ret,psWt (kn x.kind.toList) s.wt,s.sf&& !((kn x.kind.toList==7)&& !s.wt)⟩
def folE(s:CrI):List OpI->Nat
 | []=>if 0<s.deep then 8 else 0
 |x::l=>if shErr (kn x.kind.toList) x.n≠0 then shErr (kn x.kind.toList) x.n else if ckErr (kn x.kind.toList) s.deep s.ret≠0 then ckErr (kn x.kind.toList) s.deep s.ret else folE (s.pass x) l
def folS(s:CrI):List OpI->Bool
 | []=>s.sf
 |x::l=>folS (s.pass x) l
theorem psDeep_bound(i:Nat)(d:Int)(h: -(k:Int)<=d/\d<=k): -((k+1:Nat):Int)<=psDeep i d/\psDeep i d<=((k+1:Nat):Int):=by
 unfold psDeep
 split
 ·omega
 split
 ·omega
 ·omega
theorem errVal_pos{a:Nat->Addr}(h:k≠0): ∃j,k=j+1/\errVal a k=errAt (a j):=by
 cases k with
 |zero=>exact absurd rfl h
 |succ j=>exact⟨j,rfl,rfl⟩
theorem errVal_zero(a:Nat->Addr)(h:k=0):errVal a k= .nilIface:=by subst h;rfl
theorem see_check(deep:Int)(ret wt:Bool)(k:ByteArray)(n:Int)(w:World):
  Calls Tryz.prog 54 #[.agg #[.int .i64 deep, .bool ret, .bool wt], .agg #[.string k, .int .i64 n]] w fun e w'=>e= .returned (.tuple #[])/\Below w.heap.size w w':=by
 go_enter Tryz.func54,Tryz.ntmps54
 go_wp2_with fail
 go_end0
 exact⟨rfl,(bRf.alloc nL _).alloc (by simp) _⟩
end
section
open Go.RowKit Go.Extern.Stop Go.Stop Go.Extern Go.Maps Go.WideMaps Go.Sort
variable {l:List OpI} {s:CrI} {x:OpI}
theorem folE_sh(h:shErr (kn x.kind.toList) x.n≠0):folE s (x::l)=shErr (kn x.kind.toList) x.n:=if_pos h
theorem folE_ck(h0:shErr (kn x.kind.toList) x.n=0)(h:ckErr (kn x.kind.toList) s.deep s.ret≠0):folE s (x::l)=ckErr (kn x.kind.toList) s.deep s.ret:=(if_neg (fun k=>k h0)).trans (if_pos h)
theorem folE_go(h0:shErr (kn x.kind.toList) x.n=0)(h:ckErr (kn x.kind.toList) s.deep s.ret=0):folE s (x::l)=folE (s.pass x) l:=(if_neg (fun k=>k h0)).trans (if_neg (fun k=>k h))
theorem followOne_check {a:Nat->Addr} {w00 w:World} (hE:EnvL a w00) {ad:Option Addr} {cap:Nat} (ho:opsAt ad l w00) (hw:Below w00.heap.size w00 w) (hl:l.length<=30):
  Calls Tryz.prog 101 #[.slice ad l.length cap, .func (.func 54) #[] #[]] w fun e w'=>e= .returned (errVal a (folE .first l))/\Below w.heap.size w w':=by
 obtain⟨n,hn⟩: ∃n,Hid (l.length=n):=⟨_,hide rfl⟩
 have HE:=hide hE
 have HO:=hide ho
 have HWW:Hid (w00.heap.size<=w.heap.size):=hide hw.size
 skip
 have hB0:Below w.heap.size w (w.alloc (.cells #[.int .i64 0, .bool false, .bool false] 149)):=bRf.alloc nL _
 have H0:Hid (∃s:CrI,CrAt w.heap.size s.deep s.ret s.wt (w.alloc (.cells #[.int .i64 0, .bool false, .bool false] 149))/\(-((0:Nat):Int)<=s.deep/\s.deep<=((0:Nat):Int))/\folE .first l=folE s (l.drop 0)/\folS .first l=folS s (l.drop 0)/\Below w00.heap.size w00 (w.alloc (.cells #[.int .i64 0, .bool false, .bool false] 149))/\Turns (fun q _=>q=w.heap.size) w (w.alloc (.cells #[.int .i64 0, .bool false, .bool false] 149))):=hide (by
  refine⟨.first,⟨?_,?_,?_,fun o=>?_⟩,(by show(-((0:Nat):Int))<=(0:Int)/\(0:Int)<=((0:Nat):Int);decide),rfl,rfl,below_step hw hB0,Turns.of_below hB0⟩
  ·rw[World.cell?_alloc_new];rfl
  ·rw[World.cell?_alloc_new];rfl
  ·rw[World.cell?_alloc_new];rfl
  ·exact World.frozen?_alloc_new _ _ _ _)
 rw[hn.out] at hl ⊢
 clear hE ho hw hB0
 go_enter Tryz.func101,Tryz.ntmps101
 go_wp2_with fail
 go_loopw [7,8,9,12] (fun _ _ _ i wr=> ∃k:Nat,k<=n/\i= .int .i64 k/\Hid (∃s:CrI,CrAt w.heap.size s.deep s.ret s.wt wr/\(-(k:Int)<=s.deep/\s.deep<=(k:Int))/\folE .first l=folE s (l.drop k)/\folS .first l=folS s (l.drop k)/\Below w00.heap.size w00 wr/\Turns (fun q _=>q=w.heap.size) w wr)) (fun _ _ _ i _=>n - (intOf i).toNat)
 case atStart=>exact⟨0,Nat.zero_le _,rfl,H0⟩
 case round=>
  clear H0
  obtain⟨k,hk,rfl,HR⟩:=hrel
  obtain⟨s,hcr,hbd,hfe,hfs,hbw,htu⟩:=HR.out
  by_cases hlt:k<n
  ·have ki:(k:Int)<n:=by omega
   obtain⟨x,hx⟩: ∃x,l[k]? =some x:=⟨_,List.getElem?_eq_getElem (by rw[hn.out];exact hlt)⟩
   have hdr:l.drop k=x::l.drop (k+1):=by
    have:=List.drop_eq_getElem_cons (show k<l.length by rw[hn.out];exact hlt)
    rw[this]
    have h2:=List.getElem?_eq_getElem (show k<l.length by rw[hn.out];exact hlt)
    rw[hx] at h2
    rw[Option.some.inj h2]
   rw[hdr] at hfe hfs
   obtain⟨bo,off,rfl,c0,c1⟩:=HO.out.below hbw k x hx
   obtain⟨kd,nn⟩:=x
   dsimp only at c0 c1
   have HFE:=hide hfe
   have HFS:=hide hfs
   have HCR:=hide hcr
   have HBD:=hide hbd
   have HBW:=hide hbw
   have HTU:=hide htu
   skip
   have hB1:Below wr.heap.size wr (wr.alloc (.cells #[.string kd, .int .i64 nn] 69)):=bRf.alloc nL _
   have hB2:Below wr.heap.size wr ((wr.alloc (.cells #[.string kd, .int .i64 nn] 69)).alloc (.cells #[.string ⟨#[101,110,116,101,114]⟩, .string ⟨#[108,101,97,118,101]⟩, .string ⟨#[114,101,115,116]⟩, .string ⟨#[119,97,105,116]⟩, .string ⟨#[114,101,97,100]⟩, .string ⟨#[100,114,111,112]⟩, .string ⟨#[108,97,116,101,114]⟩, .string ⟨#[102,108,117,115,104]⟩] 9)):=hB1.alloc hB1.size _
   have htx:txtsAt (some ⟨wr.heap.size+1,0,none⟩) clKinds ((wr.alloc (.cells #[.string kd, .int .i64 nn] 69)).alloc (.cells #[.string ⟨#[101,110,116,101,114]⟩, .string ⟨#[108,101,97,118,101]⟩, .string ⟨#[114,101,115,116]⟩, .string ⟨#[119,97,105,116]⟩, .string ⟨#[114,101,97,100]⟩, .string ⟨#[100,114,111,112]⟩, .string ⟨#[108,97,116,101,114]⟩, .string ⟨#[102,108,117,115,104]⟩] 9)):=fun i y hy=>by
    have hc: ∀j,((wr.alloc (.cells #[.string kd, .int .i64 nn] 69)).alloc (.cells #[.string ⟨#[101,110,116,101,114]⟩, .string ⟨#[108,101,97,118,101]⟩, .string ⟨#[114,101,115,116]⟩, .string ⟨#[119,97,105,116]⟩, .string ⟨#[114,101,97,100]⟩, .string ⟨#[100,114,111,112]⟩, .string ⟨#[108,97,116,101,114]⟩, .string ⟨#[102,108,117,115,104]⟩] 9)).cell? ⟨wr.heap.size+1,0+j,none⟩=(#[.string ⟨#[101,110,116,101,114]⟩, .string ⟨#[108,101,97,118,101]⟩, .string ⟨#[114,101,115,116]⟩, .string ⟨#[119,97,105,116]⟩, .string ⟨#[114,101,97,100]⟩, .string ⟨#[100,114,111,112]⟩, .string ⟨#[108,97,116,101,114]⟩, .string ⟨#[102,108,117,115,104]⟩]:Array Value)[j]? :=fun j=>by
     have:=World.cell?_alloc_new (wr.alloc (.cells #[.string kd, .int .i64 nn] 69)) #[.string ⟨#[101,110,116,101,114]⟩, .string ⟨#[108,101,97,118,101]⟩, .string ⟨#[114,101,115,116]⟩, .string ⟨#[119,97,105,116]⟩, .string ⟨#[114,101,97,100]⟩, .string ⟨#[100,114,111,112]⟩, .string ⟨#[108,97,116,101,114]⟩, .string ⟨#[102,108,117,115,104]⟩] 9 j
     rw[World.size_alloc] at this
     rw[Nat.zero_add]
     exact this
    refine⟨_,0,rfl,?_⟩
    match i,hy with
    |0,hy=>cases hy;exact hc 0
    |1,hy=>cases hy;exact hc 1
    |2,hy=>cases hy;exact hc 2
    |3,hy=>cases hy;exact hc 3
    |4,hy=>cases hy;exact hc 4
    |5,hy=>cases hy;exact hc 5
    |6,hy=>cases hy;exact hc 6
    |7,hy=>cases hy;exact hc 7
   have hkc:((wr.alloc (.cells #[.string kd, .int .i64 nn] 69)).alloc (.cells #[.string ⟨#[101,110,116,101,114]⟩, .string ⟨#[108,101,97,118,101]⟩, .string ⟨#[114,101,115,116]⟩, .string ⟨#[119,97,105,116]⟩, .string ⟨#[114,101,97,100]⟩, .string ⟨#[100,114,111,112]⟩, .string ⟨#[108,97,116,101,114]⟩, .string ⟨#[102,108,117,115,104]⟩] 9)).cell? ⟨wr.heap.size,0,none⟩=some (.string kd):=keep_cell (bRf.alloc nL _) (by rw[World.cell?_alloc_new];rfl)
   have hkn:((wr.alloc (.cells #[.string kd, .int .i64 nn] 69)).alloc (.cells #[.string ⟨#[101,110,116,101,114]⟩, .string ⟨#[108,101,97,118,101]⟩, .string ⟨#[114,101,115,116]⟩, .string ⟨#[119,97,105,116]⟩, .string ⟨#[114,101,97,100]⟩, .string ⟨#[100,114,111,112]⟩, .string ⟨#[108,97,116,101,114]⟩, .string ⟨#[102,108,117,115,104]⟩] 9)).cell? ⟨wr.heap.size,1,none⟩=some (.int .i64 nn):=keep_cell (bRf.alloc nL _) (by rw[World.cell?_alloc_new];rfl)
   have HKC:=hide hkc
   have HKN:=hide hkn
   have HSH:=hide (tshape_any (c:=8) kd nn (HE.out.below (below_step hbw hB2).block) htx)
   have HB2:=hide hB2
   have HKW:Hid (w.heap.size<wr.heap.size):=hide (bLt hcr.c0)
   clear hx hdr hfe hfs hcr hbd hbw htu hB1 hB2 htx hkc hkn HR
   go_wp2_with fail
   refine HSH.out.mono ?_
   rintro e w2 ⟨rfl,hb2⟩
   have HC2:=hide (HCR.out.below (below_step HB2.out hb2))
   have HW2:=hide (below_step HBW.out (below_step HB2.out hb2))
   have HT2:=hide (HTU.out.trans (Turns.of_below (below_step HB2.out hb2)))
   have k0:=keep_cell hb2 HKC.out
   have k1:=keep_cell hb2 HKN.out
   skip
   clear hb2 HSH HB2 HKC HKN HCR HTU HBW
   by_cases hs0:shErr (kn kd.toList) nn=0
   ·rw [hs0]
    have HCK:=hide (ccheck_any s.deep s.ret s.wt kd (HE.out.below HW2.out.block))
    obtain⟨d0,d1,d2, -⟩:=HC2.out
    obtain⟨sd,sr,swt,ssf⟩:=s
    dsimp only at d0 d1 d2 HCK HBD HC2
    rw[errVal_zero a rfl]
    go_wp2_with fail
    refine HCK.out.mono ?_
    rintro e w3 ⟨rfl,hb3⟩
    have HC3:=hide (HC2.out.below hb3)
    have HW3:=hide (below_step HW2.out hb3)
    have HT3:=hide (HT2.out.trans (Turns.of_below hb3))
    replace k0:=keep_cell hb3 k0
    replace k1:=keep_cell hb3 k1
    replace d0:=HC3.out.c0
    replace d1:=HC3.out.c1
    replace d2:=HC3.out.c2
    skip
    clear hb3 HC2 HW2 HT2 HCK
    by_cases hq0:ckErr (kn kd.toList) sd sr=0
    ·rw[hq0,errVal_zero a rfl]
     have HFN:=hide (HFE.out.trans (folE_go hs0 hq0))
     clear HFE
     go_wp2_with fail
     refine(see_check sd sr swt kd nn w3).mono ?_
     rintro e w4 ⟨rfl,hb4⟩
     have HC4:=hide (HC3.out.below hb4)
     have HW4:=hide (below_step HW3.out hb4)
     have HT4:=hide (HT3.out.trans (Turns.of_below hb4))
     replace k0:=keep_cell hb4 k0
     clear hb4
     clear HC3 HW3 HT3 d0 d1 d2
     have HPA:=hide (cpass_any kd HC4.out ⟨by have:=HBD.out.1;omega,by have:=HBD.out.2;omega⟩)
     go_wp2_with fail
     refine HPA.out.mono ?_
     rintro e w5 ⟨rfl,hc5,ht5⟩
     have HW5:=hide (HW4.out.trans (ht5.below HW4.out.size (fun q o hq e=>by have:=HWW.out;omega)))
     have HT5:=hide (HT4.out.trans (ht5.mono (fun q o _ e=>e)))
     have HB5:=hide (psDeep_bound (kn kd.toList) sd HBD.out)
     skip
     have HC5:=hide hc5
     have HFS5:=HFS.out
     clear HPA HC4 HW4 HT4 hc5 ht5 k0 k1
     go_wp2_with fail
     go_roundw
     case rel=>exact⟨k+1,by omega,by go_num,hide ⟨CrI.pass ⟨sd,sr,swt,ssf⟩ ⟨kd,nn⟩,HC5.out,HB5.out,HFN.out,HFS5,HW5.out,HT5.out⟩⟩
     case measure=>simp[intOf];omega
    ·have HFN:=hide (HFE.out.trans (folE_ck hs0 hq0))
     clear HFE
     obtain⟨j,hj,hv⟩:=errVal_pos (a:=a) hq0
     rw[hv]
     go_wp2_with fail
     go_ret
     exact⟨by rw[HFN.out];exact(by rw[hv];rfl),HT3.out.below nL (fun q o hq e=>by rw[e] at hq;exact Nat.lt_irrefl _ hq)⟩
   ·have HFN:=hide (HFE.out.trans (folE_sh (s:=s) (x:=⟨kd,nn⟩) (l:=l.drop (k+1)) hs0))
    clear HFE
    obtain⟨j,hj,hv⟩:=errVal_pos (a:=a) hs0
    rw[hv]
    go_wp2_with fail
    go_ret
    exact⟨by rw[HFN.out];exact(by rw[hv];rfl),HT2.out.below nL (fun q o hq e=>by rw[e] at hq;exact Nat.lt_irrefl _ hq)⟩
  ·obtain rfl:k=n:=by omega
   have hdl:l.drop k=[]:=by rw[<-hn.out,List.drop_length]
   rw[hdl] at hfe hfs
   have HFE:=hide hfe
   have HFS:=hide hfs
   have HTU:=hide htu
   skip
   have g7:wr.cell? ⟨1,0,none⟩=some (errAt (a 7)):=(HE.out.below hbw.block).cell 7 (by decide)
   obtain⟨d0, -, -, -⟩:=hcr
   clear hfe hfs htu hbw hbd HR hdl
   by_cases hd:0<s.deep
   ·have HFN:Hid (folE .first l=8):=hide (by rw[HFE.out];exact if_pos hd)
    go_wp2_with fail
    go_ret
    exact⟨by rw[HFN.out];exact rfl,HTU.out.below nL (fun q o hq e=>by rw[e] at hq;exact Nat.lt_irrefl _ hq)⟩
   ·have HFN:Hid (folE .first l=0):=hide (by rw[HFE.out];exact if_neg hd)
    go_wp2_with fail
    go_ret
    exact⟨by rw[HFN.out];exact rfl,HTU.out.below nL (fun q o hq e=>by rw[e] at hq;exact Nat.lt_irrefl _ hq)⟩
end
section
open Go.RowKit Go.Extern.Stop Go.Stop Go.Extern Go.Maps Go.WideMaps Go.Sort
variable {cl:List (List OpI)} {ad:Option Addr} {cap:Nat} {w:World}
def longTo(cl:List (List OpI))(k:Nat):Bool:=(cl.take k).any fun L=>decide (20<L.length)
theorem longTo_succ{k:Nat}{L:List OpI}(h:cl[k]? =some L):longTo cl (k+1)=(longTo cl k ||decide (20<L.length)):=by
 unfold longTo
 rw[List.take_add_one,h,List.any_append]
 simp
theorem longTo_mono{k m:Nat}(hm:k<=m)(he:longTo cl k=true):longTo cl m=true:=by
 unfold longTo at he ⊢
 rw[List.any_eq_true] at he ⊢
 obtain⟨x,hx,hp⟩:=he
 exact⟨x,(List.take_subset_take_left _ hm) hx,hp⟩
theorem fit1_any(ad:Option Addr)(n c:Nat)(w:World):Calls Tryz.prog 224 #[.slice ad n c] w fun e w'=>e= .returned (.bool (decide (20<n)))/\w'=w:=by
 go_enter Tryz.func224,Tryz.ntmps224
 go_wp2_with fail
 go_ret
 refine⟨?_,rfl⟩
 by_cases h:20<n
 ·rw[decide_eq_true h]
  show Ending.returned (Value.bool (decide (20<(n:Int))))=_
  rw[decide_eq_true (show 20<(n:Int) by omega)]
 ·rw[decide_eq_false h]
  show Ending.returned (Value.bool (decide (20<(n:Int))))=_
  rw[decide_eq_false (show ¬20<(n:Int) by omega)]
theorem indexF_any (h:opRowsAt ad cl w) (hl:cl.length<=100):
  Calls Tryz.prog 242 #[.slice ad cl.length cap, .func (.func 224) #[] #[]] w fun e w'=> ∃r:Int,e= .returned (.int .i64 r)/\decide (0<=r)=longTo cl cl.length/\w'=w:=by
 have HH:=hide h
 obtain⟨n,hn⟩: ∃n,Hid (cl.length=n):=⟨_,hide rfl⟩
 rw[hn.out] at hl ⊢
 clear h
 go_enter Tryz.func242,Tryz.ntmps242
 go_wp2_with fail
 go_loopw [5,8] (fun _ i wr=> ∃j:Nat,j<=n/\i= .int .i64 j/\Hid (longTo cl j=false)/\w=wr) (fun _ i _=>n - (intOf i).toNat)
 case atStart=>exact⟨0,Nat.zero_le _,rfl,hide rfl,(by first |rfl |trivial)⟩
 case round=>
  obtain⟨j,hj,rfl,HA,rfl⟩:=hrel
  by_cases hlt:j<n
  ·have ji:(j:Int)<n:=by omega
   obtain⟨L,hL⟩: ∃L,cl[j]? =some L:=⟨_,List.getElem?_eq_getElem (by rw[hn.out];exact hlt)⟩
   obtain⟨b,off,adl,capl,rfl,c0, -⟩:=HH.out j L hL
   have HS:=hide (longTo_succ hL)
   have HF:=hide (fit1_any adl L.length capl w)
   clear hL
   generalize hLn:L.length=ln at*
   cases he:decide (20<ln)
   ·have HA2:Hid (longTo cl (j+1)=false):=hide (by rw[HS.out,HA.out,he];rfl)
    rw[he] at HF
    clear HS HA he
    go_wp2_with fail
    refine HF.out.mono ?_
    rintro e w2 ⟨rfl,rfl⟩
    go_wp2_with fail
    go_roundw
    case rel=>exact⟨j+1,by omega,by go_num,HA2,(by first |rfl |trivial)⟩
    case measure=>simp[intOf];omega
   ·have HA2:Hid (longTo cl n=true):=hide (longTo_mono (show j+1<=n by omega) (by rw[HS.out,he,Bool.or_true]))
    rw[he] at HF
    clear HS HA he
    go_wp2_with fail
    refine HF.out.mono ?_
    rintro e w2 ⟨rfl,rfl⟩
    go_wp2_with fail
    go_ret
    exact⟨j,rfl,by rw[HA2.out];exact decide_eq_true (by omega),rfl⟩
  ·obtain rfl:j=n:=by omega
   go_wp2_with fail
   go_ret
   exact⟨-1,rfl,by rw[HA.out];rfl,rfl⟩
theorem containsF_any(h:opRowsAt ad cl w)(hl:cl.length<=100):
  Calls Tryz.prog 223 #[.slice ad cl.length cap, .func (.func 224) #[] #[]] w fun e w'=>e= .returned (.bool (longTo cl cl.length))/\w'=w:=by
 have HI:=hide (indexF_any (cap:=cap) h hl)
 clear h
 generalize longTo cl cl.length=B at*
 generalize cl.length=n at*
 go_enter Tryz.func223,Tryz.ntmps223
 go_wp2_with fail
 refine HI.out.mono ?_
 rintro e w2 ⟨r,rfl,hr,rfl⟩
 go_wp2_with fail
 go_ret
 refine⟨?_,rfl⟩
 rw[<-hr]
 rfl
def fitB(cl:List (List OpI)):Bool:=decide (1<=cl.length)&&(decide (cl.length<=6)&& !(longTo cl cl.length))
theorem fit_any (h:opRowsAt ad cl w):
  Calls Tryz.prog 172 #[.slice ad cl.length cap] w fun e w'=>e= .returned (.bool (fitB cl))/\w'=w:=by
 by_cases h1:cl.length<1
 ·have hf:fitB cl=false:=by unfold fitB;rw[decide_eq_false (by omega)];rfl
  rw[hf]
  have i1:(cl.length:Int)<1:=by omega
  generalize cl.length=n at*
  clear h
  go_enter Tryz.func172,Tryz.ntmps172
  go_wp2_with fail
  go_ret
  exact⟨rfl,rfl⟩
 ·have i1: ¬(cl.length:Int)<1:=by omega
  by_cases h6:6<cl.length
  ·have hf:fitB cl=false:=by unfold fitB;rw[decide_eq_true (by omega),decide_eq_false (by omega)];rfl
   rw[hf]
   have i2:6<(cl.length:Int):=by omega
   generalize cl.length=n at*
   clear h
   go_enter Tryz.func172,Tryz.ntmps172
   go_wp2_with fail
   go_ret
   exact⟨rfl,rfl⟩
  ·have hf:fitB cl= !(longTo cl cl.length):=by unfold fitB;rw[decide_eq_true (by omega),decide_eq_true (by omega)];rfl
   rw[hf]
   have i2: ¬6<(cl.length:Int):=by omega
   have HC:=hide (containsF_any (cap:=cap) h (by omega))
   clear h hf
   generalize longTo cl cl.length=B at*
   generalize cl.length=n at*
   go_enter Tryz.func172,Tryz.ntmps172
   go_wp2_with fail
   refine HC.out.mono ?_
   rintro e w2 ⟨rfl,rfl⟩
   go_wp2_with fail
   go_ret
   exact⟨rfl,rfl⟩
end
section
open Go.RowKit Go.Extern.Stop Go.Stop Go.Extern Go.Maps Go.WideMaps Go.Sort
variable {cl:List (List OpI)} {a:Nat->Addr} {ad:Option Addr} {w00 w:World} {cap:Nat}
def eachFrom:List (List OpI)->Nat->Nat×Int
 | [],_=>(0, -1)
 |L::r,t=>if folE .first L≠0 then(folE .first L,(t:Int)) else eachFrom r (t+1)
def eachE(cl:List (List OpI)):Nat×Int:=if fitB cl=true then eachFrom cl 0 else(2, -1)
theorem fit_rows(h:fitB cl=true): ∀L∈cl,L.length<=20:=fun L hL=>by
 unfold fitB at h
 simp only[Bool.and_eq_true,Bool.not_eq_true'] at h
 have h3:=h.2.2
 unfold longTo at h3
 rw[List.take_length] at h3
 have:=List.any_eq_false.1 h3 L hL
 simpa using this
theorem fit_len(h:fitB cl=true):cl.length<=6:=by
 unfold fitB at h
 simp only[Bool.and_eq_true,decide_eq_true_eq] at h
 exact h.2.1
theorem fol1_check(hE:EnvL a w00){l:List OpI}(ho:opsAt ad l w00)(hw:Below w00.heap.size w00 w)(hl:l.length<=30){bx:Nat}(cx:w.cell? ⟨bx,0,none⟩=some (.func (.func 54) #[] #[])):
  Calls Tryz.prog 100 #[.slice ad l.length cap, .pointer (some ⟨bx,0,none⟩)] w fun e w'=>e= .returned (errVal a (folE .first l))/\Below w.heap.size w w':=by
 have HF:=hide (followOne_check (cap:=cap) hE ho hw hl)
 clear hE ho hw hl
 generalize l.length=n at*
 go_enter Tryz.func100,Tryz.ntmps100
 go_wp2_with fail
 refine HF.out.mono ?_
 rintro e w2 ⟨rfl,h2⟩
 have HP:=hide h2
 obtain⟨ev,hev⟩: ∃ev,Hid (errVal a (folE .first l)=ev):=⟨_,hide rfl⟩
 rw[hev.out]
 clear h2 HF
 go_wp2_with fail
 refine bodyPost_ret (v:=ev) (by simp only[results,Tryz.results100];go_simp) rfl ⟨by rw[hev.out],HP.out⟩
theorem each_check (hE:EnvL a w00) (ho:opRowsAt ad cl w00) (hw:Below w00.heap.size w00 w) {bx:Nat} (cx:w.cell? ⟨bx,0,none⟩=some (.func (.func 54) #[] #[])):
  Calls Tryz.prog 99 #[.slice ad cl.length cap, .func (.func 100) #[] #[.pointer (some ⟨bx,0,none⟩)]] w fun e w'=> ∃v,e= .returned v/\errIs a (eachE cl) v w' w.heap.size/\Below w.heap.size w w':=by
 have HE:=hide hE
 have HO:=hide ho
 have HFI:=hide (fit_any (cap:=cap) (ho.below hw))
 have HCX:=hide cx
 skip
 have H0:Hid (eachFrom cl 0=eachFrom (cl.drop 0) 0/\Below w00.heap.size w00 w/\Below w.heap.size w w):=hide ⟨rfl,hw,Below.refl _ _⟩
 obtain⟨n,hn⟩: ∃n,Hid (cl.length=n):=⟨_,hide rfl⟩
 rw[hn.out] at HFI ⊢
 have g1:w.cell? ⟨0,0,none⟩=some (errAt (a 1)):=(hE.below hw.block).cell 1 (by decide)
 clear hE ho hw cx
 cases hfb:fitB cl
 ·rw[hfb] at HFI
  have HEE:Hid (eachE cl=(2, -1)):=hide (by unfold eachE;rw[hfb];rfl)
  clear hfb
  go_enter Tryz.func99,Tryz.ntmps99
  go_wp2_with fail
  refine HFI.out.mono ?_
  rintro e w2 ⟨rfl,rfl⟩
  go_wp2_with fail
  go_ret
  exact⟨_,rfl,by rw[HEE.out];exact .inr (.inl ⟨by decide,rfl,rfl⟩),Below.refl _ _⟩
 ·rw [hfb] at HFI
  have HEE:Hid (eachE cl=eachFrom cl 0):=hide (by unfold eachE;rw[hfb];rfl)
  have HL:=hide (fit_rows hfb)
  have hn6:cl.length<=6:=fit_len hfb
  rw[hn.out] at hn6
  clear hfb g1
  go_enter Tryz.func99,Tryz.ntmps99
  go_wp2_with fail
  refine HFI.out.mono ?_
  rintro e w2 ⟨rfl,e2⟩
  obtain rfl:w=w2:=e2.symm
  clear HFI
  go_wp2_with fail
  go_loopw [5,6,7,14] (fun _ _ _ i wr=> ∃k:Nat,k<=n/\i= .int .i64 k/\Hid (eachFrom cl 0=eachFrom (cl.drop k) k/\Below w00.heap.size w00 wr/\Below w.heap.size w wr)) (fun _ _ _ i _=>n - (intOf i).toNat)
  case atStart=>exact⟨0,Nat.zero_le _,rfl,H0⟩
  case round=>
   clear H0
   obtain⟨k,hk,rfl,HR⟩:=hrel
   obtain⟨hee,hbw,hbb⟩:=HR.out
   by_cases hlt:k<n
   ·have ki:(k:Int)<n:=by omega
    obtain⟨L,hL⟩: ∃L,cl[k]? =some L:=⟨_,List.getElem?_eq_getElem (by rw[hn.out];exact hlt)⟩
    have hdr:cl.drop k=L::cl.drop (k+1):=by
     have:=List.drop_eq_getElem_cons (show k<cl.length by rw[hn.out];exact hlt)
     rw[this]
     have h2:=List.getElem?_eq_getElem (show k<cl.length by rw[hn.out];exact hlt)
     rw[hL] at h2
     rw[Option.some.inj h2]
    rw[hdr] at hee
    obtain⟨b9,off,adl,capl,rfl,c00,hops⟩:=HO.out k L hL
    have c0:=keep_cell hbw c00
    have hl20:=HL.out L (List.mem_of_getElem? hL)
    have HF1:=hide (fol1_check (cap:=capl) HE.out hops hbw (by omega) (keep_cell hbb HCX.out))
    have HEE2:=hide hee
    have HBW:=hide hbw
    have HBB:=hide hbb
    clear hL hdr hee hbw c00 hops hl20 HR hbb
    generalize hLn:L.length=ln at*
    go_wp2_with fail
    refine HF1.out.mono ?_
    rintro e w2 ⟨rfl,hb2⟩
    have HBB2:=hide (below_step HBB.out hb2)
    have HBW2:=hide (below_step HBW.out hb2)
    clear hb2 HBB HBW
    by_cases hz:folE .first L=0
    ·rw [hz,errVal_zero a rfl]
     have HEN:Hid (eachFrom cl 0=eachFrom (cl.drop (k+1)) (k+1)):=hide (by
      rw[HEE2.out]
      show(if folE .first L≠0 then _ else _)=_
      rw[if_neg (fun h=>h hz)])
     skip
     clear HF1 HEE2
     go_wp2_with fail
     go_roundw
     case rel=>exact⟨k+1,by omega,by go_num,hide ⟨HEN.out,HBW2.out,HBB2.out⟩⟩
     case measure=>simp[intOf];omega
    ·obtain ⟨j,hj,hv⟩:=errVal_pos (a:=a) hz
     rw[hv]
     have HEN:Hid (eachE cl=(j+1,(k:Int))):=hide (by
      rw[HEE.out,HEE2.out]
      show(if folE .first L≠0 then _ else _)=_
      rw[if_pos hz,hj])
     have hsz:w.heap.size<=w2.heap.size:=HBB2.out.size
     clear HF1 HEE2
     go_wp2_with fail
     go_ret
     refine⟨_,rfl,?_,HBB2.out.alloc hsz _⟩
     rw[HEN.out]
     exact .inr (.inr ⟨by simp,k,w2.heap.size,rfl,hsz,rfl,by rw[World.cell?_alloc_new];rfl,by rw[World.cell?_alloc_new];rfl⟩)
   ·obtain rfl:k=n:=by omega
    have hdl:cl.drop k=[]:=by rw[<-hn.out,List.drop_length]
    rw[hdl] at hee
    have HEN:Hid (eachE cl=(0, -1)):=hide (by rw[HEE.out,hee];rfl)
    have HBB:=hide hbb
    clear hee hbw HR hdl hbb
    go_wp2_with fail
    go_ret
    exact⟨_,rfl,by rw[HEN.out];exact .inl ⟨rfl,rfl⟩,HBB.out⟩
end
end Go.Proofs.YtnoigmdmgdcliaaGreatDoor
