import Derived.Test.YtnoigmdmgdcliaaGreatDoorA18
import Derived.Lib.QuietBelow
namespace Go.Proofs.YtnoigmdmgdcliaaGreatDoor
set_option maxRecDepth 100000
set_option maxHeartbeats 8000000
section
open Go.RowKit Go.Extern.Stop Go.Stop Go.Extern Go.Maps Go.WideMaps Go.Sort
def rwsAt(ad:Option Addr)(rows:List (List Int))(w:World):Prop:= ∀(i:Nat) row,rows[i]? =some row-> ∃b off adr cap,ad=some ⟨b,off,none⟩/\w.cell? ⟨b,off+i,none⟩=some (.slice adr row.length cap)/\numsAt adr row w
theorem rwsAt.below{ad:Option Addr}{rows:List (List Int)}{w w':World}(h:rwsAt ad rows w)(hb:Below w.heap.size w w'):rwsAt ad rows w':=fun i row hi=>by
 obtain⟨b,off,adr,cap,h1,h2,h3⟩:=h i row hi
 exact⟨b,off,adr,cap,h1,keep_cell hb h2,h3.below hb⟩
structure RowV(w0:World)(blk:Nat) where
 ad:Option Addr
 cap:Nat
 row:List Int
 at': ∀(i:Nat) x,row[i]? =some x-> ∃b off,ad=some ⟨b,off,none⟩/\b≠blk/\w0.cell? ⟨b,off+i,none⟩=some (.int .i64 x)
 few:row.length<=1000000
def RowV.enc{w0:World}{blk:Nat}(x:RowV w0 blk):Value:= .slice x.ad x.row.length x.cap
instance rowV_some{w0:World}{blk:Nat}:Inhabited (RowV w0 blk):=⟨⟨none,0,[],fun i x h=>by simp at h,by decide⟩⟩
def jrRen:Go.Shelf.Ren:=⟨fun |20=>149 |n=>n,fun |0=>0 |3=>3 |4=>4 |22=>38 |24=>23 |25=>106 |n=>n,fun |n=>n⟩
theorem jrLays:Go.Proofs.SlLaysF.n20 Tryz.prog jrRen where
 mixed:=by kernel_rfl
 f20:=⟨Tryz.f149.name,by kernel_rfl,Tryz.func149.trans (congrArg some (by kernel_rfl))⟩
 t0:=Tryz.underlying0
 a0:=Tryz.isAgg0
 z0:=Tryz.sizeOf0
 v0:=Tryz.zeroValue0
 t3:=Tryz.underlying3
 a3:=Tryz.isAgg3
 z3:=Tryz.sizeOf3
 v3:=Tryz.zeroValue3
 t4:=Tryz.underlying4
 a4:=Tryz.isAgg4
 z4:=Tryz.sizeOf4
 v4:=Tryz.zeroValue4
 t22:=Tryz.underlying38
 a22:=Tryz.isAgg38
 z22:=Tryz.sizeOf38
 v22:=Tryz.zeroValue38
 a24:=Tryz.isAgg23
 z24:=Tryz.sizeOf23
 t25:=Tryz.underlying106
 a25:=Tryz.isAgg106
 z25:=Tryz.sizeOf106
 v25:=Tryz.zeroValue106
def blRen:Go.Shelf.Ren:=⟨fun |125=>81 |128=>157 |129=>158 |n=>n,fun |46=>173 |3=>3 |51=>117 |53=>259 |4=>4 |5=>5 |9=>9 |n=>n,fun |n=>n⟩
theorem blLays:Go.Proofs.Lays.n125 Tryz.prog blRen where
 mixed:=by kernel_rfl
 f125:=Tryz.func81.trans (congrArg some (by kernel_rfl))
 f128:=Tryz.func157.trans (congrArg some (by kernel_rfl))
 f129:=Tryz.func158.trans (congrArg some (by kernel_rfl))
 t3:=Tryz.underlying3
 a3:=Tryz.isAgg3
 z3:=Tryz.sizeOf3
 v3:=Tryz.zeroValue3
 t4:=Tryz.underlying4
 a4:=Tryz.isAgg4
 z4:=Tryz.sizeOf4
 v4:=Tryz.zeroValue4
 t5:=Tryz.underlying5
 a5:=Tryz.isAgg5
 z5:=Tryz.sizeOf5
 v5:=Tryz.zeroValue5
 t9:=Tryz.underlying9
 a9:=Tryz.isAgg9
 z9:=Tryz.sizeOf9
 v9:=Tryz.zeroValue9
 t46:=Tryz.underlying173
 a46:=Tryz.isAgg173
 z46:=Tryz.sizeOf173
 v46:=Tryz.zeroValue173
 t51:=Tryz.underlying117
 a51:=Tryz.isAgg117
 z51:=Tryz.sizeOf117
 v51:=Tryz.zeroValue117
 t53:=Tryz.underlying259
 a53:=Tryz.isAgg259
 z53:=Tryz.sizeOf259
 v53:=Tryz.zeroValue259
section
variable {w0:World} {blk:Nat}
def rvCmp(x y:RowV w0 blk):Int:=cmpL x.row y.row
theorem cmp_lays(size:Nat):Go.Proofs.CmpLays1 Tryz.prog 41 #[] (RowV.enc (w0:=w0) (blk:=blk)) rvCmp blk 0 size w0:=fun m os dk _ x y=>by
 have hat: ∀z:RowV w0 blk,numsAt z.ad z.row (Go.Proofs.sortWorld RowV.enc w0 blk 0 m dk os):=fun z i v hv=>by
  obtain⟨b,off,e,hb,hc⟩:=z.at' i v hv
  refine⟨b,off,e,?_⟩
  have hl:b<w0.heap.size:=bLt hc
  unfold Go.Proofs.sortWorld
  rw[cell?_grow _ _ _ (by simpa using hl),cell?_putRow_other _ _ _ _ _ _ (.inl hb)]
  exact hc
 refine(scmp_any x.few (hat x) (hat y)).mono ?_
 rintro e w' ⟨rfl,rfl⟩
 exact⟨rfl,0,#[],by simp[World.drewN]⟩
theorem ins_any(d:Array (RowV w0 blk))(hH:Holds RowV.enc w0 blk 0 d)(hb:blk<w0.heap.size)(h12:d.size<=12)(cap:Nat):
  Calls Tryz.prog 149 #[.slice (some ⟨blk,0,none⟩) d.size cap, .int .i64 0, .int .i64 d.size, .func (.func 41) #[] #[]] w0 fun e w'=>e= .returned (.tuple #[])/\Go.Proofs.SW RowV.enc w0 blk 0 (Sort.insertionSort (Go.Proofs.ltOf rvCmp) d 0 d.size) w':=
 Go.Proofs.Any.insertionSortCmpFunc_s jrLays RowV.enc rvCmp 41 #[] blk 0 cap 0 d.size d d w0 w0 (fun _ _=>rfl) (cmp_lays d.size) ⟨fun _=>rfl,hH,hb⟩ rfl (Go.Proofs.SW.start hH) (Nat.zero_le _) nL (by omega)
end
end
section
open Go.RowKit Go.Extern.Stop Go.Stop Go.Extern
variable {xs ys:List Int}
theorem take_more{j:Nat}{x:Int}(h:xs.take j=ys.take j)(hx:xs[j]? =some x)(hy:ys[j]? =some x):xs.take (j+1)=ys.take (j+1):=by
 rw[List.take_add_one,List.take_add_one,h,hx,hy]
theorem sameints_any {ad bd:Option Addr} {cp cq:Nat} {w:World} (hl:xs.length<=1000000) (hx:numsAt ad xs w) (hy:numsAt bd ys w):
  Calls Tryz.prog 44 #[.slice ad xs.length cp, .slice bd ys.length cq] w fun e w'=>e= .returned (.bool (decide (xs=ys)))/\Below w.heap.size w w':=by
 by_cases hn:xs.length=ys.length
 ·have HY:Hid (ys.length=xs.length):=hn.symm
  rw[<-hn]
  have HX:=hide hx
  have HZ:=hide hy
  clear hx hy hn
  obtain⟨n,hn⟩: ∃n,n=xs.length:=⟨_,rfl⟩
  have HN:=hide hn
  rw[<-hn] at hl ⊢
  clear hn
  go_enter Tryz.func44,Tryz.ntmps44
  go_wp2
  go_loopw [5] (fun i wr=>Below w.heap.size w wr/\ ∃j:Nat,j<=n/\i= .int .i64 j/\Hid (xs.take j=ys.take j)) (fun i _=>n - (intOf i).toNat)
  case atStart=>exact⟨Below.refl _ _,0,Nat.zero_le _,rfl,rfl⟩
  case round=>
   obtain⟨hbw,j,hj,rfl,HT⟩:=hrel
   by_cases hlt:j<n
   ·obtain ⟨x,hx⟩: ∃x,xs[j]? =some x:=⟨_,List.getElem?_eq_getElem (by rw[<-HN.out];exact hlt)⟩
    obtain⟨y,hy⟩: ∃y,ys[j]? =some y:=⟨_,List.getElem?_eq_getElem (by rw[HY.out, <-HN.out];exact hlt)⟩
    obtain⟨b,off,rfl,c1⟩:=HX.out j x hx
    obtain⟨b',off',rfl,c2⟩:=HZ.out j y hy
    replace c1:=keep_cell hbw c1
    replace c2:=keep_cell hbw c2
    by_cases he:x=y
    ·subst he
     have HM:Hid (xs.take (j+1)=ys.take (j+1)):=take_more HT.out hx hy
     clear hx hy
     go_wp2
     go_quiet (fail)
     go_wp2
     go_roundw
     case rel=>exact⟨hbw.trans ((Below.drewN' nq).mono hbw.size),j+1,by omega,by go_num,HM⟩
     case measure=>simp[intOf];omega
    ·have HF:Hid (decide (xs=ys)=false):=decide_eq_false (fun e=>by rw[e,hy] at hx;exact he (Option.some.inj hx).symm)
     have hne:(x==y)=false:=by simpa using he
     clear hx hy
     go_wp2
     go_quiet (fail)
     go_wp2
     go_ret
     exact⟨by rw[HF.out];rfl,hbw.trans ((Below.drewN' nq).mono hbw.size)⟩
   ·obtain rfl:j=n:=by omega
    have HF:Hid (decide (xs=ys)=true):=decide_eq_true (by
     have h1:=HT.out
     rw[List.take_of_length_le (by rw[<-HN.out];exact Nat.le_refl _),List.take_of_length_le (by rw[HY.out, <-HN.out];exact Nat.le_refl _)] at h1
     exact h1)
    go_wp2
    go_ret
    exact⟨by rw[HF.out];rfl,hbw⟩
 ·have HF:Hid (decide (xs=ys)=false):=decide_eq_false (fun e=>hn (by rw[e]))
  have hne:((xs.length:Int)==(ys.length:Int))=false:=by simp;omega
  clear hx hy
  go_enter Tryz.func44,Tryz.ntmps44
  go_wp2
  go_ret
  exact⟨by rw[HF.out];rfl,Below.refl _ _⟩
end
section
open Go.RowKit Go.Extern.Stop Go.Stop Go.Extern Go.Maps Go.WideMaps Go.Sort
theorem sequal_any {ad bd:Option Addr} {xs ys:List Int} {cp cq:Nat} {w:World} (hl:xs.length<=1000000) (hx:numsAt ad xs w) (hy:numsAt bd ys w):
  Calls Tryz.prog 43 #[.slice ad xs.length cp, .slice bd ys.length cq] w fun e w'=>e= .returned (.bool (decide (xs=ys)))/\Below w.heap.size w w':=by
 by_cases hn:xs.length=ys.length
 ·have HY:Hid (ys.length=xs.length):=hn.symm
  rw[<-hn]
  have HX:=hide hx
  have HZ:=hide hy
  clear hx hy hn
  obtain⟨n,hn⟩: ∃n,n=xs.length:=⟨_,rfl⟩
  have HN:=hide hn
  rw[<-hn] at hl ⊢
  clear hn
  go_enter Tryz.func43,Tryz.ntmps43
  go_wp2
  go_loopw [13] (fun i wr=>Below w.heap.size w wr/\ ∃j:Nat,j<=n/\i= .int .i64 j/\Hid (xs.take j=ys.take j)) (fun i _=>n - (intOf i).toNat)
  case atStart=>exact⟨Below.refl _ _,0,Nat.zero_le _,rfl,rfl⟩
  case round=>
   obtain⟨hbw,j,hj,rfl,HT⟩:=hrel
   by_cases hlt:j<n
   ·obtain ⟨x,hx⟩: ∃x,xs[j]? =some x:=⟨_,List.getElem?_eq_getElem (by rw[<-HN.out];exact hlt)⟩
    obtain⟨y,hy⟩: ∃y,ys[j]? =some y:=⟨_,List.getElem?_eq_getElem (by rw[HY.out, <-HN.out];exact hlt)⟩
    obtain⟨b,off,rfl,c1⟩:=HX.out j x hx
    obtain⟨b',off',rfl,c2⟩:=HZ.out j y hy
    replace c1:=keep_cell hbw c1
    replace c2:=keep_cell hbw c2
    by_cases he:x=y
    ·subst he
     have HM:Hid (xs.take (j+1)=ys.take (j+1)):=take_more HT.out hx hy
     clear hx hy
     go_wp2
     go_quiet (fail)
     go_wp2
     go_roundw
     case rel=>exact⟨hbw.trans ((Below.drewN' nq).mono hbw.size),j+1,by omega,by go_num,HM⟩
     case measure=>simp[intOf];omega
    ·have HF:Hid (decide (xs=ys)=false):=decide_eq_false (fun e=>by rw[e,hy] at hx;exact he (Option.some.inj hx).symm)
     have hne:(x==y)=false:=by simpa using he
     clear hx hy
     go_wp2
     go_quiet (fail)
     go_wp2
     go_ret
     exact⟨by rw[HF.out];rfl,hbw.trans ((Below.drewN' nq).mono hbw.size)⟩
   ·obtain rfl:j=n:=by omega
    have HF:Hid (decide (xs=ys)=true):=decide_eq_true (by
     have h1:=HT.out
     rw[List.take_of_length_le (by rw[<-HN.out];exact Nat.le_refl _),List.take_of_length_le (by rw[HY.out, <-HN.out];exact Nat.le_refl _)] at h1
     exact h1)
    go_wp2
    go_ret
    exact⟨by rw[HF.out];rfl,hbw⟩
 ·have HF:Hid (decide (xs=ys)=false):=decide_eq_false (fun e=>hn (by rw[e]))
  have hne:((xs.length:Int)==(ys.length:Int))=false:=by simp;omega
  clear hx hy
  go_enter Tryz.func43,Tryz.ntmps43
  go_wp2
  go_ret
  exact⟨by rw[HF.out];rfl,Below.refl _ _⟩
section
variable {w0:World} {blk:Nat}
theorem pdq_few(d:Array (RowV w0 blk))(hH:Holds RowV.enc w0 blk 0 d)(hb:blk<w0.heap.size)(h12:d.size<=12)(cap:Nat)(lim:Int):
  Calls Tryz.prog 80 #[.slice (some ⟨blk,0,none⟩) d.size cap, .int .i64 0, .int .i64 d.size, .int .i64 lim, .func (.func 41) #[] #[]] w0 fun e w'=>e= .returned (.tuple #[])/\Go.Proofs.SW RowV.enc w0 blk 0 (Sort.insertionSort (Go.Proofs.ltOf rvCmp) d 0 d.size) w':=by
 have HI:=hide (ins_any d hH hb h12 cap)
 have hs:(d.size:Int)<=12:=by omega
 clear hH h12
 generalize Sort.insertionSort (Go.Proofs.ltOf rvCmp) d 0 d.size=D at*
 generalize d.size=n at*
 go_enter Tryz.func80,Tryz.ntmps80
 go_wp2_with fail
 refine wp_loop_rounds 1 ?_
 rw[rounds_succ]
 go_wp2_with fail
 refine HI.out.mono ?_
 rintro e w' ⟨rfl,hw⟩
 have HW:=hide hw
 clear hw HI
 go_wp2_with fail
 (try simp only[Exit.inBlock,Exit.then]);refine bodyPost_ret (results_none (by kernel_rfl) _ _ _) rfl ?_
 exact⟨rfl,HW.out⟩
theorem sort_few(d:Array (RowV w0 blk))(hH:Holds RowV.enc w0 blk 0 d)(hb:blk<w0.heap.size)(h12:d.size<=12)(cap:Nat):
  Calls Tryz.prog 40 #[.slice (some ⟨blk,0,none⟩) d.size cap, .func (.func 41) #[] #[]] w0 fun e w'=>e= .returned (.tuple #[])/\Go.Proofs.SW RowV.enc w0 blk 0 (Sort.insertionSort (Go.Proofs.ltOf rvCmp) d 0 d.size) w':=by
 have HP:=hide (fun lim=>pdq_few d hH hb h12 cap lim)
 have HB:=hide (fun(x:Int) (h0:0<=x) (h1:x<=12)=>Go.Proofs.Any.bits_Len blLays x w0 h0 (by omega))
 have hs:(d.size:Int)<=12:=by omega
 clear hH h12
 generalize Sort.insertionSort (Go.Proofs.ltOf rvCmp) d 0 d.size=D at*
 generalize d.size=n at*
 have HB2:=hide (HB.out (n:Int) (by omega) hs)
 clear HB
 go_enter Tryz.func40,Tryz.ntmps40
 go_wp2_with fail
 refine HB2.out.mono ?_
 rintro e w1 ⟨rfl,rfl⟩
 go_wp2_with fail
 refine(HP.out _).mono ?_
 rintro e w' ⟨rfl,hw⟩
 have HW:=hide hw
 clear hw HP HB2
 go_wp2_with fail
 go_end0
 exact⟨rfl,HW.out⟩
end
theorem compact_few {b off cap:Nat} {rows:List (List Int)} {w:World} (h:rwsAt (some ⟨b,off,none⟩) rows w) (h12:rows.length<=12) (hf: ∀row∈rows,row.length<=1000000) (hne: ∀(i:Nat) r r',rows[i]? =some r->rows[i+1]? =some r'->r'≠r):
  Calls Tryz.prog 42 #[.slice (some ⟨b,off,none⟩) rows.length cap, .func (.func 43) #[] #[]] w fun e w'=>e= .returned (.slice (some ⟨b,off,none⟩) rows.length cap)/\Below w.heap.size w w':=by
 have H:=hide h
 have HF:=hide hf
 have HNE:=hide hne
 clear h hf hne
 obtain⟨n,hn⟩: ∃n,n=rows.length:=⟨_,rfl⟩
 have HN:=hide hn
 rw[<-hn] at h12 ⊢
 clear hn
 have i12:(n:Int)<=12:=by omega
 by_cases h2:n<2
 ·have i2:(n:Int)<2:=by omega
  go_enter Tryz.func42,Tryz.ntmps42
  go_wp2_with fail
  go_ret
  exact⟨rfl,Below.refl _ _⟩
 ·have i2: ¬(n:Int)<2:=by omega
  go_enter Tryz.func42,Tryz.ntmps42
  go_wp2_with fail
  go_loopw [5] (fun i wr=> ∃j:Nat,1<=j/\j<=n/\i= .int .i64 j/\Hid (Below w.heap.size w wr)) (fun i _=>n - (intOf i).toNat)
  case atStart=>exact⟨1,Nat.le_refl _,by omega,rfl,Below.refl _ _⟩
  case round=>
   obtain⟨j,hj1,hj,rfl,HB⟩:=hrel
   by_cases hlt:j<n
   ·have ji:(j:Int)<n:=by omega
    obtain⟨jp,rfl⟩: ∃q,j=q+1:=⟨j - 1,by omega⟩
    have HR:=hide (H.out.below HB.out)
    obtain⟨r,hr⟩: ∃r,rows[jp]? =some r:=⟨_,List.getElem?_eq_getElem (by rw[<-HN.out];omega)⟩
    obtain⟨r',hr'⟩: ∃r',rows[jp+1]? =some r':=⟨_,List.getElem?_eq_getElem (by rw[<-HN.out];omega)⟩
    obtain⟨b1,o1,ad1,c1,e1,q1,a1⟩:=HR.out jp r hr
    obtain⟨b2,o2,ad2,c2,e2,q2,a2⟩:=HR.out (jp+1) r' hr'
    cases e1
    cases e2
    have HS:Hid (∀d os,Calls Tryz.prog 43 #[.slice ad2 r'.length c2, .slice ad1 r.length c1] (grow (redrawn wr d) os) fun e w''=>e= .returned (.bool (decide (r'=r)))/\ ∃q:Regrown,w''=grow (redrawn wr q.d) q.os):=fun d os=>
     Calls.regrown_of (sequal_any (HF.out r' (List.mem_of_getElem? hr')) (a2.below (below_regrown wr d os)) (a1.below (below_regrown wr d os)))
    rw[decide_eq_false (HNE.out jp r r' hr hr')] at HS
    have Q1:=cell_regrown q1
    have Q2:=cell_regrown q2
    clear hr hr' a1 a2 HR q1 q2
    have x1:IntKind.i64.wrap ((jp:Int)+1 - 1)=(jp:Int):=by rw[IntKind.wrap_i64];omega
    go_wp2_with fail
    refine wp_region_quiet_below (by kernel_rfl) (by kernel_rfl) ?_
    repeat (first
     |go_big_quiet_step (exact HS.out _ _)
     |quiet_step (exact HS.out _ _))
    refine wpQuiet_nil ?_
    intro _ hw'
    obtain⟨⟨dq,osq⟩,hw''⟩:=hw'
    subst hw''
    have HB1:=hide (below_step HB.out (below_regrown wr dq osq))
    clear HS Q1 Q2 HB
    generalize grow (redrawn wr dq) osq=w1 at*
    go_wp2_with fail
    go_roundw
    case rel=>exact⟨jp+1+1,by omega,by omega,by go_num,HB1⟩
    case measure=>simp[intOf];omega
   ·obtain rfl:j=n:=by omega
    have ji: ¬(j:Int)<j:=by omega
    go_wp2_with fail
    go_ret
    exact⟨rfl,HB.out⟩
theorem samerows_yes {ada adb:Option Addr} {ca cb:Nat} {rows:List (List Int)} {w:World} (ha:rwsAt ada rows w) (hb:rwsAt adb rows w) (h12:rows.length<=12) (hf: ∀row∈rows,row.length<=1000000):
  Calls Tryz.prog 19 #[.slice ada rows.length ca, .slice adb rows.length cb] w fun e w'=>e= .returned (.bool true)/\Below w.heap.size w w':=by
 have HA:=hide ha
 have HZ:=hide hb
 have HF:=hide hf
 clear ha hb hf
 obtain⟨n,hn⟩: ∃n,n=rows.length:=⟨_,rfl⟩
 have HN:=hide hn
 rw[<-hn] at h12 ⊢
 clear hn
 have i12:(n:Int)<=12:=by omega
 go_enter Tryz.func19,Tryz.ntmps19
 go_wp2_with fail
 go_loopw [5] (fun i wr=> ∃j:Nat,j<=n/\i= .int .i64 j/\Hid (Below w.heap.size w wr)) (fun i _=>n - (intOf i).toNat)
 case atStart=>exact⟨0,by omega,rfl,Below.refl _ _⟩
 case round=>
  obtain⟨j,hj,rfl,HB⟩:=hrel
  by_cases hlt:j<n
  ·have ji:(j:Int)<n:=by omega
   obtain⟨r,hr⟩: ∃r,rows[j]? =some r:=⟨_,List.getElem?_eq_getElem (by rw[<-HN.out];omega)⟩
   obtain⟨b1,o1,ad1,c1,rfl,q1,a1⟩:=(HA.out.below HB.out) j r hr
   obtain⟨b2,o2,ad2,c2,rfl,q2,a2⟩:=(HZ.out.below HB.out) j r hr
   have HS:Hid (∀d os,Calls Tryz.prog 44 #[.slice ad1 r.length c1, .slice ad2 r.length c2] (grow (redrawn wr d) os) fun e w''=>e= .returned (.bool (decide (r=r)))/\ ∃q:Regrown,w''=grow (redrawn wr q.d) q.os):=fun d os=>
    Calls.regrown_of (sameints_any (HF.out r (List.mem_of_getElem? hr)) (a1.below (below_regrown wr d os)) (a2.below (below_regrown wr d os)))
   rw[decide_eq_true rfl] at HS
   have Q1:=cell_regrown q1
   have Q2:=cell_regrown q2
   clear hr a1 a2 q1 q2
   go_wp2_with fail
   refine wp_region_quiet_below (by kernel_rfl) (by kernel_rfl) ?_
   repeat (first
    |go_big_quiet_step (exact HS.out _ _)
    |quiet_step (exact HS.out _ _))
   refine wpQuiet_nil ?_
   intro _ hw'
   obtain⟨⟨dq,osq⟩,hw''⟩:=hw'
   subst hw''
   have HB1:=hide (below_step HB.out (below_regrown wr dq osq))
   clear HS Q1 Q2 HB
   generalize grow (redrawn wr dq) osq=w1 at*
   go_wp2_with fail
   go_roundw
   case rel=>exact⟨j+1,by omega,by go_num,HB1⟩
   case measure=>simp[intOf];omega
  ·obtain rfl:j=n:=by omega
   have ji: ¬(j:Int)<j:=by omega
   go_wp2_with fail
   go_ret
   exact⟨rfl,HB.out⟩
end
section
open Go.RowKit
def wordNums(s:Ar)(c:Nat):List Int:=if s.there c=true then [4,s.words c 0,s.words c 1,s.words c 2,s.words c 3] else [0]
theorem wordNums_len(s:Ar)(c:Nat):0<(wordNums s c).length/\(wordNums s c).length<=5:=by
 unfold wordNums
 split <;> simp
def arNums(s:Ar):Nat->Nat->List Int
 |0,_=>[]
 |n+1,c=>(s.given c:Int)::if s.given c=0 then [] else wordNums s c++arNums s n (c+1)
theorem arNums_len (s:Ar): ∀(n c:Nat),(arNums s n c).length<=6*n
 |0,_=>Nat.zero_le _
 | n+1,c=>by
  unfold arNums
  rw[List.length_cons]
  split
  ·simp;omega
  ·have:=arNums_len s n (c+1)
   have:=(wordNums_len s c).2
   rw[List.length_append];omega
def wtNums(x:Wt):List Int:=[x.c,x.g,x.w,x.v]
def lnNums(l:List Wt):List Int:=(l.length:Int)::l.flatMap wtNums
theorem wts_len(l:List Wt):(l.flatMap wtNums).length=4*l.length:=by
 induction l with
 |nil=>rfl
 |cons x l ih=>rw[List.flatMap_cons,List.length_append,ih,List.length_cons];show 4+_=_;omega
theorem lnNums_len(l:List Wt):(lnNums l).length=4*l.length+1:=by
 unfold lnNums
 rw[List.length_cons,wts_len]
def linesNums(s:Rm):Nat->List Int
 |0=>[]
 |n+1=>linesNums s n++lnNums (s.waits n)
def memNums(s:Rm):List Int:=arNums s.ar s.ar.size 0++linesNums s s.threads
def thrNums(m:Mk)(t:Nat):List Int:=[m.regs t 0,m.regs t 1,m.regs t 2,m.regs t 3,m.regs t 4,m.regs t 5,m.regs t 6,m.regs t 7]++[(m.pc t:Int)]
def thrsNums(m:Mk):Nat->List Int
 |0=>[]
 |n+1=>thrsNums m n++thrNums m n
def mkNums(n:Nat)(m:Mk):List Int:=memNums m.mem++thrsNums m n
end
end Go.Proofs.YtnoigmdmgdcliaaGreatDoor
