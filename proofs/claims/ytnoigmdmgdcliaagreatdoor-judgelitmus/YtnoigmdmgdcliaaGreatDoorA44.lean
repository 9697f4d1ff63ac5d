/- The law JudgeLitmus answers true for whatever can be handed in; no condition beside the row's own. -/
import Derived.Test.YtnoigmdmgdcliaaGreatDoorA31
import Derived.Test.YtnoigmdmgdcliaaGreatDoorA43
import Derived.Test.YtnoigmdmgdcliaaGreatDoorA02
import Derived.Test.YtnoigmdmgdcliaaGreatDoorCards
import Derived.Carry
namespace Go.Proofs.YtnoigmdmgdcliaaGreatDoor
set_option maxRecDepth 100000
set_option maxHeartbeats 8000000
section
open Go.RowKit Go.Extern.Stop Go.Stop Go.Extern Go.Maps Go.WideMaps Go.Sort
variable {w:World}
theorem rwsAt_new{ob:List (Option Addr×Nat×List Int)}{cs:Array Value}{t:TypeId}(hc:cs.toList=ob.map fun x=> .slice x.1 x.2.2.length x.2.1)(ha: ∀x∈ob,numsAt x.1 x.2.2 w):rwsAt (some ⟨w.heap.size,0,none⟩) (ob.map (·.2.2)) (w.alloc (.cells cs t)):=fun i row hi=>by
 rw[List.getElem?_map] at hi
 cases hx:ob[i]? with
 |none=>rw[hx] at hi;cases hi
 | some x=>
  rw[hx] at hi
  obtain rfl:x.2.2=row:=by simpa using hi
  refine⟨w.heap.size,0,x.1,x.2.1,rfl,?_,(ha x (List.mem_of_getElem? hx)).below (bRf.alloc nL _)⟩
  rw[Nat.zero_add,World.cell?_alloc_new, <-Array.getElem?_toList,hc,List.getElem?_map,hx]
  rfl
theorem row2_new(w:World)(x y:Int):numsAt (some ⟨w.heap.size,0,none⟩) [x,y] (w.alloc (.cells #[.int .i64 x, .int .i64 y] 3)):=numsAt_new rfl
def litW3(w:World):World:=(((w.alloc (.cells #[.int .i64 0, .int .i64 1] 3)).alloc (.cells #[.int .i64 1, .int .i64 0] 3)).alloc (.cells #[.int .i64 1, .int .i64 1] 3)).alloc (.cells #[.slice (some ⟨w.heap.size,0,none⟩) 2 2, .slice (some ⟨w.heap.size+1,0,none⟩) 2 2, .slice (some ⟨w.heap.size+1+1,0,none⟩) 2 2] 23)
theorem litW3_at (w:World):Below w.heap.size w (litW3 w)/\rwsAt (some ⟨w.heap.size+1+1+1,0,none⟩) [[0,1],[1,0],[1,1]] (litW3 w):=by
 obtain⟨W1,h1⟩: ∃W,W=w.alloc (.cells #[.int .i64 0, .int .i64 1] 3):=⟨_,rfl⟩
 obtain⟨W2,h2⟩: ∃W,W=W1.alloc (.cells #[.int .i64 1, .int .i64 0] 3):=⟨_,rfl⟩
 obtain⟨W3,h3⟩: ∃W,W=W2.alloc (.cells #[.int .i64 1, .int .i64 1] 3):=⟨_,rfl⟩
 have s1:W1.heap.size=w.heap.size+1:=by rw[h1];simp
 have s2:W2.heap.size=w.heap.size+1+1:=by rw[h2,World.size_alloc,s1]
 have s3:W3.heap.size=w.heap.size+1+1+1:=by rw[h3,World.size_alloc,s2]
 have a2:Below W2.heap.size W2 W3:=by rw[h3];exact bRf.alloc nL _
 have a1:Below W1.heap.size W1 W3:=below_step (by rw[h2];exact bRf.alloc nL _) a2
 have n1:numsAt (some ⟨w.heap.size,0,none⟩) [0,1] W3:=(show numsAt (some ⟨w.heap.size,0,none⟩) [0,1] W1 from by rw[h1];exact row2_new _ _ _).below a1
 have n2:numsAt (some ⟨w.heap.size+1,0,none⟩) [1,0] W3:=(show numsAt (some ⟨w.heap.size+1,0,none⟩) [1,0] W2 from by rw[h2, <-s1];exact row2_new _ _ _).below a2
 have n3:numsAt (some ⟨w.heap.size+1+1,0,none⟩) [1,1] W3:=by rw[h3, <-s2];exact row2_new _ _ _
 refine⟨?_,?_⟩
 ·unfold litW3
  exact((((Below.refl _ w).alloc nL _).alloc (by simp) _).alloc (by simp;omega) _).alloc (by simp;omega) _
 ·have :=rwsAt_new (w:=W3) (ob:=[(some ⟨w.heap.size,0,none⟩,2,[0,1]),(some ⟨w.heap.size+1,0,none⟩,2,[1,0]),(some ⟨w.heap.size+1+1,0,none⟩,2,[1,1])]) (cs:=#[.slice (some ⟨w.heap.size,0,none⟩) 2 2, .slice (some ⟨w.heap.size+1,0,none⟩) 2 2, .slice (some ⟨w.heap.size+1+1,0,none⟩) 2 2]) (t:=23) rfl (fun x hx=>by
   simp only[List.mem_cons,List.not_mem_nil,or_false] at hx
   rcases hx with rfl |rfl |rfl
   ·exact n1
   ·exact n2
   ·exact n3)
  rw[s3] at this
  unfold litW3
  rw[<-h1, <-h2, <-h3]
  exact this
def litW4(w:World):World:=((((w.alloc (.cells #[.int .i64 0, .int .i64 0] 3)).alloc (.cells #[.int .i64 0, .int .i64 1] 3)).alloc (.cells #[.int .i64 1, .int .i64 0] 3)).alloc (.cells #[.int .i64 1, .int .i64 1] 3)).alloc (.cells #[.slice (some ⟨w.heap.size,0,none⟩) 2 2, .slice (some ⟨w.heap.size+1,0,none⟩) 2 2, .slice (some ⟨w.heap.size+1+1,0,none⟩) 2 2, .slice (some ⟨w.heap.size+1+1+1,0,none⟩) 2 2] 23)
theorem litW4_at (w:World):Below w.heap.size w (litW4 w)/\rwsAt (some ⟨w.heap.size+1+1+1+1,0,none⟩) [[0,0],[0,1],[1,0],[1,1]] (litW4 w):=by
 obtain⟨W1,h1⟩: ∃W,W=w.alloc (.cells #[.int .i64 0, .int .i64 0] 3):=⟨_,rfl⟩
 obtain⟨W2,h2⟩: ∃W,W=W1.alloc (.cells #[.int .i64 0, .int .i64 1] 3):=⟨_,rfl⟩
 obtain⟨W3,h3⟩: ∃W,W=W2.alloc (.cells #[.int .i64 1, .int .i64 0] 3):=⟨_,rfl⟩
 obtain⟨W4,h4⟩: ∃W,W=W3.alloc (.cells #[.int .i64 1, .int .i64 1] 3):=⟨_,rfl⟩
 have s1:W1.heap.size=w.heap.size+1:=by rw[h1];simp
 have s2:W2.heap.size=w.heap.size+1+1:=by rw[h2,World.size_alloc,s1]
 have s3:W3.heap.size=w.heap.size+1+1+1:=by rw[h3,World.size_alloc,s2]
 have s4:W4.heap.size=w.heap.size+1+1+1+1:=by rw[h4,World.size_alloc,s3]
 have a3:Below W3.heap.size W3 W4:=by rw[h4];exact bRf.alloc nL _
 have a2:Below W2.heap.size W2 W4:=below_step (by rw[h3];exact bRf.alloc nL _) a3
 have a1:Below W1.heap.size W1 W4:=below_step (by rw[h2];exact bRf.alloc nL _) a2
 have n1:numsAt (some ⟨w.heap.size,0,none⟩) [0,0] W4:=(show numsAt (some ⟨w.heap.size,0,none⟩) [0,0] W1 from by rw[h1];exact row2_new _ _ _).below a1
 have n2:numsAt (some ⟨w.heap.size+1,0,none⟩) [0,1] W4:=(show numsAt (some ⟨w.heap.size+1,0,none⟩) [0,1] W2 from by rw[h2, <-s1];exact row2_new _ _ _).below a2
 have n3:numsAt (some ⟨w.heap.size+1+1,0,none⟩) [1,0] W4:=(show numsAt (some ⟨w.heap.size+1+1,0,none⟩) [1,0] W3 from by rw[h3, <-s2];exact row2_new _ _ _).below a3
 have n4:numsAt (some ⟨w.heap.size+1+1+1,0,none⟩) [1,1] W4:=by rw[h4, <-s3];exact row2_new _ _ _
 refine⟨?_,?_⟩
 ·unfold litW4
  exact(((((Below.refl _ w).alloc nL _).alloc (by simp) _).alloc (by simp;omega) _).alloc (by simp;omega) _).alloc (by simp;omega) _
 ·have :=rwsAt_new (w:=W4) (ob:=[(some ⟨w.heap.size,0,none⟩,2,[0,0]),(some ⟨w.heap.size+1,0,none⟩,2,[0,1]),(some ⟨w.heap.size+1+1,0,none⟩,2,[1,0]),(some ⟨w.heap.size+1+1+1,0,none⟩,2,[1,1])]) (cs:=#[.slice (some ⟨w.heap.size,0,none⟩) 2 2, .slice (some ⟨w.heap.size+1,0,none⟩) 2 2, .slice (some ⟨w.heap.size+1+1,0,none⟩) 2 2, .slice (some ⟨w.heap.size+1+1+1,0,none⟩) 2 2]) (t:=23) rfl (fun x hx=>by
   simp only[List.mem_cons,List.not_mem_nil,or_false] at hx
   rcases hx with rfl |rfl |rfl |rfl
   ·exact n1
   ·exact n2
   ·exact n3
   ·exact n4)
  rw[s4] at this
  unfold litW4
  rw[<-h1, <-h2, <-h3, <-h4]
  exact this
theorem litSorted_few(fe:Bool):(litSorted fe).length<=12/\ ∀row∈litSorted fe,row.length<=1000000:=by
 cases fe
 ·exact⟨by decide,by decide⟩
 ·exact⟨by decide,by decide⟩
theorem lit_in {a:Nat->Addr} (fe:Bool) (hE:Env a w):
  Calls Tryz.prog 4 #[.bool fe] w fun e w'=>e= .returned (.bool true)/\Below w.heap.size w w':=by
 have HO:=hide (told_any hE)
 have HN:=hide (fun w' (hb:Below w.heap.size w w') {ai ar ad:Option Addr} {ci cr cap:Nat} (hs:StaAt seSta ⟨ai,ci,ar,cr⟩ w') (hl:codesAt ad (seCodes fe 1) w')=>outcomes_lit fe (cap:=cap) (hE.below hb.block) hs hl)
 clear hE
 go_enter Tryz.func4,Tryz.ntmps4
 go_wp2_with fail
 refine HO.out.mono ?_
 rintro e w1 ⟨rfl,hb⟩
 clear HO
 go_wp2_with fail
 go_loopw [4,5,6] (fun cv t _ wr=> ∃j:Nat,j<=2/\t= .int .i64 j/\Hid (∃us,Sees fe 1 j w cv us wr)) (fun _ t _ _=>2 - (intOf t).toNat)
 case atStart=>exact⟨0,Nat.zero_le _,rfl,hide ⟨[],⟨World.ownsRow_nil _ _ _ _,fun u hu=>absurd hu List.not_mem_nil,fun u hu=>absurd hu List.not_mem_nil,hb⟩⟩⟩
 case round=>
  clear hb
  obtain⟨j,hj,rfl,HS⟩:=hrel
  by_cases hlt:j<2
  ·have ji:(j:Int)<2:=by omega
   obtain⟨us,hS⟩:=HS.out
   have HS1:=hide hS
   clear HS hS
   have hsz:w.heap.size<=wr.heap.size:=HS1.out.low.size
   obtain⟨W1,hW1⟩: ∃W1,W1=wr.alloc (.cells #[.string ⟨#[99,111,110,115,116]⟩, .int .i64 1, .int .i64 1, .int .i64 0, .string ⟨#[]⟩, .string ⟨#[115,116,111,114,101]⟩, .int .i64 6, .int .i64 1, .int .i64 0, .string ⟨#[]⟩] 57):=⟨_,rfl⟩
   have HO1:Hid (insOwn W1 wr.heap.size (.slice (some ⟨wr.heap.size,0,none⟩) 2 2) [seConst 1,seStore]):=hide (by rw[hW1];exact insOwn_new rfl nL (by show 2<=1000;decide))
   have HB1:Hid (Below wr.heap.size wr W1):=hide (by rw[hW1];exact bRf.alloc nL _)
   clear HO1 HB1 hW1
   cases fe with
   | false=>
    go_wp2_with (at_builtin;refine wpList_append_ins _ rfl _ _ rfl wr.heap.size [seConst 1,seStore] [seLoad] _ _ _ rfl ?q1 rfl ?q2 (Nat.succ_pos _) ?q3 ?q4 ?_)
    case q1=>exact insOwn_keep (insOwn_new (w:=wr) (l:=[seConst 1,seStore]) rfl nL (by show 2<=1000;decide)) (bRf.alloc nL _)
    case q2=>exact insAt_new2 rfl
    case q3=>show 2+1<=2000;decide
    case q4=>simp;omega
    intro v4 w4 HO4' hb4 hs4' hg hloc
    have HB4:Hid (Below wr.heap.size wr w4):=hide (((bRf.alloc nL _).alloc (by simp) _).trans hb4)
    have HO4:Hid (insOwn w4 wr.heap.size v4 (seCode false 1)):=hide HO4'
    clear HO4' hb4 hs4' hg hloc
    obtain⟨au,cu,hue, -⟩:=insOwn_open HO4.out (seCode_len _ _).1
    subst hue
    have HS4:=hide (HS1.out.below HB4.out)
    have HU4:=hide (insOwn_mono HO4.out hsz)
    have HNE:Hid (∀b,(Value.slice (some au) (seCode false 1).length cu).ownBlock=some b->u4.ownBlock≠some b):=hide (fun b e e2=>by
     have h1:=(World.ownsRow.lt HO4.out b e).1
     have h2:=(HS1.out.own.lt b e2).2
     omega)
    have hs4:w.heap.size<=w4.heap.size:=HS4.out.low.size
    clear HO4 HB4 HS1
    obtain⟨ric,hric,hrz,hrs,hrb⟩:=codesInfoW
    go_wp2_with (at_builtin;refine wpList_append_own_at _ rfl _ _ 41 rfl w.heap.size 58 ric (.slice none 0 0) 1 24 Tryz.underlying41 hric hrz hrs hrb rfl (by decide) _ j us rfl ?q0 ⟨w4.heap.size,0,none⟩ 1 1 [.slice (some au) (seCode false 1).length cu] rfl rfl ?q1 ?q2 ?q3 ?q4 ?q5 ?_)
    case q0=>exact(HS4.out.below (bRf.alloc nL _)).own
    case q1=>
     intro k x hk
     cases k with
     |zero=>cases hk;rw[Addr.add_lit];simp
     |succ k=>simp at hk
    case q2=>
     intro x hx
     obtain rfl:x= .slice (some au) (seCode false 1).length cu:=by simpa using hx
     rfl
    case q3=>unfold maxLen;omega
    case q4=>omega
    case q5=>exact(HS4.out.below (bRf.alloc nL _)).low.size
    intro cv' w6 ho hg hnil hloc
    have HS6:=hide ((HS4.out.below (bRf.alloc nL _)).code (insOwn_keep HU4.out (bRf.alloc nL _)) HNE.out (N:=w4.heap.size+1) (by simp) ho hg hloc)
    clear ho hg hnil hloc HS4 HU4 HNE hric hrz hrs hrb
    go_wp2_with fail
    go_roundw
    case rel=>exact⟨j+1,by omega,by go_num,hide ⟨_,HS6.out⟩⟩
    case measure=>simp[intOf];omega
   | true=>
    go_wp2_with (at_builtin;refine wpList_append_ins _ rfl _ _ rfl wr.heap.size [seConst 1,seStore] [seFence] _ _ _ rfl ?q1 rfl ?q2 (Nat.succ_pos _) ?q3 ?q4 ?_)
    case q1=>exact insOwn_keep (insOwn_new (w:=wr) (l:=[seConst 1,seStore]) rfl nL (by show 2<=1000;decide)) (bRf.alloc nL _)
    case q2=>exact insAt_new2 rfl
    case q3=>show 2+1<=2000;decide
    case q4=>simp;omega
    intro v3 w3 HO3' hb3 hs3 hg hloc
    have HB3:Hid (Below wr.heap.size wr w3):=hide (((bRf.alloc nL _).alloc (by simp) _).trans hb3)
    have HO3:Hid (insOwn w3 wr.heap.size v3 [seConst 1,seStore,seFence]):=hide HO3'
    clear HO3' hb3 hs3 hg hloc
    obtain⟨a3,c3,hv3, -⟩:=insOwn_open HO3.out (by show 0<3;decide)
    subst hv3
    have hs3:wr.heap.size<=w3.heap.size:=HB3.out.size
    go_wp2_with (at_builtin;refine wpList_append_ins _ rfl _ _ rfl wr.heap.size [seConst 1,seStore,seFence] [seLoad] _ _ _ rfl ?q1 rfl ?q2 (Nat.succ_pos _) ?q3 ?q4 ?_)
    case q1=>exact insOwn_keep HO3.out (bRf.alloc nL _)
    case q2=>exact insAt_new rfl
    case q3=>show 3+1<=2000;decide
    case q4=>simp;omega
    intro v4 w4 HO4' hb4 hs4' hg hloc
    have HB4:Hid (Below wr.heap.size wr w4):=hide ((HB3.out.alloc hs3 _).trans hb4)
    have HO4:Hid (insOwn w4 wr.heap.size v4 (seCode true 1)):=hide HO4'
    clear HO4' hb4 hs4' hg hloc HO3 HB3 hs3
    obtain⟨au,cu,hue, -⟩:=insOwn_open HO4.out (seCode_len _ _).1
    subst hue
    have HS4:=hide (HS1.out.below HB4.out)
    have HU4:=hide (insOwn_mono HO4.out hsz)
    have HNE:Hid (∀b,(Value.slice (some au) (seCode true 1).length cu).ownBlock=some b->u4.ownBlock≠some b):=hide (fun b e e2=>by
     have h1:=(World.ownsRow.lt HO4.out b e).1
     have h2:=(HS1.out.own.lt b e2).2
     omega)
    have hs4:w.heap.size<=w4.heap.size:=HS4.out.low.size
    clear HO4 HB4 HS1
    obtain⟨ric,hric,hrz,hrs,hrb⟩:=codesInfoW
    go_wp2_with (at_builtin;refine wpList_append_own_at _ rfl _ _ 41 rfl w.heap.size 58 ric (.slice none 0 0) 1 24 Tryz.underlying41 hric hrz hrs hrb rfl (by decide) _ j us rfl ?q0 ⟨w4.heap.size,0,none⟩ 1 1 [.slice (some au) (seCode true 1).length cu] rfl rfl ?q1 ?q2 ?q3 ?q4 ?q5 ?_)
    case q0=>exact(HS4.out.below (bRf.alloc nL _)).own
    case q1=>
     intro k x hk
     cases k with
     |zero=>cases hk;rw[Addr.add_lit];simp
     |succ k=>simp at hk
    case q2=>
     intro x hx
     obtain rfl:x= .slice (some au) (seCode true 1).length cu:=by simpa using hx
     rfl
    case q3=>unfold maxLen;omega
    case q4=>omega
    case q5=>exact(HS4.out.below (bRf.alloc nL _)).low.size
    intro cv' w6 ho hg hnil hloc
    have HS6:=hide ((HS4.out.below (bRf.alloc nL _)).code (insOwn_keep HU4.out (bRf.alloc nL _)) HNE.out (N:=w4.heap.size+1) (by simp) ho hg hloc)
    clear ho hg hnil hloc HS4 HU4 HNE hric hrz hrs hrb
    go_wp2_with fail
    go_roundw
    case rel=>exact⟨j+1,by omega,by go_num,hide ⟨_,HS6.out⟩⟩
    case measure=>simp[intOf];omega
  ·obtain rfl:j=2:=by omega
   rw[show((2:Nat):Int)=2 from rfl]
   obtain⟨us,hS⟩:=HS.out
   obtain⟨ad,cap,rfl,hcod⟩:=hS.at'
   have hlow:Below w.heap.size w (seW wr):=below_step hS.low (seW_below wr)
   have HN2:=hide (HN.out (seW wr) hlow (seSta_at wr) (hcod.below (seW_below wr)) (cap:=cap))
   have HLOW:=hide hlow
   clear HS hS hcod HN hlow
   go_wp2_with fail
   refine HN2.out.mono ?_
   rintro e w3 ⟨ad',cap',rfl,hrows,hb3⟩
   have HB3:=hide (below_step HLOW.out hb3)
   have HR3:=hide hrows
   clear HN2 hrows hb3 HLOW
   obtain⟨f1,f2⟩:=litSorted_few fe
   cases fe with
   | true=>
    obtain⟨b4,r4⟩:=litW3_at w3
    have HS:=hide (samerows_yes (ca:=cap') (cb:=3) (HR3.out.below b4) r4 f1 f2)
    have HB4:=hide (below_step HB3.out b4)
    clear r4 b4 HR3 HB3
    rw[show(litSorted true).length=3 from rfl] at HS ⊢
    unfold litW3 at HS HB4
    go_wp2_with fail
    refine HS.out.mono ?_
    rintro e w5 ⟨rfl,hb5⟩
    have HB5:=hide (below_step HB4.out hb5)
    clear HS hb5 HB4
    go_wp2_with fail
    go_ret
    exact⟨rfl,HB5.out⟩
   | false=>
    obtain⟨b4,r4⟩:=litW4_at w3
    have HS:=hide (samerows_yes (ca:=cap') (cb:=4) (HR3.out.below b4) r4 f1 f2)
    have HB4:=hide (below_step HB3.out b4)
    clear r4 b4 HR3 HB3
    rw[show(litSorted false).length=4 from rfl] at HS ⊢
    unfold litW4 at HS HB4
    go_wp2_with fail
    refine HS.out.mono ?_
    rintro e w5 ⟨rfl,hb5⟩
    have HB5:=hide (below_step HB4.out hb5)
    clear HS hb5 HB4
    go_wp2_with fail
    go_ret
    exact⟨rfl,HB5.out⟩
end
section
open Go.ChangeShapes Go.WideShapes Go.ChangeAt Go.RowKit Go.Joins Go.Deep
theorem trodAll_oneJ{H:Type}{enc:TypeId×Value->H}{P:Program}{w:World}{base:Nat}{spare:Nat->Bool}{held:Bool}{t:TypeId}{args:Array Value}{ds:List (DataW H)}{ps:List MemPlace}(h:DataW.TrodAll enc P w base spare held [t] args.toList ds ps):
  ∃v d p,args=#[v]/\ds=[d]/\ps=p/\DataW.Trod enc P w base spare held t v d p:=by
 obtain⟨v,vs,d,ds',p,q,hargs,rfl,rfl,hd,hrest⟩:=trodAll_cons h
 obtain⟨rfl,rfl,rfl⟩:=trodAll_nil hrest
 exact⟨v,d,p,by cases args;simp_all,rfl,by simp,hd⟩
theorem readableJJ: ∀t∈[4],Tryz.prog.readableRec t=true/\t<Tryz.prog.types.size:=by
 intro t ht
 obtain rfl:=List.mem_singleton.1 ht
 exact⟨by kernel_rfl,of_decide_eq_true (by kernel_rfl)⟩
theorem lit_lifted (os:Os) (started:os.Started) (H:Type) (enc:TypeId×Value->H):
  ReturnsInHanded {} Tryz.checked os 4 .any (fun w args=>(Rows.judgeLitmusSpec.pre enc Tryz.prog Tryz.f4 [] false w args/\laidMetH Tryz.prog Rows.judgeLitmusRow.laid w)/\sizedMet enc Tryz.prog Tryz.f4 (OpenSpec.ofChange Rows.judgeLitmusSpec) false w args)
   (Rows.judgeLitmusSpec.post enc Tryz.prog Tryz.f4 false true false false):=by
 refine lift_shaped (C:=Tryz.checked) (X:=fun w _=>laidMetH Tryz.prog Rows.judgeLitmusRow.laid w) (fun _ _ _ hh h=>h.of_heap hh) own started (by kernel_rfl) Tryz.func4
  (ChangeSpec.witness_shaped (enc:=enc) (C:=Tryz.checked) (os:=os) (X:=fun w _=>laidMetH Tryz.prog Rows.judgeLitmusRow.laid w) false (jworldZ os) #[.bool false] 8 (jworldZ_os os)
    (jworldZ_shaped os _) (by kernel_rfl) (by kernel_rfl) (by kernel_rfl) (jlaid_met os _)) ?_
 intro W base args ds gs before hval0 hW hL hsh
 have hval: ∀(j:Nat) t v,Tryz.f4.params[j]? =some t->args[j]? =some v->Value.okWide Tryz.prog W .any base t v:=hval0
 have hW':=hW
 obtain⟨p,q,hA0,hV,rfl,hfz,hnd⟩:=hW
 have hA:DataW.TrodAll enc Tryz.prog W 0 (fun _=>true) true Tryz.f4.params.toList args.toList ds p:=hA0
 rw[Tryz.params4] at hA hval
 have hA2:=hA
 obtain⟨v0,d0,p0,rfl,rfl,rfl,h0⟩:=trodAll_oneJ hA
 obtain⟨rfl,rfl⟩:=trodVars_none hV
 obtain⟨fe,rfl⟩:=okWide_bool Tryz.underlying4 (hval 0 4 v0 rfl rfl)
 obtain⟨a,hE⟩:=env_of_laidJ hL
 clear hA0 hval0
 simp only[List.append_nil] at hW'
 refine(lit_in fe hE).mono fun e W' ⟨he,hb⟩=>?_
 subst he
 refine⟨_,rfl,_,_,_,[],p,[],hW',?_,?_,?_,hb.frame _,fun h=>by cases h⟩
 ·exact trodAll_mk1 (shut_bool Tryz.underlying4 true)
 ·exact trodAll_below laidOutA hb _ _ _ _ readableJJ hA2
 ·rfl
theorem lit_holds:Rows.JudgeLitmusSaid:=
 OpenClaim.holds_of_wide 4 Tryz.f4 rfl rfl rfl rfl rfl rfl rfl ⟨rfl,rfl,rfl,rfl,rfl⟩ rfl rfl rfl rfl rfl (by kernel_rfl) Tryz.func4 (by kernel_rfl)
  (of_decide_eq_true (by kernel_rfl)) (by unfold Func.isWrapper;rw[if_neg (of_decide_eq_false (by kernel_rfl))];exact⟨rfl,rfl⟩)
  (fun os started H enc _=>lit_lifted os started H enc)
theorem lit_card:Rows.JudgeLitmusCardSaid:=
 Claim7.holds_tied_plain_at .later [] [.data, .data, .data, .handle, .sentinel, .sentinel, .sentinel, .sentinel, .sentinel, .sentinel, .sentinel, .sentinel] true (true,"3fa30c7a1063ec8359c8b4539c981e8f52ed02467c996bb5b7b7b29eb1ab2bbc") true
  lit_holds (fun _ h=>absurd h List.not_mem_nil) (by kernel_rfl) (fun _ h=>absurd h List.not_mem_nil) judgeLitmus_row_tie rfl ⟨rfl,rfl⟩ (by kernel_rfl) rfl
  (fun f fn hf hfn=>by
    obtain rfl:f=4:=(Option.some.inj ((show Tryz.prog.funcNamed "quiescent/quiescentlaw3.JudgeLitmus" =some 4 by kernel_rfl).symm.trans hf)).symm
    obtain rfl:fn=Tryz.f4:=(Option.some.inj (Tryz.func4.symm.trans hfn)).symm
    exact ⟨by kernel_rfl,fun j t ht=>by
     rw[Tryz.params4] at ht
     rcases j with _ |j
     ·obtain rfl:t=4:=by simpa using ht.symm
      exact(show Tryz.prog.wantsStandIn 4=false by kernel_rfl)
     ·simp at ht⟩)
  (by kernel_rfl)
#print axioms lit_card
end
end Go.Proofs.YtnoigmdmgdcliaaGreatDoor
