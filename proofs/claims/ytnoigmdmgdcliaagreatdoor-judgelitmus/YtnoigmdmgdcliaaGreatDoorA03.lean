import Derived.Test.YtnoigmdmgdcliaaGreatDoorA02
import Derived.RegionTactic
import Derived.BigRegion
import Derived.Lib.QuietBelow
import Derived.OwnWalk
namespace Go.Proofs.YtnoigmdmgdcliaaGreatDoor
set_option maxRecDepth 100000
set_option maxHeartbeats 8000000
section
open Go.RowKit Go.Extern.Stop Go.Stop Go.Extern
variable {s:Ar} {c g k:Int} {b o:Nat} {w:World}
def arPl(b o:Nat):Nat->Nat->Prop:=fun k p=>k=b/\o<=p/\p<o+385
theorem ArAt.other(h:ArAt b o s w){p:Nat}{v:Value}{k:Nat}{u:Value}(hc:w.cell? ⟨b,k,none⟩=some u)(hk:k≠p):(w.setCell ⟨b,p,none⟩ v).cell? ⟨b,k,none⟩=some u:=by
 have _:=h.small
 rw[World.cell?_setCell_other _ _ _ _ (fun e=>hk (by cases e;rfl))];exact hc
theorem ArAt.apart(h:ArAt b o s w){p:Addr}(v:Value)(hp:p.block≠b):ArAt b o s (w.setCell p v) where
 small:=h.small
 size:=by rw[World.cell?_setCell_other _ _ _ _ (fun e=>hp (by rw[e]))];exact h.size
 words c k hc hk:=by rw[World.cell?_setCell_other _ _ _ _ (fun e=>hp (by rw[e]))];exact h.words c k hc hk
 range:=h.range
 there c hc:=by rw[World.cell?_setCell_other _ _ _ _ (fun e=>hp (by rw[e]))];exact h.there c hc
 given c hc:=by rw[World.cell?_setCell_other _ _ _ _ (fun e=>hp (by rw[e]))];exact h.given c hc
 bound:=h.bound
 frozen k hk:=by rw[World.frozen?_setCell];exact h.frozen k hk
def Ar.setThere(s:Ar)(c:Nat)(t:Bool):Ar:={ s with there:=fun j=>if j=c then t else s.there j }
def Ar.setWord(s:Ar)(c k:Nat)(v:Int):Ar:={ s with words:=fun j i=>if j=c/\i=k then v else s.words j i }
theorem ArAt.setThere (h:ArAt b o s w) (c:Nat) (hc:c<64) (t:Bool):ArAt b o (s.setThere c t) (w.setCell ⟨b,o+257+c,none⟩ (.bool t)) where
 small:=h.small
 size:=h.other h.size (by omega)
 words j k hj hk:=h.other (h.words j k hj hk) (by omega)
 range:=h.range
 there j hj:=by
  by_cases e:j=c
  ·subst e
   simp only[Ar.setThere,if_true]
   exact World.cell?_setCell_same _ _ _ (h.there j hj)
  ·simp only[Ar.setThere,if_neg e]
   exact h.other (h.there j hj) (by omega)
 given j hj:=h.other (h.given j hj) (by omega)
 bound:=h.bound
 frozen k hk:=by rw[World.frozen?_setCell];exact h.frozen k hk
theorem ArAt.setWord (h:ArAt b o s w) (c k:Nat) (hc:c<64) (hk:k<4) (v:Int) (hv:0<=v/\v<4294967296):ArAt b o (s.setWord c k v) (w.setCell ⟨b,o+1+c*4+k,none⟩ (.int .u32 v)) where
 small:=h.small
 size:=h.other h.size (by omega)
 words j i hj hi:=by
  by_cases e:j=c/\i=k
  ·obtain⟨rfl,rfl⟩:=e
   simp only[Ar.setWord,and_self,if_true]
   exact World.cell?_setCell_same _ _ _ (h.words j i hj hi)
  ·simp only[Ar.setWord,if_neg e]
   exact h.other (h.words j i hj hi) (by omega)
 range j i:=by
  simp only[Ar.setWord]
  split
  ·exact hv
  ·exact h.range j i
 there j hj:=h.other (h.there j hj) (by omega)
 given j hj:=h.other (h.given j hj) (by omega)
 bound:=h.bound
 frozen k hk:=by rw[World.frozen?_setCell];exact h.frozen k hk
theorem has_false(b o:Nat)(s:Ar)(c g:Int)(w:World)(h:ArAt b o s w)(hh:s.has c g=false):
  Calls Tryz.prog 246 #[.pointer (some ⟨b,o,none⟩), .agg #[.int .i64 c, .int .i64 g]] w fun e w'=>e= .returned (.bool false)/\Below w.heap.size w w':=
 (has_any b o s c g w h).mono fun _ _ ⟨h1,h2⟩=>⟨by rw[h1,hh],h2⟩
theorem has_true(b o:Nat)(s:Ar)(c g:Int)(w:World)(h:ArAt b o s w)(hh:s.has c g=true):
  Calls Tryz.prog 246 #[.pointer (some ⟨b,o,none⟩), .agg #[.int .i64 c, .int .i64 g]] w fun e w'=>e= .returned (.bool true)/\Below w.heap.size w w':=
 (has_any b o s c g w h).mono fun _ _ ⟨h1,h2⟩=>⟨by rw[h1,hh],h2⟩
theorem Ar.has_lt{c g:Int}(h:s.has c g=true): ∃n:Nat,c=n/\n<s.size/\s.there n=true/\g=(s.given n:Int) - 1:=by
 simp only[Ar.has,Bool.and_eq_true,decide_eq_true_eq,beq_iff_eq] at h
 obtain⟨⟨⟨h0,h1⟩,h2⟩,h3⟩:=h
 obtain⟨n,rfl⟩:=Int.eq_ofNat_of_zero_le h0
 exact⟨n,rfl,by omega,h2,h3⟩
theorem free_yes(b o:Nat)(s:Ar)(n:Nat)(g:Int)(w:World)(h:ArAt b o s w)(hn:n<64)(hh:s.has n g=true):
  Calls Tryz.prog 265 #[.pointer (some ⟨b,o,none⟩), .agg #[.int .i64 n, .int .i64 g]] w fun e w'=>e= .returned .nilIface/\ArAt b o (s.setThere n false) w'/\Turns (arPl b o) w w':=by
 have h1:=h.alloc (.cells #[.int .i64 n, .int .i64 g] 88)
 have hba:Below w.heap.size w (w.alloc (.cells #[.int .i64 n, .int .i64 g] 88)):=bRf.alloc nL _
 obtain⟨q0,q1⟩:=box2c w 88 (.int .i64 n) (.int .i64 g)
 have n64:(n:Int)<64:=by omega
 have hl:=h.lt
 generalize hw:w.alloc (.cells #[.int .i64 n, .int .i64 g] 88)=w1 at*
 go_enter Tryz.func265,Tryz.ntmps265
 go_wp2_with fail
 refine(has_true b o s n g _ h1 hh).mono ?_
 rintro e0 w2 ⟨rfl,hb2⟩
 have hbw:=hba.trans (hb2.mono hba.size)
 have h2:=h.below hbw
 have r0:w2.cell? ⟨w.heap.size,0,none⟩=some (.int .i64 n):=by rw[hb2.cell (bLt q0)];exact q0
 have ht:=h2.there n hn
 have hf:w2.frozen? ⟨b,o+257+n,none⟩=false:=by have:=h2.frozen (257+n) (by omega);simpa [Nat.add_assoc] using this
 clear q0 q1 hb2 h1 hh
 go_wp2
 go_region
 go_wp2
 go_ret
 exact⟨rfl,(h2.setThere n hn false).drew,((Turns.of_below hbw).setCell _ ⟨rfl,by omega,by omega⟩).drew⟩
def isW(v:Int):Bool:=decide (0<=v/\v<4294967296)
def Ar.chk(s:Ar)(c g k:Int)(L:List Int):Nat:=if s.at c g k=0 then(if L.all isW=true then 0 else 2) else s.at c g k
theorem Ar.at_false(h:s.has c g=false):s.at c g k=7:=by unfold Ar.at;rw[if_pos h]
theorem Ar.at_bad(h:s.has c g=true)(hk: ¬(0<=k/\k<4)):s.at c g k=2:=by unfold Ar.at;rw[if_neg (by rw[h];decide),if_neg hk]
theorem Ar.at_ok(h:s.has c g=true)(hk:0<=k/\k<4):s.at c g k=0:=by unfold Ar.at;rw[if_neg (by rw[h];decide),if_pos hk]
theorem check_no (a:Nat->Addr) (b o:Nat) (s:Ar) (c g k:Int) (vs:Value) (w:World) (hE:EnvM a w) (h:ArAt b o s w) (he:s.at c g k≠0):
  Calls Tryz.prog 234 #[.pointer (some ⟨b,o,none⟩), .agg #[.int .i64 c, .int .i64 g], .int .i64 k,vs] w fun e w'=>e= .returned (errVal a (s.at c g k))/\Below w.heap.size w w':=by
 have c6:=(hE.cell 6 (by decide))
 have c1:=(hE.cell 1 (by decide))
 cases hh:s.has c g
 ·rw[Ar.at_false hh]
  go_enter Tryz.func234,Tryz.ntmps234
  go_wp2_with fail
  refine(has_false b o s c g _ (h.alloc _) hh).mono ?_
  rintro e0 w2 ⟨rfl,hb2⟩
  replace hb2:=below_step (box_below c g w) hb2
  have c6:w2.cell? ⟨7,0,none⟩=some (errAt (a 6)):=(hE.below hb2.block).cell 6 (by decide)
  go_wp2
  go_ret
  exact⟨rfl,hb2⟩
 ·by_cases hk:0<=k/\k<4
  ·exact absurd (Ar.at_ok hh hk) he
  ·rw [Ar.at_bad hh hk]
   by_cases k0:k<0
   ·clear hk he
    go_enter Tryz.func234,Tryz.ntmps234
    go_wp2_with fail
    refine(has_true b o s c g _ (h.alloc _) hh).mono ?_
    rintro e0 w2 ⟨rfl,hb2⟩
    replace hb2:=below_step (box_below c g w) hb2
    have c1:w2.cell? ⟨0,0,none⟩=some (errAt (a 1)):=(hE.below hb2.block).cell 1 (by decide)
    go_wp2
    go_ret
    exact⟨rfl,hb2⟩
   ·have k4:4<=k:=by omega
    clear hk he
    go_enter Tryz.func234,Tryz.ntmps234
    go_wp2_with fail
    refine(has_true b o s c g _ (h.alloc _) hh).mono ?_
    rintro e0 w2 ⟨rfl,hb2⟩
    replace hb2:=below_step (box_below c g w) hb2
    have c1:w2.cell? ⟨0,0,none⟩=some (errAt (a 1)):=(hE.below hb2.block).cell 1 (by decide)
    go_wp2
    go_ret
    exact⟨rfl,hb2⟩
theorem check_nil (a:Nat->Addr) (b o:Nat) (s:Ar) (c g k:Int) (w:World) (hE:EnvM a w) (h:ArAt b o s w):
  Calls Tryz.prog 234 #[.pointer (some ⟨b,o,none⟩), .agg #[.int .i64 c, .int .i64 g], .int .i64 k, .slice none 0 0] w fun e w'=>e= .returned (errVal a (s.chk c g k []))/\Below w.heap.size w w':=by
 by_cases he:s.at c g k=0
 ·have hc0:s.chk c g k []=0:=by unfold Ar.chk;rw[if_pos he];rfl
  rw[hc0]
  cases hh:s.has c g
  ·rw[Ar.at_false hh] at he;omega
  ·by_cases hk:0<=k/\k<4
   ·obtain ⟨k0,k4⟩:=hk
    clear he hc0
    go_enter Tryz.func234,Tryz.ntmps234
    go_wp2_with fail
    refine(has_true b o s c g _ (h.alloc _) hh).mono ?_
    rintro e0 w2 ⟨rfl,hb2⟩
    replace hb2:=below_step (box_below c g w) hb2
    go_wp2
    go_loopw [10,25] (fun _ i wr=>wr=w2/\i= .int .i64 0) (fun _ _ _=>0)
    case atStart=>exact⟨rfl,rfl⟩
    case round=>
     obtain⟨rfl,rfl⟩:=hrel
     go_wp2
     go_ret
     exact⟨rfl,hb2⟩
   ·rw[Ar.at_bad hh hk] at he;omega
 ·have hc0:s.chk c g k []=s.at c g k:=by unfold Ar.chk;rw[if_neg he]
  rw[hc0]
  exact check_no a b o s c g k _ w hE h he
theorem isW_dec(v:Int)(w:World):Calls Tryz.prog 247 #[.int .i64 v] w fun e w'=>e= .returned (.bool (isW v))/\w'=w:=isWord_any v w
theorem check_list (a:Nat->Addr) (b o:Nat) (s:Ar) (c g k:Int) (vb:Nat) (cp:Nat) (L:List Int) (hL:L.length<=1000) (w:World) (hE:EnvM a w) (h:ArAt b o s w)
  (hv: ∀j,j<L.length->w.cell? ⟨vb,j,none⟩=some (.int .i64 (L.getD j 0))):
  Calls Tryz.prog 234 #[.pointer (some ⟨b,o,none⟩), .agg #[.int .i64 c, .int .i64 g], .int .i64 k, .slice (some ⟨vb,0,none⟩) L.length cp] w fun e w'=>e= .returned (errVal a (s.chk c g k L))/\Below w.heap.size w w':=by
 by_cases he:s.at c g k=0
 ·cases hh:s.has c g
  ·rw[Ar.at_false hh] at he;omega
  ·by_cases hk:0<=k/\k<4
   ·obtain ⟨k0,k4⟩:=hk
    have HC:Hid (s.chk c g k L=if L.all isW=true then 0 else 2):=by unfold Ar.chk;rw[if_pos he];exact rfl
    clear he
    go_enter Tryz.func234,Tryz.ntmps234
    go_wp2_with fail
    refine(has_true b o s c g _ (h.alloc _) hh).mono ?_
    rintro e0 w2 ⟨rfl,hb2⟩
    replace hb2:=below_step (box_below c g w) hb2
    have c1:w2.cell? ⟨0,0,none⟩=some (errAt (a 1)):=(hE.below hb2.block).cell 1 (by decide)
    have HV:Hid (∀j,j<L.length->w2.cell? ⟨vb,j,none⟩=some (.int .i64 (L.getD j 0))):=fun j hj=>by
     rw[hb2.cell (bLt (hv j hj))];exact hv j hj
    clear hv h hh
    go_wp2
    go_loopw [10,25] (fun _ i wr=>wr=w2/\ ∃j:Nat,j<=L.length/\i= .int .i64 j/\Hid (∀i,i<j->isW (L.getD i 0)=true)) (fun _ i _=>L.length - (intOf i).toNat)
    case atStart=>exact⟨rfl,0,Nat.zero_le _,rfl,fun i hi=>absurd hi (Nat.not_lt_zero _)⟩
    case round=>
     obtain⟨rfl,j,hj,rfl,HJ⟩:=hrel
     by_cases hlt:j<L.length
     ·have cj:=HV.out j hlt
      have HW:=isW_dec (L.getD j 0) wr
      have HD:Hid (L.getD j 0∈L):=by
       rw[List.getD_eq_getElem?_getD,List.getElem?_eq_getElem hlt];exact List.getElem_mem hlt
      cases hw:isW (L.getD j 0)
      ·rw [hw] at HW
       have HZ:Hid (s.chk c g k L=2):=by
        show _=_;rw[HC.out,if_neg (fun e=>by rw[List.all_eq_true] at e;rw[e _ HD.out] at hw;cases hw)]
       clear HV HJ HD HC hw
       generalize L.getD j 0=v at*
       go_wp2_with fail
       refine HW.mono ?_
       rintro e1 w3 ⟨rfl,rfl⟩
       go_wp2
       go_ret
       exact⟨by rw[HZ.out];rfl,hb2⟩
      ·rw [hw] at HW
       have HJ':Hid (∀i,i<j+1->isW (L.getD i 0)=true):=fun i hi=>by
        by_cases e:i=j
        ·rw[e];exact hw
        ·exact HJ.out i (by omega)
       clear HV HJ HD hw
       generalize L.getD j 0=v at cj HW
       go_wp2_with fail
       refine HW.mono ?_
       rintro e1 w3 ⟨rfl,rfl⟩
       go_wp2
       go_roundw
       case rel=>exact⟨trivial,j+1,by omega,by go_num,HJ'⟩
       case measure=>simp[intOf];omega
     ·obtain rfl:j=L.length:=by omega
      have HZ:Hid (s.chk c g k L=0):=by
       show _=_;rw[HC.out,if_pos]
       rw[List.all_eq_true]
       intro x hx
       obtain⟨i,hi,rfl⟩:=List.getElem_of_mem hx
       have:=HJ.out i hi
       rwa [List.getD_eq_getElem?_getD,List.getElem?_eq_getElem hi] at this
      clear HV HJ HC
      go_wp2
      go_ret
      exact⟨by rw[HZ.out];rfl,hb2⟩
   ·rw[Ar.at_bad hh hk] at he;omega
 ·have hc0:s.chk c g k L=s.at c g k:=by unfold Ar.chk;rw[if_neg he]
  rw[hc0]
  exact check_no a b o s c g k _ w hE h he
theorem Ar.chk_nil(s:Ar)(c g k:Int):s.chk c g k []=s.at c g k:=by
 unfold Ar.chk
 split
 ·rename_i h;rw[h];rfl
 ·rfl
theorem errVal_ne(a:Nat->Addr)(k:Nat)(hk:k≠0):errVal a k=errAt (a (k - 1)):=by
 cases k with
 |zero=>exact absurd rfl hk
 |succ k=>rfl
theorem load_yes(a:Nat->Addr)(b o:Nat)(s:Ar)(n k:Nat)(g:Int)(w:World)(hE:EnvM a w)(h:ArAt b o s w)(hn:n<64)(hh:s.has n g=true)(hk:k<4):
  Calls Tryz.prog 215 #[.pointer (some ⟨b,o,none⟩), .agg #[.int .i64 n, .int .i64 g], .int .i64 k] w fun e w'=>e= .returned (.tuple #[.int .i64 (s.words n k), .nilIface])/\Below w.heap.size w w':=by
 have n64:(n:Int)<64:=by omega
 have k4:(k:Int)<4:=by omega
 obtain⟨v0,v1⟩:=h.range n k
 generalize hv:s.words n k=v at v0 v1 ⊢
 have HW:Hid (s.words n k=v):=hv
 clear hv
 have h1:=h.alloc (.cells #[.int .i64 n, .int .i64 g] 88)
 have hba:=box_below n g w
 have HC:=check_nil a b o s n g k _ (hE.below hba.block) h1
 rw[Ar.chk_nil,Ar.at_ok hh (by omega),show errVal a 0= .nilIface from rfl] at HC
 obtain⟨q0,q1⟩:=box2c w 88 (.int .i64 n) (.int .i64 g)
 generalize hw:w.alloc (.cells #[.int .i64 n, .int .i64 g] 88)=w1 at*
 go_enter Tryz.func215,Tryz.ntmps215
 go_wp2_with fail
 refine HC.mono ?_
 rintro e0 w2 ⟨rfl,hb2⟩
 have hbw:=below_step hba hb2
 have h2:=h.below hbw
 have r0:w2.cell? ⟨w.heap.size,0,none⟩=some (.int .i64 n):=keep_cell hb2 q0
 have hwd:=h2.words n k hn hk
 clear q0 q1 hb2 h1 hh
 rw[HW.out] at hwd
 clear HW HC
 go_wp2
 go_quiet (fail)
 go_wp2
 go_ret2
 exact⟨rfl,below_dN hbw _⟩
theorem varg_below(c g v:Int)(w:World):Below w.heap.size w ((w.alloc (.cells #[.int .i64 c, .int .i64 g] 88)).alloc (.cells #[.int .i64 v] 3)):=(box_below c g w).alloc (by simp) _
theorem store_err(a:Nat->Addr)(b o:Nat)(s:Ar)(c g k v:Int)(w:World)(hE:EnvM a w)(h:ArAt b o s w)(he:s.chk c g k [v]≠0):
  Calls Tryz.prog 216 #[.pointer (some ⟨b,o,none⟩), .agg #[.int .i64 c, .int .i64 g], .int .i64 k, .int .i64 v] w fun e w'=>e= .returned (errVal a (s.chk c g k [v]))/\Below w.heap.size w w':=by
 have hba:=varg_below c g v w
 have HC:=check_list a b o s c g k (w.heap.size+1) 1 [v] (by simp) _ (hE.below hba.block) (h.below hba) (fun j hj=>by
  obtain rfl:j=0:=by simp at hj;omega
  show World.cell? _ ⟨w.heap.size+1,0,none⟩=_
  go_simp)
 rw[errVal_ne a _ he] at HC
 rw[errVal_ne a _ he]
 simp only[List.length_singleton] at HC
 generalize s.chk c g k [v] - 1=n at*
 clear h he
 go_enter Tryz.func216,Tryz.ntmps216
 go_wp2_with fail
 refine HC.mono ?_
 rintro e0 w2 ⟨rfl,hb2⟩
 have hbw:=below_step hba hb2
 go_wp2
 go_ret
 exact⟨rfl,hbw⟩
theorem Ar.chk_one_ok{c g k v:Int}(h:s.has c g=true)(hk:0<=k/\k<4)(hv:0<=v/\v<4294967296):s.chk c g k [v]=0:=by
 unfold Ar.chk;rw[if_pos (Ar.at_ok h hk),if_pos];simp[isW];exact hv
theorem Ar.chk_no{L:List Int}(h:s.has c g=false):s.chk c g k L=7:=by
 unfold Ar.chk;rw[if_neg (by rw[Ar.at_false h];decide),Ar.at_false h]
theorem store_no(a:Nat->Addr)(b o:Nat)(s:Ar)(c g k v:Int)(w:World)(hE:EnvM a w)(h:ArAt b o s w)(hh:s.has c g=false):
  Calls Tryz.prog 216 #[.pointer (some ⟨b,o,none⟩), .agg #[.int .i64 c, .int .i64 g], .int .i64 k, .int .i64 v] w fun e w'=>e= .returned (errAt (a 6))/\Below w.heap.size w w':=by
 have:=store_err a b o s c g k v w hE h (by rw[Ar.chk_no hh];decide)
 rwa [Ar.chk_no hh] at this
theorem store_yes(a:Nat->Addr)(b o:Nat)(s:Ar)(n k:Nat)(g v:Int)(w:World)(hE:EnvM a w)(h:ArAt b o s w)(hn:n<64)(hh:s.has n g=true)(hk:k<4)(hv:0<=v/\v<4294967296):
  Calls Tryz.prog 216 #[.pointer (some ⟨b,o,none⟩), .agg #[.int .i64 n, .int .i64 g], .int .i64 k, .int .i64 v] w fun e w'=>e= .returned .nilIface/\ArAt b o (s.setWord n k v) w'/\Turns (arPl b o) w w':=by
 have n64:(n:Int)<64:=by omega
 have k4:(k:Int)<4:=by omega
 have hv0:0<=v:=hv.1
 have hv1:v<4294967296:=hv.2
 have HW:Hid (0<=v/\v<4294967296):=hv
 have hba:=varg_below n g v w
 have HC:=check_list a b o s n g k (w.heap.size+1) 1 [v] (by simp) _ (hE.below hba.block) (h.below hba) (fun j hj=>by
  obtain rfl:j=0:=by simp at hj;omega
  show World.cell? _ ⟨w.heap.size+1,0,none⟩=_
  go_simp)
 rw[Ar.chk_one_ok hh (by omega) hv,show errVal a 0= .nilIface from rfl] at HC
 simp only[List.length_singleton] at HC
 clear hv
 have q0:((w.alloc (.cells #[.int .i64 n, .int .i64 g] 88)).alloc (.cells #[.int .i64 v] 3)).cell? ⟨w.heap.size,0,none⟩=some (.int .i64 n):=by go_simp
 have hl:=h.lt
 go_enter Tryz.func216,Tryz.ntmps216
 go_wp2_with fail
 refine HC.mono ?_
 rintro e0 w2 ⟨rfl,hb2⟩
 have hbw:=below_step hba hb2
 have h2:=h.below hbw
 have r0:w2.cell? ⟨w.heap.size,0,none⟩=some (.int .i64 n):=keep_cell hb2 q0
 have hwd:=h2.words n k hn hk
 have hf:w2.frozen? ⟨b,o+1+n*4+k,none⟩=false:=by have:=h2.frozen (1+n*4+k) (by omega);simpa [Nat.add_assoc] using this
 clear q0 hb2 hh HC
 go_wp2
 go_region
 go_wp2
 go_ret
 exact⟨rfl,(h2.setWord n k hn hk v HW.out).drew,((Turns.of_below hbw).setCell _ ⟨rfl,by omega,by omega⟩).drew⟩
end
section
open Go.RowKit Go.Extern.Stop Go.Stop Go.Extern
def Ar.give(s:Ar)(c:Nat):Ar:={ s with words:=fun j i=>if j=c/\i<4 then 0 else s.words j i,there:=fun j=>if j=c then true else s.there j,given:=fun j=>if j=c then s.given c+1 else s.given j }
def Ar.setGiven(s:Ar)(c:Nat)(g:Nat):Ar:={ s with given:=fun j=>if j=c then g else s.given j }
theorem ArAt.setGiven {b o:Nat} {s:Ar} {w:World} (h:ArAt b o s w) (c:Nat) (hc:c<64) (g:Nat) (hg:g<4611686018427387904):ArAt b o (s.setGiven c g) (w.setCell ⟨b,o+321+c,none⟩ (.int .i64 g)) where
 small:=h.small
 size:=h.other h.size (by omega)
 words j k hj hk:=h.other (h.words j k hj hk) (by omega)
 range:=h.range
 there j hj:=h.other (h.there j hj) (by omega)
 given j hj:=by
  by_cases e:j=c
  ·subst e
   simp only[Ar.setGiven,if_true]
   exact World.cell?_setCell_same _ _ _ (h.given j hj)
  ·simp only[Ar.setGiven,if_neg e]
   exact h.other (h.given j hj) (by omega)
 bound j:=by
  simp only[Ar.setGiven]
  split
  ·exact hg
  ·exact h.bound j
 frozen k hk:=by rw[World.frozen?_setCell];exact h.frozen k hk
theorem Ar.give_eq (s:Ar) (n:Nat):(((((s.setWord n 0 0).setWord n 1 0).setWord n 2 0).setWord n 3 0).setThere n true).setGiven n (s.given n+1)=s.give n:=by
 simp only[Ar.setGiven,Ar.setThere,Ar.setWord,Ar.give,Ar.mk.injEq,true_and,and_true]
 funext j i
 by_cases hj:j=n
 ·subst hj
  by_cases h4:i<4
  ·match i,h4 with
   |0,_=>simp
   |1,_=>simp
   |2,_=>simp
   |3,_=>simp
  ·rw[if_neg (fun h=>by omega),if_neg (fun h=>by omega),if_neg (fun h=>by omega),if_neg (fun h=>by omega),if_neg (fun h=>by omega)]
 ·rw[if_neg (fun h=>hj h.1),if_neg (fun h=>hj h.1),if_neg (fun h=>hj h.1),if_neg (fun h=>hj h.1),if_neg (fun h=>hj h.1)]
theorem give_any(b o:Nat)(s:Ar)(n:Nat)(w:World)(h:ArAt b o s w)(hn:n<64)(hg:s.given n+1<4611686018427387904):
  Calls Tryz.prog 212 #[.pointer (some ⟨b,o,none⟩), .int .i64 n] w fun e w'=>e= .returned (.agg #[.int .i64 n, .int .i64 (s.given n)])/\ArAt b o (s.give n) w'/\Turns (arPl b o) w w':=by
 have n64:(n:Int)<64:=by omega
 have hl:=h.lt
 have hgv:=h.given n hn
 have ht:=h.there n hn
 have hw0:w.cell? ⟨b,o+1+n*4,none⟩=some (.int .u32 (s.words n 0)):=h.words n 0 hn (by decide)
 have hw1:=h.words n 1 hn (by decide)
 have hw2:=h.words n 2 hn (by decide)
 have hw3:=h.words n 3 hn (by decide)
 have f0:w.frozen? ⟨b,o+1+n*4,none⟩=false:=by have:=h.frozen (1+n*4) (by omega);simpa [Nat.add_assoc] using this
 have f1:w.frozen? ⟨b,o+1+n*4+1,none⟩=false:=by have:=h.frozen (1+n*4+1) (by omega);simpa [Nat.add_assoc] using this
 have f2:w.frozen? ⟨b,o+1+n*4+2,none⟩=false:=by have:=h.frozen (1+n*4+2) (by omega);simpa [Nat.add_assoc] using this
 have f3:w.frozen? ⟨b,o+1+n*4+3,none⟩=false:=by have:=h.frozen (1+n*4+3) (by omega);simpa [Nat.add_assoc] using this
 have ft:w.frozen? ⟨b,o+257+n,none⟩=false:=by have:=h.frozen (257+n) (by omega);simpa [Nat.add_assoc] using this
 have fg:w.frozen? ⟨b,o+321+n,none⟩=false:=by have:=h.frozen (321+n) (by omega);simpa [Nat.add_assoc] using this
 go_enter Tryz.func212,Tryz.ntmps212
 go_wp2
 have hA:ArAt b o (((((s.setWord n 0 0).setWord n 1 0).setWord n 2 0).setWord n 3 0).setThere n true) (((((((w.setCell ⟨b,o+1+n*4,none⟩ (.int .u32 0)).setCell ⟨b,o+1+n*4+1,none⟩ (.int .u32 0)).setCell ⟨b,o+1+n*4+2,none⟩ (.int .u32 0)).setCell ⟨b,o+1+n*4+3,none⟩ (.int .u32 0)).setCell ⟨b,o+257+n,none⟩ (.bool true)).alloc (.cells #[.int .i64 0, .int .i64 0] 88)).alloc (.cells #[.int .i64 n, .int .i64 (s.given n)] 88)):=
  ((((((h.setWord n 0 hn (by decide) 0 (by decide)).setWord n 1 hn (by decide) 0 (by decide)).setWord n 2 hn (by decide) 0 (by decide)).setWord n 3 hn (by decide) 0 (by decide)).setThere n hn true).alloc _).alloc _
 have hT:Turns (arPl b o) w (((((((w.setCell ⟨b,o+1+n*4,none⟩ (.int .u32 0)).setCell ⟨b,o+1+n*4+1,none⟩ (.int .u32 0)).setCell ⟨b,o+1+n*4+2,none⟩ (.int .u32 0)).setCell ⟨b,o+1+n*4+3,none⟩ (.int .u32 0)).setCell ⟨b,o+257+n,none⟩ (.bool true)).alloc (.cells #[.int .i64 0, .int .i64 0] 88)).alloc (.cells #[.int .i64 n, .int .i64 (s.given n)] 88)):=
  ((((((((Turns.refl _ w).setCell _ ⟨rfl,by omega,by omega⟩).setCell _ ⟨rfl,by omega,by omega⟩).setCell _ ⟨rfl,by omega,by omega⟩).setCell _ ⟨rfl,by omega,by omega⟩).setCell _ ⟨rfl,by omega,by omega⟩).alloc _).alloc _)
 have r0:(((((((w.setCell ⟨b,o+1+n*4,none⟩ (.int .u32 0)).setCell ⟨b,o+1+n*4+1,none⟩ (.int .u32 0)).setCell ⟨b,o+1+n*4+2,none⟩ (.int .u32 0)).setCell ⟨b,o+1+n*4+3,none⟩ (.int .u32 0)).setCell ⟨b,o+257+n,none⟩ (.bool true)).alloc (.cells #[.int .i64 0, .int .i64 0] 88)).alloc (.cells #[.int .i64 n, .int .i64 (s.given n)] 88)).cell? ⟨w.heap.size+1,0,none⟩=some (.int .i64 n):=by go_simp
 have r1:(((((((w.setCell ⟨b,o+1+n*4,none⟩ (.int .u32 0)).setCell ⟨b,o+1+n*4+1,none⟩ (.int .u32 0)).setCell ⟨b,o+1+n*4+2,none⟩ (.int .u32 0)).setCell ⟨b,o+1+n*4+3,none⟩ (.int .u32 0)).setCell ⟨b,o+257+n,none⟩ (.bool true)).alloc (.cells #[.int .i64 0, .int .i64 0] 88)).alloc (.cells #[.int .i64 n, .int .i64 (s.given n)] 88)).cell? ⟨w.heap.size+1,1,none⟩=some (.int .i64 (s.given n)):=by go_simp
 have z0:(((((((w.setCell ⟨b,o+1+n*4,none⟩ (.int .u32 0)).setCell ⟨b,o+1+n*4+1,none⟩ (.int .u32 0)).setCell ⟨b,o+1+n*4+2,none⟩ (.int .u32 0)).setCell ⟨b,o+1+n*4+3,none⟩ (.int .u32 0)).setCell ⟨b,o+257+n,none⟩ (.bool true)).alloc (.cells #[.int .i64 0, .int .i64 0] 88)).alloc (.cells #[.int .i64 n, .int .i64 (s.given n)] 88)).cell? ⟨w.heap.size,0,none⟩=some (.int .i64 0):=by go_simp
 have z1:(((((((w.setCell ⟨b,o+1+n*4,none⟩ (.int .u32 0)).setCell ⟨b,o+1+n*4+1,none⟩ (.int .u32 0)).setCell ⟨b,o+1+n*4+2,none⟩ (.int .u32 0)).setCell ⟨b,o+1+n*4+3,none⟩ (.int .u32 0)).setCell ⟨b,o+257+n,none⟩ (.bool true)).alloc (.cells #[.int .i64 0, .int .i64 0] 88)).alloc (.cells #[.int .i64 n, .int .i64 (s.given n)] 88)).cell? ⟨w.heap.size,1,none⟩=some (.int .i64 0):=by go_simp
 have y0:(((((((w.setCell ⟨b,o+1+n*4,none⟩ (.int .u32 0)).setCell ⟨b,o+1+n*4+1,none⟩ (.int .u32 0)).setCell ⟨b,o+1+n*4+2,none⟩ (.int .u32 0)).setCell ⟨b,o+1+n*4+3,none⟩ (.int .u32 0)).setCell ⟨b,o+257+n,none⟩ (.bool true)).alloc (.cells #[.int .i64 0, .int .i64 0] 88)).alloc (.cells #[.int .i64 n, .int .i64 (s.given n)] 88)).frozen? ⟨w.heap.size,0,none⟩=false:=by go_simp
 have y1:(((((((w.setCell ⟨b,o+1+n*4,none⟩ (.int .u32 0)).setCell ⟨b,o+1+n*4+1,none⟩ (.int .u32 0)).setCell ⟨b,o+1+n*4+2,none⟩ (.int .u32 0)).setCell ⟨b,o+1+n*4+3,none⟩ (.int .u32 0)).setCell ⟨b,o+257+n,none⟩ (.bool true)).alloc (.cells #[.int .i64 0, .int .i64 0] 88)).alloc (.cells #[.int .i64 n, .int .i64 (s.given n)] 88)).frozen? ⟨w.heap.size,1,none⟩=false:=by go_simp
 have hgv5:(((((((w.setCell ⟨b,o+1+n*4,none⟩ (.int .u32 0)).setCell ⟨b,o+1+n*4+1,none⟩ (.int .u32 0)).setCell ⟨b,o+1+n*4+2,none⟩ (.int .u32 0)).setCell ⟨b,o+1+n*4+3,none⟩ (.int .u32 0)).setCell ⟨b,o+257+n,none⟩ (.bool true)).alloc (.cells #[.int .i64 0, .int .i64 0] 88)).alloc (.cells #[.int .i64 n, .int .i64 (s.given n)] 88)).cell? ⟨b,o+321+n,none⟩=some (.int .i64 (s.given n)):=hA.given n hn
 have fg5:(((((((w.setCell ⟨b,o+1+n*4,none⟩ (.int .u32 0)).setCell ⟨b,o+1+n*4+1,none⟩ (.int .u32 0)).setCell ⟨b,o+1+n*4+2,none⟩ (.int .u32 0)).setCell ⟨b,o+1+n*4+3,none⟩ (.int .u32 0)).setCell ⟨b,o+257+n,none⟩ (.bool true)).alloc (.cells #[.int .i64 0, .int .i64 0] 88)).alloc (.cells #[.int .i64 n, .int .i64 (s.given n)] 88)).frozen? ⟨b,o+321+n,none⟩=false:=by have:=hA.frozen (321+n) (by omega);simpa [Nat.add_assoc] using this
 have hgi:((s.given n:Nat):Int)+1<4611686018427387904:=by omega
 clear hw0 hw1 hw2 hw3 f0 f1 f2 f3 ft fg ht hgv
 generalize hw5:((((((w.setCell ⟨b,o+1+n*4,none⟩ (.int .u32 0)).setCell ⟨b,o+1+n*4+1,none⟩ (.int .u32 0)).setCell ⟨b,o+1+n*4+2,none⟩ (.int .u32 0)).setCell ⟨b,o+1+n*4+3,none⟩ (.int .u32 0)).setCell ⟨b,o+257+n,none⟩ (.bool true)).alloc (.cells #[.int .i64 0, .int .i64 0] 88)).alloc (.cells #[.int .i64 n, .int .i64 (s.given n)] 88)=w5 at*
 clear hw5
 go_region
 go_wp2
 refine bodyPost_ret (v:= .agg #[.int .i64 n, .int .i64 (s.given n)]) (by simp only[results,Tryz.results212];go_simp) rfl ⟨rfl,?_,?_⟩
 ·have h6:=hA.setGiven n hn (s.given n+1) hg
  rw[Ar.give_eq s n] at h6
  exact((h6.apart _ (Nat.ne_of_gt hl)).apart _ (Nat.ne_of_gt hl)).drew
 ·exact(((hT.setCell _ ⟨rfl,by omega,by omega⟩).setNew _ nL).setNew _ nL).drew
theorem alloc_full (a:Nat->Addr) (b o:Nat) (s:Ar) (w:World) (hE:EnvM a w) (h:ArAt b o s w) (hf: ∀j,j<s.size->s.there j=true):
  Calls Tryz.prog 163 #[.pointer (some ⟨b,o,none⟩)] w fun e w'=>e= .returned (.tuple #[.agg #[.int .i64 0, .int .i64 0],errAt (a 5)])/\Below w.heap.size w w':=by
 have hz:=h.small
 have hl:=h.lt
 have hge:6<w.heap.size:=hE.glt (i:=5) (by decide)
 have h1:=h.alloc (.cells #[.int .i64 0, .int .i64 0] 88)
 have hba:Below w.heap.size w (w.alloc (.cells #[.int .i64 0, .int .i64 0] 88)):=bRf.alloc nL _
 have c5:(w.alloc (.cells #[.int .i64 0, .int .i64 0] 88)).cell? ⟨6,0,none⟩=some (errAt (a 5)):=(hE.below hba.block).cell 5 (by decide)
 obtain⟨z0,z1⟩:=box2c w 88 (.int .i64 0) (.int .i64 0)
 have y0:(w.alloc (.cells #[.int .i64 0, .int .i64 0] 88)).frozen? ⟨w.heap.size,0,none⟩=false:=by simp
 have y1:(w.alloc (.cells #[.int .i64 0, .int .i64 0] 88)).frozen? ⟨w.heap.size,1,none⟩=false:=by simp
 generalize hw:w.alloc (.cells #[.int .i64 0, .int .i64 0] 88)=w1 at*
 go_enter Tryz.func163,Tryz.ntmps163
 go_wp2_with fail
 refine(cells_any b o s _ h1).mono ?_
 rintro e0 w2 ⟨rfl,rfl⟩
 go_wp2_with fail
 go_loop [4,7] (fun _ i=> ∃j:Nat,j<=s.size/\i= .int .i64 j) (fun _ i=>s.size - (intOf i).toNat)
 case atStart=>exact⟨0,Nat.zero_le _,rfl⟩
 case round=>
  obtain⟨j,hj,rfl⟩:=hrel
  by_cases hlt:j<s.size
  ·have ht:=h1.there j (by omega)
   rw[hf j hlt] at ht
   have j64:(j:Int)<64:=by omega
   go_wp2
   go_round
   case rel=>exact⟨j+1,by omega,by go_num⟩
   case measure=>simp[intOf];omega
  ·obtain rfl:j=s.size:=by omega
   go_wp2
   go_region
   go_wp2
   refine bodyPost_ret (v:= .tuple #[.agg #[.int .i64 0, .int .i64 0],errAt (a 5)]) (by simp only[results,Tryz.results163];go_simp) rfl ⟨rfl,?_⟩
   exact((hba.setCell nL _).setCell nL _).drew
theorem alloc_some (b o:Nat) (s:Ar) (c:Nat) (w:World) (h:ArAt b o s w) (hc:c<s.size) (hf: ∀j,j<c->s.there j=true) (ht:s.there c=false) (hg:s.given c+1<4611686018427387904):
  Calls Tryz.prog 163 #[.pointer (some ⟨b,o,none⟩)] w fun e w'=>e= .returned (.tuple #[.agg #[.int .i64 c, .int .i64 (s.given c)], .nilIface])/\ArAt b o (s.give c) w'/\Turns (arPl b o) w w':=by
 have hz:=h.small
 have hl:=h.lt
 have h1:=h.alloc (.cells #[.int .i64 0, .int .i64 0] 88)
 have hba:Below w.heap.size w (w.alloc (.cells #[.int .i64 0, .int .i64 0] 88)):=bRf.alloc nL _
 obtain⟨z0,z1⟩:=box2c w 88 (.int .i64 0) (.int .i64 0)
 have y0:(w.alloc (.cells #[.int .i64 0, .int .i64 0] 88)).frozen? ⟨w.heap.size,0,none⟩=false:=by simp
 have y1:(w.alloc (.cells #[.int .i64 0, .int .i64 0] 88)).frozen? ⟨w.heap.size,1,none⟩=false:=by simp
 generalize hw:w.alloc (.cells #[.int .i64 0, .int .i64 0] 88)=w1 at*
 go_enter Tryz.func163,Tryz.ntmps163
 go_wp2_with fail
 refine(cells_any b o s _ h1).mono ?_
 rintro e0 w2 ⟨rfl,rfl⟩
 go_wp2_with fail
 go_loop [4,7] (fun _ i=> ∃j:Nat,j<=c/\i= .int .i64 j) (fun _ i=>s.size - (intOf i).toNat)
 case atStart=>exact⟨0,Nat.zero_le _,rfl⟩
 case round=>
  obtain⟨j,hj,rfl⟩:=hrel
  have hlt:j<s.size:=by omega
  have htj:=h1.there j (by omega)
  have j64:(j:Int)<64:=by omega
  by_cases hlc:j<c
  ·rw[hf j hlc] at htj
   go_wp2
   go_round
   case rel=>exact⟨j+1,by omega,by go_num⟩
   case measure=>simp[intOf];omega
  ·obtain rfl:j=c:=by omega
   rw[ht] at htj
   go_wp2_with fail
   refine(give_any b o s j _ h1 (by omega) hg).mono ?_
   rintro e1 w3 ⟨rfl,h3,t3⟩
   have hzl:w.heap.size<w2.heap.size:=bLt z0
   have r0:w3.cell? ⟨w.heap.size,0,none⟩=some (.int .i64 0):=t3.keep z0 (fun h=>by have:=h.1;omega)
   have r1:w3.cell? ⟨w.heap.size,1,none⟩=some (.int .i64 0):=t3.keep z1 (fun h=>by have:=h.1;omega)
   have x0:w3.frozen? ⟨w.heap.size,0,none⟩=false:=by rw[t3.frozen _ _ hzl (fun h=>by have:=h.1;omega)];exact y0
   have x1:w3.frozen? ⟨w.heap.size,1,none⟩=false:=by rw[t3.frozen _ _ hzl (fun h=>by have:=h.1;omega)];exact y1
   have T3:Turns (arPl b o) w w3:=(Turns.of_below hba).trans t3
   clear z0 z1 y0 y1
   go_wp2
   refine bodyPost_ret (v:= .tuple #[.agg #[.int .i64 j, .int .i64 (s.given j)], .nilIface]) (by simp only[results,Tryz.results163];go_simp) rfl ⟨rfl,?_,?_⟩
   ·exact(h3.apart _ (Nat.ne_of_gt hl)).apart _ (Nat.ne_of_gt hl)
   ·exact(T3.setNew _ nL).setNew _ nL
end
section
open Go.RowKit Go.Extern.Stop Go.Stop Go.Extern
theorem new_bad(a:Nat->Addr)(c:Int)(w:World)(hE:EnvM a w)(hc: ¬(1<=c/\c<=64)):
  Calls Tryz.prog 85 #[.int .i64 c] w fun e w'=>e= .returned (.tuple #[.pointer none,errAt (a 1)])/\Below w.heap.size w w':=by
 have c1:w.cell? ⟨0,0,none⟩=some (errAt (a 1)):=hE.cell 1 (by decide)
 by_cases h1:c<1
 ·clear hc
  go_enter Tryz.func85,Tryz.ntmps85
  go_wp2
  go_quiet (fail)
  go_wp2
  go_ret2
  exact⟨rfl,below_dN bRf _⟩
 ·have h2:64<c:=by omega
  clear hc
  go_enter Tryz.func85,Tryz.ntmps85
  go_wp2
  go_quiet (fail)
  go_wp2
  go_ret2
  exact⟨rfl,below_dN bRf _⟩
theorem zero84:Tryz.zeroCells123=((.int .i64 0::List.replicate 256 (.int .u32 0))++List.replicate 64 (.bool false)++List.replicate 64 (.int .i64 0):List Value).toArray:=by kernel_rfl
theorem rows_len(x a b c:Value)(m n p:Nat):((x::List.replicate m a)++List.replicate n b++List.replicate p c:List Value).length=m+1+n+p:=by simp;omega
theorem rows_a(x a b c:Value)(m n p k:Nat)(h1:1<=k)(h2:k<m+1):((x::List.replicate m a)++List.replicate n b++List.replicate p c:List Value)[k]? =some a:=by
 rw[List.getElem?_append_left (by simp;omega),List.getElem?_append_left (by simp;omega),List.getElem?_cons,if_neg (by omega),List.getElem?_replicate,if_pos (by omega)]
theorem rows_b(x a b c:Value)(m n p k:Nat)(h1:m+1<=k)(h2:k<m+1+n):((x::List.replicate m a)++List.replicate n b++List.replicate p c:List Value)[k]? =some b:=by
 rw[List.getElem?_append_left (by simp;omega),List.getElem?_append_right (by simp;omega),List.getElem?_replicate,if_pos (by simp;omega)]
theorem rows_c(x a b c:Value)(m n p k:Nat)(h1:m+1+n<=k)(h2:k<m+1+n+p):((x::List.replicate m a)++List.replicate n b++List.replicate p c:List Value)[k]? =some c:=by
 rw[List.getElem?_append_right (by simp;omega),List.getElem?_replicate,if_pos (by simp;omega)]
theorem zero84_size:Tryz.zeroCells123.size=385:=by
 rw[zero84,List.size_toArray,rows_len]
theorem zero84_word(k:Nat)(h1:1<=k)(h2:k<257):Tryz.zeroCells123[k]? =some (.int .u32 0):=by
 rw[zero84,List.getElem?_toArray,rows_a _ _ _ _ 256 64 64 k h1 h2]
theorem zero84_there(k:Nat)(h1:257<=k)(h2:k<321):Tryz.zeroCells123[k]? =some (.bool false):=by
 rw[zero84,List.getElem?_toArray,rows_b _ _ _ _ 256 64 64 k h1 h2]
theorem zero84_given(k:Nat)(h1:321<=k)(h2:k<385):Tryz.zeroCells123[k]? =some (.int .i64 0):=by
 rw[zero84,List.getElem?_toArray,rows_c _ _ _ _ 256 64 64 k h1 h2]
theorem ArAt.fresh(c:Nat)(w:World)(h2:c<=64):ArAt w.heap.size 0 ⟨c,fun _ _=>0,fun _=>false,fun _=>0⟩ (w.alloc (.cells (Tryz.zeroCells123.setIfInBounds 0 (.int .i64 c)) 123)) where
 small:=h2
 size :=by
  rw[World.cell?_alloc_new,Array.getElem?_setIfInBounds,if_pos rfl,if_pos (by rw[zero84_size];decide)]
 words j k hj hk:=by
  rw[World.cell?_alloc_new,Array.getElem?_setIfInBounds,if_neg (by omega),zero84_word _ (by omega) (by omega)]
 range _ _:=⟨Int.le_refl _,by show(0:Int)<4294967296;decide⟩
 there j hj:=by
  rw[World.cell?_alloc_new,Array.getElem?_setIfInBounds,if_neg (by omega),zero84_there _ (by omega) (by omega)]
 given j hj:=by
  rw[World.cell?_alloc_new,Array.getElem?_setIfInBounds,if_neg (by omega),zero84_given _ (by omega) (by omega)]
  rfl
 bound _:=by show 0<4611686018427387904;decide
 frozen k hk:=World.frozen?_alloc_new _ _ _ _
theorem new_ok(c:Nat)(w:World)(h1:1<=c)(h2:c<=64):
  Calls Tryz.prog 85 #[.int .i64 c] w fun e w'=>e= .returned (.tuple #[.pointer (some ⟨w.heap.size,0,none⟩), .nilIface])/\ArAt w.heap.size 0 ⟨c,fun _ _=>0,fun _=>false,fun _=>0⟩ w'/\Below w.heap.size w w':=by
 have i1:1<=(c:Int):=by omega
 have i2:(c:Int)<=64:=by omega
 go_enter Tryz.func85,Tryz.ntmps85
 go_wp2
 go_ret2
 exact⟨rfl,ArAt.fresh c w h2,bRf.alloc nL _⟩
end
section
open Go.RowKit Go.Extern.Stop Go.Stop Go.Extern Go.Sort
structure Wt where
 c:Int
 g:Int
 w:Int
 v:Int
structure Rm where
 ar:Ar
 threads:Nat
 waits:Nat->List Wt
def Wt.cells(x:Wt):List Value:=[.int .i64 x.c, .int .i64 x.g, .int .i64 x.w, .int .i64 x.v]
def wtCells(l:List Wt):List Value:=l.flatMap Wt.cells
end
end Go.Proofs.YtnoigmdmgdcliaaGreatDoor
