import Derived.Test.YtnoigmdmgdcliaaGreatDoorA23
import Derived.Laws.Tables
import Derived.Test.YtnoigmdmgdcliaaGreatDoorA21
namespace Go.Proofs.YtnoigmdmgdcliaaGreatDoor
set_option maxRecDepth 100000
set_option maxHeartbeats 8000000
section
open Go.RowKit Go.Extern.Stop Go.Stop Go.Extern Go.Maps Go.WideMaps Go.Sort
variable {cs:List (List Ins)} {a:Nat->Addr} {w:World} {s:Sta}
theorem mnew_row(c t:Nat)(w:World)(h1:1<=c)(h2:c<=64)(t1:1<=t)(t2:t<=6):
  Calls Tryz.prog 47 #[.int .i64 c, .int .i64 t] w fun e w'=>e= .returned (.tuple #[.pointer (some ⟨w.heap.size+1,0,none⟩), .nilIface])/\MmAt (w.heap.size+1) (Rm.fresh c t) w'/\(∃N:Array Value,w'.heap[w.heap.size+1]? =some (.cells N 131 (0,0))/\N.size=584)/\Below w.heap.size w w':=by
 have HN:=new_exact c w h1 h2
 have i1:1<=(t:Int):=by omega
 have i2:(t:Int)<=6:=by omega
 have hA:=arenaSize c
 obtain⟨N,hB,n0,n385,nk⟩:=new_made c t
 have HM:Hid (∀w1:World,w1.heap.size=w.heap.size+1->MmAt (w.heap.size+1) (Rm.fresh c t) (w1.alloc (.cells N 131))/\(w1.alloc (.cells N 131)).heap[w.heap.size+1]? =some (.cells N 131 (0,0))/\N.size=584):=fun w1 e=>by
  refine⟨by rw[<-e];exact MmAt.fresh c t N w1 h2 t2 n0 n385 nk,by rw[<-e];exact heap_alloc_new w1 _,?_⟩
  have k1:=nk 583 (by decide) (by decide)
  have k2:=nk 584 (by decide) (by decide)
  rw[zeroM_rest 583 (by decide) (by decide)] at k1
  rw[Array.getElem?_eq_none (xs:=Tryz.zeroCells131) (by rw[zeroM_size];exact Nat.le_refl _)] at k2
  have a1:=(Array.getElem?_eq_some_iff.1 k1).1
  have a2:=Array.getElem?_eq_none_iff.1 k2
  omega
 clear n0 n385 nk
 generalize Tryz.zeroCells123.setIfInBounds 0 (.int .i64 c)=A at*
 have hg:=heap_new w (.cells A 123)
 have hb1:Below w.heap.size w (w.alloc (.cells A 123)):=bRf.alloc nL _
 have hs1:(w.alloc (.cells A 123)).heap.size=w.heap.size+1:=by simp
 generalize w.alloc (.cells A 123)=w1 at*
 go_enter Tryz.func47,Tryz.ntmps47
 go_wp2_with fail
 refine HN.mono ?_
 rintro e0 w2 ⟨rfl,rfl⟩
 go_wp2_with (first
  |refine wpList_load_row (by rfl) 123 _ (by rfl) w.heap.size (by rfl) 123 A (0,0) _ hg Tryz.underlying123 (by rfl) hA ?_
  |refine wpList_build_two (by rfl) 131 0 1 _ _ (by rfl) (.agg A) (.int .i64 t) (by rfl) (by rfl) N hB ?_)
 go_ret2
 obtain⟨q1,q2,q3⟩:=HM.out _ hs1
 exact⟨rfl,q1,⟨N,q2,q3⟩,hb1.alloc hb1.size _⟩
theorem cell_of_row{b:Nat}{N:Array Value}{ty:TypeId}(h:w.heap[b]? =some (.cells N ty (0,0)))(k:Nat):w.cell? ⟨b,k,none⟩=N[k]? :=by
 simp[World.cell?,h]
theorem MkAt.fresh {pb pc mb:Nat} {N C:Array Value} (hp:Pg a cs pb pc w) (hm:MmAt mb (Rm.fresh s.cells.toNat cs.length) w) (hr:w.heap[mb]? =some (.cells N 131 (0,0))) 
  (c1: ∀k,k<584->C[k]? =N[k]?) (c2:C[584]? =some (.slice (some ⟨pb,0,none⟩) cs.length pc)) (c3: ∀k,585<=k->k<639->C[k]? =some (.int .i64 0)) (c4:C[639]? =some (.slice none 0 0)) (c5:C[640]? =some (.int .i64 0)):
  MkAt a cs ⟨w.heap.size,w.heap.size,pb,pc, .slice none 0 0⟩ (s.at1 cs.length 0 0) (w.alloc (.cells C 138)) where
 pg:=⟨w,hp,rfl,bRf.alloc nL _⟩
 mem :=by
  have e:(s.at1 cs.length 0 0).mem=Rm.fresh s.cells.toNat cs.length:=by
   show Rm.mk _ _ _=_
   rw[List.take_zero,Ar.filled_nil]
  rw[e]
  exact hm.move (fun k hk=>by rw[World.cell?_alloc_new,cell_of_row hr];exact c1 k hk) (fun k=>World.frozen?_alloc_new _ _ _ _)
 thr:=rfl
 prog:=by rw[World.cell?_alloc_new];exact c2
 reg t r ht hr:=by
  rw[World.cell?_alloc_new]
  show C[585+t*9+r]? =some (.int .i64 (rowAt (s.regs.take 0) t r))
  rw[rowAt_out (Nat.zero_le _)]
  exact c3 _ (by omega) (by omega)
 pc t ht:=by
  rw[World.cell?_alloc_new]
  exact c3 _ (by omega) (by omega)
 marks:=by rw[World.cell?_alloc_new];exact c4
 own:=⟨rfl, .inl ⟨rfl,rfl⟩⟩
 faults:=by rw[World.cell?_alloc_new];exact c5
 frozen o _ _:=World.frozen?_alloc_new _ _ _ _
 ne k hk:=by cases hk
 hB:=Nat.le_refl _
def NewPost(a:Nat->Addr)(s:Sta)(cs:List (List Ins))(w:World)(e:Ending)(w':World):Prop:=
 Below w.heap.size w w'/\
 (((s.fault cs).1=0/\Right cs/\ ∃p,e= .returned (.tuple #[.pointer (some ⟨p.b,0,none⟩), .nilIface])/\MkAt a cs p (s.mach cs.length) w'/\w.heap.size<=p.B/\p.mv= .slice none 0 0)∨
  ((s.fault cs).1≠0/\ ∃v,e= .returned (.tuple #[.pointer none,v])/\errIs a (s.fault cs) v w' w.heap.size))
theorem NewPost.bound{w w':World}(h: ¬(1<=s.cells/\s.cells<=64/\1<=cs.length/\cs.length<=6/\s.fits cs.length=true))(hb:Below w.heap.size w w'):NewPost a s cs w (.returned (.tuple #[.pointer none,errAt (a 1)])) w':=by
 have e:s.fault cs=(2, -1):=if_neg h
 exact⟨hb,Or.inr ⟨by rw[e];decide,_,rfl,Or.inr (Or.inl ⟨by rw[e];decide,by rw[e],by rw[e];rfl⟩)⟩⟩
theorem machSize(C:Array Value)(h:C.size=641):(Tryz.prog.info? 138).map (·.size)=some C.size:=by rw[h];kernel_rfl
theorem memSize(N:Array Value)(h:N.size=584):(Tryz.prog.info? 131).map (·.size)=some N.size:=by rw[h];kernel_rfl
theorem new_any {ai ar ad:Option Addr} {ci cr cap:Nat} (hE:Env a w) (hs:StaAt s ⟨ai,ci,ar,cr⟩ w) (hl:codesAt ad cs w) (hsz: ∀(t:Nat) L,cs[t]? =some L-> ∀(i:Nat) x,L[i]? =some x->x.to.size<=maxLen):
  Calls Tryz.prog 21 #[.agg #[.int .i64 s.cells, .slice ai s.init.length ci, .slice ar s.regs.length cr], .slice ad cs.length cap] w fun e w'=>Hid (NewPost a s cs w e w'):=by
 obtain⟨w1,hw1⟩: ∃w1,w1=w.alloc (.cells #[.int .i64 s.cells, .slice ai s.init.length ci, .slice ar s.regs.length cr] 40):=⟨_,rfl⟩
 have b1:Below w.heap.size w w1:=by rw[hw1];exact bRf.alloc nL _
 have e0:w1.cell? ⟨w.heap.size,0,none⟩=some (.int .i64 s.cells):=by rw[hw1];simp
 have e1:w1.cell? ⟨w.heap.size,1,none⟩=some (.slice ai s.init.length ci):=by rw[hw1];simp
 have e2:w1.cell? ⟨w.heap.size,2,none⟩=some (.slice ar s.regs.length cr):=by rw[hw1];simp
 have E1:=hE.below b1.block
 have S1:=hs.below b1
 have L1:=hl.below b1
 have HQ:Hid (∀e w',Below w.heap.size w w'->NewPost a s cs w1 e w'->NewPost a s cs w e w'):=hide fun e w' hb h=>by
  refine⟨hb,h.2.imp (fun⟨h1,h2,p,h3,h4,h5,h6⟩=>⟨h1,h2,p,h3,h4,Nat.le_trans b1.size h5,h6⟩) (fun⟨h1,v,h2,h3⟩=>⟨h1,v,h2,?_⟩)⟩
  rcases h3 with h3 |h3 |⟨h4,j,N,h5,h6,h7⟩
  ·exact .inl h3
  ·exact .inr (.inl h3)
  ·exact .inr (.inr ⟨h4,j,N,h5,Nat.le_trans b1.size h6,h7⟩)
 clear hE hs hl
 by_cases hc:1<=s.cells/\s.cells<=64
 ·obtain ⟨c,hcc⟩:=Int.eq_ofNat_of_zero_le (show 0<=s.cells by omega)
  by_cases ht:1<=cs.length/\cs.length<=6
  ·have HN:=hide (mnew_row c cs.length w1 (by omega) (by omega) ht.1 ht.2)
   rw[<-hcc] at HN
   have HF:=hide (fun w' (h:Below w1.heap.size w1 w')=>sfits_any (S1.below h) cs.length)
   have HS:Hid (∀w',Below w1.heap.size w1 w'->StaAt s ⟨ai,ci,ar,cr⟩ w'):=hide fun w' h=>S1.below h
   have HP:=hide (fun w' (h:Below w1.heap.size w1 w')=>programs_any (cap:=cap) (E1.below h.block) (L1.below h) ht.2 hsz)
   have HE:Hid (∀w',Below w1.heap.size w1 w'->Env a w'):=hide fun w' h=>E1.below h.block
   have hcn:s.cells.toNat=c:=by omega
   cases hfit:s.fits cs.length with
   | false=>
    have HB:Hid (∀w',Below w1.heap.size w1 w'->NewPost a s cs w (.returned (.tuple #[.pointer none,errAt (a 1)])) w'):=hide fun w' h=>NewPost.bound (fun h=>by rw[hfit] at h;exact absurd h.2.2.2.2 (by decide)) (below_step b1 h)
    rw[hfit] at HF
    clear E1 S1 L1 HQ ht hc hcc HS HP hfit
    go_enter Tryz.func21,Tryz.ntmps21
    go_wp2_with fail
    rw[<-hw1]
    clear hw1
    refine HN.out.mono ?_
    rintro e w2 ⟨rfl, -, -,hb2⟩
    replace e0:=keep_cell hb2 (by exact e0)
    replace e1:=keep_cell hb2 (by exact e1)
    replace e2:=keep_cell hb2 (by exact e2)
    clear HN
    go_wp2_with fail
    refine(HF.out w2 hb2).mono ?_
    rintro e w3 ⟨rfl,hb3⟩
    have c1:w3.cell? ⟨0,0,none⟩=some (errAt (a 1)):=(HE.out w3 (below_step hb2 hb3)).cell 1 (by decide)
    have B3:=below_step hb2 hb3
    clear HF HE hb3
    go_wp2
    go_quiet (fail)
    go_wp2
    go_ret2
    exact HB.out _ (below_dN B3 _)
   | true =>
    have HG:Hid (1<=s.cells/\s.cells<=64/\1<=cs.length/\cs.length<=6/\s.fits cs.length=true):=hide ⟨hc.1,hc.2,ht.1,ht.2,hfit⟩
    rw[hfit] at HF
    have HT:=hide ht
    clear E1 S1 L1 ht hc hcc hfit
    go_enter Tryz.func21,Tryz.ntmps21
    go_wp2_with fail
    rw[<-hw1]
    clear hw1
    refine HN.out.mono ?_
    rintro e w2 ⟨rfl,hm2,⟨N,hr2,hN⟩,hb2⟩
    replace e0:=keep_cell hb2 (by exact e0)
    replace e1:=keep_cell hb2 (by exact e1)
    replace e2:=keep_cell hb2 (by exact e2)
    have hml:w1.heap.size+1<w2.heap.size:=lt_of_block hr2
    clear HN
    go_wp2_with fail
    refine(HF.out w2 hb2).mono ?_
    rintro e w3 ⟨rfl,hb3⟩
    have B3:=below_step hb2 hb3
    replace e0:=keep_cell hb3 e0
    replace e1:=keep_cell hb3 e1
    replace e2:=keep_cell hb3 e2
    replace hm2:=hm2.below hb3
    replace hr2:w3.heap[w1.heap.size+1]? =_:=(hb3.block _ hml).trans hr2
    have hml3:=Nat.lt_of_lt_of_le hml hb3.size
    clear HF hb2 hb3 hml
    go_wp2_with fail
    refine(HP.out w3 B3).mono ?_
    rintro e w4 hpp
    obtain⟨hb4,hpp⟩:=hpp.out
    have B4:=below_step B3 hb4
    rcases hpp with⟨hz,v,pl,rfl,hpl⟩ |⟨hz,v,rfl,hv⟩
    ·have HR:Right cs:=right_of (codesFrom_zero cs 0 hz) HT.out.1 HT.out.2 hsz
     obtain⟨pb,pc,rfl,hpb,hpg⟩:=hpl.pg (HE.out w4 B4) HR
     replace e0:=keep_cell hb4 e0
     replace e1:=keep_cell hb4 e1
     replace e2:=keep_cell hb4 e2
     have hm4:=hm2.below hb4
     have hr4:w4.heap[w1.heap.size+1]? =some (.cells N 131 (0,0)):=(hb4.block _ hml3).trans hr2
     obtain⟨C,hC,hCs,c1,c2,c3,c4,c5⟩:=mach_made N hN (.slice (some ⟨pb,0,none⟩) cs.length pc) rfl
     have hA:MkAt a cs ⟨w4.heap.size,w4.heap.size,pb,pc, .slice none 0 0⟩ (s.at1 cs.length 0 0) (w4.alloc (.cells C 138)):=MkAt.fresh hpg (by rw[hcn];exact hm4) hr4 c1 c2 c3 c4 c5
     have b5:Below w4.heap.size w4 (w4.alloc (.cells C 138)):=bRf.alloc nL _
     have hX:FillX a cs ⟨w4.heap.size,w4.heap.size,pb,pc, .slice none 0 0⟩ s ⟨ai,ci,ar,cr⟩ w4 (w4.alloc (.cells C 138)):=⟨hA,HS.out w4 B4,rfl,b5,HG.out.2.2.2.2,HG.out.2.1,HT.out.1⟩
     have HFl:=hide (kfill_any hX)
     have HZ:Hid (∀w',MkStep a cs ⟨w4.heap.size,w4.heap.size,pb,pc, .slice none 0 0⟩ (w4.alloc (.cells C 138)) (.slice none 0 0) (s.mach cs.length) w'->NewPost a s cs w (.returned (.tuple #[.pointer (some ⟨w4.heap.size,0,none⟩), .nilIface])) w'):=hide fun w' k=>by
      have b6:Below w4.heap.size (w4.alloc (.cells C 138)) w':=k.turns.below (by simp) (fun i o hi hf=>by have:=hA.fp_ge hf;dsimp only at this;omega)
      have b7:Below w.heap.size w w':=below_step b1 (B4.trans ((b5.trans b6).mono B4.size))
      have ef:s.fault cs=codesFrom 0 cs:=if_pos HG.out
      exact⟨b7,Or.inl ⟨by rw[ef];exact hz,HR,_,rfl,k.at',Nat.le_trans b1.size B4.size,rfl⟩⟩
     replace e0:=keep_cell b5 e0
     replace e1:=keep_cell b5 e1
     replace e2:=keep_cell b5 e2
     have hms:=memSize N hN
     have hks:=machSize C hCs
     clear hm2 hm4 hr2 hX hA hpg hpl HR c1 c2 c3 c4 c5 hz HE HP HS HQ HG hCs hN hpb b5 hb4 B3 B4 hml3
     obtain⟨W5,hW5⟩: ∃W5,W5=w4.alloc (.cells C 138):=⟨_,rfl⟩
     rw[<-hW5] at HFl HZ
     go_wp2_with (first
      |refine wpList_load_row (by rfl) 131 _ (by rfl) (w1.heap.size+1) (by rfl) 131 N (0,0) _ hr4 Tryz.underlying131 (by rfl) hms ?_
      |refine wpList_build_two (by rfl) 138 0 1 _ _ (by rfl) (.agg N) (.slice (some ⟨pb,0,none⟩) cs.length pc) (by rfl) (by rfl) C hC ?_)
     rw[<-hW5]
     clear hW5 hr4
     refine HFl.out.mono ?_
     rintro e w6 ⟨rfl,hk⟩
     have hZ:=HZ.out w6 hk.out
     clear HFl HZ hk
     go_wp2
     go_ret2
     exact hZ
    ·have ef:s.fault cs=codesFrom 0 cs:=if_pos HG.out
     have HZ:Hid (∀v,errIs a (codesFrom 0 cs) v w4 w3.heap.size->NewPost a s cs w (.returned (.tuple #[.pointer none,v])) w4):=hide fun v hv=>by
      refine⟨below_step b1 B4,Or.inr ⟨by rw[ef];exact hz,v,rfl,?_⟩⟩
      rw[ef]
      rcases hv with h3 |h3 |⟨h4,j,N,h5,h6,h7⟩
      ·exact .inl h3
      ·exact .inr (.inl h3)
      ·exact .inr (.inr ⟨h4,j,N,h5,Nat.le_trans (Nat.le_trans b1.size B3.size) h6,h7⟩)
     have HV:=HZ.out v hv
     clear hm2 hr2 HE HP HS HQ HG HZ hN hb4 B3 B4 hml3 e0 e1 e2
     rcases hv with⟨h, -⟩ |⟨-, -,rfl⟩ |⟨-,j2,N2, -, -,rfl, -, -⟩
     ·exact absurd h hz
     ·obtain⟨k,hk⟩: ∃k,(codesFrom 0 cs).1=k+1:=⟨(codesFrom 0 cs).1 - 1,by omega⟩
      rw[hk] at HV ⊢
      clear hz hk ef
      rw[show xval a (k+1)=xerr (a k) from rfl] at HV ⊢
      have HV2:=hide HV
      clear HV
      go_wp2
      go_ret2
      exact HV2.out
     ·have HV2:=hide HV
      clear HV hz ef
      go_wp2
      go_ret2
      exact HV2.out
  ·have HN:=hide (mnew_threads a c cs.length w1 E1.toM (by omega) (by omega) (by omega))
   rw[<-hcc] at HN
   have HB:Hid (∀w',Below w1.heap.size w1 w'->NewPost a s cs w (.returned (.tuple #[.pointer none,errAt (a 1)])) w'):=hide fun w' h=>NewPost.bound (fun h=>ht ⟨h.2.2.1,h.2.2.2.1⟩) (below_step b1 h)
   clear E1 S1 L1 HQ ht hc hcc e1 e2
   go_enter Tryz.func21,Tryz.ntmps21
   go_wp2_with fail
   rw[<-hw1]
   clear hw1
   refine HN.out.mono ?_
   rintro e w2 ⟨rfl,hb2⟩
   go_wp2
   go_ret2
   exact HB.out _ hb2
 ·have HN:=hide (mnew_cells a s.cells cs.length w1 E1.toM hc)
  have HB:Hid (∀w',Below w1.heap.size w1 w'->NewPost a s cs w (.returned (.tuple #[.pointer none,errAt (a 1)])) w'):=hide fun w' h=>NewPost.bound (fun h=>hc ⟨h.1,h.2.1⟩) (below_step b1 h)
  clear E1 S1 L1 HQ hc e1 e2
  go_enter Tryz.func21,Tryz.ntmps21
  go_wp2_with fail
  rw[<-hw1]
  clear hw1
  refine HN.out.mono ?_
  rintro e w2 ⟨rfl,hb2⟩
  go_wp2
  go_ret2
  exact HB.out _ hb2
end
section
open Go.RowKit Go.Extern.Stop Go.Stop Go.Extern Go.Maps Go.WideMaps Go.Sort
variable {cs:List (List Ins)} {a:Nat->Addr} {w:World} {p:MkPl} {m:Mk} {P:Program} {v:Value}
theorem MkAt.whole(h:MkAt a cs p m w)(k:Nat)(hk:k<641): ∃v,w.cell? ⟨p.b,k,none⟩=some v/\v.oneCell'=true:=by
 have hm:=h.mem
 have h6:=hm.few
 have cast: ∀{o v},w.cell? ⟨p.b,o,none⟩=some v->o=k->v.oneCell'=true-> ∃v,w.cell? ⟨p.b,k,none⟩=some v/\v.oneCell'=true:=fun hc e ho=>by subst e;exact⟨_,hc,ho⟩
 by_cases h0:k=0
 ·exact cast hm.ar.size (by omega) rfl
 by_cases h1:k<257
 ·exact cast (hm.ar.words ((k - 1) / 4) ((k - 1) % 4) (by omega) (by omega)) (by omega) rfl
 by_cases h2:k<321
 ·exact cast (hm.ar.there (k - 257) (by omega)) (by omega) rfl
 by_cases h3:k<385
 ·exact cast (hm.ar.given (k - 321) (by omega)) (by omega) rfl
 by_cases h4:k=385
 ·exact cast hm.nt (by omega) rfl
 by_cases h5:k<386+m.mem.threads*33
 ·have hl:=hm.line ((k - 386) / 33) (by omega)
  by_cases e:(k - 386) % 33=32
  ·exact cast hl.len (by omega) rfl
  ·exact cast (hl.row ((k - 386) % 33 / 4) ((k - 386) % 33 % 4) (by omega) (by omega)) (by omega) rfl
 by_cases h6:k<584
 ·exact cast (hm.rest k (by omega) h6) rfl rfl
 by_cases h7:k=584
 ·exact cast h.prog (by omega) rfl
 by_cases h8:k<639
 ·by_cases e:(k - 585) % 9=8
  ·exact cast (h.pc ((k - 585) / 9) (by omega)) (by omega) rfl
  ·exact cast (h.reg ((k - 585) / 9) ((k - 585) % 9) (by omega) (by omega)) (by omega) rfl
 by_cases h9:k=639
 ·refine cast h.marks (by omega) ?_
  obtain⟨g,c,e,_⟩:=ownsRow_shape h.own
  rw[e];rfl
 ·exact cast h.faults (by omega) rfl
theorem MkAt.rowOf(h:MkAt a cs p m w): ∃C:Array Value,C.size=641/\(∀k,k<641->C[k]? =w.cell? ⟨p.b,k,none⟩)/\C.all (·.oneCell')=true:=by
 refine⟨((List.range 641).map fun k=>(w.cell? ⟨p.b,k,none⟩).getD undef).toArray,by rw[List.size_toArray,List.length_map,List.length_range],fun k hk=>?_,?_⟩
 ·obtain⟨v,hv, -⟩:=h.whole k hk
  rw[List.getElem?_toArray,List.getElem?_map,List.getElem?_range hk,hv]
  simp[hv]
 ·rw[List.all_toArray,List.all_eq_true]
  intro v hv
  obtain⟨k,hk,rfl⟩:=List.mem_map.1 hv
  obtain⟨v,hv,ho⟩:=h.whole k (List.mem_range.1 hk)
  rw[hv];exact ho
theorem run_loadVar_cells (w:World) (b:Nat) (ty:TypeId) (cs:Array Value) (d:TypeDesc) (hc: ∀k,k<cs.size->cs[k]? =w.cell? ⟨b,k,none⟩) 
  (hu:P.underlying ty=some d) (hd:(match d with | .struct _ | .array _ _=>true |_=>false)=true) (hi:(P.info? ty).map (·.size)=some cs.size):
  (loadVar ty ⟨b,0,none⟩).run P w= .ok (.agg cs) w:=by
 have hl:(loadCells ⟨b,0,none⟩ cs.toList.length).run P w= .ok cs.toList.toArray w:=
  run_loadCells_list (P:=P) w ⟨b,0,none⟩ cs.toList (fun j v hv=>by
   have hj:=(List.getElem?_eq_some_iff.1 hv).1
   rw[Addr.add_lit,Nat.zero_add, <-hc j (by simpa using hj)]
   simpa using hv)
 cases hq:P.info? ty with
 |none=>simp[hq] at hi
 | some i=>
  have hs:i.size=cs.size:=by simpa [hq] using hi
  have hagg:(isAgg ty).run P w= .ok true w:=by
   unfold isAgg
   rw[Sem.run_bind,run_underlying hu w]
   cases d <;> simp_all
  simp only[Array.length_toList,Array.toArray_toList] at hl
  simp[loadVar,Sem.run_bind,hagg,sizeOf,typeInfo,hq,hs,hl]
theorem wpList_load_cells{ops:Array Oper}{rest:List Oper}{o:Oper}{a:Act}{Q:Exit->Act->World->Prop}(hgd:o.guard=none)(ty:TypeId)(x:Operand)(ho:o.op= .load ty x) 
  (b:Nat) (hx:a.eval x= .pointer (some ⟨b,0,none⟩)) (cs:Array Value) (d:TypeDesc) (hc: ∀k,k<cs.size->cs[k]? =w.cell? ⟨b,k,none⟩)
  (hu:P.underlying ty=some d) (hd:(match d with | .struct _ | .array _ _=>true |_=>false)=true) (hi:(P.info? ty).map (·.size)=some cs.size)
  (h:wpList P ops Q rest (a.put o.dst (.agg cs)) w):wpList P ops Q (o::rest) a w:=by
 refine wpList_plain hgd fun K hK=>?_
 unfold Oper.wp execOp
 simp only[ho,hx,Instr.loadAt,Instr.sureAddr,Sem.run_bind,Sem.run_pure,Result.andThen_ok,run_loadVar_cells w b ty cs d hc hu hd hi]
 exact hK _ _ h
theorem MkAt.move{w w':World}{b':Nat}(h:MkAt a cs p m w)(hB:Below p.B w w')(hb:p.B<=b')(hc: ∀k,k<641->k≠639->w'.cell? ⟨b',k,none⟩=w.cell? ⟨p.b,k,none⟩)(hf: ∀k,w'.frozen? ⟨b',k,none⟩=false) 
  (hv:w'.cell? ⟨b',639,none⟩=some v) (hown:w'.ownsRow 0 246 2 v m.marks.length (markCells m.marks)) (hne: ∀k,v.ownBlock=some k->k≠b'/\p.B<=k):MkAt a cs ⟨p.B,b',p.pb,p.pc,v⟩ m w' where
 pg :=by
  obtain⟨W,h1,h2,h3⟩:=h.pg.ex
  exact⟨W,h1,h2,h3.trans hB⟩
 mem:=h.mem.move (fun k hk=>hc k (by omega) (by omega)) hf
 thr:=h.thr
 prog:=by rw[hc _ (by omega) (by omega)];exact h.prog
 reg t r ht hr:=by rw[hc _ (by omega) (by omega)];exact h.reg t r ht hr
 pc t ht:=by rw[hc _ (by omega) (by omega)];exact h.pc t ht
 marks:=hv
 own:=hown
 faults:=by rw[hc _ (by omega) (by omega)];exact h.faults
 frozen o _ _:=hf o
 ne:=hne
 hB:=hb
theorem ownsRow_zero{base n sz:Nat}{e:TypeId}{xs:List Value}(h:w.ownsRow base e sz v n xs):w.ownsRow 0 e sz v n xs:=by
 rcases h with⟨hlen,h |⟨g,cap,cur,h1, -,h2⟩⟩
 ·exact⟨hlen, .inl h⟩
 ·exact⟨hlen, .inr ⟨g,cap,cur,h1,Nat.zero_le _,h2⟩⟩
theorem copy_at{w w2 w3:World}(h:MkAt a cs p m w){C:Array Value}(hc: ∀k,k<641->C[k]? =w.cell? ⟨p.b,k,none⟩) 
  (hs:w2.heap.size=w.heap.size+1) (hrow:w2.heap[w.heap.size]? =some (.cells C 138 (0,0))) (hold:Below w.heap.size w w2) {v:Value} (hb:Below w2.heap.size w2 w3) (hown:w3.ownsRow w2.heap.size 246 2 v m.marks.length (markCells m.marks)):
  MkAt a cs ⟨p.B,w.heap.size,p.pb,p.pc,v⟩ m (w3.setCell ⟨w.heap.size,639,none⟩ v)/\Below w.heap.size w (w3.setCell ⟨w.heap.size,639,none⟩ v):=by
 have hB:=below_step hold hb
 have hBs:p.B<=w.heap.size:=by have:=h.hB;have:=h.lt;omega
 have hr3:w3.heap[w.heap.size]? =some (.cells C 138 (0,0)):=(hb.block _ (by omega)).trans hrow
 have hne: ∀k,v.ownBlock=some k->k≠w.heap.size/\w.heap.size<=k:=fun k hk=>by have:=(hown.lt k hk).1;omega
 have hB4:Below w.heap.size w (w3.setCell ⟨w.heap.size,639,none⟩ v):=hB.setCell nL _
 have c3: ∀k,k<641->w3.cell? ⟨w.heap.size,k,none⟩=w.cell? ⟨p.b,k,none⟩:=fun k hk=>by rw[<-hc k hk];exact cell_of_row hr3 k
 refine⟨h.move (hB4.mono hBs) hBs (fun k hk hn=>?_) (fun k=>?_) ?_ ?_ (fun k hk=>⟨(hne k hk).1,Nat.le_trans hBs (hne k hk).2⟩),hB4⟩
 ·obtain⟨u,hu, -⟩:=h.whole k hk
  rw[hu]
  exact cell_ne ((c3 k hk).trans hu) (Or.inr (by omega))
 ·rw[World.frozen?_setCell]
  exact frozen_of_row _ _ _ _ _ hr3
 ·obtain⟨u,hu, -⟩:=h.whole 639 (by decide)
  exact World.cell?_setCell_same _ _ _ ((c3 639 (by decide)).trans hu)
 ·exact ownsRow_zero (ownsRow_block hown fun k hk=>Below.heap_setCell _ _ _ _ (hne k hk).1)
end
section
open Go.RowKit Go.Extern.Stop Go.Stop Go.Extern Go.Maps Go.WideMaps Go.Sort
theorem kcopy_any{a:Nat->Addr}{cs:List (List Ins)}{p:MkPl}{m:Mk}{w:World}(h:MkAt a cs p m w)(h5:m.marks.length<=500):
  Calls Tryz.prog 77 #[.pointer (some ⟨p.b,0,none⟩)] w fun e w'=> ∃v,e= .returned (.pointer (some ⟨w.heap.size,0,none⟩))/\Hid (MkAt a cs ⟨p.B,w.heap.size,p.pb,p.pc,v⟩ m w'/\Below w.heap.size w w'/\ ∀k,v.ownBlock=some k->w.heap.size<=k):=by
 obtain⟨C,hC,hc,h1⟩:=h.rowOf
 have hks:=machSize C hC
 have HC:Hid (∀k,k<C.size->C[k]? =w.cell? ⟨p.b,k,none⟩):=hide fun k hk=>hc k (by omega)
 have H:=hide h
 have Hc:=hide hc
 have H5:=hide h5
 obtain⟨ad0,cap0,hvs, -⟩:=ownsRow_shape h.own
 have hm:=h.marks
 have hl:=h.lt
 rw[hvs] at hm
 have HV:=hide hvs
 clear h h5 hc hvs
 obtain⟨W2,hW2⟩: ∃W2,W2=(w.alloc (.cells Tryz.zeroCells138 138)).setRow w.heap.size C:=⟨_,rfl⟩
 have hr1:(w.alloc (.cells Tryz.zeroCells138 138)).heap[w.heap.size]? =some (.cells Tryz.zeroCells138 138 (0,0)):=heap_alloc_new w _
 have hrow:W2.heap[w.heap.size]? =some (.cells C 138 (0,0)):=by rw[hW2];exact setRow_heap _ _ _ _ _ _ hr1
 have hs2:W2.heap.size=w.heap.size+1:=by rw[hW2];simp[World.setRow]
 have hb2:Below w.heap.size w W2:=by
  rw[hW2]
  exact⟨rfl,rfl,rfl,by simp[World.setRow],fun k hk=>by rw[setRow_other _ _ _ _ (by omega)];exact Below.heap_alloc w _ k hk⟩
 have hm2:W2.cell? ⟨p.b,639,none⟩=some (.slice ad0 m.marks.length cap0):=keep_cell hb2 hm
 have HCl:=hide (cloneM_any (w:=W2) (v:= .slice ad0 m.marks.length cap0) (by have:=(H.out.below hb2).own;rw[HV.out] at this;exact this) (by have:=H5.out;omega))
 have HA:Hid (∀w3 v,Below W2.heap.size W2 w3->w3.ownsRow W2.heap.size 246 2 v m.marks.length (markCells m.marks)->MkAt a cs ⟨p.B,w.heap.size,p.pb,p.pc,v⟩ m (w3.setCell ⟨w.heap.size,639,none⟩ v)/\Below w.heap.size w (w3.setCell ⟨w.heap.size,639,none⟩ v)/\ ∀k,v.ownBlock=some k->w.heap.size<=k):=hide fun w3 v hb hown=>by
  obtain⟨q1,q2⟩:=copy_at H.out Hc.out hs2 hrow hb2 hb hown
  exact⟨q1,q2,fun k hk=>by have:=(hown.lt k hk).1;omega⟩
 have hcell:Hid (∀w3,Below W2.heap.size W2 w3->(∃u,w3.cell? ⟨w.heap.size,639,none⟩=some u)/\w3.frozen? ⟨w.heap.size,639,none⟩=false):=hide fun w3 hb=>by
  have hr3:w3.heap[w.heap.size]? =some (.cells C 138 (0,0)):=(hb.block _ (by omega)).trans hrow
  obtain⟨u,hu, -⟩:=H.out.whole 639 (by decide)
  exact⟨⟨u,by rw[cell_of_row hr3,Hc.out 639 (by decide)];exact hu⟩,frozen_of_row _ _ _ _ _ hr3⟩
 rw[hW2] at hm2
 clear hrow hs2 hb2 hm H Hc HV H5
 go_enter Tryz.func77,Tryz.ntmps77
 go_wp2_with (first
  |refine wpList_load_cells (by rfl) 138 _ (by rfl) p.b (by rfl) C _ HC.out Tryz.underlying138 (by rfl) hks ?_
  |refine wpList_store_row (by rfl) 138 _ _ (by rfl) w.heap.size C (by rfl) (by rfl) 138 Tryz.zeroCells138 hr1 hks (by rw[zeroK_size,hC]) h1 ?_)
 rw[<-hW2]
 refine HCl.out.mono ?_
 rintro e w3 ⟨v,rfl,hown,hb⟩
 obtain⟨⟨u,hu⟩,hf⟩:=hcell.out w3 hb
 have HZ:=hide (HA.out w3 v hb hown)
 obtain⟨ad,cap,rfl, -⟩:=ownsRow_shape hown
 clear HCl HA hcell hown hb hm2 hr1 HC hks h1 hC
 go_wp2
 go_ret
 exact⟨_,rfl,HZ.out⟩
end
section
open Go.RowKit Go.Extern.Stop Go.Stop Go.Extern Go.Maps Go.WideMaps Go.Sort
variable {w:World} {a:Nat->Addr} {cs:List (List Ins)} {s e:Int} {S:Nat->Nat->Prop} {tb:Nat} {qv see:Value} {p:MkPl} {m:Mk} {b fb:Nat} {n mo:Int} {ad:Option Addr} {X:Nat->Prop} {L:List Mk}
structure ToldAt(tb:Nat)(s e:Int)(w:World):Prop where
 states:w.cell? ⟨tb,0,none⟩=some (.int .i64 s)
 ends:w.cell? ⟨tb,1,none⟩=some (.int .i64 e)
 fz: ∀o,o<4->w.frozen? ⟨tb,o,none⟩=false
 fault:w.cell? ⟨tb,2,none⟩=some (.bool false)
 way:w.cell? ⟨tb,3,none⟩=some (.slice none 0 0)
theorem ToldAt.lt(h:ToldAt tb s e w):tb<w.heap.size:=bLt h.states
theorem ToldAt.turns{w w':World}(h:ToldAt tb s e w)(t:Turns S w w')(hS: ∀o, ¬S tb o):ToldAt tb s e w':=
 ⟨t.keep h.states (hS _),t.keep h.ends (hS _),fun o ho=>by rw[t.frozen _ _ h.lt (hS _)];exact h.fz o ho,t.keep h.fault (hS _),t.keep h.way (hS _)⟩
theorem ToldAt.below{w w':World}(h:ToldAt tb s e w)(k:Below w.heap.size w w'):ToldAt tb s e w':=h.turns (S:=fun _ _=>False) (Turns.of_below k) (fun _ h=>h)
theorem ToldAt.set0(h:ToldAt tb s e w)(s':Int):ToldAt tb s' e (w.setCell ⟨tb,0,none⟩ (.int .i64 s')):=
 ⟨World.cell?_setCell_same _ _ _ h.states,cell_ne h.ends (.inr (by omega)),fun o ho=>by rw[World.frozen?_setCell];exact h.fz o ho,cell_ne h.fault (.inr (by omega)),cell_ne h.way (.inr (by omega))⟩
theorem ToldAt.set1(h:ToldAt tb s e w)(e':Int):ToldAt tb s e' (w.setCell ⟨tb,1,none⟩ (.int .i64 e')):=
 ⟨cell_ne h.states (.inr (by omega)),World.cell?_setCell_same _ _ _ h.ends,fun o ho=>by rw[World.frozen?_setCell];exact h.fz o ho,cell_ne h.fault (.inr (by omega)),cell_ne h.way (.inr (by omega))⟩
def endN(e:Int):Bool->Int
 |true=>e+1
 |false=>e
structure Seer where
 v:Value
 I:(Nat->Prop)->List Mk->World->Prop
 bx:Option Nat
 lo:Nat
structure BoxAt(a:Nat->Addr)(k:Nat)(w:World):Prop where
 c0: ∃s n c,w.cell? ⟨k,0,none⟩=some (.slice s n c)
 c1: ∀o,1<=o->w.cell? ⟨k,o,none⟩=none
 env: ∃W,Env a W/\W.heap.size<=k/\Below W.heap.size W w
theorem BoxAt.lt{k:Nat}(h:BoxAt a k w):k<w.heap.size:=by
 obtain⟨s,n,c,e⟩:=h.c0
 exact bLt e
structure SeerFr(se:Seer):Prop where
 lt: ∀{X:Nat->Prop} {L:List Mk} {w:World},se.I X L w-> ∀k,X k->k<w.heap.size
 keep: ∀{X:Nat->Prop} {L:List Mk} {w w':World} {T:Nat->Nat->Prop},se.I X L w->Turns T w w'->(∀k o,T k o-> ¬X k/\se.lo<=k)->se.I X L w'
structure SeerOk (a:Nat->Addr) (cs:List (List Ins)) (se:Seer):Prop where
 fr:SeerFr se
 box: ∀{X:Nat->Prop} {L:List Mk} {w:World},se.I X L w-> ∀k,se.bx=some k->X k/\BoxAt a k w
 call :(se.v= .nilFunc/\ ∀(X:Nat->Prop) (L:List Mk) (w:World) (m:Mk),se.I X L w->se.I X (L++[m]) w)∨
  (∃ (n:Nat) (caps:Array Value),se.v= .func (.func n) #[] caps/\(∀(args:Array Value) (w:World),(callFunc n args).run Tryz.prog w= .ok (.enter n args) w)/\ ∀(p:MkPl) (m:Mk) (w:World) (X:Nat->Prop) (L:List Mk),MkAt a cs p m w->(∀k,p.fp k-> ¬X k)->se.I X L w->L.length<=100000->
    Calls Tryz.prog n (#[.pointer (some ⟨p.b,0,none⟩), .bool (endTo cs m cs.length)]++caps) w fun x w'=>x= .returned (.tuple #[])/\ ∃X',se.I X' (L++[m]) w'/\Turns (fun k _=>X k) w w'/\ ∀k,X' k->X k∨w.heap.size<=k)
def noSeer:Seer:=⟨.nilFunc,fun X _ _=> ∀k, ¬X k,none,0⟩
theorem noSeer_ok(a:Nat->Addr)(cs:List (List Ins)):SeerOk a cs noSeer:=⟨⟨fun h k hk=>absurd hk (h k),fun h _ _=>h⟩,fun _ _ h=>(by cases h), .inl ⟨rfl,fun _ _ _ _ h=>h⟩⟩
theorem Pg.boxed {pb pc k:Nat} {W W':World} (h:Pg a cs pb pc W) (c0: ∃s n c,W.cell? ⟨k,0,none⟩=some (.slice s n c)) (c1: ∀o,1<=o->W.cell? ⟨k,o,none⟩=none) (hb: ∀j,j≠k->W'.heap[j]? =W.heap[j]?) (hE:Env a W'):Pg a cs pb pc W':=by
 obtain⟨s,n,c,c0⟩:=c0
 refine⟨hE,h.cap,fun t L ht=>?_,h.right,h.few⟩
 obtain⟨ad,cap,lb,h1,h2,h3,h4,h5⟩:=h.code t L ht
 have npb:pb≠k:=fun e=>by
  subst e
  rw[c1 _ (by omega)] at h3
  cases h3
 refine⟨ad,cap,lb,by rw[World.cell?_of_block (w:=W) (hb _ npb)];exact h1,h2,by rw[World.cell?_of_block (w:=W) (hb _ npb)];exact h3,fun i x hx=>?_,?_⟩
 ·obtain ⟨b,off,e,g0,g1,g2,g3,g4⟩:=h4 i x hx
  have nb:b≠k:=fun e=>by
   subst e
   rcases Nat.eq_zero_or_pos (off+i*5) with e0 |e0
   ·rw[e0,c0] at g0;cases g0
   ·rw[c1 _ e0] at g0;cases g0
  exact⟨b,off,e,by rw[World.cell?_of_block (w:=W) (hb _ nb)];exact g0,by rw[World.cell?_of_block (w:=W) (hb _ nb)];exact g1,by rw[World.cell?_of_block (w:=W) (hb _ nb)];exact g2,by rw[World.cell?_of_block (w:=W) (hb _ nb)];exact g3,by rw[World.cell?_of_block (w:=W) (hb _ nb)];exact g4⟩
 ·obtain ⟨es,clock,g1,F,hs,hD⟩:=h5
  have nl:lb≠k:=fun e=>by
   subst e
   unfold World.cell? at c0
   rw[g1] at c0
   cases c0
  exact⟨es,clock,by rw[hb _ nl];exact g1,F,hs,hD⟩
theorem MkAt.turnsX {w w':World} {bx:Option Nat} (h:MkAt a cs p m w) (t:Turns S w w') (hS: ∀k o,S k o-> ¬p.fp k) (hB: ∀k o,S k o->p.B<=k∨bx=some k) (b: ∀k,bx=some k->BoxAt a k w) (b': ∀k,bx=some k->BoxAt a k w'):MkAt a cs p m w':=by
 have pg:PgB a cs p.pb p.pc p.B w':=by
  obtain⟨W,h1,h2,h3⟩:=h.pg.ex
  by_cases hk: ∃k,bx=some k/\k<p.B
  ·obtain ⟨k,rfl,hk⟩:=hk
   have B0:=b k rfl
   have B1:=b' k rfl
   obtain⟨W0,hE,hle,hb0⟩:=B1.env
   have hkW:k<W.heap.size:=by omega
   have hW:W.heap[k]? =w.heap[k]? :=(h3.block k hk).symm
   have hk':k<w'.heap.size:=B1.lt
   have hset: ∀j,(W.heap.setIfInBounds k w'.heap[k])[j]? =if j=k then some w'.heap[k] else W.heap[j]? :=fun j=>by
    by_cases e:j=k
    ·subst e
     rw[if_pos rfl,Array.getElem?_setIfInBounds_self_of_lt hkW]
    ·rw[if_neg e,Array.getElem?_setIfInBounds_ne (fun e2=>e e2.symm)]
   have hlow: ∀j,j<p.B->(W.heap.setIfInBounds k w'.heap[k])[j]? =w'.heap[j]? :=fun j hj=>by
    rw[hset]
    by_cases e:j=k
    ·subst e
     rw[if_pos rfl,Array.getElem?_eq_getElem hk']
    ·rw[if_neg e, <-h3.block j hj]
     exact(t.block j (by have:=h.pg.size;omega) (fun o hs=>(hB j o hs).elim (fun e2=>by omega) (fun e2=>e (by cases e2;rfl)))).symm
   refine⟨{ W with heap:=W.heap.setIfInBounds k w'.heap[k] },h1.boxed (k:=k) ?_ (fun o ho=>?_) (fun j hj=>?_) ?_,?_,?_⟩
   ·obtain⟨s,n,c,e⟩:=B0.c0
    exact⟨s,n,c,by rw[World.cell?_of_block (w:=w) hW];exact e⟩
   ·rw[World.cell?_of_block (w:=w) hW];exact B0.c1 o ho
   ·show(W.heap.setIfInBounds k w'.heap[k])[j]? =_
    rw[hset,if_neg hj]
   ·exact hE.below fun j hj=>(hlow j (by omega)).trans (hb0.block j hj)
   ·show(W.heap.setIfInBounds k w'.heap[k]).size=p.B
    rw[Array.size_setIfInBounds];exact h2
   ·refine⟨t.os.trans h3.os,t.tape.trans h3.tape,t.output.trans h3.output,?_,fun j hj=>(hlow j hj).symm⟩
    show(W.heap.setIfInBounds k w'.heap[k]).size<=_
    rw[Array.size_setIfInBounds]
    exact Nat.le_trans h3.size t.size
  ·exact h.pg.turns (S:=fun k o=>S k o/\p.B<=k) (t.mono fun k o _ hs=>⟨hs,(hB k o hs).elim id (fun e=>Nat.le_of_not_lt fun e2=>hk ⟨k,e,e2⟩)⟩) (fun _ _ hs=>hs.2)
 exact⟨pg,h.mem.turns t (fun o _ hs=>hS _ _ hs (Or.inl rfl)),h.thr,t.keep h.prog (fun hs=>hS _ _ hs (Or.inl rfl)),fun i r hi hr=>t.keep (h.reg i r hi hr) (fun hs=>hS _ _ hs (Or.inl rfl)),fun i hi=>t.keep (h.pc i hi) (fun hs=>hS _ _ hs (Or.inl rfl)),t.keep h.marks (fun hs=>hS _ _ hs (Or.inl rfl)),ownsRow_block h.own fun k hk=>t.block k (h.own.lt k hk).2 (fun o hs=>hS _ _ hs (Or.inr hk)),t.keep h.faults (fun hs=>hS _ _ hs (Or.inl rfl)),fun o h1 h2=>by rw[t.frozen _ _ h.lt (fun hs=>hS _ _ hs (Or.inl rfl))];exact h.frozen o h1 h2,h.ne,h.hB⟩
theorem see_nil(h:MkAt a cs p m w){tb cb cap:Nat}(ht:ToldAt tb s e w)(hc:w.cell? ⟨cb,0,none⟩=some (.slice ad cs.length cap))(hc2:w.cell? ⟨cb+1,0,none⟩=some .nilFunc)(hcb:cb+1<tb)(hs:0<=s/\s<=1000000)(he:0<=e/\e<=1000000):
  Calls Tryz.prog 75 #[.pointer (some ⟨p.b,0,none⟩), .pointer (some ⟨cb,0,none⟩), .pointer (some ⟨tb,0,none⟩), .pointer (some ⟨cb+1,0,none⟩)] w fun x w'=>x= .returned (.tuple #[])/\ToldAt tb (s+1) (endN e (endTo cs m cs.length)) w'/\Turns (fun k _=>k=tb) w w':=by
 have HE:=hide (ended_any h)
 obtain⟨hs1,hs2⟩:=hs
 obtain⟨he1,he2⟩:=he
 have HT:=hide ht
 clear ht h
 have hneq: ∀w:World,(binOp .neq 104 .nilFunc .nilFunc).run Tryz.prog w= .ok (.bool false) w:=fun _=>rfl
 go_enter Tryz.func75,Tryz.ntmps75
 go_wp2_with fail
 refine HE.out.mono ?_
 rintro x w2 ⟨rfl,hb2⟩
 have H2:=hide (HT.out.below hb2)
 have T2:Hid (Turns (fun k _=>k=tb) w (w2.setCell ⟨tb,0,none⟩ (.int .i64 (s+1)))):=hide ((Turns.of_below hb2).setCell _ rfl)
 have t0:=H2.out.states
 have z0:=H2.out.fz 0 (by decide)
 have H3:=hide (H2.out.set0 (s+1))
 have q2:(w2.setCell ⟨tb,0,none⟩ (.int .i64 (s+1))).cell? ⟨cb+1,0,none⟩=some .nilFunc:=cell_ne (keep_cell hb2 hc2) (.inl (by omega))
 clear HE hb2 HT hc hc2
 cases hx:endTo cs m cs.length
 ·go_wp2_with fail
  go_end0
  exact⟨rfl,by rw[hx];exact H3.out,T2.out⟩
 ·have t1:=H3.out.ends
  have z1:=H3.out.fz 1 (by decide)
  have q3:((w2.setCell ⟨tb,0,none⟩ (.int .i64 (s+1))).setCell ⟨tb,1,none⟩ (.int .i64 (e+1))).cell? ⟨cb+1,0,none⟩=some .nilFunc:=cell_ne q2 (.inl (by omega))
  go_wp2_with fail
  go_end0
  exact⟨rfl,by rw[hx];exact H3.out.set1 (e+1),T2.out.setCell _ rfl⟩
theorem see_fun (h:MkAt a cs p m w) {se:Seer} (fr:SeerFr se) (hI:se.I X L w) {n:Nat} {caps:Array Value} (hn: ∀(args:Array Value) (w:World),(callFunc n args).run Tryz.prog w= .ok (.enter n args) w) 
  (hcall: ∀(p:MkPl) (m:Mk) (w:World),MkAt a cs p m w->(∀k,p.fp k-> ¬X k)->se.I X L w->Calls Tryz.prog n (#[.pointer (some ⟨p.b,0,none⟩), .bool (endTo cs m cs.length)]++caps) w fun x w'=>x= .returned (.tuple #[])/\ ∃X',se.I X' (L++[m]) w'/\Turns (fun k _=>X k) w w'/\ ∀k,X' k->X k∨w.heap.size<=k)
  {tb cb cap:Nat} {s e:Int} {ad:Option Addr} (ht:ToldAt tb s e w) (hc:w.cell? ⟨cb,0,none⟩=some (.slice ad cs.length cap)) (hc2:w.cell? ⟨cb+1,0,none⟩=some (.func (.func n) #[] caps)) (hcb:cb+1<tb) (hs:0<=s/\s<=1000000) (he:0<=e/\e<=1000000) (hp: ¬p.fp tb) (hB:p.B<=tb) (hX: ¬X tb) (hlo:se.lo<=tb) (h5:m.marks.length<=500):
  Calls Tryz.prog 75 #[.pointer (some ⟨p.b,0,none⟩), .pointer (some ⟨cb,0,none⟩), .pointer (some ⟨tb,0,none⟩), .pointer (some ⟨cb+1,0,none⟩)] w fun x w'=>x= .returned (.tuple #[])/\ToldAt tb (s+1) (endN e (endTo cs m cs.length)) w'/\ ∃X',se.I X' (L++[m]) w'/\Turns (fun k _=>k=tb∨X k) w w'/\ ∀k,X' k->X k∨w.heap.size<=k:=by
 have HE:=hide (ended_any h)
 obtain⟨hs1,hs2⟩:=hs
 obtain⟨he1,he2⟩:=he
 have HT:=hide ht
 have HI:=hide hI
 have HM:=hide h
 have HCL:Hid (∀(p:MkPl) (m:Mk) (w:World),MkAt a cs p m w->(∀k,p.fp k-> ¬X k)->se.I X L w->Calls Tryz.prog n (#[.pointer (some ⟨p.b,0,none⟩), .bool (endTo cs m cs.length)]++caps) w fun x w'=>x= .returned (.tuple #[])/\ ∃X',se.I X' (L++[m]) w'/\Turns (fun k _=>X k) w w'/\ ∀k,X' k->X k∨w.heap.size<=k):=hide hcall
 have HFR:=hide fr
 have hneq: ∀w:World,(binOp .neq 104 (.func (.func n) #[] caps) .nilFunc).run Tryz.prog w= .ok (.bool true) w:=fun _=>rfl
 clear ht h hI hcall fr
 go_enter Tryz.func75,Tryz.ntmps75
 go_wp2_with fail
 refine HE.out.mono ?_
 rintro x w2 ⟨rfl,hb2⟩
 have H2:=hide (HT.out.below hb2)
 have T2:Hid (Turns (fun k _=>k=tb) w (w2.setCell ⟨tb,0,none⟩ (.int .i64 (s+1)))):=hide ((Turns.of_below hb2).setCell _ rfl)
 have t0:=H2.out.states
 have z0:=H2.out.fz 0 (by decide)
 have H3:=hide (H2.out.set0 (s+1))
 have q2:(w2.setCell ⟨tb,0,none⟩ (.int .i64 (s+1))).cell? ⟨cb+1,0,none⟩=some (.func (.func n) #[] caps):=cell_ne (keep_cell hb2 hc2) (.inl (by omega))
 clear HE hb2 HT hc hc2
 cases hx:endTo cs m cs.length
 ·have HM2:=hide (HM.out.turns T2.out (fun k _ e hf=>hp (by rw[<-e];exact hf)) (fun k _ e=>by rw[e];exact hB))
  have HI2:=hide (HFR.out.keep HI.out T2.out (fun k _ e=>⟨fun hk=>hX (by rw[<-e];exact hk),by rw[e];exact hlo⟩))
  go_wp2_with fail
  have HCP:=hide (kcopy_any (HM2.out.below (below_dN bRf 1)) h5)
  rw[show(World.drewN (w2.setCell ⟨tb,0,none⟩ (.int .i64 (s+1))) 1).heap.size=w2.heap.size by simp] at HCP
  refine wp_region_F (S:=(fun w'=>w'.cell? ⟨cb+1,0,none⟩=some (.func (.func n) #[] caps))) (by kernel_rfl) (by(try dsimp only);exact q2) (fun hHeld=>?_)
  refine' wpAnyF_take (i:=0) (n:=4) (v:=_) rfl (by kernel_rfl) (fun _ _ _ h=>h) (by assumption) (Or.inl ⟨by rfl,?hy1⟩) ?rest1
  case' hy1=>(intro w' hSw;(try dsimp only at hSw);go_simp;try with_reducible rfl)
  try simp only[Act.put,fxs]
  refine' wpAnyF_take (i:=1) (n:=4) (v:=_) rfl (by kernel_rfl) (fun _ _ _ h=>h) (by assumption) (Or.inl ⟨by rfl,?hy2⟩) ?rest2
  case' hy2=>(intro w' hSw;(try dsimp only at hSw);go_simp;try with_reducible rfl)
  try simp only[Act.put,fxs]
  refine' wpAnyF_take (i:=3) (n:=4) (v:=_) rfl (by kernel_rfl) (fun _ _ _ h=>h) (by assumption) (Or.inl ⟨by rfl,?hy3⟩) ?rest3
  case' hy3=>(intro w' hSw;(try dsimp only at hSw);go_simp;try with_reducible rfl)
  try simp only[Act.put,fxs]
  refine wpAnyF_only (i:=2) rfl (by kernel_rfl) (fun K hK=>?_)
  go_simp
  go_at_call 77
  refine HCP.out.mono ?_
  rintro e4 w4 ⟨v4,rfl,hq4⟩
  dsimp only
  obtain⟨hm4,hb4,hv4⟩:=hq4.out
  have B4:Hid (Below (w2.setCell ⟨tb,0,none⟩ (.int .i64 (s+1))).heap.size (w2.setCell ⟨tb,0,none⟩ (.int .i64 (s+1))) w4):=hide (by rw[show(w2.setCell ⟨tb,0,none⟩ (.int .i64 (s+1))).heap.size=w2.heap.size by simp];exact(below_dN bRf 1).trans hb4)
  have hs4:=keep_cell B4.out q2
  refine hK.out _ _ (Or.inr hs4) ?_
  have HI4:=hide (HFR.out.keep HI2.out (Turns.of_below (S:=fun _ _=>False) B4.out) (fun _ _ h=>h.elim))
  have HC4:=hide (HCL.out _ m w4 hm4 (fun k hk hx=>by
   have h1:=HFR.out.lt HI2.out k hx
   have h1:k<w2.heap.size:=by simpa using h1
   have h2:w2.heap.size<=k:=by
    rcases hk with e |e
    ·exact Nat.le_of_eq e.symm
    ·exact hv4 k e
   omega) HI4.out)
  rw[hx] at HC4
  clear hK K hq4 hm4 hb4 hs4 HCP HCL
  try simp only[Act.put,fxs]
  refine wpAnyF_only (i:=4) rfl (by kernel_rfl) (fun K hK=>?_)
  go_simp
  refine HC4.out.mono ?_
  rintro e5 w5 ⟨rfl,X5,hi5,t5,hx5⟩
  dsimp only
  refine hK.out _ _ (Or.inl (by kernel_rfl)) ?_
  have B2:=hide (B4.out.size)
  have H5:=hide ((H3.out.below B4.out).turns t5 (fun _ e=>hX e))
  have T5:=hide (((T2.out.mono fun k _ _ e=>Or.inl e).trans (Turns.of_below B4.out)).trans (t5.mono fun k _ _ e=>(Or.inr e:k=tb∨X k)))
  have HX5:Hid (∀k,X5 k->X k∨w.heap.size<=k):=hide fun k hk=>(hx5 k hk).imp id (fun e=>by
   have h1:=T2.out.size
   have h2:=B4.out.size
   omega)
  have HI5:=hide hi5
  clear hK K hHeld HC4 hi5 t5 hx5 HI4
  try simp only[Act.put,fxs]
  refine wpAnyF_done (by kernel_rfl) ?_ _
  go_wp2
  go_end0
  exact⟨rfl,by rw[hx];exact H5.out,X5,HI5.out,T5.out,HX5.out⟩
 ·have t1:=H3.out.ends
  have z1:=H3.out.fz 1 (by decide)
  have q3:((w2.setCell ⟨tb,0,none⟩ (.int .i64 (s+1))).setCell ⟨tb,1,none⟩ (.int .i64 (e+1))).cell? ⟨cb+1,0,none⟩=some (.func (.func n) #[] caps):=cell_ne q2 (.inl (by omega))
  have T3:Hid (Turns (fun k _=>k=tb) w ((w2.setCell ⟨tb,0,none⟩ (.int .i64 (s+1))).setCell ⟨tb,1,none⟩ (.int .i64 (e+1)))):=hide (T2.out.setCell _ rfl)
  have HM3:=hide (HM.out.turns T3.out (fun k _ e hf=>hp (by rw[<-e];exact hf)) (fun k _ e=>by rw[e];exact hB))
  have HI3:=hide (HFR.out.keep HI.out T3.out (fun k _ e=>⟨fun hk=>hX (by rw[<-e];exact hk),by rw[e];exact hlo⟩))
  have H4:=hide (H3.out.set1 (e+1))
  go_wp2_with fail
  have HCP:=hide (kcopy_any (HM3.out.below (below_dN bRf 1)) h5)
  rw[show(World.drewN ((w2.setCell ⟨tb,0,none⟩ (.int .i64 (s+1))).setCell ⟨tb,1,none⟩ (.int .i64 (e+1))) 1).heap.size=w2.heap.size by simp] at HCP
  refine wp_region_F (S:=(fun w'=>w'.cell? ⟨cb+1,0,none⟩=some (.func (.func n) #[] caps))) (by kernel_rfl) (by(try dsimp only);exact q3) (fun hHeld=>?_)
  refine' wpAnyF_take (i:=0) (n:=4) (v:=_) rfl (by kernel_rfl) (fun _ _ _ h=>h) (by assumption) (Or.inl ⟨by rfl,?hz1⟩) ?sest1
  case' hz1=>(intro w' hSw;(try dsimp only at hSw);go_simp;try with_reducible rfl)
  try simp only[Act.put,fxs]
  refine' wpAnyF_take (i:=1) (n:=4) (v:=_) rfl (by kernel_rfl) (fun _ _ _ h=>h) (by assumption) (Or.inl ⟨by rfl,?hz2⟩) ?sest2
  case' hz2=>(intro w' hSw;(try dsimp only at hSw);go_simp;try with_reducible rfl)
  try simp only[Act.put,fxs]
  refine' wpAnyF_take (i:=3) (n:=4) (v:=_) rfl (by kernel_rfl) (fun _ _ _ h=>h) (by assumption) (Or.inl ⟨by rfl,?hz3⟩) ?sest3
  case' hz3=>(intro w' hSw;(try dsimp only at hSw);go_simp;try with_reducible rfl)
  try simp only[Act.put,fxs]
  refine wpAnyF_only (i:=2) rfl (by kernel_rfl) (fun K hK=>?_)
  go_simp
  go_at_call 77
  refine HCP.out.mono ?_
  rintro e4 w4 ⟨v4,rfl,hq4⟩
  dsimp only
  obtain⟨hm4,hb4,hv4⟩:=hq4.out
  have B4:Hid (Below ((w2.setCell ⟨tb,0,none⟩ (.int .i64 (s+1))).setCell ⟨tb,1,none⟩ (.int .i64 (e+1))).heap.size ((w2.setCell ⟨tb,0,none⟩ (.int .i64 (s+1))).setCell ⟨tb,1,none⟩ (.int .i64 (e+1))) w4):=hide (by rw[show((w2.setCell ⟨tb,0,none⟩ (.int .i64 (s+1))).setCell ⟨tb,1,none⟩ (.int .i64 (e+1))).heap.size=w2.heap.size by simp];exact(below_dN bRf 1).trans hb4)
  have hs4:=keep_cell B4.out q3
  refine hK.out _ _ (Or.inr hs4) ?_
  have HI4:=hide (HFR.out.keep HI3.out (Turns.of_below (S:=fun _ _=>False) B4.out) (fun _ _ h=>h.elim))
  have HC4:=hide (HCL.out _ m w4 hm4 (fun k hk hx=>by
   have h1:=HFR.out.lt HI3.out k hx
   have h1:k<w2.heap.size:=by simpa using h1
   have h2:w2.heap.size<=k:=by
    rcases hk with e |e
    ·exact Nat.le_of_eq e.symm
    ·exact hv4 k e
   omega) HI4.out)
  rw[hx] at HC4
  clear hK K hq4 hm4 hb4 hs4 HCP HCL
  try simp only[Act.put,fxs]
  refine wpAnyF_only (i:=4) rfl (by kernel_rfl) (fun K hK=>?_)
  go_simp
  refine HC4.out.mono ?_
  rintro e5 w5 ⟨rfl,X5,hi5,t5,hx5⟩
  dsimp only
  refine hK.out _ _ (Or.inl (by kernel_rfl)) ?_
  have B2:=hide (B4.out.size)
  have H5:=hide ((H4.out.below B4.out).turns t5 (fun _ e=>hX e))
  have T5:=hide (((T3.out.mono fun k _ _ e=>Or.inl e).trans (Turns.of_below B4.out)).trans (t5.mono fun k _ _ e=>(Or.inr e:k=tb∨X k)))
  have HX5:Hid (∀k,X5 k->X k∨w.heap.size<=k):=hide fun k hk=>(hx5 k hk).imp id (fun e=>by
   have h1:=T3.out.size
   have h2:=B4.out.size
   omega)
  have HI5:=hide hi5
  clear hK K hHeld HC4 hi5 t5 hx5 HI4
  try simp only[Act.put,fxs]
  refine wpAnyF_done (by kernel_rfl) ?_ _
  go_wp2
  go_end0
  exact⟨rfl,by rw[hx];exact H5.out,X5,HI5.out,T5.out,HX5.out⟩
theorem see_any{se:Seer}(so:SeerOk a cs se)(h:MkAt a cs p m w){tb cb cap:Nat}(ht:ToldAt tb s e w)(hc:w.cell? ⟨cb,0,none⟩=some (.slice ad cs.length cap))(hc2:w.cell? ⟨cb+1,0,none⟩=some se.v)(hcb:cb+1<tb)(hp: ¬p.fp tb)(hB:p.B<=tb)(hX: ¬X tb)(hlo:se.lo<=tb)(hI:se.I X L w)(hL:L.length<=100000)(h5:m.marks.length<=500)(hs:0<=s/\s<=1000000)(he:0<=e/\e<=1000000):
  Calls Tryz.prog 75 #[.pointer (some ⟨p.b,0,none⟩), .pointer (some ⟨cb,0,none⟩), .pointer (some ⟨tb,0,none⟩), .pointer (some ⟨cb+1,0,none⟩)] w fun x w'=>x= .returned (.tuple #[])/\ToldAt tb (s+1) (endN e (endTo cs m cs.length)) w'/\ ∃X',se.I X' (L++[m]) w'/\Turns (fun k _=>k=tb∨X k) w w'/\ ∀k,X' k->X k∨w.heap.size<=k:=by
 rcases so.call with⟨hv,hi⟩ |⟨n,caps,hv,hn,hcall⟩
 ·rw[hv] at hc2
  refine(see_nil h ht hc hc2 hcb hs he).mono ?_
  rintro x w' ⟨rfl,h1,h2⟩
  exact⟨rfl,h1,X,hi _ _ _ _ (so.fr.keep hI h2 (fun k _ e=>⟨fun hx=>hX (by rw[<-e];exact hx),by rw[e];exact hlo⟩)),h2.mono fun _ _ _ e=> .inl e,fun _ hk=> .inl hk⟩
 ·rw[hv] at hc2
  exact see_fun h so.fr hI hn (fun p m w h1 h2 h3=>hcall p m w X L h1 h2 h3 hL) ht hc hc2 hcb hs he hp hB hX hlo h5
structure WsAt(b:Nat)(n mo:Int)(fb:Nat)(qv see:Value)(w:World):Prop where
 numbers:w.cell? ⟨b,0,none⟩=some (.int .i64 n)
 most:w.cell? ⟨b,1,none⟩=some (.int .i64 mo)
 found:w.cell? ⟨b,2,none⟩=some (.map (some fb))
 ahead:w.cell? ⟨b,3,none⟩=some qv
 see:w.cell? ⟨b,4,none⟩=some see
 fz:w.frozen? ⟨b,3,none⟩=false
theorem WsAt.lt(h:WsAt b n mo fb qv see w):b<w.heap.size:=bLt h.numbers
theorem WsAt.turns{w w':World}(h:WsAt b n mo fb qv see w)(t:Turns S w w')(hS: ∀o, ¬S b o):WsAt b n mo fb qv see w':=
 ⟨t.keep h.numbers (hS _),t.keep h.most (hS _),t.keep h.found (hS _),t.keep h.ahead (hS _),t.keep h.see (hS _),by rw[t.frozen _ _ h.lt (hS _)];exact h.fz⟩
theorem WsAt.set(h:WsAt b n mo fb qv see w)(q:Value):WsAt b n mo fb q see (w.setCell ⟨b,3,none⟩ q):=
 ⟨cell_ne h.numbers (.inr (by omega)),cell_ne h.most (.inr (by omega)),cell_ne h.found (.inr (by omega)),World.cell?_setCell_same _ _ _ h.ahead,cell_ne h.see (.inr (by omega)),by rw[World.frozen?_setCell];exact h.fz⟩
theorem newSearch_any(n mo:Int)(see:Value)(w:World)(hsee: ∃fn f c,see= .func fn f c):
  Calls Tryz.prog 74 #[.int .i64 n, .int .i64 mo,see] w fun x w'=>x= .returned (.pointer (some ⟨w.heap.size+1,0,none⟩))/\WsAt (w.heap.size+1) n mo w.heap.size (.slice none 0 0) see w'/\FoundAt w' w.heap.size []/\Below w.heap.size w w':=by
 obtain⟨fn,f,c,rfl⟩:=hsee
 have hmm:= @run_makeMap Tryz.prog
 go_enter Tryz.func74,Tryz.ntmps74
 go_wp2_with fail
 go_ret
 have hs:(w.alloc (.map #[] 0)).heap.size=w.heap.size+1:=by simp
 refine⟨by simp,⟨?_,?_,?_,?_,?_,?_⟩,?_,?_⟩
 ·rw[<-hs,World.cell?_alloc_new];rfl
 ·rw[<-hs,World.cell?_alloc_new];rfl
 ·rw[<-hs,World.cell?_alloc_new];rfl
 ·rw[<-hs,World.cell?_alloc_new];rfl
 ·rw[<-hs,World.cell?_alloc_new];rfl
 ·rw[<-hs];unfold World.frozen?;rw[show((w.alloc (.map #[] 0)).alloc _).heap[(w.alloc (.map #[] 0)).heap.size]? =some (Obj.cells _ _ _) from heap_alloc_new _ _];rfl
 ·exact⟨(World.ownsMap_made w _ _ _).alloc _,List.Pairwise.nil⟩
 ·exact((Below.refl _ w).alloc nL _).alloc (by simp) _
end
end Go.Proofs.YtnoigmdmgdcliaaGreatDoor
