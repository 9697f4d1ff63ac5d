/- The law WalkAll answers true for every start, all codes and any bound that can be handed in; no condition beside the row's own. -/
import Derived.Test.YtdpmnlbnlnmjbaaGreatDoorV24
import Derived.Test.YtdpmnlbnlnmjbaaGreatDoorV26
import Derived.Test.YtdpmnlbnlnmjbaaGreatDoorV21
import Derived.Test.YtdpmnlbnlnmjbaaGreatDoorV13
import Derived.Lib.QuietBelow
import Derived.Test.YtdpmnlbnlnmjbaaGreatDoorV14
import Derived.Test.YtdpmnlbnlnmjbaaGreatDoorV01
import Derived.Test.YtdpmnlbnlnmjbaaGreatDoorV15
import Derived.Test.YtdpmnlbnlnmjbaaGreatDoorV25
import Derived.Test.YtdpmnlbnlnmjbaaGreatDoorTie
import Derived.Test.YtdpmnlbnlnmjbaaGreatDoorCards
import Derived.Carry
import Derived.SevenTiedAt
namespace Go.Proofs.YtdpmnlbnlnmjbaaGreatDoor
set_option maxRecDepth 100000
set_option maxHeartbeats 8000000
section
open Go.RowKit Go.Extern.Stop Go.Stop Go.Extern Go.Maps Go.WideMaps Go.Sort
theorem codesFrom_le: ∀(cs:List (List Ins)) (i:Nat),(codesFrom i cs).1<=5
 | [],_=>Nat.zero_le _
 | L::cs,i=>by
  unfold codesFrom
  split
  ·exact codesFrom_le cs (i+1)
  ·exact codeFault_le L
theorem fault_le(s:Sta)(cs:List (List Ins)):(s.fault cs).1<=5:=by
 unfold Sta.fault
 split
 ·exact codesFrom_le cs 0
 ·decide
end
section
open Go.RowKit Go.Extern.Stop Go.Stop Go.Extern Go.Maps Go.WideMaps Go.Sort
variable {cs:List (List Ins)} {s:Sta} {r:SpEnd×Sp} {M f:Nat}
theorem told_new(w:World)(a b c d:Value): ∃W,W=w.alloc (.cells #[a,b,c,d] 65)/\Below w.heap.size w W/\W.cell? ⟨w.heap.size,0,none⟩=some a/\W.cell? ⟨w.heap.size,1,none⟩=some b/\W.cell? ⟨w.heap.size,2,none⟩=some c/\W.cell? ⟨w.heap.size,3,none⟩=some d:=
 ⟨_,rfl,bRf.alloc nL _,by simp,by simp,by simp,by simp⟩
theorem fault_new(w:World)(a b:Value): ∃W,W=w.alloc (.cells #[a,b] 43)/\Below w.heap.size w W:=⟨_,rfl,bRf.alloc nL _⟩
theorem walk_same(hR:Right cs)(hgood:(s.fault cs).1=0)(hM:1<=M/\M<=150){q:RoEnd×Ro}(h1:searchO cs M (2*cs.length) f (firstS cs (s.mach cs.length))=r)(hms:r.1= .go->r.2.ms=[])(h2:walkR cs M (2*cs.length) (M+2) 0 (firstR cs (s.mach cs.length))=q)(hq:q.1≠ .fuel):Same r q:=by
 subst h1 h2
 obtain⟨f1,f2,f3,f4⟩:=Sta.fault_fits hgood
 have ok:=Sta.mach_ok (n:=cs.length) f1 f2 f3
 refine search_both (m0:=s.mach cs.length) (R:=[s.mach cs.length]) (c:=0) (fun S R c h m hm=>?_) f (M+2) (first_both (by omega) rfl) hms hq
 obtain⟨i,hi⟩:=List.mem_iff_getElem?.1 hm
 obtain⟨d,hd,hr⟩:=h.rch i m hi
 have hl:=(List.getElem?_eq_some_iff.1 hi).1
 have hle:=h.le
 refine(hr.key ok (fun t x hx=>?_) hR (by omega)).2
 have e:(s.mach cs.length).mem.waits t=[]:=rfl
 rw[e] at hx;cases hx
theorem sta_right(h:(s.fault cs).1=0)(hs: ∀(t:Nat) L,cs[t]? =some L-> ∀(i:Nat) x,L[i]? =some x->x.to.size<=maxLen):Right cs:=by
 unfold Sta.fault at h
 split at h
 ·rename_i h0
  exact right_of (codesFrom_zero cs 0 h) h0.2.2.1 h0.2.2.2.1 hs
 ·cases h
theorem back_len(hR:Right cs)(hgood:(s.fault cs).1=0)(hM:1<=M/\M<=150){x:ByteArray×Int}{S:Sp}{l:List Int}(h1:searchO cs M (2*cs.length) f (firstS cs (s.mach cs.length))=(.fault x,S))(hb:Back S.E x l):l.length<=1000000:=by
 obtain⟨f1,f2,f3,f4⟩:=Sta.fault_fits hgood
 have ok:=Sta.mach_ok (n:=cs.length) f1 f2 f3
 have h:=searchO_srch f (first_srch (cs:=cs) (m0:=s.mach cs.length) (mo:=M) (by omega) rfl) (N:=2*cs.length) (fun j m hj=>absurd hj (by omega))
 rw[h1] at h
 obtain⟨R,c,hs,m,hm,n,rfl, -⟩:=h
 have hle:=hs.le
 obtain ⟨l0,rfl, -,h3⟩:=back_fault hs (fun m hm=>by
  obtain⟨i,hi⟩:=List.mem_iff_getElem?.1 hm
  obtain⟨d,hd,hr⟩:=hs.rch i m hi
  have hl:=(List.getElem?_eq_some_iff.1 hi).1
  refine(hr.key ok (fun t x hx=>?_) hR (by omega)).2
  have e:(s.mach cs.length).mem.waits t=[]:=rfl
  rw[e] at hx;cases hx) hm hb
 rw[List.length_cons]
 omega
theorem search_pos{M:Nat}{f:Nat}(hM:1<=M)(h:searchO cs M (2*cs.length) f (firstS cs (s.mach cs.length))=r)(hb:r.1≠ .bound):1<=r.2.s:=by
 have h1:=searchO_srch f (first_srch (cs:=cs) (m0:=s.mach cs.length) (mo:=M) (by omega) rfl) (N:=2*cs.length) (fun j m hj=>absurd hj (by omega))
 rw[h] at h1
 have key: ∀{S:Sp} {R:List Mk} {c:Nat},Srch cs (s.mach cs.length) M S R c->1<=S.s:=fun hs=>by
  have h2:=(List.getElem?_eq_some_iff.1 hs.first.1).1
  rw[hs.s]
  omega
 obtain⟨e,S⟩:=r
 cases e with
 |go=>obtain⟨R,c,hs, -⟩:=h1;exact key hs
 |bound=>exact absurd rfl hb
 |fault x=>obtain⟨R,c,hs, -⟩:=h1;exact key hs
theorem wall_any {a:Nat->Addr} {ai ar ad:Option Addr} {ci cr cap:Nat} {mo:Int} {w:World} (hE:Env a w) (hs:StaAt s ⟨ai,ci,ar,cr⟩ w) (hl:codesAt ad cs w) (hsz: ∀(t:Nat) L,cs[t]? =some L-> ∀(i:Nat) x,L[i]? =some x->x.to.size<=maxLen) 
  (hc:cs.length<=9223372036854775807) (hL: ∀(t:Nat) L,cs[t]? =some L->L.length<=9223372036854775807):
  Calls Tryz.prog 6 #[.agg #[.int .i64 s.cells, .slice ai s.init.length ci, .slice ar s.regs.length cr], .slice ad cs.length cap, .int .i64 mo] w fun e w'=>e= .returned (.bool true)/\Below w.heap.size w w':=by
 obtain⟨w1,hw1⟩: ∃w1,w1=w.alloc (.cells #[.int .i64 s.cells, .slice ai s.init.length ci, .slice ar s.regs.length cr] 24):=⟨_,rfl⟩
 have b1:Below w.heap.size w w1:=by rw[hw1];exact bRf.alloc nL _
 have e0:w1.cell? ⟨w.heap.size,0,none⟩=some (.int .i64 s.cells):=by rw[hw1];simp
 have e1:w1.cell? ⟨w.heap.size,1,none⟩=some (.slice ai s.init.length ci):=by rw[hw1];simp
 have e2:w1.cell? ⟨w.heap.size,2,none⟩=some (.slice ar s.regs.length cr):=by rw[hw1];simp
 have HEnv:=hide (fun w' (hb:Below w1.heap.size w1 w')=>(hE.below b1.block).below hb.block)
 have HO:=hide (ways_any (hE.below b1.block))
 have HV:=hide (fun w' (hb:Below w1.heap.size w1 w')=>vast_any (cap:=cap) ((hs.below b1).below hb) ((hl.below b1).below hb) hc hL)
 have HS:=hide (fun(w':World)=>startOf_any (s:=s) (ai:=ai) (ar:=ar) (ci:=ci) (cr:=cr) w')
 have HSF:=hide (fun w' (hb:Below w1.heap.size w1 w')=>startFault_any (cap:=cap) ((hs.below b1).below hb) ((hl.below b1).below hb) hc)
 have HFT:=hide (fun w' (hb:Below w1.heap.size w1 w') f v B (h5:f.1<=5) (h:errIs a f v w' B)=>faulted_any a f v B w' ((hE.below b1.block).below hb.block) h5 h)
 have HA:=hide (fun w' (hb:Below w1.heap.size w1 w') (hg:(s.fault cs).1=0) hmo=>all_search (cap:=cap) mo ((hE.below b1.block).below hb.block) ((hs.below b1).below hb) ((hl.below b1).below hb) hsz hg hmo)
 have HB:=hide (fun w' (hb:Below w1.heap.size w1 w') (hg:(s.fault cs).1≠0)=>all_bad (cap:=cap) mo ((hE.below b1.block).below hb.block) ((hs.below b1).below hb) ((hl.below b1).below hb) hsz hg)
 have HU:=hide (fun w' (hb:Below w1.heap.size w1 w') (hg:(s.fault cs).1=0) hmo=>all_bound (cap:=cap) mo ((hE.below b1.block).below hb.block) ((hs.below b1).below hb) ((hl.below b1).below hb) hsz hg hmo)
 have HW:=hide (fun w' (hb:Below w1.heap.size w1 w') h1 h64 hR hfit hok M hM=>walkof_any (cap:=cap) hb ((hs.below b1).below hb) (hl.below b1) h1 h64 hR hfit hok M hM)
 have h5:=fault_le s cs
 have HRt:=hide (fun(hg:(s.fault cs).1=0)=>sta_right hg hsz)
 clear hE hs hl hsz hL
 go_enter Tryz.func6,Tryz.ntmps6
 go_wp2_with fail
 rw[<-hw1]
 clear hw1
 refine HO.out.mono ?_
 rintro e w2 ⟨rfl,hb2⟩
 replace e0:=keep_cell hb2 e0
 replace e1:=keep_cell hb2 e1
 replace e2:=keep_cell hb2 e2
 have HV2:=hide (HV.out w2 hb2)
 clear HO HV
 go_wp2_with fail
 refine HV2.out.mono ?_
 rintro e w3 ⟨v,hv,rfl,hb3⟩
 have B3:=below_step hb2 hb3
 replace e0:=keep_cell hb3 e0
 replace e1:=keep_cell hb3 e1
 replace e2:=keep_cell hb3 e2
 clear HV2 hb2 hb3
 rcases hv.out with rfl |rfl
 rotate_left
 ·go_wp2
  go_ret
  exact⟨rfl,below_step b1 B3⟩
 have hmm:(150<mo/\mo<=60000)∨(¬(150:Int)<mo∨((150:Int)<mo/\ ¬mo<=60000)):=by omega
 rcases hmm with⟨i1,i2⟩ |hm
 ·go_wp2
  go_ret
  exact⟨rfl,below_step b1 B3⟩
 by_cases hgood:(s.fault cs).1=0
 rotate_left
 · -- a start that is wrong
  obtain⟨k,hk⟩: ∃k,(s.fault cs).1=k+1:=⟨(s.fault cs).1 - 1,by omega⟩
  rcases hm with i1 |⟨i1,i2⟩
  all_goals
   go_wp2_with fail
   refine(HS.out w3).mono ?_
   rintro e w4 ⟨rfl,hb4⟩
   have B4:=below_step B3 hb4
   replace e0:=keep_cell hb4 e0
   replace e1:=keep_cell hb4 e1
   replace e2:=keep_cell hb4 e2
   have HB4:=hide (HB.out w4 B4 hgood)
   clear HA HB HU HW HS hb4 B3
   go_wp2_with fail
   refine HB4.out.mono ?_
   rintro e w5 ⟨hb5,v,rfl,hv⟩
   have B5:=below_step B4 hb5
   replace e0:=keep_cell hb5 e0
   replace e1:=keep_cell hb5 e1
   replace e2:=keep_cell hb5 e2
   clear HB4 hb5
   unfold toldV
   obtain⟨W5,hW5,c5,t0,t1,t2,t3⟩:=told_new w5 (.int .i64 0) (.int .i64 0) (.bool false) (.slice none 0 0)
   have B5':=below_step B5 c5
   have hv5:=errIs_below hv c5
   have HSF5:=HSF.out W5 B5'
   rw[hk] at HSF5
   have HSFh:=hide HSF5
   have hlt5:w.heap.size<w5.heap.size:=bLt e0
   have HF6:=hide (fun w' (hb:Below W5.heap.size W5 w')=>HFT.out w' (below_step B5' hb) (s.fault cs) v w4.heap.size h5 (errIs_below hv5 hb))
   rw[hk] at HF6
   have kp:(0:Int)<((k+1:Nat):Int):=by omega
   have kz:(((k+1:Nat):Int)==0)=false:=beq_eq_false_iff_ne.2 (by omega)
   generalize (((k+1:Nat):Int))=ke at*
   generalize (s.fault cs).2=f2 at*
   have HBW:=hide (below_step b1 B5')
   clear hv hv5 B4 B5 B5' c5 HSF HFT HSF5 hgood hk h5 HEnv
   go_wp2_with fail
   rw[<-hW5]
   clear hW5
   refine HSFh.out.mono ?_
   rintro e w6 ⟨rfl,hb6⟩
   obtain⟨W7,hW7,b7⟩:=fault_new w6 (.int .i64 ke) (.int .i64 f2)
   have b57:Below W5.heap.size W5 W7:=hb6.trans (b7.mono hb6.size)
   have HF7:=hide (HF6.out W7 b57)
   have HB7:=hide (HBW.out.trans (b57.mono HBW.out.size))
   have u0:W7.cell? ⟨w6.heap.size,0,none⟩=some (.int .i64 ke):=by rw[hW7,World.cell?_alloc_new];rfl
   have u1:W7.cell? ⟨w6.heap.size,1,none⟩=some (.int .i64 f2):=by rw[hW7,World.cell?_alloc_new];rfl
   replace t0:=keep_cell hb6 t0
   replace t1:=keep_cell hb6 t1
   replace t2:=keep_cell hb6 t2
   replace t3:=keep_cell hb6 t3
   have hlt6:w5.heap.size<w6.heap.size:=bLt t0
   clear HSFh HF6 hb6 b7 b57 HBW e0 e1 e2
   go_wp2_with fail
   rw[<-hW7]
   clear hW7
   refine HF7.out.mono ?_
   rintro e w8 ⟨rfl,hb8⟩
   have HB8:=hide (HB7.out.trans (hb8.mono HB7.out.size))
   clear HF7 hb8 HB7
   go_wp2
   go_ret
   exact⟨rfl,HB8.out⟩
 obtain⟨f2,hf2⟩: ∃f2,(s.fault cs).2=f2:=⟨_,rfl⟩
 by_cases hbd:mo<1∨60000<mo
 · -- a bad bound
  have hcs:(¬(150:Int)<mo/\mo<1)∨((150:Int)<mo/\ ¬mo<=60000/\ ¬mo<1/\60000<mo):=by omega
  clear hm
  rcases hcs with⟨i1,i2⟩ |⟨i1,i2,i3,i4⟩
  all_goals
   go_wp2_with fail
   refine(HS.out w3).mono ?_
   rintro e w4 ⟨rfl,hb4⟩
   have B4:=below_step B3 hb4
   replace e0:=keep_cell hb4 e0
   replace e1:=keep_cell hb4 e1
   replace e2:=keep_cell hb4 e2
   have HU4:=hide (HU.out w4 B4 hgood hbd)
   clear HA HB HU HW HS hb4 B3
   go_wp2_with fail
   refine HU4.out.mono ?_
   rintro e w5 ⟨hb5,rfl⟩
   have B5:=below_step B4 hb5
   replace e0:=keep_cell hb5 e0
   replace e1:=keep_cell hb5 e1
   replace e2:=keep_cell hb5 e2
   have hlt5:w.heap.size<w5.heap.size:=bLt e0
   clear HU4 hb5
   unfold toldV
   obtain⟨W5,hW5,c5,t0,t1,t2,t3⟩:=told_new w5 (.int .i64 0) (.int .i64 0) (.bool false) (.slice none 0 0)
   have B5':=below_step B5 c5
   have HSF5:=HSF.out W5 B5'
   rw[hgood,hf2] at HSF5
   rw[show((0:Nat):Int)=0 from rfl] at HSF5
   have HSFh:=hide HSF5
   have HF6:Hid (∀w',Below W5.heap.size W5 w'->Calls Tryz.prog 19 #[errAt (a 1), .agg #[.int .i64 2, .int .i64 (-1)]] w' fun e w''=>e= .returned (.bool true)/\Below w'.heap.size w' w''):=hide (fun w' hb=>HFT.out w' (below_step B5' hb) (2, -1) (errAt (a 1)) 0 (by decide) (.inr (.inl ⟨by decide,rfl,rfl⟩)))
   have HBW:=hide (below_step b1 B5')
   clear B4 B5 B5' c5 HSF HFT HSF5 hgood hbd h5 HEnv hf2
   go_wp2_with fail
   rw[<-hW5]
   clear hW5
   refine HSFh.out.mono ?_
   rintro e w6 ⟨rfl,hb6⟩
   have B6:=hide hb6
   replace t0:=keep_cell hb6 t0
   replace t1:=keep_cell hb6 t1
   replace t2:=keep_cell hb6 t2
   replace t3:=keep_cell hb6 t3
   have hlt6:w5.heap.size<w6.heap.size:=bLt t0
   clear HSFh hb6 e0 e1 e2
   obtain⟨W7,hW7,b7⟩:=fault_new w6 (.int .i64 0) (.int .i64 f2)
   have u0:W7.cell? ⟨w6.heap.size,0,none⟩=some (.int .i64 0):=by rw[hW7,World.cell?_alloc_new];rfl
   have u1:W7.cell? ⟨w6.heap.size,1,none⟩=some (.int .i64 f2):=by rw[hW7,World.cell?_alloc_new];rfl
   have z: ∀o,W7.frozen? ⟨w6.heap.size,o,none⟩=false:=fun o=>by rw[hW7];exact World.frozen?_alloc_new _ _ _ _
   go_wp2_with fail
   rw[<-hW7]
   clear hW7
   refine(rbare_any 2 W7).mono ?_
   rintro e w8 ⟨rfl,hb8⟩
   have hl7:w6.heap.size<W7.heap.size:=bLt u0
   replace u0:=keep_cell hb8 u0
   replace u1:=keep_cell hb8 u1
   have z0:w8.frozen? ⟨w6.heap.size,0,none⟩=false:=(hb8.frozen hl7).trans (z 0)
   have z1:w8.frozen? ⟨w6.heap.size,1,none⟩=false:=(hb8.frozen (p:=⟨w6.heap.size,1,none⟩) hl7).trans (z 1)
   replace t0:=keep_cell hb8 (keep_cell b7 t0)
   replace t1:=keep_cell hb8 (keep_cell b7 t1)
   replace t2:=keep_cell hb8 (keep_cell b7 t2)
   replace t3:=keep_cell hb8 (keep_cell b7 t3)
   have b58:Below W5.heap.size W5 w8:=(B6.out.trans (b7.mono B6.out.size)).trans (hb8.mono (Nat.le_trans B6.out.size b7.size))
   have hs56:=B6.out.size
   have HF7:=hide (HF6.out _ ((b58.setCell (p:=⟨w6.heap.size,0,none⟩) hs56 (.int .i64 2)).setCell (p:=⟨w6.heap.size,1,none⟩) hs56 (.int .i64 (-1))))
   have HB7:=hide (HBW.out.trans (((b58.setCell (p:=⟨w6.heap.size,0,none⟩) hs56 (.int .i64 2)).setCell (p:=⟨w6.heap.size,1,none⟩) hs56 (.int .i64 (-1))).mono HBW.out.size))
   clear HF6 hb8 B6 b7 z b58 HBW hl7
   go_wp2_with fail
   refine HF7.out.mono ?_
   rintro e w9 ⟨rfl,hb9⟩
   have HB9:=hide (HB7.out.trans (hb9.mono HB7.out.size))
   clear HF7 hb9 HB7
   go_wp2
   go_ret
   exact⟨rfl,HB9.out⟩
 · -- the search
  obtain⟨M,rfl⟩: ∃M:Nat,mo=(M:Int):=⟨mo.toNat,by omega⟩
  have hM:1<=M/\M<=150:=by omega
  obtain⟨g1,g2,g3,g4⟩:=Sta.fault_fits hgood
  have i1: ¬(150:Int)<M:=by omega
  have i2: ¬(M:Int)<1:=by omega
  have i3: ¬(60000:Int)<M:=by omega
  clear hm hbd
  go_wp2_with fail
  refine(HS.out w3).mono ?_
  rintro e w4 ⟨rfl,hb4⟩
  have B4:=below_step B3 hb4
  replace e0:=keep_cell hb4 e0
  replace e1:=keep_cell hb4 e1
  replace e2:=keep_cell hb4 e2
  have HA4:=hide (HA.out w4 B4 hgood (by omega))
  clear HA HB HU HS hb4 B3
  go_wp2_with fail
  refine HA4.out.mono ?_
  rintro e w5 hp
  obtain⟨hb5,f,S,hres⟩:=hp.out
  have B5:=below_step B4 hb5
  replace e0:=keep_cell hb5 e0
  replace e1:=keep_cell hb5 e1
  replace e2:=keep_cell hb5 e2
  have hlt5:w.heap.size<w5.heap.size:=bLt e0
  have hR:Right cs:=HRt.out hgood
  clear HA4 hp hb5
  rcases hres with⟨h1,h2,rfl⟩ |⟨h1,rfl⟩ |⟨x,l,h1,h2,h3,v,rfl,hv⟩
  · -- no fault
   have hS:1<=S.s:=search_pos hM.1 h1 (by simp)
   have s0b:(S.s==0)=false:=beq_eq_false_iff_ne.2 (by omega)
   have HH:=hide (fun q hq hf=>walk_same (q:=q) hR hgood hM h1 (fun _=>h2) hq hf)
   clear h1 h2 hS
   obtain⟨W5,hW5,c5,t0,t1,t2,t3⟩:=told_new w5 (.int .i64 S.s) (.int .i64 S.e) (.bool false) (.slice none 0 0)
   have B5':=below_step B5 c5
   have HSF5:=HSF.out W5 B5'
   rw[hgood,hf2] at HSF5
   rw[show((0:Nat):Int)=0 from rfl] at HSF5
   have HSFh:=hide HSF5
   have HB5:=hide B5'
   have hc5:=hide c5
   clear B4 B5 B5' c5 HSF HSF5 h5 hf2 HFT
   unfold toldV
   go_wp2_with fail
   rw[<-hW5]
   clear hW5
   refine HSFh.out.mono ?_
   rintro e w6 ⟨rfl,hb6⟩
   replace t0:=keep_cell hb6 t0
   replace t1:=keep_cell hb6 t1
   replace t2:=keep_cell hb6 t2
   replace t3:=keep_cell hb6 t3
   have hlt6:w5.heap.size<w6.heap.size:=bLt t0
   have hlw6:w.heap.size<w6.heap.size:=by omega
   replace e0:=keep_cell hb6 (keep_cell hc5.out e0)
   replace e1:=keep_cell hb6 (keep_cell hc5.out e1)
   replace e2:=keep_cell hb6 (keep_cell hc5.out e2)
   obtain⟨W7,hW7,b7⟩:=fault_new w6 (.int .i64 0) (.int .i64 f2)
   have b67:Below W5.heap.size W5 W7:=hb6.trans (b7.mono hb6.size)
   have B7:=below_step HB5.out b67
   have HW7:=hide (HW.out W7 B7 g4 g2 hR g1 (Sta.mach_ok g1 g2 g3) M hM)
   have HB7:=hide B7
   have hb67:=hide b7
   have hb57:Hid (Below w5.heap.size w5 W7):=hc5.out.trans (b67.mono hc5.out.size)
   clear HSFh hb6 HB5 b7 b67 B7 HW hc5
   go_wp2_with fail
   rw[<-hW7]
   clear hW7
   replace t0:=keep_cell hb67.out t0
   replace t1:=keep_cell hb67.out t1
   replace t2:=keep_cell hb67.out t2
   replace t3:=keep_cell hb67.out t3
   refine HW7.out.mono ?_
   rintro e w8 hp
   obtain⟨hb8,T,hres⟩:=hp.out
   replace t0:=keep_cell hb8 t0
   replace t1:=keep_cell hb8 t1
   replace t2:=keep_cell hb8 t2
   replace t3:=keep_cell hb8 t3
   have hlt8:w5.heap.size<w8.heap.size:=bLt t0
   have HBW:=hide (below_step b1 (below_step HB7.out hb8))
   have hb78:=hide hb8
   clear HW7 hp hb8 e0 e1 e2 HB7 hb67
   rcases hres with⟨hq,rfl⟩ |⟨hq,rfl⟩ |⟨wy,u,hq,hu,rfl⟩
   rotate_left
   ·exact absurd (HH.out _ hq (by simp)) (fun h=>h)
   ·exact absurd (HH.out _ hq (by simp)) (fun h=>h)
   obtain⟨q1,q2⟩:=HH.out _ hq (by simp)
   rw[q1] at t0
   rw[q2] at t1
   have HSI:=hide (fun w'=>sameints_any (ad:=none) (bd:=none) (xs:=[]) (ys:=[]) (cp:=0) (cq:=0) (w:=w') (Nat.zero_le _) (fun i x hx=>by simp at hx) (fun i x hx=>by simp at hx))
   have HB9:=hide (HBW.out.alloc HBW.out.size (.cells #[.int .i64 T.L.length, .int .i64 T.e, .bool false, .slice none 0 0] 69))
   clear HH hq q1 q2 HEnv HRt hgood HBW hb57 hb78
   go_wp2_with fail
   refine(HSI.out _).mono ?_
   rintro e w9 ⟨rfl,hb9⟩
   have HBZ:=hide (below_step HB9.out hb9)
   clear HSI HB9 hb9
   go_wp2
   go_ret
   exact⟨rfl,HBZ.out⟩
  · -- too many states
   have HH:=hide (fun q hq hf=>walk_same (q:=q) hR hgood hM h1 (fun e=>by cases e) hq hf)
   have HC:=hide (fun w' (hb:Below w1.heap.size w1 w')=>coded_err a 2 (by decide) 2 w' (HEnv.out w' hb))
   have HB15:=hide B5
   clear h1
   obtain⟨W5,hW5,c5,t0,t1,t2,t3⟩:=told_new w5 (.int .i64 0) (.int .i64 0) (.bool false) (.slice none 0 0)
   have B5':=below_step B5 c5
   have HSF5:=HSF.out W5 B5'
   rw[hgood,hf2] at HSF5
   rw[show((0:Nat):Int)=0 from rfl] at HSF5
   have HSFh:=hide HSF5
   have HB5:=hide B5'
   have hc5:=hide c5
   clear B4 B5 B5' c5 HSF HSF5 h5 hf2 HFT
   unfold toldV
   go_wp2_with fail
   rw[<-hW5]
   clear hW5
   refine HSFh.out.mono ?_
   rintro e w6 ⟨rfl,hb6⟩
   replace t0:=keep_cell hb6 t0
   replace t1:=keep_cell hb6 t1
   replace t2:=keep_cell hb6 t2
   replace t3:=keep_cell hb6 t3
   have hlt6:w5.heap.size<w6.heap.size:=bLt t0
   have hlw6:w.heap.size<w6.heap.size:=by omega
   replace e0:=keep_cell hb6 (keep_cell hc5.out e0)
   replace e1:=keep_cell hb6 (keep_cell hc5.out e1)
   replace e2:=keep_cell hb6 (keep_cell hc5.out e2)
   obtain⟨W7,hW7,b7⟩:=fault_new w6 (.int .i64 0) (.int .i64 f2)
   have b67:Below W5.heap.size W5 W7:=hb6.trans (b7.mono hb6.size)
   have B7:=below_step HB5.out b67
   have HW7:=hide (HW.out W7 B7 g4 g2 hR g1 (Sta.mach_ok g1 g2 g3) M hM)
   have HB7:=hide B7
   have hb67:=hide b7
   have hb57:Hid (Below w5.heap.size w5 W7):=hc5.out.trans (b67.mono hc5.out.size)
   clear HSFh hb6 HB5 b7 b67 B7 HW hc5
   go_wp2_with fail
   rw[<-hW7]
   clear hW7
   replace t0:=keep_cell hb67.out t0
   replace t1:=keep_cell hb67.out t1
   replace t2:=keep_cell hb67.out t2
   replace t3:=keep_cell hb67.out t3
   refine HW7.out.mono ?_
   rintro e w8 hp
   obtain⟨hb8,T,hres⟩:=hp.out
   replace t0:=keep_cell hb8 t0
   replace t1:=keep_cell hb8 t1
   replace t2:=keep_cell hb8 t2
   replace t3:=keep_cell hb8 t3
   have hlt8:w5.heap.size<w8.heap.size:=bLt t0
   have HBW:=hide (below_step b1 (below_step HB7.out hb8))
   have hb78:=hide hb8
   clear HW7 hp hb8 e0 e1 e2 HB7 hb67
   rcases hres with⟨hq,rfl⟩ |⟨hq,rfl⟩ |⟨wy,u,hq,hu,rfl⟩
   ·exact absurd (HH.out _ hq (by simp)) (fun h=>h)
   rotate_left
   ·exact absurd (HH.out _ hq (by simp)) (fun h=>h)
   have HB9:=hide (HBW.out.alloc HBW.out.size (.cells #[.int .i64 0, .int .i64 0, .bool false, .slice none 0 0] 69))
   have hB19:=hide (((hb57.out.trans (hb78.out.mono hb57.out.size)).mono nL).alloc (hb57.out.trans (hb78.out.mono hb57.out.size)).size (.cells #[.int .i64 0, .int .i64 0, .bool false, .slice none 0 0] 69))
   have HC9:Hid (Calls Tryz.prog 23 #[errAt (a 1), .int .i64 2] (w8.alloc (.cells #[.int .i64 0, .int .i64 0, .bool false, .slice none 0 0] 69)) fun ev w''=>ev= .returned (.bool true)/\Below (w8.alloc (.cells #[.int .i64 0, .int .i64 0, .bool false, .slice none 0 0] 69)).heap.size (w8.alloc (.cells #[.int .i64 0, .int .i64 0, .bool false, .slice none 0 0] 69)) w''):=HC.out _ (below_step HB15.out hB19.out)
   clear HH hq HEnv HRt hgood HBW hb57 hb78 HC hB19 HB15
   go_wp2_with fail
   refine HC9.out.mono ?_
   rintro e w9 ⟨rfl,hb9⟩
   have HBZ:=hide (below_step HB9.out hb9)
   clear HC9 HB9 hb9
   go_wp2
   go_ret
   exact⟨rfl,HBZ.out⟩
  · -- a fault
   have hS:1<=S.s:=search_pos hM.1 h1 (by simp)
   have s0b:(S.s==0)=false:=beq_eq_false_iff_ne.2 (by omega)
   have HH:=hide (fun q hq hf=>walk_same (q:=q) hR hgood hM h1 (fun e=>by cases e) hq hf)
   have HBk:=hide h2
   have q4:=back_len hR hgood hM h1 h2
   obtain⟨av,cv,rfl,hnv⟩:=numsOwn_open hv (by rw[List.length_reverse];exact h3)
   have HNV:=hide hnv
   rw[List.length_reverse]
   have hl0:=h3
   clear h1 h2 hS hv h3 hnv
   obtain⟨W5,hW5,c5,t0,t1,t2,t3⟩:=told_new w5 (.int .i64 S.s) (.int .i64 S.e) (.bool true) (.slice (some av) l.length cv)
   have B5':=below_step B5 c5
   have HSF5:=HSF.out W5 B5'
   rw[hgood,hf2] at HSF5
   rw[show((0:Nat):Int)=0 from rfl] at HSF5
   have HSFh:=hide HSF5
   have HB5:=hide B5'
   have hc5:=hide c5
   clear B4 B5 B5' c5 HSF HSF5 h5 hf2 HFT
   unfold toldV
   go_wp2_with fail
   rw[<-hW5]
   clear hW5
   refine HSFh.out.mono ?_
   rintro e w6 ⟨rfl,hb6⟩
   replace t0:=keep_cell hb6 t0
   replace t1:=keep_cell hb6 t1
   replace t2:=keep_cell hb6 t2
   replace t3:=keep_cell hb6 t3
   have hlt6:w5.heap.size<w6.heap.size:=bLt t0
   have hlw6:w.heap.size<w6.heap.size:=by omega
   replace e0:=keep_cell hb6 (keep_cell hc5.out e0)
   replace e1:=keep_cell hb6 (keep_cell hc5.out e1)
   replace e2:=keep_cell hb6 (keep_cell hc5.out e2)
   obtain⟨W7,hW7,b7⟩:=fault_new w6 (.int .i64 0) (.int .i64 f2)
   have b67:Below W5.heap.size W5 W7:=hb6.trans (b7.mono hb6.size)
   have B7:=below_step HB5.out b67
   have HW7:=hide (HW.out W7 B7 g4 g2 hR g1 (Sta.mach_ok g1 g2 g3) M hM)
   have HB7:=hide B7
   have hb67:=hide b7
   have hb57:Hid (Below w5.heap.size w5 W7):=hc5.out.trans (b67.mono hc5.out.size)
   clear HSFh hb6 HB5 b7 b67 B7 HW hc5
   go_wp2_with fail
   rw[<-hW7]
   clear hW7
   replace t0:=keep_cell hb67.out t0
   replace t1:=keep_cell hb67.out t1
   replace t2:=keep_cell hb67.out t2
   replace t3:=keep_cell hb67.out t3
   refine HW7.out.mono ?_
   rintro e w8 hp
   obtain⟨hb8,T,hres⟩:=hp.out
   replace t0:=keep_cell hb8 t0
   replace t1:=keep_cell hb8 t1
   replace t2:=keep_cell hb8 t2
   replace t3:=keep_cell hb8 t3
   have hlt8:w5.heap.size<w8.heap.size:=bLt t0
   have HBW:=hide (below_step b1 (below_step HB7.out hb8))
   have hb78:=hide hb8
   clear HW7 hp hb8 e0 e1 e2 HB7 hb67
   rcases hres with⟨hq,rfl⟩ |⟨hq,rfl⟩ |⟨wy,u,hq,hu,rfl⟩
   ·exact absurd (HH.out _ hq (by simp)) (fun h=>h)
   ·exact absurd (HH.out _ hq (by simp)) (fun h=>h)
   obtain⟨q1,q2,q3⟩:=HH.out _ hq (by simp)
   obtain rfl:=q3 _ HBk.out
   rw[q1] at t0
   rw[q2] at t1
   obtain⟨ub,uc,rfl,hnu⟩:=numsOwn_open hu (by rw[List.length_reverse];exact hl0)
   rw[List.length_reverse]
   have hb9:Below w8.heap.size w8 (w8.alloc (.cells #[.int .i64 T.L.length, .int .i64 T.e, .bool true, .slice (some ub) l.length uc] 69)):=bRf.alloc nL _
   have hnv9:numsAt (some av) l.reverse (w8.alloc (.cells #[.int .i64 T.L.length, .int .i64 T.e, .bool true, .slice (some ub) l.length uc] 69)):=((HNV.out.below hb57.out).below hb78.out).below hb9
   have HSI:=sameints_any (xs:=l.reverse) (ys:=l.reverse) (cp:=cv) (cq:=uc) (by rw[List.length_reverse];exact q4) hnv9 (hnu.below hb9)
   rw[List.length_reverse,decide_eq_true rfl] at HSI
   have HSh:=hide HSI
   have HB9:=hide (HBW.out.alloc HBW.out.size (.cells #[.int .i64 T.L.length, .int .i64 T.e, .bool true, .slice (some ub) l.length uc] 69))
   clear HH hq q1 q2 q3 HEnv HRt hgood HBW hb57 hb78 HBk HNV hu hnu hb9 hnv9 HSI
   go_wp2_with fail
   refine HSh.out.mono ?_
   rintro e w9 ⟨rfl,hb9⟩
   have HBZ:=hide (below_step HB9.out hb9)
   clear HSh HB9 hb9
   go_wp2
   go_ret
   exact⟨rfl,HBZ.out⟩
end
section
open Go.ChangeShapes Go.WideShapes Go.ChangeAt Go.RowKit Go.Joins Go.Deep
theorem wall_laid:Rows.walkAllRow.laid=laidAll:=rfl
theorem cells_StartW:Tryz.prog.cellsOf 24=3:=by kernel_rfl
theorem readableW3: ∀t∈[24,25,3],Tryz.prog.readableRec t=true/\t<Tryz.prog.types.size:=by
 intro t ht
 simp only[List.mem_cons,List.not_mem_nil,or_false] at ht
 rcases ht with rfl |rfl |rfl
 ·exact⟨by kernel_rfl,of_decide_eq_true (by kernel_rfl)⟩
 ·exact⟨by kernel_rfl,of_decide_eq_true (by kernel_rfl)⟩
 ·exact⟨by kernel_rfl,of_decide_eq_true (by kernel_rfl)⟩
theorem wall_lifted (os:Os) (started:os.Started) (H:Type) (enc:TypeId×Value->H):
  ReturnsInHanded {} Tryz.checked os 6 .any (fun w args=>(Rows.walkAllSpec.pre enc Tryz.prog Tryz.f6 [] false w args/\laidMetH Tryz.prog Rows.walkAllRow.laid w)/\sizedMet enc Tryz.prog Tryz.f6 (OpenSpec.ofChange Rows.walkAllSpec) false w args)
   (Rows.walkAllSpec.post enc Tryz.prog Tryz.f6 false true false false):=by
 rw[wall_laid]
 refine returnsInHanded_of_change_and (C:=Tryz.checked) (X:=fun w _=>laidMetH Tryz.prog laidAll w) (fun _ _ _ hh h=>h.of_heap hh) own started (by kernel_rfl) Tryz.func6
  (ChangeSpec.witness_shaped (enc:=enc) (C:=Tryz.checked) (os:=os) (X:=fun w _=>laidMetH Tryz.prog laidAll w) false (World.doorLaid Tryz.prog 400 os) #[.agg #[.int .i64 0, .slice none 0 0, .slice none 0 0], .slice none 0 0, .int .i64 0] 8 rfl (World.shaped_of_RefB (by kernel_rfl) (by kernel_rfl)) (by kernel_rfl) (by kernel_rfl) (by kernel_rfl) (door_met os _)) ?_
 intro W base args ds gs before hval0 hW _ _ hL _
 have hval: ∀(j:Nat) t v,Tryz.f6.params[j]? =some t->args[j]? =some v->Value.okWide Tryz.prog W .any base t v:=hval0
 have hW':=hW
 obtain⟨p,q,hA0,hV,rfl,hfz,hnd⟩:=hW
 have hA:DataW.TrodAll enc Tryz.prog W 0 (fun _=>true) true Tryz.f6.params.toList args.toList ds p:=hA0
 rw[Tryz.params6] at hA hval
 have hA2:=hA
 obtain⟨v0,v1,v2,d0,d1,d2,p0,p1,p2,rfl,rfl,rfl,h0,h1,h2⟩:=trodAll_three hA
 obtain⟨rfl,rfl⟩:=trodVars_none hV
 obtain⟨c0,c1,c2,y0,y1,y2,n,rfl, -, -,k0,k1,k2⟩:=open_agg3 Tryz.underlying24 (by kernel_rfl) cells_StartW (hval 0 24 v0 rfl rfl) h0
 obtain⟨cells,e0⟩:=kint_of_trod k0
 obtain⟨ai,ci,R1,e1,r1,l1,m1,n1⟩:=rows_of_trod k1
 obtain⟨ar,cr,R2,e2,r2,l2,m2,n2⟩:=rows_of_trod k2
 obtain rfl:c0= .int .i64 cells:=by simpa using e0
 obtain rfl:c1= .slice ai R1.length ci:=by simpa using e1
 obtain rfl:c2= .slice ar R2.length cr:=by simpa using e2
 obtain⟨s1,sl1,sc1,rfl⟩:=okWide_slice Tryz.underlying25 (hval 1 25 v1 rfl rfl)
 obtain⟨f1,hf1⟩:=h1
 obtain⟨ad,cap,cl,q1,hcodes,hcl,hcL,hcs⟩:=codes_of_trod hf1
 obtain⟨rfl,rfl,rfl⟩:s1=ad/\sl1=cl.length/\sc1=cap:=by simpa [Value.cells] using q1
 obtain⟨n3,rfl⟩:=okWide_int Tryz.underlying3 (hval 2 3 v2 rfl rfl)
 obtain⟨a,hE⟩:=env_of_laid hL
 clear hA0 hval0
 simp only[List.append_nil] at hW'
 refine(wall_any (s:=⟨cells,R1,R2⟩) (mo:=n3) hE ⟨r1,r2,l1,l2,m1,m2,n1,n2⟩ hcodes hcs hcl hcL).mono fun e W' ⟨he,hb⟩=>?_
 subst he
 refine⟨_,rfl,_,_,_,[],p0++p1++p2,[],hW',?_,?_,?_,hb.frame _,fun h=>by cases h⟩
 ·exact trodAll_mk1 (shut_bool Tryz.underlying4 true)
 ·exact trodAll_below laidOutA hb _ _ _ _ readableW3 hA2
 ·rfl
theorem wall_holds:Rows.WalkAllSaid:=
 OpenClaim.holds_of_wide 6 Tryz.f6 rfl rfl rfl rfl rfl rfl rfl ⟨rfl,rfl,rfl,rfl,rfl⟩ rfl rfl rfl rfl rfl (by kernel_rfl) Tryz.func6 (by kernel_rfl)
  (of_decide_eq_true (by kernel_rfl)) (by unfold Func.isWrapper;rw[if_neg (of_decide_eq_false (by kernel_rfl))];exact⟨rfl,rfl⟩)
  (fun os started H enc _=>wall_lifted os started H enc)
theorem wall_card:Rows.WalkAllCardSaid:=
 Claim7.holds_tied_plain_at .later [] [.handle, .sentinel, .sentinel, .sentinel, .sentinel, .sentinel, .sentinel, .sentinel, .sentinel, .sentinel] true (true,"9501355f2512123a200bd46b8cb668dc711361411f025ac1153121af49a39831") true
  wall_holds (fun _ h=>absurd h List.not_mem_nil) (by kernel_rfl) (fun _ h=>absurd h List.not_mem_nil) walkAll_row_tie rfl ⟨rfl,rfl⟩ (by kernel_rfl) rfl
  (fun f fn hf hfn=>by
    obtain rfl:f=6:=(Option.some.inj ((show Tryz.prog.funcNamed "quiescent/quiescentlaw1.WalkAll" =some 6 by kernel_rfl).symm.trans hf)).symm
    obtain rfl:fn=Tryz.f6:=(Option.some.inj (Tryz.func6.symm.trans hfn)).symm
    exact ⟨by kernel_rfl,fun j t ht=>by
     rw[Tryz.params6] at ht
     rcases j with _ |_ |_ |j
     ·obtain rfl:t=24:=by simpa using ht.symm
      exact(show Tryz.prog.wantsStandIn 24=false by kernel_rfl)
     ·obtain rfl:t=25:=by simpa using ht.symm
      exact(show Tryz.prog.wantsStandIn 25=false by kernel_rfl)
     ·obtain rfl:t=3:=by simpa using ht.symm
      exact(show Tryz.prog.wantsStandIn 3=false by kernel_rfl)
     ·simp at ht⟩)
  (by kernel_rfl)
#print axioms wall_card
end
end Go.Proofs.YtdpmnlbnlnmjbaaGreatDoor
