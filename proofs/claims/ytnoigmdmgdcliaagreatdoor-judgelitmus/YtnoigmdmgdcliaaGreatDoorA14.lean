import Derived.Test.YtnoigmdmgdcliaaGreatDoorA13
import Derived.Maps.AppendAt
import Derived.Test.YtnoigmdmgdcliaaGreatDoorA03
namespace Go.Proofs.YtnoigmdmgdcliaaGreatDoor
set_option maxRecDepth 100000
set_option maxHeartbeats 8000000
section
open Go.RowKit Go.Extern.Stop Go.Stop Go.Extern Go.Maps Go.WideMaps
variable {cs:List (List Ins)} {a:Nat->Addr}
theorem markInfo: ∃i,Tryz.prog.info? 246=some i/\i.zero=some (.agg #[.int .i64 0, .int .i64 0])/\i.size=2/\i.bytes=16:=info_parts (by kernel_rfl)
theorem MkAt.marked {p:MkPl} {m:Mk} {w w6:World} (h:MkAt a cs p m w) (v:Value) (l:List (Nat×Int)) 
  (hown:w6.ownsRow 0 246 2 v l.length (markCells l)) (hT:Turns (fun k _=>p.mv.ownBlock=some k) w w6) (hk: ∀k,v.ownBlock=some k->p.mv.ownBlock=some k∨w.heap.size<=k):
  MkStep a cs p w v { m with marks:=l } (w6.setCell ⟨p.b,639,none⟩ v):=by
 have nb: ∀o:Nat, ¬(fun k (_:Nat)=>p.mv.ownBlock=some k) p.b o:=fun _ e=>(h.ne _ e).1 rfl
 have nv: ∀k,v.ownBlock=some k->k≠p.b/\p.B<=k:=fun k e=>by
  rcases hk k e with e |e
  ·exact h.ne k e
  ·have:=h.lt;have:=h.pg.size;exact⟨by omega,by omega⟩
 have T:Turns (fun k o=>k=p.b/\o=639) w6 (w6.setCell ⟨p.b,639,none⟩ v):=(Turns.refl _ _).setCell _ ⟨rfl,rfl⟩
 have fz: ∀o,584<=o->o<641->(w6.setCell ⟨p.b,639,none⟩ v).frozen? ⟨p.b,o,none⟩=false:=fun o h1 h2=>by rw[World.frozen?_setCell,hT.frozen _ _ h.lt (nb o)];exact h.frozen o h1 h2
 have hm1:MmAt p.b m.mem w6:=h.mem.turns hT (fun o _ e=>nb o e)
 refine ⟨⟨(h.pg.turns hT (fun k _ e=>(h.ne k e).2)).turns T (fun k _ e=>by rw[e.1];exact h.hB),hm1.turns T (fun o ho e=>by have:=e.2;omega),h.thr,cell_ne (hT.keep h.prog (nb 584)) (Or.inr (by omega)),
   fun i k hi hk=>cell_ne (hT.keep (h.reg i k hi hk) (nb (585+i*9+k))) (Or.inr (by omega)),fun i hi=>cell_ne (hT.keep (h.pc i hi) (nb (585+i*9+8))) (Or.inr (by omega)),World.cell?_setCell_same _ _ _ (hT.keep h.marks (nb 639)),
   ownsRow_block hown fun k hk=>Below.heap_setCell _ _ _ _ (nv k hk).1,
   cell_ne (hT.keep h.faults (nb 640)) (Or.inr (by omega)),fz,nv,h.hB⟩,?_,hk⟩
 exact(hT.mono fun k _ _ e=>Or.inr e).setCell _ (Or.inl rfl)
theorem kmark_any {p:MkPl} {m:Mk} (t:Nat) (v:Int) {w:World} (h:MkAt a cs p m w) (h5:m.marks.length<=500):
  Calls Tryz.prog 219 #[.pointer (some ⟨p.b,0,none⟩), .int .i64 t, .int .i64 v] w fun e w'=>e= .returned (.tuple #[])/\ ∃u,MkStep a cs p w u (m.mark t v) w':=by
 have hm:=h.marks
 obtain⟨ad,cap,hvs,hcl,hcm, -⟩:=ownsRow_shape h.own
 have hv:=h.own
 rw[hvs] at hm hv
 unfold Mk.mark
 by_cases hl:m.marks.length<500
 ·rw [if_pos hl]
  have hi:(m.marks.length:Int)<500:=by omega
  obtain⟨ri,hri,hrz,hrs,hrb⟩:=markInfo
  have hz:=h.frozen 639 (by decide) (by decide)
  have lb:=h.lt
  have ob:(Value.slice ad m.marks.length cap).ownBlock≠some p.b:=fun e=>(h.ne _ (by rw[hvs];exact e)).1 rfl
  have HV:=hide hvs
  have H:=hide h
  clear h hvs hcm hcl h5
  go_enter Tryz.func219,Tryz.ntmps219
  go_wp2_with (first
   |(at_builtin;refine wpList_append_own_at _ rfl _ _ 136 rfl 0 246 ri (.agg #[.int .i64 0, .int .i64 0]) 2 16 Tryz.underlying136 hri hrz hrs hrb rfl (by decide) _ _ _ rfl (hv.alloc _) ⟨w.heap.size,0,none⟩ 1 1 [.int .i64 t, .int .i64 v] rfl rfl ?c1 ?c2 ?c3 ?c4 ?c5 ?_))
  case c1=>exact World.news_of_block (cs:=#[.int .i64 t, .int .i64 v]) (t:=246) (fr:=(0,0)) (heap_alloc_new w _)
  case c2=>intro u hu;simp at hu;rcases hu with rfl |rfl <;> rfl
  case c3=>unfold maxLen;omega
  case c4=>omega
  case c5=>simp
  intro v' w6 hown6 hgrow6 hnil6 hloc6
  obtain ⟨ad6,cap6,rfl⟩: ∃ad6 cap6,v'=Value.slice ad6 (m.marks.length+1) cap6:=by
   obtain⟨g,c,e,_⟩:=ownsRow_shape hown6
   exact⟨g,c,e⟩
  have hg: ∀b,b<w.heap.size->(Value.slice ad m.marks.length cap).ownBlock≠some b->w6.heap[b]? =w.heap[b]? :=fun b hb hne=>by
   rw[hgrow6.block b (by simp;omega) (Ne.symm hne)]
   exact Below.heap_alloc _ _ _ hb
  have HT:Turns (fun k _=>p.mv.ownBlock=some k) w w6:=⟨hgrow6.os,hgrow6.tape,hgrow6.output,Nat.le_trans (by simp) hgrow6.size,fun k hk ho=>hg k hk (fun e=>ho 0 (by rw[HV.out];exact e)),
   fun k o hk ho=>World.cell?_of_block (hg k hk (fun e=>ho (by rw[HV.out];exact e))),fun k o hk ho=>World.frozen?_of_block (hg k hk (fun e=>ho (by rw[HV.out];exact e)))⟩
  have HS:=hide (H.out.marked (.slice ad6 (m.marks.length+1) cap6) (m.marks++[(t,v)]) (by rw[markCells_append,List.length_append];exact hown6) HT (fun k e=>by
   rcases hloc6 with e2 |e2
   ·left;rw[HV.out, <-e2];exact e
   ·right;rw[e2] at e;simp at e;omega))
  have hm6:w6.cell? ⟨p.b,639,none⟩=some (.slice ad m.marks.length cap):=by rw[World.cell?_of_block (hg p.b lb ob)];exact hm
  have hz6:w6.frozen? ⟨p.b,639,none⟩=false:=by rw[World.frozen?_of_block (hg p.b lb ob)];exact hz
  clear hown6 hgrow6 hnil6 hloc6 hg HT H HV hri hrz hrs hrb hv hm hz ob
  go_wp2
  go_end0
  exact⟨rfl,_,HS.out⟩
 ·rw[if_neg hl]
  have hi: ¬(m.marks.length:Int)<500:=by omega
  have HS:=hide (MkStep.refl h)
  clear h hl h5 hv hvs
  go_enter Tryz.func219,Tryz.ntmps219
  go_wp2
  go_end0
  exact⟨rfl,_,HS.out⟩
end
section
open Go.RowKit Go.Extern.Stop Go.Stop Go.Extern Go.Maps Go.WideMaps Go.Sort
variable {a:Nat->Addr} {cs:List (List Ins)} {w:World} {m:Mk} {p:MkPl} {t:Nat} {l:List Wt}
theorem nil_neq(b:Addr)(w:World):(binOp .eql 27 .nilIface (errAt b)).run Tryz.prog w= .ok (.bool false) w:=by kernel_rfl
theorem is_nil(b:Addr)(w:World):
  Calls Tryz.prog 46 #[.nilIface,errAt b] w fun e w'=>e= .returned (.bool false)/\w'=w:=by
 have hq:=nil_neq b
 go_enter Tryz.func46,Tryz.ntmps46
 go_wp2
 go_ret
 exact⟨rfl,rfl⟩
theorem Env.is_err(h:Env a w){i j:Nat}(hi:okI i)(hj:okI j)(hne:i≠j):
  Calls Tryz.prog 46 #[errAt (a i),errAt (a j)] w fun e w'=>e= .returned (.bool false)/\w'=w:=by
 obtain⟨c,t,h1⟩:=h.row i hi
 obtain⟨c',t',h2⟩:=h.row j hj
 exact is_other (a i) (a j) c c' t t' w (h.ne i j hi hj hne) h1 h2
theorem MkAt.env(h:MkAt a cs p m w):Env a w:=h.pg.pg.env
theorem kdrain_no{t:Int}(ht: ¬(0<=t/\t<cs.length))(h:MkAt a cs p m w):
  Calls Tryz.prog 94 #[.pointer (some ⟨p.b,0,none⟩), .int .i64 t] w fun e w'=>e= .returned (errAt (a 1))/\w'=w:=by
 have HD:=hide (mdrain_no a p.b m.mem t w h.env.toM h.mem (by rw[h.thr];exact ht))
 have c6:w.cell? ⟨7,0,none⟩=some (errAt (a 6)):=h.env.cell 6 (by decide)
 have HI:=hide (h.env.is_err (i:=1) (j:=6) (by decide) (by decide) (by decide))
 clear h ht
 go_enter Tryz.func94,Tryz.ntmps94
 go_wp2_with fail
 refine HD.out.mono ?_
 rintro e w1 ⟨rfl,rfl⟩
 clear HD
 go_wp2_with fail
 refine HI.out.mono ?_
 rintro e w2 ⟨rfl,rfl⟩
 go_wp2
 go_ret
 exact⟨rfl,rfl⟩
theorem kdrain_none(ht:t<cs.length)(h:MkAt a cs p m w)(he:m.mem.waits t=[]):
  Calls Tryz.prog 94 #[.pointer (some ⟨p.b,0,none⟩), .int .i64 t] w fun e w'=>e= .returned (errAt (a 4))/\w'=w:=by
 have HD:=hide (mdrain_none a p.b m.mem t w h.env.toM h.mem (by rw[h.thr];exact ht) he)
 have c6:w.cell? ⟨7,0,none⟩=some (errAt (a 6)):=h.env.cell 6 (by decide)
 have HI:=hide (h.env.is_err (i:=4) (j:=6) (by decide) (by decide) (by decide))
 clear h ht he
 go_enter Tryz.func94,Tryz.ntmps94
 go_wp2_with fail
 refine HD.out.mono ?_
 rintro e w1 ⟨rfl,rfl⟩
 clear HD
 go_wp2_with fail
 refine HI.out.mono ?_
 rintro e w2 ⟨rfl,rfl⟩
 go_wp2
 go_ret
 exact⟨rfl,rfl⟩
theorem Mk.drain1_cons{x:Wt}(he:m.mem.waits t=x::l):m.drain1 t=(m.setMem (m.mem.drained t x l)).addFault (if m.mem.ar.has x.c x.g=true then 0 else 1):=by
 unfold Mk.drain1
 rw[he]
 rfl
theorem kdrain_some{x:Wt}(ht:t<cs.length)(h:MkAt a cs p m w)(he:m.mem.waits t=x::l)(hx:x.Ok)(hf:m.faults<=1000000000):
  Calls Tryz.prog 94 #[.pointer (some ⟨p.b,0,none⟩), .int .i64 t] w fun e w'=>e= .returned .nilIface/\MkStep a cs p w p.mv (m.drain1 t) w':=by
 have hD:=mdrain_some a p.B p.b m.mem t x l w h.pg.envB h.hB h.mem (by rw[h.thr];exact ht) he hx
 have HS:Hid (∀w',MmStep p.b w (m.mem.drained t x l) w'->MkStep a cs p w p.mv (m.setMem (m.mem.drained t x l)) w'):=fun w' k=>h.ofMem k (Rm.drained_threads _ _ _ _)
 rw[Mk.drain1_cons he]
 have hfa:((m.setMem (m.mem.drained t x l)).faults:Int)=m.faults:=rfl
 cases hh:m.mem.ar.has x.c x.g
 ·rw[hh] at hD
  rw[show((if false=true then 0 else 1):Nat)=1 from rfl]
  replace hD:Calls Tryz.prog 169 #[.pointer (some ⟨p.b,0,none⟩), .int .i64 t] w fun e w'=>e= .returned (errAt (a 6))/\MmStep p.b w (m.mem.drained t x l) w':=hD
  have HD:=hide hD
  have hn: ¬(9223372036854775807:Int)<(m.faults:Int)+1:=by omega
  clear hD h he hh hx
  generalize m.setMem (m.mem.drained t x l)=m' at*
  go_enter Tryz.func94,Tryz.ntmps94
  go_wp2_with fail
  refine HD.out.mono ?_
  rintro e w1 ⟨rfl,h1⟩
  have H1:=hide (HS.out _ h1)
  clear HD HS h1
  have h1:=H1.out.at'
  have c6:w1.cell? ⟨7,0,none⟩=some (errAt (a 6)):=h1.env.cell 6 (by decide)
  have hc:w1.cell? ⟨p.b,640,none⟩=some (.int .i64 m'.faults):=h1.faults
  have hz:w1.frozen? ⟨p.b,640,none⟩=false:=h1.frozen 640 (by decide) (by decide)
  have HF:=hide (H1.out.trans h1.fault1)
  rw[hfa] at hc
  have HE:Hid ((m'.faults:Int)=m.faults):=hfa
  clear h1 hfa
  go_wp2_with fail
  refine(is_same (a 6) _).mono ?_
  rintro e w2 ⟨rfl,rfl⟩
  go_wp2
  go_ret
  have HF2:=HF.out
  rw[HE.out] at HF2
  exact⟨rfl,HF2⟩
 ·rw[hh] at hD
  rw[show((if true=true then 0 else 1):Nat)=0 from rfl]
  replace hD:Calls Tryz.prog 169 #[.pointer (some ⟨p.b,0,none⟩), .int .i64 t] w fun e w'=>e= .returned .nilIface/\MmStep p.b w (m.mem.drained t x l) w':=hD
  have HD:=hide hD
  clear hD h he hh hx hfa
  generalize m.setMem (m.mem.drained t x l)=m' at*
  go_enter Tryz.func94,Tryz.ntmps94
  go_wp2_with fail
  refine HD.out.mono ?_
  rintro e w1 ⟨rfl,h1⟩
  have H1:=hide (HS.out _ h1)
  clear HD HS h1
  have c6:w1.cell? ⟨7,0,none⟩=some (errAt (a 6)):=H1.out.at'.env.cell 6 (by decide)
  go_wp2_with fail
  refine(is_nil (a 6) _).mono ?_
  rintro e w2 ⟨rfl,rfl⟩
  go_wp2
  go_ret
  exact⟨rfl,H1.out⟩
end
section
open Go.RowKit Go.Extern.Stop Go.Stop Go.Extern Go.Maps Go.WideMaps Go.Sort
variable {t:Nat} {m:Mk} {l:List Wt}
theorem Mk.fence_nil(he:m.mem.waits t=[]):m.fence t=m:=by
 unfold Mk.fence
 rw[he]
 rfl
theorem Mk.fence_cons{x:Wt}(he:m.mem.waits t=x::l):(m.drain1 t).fence t=m.fence t:=by
 have e:(m.drain1 t).mem.waits t=l:=by
  unfold Mk.drain1
  rw[he]
  exact Rm.drained_waits _ _ _ _
 unfold Mk.fence
 rw[e,he]
 unfold Mk.drain1
 rw[he]
 simp only[Rm.drainAll,Rm.gone,Nat.add_assoc]
theorem Mk.drain1_waits{x:Wt}(he:m.mem.waits t=x::l):(m.drain1 t).mem.waits t=l:=by
 unfold Mk.drain1
 rw[he]
 exact Rm.drained_waits _ _ _ _
theorem Mk.drain1_threads(m:Mk)(t:Nat):(m.drain1 t).mem.threads=m.mem.threads:=by
 unfold Mk.drain1
 split
 ·rfl
 ·exact Rm.drained_threads _ _ _ _
theorem Mk.drain1_faults(m:Mk)(t:Nat):(m.drain1 t).faults<=m.faults+1:=by
 unfold Mk.drain1
 split
 ·omega
 ·exact Nat.add_le_add_left (ite01 _) _
theorem kfence_any {a:Nat->Addr} {cs:List (List Ins)} {p:MkPl} (ht:t<cs.length) {w:World} (h:MkAt a cs p m w) (hx: ∀x∈m.mem.waits t,x.Ok) (hf:m.faults<=900000000):
  Calls Tryz.prog 241 #[.pointer (some ⟨p.b,0,none⟩), .int .i64 t] w fun e w'=>e= .returned (.tuple #[])/\MkStep a cs p w p.mv (m.fence t) w':=by
 have h6:=h.few
 have t6:(t:Int)<6:=by omega
 have h8:=(h.mem.line t (by rw[h.thr];exact ht)).le
 have HI:Hid (∃m1,MkStep a cs p w p.mv m1 w/\m1.fence t=m.fence t/\(∀x∈m1.mem.waits t,x.Ok)/\m1.faults+(m1.mem.waits t).length<=900000008):=⟨m,MkStep.refl h,rfl,hx,by omega⟩
 generalize m.fence t=D at*
 clear h hx hf h8
 go_enter Tryz.func241,Tryz.ntmps241
 go_wp2_with fail
 go_loopw [4] (fun _ wr=> ∃m1,MkStep a cs p w p.mv m1 wr/\m1.fence t=D/\(∀x∈m1.mem.waits t,x.Ok)/\m1.faults+(m1.mem.waits t).length<=900000008) (fun _ wr=>lineLen p.b t wr)
 case atStart=>exact HI.out
 case round=>
  obtain⟨m1,h1,h2,h3,h4⟩:=hrel
  have H1:=hide h1
  have t1:t<m1.mem.threads:=by rw[h1.at'.thr];exact ht
  have hwt:m1.mem.waiting t=(m1.mem.waits t).length:=by unfold Rm.waiting;rw[if_pos (by omega)];rfl
  have HW:=hide (waiting_any p.b m1.mem t wr h1.at'.mem)
  have hwl:lineLen p.b t wr=(m1.mem.waits t).length:=MmAt.lineLen h1.at'.mem t1
  rw[hwt] at HW
  clear h1 hwt
  cases hws:m1.mem.waits t with
  | nil=>
   rw[hws] at HW
   have HD:Hid (m1=D):=(Mk.fence_nil hws).symm.trans h2
   clear h2 h3 h4 HI hwl
   go_wp2_with fail
   refine HW.out.mono ?_
   rintro e w2 ⟨rfl,rfl⟩
   go_wp2
   go_end0
   exact⟨rfl,by rw[<-HD.out];exact H1.out⟩
  | cons x l=>
   rw[hws] at HW
   have HDr:=hide (kdrain_some ht H1.out.at' hws (h3 x (by rw[hws];exact List.mem_cons_self)) (by omega))
   have HN:Hid (∀w2,MkStep a cs p wr p.mv (m1.drain1 t) w2->(∃m1,MkStep a cs p w p.mv m1 w2/\m1.fence t=D/\(∀x∈m1.mem.waits t,x.Ok)/\m1.faults+(m1.mem.waits t).length<=900000008)/\lineLen p.b t w2<lineLen p.b t wr):=by
    intro w2 hst
    have e:=Mk.drain1_waits hws
    refine⟨⟨m1.drain1 t,H1.out.trans hst,(Mk.fence_cons hws).trans h2,fun y hy=>h3 y ?_,?_⟩,?_⟩
    ·rw[e] at hy;rw[hws];exact List.mem_cons_of_mem _ hy
    ·have:=Mk.drain1_faults m1 t
     rw[e]
     rw[hws,List.length_cons] at h4
     omega
    ·have e2:lineLen p.b t w2=((m1.drain1 t).mem.waits t).length:=(MkAt.mem hst.at').lineLen (by rw[Mk.drain1_threads];exact t1)
     rw[hwl,e2,e,hws,List.length_cons]
     omega
   rw[List.length_cons] at HW
   have l0:(0:Int)<(l.length:Int)+1:=by omega
   clear h2 h3 h4 HI hwl H1
   go_wp2_with fail
   refine HW.out.mono ?_
   rintro e w2 ⟨rfl,rfl⟩
   clear HW
   go_wp2_with fail
   refine HDr.out.mono ?_
   rintro e w3 ⟨rfl,hst⟩
   have HF:=hide (HN.out _ hst)
   clear HN HDr hst
   go_wp2
   go_roundw
   case rel=>exact HF.out.1
   case measure=>exact HF.out.2
end
section
open Go.RowKit Go.Extern.Stop Go.Stop Go.Extern
def Worded(c g:Int):Prop:=0<=c/\c<64/\0<=g/\g*64+c+1<4294967296
theorem word_ok(c g:Int)(w:World)(h:Worded c g):
  Calls Tryz.prog 55 #[.agg #[.int .i64 c, .int .i64 g]] w fun e w'=>e= .returned (.tuple #[.int .i64 (g*64+c+1), .nilIface])/\Below w.heap.size w w':=by
 obtain⟨h0,h1,h2,h3⟩:=h
 have h4: ¬((4294967294 - c) / 64<g):=by omega
 have hg:g<=67108863:=by omega
 have hba:=box_below c g w
 clear h3
 go_enter Tryz.func55,Tryz.ntmps55
 go_wp2
 go_ret2
 exact⟨rfl,hba⟩
theorem ref_zero(a:Nat->Addr)(w:World)(hE:Env a w):
  Calls Tryz.prog 260 #[.int .i64 0] w fun e w'=>e= .returned (.tuple #[.agg #[.int .i64 0, .int .i64 0],errAt (a 4)])/\Below w.heap.size w w':=by
 have hge:5<w.heap.size:=hE.glt (i:=4) (by decide)
 have ke:(w.alloc (.cells #[.int .i64 0, .int .i64 0] 88)).cell? ⟨5,0,none⟩=some (errAt (a 4)):=(hE.below (box_below 0 0 w).block).cell 4 (by decide)
 obtain⟨z0,z1⟩:=box2c w 88 (.int .i64 0) (.int .i64 0)
 have y0:(w.alloc (.cells #[.int .i64 0, .int .i64 0] 88)).frozen? ⟨w.heap.size,0,none⟩=false:=by simp
 have y1:(w.alloc (.cells #[.int .i64 0, .int .i64 0] 88)).frozen? ⟨w.heap.size,1,none⟩=false:=by simp
 have hba:=box_below 0 0 w
 generalize hw:w.alloc (.cells #[.int .i64 0, .int .i64 0] 88)=w1 at*
 go_enter Tryz.func260,Tryz.ntmps260
 go_wp2
 go_region
 go_wp2
 refine bodyPost_ret (v:= .tuple #[.agg #[.int .i64 0, .int .i64 0],errAt (a 4)]) (by simp only[results,Tryz.results260];go_simp) rfl ⟨rfl,?_⟩
 exact((hba.setCell nL _).setCell nL _).drew
theorem ref_ok(n:Int)(w:World)(h1:1<=n)(h2:n<4294967296):
  Calls Tryz.prog 260 #[.int .i64 n] w fun e w'=>e= .returned (.tuple #[.agg #[.int .i64 ((n - 1) % 64), .int .i64 ((n - 1) / 64)], .nilIface])/\Below w.heap.size w w':=by
 have HI:Hid (∀w,Calls Tryz.prog 247 #[.int .i64 n] w fun e w'=>e= .returned (.bool true)/\w'=w):=fun w=>(isWord_any _ w).mono fun _ _ ⟨h3,h4⟩=>⟨by rw[h3,decide_eq_true (by omega)],h4⟩
 have hb:(n==0)=false:=beq_eq_false_iff_ne.2 (by omega)
 obtain⟨z0,z1⟩:=box2c w 88 (.int .i64 0) (.int .i64 0)
 have y0:(w.alloc (.cells #[.int .i64 0, .int .i64 0] 88)).frozen? ⟨w.heap.size,0,none⟩=false:=by simp
 have y1:(w.alloc (.cells #[.int .i64 0, .int .i64 0] 88)).frozen? ⟨w.heap.size,1,none⟩=false:=by simp
 have hba:=box_below 0 0 w
 generalize hw:w.alloc (.cells #[.int .i64 0, .int .i64 0] 88)=w1 at*
 go_enter Tryz.func260,Tryz.ntmps260
 go_wp2_with fail
 refine(HI.out _).mono ?_
 rintro e1 w2 ⟨rfl,rfl⟩
 go_wp2
 refine bodyPost_ret (v:= .tuple #[.agg #[.int .i64 ((n - 1) % 64), .int .i64 ((n - 1) / 64)], .nilIface]) (by simp only[results,Tryz.results260];go_simp) rfl ⟨rfl,?_⟩
 exact(hba.setCell nL _).setCell nL _
end
end Go.Proofs.YtnoigmdmgdcliaaGreatDoor
