import Derived.Test.YtnoigmdmgdcliaaGreatDoorA01
import Derived.Test.YtnoigmdmgdcliaaGreatDoorTie
import Derived.SevenTiedAt
import Derived.Deep.QuietTactic
import Derived.BigQuiet
namespace Go.Proofs.YtnoigmdmgdcliaaGreatDoor
set_option maxRecDepth 100000
set_option maxHeartbeats 8000000
section
open Go.ChangeShapes Go.WideShapes Go.ChangeAt Go.RowKit Go.Joins Go.Deep
def jeightTexts:List (String×List UInt8):=[("quiescent/api.ErrBound",[113,117,105,101,115,99,101,110,116,58,32,98,111,117,110,100]),("quiescent/api.ErrShape",[113,117,105,101,115,99,101,110,116,58,32,115,104,97,112,101]),("quiescent/api.ErrName",[113,117,105,101,115,99,101,110,116,58,32,110,97,109,101]),("quiescent/api.ErrNone",[113,117,105,101,115,99,101,110,116,58,32,110,111,110,101]),("quiescent/api.ErrFull",[113,117,105,101,115,99,101,110,116,58,32,102,117,108,108]),("quiescent/api.ErrStale",[113,117,105,101,115,99,101,110,116,58,32,115,116,97,108,101]),("quiescent/api.ErrHeld",[113,117,105,101,115,99,101,110,116,58,32,104,101,108,100]),("quiescent/api.ErrDone",[113,117,105,101,115,99,101,110,116,58,32,100,111,110,101])]
def laidJ12:List (String×DataW Unit):=Rows.judgeLitmusRow.laid
def plainJ:List (String×DataW Unit):=laidJ12.filter fun x=>x.2.handleName?.isNone
theorem jhandlesOnly:(laidJ12.filter fun x=>x.2.handleName?.isSome)=[("errors.errorType",Rows.laid_errors_errorType)]:=by kernel_rfl
theorem jeightOnly:(plainJ.filter fun x=>match x.2 with | .iface _ _=>true |_=>false)=jeightTexts.map sentOf:=by kernel_rfl
theorem lj_gErr:Tryz.prog.globalNamed "errors.errorType" =some 9:=by kernel_rfl
theorem lj_g1:Tryz.prog.globalNamed "quiescent/api.ErrBound" =some 0:=by kernel_rfl
theorem lj_gT1:(Tryz.prog.globals[0]?).map (·.type)=some 27:=by kernel_rfl
theorem lj_g2:Tryz.prog.globalNamed "quiescent/api.ErrShape" =some 3:=by kernel_rfl
theorem lj_gT2:(Tryz.prog.globals[3]?).map (·.type)=some 27:=by kernel_rfl
theorem lj_g3:Tryz.prog.globalNamed "quiescent/api.ErrName" =some 4:=by kernel_rfl
theorem lj_gT3:(Tryz.prog.globals[4]?).map (·.type)=some 27:=by kernel_rfl
theorem lj_g4:Tryz.prog.globalNamed "quiescent/api.ErrNone" =some 5:=by kernel_rfl
theorem lj_gT4:(Tryz.prog.globals[5]?).map (·.type)=some 27:=by kernel_rfl
theorem lj_g5:Tryz.prog.globalNamed "quiescent/api.ErrFull" =some 6:=by kernel_rfl
theorem lj_gT5:(Tryz.prog.globals[6]?).map (·.type)=some 27:=by kernel_rfl
theorem lj_g6:Tryz.prog.globalNamed "quiescent/api.ErrStale" =some 7:=by kernel_rfl
theorem lj_gT6:(Tryz.prog.globals[7]?).map (·.type)=some 27:=by kernel_rfl
theorem lj_g7:Tryz.prog.globalNamed "quiescent/api.ErrHeld" =some 1:=by kernel_rfl
theorem lj_gT7:(Tryz.prog.globals[1]?).map (·.type)=some 27:=by kernel_rfl
theorem lj_g8:Tryz.prog.globalNamed "quiescent/api.ErrDone" =some 8:=by kernel_rfl
theorem lj_gT8:(Tryz.prog.globals[8]?).map (·.type)=some 27:=by kernel_rfl
theorem jeightG: ∀x∈jeightTexts, ∃g,Tryz.prog.globalNamed x.1=some g/\(Tryz.prog.globals[g]?).map (·.type)=some 27:=by
 intro x hx
 simp only[jeightTexts,List.mem_cons,List.not_mem_nil,or_false] at hx
 rcases hx with rfl |rfl |rfl |rfl |rfl |rfl |rfl |rfl
 ·exact⟨_,lj_g1,lj_gT1⟩
 ·exact⟨_,lj_g2,lj_gT2⟩
 ·exact⟨_,lj_g3,lj_gT3⟩
 ·exact⟨_,lj_g4,lj_gT4⟩
 ·exact⟨_,lj_g5,lj_gT5⟩
 ·exact⟨_,lj_g6,lj_gT6⟩
 ·exact⟨_,lj_g7,lj_gT7⟩
 ·exact⟨_,lj_g8,lj_gT8⟩
theorem lj_rtypeIs:(Tryz.prog.cutTypes.find? (·.1== "internal/reflectlite.rtype")).map (·.2)=some 261:=by kernel_rfl
theorem lj_errorRows:((List.range 388).filter fun t=>Tryz.prog.rowNamed t [101,114,114,111,114])=[27]:=by kernel_rfl
theorem lj_manyTypes:Tryz.prog.types.size=388:=by kernel_rfl
theorem lj_handleIs:typeHandle Tryz.prog 27= .pointer (some ⟨13,27,none⟩):=by kernel_rfl
theorem lj_star: "*" ++ "errors.errorString" = "*errors.errorString" :=by decide
theorem lj_errName(u:TypeId)(h:Tryz.prog.typeName? 3 u=some "*errors.errorString"):u=358:=
 typeName_ptr_named (nm:= "errors.errorString") (by rw[lj_star];kernel_rfl) (by kernel_rfl) (by decide) u (by rw[lj_star];exact h)
theorem lj_esStruct: ∃f:Field,Tryz.prog.underlying 377=some (.struct #[f])/\f.type=9/\f.offset=0:=⟨_,Tryz.underlying377,rfl,rfl⟩
theorem lj_esCells:Tryz.prog.cellsOf 377=1:=by kernel_rfl
theorem lj_strCells:Tryz.prog.cellsOf 9=1:=by kernel_rfl
noncomputable def jworldH(os:Os):World:=(World.holding Tryz.prog os ⟨#[],#[],[]⟩).setCell ⟨9,0,none⟩ (.iface 261 (.agg #[.pointer (some ⟨13,27,none⟩)]))
noncomputable def jworldZ(os:Os):World:=(jworldH os).layVars Tryz.prog plainJ
theorem jworldZ_os(os:Os):(jworldZ os).os=os:=(World.layVars_os _ _ _).trans rfl
theorem jplain_met(os:Os):laidMet Tryz.prog plainJ (jworldZ os):=by
 have e1:(plainJ.filter fun x=>(plainJ.map (·.1)).contains x.1)=plainJ:=List.filter_eq_self.2 fun x hx=>List.contains_iff_mem.2 (List.mem_map.2 ⟨x,hx,rfl⟩)
 have e2:(plainJ.filter fun x=> !(plainJ.map (·.1)).contains x.1)=[]:=List.filter_eq_nil_iff.2 fun x hx=>by rw[List.contains_iff_mem.2 (List.mem_map.2 ⟨x,hx,rfl⟩)];simp
 exact laidMet_layVars (w0:=jworldH os) (plainJ.map (·.1)) [] (by rw[e1];rfl) (by rw[e1];kernel_rfl) (by rw[e1];kernel_rfl) (by rw[e2];exact LaidIn.none)
theorem jlaid_met(os:Os)(args:Array Value):laidMetH Tryz.prog laidJ12 ((jworldZ os).forCall (fun _ _=>0) ⟨#[],args,[]⟩).memory:=
 laidMetH.of_heap (w:=jworldZ os) (by simp[World.memory,World.forCall,Input.heap]) (laidMetH_of_parts3 (fuel:=8) (jplain_met os) (by kernel_rfl) (by kernel_rfl))
theorem jworldZ_shaped(os:Os)(args:Array Value):((jworldZ os).forCall (fun _ _=>0) ⟨#[],args,[]⟩).Shaped Tryz.prog:=World.shaped_of_ZipB (by kernel_rfl) (by kernel_rfl)
theorem env_of_laidJ{W:World}(h:laidMetH Tryz.prog laidJ12 W): ∃a,Env a W:=by
 unfold laidMetH at h
 rw[jhandlesOnly] at h
 simp only at h
 obtain⟨h,hh⟩:=h
 replace h:laidMet Tryz.prog plainJ W:=h
 have hs:=h.filter fun x=>match x.2 with | .iface _ _=>true |_=>false
 rw[jeightOnly] at hs
 obtain⟨ps,hv,hnd,hrows⟩:=hs
 obtain⟨f,hf,hft,hfo⟩:=lj_esStruct
 obtain⟨ads,hl,hn,hm,hat⟩:=sents_of_laid (f:=f) Tryz.underlying27 lj_errName Tryz.underlying358 hf hft hfo Tryz.underlying9 lj_esCells lj_strCells jeightTexts ps hv hnd hrows jeightG
 have hl11:ads.length=8:=hl
 have hh1:=hh _ (List.mem_singleton.2 rfl)
 obtain⟨name,u,ty,e1,e2,e3,e4,e5⟩:=(show ∃name u ty,(Rows.laid_errors_errorType:DataW Unit).handleName?=some name/\(Tryz.prog.cutTypes.find? (·.1== "internal/reflectlite.rtype")).map (·.2)=some u/\ty<Tryz.prog.types.size/\Tryz.prog.rowNamed ty name=true/\W.var? Tryz.prog "errors.errorType" =some #[.iface u (.agg #[typeHandle Tryz.prog ty])] from hh1)
 have en:name=[101,114,114,111,114]:=(Option.some.inj e1).symm
 subst en
 obtain rfl:=Option.some.inj (lj_rtypeIs.symm.trans e2)
 have hmm:ty∈(List.range 388).filter fun t=>Tryz.prog.rowNamed t [101,114,114,111,114]:=List.mem_filter.2 ⟨List.mem_range.2 (by rw[<-lj_manyTypes];exact e3),e4⟩
 rw[lj_errorRows] at hmm
 obtain rfl:=List.mem_singleton.1 hmm
 rw[lj_handleIs] at e5
 have look: ∀(i:Nat) (x:String×List UInt8),jeightTexts[i]? =some x->W.var? Tryz.prog x.1=some #[errAt (ads.getD i default)]:=fun i x hx=>by
  obtain⟨a,ha,hva⟩:=hat i x hx
  rw[List.getD_eq_getElem?_getD,ha];exact hva
 have sc: ∀i,okI i-> ∃j,j<8/\i=j+1:=fun i hi=>by
  match i,hi with
  |0,h=>exact absurd rfl h.2
  |j+1,h=>exact⟨j,by have:=h.1;omega,rfl⟩
 refine⟨fun i=>ads.getD (i - 1) default,⟨fun i hi=>?_,fun i hi=>?_,fun i j hi hj hij=>?_,?_⟩⟩
 ·obtain⟨j,hj,rfl⟩:=sc i hi
  match j,hj with
  |0,_=>simpa [gid] using World.var?_cell lj_g1 (look 0 _ rfl) 0
  |1,_=>simpa [gid] using World.var?_cell lj_g2 (look 1 _ rfl) 0
  |2,_=>simpa [gid] using World.var?_cell lj_g3 (look 2 _ rfl) 0
  |3,_=>simpa [gid] using World.var?_cell lj_g4 (look 3 _ rfl) 0
  |4,_=>simpa [gid] using World.var?_cell lj_g5 (look 4 _ rfl) 0
  |5,_=>simpa [gid] using World.var?_cell lj_g6 (look 5 _ rfl) 0
  |6,_=>simpa [gid] using World.var?_cell lj_g7 (look 6 _ rfl) 0
  |7,_=>simpa [gid] using World.var?_cell lj_g8 (look 7 _ rfl) 0
 ·obtain⟨j,hj,rfl⟩:=sc i hi
  refine(hm (ads.getD (j+1 - 1) default) ?_).2
  rw[List.getD_eq_getElem?_getD,List.getElem?_eq_getElem (by omega)]
  exact List.getElem_mem _
 ·obtain⟨i,hi8,rfl⟩:=sc i hi
  obtain⟨j,hj8,rfl⟩:=sc j hj
  intro e
  simp only[List.getD_eq_getElem?_getD,Nat.add_sub_cancel] at e
  rw[List.getElem?_eq_getElem (show i<ads.length by omega),List.getElem?_eq_getElem (show j<ads.length by omega)] at e
  simp only[Option.getD_some] at e
  have hpw:=List.pairwise_iff_getElem.1 hn
  rcases Nat.lt_or_gt_of_ne (show i≠j by omega) with h |h
  ·exact hpw i j _ _ h e
  ·exact hpw j i _ _ h e.symm
 ·simpa using World.var?_cell lj_gErr e5 0
end
section
open Go.RowKit Go.Extern.Stop Go.Stop Go.Extern
def errVal(a:Nat->Addr):Nat->Value
 |0=> .nilIface
 |k+1=>errAt (a k)
end
section
open Go.RowKit Go.Extern.Stop Go.Stop Go.Extern
variable {b o:Nat} {w:World}
structure Ar where
 size:Nat
 words:Nat->Nat->Int
 there:Nat->Bool
 given:Nat->Nat
structure ArAt(b o:Nat)(s:Ar)(w:World):Prop where
 small:s.size<=64
 size:w.cell? ⟨b,o,none⟩=some (.int .i64 s.size)
 words: ∀c k,c<64->k<4->w.cell? ⟨b,o+1+c*4+k,none⟩=some (.int .u32 (s.words c k))
 range: ∀c k,0<=s.words c k/\s.words c k<4294967296
 there: ∀c,c<64->w.cell? ⟨b,o+257+c,none⟩=some (.bool (s.there c))
 given: ∀c,c<64->w.cell? ⟨b,o+321+c,none⟩=some (.int .i64 (s.given c))
 bound: ∀c,s.given c<4611686018427387904
 frozen: ∀k,k<385->w.frozen? ⟨b,o+k,none⟩=false
theorem ArAt.lt{s:Ar}(h:ArAt b o s w):b<w.heap.size:=World.block_lt_of_cell? w _ h.size
theorem ArAt.turns{S:Nat->Nat->Prop}{s:Ar}{w w':World}(h:ArAt b o s w)(ht:Turns S w w')(hS: ∀k,k<385-> ¬S b (o+k)):ArAt b o s w' where
 small:=h.small
 size:=ht.keep h.size (by simpa using hS 0 (by decide))
 words c k hc hk:=ht.keep (h.words c k hc hk) (by have:=hS (1+c*4+k) (by omega);simpa [Nat.add_assoc] using this)
 range:=h.range
 there c hc:=ht.keep (h.there c hc) (by have:=hS (257+c) (by omega);simpa [Nat.add_assoc] using this)
 given c hc:=ht.keep (h.given c hc) (by have:=hS (321+c) (by omega);simpa [Nat.add_assoc] using this)
 bound:=h.bound
 frozen k hk:=by rw[ht.frozen b (o+k) h.lt (hS k hk)];exact h.frozen k hk
theorem ArAt.below{s:Ar}{w w':World}(h:ArAt b o s w)(hb:Below w.heap.size w w'):ArAt b o s w':=
 h.turns (Turns.of_below (S:=fun _ _=>False) hb) (fun _ _ h=>h)
theorem ArAt.drewN{s:Ar}(h:ArAt b o s w)(n:Nat):ArAt b o s (w.drewN n):=h.below (Below.drewN' n)
theorem ArAt.drew{s:Ar}(h:ArAt b o s w):ArAt b o s w.drew:=h.below bRf.drew
theorem ArAt.alloc{s:Ar}(h:ArAt b o s w)(ob:Obj):ArAt b o s (w.alloc ob):=h.below (bRf.alloc nL _)
theorem cells_any(b o:Nat)(s:Ar)(w:World)(h:ArAt b o s w):
  Calls Tryz.prog 211 #[.pointer (some ⟨b,o,none⟩)] w fun e w'=>e= .returned (.int .i64 s.size)/\w'=w:=by
 have hs:=h.size
 have hz:=h.small
 clear h
 go_enter Tryz.func211,Tryz.ntmps211
 go_wp2
 go_ret
 exact⟨rfl,rfl⟩
theorem isWord_any (k:Int) (w:World):
  Calls Tryz.prog 247 #[.int .i64 k] w fun e w'=>e= .returned (.bool (decide (0<=k/\k<4294967296)))/\w'=w:=by
 by_cases h1:0<=k
 ·by_cases h2:k<=4294967295
  ·rw[decide_eq_true ⟨h1,by omega⟩]
   go_enter Tryz.func247,Tryz.ntmps247
   go_wp2
   go_ret
   exact⟨rfl,rfl⟩
  ·rw[decide_eq_false (fun h=>h2 (by omega))]
   go_enter Tryz.func247,Tryz.ntmps247
   go_wp2
   go_ret
   exact⟨rfl,rfl⟩
 ·rw[decide_eq_false (fun h=>h1 h.1)]
  go_enter Tryz.func247,Tryz.ntmps247
  go_wp2
  go_ret
  exact⟨rfl,rfl⟩
def Ar.has(s:Ar)(c g:Int):Bool:=decide (0<=c/\c<s.size)&&s.there c.toNat&&(g==(s.given c.toNat:Int) - 1)
def Ar.at(s:Ar)(c g k:Int):Nat:=if s.has c g=false then 7 else if 0<=k/\k<4 then 0 else 2
theorem has_any (b o:Nat) (s:Ar) (c g:Int) (w:World) (h:ArAt b o s w):
  Calls Tryz.prog 246 #[.pointer (some ⟨b,o,none⟩), .agg #[.int .i64 c, .int .i64 g]] w fun e w'=>e= .returned (.bool (s.has c g))/\Below w.heap.size w w':=by
 have h1:=h.alloc (.cells #[.int .i64 c, .int .i64 g] 88)
 have hz:=h.small
 have hlt:=h.lt
 have hba:Below w.heap.size w (w.alloc (.cells #[.int .i64 c, .int .i64 g] 88)):=bRf.alloc nL _
 have HC:Hid (∀(w0:World) (k:Nat),ArAt b o s w0->Calls Tryz.prog 211 #[.pointer (some ⟨b,o,none⟩)] (w0.drewN k) fun e w'=>e= .returned (.int .i64 s.size)/\w'=w0.drewN k):=fun w0 k h=>cells_any b o s _ (h.drewN k)
 obtain⟨q0,q1⟩:=box2c w 88 (.int .i64 c) (.int .i64 g)
 by_cases c0:0<=c
 ·obtain ⟨n,rfl⟩:=Int.eq_ofNat_of_zero_le c0
  have d0:decide ((n:Int)<0)=false:=by simp
  by_cases c1:(n:Int)<s.size
  ·have ht:=h1.there n (by omega)
   have hg:=h1.given n (by omega)
   have hbd:=h.bound n
   have d1:decide (s.size<=n)=false:=by simp;omega
   have n64:(n:Int)<64:=by omega
   cases c2:s.there n
   ·rw[c2] at ht
    rw[show s.has n g=false from by simp[Ar.has,c2]]
    clear c2 h hg c1 c0
    generalize hw:w.alloc (.cells #[.int .i64 n, .int .i64 g] 88)=w1 at*
    go_enter Tryz.func246,Tryz.ntmps246
    go_wp2_with fail
    go_quiet ((go_at_call 211;exact Calls.quiet_of_same (HC.out _ _ h1)))
    go_wp2
    go_ret
    exact⟨rfl,below_dN hba _⟩
   ·rw[c2] at ht
    rw[show s.has n g=(g==(s.given n:Int) - 1) from by simp[Ar.has,c2];omega]
    clear c2 h c1 c0
    generalize hw:w.alloc (.cells #[.int .i64 n, .int .i64 g] 88)=w1 at*
    go_enter Tryz.func246,Tryz.ntmps246
    go_wp2_with fail
    go_quiet ((go_at_call 211;exact Calls.quiet_of_same (HC.out _ _ h1)))
    go_wp2
    go_quiet (fail)
    go_wp2
    go_ret
    exact⟨rfl,below_dN (below_dN hba _) _⟩
  ·have d1:decide (s.size<=n)=true:=by simp;omega
   rw[show s.has n g=false from by simp[Ar.has];omega]
   clear h c0 c1
   generalize hw:w.alloc (.cells #[.int .i64 n, .int .i64 g] 88)=w1 at*
   go_enter Tryz.func246,Tryz.ntmps246
   go_wp2_with fail
   go_quiet ((go_at_call 211;exact Calls.quiet_of_same (HC.out _ _ h1)))
   go_wp2
   go_ret
   exact⟨rfl,below_dN hba _⟩
 ·have d0:decide (c<0)=true:=by simp;omega
  rw[show s.has c g=false from by simp[Ar.has];omega]
  clear h c0
  generalize hw:w.alloc (.cells #[.int .i64 c, .int .i64 g] 88)=w1 at*
  go_enter Tryz.func246,Tryz.ntmps246
  go_wp2_with fail
  go_quiet ((go_at_call 211;exact Calls.quiet_of_same (HC.out _ _ h1)))
  go_wp2
  go_ret
  exact⟨rfl,below_dN hba _⟩
theorem box_below(c g:Int)(w:World):Below w.heap.size w (w.alloc (.cells #[.int .i64 c, .int .i64 g] 88)):=bRf.alloc nL _
end
section
open Go.RowKit
variable {a:Nat->Addr} {w:World}
structure EnvM(a:Nat->Addr)(w:World):Prop where
 cell: ∀i,i=1∨i=4∨i=5∨i=6->w.cell? ⟨gid i,0,none⟩=some (errAt (a i))
theorem EnvM.glt(h:EnvM a w){i:Nat}(hi:i=1∨i=4∨i=5∨i=6):gid i<w.heap.size:=World.block_lt_of_cell? w _ (h.cell i hi)
theorem EnvM.below{w w':World}(h:EnvM a w)(hb: ∀k,k<w.heap.size->w'.heap[k]? =w.heap[k]?):EnvM a w' where
 cell i hi:=by rw[World.cell?_of_block (w:=w) (hb _ (h.glt hi))];exact h.cell i hi
theorem Env.toM(h:Env a w):EnvM a w:=⟨fun i hi=>h.cell i (by unfold okI;omega)⟩
end
end Go.Proofs.YtnoigmdmgdcliaaGreatDoor
