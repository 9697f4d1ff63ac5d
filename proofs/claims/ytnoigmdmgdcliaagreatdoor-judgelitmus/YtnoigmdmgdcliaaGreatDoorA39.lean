import Derived.Test.YtnoigmdmgdcliaaGreatDoorA38
import Derived.Test.YtnoigmdmgdcliaaGreatDoorA36
import Derived.Test.YtnoigmdmgdcliaaGreatDoorA14
import Derived.Deep.RegionWith
namespace Go.Proofs.YtnoigmdmgdcliaaGreatDoor
set_option maxRecDepth 100000
set_option maxHeartbeats 8000000
section
open Go.RowKit Go.Extern.Stop Go.Stop Go.Extern Go.Maps Go.WideMaps Go.Sort
structure TW(base sb:Nat)(w1:World)(K:List (Value×List Int))(iv:Value)(vs:List Value)(I:List (List Int))(rv:Value)(rs:List Value)(R:List (List Int))(w:World):Prop where
 c0:w.cell? ⟨sb,0,none⟩=some (.int .i64 64)
 c1:w.cell? ⟨sb,1,none⟩=some iv
 c2:w.cell? ⟨sb,2,none⟩=some rv
 fz: ∀o,w.frozen? ⟨sb,o,none⟩=false
 oi:w.ownsRow base 23 1 iv I.length vs
 or':w.ownsRow base 23 1 rv R.length rs
 ei: ∀(i:Nat) row,I[i]? =some row-> ∃u,vs[i]? =some u/\numsOwn w base u row/\Ap sb iv rv u
 er: ∀(i:Nat) row,R[i]? =some row-> ∃u,rs[i]? =some u/\numsOwn w base u row/\Ap sb iv rv u
 ni:iv.ownBlock≠some sb
 nr:rv.ownBlock≠some sb
 ne: ∀b,iv.ownBlock=some b->rv.ownBlock≠some b
 kp: ∀x∈K,numsOwn w base x.1 x.2/\Ap sb iv rv x.1
 low:Below base w1 w
 bs:base<=sb
 sl:sb<w.heap.size
section
variable {base sb:Nat} {w1:World} {K:List (Value×List Int)} {iv:Value} {vs:List Value} {I:List (List Int)} {rv:Value} {rs:List Value} {R:List (List Int)} {w w':World}
theorem TW.bz(h:TW base sb w1 K iv vs I rv rs R w):base<=w.heap.size:=by have:=h.sl;have:=h.bs;omega
theorem TW.below(h:TW base sb w1 K iv vs I rv rs R w)(k:Below w.heap.size w w'):TW base sb w1 K iv vs I rv rs R w' where
 c0:=keep_cell k h.c0
 c1:=keep_cell k h.c1
 c2:=keep_cell k h.c2
 fz o:=by rw[World.frozen?_of_block (k.block sb h.sl)];exact h.fz o
 oi:=ownsRow_block h.oi (fun b hb=>k.block b (h.oi.lt b hb).2)
 or':=ownsRow_block h.or' (fun b hb=>k.block b (h.or'.lt b hb).2)
 ei i row hr:=by obtain⟨u,h1,h2,h3⟩:=h.ei i row hr;exact⟨u,h1,numsOwn_keep h2 k,h3⟩
 er i row hr:=by obtain⟨u,h1,h2,h3⟩:=h.er i row hr;exact⟨u,h1,numsOwn_keep h2 k,h3⟩
 ni:=h.ni
 nr:=h.nr
 ne:=h.ne
 kp x hx:=⟨numsOwn_keep (h.kp x hx).1 k,(h.kp x hx).2⟩
 low:=h.low.trans (k.mono h.bz)
 bs:=h.bs
 sl:=Nat.lt_of_lt_of_le h.sl k.size
theorem TW.out(h:TW base sb w1 K iv vs I rv rs R w){r:Nat}(hr:r<base)(o:Nat)(x:Value){w2:World}(hk:w2=w.setCell ⟨r,o,none⟩ x):TW base sb w2 K iv vs I rv rs R w2:=by
 have hb: ∀b,base<=b->w2.heap[b]? =w.heap[b]? :=fun b hb=>by rw[hk];exact Below.heap_setCell _ _ _ _ (fun e=>by dsimp only at e;omega)
 have C: ∀o,w2.cell? ⟨sb,o,none⟩=w.cell? ⟨sb,o,none⟩:=fun o=>World.cell?_of_block (hb sb h.bs)
 refine⟨(C 0).trans h.c0,(C 1).trans h.c1,(C 2).trans h.c2,fun o=>(World.frozen?_of_block (hb sb h.bs)).trans (h.fz o),ownsRow_block h.oi (fun b e=>hb b (h.oi.lt b e).1),ownsRow_block h.or' (fun b e=>hb b (h.or'.lt b e).1),fun i row hr=>?_,fun i row hr=>?_,h.ni,h.nr,h.ne,fun x hx=>⟨ownsRow_block (h.kp x hx).1 (fun b e=>hb b (World.ownsRow.lt (h.kp x hx).1 b e).1),(h.kp x hx).2⟩,Below.refl _ _,h.bs,?_⟩
 ·obtain⟨u,h1,h2,h3⟩:=h.ei i row hr
  exact⟨u,h1,ownsRow_block h2 (fun b e=>hb b (World.ownsRow.lt h2 b e).1),h3⟩
 ·obtain⟨u,h1,h2,h3⟩:=h.er i row hr
  exact⟨u,h1,ownsRow_block h2 (fun b e=>hb b (World.ownsRow.lt h2 b e).1),h3⟩
 ·rw[hk];simp[World.setCell];exact h.sl
theorem TW.addI (h:TW base sb w1 K iv vs I rv rs R w) {us:List Value} {rws:List (List Int)} (hu: ∀(k:Nat) row,rws[k]? =some row-> ∃u,us[k]? =some u/\numsOwn w base u row/\Ap sb iv rv u) {iv':Value} {N:Nat} (hN:w.heap.size<=N) (ho:w'.ownsRow base 23 1 iv' (I.length+rws.length) (vs++us)) (hg:w.grownBy w' iv.ownBlock) (hloc:iv'.ownBlock=iv.ownBlock∨iv'.ownBlock=some N):
  TW base sb w1 K iv' (vs++us) (I++rws) rv rs R (w'.setCell ⟨sb,1,none⟩ iv'):=by
 have hs:=h.sl
 have hbz:=h.bz
 have hB:Below base w w':=(Below.refl base w).grown hg hbz (fun k hk=>(h.oi.lt k hk).1)
 have hsb:w'.heap[sb]? =w.heap[sb]? :=hg.block sb hs (fun e=>h.ni e.symm)
 have nb: ∀b,b<w.heap.size->iv.ownBlock≠some b->iv'.ownBlock≠some b:=fun b hb hne e=>by
  rcases hloc with h1 |h1
  ·rw[h1] at e;exact hne e
  ·rw[h1] at e
   have:=Option.some.inj e
   omega
 have C: ∀o,w'.cell? ⟨sb,o,none⟩=w.cell? ⟨sb,o,none⟩:=fun o=>World.cell?_of_block hsb
 have F: ∀o,w'.frozen? ⟨sb,o,none⟩=w.frozen? ⟨sb,o,none⟩:=fun o=>World.frozen?_of_block hsb
 have blk: ∀b,b≠sb->(w'.setCell ⟨sb,1,none⟩ iv').heap[b]? =w'.heap[b]? :=fun b hb=>Below.heap_setCell _ _ _ _ hb
 have kn: ∀{u:Value} {row:List Int},numsOwn w base u row->Ap sb iv rv u->numsOwn (w'.setCell ⟨sb,1,none⟩ iv') base u row/\Ap sb iv' rv u:=fun {u row} h1 h2=>
  ⟨ownsRow_block (numsOwn_kept h1 hg (fun b e=>(h2 b e).2.1)) (fun b e=>blk b (h2 b e).1),fun b e=>⟨(h2 b e).1,nb b (World.ownsRow.lt h1 b e).2 (h2 b e).2.1,(h2 b e).2.2⟩⟩
 have lv:vs.length=I.length:=by have:=h.oi.1;omega
 refine ⟨cell_ne ((C 0).trans h.c0) (.inr (by decide)),World.cell?_setCell_same _ _ _ ((C 1).trans h.c1),cell_ne ((C 2).trans h.c2) (.inr (by decide)),fun o=>by rw[World.frozen?_setCell,F];exact h.fz o,ownsRow_block (w:=w') (by rw[List.length_append];exact ho) (fun b e=>blk b (fun e2=>by rw[e2] at e;exact nb sb hs h.ni e)),ownsRow_block (World.ownsRow.kept h.or' hg (by
  cases hr:rv.ownBlock with
  |none=>exact .inl rfl
  |some b=>exact .inr fun e=>h.ne b e.symm hr)) (fun b e=>blk b (fun e2=>by rw[e2] at e;exact h.nr e)),fun i row hr=>by
  by_cases hi:i<I.length
  ·rw[List.getElem?_append_left hi] at hr
   obtain⟨u,h1,h2,h3⟩:=h.ei i row hr
   exact⟨u,by rw[List.getElem?_append_left (by omega)];exact h1,(kn h2 h3).1,(kn h2 h3).2⟩
  ·rw[List.getElem?_append_right (by omega)] at hr
   obtain⟨u,h1,h2,h3⟩:=hu _ row hr
   exact⟨u,by rw[List.getElem?_append_right (by omega),lv];exact h1,(kn h2 h3).1,(kn h2 h3).2⟩,fun i row hr=>by
  obtain⟨u,h1,h2,h3⟩:=h.er i row hr
  exact⟨u,h1,(kn h2 h3).1,(kn h2 h3).2⟩,nb sb hs h.ni,h.nr,fun b e e2=>nb b (h.or'.lt b e2).2 (fun e3=>h.ne b e3 e2) e,fun x hx=>kn (h.kp x hx).1 (h.kp x hx).2,h.low.trans (hB.setCell h.bs _),h.bs,?_⟩
 have:=hB.size
 have e:(w'.setCell ⟨sb,1,none⟩ iv').heap.size=w'.heap.size:=by simp[World.setCell]
 rw[e]
 have:=hg.size
 omega
theorem TW.addR (h:TW base sb w1 K iv vs I rv rs R w) {us:List Value} {rws:List (List Int)} (hu: ∀(k:Nat) row,rws[k]? =some row-> ∃u,us[k]? =some u/\numsOwn w base u row/\Ap sb iv rv u) {rv':Value} {N:Nat} (hN:w.heap.size<=N) (ho:w'.ownsRow base 23 1 rv' (R.length+rws.length) (rs++us)) (hg:w.grownBy w' rv.ownBlock) (hloc:rv'.ownBlock=rv.ownBlock∨rv'.ownBlock=some N):
  TW base sb w1 K iv vs I rv' (rs++us) (R++rws) (w'.setCell ⟨sb,2,none⟩ rv'):=by
 have hs:=h.sl
 have hbz:=h.bz
 have hB:Below base w w':=(Below.refl base w).grown hg hbz (fun k hk=>(h.or'.lt k hk).1)
 have hsb:w'.heap[sb]? =w.heap[sb]? :=hg.block sb hs (fun e=>h.nr e.symm)
 have nb: ∀b,b<w.heap.size->rv.ownBlock≠some b->rv'.ownBlock≠some b:=fun b hb hne e=>by
  rcases hloc with h1 |h1
  ·rw[h1] at e;exact hne e
  ·rw[h1] at e
   have:=Option.some.inj e
   omega
 have C: ∀o,w'.cell? ⟨sb,o,none⟩=w.cell? ⟨sb,o,none⟩:=fun o=>World.cell?_of_block hsb
 have F: ∀o,w'.frozen? ⟨sb,o,none⟩=w.frozen? ⟨sb,o,none⟩:=fun o=>World.frozen?_of_block hsb
 have blk: ∀b,b≠sb->(w'.setCell ⟨sb,2,none⟩ rv').heap[b]? =w'.heap[b]? :=fun b hb=>Below.heap_setCell _ _ _ _ hb
 have kn: ∀{u:Value} {row:List Int},numsOwn w base u row->Ap sb iv rv u->numsOwn (w'.setCell ⟨sb,2,none⟩ rv') base u row/\Ap sb iv rv' u:=fun {u row} h1 h2=>
  ⟨ownsRow_block (numsOwn_kept h1 hg (fun b e=>(h2 b e).2.2)) (fun b e=>blk b (h2 b e).1),fun b e=>⟨(h2 b e).1,(h2 b e).2.1,nb b (World.ownsRow.lt h1 b e).2 (h2 b e).2.2⟩⟩
 have lv:rs.length=R.length:=by have:=h.or'.1;omega
 refine ⟨cell_ne ((C 0).trans h.c0) (.inr (by decide)),cell_ne ((C 1).trans h.c1) (.inr (by decide)),World.cell?_setCell_same _ _ _ ((C 2).trans h.c2),fun o=>by rw[World.frozen?_setCell,F];exact h.fz o,ownsRow_block (World.ownsRow.kept h.oi hg (by
  cases hr:iv.ownBlock with
  |none=>exact .inl rfl
  |some b=>exact .inr fun e=>h.ne b hr e.symm)) (fun b e=>blk b (fun e2=>by rw[e2] at e;exact h.ni e)),ownsRow_block (w:=w') (by rw[List.length_append];exact ho) (fun b e=>blk b (fun e2=>by rw[e2] at e;exact nb sb hs h.nr e)),fun i row hr=>by
  obtain⟨u,h1,h2,h3⟩:=h.ei i row hr
  exact⟨u,h1,(kn h2 h3).1,(kn h2 h3).2⟩,fun i row hr=>by
  by_cases hi:i<R.length
  ·rw[List.getElem?_append_left hi] at hr
   obtain⟨u,h1,h2,h3⟩:=h.er i row hr
   exact⟨u,by rw[List.getElem?_append_left (by omega)];exact h1,(kn h2 h3).1,(kn h2 h3).2⟩
  ·rw[List.getElem?_append_right (by omega)] at hr
   obtain⟨u,h1,h2,h3⟩:=hu _ row hr
   exact⟨u,by rw[List.getElem?_append_right (by omega),lv];exact h1,(kn h2 h3).1,(kn h2 h3).2⟩,h.ni,nb sb hs h.nr,fun b e e2=>nb b (h.oi.lt b e).2 (h.ne b e) e2,fun x hx=>kn (h.kp x hx).1 (h.kp x hx).2,h.low.trans (hB.setCell h.bs _),h.bs,?_⟩
 have:=hB.size
 have e:(w'.setCell ⟨sb,2,none⟩ rv').heap.size=w'.heap.size:=by simp[World.setCell]
 rw[e]
 have:=hg.size
 omega
theorem TW.box(h:TW base sb w1 K iv vs I rv rs R w){ob:Option Nat}(hg:w.grownBy w' ob)(ho:ob≠some sb):(∀o,w'.cell? ⟨sb,o,none⟩=w.cell? ⟨sb,o,none⟩)/\ ∀o,w'.frozen? ⟨sb,o,none⟩=false:=by
 have hsb:w'.heap[sb]? =w.heap[sb]? :=hg.block sb h.sl (fun e=>ho e.symm)
 exact⟨fun o=>World.cell?_of_block hsb,fun o=>by rw[World.frozen?_of_block hsb];exact h.fz o⟩
theorem TW.sta{c:Int}(h:TW base sb w1 K iv vs I rv rs R w)(hc:c=64)(hI:I.length<=100)(hR:R.length<=100)(lI: ∀row∈I,row.length<=100)(lR: ∀row∈R,row.length<=100): ∃ai ci ar cr,iv= .slice ai I.length ci/\rv= .slice ar R.length cr/\StaAt ⟨c,I,R⟩ ⟨ai,ci,ar,cr⟩ w:=by
 subst hc
 obtain⟨ai,ci,e1,h1,h2,h3⟩:=ownsRow_shape h.oi
 obtain⟨ar,cr,e2,g1,g2,g3⟩:=ownsRow_shape h.or'
 refine⟨ai,ci,ar,cr,e1,e2,fun i row hr=>?_,fun i row hr=>?_,h1,g1,by show I.length<=_;omega,by show R.length<=_;omega,fun i row hr=>?_,fun i row hr=>?_⟩
 ·obtain⟨u,k1,k2, -⟩:=h.ei i row hr
  obtain⟨g,eg,cg⟩:=h3 i u k1
  obtain⟨adr,capr,eu,k3,k4⟩:=numsOwn_at k2
  exact⟨g,0,adr,capr,eg,by rw[Nat.zero_add,cg,eu],k3,k4⟩
 ·obtain⟨u,k1,k2, -⟩:=h.er i row hr
  obtain⟨g,eg,cg⟩:=g3 i u k1
  obtain⟨adr,capr,eu,k3,k4⟩:=numsOwn_at k2
  exact⟨g,0,adr,capr,eg,by rw[Nat.zero_add,cg,eu],k3,k4⟩
 ·have:=lI row (List.mem_of_getElem? hr);omega
 ·have:=lR row (List.mem_of_getElem? hr);omega
end
structure WD(vs rs:List Value):Prop where
 vi: ∀(i j:Nat) u v b,vs[i]? =some u->vs[j]? =some v->u.ownBlock=some b->v.ownBlock=some b->i=j
 ri: ∀(i j:Nat) u v b,rs[i]? =some u->rs[j]? =some v->u.ownBlock=some b->v.ownBlock=some b->i=j
 vr: ∀(i j:Nat) u v b,vs[i]? =some u->rs[j]? =some v->u.ownBlock=some b->v.ownBlock≠some b
theorem snoc_get{l:List Value}{u x:Value}{i:Nat}(h:(l++[u])[i]? =some x):(i<l.length/\l[i]? =some x)∨(i=l.length/\x=u):=by
 by_cases hi:i<l.length
 ·rw[List.getElem?_append_left hi] at h
  exact .inl ⟨hi,h⟩
 ·rw[List.getElem?_append_right (by omega)] at h
  match hk:i - l.length,h with
  |0,h=>exact .inr ⟨by omega,by simpa using h.symm⟩
theorem WD.addI{vs rs:List Value}(h:WD vs rs){u:Value}{b0:Nat}(hu:u.ownBlock=some b0)(hv: ∀v∈vs,v.ownBlock≠some b0)(hr: ∀v∈rs,v.ownBlock≠some b0):WD (vs++[u]) rs where
 vi i j x y b hx hy ex ey:=by
  rcases snoc_get hx with⟨i1,h1⟩ |⟨i1,rfl⟩ <;> rcases snoc_get hy with⟨j1,h2⟩ |⟨j1,rfl⟩
  ·exact h.vi i j x y b h1 h2 ex ey
  ·rw[hu] at ey;cases ey;exact absurd ex (hv x (List.mem_of_getElem? h1))
  ·rw[hu] at ex;cases ex;exact absurd ey (hv y (List.mem_of_getElem? h2))
  ·omega
 ri:=h.ri
 vr i j x y b hx hy ex ey:=by
  rcases snoc_get hx with⟨i1,h1⟩ |⟨i1,rfl⟩
  ·exact h.vr i j x y b h1 hy ex ey
  ·rw[hu] at ex;cases ex;exact hr y (List.mem_of_getElem? hy) ey
theorem WD.addR{vs rs:List Value}(h:WD vs rs){u:Value}{b0:Nat}(hu:u.ownBlock=some b0)(hv: ∀v∈vs,v.ownBlock≠some b0)(hr: ∀v∈rs,v.ownBlock≠some b0):WD vs (rs++[u]) where
 vi:=h.vi
 ri i j x y b hx hy ex ey:=by
  rcases snoc_get hx with⟨i1,h1⟩ |⟨i1,rfl⟩ <;> rcases snoc_get hy with⟨j1,h2⟩ |⟨j1,rfl⟩
  ·exact h.ri i j x y b h1 h2 ex ey
  ·rw[hu] at ey;cases ey;exact absurd ex (hr x (List.mem_of_getElem? h1))
  ·rw[hu] at ex;cases ex;exact absurd ey (hr y (List.mem_of_getElem? h2))
  ·omega
 vr i j x y b hx hy ex ey:=by
  rcases snoc_get hy with⟨j1,h2⟩ |⟨j1,rfl⟩
  ·exact h.vr i j x y b hx h2 ex ey
  ·rw[hu] at ey;cases ey;exact hv x (List.mem_of_getElem? hx) ex
section
variable {base sb:Nat} {w1:World} {K:List (Value×List Int)} {iv:Value} {vs:List Value} {I:List (List Int)} {rv:Value} {rs:List Value} {R:List (List Int)} {w w':World}
theorem TW.lv(h:TW base sb w1 K iv vs I rv rs R w):vs.length=I.length:=by have:=h.oi.1;omega
theorem TW.lr(h:TW base sb w1 K iv vs I rv rs R w):rs.length=R.length:=by have:=h.or'.1;omega
theorem TW.old(h:TW base sb w1 K iv vs I rv rs R w){b0:Nat}(hb:w.heap.size<=b0):(∀v∈vs,v.ownBlock≠some b0)/\ ∀v∈rs,v.ownBlock≠some b0:=by
 refine⟨fun v hv e=>?_,fun v hv e=>?_⟩
 ·obtain⟨i,hi,rfl⟩:=List.getElem_of_mem hv
  obtain⟨row,hr⟩: ∃row,I[i]? =some row:=⟨_,List.getElem?_eq_getElem (by rw[<-h.lv];exact hi)⟩
  obtain⟨u,h1,h2, -⟩:=h.ei i row hr
  rw[List.getElem?_eq_getElem hi] at h1
  obtain rfl:=Option.some.inj h1
  have:=(World.ownsRow.lt h2 b0 e).2
  omega
 ·obtain⟨i,hi,rfl⟩:=List.getElem_of_mem hv
  obtain⟨row,hr⟩: ∃row,R[i]? =some row:=⟨_,List.getElem?_eq_getElem (by rw[<-h.lr];exact hi)⟩
  obtain⟨u,h1,h2, -⟩:=h.er i row hr
  rw[List.getElem?_eq_getElem hi] at h1
  obtain rfl:=Option.some.inj h1
  have:=(World.ownsRow.lt h2 b0 e).2
  omega
theorem get_set{l:List (List Int)}{i k:Nat}{x row:List Int}(h:(l.set i x)[k]? =some row):(k=i/\row=x)∨(k≠i/\l[k]? =some row):=by
 by_cases e:k=i
 ·subst e
  rw[List.getElem?_set] at h
  simp only[if_true] at h
  split at h
  ·exact .inl ⟨rfl,(Option.some.inj h).symm⟩
  ·cases h
 ·rw[List.getElem?_set_ne (Ne.symm e)] at h
  exact .inr ⟨e,h⟩
theorem TW.setI (h:TW base sb w1 [] iv vs I rv rs R w) (hd:WD vs rs) {i:Nat} {row:List Int} (hi:I[i]? =some row) {g cap n:Nat} (hu:vs[i]? =some (.slice (some ⟨g,0,none⟩) n cap)) (j:Nat) (x:Int):TW base sb w1 [] iv vs (I.set i (row.set j x)) rv rs R (w.setCell ⟨g,j,none⟩ (.int .i64 x)):=by
 obtain⟨u,u1,u2,u3⟩:=h.ei i row hi
 rw[hu] at u1
 obtain rfl:=Option.some.inj u1
 obtain⟨ns,ni,nr⟩:=u3 g rfl
 have hgb:base<=g:=(World.ownsRow.lt u2 g rfl).1
 have blk: ∀b,b≠g->(w.setCell ⟨g,j,none⟩ (.int .i64 x)).heap[b]? =w.heap[b]? :=fun b hb=>Below.heap_setCell _ _ _ _ hb
 have hz:(w.setCell ⟨g,j,none⟩ (.int .i64 x)).heap.size=w.heap.size:=by simp[World.setCell]
 exact {
  c0:=cell_ne h.c0 (.inl (Ne.symm ns))
  c1:=cell_ne h.c1 (.inl (Ne.symm ns))
  c2:=cell_ne h.c2 (.inl (Ne.symm ns))
  fz:=fun o=>by rw[World.frozen?_setCell];exact h.fz o
  oi :=by
   rw[List.length_set]
   exact ownsRow_block h.oi fun b e=>blk b (fun e2=>ni (by rw[<-e2];exact e))
  or':=ownsRow_block h.or' fun b e=>blk b (fun e2=>nr (by rw[<-e2];exact e))
  ei :=fun k r hr=>by
   rcases get_set hr with⟨rfl,rfl⟩ |⟨e,hr⟩
   ·exact⟨_,hu,numsOwn_set u2 j x,u3⟩
   ·obtain⟨v,v1,v2,v3⟩:=h.ei k r hr
    exact⟨v,v1,ownsRow_block v2 fun b e2=>blk b (fun e3=>by subst e3;exact e (hd.vi k i v _ b v1 hu e2 rfl)),v3⟩
  er :=fun k r hr=>by
   obtain⟨v,v1,v2,v3⟩:=h.er k r hr
   exact⟨v,v1,ownsRow_block v2 fun b e2=>blk b (fun e3=>by subst e3;exact hd.vr i k _ v b hu v1 rfl e2),v3⟩
  ni:=h.ni
  nr:=h.nr
  ne:=h.ne
  kp:=fun _ hx=>absurd hx List.not_mem_nil
  low:=h.low.setCell hgb _
  bs:=h.bs
  sl:=by rw[hz];exact h.sl }
theorem TW.setR (h:TW base sb w1 [] iv vs I rv rs R w) (hd:WD vs rs) {i:Nat} {row:List Int} (hi:R[i]? =some row) {g cap n:Nat} (hu:rs[i]? =some (.slice (some ⟨g,0,none⟩) n cap)) (j:Nat) (x:Int):TW base sb w1 [] iv vs I rv rs (R.set i (row.set j x)) (w.setCell ⟨g,j,none⟩ (.int .i64 x)):=by
 obtain⟨u,u1,u2,u3⟩:=h.er i row hi
 rw[hu] at u1
 obtain rfl:=Option.some.inj u1
 obtain⟨ns,ni,nr⟩:=u3 g rfl
 have hgb:base<=g:=(World.ownsRow.lt u2 g rfl).1
 have blk: ∀b,b≠g->(w.setCell ⟨g,j,none⟩ (.int .i64 x)).heap[b]? =w.heap[b]? :=fun b hb=>Below.heap_setCell _ _ _ _ hb
 have hz:(w.setCell ⟨g,j,none⟩ (.int .i64 x)).heap.size=w.heap.size:=by simp[World.setCell]
 exact {
  c0:=cell_ne h.c0 (.inl (Ne.symm ns))
  c1:=cell_ne h.c1 (.inl (Ne.symm ns))
  c2:=cell_ne h.c2 (.inl (Ne.symm ns))
  fz:=fun o=>by rw[World.frozen?_setCell];exact h.fz o
  oi:=ownsRow_block h.oi fun b e=>blk b (fun e2=>ni (by rw[<-e2];exact e))
  or' :=by
   rw[List.length_set]
   exact ownsRow_block h.or' fun b e=>blk b (fun e2=>nr (by rw[<-e2];exact e))
  ei :=fun k r hr=>by
   obtain⟨v,v1,v2,v3⟩:=h.ei k r hr
   exact⟨v,v1,ownsRow_block v2 fun b e2=>blk b (fun e3=>by subst e3;exact hd.vr k i v _ b v1 hu e2 rfl),v3⟩
  er :=fun k r hr=>by
   rcases get_set hr with⟨rfl,rfl⟩ |⟨e,hr⟩
   ·exact⟨_,hu,numsOwn_set u2 j x,u3⟩
   ·obtain⟨v,v1,v2,v3⟩:=h.er k r hr
    exact⟨v,v1,ownsRow_block v2 fun b e2=>blk b (fun e3=>by subst e3;exact e (hd.ri k i v _ b v1 hu e2 rfl)),v3⟩
  ni:=h.ni
  nr:=h.nr
  ne:=h.ne
  kp:=fun _ hx=>absurd hx List.not_mem_nil
  low:=h.low.setCell hgb _
  bs:=h.bs
  sl:=by rw[hz];exact h.sl }
end
def layTo(l:List Int)(o:Nat):List Int->List Int
 | []=>l
 |x::xs=>layTo (l.set o x) (o+1) xs
theorem numsOwn_lay{base g cap n:Nat}: ∀(xs:List Int) (o:Nat) {w:World} {l:List Int},numsOwn w base (.slice (some ⟨g,0,none⟩) n cap) l->numsOwn (w.setCells g o (xs.map (Value.int .i64))) base (.slice (some ⟨g,0,none⟩) n cap) (layTo l o xs)
 | [],_,_,_,h=>h
 |x::xs,o,_,_,h=>numsOwn_lay xs (o+1) (numsOwn_set h o x)
theorem below_lay{g:Nat}{w0:World}(hg:w0.heap.size<=g): ∀(xs:List Value) (o:Nat) {w:World},Below w0.heap.size w0 w->Below w0.heap.size w0 (w.setCells g o xs)
 | [],_,_,h=>h
 |x::xs,o,_,h=>below_lay hg xs (o+1) (h.setCell hg x)
def pad4(l:List Int):List Int:=layTo [0,0,0,0] 0 l
end
section
open Go.RowKit Go.Extern.Stop Go.Stop Go.Extern Go.Maps Go.WideMaps Go.Sort
theorem tname_ok(c:Nat)(hc:c<64)(w:World):Calls Tryz.prog 29 #[.int .i64 c] w fun e w'=>e= .returned (.int .i64 ((c:Int)+1))/\Below w.heap.size w w':=by
 have HW:=hide (word_ok c 0 w ⟨by omega,by omega,by omega,by omega⟩)
 rw[show(0:Int)*64+(c:Int)+1=(c:Int)+1 by omega] at HW
 go_enter Tryz.func29,Tryz.ntmps29
 go_wp2_with fail
 refine HW.out.mono ?_
 rintro e w1 ⟨rfl,hb⟩
 go_wp2_with fail
 go_ret
 exact⟨rfl,hb⟩
theorem heap_lay(g:Nat): ∀(xs:List Value) (o:Nat) (w:World),(w.setCells g o xs).heap.size=w.heap.size
 | [],_,_=>rfl
 | x::xs,o,w=>by
  show((w.setCell ⟨g,o,none⟩ x).setCells g (o+1) xs).heap.size=_
  rw[heap_lay g xs]
  simp[World.setCell]
theorem wpList_copy_row {ops:Array Oper} {rest:List Oper} {o:Oper} {a:Act} {w0:World} {Q:Exit->Act->World->Prop} (hgd:o.guard=none) (s x:Operand)
  (ho:o.op= .call { callee:= .builtin .copy,args:=#[s,x],argTypes:=#[23,23] }) (ws:List Int) (h0:0<ws.length) (h4:ws.length<=4) (ad:Addr) (cap:Nat)
  (hs:a.eval s= .slice (some ⟨w0.heap.size,0,none⟩) 4 4) (hx:a.eval x= .slice (some ad) ws.length cap) (ha:numsAt (some ad) ws w0)
  (h: ∀w1,Below w0.heap.size w0 w1->w1.heap.size=w0.heap.size+1->numsOwn w1 w0.heap.size (.slice (some ⟨w0.heap.size,0,none⟩) 4 4) (pad4 ws)->wpList Tryz.prog ops Q rest (a.put o.dst (goInt ws.length)) w1):
  wpList Tryz.prog ops Q (o::rest) a (w0.alloc (.cells #[.int .i64 0, .int .i64 0, .int .i64 0, .int .i64 0] 3)):=by
 have hB:Below w0.heap.size w0 (w0.alloc (.cells #[.int .i64 0, .int .i64 0, .int .i64 0, .int .i64 0] 3)):=bRf.alloc nL _
 have hrow:numsOwn (w0.alloc (.cells #[.int .i64 0, .int .i64 0, .int .i64 0, .int .i64 0] 3)) w0.heap.size (.slice (some ⟨w0.heap.size,0,none⟩) 4 4) [0,0,0,0]:=numsOwn_new rfl nL (by decide)
 have hsz:(w0.alloc (.cells #[.int .i64 0, .int .i64 0, .int .i64 0, .int .i64 0] 3)).heap.size=w0.heap.size+1:=by simp
 have hf: ∀j,(w0.alloc (.cells #[.int .i64 0, .int .i64 0, .int .i64 0, .int .i64 0] 3)).frozen? ⟨w0.heap.size,j,none⟩=false:=fun j=>World.frozen?_alloc_new _ _ _ j
 have hat:=ha.below (w:=w0) hB
 obtain⟨b,off,e0, -⟩:=ha 0 _ (List.getElem?_eq_getElem h0)
 cases e0
 have hl:(ws.map (Value.int .i64)).length=ws.length:=List.length_map _
 have key:=wpListG_copy_cells (P:=Tryz.prog) (w:=w0.alloc (.cells #[.int .i64 0, .int .i64 0, .int .i64 0, .int .i64 0] 3)) (Q:=Q) (rest:=rest) (ops:=ops) hgd s x 23 3 ho w0.heap.size 0 4 4 ⟨b,off,none⟩ ws.length cap (ws.map (Value.int .i64)) hs hx Tryz.underlying23 intOne (by rw[hl];exact(Nat.min_eq_left h4).symm)
  (fun j v hj=>by
    rw[List.getElem?_map] at hj
    obtain⟨y,hy,rfl⟩:=Option.map_eq_some_iff.1 hj
    obtain⟨b',off',e,hc⟩:=hat j y hy
    cases e
    rw[Addr.add_lit]
    exact hc)
  (fun j hj=>by
    rw[hl] at hj
    obtain⟨x,hx⟩: ∃x,([0,0,0,0]:List Int)[j]? =some x:=⟨_,List.getElem?_eq_getElem (show j<4 by omega)⟩
    rw[Nat.zero_add,(numsOwn_cell hrow hx).1]
    rfl)
  (fun j hj=>hf _)
  (fun v hv=>by
    obtain⟨y, -,rfl⟩:=List.mem_map.1 hv
    rfl)
 rw[hl] at key
 refine key (h _ (below_lay nL _ _ hB) ?_ (numsOwn_lay ws 0 hrow))
 rw[heap_lay,hsz]
theorem rowsInfoT: ∃i,(Tryz.prog).info? 23=some i/\i.zero=some (.slice none 0 0)/\i.size=1/\i.bytes=24:=info_parts (by kernel_rfl)
section
variable {base sb:Nat} {w1:World} {iv:Value} {vs:List Value} {I:List (List Int)} {rv:Value} {rs:List Value} {R:List (List Int)} {w:World}
def TAt(base sb:Nat)(w1:World)(rv:Value)(rs:List Value)(I R:List (List Int))(w:World):Prop:= ∃iv vs,TW base sb w1 [] iv vs I rv rs R w/\WD vs rs
theorem tlast_ok(h:TAt base sb w1 rv rs I R w)(h0:0<I.length)(h64:I.length<=64):Calls Tryz.prog 103 #[.pointer (some ⟨sb,0,none⟩)] w fun e w'=>e= .returned (.int .i64 I.length)/\Below w.heap.size w w':=by
 obtain⟨iv,vs,h, -⟩:=h
 have c1:=h.c1
 obtain⟨ai,ci,rfl,hci, -, -⟩:=ownsRow_shape h.oi
 have HN:=hide (fun w=>tname_ok (I.length - 1) (by omega) w)
 have wr:IntKind.i64.wrap ((I.length:Int) - 1)=((I.length - 1:Nat):Int):=by rw[IntKind.wrap_i64];omega
 have he:(((I.length - 1:Nat):Int)+1)=(I.length:Int):=by omega
 rw[he] at HN
 clear h he
 generalize I.length - 1=m at*
 generalize I.length=n at*
 go_enter Tryz.func103,Tryz.ntmps103
 go_wp2_with fail
 refine(HN.out _).mono ?_
 rintro e w2 ⟨rfl,hb⟩
 go_wp2_with fail
 go_ret
 exact⟨rfl,hb⟩
theorem tcell_ok (h:TAt base sb w1 rv rs I R w) {ad:Addr} {ws:List Int} {cap:Nat} (ha:numsAt (some ad) ws w) (h0:0<ws.length) (h4:ws.length<=4) (hI:I.length<=100):
  Calls Tryz.prog 102 #[.pointer (some ⟨sb,0,none⟩), .slice (some ad) ws.length cap] w fun e w'=>e= .returned (.tuple #[])/\TAt base sb w1 rv rs (I++[pad4 ws]) R w':=by
 obtain⟨iv,vs,h,hd⟩:=h
 have hm4:=make4
 have hbz:=h.bz
 have HH:=hide h
 have HD:=hide hd
 have HA:=hide ha
 obtain⟨ai,ci,hiv,hci, -, -⟩:=ownsRow_shape h.oi
 obtain⟨rii,hrii,hrz,hrs,hrb⟩:=rowsInfoT
 have hsl:=h.sl
 clear h hd ha
 go_enter Tryz.func102,Tryz.ntmps102
 go_wp2_with (refine wpList_copy_row (by rfl) _ _ (by rfl) ws h0 h4 ad cap (by rfl) (by rfl) HA.out ?_)
 intro w2 hB2 hs2 hrow
 have HR:=hide hrow
 have H2:=hide (HH.out.below hB2)
 have c1:=H2.out.c1
 rw[hiv] at c1
 have f1:=H2.out.fz 1
 clear hrow hB2
 generalize hnb:w.heap.size=nb at*
 go_wp2_with (at_builtin;refine wpList_append_own_at _ rfl _ _ 38 rfl base 23 rii (.slice none 0 0) 1 24 Tryz.underlying38 hrii hrz hrs hrb rfl (by decide) _ I.length vs rfl ?p0 ⟨nb+1,0,none⟩ 1 1 [.slice (some ⟨nb,0,none⟩) 4 4] rfl rfl ?p1 ?p2 ?p3 ?p4 ?p5 ?_)
 case p0=>
  rw[<-hiv]
  exact(H2.out.below (bRf.alloc nL _)).oi
 case p1=>
  intro k x hk
  cases k with
  | zero=>
   cases hk
   rw[Addr.add_lit, <-hs2]
   exact World.cell?_alloc_new _ _ _ _
  |succ k=>simp at hk
 case p2=>
  intro x hx
  obtain rfl:x= .slice (some ⟨nb,0,none⟩) 4 4:=by simpa using hx
  rfl
 case p3=>unfold maxLen;omega
 case p4=>omega
 case p5=>simp;omega
 intro v' w4 ho hg hnil hloc
 rw[<-hiv] at hg hloc
 have HH3:=hide (H2.out.below (bRf.alloc nL (.cells #[.slice (some ⟨nb,0,none⟩) 4 4] 23)))
 have hAp:Ap sb iv rv (.slice (some ⟨nb,0,none⟩) 4 4):=fun b e=>by
  obtain rfl:nb=b:=Option.some.inj e
  refine⟨by omega,fun e2=>?_,fun e2=>?_⟩
  ·have:=(HH.out.oi.lt _ e2).2;omega
  ·have:=(HH.out.or'.lt _ e2).2;omega
 have HRW:Hid (numsOwn (w2.alloc (.cells #[.slice (some ⟨nb,0,none⟩) 4 4] 23)) base (.slice (some ⟨nb,0,none⟩) 4 4) (pad4 ws)):=hide (numsOwn_mono (numsOwn_keep HR.out (bRf.alloc nL _)) hbz)
 have HT:Hid (TW base sb w1 [] v' (vs++[.slice (some ⟨nb,0,none⟩) 4 4]) (I++[pad4 ws]) rv rs R (w4.setCell ⟨sb,1,none⟩ v')):=hide (HH3.out.addI (us:=[.slice (some ⟨nb,0,none⟩) 4 4]) (rws:=[pad4 ws]) (fun k row hk=>by
  match k,hk with
  |0,hk=>cases hk;exact⟨_,rfl,HRW.out,hAp⟩) (N:=nb+1+1) (by simp;omega) ho hg hloc)
 have HWD:Hid (WD (vs++[.slice (some ⟨nb,0,none⟩) 4 4]) rs):=hide (HD.out.addI (u:= .slice (some ⟨nb,0,none⟩) 4 4) rfl (HH.out.old (show w.heap.size<=nb by omega)).1 (HH.out.old (show w.heap.size<=nb by omega)).2)
 obtain⟨kc,kf⟩:=HH3.out.box hg HH3.out.ni
 have d1:w4.cell? ⟨sb,1,none⟩=some (.slice ai I.length ci):=by rw[kc 1, <-hiv];exact HH3.out.c1
 have z1:=kf 1
 obtain⟨ag,cg,rfl, -, -, -⟩:=ownsRow_shape ho
 clear ho hg hnil hloc hAp HRW kc kf c1 f1 hrii hrz hrs hrb
 go_wp2_with fail
 go_end0
 exact⟨rfl,_,_,HT.out,HWD.out⟩
end
end
section
open Go.RowKit Go.Extern.Stop Go.Stop Go.Extern Go.Maps Go.WideMaps Go.Sort
variable {l:List (List Int)} {I R:List (List Int)} {ad:Option Addr} {rs:List Value} {base sb:Nat} {w w':World} {rv:Value} {w1:World}
theorem makeT8(w:World):(Instr.makeSlice 23 (.int .i64 8) (.int .i64 8)).run Tryz.prog w= .ok (.slice (some ⟨w.heap.size,0,none⟩) 8 8) (w.alloc (.cells #[.int .i64 0, .int .i64 0, .int .i64 0, .int .i64 0, .int .i64 0, .int .i64 0, .int .i64 0, .int .i64 0] 3)):=by kernel_rfl
def cellsAt(ad:Option Addr)(l:List (List Int))(w:World):Prop:= ∀(i:Nat) row,l[i]? =some row-> ∃b off x c,ad=some ⟨b,off,none⟩/\w.cell? ⟨b,off+i,none⟩=some (.slice (some x) row.length c)/\numsAt (some x) row w/\0<row.length/\row.length<=4
theorem cellsAt.below(h:cellsAt ad l w)(hb:Below w.heap.size w w'):cellsAt ad l w':=fun i row hr=>by
 obtain⟨b,off,x,c,e,h1,h2,h3⟩:=h i row hr
 exact⟨b,off,x,c,e,keep_cell hb h1,h2.below hb,h3⟩
def regRow(k:Int):List Int:=[0,0,0,0,0,k,0,0]
theorem TAt.below(h:TAt base sb w1 rv rs I R w)(hb:Below w.heap.size w w'):TAt base sb w1 rv rs I R w':=by
 obtain⟨iv,vs,h1,h2⟩:=h
 exact⟨iv,vs,h1.below hb,h2⟩
theorem TAt.low{w:World}(h:TAt base sb w1 rv rs I R w):Below base w1 w:=by
 obtain⟨iv,vs,h1,h2⟩:=h
 exact h1.low
theorem TAt.first(w:World){T:TypeId}:TAt w.heap.size w.heap.size w (.slice none 0 0) [] [] [] (w.alloc (.cells #[.int .i64 64, .slice none 0 0, .slice none 0 0] T)):=by
 refine⟨.slice none 0 0,[],⟨?_,?_,?_,fun o=>World.frozen?_alloc_new _ _ _ _,World.ownsRow_nil _ _ _ _,World.ownsRow_nil _ _ _ _,fun i row h=>by simp at h,fun i row h=>by simp at h,fun e=>(by cases e),fun e=>(by cases e),fun b e=>(by cases e),fun x hx=>absurd hx List.not_mem_nil,bRf.alloc nL _,Nat.le_refl _,by simp⟩,⟨fun i j u v b h=>by simp at h,fun i j u v b h=>by simp at h,fun i j u v b h=>by simp at h⟩⟩
 ·rw[World.cell?_alloc_new];rfl
 ·rw[World.cell?_alloc_new];rfl
 ·rw[World.cell?_alloc_new];rfl
theorem take_pad{k:Nat}{row:List Int}(h:l[k]? =some row):(l.take (k+1)).map pad4=(l.take k).map pad4++[pad4 row]:=by
 rw[List.take_add_one,h,List.map_append]
 rfl
theorem begin_ok {n:Nat} (hn:n<=6) {cap:Nat} {w:World} (h:cellsAt ad l w) (h0:0<l.length) (hl:l.length<=20):
  Calls Tryz.prog 56 #[.int .i64 n, .slice ad l.length cap] w fun e w'=> ∃sb rv rs,e= .returned (.pointer (some ⟨sb,0,none⟩))/\TAt w.heap.size sb w rv rs (l.map pad4) (List.replicate n (regRow l.length)) w':=by
 have HH:=hide h
 have HTF:=hide (TAt.first w (T:=207))
 have hm8:=makeT8
 obtain⟨rii,hrii,hrz,hrs,hrb⟩:=rowsInfoT
 obtain⟨m,hm⟩: ∃m,Hid (l.length=m):=⟨_,hide rfl⟩
 have HPL:Hid ((l.take m).map pad4=l.map pad4):=hide (by rw[<-hm.out,List.take_length])
 have HP0:Hid (((l.take 0).map pad4)=[]):=hide rfl
 rw[hm.out] at h0 hl ⊢
 clear h
 go_enter Tryz.func56,Tryz.ntmps56
 go_wp2_with fail
 have HT0:Hid (TAt w.heap.size w.heap.size w (.slice none 0 0) [] ((l.take 0).map pad4) [] (w.alloc (.cells #[.int .i64 64, .slice none 0 0, .slice none 0 0] 207))):=hide (by rw[HP0.out];exact HTF.out)
 clear HTF HP0
 go_loopw [7,14] (fun _ i wr=> ∃k:Nat,k<=m/\i= .int .i64 k/\Hid (TAt w.heap.size w.heap.size w (.slice none 0 0) [] ((l.take k).map pad4) [] wr)) (fun _ i _=>m - (intOf i).toNat)
 case atStart=>exact⟨0,Nat.zero_le _,rfl,HT0⟩
 case round =>
  clear HT0
  obtain⟨k,hk,rfl,HR⟩:=hrel
  by_cases hlt:k<m
  ·have ki:(k:Int)<m:=by omega
   obtain⟨row,hr⟩: ∃row,l[k]? =some row:=⟨_,List.getElem?_eq_getElem (by rw[hm.out];exact hlt)⟩
   obtain⟨b,off,x,c,rfl,c0,hx,h1,h4⟩:=HH.out.below HR.out.low k row hr
   have HS:=hide (take_pad hr)
   have HC:=hide (tcell_ok (cap:=c) HR.out hx h1 h4 (by rw[List.length_map,List.length_take];omega))
   clear hx h1 h4 hr HR
   go_wp2_with fail
   refine HC.out.mono ?_
   rintro e w2 ⟨rfl,h2⟩
   have HR2:Hid (TAt w.heap.size w.heap.size w (.slice none 0 0) [] ((l.take (k+1)).map pad4) [] w2):=hide (by rw[HS.out];exact h2)
   clear HC HS h2 c0
   go_wp2_with fail
   go_roundw
   case rel=>exact⟨k+1,by omega,by go_num,HR2⟩
   case measure=>simp[intOf];omega
  ·obtain rfl:k=m:=by omega
   have HQ0:Hid (∃rv rs,TAt w.heap.size w.heap.size w rv rs (l.map pad4) (List.replicate 0 (regRow k)) wr):=hide ⟨_,_,by rw[<-HPL.out];exact HR.out⟩
   have HLI:Hid ((l.map pad4).length=k):=hide (by rw[List.length_map,hm.out])
   clear HR HPL hm HH
   obtain⟨I,hIe⟩: ∃I,Hid (l.map pad4=I):=⟨_,hide rfl⟩
   rw[hIe.out] at HQ0 HLI
   obtain⟨W,rfl⟩: ∃W,W=wr:=⟨_,rfl⟩
   go_wp2_with fail
   go_loopw [8,23] (fun _ i wr=> ∃j:Nat,j<=n/\i= .int .i64 j/\Hid (∃rv rs,TAt w.heap.size w.heap.size w rv rs I (List.replicate j (regRow k)) wr)) (fun _ i _=>n - (intOf i).toNat)
   case atStart=>exact⟨0,Nat.zero_le _,rfl,HQ0⟩
   case round=>
    clear HQ0
    obtain⟨j,hj,rfl,HR⟩:=hrel
    by_cases hlt2:j<n
    ·have ji:(j:Int)<n:=by omega
     obtain⟨rv,rs,hT⟩:=HR.out
     have HT:=hide hT
     have HLA:=hide (fun W (hb:Below wr.heap.size wr W)=>tlast_ok (hT.below hb) (by rw[HLI.out];exact h0) (by rw[HLI.out];omega))
     rw[HLI.out] at HLA
     have b1:Below wr.heap.size wr (wr.alloc (.cells #[.int .i64 0, .int .i64 0, .int .i64 0, .int .i64 0, .int .i64 0, .int .i64 0, .int .i64 0, .int .i64 0] 3)):=bRf.alloc nL _
     have HROW:Hid (numsOwn (wr.alloc (.cells #[.int .i64 0, .int .i64 0, .int .i64 0, .int .i64 0, .int .i64 0, .int .i64 0, .int .i64 0, .int .i64 0] 3)) wr.heap.size (.slice (some ⟨wr.heap.size,0,none⟩) 8 8) [0,0,0,0,0,0,0,0]):=hide (numsOwn_new rfl nL (by decide))
     have HL1:=hide (HLA.out _ b1)
     have HB1:=hide b1
     clear hT HR HLA b1
     go_wp2_with fail
     refine HL1.out.mono ?_
     rintro e w2 ⟨rfl,hb2⟩
     have HROW2:=hide (numsOwn_keep HROW.out hb2)
     have HB2:=hide (below_step HB1.out hb2)
     have hn2:wr.heap.size+1<=w2.heap.size:=by have:=hb2.size;simpa using this
     obtain⟨k5,z5⟩:=numsOwn_cell HROW2.out (j:=5) (x:=0) rfl
     have HROW3:Hid (numsOwn (w2.setCell ⟨wr.heap.size,5,none⟩ (.int .i64 k)) wr.heap.size (.slice (some ⟨wr.heap.size,0,none⟩) 8 8) (regRow k)):=hide (numsOwn_set HROW2.out 5 k)
     have HB3:Hid (Below wr.heap.size wr (w2.setCell ⟨wr.heap.size,5,none⟩ (.int .i64 k))):=hide (HB2.out.setCell nL _)
     have hn3:wr.heap.size+1<=(w2.setCell ⟨wr.heap.size,5,none⟩ (.int .i64 k)).heap.size:=by simpa [World.setCell] using hn2
     clear HL1 hb2 HROW HB1 HROW2 HB2
     obtain⟨iv,vs,hT0,hD⟩:=HT.out
     have H0:=hide hT0
     have hT:=hT0.below HB3.out
     obtain⟨ar,cr,hrv,hcr, -, -⟩:=ownsRow_shape hT.or'
     rw[List.length_replicate] at hrv hcr
     have e2:=hT.c2
     rw[hrv] at e2
     have z2:=hT.fz 2
     have HT3:=hide hT
     have HD3:=hide hD
     clear hT hD hT0
     generalize hW3:w2.setCell ⟨wr.heap.size,5,none⟩ (.int .i64 k)=W3 at*
     go_wp2_with (at_builtin;refine wpList_append_own_at _ rfl _ _ 38 rfl w.heap.size 23 rii (.slice none 0 0) 1 24 Tryz.underlying38 hrii hrz hrs hrb rfl (by decide) _ j rs rfl ?p0 ⟨W3.heap.size,0,none⟩ 1 1 [.slice (some ⟨wr.heap.size,0,none⟩) 8 8] rfl rfl ?p1 ?p2 ?p3 ?p4 ?p5 ?_)
     case p0=>
      have:=(HT3.out.below (bRf.alloc nL (.cells #[.slice (some ⟨wr.heap.size,0,none⟩) 8 8] 23))).or'
      rw[List.length_replicate,hrv] at this
      exact this
     case p1=>
      intro q x hq
      cases q with
      |zero=>cases hq;rw[Addr.add_lit];exact World.cell?_alloc_new _ _ _ _
      |succ q=>simp at hq
     case p2=>
      intro x hx
      obtain rfl:x= .slice (some ⟨wr.heap.size,0,none⟩) 8 8:=by simpa using hx
      rfl
     case p3=>unfold maxLen;omega
     case p4=>omega
     case p5=>have:=HT3.out.bz;simp;omega
     intro v' w4 ho hg hnil hloc
     rw[<-hrv] at hg hloc
     have HH3:=hide (HT3.out.below (bRf.alloc nL (.cells #[.slice (some ⟨wr.heap.size,0,none⟩) 8 8] 23)))
     have hAp:Ap w.heap.size iv rv (.slice (some ⟨wr.heap.size,0,none⟩) 8 8):=fun b e=>by
      obtain rfl:wr.heap.size=b:=Option.some.inj e
      refine⟨by have:=H0.out.sl;omega,fun e2=>?_,fun e2=>?_⟩
      ·have:=(H0.out.oi.lt _ e2).2;omega
      ·have:=(H0.out.or'.lt _ e2).2;omega
     have HRW:Hid (numsOwn (W3.alloc (.cells #[.slice (some ⟨wr.heap.size,0,none⟩) 8 8] 23)) w.heap.size (.slice (some ⟨wr.heap.size,0,none⟩) 8 8) (regRow k)):=hide (numsOwn_mono (numsOwn_keep HROW3.out (bRf.alloc nL _)) H0.out.bz)
     have ho':w4.ownsRow w.heap.size 23 1 v' ((List.replicate j (regRow k)).length+[regRow k].length) (rs++[.slice (some ⟨wr.heap.size,0,none⟩) 8 8]):=by
      rw[List.length_replicate]
      exact ho
     have HT4:Hid (TAt w.heap.size w.heap.size w v' (rs++[.slice (some ⟨wr.heap.size,0,none⟩) 8 8]) I (List.replicate (j+1) (regRow k)) (w4.setCell ⟨w.heap.size,2,none⟩ v')):=hide (by
      refine⟨iv,vs,?_,HD3.out.addR (u:= .slice (some ⟨wr.heap.size,0,none⟩) 8 8) rfl (H0.out.old (show wr.heap.size<=wr.heap.size from Nat.le_refl _)).1 (H0.out.old (show wr.heap.size<=wr.heap.size from Nat.le_refl _)).2⟩
      have :=HH3.out.addR (us:=[.slice (some ⟨wr.heap.size,0,none⟩) 8 8]) (rws:=[regRow k]) (fun q row hq=>by
       match q,hq with
       |0,hq=>cases hq;exact⟨_,rfl,HRW.out,hAp⟩) (N:=(W3.alloc (.cells #[.slice (some ⟨wr.heap.size,0,none⟩) 8 8] 23)).heap.size) nL ho' hg (by simpa using hloc)
      rw[List.replicate_succ']
      exact this)
     obtain⟨kc,kf⟩:=HH3.out.box hg HH3.out.nr
     have d2:w4.cell? ⟨w.heap.size,2,none⟩=some (.slice ar j cr):=by rw[kc 2, <-hrv];exact HH3.out.c2
     have z2':=kf 2
     obtain⟨ag,cg,rfl, -, -, -⟩:=ownsRow_shape ho
     clear ho ho' hg hnil hloc hAp HRW kc kf e2 z2 k5 z5 hrii hrz hrs hrb
     go_wp2_with fail
     go_roundw
     case rel=>exact⟨j+1,by omega,by go_num,hide ⟨_,_,HT4.out⟩⟩
     case measure=>simp[intOf];omega
    ·obtain rfl:j=n:=by omega
     obtain⟨rv,rs,hT⟩:=HR.out
     have HT:=hide hT
     clear hT HR
     go_wp2_with fail
     go_ret
     exact⟨_,rv,rs,rfl,by rw[hIe.out];exact HT.out⟩
end
section
open Go.RowKit Go.Extern.Stop Go.Stop Go.Extern Go.Maps Go.WideMaps Go.Sort
section
variable {base sb:Nat} {w1:World} {rv:Value} {rs:List Value} {I R:List (List Int)} {w:World}
theorem TAt.rowI(h:TAt base sb w1 rv rs I R w){i:Nat}{row:List Int}(hi:I[i]? =some row)(h0:0<row.length): ∃ai ci g c,w.cell? ⟨sb,1,none⟩=some (.slice (some ⟨ai,0,none⟩) I.length ci)/\w.cell? ⟨ai,i,none⟩=some (.slice (some ⟨g,0,none⟩) row.length c)/\(∀j x,row[j]? =some x->w.cell? ⟨g,j,none⟩=some (.int .i64 x))/\(∀o,w.frozen? ⟨g,o,none⟩=false)/\ ∀w3,Below w.heap.size w w3-> ∀j x,TAt base sb w1 rv rs (I.set i (row.set j x)) R (w3.setCell ⟨g,j,none⟩ (.int .i64 x)):=by
 obtain⟨iv,vs,hT,hD⟩:=h
 obtain⟨ai,ci,e,hc, -,h3⟩:=ownsRow_shape hT.oi
 obtain⟨u,k1,k2, -⟩:=hT.ei i row hi
 obtain⟨ga,eg,cg⟩:=h3 i u k1
 obtain⟨g,c,rfl, -, -, -⟩:=numsOwn_form k2 h0
 subst eg
 have k2':=k2
 rcases k2' with⟨-,⟨e0, -⟩ |⟨g',c',cur,e0, -,hg, -⟩⟩
 ·cases e0
 ·cases e0
  exact⟨ga,ci,g,c,by rw[<-e];exact hT.c1,cg,fun j x hx=>(numsOwn_cell k2 hx).1,fun o=>frozen_of_row _ _ _ _ _ hg,fun w3 hb j x=>⟨iv,vs,(hT.below hb).setI hD hi k1 j x,hD⟩⟩
theorem TAt.rowR(h:TAt base sb w1 rv rs I R w){i:Nat}{row:List Int}(hi:R[i]? =some row)(h0:0<row.length): ∃ai ci g c,rv= .slice (some ⟨ai,0,none⟩) R.length ci/\w.cell? ⟨ai,i,none⟩=some (.slice (some ⟨g,0,none⟩) row.length c)/\(rs[i]? =some (.slice (some ⟨g,0,none⟩) row.length c))/\(∀j x,row[j]? =some x->w.cell? ⟨g,j,none⟩=some (.int .i64 x))/\(∀o,w.frozen? ⟨g,o,none⟩=false)/\ ∀w3,Below w.heap.size w w3-> ∀j x,TAt base sb w1 rv rs I (R.set i (row.set j x)) (w3.setCell ⟨g,j,none⟩ (.int .i64 x)):=by
 obtain⟨iv,vs,hT,hD⟩:=h
 obtain⟨ai,ci,e,hc, -,h3⟩:=ownsRow_shape hT.or'
 obtain⟨u,k1,k2, -⟩:=hT.er i row hi
 obtain⟨ga,eg,cg⟩:=h3 i u k1
 obtain⟨g,c,rfl, -, -, -⟩:=numsOwn_form k2 h0
 subst eg
 have k2':=k2
 rcases k2' with⟨-,⟨e0, -⟩ |⟨g',c',cur,e0, -,hg, -⟩⟩
 ·cases e0
 ·cases e0
  exact⟨ga,ci,g,c,e,cg,k1,fun j x hx=>(numsOwn_cell k2 hx).1,fun o=>frozen_of_row _ _ _ _ _ hg,fun w3 hb j x=>⟨iv,vs,(hT.below hb).setR hD hi k1 j x,hD⟩⟩
theorem TAt.head(h:TAt base sb w1 rv rs I R w): ∃ai ci,w.cell? ⟨sb,1,none⟩=some (.slice ai I.length ci):=by
 obtain⟨iv,vs,hT,hD⟩:=h
 obtain⟨ai,ci,e,hc, -,h3⟩:=ownsRow_shape hT.oi
 exact⟨ai,ci,by rw[<-e];exact hT.c1⟩
end
def linked(I:List (List Int))(b:Nat):Nat->List (List Int)
 |0=>I
 |k+1=>(linked I b k).set (b+k) (((linked I b k).getD (b+k) []).set 1 ((b+k:Nat)+2))
theorem linked_length(I:List (List Int))(b:Nat): ∀k:Nat,(linked I b k).length=I.length
 |0=>rfl
 | k+1=>by
  show((linked I b k).set _ _).length=_
  rw[List.length_set,linked_length I b k]
theorem linked_rows {I:List (List Int)} {b:Nat} (h: ∀row∈I,row.length=4): ∀k:Nat, ∀row∈linked I b k,row.length=4
 |0,row,hr=>h row hr
 | k+1,row,hr=>by
  obtain⟨i,hi,rfl⟩:=List.getElem_of_mem hr
  have h1:(linked I b (k+1))[i]? =some (linked I b (k+1))[i]:=List.getElem?_eq_getElem hi
  rcases get_set h1 with⟨e,e2⟩ |⟨-,e2⟩
  ·rw[e2,List.length_set]
   have hl:b+k<(linked I b k).length:=by rw[linked_length];rw[linked_length] at hi;omega
   rw[List.getD_eq_getElem?_getD,List.getElem?_eq_getElem hl]
   exact linked_rows h k _ (List.getElem_mem hl)
  ·exact linked_rows h k _ (List.mem_of_getElem? e2)
theorem chain_yes {base sb:Nat} {w1:World} {rv:Value} {rs:List Value} {I R:List (List Int)} {w:World} (h:TAt base sb w1 rv rs I R w) {f b n:Nat} (hf:1<=f/\f<=4) (h4:f≠4) (hI:I.length=b+1+n) (hI2:I.length<=60) (hrow: ∀row∈I,row.length=4):
  Calls Tryz.prog 106 #[.pointer (some ⟨sb,0,none⟩), .int .i64 f, .int .i64 ((b+1:Nat):Int)] w fun e w'=>e= .returned .nilIface/\TAt base sb w1 rv rs (linked I b n) R w':=by
 have HK:=hide (link_ok hf w)
 rw[show linkX f=1 from if_neg h4] at HK
 have H0:Hid (TAt base sb w1 rv rs (linked I b 0) R w):=hide h
 have HLL:=hide (linked_length I b)
 have HLR:=hide (fun k=>linked_rows (b:=b) hrow k)
 have HNM:=hide (fun(c:Nat) (hc:c<64) w=>tname_ok c hc w)
 clear h hf h4 hrow
 generalize (f:Int)=fi at*
 go_enter Tryz.func106,Tryz.ntmps106
 go_wp2_with fail
 refine HK.out.mono ?_
 rintro e w2 ⟨rfl,rfl⟩
 clear HK
 go_wp2_with fail
 go_loopw [7,9] (fun l i wr=> ∃k:Nat,k<=n/\l= .int .i64 1/\i= .int .i64 ((b+1+k:Nat):Int)/\Hid (TAt base sb w1 rv rs (linked I b k) R wr)) (fun _ i _=>b+1+n - (intOf i).toNat)
 case atStart=>exact⟨0,Nat.zero_le _,rfl,rfl,H0⟩
 case round=>
  clear H0
  obtain⟨k,hk,rfl,rfl,HR⟩:=hrel
  have hlen:=HLL.out k
  rw[hI] at hlen
  by_cases hlt:k<n
  ·have hb:b+k<(linked I b k).length:=by omega
   obtain⟨row,hr⟩: ∃row,(linked I b k)[b+k]? =some row:=⟨_,List.getElem?_eq_getElem hb⟩
   have hr4:=HLR.out k row (List.mem_of_getElem? hr)
   obtain⟨ai,ci,g,c,c1,c2,c3,c4,c5⟩:=HR.out.rowI hr (by omega)
   rw[hlen] at c1
   rw[hr4] at c2
   have ki:((b+1+k:Nat):Int)<((b+1+n:Nat):Int):=by omega
   have wr1:IntKind.i64.wrap (((b+1+k:Nat):Int) - 1)=((b+k:Nat):Int):=by rw[IntKind.wrap_i64];omega
   have wr2:IntKind.i64.wrap (((b+1+k:Nat):Int)+1)=((b+1+(k+1):Nat):Int):=by rw[IntKind.wrap_i64];omega
   have bi:((b+k:Nat):Int)<((b+1+n:Nat):Int):=by omega
   obtain⟨x1,hx1⟩: ∃x,row[1]? =some x:=⟨_,List.getElem?_eq_getElem (by omega)⟩
   have z1:=c4 1
   have d1:=c3 1 x1 hx1
   have HC:=hide (HNM.out (b+1+k) (by omega))
   have hx2:(((b+1+k:Nat):Int)+1)=((b+k:Nat):Int)+2:=by omega
   rw[hx2] at HC
   have HST:Hid (∀w3,Below wr.heap.size wr w3->TAt base sb w1 rv rs (linked I b (k+1)) R (w3.setCell ⟨g,1,none⟩ (.int .i64 (((b+k:Nat):Int)+2)))):=hide (fun w3 hb3=>by
    have h6:=c5 w3 hb3 1 (((b+k:Nat):Int)+2)
    have e:linked I b (k+1)=(linked I b k).set (b+k) (row.set 1 (((b+k:Nat):Int)+2)):=by
     show(linked I b k).set (b+k) (((linked I b k).getD (b+k) []).set 1 _)=_
     rw[List.getD_eq_getElem?_getD,hr]
     rfl
    rw[e]
    exact h6)
   clear c3 c4 c5 hx2
   obtain⟨q,hq⟩: ∃q,Hid (b+1+k=q):=⟨_,hide rfl⟩
   obtain⟨p,hp⟩: ∃p,Hid (b+k=p):=⟨_,hide rfl⟩
   obtain⟨N,hN⟩: ∃N,Hid (b+1+n=N):=⟨_,hide rfl⟩
   rw[hq.out] at ki wr1 wr2 HC ⊢
   rw[hp.out] at wr1 bi c2 HC HST
   rw[hN.out] at ki bi c1
   have p0: ¬(p:Int)<0:=by omega
   go_wp2_with fail
   go_region_with (go_at_call 29;refine(HC.out _).mono ?_;rintro e w3 ⟨rfl,hb3⟩;(have c1':=keep_cell hb3 c1);(have c2':=keep_cell hb3 c2);(have d1':=keep_cell hb3 d1);(have z1':=(hb3.frozen (bLt d1)).trans z1))
   all_goals
    have HN3:=hide (HST.out w3 (by first |exact hb3 |exact below_step (bRf.drew) hb3))
    clear HST
    go_wp2_with fail
    go_roundw
    case rel=>exact⟨k+1,by omega,rfl,(by first |(push_cast;rfl) |(simp;done)),HN3⟩
    case measure=>have hq2:=hq.out;simp[intOf];omega
  ·obtain rfl:k=n:=by omega
   obtain⟨ai,ci,c1⟩:=HR.out.head
   rw[hlen] at c1
   go_wp2_with fail
   go_ret
   exact⟨rfl,HR.out⟩
end
end Go.Proofs.YtnoigmdmgdcliaaGreatDoor
