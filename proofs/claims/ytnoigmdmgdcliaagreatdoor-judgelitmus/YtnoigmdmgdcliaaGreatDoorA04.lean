import Derived.Test.YtnoigmdmgdcliaaGreatDoorA03
import Derived.BigQuiet
import Derived.Deep.OwnRows
namespace Go.Proofs.YtnoigmdmgdcliaaGreatDoor
set_option maxRecDepth 100000
set_option maxHeartbeats 8000000
section
open Go.RowKit Go.Extern.Stop Go.Stop Go.Extern
theorem wtCells_length(l:List Wt):(wtCells l).length=l.length*4:=by
 induction l with
 |nil=>rfl
 | cons x l ih=>
  rw[show wtCells (x::l)=x.cells++wtCells l from rfl,List.length_append,ih]
  simp[Wt.cells];omega
theorem wtCells_at (l:List Wt) (i:Nat) (x:Wt) (h:l[i]? =some x):
  (wtCells l)[i*4]? =some (.int .i64 x.c)/\(wtCells l)[i*4+1]? =some (.int .i64 x.g)/\(wtCells l)[i*4+2]? =some (.int .i64 x.w)/\(wtCells l)[i*4+3]? =some (.int .i64 x.v):=by
 induction l generalizing i with
 |nil=>simp at h
 | cons y l ih=>
  rw[show wtCells (y::l)=y.cells++wtCells l from rfl]
  have hy:y.cells.length=4:=rfl
  cases i with
  | zero=>
   simp only[List.getElem?_cons_zero,Option.some.injEq] at h
   subst h
   exact⟨rfl,rfl,rfl,rfl⟩
  | succ i=>
   simp only[List.getElem?_cons_succ] at h
   have:=ih i h
   rw [List.getElem?_append_right (by rw[hy];omega),List.getElem?_append_right (by rw[hy];omega),List.getElem?_append_right (by rw[hy];omega),List.getElem?_append_right (by rw[hy];omega),hy,
    show(i+1)*4 - 4=i*4 by omega,show(i+1)*4+1 - 4=i*4+1 by omega,show(i+1)*4+2 - 4=i*4+2 by omega,show(i+1)*4+3 - 4=i*4+3 by omega]
   exact this
theorem ownsRow_shape{w:World}{base:Nat}{e:TypeId}{size:Nat}{v:Value}{n:Nat}{xs:List Value}(h:w.ownsRow base e size v n xs):
  ∃ad cap,v= .slice ad n cap/\n<=cap/\cap<=maxLen/\ ∀j u,xs[j]? =some u-> ∃g,ad=some ⟨g,0,none⟩/\w.cell? ⟨g,j,none⟩=some u:=by
 have h':=h
 obtain⟨h1,h2⟩:=h
 rcases h2 with⟨rfl,rfl⟩ |⟨g,cap,cur,rfl,hg,hh,hn,hm,r⟩
 ·refine⟨none,0,rfl,Nat.le_refl _,Nat.zero_le _,fun j u hj=>?_⟩
  have:xs=[]:=List.length_eq_zero_iff.1 (by omega)
  subst this
  simp at hj
 ·refine⟨_,cap,rfl,hn,hm,fun j u hj=>⟨g,rfl,?_⟩⟩
  have hlt:j<xs.length:=(List.getElem?_eq_some_iff.1 hj).1
  rw[h'.cellAt j (by omega)]
  exact hj
def Wt.pick(c g k:Int)(v:Int)(x:Wt):Int:=if x.c=c/\x.g=g/\x.w=k then x.v else v
end
section
open Go.RowKit
def Rm.setThere(s:Rm)(c:Nat)(t:Bool):Rm:={ s with ar:=s.ar.setThere c t }
def Rm.setWord(s:Rm)(c k:Nat)(v:Int):Rm:={ s with ar:=s.ar.setWord c k v }
def Rm.setGiven(s:Rm)(c g:Nat):Rm:={ s with ar:=s.ar.setGiven c g }
def Ar.zero(s:Ar)(c:Nat):Ar:={ s with words:=fun j k=>if j=c/\k<4 then 0 else s.words j k }
def Rm.zero(s:Rm)(c:Nat):Rm:={ s with ar:=s.ar.zero c }
def Rm.give(s:Rm)(c:Nat):Rm:={ s with ar:=s.ar.give c }
theorem Rm.give_eq(s:Rm)(c:Nat):((s.zero c).setGiven c (s.ar.given c+1)).setThere c true=s.give c:=rfl
end
section
open Go.RowKit Go.Extern.Stop Go.Stop Go.Extern
theorem make4(w:World):(Instr.makeSlice 23 (.int .i64 4) (.int .i64 4)).run Tryz.prog w= .ok (.slice (some ⟨w.heap.size,0,none⟩) 4 4) (w.alloc (.cells #[.int .i64 0, .int .i64 0, .int .i64 0, .int .i64 0] 3)):=by kernel_rfl
end
section
open Go.RowKit Go.Extern.Stop Go.Stop Go.Extern
def Rm.fresh(cells threads:Nat):Rm:=⟨⟨cells,fun _ _=>0,fun _=>false,fun _=>0⟩,threads,fun _=>[]⟩
theorem heap_new(w:World)(o:Obj):(w.alloc o).heap[w.heap.size]? =some o:=by show(w.heap.push o)[w.heap.size]? =_;simp
end
end Go.Proofs.YtnoigmdmgdcliaaGreatDoor
