import Derived.Test.YtdpmnlbnlnmjbaaGreatDoorJ31
import Derived.Test.YtdpmnlbnlnmjbaaGreatDoorJ06
import Derived.Deep.RegionLaw
import Derived.Test.YtdpmnlbnlnmjbaaGreatDoorJ13
import Derived.Test.YtdpmnlbnlnmjbaaGreatDoorJ20

/- RsE -/
namespace Go.Proofs.YtdpmnlbnlnmjbaaGreatDoor
open Go.RowKit Go.Extern.Stop Go.Stop Go.Extern Go.Maps Go.WideMaps Go.Sort

theorem thrInfo : ∃ i, Tryz.prog.info? 57 = some i ∧ i.zero = some (.agg #[.slice none 0 0, .slice none 0 0, .int .i64 0]) ∧ i.size = 3 ∧ i.bytes = 56 := info_parts (by kernel_rfl)
theorem make8 (w : World) : (Instr.makeSlice 26 (.int .i64 8) (.int .i64 8)).run Tryz.prog w = .ok (.slice (some ⟨w.heap.size, 0, none⟩) 8 8) (w.alloc (.cells #[.int .i64 0, .int .i64 0, .int .i64 0, .int .i64 0, .int .i64 0, .int .i64 0, .int .i64 0, .int .i64 0] 3)) := by kernel_rfl

structure ThrV where
  ad : Option Addr
  n : Nat
  cap : Nat
  rb : Nat
deriving Inhabited
def ThrV.cells (x : ThrV) : List Value := [.slice x.ad x.n x.cap, .slice (some ⟨x.rb, 0, none⟩) 8 8, .int .i64 0]
def thrCells (T : List ThrV) : List Value := T.flatMap ThrV.cells
theorem thrCells_append (T : List ThrV) (x : ThrV) : thrCells (T ++ [x]) = thrCells T ++ x.cells := by simp [thrCells]
theorem thrCells_at {T : List ThrV} {i : Nat} {x : ThrV} (h : T[i]? = some x) : (thrCells T)[i * 3]? = some (.slice x.ad x.n x.cap) ∧ (thrCells T)[i * 3 + 1]? = some (.slice (some ⟨x.rb, 0, none⟩) 8 8) ∧ (thrCells T)[i * 3 + 2]? = some (.int .i64 0) := by
  induction T generalizing i with
  | nil => simp at h
  | cons y T ih =>
    have e : thrCells (y :: T) = .slice y.ad y.n y.cap :: .slice (some ⟨y.rb, 0, none⟩) 8 8 :: .int .i64 0 :: thrCells T := rfl
    rw [e]
    cases i with
    | zero => cases h; exact ⟨rfl, rfl, rfl⟩
    | succ i =>
      have := ih (i := i) (by simpa using h)
      rw [show (i + 1) * 3 = i * 3 + 1 + 1 + 1 by omega]
      simpa using this

structure Nm2 (w0 w : World) (bs k : Nat) (s : Sta) (cs : List (List Ins)) (sr : Value) (rp : RmPl) (R : Rm) (T : List ThrV) (v : Value) (W : World) : Prop where
  mem : RmAt rp R W
  fp : ∀ b, rp.fp R b → w.heap.size ≤ b ∧ b ≠ k ∧ b ≠ bs
  gk : w.heap.size ≤ k
  gs : w.heap.size ≤ bs
  ks : k ≠ bs
  k0 : W.cell? ⟨k, 0, none⟩ = some (.pointer (some ⟨rp.mb, 0, none⟩))
  k1 : W.cell? ⟨k, 1, none⟩ = some v
  k2 : W.cell? ⟨k, 2, none⟩ = some (.slice none 0 0)
  k3 : W.cell? ⟨k, 3, none⟩ = some (.int .i64 0)
  fk : ∀ o, W.frozen? ⟨k, o, none⟩ = false
  s2 : W.cell? ⟨bs, 2, none⟩ = some sr
  bw : Below w.heap.size w W
  own : W.ownsRow w.heap.size 57 3 v T.length (thrCells T)
  vb : ∀ b, v.ownBlock = some b → b ≠ k ∧ b ≠ bs ∧ ¬ rp.fp R b
  h0 : Below w0.heap.size w0 w
  code : ∀ (t : Nat) x, T[t]? = some x → ∃ L, cs[t]? = some L ∧ x.n = L.length ∧ L.length ≤ x.cap ∧ insAt x.ad L w0
  regs : ∀ (t : Nat) x, T[t]? = some x → (∀ r, r < 8 → W.cell? ⟨x.rb, r, none⟩ = some (.int .i64 (rowAt s.regs t r))) ∧ (∀ o, W.frozen? ⟨x.rb, o, none⟩ = false)
  rne : ∀ (t : Nat) x, T[t]? = some x → w.heap.size ≤ x.rb ∧ x.rb ≠ k ∧ x.rb ≠ bs ∧ ¬ rp.fp R x.rb ∧ v.ownBlock ≠ some x.rb
  dist : ∀ (t u : Nat) x y, T[t]? = some x → T[u]? = some y → t ≠ u → x.rb ≠ y.rb

section
variable {w0 w : World} {bs k : Nat} {s : Sta} {cs : List (List Ins)} {sr : Value} {rp : RmPl} {R : Rm} {T : List ThrV} {v : Value} {W : World}
theorem Nm2.rlt (h : Nm2 w0 w bs k s cs sr rp R T v W) {t : Nat} {x : ThrV} (hx : T[t]? = some x) : x.rb < W.heap.size := World.block_lt_of_cell? _ _ ((h.regs t x hx).1 0 (by decide))
theorem Nm2.below (h : Nm2 w0 w bs k s cs sr rp R T v W) {W' : World} (hb : Below W.heap.size W W') : Nm2 w0 w bs k s cs sr rp R T v W' :=
  have lk : k < W.heap.size := World.block_lt_of_cell? _ _ h.k0
  ⟨h.mem.below hb, h.fp, h.gk, h.gs, h.ks, keep_cell hb h.k0, keep_cell hb h.k1, keep_cell hb h.k2, keep_cell hb h.k3, fun o => by rw [hb.frozen lk]; exact h.fk o, keep_cell hb h.s2, h.bw.trans (hb.mono h.bw.size),
    ownsRow_block h.own (fun b hb' => hb.block _ (h.own.lt b hb').2), h.vb, h.h0, h.code, fun t x hx => ⟨fun r hr => keep_cell hb ((h.regs t x hx).1 r hr), fun o => by rw [hb.frozen (h.rlt hx)]; exact (h.regs t x hx).2 o⟩, h.rne, h.dist⟩

theorem Nm2.add (h : Nm2 w0 w bs k s cs sr rp R T v W) {x : ThrV} {L : List Ins} (hL : cs[T.length]? = some L) (h1 : x.n = L.length) (h2 : L.length ≤ x.cap) (h3 : insAt x.ad L w0)
    {W0 : World} (hr0 : W0.heap.size ≤ x.rb) (hv0 : ∀ b, v.ownBlock = some b → b < W0.heap.size) (hf0 : ∀ b, rp.fp R b → b < W0.heap.size) (hrr0 : ∀ (t : Nat) y, T[t]? = some y → y.rb < W0.heap.size) (hk0 : k < W0.heap.size) (hb0 : bs < W0.heap.size)
    (hr1 : ∀ r, r < 8 → W.cell? ⟨x.rb, r, none⟩ = some (.int .i64 (rowAt s.regs T.length r))) (hr2 : ∀ o, W.frozen? ⟨x.rb, o, none⟩ = false) (hw0 : w.heap.size ≤ W0.heap.size)
    {W9 : World} {v' : Value} (hown : W9.ownsRow w.heap.size 57 3 v' (T.length + 1) (thrCells (T ++ [x]))) (hz : W.heap.size ≤ W9.heap.size)
    (hos : W9.os = W.os) (htp : W9.tape = W.tape) (hou : W9.output = W.output)
    (hg : ∀ b, b < W.heap.size → v.ownBlock ≠ some b → W9.heap[b]? = W.heap[b]?) (hat : ∀ b, v'.ownBlock = some b → v.ownBlock = some b ∨ W.heap.size ≤ b) :
    Nm2 w0 w bs k s cs sr rp R (T ++ [x]) v' (W9.setCell ⟨k, 1, none⟩ v') := by
  have lk : k < W.heap.size := World.block_lt_of_cell? _ _ h.k0
  have ls : bs < W.heap.size := World.block_lt_of_cell? _ _ h.s2
  have nk : v.ownBlock ≠ some k := fun e => (h.vb k e).1 rfl
  have ns : v.ownBlock ≠ some bs := fun e => (h.vb bs e).2.1 rfl
  have xlt : x.rb < W.heap.size := World.block_lt_of_cell? _ _ (hr1 0 (by decide))
  have xv : v.ownBlock ≠ some x.rb := fun e => by have := hv0 _ e; omega
  have c9 : ∀ b o, b < W.heap.size → v.ownBlock ≠ some b → W9.cell? ⟨b, o, none⟩ = W.cell? ⟨b, o, none⟩ := fun b o hb hn => World.cell?_of_block (hg b hb hn)
  have f9 : ∀ b o, b < W.heap.size → v.ownBlock ≠ some b → W9.frozen? ⟨b, o, none⟩ = W.frozen? ⟨b, o, none⟩ := fun b o hb hn => World.frozen?_of_block (hg b hb hn)
  have T1 : Turns (fun b _ => v.ownBlock = some b ∨ b = k) W (W9.setCell ⟨k, 1, none⟩ v') := by
    refine Turns.setCell (h := ?_) _ (Or.inr rfl)
    exact ⟨hos, htp, hou, hz, fun b hb ho => hg b hb (fun e => ho 0 (Or.inl e)), fun b o hb ho => c9 b o hb (fun e => ho (Or.inl e)), fun b o hb ho => f9 b o hb (fun e => ho (Or.inl e))⟩
  have nv : ∀ b, v'.ownBlock = some b → b ≠ k ∧ b ≠ bs ∧ ¬ rp.fp R b ∧ b ≠ x.rb := fun b e => by
    rcases hat b e with e1 | e1
    · obtain ⟨a1, a2, a3⟩ := h.vb b e1
      exact ⟨a1, a2, a3, fun e2 => by have := hv0 b e1; omega⟩
    · exact ⟨by omega, by omega, fun e2 => by have := h.mem.fp_lt e2; omega, by omega⟩
  have get : ∀ {t : Nat} {y : ThrV}, (T ++ [x])[t]? = some y → (T[t]? = some y ∧ t < T.length) ∨ (y = x ∧ t = T.length) := fun {t y} hy => by
    rcases Nat.lt_or_ge t T.length with h' | h'
    · rw [List.getElem?_append_left h'] at hy; exact Or.inl ⟨hy, h'⟩
    · rw [List.getElem?_append_right h'] at hy
      cases hd : t - T.length with
      | zero => rw [hd] at hy; simp at hy; exact Or.inr ⟨hy.symm, by omega⟩
      | succ n => rw [hd] at hy; simp at hy
  refine ⟨h.mem.turns T1 (fun b o e1 e2 => ?_), h.fp, h.gk, h.gs, h.ks, ?_, World.cell?_setCell_same _ _ _ ((c9 k 1 lk nk).trans h.k1), ?_, ?_, fun o => by rw [World.frozen?_setCell, f9 k o lk nk]; exact h.fk o, ?_, ?_, ?_, fun b e => ⟨(nv b e).1, (nv b e).2.1, (nv b e).2.2.1⟩, h.h0, fun t y hy => ?_, fun t y hy => ?_, fun t y hy => ?_, fun t u y z hy hz' hne => ?_⟩
  · rcases e2 with e2 | e2
    · exact (h.vb b e2).2.2 e1
    · exact (h.fp b e1).2.1 e2
  · exact cell_ne ((c9 k 0 lk nk).trans h.k0) (Or.inr (by decide))
  · exact cell_ne ((c9 k 2 lk nk).trans h.k2) (Or.inr (by decide))
  · exact cell_ne ((c9 k 3 lk nk).trans h.k3) (Or.inr (by decide))
  · exact cell_ne ((c9 bs 2 ls ns).trans h.s2) (Or.inl h.ks.symm)
  · refine h.bw.trans (T1.below h.bw.size (fun b o hb e => ?_))
    rcases e with e | e
    · have := (h.own.lt b e).1; omega
    · have := h.gk; omega
  · rw [List.length_append]
    exact ownsRow_block hown (fun b e => Below.heap_setCell _ _ _ _ (nv b e).1)
  · rcases get hy with ⟨h', -⟩ | ⟨rfl, rfl⟩
    · exact h.code t y h'
    · exact ⟨L, hL, h1, h2, h3⟩
  · rcases get hy with ⟨h', -⟩ | ⟨rfl, rfl⟩
    · obtain ⟨a1, a2, a3, a4, a5⟩ := h.rne t y h'
      have l := h.rlt h'
      exact ⟨fun r hr => cell_ne ((c9 _ r l a5).trans ((h.regs t y h').1 r hr)) (Or.inl a2), fun o => by rw [World.frozen?_setCell, f9 _ o l a5]; exact (h.regs t y h').2 o⟩
    · exact ⟨fun r hr => cell_ne ((c9 _ r xlt xv).trans (hr1 r hr)) (Or.inl (by omega)), fun o => by rw [World.frozen?_setCell, f9 _ o xlt xv]; exact hr2 o⟩
  · rcases get hy with ⟨h', -⟩ | ⟨rfl, rfl⟩
    · obtain ⟨a1, a2, a3, a4, a5⟩ := h.rne t y h'
      refine ⟨a1, a2, a3, a4, fun e => ?_⟩
      rcases hat _ e with e1 | e1
      · exact a5 e1
      · have := h.rlt h'; omega
    · exact ⟨by omega, by omega, by omega, fun e => by have := hf0 _ e; omega, fun e => (nv _ e).2.2.2 rfl⟩
  · rcases get hy with ⟨h', -⟩ | ⟨rfl, e1⟩
    · rcases get hz' with ⟨h'', -⟩ | ⟨rfl, e2⟩
      · exact h.dist t u y z h' h'' hne
      · have := hrr0 t y h'; omega
    · rcases get hz' with ⟨h'', -⟩ | ⟨rfl, e2⟩
      · have := hrr0 u z h''; omega
      · omega

theorem Nm2.done (h : Nm2 w0 w bs k s cs sr rp (s.mach cs.length).mem T v W) (hn : T.length = cs.length) (h1 : 1 ≤ cs.length) (h6 : cs.length ≤ 6) : ∃ p : RkPl, p.k = k ∧ p.B = w0.heap.size ∧ RkAt cs p (s.mach cs.length) W ∧ ∀ b, p.fp cs.length (s.mach cs.length).mem b → w.heap.size ≤ b := by
  obtain ⟨ad, cap, hv, hc, hm, hcell⟩ := ownsRow_shape h.own
  have get : ∀ t, t < cs.length → ∃ x, T[t]? = some x := fun t ht => ⟨_, List.getElem?_eq_getElem (by omega)⟩
  obtain ⟨x0, hx0⟩ := get 0 h1
  obtain ⟨g, hg, -⟩ := hcell (0 * 3) _ (thrCells_at hx0).1
  subst hg
  have cl : ∀ j u, (thrCells T)[j]? = some u → W.cell? ⟨g, j, none⟩ = some u := fun j u hj => by
    obtain ⟨g', e1, e2⟩ := hcell j u hj
    cases e1; exact e2
  have gb : v.ownBlock = some g := by rw [hv]; rfl
  have gl := (h.own.lt g gb).2
  have gd : ∀ t x, T[t]? = some x → T.getD t default = x := fun t x hx => by rw [List.getD_eq_getElem?_getD, hx]; rfl
  have frz : ∀ o, W.frozen? ⟨g, o, none⟩ = false := fun o => by
    rcases h.own.2 with ⟨e, -⟩ | ⟨g', cap', cur, e, -, hh, -⟩
    · rw [hv] at e; cases e
    · rw [hv] at e; cases e
      simp [World.frozen?, hh]
  obtain ⟨v1, v2, v3⟩ := h.vb g gb
  refine ⟨⟨w0.heap.size, rp, k, g, cap, fun t => (T.getD t default).ad, fun t => (T.getD t default).cap, fun t => (T.getD t default).rb, fun _ => 8, .slice none 0 0⟩, rfl, rfl, ?_⟩
  have rx : ∀ t, t < cs.length → ∃ x, T[t]? = some x ∧ (T.getD t default).rb = x.rb := fun t ht => by
    obtain ⟨x, hx⟩ := get t ht
    exact ⟨x, hx, by rw [gd t x hx]⟩
  have cx : ∀ (t : Nat) L, cs[t]? = some L → ∃ x, T[t]? = some x ∧ T.getD t default = x ∧ x.n = L.length ∧ L.length ≤ x.cap ∧ insAt x.ad L w0 := fun t L hL => by
    obtain ⟨x, hx⟩ := get t (List.getElem?_eq_some_iff.1 hL).1
    obtain ⟨L', e1, e2, e3, e4⟩ := h.code t x hx
    rw [hL] at e1; cases e1
    exact ⟨x, hx, gd t x hx, e2, e3, e4⟩
  have hge : ∀ b, (⟨w0.heap.size, rp, k, g, cap, fun t => (T.getD t default).ad, fun t => (T.getD t default).cap, fun t => (T.getD t default).rb, fun _ => 8, .slice none 0 0⟩ : RkPl).fp cs.length (s.mach cs.length).mem b → w.heap.size ≤ b := fun b hb => by
    rcases hb with e | e | ⟨t, ht, e⟩ | e | e
    · rw [e]; exact h.gk
    · rw [e]; exact (h.own.lt g gb).1
    · obtain ⟨x, hx, e2⟩ := rx t ht
      have e3 : b = (T.getD t default).rb := e
      rw [e3, e2]; exact (h.rne t x hx).1
    · cases e
    · exact (h.fp b e).1
  refine ⟨?_, hge⟩
  exact {
    rc := ⟨w0, fun t L hL => by obtain ⟨x, -, e, -, -, e4⟩ := cx t L hL; show insAt (T.getD t default).ad L w0; rw [e]; exact e4, rfl, below_step h.h0 h.bw⟩
    mem := h.mem
    thr := rfl
    few := h6
    tcap := by show cs.length ≤ cap; omega
    mM := h.k0
    mT := by rw [h.k1, hv, hn]
    mMarks := h.k2
    mFaults := h.k3
    tCode := fun t L hL => by
      obtain ⟨x, hx, e, e2, -⟩ := cx t L hL
      show W.cell? ⟨g, t * 3, none⟩ = some (.slice (T.getD t default).ad L.length (T.getD t default).cap)
      rw [e, ← e2]
      exact cl _ _ (thrCells_at hx).1
    ccap := fun t L hL => by obtain ⟨x, -, e, -, e3, -⟩ := cx t L hL; show L.length ≤ (T.getD t default).cap; rw [e]; exact e3
    tRegs := fun t ht => by
      obtain ⟨x, hx⟩ := get t ht
      show W.cell? ⟨g, t * 3 + 1, none⟩ = some (.slice (some ⟨(T.getD t default).rb, 0, none⟩) 8 8)
      rw [gd t x hx]
      exact cl _ _ (thrCells_at hx).2.1
    tAt := fun t ht => by
      obtain ⟨x, hx⟩ := get t ht
      exact cl _ _ (thrCells_at hx).2.2
    rcap := fun _ _ => Nat.le_refl _
    regs := fun t r ht hr => by
      obtain ⟨x, hx, e⟩ := rx t ht
      show W.cell? ⟨(T.getD t default).rb, r, none⟩ = some (.int .i64 (rowAt s.regs t r))
      rw [e]
      exact (h.regs t x hx).1 r hr
    own := World.ownsRow_nil _ _ _ _
    fk := h.fk
    ft := frz
    fr := fun t o ht => by obtain ⟨x, hx, e⟩ := rx t ht; show W.frozen? ⟨(T.getD t default).rb, o, none⟩ = false; rw [e]; exact (h.regs t x hx).2 o
    lt' := gl
    d1 := fun e => v1 e.symm
    d2 := fun t ht => by
      obtain ⟨x, hx, e⟩ := rx t ht
      obtain ⟨a1, a2, a3, a4, a5⟩ := h.rne t x hx
      show (T.getD t default).rb ≠ k ∧ (T.getD t default).rb ≠ g
      rw [e]
      exact ⟨a2, fun e2 => a5 (by rw [gb, e2])⟩
    d3 := fun t u ht hu hne => by
      obtain ⟨x, hx, e⟩ := rx t ht
      obtain ⟨y, hy, e2⟩ := rx u hu
      show (T.getD t default).rb ≠ (T.getD u default).rb
      rw [e, e2]
      exact h.dist t u x y hx hy hne
    d4 := fun b e => by cases e
    d5 := fun b hb => ⟨(h.fp b hb).2.1, fun e => v3 (by have e' : b = g := e; rw [← e']; exact hb), fun t ht => by
      obtain ⟨x, hx, e⟩ := rx t ht
      show b ≠ (T.getD t default).rb
      rw [e]
      exact fun e2 => (h.rne t x hx).2.2.2.1 (by rw [← e2]; exact hb), fun e => by cases e⟩
    ge := fun b hb => Nat.le_trans h.h0.size (hge b hb) }
end
end Go.Proofs.YtdpmnlbnlnmjbaaGreatDoor

/- RsF -/
namespace Go.Proofs.YtdpmnlbnlnmjbaaGreatDoor
open Go.RowKit Go.Extern.Stop Go.Stop Go.Extern Go.Maps Go.WideMaps Go.Sort

theorem Nm1.start {w0 w : World} {bs k : Nat} {sv : Array Value} {mb : Nat} {s : Sta} {cs : List (List Ins)} {sr : Value} {rp : RmPl} {R : Rm} {W : World} (h : Nm1 w bs k sv #[.pointer (some ⟨mb, 0, none⟩), .slice none 0 0, .slice none 0 0, .int .i64 0] mb rp R W) (hs : sv[2]? = some sr) (hk : k ≠ bs) (h0 : Below w0.heap.size w0 w) : Nm2 w0 w bs k s cs sr rp R [] (.slice none 0 0) W := by
  have ck : ∀ o u, (#[.pointer (some ⟨mb, 0, none⟩), .slice none 0 0, .slice none 0 0, .int .i64 0] : Array Value)[o]? = some u → W.cell? ⟨k, o, none⟩ = some u := fun o u hu => by
    simp [World.cell?, h.bk, hu]
  refine ⟨h.mem, h.fp, h.gk, h.gs, hk, by rw [h.emb]; exact ck 0 _ rfl, ck 1 _ rfl, ck 2 _ rfl, ck 3 _ rfl, fun o => by simp [World.frozen?, h.bk], ?_, h.bw, World.ownsRow_nil _ _ _ _, fun b e => (by cases e), h0, fun t x hx => (by simp at hx), fun t x hx => (by simp at hx), fun t x hx => (by simp at hx), fun t u x y hx => (by simp at hx)⟩
  simp [World.cell?, h.bb, hs]

structure ThrAt (wr : World) (rb bx : Nat) (A : Value) (f : Nat → Int) (W : World) : Prop where
  b : Below wr.heap.size wr W
  gr : wr.heap.size ≤ rb
  gx : wr.heap.size ≤ bx
  ne : bx ≠ rb
  x0 : W.cell? ⟨bx, 0, none⟩ = some A
  x1 : W.cell? ⟨bx, 1, none⟩ = some (.slice (some ⟨rb, 0, none⟩) 8 8)
  x2 : W.cell? ⟨bx, 2, none⟩ = some (.int .i64 0)
  reg : ∀ r, r < 8 → W.cell? ⟨rb, r, none⟩ = some (.int .i64 (f r))
  fz : ∀ o, W.frozen? ⟨rb, o, none⟩ = false
theorem zero8 {r : Nat} (hr : r < 8) : (#[.int .i64 0, .int .i64 0, .int .i64 0, .int .i64 0, .int .i64 0, .int .i64 0, .int .i64 0, .int .i64 0] : Array Value)[r]? = some (.int .i64 0) := by
  match r, hr with
  | 0, _ => rfl
  | 1, _ => rfl
  | 2, _ => rfl
  | 3, _ => rfl
  | 4, _ => rfl
  | 5, _ => rfl
  | 6, _ => rfl
  | 7, _ => rfl
theorem cell_two (w : World) (C D : Array Value) (ty uy : TypeId) (o : Nat) (u : Value) (h : C[o]? = some u) : ((w.alloc (.cells C ty)).alloc (.cells D uy)).cell? ⟨w.heap.size, o, none⟩ = some u := by
  have := (blk3 w (.cells C ty) (.cells D uy) (.cells D uy))
  rw [cell_new (w := w.alloc (.cells C ty)) (v := u)]
  rw [World.cell?_alloc_new]; exact h
theorem cell_two' (w : World) (C D : Array Value) (ty uy : TypeId) (o : Nat) (u : Value) (h : D[o]? = some u) : ((w.alloc (.cells C ty)).alloc (.cells D uy)).cell? ⟨w.heap.size + 1, o, none⟩ = some u := by
  have e : (w.alloc (.cells C ty)).heap.size = w.heap.size + 1 := by simp
  rw [← e, World.cell?_alloc_new]; exact h
theorem fz_two (w : World) (C D : Array Value) (ty uy : TypeId) (o : Nat) : ((w.alloc (.cells C ty)).alloc (.cells D uy)).frozen? ⟨w.heap.size, o, none⟩ = false := by
  have hb := (Below.refl (w.alloc (.cells C ty)).heap.size (w.alloc (.cells C ty))).alloc (Nat.le_refl _) (.cells D uy)
  have e := (hb.block w.heap.size (by simp)).trans (heap_new w (.cells C ty))
  simp [World.frozen?, e]
theorem fz_two' (w : World) (C D : Array Value) (ty uy : TypeId) (o : Nat) : ((w.alloc (.cells C ty)).alloc (.cells D uy)).frozen? ⟨w.heap.size + 1, o, none⟩ = false := by
  have h := heap_new (w.alloc (.cells C ty)) (.cells D uy)
  rw [show (w.alloc (.cells C ty)).heap.size = w.heap.size + 1 by simp] at h
  generalize (w.alloc (.cells C ty)).alloc (.cells D uy) = W at h ⊢
  simp [World.frozen?, h]
theorem ThrAt.of1 (wr : World) (A : Value) : ThrAt wr wr.heap.size (wr.heap.size + 1) A (fun _ => 0) ((wr.alloc (.cells #[.int .i64 0, .int .i64 0, .int .i64 0, .int .i64 0, .int .i64 0, .int .i64 0, .int .i64 0, .int .i64 0] 3)).alloc (.cells #[A, .slice (some ⟨wr.heap.size, 0, none⟩) 8 8, .int .i64 0] 57)).drew where
  b := (((Below.refl _ _).alloc (Nat.le_refl _) _).alloc (by simp) _).drew
  gr := Nat.le_refl _
  gx := Nat.le_succ _
  ne := by omega
  x0 := cell_two' _ _ _ _ _ 0 _ rfl
  x1 := cell_two' _ _ _ _ _ 1 _ rfl
  x2 := cell_two' _ _ _ _ _ 2 _ rfl
  reg r hr := cell_two _ _ _ _ _ r _ (zero8 hr)
  fz o := fz_two _ _ _ _ _ o
theorem ThrAt.of2 (wr : World) (A : Value) : ThrAt wr (wr.heap.size + 1) wr.heap.size A (fun _ => 0) ((wr.alloc (.cells #[A, .slice (some ⟨wr.heap.size + 1, 0, none⟩) 8 8, .int .i64 0] 57)).alloc (.cells #[.int .i64 0, .int .i64 0, .int .i64 0, .int .i64 0, .int .i64 0, .int .i64 0, .int .i64 0, .int .i64 0] 3)).drew where
  b := (((Below.refl _ _).alloc (Nat.le_refl _) _).alloc (by simp) _).drew
  gr := Nat.le_succ _
  gx := Nat.le_refl _
  ne := by omega
  x0 := cell_two _ _ _ _ _ 0 _ rfl
  x1 := cell_two _ _ _ _ _ 1 _ rfl
  x2 := cell_two _ _ _ _ _ 2 _ rfl
  reg r hr := cell_two' _ _ _ _ _ r _ (zero8 hr)
  fz o := fz_two' _ _ _ _ _ o
theorem ThrAt.copy {wr : World} {rb bx : Nat} {A : Value} {W : World} (h : ThrAt wr rb bx A (fun _ => 0) W) (row : List Int) (h8 : row.length ≤ 8) : ThrAt wr rb bx A (fun r => row.getD r 0) (W.setCells rb 0 (row.map (Value.int .i64))) where
  b := h.b.trans ((turns_setCells rb (row.map (Value.int .i64)) 0 W (Turns.refl (fun k _ => k = rb) W) (fun _ _ => rfl)).below h.b.size (fun k _ hk e => by have := h.gr; omega))
  gr := h.gr
  gx := h.gx
  ne := h.ne
  x0 := by rw [World.cell?_setCells_out _ _ _ _ _ (fun e _ => absurd e h.ne)]; exact h.x0
  x1 := by rw [World.cell?_setCells_out _ _ _ _ _ (fun e _ => absurd e h.ne)]; exact h.x1
  x2 := by rw [World.cell?_setCells_out _ _ _ _ _ (fun e _ => absurd e h.ne)]; exact h.x2
  reg r hr := by
    by_cases e : r < row.length
    · have := World.cell?_setCells_in rb (row.map (Value.int .i64)) 0 W (fun j hj => by rw [List.length_map] at hj; rw [Nat.zero_add, h.reg j (by omega)]; rfl) r (by rw [List.length_map]; exact e)
      rw [Nat.zero_add] at this
      rw [this, List.getElem_map, List.getD_eq_getElem?_getD, List.getElem?_eq_getElem e]; rfl
    · rw [World.cell?_setCells_out _ _ _ _ _ (fun _ _ => Or.inr (by rw [List.length_map]; show 0 + row.length ≤ r; omega)), h.reg r hr, List.getD_eq_getElem?_getD, List.getElem?_eq_none (by omega)]; rfl
  fz o := by rw [World.frozen?_setCells]; exact h.fz o
theorem ThrAt.drew {wr : World} {rb bx : Nat} {A : Value} {f : Nat → Int} {W : World} (h : ThrAt wr rb bx A f W) : ThrAt wr rb bx A f W.drew := ⟨h.b.drew, h.gr, h.gx, h.ne, h.x0, h.x1, h.x2, h.reg, h.fz⟩

theorem setCells_drew (b : Nat) : ∀ (l : List Value) (o : Nat) (w : World), w.drew.setCells b o l = (w.setCells b o l).drew
  | [], _, _ => rfl
  | v :: l, o, w => setCells_drew b l (o + 1) (w.setCell ⟨b, o, none⟩ v)

set_option maxRecDepth 100000 in
set_option maxHeartbeats 4000000 in
theorem newMachine_any {s : Sta} {ai ar ad : Option Addr} {ci cr cap : Nat} {cs : List (List Ins)} {w0 w : World} (h0 : Below w0.heap.size w0 w) (hs : StaAt s ⟨ai, ci, ar, cr⟩ w) (hl : codesAt ad cs w0) (h1 : 1 ≤ s.cells) (h64 : s.cells ≤ 64) (n1 : 1 ≤ cs.length) (n6 : cs.length ≤ 6) (hfit : s.fits cs.length = true) :
    Calls Tryz.prog 20 #[.agg #[.int .i64 s.cells, .slice ai s.init.length ci, .slice ar s.regs.length cr], .slice ad cs.length cap] w fun e w' => ∃ p : RkPl, e = .returned (.pointer (some ⟨p.k, 0, none⟩)) ∧ Hid (RkAt cs p (s.mach cs.length) w' ∧ p.B = w0.heap.size ∧ Below w.heap.size w w' ∧ ∀ b, p.fp cs.length (s.mach cs.length).mem b → w.heap.size ≤ b) := by
  obtain ⟨f1, f2, f3, f4⟩ := Sta.fits_of hfit
  obtain ⟨C, hC⟩ := Int.eq_ofNat_of_zero_le (show 0 ≤ s.cells by omega)
  have hCt : s.cells.toNat = C := by omega
  rw [hC]
  obtain ⟨W1, hW1⟩ : ∃ W1, W1 = w.alloc (.cells #[.int .i64 C, .slice ai s.init.length ci, .slice ar s.regs.length cr] 24) := ⟨_, rfl⟩
  have b1 : Below w.heap.size w W1 := by rw [hW1]; exact (Below.refl _ _).alloc (Nat.le_refl _) _
  have hbb : W1.heap[w.heap.size]? = some (.cells #[.int .i64 C, .slice ai s.init.length ci, .slice ar s.regs.length cr] 24) := by rw [hW1]; exact heap_new w _
  have s0 : W1.cell? ⟨w.heap.size, 0, none⟩ = some (.int .i64 C) := by rw [hW1]; simp
  have HN := hide (newMem_any C cs.length W1 (by omega) (by omega))
  have HS := hide hs
  have HL := hide hl
  have i1 := hs.ci
  have i2 := hs.cr
  have i3 : s.init.length ≤ 64 := by omega
  have i4 : s.regs.length ≤ 6 := by omega
  dsimp only at i1 i2
  clear hs hl
  go_enter Tryz.func20, Tryz.ntmps20
  go_wp2_with fail
  rw [← hW1]
  refine HN.out.mono ?_
  rintro e w2 ⟨rp0, rfl, hm2, hb2, hf2⟩
  have l1 : w.heap.size < W1.heap.size := by rw [hW1]; simp
  obtain ⟨W3, hW3⟩ : ∃ W3, W3 = w2.alloc (.cells #[.pointer (some ⟨rp0.mb, 0, none⟩), .slice none 0 0, .slice none 0 0, .int .i64 0] 62) := ⟨_, rfl⟩
  have b3 : Below w2.heap.size w2 W3 := by rw [hW3]; exact (Below.refl _ _).alloc (Nat.le_refl _) _
  have N3 : Hid (Nm1 w w.heap.size w2.heap.size #[.int .i64 C, .slice ai s.init.length ci, .slice ar s.regs.length cr] #[.pointer (some ⟨rp0.mb, 0, none⟩), .slice none 0 0, .slice none 0 0, .int .i64 0] rp0.mb rp0 (s.at1 cs.length 0 0).mem W3) := hide {
    mem := by
      have : (s.at1 cs.length 0 0).mem = Rm.fresh C cs.length := by
        show Rm.mk _ _ _ = _
        rw [hCt, List.take_zero, Ar.filled_nil]
      rw [this]
      exact hm2.below b3
    emb := rfl
    fp := fun b hb => by
      have : (s.at1 cs.length 0 0).mem = Rm.fresh C cs.length := by
        show Rm.mk _ _ _ = _
        rw [hCt, List.take_zero, Ar.filled_nil]
      rw [this] at hb
      have a1 := hf2 b hb
      have a2 := hm2.fp_lt hb
      exact ⟨by omega, by omega, by omega⟩
    gk := by have := hb2.size; omega
    gs := Nat.le_refl _
    bk := by rw [hW3]; exact heap_new w2 _
    bb := by rw [b3.block _ (by have := hb2.size; omega), hb2.block _ l1]; exact hbb
    bw := below_step b1 (hb2.trans (b3.mono hb2.size)) }
  have hks : w2.heap.size ≠ w.heap.size := by have := hb2.size; omega
  clear HN s0 hm2 hb2 hf2 b3 hbb b1 hW1
  go_wp2_with fail
  rw [← hW3]
  clear hW3
  go_loopw [6] (fun i wr => ∃ j : Nat, j ≤ s.init.length ∧ i = .int .i64 j ∧ ∃ rp, Hid (Nm1 w w.heap.size w2.heap.size #[.int .i64 C, .slice ai s.init.length ci, .slice ar s.regs.length cr] #[.pointer (some ⟨rp0.mb, 0, none⟩), .slice none 0 0, .slice none 0 0, .int .i64 0] rp0.mb rp (s.at1 cs.length j 0).mem wr)) (fun i _ => s.init.length - (intOf i).toNat)
  case atStart => exact ⟨0, Nat.zero_le _, rfl, rp0, N3⟩
  case round =>
    clear N3
    obtain ⟨j, hj, rfl, rp, NJ⟩ := hrel
    have kc0 : wr.cell? ⟨w2.heap.size, 0, none⟩ = some (.pointer (some ⟨rp0.mb, 0, none⟩)) := by simp [World.cell?, NJ.out.bk]
    have sc1 : wr.cell? ⟨w.heap.size, 1, none⟩ = some (.slice ai s.init.length ci) := by simp [World.cell?, NJ.out.bb]
    by_cases hlt : j < s.init.length
    · obtain ⟨row, hrow⟩ : ∃ x, s.init[j]? = some x := ⟨_, List.getElem?_eq_getElem hlt⟩
      obtain ⟨b, off, adr, capr, hq, cW, hcp, hnW⟩ := HS.out.init j row hrow
      obtain rfl : ai = some ⟨b, off, none⟩ := hq
      obtain ⟨r4, -⟩ := rowOk_at f2 hrow
      have ji : (j : Int) < s.init.length := by omega
      have hfree := Ar.free_some (Sta.at1_free (s := s) (n := cs.length) (t := 0) hlt f1)
      have HA := hide (ralloc_step rp (s.at1 cs.length j 0).mem j wr NJ.out.mem hfree.1 hfree.2.1 hfree.2.2 (by rw [Sta.at1_given hlt]; decide))
      rw [NJ.out.emb] at HA
      have hE : Hid ((s.at1 cs.length j 0).rowPart j row row.length = s.at1 cs.length (j + 1) 0) := hide (Sta.at1_row hrow r4)
      have hsz : j < (s.at1 cs.length j 0).mem.ar.size := hfree.1
      generalize (s.at1 cs.length j 0).mem.ar.given j = gg at *
      go_wp2_with fail
      refine HA.out.mono ?_
      rintro e w4 ⟨rfl, rp4, q4⟩
      have N4 := hide (NJ.out.step q4)
      clear HA NJ kc0 sc1
      have kc0 : w4.cell? ⟨w2.heap.size, 0, none⟩ = some (.pointer (some ⟨rp0.mb, 0, none⟩)) := by simp [World.cell?, N4.out.bk]
      have sc1 : w4.cell? ⟨w.heap.size, 1, none⟩ = some (.slice (some ⟨b, off, none⟩) s.init.length ci) := by simp [World.cell?, N4.out.bb]
      have hP0 : Hid (((s.at1 cs.length j 0).rowPart j row 0).mem = (s.at1 cs.length j 0).mem.give j) := hide (by rw [Mk.rowPart_zero]; rfl)
      have mC := N4.out.mem.mCells
      have mcc := N4.out.mem.ccap
      have mW := N4.out.mem.cWords j hsz
      have mwc := N4.out.mem.wcap j hsz
      have cW4 := keep_cell N4.out.bw cW
      rw [N4.out.emb] at mC
      have hsz4 : (j : Int) < ((s.at1 cs.length j 0).mem.give j).ar.size := by have : j < ((s.at1 cs.length j 0).mem.give j).ar.size := hsz; omega
      have hu : (Tryz.prog).underlying 26 = some (.slice 3) := Tryz.underlying26
      have hz1 : ((Tryz.prog).info? 3).map (·.size) = some 1 := by kernel_rfl
      have HLY := hide (RmStep.lay (rp := rp4) (M := s.at1 cs.length j 0) (i := j) r4 row 0 (w := w4) rfl (Nat.zero_le _) (by rw [hP0.out]; exact hsz) (by rw [hP0.out]; exact N4.out.mem))
      have hE2 : Hid (((s.at1 cs.length j 0).rowPart j row row.length).mem = (s.at1 cs.length (j + 1) 0).mem) := hide (by rw [hE.out])
      rw [hE2.out, hP0.out] at HLY
      cases hL : row.length with
      | zero =>
        obtain rfl := List.eq_nil_of_length_eq_zero hL
        have N5 : Hid (Nm1 w w.heap.size w2.heap.size #[.int .i64 C, .slice (some ⟨b, off, none⟩) s.init.length ci, .slice ar s.regs.length cr] #[.pointer (some ⟨rp0.mb, 0, none⟩), .slice none 0 0, .slice none 0 0, .int .i64 0] rp0.mb rp4 (s.at1 cs.length (j + 1) 0).mem w4.drew) := hide ((N4.out.step HLY.out).below (Below.refl _ _).drew)
        rw [hL] at cW4
        clear HLY hE hE2 hP0 q4 cW hfree hrow
        generalize ((s.at1 cs.length j 0).mem.give j).ar.size = SZ at *
        go_wp2_with fail
        go_region_law (refine step_copy_none _ (by rfl) _ _ _ 3 (by rfl) _ _ _ _ _ (by rfl) (by rfl) hu hz1 ?_)
        all_goals
          go_wp2
          go_roundw
        all_goals first
          | exact ⟨j + 1, by omega, by go_num, rp4, N5⟩
          | (simp [intOf]; omega)
      | succ n =>
        obtain ⟨x0, hx0⟩ : ∃ x, row[0]? = some x := ⟨_, List.getElem?_eq_getElem (by omega)⟩
        obtain ⟨ab, ao, rfl, -⟩ := hnW 0 x0 hx0
        have HNs : Hid (∀ (i : Nat) u, (row.map (Value.int .i64))[i]? = some u → w4.cell? ((⟨ab, ao, none⟩ : Addr).add i) = some u) := hide fun i u hu => by
          rw [List.getElem?_map] at hu
          cases hr : row[i]? with
          | none => rw [hr] at hu; cases hu
          | some y =>
            rw [hr] at hu; cases hu
            obtain ⟨b', o', e1, e2⟩ := hnW i y hr
            cases e1
            rw [Addr.add_lit]
            exact keep_cell N4.out.bw e2
        have hmin : (row.map (Value.int .i64)).length = Nat.min (n + 1) 4 := by rw [List.length_map, hL]; have : Nat.min (n + 1) 4 = min (n + 1) 4 := rfl; rw [this]; omega
        have HCc : Hid (∀ i, i < (row.map (Value.int .i64)).length → (w4.cell? ⟨rp4.wb j, 0 + i, none⟩).isSome = true) := hide fun i hi => by
          rw [List.length_map] at hi
          rw [Nat.zero_add, N4.out.mem.words j i hsz (by omega)]; rfl
        have HCf : Hid (∀ i, i < (row.map (Value.int .i64)).length → w4.frozen? ⟨rp4.wb j, 0 + i, none⟩ = false) := hide fun i _ => N4.out.mem.fw j _ hsz
        have H1c : ∀ u ∈ row.map (Value.int .i64), u.oneCell' = true := fun u hu => by
          obtain ⟨y, -, rfl⟩ := List.mem_map.1 hu
          rfl
        have N5 : Hid (Nm1 w w.heap.size w2.heap.size #[.int .i64 C, .slice (some ⟨b, off, none⟩) s.init.length ci, .slice ar s.regs.length cr] #[.pointer (some ⟨rp0.mb, 0, none⟩), .slice none 0 0, .slice none 0 0, .int .i64 0] rp0.mb rp4 (s.at1 cs.length (j + 1) 0).mem (w4.setCells (rp4.wb j) 0 (row.map (Value.int .i64))).drew) := hide ((N4.out.step HLY.out).below (Below.refl _ _).drew)
        have N6 : Hid (Nm1 w w.heap.size w2.heap.size #[.int .i64 C, .slice (some ⟨b, off, none⟩) s.init.length ci, .slice ar s.regs.length cr] #[.pointer (some ⟨rp0.mb, 0, none⟩), .slice none 0 0, .slice none 0 0, .int .i64 0] rp0.mb rp4 (s.at1 cs.length (j + 1) 0).mem (w4.drew.setCells (rp4.wb j) 0 (row.map (Value.int .i64)))) := hide (by rw [setCells_drew]; exact N5.out)
        rw [hL] at cW4
        clear HLY hE hE2 hP0 q4 cW hfree hrow hnW hx0
        generalize ((s.at1 cs.length j 0).mem.give j).ar.size = SZ at *
        generalize row.map (Value.int .i64) = RC at *
        go_wp2_with fail
        go_region_law (refine step_copy_cells _ (by rfl) _ _ _ 3 (by rfl) (rp4.wb j) 0 4 (rp4.wcap j) ⟨ab, ao, none⟩ (n + 1) capr RC (by rfl) (by rfl) hu hz1 hmin (fun i u hi => HNs.out i u hi) (fun i hi => HCc.out i hi) (fun i hi => HCf.out i hi) H1c ?_)
        all_goals
          go_wp2
          go_roundw
        all_goals first
          | exact ⟨j + 1, by omega, by go_num, rp4, N5⟩
          | exact ⟨j + 1, by omega, by go_num, rp4, N6⟩
          | (simp [intOf]; omega)
          | trace_state
    · obtain rfl : j = s.init.length := by omega
      have hR : Hid ((s.at1 cs.length s.init.length 0).mem = (s.mach cs.length).mem) := hide (by rw [← Sta.at1_end]; rfl)
      have N2 : Hid (Nm2 w0 w w.heap.size w2.heap.size s cs (.slice ar s.regs.length cr) rp (s.mach cs.length).mem [] (.slice none 0 0) wr) := hide (by have := NJ.out.start (s := s) (cs := cs) (sr := .slice ar s.regs.length cr) (by simp) hks h0; rw [hR.out] at this; exact this)
      clear NJ hR hlt f2 i3
      go_wp2_with fail
      clear kc0 sc1
      generalize wr = w5 at *
      go_loopw [7] (fun i wr => ∃ t : Nat, t ≤ cs.length ∧ i = .int .i64 t ∧ ∃ T v, Hid (T.length = t ∧ Nm2 w0 w w.heap.size w2.heap.size s cs (.slice ar s.regs.length cr) rp (s.mach cs.length).mem T v wr)) (fun i _ => cs.length - (intOf i).toNat)
      case atStart => exact ⟨0, Nat.zero_le _, rfl, [], _, hide ⟨rfl, N2.out⟩⟩
      case round =>
        clear N2
        obtain ⟨t, ht, rfl, T, v, NT⟩ := hrel
        have n6i : (cs.length : Int) ≤ 6 := by omega
        by_cases hlt : t < cs.length
        · obtain ⟨L, hL⟩ : ∃ L, cs[t]? = some L := ⟨_, List.getElem?_eq_getElem hlt⟩
          obtain ⟨cb, co, adl, capl, hq, c0, hcl, hin, -⟩ := HL.out t L hL
          subst hq
          replace c0 := keep_cell NT.out.2.bw (keep_cell h0 c0)
          have ti : (t : Int) < cs.length := by omega
          have m8 := make8
          have lcb : cb < wr.heap.size := World.block_lt_of_cell? _ _ c0
          go_wp2_with fail
          go_region
          · obtain ⟨W7, hW7⟩ : ∃ W7, W7 = ((wr.alloc (.cells #[.int .i64 0, .int .i64 0, .int .i64 0, .int .i64 0, .int .i64 0, .int .i64 0, .int .i64 0, .int .i64 0] 3)).alloc (.cells #[.slice adl L.length capl, .slice (some ⟨wr.heap.size, 0, none⟩) 8 8, .int .i64 0] 57)).drew := ⟨_, rfl⟩
            have TA := ThrAt.of1 wr (.slice adl L.length capl)
            rw [← hW7] at TA ⊢
            clear hW7
            generalize wr.heap.size + 1 = bx at *
            generalize hrb : wr.heap.size = rb at TA ⊢
            have TH := hide TA
            have hTl : T.length = t := NT.out.1
            have HTl := hide hTl
            have hT6 : T.length ≤ 6 := by omega
            have NT7 := hide (NT.out.2.below TA.b)
            have ss := NT7.out.s2
            have z1 := TA.x1
            clear TA
            by_cases htr : t < s.regs.length
            · obtain ⟨row, hrow⟩ : ∃ x, s.regs[t]? = some x := ⟨_, List.getElem?_eq_getElem htr⟩
              obtain ⟨rbk, ro, adr, capr, hq, cW, hcp, hnW⟩ := HS.out.regs t row hrow
              obtain rfl : ar = some ⟨rbk, ro, none⟩ := hq
              obtain ⟨r8, -⟩ := rowOk_at f4 hrow
              have tri : (t : Int) < s.regs.length := by omega
              have hu : (Tryz.prog).underlying 26 = some (.slice 3) := Tryz.underlying26
              have hz1 : ((Tryz.prog).info? 3).map (·.size) = some 1 := by kernel_rfl
              have cR := keep_cell NT7.out.bw cW
              have TB0 : Hid (ThrAt wr rb bx (.slice adl L.length capl) (fun r => rowAt s.regs t r) (W7.setCells rb 0 (row.map (Value.int .i64))).drew) := hide (by
                have h0 : s.regs.getD t [] = row := by rw [List.getD_eq_getElem?_getD, hrow]; rfl
                have e : (fun r => rowAt s.regs t r) = (fun r => row.getD r 0) := by
                  funext r; unfold rowAt; rw [h0]
                rw [e]; exact (TH.out.copy row r8).drew)
              have NT0 := hide (NT.out.2.below TB0.out.b)
              have HXX := hide (And.intro hL hin)
              cases hLn : row.length with
              | zero =>
                obtain rfl := List.eq_nil_of_length_eq_zero hLn
                obtain ⟨W8, hW8⟩ : ∃ W8, W8 = W7.drew := ⟨_, rfl⟩
                have TB : Hid (ThrAt wr rb bx (.slice adl L.length capl) (fun r => rowAt s.regs t r) W8) := by rw [hW8]; exact TB0
                have NT8 : Hid (Nm2 w0 w w.heap.size w2.heap.size s cs (.slice (some ⟨rbk, ro, none⟩) s.regs.length cr) rp (s.mach cs.length).mem T v W8) := by rw [hW8]; exact NT0
                rw [hLn] at cR
                clear TB0 NT0 hrow cW hnW hTl
                go_wp2_with fail
                go_region_law (refine step_copy_none _ (by rfl) _ _ _ 3 (by rfl) _ _ _ _ _ (by rfl) (by rfl) hu hz1 ?_)
                all_goals
                  rw [← hW8]
                  clear hW8
                  have hTl := HTl.out
                  have hL := HXX.out.1
                  have hin := HXX.out.2
                  have k1 := NT8.out.k1
                  have hown := NT8.out.own
                  have fk1 := NT8.out.fk 1
                  have lk8 : w2.heap.size < W8.heap.size := World.block_lt_of_cell? _ _ k1
                  have y0 := TB.out.x0
                  have y1 := TB.out.x1
                  have y2 := TB.out.x2
                  obtain ⟨ti0, hti, htz, hts, htb⟩ := thrInfo
                  have nk : v.ownBlock ≠ some w2.heap.size := fun e => (NT8.out.vb _ e).1 rfl
                  have hml : T.length + 1 ≤ maxLen := Nat.le_trans (Nat.succ_le_succ hT6) (by decide)
                  have hmb : (T.length + 1) * 56 ≤ 140737488355328 := Nat.le_trans (Nat.mul_le_mul_right 56 (Nat.succ_le_succ hT6)) (by decide)
                  have hws : w.heap.size ≤ W8.heap.size := NT8.out.bw.size
                  obtain ⟨W9, hW9⟩ : ∃ W9, W9 = W8.alloc (.cells #[.slice adl L.length capl, .slice (some ⟨rb, 0, none⟩) 8 8, .int .i64 0] 57) := ⟨_, rfl⟩
                  have b9 : Below W8.heap.size W8 W9 := by rw [hW9]; exact (Below.refl _ _).alloc (Nat.le_refl _) _
                  have rlt : rb < W8.heap.size := World.block_lt_of_cell? _ _ (TB.out.reg 0 (by decide))
                  have fzr : ∀ o, W9.frozen? ⟨rb, o, none⟩ = false := fun o => by rw [b9.frozen rlt]; exact TB.out.fz o
                  have NT9 := hide (NT8.out.below b9)
                  have k19 := NT9.out.k1
                  have hown9 := NT9.out.own
                  have fk9 := NT9.out.fk 1
                  have lk9 : w2.heap.size < W9.heap.size := World.block_lt_of_cell? _ _ k19
                  have hws9 : w.heap.size ≤ W9.heap.size := NT9.out.bw.size
                  have nw9 : ∀ j u, ([.slice adl L.length capl, .slice (some ⟨rb, 0, none⟩) 8 8, .int .i64 0] : List Value)[j]? = some u → W9.cell? ((⟨W8.heap.size, 0, none⟩ : Addr).add j) = some u := by rw [hW9]; exact World.news_of_block (cs := #[.slice adl L.length capl, .slice (some ⟨rb, 0, none⟩) 8 8, .int .i64 0]) (t := 57) (fr := (0, 0)) (heap_alloc_new W8 _)
                  clear hTl
                  go_wp2_with fail
                  go_region_law
                    ((try rw [← hW9])
                     refine step_append_at _ (by rfl) _ _ _ (by rfl) w.heap.size 57 ti0 _ 3 56 Tryz.underlying59 hti htz hts htb rfl (by omega) v T.length (thrCells T) (by rfl) hown9
                        ⟨W8.heap.size, 0, none⟩ 1 1 [.slice adl L.length capl, .slice (some ⟨rb, 0, none⟩) 8 8, .int .i64 0] (by rfl) (by rfl) nw9 (by simp [Value.oneCell']) hml hmb hws9 ?_; intro g10 cap10 w10 hown10 hgrow hat
                     have k110 : w10.cell? ⟨w2.heap.size, 1, none⟩ = some v := (World.cell?_of_block (hgrow.block w2.heap.size lk9 (Ne.symm nk))).trans k19
                     have fk10 : w10.frozen? ⟨w2.heap.size, 1, none⟩ = false := (World.frozen?_of_block (hgrow.block w2.heap.size lk9 (Ne.symm nk))).trans fk9)
                  all_goals
                    have NF := hide (Nm2.add (x := ⟨adl, L.length, capl, rb⟩) NT9.out (by rw [HTl.out]; exact hL) rfl hcl hin (W0 := wr) TB.out.gr (fun b e => (NT.out.2.own.lt b e).2) (fun b e => NT.out.2.mem.fp_lt e) (fun t y hy => NT.out.2.rlt hy) (World.block_lt_of_cell? _ _ NT.out.2.k0) (World.block_lt_of_cell? _ _ NT.out.2.s2)
                      (fun r hr => by rw [HTl.out]; exact keep_cell b9 (TB.out.reg r hr)) fzr NT.out.2.bw.size
                      (W9 := w10) (v' := .slice g10 (T.length + 1) cap10) (by rw [thrCells_append]; exact hown10) hgrow.size hgrow.os hgrow.tape hgrow.output (fun b hb hn => hgrow.block b hb (Ne.symm hn)) (fun b e => by
                        rcases hat with e2 | e2
                        · left; rw [← e2]; exact e
                        · right; rw [e2] at e; cases e; exact Nat.le_refl _))
                    clear hown10 hgrow hat hti htz hts htb hown9 hown nw9 NT9 NT8 NT7 TB TH hin hL
                    go_wp2
                    go_roundw
                  all_goals first
                    | exact ⟨t + 1, by omega, by go_num, _, _, hide ⟨by rw [List.length_append, HTl.out]; rfl, NF.out.below (Below.refl _ _).drew⟩⟩
                    | exact ⟨t + 1, by omega, by go_num, _, _, hide ⟨by rw [List.length_append, HTl.out]; rfl, NF.out⟩⟩
                    | (simp [intOf]; omega)
                    | trace_state
              | succ n =>
                obtain ⟨x0, hx0⟩ : ∃ x, row[0]? = some x := ⟨_, List.getElem?_eq_getElem (by rw [hLn]; exact Nat.succ_pos n)⟩
                obtain ⟨ab, ao, rfl, -⟩ := hnW 0 x0 hx0
                have HNs : Hid (∀ (i : Nat) u, (row.map (Value.int .i64))[i]? = some u → W7.cell? ((⟨ab, ao, none⟩ : Addr).add i) = some u) := hide fun i u hu => by
                  rw [List.getElem?_map] at hu
                  cases hr : row[i]? with
                  | none => rw [hr] at hu; cases hu
                  | some y =>
                    rw [hr] at hu; cases hu
                    obtain ⟨b', o', e1, e2⟩ := hnW i y hr
                    cases e1
                    rw [Addr.add_lit]
                    exact keep_cell NT7.out.bw e2
                have hmin : (row.map (Value.int .i64)).length = Nat.min (n + 1) 8 := by rw [List.length_map, hLn]; have : Nat.min (n + 1) 8 = min (n + 1) 8 := rfl; rw [this, Nat.min_eq_left (by rw [hLn] at r8; exact r8)]
                have HCc : Hid (∀ i, i < (row.map (Value.int .i64)).length → (W7.cell? ⟨rb, 0 + i, none⟩).isSome = true) := hide fun i hi => by
                  rw [List.length_map] at hi
                  rw [Nat.zero_add, TH.out.reg i (Nat.lt_of_lt_of_le hi r8)]; rfl
                have HCf : Hid (∀ i, i < (row.map (Value.int .i64)).length → W7.frozen? ⟨rb, 0 + i, none⟩ = false) := hide fun i _ => TH.out.fz _
                have H1c : ∀ u ∈ row.map (Value.int .i64), u.oneCell' = true := fun u hu => by
                  obtain ⟨y, -, rfl⟩ := List.mem_map.1 hu
                  rfl
                rw [hLn] at cR
                clear hrow cW hnW hTl hx0
                generalize row.map (Value.int .i64) = RC at *
                obtain ⟨W8, hW8⟩ : ∃ W8, W8 = (W7.setCells rb 0 RC).drew := ⟨_, rfl⟩
                rw [← hW8] at TB0 NT0
                have TB := TB0
                have NT8 := NT0
                clear TB0 NT0
                go_wp2_with fail
                go_region_law (refine step_copy_cells _ (by rfl) _ _ _ 3 (by rfl) rb 0 8 8 ⟨ab, ao, none⟩ (n + 1) capr RC (by rfl) (by rfl) hu hz1 hmin (fun i u hi => HNs.out i u hi) (fun i hi => HCc.out i hi) (fun i hi => HCf.out i hi) H1c ?_)
                all_goals
                  (try rw [setCells_drew])
                  rw [← hW8]
                  clear hW8
                  have hTl := HTl.out
                  have hL := HXX.out.1
                  have hin := HXX.out.2
                  have k1 := NT8.out.k1
                  have hown := NT8.out.own
                  have fk1 := NT8.out.fk 1
                  have lk8 : w2.heap.size < W8.heap.size := World.block_lt_of_cell? _ _ k1
                  have y0 := TB.out.x0
                  have y1 := TB.out.x1
                  have y2 := TB.out.x2
                  obtain ⟨ti0, hti, htz, hts, htb⟩ := thrInfo
                  have nk : v.ownBlock ≠ some w2.heap.size := fun e => (NT8.out.vb _ e).1 rfl
                  have hml : T.length + 1 ≤ maxLen := Nat.le_trans (Nat.succ_le_succ hT6) (by decide)
                  have hmb : (T.length + 1) * 56 ≤ 140737488355328 := Nat.le_trans (Nat.mul_le_mul_right 56 (Nat.succ_le_succ hT6)) (by decide)
                  have hws : w.heap.size ≤ W8.heap.size := NT8.out.bw.size
                  obtain ⟨W9, hW9⟩ : ∃ W9, W9 = W8.alloc (.cells #[.slice adl L.length capl, .slice (some ⟨rb, 0, none⟩) 8 8, .int .i64 0] 57) := ⟨_, rfl⟩
                  have b9 : Below W8.heap.size W8 W9 := by rw [hW9]; exact (Below.refl _ _).alloc (Nat.le_refl _) _
                  have rlt : rb < W8.heap.size := World.block_lt_of_cell? _ _ (TB.out.reg 0 (by decide))
                  have fzr : ∀ o, W9.frozen? ⟨rb, o, none⟩ = false := fun o => by rw [b9.frozen rlt]; exact TB.out.fz o
                  have NT9 := hide (NT8.out.below b9)
                  have k19 := NT9.out.k1
                  have hown9 := NT9.out.own
                  have fk9 := NT9.out.fk 1
                  have lk9 : w2.heap.size < W9.heap.size := World.block_lt_of_cell? _ _ k19
                  have hws9 : w.heap.size ≤ W9.heap.size := NT9.out.bw.size
                  have nw9 : ∀ j u, ([.slice adl L.length capl, .slice (some ⟨rb, 0, none⟩) 8 8, .int .i64 0] : List Value)[j]? = some u → W9.cell? ((⟨W8.heap.size, 0, none⟩ : Addr).add j) = some u := by rw [hW9]; exact World.news_of_block (cs := #[.slice adl L.length capl, .slice (some ⟨rb, 0, none⟩) 8 8, .int .i64 0]) (t := 57) (fr := (0, 0)) (heap_alloc_new W8 _)
                  clear hTl
                  go_wp2_with fail
                  go_region_law
                    ((try rw [← hW9])
                     refine step_append_at _ (by rfl) _ _ _ (by rfl) w.heap.size 57 ti0 _ 3 56 Tryz.underlying59 hti htz hts htb rfl (by omega) v T.length (thrCells T) (by rfl) hown9
                        ⟨W8.heap.size, 0, none⟩ 1 1 [.slice adl L.length capl, .slice (some ⟨rb, 0, none⟩) 8 8, .int .i64 0] (by rfl) (by rfl) nw9 (by simp [Value.oneCell']) hml hmb hws9 ?_; intro g10 cap10 w10 hown10 hgrow hat
                     have k110 : w10.cell? ⟨w2.heap.size, 1, none⟩ = some v := (World.cell?_of_block (hgrow.block w2.heap.size lk9 (Ne.symm nk))).trans k19
                     have fk10 : w10.frozen? ⟨w2.heap.size, 1, none⟩ = false := (World.frozen?_of_block (hgrow.block w2.heap.size lk9 (Ne.symm nk))).trans fk9)
                  all_goals
                    have NF := hide (Nm2.add (x := ⟨adl, L.length, capl, rb⟩) NT9.out (by rw [HTl.out]; exact hL) rfl hcl hin (W0 := wr) TB.out.gr (fun b e => (NT.out.2.own.lt b e).2) (fun b e => NT.out.2.mem.fp_lt e) (fun t y hy => NT.out.2.rlt hy) (World.block_lt_of_cell? _ _ NT.out.2.k0) (World.block_lt_of_cell? _ _ NT.out.2.s2)
                      (fun r hr => by rw [HTl.out]; exact keep_cell b9 (TB.out.reg r hr)) fzr NT.out.2.bw.size
                      (W9 := w10) (v' := .slice g10 (T.length + 1) cap10) (by rw [thrCells_append]; exact hown10) hgrow.size hgrow.os hgrow.tape hgrow.output (fun b hb hn => hgrow.block b hb (Ne.symm hn)) (fun b e => by
                        rcases hat with e2 | e2
                        · left; rw [← e2]; exact e
                        · right; rw [e2] at e; cases e; exact Nat.le_refl _))
                    clear hown10 hgrow hat hti htz hts htb hown9 hown nw9 NT9 NT8 NT7 TB TH hin hL
                    go_wp2
                    go_roundw
                  all_goals first
                    | exact ⟨t + 1, by omega, by go_num, _, _, hide ⟨by rw [List.length_append, HTl.out]; rfl, NF.out.below (Below.refl _ _).drew⟩⟩
                    | exact ⟨t + 1, by omega, by go_num, _, _, hide ⟨by rw [List.length_append, HTl.out]; rfl, NF.out⟩⟩
                    | (simp [intOf]; omega)
                    | trace_state
            · have tri : ¬ (t : Int) < s.regs.length := by omega
              have TB : Hid (ThrAt wr rb bx (.slice adl L.length capl) (fun r => rowAt s.regs t r) W7) := hide (by
                have e : (fun r => rowAt s.regs t r) = (fun _ => 0) := by
                  have h0 : s.regs.getD t [] = [] := by rw [List.getD_eq_getElem?_getD, List.getElem?_eq_none (Nat.le_of_not_lt htr)]; rfl
                  funext r; unfold rowAt; rw [h0]; rfl
                rw [e]; exact TH.out)
              have NT8 := NT7
              have k1 := NT8.out.k1
              have hown := NT8.out.own
              have fk1 := NT8.out.fk 1
              have lk8 : w2.heap.size < W7.heap.size := World.block_lt_of_cell? _ _ k1
              have y0 := TB.out.x0
              have y1 := TB.out.x1
              have y2 := TB.out.x2
              obtain ⟨ti0, hti, htz, hts, htb⟩ := thrInfo
              have nk : v.ownBlock ≠ some w2.heap.size := fun e => (NT8.out.vb _ e).1 rfl
              have hml : T.length + 1 ≤ maxLen := Nat.le_trans (Nat.succ_le_succ hT6) (by decide)
              have hmb : (T.length + 1) * 56 ≤ 140737488355328 := Nat.le_trans (Nat.mul_le_mul_right 56 (Nat.succ_le_succ hT6)) (by decide)
              have hws : w.heap.size ≤ W7.heap.size := NT8.out.bw.size
              obtain ⟨W9, hW9⟩ : ∃ W9, W9 = W7.alloc (.cells #[.slice adl L.length capl, .slice (some ⟨rb, 0, none⟩) 8 8, .int .i64 0] 57) := ⟨_, rfl⟩
              have b9 : Below W7.heap.size W7 W9 := by rw [hW9]; exact (Below.refl _ _).alloc (Nat.le_refl _) _
              have rlt : rb < W7.heap.size := World.block_lt_of_cell? _ _ (TB.out.reg 0 (by decide))
              have fzr : ∀ o, W9.frozen? ⟨rb, o, none⟩ = false := fun o => by rw [b9.frozen rlt]; exact TB.out.fz o
              have NT9 := hide (NT8.out.below b9)
              have k19 := NT9.out.k1
              have hown9 := NT9.out.own
              have fk9 := NT9.out.fk 1
              have lk9 : w2.heap.size < W9.heap.size := World.block_lt_of_cell? _ _ k19
              have hws9 : w.heap.size ≤ W9.heap.size := NT9.out.bw.size
              have nw9 : ∀ j u, ([.slice adl L.length capl, .slice (some ⟨rb, 0, none⟩) 8 8, .int .i64 0] : List Value)[j]? = some u → W9.cell? ((⟨W7.heap.size, 0, none⟩ : Addr).add j) = some u := by rw [hW9]; exact World.news_of_block (cs := #[.slice adl L.length capl, .slice (some ⟨rb, 0, none⟩) 8 8, .int .i64 0]) (t := 57) (fr := (0, 0)) (heap_alloc_new W7 _)
              clear hTl
              go_wp2_with fail
              go_region_law
                ((try rw [← hW9])
                 refine step_append_at _ (by rfl) _ _ _ (by rfl) w.heap.size 57 ti0 _ 3 56 Tryz.underlying59 hti htz hts htb rfl (by omega) v T.length (thrCells T) (by rfl) hown9
                    ⟨W7.heap.size, 0, none⟩ 1 1 [.slice adl L.length capl, .slice (some ⟨rb, 0, none⟩) 8 8, .int .i64 0] (by rfl) (by rfl) nw9 (by simp [Value.oneCell']) hml hmb hws9 ?_; intro g10 cap10 w10 hown10 hgrow hat
                 have k110 : w10.cell? ⟨w2.heap.size, 1, none⟩ = some v := (World.cell?_of_block (hgrow.block w2.heap.size lk9 (Ne.symm nk))).trans k19
                 have fk10 : w10.frozen? ⟨w2.heap.size, 1, none⟩ = false := (World.frozen?_of_block (hgrow.block w2.heap.size lk9 (Ne.symm nk))).trans fk9)
              all_goals
                have NF := hide (Nm2.add (x := ⟨adl, L.length, capl, rb⟩) NT9.out (by rw [HTl.out]; exact hL) rfl hcl hin (W0 := wr) TB.out.gr (fun b e => (NT.out.2.own.lt b e).2) (fun b e => NT.out.2.mem.fp_lt e) (fun t y hy => NT.out.2.rlt hy) (World.block_lt_of_cell? _ _ NT.out.2.k0) (World.block_lt_of_cell? _ _ NT.out.2.s2)
                  (fun r hr => by rw [HTl.out]; exact keep_cell b9 (TB.out.reg r hr)) fzr NT.out.2.bw.size
                  (W9 := w10) (v' := .slice g10 (T.length + 1) cap10) (by rw [thrCells_append]; exact hown10) hgrow.size hgrow.os hgrow.tape hgrow.output (fun b hb hn => hgrow.block b hb (Ne.symm hn)) (fun b e => by
                    rcases hat with e2 | e2
                    · left; rw [← e2]; exact e
                    · right; rw [e2] at e; cases e; exact Nat.le_refl _))
                clear hown10 hgrow hat hti htz hts htb hown9 hown nw9 NT9 NT8 NT7 TB TH hin hL
                go_wp2
                go_roundw
              all_goals first
                | exact ⟨t + 1, by omega, by go_num, _, _, hide ⟨by rw [List.length_append, HTl.out]; rfl, NF.out.below (Below.refl _ _).drew⟩⟩
                | exact ⟨t + 1, by omega, by go_num, _, _, hide ⟨by rw [List.length_append, HTl.out]; rfl, NF.out⟩⟩
                | (simp [intOf]; omega)
                | trace_state
          · obtain ⟨W7, hW7⟩ : ∃ W7, W7 = ((wr.alloc (.cells #[.slice adl L.length capl, .slice (some ⟨wr.heap.size + 1, 0, none⟩) 8 8, .int .i64 0] 57)).alloc (.cells #[.int .i64 0, .int .i64 0, .int .i64 0, .int .i64 0, .int .i64 0, .int .i64 0, .int .i64 0, .int .i64 0] 3)).drew := ⟨_, rfl⟩
            have TA := ThrAt.of2 wr (.slice adl L.length capl)
            rw [← hW7] at TA ⊢
            clear hW7
            generalize wr.heap.size + 1 = rb at *
            generalize hbx : wr.heap.size = bx at TA ⊢
            have TH := hide TA
            have hTl : T.length = t := NT.out.1
            have HTl := hide hTl
            have hT6 : T.length ≤ 6 := by omega
            have NT7 := hide (NT.out.2.below TA.b)
            have ss := NT7.out.s2
            have z1 := TA.x1
            clear TA
            by_cases htr : t < s.regs.length
            · obtain ⟨row, hrow⟩ : ∃ x, s.regs[t]? = some x := ⟨_, List.getElem?_eq_getElem htr⟩
              obtain ⟨rbk, ro, adr, capr, hq, cW, hcp, hnW⟩ := HS.out.regs t row hrow
              obtain rfl : ar = some ⟨rbk, ro, none⟩ := hq
              obtain ⟨r8, -⟩ := rowOk_at f4 hrow
              have tri : (t : Int) < s.regs.length := by omega
              have hu : (Tryz.prog).underlying 26 = some (.slice 3) := Tryz.underlying26
              have hz1 : ((Tryz.prog).info? 3).map (·.size) = some 1 := by kernel_rfl
              have cR := keep_cell NT7.out.bw cW
              have TB0 : Hid (ThrAt wr rb bx (.slice adl L.length capl) (fun r => rowAt s.regs t r) (W7.setCells rb 0 (row.map (Value.int .i64))).drew) := hide (by
                have h0 : s.regs.getD t [] = row := by rw [List.getD_eq_getElem?_getD, hrow]; rfl
                have e : (fun r => rowAt s.regs t r) = (fun r => row.getD r 0) := by
                  funext r; unfold rowAt; rw [h0]
                rw [e]; exact (TH.out.copy row r8).drew)
              have NT0 := hide (NT.out.2.below TB0.out.b)
              have HXX := hide (And.intro hL hin)
              cases hLn : row.length with
              | zero =>
                obtain rfl := List.eq_nil_of_length_eq_zero hLn
                obtain ⟨W8, hW8⟩ : ∃ W8, W8 = W7.drew := ⟨_, rfl⟩
                have TB : Hid (ThrAt wr rb bx (.slice adl L.length capl) (fun r => rowAt s.regs t r) W8) := by rw [hW8]; exact TB0
                have NT8 : Hid (Nm2 w0 w w.heap.size w2.heap.size s cs (.slice (some ⟨rbk, ro, none⟩) s.regs.length cr) rp (s.mach cs.length).mem T v W8) := by rw [hW8]; exact NT0
                rw [hLn] at cR
                clear TB0 NT0 hrow cW hnW hTl
                go_wp2_with fail
                go_region_law (refine step_copy_none _ (by rfl) _ _ _ 3 (by rfl) _ _ _ _ _ (by rfl) (by rfl) hu hz1 ?_)
                all_goals
                  rw [← hW8]
                  clear hW8
                  have hTl := HTl.out
                  have hL := HXX.out.1
                  have hin := HXX.out.2
                  have k1 := NT8.out.k1
                  have hown := NT8.out.own
                  have fk1 := NT8.out.fk 1
                  have lk8 : w2.heap.size < W8.heap.size := World.block_lt_of_cell? _ _ k1
                  have y0 := TB.out.x0
                  have y1 := TB.out.x1
                  have y2 := TB.out.x2
                  obtain ⟨ti0, hti, htz, hts, htb⟩ := thrInfo
                  have nk : v.ownBlock ≠ some w2.heap.size := fun e => (NT8.out.vb _ e).1 rfl
                  have hml : T.length + 1 ≤ maxLen := Nat.le_trans (Nat.succ_le_succ hT6) (by decide)
                  have hmb : (T.length + 1) * 56 ≤ 140737488355328 := Nat.le_trans (Nat.mul_le_mul_right 56 (Nat.succ_le_succ hT6)) (by decide)
                  have hws : w.heap.size ≤ W8.heap.size := NT8.out.bw.size
                  obtain ⟨W9, hW9⟩ : ∃ W9, W9 = W8.alloc (.cells #[.slice adl L.length capl, .slice (some ⟨rb, 0, none⟩) 8 8, .int .i64 0] 57) := ⟨_, rfl⟩
                  have b9 : Below W8.heap.size W8 W9 := by rw [hW9]; exact (Below.refl _ _).alloc (Nat.le_refl _) _
                  have rlt : rb < W8.heap.size := World.block_lt_of_cell? _ _ (TB.out.reg 0 (by decide))
                  have fzr : ∀ o, W9.frozen? ⟨rb, o, none⟩ = false := fun o => by rw [b9.frozen rlt]; exact TB.out.fz o
                  have NT9 := hide (NT8.out.below b9)
                  have k19 := NT9.out.k1
                  have hown9 := NT9.out.own
                  have fk9 := NT9.out.fk 1
                  have lk9 : w2.heap.size < W9.heap.size := World.block_lt_of_cell? _ _ k19
                  have hws9 : w.heap.size ≤ W9.heap.size := NT9.out.bw.size
                  have nw9 : ∀ j u, ([.slice adl L.length capl, .slice (some ⟨rb, 0, none⟩) 8 8, .int .i64 0] : List Value)[j]? = some u → W9.cell? ((⟨W8.heap.size, 0, none⟩ : Addr).add j) = some u := by rw [hW9]; exact World.news_of_block (cs := #[.slice adl L.length capl, .slice (some ⟨rb, 0, none⟩) 8 8, .int .i64 0]) (t := 57) (fr := (0, 0)) (heap_alloc_new W8 _)
                  clear hTl
                  go_wp2_with fail
                  go_region_law
                    ((try rw [← hW9])
                     refine step_append_at _ (by rfl) _ _ _ (by rfl) w.heap.size 57 ti0 _ 3 56 Tryz.underlying59 hti htz hts htb rfl (by omega) v T.length (thrCells T) (by rfl) hown9
                        ⟨W8.heap.size, 0, none⟩ 1 1 [.slice adl L.length capl, .slice (some ⟨rb, 0, none⟩) 8 8, .int .i64 0] (by rfl) (by rfl) nw9 (by simp [Value.oneCell']) hml hmb hws9 ?_; intro g10 cap10 w10 hown10 hgrow hat
                     have k110 : w10.cell? ⟨w2.heap.size, 1, none⟩ = some v := (World.cell?_of_block (hgrow.block w2.heap.size lk9 (Ne.symm nk))).trans k19
                     have fk10 : w10.frozen? ⟨w2.heap.size, 1, none⟩ = false := (World.frozen?_of_block (hgrow.block w2.heap.size lk9 (Ne.symm nk))).trans fk9)
                  all_goals
                    have NF := hide (Nm2.add (x := ⟨adl, L.length, capl, rb⟩) NT9.out (by rw [HTl.out]; exact hL) rfl hcl hin (W0 := wr) TB.out.gr (fun b e => (NT.out.2.own.lt b e).2) (fun b e => NT.out.2.mem.fp_lt e) (fun t y hy => NT.out.2.rlt hy) (World.block_lt_of_cell? _ _ NT.out.2.k0) (World.block_lt_of_cell? _ _ NT.out.2.s2)
                      (fun r hr => by rw [HTl.out]; exact keep_cell b9 (TB.out.reg r hr)) fzr NT.out.2.bw.size
                      (W9 := w10) (v' := .slice g10 (T.length + 1) cap10) (by rw [thrCells_append]; exact hown10) hgrow.size hgrow.os hgrow.tape hgrow.output (fun b hb hn => hgrow.block b hb (Ne.symm hn)) (fun b e => by
                        rcases hat with e2 | e2
                        · left; rw [← e2]; exact e
                        · right; rw [e2] at e; cases e; exact Nat.le_refl _))
                    clear hown10 hgrow hat hti htz hts htb hown9 hown nw9 NT9 NT8 NT7 TB TH hin hL
                    go_wp2
                    go_roundw
                  all_goals first
                    | exact ⟨t + 1, by omega, by go_num, _, _, hide ⟨by rw [List.length_append, HTl.out]; rfl, NF.out.below (Below.refl _ _).drew⟩⟩
                    | exact ⟨t + 1, by omega, by go_num, _, _, hide ⟨by rw [List.length_append, HTl.out]; rfl, NF.out⟩⟩
                    | (simp [intOf]; omega)
                    | trace_state
              | succ n =>
                obtain ⟨x0, hx0⟩ : ∃ x, row[0]? = some x := ⟨_, List.getElem?_eq_getElem (by rw [hLn]; exact Nat.succ_pos n)⟩
                obtain ⟨ab, ao, rfl, -⟩ := hnW 0 x0 hx0
                have HNs : Hid (∀ (i : Nat) u, (row.map (Value.int .i64))[i]? = some u → W7.cell? ((⟨ab, ao, none⟩ : Addr).add i) = some u) := hide fun i u hu => by
                  rw [List.getElem?_map] at hu
                  cases hr : row[i]? with
                  | none => rw [hr] at hu; cases hu
                  | some y =>
                    rw [hr] at hu; cases hu
                    obtain ⟨b', o', e1, e2⟩ := hnW i y hr
                    cases e1
                    rw [Addr.add_lit]
                    exact keep_cell NT7.out.bw e2
                have hmin : (row.map (Value.int .i64)).length = Nat.min (n + 1) 8 := by rw [List.length_map, hLn]; have : Nat.min (n + 1) 8 = min (n + 1) 8 := rfl; rw [this, Nat.min_eq_left (by rw [hLn] at r8; exact r8)]
                have HCc : Hid (∀ i, i < (row.map (Value.int .i64)).length → (W7.cell? ⟨rb, 0 + i, none⟩).isSome = true) := hide fun i hi => by
                  rw [List.length_map] at hi
                  rw [Nat.zero_add, TH.out.reg i (Nat.lt_of_lt_of_le hi r8)]; rfl
                have HCf : Hid (∀ i, i < (row.map (Value.int .i64)).length → W7.frozen? ⟨rb, 0 + i, none⟩ = false) := hide fun i _ => TH.out.fz _
                have H1c : ∀ u ∈ row.map (Value.int .i64), u.oneCell' = true := fun u hu => by
                  obtain ⟨y, -, rfl⟩ := List.mem_map.1 hu
                  rfl
                rw [hLn] at cR
                clear hrow cW hnW hTl hx0
                generalize row.map (Value.int .i64) = RC at *
                obtain ⟨W8, hW8⟩ : ∃ W8, W8 = (W7.setCells rb 0 RC).drew := ⟨_, rfl⟩
                rw [← hW8] at TB0 NT0
                have TB := TB0
                have NT8 := NT0
                clear TB0 NT0
                go_wp2_with fail
                go_region_law (refine step_copy_cells _ (by rfl) _ _ _ 3 (by rfl) rb 0 8 8 ⟨ab, ao, none⟩ (n + 1) capr RC (by rfl) (by rfl) hu hz1 hmin (fun i u hi => HNs.out i u hi) (fun i hi => HCc.out i hi) (fun i hi => HCf.out i hi) H1c ?_)
                all_goals
                  (try rw [setCells_drew])
                  rw [← hW8]
                  clear hW8
                  have hTl := HTl.out
                  have hL := HXX.out.1
                  have hin := HXX.out.2
                  have k1 := NT8.out.k1
                  have hown := NT8.out.own
                  have fk1 := NT8.out.fk 1
                  have lk8 : w2.heap.size < W8.heap.size := World.block_lt_of_cell? _ _ k1
                  have y0 := TB.out.x0
                  have y1 := TB.out.x1
                  have y2 := TB.out.x2
                  obtain ⟨ti0, hti, htz, hts, htb⟩ := thrInfo
                  have nk : v.ownBlock ≠ some w2.heap.size := fun e => (NT8.out.vb _ e).1 rfl
                  have hml : T.length + 1 ≤ maxLen := Nat.le_trans (Nat.succ_le_succ hT6) (by decide)
                  have hmb : (T.length + 1) * 56 ≤ 140737488355328 := Nat.le_trans (Nat.mul_le_mul_right 56 (Nat.succ_le_succ hT6)) (by decide)
                  have hws : w.heap.size ≤ W8.heap.size := NT8.out.bw.size
                  obtain ⟨W9, hW9⟩ : ∃ W9, W9 = W8.alloc (.cells #[.slice adl L.length capl, .slice (some ⟨rb, 0, none⟩) 8 8, .int .i64 0] 57) := ⟨_, rfl⟩
                  have b9 : Below W8.heap.size W8 W9 := by rw [hW9]; exact (Below.refl _ _).alloc (Nat.le_refl _) _
                  have rlt : rb < W8.heap.size := World.block_lt_of_cell? _ _ (TB.out.reg 0 (by decide))
                  have fzr : ∀ o, W9.frozen? ⟨rb, o, none⟩ = false := fun o => by rw [b9.frozen rlt]; exact TB.out.fz o
                  have NT9 := hide (NT8.out.below b9)
                  have k19 := NT9.out.k1
                  have hown9 := NT9.out.own
                  have fk9 := NT9.out.fk 1
                  have lk9 : w2.heap.size < W9.heap.size := World.block_lt_of_cell? _ _ k19
                  have hws9 : w.heap.size ≤ W9.heap.size := NT9.out.bw.size
                  have nw9 : ∀ j u, ([.slice adl L.length capl, .slice (some ⟨rb, 0, none⟩) 8 8, .int .i64 0] : List Value)[j]? = some u → W9.cell? ((⟨W8.heap.size, 0, none⟩ : Addr).add j) = some u := by rw [hW9]; exact World.news_of_block (cs := #[.slice adl L.length capl, .slice (some ⟨rb, 0, none⟩) 8 8, .int .i64 0]) (t := 57) (fr := (0, 0)) (heap_alloc_new W8 _)
                  clear hTl
                  go_wp2_with fail
                  go_region_law
                    ((try rw [← hW9])
                     refine step_append_at _ (by rfl) _ _ _ (by rfl) w.heap.size 57 ti0 _ 3 56 Tryz.underlying59 hti htz hts htb rfl (by omega) v T.length (thrCells T) (by rfl) hown9
                        ⟨W8.heap.size, 0, none⟩ 1 1 [.slice adl L.length capl, .slice (some ⟨rb, 0, none⟩) 8 8, .int .i64 0] (by rfl) (by rfl) nw9 (by simp [Value.oneCell']) hml hmb hws9 ?_; intro g10 cap10 w10 hown10 hgrow hat
                     have k110 : w10.cell? ⟨w2.heap.size, 1, none⟩ = some v := (World.cell?_of_block (hgrow.block w2.heap.size lk9 (Ne.symm nk))).trans k19
                     have fk10 : w10.frozen? ⟨w2.heap.size, 1, none⟩ = false := (World.frozen?_of_block (hgrow.block w2.heap.size lk9 (Ne.symm nk))).trans fk9)
                  all_goals
                    have NF := hide (Nm2.add (x := ⟨adl, L.length, capl, rb⟩) NT9.out (by rw [HTl.out]; exact hL) rfl hcl hin (W0 := wr) TB.out.gr (fun b e => (NT.out.2.own.lt b e).2) (fun b e => NT.out.2.mem.fp_lt e) (fun t y hy => NT.out.2.rlt hy) (World.block_lt_of_cell? _ _ NT.out.2.k0) (World.block_lt_of_cell? _ _ NT.out.2.s2)
                      (fun r hr => by rw [HTl.out]; exact keep_cell b9 (TB.out.reg r hr)) fzr NT.out.2.bw.size
                      (W9 := w10) (v' := .slice g10 (T.length + 1) cap10) (by rw [thrCells_append]; exact hown10) hgrow.size hgrow.os hgrow.tape hgrow.output (fun b hb hn => hgrow.block b hb (Ne.symm hn)) (fun b e => by
                        rcases hat with e2 | e2
                        · left; rw [← e2]; exact e
                        · right; rw [e2] at e; cases e; exact Nat.le_refl _))
                    clear hown10 hgrow hat hti htz hts htb hown9 hown nw9 NT9 NT8 NT7 TB TH hin hL
                    go_wp2
                    go_roundw
                  all_goals first
                    | exact ⟨t + 1, by omega, by go_num, _, _, hide ⟨by rw [List.length_append, HTl.out]; rfl, NF.out.below (Below.refl _ _).drew⟩⟩
                    | exact ⟨t + 1, by omega, by go_num, _, _, hide ⟨by rw [List.length_append, HTl.out]; rfl, NF.out⟩⟩
                    | (simp [intOf]; omega)
                    | trace_state
            · have tri : ¬ (t : Int) < s.regs.length := by omega
              have TB : Hid (ThrAt wr rb bx (.slice adl L.length capl) (fun r => rowAt s.regs t r) W7) := hide (by
                have e : (fun r => rowAt s.regs t r) = (fun _ => 0) := by
                  have h0 : s.regs.getD t [] = [] := by rw [List.getD_eq_getElem?_getD, List.getElem?_eq_none (Nat.le_of_not_lt htr)]; rfl
                  funext r; unfold rowAt; rw [h0]; rfl
                rw [e]; exact TH.out)
              have NT8 := NT7
              have k1 := NT8.out.k1
              have hown := NT8.out.own
              have fk1 := NT8.out.fk 1
              have lk8 : w2.heap.size < W7.heap.size := World.block_lt_of_cell? _ _ k1
              have y0 := TB.out.x0
              have y1 := TB.out.x1
              have y2 := TB.out.x2
              obtain ⟨ti0, hti, htz, hts, htb⟩ := thrInfo
              have nk : v.ownBlock ≠ some w2.heap.size := fun e => (NT8.out.vb _ e).1 rfl
              have hml : T.length + 1 ≤ maxLen := Nat.le_trans (Nat.succ_le_succ hT6) (by decide)
              have hmb : (T.length + 1) * 56 ≤ 140737488355328 := Nat.le_trans (Nat.mul_le_mul_right 56 (Nat.succ_le_succ hT6)) (by decide)
              have hws : w.heap.size ≤ W7.heap.size := NT8.out.bw.size
              obtain ⟨W9, hW9⟩ : ∃ W9, W9 = W7.alloc (.cells #[.slice adl L.length capl, .slice (some ⟨rb, 0, none⟩) 8 8, .int .i64 0] 57) := ⟨_, rfl⟩
              have b9 : Below W7.heap.size W7 W9 := by rw [hW9]; exact (Below.refl _ _).alloc (Nat.le_refl _) _
              have rlt : rb < W7.heap.size := World.block_lt_of_cell? _ _ (TB.out.reg 0 (by decide))
              have fzr : ∀ o, W9.frozen? ⟨rb, o, none⟩ = false := fun o => by rw [b9.frozen rlt]; exact TB.out.fz o
              have NT9 := hide (NT8.out.below b9)
              have k19 := NT9.out.k1
              have hown9 := NT9.out.own
              have fk9 := NT9.out.fk 1
              have lk9 : w2.heap.size < W9.heap.size := World.block_lt_of_cell? _ _ k19
              have hws9 : w.heap.size ≤ W9.heap.size := NT9.out.bw.size
              have nw9 : ∀ j u, ([.slice adl L.length capl, .slice (some ⟨rb, 0, none⟩) 8 8, .int .i64 0] : List Value)[j]? = some u → W9.cell? ((⟨W7.heap.size, 0, none⟩ : Addr).add j) = some u := by rw [hW9]; exact World.news_of_block (cs := #[.slice adl L.length capl, .slice (some ⟨rb, 0, none⟩) 8 8, .int .i64 0]) (t := 57) (fr := (0, 0)) (heap_alloc_new W7 _)
              clear hTl
              go_wp2_with fail
              go_region_law
                ((try rw [← hW9])
                 refine step_append_at _ (by rfl) _ _ _ (by rfl) w.heap.size 57 ti0 _ 3 56 Tryz.underlying59 hti htz hts htb rfl (by omega) v T.length (thrCells T) (by rfl) hown9
                    ⟨W7.heap.size, 0, none⟩ 1 1 [.slice adl L.length capl, .slice (some ⟨rb, 0, none⟩) 8 8, .int .i64 0] (by rfl) (by rfl) nw9 (by simp [Value.oneCell']) hml hmb hws9 ?_; intro g10 cap10 w10 hown10 hgrow hat
                 have k110 : w10.cell? ⟨w2.heap.size, 1, none⟩ = some v := (World.cell?_of_block (hgrow.block w2.heap.size lk9 (Ne.symm nk))).trans k19
                 have fk10 : w10.frozen? ⟨w2.heap.size, 1, none⟩ = false := (World.frozen?_of_block (hgrow.block w2.heap.size lk9 (Ne.symm nk))).trans fk9)
              all_goals
                have NF := hide (Nm2.add (x := ⟨adl, L.length, capl, rb⟩) NT9.out (by rw [HTl.out]; exact hL) rfl hcl hin (W0 := wr) TB.out.gr (fun b e => (NT.out.2.own.lt b e).2) (fun b e => NT.out.2.mem.fp_lt e) (fun t y hy => NT.out.2.rlt hy) (World.block_lt_of_cell? _ _ NT.out.2.k0) (World.block_lt_of_cell? _ _ NT.out.2.s2)
                  (fun r hr => by rw [HTl.out]; exact keep_cell b9 (TB.out.reg r hr)) fzr NT.out.2.bw.size
                  (W9 := w10) (v' := .slice g10 (T.length + 1) cap10) (by rw [thrCells_append]; exact hown10) hgrow.size hgrow.os hgrow.tape hgrow.output (fun b hb hn => hgrow.block b hb (Ne.symm hn)) (fun b e => by
                    rcases hat with e2 | e2
                    · left; rw [← e2]; exact e
                    · right; rw [e2] at e; cases e; exact Nat.le_refl _))
                clear hown10 hgrow hat hti htz hts htb hown9 hown nw9 NT9 NT8 NT7 TB TH hin hL
                go_wp2
                go_roundw
              all_goals first
                | exact ⟨t + 1, by omega, by go_num, _, _, hide ⟨by rw [List.length_append, HTl.out]; rfl, NF.out.below (Below.refl _ _).drew⟩⟩
                | exact ⟨t + 1, by omega, by go_num, _, _, hide ⟨by rw [List.length_append, HTl.out]; rfl, NF.out⟩⟩
                | (simp [intOf]; omega)
                | trace_state
        · obtain rfl : t = cs.length := by omega
          have HD : Hid (∃ p : RkPl, p.k = w2.heap.size ∧ p.B = w0.heap.size ∧ RkAt cs p (s.mach cs.length) wr ∧ ∀ b, p.fp cs.length (s.mach cs.length).mem b → w.heap.size ≤ b) := hide (NT.out.2.done NT.out.1 n1 n6)
          have HBW := hide NT.out.2.bw
          clear NT
          go_wp2
          go_ret
          obtain ⟨p, e1, e2, e3, e4⟩ := HD.out
          exact ⟨p, by rw [e1]; rfl, hide ⟨e3, e2, HBW.out, e4⟩⟩
end Go.Proofs.YtdpmnlbnlnmjbaaGreatDoor

/- RkB -/
namespace Go.Proofs.YtdpmnlbnlnmjbaaGreatDoor
open Go.RowKit Go.Extern.Stop Go.Stop Go.Extern Go.Sort

theorem lt_of_get {α : Type} {l : List α} {i : Nat} {x : α} (h : l[i]? = some x) : i < l.length := (List.getElem?_eq_some_iff.1 h).1

set_option maxRecDepth 20000 in
theorem rdone_end {cs : List (List Ins)} {p : RkPl} {m : Mk} {t : Nat} {L : List Ins} (ht : cs[t]? = some L) (hp : L.length ≤ m.pc t) {w : World} (h : RkAt cs p m w) :
    Calls Tryz.prog 51 #[.pointer (some ⟨p.k, 0, none⟩), .int .i64 t] w fun e w' => e = .returned (.bool true) ∧ Below w.heap.size w w' := by
  have hlt := lt_of_get ht
  have h6 := h.few
  have hT := h.mT
  have hA := h.tAt t hlt
  have hC := h.tCode t L ht
  have hcap := h.tcap
  have hcc := h.ccap t L ht
  have ti : (t : Int) < cs.length := by omega
  have hd : decide ((L.length : Int) ≤ m.pc t) = true := by simp; omega
  clear h ht
  go_enter Tryz.func51, Tryz.ntmps51
  go_wp2_with fail
  go_quiet (fail)
  go_wp2
  go_ret
  exact ⟨rfl, Below.drewN' _⟩

set_option maxRecDepth 20000 in
theorem rdone_at {cs : List (List Ins)} {p : RkPl} {m : Mk} {t : Nat} {L : List Ins} {x : Ins} (ht : cs[t]? = some L) (hp : L[m.pc t]? = some x) {w : World} (h : RkAt cs p m w) :
    Calls Tryz.prog 51 #[.pointer (some ⟨p.k, 0, none⟩), .int .i64 t] w fun e w' => e = .returned (.bool (x.op.toList == [115, 116, 111, 112])) ∧ Below w.heap.size w w' := by
  have hlt := lt_of_get ht
  have h6 := h.few
  have hT := h.mT
  have hA := h.tAt t hlt
  have hC := h.tCode t L ht
  have hcap := h.tcap
  have hcc := h.ccap t L ht
  have ti : (t : Int) < cs.length := by omega
  obtain ⟨b, off, had, a0, -, -, -, -⟩ := h.rc.code ht (m.pc t) x hp
  rw [had] at hC
  have hpl := lt_of_get hp
  have hd : decide ((L.length : Int) ≤ m.pc t) = false := by simp; omega
  have hdn : decide (L.length ≤ m.pc t) = false := by simp; omega
  have pi : (m.pc t : Int) < L.length := by omega
  clear h ht hp
  go_enter Tryz.func51, Tryz.ntmps51
  go_wp2_with fail
  go_quiet (fail)
  go_wp2
  go_ret
  exact ⟨rfl, Below.drewN' _⟩

theorem RkAt.fault1 {cs : List (List Ins)} {p : RkPl} {m : Mk} {w : World} (h : RkAt cs p m w) : RkStep cs p m.mem w p.rp p.mv (m.addFault 1) (w.setCell ⟨p.k, 3, none⟩ (.int .i64 ((m.faults : Int) + 1))) := h.addFault 1

set_option maxRecDepth 20000 in
set_option maxHeartbeats 1000000 in
theorem rnames_yes {cs : List (List Ins)} {p : RkPl} {m : Mk} {n : Int} (hn : Wd n) {w : World} (h : RkAt cs p m w) (hy : m.names n = true) :
    Calls Tryz.prog 56 #[.pointer (some ⟨p.k, 0, none⟩), .int .i64 n] w fun e w' => e = .returned (.tuple #[.agg #[.int .i64 (cellOf n), .int .i64 (genOf n)], .bool true]) ∧ Below w.heap.size w w' := by
  obtain ⟨hz, hh⟩ := (Bool.and_eq_true _ _).mp hy
  have hn0 : n ≠ 0 := by simpa using hz
  have h1 : 1 ≤ n := by have := hn.1; omega
  have HR : Hid (∀ w', Calls Tryz.prog 87 #[.int .i64 n] w' fun e w'' => e = .returned (.tuple #[.agg #[.int .i64 (cellOf n), .int .i64 (genOf n)], .int .i64 0]) ∧ Below w'.heap.size w' w'') := fun w' => refOf_ok n w' h1 hn.2
  have HH : Hid (∀ w', Below w.heap.size w w' → Calls Tryz.prog 88 #[.pointer (some ⟨p.rp.mb, 0, none⟩), .agg #[.int .i64 (cellOf n), .int .i64 (genOf n)]] w' fun e w'' => e = .returned (.bool true) ∧ Below w'.heap.size w' w'') := fun w' hb => by
    have := here_any p.rp m.mem (cellOf n) (genOf n) w' (h.below hb).mem
    rwa [hh] at this
  have hM := h.mM
  clear hy hz hh hn h
  generalize cellOf n = c at *
  generalize genOf n = g at *
  have hba : Below w.heap.size w (w.alloc (.cells #[.int .i64 0, .int .i64 0] 95)) := box_below 0 0 w
  have z0 : (w.alloc (.cells #[.int .i64 0, .int .i64 0] 95)).cell? ⟨w.heap.size, 0, none⟩ = some (.int .i64 0) := by simp
  have z1 : (w.alloc (.cells #[.int .i64 0, .int .i64 0] 95)).cell? ⟨w.heap.size, 1, none⟩ = some (.int .i64 0) := by simp
  have y0 : (w.alloc (.cells #[.int .i64 0, .int .i64 0] 95)).frozen? ⟨w.heap.size, 0, none⟩ = false := by simp
  have y1 : (w.alloc (.cells #[.int .i64 0, .int .i64 0] 95)).frozen? ⟨w.heap.size, 1, none⟩ = false := by simp
  have hM1 := keep_cell hba hM
  generalize hw : w.alloc (.cells #[.int .i64 0, .int .i64 0] 95) = w1 at *
  go_enter Tryz.func56, Tryz.ntmps56
  go_wp2_with fail
  refine (HR.out _).mono ?_
  rintro e w2 ⟨rfl, hb2⟩
  have hzl : w.heap.size < w1.heap.size := World.block_lt_of_cell? _ _ z0
  obtain ⟨W3, hW3⟩ : ∃ W3, W3 = w2.alloc (.cells #[.int .i64 c, .int .i64 g] 95) := ⟨_, rfl⟩
  have hb3 : Below w1.heap.size w1 W3 := by rw [hW3]; exact hb2.alloc hb2.size _
  have q0 : W3.cell? ⟨w2.heap.size, 0, none⟩ = some (.int .i64 c) := by rw [hW3]; simp
  have q1 : W3.cell? ⟨w2.heap.size, 1, none⟩ = some (.int .i64 g) := by rw [hW3]; simp
  have r0 := keep_cell hb3 z0
  have r1 := keep_cell hb3 z1
  have x0 : W3.frozen? ⟨w.heap.size, 0, none⟩ = false := by rw [hb3.frozen hzl]; exact y0
  have x1 : W3.frozen? ⟨w.heap.size, 1, none⟩ = false := by rw [hb3.frozen hzl]; exact y1
  have hM3 := keep_cell hb3 hM1
  have B3 := below_step hba hb3
  have l3 : w.heap.size < W3.heap.size := World.block_lt_of_cell? _ _ r0
  clear z0 z1 y0 y1 hM hM1 hw HR hb3
  go_wp2_with fail
  rw [← hW3]
  clear hW3 hb2 hzl
  have HCF : Hid (∀ d os, Calls Tryz.prog 88 #[.pointer (some ⟨p.rp.mb, 0, none⟩), .agg #[.int .i64 c, .int .i64 g]] (grow (redrawn W3 d) os) fun e w'' => e = .returned (.bool true) ∧ ∃ p : Regrown, w'' = grow (redrawn W3 p.d) p.os) := fun d os =>
    Calls.regrown_of (HH.out _ (below_step B3 (below_regrown W3 d os)))
  have d0 := cell_regrown q0
  have d1 := cell_regrown q1
  have dM := cell_regrown hM3
  clear HH
  go_wp2_with fail
  refine wp_region_quiet_below (by kernel_rfl) (by kernel_rfl) ?_
  repeat (first
    | go_big_quiet_step (exact HCF.out _ _)
    | quiet_step (exact HCF.out _ _))
  refine wpQuiet_nil ?_
  intro _ hw'
  obtain ⟨⟨dq, osq⟩, hw''⟩ := hw'
  subst hw''
  have hb4 := below_regrown W3 dq osq
  have B4 := below_step B3 hb4
  have e0 := d0 dq osq
  have e1 := d1 dq osq
  replace r0 := keep_cell hb4 r0
  replace r1 := keep_cell hb4 r1
  have x0' : (grow (redrawn W3 dq) osq).frozen? ⟨w.heap.size, 0, none⟩ = false := by rw [hb4.frozen l3]; exact x0
  have x1' : (grow (redrawn W3 dq) osq).frozen? ⟨w.heap.size, 1, none⟩ = false := by rw [hb4.frozen l3]; exact x1
  clear HCF d0 d1 dM q0 q1 x0 x1 hM3 B3 hb4 l3
  generalize grow (redrawn W3 dq) osq = w4 at *
  go_wp2
  refine bodyPost_ret (v := .tuple #[.agg #[.int .i64 c, .int .i64 g], .bool true]) (by simp only [results, Tryz.results56]; go_simp) rfl ⟨rfl, ?_⟩
  exact (B4.setCell (Nat.le_refl _) _).setCell (Nat.le_refl _) _
end Go.Proofs.YtdpmnlbnlnmjbaaGreatDoor
