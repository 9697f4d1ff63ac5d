import Derived.Test.YtgmokighfgdnjaaGreatDoorC36
import Derived.Deep.RegionLaw
import Derived.Test.YtgmokighfgdnjaaGreatDoorC16
import Derived.Test.YtgmokighfgdnjaaGreatDoorC19
import Derived.Test.YtgmokighfgdnjaaGreatDoorC33
import Derived.Test.YtgmokighfgdnjaaGreatDoorC34
import Derived.Test.YtgmokighfgdnjaaGreatDoorC18
import Derived.Test.YtgmokighfgdnjaaGreatDoorC03
import Derived.Maps.AppendAt
import Derived.Laws.IdiomCopy

/- RsF -/
namespace Go.Proofs.YtgmokighfgdnjaaGreatDoor
open Go.RowKit Go.Extern.Stop Go.Stop Go.Extern Go.Maps Go.WideMaps Go.Sort

structure ThrAt (wr : World) (rb bx : Nat) (A : Value) (f : Nat → Int) (W : World) : Prop where
  b : Below wr.heap.size wr W
  gr : wr.heap.size ≤ rb
  gx : wr.heap.size ≤ bx
  ne : bx ≠ rb
  x0 : W.cell? ⟨bx, 0, none⟩ = some A
  x1 : W.cell? ⟨bx, 1, none⟩ = some (.slice (some ⟨rb, 0, none⟩) 8 8)
  x2 : W.cell? ⟨bx, 2, none⟩ = some (.int .i64 0)
  reg : ∀ r, r < 8 → W.cell? ⟨rb, r, none⟩ = some (.int .i64 (f r))
  fz : ∀ o, W.frozen? ⟨rb, o, none⟩ = false
theorem ThrAt.copy {wr : World} {rb bx : Nat} {A : Value} {W : World} (h : ThrAt wr rb bx A (fun _ => 0) W) (row : List Int) (h8 : row.length ≤ 8) : ThrAt wr rb bx A (fun r => row.getD r 0) (W.setCells rb 0 (row.map (Value.int .i64))) where
  b := h.b.trans ((turns_setCells rb (row.map (Value.int .i64)) 0 W (Turns.refl (fun k _ => k = rb) W) (fun _ _ => rfl)).below h.b.size (fun k _ hk e => by have := h.gr; omega))
  gr := h.gr
  gx := h.gx
  ne := h.ne
  x0 := by rw [World.cell?_setCells_out _ _ _ _ _ (fun e _ => absurd e h.ne)]; exact h.x0
  x1 := by rw [World.cell?_setCells_out _ _ _ _ _ (fun e _ => absurd e h.ne)]; exact h.x1
  x2 := by rw [World.cell?_setCells_out _ _ _ _ _ (fun e _ => absurd e h.ne)]; exact h.x2
  reg r hr := by
    by_cases e : r < row.length
    · have := World.cell?_setCells_in rb (row.map (Value.int .i64)) 0 W (fun j hj => by rw [List.length_map] at hj; rw [Nat.zero_add, h.reg j (by omega)]; rfl) r (by rw [List.length_map]; exact e)
      rw [Nat.zero_add] at this
      rw [this, List.getElem_map, List.getD_eq_getElem?_getD, List.getElem?_eq_getElem e]; rfl
    · rw [World.cell?_setCells_out _ _ _ _ _ (fun _ _ => Or.inr (by rw [List.length_map]; show 0 + row.length ≤ r; omega)), h.reg r hr, List.getD_eq_getElem?_getD, List.getElem?_eq_none (by omega)]; rfl
  fz o := by rw [World.frozen?_setCells]; exact h.fz o
theorem ThrAt.drew {wr : World} {rb bx : Nat} {A : Value} {f : Nat → Int} {W : World} (h : ThrAt wr rb bx A f W) : ThrAt wr rb bx A f W.drew := ⟨h.b.drew, h.gr, h.gx, h.ne, h.x0, h.x1, h.x2, h.reg, h.fz⟩

end Go.Proofs.YtgmokighfgdnjaaGreatDoor

/- SpI -/
namespace Go.Proofs.YtgmokighfgdnjaaGreatDoor
open Go.RowKit Go.Extern.Stop Go.Stop Go.Extern Go.Maps Go.WideMaps Go.Sort

def spRegs : List Int := [0, 0, 0, 0, 0, 0, 0, 1]
def rowOwn (w : World) (base : Nat) (u : Value) : Prop := w.ownsRow base 3 1 u 8 (spRegs.map (Value.int .i64))

structure Prep (tm jc jr : Nat) (w0 : World) (base sb bi : Nat) (v : Value) (vs : List Value) (rv : Value) (rs : List Value) (w : World) : Prop where
  own : w.ownsRow base 24 1 v jc vs
  ownr : w.ownsRow base 36 1 rv jr rs
  codes : ∀ u ∈ vs, insOwn w base u (spCode tm)
  rows : ∀ u ∈ rs, rowOwn w base u
  nec : ∀ u ∈ vs, ∀ b, u.ownBlock = some b → v.ownBlock ≠ some b ∧ rv.ownBlock ≠ some b
  ner : ∀ u ∈ rs, ∀ b, u.ownBlock = some b → v.ownBlock ≠ some b ∧ rv.ownBlock ≠ some b
  ne : ∀ b, v.ownBlock = some b → rv.ownBlock ≠ some b
  low : Below w0.heap.size w0 w
  b0 : w0.heap.size ≤ base
  sb0 : w0.heap.size ≤ sb
  sb1 : sb < base
  bi1 : bi < base
  bs : bi ≠ sb
  c0 : w.cell? ⟨sb, 0, none⟩ = some (.int .i64 1)
  c1 : w.cell? ⟨sb, 1, none⟩ = some (.slice (some ⟨bi, 0, none⟩) 1 1)
  c2 : w.cell? ⟨sb, 2, none⟩ = some rv
  ci : ∃ ad cap, w.cell? ⟨bi, 0, none⟩ = some (.slice ad 0 cap)
  fz : ∀ o, w.frozen? ⟨sb, o, none⟩ = false
  sz : base ≤ w.heap.size

section
variable {tm jc jr : Nat} {w0 : World} {base sb bi : Nat} {v : Value} {vs : List Value} {rv : Value} {rs : List Value} {w w' : World}
theorem Prep.below (h : Prep tm jc jr w0 base sb bi v vs rv rs w) (k : Below w.heap.size w w') : Prep tm jc jr w0 base sb bi v vs rv rs w' where
  own := ownsRow_block h.own (fun b hb => k.block b (h.own.lt b hb).2)
  ownr := ownsRow_block h.ownr (fun b hb => k.block b (h.ownr.lt b hb).2)
  codes u hu := insOwn_keep (h.codes u hu) k
  rows u hu := ownsRow_block (h.rows u hu) (fun b hb => k.block b (World.ownsRow.lt (h.rows u hu) b hb).2)
  nec := h.nec
  ner := h.ner
  ne := h.ne
  low := below_step h.low k
  b0 := h.b0
  sb0 := h.sb0
  sb1 := h.sb1
  bi1 := h.bi1
  bs := h.bs
  c0 := keep_cell k h.c0
  c1 := keep_cell k h.c1
  c2 := keep_cell k h.c2
  ci := by obtain ⟨ad, cap, e⟩ := h.ci; exact ⟨ad, cap, keep_cell k e⟩
  fz o := by rw [World.frozen?_of_block (k.block sb (Nat.lt_of_lt_of_le h.sb1 h.sz))]; exact h.fz o
  sz := Nat.le_trans h.sz k.size

theorem Prep.code (h : Prep tm jc jr w0 base sb bi v vs rv rs w) {u : Value} (hu : insOwn w base u (spCode tm)) (hne : ∀ b, u.ownBlock = some b → v.ownBlock ≠ some b ∧ rv.ownBlock ≠ some b) {v' : Value} {N : Nat} (hN : w.heap.size ≤ N)
    (ho : w'.ownsRow base 24 1 v' (jc + 1) (vs ++ [u])) (hg : w.grownBy w' v.ownBlock) (hloc : v'.ownBlock = v.ownBlock ∨ v'.ownBlock = some N) : Prep tm (jc + 1) jr w0 base sb bi v' (vs ++ [u]) rv rs w' := by
  have hB : Below base w w' := (Below.refl base w).grown hg h.sz (fun k hk => (h.own.lt k hk).1)
  have kc : ∀ k o x, k < base → w.cell? ⟨k, o, none⟩ = some x → w'.cell? ⟨k, o, none⟩ = some x := fun k o x hk hc => by
    rw [World.cell?_of_block (hB.block k hk)]; exact hc
  have nb : ∀ b, b < w.heap.size → v.ownBlock ≠ some b → v'.ownBlock ≠ some b := fun b hb hne e => by
    rcases hloc with h1 | h1
    · rw [h1] at e; exact hne e
    · rw [h1] at e
      have := Option.some.inj e
      omega
  refine ⟨ho, World.ownsRow.kept h.ownr hg ?_, fun x hx => ?_, fun x hx => World.ownsRow.kept (h.rows x hx) hg ?_, fun x hx b e => ?_, fun x hx b e => ?_, fun b e e2 => ?_, ?_, h.b0, h.sb0, h.sb1, h.bi1, h.bs, kc _ _ _ h.sb1 h.c0, kc _ _ _ h.sb1 h.c1, kc _ _ _ h.sb1 h.c2, ?_, fun o => ?_, Nat.le_trans h.sz hB.size⟩
  · cases hr : rv.ownBlock with
    | none => exact .inl rfl
    | some b => exact .inr fun e => h.ne b e.symm hr
  · rcases List.mem_append.1 hx with hx | hx
    · refine insOwn_kept (h.codes x hx) hg ?_
      cases hr : x.ownBlock with
      | none => exact .inl rfl
      | some b => exact .inr fun e => (h.nec x hx b hr).1 e.symm
    · obtain rfl : x = u := by simpa using hx
      refine insOwn_kept hu hg ?_
      cases hr : x.ownBlock with
      | none => exact .inl rfl
      | some b => exact .inr fun e => (hne b hr).1 e.symm
  · cases hr : x.ownBlock with
    | none => exact .inl rfl
    | some b => exact .inr fun e => (h.ner x hx b hr).1 e.symm
  · rcases List.mem_append.1 hx with hx | hx
    · exact ⟨nb b (World.ownsRow.lt (h.codes x hx) b e).2 (h.nec x hx b e).1, (h.nec x hx b e).2⟩
    · obtain rfl : x = u := by simpa using hx
      exact ⟨nb b (World.ownsRow.lt hu b e).2 (hne b e).1, (hne b e).2⟩
  · exact ⟨nb b (World.ownsRow.lt (h.rows x hx) b e).2 (h.ner x hx b e).1, (h.ner x hx b e).2⟩
  · exact nb b (h.ownr.lt b e2).2 (fun e3 => h.ne b e3 e2) e
  · exact h.low.trans (hB.mono h.b0)
  · obtain ⟨ad, cap, e⟩ := h.ci
    exact ⟨ad, cap, kc _ _ _ h.bi1 e⟩
  · rw [World.frozen?_of_block (hB.block sb h.sb1)]; exact h.fz o

theorem Prep.row (h : Prep tm jc jr w0 base sb bi v vs rv rs w) {u : Value} (hu : rowOwn w base u) (hne : ∀ b, u.ownBlock = some b → v.ownBlock ≠ some b ∧ rv.ownBlock ≠ some b) {rv' : Value} {N : Nat} (hN : w.heap.size ≤ N)
    (ho : w'.ownsRow base 36 1 rv' (jr + 1) (rs ++ [u])) (hg : w.grownBy w' rv.ownBlock) (hloc : rv'.ownBlock = rv.ownBlock ∨ rv'.ownBlock = some N) : Prep tm jc (jr + 1) w0 base sb bi v vs rv' (rs ++ [u]) (w'.setCell ⟨sb, 2, none⟩ rv') := by
  have hB : Below base w w' := (Below.refl base w).grown hg h.sz (fun k hk => (h.ownr.lt k hk).1)
  have kc : ∀ k o x, k < base → w.cell? ⟨k, o, none⟩ = some x → w'.cell? ⟨k, o, none⟩ = some x := fun k o x hk hc => by
    rw [World.cell?_of_block (hB.block k hk)]; exact hc
  have nb : ∀ b, b < w.heap.size → rv.ownBlock ≠ some b → rv'.ownBlock ≠ some b := fun b hb hne e => by
    rcases hloc with h1 | h1
    · rw [h1] at e; exact hne e
    · rw [h1] at e
      have := Option.some.inj e
      omega
  have blk : ∀ b, b ≠ sb → (w'.setCell ⟨sb, 2, none⟩ rv').heap[b]? = w'.heap[b]? := fun b hb => Below.heap_setCell _ _ _ _ hb
  have ko : ∀ {e : TypeId} {size : Nat} {x : Value} {n : Nat} {xs : List Value}, w'.ownsRow base e size x n xs → (w'.setCell ⟨sb, 2, none⟩ rv').ownsRow base e size x n xs := fun ho => ownsRow_block ho (fun b hb => blk b (fun e => by have := (ho.lt b hb).1; have := h.sb1; omega))
  refine ⟨ko (World.ownsRow.kept h.own hg ?_), ko ho, fun x hx => ko (insOwn_kept (h.codes x hx) hg ?_), fun x hx => ?_, fun x hx b e => ?_, fun x hx b e => ?_, fun b e e2 => ?_, ?_, h.b0, h.sb0, h.sb1, h.bi1, h.bs, cell_ne (kc _ _ _ h.sb1 h.c0) (.inr (by decide)), cell_ne (kc _ _ _ h.sb1 h.c1) (.inr (by decide)), World.cell?_setCell_same _ _ _ (kc _ _ _ h.sb1 h.c2), ?_, fun o => ?_, ?_⟩
  · cases hr : v.ownBlock with
    | none => exact .inl rfl
    | some b => exact .inr fun e => h.ne b hr e.symm
  · cases hr : x.ownBlock with
    | none => exact .inl rfl
    | some b => exact .inr fun e => (h.nec x hx b hr).2 e.symm
  · refine ko ?_
    rcases List.mem_append.1 hx with hx | hx
    · refine World.ownsRow.kept (h.rows x hx) hg ?_
      cases hr : x.ownBlock with
      | none => exact .inl rfl
      | some b => exact .inr fun e => (h.ner x hx b hr).2 e.symm
    · obtain rfl : x = u := by simpa using hx
      refine World.ownsRow.kept hu hg ?_
      cases hr : x.ownBlock with
      | none => exact .inl rfl
      | some b => exact .inr fun e => (hne b hr).2 e.symm
  · exact ⟨(h.nec x hx b e).1, nb b (World.ownsRow.lt (h.codes x hx) b e).2 (h.nec x hx b e).2⟩
  · rcases List.mem_append.1 hx with hx | hx
    · exact ⟨(h.ner x hx b e).1, nb b (World.ownsRow.lt (h.rows x hx) b e).2 (h.ner x hx b e).2⟩
    · obtain rfl : x = u := by simpa using hx
      exact ⟨(hne b e).1, nb b (World.ownsRow.lt hu b e).2 (hne b e).2⟩
  · exact nb b (h.own.lt b e).2 (h.ne b e) e2
  · exact (h.low.trans (hB.mono h.b0)).setCell h.sb0 _
  · obtain ⟨ad, cap, e⟩ := h.ci
    exact ⟨ad, cap, cell_ne (kc _ _ _ h.bi1 e) (.inl h.bs)⟩
  · rw [World.frozen?_setCell, World.frozen?_of_block (hB.block sb h.sb1)]; exact h.fz o
  · have := hB.size
    have := h.sz
    simp [World.setCell]; omega

end
end Go.Proofs.YtgmokighfgdnjaaGreatDoor

/- SpJ -/
namespace Go.Proofs.YtgmokighfgdnjaaGreatDoor
open Go.RowKit Go.Extern.Stop Go.Stop Go.Extern Go.Maps Go.WideMaps Go.Sort

theorem Prep.first {tm : Nat} {w w1 : World} (hb : Below w.heap.size w w1) : ∃ vs rv rs, Prep tm 0 0 w (w1.heap.size + 1 + 1 + 1) (w1.heap.size + 1 + 1) (w1.heap.size + 1) (.slice none 0 0) vs rv rs (((w1.alloc (.cells #[] 3)).alloc (.cells #[.slice (some ⟨w1.heap.size, 0, none⟩) 0 0] 36)).alloc (.cells #[.int .i64 1, .slice (some ⟨w1.heap.size + 1, 0, none⟩) 1 1, .slice none 0 0] 75)) := by
  have hs := hb.size
  obtain ⟨Wa, hWa⟩ : ∃ Wa, Wa = (w1.alloc (.cells #[] 3)).alloc (.cells #[.slice (some ⟨w1.heap.size, 0, none⟩) 0 0] 36) := ⟨_, rfl⟩
  rw [← hWa]
  have hz : Wa.heap.size = w1.heap.size + 1 + 1 := by rw [hWa]; simp
  have n := World.cell?_alloc_new Wa #[.int .i64 1, .slice (some ⟨w1.heap.size + 1, 0, none⟩) 1 1, .slice none 0 0] 75
  have f := fun o => World.frozen?_alloc_new Wa #[.int .i64 1, .slice (some ⟨w1.heap.size + 1, 0, none⟩) 1 1, .slice none 0 0] 75 o
  rw [hz] at n f
  have ci : Wa.cell? ⟨w1.heap.size + 1, 0, none⟩ = some (.slice (some ⟨w1.heap.size, 0, none⟩) 0 0) := by rw [hWa]; simp
  have hbW : Below w.heap.size w Wa := by rw [hWa]; exact (hb.alloc hs _).alloc (by simp; omega) _
  refine ⟨[], .slice none 0 0, [], ?_⟩
  exact {
    own := World.ownsRow_nil _ _ _ _
    ownr := World.ownsRow_nil _ _ _ _
    codes := fun u hu => (by cases hu)
    rows := fun u hu => (by cases hu)
    nec := fun u hu => (by cases hu)
    ner := fun u hu => (by cases hu)
    ne := fun b e => (by cases e)
    low := hbW.alloc (by omega) _
    b0 := by omega
    sb0 := by omega
    sb1 := by omega
    bi1 := by omega
    bs := by omega
    c0 := (n 0).trans rfl
    c1 := (n 1).trans rfl
    c2 := (n 2).trans rfl
    ci := ⟨_, _, keep_cell ((Below.refl _ _).alloc (Nat.le_refl _) _) ci⟩
    fz := fun o => f o
    sz := by simp; omega }

theorem Prep.box {tm jc jr : Nat} {w0 : World} {base sb bi : Nat} {v : Value} {vs : List Value} {rv : Value} {rs : List Value} {w w' : World} (h : Prep tm jc jr w0 base sb bi v vs rv rs w) (hg : w.grownBy w' rv.ownBlock) : w'.cell? ⟨sb, 2, none⟩ = some rv ∧ w'.frozen? ⟨sb, 2, none⟩ = false := by
  have hB : Below base w w' := (Below.refl base w).grown hg h.sz (fun k hk => (h.ownr.lt k hk).1)
  exact ⟨by rw [World.cell?_of_block (hB.block sb h.sb1)]; exact h.c2, by rw [World.frozen?_of_block (hB.block sb h.sb1)]; exact h.fz 2⟩
end Go.Proofs.YtgmokighfgdnjaaGreatDoor
