import Derived.Test.YtnnlkolhahjokaaGreatDoorA24
import Derived.Laws.AppendOwn
import Derived.Lib.LazyBuf
import Derived.Maps.AppendAt

/- StC -/
namespace Go.Proofs.YtnnlkolhahjokaaGreatDoor
open Go.RowKit Go.Extern.Stop Go.Stop Go.Extern Go.Maps Go.WideMaps Go.Sort

def icell (x : Ins) : List Value := [.string x.op, .int .i64 x.a, .int .i64 x.b, .int .i64 x.c, .string x.to]
def icells (l : List Ins) : List Value := l.flatMap icell
theorem icells_len (l : List Ins) : (icells l).length = l.length * 5 := by
  induction l with
  | nil => rfl
  | cons x l ih =>
    show (icell x ++ icells l).length = _
    rw [List.length_append, ih, List.length_cons]
    show 5 + _ = _
    omega
theorem icells_at : ∀ (l : List Ins) (i j : Nat) (x : Ins), l[i]? = some x → j < 5 → (icells l)[i * 5 + j]? = (icell x)[j]?
  | [], i, j, x, h, _ => by simp at h
  | y :: l, 0, j, x, h, hj => by
    cases h
    show (icell _ ++ icells l)[0 * 5 + j]? = _
    rw [List.getElem?_append_left (by show 0 * 5 + j < 5; omega), Nat.zero_mul, Nat.zero_add]
  | y :: l, i + 1, j, x, h, hj => by
    show (icell y ++ icells l)[(i + 1) * 5 + j]? = _
    rw [List.getElem?_append_right (by show 5 ≤ _; omega), show (i + 1) * 5 + j - (icell y).length = i * 5 + j by show _ - 5 = _; omega]
    exact icells_at l i j x (by simpa using h) hj
theorem icells_one {l : List Ins} : ∀ u ∈ icells l, u.oneCell' = true := fun u hu => by
  obtain ⟨x, -, h⟩ := List.mem_flatMap.1 hu
  simp only [icell, List.mem_cons, List.not_mem_nil, or_false] at h
  rcases h with rfl | rfl | rfl | rfl | rfl <;> rfl
theorem insAt_cells {b off : Nat} {l : List Ins} {w : World} (h : insAt (some ⟨b, off, none⟩) l w) (k : Nat) (u : Value) (hu : (icells l)[k]? = some u) : w.cell? ⟨b, off + k, none⟩ = some u := by
  have hk := (List.getElem?_eq_some_iff.1 hu).1
  rw [icells_len] at hk
  obtain ⟨x, hx⟩ : ∃ x, l[k / 5]? = some x := ⟨_, List.getElem?_eq_getElem (by omega)⟩
  obtain ⟨b', off', e, h0, h1, h2, h3, h4⟩ := h _ x hx
  cases e
  have e := icells_at l (k / 5) (k % 5) x hx (Nat.mod_lt _ (by decide))
  rw [show k / 5 * 5 + k % 5 = k by omega, hu] at e
  have h5 : k % 5 < 5 := Nat.mod_lt _ (by decide)
  rw [show off + k = off + k / 5 * 5 + k % 5 by omega]
  generalize k % 5 = j at *
  match j, h5, e with
  | 0, _, e => cases e; exact h0
  | 1, _, e => cases e; exact h1
  | 2, _, e => cases e; exact h2
  | 3, _, e => cases e; exact h3
  | 4, _, e => cases e; exact h4
theorem insAt_of_icells {w : World} {base : Nat} {e : TypeId} {l : List Ins} {v : Value} (h : w.ownsRow base e 5 v l.length (icells l)) : ∃ ad cap, v = .slice ad l.length cap ∧ l.length ≤ cap ∧ cap ≤ maxLen ∧ insAt ad l w := by
  obtain ⟨g, c, rfl, h1, h2, h3⟩ := ownsRow_shape h
  refine ⟨g, c, rfl, h1, h2, fun i x hx => ?_⟩
  have hi := (List.getElem?_eq_some_iff.1 hx).1
  have key : ∀ j, j < 5 → ∀ u, (icell x)[j]? = some u → ∃ b off, g = some ⟨b, off, none⟩ ∧ w.cell? ⟨b, off + (i * 5 + j), none⟩ = some u := fun j hj u hu => by
    rw [← icells_at l i j x hx hj] at hu
    obtain ⟨gg, e, hc⟩ := h3 _ _ hu
    exact ⟨gg, 0, e, by rw [Nat.zero_add]; exact hc⟩
  obtain ⟨b, off, rfl, k0⟩ := key 0 (by decide) _ rfl
  obtain ⟨_, _, e1, k1⟩ := key 1 (by decide) _ rfl
  obtain ⟨_, _, e2, k2⟩ := key 2 (by decide) _ rfl
  obtain ⟨_, _, e3, k3⟩ := key 3 (by decide) _ rfl
  obtain ⟨_, _, e4, k4⟩ := key 4 (by decide) _ rfl
  cases e1; cases e2; cases e3; cases e4
  exact ⟨b, off, rfl, k0, k1, k2, k3, k4⟩
theorem instrInfo : ∃ i, (Tryz.prog).info? 44 = some i ∧ i.zero = some (.agg #[.string ⟨#[]⟩, .int .i64 0, .int .i64 0, .int .i64 0, .string ⟨#[]⟩]) ∧ i.size = 5 ∧ i.bytes = 56 := info_parts (by kernel_rfl)

set_option maxRecDepth 20000 in
set_option maxHeartbeats 1000000 in
theorem cloneI_any {ad : Option Addr} {l : List Ins} {cap : Nat} {w : World} (h : insAt ad l w) (hl : l.length ≤ 2000) (hn : ad = none → l = []) :
    Calls Tryz.prog 29 #[.slice ad l.length cap] w fun e w' => ∃ ad' cap', e = .returned (.slice ad' l.length cap') ∧ l.length ≤ cap' ∧ cap' ≤ maxLen ∧ insAt ad' l w' ∧ (∀ b off, ad' = some ⟨b, off, none⟩ → w.heap.size ≤ b ∧ b < w'.heap.size) ∧ Below w.heap.size w w' := by
  have q22 : ∀ (w : World) (a : Option Addr) (n c : Nat), (binOp .eql 45 (.slice a n c) (.slice none 0 0)).run Tryz.prog w = .ok (.bool a.isNone) w := fun w a n c => Go.run_eql_slice_nil w _ 44 a n c Tryz.underlying45
  cases ad with
  | none =>
    obtain rfl := hn rfl
    clear h hl hn
    go_enter Tryz.func29, Tryz.ntmps29
    go_wp2
    go_ret
    exact ⟨none, 0, rfl, Nat.le_refl _, Nat.zero_le _, fun i x hx => (by simp at hx), (fun b off e => nomatch e), Below.refl _ _⟩
  | some x =>
    have HC : Hid (∀ (k : Nat) u, (icells l)[k]? = some u → w.cell? (x.add k) = some u) := fun k u hu => by
      have hk := (List.getElem?_eq_some_iff.1 hu).1
      rw [icells_len] at hk
      obtain ⟨y, hy⟩ : ∃ y, l[0]? = some y := ⟨_, List.getElem?_eq_getElem (by omega)⟩
      obtain ⟨b, off, e, -⟩ := h 0 y hy
      cases e
      rw [Addr.add_lit]
      exact insAt_cells h k u hu
    obtain ⟨ri, hri, hrz, hrs, hrb⟩ := instrInfo
    clear h hn
    go_enter Tryz.func29, Tryz.ntmps29
    go_wp2_with (at_builtin; refine wpList_append_own _ rfl _ _ 45 rfl w.heap.size 44 ri (.agg #[.string ⟨#[]⟩, .int .i64 0, .int .i64 0, .int .i64 0, .string ⟨#[]⟩]) 5 56 Tryz.underlying45 hri hrz hrs hrb rfl (by decide) _ _ _ rfl (World.ownsRow_made w #[] 0 (Nat.le_refl _) (Nat.zero_le _) rfl) x l.length cap (icells l) rfl ?qc1 ?qc2 ?qc3 ?qc4 ?qc5 ?qc6 ?_)
    case qc1 => exact icells_len l
    case qc2 =>
      intro j u hj
      exact keep_cell ((Below.refl _ _).alloc (Nat.le_refl _) _) (HC.out j u hj)
    case qc3 => exact icells_one
    case qc4 => unfold maxLen; omega
    case qc5 => omega
    case qc6 => simp
    intro v' w1 hown hgrow hnil
    have HB : Below w.heap.size w w1 := ((Below.refl _ w).alloc (Nat.le_refl _) _).grown hgrow (by simp) (by intro k hk; simp [Value.ownBlock] at hk; omega)
    obtain ⟨ad', cap', rfl, h1, h2, h3⟩ := insAt_of_icells (l := l) (by simpa using hown)
    have h4 : ∀ b off, ad' = some ⟨b, off, none⟩ → w.heap.size ≤ b ∧ b < w1.heap.size := fun b off e => hown.lt b (by rw [e]; rfl)
    clear hown hgrow hnil
    go_wp2
    go_ret
    exact ⟨ad', cap', rfl, h1, h2, h3, h4, HB⟩

set_option maxRecDepth 20000 in
set_option maxHeartbeats 1000000 in
theorem cloneM_any {v : Value} {l : List (Nat × Int)} {base : Nat} {w : World} (h : w.ownsRow base 115 2 v l.length (markCells l)) (hl : l.length ≤ 1000) :
    Calls Tryz.prog 37 #[v] w fun e w' => ∃ v', e = .returned v' ∧ w'.ownsRow w.heap.size 115 2 v' l.length (markCells l) ∧ Below w.heap.size w w' := by
  have q22 : ∀ (w : World) (a : Option Addr) (n c : Nat), (binOp .eql 78 (.slice a n c) (.slice none 0 0)).run Tryz.prog w = .ok (.bool a.isNone) w := fun w a n c => Go.run_eql_slice_nil w _ 115 a n c Tryz.underlying78
  rcases h with ⟨hlen, ⟨rfl, h0⟩ | ⟨g, cap, cur, rfl, hb, hg, h1, h2, h3, h4⟩⟩
  · go_enter Tryz.func37, Tryz.ntmps37
    go_wp2
    go_ret
    exact ⟨_, rfl, ⟨hlen, .inl ⟨rfl, h0⟩⟩, Below.refl _ _⟩
  · have hown : w.ownsRow base 115 2 (.slice (some ⟨g, 0, none⟩) l.length cap) l.length (markCells l) := ⟨hlen, .inr ⟨g, cap, cur, rfl, hb, hg, h1, h2, h3, h4⟩⟩
    have HC : Hid (∀ j u, (markCells l)[j]? = some u → w.cell? ⟨g, j, none⟩ = some u) := fun j u hj => by
      obtain ⟨g', c', e, -, -, hk⟩ := ownsRow_shape hown
      obtain ⟨g2, e2, hc⟩ := hk j u hj
      cases e; cases e2; exact hc
    obtain ⟨ri, hri, hrz, hrs, hrb⟩ := markInfo
    clear hlen hb hg h1 h2 h3 h4 hown
    go_enter Tryz.func37, Tryz.ntmps37
    go_wp2_with (at_builtin; refine wpList_append_own _ rfl _ _ 78 rfl w.heap.size 115 ri (.agg #[.int .i64 0, .int .i64 0]) 2 16 Tryz.underlying78 hri hrz hrs hrb rfl (by decide) _ _ _ rfl (World.ownsRow_made w #[] 0 (Nat.le_refl _) (Nat.zero_le _) rfl) ⟨g, 0, none⟩ l.length cap (markCells l) rfl ?qc1 ?qc2 ?qc3 ?qc4 ?qc5 ?qc6 ?_)
    case qc1 => exact markCells_length l
    case qc2 =>
      intro j u hj
      rw [Addr.add_lit, Nat.zero_add]
      exact keep_cell ((Below.refl _ _).alloc (Nat.le_refl _) _) (HC.out j u hj)
    case qc3 =>
      intro u hu
      obtain ⟨x, -, h⟩ := List.mem_flatMap.1 hu
      simp only [markCell, List.mem_cons, List.not_mem_nil, or_false] at h
      rcases h with rfl | rfl <;> rfl
    case qc4 => unfold maxLen; omega
    case qc5 => omega
    case qc6 => simp
    intro v' w1 hown hgrow hnil
    have HB : Below w.heap.size w w1 := ((Below.refl _ w).alloc (Nat.le_refl _) _).grown hgrow (by simp) (by intro k hk; simp [Value.ownBlock] at hk; omega)
    obtain ⟨ad', cap', rfl⟩ : ∃ ad' cap', v' = Value.slice ad' l.length cap' := by
      obtain ⟨g, c, e, _⟩ := ownsRow_shape hown
      exact ⟨g, c, by first | exact e | (rw [e]; simp)⟩
    have HO : Hid (w1.ownsRow w.heap.size 115 2 (.slice ad' l.length cap') l.length (markCells l)) := hide (by simpa using hown)
    clear hown hgrow hnil
    go_wp2
    go_ret
    exact ⟨_, rfl, HO.out, HB⟩

theorem Env.e {a : Nat → Addr} {w : World} (h : Env a w) : EnvE a w := ⟨fun i hi => by
  have := h.cell i (by unfold okI; omega)
  match i, hi, this with
  | 0, hi, _ => exact absurd hi.1 (by decide)
  | 1, _, h => exact h
  | 2, _, h => exact h
  | 3, _, h => exact h
  | 4, _, h => exact h⟩

set_option maxRecDepth 20000 in
set_option maxHeartbeats 1000000 in
theorem bare_any {a : Nat → Addr} {f : Nat × Int} {v : Value} {B : Nat} {w : World} (hE : Env a w) (hf : f.1 ≠ 0) (h : errIs a f v w B) :
    Calls Tryz.prog 28 #[v] w fun e w' => e = .returned (xval a f.1) ∧ Below w.heap.size w w' := by
  have hE0 : Env a (w.alloc (.cells #[.pointer none] 96)) := hE.below fun k hk => Below.heap_alloc _ _ _ hk
  rcases h with ⟨h0, -⟩ | ⟨-, -, rfl⟩ | ⟨-, j, N, -, hN, rfl, c0, c1⟩
  · exact absurd h0 hf
  · obtain ⟨k, hk⟩ : ∃ k, f.1 = k + 1 := ⟨f.1 - 1, by omega⟩
    rw [hk]
    show Calls Tryz.prog 28 #[errAt (a k)] w fun e w' => e = .returned (errAt (a k)) ∧ Below w.heap.size w w'
    have H0 : Hid (∀ (t : Addr) (w0 : World), w0 = w.alloc (.cells #[.pointer none] 96) → Calls Tryz.prog 42 #[errAt (a k), .iface 122 (.pointer (some t))] w0 fun ev w' => ev = .returned (.bool false) ∧ Below w0.heap.size w0 w') := fun t w0 h => as_miss' (a k) t w0 (by rw [h]; exact hE0.handle)
    clear hE hE0 hf hk
    go_enter Tryz.func28, Tryz.ntmps28
    go_wp2_with fail
    refine (H0.out _ _ rfl).mono ?_
    rintro e0 w1 ⟨rfl, hb1⟩
    have hbW : Below w.heap.size w w1 := below_drop hb1
    go_wp2
    go_ret
    exact ⟨rfl, hbW⟩
  · have H0 : Hid (∀ (w0 : World), w0 = w.alloc (.cells #[.pointer none] 96) → Calls Tryz.prog 42 #[.iface 96 (.pointer (some ⟨N, 0, none⟩)), .iface 122 (.pointer (some ⟨w.heap.size, 0, none⟩))] w0 fun ev w' => ev = .returned (.bool true) ∧ w'.cell? ⟨w.heap.size, 0, none⟩ = some (.pointer (some ⟨N, 0, none⟩)) ∧ Below w.heap.size w0 w') := fun w0 h => as_hit' ⟨N, 0, none⟩ ⟨w.heap.size, 0, none⟩ (.pointer none) w0 (by rw [h]; exact hE0.handle) (by rw [h]; simp) (by rw [h]; simp)
    have hpl : N < w.heap.size := World.block_lt_of_cell? w _ c0
    clear hE hE0 hf
    generalize xval a f.1 = xv at *
    go_enter Tryz.func28, Tryz.ntmps28
    go_wp2_with fail
    refine (H0.out _ rfl).mono ?_
    rintro e0 w1 ⟨rfl, hct, hb1⟩
    have hbW : Below w.heap.size w w1 := ((Below.refl _ _).alloc (Nat.le_refl _) _).trans hb1
    have q1 : w1.cell? ⟨N, 1, none⟩ = some xv := by rw [hbW.cell hpl]; exact c1
    clear c0 c1 hb1 H0
    go_wp2
    go_ret
    exact ⟨rfl, hbW⟩
end Go.Proofs.YtnnlkolhahjokaaGreatDoor

/- StD -/
namespace Go.Proofs.YtnnlkolhahjokaaGreatDoor
open Go.RowKit Go.Extern.Stop Go.Stop Go.Extern Go.Maps Go.WideMaps Go.Sort

def codesAt (ad : Option Addr) (cs : List (List Ins)) (w : World) : Prop := ∀ (t : Nat) L, cs[t]? = some L → ∃ b off adl capl, ad = some ⟨b, off, none⟩ ∧ w.cell? ⟨b, off + t, none⟩ = some (.slice adl L.length capl) ∧ L.length ≤ capl ∧ insAt adl L w ∧ (adl = none → L = [])
theorem codesAt.below {ad : Option Addr} {cs : List (List Ins)} {w w' : World} (h : codesAt ad cs w) (hb : Below w.heap.size w w') : codesAt ad cs w' := fun t L ht => by
  obtain ⟨b, off, adl, capl, h1, h2, h3, h4, h5⟩ := h t L ht
  exact ⟨b, off, adl, capl, h1, keep_cell hb h2, h3, insAt_below h4 hb, h5⟩

structure PrX where
  ad : Option Addr
  n : Nat
  cap : Nat
  lb : Nat
def PrX.cells (x : PrX) : List Value := [.slice x.ad x.n x.cap, .map (some x.lb)]
def prCells (l : List PrX) : List Value := l.flatMap PrX.cells
theorem prCells_snoc (l : List PrX) (x : PrX) : prCells (l ++ [x]) = prCells l ++ x.cells := by simp [prCells]
theorem prCells_at : ∀ (l : List PrX) (i j : Nat) (x : PrX), l[i]? = some x → j < 2 → (prCells l)[i * 2 + j]? = x.cells[j]?
  | [], i, j, x, h, _ => by simp at h
  | y :: l, 0, j, x, h, hj => by
    cases h
    show (PrX.cells _ ++ prCells l)[0 * 2 + j]? = _
    rw [List.getElem?_append_left (by show 0 * 2 + j < 2; omega), Nat.zero_mul, Nat.zero_add]
  | y :: l, i + 1, j, x, h, hj => by
    show (y.cells ++ prCells l)[(i + 1) * 2 + j]? = _
    rw [List.getElem?_append_right (by show 2 ≤ _; omega), show (i + 1) * 2 + j - y.cells.length = i * 2 + j by show _ - 2 = _; omega]
    exact prCells_at l i j x (by simpa using h) hj
def PrX.uses (x : PrX) (k : Nat) : Prop := (∃ off, x.ad = some ⟨k, off, none⟩) ∨ x.lb = k
structure PrOk (L : List Ins) (x : PrX) (w : World) : Prop where
  n : x.n = L.length
  cap : L.length ≤ x.cap
  ins : insAt x.ad L w
  map : w.ownsMap Tryz.prog 9 (plainElem Tryz.prog 3) x.lb L.length (setD L L.length)
theorem ownsMap_same {H : Type} {P : Program} {k : TypeId} {R : Value → Option (DataW H × List MemPlace)} {w w' : World} {b n : Nat} {D : DataW H} (h : w.ownsMap P k R b n D) (hb : w'.heap[b]? = w.heap[b]?) : w'.ownsMap P k R b n D := by
  obtain ⟨es, clock, h1, F, hs, hD⟩ := h
  exact ⟨es, clock, by rw [hb]; exact h1, F, hs, hD⟩
theorem PrOk.same {L : List Ins} {x : PrX} {w w' : World} (h : PrOk L x w) (hb : ∀ k, k < w.heap.size → x.uses k → w'.heap[k]? = w.heap[k]?) : PrOk L x w' where
  n := h.n
  cap := h.cap
  ins i y hy := by
    obtain ⟨b, off, e, h0, h1, h2, h3, h4⟩ := h.ins i y hy
    have hk : w'.heap[b]? = w.heap[b]? := hb b (World.block_lt_of_cell? _ _ h0) (Or.inl ⟨off, e⟩)
    exact ⟨b, off, e, by rw [World.cell?_of_block (w := w) hk]; exact h0, by rw [World.cell?_of_block (w := w) hk]; exact h1, by rw [World.cell?_of_block (w := w) hk]; exact h2, by rw [World.cell?_of_block (w := w) hk]; exact h3, by rw [World.cell?_of_block (w := w) hk]; exact h4⟩
  map := ownsMap_same h.map (hb _ h.map.lt (Or.inr rfl))
theorem PrOk.below {L : List Ins} {x : PrX} {w w' : World} (h : PrOk L x w) (hb : Below w.heap.size w w') : PrOk L x w' := h.same fun k hk _ => hb.block k hk

structure PrRel (cs : List (List Ins)) (base : Nat) (v : Value) (j : Nat) (w : World) (pl : List PrX) : Prop where
  len : pl.length = j
  own : w.ownsRow base 104 2 v j (prCells pl)
  ok : ∀ (t : Nat) L x, cs[t]? = some L → pl[t]? = some x → PrOk L x w
  ne : ∀ x ∈ pl, ∀ k, x.uses k → v.ownBlock ≠ some k
  lt : ∀ x ∈ pl, ∀ k, x.uses k → k < w.heap.size
theorem PrRel.below {cs : List (List Ins)} {base : Nat} {v : Value} {j : Nat} {w w' : World} {pl : List PrX} (h : PrRel cs base v j w pl) (hb : Below w.heap.size w w') : PrRel cs base v j w' pl :=
  ⟨h.len, ownsRow_block h.own fun k hk => hb.block k (h.own.lt k hk).2, fun t L x h1 h2 => (h.ok t L x h1 h2).below hb, h.ne, fun x hx k hk => Nat.lt_of_lt_of_le (h.lt x hx k hk) hb.size⟩
theorem PrRel.snoc {cs : List (List Ins)} {base : Nat} {v v' : Value} {j : Nat} {w w' : World} {pl : List PrX} (h : PrRel cs base v j w pl) {L : List Ins} (hL : cs[j]? = some L) {x : PrX} (hx : PrOk L x w) (hlt : ∀ k, x.uses k → k < w.heap.size) (hne : ∀ k, x.uses k → v.ownBlock ≠ some k)
    (hown : w'.ownsRow base 104 2 v' (j + 1) (prCells pl ++ x.cells)) (hs : w.heap.size ≤ w'.heap.size) (hg : ∀ b, b < w.heap.size → v.ownBlock ≠ some b → w'.heap[b]? = w.heap[b]?) (hloc : ∀ k, v'.ownBlock = some k → v.ownBlock = some k ∨ w.heap.size ≤ k) :
    PrRel cs base v' (j + 1) w' (pl ++ [x]) where
  len := by simp [h.len]
  own := by rw [prCells_snoc]; exact hown
  ok t M y ht hy := by
    by_cases e : t < pl.length
    · rw [List.getElem?_append_left e] at hy
      have hm := List.mem_of_getElem? hy
      exact (h.ok t M y ht hy).same fun k hk hu => hg k hk (h.ne y hm k hu)
    · have e2 : t = j := by
        have := (List.getElem?_eq_some_iff.1 hy).1
        simp [h.len] at this e; omega
      subst e2
      rw [List.getElem?_append_right (by omega), h.len, Nat.sub_self] at hy
      cases hy
      rw [hL] at ht; cases ht
      exact hx.same fun k hk hu => hg k hk (hne k hu)
  ne y hy k hu e := by
    rw [List.mem_append, List.mem_singleton] at hy
    rcases hloc k e with e2 | e2
    · rcases hy with hy | rfl
      · exact h.ne y hy k hu e2
      · exact hne k hu e2
    · rcases hy with hy | rfl
      · have := h.lt y hy k hu; omega
      · have := hlt k hu; omega
  lt y hy k hu := by
    rw [List.mem_append, List.mem_singleton] at hy
    rcases hy with hy | rfl
    · exact Nat.lt_of_lt_of_le (h.lt y hy k hu) hs
    · exact Nat.lt_of_lt_of_le (hlt k hu) hs
theorem PrRel.pg {a : Nat → Addr} {cs : List (List Ins)} {base : Nat} {v : Value} {w : World} {pl : List PrX} (h : PrRel cs base v cs.length w pl) (hE : Env a w) (hR : Right cs) : ∃ pb pc, v = .slice (some ⟨pb, 0, none⟩) cs.length pc ∧ base ≤ pb ∧ Pg a cs pb pc w := by
  have h1 := hR.some'
  rcases h.own with ⟨hlen, ⟨-, h0⟩ | ⟨g, cap, cur, rfl, hb, hg, h2, h3, h4, h5⟩⟩
  · omega
  · refine ⟨g, cap, rfl, hb, ⟨hE, h2, fun t L ht => ?_, hR.right, hR.few⟩⟩
    have ht' := (List.getElem?_eq_some_iff.1 ht).1
    obtain ⟨x, hx⟩ : ∃ x, pl[t]? = some x := ⟨_, List.getElem?_eq_getElem (by rw [h.len]; exact ht')⟩
    have hk := h.ok t L x ht hx
    obtain ⟨g', c', e, -, -, hcell⟩ := ownsRow_shape h.own
    have k0 := prCells_at pl t 0 x hx (by decide)
    have k1 := prCells_at pl t 1 x hx (by decide)
    obtain ⟨g2, e2, c0⟩ := hcell _ _ k0
    obtain ⟨g3, e3, c1⟩ := hcell _ _ k1
    cases e; cases e2; cases e3
    exact ⟨x.ad, x.cap, x.lb, by rw [← hk.n]; exact c0, hk.cap, c1, hk.ins, hk.map⟩
theorem progInfo : ∃ i, (Tryz.prog).info? 104 = some i ∧ i.zero = some (.agg #[.slice none 0 0, .map none]) ∧ i.size = 2 ∧ i.bytes = 32 := info_parts (by kernel_rfl)
end Go.Proofs.YtnnlkolhahjokaaGreatDoor

/- StE -/
namespace Go.Proofs.YtnnlkolhahjokaaGreatDoor
open Go.RowKit Go.Extern.Stop Go.Stop Go.Extern Go.Maps Go.WideMaps Go.Sort

def PrPost (a : Nat → Addr) (cs : List (List Ins)) (w : World) (e : Ending) (w' : World) : Prop :=
  Below w.heap.size w w' ∧
  (((codesFrom 0 cs).1 = 0 ∧ ∃ v pl, e = .returned (.tuple #[v, .nilIface]) ∧ PrRel cs w.heap.size v cs.length w' pl) ∨
   ((codesFrom 0 cs).1 ≠ 0 ∧ ∃ v, e = .returned (.tuple #[.slice none 0 0, v]) ∧ errIs a (codesFrom 0 cs) v w' w.heap.size))

set_option maxRecDepth 20000 in
set_option maxHeartbeats 2000000 in
theorem programs_any {a : Nat → Addr} {ad : Option Addr} {cs : List (List Ins)} {cap : Nat} {w : World} (hE : Env a w) (hl : codesAt ad cs w) (h6 : cs.length ≤ 6) (hsz : ∀ (t : Nat) L, cs[t]? = some L → ∀ (i : Nat) x, L[i]? = some x → x.to.size ≤ maxLen) :
    Calls Tryz.prog 16 #[.slice ad cs.length cap] w fun e w' => Hid (PrPost a cs w e w') := by
  have HL := hide hl
  have HS := hide hsz
  have HE := hide hE
  have i6 : (cs.length : Int) ≤ 6 := by omega
  clear hl hsz hE
  go_enter Tryz.func16, Tryz.ntmps16
  go_wp2_with fail
  go_loopw [4, 5, 6, 7, 10] (fun v _ _ _ i wr => ∃ j : Nat, j ≤ cs.length ∧ i = .int .i64 j ∧ Below w.heap.size w wr ∧ Hid (∀ (t : Nat) L, t < j → cs[t]? = some L → (codeFault L).1 = 0) ∧ Hid (∃ pl, PrRel cs w.heap.size v j wr pl)) (fun _ _ _ _ i _ => cs.length - (intOf i).toNat)
  case atStart => exact ⟨0, Nat.zero_le _, rfl, Below.refl _ _, fun t L h => absurd h (Nat.not_lt_zero _), [], rfl, ⟨by simp [prCells], Or.inl ⟨rfl, rfl⟩⟩, fun t L x _ h => by simp at h, fun x h => absurd h List.not_mem_nil, fun x h => absurd h List.not_mem_nil⟩
  case round =>
    obtain ⟨j, hj, rfl, hB, HJ, HP⟩ := hrel
    by_cases hlt : j < cs.length
    · obtain ⟨L, hL⟩ : ∃ L, cs[j]? = some L := ⟨_, List.getElem?_eq_getElem hlt⟩
      obtain ⟨b, off, adl, capl, rfl, c0, hcl, hins, hnil⟩ := (HL.out.below hB) j L hL
      have ji : (j : Int) < cs.length := by omega
      have HC := hide (pcheck_any a adl capl L wr (HE.out.e.below hB) (HS.out j L hL) hins)
      have HI := hide hins
      have HLs := hide hL
      have HN := hide hnil
      clear hins hL hnil
      go_wp2_with fail
      refine HC.out.mono ?_
      rintro e w1 ⟨v1, rfl, hv1, hb1⟩
      have B1 := below_step hB hb1
      clear HC
      by_cases hf : (codeFault L).1 = 0
      · obtain rfl : v1 = .nilIface := by
          rcases hv1 with ⟨-, h⟩ | ⟨h, -⟩ | ⟨h, -⟩
          · exact h
          · exact absurd hf h
          · exact absurd hf h
        clear hv1
        obtain ⟨h2000, -⟩ := codeFault_right hf
        have HJ' : Hid (∀ (t : Nat) L, t < j + 1 → cs[t]? = some L → (codeFault L).1 = 0) := fun t M ht hM => by
          by_cases e : t = j
          · subst e; rw [HLs.out] at hM; cases hM; exact hf
          · exact HJ.out t M (by omega) hM
        have HP1 : Hid (∃ pl, PrRel cs w.heap.size u4 j w1 pl) := by obtain ⟨pl, h⟩ := HP.out; exact ⟨pl, h.below hb1⟩
        have HCl := hide (cloneI_any (cap := capl) (insAt_below HI.out hb1) h2000 HN.out)
        clear hf HJ HP
        obtain ⟨adp, capp, rfl⟩ : ∃ adp capp, u4 = .slice adp j capp := by
          obtain ⟨pl, h⟩ := HP1.out
          obtain ⟨g, c, e, _⟩ := ownsRow_shape h.own
          exact ⟨g, c, e⟩
        go_wp2_with fail
        refine HCl.out.mono ?_
        rintro e w2 ⟨adc, capc, rfl, hc1, hc2, hc3, hc4, hb2⟩
        have B2 := below_step B1 hb2
        have hlb := labels_any adl capl L w2 (by omega) (HS.out j L HLs.out) (insAt_below (insAt_below HI.out hb1) hb2)
        have HLa := hide hlb
        clear hlb HCl HI HN
        go_wp2_with fail
        refine HLa.out.mono ?_
        rintro e w3 ⟨rfl, hmap, hb3⟩
        have B3 := below_step B2 hb3
        have s1 := hb1.size
        have s2 := hb2.size
        have s3 := hb3.size
        have sm := hmap.lt
        obtain ⟨pl, hP⟩ := HP1.out
        have hP3 := (hP.below hb2).below hb3
        have hlt1 : ∀ k, (Value.slice adp j capp).ownBlock = some k → k < w1.heap.size := fun k hk => (hP.own.lt k hk).2
        have HX : Hid (PrOk L ⟨adc, L.length, capc, w2.heap.size⟩ w3) := hide ⟨rfl, hc1, insAt_below hc3 hb3, hmap⟩
        have HXn : Hid (∀ k, (PrX.mk adc L.length capc w2.heap.size).uses k → w1.heap.size ≤ k ∧ k < w3.heap.size) := hide fun k hk => by
          rcases hk with ⟨off', e⟩ | e
          · have := hc4 k off' e; omega
          · subst e; exact ⟨s2, sm⟩
        have HP3 := hide hP3
        have hv := hP3.own
        have HLT := hide hlt1
        obtain ⟨ri, hri, hrz, hrs, hrb⟩ := progInfo
        clear hP hP3 hlt1 hmap hc3 hc4 HLa hb1 hb2 hb3 B1 B2 HP1 hB
        generalize w2.heap.size = lb at *
        go_wp2_with (first
          | (at_builtin; refine wpList_append_own_at _ rfl _ _ 54 rfl w.heap.size 104 ri (.agg #[.slice none 0 0, .map none]) 2 32 Tryz.underlying54 hri hrz hrs hrb rfl (by decide) _ _ _ rfl (hv.alloc _) ⟨w3.heap.size, 0, none⟩ 1 1 [.slice adc L.length capc, .map (some lb)] rfl rfl ?c1 ?c2 ?c3 ?c4 ?c5 ?_))
        case c1 => exact World.news_of_block (cs := #[.slice adc L.length capc, .map (some lb)]) (t := 104) (fr := (0, 0)) (heap_alloc_new w3 _)
        case c2 => intro u hu; simp at hu; rcases hu with rfl | rfl <;> rfl
        case c3 => unfold maxLen; omega
        case c4 => omega
        case c5 => have := B3.size; simp; omega
        intro v' w6 hown6 hgrow6 hnil6 hloc6
        have hg : ∀ b, b < w3.heap.size → (Value.slice adp j capp).ownBlock ≠ some b → w6.heap[b]? = w3.heap[b]? := fun b hb hne => by
          rw [hgrow6.block b (by simp; omega) (Ne.symm hne)]
          exact Below.heap_alloc _ _ _ hb
        have HR := hide (HP3.out.snoc HLs.out HX.out (fun k hk => (HXn.out k hk).2) (fun k hk e => by have h1 := HXn.out k hk; have h2 := HLT.out k e; omega) hown6 (Nat.le_trans (by simp) hgrow6.size) hg (fun k e => by
          rcases hloc6 with e2 | e2
          · left; rw [← e2]; exact e
          · right; rw [e2] at e; simp at e; omega))
        have HB6 : Hid (Below w.heap.size w w6) := hide ((B3.alloc B3.size _).grown hgrow6 (by have := B3.size; simp; omega) (fun k hk => (hv.lt k hk).1))
        clear hown6 hgrow6 hnil6 hloc6 hg HP3 HX HXn HLT hv hri hrz hrs hrb B3
        go_wp2
        go_roundw
        case rel => exact ⟨j + 1, by omega, by go_num, HB6.out, HJ', _, HR.out⟩
        case measure => simp [intOf]; omega
      · have hcf := codesFrom_hit cs 0 j L HLs.out hf (fun t M ht hM => HJ.out t M ht hM)
        rw [Nat.zero_add] at hcf
        have HB2 := hide (bare_any (HE.out.below B1.block) hf hv1)
        have HQ : Hid (∀ e w', Below w.heap.size w w' → (∃ v, e = .returned (.tuple #[.slice none 0 0, v]) ∧ errIs a ((codeFault L).1, (j : Int)) v w' w.heap.size) → PrPost a cs w e w') := hide fun e w' h1 ⟨v, h2, h3⟩ => ⟨h1, Or.inr ⟨by rw [hcf]; exact hf, v, h2, by rw [hcf]; exact h3⟩⟩
        have HF := hide hf
        rcases hv1 with ⟨h, -⟩ | ⟨-, -, rfl⟩ | ⟨-, j2, N, -, -, rfl, -, -⟩
        · exact absurd h hf
        · obtain ⟨k, hk⟩ : ∃ k, (codeFault L).1 = k + 1 := ⟨(codeFault L).1 - 1, by omega⟩
          rw [hk] at HB2 HQ ⊢
          clear hcf hf HJ HP HI HLs HN HF hk
          rw [show xval a (k + 1) = xerr (a k) from rfl] at HB2 ⊢
          go_wp2_with fail
          refine HB2.out.mono ?_
          rintro e w2 ⟨rfl, hb2⟩
          have B2 := below_step B1 hb2
          go_wp2
          refine bodyPost_ret (v := .tuple #[.slice none 0 0, .iface 96 (.pointer (some ⟨w2.heap.size, 0, none⟩))]) (by simp only [results, Tryz.results16]; go_simp) rfl ?_
          exact HQ.out _ _ (B2.alloc B2.size _) ⟨_, rfl, .inr (.inr ⟨Nat.succ_ne_zero _, j, w2.heap.size, rfl, B2.size, rfl, by simp, by simp; rfl⟩)⟩
        · obtain ⟨k, hk⟩ : ∃ k, (codeFault L).1 = k + 1 := ⟨(codeFault L).1 - 1, by omega⟩
          rw [hk] at HB2 HQ
          clear hcf hf HJ HP HI HLs HN HF hk
          rw [show xval a (k + 1) = xerr (a k) from rfl] at HB2
          go_wp2_with fail
          refine HB2.out.mono ?_
          rintro e w2 ⟨rfl, hb2⟩
          have B2 := below_step B1 hb2
          go_wp2
          refine bodyPost_ret (v := .tuple #[.slice none 0 0, .iface 96 (.pointer (some ⟨w2.heap.size, 0, none⟩))]) (by simp only [results, Tryz.results16]; go_simp) rfl ?_
          exact HQ.out _ _ (B2.alloc B2.size _) ⟨_, rfl, .inr (.inr ⟨Nat.succ_ne_zero _, j, w2.heap.size, rfl, B2.size, rfl, by simp, by simp; rfl⟩)⟩
    · obtain rfl : j = cs.length := by omega
      have HQ : Hid (∀ v, (∃ pl, PrRel cs w.heap.size v cs.length wr pl) → PrPost a cs w (.returned (.tuple #[v, .nilIface])) wr) := hide fun v ⟨pl, h⟩ => ⟨hB, Or.inl ⟨by rw [codesFrom_none cs 0 (fun t L ht => HJ.out t L (List.getElem?_eq_some_iff.1 ht).1 ht)], v, pl, rfl, h⟩⟩
      clear HJ
      go_wp2
      refine bodyPost_ret (v := .tuple #[u4, .nilIface]) (by simp only [results, Tryz.results16]; go_simp) rfl ?_
      exact HQ.out _ HP.out
end Go.Proofs.YtnnlkolhahjokaaGreatDoor
