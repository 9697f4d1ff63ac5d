/- Package code's Read by a contract. -/
import Derived.Test.YtcajklfngeafdaaDoorProgK
namespace Go.Proofs.YtcajklfngeafdaaDoor
open Go.RowKit Go.Extern.Stop Go.Stop Go.Extern Go.Maps Go.WideMaps Go.Shelf
attribute [local go_sem] Oper.semAt_some

/-- A line without its end. -/
def trimB (x : ByteArray) : ByteArray := ⟨(Lib.trimSuffix (bl x) [10]).toArray⟩
theorem trim_snoc (p : List UInt8) : Lib.trimSuffix (p ++ [10]) [10] = p := by
  unfold Lib.trimSuffix Lib.hasSuffix
  rw [if_pos (by rw [List.isSuffixOf_iff_suffix]; exact ⟨p, rfl⟩)]
  simp
theorem trim_free {p : List UInt8} (h : (10 : UInt8) ∉ p) : Lib.trimSuffix p [10] = p := by
  unfold Lib.trimSuffix Lib.hasSuffix
  rw [if_neg]
  intro e
  rw [List.isSuffixOf_iff_suffix] at e
  obtain ⟨q, hq⟩ := e
  exact h (by rw [← hq]; simp)

theorem linesB_bl : ∀ (n : Nat) (s : ByteArray), (linesB n s).map (fun x => bl (trimB x)) = linesL n (bl s)
  | 0, _ => rfl
  | n + 1, s => by
    unfold linesB linesL
    by_cases h0 : s.size = 0
    · rw [if_pos h0, if_pos (List.length_eq_zero_iff.1 (by rw [← size_bl]; exact h0))]; rfl
    · rw [if_neg h0, if_neg (show ¬ bl s = [] from fun e => h0 (by rw [size_bl, e]; rfl))]
      by_cases hm : Lib.indexByte (bl s) 10 = -1
      · rw [if_pos hm, if_pos hm]
        show [Lib.trimSuffix (bl s) [10]] = [bl s]
        rw [trim_free (not_mem_of_get (Lib.indexByte_none hm))]
      · rw [if_neg hm, if_neg hm]
        have hge := Lib.indexByte_ge (bl s) 10
        obtain ⟨i, hi⟩ : ∃ i : Nat, Lib.indexByte (bl s) 10 = i := ⟨(Lib.indexByte (bl s) 10).toNat, by omega⟩
        have hlt := (List.getElem?_eq_some_iff.1 (Lib.indexByte_some hi).1)
        obtain ⟨hl, hv⟩ := hlt
        rw [hi, show ((i : Nat) : Int).toNat = i by omega, List.map_cons, linesB_bl n]
        have e1 : bl (s.extract 0 (i + 1)) = (bl s).take i ++ [10] := by
          show (s.extract 0 (i + 1)).data.toList = _
          rw [Lib.extract_data, List.drop_zero, Nat.sub_zero, List.take_add_one, List.getElem?_eq_getElem hl, hv]
          rfl
        have e2 : bl (s.extract (i + 1) s.size) = (bl s).drop (i + 1) := by
          show (s.extract (i + 1) s.size).data.toList = _
          rw [Lib.extract_data]
          apply List.take_of_length_le
          rw [List.length_drop, ← size_bl]
          omega
        rw [e2]
        congr 1
        show Lib.trimSuffix (bl (s.extract 0 (i + 1))) [10] = _
        rw [e1, trim_snoc]
theorem bl_map_inj : ∀ {a b : List ByteArray}, a.map bl = b.map bl → a = b
  | [], [], _ => rfl
  | [], _ :: _, h => by cases h
  | _ :: _, [], h => by cases h
  | x :: a, y :: b, h => by
    obtain ⟨h1, h2⟩ := List.cons.inj h
    rw [bl_inj h1, bl_map_inj h2]
theorem lines_trim (s : ByteArray) : (linesB s.size s).map trimB = linesOf s := by
  apply bl_map_inj
  rw [List.map_map, linesOf_bl]
  show (linesB s.size s).map (fun x => bl (trimB x)) = _
  rw [linesB_bl]
  by_cases h : bl s = []
  · rw [if_pos h, h]
    cases s.size <;> simp [linesL]
  · rw [if_neg h]
    exact linesL_cut _ _ (by rw [size_bl]; exact Nat.le_refl _) h

theorem linesB_len : ∀ (n : Nat) (s : ByteArray), (linesB n s).length ≤ n
  | 0, _ => Nat.le_refl _
  | n + 1, s => by
    unfold linesB
    split
    · exact Nat.zero_le _
    · split
      · simp
      · have := linesB_len n (s.extract ((Lib.indexByte (bl s) 10).toNat + 1) s.size)
        rw [List.length_cons]
        omega

/-- Instructions as cells. -/
def insCells (l : List Ins) : List Value := l.flatMap fun x => [.string x.op, .int .i64 x.a, .int .i64 x.b, .int .i64 x.c, .string x.to]
theorem insCells_snoc (l : List Ins) (x : Ins) : insCells (l ++ [x]) = insCells l ++ [.string x.op, .int .i64 x.a, .int .i64 x.b, .int .i64 x.c, .string x.to] := by simp [insCells]
theorem insCells_len (l : List Ins) : (insCells l).length = l.length * 5 := by
  induction l with
  | nil => rfl
  | cons x l ih =>
    have : insCells (x :: l) = [.string x.op, .int .i64 x.a, .int .i64 x.b, .int .i64 x.c, .string x.to] ++ insCells l := rfl
    rw [this, List.length_append, ih]
    simp; omega
theorem insCells_at : ∀ (l : List Ins) (i j : Nat) (x : Ins), l[i]? = some x → j < 5 → (insCells l)[i * 5 + j]? = ([.string x.op, .int .i64 x.a, .int .i64 x.b, .int .i64 x.c, .string x.to] : List Value)[j]?
  | y :: l, 0, j, x, h, hj => by
    cases h
    have : insCells (y :: l) = [.string y.op, .int .i64 y.a, .int .i64 y.b, .int .i64 y.c, .string y.to] ++ insCells l := rfl
    rw [this, Nat.zero_mul, Nat.zero_add, List.getElem?_append_left (by simpa using hj)]
  | y :: l, i + 1, j, x, h, hj => by
    have : insCells (y :: l) = [.string y.op, .int .i64 y.a, .int .i64 y.b, .int .i64 y.c, .string y.to] ++ insCells l := rfl
    rw [this, List.getElem?_append_right (by simp; omega)]
    have e : (i + 1) * 5 + j - ([.string y.op, .int .i64 y.a, .int .i64 y.b, .int .i64 y.c, .string y.to] : List Value).length = i * 5 + j := by simp; omega
    rw [e]
    exact insCells_at l i j x h hj
theorem insAt_of_row {w : World} {base g cap : Nat} {e : TypeId} {l : List Ins} (h : w.ownsRow base e 5 (.slice (some ⟨g, 0, none⟩) l.length cap) l.length (insCells l)) : insAt (some ⟨g, 0, none⟩) l w := fun i x hx => by
  have hi := (List.getElem?_eq_some_iff.1 hx).1
  have key : ∀ j, j < 5 → w.cell? ⟨g, i * 5 + j, none⟩ = ([.string x.op, .int .i64 x.a, .int .i64 x.b, .int .i64 x.c, .string x.to] : List Value)[j]? := fun j hj => by
    rw [h.cellAt (i * 5 + j) (by omega), insCells_at l i j x hx hj]
  refine ⟨g, 0, rfl, ?_, ?_, ?_, ?_, ?_⟩
  · rw [Nat.zero_add]; exact key 0 (by decide)
  · rw [Nat.zero_add]; exact key 1 (by decide)
  · rw [Nat.zero_add]; exact key 2 (by decide)
  · rw [Nat.zero_add]; exact key 3 (by decide)
  · rw [Nat.zero_add]; exact key 4 (by decide)

/-- What Read finds wrong; none: 0. -/
noncomputable def readFault (s : ByteArray) : Nat × Int := match (linesOf s).findIdx? (fun ln => (readLine ln).isNone) with
  | some i => (1, (i : Int))
  | none => codeFault ((linesOf s).filterMap readLine)
/-- What Read reads. -/
def readCode (s : ByteArray) : List Ins := (linesOf s).filterMap readLine

theorem readFault_bad {s : ByteArray} {pre : List ByteArray} {x : ByteArray} {lst : List Ins} (h : pre ++ [x] <+: linesB s.size s) (h1 : (pre.map trimB).map readLine = lst.map some) (h2 : readLine (trimB x) = none) : readFault s = (1, (lst.length : Int)) := by
  obtain ⟨r, hr⟩ := h
  have hL : linesOf s = pre.map trimB ++ trimB x :: r.map trimB := by rw [← lines_trim, ← hr]; simp
  have hlen : pre.length = lst.length := by have := congrArg List.length h1; simpa using this
  have hf : (linesOf s).findIdx? (fun ln => (readLine ln).isNone) = some lst.length := by
    rw [List.findIdx?_eq_some_iff_getElem]
    have hl : lst.length < (linesOf s).length := by rw [hL]; simp; omega
    refine ⟨hl, ?_, fun k hk => ?_⟩
    · have : (linesOf s)[lst.length]? = some (trimB x) := by
        rw [hL, List.getElem?_append_right (by simp; omega)]
        simp [hlen]
      rw [List.getElem?_eq_getElem hl] at this
      rw [Option.some.inj this, h2]; rfl
    · have hk' : k < pre.length := by omega
      have e1 : (linesOf s)[k]? = some (trimB pre[k]) := by
        rw [hL, List.getElem?_append_left (by simpa using hk'), List.getElem?_map, List.getElem?_eq_getElem hk']; rfl
      have hkl : k < (linesOf s).length := by omega
      rw [List.getElem?_eq_getElem hkl] at e1
      have e2 := congrArg (fun z => z[k]?) h1
      simp only [List.getElem?_map, List.getElem?_eq_getElem hk', List.getElem?_eq_getElem hk, Option.map_some, Option.some.injEq] at e2
      rw [Option.some.inj e1, e2]
      simp
  unfold readFault
  rw [hf]
theorem read_good {s : ByteArray} {lst : List Ins} (h : (linesOf s).map readLine = lst.map some) : readFault s = codeFault lst ∧ readCode s = lst := by
  have hc : (linesOf s).filterMap readLine = lst := by
    have : ∀ (L : List ByteArray) (l : List Ins), L.map readLine = l.map some → L.filterMap readLine = l := by
      intro L
      induction L with
      | nil => intro l h; cases l with
        | nil => rfl
        | cons _ _ => cases h
      | cons y L ih => intro l h; cases l with
        | nil => cases h
        | cons z l =>
          obtain ⟨h1, h2⟩ := List.cons.inj h
          rw [List.filterMap_cons, h1, ih l h2]
    exact this _ _ h
  have hf : (linesOf s).findIdx? (fun ln => (readLine ln).isNone) = none := by
    rw [List.findIdx?_eq_none_iff]
    intro x hx
    have : readLine x ∈ lst.map some := by rw [← h]; exact List.mem_map_of_mem hx
    obtain ⟨y, _, hy⟩ := List.mem_map.1 this
    rw [← hy]; rfl
  refine ⟨?_, hc⟩
  unfold readFault
  rw [hf]
  show codeFault _ = _
  rw [hc]

theorem keeps_below {W W' : World} (h : Below W.heap.size W W') : KeepsOthers W W' := ⟨h.size, fun k _ hk _ => (h.block k (Array.getElem?_eq_some_iff.1 hk).1).trans hk⟩

/-- Between two rounds of Read. -/
def rdI (w : World) (pre : List ByteArray) (W : World) : Prop :=
  Below w.heap.size w W ∧ w.heap.size + 4 ≤ W.heap.size ∧ (W.cell? ⟨w.heap.size, 0, none⟩ = some (.slice none 0 0) ∧ W.frozen? ⟨w.heap.size, 0, none⟩ = false) ∧ (W.cell? ⟨w.heap.size + 1, 0, none⟩ = some .nilIface ∧ W.frozen? ⟨w.heap.size + 1, 0, none⟩ = false) ∧
  ∃ v lst, (W.cell? ⟨w.heap.size + 1 + 1, 0, none⟩ = some v ∧ W.frozen? ⟨w.heap.size + 1 + 1, 0, none⟩ = false) ∧ (pre.map trimB).map readLine = lst.map some ∧ W.ownsRow (w.heap.size + 4) 32 5 v lst.length (insCells lst)
/-- Behind a round that has left. -/
def rdX (a : Nat → Addr) (s : ByteArray) (w : World) (_ : List ByteArray) (W : World) : Prop :=
  Below w.heap.size w W ∧ ∃ j N : Nat, readFault s = (1, (j : Int)) ∧ w.heap.size ≤ N ∧ W.cell? ⟨w.heap.size, 0, none⟩ = some (.slice none 0 0) ∧ W.cell? ⟨w.heap.size + 1, 0, none⟩ = some (.iface 39 (.pointer (some ⟨N, 0, none⟩))) ∧
    W.cell? ⟨N, 0, none⟩ = some (.int .i64 j) ∧ W.cell? ⟨N, 1, none⟩ = some (xerr (a 0))

theorem row_grown {w w' : World} {base : Nat} {e : TypeId} {size : Nat} {v : Value} {n : Nat} {xs : List Value} {row : Option Nat} (h : w.ownsRow base e size v n xs) (hg : w.grownBy w' row) (hr : ∀ r, row = some r → r < base ∨ ∃ o : Obj, w.heap[r]? = some o ∧ o.isCells = false) : w'.ownsRow base e size v n xs := by
  obtain ⟨h1, h2⟩ := h
  refine ⟨h1, ?_⟩
  rcases h2 with h2 | ⟨g, cap, cur, hv, hb, hh, r⟩
  · exact .inl h2
  · refine .inr ⟨g, cap, cur, hv, hb, ?_, r⟩
    rw [hg.block g (lt_of_block hh) (fun e => ?_)]
    · exact hh
    · rcases hr g e.symm with h | ⟨o, ho, hc⟩
      · omega
      · rw [hh] at ho; cases ho; cases hc

theorem rdI_own (w : World) (pre : List ByteArray) (A A' : World) (row : Option Nat) (h : rdI w pre A) (hg : A.grownBy A' row) (hr : ∀ r, row = some r → r = w.heap.size + 3 ∨ (w.heap.size + 4 ≤ r ∧ ∃ o : Obj, A.heap[r]? = some o ∧ o.isCells = false)) : rdI w pre A' := by
  obtain ⟨hB, hs, ⟨c0, f0⟩, ⟨c1, f1⟩, v, lst, ⟨c2, f2⟩, hl, hrow⟩ := h
  have hlo : ∀ k, k < w.heap.size + 3 → k < A.heap.size → A'.heap[k]? = A.heap[k]? := fun k hk hk2 => hg.block k hk2 (fun e => by rcases hr k e.symm with h | ⟨h, _⟩ <;> omega)
  have cell : ∀ {b o : Nat} {u : Value}, b < w.heap.size + 3 → A.cell? ⟨b, o, none⟩ = some u → A'.cell? ⟨b, o, none⟩ = some u := fun {b o u} hb h => by
    rw [World.cell?_of_block (w := A) (hlo _ hb (World.block_lt_of_cell? _ _ h))]; exact h
  have fz : ∀ {b o : Nat}, b < w.heap.size + 3 → A'.frozen? ⟨b, o, none⟩ = A.frozen? ⟨b, o, none⟩ := fun {b _} hb => World.frozen?_of_block (hlo b hb (by omega))
  refine ⟨hB.grown hg hB.size (fun k hk => by rcases hr k hk with h | ⟨h, _⟩ <;> omega), Nat.le_trans hs hg.size, ⟨cell (by omega) c0, by rw [fz (by omega)]; exact f0⟩, ⟨cell (by omega) c1, by rw [fz (by omega)]; exact f1⟩, v, lst, ⟨cell (by omega) c2, by rw [fz (by omega)]; exact f2⟩, hl, ?_⟩
  exact row_grown hrow hg (fun r e => by rcases hr r e with h | ⟨_, h⟩; · exact .inl (by omega)
                                         · exact .inr h)
theorem rdX_own (a : Nat → Addr) (s : ByteArray) (w : World) (pre : List ByteArray) (A : World) (l : Nat) (o' : Obj) (h : rdX a s w pre A) (hl : w.heap.size + 4 ≤ l) (ho : ∃ o : Obj, A.heap[l]? = some o ∧ o.isCells = false) : rdX a s w pre (A.putObj l o') := by
  obtain ⟨hB, j, N, hf, hN, c0, c1, n0, n1⟩ := h
  have hg := grownBy_putObj' A l o'
  have hr : ∀ r, some l = some r → ∃ o : Obj, A.heap[r]? = some o ∧ o.isCells = false := fun r e => by cases e; exact ho
  exact ⟨hB.grown hg hB.size (fun k hk => by cases hk; omega), j, N, hf, hN, cell_kept c0 hg hr, cell_kept c1 hg hr, cell_kept n0 hg hr, cell_kept n1 hg hr⟩
end Go.Proofs.YtcajklfngeafdaaDoor
