import Derived.Test.YtnnlkolhahjokaaGreatDoorB26
import Derived.ArgAppend
import Derived.Deep.Onto
import Derived.Maps.Own
import Derived.Maps.OwnOps
import Derived.Maps.OwnSet
import Derived.Maps.Views
import Derived.StringKeys
import Derived.Test.YtnnlkolhahjokaaGreatDoorB23

/- WkF -/
namespace Go.Proofs.YtnnlkolhahjokaaGreatDoor
open Go.RowKit Go.Extern.Stop Go.Stop Go.Extern Go.Maps Go.WideMaps Go.Sort

def QAt (w : World) (base : Nat) (v : Value) (l : List Value) : Prop := (v = .slice none 0 0 ∧ l = []) ∨
  ∃ g off cap, v = .slice (some ⟨g, off, none⟩) l.length cap ∧ base ≤ g ∧ g < w.heap.size ∧ l.length ≤ cap ∧ cap ≤ maxLen ∧ (∀ (j : Nat) u, l[j]? = some u → w.cell? ⟨g, off + j, none⟩ = some u) ∧ (∀ j, j < cap → (w.cell? ⟨g, off + j, none⟩).isSome = true ∧ w.frozen? ⟨g, off + j, none⟩ = false)
theorem QAt.nil (w : World) (base : Nat) : QAt w base (.slice none 0 0) [] := .inl ⟨rfl, rfl⟩
theorem QAt.lt {w : World} {base : Nat} {v : Value} {l : List Value} (h : QAt w base v l) {k : Nat} (hk : v.ownBlock = some k) : base ≤ k ∧ k < w.heap.size := by
  rcases h with ⟨rfl, -⟩ | ⟨g, off, cap, rfl, h1, h2, -⟩
  · cases hk
  · cases hk; exact ⟨h1, h2⟩
theorem QAt.turns {S : Nat → Nat → Prop} {w w' : World} {base : Nat} {v : Value} {l : List Value} (h : QAt w base v l) (t : Turns S w w') (hS : ∀ k o, v.ownBlock = some k → ¬ S k o) : QAt w' base v l := by
  rcases h with ⟨rfl, h1⟩ | ⟨g, off, cap, rfl, h1, h2, h3, h4, h5, h6⟩
  · exact .inl ⟨rfl, h1⟩
  · refine .inr ⟨g, off, cap, rfl, h1, Nat.lt_of_lt_of_le h2 t.size, h3, h4, fun j u hu => t.keep (h5 j u hu) (hS g _ rfl), fun j hj => ?_⟩
    obtain ⟨q1, q2⟩ := h6 j hj
    obtain ⟨x, hx⟩ := Option.isSome_iff_exists.1 q1
    exact ⟨by rw [t.keep hx (hS g _ rfl)]; rfl, by rw [t.frozen _ _ h2 (hS g _ rfl)]; exact q2⟩
theorem QAt.below {w w' : World} {base : Nat} {v : Value} {l : List Value} (h : QAt w base v l) (k : Below w.heap.size w w') : QAt w' base v l :=
  h.turns (S := fun _ _ => False) (Turns.of_below k) (fun _ _ _ h => h)
theorem QAt.of_row {w : World} {base : Nat} {e : TypeId} {v : Value} {l : List Value} (h : w.ownsRow base e 1 v l.length l) : QAt w base v l := by
  rcases h.2 with ⟨h1, h2⟩ | ⟨g, cap, cur, rfl, hg, hh, hn, hm, hs, hc⟩
  · exact .inl ⟨h1, List.length_eq_zero_iff.1 h2⟩
  · have hcell : ∀ j, w.cell? ⟨g, 0 + j, none⟩ = cur[j]? := fun j => by
      rw [Nat.zero_add]
      simp [World.cell?, hh]
    refine .inr ⟨g, 0, cap, rfl, hg, lt_of_block hh, hn, hm, fun j u hu => ?_, fun j hj => ⟨?_, ?_⟩⟩
    · rw [Nat.zero_add, h.cellAt j (by have := (List.getElem?_eq_some_iff.1 hu).1; omega)]; exact hu
    · rw [hcell, Array.getElem?_eq_getElem (by omega)]; rfl
    · rw [Nat.zero_add]
      simp [World.frozen?, hh]

theorem QAt.tail {w : World} {base g off cap : Nat} {l : List Value} {u : Value} (h : QAt w base (.slice (some ⟨g, off, none⟩) (u :: l).length cap) (u :: l)) : QAt w base (.slice (some (if cap = 1 then ⟨g, off, none⟩ else ⟨g, off + 1, none⟩)) l.length (cap - 1)) l := by
  rcases h with ⟨-, h1⟩ | ⟨g', off', cap', e, h1, h2, h3, h4, h5, h6⟩
  · cases h1
  · cases e
    rw [List.length_cons] at h3
    by_cases hc : cap = 1
    · rw [if_pos hc]
      have hl : l = [] := List.length_eq_zero_iff.1 (by omega)
      subst hl
      exact .inr ⟨g, off, cap - 1, rfl, h1, h2, by simp, by omega, fun j u hu => by simp at hu, fun j hj => absurd hj (by omega)⟩
    · rw [if_neg hc]
      refine .inr ⟨g, off + 1, cap - 1, rfl, h1, h2, by omega, by omega, fun j x hx => ?_, fun j hj => ?_⟩
      · rw [show off + 1 + j = off + (j + 1) by omega]
        exact h5 (j + 1) x (by simpa using hx)
      · rw [show off + 1 + j = off + (j + 1) by omega]
        exact h6 (j + 1) (by omega)

theorem wkPtr : ∃ i, (Tryz.prog).info? 37 = some i ∧ i.zero = some (.pointer none) ∧ i.size = 1 ∧ i.bytes = 8 := info_parts (by kernel_rfl)

theorem wpList_append_q {ops : Array Oper} {rest : List Oper} {o : Oper} {a : Act} (w : World) {Q : Exit → Act → World → Prop} (hgd : o.guard = none) (s x : Operand)
    (ho : o.op = .call { callee := .builtin .append, args := #[s, x], argTypes := #[109, 109] }) (base : Nat) (l : List Value) (u v : Value) (ad : Addr) (c : Nat)
    (hs : a.eval s = v) (hq : QAt w base v l) (hx : a.eval x = .slice (some ad) 1 c) (hu : w.cell? (ad.add 0) = some u) (h1 : u.oneCell' = true) (h3 : l.length ≤ 1000000) (hb : base ≤ w.heap.size)
    (h : ∀ v' w', QAt w' base v' (l ++ [u]) → Turns (fun k _ => v.ownBlock = some k) w w' → (v'.ownBlock = v.ownBlock ∨ ∃ k, v'.ownBlock = some k ∧ w.heap.size ≤ k) → wpList Tryz.prog ops Q rest (a.put o.dst v') w') : wpList Tryz.prog ops Q (o :: rest) a w := by
  obtain ⟨ri, hri, hrz, hrs, hrb⟩ := wkPtr
  have hnews : ∀ j y, ([u] : List Value)[j]? = some y → w.cell? (ad.add j) = some y := fun j y hj => by
    cases j with
    | zero => cases hj; exact hu
    | succ j => simp at hj
  have h1' : ∀ y ∈ ([u] : List Value), y.oneCell' = true := fun y hy => by
    obtain rfl : y = u := by simpa using hy
    exact h1
  rcases hq with ⟨rfl, rfl⟩ | ⟨g, off, cap, rfl, q1, q2, q3, q4, q5, q6⟩
  · refine wpList_append_own_at w hgd s x 109 ho base 37 ri (.pointer none) 1 8 Tryz.underlying109 hri hrz hrs hrb rfl (by decide) (.slice none 0 0) 0 [] hs (World.ownsRow_nil _ _ _ _) ad 1 c [u] hx rfl hnews h1' (by unfold maxLen; omega) (by omega) hb (fun v' w' h2 hg _ hloc => ?_)
    refine h v' w' (QAt.of_row (by simpa using h2)) (Turns.of_below ((Below.refl _ w).grown hg (Nat.le_refl _) (fun k hk => by cases hk))) ?_
    rcases hloc with e | e
    · exact .inl e
    · exact .inr ⟨_, e, Nat.le_refl _⟩
  · refine wpList_plain hgd fun K hK => ?_
    unfold Oper.wp execOp
    have hmul : off + l.length * ri.size = off + l.length := by rw [hrs, Nat.mul_one]
    by_cases hr : l.length + 1 ≤ cap
    · obtain ⟨i1, i2⟩ := q6 l.length (by omega)
      obtain ⟨old, hold⟩ := Option.isSome_iff_exists.1 i1
      have hrun := run_append_room_cells (P := Tryz.prog) (w := w) 109 o.type 37 ri Tryz.underlying109 hri g off l.length cap ad 1 c [u] (by rw [hrs]; rfl) hnews h1' hr (fun j hj => by
        obtain rfl : j = 0 := by simpa using hj
        rw [hmul]; exact i1) (fun j hj => by
        obtain rfl : j = 0 := by simpa using hj
        rw [hmul]; exact i2)
      rw [hmul] at hrun
      have hset : w.setCells g (off + l.length) [u] = w.setCell ⟨g, off + l.length, none⟩ u := rfl
      rw [hset] at hrun
      simp only [ho, resolve, invoke, builtin, Sem.run_bind, Sem.run_pure, Result.andThen_ok, List.map_toArray, List.map_cons, List.map_nil, hs, hx, hrun]
      refine hK _ _ (h _ _ ?_ ((Turns.refl _ _).setCell _ rfl) (.inl rfl))
      refine .inr ⟨g, off, cap, by rw [List.length_append]; rfl, q1, by simp [World.setCell]; exact q2, by rw [List.length_append]; exact hr, q4, fun j y hj => ?_, fun j hj => ?_⟩
      · by_cases hlt : j < l.length
        · rw [List.getElem?_append_left hlt] at hj
          exact cell_ne (q5 j y hj) (.inr (by omega))
        · have hj' := (List.getElem?_eq_some_iff.1 hj).1
          rw [List.length_append] at hj'
          obtain rfl : j = l.length := by simp at hj'; omega
          rw [List.getElem?_append_right (Nat.le_refl _), Nat.sub_self] at hj
          cases hj
          exact World.cell?_setCell_same _ _ _ hold
      · obtain ⟨k1, k2⟩ := q6 j hj
        refine ⟨?_, by rw [World.frozen?_setCell]; exact k2⟩
        by_cases e : j = l.length
        · subst e
          rw [World.cell?_setCell_same _ _ _ hold]; rfl
        · obtain ⟨y, hy⟩ := Option.isSome_iff_exists.1 k1
          rw [cell_ne hy (.inr (by omega))]; rfl
    · obtain ⟨v', w', hrun, hown, hg⟩ := run_append_arg_grows (P := Tryz.prog) (w := w) 109 o.type 37 ri (.pointer none) 1 8 Tryz.underlying109 hri hrz hrs hrb rfl (by decide) ⟨g, off, none⟩ l.length cap l (by omega) (fun j y hj => by rw [Addr.add_lit]; exact q5 j y hj) ad 1 c [u] rfl hnews (by omega) (by unfold maxLen; omega) (by omega)
      simp only [ho, resolve, invoke, builtin, Sem.run_bind, Sem.run_pure, Result.andThen_ok, List.map_toArray, List.map_cons, List.map_nil, hs, hx, hrun]
      have hB : Below w.heap.size w w' := (Below.refl _ w).grown hg (Nat.le_refl _) (fun k hk => by cases hk)
      refine hK _ _ (h _ _ ?_ (Turns.of_below hB) ?_)
      · have := QAt.of_row (l := l ++ [u]) (by simpa using hown)
        rcases this with ⟨e1, e2⟩ | ⟨g', off', cap', e1, e2, r⟩
        · exact .inl ⟨e1, e2⟩
        · exact .inr ⟨g', off', cap', e1, Nat.le_trans hb e2, r⟩
      · rcases hown.2 with ⟨-, h0⟩ | ⟨g', cap', cur, e1, e2, -⟩
        · omega
        · exact .inr ⟨g', by rw [e1]; rfl, e2⟩
end Go.Proofs.YtnnlkolhahjokaaGreatDoor

/- WkG -/
namespace Go.Proofs.YtnnlkolhahjokaaGreatDoor
open Go.RowKit Go.Extern.Stop Go.Stop Go.Extern Go.Maps Go.WideMaps Go.Sort

def stepV (x : ByteArray × Int) : Value := .agg #[.string x.1, .int .i64 x.2]
def stepD (x : ByteArray × Int) : DataW Unit := .agg [.lit (.string x.1.data.toList), .lit (.int .i64 x.2)]
def stepElem : Value → Option (DataW Unit × List MemPlace)
  | .agg cs => match cs.toList with
    | [.string s, .int .i64 n] => some (stepD (s, n), [])
    | _ => none
  | _ => none
theorem stepElem_mk (x : ByteArray × Int) : stepElem (stepV x) = some (stepD x, []) := rfl
theorem stepD_inj {x y : ByteArray × Int} (h : stepD x = stepD y) : x = y := by
  obtain ⟨a, b⟩ := x
  obtain ⟨c, d⟩ := y
  unfold stepD at h
  simp only [DataW.agg.injEq, List.cons.injEq, DataW.lit.injEq, Lit.string.injEq, Lit.int.injEq, true_and, and_true] at h
  obtain ⟨h1, h2⟩ := h
  rw [bl_inj (show bl a = bl c from h1), h2]
theorem stepElem_inv {v : Value} {z : DataW Unit × List MemPlace} (h : stepElem v = some z) : ∃ x, v = stepV x ∧ z = (stepD x, []) := by
  unfold stepElem at h
  split at h
  · rename_i cs
    split at h
    · rename_i s n e
      cases h
      exact ⟨(s, n), by unfold stepV; rw [← Array.toList_inj.1 (show cs.toList = #[Value.string s, .int .i64 n].toList from e)], rfl⟩
    · cases h
  · cases h

def stD (E : List (ByteArray × ByteArray × Int)) : DataW Unit := E.foldl (fun D x => D.put (.string (bl x.1)) (stepD x.2)) (.map [])
theorem stD_snoc (E : List (ByteArray × ByteArray × Int)) (x : ByteArray × ByteArray × Int) : stD (E ++ [x]) = (stD E).put (.string (bl x.1)) (stepD x.2) := by
  unfold stD
  rw [List.foldl_append]; rfl
theorem snocInd {α : Type} {p : List α → Prop} (h0 : p []) (h1 : ∀ l x, p l → p (l ++ [x])) (l : List α) : p l := by
  rw [← List.reverse_reverse l]
  induction l.reverse with
  | nil => exact h0
  | cons x r ih => rw [List.reverse_cons]; exact h1 _ _ ih
theorem stD_tidy : ∀ E, Tidy (stD E) := snocInd tidy_empty fun E x ih => by
  rw [stD_snoc]
  exact ih.put (by trivial) _
def keyIn (E : List (ByteArray × ByteArray × Int)) (k : ByteArray) : Bool := E.any fun x => x.1.toList == k.toList
theorem keyIn_snoc (E : List (ByteArray × ByteArray × Int)) (x : ByteArray × ByteArray × Int) (k : ByteArray) : keyIn (E ++ [x]) k = (keyIn E k || (x.1.toList == k.toList)) := by
  unfold keyIn
  rw [List.any_append]
  simp
theorem stD_has (k : ByteArray) : ∀ E, Maps.has (stD E) (.string (bl k)) = keyIn E k := snocInd rfl fun E x ih => by
  rw [stD_snoc, keyIn_snoc, ← ih]
  by_cases e : x.1 = k
  · subst e
    rw [has_put_same (stD_tidy E).isMap (by trivial)]
    simp
  · rw [has_put_other (fun e' => e (bl_inj (by injection e' with e'; exact e'.symm)))]
    have : (x.1.toList == k.toList) = false := by
      rw [beq_eq_false_iff_ne, toList_bl, toList_bl]
      exact fun e' => e (bl_inj e')
    rw [this, Bool.or_false]
theorem keyIn_iff {E : List (ByteArray × ByteArray × Int)} {k : ByteArray} : keyIn E k = true ↔ ∃ x ∈ E, x.1 = k := by
  unfold keyIn
  rw [List.any_eq_true]
  refine exists_congr fun x => and_congr_right fun _ => ?_
  rw [beq_iff_eq, toList_bl, toList_bl]
  exact ⟨fun e => bl_inj e, fun e => by rw [e]⟩
def Once (E : List (ByteArray × ByteArray × Int)) : Prop := E.Pairwise fun x y => x.1 ≠ y.1
theorem Once.snoc {E : List (ByteArray × ByteArray × Int)} (h : Once E) {x : ByteArray × ByteArray × Int} (hx : keyIn E x.1 = false) : Once (E ++ [x]) := by
  refine List.pairwise_append.2 ⟨h, List.pairwise_singleton _ _, fun y hy z hz e => ?_⟩
  obtain rfl : z = x := by simpa using hz
  have : keyIn E z.1 = true := keyIn_iff.2 ⟨y, hy, e⟩
  rw [hx] at this; cases this
theorem Once.left {E F : List (ByteArray × ByteArray × Int)} (h : Once (E ++ F)) : Once E := (List.pairwise_append.1 h).1
theorem Once.last {E : List (ByteArray × ByteArray × Int)} {x : ByteArray × ByteArray × Int} (h : Once (E ++ [x])) : keyIn E x.1 = false := by
  cases hk : keyIn E x.1 with
  | false => rfl
  | true =>
    obtain ⟨y, hy, e⟩ := keyIn_iff.1 hk
    exact absurd e ((List.pairwise_append.1 h).2.2 y hy x (by simp))
theorem stD_size : ∀ E, Once E → Maps.size (stD E) = E.length := snocInd (fun _ => rfl) fun E x ih h => by
  rw [stD_snoc, size_put (stD_tidy E), stD_has, h.last, ih h.left]
  simp
theorem stD_at (d : DataW Unit) : ∀ E, Once E → ∀ x ∈ E, (stD E).atKey (.string (bl x.1)) d = stepD x.2 := snocInd (fun _ x hx => by cases hx) fun E y ih h x hx => by
  rw [stD_snoc]
  rcases List.mem_append.1 hx with hx | hx
  · have hne : x.1 ≠ y.1 := (List.pairwise_append.1 h).2.2 x hx y (by simp)
    rw [atKey_put_other (fun e' => hne (bl_inj (by injection e')))]
    exact ih h.left x hx
  · obtain rfl : x = y := by simpa using hx
    exact atKey_put_same (stD_tidy E).isMap (by trivial) _ _

theorem stepLaw : Keyed Tryz.prog 9 := string_keyed Tryz.underlying9
theorem stepZero (w : World) : (zeroValue 118).run Tryz.prog w = .ok (stepV (ByteArray.empty, 0)) w := by kernel_rfl

def FoundAt (w : World) (b : Nat) (E : List (ByteArray × ByteArray × Int)) : Prop := w.ownsMap Tryz.prog 9 stepElem b E.length (stD E) ∧ Once E
theorem FoundAt.size {w : World} {b : Nat} {E : List (ByteArray × ByteArray × Int)} (h : FoundAt w b E) : Maps.size (stD E) = E.length := stD_size E h.2
theorem FoundAt.look {w : World} {b : Nat} {E : List (ByteArray × ByteArray × Int)} (h : FoundAt w b E) (k : ByteArray) (hk : k.size ≤ maxLen) : ∃ x, (Instr.lookup 108 (.map (some b)) (.string k) true).run Tryz.prog w = .ok (.tuple #[stepV x, .bool (keyIn E k)]) w := by
  obtain ⟨v, ps, hrun, hv⟩ := h.1.look_ok (t := 108) stepLaw Tryz.underlying108 (stepZero w) (stepElem_mk _) (keyOf_string_mk Tryz.underlying9 hk)
  obtain ⟨x, rfl, -⟩ := stepElem_inv hv
  rw [stD_has] at hrun
  exact ⟨x, hrun⟩
theorem FoundAt.at {w : World} {b : Nat} {E : List (ByteArray × ByteArray × Int)} (h : FoundAt w b E) {x : ByteArray × ByteArray × Int} (hx : x ∈ E) (hk : x.1.size ≤ maxLen) : (Instr.lookup 108 (.map (some b)) (.string x.1) false).run Tryz.prog w = .ok (stepV x.2) w := by
  obtain ⟨v, ps, hrun, hv⟩ := h.1.lookup (t := 108) stepLaw Tryz.underlying108 (stepZero w) (stepElem_mk _) (keyOf_string_mk Tryz.underlying9 hk)
  obtain ⟨y, rfl, hy⟩ := stepElem_inv hv
  rw [stD_at _ E h.2 x hx] at hy
  rw [stepD_inj (congrArg Prod.fst hy)]
  exact hrun
theorem FoundAt.store {w : World} {b : Nat} {E : List (ByteArray × ByteArray × Int)} (h : FoundAt w b E) (k : ByteArray) (hk : k.size ≤ maxLen) (x : ByteArray × Int) (hn : E.length < maxLen) (hnew : keyIn E k = false) :
    ∃ w', (Instr.mapUpdate 108 (.map (some b)) (.string k) (stepV x)).run Tryz.prog w = .ok () w' ∧ FoundAt w' b (E ++ [(k, x)]) ∧ w.grownBy w' (some b) := by
  obtain ⟨w', h1, h2, h3⟩ := h.1.update (t := 108) stepLaw Tryz.underlying108 hn (keyOf_string_mk Tryz.underlying9 hk) (stepElem_mk x)
  refine ⟨w', h1, ⟨?_, h.2.snoc hnew⟩, h3⟩
  rw [stD_snoc, List.length_append]
  exact h2
theorem FoundAt.len {w : World} {b : Nat} {E : List (ByteArray × ByteArray × Int)} (h : FoundAt w b E) (ty : TypeId) : (Builtin.len_ #[108] ty #[.map (some b)]).run Tryz.prog w = .ok (.int .i64 E.length) w := by
  rw [h.1.len Tryz.underlying108 ty, h.size]
theorem FoundAt.kept {w w' : World} {b : Nat} {E : List (ByteArray × ByteArray × Int)} (h : FoundAt w b E) (e : w'.heap[b]? = w.heap[b]?) : FoundAt w' b E := by
  obtain ⟨⟨es, clock, hb, r⟩, h2⟩ := h
  exact ⟨⟨es, clock, e.trans hb, r⟩, h2⟩
end Go.Proofs.YtnnlkolhahjokaaGreatDoor

/- StA -/
namespace Go.Proofs.YtnnlkolhahjokaaGreatDoor
open Go.RowKit

structure Sta where
  cells : Int
  init : List (List Int)
  regs : List (List Int)

def wordOk (x : Int) : Bool := decide (0 ≤ x ∧ x < 4294967296)
def rowOk (longest : Nat) (row : List Int) : Bool := decide (row.length ≤ longest) && row.all wordOk
def rowsOk (longest : Nat) (R : List (List Int)) : Bool := R.all (rowOk longest)
noncomputable def codesFrom : Nat → List (List Ins) → Nat × Int
  | _, [] => (0, -1)
  | i, L :: cs => if (codeFault L).1 = 0 then codesFrom (i + 1) cs else ((codeFault L).1, i)
def Sta.fits (s : Sta) (n : Nat) : Bool := (decide ((s.init.length : Int) ≤ s.cells) && rowsOk 4 s.init) && (decide (s.regs.length ≤ n) && rowsOk 8 s.regs)
open Classical in
noncomputable def Sta.fault (s : Sta) (cs : List (List Ins)) : Nat × Int :=
  if 1 ≤ s.cells ∧ s.cells ≤ 64 ∧ 1 ≤ cs.length ∧ cs.length ≤ 6 ∧ s.fits cs.length = true then codesFrom 0 cs else (2, -1)

theorem codesFrom_none : ∀ (cs : List (List Ins)) (i : Nat), (∀ (t : Nat) L, cs[t]? = some L → (codeFault L).1 = 0) → codesFrom i cs = (0, -1)
  | [], _, _ => rfl
  | L :: cs, i, h => by
    unfold codesFrom
    rw [if_pos (h 0 L rfl)]
    exact codesFrom_none cs (i + 1) (fun t L' ht => h (t + 1) L' (by simpa using ht))
theorem codesFrom_hit : ∀ (cs : List (List Ins)) (i j : Nat) (L : List Ins), cs[j]? = some L → (codeFault L).1 ≠ 0 → (∀ (t : Nat) L', t < j → cs[t]? = some L' → (codeFault L').1 = 0) → codesFrom i cs = ((codeFault L).1, ((i + j : Nat) : Int))
  | [], _, _, _, h, _, _ => by simp at h
  | M :: cs, i, j, L, hL, h1, h2 => by
    unfold codesFrom
    cases j with
    | zero => simp at hL; subst hL; rw [if_neg h1]; rfl
    | succ j =>
      rw [if_pos (h2 0 M (by omega) rfl), codesFrom_hit cs (i + 1) j L (by simpa using hL) h1 (fun t L' ht hl => h2 (t + 1) L' (by omega) (by simpa using hl))]
      rw [show i + 1 + j = i + (j + 1) by omega]

theorem faultFrom_zero (l : List Ins) : ∀ (r : List Ins) (j : Nat), (faultFrom l j r).1 = 0 → ∀ (k : Nat) x, r[k]? = some x → insFault l (j + k) x = 0
  | [], _, _, k, x, hx => by simp at hx
  | y :: r, j, h, k, x, hx => by
    unfold faultFrom at h
    split at h
    · rename_i h0
      cases k with
      | zero => simp at hx; subst hx; exact h0
      | succ k => rw [show j + (k + 1) = j + 1 + k by omega]; exact faultFrom_zero l r (j + 1) h k x (by simpa using hx)
    · rename_i h0; exact absurd h h0
theorem insOk_of {L : List Ins} {i : Nat} {x : Ins} (h : insFault L i x = 0) : InsOk L x := by
  unfold insFault at h
  split at h
  · rename_i h0; exact absurd h h0
  · rename_i h0
    split at h
    · cases h
    · split at h
      · cases h
      · rename_i h2
        refine ⟨by simpa using h0, fun ht => ?_⟩
        rcases Int.lt_or_le (labelAt L x.to) 0 with h3 | h3
        · exact absurd ⟨ht, h3⟩ h2
        · exact h3
theorem codeFault_right {L : List Ins} (h : (codeFault L).1 = 0) : L.length ≤ 2000 ∧ ∀ (i : Nat) x, L[i]? = some x → InsOk L x := by
  unfold codeFault at h
  split at h
  · cases h
  · rename_i hl
    exact ⟨by omega, fun i x hx => insOk_of (by simpa using faultFrom_zero L L 0 h i x hx)⟩
theorem codesFrom_zero : ∀ (cs : List (List Ins)) (i : Nat), (codesFrom i cs).1 = 0 → ∀ (t : Nat) L, cs[t]? = some L → (codeFault L).1 = 0
  | [], _, _, t, L, h => by simp at h
  | M :: cs, i, h, t, L, ht => by
    unfold codesFrom at h
    split at h
    · rename_i h0
      cases t with
      | zero => simp at ht; subst ht; exact h0
      | succ t => exact codesFrom_zero cs (i + 1) h t L (by simpa using ht)
    · rename_i h0; exact absurd h h0
theorem right_of {cs : List (List Ins)} (h : ∀ (t : Nat) L, cs[t]? = some L → (codeFault L).1 = 0) (h1 : 1 ≤ cs.length) (h6 : cs.length ≤ 6) (hs : ∀ (t : Nat) L, cs[t]? = some L → ∀ (i : Nat) x, L[i]? = some x → x.to.size ≤ maxLen) : Right cs where
  right t L ht := by
    obtain ⟨h2, h3⟩ := codeFault_right (h t L ht)
    exact ⟨h2, fun i x hx => ⟨h3 i x hx, hs t L ht i x hx⟩⟩
  few := h6
  some' := h1

def rowAt (R : List (List Int)) (t r : Nat) : Int := (R.getD t []).getD r 0
def Ar.filled (s : Ar) (R : List (List Int)) : Ar where
  size := s.size
  given c := if c < R.length then 1 else s.given c
  there c := if c < R.length then true else s.there c
  words c k := if c < R.length ∧ k < 4 then rowAt R c k else s.words c k
def Sta.mach (s : Sta) (n : Nat) : Mk where
  mem := { Rm.fresh s.cells.toNat n with ar := (Rm.fresh s.cells.toNat n).ar.filled s.init }
  regs t r := rowAt s.regs t r
  pc _ := 0
  marks := []
  faults := 0
end Go.Proofs.YtnnlkolhahjokaaGreatDoor
