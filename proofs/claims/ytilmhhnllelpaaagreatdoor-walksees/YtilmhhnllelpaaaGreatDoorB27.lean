import Derived.Test.YtilmhhnllelpaaaGreatDoorB26
import Derived.ArgAppend
import Derived.Deep.Onto
import Derived.Maps.Own
import Derived.Maps.OwnOps
import Derived.Maps.OwnSet
import Derived.Maps.Views
import Derived.StringKeys

/- WkF -/
namespace Go.Proofs.YtilmhhnllelpaaaGreatDoor
open Go.RowKit Go.Extern.Stop Go.Stop Go.Extern Go.Maps Go.WideMaps Go.Sort

def QAt (w : World) (base : Nat) (v : Value) (l : List Value) : Prop := (v = .slice none 0 0 ∧ l = []) ∨
  ∃ g off cap, v = .slice (some ⟨g, off, none⟩) l.length cap ∧ base ≤ g ∧ g < w.heap.size ∧ l.length ≤ cap ∧ cap ≤ maxLen ∧ (∀ (j : Nat) u, l[j]? = some u → w.cell? ⟨g, off + j, none⟩ = some u) ∧ (∀ j, j < cap → (w.cell? ⟨g, off + j, none⟩).isSome = true ∧ w.frozen? ⟨g, off + j, none⟩ = false)
theorem QAt.nil (w : World) (base : Nat) : QAt w base (.slice none 0 0) [] := .inl ⟨rfl, rfl⟩
theorem QAt.lt {w : World} {base : Nat} {v : Value} {l : List Value} (h : QAt w base v l) {k : Nat} (hk : v.ownBlock = some k) : base ≤ k ∧ k < w.heap.size := by
  rcases h with ⟨rfl, -⟩ | ⟨g, off, cap, rfl, h1, h2, -⟩
  · cases hk
  · cases hk; exact ⟨h1, h2⟩
theorem QAt.turns {S : Nat → Nat → Prop} {w w' : World} {base : Nat} {v : Value} {l : List Value} (h : QAt w base v l) (t : Turns S w w') (hS : ∀ k o, v.ownBlock = some k → ¬ S k o) : QAt w' base v l := by
  rcases h with ⟨rfl, h1⟩ | ⟨g, off, cap, rfl, h1, h2, h3, h4, h5, h6⟩
  · exact .inl ⟨rfl, h1⟩
  · refine .inr ⟨g, off, cap, rfl, h1, Nat.lt_of_lt_of_le h2 t.size, h3, h4, fun j u hu => t.keep (h5 j u hu) (hS g _ rfl), fun j hj => ?_⟩
    obtain ⟨q1, q2⟩ := h6 j hj
    obtain ⟨x, hx⟩ := Option.isSome_iff_exists.1 q1
    exact ⟨by rw [t.keep hx (hS g _ rfl)]; rfl, by rw [t.frozen _ _ h2 (hS g _ rfl)]; exact q2⟩
theorem QAt.below {w w' : World} {base : Nat} {v : Value} {l : List Value} (h : QAt w base v l) (k : Below w.heap.size w w') : QAt w' base v l :=
  h.turns (S := fun _ _ => False) (Turns.of_below k) (fun _ _ _ h => h)
theorem QAt.of_row {w : World} {base : Nat} {e : TypeId} {v : Value} {l : List Value} (h : w.ownsRow base e 1 v l.length l) : QAt w base v l := by
  rcases h.2 with ⟨h1, h2⟩ | ⟨g, cap, cur, rfl, hg, hh, hn, hm, hs, hc⟩
  · exact .inl ⟨h1, List.length_eq_zero_iff.1 h2⟩
  · have hcell : ∀ j, w.cell? ⟨g, 0 + j, none⟩ = cur[j]? := fun j => by
      rw [Nat.zero_add]
      simp [World.cell?, hh]
    refine .inr ⟨g, 0, cap, rfl, hg, lt_of_block hh, hn, hm, fun j u hu => ?_, fun j hj => ⟨?_, ?_⟩⟩
    · rw [Nat.zero_add, h.cellAt j (by have := (List.getElem?_eq_some_iff.1 hu).1; omega)]; exact hu
    · rw [hcell, Array.getElem?_eq_getElem (by omega)]; rfl
    · rw [Nat.zero_add]
      simp [World.frozen?, hh]

theorem QAt.tail {w : World} {base g off cap : Nat} {l : List Value} {u : Value} (h : QAt w base (.slice (some ⟨g, off, none⟩) (u :: l).length cap) (u :: l)) : QAt w base (.slice (some (if cap = 1 then ⟨g, off, none⟩ else ⟨g, off + 1, none⟩)) l.length (cap - 1)) l := by
  rcases h with ⟨-, h1⟩ | ⟨g', off', cap', e, h1, h2, h3, h4, h5, h6⟩
  · cases h1
  · cases e
    rw [List.length_cons] at h3
    by_cases hc : cap = 1
    · rw [if_pos hc]
      have hl : l = [] := List.length_eq_zero_iff.1 (by omega)
      subst hl
      exact .inr ⟨g, off, cap - 1, rfl, h1, h2, by simp, by omega, fun j u hu => by simp at hu, fun j hj => absurd hj (by omega)⟩
    · rw [if_neg hc]
      refine .inr ⟨g, off + 1, cap - 1, rfl, h1, h2, by omega, by omega, fun j x hx => ?_, fun j hj => ?_⟩
      · rw [show off + 1 + j = off + (j + 1) by omega]
        exact h5 (j + 1) x (by simpa using hx)
      · rw [show off + 1 + j = off + (j + 1) by omega]
        exact h6 (j + 1) (by omega)

theorem wkPtr : ∃ i, (Tryz.prog).info? 37 = some i ∧ i.zero = some (.pointer none) ∧ i.size = 1 ∧ i.bytes = 8 := info_parts (by kernel_rfl)

theorem wpList_append_q {ops : Array Oper} {rest : List Oper} {o : Oper} {a : Act} (w : World) {Q : Exit → Act → World → Prop} (hgd : o.guard = none) (s x : Operand)
    (ho : o.op = .call { callee := .builtin .append, args := #[s, x], argTypes := #[89, 89] }) (base : Nat) (l : List Value) (u v : Value) (ad : Addr) (c : Nat)
    (hs : a.eval s = v) (hq : QAt w base v l) (hx : a.eval x = .slice (some ad) 1 c) (hu : w.cell? (ad.add 0) = some u) (h1 : u.oneCell' = true) (h3 : l.length ≤ 1000000) (hb : base ≤ w.heap.size)
    (h : ∀ v' w', QAt w' base v' (l ++ [u]) → Turns (fun k _ => v.ownBlock = some k) w w' → (v'.ownBlock = v.ownBlock ∨ ∃ k, v'.ownBlock = some k ∧ w.heap.size ≤ k) → wpList Tryz.prog ops Q rest (a.put o.dst v') w') : wpList Tryz.prog ops Q (o :: rest) a w := by
  obtain ⟨ri, hri, hrz, hrs, hrb⟩ := wkPtr
  have hnews : ∀ j y, ([u] : List Value)[j]? = some y → w.cell? (ad.add j) = some y := fun j y hj => by
    cases j with
    | zero => cases hj; exact hu
    | succ j => simp at hj
  have h1' : ∀ y ∈ ([u] : List Value), y.oneCell' = true := fun y hy => by
    obtain rfl : y = u := by simpa using hy
    exact h1
  rcases hq with ⟨rfl, rfl⟩ | ⟨g, off, cap, rfl, q1, q2, q3, q4, q5, q6⟩
  · refine wpList_append_own_at w hgd s x 89 ho base 37 ri (.pointer none) 1 8 Tryz.underlying89 hri hrz hrs hrb rfl (by decide) (.slice none 0 0) 0 [] hs (World.ownsRow_nil _ _ _ _) ad 1 c [u] hx rfl hnews h1' (by unfold maxLen; omega) (by omega) hb (fun v' w' h2 hg _ hloc => ?_)
    refine h v' w' (QAt.of_row (by simpa using h2)) (Turns.of_below ((Below.refl _ w).grown hg (Nat.le_refl _) (fun k hk => by cases hk))) ?_
    rcases hloc with e | e
    · exact .inl e
    · exact .inr ⟨_, e, Nat.le_refl _⟩
  · refine wpList_plain hgd fun K hK => ?_
    unfold Oper.wp execOp
    have hmul : off + l.length * ri.size = off + l.length := by rw [hrs, Nat.mul_one]
    by_cases hr : l.length + 1 ≤ cap
    · obtain ⟨i1, i2⟩ := q6 l.length (by omega)
      obtain ⟨old, hold⟩ := Option.isSome_iff_exists.1 i1
      have hrun := run_append_room_cells (P := Tryz.prog) (w := w) 89 o.type 37 ri Tryz.underlying89 hri g off l.length cap ad 1 c [u] (by rw [hrs]; rfl) hnews h1' hr (fun j hj => by
        obtain rfl : j = 0 := by simpa using hj
        rw [hmul]; exact i1) (fun j hj => by
        obtain rfl : j = 0 := by simpa using hj
        rw [hmul]; exact i2)
      rw [hmul] at hrun
      have hset : w.setCells g (off + l.length) [u] = w.setCell ⟨g, off + l.length, none⟩ u := rfl
      rw [hset] at hrun
      simp only [ho, resolve, invoke, builtin, Sem.run_bind, Sem.run_pure, Result.andThen_ok, List.map_toArray, List.map_cons, List.map_nil, hs, hx, hrun]
      refine hK _ _ (h _ _ ?_ ((Turns.refl _ _).setCell _ rfl) (.inl rfl))
      refine .inr ⟨g, off, cap, by rw [List.length_append]; rfl, q1, by simp [World.setCell]; exact q2, by rw [List.length_append]; exact hr, q4, fun j y hj => ?_, fun j hj => ?_⟩
      · by_cases hlt : j < l.length
        · rw [List.getElem?_append_left hlt] at hj
          exact cell_ne (q5 j y hj) (.inr (by omega))
        · have hj' := (List.getElem?_eq_some_iff.1 hj).1
          rw [List.length_append] at hj'
          obtain rfl : j = l.length := by simp at hj'; omega
          rw [List.getElem?_append_right (Nat.le_refl _), Nat.sub_self] at hj
          cases hj
          exact World.cell?_setCell_same _ _ _ hold
      · obtain ⟨k1, k2⟩ := q6 j hj
        refine ⟨?_, by rw [World.frozen?_setCell]; exact k2⟩
        by_cases e : j = l.length
        · subst e
          rw [World.cell?_setCell_same _ _ _ hold]; rfl
        · obtain ⟨y, hy⟩ := Option.isSome_iff_exists.1 k1
          rw [cell_ne hy (.inr (by omega))]; rfl
    · obtain ⟨v', w', hrun, hown, hg⟩ := run_append_arg_grows (P := Tryz.prog) (w := w) 89 o.type 37 ri (.pointer none) 1 8 Tryz.underlying89 hri hrz hrs hrb rfl (by decide) ⟨g, off, none⟩ l.length cap l (by omega) (fun j y hj => by rw [Addr.add_lit]; exact q5 j y hj) ad 1 c [u] rfl hnews (by omega) (by unfold maxLen; omega) (by omega)
      simp only [ho, resolve, invoke, builtin, Sem.run_bind, Sem.run_pure, Result.andThen_ok, List.map_toArray, List.map_cons, List.map_nil, hs, hx, hrun]
      have hB : Below w.heap.size w w' := (Below.refl _ w).grown hg (Nat.le_refl _) (fun k hk => by cases hk)
      refine hK _ _ (h _ _ ?_ (Turns.of_below hB) ?_)
      · have := QAt.of_row (l := l ++ [u]) (by simpa using hown)
        rcases this with ⟨e1, e2⟩ | ⟨g', off', cap', e1, e2, r⟩
        · exact .inl ⟨e1, e2⟩
        · exact .inr ⟨g', off', cap', e1, Nat.le_trans hb e2, r⟩
      · rcases hown.2 with ⟨-, h0⟩ | ⟨g', cap', cur, e1, e2, -⟩
        · omega
        · exact .inr ⟨g', by rw [e1]; rfl, e2⟩
end Go.Proofs.YtilmhhnllelpaaaGreatDoor

/- WkG -/
namespace Go.Proofs.YtilmhhnllelpaaaGreatDoor
open Go.RowKit Go.Extern.Stop Go.Stop Go.Extern Go.Maps Go.WideMaps Go.Sort

def stepV (x : ByteArray × Int) : Value := .agg #[.string x.1, .int .i64 x.2]
def stepD (x : ByteArray × Int) : DataW Unit := .agg [.lit (.string x.1.data.toList), .lit (.int .i64 x.2)]
def stepElem : Value → Option (DataW Unit × List MemPlace)
  | .agg cs => match cs.toList with
    | [.string s, .int .i64 n] => some (stepD (s, n), [])
    | _ => none
  | _ => none
theorem stepElem_mk (x : ByteArray × Int) : stepElem (stepV x) = some (stepD x, []) := rfl
theorem stepD_inj {x y : ByteArray × Int} (h : stepD x = stepD y) : x = y := by
  obtain ⟨a, b⟩ := x
  obtain ⟨c, d⟩ := y
  unfold stepD at h
  simp only [DataW.agg.injEq, List.cons.injEq, DataW.lit.injEq, Lit.string.injEq, Lit.int.injEq, true_and, and_true] at h
  obtain ⟨h1, h2⟩ := h
  rw [bl_inj (show bl a = bl c from h1), h2]
theorem stepElem_inv {v : Value} {z : DataW Unit × List MemPlace} (h : stepElem v = some z) : ∃ x, v = stepV x ∧ z = (stepD x, []) := by
  unfold stepElem at h
  split at h
  · rename_i cs
    split at h
    · rename_i s n e
      cases h
      exact ⟨(s, n), by unfold stepV; rw [← Array.toList_inj.1 (show cs.toList = #[Value.string s, .int .i64 n].toList from e)], rfl⟩
    · cases h
  · cases h

def stD (E : List (ByteArray × ByteArray × Int)) : DataW Unit := E.foldl (fun D x => D.put (.string (bl x.1)) (stepD x.2)) (.map [])
theorem stD_snoc (E : List (ByteArray × ByteArray × Int)) (x : ByteArray × ByteArray × Int) : stD (E ++ [x]) = (stD E).put (.string (bl x.1)) (stepD x.2) := by
  unfold stD
  rw [List.foldl_append]; rfl
theorem snocInd {α : Type} {p : List α → Prop} (h0 : p []) (h1 : ∀ l x, p l → p (l ++ [x])) (l : List α) : p l := by
  rw [← List.reverse_reverse l]
  induction l.reverse with
  | nil => exact h0
  | cons x r ih => rw [List.reverse_cons]; exact h1 _ _ ih
theorem stD_tidy : ∀ E, Tidy (stD E) := snocInd tidy_empty fun E x ih => by
  rw [stD_snoc]
  exact ih.put (by trivial) _
def keyIn (E : List (ByteArray × ByteArray × Int)) (k : ByteArray) : Bool := E.any fun x => x.1.toList == k.toList
theorem keyIn_snoc (E : List (ByteArray × ByteArray × Int)) (x : ByteArray × ByteArray × Int) (k : ByteArray) : keyIn (E ++ [x]) k = (keyIn E k || (x.1.toList == k.toList)) := by
  unfold keyIn
  rw [List.any_append]
  simp
theorem stD_has (k : ByteArray) : ∀ E, Maps.has (stD E) (.string (bl k)) = keyIn E k := snocInd rfl fun E x ih => by
  rw [stD_snoc, keyIn_snoc, ← ih]
  by_cases e : x.1 = k
  · subst e
    rw [has_put_same (stD_tidy E).isMap (by trivial)]
    simp
  · rw [has_put_other (fun e' => e (bl_inj (by injection e' with e'; exact e'.symm)))]
    have : (x.1.toList == k.toList) = false := by
      rw [beq_eq_false_iff_ne, toList_bl, toList_bl]
      exact fun e' => e (bl_inj e')
    rw [this, Bool.or_false]
theorem keyIn_iff {E : List (ByteArray × ByteArray × Int)} {k : ByteArray} : keyIn E k = true ↔ ∃ x ∈ E, x.1 = k := by
  unfold keyIn
  rw [List.any_eq_true]
  refine exists_congr fun x => and_congr_right fun _ => ?_
  rw [beq_iff_eq, toList_bl, toList_bl]
  exact ⟨fun e => bl_inj e, fun e => by rw [e]⟩
def Once (E : List (ByteArray × ByteArray × Int)) : Prop := E.Pairwise fun x y => x.1 ≠ y.1
theorem Once.snoc {E : List (ByteArray × ByteArray × Int)} (h : Once E) {x : ByteArray × ByteArray × Int} (hx : keyIn E x.1 = false) : Once (E ++ [x]) := by
  refine List.pairwise_append.2 ⟨h, List.pairwise_singleton _ _, fun y hy z hz e => ?_⟩
  obtain rfl : z = x := by simpa using hz
  have : keyIn E z.1 = true := keyIn_iff.2 ⟨y, hy, e⟩
  rw [hx] at this; cases this
theorem Once.left {E F : List (ByteArray × ByteArray × Int)} (h : Once (E ++ F)) : Once E := (List.pairwise_append.1 h).1
theorem Once.last {E : List (ByteArray × ByteArray × Int)} {x : ByteArray × ByteArray × Int} (h : Once (E ++ [x])) : keyIn E x.1 = false := by
  cases hk : keyIn E x.1 with
  | false => rfl
  | true =>
    obtain ⟨y, hy, e⟩ := keyIn_iff.1 hk
    exact absurd e ((List.pairwise_append.1 h).2.2 y hy x (by simp))
theorem stD_size : ∀ E, Once E → Maps.size (stD E) = E.length := snocInd (fun _ => rfl) fun E x ih h => by
  rw [stD_snoc, size_put (stD_tidy E), stD_has, h.last, ih h.left]
  simp
theorem stD_at (d : DataW Unit) : ∀ E, Once E → ∀ x ∈ E, (stD E).atKey (.string (bl x.1)) d = stepD x.2 := snocInd (fun _ x hx => by cases hx) fun E y ih h x hx => by
  rw [stD_snoc]
  rcases List.mem_append.1 hx with hx | hx
  · have hne : x.1 ≠ y.1 := (List.pairwise_append.1 h).2.2 x hx y (by simp)
    rw [atKey_put_other (fun e' => hne (bl_inj (by injection e')))]
    exact ih h.left x hx
  · obtain rfl : x = y := by simpa using hx
    exact atKey_put_same (stD_tidy E).isMap (by trivial) _ _

theorem stepLaw : Keyed Tryz.prog 9 := string_keyed Tryz.underlying9
theorem stepZero (w : World) : (zeroValue 95).run Tryz.prog w = .ok (stepV (ByteArray.empty, 0)) w := by kernel_rfl

def FoundAt (w : World) (b : Nat) (E : List (ByteArray × ByteArray × Int)) : Prop := w.ownsMap Tryz.prog 9 stepElem b E.length (stD E) ∧ Once E
theorem FoundAt.size {w : World} {b : Nat} {E : List (ByteArray × ByteArray × Int)} (h : FoundAt w b E) : Maps.size (stD E) = E.length := stD_size E h.2
theorem FoundAt.look {w : World} {b : Nat} {E : List (ByteArray × ByteArray × Int)} (h : FoundAt w b E) (k : ByteArray) (hk : k.size ≤ maxLen) : ∃ x, (Instr.lookup 88 (.map (some b)) (.string k) true).run Tryz.prog w = .ok (.tuple #[stepV x, .bool (keyIn E k)]) w := by
  obtain ⟨v, ps, hrun, hv⟩ := h.1.look_ok (t := 88) stepLaw Tryz.underlying88 (stepZero w) (stepElem_mk _) (keyOf_string_mk Tryz.underlying9 hk)
  obtain ⟨x, rfl, -⟩ := stepElem_inv hv
  rw [stD_has] at hrun
  exact ⟨x, hrun⟩
theorem FoundAt.at {w : World} {b : Nat} {E : List (ByteArray × ByteArray × Int)} (h : FoundAt w b E) {x : ByteArray × ByteArray × Int} (hx : x ∈ E) (hk : x.1.size ≤ maxLen) : (Instr.lookup 88 (.map (some b)) (.string x.1) false).run Tryz.prog w = .ok (stepV x.2) w := by
  obtain ⟨v, ps, hrun, hv⟩ := h.1.lookup (t := 88) stepLaw Tryz.underlying88 (stepZero w) (stepElem_mk _) (keyOf_string_mk Tryz.underlying9 hk)
  obtain ⟨y, rfl, hy⟩ := stepElem_inv hv
  rw [stD_at _ E h.2 x hx] at hy
  rw [stepD_inj (congrArg Prod.fst hy)]
  exact hrun
theorem FoundAt.store {w : World} {b : Nat} {E : List (ByteArray × ByteArray × Int)} (h : FoundAt w b E) (k : ByteArray) (hk : k.size ≤ maxLen) (x : ByteArray × Int) (hn : E.length < maxLen) (hnew : keyIn E k = false) :
    ∃ w', (Instr.mapUpdate 88 (.map (some b)) (.string k) (stepV x)).run Tryz.prog w = .ok () w' ∧ FoundAt w' b (E ++ [(k, x)]) ∧ w.grownBy w' (some b) := by
  obtain ⟨w', h1, h2, h3⟩ := h.1.update (t := 88) stepLaw Tryz.underlying88 hn (keyOf_string_mk Tryz.underlying9 hk) (stepElem_mk x)
  refine ⟨w', h1, ⟨?_, h.2.snoc hnew⟩, h3⟩
  rw [stD_snoc, List.length_append]
  exact h2
theorem FoundAt.len {w : World} {b : Nat} {E : List (ByteArray × ByteArray × Int)} (h : FoundAt w b E) (ty : TypeId) : (Builtin.len_ #[88] ty #[.map (some b)]).run Tryz.prog w = .ok (.int .i64 E.length) w := by
  rw [h.1.len Tryz.underlying88 ty, h.size]
theorem FoundAt.kept {w w' : World} {b : Nat} {E : List (ByteArray × ByteArray × Int)} (h : FoundAt w b E) (e : w'.heap[b]? = w.heap[b]?) : FoundAt w' b E := by
  obtain ⟨⟨es, clock, hb, r⟩, h2⟩ := h
  exact ⟨⟨es, clock, e.trans hb, r⟩, h2⟩
end Go.Proofs.YtilmhhnllelpaaaGreatDoor

/- WkH -/
namespace Go.Proofs.YtilmhhnllelpaaaGreatDoor
open Go.RowKit Go.Extern.Stop Go.Stop Go.Extern Go.Maps Go.WideMaps Go.Sort

structure ToldAt (tb : Nat) (s e : Int) (w : World) : Prop where
  states : w.cell? ⟨tb, 0, none⟩ = some (.int .i64 s)
  ends : w.cell? ⟨tb, 1, none⟩ = some (.int .i64 e)
  fz : ∀ o, o < 4 → w.frozen? ⟨tb, o, none⟩ = false
  fault : w.cell? ⟨tb, 2, none⟩ = some (.bool false)
  way : w.cell? ⟨tb, 3, none⟩ = some (.slice none 0 0)
theorem ToldAt.lt {tb : Nat} {s e : Int} {w : World} (h : ToldAt tb s e w) : tb < w.heap.size := World.block_lt_of_cell? _ _ h.states
theorem ToldAt.turns {S : Nat → Nat → Prop} {tb : Nat} {s e : Int} {w w' : World} (h : ToldAt tb s e w) (t : Turns S w w') (hS : ∀ o, ¬ S tb o) : ToldAt tb s e w' :=
  ⟨t.keep h.states (hS _), t.keep h.ends (hS _), fun o ho => by rw [t.frozen _ _ h.lt (hS _)]; exact h.fz o ho, t.keep h.fault (hS _), t.keep h.way (hS _)⟩
theorem ToldAt.below {tb : Nat} {s e : Int} {w w' : World} (h : ToldAt tb s e w) (k : Below w.heap.size w w') : ToldAt tb s e w' := h.turns (S := fun _ _ => False) (Turns.of_below k) (fun _ h => h)
theorem ToldAt.set0 {tb : Nat} {s e : Int} {w : World} (h : ToldAt tb s e w) (s' : Int) : ToldAt tb s' e (w.setCell ⟨tb, 0, none⟩ (.int .i64 s')) :=
  ⟨World.cell?_setCell_same _ _ _ h.states, cell_ne h.ends (.inr (by omega)), fun o ho => by rw [World.frozen?_setCell]; exact h.fz o ho, cell_ne h.fault (.inr (by omega)), cell_ne h.way (.inr (by omega))⟩
theorem ToldAt.set1 {tb : Nat} {s e : Int} {w : World} (h : ToldAt tb s e w) (e' : Int) : ToldAt tb s e' (w.setCell ⟨tb, 1, none⟩ (.int .i64 e')) :=
  ⟨cell_ne h.states (.inr (by omega)), World.cell?_setCell_same _ _ _ h.ends, fun o ho => by rw [World.frozen?_setCell]; exact h.fz o ho, cell_ne h.fault (.inr (by omega)), cell_ne h.way (.inr (by omega))⟩

def endN (e : Int) : Bool → Int
  | true => e + 1
  | false => e

set_option maxRecDepth 20000 in
set_option maxHeartbeats 1000000 in
theorem see_any {a : Nat → Addr} {cs : List (List Ins)} {p : MkPl} {m : Mk} {w : World} (h : MkAt a cs p m w) {tb cb cap : Nat} {s e : Int} {ad : Option Addr} (ht : ToldAt tb s e w) (hc : w.cell? ⟨cb, 0, none⟩ = some (.slice ad cs.length cap)) (hcb : cb ≠ tb) (hp : ¬ p.fp tb) (hB : p.B ≤ tb) (hs : 0 ≤ s ∧ s ≤ 1000000) (he : 0 ≤ e ∧ e ≤ 1000000) :
    Calls Tryz.prog 14 #[.pointer (some ⟨p.b, 0, none⟩), .pointer (some ⟨tb, 0, none⟩), .pointer (some ⟨cb, 0, none⟩)] w fun x w' => x = .returned (.tuple #[]) ∧ ToldAt tb (s + 1) (endN e (endTo cs m cs.length)) w' ∧ Turns (fun k _ => k = tb) w w' := by
  have t0 := ht.states
  have z0 := ht.fz 0 (by decide)
  have H1 := hide (ht.set0 (s + 1))
  have T1 : Turns (fun k _ => k = tb) w (w.setCell ⟨tb, 0, none⟩ (.int .i64 (s + 1))) := (Turns.refl _ _).setCell _ rfl
  have HM := hide (h.turns T1 (fun k _ e => by rw [e]; exact hp) (fun k _ e => by rw [e]; exact hB))
  have hc1 := T1.keep hc (fun e => hcb e)
  have HE := hide (ended_any HM.out)
  have HT1 := hide T1
  obtain ⟨hs1, hs2⟩ := hs
  obtain ⟨he1, he2⟩ := he
  clear ht T1 h hc hp hB HM
  go_enter Tryz.func14, Tryz.ntmps14
  go_wp2_with fail
  generalize w.setCell ⟨tb, 0, none⟩ (.int .i64 (s + 1)) = w1 at *
  refine HE.out.mono ?_
  rintro x w2 ⟨rfl, hb2⟩
  have H2 := hide (H1.out.below hb2)
  have T2 := hide (HT1.out.trans (Turns.of_below hb2))
  clear H1 HT1 HE hb2 hc1
  cases hx : endTo cs m cs.length
  · go_wp2_with fail
    go_end0
    exact ⟨rfl, by rw [hx]; exact H2.out, T2.out⟩
  · have t1 := H2.out.ends
    have z1 := H2.out.fz 1 (by decide)
    go_wp2_with fail
    go_end0
    exact ⟨rfl, by rw [hx]; exact H2.out.set1 (e + 1), T2.out.setCell _ rfl⟩

structure WsAt (b : Nat) (n mo : Int) (fb : Nat) (qv see : Value) (w : World) : Prop where
  numbers : w.cell? ⟨b, 0, none⟩ = some (.int .i64 n)
  most : w.cell? ⟨b, 1, none⟩ = some (.int .i64 mo)
  found : w.cell? ⟨b, 2, none⟩ = some (.map (some fb))
  ahead : w.cell? ⟨b, 3, none⟩ = some qv
  see : w.cell? ⟨b, 4, none⟩ = some see
  fz : w.frozen? ⟨b, 3, none⟩ = false
theorem WsAt.lt {b fb : Nat} {n mo : Int} {qv see : Value} {w : World} (h : WsAt b n mo fb qv see w) : b < w.heap.size := World.block_lt_of_cell? _ _ h.numbers
theorem WsAt.turns {S : Nat → Nat → Prop} {b fb : Nat} {n mo : Int} {qv see : Value} {w w' : World} (h : WsAt b n mo fb qv see w) (t : Turns S w w') (hS : ∀ o, ¬ S b o) : WsAt b n mo fb qv see w' :=
  ⟨t.keep h.numbers (hS _), t.keep h.most (hS _), t.keep h.found (hS _), t.keep h.ahead (hS _), t.keep h.see (hS _), by rw [t.frozen _ _ h.lt (hS _)]; exact h.fz⟩
theorem WsAt.set {b fb : Nat} {n mo : Int} {qv see : Value} {w : World} (h : WsAt b n mo fb qv see w) (q : Value) : WsAt b n mo fb q see (w.setCell ⟨b, 3, none⟩ q) :=
  ⟨cell_ne h.numbers (.inr (by omega)), cell_ne h.most (.inr (by omega)), cell_ne h.found (.inr (by omega)), World.cell?_setCell_same _ _ _ h.ahead, cell_ne h.see (.inr (by omega)), by rw [World.frozen?_setCell]; exact h.fz⟩

set_option maxRecDepth 20000 in
set_option maxHeartbeats 1000000 in
theorem newSearch_any (n mo : Int) (see : Value) (w : World) (hsee : ∃ fn f c, see = .func fn f c) :
    Calls Tryz.prog 13 #[.int .i64 n, .int .i64 mo, see] w fun x w' => x = .returned (.pointer (some ⟨w.heap.size + 1, 0, none⟩)) ∧ WsAt (w.heap.size + 1) n mo w.heap.size (.slice none 0 0) see w' ∧ FoundAt w' w.heap.size [] ∧ Below w.heap.size w w' := by
  obtain ⟨fn, f, c, rfl⟩ := hsee
  have hmm := @run_makeMap Tryz.prog
  go_enter Tryz.func13, Tryz.ntmps13
  go_wp2_with fail
  go_ret
  have hs : (w.alloc (.map #[] 0)).heap.size = w.heap.size + 1 := by simp
  refine ⟨by simp, ⟨?_, ?_, ?_, ?_, ?_, ?_⟩, ?_, ?_⟩
  · rw [← hs, World.cell?_alloc_new]; rfl
  · rw [← hs, World.cell?_alloc_new]; rfl
  · rw [← hs, World.cell?_alloc_new]; rfl
  · rw [← hs, World.cell?_alloc_new]; rfl
  · rw [← hs, World.cell?_alloc_new]; rfl
  · rw [← hs]; unfold World.frozen?; rw [show ((w.alloc (.map #[] 0)).alloc _).heap[(w.alloc (.map #[] 0)).heap.size]? = some (Obj.cells _ _ _) from heap_alloc_new _ _]; rfl
  · exact ⟨(World.ownsMap_made w _ _ _).alloc _, List.Pairwise.nil⟩
  · exact ((Below.refl _ w).alloc (Nat.le_refl _) _).alloc (by simp) _
end Go.Proofs.YtilmhhnllelpaaaGreatDoor
