import Derived.Test.YtaiigfcfmcicjaaGreatDoorB23
import Derived.Test.YtaiigfcfmcicjaaGreatDoorB29
import Derived.Test.YtaiigfcfmcicjaaGreatDoorB32
import Derived.Laws.AppendOwnNone
import Derived.Lib.AppendZerosOnto

/- GdS -/
namespace Go.Proofs.YtaiigfcfmcicjaaGreatDoor
open Go.RowKit Go.Extern.Stop Go.Stop Go.Extern Go.Maps Go.WideMaps Go.Sort

theorem run_append_ins {w : World} {base b2 : Nat} {l0 l : List Ins} {v u : Value} (hown : insOwn w base v l0) (hu : insOwn w b2 u l) (h3 : l0.length + l.length ≤ 2000) (hb : base ≤ w.heap.size) (ty : TypeId) :
    ∃ v' w', (Builtin.append_ #[53, 53] ty #[v, u]).run Tryz.prog w = .ok v' w' ∧ insOwn w' base v' (l0 ++ l) ∧ Below base w w' := by
  obtain ⟨ri, hri, hrz, hrs, hrb⟩ := instrInfo
  have hu' := hu
  rcases hu'.2 with ⟨rfl, h0⟩ | ⟨g, cap, cur, rfl, -⟩
  · obtain rfl := List.length_eq_zero_iff.1 h0
    refine ⟨v, w, run_append_owned_none (P := Tryz.prog) (w := w) base 53 ty 101 ri 5 Tryz.underlying53 hri v l0.length (icells l0) hown, ?_, Below.refl _ _⟩
    rw [List.append_nil]; exact hown
  · obtain ⟨v', w', hr, h2, h4, -, -⟩ := run_append_own_at (P := Tryz.prog) (w := w) base 53 ty 101 ri (.agg #[.string ⟨#[]⟩, .int .i64 0, .int .i64 0, .int .i64 0, .string ⟨#[]⟩]) 5 56 Tryz.underlying53 hri hrz hrs hrb rfl (by decide) v l0.length (icells l0) hown ⟨g, 0, none⟩ l.length cap (icells l) (icells_len l) (fun j x hj => by
        have hj5 : j < l.length * 5 := by
          have := (List.getElem?_eq_some_iff.1 hj).1
          rwa [icells_len] at this
        rw [Addr.add_lit, Nat.zero_add]
        exact (World.ownsRow.cellAt hu j hj5).trans hj) icells_one (by unfold maxLen; omega) (by omega) hb
    refine ⟨v', w', hr, ?_, (Below.refl base w).grown h4 hb (fun k hk => (hown.lt k hk).1)⟩
    unfold insOwn
    rw [List.length_append, icells_append]
    exact h2

theorem wpList_append_insO {ops : Array Oper} {rest : List Oper} {o : Oper} {a : Act} (w : World) {Q : Exit → Act → World → Prop} (hgd : o.guard = none) (s x : Operand)
    (ho : o.op = .call { callee := .builtin .append, args := #[s, x], argTypes := #[53, 53] }) (base b2 : Nat) (l0 l : List Ins) (v u : Value)
    (hs : a.eval s = v) (hown : insOwn w base v l0) (hx : a.eval x = u) (hu : insOwn w b2 u l) (h3 : l0.length + l.length ≤ 2000) (hb : base ≤ w.heap.size)
    (h : ∀ v' w', insOwn w' base v' (l0 ++ l) → Below base w w' → wpList Tryz.prog ops Q rest (a.put o.dst v') w') : wpList Tryz.prog ops Q (o :: rest) a w := by
  refine wpList_plain hgd fun K hK => ?_
  obtain ⟨v', w', hr, h4, h5⟩ := run_append_ins hown hu h3 hb o.type
  unfold Oper.wp execOp
  simp only [ho, resolve, invoke, builtin, Sem.run_bind, Sem.run_pure, Result.andThen_ok, List.map_toArray, List.map_cons, List.map_nil, hs, hx, hr]
  exact hK _ _ (h v' w' h4 h5)

end Go.Proofs.YtaiigfcfmcicjaaGreatDoor

/- ThA -/
namespace Go.Proofs.YtaiigfcfmcicjaaGreatDoor
open Go.RowKit Go.Extern.Stop Go.Stop Go.Extern Go.Maps Go.WideMaps Go.Sort

set_option maxRecDepth 100000 in
set_option maxHeartbeats 4000000 in
theorem growI_nil {n : Nat} (h0 : 0 < n) (hn : n ≤ 2000) (w : World) :
    Calls Tryz.prog 135 #[.slice none 0 0, .int .i64 n] w fun e w' => ∃ v, e = .returned v ∧ insOwn w' w.heap.size v [] ∧ Below w.heap.size w w' := by
  obtain ⟨ri, hri, hrz, hrs, hrb⟩ := instrInfo
  have h1 : ¬ ((n : Int) < 0) := by omega
  have h3 : IntKind.i64.wrap ((n : Int) - 0) = (n : Int) := by rw [IntKind.wrap_i64]; omega
  have h4 : 0 < (n : Int) := by omega
  have hold : (Builtin.firstCells ri.size 0 (.slice none 0 0)).run Tryz.prog w.drew = .ok (([] : List Value).toArray) w.drew := run_firstCells_none w.drew ri.size 0 0 0
  have hrz' : ∀ ty, (Builtin.append_ #[53, 3] ty #[.slice none 0 0, .int .i64 (n : Int)]).run Tryz.prog w =
      .ok (.slice (some ⟨w.heap.size, 0, none⟩) n (grownCap w n 0 101)) (w.drew.alloc (.cells (([] : List Value).toArray ++ Builtin.zeroCells (Value.agg #[.string ⟨#[]⟩, .int .i64 0, .int .i64 0, .int .i64 0, .string ⟨#[]⟩]).cells n ++ Builtin.zeroCells (Value.agg #[.string ⟨#[]⟩, .int .i64 0, .int .i64 0, .int .i64 0, .string ⟨#[]⟩]).cells (grownCap w n 0 101 - n)) 101)) := fun ty => by
    have h := Lib.run_append_grow_zeros w 53 3 ty 101 ri _ .i64 .i64 Tryz.underlying53 Tryz.underlying3 hri hrz none 0 0 [] hold n (by omega) (by rw [hrs]; decide) (by omega) (by omega)
      (by rw [hrb]; omega)
      (by rw [Nat.zero_add]; exact growslice_fits (by omega) (by rw [hrb]; omega))
    simpa using h
  have hG := grownCap_ge w n 0 101
  have hGm : grownCap w n 0 101 ≤ maxLen := grownCap_le_maxLen w n 0 101 (by unfold maxLen; omega)
  generalize grownCap w n 0 101 = G at *
  obtain ⟨C, hC, hCs⟩ : ∃ C : Array Value, (([] : List Value).toArray ++ Builtin.zeroCells (Value.agg #[.string ⟨#[]⟩, .int .i64 0, .int .i64 0, .int .i64 0, .string ⟨#[]⟩]).cells n ++ Builtin.zeroCells (Value.agg #[.string ⟨#[]⟩, .int .i64 0, .int .i64 0, .int .i64 0, .string ⟨#[]⟩]).cells (G - n)) = C ∧ C.size = G * 5 := ⟨_, rfl, by
    simp only [Array.size_append, List.size_toArray, size_zeroCells]
    show 0 + n * 5 + (G - n) * 5 = G * 5
    omega⟩
  simp only [hC] at hrz'
  have hO : Hid (insOwn (w.drew.alloc (.cells C 101)) w.heap.size (.slice (some ⟨w.heap.size, 0, none⟩) 0 G) []) := hide ⟨rfl, .inr ⟨w.heap.size, G, C, rfl, Nat.le_refl _, (by show (w.heap.push _)[w.heap.size]? = _; simp), Nat.zero_le _, hGm, hCs, by simp [icells]⟩⟩
  have hB : Below w.heap.size w (w.drew.alloc (.cells C 101)) := (Below.refl _ _).drew.alloc (Nat.le_refl _) _
  clear hC hCs
  have hG63 : G ≤ 9223372036854775807 := by unfold maxLen at hGm; omega
  clear hold hri hrz hrs hrb
  go_enter Tryz.func135, Tryz.ntmps135
  go_wp2_with (at_builtin; refine Lib.wpList_append_run _ rfl _ _ _ _ rfl _ _ rfl rfl _ _ (hrz' _) ?_)
  all_goals (go_ret; exact ⟨_, rfl, hO.out, hB⟩)

def partsAt (ad : Option Addr) (l : List (List Ins)) (w : World) : Prop := ∀ (t : Nat) L, l[t]? = some L → ∃ b off u, ad = some ⟨b, off, none⟩ ∧ w.cell? ⟨b, off + t, none⟩ = some u ∧ ((u = .slice none 0 0 ∧ L = []) ∨ ∃ x c, u = .slice (some x) L.length c ∧ 0 < L.length ∧ insAt (some x) L w)
theorem partsAt.below {ad : Option Addr} {l : List (List Ins)} {w w' : World} (h : partsAt ad l w) (hb : Below w.heap.size w w') : partsAt ad l w' := fun t L ht => by
  obtain ⟨b, off, u, h1, h2, h3⟩ := h t L ht
  refine ⟨b, off, u, h1, keep_cell hb h2, h3.imp id ?_⟩
  rintro ⟨x, c, e1, e2, e3⟩
  exact ⟨x, c, e1, e2, insAt_below e3 hb⟩
def flatTo (l : List (List Ins)) (k : Nat) : List Ins := (l.take k).flatten
theorem flatTo_succ {l : List (List Ins)} {k : Nat} {L : List Ins} (h : l[k]? = some L) : flatTo l (k + 1) = flatTo l k ++ L := by
  unfold flatTo
  rw [List.take_add_one, h, List.flatten_append]
  simp
theorem flatTo_le (l : List (List Ins)) : ∀ k : Nat, (flatTo l k).length ≤ l.flatten.length := fun k => by
  have : l.flatten = (l.take k).flatten ++ (l.drop k).flatten := by rw [← List.flatten_append, List.take_append_drop]
  rw [this, List.length_append]
  exact Nat.le_add_right _ _
theorem flatTo_all (l : List (List Ins)) : flatTo l l.length = l.flatten := by
  unfold flatTo
  rw [List.take_length]

def lbOp (op : ByteArray) : Bool := hasTo ((shape op.toList).getD [])
set_option maxRecDepth 20000 in
theorem hasLabel_any (op : ByteArray) (w : World) : Calls Tryz.prog 152 #[.string op] w fun e w' => e = .returned (.bool (lbOp op)) ∧ Below w.heap.size w w' := by
  have HK : Hid (∀ w, Calls Tryz.prog 154 #[.string op] w fun e w' => ∃ a b c d, e = .returned (.tuple #[.agg #[.int .i64 a, .int .i64 b, .int .i64 c, .bool (lbOp op)], .bool d]) ∧ Below w.heap.size w w') := hide fun w => (kindOf_any op w).mono fun e w' ⟨h1, h2⟩ => by
    subst h1
    unfold lbOp
    cases shape op.toList with
    | none => exact ⟨_, _, _, _, rfl, h2⟩
    | some S => exact ⟨_, _, _, _, rfl, h2⟩
  generalize lbOp op = B at *
  go_enter Tryz.func152, Tryz.ntmps152
  go_wp2_with fail
  refine (HK.out _).mono ?_
  rintro e w1 ⟨a, b, c, d, rfl, hb⟩
  go_wp2_with fail
  go_ret
  exact ⟨rfl, hb.alloc hb.size _⟩

def thDot : ByteArray := ⟨#[46]⟩
def namedI (q : ByteArray) (x : Ins) : Ins := if lbOp x.op = true then ⟨x.op, x.a, x.b, x.c, x.to ++ thDot ++ q⟩ else x
def namedTo (q : ByteArray) (l : List Ins) (k : Nat) : List Ins := l.mapIdx fun i x => if i < k then namedI q x else x
theorem namedTo_get (q : ByteArray) (l : List Ins) (k i : Nat) : (namedTo q l k)[i]? = l[i]?.map fun x => if i < k then namedI q x else x := by
  unfold namedTo
  rw [List.getElem?_mapIdx]
theorem namedTo_zero (q : ByteArray) (l : List Ins) : namedTo q l 0 = l := List.ext_getElem? fun i => by
  rw [namedTo_get]
  cases l[i]? <;> simp
theorem namedTo_all (q : ByteArray) (l : List Ins) : namedTo q l l.length = l.map (namedI q) := List.ext_getElem? fun i => by
  rw [namedTo_get, List.getElem?_map]
  by_cases h : i < l.length
  · simp only [if_pos h]
  · rw [List.getElem?_eq_none (by omega)]; rfl
theorem namedTo_skip {q : ByteArray} {l : List Ins} {k : Nat} {x : Ins} (h : l[k]? = some x) (hn : lbOp x.op = false) : namedTo q l (k + 1) = namedTo q l k := List.ext_getElem? fun i => by
  rw [namedTo_get, namedTo_get]
  by_cases e : i = k
  · subst e
    rw [h]
    have : namedI q x = x := by unfold namedI; rw [hn]; rfl
    simp [this]
  · have : (i < k + 1) = (i < k) := by simp only [eq_iff_iff]; omega
    simp only [this]
theorem namedTo_put {q : ByteArray} {l : List Ins} {k : Nat} {x : Ins} (h : l[k]? = some x) (hx : lbOp x.op = true) {g : Nat} {w : World} (hA : insAt (some ⟨g, 0, none⟩) (namedTo q l k) w) :
    insAt (some ⟨g, 0, none⟩) (namedTo q l (k + 1)) (w.setCell ⟨g, k * 5 + 4, none⟩ (.string (x.to ++ thDot ++ q))) := fun i y hy => by
  rw [namedTo_get] at hy
  by_cases e : i = k
  · subst e
    rw [h, Option.map_some, if_pos (Nat.lt_succ_self _)] at hy
    have e2 : namedI q x = ⟨x.op, x.a, x.b, x.c, x.to ++ thDot ++ q⟩ := by unfold namedI; rw [if_pos hx]
    rw [e2] at hy
    obtain rfl := Option.some.inj hy
    have h1 : (namedTo q l i)[i]? = some x := by rw [namedTo_get, h, Option.map_some, if_neg (Nat.lt_irrefl _)]
    obtain ⟨b, off, e3, c0, c1, c2, c3, c4⟩ := hA i x h1
    cases e3
    simp only [Nat.zero_add] at c0 c1 c2 c3 c4
    refine ⟨g, 0, rfl, ?_, ?_, ?_, ?_, ?_⟩ <;> simp only [Nat.zero_add]
    · exact cell_ne c0 (.inr (by omega))
    · exact cell_ne c1 (.inr (by omega))
    · exact cell_ne c2 (.inr (by omega))
    · exact cell_ne c3 (.inr (by omega))
    · exact World.cell?_setCell_same _ _ _ c4
  · have h1 : (namedTo q l k)[i]? = some y := by
      rw [namedTo_get, ← hy]
      have : (i < k + 1) = (i < k) := by simp only [eq_iff_iff]; omega
      simp only [this]
    obtain ⟨b, off, e3, c0, c1, c2, c3, c4⟩ := hA i y h1
    cases e3
    simp only [Nat.zero_add] at c0 c1 c2 c3 c4
    refine ⟨g, 0, rfl, ?_, ?_, ?_, ?_, ?_⟩ <;> simp only [Nat.zero_add]
    · exact cell_ne c0 (.inr (by omega))
    · exact cell_ne c1 (.inr (by omega))
    · exact cell_ne c2 (.inr (by omega))
    · exact cell_ne c3 (.inr (by omega))
    · exact cell_ne c4 (.inr (by omega))
structure NAt (q : ByteArray) (l : List Ins) (g : Nat) (w0 : World) (k : Nat) (w : World) : Prop where
  at' : insAt (some ⟨g, 0, none⟩) (namedTo q l k) w
  fz : ∀ o, w.frozen? ⟨g, o, none⟩ = false
  low : Below w0.heap.size w0 w
  ge : w0.heap.size ≤ g
  lt : g < w.heap.size
theorem NAt.below {q : ByteArray} {l : List Ins} {g : Nat} {w0 w w' : World} {k : Nat} (h : NAt q l g w0 k w) (hb : Below w.heap.size w w') : NAt q l g w0 k w' :=
  ⟨insAt_below h.at' hb, fun o => by rw [hb.frozen (show g < _ from h.lt)]; exact h.fz o, below_step h.low hb, h.ge, Nat.lt_of_lt_of_le h.lt hb.size⟩
theorem NAt.skip {q : ByteArray} {l : List Ins} {g : Nat} {w0 w : World} {k : Nat} {x : Ins} (h : NAt q l g w0 k w) (hx : l[k]? = some x) (hn : lbOp x.op = false) : NAt q l g w0 (k + 1) w := ⟨by rw [namedTo_skip hx hn]; exact h.at', h.fz, h.low, h.ge, h.lt⟩
theorem NAt.put {q : ByteArray} {l : List Ins} {g : Nat} {w0 w : World} {k : Nat} {x : Ins} (h : NAt q l g w0 k w) (hx : l[k]? = some x) (hn : lbOp x.op = true) : NAt q l g w0 (k + 1) (w.setCell ⟨g, k * 5 + 4, none⟩ (.string (x.to ++ thDot ++ q))) :=
  ⟨namedTo_put hx hn h.at', fun o => by rw [World.frozen?_setCell]; exact h.fz o, h.low.setCell h.ge _, h.ge, by simpa [World.setCell] using h.lt⟩
theorem NAt.to {q : ByteArray} {l : List Ins} {g : Nat} {w0 w : World} {k : Nat} {x : Ins} (h : NAt q l g w0 k w) (hx : l[k]? = some x) : w.cell? ⟨g, k * 5 + 4, none⟩ = some (.string x.to) := by
  obtain ⟨b, off, e, -, -, -, -, c4⟩ := h.at' k x (by rw [namedTo_get, hx, Option.map_some, if_neg (Nat.lt_irrefl _)])
  cases e
  rw [Nat.zero_add] at c4
  exact c4
theorem insOwn_deep {w : World} {base : Nat} {v : Value} {l : List Ins} (h : insOwn w base v l) (h0 : 0 < l.length) : ∃ g cap, base ≤ g ∧ v = .slice (some ⟨g, 0, none⟩) l.length cap ∧ insAt (some ⟨g, 0, none⟩) l w ∧ (∀ o, w.frozen? ⟨g, o, none⟩ = false) ∧ g < w.heap.size ∧ l.length ≤ cap := by
  have h' := h
  rcases h with ⟨hlen, ⟨rfl, e⟩ | ⟨g, cap, cur, rfl, hb, hg, h1, h2, h3, h4⟩⟩
  · omega
  · obtain ⟨ad, cap', e, hi⟩ := insOwn_open h' h0
    cases e
    exact ⟨g, cap, hb, rfl, hi, fun o => frozen_of_row _ _ _ _ _ hg, (Array.getElem?_eq_some_iff.1 hg).1, h1⟩

end Go.Proofs.YtaiigfcfmcicjaaGreatDoor

/- ThG -/
namespace Go.Proofs.YtaiigfcfmcicjaaGreatDoor
open Go.RowKit Go.Extern.Stop Go.Stop Go.Extern Go.Maps Go.WideMaps Go.Sort

def partsOwn (ad : Option Addr) (l : List (List Ins)) (w : World) : Prop := ∀ (t : Nat) L, l[t]? = some L → ∃ b off u, ad = some ⟨b, off, none⟩ ∧ w.cell? ⟨b, off + t, none⟩ = some u ∧ ∃ b2, insOwn w b2 u L
theorem partsOwn.below {ad : Option Addr} {l : List (List Ins)} {w w' : World} (h : partsOwn ad l w) (hb : Below w.heap.size w w') : partsOwn ad l w' := fun t L ht => by
  obtain ⟨b, off, u, h1, h2, b2, h3⟩ := h t L ht
  exact ⟨b, off, u, h1, keep_cell hb h2, b2, insOwn_keep h3 hb⟩

set_option maxRecDepth 20000 in
set_option maxHeartbeats 2000000 in
theorem concatG_any {ad : Option Addr} {l : List (List Ins)} {cap : Nat} {w : World} (h : partsOwn ad l w) (hk : l.length ≤ 1000) (hl : l.flatten.length ≤ 2000) (h0 : 0 < l.flatten.length) :
    Calls Tryz.prog 100 #[.slice ad l.length cap] w fun e w' => ∃ v, e = .returned v ∧ insOwn w' w.heap.size v l.flatten ∧ Below w.heap.size w w' := by
  have HH := hide h
  have HG := hide (fun w => growI_nil h0 hl w)
  have HFL := hide (flatTo_le l)
  have HFA := hide (flatTo_all l)
  have HNN := hide (rfl : l.length = l.length)
  obtain ⟨n, hn⟩ : ∃ n, Hid (l.length = n) := ⟨_, hide rfl⟩
  obtain ⟨N, hN⟩ : ∃ N, Hid (l.flatten.length = N) := ⟨_, hide rfl⟩
  rw [hn.out] at hk ⊢
  rw [hN.out] at hl h0 HG
  clear h
  go_enter Tryz.func100, Tryz.ntmps100
  go_wp2_with fail
  go_loopw [3, 5, 11] (fun s _ i wr => ∃ k : Nat, k ≤ n ∧ i = .int .i64 k ∧ s = .int .i64 ((flatTo l k).length) ∧ w = wr) (fun _ _ i _ => n - (intOf i).toNat)
  case atStart => exact ⟨0, Nat.zero_le _, rfl, rfl, (by first | rfl | trivial)⟩
  case round =>
    obtain ⟨k, hk', rfl, rfl, rfl⟩ := hrel
    by_cases hlt : k < n
    · have ki : (k : Int) < n := by omega
      obtain ⟨L, hL⟩ : ∃ L, l[k]? = some L := ⟨_, List.getElem?_eq_getElem (by rw [hn.out]; exact hlt)⟩
      obtain ⟨b, off, u, rfl, c0, b2, hu⟩ := HH.out k L hL
      have hs := congrArg List.length (flatTo_succ hL)
      rw [List.length_append] at hs
      have hle := HFL.out (k + 1)
      rw [hN.out] at hle
      obtain ⟨x, c, rfl⟩ : ∃ x c, u = .slice x L.length c := by
        obtain ⟨x, c, e, -⟩ := ownsRow_shape hu
        exact ⟨x, c, e⟩
      have HS : Hid ((flatTo l (k + 1)).length = (flatTo l k).length + L.length) := hide hs
      have q1 : ¬ (((flatTo l k).length : Int) + (L.length : Int) < 0) := by omega
      rw [hs] at hle
      clear hu hL hs
      generalize (flatTo l k).length = f at *
      generalize L.length = m at *
      have wr1 : IntKind.i64.wrap ((f : Int) + (m : Int)) = (f : Int) + (m : Int) := by rw [IntKind.wrap_i64]; omega
      go_wp2_with fail
      go_roundw
      case rel => exact ⟨k + 1, by omega, by go_num, by rw [HS.out]; go_num, (by first | rfl | trivial)⟩
      case measure => simp [intOf]; omega
    · obtain rfl : k = n := by omega
      have e1 : flatTo l k = l.flatten := by rw [← hn.out]; exact HFA.out
      rw [e1, hN.out]
      go_wp2_with fail
      refine (HG.out _).mono ?_
      rintro e w1 ⟨v, rfl, hv, hb1⟩
      have HV : Hid (∃ v', insOwn w1 w.heap.size v' [] ∧ v' = v) := hide ⟨v, hv, rfl⟩
      have HB1 := hide hb1
      have HW0 : Hid (insOwn w1 w.heap.size v (flatTo l 0) ∧ Below w.heap.size w w1) := hide ⟨hv, hb1⟩
      clear hv hb1 HV HB1
      go_wp2_with fail
      go_loopw [6, 8, 27] (fun v _ i wr => ∃ j : Nat, j ≤ k ∧ i = .int .i64 j ∧ Hid (insOwn wr w.heap.size v (flatTo l j) ∧ Below w.heap.size w wr)) (fun _ _ i _ => k - (intOf i).toNat)
      case atStart => exact ⟨0, Nat.zero_le _, rfl, HW0⟩
      case round =>
        clear HW0
        obtain ⟨j, hj, rfl, HR⟩ := hrel
        by_cases hlt2 : j < k
        · have ji : (j : Int) < k := by omega
          obtain ⟨L, hL⟩ : ∃ L, l[j]? = some L := ⟨_, List.getElem?_eq_getElem (by rw [hn.out]; exact hlt2)⟩
          obtain ⟨b, off, u, rfl, c0, b2, hu⟩ := HH.out.below HR.out.2 j L hL
          have HS := hide (flatTo_succ hL)
          have hle := HFL.out (j + 1)
          rw [hN.out, HS.out, List.length_append] at hle
          have HU := hide hu
          obtain ⟨x, c, rfl⟩ : ∃ x c, u = .slice x L.length c := by
            obtain ⟨x, c, e, -⟩ := ownsRow_shape hu
            exact ⟨x, c, e⟩
          clear hu hL
          go_wp2_with (at_builtin; refine wpList_append_insO _ rfl _ _ rfl w.heap.size b2 (flatTo l j) L _ _ rfl ?q1 rfl ?q2 ?q3 ?q4 ?_)
          case q1 => exact HR.out.1
          case q2 => exact HU.out
          case q3 => omega
          case q4 => exact HR.out.2.size
          intro v' w3 HO3 hb3
          have HR2 : Hid (insOwn w3 w.heap.size v' (flatTo l (j + 1)) ∧ Below w.heap.size w w3) := hide ⟨by rw [HS.out]; exact HO3, HR.out.2.trans hb3⟩
          clear HO3 hb3 HR HU
          go_wp2_with fail
          go_roundw
          case rel => exact ⟨j + 1, by omega, by go_num, HR2⟩
          case measure => simp [intOf]; omega
        · obtain rfl : j = k := by omega
          have HZ := hide (show insOwn wr w.heap.size u6 l.flatten ∧ Below w.heap.size w wr by rw [← e1]; exact HR.out)
          clear HR
          go_wp2_with fail
          go_ret
          exact ⟨_, rfl, HZ.out.1, HZ.out.2⟩

set_option maxRecDepth 20000 in
set_option maxHeartbeats 1000000 in
theorem cloneG_any {v : Value} {l : List Ins} {b2 : Nat} {w : World} (h : insOwn w b2 v l) (hl : l.length ≤ 2000) :
    Calls Tryz.prog 151 #[v] w fun e w' => ∃ v', e = .returned v' ∧ insOwn w' w.heap.size v' l ∧ Below w.heap.size w w' := by
  have q22 : ∀ (w : World) (a : Option Addr) (n c : Nat), (binOp .eql 53 (.slice a n c) (.slice none 0 0)).run Tryz.prog w = .ok (.bool a.isNone) w := fun w a n c => Go.run_eql_slice_nil w _ 101 a n c Tryz.underlying53
  have h' := h
  rcases h' with ⟨hlen, ⟨rfl, h0⟩ | ⟨g, cap, cur, rfl, hb, hg, h1, h2, h3, h4⟩⟩
  · obtain rfl := List.length_eq_zero_iff.1 h0
    clear h hlen h0 hl
    go_enter Tryz.func151, Tryz.ntmps151
    go_wp2
    go_ret
    exact ⟨_, rfl, insOwn_nil _ _, Below.refl _ _⟩
  · have HC : Hid (∀ (k : Nat) u, (icells l)[k]? = some u → w.cell? (Addr.add ⟨g, 0, none⟩ k) = some u) := fun k u hu => by
      have hk : k < l.length * 5 := by
        have := (List.getElem?_eq_some_iff.1 hu).1
        rwa [icells_len] at this
      rw [Addr.add_lit, Nat.zero_add]
      exact (World.ownsRow.cellAt h k hk).trans hu
    obtain ⟨ri, hri, hrz, hrs, hrb⟩ := instrInfo
    clear h hlen hb hg h1 h2 h3 h4
    go_enter Tryz.func151, Tryz.ntmps151
    go_wp2_with (at_builtin; refine wpList_append_own _ rfl _ _ 53 rfl w.heap.size 101 ri (.agg #[.string ⟨#[]⟩, .int .i64 0, .int .i64 0, .int .i64 0, .string ⟨#[]⟩]) 5 56 Tryz.underlying53 hri hrz hrs hrb rfl (by decide) _ _ _ rfl (World.ownsRow_made w #[] 0 (Nat.le_refl _) (Nat.zero_le _) rfl) ⟨g, 0, none⟩ l.length cap (icells l) rfl ?qc1 ?qc2 ?qc3 ?qc4 ?qc5 ?qc6 ?_)
    case qc1 => exact icells_len l
    case qc2 =>
      intro j u hj
      exact keep_cell ((Below.refl _ _).alloc (Nat.le_refl _) _) (HC.out j u hj)
    case qc3 => exact icells_one
    case qc4 => unfold maxLen; omega
    case qc5 => omega
    case qc6 => simp
    intro v' w1 hown hgrow hnil
    have HB : Below w.heap.size w w1 := ((Below.refl _ w).alloc (Nat.le_refl _) _).grown hgrow (by simp) (by intro k hk; simp [Value.ownBlock] at hk; omega)
    have HO : Hid (insOwn w1 w.heap.size v' l) := hide (by unfold insOwn; simpa using hown)
    clear hown hgrow hnil
    go_wp2
    go_ret
    exact ⟨_, rfl, HO.out, HB⟩

theorem icells_set : ∀ (l : List Ins) (k : Nat) (x : Ins) (s : ByteArray), l[k]? = some x → icells (l.set k ⟨x.op, x.a, x.b, x.c, s⟩) = (icells l).set (k * 5 + 4) (.string s)
  | [], _, _, _, h => by simp at h
  | y :: l, 0, x, s, h => by
    obtain rfl : y = x := by simpa using h
    rfl
  | y :: l, k + 1, x, s, h => by
    have ih := icells_set l k x s (by simpa using h)
    rw [show (k + 1) * 5 + 4 = (k * 5 + 4) + 5 by omega]
    show icell y ++ icells (l.set k ⟨x.op, x.a, x.b, x.c, s⟩) = (icell y ++ icells l).set ((k * 5 + 4) + 5) (.string s)
    rw [ih]
    rfl
theorem insOwn_setTo {w : World} {base g cap n : Nat} {l : List Ins} (h : insOwn w base (.slice (some ⟨g, 0, none⟩) n cap) l) {k : Nat} {x : Ins} (hx : l[k]? = some x) (s : ByteArray) : insOwn (w.setCell ⟨g, k * 5 + 4, none⟩ (.string s)) base (.slice (some ⟨g, 0, none⟩) n cap) (l.set k ⟨x.op, x.a, x.b, x.c, s⟩) := by
  obtain ⟨h1, h2⟩ := h
  rcases h2 with ⟨e, -⟩ | ⟨g', cap', cur, e, hg, hh, hn, hm, hs, hc⟩
  · cases e
  · cases e
    refine ⟨by rw [icells_len, List.length_set], .inr ⟨g, cap, cur.setIfInBounds (k * 5 + 4) (.string s), by rw [List.length_set], hg, heap_setCell_same w g (k * 5 + 4) cur _ _ hh, by rw [List.length_set]; exact hn, hm, by simpa using hs, ?_⟩⟩
    rw [List.length_set, Array.toList_setIfInBounds, List.take_set, hc, icells_set l k x s hx]
theorem namedTo_set {q : ByteArray} {l : List Ins} {k : Nat} {x : Ins} (h : l[k]? = some x) (hx : lbOp x.op = true) : namedTo q l (k + 1) = (namedTo q l k).set k ⟨x.op, x.a, x.b, x.c, x.to ++ thDot ++ q⟩ := List.ext_getElem? fun i => by
  have hk : k < l.length := (List.getElem?_eq_some_iff.1 h).1
  by_cases e : i = k
  · subst e
    rw [List.getElem?_set_self (by unfold namedTo; rw [List.length_mapIdx]; exact hk), namedTo_get, h, Option.map_some, if_pos (Nat.lt_succ_self _)]
    unfold namedI
    rw [if_pos hx]
  · rw [List.getElem?_set_ne (Ne.symm e), namedTo_get, namedTo_get]
    have : (i < k + 1) = (i < k) := by simp only [eq_iff_iff]; omega
    simp only [this]
theorem namedTo_at {q : ByteArray} {l : List Ins} {k : Nat} {x : Ins} (h : l[k]? = some x) : (namedTo q l k)[k]? = some x := by
  rw [namedTo_get, h, Option.map_some, if_neg (Nat.lt_irrefl _)]
structure NOwn (q : ByteArray) (l : List Ins) (g c : Nat) (w0 : World) (k : Nat) (w : World) : Prop where
  own : insOwn w w0.heap.size (.slice (some ⟨g, 0, none⟩) l.length c) (namedTo q l k)
  fz : ∀ o, w.frozen? ⟨g, o, none⟩ = false
  low : Below w0.heap.size w0 w
  ge : w0.heap.size ≤ g
  lt : g < w.heap.size
theorem NOwn.below {q : ByteArray} {l : List Ins} {g c : Nat} {w0 w w' : World} {k : Nat} (h : NOwn q l g c w0 k w) (hb : Below w.heap.size w w') : NOwn q l g c w0 k w' :=
  ⟨insOwn_keep h.own hb, fun o => by rw [hb.frozen (show g < _ from h.lt)]; exact h.fz o, below_step h.low hb, h.ge, Nat.lt_of_lt_of_le h.lt hb.size⟩
theorem NOwn.skip {q : ByteArray} {l : List Ins} {g c : Nat} {w0 w : World} {k : Nat} {x : Ins} (h : NOwn q l g c w0 k w) (hx : l[k]? = some x) (hn : lbOp x.op = false) : NOwn q l g c w0 (k + 1) w := ⟨by rw [namedTo_skip hx hn]; exact h.own, h.fz, h.low, h.ge, h.lt⟩
theorem NOwn.put {q : ByteArray} {l : List Ins} {g c : Nat} {w0 w : World} {k : Nat} {x : Ins} (h : NOwn q l g c w0 k w) (hx : l[k]? = some x) (hn : lbOp x.op = true) : NOwn q l g c w0 (k + 1) (w.setCell ⟨g, k * 5 + 4, none⟩ (.string (x.to ++ thDot ++ q))) :=
  ⟨by rw [namedTo_set hx hn]; exact insOwn_setTo h.own (namedTo_at hx) _, fun o => by rw [World.frozen?_setCell]; exact h.fz o, h.low.setCell h.ge _, h.ge, by simpa [World.setCell] using h.lt⟩
theorem NOwn.to {q : ByteArray} {l : List Ins} {g c : Nat} {w0 w : World} {k : Nat} {x : Ins} (h : NOwn q l g c w0 k w) (hx : l[k]? = some x) : w.cell? ⟨g, k * 5 + 4, none⟩ = some (.string x.to) := by
  have hlen : (namedTo q l k).length = l.length := by unfold namedTo; rw [List.length_mapIdx]
  have hk : 0 < (namedTo q l k).length := by rw [hlen]; have := (List.getElem?_eq_some_iff.1 hx).1; omega
  obtain ⟨ad, cap, e, hi⟩ := insOwn_open h.own hk
  rw [hlen] at e
  cases e
  obtain ⟨b, off, e, -, -, -, -, c4⟩ := hi k x (namedTo_at hx)
  cases e
  rw [Nat.zero_add] at c4
  exact c4

open Classical in
set_option maxRecDepth 20000 in
set_option maxHeartbeats 2000000 in
theorem namedG_pos {q : ByteArray} {x0 : Addr} {l : List Ins} {cap b0 : Nat} {w0 : World} (h : insOwn w0 b0 (.slice (some x0) l.length cap) l) (hl : l.length ≤ 2000) (h0 : 0 < l.length) (hn : ∀ x ∈ l, lbOp x.op = true → isName (x.to ++ thDot ++ q)) :
    Calls Tryz.prog 133 #[.string q, .slice (some x0) l.length cap] w0 fun e w' => ∃ v', e = .returned (.tuple #[v', .nilIface]) ∧ insOwn w' w0.heap.size v' (l.map (namedI q)) ∧ Below w0.heap.size w0 w' := by
  have HCL := hide (cloneG_any h hl)
  have HH : Hid (insAt (some x0) l w0) := hide (by
    obtain ⟨ad, cap', e, hi⟩ := insOwn_open h h0
    cases e
    exact hi)
  have HN := hide hn
  have HL := hide (fun op w => hasLabel_any op w)
  have HI := hide (fun (s : ByteArray) (hs : isName s) w => show Calls Tryz.prog 128 #[.string s] w fun e w' => e = .returned (.bool true) ∧ Below w.heap.size w w' from (pisName_any s w).mono fun _ _ ⟨h1, h2⟩ => ⟨by rw [h1, decide_eq_true hs], h2⟩)
  have HAL := hide (namedTo_all q l)
  have HZ := hide (namedTo_zero q l)
  obtain ⟨n, hln⟩ : ∃ n, Hid (l.length = n) := ⟨_, hide rfl⟩
  rw [hln.out] at HCL HAL hl h0 ⊢
  clear h hn
  go_enter Tryz.func133, Tryz.ntmps133
  go_wp2_with fail
  refine HCL.out.mono ?_
  rintro e w1 ⟨v, rfl, hv, hb1⟩
  obtain ⟨g, c, hge, hve, hat, hfz, hlt, hcl⟩ := insOwn_deep hv (by rw [hln.out]; exact h0)
  have hv2 := hv
  rw [hve] at hv2
  have HV2 := hide hv2
  clear hv2
  rw [hln.out] at hcl hve
  subst hve
  have H0 : Hid (NOwn q l g c w0 0 w1) := hide ⟨by rw [HZ.out]; exact HV2.out, hfz, hb1, hge, hlt⟩
  clear hv hat hfz hb1 hge hlt HCL HV2
  go_wp2_with fail
  go_loopw [7, 8, 9, 14] (fun _ _ _ i wr => ∃ k : Nat, k ≤ n ∧ i = .int .i64 k ∧ Hid (NOwn q l g c w0 k wr)) (fun _ _ _ i _ => n - (intOf i).toNat)
  case atStart => exact ⟨0, Nat.zero_le _, rfl, H0⟩
  case round =>
    clear H0
    obtain ⟨k, hk, rfl, HR⟩ := hrel
    by_cases hlt : k < n
    · have ki : (k : Int) < n := by omega
      obtain ⟨x, hx⟩ : ∃ x, l[k]? = some x := ⟨_, List.getElem?_eq_getElem (by rw [hln.out]; exact hlt)⟩
      obtain ⟨b, off, e0, c0, c1, c2, c3, c4⟩ := insAt_below HH.out HR.out.low k x hx
      cases e0
      have HLx := hide (HL.out x.op)
      cases hlb : lbOp x.op
      · rw [hlb] at HLx
        have HST := hide (fun w (h : NOwn q l g c w0 k w) => h.skip hx hlb)
        clear hx hlb
        go_wp2_with fail
        refine (HLx.out _).mono ?_
        rintro e w2 ⟨rfl, hb2⟩
        have HR2 := hide (HST.out _ ((HR.out.below ((Below.refl _ _).alloc (Nat.le_refl _) _)).below hb2))
        clear HST HR hb2 HLx
        go_wp2_with fail
        go_roundw
        case rel => exact ⟨k + 1, by omega, by go_num, HR2⟩
        case measure => simp [intOf]; omega
      · rw [hlb] at HLx
        have HST := hide (fun w (h : NOwn q l g c w0 k w) => h.put hx hlb)
        have HTO := hide (fun w (h : NOwn q l g c w0 k w) => h.to hx)
        have hnm := HN.out x (List.mem_of_getElem? hx) hlb
        have HIx := hide (HI.out _ hnm)
        have hz := hnm.2.1
        rw [ByteArray.size_append, ByteArray.size_append] at hz
        have hz1 : thDot.size = 1 := rfl
        have hz2 : x.to.size + 1 ≤ 9223372036854775807 := by omega
        have hz3 : (x.to ++ (⟨#[46]⟩ : ByteArray)).size + q.size ≤ 9223372036854775807 := by rw [ByteArray.size_append]; show x.to.size + 1 + q.size ≤ _; omega
        clear hx hlb hnm hz hz1
        go_wp2_with fail
        refine (HLx.out _).mono ?_
        rintro e w2 ⟨rfl, hb2⟩
        have HR2 := hide ((HR.out.below ((Below.refl _ _).alloc (Nat.le_refl _) _)).below hb2)
        have k4 : w2.cell? ⟨wr.heap.size, 4, none⟩ = some (.string x.to) := keep_cell hb2 (by rw [World.cell?_alloc_new]; rfl)
        clear HR hb2 HLx
        go_wp2_with fail
        refine (HIx.out _).mono ?_
        rintro e w3 ⟨rfl, hb3⟩
        have HR3 := hide (HR2.out.below hb3)
        have d4 := HTO.out _ HR3.out
        have z4 := HR3.out.fz (k * 5 + 4)
        have HR4 := hide (HST.out _ HR3.out)
        clear HR2 hb3 HIx k4 HR3 HST HTO
        go_wp2_with fail
        go_roundw
        case rel => exact ⟨k + 1, by omega, by go_num, HR4⟩
        case measure => simp [intOf]; omega
    · obtain rfl : k = n := by omega
      have HF : Hid (insOwn wr w0.heap.size (.slice (some ⟨g, 0, none⟩) k c) (l.map (namedI q)) ∧ Below w0.heap.size w0 wr) := hide ⟨by have := HR.out.own; rw [HAL.out, hln.out] at this; exact this, HR.out.low⟩
      clear HR
      go_wp2_with fail
      go_ret2
      exact ⟨_, rfl, HF.out.1, HF.out.2⟩

set_option maxRecDepth 20000 in
theorem namedG_nil {q : ByteArray} {v : Value} {b0 : Nat} {w0 : World} (h : insOwn w0 b0 v []) :
    Calls Tryz.prog 133 #[.string q, v] w0 fun e w' => ∃ v', e = .returned (.tuple #[v', .nilIface]) ∧ insOwn w' w0.heap.size v' [] ∧ Below w0.heap.size w0 w' := by
  have HCL := hide (cloneG_any h (Nat.zero_le _))
  obtain ⟨x, c, rfl, -⟩ := ownsRow_shape h
  clear h
  go_enter Tryz.func133, Tryz.ntmps133
  go_wp2_with fail
  refine HCL.out.mono ?_
  rintro e w1 ⟨v, rfl, hv, hb1⟩
  have HV := hide (And.intro hv hb1)
  obtain ⟨x2, c2, rfl, -⟩ := ownsRow_shape hv
  clear hv hb1 HCL
  go_wp2_with fail
  go_loopw [7, 8, 9, 14] (fun _ _ _ i wr => i = .int .i64 0 ∧ w1 = wr) (fun _ _ _ i _ => 1 - (intOf i).toNat)
  case atStart => exact ⟨rfl, (by first | rfl | trivial)⟩
  case round =>
    obtain ⟨rfl, rfl⟩ := hrel
    go_wp2_with fail
    go_ret2
    exact ⟨_, rfl, HV.out.1, HV.out.2⟩
theorem namedG_any {q : ByteArray} {v : Value} {l : List Ins} {b0 : Nat} {w0 : World} (h : insOwn w0 b0 v l) (hl : l.length ≤ 2000) (hn : ∀ x ∈ l, lbOp x.op = true → isName (x.to ++ thDot ++ q)) :
    Calls Tryz.prog 133 #[.string q, v] w0 fun e w' => ∃ v', e = .returned (.tuple #[v', .nilIface]) ∧ insOwn w' w0.heap.size v' (l.map (namedI q)) ∧ Below w0.heap.size w0 w' := by
  by_cases h0 : 0 < l.length
  · obtain ⟨ad, cap, rfl, -⟩ := insOwn_open h h0
    exact namedG_pos h hl h0 hn
  · obtain rfl : l = [] := List.length_eq_zero_iff.1 (by omega)
    exact namedG_nil h
end Go.Proofs.YtaiigfcfmcicjaaGreatDoor
