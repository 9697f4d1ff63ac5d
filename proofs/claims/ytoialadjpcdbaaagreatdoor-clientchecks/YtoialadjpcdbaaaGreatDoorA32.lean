import Derived.Test.YtoialadjpcdbaaaGreatDoorA23
import Derived.Lib.AppendZerosOnto
import Derived.Laws.AppendOwnNone
import Derived.Test.YtoialadjpcdbaaaGreatDoorA31

/- ThA -/
namespace Go.Proofs.YtoialadjpcdbaaaGreatDoor
open Go.RowKit Go.Extern.Stop Go.Stop Go.Extern Go.Maps Go.WideMaps Go.Sort

set_option maxRecDepth 100000 in
set_option maxHeartbeats 4000000 in
theorem growI_nil {n : Nat} (h0 : 0 < n) (hn : n ≤ 2000) (w : World) :
    Calls Tryz.prog 114 #[.slice none 0 0, .int .i64 n] w fun e w' => ∃ v, e = .returned v ∧ insOwn w' w.heap.size v [] ∧ Below w.heap.size w w' := by
  obtain ⟨ri, hri, hrz, hrs, hrb⟩ := instrInfo
  have h1 : ¬ ((n : Int) < 0) := by omega
  have h3 : IntKind.i64.wrap ((n : Int) - 0) = (n : Int) := by rw [IntKind.wrap_i64]; omega
  have h4 : 0 < (n : Int) := by omega
  have hold : (Builtin.firstCells ri.size 0 (.slice none 0 0)).run Tryz.prog w.drew = .ok (([] : List Value).toArray) w.drew := run_firstCells_none w.drew ri.size 0 0 0
  have hrz' : ∀ ty, (Builtin.append_ #[53, 3] ty #[.slice none 0 0, .int .i64 (n : Int)]).run Tryz.prog w =
      .ok (.slice (some ⟨w.heap.size, 0, none⟩) n (grownCap w n 0 113)) (w.drew.alloc (.cells (([] : List Value).toArray ++ Builtin.zeroCells (Value.agg #[.string ⟨#[]⟩, .int .i64 0, .int .i64 0, .int .i64 0, .string ⟨#[]⟩]).cells n ++ Builtin.zeroCells (Value.agg #[.string ⟨#[]⟩, .int .i64 0, .int .i64 0, .int .i64 0, .string ⟨#[]⟩]).cells (grownCap w n 0 113 - n)) 113)) := fun ty => by
    have h := Lib.run_append_grow_zeros w 53 3 ty 113 ri _ .i64 .i64 Tryz.underlying53 Tryz.underlying3 hri hrz none 0 0 [] hold n (by omega) (by rw [hrs]; decide) (by omega) (by omega)
      (by rw [hrb]; omega)
      (by rw [Nat.zero_add]; exact growslice_fits (by omega) (by rw [hrb]; omega))
    simpa using h
  have hG := grownCap_ge w n 0 113
  have hGm : grownCap w n 0 113 ≤ maxLen := grownCap_le_maxLen w n 0 113 (by unfold maxLen; omega)
  generalize grownCap w n 0 113 = G at *
  obtain ⟨C, hC, hCs⟩ : ∃ C : Array Value, (([] : List Value).toArray ++ Builtin.zeroCells (Value.agg #[.string ⟨#[]⟩, .int .i64 0, .int .i64 0, .int .i64 0, .string ⟨#[]⟩]).cells n ++ Builtin.zeroCells (Value.agg #[.string ⟨#[]⟩, .int .i64 0, .int .i64 0, .int .i64 0, .string ⟨#[]⟩]).cells (G - n)) = C ∧ C.size = G * 5 := ⟨_, rfl, by
    simp only [Array.size_append, List.size_toArray, size_zeroCells]
    show 0 + n * 5 + (G - n) * 5 = G * 5
    omega⟩
  simp only [hC] at hrz'
  have hO : Hid (insOwn (w.drew.alloc (.cells C 113)) w.heap.size (.slice (some ⟨w.heap.size, 0, none⟩) 0 G) []) := hide ⟨rfl, .inr ⟨w.heap.size, G, C, rfl, Nat.le_refl _, (by show (w.heap.push _)[w.heap.size]? = _; simp), Nat.zero_le _, hGm, hCs, by simp [icells]⟩⟩
  have hB : Below w.heap.size w (w.drew.alloc (.cells C 113)) := (Below.refl _ _).drew.alloc (Nat.le_refl _) _
  clear hC hCs
  have hG63 : G ≤ 9223372036854775807 := by unfold maxLen at hGm; omega
  clear hold hri hrz hrs hrb
  go_enter Tryz.func114, Tryz.ntmps114
  go_wp2_with (at_builtin; refine Lib.wpList_append_run _ rfl _ _ _ _ rfl _ _ rfl rfl _ _ (hrz' _) ?_)
  all_goals (go_ret; exact ⟨_, rfl, hO.out, hB⟩)

def partsAt (ad : Option Addr) (l : List (List Ins)) (w : World) : Prop := ∀ (t : Nat) L, l[t]? = some L → ∃ b off u, ad = some ⟨b, off, none⟩ ∧ w.cell? ⟨b, off + t, none⟩ = some u ∧ ((u = .slice none 0 0 ∧ L = []) ∨ ∃ x c, u = .slice (some x) L.length c ∧ 0 < L.length ∧ insAt (some x) L w)
theorem partsAt.below {ad : Option Addr} {l : List (List Ins)} {w w' : World} (h : partsAt ad l w) (hb : Below w.heap.size w w') : partsAt ad l w' := fun t L ht => by
  obtain ⟨b, off, u, h1, h2, h3⟩ := h t L ht
  refine ⟨b, off, u, h1, keep_cell hb h2, h3.imp id ?_⟩
  rintro ⟨x, c, e1, e2, e3⟩
  exact ⟨x, c, e1, e2, insAt_below e3 hb⟩
def flatTo (l : List (List Ins)) (k : Nat) : List Ins := (l.take k).flatten
theorem flatTo_succ {l : List (List Ins)} {k : Nat} {L : List Ins} (h : l[k]? = some L) : flatTo l (k + 1) = flatTo l k ++ L := by
  unfold flatTo
  rw [List.take_add_one, h, List.flatten_append]
  simp
theorem flatTo_le (l : List (List Ins)) : ∀ k : Nat, (flatTo l k).length ≤ l.flatten.length := fun k => by
  have : l.flatten = (l.take k).flatten ++ (l.drop k).flatten := by rw [← List.flatten_append, List.take_append_drop]
  rw [this, List.length_append]
  exact Nat.le_add_right _ _
theorem flatTo_all (l : List (List Ins)) : flatTo l l.length = l.flatten := by
  unfold flatTo
  rw [List.take_length]

def lbOp (op : ByteArray) : Bool := hasTo ((shape op.toList).getD [])
set_option maxRecDepth 20000 in
theorem hasLabel_any (op : ByteArray) (w : World) : Calls Tryz.prog 131 #[.string op] w fun e w' => e = .returned (.bool (lbOp op)) ∧ Below w.heap.size w w' := by
  have HK : Hid (∀ w, Calls Tryz.prog 133 #[.string op] w fun e w' => ∃ a b c d, e = .returned (.tuple #[.agg #[.int .i64 a, .int .i64 b, .int .i64 c, .bool (lbOp op)], .bool d]) ∧ Below w.heap.size w w') := hide fun w => (kindOf_any op w).mono fun e w' ⟨h1, h2⟩ => by
    subst h1
    unfold lbOp
    cases shape op.toList with
    | none => exact ⟨_, _, _, _, rfl, h2⟩
    | some S => exact ⟨_, _, _, _, rfl, h2⟩
  generalize lbOp op = B at *
  go_enter Tryz.func131, Tryz.ntmps131
  go_wp2_with fail
  refine (HK.out _).mono ?_
  rintro e w1 ⟨a, b, c, d, rfl, hb⟩
  go_wp2_with fail
  go_ret
  exact ⟨rfl, hb.alloc hb.size _⟩

def thDot : ByteArray := ⟨#[46]⟩
def namedI (q : ByteArray) (x : Ins) : Ins := if lbOp x.op = true then ⟨x.op, x.a, x.b, x.c, x.to ++ thDot ++ q⟩ else x
def namedTo (q : ByteArray) (l : List Ins) (k : Nat) : List Ins := l.mapIdx fun i x => if i < k then namedI q x else x
theorem namedTo_get (q : ByteArray) (l : List Ins) (k i : Nat) : (namedTo q l k)[i]? = l[i]?.map fun x => if i < k then namedI q x else x := by
  unfold namedTo
  rw [List.getElem?_mapIdx]
theorem namedTo_zero (q : ByteArray) (l : List Ins) : namedTo q l 0 = l := List.ext_getElem? fun i => by
  rw [namedTo_get]
  cases l[i]? <;> simp
theorem namedTo_all (q : ByteArray) (l : List Ins) : namedTo q l l.length = l.map (namedI q) := List.ext_getElem? fun i => by
  rw [namedTo_get, List.getElem?_map]
  by_cases h : i < l.length
  · simp only [if_pos h]
  · rw [List.getElem?_eq_none (by omega)]; rfl
theorem namedTo_skip {q : ByteArray} {l : List Ins} {k : Nat} {x : Ins} (h : l[k]? = some x) (hn : lbOp x.op = false) : namedTo q l (k + 1) = namedTo q l k := List.ext_getElem? fun i => by
  rw [namedTo_get, namedTo_get]
  by_cases e : i = k
  · subst e
    rw [h]
    have : namedI q x = x := by unfold namedI; rw [hn]; rfl
    simp [this]
  · have : (i < k + 1) = (i < k) := by simp only [eq_iff_iff]; omega
    simp only [this]
theorem namedTo_put {q : ByteArray} {l : List Ins} {k : Nat} {x : Ins} (h : l[k]? = some x) (hx : lbOp x.op = true) {g : Nat} {w : World} (hA : insAt (some ⟨g, 0, none⟩) (namedTo q l k) w) :
    insAt (some ⟨g, 0, none⟩) (namedTo q l (k + 1)) (w.setCell ⟨g, k * 5 + 4, none⟩ (.string (x.to ++ thDot ++ q))) := fun i y hy => by
  rw [namedTo_get] at hy
  by_cases e : i = k
  · subst e
    rw [h, Option.map_some, if_pos (Nat.lt_succ_self _)] at hy
    have e2 : namedI q x = ⟨x.op, x.a, x.b, x.c, x.to ++ thDot ++ q⟩ := by unfold namedI; rw [if_pos hx]
    rw [e2] at hy
    obtain rfl := Option.some.inj hy
    have h1 : (namedTo q l i)[i]? = some x := by rw [namedTo_get, h, Option.map_some, if_neg (Nat.lt_irrefl _)]
    obtain ⟨b, off, e3, c0, c1, c2, c3, c4⟩ := hA i x h1
    cases e3
    simp only [Nat.zero_add] at c0 c1 c2 c3 c4
    refine ⟨g, 0, rfl, ?_, ?_, ?_, ?_, ?_⟩ <;> simp only [Nat.zero_add]
    · exact cell_ne c0 (.inr (by omega))
    · exact cell_ne c1 (.inr (by omega))
    · exact cell_ne c2 (.inr (by omega))
    · exact cell_ne c3 (.inr (by omega))
    · exact World.cell?_setCell_same _ _ _ c4
  · have h1 : (namedTo q l k)[i]? = some y := by
      rw [namedTo_get, ← hy]
      have : (i < k + 1) = (i < k) := by simp only [eq_iff_iff]; omega
      simp only [this]
    obtain ⟨b, off, e3, c0, c1, c2, c3, c4⟩ := hA i y h1
    cases e3
    simp only [Nat.zero_add] at c0 c1 c2 c3 c4
    refine ⟨g, 0, rfl, ?_, ?_, ?_, ?_, ?_⟩ <;> simp only [Nat.zero_add]
    · exact cell_ne c0 (.inr (by omega))
    · exact cell_ne c1 (.inr (by omega))
    · exact cell_ne c2 (.inr (by omega))
    · exact cell_ne c3 (.inr (by omega))
    · exact cell_ne c4 (.inr (by omega))
structure NAt (q : ByteArray) (l : List Ins) (g : Nat) (w0 : World) (k : Nat) (w : World) : Prop where
  at' : insAt (some ⟨g, 0, none⟩) (namedTo q l k) w
  fz : ∀ o, w.frozen? ⟨g, o, none⟩ = false
  low : Below w0.heap.size w0 w
  ge : w0.heap.size ≤ g
  lt : g < w.heap.size
theorem NAt.below {q : ByteArray} {l : List Ins} {g : Nat} {w0 w w' : World} {k : Nat} (h : NAt q l g w0 k w) (hb : Below w.heap.size w w') : NAt q l g w0 k w' :=
  ⟨insAt_below h.at' hb, fun o => by rw [hb.frozen (show g < _ from h.lt)]; exact h.fz o, below_step h.low hb, h.ge, Nat.lt_of_lt_of_le h.lt hb.size⟩
theorem NAt.skip {q : ByteArray} {l : List Ins} {g : Nat} {w0 w : World} {k : Nat} {x : Ins} (h : NAt q l g w0 k w) (hx : l[k]? = some x) (hn : lbOp x.op = false) : NAt q l g w0 (k + 1) w := ⟨by rw [namedTo_skip hx hn]; exact h.at', h.fz, h.low, h.ge, h.lt⟩
theorem NAt.put {q : ByteArray} {l : List Ins} {g : Nat} {w0 w : World} {k : Nat} {x : Ins} (h : NAt q l g w0 k w) (hx : l[k]? = some x) (hn : lbOp x.op = true) : NAt q l g w0 (k + 1) (w.setCell ⟨g, k * 5 + 4, none⟩ (.string (x.to ++ thDot ++ q))) :=
  ⟨namedTo_put hx hn h.at', fun o => by rw [World.frozen?_setCell]; exact h.fz o, h.low.setCell h.ge _, h.ge, by simpa [World.setCell] using h.lt⟩
theorem NAt.to {q : ByteArray} {l : List Ins} {g : Nat} {w0 w : World} {k : Nat} {x : Ins} (h : NAt q l g w0 k w) (hx : l[k]? = some x) : w.cell? ⟨g, k * 5 + 4, none⟩ = some (.string x.to) := by
  obtain ⟨b, off, e, -, -, -, -, c4⟩ := h.at' k x (by rw [namedTo_get, hx, Option.map_some, if_neg (Nat.lt_irrefl _)])
  cases e
  rw [Nat.zero_add] at c4
  exact c4
theorem insOwn_deep {w : World} {base : Nat} {v : Value} {l : List Ins} (h : insOwn w base v l) (h0 : 0 < l.length) : ∃ g cap, base ≤ g ∧ v = .slice (some ⟨g, 0, none⟩) l.length cap ∧ insAt (some ⟨g, 0, none⟩) l w ∧ (∀ o, w.frozen? ⟨g, o, none⟩ = false) ∧ g < w.heap.size ∧ l.length ≤ cap := by
  have h' := h
  rcases h with ⟨hlen, ⟨rfl, e⟩ | ⟨g, cap, cur, rfl, hb, hg, h1, h2, h3, h4⟩⟩
  · omega
  · obtain ⟨ad, cap', e, hi⟩ := insOwn_open h' h0
    cases e
    exact ⟨g, cap, hb, rfl, hi, fun o => frozen_of_row _ _ _ _ _ hg, (Array.getElem?_eq_some_iff.1 hg).1, h1⟩

end Go.Proofs.YtoialadjpcdbaaaGreatDoor

/- ThG -/
namespace Go.Proofs.YtoialadjpcdbaaaGreatDoor
open Go.RowKit Go.Extern.Stop Go.Stop Go.Extern Go.Maps Go.WideMaps Go.Sort

def partsOwn (ad : Option Addr) (l : List (List Ins)) (w : World) : Prop := ∀ (t : Nat) L, l[t]? = some L → ∃ b off u, ad = some ⟨b, off, none⟩ ∧ w.cell? ⟨b, off + t, none⟩ = some u ∧ ∃ b2, insOwn w b2 u L
theorem partsOwn.below {ad : Option Addr} {l : List (List Ins)} {w w' : World} (h : partsOwn ad l w) (hb : Below w.heap.size w w') : partsOwn ad l w' := fun t L ht => by
  obtain ⟨b, off, u, h1, h2, b2, h3⟩ := h t L ht
  exact ⟨b, off, u, h1, keep_cell hb h2, b2, insOwn_keep h3 hb⟩

set_option maxRecDepth 20000 in
set_option maxHeartbeats 2000000 in
theorem concatG_any {ad : Option Addr} {l : List (List Ins)} {cap : Nat} {w : World} (h : partsOwn ad l w) (hk : l.length ≤ 1000) (hl : l.flatten.length ≤ 2000) (h0 : 0 < l.flatten.length) :
    Calls Tryz.prog 80 #[.slice ad l.length cap] w fun e w' => ∃ v, e = .returned v ∧ insOwn w' w.heap.size v l.flatten ∧ Below w.heap.size w w' := by
  have HH := hide h
  have HG := hide (fun w => growI_nil h0 hl w)
  have HFL := hide (flatTo_le l)
  have HFA := hide (flatTo_all l)
  have HNN := hide (rfl : l.length = l.length)
  obtain ⟨n, hn⟩ : ∃ n, Hid (l.length = n) := ⟨_, hide rfl⟩
  obtain ⟨N, hN⟩ : ∃ N, Hid (l.flatten.length = N) := ⟨_, hide rfl⟩
  rw [hn.out] at hk ⊢
  rw [hN.out] at hl h0 HG
  clear h
  go_enter Tryz.func80, Tryz.ntmps80
  go_wp2_with fail
  go_loopw [3, 5, 11] (fun s _ i wr => ∃ k : Nat, k ≤ n ∧ i = .int .i64 k ∧ s = .int .i64 ((flatTo l k).length) ∧ w = wr) (fun _ _ i _ => n - (intOf i).toNat)
  case atStart => exact ⟨0, Nat.zero_le _, rfl, rfl, (by first | rfl | trivial)⟩
  case round =>
    obtain ⟨k, hk', rfl, rfl, rfl⟩ := hrel
    by_cases hlt : k < n
    · have ki : (k : Int) < n := by omega
      obtain ⟨L, hL⟩ : ∃ L, l[k]? = some L := ⟨_, List.getElem?_eq_getElem (by rw [hn.out]; exact hlt)⟩
      obtain ⟨b, off, u, rfl, c0, b2, hu⟩ := HH.out k L hL
      have hs := congrArg List.length (flatTo_succ hL)
      rw [List.length_append] at hs
      have hle := HFL.out (k + 1)
      rw [hN.out] at hle
      obtain ⟨x, c, rfl⟩ : ∃ x c, u = .slice x L.length c := by
        obtain ⟨x, c, e, -⟩ := ownsRow_shape hu
        exact ⟨x, c, e⟩
      have HS : Hid ((flatTo l (k + 1)).length = (flatTo l k).length + L.length) := hide hs
      have q1 : ¬ (((flatTo l k).length : Int) + (L.length : Int) < 0) := by omega
      rw [hs] at hle
      clear hu hL hs
      generalize (flatTo l k).length = f at *
      generalize L.length = m at *
      have wr1 : IntKind.i64.wrap ((f : Int) + (m : Int)) = (f : Int) + (m : Int) := by rw [IntKind.wrap_i64]; omega
      go_wp2_with fail
      go_roundw
      case rel => exact ⟨k + 1, by omega, by go_num, by rw [HS.out]; go_num, (by first | rfl | trivial)⟩
      case measure => simp [intOf]; omega
    · obtain rfl : k = n := by omega
      have e1 : flatTo l k = l.flatten := by rw [← hn.out]; exact HFA.out
      rw [e1, hN.out]
      go_wp2_with fail
      refine (HG.out _).mono ?_
      rintro e w1 ⟨v, rfl, hv, hb1⟩
      have HV : Hid (∃ v', insOwn w1 w.heap.size v' [] ∧ v' = v) := hide ⟨v, hv, rfl⟩
      have HB1 := hide hb1
      have HW0 : Hid (insOwn w1 w.heap.size v (flatTo l 0) ∧ Below w.heap.size w w1) := hide ⟨hv, hb1⟩
      clear hv hb1 HV HB1
      go_wp2_with fail
      go_loopw [6, 8, 27] (fun v _ i wr => ∃ j : Nat, j ≤ k ∧ i = .int .i64 j ∧ Hid (insOwn wr w.heap.size v (flatTo l j) ∧ Below w.heap.size w wr)) (fun _ _ i _ => k - (intOf i).toNat)
      case atStart => exact ⟨0, Nat.zero_le _, rfl, HW0⟩
      case round =>
        clear HW0
        obtain ⟨j, hj, rfl, HR⟩ := hrel
        by_cases hlt2 : j < k
        · have ji : (j : Int) < k := by omega
          obtain ⟨L, hL⟩ : ∃ L, l[j]? = some L := ⟨_, List.getElem?_eq_getElem (by rw [hn.out]; exact hlt2)⟩
          obtain ⟨b, off, u, rfl, c0, b2, hu⟩ := HH.out.below HR.out.2 j L hL
          have HS := hide (flatTo_succ hL)
          have hle := HFL.out (j + 1)
          rw [hN.out, HS.out, List.length_append] at hle
          have HU := hide hu
          obtain ⟨x, c, rfl⟩ : ∃ x c, u = .slice x L.length c := by
            obtain ⟨x, c, e, -⟩ := ownsRow_shape hu
            exact ⟨x, c, e⟩
          clear hu hL
          go_wp2_with (at_builtin; refine wpList_append_insO _ rfl _ _ rfl w.heap.size b2 (flatTo l j) L _ _ rfl ?q1 rfl ?q2 ?q3 ?q4 ?_)
          case q1 => exact HR.out.1
          case q2 => exact HU.out
          case q3 => omega
          case q4 => exact HR.out.2.size
          intro v' w3 HO3 hb3
          have HR2 : Hid (insOwn w3 w.heap.size v' (flatTo l (j + 1)) ∧ Below w.heap.size w w3) := hide ⟨by rw [HS.out]; exact HO3, HR.out.2.trans hb3⟩
          clear HO3 hb3 HR HU
          go_wp2_with fail
          go_roundw
          case rel => exact ⟨j + 1, by omega, by go_num, HR2⟩
          case measure => simp [intOf]; omega
        · obtain rfl : j = k := by omega
          have HZ := hide (show insOwn wr w.heap.size u6 l.flatten ∧ Below w.heap.size w wr by rw [← e1]; exact HR.out)
          clear HR
          go_wp2_with fail
          go_ret
          exact ⟨_, rfl, HZ.out.1, HZ.out.2⟩

set_option maxRecDepth 20000 in
set_option maxHeartbeats 1000000 in
theorem cloneG_any {v : Value} {l : List Ins} {b2 : Nat} {w : World} (h : insOwn w b2 v l) (hl : l.length ≤ 2000) :
    Calls Tryz.prog 130 #[v] w fun e w' => ∃ v', e = .returned v' ∧ insOwn w' w.heap.size v' l ∧ Below w.heap.size w w' := by
  have q22 : ∀ (w : World) (a : Option Addr) (n c : Nat), (binOp .eql 53 (.slice a n c) (.slice none 0 0)).run Tryz.prog w = .ok (.bool a.isNone) w := fun w a n c => Go.run_eql_slice_nil w _ 113 a n c Tryz.underlying53
  have h' := h
  rcases h' with ⟨hlen, ⟨rfl, h0⟩ | ⟨g, cap, cur, rfl, hb, hg, h1, h2, h3, h4⟩⟩
  · obtain rfl := List.length_eq_zero_iff.1 h0
    clear h hlen h0 hl
    go_enter Tryz.func130, Tryz.ntmps130
    go_wp2
    go_ret
    exact ⟨_, rfl, insOwn_nil _ _, Below.refl _ _⟩
  · have HC : Hid (∀ (k : Nat) u, (icells l)[k]? = some u → w.cell? (Addr.add ⟨g, 0, none⟩ k) = some u) := fun k u hu => by
      have hk : k < l.length * 5 := by
        have := (List.getElem?_eq_some_iff.1 hu).1
        rwa [icells_len] at this
      rw [Addr.add_lit, Nat.zero_add]
      exact (World.ownsRow.cellAt h k hk).trans hu
    obtain ⟨ri, hri, hrz, hrs, hrb⟩ := instrInfo
    clear h hlen hb hg h1 h2 h3 h4
    go_enter Tryz.func130, Tryz.ntmps130
    go_wp2_with (at_builtin; refine wpList_append_own _ rfl _ _ 53 rfl w.heap.size 113 ri (.agg #[.string ⟨#[]⟩, .int .i64 0, .int .i64 0, .int .i64 0, .string ⟨#[]⟩]) 5 56 Tryz.underlying53 hri hrz hrs hrb rfl (by decide) _ _ _ rfl (World.ownsRow_made w #[] 0 (Nat.le_refl _) (Nat.zero_le _) rfl) ⟨g, 0, none⟩ l.length cap (icells l) rfl ?qc1 ?qc2 ?qc3 ?qc4 ?qc5 ?qc6 ?_)
    case qc1 => exact icells_len l
    case qc2 =>
      intro j u hj
      exact keep_cell ((Below.refl _ _).alloc (Nat.le_refl _) _) (HC.out j u hj)
    case qc3 => exact icells_one
    case qc4 => unfold maxLen; omega
    case qc5 => omega
    case qc6 => simp
    intro v' w1 hown hgrow hnil
    have HB : Below w.heap.size w w1 := ((Below.refl _ w).alloc (Nat.le_refl _) _).grown hgrow (by simp) (by intro k hk; simp [Value.ownBlock] at hk; omega)
    have HO : Hid (insOwn w1 w.heap.size v' l) := hide (by unfold insOwn; simpa using hown)
    clear hown hgrow hnil
    go_wp2
    go_ret
    exact ⟨_, rfl, HO.out, HB⟩

theorem icells_set : ∀ (l : List Ins) (k : Nat) (x : Ins) (s : ByteArray), l[k]? = some x → icells (l.set k ⟨x.op, x.a, x.b, x.c, s⟩) = (icells l).set (k * 5 + 4) (.string s)
  | [], _, _, _, h => by simp at h
  | y :: l, 0, x, s, h => by
    obtain rfl : y = x := by simpa using h
    rfl
  | y :: l, k + 1, x, s, h => by
    have ih := icells_set l k x s (by simpa using h)
    rw [show (k + 1) * 5 + 4 = (k * 5 + 4) + 5 by omega]
    show icell y ++ icells (l.set k ⟨x.op, x.a, x.b, x.c, s⟩) = (icell y ++ icells l).set ((k * 5 + 4) + 5) (.string s)
    rw [ih]
    rfl
theorem insOwn_setTo {w : World} {base g cap n : Nat} {l : List Ins} (h : insOwn w base (.slice (some ⟨g, 0, none⟩) n cap) l) {k : Nat} {x : Ins} (hx : l[k]? = some x) (s : ByteArray) : insOwn (w.setCell ⟨g, k * 5 + 4, none⟩ (.string s)) base (.slice (some ⟨g, 0, none⟩) n cap) (l.set k ⟨x.op, x.a, x.b, x.c, s⟩) := by
  obtain ⟨h1, h2⟩ := h
  rcases h2 with ⟨e, -⟩ | ⟨g', cap', cur, e, hg, hh, hn, hm, hs, hc⟩
  · cases e
  · cases e
    refine ⟨by rw [icells_len, List.length_set], .inr ⟨g, cap, cur.setIfInBounds (k * 5 + 4) (.string s), by rw [List.length_set], hg, heap_setCell_same w g (k * 5 + 4) cur _ _ hh, by rw [List.length_set]; exact hn, hm, by simpa using hs, ?_⟩⟩
    rw [List.length_set, Array.toList_setIfInBounds, List.take_set, hc, icells_set l k x s hx]
theorem namedTo_set {q : ByteArray} {l : List Ins} {k : Nat} {x : Ins} (h : l[k]? = some x) (hx : lbOp x.op = true) : namedTo q l (k + 1) = (namedTo q l k).set k ⟨x.op, x.a, x.b, x.c, x.to ++ thDot ++ q⟩ := List.ext_getElem? fun i => by
  have hk : k < l.length := (List.getElem?_eq_some_iff.1 h).1
  by_cases e : i = k
  · subst e
    rw [List.getElem?_set_self (by unfold namedTo; rw [List.length_mapIdx]; exact hk), namedTo_get, h, Option.map_some, if_pos (Nat.lt_succ_self _)]
    unfold namedI
    rw [if_pos hx]
  · rw [List.getElem?_set_ne (Ne.symm e), namedTo_get, namedTo_get]
    have : (i < k + 1) = (i < k) := by simp only [eq_iff_iff]; omega
    simp only [this]
theorem namedTo_at {q : ByteArray} {l : List Ins} {k : Nat} {x : Ins} (h : l[k]? = some x) : (namedTo q l k)[k]? = some x := by
  rw [namedTo_get, h, Option.map_some, if_neg (Nat.lt_irrefl _)]
structure NOwn (q : ByteArray) (l : List Ins) (g c : Nat) (w0 : World) (k : Nat) (w : World) : Prop where
  own : insOwn w w0.heap.size (.slice (some ⟨g, 0, none⟩) l.length c) (namedTo q l k)
  fz : ∀ o, w.frozen? ⟨g, o, none⟩ = false
  low : Below w0.heap.size w0 w
  ge : w0.heap.size ≤ g
  lt : g < w.heap.size
theorem NOwn.below {q : ByteArray} {l : List Ins} {g c : Nat} {w0 w w' : World} {k : Nat} (h : NOwn q l g c w0 k w) (hb : Below w.heap.size w w') : NOwn q l g c w0 k w' :=
  ⟨insOwn_keep h.own hb, fun o => by rw [hb.frozen (show g < _ from h.lt)]; exact h.fz o, below_step h.low hb, h.ge, Nat.lt_of_lt_of_le h.lt hb.size⟩
theorem NOwn.skip {q : ByteArray} {l : List Ins} {g c : Nat} {w0 w : World} {k : Nat} {x : Ins} (h : NOwn q l g c w0 k w) (hx : l[k]? = some x) (hn : lbOp x.op = false) : NOwn q l g c w0 (k + 1) w := ⟨by rw [namedTo_skip hx hn]; exact h.own, h.fz, h.low, h.ge, h.lt⟩
theorem NOwn.put {q : ByteArray} {l : List Ins} {g c : Nat} {w0 w : World} {k : Nat} {x : Ins} (h : NOwn q l g c w0 k w) (hx : l[k]? = some x) (hn : lbOp x.op = true) : NOwn q l g c w0 (k + 1) (w.setCell ⟨g, k * 5 + 4, none⟩ (.string (x.to ++ thDot ++ q))) :=
  ⟨by rw [namedTo_set hx hn]; exact insOwn_setTo h.own (namedTo_at hx) _, fun o => by rw [World.frozen?_setCell]; exact h.fz o, h.low.setCell h.ge _, h.ge, by simpa [World.setCell] using h.lt⟩
theorem NOwn.to {q : ByteArray} {l : List Ins} {g c : Nat} {w0 w : World} {k : Nat} {x : Ins} (h : NOwn q l g c w0 k w) (hx : l[k]? = some x) : w.cell? ⟨g, k * 5 + 4, none⟩ = some (.string x.to) := by
  have hlen : (namedTo q l k).length = l.length := by unfold namedTo; rw [List.length_mapIdx]
  have hk : 0 < (namedTo q l k).length := by rw [hlen]; have := (List.getElem?_eq_some_iff.1 hx).1; omega
  obtain ⟨ad, cap, e, hi⟩ := insOwn_open h.own hk
  rw [hlen] at e
  cases e
  obtain ⟨b, off, e, -, -, -, -, c4⟩ := hi k x (namedTo_at hx)
  cases e
  rw [Nat.zero_add] at c4
  exact c4

open Classical in
set_option maxRecDepth 20000 in
set_option maxHeartbeats 2000000 in
theorem namedG_pos {q : ByteArray} {x0 : Addr} {l : List Ins} {cap b0 : Nat} {w0 : World} (h : insOwn w0 b0 (.slice (some x0) l.length cap) l) (hl : l.length ≤ 2000) (h0 : 0 < l.length) (hn : ∀ x ∈ l, lbOp x.op = true → isName (x.to ++ thDot ++ q)) :
    Calls Tryz.prog 112 #[.string q, .slice (some x0) l.length cap] w0 fun e w' => ∃ v', e = .returned (.tuple #[v', .nilIface]) ∧ insOwn w' w0.heap.size v' (l.map (namedI q)) ∧ Below w0.heap.size w0 w' := by
  have HCL := hide (cloneG_any h hl)
  have HH : Hid (insAt (some x0) l w0) := hide (by
    obtain ⟨ad, cap', e, hi⟩ := insOwn_open h h0
    cases e
    exact hi)
  have HN := hide hn
  have HL := hide (fun op w => hasLabel_any op w)
  have HI := hide (fun (s : ByteArray) (hs : isName s) w => show Calls Tryz.prog 107 #[.string s] w fun e w' => e = .returned (.bool true) ∧ Below w.heap.size w w' from (pisName_any s w).mono fun _ _ ⟨h1, h2⟩ => ⟨by rw [h1, decide_eq_true hs], h2⟩)
  have HAL := hide (namedTo_all q l)
  have HZ := hide (namedTo_zero q l)
  obtain ⟨n, hln⟩ : ∃ n, Hid (l.length = n) := ⟨_, hide rfl⟩
  rw [hln.out] at HCL HAL hl h0 ⊢
  clear h hn
  go_enter Tryz.func112, Tryz.ntmps112
  go_wp2_with fail
  refine HCL.out.mono ?_
  rintro e w1 ⟨v, rfl, hv, hb1⟩
  obtain ⟨g, c, hge, hve, hat, hfz, hlt, hcl⟩ := insOwn_deep hv (by rw [hln.out]; exact h0)
  have hv2 := hv
  rw [hve] at hv2
  have HV2 := hide hv2
  clear hv2
  rw [hln.out] at hcl hve
  subst hve
  have H0 : Hid (NOwn q l g c w0 0 w1) := hide ⟨by rw [HZ.out]; exact HV2.out, hfz, hb1, hge, hlt⟩
  clear hv hat hfz hb1 hge hlt HCL HV2
  go_wp2_with fail
  go_loopw [7, 8, 9, 14] (fun _ _ _ i wr => ∃ k : Nat, k ≤ n ∧ i = .int .i64 k ∧ Hid (NOwn q l g c w0 k wr)) (fun _ _ _ i _ => n - (intOf i).toNat)
  case atStart => exact ⟨0, Nat.zero_le _, rfl, H0⟩
  case round =>
    clear H0
    obtain ⟨k, hk, rfl, HR⟩ := hrel
    by_cases hlt : k < n
    · have ki : (k : Int) < n := by omega
      obtain ⟨x, hx⟩ : ∃ x, l[k]? = some x := ⟨_, List.getElem?_eq_getElem (by rw [hln.out]; exact hlt)⟩
      obtain ⟨b, off, e0, c0, c1, c2, c3, c4⟩ := insAt_below HH.out HR.out.low k x hx
      cases e0
      have HLx := hide (HL.out x.op)
      cases hlb : lbOp x.op
      · rw [hlb] at HLx
        have HST := hide (fun w (h : NOwn q l g c w0 k w) => h.skip hx hlb)
        clear hx hlb
        go_wp2_with fail
        refine (HLx.out _).mono ?_
        rintro e w2 ⟨rfl, hb2⟩
        have HR2 := hide (HST.out _ ((HR.out.below ((Below.refl _ _).alloc (Nat.le_refl _) _)).below hb2))
        clear HST HR hb2 HLx
        go_wp2_with fail
        go_roundw
        case rel => exact ⟨k + 1, by omega, by go_num, HR2⟩
        case measure => simp [intOf]; omega
      · rw [hlb] at HLx
        have HST := hide (fun w (h : NOwn q l g c w0 k w) => h.put hx hlb)
        have HTO := hide (fun w (h : NOwn q l g c w0 k w) => h.to hx)
        have hnm := HN.out x (List.mem_of_getElem? hx) hlb
        have HIx := hide (HI.out _ hnm)
        have hz := hnm.2.1
        rw [ByteArray.size_append, ByteArray.size_append] at hz
        have hz1 : thDot.size = 1 := rfl
        have hz2 : x.to.size + 1 ≤ 9223372036854775807 := by omega
        have hz3 : (x.to ++ (⟨#[46]⟩ : ByteArray)).size + q.size ≤ 9223372036854775807 := by rw [ByteArray.size_append]; show x.to.size + 1 + q.size ≤ _; omega
        clear hx hlb hnm hz hz1
        go_wp2_with fail
        refine (HLx.out _).mono ?_
        rintro e w2 ⟨rfl, hb2⟩
        have HR2 := hide ((HR.out.below ((Below.refl _ _).alloc (Nat.le_refl _) _)).below hb2)
        have k4 : w2.cell? ⟨wr.heap.size, 4, none⟩ = some (.string x.to) := keep_cell hb2 (by rw [World.cell?_alloc_new]; rfl)
        clear HR hb2 HLx
        go_wp2_with fail
        refine (HIx.out _).mono ?_
        rintro e w3 ⟨rfl, hb3⟩
        have HR3 := hide (HR2.out.below hb3)
        have d4 := HTO.out _ HR3.out
        have z4 := HR3.out.fz (k * 5 + 4)
        have HR4 := hide (HST.out _ HR3.out)
        clear HR2 hb3 HIx k4 HR3 HST HTO
        go_wp2_with fail
        go_roundw
        case rel => exact ⟨k + 1, by omega, by go_num, HR4⟩
        case measure => simp [intOf]; omega
    · obtain rfl : k = n := by omega
      have HF : Hid (insOwn wr w0.heap.size (.slice (some ⟨g, 0, none⟩) k c) (l.map (namedI q)) ∧ Below w0.heap.size w0 wr) := hide ⟨by have := HR.out.own; rw [HAL.out, hln.out] at this; exact this, HR.out.low⟩
      clear HR
      go_wp2_with fail
      go_ret2
      exact ⟨_, rfl, HF.out.1, HF.out.2⟩

set_option maxRecDepth 20000 in
theorem namedG_nil {q : ByteArray} {v : Value} {b0 : Nat} {w0 : World} (h : insOwn w0 b0 v []) :
    Calls Tryz.prog 112 #[.string q, v] w0 fun e w' => ∃ v', e = .returned (.tuple #[v', .nilIface]) ∧ insOwn w' w0.heap.size v' [] ∧ Below w0.heap.size w0 w' := by
  have HCL := hide (cloneG_any h (Nat.zero_le _))
  obtain ⟨x, c, rfl, -⟩ := ownsRow_shape h
  clear h
  go_enter Tryz.func112, Tryz.ntmps112
  go_wp2_with fail
  refine HCL.out.mono ?_
  rintro e w1 ⟨v, rfl, hv, hb1⟩
  have HV := hide (And.intro hv hb1)
  obtain ⟨x2, c2, rfl, -⟩ := ownsRow_shape hv
  clear hv hb1 HCL
  go_wp2_with fail
  go_loopw [7, 8, 9, 14] (fun _ _ _ i wr => i = .int .i64 0 ∧ w1 = wr) (fun _ _ _ i _ => 1 - (intOf i).toNat)
  case atStart => exact ⟨rfl, (by first | rfl | trivial)⟩
  case round =>
    obtain ⟨rfl, rfl⟩ := hrel
    go_wp2_with fail
    go_ret2
    exact ⟨_, rfl, HV.out.1, HV.out.2⟩
theorem namedG_any {q : ByteArray} {v : Value} {l : List Ins} {b0 : Nat} {w0 : World} (h : insOwn w0 b0 v l) (hl : l.length ≤ 2000) (hn : ∀ x ∈ l, lbOp x.op = true → isName (x.to ++ thDot ++ q)) :
    Calls Tryz.prog 112 #[.string q, v] w0 fun e w' => ∃ v', e = .returned (.tuple #[v', .nilIface]) ∧ insOwn w' w0.heap.size v' (l.map (namedI q)) ∧ Below w0.heap.size w0 w' := by
  by_cases h0 : 0 < l.length
  · obtain ⟨ad, cap, rfl, -⟩ := insOwn_open h h0
    exact namedG_pos h hl h0 hn
  · obtain rfl : l = [] := List.length_eq_zero_iff.1 (by omega)
    exact namedG_nil h
end Go.Proofs.YtoialadjpcdbaaaGreatDoor

/- ThH -/
namespace Go.Proofs.YtoialadjpcdbaaaGreatDoor
open Go.RowKit Go.Extern.Stop Go.Stop Go.Extern Go.Maps Go.WideMaps Go.Sort

def thNo : ByteArray := ⟨#[]⟩
def thNone : ByteArray := ⟨#[110, 111, 110, 101]⟩
def thMore : ByteArray := ⟨#[109, 111, 114, 101]⟩
def oLabel : ByteArray := ⟨#[108, 97, 98, 101, 108]⟩
def oZero : ByteArray := ⟨#[122, 101, 114, 111]⟩
def oConst : ByteArray := ⟨#[99, 111, 110, 115, 116]⟩
def oStore : ByteArray := ⟨#[115, 116, 111, 114, 101]⟩
def oLoad : ByteArray := ⟨#[108, 111, 97, 100]⟩
def oMove : ByteArray := ⟨#[109, 111, 118, 101]⟩
def oAlloc : ByteArray := ⟨#[97, 108, 108, 111, 99]⟩
def oFree : ByteArray := ⟨#[102, 114, 101, 101]⟩
def oGoto : ByteArray := ⟨#[103, 111, 116, 111]⟩
def oSwap : ByteArray := ⟨#[115, 119, 97, 112]⟩
def oNeed : ByteArray := ⟨#[110, 101, 101, 100]⟩
def oMark : ByteArray := ⟨#[109, 97, 114, 107]⟩
def oStop : ByteArray := ⟨#[115, 116, 111, 112]⟩
def uls (r : Int) (l : List Ins) : List Ins := [⟨oZero, r, 0, 0, thNone⟩] ++ (l ++ [⟨oLabel, 0, 0, 0, thNone⟩])
def numC (n : Int) : List Ins := [⟨oConst, 0, n, 0, thNo⟩, ⟨oStore, 3, 0, 0, thNo⟩]
def newC (n : Int) (l : List Ins) : List Ins := [⟨oAlloc, 3, 0, 0, thNo⟩] ++ uls 3 (numC n ++ l)
def emptyC : List Ins := [⟨oLabel, 0, 0, 0, thMore⟩] ++ uls 4 [⟨oLoad, 0, 4, 1, thNo⟩, ⟨oFree, 4, 0, 0, thNo⟩, ⟨oMove, 4, 0, 0, thNo⟩, ⟨oGoto, 0, 0, 0, thMore⟩]
def keepC : List Ins := [⟨oStore, 3, 4, 1, thNo⟩, ⟨oMove, 4, 3, 0, thNo⟩]
def readC : List Ins := [⟨oLoad, 0, 5, 0, thNo⟩, ⟨oLoad, 0, 0, 0, thNo⟩, ⟨oNeed, 0, 0, 0, thNo⟩, ⟨oMark, 0, 0, 0, thNo⟩]
def putC (n : Int) : List Ins := newC n [⟨oSwap, 3, 5, 0, thNo⟩]

set_option maxRecDepth 20000 in
set_option maxHeartbeats 1000000 in
theorem tunless_ok (r : Int) {v : Value} {l : List Ins} {b2 : Nat} {w : World} (h : insOwn w b2 v l) (hl : l.length ≤ 1000) :
    Calls Tryz.prog 53 #[.int .i64 r, v] w fun e w' => ∃ v', e = .returned v' ∧ insOwn w' w.heap.size v' (uls r l) ∧ Below w.heap.size w w' := by
  obtain ⟨x, c, rfl, -⟩ := ownsRow_shape h
  have hB : ∀ A B C, Below w.heap.size w (((w.alloc A).alloc B).alloc C) := fun A B C => (((Below.refl _ _).alloc (Nat.le_refl _) _).alloc (by simp) _).alloc (by simp; omega) _
  have HP : Hid (partsOwn (some ⟨w.heap.size + 1 + 1, 0, none⟩) [[⟨oZero, r, 0, 0, thNone⟩], l, [⟨oLabel, 0, 0, 0, thNone⟩]] (((w.alloc (.cells #[.string oZero, .int .i64 r, .int .i64 0, .int .i64 0, .string thNone] 113)).alloc (.cells #[.string oLabel, .int .i64 0, .int .i64 0, .int .i64 0, .string thNone] 113)).alloc (.cells #[.slice (some ⟨w.heap.size, 0, none⟩) 1 1, .slice x l.length c, .slice (some ⟨w.heap.size + 1, 0, none⟩) 1 1] 53))) := hide (by
    intro t L ht
    have hc : ∀ j, (((w.alloc (.cells #[.string oZero, .int .i64 r, .int .i64 0, .int .i64 0, .string thNone] 113)).alloc (.cells #[.string oLabel, .int .i64 0, .int .i64 0, .int .i64 0, .string thNone] 113)).alloc (.cells #[.slice (some ⟨w.heap.size, 0, none⟩) 1 1, .slice x l.length c, .slice (some ⟨w.heap.size + 1, 0, none⟩) 1 1] 53)).cell? ⟨w.heap.size + 1 + 1, 0 + j, none⟩ = (#[.slice (some ⟨w.heap.size, 0, none⟩) 1 1, .slice x l.length c, .slice (some ⟨w.heap.size + 1, 0, none⟩) 1 1] : Array Value)[j]? := fun j => by
      rw [Nat.zero_add]
      have := World.cell?_alloc_new ((w.alloc (.cells #[.string oZero, .int .i64 r, .int .i64 0, .int .i64 0, .string thNone] 113)).alloc (.cells #[.string oLabel, .int .i64 0, .int .i64 0, .int .i64 0, .string thNone] 113)) #[.slice (some ⟨w.heap.size, 0, none⟩) 1 1, .slice x l.length c, .slice (some ⟨w.heap.size + 1, 0, none⟩) 1 1] 53 j
      rwa [World.size_alloc, World.size_alloc] at this
    match t, ht with
    | 0, ht =>
      cases ht
      refine ⟨_, 0, _, rfl, hc 0, 0, insOwn_keep (insOwn_keep (insOwn_new (l := [⟨oZero, r, 0, 0, thNone⟩]) rfl (Nat.zero_le _) (show 1 ≤ 1000 by decide)) ((Below.refl _ _).alloc (Nat.le_refl _) _)) ((Below.refl _ _).alloc (Nat.le_refl _) _)⟩
    | 1, ht =>
      cases ht
      exact ⟨_, 0, _, rfl, hc 1, b2, insOwn_keep h (hB _ _ _)⟩
    | 2, ht =>
      cases ht
      have h2 := insOwn_new (w := w.alloc (.cells #[.string oZero, .int .i64 r, .int .i64 0, .int .i64 0, .string thNone] 113)) (l := [⟨oLabel, 0, 0, 0, thNone⟩]) (cs := #[.string oLabel, .int .i64 0, .int .i64 0, .int .i64 0, .string thNone]) (base := 0) rfl (Nat.zero_le _) (show 1 ≤ 1000 by decide)
      rw [World.size_alloc] at h2
      exact ⟨_, 0, _, rfl, hc 2, 0, insOwn_keep h2 ((Below.refl _ _).alloc (Nat.le_refl _) _)⟩)
  have HC := hide (concatG_any (cap := 3) HP.out (show 3 ≤ 1000 by decide) (by simp; omega) (by simp))
  have HB := hide (hB (.cells #[.string oZero, .int .i64 r, .int .i64 0, .int .i64 0, .string thNone] 113) (.cells #[.string oLabel, .int .i64 0, .int .i64 0, .int .i64 0, .string thNone] 113) (.cells #[.slice (some ⟨w.heap.size, 0, none⟩) 1 1, .slice x l.length c, .slice (some ⟨w.heap.size + 1, 0, none⟩) 1 1] 53))
  have HE : Hid (([[⟨oZero, r, 0, 0, thNone⟩], l, [⟨oLabel, 0, 0, 0, thNone⟩]] : List (List Ins)).flatten = uls r l) := hide (by simp [uls])
  rw [HE.out] at HC
  clear hB HP h HE
  go_enter Tryz.func53, Tryz.ntmps53
  go_wp2_with fail
  refine HC.out.mono ?_
  rintro e w2 ⟨v, rfl, hv, hb⟩
  have HO := hide (insOwn_mono hv HB.out.size)
  have HB2 := hide (below_step HB.out hb)
  clear hv hb HB HC
  go_wp2_with fail
  go_ret
  exact ⟨_, rfl, HO.out, HB2.out⟩

set_option maxRecDepth 20000 in
set_option maxHeartbeats 1000000 in
theorem tnew_ok (n : Int) {v : Value} {l : List Ins} {b2 : Nat} {w : World} (h : insOwn w b2 v l) (h0 : 0 < l.length) (hl : l.length ≤ 900) :
    Calls Tryz.prog 96 #[.int .i64 n, v] w fun e w' => ∃ v', e = .returned v' ∧ insOwn w' w.heap.size v' (newC n l) ∧ Below w.heap.size w w' := by
  obtain ⟨x, c, rfl, hli⟩ := insOwn_open h h0
  have hB1 : Below w.heap.size w (w.alloc (.cells #[.string oConst, .int .i64 0, .int .i64 n, .int .i64 0, .string thNo, .string oStore, .int .i64 3, .int .i64 0, .int .i64 0, .string thNo] 113)) := (Below.refl _ _).alloc (Nat.le_refl _) _
  have hN := insOwn_new (w := w) (l := numC n) (cs := #[.string oConst, .int .i64 0, .int .i64 n, .int .i64 0, .string thNo, .string oStore, .int .i64 3, .int .i64 0, .int .i64 0, .string thNo]) (base := w.heap.size) rfl (Nat.le_refl _) (show 2 ≤ 1000 by decide)
  have hA := insOwn_new (w := w.alloc (.cells #[.string oConst, .int .i64 0, .int .i64 n, .int .i64 0, .string thNo, .string oStore, .int .i64 3, .int .i64 0, .int .i64 0, .string thNo] 113)) (l := [⟨oAlloc, 3, 0, 0, thNo⟩]) (cs := #[.string oAlloc, .int .i64 3, .int .i64 0, .int .i64 0, .string thNo]) (base := w.heap.size) rfl hB1.size (show 1 ≤ 1000 by decide)
  rw [World.size_alloc] at hA
  have hB2 : Below w.heap.size w ((w.alloc (.cells #[.string oConst, .int .i64 0, .int .i64 n, .int .i64 0, .string thNo, .string oStore, .int .i64 3, .int .i64 0, .int .i64 0, .string thNo] 113)).alloc (.cells #[.string oAlloc, .int .i64 3, .int .i64 0, .int .i64 0, .string thNo] 113)) := hB1.alloc hB1.size _
  have HN := hide (insOwn_keep hN ((Below.refl _ _).alloc (Nat.le_refl _) (.cells #[.string oAlloc, .int .i64 3, .int .i64 0, .int .i64 0, .string thNo] 113)))
  have HA := hide hA
  have HU := hide (insAt_below hli hB2)
  have HB := hide hB2
  have hlc : (numC n).length = 2 := rfl
  clear hB1 hN hA hB2 h hli
  go_enter Tryz.func96, Tryz.ntmps96
  go_wp2_with (at_builtin; refine wpList_append_ins _ rfl _ _ rfl w.heap.size (numC n) l _ _ _ rfl ?q1 rfl ?q2 h0 ?q3 ?q4 ?_)
  case q1 => exact HN.out
  case q2 => exact HU.out
  case q3 => rw [hlc]; omega
  case q4 => exact HB.out.size
  intro v1 w1 ho1 hb1 hs1 hg1 hl1
  have HA1 := hide (insOwn_kept HA.out hg1 (.inr (fun e => by have := Option.some.inj e; dsimp only at this; omega)))
  have HB1 := hide (HB.out.trans hb1)
  have HUN := hide (tunless_ok 3 ho1 (by rw [List.length_append, hlc]; omega))
  clear ho1 hb1 hs1 hg1 hl1 HA HB HU HN
  go_wp2_with fail
  refine HUN.out.mono ?_
  rintro e w2 ⟨v2, rfl, ho2, hb2⟩
  have HA2 := hide (insOwn_keep HA1.out hb2)
  have HB2 := hide (below_step HB1.out hb2)
  have HO2 := hide ho2
  clear ho2 hb2 HA1 HUN HB1
  go_wp2_with (at_builtin; refine wpList_append_insO _ rfl _ _ rfl w.heap.size w1.heap.size [⟨oAlloc, 3, 0, 0, thNo⟩] (uls 3 (numC n ++ l)) _ _ rfl ?q1 rfl ?q2 ?q3 ?q4 ?_)
  case q1 => exact HA2.out
  case q2 => exact HO2.out
  case q3 => simp [uls, hlc]; omega
  case q4 => exact HB2.out.size
  intro v3 w3 ho3 hb3
  have HO3 : Hid (insOwn w3 w.heap.size v3 (newC n l)) := hide ho3
  have HB3 := hide (HB2.out.trans hb3)
  clear ho3 hb3 HB2 HA2 HO2
  go_wp2_with fail
  go_ret
  exact ⟨_, rfl, HO3.out, HB3.out⟩
set_option maxRecDepth 20000 in
theorem tkeep_ok (w : World) : Calls Tryz.prog 54 #[.int .i64 1] w fun e w' => ∃ v', e = .returned v' ∧ insOwn w' w.heap.size v' keepC ∧ Below w.heap.size w w' := by
  go_enter Tryz.func54, Tryz.ntmps54
  go_wp2_with fail
  go_ret
  exact ⟨_, rfl, insOwn_new (l := keepC) rfl (Nat.le_refl _) (show 2 ≤ 1000 by decide), (Below.refl _ _).alloc (Nat.le_refl _) _⟩
set_option maxRecDepth 20000 in
theorem cread_ok (w : World) : Calls Tryz.prog 51 #[] w fun e w' => ∃ v', e = .returned v' ∧ insOwn w' w.heap.size v' readC ∧ Below w.heap.size w w' := by
  go_enter Tryz.func51, Tryz.ntmps51
  go_wp2_with fail
  go_ret
  exact ⟨_, rfl, insOwn_new (l := readC) rfl (Nat.le_refl _) (show 4 ≤ 1000 by decide), (Below.refl _ _).alloc (Nat.le_refl _) _⟩
set_option maxRecDepth 20000 in
theorem cput_ok (n : Int) (w : World) : Calls Tryz.prog 52 #[.int .i64 n] w fun e w' => ∃ v', e = .returned v' ∧ insOwn w' w.heap.size v' (putC n) ∧ Below w.heap.size w w' := by
  have hB : Below w.heap.size w (w.alloc (.cells #[.string oSwap, .int .i64 3, .int .i64 5, .int .i64 0, .string thNo] 113)) := (Below.refl _ _).alloc (Nat.le_refl _) _
  have HN := hide (tnew_ok n (insOwn_new (w := w) (l := [⟨oSwap, 3, 5, 0, thNo⟩]) (cs := #[.string oSwap, .int .i64 3, .int .i64 5, .int .i64 0, .string thNo]) (base := w.heap.size) rfl (Nat.le_refl _) (show 1 ≤ 1000 by decide)) (show 0 < 1 by decide) (show 1 ≤ 900 by decide))
  have HB := hide hB
  clear hB
  go_enter Tryz.func52, Tryz.ntmps52
  go_wp2_with fail
  refine HN.out.mono ?_
  rintro e w2 ⟨v, rfl, hv, hb⟩
  have HO := hide (insOwn_mono hv HB.out.size)
  have HB2 := hide (below_step HB.out hb)
  clear hv hb HB HN
  go_wp2_with fail
  go_ret
  exact ⟨_, rfl, HO.out, HB2.out⟩
set_option maxRecDepth 20000 in
set_option maxHeartbeats 1000000 in
theorem tempty_ok (w : World) : Calls Tryz.prog 50 #[.int .i64 1] w fun e w' => ∃ v', e = .returned v' ∧ insOwn w' w.heap.size v' emptyC ∧ Below w.heap.size w w' := by
  have hB1 : Below w.heap.size w (w.alloc (.cells #[.string oLabel, .int .i64 0, .int .i64 0, .int .i64 0, .string thMore] 113)) := (Below.refl _ _).alloc (Nat.le_refl _) _
  have hL := insOwn_new (w := w) (l := [⟨oLabel, 0, 0, 0, thMore⟩]) (cs := #[.string oLabel, .int .i64 0, .int .i64 0, .int .i64 0, .string thMore]) (base := w.heap.size) rfl (Nat.le_refl _) (show 1 ≤ 1000 by decide)
  have hC := insOwn_new (w := w.alloc (.cells #[.string oLabel, .int .i64 0, .int .i64 0, .int .i64 0, .string thMore] 113)) (l := [⟨oLoad, 0, 4, 1, thNo⟩, ⟨oFree, 4, 0, 0, thNo⟩, ⟨oMove, 4, 0, 0, thNo⟩, ⟨oGoto, 0, 0, 0, thMore⟩]) (cs := #[.string oLoad, .int .i64 0, .int .i64 4, .int .i64 1, .string thNo, .string oFree, .int .i64 4, .int .i64 0, .int .i64 0, .string thNo, .string oMove, .int .i64 4, .int .i64 0, .int .i64 0, .string thNo, .string oGoto, .int .i64 0, .int .i64 0, .int .i64 0, .string thMore]) (base := w.heap.size) rfl hB1.size (show 4 ≤ 1000 by decide)
  rw [World.size_alloc] at hC
  have HU := hide (tunless_ok 4 hC (show 4 ≤ 1000 by decide))
  have hB2 := hB1.alloc hB1.size (.cells #[.string oLoad, .int .i64 0, .int .i64 4, .int .i64 1, .string thNo, .string oFree, .int .i64 4, .int .i64 0, .int .i64 0, .string thNo, .string oMove, .int .i64 4, .int .i64 0, .int .i64 0, .string thNo, .string oGoto, .int .i64 0, .int .i64 0, .int .i64 0, .string thMore] 113)
  have HL := hide (insOwn_keep hL ((Below.refl _ _).alloc (Nat.le_refl _) (.cells #[.string oLoad, .int .i64 0, .int .i64 4, .int .i64 1, .string thNo, .string oFree, .int .i64 4, .int .i64 0, .int .i64 0, .string thNo, .string oMove, .int .i64 4, .int .i64 0, .int .i64 0, .string thNo, .string oGoto, .int .i64 0, .int .i64 0, .int .i64 0, .string thMore] 113)))
  have HB := hide hB2
  clear hB1 hL hC hB2
  go_enter Tryz.func50, Tryz.ntmps50
  go_wp2_with fail
  refine HU.out.mono ?_
  rintro e w2 ⟨v2, rfl, ho2, hb2⟩
  have HL2 := hide (insOwn_keep HL.out hb2)
  have HB2 := hide (below_step HB.out hb2)
  have HO2 := hide (insOwn_mono ho2 (Nat.zero_le _))
  clear ho2 hb2 HL HU HB
  go_wp2_with (at_builtin; refine wpList_append_insO _ rfl _ _ rfl w.heap.size 0 [⟨oLabel, 0, 0, 0, thMore⟩] (uls 4 [⟨oLoad, 0, 4, 1, thNo⟩, ⟨oFree, 4, 0, 0, thNo⟩, ⟨oMove, 4, 0, 0, thNo⟩, ⟨oGoto, 0, 0, 0, thMore⟩]) _ _ rfl ?q1 rfl ?q2 ?q3 ?q4 ?_)
  case q1 => exact HL2.out
  case q2 => exact HO2.out
  case q3 => show 1 + 6 ≤ 2000; decide
  case q4 => exact HB2.out.size
  intro v3 w3 ho3 hb3
  have HO3 : Hid (insOwn w3 w.heap.size v3 emptyC) := hide ho3
  have HB3 := hide (HB2.out.trans hb3)
  clear ho3 hb3 HB2 HL2 HO2
  go_wp2_with fail
  go_ret
  exact ⟨_, rfl, HO3.out, HB3.out⟩
end Go.Proofs.YtoialadjpcdbaaaGreatDoor
