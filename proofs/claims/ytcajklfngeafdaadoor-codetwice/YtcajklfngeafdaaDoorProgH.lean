/- Package code's Text by a contract. -/
import Derived.Test.YtcajklfngeafdaaDoorProgG
import Derived.Lib.OthersKept
namespace Go.Proofs.YtcajklfngeafdaaDoor
open Go.RowKit Go.Extern.Stop Go.Stop Go.Extern Go.Maps Go.WideMaps

theorem write_any (B b : Nat) (bs : List Value) (s : ByteArray) (w : World) (h : Lib.IsBuilderF 46 5 B b bs w) (hlen : bs.length + s.size ≤ 140737488355328) (hBw : B ≤ w.heap.size) :
    Calls Tryd.prog 11 #[.pointer (some ⟨b, 0, none⟩), .string s] w fun e w' => e = .returned (.tuple #[.int .i64 s.size, .nilIface]) ∧ (Lib.BuilderAtF 46 5 B b (.pointer (some ⟨b, 0, none⟩)) (bs ++ Lib.strCells s) w' ∧ Below B w w' ∧ Lib.OthersKept 5 (some b) w w') :=
  Any.Builder_WriteString_k { Tryd.lays156 with } Tryd.Builder_Extra_156 B b bs s w h hlen hBw

theorem ownsRowF_block {w w' : World} {base : Nat} {e : TypeId} {size : Nat} {v : Value} {n : Nat} {xs : List Value} (h : w.ownsRowF base e size v n xs) (hb : ∀ k, k < w.heap.size → w'.heap[k]? = w.heap[k]?) : w'.ownsRowF base e size v n xs := by
  obtain ⟨h1, h2⟩ := h
  refine ⟨h1, ?_⟩
  rcases h2 with h2 | ⟨g, cap, cur, fz, hv, hg, hh, r⟩
  · exact Or.inl h2
  · exact Or.inr ⟨g, cap, cur, fz, hv, hg, by rw [hb g (lt_of_block hh)]; exact hh, r⟩
theorem builder_block {T e : TypeId} {B b : Nat} {bs : List Value} {w w' : World} (h : Lib.IsBuilderF T e B b bs w) (hb : ∀ k, k < w.heap.size → w'.heap[k]? = w.heap[k]?) : Lib.IsBuilderF T e B b bs w' := by
  rcases h with ⟨h0, v, h1, h2, h3⟩ | ⟨h0, v, h1, h2, h3⟩
  · exact .inl ⟨h0, v, by rw [hb b (lt_of_block h1)]; exact h1, ownsRowF_block h2 hb, h3⟩
  · exact .inr ⟨h0, v, by rw [hb b (lt_of_block h1)]; exact h1, ownsRowF_block h2 hb, h3⟩

/-- A right instruction's name and label are short. -/
theorem short_of_fault {l : List Ins} {i : Nat} {x : Ins} (h : insFault l i x = 0) : ∃ S, Fits x S ∧ x.op.size + x.to.size ≤ 20 := by
  obtain ⟨S, hF, hN⟩ := fits_of_fault h
  refine ⟨S, hF, ?_⟩
  have h1 := (by decide +kernel : ∀ p ∈ table, p.1.length ≤ 5) _ (shape_mem hF.shape)
  dsimp only at h1
  rw [toList_bl, ← size_bl] at h1
  cases ht : hasTo S with
  | true => have := (hN ht).2.1; omega
  | false => rw [hF.to ht]; show _ + 0 ≤ _; omega
theorem line_len {x : Ins} {S : List UInt8} (hF : Fits x S) (hs : x.op.size + x.to.size ≤ 20) : (lineL x).length ≤ 60 := by
  have f := table_facts _ (shape_mem hF.shape)
  have h3 := f.1.2
  dsimp only at h3
  unfold lineL partsOf
  rw [hF.shape]
  dsimp only
  rw [Lib.join_cons, List.length_append, Lib.joinTail_length, lens_app]
  have h1 := lens_map (fun k => Lib.decDigits (x.n k).toNat) (nums S) (fun k hk => digits_len 9 _ (by have := hF.num k hk; omega))
  have h2 : Lib.lens (if hasTo S = true then [bl x.to] else []) ≤ x.to.size := by
    split
    · rw [size_bl]; simp [Lib.lens]
    · simp [Lib.lens]
  have h4 : (bl x.op).length = x.op.size := (size_bl _).symm
  have h5 : (List.map (fun k => Lib.decDigits (x.n k).toNat) (List.range (nums S)) ++ if hasTo S = true then [bl x.to] else []).length ≤ 4 := by
    rw [List.length_append, List.length_map, List.length_range]
    split <;> simp <;> omega
  simp only [List.length_singleton]
  omega
theorem faultFrom_zero (l : List Ins) : ∀ (r : List Ins) (j : Nat), (faultFrom l j r).1 = 0 → ∀ k y, r[k]? = some y → insFault l (j + k) y = 0
  | [], _, _, _, _, h => by simp at h
  | x :: r, j, h, k, y, hy => by
    unfold faultFrom at h
    by_cases h0 : insFault l j x = 0
    · rw [if_pos h0] at h
      cases k with
      | zero => cases hy; exact h0
      | succ k =>
        have := faultFrom_zero l r (j + 1) h k y hy
        rwa [show j + (k + 1) = j + 1 + k by omega]
    · rw [if_neg h0] at h
      exact absurd h h0
theorem codeFault_zero {l : List Ins} (h : (codeFault l).1 = 0) : ¬ 2000 < l.length ∧ ∀ k y, l[k]? = some y → insFault l k y = 0 := by
  unfold codeFault at h
  by_cases hl : 2000 < l.length
  · rw [if_pos hl] at h; cases h
  · rw [if_neg hl] at h
    exact ⟨hl, fun k y hy => by simpa using faultFrom_zero l l 0 h k y hy⟩
theorem textL_take {l : List Ins} {j : Nat} {x : Ins} (hx : l[j]? = some x) : textL (l.take (j + 1)) = textL (l.take j) ++ (lineL x ++ [10]) := by
  rw [List.take_add_one, hx]
  simp [textL]
theorem textL_take_le (l : List Ins) (j : Nat) : (textL (l.take j)).length ≤ (textL l).length := by
  conv => rhs; rw [← List.take_append_drop j l]
  simp only [textL, List.map_append, List.flatten_append, List.length_append]
  omega
theorem textL_snoc (l : List Ins) (x : Ins) : textL (l ++ [x]) = textL l ++ (lineL x ++ [10]) := by simp [textL]

set_option maxRecDepth 20000 in
set_option maxHeartbeats 2000000 in
theorem text_any (a : Nat → Addr) (ad : Option Addr) (cap : Nat) (l : List Ins) (w : World) (hE : EnvX a w) (hsz : ∀ (i : Nat) x, l[i]? = some x → x.to.size ≤ maxLen) (hl : insAt ad l w) (hlen : (textL l).length ≤ 40000) :
    Calls Tryd.prog 6 #[.slice ad l.length cap] w fun e w' => (((codeFault l).1 ≠ 0 ∧ (∃ v, e = .returned (.tuple #[.string ⟨#[]⟩, v]) ∧ errIs a (codeFault l) v w' w.heap.size)) ∨ ((codeFault l).1 = 0 ∧ e = .returned (.tuple #[.string ⟨(textL l).toArray⟩, .nilIface]))) ∧ Below w.heap.size w w' := by
  have HL := hide hl
  have HC := hide (pcheck_any a ad cap l w hE.e hsz hl)
  clear hl
  go_enter Tryd.func6, Tryd.ntmps6
  go_wp2_with fail
  refine HC.out.mono ?_
  rintro e w1 ⟨v, rfl, hv, hb1⟩
  clear HC
  rcases hv with ⟨h0, rfl⟩ | ⟨h0, h1, rfl⟩ | ⟨h0, j, N, h1, h2, rfl, h3, h4⟩
  · obtain ⟨hnl, hall⟩ := codeFault_zero h0
    have HA := hide hall
    have hi : (l.length : Int) ≤ 2000 := by omega
    have HLi : Hid (∀ j x w', l[j]? = some x → EnvX a w' → Calls Tryd.prog 12 #[.agg #[.string x.op, .int .i64 x.a, .int .i64 x.b, .int .i64 x.c, .string x.to]] w' fun e w'' => e = .returned (.string ⟨(lineL x ++ [10]).toArray⟩) ∧ Below w'.heap.size w' w'') := fun j x w' hx hE' => by
      obtain ⟨S, hF, hs⟩ := short_of_fault (hall j x hx)
      exact line_any a x S hF (by omega) w' hE'
    clear hall
    go_wp2_with fail
    go_loopw [7, 15] (fun _ i wr => ∃ j : Nat, j ≤ l.length ∧ i = .int .i64 j ∧ Lib.IsBuilderF 46 5 w1.heap.size w1.heap.size (Lib.byteCells (textL (l.take j))) wr ∧ Below w1.heap.size w1 wr) (fun _ i _ => l.length - (intOf i).toNat)
    case atStart => exact ⟨0, Nat.zero_le _, rfl, Lib.IsBuilderF.of (Lib.fresh_isBuilder 46 5 w1), (Below.refl _ _).alloc (Nat.le_refl _) _⟩
    case round =>
      obtain ⟨j, hj, rfl, hI, hB⟩ := hrel
      have B := below_step hb1 hB
      have hlT := textL_take_le l j
      by_cases hlt : j < l.length
      · obtain ⟨x, hx⟩ : ∃ x, l[j]? = some x := ⟨_, List.getElem?_eq_getElem hlt⟩
        obtain ⟨b, off, rfl, a0, a1, a2, a3, a4⟩ := insAt_below HL.out B j x hx
        have ji : (j : Int) < l.length := by omega
        have HT := hide (textL_take hx)
        have HLx : Hid (∀ w', EnvX a w' → Calls Tryd.prog 12 #[.agg #[.string x.op, .int .i64 x.a, .int .i64 x.b, .int .i64 x.c, .string x.to]] w' fun e w'' => e = .returned (.string ⟨(lineL x ++ [10]).toArray⟩) ∧ Below w'.heap.size w' w'') := fun w' h => HLi.out j x w' hx h
        have hll : (lineL x ++ [10]).length ≤ 61 := by
          obtain ⟨S, hF, hs⟩ := short_of_fault (HA.out j x hx)
          have := line_len hF hs
          simp; omega
        have hba : Below wr.heap.size wr (wr.alloc (.cells #[.string x.op, .int .i64 x.a, .int .i64 x.b, .int .i64 x.c, .string x.to] 32)) := (Below.refl _ _).alloc (Nat.le_refl _) _
        have EN := hide ((hE.below B).below hba)
        have hI1 := hI.alloc (.cells #[.string x.op, .int .i64 x.a, .int .i64 x.b, .int .i64 x.c, .string x.to] 32)
        have B1 := below_step hB hba
        clear hx hI hba B hB
        generalize textL (l.take j) = acc at *
        generalize lineL x ++ [10] = ln at *
        go_wp2_with fail
        refine (HLx.out _ EN.out).mono ?_
        rintro e w2 ⟨rfl, hb2⟩
        have hI2 := builder_block hI1 hb2.block
        have B2 := below_step B1 hb2
        clear HLx EN hI1 B1 hb2
        go_wp2_with fail
        refine (write_any _ _ _ _ _ hI2 (by rw [Lib.byteCells_length, size_bl]; simp [bl]; omega) B2.size).mono ?_
        rintro e w3 ⟨rfl, hI3, hb3, -⟩
        have B3 := B2.trans hb3
        rw [show Lib.strCells ⟨ln.toArray⟩ = Lib.byteCells ln from rfl, show Lib.byteCells acc ++ Lib.byteCells ln = Lib.byteCells (acc ++ ln) by simp [Lib.byteCells], ← HT.out] at hI3
        clear hI2 B2 hb3
        go_wp2_with fail
        go_roundw
        case rel => exact ⟨j + 1, by omega, by go_num, Or.inr hI3, B3⟩
        case measure => simp [intOf]; omega
      · obtain rfl : j = l.length := by omega
        rw [List.take_length] at hI
        have hi4 : ¬ 40000 < ((textL l).length : Int) := by omega
        have HLe := hide (Tryd.Builder_Len_f w1.heap.size w1.heap.size (Lib.byteCells (textL l)) wr hI)
        have HSt := hide (Tryd.Builder_String_any_k w1.heap.size w1.heap.size (textL l) wr hI hB.size)
        rw [Lib.byteCells_length] at HLe
        clear hlT
        go_wp2_with fail
        refine HLe.out.mono ?_
        rintro e w2 ⟨rfl, rfl⟩
        go_wp2_with fail
        refine HSt.out.mono ?_
        rintro e w3 ⟨rfl, -, hb3, -⟩
        have B3 := hB.trans hb3
        go_wp2_with fail
        go_ret2
        exact ⟨.inr ⟨h0, rfl⟩, below_step hb1 B3⟩
  · obtain ⟨c, hc⟩ : ∃ c, (codeFault l).1 = c + 1 := ⟨(codeFault l).1 - 1, by omega⟩
    rw [hc, show xval a (c + 1) = xerr (a c) from rfl]
    go_wp2_with fail
    go_ret2
    exact ⟨.inl ⟨h0, _, rfl, .inr (.inl ⟨h0, h1, by rw [hc]; rfl⟩)⟩, hb1⟩
  · go_wp2_with fail
    go_ret2
    exact ⟨.inl ⟨h0, _, rfl, .inr (.inr ⟨h0, j, N, h1, h2, rfl, h3, h4⟩)⟩, hb1⟩
end Go.Proofs.YtcajklfngeafdaaDoor
