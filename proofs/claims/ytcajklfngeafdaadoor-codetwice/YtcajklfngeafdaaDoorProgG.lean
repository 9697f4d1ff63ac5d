/- Package code's line by a contract. -/
import Derived.Test.YtcajklfngeafdaaDoorProgF
import Derived.Test.YtcajklfngeafdaaDoorShelf
import Derived.Maps.AppendAt
namespace Go.Proofs.YtcajklfngeafdaaDoor
open Go.RowKit Go.Extern.Stop Go.Stop Go.Extern Go.Maps Go.WideMaps

theorem heap_two (w : World) (o1 o2 : Obj) : ((w.alloc o1).alloc o2).heap[w.heap.size + 1]? = some o2 := by
  show ((w.heap.push o1).push o2)[w.heap.size + 1]? = _
  rw [Array.getElem?_push, if_pos (by rw [Array.size_push])]
theorem grown_cell {w w' : World} {row : Option Nat} (h : w.grownBy w' row) {b o : Nat} {v : Value} (hc : w.cell? ⟨b, o, none⟩ = some v) (hne : some b ≠ row) : w'.cell? ⟨b, o, none⟩ = some v := by
  rw [World.cell?_of_block (w := w) (h.block b (World.block_lt_of_cell? w _ hc) hne)]
  exact hc
theorem alloc_cell {w : World} (o : Obj) {p : Addr} {v : Value} (hc : w.cell? p = some v) : (w.alloc o).cell? p = some v := keep_cell ((Below.refl _ _).alloc (Nat.le_refl _) _) hc

theorem lens_app (a b : List (List UInt8)) : Lib.lens (a ++ b) = Lib.lens a + Lib.lens b := by simp [Lib.lens]
theorem lens_map (f : Nat → List UInt8) : ∀ (n : Nat), (∀ k, k < n → (f k).length ≤ 10) → Lib.lens ((List.range n).map f) ≤ 10 * n
  | 0, _ => by simp [Lib.lens]
  | n + 1, h => by
    rw [List.range_succ, List.map_append, lens_app]
    have := lens_map f n (fun k hk => h k (by omega))
    have := h n (by omega)
    simp [Lib.lens] at *
    omega
theorem bytes_nl (l : List UInt8) : ((⟨l.toArray⟩ : ByteArray) ++ ⟨#[10]⟩) = ⟨(l ++ [10]).toArray⟩ := bl_inj (by rw [bl_append])

theorem strInfo : ∃ i, (Tryd.prog).info? 9 = some i ∧ i.zero = some (.string ⟨#[]⟩) ∧ i.size = 1 ∧ i.bytes = 16 := info_parts (by kernel_rfl)

/-- A new slice of one string. -/
theorem ownsRow_one {w : World} {base g : Nat} {e : TypeId} {v : Value} (hb : base ≤ g) (h : w.heap[g]? = some (.cells #[v] e (0, 0))) : w.ownsRow base e 1 (.slice (some ⟨g, 0, none⟩) 1 1) 1 [v] :=
  ⟨rfl, .inr ⟨g, 1, #[v], rfl, hb, h, Nat.le_refl _, by unfold maxLen; omega, rfl, rfl⟩⟩

/-- The parts of a line, as texts. -/
def partsB (x : Ins) (j : Nat) : List ByteArray := x.op :: (List.range j).map fun k => ⟨(Lib.decDigits (x.n k).toNat).toArray⟩
theorem partsB_succ (x : Ins) (j : Nat) : partsB x (j + 1) = partsB x j ++ [⟨(Lib.decDigits (x.n j).toNat).toArray⟩] := by
  unfold partsB
  rw [List.range_succ, List.map_append]
  rfl
theorem partsB_len (x : Ins) (j : Nat) : (partsB x j).length = j + 1 := by simp [partsB]

theorem one_sum {op S : List UInt8} (h : shape op = some S) : one (limOf S 0) + one (limOf S 1) + one (limOf S 2) = (nums S : Int) := by
  have := (by decide +kernel : ∀ p ∈ table, one (limOf p.2 0) + one (limOf p.2 1) + one (limOf p.2 2) = (nums p.2 : Int))
  exact this _ (shape_mem h)

theorem itoa_any (a : Nat → Addr) (n : Int) (h0 : 0 ≤ n) (h1 : n < 10000000000) (w : World) (hE : EnvX a w) :
    Calls Tryd.prog 27 #[.int .i64 n] w fun e w' => e = .returned (.string ⟨(Lib.decDigits n.toNat).toArray⟩) ∧ Below w.heap.size w w' := by
  refine (Tryd.strconv_Itoa n (by omega) (by omega) w hE.tab).mono ?_
  rintro e w' ⟨rfl, k, os, rfl⟩
  refine ⟨?_, ⟨rfl, rfl, rfl, ?_, fun j hj => ?_⟩⟩
  · unfold Lib.itoa
    rw [if_neg (by omega)]
  · show w.heap.size ≤ (w.heap ++ os).size
    rw [Array.size_append]
    omega
  · show (w.heap ++ os)[j]? = _
    rw [Array.getElem?_append_left hj]

set_option maxRecDepth 20000 in
set_option maxHeartbeats 2000000 in
theorem line_any (a : Nat → Addr) (x : Ins) (S : List UInt8) (hF : Fits x S) (hsz : x.op.size + x.to.size ≤ 1000) (w : World) (hE : EnvX a w) :
    Calls Tryd.prog 12 #[.agg #[.string x.op, .int .i64 x.a, .int .i64 x.b, .int .i64 x.c, .string x.to]] w fun e w' => e = .returned (.string ⟨(lineL x ++ [10]).toArray⟩) ∧ Below w.heap.size w w' := by
  have HK : Hid (∀ w', Calls Tryd.prog 18 #[.string x.op] w' fun e w'' => e = .returned (.tuple #[.agg #[.int .i64 (limOf S 0), .int .i64 (limOf S 1), .int .i64 (limOf S 2), .bool (hasTo S)], .bool true]) ∧ Below w'.heap.size w' w'') := fun w' => by have := kindOf_any x.op w'; rwa [hF.shape] at this
  have HN : Hid (∀ w', Calls Tryd.prog 26 #[.agg #[.string x.op, .int .i64 x.a, .int .i64 x.b, .int .i64 x.c, .string x.to]] w' fun e w'' => e = .returned (.agg #[.int .i64 x.a, .int .i64 x.b, .int .i64 x.c]) ∧ Below w'.heap.size w' w'') := fun w' => pnumbers_any x w'
  have HC : Hid (∀ w', Calls Tryd.prog 20 #[.agg #[.int .i64 (limOf S 0), .int .i64 (limOf S 1), .int .i64 (limOf S 2), .bool (hasTo S)]] w' fun e w'' => e = .returned (.int .i64 (nums S)) ∧ Below w'.heap.size w' w'') := fun w' => by rw [← one_sum hF.shape]; exact kcount_any _ _ _ _ w'
  have hm3 : nums S ≤ 3 := (table_facts _ (shape_mem hF.shape)).1.2
  have HI : Hid (∀ j w', j < nums S → EnvX a w' → Calls Tryd.prog 27 #[.int .i64 (x.n j)] w' fun e w'' => e = .returned (.string ⟨(Lib.decDigits (x.n j).toNat).toArray⟩) ∧ Below w'.heap.size w' w'') := fun j w' hj hE' => itoa_any a _ (hF.num j hj).1 (hF.num j hj).2 w' hE'
  have HP : Hid (partsOf x = (partsB x (nums S)).map bl ++ (if hasTo S then [bl x.to] else [])) := by
    show _ = _
    unfold partsOf
    rw [hF.shape]
    dsimp only
    unfold partsB
    rw [List.map_cons, List.map_map, List.cons_append]
    rfl
  have HS : Hid (∀ k, k < nums S → (Lib.decDigits (x.n k).toNat).length ≤ 10) := fun k hk => digits_len 9 _ (by have := hF.num k hk; omega)
  generalize nums S = m at *
  generalize hasTo S = t at *
  generalize limOf S 0 = l0 at *
  generalize limOf S 1 = l1 at *
  generalize limOf S 2 = l2 at *
  have hba : Below w.heap.size w (w.alloc (.cells #[.string x.op, .int .i64 x.a, .int .i64 x.b, .int .i64 x.c, .string x.to] 32)) := (Below.refl _ _).alloc (Nat.le_refl _) _
  have q0 : (w.alloc (.cells #[.string x.op, .int .i64 x.a, .int .i64 x.b, .int .i64 x.c, .string x.to] 32)).cell? ⟨w.heap.size, 0, none⟩ = some (.string x.op) := by simp
  have q1 : (w.alloc (.cells #[.string x.op, .int .i64 x.a, .int .i64 x.b, .int .i64 x.c, .string x.to] 32)).cell? ⟨w.heap.size, 1, none⟩ = some (.int .i64 x.a) := by simp
  have q2 : (w.alloc (.cells #[.string x.op, .int .i64 x.a, .int .i64 x.b, .int .i64 x.c, .string x.to] 32)).cell? ⟨w.heap.size, 2, none⟩ = some (.int .i64 x.b) := by simp
  have q3 : (w.alloc (.cells #[.string x.op, .int .i64 x.a, .int .i64 x.b, .int .i64 x.c, .string x.to] 32)).cell? ⟨w.heap.size, 3, none⟩ = some (.int .i64 x.c) := by simp
  have q4 : (w.alloc (.cells #[.string x.op, .int .i64 x.a, .int .i64 x.b, .int .i64 x.c, .string x.to] 32)).cell? ⟨w.heap.size, 4, none⟩ = some (.string x.to) := by simp
  go_enter Tryd.func12, Tryd.ntmps12
  go_wp2_with fail
  refine (HK.out _).mono ?_
  rintro e w1 ⟨rfl, hb1⟩
  have hlt : w.heap.size < w1.heap.size := Nat.lt_of_lt_of_le (by simp) hb1.size
  have B1 := below_step hba hb1
  replace q0 := keep_cell hb1 q0
  replace q1 := keep_cell hb1 q1
  replace q2 := keep_cell hb1 q2
  replace q3 := keep_cell hb1 q3
  replace q4 := keep_cell hb1 q4
  have hlt2 : w.heap.size < w1.heap.size + 1 := by omega
  clear HK hba hb1
  go_wp2_with fail
  obtain ⟨W2, hW2⟩ : ∃ W2, W2 = (w1.alloc (.cells #[.int .i64 l0, .int .i64 l1, .int .i64 l2, .bool t] 57)).alloc (.cells #[.string x.op] 9) := ⟨_, rfl⟩
  have hbb : Below w1.heap.size w1 W2 := by rw [hW2]; exact ((Below.refl _ _).alloc (Nat.le_refl _) _).alloc (by simp) _
  have hsz2 : W2.heap.size = w1.heap.size + 1 + 1 := by rw [hW2]; simp
  have k0 : W2.cell? ⟨w1.heap.size, 0, none⟩ = some (.int .i64 l0) := by rw [hW2]; simp
  have k1 : W2.cell? ⟨w1.heap.size, 1, none⟩ = some (.int .i64 l1) := by rw [hW2]; simp
  have k2 : W2.cell? ⟨w1.heap.size, 2, none⟩ = some (.int .i64 l2) := by rw [hW2]; simp
  have k3 : W2.cell? ⟨w1.heap.size, 3, none⟩ = some (.bool t) := by rw [hW2]; simp
  have hrow : W2.ownsRow (w1.heap.size + 1) 9 1 (.slice (some ⟨w1.heap.size + 1, 0, none⟩) 1 1) 1 [.string x.op] := by
    refine ownsRow_one (Nat.le_refl _) ?_
    rw [hW2]
    exact heap_two _ _ _
  replace q4 := keep_cell hbb q4
  have B2 := below_step B1 hbb
  rw [← hW2]
  clear hW2 hbb B1 q0 q1 q2 q3
  refine (HN.out _).mono ?_
  rintro e w3 ⟨rfl, hb3⟩
  have hs3 := hb3.size
  have B3 := below_step B2 hb3
  replace q4 := keep_cell hb3 q4
  replace k0 := keep_cell hb3 k0
  replace k1 := keep_cell hb3 k1
  replace k2 := keep_cell hb3 k2
  replace k3 := keep_cell hb3 k3
  have hrow3 := ownsRow_block hrow (w' := w3) (fun k hk => by
    have hk' : w1.heap.size + 1 = k := by simpa [Value.ownBlock] using hk
    exact hb3.block k (by omega))
  have l1s : w1.heap.size < w3.heap.size := by omega
  have l2s : w.heap.size < w3.heap.size := by omega
  clear hb3 B2 HN hrow
  go_wp2_with fail
  obtain ⟨W3, hW3⟩ : ∃ W3, W3 = w3.alloc (.cells #[.int .i64 x.a, .int .i64 x.b, .int .i64 x.c] 55) := ⟨_, rfl⟩
  have hbb : Below w3.heap.size w3 W3 := by rw [hW3]; exact (Below.refl _ _).alloc (Nat.le_refl _) _
  have n0 : W3.cell? ⟨w3.heap.size, 0, none⟩ = some (.int .i64 x.a) := by rw [hW3]; simp
  have n1 : W3.cell? ⟨w3.heap.size, 1, none⟩ = some (.int .i64 x.b) := by rw [hW3]; simp
  have n2 : W3.cell? ⟨w3.heap.size, 2, none⟩ = some (.int .i64 x.c) := by rw [hW3]; simp
  have hnn : Hid (∀ k, k < 3 → W3.cell? ⟨w3.heap.size, k, none⟩ = some (.int .i64 (x.n k))) := fun k hk => by
    match k, hk with
    | 0, _ => exact n0
    | 1, _ => exact n1
    | 2, _ => exact n2
  have hs3b : W3.heap.size = w3.heap.size + 1 := by rw [hW3]; simp
  have hrowb : W3.ownsRow (w1.heap.size + 1) 9 1 (.slice (some ⟨w1.heap.size + 1, 0, none⟩) 1 1) 1 [.string x.op] := by rw [hW3]; exact hrow3.alloc _
  replace q4 := keep_cell hbb q4
  replace k3 := keep_cell hbb k3
  have B3b := below_step B3 hbb
  rw [← hW3]
  clear hW3 hbb B3 k0 k1 k2 n0 n1 n2 hrow3
  refine (HC.out _).mono ?_
  rintro e w4 ⟨rfl, hb4⟩
  have B4 := below_step B3b hb4
  replace q4 := keep_cell hb4 q4
  replace k3 := keep_cell hb4 k3
  have hnn4 : Hid (∀ k, k < 3 → w4.cell? ⟨w3.heap.size, k, none⟩ = some (.int .i64 (x.n k))) := fun k hk => keep_cell hb4 (hnn.out k hk)
  have hrow4 := ownsRow_block hrowb (w' := w4) (fun k hk => by
    have hk' : w1.heap.size + 1 = k := by simpa [Value.ownBlock] using hk
    exact hb4.block k (by omega))
  have hs4 := hb4.size
  clear hb4 B3b HC hnn hrowb
  go_wp2_with fail
  go_loopw [5, 7, 21] (fun ps _ i wr => ∃ j : Nat, j ≤ m ∧ i = .int .i64 j ∧ wr.ownsRow (w1.heap.size + 1) 9 1 ps (j + 1) ((partsB x j).map Value.string) ∧ Below w.heap.size w wr ∧ w4.heap.size ≤ wr.heap.size ∧
      (∀ k, ps.ownBlock = some k → k ≠ w3.heap.size) ∧ wr.cell? ⟨w.heap.size, 4, none⟩ = some (.string x.to) ∧ wr.cell? ⟨w1.heap.size, 3, none⟩ = some (.bool t) ∧ Hid (∀ k, k < 3 → wr.cell? ⟨w3.heap.size, k, none⟩ = some (.int .i64 (x.n k))))
    (fun _ _ i _ => m - (intOf i).toNat)
  case atStart =>
    refine ⟨0, Nat.zero_le _, rfl, hrow4, B4, Nat.le_refl _, fun k hk => ?_, q4, k3, hnn4⟩
    have hk' : w1.heap.size + 1 = k := by simpa [Value.ownBlock] using hk
    omega
  case round =>
    clear q4 k3 hnn4 hrow4 B4
    obtain ⟨j, hj, rfl, hown, B, hsz4, hne, q4, k3, hnn⟩ := hrel
    by_cases hlt' : j < m
    · have ji : (j : Int) < m := by omega
      have hcj := hnn.out j (by omega)
      have E1 := hide (hE.below B)
      obtain ⟨g, gc, rfl⟩ : ∃ g gc, _ = Value.slice (some ⟨g, 0, none⟩) (j + 1) gc := by
        rcases hown.2 with ⟨_, h0⟩ | ⟨g, cap, cur, hv, _⟩
        · omega
        · exact ⟨g, cap, hv⟩
      have hgl := hown.lt g rfl
      have hgn := hne g rfl
      have HPs : Hid (∀ ys, ys = (partsB x j).map Value.string ++ [.string ⟨(Lib.decDigits (x.n j).toNat).toArray⟩] → ys = (partsB x (j + 1)).map Value.string) := fun ys h => by rw [h, partsB_succ, List.map_append]; rfl
      generalize (partsB x j).map Value.string = xs at *
      obtain ⟨ri, hri, hrz, hrs, hrb⟩ := strInfo
      go_wp2_with fail
      refine (HI.out j _ hlt' E1.out).mono ?_
      rintro e w5 ⟨rfl, hb5⟩
      generalize (⟨(Lib.decDigits (x.n j).toNat).toArray⟩ : ByteArray) = d at *
      have B5 := below_step B hb5
      have hs5 := hb5.size
      replace q4 := keep_cell hb5 q4
      replace k3 := keep_cell hb5 k3
      have hnn5 : Hid (∀ k, k < 3 → w5.cell? ⟨w3.heap.size, k, none⟩ = some (.int .i64 (x.n k))) := fun k hk => keep_cell hb5 (hnn.out k hk)
      have hown5 := ownsRow_block hown (w' := w5) (fun k hk => by
        have hk' : g = k := by simpa [Value.ownBlock] using hk
        exact hb5.block k (by omega))
      clear hb5 B E1 hnn hown hcj hne
      go_wp2_with (first
        | (at_builtin; refine wpList_append_own_at _ rfl _ _ 53 rfl (w1.heap.size + 1) 9 ri (.string ⟨#[]⟩) 1 16 Tryd.underlying53 hri hrz hrs hrb rfl (by decide) _ _ _ rfl (hown5.alloc _) ⟨w5.heap.size, 0, none⟩ 1 1 [.string d] rfl rfl (cell_one_new _ _ _) ?c2 ?c3 ?c4 ?c5 ?_))
      case c2 => intro u hu; obtain rfl : u = _ := by simpa using hu
                 rfl
      case c3 => unfold maxLen; omega
      case c4 => omega
      case c5 => simp; omega
      intro v' w6 hown6 hgrow6 hnil6 hloc6
      have g6 : ∀ k, (Value.slice (some ⟨g, 0, none⟩) (j + 1) gc).ownBlock = some k → g = k := fun k hk => by simpa [Value.ownBlock] using hk
      have B6 : Below w.heap.size w w6 := (B5.alloc B5.size _).grown hgrow6 (Nat.le_trans B5.size (by simp)) (fun k hk => by have := g6 k hk; omega)
      have q46 := grown_cell hgrow6 (alloc_cell _ q4) (fun h => by have := g6 _ h.symm; omega)
      have k36 := grown_cell hgrow6 (alloc_cell _ k3) (fun h => by have := g6 _ h.symm; omega)
      have hnn6 : Hid (∀ k, k < 3 → w6.cell? ⟨w3.heap.size, k, none⟩ = some (.int .i64 (x.n k))) := fun k hk => grown_cell hgrow6 (alloc_cell _ (hnn5.out k hk)) (fun h => by have := g6 _ h.symm; omega)
      have hs6 : w4.heap.size ≤ w6.heap.size := by have := hgrow6.size; simp at this; omega
      have hne6 : ∀ k, v'.ownBlock = some k → k ≠ w3.heap.size := fun k hk => by
        rcases hloc6 with h | h
        · rw [h] at hk; have := g6 k hk; omega
        · rw [h] at hk
          have : (w5.alloc (.cells #[.string d] 9)).heap.size = k := by simpa using hk
          simp at this
          omega
      have hown6' : w6.ownsRow (w1.heap.size + 1) 9 1 v' (j + 1 + 1) ((partsB x (j + 1)).map Value.string) := by rw [← HPs.out _ rfl]; exact hown6
      clear hgrow6 hnil6 hloc6 hown6 q4 k3 hnn5 hown5 hri hrz hrs hrb B5
      go_wp2_with fail
      go_roundw
      case rel => exact ⟨j + 1, by omega, by go_num, hown6', B6, hs6, hne6, q46, k36, hnn6⟩
      case measure => simp [intOf]; omega
    · obtain rfl : j = m := by omega
      obtain ⟨g, gc, rfl⟩ : ∃ g gc, _ = Value.slice (some ⟨g, 0, none⟩) (j + 1) gc := by
        rcases hown.2 with ⟨_, h0⟩ | ⟨g, cap, cur, hv, _⟩
        · omega
        · exact ⟨g, cap, hv⟩
      have hgl := hown.lt g rfl
      have hlens : (lineL x).length ≤ 1100 := by
        unfold lineL
        rw [HP.out]
        unfold partsB
        rw [List.map_cons, List.cons_append, Lib.join_cons, List.length_append, Lib.joinTail_length, lens_app, List.map_map]
        have h1 := lens_map (bl ∘ fun k => (⟨(Lib.decDigits (x.n k).toNat).toArray⟩ : ByteArray)) j (fun k hk => HS.out k hk)
        have h2 : Lib.lens (if t = true then [bl x.to] else []) ≤ x.to.size := by
          split
          · rw [size_bl]; simp [Lib.lens]
          · simp [Lib.lens]
        have h3 : (bl x.op).length = x.op.size := (size_bl _).symm
        have h4 : (List.map (bl ∘ fun k => (⟨(Lib.decDigits (x.n k).toNat).toArray⟩ : ByteArray)) (List.range j) ++ if t = true then [bl x.to] else []).length ≤ 4 := by
          rw [List.length_append, List.length_map, List.length_range]
          split <;> simp <;> omega
        simp only [List.length_singleton]
        omega
      have HJ : Hid (∀ (xs : List ByteArray) (g c : Nat) (w' : World), xs.map bl = partsOf x → (∀ (k : Nat) y, xs[k]? = some y → w'.cell? ⟨g, 0 + k, none⟩ = some (.string y)) → g < w'.heap.size → xs.length ≤ c → xs.length ≤ 10 →
          Calls Tryd.prog 28 #[.slice (some ⟨g, 0, none⟩) xs.length c, .string ⟨#[32]⟩] w' fun e w'' => e = .returned (.string ⟨(lineL x).toArray⟩) ∧ Below w'.heap.size w' w'') := fun xs g c w' h1 h2 h3 h4 h5 => by
        have h6 : Lib.join (xs.map (·.data.toList)) [32] = lineL x := by unfold lineL; rw [← h1]
        have := Tryd.strings_Join g 0 c xs ⟨#[32]⟩ w' h2 h3 (by omega) h4 (by show (Lib.join (xs.map (·.data.toList)) [32]).length ≤ _; rw [h6]; omega)
        rwa [show (Lib.join (xs.map (·.data.toList)) (⟨#[32]⟩ : ByteArray).data.toList) = lineL x from h6] at this
      cases t with
      | false =>
        have hcells : ∀ (k : Nat) y, (partsB x j)[k]? = some y → wr.cell? ⟨g, 0 + k, none⟩ = some (.string y) := fun k y hk => by
          have hkl := (List.getElem?_eq_some_iff.1 hk).1
          have := hown.cellAt k (by rw [partsB_len] at hkl; omega)
          rw [Nat.zero_add, this, List.getElem?_map, hk]
          rfl
        have hcap : j + 1 ≤ gc := by
          rcases hown.2 with ⟨h, _⟩ | ⟨g', cap, cur, hv, _, _, hc, _⟩
          · cases h
          · cases hv; exact hc
        have HJ' := hide (HJ.out (partsB x j) g gc wr (by rw [HP.out]; simp) hcells hgl.2 (by rw [partsB_len]; exact hcap) (by rw [partsB_len]; omega))
        rw [partsB_len] at HJ'
        have hsum : (⟨(lineL x).toArray⟩ : ByteArray).size + (⟨#[10]⟩ : ByteArray).size ≤ 9223372036854775807 := by
          rw [size_bl, size_bl]
          simp [bl]
          omega
        have HR := hide (bytes_nl (lineL x))
        clear hnn HJ HP HS HI hown hcells
        go_wp2_with fail
        refine HJ'.out.mono ?_
        rintro e w7 ⟨rfl, hb7⟩
        go_wp2_with fail
        go_ret
        exact ⟨by show Ending.returned (.string ((⟨(lineL x).toArray⟩ : ByteArray) ++ ⟨#[10]⟩)) = _; rw [HR.out], below_step B hb7⟩
      | true =>
        have HPs : Hid (∀ ys, ys = (partsB x j).map Value.string ++ [.string x.to] → ys = (partsB x j ++ [x.to]).map Value.string) := fun ys h => by rw [h, List.map_append]; rfl
        generalize (partsB x j).map Value.string = xs at *
        obtain ⟨ri, hri, hrz, hrs, hrb⟩ := strInfo
        go_wp2_with (first
          | (at_builtin; refine wpList_append_own_at _ rfl _ _ 53 rfl (w1.heap.size + 1) 9 ri (.string ⟨#[]⟩) 1 16 Tryd.underlying53 hri hrz hrs hrb rfl (by decide) _ _ _ rfl (hown.alloc _) ⟨wr.heap.size, 0, none⟩ 1 1 [.string x.to] rfl rfl (cell_one_new _ _ _) ?c2 ?c3 ?c4 ?c5 ?_))
        case c2 => rfl
        case c3 => unfold maxLen; omega
        case c4 => omega
        case c5 => omega
        intro v' w6 hown6 hgrow6 hnil6 hloc6
        have g6 : ∀ k, (Value.slice (some ⟨g, 0, none⟩) (j + 1) gc).ownBlock = some k → g = k := fun k hk => by simpa [Value.ownBlock] using hk
        have B6 : Below w.heap.size w w6 := (B.alloc B.size _).grown hgrow6 (Nat.le_trans B.size (by simp)) (fun k hk => by have := g6 k hk; omega)
        obtain ⟨g', gc', rfl⟩ : ∃ g' gc', v' = Value.slice (some ⟨g', 0, none⟩) (j + 1 + 1) gc' := by
          rcases hown6.2 with ⟨_, h0⟩ | ⟨g, cap, cur, hv, _⟩
          · omega
          · exact ⟨g, cap, hv⟩
        have hown6' : w6.ownsRow (w1.heap.size + 1) 9 1 (.slice (some ⟨g', 0, none⟩) (j + 1 + 1) gc') (j + 1 + 1) ((partsB x j ++ [x.to]).map Value.string) := by rw [← HPs.out _ rfl]; exact hown6
        have hgl' := hown6'.lt g' rfl
        have hpl : (partsB x j ++ [x.to]).length = j + 1 + 1 := by rw [List.length_append, partsB_len]; rfl
        have hcells : ∀ (k : Nat) y, (partsB x j ++ [x.to])[k]? = some y → w6.cell? ⟨g', 0 + k, none⟩ = some (.string y) := fun k y hk => by
          have hkl := (List.getElem?_eq_some_iff.1 hk).1
          have := hown6'.cellAt k (by rw [hpl] at hkl; omega)
          rw [Nat.zero_add, this, List.getElem?_map, hk]
          rfl
        have hcap : j + 1 + 1 ≤ gc' := by
          rcases hown6'.2 with ⟨h, _⟩ | ⟨g', cap, cur, hv, _, _, hc, _⟩
          · cases h
          · cases hv; exact hc
        have HJ' := hide (HJ.out (partsB x j ++ [x.to]) g' gc' w6 (by rw [HP.out, List.map_append]; rfl) hcells hgl'.2 (by rw [hpl]; exact hcap) (by rw [hpl]; omega))
        rw [hpl] at HJ'
        have hsum : (⟨(lineL x).toArray⟩ : ByteArray).size + (⟨#[10]⟩ : ByteArray).size ≤ 9223372036854775807 := by
          rw [size_bl, size_bl]
          simp [bl]
          omega
        have HR := hide (bytes_nl (lineL x))
        clear hnn HJ HP HS HI hown hcells hown6 hown6' hgrow6 hnil6 hloc6 hri hrz hrs hrb HPs
        go_wp2_with fail
        refine HJ'.out.mono ?_
        rintro e w7 ⟨rfl, hb7⟩
        go_wp2_with fail
        go_ret
        exact ⟨by show Ending.returned (.string ((⟨(lineL x).toArray⟩ : ByteArray) ++ ⟨#[10]⟩)) = _; rw [HR.out], below_step B6 hb7⟩
end Go.Proofs.YtcajklfngeafdaaDoor
