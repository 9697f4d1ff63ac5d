/- Package code's instruction by a contract. -/
import Derived.Test.YtcajklfngeafdaaDoorProgI
namespace Go.Proofs.YtcajklfngeafdaaDoor
open Go.RowKit Go.Extern.Stop Go.Stop Go.Extern Go.Maps Go.WideMaps

/-- strings.Split at a blank: the pieces. -/
theorem split_eq (s : ByteArray) (c : UInt8) : Lib.splitB ⟨#[c]⟩ 0 (Lib.countB s ⟨#[c]⟩) s = cutS s c.toNat := by
  have h : (Lib.splitB ⟨#[c]⟩ 0 (Lib.countB s ⟨#[c]⟩) s).map bl = (cutS s c.toNat).map bl := by rw [cutS_data]; exact splitB_cutL s c
  apply List.ext_getElem?
  intro k
  have := congrArg (fun z => z[k]?) h
  simp only [List.getElem?_map] at this
  cases h1 : (Lib.splitB ⟨#[c]⟩ 0 (Lib.countB s ⟨#[c]⟩) s)[k]? <;> cases h2 : (cutS s c.toNat)[k]? <;> rw [h1, h2] at this
  · cases this
  · cases this
  · exact congrArg some (bl_inj (Option.some.inj this))
theorem cutS_ne (s : ByteArray) (c : Nat) : ∃ p q, cutS s c = p :: q := by
  unfold cutS
  cases h : (cutTo s c s.size).1 with
  | nil => exact ⟨_, [], rfl⟩
  | cons p q => exact ⟨p, q ++ [_], rfl⟩

/-- strings.Split at a blank: where the pieces lie. -/
theorem split_any (a : Nat → Addr) (s : ByteArray) (hs : s.size ≤ 100000) (w : World) (hE : EnvX a w) :
    Calls Tryd.prog 17 #[.string s, .string ⟨#[32]⟩] w fun e w' => e = .returned (.slice (some ⟨w.heap.size, 0, none⟩) (cutS s 32).length (cutS s 32).length) ∧ w' = w.alloc (.cells ((cutS s 32).map Value.string).toArray 9) := by
  obtain ⟨m, hm⟩ := hE.maxl
  have hc : Lib.splitB ⟨#[32]⟩ 0 (Lib.countB s ⟨#[32]⟩) s = cutS s 32 := split_eq s 32
  have hl : Lib.countB s ⟨#[32]⟩ + 1 = (cutS s 32).length := by
    rw [← hc]
    exact (Lib.splitB_all ⟨#[32]⟩ (by decide) 0 _ s rfl).symm
  have := Tryd.strings_Split s ⟨#[32]⟩ m w (by omega) hm (by decide)
  rwa [hl, hc] at this

/-- An empty instruction's block. -/
def zAt (R : Nat) (w : World) : Prop := (w.cell? ⟨R, 0, none⟩ = some (.string ⟨#[]⟩) ∧ w.cell? ⟨R, 1, none⟩ = some (.int .i64 0) ∧ w.cell? ⟨R, 2, none⟩ = some (.int .i64 0) ∧ w.cell? ⟨R, 3, none⟩ = some (.int .i64 0) ∧ w.cell? ⟨R, 4, none⟩ = some (.string ⟨#[]⟩)) ∧
  (w.frozen? ⟨R, 0, none⟩ = false ∧ w.frozen? ⟨R, 1, none⟩ = false ∧ w.frozen? ⟨R, 2, none⟩ = false ∧ w.frozen? ⟨R, 3, none⟩ = false ∧ w.frozen? ⟨R, 4, none⟩ = false)
theorem zAt_keep {R : Nat} {w w' : World} (h : zAt R w) (hb : Below w.heap.size w w') : zAt R w' := by
  obtain ⟨⟨h0, h1, h2, h3, h4⟩, f0, f1, f2, f3, f4⟩ := h
  have hl : R < w.heap.size := World.block_lt_of_cell? _ _ h0
  exact ⟨⟨keep_cell hb h0, keep_cell hb h1, keep_cell hb h2, keep_cell hb h3, keep_cell hb h4⟩, by rw [hb.frozen hl]; exact f0, by rw [hb.frozen hl]; exact f1, by rw [hb.frozen hl]; exact f2, by rw [hb.frozen hl]; exact f3, by rw [hb.frozen hl]; exact f4⟩
theorem zAt_alloc (w : World) : zAt w.heap.size (w.alloc (.cells #[.string ⟨#[]⟩, .int .i64 0, .int .i64 0, .int .i64 0, .string ⟨#[]⟩] 32)) := ⟨⟨by simp, by simp, by simp, by simp, by simp⟩, by simp, by simp, by simp, by simp, by simp⟩

/-- What instruction answers. -/
def insV : Option Ins → Value
  | some x => .tuple #[.agg #[.string x.op, .int .i64 x.a, .int .i64 x.b, .int .i64 x.c, .string x.to], .bool true]
  | none => .tuple #[.agg #[.string ⟨#[]⟩, .int .i64 0, .int .i64 0, .int .i64 0, .string ⟨#[]⟩], .bool false]

set_option maxRecDepth 20000 in
set_option maxHeartbeats 2000000 in
theorem instruction_any (a : Nat → Addr) (s : ByteArray) (hs : s.size ≤ 100000) (w : World) (hE : EnvX a w) :
    Calls Tryd.prog 8 #[.string s] w fun e w' => e = .returned (insV (readIns (cutS s 32))) ∧ Below w.heap.size w w' := by
  obtain ⟨p, q, hpq⟩ := cutS_ne s 32
  obtain ⟨W0, hW0⟩ : ∃ W0, W0 = w.alloc (.cells #[.string ⟨#[]⟩, .int .i64 0, .int .i64 0, .int .i64 0, .string ⟨#[]⟩] 32) := ⟨_, rfl⟩
  have hZ0 : zAt w.heap.size W0 := by rw [hW0]; exact zAt_alloc w
  have B0 : Below w.heap.size w W0 := by rw [hW0]; exact (Below.refl _ _).alloc (Nat.le_refl _) _
  have HS := hide (split_any a s hs W0 (hE.below B0))
  rw [hpq] at HS ⊢
  have hplen : (p :: q).length = q.length + 1 := rfl
  rw [hplen] at HS
  go_enter Tryd.func8, Tryd.ntmps8
  go_wp2_with fail
  rw [← hW0]
  refine HS.out.mono ?_
  rintro e w1 ⟨rfl, hw1⟩
  have hp : Hid (∀ (k : Nat) y, (p :: q)[k]? = some y → w1.cell? ⟨W0.heap.size, k, none⟩ = some (.string y)) := fun k y hk => by
    rw [hw1, World.cell?_alloc_new]
    simp only [List.getElem?_toArray, List.getElem?_map, hk]
    rfl
  have hb1 : Below W0.heap.size W0 w1 := by rw [hw1]; exact (Below.refl _ _).alloc (Nat.le_refl _) _
  have B1 := below_step B0 hb1
  have hZ1 := hide (zAt_keep hZ0 hb1)
  have hp0 := hp.out 0 p rfl
  clear hw1 HS hW0 hZ0 B0
  have HK : Hid (∀ w', Calls Tryd.prog 18 #[.string p] w' fun e w'' => e = .returned (kindRet (shape p.toList)) ∧ Below w'.heap.size w' w'') := fun w' => kindOf_any p w'
  have HR := readIns_cons p q
  cases hS : shape p.toList with
  | none =>
    rw [hS] at HR
    dsimp only at HR
    replace HR := hide HR
    rw [hS, show kindRet none = .tuple #[.agg #[.int .i64 0, .int .i64 0, .int .i64 0, .bool false], .bool false] by kernel_rfl] at HK
    go_wp2_with fail
    refine (HK.out _).mono ?_
    rintro e w2 ⟨rfl, hb2⟩
    have B2 := below_step B1 hb2
    have hZ2 := zAt_keep hZ1.out hb2
    obtain ⟨⟨z0, z1, z2, z3, z4⟩, y0, y1, y2, y3, y4⟩ := hZ2
    have hlt : w.heap.size < w2.heap.size := World.block_lt_of_cell? _ _ z0
    have B3 := B2.alloc B2.size (.cells #[.int .i64 0, .int .i64 0, .int .i64 0, .bool false] 57)
    clear HK hb2 hZ1 hp hp0
    go_wp2_with fail
    refine bodyPost_ret (v := .tuple #[.agg #[.string ⟨#[]⟩, .int .i64 0, .int .i64 0, .int .i64 0, .string ⟨#[]⟩], .bool false]) (by simp only [results, Tryd.results8]; go_simp) rfl ⟨by rw [HR.out]; rfl, ?_⟩
    exact (((((B2.setCell (Nat.le_refl _) _).setCell (Nat.le_refl _) _).setCell (Nat.le_refl _) _).setCell (Nat.le_refl _) _).setCell (Nat.le_refl _) _).alloc (by simp; exact B2.size) _
  | some S =>
    rw [hS] at HR
    dsimp only at HR
    rw [hS, show kindRet (some S) = .tuple #[.agg #[.int .i64 (limOf S 0), .int .i64 (limOf S 1), .int .i64 (limOf S 2), .bool (hasTo S)], .bool true] from rfl] at HK
    obtain ⟨⟨f1, f2⟩, -, -⟩ := table_facts _ (shape_mem hS)
    dsimp only at f1 f2
    have HPa : Hid (∀ w', Calls Tryd.prog 19 #[.agg #[.int .i64 (limOf S 0), .int .i64 (limOf S 1), .int .i64 (limOf S 2), .bool (hasTo S)]] w' fun e w'' => e = .returned (.int .i64 (S.length + 1)) ∧ Below w'.heap.size w' w'') := fun w' => by
      have := parts_any (limOf S 0) (limOf S 1) (limOf S 2) (hasTo S) w'
      rw [one_sum hS] at this
      rwa [show ((nums S : Int) + if hasTo S = true then 2 else 1) = S.length + 1 by cases h : hasTo S <;> simp [h] at f1 ⊢ <;> omega] at this
    have HCo : Hid (∀ w', Calls Tryd.prog 20 #[.agg #[.int .i64 (limOf S 0), .int .i64 (limOf S 1), .int .i64 (limOf S 2), .bool (hasTo S)]] w' fun e w'' => e = .returned (.int .i64 (nums S)) ∧ Below w'.heap.size w' w'') := fun w' => by rw [← one_sum hS]; exact kcount_any _ _ _ _ w'
    have HNu : Hid (∀ y w', EnvX a w' → Calls Tryd.prog 21 #[.string y] w' fun e w'' => ∃ n b, e = .returned (.tuple #[.int .i64 n, .bool b]) ∧ numAns y n b ∧ Below w'.heap.size w' w'') := fun y w' h => number_any a y w' h
    generalize limOf S 0 = l0 at *
    generalize limOf S 1 = l1 at *
    generalize limOf S 2 = l2 at *
    generalize hasTo S = t at *
    generalize nums S = m at *
    go_wp2_with fail
    refine (HK.out _).mono ?_
    rintro e w2 ⟨rfl, hb2⟩
    obtain ⟨W2, hW2⟩ : ∃ W2, W2 = w2.alloc (.cells #[.int .i64 l0, .int .i64 l1, .int .i64 l2, .bool t] 57) := ⟨_, rfl⟩
    have hbb : Below w2.heap.size w2 W2 := by rw [hW2]; exact (Below.refl _ _).alloc (Nat.le_refl _) _
    have k0 : W2.cell? ⟨w2.heap.size, 0, none⟩ = some (.int .i64 l0) := by rw [hW2]; simp
    have k1 : W2.cell? ⟨w2.heap.size, 1, none⟩ = some (.int .i64 l1) := by rw [hW2]; simp
    have k2 : W2.cell? ⟨w2.heap.size, 2, none⟩ = some (.int .i64 l2) := by rw [hW2]; simp
    have k3 : W2.cell? ⟨w2.heap.size, 3, none⟩ = some (.bool t) := by rw [hW2]; simp
    have hb12 := below_step hb2 hbb
    have B2 := below_step B1 hb12
    have hZ2 := hide (zAt_keep hZ1.out hb12)
    have hp2 : Hid (∀ (k : Nat) y, (p :: q)[k]? = some y → W2.cell? ⟨W0.heap.size, k, none⟩ = some (.string y)) := fun k y hk => keep_cell hb12 (hp.out k y hk)
    clear HK hb2 hZ1 hp hp0 hbb hb12 B1
    go_wp2_with fail
    rw [← hW2]
    clear hW2
    refine (HPa.out _).mono ?_
    rintro e w3 ⟨rfl, hb3⟩
    have B3 := below_step B2 hb3
    have hZ3 := hide (zAt_keep hZ2.out hb3)
    have hp3 : Hid (∀ (k : Nat) y, (p :: q)[k]? = some y → w3.cell? ⟨W0.heap.size, k, none⟩ = some (.string y)) := fun k y hk => keep_cell hb3 (hp2.out k y hk)
    replace k0 := keep_cell hb3 k0
    replace k1 := keep_cell hb3 k1
    replace k2 := keep_cell hb3 k2
    replace k3 := keep_cell hb3 k3
    clear hb3 hZ2 hp2 B2 HPa
    by_cases hql : q.length = S.length
    rotate_left
    · have hne : ((((q.length : Nat) : Int) + 1) != (((S.length : Nat) : Int) + 1)) = true := by rw [bne_iff_ne]; omega
      rw [if_neg (fun h => hql h.1)] at HR
      replace HR := hide HR
      obtain ⟨⟨z0, z1, z2, z3, z4⟩, y0, y1, y2, y3, y4⟩ := hZ3.out
      clear hp3 hZ3 k0 k1 k2 k3
      go_wp2_with fail
      refine bodyPost_ret (v := .tuple #[.agg #[.string ⟨#[]⟩, .int .i64 0, .int .i64 0, .int .i64 0, .string ⟨#[]⟩], .bool false]) (by simp only [results, Tryd.results8]; go_simp) rfl ⟨by rw [HR.out]; rfl, ?_⟩
      exact (((((B3.setCell (Nat.le_refl _) _).setCell (Nat.le_refl _) _).setCell (Nat.le_refl _) _).setCell (Nat.le_refl _) _).setCell (Nat.le_refl _) _)
    · have hne : ((((q.length : Nat) : Int) + 1) != (((S.length : Nat) : Int) + 1)) = false := by rw [bne_eq_false_iff_eq]; omega
      have hk2 : w2.heap.size < w3.heap.size := World.block_lt_of_cell? _ _ k3
      have hW0lt : W0.heap.size < w3.heap.size := World.block_lt_of_cell? _ _ (hp3.out 0 p rfl)
      have hwlt : w.heap.size < w3.heap.size := World.block_lt_of_cell? _ _ hZ3.out.1.1
      obtain ⟨W3, hW3⟩ : ∃ W3, W3 = w3.alloc (.cells #[.int .i64 0, .int .i64 0, .int .i64 0] 55) := ⟨_, rfl⟩
      have hbb : Below w3.heap.size w3 W3 := by rw [hW3]; exact (Below.refl _ _).alloc (Nat.le_refl _) _
      have hnc : Hid (∀ k, k < 3 → W3.cell? ⟨w3.heap.size, k, none⟩ = some (.int .i64 (numOn q 0 k)) ∧ W3.frozen? ⟨w3.heap.size, k, none⟩ = false) := fun k hk => by
        rw [hW3]
        match k, hk with
        | 0, _ => exact ⟨by simp [numOn], by simp⟩
        | 1, _ => exact ⟨by simp [numOn], by simp⟩
        | 2, _ => exact ⟨by simp [numOn], by simp⟩
      have hZb := hide (zAt_keep hZ3.out hbb)
      have hpb : Hid (∀ (k : Nat) y, (p :: q)[k]? = some y → W3.cell? ⟨W0.heap.size, k, none⟩ = some (.string y)) := fun k y hk => keep_cell hbb (hp3.out k y hk)
      have k3b := keep_cell hbb k3
      have B3b := below_step B3 hbb
      go_wp2_with fail
      rw [← hW3]
      clear hW3 hbb hZ3 hp3 B3 k0 k1 k2 k3
      refine (HCo.out _).mono ?_
      rintro e w4 ⟨rfl, hb4⟩
      have hN : w3.heap.size < W3.heap.size := World.block_lt_of_cell? _ _ (hnc.out 0 (by decide)).1
      have hZ4 := hide (zAt_keep hZb.out hb4)
      have hp4 : Hid (∀ (k : Nat) y, (p :: q)[k]? = some y → w4.cell? ⟨W0.heap.size, k, none⟩ = some (.string y)) := fun k y hk => keep_cell hb4 (hpb.out k y hk)
      have k34 := keep_cell hb4 k3b
      have hn4 : Hid (∀ k, k < 3 → w4.cell? ⟨w3.heap.size, k, none⟩ = some (.int .i64 (numOn q 0 k)) ∧ w4.frozen? ⟨w3.heap.size, k, none⟩ = false) := fun k hk => ⟨keep_cell hb4 (hnc.out k hk).1, by rw [hb4.frozen hN]; exact (hnc.out k hk).2⟩
      have B4 := below_step B3b hb4
      clear hb4 hZb hpb B3b k3b hnc
      have hs4 : w3.heap.size < w4.heap.size := World.block_lt_of_cell? _ _ (hn4.out 0 (by decide)).1
      go_wp2_with fail
      go_loopw [6, 8, 31] (fun _ _ i wr => ∃ j : Nat, j ≤ m ∧ i = .int .i64 j ∧ Below w.heap.size w wr ∧ w3.heap.size < wr.heap.size ∧ Hid (zAt w.heap.size wr) ∧ wr.cell? ⟨w2.heap.size, 3, none⟩ = some (.bool t) ∧
          Hid (∀ (k : Nat) y, (p :: q)[k]? = some y → wr.cell? ⟨W0.heap.size, k, none⟩ = some (.string y)) ∧ Hid (∀ k, k < 3 → wr.cell? ⟨w3.heap.size, k, none⟩ = some (.int .i64 (numOn q j k)) ∧ wr.frozen? ⟨w3.heap.size, k, none⟩ = false) ∧
          Hid (∀ k, k < j → (numL (bl (q.getD k ⟨#[]⟩))).isSome = true)) (fun _ _ i _ => m - (intOf i).toNat)
      case atStart => exact ⟨0, Nat.zero_le _, rfl, B4, hs4, hZ4, k34, hp4, hn4, fun k h => absurd h (Nat.not_lt_zero _)⟩
      case round =>
        clear hZ4 k34 hp4 hn4 hs4 B4
        obtain ⟨j, hj, rfl, B, hs, hZ, k3, hpp, hn, HJ⟩ := hrel
        by_cases hlt : j < m
        · have ji : (j : Int) < m := by omega
          obtain ⟨y, hy⟩ : ∃ y, q[j]? = some y := ⟨_, List.getElem?_eq_getElem (by rw [hql]; split at f1 <;> omega)⟩
          have hyd : q.getD j ⟨#[]⟩ = y := by rw [List.getD_eq_getElem?_getD, hy]; rfl
          have hcy := hpp.out (j + 1) y (by simpa using hy)
          have j3 : (j : Int) < 3 := by omega
          have HNy := hide (HNu.out y wr (hE.below B))
          have hcj := hn.out j (by omega)
          obtain ⟨hcj1, hcj2⟩ := hcj
          have jS : (1 : Int) + j < S.length + 1 := by split at f1 <;> omega
          have jS2 : 1 + j < S.length + 1 := by split at f1 <;> omega
          rw [Nat.add_comm j 1] at hcy
          go_wp2_with fail
          refine HNy.out.mono ?_
          rintro e w5 ⟨n, b, rfl, ⟨hans1, hans2⟩, hb5⟩
          have B5 := below_step B hb5
          have hs5 := hb5.size
          have hZ5 := hide (zAt_keep hZ.out hb5)
          have hp5 : Hid (∀ (k : Nat) y, (p :: q)[k]? = some y → w5.cell? ⟨W0.heap.size, k, none⟩ = some (.string y)) := fun k y hk => keep_cell hb5 (hpp.out k y hk)
          have hn5 : Hid (∀ k, k < 3 → w5.cell? ⟨w3.heap.size, k, none⟩ = some (.int .i64 (numOn q j k)) ∧ w5.frozen? ⟨w3.heap.size, k, none⟩ = false) := fun k hk => ⟨keep_cell hb5 (hn.out k hk).1, by rw [hb5.frozen hs]; exact (hn.out k hk).2⟩
          have hcj1 := keep_cell hb5 hcj1
          have hcj2 := (hn5.out j (by omega)).2
          replace k3 := keep_cell hb5 k3
          clear hb5 hn hpp hZ HNy hcy
          cases b with
          | true =>
            obtain ⟨u, hu⟩ := Option.isSome_iff_exists.1 hans1.symm
            obtain rfl := hans2 u hu
            have hN6 : Hid (∀ k, k < 3 → (w5.setCell ⟨w3.heap.size, j, none⟩ (.int .i64 u)).cell? ⟨w3.heap.size, k, none⟩ = some (.int .i64 (numOn q (j + 1) k)) ∧ (w5.setCell ⟨w3.heap.size, j, none⟩ (.int .i64 u)).frozen? ⟨w3.heap.size, k, none⟩ = false) := fun k hk => by
              refine ⟨?_, by rw [World.frozen?_setCell]; exact (hn5.out k hk).2⟩
              by_cases e : k = j
              · subst e
                rw [World.cell?_setCell_same _ _ _ hcj1]
                unfold numOn
                rw [if_pos (by omega), hyd, hu]
                rfl
              · rw [cell_ne (hn5.out k hk).1 (.inr e)]
                unfold numOn
                by_cases h1 : k < j
                · rw [if_pos h1, if_pos (by omega)]
                · rw [if_neg h1, if_neg (by omega)]
            have hZ6 : Hid (zAt w.heap.size (w5.setCell ⟨w3.heap.size, j, none⟩ (.int .i64 u))) := by
              obtain ⟨⟨z0, z1, z2, z3, z4⟩, y0, y1, y2, y3, y4⟩ := hZ5.out
              have hne' : w.heap.size ≠ w3.heap.size ∨ ∀ o : Nat, o ≠ j := .inl (by omega)
              exact ⟨⟨cell_ne z0 (.inl (by omega)), cell_ne z1 (.inl (by omega)), cell_ne z2 (.inl (by omega)), cell_ne z3 (.inl (by omega)), cell_ne z4 (.inl (by omega))⟩, by rw [World.frozen?_setCell]; exact y0, by rw [World.frozen?_setCell]; exact y1, by rw [World.frozen?_setCell]; exact y2, by rw [World.frozen?_setCell]; exact y3, by rw [World.frozen?_setCell]; exact y4⟩
            have hp6 : Hid (∀ (k : Nat) y, (p :: q)[k]? = some y → (w5.setCell ⟨w3.heap.size, j, none⟩ (.int .i64 u)).cell? ⟨W0.heap.size, k, none⟩ = some (.string y)) := fun k y hk => cell_ne (hp5.out k y hk) (.inl (by omega))
            have k36 := cell_ne (b := w3.heap.size) (o := j) (v := .int .i64 u) k3 (.inl (by omega))
            have B6 : Below w.heap.size w (w5.setCell ⟨w3.heap.size, j, none⟩ (.int .i64 u)) := B5.setCell (by show _ ≤ w3.heap.size; omega) _
            have HJ6 : Hid (∀ k, k < j + 1 → (numL (bl (q.getD k ⟨#[]⟩))).isSome = true) := fun k hk => by
              by_cases e : k = j
              · rw [e, hyd, hu]; rfl
              · exact HJ.out k (by omega)
            have hs6 : w3.heap.size < (w5.setCell ⟨w3.heap.size, j, none⟩ (.int .i64 u)).heap.size := by simp [World.setCell]; omega
            clear hZ5 hp5 hn5 B5 HJ hans1 hans2
            go_wp2_with fail
            go_roundw
            case rel => exact ⟨j + 1, by omega, by go_num, B6, hs6, hZ6, k36, hp6, hN6, HJ6⟩
            case measure => simp [intOf]; omega
          | false =>
            have hnone : numL (bl y) = none := by
              cases h : numL (bl y) with
              | none => rfl
              | some u => rw [h] at hans1; cases hans1
            have HRn : Hid (readIns (p :: q) = none) := by
              show _ = _
              rw [HR, if_neg]
              rintro ⟨_, h⟩
              have := List.all_eq_true.1 h j (List.mem_range.2 hlt)
              rw [hyd, hnone] at this
              cases this
            obtain ⟨⟨z0, z1, z2, z3, z4⟩, y0, y1, y2, y3, y4⟩ := hZ5.out
            have hwn : w.heap.size ≠ w3.heap.size := by omega
            clear hZ5 hp5 hn5 HJ hans1 hans2 HR
            go_wp2_with fail
            refine bodyPost_ret (v := .tuple #[.agg #[.string ⟨#[]⟩, .int .i64 0, .int .i64 0, .int .i64 0, .string ⟨#[]⟩], .bool false]) (by simp only [results, Tryd.results8]; go_simp) rfl ⟨by rw [HRn.out]; rfl, ?_⟩
            exact (((((B5.setCell (by show _ ≤ w3.heap.size; omega) _).setCell (Nat.le_refl _) _).setCell (Nat.le_refl _) _).setCell (Nat.le_refl _) _).setCell (Nat.le_refl _) _).setCell (Nat.le_refl _) _
        · obtain rfl : j = m := by omega
          have HRs : Hid (readIns (p :: q) = some ⟨p, numOn q j 0, numOn q j 1, numOn q j 2, if t = true then q.getD j ⟨#[]⟩ else ⟨#[]⟩⟩) := by
            show _ = _
            rw [HR, if_pos ⟨hql, List.all_eq_true.2 (fun k hk => HJ.out k (List.mem_range.1 hk))⟩]
          have hp0 := hpp.out 0 p rfl
          have n0 := (hn.out 0 (by decide)).1
          have n1 := (hn.out 1 (by decide)).1
          have n2 := (hn.out 2 (by decide)).1
          obtain ⟨⟨z0, z1, z2, z3, z4⟩, y0, y1, y2, y3, y4⟩ := hZ.out
          have hR0 : w.heap.size < wr.heap.size := by omega
          have hK0 : w2.heap.size < wr.heap.size := by omega
          have hP0 : W0.heap.size < wr.heap.size := by omega
          clear HR HJ hn hZ
          generalize numOn q j 0 = v0 at *
          generalize numOn q j 1 = v1 at *
          generalize numOn q j 2 = v2 at *
          cases t with
          | false =>
            clear hpp
            go_wp2_with fail
            go_region
            go_wp2_with fail
            refine bodyPost_ret (v := .tuple #[.agg #[.string p, .int .i64 v0, .int .i64 v1, .int .i64 v2, .string ⟨#[]⟩], .bool true]) (by simp only [results, Tryd.results8]; go_simp) rfl ⟨by rw [HRs.out]; rfl, ?_⟩
            exact ((((((B.setCell (Nat.le_refl _) _).setCell (Nat.le_refl _) _).setCell (Nat.le_refl _) _).setCell (Nat.le_refl _) _).setCell (Nat.le_refl _) _).alloc (by simp; exact B.size) _).drew
          | true =>
            obtain ⟨y, hy⟩ : ∃ y, q[j]? = some y := ⟨_, List.getElem?_eq_getElem (by simp at f1; omega)⟩
            have hyd : q.getD j ⟨#[]⟩ = y := by rw [List.getD_eq_getElem?_getD, hy]; rfl
            have hcy := hpp.out (j + 1) y (by simpa using hy)
            have hjS : j + 1 = S.length := by simpa using f1
            rw [hyd] at HRs
            rw [hjS] at hcy
            clear hpp
            go_wp2_with fail
            go_region
            go_wp2_with fail
            refine bodyPost_ret (v := .tuple #[.agg #[.string p, .int .i64 v0, .int .i64 v1, .int .i64 v2, .string y], .bool true]) (by simp only [results, Tryd.results8]; go_simp) rfl ⟨by rw [HRs.out]; rfl, ?_⟩
            exact ((((((B.setCell (Nat.le_refl _) _).setCell (Nat.le_refl _) _).setCell (Nat.le_refl _) _).setCell (Nat.le_refl _) _).setCell (Nat.le_refl _) _).alloc (by simp; exact B.size) _).drew
end Go.Proofs.YtcajklfngeafdaaDoor
