/- quiescentref1.lineOf by a contract. -/
import Derived.Test.YtcajklfngeafdaaGreatDoorCodeH
import Derived.Test.YtcajklfngeafdaaGreatDoorPureG
import Derived.Test.YtcajklfngeafdaaGreatDoorProgJ
namespace Go.Proofs.YtcajklfngeafdaaGreatDoor
open Go.RowKit Go.Extern.Stop Go.Stop Go.Extern

/-- An instruction's block. -/
def xAt (X : Nat) (p : ByteArray) (a b c : Int) (z : ByteArray) (w : World) : Prop := (w.cell? ⟨X, 0, none⟩ = some (.string p) ∧ w.cell? ⟨X, 1, none⟩ = some (.int .i64 a) ∧ w.cell? ⟨X, 2, none⟩ = some (.int .i64 b) ∧ w.cell? ⟨X, 3, none⟩ = some (.int .i64 c) ∧ w.cell? ⟨X, 4, none⟩ = some (.string z)) ∧
  (w.frozen? ⟨X, 0, none⟩ = false ∧ w.frozen? ⟨X, 1, none⟩ = false ∧ w.frozen? ⟨X, 2, none⟩ = false ∧ w.frozen? ⟨X, 3, none⟩ = false ∧ w.frozen? ⟨X, 4, none⟩ = false)
theorem xAt_new {w : World} {p : ByteArray} (t : TypeId) : xAt w.heap.size p 0 0 0 ⟨#[]⟩ (w.alloc (.cells #[.string p, .int .i64 0, .int .i64 0, .int .i64 0, .string ⟨#[]⟩] t)) := ⟨⟨by simp, by simp, by simp, by simp, by simp⟩, by simp, by simp, by simp, by simp, by simp⟩
theorem xAt_a {X : Nat} {p z : ByteArray} {a b c : Int} {w : World} (h : xAt X p a b c z w) (v : Int) : xAt X p v b c z (w.setCell ⟨X, 1, none⟩ (.int .i64 v)) := by
  obtain ⟨⟨h0, h1, h2, h3, h4⟩, f⟩ := h
  exact ⟨⟨cell_ne h0 (.inr (by decide)), World.cell?_setCell_same _ _ _ h1, cell_ne h2 (.inr (by decide)), cell_ne h3 (.inr (by decide)), cell_ne h4 (.inr (by decide))⟩, by simpa only [World.frozen?_setCell] using f⟩
theorem xAt_b {X : Nat} {p z : ByteArray} {a b c : Int} {w : World} (h : xAt X p a b c z w) (v : Int) : xAt X p a v c z (w.setCell ⟨X, 2, none⟩ (.int .i64 v)) := by
  obtain ⟨⟨h0, h1, h2, h3, h4⟩, f⟩ := h
  exact ⟨⟨cell_ne h0 (.inr (by decide)), cell_ne h1 (.inr (by decide)), World.cell?_setCell_same _ _ _ h2, cell_ne h3 (.inr (by decide)), cell_ne h4 (.inr (by decide))⟩, by simpa only [World.frozen?_setCell] using f⟩
theorem xAt_c {X : Nat} {p z : ByteArray} {a b c : Int} {w : World} (h : xAt X p a b c z w) (v : Int) : xAt X p a b v z (w.setCell ⟨X, 3, none⟩ (.int .i64 v)) := by
  obtain ⟨⟨h0, h1, h2, h3, h4⟩, f⟩ := h
  exact ⟨⟨cell_ne h0 (.inr (by decide)), cell_ne h1 (.inr (by decide)), cell_ne h2 (.inr (by decide)), World.cell?_setCell_same _ _ _ h3, cell_ne h4 (.inr (by decide))⟩, by simpa only [World.frozen?_setCell] using f⟩
theorem xAt_to {X : Nat} {p z : ByteArray} {a b c : Int} {w : World} (h : xAt X p a b c z w) (v : ByteArray) : xAt X p a b c v (w.setCell ⟨X, 4, none⟩ (.string v)) := by
  obtain ⟨⟨h0, h1, h2, h3, h4⟩, f⟩ := h
  exact ⟨⟨cell_ne h0 (.inr (by decide)), cell_ne h1 (.inr (by decide)), cell_ne h2 (.inr (by decide)), cell_ne h3 (.inr (by decide)), World.cell?_setCell_same _ _ _ h4⟩, by simpa only [World.frozen?_setCell] using f⟩

theorem zAt_set {R X o : Nat} {w : World} {v : Value} (h : zAt R w) (hne : R ≠ X) : zAt R (w.setCell ⟨X, o, none⟩ v) := by
  obtain ⟨⟨h0, h1, h2, h3, h4⟩, f⟩ := h
  exact ⟨⟨cell_ne h0 (.inl hne), cell_ne h1 (.inl hne), cell_ne h2 (.inl hne), cell_ne h3 (.inl hne), cell_ne h4 (.inl hne)⟩, by simpa only [World.frozen?_setCell] using f⟩

set_option maxRecDepth 20000 in
set_option maxHeartbeats 2000000 in
theorem lineOf_any (s : ByteArray) (hs : s.size ≤ 100000) (w : World) :
    Calls Tryz.prog 33 #[.string s] w fun e w' => e = .returned (insV (readLine s)) ∧ Below w.heap.size w w' := by
  obtain ⟨p, q, hpq⟩ := cutS_ne s 32
  obtain ⟨W0, hW0⟩ : ∃ W0, W0 = w.alloc (.cells #[.string ⟨#[]⟩, .int .i64 0, .int .i64 0, .int .i64 0, .string ⟨#[]⟩] 25) := ⟨_, rfl⟩
  have hZ0 : zAt w.heap.size W0 := by rw [hW0]; exact zAt_alloc w
  have B0 : Below w.heap.size w W0 := by rw [hW0]; exact (Below.refl _ _).alloc (Nat.le_refl _) _
  have HC : Hid (Calls Tryz.prog 32 #[.string s, .int .u8 32] W0 fun e w' => ∃ v, e = .returned v ∧ w'.ownsRow W0.heap.size 9 1 v (p :: q).length ((p :: q).map Value.string) ∧ Below W0.heap.size W0 w') := by
    show Calls _ _ _ _ _
    rw [← hpq]; exact cut_any s 32 (by omega) W0
  have hR0 : w.heap.size < W0.heap.size := by rw [hW0]; simp
  unfold readLine
  rw [hpq]
  go_enter Tryz.func33, Tryz.ntmps33
  go_wp2_with fail
  rw [← hW0]
  refine HC.out.mono ?_
  rintro e w1 ⟨v, rfl, hrow, hb1⟩
  clear HC
  have hplen : (p :: q).length = q.length + 1 := rfl
  rw [hplen] at hrow
  obtain ⟨g, gc, rfl⟩ : ∃ g gc, v = .slice (some ⟨g, 0, none⟩) (q.length + 1) gc := by
    rcases hrow.2 with ⟨_, h0⟩ | ⟨g, cap, cur, hv, _⟩
    · omega
    · exact ⟨g, cap, hv⟩
  obtain ⟨hg1, hg2⟩ := hrow.lt g rfl
  have hp : Hid (∀ (k : Nat) y, (p :: q)[k]? = some y → w1.cell? ⟨g, k, none⟩ = some (.string y)) := fun k y hk => by
    have hkl := (List.getElem?_eq_some_iff.1 hk).1
    have := hrow.cellAt k (by omega)
    rw [this, List.getElem?_map, hk]
    rfl
  have B1 := below_step B0 hb1
  have hZ1 := hide (zAt_keep hZ0 hb1)
  have hp0 := hp.out 0 p rfl
  clear hrow hb1 hZ0 B0 hW0
  have HK := hide (shape_any p w1)
  have HR := readIns_cons p q
  cases hS : shape p.toList with
  | none =>
    rw [hS] at HR HK
    dsimp only at HR
    replace HR := hide HR
    rw [show shapeV none = .tuple #[.string ⟨#[]⟩, .bool false] from rfl] at HK
    obtain ⟨⟨z0, z1, z2, z3, z4⟩, y0, y1, y2, y3, y4⟩ := hZ1.out
    clear hZ1 hp
    go_wp2_with fail
    refine HK.out.mono ?_
    rintro e w2 ⟨rfl, rfl⟩
    clear HK
    go_wp2_with fail
    refine bodyPost_ret (v := .tuple #[.agg #[.string ⟨#[]⟩, .int .i64 0, .int .i64 0, .int .i64 0, .string ⟨#[]⟩], .bool false]) (by simp only [results, Tryz.results33]; go_simp) rfl ⟨by rw [HR.out]; rfl, ?_⟩
    exact (((((B1.setCell (Nat.le_refl _) _).setCell (Nat.le_refl _) _).setCell (Nat.le_refl _) _).setCell (Nat.le_refl _) _).setCell (Nat.le_refl _) _)
  | some S =>
    rw [hS] at HR HK
    dsimp only at HR
    rw [show shapeV (some S) = .tuple #[.string ⟨S.toArray⟩, .bool true] from rfl] at HK
    have hS' := shape_mem hS
    obtain ⟨⟨f1, f2⟩, -, f3⟩ := table_facts _ hS'
    dsimp only at f1 f2 f3
    have hSz : (⟨S.toArray⟩ : ByteArray).size = S.length := by simp [ByteArray.size]
    rw [← hSz] at HR f1 f3
    generalize (⟨S.toArray⟩ : ByteArray) = SB at *
    have n3 : SB.size ≤ 3 := by
      have := (by decide +kernel : ∀ p ∈ table, p.2.length ≤ 3) _ hS'
      rw [hSz]; exact this
    clear hSz hS'
    have i3 : (SB.size : Int) ≤ 3 := by omega
    have hHN : Hid (∀ y w', Calls Tryz.prog 53 #[.string y] w' fun e w'' => e = .returned (.tuple #[.int .i64 ((numL (bl y)).getD 0 : Nat), .bool (numL (bl y)).isSome]) ∧ w'' = w') := fun y w' => by
      rw [← numOf_numL]; exact numberOf_any y w'
    generalize hasTo S = t at *
    generalize nums S = m at *
    clear hS
    by_cases hql : q.length = SB.size
    rotate_left
    · have hne : ((((q.length : Nat) : Int) + 1) != (((SB.size : Nat) : Int) + 1)) = true := by rw [bne_iff_ne]; omega
      rw [if_neg (fun h => hql h.1)] at HR
      replace HR := hide HR
      obtain ⟨⟨z0, z1, z2, z3, z4⟩, y0, y1, y2, y3, y4⟩ := hZ1.out
      clear hp hZ1 f1 f2 f3 hHN
      go_wp2_with fail
      refine HK.out.mono ?_
      rintro e w2 ⟨rfl, rfl⟩
      clear HK
      go_wp2_with fail
      refine bodyPost_ret (v := .tuple #[.agg #[.string ⟨#[]⟩, .int .i64 0, .int .i64 0, .int .i64 0, .string ⟨#[]⟩], .bool false]) (by simp only [results, Tryz.results33]; go_simp) rfl ⟨by rw [HR.out]; rfl, ?_⟩
      exact (((((B1.setCell (Nat.le_refl _) _).setCell (Nat.le_refl _) _).setCell (Nat.le_refl _) _).setCell (Nat.le_refl _) _).setCell (Nat.le_refl _) _)
    · have hne : ((((q.length : Nat) : Int) + 1) != (((SB.size : Nat) : Int) + 1)) = false := by rw [bne_eq_false_iff_eq]; omega
      go_wp2_with fail
      refine HK.out.mono ?_
      rintro e w2 ⟨rfl, rfl⟩
      clear HK
      obtain ⟨W3, hW3⟩ : ∃ W3, W3 = w2.alloc (.cells #[.string p, .int .i64 0, .int .i64 0, .int .i64 0, .string ⟨#[]⟩] 25) := ⟨_, rfl⟩
      have hbb : Below w2.heap.size w2 W3 := by rw [hW3]; exact (Below.refl _ _).alloc (Nat.le_refl _) _
      have hX3 : Hid (xAt w2.heap.size p (numOn q (min 0 m) 0) (numOn q (min 0 m) 1) (numOn q (min 0 m) 2) (if m < 0 then q.getD m ⟨#[]⟩ else ⟨#[]⟩) W3) := by
        show xAt _ _ _ _ _ _ _
        rw [Nat.zero_min, if_neg (Nat.not_lt_zero _), hW3]; exact xAt_new _
      have hZ3 := hide (zAt_keep hZ1.out hbb)
      have hp3 : Hid (∀ (k : Nat) y, (p :: q)[k]? = some y → W3.cell? ⟨g, k, none⟩ = some (.string y)) := fun k y hk => keep_cell hbb (hp.out k y hk)
      have B3 := below_step B1 hbb
      have hs3 : w2.heap.size < W3.heap.size := by rw [hW3]; simp
      clear hp hZ1 hbb B1
      go_wp2_with fail
      rw [← hW3]
      clear hW3 hp0
      go_loopw [8] (fun i wr => ∃ j : Nat, j ≤ SB.size ∧ i = .int .i64 j ∧ Below w.heap.size w wr ∧ w2.heap.size < wr.heap.size ∧ Hid (zAt w.heap.size wr) ∧
          Hid (xAt w2.heap.size p (numOn q (min j m) 0) (numOn q (min j m) 1) (numOn q (min j m) 2) (if m < j then q.getD m ⟨#[]⟩ else ⟨#[]⟩) wr) ∧
          Hid (∀ (k : Nat) y, (p :: q)[k]? = some y → wr.cell? ⟨g, k, none⟩ = some (.string y)) ∧ Hid (∀ k, k < min j m → (numL (bl (q.getD k ⟨#[]⟩))).isSome = true)) (fun i _ => SB.size - (intOf i).toNat)
      case atStart => exact ⟨0, Nat.zero_le _, rfl, B3, hs3, hZ3, hX3, hp3, fun k h => absurd h (by omega)⟩
      case round =>
        clear hZ3 hX3 hp3 hs3 B3
        obtain ⟨j, hj, rfl, B, hs, hZ, hX, hpp, HJ⟩ := hrel
        by_cases hlt : j < SB.size
        · have ji : (j : Int) < SB.size := by omega
          have j3 : (j : Int) < 3 := by omega
          obtain ⟨y, hy⟩ : ∃ y, q[j]? = some y := ⟨_, List.getElem?_eq_getElem (by omega)⟩
          have hyd : q.getD j ⟨#[]⟩ = y := by rw [List.getD_eq_getElem?_getD, hy]; rfl
          have hcy := hpp.out (j + 1) y (by simpa using hy)
          have jS : (j : Int) + 1 < SB.size + 1 := by omega
          have jS2 : j + 1 < SB.size + 1 := by omega
          have hwn : w.heap.size ≠ w2.heap.size := by omega
          have hgn : g ≠ w2.heap.size := by omega
          have hbt := byteAt_lt hlt
          have hff := f3 j (by omega) hlt
          by_cases hm : m ≤ j
          · have e2 : ((SB[j]'hlt).toNat : Int) = 108 := by have := hff.2 hm; omega
            have e1 : (((SB[j]'hlt).toNat : Int) == 108) = true := beq_iff_eq.2 e2
            obtain rfl : j = m := by split at f1 <;> omega
            obtain ⟨⟨x0, x1, x2, x3, x4⟩, y0, y1, y2, y3, y4⟩ := hX.out
            have hX' : Hid (xAt w2.heap.size p (numOn q (min (j + 1) j) 0) (numOn q (min (j + 1) j) 1) (numOn q (min (j + 1) j) 2) (if j < j + 1 then q.getD j ⟨#[]⟩ else ⟨#[]⟩) (wr.setCell ⟨w2.heap.size, 4, none⟩ (.string y))) := by
              show xAt _ _ _ _ _ _ _
              rw [show min (j + 1) j = min j j by omega, if_pos (by omega), hyd]
              exact xAt_to hX.out y
            have hZ' : Hid (zAt w.heap.size (wr.setCell ⟨w2.heap.size, 4, none⟩ (.string y))) := zAt_set hZ.out hwn
            have hpp' : Hid (∀ (k : Nat) y', (p :: q)[k]? = some y' → (wr.setCell ⟨w2.heap.size, 4, none⟩ (.string y)).cell? ⟨g, k, none⟩ = some (.string y')) := fun k y' hk => cell_ne (hpp.out k y' hk) (.inl hgn)
            have B' : Below w.heap.size w (wr.setCell ⟨w2.heap.size, 4, none⟩ (.string y)) := B.setCell (by show _ ≤ w2.heap.size; omega) _
            have hs' : w2.heap.size < (wr.setCell ⟨w2.heap.size, 4, none⟩ (.string y)).heap.size := by simpa [World.setCell] using hs
            have HJ' : Hid (∀ k, k < min (j + 1) j → (numL (bl (q.getD k ⟨#[]⟩))).isSome = true) := fun k hk => HJ.out k (by omega)
            clear hX hff hbt
            go_wp2_with fail
            exact ⟨⟨j + 1, by omega, by go_num, B', hs', hZ', hX', hpp', HJ'⟩, by simp [intOf]; omega⟩
          · have e2 : ¬ ((SB[j]'hlt).toNat : Int) = 108 := by intro h; exact hm (hff.1 (by omega))
            have e1 : (((SB[j]'hlt).toNat : Int) == 108) = false := beq_eq_false_iff_ne.2 e2
            have HN := hide (hHN.out y wr)
            clear hff hbt
            cases hnum : numL (bl y) with
            | none =>
              have HRn : Hid (readIns (p :: q) = none) := by
                show _ = _
                rw [HR, if_neg]
                rintro ⟨_, h⟩
                have := List.all_eq_true.1 h j (List.mem_range.2 (by omega))
                rw [hyd, hnum] at this
                cases this
              rw [hnum, show (Option.none : Option Nat).isSome = false from rfl] at HN
              obtain ⟨⟨z0, z1, z2, z3, z4⟩, y0, y1, y2, y3, y4⟩ := hZ.out
              clear hZ hX hpp HJ HR
              go_wp2_with fail
              refine HN.out.mono ?_
              rintro e w5 ⟨rfl, rfl⟩
              clear HN
              go_wp2_with fail
              refine bodyPost_ret (v := .tuple #[.agg #[.string ⟨#[]⟩, .int .i64 0, .int .i64 0, .int .i64 0, .string ⟨#[]⟩], .bool false]) (by simp only [results, Tryz.results33]; go_simp) rfl ⟨by rw [HRn.out]; rfl, ?_⟩
              exact (((((B.setCell (Nat.le_refl _) _).setCell (Nat.le_refl _) _).setCell (Nat.le_refl _) _).setCell (Nat.le_refl _) _).setCell (Nat.le_refl _) _)
            | some u =>
              rw [hnum, show (some u : Option Nat).isSome = true from rfl, show (some u : Option Nat).getD 0 = u from rfl] at HN
              have hX0 := hX.out
              rw [show min j m = j by omega, if_neg (show ¬ m < j by omega)] at hX0
              have HJ' : Hid (∀ k, k < min (j + 1) m → (numL (bl (q.getD k ⟨#[]⟩))).isSome = true) := fun k hk => by
                by_cases e : k = j
                · rw [e, hyd, hnum]; rfl
                · exact HJ.out k (by omega)
              have hnu : numOn q (j + 1) j = u := by unfold numOn; rw [if_pos (by omega), hyd, hnum]; rfl
              obtain ⟨⟨x0, x1, x2, x3, x4⟩, y0, y1, y2, y3, y4⟩ := hX0
              have hX0 := hX.out
              rw [show min j m = j by omega, if_neg (show ¬ m < j by omega)] at hX0
              have hZ' : ∀ o v, zAt w.heap.size (wr.setCell ⟨w2.heap.size, o, none⟩ v) := fun o v => zAt_set hZ.out hwn
              have hpp' : ∀ o v (k : Nat) y', (p :: q)[k]? = some y' → (wr.setCell ⟨w2.heap.size, o, none⟩ v).cell? ⟨g, k, none⟩ = some (.string y') := fun o v k y' hk => cell_ne (hpp.out k y' hk) (.inl hgn)
              have B' : ∀ o v, Below w.heap.size w (wr.setCell ⟨w2.heap.size, o, none⟩ v) := fun o v => B.setCell (by show _ ≤ w2.heap.size; omega) _
              have hs' : ∀ o v, w2.heap.size < (wr.setCell ⟨w2.heap.size, o, none⟩ v).heap.size := fun o v => by simpa [World.setCell] using hs
              replace hZ' := hide hZ'
              replace hpp' := hide hpp'
              replace B' := hide B'
              replace hs' := hide hs'
              clear hZ hX hpp HJ HR B hs
              obtain rfl | rfl | rfl : j = 0 ∨ j = 1 ∨ j = 2 := by omega
              · have hX' : Hid (xAt w2.heap.size p (numOn q (min (0 + 1) m) 0) (numOn q (min (0 + 1) m) 1) (numOn q (min (0 + 1) m) 2) (if m < 0 + 1 then q.getD m ⟨#[]⟩ else ⟨#[]⟩) (wr.setCell ⟨w2.heap.size, 1, none⟩ (.int .i64 u))) := by
                  show xAt _ _ _ _ _ _ _
                  rw [show min (0 + 1) m = 0 + 1 by omega, if_neg (by omega), hnu]
                  exact xAt_a hX0 u
                clear hX0 hnu
                go_wp2_with fail
                refine HN.out.mono ?_
                rintro e w5 ⟨rfl, rfl⟩
                clear HN
                go_wp2_with fail
                trace_state
                exact ⟨⟨0 + 1, by omega, by go_num, B'.out _ _, hs'.out _ _, hZ'.out _ _, hX', hpp'.out _ _, HJ'⟩, by simp [intOf]; omega⟩
              · have hX' : Hid (xAt w2.heap.size p (numOn q (min (1 + 1) m) 0) (numOn q (min (1 + 1) m) 1) (numOn q (min (1 + 1) m) 2) (if m < 1 + 1 then q.getD m ⟨#[]⟩ else ⟨#[]⟩) (wr.setCell ⟨w2.heap.size, 2, none⟩ (.int .i64 u))) := by
                  show xAt _ _ _ _ _ _ _
                  rw [show min (1 + 1) m = 1 + 1 by omega, if_neg (by omega), hnu]
                  exact xAt_b hX0 u
                clear hX0 hnu
                go_wp2_with fail
                refine HN.out.mono ?_
                rintro e w5 ⟨rfl, rfl⟩
                clear HN
                go_wp2_with fail
                exact ⟨⟨1 + 1, by omega, by go_num, B'.out _ _, hs'.out _ _, hZ'.out _ _, hX', hpp'.out _ _, HJ'⟩, by simp [intOf]; omega⟩
              · have hX' : Hid (xAt w2.heap.size p (numOn q (min (2 + 1) m) 0) (numOn q (min (2 + 1) m) 1) (numOn q (min (2 + 1) m) 2) (if m < 2 + 1 then q.getD m ⟨#[]⟩ else ⟨#[]⟩) (wr.setCell ⟨w2.heap.size, 3, none⟩ (.int .i64 u))) := by
                  show xAt _ _ _ _ _ _ _
                  rw [show min (2 + 1) m = 2 + 1 by omega, if_neg (by omega), hnu]
                  exact xAt_c hX0 u
                clear hX0 hnu
                go_wp2_with fail
                refine HN.out.mono ?_
                rintro e w5 ⟨rfl, rfl⟩
                clear HN
                go_wp2_with fail
                exact ⟨⟨2 + 1, by omega, by go_num, B'.out _ _, hs'.out _ _, hZ'.out _ _, hX', hpp'.out _ _, HJ'⟩, by simp [intOf]; omega⟩
        · obtain rfl : j = SB.size := by omega
          have hmin : min SB.size m = m := by split at f1 <;> omega
          have hto : (if m < SB.size then q.getD m ⟨#[]⟩ else ⟨#[]⟩) = (if t = true then q.getD m ⟨#[]⟩ else ⟨#[]⟩) := by
            cases t
            · rw [if_neg (by simp at f1; omega)]; rfl
            · rw [if_pos (by simp at f1; omega)]; rfl
          have HRs : Hid (readIns (p :: q) = some ⟨p, numOn q m 0, numOn q m 1, numOn q m 2, if t = true then q.getD m ⟨#[]⟩ else ⟨#[]⟩⟩) := by
            show _ = _
            rw [HR, if_pos ⟨hql, List.all_eq_true.2 (fun k hk => HJ.out k (by rw [hmin]; exact List.mem_range.1 hk))⟩]
          have hX0 := hX.out
          rw [hmin, hto] at hX0
          obtain ⟨⟨z0, z1, z2, z3, z4⟩, y0, y1, y2, y3, y4⟩ := hZ.out
          obtain ⟨⟨x0, x1, x2, x3, x4⟩, u0, u1, u2, u3, u4⟩ := hX0
          clear hZ hX hpp HJ HR hto hmin f1 f3
          generalize numOn q m 0 = v0 at *
          generalize numOn q m 1 = v1 at *
          generalize numOn q m 2 = v2 at *
          generalize (if t = true then q.getD m ⟨#[]⟩ else ⟨#[]⟩ : ByteArray) = v3 at *
          go_wp2_with fail
          trace_state
          refine bodyPost_ret (v := .tuple #[.agg #[.string p, .int .i64 v0, .int .i64 v1, .int .i64 v2, .string v3], .bool true]) (by simp only [results, Tryz.results33]; go_simp) rfl ⟨by rw [HRs.out]; rfl, ?_⟩
          exact (((((B.setCell (Nat.le_refl _) _).setCell (Nat.le_refl _) _).setCell (Nat.le_refl _) _).setCell (Nat.le_refl _) _).setCell (Nat.le_refl _) _)
end Go.Proofs.YtcajklfngeafdaaGreatDoor
