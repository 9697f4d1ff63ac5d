/- quiescentref1.CodeOf by a contract. -/
import Derived.Test.YtcajklfngeafdaaGreatDoorLineR
import Derived.Test.YtcajklfngeafdaaGreatDoorCodeE
import Derived.Test.YtcajklfngeafdaaGreatDoorProgM
namespace Go.Proofs.YtcajklfngeafdaaGreatDoor
open Go.RowKit Go.Extern.Stop Go.Stop Go.Extern

theorem readFault_at {s : ByteArray} {i : Nat} {x : ByteArray} {lst : List Ins} (h1 : ((linesOf s).take i).map readLine = lst.map some) (hx : (linesOf s)[i]? = some x) (h2 : readLine x = none) : readFault s = (1, (i : Int)) := by
  have hi := (List.getElem?_eq_some_iff.1 hx).1
  have hf : (linesOf s).findIdx? (fun ln => (readLine ln).isNone) = some i := by
    rw [List.findIdx?_eq_some_iff_getElem]
    refine ⟨hi, ?_, fun k hk => ?_⟩
    · rw [(List.getElem?_eq_some_iff.1 hx).2, h2]; rfl
    · have e2 := congrArg (fun z => z[k]?) h1
      have hkl : k < lst.length := by
        have := congrArg List.length h1
        simp at this; omega
      simp only [List.getElem?_map, List.getElem?_take, hk, if_true, List.getElem?_eq_getElem (show k < (linesOf s).length by omega), List.getElem?_eq_getElem hkl, Option.map_some, Option.some.injEq] at e2
      rw [e2]; simp
  unfold readFault
  rw [hf]

theorem insAt_set {ad : Option Addr} {l : List Ins} {w : World} {R o : Nat} {v : Value} (h : insAt ad l w) (hn : ∀ p, ad = some p → p.block ≠ R) : insAt ad l (w.setCell ⟨R, o, none⟩ v) := fun i x hx => by
  obtain ⟨b, off, e, h0, h1, h2, h3, h4⟩ := h i x hx
  have hb : b ≠ R := hn _ e
  exact ⟨b, off, e, cell_ne h0 (.inl hb), cell_ne h1 (.inl hb), cell_ne h2 (.inl hb), cell_ne h3 (.inl hb), cell_ne h4 (.inl hb)⟩

/-- What CodeOf answers. -/
def ofPost (s : ByteArray) (w : World) (e : Ending) (w' : World) : Prop := ∃ sv, e = .returned (.tuple #[sv, .agg #[.int .i64 (readFault s).1, .int .i64 (readFault s).2]]) ∧
  ((readFault s).1 = 0 → ∃ ad cap, sv = .slice ad (readCode s).length cap ∧ insAt ad (readCode s) w') ∧ Below w.heap.size w w'

theorem readFault_empty : readFault ⟨#[]⟩ = (0, -1) ∧ readCode ⟨#[]⟩ = [] := by
  have h : linesOf ⟨#[]⟩ = [] := by exact if_pos rfl
  have h1 := read_good (s := ⟨#[]⟩) (lst := []) (by rw [h]; rfl)
  exact ⟨h1.1.trans (codeFault_none (by decide) (fun k y h => by simp at h)), h1.2⟩

set_option maxRecDepth 20000 in
set_option maxHeartbeats 2000000 in
theorem codeOf_any (s : ByteArray) (hs : s.size ≤ 40000) (w : World) :
    Calls Tryz.prog 14 #[.string s] w fun e w' => ofPost s w e w' := by
  have hi : ¬ 40000 < (s.size : Int) := by omega
  obtain ⟨W0, hW0⟩ : ∃ W0, W0 = w.alloc (.cells #[.int .i64 0, .int .i64 0] 27) := ⟨_, rfl⟩
  have B0 : Below w.heap.size w W0 := by rw [hW0]; exact (Below.refl _ _).alloc (Nat.le_refl _) _
  have z0 : W0.cell? ⟨w.heap.size, 0, none⟩ = some (.int .i64 0) := by rw [hW0]; simp
  have z1 : W0.cell? ⟨w.heap.size, 1, none⟩ = some (.int .i64 0) := by rw [hW0]; simp
  have y0 : W0.frozen? ⟨w.heap.size, 0, none⟩ = false := by rw [hW0]; simp
  have y1 : W0.frozen? ⟨w.heap.size, 1, none⟩ = false := by rw [hW0]; simp
  by_cases h0 : s.size = 0
  · obtain rfl : s = ⟨#[]⟩ := bl_inj (List.length_eq_zero_iff.1 (by rw [← size_bl]; exact h0))
    have HE := hide readFault_empty
    go_enter Tryz.func14, Tryz.ntmps14
    go_wp2_with fail
    rw [← hW0]
    clear hW0
    refine (fine_any _).mono ?_
    rintro e w1 ⟨rfl, hb1⟩
    have B1 := below_step B0 hb1
    have hlt : w.heap.size < W0.heap.size := World.block_lt_of_cell? _ _ z0
    replace y0 : w1.frozen? ⟨w.heap.size, 0, none⟩ = false := by rw [hb1.frozen hlt]; exact y0
    replace y1 : w1.frozen? ⟨w.heap.size, 1, none⟩ = false := by rw [hb1.frozen hlt]; exact y1
    replace z0 := keep_cell hb1 z0
    replace z1 := keep_cell hb1 z1
    clear B0 hb1
    go_wp2_with fail
    refine bodyPost_ret (v := .tuple #[.slice none 0 0, .agg #[.int .i64 0, .int .i64 (-1)]]) (by simp only [results, Tryz.results14]; go_simp) rfl ⟨.slice none 0 0, by rw [HE.out.1]; rfl, fun _ => ⟨none, 0, by rw [HE.out.2]; rfl, fun i x hx => by rw [HE.out.2] at hx; simp at hx⟩, ?_⟩
    exact (B1.setCell (Nat.le_refl _) _).setCell (Nat.le_refl _) _
  · have hne : ¬ s.toList = [] := by rw [toList_bl]; intro h; exact h0 (by rw [size_bl, h]; rfl)
    have hne' : (s.toList == []) = false := beq_eq_false_iff_ne.2 hne
    have hn1 : (0 : Int) ≤ (s.size : Int) - 1 := by omega
    have hn2 : (s.size : Int) - 1 < (s.size : Int) := by omega
    have HBad : Hid (∀ (i : Nat) (x : ByteArray) (lst : List Ins), ((linesOf s).take i).map readLine = lst.map some → (linesOf s)[i]? = some x → readLine x = none → readFault s = (1, (i : Int))) := fun i x lst h1 h2 h3 => readFault_at h1 h2 h3
    have HGood : Hid (∀ (lst : List Ins), (linesOf s).map readLine = lst.map some → readFault s = codeFault lst ∧ readCode s = lst) := fun lst h => read_good h
    have HSz : Hid (∀ x ∈ linesOf s, x.size ≤ 100000) := fun x hx => by have := linesOf_size hx; omega
    obtain ⟨s', hs', hs1, hs2⟩ : ∃ s', linesOf s = cutS s' 10 ∧ s'.size ≤ 40000 ∧ s' = stripB s := ⟨stripB s, if_neg h0, by unfold stripB; split <;> (try rw [ByteArray.size_extract]) <;> omega, rfl⟩
    have hLn : (linesOf s).length ≤ 40001 := by
      rw [hs']; unfold cutS
      have := (cutTo_le s' 10 s'.size).1
      simp; omega
    have HC : Hid (∀ W, Calls Tryz.prog 32 #[.string s', .int .u8 10] W fun e W' => ∃ v, e = .returned v ∧ W'.ownsRow W.heap.size 9 1 v (linesOf s).length ((linesOf s).map Value.string) ∧ Below W.heap.size W W') := fun W => by
      rw [hs']; exact cut_any s' 10 (by omega) W
    clear hs1 hs'
    have hb10 := byteAt_lt (S := s) (i := s.size - 1) (by omega)
    obtain ⟨ri, hri, hrz, hrs, hrb⟩ := insInfo
    by_cases h10 : byteAt s (s.size - 1) = 10
    all_goals
      first
      | (have e1 : (((s[s.size - 1]'(by omega)).toNat : Int) == 10) = true := beq_iff_eq.2 (by omega)
         rw [show s' = s.extract 0 (s.size - 1) by rw [hs2]; exact if_pos h10] at HC)
      | (have e1 : (((s[s.size - 1]'(by omega)).toNat : Int) == 10) = false := beq_eq_false_iff_ne.2 (by omega)
         rw [show s' = s by rw [hs2]; exact if_neg h10] at HC)
      clear h10 hb10 hs2
      have HL0 : ¬ (linesOf s).length = 0 := by unfold linesOf; rw [if_neg h0]; unfold cutS; simp
      generalize linesOf s = L at *
      go_enter Tryz.func14, Tryz.ntmps14
      go_wp2_with fail
      rw [← hW0]
      clear hW0
      refine (HC.out _).mono ?_
      rintro e w1 ⟨v, rfl, hrow, hb1⟩
      have B1 := below_step B0 hb1
      have hlt : w.heap.size < W0.heap.size := World.block_lt_of_cell? _ _ z0
      have hw1 := hb1.size
      have y0' : w1.frozen? ⟨w.heap.size, 0, none⟩ = false := by rw [hb1.frozen hlt]; exact y0
      have y1' : w1.frozen? ⟨w.heap.size, 1, none⟩ = false := by rw [hb1.frozen hlt]; exact y1
      have z0' := keep_cell hb1 z0
      have z1' := keep_cell hb1 z1
      have hne0 : 0 < L.length := by
        rcases Nat.eq_zero_or_pos L.length with h | h
        · exact absurd h HL0
        · exact h
      obtain ⟨g, gc, rfl⟩ : ∃ g gc, v = .slice (some ⟨g, 0, none⟩) L.length gc := by
        rcases hrow.2 with ⟨_, h0⟩ | ⟨g, cap, cur, hv, _⟩
        · omega
        · exact ⟨g, cap, hv⟩
      have hp : Hid (∀ (k : Nat) y, L[k]? = some y → w1.cell? ⟨g, k, none⟩ = some (.string y)) := fun k y hk => by
        have hkl := (List.getElem?_eq_some_iff.1 hk).1
        rw [hrow.cellAt k (by omega), List.getElem?_map, hk]; rfl
      clear hrow hb1 z0 z1 y0 y1 HC B0
      go_wp2_with fail
      go_loopw [5, 6] (fun out ix wr => ∃ (i : Nat) (lst : List Ins), i ≤ L.length ∧ ix = .int .i64 i ∧ lst.length = i ∧ Hid ((L.take i).map readLine = lst.map some) ∧ wr.ownsRow w1.heap.size 25 5 out lst.length (insCells lst) ∧ Below w1.heap.size w1 wr) (fun _ i _ => L.length - (intOf i).toNat)
      case atStart => exact ⟨0, [], Nat.zero_le _, rfl, rfl, by show _ = _; rfl, ⟨by simp [insCells], Or.inl ⟨rfl, rfl⟩⟩, Below.refl _ _⟩
      case round =>
        obtain ⟨i, lst, hi', rfl, hll, hlst, hown, hB⟩ := hrel
        by_cases hil : i < L.length
        · have ii : (i : Int) < L.length := by omega
          obtain ⟨ln, hln⟩ : ∃ ln, L[i]? = some ln := ⟨_, List.getElem?_eq_getElem hil⟩
          have hcl := keep_cell hB (hp.out i ln hln)
          have HLn : Hid (Calls Tryz.prog 33 #[.string ln] wr fun e w' => e = .returned (insV (readLine ln)) ∧ Below wr.heap.size wr w') := lineOf_any ln (HSz.out ln (List.mem_of_getElem? hln)) wr
          have z0w := keep_cell hB z0'
          have z1w := keep_cell hB z1'
          have hltw : w.heap.size < w1.heap.size := by omega
          have y0w : wr.frozen? ⟨w.heap.size, 0, none⟩ = false := by rw [hB.frozen hltw]; exact y0'
          have y1w : wr.frozen? ⟨w.heap.size, 1, none⟩ = false := by rw [hB.frozen hltw]; exact y1'
          have hwr : w.heap.size < wr.heap.size := by have := hB.size; omega
          clear hp
          cases hr : readLine ln with
          | none =>
            have HF := hide (HBad.out i ln lst hlst.out hln hr)
            rw [hr, show insV none = .tuple #[.agg #[.string ⟨#[]⟩, .int .i64 0, .int .i64 0, .int .i64 0, .string ⟨#[]⟩], .bool false] from rfl] at HLn
            clear HBad HGood hlst hln z0' z1' y0' y1'
            go_wp2_with fail
            refine HLn.out.mono ?_
            rintro e w2 ⟨rfl, hb2⟩
            have B2 := below_step (below_step B1 hB) hb2
            have y0q : w2.frozen? ⟨w.heap.size, 0, none⟩ = false := by rw [hb2.frozen hwr]; exact y0w
            have y1q : w2.frozen? ⟨w.heap.size, 1, none⟩ = false := by rw [hb2.frozen hwr]; exact y1w
            have z0q := keep_cell hb2 z0w
            have z1q := keep_cell hb2 z1w
            have hwq : w.heap.size < w2.heap.size := by have := hb2.size; omega
            clear HLn hb2 hown hB
            go_wp2_with fail
            refine bodyPost_ret (v := .tuple #[.slice none 0 0, .agg #[.int .i64 1, .int .i64 i]]) (by simp only [results, Tryz.results14]; go_simp) rfl ⟨.slice none 0 0, by rw [HF.out]; rfl, fun h => (by rw [HF.out] at h; cases h), ?_⟩
            exact ((B2.setCell (Nat.le_refl _) _).setCell (Nat.le_refl _) _).alloc (by simp [World.setCell]; exact B2.size) _
          | some y =>
            clear HBad
            have HM : Hid ((L.take (i + 1)).map readLine = (lst ++ [y]).map some) := by
              show _ = _
              rw [List.take_add_one, hln, List.map_append, hlst.out, List.map_append]
              show _ ++ [readLine ln] = _
              rw [hr]; rfl
            rw [hr, show insV (some y) = .tuple #[.agg #[.string y.op, .int .i64 y.a, .int .i64 y.b, .int .i64 y.c, .string y.to], .bool true] from rfl] at HLn
            go_wp2_with fail
            refine HLn.out.mono ?_
            rintro e w2 ⟨rfl, hb2⟩
            have hown2 := ownsRow_block hown (fun k hk => hb2.block k (hown.lt k hk).2)
            have hB2 := below_step hB hb2
            clear HLn hb2 hcl hlst hr hln z0w z1w y0w y1w z0' z1' y0' y1' HGood
            have hs2 := hB2.size
            go_wp2_with (first
              | (at_builtin; refine wpList_append_own_at _ rfl _ _ 22 rfl w1.heap.size 25 ri (.agg #[.string ⟨#[]⟩, .int .i64 0, .int .i64 0, .int .i64 0, .string ⟨#[]⟩]) 5 56 Tryz.underlying22 hri hrz hrs hrb rfl (by decide) _ _ _ rfl ((hown2.alloc _).alloc _) ⟨w2.heap.size + 1, 0, none⟩ 1 1 [.string y.op, .int .i64 y.a, .int .i64 y.b, .int .i64 y.c, .string y.to] rfl rfl ?p1 ?p2 ?p3 ?p4 ?p5 ?_))
            case p1 =>
              intro k u hk
              match k, hk with
              | 0, hk => simp at hk; subst hk; simp [Addr.add]
              | 1, hk => simp at hk; subst hk; simp [Addr.add]
              | 2, hk => simp at hk; subst hk; simp [Addr.add]
              | 3, hk => simp at hk; subst hk; simp [Addr.add]
              | 4, hk => simp at hk; subst hk; simp [Addr.add]
            case p2 => first
              | (intro u hu; simp at hu; rcases hu with rfl | rfl | rfl | rfl | rfl <;> rfl)
              | (refine ⟨?_, ?_, ?_, ?_, ?_⟩ <;> rfl)
            case p3 => unfold maxLen; omega
            case p4 => omega
            case p5 => first
              | omega
              | (simp; omega)
            intro v' w6 hown6 hg6 hnil hloc
            have B6 : Below w1.heap.size w1 w6 := ((hB2.alloc hs2 _).alloc (by simp; omega) _).grown hg6 (by simp; omega) (fun k hk => (hown2.lt k hk).1)
            have hown6' : w6.ownsRow w1.heap.size 25 5 v' (lst ++ [y]).length (insCells (lst ++ [y])) := by rw [show (lst ++ [y]).length = i + 1 by simp; omega, insCells_snoc]; exact hown6
            clear hown6 hg6 hnil hloc hown hown2 hB hB2 hri hrz hrs hrb
            go_wp2_with fail
            go_roundw
            case rel => exact ⟨i + 1, lst ++ [y], by omega, by go_num, by simp; omega, HM, hown6', B6⟩
            case measure => simp [intOf]; omega
        · obtain rfl : i = L.length := by omega
          rw [List.take_length] at hlst
          obtain ⟨hRf, hRc⟩ := HGood.out lst hlst.out
          obtain ⟨ad, cap, rfl, HI⟩ : ∃ ad cap, u5 = Value.slice ad lst.length cap ∧ Hid (insAt ad lst wr ∧ ∀ p, ad = some p → p.block ≠ w.heap.size) := by
            rcases hown.2 with ⟨h1, h2⟩ | ⟨g, cap, cur, h1, _⟩
            · exact ⟨none, 0, by rw [h1, h2], fun i x hx => by rw [List.length_eq_zero_iff.1 h2] at hx; simp at hx, fun p h => by cases h⟩
            · refine ⟨_, cap, h1, by subst h1; exact insAt_of_row hown, fun p h => ?_⟩
              cases h
              have := (hown.lt g (by rw [h1]; rfl)).1
              show g ≠ _
              omega
          have hadn := hide HI.out.2
          replace HI := hide HI.out.1
          have HC := codeFault_any ad cap lst wr HI.out
          rw [hll] at HC
          replace HC := hide HC
          have B2 := below_step B1 hB
          have z0w := keep_cell hB z0'
          have z1w := keep_cell hB z1'
          have hltw : w.heap.size < w1.heap.size := by omega
          have y0w : wr.frozen? ⟨w.heap.size, 0, none⟩ = false := by rw [hB.frozen hltw]; exact y0'
          have y1w : wr.frozen? ⟨w.heap.size, 1, none⟩ = false := by rw [hB.frozen hltw]; exact y1'
          have hwr : w.heap.size < wr.heap.size := by have := hB.size; omega
          clear hp z0' z1' y0' y1' hown HBad HGood hlst
          replace hRf := hide hRf
          replace hRc := hide hRc
          obtain ⟨ff, hff⟩ : ∃ ff, codeFault lst = ff := ⟨_, rfl⟩
          rw [hff] at HC hRf
          obtain ⟨f1, f2⟩ := ff
          dsimp only at HC
          go_wp2_with fail
          refine HC.out.mono ?_
          rintro e w2 ⟨rfl, hb2⟩
          have B3 := below_step B2 hb2
          have y0q : w2.frozen? ⟨w.heap.size, 0, none⟩ = false := by rw [hb2.frozen hwr]; exact y0w
          have y1q : w2.frozen? ⟨w.heap.size, 1, none⟩ = false := by rw [hb2.frozen hwr]; exact y1w
          have z0q := keep_cell hb2 z0w
          have z1q := keep_cell hb2 z1w
          have hwq : w.heap.size < w2.heap.size := by have := hb2.size; omega
          have HI2 := hide (insAt_below HI.out hb2)
          clear HC hb2 HI hB y0w y1w z0w z1w
          cases f1 with
          | zero =>
            go_wp2_with fail
            go_region
            go_wp2_with fail
            refine bodyPost_ret (v := .tuple #[.slice ad L.length cap, .agg #[.int .i64 0, .int .i64 f2]]) (by simp only [results, Tryz.results14]; go_simp) rfl ⟨.slice ad L.length cap, by rw [hRf.out]; rfl, fun _ => ⟨ad, cap, by rw [hRc.out, hll], ?_⟩, ?_⟩
            · rw [hRc.out]
              exact insAt_below (insAt_set (insAt_set HI2.out hadn.out) hadn.out) (((Below.refl _ _).alloc (Nat.le_refl _) _).drew)
            · exact (((B3.setCell (Nat.le_refl _) _).setCell (Nat.le_refl _) _).alloc (by simp [World.setCell]; exact B3.size) _).drew
          | succ k =>
            have hk : (0 : Int) < ((k + 1 : Nat) : Int) := by omega
            go_wp2_with fail
            go_region
            go_wp2_with fail
            refine bodyPost_ret (v := .tuple #[.slice none 0 0, .agg #[.int .i64 ((k + 1 : Nat) : Int), .int .i64 f2]]) (by simp only [results, Tryz.results14]; go_simp) rfl ⟨.slice none 0 0, by rw [hRf.out], fun h => (by rw [hRf.out] at h; cases h), ?_⟩
            exact (((B3.setCell (Nat.le_refl _) _).setCell (Nat.le_refl _) _).alloc (by simp [World.setCell]; exact B3.size) _).drew
end Go.Proofs.YtcajklfngeafdaaGreatDoor
