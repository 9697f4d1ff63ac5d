import Derived.Test.YtnnlkolhahjokaaGreatDoorA15
import Derived.Test.YtnnlkolhahjokaaGreatDoorA16
import Derived.Maps.Own
import Derived.Maps.OwnOps
import Derived.Maps.OwnSet
import Derived.StringKeys
import Derived.Lib.LaidTab

/- ProgD -/
namespace Go.Proofs.YtnnlkolhahjokaaGreatDoor
open Go.RowKit Go.Extern.Stop Go.Stop Go.Extern Go.Maps Go.WideMaps

theorem mapLaw : Keyed Tryz.prog 9 := string_keyed Tryz.underlying9
theorem mapZero (w : World) : (zeroValue 3).run Tryz.prog w = .ok (.int .i64 0) w := by kernel_rfl

theorem look_eq {w : World} {b n : Nat} {D : DataW Unit} (h : w.ownsMap Tryz.prog 9 (plainElem Tryz.prog 3) b n D) (s : ByteArray) (hs : s.size ≤ maxLen) :
    ∃ c, (Instr.lookup 101 (.map (some b)) (.string s) true).run Tryz.prog w = .ok (.tuple #[.int .i64 c, .bool (Maps.has D (.string (bl s)))]) w ∧ D.atKey (.string (bl s)) (.lit (.int .i64 0)) = .lit (.int .i64 c) := by
  obtain ⟨v, ps, hrun, hv⟩ := h.look_ok (t := 101) mapLaw Tryz.underlying101 (mapZero w) (plainElem_int Tryz.underlying3 (by decide)) (keyOf_string_mk Tryz.underlying9 hs)
  obtain ⟨c, rfl, hc, _⟩ := plainElem_int_inv Tryz.underlying3 hv
  exact ⟨c, hrun, congrArg Prod.fst hc⟩
theorem store_eq {w : World} {b n : Nat} {D : DataW Unit} (h : w.ownsMap Tryz.prog 9 (plainElem Tryz.prog 3) b n D) (hn : n < maxLen) (s : ByteArray) (hs : s.size ≤ maxLen) (i : Int) (hi : (Lit.int .i64 i).wf = true) :
    ∃ w', (Instr.mapUpdate 101 (.map (some b)) (.string s) (.int .i64 i)).run Tryz.prog w = .ok () w' ∧ w'.ownsMap Tryz.prog 9 (plainElem Tryz.prog 3) b (n + 1) (D.put (.string (bl s)) (.lit (.int .i64 i))) ∧ w.grownBy w' (some b) :=
  h.update (t := 101) mapLaw Tryz.underlying101 hn (keyOf_string_mk Tryz.underlying9 hs) (plainElem_int Tryz.underlying3 hi)

set_option maxRecDepth 20000 in
set_option maxHeartbeats 1000000 in
theorem labels_any (ad : Option Addr) (cap : Nat) (l : List Ins) (w : World) (hlen : l.length ≤ 1000000) (hto : ∀ (i : Nat) x, l[i]? = some x → x.to.size ≤ maxLen) (hl : insAt ad l w) :
    Calls Tryz.prog 30 #[.slice ad l.length cap] w fun e w' => e = .returned (.map (some w.heap.size)) ∧ w'.ownsMap Tryz.prog 9 (plainElem Tryz.prog 3) w.heap.size l.length (setD l l.length) ∧ Below w.heap.size w w' := by
  have HL := hide hl
  have HT := hide hto
  clear hl hto
  have hmm := @run_makeMap Tryz.prog
  go_enter Tryz.func30, Tryz.ntmps30
  go_wp2_with fail
  go_loopw [4, 5, 6, 7, 11] (fun _ _ _ _ i wr => ∃ j : Nat, j ≤ l.length ∧ i = .int .i64 j ∧ wr.ownsMap Tryz.prog 9 (plainElem Tryz.prog 3) w.heap.size j (setD l j) ∧ Below w.heap.size w wr) (fun _ _ _ _ i _ => l.length - (intOf i).toNat)
  case atStart => exact ⟨0, Nat.zero_le _, rfl, World.ownsMap_made _ _ _ _, (Below.refl _ _).alloc (Nat.le_refl _) _⟩
  case round =>
    obtain ⟨j, hj, rfl, hown, hB⟩ := hrel
    by_cases hlt : j < l.length
    · obtain ⟨x, hx⟩ : ∃ x, l[j]? = some x := ⟨_, List.getElem?_eq_getElem hlt⟩
      obtain ⟨b, off, rfl, a0, a1, a2, a3, a4⟩ := insAt_below HL.out hB j x hx
      have hts := HT.out j x hx
      have HS := hide (setD_succ hx)
      have ji : (j : Int) < l.length := by omega
      clear hx
      obtain ⟨c, hlook, -⟩ := look_eq (hown.alloc (.cells #[.string x.op, .int .i64 x.a, .int .i64 x.b, .int .i64 x.c, .string x.to] 44)) x.to hts
      cases hh : Maps.has (setD l j) (.string (bl x.to))
      · rw [hh] at hlook
        cases k1 : (x.op.toList == [108, 97, 98, 101, 108])
        · have HS' : Hid (setD l (j + 1) = setD l j) := by
            show _ = _
            rw [HS.out, k1, hh]; rfl
          clear HS hh
          go_wp2_with fail
          go_roundw
          case rel => exact ⟨j + 1, by omega, by go_num, by rw [HS'.out]; exact (hown.alloc _).mono (by omega), hB.alloc hB.size _⟩
          case measure => simp [intOf]; omega
        · have HS' : Hid (setD l (j + 1) = (setD l j).put (.string (bl x.to)) (.lit (.int .i64 j))) := by
            show _ = _
            rw [HS.out, k1, hh]; rfl
          obtain ⟨w1, hst, hown1, hgrow1⟩ := store_eq (hown.alloc (.cells #[.string x.op, .int .i64 x.a, .int .i64 x.b, .int .i64 x.c, .string x.to] 44)) (by unfold maxLen; omega) x.to hts j (WalkArith.wf_i64 (by omega))
          have B1 := (hB.alloc hB.size (.cells #[.string x.op, .int .i64 x.a, .int .i64 x.b, .int .i64 x.c, .string x.to] 44)).grown hgrow1 (Nat.le_trans hB.size (by simp)) (fun k hk => by cases hk; exact Nat.le_refl _)
          clear HS hh hown hgrow1
          go_wp2_with fail
          go_roundw
          case rel => exact ⟨j + 1, by omega, by go_num, by rw [HS'.out]; exact hown1, B1⟩
          case measure => simp [intOf]; omega
      · have HS' : Hid (setD l (j + 1) = setD l j) := by
          show _ = _
          rw [HS.out, hh]; simp
        rw [hh] at hlook
        clear HS hh
        cases k1 : (x.op.toList == [108, 97, 98, 101, 108])
        all_goals
          go_wp2_with fail
          go_roundw
          case rel => exact ⟨j + 1, by omega, by go_num, by rw [HS'.out]; exact (hown.alloc _).mono (by omega), hB.alloc hB.size _⟩
          case measure => simp [intOf]; omega
    · obtain rfl : j = l.length := by omega
      go_wp2_with fail
      go_ret
      exact ⟨rfl, hown, hB⟩
end Go.Proofs.YtnnlkolhahjokaaGreatDoor

/- ProgE -/
namespace Go.Proofs.YtnnlkolhahjokaaGreatDoor
open Go.RowKit Go.Extern.Stop Go.Stop Go.Extern Go.Maps Go.WideMaps

def xid : Nat → Nat
  | 0 => 0 | 1 => 0 | 2 => 3 | 3 => 4 | _ => 5
abbrev xerr (a : Addr) : Value := .iface 205 (.pointer (some a))
def xval (a : Nat → Addr) : Nat → Value
  | 0 => .nilIface
  | k + 1 => xerr (a k)

theorem cell_block {w w' : World} (hb : ∀ k, k < w.heap.size → w'.heap[k]? = w.heap[k]?) {p : Addr} {v : Value} (h : w.cell? p = some v) : w'.cell? p = some v := by
  rw [World.cell?_of_block (w := w) (hb _ (World.block_lt_of_cell? w _ h))]; exact h
structure EnvE (a : Nat → Addr) (w : World) : Prop where
  err : ∀ i, 0 < i ∧ i < 5 → w.cell? ⟨xid i, 0, none⟩ = some (xerr (a i))
theorem EnvE.block {a : Nat → Addr} {w w' : World} (h : EnvE a w) (hb : ∀ k, k < w.heap.size → w'.heap[k]? = w.heap[k]?) : EnvE a w' := ⟨fun i hi => cell_block hb (h.err i hi)⟩
theorem EnvE.below {a : Nat → Addr} {w w' : World} (h : EnvE a w) (hb : Below w.heap.size w w') : EnvE a w' := h.block hb.block
open Classical in
set_option maxRecDepth 20000 in
set_option maxHeartbeats 2000000 in
theorem check_any (a : Nat → Addr) (l : List Ins) (i : Nat) (x : Ins) (b : Nat) (w : World) (hx : l[i]? = some x) (hE : EnvE a w) (hsz : x.to.size ≤ maxLen)
    (hown : w.ownsMap Tryz.prog 9 (plainElem Tryz.prog 3) b l.length (setD l l.length)) :
    Calls Tryz.prog 41 #[.agg #[.string x.op, .int .i64 x.a, .int .i64 x.b, .int .i64 x.c, .string x.to], .int .i64 i, .map (some b)] w fun e w' => e = .returned (xval a (insFault l i x)) ∧ Below w.heap.size w w' := by
  have HK : Hid (∀ w', Calls Tryz.prog 54 #[.string x.op] w' fun e w'' => e = .returned (kindRet (shape x.op.toList)) ∧ Below w'.heap.size w' w'') := fun w' => kindOf_any x.op w'
  have hba : Below w.heap.size w (w.alloc (.cells #[.string x.op, .int .i64 x.a, .int .i64 x.b, .int .i64 x.c, .string x.to] 44)) := (Below.refl _ _).alloc (Nat.le_refl _) _
  have q0 : (w.alloc (.cells #[.string x.op, .int .i64 x.a, .int .i64 x.b, .int .i64 x.c, .string x.to] 44)).cell? ⟨w.heap.size, 0, none⟩ = some (.string x.op) := by simp
  have q1 : (w.alloc (.cells #[.string x.op, .int .i64 x.a, .int .i64 x.b, .int .i64 x.c, .string x.to] 44)).cell? ⟨w.heap.size, 1, none⟩ = some (.int .i64 x.a) := by simp
  have q2 : (w.alloc (.cells #[.string x.op, .int .i64 x.a, .int .i64 x.b, .int .i64 x.c, .string x.to] 44)).cell? ⟨w.heap.size, 2, none⟩ = some (.int .i64 x.b) := by simp
  have q3 : (w.alloc (.cells #[.string x.op, .int .i64 x.a, .int .i64 x.b, .int .i64 x.c, .string x.to] 44)).cell? ⟨w.heap.size, 3, none⟩ = some (.int .i64 x.c) := by simp
  have q4 : (w.alloc (.cells #[.string x.op, .int .i64 x.a, .int .i64 x.b, .int .i64 x.c, .string x.to] 44)).cell? ⟨w.heap.size, 4, none⟩ = some (.string x.to) := by simp
  cases hS : shape x.op.toList with
  | none =>
    have hF : insFault l i x = 3 := insFault_none hS
    rw [hS] at HK
    rw [hF]
    go_enter Tryz.func41, Tryz.ntmps41
    go_wp2_with fail
    refine (HK.out _).mono ?_
    rintro e w1 ⟨rfl, hb1⟩
    have B1 := below_step hba hb1
    have E1 := (hE.below B1).err 2 (by decide)
    simp only [xid] at E1
    have g2 := World.block_lt_of_cell? _ _ E1
    simp only at g2
    rw [show kindRet none = .tuple #[.agg #[.int .i64 0, .int .i64 0, .int .i64 0, .bool false], .bool false] by kernel_rfl]
    clear q0 q1 q2 q3 q4 hba hb1 HK hF hown hE
    go_wp2_with fail
    go_ret
    exact ⟨rfl, B1.alloc B1.size _⟩
  | some S =>
    obtain ⟨⟨_, h3⟩, _⟩ := table_facts _ (shape_mem hS)
    dsimp only at h3
    have hF := insFault_some (l := l) (i := i) hS
    rw [hS, show kindRet (some S) = .tuple #[.agg #[.int .i64 (limOf S 0), .int .i64 (limOf S 1), .int .i64 (limOf S 2), .bool (hasTo S)], .bool true] from rfl] at HK
    clear h3
    by_cases hf : fitsP S x
    rotate_left
    · rw [if_pos hf] at hF
      rw [hF]
      have HFt : Hid (∀ w', Calls Tryz.prog 55 #[.agg #[.int .i64 (limOf S 0), .int .i64 (limOf S 1), .int .i64 (limOf S 2), .bool (hasTo S)], .agg #[.string x.op, .int .i64 x.a, .int .i64 x.b, .int .i64 x.c, .string x.to]] w' fun e w'' => e = .returned (.bool false) ∧ Below w'.heap.size w' w'') := fun w' => by
        exact (fits_any (limOf S 0) (limOf S 1) (limOf S 2) (hasTo S) x w').mono fun e w'' ⟨h, h'⟩ => ⟨by rw [h]; exact congrArg (fun z => Ending.returned (.bool z)) (decide_eq_false hf), h'⟩
      clear hf hF
      generalize limOf S 0 = l0 at *
      generalize limOf S 1 = l1 at *
      generalize limOf S 2 = l2 at *
      generalize hasTo S = t at *
      go_enter Tryz.func41, Tryz.ntmps41
      go_wp2_with fail
      refine (HK.out _).mono ?_
      rintro e w1 ⟨rfl, hb1⟩
      have hlt : w.heap.size < w1.heap.size := Nat.lt_of_lt_of_le (by simp) hb1.size
      have B1 := below_step hba hb1
      replace q0 := keep_cell hb1 q0
      replace q1 := keep_cell hb1 q1
      replace q2 := keep_cell hb1 q2
      replace q3 := keep_cell hb1 q3
      replace q4 := keep_cell hb1 q4
      clear HK hba hb1
      go_wp2_with fail
      obtain ⟨W2, hW2⟩ : ∃ W2, W2 = w1.alloc (.cells #[.int .i64 l0, .int .i64 l1, .int .i64 l2, .bool t] 136) := ⟨_, rfl⟩
      have k0 : W2.cell? ⟨w1.heap.size, 0, none⟩ = some (.int .i64 l0) := by rw [hW2]; simp
      have k1 : W2.cell? ⟨w1.heap.size, 1, none⟩ = some (.int .i64 l1) := by rw [hW2]; simp
      have k2 : W2.cell? ⟨w1.heap.size, 2, none⟩ = some (.int .i64 l2) := by rw [hW2]; simp
      have k3 : W2.cell? ⟨w1.heap.size, 3, none⟩ = some (.bool t) := by rw [hW2]; simp
      have hbb : Below w1.heap.size w1 W2 := by rw [hW2]; exact (Below.refl _ _).alloc (Nat.le_refl _) _
      have B2 := below_step B1 hbb
      replace q0 := keep_cell hbb q0
      replace q1 := keep_cell hbb q1
      replace q2 := keep_cell hbb q2
      replace q3 := keep_cell hbb q3
      replace q4 := keep_cell hbb q4
      rw [← hW2]
      clear hbb hW2 B1 hlt
      refine (HFt.out _).mono ?_
      rintro e w3 ⟨rfl, hb3⟩
      have B3 := below_step B2 hb3
      replace q0 := keep_cell hb3 q0
      replace q1 := keep_cell hb3 q1
      replace q2 := keep_cell hb3 q2
      replace q3 := keep_cell hb3 q3
      replace q4 := keep_cell hb3 q4
      replace k0 := keep_cell hb3 k0
      replace k1 := keep_cell hb3 k1
      replace k2 := keep_cell hb3 k2
      replace k3 := keep_cell hb3 k3
      clear B2 HFt hb3
      have E := (hE.below B3).err 2 (by decide)
      simp only [xid] at E
      go_wp2_with fail
      go_ret
      exact ⟨rfl, B3⟩
    rw [if_neg (fun h => h hf)] at hF
    have HFt : Hid (∀ w', Calls Tryz.prog 55 #[.agg #[.int .i64 (limOf S 0), .int .i64 (limOf S 1), .int .i64 (limOf S 2), .bool (hasTo S)], .agg #[.string x.op, .int .i64 x.a, .int .i64 x.b, .int .i64 x.c, .string x.to]] w' fun e w'' => e = .returned (.bool true) ∧ Below w'.heap.size w' w'') := fun w' => by
      exact (fits_any (limOf S 0) (limOf S 1) (limOf S 2) (hasTo S) x w').mono fun e w'' ⟨h, h'⟩ => ⟨by rw [h]; exact congrArg (fun z => Ending.returned (.bool z)) (decide_eq_true hf), h'⟩
    clear hf
    by_cases hw : withinP S x
    rotate_left
    · rw [if_pos hw] at hF
      rw [hF]
      have HWi : Hid (∀ w', Calls Tryz.prog 56 #[.agg #[.int .i64 (limOf S 0), .int .i64 (limOf S 1), .int .i64 (limOf S 2), .bool (hasTo S)], .agg #[.string x.op, .int .i64 x.a, .int .i64 x.b, .int .i64 x.c, .string x.to]] w' fun e w'' => e = .returned (.bool false) ∧ Below w'.heap.size w' w'') := fun w' => by
        exact (within_any (limOf S 0) (limOf S 1) (limOf S 2) (hasTo S) x w').mono fun e w'' ⟨h, h'⟩ => ⟨by rw [h]; exact congrArg (fun z => Ending.returned (.bool z)) (decide_eq_false hw), h'⟩
      clear hw hF
      generalize limOf S 0 = l0 at *
      generalize limOf S 1 = l1 at *
      generalize limOf S 2 = l2 at *
      generalize hasTo S = t at *
      go_enter Tryz.func41, Tryz.ntmps41
      go_wp2_with fail
      refine (HK.out _).mono ?_
      rintro e w1 ⟨rfl, hb1⟩
      have hlt : w.heap.size < w1.heap.size := Nat.lt_of_lt_of_le (by simp) hb1.size
      have B1 := below_step hba hb1
      replace q0 := keep_cell hb1 q0
      replace q1 := keep_cell hb1 q1
      replace q2 := keep_cell hb1 q2
      replace q3 := keep_cell hb1 q3
      replace q4 := keep_cell hb1 q4
      clear HK hba hb1
      go_wp2_with fail
      obtain ⟨W2, hW2⟩ : ∃ W2, W2 = w1.alloc (.cells #[.int .i64 l0, .int .i64 l1, .int .i64 l2, .bool t] 136) := ⟨_, rfl⟩
      have k0 : W2.cell? ⟨w1.heap.size, 0, none⟩ = some (.int .i64 l0) := by rw [hW2]; simp
      have k1 : W2.cell? ⟨w1.heap.size, 1, none⟩ = some (.int .i64 l1) := by rw [hW2]; simp
      have k2 : W2.cell? ⟨w1.heap.size, 2, none⟩ = some (.int .i64 l2) := by rw [hW2]; simp
      have k3 : W2.cell? ⟨w1.heap.size, 3, none⟩ = some (.bool t) := by rw [hW2]; simp
      have hbb : Below w1.heap.size w1 W2 := by rw [hW2]; exact (Below.refl _ _).alloc (Nat.le_refl _) _
      have B2 := below_step B1 hbb
      replace q0 := keep_cell hbb q0
      replace q1 := keep_cell hbb q1
      replace q2 := keep_cell hbb q2
      replace q3 := keep_cell hbb q3
      replace q4 := keep_cell hbb q4
      rw [← hW2]
      clear hbb hW2 B1 hlt
      refine (HFt.out _).mono ?_
      rintro e w3 ⟨rfl, hb3⟩
      have B3 := below_step B2 hb3
      replace q0 := keep_cell hb3 q0
      replace q1 := keep_cell hb3 q1
      replace q2 := keep_cell hb3 q2
      replace q3 := keep_cell hb3 q3
      replace q4 := keep_cell hb3 q4
      replace k0 := keep_cell hb3 k0
      replace k1 := keep_cell hb3 k1
      replace k2 := keep_cell hb3 k2
      replace k3 := keep_cell hb3 k3
      clear B2 HFt hb3
      go_wp2_with fail
      refine (HWi.out _).mono ?_
      rintro e w4 ⟨rfl, hb4⟩
      have B4 := below_step B3 hb4
      replace q0 := keep_cell hb4 q0
      replace q1 := keep_cell hb4 q1
      replace q2 := keep_cell hb4 q2
      replace q3 := keep_cell hb4 q3
      replace q4 := keep_cell hb4 q4
      replace k0 := keep_cell hb4 k0
      replace k1 := keep_cell hb4 k1
      replace k2 := keep_cell hb4 k2
      replace k3 := keep_cell hb4 k3
      clear B3 HWi hb4
      have E := (hE.below B4).err 1 (by decide)
      simp only [xid] at E
      go_wp2_with fail
      go_ret
      exact ⟨rfl, B4⟩
    rw [if_neg (fun h => h hw)] at hF
    have HWi : Hid (∀ w', Calls Tryz.prog 56 #[.agg #[.int .i64 (limOf S 0), .int .i64 (limOf S 1), .int .i64 (limOf S 2), .bool (hasTo S)], .agg #[.string x.op, .int .i64 x.a, .int .i64 x.b, .int .i64 x.c, .string x.to]] w' fun e w'' => e = .returned (.bool true) ∧ Below w'.heap.size w' w'') := fun w' => by
      exact (within_any (limOf S 0) (limOf S 1) (limOf S 2) (hasTo S) x w').mono fun e w'' ⟨h, h'⟩ => ⟨by rw [h]; exact congrArg (fun z => Ending.returned (.bool z)) (decide_eq_true hw), h'⟩
    clear hw
    cases hto : hasTo S
    · rw [if_pos hto] at hF
      rw [hF]
      rw [hto] at HK HFt HWi
      clear hF
      generalize limOf S 0 = l0 at *
      generalize limOf S 1 = l1 at *
      generalize limOf S 2 = l2 at *
      go_enter Tryz.func41, Tryz.ntmps41
      go_wp2_with fail
      refine (HK.out _).mono ?_
      rintro e w1 ⟨rfl, hb1⟩
      have hlt : w.heap.size < w1.heap.size := Nat.lt_of_lt_of_le (by simp) hb1.size
      have B1 := below_step hba hb1
      replace q0 := keep_cell hb1 q0
      replace q1 := keep_cell hb1 q1
      replace q2 := keep_cell hb1 q2
      replace q3 := keep_cell hb1 q3
      replace q4 := keep_cell hb1 q4
      clear HK hba hb1
      go_wp2_with fail
      obtain ⟨W2, hW2⟩ : ∃ W2, W2 = w1.alloc (.cells #[.int .i64 l0, .int .i64 l1, .int .i64 l2, .bool false] 136) := ⟨_, rfl⟩
      have k0 : W2.cell? ⟨w1.heap.size, 0, none⟩ = some (.int .i64 l0) := by rw [hW2]; simp
      have k1 : W2.cell? ⟨w1.heap.size, 1, none⟩ = some (.int .i64 l1) := by rw [hW2]; simp
      have k2 : W2.cell? ⟨w1.heap.size, 2, none⟩ = some (.int .i64 l2) := by rw [hW2]; simp
      have k3 : W2.cell? ⟨w1.heap.size, 3, none⟩ = some (.bool false) := by rw [hW2]; simp
      have hbb : Below w1.heap.size w1 W2 := by rw [hW2]; exact (Below.refl _ _).alloc (Nat.le_refl _) _
      have B2 := below_step B1 hbb
      replace q0 := keep_cell hbb q0
      replace q1 := keep_cell hbb q1
      replace q2 := keep_cell hbb q2
      replace q3 := keep_cell hbb q3
      replace q4 := keep_cell hbb q4
      rw [← hW2]
      clear hbb hW2 B1 hlt
      refine (HFt.out _).mono ?_
      rintro e w3 ⟨rfl, hb3⟩
      have B3 := below_step B2 hb3
      replace q0 := keep_cell hb3 q0
      replace q1 := keep_cell hb3 q1
      replace q2 := keep_cell hb3 q2
      replace q3 := keep_cell hb3 q3
      replace q4 := keep_cell hb3 q4
      replace k0 := keep_cell hb3 k0
      replace k1 := keep_cell hb3 k1
      replace k2 := keep_cell hb3 k2
      replace k3 := keep_cell hb3 k3
      clear B2 HFt hb3
      go_wp2_with fail
      refine (HWi.out _).mono ?_
      rintro e w4 ⟨rfl, hb4⟩
      have B4 := below_step B3 hb4
      replace q0 := keep_cell hb4 q0
      replace q1 := keep_cell hb4 q1
      replace q2 := keep_cell hb4 q2
      replace q3 := keep_cell hb4 q3
      replace q4 := keep_cell hb4 q4
      replace k0 := keep_cell hb4 k0
      replace k1 := keep_cell hb4 k1
      replace k2 := keep_cell hb4 k2
      replace k3 := keep_cell hb4 k3
      clear B3 HWi hb4
      skip
      go_wp2_with fail
      go_ret
      exact ⟨rfl, B4⟩
    rw [if_neg (fun h => by rw [hto] at h; cases h)] at hF
    rw [hto] at HK HFt HWi
    have HN : Hid (∀ w', Calls Tryz.prog 57 #[.string x.to] w' fun e w'' => e = .returned (.bool (decide (isName x.to))) ∧ Below w'.heap.size w' w'') := fun w' => pisName_any x.to w'
    generalize limOf S 0 = l0 at *
    generalize limOf S 1 = l1 at *
    generalize limOf S 2 = l2 at *
    go_enter Tryz.func41, Tryz.ntmps41
    go_wp2_with fail
    refine (HK.out _).mono ?_
    rintro e w1 ⟨rfl, hb1⟩
    have hlt : w.heap.size < w1.heap.size := Nat.lt_of_lt_of_le (by simp) hb1.size
    have B1 := below_step hba hb1
    replace q0 := keep_cell hb1 q0
    replace q1 := keep_cell hb1 q1
    replace q2 := keep_cell hb1 q2
    replace q3 := keep_cell hb1 q3
    replace q4 := keep_cell hb1 q4
    clear HK hba hb1
    go_wp2_with fail
    obtain ⟨W2, hW2⟩ : ∃ W2, W2 = w1.alloc (.cells #[.int .i64 l0, .int .i64 l1, .int .i64 l2, .bool true] 136) := ⟨_, rfl⟩
    have k0 : W2.cell? ⟨w1.heap.size, 0, none⟩ = some (.int .i64 l0) := by rw [hW2]; simp
    have k1 : W2.cell? ⟨w1.heap.size, 1, none⟩ = some (.int .i64 l1) := by rw [hW2]; simp
    have k2 : W2.cell? ⟨w1.heap.size, 2, none⟩ = some (.int .i64 l2) := by rw [hW2]; simp
    have k3 : W2.cell? ⟨w1.heap.size, 3, none⟩ = some (.bool true) := by rw [hW2]; simp
    have hbb : Below w1.heap.size w1 W2 := by rw [hW2]; exact (Below.refl _ _).alloc (Nat.le_refl _) _
    have B2 := below_step B1 hbb
    replace q0 := keep_cell hbb q0
    replace q1 := keep_cell hbb q1
    replace q2 := keep_cell hbb q2
    replace q3 := keep_cell hbb q3
    replace q4 := keep_cell hbb q4
    rw [← hW2]
    clear hbb hW2 B1 hlt
    refine (HFt.out _).mono ?_
    rintro e w3 ⟨rfl, hb3⟩
    have B3 := below_step B2 hb3
    replace q0 := keep_cell hb3 q0
    replace q1 := keep_cell hb3 q1
    replace q2 := keep_cell hb3 q2
    replace q3 := keep_cell hb3 q3
    replace q4 := keep_cell hb3 q4
    replace k0 := keep_cell hb3 k0
    replace k1 := keep_cell hb3 k1
    replace k2 := keep_cell hb3 k2
    replace k3 := keep_cell hb3 k3
    clear B2 HFt hb3
    go_wp2_with fail
    refine (HWi.out _).mono ?_
    rintro e w4 ⟨rfl, hb4⟩
    have B4 := below_step B3 hb4
    replace q0 := keep_cell hb4 q0
    replace q1 := keep_cell hb4 q1
    replace q2 := keep_cell hb4 q2
    replace q3 := keep_cell hb4 q3
    replace q4 := keep_cell hb4 q4
    replace k0 := keep_cell hb4 k0
    replace k1 := keep_cell hb4 k1
    replace k2 := keep_cell hb4 k2
    replace k3 := keep_cell hb4 k3
    clear B3 HWi hb4
    skip
    have hown4 := hown.kept (w' := w4) (row := none) ⟨B4.os, B4.tape, B4.output, B4.size, fun i hi _ => B4.block i hi⟩ (by simp)
    obtain ⟨c, hlook, hat⟩ := look_eq hown4 x.to hsz
    have HT := hide (setD_tells l x.to l.length)
    have hLA := setD_all l x.to
    clear hown hown4
    by_cases hn : isName x.to
    rotate_left
    · rw [if_pos hn] at hF
      have HF := hide hF
      rw [decide_eq_false hn] at HN
      clear hn hF hat HT hLA
      go_wp2_with fail
      refine (HN.out _).mono ?_
      rintro e w5 ⟨rfl, hb5⟩
      have B5 := below_step B4 hb5
      replace q0 := keep_cell hb5 q0
      clear hb5 B4 hlook
      have E := (hE.below B5).err 3 (by decide)
      simp only [xid] at E
      go_wp2_with fail
      go_ret
      exact ⟨by rw [HF.out]; rfl, B5⟩
    rw [if_neg (fun h => h hn)] at hF
    rw [decide_eq_true hn] at HN
    clear hn
    rcases hLA with ⟨hh, hla⟩ | ⟨hh, i0, hi0, hla, hk⟩
    · have hop : (x.op.toList == [108, 97, 98, 101, 108]) = false := by
        cases h : (x.op.toList == [108, 97, 98, 101, 108])
        · rfl
        · exfalso
          rcases HT.out with ⟨_, h2⟩ | ⟨h1, _⟩
          · have := h2 i x (List.getElem?_eq_some_iff.1 hx).1 hx
            unfold setsLabel at this
            rw [h] at this
            simp at this
          · rw [hh] at h1; cases h1
      rw [if_neg (fun h => by rw [hop] at h; cases h.1), if_pos (by rw [hla]; decide)] at hF
      have HF := hide hF
      rw [hh] at hlook
      clear hF hat HT hh hla
      go_wp2_with fail
      refine (HN.out _).mono ?_
      rintro e w5 ⟨rfl, hb5⟩
      have B5 := below_step B4 hb5
      replace q0 := keep_cell hb5 q0
      clear hb5 B4 hlook
      have E := (hE.below B5).err 4 (by decide)
      simp only [xid] at E
      go_wp2_with fail
      go_ret
      exact ⟨by rw [HF.out]; rfl, B5⟩
    · have hc : c = i0 := by
        have := hk (.lit (.int .i64 0))
        rw [hat] at this
        injection this with this
        injection this
      subst hc
      rw [hh] at hlook
      rw [hla] at hF
      cases hop : (x.op.toList == [108, 97, 98, 101, 108])
      · rw [if_neg (fun h => by rw [hop] at h; cases h.1), if_neg (by omega)] at hF
        have HF := hide hF
        clear hF hat HT hh hla hk
        go_wp2_with fail
        refine (HN.out _).mono ?_
        rintro e w5 ⟨rfl, hb5⟩
        have B5 := below_step B4 hb5
        replace q0 := keep_cell hb5 q0
        clear hb5 B4 hlook
        go_wp2_with fail
        go_ret
        exact ⟨by rw [HF.out]; rfl, B5⟩
      · by_cases hii : (i0 : Int) = i
        · have hne : ((i0 : Int) != (i : Int)) = false := by rw [bne_eq_false_iff_eq]; exact hii
          rw [if_neg (fun h => h.2 hii), if_neg (by omega)] at hF
          have HF := hide hF
          clear hF hat HT hh hla hk hii
          go_wp2_with fail
          refine (HN.out _).mono ?_
          rintro e w5 ⟨rfl, hb5⟩
          have B5 := below_step B4 hb5
          replace q0 := keep_cell hb5 q0
          clear hb5 B4 hlook
          go_wp2_with fail
          go_ret
          exact ⟨by rw [HF.out]; rfl, B5⟩
        · have hne : ((i0 : Int) != (i : Int)) = true := by rw [bne_iff_ne]; exact hii
          rw [if_pos ⟨hop, hii⟩] at hF
          have HF := hide hF
          clear hF hat HT hh hla hk hii
          go_wp2_with fail
          refine (HN.out _).mono ?_
          rintro e w5 ⟨rfl, hb5⟩
          have B5 := below_step B4 hb5
          replace q0 := keep_cell hb5 q0
          clear hb5 B4 hlook
          have E := (hE.below B5).err 3 (by decide)
          simp only [xid] at E
          go_wp2_with fail
          go_ret
          exact ⟨by rw [HF.out]; rfl, B5⟩
end Go.Proofs.YtnnlkolhahjokaaGreatDoor

/- ProgF -/
namespace Go.Proofs.YtnnlkolhahjokaaGreatDoor
open Go.RowKit Go.Extern.Stop Go.Stop Go.Extern Go.Maps Go.WideMaps

def errIs (a : Nat → Addr) (f : Nat × Int) (v : Value) (w : World) (B : Nat) : Prop :=
  (f.1 = 0 ∧ v = .nilIface) ∨ (f.1 ≠ 0 ∧ f.2 = -1 ∧ v = xval a f.1) ∨
  (f.1 ≠ 0 ∧ ∃ j N : Nat, f.2 = j ∧ B ≤ N ∧ v = .iface 96 (.pointer (some ⟨N, 0, none⟩)) ∧ w.cell? ⟨N, 0, none⟩ = some (.int .i64 j) ∧ w.cell? ⟨N, 1, none⟩ = some (xval a f.1))

theorem codeFault_long {l : List Ins} (h : 2000 < l.length) : codeFault l = (2, -1) := if_pos h
theorem codeFault_none {l : List Ins} (h : ¬ 2000 < l.length) (h0 : ∀ k y, l[k]? = some y → insFault l k y = 0) : codeFault l = (0, -1) := by
  unfold codeFault
  rw [if_neg h]
  exact faultFrom_at l l 0 (fun k y hy => by simpa using h0 k y hy)
theorem codeFault_hit {l : List Ins} (h : ¬ 2000 < l.length) {j : Nat} {x : Ins} (hx : l[j]? = some x) (hj : insFault l j x ≠ 0) (h0 : ∀ k y, k < j → l[k]? = some y → insFault l k y = 0) : codeFault l = (insFault l j x, (j : Int)) := by
  unfold codeFault
  rw [if_neg h]
  have := faultFrom_hit l l 0 j x hx (by simpa using hj) (fun k y hk hy => by simpa using h0 k y hk hy)
  simpa using this
theorem insFault_le (l : List Ins) (i : Nat) (x : Ins) : insFault l i x ≤ 5 := by
  have := insErr_le x
  unfold insFault
  repeat' split
  all_goals omega

open Classical in
set_option maxRecDepth 20000 in
set_option maxHeartbeats 2000000 in
theorem pcheck_any (a : Nat → Addr) (ad : Option Addr) (cap : Nat) (l : List Ins) (w : World) (hE : EnvE a w) (hsz : ∀ (i : Nat) x, l[i]? = some x → x.to.size ≤ maxLen) (hl : insAt ad l w) :
    Calls Tryz.prog 27 #[.slice ad l.length cap] w fun e w' => ∃ v, e = .returned v ∧ errIs a (codeFault l) v w' w.heap.size ∧ Below w.heap.size w w' := by
  by_cases hlong : 2000 < l.length
  · have hi : 2000 < (l.length : Int) := by omega
    have E := hE.err 1 (by decide)
    simp only [xid] at E
    go_enter Tryz.func27, Tryz.ntmps27
    go_wp2_with fail
    go_ret
    refine ⟨_, rfl, ?_, Below.refl _ _⟩
    rw [codeFault_long hlong]
    exact .inr (.inl ⟨by decide, rfl, rfl⟩)
  have hi : ¬ 2000 < (l.length : Int) := by omega
  have HL := hide hl
  have HLa : Hid (∀ w', insAt ad l w' → Calls Tryz.prog 30 #[.slice ad l.length cap] w' fun e w'' => e = .returned (.map (some w'.heap.size)) ∧ w''.ownsMap Tryz.prog 9 (plainElem Tryz.prog 3) w'.heap.size l.length (setD l l.length) ∧ Below w'.heap.size w' w'') := fun w' h => labels_any ad cap l w' (by omega) hsz h
  clear hl
  go_enter Tryz.func27, Tryz.ntmps27
  go_wp2_with fail
  refine (HLa.out _ HL.out).mono ?_
  rintro e w1 ⟨rfl, hown, hb1⟩
  clear HLa
  go_wp2_with fail
  go_loopw [4, 5, 6, 15] (fun _ _ _ i wr => ∃ j : Nat, j ≤ l.length ∧ i = .int .i64 j ∧ Below w1.heap.size w1 wr ∧ Hid (∀ k y, k < j → l[k]? = some y → insFault l k y = 0)) (fun _ _ _ i _ => l.length - (intOf i).toNat)
  case atStart => exact ⟨0, Nat.zero_le _, rfl, Below.refl _ _, fun k y h => absurd h (Nat.not_lt_zero _)⟩
  case round =>
    obtain ⟨j, hj, rfl, hB, HJ⟩ := hrel
    have B := below_step hb1 hB
    by_cases hlt : j < l.length
    · obtain ⟨x, hx⟩ : ∃ x, l[j]? = some x := ⟨_, List.getElem?_eq_getElem hlt⟩
      obtain ⟨b, off, rfl, a0, a1, a2, a3, a4⟩ := insAt_below HL.out B j x hx
      have ji : (j : Int) < l.length := by omega
      have hownr := hown.kept (w' := wr) (row := none) ⟨hB.os, hB.tape, hB.output, hB.size, fun i hi _ => hB.block i hi⟩ (by simp)
      have HC : Hid (∀ w', EnvE a w' → w'.ownsMap Tryz.prog 9 (plainElem Tryz.prog 3) w.heap.size l.length (setD l l.length) → Calls Tryz.prog 41 #[.agg #[.string x.op, .int .i64 x.a, .int .i64 x.b, .int .i64 x.c, .string x.to], .int .i64 j, .map (some w.heap.size)] w' fun e w'' => e = .returned (xval a (insFault l j x)) ∧ Below w'.heap.size w' w'') := fun w' hE' ho => check_any a l j x w.heap.size w' hx hE' (hsz j x hx) ho
      have EN := hide (hE.below B)
      have HX : Hid (insFault l j x = 0 → ∀ k y, k < j + 1 → l[k]? = some y → insFault l k y = 0) := fun h k y hk hy => by
        by_cases e : k = j
        · subst e; rw [hx] at hy; cases hy; exact h
        · exact HJ.out k y (by omega) hy
      have HY : Hid (insFault l j x ≠ 0 → codeFault l = (insFault l j x, (j : Int))) := fun h => codeFault_hit hlong hx h HJ.out
      have HZ := hide (insFault_le l j x)
      have hba : Below wr.heap.size wr (wr.alloc (.cells #[.string x.op, .int .i64 x.a, .int .i64 x.b, .int .i64 x.c, .string x.to] 44)) := (Below.refl _ _).alloc (Nat.le_refl _) _
      have B1 := below_step hB hba
      have hownb := hide (hownr.alloc (.cells #[.string x.op, .int .i64 x.a, .int .i64 x.b, .int .i64 x.c, .string x.to] 44))
      have ENb := hide (EN.out.below hba)
      clear hx HJ hownr EN
      generalize insFault l j x = n at *
      go_wp2_with fail
      refine (HC.out _ ENb.out hownb.out).mono ?_
      rintro e w2 ⟨rfl, hb2⟩
      have B2 := below_step B1 hb2
      clear HC ENb hownb hba B1
      cases n with
      | zero =>
        have HX' := hide (HX.out rfl)
        clear HX HY
        rw [show xval a 0 = .nilIface from rfl]
        go_wp2_with fail
        go_roundw
        case rel => exact ⟨j + 1, by omega, by go_num, B2, HX'⟩
        case measure => simp [intOf]; omega
      | succ n =>
        have HY' := hide (HY.out (by omega))
        clear HX HY
        rw [show xval a (n + 1) = xerr (a n) from rfl]
        go_wp2_with fail
        go_ret
        have B3 := below_step hb1 B2
        refine ⟨_, rfl, ?_, B3.alloc B3.size _⟩
        rw [HY'.out]
        exact .inr (.inr ⟨Nat.succ_ne_zero _, j, w2.heap.size, rfl, B3.size, rfl, by simp, by simp; rfl⟩)
    · have HZ := hide (codeFault_none hlong (fun k y hy => HJ.out k y (by have := (List.getElem?_eq_some_iff.1 hy).1; omega) hy))
      obtain rfl : j = l.length := by omega
      clear HJ
      go_wp2_with fail
      go_ret
      exact ⟨_, rfl, by rw [HZ.out]; exact .inl ⟨rfl, rfl⟩, B⟩
end Go.Proofs.YtnnlkolhahjokaaGreatDoor
