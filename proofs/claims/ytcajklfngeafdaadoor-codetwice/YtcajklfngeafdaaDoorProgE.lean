/- Package code's check by a contract. 'EnvX': what the listed variables hold. -/
import Derived.Test.YtcajklfngeafdaaDoorProgD
import Derived.Lib.LaidTab
namespace Go.Proofs.YtcajklfngeafdaaDoor
open Go.RowKit Go.Extern.Stop Go.Stop Go.Extern Go.Maps Go.WideMaps

/-- The variables of the errors that package code tells. -/
def xid : Nat → Nat
  | 0 => 1 | 1 => 0 | 2 => 2 | 3 => 3 | _ => 4
/-- The error value whose text lies at a. -/
abbrev xerr (a : Addr) : Value := .iface 117 (.pointer (some a))
/-- An error as a number: 0 is nil. -/
def xval (a : Nat → Addr) : Nat → Value
  | 0 => .nilIface
  | k + 1 => xerr (a k)

/-- What package code and what it calls read of the variables. -/
structure EnvX (a : Nat → Addr) (w : World) : Prop where
  err : ∀ i, i < 5 → w.cell? ⟨xid i, 0, none⟩ = some (xerr (a i))
  tab : Lib.TabIs Tryd.prog w "internal/strconv.uint64pow10" .u64 Lib.pow10Tab
  maxl : ∃ m, w.cell? ⟨5, 0, none⟩ = some (.int .i64 m)
  syn : ∃ te pe, w.cell? ⟨6, 0, none⟩ = some (.iface te pe)
theorem cell_block {w w' : World} (hb : ∀ k, k < w.heap.size → w'.heap[k]? = w.heap[k]?) {p : Addr} {v : Value} (h : w.cell? p = some v) : w'.cell? p = some v := by
  rw [World.cell?_of_block (w := w) (hb _ (World.block_lt_of_cell? w _ h))]; exact h
theorem var_block {P : Program} {w w' : World} (hb : ∀ k, k < w.heap.size → w'.heap[k]? = w.heap[k]?) {n : String} {cs : Array Value} (h : w.var? P n = some cs) : w'.var? P n = some cs := by
  unfold World.var? at h ⊢
  cases hg : P.globalNamed n with
  | none => simp [hg] at h
  | some g =>
    simp only [hg, Option.bind_some] at h ⊢
    have hlt : g < w.heap.size := by
      rcases Nat.lt_or_ge g w.heap.size with h' | h'
      · exact h'
      · simp [Array.getElem?_eq_none h'] at h
    rw [hb g hlt]
    exact h
theorem EnvX.block {a : Nat → Addr} {w w' : World} (h : EnvX a w) (hb : ∀ k, k < w.heap.size → w'.heap[k]? = w.heap[k]?) : EnvX a w' where
  err i hi := cell_block hb (h.err i hi)
  tab := var_block hb h.tab
  maxl := by obtain ⟨m, hm⟩ := h.maxl; exact ⟨m, cell_block hb hm⟩
  syn := by obtain ⟨t, p, hm⟩ := h.syn; exact ⟨t, p, cell_block hb hm⟩
theorem EnvX.below {a : Nat → Addr} {w w' : World} (h : EnvX a w) (hb : Below w.heap.size w w') : EnvX a w' := h.block hb.block
/-- The errors alone: what Check names. -/
structure EnvE (a : Nat → Addr) (w : World) : Prop where
  err : ∀ i, i < 5 → w.cell? ⟨xid i, 0, none⟩ = some (xerr (a i))
theorem EnvE.block {a : Nat → Addr} {w w' : World} (h : EnvE a w) (hb : ∀ k, k < w.heap.size → w'.heap[k]? = w.heap[k]?) : EnvE a w' := ⟨fun i hi => cell_block hb (h.err i hi)⟩
theorem EnvE.below {a : Nat → Addr} {w w' : World} (h : EnvE a w) (hb : Below w.heap.size w w') : EnvE a w' := h.block hb.block
theorem EnvX.e {a : Nat → Addr} {w : World} (h : EnvX a w) : EnvE a w := ⟨h.err⟩
open Classical in
set_option maxRecDepth 20000 in
set_option maxHeartbeats 2000000 in
theorem check_any (a : Nat → Addr) (l : List Ins) (i : Nat) (x : Ins) (b : Nat) (w : World) (hx : l[i]? = some x) (hE : EnvE a w) (hsz : x.to.size ≤ maxLen)
    (hown : w.ownsMap Tryd.prog 9 (plainElem Tryd.prog 3) b l.length (setD l l.length)) :
    Calls Tryd.prog 24 #[.agg #[.string x.op, .int .i64 x.a, .int .i64 x.b, .int .i64 x.c, .string x.to], .int .i64 i, .map (some b)] w fun e w' => e = .returned (xval a (insFault l i x)) ∧ Below w.heap.size w w' := by
  have HK : Hid (∀ w', Calls Tryd.prog 18 #[.string x.op] w' fun e w'' => e = .returned (kindRet (shape x.op.toList)) ∧ Below w'.heap.size w' w'') := fun w' => kindOf_any x.op w'
  have hba : Below w.heap.size w (w.alloc (.cells #[.string x.op, .int .i64 x.a, .int .i64 x.b, .int .i64 x.c, .string x.to] 32)) := (Below.refl _ _).alloc (Nat.le_refl _) _
  have q0 : (w.alloc (.cells #[.string x.op, .int .i64 x.a, .int .i64 x.b, .int .i64 x.c, .string x.to] 32)).cell? ⟨w.heap.size, 0, none⟩ = some (.string x.op) := by simp
  have q1 : (w.alloc (.cells #[.string x.op, .int .i64 x.a, .int .i64 x.b, .int .i64 x.c, .string x.to] 32)).cell? ⟨w.heap.size, 1, none⟩ = some (.int .i64 x.a) := by simp
  have q2 : (w.alloc (.cells #[.string x.op, .int .i64 x.a, .int .i64 x.b, .int .i64 x.c, .string x.to] 32)).cell? ⟨w.heap.size, 2, none⟩ = some (.int .i64 x.b) := by simp
  have q3 : (w.alloc (.cells #[.string x.op, .int .i64 x.a, .int .i64 x.b, .int .i64 x.c, .string x.to] 32)).cell? ⟨w.heap.size, 3, none⟩ = some (.int .i64 x.c) := by simp
  have q4 : (w.alloc (.cells #[.string x.op, .int .i64 x.a, .int .i64 x.b, .int .i64 x.c, .string x.to] 32)).cell? ⟨w.heap.size, 4, none⟩ = some (.string x.to) := by simp
  cases hS : shape x.op.toList with
  | none =>
    have hF : insFault l i x = 3 := insFault_none hS
    rw [hS] at HK
    rw [hF]
    go_enter Tryd.func24, Tryd.ntmps24
    go_wp2_with fail
    refine (HK.out _).mono ?_
    rintro e w1 ⟨rfl, hb1⟩
    have B1 := below_step hba hb1
    have E1 := (hE.below B1).err 2 (by decide)
    simp only [xid] at E1
    have g2 := World.block_lt_of_cell? _ _ E1
    simp only at g2
    rw [show kindRet none = .tuple #[.agg #[.int .i64 0, .int .i64 0, .int .i64 0, .bool false], .bool false] by kernel_rfl]
    clear q0 q1 q2 q3 q4 hba hb1 HK hF hown hE
    go_wp2_with fail
    go_ret
    exact ⟨rfl, B1.alloc B1.size _⟩
  | some S =>
    obtain ⟨⟨_, h3⟩, _⟩ := table_facts _ (shape_mem hS)
    dsimp only at h3
    have hF := insFault_some (l := l) (i := i) hS
    rw [hS, show kindRet (some S) = .tuple #[.agg #[.int .i64 (limOf S 0), .int .i64 (limOf S 1), .int .i64 (limOf S 2), .bool (hasTo S)], .bool true] from rfl] at HK
    clear h3
    by_cases hf : fitsP S x
    rotate_left
    · rw [if_pos hf] at hF
      rw [hF]
      have HFt : Hid (∀ w', Calls Tryd.prog 33 #[.agg #[.int .i64 (limOf S 0), .int .i64 (limOf S 1), .int .i64 (limOf S 2), .bool (hasTo S)], .agg #[.string x.op, .int .i64 x.a, .int .i64 x.b, .int .i64 x.c, .string x.to]] w' fun e w'' => e = .returned (.bool false) ∧ Below w'.heap.size w' w'') := fun w' => by
        exact (fits_any (limOf S 0) (limOf S 1) (limOf S 2) (hasTo S) x w').mono fun e w'' ⟨h, h'⟩ => ⟨by rw [h]; exact congrArg (fun z => Ending.returned (.bool z)) (decide_eq_false hf), h'⟩
      clear hf hF
      generalize limOf S 0 = l0 at *
      generalize limOf S 1 = l1 at *
      generalize limOf S 2 = l2 at *
      generalize hasTo S = t at *
      go_enter Tryd.func24, Tryd.ntmps24
      go_wp2_with fail
      refine (HK.out _).mono ?_
      rintro e w1 ⟨rfl, hb1⟩
      have hlt : w.heap.size < w1.heap.size := Nat.lt_of_lt_of_le (by simp) hb1.size
      have B1 := below_step hba hb1
      replace q0 := keep_cell hb1 q0
      replace q1 := keep_cell hb1 q1
      replace q2 := keep_cell hb1 q2
      replace q3 := keep_cell hb1 q3
      replace q4 := keep_cell hb1 q4
      clear HK hba hb1
      go_wp2_with fail
      obtain ⟨W2, hW2⟩ : ∃ W2, W2 = w1.alloc (.cells #[.int .i64 l0, .int .i64 l1, .int .i64 l2, .bool t] 57) := ⟨_, rfl⟩
      have k0 : W2.cell? ⟨w1.heap.size, 0, none⟩ = some (.int .i64 l0) := by rw [hW2]; simp
      have k1 : W2.cell? ⟨w1.heap.size, 1, none⟩ = some (.int .i64 l1) := by rw [hW2]; simp
      have k2 : W2.cell? ⟨w1.heap.size, 2, none⟩ = some (.int .i64 l2) := by rw [hW2]; simp
      have k3 : W2.cell? ⟨w1.heap.size, 3, none⟩ = some (.bool t) := by rw [hW2]; simp
      have hbb : Below w1.heap.size w1 W2 := by rw [hW2]; exact (Below.refl _ _).alloc (Nat.le_refl _) _
      have B2 := below_step B1 hbb
      replace q0 := keep_cell hbb q0
      replace q1 := keep_cell hbb q1
      replace q2 := keep_cell hbb q2
      replace q3 := keep_cell hbb q3
      replace q4 := keep_cell hbb q4
      rw [← hW2]
      clear hbb hW2 B1 hlt
      refine (HFt.out _).mono ?_
      rintro e w3 ⟨rfl, hb3⟩
      have B3 := below_step B2 hb3
      replace q0 := keep_cell hb3 q0
      replace q1 := keep_cell hb3 q1
      replace q2 := keep_cell hb3 q2
      replace q3 := keep_cell hb3 q3
      replace q4 := keep_cell hb3 q4
      replace k0 := keep_cell hb3 k0
      replace k1 := keep_cell hb3 k1
      replace k2 := keep_cell hb3 k2
      replace k3 := keep_cell hb3 k3
      clear B2 HFt hb3
      have E := (hE.below B3).err 2 (by decide)
      simp only [xid] at E
      go_wp2_with fail
      go_ret
      exact ⟨rfl, B3⟩
    rw [if_neg (fun h => h hf)] at hF
    have HFt : Hid (∀ w', Calls Tryd.prog 33 #[.agg #[.int .i64 (limOf S 0), .int .i64 (limOf S 1), .int .i64 (limOf S 2), .bool (hasTo S)], .agg #[.string x.op, .int .i64 x.a, .int .i64 x.b, .int .i64 x.c, .string x.to]] w' fun e w'' => e = .returned (.bool true) ∧ Below w'.heap.size w' w'') := fun w' => by
      exact (fits_any (limOf S 0) (limOf S 1) (limOf S 2) (hasTo S) x w').mono fun e w'' ⟨h, h'⟩ => ⟨by rw [h]; exact congrArg (fun z => Ending.returned (.bool z)) (decide_eq_true hf), h'⟩
    clear hf
    by_cases hw : withinP S x
    rotate_left
    · rw [if_pos hw] at hF
      rw [hF]
      have HWi : Hid (∀ w', Calls Tryd.prog 34 #[.agg #[.int .i64 (limOf S 0), .int .i64 (limOf S 1), .int .i64 (limOf S 2), .bool (hasTo S)], .agg #[.string x.op, .int .i64 x.a, .int .i64 x.b, .int .i64 x.c, .string x.to]] w' fun e w'' => e = .returned (.bool false) ∧ Below w'.heap.size w' w'') := fun w' => by
        exact (within_any (limOf S 0) (limOf S 1) (limOf S 2) (hasTo S) x w').mono fun e w'' ⟨h, h'⟩ => ⟨by rw [h]; exact congrArg (fun z => Ending.returned (.bool z)) (decide_eq_false hw), h'⟩
      clear hw hF
      generalize limOf S 0 = l0 at *
      generalize limOf S 1 = l1 at *
      generalize limOf S 2 = l2 at *
      generalize hasTo S = t at *
      go_enter Tryd.func24, Tryd.ntmps24
      go_wp2_with fail
      refine (HK.out _).mono ?_
      rintro e w1 ⟨rfl, hb1⟩
      have hlt : w.heap.size < w1.heap.size := Nat.lt_of_lt_of_le (by simp) hb1.size
      have B1 := below_step hba hb1
      replace q0 := keep_cell hb1 q0
      replace q1 := keep_cell hb1 q1
      replace q2 := keep_cell hb1 q2
      replace q3 := keep_cell hb1 q3
      replace q4 := keep_cell hb1 q4
      clear HK hba hb1
      go_wp2_with fail
      obtain ⟨W2, hW2⟩ : ∃ W2, W2 = w1.alloc (.cells #[.int .i64 l0, .int .i64 l1, .int .i64 l2, .bool t] 57) := ⟨_, rfl⟩
      have k0 : W2.cell? ⟨w1.heap.size, 0, none⟩ = some (.int .i64 l0) := by rw [hW2]; simp
      have k1 : W2.cell? ⟨w1.heap.size, 1, none⟩ = some (.int .i64 l1) := by rw [hW2]; simp
      have k2 : W2.cell? ⟨w1.heap.size, 2, none⟩ = some (.int .i64 l2) := by rw [hW2]; simp
      have k3 : W2.cell? ⟨w1.heap.size, 3, none⟩ = some (.bool t) := by rw [hW2]; simp
      have hbb : Below w1.heap.size w1 W2 := by rw [hW2]; exact (Below.refl _ _).alloc (Nat.le_refl _) _
      have B2 := below_step B1 hbb
      replace q0 := keep_cell hbb q0
      replace q1 := keep_cell hbb q1
      replace q2 := keep_cell hbb q2
      replace q3 := keep_cell hbb q3
      replace q4 := keep_cell hbb q4
      rw [← hW2]
      clear hbb hW2 B1 hlt
      refine (HFt.out _).mono ?_
      rintro e w3 ⟨rfl, hb3⟩
      have B3 := below_step B2 hb3
      replace q0 := keep_cell hb3 q0
      replace q1 := keep_cell hb3 q1
      replace q2 := keep_cell hb3 q2
      replace q3 := keep_cell hb3 q3
      replace q4 := keep_cell hb3 q4
      replace k0 := keep_cell hb3 k0
      replace k1 := keep_cell hb3 k1
      replace k2 := keep_cell hb3 k2
      replace k3 := keep_cell hb3 k3
      clear B2 HFt hb3
      go_wp2_with fail
      refine (HWi.out _).mono ?_
      rintro e w4 ⟨rfl, hb4⟩
      have B4 := below_step B3 hb4
      replace q0 := keep_cell hb4 q0
      replace q1 := keep_cell hb4 q1
      replace q2 := keep_cell hb4 q2
      replace q3 := keep_cell hb4 q3
      replace q4 := keep_cell hb4 q4
      replace k0 := keep_cell hb4 k0
      replace k1 := keep_cell hb4 k1
      replace k2 := keep_cell hb4 k2
      replace k3 := keep_cell hb4 k3
      clear B3 HWi hb4
      have E := (hE.below B4).err 1 (by decide)
      simp only [xid] at E
      go_wp2_with fail
      go_ret
      exact ⟨rfl, B4⟩
    rw [if_neg (fun h => h hw)] at hF
    have HWi : Hid (∀ w', Calls Tryd.prog 34 #[.agg #[.int .i64 (limOf S 0), .int .i64 (limOf S 1), .int .i64 (limOf S 2), .bool (hasTo S)], .agg #[.string x.op, .int .i64 x.a, .int .i64 x.b, .int .i64 x.c, .string x.to]] w' fun e w'' => e = .returned (.bool true) ∧ Below w'.heap.size w' w'') := fun w' => by
      exact (within_any (limOf S 0) (limOf S 1) (limOf S 2) (hasTo S) x w').mono fun e w'' ⟨h, h'⟩ => ⟨by rw [h]; exact congrArg (fun z => Ending.returned (.bool z)) (decide_eq_true hw), h'⟩
    clear hw
    cases hto : hasTo S
    · rw [if_pos hto] at hF
      rw [hF]
      rw [hto] at HK HFt HWi
      clear hF
      generalize limOf S 0 = l0 at *
      generalize limOf S 1 = l1 at *
      generalize limOf S 2 = l2 at *
      go_enter Tryd.func24, Tryd.ntmps24
      go_wp2_with fail
      refine (HK.out _).mono ?_
      rintro e w1 ⟨rfl, hb1⟩
      have hlt : w.heap.size < w1.heap.size := Nat.lt_of_lt_of_le (by simp) hb1.size
      have B1 := below_step hba hb1
      replace q0 := keep_cell hb1 q0
      replace q1 := keep_cell hb1 q1
      replace q2 := keep_cell hb1 q2
      replace q3 := keep_cell hb1 q3
      replace q4 := keep_cell hb1 q4
      clear HK hba hb1
      go_wp2_with fail
      obtain ⟨W2, hW2⟩ : ∃ W2, W2 = w1.alloc (.cells #[.int .i64 l0, .int .i64 l1, .int .i64 l2, .bool false] 57) := ⟨_, rfl⟩
      have k0 : W2.cell? ⟨w1.heap.size, 0, none⟩ = some (.int .i64 l0) := by rw [hW2]; simp
      have k1 : W2.cell? ⟨w1.heap.size, 1, none⟩ = some (.int .i64 l1) := by rw [hW2]; simp
      have k2 : W2.cell? ⟨w1.heap.size, 2, none⟩ = some (.int .i64 l2) := by rw [hW2]; simp
      have k3 : W2.cell? ⟨w1.heap.size, 3, none⟩ = some (.bool false) := by rw [hW2]; simp
      have hbb : Below w1.heap.size w1 W2 := by rw [hW2]; exact (Below.refl _ _).alloc (Nat.le_refl _) _
      have B2 := below_step B1 hbb
      replace q0 := keep_cell hbb q0
      replace q1 := keep_cell hbb q1
      replace q2 := keep_cell hbb q2
      replace q3 := keep_cell hbb q3
      replace q4 := keep_cell hbb q4
      rw [← hW2]
      clear hbb hW2 B1 hlt
      refine (HFt.out _).mono ?_
      rintro e w3 ⟨rfl, hb3⟩
      have B3 := below_step B2 hb3
      replace q0 := keep_cell hb3 q0
      replace q1 := keep_cell hb3 q1
      replace q2 := keep_cell hb3 q2
      replace q3 := keep_cell hb3 q3
      replace q4 := keep_cell hb3 q4
      replace k0 := keep_cell hb3 k0
      replace k1 := keep_cell hb3 k1
      replace k2 := keep_cell hb3 k2
      replace k3 := keep_cell hb3 k3
      clear B2 HFt hb3
      go_wp2_with fail
      refine (HWi.out _).mono ?_
      rintro e w4 ⟨rfl, hb4⟩
      have B4 := below_step B3 hb4
      replace q0 := keep_cell hb4 q0
      replace q1 := keep_cell hb4 q1
      replace q2 := keep_cell hb4 q2
      replace q3 := keep_cell hb4 q3
      replace q4 := keep_cell hb4 q4
      replace k0 := keep_cell hb4 k0
      replace k1 := keep_cell hb4 k1
      replace k2 := keep_cell hb4 k2
      replace k3 := keep_cell hb4 k3
      clear B3 HWi hb4
      skip
      go_wp2_with fail
      go_ret
      exact ⟨rfl, B4⟩
    rw [if_neg (fun h => by rw [hto] at h; cases h)] at hF
    rw [hto] at HK HFt HWi
    have HN : Hid (∀ w', Calls Tryd.prog 35 #[.string x.to] w' fun e w'' => e = .returned (.bool (decide (isName x.to))) ∧ Below w'.heap.size w' w'') := fun w' => pisName_any x.to w'
    generalize limOf S 0 = l0 at *
    generalize limOf S 1 = l1 at *
    generalize limOf S 2 = l2 at *
    go_enter Tryd.func24, Tryd.ntmps24
    go_wp2_with fail
    refine (HK.out _).mono ?_
    rintro e w1 ⟨rfl, hb1⟩
    have hlt : w.heap.size < w1.heap.size := Nat.lt_of_lt_of_le (by simp) hb1.size
    have B1 := below_step hba hb1
    replace q0 := keep_cell hb1 q0
    replace q1 := keep_cell hb1 q1
    replace q2 := keep_cell hb1 q2
    replace q3 := keep_cell hb1 q3
    replace q4 := keep_cell hb1 q4
    clear HK hba hb1
    go_wp2_with fail
    obtain ⟨W2, hW2⟩ : ∃ W2, W2 = w1.alloc (.cells #[.int .i64 l0, .int .i64 l1, .int .i64 l2, .bool true] 57) := ⟨_, rfl⟩
    have k0 : W2.cell? ⟨w1.heap.size, 0, none⟩ = some (.int .i64 l0) := by rw [hW2]; simp
    have k1 : W2.cell? ⟨w1.heap.size, 1, none⟩ = some (.int .i64 l1) := by rw [hW2]; simp
    have k2 : W2.cell? ⟨w1.heap.size, 2, none⟩ = some (.int .i64 l2) := by rw [hW2]; simp
    have k3 : W2.cell? ⟨w1.heap.size, 3, none⟩ = some (.bool true) := by rw [hW2]; simp
    have hbb : Below w1.heap.size w1 W2 := by rw [hW2]; exact (Below.refl _ _).alloc (Nat.le_refl _) _
    have B2 := below_step B1 hbb
    replace q0 := keep_cell hbb q0
    replace q1 := keep_cell hbb q1
    replace q2 := keep_cell hbb q2
    replace q3 := keep_cell hbb q3
    replace q4 := keep_cell hbb q4
    rw [← hW2]
    clear hbb hW2 B1 hlt
    refine (HFt.out _).mono ?_
    rintro e w3 ⟨rfl, hb3⟩
    have B3 := below_step B2 hb3
    replace q0 := keep_cell hb3 q0
    replace q1 := keep_cell hb3 q1
    replace q2 := keep_cell hb3 q2
    replace q3 := keep_cell hb3 q3
    replace q4 := keep_cell hb3 q4
    replace k0 := keep_cell hb3 k0
    replace k1 := keep_cell hb3 k1
    replace k2 := keep_cell hb3 k2
    replace k3 := keep_cell hb3 k3
    clear B2 HFt hb3
    go_wp2_with fail
    refine (HWi.out _).mono ?_
    rintro e w4 ⟨rfl, hb4⟩
    have B4 := below_step B3 hb4
    replace q0 := keep_cell hb4 q0
    replace q1 := keep_cell hb4 q1
    replace q2 := keep_cell hb4 q2
    replace q3 := keep_cell hb4 q3
    replace q4 := keep_cell hb4 q4
    replace k0 := keep_cell hb4 k0
    replace k1 := keep_cell hb4 k1
    replace k2 := keep_cell hb4 k2
    replace k3 := keep_cell hb4 k3
    clear B3 HWi hb4
    skip
    have hown4 := hown.kept (w' := w4) (row := none) ⟨B4.os, B4.tape, B4.output, B4.size, fun i hi _ => B4.block i hi⟩ (by simp)
    obtain ⟨c, hlook, hat⟩ := look_eq hown4 x.to hsz
    have HT := hide (setD_tells l x.to l.length)
    have hLA := setD_all l x.to
    clear hown hown4
    by_cases hn : isName x.to
    rotate_left
    · rw [if_pos hn] at hF
      have HF := hide hF
      rw [decide_eq_false hn] at HN
      clear hn hF hat HT hLA
      go_wp2_with fail
      refine (HN.out _).mono ?_
      rintro e w5 ⟨rfl, hb5⟩
      have B5 := below_step B4 hb5
      replace q0 := keep_cell hb5 q0
      clear hb5 B4 hlook
      have E := (hE.below B5).err 3 (by decide)
      simp only [xid] at E
      go_wp2_with fail
      go_ret
      exact ⟨by rw [HF.out]; rfl, B5⟩
    rw [if_neg (fun h => h hn)] at hF
    rw [decide_eq_true hn] at HN
    clear hn
    rcases hLA with ⟨hh, hla⟩ | ⟨hh, i0, hi0, hla, hk⟩
    · have hop : (x.op.toList == [108, 97, 98, 101, 108]) = false := by
        cases h : (x.op.toList == [108, 97, 98, 101, 108])
        · rfl
        · exfalso
          rcases HT.out with ⟨_, h2⟩ | ⟨h1, _⟩
          · have := h2 i x (List.getElem?_eq_some_iff.1 hx).1 hx
            unfold setsLabel at this
            rw [h] at this
            simp at this
          · rw [hh] at h1; cases h1
      rw [if_neg (fun h => by rw [hop] at h; cases h.1), if_pos (by rw [hla]; decide)] at hF
      have HF := hide hF
      rw [hh] at hlook
      clear hF hat HT hh hla
      go_wp2_with fail
      refine (HN.out _).mono ?_
      rintro e w5 ⟨rfl, hb5⟩
      have B5 := below_step B4 hb5
      replace q0 := keep_cell hb5 q0
      clear hb5 B4 hlook
      have E := (hE.below B5).err 4 (by decide)
      simp only [xid] at E
      go_wp2_with fail
      go_ret
      exact ⟨by rw [HF.out]; rfl, B5⟩
    · have hc : c = i0 := by
        have := hk (.lit (.int .i64 0))
        rw [hat] at this
        injection this with this
        injection this
      subst hc
      rw [hh] at hlook
      rw [hla] at hF
      cases hop : (x.op.toList == [108, 97, 98, 101, 108])
      · rw [if_neg (fun h => by rw [hop] at h; cases h.1), if_neg (by omega)] at hF
        have HF := hide hF
        clear hF hat HT hh hla hk
        go_wp2_with fail
        refine (HN.out _).mono ?_
        rintro e w5 ⟨rfl, hb5⟩
        have B5 := below_step B4 hb5
        replace q0 := keep_cell hb5 q0
        clear hb5 B4 hlook
        go_wp2_with fail
        go_ret
        exact ⟨by rw [HF.out]; rfl, B5⟩
      · by_cases hii : (i0 : Int) = i
        · have hne : ((i0 : Int) != (i : Int)) = false := by rw [bne_eq_false_iff_eq]; exact hii
          rw [if_neg (fun h => h.2 hii), if_neg (by omega)] at hF
          have HF := hide hF
          clear hF hat HT hh hla hk hii
          go_wp2_with fail
          refine (HN.out _).mono ?_
          rintro e w5 ⟨rfl, hb5⟩
          have B5 := below_step B4 hb5
          replace q0 := keep_cell hb5 q0
          clear hb5 B4 hlook
          go_wp2_with fail
          go_ret
          exact ⟨by rw [HF.out]; rfl, B5⟩
        · have hne : ((i0 : Int) != (i : Int)) = true := by rw [bne_iff_ne]; exact hii
          rw [if_pos ⟨hop, hii⟩] at hF
          have HF := hide hF
          clear hF hat HT hh hla hk hii
          go_wp2_with fail
          refine (HN.out _).mono ?_
          rintro e w5 ⟨rfl, hb5⟩
          have B5 := below_step B4 hb5
          replace q0 := keep_cell hb5 q0
          clear hb5 B4 hlook
          have E := (hE.below B5).err 3 (by decide)
          simp only [xid] at E
          go_wp2_with fail
          go_ret
          exact ⟨by rw [HF.out]; rfl, B5⟩
end Go.Proofs.YtcajklfngeafdaaDoor
