import Derived.Test.YtaiigfcfmcicjaaGreatDoorB01
import Derived.Below
import Derived.Outline
import Derived.Test.YtaiigfcfmcicjaaGreatDoorTie
import Derived.SevenTiedAt
import Derived.WalkKit

/- Base -/
namespace Go.Proofs.YtaiigfcfmcicjaaGreatDoor
open Go.RowKit Go.Extern.Stop Go.Stop Go.Extern

def gid : Nat → Nat
  | 0 => 0 | 1 => 1 | 2 => 2 | 3 => 3 | 4 => 4
  | 5 => 5 | 6 => 6 | 7 => 7 | _ => 8

abbrev errAt (a : Addr) : Value := .iface 227 (.pointer (some a))

abbrev okI (i : Nat) : Prop := i < 9
structure Env (a : Nat → Addr) (w : World) : Prop where
  cell : ∀ i, okI i → w.cell? ⟨gid i, 0, none⟩ = some (errAt (a i))
  row : ∀ i, okI i → ∃ c t, w.heap[(a i).block]? = some (.cells c t (0, 0))
  ne : ∀ i j, okI i → okI j → i ≠ j → a i ≠ a j
  handle : w.cell? ⟨9, 0, none⟩ = some (.iface 182 (.agg #[.pointer (some ⟨13, 26, none⟩)]))


theorem Env.glt {a : Nat → Addr} {w : World} (h : Env a w) {i : Nat} (hi : okI i) : gid i < w.heap.size := World.block_lt_of_cell? w _ (h.cell i hi)
theorem Env.alt {a : Nat → Addr} {w : World} (h : Env a w) {i : Nat} (hi : okI i) : (a i).block < w.heap.size := by
  obtain ⟨c, t, e⟩ := h.row i hi
  exact lt_of_block e
theorem Env.hlt {a : Nat → Addr} {w : World} (h : Env a w) : 9 < w.heap.size := World.block_lt_of_cell? w _ h.handle

theorem Env.below {a : Nat → Addr} {w w' : World} (h : Env a w) (hb : ∀ k, k < w.heap.size → w'.heap[k]? = w.heap[k]?) : Env a w' where
  cell i hi := by rw [World.cell?_of_block (w := w) (hb _ (h.glt hi))]; exact h.cell i hi
  row i hi := by rw [hb _ (h.alt hi)]; exact h.row i hi
  ne := h.ne
  handle := by rw [World.cell?_of_block (w := w) (hb _ h.hlt)]; exact h.handle

theorem code_nil (w : World) :
    Calls Tryz.prog 36 #[.nilIface] w fun e w' => e = .returned (.tuple #[.int .i64 0, .int .i64 (-1)]) ∧ w' = w := by
  go_enter Tryz.func36, Tryz.ntmps36
  go_wp2
  go_ret2
  exact ⟨rfl, rfl⟩

theorem nine (a : Nat → Addr) (j : Nat) (h : j < 9) : ([errAt (a 0), errAt (a 1), errAt (a 2), errAt (a 3), errAt (a 4), errAt (a 5), errAt (a 6), errAt (a 7), errAt (a 8)] : List Value)[j]? = some (errAt (a j)) := by
  match j, h with
  | 0, _ => rfl
  | 1, _ => rfl
  | 2, _ => rfl
  | 3, _ => rfl
  | 4, _ => rfl
  | 5, _ => rfl
  | 6, _ => rfl
  | 7, _ => rfl
  | 8, _ => rfl

theorem as_miss' (e t : Addr) (w : World) (hg : w.cell? ⟨9, 0, none⟩ = some (.iface 182 (.agg #[.pointer (some ⟨13, 26, none⟩)]))) :
    Calls Tryz.prog 52 #[errAt e, .iface 107 (.pointer (some t))] w fun ev w' => ev = .returned (.bool false) ∧ Below w.heap.size w w' :=
  (as_miss e t w hg).mono fun _ _ ⟨h, h'⟩ => ⟨h, by rw [h']; exact (((Below.refl _ _).alloc (Nat.le_refl _) _).alloc (by simp) _).alloc (by simp; omega) _⟩

theorem as_hit' (e t : Addr) (old : Value) (w : World) (hg : w.cell? ⟨9, 0, none⟩ = some (.iface 182 (.agg #[.pointer (some ⟨13, 26, none⟩)]))) (ht0 : w.cell? t = some old) (hf0 : w.frozen? t = false) :
    Calls Tryz.prog 52 #[.iface 105 (.pointer (some e)), .iface 107 (.pointer (some t))] w fun ev w' => ev = .returned (.bool true) ∧ w'.cell? t = some (.pointer (some e)) ∧ Below t.block w w' := by
  have htl : t.block < w.heap.size := World.block_lt_of_cell? w _ ht0
  refine (as_hit e t old w hg ht0 hf0).mono fun _ _ ⟨h, h'⟩ => ⟨h, ?_, ?_⟩
  · rw [h']
    refine World.cell?_setCell_same _ _ _ (u := old) ?_
    rw [World.cell?_alloc_lt _ _ t (by simp; omega), World.cell?_alloc_lt _ _ t (by simp; omega), World.cell?_alloc_lt _ _ t (by simp; omega), World.cell?_alloc_lt _ _ t htl]
    exact ht0
  · rw [h']
    exact (((((Below.refl _ _).alloc (by omega) _).alloc (by simp; omega) _).alloc (by simp; omega) _).alloc (by simp; omega) _).setCell (Nat.le_refl _) _

def codeNum (k : Nat) : Int := if k < 9 then (k : Int) + 1 else -1

theorem below_drop {w w2 : World} {o : Obj} (h : Below (w.alloc o).heap.size (w.alloc o) w2) : Below w.heap.size w w2 :=
  ((Below.refl _ _).alloc (Nat.le_refl _) o).trans (h.mono (by simp))

set_option maxHeartbeats 1000000 in
theorem code_miss (a : Nat → Addr) (e : Addr) (k : Nat) (w : World) (hE : Env a w) (hne : ∀ j, j < 9 → j < k → e ≠ a j) (heq : k < 9 → e = a k) (hk9 : k ≤ 9) (ca : Array Value) (ta : TypeId) (hrow : w.heap[e.block]? = some (.cells ca ta (0, 0))) :
    Calls Tryz.prog 36 #[errAt e] w fun ev w' => ev = .returned (.tuple #[.int .i64 (codeNum k), .int .i64 (-1)]) ∧ Below w.heap.size w w' := by
  have hE0 : Env a (w.alloc (.cells #[.pointer none] 105)) := hE.below fun k hk => Below.heap_alloc _ _ _ hk
  have H0 : Hid (∀ (t : Addr) (w0 : World), w0 = w.alloc (.cells #[.pointer none] 105) → Calls Tryz.prog 52 #[errAt e, .iface 107 (.pointer (some t))] w0 fun ev w' => ev = .returned (.bool false) ∧ Below w0.heap.size w0 w') := fun t w0 h => as_miss' e t w0 (by rw [h]; exact hE0.handle)
  have hel := lt_of_block hrow
  go_enter Tryz.func36, Tryz.ntmps36
  go_wp2_with fail
  refine (H0.out _ _ rfl).mono ?_
  rintro e0 w1 ⟨rfl, hb1⟩
  have hE1 : Env a w1 := hE0.below hb1.block
  have hbW : Below w.heap.size w w1 := below_drop hb1
  have hre : (w1.alloc (.cells #[errAt (a 0), errAt (a 1), errAt (a 2), errAt (a 3), errAt (a 4), errAt (a 5), errAt (a 6), errAt (a 7), errAt (a 8)] 26)).heap[e.block]? = some (.cells ca ta (0, 0)) := by
    rw [Below.heap_alloc _ _ _ (Nat.lt_of_lt_of_le (by simp; omega) hb1.size), hb1.block _ (by simp; omega), Below.heap_alloc _ _ _ hel]; exact hrow
  have c0 : w1.cell? ⟨0, 0, none⟩ = some (errAt (a 0)) := hE1.cell 0 (by decide)
  have c1 : w1.cell? ⟨1, 0, none⟩ = some (errAt (a 1)) := hE1.cell 1 (by decide)
  have c2 : w1.cell? ⟨2, 0, none⟩ = some (errAt (a 2)) := hE1.cell 2 (by decide)
  have c3 : w1.cell? ⟨3, 0, none⟩ = some (errAt (a 3)) := hE1.cell 3 (by decide)
  have c4 : w1.cell? ⟨4, 0, none⟩ = some (errAt (a 4)) := hE1.cell 4 (by decide)
  have c5 : w1.cell? ⟨5, 0, none⟩ = some (errAt (a 5)) := hE1.cell 5 (by decide)
  have c6 : w1.cell? ⟨6, 0, none⟩ = some (errAt (a 6)) := hE1.cell 6 (by decide)
  have c7 : w1.cell? ⟨7, 0, none⟩ = some (errAt (a 7)) := hE1.cell 7 (by decide)
  have c8 : w1.cell? ⟨8, 0, none⟩ = some (errAt (a 8)) := hE1.cell 8 (by decide)
  go_wp2_with fail
  have hc : ∀ j, j < 9 → (w1.alloc (.cells #[errAt (a 0), errAt (a 1), errAt (a 2), errAt (a 3), errAt (a 4), errAt (a 5), errAt (a 6), errAt (a 7), errAt (a 8)] 26)).cell? ⟨w1.heap.size, j, none⟩ = some (errAt (a j)) := fun j hj => by
    rw [World.cell?_alloc_new]; simpa using nine a j hj
  have hE2 := hE1.below fun k hk => Below.heap_alloc w1 (.cells #[errAt (a 0), errAt (a 1), errAt (a 2), errAt (a 3), errAt (a 4), errAt (a 5), errAt (a 6), errAt (a 7), errAt (a 8)] 26) _ hk
  have hb2 := hbW.alloc hbW.size (.cells #[errAt (a 0), errAt (a 1), errAt (a 2), errAt (a 3), errAt (a 4), errAt (a 5), errAt (a 6), errAt (a 7), errAt (a 8)] 26)
  clear c0 c1 c2 c3 c4 c5 c6 c7 c8 hE0 H0 hE1 
  generalize hw2 : w1.alloc (.cells #[errAt (a 0), errAt (a 1), errAt (a 2), errAt (a 3), errAt (a 4), errAt (a 5), errAt (a 6), errAt (a 7), errAt (a 8)] 26) = w2 at hc hE2 hb2 hre ⊢
  clear hw2
  go_loop [2, 3, 5, 6, 27] (fun _ t _ _ i => t = .int .i64 (-1) ∧ ∃ j : Nat, j ≤ k ∧ j ≤ 9 ∧ i = .int .i64 j) (fun _ _ _ _ i => 9 - (intOf i).toNat)
  case atStart => exact ⟨rfl, 0, Nat.zero_le _, by decide, rfl⟩
  case round =>
    obtain ⟨rfl, j, hj, hj9, rfl⟩ := hrel
    by_cases h9 : j < 9
    · have hcj := hc j h9
      obtain ⟨cb, tb, hrb⟩ := hE2.row j h9
      by_cases hlt : j < k
      · have hnej := hne j h9 hlt
        go_wp2_with fail
        refine (is_other e (a j) ca cb ta tb w2 hnej hre hrb).mono ?_
        rintro e w3 ⟨rfl, rfl⟩
        go_wp2
        go_round
        case rel => exact ⟨rfl, j + 1, by omega, by omega, by go_num⟩
        case measure => simp [intOf]; omega
      · obtain rfl : j = k := by omega
        have hek := heq h9
        subst hek
        go_wp2_with fail
        refine (is_same (a j) w2).mono ?_
        rintro e w3 ⟨rfl, rfl⟩
        go_wp2
        go_ret2
        exact ⟨by rw [codeNum, if_pos h9]; simp, hb2⟩
    · obtain rfl : j = k := by omega
      go_wp2
      go_ret2
      exact ⟨by rw [codeNum, if_neg h9]; rfl, hb2⟩
set_option maxHeartbeats 1000000 in
theorem code_hit (a : Nat → Addr) (e : Addr) (pb po : Nat) (p : Int) (k : Nat) (w : World) (hE : Env a w) (hne : ∀ j, j < 9 → j < k → e ≠ a j) (heq : k < 9 → e = a k) (hk9 : k ≤ 9) (ca : Array Value) (ta : TypeId) (hrow : w.heap[e.block]? = some (.cells ca ta (0, 0)))
    (hp0 : w.cell? ⟨pb, po, none⟩ = some (.int .i64 p)) (hp1 : w.cell? ⟨pb, po + 1, none⟩ = some (errAt e)) :
    Calls Tryz.prog 36 #[.iface 105 (.pointer (some ⟨pb, po, none⟩))] w fun ev w' => ev = .returned (.tuple #[.int .i64 (codeNum k), .int .i64 p]) ∧ Below w.heap.size w w' := by
  have hE0 : Env a (w.alloc (.cells #[.pointer none] 105)) := hE.below fun k hk => Below.heap_alloc _ _ _ hk
  have H0 : Hid (∀ (w0 : World), w0 = w.alloc (.cells #[.pointer none] 105) → Calls Tryz.prog 52 #[.iface 105 (.pointer (some ⟨pb, po, none⟩)), .iface 107 (.pointer (some ⟨w.heap.size, 0, none⟩))] w0 fun ev w' => ev = .returned (.bool true) ∧ w'.cell? ⟨w.heap.size, 0, none⟩ = some (.pointer (some ⟨pb, po, none⟩)) ∧ Below w.heap.size w0 w') := fun w0 h => as_hit' ⟨pb, po, none⟩ ⟨w.heap.size, 0, none⟩ (.pointer none) w0 (by rw [h]; exact hE0.handle) (by rw [h]; simp) (by rw [h]; simp)
  have hel := lt_of_block hrow
  have hpl : pb < w.heap.size := World.block_lt_of_cell? w _ hp0
  go_enter Tryz.func36, Tryz.ntmps36
  go_wp2_with fail
  refine (H0.out _ rfl).mono ?_
  rintro e0 w1 ⟨rfl, hct, hb1⟩
  have hbW : Below w.heap.size w w1 := ((Below.refl _ _).alloc (Nat.le_refl _) _).trans hb1
  have hE1 : Env a w1 := hE.below hbW.block
  have q0 : w1.cell? ⟨pb, po, none⟩ = some (.int .i64 p) := by rw [hbW.cell hpl]; exact hp0
  have hq1 : (w1.alloc (.cells #[errAt (a 0), errAt (a 1), errAt (a 2), errAt (a 3), errAt (a 4), errAt (a 5), errAt (a 6), errAt (a 7), errAt (a 8)] 26)).cell? ⟨pb, po + 1, none⟩ = some (errAt e) := by
    rw [World.cell?_alloc_lt _ _ _ (Nat.lt_of_lt_of_le hpl hbW.size), hbW.cell hpl]; exact hp1
  have hre : (w1.alloc (.cells #[errAt (a 0), errAt (a 1), errAt (a 2), errAt (a 3), errAt (a 4), errAt (a 5), errAt (a 6), errAt (a 7), errAt (a 8)] 26)).heap[e.block]? = some (.cells ca ta (0, 0)) := by
    rw [Below.heap_alloc _ _ _ (Nat.lt_of_lt_of_le hel hbW.size), hbW.block _ hel]; exact hrow
  have c0 : w1.cell? ⟨0, 0, none⟩ = some (errAt (a 0)) := hE1.cell 0 (by decide)
  have c1 : w1.cell? ⟨1, 0, none⟩ = some (errAt (a 1)) := hE1.cell 1 (by decide)
  have c2 : w1.cell? ⟨2, 0, none⟩ = some (errAt (a 2)) := hE1.cell 2 (by decide)
  have c3 : w1.cell? ⟨3, 0, none⟩ = some (errAt (a 3)) := hE1.cell 3 (by decide)
  have c4 : w1.cell? ⟨4, 0, none⟩ = some (errAt (a 4)) := hE1.cell 4 (by decide)
  have c5 : w1.cell? ⟨5, 0, none⟩ = some (errAt (a 5)) := hE1.cell 5 (by decide)
  have c6 : w1.cell? ⟨6, 0, none⟩ = some (errAt (a 6)) := hE1.cell 6 (by decide)
  have c7 : w1.cell? ⟨7, 0, none⟩ = some (errAt (a 7)) := hE1.cell 7 (by decide)
  have c8 : w1.cell? ⟨8, 0, none⟩ = some (errAt (a 8)) := hE1.cell 8 (by decide)
  go_wp2_with fail
  have hc : ∀ j, j < 9 → (w1.alloc (.cells #[errAt (a 0), errAt (a 1), errAt (a 2), errAt (a 3), errAt (a 4), errAt (a 5), errAt (a 6), errAt (a 7), errAt (a 8)] 26)).cell? ⟨w1.heap.size, j, none⟩ = some (errAt (a j)) := fun j hj => by
    rw [World.cell?_alloc_new]; simpa using nine a j hj
  have hE2 := hE1.below fun k hk => Below.heap_alloc w1 (.cells #[errAt (a 0), errAt (a 1), errAt (a 2), errAt (a 3), errAt (a 4), errAt (a 5), errAt (a 6), errAt (a 7), errAt (a 8)] 26) _ hk
  have hb2 := hbW.alloc hbW.size (.cells #[errAt (a 0), errAt (a 1), errAt (a 2), errAt (a 3), errAt (a 4), errAt (a 5), errAt (a 6), errAt (a 7), errAt (a 8)] 26)
  clear c0 c1 c2 c3 c4 c5 c6 c7 c8 hE0 H0 hE1 q0 hct 
  generalize hw2 : w1.alloc (.cells #[errAt (a 0), errAt (a 1), errAt (a 2), errAt (a 3), errAt (a 4), errAt (a 5), errAt (a 6), errAt (a 7), errAt (a 8)] 26) = w2 at hc hE2 hb2 hre hq1 ⊢
  clear hw2
  go_loop [2, 3, 5, 6, 27] (fun _ t _ _ i => t = .int .i64 p ∧ ∃ j : Nat, j ≤ k ∧ j ≤ 9 ∧ i = .int .i64 j) (fun _ _ _ _ i => 9 - (intOf i).toNat)
  case atStart => exact ⟨rfl, 0, Nat.zero_le _, by decide, rfl⟩
  case round =>
    obtain ⟨rfl, j, hj, hj9, rfl⟩ := hrel
    by_cases h9 : j < 9
    · have hcj := hc j h9
      obtain ⟨cb, tb, hrb⟩ := hE2.row j h9
      by_cases hlt : j < k
      · have hnej := hne j h9 hlt
        go_wp2_with fail
        refine (is_fault_other pb po (a j) e ca cb ta tb w2 hq1 hnej hre hrb).mono ?_
        rintro e w3 ⟨rfl, rfl⟩
        go_wp2
        go_round
        case rel => exact ⟨rfl, j + 1, by omega, by omega, by go_num⟩
        case measure => simp [intOf]; omega
      · obtain rfl : j = k := by omega
        have hek := heq h9
        subst hek
        go_wp2_with fail
        refine (is_fault_same pb po (a j) w2 hq1).mono ?_
        rintro e w3 ⟨rfl, rfl⟩
        go_wp2
        go_ret2
        exact ⟨by rw [codeNum, if_pos h9]; simp, hb2⟩
    · obtain rfl : j = k := by omega
      go_wp2
      go_ret2
      exact ⟨by rw [codeNum, if_neg h9]; rfl, hb2⟩

theorem code_sent (a : Nat → Addr) (k : Nat) (hk : k < 9) (w : World) (hE : Env a w) :
    Calls Tryz.prog 36 #[errAt (a k)] w fun ev w' => ev = .returned (.tuple #[.int .i64 (k + 1 : Nat), .int .i64 (-1)]) ∧ Below w.heap.size w w' := by
  obtain ⟨c, t, hr⟩ := hE.row k hk
  refine (code_miss a (a k) k w hE (fun j hj hlt => hE.ne k j hk hj (by omega)) (fun _ => rfl) (by omega) c t hr).mono fun _ _ ⟨h, h'⟩ => ⟨?_, h'⟩
  rw [h, codeNum, if_pos hk]; rfl

theorem code_fault (a : Nat → Addr) (k : Nat) (hk : k < 9) (pb po : Nat) (p : Int) (w : World) (hE : Env a w) (hp0 : w.cell? ⟨pb, po, none⟩ = some (.int .i64 p)) (hp1 : w.cell? ⟨pb, po + 1, none⟩ = some (errAt (a k))) :
    Calls Tryz.prog 36 #[.iface 105 (.pointer (some ⟨pb, po, none⟩))] w fun ev w' => ev = .returned (.tuple #[.int .i64 (k + 1 : Nat), .int .i64 p]) ∧ Below w.heap.size w w' := by
  obtain ⟨c, t, hr⟩ := hE.row k hk
  refine (code_hit a (a k) pb po p k w hE (fun j hj hlt => hE.ne k j hk hj (by omega)) (fun _ => rfl) (by omega) c t hr hp0 hp1).mono fun _ _ ⟨h, h'⟩ => ⟨?_, h'⟩
  rw [h, codeNum, if_pos hk]; rfl

end Go.Proofs.YtaiigfcfmcicjaaGreatDoor

/- LaidC -/
namespace Go.Proofs.YtaiigfcfmcicjaaGreatDoor
open Go.ChangeShapes Go.WideShapes Go.ChangeAt Go.RowKit Go.Joins Go.Deep

def cnineTexts : List (String × List UInt8) := [("quiescent/api.ErrText", [113, 117, 105, 101, 115, 99, 101, 110, 116, 58, 32, 116, 101, 120, 116]), ("quiescent/api.ErrBound", [113, 117, 105, 101, 115, 99, 101, 110, 116, 58, 32, 98, 111, 117, 110, 100]), ("quiescent/api.ErrShape", [113, 117, 105, 101, 115, 99, 101, 110, 116, 58, 32, 115, 104, 97, 112, 101]), ("quiescent/api.ErrName", [113, 117, 105, 101, 115, 99, 101, 110, 116, 58, 32, 110, 97, 109, 101]), ("quiescent/api.ErrNone", [113, 117, 105, 101, 115, 99, 101, 110, 116, 58, 32, 110, 111, 110, 101]), ("quiescent/api.ErrFull", [113, 117, 105, 101, 115, 99, 101, 110, 116, 58, 32, 102, 117, 108, 108]), ("quiescent/api.ErrStale", [113, 117, 105, 101, 115, 99, 101, 110, 116, 58, 32, 115, 116, 97, 108, 101]), ("quiescent/api.ErrHeld", [113, 117, 105, 101, 115, 99, 101, 110, 116, 58, 32, 104, 101, 108, 100]), ("quiescent/api.ErrDone", [113, 117, 105, 101, 115, 99, 101, 110, 116, 58, 32, 100, 111, 110, 101])]
def laidC13 : List (String × DataW Unit) := Rows.clientChecksRow.laid
def plainC : List (String × DataW Unit) := laidC13.filter fun x => x.2.handleName?.isNone
theorem chandlesOnly : (laidC13.filter fun x => x.2.handleName?.isSome) = [("errors.errorType", Rows.laid_errors_errorType)] := by kernel_rfl
theorem cnineOnly : (plainC.filter fun x => match x.2 with | .iface _ _ => true | _ => false) = cnineTexts.map sentOf := by kernel_rfl
theorem lc_gErr : Tryz.prog.globalNamed "errors.errorType" = some 9 := by kernel_rfl
theorem lc_g0 : Tryz.prog.globalNamed "quiescent/api.ErrText" = some 0 := by kernel_rfl
theorem lc_gT0 : (Tryz.prog.globals[0]?).map (·.type) = some 26 := by kernel_rfl
theorem lc_g1 : Tryz.prog.globalNamed "quiescent/api.ErrBound" = some 1 := by kernel_rfl
theorem lc_gT1 : (Tryz.prog.globals[1]?).map (·.type) = some 26 := by kernel_rfl
theorem lc_g2 : Tryz.prog.globalNamed "quiescent/api.ErrShape" = some 2 := by kernel_rfl
theorem lc_gT2 : (Tryz.prog.globals[2]?).map (·.type) = some 26 := by kernel_rfl
theorem lc_g3 : Tryz.prog.globalNamed "quiescent/api.ErrName" = some 3 := by kernel_rfl
theorem lc_gT3 : (Tryz.prog.globals[3]?).map (·.type) = some 26 := by kernel_rfl
theorem lc_g4 : Tryz.prog.globalNamed "quiescent/api.ErrNone" = some 4 := by kernel_rfl
theorem lc_gT4 : (Tryz.prog.globals[4]?).map (·.type) = some 26 := by kernel_rfl
theorem lc_g5 : Tryz.prog.globalNamed "quiescent/api.ErrFull" = some 5 := by kernel_rfl
theorem lc_gT5 : (Tryz.prog.globals[5]?).map (·.type) = some 26 := by kernel_rfl
theorem lc_g6 : Tryz.prog.globalNamed "quiescent/api.ErrStale" = some 6 := by kernel_rfl
theorem lc_gT6 : (Tryz.prog.globals[6]?).map (·.type) = some 26 := by kernel_rfl
theorem lc_g7 : Tryz.prog.globalNamed "quiescent/api.ErrHeld" = some 7 := by kernel_rfl
theorem lc_gT7 : (Tryz.prog.globals[7]?).map (·.type) = some 26 := by kernel_rfl
theorem lc_g8 : Tryz.prog.globalNamed "quiescent/api.ErrDone" = some 8 := by kernel_rfl
theorem lc_gT8 : (Tryz.prog.globals[8]?).map (·.type) = some 26 := by kernel_rfl
theorem cnineG : ∀ x ∈ cnineTexts, ∃ g, Tryz.prog.globalNamed x.1 = some g ∧ (Tryz.prog.globals[g]?).map (·.type) = some 26 := by
  intro x hx
  simp only [cnineTexts, List.mem_cons, List.not_mem_nil, or_false] at hx
  rcases hx with rfl | rfl | rfl | rfl | rfl | rfl | rfl | rfl | rfl
  · exact ⟨_, lc_g0, lc_gT0⟩
  · exact ⟨_, lc_g1, lc_gT1⟩
  · exact ⟨_, lc_g2, lc_gT2⟩
  · exact ⟨_, lc_g3, lc_gT3⟩
  · exact ⟨_, lc_g4, lc_gT4⟩
  · exact ⟨_, lc_g5, lc_gT5⟩
  · exact ⟨_, lc_g6, lc_gT6⟩
  · exact ⟨_, lc_g7, lc_gT7⟩
  · exact ⟨_, lc_g8, lc_gT8⟩
theorem lc_rtypeIs : (Tryz.prog.cutTypes.find? (·.1 == "internal/reflectlite.rtype")).map (·.2) = some 182 := by kernel_rfl
theorem lc_errorRows : ((List.range 257).filter fun t => Tryz.prog.rowNamed t [101, 114, 114, 111, 114]) = [26] := by kernel_rfl
theorem lc_manyTypes : Tryz.prog.types.size = 257 := by kernel_rfl
theorem lc_handleIs : typeHandle Tryz.prog 26 = .pointer (some ⟨13, 26, none⟩) := by kernel_rfl
theorem lc_star : "*" ++ "errors.errorString" = "*errors.errorString" := by decide
theorem lc_errName (u : TypeId) (h : Tryz.prog.typeName? 3 u = some "*errors.errorString") : u = 227 :=
  typeName_ptr_named (nm := "errors.errorString") (by rw [lc_star]; kernel_rfl) (by kernel_rfl) (by decide) u (by rw [lc_star]; exact h)
theorem lc_esStruct : ∃ f : Field, Tryz.prog.underlying 246 = some (.struct #[f]) ∧ f.type = 9 ∧ f.offset = 0 := ⟨_, Tryz.underlying246, rfl, rfl⟩
theorem lc_esCells : Tryz.prog.cellsOf 246 = 1 := by kernel_rfl
theorem lc_strCells : Tryz.prog.cellsOf 9 = 1 := by kernel_rfl
theorem env_of_laidC {W : World} (h : laidMetH Tryz.prog laidC13 W) : ∃ a, Env a W := by
  unfold laidMetH at h
  rw [chandlesOnly] at h
  simp only at h
  obtain ⟨h, hh⟩ := h
  replace h : laidMet Tryz.prog plainC W := h
  have hs := h.filter fun x => match x.2 with | .iface _ _ => true | _ => false
  rw [cnineOnly] at hs
  obtain ⟨ps, hv, hnd, hrows⟩ := hs
  obtain ⟨f, hf, hft, hfo⟩ := lc_esStruct
  obtain ⟨ads, hl, hn, hm, hat⟩ := sents_of_laid (f := f) Tryz.underlying26 lc_errName Tryz.underlying227 hf hft hfo Tryz.underlying9 lc_esCells lc_strCells cnineTexts ps hv hnd hrows cnineG
  have hl11 : ads.length = 9 := hl
  have hh1 := hh _ (List.mem_singleton.2 rfl)
  obtain ⟨name, u, ty, e1, e2, e3, e4, e5⟩ := (show ∃ name u ty, (Rows.laid_errors_errorType : DataW Unit).handleName? = some name ∧ (Tryz.prog.cutTypes.find? (·.1 == "internal/reflectlite.rtype")).map (·.2) = some u ∧ ty < Tryz.prog.types.size ∧ Tryz.prog.rowNamed ty name = true ∧ W.var? Tryz.prog "errors.errorType" = some #[.iface u (.agg #[typeHandle Tryz.prog ty])] from hh1)
  have en : name = [101, 114, 114, 111, 114] := (Option.some.inj e1).symm
  subst en
  obtain rfl := Option.some.inj (lc_rtypeIs.symm.trans e2)
  have hmm : ty ∈ (List.range 257).filter fun t => Tryz.prog.rowNamed t [101, 114, 114, 111, 114] := List.mem_filter.2 ⟨List.mem_range.2 (by rw [← lc_manyTypes]; exact e3), e4⟩
  rw [lc_errorRows] at hmm
  obtain rfl := List.mem_singleton.1 hmm
  rw [lc_handleIs] at e5
  have look : ∀ (i : Nat) (x : String × List UInt8), cnineTexts[i]? = some x → W.var? Tryz.prog x.1 = some #[errAt (ads.getD i default)] := fun i x hx => by
    obtain ⟨a, ha, hva⟩ := hat i x hx
    rw [List.getD_eq_getElem?_getD, ha]; exact hva
  refine ⟨fun i => ads.getD i default, ⟨fun i hi => ?_, fun i hi => ?_, fun i j hi hj hij => ?_, ?_⟩⟩
  · match i, hi with
    | 0, _ => simpa [gid] using World.var?_cell lc_g0 (look 0 _ rfl) 0
    | 1, _ => simpa [gid] using World.var?_cell lc_g1 (look 1 _ rfl) 0
    | 2, _ => simpa [gid] using World.var?_cell lc_g2 (look 2 _ rfl) 0
    | 3, _ => simpa [gid] using World.var?_cell lc_g3 (look 3 _ rfl) 0
    | 4, _ => simpa [gid] using World.var?_cell lc_g4 (look 4 _ rfl) 0
    | 5, _ => simpa [gid] using World.var?_cell lc_g5 (look 5 _ rfl) 0
    | 6, _ => simpa [gid] using World.var?_cell lc_g6 (look 6 _ rfl) 0
    | 7, _ => simpa [gid] using World.var?_cell lc_g7 (look 7 _ rfl) 0
    | 8, _ => simpa [gid] using World.var?_cell lc_g8 (look 8 _ rfl) 0
  · refine (hm (ads.getD i default) ?_).2
    rw [List.getD_eq_getElem?_getD, List.getElem?_eq_getElem (by omega)]
    exact List.getElem_mem _
  · intro e
    simp only [List.getD_eq_getElem?_getD] at e
    rw [List.getElem?_eq_getElem (show i < ads.length by omega), List.getElem?_eq_getElem (show j < ads.length by omega)] at e
    simp only [Option.getD_some] at e
    have hpw := List.pairwise_iff_getElem.1 hn
    rcases Nat.lt_or_gt_of_ne hij with h | h
    · exact hpw i j _ _ h e
    · exact hpw j i _ _ h e.symm
  · simpa using World.var?_cell lc_gErr e5 0

noncomputable def cworldH (os : Os) : World := (World.holding Tryz.prog os ⟨#[], #[], []⟩).setCell ⟨9, 0, none⟩ (.iface 182 (.agg #[.pointer (some ⟨13, 26, none⟩)]))
noncomputable def cworldZ (os : Os) : World := (cworldH os).layVars Tryz.prog plainC
theorem cworldZ_os (os : Os) : (cworldZ os).os = os := (World.layVars_os _ _ _).trans rfl
theorem cplain_met (os : Os) : laidMet Tryz.prog plainC (cworldZ os) := by
  have e1 : (plainC.filter fun x => (plainC.map (·.1)).contains x.1) = plainC := List.filter_eq_self.2 fun x hx => List.contains_iff_mem.2 (List.mem_map.2 ⟨x, hx, rfl⟩)
  have e2 : (plainC.filter fun x => !(plainC.map (·.1)).contains x.1) = [] := List.filter_eq_nil_iff.2 fun x hx => by rw [List.contains_iff_mem.2 (List.mem_map.2 ⟨x, hx, rfl⟩)]; simp
  exact laidMet_layVars (w0 := cworldH os) (plainC.map (·.1)) [] (by rw [e1]; rfl) (by rw [e1]; kernel_rfl) (by rw [e1]; kernel_rfl) (by rw [e2]; exact LaidIn.none)
theorem claid_met (os : Os) (args : Array Value) : laidMetH Tryz.prog laidC13 ((cworldZ os).forCall (fun _ _ => 0) ⟨#[], args, []⟩).memory :=
  laidMetH.of_heap (w := cworldZ os) (by simp [World.memory, World.forCall, Input.heap]) (laidMetH_of_parts3 (fuel := 8) (cplain_met os) (by kernel_rfl) (by kernel_rfl))
theorem cworldZ_shaped (os : Os) (args : Array Value) : ((cworldZ os).forCall (fun _ _ => 0) ⟨#[], args, []⟩).Shaped Tryz.prog := World.shaped_of_ZipB (by kernel_rfl) (by kernel_rfl)
end Go.Proofs.YtaiigfcfmcicjaaGreatDoor

/- PureS -/
namespace Go.Proofs.YtaiigfcfmcicjaaGreatDoor
open Go.RowKit

def shape (op : List UInt8) : Option (List UInt8) :=
  if (op == [99, 111, 110, 115, 116]) = true then some [114, 118]
  else if (op == [109, 111, 118, 101]) = true then some [114, 114]
  else if (op == [97, 100, 100]) = true then some [114, 114, 114]
  else if (op == [115, 117, 98]) = true then some [114, 114, 114]
  else if (op == [97, 110, 100]) = true then some [114, 114, 114]
  else if (op == [120, 111, 114]) = true then some [114, 114, 114]
  else if (op == [108, 111, 97, 100]) = true then some [114, 114, 119]
  else if (op == [115, 116, 111, 114, 101]) = true then some [114, 114, 119]
  else if (op == [115, 119, 97, 112]) = true then some [114, 114, 119]
  else if (op == [99, 97, 115]) = true then some [114, 115, 119]
  else if (op == [97, 108, 108, 111, 99]) = true then some [114]
  else if (op == [102, 114, 101, 101]) = true then some [114]
  else if (op == [109, 97, 114, 107]) = true then some [114]
  else if (op == [110, 101, 101, 100]) = true then some [114]
  else if (op == [102, 101, 110, 99, 101]) = true then some []
  else if (op == [102, 111, 114, 99, 101]) = true then some []
  else if (op == [115, 116, 111, 112]) = true then some []
  else if (op == [122, 101, 114, 111]) = true then some [114, 108]
  else if (op == [115, 97, 109, 101]) = true then some [114, 114, 108]
  else if (op == [103, 111, 116, 111]) = true then some [108]
  else if (op == [108, 97, 98, 101, 108]) = true then some [108]
  else none

def shapeV : Option (List UInt8) → Value
  | some l => .tuple #[.string ⟨l.toArray⟩, .bool true]
  | none => .tuple #[.string ⟨#[]⟩, .bool false]


def nameOk (i c : Nat) : Bool := decide ((97 ≤ c ∧ c ≤ 122) ∨ (i ≠ 0 ∧ ((48 ≤ c ∧ c ≤ 57) ∨ c = 46)))

def isName (s : ByteArray) : Prop := 1 ≤ s.size ∧ s.size ≤ 12 ∧ ∀ j (h : j < s.size), nameOk j (s[j]'h).toNat = true


structure Ins where
  op : ByteArray
  a : Int
  b : Int
  c : Int
  to : ByteArray

def Ins.n (x : Ins) : Nat → Int
  | 0 => x.a
  | 1 => x.b
  | _ => x.c

def byteAt (S : ByteArray) (i : Nat) : Nat := if h : i < S.size then (S[i]'h).toNat else 0
theorem byteAt_lt {S : ByteArray} {i : Nat} (h : i < S.size) : byteAt S i = (S[i]'h).toNat := dif_pos h

def cnt (S : ByteArray) : Nat → Nat
  | 0 => 0
  | j + 1 => cnt S j + if byteAt S j = 108 then 0 else 1
def lab (S : ByteArray) : Nat → Bool
  | 0 => false
  | j + 1 => lab S j || byteAt S j == 108
theorem cnt_le (S : ByteArray) (j : Nat) : cnt S j ≤ j := by
  induction j with
  | zero => exact Nat.le_refl _
  | succ j ih => unfold cnt; split <;> omega

def mostOf (c : Nat) : Int := if c = 114 then 8 else if c = 115 then 7 else if c = 119 then 4 else 4294967296

open Classical in
noncomputable def insBad (x : Ins) (S : ByteArray) : Nat :=
  if lab S S.size = false ∧ ¬ x.to.toList = [] then 3
  else if ∃ k, cnt S S.size ≤ k ∧ k < 3 ∧ x.n k ≠ 0 then 3
  else if ∃ k, k < cnt S S.size ∧ ¬ (0 ≤ x.n k ∧ x.n k < mostOf (byteAt S k)) then 2
  else if lab S S.size = true ∧ ¬ isName x.to then 4 else 0

noncomputable def insErr (x : Ins) : Nat := match shape x.op.toList with
  | none => 3
  | some l => insBad x ⟨l.toArray⟩

theorem ite_len {c : Prop} [Decidable c] {l r : List UInt8} {e : Option (List UInt8)} (h : (if c then some l else e) = some r) (hl : l.length ≤ 3) (he : e = some r → r.length ≤ 3) : r.length ≤ 3 := by
  by_cases hc : c
  · rw [if_pos hc] at h; cases h; exact hl
  · rw [if_neg hc] at h; exact he h
theorem shape_le {l r : List UInt8} (h : shape l = some r) : r.length ≤ 3 := by
  unfold shape at h
  refine ite_len h (by decide) (fun h => ?_)
  refine ite_len h (by decide) (fun h => ?_)
  refine ite_len h (by decide) (fun h => ?_)
  refine ite_len h (by decide) (fun h => ?_)
  refine ite_len h (by decide) (fun h => ?_)
  refine ite_len h (by decide) (fun h => ?_)
  refine ite_len h (by decide) (fun h => ?_)
  refine ite_len h (by decide) (fun h => ?_)
  refine ite_len h (by decide) (fun h => ?_)
  refine ite_len h (by decide) (fun h => ?_)
  refine ite_len h (by decide) (fun h => ?_)
  refine ite_len h (by decide) (fun h => ?_)
  refine ite_len h (by decide) (fun h => ?_)
  refine ite_len h (by decide) (fun h => ?_)
  refine ite_len h (by decide) (fun h => ?_)
  refine ite_len h (by decide) (fun h => ?_)
  refine ite_len h (by decide) (fun h => ?_)
  refine ite_len h (by decide) (fun h => ?_)
  refine ite_len h (by decide) (fun h => ?_)
  refine ite_len h (by decide) (fun h => ?_)
  refine ite_len h (by decide) (fun h => ?_)
  cases h


def setsLabel (x : Ins) (to : ByteArray) : Bool := (x.op.toList == [108, 97, 98, 101, 108]) && (x.to.toList == to.toList)
def labelAt (l : List Ins) (to : ByteArray) : Int := match l.findIdx? (fun x => setsLabel x to) with
  | some j => (j : Int)
  | none => -1

theorem labelAt_some {l : List Ins} {to : ByteArray} {j : Nat} {x : Ins} (hx : l[j]? = some x) (h1 : setsLabel x to = true) (h2 : ∀ (k : Nat) (y : Ins), k < j → l[k]? = some y → setsLabel y to = false) : labelAt l to = j := by
  unfold labelAt
  have : l.findIdx? (fun x => setsLabel x to) = some j := by
    rw [List.findIdx?_eq_some_iff_getElem]
    obtain ⟨hl, rfl⟩ := List.getElem?_eq_some_iff.1 hx
    exact ⟨hl, h1, fun k hk => by rw [h2 k _ hk (List.getElem?_eq_getElem (by omega))]; decide⟩
  rw [this]
theorem labelAt_none {l : List Ins} {to : ByteArray} (h : ∀ (k : Nat) (y : Ins), l[k]? = some y → setsLabel y to = false) : labelAt l to = -1 := by
  unfold labelAt
  have : l.findIdx? (fun x => setsLabel x to) = none := by
    rw [List.findIdx?_eq_none_iff]
    intro x hx
    obtain ⟨k, hk, rfl⟩ := List.getElem_of_mem hx
    rw [h k _ (List.getElem?_eq_getElem hk)]
  rw [this]


open Classical in
noncomputable def insFault (l : List Ins) (i : Nat) (x : Ins) : Nat :=
  if insErr x ≠ 0 then insErr x
  else if (x.op.toList == [108, 97, 98, 101, 108]) = true ∧ labelAt l x.to ≠ i then 4
  else if (x.to.toList == []) = false ∧ labelAt l x.to < 0 then 5 else 0

noncomputable def faultFrom (l : List Ins) : Nat → List Ins → Nat × Int
  | _, [] => (0, -1)
  | j, x :: r => if insFault l j x = 0 then faultFrom l (j + 1) r else (insFault l j x, j)
noncomputable def codeFault (l : List Ins) : Nat × Int := if 2000 < l.length then (2, -1) else faultFrom l 0 l

theorem faultFrom_at (l : List Ins) : ∀ (r : List Ins) (j : Nat), (∀ k y, r[k]? = some y → insFault l (j + k) y = 0) → faultFrom l j r = (0, -1)
  | [], _, _ => rfl
  | x :: r, j, h => by
    unfold faultFrom
    rw [if_pos (show insFault l j x = 0 from h 0 x rfl)]
    exact faultFrom_at l r (j + 1) (fun k y hy => by have := h (k + 1) y hy; rwa [show j + (k + 1) = j + 1 + k by omega] at this)
theorem faultFrom_hit (l : List Ins) : ∀ (r : List Ins) (j n : Nat) (x : Ins), r[n]? = some x → insFault l (j + n) x ≠ 0 → (∀ k y, k < n → r[k]? = some y → insFault l (j + k) y = 0) → faultFrom l j r = (insFault l (j + n) x, ((j + n : Nat) : Int))
  | [], _, _, _, hx, _, _ => by cases hx
  | z :: r, j, 0, x, hx, h0, _ => by
    cases hx
    unfold faultFrom
    rw [if_neg (show ¬ insFault l j z = 0 from h0)]
    rfl
  | z :: r, j, n + 1, x, hx, h0, h => by
    unfold faultFrom
    rw [if_pos (show insFault l j z = 0 from h 0 z (Nat.succ_pos _) rfl)]
    have := faultFrom_hit l r (j + 1) n x hx (by rwa [show j + 1 + n = j + (n + 1) by omega]) (fun k y hk hy => by have := h (k + 1) y (by omega) hy; rwa [show j + (k + 1) = j + 1 + k by omega] at this)
    rw [this, show j + 1 + n = j + (n + 1) by omega]


end Go.Proofs.YtaiigfcfmcicjaaGreatDoor
