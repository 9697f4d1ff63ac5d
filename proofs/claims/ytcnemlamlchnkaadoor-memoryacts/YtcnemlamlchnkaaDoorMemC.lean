/- Package memory: a thread's line of stores that wait, by contracts: last. -/
import Derived.Test.YtcnemlamlchnkaaDoorMemA
namespace Go.Proofs.YtcnemlamlchnkaaDoor
open Go.RowKit Go.Extern.Stop Go.Stop Go.Extern

theorem drop_pick (l : List Wt) (j : Nat) (x : Wt) (h : l[j]? = some x) (c g k v : Int) : (l.drop j).foldl (Wt.pick c g k) v = (l.drop (j + 1)).foldl (Wt.pick c g k) (Wt.pick c g k v x) := by
  obtain ⟨hl, rfl⟩ := List.getElem?_eq_some_iff.1 h
  rw [List.drop_eq_getElem_cons hl]; rfl

theorem take_drop_pick (l : List Wt) (j : Nat) (c g k v : Int) : l.foldl (Wt.pick c g k) v = (l.drop j).foldl (Wt.pick c g k) ((l.take j).foldl (Wt.pick c g k) v) := by
  rw [← List.foldl_append, List.take_append_drop]

/-- What 'last' gives. -/
def LastIs (l : List Wt) (c g k : Int) (e : Ending) : Prop := ∃ v ok, e = .returned (.tuple #[.int .i64 v, .bool ok]) ∧ (ok = false → v = 0) ∧ ∀ v0, l.foldl (Wt.pick c g k) v0 = if ok = true then v else v0

set_option maxRecDepth 20000 in
set_option maxHeartbeats 1000000 in
/-- The last store that waits for a word: its value; or none. -/
theorem last_any (b o : Nat) (l : List Wt) (c g k : Int) (w : World) (h : LnAt b o l w) :
    Calls Tryd.prog 52 #[.pointer (some ⟨b, o, none⟩), .agg #[.int .i64 c, .int .i64 g], .int .i64 k] w fun e w' => LastIs l c g k e ∧ Below w.heap.size w w' := by
  have h1 := h.alloc (.cells #[.int .i64 c, .int .i64 g] 36)
  have hba := box_below c g w
  have q0 : (w.alloc (.cells #[.int .i64 c, .int .i64 g] 36)).cell? ⟨w.heap.size, 0, none⟩ = some (.int .i64 c) := by simp
  have q1 : (w.alloc (.cells #[.int .i64 c, .int .i64 g] 36)).cell? ⟨w.heap.size, 1, none⟩ = some (.int .i64 g) := by simp
  generalize hw : w.alloc (.cells #[.int .i64 c, .int .i64 g] 36) = w1 at *
  have hn := h1.len
  have hle := h1.le
  have HL : Hid (LnAt b o l w1) := h1
  clear h h1
  have l8 : (l.length : Int) ≤ 8 := by omega
  go_enter Tryd.func52, Tryd.ntmps52
  go_wp2_with fail
  go_loopw [8, 9] (fun i _ wr => Below w1.heap.size w1 wr ∧ ∃ j : Nat, j ≤ l.length ∧ i = .int .i64 ((j : Int) - 1) ∧ Hid (∀ v0, (l.drop j).foldl (Wt.pick c g k) v0 = v0)) (fun i _ _ => (intOf i + 1).toNat)
  case atStart => exact ⟨Below.refl _ _, l.length, Nat.le_refl _, by go_num, fun v0 => by rw [List.drop_length]; rfl⟩
  case round =>
    obtain ⟨hbr, j, hj, rfl, HD⟩ := hrel
    have r0 := keep_cell hbr q0
    have r1 := keep_cell hbr q1
    have B2 := below_step hba hbr
    have HL2 := HL.out.below hbr
    cases j with
    | zero =>
      have hz : (((0 : Nat) : Int) - 1) = -1 := rfl
      rw [hz]
      clear HL2 HL
      go_wp2
      go_ret2
      exact ⟨⟨0, false, rfl, fun _ => rfl, fun v0 => by have := HD.out v0; rwa [List.drop_zero] at this⟩, B2⟩
    | succ j =>
      have hz : (((j + 1 : Nat) : Int) - 1) = (j : Int) := by omega
      rw [hz]
      obtain ⟨x, hx⟩ : ∃ x, l[j]? = some x := ⟨_, List.getElem?_eq_getElem (by omega)⟩
      have e0 : wr.cell? ⟨b, o + j * 4, none⟩ = some (.int .i64 x.c) := by have := HL2.row j 0 (by omega) (by decide); unfold lnCell at this; rw [hx] at this; exact this
      have e1 : wr.cell? ⟨b, o + j * 4 + 1, none⟩ = some (.int .i64 x.g) := by have := HL2.row j 1 (by omega) (by decide); unfold lnCell at this; rw [hx] at this; exact this
      have e2 : wr.cell? ⟨b, o + j * 4 + 2, none⟩ = some (.int .i64 x.w) := by have := HL2.row j 2 (by omega) (by decide); unfold lnCell at this; rw [hx] at this; exact this
      have e3 : wr.cell? ⟨b, o + j * 4 + 3, none⟩ = some (.int .i64 x.v) := by have := HL2.row j 3 (by omega) (by decide); unfold lnCell at this; rw [hx] at this; exact this
      have HP : Hid (∀ v0, (l.drop j).foldl (Wt.pick c g k) v0 = Wt.pick c g k v0 x) := fun v0 => by rw [drop_pick l j x hx]; exact HD.out _
      have j8 : (j : Int) < 8 := by omega
      have y0 := World.block_lt_of_cell? _ _ r0
      clear HL2 HL HD hx q0 q1
      by_cases b0 : x.c = c
      · have t0 : (x.c == c) = true := beq_iff_eq.2 b0
        by_cases b1 : x.g = g
        · have t1 : (x.g == g) = true := beq_iff_eq.2 b1
          by_cases b2 : x.w = k
          · have t2 : (x.w == k) = true := beq_iff_eq.2 b2
            have HQ : Hid (∀ v0, l.foldl (Wt.pick c g k) v0 = x.v) := fun v0 => by rw [take_drop_pick l j, HP.out]; exact if_pos ⟨b0, b1, b2⟩
            clear b0 b1 b2 HP
            go_wp2
            go_ret2
            exact ⟨⟨x.v, true, rfl, (fun h => Bool.noConfusion h), fun v0 => HQ.out v0⟩, B2.alloc B2.size _⟩
          · have t2 : (x.w == k) = false := beq_eq_false_iff_ne.2 b2
            have HQ : Hid (∀ v0, (l.drop j).foldl (Wt.pick c g k) v0 = v0) := fun v0 => by rw [HP.out]; exact if_neg (fun h => b2 h.2.2)
            clear b0 b1 b2 HP
            go_wp2
            go_roundw
            case rel => exact ⟨hbr.alloc hbr.size _, j, by omega, by go_num, HQ⟩
            case measure => simp [intOf]
        · have t1 : (x.g == g) = false := beq_eq_false_iff_ne.2 b1
          have HQ : Hid (∀ v0, (l.drop j).foldl (Wt.pick c g k) v0 = v0) := fun v0 => by rw [HP.out]; exact if_neg (fun h => b1 h.2.1)
          clear b0 b1 HP
          go_wp2
          go_roundw
          case rel => exact ⟨hbr.alloc hbr.size _, j, by omega, by go_num, HQ⟩
          case measure => simp [intOf]
      · have t0 : (x.c == c) = false := beq_eq_false_iff_ne.2 b0
        have HQ : Hid (∀ v0, (l.drop j).foldl (Wt.pick c g k) v0 = v0) := fun v0 => by rw [HP.out]; exact if_neg (fun h => b0 h.1)
        clear b0 HP
        go_wp2
        go_roundw
        case rel => exact ⟨hbr.alloc hbr.size _, j, by omega, by go_num, HQ⟩
        case measure => simp [intOf]

/-- Does a store to that word wait? -/
def waitsFor (l : List Wt) (c g k : Int) : Bool := decide (l.foldl (Wt.pick c g k) 0 = l.foldl (Wt.pick c g k) 1)

theorem lastIs_det {l : List Wt} {c g k : Int} {e : Ending} (h : LastIs l c g k e) : e = .returned (.tuple #[.int .i64 (l.foldl (Wt.pick c g k) 0), .bool (waitsFor l c g k)]) ∧ ∀ v0, l.foldl (Wt.pick c g k) v0 = if waitsFor l c g k = true then l.foldl (Wt.pick c g k) 0 else v0 := by
  obtain ⟨v, ok, rfl, h0, hv⟩ := h
  cases ok
  · have h1 : ∀ v0, l.foldl (Wt.pick c g k) v0 = v0 := fun v0 => by rw [hv]; rfl
    have hw : waitsFor l c g k = false := by unfold waitsFor; rw [h1, h1]; rfl
    rw [hw, h1, h0 rfl]
    exact ⟨rfl, fun v0 => by rw [h1]; rfl⟩
  · have h1 : ∀ v0, l.foldl (Wt.pick c g k) v0 = v := fun v0 => by rw [hv]; rfl
    have hw : waitsFor l c g k = true := by unfold waitsFor; rw [h1, h1]; exact decide_eq_true rfl
    rw [hw, h1]
    exact ⟨rfl, fun v0 => by rw [h1]; rfl⟩

theorem last_det (b o : Nat) (l : List Wt) (c g k : Int) (w : World) (h : LnAt b o l w) :
    Calls Tryd.prog 52 #[.pointer (some ⟨b, o, none⟩), .agg #[.int .i64 c, .int .i64 g], .int .i64 k] w fun e w' => e = .returned (.tuple #[.int .i64 (l.foldl (Wt.pick c g k) 0), .bool (waitsFor l c g k)]) ∧ Below w.heap.size w w' :=
  (last_any b o l c g k w h).mono fun _ _ ⟨h1, h2⟩ => ⟨(lastIs_det h1).1, h2⟩
end Go.Proofs.YtcnemlamlchnkaaDoor
