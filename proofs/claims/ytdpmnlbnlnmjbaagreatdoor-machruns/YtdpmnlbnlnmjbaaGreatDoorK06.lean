import Derived.Test.YtdpmnlbnlnmjbaaGreatDoorK05
import Derived.BigQuiet
import Derived.Deep.OwnRows
import Derived.Maps.AppendAt

/- RefD -/
namespace Go.Proofs.YtdpmnlbnlnmjbaaGreatDoor
open Go.RowKit Go.Extern.Stop Go.Stop Go.Extern

theorem RmPl.fp_words (p : RmPl) (s s' : Rm) (c b n k : Nat) (h1 : s'.ar.size = s.ar.size) (h2 : s'.threads = s.threads) (h : (p.withWords c b n).fp s' k) : p.fp s k ∨ k = b := by
  rcases h with h | h | h | ⟨j, hj, h⟩ | ⟨t, ht, h⟩
  · exact Or.inl (Or.inl h)
  · exact Or.inl (Or.inr (Or.inl h))
  · exact Or.inl (Or.inr (Or.inr (Or.inl h)))
  · simp only [RmPl.withWords] at h
    split at h
    · exact Or.inr h
    · exact Or.inl (Or.inr (Or.inr (Or.inr (Or.inl ⟨j, by rw [← h1]; exact hj, h⟩))))
  · exact Or.inl (Or.inr (Or.inr (Or.inr (Or.inr ⟨t, by rw [← h2]; exact ht, h⟩))))

theorem RmAt.apart {p : RmPl} {s : Rm} {w : World} (h : RmAt p s w) {b o : Nat} (v : Value) (hb : ∀ k, p.fp s k → k ≠ b) : RmAt p s (w.setCell ⟨b, o, none⟩ v) :=
  h.turns (S := fun k _ => k = b) ((Turns.refl _ _).setCell v rfl) (fun k _ hk => hb k hk)

theorem make4 (w : World) : (Instr.makeSlice 26 (.int .i64 4) (.int .i64 4)).run Tryz.prog w = .ok (.slice (some ⟨w.heap.size, 0, none⟩) 4 4) (w.alloc (.cells #[.int .i64 0, .int .i64 0, .int .i64 0, .int .i64 0] 3)) := by kernel_rfl

theorem ralloc_full (p : RmPl) (s : Rm) (w : World) (h : RmAt p s w) (hf : ∀ j, j < s.ar.size → s.ar.there j = true) :
    Calls Tryz.prog 48 #[.pointer (some ⟨p.mb, 0, none⟩)] w fun e w' => e = .returned (.tuple #[.agg #[.int .i64 0, .int .i64 0], .int .i64 6]) ∧ Below w.heap.size w w' := by
  have h1 := h.alloc (.cells #[.int .i64 0, .int .i64 0] 95)
  have hba := box_below 0 0 w
  have hz := h.small
  have hcc := h.ccap
  have z0 : (w.alloc (.cells #[.int .i64 0, .int .i64 0] 95)).cell? ⟨w.heap.size, 0, none⟩ = some (.int .i64 0) := by simp
  have z1 : (w.alloc (.cells #[.int .i64 0, .int .i64 0] 95)).cell? ⟨w.heap.size, 1, none⟩ = some (.int .i64 0) := by simp
  have y0 : (w.alloc (.cells #[.int .i64 0, .int .i64 0] 95)).frozen? ⟨w.heap.size, 0, none⟩ = false := by simp
  have y1 : (w.alloc (.cells #[.int .i64 0, .int .i64 0] 95)).frozen? ⟨w.heap.size, 1, none⟩ = false := by simp
  have hm := h1.mCells
  clear h
  generalize hw : w.alloc (.cells #[.int .i64 0, .int .i64 0] 95) = w1 at *
  go_enter Tryz.func48, Tryz.ntmps48
  go_wp2_with fail
  go_loop [4] (fun i => ∃ j : Nat, j ≤ s.ar.size ∧ i = .int .i64 j) (fun i => s.ar.size - (intOf i).toNat)
  case atStart => exact ⟨0, Nat.zero_le _, rfl⟩
  case round =>
    obtain ⟨j, hj, rfl⟩ := hrel
    by_cases hlt : j < s.ar.size
    · have ht := h1.cHere j hlt
      rw [hf j hlt] at ht
      have ji : (j : Int) < s.ar.size := by omega
      clear hf
      go_wp2
      go_round
      case rel => exact ⟨j + 1, by omega, by go_num⟩
      case measure => simp [intOf]; omega
    · obtain rfl : j = s.ar.size := by omega
      clear hf
      go_wp2
      refine bodyPost_ret (v := .tuple #[.agg #[.int .i64 0, .int .i64 0], .int .i64 6]) (by simp only [results, Tryz.results48]; go_simp) rfl ⟨rfl, ?_⟩
      exact (hba.setCell (Nat.le_refl _) _).setCell (Nat.le_refl _) _

set_option maxHeartbeats 2000000 in
theorem ralloc_some (p : RmPl) (s : Rm) (c : Nat) (w : World) (h : RmAt p s w) (hc : c < s.ar.size) (hf : ∀ j, j < c → s.ar.there j = true) (ht : s.ar.there c = false) (hg : s.ar.given c + 1 < 4611686018427387904) :
    Calls Tryz.prog 48 #[.pointer (some ⟨p.mb, 0, none⟩)] w fun e w' => e = .returned (.tuple #[.agg #[.int .i64 c, .int .i64 (s.ar.given c)], .int .i64 0]) ∧ Turns (fun k _ => k = p.cb) w w' ∧ ∃ b, w.heap.size ≤ b ∧ RmAt (p.withWords c b 4) (s.give c) w' := by
  have h1 := h.alloc (.cells #[.int .i64 0, .int .i64 0] 95)
  have hba : Turns (fun k _ => k = p.cb) w (w.alloc (.cells #[.int .i64 0, .int .i64 0] 95)) := (Turns.refl _ _).alloc _
  have hz := h.small
  have hcc := h.ccap
  have z0 : (w.alloc (.cells #[.int .i64 0, .int .i64 0] 95)).cell? ⟨w.heap.size, 0, none⟩ = some (.int .i64 0) := by simp
  have z1 : (w.alloc (.cells #[.int .i64 0, .int .i64 0] 95)).cell? ⟨w.heap.size, 1, none⟩ = some (.int .i64 0) := by simp
  have y0 : (w.alloc (.cells #[.int .i64 0, .int .i64 0] 95)).frozen? ⟨w.heap.size, 0, none⟩ = false := by simp
  have y1 : (w.alloc (.cells #[.int .i64 0, .int .i64 0] 95)).frozen? ⟨w.heap.size, 1, none⟩ = false := by simp
  have hm := h1.mCells
  have l1 := h.lm
  have l2 := h.lc
  have hfp : ∀ k, p.fp s k → k < w.heap.size := fun k hk => h.fp_lt hk
  clear h
  generalize hw : w.alloc (.cells #[.int .i64 0, .int .i64 0] 95) = w1 at *
  go_enter Tryz.func48, Tryz.ntmps48
  go_wp2_with fail
  go_loop [4] (fun i => ∃ j : Nat, j ≤ c ∧ i = .int .i64 j) (fun i => s.ar.size - (intOf i).toNat)
  case atStart => exact ⟨0, Nat.zero_le _, rfl⟩
  case round =>
    obtain ⟨j, hj, rfl⟩ := hrel
    have hlt : j < s.ar.size := by omega
    have ji : (j : Int) < s.ar.size := by omega
    have htj := h1.cHere j hlt
    by_cases hlc : j < c
    · rw [hf j hlc] at htj
      clear hf
      go_wp2
      go_round
      case rel => exact ⟨j + 1, by omega, by go_num⟩
      case measure => simp [intOf]; omega
    · obtain rfl : j = c := by omega
      rw [ht] at htj
      have htm := h1.cTimes j hlt
      have hwd := h1.cWords j hlt
      have fc0 := h1.fc (j * 3)
      have fc1 := h1.fc (j * 3 + 1)
      have fc2 := h1.fc (j * 3 + 2)
      have gi : ((s.ar.given j : Nat) : Int) + 1 < 4611686018427387904 := by omega
      have m4 := make4
      have l3 := h1.lm
      have l4 := h1.lc
      have lz := World.block_lt_of_cell? _ _ z0
      clear hf
      go_wp2
      have hG : RmAt (p.withWords j w1.heap.size 4) (s.give j) (((((w1.setCell ⟨p.cb, j * 3, none⟩ (.slice (some ⟨w1.heap.size, 0, none⟩) 4 4)).setCell ⟨p.cb, j * 3 + 1, none⟩ (.int .i64 (s.ar.given j + 1))).setCell ⟨p.cb, j * 3 + 2, none⟩ (.bool true)).alloc (.cells #[.int .i64 0, .int .i64 0, .int .i64 0, .int .i64 0] 3)).drew) := by
        have h5 := (((h1.newWords j hlt).setGiven j hlt (s.ar.given j + 1) hg).setThere j hlt true)
        rw [Rm.give_eq] at h5
        rw [← World.setCell_alloc_past _ _ _ _ (by simp; exact l4), ← World.setCell_alloc_past _ _ _ _ (by simp; exact l4), ← World.setCell_alloc_past _ _ _ _ l4]
        exact h5.below (Below.refl _ _).drew
      have hT : Turns (fun k _ => k = p.cb) w (((((w1.setCell ⟨p.cb, j * 3, none⟩ (.slice (some ⟨w1.heap.size, 0, none⟩) 4 4)).setCell ⟨p.cb, j * 3 + 1, none⟩ (.int .i64 (s.ar.given j + 1))).setCell ⟨p.cb, j * 3 + 2, none⟩ (.bool true)).alloc (.cells #[.int .i64 0, .int .i64 0, .int .i64 0, .int .i64 0] 3)).drew) := ((((hba.setCell _ rfl).setCell _ rfl).setCell _ rfl).alloc _).drew
      have zr0 : (((((w1.setCell ⟨p.cb, j * 3, none⟩ (.slice (some ⟨w1.heap.size, 0, none⟩) 4 4)).setCell ⟨p.cb, j * 3 + 1, none⟩ (.int .i64 (s.ar.given j + 1))).setCell ⟨p.cb, j * 3 + 2, none⟩ (.bool true)).alloc (.cells #[.int .i64 0, .int .i64 0, .int .i64 0, .int .i64 0] 3)).drew).cell? ⟨w.heap.size, 0, none⟩ = some (.int .i64 0) := by go_simp
      have zr1 : (((((w1.setCell ⟨p.cb, j * 3, none⟩ (.slice (some ⟨w1.heap.size, 0, none⟩) 4 4)).setCell ⟨p.cb, j * 3 + 1, none⟩ (.int .i64 (s.ar.given j + 1))).setCell ⟨p.cb, j * 3 + 2, none⟩ (.bool true)).alloc (.cells #[.int .i64 0, .int .i64 0, .int .i64 0, .int .i64 0] 3)).drew).cell? ⟨w.heap.size, 1, none⟩ = some (.int .i64 0) := by go_simp
      have yr0 : (((((w1.setCell ⟨p.cb, j * 3, none⟩ (.slice (some ⟨w1.heap.size, 0, none⟩) 4 4)).setCell ⟨p.cb, j * 3 + 1, none⟩ (.int .i64 (s.ar.given j + 1))).setCell ⟨p.cb, j * 3 + 2, none⟩ (.bool true)).alloc (.cells #[.int .i64 0, .int .i64 0, .int .i64 0, .int .i64 0] 3)).drew).frozen? ⟨w.heap.size, 0, none⟩ = false := by go_simp
      have yr1 : (((((w1.setCell ⟨p.cb, j * 3, none⟩ (.slice (some ⟨w1.heap.size, 0, none⟩) 4 4)).setCell ⟨p.cb, j * 3 + 1, none⟩ (.int .i64 (s.ar.given j + 1))).setCell ⟨p.cb, j * 3 + 2, none⟩ (.bool true)).alloc (.cells #[.int .i64 0, .int .i64 0, .int .i64 0, .int .i64 0] 3)).drew).frozen? ⟨w.heap.size, 1, none⟩ = false := by go_simp
      have hsz : w.heap.size ≤ w1.heap.size := hba.size
      have hnz : ∀ k, (p.withWords j w1.heap.size 4).fp (s.give j) k → k ≠ w.heap.size := fun k hk => by
        rcases RmPl.fp_words p s (s.give j) j w1.heap.size 4 k rfl rfl hk with h6 | h6
        · have := hfp k h6; omega
        · omega
      have HNZ : Hid (∀ k, (p.withWords j w1.heap.size 4).fp (s.give j) k → k ≠ w.heap.size) := hnz
      clear hnz hfp
      go_region
      clear z0 z1 y0 y1 htm hwd htj fc0 fc1 fc2 h1 hm hw hba m4
      generalize ((((w1.setCell ⟨p.cb, j * 3, none⟩ (.slice (some ⟨w1.heap.size, 0, none⟩) 4 4)).setCell ⟨p.cb, j * 3 + 1, none⟩ (.int .i64 (s.ar.given j + 1))).setCell ⟨p.cb, j * 3 + 2, none⟩ (.bool true)).alloc (.cells #[.int .i64 0, .int .i64 0, .int .i64 0, .int .i64 0] 3)).drew = w2 at hG hT zr0 zr1 yr0 yr1 ⊢
      have h9 : (p.withWords j w1.heap.size 4).cb = p.cb := rfl
      have hm2 : w2.cell? ⟨p.mb, 0, none⟩ = some (.slice (some ⟨p.cb, 0, none⟩) s.ar.size p.ccap) := hG.mCells
      have htm2 : w2.cell? ⟨p.cb, j * 3 + 1, none⟩ = some (.int .i64 (s.ar.given j + 1 : Nat)) := by
        have h6 := hG.cTimes j hlt
        rw [show (s.give j).ar.given j = s.ar.given j + 1 from by simp [Rm.give, Ar.give]] at h6
        exact h6
      have lz2 := World.block_lt_of_cell? _ _ zr0
      clear h9
      go_wp2
      refine bodyPost_ret (v := .tuple #[.agg #[.int .i64 j, .int .i64 (s.ar.given j)], .int .i64 0]) (by simp only [results, Tryz.results48]; go_simp) rfl ⟨rfl, (hT.setNew _ (Nat.le_refl _)).setNew _ (Nat.le_refl _), w1.heap.size, hsz, ?_⟩
      exact (hG.apart _ HNZ.out).apart _ HNZ.out
end Go.Proofs.YtdpmnlbnlnmjbaaGreatDoor

/- RefE -/
namespace Go.Proofs.YtdpmnlbnlnmjbaaGreatDoor
open Go.RowKit Go.Extern.Stop Go.Stop Go.Extern

def zCell : Array Value := #[.slice none 0 0, .int .i64 0, .bool false]

theorem cellInfo : ∃ i, Tryz.prog.info? 121 = some i ∧ i.zero = some (.agg zCell) ∧ i.size = 3 ∧ i.bytes = 40 := by
  obtain ⟨i, hi, h1⟩ := Option.map_eq_some_iff.1 (show (Tryz.prog.info? 121).map (·.zero) = some (some (.agg zCell)) by kernel_rfl)
  obtain ⟨j, hj, h2⟩ := Option.map_eq_some_iff.1 (show (Tryz.prog.info? 121).map (·.size) = some 3 by kernel_rfl)
  obtain ⟨k, hk, h3⟩ := Option.map_eq_some_iff.1 (show (Tryz.prog.info? 121).map (·.bytes) = some 40 by kernel_rfl)
  obtain rfl := Option.some.inj (hi.symm.trans hj)
  obtain rfl := Option.some.inj (hi.symm.trans hk)
  exact ⟨_, hi, h1, h2, h3⟩

theorem mkCells (n : Nat) (hn : n ≤ 1000000) (w : World) : (Instr.makeSlice 122 (.int .i64 n) (.int .i64 n)).run Tryz.prog w = .ok (.slice (some ⟨w.heap.size, 0, none⟩) n n) (w.alloc (.cells (madeCells zCell (n * 3)) 121)) := by
  obtain ⟨i, hi, hz, hs, hb⟩ := cellInfo
  have := run_make (P := Tryz.prog) w 122 121 i (.agg zCell) Tryz.underlying122 hi hz .i64 .i64 n n (by omega) (Int.le_refl _) (by rw [hb]; omega) (by omega)
  simp only [Int.toNat_natCast, hs] at this
  exact this

theorem mkWaits (n : Nat) (hn : n ≤ 1000000) (w : World) : (Instr.makeSlice 123 (.int .i64 n) (.int .i64 n)).run Tryz.prog w = .ok (.slice (some ⟨w.heap.size, 0, none⟩) n n) (w.alloc (.cells (madeCells #[.slice none 0 0] n) 135)) :=
  run_make_row' 123 135 (.slice none 0 0) 24 Tryz.underlying123 (by kernel_rfl) rfl .i64 .i64 n (by omega) (by omega) w

theorem made_at (z : Array Value) (n k : Nat) (h : k < n) : (madeCells z n)[k]? = some (z[k % z.size]!) := by
  simp [madeCells, h]
theorem zCell_at (n c : Nat) (h : c < n) : (madeCells zCell (n * 3))[c * 3]? = some (.slice none 0 0) ∧ (madeCells zCell (n * 3))[c * 3 + 1]? = some (.int .i64 0) ∧ (madeCells zCell (n * 3))[c * 3 + 2]? = some (.bool false) := by
  rw [made_at _ _ _ (by omega), made_at _ _ _ (by omega), made_at _ _ _ (by omega)]
  rw [show zCell.size = 3 from rfl, show c * 3 % 3 = 0 by omega, show (c * 3 + 1) % 3 = 1 by omega, show (c * 3 + 2) % 3 = 2 by omega]
  exact ⟨rfl, rfl, rfl⟩

structure NewAt (B mb cb tb cells threads i : Nat) (wb : Nat → Nat) (w : World) : Prop where
  mCells : w.cell? ⟨mb, 0, none⟩ = some (.slice (some ⟨cb, 0, none⟩) cells cells)
  mWaits : w.cell? ⟨mb, 1, none⟩ = some (.slice (some ⟨tb, 0, none⟩) threads threads)
  done : ∀ c, c < i → w.cell? ⟨cb, c * 3, none⟩ = some (.slice (some ⟨wb c, 0, none⟩) 4 4)
  todo : ∀ c, i ≤ c → c < cells → w.cell? ⟨cb, c * 3, none⟩ = some (.slice none 0 0)
  times : ∀ c, c < cells → w.cell? ⟨cb, c * 3 + 1, none⟩ = some (.int .i64 0)
  here : ∀ c, c < cells → w.cell? ⟨cb, c * 3 + 2, none⟩ = some (.bool false)
  words : ∀ c k, c < i → k < 4 → w.cell? ⟨wb c, k, none⟩ = some (.int .i64 0)
  waits : ∀ t, t < threads → w.cell? ⟨tb, t, none⟩ = some (.slice none 0 0)
  fm : ∀ o, w.frozen? ⟨mb, o, none⟩ = false
  fc : ∀ o, w.frozen? ⟨cb, o, none⟩ = false
  ft : ∀ o, w.frozen? ⟨tb, o, none⟩ = false
  fw : ∀ c o, c < i → w.frozen? ⟨wb c, o, none⟩ = false
  lc : cb < w.heap.size
  lt : tb < w.heap.size
  d1 : mb ≠ cb
  d2 : mb ≠ tb
  d3 : cb ≠ tb
  dw : ∀ c, c < i → wb c ≠ mb ∧ wb c ≠ cb ∧ wb c ≠ tb ∧ B ≤ wb c
  dwi : ∀ c d, c < i → d < i → c ≠ d → wb c ≠ wb d
  base : B ≤ mb ∧ B ≤ cb ∧ B ≤ tb

theorem NewAt.lm {B mb cb tb cells threads i : Nat} {wb : Nat → Nat} {w : World} (h : NewAt B mb cb tb cells threads i wb w) : mb < w.heap.size := World.block_lt_of_cell? _ _ h.mCells

theorem cell_new {w : World} {p : Addr} {v : Value} {o : Obj} (h : w.cell? p = some v) : (w.alloc o).cell? p = some v := by
  rw [World.cell?_alloc_lt _ _ _ (World.block_lt_of_cell? _ _ h)]; exact h

theorem NewAt.next {B mb cb tb cells threads i : Nat} {wb : Nat → Nat} {w : World} (h : NewAt B mb cb tb cells threads i wb w) (hi : i < cells) (hB : B ≤ w.heap.size) :
    NewAt B mb cb tb cells threads (i + 1) (fun c => if c = i then w.heap.size else wb c) ((w.alloc (.cells #[.int .i64 0, .int .i64 0, .int .i64 0, .int .i64 0] 3)).setCell ⟨cb, i * 3, none⟩ (.slice (some ⟨w.heap.size, 0, none⟩) 4 4)) := by
  have lm := h.lm
  have lc := h.lc
  have lt := h.lt
  have lw : ∀ c, c < i → wb c < w.heap.size := fun c hc => World.block_lt_of_cell? _ _ (h.words c 0 hc (by decide))
  refine { mCells := cell_ne (cell_new h.mCells) (Or.inl h.d1), mWaits := cell_ne (cell_new h.mWaits) (Or.inl h.d1), done := fun c hc => ?_, todo := fun c hc hcc => cell_ne (cell_new (h.todo c (by omega) hcc)) (Or.inr (by omega)), times := fun c hc => cell_ne (cell_new (h.times c hc)) (Or.inr (by omega)), here := fun c hc => cell_ne (cell_new (h.here c hc)) (Or.inr (by omega)), words := fun c k hc hk => ?_, waits := fun t ht => cell_ne (cell_new (h.waits t ht)) (Or.inl (Ne.symm h.d3)), fm := fun o => ?_, fc := fun o => ?_, ft := fun o => ?_, fw := fun c o hc => ?_, lc := by simp; omega, lt := by simp; omega, d1 := h.d1, d2 := h.d2, d3 := h.d3, dw := fun c hc => ?_, dwi := fun c d hc hd hcd => ?_, base := h.base }
  · by_cases e : c = i
    · subst e
      rw [if_pos rfl]
      exact World.cell?_setCell_same _ _ _ (cell_new (h.todo c (Nat.le_refl _) hi))
    · rw [if_neg e]
      exact cell_ne (cell_new (h.done c (by omega))) (Or.inr (by omega))
  · by_cases e : c = i
    · subst e
      rw [if_pos rfl]
      refine cell_ne ?_ (Or.inl (by omega))
      rw [World.cell?_alloc_new]
      match k, hk with
      | 0, _ => rfl
      | 1, _ => rfl
      | 2, _ => rfl
      | 3, _ => rfl
    · rw [if_neg e]
      exact cell_ne (cell_new (h.words c k (by omega) hk)) (Or.inl (h.dw c (by omega)).2.1)
  · rw [World.frozen?_setCell, World.frozen?_alloc_old _ _ _ (Nat.ne_of_lt lm)]; exact h.fm o
  · rw [World.frozen?_setCell, World.frozen?_alloc_old _ _ _ (Nat.ne_of_lt lc)]; exact h.fc o
  · rw [World.frozen?_setCell, World.frozen?_alloc_old _ _ _ (Nat.ne_of_lt lt)]; exact h.ft o
  · rw [World.frozen?_setCell]
    by_cases e : c = i
    · rw [if_pos e]; exact World.frozen?_alloc_new _ _ _ _
    · rw [if_neg e, World.frozen?_alloc_old _ _ _ (Nat.ne_of_lt (lw c (by omega)))]; exact h.fw c o (by omega)
  · by_cases e : c = i
    · rw [if_pos e]; exact ⟨by omega, by omega, by omega, hB⟩
    · rw [if_neg e]; exact h.dw c (by omega)
  · by_cases e : c = i
    · rw [if_pos e, if_neg (fun e' => hcd (e.trans e'.symm))]
      have := lw d (by omega)
      omega
    · rw [if_neg e]
      by_cases e' : d = i
      · rw [if_pos e']
        have := lw c (by omega)
        omega
      · rw [if_neg e']
        exact h.dwi c d (by omega) (by omega) hcd

def Rm.fresh (cells threads : Nat) : Rm := ⟨⟨cells, fun _ _ => 0, fun _ => false, fun _ => 0⟩, threads, fun _ => []⟩

theorem NewAt.at {B mb cb tb cells threads : Nat} {wb : Nat → Nat} {w : World} (h : NewAt B mb cb tb cells threads cells wb w) (hc : cells ≤ 64) (ht : threads ≤ 6) :
    RmAt ⟨mb, cb, tb, cells, threads, wb, fun _ => 4, fun _ => .slice none 0 0⟩ (Rm.fresh cells threads) w where
  small := hc
  few := ht
  mCells := h.mCells
  mWaits := h.mWaits
  ccap := Nat.le_refl _
  tcap := Nat.le_refl _
  cWords := h.done
  cTimes := h.times
  cHere := h.here
  wcap _ _ := Nat.le_refl _
  words := h.words
  bound _ := by show 0 < 4611686018427387904; decide
  waits t ht := ⟨h.waits t ht, World.ownsRow_nil _ _ _ _⟩
  fm := h.fm
  fc := h.fc
  ft := h.ft
  fw := h.fw
  lc := h.lc
  lt := h.lt
  d1 := h.d1
  d2 := h.d2
  d3 := h.d3
  dw c hc := ⟨(h.dw c hc).1, (h.dw c hc).2.1, (h.dw c hc).2.2.1⟩
  dwi := h.dwi
  dv _ _ _ hk := by cases hk
  dvi _ _ _ _ _ _ hk := by cases hk

theorem NewAt.fp {B mb cb tb cells threads : Nat} {wb : Nat → Nat} {w : World} (h : NewAt B mb cb tb cells threads cells wb w) (k : Nat) (hk : (⟨mb, cb, tb, cells, threads, wb, fun _ => 4, fun _ => .slice none 0 0⟩ : RmPl).fp (Rm.fresh cells threads) k) : B ≤ k := by
  rcases hk with h1 | h1 | h1 | ⟨c, hc, h1⟩ | ⟨t, ht, h1⟩
  · rw [h1]; exact h.base.1
  · rw [h1]; exact h.base.2.1
  · rw [h1]; exact h.base.2.2
  · rw [h1]; exact (h.dw c hc).2.2.2
  · cases h1

theorem NewAt.drew {B mb cb tb cells threads i : Nat} {wb : Nat → Nat} {w : World} (h : NewAt B mb cb tb cells threads i wb w) : NewAt B mb cb tb cells threads i wb w.drew :=
  ⟨h.mCells, h.mWaits, h.done, h.todo, h.times, h.here, h.words, h.waits, h.fm, h.fc, h.ft, h.fw, h.lc, h.lt, h.d1, h.d2, h.d3, h.dw, h.dwi, h.base⟩

theorem heap_new (w : World) (o : Obj) : (w.alloc o).heap[w.heap.size]? = some o := by show (w.heap.push o)[w.heap.size]? = _; simp
theorem blk3 (w : World) (o1 o2 o3 : Obj) : (((w.alloc o1).alloc o2).alloc o3).heap[w.heap.size]? = some o1 ∧ (((w.alloc o1).alloc o2).alloc o3).heap[w.heap.size + 1]? = some o2 ∧ (((w.alloc o1).alloc o2).alloc o3).heap[w.heap.size + 1 + 1]? = some o3 := by
  have e1 : w.heap.size + 1 = (w.alloc o1).heap.size := (World.size_alloc _ _).symm
  have e2 : w.heap.size + 1 + 1 = ((w.alloc o1).alloc o2).heap.size := by rw [World.size_alloc, World.size_alloc]
  refine ⟨?_, ?_, ?_⟩
  · rw [Below.heap_alloc _ _ _ (by omega), Below.heap_alloc _ _ _ (by omega)]; exact heap_new w o1
  · rw [Below.heap_alloc _ _ _ (by omega), e1]; exact heap_new _ o2
  · rw [e2]; exact heap_new _ o3

theorem made_world (cells threads : Nat) (mb cb tb : Nat) (w w1 : World) (hm : w1.heap[mb]? = some (.cells #[.slice (some ⟨cb, 0, none⟩) cells cells, .slice (some ⟨tb, 0, none⟩) threads threads] 125))
    (hcb : w1.heap[cb]? = some (.cells (madeCells zCell (cells * 3)) 121)) (htb : w1.heap[tb]? = some (.cells (madeCells #[.slice none 0 0] threads) 135))
    (d1 : mb ≠ cb) (d2 : mb ≠ tb) (d3 : cb ≠ tb) (hb : w.heap.size ≤ mb ∧ w.heap.size ≤ cb ∧ w.heap.size ≤ tb) : NewAt w.heap.size mb cb tb cells threads 0 (fun _ => 0) w1 where
  mCells := by simp [World.cell?, hm]
  mWaits := by simp [World.cell?, hm]
  done _ h := by omega
  todo c _ hc := by simp only [World.cell?, hcb]; exact (zCell_at _ _ hc).1
  times c hc := by simp only [World.cell?, hcb]; exact (zCell_at _ _ hc).2.1
  here c hc := by simp only [World.cell?, hcb]; exact (zCell_at _ _ hc).2.2
  words _ _ h := by omega
  waits t ht := by
    simp only [World.cell?, htb]
    rw [show (({ block := tb, off := t, spot := none } : Addr).spot.isSome) = false from rfl]
    simp only [Bool.false_eq_true, if_false]
    rw [made_at _ _ _ ht, show (#[Value.slice none 0 0] : Array Value).size = 1 from rfl, Nat.mod_one]
    rfl
  fm o := by simp [World.frozen?, hm]
  fc o := by simp [World.frozen?, hcb]
  ft o := by simp [World.frozen?, htb]
  fw _ _ h := by omega
  lc := lt_of_block hcb
  lt := lt_of_block htb
  d1 := d1
  d2 := d2
  d3 := d3
  dw _ h := by omega
  dwi _ _ h := by omega
  base := hb

set_option maxHeartbeats 2000000 in
theorem newMem_any (cells threads : Nat) (w : World) (hc : cells ≤ 64) (ht : threads ≤ 6) :
    Calls Tryz.prog 47 #[.int .i64 cells, .int .i64 threads] w fun e w' => ∃ p, e = .returned (.pointer (some ⟨p.mb, 0, none⟩)) ∧ RmAt p (Rm.fresh cells threads) w' ∧ Below w.heap.size w w' ∧ ∀ k, p.fp (Rm.fresh cells threads) k → w.heap.size ≤ k := by
  have m4 := make4
  have mC := mkCells cells (by omega)
  have mW := mkWaits threads (by omega)
  go_enter Tryz.func47, Tryz.ntmps47
  go_wp2
  go_region
  · have hN := (made_world cells threads (w.heap.size + 1 + 1) w.heap.size (w.heap.size + 1) w (((w.alloc (.cells (madeCells zCell (cells * 3)) 121)).alloc (.cells (madeCells #[.slice none 0 0] threads) 135)).alloc (.cells #[.slice (some ⟨w.heap.size, 0, none⟩) cells cells, .slice (some ⟨w.heap.size + 1, 0, none⟩) threads threads] 125)) (blk3 w (.cells (madeCells zCell (cells * 3)) 121) (.cells (madeCells #[.slice none 0 0] threads) 135) (.cells #[.slice (some ⟨w.heap.size, 0, none⟩) cells cells, .slice (some ⟨w.heap.size + 1, 0, none⟩) threads threads] 125)).2.2 (blk3 w (.cells (madeCells zCell (cells * 3)) 121) (.cells (madeCells #[.slice none 0 0] threads) 135) (.cells #[.slice (some ⟨w.heap.size, 0, none⟩) cells cells, .slice (some ⟨w.heap.size + 1, 0, none⟩) threads threads] 125)).1 (blk3 w (.cells (madeCells zCell (cells * 3)) 121) (.cells (madeCells #[.slice none 0 0] threads) 135) (.cells #[.slice (some ⟨w.heap.size, 0, none⟩) cells cells, .slice (some ⟨w.heap.size + 1, 0, none⟩) threads threads] 125)).2.1 (by omega) (by omega) (by omega) ⟨by omega, by omega, by omega⟩).drew
    have hB : Below w.heap.size w (((w.alloc (.cells (madeCells zCell (cells * 3)) 121)).alloc (.cells (madeCells #[.slice none 0 0] threads) 135)).alloc (.cells #[.slice (some ⟨w.heap.size, 0, none⟩) cells cells, .slice (some ⟨w.heap.size + 1, 0, none⟩) threads threads] 125)).drew := ((((Below.refl _ _).alloc (Nat.le_refl _) _).alloc (by simp) _).alloc (by simp; omega) _).drew
    clear mC mW
    generalize (((w.alloc (.cells (madeCells zCell (cells * 3)) 121)).alloc (.cells (madeCells #[.slice none 0 0] threads) 135)).alloc (.cells #[.slice (some ⟨w.heap.size, 0, none⟩) cells cells, .slice (some ⟨w.heap.size + 1, 0, none⟩) threads threads] 125)).drew = w1 at hN hB ⊢
    go_wp2_with fail
    go_loopw [6] (fun i wr => ∃ (j : Nat) (wb : Nat → Nat), j ≤ cells ∧ i = .int .i64 j ∧ NewAt w.heap.size (w.heap.size + 1 + 1) w.heap.size (w.heap.size + 1) cells threads j wb wr ∧ Below w.heap.size w wr) (fun i _ => cells - (intOf i).toNat)
    case atStart => exact ⟨0, _, Nat.zero_le _, rfl, hN, hB⟩
    case round =>
      obtain ⟨j, wb, hj, rfl, hA, hBr⟩ := hrel
      by_cases hlt : j < cells
      · have hm := hA.mCells
        have hcd := hA.todo j (Nat.le_refl _) hlt
        have hfc := hA.fc (j * 3)
        have ji : (j : Int) < cells := by omega
        have lc := hA.lc
        have lm := hA.lm
        have HNx : Hid (NewAt w.heap.size (w.heap.size + 1 + 1) w.heap.size (w.heap.size + 1) cells threads (j + 1) (fun c => if c = j then wr.heap.size else wb c) (((wr.setCell ⟨w.heap.size, j * 3, none⟩ (.slice (some ⟨wr.heap.size, 0, none⟩) 4 4)).alloc (.cells #[.int .i64 0, .int .i64 0, .int .i64 0, .int .i64 0] 3)).drew)) := by
          show NewAt _ _ _ _ _ _ _ _ _
          rw [← World.setCell_alloc_past _ _ _ _ lc]
          exact (hA.next hlt hBr.size).drew
        clear hA hN hB
        go_wp2
        go_region
        go_wp2
        go_roundw
        case rel => exact ⟨j + 1, _, by omega, by go_num, HNx.out, ((hBr.setCell (by simp) _).alloc (by simp; exact hBr.size) _).drew⟩
        case measure => simp [intOf]; omega
      · obtain rfl : j = cells := by omega
        have hA' := hA
        clear hN hB hA
        go_wp2
        go_ret
        exact ⟨_, rfl, hA'.at hc ht, hBr, hA'.fp⟩
  · have hN := (made_world cells threads (w.heap.size + 1 + 1) (w.heap.size + 1) (w.heap.size) w (((w.alloc (.cells (madeCells #[.slice none 0 0] threads) 135)).alloc (.cells (madeCells zCell (cells * 3)) 121)).alloc (.cells #[.slice (some ⟨w.heap.size + 1, 0, none⟩) cells cells, .slice (some ⟨w.heap.size, 0, none⟩) threads threads] 125)) (blk3 w (.cells (madeCells #[.slice none 0 0] threads) 135) (.cells (madeCells zCell (cells * 3)) 121) (.cells #[.slice (some ⟨w.heap.size + 1, 0, none⟩) cells cells, .slice (some ⟨w.heap.size, 0, none⟩) threads threads] 125)).2.2 (blk3 w (.cells (madeCells #[.slice none 0 0] threads) 135) (.cells (madeCells zCell (cells * 3)) 121) (.cells #[.slice (some ⟨w.heap.size + 1, 0, none⟩) cells cells, .slice (some ⟨w.heap.size, 0, none⟩) threads threads] 125)).2.1 (blk3 w (.cells (madeCells #[.slice none 0 0] threads) 135) (.cells (madeCells zCell (cells * 3)) 121) (.cells #[.slice (some ⟨w.heap.size + 1, 0, none⟩) cells cells, .slice (some ⟨w.heap.size, 0, none⟩) threads threads] 125)).1 (by omega) (by omega) (by omega) ⟨by omega, by omega, by omega⟩).drew
    have hB : Below w.heap.size w (((w.alloc (.cells (madeCells #[.slice none 0 0] threads) 135)).alloc (.cells (madeCells zCell (cells * 3)) 121)).alloc (.cells #[.slice (some ⟨w.heap.size + 1, 0, none⟩) cells cells, .slice (some ⟨w.heap.size, 0, none⟩) threads threads] 125)).drew := ((((Below.refl _ _).alloc (Nat.le_refl _) _).alloc (by simp) _).alloc (by simp; omega) _).drew
    clear mC mW
    generalize (((w.alloc (.cells (madeCells #[.slice none 0 0] threads) 135)).alloc (.cells (madeCells zCell (cells * 3)) 121)).alloc (.cells #[.slice (some ⟨w.heap.size + 1, 0, none⟩) cells cells, .slice (some ⟨w.heap.size, 0, none⟩) threads threads] 125)).drew = w1 at hN hB ⊢
    go_wp2_with fail
    go_loopw [6] (fun i wr => ∃ (j : Nat) (wb : Nat → Nat), j ≤ cells ∧ i = .int .i64 j ∧ NewAt w.heap.size (w.heap.size + 1 + 1) (w.heap.size + 1) (w.heap.size) cells threads j wb wr ∧ Below w.heap.size w wr) (fun i _ => cells - (intOf i).toNat)
    case atStart => exact ⟨0, _, Nat.zero_le _, rfl, hN, hB⟩
    case round =>
      obtain ⟨j, wb, hj, rfl, hA, hBr⟩ := hrel
      by_cases hlt : j < cells
      · have hm := hA.mCells
        have hcd := hA.todo j (Nat.le_refl _) hlt
        have hfc := hA.fc (j * 3)
        have ji : (j : Int) < cells := by omega
        have lc := hA.lc
        have lm := hA.lm
        have HNx : Hid (NewAt w.heap.size (w.heap.size + 1 + 1) (w.heap.size + 1) (w.heap.size) cells threads (j + 1) (fun c => if c = j then wr.heap.size else wb c) (((wr.setCell ⟨w.heap.size + 1, j * 3, none⟩ (.slice (some ⟨wr.heap.size, 0, none⟩) 4 4)).alloc (.cells #[.int .i64 0, .int .i64 0, .int .i64 0, .int .i64 0] 3)).drew)) := by
          show NewAt _ _ _ _ _ _ _ _ _
          rw [← World.setCell_alloc_past _ _ _ _ lc]
          exact (hA.next hlt hBr.size).drew
        clear hA hN hB
        go_wp2
        go_region
        go_wp2
        go_roundw
        case rel => exact ⟨j + 1, _, by omega, by go_num, HNx.out, ((hBr.setCell (by simp) _).alloc (by simp; exact hBr.size) _).drew⟩
        case measure => simp [intOf]; omega
      · obtain rfl : j = cells := by omega
        have hA' := hA
        clear hN hB hA
        go_wp2
        go_ret
        exact ⟨_, rfl, hA'.at hc ht, hBr, hA'.fp⟩
end Go.Proofs.YtdpmnlbnlnmjbaaGreatDoor

/- RefF -/
namespace Go.Proofs.YtdpmnlbnlnmjbaaGreatDoor
open Go.RowKit

theorem step_append_at {P : Program} (w : World) {ops : Array Oper} {o : Oper} {a : Act} {K : Act → World → Prop} {Q : Exit → Act → World → Prop} {E : Prop} (hgd : o.guard = none) (s x : Operand) (t : TypeId)
    (ho : o.op = .call { callee := .builtin .append, args := #[s, x], argTypes := #[t, t] })
    (base : Nat) (e : TypeId) (i : TypeInfo) (z : Value) (size bytes : Nat) (ht : P.underlying t = some (.slice e)) (hi : P.info? e = some i) (hz : i.zero = some z)
    (hsize : i.size = size) (hby : i.bytes = bytes) (hzs : z.cells.size = size) (hsz : 0 < size)
    (v : Value) (n : Nat) (xs : List Value) (hs : a.eval s = v) (hown : w.ownsRow base e size v n xs)
    (ad : Addr) (m c : Nat) (news : List Value) (hx : a.eval x = .slice (some ad) m c) (hl : news.length = m * size) (hnews : ∀ j u, news[j]? = some u → w.cell? (ad.add j) = some u) (h1 : ∀ u ∈ news, u.oneCell' = true)
    (h63 : n + m ≤ maxLen) (hbytes : (n + m) * bytes ≤ 140737488355328) (hbase : base ≤ w.heap.size)
    (h : ∀ g cap w', w'.ownsRow base e size (.slice g (n + m) cap) (n + m) (xs ++ news) → w.grownBy w' v.ownBlock → ((Value.slice g (n + m) cap).ownBlock = v.ownBlock ∨ (Value.slice g (n + m) cap).ownBlock = some w.heap.size) → K (a.put o.dst (.slice g (n + m) cap)) w') :
    if Region.wanted o (yielded ops a.tmps) = true then Oper.wp P o a w K Q else E := by
  have hw : Region.wanted o (yielded ops a.tmps) = true := by simp [Region.wanted, hgd]
  rw [if_pos hw]
  obtain ⟨v', w', hr, h2, h3, _, h5⟩ := run_append_own_at (P := P) w base t o.type e i z size bytes ht hi hz hsize hby hzs hsz v n xs hown ad m c news hl hnews h1 h63 hbytes hbase
  obtain ⟨g, cap, rfl, _⟩ := ownsRow_shape h2
  unfold Oper.wp execOp
  simp only [ho, resolve, invoke, builtin, Sem.run_bind, Sem.run_pure, Result.andThen_ok, List.map_toArray, List.map_cons, List.map_nil, hs, hx, hr]
  exact h g cap w' h2 h3 h5

def Rm.setWaits (s : Rm) (t : Nat) (l : List Wt) : Rm := { s with waits := fun u => if u = t then l else s.waits u }
def RmPl.withRow (p : RmPl) (t : Nat) (v : Value) : RmPl := { p with wv := fun u => if u = t then v else p.wv u }

theorem RmPl.fp_row (p : RmPl) (s s' : Rm) (t : Nat) (v : Value) (k : Nat) (h1 : s'.ar.size = s.ar.size) (h2 : s'.threads = s.threads) (h : (p.withRow t v).fp s' k) : p.fp s k ∨ v.ownBlock = some k := by
  rcases h with h | h | h | ⟨j, hj, h⟩ | ⟨u, hu, h⟩
  · exact Or.inl (Or.inl h)
  · exact Or.inl (Or.inr (Or.inl h))
  · exact Or.inl (Or.inr (Or.inr (Or.inl h)))
  · exact Or.inl (Or.inr (Or.inr (Or.inr (Or.inl ⟨j, by rw [← h1]; exact hj, h⟩))))
  · simp only [RmPl.withRow] at h
    split at h
    · exact Or.inr h
    · exact Or.inl (Or.inr (Or.inr (Or.inr (Or.inr ⟨u, by rw [← h2]; exact hu, h⟩))))

theorem RmAt.setWaits {p : RmPl} {s : Rm} {w w1 : World} (h : RmAt p s w) {t : Nat} (ht : t < s.threads) (v : Value) (l : List Wt)
    (hb : ∀ k, k < w.heap.size → (p.wv t).ownBlock ≠ some k → w1.heap[k]? = w.heap[k]?) (hsz : w.heap.size ≤ w1.heap.size)
    (hown : w1.ownsRow 0 175 4 v l.length (wtCells l)) (hk : ∀ k, v.ownBlock = some k → (p.wv t).ownBlock = some k ∨ w.heap.size ≤ k) :
    RmAt (p.withRow t v) (s.setWaits t l) (w1.setCell ⟨p.tb, t, none⟩ v) := by
  have lm := h.lm
  have lc := h.lc
  have lt := h.lt
  have om : (p.wv t).ownBlock ≠ some p.mb := fun e => (h.dv t _ ht e).1 rfl
  have oc : (p.wv t).ownBlock ≠ some p.cb := fun e => (h.dv t _ ht e).2.1 rfl
  have ot : (p.wv t).ownBlock ≠ some p.tb := fun e => (h.dv t _ ht e).2.2.1 rfl
  have ow : ∀ c, c < s.ar.size → (p.wv t).ownBlock ≠ some (p.wb c) := fun c hc e => (h.dv t _ ht e).2.2.2 c hc rfl
  have K : ∀ k o u, w.cell? ⟨k, o, none⟩ = some u → (p.wv t).ownBlock ≠ some k → w1.cell? ⟨k, o, none⟩ = some u := fun k o u hc hne => by
    rw [World.cell?_of_block (hb k (World.block_lt_of_cell? _ _ hc) hne)]; exact hc
  have FZ : ∀ k o, k < w.heap.size → w.frozen? ⟨k, o, none⟩ = false → (p.wv t).ownBlock ≠ some k → (w1.setCell ⟨p.tb, t, none⟩ v).frozen? ⟨k, o, none⟩ = false := fun k o hl hf hne => by
    rw [World.frozen?_setCell, World.frozen?_of_block (hb k hl hne)]; exact hf
  have nv : ∀ k, v.ownBlock = some k → k ≠ p.mb ∧ k ≠ p.cb ∧ k ≠ p.tb ∧ ∀ c, c < s.ar.size → k ≠ p.wb c := fun k e => by
    rcases hk k e with e | e
    · exact h.dv t k ht e
    · exact ⟨by omega, by omega, by omega, fun c hc => by have := h.lw hc; omega⟩
  refine { small := h.small, few := h.few, mCells := cell_ne (K _ _ _ h.mCells om) (Or.inl h.d2), mWaits := cell_ne (K _ _ _ h.mWaits om) (Or.inl h.d2), ccap := h.ccap, tcap := h.tcap, cWords := fun c hc => cell_ne (K _ _ _ (h.cWords c hc) oc) (Or.inl h.d3), cTimes := fun c hc => cell_ne (K _ _ _ (h.cTimes c hc) oc) (Or.inl h.d3), cHere := fun c hc => cell_ne (K _ _ _ (h.cHere c hc) oc) (Or.inl h.d3), wcap := h.wcap, words := fun c k hc hk => cell_ne (K _ _ _ (h.words c k hc hk) (ow c hc)) (Or.inl (h.dw c hc).2.2), bound := h.bound, waits := fun u hu => ?_, fm := fun o => FZ _ _ lm (h.fm o) om, fc := fun o => FZ _ _ lc (h.fc o) oc, ft := fun o => FZ _ _ lt (h.ft o) ot, fw := fun c o hc => FZ _ _ (h.lw hc) (h.fw c o hc) (ow c hc), lc := by rw [World.size_setCell]; exact Nat.lt_of_lt_of_le lc hsz, lt := by rw [World.size_setCell]; exact Nat.lt_of_lt_of_le lt hsz, d1 := h.d1, d2 := h.d2, d3 := h.d3, dw := h.dw, dwi := h.dwi, dv := fun u k hu e => ?_, dvi := fun u x k hu hx hne e1 => ?_ }
  · simp only [RmPl.withRow, Rm.setWaits]
    by_cases e : u = t
    · subst e
      rw [if_pos rfl, if_pos rfl]
      exact ⟨World.cell?_setCell_same _ _ _ (K _ _ _ (h.waits u hu).1 ot), ownsRow_block hown (fun k e => Below.heap_setCell _ _ _ _ (nv k e).2.2.1)⟩
    · rw [if_neg e, if_neg e]
      exact ⟨cell_ne (K _ _ _ (h.waits u hu).1 ot) (Or.inr e), ownsRow_block (h.waits u hu).2 (fun k e' => (Below.heap_setCell _ _ _ _ (h.dv u k hu e').2.2.1).trans (hb k (h.lv hu e') (fun e2 => h.dvi u t k hu ht e e' e2)))⟩
  · simp only [RmPl.withRow] at e ⊢
    split at e
    · exact nv k e
    · exact h.dv u k hu e
  · simp only [RmPl.withRow] at e1 ⊢
    by_cases eu : u = t
    · rw [if_pos eu] at e1
      rw [if_neg (fun ex => hne (eu.trans ex.symm))]
      rcases hk k e1 with e | e
      · exact h.dvi t x k ht hx (fun e' => hne (eu.trans e')) e
      · intro e2
        have := h.lv hx e2
        omega
    · rw [if_neg eu] at e1
      by_cases ex : x = t
      · rw [if_pos ex]
        intro e2
        rcases hk k e2 with e | e
        · exact h.dvi u t k hu ht eu e1 e
        · have := h.lv hu e1
          omega
      · rw [if_neg ex]
        exact h.dvi u x k hu hx hne e1

structure RmStep (p : RmPl) (s : Rm) (w : World) (p' : RmPl) (s' : Rm) (w' : World) : Prop where
  mb : p'.mb = p.mb
  tb : p'.tb = p.tb
  at' : RmAt p' s' w'
  turns : Turns (fun k _ => p.fp s k) w w'
  fp : ∀ k, p'.fp s' k → p.fp s k ∨ w.heap.size ≤ k

theorem RmStep.refl {p : RmPl} {s : Rm} {w : World} (h : RmAt p s w) : RmStep p s w p s w := ⟨rfl, rfl, h, Turns.refl _ _, fun _ h => Or.inl h⟩

theorem RmStep.trans {p p' p2 : RmPl} {s s' s2 : Rm} {w w' w2 : World} (h : RmStep p s w p' s' w') (k : RmStep p' s' w' p2 s2 w2) : RmStep p s w p2 s2 w2 where
  mb := k.mb.trans h.mb
  tb := k.tb.trans h.tb
  at' := k.at'
  turns := by
    refine ⟨k.turns.os.trans h.turns.os, k.turns.tape.trans h.turns.tape, k.turns.output.trans h.turns.output, Nat.le_trans h.turns.size k.turns.size, ?_, ?_, ?_⟩
    · intro i hi ho
      rw [k.turns.block i (Nat.lt_of_lt_of_le hi h.turns.size) (fun o e => by rcases h.fp i e with e | e; exact ho o e; omega)]
      exact h.turns.block i hi ho
    · intro i o hi ho
      rw [k.turns.cell i o (Nat.lt_of_lt_of_le hi h.turns.size) (fun e => by rcases h.fp i e with e | e; exact ho e; omega)]
      exact h.turns.cell i o hi ho
    · intro i o hi ho
      rw [k.turns.frozen i o (Nat.lt_of_lt_of_le hi h.turns.size) (fun e => by rcases h.fp i e with e | e; exact ho e; omega)]
      exact h.turns.frozen i o hi ho
  fp i hi := by
    rcases k.fp i hi with e | e
    · exact h.fp i e
    · exact Or.inr (Nat.le_trans h.turns.size e)

theorem RmStep.below {p p' : RmPl} {s s' : Rm} {w w' w2 : World} (h : RmStep p s w p' s' w') (k : Below w'.heap.size w' w2) : RmStep p s w p' s' w2 :=
  ⟨h.mb, h.tb, h.at'.below k, h.turns.trans (Turns.of_below k), h.fp⟩
theorem RmStep.alloc {p p' : RmPl} {s s' : Rm} {w w' : World} (h : RmStep p s w p' s' w') (o : Obj) : RmStep p s w p' s' (w'.alloc o) := h.below ((Below.refl _ _).alloc (Nat.le_refl _) _)
theorem RmStep.drew {p p' : RmPl} {s s' : Rm} {w w' : World} (h : RmStep p s w p' s' w') : RmStep p s w p' s' w'.drew := h.below (Below.refl _ _).drew
theorem RmStep.of_below {p p' : RmPl} {s s' : Rm} {w0 w w' : World} (b : Below w0.heap.size w0 w) (h : RmStep p s w p' s' w') : RmStep p s w0 p' s' w' :=
  ⟨h.mb, h.tb, h.at', (Turns.of_below b).trans (by
    refine h.turns.mono fun k o _ e => e), fun k e => (h.fp k e).imp id (Nat.le_trans b.size)⟩
end Go.Proofs.YtdpmnlbnlnmjbaaGreatDoor
