/- The document's answer's memory: NewMemory, by a contract. -/
import Derived.Test.YtcnemlamlchnkaaDoorRefD
import Derived.Deep.OwnRows
namespace Go.Proofs.YtcnemlamlchnkaaDoor
open Go.RowKit Go.Extern.Stop Go.Stop Go.Extern

def zCell : Array Value := #[.slice none 0 0, .int .i64 0, .bool false]

theorem cellInfo : ∃ i, Tryd.prog.info? 63 = some i ∧ i.zero = some (.agg zCell) ∧ i.size = 3 ∧ i.bytes = 40 := by
  obtain ⟨i, hi, h1⟩ := Option.map_eq_some_iff.1 (show (Tryd.prog.info? 63).map (·.zero) = some (some (.agg zCell)) by kernel_rfl)
  obtain ⟨j, hj, h2⟩ := Option.map_eq_some_iff.1 (show (Tryd.prog.info? 63).map (·.size) = some 3 by kernel_rfl)
  obtain ⟨k, hk, h3⟩ := Option.map_eq_some_iff.1 (show (Tryd.prog.info? 63).map (·.bytes) = some 40 by kernel_rfl)
  obtain rfl := Option.some.inj (hi.symm.trans hj)
  obtain rfl := Option.some.inj (hi.symm.trans hk)
  exact ⟨_, hi, h1, h2, h3⟩

theorem mkCells (n : Nat) (hn : n ≤ 1000000) (w : World) : (Instr.makeSlice 64 (.int .i64 n) (.int .i64 n)).run Tryd.prog w = .ok (.slice (some ⟨w.heap.size, 0, none⟩) n n) (w.alloc (.cells (madeCells zCell (n * 3)) 63)) := by
  obtain ⟨i, hi, hz, hs, hb⟩ := cellInfo
  have := run_make (P := Tryd.prog) w 64 63 i (.agg zCell) Tryd.underlying64 hi hz .i64 .i64 n n (by omega) (Int.le_refl _) (by rw [hb]; omega) (by omega)
  simp only [Int.toNat_natCast, hs] at this
  exact this

theorem mkWaits (n : Nat) (hn : n ≤ 1000000) (w : World) : (Instr.makeSlice 65 (.int .i64 n) (.int .i64 n)).run Tryd.prog w = .ok (.slice (some ⟨w.heap.size, 0, none⟩) n n) (w.alloc (.cells (madeCells #[.slice none 0 0] n) 84)) :=
  run_make_row' 65 84 (.slice none 0 0) 24 Tryd.underlying65 (by kernel_rfl) rfl .i64 .i64 n (by omega) (by omega) w

theorem made_at (z : Array Value) (n k : Nat) (h : k < n) : (madeCells z n)[k]? = some (z[k % z.size]!) := by
  simp [madeCells, h]
theorem zCell_at (n c : Nat) (h : c < n) : (madeCells zCell (n * 3))[c * 3]? = some (.slice none 0 0) ∧ (madeCells zCell (n * 3))[c * 3 + 1]? = some (.int .i64 0) ∧ (madeCells zCell (n * 3))[c * 3 + 2]? = some (.bool false) := by
  rw [made_at _ _ _ (by omega), made_at _ _ _ (by omega), made_at _ _ _ (by omega)]
  rw [show zCell.size = 3 from rfl, show c * 3 % 3 = 0 by omega, show (c * 3 + 1) % 3 = 1 by omega, show (c * 3 + 2) % 3 = 2 by omega]
  exact ⟨rfl, rfl, rfl⟩

/-- A new memory of which i cells have their words. -/
structure NewAt (B mb cb tb cells threads i : Nat) (wb : Nat → Nat) (w : World) : Prop where
  mCells : w.cell? ⟨mb, 0, none⟩ = some (.slice (some ⟨cb, 0, none⟩) cells cells)
  mWaits : w.cell? ⟨mb, 1, none⟩ = some (.slice (some ⟨tb, 0, none⟩) threads threads)
  done : ∀ c, c < i → w.cell? ⟨cb, c * 3, none⟩ = some (.slice (some ⟨wb c, 0, none⟩) 4 4)
  todo : ∀ c, i ≤ c → c < cells → w.cell? ⟨cb, c * 3, none⟩ = some (.slice none 0 0)
  times : ∀ c, c < cells → w.cell? ⟨cb, c * 3 + 1, none⟩ = some (.int .i64 0)
  here : ∀ c, c < cells → w.cell? ⟨cb, c * 3 + 2, none⟩ = some (.bool false)
  words : ∀ c k, c < i → k < 4 → w.cell? ⟨wb c, k, none⟩ = some (.int .i64 0)
  waits : ∀ t, t < threads → w.cell? ⟨tb, t, none⟩ = some (.slice none 0 0)
  fm : ∀ o, w.frozen? ⟨mb, o, none⟩ = false
  fc : ∀ o, w.frozen? ⟨cb, o, none⟩ = false
  ft : ∀ o, w.frozen? ⟨tb, o, none⟩ = false
  fw : ∀ c o, c < i → w.frozen? ⟨wb c, o, none⟩ = false
  lc : cb < w.heap.size
  lt : tb < w.heap.size
  d1 : mb ≠ cb
  d2 : mb ≠ tb
  d3 : cb ≠ tb
  dw : ∀ c, c < i → wb c ≠ mb ∧ wb c ≠ cb ∧ wb c ≠ tb ∧ B ≤ wb c
  dwi : ∀ c d, c < i → d < i → c ≠ d → wb c ≠ wb d
  base : B ≤ mb ∧ B ≤ cb ∧ B ≤ tb

theorem NewAt.lm {B mb cb tb cells threads i : Nat} {wb : Nat → Nat} {w : World} (h : NewAt B mb cb tb cells threads i wb w) : mb < w.heap.size := World.block_lt_of_cell? _ _ h.mCells

theorem cell_new {w : World} {p : Addr} {v : Value} {o : Obj} (h : w.cell? p = some v) : (w.alloc o).cell? p = some v := by
  rw [World.cell?_alloc_lt _ _ _ (World.block_lt_of_cell? _ _ h)]; exact h

theorem NewAt.next {B mb cb tb cells threads i : Nat} {wb : Nat → Nat} {w : World} (h : NewAt B mb cb tb cells threads i wb w) (hi : i < cells) (hB : B ≤ w.heap.size) :
    NewAt B mb cb tb cells threads (i + 1) (fun c => if c = i then w.heap.size else wb c) ((w.alloc (.cells #[.int .i64 0, .int .i64 0, .int .i64 0, .int .i64 0] 3)).setCell ⟨cb, i * 3, none⟩ (.slice (some ⟨w.heap.size, 0, none⟩) 4 4)) := by
  have lm := h.lm
  have lc := h.lc
  have lt := h.lt
  have lw : ∀ c, c < i → wb c < w.heap.size := fun c hc => World.block_lt_of_cell? _ _ (h.words c 0 hc (by decide))
  refine { mCells := cell_ne (cell_new h.mCells) (Or.inl h.d1), mWaits := cell_ne (cell_new h.mWaits) (Or.inl h.d1), done := fun c hc => ?_, todo := fun c hc hcc => cell_ne (cell_new (h.todo c (by omega) hcc)) (Or.inr (by omega)), times := fun c hc => cell_ne (cell_new (h.times c hc)) (Or.inr (by omega)), here := fun c hc => cell_ne (cell_new (h.here c hc)) (Or.inr (by omega)), words := fun c k hc hk => ?_, waits := fun t ht => cell_ne (cell_new (h.waits t ht)) (Or.inl (Ne.symm h.d3)), fm := fun o => ?_, fc := fun o => ?_, ft := fun o => ?_, fw := fun c o hc => ?_, lc := by simp; omega, lt := by simp; omega, d1 := h.d1, d2 := h.d2, d3 := h.d3, dw := fun c hc => ?_, dwi := fun c d hc hd hcd => ?_, base := h.base }
  · by_cases e : c = i
    · subst e
      rw [if_pos rfl]
      exact World.cell?_setCell_same _ _ _ (cell_new (h.todo c (Nat.le_refl _) hi))
    · rw [if_neg e]
      exact cell_ne (cell_new (h.done c (by omega))) (Or.inr (by omega))
  · by_cases e : c = i
    · subst e
      rw [if_pos rfl]
      refine cell_ne ?_ (Or.inl (by omega))
      rw [World.cell?_alloc_new]
      match k, hk with
      | 0, _ => rfl
      | 1, _ => rfl
      | 2, _ => rfl
      | 3, _ => rfl
    · rw [if_neg e]
      exact cell_ne (cell_new (h.words c k (by omega) hk)) (Or.inl (h.dw c (by omega)).2.1)
  · rw [World.frozen?_setCell, World.frozen?_alloc_old _ _ _ (Nat.ne_of_lt lm)]; exact h.fm o
  · rw [World.frozen?_setCell, World.frozen?_alloc_old _ _ _ (Nat.ne_of_lt lc)]; exact h.fc o
  · rw [World.frozen?_setCell, World.frozen?_alloc_old _ _ _ (Nat.ne_of_lt lt)]; exact h.ft o
  · rw [World.frozen?_setCell]
    by_cases e : c = i
    · rw [if_pos e]; exact World.frozen?_alloc_new _ _ _ _
    · rw [if_neg e, World.frozen?_alloc_old _ _ _ (Nat.ne_of_lt (lw c (by omega)))]; exact h.fw c o (by omega)
  · by_cases e : c = i
    · rw [if_pos e]; exact ⟨by omega, by omega, by omega, hB⟩
    · rw [if_neg e]; exact h.dw c (by omega)
  · by_cases e : c = i
    · rw [if_pos e, if_neg (fun e' => hcd (e.trans e'.symm))]
      have := lw d (by omega)
      omega
    · rw [if_neg e]
      by_cases e' : d = i
      · rw [if_pos e']
        have := lw c (by omega)
        omega
      · rw [if_neg e']
        exact h.dwi c d (by omega) (by omega) hcd

/-- A new memory's state. -/
def Rm.fresh (cells threads : Nat) : Rm := ⟨⟨cells, fun _ _ => 0, fun _ => false, fun _ => 0⟩, threads, fun _ => []⟩

theorem NewAt.at {B mb cb tb cells threads : Nat} {wb : Nat → Nat} {w : World} (h : NewAt B mb cb tb cells threads cells wb w) (hc : cells ≤ 64) (ht : threads ≤ 6) :
    RmAt ⟨mb, cb, tb, cells, threads, wb, fun _ => 4, fun _ => .slice none 0 0⟩ (Rm.fresh cells threads) w where
  small := hc
  few := ht
  mCells := h.mCells
  mWaits := h.mWaits
  ccap := Nat.le_refl _
  tcap := Nat.le_refl _
  cWords := h.done
  cTimes := h.times
  cHere := h.here
  wcap _ _ := Nat.le_refl _
  words := h.words
  bound _ := by show 0 < 4611686018427387904; decide
  waits t ht := ⟨h.waits t ht, World.ownsRow_nil _ _ _ _⟩
  fm := h.fm
  fc := h.fc
  ft := h.ft
  fw := h.fw
  lc := h.lc
  lt := h.lt
  d1 := h.d1
  d2 := h.d2
  d3 := h.d3
  dw c hc := ⟨(h.dw c hc).1, (h.dw c hc).2.1, (h.dw c hc).2.2.1⟩
  dwi := h.dwi
  dv _ _ _ hk := by cases hk
  dvi _ _ _ _ _ _ hk := by cases hk

theorem NewAt.fp {B mb cb tb cells threads : Nat} {wb : Nat → Nat} {w : World} (h : NewAt B mb cb tb cells threads cells wb w) (k : Nat) (hk : (⟨mb, cb, tb, cells, threads, wb, fun _ => 4, fun _ => .slice none 0 0⟩ : RmPl).fp (Rm.fresh cells threads) k) : B ≤ k := by
  rcases hk with h1 | h1 | h1 | ⟨c, hc, h1⟩ | ⟨t, ht, h1⟩
  · rw [h1]; exact h.base.1
  · rw [h1]; exact h.base.2.1
  · rw [h1]; exact h.base.2.2
  · rw [h1]; exact (h.dw c hc).2.2.2
  · cases h1

theorem NewAt.drew {B mb cb tb cells threads i : Nat} {wb : Nat → Nat} {w : World} (h : NewAt B mb cb tb cells threads i wb w) : NewAt B mb cb tb cells threads i wb w.drew :=
  ⟨h.mCells, h.mWaits, h.done, h.todo, h.times, h.here, h.words, h.waits, h.fm, h.fc, h.ft, h.fw, h.lc, h.lt, h.d1, h.d2, h.d3, h.dw, h.dwi, h.base⟩

theorem heap_new (w : World) (o : Obj) : (w.alloc o).heap[w.heap.size]? = some o := by show (w.heap.push o)[w.heap.size]? = _; simp
theorem blk3 (w : World) (o1 o2 o3 : Obj) : (((w.alloc o1).alloc o2).alloc o3).heap[w.heap.size]? = some o1 ∧ (((w.alloc o1).alloc o2).alloc o3).heap[w.heap.size + 1]? = some o2 ∧ (((w.alloc o1).alloc o2).alloc o3).heap[w.heap.size + 1 + 1]? = some o3 := by
  have e1 : w.heap.size + 1 = (w.alloc o1).heap.size := (World.size_alloc _ _).symm
  have e2 : w.heap.size + 1 + 1 = ((w.alloc o1).alloc o2).heap.size := by rw [World.size_alloc, World.size_alloc]
  refine ⟨?_, ?_, ?_⟩
  · rw [Below.heap_alloc _ _ _ (by omega), Below.heap_alloc _ _ _ (by omega)]; exact heap_new w o1
  · rw [Below.heap_alloc _ _ _ (by omega), e1]; exact heap_new _ o2
  · rw [e2]; exact heap_new _ o3

/-- The two rows and the memory's own block, as 'make' lays them. -/
theorem made_world (cells threads : Nat) (mb cb tb : Nat) (w w1 : World) (hm : w1.heap[mb]? = some (.cells #[.slice (some ⟨cb, 0, none⟩) cells cells, .slice (some ⟨tb, 0, none⟩) threads threads] 67))
    (hcb : w1.heap[cb]? = some (.cells (madeCells zCell (cells * 3)) 63)) (htb : w1.heap[tb]? = some (.cells (madeCells #[.slice none 0 0] threads) 84))
    (d1 : mb ≠ cb) (d2 : mb ≠ tb) (d3 : cb ≠ tb) (hb : w.heap.size ≤ mb ∧ w.heap.size ≤ cb ∧ w.heap.size ≤ tb) : NewAt w.heap.size mb cb tb cells threads 0 (fun _ => 0) w1 where
  mCells := by simp [World.cell?, hm]
  mWaits := by simp [World.cell?, hm]
  done _ h := by omega
  todo c _ hc := by simp only [World.cell?, hcb]; exact (zCell_at _ _ hc).1
  times c hc := by simp only [World.cell?, hcb]; exact (zCell_at _ _ hc).2.1
  here c hc := by simp only [World.cell?, hcb]; exact (zCell_at _ _ hc).2.2
  words _ _ h := by omega
  waits t ht := by
    simp only [World.cell?, htb]
    rw [show (({ block := tb, off := t, spot := none } : Addr).spot.isSome) = false from rfl]
    simp only [Bool.false_eq_true, if_false]
    rw [made_at _ _ _ ht, show (#[Value.slice none 0 0] : Array Value).size = 1 from rfl, Nat.mod_one]
    rfl
  fm o := by simp [World.frozen?, hm]
  fc o := by simp [World.frozen?, hcb]
  ft o := by simp [World.frozen?, htb]
  fw _ _ h := by omega
  lc := lt_of_block hcb
  lt := lt_of_block htb
  d1 := d1
  d2 := d2
  d3 := d3
  dw _ h := by omega
  dwi _ _ h := by omega
  base := hb

set_option maxHeartbeats 2000000 in
theorem newMem_any (cells threads : Nat) (w : World) (hc : cells ≤ 64) (ht : threads ≤ 6) :
    Calls Tryd.prog 24 #[.int .i64 cells, .int .i64 threads] w fun e w' => ∃ p, e = .returned (.pointer (some ⟨p.mb, 0, none⟩)) ∧ RmAt p (Rm.fresh cells threads) w' ∧ Below w.heap.size w w' ∧ ∀ k, p.fp (Rm.fresh cells threads) k → w.heap.size ≤ k := by
  have m4 := make4
  have mC := mkCells cells (by omega)
  have mW := mkWaits threads (by omega)
  go_enter Tryd.func24, Tryd.ntmps24
  go_wp2
  go_region
  · have hN := (made_world cells threads (w.heap.size + 1 + 1) w.heap.size (w.heap.size + 1) w (((w.alloc (.cells (madeCells zCell (cells * 3)) 63)).alloc (.cells (madeCells #[.slice none 0 0] threads) 84)).alloc (.cells #[.slice (some ⟨w.heap.size, 0, none⟩) cells cells, .slice (some ⟨w.heap.size + 1, 0, none⟩) threads threads] 67)) (blk3 w (.cells (madeCells zCell (cells * 3)) 63) (.cells (madeCells #[.slice none 0 0] threads) 84) (.cells #[.slice (some ⟨w.heap.size, 0, none⟩) cells cells, .slice (some ⟨w.heap.size + 1, 0, none⟩) threads threads] 67)).2.2 (blk3 w (.cells (madeCells zCell (cells * 3)) 63) (.cells (madeCells #[.slice none 0 0] threads) 84) (.cells #[.slice (some ⟨w.heap.size, 0, none⟩) cells cells, .slice (some ⟨w.heap.size + 1, 0, none⟩) threads threads] 67)).1 (blk3 w (.cells (madeCells zCell (cells * 3)) 63) (.cells (madeCells #[.slice none 0 0] threads) 84) (.cells #[.slice (some ⟨w.heap.size, 0, none⟩) cells cells, .slice (some ⟨w.heap.size + 1, 0, none⟩) threads threads] 67)).2.1 (by omega) (by omega) (by omega) ⟨by omega, by omega, by omega⟩).drew
    have hB : Below w.heap.size w (((w.alloc (.cells (madeCells zCell (cells * 3)) 63)).alloc (.cells (madeCells #[.slice none 0 0] threads) 84)).alloc (.cells #[.slice (some ⟨w.heap.size, 0, none⟩) cells cells, .slice (some ⟨w.heap.size + 1, 0, none⟩) threads threads] 67)).drew := ((((Below.refl _ _).alloc (Nat.le_refl _) _).alloc (by simp) _).alloc (by simp; omega) _).drew
    clear mC mW
    generalize (((w.alloc (.cells (madeCells zCell (cells * 3)) 63)).alloc (.cells (madeCells #[.slice none 0 0] threads) 84)).alloc (.cells #[.slice (some ⟨w.heap.size, 0, none⟩) cells cells, .slice (some ⟨w.heap.size + 1, 0, none⟩) threads threads] 67)).drew = w1 at hN hB ⊢
    go_wp2_with fail
    go_loopw [6] (fun i wr => ∃ (j : Nat) (wb : Nat → Nat), j ≤ cells ∧ i = .int .i64 j ∧ NewAt w.heap.size (w.heap.size + 1 + 1) w.heap.size (w.heap.size + 1) cells threads j wb wr ∧ Below w.heap.size w wr) (fun i _ => cells - (intOf i).toNat)
    case atStart => exact ⟨0, _, Nat.zero_le _, rfl, hN, hB⟩
    case round =>
      obtain ⟨j, wb, hj, rfl, hA, hBr⟩ := hrel
      by_cases hlt : j < cells
      · have hm := hA.mCells
        have hcd := hA.todo j (Nat.le_refl _) hlt
        have hfc := hA.fc (j * 3)
        have ji : (j : Int) < cells := by omega
        have lc := hA.lc
        have lm := hA.lm
        have HNx : Hid (NewAt w.heap.size (w.heap.size + 1 + 1) w.heap.size (w.heap.size + 1) cells threads (j + 1) (fun c => if c = j then wr.heap.size else wb c) (((wr.setCell ⟨w.heap.size, j * 3, none⟩ (.slice (some ⟨wr.heap.size, 0, none⟩) 4 4)).alloc (.cells #[.int .i64 0, .int .i64 0, .int .i64 0, .int .i64 0] 3)).drew)) := by
          show NewAt _ _ _ _ _ _ _ _ _
          rw [← World.setCell_alloc_past _ _ _ _ lc]
          exact (hA.next hlt hBr.size).drew
        clear hA hN hB
        go_wp2
        go_region
        go_wp2
        go_roundw
        case rel => exact ⟨j + 1, _, by omega, by go_num, HNx.out, ((hBr.setCell (by simp) _).alloc (by simp; exact hBr.size) _).drew⟩
        case measure => simp [intOf]; omega
      · obtain rfl : j = cells := by omega
        have hA' := hA
        clear hN hB hA
        go_wp2
        go_ret
        exact ⟨_, rfl, hA'.at hc ht, hBr, hA'.fp⟩
  · have hN := (made_world cells threads (w.heap.size + 1 + 1) (w.heap.size + 1) (w.heap.size) w (((w.alloc (.cells (madeCells #[.slice none 0 0] threads) 84)).alloc (.cells (madeCells zCell (cells * 3)) 63)).alloc (.cells #[.slice (some ⟨w.heap.size + 1, 0, none⟩) cells cells, .slice (some ⟨w.heap.size, 0, none⟩) threads threads] 67)) (blk3 w (.cells (madeCells #[.slice none 0 0] threads) 84) (.cells (madeCells zCell (cells * 3)) 63) (.cells #[.slice (some ⟨w.heap.size + 1, 0, none⟩) cells cells, .slice (some ⟨w.heap.size, 0, none⟩) threads threads] 67)).2.2 (blk3 w (.cells (madeCells #[.slice none 0 0] threads) 84) (.cells (madeCells zCell (cells * 3)) 63) (.cells #[.slice (some ⟨w.heap.size + 1, 0, none⟩) cells cells, .slice (some ⟨w.heap.size, 0, none⟩) threads threads] 67)).2.1 (blk3 w (.cells (madeCells #[.slice none 0 0] threads) 84) (.cells (madeCells zCell (cells * 3)) 63) (.cells #[.slice (some ⟨w.heap.size + 1, 0, none⟩) cells cells, .slice (some ⟨w.heap.size, 0, none⟩) threads threads] 67)).1 (by omega) (by omega) (by omega) ⟨by omega, by omega, by omega⟩).drew
    have hB : Below w.heap.size w (((w.alloc (.cells (madeCells #[.slice none 0 0] threads) 84)).alloc (.cells (madeCells zCell (cells * 3)) 63)).alloc (.cells #[.slice (some ⟨w.heap.size + 1, 0, none⟩) cells cells, .slice (some ⟨w.heap.size, 0, none⟩) threads threads] 67)).drew := ((((Below.refl _ _).alloc (Nat.le_refl _) _).alloc (by simp) _).alloc (by simp; omega) _).drew
    clear mC mW
    generalize (((w.alloc (.cells (madeCells #[.slice none 0 0] threads) 84)).alloc (.cells (madeCells zCell (cells * 3)) 63)).alloc (.cells #[.slice (some ⟨w.heap.size + 1, 0, none⟩) cells cells, .slice (some ⟨w.heap.size, 0, none⟩) threads threads] 67)).drew = w1 at hN hB ⊢
    go_wp2_with fail
    go_loopw [6] (fun i wr => ∃ (j : Nat) (wb : Nat → Nat), j ≤ cells ∧ i = .int .i64 j ∧ NewAt w.heap.size (w.heap.size + 1 + 1) (w.heap.size + 1) (w.heap.size) cells threads j wb wr ∧ Below w.heap.size w wr) (fun i _ => cells - (intOf i).toNat)
    case atStart => exact ⟨0, _, Nat.zero_le _, rfl, hN, hB⟩
    case round =>
      obtain ⟨j, wb, hj, rfl, hA, hBr⟩ := hrel
      by_cases hlt : j < cells
      · have hm := hA.mCells
        have hcd := hA.todo j (Nat.le_refl _) hlt
        have hfc := hA.fc (j * 3)
        have ji : (j : Int) < cells := by omega
        have lc := hA.lc
        have lm := hA.lm
        have HNx : Hid (NewAt w.heap.size (w.heap.size + 1 + 1) (w.heap.size + 1) (w.heap.size) cells threads (j + 1) (fun c => if c = j then wr.heap.size else wb c) (((wr.setCell ⟨w.heap.size + 1, j * 3, none⟩ (.slice (some ⟨wr.heap.size, 0, none⟩) 4 4)).alloc (.cells #[.int .i64 0, .int .i64 0, .int .i64 0, .int .i64 0] 3)).drew)) := by
          show NewAt _ _ _ _ _ _ _ _ _
          rw [← World.setCell_alloc_past _ _ _ _ lc]
          exact (hA.next hlt hBr.size).drew
        clear hA hN hB
        go_wp2
        go_region
        go_wp2
        go_roundw
        case rel => exact ⟨j + 1, _, by omega, by go_num, HNx.out, ((hBr.setCell (by simp) _).alloc (by simp; exact hBr.size) _).drew⟩
        case measure => simp [intOf]; omega
      · obtain rfl : j = cells := by omega
        have hA' := hA
        clear hN hB hA
        go_wp2
        go_ret
        exact ⟨_, rfl, hA'.at hc ht, hBr, hA'.fp⟩
end Go.Proofs.YtcnemlamlchnkaaDoor
