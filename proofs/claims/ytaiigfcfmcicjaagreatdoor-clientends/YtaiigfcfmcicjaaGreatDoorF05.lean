import Derived.Test.YtaiigfcfmcicjaaGreatDoorF04
import Derived.Deep.OwnRows
import Derived.Maps.AppendAt
import Derived.Deep.RegionHeld3
import Derived.Deep.AppendLies
import Derived.Deep.RegionLaw
namespace Go.Proofs.YtaiigfcfmcicjaaGreatDoor
set_option maxRecDepth 100000
set_option maxHeartbeats 8000000
section
open Go.RowKit Go.Extern.Stop Go.Stop Go.Extern
variable {wb : Nat -> Nat} {B mb cb tb cells threads i : Nat} {w : World}
def zCell : Array Value := #[.slice none 0 0, .int .i64 0, .bool false]
theorem cellInfo : ∃ i, Tryz.prog.info? 64 = some i /\ i.zero = some (.agg zCell) /\ i.size = 3 /\ i.bytes = 40 := by
 obtain ⟨i, hi, h1⟩ := Option.map_eq_some_iff.1 (show (Tryz.prog.info? 64).map (·.zero) = some (some (.agg zCell)) by kernel_rfl)
 obtain ⟨j, hj, h2⟩ := Option.map_eq_some_iff.1 (show (Tryz.prog.info? 64).map (·.size) = some 3 by kernel_rfl)
 obtain ⟨k, hk, h3⟩ := Option.map_eq_some_iff.1 (show (Tryz.prog.info? 64).map (·.bytes) = some 40 by kernel_rfl)
 obtain rfl := Option.some.inj (hi.symm.trans hj)
 obtain rfl := Option.some.inj (hi.symm.trans hk)
 exact ⟨_, hi, h1, h2, h3⟩
theorem mkCells (n : Nat) (hn : n <= 1000000) (w : World) : (Instr.makeSlice 65 (.int .i64 n) (.int .i64 n)).run Tryz.prog w = .ok (.slice (some ⟨w.heap.size, 0, none⟩) n n) (w.alloc (.cells (madeCells zCell (n * 3)) 64)) := by
 obtain ⟨i, hi, hz, hs, hb⟩ := cellInfo
 have := run_make (P := Tryz.prog) w 65 64 i (.agg zCell) Tryz.underlying65 hi hz .i64 .i64 n n (by omega) (Int.le_refl _) (by rw [hb]; omega) (by omega)
 simp only [Int.toNat_natCast, hs] at this
 exact this
theorem mkWaits (n : Nat) (hn : n <= 1000000) (w : World) : (Instr.makeSlice 66 (.int .i64 n) (.int .i64 n)).run Tryz.prog w = .ok (.slice (some ⟨w.heap.size, 0, none⟩) n n) (w.alloc (.cells (madeCells #[.slice none 0 0] n) 99)) :=
 run_make_row' 66 99 (.slice none 0 0) 24 Tryz.underlying66 (by kernel_rfl) rfl .i64 .i64 n (by omega) (by omega) w
theorem made_at (z : Array Value) (n k : Nat) (h : k < n) : (madeCells z n)[k]? = some (z[k % z.size]!) := by
 simp [madeCells, h]
theorem zCell_at (n c : Nat) (h : c < n) : (madeCells zCell (n * 3))[c * 3]? = some (.slice none 0 0) /\ (madeCells zCell (n * 3))[c * 3 + 1]? = some (.int .i64 0) /\ (madeCells zCell (n * 3))[c * 3 + 2]? = some (.bool false) := by
 rw [made_at _ _ _ (by omega), made_at _ _ _ (by omega), made_at _ _ _ (by omega)]
 rw [show zCell.size = 3 from rfl, show c * 3 % 3 = 0 by omega, show (c * 3 + 1) % 3 = 1 by omega, show (c * 3 + 2) % 3 = 2 by omega]
 exact ⟨rfl, rfl, rfl⟩
structure NewAt (B mb cb tb cells threads i : Nat) (wb : Nat -> Nat) (w : World) : Prop where
 mCells : w.cell? ⟨mb, 0, none⟩ = some (.slice (some ⟨cb, 0, none⟩) cells cells)
 mWaits : w.cell? ⟨mb, 1, none⟩ = some (.slice (some ⟨tb, 0, none⟩) threads threads)
 done : ∀ c, c < i -> w.cell? ⟨cb, c * 3, none⟩ = some (.slice (some ⟨wb c, 0, none⟩) 4 4)
 todo : ∀ c, i <= c -> c < cells -> w.cell? ⟨cb, c * 3, none⟩ = some (.slice none 0 0)
 times : ∀ c, c < cells -> w.cell? ⟨cb, c * 3 + 1, none⟩ = some (.int .i64 0)
 here : ∀ c, c < cells -> w.cell? ⟨cb, c * 3 + 2, none⟩ = some (.bool false)
 words : ∀ c k, c < i -> k < 4 -> w.cell? ⟨wb c, k, none⟩ = some (.int .i64 0)
 waits : ∀ t, t < threads -> w.cell? ⟨tb, t, none⟩ = some (.slice none 0 0)
 fm : ∀ o, w.frozen? ⟨mb, o, none⟩ = false
 fc : ∀ o, w.frozen? ⟨cb, o, none⟩ = false
 ft : ∀ o, w.frozen? ⟨tb, o, none⟩ = false
 fw : ∀ c o, c < i -> w.frozen? ⟨wb c, o, none⟩ = false
 lc : cb < w.heap.size
 lt : tb < w.heap.size
 d1 : mb ≠ cb
 d2 : mb ≠ tb
 d3 : cb ≠ tb
 dw : ∀ c, c < i -> wb c ≠ mb /\ wb c ≠ cb /\ wb c ≠ tb /\ B <= wb c
 dwi : ∀ c d, c < i -> d < i -> c ≠ d -> wb c ≠ wb d
 base : B <= mb /\ B <= cb /\ B <= tb
theorem NewAt.lm (h : NewAt B mb cb tb cells threads i wb w) : mb < w.heap.size := bLt h.mCells
theorem cell_new {p : Addr} {v : Value} {o : Obj} (h : w.cell? p = some v) : (w.alloc o).cell? p = some v := by
 rw [World.cell?_alloc_lt _ _ _ (bLt h)]; exact h
theorem NewAt.next (h : NewAt B mb cb tb cells threads i wb w) (hi : i < cells) (hB : B <= w.heap.size) :
  NewAt B mb cb tb cells threads (i + 1) (fun c => if c = i then w.heap.size else wb c) ((w.alloc (.cells #[.int .i64 0, .int .i64 0, .int .i64 0, .int .i64 0] 3)).setCell ⟨cb, i * 3, none⟩ (.slice (some ⟨w.heap.size, 0, none⟩) 4 4)) := by
 have lm := h.lm
 have lc := h.lc
 have lt := h.lt
 have lw : ∀ c, c < i -> wb c < w.heap.size := fun c hc => bLt (h.words c 0 hc (by decide))
 refine { mCells := cell_ne (cell_new h.mCells) (Or.inl h.d1), mWaits := cell_ne (cell_new h.mWaits) (Or.inl h.d1), done := fun c hc => ?_, todo := fun c hc hcc => cell_ne (cell_new (h.todo c (by omega) hcc)) (Or.inr (by omega)), times := fun c hc => cell_ne (cell_new (h.times c hc)) (Or.inr (by omega)), here := fun c hc => cell_ne (cell_new (h.here c hc)) (Or.inr (by omega)), words := fun c k hc hk => ?_, waits := fun t ht => cell_ne (cell_new (h.waits t ht)) (Or.inl (Ne.symm h.d3)), fm := fun o => ?_, fc := fun o => ?_, ft := fun o => ?_, fw := fun c o hc => ?_, lc := by simp; omega, lt := by simp; omega, d1 := h.d1, d2 := h.d2, d3 := h.d3, dw := fun c hc => ?_, dwi := fun c d hc hd hcd => ?_, base := h.base }
 ·by_cases e : c = i
  ·subst e
   rw [if_pos rfl]
   exact World.cell?_setCell_same _ _ _ (cell_new (h.todo c nL hi))
  ·rw [if_neg e]
   exact cell_ne (cell_new (h.done c (by omega))) (Or.inr (by omega))
 ·by_cases e : c = i
  ·subst e
   rw [if_pos rfl]
   refine cell_ne ?_ (Or.inl (by omega))
   rw [World.cell?_alloc_new]
   match k, hk with
   | 0, _ => rfl
   | 1, _ => rfl
   | 2, _ => rfl
   | 3, _ => rfl
  ·rw [if_neg e]
   exact cell_ne (cell_new (h.words c k (by omega) hk)) (Or.inl (h.dw c (by omega)).2.1)
 ·rw [World.frozen?_setCell, World.frozen?_alloc_old _ _ _ (Nat.ne_of_lt lm)]; exact h.fm o
 ·rw [World.frozen?_setCell, World.frozen?_alloc_old _ _ _ (Nat.ne_of_lt lc)]; exact h.fc o
 ·rw [World.frozen?_setCell, World.frozen?_alloc_old _ _ _ (Nat.ne_of_lt lt)]; exact h.ft o
 ·rw [World.frozen?_setCell]
  by_cases e : c = i
  ·rw [if_pos e]; exact World.frozen?_alloc_new _ _ _ _
  ·rw [if_neg e, World.frozen?_alloc_old _ _ _ (Nat.ne_of_lt (lw c (by omega)))]; exact h.fw c o (by omega)
 ·by_cases e : c = i
  ·rw [if_pos e]; exact ⟨by omega, by omega, by omega, hB⟩
  ·rw [if_neg e]; exact h.dw c (by omega)
 ·by_cases e : c = i
  ·rw [if_pos e, if_neg (fun e' => hcd (e.trans e'.symm))]
   have := lw d (by omega)
   omega
  ·rw [if_neg e]
   by_cases e' : d = i
   ·rw [if_pos e']
    have := lw c (by omega)
    omega
   ·rw [if_neg e']
    exact h.dwi c d (by omega) (by omega) hcd
def Rm.fresh (cells threads : Nat) : Rm := ⟨⟨cells, fun _ _ => 0, fun _ => false, fun _ => 0⟩, threads, fun _ => []⟩
theorem NewAt.at {B mb cb tb cells threads : Nat} (h : NewAt B mb cb tb cells threads cells wb w) (hc : cells <= 64) (ht : threads <= 6) :
  RmAt ⟨mb, cb, tb, cells, threads, wb, fun _ => 4, fun _ => .slice none 0 0⟩ (Rm.fresh cells threads) w where
 small := hc
 few := ht
 mCells := h.mCells
 mWaits := h.mWaits
 ccap := Nat.le_refl _
 tcap := Nat.le_refl _
 cWords := h.done
 cTimes := h.times
 cHere := h.here
 wcap _ _ := Nat.le_refl _
 words := h.words
 bound _ := by show 0 < 4611686018427387904; decide
 waits t ht := ⟨h.waits t ht, World.ownsRow_nil _ _ _ _⟩
 fm := h.fm
 fc := h.fc
 ft := h.ft
 fw := h.fw
 lc := h.lc
 lt := h.lt
 d1 := h.d1
 d2 := h.d2
 d3 := h.d3
 dw c hc := ⟨(h.dw c hc).1, (h.dw c hc).2.1, (h.dw c hc).2.2.1⟩
 dwi := h.dwi
 dv _ _ _ hk := by cases hk
 dvi _ _ _ _ _ _ hk := by cases hk
theorem NewAt.fp {B mb cb tb cells threads : Nat} (h : NewAt B mb cb tb cells threads cells wb w) (k : Nat) (hk : (⟨mb, cb, tb, cells, threads, wb, fun _ => 4, fun _ => .slice none 0 0⟩ : RmPl).fp (Rm.fresh cells threads) k) : B <= k := by
 rcases hk with h1 | h1 | h1 | ⟨c, hc, h1⟩ | ⟨t, ht, h1⟩
 ·rw [h1]; exact h.base.1
 ·rw [h1]; exact h.base.2.1
 ·rw [h1]; exact h.base.2.2
 ·rw [h1]; exact (h.dw c hc).2.2.2
 ·cases h1
theorem NewAt.drew (h : NewAt B mb cb tb cells threads i wb w) : NewAt B mb cb tb cells threads i wb w.drew :=
 ⟨h.mCells, h.mWaits, h.done, h.todo, h.times, h.here, h.words, h.waits, h.fm, h.fc, h.ft, h.fw, h.lc, h.lt, h.d1, h.d2, h.d3, h.dw, h.dwi, h.base⟩
theorem heap_new (w : World) (o : Obj) : (w.alloc o).heap[w.heap.size]? = some o := by show (w.heap.push o)[w.heap.size]? = _; simp
theorem blk3 (w : World) (o1 o2 o3 : Obj) : (((w.alloc o1).alloc o2).alloc o3).heap[w.heap.size]? = some o1 /\ (((w.alloc o1).alloc o2).alloc o3).heap[w.heap.size + 1]? = some o2 /\ (((w.alloc o1).alloc o2).alloc o3).heap[w.heap.size + 1 + 1]? = some o3 := by
 have e1 : w.heap.size + 1 = (w.alloc o1).heap.size := (World.size_alloc _ _).symm
 have e2 : w.heap.size + 1 + 1 = ((w.alloc o1).alloc o2).heap.size := by rw [World.size_alloc, World.size_alloc]
 refine ⟨?_, ?_, ?_⟩
 ·rw [Below.heap_alloc _ _ _ (by omega), Below.heap_alloc _ _ _ (by omega)]; exact heap_new w o1
 ·rw [Below.heap_alloc _ _ _ (by omega), e1]; exact heap_new _ o2
 ·rw [e2]; exact heap_new _ o3
theorem made_world (cells threads : Nat) (mb cb tb : Nat) (w w1 : World) (hm : w1.heap[mb]? = some (.cells #[.slice (some ⟨cb, 0, none⟩) cells cells, .slice (some ⟨tb, 0, none⟩) threads threads] 68))
  (hcb : w1.heap[cb]? = some (.cells (madeCells zCell (cells * 3)) 64)) (htb : w1.heap[tb]? = some (.cells (madeCells #[.slice none 0 0] threads) 99))
  (d1 : mb ≠ cb) (d2 : mb ≠ tb) (d3 : cb ≠ tb) (hb : w.heap.size <= mb /\ w.heap.size <= cb /\ w.heap.size <= tb) : NewAt w.heap.size mb cb tb cells threads 0 (fun _ => 0) w1 where
 mCells := by simp [World.cell?, hm]
 mWaits := by simp [World.cell?, hm]
 done _ h := by omega
 todo c _ hc := by simp only [World.cell?, hcb]; exact (zCell_at _ _ hc).1
 times c hc := by simp only [World.cell?, hcb]; exact (zCell_at _ _ hc).2.1
 here c hc := by simp only [World.cell?, hcb]; exact (zCell_at _ _ hc).2.2
 words _ _ h := by omega
 waits t ht := by
  simp only [World.cell?, htb]
  rw [show (({ block := tb, off := t, spot := none } : Addr).spot.isSome) = false from rfl]
  simp only [Bool.false_eq_true, if_false]
  rw [made_at _ _ _ ht, show (#[Value.slice none 0 0] : Array Value).size = 1 from rfl, Nat.mod_one]
  rfl
 fm o := by simp [World.frozen?, hm]
 fc o := by simp [World.frozen?, hcb]
 ft o := by simp [World.frozen?, htb]
 fw _ _ h := by omega
 lc := lt_of_block hcb
 lt := lt_of_block htb
 d1 := d1
 d2 := d2
 d3 := d3
 dw _ h := by omega
 dwi _ _ h := by omega
 base := hb
theorem newMem_any (cells threads : Nat) (w : World) (hc : cells <= 64) (ht : threads <= 6) :
  Calls Tryz.prog 43 #[.int .i64 cells, .int .i64 threads] w fun e w' => ∃ p, e = .returned (.pointer (some ⟨p.mb, 0, none⟩)) /\ RmAt p (Rm.fresh cells threads) w' /\ Below w.heap.size w w' /\ ∀ k, p.fp (Rm.fresh cells threads) k -> w.heap.size <= k := by
 have m4 := make4
 have mC := mkCells cells (by omega)
 have mW := mkWaits threads (by omega)
 go_enter Tryz.func43, Tryz.ntmps43
 go_wp2
 go_region
 ·have hN := (made_world cells threads (w.heap.size + 1 + 1) w.heap.size (w.heap.size + 1) w (((w.alloc (.cells (madeCells zCell (cells * 3)) 64)).alloc (.cells (madeCells #[.slice none 0 0] threads) 99)).alloc (.cells #[.slice (some ⟨w.heap.size, 0, none⟩) cells cells, .slice (some ⟨w.heap.size + 1, 0, none⟩) threads threads] 68)) (blk3 w (.cells (madeCells zCell (cells * 3)) 64) (.cells (madeCells #[.slice none 0 0] threads) 99) (.cells #[.slice (some ⟨w.heap.size, 0, none⟩) cells cells, .slice (some ⟨w.heap.size + 1, 0, none⟩) threads threads] 68)).2.2 (blk3 w (.cells (madeCells zCell (cells * 3)) 64) (.cells (madeCells #[.slice none 0 0] threads) 99) (.cells #[.slice (some ⟨w.heap.size, 0, none⟩) cells cells, .slice (some ⟨w.heap.size + 1, 0, none⟩) threads threads] 68)).1 (blk3 w (.cells (madeCells zCell (cells * 3)) 64) (.cells (madeCells #[.slice none 0 0] threads) 99) (.cells #[.slice (some ⟨w.heap.size, 0, none⟩) cells cells, .slice (some ⟨w.heap.size + 1, 0, none⟩) threads threads] 68)).2.1 (by omega) (by omega) (by omega) ⟨by omega, by omega, by omega⟩).drew
  have hB : Below w.heap.size w (((w.alloc (.cells (madeCells zCell (cells * 3)) 64)).alloc (.cells (madeCells #[.slice none 0 0] threads) 99)).alloc (.cells #[.slice (some ⟨w.heap.size, 0, none⟩) cells cells, .slice (some ⟨w.heap.size + 1, 0, none⟩) threads threads] 68)).drew := (((bRf.alloc nL _).alloc (by simp) _).alloc (by simp; omega) _).drew
  clear mC mW
  generalize (((w.alloc (.cells (madeCells zCell (cells * 3)) 64)).alloc (.cells (madeCells #[.slice none 0 0] threads) 99)).alloc (.cells #[.slice (some ⟨w.heap.size, 0, none⟩) cells cells, .slice (some ⟨w.heap.size + 1, 0, none⟩) threads threads] 68)).drew = w1 at hN hB ⊢
  go_wp2_with fail
  go_loopw [6] (fun i wr => ∃ (j : Nat) (wb : Nat -> Nat), j <= cells /\ i = .int .i64 j /\ NewAt w.heap.size (w.heap.size + 1 + 1) w.heap.size (w.heap.size + 1) cells threads j wb wr /\ Below w.heap.size w wr) (fun i _ => cells - (intOf i).toNat)
  case atStart => exact ⟨0, _, Nat.zero_le _, rfl, hN, hB⟩
  case round =>
   obtain ⟨j, wb, hj, rfl, hA, hBr⟩ := hrel
   by_cases hlt : j < cells
   ·have hm := hA.mCells
    have hcd := hA.todo j nL hlt
    have hfc := hA.fc (j * 3)
    have ji : (j : Int) < cells := by omega
    have lc := hA.lc
    have lm := hA.lm
    have HNx : Hid (NewAt w.heap.size (w.heap.size + 1 + 1) w.heap.size (w.heap.size + 1) cells threads (j + 1) (fun c => if c = j then wr.heap.size else wb c) (((wr.setCell ⟨w.heap.size, j * 3, none⟩ (.slice (some ⟨wr.heap.size, 0, none⟩) 4 4)).alloc (.cells #[.int .i64 0, .int .i64 0, .int .i64 0, .int .i64 0] 3)).drew)) := by
     show NewAt _ _ _ _ _ _ _ _ _
     rw [<- World.setCell_alloc_past _ _ _ _ lc]
     exact (hA.next hlt hBr.size).drew
    clear hA hN hB
    go_wp2
    go_region
    go_wp2
    go_roundw
    case rel => exact ⟨j + 1, _, by omega, by go_num, HNx.out, ((hBr.setCell (by simp) _).alloc (by simp; exact hBr.size) _).drew⟩
    case measure => simp [intOf]; omega
   ·obtain rfl : j = cells := by omega
    have hA' := hA
    clear hN hB hA
    go_wp2
    go_ret
    exact ⟨_, rfl, hA'.at hc ht, hBr, hA'.fp⟩
 ·have hN := (made_world cells threads (w.heap.size + 1 + 1) (w.heap.size + 1) (w.heap.size) w (((w.alloc (.cells (madeCells #[.slice none 0 0] threads) 99)).alloc (.cells (madeCells zCell (cells * 3)) 64)).alloc (.cells #[.slice (some ⟨w.heap.size + 1, 0, none⟩) cells cells, .slice (some ⟨w.heap.size, 0, none⟩) threads threads] 68)) (blk3 w (.cells (madeCells #[.slice none 0 0] threads) 99) (.cells (madeCells zCell (cells * 3)) 64) (.cells #[.slice (some ⟨w.heap.size + 1, 0, none⟩) cells cells, .slice (some ⟨w.heap.size, 0, none⟩) threads threads] 68)).2.2 (blk3 w (.cells (madeCells #[.slice none 0 0] threads) 99) (.cells (madeCells zCell (cells * 3)) 64) (.cells #[.slice (some ⟨w.heap.size + 1, 0, none⟩) cells cells, .slice (some ⟨w.heap.size, 0, none⟩) threads threads] 68)).2.1 (blk3 w (.cells (madeCells #[.slice none 0 0] threads) 99) (.cells (madeCells zCell (cells * 3)) 64) (.cells #[.slice (some ⟨w.heap.size + 1, 0, none⟩) cells cells, .slice (some ⟨w.heap.size, 0, none⟩) threads threads] 68)).1 (by omega) (by omega) (by omega) ⟨by omega, by omega, by omega⟩).drew
  have hB : Below w.heap.size w (((w.alloc (.cells (madeCells #[.slice none 0 0] threads) 99)).alloc (.cells (madeCells zCell (cells * 3)) 64)).alloc (.cells #[.slice (some ⟨w.heap.size + 1, 0, none⟩) cells cells, .slice (some ⟨w.heap.size, 0, none⟩) threads threads] 68)).drew := (((bRf.alloc nL _).alloc (by simp) _).alloc (by simp; omega) _).drew
  clear mC mW
  generalize (((w.alloc (.cells (madeCells #[.slice none 0 0] threads) 99)).alloc (.cells (madeCells zCell (cells * 3)) 64)).alloc (.cells #[.slice (some ⟨w.heap.size + 1, 0, none⟩) cells cells, .slice (some ⟨w.heap.size, 0, none⟩) threads threads] 68)).drew = w1 at hN hB ⊢
  go_wp2_with fail
  go_loopw [6] (fun i wr => ∃ (j : Nat) (wb : Nat -> Nat), j <= cells /\ i = .int .i64 j /\ NewAt w.heap.size (w.heap.size + 1 + 1) (w.heap.size + 1) (w.heap.size) cells threads j wb wr /\ Below w.heap.size w wr) (fun i _ => cells - (intOf i).toNat)
  case atStart => exact ⟨0, _, Nat.zero_le _, rfl, hN, hB⟩
  case round =>
   obtain ⟨j, wb, hj, rfl, hA, hBr⟩ := hrel
   by_cases hlt : j < cells
   ·have hm := hA.mCells
    have hcd := hA.todo j nL hlt
    have hfc := hA.fc (j * 3)
    have ji : (j : Int) < cells := by omega
    have lc := hA.lc
    have lm := hA.lm
    have HNx : Hid (NewAt w.heap.size (w.heap.size + 1 + 1) (w.heap.size + 1) (w.heap.size) cells threads (j + 1) (fun c => if c = j then wr.heap.size else wb c) (((wr.setCell ⟨w.heap.size + 1, j * 3, none⟩ (.slice (some ⟨wr.heap.size, 0, none⟩) 4 4)).alloc (.cells #[.int .i64 0, .int .i64 0, .int .i64 0, .int .i64 0] 3)).drew)) := by
     show NewAt _ _ _ _ _ _ _ _ _
     rw [<- World.setCell_alloc_past _ _ _ _ lc]
     exact (hA.next hlt hBr.size).drew
    clear hA hN hB
    go_wp2
    go_region
    go_wp2
    go_roundw
    case rel => exact ⟨j + 1, _, by omega, by go_num, HNx.out, ((hBr.setCell (by simp) _).alloc (by simp; exact hBr.size) _).drew⟩
    case measure => simp [intOf]; omega
   ·obtain rfl : j = cells := by omega
    have hA' := hA
    clear hN hB hA
    go_wp2
    go_ret
    exact ⟨_, rfl, hA'.at hc ht, hBr, hA'.fp⟩
end
section
open Go.RowKit
variable {w w' w2 : World} {p p' : RmPl} {s s' : Rm}
theorem step_append_at {P : Program} (w : World) {ops : Array Oper} {o : Oper} {a : Act} {K : Act -> World -> Prop} {Q : Exit -> Act -> World -> Prop} {E : Prop} (hgd : o.guard = none) (s x : Operand) (t : TypeId)
  (ho : o.op = .call { callee := .builtin .append, args := #[s, x], argTypes := #[t, t] })
  (base : Nat) (e : TypeId) (i : TypeInfo) (z : Value) (size bytes : Nat) (ht : P.underlying t = some (.slice e)) (hi : P.info? e = some i) (hz : i.zero = some z)
  (hsize : i.size = size) (hby : i.bytes = bytes) (hzs : z.cells.size = size) (hsz : 0 < size)
  (v : Value) (n : Nat) (xs : List Value) (hs : a.eval s = v) (hown : w.ownsRow base e size v n xs)
  (ad : Addr) (m c : Nat) (news : List Value) (hx : a.eval x = .slice (some ad) m c) (hl : news.length = m * size) (hnews : ∀ j u, news[j]? = some u -> w.cell? (ad.add j) = some u) (h1 : ∀ u ∈ news, u.oneCell' = true)
  (h63 : n + m <= maxLen) (hbytes : (n + m) * bytes <= 140737488355328) (hbase : base <= w.heap.size)
  (h : ∀ g cap w', w'.ownsRow base e size (.slice g (n + m) cap) (n + m) (xs ++ news) -> w.grownBy w' v.ownBlock -> ((Value.slice g (n + m) cap).ownBlock = v.ownBlock ∨ (Value.slice g (n + m) cap).ownBlock = some w.heap.size) -> K (a.put o.dst (.slice g (n + m) cap)) w') :
  if Region.wanted o (yielded ops a.tmps) = true then Oper.wp P o a w K Q else E := by
 have hw : Region.wanted o (yielded ops a.tmps) = true := by simp [Region.wanted, hgd]
 rw [if_pos hw]
 obtain ⟨v', w', hr, h2, h3, _, h5⟩ := run_append_own_at (P := P) w base t o.type e i z size bytes ht hi hz hsize hby hzs hsz v n xs hown ad m c news hl hnews h1 h63 hbytes hbase
 obtain ⟨g, cap, rfl, _⟩ := ownsRow_shape h2
 unfold Oper.wp execOp
 simp only [ho, resolve, invoke, builtin, Sem.run_bind, Sem.run_pure, Result.andThen_ok, List.map_toArray, List.map_cons, List.map_nil, hs, hx, hr]
 exact h g cap w' h2 h3 h5
def Rm.setWaits (s : Rm) (t : Nat) (l : List Wt) : Rm := { s with waits := fun u => if u = t then l else s.waits u }
def RmPl.withRow (p : RmPl) (t : Nat) (v : Value) : RmPl := { p with wv := fun u => if u = t then v else p.wv u }
theorem RmPl.fp_row (p : RmPl) (s s' : Rm) (t : Nat) (v : Value) (k : Nat) (h1 : s'.ar.size = s.ar.size) (h2 : s'.threads = s.threads) (h : (p.withRow t v).fp s' k) : p.fp s k ∨ v.ownBlock = some k := by
 rcases h with h | h | h | ⟨j, hj, h⟩ | ⟨u, hu, h⟩
 ·exact Or.inl (Or.inl h)
 ·exact Or.inl (Or.inr (Or.inl h))
 ·exact Or.inl (Or.inr (Or.inr (Or.inl h)))
 ·exact Or.inl (Or.inr (Or.inr (Or.inr (Or.inl ⟨j, by rw [<- h1]; exact hj, h⟩))))
 ·simp only [RmPl.withRow] at h
  split at h
  ·exact Or.inr h
  ·exact Or.inl (Or.inr (Or.inr (Or.inr (Or.inr ⟨u, by rw [<- h2]; exact hu, h⟩))))
theorem RmAt.setWaits {p : RmPl} {s : Rm} {w w1 : World} (h : RmAt p s w) {t : Nat} (ht : t < s.threads) (v : Value) (l : List Wt)
  (hb : ∀ k, k < w.heap.size -> (p.wv t).ownBlock ≠ some k -> w1.heap[k]? = w.heap[k]?) (hsz : w.heap.size <= w1.heap.size)
  (hown : w1.ownsRow 0 176 4 v l.length (wtCells l)) (hk : ∀ k, v.ownBlock = some k -> (p.wv t).ownBlock = some k ∨ w.heap.size <= k) :
  RmAt (p.withRow t v) (s.setWaits t l) (w1.setCell ⟨p.tb, t, none⟩ v) := by
 have lm := h.lm
 have lc := h.lc
 have lt := h.lt
 have om : (p.wv t).ownBlock ≠ some p.mb := fun e => (h.dv t _ ht e).1 rfl
 have oc : (p.wv t).ownBlock ≠ some p.cb := fun e => (h.dv t _ ht e).2.1 rfl
 have ot : (p.wv t).ownBlock ≠ some p.tb := fun e => (h.dv t _ ht e).2.2.1 rfl
 have ow : ∀ c, c < s.ar.size -> (p.wv t).ownBlock ≠ some (p.wb c) := fun c hc e => (h.dv t _ ht e).2.2.2 c hc rfl
 have K : ∀ k o u, w.cell? ⟨k, o, none⟩ = some u -> (p.wv t).ownBlock ≠ some k -> w1.cell? ⟨k, o, none⟩ = some u := fun k o u hc hne => by
  rw [World.cell?_of_block (hb k (bLt hc) hne)]; exact hc
 have FZ : ∀ k o, k < w.heap.size -> w.frozen? ⟨k, o, none⟩ = false -> (p.wv t).ownBlock ≠ some k -> (w1.setCell ⟨p.tb, t, none⟩ v).frozen? ⟨k, o, none⟩ = false := fun k o hl hf hne => by
  rw [World.frozen?_setCell, World.frozen?_of_block (hb k hl hne)]; exact hf
 have nv : ∀ k, v.ownBlock = some k -> k ≠ p.mb /\ k ≠ p.cb /\ k ≠ p.tb /\ ∀ c, c < s.ar.size -> k ≠ p.wb c := fun k e => by
  rcases hk k e with e | e
  ·exact h.dv t k ht e
  ·exact ⟨by omega, by omega, by omega, fun c hc => by have := h.lw hc; omega⟩
 refine { small := h.small, few := h.few, mCells := cell_ne (K _ _ _ h.mCells om) (Or.inl h.d2), mWaits := cell_ne (K _ _ _ h.mWaits om) (Or.inl h.d2), ccap := h.ccap, tcap := h.tcap, cWords := fun c hc => cell_ne (K _ _ _ (h.cWords c hc) oc) (Or.inl h.d3), cTimes := fun c hc => cell_ne (K _ _ _ (h.cTimes c hc) oc) (Or.inl h.d3), cHere := fun c hc => cell_ne (K _ _ _ (h.cHere c hc) oc) (Or.inl h.d3), wcap := h.wcap, words := fun c k hc hk => cell_ne (K _ _ _ (h.words c k hc hk) (ow c hc)) (Or.inl (h.dw c hc).2.2), bound := h.bound, waits := fun u hu => ?_, fm := fun o => FZ _ _ lm (h.fm o) om, fc := fun o => FZ _ _ lc (h.fc o) oc, ft := fun o => FZ _ _ lt (h.ft o) ot, fw := fun c o hc => FZ _ _ (h.lw hc) (h.fw c o hc) (ow c hc), lc := by rw [World.size_setCell]; exact Nat.lt_of_lt_of_le lc hsz, lt := by rw [World.size_setCell]; exact Nat.lt_of_lt_of_le lt hsz, d1 := h.d1, d2 := h.d2, d3 := h.d3, dw := h.dw, dwi := h.dwi, dv := fun u k hu e => ?_, dvi := fun u x k hu hx hne e1 => ?_ }
 ·simp only [RmPl.withRow, Rm.setWaits]
  by_cases e : u = t
  ·subst e
   rw [if_pos rfl, if_pos rfl]
   exact ⟨World.cell?_setCell_same _ _ _ (K _ _ _ (h.waits u hu).1 ot), ownsRow_block hown (fun k e => Below.heap_setCell _ _ _ _ (nv k e).2.2.1)⟩
  ·rw [if_neg e, if_neg e]
   exact ⟨cell_ne (K _ _ _ (h.waits u hu).1 ot) (Or.inr e), ownsRow_block (h.waits u hu).2 (fun k e' => (Below.heap_setCell _ _ _ _ (h.dv u k hu e').2.2.1).trans (hb k (h.lv hu e') (fun e2 => h.dvi u t k hu ht e e' e2)))⟩
 ·simp only [RmPl.withRow] at e ⊢
  split at e
  ·exact nv k e
  ·exact h.dv u k hu e
 ·simp only [RmPl.withRow] at e1 ⊢
  by_cases eu : u = t
  ·rw [if_pos eu] at e1
   rw [if_neg (fun ex => hne (eu.trans ex.symm))]
   rcases hk k e1 with e | e
   ·exact h.dvi t x k ht hx (fun e' => hne (eu.trans e')) e
   ·intro e2
    have := h.lv hx e2
    omega
  ·rw [if_neg eu] at e1
   by_cases ex : x = t
   ·rw [if_pos ex]
    intro e2
    rcases hk k e2 with e | e
    ·exact h.dvi u t k hu ht eu e1 e
    ·have := h.lv hu e1
     omega
   ·rw [if_neg ex]
    exact h.dvi u x k hu hx hne e1
structure RmStep (p : RmPl) (s : Rm) (w : World) (p' : RmPl) (s' : Rm) (w' : World) : Prop where
 mb : p'.mb = p.mb
 tb : p'.tb = p.tb
 at' : RmAt p' s' w'
 turns : Turns (fun k _ => p.fp s k) w w'
 fp : ∀ k, p'.fp s' k -> p.fp s k ∨ w.heap.size <= k
theorem RmStep.refl {p : RmPl} {s : Rm} {w : World} (h : RmAt p s w) : RmStep p s w p s w := ⟨rfl, rfl, h, Turns.refl _ _, fun _ h => Or.inl h⟩
theorem RmStep.trans {p p' p2 : RmPl} {s s' s2 : Rm} (h : RmStep p s w p' s' w') (k : RmStep p' s' w' p2 s2 w2) : RmStep p s w p2 s2 w2 where
 mb := k.mb.trans h.mb
 tb := k.tb.trans h.tb
 at' := k.at'
 turns := by
  refine ⟨k.turns.os.trans h.turns.os, k.turns.tape.trans h.turns.tape, k.turns.output.trans h.turns.output, Nat.le_trans h.turns.size k.turns.size, ?_, ?_, ?_⟩
  ·intro i hi ho
   rw [k.turns.block i (Nat.lt_of_lt_of_le hi h.turns.size) (fun o e => by rcases h.fp i e with e | e; exact ho o e; omega)]
   exact h.turns.block i hi ho
  ·intro i o hi ho
   rw [k.turns.cell i o (Nat.lt_of_lt_of_le hi h.turns.size) (fun e => by rcases h.fp i e with e | e; exact ho e; omega)]
   exact h.turns.cell i o hi ho
  ·intro i o hi ho
   rw [k.turns.frozen i o (Nat.lt_of_lt_of_le hi h.turns.size) (fun e => by rcases h.fp i e with e | e; exact ho e; omega)]
   exact h.turns.frozen i o hi ho
 fp i hi := by
  rcases k.fp i hi with e | e
  ·exact h.fp i e
  ·exact Or.inr (Nat.le_trans h.turns.size e)
theorem RmStep.below (h : RmStep p s w p' s' w') (k : Below w'.heap.size w' w2) : RmStep p s w p' s' w2 :=
 ⟨h.mb, h.tb, h.at'.below k, h.turns.trans (Turns.of_below k), h.fp⟩
theorem RmStep.of_below {w0 w w' : World} (b : Below w0.heap.size w0 w) (h : RmStep p s w p' s' w') : RmStep p s w0 p' s' w' :=
 ⟨h.mb, h.tb, h.at', (Turns.of_below b).trans (by
  refine h.turns.mono fun k o _ e => e), fun k e => (h.fp k e).imp id (Nat.le_trans b.size)⟩
end
section
open Go.RowKit Go.Extern.Stop Go.Stop Go.Extern
theorem wtInfo : ∃ i, Tryz.prog.info? 176 = some i /\ i.zero = some (.agg #[.int .i64 0, .int .i64 0, .int .i64 0, .int .i64 0]) /\ i.size = 4 /\ i.bytes = 32 := by
 obtain ⟨i, hi, h1⟩ := Option.map_eq_some_iff.1 (show (Tryz.prog.info? 176).map (·.zero) = some (some (.agg #[.int .i64 0, .int .i64 0, .int .i64 0, .int .i64 0])) by kernel_rfl)
 obtain ⟨j, hj, h2⟩ := Option.map_eq_some_iff.1 (show (Tryz.prog.info? 176).map (·.size) = some 4 by kernel_rfl)
 obtain ⟨k, hk, h3⟩ := Option.map_eq_some_iff.1 (show (Tryz.prog.info? 176).map (·.bytes) = some 32 by kernel_rfl)
 obtain rfl := Option.some.inj (hi.symm.trans hj)
 obtain rfl := Option.some.inj (hi.symm.trans hk)
 exact ⟨_, hi, h1, h2, h3⟩
def Rm.storeErr (s : Rm) (t : Nat) (c g k v : Int) : Nat :=
 if s.ar.at c g k = 0 then (if 0 <= v /\ v < 4294967296 then (if 8 <= (s.waits t).length then 6 else 0) else 2) else s.ar.at c g k
theorem wtCells_append (l : List Wt) (x : Wt) : wtCells (l ++ [x]) = wtCells l ++ x.cells := by simp [wtCells]
theorem rstore_ok (p : RmPl) (s : Rm) (t : Nat) (c g k v : Int) (w : World) (h : RmAt p s w) (ht : t < s.threads) (he : s.storeErr t c g k v = 0) :
  Calls Tryz.prog 74 #[.pointer (some ⟨p.mb, 0, none⟩), .int .i64 t, .agg #[.int .i64 c, .int .i64 g], .int .i64 k, .int .i64 v] w fun e w' => e = .returned (.int .i64 0) /\ ∃ p', RmStep p s w p' (s.setWaits t (s.waits t ++ [⟨c, g, k, v⟩])) w' := by
 have ha : s.ar.at c g k = 0 := Classical.byContradiction fun e => by rw [Rm.storeErr, if_neg e] at he; exact e he
 have hv : 0 <= v /\ v < 4294967296 := Classical.byContradiction fun e => by rw [Rm.storeErr, if_pos ha, if_neg e] at he; cases he
 have hl : (s.waits t).length < 8 := Classical.byContradiction fun e => by rw [Rm.storeErr, if_pos ha, if_pos hv, if_pos (by omega)] at he; cases he
 have h0 := h
 have h1 := h.alloc (.cells #[.int .i64 c, .int .i64 g] 50)
 have hba := box_below c g w
 obtain ⟨q0, q1⟩ := box2c w 50 (.int .i64 c) (.int .i64 g)
 have HA : Hid (∀ w, RmAt p s w -> Calls Tryz.prog 22 #[.pointer (some ⟨p.mb, 0, none⟩), .agg #[.int .i64 c, .int .i64 g], .int .i64 k] w fun e w' => e = .returned (.int .i64 0) /\ Below w.heap.size w w') := fun w h => by
  have := at_any p s c g k w h; rw [ha] at this; exact this
 have HI : Hid (∀ w, Calls Tryz.prog 45 #[.int .i64 v] w fun e w' => e = .returned (.bool true) /\ w' = w) := fun w => by
  have := isWordR_any v w; rw [decide_eq_true hv] at this; exact this
 have H0 : Hid (RmAt p s w) := h0
 have hfw : w.heap.size < (w.alloc (.cells #[.int .i64 c, .int .i64 g] 50)).heap.size := by simp
 clear h h0 ha hv he
 have hi : ¬ (8 : Int) <= ((s.waits t).length : Nat) := by omega
 have htc := h1.tcap
 have ti : (t : Int) < s.threads := by omega
 generalize hw1 : w.alloc (.cells #[.int .i64 c, .int .i64 g] 50) = w1 at *
 go_enter Tryz.func74, Tryz.ntmps74
 go_wp2_with fail
 refine (HA.out _ h1).mono ?_
 rintro e2 w2 ⟨rfl, hb2⟩
 have B2 := below_step hba hb2
 replace q0 := keep_cell hb2 q0
 replace q1 := keep_cell hb2 q1
 have h2 := h1.below hb2
 have l0 : w.heap.size < w2.heap.size := Nat.lt_of_lt_of_le hfw hb2.size
 clear hb2 h1 HA hw1 hfw hba
 have hm1 := h2.mWaits
 obtain ⟨hv, hown⟩ := h2.waits t ht
 have H2 : Hid (RmAt p s w2) := h2
 have om : (p.wv t).ownBlock ≠ some p.mb := fun e => (h2.dv t _ ht e).1 rfl
 have ot : (p.wv t).ownBlock ≠ some p.tb := fun e => (h2.dv t _ ht e).2.2.1 rfl
 have ob : (p.wv t).ownBlock ≠ some w.heap.size := fun e => by have := H0.out.lv ht e; omega
 have lm := h2.lm
 have lt := h2.lt
 have hft := h2.ft t
 obtain ⟨ad, cap, hvs, hcl, hcm, hcell⟩ := ownsRow_shape hown
 clear hcell h2
 obtain ⟨wi, hwi, hwz, hws, hwb⟩ := wtInfo
 have hml : (s.waits t).length + 1 <= maxLen := by unfold maxLen; omega
 have hmb : ((s.waits t).length + 1) * 32 <= 140737488355328 := by omega
 have HVS : Hid (p.wv t = .slice ad (s.waits t).length cap) := hvs
 rw [hvs] at hv hown om ot ob
 clear hvs
 go_wp2_with fail
 refine (HI.out _).mono ?_
 rintro e3 w3 ⟨rfl, rfl⟩
 clear HI
 go_wp2_with fail
 go_region_held3 (fun w' => w'.cell? ⟨p.mb, 1, none⟩ = some (.slice (some ⟨p.tb, 0, none⟩) s.threads p.tcap) /\ w'.cell? ⟨p.tb, t, none⟩ = some (.slice ad (s.waits t).length cap) /\ w'.cell? ⟨w.heap.size, 0, none⟩ = some (.int .i64 c) /\ w'.cell? ⟨w.heap.size, 1, none⟩ = some (.int .i64 g))
  (first
    | go_keep
    | (go_split_ands
       refine ⟨?_, ?_, ?_, ?_⟩
       ·(rw [hgrow.cell_far _ (by simp; omega) (Ne.symm om)]; assumption)
       ·(rw [hgrow.cell_far _ (by simp; omega) (Ne.symm ot)]; assumption)
       ·(rw [hgrow.cell_far _ (by simp; omega) (Ne.symm ob)]; assumption)
       ·(rw [hgrow.cell_far _ (by simp; omega) (Ne.symm ob)]; assumption)))
  ((refine step_append_at _ (by rfl) _ _ _ (by rfl) 0 176 wi _ 4 32 Tryz.underlying99 hwi hwz hws hwb rfl (by omega) (.slice ad (s.waits t).length cap) _ (wtCells (s.waits t)) (by rfl) ((hown.alloc _).drew)
     ⟨w3.heap.size, 0, none⟩ 1 1 [.int .i64 c, .int .i64 g, .int .i64 k, .int .i64 v] (by rfl) (by rfl) (World.news_of_block (cs := #[.int .i64 c, .int .i64 g, .int .i64 k, .int .i64 v]) (t := 176) (fr := (0, 0)) (heap_alloc_new w3 _)) (by simp [Value.oneCell'])
     hml hmb (by simp) ?_; intro gg gcap w6 hown6 hgrow hat))
 obtain ⟨j1, j2, -, -⟩ := ‹_ /\ _ /\ _ /\ _›
 have hg : ∀ b, b < w3.heap.size -> (Value.slice ad (s.waits t).length cap).ownBlock ≠ some b -> w6.heap[b]? = w3.heap[b]? := fun b hb hne => by
  rw [hgrow.block b (by simp; omega) (Ne.symm hne)]
  exact Below.heap_alloc _ _ _ hb
 have hz : w3.heap.size <= w6.heap.size := Nat.le_trans (by simp) hgrow.size
 have hf6 : w6.frozen? ⟨p.tb, t, none⟩ = false := by rw [World.frozen?_of_block (hg p.tb lt ot)]; exact hft
 have HT := H2.out.setWaits (w1 := w6) ht (.slice gg ((s.waits t).length + 1) gcap) (s.waits t ++ [⟨c, g, k, v⟩]) (fun b hb hne => hg b hb (by rw [<- HVS.out]; exact hne)) hz
  (by rw [wtCells_append, List.length_append]; exact hown6) (fun b hb => by
    rcases hat with e | e
    ·left; rw [HVS.out, <- e]; exact hb
    ·right; rw [e] at hb; simp at hb; omega)
 have HR : RmStep p s w (p.withRow t (.slice gg ((s.waits t).length + 1) gcap)) (s.setWaits t (s.waits t ++ [⟨c, g, k, v⟩])) (w6.setCell ⟨p.tb, t, none⟩ (.slice gg ((s.waits t).length + 1) gcap)) := by
  refine RmStep.of_below B2 ⟨rfl, rfl, HT, ?_, ?_⟩
  ·refine Turns.trans (b := w6) ⟨hgrow.os, hgrow.tape, hgrow.output, hz, fun b hb ho => hg b hb (fun e => ho 0 (Or.inr (Or.inr (Or.inr (Or.inr ⟨t, ht, by rw [HVS.out]; exact e⟩))))), ?_, ?_⟩ ((Turns.refl _ _).setCell _ (Or.inr (Or.inr (Or.inl rfl))))
   ·intro b o hb ho
    exact World.cell?_of_block (hg b hb (fun e => ho (Or.inr (Or.inr (Or.inr (Or.inr ⟨t, ht, by rw [HVS.out]; exact e⟩))))))
   ·intro b o hb ho
    exact World.frozen?_of_block (hg b hb (fun e => ho (Or.inr (Or.inr (Or.inr (Or.inr ⟨t, ht, by rw [HVS.out]; exact e⟩))))))
  ·intro b hb
   rcases RmPl.fp_row p s _ t _ b rfl rfl hb with e | e
   ·exact Or.inl e
   ·rcases hat with e2 | e2
    ·exact Or.inl (Or.inr (Or.inr (Or.inr (Or.inr ⟨t, ht, by rw [HVS.out, <- e2]; exact e⟩))))
    ·right; rw [e2] at e; simp at e; omega
 clear hat hgrow hown6 hown hg HT H2 HVS hwi hwz hws hwb q0 q1 hm1 hv
 go_wp2
 go_ret
 exact ⟨rfl, _, HR⟩
variable {l : List Wt}
def Rm.drained (s : Rm) (t : Nat) (x : Wt) (l : List Wt) : Rm :=
 if s.ar.has x.c x.g = true then (s.setWaits t l).setWord x.c.toNat x.w.toNat x.v else s.setWaits t l
theorem rdrain_none (p : RmPl) (s : Rm) (t : Nat) (w : World) (h : RmAt p s w) (ht : t < s.threads) (he : s.waits t = []) :
  Calls Tryz.prog 73 #[.pointer (some ⟨p.mb, 0, none⟩), .int .i64 t] w fun e w' => e = .returned (.int .i64 5) /\ Below w.heap.size w w' := by
 have htc := h.tcap
 have ti : (t : Int) < s.threads := by omega
 have hm1 := h.mWaits
 obtain ⟨hv, hown⟩ := h.waits t ht
 obtain ⟨ad, cap, hvs, hcl, hcm, hcell⟩ := ownsRow_shape hown
 rw [hvs, he] at hv
 clear hcell hown hvs h he
 go_enter Tryz.func73, Tryz.ntmps73
 go_wp2
 go_ret
 exact ⟨rfl, Below.refl _ _⟩
theorem wtCells_cons (x : Wt) (l : List Wt) : wtCells (x :: l) = x.cells ++ wtCells l := rfl
theorem wtCells_one : ∀ u ∈ wtCells l, u.oneCell' = true := by
 induction l with
 | nil => intro u hu; cases hu
 | cons x l ih =>
  intro u hu
  rw [wtCells_cons, List.mem_append] at hu
  rcases hu with hu | hu
  ·simp only [Wt.cells, List.mem_cons, List.not_mem_nil, or_false] at hu
   rcases hu with rfl | rfl | rfl | rfl <;> rfl
  ·exact ih u hu
theorem drained_at {p : RmPl} {s : Rm} {w1 w6 : World} {t : Nat} (H1 : RmAt p s w1) (ht : t < s.threads) {gg : Option Addr} {gcap : Nat} 
  (hown6 : w6.ownsRow 0 176 4 (Value.slice gg (0 + l.length) gcap) (0 + l.length) ([] ++ wtCells l)) (hgrow : w1.drew.grownBy w6 (Value.slice none 0 0).ownBlock)
  (hat : (Value.slice gg (0 + l.length) gcap).ownBlock = (Value.slice none 0 0).ownBlock ∨ (Value.slice gg (0 + l.length) gcap).ownBlock = some w1.drew.heap.size) :
  RmStep p s w1 (p.withRow t (.slice gg l.length gcap)) (s.setWaits t l) (w6.setCell ⟨p.tb, t, none⟩ (.slice gg l.length gcap)) /\ ∀ b o u, w1.cell? ⟨b, o, none⟩ = some u -> b ≠ p.tb -> (w6.setCell ⟨p.tb, t, none⟩ (.slice gg l.length gcap)).cell? ⟨b, o, none⟩ = some u := by
 simp only [Nat.zero_add, List.nil_append] at hown6 hat
 have hg : ∀ b, b < w1.heap.size -> w6.heap[b]? = w1.heap[b]? := fun b hb => hgrow.block b hb (by simp [Value.ownBlock])
 have hk : ∀ k, (Value.slice gg l.length gcap).ownBlock = some k -> w1.heap.size <= k := fun k e => by
  rcases hat with e' | e'
  ·rw [e'] at e; cases e
  ·rw [e'] at e; simp at e; omega
 have hz : w1.heap.size <= w6.heap.size := hgrow.size
 have hb6 : Below w1.heap.size w1 w6 := ⟨hgrow.os, hgrow.tape, hgrow.output, hz, hg⟩
 refine ⟨⟨rfl, rfl, H1.setWaits ht _ _ (fun b hb _ => hg b hb) hz hown6 (fun k e => Or.inr (hk k e)), (Turns.of_below hb6).setCell _ (Or.inr (Or.inr (Or.inl rfl))), fun b hb => ?_⟩, fun b o u hu hne => cell_ne (keep_cell hb6 hu) (Or.inl hne)⟩
 rcases RmPl.fp_row p s _ t _ b rfl rfl hb with e | e
 ·exact Or.inl e
 ·exact Or.inr (hk b e)
theorem rdrain_walk (r : Int) (p : RmPl) (s : Rm) (t : Nat) (x : Wt) (l : List Wt) (w : World) (h : RmAt p s w) (ht : t < s.threads) (he : s.waits t = x :: l) (hx : 0 <= x.w /\ x.w < 4) (hfew : l.length <= 1000) (HRR : Hid (r = if s.ar.has x.c x.g = true then 0 else 7)) :
  Calls Tryz.prog 73 #[.pointer (some ⟨p.mb, 0, none⟩), .int .i64 t] w fun e w' => e = .returned (.int .i64 r) /\ ∃ p', RmStep p s w p' (s.drained t x l) w' := by
 have htc := h.tcap
 have ti : (t : Int) < s.threads := by omega
 have hm1 := h.mWaits
 obtain ⟨hv, hown⟩ := h.waits t ht
 obtain ⟨ad, cap, hvs, hcl, hcm, hcell⟩ := ownsRow_shape hown
 rw [he] at hcell hcl
 obtain ⟨gb, rfl, e0⟩ := hcell 0 (.int .i64 x.c) rfl
 have H0 : Hid (RmAt p s w) := h
 have om : (p.wv t).ownBlock ≠ some p.mb := fun e => (h.dv t _ ht e).1 rfl
 have ot : (p.wv t).ownBlock ≠ some p.tb := fun e => (h.dv t _ ht e).2.2.1 rfl
 have e1 : w.cell? ⟨gb, 1, none⟩ = some (.int .i64 x.g) := by
  obtain ⟨b, hb, h1⟩ := hcell 1 (.int .i64 x.g) rfl; cases hb; exact h1
 have e2 : w.cell? ⟨gb, 2, none⟩ = some (.int .i64 x.w) := by
  obtain ⟨b, hb, h1⟩ := hcell 2 (.int .i64 x.w) rfl; cases hb; exact h1
 have e3 : w.cell? ⟨gb, 3, none⟩ = some (.int .i64 x.v) := by
  obtain ⟨b, hb, h1⟩ := hcell 3 (.int .i64 x.v) rfl; cases hb; exact h1
 have HC : Hid (∀ j u, (wtCells l)[j]? = some u -> w.cell? ⟨gb, 4 + j, none⟩ = some u) := fun j u hj => by
  obtain ⟨b, hb, h1⟩ := hcell (4 + j) u (by
   rw [wtCells_cons, List.getElem?_append_right (by show 4 <= 4 + j; omega)]
   show (wtCells l)[4 + j - 4]? = some u
   rw [show 4 + j - 4 = j by omega]; exact hj)
  cases hb; exact h1
 have lm := h.lm
 have lt := h.lt
 have lg : gb < w.heap.size := bLt e0
 have HVS : Hid (p.wv t = .slice (some ⟨gb, 0, none⟩) (s.waits t).length cap) := hvs
 have hft := h.ft t
 rw [hvs, he] at hv
 clear hcell hown h hvs
 have hcl' : l.length + 1 <= cap := hcl
 rw [List.length_cons] at hv
 have y0 : (w.alloc (.cells #[.int .i64 x.c, .int .i64 x.g, .int .i64 x.w, .int .i64 x.v] 176)).cell? ⟨w.heap.size, 0, none⟩ = some (.int .i64 x.c) := by simp
 have y1 : (w.alloc (.cells #[.int .i64 x.c, .int .i64 x.g, .int .i64 x.w, .int .i64 x.v] 176)).cell? ⟨w.heap.size, 1, none⟩ = some (.int .i64 x.g) := by simp
 have y2 : (w.alloc (.cells #[.int .i64 x.c, .int .i64 x.g, .int .i64 x.w, .int .i64 x.v] 176)).cell? ⟨w.heap.size, 2, none⟩ = some (.int .i64 x.w) := by simp
 have y3 : (w.alloc (.cells #[.int .i64 x.c, .int .i64 x.g, .int .i64 x.w, .int .i64 x.v] 176)).cell? ⟨w.heap.size, 3, none⟩ = some (.int .i64 x.v) := by simp
 have bw : Below w.heap.size w (w.alloc (.cells #[.int .i64 x.c, .int .i64 x.g, .int .i64 x.w, .int .i64 x.v] 176)) := bRf.alloc nL _
 have sw : (w.alloc (.cells #[.int .i64 x.c, .int .i64 x.g, .int .i64 x.w, .int .i64 x.v] 176)).heap.size = w.heap.size + 1 := by simp
 obtain ⟨wi, hwi, hwz, hws, hwb⟩ := wtInfo
 go_enter Tryz.func73, Tryz.ntmps73
 go_wp2_with fail
 generalize hw1 : w.alloc (.cells #[.int .i64 x.c, .int .i64 x.g, .int .i64 x.w, .int .i64 x.v] 176) = w1 at *
 replace hm1 := keep_cell bw hm1
 replace hv := keep_cell bw hv
 replace HC : Hid (∀ j u, (wtCells l)[j]? = some u -> w1.cell? ⟨gb, 4 + j, none⟩ = some u) := fun j u hj => keep_cell bw (HC.out j u hj)
 replace hft : w1.frozen? ⟨p.tb, t, none⟩ = false := by rw [bw.frozen lt]; exact hft
 have H1 : Hid (RmAt p s w1) := H0.out.below bw
 rw [HVS.out] at om ot
 clear e0 e1 e2 e3 hw1
 have hml : 0 + l.length <= maxLen := by unfold maxLen; omega
 have hmb : (0 + l.length) * 32 <= 140737488355328 := by omega
 have lm1 : p.mb < w1.heap.size := by omega
 have lt1 : p.tb < w1.heap.size := by omega
 have ll1 : (1 : Int) <= (l.length : Int) + 1 := by omega
 obtain ⟨A, hA, HN⟩ : ∃ A : Addr, (if cap = 1 then some (⟨gb, 0, none⟩ : Addr) else some ⟨gb, 4, none⟩) = some A /\ Hid (∀ j u, (wtCells l)[j]? = some u -> w1.cell? (A.add j) = some u) := by
  by_cases hc : cap = 1
  ·obtain rfl : l = [] := List.length_eq_zero_iff.1 (by omega)
   exact ⟨_, if_pos hc, fun j u hj => by cases hj⟩
  ·refine ⟨_, if_neg hc, fun j u hj => ?_⟩
   rw [Addr.add_lit]
   exact HC.out j u hj
 go_region_law
  ((refine step_append_at _ (by rfl) _ _ _ (by rfl) 0 176 wi _ 4 32 Tryz.underlying99 hwi hwz hws hwb rfl (by omega) (.slice none 0 0) 0 [] (by rfl) (World.ownsRow_nil _ _ _ _)
     A l.length (cap - 1) (wtCells l) (by rfl) (wtCells_length l) (fun j u hj => HN.out j u hj) wtCells_one
     hml hmb (Nat.zero_le _) ?_; intro gg gcap w6 hown6 hgrow hat
    have hm6 : w6.cell? ⟨p.mb, 1, none⟩ = some (.slice (some ⟨p.tb, 0, none⟩) s.threads p.tcap) := (hgrow.cell_far ⟨p.mb, 1, none⟩ (by simp; omega) (by simp [Value.ownBlock])).trans hm1
    have hv6 : w6.cell? ⟨p.tb, t, none⟩ = some (.slice (some ⟨gb, 0, none⟩) (l.length + 1) cap) := (hgrow.cell_far ⟨p.tb, t, none⟩ (by simp; omega) (by simp [Value.ownBlock])).trans hv
    have hf6 : w6.frozen? ⟨p.tb, t, none⟩ = false := (hgrow.frozen_far ⟨p.tb, t, none⟩ (by simp; omega) (by simp [Value.ownBlock])).trans hft))
 all_goals
  obtain ⟨HR, HK⟩ := drained_at H1.out ht hown6 hgrow hat
  replace y0 := HK _ _ _ y0 (by omega)
  replace y1 := HK _ _ _ y1 (by omega)
  replace y2 := HK _ _ _ y2 (by omega)
  replace y3 := HK _ _ _ y3 (by omega)
  have lx : w.heap.size < (w6.setCell ⟨p.tb, t, none⟩ (.slice gg l.length gcap)).heap.size := bLt y0
  clear HK hat hgrow hown6 hm6 hv6 hf6 hm1 hv hft HC HN hwi hwz hws hwb H1
  generalize (w6.setCell ⟨p.tb, t, none⟩ (.slice gg l.length gcap)) = w7 at *
  have PW : (p.withRow t (.slice gg l.length gcap)).wb = p.wb := rfl
  generalize hP : p.withRow t (.slice gg l.length gcap) = P at *
  have HH : Hid (Calls Tryz.prog 46 #[.pointer (some ⟨P.mb, 0, none⟩), .agg #[.int .i64 x.c, .int .i64 x.g]] w7 fun e w' => e = .returned (.bool (s.ar.has x.c x.g)) /\ Below w7.heap.size w7 w') := here_any P (s.setWaits t l) x.c x.g w7 HR.at'
  rw [HR.mb] at HH
  have HS : Hid (RmStep p s w P (s.setWaits t l) w7) := RmStep.of_below bw HR
  clear HR hP
  go_wp2_with fail
 all_goals
  cases hh : s.ar.has x.c x.g
  ·rw [hh] at HH HRR
   have HE : Hid (s.drained t x l = s.setWaits t l) := by show _ = _; rw [Rm.drained, if_neg (by rw [hh]; decide)]
   have HR7 : Hid (r = 7) := HRR.out
   clear hh HRR
   refine HH.out.mono ?_
   rintro e8 w8 ⟨rfl, hb8⟩
   have HS8 := HS.out.below hb8
   clear HH HS hb8 y0 y1 y2 y3
   go_wp2
   go_ret
   exact ⟨by rw [HR7.out]; rfl, P, by rw [HE.out]; exact HS8⟩
  ·rw [hh] at HH HRR
   have HR0 : Hid (r = 0) := HRR.out
   obtain ⟨n, xn, hn, -⟩ := Ar.has_lt hh
   obtain ⟨m, xm⟩ := Int.eq_ofNat_of_zero_le hx.1
   have hm : m < 4 := by omega
   have HE : Hid (s.drained t x l = (s.setWaits t l).setWord n m x.v) := by
    show _ = _
    rw [Rm.drained, if_pos hh, xn, xm]; rfl
   clear hh HRR
   refine HH.out.mono ?_
   rintro e8 w8 ⟨rfl, hb8⟩
   replace y0 := keep_cell hb8 y0
   replace y2 := keep_cell hb8 y2
   replace y3 := keep_cell hb8 y3
   have HS8 : Hid (RmStep p s w P (s.setWaits t l) w8) := HS.out.below hb8
   have lx8 : w.heap.size < w8.heap.size := bLt y0
   clear HH HS hb8 y1
   have A8 := HS8.out.at'
   have hn' : n < (s.setWaits t l).ar.size := hn
   have u0 := A8.mCells
   have u1 := A8.cWords n hn'
   have u2 := A8.words n m hn' hm
   have u3 := A8.fw n m hn'
   have u4 := A8.wcap n hn'
   have u5 := A8.ccap
   have u6 := A8.dw n hn'
   rw [HS8.out.mb] at u0 u6
   rw [xn] at y0
   rw [xm] at y2
   have c1 : (0 : Int) <= (n : Int) := by omega
   have c2 : (n : Int) < (s.setWaits t l).ar.size := by omega
   have c3 : (0 : Int) <= (m : Int) := by omega
   have c4 : (m : Int) < 4 := by omega
   have nx : w.heap.size ≠ P.wb n := fun e => by
    have := H0.out.lw hn
    rw [PW] at e
    omega
   have n1 : p.mb ≠ P.wb n := Ne.symm u6.1
   have n2 : P.cb ≠ P.wb n := Ne.symm u6.2.1
   have lw8 := A8.lw hn'
   have u7 : (w8.cell? ⟨P.wb n, m, none⟩).isSome = true := by rw [u2]; rfl
   have HZ : Hid (RmStep p s w P ((s.setWaits t l).setWord n m x.v) ((w8.setCell ⟨p.wb n, m, none⟩ (.int .i64 x.v)).drew)) :=
    ⟨HS8.out.mb, HS8.out.tb, by rw [<- PW]; exact (A8.setWord n m hn' hm x.v).below bRf.drew, (HS8.out.turns.setCell _ (Or.inr (Or.inr (Or.inr (Or.inl ⟨n, hn, rfl⟩))))).drew, HS8.out.fp⟩
   rw [PW] at u1 u2 u3 u7 lw8 n1 n2 nx
   clear A8 hn' u6 HVS om ot PW
   go_wp2_with fail
   go_region_held3 (fun w' => w'.cell? ⟨p.mb, 0, none⟩ = some (.slice (some ⟨P.cb, 0, none⟩) (s.setWaits t l).ar.size P.ccap) /\ w'.cell? ⟨P.cb, n * 3, none⟩ = some (.slice (some ⟨p.wb n, 0, none⟩) 4 (P.wcap n)) /\ w'.cell? ⟨w.heap.size, 0, none⟩ = some (.int .i64 n) /\ w'.cell? ⟨w.heap.size, 2, none⟩ = some (.int .i64 m) /\ w'.cell? ⟨w.heap.size, 3, none⟩ = some (.int .i64 x.v))
    (first
      | exact ⟨u0, u1, y0, y2, y3⟩
      | (go_split_ands
         refine ⟨cell_ne (by assumption) (Or.inl n1), cell_ne (by assumption) (Or.inl n2), cell_ne (by assumption) (Or.inl nx), cell_ne (by assumption) (Or.inl nx), cell_ne (by assumption) (Or.inl nx)⟩))
    (fail)
   clear u0 u1 u2 u3 u7 y0 y2 y3
   go_wp2
   go_ret
   exact ⟨by rw [HR0.out]; rfl, P, by rw [HE.out]; exact HZ.out⟩
theorem rdrain_gone (p : RmPl) (s : Rm) (t : Nat) (x : Wt) (l : List Wt) (w : World) (h : RmAt p s w) (ht : t < s.threads) (he : s.waits t = x :: l) (hx : 0 <= x.w /\ x.w < 4) (hfew : l.length <= 1000) (hh : s.ar.has x.c x.g = false) :
  Calls Tryz.prog 73 #[.pointer (some ⟨p.mb, 0, none⟩), .int .i64 t] w fun e w' => e = .returned (.int .i64 7) /\ ∃ p', RmStep p s w p' (s.drained t x l) w' :=
 rdrain_walk 7 p s t x l w h ht he hx hfew (by show _ = _; rw [hh]; rfl)
theorem rdrain_done (p : RmPl) (s : Rm) (t : Nat) (x : Wt) (l : List Wt) (w : World) (h : RmAt p s w) (ht : t < s.threads) (he : s.waits t = x :: l) (hx : 0 <= x.w /\ x.w < 4) (hfew : l.length <= 1000) (hh : s.ar.has x.c x.g = true) :
  Calls Tryz.prog 73 #[.pointer (some ⟨p.mb, 0, none⟩), .int .i64 t] w fun e w' => e = .returned (.int .i64 0) /\ ∃ p', RmStep p s w p' (s.drained t x l) w' :=
 rdrain_walk 0 p s t x l w h ht he hx hfew (by show _ = _; rw [hh]; rfl)
end
end Go.Proofs.YtaiigfcfmcicjaaGreatDoor
