import Derived.Test.YtnnlkolhahjokaaGreatDoorB03
import Derived.Lib.QuietBelow
import Derived.OwnWalk
import Derived.RegionTactic
import Derived.BigRegion

/- ArenaC -/
namespace Go.Proofs.YtnnlkolhahjokaaGreatDoor
open Go.RowKit Go.Extern.Stop Go.Stop Go.Extern

def Ar.countTo (s : Ar) (i : Nat) : Nat := ((List.range i).filter s.there).length
def Ar.count (s : Ar) : Nat := s.countTo s.size
def Ar.give (s : Ar) (c : Nat) : Ar := { s with words := fun j i => if j = c ∧ i < 4 then 0 else s.words j i, there := fun j => if j = c then true else s.there j, given := fun j => if j = c then s.given c + 1 else s.given j }

def Ar.setGiven (s : Ar) (c : Nat) (g : Nat) : Ar := { s with given := fun j => if j = c then g else s.given j }

theorem ArAt.setGiven {b o : Nat} {s : Ar} {w : World} (h : ArAt b o s w) (c : Nat) (hc : c < 64) (g : Nat) (hg : g < 4611686018427387904) : ArAt b o (s.setGiven c g) (w.setCell ⟨b, o + 321 + c, none⟩ (.int .i64 g)) where
  small := h.small
  size := h.other h.size (by omega)
  words j k hj hk := h.other (h.words j k hj hk) (by omega)
  range := h.range
  there j hj := h.other (h.there j hj) (by omega)
  given j hj := by
    by_cases e : j = c
    · subst e
      simp only [Ar.setGiven, if_true]
      exact World.cell?_setCell_same _ _ _ (h.given j hj)
    · simp only [Ar.setGiven, if_neg e]
      exact h.other (h.given j hj) (by omega)
  bound j := by
    simp only [Ar.setGiven]
    split
    · exact hg
    · exact h.bound j
  frozen k hk := by rw [World.frozen?_setCell]; exact h.frozen k hk

theorem Ar.give_eq (s : Ar) (n : Nat) : (((((s.setWord n 0 0).setWord n 1 0).setWord n 2 0).setWord n 3 0).setThere n true).setGiven n (s.given n + 1) = s.give n := by
  simp only [Ar.setGiven, Ar.setThere, Ar.setWord, Ar.give, Ar.mk.injEq, true_and, and_true]
  funext j i
  by_cases hj : j = n
  · subst hj
    by_cases h4 : i < 4
    · match i, h4 with
      | 0, _ => simp
      | 1, _ => simp
      | 2, _ => simp
      | 3, _ => simp
    · rw [if_neg (fun h => by omega), if_neg (fun h => by omega), if_neg (fun h => by omega), if_neg (fun h => by omega), if_neg (fun h => by omega)]
  · rw [if_neg (fun h => hj h.1), if_neg (fun h => hj h.1), if_neg (fun h => hj h.1), if_neg (fun h => hj h.1), if_neg (fun h => hj h.1)]

set_option maxHeartbeats 1000000 in
theorem give_any (b o : Nat) (s : Ar) (n : Nat) (w : World) (h : ArAt b o s w) (hn : n < 64) (hg : s.given n + 1 < 4611686018427387904) :
    Calls Tryz.prog 63 #[.pointer (some ⟨b, o, none⟩), .int .i64 n] w fun e w' => e = .returned (.agg #[.int .i64 n, .int .i64 (s.given n)]) ∧ ArAt b o (s.give n) w' ∧ Turns (arPl b o) w w' := by
  have n64 : (n : Int) < 64 := by omega
  have hl := h.lt
  have hgv := h.given n hn
  have ht := h.there n hn
  have hw0 : w.cell? ⟨b, o + 1 + n * 4, none⟩ = some (.int .u32 (s.words n 0)) := h.words n 0 hn (by decide)
  have hw1 := h.words n 1 hn (by decide)
  have hw2 := h.words n 2 hn (by decide)
  have hw3 := h.words n 3 hn (by decide)
  have f0 : w.frozen? ⟨b, o + 1 + n * 4, none⟩ = false := by have := h.frozen (1 + n * 4) (by omega); simpa [Nat.add_assoc] using this
  have f1 : w.frozen? ⟨b, o + 1 + n * 4 + 1, none⟩ = false := by have := h.frozen (1 + n * 4 + 1) (by omega); simpa [Nat.add_assoc] using this
  have f2 : w.frozen? ⟨b, o + 1 + n * 4 + 2, none⟩ = false := by have := h.frozen (1 + n * 4 + 2) (by omega); simpa [Nat.add_assoc] using this
  have f3 : w.frozen? ⟨b, o + 1 + n * 4 + 3, none⟩ = false := by have := h.frozen (1 + n * 4 + 3) (by omega); simpa [Nat.add_assoc] using this
  have ft : w.frozen? ⟨b, o + 257 + n, none⟩ = false := by have := h.frozen (257 + n) (by omega); simpa [Nat.add_assoc] using this
  have fg : w.frozen? ⟨b, o + 321 + n, none⟩ = false := by have := h.frozen (321 + n) (by omega); simpa [Nat.add_assoc] using this
  go_enter Tryz.func63, Tryz.ntmps63
  go_wp2
  have hA : ArAt b o (((((s.setWord n 0 0).setWord n 1 0).setWord n 2 0).setWord n 3 0).setThere n true) (((((((w.setCell ⟨b, o + 1 + n * 4, none⟩ (.int .u32 0)).setCell ⟨b, o + 1 + n * 4 + 1, none⟩ (.int .u32 0)).setCell ⟨b, o + 1 + n * 4 + 2, none⟩ (.int .u32 0)).setCell ⟨b, o + 1 + n * 4 + 3, none⟩ (.int .u32 0)).setCell ⟨b, o + 257 + n, none⟩ (.bool true)).alloc (.cells #[.int .i64 0, .int .i64 0] 65)).alloc (.cells #[.int .i64 n, .int .i64 (s.given n)] 65)) :=
    ((((((h.setWord n 0 hn (by decide) 0 (by decide)).setWord n 1 hn (by decide) 0 (by decide)).setWord n 2 hn (by decide) 0 (by decide)).setWord n 3 hn (by decide) 0 (by decide)).setThere n hn true).alloc _).alloc _
  have hT : Turns (arPl b o) w (((((((w.setCell ⟨b, o + 1 + n * 4, none⟩ (.int .u32 0)).setCell ⟨b, o + 1 + n * 4 + 1, none⟩ (.int .u32 0)).setCell ⟨b, o + 1 + n * 4 + 2, none⟩ (.int .u32 0)).setCell ⟨b, o + 1 + n * 4 + 3, none⟩ (.int .u32 0)).setCell ⟨b, o + 257 + n, none⟩ (.bool true)).alloc (.cells #[.int .i64 0, .int .i64 0] 65)).alloc (.cells #[.int .i64 n, .int .i64 (s.given n)] 65)) :=
    ((((((((Turns.refl _ w).setCell _ ⟨rfl, by omega, by omega⟩).setCell _ ⟨rfl, by omega, by omega⟩).setCell _ ⟨rfl, by omega, by omega⟩).setCell _ ⟨rfl, by omega, by omega⟩).setCell _ ⟨rfl, by omega, by omega⟩).alloc _).alloc _)
  have r0 : (((((((w.setCell ⟨b, o + 1 + n * 4, none⟩ (.int .u32 0)).setCell ⟨b, o + 1 + n * 4 + 1, none⟩ (.int .u32 0)).setCell ⟨b, o + 1 + n * 4 + 2, none⟩ (.int .u32 0)).setCell ⟨b, o + 1 + n * 4 + 3, none⟩ (.int .u32 0)).setCell ⟨b, o + 257 + n, none⟩ (.bool true)).alloc (.cells #[.int .i64 0, .int .i64 0] 65)).alloc (.cells #[.int .i64 n, .int .i64 (s.given n)] 65)).cell? ⟨w.heap.size + 1, 0, none⟩ = some (.int .i64 n) := by go_simp
  have r1 : (((((((w.setCell ⟨b, o + 1 + n * 4, none⟩ (.int .u32 0)).setCell ⟨b, o + 1 + n * 4 + 1, none⟩ (.int .u32 0)).setCell ⟨b, o + 1 + n * 4 + 2, none⟩ (.int .u32 0)).setCell ⟨b, o + 1 + n * 4 + 3, none⟩ (.int .u32 0)).setCell ⟨b, o + 257 + n, none⟩ (.bool true)).alloc (.cells #[.int .i64 0, .int .i64 0] 65)).alloc (.cells #[.int .i64 n, .int .i64 (s.given n)] 65)).cell? ⟨w.heap.size + 1, 1, none⟩ = some (.int .i64 (s.given n)) := by go_simp
  have z0 : (((((((w.setCell ⟨b, o + 1 + n * 4, none⟩ (.int .u32 0)).setCell ⟨b, o + 1 + n * 4 + 1, none⟩ (.int .u32 0)).setCell ⟨b, o + 1 + n * 4 + 2, none⟩ (.int .u32 0)).setCell ⟨b, o + 1 + n * 4 + 3, none⟩ (.int .u32 0)).setCell ⟨b, o + 257 + n, none⟩ (.bool true)).alloc (.cells #[.int .i64 0, .int .i64 0] 65)).alloc (.cells #[.int .i64 n, .int .i64 (s.given n)] 65)).cell? ⟨w.heap.size, 0, none⟩ = some (.int .i64 0) := by go_simp
  have z1 : (((((((w.setCell ⟨b, o + 1 + n * 4, none⟩ (.int .u32 0)).setCell ⟨b, o + 1 + n * 4 + 1, none⟩ (.int .u32 0)).setCell ⟨b, o + 1 + n * 4 + 2, none⟩ (.int .u32 0)).setCell ⟨b, o + 1 + n * 4 + 3, none⟩ (.int .u32 0)).setCell ⟨b, o + 257 + n, none⟩ (.bool true)).alloc (.cells #[.int .i64 0, .int .i64 0] 65)).alloc (.cells #[.int .i64 n, .int .i64 (s.given n)] 65)).cell? ⟨w.heap.size, 1, none⟩ = some (.int .i64 0) := by go_simp
  have y0 : (((((((w.setCell ⟨b, o + 1 + n * 4, none⟩ (.int .u32 0)).setCell ⟨b, o + 1 + n * 4 + 1, none⟩ (.int .u32 0)).setCell ⟨b, o + 1 + n * 4 + 2, none⟩ (.int .u32 0)).setCell ⟨b, o + 1 + n * 4 + 3, none⟩ (.int .u32 0)).setCell ⟨b, o + 257 + n, none⟩ (.bool true)).alloc (.cells #[.int .i64 0, .int .i64 0] 65)).alloc (.cells #[.int .i64 n, .int .i64 (s.given n)] 65)).frozen? ⟨w.heap.size, 0, none⟩ = false := by go_simp
  have y1 : (((((((w.setCell ⟨b, o + 1 + n * 4, none⟩ (.int .u32 0)).setCell ⟨b, o + 1 + n * 4 + 1, none⟩ (.int .u32 0)).setCell ⟨b, o + 1 + n * 4 + 2, none⟩ (.int .u32 0)).setCell ⟨b, o + 1 + n * 4 + 3, none⟩ (.int .u32 0)).setCell ⟨b, o + 257 + n, none⟩ (.bool true)).alloc (.cells #[.int .i64 0, .int .i64 0] 65)).alloc (.cells #[.int .i64 n, .int .i64 (s.given n)] 65)).frozen? ⟨w.heap.size, 1, none⟩ = false := by go_simp
  have hgv5 : (((((((w.setCell ⟨b, o + 1 + n * 4, none⟩ (.int .u32 0)).setCell ⟨b, o + 1 + n * 4 + 1, none⟩ (.int .u32 0)).setCell ⟨b, o + 1 + n * 4 + 2, none⟩ (.int .u32 0)).setCell ⟨b, o + 1 + n * 4 + 3, none⟩ (.int .u32 0)).setCell ⟨b, o + 257 + n, none⟩ (.bool true)).alloc (.cells #[.int .i64 0, .int .i64 0] 65)).alloc (.cells #[.int .i64 n, .int .i64 (s.given n)] 65)).cell? ⟨b, o + 321 + n, none⟩ = some (.int .i64 (s.given n)) := hA.given n hn
  have fg5 : (((((((w.setCell ⟨b, o + 1 + n * 4, none⟩ (.int .u32 0)).setCell ⟨b, o + 1 + n * 4 + 1, none⟩ (.int .u32 0)).setCell ⟨b, o + 1 + n * 4 + 2, none⟩ (.int .u32 0)).setCell ⟨b, o + 1 + n * 4 + 3, none⟩ (.int .u32 0)).setCell ⟨b, o + 257 + n, none⟩ (.bool true)).alloc (.cells #[.int .i64 0, .int .i64 0] 65)).alloc (.cells #[.int .i64 n, .int .i64 (s.given n)] 65)).frozen? ⟨b, o + 321 + n, none⟩ = false := by have := hA.frozen (321 + n) (by omega); simpa [Nat.add_assoc] using this
  have hgi : ((s.given n : Nat) : Int) + 1 < 4611686018427387904 := by omega
  clear hw0 hw1 hw2 hw3 f0 f1 f2 f3 ft fg ht hgv
  generalize hw5 : ((((((w.setCell ⟨b, o + 1 + n * 4, none⟩ (.int .u32 0)).setCell ⟨b, o + 1 + n * 4 + 1, none⟩ (.int .u32 0)).setCell ⟨b, o + 1 + n * 4 + 2, none⟩ (.int .u32 0)).setCell ⟨b, o + 1 + n * 4 + 3, none⟩ (.int .u32 0)).setCell ⟨b, o + 257 + n, none⟩ (.bool true)).alloc (.cells #[.int .i64 0, .int .i64 0] 65)).alloc (.cells #[.int .i64 n, .int .i64 (s.given n)] 65) = w5 at *
  clear hw5
  go_region
  go_wp2
  refine bodyPost_ret (v := .agg #[.int .i64 n, .int .i64 (s.given n)]) (by simp only [results, Tryz.results63]; go_simp) rfl ⟨rfl, ?_, ?_⟩
  · have h6 := hA.setGiven n hn (s.given n + 1) hg
    rw [Ar.give_eq s n] at h6
    exact ((h6.apart _ (Nat.ne_of_gt hl)).apart _ (Nat.ne_of_gt hl)).drew
  · exact (((hT.setCell _ ⟨rfl, by omega, by omega⟩).setNew _ (Nat.le_refl _)).setNew _ (Nat.le_refl _)).drew

theorem alloc_full (a : Nat → Addr) (b o : Nat) (s : Ar) (w : World) (hE : EnvM a w) (h : ArAt b o s w) (hf : ∀ j, j < s.size → s.there j = true) :
    Calls Tryz.prog 44 #[.pointer (some ⟨b, o, none⟩)] w fun e w' => e = .returned (.tuple #[.agg #[.int .i64 0, .int .i64 0], errAt (a 5)]) ∧ Below w.heap.size w w' := by
  have hz := h.small
  have hl := h.lt
  have hge : 7 < w.heap.size := hE.glt (i := 5) (by decide)
  have h1 := h.alloc (.cells #[.int .i64 0, .int .i64 0] 65)
  have hba : Below w.heap.size w (w.alloc (.cells #[.int .i64 0, .int .i64 0] 65)) := (Below.refl _ _).alloc (Nat.le_refl _) _
  have c5 : (w.alloc (.cells #[.int .i64 0, .int .i64 0] 65)).cell? ⟨7, 0, none⟩ = some (errAt (a 5)) := (hE.below hba.block).cell 5 (by decide)
  have z0 : (w.alloc (.cells #[.int .i64 0, .int .i64 0] 65)).cell? ⟨w.heap.size, 0, none⟩ = some (.int .i64 0) := by simp
  have z1 : (w.alloc (.cells #[.int .i64 0, .int .i64 0] 65)).cell? ⟨w.heap.size, 1, none⟩ = some (.int .i64 0) := by simp
  have y0 : (w.alloc (.cells #[.int .i64 0, .int .i64 0] 65)).frozen? ⟨w.heap.size, 0, none⟩ = false := by simp
  have y1 : (w.alloc (.cells #[.int .i64 0, .int .i64 0] 65)).frozen? ⟨w.heap.size, 1, none⟩ = false := by simp
  generalize hw : w.alloc (.cells #[.int .i64 0, .int .i64 0] 65) = w1 at *
  go_enter Tryz.func44, Tryz.ntmps44
  go_wp2_with fail
  refine (cells_any b o s _ h1).mono ?_
  rintro e0 w2 ⟨rfl, rfl⟩
  go_wp2_with fail
  go_loop [4, 7] (fun _ i => ∃ j : Nat, j ≤ s.size ∧ i = .int .i64 j) (fun _ i => s.size - (intOf i).toNat)
  case atStart => exact ⟨0, Nat.zero_le _, rfl⟩
  case round =>
    obtain ⟨j, hj, rfl⟩ := hrel
    by_cases hlt : j < s.size
    · have ht := h1.there j (by omega)
      rw [hf j hlt] at ht
      have j64 : (j : Int) < 64 := by omega
      go_wp2
      go_round
      case rel => exact ⟨j + 1, by omega, by go_num⟩
      case measure => simp [intOf]; omega
    · obtain rfl : j = s.size := by omega
      go_wp2
      go_region
      go_wp2
      refine bodyPost_ret (v := .tuple #[.agg #[.int .i64 0, .int .i64 0], errAt (a 5)]) (by simp only [results, Tryz.results44]; go_simp) rfl ⟨rfl, ?_⟩
      exact ((hba.setCell (Nat.le_refl _) _).setCell (Nat.le_refl _) _).drew

set_option maxHeartbeats 1000000 in
theorem alloc_some (b o : Nat) (s : Ar) (c : Nat) (w : World) (h : ArAt b o s w) (hc : c < s.size) (hf : ∀ j, j < c → s.there j = true) (ht : s.there c = false) (hg : s.given c + 1 < 4611686018427387904) :
    Calls Tryz.prog 44 #[.pointer (some ⟨b, o, none⟩)] w fun e w' => e = .returned (.tuple #[.agg #[.int .i64 c, .int .i64 (s.given c)], .nilIface]) ∧ ArAt b o (s.give c) w' ∧ Turns (arPl b o) w w' := by
  have hz := h.small
  have hl := h.lt
  have h1 := h.alloc (.cells #[.int .i64 0, .int .i64 0] 65)
  have hba : Below w.heap.size w (w.alloc (.cells #[.int .i64 0, .int .i64 0] 65)) := (Below.refl _ _).alloc (Nat.le_refl _) _
  have z0 : (w.alloc (.cells #[.int .i64 0, .int .i64 0] 65)).cell? ⟨w.heap.size, 0, none⟩ = some (.int .i64 0) := by simp
  have z1 : (w.alloc (.cells #[.int .i64 0, .int .i64 0] 65)).cell? ⟨w.heap.size, 1, none⟩ = some (.int .i64 0) := by simp
  have y0 : (w.alloc (.cells #[.int .i64 0, .int .i64 0] 65)).frozen? ⟨w.heap.size, 0, none⟩ = false := by simp
  have y1 : (w.alloc (.cells #[.int .i64 0, .int .i64 0] 65)).frozen? ⟨w.heap.size, 1, none⟩ = false := by simp
  generalize hw : w.alloc (.cells #[.int .i64 0, .int .i64 0] 65) = w1 at *
  go_enter Tryz.func44, Tryz.ntmps44
  go_wp2_with fail
  refine (cells_any b o s _ h1).mono ?_
  rintro e0 w2 ⟨rfl, rfl⟩
  go_wp2_with fail
  go_loop [4, 7] (fun _ i => ∃ j : Nat, j ≤ c ∧ i = .int .i64 j) (fun _ i => s.size - (intOf i).toNat)
  case atStart => exact ⟨0, Nat.zero_le _, rfl⟩
  case round =>
    obtain ⟨j, hj, rfl⟩ := hrel
    have hlt : j < s.size := by omega
    have htj := h1.there j (by omega)
    have j64 : (j : Int) < 64 := by omega
    by_cases hlc : j < c
    · rw [hf j hlc] at htj
      go_wp2
      go_round
      case rel => exact ⟨j + 1, by omega, by go_num⟩
      case measure => simp [intOf]; omega
    · obtain rfl : j = c := by omega
      rw [ht] at htj
      go_wp2_with fail
      refine (give_any b o s j _ h1 (by omega) hg).mono ?_
      rintro e1 w3 ⟨rfl, h3, t3⟩
      have hzl : w.heap.size < w2.heap.size := World.block_lt_of_cell? _ _ z0
      have r0 : w3.cell? ⟨w.heap.size, 0, none⟩ = some (.int .i64 0) := t3.keep z0 (fun h => by have := h.1; omega)
      have r1 : w3.cell? ⟨w.heap.size, 1, none⟩ = some (.int .i64 0) := t3.keep z1 (fun h => by have := h.1; omega)
      have x0 : w3.frozen? ⟨w.heap.size, 0, none⟩ = false := by rw [t3.frozen _ _ hzl (fun h => by have := h.1; omega)]; exact y0
      have x1 : w3.frozen? ⟨w.heap.size, 1, none⟩ = false := by rw [t3.frozen _ _ hzl (fun h => by have := h.1; omega)]; exact y1
      have T3 : Turns (arPl b o) w w3 := (Turns.of_below hba).trans t3
      clear z0 z1 y0 y1
      go_wp2
      refine bodyPost_ret (v := .tuple #[.agg #[.int .i64 j, .int .i64 (s.given j)], .nilIface]) (by simp only [results, Tryz.results44]; go_simp) rfl ⟨rfl, ?_, ?_⟩
      · exact (h3.apart _ (Nat.ne_of_gt hl)).apart _ (Nat.ne_of_gt hl)
      · exact (T3.setNew _ (Nat.le_refl _)).setNew _ (Nat.le_refl _)
end Go.Proofs.YtnnlkolhahjokaaGreatDoor

/- ArenaD -/
namespace Go.Proofs.YtnnlkolhahjokaaGreatDoor
open Go.RowKit Go.Extern.Stop Go.Stop Go.Extern

theorem new_bad (a : Nat → Addr) (c : Int) (w : World) (hE : EnvM a w) (hc : ¬ (1 ≤ c ∧ c ≤ 64)) :
    Calls Tryz.prog 25 #[.int .i64 c] w fun e w' => e = .returned (.tuple #[.pointer none, errAt (a 1)]) ∧ Below w.heap.size w w' := by
  have c1 : w.cell? ⟨0, 0, none⟩ = some (errAt (a 1)) := hE.cell 1 (by decide)
  by_cases h1 : c < 1
  · clear hc
    go_enter Tryz.func25, Tryz.ntmps25
    go_wp2
    go_quiet (fail)
    go_wp2
    go_ret2
    exact ⟨rfl, below_dN (Below.refl _ _) _⟩
  · have h2 : 64 < c := by omega
    clear hc
    go_enter Tryz.func25, Tryz.ntmps25
    go_wp2
    go_quiet (fail)
    go_wp2
    go_ret2
    exact ⟨rfl, below_dN (Below.refl _ _) _⟩

theorem zero84 : Tryz.zeroCells63 = ((.int .i64 0 :: List.replicate 256 (.int .u32 0)) ++ List.replicate 64 (.bool false) ++ List.replicate 64 (.int .i64 0) : List Value).toArray := by kernel_rfl
theorem rows_len (x a b c : Value) (m n p : Nat) : ((x :: List.replicate m a) ++ List.replicate n b ++ List.replicate p c : List Value).length = m + 1 + n + p := by simp; omega
theorem rows_a (x a b c : Value) (m n p k : Nat) (h1 : 1 ≤ k) (h2 : k < m + 1) : ((x :: List.replicate m a) ++ List.replicate n b ++ List.replicate p c : List Value)[k]? = some a := by
  rw [List.getElem?_append_left (by simp; omega), List.getElem?_append_left (by simp; omega), List.getElem?_cons, if_neg (by omega), List.getElem?_replicate, if_pos (by omega)]
theorem rows_b (x a b c : Value) (m n p k : Nat) (h1 : m + 1 ≤ k) (h2 : k < m + 1 + n) : ((x :: List.replicate m a) ++ List.replicate n b ++ List.replicate p c : List Value)[k]? = some b := by
  rw [List.getElem?_append_left (by simp; omega), List.getElem?_append_right (by simp; omega), List.getElem?_replicate, if_pos (by simp; omega)]
theorem rows_c (x a b c : Value) (m n p k : Nat) (h1 : m + 1 + n ≤ k) (h2 : k < m + 1 + n + p) : ((x :: List.replicate m a) ++ List.replicate n b ++ List.replicate p c : List Value)[k]? = some c := by
  rw [List.getElem?_append_right (by simp; omega), List.getElem?_replicate, if_pos (by simp; omega)]
theorem zero84_size : Tryz.zeroCells63.size = 385 := by
  rw [zero84, List.size_toArray, rows_len]
theorem zero84_word (k : Nat) (h1 : 1 ≤ k) (h2 : k < 257) : Tryz.zeroCells63[k]? = some (.int .u32 0) := by
  rw [zero84, List.getElem?_toArray, rows_a _ _ _ _ 256 64 64 k h1 h2]
theorem zero84_there (k : Nat) (h1 : 257 ≤ k) (h2 : k < 321) : Tryz.zeroCells63[k]? = some (.bool false) := by
  rw [zero84, List.getElem?_toArray, rows_b _ _ _ _ 256 64 64 k h1 h2]
theorem zero84_given (k : Nat) (h1 : 321 ≤ k) (h2 : k < 385) : Tryz.zeroCells63[k]? = some (.int .i64 0) := by
  rw [zero84, List.getElem?_toArray, rows_c _ _ _ _ 256 64 64 k h1 h2]

theorem ArAt.fresh (c : Nat) (w : World) (h2 : c ≤ 64) : ArAt w.heap.size 0 ⟨c, fun _ _ => 0, fun _ => false, fun _ => 0⟩ (w.alloc (.cells (Tryz.zeroCells63.setIfInBounds 0 (.int .i64 c)) 63)) where
  small := h2
  size := by
    rw [World.cell?_alloc_new, Array.getElem?_setIfInBounds, if_pos rfl, if_pos (by rw [zero84_size]; decide)]
  words j k hj hk := by
    rw [World.cell?_alloc_new, Array.getElem?_setIfInBounds, if_neg (by omega), zero84_word _ (by omega) (by omega)]
  range _ _ := ⟨Int.le_refl _, by show (0 : Int) < 4294967296; decide⟩
  there j hj := by
    rw [World.cell?_alloc_new, Array.getElem?_setIfInBounds, if_neg (by omega), zero84_there _ (by omega) (by omega)]
  given j hj := by
    rw [World.cell?_alloc_new, Array.getElem?_setIfInBounds, if_neg (by omega), zero84_given _ (by omega) (by omega)]
    rfl
  bound _ := by show 0 < 4611686018427387904; decide
  frozen k hk := World.frozen?_alloc_new _ _ _ _

theorem new_ok (c : Nat) (w : World) (h1 : 1 ≤ c) (h2 : c ≤ 64) :
    Calls Tryz.prog 25 #[.int .i64 c] w fun e w' => e = .returned (.tuple #[.pointer (some ⟨w.heap.size, 0, none⟩), .nilIface]) ∧ ArAt w.heap.size 0 ⟨c, fun _ _ => 0, fun _ => false, fun _ => 0⟩ w' ∧ Below w.heap.size w w' := by
  have i1 : 1 ≤ (c : Int) := by omega
  have i2 : (c : Int) ≤ 64 := by omega
  go_enter Tryz.func25, Tryz.ntmps25
  go_wp2
  go_ret2
  exact ⟨rfl, ArAt.fresh c w h2, (Below.refl _ _).alloc (Nat.le_refl _) _⟩

end Go.Proofs.YtnnlkolhahjokaaGreatDoor

/- RefA -/
namespace Go.Proofs.YtnnlkolhahjokaaGreatDoor
open Go.RowKit Go.Extern.Stop Go.Stop Go.Extern Go.Sort

structure Wt where
  c : Int
  g : Int
  w : Int
  v : Int

structure Rm where
  ar : Ar
  threads : Nat
  waits : Nat → List Wt

def Wt.cells (x : Wt) : List Value := [.int .i64 x.c, .int .i64 x.g, .int .i64 x.w, .int .i64 x.v]
def wtCells (l : List Wt) : List Value := l.flatMap Wt.cells

structure RmPl where
  mb : Nat
  cb : Nat
  tb : Nat
  ccap : Nat
  tcap : Nat
  wb : Nat → Nat
  wcap : Nat → Nat
  wv : Nat → Value

def RmPl.fp (p : RmPl) (s : Rm) (k : Nat) : Prop :=
  k = p.mb ∨ k = p.cb ∨ k = p.tb ∨ (∃ c, c < s.ar.size ∧ k = p.wb c) ∨ (∃ t, t < s.threads ∧ (p.wv t).ownBlock = some k)

end Go.Proofs.YtnnlkolhahjokaaGreatDoor
