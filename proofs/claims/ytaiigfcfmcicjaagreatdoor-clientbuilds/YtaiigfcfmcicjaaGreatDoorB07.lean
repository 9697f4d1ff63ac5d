import Derived.Test.YtaiigfcfmcicjaaGreatDoorB06
import Derived.BigQuiet
import Derived.Deep.OwnRows

/- RefC -/
namespace Go.Proofs.YtaiigfcfmcicjaaGreatDoor
open Go.RowKit

def Rm.setThere (s : Rm) (c : Nat) (t : Bool) : Rm := { s with ar := s.ar.setThere c t }
def Rm.setWord (s : Rm) (c k : Nat) (v : Int) : Rm := { s with ar := s.ar.setWord c k v }
def Rm.setGiven (s : Rm) (c g : Nat) : Rm := { s with ar := s.ar.setGiven c g }
def Ar.zero (s : Ar) (c : Nat) : Ar := { s with words := fun j k => if j = c ∧ k < 4 then 0 else s.words j k }
def Rm.zero (s : Rm) (c : Nat) : Rm := { s with ar := s.ar.zero c }
def Rm.give (s : Rm) (c : Nat) : Rm := { s with ar := s.ar.give c }
def RmPl.withWords (p : RmPl) (c b k : Nat) : RmPl := { p with wb := fun j => if j = c then b else p.wb j, wcap := fun j => if j = c then k else p.wcap j }

theorem Rm.give_eq (s : Rm) (c : Nat) : ((s.zero c).setGiven c (s.ar.given c + 1)).setThere c true = s.give c := rfl

theorem RmAt.setThere {p : RmPl} {s : Rm} {w : World} (h : RmAt p s w) (c : Nat) (hc : c < s.ar.size) (t : Bool) : RmAt p (s.setThere c t) (w.setCell ⟨p.cb, c * 3 + 2, none⟩ (.bool t)) where
  small := h.small
  few := h.few
  mCells := cell_ne h.mCells (Or.inl h.d1)
  mWaits := cell_ne h.mWaits (Or.inl h.d1)
  ccap := h.ccap
  tcap := h.tcap
  cWords j hj := cell_ne (h.cWords j hj) (Or.inr (by omega))
  cTimes j hj := cell_ne (h.cTimes j hj) (Or.inr (by omega))
  cHere j hj := by
    by_cases e : j = c
    · subst e
      simp only [Rm.setThere, Ar.setThere, if_true]
      exact World.cell?_setCell_same _ _ _ (h.cHere j hj)
    · simp only [Rm.setThere, Ar.setThere, if_neg e]
      exact cell_ne (h.cHere j hj) (Or.inr (by omega))
  wcap := h.wcap
  words j k hj hk := cell_ne (h.words j k hj hk) (Or.inl (h.dw j hj).2.1)
  bound := h.bound
  waits u hu := ⟨cell_ne (h.waits u hu).1 (Or.inl (Ne.symm h.d3)), ownsRow_block (h.waits u hu).2 fun k hk => Below.heap_setCell _ _ _ _ (h.dv u k hu hk).2.1⟩
  fm o := by rw [World.frozen?_setCell]; exact h.fm o
  fc o := by rw [World.frozen?_setCell]; exact h.fc o
  ft o := by rw [World.frozen?_setCell]; exact h.ft o
  fw j o hj := by rw [World.frozen?_setCell]; exact h.fw j o hj
  lc := by rw [World.size_setCell]; exact h.lc
  lt := by rw [World.size_setCell]; exact h.lt
  d1 := h.d1
  d2 := h.d2
  d3 := h.d3
  dw := h.dw
  dwi := h.dwi
  dv := h.dv
  dvi := h.dvi

theorem RmAt.setGiven {p : RmPl} {s : Rm} {w : World} (h : RmAt p s w) (c : Nat) (hc : c < s.ar.size) (g : Nat) (hg : g < 4611686018427387904) : RmAt p (s.setGiven c g) (w.setCell ⟨p.cb, c * 3 + 1, none⟩ (.int .i64 g)) where
  small := h.small
  few := h.few
  mCells := cell_ne h.mCells (Or.inl h.d1)
  mWaits := cell_ne h.mWaits (Or.inl h.d1)
  ccap := h.ccap
  tcap := h.tcap
  cWords j hj := cell_ne (h.cWords j hj) (Or.inr (by omega))
  cTimes j hj := by
    by_cases e : j = c
    · subst e
      simp only [Rm.setGiven, Ar.setGiven, if_true]
      exact World.cell?_setCell_same _ _ _ (h.cTimes j hj)
    · simp only [Rm.setGiven, Ar.setGiven, if_neg e]
      exact cell_ne (h.cTimes j hj) (Or.inr (by omega))
  cHere j hj := cell_ne (h.cHere j hj) (Or.inr (by omega))
  wcap := h.wcap
  words j k hj hk := cell_ne (h.words j k hj hk) (Or.inl (h.dw j hj).2.1)
  bound j := by
    simp only [Rm.setGiven, Ar.setGiven]
    split
    · exact hg
    · exact h.bound j
  waits u hu := ⟨cell_ne (h.waits u hu).1 (Or.inl (Ne.symm h.d3)), ownsRow_block (h.waits u hu).2 fun k hk => Below.heap_setCell _ _ _ _ (h.dv u k hu hk).2.1⟩
  fm o := by rw [World.frozen?_setCell]; exact h.fm o
  fc o := by rw [World.frozen?_setCell]; exact h.fc o
  ft o := by rw [World.frozen?_setCell]; exact h.ft o
  fw j o hj := by rw [World.frozen?_setCell]; exact h.fw j o hj
  lc := by rw [World.size_setCell]; exact h.lc
  lt := by rw [World.size_setCell]; exact h.lt
  d1 := h.d1
  d2 := h.d2
  d3 := h.d3
  dw := h.dw
  dwi := h.dwi
  dv := h.dv
  dvi := h.dvi

theorem RmAt.setWord {p : RmPl} {s : Rm} {w : World} (h : RmAt p s w) (c m : Nat) (hc : c < s.ar.size) (hm : m < 4) (v : Int) : RmAt p (s.setWord c m v) (w.setCell ⟨p.wb c, m, none⟩ (.int .i64 v)) where
  small := h.small
  few := h.few
  mCells := cell_ne h.mCells (Or.inl (Ne.symm (h.dw c hc).1))
  mWaits := cell_ne h.mWaits (Or.inl (Ne.symm (h.dw c hc).1))
  ccap := h.ccap
  tcap := h.tcap
  cWords j hj := cell_ne (h.cWords j hj) (Or.inl (Ne.symm (h.dw c hc).2.1))
  cTimes j hj := cell_ne (h.cTimes j hj) (Or.inl (Ne.symm (h.dw c hc).2.1))
  cHere j hj := cell_ne (h.cHere j hj) (Or.inl (Ne.symm (h.dw c hc).2.1))
  wcap := h.wcap
  words j k hj hk := by
    by_cases e : j = c ∧ k = m
    · obtain ⟨rfl, rfl⟩ := e
      simp only [Rm.setWord, Ar.setWord, and_self, if_true]
      exact World.cell?_setCell_same _ _ _ (h.words j k hj hk)
    · simp only [Rm.setWord, Ar.setWord, if_neg e]
      by_cases ej : j = c
      · subst ej
        exact cell_ne (h.words j k hj hk) (Or.inr (fun ek => e ⟨rfl, ek⟩))
      · exact cell_ne (h.words j k hj hk) (Or.inl (h.dwi j c hj hc ej))
  bound := h.bound
  waits u hu := ⟨cell_ne (h.waits u hu).1 (Or.inl (Ne.symm (h.dw c hc).2.2)), ownsRow_block (h.waits u hu).2 fun k hk => Below.heap_setCell _ _ _ _ ((h.dv u k hu hk).2.2.2 c hc)⟩
  fm o := by rw [World.frozen?_setCell]; exact h.fm o
  fc o := by rw [World.frozen?_setCell]; exact h.fc o
  ft o := by rw [World.frozen?_setCell]; exact h.ft o
  fw j o hj := by rw [World.frozen?_setCell]; exact h.fw j o hj
  lc := by rw [World.size_setCell]; exact h.lc
  lt := by rw [World.size_setCell]; exact h.lt
  d1 := h.d1
  d2 := h.d2
  d3 := h.d3
  dw := h.dw
  dwi := h.dwi
  dv := h.dv
  dvi := h.dvi

theorem RmAt.newWords {p : RmPl} {s : Rm} {w : World} (h : RmAt p s w) (c : Nat) (hc : c < s.ar.size) :
    RmAt (p.withWords c w.heap.size 4) (s.zero c) ((w.alloc (.cells #[.int .i64 0, .int .i64 0, .int .i64 0, .int .i64 0] 3)).setCell ⟨p.cb, c * 3, none⟩ (.slice (some ⟨w.heap.size, 0, none⟩) 4 4)) := by
  have h1 := h.alloc (.cells #[.int .i64 0, .int .i64 0, .int .i64 0, .int .i64 0] 3)
  have lm := h.lm
  have lc := h.lc
  have lt := h.lt
  refine { small := h.small, few := h.few, mCells := cell_ne h1.mCells (Or.inl h.d1), mWaits := cell_ne h1.mWaits (Or.inl h.d1), ccap := h.ccap, tcap := h.tcap, cWords := fun j hj => ?_, cTimes := fun j hj => cell_ne (h1.cTimes j hj) (Or.inr (by omega)), cHere := fun j hj => cell_ne (h1.cHere j hj) (Or.inr (by omega)), wcap := fun j hj => ?_, words := fun j k hj hk => ?_, bound := h.bound, waits := fun u hu => ?_, fm := fun o => by rw [World.frozen?_setCell]; exact h1.fm o, fc := fun o => by rw [World.frozen?_setCell]; exact h1.fc o, ft := fun o => by rw [World.frozen?_setCell]; exact h1.ft o, fw := fun j o hj => ?_, lc := by rw [World.size_setCell]; exact h1.lc, lt := by rw [World.size_setCell]; exact h1.lt, d1 := h.d1, d2 := h.d2, d3 := h.d3, dw := fun j hj => ?_, dwi := fun i j hi hj hij => ?_, dv := fun u k hu hk => ⟨(h.dv u k hu hk).1, (h.dv u k hu hk).2.1, (h.dv u k hu hk).2.2.1, fun j hj => ?_⟩, dvi := h.dvi }
  · simp only [RmPl.withWords]
    by_cases e : j = c
    · subst e
      rw [if_pos rfl, if_pos rfl]
      exact World.cell?_setCell_same _ _ _ (h1.cWords j hj)
    · rw [if_neg e, if_neg e]
      exact cell_ne (h1.cWords j hj) (Or.inr (by omega))
  · simp only [RmPl.withWords]
    split
    · exact Nat.le_refl _
    · exact h.wcap j hj
  · simp only [RmPl.withWords, Rm.zero, Ar.zero]
    by_cases e : j = c
    · subst e
      rw [if_pos rfl, if_pos ⟨rfl, hk⟩]
      refine cell_ne ?_ (Or.inl (by omega))
      rw [World.cell?_alloc_new]
      match k, hk with
      | 0, _ => rfl
      | 1, _ => rfl
      | 2, _ => rfl
      | 3, _ => rfl
    · rw [if_neg e, if_neg (fun h => e h.1)]
      exact cell_ne (h1.words j k hj hk) (Or.inl (h.dw j hj).2.1)
  · exact ⟨cell_ne (h1.waits u hu).1 (Or.inl (Ne.symm h.d3)), ownsRow_block (h1.waits u hu).2 fun k hk => Below.heap_setCell _ _ _ _ (h.dv u k hu hk).2.1⟩
  · rw [World.frozen?_setCell]
    simp only [RmPl.withWords]
    split
    · exact World.frozen?_alloc_new _ _ _ _
    · exact h1.fw j o hj
  · simp only [RmPl.withWords]
    split
    · exact ⟨by omega, by omega, by omega⟩
    · exact h.dw j hj
  · simp only [RmPl.withWords]
    have li : i < s.ar.size → p.wb i < w.heap.size := fun hi => h.lw hi
    have lj : j < s.ar.size → p.wb j < w.heap.size := fun hj => h.lw hj
    have hi' : i < s.ar.size := hi
    have hj' : j < s.ar.size := hj
    by_cases ei : i = c
    · rw [if_pos ei, if_neg (fun ej => hij (ei.trans ej.symm))]
      have := lj hj'
      omega
    · rw [if_neg ei]
      by_cases ej : j = c
      · rw [if_pos ej]
        have := li hi'
        omega
      · rw [if_neg ej]
        exact h.dwi i j hi hj hij
  · simp only [RmPl.withWords]
    have hl : k < w.heap.size := h.lv hu hk
    split
    · omega
    · exact (h.dv u k hu hk).2.2.2 j hj
end Go.Proofs.YtaiigfcfmcicjaaGreatDoor

/- RefD -/
namespace Go.Proofs.YtaiigfcfmcicjaaGreatDoor
open Go.RowKit Go.Extern.Stop Go.Stop Go.Extern

theorem RmPl.fp_words (p : RmPl) (s s' : Rm) (c b n k : Nat) (h1 : s'.ar.size = s.ar.size) (h2 : s'.threads = s.threads) (h : (p.withWords c b n).fp s' k) : p.fp s k ∨ k = b := by
  rcases h with h | h | h | ⟨j, hj, h⟩ | ⟨t, ht, h⟩
  · exact Or.inl (Or.inl h)
  · exact Or.inl (Or.inr (Or.inl h))
  · exact Or.inl (Or.inr (Or.inr (Or.inl h)))
  · simp only [RmPl.withWords] at h
    split at h
    · exact Or.inr h
    · exact Or.inl (Or.inr (Or.inr (Or.inr (Or.inl ⟨j, by rw [← h1]; exact hj, h⟩))))
  · exact Or.inl (Or.inr (Or.inr (Or.inr (Or.inr ⟨t, by rw [← h2]; exact ht, h⟩))))

theorem RmAt.apart {p : RmPl} {s : Rm} {w : World} (h : RmAt p s w) {b o : Nat} (v : Value) (hb : ∀ k, p.fp s k → k ≠ b) : RmAt p s (w.setCell ⟨b, o, none⟩ v) :=
  h.turns (S := fun k _ => k = b) ((Turns.refl _ _).setCell v rfl) (fun k _ hk => hb k hk)

theorem make4 (w : World) : (Instr.makeSlice 54 (.int .i64 4) (.int .i64 4)).run Tryz.prog w = .ok (.slice (some ⟨w.heap.size, 0, none⟩) 4 4) (w.alloc (.cells #[.int .i64 0, .int .i64 0, .int .i64 0, .int .i64 0] 3)) := by kernel_rfl

set_option maxHeartbeats 2000000 in
theorem ralloc_some (p : RmPl) (s : Rm) (c : Nat) (w : World) (h : RmAt p s w) (hc : c < s.ar.size) (hf : ∀ j, j < c → s.ar.there j = true) (ht : s.ar.there c = false) (hg : s.ar.given c + 1 < 4611686018427387904) :
    Calls Tryz.prog 44 #[.pointer (some ⟨p.mb, 0, none⟩)] w fun e w' => e = .returned (.tuple #[.agg #[.int .i64 c, .int .i64 (s.ar.given c)], .int .i64 0]) ∧ Turns (fun k _ => k = p.cb) w w' ∧ ∃ b, w.heap.size ≤ b ∧ RmAt (p.withWords c b 4) (s.give c) w' := by
  have h1 := h.alloc (.cells #[.int .i64 0, .int .i64 0] 50)
  have hba : Turns (fun k _ => k = p.cb) w (w.alloc (.cells #[.int .i64 0, .int .i64 0] 50)) := (Turns.refl _ _).alloc _
  have hz := h.small
  have hcc := h.ccap
  have z0 : (w.alloc (.cells #[.int .i64 0, .int .i64 0] 50)).cell? ⟨w.heap.size, 0, none⟩ = some (.int .i64 0) := by simp
  have z1 : (w.alloc (.cells #[.int .i64 0, .int .i64 0] 50)).cell? ⟨w.heap.size, 1, none⟩ = some (.int .i64 0) := by simp
  have y0 : (w.alloc (.cells #[.int .i64 0, .int .i64 0] 50)).frozen? ⟨w.heap.size, 0, none⟩ = false := by simp
  have y1 : (w.alloc (.cells #[.int .i64 0, .int .i64 0] 50)).frozen? ⟨w.heap.size, 1, none⟩ = false := by simp
  have hm := h1.mCells
  have l1 := h.lm
  have l2 := h.lc
  have hfp : ∀ k, p.fp s k → k < w.heap.size := fun k hk => h.fp_lt hk
  clear h
  generalize hw : w.alloc (.cells #[.int .i64 0, .int .i64 0] 50) = w1 at *
  go_enter Tryz.func44, Tryz.ntmps44
  go_wp2_with fail
  go_loop [4] (fun i => ∃ j : Nat, j ≤ c ∧ i = .int .i64 j) (fun i => s.ar.size - (intOf i).toNat)
  case atStart => exact ⟨0, Nat.zero_le _, rfl⟩
  case round =>
    obtain ⟨j, hj, rfl⟩ := hrel
    have hlt : j < s.ar.size := by omega
    have ji : (j : Int) < s.ar.size := by omega
    have htj := h1.cHere j hlt
    by_cases hlc : j < c
    · rw [hf j hlc] at htj
      clear hf
      go_wp2
      go_round
      case rel => exact ⟨j + 1, by omega, by go_num⟩
      case measure => simp [intOf]; omega
    · obtain rfl : j = c := by omega
      rw [ht] at htj
      have htm := h1.cTimes j hlt
      have hwd := h1.cWords j hlt
      have fc0 := h1.fc (j * 3)
      have fc1 := h1.fc (j * 3 + 1)
      have fc2 := h1.fc (j * 3 + 2)
      have gi : ((s.ar.given j : Nat) : Int) + 1 < 4611686018427387904 := by omega
      have m4 := make4
      have l3 := h1.lm
      have l4 := h1.lc
      have lz := World.block_lt_of_cell? _ _ z0
      clear hf
      go_wp2
      have hG : RmAt (p.withWords j w1.heap.size 4) (s.give j) (((((w1.setCell ⟨p.cb, j * 3, none⟩ (.slice (some ⟨w1.heap.size, 0, none⟩) 4 4)).setCell ⟨p.cb, j * 3 + 1, none⟩ (.int .i64 (s.ar.given j + 1))).setCell ⟨p.cb, j * 3 + 2, none⟩ (.bool true)).alloc (.cells #[.int .i64 0, .int .i64 0, .int .i64 0, .int .i64 0] 3)).drew) := by
        have h5 := (((h1.newWords j hlt).setGiven j hlt (s.ar.given j + 1) hg).setThere j hlt true)
        rw [Rm.give_eq] at h5
        rw [← World.setCell_alloc_past _ _ _ _ (by simp; exact l4), ← World.setCell_alloc_past _ _ _ _ (by simp; exact l4), ← World.setCell_alloc_past _ _ _ _ l4]
        exact h5.below (Below.refl _ _).drew
      have hT : Turns (fun k _ => k = p.cb) w (((((w1.setCell ⟨p.cb, j * 3, none⟩ (.slice (some ⟨w1.heap.size, 0, none⟩) 4 4)).setCell ⟨p.cb, j * 3 + 1, none⟩ (.int .i64 (s.ar.given j + 1))).setCell ⟨p.cb, j * 3 + 2, none⟩ (.bool true)).alloc (.cells #[.int .i64 0, .int .i64 0, .int .i64 0, .int .i64 0] 3)).drew) := ((((hba.setCell _ rfl).setCell _ rfl).setCell _ rfl).alloc _).drew
      have zr0 : (((((w1.setCell ⟨p.cb, j * 3, none⟩ (.slice (some ⟨w1.heap.size, 0, none⟩) 4 4)).setCell ⟨p.cb, j * 3 + 1, none⟩ (.int .i64 (s.ar.given j + 1))).setCell ⟨p.cb, j * 3 + 2, none⟩ (.bool true)).alloc (.cells #[.int .i64 0, .int .i64 0, .int .i64 0, .int .i64 0] 3)).drew).cell? ⟨w.heap.size, 0, none⟩ = some (.int .i64 0) := by go_simp
      have zr1 : (((((w1.setCell ⟨p.cb, j * 3, none⟩ (.slice (some ⟨w1.heap.size, 0, none⟩) 4 4)).setCell ⟨p.cb, j * 3 + 1, none⟩ (.int .i64 (s.ar.given j + 1))).setCell ⟨p.cb, j * 3 + 2, none⟩ (.bool true)).alloc (.cells #[.int .i64 0, .int .i64 0, .int .i64 0, .int .i64 0] 3)).drew).cell? ⟨w.heap.size, 1, none⟩ = some (.int .i64 0) := by go_simp
      have yr0 : (((((w1.setCell ⟨p.cb, j * 3, none⟩ (.slice (some ⟨w1.heap.size, 0, none⟩) 4 4)).setCell ⟨p.cb, j * 3 + 1, none⟩ (.int .i64 (s.ar.given j + 1))).setCell ⟨p.cb, j * 3 + 2, none⟩ (.bool true)).alloc (.cells #[.int .i64 0, .int .i64 0, .int .i64 0, .int .i64 0] 3)).drew).frozen? ⟨w.heap.size, 0, none⟩ = false := by go_simp
      have yr1 : (((((w1.setCell ⟨p.cb, j * 3, none⟩ (.slice (some ⟨w1.heap.size, 0, none⟩) 4 4)).setCell ⟨p.cb, j * 3 + 1, none⟩ (.int .i64 (s.ar.given j + 1))).setCell ⟨p.cb, j * 3 + 2, none⟩ (.bool true)).alloc (.cells #[.int .i64 0, .int .i64 0, .int .i64 0, .int .i64 0] 3)).drew).frozen? ⟨w.heap.size, 1, none⟩ = false := by go_simp
      have hsz : w.heap.size ≤ w1.heap.size := hba.size
      have hnz : ∀ k, (p.withWords j w1.heap.size 4).fp (s.give j) k → k ≠ w.heap.size := fun k hk => by
        rcases RmPl.fp_words p s (s.give j) j w1.heap.size 4 k rfl rfl hk with h6 | h6
        · have := hfp k h6; omega
        · omega
      have HNZ : Hid (∀ k, (p.withWords j w1.heap.size 4).fp (s.give j) k → k ≠ w.heap.size) := hnz
      clear hnz hfp
      go_region
      clear z0 z1 y0 y1 htm hwd htj fc0 fc1 fc2 h1 hm hw hba m4
      generalize ((((w1.setCell ⟨p.cb, j * 3, none⟩ (.slice (some ⟨w1.heap.size, 0, none⟩) 4 4)).setCell ⟨p.cb, j * 3 + 1, none⟩ (.int .i64 (s.ar.given j + 1))).setCell ⟨p.cb, j * 3 + 2, none⟩ (.bool true)).alloc (.cells #[.int .i64 0, .int .i64 0, .int .i64 0, .int .i64 0] 3)).drew = w2 at hG hT zr0 zr1 yr0 yr1 ⊢
      have h9 : (p.withWords j w1.heap.size 4).cb = p.cb := rfl
      have hm2 : w2.cell? ⟨p.mb, 0, none⟩ = some (.slice (some ⟨p.cb, 0, none⟩) s.ar.size p.ccap) := hG.mCells
      have htm2 : w2.cell? ⟨p.cb, j * 3 + 1, none⟩ = some (.int .i64 (s.ar.given j + 1 : Nat)) := by
        have h6 := hG.cTimes j hlt
        rw [show (s.give j).ar.given j = s.ar.given j + 1 from by simp [Rm.give, Ar.give]] at h6
        exact h6
      have lz2 := World.block_lt_of_cell? _ _ zr0
      clear h9
      go_wp2
      refine bodyPost_ret (v := .tuple #[.agg #[.int .i64 j, .int .i64 (s.ar.given j)], .int .i64 0]) (by simp only [results, Tryz.results44]; go_simp) rfl ⟨rfl, (hT.setNew _ (Nat.le_refl _)).setNew _ (Nat.le_refl _), w1.heap.size, hsz, ?_⟩
      exact (hG.apart _ HNZ.out).apart _ HNZ.out
end Go.Proofs.YtaiigfcfmcicjaaGreatDoor

/- RefE -/
namespace Go.Proofs.YtaiigfcfmcicjaaGreatDoor
open Go.RowKit Go.Extern.Stop Go.Stop Go.Extern

def zCell : Array Value := #[.slice none 0 0, .int .i64 0, .bool false]

theorem cellInfo : ∃ i, Tryz.prog.info? 64 = some i ∧ i.zero = some (.agg zCell) ∧ i.size = 3 ∧ i.bytes = 40 := by
  obtain ⟨i, hi, h1⟩ := Option.map_eq_some_iff.1 (show (Tryz.prog.info? 64).map (·.zero) = some (some (.agg zCell)) by kernel_rfl)
  obtain ⟨j, hj, h2⟩ := Option.map_eq_some_iff.1 (show (Tryz.prog.info? 64).map (·.size) = some 3 by kernel_rfl)
  obtain ⟨k, hk, h3⟩ := Option.map_eq_some_iff.1 (show (Tryz.prog.info? 64).map (·.bytes) = some 40 by kernel_rfl)
  obtain rfl := Option.some.inj (hi.symm.trans hj)
  obtain rfl := Option.some.inj (hi.symm.trans hk)
  exact ⟨_, hi, h1, h2, h3⟩

theorem mkCells (n : Nat) (hn : n ≤ 1000000) (w : World) : (Instr.makeSlice 65 (.int .i64 n) (.int .i64 n)).run Tryz.prog w = .ok (.slice (some ⟨w.heap.size, 0, none⟩) n n) (w.alloc (.cells (madeCells zCell (n * 3)) 64)) := by
  obtain ⟨i, hi, hz, hs, hb⟩ := cellInfo
  have := run_make (P := Tryz.prog) w 65 64 i (.agg zCell) Tryz.underlying65 hi hz .i64 .i64 n n (by omega) (Int.le_refl _) (by rw [hb]; omega) (by omega)
  simp only [Int.toNat_natCast, hs] at this
  exact this

theorem mkWaits (n : Nat) (hn : n ≤ 1000000) (w : World) : (Instr.makeSlice 66 (.int .i64 n) (.int .i64 n)).run Tryz.prog w = .ok (.slice (some ⟨w.heap.size, 0, none⟩) n n) (w.alloc (.cells (madeCells #[.slice none 0 0] n) 99)) :=
  run_make_row' 66 99 (.slice none 0 0) 24 Tryz.underlying66 (by kernel_rfl) rfl .i64 .i64 n (by omega) (by omega) w

theorem made_at (z : Array Value) (n k : Nat) (h : k < n) : (madeCells z n)[k]? = some (z[k % z.size]!) := by
  simp [madeCells, h]
theorem zCell_at (n c : Nat) (h : c < n) : (madeCells zCell (n * 3))[c * 3]? = some (.slice none 0 0) ∧ (madeCells zCell (n * 3))[c * 3 + 1]? = some (.int .i64 0) ∧ (madeCells zCell (n * 3))[c * 3 + 2]? = some (.bool false) := by
  rw [made_at _ _ _ (by omega), made_at _ _ _ (by omega), made_at _ _ _ (by omega)]
  rw [show zCell.size = 3 from rfl, show c * 3 % 3 = 0 by omega, show (c * 3 + 1) % 3 = 1 by omega, show (c * 3 + 2) % 3 = 2 by omega]
  exact ⟨rfl, rfl, rfl⟩

structure NewAt (B mb cb tb cells threads i : Nat) (wb : Nat → Nat) (w : World) : Prop where
  mCells : w.cell? ⟨mb, 0, none⟩ = some (.slice (some ⟨cb, 0, none⟩) cells cells)
  mWaits : w.cell? ⟨mb, 1, none⟩ = some (.slice (some ⟨tb, 0, none⟩) threads threads)
  done : ∀ c, c < i → w.cell? ⟨cb, c * 3, none⟩ = some (.slice (some ⟨wb c, 0, none⟩) 4 4)
  todo : ∀ c, i ≤ c → c < cells → w.cell? ⟨cb, c * 3, none⟩ = some (.slice none 0 0)
  times : ∀ c, c < cells → w.cell? ⟨cb, c * 3 + 1, none⟩ = some (.int .i64 0)
  here : ∀ c, c < cells → w.cell? ⟨cb, c * 3 + 2, none⟩ = some (.bool false)
  words : ∀ c k, c < i → k < 4 → w.cell? ⟨wb c, k, none⟩ = some (.int .i64 0)
  waits : ∀ t, t < threads → w.cell? ⟨tb, t, none⟩ = some (.slice none 0 0)
  fm : ∀ o, w.frozen? ⟨mb, o, none⟩ = false
  fc : ∀ o, w.frozen? ⟨cb, o, none⟩ = false
  ft : ∀ o, w.frozen? ⟨tb, o, none⟩ = false
  fw : ∀ c o, c < i → w.frozen? ⟨wb c, o, none⟩ = false
  lc : cb < w.heap.size
  lt : tb < w.heap.size
  d1 : mb ≠ cb
  d2 : mb ≠ tb
  d3 : cb ≠ tb
  dw : ∀ c, c < i → wb c ≠ mb ∧ wb c ≠ cb ∧ wb c ≠ tb ∧ B ≤ wb c
  dwi : ∀ c d, c < i → d < i → c ≠ d → wb c ≠ wb d
  base : B ≤ mb ∧ B ≤ cb ∧ B ≤ tb

theorem NewAt.lm {B mb cb tb cells threads i : Nat} {wb : Nat → Nat} {w : World} (h : NewAt B mb cb tb cells threads i wb w) : mb < w.heap.size := World.block_lt_of_cell? _ _ h.mCells

theorem cell_new {w : World} {p : Addr} {v : Value} {o : Obj} (h : w.cell? p = some v) : (w.alloc o).cell? p = some v := by
  rw [World.cell?_alloc_lt _ _ _ (World.block_lt_of_cell? _ _ h)]; exact h

theorem NewAt.next {B mb cb tb cells threads i : Nat} {wb : Nat → Nat} {w : World} (h : NewAt B mb cb tb cells threads i wb w) (hi : i < cells) (hB : B ≤ w.heap.size) :
    NewAt B mb cb tb cells threads (i + 1) (fun c => if c = i then w.heap.size else wb c) ((w.alloc (.cells #[.int .i64 0, .int .i64 0, .int .i64 0, .int .i64 0] 3)).setCell ⟨cb, i * 3, none⟩ (.slice (some ⟨w.heap.size, 0, none⟩) 4 4)) := by
  have lm := h.lm
  have lc := h.lc
  have lt := h.lt
  have lw : ∀ c, c < i → wb c < w.heap.size := fun c hc => World.block_lt_of_cell? _ _ (h.words c 0 hc (by decide))
  refine { mCells := cell_ne (cell_new h.mCells) (Or.inl h.d1), mWaits := cell_ne (cell_new h.mWaits) (Or.inl h.d1), done := fun c hc => ?_, todo := fun c hc hcc => cell_ne (cell_new (h.todo c (by omega) hcc)) (Or.inr (by omega)), times := fun c hc => cell_ne (cell_new (h.times c hc)) (Or.inr (by omega)), here := fun c hc => cell_ne (cell_new (h.here c hc)) (Or.inr (by omega)), words := fun c k hc hk => ?_, waits := fun t ht => cell_ne (cell_new (h.waits t ht)) (Or.inl (Ne.symm h.d3)), fm := fun o => ?_, fc := fun o => ?_, ft := fun o => ?_, fw := fun c o hc => ?_, lc := by simp; omega, lt := by simp; omega, d1 := h.d1, d2 := h.d2, d3 := h.d3, dw := fun c hc => ?_, dwi := fun c d hc hd hcd => ?_, base := h.base }
  · by_cases e : c = i
    · subst e
      rw [if_pos rfl]
      exact World.cell?_setCell_same _ _ _ (cell_new (h.todo c (Nat.le_refl _) hi))
    · rw [if_neg e]
      exact cell_ne (cell_new (h.done c (by omega))) (Or.inr (by omega))
  · by_cases e : c = i
    · subst e
      rw [if_pos rfl]
      refine cell_ne ?_ (Or.inl (by omega))
      rw [World.cell?_alloc_new]
      match k, hk with
      | 0, _ => rfl
      | 1, _ => rfl
      | 2, _ => rfl
      | 3, _ => rfl
    · rw [if_neg e]
      exact cell_ne (cell_new (h.words c k (by omega) hk)) (Or.inl (h.dw c (by omega)).2.1)
  · rw [World.frozen?_setCell, World.frozen?_alloc_old _ _ _ (Nat.ne_of_lt lm)]; exact h.fm o
  · rw [World.frozen?_setCell, World.frozen?_alloc_old _ _ _ (Nat.ne_of_lt lc)]; exact h.fc o
  · rw [World.frozen?_setCell, World.frozen?_alloc_old _ _ _ (Nat.ne_of_lt lt)]; exact h.ft o
  · rw [World.frozen?_setCell]
    by_cases e : c = i
    · rw [if_pos e]; exact World.frozen?_alloc_new _ _ _ _
    · rw [if_neg e, World.frozen?_alloc_old _ _ _ (Nat.ne_of_lt (lw c (by omega)))]; exact h.fw c o (by omega)
  · by_cases e : c = i
    · rw [if_pos e]; exact ⟨by omega, by omega, by omega, hB⟩
    · rw [if_neg e]; exact h.dw c (by omega)
  · by_cases e : c = i
    · rw [if_pos e, if_neg (fun e' => hcd (e.trans e'.symm))]
      have := lw d (by omega)
      omega
    · rw [if_neg e]
      by_cases e' : d = i
      · rw [if_pos e']
        have := lw c (by omega)
        omega
      · rw [if_neg e']
        exact h.dwi c d (by omega) (by omega) hcd

def Rm.fresh (cells threads : Nat) : Rm := ⟨⟨cells, fun _ _ => 0, fun _ => false, fun _ => 0⟩, threads, fun _ => []⟩

theorem NewAt.at {B mb cb tb cells threads : Nat} {wb : Nat → Nat} {w : World} (h : NewAt B mb cb tb cells threads cells wb w) (hc : cells ≤ 64) (ht : threads ≤ 6) :
    RmAt ⟨mb, cb, tb, cells, threads, wb, fun _ => 4, fun _ => .slice none 0 0⟩ (Rm.fresh cells threads) w where
  small := hc
  few := ht
  mCells := h.mCells
  mWaits := h.mWaits
  ccap := Nat.le_refl _
  tcap := Nat.le_refl _
  cWords := h.done
  cTimes := h.times
  cHere := h.here
  wcap _ _ := Nat.le_refl _
  words := h.words
  bound _ := by show 0 < 4611686018427387904; decide
  waits t ht := ⟨h.waits t ht, World.ownsRow_nil _ _ _ _⟩
  fm := h.fm
  fc := h.fc
  ft := h.ft
  fw := h.fw
  lc := h.lc
  lt := h.lt
  d1 := h.d1
  d2 := h.d2
  d3 := h.d3
  dw c hc := ⟨(h.dw c hc).1, (h.dw c hc).2.1, (h.dw c hc).2.2.1⟩
  dwi := h.dwi
  dv _ _ _ hk := by cases hk
  dvi _ _ _ _ _ _ hk := by cases hk

theorem NewAt.fp {B mb cb tb cells threads : Nat} {wb : Nat → Nat} {w : World} (h : NewAt B mb cb tb cells threads cells wb w) (k : Nat) (hk : (⟨mb, cb, tb, cells, threads, wb, fun _ => 4, fun _ => .slice none 0 0⟩ : RmPl).fp (Rm.fresh cells threads) k) : B ≤ k := by
  rcases hk with h1 | h1 | h1 | ⟨c, hc, h1⟩ | ⟨t, ht, h1⟩
  · rw [h1]; exact h.base.1
  · rw [h1]; exact h.base.2.1
  · rw [h1]; exact h.base.2.2
  · rw [h1]; exact (h.dw c hc).2.2.2
  · cases h1

theorem NewAt.drew {B mb cb tb cells threads i : Nat} {wb : Nat → Nat} {w : World} (h : NewAt B mb cb tb cells threads i wb w) : NewAt B mb cb tb cells threads i wb w.drew :=
  ⟨h.mCells, h.mWaits, h.done, h.todo, h.times, h.here, h.words, h.waits, h.fm, h.fc, h.ft, h.fw, h.lc, h.lt, h.d1, h.d2, h.d3, h.dw, h.dwi, h.base⟩

theorem heap_new (w : World) (o : Obj) : (w.alloc o).heap[w.heap.size]? = some o := by show (w.heap.push o)[w.heap.size]? = _; simp
theorem blk3 (w : World) (o1 o2 o3 : Obj) : (((w.alloc o1).alloc o2).alloc o3).heap[w.heap.size]? = some o1 ∧ (((w.alloc o1).alloc o2).alloc o3).heap[w.heap.size + 1]? = some o2 ∧ (((w.alloc o1).alloc o2).alloc o3).heap[w.heap.size + 1 + 1]? = some o3 := by
  have e1 : w.heap.size + 1 = (w.alloc o1).heap.size := (World.size_alloc _ _).symm
  have e2 : w.heap.size + 1 + 1 = ((w.alloc o1).alloc o2).heap.size := by rw [World.size_alloc, World.size_alloc]
  refine ⟨?_, ?_, ?_⟩
  · rw [Below.heap_alloc _ _ _ (by omega), Below.heap_alloc _ _ _ (by omega)]; exact heap_new w o1
  · rw [Below.heap_alloc _ _ _ (by omega), e1]; exact heap_new _ o2
  · rw [e2]; exact heap_new _ o3

theorem made_world (cells threads : Nat) (mb cb tb : Nat) (w w1 : World) (hm : w1.heap[mb]? = some (.cells #[.slice (some ⟨cb, 0, none⟩) cells cells, .slice (some ⟨tb, 0, none⟩) threads threads] 68))
    (hcb : w1.heap[cb]? = some (.cells (madeCells zCell (cells * 3)) 64)) (htb : w1.heap[tb]? = some (.cells (madeCells #[.slice none 0 0] threads) 99))
    (d1 : mb ≠ cb) (d2 : mb ≠ tb) (d3 : cb ≠ tb) (hb : w.heap.size ≤ mb ∧ w.heap.size ≤ cb ∧ w.heap.size ≤ tb) : NewAt w.heap.size mb cb tb cells threads 0 (fun _ => 0) w1 where
  mCells := by simp [World.cell?, hm]
  mWaits := by simp [World.cell?, hm]
  done _ h := by omega
  todo c _ hc := by simp only [World.cell?, hcb]; exact (zCell_at _ _ hc).1
  times c hc := by simp only [World.cell?, hcb]; exact (zCell_at _ _ hc).2.1
  here c hc := by simp only [World.cell?, hcb]; exact (zCell_at _ _ hc).2.2
  words _ _ h := by omega
  waits t ht := by
    simp only [World.cell?, htb]
    rw [show (({ block := tb, off := t, spot := none } : Addr).spot.isSome) = false from rfl]
    simp only [Bool.false_eq_true, if_false]
    rw [made_at _ _ _ ht, show (#[Value.slice none 0 0] : Array Value).size = 1 from rfl, Nat.mod_one]
    rfl
  fm o := by simp [World.frozen?, hm]
  fc o := by simp [World.frozen?, hcb]
  ft o := by simp [World.frozen?, htb]
  fw _ _ h := by omega
  lc := lt_of_block hcb
  lt := lt_of_block htb
  d1 := d1
  d2 := d2
  d3 := d3
  dw _ h := by omega
  dwi _ _ h := by omega
  base := hb

set_option maxHeartbeats 2000000 in
theorem newMem_any (cells threads : Nat) (w : World) (hc : cells ≤ 64) (ht : threads ≤ 6) :
    Calls Tryz.prog 43 #[.int .i64 cells, .int .i64 threads] w fun e w' => ∃ p, e = .returned (.pointer (some ⟨p.mb, 0, none⟩)) ∧ RmAt p (Rm.fresh cells threads) w' ∧ Below w.heap.size w w' ∧ ∀ k, p.fp (Rm.fresh cells threads) k → w.heap.size ≤ k := by
  have m4 := make4
  have mC := mkCells cells (by omega)
  have mW := mkWaits threads (by omega)
  go_enter Tryz.func43, Tryz.ntmps43
  go_wp2
  go_region
  · have hN := (made_world cells threads (w.heap.size + 1 + 1) w.heap.size (w.heap.size + 1) w (((w.alloc (.cells (madeCells zCell (cells * 3)) 64)).alloc (.cells (madeCells #[.slice none 0 0] threads) 99)).alloc (.cells #[.slice (some ⟨w.heap.size, 0, none⟩) cells cells, .slice (some ⟨w.heap.size + 1, 0, none⟩) threads threads] 68)) (blk3 w (.cells (madeCells zCell (cells * 3)) 64) (.cells (madeCells #[.slice none 0 0] threads) 99) (.cells #[.slice (some ⟨w.heap.size, 0, none⟩) cells cells, .slice (some ⟨w.heap.size + 1, 0, none⟩) threads threads] 68)).2.2 (blk3 w (.cells (madeCells zCell (cells * 3)) 64) (.cells (madeCells #[.slice none 0 0] threads) 99) (.cells #[.slice (some ⟨w.heap.size, 0, none⟩) cells cells, .slice (some ⟨w.heap.size + 1, 0, none⟩) threads threads] 68)).1 (blk3 w (.cells (madeCells zCell (cells * 3)) 64) (.cells (madeCells #[.slice none 0 0] threads) 99) (.cells #[.slice (some ⟨w.heap.size, 0, none⟩) cells cells, .slice (some ⟨w.heap.size + 1, 0, none⟩) threads threads] 68)).2.1 (by omega) (by omega) (by omega) ⟨by omega, by omega, by omega⟩).drew
    have hB : Below w.heap.size w (((w.alloc (.cells (madeCells zCell (cells * 3)) 64)).alloc (.cells (madeCells #[.slice none 0 0] threads) 99)).alloc (.cells #[.slice (some ⟨w.heap.size, 0, none⟩) cells cells, .slice (some ⟨w.heap.size + 1, 0, none⟩) threads threads] 68)).drew := ((((Below.refl _ _).alloc (Nat.le_refl _) _).alloc (by simp) _).alloc (by simp; omega) _).drew
    clear mC mW
    generalize (((w.alloc (.cells (madeCells zCell (cells * 3)) 64)).alloc (.cells (madeCells #[.slice none 0 0] threads) 99)).alloc (.cells #[.slice (some ⟨w.heap.size, 0, none⟩) cells cells, .slice (some ⟨w.heap.size + 1, 0, none⟩) threads threads] 68)).drew = w1 at hN hB ⊢
    go_wp2_with fail
    go_loopw [6] (fun i wr => ∃ (j : Nat) (wb : Nat → Nat), j ≤ cells ∧ i = .int .i64 j ∧ NewAt w.heap.size (w.heap.size + 1 + 1) w.heap.size (w.heap.size + 1) cells threads j wb wr ∧ Below w.heap.size w wr) (fun i _ => cells - (intOf i).toNat)
    case atStart => exact ⟨0, _, Nat.zero_le _, rfl, hN, hB⟩
    case round =>
      obtain ⟨j, wb, hj, rfl, hA, hBr⟩ := hrel
      by_cases hlt : j < cells
      · have hm := hA.mCells
        have hcd := hA.todo j (Nat.le_refl _) hlt
        have hfc := hA.fc (j * 3)
        have ji : (j : Int) < cells := by omega
        have lc := hA.lc
        have lm := hA.lm
        have HNx : Hid (NewAt w.heap.size (w.heap.size + 1 + 1) w.heap.size (w.heap.size + 1) cells threads (j + 1) (fun c => if c = j then wr.heap.size else wb c) (((wr.setCell ⟨w.heap.size, j * 3, none⟩ (.slice (some ⟨wr.heap.size, 0, none⟩) 4 4)).alloc (.cells #[.int .i64 0, .int .i64 0, .int .i64 0, .int .i64 0] 3)).drew)) := by
          show NewAt _ _ _ _ _ _ _ _ _
          rw [← World.setCell_alloc_past _ _ _ _ lc]
          exact (hA.next hlt hBr.size).drew
        clear hA hN hB
        go_wp2
        go_region
        go_wp2
        go_roundw
        case rel => exact ⟨j + 1, _, by omega, by go_num, HNx.out, ((hBr.setCell (by simp) _).alloc (by simp; exact hBr.size) _).drew⟩
        case measure => simp [intOf]; omega
      · obtain rfl : j = cells := by omega
        have hA' := hA
        clear hN hB hA
        go_wp2
        go_ret
        exact ⟨_, rfl, hA'.at hc ht, hBr, hA'.fp⟩
  · have hN := (made_world cells threads (w.heap.size + 1 + 1) (w.heap.size + 1) (w.heap.size) w (((w.alloc (.cells (madeCells #[.slice none 0 0] threads) 99)).alloc (.cells (madeCells zCell (cells * 3)) 64)).alloc (.cells #[.slice (some ⟨w.heap.size + 1, 0, none⟩) cells cells, .slice (some ⟨w.heap.size, 0, none⟩) threads threads] 68)) (blk3 w (.cells (madeCells #[.slice none 0 0] threads) 99) (.cells (madeCells zCell (cells * 3)) 64) (.cells #[.slice (some ⟨w.heap.size + 1, 0, none⟩) cells cells, .slice (some ⟨w.heap.size, 0, none⟩) threads threads] 68)).2.2 (blk3 w (.cells (madeCells #[.slice none 0 0] threads) 99) (.cells (madeCells zCell (cells * 3)) 64) (.cells #[.slice (some ⟨w.heap.size + 1, 0, none⟩) cells cells, .slice (some ⟨w.heap.size, 0, none⟩) threads threads] 68)).2.1 (blk3 w (.cells (madeCells #[.slice none 0 0] threads) 99) (.cells (madeCells zCell (cells * 3)) 64) (.cells #[.slice (some ⟨w.heap.size + 1, 0, none⟩) cells cells, .slice (some ⟨w.heap.size, 0, none⟩) threads threads] 68)).1 (by omega) (by omega) (by omega) ⟨by omega, by omega, by omega⟩).drew
    have hB : Below w.heap.size w (((w.alloc (.cells (madeCells #[.slice none 0 0] threads) 99)).alloc (.cells (madeCells zCell (cells * 3)) 64)).alloc (.cells #[.slice (some ⟨w.heap.size + 1, 0, none⟩) cells cells, .slice (some ⟨w.heap.size, 0, none⟩) threads threads] 68)).drew := ((((Below.refl _ _).alloc (Nat.le_refl _) _).alloc (by simp) _).alloc (by simp; omega) _).drew
    clear mC mW
    generalize (((w.alloc (.cells (madeCells #[.slice none 0 0] threads) 99)).alloc (.cells (madeCells zCell (cells * 3)) 64)).alloc (.cells #[.slice (some ⟨w.heap.size + 1, 0, none⟩) cells cells, .slice (some ⟨w.heap.size, 0, none⟩) threads threads] 68)).drew = w1 at hN hB ⊢
    go_wp2_with fail
    go_loopw [6] (fun i wr => ∃ (j : Nat) (wb : Nat → Nat), j ≤ cells ∧ i = .int .i64 j ∧ NewAt w.heap.size (w.heap.size + 1 + 1) (w.heap.size + 1) (w.heap.size) cells threads j wb wr ∧ Below w.heap.size w wr) (fun i _ => cells - (intOf i).toNat)
    case atStart => exact ⟨0, _, Nat.zero_le _, rfl, hN, hB⟩
    case round =>
      obtain ⟨j, wb, hj, rfl, hA, hBr⟩ := hrel
      by_cases hlt : j < cells
      · have hm := hA.mCells
        have hcd := hA.todo j (Nat.le_refl _) hlt
        have hfc := hA.fc (j * 3)
        have ji : (j : Int) < cells := by omega
        have lc := hA.lc
        have lm := hA.lm
        have HNx : Hid (NewAt w.heap.size (w.heap.size + 1 + 1) (w.heap.size + 1) (w.heap.size) cells threads (j + 1) (fun c => if c = j then wr.heap.size else wb c) (((wr.setCell ⟨w.heap.size + 1, j * 3, none⟩ (.slice (some ⟨wr.heap.size, 0, none⟩) 4 4)).alloc (.cells #[.int .i64 0, .int .i64 0, .int .i64 0, .int .i64 0] 3)).drew)) := by
          show NewAt _ _ _ _ _ _ _ _ _
          rw [← World.setCell_alloc_past _ _ _ _ lc]
          exact (hA.next hlt hBr.size).drew
        clear hA hN hB
        go_wp2
        go_region
        go_wp2
        go_roundw
        case rel => exact ⟨j + 1, _, by omega, by go_num, HNx.out, ((hBr.setCell (by simp) _).alloc (by simp; exact hBr.size) _).drew⟩
        case measure => simp [intOf]; omega
      · obtain rfl : j = cells := by omega
        have hA' := hA
        clear hN hB hA
        go_wp2
        go_ret
        exact ⟨_, rfl, hA'.at hc ht, hBr, hA'.fp⟩
end Go.Proofs.YtaiigfcfmcicjaaGreatDoor
