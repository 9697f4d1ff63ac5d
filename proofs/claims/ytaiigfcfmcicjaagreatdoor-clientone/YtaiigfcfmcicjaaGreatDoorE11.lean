import Derived.Test.YtaiigfcfmcicjaaGreatDoorE10
import Derived.Test.YtaiigfcfmcicjaaGreatDoorE01
import Derived.Test.YtaiigfcfmcicjaaGreatDoorE02
import Derived.WalkKit
import Derived.Maps.Views
import Derived.Maps.Own
import Derived.Maps.OwnOps
import Derived.Maps.OwnSet
import Derived.StringKeys
import Derived.Lib.LaidTab
namespace Go.Proofs.YtaiigfcfmcicjaaGreatDoor
set_option maxRecDepth 100000
set_option maxHeartbeats 8000000
section
open Go.RowKit
structure Sta where
 cells : Int
 init : List (List Int)
 regs : List (List Int)
def wordOk (x : Int) : Bool := decide (0 <= x /\ x < 4294967296)
def rowOk (longest : Nat) (row : List Int) : Bool := decide (row.length <= longest) && row.all wordOk
def rowsOk (longest : Nat) (R : List (List Int)) : Bool := R.all (rowOk longest)
noncomputable def codesFrom : Nat -> List (List Ins) -> Nat × Int
 | _, [] => (0, -1)
 | i, L :: cs => if (codeFault L).1 = 0 then codesFrom (i + 1) cs else ((codeFault L).1, i)
def Sta.fits (s : Sta) (n : Nat) : Bool := (decide ((s.init.length : Int) <= s.cells) && rowsOk 4 s.init) && (decide (s.regs.length <= n) && rowsOk 8 s.regs)
open Classical in
noncomputable def Sta.fault (s : Sta) (cs : List (List Ins)) : Nat × Int :=
 if 1 <= s.cells /\ s.cells <= 64 /\ 1 <= cs.length /\ cs.length <= 6 /\ s.fits cs.length = true then codesFrom 0 cs else (2, -1)
theorem codesFrom_none : ∀ (cs : List (List Ins)) (i : Nat), (∀ (t : Nat) L, cs[t]? = some L -> (codeFault L).1 = 0) -> codesFrom i cs = (0, -1)
 | [], _, _ => rfl
 | L :: cs, i, h => by
  unfold codesFrom
  rw [if_pos (h 0 L rfl)]
  exact codesFrom_none cs (i + 1) (fun t L' ht => h (t + 1) L' (by simpa using ht))
theorem codesFrom_hit : ∀ (cs : List (List Ins)) (i j : Nat) (L : List Ins), cs[j]? = some L -> (codeFault L).1 ≠ 0 -> (∀ (t : Nat) L', t < j -> cs[t]? = some L' -> (codeFault L').1 = 0) -> codesFrom i cs = ((codeFault L).1, ((i + j : Nat) : Int))
 | [], _, _, _, h, _, _ => by simp at h
 | M :: cs, i, j, L, hL, h1, h2 => by
  unfold codesFrom
  cases j with
  | zero => simp at hL; subst hL; rw [if_neg h1]; rfl
  | succ j =>
   rw [if_pos (h2 0 M (by omega) rfl), codesFrom_hit cs (i + 1) j L (by simpa using hL) h1 (fun t L' ht hl => h2 (t + 1) L' (by omega) (by simpa using hl))]
   rw [show i + 1 + j = i + (j + 1) by omega]
theorem faultFrom_zero (l : List Ins) : ∀ (r : List Ins) (j : Nat), (faultFrom l j r).1 = 0 -> ∀ (k : Nat) x, r[k]? = some x -> insFault l (j + k) x = 0
 | [], _, _, k, x, hx => by simp at hx
 | y :: r, j, h, k, x, hx => by
  unfold faultFrom at h
  split at h
  ·rename_i h0
   cases k with
   | zero => simp at hx; subst hx; exact h0
   | succ k => rw [show j + (k + 1) = j + 1 + k by omega]; exact faultFrom_zero l r (j + 1) h k x (by simpa using hx)
  ·rename_i h0; exact absurd h h0
theorem insOk_of {L : List Ins} {i : Nat} {x : Ins} (h : insFault L i x = 0) : InsOk L x := by
 unfold insFault at h
 split at h
 ·rename_i h0; exact absurd h h0
 ·rename_i h0
  split at h
  ·cases h
  ·split at h
   ·cases h
   ·rename_i h2
    refine ⟨by simpa using h0, fun ht => ?_⟩
    rcases Int.lt_or_le (labelAt L x.to) 0 with h3 | h3
    ·exact absurd ⟨ht, h3⟩ h2
    ·exact h3
theorem codeFault_right {L : List Ins} (h : (codeFault L).1 = 0) : L.length <= 2000 /\ ∀ (i : Nat) x, L[i]? = some x -> InsOk L x := by
 unfold codeFault at h
 split at h
 ·cases h
 ·rename_i hl
  exact ⟨by omega, fun i x hx => insOk_of (by simpa using faultFrom_zero L L 0 h i x hx)⟩
theorem right_of {cs : List (List Ins)} (h : ∀ (t : Nat) L, cs[t]? = some L -> (codeFault L).1 = 0) (h1 : 1 <= cs.length) (h6 : cs.length <= 6) (hs : ∀ (t : Nat) L, cs[t]? = some L -> ∀ (i : Nat) x, L[i]? = some x -> x.to.size <= maxLen) : Right cs where
 right t L ht := by
  obtain ⟨h2, h3⟩ := codeFault_right (h t L ht)
  exact ⟨h2, fun i x hx => ⟨h3 i x hx, hs t L ht i x hx⟩⟩
 few := h6
 some' := h1
def rowAt (R : List (List Int)) (t r : Nat) : Int := (R.getD t []).getD r 0
def Ar.filled (s : Ar) (R : List (List Int)) : Ar where
 size := s.size
 given c := if c < R.length then 1 else s.given c
 there c := if c < R.length then true else s.there c
 words c k := if c < R.length /\ k < 4 then rowAt R c k else s.words c k
def Sta.mach (s : Sta) (n : Nat) : Mk where
 mem := { Rm.fresh s.cells.toNat n with ar := (Rm.fresh s.cells.toNat n).ar.filled s.init }
 regs t r := rowAt s.regs t r
 pc _ := 0
 marks := []
 faults := 0
end
section
open Go.RowKit Go.Extern.Stop Go.Stop Go.Extern
def insAt (ad : Option Addr) (l : List Ins) (w : World) : Prop := ∀ i x, l[i]? = some x -> ∃ b off, ad = some ⟨b, off, none⟩ /\
 w.cell? ⟨b, off + i * 5, none⟩ = some (.string x.op) /\ w.cell? ⟨b, off + i * 5 + 1, none⟩ = some (.int .i64 x.a) /\ w.cell? ⟨b, off + i * 5 + 2, none⟩ = some (.int .i64 x.b) /\
 w.cell? ⟨b, off + i * 5 + 3, none⟩ = some (.int .i64 x.c) /\ w.cell? ⟨b, off + i * 5 + 4, none⟩ = some (.string x.to)
theorem insAt_below {ad : Option Addr} {l : List Ins} {w w' : World} (h : insAt ad l w) (k : Below w.heap.size w w') : insAt ad l w' := fun i x hx => by
 obtain ⟨b, off, e, h0, h1, h2, h3, h4⟩ := h i x hx
 exact ⟨b, off, e, keep_cell k h0, keep_cell k h1, keep_cell k h2, keep_cell k h3, keep_cell k h4⟩
end
section
open Go.RowKit Go.Extern.Stop Go.Stop Go.Extern Go.Maps Go.WideMaps
abbrev xerr (a : Addr) : Value := .iface 227 (.pointer (some a))
def xval (a : Nat -> Addr) : Nat -> Value
 | 0 => .nilIface
 | k + 1 => xerr (a k)
end
end Go.Proofs.YtaiigfcfmcicjaaGreatDoor
