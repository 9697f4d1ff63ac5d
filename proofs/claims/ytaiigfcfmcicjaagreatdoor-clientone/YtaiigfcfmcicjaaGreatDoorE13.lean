import Derived.Test.YtaiigfcfmcicjaaGreatDoorE10
import Derived.Test.YtaiigfcfmcicjaaGreatDoorE09
import Derived.Laws.Rows
import Derived.Test.YtaiigfcfmcicjaaGreatDoorE12
import Derived.RegionTactic
import Derived.BigRegion
import Derived.OwnWalk
import Derived.Maps.AppendAt
import Derived.Lib.QuietBelow
import Derived.Deep.QuietTactic
import Derived.BigQuiet
import Derived.Test.YtaiigfcfmcicjaaGreatDoorE11
namespace Go.Proofs.YtaiigfcfmcicjaaGreatDoor
set_option maxRecDepth 100000
set_option maxHeartbeats 8000000
section
open Go.RowKit Go.Extern.Stop Go.Stop Go.Extern Go.Maps Go.WideMaps Go.Sort
theorem turn_facts (n : Int) (k : Int) (k1 : 1 <= k) (k6 : k <= 6) (r : Int) (hr : n.tmod (2 * k) = r) : -(2 * k) <= r /\ r < 2 * k /\ IntKind.i64.wrap r = r /\ IntKind.i64.wrap (r + 2 * k) = r + 2 * k := by
 have hM := tmod_mod n (show 0 < 2 * k by omega)
 have b1 := Int.emod_nonneg n (show (2 * k) ≠ 0 by omega)
 have b2 := Int.emod_lt_of_pos n (show 0 < 2 * k by omega)
 have b5 := Int.tmod_lt_of_pos n (show 0 < 2 * k by omega)
 rw [hr] at b5
 rw [hr] at hM
 generalize n % (2 * k) = q at *
 by_cases hc : r < 0
 ·rw [if_pos hc] at hM
  exact ⟨by omega, by omega, by rw [IntKind.wrap_i64]; omega, by rw [IntKind.wrap_i64]; omega⟩
 ·rw [if_neg hc] at hM
  exact ⟨by omega, by omega, by rw [IntKind.wrap_i64]; omega, by rw [IntKind.wrap_i64]; omega⟩
end
section
open Go.RowKit Go.Extern.Stop Go.Stop Go.Extern Go.Maps Go.WideMaps Go.Sort
def numsAt (ad : Option Addr) (l : List Int) (w : World) : Prop := ∀ (i : Nat) x, l[i]? = some x -> ∃ b off, ad = some ⟨b, off, none⟩ /\ w.cell? ⟨b, off + i, none⟩ = some (.int .i64 x)
theorem numsAt.turns {S : Nat -> Nat -> Prop} {ad : Option Addr} {l : List Int} {w w' : World} (h : numsAt ad l w) (t : Turns S w w') (hS : ∀ b off o, ad = some ⟨b, off, none⟩ -> ¬ S b o) : numsAt ad l w' := fun i x hx => by
 obtain ⟨b, off, e, hc⟩ := h i x hx
 exact ⟨b, off, e, t.keep hc (hS b off _ e)⟩
theorem numsAt.below {ad : Option Addr} {l : List Int} {w w' : World} (h : numsAt ad l w) (hb : Below w.heap.size w w') : numsAt ad l w' := h.turns (S := fun _ _ => False) (Turns.of_below hb) (fun _ _ _ _ h => h)
end
section
open Go.RowKit Go.Extern.Stop Go.Stop Go.Extern Go.Maps Go.WideMaps Go.Sort
def rowsAt (ad : Option Addr) (R : List (List Int)) (w : World) : Prop := ∀ (i : Nat) row, R[i]? = some row -> ∃ b off adr cap, ad = some ⟨b, off, none⟩ /\ w.cell? ⟨b, off + i, none⟩ = some (.slice adr row.length cap) /\ row.length <= cap /\ numsAt adr row w
theorem rowsAt.below {ad : Option Addr} {R : List (List Int)} {w w' : World} (h : rowsAt ad R w) (hb : Below w.heap.size w w') : rowsAt ad R w' := fun i row hr => by
 obtain ⟨b, off, adr, cap, h1, h2, h3, h4⟩ := h i row hr
 exact ⟨b, off, adr, cap, h1, keep_cell hb h2, h3, h4.below hb⟩
theorem all_hit {α : Type} {f : α -> Bool} {l : List α} {j : Nat} {x : α} (hx : l[j]? = some x) (h : f x = false) : l.all f = false := by
 cases hb : l.all f with
 | false => rfl
 | true => rw [List.all_eq_true] at hb; rw [hb x (List.mem_of_getElem? hx)] at h; cases h
theorem all_done {α : Type} {f : α -> Bool} {l : List α} (h : ∀ (k : Nat) x, k < l.length -> l[k]? = some x -> f x = true) : l.all f = true := by
 rw [List.all_eq_true]
 intro x hx
 obtain ⟨k, hk, rfl⟩ := List.getElem_of_mem hx
 exact h k _ hk (List.getElem?_eq_getElem hk)
structure StaPl where
 ai : Option Addr
 ci : Nat
 ar : Option Addr
 cr : Nat
structure StaAt (s : Sta) (q : StaPl) (w : World) : Prop where
 init : rowsAt q.ai s.init w
 regs : rowsAt q.ar s.regs w
 ci : s.init.length <= q.ci
 cr : s.regs.length <= q.cr
 li : s.init.length <= 9223372036854775807
 lr : s.regs.length <= 9223372036854775807
 ri : ∀ (i : Nat) row, s.init[i]? = some row -> row.length <= 9223372036854775807
 rr : ∀ (i : Nat) row, s.regs[i]? = some row -> row.length <= 9223372036854775807
theorem StaAt.below {s : Sta} {q : StaPl} {w w' : World} (h : StaAt s q w) (hb : Below w.heap.size w w') : StaAt s q w' := ⟨h.init.below hb, h.regs.below hb, h.ci, h.cr, h.li, h.lr, h.ri, h.rr⟩
end
end Go.Proofs.YtaiigfcfmcicjaaGreatDoor
