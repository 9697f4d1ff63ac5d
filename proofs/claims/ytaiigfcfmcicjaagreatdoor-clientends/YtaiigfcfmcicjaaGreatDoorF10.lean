import Derived.Test.YtaiigfcfmcicjaaGreatDoorF07
import Derived.Laws.Rows
import Derived.Test.YtaiigfcfmcicjaaGreatDoorF09
import Derived.Test.YtaiigfcfmcicjaaGreatDoorF08
import Derived.RegionTactic
import Derived.BigRegion
import Derived.OwnWalk
import Derived.Maps.AppendAt
import Derived.Lib.QuietBelow
import Derived.Deep.QuietTactic
import Derived.BigQuiet
import Derived.Laws.AppendOwn
import Derived.Lib.LazyBuf
namespace Go.Proofs.YtaiigfcfmcicjaaGreatDoor
set_option maxRecDepth 100000
set_option maxHeartbeats 8000000
section
open Go.RowKit Go.Extern.Stop Go.Stop Go.Extern Go.Maps Go.WideMaps Go.Sort
theorem turn_facts (n : Int) (k : Int) (k1 : 1 <= k) (k6 : k <= 6) (r : Int) (hr : n.tmod (2 * k) = r) : -(2 * k) <= r /\ r < 2 * k /\ IntKind.i64.wrap r = r /\ IntKind.i64.wrap (r + 2 * k) = r + 2 * k := by
 have hM := tmod_mod n (show 0 < 2 * k by omega)
 have b1 := Int.emod_nonneg n (show (2 * k) ≠ 0 by omega)
 have b2 := Int.emod_lt_of_pos n (show 0 < 2 * k by omega)
 have b5 := Int.tmod_lt_of_pos n (show 0 < 2 * k by omega)
 rw [hr] at b5
 rw [hr] at hM
 generalize n % (2 * k) = q at *
 by_cases hc : r < 0
 ·rw [if_pos hc] at hM
  exact ⟨by omega, by omega, by rw [IntKind.wrap_i64]; omega, by rw [IntKind.wrap_i64]; omega⟩
 ·rw [if_neg hc] at hM
  exact ⟨by omega, by omega, by rw [IntKind.wrap_i64]; omega, by rw [IntKind.wrap_i64]; omega⟩
variable {ad : Option Addr} {l : List Int} {w w' : World}
def numsAt (ad : Option Addr) (l : List Int) (w : World) : Prop := ∀ (i : Nat) x, l[i]? = some x -> ∃ b off, ad = some ⟨b, off, none⟩ /\ w.cell? ⟨b, off + i, none⟩ = some (.int .i64 x)
theorem numsAt.turns {S : Nat -> Nat -> Prop} (h : numsAt ad l w) (t : Turns S w w') (hS : ∀ b off o, ad = some ⟨b, off, none⟩ -> ¬ S b o) : numsAt ad l w' := fun i x hx => by
 obtain ⟨b, off, e, hc⟩ := h i x hx
 exact ⟨b, off, e, t.keep hc (hS b off _ e)⟩
theorem numsAt.below (h : numsAt ad l w) (hb : Below w.heap.size w w') : numsAt ad l w' := h.turns (S := fun _ _ => False) (Turns.of_below hb) (fun _ _ _ _ h => h)
end
section
open Go.RowKit Go.Extern.Stop Go.Stop Go.Extern Go.Maps Go.WideMaps Go.Sort
variable {w w' : World}
def rowsAt (ad : Option Addr) (R : List (List Int)) (w : World) : Prop := ∀ (i : Nat) row, R[i]? = some row -> ∃ b off adr cap, ad = some ⟨b, off, none⟩ /\ w.cell? ⟨b, off + i, none⟩ = some (.slice adr row.length cap) /\ row.length <= cap /\ numsAt adr row w
theorem rowsAt.below {ad : Option Addr} {R : List (List Int)} (h : rowsAt ad R w) (hb : Below w.heap.size w w') : rowsAt ad R w' := fun i row hr => by
 obtain ⟨b, off, adr, cap, h1, h2, h3, h4⟩ := h i row hr
 exact ⟨b, off, adr, cap, h1, keep_cell hb h2, h3, h4.below hb⟩
theorem all_hit {α : Type} {f : α -> Bool} {l : List α} {j : Nat} {x : α} (hx : l[j]? = some x) (h : f x = false) : l.all f = false := by
 cases hb : l.all f with
 | false => rfl
 | true => rw [List.all_eq_true] at hb; rw [hb x (List.mem_of_getElem? hx)] at h; cases h
theorem all_done {α : Type} {f : α -> Bool} {l : List α} (h : ∀ (k : Nat) x, k < l.length -> l[k]? = some x -> f x = true) : l.all f = true := by
 rw [List.all_eq_true]
 intro x hx
 obtain ⟨k, hk, rfl⟩ := List.getElem_of_mem hx
 exact h k _ hk (List.getElem?_eq_getElem hk)
structure StaPl where
 ai : Option Addr
 ci : Nat
 ar : Option Addr
 cr : Nat
structure StaAt (s : Sta) (q : StaPl) (w : World) : Prop where
 init : rowsAt q.ai s.init w
 regs : rowsAt q.ar s.regs w
 ci : s.init.length <= q.ci
 cr : s.regs.length <= q.cr
 li : s.init.length <= 9223372036854775807
 lr : s.regs.length <= 9223372036854775807
 ri : ∀ (i : Nat) row, s.init[i]? = some row -> row.length <= 9223372036854775807
 rr : ∀ (i : Nat) row, s.regs[i]? = some row -> row.length <= 9223372036854775807
theorem StaAt.below {s : Sta} {q : StaPl} (h : StaAt s q w) (hb : Below w.heap.size w w') : StaAt s q w' := ⟨h.init.below hb, h.regs.below hb, h.ci, h.cr, h.li, h.lr, h.ri, h.rr⟩
end
section
open Go.RowKit Go.Extern.Stop Go.Stop Go.Extern Go.Maps Go.WideMaps Go.Sort
variable {l : List Ins} {w : World}
def icell (x : Ins) : List Value := [.string x.op, .int .i64 x.a, .int .i64 x.b, .int .i64 x.c, .string x.to]
def icells (l : List Ins) : List Value := l.flatMap icell
theorem icells_len (l : List Ins) : (icells l).length = l.length * 5 := by
 induction l with
 | nil => rfl
 | cons x l ih =>
  show (icell x ++ icells l).length = _
  rw [List.length_append, ih, List.length_cons]
  show 5 + _ = _
  omega
theorem icells_at : ∀ (l : List Ins) (i j : Nat) (x : Ins), l[i]? = some x -> j < 5 -> (icells l)[i * 5 + j]? = (icell x)[j]?
 | [], i, j, x, h, _ => by simp at h
 | y :: l, 0, j, x, h, hj => by
  cases h
  show (icell _ ++ icells l)[0 * 5 + j]? = _
  rw [List.getElem?_append_left (by show 0 * 5 + j < 5; omega), Nat.zero_mul, Nat.zero_add]
 | y :: l, i + 1, j, x, h, hj => by
  show (icell y ++ icells l)[(i + 1) * 5 + j]? = _
  rw [List.getElem?_append_right (by show 5 <= _; omega), show (i + 1) * 5 + j - (icell y).length = i * 5 + j by show _ - 5 = _; omega]
  exact icells_at l i j x (by simpa using h) hj
theorem icells_one : ∀ u ∈ icells l, u.oneCell' = true := fun u hu => by
 obtain ⟨x, -, h⟩ := List.mem_flatMap.1 hu
 simp only [icell, List.mem_cons, List.not_mem_nil, or_false] at h
 rcases h with rfl | rfl | rfl | rfl | rfl <;> rfl
theorem insAt_cells {b off : Nat} (h : insAt (some ⟨b, off, none⟩) l w) (k : Nat) (u : Value) (hu : (icells l)[k]? = some u) : w.cell? ⟨b, off + k, none⟩ = some u := by
 have hk := (List.getElem?_eq_some_iff.1 hu).1
 rw [icells_len] at hk
 obtain ⟨x, hx⟩ : ∃ x, l[k / 5]? = some x := ⟨_, List.getElem?_eq_getElem (by omega)⟩
 obtain ⟨b', off', e, h0, h1, h2, h3, h4⟩ := h _ x hx
 cases e
 have e := icells_at l (k / 5) (k % 5) x hx (Nat.mod_lt _ (by decide))
 rw [show k / 5 * 5 + k % 5 = k by omega, hu] at e
 have h5 : k % 5 < 5 := Nat.mod_lt _ (by decide)
 rw [show off + k = off + k / 5 * 5 + k % 5 by omega]
 generalize k % 5 = j at *
 match j, h5, e with
 | 0, _, e => cases e; exact h0
 | 1, _, e => cases e; exact h1
 | 2, _, e => cases e; exact h2
 | 3, _, e => cases e; exact h3
 | 4, _, e => cases e; exact h4
theorem insAt_of_icells {base : Nat} {e : TypeId} {v : Value} (h : w.ownsRow base e 5 v l.length (icells l)) : ∃ ad cap, v = .slice ad l.length cap /\ l.length <= cap /\ cap <= maxLen /\ insAt ad l w := by
 obtain ⟨g, c, rfl, h1, h2, h3⟩ := ownsRow_shape h
 refine ⟨g, c, rfl, h1, h2, fun i x hx => ?_⟩
 have hi := (List.getElem?_eq_some_iff.1 hx).1
 have key : ∀ j, j < 5 -> ∀ u, (icell x)[j]? = some u -> ∃ b off, g = some ⟨b, off, none⟩ /\ w.cell? ⟨b, off + (i * 5 + j), none⟩ = some u := fun j hj u hu => by
  rw [<- icells_at l i j x hx hj] at hu
  obtain ⟨gg, e, hc⟩ := h3 _ _ hu
  exact ⟨gg, 0, e, by rw [Nat.zero_add]; exact hc⟩
 obtain ⟨b, off, rfl, k0⟩ := key 0 (by decide) _ rfl
 obtain ⟨_, _, e1, k1⟩ := key 1 (by decide) _ rfl
 obtain ⟨_, _, e2, k2⟩ := key 2 (by decide) _ rfl
 obtain ⟨_, _, e3, k3⟩ := key 3 (by decide) _ rfl
 obtain ⟨_, _, e4, k4⟩ := key 4 (by decide) _ rfl
 cases e1; cases e2; cases e3; cases e4
 exact ⟨b, off, rfl, k0, k1, k2, k3, k4⟩
theorem instrInfo : ∃ i, (Tryz.prog).info? 101 = some i /\ i.zero = some (.agg #[.string ⟨#[]⟩, .int .i64 0, .int .i64 0, .int .i64 0, .string ⟨#[]⟩]) /\ i.size = 5 /\ i.bytes = 56 := info_parts (by kernel_rfl)
end
end Go.Proofs.YtaiigfcfmcicjaaGreatDoor
