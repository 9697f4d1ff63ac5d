import Derived.Test.YtjmdibkeflefpaaDoorA11
import Derived.RegionTactic
import Derived.BigRegion
import Derived.OwnWalk
import Derived.Maps.AppendAt
import Derived.Test.YtjmdibkeflefpaaDoorA12
import Derived.Lib.QuietBelow
import Derived.Deep.QuietTactic
import Derived.BigQuiet
import Derived.Test.YtjmdibkeflefpaaDoorA01
import Derived.Deep.Slices
import Derived.Lib.SmallJoins

/- MkY -/
namespace Go.Proofs.YtjmdibkeflefpaaDoor
open Go.RowKit Go.Extern.Stop Go.Stop Go.Extern Go.Maps Go.WideMaps Go.Sort

theorem turn_facts (n : Int) (k : Int) (k1 : 1 ≤ k) (k6 : k ≤ 6) (r : Int) (hr : n.tmod (2 * k) = r) : -(2 * k) ≤ r ∧ r < 2 * k ∧ IntKind.i64.wrap r = r ∧ IntKind.i64.wrap (r + 2 * k) = r + 2 * k := by
  have hM := tmod_mod n (show 0 < 2 * k by omega)
  have b1 := Int.emod_nonneg n (show (2 * k) ≠ 0 by omega)
  have b2 := Int.emod_lt_of_pos n (show 0 < 2 * k by omega)
  have b5 := Int.tmod_lt_of_pos n (show 0 < 2 * k by omega)
  rw [hr] at b5
  rw [hr] at hM
  generalize n % (2 * k) = q at *
  by_cases hc : r < 0
  · rw [if_pos hc] at hM
    exact ⟨by omega, by omega, by rw [IntKind.wrap_i64]; omega, by rw [IntKind.wrap_i64]; omega⟩
  · rw [if_neg hc] at hM
    exact ⟨by omega, by omega, by rw [IntKind.wrap_i64]; omega, by rw [IntKind.wrap_i64]; omega⟩

end Go.Proofs.YtjmdibkeflefpaaDoor

/- MkZ -/
namespace Go.Proofs.YtjmdibkeflefpaaDoor
open Go.RowKit Go.Extern.Stop Go.Stop Go.Extern Go.Maps Go.WideMaps Go.Sort

def numsAt (ad : Option Addr) (l : List Int) (w : World) : Prop := ∀ (i : Nat) x, l[i]? = some x → ∃ b off, ad = some ⟨b, off, none⟩ ∧ w.cell? ⟨b, off + i, none⟩ = some (.int .i64 x)
theorem numsAt.turns {S : Nat → Nat → Prop} {ad : Option Addr} {l : List Int} {w w' : World} (h : numsAt ad l w) (t : Turns S w w') (hS : ∀ b off o, ad = some ⟨b, off, none⟩ → ¬ S b o) : numsAt ad l w' := fun i x hx => by
  obtain ⟨b, off, e, hc⟩ := h i x hx
  exact ⟨b, off, e, t.keep hc (hS b off _ e)⟩
theorem numsAt.below {ad : Option Addr} {l : List Int} {w w' : World} (h : numsAt ad l w) (hb : Below w.heap.size w w') : numsAt ad l w' := h.turns (S := fun _ _ => False) (Turns.of_below hb) (fun _ _ _ _ h => h)

theorem runO_count {cs : List (List Ins)} {m : Mk} {l : List Int} {j : Nat} {x : Int} (hx : l[j]? = some x) : (m.runO cs (l.take (j + 1))).1 = (m.runO cs (l.take j)).1 + okN ((m.runO cs (l.take j)).2.turnO cs x).1 := by
  have e : l.take (j + 1) = l.take j ++ [x] := by rw [List.take_add_one, hx]; rfl
  rw [e, Mk.runO_snoc]

end Go.Proofs.YtjmdibkeflefpaaDoor

/- SpP -/
namespace Go.Proofs.YtjmdibkeflefpaaDoor
open Go.ChangeShapes Go.WideShapes Go.ChangeAt Go.RowKit Go.Joins Go.Deep

theorem kcellsS_n : Tryd.prog.cellsOf 3 = 1 := by kernel_rfl
theorem listS_of_trod {H : Type} {enc : TypeId × Value → H} {W : World} {fuel : Nat} {sp : Nat → Bool} {held : Bool} {cs : List Value} {x : DataW H × List MemPlace} {t e : TypeId} {α : Type} [Inhabited α] (F : α → List Value) (k : Nat) (hk : 0 < k) (Q : α → Prop)
    (ht : Tryd.prog.underlying t = some (.slice e)) (hc : Tryd.prog.cellsOf e = k) (hF : ∀ y, (F y).length = k)
    (hr : ∀ (n : Nat) (cs : List Value) x, DataW.trod enc Tryd.prog W 0 sp held n e cs = some x → ∃ y, cs = F y ∧ Q y)
    (h : DataW.trod enc Tryd.prog W 0 sp held fuel t cs = some x) :
    ∃ (ad : Option Addr) (cap : Nat) (l : List α), cs = [.slice ad l.length cap] ∧ (∀ (i : Nat) y, l[i]? = some y → ∃ b off, ad = some ⟨b, off, none⟩ ∧ (∀ j, j < k → W.cell? ⟨b, off + i * k + j, none⟩ = (F y)[j]?) ∧ Q y) ∧ (ad = none → l = [] ∧ cap = 0) ∧ l.length ≤ cap ∧ l.length ≤ maxLen := by
  rcases open_slice ht h with ⟨rfl, _⟩ | ⟨a, len, cap, m, n, D, Pl, rfl, _, hl, hl2, hm, hx, hel⟩
  · exact ⟨none, 0, [], rfl, fun i y hy => by simp at hy, fun _ => ⟨rfl, rfl⟩, Nat.zero_le _, Nat.zero_le _⟩
  · have hm' : len ≤ m := by rw [hm]; split <;> omega
    have hex : ∀ i, i < len → ∃ y : α, (∀ j, j < k → W.cell? ((a.add (i * k)).add j) = (F y)[j]?) ∧ Q y := fun i hi => by
      obtain ⟨cs', h1, h2⟩ := hel i (by omega)
      rw [hc] at h1
      obtain ⟨y, rfl, h3⟩ := hr _ _ _ h2
      exact ⟨y, (cells_at h1).2, h3⟩
    obtain ⟨f, hf⟩ := choose_lt (p := fun i (y : α) => (∀ j, j < k → W.cell? ((a.add (i * k)).add j) = (F y)[j]?) ∧ Q y) (h := hex)
    refine ⟨some a, cap, (List.range len).map f, by simp, fun i y hy => ?_, fun h => (by cases h), by simpa using hl, by simp; omega⟩
    have hi : i < len := by
      have := (List.getElem?_eq_some_iff.1 hy).1
      simpa using this
    obtain rfl : y = f i := by
      rw [List.getElem?_map, List.getElem?_range hi] at hy
      simpa using hy.symm
    have h00 := (hf 0 (by omega)).1 0 hk
    obtain ⟨v0, hv0⟩ : ∃ v, (F (f 0))[0]? = some v := ⟨_, List.getElem?_eq_getElem (by rw [hF]; exact hk)⟩
    rw [hv0, Nat.zero_mul] at h00
    have hs : a.spot = none := spot_none (a := a) h00
    have e : ∀ j, (a.add (i * k)).add j = ⟨a.block, a.off + i * k + j, none⟩ := fun j => by
      rw [add_plain a hs, add_plain _ rfl]
    refine ⟨a.block, a.off, by obtain ⟨b, o, sp⟩ := a; simp only at hs; subst hs; rfl, fun j hj => ?_, (hf i hi).2⟩
    have := (hf i hi).1 j hj
    rw [e] at this
    exact this

set_option maxRecDepth 100000 in
theorem kintS_of_trod {H : Type} {enc : TypeId × Value → H} {W : World} {sp : Nat → Bool} {held : Bool} {fuel : Nat} {cs : List Value} {x : DataW H × List MemPlace}
    (h : DataW.trod enc Tryd.prog W 0 sp held fuel 3 cs = some x) : ∃ y : Int, cs = [.int .i64 y] := by
  obtain ⟨r, e, _, _⟩ := DataW.trod_int Tryd.underlying3 h
  exact ⟨r, e⟩

theorem numsS_of_trod {H : Type} {enc : TypeId × Value → H} {W : World} {fuel : Nat} {sp : Nat → Bool} {held : Bool} {cs : List Value} {x : DataW H × List MemPlace} (h : DataW.trod enc Tryd.prog W 0 sp held fuel 22 cs = some x) :
    ∃ (ad : Option Addr) (cap : Nat) (l : List Int), cs = [.slice ad l.length cap] ∧ numsAt ad l W ∧ l.length ≤ cap ∧ l.length ≤ maxLen := by
  obtain ⟨ad, cap, l, h1, h2, h3, h4, h5⟩ := listS_of_trod (fun y : Int => [.int .i64 y]) 1 (by decide) (fun _ => True) Tryd.underlying22 kcellsS_n (fun _ => rfl) (fun n cs x h => by obtain ⟨y, e⟩ := kintS_of_trod h; exact ⟨y, e, trivial⟩) h
  refine ⟨ad, cap, l, h1, fun i y hy => ?_, h4, h5⟩
  obtain ⟨b, off, e, hc, -⟩ := h2 i y hy
  have := hc 0 (by decide)
  rw [Nat.mul_one, Nat.add_zero] at this
  exact ⟨b, off, e, this⟩

def twoTexts : List (String × List UInt8) := [("quiescent/api.ErrBound", [113, 117, 105, 101, 115, 99, 101, 110, 116, 58, 32, 98, 111, 117, 110, 100]), ("quiescent/api.ErrName", [113, 117, 105, 101, 115, 99, 101, 110, 116, 58, 32, 110, 97, 109, 101])]
def laidTwo : List (String × DataW Unit) := twoTexts.map sentOf
theorem door_two (os : Os) (args : Array Value) : laidMetH Tryd.prog laidTwo ((World.doorLaid Tryd.prog 400 os).forCall (fun _ _ => 0) ⟨#[], args, []⟩).memory :=
  laidMetH_of_parts3 (fuel := 8) (laidMet_of_run' 8 (by kernel_rfl) (by kernel_rfl)) (by kernel_rfl) (by kernel_rfl)
end Go.Proofs.YtjmdibkeflefpaaDoor
