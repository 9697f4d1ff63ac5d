import Derived.Test.YtgmokighfgdnjaaGreatDoorB12
import Derived.RegionTactic
import Derived.BigRegion
import Derived.OwnWalk
import Derived.Maps.AppendAt
import Derived.Test.YtgmokighfgdnjaaGreatDoorB13
import Derived.Lib.QuietBelow
import Derived.Deep.QuietTactic
import Derived.BigQuiet
import Derived.Test.YtgmokighfgdnjaaGreatDoorB01
import Derived.Deep.Slices
import Derived.Lib.SmallJoins

/- MkY -/
namespace Go.Proofs.YtgmokighfgdnjaaGreatDoor
open Go.RowKit Go.Extern.Stop Go.Stop Go.Extern Go.Maps Go.WideMaps Go.Sort

theorem turn_facts (n : Int) (k : Int) (k1 : 1 ≤ k) (k6 : k ≤ 6) (r : Int) (hr : n.tmod (2 * k) = r) : -(2 * k) ≤ r ∧ r < 2 * k ∧ IntKind.i64.wrap r = r ∧ IntKind.i64.wrap (r + 2 * k) = r + 2 * k := by
  have hM := tmod_mod n (show 0 < 2 * k by omega)
  have b1 := Int.emod_nonneg n (show (2 * k) ≠ 0 by omega)
  have b2 := Int.emod_lt_of_pos n (show 0 < 2 * k by omega)
  have b5 := Int.tmod_lt_of_pos n (show 0 < 2 * k by omega)
  rw [hr] at b5
  rw [hr] at hM
  generalize n % (2 * k) = q at *
  by_cases hc : r < 0
  · rw [if_pos hc] at hM
    exact ⟨by omega, by omega, by rw [IntKind.wrap_i64]; omega, by rw [IntKind.wrap_i64]; omega⟩
  · rw [if_neg hc] at hM
    exact ⟨by omega, by omega, by rw [IntKind.wrap_i64]; omega, by rw [IntKind.wrap_i64]; omega⟩

end Go.Proofs.YtgmokighfgdnjaaGreatDoor

/- MkZ -/
namespace Go.Proofs.YtgmokighfgdnjaaGreatDoor
open Go.RowKit Go.Extern.Stop Go.Stop Go.Extern Go.Maps Go.WideMaps Go.Sort

def numsAt (ad : Option Addr) (l : List Int) (w : World) : Prop := ∀ (i : Nat) x, l[i]? = some x → ∃ b off, ad = some ⟨b, off, none⟩ ∧ w.cell? ⟨b, off + i, none⟩ = some (.int .i64 x)
theorem numsAt.turns {S : Nat → Nat → Prop} {ad : Option Addr} {l : List Int} {w w' : World} (h : numsAt ad l w) (t : Turns S w w') (hS : ∀ b off o, ad = some ⟨b, off, none⟩ → ¬ S b o) : numsAt ad l w' := fun i x hx => by
  obtain ⟨b, off, e, hc⟩ := h i x hx
  exact ⟨b, off, e, t.keep hc (hS b off _ e)⟩
theorem numsAt.below {ad : Option Addr} {l : List Int} {w w' : World} (h : numsAt ad l w) (hb : Below w.heap.size w w') : numsAt ad l w' := h.turns (S := fun _ _ => False) (Turns.of_below hb) (fun _ _ _ _ h => h)

end Go.Proofs.YtgmokighfgdnjaaGreatDoor

/- SpP -/
namespace Go.Proofs.YtgmokighfgdnjaaGreatDoor
open Go.ChangeShapes Go.WideShapes Go.ChangeAt Go.RowKit Go.Joins Go.Deep

theorem kcellsS_n : Tryz.prog.cellsOf 3 = 1 := by kernel_rfl
theorem listS_of_trod {H : Type} {enc : TypeId × Value → H} {W : World} {fuel : Nat} {sp : Nat → Bool} {held : Bool} {cs : List Value} {x : DataW H × List MemPlace} {t e : TypeId} {α : Type} [Inhabited α] (F : α → List Value) (k : Nat) (hk : 0 < k) (Q : α → Prop)
    (ht : Tryz.prog.underlying t = some (.slice e)) (hc : Tryz.prog.cellsOf e = k) (hF : ∀ y, (F y).length = k)
    (hr : ∀ (n : Nat) (cs : List Value) x, DataW.trod enc Tryz.prog W 0 sp held n e cs = some x → ∃ y, cs = F y ∧ Q y)
    (h : DataW.trod enc Tryz.prog W 0 sp held fuel t cs = some x) :
    ∃ (ad : Option Addr) (cap : Nat) (l : List α), cs = [.slice ad l.length cap] ∧ (∀ (i : Nat) y, l[i]? = some y → ∃ b off, ad = some ⟨b, off, none⟩ ∧ (∀ j, j < k → W.cell? ⟨b, off + i * k + j, none⟩ = (F y)[j]?) ∧ Q y) ∧ (ad = none → l = [] ∧ cap = 0) ∧ l.length ≤ cap ∧ l.length ≤ maxLen := by
  rcases open_slice ht h with ⟨rfl, _⟩ | ⟨a, len, cap, m, n, D, Pl, rfl, _, hl, hl2, hm, hx, hel⟩
  · exact ⟨none, 0, [], rfl, fun i y hy => by simp at hy, fun _ => ⟨rfl, rfl⟩, Nat.zero_le _, Nat.zero_le _⟩
  · have hm' : len ≤ m := by rw [hm]; split <;> omega
    have hex : ∀ i, i < len → ∃ y : α, (∀ j, j < k → W.cell? ((a.add (i * k)).add j) = (F y)[j]?) ∧ Q y := fun i hi => by
      obtain ⟨cs', h1, h2⟩ := hel i (by omega)
      rw [hc] at h1
      obtain ⟨y, rfl, h3⟩ := hr _ _ _ h2
      exact ⟨y, (cells_at h1).2, h3⟩
    obtain ⟨f, hf⟩ := choose_lt (p := fun i (y : α) => (∀ j, j < k → W.cell? ((a.add (i * k)).add j) = (F y)[j]?) ∧ Q y) (h := hex)
    refine ⟨some a, cap, (List.range len).map f, by simp, fun i y hy => ?_, fun h => (by cases h), by simpa using hl, by simp; omega⟩
    have hi : i < len := by
      have := (List.getElem?_eq_some_iff.1 hy).1
      simpa using this
    obtain rfl : y = f i := by
      rw [List.getElem?_map, List.getElem?_range hi] at hy
      simpa using hy.symm
    have h00 := (hf 0 (by omega)).1 0 hk
    obtain ⟨v0, hv0⟩ : ∃ v, (F (f 0))[0]? = some v := ⟨_, List.getElem?_eq_getElem (by rw [hF]; exact hk)⟩
    rw [hv0, Nat.zero_mul] at h00
    have hs : a.spot = none := spot_none (a := a) h00
    have e : ∀ j, (a.add (i * k)).add j = ⟨a.block, a.off + i * k + j, none⟩ := fun j => by
      rw [add_plain a hs, add_plain _ rfl]
    refine ⟨a.block, a.off, by obtain ⟨b, o, sp⟩ := a; simp only at hs; subst hs; rfl, fun j hj => ?_, (hf i hi).2⟩
    have := (hf i hi).1 j hj
    rw [e] at this
    exact this

set_option maxRecDepth 100000 in
theorem kintS_of_trod {H : Type} {enc : TypeId × Value → H} {W : World} {sp : Nat → Bool} {held : Bool} {fuel : Nat} {cs : List Value} {x : DataW H × List MemPlace}
    (h : DataW.trod enc Tryz.prog W 0 sp held fuel 3 cs = some x) : ∃ y : Int, cs = [.int .i64 y] := by
  obtain ⟨r, e, _, _⟩ := DataW.trod_int Tryz.underlying3 h
  exact ⟨r, e⟩

theorem numsS_of_trod {H : Type} {enc : TypeId × Value → H} {W : World} {fuel : Nat} {sp : Nat → Bool} {held : Bool} {cs : List Value} {x : DataW H × List MemPlace} (h : DataW.trod enc Tryz.prog W 0 sp held fuel 36 cs = some x) :
    ∃ (ad : Option Addr) (cap : Nat) (l : List Int), cs = [.slice ad l.length cap] ∧ numsAt ad l W ∧ l.length ≤ cap ∧ l.length ≤ maxLen := by
  obtain ⟨ad, cap, l, h1, h2, h3, h4, h5⟩ := listS_of_trod (fun y : Int => [.int .i64 y]) 1 (by decide) (fun _ => True) Tryz.underlying36 kcellsS_n (fun _ => rfl) (fun n cs x h => by obtain ⟨y, e⟩ := kintS_of_trod h; exact ⟨y, e, trivial⟩) h
  refine ⟨ad, cap, l, h1, fun i y hy => ?_, h4, h5⟩
  obtain ⟨b, off, e, hc, -⟩ := h2 i y hy
  have := hc 0 (by decide)
  rw [Nat.mul_one, Nat.add_zero] at this
  exact ⟨b, off, e, this⟩

end Go.Proofs.YtgmokighfgdnjaaGreatDoor
