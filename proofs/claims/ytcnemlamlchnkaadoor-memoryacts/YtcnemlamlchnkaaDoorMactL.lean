/- An act's list, read. -/
import Derived.Test.YtcnemlamlchnkaaDoorLift
import Derived.Test.YtcnemlamlchnkaaDoorMactX
namespace Go.Proofs.YtcnemlamlchnkaaDoor
open Go.ChangeShapes Go.WideShapes Go.ChangeAt Go.RowKit Go.Joins Go.Deep

theorem cells_Act : Tryd.prog.cellsOf 77 = 7 := by kernel_rfl
theorem cells_str : Tryd.prog.cellsOf 9 = 1 := by kernel_rfl
theorem cells_ref : Tryd.prog.cellsOf 36 = 2 := by kernel_rfl
theorem cells_i : Tryd.prog.cellsOf 3 = 1 := by kernel_rfl

set_option maxRecDepth 100000 in
/-- An act, read. -/
theorem mact_of_trod {H : Type} {enc : TypeId × Value → H} {W : World} {sp : Nat → Bool} {held : Bool} {fuel : Nat} {cs : List Value} {x : DataW H × List MemPlace}
    (h : DataW.trod enc Tryd.prog W 0 sp held fuel 77 cs = some x) : ∃ y : MAct, cs = [.string y.kind, .int .i64 y.t, .int .i64 y.c, .int .i64 y.g, .int .i64 y.k, .int .i64 y.v, .int .i64 y.old] := by
  obtain ⟨xs, n, _, _, hl, hlen, hf⟩ := DataW.trod_struct Tryd.underlying77 h
  rw [cells_Act] at hl
  match cs, hl with
  | [c0, c1, c2, c3, c4, c5, c6], _ =>
    match xs, hlen with
    | [x0, x1, x2, x3, x4, x5], _ =>
      have f0 : DataW.trod enc Tryd.prog W 0 sp held n 9 [c0] = some x0 := by simpa [cells_str] using hf 0 _ rfl
      have f1 : DataW.trod enc Tryd.prog W 0 sp held n 3 [c1] = some x1 := by simpa [cells_i] using hf 1 _ rfl
      have f2 : DataW.trod enc Tryd.prog W 0 sp held n 36 [c2, c3] = some x2 := by simpa [cells_ref] using hf 2 _ rfl
      have f3 : DataW.trod enc Tryd.prog W 0 sp held n 3 [c4] = some x3 := by simpa [cells_i] using hf 3 _ rfl
      have f4 : DataW.trod enc Tryd.prog W 0 sp held n 3 [c5] = some x4 := by simpa [cells_i] using hf 4 _ rfl
      have f5 : DataW.trod enc Tryd.prog W 0 sp held n 3 [c6] = some x5 := by simpa [cells_i] using hf 5 _ rfl
      obtain ⟨s, e0, _, _⟩ := DataW.trod_string Tryd.underlying9 f0
      obtain ⟨y0, y1, m, _, _, g0, g1⟩ := trod_struct2 Tryd.underlying36 f2
      simp only [cells_i] at g0 g1
      simp only [List.drop_zero, List.drop_succ_cons, List.take_succ_cons, List.take_zero] at g0 g1
      obtain ⟨r1, e1, _, _⟩ := DataW.trod_int Tryd.underlying3 f1
      obtain ⟨r2, e2, _, _⟩ := DataW.trod_int Tryd.underlying3 g0
      obtain ⟨r3, e3, _, _⟩ := DataW.trod_int Tryd.underlying3 g1
      obtain ⟨r4, e4, _, _⟩ := DataW.trod_int Tryd.underlying3 f3
      obtain ⟨r5, e5, _, _⟩ := DataW.trod_int Tryd.underlying3 f4
      obtain ⟨r6, e6, _, _⟩ := DataW.trod_int Tryd.underlying3 f5
      refine ⟨⟨s, r1, r2, r3, r4, r5, r6⟩, ?_⟩
      simp only [List.cons.injEq, and_true] at e0 e1 e2 e3 e4 e5 e6
      rw [e0, e1, e2, e3, e4, e5, e6]

/-- A list of acts, read. -/
theorem macts_of_trod {H : Type} {enc : TypeId × Value → H} {W : World} {fuel : Nat} {cs : List Value} {x : DataW H × List MemPlace}
    (h : DataW.trod enc Tryd.prog W 0 (fun _ => true) true fuel 72 cs = some x) : ∃ (ad : Option Addr) (cap : Nat) (l : List MAct), cs = [.slice ad l.length cap] ∧ mactsAt ad l W := by
  rcases open_slice Tryd.underlying72 h with ⟨rfl, _⟩ | ⟨a, len, cap, m, n, D, Pl, rfl, _, hl, _, hm, _, hel⟩
  · exact ⟨none, 0, [], rfl, fun i x hx => by simp at hx⟩
  · have hm' : len ≤ m := by rw [hm]; split <;> omega
    have hex : ∀ i, i < len → ∃ y : MAct, ∀ j, j < 7 → W.cell? ((a.add (i * 7)).add j) = ([.string y.kind, .int .i64 y.t, .int .i64 y.c, .int .i64 y.g, .int .i64 y.k, .int .i64 y.v, .int .i64 y.old] : List Value)[j]? := fun i hi => by
      obtain ⟨cs', h1, h2⟩ := hel i (by omega)
      rw [cells_Act] at h1
      obtain ⟨y, rfl⟩ := mact_of_trod h2
      exact ⟨y, (cells_at h1).2⟩
    have hinh : Inhabited MAct := ⟨⟨ByteArray.empty, 0, 0, 0, 0, 0, 0⟩⟩
    obtain ⟨f, hf⟩ := choose_lt (p := fun i (y : MAct) => ∀ j, j < 7 → W.cell? ((a.add (i * 7)).add j) = ([.string y.kind, .int .i64 y.t, .int .i64 y.c, .int .i64 y.g, .int .i64 y.k, .int .i64 y.v, .int .i64 y.old] : List Value)[j]?) (h := hex)
    refine ⟨some a, cap, (List.range len).map f, by simp, fun i x hx => ?_⟩
    have hi : i < len := by
      have := (List.getElem?_eq_some_iff.1 hx).1
      simpa using this
    obtain rfl : x = f i := by
      rw [List.getElem?_map, List.getElem?_range hi] at hx
      simpa using hx.symm
    have hs : a.spot = none := by
      have h0 := hf 0 (by omega) 0 (by decide)
      exact spot_none (a := a) h0
    have h0 := hf i hi
    have e : ∀ j, (a.add (i * 7)).add j = ⟨a.block, a.off + i * 7 + j, none⟩ := fun j => by
      rw [add_plain a hs, add_plain _ rfl]
    refine ⟨a.block, a.off, by obtain ⟨b, o, sp⟩ := a; simp only at hs; subst hs; rfl, ?_, ?_, ?_, ?_, ?_, ?_, ?_⟩
    · have := h0 0 (by decide); rw [e] at this; exact this
    · have := h0 1 (by decide); rw [e] at this; exact this
    · have := h0 2 (by decide); rw [e] at this; exact this
    · have := h0 3 (by decide); rw [e] at this; exact this
    · have := h0 4 (by decide); rw [e] at this; exact this
    · have := h0 5 (by decide); rw [e] at this; exact this
    · have := h0 6 (by decide); rw [e] at this; exact this
end Go.Proofs.YtcnemlamlchnkaaDoor
