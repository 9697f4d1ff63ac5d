import Derived.Test.YtgmokighfgdnjaaGreatDoorB14
import Derived.Test.YtgmokighfgdnjaaGreatDoorB47
import Derived.Test.YtgmokighfgdnjaaGreatDoorTie
import Derived.Test.YtgmokighfgdnjaaGreatDoorCards
import Derived.Carry
import Derived.SevenTiedAt

/- GeD -/
namespace Go.Proofs.YtgmokighfgdnjaaGreatDoor
open Go.ChangeShapes Go.WideShapes Go.ChangeAt Go.RowKit Go.Joins Go.Deep

theorem cells_Cast : Tryz.prog.cellsOf 55 = 4 := by kernel_rfl
theorem cells_bC : Tryz.prog.cellsOf 4 = 1 := by kernel_rfl
set_option maxRecDepth 100000 in
theorem cast_of_trod {H : Type} {enc : TypeId × Value → H} {W : World} {sp : Nat → Bool} {held : Bool} {fuel : Nat} {cs : List Value} {x : DataW H × List MemPlace}
    (h : DataW.trod enc Tryz.prog W 0 sp held fuel 55 cs = some x) : ∃ y : CsI, cs = [.bool y.w, .int .i64 y.tm, .int .i64 y.rd, .bool y.ns] := by
  obtain ⟨xs, n, _, _, hl, hlen, hf⟩ := DataW.trod_struct Tryz.underlying55 h
  rw [cells_Cast] at hl
  match cs, hl with
  | [c0, c1, c2, c3], _ =>
    match xs, hlen with
    | [x0, x1, x2, x3], _ =>
      have f0 : DataW.trod enc Tryz.prog W 0 sp held n 4 [c0] = some x0 := by simpa [cells_bC] using hf 0 _ rfl
      have f1 : DataW.trod enc Tryz.prog W 0 sp held n 3 [c1] = some x1 := by simpa [kcellsS_n] using hf 1 _ rfl
      have f2 : DataW.trod enc Tryz.prog W 0 sp held n 3 [c2] = some x2 := by simpa [kcellsS_n] using hf 2 _ rfl
      have f3 : DataW.trod enc Tryz.prog W 0 sp held n 4 [c3] = some x3 := by simpa [cells_bC] using hf 3 _ rfl
      obtain ⟨r0, e0, _, _⟩ := DataW.trod_bool Tryz.underlying4 f0
      obtain ⟨r1, e1, _, _⟩ := DataW.trod_int Tryz.underlying3 f1
      obtain ⟨r2, e2, _, _⟩ := DataW.trod_int Tryz.underlying3 f2
      obtain ⟨r3, e3, _, _⟩ := DataW.trod_bool Tryz.underlying4 f3
      refine ⟨⟨r0, r1, r2, r3⟩, ?_⟩
      simp only [List.cons.injEq, and_true] at e0 e1 e2 e3
      rw [e0, e1, e2, e3]
theorem casts_of_trod {H : Type} {enc : TypeId × Value → H} {W : World} {fuel : Nat} {sp : Nat → Bool} {held : Bool} {cs : List Value} {x : DataW H × List MemPlace} (h : DataW.trod enc Tryz.prog W 0 sp held fuel 42 cs = some x) :
    ∃ (ad : Option Addr) (cap : Nat) (l : List CsI), cs = [.slice ad l.length cap] ∧ castsAt ad l W := by
  have hinh : Inhabited CsI := ⟨⟨false, 0, 0, false⟩⟩
  obtain ⟨ad, cap, l, h1, h2, -⟩ := listS_of_trod (fun y : CsI => [.bool y.w, .int .i64 y.tm, .int .i64 y.rd, .bool y.ns]) 4 (by decide) (fun _ => True) Tryz.underlying42 cells_Cast (fun _ => rfl) (fun n cs x h => by obtain ⟨y, e⟩ := cast_of_trod h; exact ⟨y, e, trivial⟩) h
  refine ⟨ad, cap, l, h1, fun i y hy => ?_⟩
  obtain ⟨b, off, e, hc, -⟩ := h2 i y hy
  exact ⟨b, off, e, hc 0 (by decide), hc 1 (by decide), hc 2 (by decide), hc 3 (by decide)⟩

theorem five_plain : (Rows.graceSafeRow.laid.all fun x => x.2.handleName?.isNone) = true := by kernel_rfl
theorem five_met (os : Os) (args : Array Value) : laidMetH Tryz.prog Rows.graceSafeRow.laid ((World.laidAll Tryz.prog os Rows.graceSafeRow.laid).forCall (fun _ _ => 0) ⟨#[], args, []⟩).memory := by
  rw [MakeChecks.laidMetH_plain _ _ _ five_plain]
  exact laidMet_laidAll _ (by kernel_rfl) (by kernel_rfl)
end Go.Proofs.YtgmokighfgdnjaaGreatDoor
