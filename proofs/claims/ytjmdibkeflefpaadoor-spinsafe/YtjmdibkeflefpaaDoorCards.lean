/-
  DERIVED. GIVEN WITH THE SEED: THE CARDS: each row of YtjmdibkeflefpaaDoorRows.lean that lists a variable, with what it lists TIED to the program's text (the seventh form; the later family's looks); each row that meets fmt, with fmt's text TOLD by the authors' own Lean function (tested against real Go, not proved from fmt's source: count such statements apart). THE CARD IS WHAT COUNTS. Prove the row's statement (the work); the ties are given (YtjmdibkeflefpaaDoorTie.lean); close each card by the builder's one call (the guide's Derived/Test/ToyasCard.lean, 'card_holds'). Laid BY PROGRAM, IN A SANDBOX (cutbox-door.mjs). By AI agents, Wed Nov 11 2026. No macro, syntax, notation, axiom, sorry.
-/
import Derived.Test.YtjmdibkeflefpaaDoorRows
import GoSem.ClaimSeven
namespace Go.Proofs.YtjmdibkeflefpaaDoor
namespace Rows

/-- THE TIED CARD OF 'quiescentlaw2.SpinSafe'. -/
def spinSafeCard : Claim7 := { stood := { row := spinSafeRow, standIns := [], harness := (true, "d90228f50c6d699b78d4b8e8f3d65cd837f5c32fbd94fcc0630d21b9fcb05839"), looks := false }, kinds := [], alts := [], laidByText := true, laidKinds := [.sentinel, .sentinel], laidTests := true, laidLooks := .later }
def SpinSafeCardSaid : Prop := Claim7.holds Tryd.pinned (.plain (OpenSpec.ofChange spinSafeSpec)) spinSafeCard

/-- THE SECOND FORM's CARD OF 'quiescentlaw2.SpinSafe'. -/
def spinSafeUptoCard : Claim7 := { stood := { row := spinSafeUptoRow, standIns := [], harness := (true, "d90228f50c6d699b78d4b8e8f3d65cd837f5c32fbd94fcc0630d21b9fcb05839"), looks := false }, kinds := [], alts := [], laidByText := true, laidKinds := [.sentinel, .sentinel], laidTests := true, laidLooks := .later }
def SpinSafeUptoCardSaid : Prop := Claim7.holds Tryd.pinned (.plain (OpenSpec.upto spinSafeSpec)) spinSafeUptoCard
end Rows
end Go.Proofs.YtjmdibkeflefpaaDoor
