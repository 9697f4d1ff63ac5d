/-
  DERIVED. GIVEN WITH THE SEED: THE CARDS: each row of YtnngbdoegchlmaaDoorRows.lean that lists a variable, with what it lists TIED to the program's text (the seventh form; the later family's looks); each row that meets fmt, with fmt's text TOLD by the authors' own Lean function (tested against real Go, not proved from fmt's source: count such statements apart). THE CARD IS WHAT COUNTS. Prove the row's statement (the work); the ties are given (YtnngbdoegchlmaaDoorTie.lean); close each card by the builder's one call (the guide's Derived/Test/ToyasCard.lean, 'card_holds'). Laid BY PROGRAM, IN A SANDBOX (cutbox-door.mjs). By AI agents, Wed Nov 11 2026. No macro, syntax, notation, axiom, sorry.
-/
import Derived.Test.YtnngbdoegchlmaaDoorRows
import GoSem.ClaimSeven
namespace Go.Proofs.YtnngbdoegchlmaaDoor
namespace Rows

/-- THE TIED CARD OF 'quiescentlaw3.StackCode'. -/
def stackCodeCard : Claim7 := { stood := { row := stackCodeRow, standIns := [], harness := (true, "6d3fe1ad7dc893e0a2261dc2149a760530764e4b386c390b06dced206d745bec"), looks := true }, kinds := [], alts := [], laidByText := true, laidKinds := [.handle, .sentinel, .sentinel, .sentinel, .sentinel, .sentinel, .sentinel, .sentinel, .sentinel, .sentinel], laidTests := true, laidLooks := .later }
def StackCodeCardSaid : Prop := Claim7.holds Tryd.pinned (.plain (OpenSpec.ofChange stackCodeSpec)) stackCodeCard

/-- THE SECOND FORM's CARD OF 'quiescentlaw3.StackCode'. -/
def stackCodeUptoCard : Claim7 := { stood := { row := stackCodeUptoRow, standIns := [], harness := (true, "6d3fe1ad7dc893e0a2261dc2149a760530764e4b386c390b06dced206d745bec"), looks := true }, kinds := [], alts := [], laidByText := true, laidKinds := [.handle, .sentinel, .sentinel, .sentinel, .sentinel, .sentinel, .sentinel, .sentinel, .sentinel, .sentinel], laidTests := true, laidLooks := .later }
def StackCodeUptoCardSaid : Prop := Claim7.holds Tryd.pinned (.plain (OpenSpec.upto stackCodeSpec)) stackCodeUptoCard
end Rows
end Go.Proofs.YtnngbdoegchlmaaDoor
