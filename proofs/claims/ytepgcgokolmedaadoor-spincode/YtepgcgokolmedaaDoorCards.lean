/-
  DERIVED. GIVEN WITH THE SEED: THE CARDS: each row of YtepgcgokolmedaaDoorRows.lean that lists a variable, with what it lists TIED to the program's text (the seventh form; the later family's looks); each row that meets fmt, with fmt's text TOLD by the authors' own Lean function (tested against real Go, not proved from fmt's source: count such statements apart). THE CARD IS WHAT COUNTS. Prove the row's statement (the work); the ties are given (YtepgcgokolmedaaDoorTie.lean); close each card by the builder's one call (the guide's Derived/Test/ToyasCard.lean, 'card_holds'). Laid BY PROGRAM, IN A SANDBOX (cutbox-door.mjs). By AI agents, Wed Nov 11 2026. No macro, syntax, notation, axiom, sorry.
-/
import Derived.Test.YtepgcgokolmedaaDoorRows
import GoSem.ClaimSeven
namespace Go.Proofs.YtepgcgokolmedaaDoor
namespace Rows

/-- THE TIED CARD OF 'quiescentlaw2.SpinCode'. -/
def spinCodeCard : Claim7 := { stood := { row := spinCodeRow, standIns := [], harness := (true, "fe65be62115d596410600af92d01b4d154fa57679cdc25a9a1673eef678ffbc2"), looks := true }, kinds := [], alts := [], laidByText := true, laidKinds := [.handle, .sentinel, .sentinel, .sentinel, .sentinel, .sentinel, .sentinel, .sentinel, .sentinel, .sentinel], laidTests := true, laidLooks := .later }
def SpinCodeCardSaid : Prop := Claim7.holds Tryd.pinned (.plain (OpenSpec.ofChange spinCodeSpec)) spinCodeCard

/-- THE TIED CARD OF 'quiescentlaw2.SpinEnds'. -/
def spinEndsCard : Claim7 := { stood := { row := spinEndsRow, standIns := [], harness := (true, "fe65be62115d596410600af92d01b4d154fa57679cdc25a9a1673eef678ffbc2"), looks := true }, kinds := [], alts := [], laidByText := true, laidKinds := [.sentinel, .sentinel], laidTests := true, laidLooks := .later }
def SpinEndsCardSaid : Prop := Claim7.holds Tryd.pinned (.plain (OpenSpec.ofChange spinEndsSpec)) spinEndsCard

/-- THE SECOND FORM's CARD OF 'quiescentlaw2.SpinCode'. -/
def spinCodeUptoCard : Claim7 := { stood := { row := spinCodeUptoRow, standIns := [], harness := (true, "fe65be62115d596410600af92d01b4d154fa57679cdc25a9a1673eef678ffbc2"), looks := true }, kinds := [], alts := [], laidByText := true, laidKinds := [.handle, .sentinel, .sentinel, .sentinel, .sentinel, .sentinel, .sentinel, .sentinel, .sentinel, .sentinel], laidTests := true, laidLooks := .later }
def SpinCodeUptoCardSaid : Prop := Claim7.holds Tryd.pinned (.plain (OpenSpec.upto spinCodeSpec)) spinCodeUptoCard

/-- THE SECOND FORM's CARD OF 'quiescentlaw2.SpinEnds'. -/
def spinEndsUptoCard : Claim7 := { stood := { row := spinEndsUptoRow, standIns := [], harness := (true, "fe65be62115d596410600af92d01b4d154fa57679cdc25a9a1673eef678ffbc2"), looks := true }, kinds := [], alts := [], laidByText := true, laidKinds := [.sentinel, .sentinel], laidTests := true, laidLooks := .later }
def SpinEndsUptoCardSaid : Prop := Claim7.holds Tryd.pinned (.plain (OpenSpec.upto spinEndsSpec)) spinEndsUptoCard
end Rows
end Go.Proofs.YtepgcgokolmedaaDoor
