/-
  DERIVED. GIVEN WITH THE SEED: THE CARDS: each row of YtoialadjpcdbaaaGreatDoorRows.lean that lists a variable, with what it lists TIED to the program's text (the seventh form; the later family's looks); each row that meets fmt, with fmt's text TOLD by the authors' own Lean function (tested against real Go, not proved from fmt's source: count such statements apart). THE CARD IS WHAT COUNTS. Prove the row's statement (the work); the ties are given (YtoialadjpcdbaaaGreatDoorTie.lean); close each card by the builder's one call (the guide's Derived/Test/ToyasCard.lean, 'card_holds'). Laid BY PROGRAM, IN A SANDBOX (cutbox-door.mjs). By AI agents, Wed Nov 11 2026. No macro, syntax, notation, axiom, sorry.
-/
import Derived.Test.YtoialadjpcdbaaaGreatDoorRows
import GoSem.ClaimSeven
namespace Go.Proofs.YtoialadjpcdbaaaGreatDoor
namespace Rows

/-- THE TIED CARD OF 'quiescentlaw2.ClientChecks'. -/
def clientChecksCard : Claim7 := { stood := { row := clientChecksRow, standIns := [], harness := (true, "f53b2012455602c0022167af20f3a8fc664f15d827de6b9570f5ed4af721b959"), looks := true }, kinds := [], alts := [], laidByText := true, laidKinds := [.data, .data, .data, .handle, .sentinel, .sentinel, .sentinel, .sentinel, .sentinel, .sentinel, .sentinel, .sentinel, .sentinel], laidTests := true, laidLooks := .later }
def ClientChecksCardSaid : Prop := Claim7.holds Tryz.pinned (.plain (OpenSpec.ofChange clientChecksSpec)) clientChecksCard

/-- THE TIED CARD OF 'quiescentlaw2.ClientBuilds'. -/
def clientBuildsCard : Claim7 := { stood := { row := clientBuildsRow, standIns := [], harness := (true, "f53b2012455602c0022167af20f3a8fc664f15d827de6b9570f5ed4af721b959"), looks := true }, kinds := [], alts := [], laidByText := true, laidKinds := [.data, .data, .data, .handle, .sentinel, .sentinel, .sentinel, .sentinel, .sentinel, .sentinel, .sentinel, .sentinel, .sentinel], laidTests := true, laidLooks := .later }
def ClientBuildsCardSaid : Prop := Claim7.holds Tryz.pinned (.plain (OpenSpec.ofChange clientBuildsSpec)) clientBuildsCard

/-- THE SECOND FORM's CARD OF 'quiescentlaw2.ClientChecks'. -/
def clientChecksUptoCard : Claim7 := { stood := { row := clientChecksUptoRow, standIns := [], harness := (true, "f53b2012455602c0022167af20f3a8fc664f15d827de6b9570f5ed4af721b959"), looks := true }, kinds := [], alts := [], laidByText := true, laidKinds := [.data, .data, .data, .handle, .sentinel, .sentinel, .sentinel, .sentinel, .sentinel, .sentinel, .sentinel, .sentinel, .sentinel], laidTests := true, laidLooks := .later }
def ClientChecksUptoCardSaid : Prop := Claim7.holds Tryz.pinned (.plain (OpenSpec.upto clientChecksSpec)) clientChecksUptoCard

/-- THE SECOND FORM's CARD OF 'quiescentlaw2.ClientBuilds'. -/
def clientBuildsUptoCard : Claim7 := { stood := { row := clientBuildsUptoRow, standIns := [], harness := (true, "f53b2012455602c0022167af20f3a8fc664f15d827de6b9570f5ed4af721b959"), looks := true }, kinds := [], alts := [], laidByText := true, laidKinds := [.data, .data, .data, .handle, .sentinel, .sentinel, .sentinel, .sentinel, .sentinel, .sentinel, .sentinel, .sentinel, .sentinel], laidTests := true, laidLooks := .later }
def ClientBuildsUptoCardSaid : Prop := Claim7.holds Tryz.pinned (.plain (OpenSpec.upto clientBuildsSpec)) clientBuildsUptoCard
end Rows
end Go.Proofs.YtoialadjpcdbaaaGreatDoor
