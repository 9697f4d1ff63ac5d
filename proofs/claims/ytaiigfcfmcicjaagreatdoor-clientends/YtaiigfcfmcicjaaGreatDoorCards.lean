/-
  DERIVED. GIVEN WITH THE SEED: THE CARDS: each row of YtaiigfcfmcicjaaGreatDoorRows.lean that lists a variable, with what it lists TIED to the program's text (the seventh form; the later family's looks); each row that meets fmt, with fmt's text TOLD by the authors' own Lean function (tested against real Go, not proved from fmt's source: count such statements apart). THE CARD IS WHAT COUNTS. Prove the row's statement (the work); the ties are given (YtaiigfcfmcicjaaGreatDoorTie.lean); close each card by the builder's one call (the guide's Derived/Test/ToyasCard.lean, 'card_holds'). Laid BY PROGRAM, IN A SANDBOX (cutbox-door.mjs). By AI agents, Wed Nov 11 2026. No macro, syntax, notation, axiom, sorry.
-/
import Derived.Test.YtaiigfcfmcicjaaGreatDoorRows
import GoSem.ClaimSeven
namespace Go.Proofs.YtaiigfcfmcicjaaGreatDoor
namespace Rows

/-- THE TIED CARD OF 'quiescentlaw2.ClientChecks'. -/
def clientChecksCard : Claim7 := { stood := { row := clientChecksRow, standIns := [], harness := (true, "d8fe092f434f16a9a0ea9d3806d5771d1266082f0aa16b571ff920b853d9c700"), looks := true }, kinds := [], alts := [], laidByText := true, laidKinds := [.data, .data, .data, .handle, .sentinel, .sentinel, .sentinel, .sentinel, .sentinel, .sentinel, .sentinel, .sentinel, .sentinel], laidTests := true, laidLooks := .later }
def ClientChecksCardSaid : Prop := Claim7.holds Tryz.pinned (.plain (OpenSpec.ofChange clientChecksSpec)) clientChecksCard

/-- THE TIED CARD OF 'quiescentlaw2.ClientBuilds'. -/
def clientBuildsCard : Claim7 := { stood := { row := clientBuildsRow, standIns := [], harness := (true, "d8fe092f434f16a9a0ea9d3806d5771d1266082f0aa16b571ff920b853d9c700"), looks := true }, kinds := [], alts := [], laidByText := true, laidKinds := [.data, .data, .data, .handle, .sentinel, .sentinel, .sentinel, .sentinel, .sentinel, .sentinel, .sentinel, .sentinel, .sentinel], laidTests := true, laidLooks := .later }
def ClientBuildsCardSaid : Prop := Claim7.holds Tryz.pinned (.plain (OpenSpec.ofChange clientBuildsSpec)) clientBuildsCard

/-- THE TIED CARD OF 'quiescentlaw2.ClientEnds'. -/
def clientEndsCard : Claim7 := { stood := { row := clientEndsRow, standIns := [], harness := (true, "d8fe092f434f16a9a0ea9d3806d5771d1266082f0aa16b571ff920b853d9c700"), looks := true }, kinds := [], alts := [], laidByText := true, laidKinds := [.data, .data, .data, .sentinel, .sentinel, .sentinel, .sentinel, .sentinel], laidTests := true, laidLooks := .later }
def ClientEndsCardSaid : Prop := Claim7.holds Tryz.pinned (.plain (OpenSpec.ofChange clientEndsSpec)) clientEndsCard

/-- THE TIED CARD OF 'quiescentlaw2.ClientOne'. -/
def clientOneCard : Claim7 := { stood := { row := clientOneRow, standIns := [], harness := (true, "d8fe092f434f16a9a0ea9d3806d5771d1266082f0aa16b571ff920b853d9c700"), looks := true }, kinds := [], alts := [], laidByText := true, laidKinds := [.data, .data, .data, .sentinel, .sentinel, .sentinel, .sentinel, .sentinel], laidTests := true, laidLooks := .later }
def ClientOneCardSaid : Prop := Claim7.holds Tryz.pinned (.plain (OpenSpec.ofChange clientOneSpec)) clientOneCard

/-- THE TIED CARD OF 'quiescentlaw2.ClientSafe'. -/
def clientSafeCard : Claim7 := { stood := { row := clientSafeRow, standIns := [], harness := (true, "d8fe092f434f16a9a0ea9d3806d5771d1266082f0aa16b571ff920b853d9c700"), looks := true }, kinds := [], alts := [], laidByText := true, laidKinds := [.data, .data, .data, .sentinel, .sentinel, .sentinel, .sentinel, .sentinel], laidTests := true, laidLooks := .later }
def ClientSafeCardSaid : Prop := Claim7.holds Tryz.pinned (.plain (OpenSpec.ofChange clientSafeSpec)) clientSafeCard

/-- THE SECOND FORM's CARD OF 'quiescentlaw2.ClientChecks'. -/
def clientChecksUptoCard : Claim7 := { stood := { row := clientChecksUptoRow, standIns := [], harness := (true, "d8fe092f434f16a9a0ea9d3806d5771d1266082f0aa16b571ff920b853d9c700"), looks := true }, kinds := [], alts := [], laidByText := true, laidKinds := [.data, .data, .data, .handle, .sentinel, .sentinel, .sentinel, .sentinel, .sentinel, .sentinel, .sentinel, .sentinel, .sentinel], laidTests := true, laidLooks := .later }
def ClientChecksUptoCardSaid : Prop := Claim7.holds Tryz.pinned (.plain (OpenSpec.upto clientChecksSpec)) clientChecksUptoCard

/-- THE SECOND FORM's CARD OF 'quiescentlaw2.ClientBuilds'. -/
def clientBuildsUptoCard : Claim7 := { stood := { row := clientBuildsUptoRow, standIns := [], harness := (true, "d8fe092f434f16a9a0ea9d3806d5771d1266082f0aa16b571ff920b853d9c700"), looks := true }, kinds := [], alts := [], laidByText := true, laidKinds := [.data, .data, .data, .handle, .sentinel, .sentinel, .sentinel, .sentinel, .sentinel, .sentinel, .sentinel, .sentinel, .sentinel], laidTests := true, laidLooks := .later }
def ClientBuildsUptoCardSaid : Prop := Claim7.holds Tryz.pinned (.plain (OpenSpec.upto clientBuildsSpec)) clientBuildsUptoCard

/-- THE SECOND FORM's CARD OF 'quiescentlaw2.ClientEnds'. -/
def clientEndsUptoCard : Claim7 := { stood := { row := clientEndsUptoRow, standIns := [], harness := (true, "d8fe092f434f16a9a0ea9d3806d5771d1266082f0aa16b571ff920b853d9c700"), looks := true }, kinds := [], alts := [], laidByText := true, laidKinds := [.data, .data, .data, .sentinel, .sentinel, .sentinel, .sentinel, .sentinel], laidTests := true, laidLooks := .later }
def ClientEndsUptoCardSaid : Prop := Claim7.holds Tryz.pinned (.plain (OpenSpec.upto clientEndsSpec)) clientEndsUptoCard

/-- THE SECOND FORM's CARD OF 'quiescentlaw2.ClientOne'. -/
def clientOneUptoCard : Claim7 := { stood := { row := clientOneUptoRow, standIns := [], harness := (true, "d8fe092f434f16a9a0ea9d3806d5771d1266082f0aa16b571ff920b853d9c700"), looks := true }, kinds := [], alts := [], laidByText := true, laidKinds := [.data, .data, .data, .sentinel, .sentinel, .sentinel, .sentinel, .sentinel], laidTests := true, laidLooks := .later }
def ClientOneUptoCardSaid : Prop := Claim7.holds Tryz.pinned (.plain (OpenSpec.upto clientOneSpec)) clientOneUptoCard

/-- THE SECOND FORM's CARD OF 'quiescentlaw2.ClientSafe'. -/
def clientSafeUptoCard : Claim7 := { stood := { row := clientSafeUptoRow, standIns := [], harness := (true, "d8fe092f434f16a9a0ea9d3806d5771d1266082f0aa16b571ff920b853d9c700"), looks := true }, kinds := [], alts := [], laidByText := true, laidKinds := [.data, .data, .data, .sentinel, .sentinel, .sentinel, .sentinel, .sentinel], laidTests := true, laidLooks := .later }
def ClientSafeUptoCardSaid : Prop := Claim7.holds Tryz.pinned (.plain (OpenSpec.upto clientSafeSpec)) clientSafeUptoCard
end Rows
end Go.Proofs.YtaiigfcfmcicjaaGreatDoor
