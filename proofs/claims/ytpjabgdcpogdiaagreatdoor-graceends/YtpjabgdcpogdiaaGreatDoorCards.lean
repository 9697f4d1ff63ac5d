/-
  DERIVED. GIVEN WITH THE SEED: THE CARDS: each row of YtpjabgdcpogdiaaGreatDoorRows.lean that lists a variable, with what it lists TIED to the program's text (the seventh form; the later family's looks); each row that meets fmt, with fmt's text TOLD by the authors' own Lean function (tested against real Go, not proved from fmt's source: count such statements apart). THE CARD IS WHAT COUNTS. Prove the row's statement (the work); the ties are given (YtpjabgdcpogdiaaGreatDoorTie.lean); close each card by the builder's one call (the guide's Derived/Test/ToyasCard.lean, 'card_holds'). Laid BY PROGRAM, IN A SANDBOX (cutbox-door.mjs). By AI agents, Wed Nov 11 2026. No macro, syntax, notation, axiom, sorry.
-/
import Derived.Test.YtpjabgdcpogdiaaGreatDoorRows
import GoSem.ClaimSeven
namespace Go.Proofs.YtpjabgdcpogdiaaGreatDoor
namespace Rows

/-- THE TIED CARD OF 'quiescentlaw2.GraceEnds'. -/
def graceEndsCard : Claim7 := { stood := { row := graceEndsRow, standIns := [], harness := (true, "12f08ddf0dca97b6de67808f827edc23a6e90a2e198bc8f400938b64fdbf5f56"), looks := false }, kinds := [], alts := [], laidByText := true, laidKinds := [.data, .data, .data, .sentinel, .sentinel], laidTests := true, laidLooks := .later }
def GraceEndsCardSaid : Prop := Claim7.holds Tryz.pinned (.plain (OpenSpec.ofChange graceEndsSpec)) graceEndsCard

/-- THE SECOND FORM's CARD OF 'quiescentlaw2.GraceEnds'. -/
def graceEndsUptoCard : Claim7 := { stood := { row := graceEndsUptoRow, standIns := [], harness := (true, "12f08ddf0dca97b6de67808f827edc23a6e90a2e198bc8f400938b64fdbf5f56"), looks := false }, kinds := [], alts := [], laidByText := true, laidKinds := [.data, .data, .data, .sentinel, .sentinel], laidTests := true, laidLooks := .later }
def GraceEndsUptoCardSaid : Prop := Claim7.holds Tryz.pinned (.plain (OpenSpec.upto graceEndsSpec)) graceEndsUptoCard
end Rows
end Go.Proofs.YtpjabgdcpogdiaaGreatDoor
