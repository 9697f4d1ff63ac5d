/-
  DERIVED. GIVEN WITH THE SEED: THE CARDS: each row of YtnoigmdmgdcliaaGreatDoorRows.lean that lists a variable, with what it lists TIED to the program's text (the seventh form; the later family's looks); each row that meets fmt, with fmt's text TOLD by the authors' own Lean function (tested against real Go, not proved from fmt's source: count such statements apart). THE CARD IS WHAT COUNTS. Prove the row's statement (the work); the ties are given (YtnoigmdmgdcliaaGreatDoorTie.lean); close each card by the builder's one call (the guide's Derived/Test/ToyasCard.lean, 'card_holds'). Laid BY PROGRAM, IN A SANDBOX (cutbox-door.mjs). By AI agents, Wed Nov 11 2026. No macro, syntax, notation, axiom, sorry.
-/
import Derived.Test.YtnoigmdmgdcliaaGreatDoorRows
import GoSem.ClaimSeven
namespace Go.Proofs.YtnoigmdmgdcliaaGreatDoor
namespace Rows

/-- THE TIED CARD OF 'quiescentlaw3.JudgeReplays'. -/
def judgeReplaysCard : Claim7 := { stood := { row := judgeReplaysRow, standIns := [], harness := (true, "3fa30c7a1063ec8359c8b4539c981e8f52ed02467c996bb5b7b7b29eb1ab2bbc"), looks := true }, kinds := [], alts := [], laidByText := true, laidKinds := [.data, .data, .data, .handle, .sentinel, .sentinel, .sentinel, .sentinel, .sentinel, .sentinel, .sentinel, .sentinel, .sentinel], laidTests := true, laidLooks := .later }
def JudgeReplaysCardSaid : Prop := Claim7.holds Tryz.pinned (.plain (OpenSpec.ofChange judgeReplaysSpec)) judgeReplaysCard

/-- THE TIED CARD OF 'quiescentlaw3.JudgeLitmus'. -/
def judgeLitmusCard : Claim7 := { stood := { row := judgeLitmusRow, standIns := [], harness := (true, "3fa30c7a1063ec8359c8b4539c981e8f52ed02467c996bb5b7b7b29eb1ab2bbc"), looks := true }, kinds := [], alts := [], laidByText := true, laidKinds := [.data, .data, .data, .handle, .sentinel, .sentinel, .sentinel, .sentinel, .sentinel, .sentinel, .sentinel, .sentinel], laidTests := true, laidLooks := .later }
def JudgeLitmusCardSaid : Prop := Claim7.holds Tryz.pinned (.plain (OpenSpec.ofChange judgeLitmusSpec)) judgeLitmusCard

/-- THE SECOND FORM's CARD OF 'quiescentlaw3.JudgeReplays'. -/
def judgeReplaysUptoCard : Claim7 := { stood := { row := judgeReplaysUptoRow, standIns := [], harness := (true, "3fa30c7a1063ec8359c8b4539c981e8f52ed02467c996bb5b7b7b29eb1ab2bbc"), looks := true }, kinds := [], alts := [], laidByText := true, laidKinds := [.data, .data, .data, .handle, .sentinel, .sentinel, .sentinel, .sentinel, .sentinel, .sentinel, .sentinel, .sentinel, .sentinel], laidTests := true, laidLooks := .later }
def JudgeReplaysUptoCardSaid : Prop := Claim7.holds Tryz.pinned (.plain (OpenSpec.upto judgeReplaysSpec)) judgeReplaysUptoCard

/-- THE SECOND FORM's CARD OF 'quiescentlaw3.JudgeLitmus'. -/
def judgeLitmusUptoCard : Claim7 := { stood := { row := judgeLitmusUptoRow, standIns := [], harness := (true, "3fa30c7a1063ec8359c8b4539c981e8f52ed02467c996bb5b7b7b29eb1ab2bbc"), looks := true }, kinds := [], alts := [], laidByText := true, laidKinds := [.data, .data, .data, .handle, .sentinel, .sentinel, .sentinel, .sentinel, .sentinel, .sentinel, .sentinel, .sentinel], laidTests := true, laidLooks := .later }
def JudgeLitmusUptoCardSaid : Prop := Claim7.holds Tryz.pinned (.plain (OpenSpec.upto judgeLitmusSpec)) judgeLitmusUptoCard
end Rows
end Go.Proofs.YtnoigmdmgdcliaaGreatDoor
