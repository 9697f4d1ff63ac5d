/-
  DERIVED. GIVEN WITH THE SEED: THE CARDS: each row of YtgmokighfgdnjaaGreatDoorRows.lean that lists a variable, with what it lists TIED to the program's text (the seventh form; the later family's looks); each row that meets fmt, with fmt's text TOLD by the authors' own Lean function (tested against real Go, not proved from fmt's source: count such statements apart). THE CARD IS WHAT COUNTS. Prove the row's statement (the work); the ties are given (YtgmokighfgdnjaaGreatDoorTie.lean); close each card by the builder's one call (the guide's Derived/Test/ToyasCard.lean, 'card_holds'). Laid BY PROGRAM, IN A SANDBOX (cutbox-door.mjs). By AI agents, Wed Nov 11 2026. No macro, syntax, notation, axiom, sorry.
-/
import Derived.Test.YtgmokighfgdnjaaGreatDoorRows
import GoSem.ClaimSeven
namespace Go.Proofs.YtgmokighfgdnjaaGreatDoor
namespace Rows

/-- THE TIED CARD OF 'quiescentlaw2.GraceCode'. -/
def graceCodeCard : Claim7 := { stood := { row := graceCodeRow, standIns := [], harness := (true, "d96b3fadc349f2ad41dda712b7207807a68f691cda14d3f42f35beb17e21310f"), looks := true }, kinds := [], alts := [], laidByText := true, laidKinds := [.data, .data, .data, .handle, .sentinel, .sentinel, .sentinel, .sentinel, .sentinel, .sentinel, .sentinel, .sentinel, .sentinel], laidTests := true, laidLooks := .later }
def GraceCodeCardSaid : Prop := Claim7.holds Tryz.pinned (.plain (OpenSpec.ofChange graceCodeSpec)) graceCodeCard

/-- THE TIED CARD OF 'quiescentlaw2.GraceBursts'. -/
def graceBurstsCard : Claim7 := { stood := { row := graceBurstsRow, standIns := [], harness := (true, "d96b3fadc349f2ad41dda712b7207807a68f691cda14d3f42f35beb17e21310f"), looks := true }, kinds := [], alts := [], laidByText := true, laidKinds := [.data, .data, .data, .sentinel, .sentinel], laidTests := true, laidLooks := .later }
def GraceBurstsCardSaid : Prop := Claim7.holds Tryz.pinned (.plain (OpenSpec.ofChange graceBurstsSpec)) graceBurstsCard

/-- THE TIED CARD OF 'quiescentlaw2.GraceEnds'. -/
def graceEndsCard : Claim7 := { stood := { row := graceEndsRow, standIns := [], harness := (true, "d96b3fadc349f2ad41dda712b7207807a68f691cda14d3f42f35beb17e21310f"), looks := true }, kinds := [], alts := [], laidByText := true, laidKinds := [.data, .data, .data, .sentinel, .sentinel], laidTests := true, laidLooks := .later }
def GraceEndsCardSaid : Prop := Claim7.holds Tryz.pinned (.plain (OpenSpec.ofChange graceEndsSpec)) graceEndsCard

/-- THE TIED CARD OF 'quiescentlaw2.GraceNone'. -/
def graceNoneCard : Claim7 := { stood := { row := graceNoneRow, standIns := [], harness := (true, "d96b3fadc349f2ad41dda712b7207807a68f691cda14d3f42f35beb17e21310f"), looks := true }, kinds := [], alts := [], laidByText := true, laidKinds := [.data, .data, .data, .sentinel, .sentinel], laidTests := true, laidLooks := .later }
def GraceNoneCardSaid : Prop := Claim7.holds Tryz.pinned (.plain (OpenSpec.ofChange graceNoneSpec)) graceNoneCard

/-- THE TIED CARD OF 'quiescentlaw2.GraceSafe'. -/
def graceSafeCard : Claim7 := { stood := { row := graceSafeRow, standIns := [], harness := (true, "d96b3fadc349f2ad41dda712b7207807a68f691cda14d3f42f35beb17e21310f"), looks := true }, kinds := [], alts := [], laidByText := true, laidKinds := [.data, .data, .data, .sentinel, .sentinel], laidTests := true, laidLooks := .later }
def GraceSafeCardSaid : Prop := Claim7.holds Tryz.pinned (.plain (OpenSpec.ofChange graceSafeSpec)) graceSafeCard

/-- THE SECOND FORM's CARD OF 'quiescentlaw2.GraceCode'. -/
def graceCodeUptoCard : Claim7 := { stood := { row := graceCodeUptoRow, standIns := [], harness := (true, "d96b3fadc349f2ad41dda712b7207807a68f691cda14d3f42f35beb17e21310f"), looks := true }, kinds := [], alts := [], laidByText := true, laidKinds := [.data, .data, .data, .handle, .sentinel, .sentinel, .sentinel, .sentinel, .sentinel, .sentinel, .sentinel, .sentinel, .sentinel], laidTests := true, laidLooks := .later }
def GraceCodeUptoCardSaid : Prop := Claim7.holds Tryz.pinned (.plain (OpenSpec.upto graceCodeSpec)) graceCodeUptoCard

/-- THE SECOND FORM's CARD OF 'quiescentlaw2.GraceBursts'. -/
def graceBurstsUptoCard : Claim7 := { stood := { row := graceBurstsUptoRow, standIns := [], harness := (true, "d96b3fadc349f2ad41dda712b7207807a68f691cda14d3f42f35beb17e21310f"), looks := true }, kinds := [], alts := [], laidByText := true, laidKinds := [.data, .data, .data, .sentinel, .sentinel], laidTests := true, laidLooks := .later }
def GraceBurstsUptoCardSaid : Prop := Claim7.holds Tryz.pinned (.plain (OpenSpec.upto graceBurstsSpec)) graceBurstsUptoCard

/-- THE SECOND FORM's CARD OF 'quiescentlaw2.GraceEnds'. -/
def graceEndsUptoCard : Claim7 := { stood := { row := graceEndsUptoRow, standIns := [], harness := (true, "d96b3fadc349f2ad41dda712b7207807a68f691cda14d3f42f35beb17e21310f"), looks := true }, kinds := [], alts := [], laidByText := true, laidKinds := [.data, .data, .data, .sentinel, .sentinel], laidTests := true, laidLooks := .later }
def GraceEndsUptoCardSaid : Prop := Claim7.holds Tryz.pinned (.plain (OpenSpec.upto graceEndsSpec)) graceEndsUptoCard

/-- THE SECOND FORM's CARD OF 'quiescentlaw2.GraceNone'. -/
def graceNoneUptoCard : Claim7 := { stood := { row := graceNoneUptoRow, standIns := [], harness := (true, "d96b3fadc349f2ad41dda712b7207807a68f691cda14d3f42f35beb17e21310f"), looks := true }, kinds := [], alts := [], laidByText := true, laidKinds := [.data, .data, .data, .sentinel, .sentinel], laidTests := true, laidLooks := .later }
def GraceNoneUptoCardSaid : Prop := Claim7.holds Tryz.pinned (.plain (OpenSpec.upto graceNoneSpec)) graceNoneUptoCard

/-- THE SECOND FORM's CARD OF 'quiescentlaw2.GraceSafe'. -/
def graceSafeUptoCard : Claim7 := { stood := { row := graceSafeUptoRow, standIns := [], harness := (true, "d96b3fadc349f2ad41dda712b7207807a68f691cda14d3f42f35beb17e21310f"), looks := true }, kinds := [], alts := [], laidByText := true, laidKinds := [.data, .data, .data, .sentinel, .sentinel], laidTests := true, laidLooks := .later }
def GraceSafeUptoCardSaid : Prop := Claim7.holds Tryz.pinned (.plain (OpenSpec.upto graceSafeSpec)) graceSafeUptoCard
end Rows
end Go.Proofs.YtgmokighfgdnjaaGreatDoor
