/-
  DERIVED. GIVEN WITH THE SEED: THE CARDS: each row of YtnnlkolhahjokaaGreatDoorRows.lean that lists a variable, with what it lists TIED to the program's text (the seventh form; the later family's looks); each row that meets fmt, with fmt's text TOLD by the authors' own Lean function (tested against real Go, not proved from fmt's source: count such statements apart). THE CARD IS WHAT COUNTS. Prove the row's statement (the work); the ties are given (YtnnlkolhahjokaaGreatDoorTie.lean); close each card by the builder's one call (the guide's Derived/Test/ToyasCard.lean, 'card_holds'). Laid BY PROGRAM, IN A SANDBOX (cutbox-door.mjs). By AI agents, Wed Nov 11 2026. No macro, syntax, notation, axiom, sorry.
-/
import Derived.Test.YtnnlkolhahjokaaGreatDoorRows
import GoSem.ClaimSeven
namespace Go.Proofs.YtnnlkolhahjokaaGreatDoor
namespace Rows

/-- THE TIED CARD OF 'quiescentlaw1.WalkFaults'. -/
def walkFaultsCard : Claim7 := { stood := { row := walkFaultsRow, standIns := [], harness := (true, "ab95832b42b8b98b4bac848131bff84f3f680ce4991a79cff598260e17189a18"), looks := true }, kinds := [], alts := [], laidByText := true, laidKinds := [.handle, .sentinel, .sentinel, .sentinel, .sentinel, .sentinel, .sentinel, .sentinel], laidTests := true, laidLooks := .later }
def WalkFaultsCardSaid : Prop := Claim7.holds Tryz.pinned (.plain (OpenSpec.ofChange walkFaultsSpec)) walkFaultsCard

/-- THE TIED CARD OF 'quiescentlaw1.WalkSees'. -/
def walkSeesCard : Claim7 := { stood := { row := walkSeesRow, standIns := [], harness := (true, "ab95832b42b8b98b4bac848131bff84f3f680ce4991a79cff598260e17189a18"), looks := true }, kinds := [], alts := [], laidByText := true, laidKinds := [.handle, .sentinel, .sentinel, .sentinel, .sentinel, .sentinel, .sentinel, .sentinel], laidTests := true, laidLooks := .later }
def WalkSeesCardSaid : Prop := Claim7.holds Tryz.pinned (.plain (OpenSpec.ofChange walkSeesSpec)) walkSeesCard

/-- THE SECOND FORM's CARD OF 'quiescentlaw1.WalkFaults'. -/
def walkFaultsUptoCard : Claim7 := { stood := { row := walkFaultsUptoRow, standIns := [], harness := (true, "ab95832b42b8b98b4bac848131bff84f3f680ce4991a79cff598260e17189a18"), looks := true }, kinds := [], alts := [], laidByText := true, laidKinds := [.handle, .sentinel, .sentinel, .sentinel, .sentinel, .sentinel, .sentinel, .sentinel], laidTests := true, laidLooks := .later }
def WalkFaultsUptoCardSaid : Prop := Claim7.holds Tryz.pinned (.plain (OpenSpec.upto walkFaultsSpec)) walkFaultsUptoCard

/-- THE SECOND FORM's CARD OF 'quiescentlaw1.WalkSees'. -/
def walkSeesUptoCard : Claim7 := { stood := { row := walkSeesUptoRow, standIns := [], harness := (true, "ab95832b42b8b98b4bac848131bff84f3f680ce4991a79cff598260e17189a18"), looks := true }, kinds := [], alts := [], laidByText := true, laidKinds := [.handle, .sentinel, .sentinel, .sentinel, .sentinel, .sentinel, .sentinel, .sentinel], laidTests := true, laidLooks := .later }
def WalkSeesUptoCardSaid : Prop := Claim7.holds Tryz.pinned (.plain (OpenSpec.upto walkSeesSpec)) walkSeesUptoCard
end Rows
end Go.Proofs.YtnnlkolhahjokaaGreatDoor
