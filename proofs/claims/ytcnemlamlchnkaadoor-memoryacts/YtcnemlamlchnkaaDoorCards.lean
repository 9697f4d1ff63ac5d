/-
  DERIVED. GIVEN WITH THE SEED: THE CARDS: each row of YtcnemlamlchnkaaDoorRows.lean that lists a variable, with what it lists TIED to the program's text (the seventh form; the later family's looks); each row that meets fmt, with fmt's text TOLD by the authors' own Lean function (tested against real Go, not proved from fmt's source: count such statements apart). THE CARD IS WHAT COUNTS. Prove the row's statement (the work); the ties are given (YtcnemlamlchnkaaDoorTie.lean); close each card by the builder's one call (the guide's Derived/Test/ToyasCard.lean, 'card_holds'). Laid BY PROGRAM, IN A SANDBOX (cutbox-door.mjs). By AI agents, Wed Nov 11 2026. No macro, syntax, notation, axiom, sorry.
-/
import Derived.Test.YtcnemlamlchnkaaDoorRows
import GoSem.ClaimSeven
namespace Go.Proofs.YtcnemlamlchnkaaDoor
namespace Rows

/-- THE TIED CARD OF 'quiescentlaw1.Names'. -/
def namesCard : Claim7 := { stood := { row := namesRow, standIns := [], harness := (true, "20f0be1af0b4ad5f205d49df0617b8352d9b2fe341c50f980159bcaef766778c"), looks := true }, kinds := [], alts := [], laidByText := true, laidKinds := [.handle, .sentinel, .sentinel, .sentinel, .sentinel, .sentinel, .sentinel, .sentinel, .sentinel, .sentinel], laidTests := true, laidLooks := .later }
def NamesCardSaid : Prop := Claim7.holds Tryd.pinned (.plain (OpenSpec.ofChange namesSpec)) namesCard

/-- THE TIED CARD OF 'quiescentlaw1.ArenaWords'. -/
def arenaWordsCard : Claim7 := { stood := { row := arenaWordsRow, standIns := [], harness := (true, "20f0be1af0b4ad5f205d49df0617b8352d9b2fe341c50f980159bcaef766778c"), looks := true }, kinds := [], alts := [], laidByText := true, laidKinds := [.handle, .sentinel, .sentinel, .sentinel, .sentinel, .sentinel, .sentinel, .sentinel, .sentinel, .sentinel], laidTests := true, laidLooks := .later }
def ArenaWordsCardSaid : Prop := Claim7.holds Tryd.pinned (.plain (OpenSpec.ofChange arenaWordsSpec)) arenaWordsCard

/-- THE TIED CARD OF 'quiescentlaw1.ArenaStale'. -/
def arenaStaleCard : Claim7 := { stood := { row := arenaStaleRow, standIns := [], harness := (true, "20f0be1af0b4ad5f205d49df0617b8352d9b2fe341c50f980159bcaef766778c"), looks := true }, kinds := [], alts := [], laidByText := true, laidKinds := [.handle, .sentinel, .sentinel, .sentinel, .sentinel, .sentinel, .sentinel, .sentinel, .sentinel, .sentinel], laidTests := true, laidLooks := .later }
def ArenaStaleCardSaid : Prop := Claim7.holds Tryd.pinned (.plain (OpenSpec.ofChange arenaStaleSpec)) arenaStaleCard

/-- THE TIED CARD OF 'quiescentlaw1.ArenaActs'. -/
def arenaActsCard : Claim7 := { stood := { row := arenaActsRow, standIns := [], harness := (true, "20f0be1af0b4ad5f205d49df0617b8352d9b2fe341c50f980159bcaef766778c"), looks := true }, kinds := [], alts := [], laidByText := true, laidKinds := [.handle, .sentinel, .sentinel, .sentinel, .sentinel, .sentinel, .sentinel, .sentinel, .sentinel, .sentinel], laidTests := true, laidLooks := .later }
def ArenaActsCardSaid : Prop := Claim7.holds Tryd.pinned (.plain (OpenSpec.ofChange arenaActsSpec)) arenaActsCard

/-- THE TIED CARD OF 'quiescentlaw1.MemoryAlone'. -/
def memoryAloneCard : Claim7 := { stood := { row := memoryAloneRow, standIns := [], harness := (true, "20f0be1af0b4ad5f205d49df0617b8352d9b2fe341c50f980159bcaef766778c"), looks := true }, kinds := [], alts := [], laidByText := true, laidKinds := [.sentinel, .sentinel, .sentinel, .sentinel], laidTests := true, laidLooks := .later }
def MemoryAloneCardSaid : Prop := Claim7.holds Tryd.pinned (.plain (OpenSpec.ofChange memoryAloneSpec)) memoryAloneCard

/-- THE TIED CARD OF 'quiescentlaw1.MemoryActs'. -/
def memoryActsCard : Claim7 := { stood := { row := memoryActsRow, standIns := [], harness := (true, "20f0be1af0b4ad5f205d49df0617b8352d9b2fe341c50f980159bcaef766778c"), looks := true }, kinds := [], alts := [], laidByText := true, laidKinds := [.handle, .sentinel, .sentinel, .sentinel, .sentinel, .sentinel, .sentinel, .sentinel, .sentinel, .sentinel], laidTests := true, laidLooks := .later }
def MemoryActsCardSaid : Prop := Claim7.holds Tryd.pinned (.plain (OpenSpec.ofChange memoryActsSpec)) memoryActsCard

/-- THE SECOND FORM's CARD OF 'quiescentlaw1.Names'. -/
def namesUptoCard : Claim7 := { stood := { row := namesUptoRow, standIns := [], harness := (true, "20f0be1af0b4ad5f205d49df0617b8352d9b2fe341c50f980159bcaef766778c"), looks := true }, kinds := [], alts := [], laidByText := true, laidKinds := [.handle, .sentinel, .sentinel, .sentinel, .sentinel, .sentinel, .sentinel, .sentinel, .sentinel, .sentinel], laidTests := true, laidLooks := .later }
def NamesUptoCardSaid : Prop := Claim7.holds Tryd.pinned (.plain (OpenSpec.upto namesSpec)) namesUptoCard

/-- THE SECOND FORM's CARD OF 'quiescentlaw1.ArenaWords'. -/
def arenaWordsUptoCard : Claim7 := { stood := { row := arenaWordsUptoRow, standIns := [], harness := (true, "20f0be1af0b4ad5f205d49df0617b8352d9b2fe341c50f980159bcaef766778c"), looks := true }, kinds := [], alts := [], laidByText := true, laidKinds := [.handle, .sentinel, .sentinel, .sentinel, .sentinel, .sentinel, .sentinel, .sentinel, .sentinel, .sentinel], laidTests := true, laidLooks := .later }
def ArenaWordsUptoCardSaid : Prop := Claim7.holds Tryd.pinned (.plain (OpenSpec.upto arenaWordsSpec)) arenaWordsUptoCard

/-- THE SECOND FORM's CARD OF 'quiescentlaw1.ArenaStale'. -/
def arenaStaleUptoCard : Claim7 := { stood := { row := arenaStaleUptoRow, standIns := [], harness := (true, "20f0be1af0b4ad5f205d49df0617b8352d9b2fe341c50f980159bcaef766778c"), looks := true }, kinds := [], alts := [], laidByText := true, laidKinds := [.handle, .sentinel, .sentinel, .sentinel, .sentinel, .sentinel, .sentinel, .sentinel, .sentinel, .sentinel], laidTests := true, laidLooks := .later }
def ArenaStaleUptoCardSaid : Prop := Claim7.holds Tryd.pinned (.plain (OpenSpec.upto arenaStaleSpec)) arenaStaleUptoCard

/-- THE SECOND FORM's CARD OF 'quiescentlaw1.ArenaActs'. -/
def arenaActsUptoCard : Claim7 := { stood := { row := arenaActsUptoRow, standIns := [], harness := (true, "20f0be1af0b4ad5f205d49df0617b8352d9b2fe341c50f980159bcaef766778c"), looks := true }, kinds := [], alts := [], laidByText := true, laidKinds := [.handle, .sentinel, .sentinel, .sentinel, .sentinel, .sentinel, .sentinel, .sentinel, .sentinel, .sentinel], laidTests := true, laidLooks := .later }
def ArenaActsUptoCardSaid : Prop := Claim7.holds Tryd.pinned (.plain (OpenSpec.upto arenaActsSpec)) arenaActsUptoCard

/-- THE SECOND FORM's CARD OF 'quiescentlaw1.MemoryAlone'. -/
def memoryAloneUptoCard : Claim7 := { stood := { row := memoryAloneUptoRow, standIns := [], harness := (true, "20f0be1af0b4ad5f205d49df0617b8352d9b2fe341c50f980159bcaef766778c"), looks := true }, kinds := [], alts := [], laidByText := true, laidKinds := [.sentinel, .sentinel, .sentinel, .sentinel], laidTests := true, laidLooks := .later }
def MemoryAloneUptoCardSaid : Prop := Claim7.holds Tryd.pinned (.plain (OpenSpec.upto memoryAloneSpec)) memoryAloneUptoCard

/-- THE SECOND FORM's CARD OF 'quiescentlaw1.MemoryActs'. -/
def memoryActsUptoCard : Claim7 := { stood := { row := memoryActsUptoRow, standIns := [], harness := (true, "20f0be1af0b4ad5f205d49df0617b8352d9b2fe341c50f980159bcaef766778c"), looks := true }, kinds := [], alts := [], laidByText := true, laidKinds := [.handle, .sentinel, .sentinel, .sentinel, .sentinel, .sentinel, .sentinel, .sentinel, .sentinel, .sentinel], laidTests := true, laidLooks := .later }
def MemoryActsUptoCardSaid : Prop := Claim7.holds Tryd.pinned (.plain (OpenSpec.upto memoryActsSpec)) memoryActsUptoCard
end Rows
end Go.Proofs.YtcnemlamlchnkaaDoor
