import Derived.Test.YtpjabgdcpogdiaaGreatDoorE17

/- GcS -/
namespace Go.Proofs.YtpjabgdcpogdiaaGreatDoor
open Go.RowKit

theorem codes1 : ∀ (wt w : Bool) (tm : Fin 4) (rd : Fin 6) (ns : Bool), codeGood (Cs.code 1 wt ⟨w, tm.val, rd.val, ns⟩) = true := by decide +kernel
end Go.Proofs.YtpjabgdcpogdiaaGreatDoor

/- GcT -/
namespace Go.Proofs.YtpjabgdcpogdiaaGreatDoor
open Go.RowKit

theorem codes2 : ∀ (wt w : Bool) (tm : Fin 4) (rd : Fin 6) (ns : Bool), codeGood (Cs.code 2 wt ⟨w, tm.val, rd.val, ns⟩) = true := by decide +kernel
end Go.Proofs.YtpjabgdcpogdiaaGreatDoor

/- GcU -/
namespace Go.Proofs.YtpjabgdcpogdiaaGreatDoor
open Go.RowKit

theorem codes3 : ∀ (wt w : Bool) (tm : Fin 4) (rd : Fin 6) (ns : Bool), codeGood (Cs.code 3 wt ⟨w, tm.val, rd.val, ns⟩) = true := by decide +kernel
end Go.Proofs.YtpjabgdcpogdiaaGreatDoor

/- GcV -/
namespace Go.Proofs.YtpjabgdcpogdiaaGreatDoor
open Go.RowKit

theorem codes4w : ∀ (wt : Bool) (tm : Fin 4), codeGood (Cs.code 4 wt ⟨true, tm.val, 0, false⟩) = true := by decide +kernel
theorem codes4a : ∀ (tm : Fin 4) (rd : Fin 6), codeGood (Cs.code 4 true ⟨false, tm.val, rd.val, false⟩) = true := by decide +kernel
theorem codes4b : ∀ (tm : Fin 2) (rd : Fin 6), codeGood (Cs.code 4 true ⟨false, tm.val, rd.val, true⟩) = true := by decide +kernel
end Go.Proofs.YtpjabgdcpogdiaaGreatDoor
