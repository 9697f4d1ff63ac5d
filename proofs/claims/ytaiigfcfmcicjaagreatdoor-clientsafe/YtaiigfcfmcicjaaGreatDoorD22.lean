import Derived.Test.YtaiigfcfmcicjaaGreatDoorD21
namespace Go.Proofs.YtaiigfcfmcicjaaGreatDoor
set_option maxRecDepth 100000
set_option maxHeartbeats 8000000
section
open Go.RowKit
def stage (f q : Nat) : Nat :=
 if f = 3 then (if q <= 5 then 0 else if q = 6 then 1 else if q = 7 then 2 else if q = 8 then 3 else if q = 9 then 4 else if q = 10 then 5 else if q = 11 then 6 else if q = 12 then 7 else if q = 13 then 12 else if q = 14 then 13 else if q = 15 then 14 else if q = 16 then 15 else 16)
 else if f = 2 then (if q <= 13 then q else q - 1)
 else q
end
section
open Go.RowKit
section
variable {f n : Nat} {G : Gh} {m m' : Mk} {t : Nat}
theorem live_mem (e : m'.mem = m.mem) {c : Nat} (h : Live m c) : Live m' c := ⟨by rw [e]; exact h.lt, by rw [e]; exact h.there, by rw [e]; exact h.given, by rw [e]; exact h.small⟩
theorem rf_mem (e : m'.mem = m.mem) (c : Nat) : rf m' c = rf m c := by unfold rf; rw [e]
theorem gn_mem (e : m'.mem = m.mem) (c : Nat) : gn m' c = gn m c := by unfold gn; rw [e]
theorem vw_mem (e : m'.mem = m.mem) (u c : Nat) (g : Int) (k : Nat) : vw m' u c g k = vw m u c g k := by unfold vw; rw [e]
end
end
section
open Go.RowKit
def rg (m : Mk) (t r : Nat) (v : Int) : Nat -> Int := fun j => if j = r then v else m.regs t j
section
variable {f n : Nat} {G : Gh} {m m' : Mk} {t : Nat} {tg : Tg} {q d q' : Nat}
theorem rg_regs (m : Mk) (t r : Nat) (v : Int) : (m.setReg t r v).regs t = rg m t r v := by
 funext j
 exact setReg_reg m t r v j
end
end
end Go.Proofs.YtaiigfcfmcicjaaGreatDoor
