/- The law's helpers faulted and sameCode by contracts; what every law of code reads of the listed variables. -/
import Derived.Test.YtcajklfngeafdaaGreatDoorReadR
import Derived.Test.YtcajklfngeafdaaGreatDoorTexted
import Derived.Test.YtcajklfngeafdaaGreatDoorFaultS
import Derived.Test.YtcajklfngeafdaaGreatDoorBase
namespace Go.Proofs.YtcajklfngeafdaaGreatDoor
open Go.RowKit Go.Extern.Stop Go.Stop Go.Extern Go.Maps Go.WideMaps

theorem readFault_le (s : ByteArray) : (readFault s).1 ≤ 5 := by
  unfold readFault
  split
  · exact Nat.succ_le_succ (Nat.zero_le _)
  · exact codeFault_le _

/-- The nine errors, the handle, the table, MaxLen and strconv.ErrSyntax. -/
structure EnvZ (a : Nat → Addr) (w : World) : Prop where
  env : Env a w
  tab : Lib.TabIs Tryz.prog w "internal/strconv.uint64pow10" .u64 Lib.pow10Tab
  maxl : ∃ m, w.cell? ⟨10, 0, none⟩ = some (.int .i64 m)
  syn : ∃ te pe, w.cell? ⟨12, 0, none⟩ = some (.iface te pe)
theorem EnvZ.x {a : Nat → Addr} {w : World} (h : EnvZ a w) : EnvX a w where
  err i hi := by
    match i, hi with
    | 0, _ => exact h.env.cell 0 (by decide)
    | 1, _ => exact h.env.cell 1 (by decide)
    | 2, _ => exact h.env.cell 2 (by decide)
    | 3, _ => exact h.env.cell 3 (by decide)
    | 4, _ => exact h.env.cell 4 (by decide)
  tab := h.tab
  maxl := h.maxl
  syn := h.syn
theorem EnvZ.below {a : Nat → Addr} {w w' : World} (h : EnvZ a w) (hb : Below w.heap.size w w') : EnvZ a w' where
  env := h.env.below hb.block
  tab := (h.x.below hb).tab
  maxl := (h.x.below hb).maxl
  syn := (h.x.below hb).syn

theorem sameCode_any (ad ad' : Option Addr) (cap cap' : Nat) (l : List Ins) (w : World) (hlen : l.length ≤ 1000000) (hl : insAt ad l w) (hl' : insAt ad' l w) :
    Calls Tryz.prog 13 #[.slice ad l.length cap, .slice ad' l.length cap'] w fun e w' => e = .returned (.bool true) ∧ Below w.heap.size w w' := by
  have HL := hide hl
  have HL' := hide hl'
  clear hl hl'
  go_enter Tryz.func13, Tryz.ntmps13
  go_wp2_with fail
  go_loopw [5] (fun ix wr => Below w.heap.size w wr ∧ ∃ j : Nat, j ≤ l.length ∧ ix = .int .i64 j) (fun i _ => l.length - (intOf i).toNat)
  case atStart => exact ⟨Below.refl _ _, 0, Nat.zero_le _, rfl⟩
  case round =>
    obtain ⟨hB, j, hj, rfl⟩ := hrel
    by_cases hlt : j < l.length
    · have ji : (j : Int) < l.length := by omega
      obtain ⟨x, hx⟩ : ∃ x, l[j]? = some x := ⟨_, List.getElem?_eq_getElem hlt⟩
      obtain ⟨b, off, rfl, a0, a1, a2, a3, a4⟩ := insAt_below HL.out hB j x hx
      obtain ⟨b', off', rfl, c0, c1, c2, c3, c4⟩ := insAt_below HL'.out hB j x hx
      clear HL HL'
      go_wp2_with fail
      go_region
      go_wp2_with fail
      go_roundw
      case rel => exact ⟨hB.drew, j + 1, by omega, by go_num⟩
      case measure => simp [intOf]; omega
    · obtain rfl : j = l.length := by omega
      go_wp2_with fail
      go_ret
      exact ⟨rfl, hB⟩
end Go.Proofs.YtcajklfngeafdaaGreatDoor
