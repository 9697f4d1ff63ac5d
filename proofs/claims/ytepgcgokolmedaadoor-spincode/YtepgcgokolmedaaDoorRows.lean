/-
  NARROWER THAN 'FOR EVERY INPUT', by the rows' own cells (each row's printed sentence says how): SpinCode: laid · SpinEnds: laid.
  DERIVED. THE GIVEN ROWS OF THIS SEAT. 2 by the template 'for every input the law returns true; each argument reads behind the call as it read before'; 0 by the template 'total and deterministic' (their statements: YtepgcgokolmedaaDoorTotals.lean).
  GIVEN WITH THE SEED: the statements are not yours to turn. If you find one false, say at which input.
  Laid BY PROGRAM, IN A SANDBOX (cutbox-rows.mjs): the forced cells as the released guide's own fill.sh prints them over the translation ba313e4979f991b7… (all of the seat's roots in one cut). By AI agents, Wed Nov 11 2026. No macro, syntax, notation, axiom, sorry.
-/
import Derived.Test.YtepgcgokolmedaaDoorChecked
import GoSem.Claim
import GoSem.ClaimJoined
import GoSem.ClaimMapViews
import Derived.JoinedTies
import Derived.KernelRfl
namespace Go.Proofs.YtepgcgokolmedaaDoor
/- THE CELL 'sum', in the pinned program and in every row, IS THE sha256 OF THE DUMP (.gsa) THAT YtepgcgokolmedaaDoorProg.lean LOADS. Nothing in Lean hashes anything: it is a label: what it is worth is what the hold of that sum in a sandbox is worth. -/
noncomputable def Tryd.pinned : Pinned := { name := "ytepgcgokolmedaadoor", sum := "ba313e4979f991b74546919e0689aafc737bd33bf174a0ee921e18075f690be7", checked := Tryd.checked }
namespace Rows
def none {H : Type} : Left H := { results := [], args := [] }

/- WHAT THE LISTED PACKAGE-LEVEL VARIABLES READ AS WHEN THE CALL BEGINS. Each datum BY PROGRAM (the guide's laid-datum.mjs) off the statement by which the dump's own 'gosem.cut.vars' lays the variable. In a bare row this is a premise. The card (YtepgcgokolmedaaDoorCards.lean) ties it to the program's text. -/
def laid_errors_errorType {H : Type} : DataW H := .iface "internal/reflectlite.rtype" (.agg [.ptr (.lit (.string [101, 114, 114, 111, 114]))])
def laid_quiescent_api_ErrText {H : Type} : DataW H := .iface "*errors.errorString" (.ptr (.agg [.lit (.string [113, 117, 105, 101, 115, 99, 101, 110, 116, 58, 32, 116, 101, 120, 116])]))
def laid_quiescent_api_ErrBound {H : Type} : DataW H := .iface "*errors.errorString" (.ptr (.agg [.lit (.string [113, 117, 105, 101, 115, 99, 101, 110, 116, 58, 32, 98, 111, 117, 110, 100])]))
def laid_quiescent_api_ErrShape {H : Type} : DataW H := .iface "*errors.errorString" (.ptr (.agg [.lit (.string [113, 117, 105, 101, 115, 99, 101, 110, 116, 58, 32, 115, 104, 97, 112, 101])]))
def laid_quiescent_api_ErrName {H : Type} : DataW H := .iface "*errors.errorString" (.ptr (.agg [.lit (.string [113, 117, 105, 101, 115, 99, 101, 110, 116, 58, 32, 110, 97, 109, 101])]))
def laid_quiescent_api_ErrNone {H : Type} : DataW H := .iface "*errors.errorString" (.ptr (.agg [.lit (.string [113, 117, 105, 101, 115, 99, 101, 110, 116, 58, 32, 110, 111, 110, 101])]))
def laid_quiescent_api_ErrFull {H : Type} : DataW H := .iface "*errors.errorString" (.ptr (.agg [.lit (.string [113, 117, 105, 101, 115, 99, 101, 110, 116, 58, 32, 102, 117, 108, 108])]))
def laid_quiescent_api_ErrStale {H : Type} : DataW H := .iface "*errors.errorString" (.ptr (.agg [.lit (.string [113, 117, 105, 101, 115, 99, 101, 110, 116, 58, 32, 115, 116, 97, 108, 101])]))
def laid_quiescent_api_ErrHeld {H : Type} : DataW H := .iface "*errors.errorString" (.ptr (.agg [.lit (.string [113, 117, 105, 101, 115, 99, 101, 110, 116, 58, 32, 104, 101, 108, 100])]))
def laid_quiescent_api_ErrDone {H : Type} : DataW H := .iface "*errors.errorString" (.ptr (.agg [.lit (.string [113, 117, 105, 101, 115, 99, 101, 110, 116, 58, 32, 100, 111, 110, 101])]))

/-- 'quiescentlaw2.SpinCode': WHATEVER THE INPUT: true; the input reads as it did. -/
def spinCodeSpec : ChangeSpec := { name := "spinCode", fn := fun _ => fun
  | [d1, d2, d3, d4] => { results := [.lit (.bool true)], args := [d1, d2, d3, d4] }
  | _ => none }
def spinCodeRow : OpenClaim := { program := "ytepgcgokolmedaadoor", sum := "ba313e4979f991b74546919e0689aafc737bd33bf174a0ee921e18075f690be7", func := "quiescent/quiescentlaw2.SpinCode", spec := "spinCode", inPlace := ["internal/reflectlite.ValueOf", "(internal/reflectlite.Value).Type", "(internal/reflectlite.Value).IsNil", "internal/reflectlite.TypeOf", "(internal/reflectlite.Value).Elem", "(internal/reflectlite.Value).Set"], unfollowed := true, recurses := true, named := ["quiescent/api.ErrBound", "quiescent/api.ErrName", "quiescent/api.ErrText", "quiescent/api.ErrShape", "quiescent/api.ErrNone", "quiescent/api.ErrFull", "quiescent/api.ErrStale", "quiescent/api.ErrHeld", "quiescent/api.ErrDone", "errors.errorType"], apart := false, laid := [("errors.errorType", laid_errors_errorType), ("quiescent/api.ErrText", laid_quiescent_api_ErrText), ("quiescent/api.ErrBound", laid_quiescent_api_ErrBound), ("quiescent/api.ErrShape", laid_quiescent_api_ErrShape), ("quiescent/api.ErrName", laid_quiescent_api_ErrName), ("quiescent/api.ErrNone", laid_quiescent_api_ErrNone), ("quiescent/api.ErrFull", laid_quiescent_api_ErrFull), ("quiescent/api.ErrStale", laid_quiescent_api_ErrStale), ("quiescent/api.ErrHeld", laid_quiescent_api_ErrHeld), ("quiescent/api.ErrDone", laid_quiescent_api_ErrDone)] }
def SpinCodeSaid : Prop := spinCodeRow.holds Tryd.pinned (OpenSpec.ofChange spinCodeSpec)

/-- ITS FALSE NEIGHBOUR: 'it returns false'. Refute it at one input. -/
def spinCodeWrong : ChangeSpec := { name := "spinCode", fn := fun _ => fun
  | [d1, d2, d3, d4] => { results := [.lit (.bool false)], args := [d1, d2, d3, d4] }
  | _ => none }
def SpinCodeWrongFalsely : Prop := spinCodeRow.holds Tryd.pinned (OpenSpec.ofChange spinCodeWrong)

/-- 'quiescentlaw2.SpinEnds': WHATEVER THE INPUT: true; the input reads as it did. -/
def spinEndsSpec : ChangeSpec := { name := "spinEnds", fn := fun _ => fun
  | [d1, d2] => { results := [.lit (.bool true)], args := [d1, d2] }
  | _ => none }
def spinEndsRow : OpenClaim := { program := "ytepgcgokolmedaadoor", sum := "ba313e4979f991b74546919e0689aafc737bd33bf174a0ee921e18075f690be7", func := "quiescent/quiescentlaw2.SpinEnds", spec := "spinEnds", recurses := true, named := ["quiescent/api.ErrBound", "quiescent/api.ErrName"], apart := false, laid := [("quiescent/api.ErrBound", laid_quiescent_api_ErrBound), ("quiescent/api.ErrName", laid_quiescent_api_ErrName)] }
def SpinEndsSaid : Prop := spinEndsRow.holds Tryd.pinned (OpenSpec.ofChange spinEndsSpec)

/-- ITS FALSE NEIGHBOUR: 'it returns false'. Refute it at one input. -/
def spinEndsWrong : ChangeSpec := { name := "spinEnds", fn := fun _ => fun
  | [d1, d2] => { results := [.lit (.bool false)], args := [d1, d2] }
  | _ => none }
def SpinEndsWrongFalsely : Prop := spinEndsRow.holds Tryd.pinned (OpenSpec.ofChange spinEndsWrong)

/- THE SECOND FORM. 'bulk': how many values and letters a reading holds, each counted each time it is reached (what is shared counts as often as it is met; a slice's spare places count too). A statement '..UptoSaid' is the law's where the arguments, and the package variables that the reading takes, are together of bulk at most 1048576: NARROWER than '..Said'. Prove '..Said' where nothing that the law and all that it calls make is longer than what came in: it says more and counts as full. Else prove '..UptoSaid'. A law counts once. -/
mutual
def uptoBulk {H : Type} : DataW H → Nat
  | .lit (.string bytes) => bytes.length + 1
  | .lit _ => 1
  | .nil => 1
  | .ptr d => uptoBulk d + 1
  | .slice elems spare => uptoBulkAll elems + uptoBulkAll spare + 1
  | .agg parts => uptoBulkAll parts + 1
  | .iface _ d => uptoBulk d + 1
  | .map entries => uptoBulkEntries entries + 1
  | .held _ => 1
def uptoBulkAll {H : Type} : List (DataW H) → Nat
  | [] => 0
  | d :: r => uptoBulk d + uptoBulkAll r
def uptoBulkEntries {H : Type} : List (Lit × DataW H) → Nat
  | [] => 0
  | x :: r => uptoBulkEntry x + uptoBulkEntries r
def uptoBulkEntry {H : Type} : Lit × DataW H → Nat
  | (.string bytes, d) => bytes.length + uptoBulk d + 1
  | (_, d) => uptoBulk d + 1
 end
def uptoSmall : (H : Type) → List (DataW H) → Bool := fun _ ds => decide (uptoBulkAll ds ≤ 1048576)
def OpenSpec.upto (s : _root_.Go.ChangeSpec) : _root_.Go.OpenSpec := { _root_.Go.OpenSpec.ofChange s with cond := some uptoSmall }

/-- 'quiescentlaw2.SpinCode', WHERE WHAT IT READS IS OF BULK AT MOST 1048576: true; the input reads as it did. -/
def spinCodeUptoRow : OpenClaim := { program := "ytepgcgokolmedaadoor", sum := "ba313e4979f991b74546919e0689aafc737bd33bf174a0ee921e18075f690be7", func := "quiescent/quiescentlaw2.SpinCode", spec := "spinCode", inPlace := ["internal/reflectlite.ValueOf", "(internal/reflectlite.Value).Type", "(internal/reflectlite.Value).IsNil", "internal/reflectlite.TypeOf", "(internal/reflectlite.Value).Elem", "(internal/reflectlite.Value).Set"], unfollowed := true, recurses := true, named := ["quiescent/api.ErrBound", "quiescent/api.ErrName", "quiescent/api.ErrText", "quiescent/api.ErrShape", "quiescent/api.ErrNone", "quiescent/api.ErrFull", "quiescent/api.ErrStale", "quiescent/api.ErrHeld", "quiescent/api.ErrDone", "errors.errorType"], apart := false, laid := [("errors.errorType", laid_errors_errorType), ("quiescent/api.ErrText", laid_quiescent_api_ErrText), ("quiescent/api.ErrBound", laid_quiescent_api_ErrBound), ("quiescent/api.ErrShape", laid_quiescent_api_ErrShape), ("quiescent/api.ErrName", laid_quiescent_api_ErrName), ("quiescent/api.ErrNone", laid_quiescent_api_ErrNone), ("quiescent/api.ErrFull", laid_quiescent_api_ErrFull), ("quiescent/api.ErrStale", laid_quiescent_api_ErrStale), ("quiescent/api.ErrHeld", laid_quiescent_api_ErrHeld), ("quiescent/api.ErrDone", laid_quiescent_api_ErrDone)], narrowed := true }
def SpinCodeUptoSaid : Prop := spinCodeUptoRow.holds Tryd.pinned (OpenSpec.upto spinCodeSpec)

/-- 'quiescentlaw2.SpinEnds', WHERE WHAT IT READS IS OF BULK AT MOST 1048576: true; the input reads as it did. -/
def spinEndsUptoRow : OpenClaim := { program := "ytepgcgokolmedaadoor", sum := "ba313e4979f991b74546919e0689aafc737bd33bf174a0ee921e18075f690be7", func := "quiescent/quiescentlaw2.SpinEnds", spec := "spinEnds", recurses := true, named := ["quiescent/api.ErrBound", "quiescent/api.ErrName"], apart := false, laid := [("quiescent/api.ErrBound", laid_quiescent_api_ErrBound), ("quiescent/api.ErrName", laid_quiescent_api_ErrName)], narrowed := true }
def SpinEndsUptoSaid : Prop := spinEndsUptoRow.holds Tryd.pinned (OpenSpec.upto spinEndsSpec)

end Rows
end Go.Proofs.YtepgcgokolmedaaDoor
