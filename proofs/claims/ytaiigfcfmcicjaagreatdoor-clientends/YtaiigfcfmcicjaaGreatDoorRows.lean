/-
  NARROWER THAN 'FOR EVERY INPUT', by the rows' own cells (each row's printed sentence says how): ClientChecks: laid · ClientBuilds: laid · ClientEnds: laid · ClientOne: laid · ClientSafe: laid.
  DERIVED. THE GIVEN ROWS OF THIS SEAT. 5 by the template 'for every input the law returns true; each argument reads behind the call as it read before'; 0 by the template 'total and deterministic' (their statements: YtaiigfcfmcicjaaGreatDoorTotals.lean).
  GIVEN WITH THE SEED: the statements are not yours to turn. If you find one false, say at which input.
  Laid BY PROGRAM, IN A SANDBOX (cutbox-rows.mjs): the forced cells as the released guide's own fill.sh prints them over the translation 4692c6275617d8a8… (all of the seat's roots in one cut). By AI agents, Wed Nov 11 2026. No macro, syntax, notation, axiom, sorry.
-/
import Derived.Test.YtaiigfcfmcicjaaGreatDoorChecked
import GoSem.Claim
import GoSem.ClaimJoined
import GoSem.ClaimMapViews
import Derived.JoinedTies
import Derived.KernelRfl
namespace Go.Proofs.YtaiigfcfmcicjaaGreatDoor
/- THE CELL 'sum', in the pinned program and in every row, IS THE sha256 OF THE DUMP (.gsa) THAT YtaiigfcfmcicjaaGreatDoorProg.lean LOADS. Nothing in Lean hashes anything: it is a label: what it is worth is what the hold of that sum in a sandbox is worth. -/
noncomputable def Tryz.pinned : Pinned := { name := "ytaiigfcfmcicjaagreatdoor", sum := "4692c6275617d8a894fdb14298721fbd6573e0342771029e4215777a96ae4aff", checked := Tryz.checked }
namespace Rows
def none {H : Type} : Left H := { results := [], args := [] }

/- WHAT THE LISTED PACKAGE-LEVEL VARIABLES READ AS WHEN THE CALL BEGINS. Each datum BY PROGRAM (the guide's laid-datum.mjs) off the statement by which the dump's own 'gosem.cut.vars' lays the variable. In a bare row this is a premise. The card (YtaiigfcfmcicjaaGreatDoorCards.lean) ties it to the program's text. -/
def laid_math_bits_deBruijn32tab {H : Type} : DataW H := .agg [.lit (.int .u8 0), .lit (.int .u8 1), .lit (.int .u8 28), .lit (.int .u8 2), .lit (.int .u8 29), .lit (.int .u8 14), .lit (.int .u8 24), .lit (.int .u8 3), .lit (.int .u8 30), .lit (.int .u8 22), .lit (.int .u8 20), .lit (.int .u8 15), .lit (.int .u8 25), .lit (.int .u8 17), .lit (.int .u8 4), .lit (.int .u8 8), .lit (.int .u8 31), .lit (.int .u8 27), .lit (.int .u8 13), .lit (.int .u8 23), .lit (.int .u8 21), .lit (.int .u8 19), .lit (.int .u8 16), .lit (.int .u8 7), .lit (.int .u8 26), .lit (.int .u8 12), .lit (.int .u8 18), .lit (.int .u8 6), .lit (.int .u8 11), .lit (.int .u8 5), .lit (.int .u8 10), .lit (.int .u8 9)]
def laid_math_bits_deBruijn64tab {H : Type} : DataW H := .agg [.lit (.int .u8 0), .lit (.int .u8 1), .lit (.int .u8 56), .lit (.int .u8 2), .lit (.int .u8 57), .lit (.int .u8 49), .lit (.int .u8 28), .lit (.int .u8 3), .lit (.int .u8 61), .lit (.int .u8 58), .lit (.int .u8 42), .lit (.int .u8 50), .lit (.int .u8 38), .lit (.int .u8 29), .lit (.int .u8 17), .lit (.int .u8 4), .lit (.int .u8 62), .lit (.int .u8 47), .lit (.int .u8 59), .lit (.int .u8 36), .lit (.int .u8 45), .lit (.int .u8 43), .lit (.int .u8 51), .lit (.int .u8 22), .lit (.int .u8 53), .lit (.int .u8 39), .lit (.int .u8 33), .lit (.int .u8 30), .lit (.int .u8 24), .lit (.int .u8 18), .lit (.int .u8 12), .lit (.int .u8 5), .lit (.int .u8 63), .lit (.int .u8 55), .lit (.int .u8 48), .lit (.int .u8 27), .lit (.int .u8 60), .lit (.int .u8 41), .lit (.int .u8 37), .lit (.int .u8 16), .lit (.int .u8 46), .lit (.int .u8 35), .lit (.int .u8 44), .lit (.int .u8 21), .lit (.int .u8 52), .lit (.int .u8 32), .lit (.int .u8 23), .lit (.int .u8 11), .lit (.int .u8 54), .lit (.int .u8 26), .lit (.int .u8 40), .lit (.int .u8 15), .lit (.int .u8 34), .lit (.int .u8 20), .lit (.int .u8 31), .lit (.int .u8 10), .lit (.int .u8 25), .lit (.int .u8 14), .lit (.int .u8 19), .lit (.int .u8 9), .lit (.int .u8 13), .lit (.int .u8 8), .lit (.int .u8 7), .lit (.int .u8 6)]
def laid_internal_strconv_uint64pow10 {H : Type} : DataW H := .agg [.lit (.int .u64 1), .lit (.int .u64 10), .lit (.int .u64 100), .lit (.int .u64 1000), .lit (.int .u64 10000), .lit (.int .u64 100000), .lit (.int .u64 1000000), .lit (.int .u64 10000000), .lit (.int .u64 100000000), .lit (.int .u64 1000000000), .lit (.int .u64 10000000000), .lit (.int .u64 100000000000), .lit (.int .u64 1000000000000), .lit (.int .u64 10000000000000), .lit (.int .u64 100000000000000), .lit (.int .u64 1000000000000000), .lit (.int .u64 10000000000000000), .lit (.int .u64 100000000000000000), .lit (.int .u64 1000000000000000000), .lit (.int .u64 10000000000000000000)]
def laid_errors_errorType {H : Type} : DataW H := .iface "internal/reflectlite.rtype" (.agg [.ptr (.lit (.string [101, 114, 114, 111, 114]))])
def laid_quiescent_api_ErrText {H : Type} : DataW H := .iface "*errors.errorString" (.ptr (.agg [.lit (.string [113, 117, 105, 101, 115, 99, 101, 110, 116, 58, 32, 116, 101, 120, 116])]))
def laid_quiescent_api_ErrBound {H : Type} : DataW H := .iface "*errors.errorString" (.ptr (.agg [.lit (.string [113, 117, 105, 101, 115, 99, 101, 110, 116, 58, 32, 98, 111, 117, 110, 100])]))
def laid_quiescent_api_ErrShape {H : Type} : DataW H := .iface "*errors.errorString" (.ptr (.agg [.lit (.string [113, 117, 105, 101, 115, 99, 101, 110, 116, 58, 32, 115, 104, 97, 112, 101])]))
def laid_quiescent_api_ErrName {H : Type} : DataW H := .iface "*errors.errorString" (.ptr (.agg [.lit (.string [113, 117, 105, 101, 115, 99, 101, 110, 116, 58, 32, 110, 97, 109, 101])]))
def laid_quiescent_api_ErrNone {H : Type} : DataW H := .iface "*errors.errorString" (.ptr (.agg [.lit (.string [113, 117, 105, 101, 115, 99, 101, 110, 116, 58, 32, 110, 111, 110, 101])]))
def laid_quiescent_api_ErrFull {H : Type} : DataW H := .iface "*errors.errorString" (.ptr (.agg [.lit (.string [113, 117, 105, 101, 115, 99, 101, 110, 116, 58, 32, 102, 117, 108, 108])]))
def laid_quiescent_api_ErrStale {H : Type} : DataW H := .iface "*errors.errorString" (.ptr (.agg [.lit (.string [113, 117, 105, 101, 115, 99, 101, 110, 116, 58, 32, 115, 116, 97, 108, 101])]))
def laid_quiescent_api_ErrHeld {H : Type} : DataW H := .iface "*errors.errorString" (.ptr (.agg [.lit (.string [113, 117, 105, 101, 115, 99, 101, 110, 116, 58, 32, 104, 101, 108, 100])]))
def laid_quiescent_api_ErrDone {H : Type} : DataW H := .iface "*errors.errorString" (.ptr (.agg [.lit (.string [113, 117, 105, 101, 115, 99, 101, 110, 116, 58, 32, 100, 111, 110, 101])]))

/-- 'quiescentlaw2.ClientChecks': WHATEVER THE INPUT: true; the input reads as it did. -/
def clientChecksSpec : ChangeSpec := { name := "clientChecks", fn := fun _ => fun
  | [d] => { results := [.lit (.bool true)], args := [d] }
  | _ => none }
def clientChecksRow : OpenClaim := { program := "ytaiigfcfmcicjaagreatdoor", sum := "4692c6275617d8a894fdb14298721fbd6573e0342771029e4215777a96ae4aff", func := "quiescent/quiescentlaw2.ClientChecks", spec := "clientChecks", inPlace := ["internal/reflectlite.ValueOf", "(internal/reflectlite.Value).Type", "(internal/reflectlite.Value).IsNil", "internal/reflectlite.TypeOf", "(internal/reflectlite.Value).Elem", "(internal/reflectlite.Value).Set"], unfollowed := true, recurses := true, named := ["quiescent/api.ErrHeld", "quiescent/api.ErrBound", "quiescent/api.ErrShape", "quiescent/api.ErrNone", "quiescent/api.ErrName", "internal/strconv.uint64pow10", "math/bits.deBruijn32tab", "math/bits.deBruijn64tab", "quiescent/api.ErrText", "quiescent/api.ErrFull", "quiescent/api.ErrStale", "quiescent/api.ErrDone", "errors.errorType"], apart := false, laid := [("math/bits.deBruijn32tab", laid_math_bits_deBruijn32tab), ("math/bits.deBruijn64tab", laid_math_bits_deBruijn64tab), ("internal/strconv.uint64pow10", laid_internal_strconv_uint64pow10), ("errors.errorType", laid_errors_errorType), ("quiescent/api.ErrText", laid_quiescent_api_ErrText), ("quiescent/api.ErrBound", laid_quiescent_api_ErrBound), ("quiescent/api.ErrShape", laid_quiescent_api_ErrShape), ("quiescent/api.ErrName", laid_quiescent_api_ErrName), ("quiescent/api.ErrNone", laid_quiescent_api_ErrNone), ("quiescent/api.ErrFull", laid_quiescent_api_ErrFull), ("quiescent/api.ErrStale", laid_quiescent_api_ErrStale), ("quiescent/api.ErrHeld", laid_quiescent_api_ErrHeld), ("quiescent/api.ErrDone", laid_quiescent_api_ErrDone)] }
def ClientChecksSaid : Prop := clientChecksRow.holds Tryz.pinned (OpenSpec.ofChange clientChecksSpec)

/-- ITS FALSE NEIGHBOUR: 'it returns false'. Refute it at one input. -/
def clientChecksWrong : ChangeSpec := { name := "clientChecks", fn := fun _ => fun
  | [d] => { results := [.lit (.bool false)], args := [d] }
  | _ => none }
def ClientChecksWrongFalsely : Prop := clientChecksRow.holds Tryz.pinned (OpenSpec.ofChange clientChecksWrong)

/-- 'quiescentlaw2.ClientBuilds': WHATEVER THE INPUT: true; the input reads as it did. -/
def clientBuildsSpec : ChangeSpec := { name := "clientBuilds", fn := fun _ => fun
  | [d1, d2] => { results := [.lit (.bool true)], args := [d1, d2] }
  | _ => none }
def clientBuildsRow : OpenClaim := { program := "ytaiigfcfmcicjaagreatdoor", sum := "4692c6275617d8a894fdb14298721fbd6573e0342771029e4215777a96ae4aff", func := "quiescent/quiescentlaw2.ClientBuilds", spec := "clientBuilds", inPlace := ["internal/reflectlite.ValueOf", "(internal/reflectlite.Value).Type", "(internal/reflectlite.Value).IsNil", "internal/reflectlite.TypeOf", "(internal/reflectlite.Value).Elem", "(internal/reflectlite.Value).Set"], unfollowed := true, recurses := true, named := ["quiescent/api.ErrHeld", "quiescent/api.ErrBound", "quiescent/api.ErrShape", "quiescent/api.ErrNone", "quiescent/api.ErrName", "internal/strconv.uint64pow10", "math/bits.deBruijn32tab", "math/bits.deBruijn64tab", "quiescent/api.ErrText", "quiescent/api.ErrFull", "quiescent/api.ErrStale", "quiescent/api.ErrDone", "errors.errorType"], apart := false, laid := [("math/bits.deBruijn32tab", laid_math_bits_deBruijn32tab), ("math/bits.deBruijn64tab", laid_math_bits_deBruijn64tab), ("internal/strconv.uint64pow10", laid_internal_strconv_uint64pow10), ("errors.errorType", laid_errors_errorType), ("quiescent/api.ErrText", laid_quiescent_api_ErrText), ("quiescent/api.ErrBound", laid_quiescent_api_ErrBound), ("quiescent/api.ErrShape", laid_quiescent_api_ErrShape), ("quiescent/api.ErrName", laid_quiescent_api_ErrName), ("quiescent/api.ErrNone", laid_quiescent_api_ErrNone), ("quiescent/api.ErrFull", laid_quiescent_api_ErrFull), ("quiescent/api.ErrStale", laid_quiescent_api_ErrStale), ("quiescent/api.ErrHeld", laid_quiescent_api_ErrHeld), ("quiescent/api.ErrDone", laid_quiescent_api_ErrDone)] }
def ClientBuildsSaid : Prop := clientBuildsRow.holds Tryz.pinned (OpenSpec.ofChange clientBuildsSpec)

/-- ITS FALSE NEIGHBOUR: 'it returns false'. Refute it at one input. -/
def clientBuildsWrong : ChangeSpec := { name := "clientBuilds", fn := fun _ => fun
  | [d1, d2] => { results := [.lit (.bool false)], args := [d1, d2] }
  | _ => none }
def ClientBuildsWrongFalsely : Prop := clientBuildsRow.holds Tryz.pinned (OpenSpec.ofChange clientBuildsWrong)

/-- 'quiescentlaw2.ClientEnds': WHATEVER THE INPUT: true; the input reads as it did. -/
def clientEndsSpec : ChangeSpec := { name := "clientEnds", fn := fun _ => fun
  | [d1, d2] => { results := [.lit (.bool true)], args := [d1, d2] }
  | _ => none }
def clientEndsRow : OpenClaim := { program := "ytaiigfcfmcicjaagreatdoor", sum := "4692c6275617d8a894fdb14298721fbd6573e0342771029e4215777a96ae4aff", func := "quiescent/quiescentlaw2.ClientEnds", spec := "clientEnds", unfollowed := true, recurses := true, named := ["quiescent/api.ErrHeld", "quiescent/api.ErrBound", "quiescent/api.ErrShape", "quiescent/api.ErrNone", "quiescent/api.ErrName", "internal/strconv.uint64pow10", "math/bits.deBruijn32tab", "math/bits.deBruijn64tab"], apart := false, laid := [("math/bits.deBruijn32tab", laid_math_bits_deBruijn32tab), ("math/bits.deBruijn64tab", laid_math_bits_deBruijn64tab), ("internal/strconv.uint64pow10", laid_internal_strconv_uint64pow10), ("quiescent/api.ErrBound", laid_quiescent_api_ErrBound), ("quiescent/api.ErrShape", laid_quiescent_api_ErrShape), ("quiescent/api.ErrName", laid_quiescent_api_ErrName), ("quiescent/api.ErrNone", laid_quiescent_api_ErrNone), ("quiescent/api.ErrHeld", laid_quiescent_api_ErrHeld)] }
def ClientEndsSaid : Prop := clientEndsRow.holds Tryz.pinned (OpenSpec.ofChange clientEndsSpec)

/-- ITS FALSE NEIGHBOUR: 'it returns false'. Refute it at one input. -/
def clientEndsWrong : ChangeSpec := { name := "clientEnds", fn := fun _ => fun
  | [d1, d2] => { results := [.lit (.bool false)], args := [d1, d2] }
  | _ => none }
def ClientEndsWrongFalsely : Prop := clientEndsRow.holds Tryz.pinned (OpenSpec.ofChange clientEndsWrong)

/-- 'quiescentlaw2.ClientOne': WHATEVER THE INPUT: true; the input reads as it did. -/
def clientOneSpec : ChangeSpec := { name := "clientOne", fn := fun _ => fun
  | [d1, d2] => { results := [.lit (.bool true)], args := [d1, d2] }
  | _ => none }
def clientOneRow : OpenClaim := { program := "ytaiigfcfmcicjaagreatdoor", sum := "4692c6275617d8a894fdb14298721fbd6573e0342771029e4215777a96ae4aff", func := "quiescent/quiescentlaw2.ClientOne", spec := "clientOne", unfollowed := true, recurses := true, named := ["quiescent/api.ErrHeld", "quiescent/api.ErrBound", "quiescent/api.ErrShape", "quiescent/api.ErrNone", "quiescent/api.ErrName", "internal/strconv.uint64pow10", "math/bits.deBruijn32tab", "math/bits.deBruijn64tab"], apart := false, laid := [("math/bits.deBruijn32tab", laid_math_bits_deBruijn32tab), ("math/bits.deBruijn64tab", laid_math_bits_deBruijn64tab), ("internal/strconv.uint64pow10", laid_internal_strconv_uint64pow10), ("quiescent/api.ErrBound", laid_quiescent_api_ErrBound), ("quiescent/api.ErrShape", laid_quiescent_api_ErrShape), ("quiescent/api.ErrName", laid_quiescent_api_ErrName), ("quiescent/api.ErrNone", laid_quiescent_api_ErrNone), ("quiescent/api.ErrHeld", laid_quiescent_api_ErrHeld)] }
def ClientOneSaid : Prop := clientOneRow.holds Tryz.pinned (OpenSpec.ofChange clientOneSpec)

/-- ITS FALSE NEIGHBOUR: 'it returns false'. Refute it at one input. -/
def clientOneWrong : ChangeSpec := { name := "clientOne", fn := fun _ => fun
  | [d1, d2] => { results := [.lit (.bool false)], args := [d1, d2] }
  | _ => none }
def ClientOneWrongFalsely : Prop := clientOneRow.holds Tryz.pinned (OpenSpec.ofChange clientOneWrong)

/-- 'quiescentlaw2.ClientSafe': WHATEVER THE INPUT: true; the input reads as it did. -/
def clientSafeSpec : ChangeSpec := { name := "clientSafe", fn := fun _ => fun
  | [d1, d2, d3] => { results := [.lit (.bool true)], args := [d1, d2, d3] }
  | _ => none }
def clientSafeRow : OpenClaim := { program := "ytaiigfcfmcicjaagreatdoor", sum := "4692c6275617d8a894fdb14298721fbd6573e0342771029e4215777a96ae4aff", func := "quiescent/quiescentlaw2.ClientSafe", spec := "clientSafe", unfollowed := true, recurses := true, named := ["quiescent/api.ErrHeld", "quiescent/api.ErrBound", "quiescent/api.ErrShape", "quiescent/api.ErrNone", "quiescent/api.ErrName", "internal/strconv.uint64pow10", "math/bits.deBruijn32tab", "math/bits.deBruijn64tab"], apart := false, laid := [("math/bits.deBruijn32tab", laid_math_bits_deBruijn32tab), ("math/bits.deBruijn64tab", laid_math_bits_deBruijn64tab), ("internal/strconv.uint64pow10", laid_internal_strconv_uint64pow10), ("quiescent/api.ErrBound", laid_quiescent_api_ErrBound), ("quiescent/api.ErrShape", laid_quiescent_api_ErrShape), ("quiescent/api.ErrName", laid_quiescent_api_ErrName), ("quiescent/api.ErrNone", laid_quiescent_api_ErrNone), ("quiescent/api.ErrHeld", laid_quiescent_api_ErrHeld)] }
def ClientSafeSaid : Prop := clientSafeRow.holds Tryz.pinned (OpenSpec.ofChange clientSafeSpec)

/-- ITS FALSE NEIGHBOUR: 'it returns false'. Refute it at one input. -/
def clientSafeWrong : ChangeSpec := { name := "clientSafe", fn := fun _ => fun
  | [d1, d2, d3] => { results := [.lit (.bool false)], args := [d1, d2, d3] }
  | _ => none }
def ClientSafeWrongFalsely : Prop := clientSafeRow.holds Tryz.pinned (OpenSpec.ofChange clientSafeWrong)

/- THE SECOND FORM. 'bulk': how many values and letters a reading holds, each counted each time it is reached (what is shared counts as often as it is met; a slice's spare places count too). A statement '..UptoSaid' is the law's where the arguments, and the package variables that the reading takes, are together of bulk at most 1048576: NARROWER than '..Said'. Prove '..Said' where nothing that the law and all that it calls make is longer than what came in: it says more and counts as full. Else prove '..UptoSaid'. A law counts once. -/
mutual
def uptoBulk {H : Type} : DataW H → Nat
  | .lit (.string bytes) => bytes.length + 1
  | .lit _ => 1
  | .nil => 1
  | .ptr d => uptoBulk d + 1
  | .slice elems spare => uptoBulkAll elems + uptoBulkAll spare + 1
  | .agg parts => uptoBulkAll parts + 1
  | .iface _ d => uptoBulk d + 1
  | .map entries => uptoBulkEntries entries + 1
  | .held _ => 1
def uptoBulkAll {H : Type} : List (DataW H) → Nat
  | [] => 0
  | d :: r => uptoBulk d + uptoBulkAll r
def uptoBulkEntries {H : Type} : List (Lit × DataW H) → Nat
  | [] => 0
  | x :: r => uptoBulkEntry x + uptoBulkEntries r
def uptoBulkEntry {H : Type} : Lit × DataW H → Nat
  | (.string bytes, d) => bytes.length + uptoBulk d + 1
  | (_, d) => uptoBulk d + 1
 end
def uptoSmall : (H : Type) → List (DataW H) → Bool := fun _ ds => decide (uptoBulkAll ds ≤ 1048576)
def OpenSpec.upto (s : _root_.Go.ChangeSpec) : _root_.Go.OpenSpec := { _root_.Go.OpenSpec.ofChange s with cond := some uptoSmall }

/-- 'quiescentlaw2.ClientChecks', WHERE WHAT IT READS IS OF BULK AT MOST 1048576: true; the input reads as it did. -/
def clientChecksUptoRow : OpenClaim := { program := "ytaiigfcfmcicjaagreatdoor", sum := "4692c6275617d8a894fdb14298721fbd6573e0342771029e4215777a96ae4aff", func := "quiescent/quiescentlaw2.ClientChecks", spec := "clientChecks", inPlace := ["internal/reflectlite.ValueOf", "(internal/reflectlite.Value).Type", "(internal/reflectlite.Value).IsNil", "internal/reflectlite.TypeOf", "(internal/reflectlite.Value).Elem", "(internal/reflectlite.Value).Set"], unfollowed := true, recurses := true, named := ["quiescent/api.ErrHeld", "quiescent/api.ErrBound", "quiescent/api.ErrShape", "quiescent/api.ErrNone", "quiescent/api.ErrName", "internal/strconv.uint64pow10", "math/bits.deBruijn32tab", "math/bits.deBruijn64tab", "quiescent/api.ErrText", "quiescent/api.ErrFull", "quiescent/api.ErrStale", "quiescent/api.ErrDone", "errors.errorType"], apart := false, laid := [("math/bits.deBruijn32tab", laid_math_bits_deBruijn32tab), ("math/bits.deBruijn64tab", laid_math_bits_deBruijn64tab), ("internal/strconv.uint64pow10", laid_internal_strconv_uint64pow10), ("errors.errorType", laid_errors_errorType), ("quiescent/api.ErrText", laid_quiescent_api_ErrText), ("quiescent/api.ErrBound", laid_quiescent_api_ErrBound), ("quiescent/api.ErrShape", laid_quiescent_api_ErrShape), ("quiescent/api.ErrName", laid_quiescent_api_ErrName), ("quiescent/api.ErrNone", laid_quiescent_api_ErrNone), ("quiescent/api.ErrFull", laid_quiescent_api_ErrFull), ("quiescent/api.ErrStale", laid_quiescent_api_ErrStale), ("quiescent/api.ErrHeld", laid_quiescent_api_ErrHeld), ("quiescent/api.ErrDone", laid_quiescent_api_ErrDone)], narrowed := true }
def ClientChecksUptoSaid : Prop := clientChecksUptoRow.holds Tryz.pinned (OpenSpec.upto clientChecksSpec)

/-- 'quiescentlaw2.ClientBuilds', WHERE WHAT IT READS IS OF BULK AT MOST 1048576: true; the input reads as it did. -/
def clientBuildsUptoRow : OpenClaim := { program := "ytaiigfcfmcicjaagreatdoor", sum := "4692c6275617d8a894fdb14298721fbd6573e0342771029e4215777a96ae4aff", func := "quiescent/quiescentlaw2.ClientBuilds", spec := "clientBuilds", inPlace := ["internal/reflectlite.ValueOf", "(internal/reflectlite.Value).Type", "(internal/reflectlite.Value).IsNil", "internal/reflectlite.TypeOf", "(internal/reflectlite.Value).Elem", "(internal/reflectlite.Value).Set"], unfollowed := true, recurses := true, named := ["quiescent/api.ErrHeld", "quiescent/api.ErrBound", "quiescent/api.ErrShape", "quiescent/api.ErrNone", "quiescent/api.ErrName", "internal/strconv.uint64pow10", "math/bits.deBruijn32tab", "math/bits.deBruijn64tab", "quiescent/api.ErrText", "quiescent/api.ErrFull", "quiescent/api.ErrStale", "quiescent/api.ErrDone", "errors.errorType"], apart := false, laid := [("math/bits.deBruijn32tab", laid_math_bits_deBruijn32tab), ("math/bits.deBruijn64tab", laid_math_bits_deBruijn64tab), ("internal/strconv.uint64pow10", laid_internal_strconv_uint64pow10), ("errors.errorType", laid_errors_errorType), ("quiescent/api.ErrText", laid_quiescent_api_ErrText), ("quiescent/api.ErrBound", laid_quiescent_api_ErrBound), ("quiescent/api.ErrShape", laid_quiescent_api_ErrShape), ("quiescent/api.ErrName", laid_quiescent_api_ErrName), ("quiescent/api.ErrNone", laid_quiescent_api_ErrNone), ("quiescent/api.ErrFull", laid_quiescent_api_ErrFull), ("quiescent/api.ErrStale", laid_quiescent_api_ErrStale), ("quiescent/api.ErrHeld", laid_quiescent_api_ErrHeld), ("quiescent/api.ErrDone", laid_quiescent_api_ErrDone)], narrowed := true }
def ClientBuildsUptoSaid : Prop := clientBuildsUptoRow.holds Tryz.pinned (OpenSpec.upto clientBuildsSpec)

/-- 'quiescentlaw2.ClientEnds', WHERE WHAT IT READS IS OF BULK AT MOST 1048576: true; the input reads as it did. -/
def clientEndsUptoRow : OpenClaim := { program := "ytaiigfcfmcicjaagreatdoor", sum := "4692c6275617d8a894fdb14298721fbd6573e0342771029e4215777a96ae4aff", func := "quiescent/quiescentlaw2.ClientEnds", spec := "clientEnds", unfollowed := true, recurses := true, named := ["quiescent/api.ErrHeld", "quiescent/api.ErrBound", "quiescent/api.ErrShape", "quiescent/api.ErrNone", "quiescent/api.ErrName", "internal/strconv.uint64pow10", "math/bits.deBruijn32tab", "math/bits.deBruijn64tab"], apart := false, laid := [("math/bits.deBruijn32tab", laid_math_bits_deBruijn32tab), ("math/bits.deBruijn64tab", laid_math_bits_deBruijn64tab), ("internal/strconv.uint64pow10", laid_internal_strconv_uint64pow10), ("quiescent/api.ErrBound", laid_quiescent_api_ErrBound), ("quiescent/api.ErrShape", laid_quiescent_api_ErrShape), ("quiescent/api.ErrName", laid_quiescent_api_ErrName), ("quiescent/api.ErrNone", laid_quiescent_api_ErrNone), ("quiescent/api.ErrHeld", laid_quiescent_api_ErrHeld)], narrowed := true }
def ClientEndsUptoSaid : Prop := clientEndsUptoRow.holds Tryz.pinned (OpenSpec.upto clientEndsSpec)

/-- 'quiescentlaw2.ClientOne', WHERE WHAT IT READS IS OF BULK AT MOST 1048576: true; the input reads as it did. -/
def clientOneUptoRow : OpenClaim := { program := "ytaiigfcfmcicjaagreatdoor", sum := "4692c6275617d8a894fdb14298721fbd6573e0342771029e4215777a96ae4aff", func := "quiescent/quiescentlaw2.ClientOne", spec := "clientOne", unfollowed := true, recurses := true, named := ["quiescent/api.ErrHeld", "quiescent/api.ErrBound", "quiescent/api.ErrShape", "quiescent/api.ErrNone", "quiescent/api.ErrName", "internal/strconv.uint64pow10", "math/bits.deBruijn32tab", "math/bits.deBruijn64tab"], apart := false, laid := [("math/bits.deBruijn32tab", laid_math_bits_deBruijn32tab), ("math/bits.deBruijn64tab", laid_math_bits_deBruijn64tab), ("internal/strconv.uint64pow10", laid_internal_strconv_uint64pow10), ("quiescent/api.ErrBound", laid_quiescent_api_ErrBound), ("quiescent/api.ErrShape", laid_quiescent_api_ErrShape), ("quiescent/api.ErrName", laid_quiescent_api_ErrName), ("quiescent/api.ErrNone", laid_quiescent_api_ErrNone), ("quiescent/api.ErrHeld", laid_quiescent_api_ErrHeld)], narrowed := true }
def ClientOneUptoSaid : Prop := clientOneUptoRow.holds Tryz.pinned (OpenSpec.upto clientOneSpec)

/-- 'quiescentlaw2.ClientSafe', WHERE WHAT IT READS IS OF BULK AT MOST 1048576: true; the input reads as it did. -/
def clientSafeUptoRow : OpenClaim := { program := "ytaiigfcfmcicjaagreatdoor", sum := "4692c6275617d8a894fdb14298721fbd6573e0342771029e4215777a96ae4aff", func := "quiescent/quiescentlaw2.ClientSafe", spec := "clientSafe", unfollowed := true, recurses := true, named := ["quiescent/api.ErrHeld", "quiescent/api.ErrBound", "quiescent/api.ErrShape", "quiescent/api.ErrNone", "quiescent/api.ErrName", "internal/strconv.uint64pow10", "math/bits.deBruijn32tab", "math/bits.deBruijn64tab"], apart := false, laid := [("math/bits.deBruijn32tab", laid_math_bits_deBruijn32tab), ("math/bits.deBruijn64tab", laid_math_bits_deBruijn64tab), ("internal/strconv.uint64pow10", laid_internal_strconv_uint64pow10), ("quiescent/api.ErrBound", laid_quiescent_api_ErrBound), ("quiescent/api.ErrShape", laid_quiescent_api_ErrShape), ("quiescent/api.ErrName", laid_quiescent_api_ErrName), ("quiescent/api.ErrNone", laid_quiescent_api_ErrNone), ("quiescent/api.ErrHeld", laid_quiescent_api_ErrHeld)], narrowed := true }
def ClientSafeUptoSaid : Prop := clientSafeUptoRow.holds Tryz.pinned (OpenSpec.upto clientSafeSpec)

end Rows
end Go.Proofs.YtaiigfcfmcicjaaGreatDoor
