/- Plain Lean: an instruction's line: written, and read again. No program. -/
import Derived.Test.YtcajklfngeafdaaDoorPureS
import Derived.Test.YtcajklfngeafdaaDoorPureA
import Derived.Test.YtcajklfngeafdaaDoorPureB
import Derived.WideShapes
namespace Go.Proofs.YtcajklfngeafdaaDoor
open Go.RowKit Go.Lib

/-- The bytes of a text. -/
abbrev bl (s : ByteArray) : List UInt8 := s.data.toList
theorem toList_bl (s : ByteArray) : s.toList = bl s := ByteArray.toList_eq s
theorem mk_bl (s : ByteArray) : (⟨(bl s).toArray⟩ : ByteArray) = s := by cases s; simp
theorem bl_inj {a b : ByteArray} (h : bl a = bl b) : a = b := by rw [← mk_bl a, ← mk_bl b, h]
theorem size_bl (s : ByteArray) : s.size = (bl s).length := Lib.size_eq s
theorem bl_append (a b : ByteArray) : bl (a ++ b) = bl a ++ bl b := by
  show (a ++ b).data.toList = _
  rw [ByteArray.data_append, Array.toList_append]
theorem byteAt_bl (s : ByteArray) (i : Nat) (h : i < s.size) : ∃ h', byteAt s i = ((bl s)[i]'h').toNat := by
  refine ⟨by rw [← size_bl]; exact h, ?_⟩
  rw [byteAt_lt h]
  simp [bl, ByteArray.getElem_eq_getElem_data]

/-- The table of shapes. -/
def table : List (List UInt8 × List UInt8) :=
  [([99, 111, 110, 115, 116], [114, 118]), ([109, 111, 118, 101], [114, 114]), ([97, 100, 100], [114, 114, 114]), ([115, 117, 98], [114, 114, 114]), ([97, 110, 100], [114, 114, 114]), ([120, 111, 114], [114, 114, 114]),
   ([108, 111, 97, 100], [114, 114, 119]), ([115, 116, 111, 114, 101], [114, 114, 119]), ([115, 119, 97, 112], [114, 114, 119]), ([99, 97, 115], [114, 115, 119]), ([97, 108, 108, 111, 99], [114]), ([102, 114, 101, 101], [114]), ([109, 97, 114, 107], [114]), ([110, 101, 101, 100], [114]),
   ([102, 101, 110, 99, 101], []), ([102, 111, 114, 99, 101], []), ([115, 116, 111, 112], []), ([122, 101, 114, 111], [114, 108]), ([115, 97, 109, 101], [114, 114, 108]), ([103, 111, 116, 111], [108]), ([108, 97, 98, 101, 108], [108])]

theorem ite_some {op k l S : List UInt8} {e : Option (List UInt8)} (h : (if (op == k) = true then some l else e) = some S) (hl : (k, l) ∈ table) (he : e = some S → (op, S) ∈ table) : (op, S) ∈ table := by
  by_cases hc : (op == k) = true
  · rw [if_pos hc] at h; cases h; rw [beq_iff_eq.1 hc]; exact hl
  · rw [if_neg hc] at h; exact he h
set_option maxRecDepth 4000 in
theorem shape_mem {op S : List UInt8} (h : shape op = some S) : (op, S) ∈ table := by
  unfold shape at h
  iterate 21 (refine ite_some h (by decide) ?_; clear h; intro h)
  cases h

/-- How many numbers, and is there a label. -/
abbrev nums (S : List UInt8) : Nat := cnt ⟨S.toArray⟩ S.length
abbrev hasTo (S : List UInt8) : Bool := lab ⟨S.toArray⟩ S.length
theorem table_facts : ∀ p ∈ table, (nums p.2 + (if hasTo p.2 then 1 else 0) = p.2.length ∧ nums p.2 ≤ 3) ∧ (32 ∉ p.1 ∧ 10 ∉ p.1) ∧ (∀ k, k < 3 → k < p.2.length → (byteAt ⟨p.2.toArray⟩ k = 108 ↔ nums p.2 ≤ k)) := by decide +kernel

/-- The k-th number of a line's pieces behind its name. -/
def numOn (r : List ByteArray) (m k : Nat) : Int := if k < m then ((numL (bl (r.getD k ⟨#[]⟩))).getD 0 : Nat) else 0
/-- The instruction of a line's pieces. -/
def readIns : List ByteArray → Option Ins
  | [] => none
  | op :: r => match shape op.toList with
    | none => none
    | some S => if r.length = S.length ∧ ((List.range (nums S)).all fun k => (numL (bl (r.getD k ⟨#[]⟩))).isSome) = true then
        some ⟨op, numOn r (nums S) 0, numOn r (nums S) 1, numOn r (nums S) 2, if hasTo S then r.getD (nums S) ⟨#[]⟩ else ⟨#[]⟩⟩ else none

theorem readIns_cons (op : ByteArray) (r : List ByteArray) : readIns (op :: r) = match shape op.toList with
    | none => none
    | some S => if r.length = S.length ∧ ((List.range (nums S)).all fun k => (numL (bl (r.getD k ⟨#[]⟩))).isSome) = true then
        some ⟨op, numOn r (nums S) 0, numOn r (nums S) 1, numOn r (nums S) 2, if hasTo S then r.getD (nums S) ⟨#[]⟩ else ⟨#[]⟩⟩ else none := rfl

/-- The pieces of an instruction's line. -/
def partsOf (x : Ins) : List (List UInt8) := bl x.op :: match shape x.op.toList with
  | none => []
  | some S => ((List.range (nums S)).map fun k => decDigits (x.n k).toNat) ++ if hasTo S then [bl x.to] else []

theorem cutS_data (s : ByteArray) (c : UInt8) : (cutS s c.toNat).map bl = cutL c (bl s) := by
  have key : ∀ j, j ≤ s.size → ∀ rest, cutL c ((bl s).drop j) = rest → (cutTo s c.toNat j).1.map bl ++ (match rest with | [] => [] | p :: q => (bl (cutTo s c.toNat j).2 ++ p) :: q) = cutL c (bl s) := by
    intro j
    induction j with
    | zero =>
      intro _ rest h
      subst h
      obtain ⟨p, q, hp⟩ := cutL_shape c (bl s)
      simp only [List.drop_zero, hp, cutTo, List.map_nil, List.nil_append]
      rfl
    | succ j ih =>
      intro hj rest h
      subst h
      have hlt : j < (bl s).length := by rw [← size_bl]; omega
      have hd := List.drop_eq_getElem_cons hlt
      obtain ⟨p, q, hp⟩ := cutL_shape c ((bl s).drop (j + 1))
      obtain ⟨h', hb⟩ := byteAt_bl s j (by omega)
      rw [cutTo]
      by_cases hc : (bl s)[j] = c
      · rw [if_pos (by rw [hb, hc])]
        have := ih (by omega) _ rfl
        rw [hd, hc, cutL_hit, hp] at this
        rw [hp, ← this]
        simp [bl]
      · rw [if_neg (by rw [hb]; intro e; exact hc (UInt8.toNat_inj.1 e))]
        have := ih (by omega) _ rfl
        rw [hd, cutL_miss hc _ p q hp] at this
        rw [hp, ← this]
        simp only [bl_append, List.append_assoc]
        congr 2
        have e : bl (s.extract j (j + 1)) = [(bl s)[j]] := by
          rw [show bl (s.extract j (j + 1)) = ((bl s).drop j).take (j + 1 - j) from extract_data s j (j + 1)]
          rw [hd, show j + 1 - j = 1 by omega]; rfl
        rw [e]; rfl
  have := key s.size (Nat.le_refl _) _ rfl
  rw [List.drop_eq_nil_of_le (by rw [← size_bl]; omega), cutL_nil] at this
  rw [← this, cutS, List.map_append]
  simp
end Go.Proofs.YtcajklfngeafdaaDoor
