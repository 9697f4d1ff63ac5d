/- The text of right code is read; a line's text letter by letter. Plain Lean: no program. -/
import Derived.Test.YtcajklfngeafdaaGreatDoorPureG
namespace Go.Proofs.YtcajklfngeafdaaGreatDoor
open Go.Lib

theorem digits_dec : ∀ (m : Nat), bl (digits m) = decDigits m := by
  intro m
  induction m using Nat.strongRecOn with
  | _ m ih =>
    rw [digits, decDigits]
    by_cases h : m < 10
    · rw [if_pos h, dif_pos h]; rfl
    · rw [if_neg h, dif_neg h, bl_append, ih (m / 10) (by omega)]; rfl

/-- What the document's program writes for the k-th letter of a shape. -/
def pieceR (x : Ins) (S : ByteArray) (k : Nat) : ByteArray := if byteAt S k = 108 then x.to else decimal (x.n k)
/-- A line up to its k-th letter. -/
def accR (x : Ins) (S : ByteArray) : Nat → List UInt8
  | 0 => bl x.op
  | k + 1 => accR x S k ++ 32 :: bl (pieceR x S k)
theorem accR_eq (x : Ins) (S : ByteArray) : ∀ k, accR x S k = bl x.op ++ joinTail [32] ((List.range k).map fun k => bl (pieceR x S k))
  | 0 => by simp [accR, joinTail]
  | k + 1 => by
    rw [accR, accR_eq x S k, List.range_succ]
    simp [joinTail]

theorem lineL_acc {x : Ins} {S : List UInt8} (hF : Fits x S) : lineL x = accR x ⟨S.toArray⟩ S.length := by
  obtain ⟨⟨f1, f2⟩, -, f3⟩ := table_facts _ (shape_mem hF.shape)
  dsimp only at f1 f2 f3
  have hd : ∀ k, k < nums S → bl (pieceR x ⟨S.toArray⟩ k) = decDigits (x.n k).toNat := fun k hk => by
    have h0 := hF.num k hk
    have hb : ¬ byteAt ⟨S.toArray⟩ k = 108 := fun h => by
      have := (f3 k (by omega) (by split at f1 <;> omega)).1 h
      omega
    unfold pieceR decimal
    rw [if_neg hb, if_neg (by omega), digits_dec, show (x.n k).natAbs = (x.n k).toNat by omega]
  unfold lineL partsOf
  rw [hF.shape]
  dsimp only
  rw [join_cons, accR_eq]
  congr 2
  cases ht : hasTo S with
  | false =>
    rw [ht] at f1
    rw [if_neg (by decide), List.append_nil, show S.length = nums S by simp at f1; omega]
    exact List.map_congr_left fun k hk => (hd k (List.mem_range.1 hk)).symm
  | true =>
    rw [ht] at f1
    have hl : S.length = nums S + 1 := by simp at f1; omega
    rw [if_pos rfl, hl, List.range_succ, List.map_append]
    congr 1
    · exact List.map_congr_left fun k hk => (hd k (List.mem_range.1 hk)).symm
    · have hb : byteAt ⟨S.toArray⟩ (nums S) = 108 := (f3 (nums S) (by have := shape_le hF.shape; omega) (by omega)).2 (Nat.le_refl _)
      simp [pieceR, hb]

/-- What is written is read, line by line. -/
theorem line_read {x : Ins} {S : List UInt8} (hF : Fits x S) (hN : hasTo S = true → isName x.to) {ln : ByteArray} (h : bl ln = lineL x) : readLine ln = some x := by
  refine read_of_parts hF ?_
  have hc := cutS_data ln 32
  rw [show (32 : UInt8).toNat = 32 from rfl] at hc
  rw [hc, h]
  unfold lineL
  exact cutL_of_join (by unfold partsOf; simp) (fun p hp => (parts_free hF hN p hp).1)

theorem read_of_text {l : List Ins} (h : ∀ x ∈ l, ∃ S, Fits x S ∧ (hasTo S = true → isName x.to)) {s : ByteArray} (hs : bl s = textL l) : (linesOf s).map readLine = l.map some := by
  have hL : (linesOf s).map bl = l.map lineL := by
    rw [linesOf_bl, hs]
    have ht : textL l = ((l.map lineL).map (· ++ [10])).flatten := by unfold textL; rw [List.map_map]; rfl
    by_cases he : l = []
    · subst he; rfl
    · have hne : l.map lineL ≠ [] := by simpa using he
      rw [ht, flat_join _ hne, if_neg (by simp)]
      unfold strip
      rw [if_pos (by simp), List.dropLast_concat]
      refine cutL_of_join hne (fun p hp => ?_)
      obtain ⟨x, hx, rfl⟩ := List.mem_map.1 hp
      obtain ⟨S, hF, hN⟩ := h x hx
      exact join_free (by decide) (fun q hq => (parts_free hF hN q hq).2)
  apply List.ext_getElem?
  intro k
  have hk := congrArg (fun z => z[k]?) hL
  simp only [List.getElem?_map] at hk ⊢
  cases hx : l[k]? with
  | none => cases hy : (linesOf s)[k]? with
    | none => rfl
    | some y => rw [hx, hy] at hk; cases hk
  | some x => cases hy : (linesOf s)[k]? with
    | none => rw [hx, hy] at hk; cases hk
    | some y =>
      rw [hx, hy] at hk
      obtain ⟨S, hF, hN⟩ := h x (List.mem_of_getElem? hx)
      rw [Option.map_some, Option.map_some, line_read hF hN (Option.some.inj hk)]
end Go.Proofs.YtcajklfngeafdaaGreatDoor
