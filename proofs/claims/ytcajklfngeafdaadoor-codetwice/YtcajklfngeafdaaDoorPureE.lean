/- Plain Lean: what is wrong with an instruction, in the words of package code's kinds. -/
import Derived.Test.YtcajklfngeafdaaDoorProgA
namespace Go.Proofs.YtcajklfngeafdaaDoor
open Go.RowKit

theorem mostOf_pos (c : Nat) : 0 < mostOf c := by
  unfold mostOf
  repeat' split
  all_goals omega
theorem limOf_zero {S : List UInt8} {k : Nat} : limOf S k = 0 ↔ nums S ≤ k := by
  unfold limOf
  have := mostOf_pos (byteAt ⟨S.toArray⟩ k)
  split <;> constructor <;> intro h <;> omega
theorem limOf_pos {S : List UInt8} {k : Nat} : 0 < limOf S k ↔ k < nums S := by
  unfold limOf
  have := mostOf_pos (byteAt ⟨S.toArray⟩ k)
  split <;> constructor <;> intro h <;> omega
theorem limOf_lt {S : List UInt8} {k : Nat} (h : k < nums S) : limOf S k = mostOf (byteAt ⟨S.toArray⟩ k) := if_pos h
theorem size_mk (S : List UInt8) : (⟨S.toArray⟩ : ByteArray).size = S.length := by simp [ByteArray.size]

/-- What the kind has not is zero. -/
def fitsP (S : List UInt8) (x : Ins) : Prop := (limOf S 0 = 0 → x.a = 0) ∧ (limOf S 1 = 0 → x.b = 0) ∧ (limOf S 2 = 0 → x.c = 0) ∧ (hasTo S = false → x.to.toList = [])
/-- What it has is within its bounds. -/
def withinP (S : List UInt8) (x : Ins) : Prop := (0 < limOf S 0 → 0 ≤ x.a ∧ x.a < limOf S 0) ∧ (0 < limOf S 1 → 0 ≤ x.b ∧ x.b < limOf S 1) ∧ (0 < limOf S 2 → 0 ≤ x.c ∧ x.c < limOf S 2)

theorem fitsP_iff {S : List UInt8} (x : Ins) : fitsP S x ↔ ¬ (hasTo S = false ∧ ¬ x.to.toList = []) ∧ ¬ ∃ k, nums S ≤ k ∧ k < 3 ∧ x.n k ≠ 0 := by
  unfold fitsP
  simp only [limOf_zero]
  constructor
  · rintro ⟨h0, h1, h2, ht⟩
    refine ⟨fun ⟨a, b⟩ => b (ht a), fun ⟨k, k1, k2, k3⟩ => k3 ?_⟩
    match k, k2 with
    | 0, _ => exact h0 k1
    | 1, _ => exact h1 k1
    | 2, _ => exact h2 k1
  · rintro ⟨ht, hk⟩
    have hk' : ∀ k, nums S ≤ k → k < 3 → x.n k = 0 := fun k a b => Decidable.byContradiction fun c => hk ⟨k, a, b, c⟩
    exact ⟨fun h => hk' 0 h (by omega), fun h => hk' 1 h (by omega), fun h => hk' 2 h (by omega), fun h => Decidable.byContradiction fun c => ht ⟨h, c⟩⟩

theorem withinP_iff {S : List UInt8} (h3 : nums S ≤ 3) (x : Ins) : withinP S x ↔ ¬ ∃ k, k < nums S ∧ ¬ (0 ≤ x.n k ∧ x.n k < mostOf (byteAt ⟨S.toArray⟩ k)) := by
  unfold withinP
  simp only [limOf_pos]
  constructor
  · rintro ⟨h0, h1, h2⟩ ⟨k, k1, k2⟩
    apply k2
    have k3 : k < 3 := by omega
    rw [← limOf_lt k1]
    match k, k3 with
    | 0, _ => exact h0 k1
    | 1, _ => exact h1 k1
    | 2, _ => exact h2 k1
  · intro hk
    have hk' : ∀ k, k < nums S → (0 ≤ x.n k ∧ x.n k < limOf S k) := fun k a => by
      rw [limOf_lt a]
      exact Decidable.byContradiction fun c => hk ⟨k, a, c⟩
    exact ⟨hk' 0, hk' 1, hk' 2⟩

theorem insErr_none {x : Ins} (h : shape x.op.toList = none) : insErr x = 3 := by unfold insErr; rw [h]
theorem insErr_some {x : Ins} {S : List UInt8} (h : shape x.op.toList = some S) : insErr x = insBad x ⟨S.toArray⟩ := by unfold insErr; rw [h]

theorem insErr_fits {x : Ins} {S : List UInt8} (h : shape x.op.toList = some S) (hf : ¬ fitsP S x) : insErr x = 3 := by
  obtain ⟨⟨_, h3⟩, _⟩ := table_facts _ (shape_mem h)
  dsimp only at h3
  rw [fitsP_iff] at hf
  rw [insErr_some h]
  unfold insBad
  rw [size_mk]
  by_cases h1 : hasTo S = false ∧ ¬ x.to.toList = []
  · rw [if_pos h1]
  · by_cases h2 : ∃ k, nums S ≤ k ∧ k < 3 ∧ x.n k ≠ 0
    · rw [if_neg h1, if_pos h2]
    · exact absurd ⟨h1, h2⟩ hf
theorem insErr_within {x : Ins} {S : List UInt8} (h : shape x.op.toList = some S) (hf : fitsP S x) (hw : ¬ withinP S x) : insErr x = 2 := by
  obtain ⟨⟨_, h3⟩, _⟩ := table_facts _ (shape_mem h)
  dsimp only at h3
  rw [fitsP_iff] at hf
  rw [withinP_iff h3, Classical.not_not] at hw
  rw [insErr_some h]
  unfold insBad
  rw [size_mk, if_neg hf.1, if_neg hf.2, if_pos hw]
open Classical in
theorem insErr_ok {x : Ins} {S : List UInt8} (h : shape x.op.toList = some S) (hf : fitsP S x) (hw : withinP S x) : insErr x = if hasTo S = true ∧ ¬ isName x.to then 4 else 0 := by
  obtain ⟨⟨_, h3⟩, _⟩ := table_facts _ (shape_mem h)
  dsimp only at h3
  rw [fitsP_iff] at hf
  rw [withinP_iff h3] at hw
  rw [insErr_some h]
  unfold insBad
  rw [size_mk, if_neg hf.1, if_neg hf.2, if_neg hw]

theorem label_shape {op S : List UInt8} (h : shape op = some S) (h1 : hasTo S = false) : (op == [108, 97, 98, 101, 108]) = false := by
  have := (by decide +kernel : ∀ p ∈ table, hasTo p.2 = false → (p.1 == [108, 97, 98, 101, 108]) = false)
  exact this _ (shape_mem h) h1

open Classical in
/-- What is wrong with an instruction. -/
theorem insFault_some {l : List Ins} {i : Nat} {x : Ins} {S : List UInt8} (h : shape x.op.toList = some S) : insFault l i x =
    if ¬ fitsP S x then 3 else if ¬ withinP S x then 2 else if hasTo S = false then 0 else if ¬ isName x.to then 4
    else if (x.op.toList == [108, 97, 98, 101, 108]) = true ∧ labelAt l x.to ≠ i then 4 else if labelAt l x.to < 0 then 5 else 0 := by
  by_cases hf : fitsP S x
  · rw [if_neg (fun h => h hf)]
    by_cases hw : withinP S x
    · rw [if_neg (fun h => h hw)]
      have hE := insErr_ok h hf hw
      cases ht : hasTo S with
      | false =>
        rw [if_pos rfl]
        rw [ht, if_neg (fun e => by cases e.1)] at hE
        unfold insFault
        rw [if_neg (fun e => e hE), if_neg (fun e => by rw [label_shape h ht] at e; cases e.1), if_neg]
        rintro ⟨e, _⟩
        rw [hf.2.2.2 ht] at e
        cases e
      | true =>
        rw [if_neg (fun e => by cases e)]
        by_cases hn : isName x.to
        · rw [if_neg (fun e => e hn)]
          rw [if_neg (fun e => e.2 hn)] at hE
          have hto : (x.to.toList == []) = false := by
            rw [beq_eq_false_iff_ne, toList_bl]
            intro e
            have := hn.1
            rw [size_bl, e] at this
            cases this
          unfold insFault
          rw [if_neg (fun e => e hE)]
          by_cases h1 : (x.op.toList == [108, 97, 98, 101, 108]) = true ∧ labelAt l x.to ≠ i
          · rw [if_pos h1, if_pos h1]
          · rw [if_neg h1, if_neg h1]
            by_cases h2 : labelAt l x.to < 0
            · rw [if_pos ⟨hto, h2⟩, if_pos h2]
            · rw [if_neg (fun e => h2 e.2), if_neg h2]
        · rw [if_pos hn]
          rw [ht, if_pos ⟨rfl, hn⟩] at hE
          unfold insFault
          rw [if_pos (by omega), hE]
    · rw [if_pos hw]
      have := insErr_within h hf hw
      unfold insFault
      rw [if_pos (by omega), this]
  · rw [if_pos hf]
    have := insErr_fits h hf
    unfold insFault
    rw [if_pos (by omega), this]
theorem insFault_none {l : List Ins} {i : Nat} {x : Ins} (h : shape x.op.toList = none) : insFault l i x = 3 := by
  have := insErr_none h
  unfold insFault
  rw [if_pos (by omega), this]

/-- An instruction with no fault fits. -/
theorem fits_of_fault {l : List Ins} {i : Nat} {x : Ins} (h : insFault l i x = 0) : ∃ S, Fits x S ∧ (hasTo S = true → isName x.to) := by
  cases hS : shape x.op.toList with
  | none => rw [insFault_none hS] at h; cases h
  | some S =>
    obtain ⟨⟨_, h3⟩, _⟩ := table_facts _ (shape_mem hS)
    dsimp only at h3
    rw [insFault_some hS] at h
    by_cases hf : fitsP S x
    · by_cases hw : withinP S x
      · rw [if_neg (fun e => e hf), if_neg (fun e => e hw)] at h
        refine ⟨S, ⟨hS, fun k hk => ?_, fun k k1 k2 => ?_, fun ht => ?_⟩, fun ht => ?_⟩
        · have hk3 : k < 3 := by omega
          have hp := limOf_pos.2 hk
          have hm : limOf S k ≤ 4294967296 := by
            rw [limOf_lt hk]; unfold mostOf
            repeat' split
            all_goals omega
          have : 0 ≤ x.n k ∧ x.n k < limOf S k := by
            match k, hk3 with
            | 0, _ => exact hw.1 hp
            | 1, _ => exact hw.2.1 hp
            | 2, _ => exact hw.2.2 hp
          omega
        · have hz := limOf_zero.2 k2
          match k, k1 with
          | 0, _ => exact hf.1 hz
          | 1, _ => exact hf.2.1 hz
          | 2, _ => exact hf.2.2.1 hz
        · have := hf.2.2.2 ht
          rw [toList_bl] at this
          exact bl_inj this
        · rw [if_neg (fun e => by rw [ht] at e; cases e)] at h
          refine Classical.byContradiction fun hn => ?_
          rw [if_pos hn] at h
          cases h
      · rw [if_neg (fun e => e hf), if_pos hw] at h; cases h
    · rw [if_pos hf] at h; cases h
end Go.Proofs.YtcajklfngeafdaaDoor
