/- A number, as the document's program reads it, is the number that the other one reads. -/
import Derived.Test.YtcajklfngeafdaaGreatDoorPureD
namespace Go.Proofs.YtcajklfngeafdaaGreatDoor
open Go.Lib
theorem decFrom_fold : ∀ (l : List UInt8) (acc : Nat), (∃ b ∈ l, b.toNat < 48 ∨ 57 < b.toNat) ∧ decFrom acc l = none ∨ (∀ b ∈ l, 48 ≤ b.toNat ∧ b.toNat ≤ 57) ∧ decFrom acc l = some (l.foldl (fun a b => 10 * a + (b.toNat - 48)) acc)
  | [], acc => .inr ⟨by simp, by simp [decFrom]⟩
  | x :: r, acc => by
    by_cases hx : 48 ≤ x.toNat ∧ x.toNat ≤ 57
    · have hd : digitVal x = some (x.toNat - 48) := by simp [digitVal]; exact hx
      rcases decFrom_fold r (acc * 10 + (x.toNat - 48)) with ⟨⟨b, hb, h1⟩, h2⟩ | ⟨h1, h2⟩
      · exact .inl ⟨⟨b, by simp [hb], h1⟩, by rw [decFrom, hd]; exact h2⟩
      · refine .inr ⟨fun b hb => ?_, by rw [decFrom, hd]; simp only [h2, List.foldl_cons]; rw [Nat.mul_comm 10 acc]⟩
        rcases List.mem_cons.1 hb with rfl | hb
        · exact hx
        · exact h1 b hb
    · have hd : digitVal x = none := by simp [digitVal]; intro h; omega
      exact .inl ⟨⟨x, by simp, by omega⟩, by rw [decFrom, hd]⟩

theorem valTo_fold (s : ByteArray) : ∀ j, j ≤ s.size → valTo s j = ((bl s).take j).foldl (fun a b => 10 * a + (b.toNat - 48)) 0
  | 0, _ => by simp [valTo]
  | j + 1, h => by
    obtain ⟨h', hb⟩ := byteAt_bl s j (by omega)
    rw [valTo, valTo_fold s j (by omega), List.take_succ_eq_append_getElem h', List.foldl_append, hb]
    rfl

theorem numOf_numL (s : ByteArray) : numOf s = numL (bl s) := by
  have hz := size_bl s
  have hc : (s.size < 1 ∨ 10 < s.size ∨ (1 < s.size ∧ byteAt s 0 = 48)) ↔ ((bl s).length < 1 ∨ 10 < (bl s).length ∨ (1 < (bl s).length ∧ (bl s).head? = some 48)) := by
    rw [← hz]
    by_cases h : 1 < s.size
    · obtain ⟨h', hb⟩ := byteAt_bl s 0 (by omega)
      have : byteAt s 0 = 48 ↔ (bl s).head? = some 48 := by
        rw [List.head?_eq_getElem?, List.getElem?_eq_getElem h', hb]
        constructor
        · intro e; rw [UInt8.toNat_inj.1 (e.trans (by decide : (48 : Nat) = (48 : UInt8).toNat))]
        · intro e; rw [Option.some.inj e]; rfl
      rw [this]
    · simp [h]
  unfold numOf numL
  by_cases h : s.size < 1 ∨ 10 < s.size ∨ (1 < s.size ∧ byteAt s 0 = 48)
  · rw [if_pos h, if_pos (hc.1 h)]
  · rw [if_neg h, if_neg (fun k => h (hc.2 k))]
    rcases decFrom_fold (bl s) 0 with ⟨⟨b, hb, h1⟩, h2⟩ | ⟨h1, h2⟩
    · rw [h2, if_pos]
      obtain ⟨k, hk, rfl⟩ := List.getElem_of_mem hb
      obtain ⟨_, hb'⟩ := byteAt_bl s k (by omega)
      exact ⟨k, by omega, by rw [hb']; exact h1⟩
    · rw [h2, if_neg, valTo_fold s _ (Nat.le_refl _), hz, List.take_length]
      rintro ⟨k, hk, h⟩
      obtain ⟨h', hb'⟩ := byteAt_bl s k hk
      have := h1 _ (List.getElem_mem h')
      rw [hb'] at h
      omega
end Go.Proofs.YtcajklfngeafdaaGreatDoor
