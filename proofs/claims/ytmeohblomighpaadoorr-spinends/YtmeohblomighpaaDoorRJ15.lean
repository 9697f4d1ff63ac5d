import Derived.Test.YtmeohblomighpaaDoorRJ14
import Derived.Test.YtmeohblomighpaaDoorRProg
import Derived.Test.YtmeohblomighpaaDoorRJ13
import Derived.WalkKit
import Derived.Test.YtmeohblomighpaaDoorRJ01
import Derived.Deep.QuietTactic

/- MkK -/
namespace Go.Proofs.YtmeohblomighpaaDoorR
open Go.RowKit

theorem insErr_zero {x : Ins} (h : insErr x = 0) : ∃ S, shape x.op.toList = some S ∧ insBad x ⟨S.toArray⟩ = 0 := by
  unfold insErr at h
  cases hS : shape x.op.toList with
  | none => rw [hS] at h; cases h
  | some S => rw [hS] at h; exact ⟨S, rfl, h⟩
theorem insBad_parts {x : Ins} {S : ByteArray} (h : insBad x S = 0) : (∀ k, k < cnt S S.size → 0 ≤ x.n k ∧ x.n k < mostOf (byteAt S k)) ∧ (lab S S.size = true → isName x.to) := by
  unfold insBad at h
  by_cases h1 : lab S S.size = false ∧ ¬ x.to.toList = []
  · rw [if_pos h1] at h; cases h
  · rw [if_neg h1] at h
    by_cases h2 : ∃ k, cnt S S.size ≤ k ∧ k < 3 ∧ x.n k ≠ 0
    · rw [if_pos h2] at h; cases h
    · rw [if_neg h2] at h
      by_cases h3 : ∃ k, k < cnt S S.size ∧ ¬ (0 ≤ x.n k ∧ x.n k < mostOf (byteAt S k))
      · rw [if_pos h3] at h; cases h
      · rw [if_neg h3] at h
        by_cases h4 : lab S S.size = true ∧ ¬ isName x.to
        · rw [if_pos h4] at h; cases h
        · exact ⟨fun k hk => Decidable.byContradiction fun c => h3 ⟨k, hk, c⟩, fun hl => Classical.byContradiction fun c => h4 ⟨hl, c⟩⟩
theorem insBad_range {x : Ins} {S : ByteArray} (h : insBad x S = 0) : ∀ k, k < cnt S S.size → 0 ≤ x.n k ∧ x.n k < mostOf (byteAt S k) := (insBad_parts h).1
theorem insBad_lab {x : Ins} {S : ByteArray} (h : insBad x S = 0) : lab S S.size = true → isName x.to := (insBad_parts h).2
theorem op_is {s : ByteArray} {l : List UInt8} (h : s.toList = l) : s = ⟨l.toArray⟩ := by
  rw [toList_bl] at h; rw [← h, mk_bl]
theorem nat_of {v : Int} {m : Int} {n : Nat} (h : 0 ≤ v ∧ v < m) (hm : m = n) : ∃ i : Nat, i < n ∧ v = i := ⟨v.toNat, by omega, by omega⟩
theorem lab_of {L : List Ins} {x : Ins} (h : InsOk L x) (hn : isName x.to) : ∃ i : Nat, labelAt L x.to = i := by
  have := h.to (by
    rw [beq_eq_false_iff_ne, toList_bl]
    intro e
    have := hn.1
    rw [size_bl, e] at this
    cases this)
  exact ⟨(labelAt L x.to).toNat, by omega⟩

set_option maxHeartbeats 1000000 in
theorem kinds {L : List Ins} {x : Ins} (h : InsOk L x) :
    (x.op = ⟨#[99, 111, 110, 115, 116]⟩ ∧ (∃ i : Nat, i < 8 ∧ x.a = i) ∧ Wd x.b) ∨
    (x.op = ⟨#[109, 111, 118, 101]⟩ ∧ (∃ i : Nat, i < 8 ∧ x.a = i) ∧ (∃ i : Nat, i < 8 ∧ x.b = i)) ∨
    (x.op = ⟨#[97, 100, 100]⟩ ∧ (∃ i : Nat, i < 8 ∧ x.a = i) ∧ (∃ i : Nat, i < 8 ∧ x.b = i) ∧ (∃ i : Nat, i < 8 ∧ x.c = i)) ∨
    (x.op = ⟨#[115, 117, 98]⟩ ∧ (∃ i : Nat, i < 8 ∧ x.a = i) ∧ (∃ i : Nat, i < 8 ∧ x.b = i) ∧ (∃ i : Nat, i < 8 ∧ x.c = i)) ∨
    (x.op = ⟨#[97, 110, 100]⟩ ∧ (∃ i : Nat, i < 8 ∧ x.a = i) ∧ (∃ i : Nat, i < 8 ∧ x.b = i) ∧ (∃ i : Nat, i < 8 ∧ x.c = i)) ∨
    (x.op = ⟨#[120, 111, 114]⟩ ∧ (∃ i : Nat, i < 8 ∧ x.a = i) ∧ (∃ i : Nat, i < 8 ∧ x.b = i) ∧ (∃ i : Nat, i < 8 ∧ x.c = i)) ∨
    (x.op = ⟨#[108, 111, 97, 100]⟩ ∧ (∃ i : Nat, i < 8 ∧ x.a = i) ∧ (∃ i : Nat, i < 8 ∧ x.b = i) ∧ (∃ i : Nat, i < 4 ∧ x.c = i)) ∨
    (x.op = ⟨#[115, 116, 111, 114, 101]⟩ ∧ (∃ i : Nat, i < 8 ∧ x.a = i) ∧ (∃ i : Nat, i < 8 ∧ x.b = i) ∧ (∃ i : Nat, i < 4 ∧ x.c = i)) ∨
    (x.op = ⟨#[115, 119, 97, 112]⟩ ∧ (∃ i : Nat, i < 8 ∧ x.a = i) ∧ (∃ i : Nat, i < 8 ∧ x.b = i) ∧ (∃ i : Nat, i < 4 ∧ x.c = i)) ∨
    (x.op = ⟨#[99, 97, 115]⟩ ∧ (∃ i : Nat, i < 8 ∧ x.a = i) ∧ (∃ i : Nat, i < 7 ∧ x.b = i) ∧ (∃ i : Nat, i < 4 ∧ x.c = i)) ∨
    (x.op = ⟨#[97, 108, 108, 111, 99]⟩ ∧ (∃ i : Nat, i < 8 ∧ x.a = i)) ∨
    (x.op = ⟨#[102, 114, 101, 101]⟩ ∧ (∃ i : Nat, i < 8 ∧ x.a = i)) ∨
    (x.op = ⟨#[109, 97, 114, 107]⟩ ∧ (∃ i : Nat, i < 8 ∧ x.a = i)) ∨
    (x.op = ⟨#[110, 101, 101, 100]⟩ ∧ (∃ i : Nat, i < 8 ∧ x.a = i)) ∨
    (x.op = ⟨#[102, 101, 110, 99, 101]⟩) ∨
    (x.op = ⟨#[102, 111, 114, 99, 101]⟩) ∨
    (x.op = ⟨#[115, 116, 111, 112]⟩) ∨
    (x.op = ⟨#[122, 101, 114, 111]⟩ ∧ (∃ i : Nat, i < 8 ∧ x.a = i) ∧ (∃ i : Nat, labelAt L x.to = i)) ∨
    (x.op = ⟨#[115, 97, 109, 101]⟩ ∧ (∃ i : Nat, i < 8 ∧ x.a = i) ∧ (∃ i : Nat, i < 8 ∧ x.b = i) ∧ (∃ i : Nat, labelAt L x.to = i)) ∨
    (x.op = ⟨#[103, 111, 116, 111]⟩ ∧ (∃ i : Nat, labelAt L x.to = i)) ∨
    (x.op = ⟨#[108, 97, 98, 101, 108]⟩ ∧ (∃ i : Nat, labelAt L x.to = i)) := by
  obtain ⟨S, hS, hB⟩ := insErr_zero h.err
  have hm := shape_mem hS
  have hr := insBad_range hB
  have hl := insBad_lab hB
  simp only [table, List.mem_cons, Prod.mk.injEq, List.not_mem_nil, or_false] at hm
  rcases hm with ⟨h1, rfl⟩ | ⟨h1, rfl⟩ | ⟨h1, rfl⟩ | ⟨h1, rfl⟩ | ⟨h1, rfl⟩ | ⟨h1, rfl⟩ | ⟨h1, rfl⟩ | ⟨h1, rfl⟩ | ⟨h1, rfl⟩ | ⟨h1, rfl⟩ | ⟨h1, rfl⟩ | ⟨h1, rfl⟩ | ⟨h1, rfl⟩ | ⟨h1, rfl⟩ | ⟨h1, rfl⟩ | ⟨h1, rfl⟩ | ⟨h1, rfl⟩ | ⟨h1, rfl⟩ | ⟨h1, rfl⟩ | ⟨h1, rfl⟩ | ⟨h1, rfl⟩
  · exact Or.inl ⟨op_is h1, nat_of (hr 0 (by decide)) (by decide), hr 1 (by decide)⟩
  · exact Or.inr (Or.inl ⟨op_is h1, nat_of (hr 0 (by decide)) (by decide), nat_of (hr 1 (by decide)) (by decide)⟩)
  · exact Or.inr (Or.inr (Or.inl ⟨op_is h1, nat_of (hr 0 (by decide)) (by decide), nat_of (hr 1 (by decide)) (by decide), nat_of (hr 2 (by decide)) (by decide)⟩))
  · exact Or.inr (Or.inr (Or.inr (Or.inl ⟨op_is h1, nat_of (hr 0 (by decide)) (by decide), nat_of (hr 1 (by decide)) (by decide), nat_of (hr 2 (by decide)) (by decide)⟩)))
  · exact Or.inr (Or.inr (Or.inr (Or.inr (Or.inl ⟨op_is h1, nat_of (hr 0 (by decide)) (by decide), nat_of (hr 1 (by decide)) (by decide), nat_of (hr 2 (by decide)) (by decide)⟩))))
  · exact Or.inr (Or.inr (Or.inr (Or.inr (Or.inr (Or.inl ⟨op_is h1, nat_of (hr 0 (by decide)) (by decide), nat_of (hr 1 (by decide)) (by decide), nat_of (hr 2 (by decide)) (by decide)⟩)))))
  · exact Or.inr (Or.inr (Or.inr (Or.inr (Or.inr (Or.inr (Or.inl ⟨op_is h1, nat_of (hr 0 (by decide)) (by decide), nat_of (hr 1 (by decide)) (by decide), nat_of (hr 2 (by decide)) (by decide)⟩))))))
  · exact Or.inr (Or.inr (Or.inr (Or.inr (Or.inr (Or.inr (Or.inr (Or.inl ⟨op_is h1, nat_of (hr 0 (by decide)) (by decide), nat_of (hr 1 (by decide)) (by decide), nat_of (hr 2 (by decide)) (by decide)⟩)))))))
  · exact Or.inr (Or.inr (Or.inr (Or.inr (Or.inr (Or.inr (Or.inr (Or.inr (Or.inl ⟨op_is h1, nat_of (hr 0 (by decide)) (by decide), nat_of (hr 1 (by decide)) (by decide), nat_of (hr 2 (by decide)) (by decide)⟩))))))))
  · exact Or.inr (Or.inr (Or.inr (Or.inr (Or.inr (Or.inr (Or.inr (Or.inr (Or.inr (Or.inl ⟨op_is h1, nat_of (hr 0 (by decide)) (by decide), nat_of (hr 1 (by decide)) (by decide), nat_of (hr 2 (by decide)) (by decide)⟩)))))))))
  · exact Or.inr (Or.inr (Or.inr (Or.inr (Or.inr (Or.inr (Or.inr (Or.inr (Or.inr (Or.inr (Or.inl ⟨op_is h1, nat_of (hr 0 (by decide)) (by decide)⟩))))))))))
  · exact Or.inr (Or.inr (Or.inr (Or.inr (Or.inr (Or.inr (Or.inr (Or.inr (Or.inr (Or.inr (Or.inr (Or.inl ⟨op_is h1, nat_of (hr 0 (by decide)) (by decide)⟩)))))))))))
  · exact Or.inr (Or.inr (Or.inr (Or.inr (Or.inr (Or.inr (Or.inr (Or.inr (Or.inr (Or.inr (Or.inr (Or.inr (Or.inl ⟨op_is h1, nat_of (hr 0 (by decide)) (by decide)⟩))))))))))))
  · exact Or.inr (Or.inr (Or.inr (Or.inr (Or.inr (Or.inr (Or.inr (Or.inr (Or.inr (Or.inr (Or.inr (Or.inr (Or.inr (Or.inl ⟨op_is h1, nat_of (hr 0 (by decide)) (by decide)⟩)))))))))))))
  · exact Or.inr (Or.inr (Or.inr (Or.inr (Or.inr (Or.inr (Or.inr (Or.inr (Or.inr (Or.inr (Or.inr (Or.inr (Or.inr (Or.inr (Or.inl (op_is h1)))))))))))))))
  · exact Or.inr (Or.inr (Or.inr (Or.inr (Or.inr (Or.inr (Or.inr (Or.inr (Or.inr (Or.inr (Or.inr (Or.inr (Or.inr (Or.inr (Or.inr (Or.inl (op_is h1))))))))))))))))
  · exact Or.inr (Or.inr (Or.inr (Or.inr (Or.inr (Or.inr (Or.inr (Or.inr (Or.inr (Or.inr (Or.inr (Or.inr (Or.inr (Or.inr (Or.inr (Or.inr (Or.inl (op_is h1)))))))))))))))))
  · exact Or.inr (Or.inr (Or.inr (Or.inr (Or.inr (Or.inr (Or.inr (Or.inr (Or.inr (Or.inr (Or.inr (Or.inr (Or.inr (Or.inr (Or.inr (Or.inr (Or.inr (Or.inl ⟨op_is h1, nat_of (hr 0 (by decide)) (by decide), lab_of h (hl (by decide))⟩)))))))))))))))))
  · exact Or.inr (Or.inr (Or.inr (Or.inr (Or.inr (Or.inr (Or.inr (Or.inr (Or.inr (Or.inr (Or.inr (Or.inr (Or.inr (Or.inr (Or.inr (Or.inr (Or.inr (Or.inr (Or.inl ⟨op_is h1, nat_of (hr 0 (by decide)) (by decide), nat_of (hr 1 (by decide)) (by decide), lab_of h (hl (by decide))⟩))))))))))))))))))
  · exact Or.inr (Or.inr (Or.inr (Or.inr (Or.inr (Or.inr (Or.inr (Or.inr (Or.inr (Or.inr (Or.inr (Or.inr (Or.inr (Or.inr (Or.inr (Or.inr (Or.inr (Or.inr (Or.inr (Or.inl ⟨op_is h1, lab_of h (hl (by decide))⟩)))))))))))))))))))
  · exact Or.inr (Or.inr (Or.inr (Or.inr (Or.inr (Or.inr (Or.inr (Or.inr (Or.inr (Or.inr (Or.inr (Or.inr (Or.inr (Or.inr (Or.inr (Or.inr (Or.inr (Or.inr (Or.inr (Or.inr (⟨op_is h1, lab_of h (hl (by decide))⟩))))))))))))))))))))
end Go.Proofs.YtmeohblomighpaaDoorR

/- ProgB -/
namespace Go.Proofs.YtmeohblomighpaaDoorR
open Go.RowKit Go.Extern.Stop Go.Stop Go.Extern

def one (l : Int) : Int := if 0 < l then 1 else 0


end Go.Proofs.YtmeohblomighpaaDoorR
