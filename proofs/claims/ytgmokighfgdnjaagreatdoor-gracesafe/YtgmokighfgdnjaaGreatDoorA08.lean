import Derived.Test.YtgmokighfgdnjaaGreatDoorA07
import Derived.Test.YtgmokighfgdnjaaGreatDoorProg
import Derived.WalkKit
import Derived.Test.YtgmokighfgdnjaaGreatDoorA01
import Derived.Deep.QuietTactic
import Derived.Lib.ConvBytes
import Derived.Lib.AtoiErrMem
import Derived.Maps.Views
import Derived.Maps.OwnSet

/- MkK -/
namespace Go.Proofs.YtgmokighfgdnjaaGreatDoor
open Go.RowKit

theorem insErr_zero {x : Ins} (h : insErr x = 0) : ∃ S, shape x.op.toList = some S ∧ insBad x ⟨S.toArray⟩ = 0 := by
  unfold insErr at h
  cases hS : shape x.op.toList with
  | none => rw [hS] at h; cases h
  | some S => rw [hS] at h; exact ⟨S, rfl, h⟩
theorem insBad_parts {x : Ins} {S : ByteArray} (h : insBad x S = 0) : (∀ k, k < cnt S S.size → 0 ≤ x.n k ∧ x.n k < mostOf (byteAt S k)) ∧ (lab S S.size = true → isName x.to) := by
  unfold insBad at h
  by_cases h1 : lab S S.size = false ∧ ¬ x.to.toList = []
  · rw [if_pos h1] at h; cases h
  · rw [if_neg h1] at h
    by_cases h2 : ∃ k, cnt S S.size ≤ k ∧ k < 3 ∧ x.n k ≠ 0
    · rw [if_pos h2] at h; cases h
    · rw [if_neg h2] at h
      by_cases h3 : ∃ k, k < cnt S S.size ∧ ¬ (0 ≤ x.n k ∧ x.n k < mostOf (byteAt S k))
      · rw [if_pos h3] at h; cases h
      · rw [if_neg h3] at h
        by_cases h4 : lab S S.size = true ∧ ¬ isName x.to
        · rw [if_pos h4] at h; cases h
        · exact ⟨fun k hk => Decidable.byContradiction fun c => h3 ⟨k, hk, c⟩, fun hl => Classical.byContradiction fun c => h4 ⟨hl, c⟩⟩
theorem insBad_range {x : Ins} {S : ByteArray} (h : insBad x S = 0) : ∀ k, k < cnt S S.size → 0 ≤ x.n k ∧ x.n k < mostOf (byteAt S k) := (insBad_parts h).1
theorem insBad_lab {x : Ins} {S : ByteArray} (h : insBad x S = 0) : lab S S.size = true → isName x.to := (insBad_parts h).2
theorem op_is {s : ByteArray} {l : List UInt8} (h : s.toList = l) : s = ⟨l.toArray⟩ := by
  rw [toList_bl] at h; rw [← h, mk_bl]
theorem nat_of {v : Int} {m : Int} {n : Nat} (h : 0 ≤ v ∧ v < m) (hm : m = n) : ∃ i : Nat, i < n ∧ v = i := ⟨v.toNat, by omega, by omega⟩
theorem lab_of {L : List Ins} {x : Ins} (h : InsOk L x) (hn : isName x.to) : ∃ i : Nat, labelAt L x.to = i := by
  have := h.to (by
    rw [beq_eq_false_iff_ne, toList_bl]
    intro e
    have := hn.1
    rw [size_bl, e] at this
    cases this)
  exact ⟨(labelAt L x.to).toNat, by omega⟩

set_option maxHeartbeats 1000000 in
theorem kinds {L : List Ins} {x : Ins} (h : InsOk L x) :
    (x.op = ⟨#[99, 111, 110, 115, 116]⟩ ∧ (∃ i : Nat, i < 8 ∧ x.a = i) ∧ Wd x.b) ∨
    (x.op = ⟨#[109, 111, 118, 101]⟩ ∧ (∃ i : Nat, i < 8 ∧ x.a = i) ∧ (∃ i : Nat, i < 8 ∧ x.b = i)) ∨
    (x.op = ⟨#[97, 100, 100]⟩ ∧ (∃ i : Nat, i < 8 ∧ x.a = i) ∧ (∃ i : Nat, i < 8 ∧ x.b = i) ∧ (∃ i : Nat, i < 8 ∧ x.c = i)) ∨
    (x.op = ⟨#[115, 117, 98]⟩ ∧ (∃ i : Nat, i < 8 ∧ x.a = i) ∧ (∃ i : Nat, i < 8 ∧ x.b = i) ∧ (∃ i : Nat, i < 8 ∧ x.c = i)) ∨
    (x.op = ⟨#[97, 110, 100]⟩ ∧ (∃ i : Nat, i < 8 ∧ x.a = i) ∧ (∃ i : Nat, i < 8 ∧ x.b = i) ∧ (∃ i : Nat, i < 8 ∧ x.c = i)) ∨
    (x.op = ⟨#[120, 111, 114]⟩ ∧ (∃ i : Nat, i < 8 ∧ x.a = i) ∧ (∃ i : Nat, i < 8 ∧ x.b = i) ∧ (∃ i : Nat, i < 8 ∧ x.c = i)) ∨
    (x.op = ⟨#[108, 111, 97, 100]⟩ ∧ (∃ i : Nat, i < 8 ∧ x.a = i) ∧ (∃ i : Nat, i < 8 ∧ x.b = i) ∧ (∃ i : Nat, i < 4 ∧ x.c = i)) ∨
    (x.op = ⟨#[115, 116, 111, 114, 101]⟩ ∧ (∃ i : Nat, i < 8 ∧ x.a = i) ∧ (∃ i : Nat, i < 8 ∧ x.b = i) ∧ (∃ i : Nat, i < 4 ∧ x.c = i)) ∨
    (x.op = ⟨#[115, 119, 97, 112]⟩ ∧ (∃ i : Nat, i < 8 ∧ x.a = i) ∧ (∃ i : Nat, i < 8 ∧ x.b = i) ∧ (∃ i : Nat, i < 4 ∧ x.c = i)) ∨
    (x.op = ⟨#[99, 97, 115]⟩ ∧ (∃ i : Nat, i < 8 ∧ x.a = i) ∧ (∃ i : Nat, i < 7 ∧ x.b = i) ∧ (∃ i : Nat, i < 4 ∧ x.c = i)) ∨
    (x.op = ⟨#[97, 108, 108, 111, 99]⟩ ∧ (∃ i : Nat, i < 8 ∧ x.a = i)) ∨
    (x.op = ⟨#[102, 114, 101, 101]⟩ ∧ (∃ i : Nat, i < 8 ∧ x.a = i)) ∨
    (x.op = ⟨#[109, 97, 114, 107]⟩ ∧ (∃ i : Nat, i < 8 ∧ x.a = i)) ∨
    (x.op = ⟨#[110, 101, 101, 100]⟩ ∧ (∃ i : Nat, i < 8 ∧ x.a = i)) ∨
    (x.op = ⟨#[102, 101, 110, 99, 101]⟩) ∨
    (x.op = ⟨#[102, 111, 114, 99, 101]⟩) ∨
    (x.op = ⟨#[115, 116, 111, 112]⟩) ∨
    (x.op = ⟨#[122, 101, 114, 111]⟩ ∧ (∃ i : Nat, i < 8 ∧ x.a = i) ∧ (∃ i : Nat, labelAt L x.to = i)) ∨
    (x.op = ⟨#[115, 97, 109, 101]⟩ ∧ (∃ i : Nat, i < 8 ∧ x.a = i) ∧ (∃ i : Nat, i < 8 ∧ x.b = i) ∧ (∃ i : Nat, labelAt L x.to = i)) ∨
    (x.op = ⟨#[103, 111, 116, 111]⟩ ∧ (∃ i : Nat, labelAt L x.to = i)) ∨
    (x.op = ⟨#[108, 97, 98, 101, 108]⟩ ∧ (∃ i : Nat, labelAt L x.to = i)) := by
  obtain ⟨S, hS, hB⟩ := insErr_zero h.err
  have hm := shape_mem hS
  have hr := insBad_range hB
  have hl := insBad_lab hB
  simp only [table, List.mem_cons, Prod.mk.injEq, List.not_mem_nil, or_false] at hm
  rcases hm with ⟨h1, rfl⟩ | ⟨h1, rfl⟩ | ⟨h1, rfl⟩ | ⟨h1, rfl⟩ | ⟨h1, rfl⟩ | ⟨h1, rfl⟩ | ⟨h1, rfl⟩ | ⟨h1, rfl⟩ | ⟨h1, rfl⟩ | ⟨h1, rfl⟩ | ⟨h1, rfl⟩ | ⟨h1, rfl⟩ | ⟨h1, rfl⟩ | ⟨h1, rfl⟩ | ⟨h1, rfl⟩ | ⟨h1, rfl⟩ | ⟨h1, rfl⟩ | ⟨h1, rfl⟩ | ⟨h1, rfl⟩ | ⟨h1, rfl⟩ | ⟨h1, rfl⟩
  · exact Or.inl ⟨op_is h1, nat_of (hr 0 (by decide)) (by decide), hr 1 (by decide)⟩
  · exact Or.inr (Or.inl ⟨op_is h1, nat_of (hr 0 (by decide)) (by decide), nat_of (hr 1 (by decide)) (by decide)⟩)
  · exact Or.inr (Or.inr (Or.inl ⟨op_is h1, nat_of (hr 0 (by decide)) (by decide), nat_of (hr 1 (by decide)) (by decide), nat_of (hr 2 (by decide)) (by decide)⟩))
  · exact Or.inr (Or.inr (Or.inr (Or.inl ⟨op_is h1, nat_of (hr 0 (by decide)) (by decide), nat_of (hr 1 (by decide)) (by decide), nat_of (hr 2 (by decide)) (by decide)⟩)))
  · exact Or.inr (Or.inr (Or.inr (Or.inr (Or.inl ⟨op_is h1, nat_of (hr 0 (by decide)) (by decide), nat_of (hr 1 (by decide)) (by decide), nat_of (hr 2 (by decide)) (by decide)⟩))))
  · exact Or.inr (Or.inr (Or.inr (Or.inr (Or.inr (Or.inl ⟨op_is h1, nat_of (hr 0 (by decide)) (by decide), nat_of (hr 1 (by decide)) (by decide), nat_of (hr 2 (by decide)) (by decide)⟩)))))
  · exact Or.inr (Or.inr (Or.inr (Or.inr (Or.inr (Or.inr (Or.inl ⟨op_is h1, nat_of (hr 0 (by decide)) (by decide), nat_of (hr 1 (by decide)) (by decide), nat_of (hr 2 (by decide)) (by decide)⟩))))))
  · exact Or.inr (Or.inr (Or.inr (Or.inr (Or.inr (Or.inr (Or.inr (Or.inl ⟨op_is h1, nat_of (hr 0 (by decide)) (by decide), nat_of (hr 1 (by decide)) (by decide), nat_of (hr 2 (by decide)) (by decide)⟩)))))))
  · exact Or.inr (Or.inr (Or.inr (Or.inr (Or.inr (Or.inr (Or.inr (Or.inr (Or.inl ⟨op_is h1, nat_of (hr 0 (by decide)) (by decide), nat_of (hr 1 (by decide)) (by decide), nat_of (hr 2 (by decide)) (by decide)⟩))))))))
  · exact Or.inr (Or.inr (Or.inr (Or.inr (Or.inr (Or.inr (Or.inr (Or.inr (Or.inr (Or.inl ⟨op_is h1, nat_of (hr 0 (by decide)) (by decide), nat_of (hr 1 (by decide)) (by decide), nat_of (hr 2 (by decide)) (by decide)⟩)))))))))
  · exact Or.inr (Or.inr (Or.inr (Or.inr (Or.inr (Or.inr (Or.inr (Or.inr (Or.inr (Or.inr (Or.inl ⟨op_is h1, nat_of (hr 0 (by decide)) (by decide)⟩))))))))))
  · exact Or.inr (Or.inr (Or.inr (Or.inr (Or.inr (Or.inr (Or.inr (Or.inr (Or.inr (Or.inr (Or.inr (Or.inl ⟨op_is h1, nat_of (hr 0 (by decide)) (by decide)⟩)))))))))))
  · exact Or.inr (Or.inr (Or.inr (Or.inr (Or.inr (Or.inr (Or.inr (Or.inr (Or.inr (Or.inr (Or.inr (Or.inr (Or.inl ⟨op_is h1, nat_of (hr 0 (by decide)) (by decide)⟩))))))))))))
  · exact Or.inr (Or.inr (Or.inr (Or.inr (Or.inr (Or.inr (Or.inr (Or.inr (Or.inr (Or.inr (Or.inr (Or.inr (Or.inr (Or.inl ⟨op_is h1, nat_of (hr 0 (by decide)) (by decide)⟩)))))))))))))
  · exact Or.inr (Or.inr (Or.inr (Or.inr (Or.inr (Or.inr (Or.inr (Or.inr (Or.inr (Or.inr (Or.inr (Or.inr (Or.inr (Or.inr (Or.inl (op_is h1)))))))))))))))
  · exact Or.inr (Or.inr (Or.inr (Or.inr (Or.inr (Or.inr (Or.inr (Or.inr (Or.inr (Or.inr (Or.inr (Or.inr (Or.inr (Or.inr (Or.inr (Or.inl (op_is h1))))))))))))))))
  · exact Or.inr (Or.inr (Or.inr (Or.inr (Or.inr (Or.inr (Or.inr (Or.inr (Or.inr (Or.inr (Or.inr (Or.inr (Or.inr (Or.inr (Or.inr (Or.inr (Or.inl (op_is h1)))))))))))))))))
  · exact Or.inr (Or.inr (Or.inr (Or.inr (Or.inr (Or.inr (Or.inr (Or.inr (Or.inr (Or.inr (Or.inr (Or.inr (Or.inr (Or.inr (Or.inr (Or.inr (Or.inr (Or.inl ⟨op_is h1, nat_of (hr 0 (by decide)) (by decide), lab_of h (hl (by decide))⟩)))))))))))))))))
  · exact Or.inr (Or.inr (Or.inr (Or.inr (Or.inr (Or.inr (Or.inr (Or.inr (Or.inr (Or.inr (Or.inr (Or.inr (Or.inr (Or.inr (Or.inr (Or.inr (Or.inr (Or.inr (Or.inl ⟨op_is h1, nat_of (hr 0 (by decide)) (by decide), nat_of (hr 1 (by decide)) (by decide), lab_of h (hl (by decide))⟩))))))))))))))))))
  · exact Or.inr (Or.inr (Or.inr (Or.inr (Or.inr (Or.inr (Or.inr (Or.inr (Or.inr (Or.inr (Or.inr (Or.inr (Or.inr (Or.inr (Or.inr (Or.inr (Or.inr (Or.inr (Or.inr (Or.inl ⟨op_is h1, lab_of h (hl (by decide))⟩)))))))))))))))))))
  · exact Or.inr (Or.inr (Or.inr (Or.inr (Or.inr (Or.inr (Or.inr (Or.inr (Or.inr (Or.inr (Or.inr (Or.inr (Or.inr (Or.inr (Or.inr (Or.inr (Or.inr (Or.inr (Or.inr (Or.inr (⟨op_is h1, lab_of h (hl (by decide))⟩))))))))))))))))))))
end Go.Proofs.YtgmokighfgdnjaaGreatDoor

/- ProgB -/
namespace Go.Proofs.YtgmokighfgdnjaaGreatDoor
open Go.RowKit Go.Extern.Stop Go.Stop Go.Extern

def one (l : Int) : Int := if 0 < l then 1 else 0


end Go.Proofs.YtgmokighfgdnjaaGreatDoor

/- ProgC -/
namespace Go.Proofs.YtgmokighfgdnjaaGreatDoor
open Go.RowKit Go.Extern.Stop Go.Stop Go.Extern

theorem isSmall_any (c : Nat) (w : World) :
    Calls Tryz.prog 111 #[.int .u8 c] w fun e w' => e = .returned (.bool (decide (97 ≤ c ∧ c ≤ 122))) ∧ w' = w := by
  have i1 : (97 : Int) ≤ c ↔ 97 ≤ c := by omega
  by_cases h1 : (97 : Int) ≤ c
  · by_cases h2 : (c : Int) ≤ 122
    · rw [decide_eq_true (show 97 ≤ c ∧ c ≤ 122 by omega)]
      go_enter Tryz.func111, Tryz.ntmps111
      go_wp2
      go_ret
      exact ⟨rfl, rfl⟩
    · rw [decide_eq_false (show ¬ (97 ≤ c ∧ c ≤ 122) by omega)]
      go_enter Tryz.func111, Tryz.ntmps111
      go_wp2
      go_ret
      exact ⟨rfl, rfl⟩
  · rw [decide_eq_false (show ¬ (97 ≤ c ∧ c ≤ 122) by omega)]
    go_enter Tryz.func111, Tryz.ntmps111
    go_wp2
    go_ret
    exact ⟨rfl, rfl⟩

open Classical in
set_option maxRecDepth 20000 in
theorem pisName_any (s : ByteArray) (w : World) :
    Calls Tryz.prog 81 #[.string s] w fun e w' => e = .returned (.bool (decide (isName s))) ∧ Below w.heap.size w w' := by
  by_cases h0 : s.size = 0
  · have HZ : decide (isName s) = false := decide_eq_false (fun h => by have := h.1; omega)
    have hb : (s.toList == []) = true := by rw [beq_iff_eq, toList_bl, ← List.length_eq_zero_iff, ← size_bl]; exact h0
    rw [HZ]
    go_enter Tryz.func81, Tryz.ntmps81
    go_wp2_with fail
    go_ret
    exact ⟨rfl, Below.refl _ _⟩
  have hb : (s.toList == []) = false := by rw [beq_eq_false_iff_ne, toList_bl]; intro e; apply h0; rw [size_bl, e]; rfl
  have hs0 : 0 < s.size := by omega
  by_cases h12 : 12 < s.size
  · have HZ : decide (isName s) = false := decide_eq_false (fun h => by have := h.2.1; omega)
    have i12 : 12 < (s.size : Int) := by omega
    rw [HZ]
    go_enter Tryz.func81, Tryz.ntmps81
    go_wp2_with fail
    go_ret
    exact ⟨rfl, Below.refl _ _⟩
  have i12 : ¬ 12 < (s.size : Int) := by omega
  have HS : Hid (∀ w', Calls Tryz.prog 111 #[.int .u8 (s[0]'hs0).toNat] w' fun e w'' => e = .returned (.bool (decide (97 ≤ (s[0]'hs0).toNat ∧ (s[0]'hs0).toNat ≤ 122))) ∧ w'' = w') := fun w' => isSmall_any _ w'
  by_cases hc : 97 ≤ (s[0]'hs0).toNat ∧ (s[0]'hs0).toNat ≤ 122
  rotate_left
  · have HZ : decide (isName s) = false := decide_eq_false (fun h => by
      have := h.2.2 0 hs0
      unfold nameOk at this
      have := of_decide_eq_true this
      omega)
    rw [HZ]
    rw [decide_eq_false hc] at HS
    clear hc
    go_enter Tryz.func81, Tryz.ntmps81
    go_wp2_with fail
    refine (HS.out _).mono ?_
    rintro e w1 ⟨rfl, rfl⟩
    go_wp2_with fail
    go_ret
    exact ⟨rfl, Below.refl _ _⟩
  have hc' := hide hc
  rw [decide_eq_true hc] at HS
  clear hc
  have hcv : ∀ w', (convert 9 158 (.string s)).run Tryz.prog w' = .ok (.slice (some ⟨w'.heap.size, 0, none⟩) s.size (grownCap w' s.size 0 5)) (Lib.bytesWorld w' 5 s) := fun w' => Lib.run_convert_string_bytes w' 9 158 5 s Tryz.underlying9 Tryz.underlying158 Tryz.underlying5
  have HD : Hid (∀ f : Bool, (f = true ↔ ∀ j, j < s.size → nameOk j (byteAt s j) = true) → decide (isName s) = f) := fun f hf => by
    cases f with
    | true => exact decide_eq_true ⟨by omega, by omega, fun j h => by have := hf.1 rfl j h; rwa [byteAt_lt h] at this⟩
    | false => exact decide_eq_false (fun h => by have := hf.2 (fun j hj => by rw [byteAt_lt hj]; exact h.2.2 j hj); cases this)
  generalize decide (isName s) = F at *
  go_enter Tryz.func81, Tryz.ntmps81
  go_wp2_with fail
  refine (HS.out _).mono ?_
  rintro e w1 ⟨rfl, rfl⟩
  obtain ⟨W, hW⟩ : ∃ W, W = Lib.bytesWorld w1 5 s := ⟨_, rfl⟩
  have hcell : Hid (∀ j, j < s.size → W.cell? ⟨w1.heap.size, j, none⟩ = some (.int .u8 (byteAt s j))) := fun j hj => by
    rw [hW, Lib.bytesWorld_cell _ _ _ _ hj]
    obtain ⟨h', e⟩ := byteAt_bl s j hj
    rw [e, List.getD_eq_getElem?_getD, List.getElem?_eq_getElem h']; rfl
  have HB : Hid (Below w1.heap.size w1 W) := by rw [hW]; exact Lib.bytesWorld_below _ _ _
  go_wp2_with fail
  rw [← hW]
  clear hW hcv HS
  go_loopw [4, 21] (fun _ i wr => wr = W ∧ ∃ j : Nat, j ≤ s.size ∧ i = .int .i64 j ∧ Hid (∀ k, k < j → nameOk k (byteAt s k) = true)) (fun _ i _ => s.size - (intOf i).toNat)
  case atStart => exact ⟨rfl, 0, Nat.zero_le _, rfl, fun k h => absurd h (Nat.not_lt_zero _)⟩
  case round =>
    obtain ⟨rfl, j, hj, rfl, HJ⟩ := hrel
    by_cases hlt : j < s.size
    · have hcj := hcell.out j hlt
      have ji : (j : Int) < s.size := by omega
      have HY : Hid (nameOk j (byteAt s j) = true → ∀ k, k < j + 1 → nameOk k (byteAt s k) = true) := fun hy k hk => by
        by_cases e : k = j
        · subst e; exact hy
        · exact HJ.out k (by omega)
      have HX : Hid (nameOk j (byteAt s j) = false → F = false) := fun hx => HD.out false ⟨(fun h => Bool.noConfusion h), (fun h => by rw [h j hlt] at hx; cases hx)⟩
      have H0 : Hid (j = 0 → 97 ≤ byteAt s j ∧ byteAt s j ≤ 122) := fun h => by subst h; rw [byteAt_lt hs0]; exact hc'.out
      generalize byteAt s j = c at *
      have HC : Hid (∀ w', Calls Tryz.prog 111 #[.int .u8 c] w' fun e w'' => e = .returned (.bool (decide (97 ≤ c ∧ c ≤ 122))) ∧ w'' = w') := fun w' => isSmall_any c w'
      have hor : (97 ≤ c ∧ c ≤ 122) ∨ (¬ (97 ≤ c ∧ c ≤ 122) ∧ 48 ≤ c ∧ c ≤ 57) ∨ (¬ (97 ≤ c ∧ c ≤ 122) ∧ c < 48 ∧ c = 46) ∨ (¬ (97 ≤ c ∧ c ≤ 122) ∧ c < 48 ∧ c ≠ 46) ∨ (¬ (97 ≤ c ∧ c ≤ 122) ∧ ¬ c < 48 ∧ 57 < c) := by omega
      rcases hor with q1 | ⟨q1, q2, q3⟩ | ⟨q1, q2, q3⟩ | ⟨q1, q2, q3⟩ | ⟨q1, q2, q3⟩
      · have HZ := hide (HY.out (decide_eq_true (by omega)))
        rw [decide_eq_true q1] at HC
        clear HX HY H0 q1 HJ
        go_wp2_with fail
        refine (HC.out _).mono ?_
        rintro e w1 ⟨rfl, rfl⟩
        go_wp2_with fail
        go_roundw
        case rel => exact ⟨trivial, j + 1, by omega, by go_num, HZ⟩
        case measure => simp [intOf]; omega
      · have HZ := hide (HY.out (decide_eq_true (by have := H0.out; omega)))
        rw [decide_eq_false q1] at HC
        have z1 : ¬ (c : Int) < 48 := by omega
        have z2 : ¬ 57 < (c : Int) := by omega
        clear HX HY H0 q1 q2 q3 HJ
        go_wp2_with fail
        refine (HC.out _).mono ?_
        rintro e w1 ⟨rfl, rfl⟩
        go_wp2_with fail
        go_roundw
        case rel => exact ⟨trivial, j + 1, by omega, by go_num, HZ⟩
        case measure => simp [intOf]; omega
      · have HZ := hide (HY.out (decide_eq_true (by have := H0.out; omega)))
        rw [decide_eq_false q1] at HC
        have z1 : (c : Int) < 48 := by omega
        have z2 : ((c : Int) != 46) = false := by rw [bne_eq_false_iff_eq]; omega
        clear HX HY H0 q1 q2 q3 HJ
        go_wp2_with fail
        refine (HC.out _).mono ?_
        rintro e w1 ⟨rfl, rfl⟩
        go_wp2_with fail
        go_roundw
        case rel => exact ⟨trivial, j + 1, by omega, by go_num, HZ⟩
        case measure => simp [intOf]; omega
      · have HZ := hide (HX.out (decide_eq_false (by omega)))
        rw [decide_eq_false q1] at HC
        have z1 : (c : Int) < 48 := by omega
        have z2 : ((c : Int) != 46) = true := by rw [bne_iff_ne]; omega
        clear HX HY H0 q1 q2 q3 HJ
        go_wp2_with fail
        refine (HC.out _).mono ?_
        rintro e w1 ⟨rfl, rfl⟩
        go_wp2_with fail
        go_ret
        exact ⟨by rw [HZ.out]; rfl, HB.out⟩
      · have HZ := hide (HX.out (decide_eq_false (by omega)))
        rw [decide_eq_false q1] at HC
        have z1 : ¬ (c : Int) < 48 := by omega
        have z2 : 57 < (c : Int) := by omega
        have z3 : ((c : Int) != 46) = true := by rw [bne_iff_ne]; omega
        clear HX HY H0 q1 q2 q3 HJ
        go_wp2_with fail
        refine (HC.out _).mono ?_
        rintro e w1 ⟨rfl, rfl⟩
        go_wp2_with fail
        go_ret
        exact ⟨by rw [HZ.out]; rfl, HB.out⟩
    · have HZ : Hid (F = true) := HD.out true ⟨fun _ k hk => HJ.out k (by omega), fun _ => rfl⟩
      obtain rfl : j = s.size := by omega
      clear HJ HD
      go_wp2_with fail
      go_ret
      exact ⟨by rw [HZ.out]; rfl, HB.out⟩
end Go.Proofs.YtgmokighfgdnjaaGreatDoor

/- PureF -/
namespace Go.Proofs.YtgmokighfgdnjaaGreatDoor
open Go.RowKit Go.Maps

def setD (l : List Ins) : Nat → DataW Unit
  | 0 => .map []
  | j + 1 => match l[j]? with
    | some x => if ((x.op.toList == [108, 97, 98, 101, 108]) && !Maps.has (setD l j) (.string (bl x.to))) = true then (setD l j).put (.string (bl x.to)) (.lit (.int .i64 j)) else setD l j
    | none => setD l j

end Go.Proofs.YtgmokighfgdnjaaGreatDoor
