import Derived.Test.YtgmokighfgdnjaaGreatDoorB32
import Derived.Test.YtgmokighfgdnjaaGreatDoorB44
import Derived.Test.YtgmokighfgdnjaaGreatDoorB45
import Derived.Test.YtgmokighfgdnjaaGreatDoorB39
import Derived.Test.YtgmokighfgdnjaaGreatDoorB31
import Derived.Test.YtgmokighfgdnjaaGreatDoorB42

/- GcX -/
namespace Go.Proofs.YtgmokighfgdnjaaGreatDoor
open Go.RowKit

theorem codes4c : ∀ (rd : Fin 6), codeGood (Cs.code 4 true ⟨false, 2, rd.val, true⟩) = true := by decide +kernel
end Go.Proofs.YtgmokighfgdnjaaGreatDoor

/- GcY -/
namespace Go.Proofs.YtgmokighfgdnjaaGreatDoor
open Go.RowKit

theorem codes4d : ∀ (rd : Fin 3), codeGood (Cs.code 4 true ⟨false, 3, rd.val, true⟩) = true := by decide +kernel
theorem codes4e : ∀ (rd : Fin 3), codeGood (Cs.code 4 true ⟨false, 3, rd.val + 3, true⟩) = true := by decide +kernel
end Go.Proofs.YtgmokighfgdnjaaGreatDoor

/- GcZ -/
namespace Go.Proofs.YtgmokighfgdnjaaGreatDoor
open Go.RowKit

theorem Cs.code_w (f : Nat) (wt : Bool) (tm rd rd' : Nat) (ns ns' : Bool) : Cs.code f wt ⟨true, tm, rd, ns⟩ = Cs.code f wt ⟨true, tm, rd', ns'⟩ := rfl
theorem Cs.code_r (f : Nat) (wt wt' : Bool) (tm rd : Nat) (ns : Bool) : Cs.code f wt ⟨false, tm, rd, ns⟩ = Cs.code f wt' ⟨false, tm, rd, ns⟩ := rfl
theorem codes4 (wt w : Bool) (tm : Fin 4) (rd : Fin 6) (ns : Bool) : codeGood (Cs.code 4 wt ⟨w, tm.val, rd.val, ns⟩) = true := by
  cases w with
  | true => rw [Cs.code_w 4 wt tm.val rd.val 0 ns false]; exact codes4w wt tm
  | false =>
    rw [Cs.code_r 4 wt true]
    cases ns with
    | false => exact codes4a tm rd
    | true =>
      obtain ⟨tm, h⟩ := tm
      have : tm = 0 ∨ tm = 1 ∨ tm = 2 ∨ tm = 3 := by omega
      rcases this with rfl | rfl | rfl | rfl
      · exact codes4b 0 rd
      · exact codes4b 1 rd
      · exact codes4c rd
      · obtain ⟨rd, h⟩ := rd
        by_cases h3 : rd < 3
        · exact codes4d ⟨rd, h3⟩
        · have := codes4e ⟨rd - 3, by omega⟩
          rwa [show (⟨rd - 3, by omega⟩ : Fin 3).val + 3 = rd by show rd - 3 + 3 = rd; omega] at this
theorem Cs.good {f : Nat} (hf : 1 ≤ f ∧ f ≤ 4) (wt : Bool) {c : Cs} (h : c.ok) : codeFault (c.code f wt) = (0, -1) := by
  obtain ⟨w, tm, rd, ns⟩ := c
  have h1 : tm ≤ 3 := h.1
  have h2 : rd ≤ 5 := h.2
  have : f = 1 ∨ f = 2 ∨ f = 3 ∨ f = 4 := by omega
  rcases this with rfl | rfl | rfl | rfl
  · exact codeGood_is (codes1 wt w ⟨tm, by omega⟩ ⟨rd, by omega⟩ ns)
  · exact codeGood_is (codes2 wt w ⟨tm, by omega⟩ ⟨rd, by omega⟩ ns)
  · exact codeGood_is (codes3 wt w ⟨tm, by omega⟩ ⟨rd, by omega⟩ ns)
  · exact codeGood_is (codes4 wt w ⟨tm, by omega⟩ ⟨rd, by omega⟩ ns)
theorem gIns_short (a : Nat) (i : GI) : (i.ins (pq a)).to.size ≤ maxLen := by
  cases i <;> (show _ ≤ _; simp [GI.ins, lb, no, pq, ByteArray.size, maxLen])
theorem cd_short (f : Nat) : ∀ (l : List (Tg × Nat)), ∀ x ∈ cd f (nm l), x.to.size ≤ maxLen
  | [], x, hx => absurd (show x ∈ ([] : List Ins) from hx) List.not_mem_nil
  | (tg, a) :: l, x, hx => by
    have hx : x ∈ gCode (pq a) (tgCode f tg) ++ cd f (nm l) := hx
    rcases List.mem_append.1 hx with hx | hx
    · obtain ⟨i, -, rfl⟩ := List.mem_map.1 hx
      exact gIns_short a i
    · exact cd_short f l x hx
theorem casts_right {f : Nat} (hf : 1 ≤ f ∧ f ≤ 4) (wt : Bool) {cast : List Cs} (h : ∀ c ∈ cast, c.ok) (h1 : 1 ≤ cast.length) (h6 : cast.length ≤ 6) : Right (cast.map (Cs.code f wt)) := by
  refine right_of (fun t L ht => ?_) (by simpa using h1) (by simpa using h6) (fun t L ht i x hx => ?_)
  · rw [List.getElem?_map] at ht
    cases hc : cast[t]? with
    | none => rw [hc] at ht; cases ht
    | some c => rw [hc] at ht; cases ht; rw [Cs.good hf wt (h c (List.mem_of_getElem? hc))]
  · rw [List.getElem?_map] at ht
    cases hc : cast[t]? with
    | none => rw [hc] at ht; cases ht
    | some c => rw [hc] at ht; cases ht; exact cd_short f _ x (List.mem_of_getElem? hx)
theorem gc_start {f : Nat} (hf : 1 ≤ f ∧ f ≤ 4) {cast : List Cs} (h : ∀ c ∈ cast, c.ok) (h1 : 1 ≤ cast.length) (h6 : cast.length ≤ 6) : Good f cast.length (fun t => (cast.getD t ⟨true, 0, 0, false⟩).pr) (gcM f cast.length) := by
  refine gc_Good hf ⟨h1, h6⟩ fun t ht => Cs.disc ?_
  rw [List.getD_eq_getElem?_getD, List.getElem?_eq_getElem ht]
  exact h _ (List.getElem_mem ht)
theorem gc_codes (f : Nat) (cast : List Cs) (t : Nat) (ht : t < cast.length) : (cast.map (Cs.code f true))[t]? = some (cd f ((fun t => (cast.getD t ⟨true, 0, 0, false⟩).pr) t)) := by
  show _ = some (cd f (cast.getD t ⟨true, 0, 0, false⟩).pr)
  rw [List.getElem?_map, List.getD_eq_getElem?_getD, List.getElem?_eq_getElem ht]
  rfl
theorem gc_fits {f n : Nat} (h1 : 1 ≤ n) (h6 : n ≤ 6) (hf : 1 ≤ f ∧ f ≤ 4) : (gcSta f n).fits n = true := by
  have key : ∀ (f : Fin 5) (n : Fin 7), 1 ≤ f.val → 1 ≤ n.val → (gcSta f.val n.val).fits n.val = true := by decide +kernel
  exact key ⟨f, by omega⟩ ⟨n, by omega⟩ hf.1 h1
theorem gc_ok {f n : Nat} (h1 : 1 ≤ n) (h6 : n ≤ 6) (hf : 1 ≤ f ∧ f ≤ 4) : MkOk n 1 (gcM f n) := Sta.mach_ok (gc_fits h1 h6 hf) (by show 30 ≤ 64; decide) h6
theorem gc_safe {f : Nat} (hf : 1 ≤ f ∧ f ≤ 4) {cast : List Cs} (h : ∀ c ∈ cast, c.ok) (h1 : 1 ≤ cast.length) (h6 : cast.length ≤ 6) (l : List Int) (hl : l.length ≤ 50000000) : ((gcM f cast.length).runO (cast.map (Cs.code f true)) l).2.faults = 0 := by
  refine (Good.runO (casts_right hf true h h1 h6) (by rw [List.length_map]) (gc_codes f cast) l (gc_start hf h h1 h6) (K := 1) ?_ (by omega)).faults
  rw [List.length_map]
  exact gc_ok h1 h6 hf
end Go.Proofs.YtgmokighfgdnjaaGreatDoor
