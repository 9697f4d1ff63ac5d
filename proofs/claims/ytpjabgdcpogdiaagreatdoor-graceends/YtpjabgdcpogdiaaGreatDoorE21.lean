import Derived.Test.YtpjabgdcpogdiaaGreatDoorE20
import Derived.Test.YtpjabgdcpogdiaaGreatDoorE18
import Derived.Test.YtpjabgdcpogdiaaGreatDoorE19
import Derived.Test.YtpjabgdcpogdiaaGreatDoorE17

/- StL -/
namespace Go.Proofs.YtpjabgdcpogdiaaGreatDoor
open Go.RowKit

theorem wd_zero : Wd 0 := ⟨by decide, by decide⟩
theorem rowAt_wd {R : List (List Int)} {n : Nat} (h : rowsOk n R = true) (t r : Nat) : Wd (rowAt R t r) := by
  unfold rowAt
  cases ht : R[t]? with
  | none =>
    have e : R.getD t [] = [] := by rw [List.getD_eq_getElem?_getD, ht]; rfl
    rw [e]; exact wd_zero
  | some row =>
    have e : R.getD t [] = row := by rw [List.getD_eq_getElem?_getD, ht]; rfl
    rw [e]
    cases hr : row[r]? with
    | none => rw [List.getD_eq_getElem?_getD, hr]; exact wd_zero
    | some v => rw [List.getD_eq_getElem?_getD, hr]; exact (rowOk_at h ht).2 r v hr
theorem Sta.mach_ok {s : Sta} {n : Nat} (h : s.fits n = true) (h2 : s.cells ≤ 64) (hn : n ≤ 6) : MkOk n 1 (s.mach n) := by
  obtain ⟨-, f2, -, f4⟩ := Sta.fits_of h
  refine ⟨⟨fun t _ x hx => ?_, fun t _ => ?_, fun c k => ?_, fun c => ?_, ?_, hn⟩, rfl, fun t r => rowAt_wd f4 t r, Nat.zero_le _, Nat.zero_le _, fun _ => Nat.zero_le _⟩
  · exact absurd hx List.not_mem_nil
  · exact Nat.zero_le _
  · show Wd (if _ then rowAt s.init c k else 0)
    split
    · exact rowAt_wd f2 c k
    · exact wd_zero
  · show (if c < s.init.length then 1 else 0) ≤ 1
    split <;> decide
  · show s.cells.toNat ≤ 64
    omega
end Go.Proofs.YtpjabgdcpogdiaaGreatDoor

/- GcZ -/
namespace Go.Proofs.YtpjabgdcpogdiaaGreatDoor
open Go.RowKit

theorem Cs.code_w (f : Nat) (wt : Bool) (tm rd rd' : Nat) (ns ns' : Bool) : Cs.code f wt ⟨true, tm, rd, ns⟩ = Cs.code f wt ⟨true, tm, rd', ns'⟩ := rfl
theorem Cs.code_r (f : Nat) (wt wt' : Bool) (tm rd : Nat) (ns : Bool) : Cs.code f wt ⟨false, tm, rd, ns⟩ = Cs.code f wt' ⟨false, tm, rd, ns⟩ := rfl
theorem codes4 (wt w : Bool) (tm : Fin 4) (rd : Fin 6) (ns : Bool) : codeGood (Cs.code 4 wt ⟨w, tm.val, rd.val, ns⟩) = true := by
  cases w with
  | true => rw [Cs.code_w 4 wt tm.val rd.val 0 ns false]; exact codes4w wt tm
  | false =>
    rw [Cs.code_r 4 wt true]
    cases ns with
    | false => exact codes4a tm rd
    | true =>
      obtain ⟨tm, h⟩ := tm
      have : tm = 0 ∨ tm = 1 ∨ tm = 2 ∨ tm = 3 := by omega
      rcases this with rfl | rfl | rfl | rfl
      · exact codes4b 0 rd
      · exact codes4b 1 rd
      · exact codes4c rd
      · obtain ⟨rd, h⟩ := rd
        by_cases h3 : rd < 3
        · exact codes4d ⟨rd, h3⟩
        · have := codes4e ⟨rd - 3, by omega⟩
          rwa [show (⟨rd - 3, by omega⟩ : Fin 3).val + 3 = rd by show rd - 3 + 3 = rd; omega] at this
theorem Cs.good {f : Nat} (hf : 1 ≤ f ∧ f ≤ 4) (wt : Bool) {c : Cs} (h : c.ok) : codeFault (c.code f wt) = (0, -1) := by
  obtain ⟨w, tm, rd, ns⟩ := c
  have h1 : tm ≤ 3 := h.1
  have h2 : rd ≤ 5 := h.2
  have : f = 1 ∨ f = 2 ∨ f = 3 ∨ f = 4 := by omega
  rcases this with rfl | rfl | rfl | rfl
  · exact codeGood_is (codes1 wt w ⟨tm, by omega⟩ ⟨rd, by omega⟩ ns)
  · exact codeGood_is (codes2 wt w ⟨tm, by omega⟩ ⟨rd, by omega⟩ ns)
  · exact codeGood_is (codes3 wt w ⟨tm, by omega⟩ ⟨rd, by omega⟩ ns)
  · exact codeGood_is (codes4 wt w ⟨tm, by omega⟩ ⟨rd, by omega⟩ ns)
theorem gIns_short (a : Nat) (i : GI) : (i.ins (pq a)).to.size ≤ maxLen := by
  cases i <;> (show _ ≤ _; simp [GI.ins, lb, no, pq, ByteArray.size, maxLen])
theorem cd_short (f : Nat) : ∀ (l : List (Tg × Nat)), ∀ x ∈ cd f (nm l), x.to.size ≤ maxLen
  | [], x, hx => absurd (show x ∈ ([] : List Ins) from hx) List.not_mem_nil
  | (tg, a) :: l, x, hx => by
    have hx : x ∈ gCode (pq a) (tgCode f tg) ++ cd f (nm l) := hx
    rcases List.mem_append.1 hx with hx | hx
    · obtain ⟨i, -, rfl⟩ := List.mem_map.1 hx
      exact gIns_short a i
    · exact cd_short f l x hx
theorem casts_right {f : Nat} (hf : 1 ≤ f ∧ f ≤ 4) (wt : Bool) {cast : List Cs} (h : ∀ c ∈ cast, c.ok) (h1 : 1 ≤ cast.length) (h6 : cast.length ≤ 6) : Right (cast.map (Cs.code f wt)) := by
  refine right_of (fun t L ht => ?_) (by simpa using h1) (by simpa using h6) (fun t L ht i x hx => ?_)
  · rw [List.getElem?_map] at ht
    cases hc : cast[t]? with
    | none => rw [hc] at ht; cases ht
    | some c => rw [hc] at ht; cases ht; rw [Cs.good hf wt (h c (List.mem_of_getElem? hc))]
  · rw [List.getElem?_map] at ht
    cases hc : cast[t]? with
    | none => rw [hc] at ht; cases ht
    | some c => rw [hc] at ht; cases ht; exact cd_short f _ x (List.mem_of_getElem? hx)
theorem gc_codes (f : Nat) (cast : List Cs) (t : Nat) (ht : t < cast.length) : (cast.map (Cs.code f true))[t]? = some (cd f ((fun t => (cast.getD t ⟨true, 0, 0, false⟩).pr) t)) := by
  show _ = some (cd f (cast.getD t ⟨true, 0, 0, false⟩).pr)
  rw [List.getElem?_map, List.getD_eq_getElem?_getD, List.getElem?_eq_getElem ht]
  rfl
theorem gc_fits {f n : Nat} (h1 : 1 ≤ n) (h6 : n ≤ 6) (hf : 1 ≤ f ∧ f ≤ 4) : (gcSta f n).fits n = true := by
  have key : ∀ (f : Fin 5) (n : Fin 7), 1 ≤ f.val → 1 ≤ n.val → (gcSta f.val n.val).fits n.val = true := by decide +kernel
  exact key ⟨f, by omega⟩ ⟨n, by omega⟩ hf.1 h1
theorem gc_ok {f n : Nat} (h1 : 1 ≤ n) (h6 : n ≤ 6) (hf : 1 ≤ f ∧ f ≤ 4) : MkOk n 1 (gcM f n) := Sta.mach_ok (gc_fits h1 h6 hf) (by show 30 ≤ 64; decide) h6
end Go.Proofs.YtpjabgdcpogdiaaGreatDoor

/- GpN -/
namespace Go.Proofs.YtpjabgdcpogdiaaGreatDoor
open Go.RowKit

theorem cast_last : ∀ (w : Bool) (tm : Fin 4) (rd : Fin 6) (ns : Bool), (((⟨w, tm.val, rd.val, ns⟩ : Cs).segs true).map (·.1)).getLast? = some .gone := by decide +kernel
def cstT (f n : Nat) : List (Tg × Nat) → Nat
  | [] => 0
  | x :: l => cst f n x.1 + cstT f n l
theorem csts_nm (f n : Nat) : ∀ l : List (Tg × Nat), csts f n (nm l) = cstT f n l
  | [] => rfl
  | x :: l => by
    show cst f n x.1 + csts f n (nm l) = cst f n x.1 + cstT f n l
    rw [csts_nm f n l]
theorem cast_cost : ∀ (f : Fin 4) (n : Fin 3) (w : Bool) (tm : Fin 4) (rd : Fin 6) (ns : Bool), cstT (f.val + 1) (n.val + 1) ((⟨w, tm.val, rd.val, ns⟩ : Cs).segs true) ≤ 636 := by decide +kernel
theorem Cs.last {c : Cs} (h : c.ok) : (c.pr.map (·.1)).getLast? = some .gone := by
  obtain ⟨w, tm, rd, ns⟩ := c
  obtain ⟨h1, h2⟩ := h
  dsimp only at h1 h2
  have e : (Cs.pr ⟨w, tm, rd, ns⟩).map (·.1) = ((⟨w, tm, rd, ns⟩ : Cs).segs true).map (·.1) := by
    unfold Cs.pr nm
    rw [List.map_map]
    rfl
  rw [e]
  exact cast_last w ⟨tm, by omega⟩ ⟨rd, by omega⟩ ns
theorem Cs.cost {f n : Nat} (hf : 1 ≤ f ∧ f ≤ 4) (hn : 1 ≤ n ∧ n ≤ 3) {c : Cs} (h : c.ok) : csts f n c.pr ≤ 636 := by
  obtain ⟨w, tm, rd, ns⟩ := c
  obtain ⟨h1, h2⟩ := h
  dsimp only at h1 h2
  unfold Cs.pr
  rw [csts_nm]
  have := cast_cost ⟨f - 1, by omega⟩ ⟨n - 1, by omega⟩ w ⟨tm, by omega⟩ ⟨rd, by omega⟩ ns
  dsimp only at this
  rwa [show f - 1 + 1 = f by omega, show n - 1 + 1 = n by omega] at this
theorem sm_const {F : Nat → Nat} {c : Nat} : ∀ {n : Nat}, (∀ t, t < n → F t ≤ c) → sm n F ≤ n * c
  | 0, _ => Nat.zero_le _
  | n + 1, h => by
    have h1 := sm_const (n := n) fun t ht => h t (Nat.lt_succ_of_lt ht)
    have h2 := h n (Nat.lt_succ_self n)
    show sm n F + F n ≤ (n + 1) * c
    rw [Nat.succ_mul]
    omega
theorem cast_rest {f : Nat} (hf : 1 ≤ f ∧ f ≤ 4) {cast : List Cs} (h : ∀ c ∈ cast, c.ok) (h1 : 1 ≤ cast.length) (h3 : cast.length ≤ 3) {L : List (List Int)} (hL : ∀ l ∈ L, Covers cast.length l) (hlen : L.flatten.length ≤ 50000000) (hp : cast.length * 636 < L.length) :
    ∃ G B, Good2 f cast.length (fun t => (cast.getD t ⟨true, 0, 0, false⟩).pr) G B ((gcM f cast.length).runO (cast.map (Cs.code f true)) L.flatten).2 ∧ AtRest cast.length G ((gcM f cast.length).runO (cast.map (Cs.code f true)) L.flatten).2 := by
  have hok : ∀ t, t < cast.length → (cast.getD t ⟨true, 0, 0, false⟩).ok := fun t ht => by
    rw [List.getD_eq_getElem?_getD, List.getElem?_eq_getElem ht]
    exact h _ (List.getElem_mem ht)
  refine gc_rounds hf ⟨h1, by omega⟩ (fun t ht => Cs.disc (hok t ht)) (fun _ t ht => Cs.last (hok t ht)) (casts_right hf true h h1 (by omega)) (by rw [List.length_map]) (fun t ht => gc_codes f cast t ht) (gc_ok h1 (by omega) hf) hL hlen ?_
  have := sm_const (n := cast.length) (F := fun t => csts f cast.length ((cast.getD t ⟨true, 0, 0, false⟩).pr)) (c := 636) fun t ht => Cs.cost hf ⟨h1, h3⟩ (hok t ht)
  omega
end Go.Proofs.YtpjabgdcpogdiaaGreatDoor

/- GpO -/
namespace Go.Proofs.YtpjabgdcpogdiaaGreatDoor
open Go.RowKit

theorem count_two (a p : Nat) (hp : a ≤ p) : ∀ N : Nat, ((List.range N).filter fun c => decide (c < a ∨ c = p)).length = min a N + (if p < N then 1 else 0)
  | 0 => by simp
  | N + 1 => by
    rw [List.range_succ, List.filter_append, List.length_append, count_two a p hp N]
    by_cases h1 : N < a
    · have e : List.filter (fun c => decide (c < a ∨ c = p)) [N] = [N] := by
        simp [List.filter, h1]
      rw [e, if_neg (by omega), if_neg (by omega)]
      show min a N + 0 + 1 = min a (N + 1) + 0
      omega
    · by_cases h2 : N = p
      · have e : List.filter (fun c => decide (c < a ∨ c = p)) [N] = [N] := by
          simp [List.filter, h2]
        rw [e, if_neg (by omega), if_pos (by omega)]
        show min a N + 0 + 1 = min a (N + 1) + 1
        omega
      · have e : List.filter (fun c => decide (c < a ∨ c = p)) [N] = [] := by
          simp [List.filter, h1, h2]
        rw [e]
        show min a N + (if p < N then 1 else 0) + 0 = min a (N + 1) + (if p < N + 1 then 1 else 0)
        split <;> split <;> omega
section
variable {f n : Nat} {G : Gh} {m : Mk}
theorem PD.rest_there (h : PD f n G m) (hr : AtRest n G m) {c : Nat} (hc : c < 30) : m.mem.ar.there c = true ↔ c < n + 2 ∨ c = G.pp := by
  constructor
  · intro ht
    rcases Nat.lt_or_ge c (n + 2) with h1 | h1
    · exact .inl h1
    · rcases h.2.live c h1 hc ht with e | ⟨w, hw, hd, -⟩
      · exact .inr e
      · rw [(hr w hw).1] at hd
        exact absurd rfl hd
  · rintro (h1 | h1)
    · exact (h.1.here c (by omega)).1.there
    · rw [h1]; exact h.2.pub.1.2.there
theorem PD.rest_count (h : PD f n G m) (hr : AtRest n G m) : ((List.range m.mem.ar.size).filter fun c => m.mem.ar.there c).length = n + 3 := by
  have hn := h.1.few
  have hs := h.2.size
  have hp := h.2.pub.1
  have hpl : G.pp < 30 := by rw [← hs]; exact hp.2.lt
  rw [hs, List.filter_congr (q := fun c => decide (c < n + 2 ∨ c = G.pp)) (fun c hc => ?_), count_two (n + 2) G.pp hp.1, if_pos hpl]
  · omega
  · have := h.rest_there hr (List.mem_range.1 hc)
    rw [Bool.eq_iff_iff, this, decide_eq_true_iff]
end
end Go.Proofs.YtpjabgdcpogdiaaGreatDoor
