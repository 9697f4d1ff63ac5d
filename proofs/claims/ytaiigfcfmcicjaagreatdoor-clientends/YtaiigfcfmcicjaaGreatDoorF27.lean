import Derived.Test.YtaiigfcfmcicjaaGreatDoorF26
namespace Go.Proofs.YtaiigfcfmcicjaaGreatDoor
set_option maxRecDepth 100000
set_option maxHeartbeats 8000000
section
open Go.RowKit
theorem hExec_pc (m : Mk) (t : Nat) (tg : Tq) (q : Nat) (i : GI) : (hExec m t tg q i).pc = m.pc := by
 unfold hExec
 split
 ·unfold Mk.mark; split <;> rfl
 ·exact qExec_pc m t i
theorem tq_ok {f : Nat} (hf : 1 <= f /\ f <= 4) (tg : Tq) : gOk (tqCode f tg) = true := by
 have hf4 : f = 1 ∨ f = 2 ∨ f = 3 ∨ f = 4 := by omega
 rcases hf4 with rfl | rfl | rfl | rfl <;> cases tg <;> rfl
def ixl : List Nat -> Nat -> Nat
 | [], _ => 0
 | x :: l, u => if x = u then 0 else ixl l u + 1
theorem ixl_at : ∀ {C : List Nat} {i u : Nat}, C.Nodup -> C[i]? = some u -> ixl C u = i
 | [], i, u, _, h => by simp at h
 | x :: C, 0, u, _, h => by
  obtain rfl : x = u := by simpa using h
  exact if_pos rfl
 | x :: C, i + 1, u, hn, h => by
  have h : C[i]? = some u := by simpa using h
  have hx : x ≠ u := fun e => (List.nodup_cons.1 hn).1 (by rw [e]; exact List.mem_of_getElem? h)
  show (if x = u then 0 else ixl C u + 1) = i + 1
  rw [if_neg hx, ixl_at (List.nodup_cons.1 hn).2 h]
theorem ixl_app : ∀ {C D : List Nat} {u : Nat}, u ∈ C -> ixl (C ++ D) u = ixl C u
 | [], _, _, h => absurd h List.not_mem_nil
 | x :: C, D, u, h => by
  show (if x = u then 0 else ixl (C ++ D) u + 1) = (if x = u then 0 else ixl C u + 1)
  by_cases e : x = u
  ·rw [if_pos e, if_pos e]
  ·rw [if_neg e, if_neg e, ixl_app (by
    rcases List.mem_cons.1 h with h | h
    ·exact absurd h.symm e
    ·exact h)]
theorem ixl_lt : ∀ {C : List Nat} {u : Nat}, u ∈ C -> ixl C u < C.length
 | [], _, h => absurd h List.not_mem_nil
 | x :: C, u, h => by
  show (if x = u then 0 else ixl C u + 1) < C.length + 1
  by_cases e : x = u
  ·rw [if_pos e]; omega
  ·rw [if_neg e]
   have := ixl_lt (C := C) (u := u) (by
    rcases List.mem_cons.1 h with h | h
    ·exact absurd h.symm e
    ·exact h)
   omega
def gw : GI -> Nat
 | .store .. => 2
 | .alloc _ => 7
 | _ => 1
def sfx : List GI -> Nat -> Nat
 | [], _ => 0
 | x :: l, 0 => gw x + sfx l 0
 | _ :: l, q + 1 => sfx l q
theorem sfx_at : ∀ {s : List GI} {q : Nat} {i : GI}, s[q]? = some i -> sfx s q = gw i + sfx s (q + 1)
 | [], q, i, h => by simp at h
 | x :: l, 0, i, h => by
  obtain rfl : x = i := by simpa using h
  show gw x + sfx l 0 = gw x + sfx l 0
  rfl
 | x :: l, q + 1, i, h => sfx_at (s := l) (by simpa using h)
theorem sfx_end : ∀ {s : List GI} {q : Nat}, s.length <= q -> sfx s q = 0
 | [], _, _ => rfl
 | x :: l, 0, h => absurd h (by simp)
 | x :: l, q + 1, h => sfx_end (s := l) (by simpa using h)
theorem sfx_mono {s : List GI} {q : Nat} : ∀ {k : Nat}, sfx s (q + k) <= sfx s q
 | 0 => Nat.le_refl _
 | k + 1 => by
  refine Nat.le_trans ?_ (sfx_mono (k := k))
  cases h : s[q + k]? with
  | none =>
   have := List.getElem?_eq_none_iff.1 h
   rw [sfx_end (by omega), sfx_end this]
   exact Nat.le_refl _
  | some i => rw [sfx_at h]; exact Nat.le_add_left _ _
def fwd (s : List GI) : Bool := (List.range s.length).all fun q => match s[q]? with
 | some (.zero _ l) => decide (q < gAt l s)
 | some (.same _ _ l) => decide (q < gAt l s)
 | some (.goto l) => decide (q < gAt l s)
 | _ => true
theorem fwd_next {s : List GI} (h : fwd s = true) {q : Nat} {i : GI} (hi : s[q]? = some i) (r : Nat -> Int) : q < gNext s q r i := by
 have hq := (List.getElem?_eq_some_iff.1 hi).1
 have h1 := List.all_eq_true.1 h q (List.mem_range.2 hq)
 simp only [hi] at h1
 cases i with
 | zero a l =>
  have h1 : q < gAt l s := of_decide_eq_true h1
  show q < (if r a = 0 then gAt l s else q + 1)
  split <;> omega
 | same a b l =>
  have h1 : q < gAt l s := of_decide_eq_true h1
  show q < (if r a = r b then gAt l s else q + 1)
  split <;> omega
 | goto l => exact of_decide_eq_true h1
 | _ => exact Nat.lt_succ_self q
theorem fwd_down {s : List GI} (h : fwd s = true) {q : Nat} {i : GI} (hi : s[q]? = some i) (r : Nat -> Int) : sfx s (gNext s q r i) + gw i <= sfx s q := by
 have h1 := fwd_next h hi r
 rw [sfx_at hi]
 obtain ⟨k, hk⟩ : ∃ k, gNext s q r i = q + 1 + k := ⟨gNext s q r i - (q + 1), by omega⟩
 rw [hk]
 have := sfx_mono (s := s) (q := q + 1) (k := k)
 omega
def cix (n : Nat) (C : List Nat) (x : Int) : Nat := if x = 3 then n else ixl C (x - 4).toNat
def wO (f : Nat) : Nat := if f = 3 then 8 else 1
def wIT (n : Nat) : Nat := 5 * n + 17
def wTab (n : Nat) : Nat -> Nat
 | 2 => 3
 | 3 => 2
 | 4 => 5 * n + 18
 | 5 => 5 * n + 17
 | 6 => 5 * n + 16
 | 7 => 5 * n + 15
 | 8 => 5 * n + 14
 | 9 => 5 * n + 13
 | 10 => 5 * n + 12
 | 11 => 5 * n + 11
 | _ => 4
def spins (f q : Nat) : Prop := 12 <= stageq f q /\ stageq f q <= 14
instance (f q : Nat) : Decidable (spins f q) := by unfold spins; infer_instance
def rkW (f n : Nat) (C : List Nat) (r : Nat -> Int) (ph q : Nat) : Nat :=
 if stageq f q = 0 then n * wIT n + wO f + 5 + (if f = 3 then 5 - q else 0)
 else if stageq f q = 1 then n * wIT n + wO f + 4
 else if 16 <= stageq f q then (gWait f).length - q
 else if stageq f q = 4 /\ r 2 = 0 then wO f + 1
 else if spins f q then cix n C (r 2) * wIT n + wO f + 4 + 5 * n + ph
 else cix n C (r 2) * wIT n + wO f + wTab n (stageq f q)
def jof (C : List Nat) (x : Int) : Nat := if x = 0 then 0 else ixl C (x - 4).toNat + 1
def eTab : Nat -> Nat
 | 0 => 26
 | 1 => 25
 | 2 => 24
 | 3 => 23
 | 4 => 22
 | 5 => 21
 | 6 => 19
 | 7 => 18
 | 8 => 17
 | 9 => 16
 | 10 => 15
 | 11 => 14
 | 12 => 13
 | 13 => 12
 | 14 => 10
 | _ => 8
def rkE (n : Nat) (C : List Nat) (t : Nat) (r : Nat -> Int) (q : Nat) : Nat :=
 if q <= 10 then n * 10 + eTab q
 else if q <= 15 then (n - jof C (r 0)) * 10 + eTab q
 else if q <= 18 then (if t ∈ C then 23 - q else (n - jof C (r 0)) * 10 + (33 - q))
 else 23 - q
def rkM : Nat -> Nat
 | 0 => 5
 | 1 => 4
 | 2 => 3
 | 3 => 2
 | 4 => 7
 | 5 => 6
 | 6 => 1
 | _ => 0
def rkT (f n : Nat) (C : List Nat) (t : Nat) (r : Nat -> Int) (ph : Nat) : Option Pq -> Nat
 | none => 0
 | some ⟨.wait, q, _⟩ => rkW f n C r ph q
 | some ⟨.enter, q, _⟩ => if f = 4 then rkE n C t r q else sfx (gEnter f) q
 | some ⟨.empty, q, _⟩ => rkM q
 | some ⟨tg, q, _⟩ => sfx (tqCode f tg) q
def cst (f n : Nat) : Tq -> Nat
 | .wait => n * wIT n + wO f + 5 + (if f = 3 then 5 else 0)
 | .enter => if f = 4 then n * 10 + 26 else sfx (gEnter f) 0
 | .empty => 5
 | tg => sfx (tqCode f tg) 0
def csts (f n : Nat) : List Tq -> Nat
 | [] => 0
 | x :: l => cst f n x + csts f n l
theorem rk_begin {f n : Nat} (hf : 1 <= f /\ f <= 4) (C : List Nat) (t : Nat) (r : Nat -> Int) (ph : Nat) (tg : Tq) (d : Nat) : rkT f n C t r ph (some ⟨tg, 0, d⟩) <= cst f n tg := by
 have hf4 : f = 1 ∨ f = 2 ∨ f = 3 ∨ f = 4 := by omega
 cases tg with
 | wait => rcases hf4 with rfl | rfl | rfl | rfl <;> exact Nat.le_refl _
 | enter => rcases hf4 with rfl | rfl | rfl | rfl <;> exact Nat.le_refl _
 | _ => exact Nat.le_refl _
theorem tg_fwd {f : Nat} (hf : 1 <= f /\ f <= 4) {tg : Tq} (h1 : tg ≠ .wait) (h2 : tg = .enter -> f ≠ 4) (h3 : tg ≠ .empty) : fwd (tqCode f tg) = true := by
 have hf4 : f = 1 ∨ f = 2 ∨ f = 3 ∨ f = 4 := by omega
 cases tg with
 | wait => exact absurd rfl h1
 | empty => exact absurd rfl h3
 | enter => rcases hf4 with rfl | rfl | rfl | rfl <;> first | rfl | exact absurd rfl (h2 rfl)
 | _ => rcases hf4 with rfl | rfl | rfl | rfl <;> rfl
theorem cix_mul {n a b : Nat} (h : a + 1 <= b) : a * wIT n + wIT n <= b * wIT n := by
 have := Nat.mul_le_mul_right (wIT n) h
 rwa [Nat.succ_mul] at this
theorem wait_down {f n q ph ph' : Nat} (hf : 1 <= f /\ f <= 4) {C : List Nat} {r r' : Nat -> Int} {i : GI} (hi : (gWait f)[q]? = some i) (hs : ¬ spins f q) (hph : ph' <= 6)
  (h1 : stageq f q = 1 -> r' 2 = 3) (h3 : stageq f q = 3 -> r' 2 = 0 ∨ (r' 2 ≠ 0 /\ cix n C (r' 2) + 1 <= cix n C (r 2))) (h2 : stageq f q ≠ 1 -> stageq f q ≠ 3 -> r' 2 = r 2) :
  rkW f n C r' ph' (gNext (gWait f) q r i) + 1 <= rkW f n C r ph q := by
 have hf4 : f = 1 ∨ f = 2 ∨ f = 3 ∨ f = 4 := by omega
 have hq := (List.getElem?_eq_some_iff.1 hi).1
 have hcm : ∀ a b, a + 1 <= b -> a * wIT n + wIT n <= b * wIT n := fun a b h => cix_mul h
 have hw : wIT n = 5 * n + 17 := rfl
 have hc1 : cix n C 3 = n := rfl
 have hl : (gWait f).length <= 25 := by rcases hf4 with rfl | rfl | rfl | rfl <;> decide
 rcases hf4 with rfl | rfl | rfl | rfl
 all_goals
  obtain rfl | rfl | rfl | rfl | rfl | rfl | rfl | rfl | rfl | rfl | rfl | rfl | rfl | rfl | rfl | rfl | rfl | rfl | rfl | rfl | rfl | rfl | rfl | rfl | rfl : q = 0 ∨ q = 1 ∨ q = 2 ∨ q = 3 ∨ q = 4 ∨ q = 5 ∨ q = 6 ∨ q = 7 ∨ q = 8 ∨ q = 9 ∨ q = 10 ∨ q = 11 ∨ q = 12 ∨ q = 13 ∨ q = 14 ∨ q = 15 ∨ q = 16 ∨ q = 17 ∨ q = 18 ∨ q = 19 ∨ q = 20 ∨ q = 21 ∨ q = 22 ∨ q = 23 ∨ q = 24 := by omega
 all_goals first
  | (exfalso; exact absurd hq (by decide))
  | exact absurd (by decide) hs
  | (obtain rfl : _ = i := Option.some.inj (show some _ = some i from hi)
     simp [stageq] at h1 h2 h3
     first
     | (simp [gNext, gAt, gLab, gWait, gFence, rkW, stageq, spins, wTab, wO] at h1 h2 h3 ⊢ <;> first | omega | (simp [h1, hc1]; done) | (simp only [h2]; omega) | (simp [h1, hc1]; omega) | (rcases h3 with h | ⟨h, h'⟩ <;> simp [h] <;> (first | omega | (have := hcm _ _ h'; omega))); done)
     | (simp [gNext, gAt, gLab, gWait, gFence, rkW, stageq, spins, wTab, wO] <;> first | omega | (simp [h1, hc1]; done) | (simp only [h2]; omega) | (simp [h1, hc1]; omega) | (rcases h3 with h | ⟨h, h'⟩ <;> simp [h] <;> (first | omega | (have := hcm _ _ h'; omega))); done)
     | (by_cases e0 : r 0 = 0 <;> simp [gNext, gAt, gLab, gWait, gFence, rkW, stageq, spins, wTab, wO, e0] <;> first | omega | (simp [h1, hc1]; done) | (simp only [h2]; omega) | (simp [h1, hc1]; omega) | (rcases h3 with h | ⟨h, h'⟩ <;> simp [h] <;> (first | omega | (have := hcm _ _ h'; omega))); done)
     | (by_cases e1 : r 0 = r 1 <;> simp [gNext, gAt, gLab, gWait, gFence, rkW, stageq, spins, wTab, wO] <;> first | omega | (simp [h1, hc1]; done) | (simp only [h2]; omega) | (simp [h1, hc1]; omega) | (rcases h3 with h | ⟨h, h'⟩ <;> simp [h] <;> (first | omega | (have := hcm _ _ h'; omega))); done)
     | (by_cases e2 : r 2 = 0 <;> simp [gNext, gAt, gLab, gWait, gFence, rkW, stageq, spins, wTab, wO, e2] <;> first | omega | (simp [h1, hc1]; done) | (simp only [h2]; omega) | (simp [h1, hc1]; omega) | (rcases h3 with h | ⟨h, h'⟩ <;> simp [h] <;> (first | omega | (have := hcm _ _ h'; omega))); done)
     | (by_cases e6 : r 6 = 0 <;> simp [gNext, gAt, gLab, gWait, rkW, stageq, wO, e6] <;> first | omega | (simp [h1, hc1]; done) | (simp only [h2]; omega) | (simp [h1, hc1]; omega) | (rcases h3 with h | ⟨h, h'⟩ <;> simp [h] <;> (first | omega | (have := hcm _ _ h'; omega))); done))
def phW (f q : Nat) (r : Nat -> Int) : Nat :=
 if stageq f q = 14 then (if r 0 = 0 then 1 else if f = 2 then 5 else 4)
 else if stageq f q = 12 then (if f = 2 then 4 else 3)
 else if f = 2 /\ q = 13 then 3 else 2
theorem spin_at {f q : Nat} (hf : 1 <= f /\ f <= 4) (h : spins f q) : (f = 1 ∨ f = 4) /\ (q = 12 ∨ q = 13 ∨ q = 14) ∨ f = 2 /\ (q = 12 ∨ q = 13 ∨ q = 14 ∨ q = 15) ∨ f = 3 /\ (q = 13 ∨ q = 14 ∨ q = 15) := by
 unfold spins at h
 obtain ⟨s, hs⟩ : ∃ s, stageq f q = s := ⟨_, rfl⟩
 rw [hs] at h
 have hf4 : f = 1 ∨ f = 2 ∨ f = 3 ∨ f = 4 := by omega
 rcases hf4 with rfl | rfl | rfl | rfl
 ·have hs : q = s := hs
  exact .inl ⟨.inl rfl, by omega⟩
 ·refine .inr (.inl ⟨rfl, ?_⟩)
  have hs : (if q <= 13 then q else q - 1) = s := hs
  split at hs <;> omega
 ·refine .inr (.inr ⟨rfl, ?_⟩)
  rcases Nat.lt_or_ge q 17 with hq | hq
  ·obtain rfl | rfl | rfl | rfl | rfl | rfl | rfl | rfl | rfl | rfl | rfl | rfl | rfl | rfl | rfl | rfl | rfl : q = 0 ∨ q = 1 ∨ q = 2 ∨ q = 3 ∨ q = 4 ∨ q = 5 ∨ q = 6 ∨ q = 7 ∨ q = 8 ∨ q = 9 ∨ q = 10 ∨ q = 11 ∨ q = 12 ∨ q = 13 ∨ q = 14 ∨ q = 15 ∨ q = 16 := by omega
   all_goals first
    | omega
    | (exfalso; have hs : _ = s := hs; subst hs; exact absurd h (by decide))
  ·obtain ⟨k, rfl⟩ : ∃ k, q = 17 + k := ⟨q - 17, by omega⟩
   have : stageq 3 (17 + k) = 16 := by
    unfold stageq
    rw [if_pos rfl]
    repeat rw [if_neg (by omega)]
   omega
 ·have hs : q = s := hs
  exact .inl ⟨.inr rfl, by omega⟩
theorem wait_leave {f n q ph ph' : Nat} (hf : 1 <= f /\ f <= 4) {C : List Nat} {r r' : Nat -> Int} {i : GI} (hi : (gWait f)[q]? = some i) (hs : stageq f q = 14) (h0 : r 0 ≠ r 1) (h2 : r' 2 = r 2) :
  rkW f n C r' ph' (gNext (gWait f) q r i) + (5 * n + ph) <= rkW f n C r ph q := by
 rcases spin_at (f := f) (q := q) hf (by unfold spins; omega) with ⟨rfl | rfl, rfl | rfl | rfl⟩ | ⟨rfl, rfl | rfl | rfl | rfl⟩ | ⟨rfl, rfl | rfl | rfl⟩
 all_goals first
  | exact absurd hs (by decide)
  | (obtain rfl : _ = i := Option.some.inj (show some _ = some i from hi)
     simp [gNext, rkW, stageq, spins, wTab, wO, h0, h2]; omega)
theorem wait_stay {f n q ph ph' : Nat} (hf : 1 <= f /\ f <= 4) {C : List Nat} {r r' : Nat -> Int} {i : GI} (hi : (gWait f)[q]? = some i) (hs : spins f q) (h0 : stageq f q = 14 -> r 0 = r 1) (h2 : r' 2 = r 2) :
  spins f (gNext (gWait f) q r i) /\ rkW f n C r' ph' (gNext (gWait f) q r i) + ph = rkW f n C r ph q + ph' := by
 rcases spin_at hf hs with ⟨rfl | rfl, rfl | rfl | rfl⟩ | ⟨rfl, rfl | rfl | rfl | rfl⟩ | ⟨rfl, rfl | rfl | rfl⟩
 all_goals
  obtain rfl : _ = i := Option.some.inj (show some _ = some i from hi)
  simp [stageq] at h0
  simp [gNext, gAt, gLab, gWait, gFence, rkW, stageq, spins, wO, h0, h2]
  try omega
theorem wait_phase {f q : Nat} (hf : 1 <= f /\ f <= 4) {r r' : Nat -> Int} {i : GI} (hi : (gWait f)[q]? = some i) (hs : spins f q) (h0 : stageq f q = 14 -> r 0 = r 1) (h1 : r 1 ≠ 0)
  (hl : ∀ a b k, i = .load a b k -> r' 0 = 0) (hk : stageq f q ≠ 13 -> r' 0 = r 0) : phW f (gNext (gWait f) q r i) r' + 1 <= phW f q r := by
 rcases spin_at hf hs with ⟨rfl | rfl, rfl | rfl | rfl⟩ | ⟨rfl, rfl | rfl | rfl | rfl⟩ | ⟨rfl, rfl | rfl | rfl⟩
 all_goals
  obtain rfl : _ = i := Option.some.inj (show some _ = some i from hi)
  simp [stageq] at h0 hk
  try have hl := hl _ _ _ rfl
  simp [gNext, gAt, gLab, gWait, gFence, phW, stageq, h0, h1]
  try simp [hl]
theorem phW_le (f q : Nat) (r : Nat -> Int) : 1 <= phW f q r /\ phW f q r <= 5 := by
 unfold phW
 repeat' split
 all_goals omega
theorem enter_down {n q t : Nat} {C C' : List Nat} {r r' : Nat -> Int} {i : GI} (hi : (gEnter 4)[q]? = some i) (hC : q ≠ 15 -> C' = C) (h0 : (11 <= q /\ q <= 14) ∨ (16 <= q /\ q <= 18) -> r' 0 = r 0)
  (h15 : q = 15 -> t ∈ C' ∨ C' = C /\ t ∉ C /\ jof C (r 0) + 1 <= jof C (r' 0) /\ jof C (r' 0) <= n) (h18 : q = 18 -> t ∉ C) : rkE n C' t r' (gNext (gEnter 4) q r i) + gw i <= rkE n C t r q := by
 have hq : q < 23 := (List.getElem?_eq_some_iff.1 hi).1
 have hj : ∀ a, (n - a) * 10 <= n * 10 := fun a => Nat.mul_le_mul_right _ (Nat.sub_le _ _)
 obtain rfl | rfl | rfl | rfl | rfl | rfl | rfl | rfl | rfl | rfl | rfl | rfl | rfl | rfl | rfl | rfl | rfl | rfl | rfl | rfl | rfl | rfl | rfl : q = 0 ∨ q = 1 ∨ q = 2 ∨ q = 3 ∨ q = 4 ∨ q = 5 ∨ q = 6 ∨ q = 7 ∨ q = 8 ∨ q = 9 ∨ q = 10 ∨ q = 11 ∨ q = 12 ∨ q = 13 ∨ q = 14 ∨ q = 15 ∨ q = 16 ∨ q = 17 ∨ q = 18 ∨ q = 19 ∨ q = 20 ∨ q = 21 ∨ q = 22 := by omega
 all_goals
  obtain rfl : _ = i := Option.some.inj (show some _ = some i from hi)
  simp at hC h0 h15 h18
  try subst hC
  have hj1 := hj (jof C' (r 0))
  have hj2 := hj (jof C' (r' 0))
  first
  | (simp [gNext, gAt, gLab, gEnter, gOuter, gJoin, gShow, rkE, eTab, gw]; (try omega); done)
  | (by_cases e0 : r 0 = 0 <;> simp [gNext, gAt, gLab, gEnter, gOuter, gJoin, gShow, rkE, eTab, gw, e0] <;> (try omega); done)
  | (by_cases e6 : r 0 = r 6 <;> simp [gNext, gAt, gLab, gEnter, gOuter, gJoin, gShow, rkE, eTab, gw, e6] <;> (try omega); done)
  | (by_cases ht : t ∈ C' <;> by_cases e6 : r 0 = r 1 <;> simp [gNext, gAt, gLab, gEnter, gOuter, gJoin, gShow, rkE, eTab, gw, ht, e6, h0] <;> (try omega); done)
  | (rcases h15 with h | ⟨rfl, h, h', h''⟩ <;> simp [gNext, rkE, eTab, gw, h] <;> (try omega); done)
  | (simp [gNext, gAt, gLab, gEnter, gOuter, gJoin, gShow, rkE, eTab, gw, h18, h0]; (try omega); done)
def dstR : GI -> Option Nat
 | .load r _ _ => some r
 | .const r _ => some r
 | .move r _ => some r
 | .add r _ _ => some r
 | .sub r _ _ => some r
 | .swap r _ _ => some r
 | .cas _ r _ => some r
 | .alloc r => some r
 | _ => none
theorem keepR (m : Mk) (t : Nat) (i : GI) {j : Nat} (h : dstR i ≠ some j) : (gExec m t i).regs t j = m.regs t j := by
 have key : ∀ (m : Mk) (r : Nat) (v : Int), dstR i = some r -> (m.setReg t r v).regs t j = m.regs t j := fun m r v e => by
  rw [setReg_reg, if_neg (fun e2 => h (by rw [e, e2]))]
 cases i with
 | load r a k => show (m.load _ _ _ _).regs t j = _; unfold Mk.load; split <;> exact key _ _ _ rfl
 | const r v => exact key _ _ _ rfl
 | move r a => exact key _ _ _ rfl
 | add r a b => exact key _ _ _ rfl
 | sub r a b => exact key _ _ _ rfl
 | store a r k =>
  show (m.store _ _ _ _).regs t j = _
  unfold Mk.store
  split
  ·rw [show ((m.room t).put t (m.regs t a) k (m.regs t r)).regs = (m.room t).regs from rfl, (room_regs m t).1]
  ·rfl
 | swap r a k => show (m.swap _ _ _ _ _).regs t j = _; unfold Mk.swap; split <;> exact key _ _ _ rfl
 | cas a r k => show (m.cas _ _ _ _ _ _).regs t j = _; unfold Mk.cas; split <;> exact key _ _ _ rfl
 | force => show (m.fenceFrom _ _).regs t j = _; rw [(fenceFrom_regs _ m 0).1]
 | alloc r => show (m.alloc _ _).regs t j = _; unfold Mk.alloc; split <;> exact key _ _ _ rfl
 | free r => show (m.free _ _).regs t j = _; unfold Mk.free; split <;> rfl
 | need r => show (m.need _).regs t j = _; unfold Mk.need; split <;> rfl
 | _ => rfl
def Lx (f : Nat) (C : List Nat) (r : Nat -> Int) : Option Pq -> Prop
 | some ⟨.enter, q, _⟩ => f = 4 -> 11 <= q -> q <= 18 -> r 0 = 0 ∨ ∃ u ∈ C, r 0 = (u : Int) + 4
 | some ⟨.wait, q, _⟩ => match stageq f q with
  | 7 => r 0 ≠ 0
  | 8 => r 0 ≠ 0
  | 9 => r 0 ≠ 0 /\ r 1 = (2 + r 0) % 4294967296
  | 10 => ∃ x : Int, x ≠ 0 /\ Wd x /\ r 1 = (2 + x) % 4294967296
  | 11 => ∃ x : Int, x ≠ 0 /\ Wd x /\ r 1 = (2 + x) % 4294967296
  | 12 => r 1 ≠ 0
  | 13 => r 1 ≠ 0
  | 14 => r 1 ≠ 0
  | _ => True
 | _ => True
theorem Lx.more {f : Nat} {C C' : List Nat} {r : Nat -> Int} {g : Option Pq} (h : Lx f C r g) (hs : ∀ u ∈ C, u ∈ C') : Lx f C' r g := by
 match g, h with
 | some ⟨.enter, q, d⟩, h =>
  intro hf h1 h2
  rcases h hf h1 h2 with e | ⟨u, hu, e⟩
  ·exact .inl e
  ·exact .inr ⟨u, hs u hu, e⟩
 | some ⟨.wait, q, d⟩, h => exact h
 | some ⟨.leave, q, d⟩, h => exact h
 | some ⟨.rest, q, d⟩, h => exact h
 | some ⟨.gone, q, d⟩, h => exact h
 | some ⟨.read, q, d⟩, h => exact h
 | some ⟨.put v, q, d⟩, h => exact h
 | some ⟨.drop, q, d⟩, h => exact h
 | some ⟨.later, q, d⟩, h => exact h
 | some ⟨.empty, q, d⟩, h => exact h
 | none, h => exact h
theorem sub_back {x y : Int} (hx : x ≠ 0) (hw : Wd x) (hy : y = (2 + x) % 4294967296) : (y - 2) % 4294967296 ≠ 0 := by
 obtain ⟨h1, h2⟩ := hw
 omega
theorem wait_Lx {f q d : Nat} (hf : 1 <= f /\ f <= 4) {C : List Nat} {r r' : Nat -> Int} {i : GI} (hi : (gWait f)[q]? = some i) (h : Lx f C r (some ⟨.wait, q, d⟩)) (hw : ∀ j, Wd (r j)) (h8 : stageq f q = 8 -> r 1 = 2) (h11 : stageq f q = 11 -> r 0 = 2)
  (hk : ∀ j, dstR i ≠ some j -> r' j = r j) (hm : ∀ a b, i = .move a b -> r' a = r b) (ha : ∀ a b c, i = .add a b c -> r' a = (r b + r c) % 4294967296) (hs : ∀ a b c, i = .sub a b c -> r' a = (r b - r c) % 4294967296) :
  Lx f C r' (some ⟨.wait, gNext (gWait f) q r i, d⟩) := by
 have hf4 : f = 1 ∨ f = 2 ∨ f = 3 ∨ f = 4 := by omega
 have hq := (List.getElem?_eq_some_iff.1 hi).1
 have hl : (gWait f).length <= 25 := by rcases hf4 with rfl | rfl | rfl | rfl <;> decide
 rcases hf4 with rfl | rfl | rfl | rfl
 all_goals
  obtain rfl | rfl | rfl | rfl | rfl | rfl | rfl | rfl | rfl | rfl | rfl | rfl | rfl | rfl | rfl | rfl | rfl | rfl | rfl | rfl | rfl | rfl | rfl | rfl | rfl : q = 0 ∨ q = 1 ∨ q = 2 ∨ q = 3 ∨ q = 4 ∨ q = 5 ∨ q = 6 ∨ q = 7 ∨ q = 8 ∨ q = 9 ∨ q = 10 ∨ q = 11 ∨ q = 12 ∨ q = 13 ∨ q = 14 ∨ q = 15 ∨ q = 16 ∨ q = 17 ∨ q = 18 ∨ q = 19 ∨ q = 20 ∨ q = 21 ∨ q = 22 ∨ q = 23 ∨ q = 24 := by omega
 all_goals first
  | (exfalso; exact absurd hq (by decide))
  | (obtain rfl : _ = i := Option.some.inj (show some _ = some i from hi)
     first
     | exact trivial
     | (have h : r 0 ≠ 0 := h; have e : r' 0 = r 0 := hk 0 (by decide); have h8 := h8 rfl; have e1 := ha _ _ _ rfl; exact ⟨by rw [e]; exact h, by rw [e, <- h8]; exact e1⟩)
     | (have h : r 0 ≠ 0 := h; have e : r' 0 = r 0 := hk 0 (by decide); show r' 0 ≠ 0; rw [e]; exact h)
     | (have h : r 0 ≠ 0 := h; have e := hm _ _ rfl; show r' 1 ≠ 0; rw [e]; exact h)
     | (have h : r 0 ≠ 0 /\ r 1 = (2 + r 0) % 4294967296 := h; have e : r' 1 = r 1 := hk 1 (by decide); exact ⟨r 0, h.1, hw 0, by rw [e]; exact h.2⟩)
     | (obtain ⟨x, h1, h2, h3⟩ : ∃ x : Int, x ≠ 0 /\ Wd x /\ r 1 = (2 + x) % 4294967296 := h; have e : r' 1 = r 1 := hk 1 (by decide); exact ⟨x, h1, h2, by rw [e]; exact h3⟩)
     | (obtain ⟨x, h1, h2, h3⟩ : ∃ x : Int, x ≠ 0 /\ Wd x /\ r 1 = (2 + x) % 4294967296 := h; have e := hs _ _ _ rfl; have h11 := h11 rfl; show r' 1 ≠ 0; rw [e, h11]; exact sub_back h1 h2 h3)
     | (have h : r 1 ≠ 0 := h; have e : r' 1 = r 1 := hk 1 (by decide); show r' 1 ≠ 0; rw [e]; exact h)
     | (have h : r 1 ≠ 0 := h; have e : r' 1 = r 1 := hk 1 (by decide); by_cases e2 : r 0 = r 1
        ·simp [Lx, gNext, gAt, gLab, gWait, gFence, stageq, e2, e, h]
        ·simp [Lx, gNext, stageq, e2])
     | (by_cases e2 : r 2 = 0 <;> simp [Lx, gNext, gAt, gLab, gWait, gFence, stageq, e2]; done)
     | (have e : r' 0 = r 0 := hk 0 (by decide); by_cases e2 : r 0 = 0 <;> simp [Lx, gNext, gAt, gLab, gWait, gFence, stageq, e2, e]; done)
     | (by_cases e2 : r 6 = 0 <;> simp [Lx, gNext, gAt, gLab, gWait, stageq, e2]; done))
theorem enter_Lx {q d : Nat} {C C' : List Nat} {r r' : Nat -> Int} {i : GI} (hi : (gEnter 4)[q]? = some i) (h : Lx 4 C r (some ⟨.enter, q, d⟩)) (hC : ∀ u ∈ C, u ∈ C') (hk : dstR i ≠ some 0 -> r' 0 = r 0)
  (hn : q = 10 ∨ q = 15 -> r' 0 = 0 ∨ ∃ u ∈ C', r' 0 = (u : Int) + 4) : Lx 4 C' r' (some ⟨.enter, gNext (gEnter 4) q r i, d⟩) := by
 intro _ g1 g2
 have hq : q < 23 := (List.getElem?_eq_some_iff.1 hi).1
 by_cases h10 : q = 10 ∨ q = 15
 ·exact hn h10
 ·have keep : 11 <= q -> q <= 18 -> dstR i ≠ some 0 -> r' 0 = 0 ∨ ∃ u ∈ C', r' 0 = (u : Int) + 4 := fun a b c => by
   rw [hk c]
   rcases h rfl a b with e | ⟨u, hu, e⟩
   ·exact .inl e
   ·exact .inr ⟨u, hC u hu, e⟩
  obtain rfl | rfl | rfl | rfl | rfl | rfl | rfl | rfl | rfl | rfl | rfl | rfl | rfl | rfl | rfl | rfl | rfl | rfl | rfl | rfl | rfl | rfl | rfl : q = 0 ∨ q = 1 ∨ q = 2 ∨ q = 3 ∨ q = 4 ∨ q = 5 ∨ q = 6 ∨ q = 7 ∨ q = 8 ∨ q = 9 ∨ q = 10 ∨ q = 11 ∨ q = 12 ∨ q = 13 ∨ q = 14 ∨ q = 15 ∨ q = 16 ∨ q = 17 ∨ q = 18 ∨ q = 19 ∨ q = 20 ∨ q = 21 ∨ q = 22 := by omega
  all_goals
   obtain rfl : _ = i := Option.some.inj (show some _ = some i from hi)
   first
   | exact keep (by decide) (by decide) (by decide)
   | (exfalso; revert g1; decide)
   | (exfalso; revert g2; decide)
   | (exfalso; exact h10 (by decide))
   | (exfalso; revert g1 g2; by_cases e : r 0 = 0 <;> simp [gNext, gAt, gLab, gEnter, gOuter, gJoin, gShow, e]; done)
   | (exfalso; revert g1 g2; by_cases e : r 0 = r 6 <;> simp [gNext, gAt, gLab, gEnter, gOuter, gJoin, gShow, e]; done)
end
end Go.Proofs.YtaiigfcfmcicjaaGreatDoor
