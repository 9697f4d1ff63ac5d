import Derived.Test.YtnnlkolhahjokaaGreatDoorA38
import Derived.Test.YtnnlkolhahjokaaGreatDoorA12

/- WlB -/
namespace Go.Proofs.YtnnlkolhahjokaaGreatDoor
open Go.RowKit

structure Srch (cs : List (List Ins)) (m0 : Mk) (mo : Int) (S : Sp) (R : List Mk) (c : Nat) : Prop where
  keys : S.E.map (·.1) = R.map (keyOf cs.length)
  ms : S.ms = R.drop c
  cnt : c ≤ R.length
  first : R[0]? = some m0 ∧ S.E[0]? = some (keyOf cs.length m0, (ByteArray.empty, 0))
  once : ∀ (i j : Nat) m m', R[i]? = some m → R[j]? = some m' → keyOf cs.length m = keyOf cs.length m' → i = j
  by' : ∀ (i : Nat), 0 < i → i < R.length → ∃ (j n : Nat) (m m' : Mk), j < i ∧ R[j]? = some m ∧ R[i]? = some m' ∧ S.E[i]? = some (keyOf cs.length m', (keyOf cs.length m, (n : Int))) ∧ m.turnO cs n = (0, m')
  good : ∀ m ∈ R, m.faults = 0
  rch : ∀ (i : Nat) m, R[i]? = some m → ∃ d, d ≤ i ∧ Rch cs m0 d m
  s : S.s = R.length
  le : (R.length : Int) ≤ mo
def Tried (cs : List (List Ins)) (R : List Mk) (m : Mk) (n : Nat) : Prop := (m.turnO cs n).1 ≠ 0 ∨ ((m.turnO cs n).2.faults = 0 ∧ ∃ m' ∈ R, keyOf cs.length m' = keyOf cs.length (m.turnO cs n).2)
theorem Tried.mono {cs : List (List Ins)} {R R' : List Mk} {m : Mk} {n : Nat} (h : Tried cs R m n) (hp : R <+: R') : Tried cs R' m n := by
  rcases h with h | ⟨h1, m', h2, h3⟩
  · exact .inl h
  · exact .inr ⟨h1, m', hp.subset h2, h3⟩
def Closed (cs : List (List Ins)) (R : List Mk) (c N : Nat) : Prop := ∀ (j : Nat) m, j < c → R[j]? = some m → ∀ n, n < N → Tried cs R m n
theorem pre_get {R R' : List Mk} (hp : R <+: R') {j : Nat} (hj : j < R.length) : R'[j]? = R[j]? := by
  obtain ⟨T, rfl⟩ := hp
  exact List.getElem?_append_left hj
theorem Closed.mono {cs : List (List Ins)} {R R' : List Mk} {c N : Nat} (h : Closed cs R c N) (hp : R <+: R') (hc : c ≤ R.length) : Closed cs R' c N := fun j m hj hm n hn => by
  rw [pre_get hp (by omega)] at hm
  exact (h j m hj hm n hn).mono hp

theorem Srch.len {cs : List (List Ins)} {m0 : Mk} {mo : Int} {S : Sp} {R : List Mk} {c : Nat} (h : Srch cs m0 mo S R c) : S.E.length = R.length := by
  have := congrArg List.length h.keys
  simpa using this
theorem Srch.key {cs : List (List Ins)} {m0 : Mk} {mo : Int} {S : Sp} {R : List Mk} {c : Nat} (h : Srch cs m0 mo S R c) {i : Nat} {x : ByteArray × ByteArray × Int} (hx : S.E[i]? = some x) : ∃ m, R[i]? = some m ∧ x.1 = keyOf cs.length m := by
  have h1 : (S.E.map (·.1))[i]? = some x.1 := by rw [List.getElem?_map, hx]; rfl
  rw [h.keys, List.getElem?_map] at h1
  cases hm : R[i]? with
  | none => rw [hm] at h1; cases h1
  | some m => rw [hm] at h1; exact ⟨m, rfl, (Option.some.inj h1).symm⟩
theorem keyIn_srch {cs : List (List Ins)} {m0 : Mk} {mo : Int} {S : Sp} {R : List Mk} {c : Nat} (h : Srch cs m0 mo S R c) (k : ByteArray) : keyIn S.E k = true ↔ ∃ m ∈ R, keyOf cs.length m = k := by
  unfold keyIn
  rw [List.any_eq_true]
  constructor
  · rintro ⟨x, hx, he⟩
    obtain ⟨i, hi⟩ := List.mem_iff_getElem?.1 hx
    obtain ⟨m, hm, hk⟩ := h.key hi
    refine ⟨m, List.mem_of_getElem? hm, ?_⟩
    rw [← hk]
    have := eq_of_beq he
    rw [toList_bl, toList_bl] at this
    exact bl_inj this
  · rintro ⟨m, hm, rfl⟩
    have h1 : keyOf cs.length m ∈ S.E.map (·.1) := by rw [h.keys]; exact List.mem_map_of_mem hm
    obtain ⟨x, hx, he⟩ := List.mem_map.1 h1
    exact ⟨x, hx, by rw [he]; exact beq_self_eq_true _⟩

theorem Srch.add {cs : List (List Ins)} {m0 : Mk} {mo : Int} {S : Sp} {R : List Mk} {c : Nat} (h : Srch cs m0 mo S R c) {j n : Nat} {m m' : Mk} (hm : R[j]? = some m) (ht : m.turnO cs n = (0, m')) (hf : m'.faults = 0) (hin : keyIn S.E (keyOf cs.length m') = false) (hmo : ¬ (S.E.length : Int) = mo) :
    Srch cs m0 mo ⟨S.E ++ [(keyOf cs.length m', (keyOf cs.length m, (n : Int)))], S.ms ++ [m'], S.s + 1, endN S.e (endTo cs m' cs.length), S.L ++ [m']⟩ (R ++ [m']) c := by
  have hnew : ∀ x ∈ R, keyOf cs.length x ≠ keyOf cs.length m' := fun x hx e => by
    rw [(keyIn_srch h _).2 ⟨x, hx, e⟩] at hin; cases hin
  have hjl : j < R.length := (List.getElem?_eq_some_iff.1 hm).1
  have hlen := h.len
  refine ⟨?_, ?_, ?_, ⟨?_, ?_⟩, ?_, ?_, ?_, ?_, ?_, ?_⟩
  · rw [List.map_append, List.map_append, h.keys]; rfl
  · show S.ms ++ [m'] = (R ++ [m']).drop c
    rw [List.drop_append_of_le_length h.cnt, h.ms]
  · have := h.cnt
    rw [List.length_append]; omega
  · rw [List.getElem?_append_left (by omega)]; exact h.first.1
  · show (S.E ++ _)[0]? = _
    rw [List.getElem?_append_left (by omega)]; exact h.first.2
  · intro i i' x x' hx hx' he
    rw [List.getElem?_append] at hx hx'
    split at hx
    · split at hx'
      · exact h.once i i' x x' hx hx' he
      · rename_i h2
        cases hd : i' - R.length with
        | zero =>
          rw [hd] at hx'
          obtain rfl : m' = x' := by simpa using hx'
          exact absurd he (hnew x (List.mem_of_getElem? hx))
        | succ k => rw [hd] at hx'; simp at hx'
    · rename_i h1
      cases hd : i - R.length with
      | succ k => rw [hd] at hx; simp at hx
      | zero =>
        rw [hd] at hx
        obtain rfl : m' = x := by simpa using hx
        split at hx'
        · exact absurd he.symm (hnew x' (List.mem_of_getElem? hx'))
        · cases hd' : i' - R.length with
          | zero => omega
          | succ k => rw [hd'] at hx'; simp at hx'
  · intro i h0 hi
    rw [List.length_append] at hi
    have hi : i < R.length + 1 := hi
    by_cases hlt : i < R.length
    · obtain ⟨j', n', x, x', g1, g2, g3, g4, g5⟩ := h.by' i h0 hlt
      refine ⟨j', n', x, x', g1, ?_, ?_, ?_, g5⟩
      · rw [List.getElem?_append_left (by omega)]; exact g2
      · rw [List.getElem?_append_left hlt]; exact g3
      · show (S.E ++ _)[i]? = _
        rw [List.getElem?_append_left (by omega)]; exact g4
    · obtain rfl : i = R.length := by omega
      refine ⟨j, n, m, m', hjl, ?_, ?_, ?_, ht⟩
      · rw [List.getElem?_append_left hjl]; exact hm
      · simp
      · show (S.E ++ _)[R.length]? = _
        rw [← hlen]; simp
  · intro x hx
    rcases List.mem_append.1 hx with hx | hx
    · exact h.good x hx
    · obtain rfl : x = m' := by simpa using hx
      exact hf
  · intro i x hx
    rw [List.getElem?_append] at hx
    split at hx
    · exact h.rch i x hx
    · rename_i h1
      cases hd : i - R.length with
      | succ k => rw [hd] at hx; simp at hx
      | zero =>
        rw [hd] at hx
        obtain rfl : m' = x := by simpa using hx
        obtain ⟨d, h2, h3⟩ := h.rch j m hm
        refine ⟨d + 1, by omega, ?_⟩
        have := h3.turn n
        rw [ht] at this
        exact this
  · show S.s + 1 = ((R ++ [m']).length : Int)
    rw [h.s, List.length_append]; simp
  · have h1 := h.le
    rw [List.length_append]
    rw [hlen] at hmo
    show ((R.length + 1 : Nat) : Int) ≤ mo
    omega

def SrPost (cs : List (List Ins)) (m0 : Mk) (mo : Int) (R : List Mk) (c : Nat) (P : List Mk → Prop) : SpEnd × Sp → Prop
  | (.go, S') => ∃ R', R <+: R' ∧ Srch cs m0 mo S' R' c ∧ P R'
  | (.fault x, S') => ∃ R' c', R <+: R' ∧ Srch cs m0 mo S' R' c' ∧ ∃ m ∈ R', ∃ n : Nat, x = (keyOf cs.length m, (n : Int)) ∧ (m.turnO cs n).1 = 0 ∧ 0 < (m.turnO cs n).2.faults
  | (.bound, _) => True

theorem okN_zero {k : Nat} (h : okN k = 0) : k ≠ 0 := fun e => by rw [e] at h; cases h
theorem okN_one {k : Nat} (h : ¬ okN k = 0) : k = 0 := by
  unfold okN at h
  split at h
  · assumption
  · exact absurd rfl h
theorem spreadO_srch {cs : List (List Ins)} {m0 : Mk} {mo : Int} {m : Mk} {c : Nat} : ∀ (k n : Nat) {S : Sp} {R : List Mk}, Srch cs m0 mo S R (c + 1) → R[c]? = some m → (∀ i, i < n → Tried cs R m i) →
    SrPost cs m0 mo R (c + 1) (fun R' => ∀ i, i < n + k → Tried cs R' m i) (spreadO cs mo m k n S)
  | 0, n, S, R, h, hm, ht => ⟨R, List.prefix_refl _, h, ht⟩
  | k + 1, n, S, R, h, hm, ht => by
    by_cases ho : okN (m.turnO cs n).1 = 0
    · rw [spreadO_err ho]
      have := spreadO_srch k (n + 1) h hm (fun i hi => by
        by_cases e : i = n
        · subst e; exact .inl (okN_zero ho)
        · exact ht i (by omega))
      rwa [show n + (k + 1) = n + 1 + k by omega]
    · have h0 := okN_one ho
      by_cases hf : 0 < (m.turnO cs n).2.faults
      · rw [spreadO_fault ho hf]
        exact ⟨R, c + 1, List.prefix_refl _, h, m, List.mem_of_getElem? hm, n, rfl, h0, hf⟩
      · rw [spreadO_add ho hf]
        unfold addSp
        cases hin : keyIn S.E (keyOf cs.length (m.turnO cs n).2) with
        | true =>
          rw [if_pos rfl]
          have := spreadO_srch k (n + 1) h hm (fun i hi => by
            by_cases e : i = n
            · subst e; exact .inr ⟨by omega, (keyIn_srch h _).1 hin⟩
            · exact ht i (by omega))
          rw [show n + (k + 1) = n + 1 + k by omega]
          exact this
        | false =>
          rw [if_neg (by decide)]
          by_cases hmo : (S.E.length : Int) = mo
          · rw [if_pos hmo]; exact trivial
          · rw [if_neg hmo]
            have hp : R <+: R ++ [(m.turnO cs n).2] := List.prefix_append _ _
            have hlt := (List.getElem?_eq_some_iff.1 hm).1
            have h2 := h.add (j := c) (n := n) (m := m) (m' := (m.turnO cs n).2) hm (by rw [← h0]) (by omega) hin hmo
            have := spreadO_srch k (n + 1) h2 (by rw [pre_get hp hlt]; exact hm) (fun i hi => by
              by_cases e : i = n
              · subst e; exact .inr ⟨by omega, _, List.mem_append_right _ (by simp), rfl⟩
              · exact (ht i (by omega)).mono hp)
            rw [show n + (k + 1) = n + 1 + k by omega]
            show SrPost cs m0 mo R (c + 1) (fun R' => ∀ i, i < n + 1 + k → Tried cs R' m i) (spreadO cs mo m k (n + 1) ⟨S.E ++ [(keyOf cs.length (m.turnO cs n).2, (keyOf cs.length m, (n : Int)))], S.ms ++ [(m.turnO cs n).2], S.s + 1, endN S.e (endTo cs (m.turnO cs n).2 cs.length), S.L ++ [(m.turnO cs n).2]⟩)
            revert this
            generalize spreadO cs mo m k (n + 1) _ = r
            obtain ⟨e, S'⟩ := r
            cases e with
            | go => rintro ⟨R', g1, g2, g3⟩; exact ⟨R', hp.trans g1, g2, g3⟩
            | bound => exact fun _ => trivial
            | fault x => rintro ⟨R', c', g1, g2, g3⟩; exact ⟨R', c', hp.trans g1, g2, g3⟩
theorem searchO_srch {cs : List (List Ins)} {m0 : Mk} {mo : Int} {N : Nat} : ∀ (f : Nat) {S : Sp} {R : List Mk} {c : Nat}, Srch cs m0 mo S R c → Closed cs R c N →
    match searchO cs mo N f S with
    | (.go, S') => ∃ R' c', Srch cs m0 mo S' R' c' ∧ Closed cs R' c' N
    | (.fault x, S') => ∃ R' c', Srch cs m0 mo S' R' c' ∧ ∃ m ∈ R', ∃ n : Nat, x = (keyOf cs.length m, (n : Int)) ∧ (m.turnO cs n).1 = 0 ∧ 0 < (m.turnO cs n).2.faults
    | (.bound, _) => True
  | 0, S, R, c, h, hc => ⟨R, c, h, hc⟩
  | f + 1, S, R, c, h, hc => by
    cases hms : S.ms with
    | nil =>
      have e : searchO cs mo N (f + 1) S = (.go, S) := by
        obtain ⟨E, ms, s, e, L⟩ := S
        dsimp only at hms
        subst hms
        rfl
      rw [e]
      exact ⟨R, c, h, hc⟩
    | cons m l =>
      rw [searchO_cons hms]
      have hd : R.drop c = m :: l := by rw [← h.ms]; exact hms
      have hlt : c < R.length := by
        have := congrArg List.length hd
        rw [List.length_drop, List.length_cons] at this; omega
      have hm : R[c]? = some m := by
        have h1 : (R.drop c)[0]? = some m := by rw [hd]; rfl
        rw [List.getElem?_drop] at h1
        exact h1
      have hl : l = R.drop (c + 1) := by
        have h1 : (R.drop c).drop 1 = l := by rw [hd]; rfl
        rw [← h1, List.drop_drop]
      have h' : Srch cs m0 mo { S with ms := l } R (c + 1) := ⟨h.keys, hl, hlt, h.first, h.once, h.by', h.good, h.rch, h.s, h.le⟩
      have hs := spreadO_srch N 0 h' hm (fun i hi => absurd hi (by omega))
      revert hs
      generalize spreadO cs mo m N 0 { S with ms := l } = r
      obtain ⟨e, S'⟩ := r
      cases e with
      | bound => exact fun _ => trivial
      | fault x => rintro ⟨R', c', g1, g2, g3⟩; exact ⟨R', c', g2, g3⟩
      | go =>
        rintro ⟨R', g1, g2, g3⟩
        refine searchO_srch f g2 (fun j x hj hx n hn => ?_)
        by_cases e : j = c
        · subst e
          rw [pre_get g1 hlt, hm] at hx
          cases hx
          exact g3 n (by omega)
        · exact hc.mono g1 (by omega) j x (by omega) hx n hn
theorem first_srch {cs : List (List Ins)} {m0 : Mk} {mo : Int} (h : 1 ≤ mo) (hf : m0.faults = 0) : Srch cs m0 mo (firstS cs m0) [m0] 0 := by
  refine ⟨rfl, rfl, Nat.zero_le _, ⟨rfl, rfl⟩, fun i j m m' hi hj _ => ?_, fun i h0 hi => ?_, fun m hm => ?_, fun i m hi => ?_, rfl, by show ((1 : Nat) : Int) ≤ mo; omega⟩
  · have := (List.getElem?_eq_some_iff.1 hi).1
    have := (List.getElem?_eq_some_iff.1 hj).1
    simp at *
    omega
  · have hi : i < 1 := hi
    omega
  · obtain rfl : m = m0 := by simpa using hm
    exact hf
  · have h1 := (List.getElem?_eq_some_iff.1 hi).1
    have h1 : i < 1 := h1
    obtain rfl : i = 0 := by omega
    obtain rfl : m0 = m := by simpa using hi
    exact ⟨0, Nat.le_refl _, .zero⟩

theorem back_run {cs : List (List Ins)} {m0 : Mk} {mo : Int} {S : Sp} {R : List Mk} {c : Nat} (h : Srch cs m0 mo S R c) (hne : ∀ m ∈ R, keyOf cs.length m ≠ ByteArray.empty) {y : ByteArray × Int} {l : List Int} (hb : Back S.E y l) :
    ∀ (i : Nat) m k, R[i]? = some m → S.E[i]? = some (k, y) → m0.runO cs l.reverse = (l.length, m) ∧ l.length ≤ i := by
  induction hb with
  | first n =>
    intro i m k hm hE
    by_cases hi : 0 < i
    · obtain ⟨j, n', x, x', g1, g2, g3, g4, -⟩ := h.by' i hi (List.getElem?_eq_some_iff.1 hm).1
      rw [hE] at g4
      have e : ByteArray.empty = keyOf cs.length x := by
        have := Option.some.inj g4
        exact congrArg (fun z : ByteArray × ByteArray × Int => z.2.1) this
      exact absurd e.symm (hne x (List.mem_of_getElem? g2))
    · obtain rfl : i = 0 := by omega
      rw [h.first.1] at hm
      cases hm
      exact ⟨rfl, Nat.le_refl _⟩
  | step n hk hin hb ih =>
    rename_i k0 y0 l0
    intro i m k hm hE
    by_cases hi : 0 < i
    · obtain ⟨j, n', x, x', g1, g2, g3, g4, g5⟩ := h.by' i hi (List.getElem?_eq_some_iff.1 hm).1
      rw [hE] at g4
      rw [hm] at g3
      cases g3
      have hz := Option.some.inj g4
      have e1 : k0 = keyOf cs.length x := congrArg (fun z : ByteArray × ByteArray × Int => z.2.1) hz
      have e2 : n = (n' : Int) := congrArg (fun z : ByteArray × ByteArray × Int => z.2.2) hz
      subst e2
      obtain ⟨j', hj'⟩ := List.mem_iff_getElem?.1 hin
      obtain ⟨x2, hx2, hk2⟩ := h.key hj'
      have ej : j' = j := h.once j' j x2 x hx2 g2 (by rw [← hk2, ← e1])
      subst ej
      obtain ⟨hr, hle⟩ := ih j' x k0 g2 hj'
      refine ⟨?_, by rw [List.length_cons]; omega⟩
      rw [List.reverse_cons, Mk.runO_snoc, hr, g5, List.length_cons]
      rfl
    · obtain rfl : i = 0 := by omega
      rw [h.first.2] at hE
      have e : ByteArray.empty = k0 := by
        have := Option.some.inj hE
        exact congrArg (fun z : ByteArray × ByteArray × Int => z.2.1) this
      exact absurd e.symm hk
theorem back_fault {cs : List (List Ins)} {m0 : Mk} {mo : Int} {S : Sp} {R : List Mk} {c : Nat} (h : Srch cs m0 mo S R c) (hne : ∀ m ∈ R, keyOf cs.length m ≠ ByteArray.empty) {m : Mk} (hm : m ∈ R) {n : Nat} {l : List Int} (hb : Back S.E (keyOf cs.length m, (n : Int)) l) :
    ∃ l0, l = (n : Int) :: l0 ∧ m0.runO cs l0.reverse = (l0.length, m) ∧ l0.length < R.length := by
  have hk := hne m hm
  generalize hy : (keyOf cs.length m, (n : Int)) = y at hb
  cases hb with
  | first n' => exact absurd (congrArg Prod.fst hy) hk
  | step n' h1 h2 h3 =>
    rename_i k0 y0 l0
    cases hy
    obtain ⟨i, hi⟩ := List.mem_iff_getElem?.1 hm
    obtain ⟨j, hj⟩ := List.mem_iff_getElem?.1 h2
    obtain ⟨x, hx, hkx⟩ := h.key hj
    obtain rfl : j = i := h.once j i x m hx hi hkx.symm
    obtain ⟨g1, g2⟩ := back_run h hne h3 j m _ hi hj
    have := (List.getElem?_eq_some_iff.1 hi).1
    exact ⟨l0, rfl, g1, by omega⟩

theorem closed_run {cs : List (List Ins)} {m0 : Mk} {mo : Int} {S : Sp} {R : List Mk} {K : Nat} (h : Srch cs m0 mo S R R.length) (hc : Closed cs R R.length (2 * cs.length)) (h0 : MkOk cs.length K m0) (hl : LnOk m0.mem) (hg : GivenOk m0.mem.ar) (hR : Right cs) (hmo : mo ≤ 60000) (hK : K ≤ 1000) :
    ∀ (l : List Int) (m : Mk), (∃ r ∈ R, Sim cs.length m r) → (m.runO cs l).2.faults = 0
  | [], m, ⟨r, hr, hs⟩ => by
    show m.faults = 0
    rw [hs.faults]; exact h.good r hr
  | k :: l, m, ⟨r, hr, hs⟩ => by
    refine closed_run h hc h0 hl hg hR hmo hK l (m.turnO cs k).2 ?_
    have hn : 0 < cs.length := hR.some'
    have h1 : 0 ≤ k % (2 * (cs.length : Int)) := Int.emod_nonneg _ (by omega)
    have h2 : k % (2 * (cs.length : Int)) < 2 * (cs.length : Int) := Int.emod_lt_of_pos _ (by omega)
    obtain ⟨n, hnk⟩ : ∃ n : Nat, (n : Int) = k % (2 * (cs.length : Int)) := ⟨_, Int.toNat_of_nonneg h1⟩
    have em : m.turnO cs k = m.turnO cs (n : Int) := by rw [hnk, turnO_mod]
    rw [em]
    obtain ⟨i, hi⟩ := List.mem_iff_getElem?.1 hr
    obtain ⟨t1, t2⟩ := hs.turnO hR (n : Int)
    rcases hc i r (List.getElem?_eq_some_iff.1 hi).1 hi n (by omega) with ht | ⟨hf, r', hr', hk'⟩
    · rw [turnO_stays (by rw [t1]; exact ht)]
      exact ⟨r, hr, hs⟩
    · obtain ⟨i', hi'⟩ := List.mem_iff_getElem?.1 hr'
      obtain ⟨d, hd, hrc⟩ := h.rch i r hi
      obtain ⟨d', hd', hrc'⟩ := h.rch i' r' hi'
      have := (List.getElem?_eq_some_iff.1 hi).1
      have := (List.getElem?_eq_some_iff.1 hi').1
      have := h.le
      exact ⟨r', hr', t2.trans ((hrc.turn n).sim hrc' h0 hl hg hR (by omega) (by omega) hk'.symm (by rw [hf, h.good r' hr']))⟩

theorem srch_ne {cs : List (List Ins)} {m0 : Mk} {mo : Int} {S : Sp} {R : List Mk} {c K : Nat} (h : Srch cs m0 mo S R c) (h0 : MkOk cs.length K m0) (hl : LnOk m0.mem) (hR : Right cs) (hmo : mo ≤ 60000) (hK : K ≤ 1000) : ∀ m ∈ R, keyOf cs.length m ≠ ByteArray.empty := fun m hm => by
  obtain ⟨i, hi⟩ := List.mem_iff_getElem?.1 hm
  obtain ⟨d, hd, hr⟩ := h.rch i m hi
  have := (List.getElem?_eq_some_iff.1 hi).1
  have := h.le
  exact (hr.key h0 hl hR (by omega)).2
theorem told_go {cs : List (List Ins)} {m0 : Mk} {mo : Int} {f K : Nat} {S : Sp} (h0 : MkOk cs.length K m0) (hl : LnOk m0.mem) (hg : GivenOk m0.mem.ar) (hR : Right cs) (hf : m0.faults = 0) (hmo : 1 ≤ mo ∧ mo ≤ 60000) (hK : K ≤ 1000)
    (h : searchO cs mo (2 * cs.length) f (firstS cs m0) = (.go, S)) (hm : S.ms = []) (l : List Int) : (m0.runO cs l).2.faults = 0 := by
  have hs := searchO_srch (N := 2 * cs.length) f (first_srch (cs := cs) hmo.1 hf) (c := 0) (fun j _ hj => absurd hj (by omega))
  rw [h] at hs
  obtain ⟨R, c, h1, h2⟩ := hs
  have hc : c = R.length := by
    have e := h1.ms
    rw [hm] at e
    have := congrArg List.length e
    rw [List.length_drop, List.length_nil] at this
    have := h1.cnt
    omega
  subst hc
  exact closed_run h1 h2 h0 hl hg hR hmo.2 hK l m0 ⟨m0, List.mem_of_getElem? h1.first.1, Sim.refl h0.thr⟩
theorem told_fault {cs : List (List Ins)} {m0 : Mk} {mo : Int} {f K : Nat} {S : Sp} {x : ByteArray × Int} {l : List Int} (h0 : MkOk cs.length K m0) (hl : LnOk m0.mem) (hR : Right cs) (hf : m0.faults = 0) (hmo : 1 ≤ mo ∧ mo ≤ 60000) (hK : K ≤ 1000)
    (h : searchO cs mo (2 * cs.length) f (firstS cs m0) = (.fault x, S)) (hb : Back S.E x l) :
    ∃ (n : Int) (L : List Int), l.reverse = L ++ [n] ∧ (L.length : Int) < mo ∧ (m0.runO cs L).1 = L.length ∧ (m0.runO cs L).2.faults = 0 ∧ ((m0.runO cs L).2.runO cs [n]).1 = 1 ∧ 0 < ((m0.runO cs L).2.runO cs [n]).2.faults := by
  have hs := searchO_srch (N := 2 * cs.length) f (first_srch (cs := cs) hmo.1 hf) (c := 0) (fun j _ hj => absurd hj (by omega))
  rw [h] at hs
  obtain ⟨R, c, h1, m, hm, n, rfl, h2, h3⟩ := hs
  obtain ⟨l0, rfl, g1, g2⟩ := back_fault h1 (srch_ne h1 h0 hl hR hmo.2 hK) hm hb
  have := h1.le
  refine ⟨n, l0.reverse, by rw [List.reverse_cons], by rw [List.length_reverse]; omega, by rw [g1, List.length_reverse], by rw [g1]; exact h1.good m hm, ?_, ?_⟩
  · rw [g1]
    show okN (m.turnO cs n).1 + 0 = 1
    rw [h2]; rfl
  · rw [g1]; exact h3
end Go.Proofs.YtnnlkolhahjokaaGreatDoor

/- SpL -/
namespace Go.Proofs.YtnnlkolhahjokaaGreatDoor
open Go.RowKit

def labelAtB (l : List Ins) (to : List UInt8) : Option Nat := l.findIdx? (fun x => (bl x.op == [108, 97, 98, 101, 108]) && (bl x.to == to))
theorem labelAt_B (l : List Ins) (to : ByteArray) : labelAt l to = match labelAtB l (bl to) with
    | some j => (j : Int)
    | none => -1 := by
  unfold labelAt labelAtB
  rw [show (fun x => setsLabel x to) = (fun x => (bl x.op == [108, 97, 98, 101, 108]) && (bl x.to == bl to)) from funext fun x => by unfold setsLabel; rw [toList_bl, toList_bl, toList_bl]]
  rfl
def nameB (l : List UInt8) : Bool := decide (1 ≤ l.length) && (decide (l.length ≤ 12) && (List.range l.length).all fun j => nameOk j (l.getD j 0).toNat)
theorem nameB_is {s : ByteArray} (h : nameB (bl s) = true) : isName s := by
  unfold nameB at h
  simp only [Bool.and_eq_true, decide_eq_true_eq, List.all_eq_true, List.mem_range] at h
  obtain ⟨h1, h2, h3⟩ := h
  have hz : s.size = (bl s).length := size_bl s
  refine ⟨by omega, by omega, fun j hj => ?_⟩
  have := h3 j (by omega)
  rw [List.getD_eq_getElem?_getD, List.getElem?_eq_getElem (by omega)] at this
  exact this
def shapeGood (x : Ins) (l : List UInt8) : Bool :=
  ((lab ⟨l.toArray⟩ l.length || (bl x.to == [])) && (!(lab ⟨l.toArray⟩ l.length) || nameB (bl x.to))) &&
  (List.range 3).all fun k => if k < cnt ⟨l.toArray⟩ l.length then decide (0 ≤ x.n k ∧ x.n k < mostOf (byteAt ⟨l.toArray⟩ k)) else decide (x.n k = 0)
def insGood (L : List Ins) (i : Nat) (x : Ins) : Bool := match shape (bl x.op) with
  | none => false
  | some l => shapeGood x l && ((!(bl x.op == [108, 97, 98, 101, 108]) || labelAtB L (bl x.to) == some i) && ((bl x.to == []) || (labelAtB L (bl x.to)).isSome))
theorem insGood_is {L : List Ins} {i : Nat} {x : Ins} (h : insGood L i x = true) : insFault L i x = 0 := by
  unfold insGood at h
  cases hs : shape (bl x.op) with
  | none => rw [hs] at h; cases h
  | some l =>
    rw [hs] at h
    simp only [Bool.and_eq_true] at h
    obtain ⟨h1, h2, h3⟩ := h
    unfold shapeGood at h1
    simp only [Bool.and_eq_true, List.all_eq_true, List.mem_range] at h1
    obtain ⟨⟨g1, g2⟩, g3⟩ := h1
    have hsz : (⟨l.toArray⟩ : ByteArray).size = l.length := by simp [ByteArray.size]
    have he : insErr x = 0 := by
      unfold insErr
      rw [toList_bl, hs]
      show insBad x ⟨l.toArray⟩ = 0
      unfold insBad
      rw [hsz, if_neg, if_neg, if_neg, if_neg]
      · rintro ⟨e1, e2⟩
        rw [e1] at g2
        exact e2 (nameB_is (by simpa using g2))
      · rintro ⟨k, hk, e⟩
        have := cnt_le ⟨l.toArray⟩ l.length
        have hl := shape_le hs
        have g := g3 k (by omega)
        rw [if_pos hk] at g
        exact e (by simpa using g)
      · rintro ⟨k, hk, hk3, e⟩
        have g := g3 k hk3
        rw [if_neg (by omega)] at g
        exact e (by simpa using g)
      · rintro ⟨e1, e2⟩
        rw [e1, Bool.false_or] at g1
        rw [toList_bl] at e2
        exact e2 (by simpa using g1)
    unfold insFault
    rw [if_neg (by rw [he]; simp), if_neg, if_neg]
    · rintro ⟨e1, e2⟩
      rw [toList_bl] at e1
      rw [e1, Bool.false_or] at h3
      rw [labelAt_B] at e2
      cases hb : labelAtB L (bl x.to) with
      | none => rw [hb] at h3; cases h3
      | some j => rw [hb] at e2; exact absurd e2 (by simp)
    · rintro ⟨e1, e2⟩
      rw [toList_bl] at e1
      rw [e1, Bool.not_true, Bool.false_or] at h2
      rw [labelAt_B, show labelAtB L (bl x.to) = some i by simpa using h2] at e2
      exact e2 rfl
def codeGood (L : List Ins) : Bool := decide (L.length ≤ 2000) && (List.range L.length).all fun i => match L[i]? with
  | none => true
  | some x => insGood L i x
theorem faultFrom_good {L : List Ins} : ∀ (r : List Ins) (j : Nat), (∀ (k : Nat) x, r[k]? = some x → insFault L (j + k) x = 0) → faultFrom L j r = (0, -1)
  | [], _, _ => rfl
  | y :: r, j, h => by
    unfold faultFrom
    rw [if_pos (by simpa using h 0 y rfl)]
    exact faultFrom_good r (j + 1) (fun k x hx => by rw [show j + 1 + k = j + (k + 1) by omega]; exact h (k + 1) x (by simpa using hx))
theorem codeGood_is {L : List Ins} (h : codeGood L = true) : codeFault L = (0, -1) := by
  unfold codeGood at h
  simp only [Bool.and_eq_true, decide_eq_true_eq, List.all_eq_true, List.mem_range] at h
  obtain ⟨h1, h2⟩ := h
  unfold codeFault
  rw [if_neg (by omega)]
  refine faultFrom_good L 0 fun k x hx => insGood_is ?_
  have := h2 k (List.getElem?_eq_some_iff.1 hx).1
  rw [hx] at this
  rw [Nat.zero_add]; exact this
end Go.Proofs.YtnnlkolhahjokaaGreatDoor

/- WlC -/
namespace Go.Proofs.YtnnlkolhahjokaaGreatDoor
open Go.RowKit Go.Extern.Stop Go.Stop Go.Extern Go.Maps Go.WideMaps Go.Sort

def wIns : Ins := ⟨⟨#[99, 111, 110, 115, 116]⟩, 0, 7, 0, ⟨#[]⟩⟩
def wSta : Sta := ⟨1, [], []⟩
def wM0 : Mk := wSta.mach 1
def wM1 : Mk := (wM0.setPc 0 1).setReg 0 0 7
theorem wGood : codeFault [wIns] = (0, -1) := codeGood_is (by decide +kernel)
theorem wFault : (wSta.fault [[wIns]]).1 = 0 := by
  unfold Sta.fault
  rw [if_pos ⟨by decide, by decide, by decide, by decide, by decide⟩]
  rw [codesFrom_none _ 0 fun t L ht => ?_]
  cases t with
  | zero => cases ht; rw [wGood]
  | succ t => cases ht
theorem wDone0 : doneAt [wIns] 0 = false := by
  show (wIns.op.toList == [115, 116, 111, 112]) = false
  rw [toList_bl]; rfl
theorem wTurn0 : wM0.turnO [[wIns]] ((0 : Nat) : Int) = (0, wM1) := by
  show (if doneAt [wIns] 0 = true then (9, wM0) else (0, wM0.step [wIns] 0)) = _
  rw [wDone0, if_neg (by decide)]
  show (0, (wM0.setPc 0 1).exec [wIns] 0 wIns) = _
  rw [exec_const _ _ _ rfl]
  rfl
theorem wTurn1 : wM0.turnO [[wIns]] ((1 : Nat) : Int) = (5, wM0) := rfl
theorem wTurn2 : wM1.turnO [[wIns]] ((0 : Nat) : Int) = (9, wM1) := rfl
theorem wTurn3 : wM1.turnO [[wIns]] ((1 : Nat) : Int) = (5, wM1) := rfl
theorem wNums0 : mkNums 1 wM0 = [0, 0, 0, 0, 0, 0, 0, 0, 0, 0, 0] := rfl
theorem wNums1 : mkNums 1 wM1 = [0, 0, 7, 0, 0, 0, 0, 0, 0, 0, 1] := rfl
theorem wKey : keyOf 1 wM1 ≠ keyOf 1 wM0 := fun e => by
  have := keyOf_inj (by rw [wNums1]; decide) (by rw [wNums0]; decide) e
  rw [wNums0, wNums1] at this
  exact absurd this (by decide)
def wS2 : Sp := ⟨[(keyOf 1 wM0, (ByteArray.empty, 0)), (keyOf 1 wM1, (keyOf 1 wM0, 0))], [], 2, 1, [wM0, wM1]⟩
theorem wEnd0 : endTo [[wIns]] wM0 1 = false := by
  show (doneAt [wIns] 0 && true && true) = false
  rw [wDone0]; rfl
theorem wEnd1 : endTo [[wIns]] wM1 1 = true := rfl
theorem wSpread0 : spreadO [[wIns]] 5 wM0 2 0 ⟨[(keyOf 1 wM0, (ByteArray.empty, 0))], [], 1, 0, [wM0]⟩ = (.go, { wS2 with ms := [wM1] }) := by
  rw [spreadO_add (by rw [wTurn0]; decide) (by rw [wTurn0]; decide), wTurn0]
  have e : addSp [[wIns]] 5 ⟨[(keyOf 1 wM0, (ByteArray.empty, 0))], [], 1, 0, [wM0]⟩ wM1 (keyOf 1 wM0, ((0 : Nat) : Int)) = some { wS2 with ms := [wM1] } := by
    have hk : keyIn [(keyOf 1 wM0, (ByteArray.empty, (0 : Int)))] (keyOf 1 wM1) = false := by
      unfold keyIn
      rw [List.any_cons, List.any_nil, Bool.or_false, beq_eq_false_iff_ne, toList_bl, toList_bl]
      exact fun e => wKey (bl_inj e).symm
    unfold addSp
    show (if keyIn [(keyOf 1 wM0, (ByteArray.empty, (0 : Int)))] (keyOf 1 wM1) = true then some _ else if ((1 : Nat) : Int) = 5 then none else some (Sp.mk _ _ _ (endN 0 (endTo [[wIns]] wM1 1)) _)) = _
    rw [hk, if_neg (by decide), if_neg (by decide), wEnd1]
    rfl
  show (match addSp [[wIns]] 5 ⟨[(keyOf 1 wM0, (ByteArray.empty, 0))], [], 1, 0, [wM0]⟩ wM1 (keyOf 1 wM0, ((0 : Nat) : Int)) with | none => (SpEnd.bound, _) | some S' => spreadO [[wIns]] 5 wM0 1 1 S') = _
  rw [e]
  show spreadO [[wIns]] 5 wM0 1 1 _ = _
  rw [spreadO_err (by rw [wTurn1]; decide)]
  rfl
theorem wSpread1 : spreadO [[wIns]] 5 wM1 2 0 wS2 = (.go, wS2) := by
  rw [spreadO_err (by rw [wTurn2]; decide), spreadO_err (by rw [wTurn3]; decide)]
  rfl
theorem wFirst : firstS [[wIns]] wM0 = ⟨[(keyOf 1 wM0, (ByteArray.empty, 0))], [wM0], 1, 0, [wM0]⟩ := by
  unfold firstS
  rw [show endTo [[wIns]] wM0 ([[wIns]] : List (List Ins)).length = false from wEnd0]
  rfl
theorem wSearch (f : Nat) : (f < 2 ∧ ∃ S, searchO [[wIns]] 5 2 f (firstS [[wIns]] wM0) = (.go, S) ∧ S.ms ≠ []) ∨ searchO [[wIns]] 5 2 f (firstS [[wIns]] wM0) = (.go, wS2) := by
  have h1 : ∀ f, searchO [[wIns]] 5 2 (f + 1) (firstS [[wIns]] wM0) = searchO [[wIns]] 5 2 f { wS2 with ms := [wM1] } := fun f => by
    rw [searchO_cons (m := wM0) (l := []) (by rw [wFirst]), wFirst]
    show (match spreadO [[wIns]] 5 wM0 2 0 ⟨[(keyOf 1 wM0, (ByteArray.empty, 0))], [], 1, 0, [wM0]⟩ with | (.go, S') => searchO [[wIns]] 5 2 f S' | r => r) = _
    rw [wSpread0]
  have h2 : ∀ f, searchO [[wIns]] 5 2 (f + 1) { wS2 with ms := [wM1] } = searchO [[wIns]] 5 2 f wS2 := fun f => by
    rw [searchO_cons (m := wM1) (l := []) rfl]
    show (match spreadO [[wIns]] 5 wM1 2 0 wS2 with | (.go, S') => searchO [[wIns]] 5 2 f S' | r => r) = _
    rw [wSpread1]
  match f with
  | 0 => exact .inl ⟨by decide, _, rfl, by rw [wFirst]; simp⟩
  | 1 => exact .inl ⟨by decide, { wS2 with ms := [wM1] }, by rw [h1]; rfl, by simp⟩
  | f + 2 =>
    refine .inr ?_
    rw [h1, h2]
    cases f <;> rfl
theorem wAll {a : Nat → Addr} {w w' : World} {e : Ending} (h : AllPost a [[wIns]] wM0 5 w e w') : Below w.heap.size w w' ∧ e = .returned (.tuple #[toldV 2 1 false (.slice none 0 0), .nilIface]) := by
  obtain ⟨hb, f, S, h⟩ := h
  refine ⟨hb, ?_⟩
  rcases h with ⟨h1, h2, h3⟩ | ⟨h1, -⟩ | ⟨x, l, h1, -⟩
  · have h1 : searchO [[wIns]] 5 2 f (firstS [[wIns]] wM0) = (.go, S) := h1
    rcases wSearch f with ⟨-, S', g1, g2⟩ | g1
    · rw [g1] at h1; cases h1; exact absurd h2 g2
    · rw [g1] at h1; cases h1; exact h3
  · have h1 : searchO [[wIns]] 5 2 f (firstS [[wIns]] wM0) = (.bound, S) := h1
    rcases wSearch f with ⟨-, S', g1, g2⟩ | g1
    · rw [g1] at h1; cases h1
    · rw [g1] at h1; cases h1
  · have h1 : searchO [[wIns]] 5 2 f (firstS [[wIns]] wM0) = (.fault x, S) := h1
    rcases wSearch f with ⟨-, S', g1, g2⟩ | g1
    · rw [g1] at h1; cases h1
    · rw [g1] at h1; cases h1

theorem wIns_at (w : World) : insAt (some ⟨w.heap.size, 0, none⟩) [wIns] (w.alloc (.cells #[.string ⟨#[99, 111, 110, 115, 116]⟩, .int .i64 0, .int .i64 7, .int .i64 0, .string ⟨#[]⟩] 44)) := by
  intro i x hx
  cases i with
  | zero =>
    cases hx
    refine ⟨w.heap.size, 0, rfl, ?_, ?_, ?_, ?_, ?_⟩ <;> (rw [World.cell?_alloc_new]; rfl)
  | succ i => cases hx
theorem wCodes (w : World) (B : Obj) (hB : B = .cells #[.slice (some ⟨w.heap.size, 0, none⟩) 1 1] 45) : codesAt (some ⟨w.heap.size + 1, 0, none⟩) [[wIns]] ((w.alloc (.cells #[.string ⟨#[99, 111, 110, 115, 116]⟩, .int .i64 0, .int .i64 7, .int .i64 0, .string ⟨#[]⟩] 44)).alloc B) := by
  subst hB
  intro t L ht
  cases t with
  | zero =>
    cases ht
    refine ⟨w.heap.size + 1, 0, some ⟨w.heap.size, 0, none⟩, 1, rfl, ?_, Nat.le_refl _, insAt_below (wIns_at w) ((Below.refl _ _).alloc (Nat.le_refl _) _), fun e => by cases e⟩
    have := World.cell?_alloc_new (w.alloc (.cells #[.string ⟨#[99, 111, 110, 115, 116]⟩, .int .i64 0, .int .i64 7, .int .i64 0, .string ⟨#[]⟩] 44)) #[.slice (some ⟨w.heap.size, 0, none⟩) 1 1] 45 0
    rw [World.size_alloc] at this
    exact this
  | succ t => cases ht

set_option maxRecDepth 100000 in
set_option maxHeartbeats 2000000 in
theorem ways_any {a : Nat → Addr} {w : World} (hE : Env a w) : Calls Tryz.prog 5 #[] w fun e w' => e = .returned (.bool true) ∧ Below w.heap.size w w' := by
  obtain ⟨W2, hW2⟩ : ∃ W2, W2 = (w.alloc (.cells #[.string ⟨#[99, 111, 110, 115, 116]⟩, .int .i64 0, .int .i64 7, .int .i64 0, .string ⟨#[]⟩] 44)).alloc (.cells #[.slice (some ⟨w.heap.size, 0, none⟩) 1 1] 45) := ⟨_, rfl⟩
  have b2 : Below w.heap.size w W2 := by rw [hW2]; exact ((Below.refl _ _).alloc (Nat.le_refl _) _).alloc (by simp) _
  have hs : StaAt wSta ⟨none, 0, none, 0⟩ W2 := ⟨fun i row h => by simp [wSta] at h, fun i row h => by simp [wSta] at h, Nat.le_refl _, Nat.le_refl _, Nat.zero_le _, Nat.zero_le _, fun i row h => by simp [wSta] at h, fun i row h => by simp [wSta] at h⟩
  have HA := hide (all_search (s := wSta) (ai := none) (ar := none) (ci := 0) (cr := 0) (ad := some ⟨w.heap.size + 1, 0, none⟩) (cap := 1) (cs := [[wIns]]) (w := W2) 5 (hE.below b2.block) hs (by rw [hW2]; exact wCodes w _ rfl) (fun t L ht i x hx => by
    match t, ht with
    | 0, ht =>
      cases ht
      match i, hx with
      | 0, hx => cases hx; decide
      | n + 1, hx => simp at hx) wFault (by decide))
  clear hE hs
  go_enter Tryz.func5, Tryz.ntmps5
  go_wp2_with fail
  rw [← hW2]
  clear hW2
  refine HA.out.mono ?_
  rintro e w3 hp
  obtain ⟨hb3, rfl⟩ := wAll hp.out
  have hb := below_step b2 hb3
  clear HA hp hb3 b2
  unfold toldV
  go_wp2_with fail
  go_ret
  exact ⟨rfl, hb.alloc hb.size _⟩
end Go.Proofs.YtnnlkolhahjokaaGreatDoor
