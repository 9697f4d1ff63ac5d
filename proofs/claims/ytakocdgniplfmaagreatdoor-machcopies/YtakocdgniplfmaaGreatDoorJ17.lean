import Derived.Lib.Split
import Derived.Lib.IndexBytes
import Derived.Lib.Join
import Derived.Lib.ItoaNum
import Derived.Lib.Atoi

/- PureA -/
namespace Go.Proofs.YtakocdgniplfmaaGreatDoor
open Go.Lib

/-- A row's pieces between the bytes c. -/
def cutL (c : UInt8) : List UInt8 → List (List UInt8)
  | [] => [[]]
  | x :: r => if x = c then [] :: cutL c r else match cutL c r with
    | [] => [[x]]
    | h :: t => (x :: h) :: t

theorem cutL_ne (c : UInt8) : ∀ l, cutL c l ≠ []
  | [] => by simp [cutL]
  | x :: r => by
    unfold cutL
    split
    · simp
    · split <;> simp
theorem cutL_nil (c : UInt8) : cutL c [] = [[]] := rfl
theorem cutL_hit (c : UInt8) (r : List UInt8) : cutL c (c :: r) = [] :: cutL c r := by rw [cutL, if_pos rfl]
theorem cutL_miss {c x : UInt8} (h : x ≠ c) (r p : List UInt8) (q : List (List UInt8)) (hr : cutL c r = p :: q) : cutL c (x :: r) = (x :: p) :: q := by rw [cutL, if_neg h, hr]
theorem cutL_shape (c : UInt8) (l : List UInt8) : ∃ p q, cutL c l = p :: q := by
  match h : cutL c l with
  | [] => exact absurd h (cutL_ne c l)
  | p :: q => exact ⟨p, q, rfl⟩

theorem cutL_join (c : UInt8) : ∀ l, Lib.join (cutL c l) [c] = l
  | [] => by rw [cutL_nil, join_one]
  | x :: r => by
    obtain ⟨p, q, hp⟩ := cutL_shape c r
    have ih := cutL_join c r
    rw [hp, join_cons] at ih
    by_cases h : x = c
    · subst h
      rw [cutL_hit, hp, join_cons]
      simp only [joinTail, List.map_cons, List.flatten_cons, List.nil_append, List.cons_append] at ih ⊢
      rw [ih]
    · rw [cutL_miss h r p q hp, join_cons, List.cons_append, ih]

theorem cutL_free {c : UInt8} : ∀ {l : List UInt8}, c ∉ l → cutL c l = [l]
  | [], _ => rfl
  | x :: r, h => by
    have h1 : x ≠ c := fun e => h (by simp [e])
    have h2 : c ∉ r := fun e => h (by simp [e])
    exact cutL_miss h1 r r [] (cutL_free h2)

theorem cutL_app {c : UInt8} (r : List UInt8) : ∀ {p : List UInt8}, c ∉ p → cutL c (p ++ c :: r) = p :: cutL c r
  | [], _ => cutL_hit c r
  | x :: p, h => by
    have h1 : x ≠ c := fun e => h (by simp [e])
    have h2 : c ∉ p := fun e => h (by simp [e])
    exact cutL_miss h1 _ p _ (cutL_app r h2)

/-- Pieces without the byte come back. -/
theorem cutL_of_join {c : UInt8} : ∀ {ps : List (List UInt8)}, ps ≠ [] → (∀ p ∈ ps, c ∉ p) → cutL c (Lib.join ps [c]) = ps
  | [], h, _ => absurd rfl h
  | [p], _, h => by rw [join_one]; exact cutL_free (h p (by simp))
  | p :: y :: r, _, h => by
    have ih := cutL_of_join (ps := y :: r) (by simp) (fun z hz => h z (by simp [hz]))
    have e : Lib.join (p :: y :: r) [c] = p ++ c :: Lib.join (y :: r) [c] := by
      rw [join_cons, join_cons]; simp [joinTail]
    rw [e, cutL_app _ (h p (by simp)), ih]

theorem cutL_none {c : UInt8} : ∀ {l : List UInt8} {p : List UInt8}, p ∈ cutL c l → c ∉ p
  | [], p, h => by simp [cutL] at h; subst h; simp
  | x :: r, p, h => by
    obtain ⟨a, q, ha⟩ := cutL_shape c r
    by_cases e : x = c
    · subst e
      rw [cutL_hit] at h
      rcases List.mem_cons.1 h with rfl | h
      · simp
      · exact cutL_none h
    · rw [cutL_miss e r a q ha] at h
      rcases List.mem_cons.1 h with rfl | h
      · have := cutL_none (l := r) (p := a) (by rw [ha]; simp)
        simp [this, Ne.symm e]
      · exact cutL_none (l := r) (by rw [ha]; simp [h])

theorem not_mem_of_get {c : UInt8} {l : List UInt8} (h : ∀ k : Nat, l[k]? ≠ some c) : c ∉ l := fun hm => by
  obtain ⟨k, hk, e⟩ := List.getElem_of_mem hm
  exact h k (by rw [List.getElem?_eq_getElem hk, e])

theorem split_at {c : UInt8} {l : List UInt8} {i : Nat} (h : indexByte l c = i) : c ∉ l.take i ∧ l = l.take i ++ c :: l.drop (i + 1) := by
  obtain ⟨h1, h2⟩ := indexByte_some h
  obtain ⟨hl, he⟩ := List.getElem?_eq_some_iff.1 h1
  refine ⟨not_mem_of_get (fun k e => ?_), ?_⟩
  · rcases Nat.lt_or_ge k i with hk | hk
    · rw [List.getElem?_take_of_lt hk] at e; exact h2 k hk e
    · rw [List.getElem?_eq_none (by simp; omega)] at e; cases e
  · conv => lhs; rw [← List.take_append_drop i l, List.drop_eq_getElem_cons hl, he]

theorem splitK_cutL (c : UInt8) : ∀ (n : Nat) (l : List UInt8), l.length ≤ n → splitK [c] 0 (count l [c]) l = cutL c l := by
  intro n
  induction n with
  | zero =>
    intro l hl
    obtain rfl : l = [] := List.length_eq_zero_iff.1 (by omega)
    rfl
  | succ n ih =>
    intro l hl
    have hge := indexByte_ge l c
    by_cases hm : indexByte l c = -1
    · rw [count_miss (by rw [index_one]; exact hm), splitK, cutL_free (not_mem_of_get (indexByte_none hm))]
    · obtain ⟨i, hi⟩ : ∃ i : Nat, indexByte l c = i := ⟨(indexByte l c).toNat, by omega⟩
      have hidx : index l [c] = i := by rw [index_one]; exact hi
      obtain ⟨s1, s2⟩ := split_at hi
      have hlt : i < l.length := (List.getElem?_eq_some_iff.1 (indexByte_some hi).1).1
      rw [count_hit (by simp) hidx, Nat.add_comm 1, splitK, if_neg (by rw [hidx]; simp), hidx]
      have e1 : ((i : Nat) : Int).toNat = i := by omega
      rw [e1, Nat.add_zero, List.length_singleton, ih _ (by rw [List.length_drop]; omega)]
      conv => rhs; rw [s2, cutL_app _ s1]

/-- strings.Split at one byte. -/
theorem splitB_cutL (s : ByteArray) (c : UInt8) : (splitB ⟨#[c]⟩ 0 (countB s ⟨#[c]⟩) s).map (·.data.toList) = cutL c s.data.toList := by
  rw [splitB_data]
  exact splitK_cutL c _ _ (Nat.le_refl _)

/-- A text's lines, as strings.Lines and TrimSuffix give them. -/
def linesL : Nat → List UInt8 → List (List UInt8)
  | 0, _ => []
  | n + 1, l => if l = [] then [] else if indexByte l 10 = -1 then [l] else l.take (indexByte l 10).toNat :: linesL n (l.drop ((indexByte l 10).toNat + 1))
/-- A text without its last byte 10. -/
def strip (l : List UInt8) : List UInt8 := if l.getLast? = some 10 then l.dropLast else l

theorem strip_app {p : List UInt8} (x : UInt8) {r : List UInt8} (hr : r ≠ []) : strip (p ++ x :: r) = p ++ x :: strip r := by
  obtain ⟨y, q, rfl⟩ := List.exists_cons_of_ne_nil hr
  unfold strip
  have e : (p ++ x :: y :: q).getLast? = (y :: q).getLast? := by
    simp [List.getLast?_append, List.getLast?_cons]
  rw [e]
  split
  · rw [List.dropLast_append_of_ne_nil (by simp)]; rfl
  · rfl

theorem linesL_cut : ∀ (n : Nat) (l : List UInt8), l.length ≤ n → l ≠ [] → linesL n l = cutL 10 (strip l) := by
  intro n
  induction n with
  | zero => intro l hl h; exact absurd (List.length_eq_zero_iff.1 (by omega)) h
  | succ n ih =>
    intro l hl hne
    have hge := indexByte_ge l 10
    unfold linesL
    rw [if_neg hne]
    by_cases hm : indexByte l 10 = -1
    · have hf := not_mem_of_get (indexByte_none hm)
      rw [if_pos hm]
      have : strip l = l := by
        unfold strip
        rw [if_neg (fun e => hf (List.mem_of_getLast? e))]
      rw [this, cutL_free hf]
    · obtain ⟨i, hi⟩ : ∃ i : Nat, indexByte l 10 = i := ⟨(indexByte l 10).toNat, by omega⟩
      obtain ⟨s1, s2⟩ := split_at hi
      have hlt : i < l.length := (List.getElem?_eq_some_iff.1 (indexByte_some hi).1).1
      have e1 : ((i : Nat) : Int).toNat = i := by omega
      rw [if_neg hm, hi, e1]
      by_cases hd : l.drop (i + 1) = []
      · rw [hd] at s2 ⊢
        have hs : strip l = l.take i := by
          unfold strip
          rw [if_pos (by rw [s2]; simp)]
          conv => lhs; rw [s2]
          simp
        rw [hs, cutL_free s1]
        cases n <;> simp [linesL]
      · rw [ih _ (by rw [List.length_drop]; omega) hd]
        have hs : strip l = l.take i ++ 10 :: strip (l.drop (i + 1)) := by
          conv => lhs; rw [s2]
          exact strip_app 10 hd
        rw [hs, cutL_app _ s1]
end Go.Proofs.YtakocdgniplfmaaGreatDoor

/- PureB -/
namespace Go.Proofs.YtakocdgniplfmaaGreatDoor
open Go.Lib

/-- The number that a row of bytes spells: decimal digits without needless zeros, at most ten. -/
def numL (l : List UInt8) : Option Nat := if l.length < 1 ∨ 10 < l.length ∨ (1 < l.length ∧ l.head? = some 48) then none else decFrom 0 l

theorem decFrom_snoc (b : UInt8) : ∀ (l : List UInt8) (acc : Nat), decFrom acc (l ++ [b]) = (decFrom acc l).bind fun n => (digitVal b).map fun d => n * 10 + d
  | [], acc => by
    simp only [List.nil_append, decFrom, Option.bind_some]
    cases digitVal b <;> rfl
  | x :: r, acc => by
    simp only [List.cons_append, decFrom]
    cases digitVal x with
    | none => rfl
    | some d => exact decFrom_snoc b r _

theorem digitVal_ofNat {d : Nat} (h : d < 10) : digitVal (UInt8.ofNat (48 + d)) = some d := by
  have e : (UInt8.ofNat (48 + d)).toNat = 48 + d := by simp; omega
  unfold digitVal
  rw [e, if_pos (by omega)]
  simp
theorem digitVal_some {b : UInt8} {d : Nat} (h : digitVal b = some d) : d < 10 ∧ b = UInt8.ofNat (48 + d) := by
  unfold digitVal at h
  split at h
  · cases h
    refine ⟨by omega, ?_⟩
    apply UInt8.toNat_inj.1
    simp
    omega
  · cases h

theorem decFrom_digits (u : Nat) : decFrom 0 (decDigits u) = some u := by
  induction u using Nat.strongRecOn with
  | _ u ih =>
    rw [decDigits]
    by_cases h : u < 10
    · rw [dif_pos h]
      simp only [decFrom, digitVal_ofNat h]
      simp
    · rw [dif_neg h, decFrom_snoc, ih (u / 10) (by omega), digitVal_ofNat (by omega)]
      show some (u / 10 * 10 + u % 10) = some u
      rw [show u / 10 * 10 + u % 10 = u by omega]

theorem digits_len : ∀ (k u : Nat), u < 10 ^ (k + 1) → (decDigits u).length ≤ k + 1
  | 0, u, h => by rw [decDigits, dif_pos (by simpa using h)]; simp
  | k + 1, u, h => by
    rw [decDigits]
    by_cases h10 : u < 10
    · rw [dif_pos h10]; simp
    · rw [dif_neg h10, List.length_append]
      have := digits_len k (u / 10) (by rw [Nat.pow_succ] at h; omega)
      simp; omega

theorem digits_ne (u : Nat) : decDigits u ≠ [] := by
  rw [decDigits]; split <;> simp

theorem digits_head : ∀ (u : Nat), 0 < u → (decDigits u).head? ≠ some 48 := by
  intro u
  induction u using Nat.strongRecOn with
  | _ u ih =>
    intro h0
    rw [decDigits]
    by_cases h : u < 10
    · rw [dif_pos h]
      intro e
      have e : UInt8.ofNat (48 + u) = 48 := by simpa using e
      have := congrArg UInt8.toNat e
      simp at this
      omega
    · rw [dif_neg h]
      have hn := digits_ne (u / 10)
      have := ih (u / 10) (by omega) (by omega)
      rw [List.head?_append]
      cases hd : decDigits (u / 10) with
      | nil => exact absurd hd hn
      | cons x r => rw [hd] at this; simpa using this

theorem numL_digits {u : Nat} (h : u < 10000000000) : numL (decDigits u) = some u := by
  have h1 : 0 < (decDigits u).length := List.length_pos_iff.2 (digits_ne u)
  have h2 := digits_len 9 u (by simpa using h)
  unfold numL
  rw [if_neg, decFrom_digits]
  rintro (h | h | ⟨h, e⟩)
  · omega
  · omega
  · refine digits_head u ?_ e
    rcases Nat.eq_zero_or_pos u with rfl | h0
    · rw [decDigits, dif_pos (by omega)] at h; simp at h
    · exact h0

theorem digits_of_dec : ∀ (n : Nat) (l : List UInt8) (u : Nat), l.length = n + 1 → (1 < l.length → l.head? ≠ some 48) → decFrom 0 l = some u → decDigits u = l := by
  intro n
  induction n with
  | zero =>
    intro l u hl _ h
    obtain ⟨b, rfl⟩ := List.length_eq_one_iff.1 hl
    simp only [decFrom] at h
    cases hd : digitVal b with
    | none => rw [hd] at h; cases h
    | some d =>
      rw [hd] at h
      obtain ⟨h1, h2⟩ := digitVal_some hd
      have : u = d := by simpa using h.symm
      subst this
      rw [decDigits, dif_pos h1, h2]
  | succ n ih =>
    intro l u hl hh h
    have hne : l ≠ [] := fun e => by subst e; simp at hl
    obtain ⟨r, b, rfl⟩ : ∃ r b, l = r ++ [b] := ⟨l.dropLast, l.getLast hne, (List.dropLast_concat_getLast hne).symm⟩
    have hr : r.length = n + 1 := by simpa using hl
    have hrne : r ≠ [] := fun e => by subst e; simp at hr
    have hh := hh (by simp; omega)
    have hh' : r.head? ≠ some 48 := by
      intro e; apply hh
      rw [List.head?_append, e]; rfl
    rw [decFrom_snoc] at h
    cases hv : decFrom 0 r with
    | none => rw [hv] at h; cases h
    | some v =>
      rw [hv] at h
      cases hd : digitVal b with
      | none => rw [hd] at h; cases h
      | some d =>
        rw [hd] at h
        have hu : u = v * 10 + d := by simpa using h.symm
        obtain ⟨h1, h2⟩ := digitVal_some hd
        have hD := ih r v hr (fun _ => hh') hv
        have hv0 : 0 < v := by
          rcases Nat.eq_zero_or_pos v with rfl | h0
          · rw [decDigits, dif_pos (by omega)] at hD
            exact absurd (by rw [← hD]; rfl) hh'
          · exact h0
        rw [decDigits, dif_neg (by omega), show u / 10 = v by omega, show u % 10 = d by omega, hD, h2]

theorem digits_of_num {l : List UInt8} {u : Nat} (h : numL l = some u) : decDigits u = l := by
  unfold numL at h
  split at h
  · cases h
  · rename_i hn
    exact digits_of_dec (l.length - 1) l u (by omega) (fun h1 e => hn (.inr (.inr ⟨h1, e⟩))) h

theorem numL_lt {l : List UInt8} {u : Nat} (h : numL l = some u) : u < 10000000000 := by
  have hd := digits_of_num h
  have hl : l.length ≤ 10 := by
    unfold numL at h
    split at h
    · cases h
    · rename_i hn; omega
  have key : ∀ (k v : Nat), (decDigits v).length ≤ k + 1 → v < 10 ^ (k + 1) := by
    intro k
    induction k with
    | zero =>
      intro v hv
      rw [decDigits] at hv
      split at hv
      · omega
      · have := List.length_pos_iff.2 (digits_ne (v / 10))
        simp at hv; exact absurd hv (digits_ne _)
    | succ k ih =>
      intro v hv
      rw [decDigits] at hv
      split at hv
      · have : 10 ^ 1 ≤ 10 ^ (k + 1 + 1) := Nat.pow_le_pow_right (by decide) (by omega)
        omega
      · have := ih (v / 10) (by simpa using hv)
        rw [Nat.pow_succ]
        omega
  have := key 9 u (by rw [hd]; omega)
  simpa using this

/-- strconv.Atoi and Itoa tell such a number. -/
theorem atoi_of_num {l : List UInt8} {u : Nat} (h : numL l = some u) : atoi l = some (u : Int) ∧ itoa (u : Int) = l := by
  have hd := digits_of_num h
  have hdec : decFrom 0 l = some u := by rw [← hd]; exact decFrom_digits u
  refine ⟨?_, by unfold itoa; rw [if_neg (by omega)]; simpa using hd⟩
  match l, hdec, hd with
  | [], _, hd => exact absurd hd (digits_ne u)
  | b :: r, hdec, _ =>
    have hb : ∃ d, digitVal b = some d := by
      cases e : digitVal b with
      | some d => exact ⟨d, rfl⟩
      | none => simp [decFrom, e] at hdec
    obtain ⟨d, e⟩ := hb
    obtain ⟨h1, h2⟩ := digitVal_some e
    have n1 : (b == 45) = false := by
      rw [beq_eq_false_iff_ne]; rintro rfl; simp [digitVal] at e
    have n2 : (b == 43) = false := by
      rw [beq_eq_false_iff_ne]; rintro rfl; simp [digitVal] at e
    show (if (b == 45) = true then _ else if (b == 43) = true then _ else (decNat (b :: r)).map fun (m : Nat) => (m : Int)) = _
    rw [n1, n2]
    simp only [Bool.false_eq_true, if_false]
    unfold decNat
    rw [if_neg (by simp), hdec]
    rfl

/-- .. and no other. -/
theorem num_of_atoi {l : List UInt8} {n : Int} (hl : l.length ≤ 10) (h0 : 0 ≤ n) (hi : itoa n = l) : numL l = some n.toNat := by
  have hd : decDigits n.toNat = l := by unfold itoa at hi; rw [if_neg (by omega)] at hi; exact hi
  unfold numL
  rw [if_neg, ← hd, decFrom_digits]
  rintro (h1 | h1 | ⟨h1, e⟩)
  · have := List.length_pos_iff.2 (digits_ne n.toNat); rw [hd] at this; omega
  · omega
  · rw [← hd] at e h1
    refine digits_head _ ?_ e
    rcases Nat.eq_zero_or_pos n.toNat with h0 | h0
    · rw [h0, decDigits, dif_pos (by omega)] at h1; simp at h1
    · exact h0
end Go.Proofs.YtakocdgniplfmaaGreatDoor
