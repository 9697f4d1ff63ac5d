/- Plain Lean: what is cut of a row of bytes, and joined again; lines. No program. -/
import Derived.Lib.Split
import Derived.Lib.IndexBytes
import Derived.Lib.Join
namespace Go.Proofs.YtcajklfngeafdaaDoor
open Go.Lib

/-- A row's pieces between the bytes c. -/
def cutL (c : UInt8) : List UInt8 → List (List UInt8)
  | [] => [[]]
  | x :: r => if x = c then [] :: cutL c r else match cutL c r with
    | [] => [[x]]
    | h :: t => (x :: h) :: t

theorem cutL_ne (c : UInt8) : ∀ l, cutL c l ≠ []
  | [] => by simp [cutL]
  | x :: r => by
    unfold cutL
    split
    · simp
    · split <;> simp
theorem cutL_nil (c : UInt8) : cutL c [] = [[]] := rfl
theorem cutL_hit (c : UInt8) (r : List UInt8) : cutL c (c :: r) = [] :: cutL c r := by rw [cutL, if_pos rfl]
theorem cutL_miss {c x : UInt8} (h : x ≠ c) (r p : List UInt8) (q : List (List UInt8)) (hr : cutL c r = p :: q) : cutL c (x :: r) = (x :: p) :: q := by rw [cutL, if_neg h, hr]
theorem cutL_shape (c : UInt8) (l : List UInt8) : ∃ p q, cutL c l = p :: q := by
  match h : cutL c l with
  | [] => exact absurd h (cutL_ne c l)
  | p :: q => exact ⟨p, q, rfl⟩

theorem cutL_join (c : UInt8) : ∀ l, Lib.join (cutL c l) [c] = l
  | [] => by rw [cutL_nil, join_one]
  | x :: r => by
    obtain ⟨p, q, hp⟩ := cutL_shape c r
    have ih := cutL_join c r
    rw [hp, join_cons] at ih
    by_cases h : x = c
    · subst h
      rw [cutL_hit, hp, join_cons]
      simp only [joinTail, List.map_cons, List.flatten_cons, List.nil_append, List.cons_append] at ih ⊢
      rw [ih]
    · rw [cutL_miss h r p q hp, join_cons, List.cons_append, ih]

theorem cutL_free {c : UInt8} : ∀ {l : List UInt8}, c ∉ l → cutL c l = [l]
  | [], _ => rfl
  | x :: r, h => by
    have h1 : x ≠ c := fun e => h (by simp [e])
    have h2 : c ∉ r := fun e => h (by simp [e])
    exact cutL_miss h1 r r [] (cutL_free h2)

theorem cutL_app {c : UInt8} (r : List UInt8) : ∀ {p : List UInt8}, c ∉ p → cutL c (p ++ c :: r) = p :: cutL c r
  | [], _ => cutL_hit c r
  | x :: p, h => by
    have h1 : x ≠ c := fun e => h (by simp [e])
    have h2 : c ∉ p := fun e => h (by simp [e])
    exact cutL_miss h1 _ p _ (cutL_app r h2)

/-- Pieces without the byte come back. -/
theorem cutL_of_join {c : UInt8} : ∀ {ps : List (List UInt8)}, ps ≠ [] → (∀ p ∈ ps, c ∉ p) → cutL c (Lib.join ps [c]) = ps
  | [], h, _ => absurd rfl h
  | [p], _, h => by rw [join_one]; exact cutL_free (h p (by simp))
  | p :: y :: r, _, h => by
    have ih := cutL_of_join (ps := y :: r) (by simp) (fun z hz => h z (by simp [hz]))
    have e : Lib.join (p :: y :: r) [c] = p ++ c :: Lib.join (y :: r) [c] := by
      rw [join_cons, join_cons]; simp [joinTail]
    rw [e, cutL_app _ (h p (by simp)), ih]

theorem cutL_none {c : UInt8} : ∀ {l : List UInt8} {p : List UInt8}, p ∈ cutL c l → c ∉ p
  | [], p, h => by simp [cutL] at h; subst h; simp
  | x :: r, p, h => by
    obtain ⟨a, q, ha⟩ := cutL_shape c r
    by_cases e : x = c
    · subst e
      rw [cutL_hit] at h
      rcases List.mem_cons.1 h with rfl | h
      · simp
      · exact cutL_none h
    · rw [cutL_miss e r a q ha] at h
      rcases List.mem_cons.1 h with rfl | h
      · have := cutL_none (l := r) (p := a) (by rw [ha]; simp)
        simp [this, Ne.symm e]
      · exact cutL_none (l := r) (by rw [ha]; simp [h])

theorem not_mem_of_get {c : UInt8} {l : List UInt8} (h : ∀ k : Nat, l[k]? ≠ some c) : c ∉ l := fun hm => by
  obtain ⟨k, hk, e⟩ := List.getElem_of_mem hm
  exact h k (by rw [List.getElem?_eq_getElem hk, e])

theorem split_at {c : UInt8} {l : List UInt8} {i : Nat} (h : indexByte l c = i) : c ∉ l.take i ∧ l = l.take i ++ c :: l.drop (i + 1) := by
  obtain ⟨h1, h2⟩ := indexByte_some h
  obtain ⟨hl, he⟩ := List.getElem?_eq_some_iff.1 h1
  refine ⟨not_mem_of_get (fun k e => ?_), ?_⟩
  · rcases Nat.lt_or_ge k i with hk | hk
    · rw [List.getElem?_take_of_lt hk] at e; exact h2 k hk e
    · rw [List.getElem?_eq_none (by simp; omega)] at e; cases e
  · conv => lhs; rw [← List.take_append_drop i l, List.drop_eq_getElem_cons hl, he]

theorem splitK_cutL (c : UInt8) : ∀ (n : Nat) (l : List UInt8), l.length ≤ n → splitK [c] 0 (count l [c]) l = cutL c l := by
  intro n
  induction n with
  | zero =>
    intro l hl
    obtain rfl : l = [] := List.length_eq_zero_iff.1 (by omega)
    rfl
  | succ n ih =>
    intro l hl
    have hge := indexByte_ge l c
    by_cases hm : indexByte l c = -1
    · rw [count_miss (by rw [index_one]; exact hm), splitK, cutL_free (not_mem_of_get (indexByte_none hm))]
    · obtain ⟨i, hi⟩ : ∃ i : Nat, indexByte l c = i := ⟨(indexByte l c).toNat, by omega⟩
      have hidx : index l [c] = i := by rw [index_one]; exact hi
      obtain ⟨s1, s2⟩ := split_at hi
      have hlt : i < l.length := (List.getElem?_eq_some_iff.1 (indexByte_some hi).1).1
      rw [count_hit (by simp) hidx, Nat.add_comm 1, splitK, if_neg (by rw [hidx]; simp), hidx]
      have e1 : ((i : Nat) : Int).toNat = i := by omega
      rw [e1, Nat.add_zero, List.length_singleton, ih _ (by rw [List.length_drop]; omega)]
      conv => rhs; rw [s2, cutL_app _ s1]

/-- strings.Split at one byte. -/
theorem splitB_cutL (s : ByteArray) (c : UInt8) : (splitB ⟨#[c]⟩ 0 (countB s ⟨#[c]⟩) s).map (·.data.toList) = cutL c s.data.toList := by
  rw [splitB_data]
  exact splitK_cutL c _ _ (Nat.le_refl _)

/-- A text's lines, as strings.Lines and TrimSuffix give them. -/
def linesL : Nat → List UInt8 → List (List UInt8)
  | 0, _ => []
  | n + 1, l => if l = [] then [] else if indexByte l 10 = -1 then [l] else l.take (indexByte l 10).toNat :: linesL n (l.drop ((indexByte l 10).toNat + 1))
/-- A text without its last byte 10. -/
def strip (l : List UInt8) : List UInt8 := if l.getLast? = some 10 then l.dropLast else l

theorem strip_app {p : List UInt8} (x : UInt8) {r : List UInt8} (hr : r ≠ []) : strip (p ++ x :: r) = p ++ x :: strip r := by
  obtain ⟨y, q, rfl⟩ := List.exists_cons_of_ne_nil hr
  unfold strip
  have e : (p ++ x :: y :: q).getLast? = (y :: q).getLast? := by
    simp [List.getLast?_append, List.getLast?_cons]
  rw [e]
  split
  · rw [List.dropLast_append_of_ne_nil (by simp)]; rfl
  · rfl

theorem linesL_cut : ∀ (n : Nat) (l : List UInt8), l.length ≤ n → l ≠ [] → linesL n l = cutL 10 (strip l) := by
  intro n
  induction n with
  | zero => intro l hl h; exact absurd (List.length_eq_zero_iff.1 (by omega)) h
  | succ n ih =>
    intro l hl hne
    have hge := indexByte_ge l 10
    unfold linesL
    rw [if_neg hne]
    by_cases hm : indexByte l 10 = -1
    · have hf := not_mem_of_get (indexByte_none hm)
      rw [if_pos hm]
      have : strip l = l := by
        unfold strip
        rw [if_neg (fun e => hf (List.mem_of_getLast? e))]
      rw [this, cutL_free hf]
    · obtain ⟨i, hi⟩ : ∃ i : Nat, indexByte l 10 = i := ⟨(indexByte l 10).toNat, by omega⟩
      obtain ⟨s1, s2⟩ := split_at hi
      have hlt : i < l.length := (List.getElem?_eq_some_iff.1 (indexByte_some hi).1).1
      have e1 : ((i : Nat) : Int).toNat = i := by omega
      rw [if_neg hm, hi, e1]
      by_cases hd : l.drop (i + 1) = []
      · rw [hd] at s2 ⊢
        have hs : strip l = l.take i := by
          unfold strip
          rw [if_pos (by rw [s2]; simp)]
          conv => lhs; rw [s2]
          simp
        rw [hs, cutL_free s1]
        cases n <;> simp [linesL]
      · rw [ih _ (by rw [List.length_drop]; omega) hd]
        have hs : strip l = l.take i ++ 10 :: strip (l.drop (i + 1)) := by
          conv => lhs; rw [s2]
          exact strip_app 10 hd
        rw [hs, cutL_app _ s1]
end Go.Proofs.YtcajklfngeafdaaDoor
