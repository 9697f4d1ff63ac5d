/- Plain Lean: code's text: what is written is read, and what is read is written so. No program. -/
import Derived.Test.YtcajklfngeafdaaDoorPureC
namespace Go.Proofs.YtcajklfngeafdaaDoor
open Go.RowKit Go.Lib

theorem range_ext {r : List ByteArray} {m : Nat} {to : Bool} (hr : r.length = m + (if to then 1 else 0)) (f : Nat → List UInt8) (hf : ∀ k, k < m → f k = bl (r.getD k ⟨#[]⟩)) (t : ByteArray) (ht : to = true → t = r.getD m ⟨#[]⟩) :
    (List.range m).map f ++ (if to then [bl t] else []) = r.map bl := by
  apply List.ext_getElem
  · simp [hr]; cases to <;> simp
  · intro k h1 h2
    have h2' : k < r.length := by simpa using h2
    rw [List.getElem_map]
    rcases Nat.lt_or_ge k m with hk | hk
    · rw [List.getElem_append_left (by simpa using hk), List.getElem_map, List.getElem_range, hf k hk, List.getD_eq_getElem?_getD, List.getElem?_eq_getElem h2']
      rfl
    · cases to with
      | false => simp at hr; omega
      | true =>
        simp at hr
        obtain rfl : k = m := by omega
        rw [List.getElem_append_right (by simp)]
        simp [ht rfl, List.getD_eq_getElem?_getD, List.getElem?_eq_getElem h2']

/-- What is read is written so. -/
theorem parts_of_read {ps : List ByteArray} {x : Ins} (h : readIns ps = some x) : partsOf x = ps.map bl ∧ ∃ S, shape x.op.toList = some S := by
  match ps, h with
  | op :: r, h =>
    rw [readIns_cons] at h
    cases hS : shape op.toList with
    | none => rw [hS] at h; cases h
    | some S =>
      rw [hS] at h
      dsimp only at h
      split at h
      · rename_i hc
        cases h
        obtain ⟨hl, hn⟩ := hc
        obtain ⟨⟨f1, f2⟩, -, -⟩ := table_facts _ (shape_mem hS)
        dsimp only at f1 f2
        refine ⟨?_, S, hS⟩
        unfold partsOf
        dsimp only
        rw [hS]
        dsimp only
        rw [List.map_cons]
        congr 1
        have hn' : ∀ k, k < nums S → (numL (bl (r.getD k ⟨#[]⟩))).isSome = true := fun k hk => List.all_eq_true.1 hn k (List.mem_range.2 hk)
        refine range_ext (by omega) _ (fun k hk => ?_) _ (fun ht => by rw [ht]; rfl)
        have hs := hn' k hk
        obtain ⟨u, hu⟩ := Option.isSome_iff_exists.1 hs
        have e : (Ins.n ⟨op, numOn r (nums S) 0, numOn r (nums S) 1, numOn r (nums S) 2, if hasTo S then r.getD (nums S) ⟨#[]⟩ else ⟨#[]⟩⟩ k) = numOn r (nums S) k := by
          have : k < 3 := by omega
          match k, this with
          | 0, _ => rfl
          | 1, _ => rfl
          | 2, _ => rfl
        rw [e, numOn, if_pos hk, hu]
        exact digits_of_num hu
      · cases h

/-- An instruction that its shape allows. -/
structure Fits (x : Ins) (S : List UInt8) : Prop where
  shape : shape x.op.toList = some S
  num : ∀ k, k < nums S → 0 ≤ x.n k ∧ x.n k < 10000000000
  zero : ∀ k, k < 3 → nums S ≤ k → x.n k = 0
  to : hasTo S = false → x.to = ⟨#[]⟩

/-- What is written is read. -/
theorem read_of_parts {ps : List ByteArray} {x : Ins} {S : List UInt8} (hF : Fits x S) (h : ps.map bl = partsOf x) : readIns ps = some x := by
  obtain ⟨⟨f1, f2⟩, -, -⟩ := table_facts _ (shape_mem hF.shape)
  dsimp only at f1 f2
  unfold partsOf at h
  rw [hF.shape] at h
  dsimp only at h
  match ps, h with
  | op :: r, h =>
    rw [List.map_cons] at h
    obtain ⟨h1, h2⟩ := List.cons.inj h
    have ho : op = x.op := bl_inj h1
    subst ho
    have hl : r.length = S.length := by
      have := congrArg List.length h2
      simp at this
      rw [this]
      cases hh : hasTo S <;> simp [hh] at f1 ⊢ <;> omega
    have hk : ∀ k, k < nums S → bl (r.getD k ⟨#[]⟩) = decDigits (x.n k).toNat := fun k hk => by
      have hlt : k < r.length := by omega
      have := congrArg (fun l => l[k]?) h2
      simp only [List.getElem?_map] at this
      rw [List.getElem?_append_left (by simpa using hk), List.getElem?_map, List.getElem?_range hk, List.getElem?_eq_getElem hlt] at this
      simp only [Option.map_some, Option.some.injEq] at this
      rw [List.getD_eq_getElem?_getD, List.getElem?_eq_getElem hlt]
      exact this
    have hn : ∀ k, k < nums S → numL (bl (r.getD k ⟨#[]⟩)) = some (x.n k).toNat := fun k hk' => by
      rw [hk k hk']
      exact numL_digits (by have := hF.num k hk'; omega)
    have hnum : ∀ k, k < 3 → numOn r (nums S) k = x.n k := fun k h3 => by
      unfold numOn
      by_cases hk' : k < nums S
      · rw [if_pos hk', hn k hk']
        have := hF.num k hk'
        simp; omega
      · rw [if_neg hk', hF.zero k h3 (by omega)]
    have hto : (if hasTo S then r.getD (nums S) ⟨#[]⟩ else ⟨#[]⟩) = x.to := by
      cases hh : hasTo S with
      | false => simp [hF.to hh]
      | true =>
        rw [hh] at f1 h2
        simp at f1
        have hlt : nums S < r.length := by omega
        have := congrArg (fun l => l[nums S]?) h2
        simp only [List.getElem?_map] at this
        rw [List.getElem?_append_right (by simp), List.getElem?_eq_getElem hlt] at this
        simp at this
        rw [if_pos rfl, List.getD_eq_getElem?_getD, List.getElem?_eq_getElem hlt]
        exact ByteArray.ext this
    rw [readIns_cons, hF.shape]
    dsimp only
    rw [if_pos ⟨hl, List.all_eq_true.2 (fun k hk' => by rw [hn k (List.mem_range.1 hk')]; rfl)⟩, hnum 0 (by omega), hnum 1 (by omega), hnum 2 (by omega), hto]
    cases x
    rfl

theorem digits_free (c : UInt8) (hc : c.toNat < 48) (u : Nat) : c ∉ decDigits u := by
  induction u using Nat.strongRecOn with
  | _ u ih =>
    rw [decDigits]
    have h0 : ∀ d, d < 10 → c ≠ UInt8.ofNat (48 + d) := fun d hd e => by
      have := congrArg UInt8.toNat e
      simp at this
      omega
    by_cases h : u < 10
    · rw [dif_pos h]
      simpa using h0 u h
    · rw [dif_neg h]
      intro hm
      rcases List.mem_append.1 hm with hm | hm
      · exact ih (u / 10) (by omega) hm
      · exact h0 (u % 10) (by omega) (by simpa using hm)

theorem name_free {s : ByteArray} (h : isName s) (c : UInt8) (hc : c.toNat < 46) : c ∉ bl s := by
  intro hm
  obtain ⟨j, hj, e⟩ := List.getElem_of_mem hm
  have hj' : j < s.size := by rw [size_bl]; exact hj
  have := h.2.2 j hj'
  obtain ⟨h', hb⟩ := byteAt_bl s j hj'
  rw [byteAt_lt hj', e] at hb
  rw [hb] at this
  unfold nameOk at this
  have := of_decide_eq_true this
  omega

theorem parts_free {x : Ins} {S : List UInt8} (hF : Fits x S) (hN : hasTo S = true → isName x.to) : ∀ p ∈ partsOf x, 32 ∉ p ∧ 10 ∉ p := by
  obtain ⟨-, ⟨g1, g2⟩, -⟩ := table_facts _ (shape_mem hF.shape)
  unfold partsOf
  rw [hF.shape]
  dsimp only
  intro p hp
  rcases List.mem_cons.1 hp with rfl | hp
  · rw [← toList_bl]; exact ⟨g1, g2⟩
  · rcases List.mem_append.1 hp with hp | hp
    · obtain ⟨k, _, rfl⟩ := List.mem_map.1 hp
      exact ⟨digits_free _ (by decide) _, digits_free _ (by decide) _⟩
    · cases hh : hasTo S with
      | false => rw [hh] at hp; simp at hp
      | true =>
        rw [hh] at hp
        have : p = bl x.to := by simpa using hp
        subst this
        exact ⟨name_free (hN hh) _ (by decide), name_free (hN hh) _ (by decide)⟩

theorem parts_ne (x : Ins) : partsOf x ≠ [] := by unfold partsOf; simp

/-- An instruction's line, without its end. -/
def lineL (x : Ins) : List UInt8 := Lib.join (partsOf x) [32]
/-- Code's text. -/
def textL (l : List Ins) : List UInt8 := (l.map fun x => lineL x ++ [10]).flatten

theorem join_free {c d : UInt8} (hcd : c ≠ d) : ∀ {ps : List (List UInt8)}, (∀ p ∈ ps, c ∉ p) → c ∉ Lib.join ps [d]
  | [], _ => by rw [join_nil]; simp
  | x :: r, h => by
    rw [join_cons]
    intro hm
    rcases List.mem_append.1 hm with hm | hm
    · exact h x (by simp) hm
    · unfold joinTail at hm
      obtain ⟨q, hq, hc⟩ := List.mem_flatten.1 hm
      obtain ⟨p, hp, rfl⟩ := List.mem_map.1 hq
      rcases List.mem_append.1 hc with hc | hc
      · exact hcd (by simpa using hc)
      · exact h p (by simp [hp]) hc

theorem flat_join : ∀ (ls : List (List UInt8)), ls ≠ [] → (ls.map (· ++ [10])).flatten = Lib.join ls [10] ++ [10]
  | [], h => absurd rfl h
  | [x], _ => by simp [join_one]
  | x :: y :: r, _ => by
    have ih := flat_join (y :: r) (by simp)
    rw [List.map_cons, List.flatten_cons, ih, join_cons, join_cons]
    simp [joinTail]

/-- The lines of a text: without its last byte 10; none of an empty one. -/
def stripB (s : ByteArray) : ByteArray := if byteAt s (s.size - 1) = 10 then s.extract 0 (s.size - 1) else s
def linesOf (s : ByteArray) : List ByteArray := if s.size = 0 then [] else cutS (stripB s) 10

theorem strip_bl (s : ByteArray) (h : s.size ≠ 0) : bl (stripB s) = strip (bl s) := by
  obtain ⟨h', hb⟩ := byteAt_bl s (s.size - 1) (by omega)
  have hl : (bl s).getLast? = some ((bl s)[s.size - 1]'h') := by
    rw [List.getLast?_eq_getElem?, ← size_bl, List.getElem?_eq_getElem h']
  unfold stripB strip
  rw [hb, hl]
  by_cases h10 : (bl s)[s.size - 1] = 10
  · have e1 : ((bl s)[s.size - 1]).toNat = 10 := by rw [h10]; rfl
    rw [if_pos e1, if_pos (by rw [h10])]
    show (s.extract 0 (s.size - 1)).data.toList = _
    rw [extract_data, List.drop_zero, List.dropLast_eq_take, ← size_bl]
    rfl
  · have e1 : ¬ ((bl s)[s.size - 1]).toNat = 10 := fun e => h10 (UInt8.toNat_inj.1 e)
    rw [if_neg e1, if_neg (fun e => h10 (Option.some.inj e))]

theorem linesOf_bl (s : ByteArray) : (linesOf s).map bl = if bl s = [] then [] else cutL 10 (strip (bl s)) := by
  unfold linesOf
  by_cases h : s.size = 0
  · rw [if_pos h, if_pos (List.length_eq_zero_iff.1 (by rw [← size_bl]; exact h))]; rfl
  · rw [if_neg h, if_neg (fun e => h (by rw [size_bl, e]; rfl)), ← strip_bl s h]
    exact cutS_data (stripB s) 10

/-- A line, read. -/
def readLine (ln : ByteArray) : Option Ins := readIns (cutS ln 32)

/-- What is read is written as it was, but for the last byte. -/
theorem text_of_read {s : ByteArray} {l : List Ins} (h : (linesOf s).map readLine = l.map some) : textL l = bl s ∨ textL l = bl s ++ [10] := by
  have hl : l.map lineL = (linesOf s).map bl := by
    apply List.ext_getElem?
    intro k
    have := congrArg (fun z => z[k]?) h
    simp only [List.getElem?_map] at this ⊢
    cases hx : l[k]? with
    | none => rw [hx] at this; cases hy : (linesOf s)[k]? with
      | none => rfl
      | some y => rw [hy] at this; simp at this
    | some x =>
      rw [hx] at this
      cases hy : (linesOf s)[k]? with
      | none => rw [hy] at this; simp at this
      | some ln =>
        rw [hy] at this
        have hr : readLine ln = some x := by simpa using this
        simp only [Option.map_some, Option.some.injEq]
        unfold lineL
        rw [(parts_of_read hr).1]
        have := cutS_data ln 32
        rw [show (32 : UInt8).toNat = 32 from rfl] at this
        rw [this, cutL_join]
  have ht : textL l = ((l.map lineL).map (· ++ [10])).flatten := by unfold textL; rw [List.map_map]; rfl
  rw [ht, hl, linesOf_bl]
  by_cases he : bl s = []
  · rw [if_pos he, he]; exact .inl rfl
  · rw [if_neg he, flat_join _ (cutL_ne _ _), cutL_join]
    unfold strip
    by_cases h10 : (bl s).getLast? = some 10
    · rw [if_pos h10]
      refine .inl ?_
      obtain ⟨hne, e⟩ := List.getLast?_eq_some_iff.1 h10
      rw [e]
      simp
    · rw [if_neg h10]; exact .inr rfl
end Go.Proofs.YtcajklfngeafdaaDoor
