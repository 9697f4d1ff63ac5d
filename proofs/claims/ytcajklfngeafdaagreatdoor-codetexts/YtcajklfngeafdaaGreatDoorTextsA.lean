/- package code's Text of code that has a fault; the law's helper instrs by a contract. -/
import Derived.Test.YtcajklfngeafdaaGreatDoorFaultR
import Derived.Test.YtcajklfngeafdaaGreatDoorSents
namespace Go.Proofs.YtcajklfngeafdaaGreatDoor
open Go.RowKit Go.Extern.Stop Go.Stop Go.Extern Go.Maps Go.WideMaps

set_option maxRecDepth 20000 in
set_option maxHeartbeats 2000000 in
theorem textBad_any (a : Nat → Addr) (ad : Option Addr) (cap : Nat) (l : List Ins) (w : World) (hE : EnvX a w) (hsz : ∀ (i : Nat) x, l[i]? = some x → x.to.size ≤ maxLen) (hl : insAt ad l w) (hbad : (codeFault l).1 ≠ 0) :
    Calls Tryz.prog 7 #[.slice ad l.length cap] w fun e w' => (∃ v, e = .returned (.tuple #[.string ⟨#[]⟩, v]) ∧ errIs a (codeFault l) v w' w.heap.size) ∧ Below w.heap.size w w' := by
  have HC := hide (pcheck_any a ad cap l w hE.e hsz hl)
  clear hl
  go_enter Tryz.func7, Tryz.ntmps7
  go_wp2_with fail
  refine HC.out.mono ?_
  rintro e w1 ⟨v, rfl, hv, hb1⟩
  clear HC
  rcases hv with ⟨h0, rfl⟩ | ⟨h0, h1, rfl⟩ | ⟨h0, j, N, h1, h2, rfl, h3, h4⟩
  · exact absurd h0 hbad
  · obtain ⟨c, hc⟩ : ∃ c, (codeFault l).1 = c + 1 := ⟨(codeFault l).1 - 1, by omega⟩
    rw [hc, show xval a (c + 1) = xerr (a c) from rfl]
    go_wp2_with fail
    go_ret2
    exact ⟨⟨_, rfl, .inr (.inl ⟨h0, h1, by rw [hc]; rfl⟩)⟩, hb1⟩
  · go_wp2_with fail
    go_ret2
    exact ⟨⟨_, rfl, .inr (.inr ⟨h0, j, N, h1, h2, rfl, h3, h4⟩)⟩, hb1⟩

set_option maxRecDepth 20000 in
theorem instrs_any (ad : Option Addr) (cap : Nat) (l : List Ins) (w : World) (hl : insAt ad l w) (hc : ad = none → cap = 0) (hb : l.length * 56 ≤ 140737488355328) :
    Calls Tryz.prog 8 #[.slice ad l.length cap] w fun e w' => ∃ ad' cap', e = .returned (.slice ad' l.length cap') ∧ insAt ad' l w' ∧ Below w.heap.size w w' := by
  obtain ⟨ri, hri, hrz, hrs, hrb⟩ := insInfo
  have hown : w.ownsRow w.heap.size 25 5 (.slice none 0 0) 0 [] := ownsRow_nil _ _ _ _
  cases ad with
  | none =>
    have hl0 : l = [] := by
      cases l with
      | nil => rfl
      | cons x r => obtain ⟨b, off, h, _⟩ := hl 0 x rfl; cases h
    subst hl0
    rw [hc rfl]
    go_enter Tryz.func8, Tryz.ntmps8
    go_wp2_with fail
    go_ret
    exact ⟨none, ⟨0, rfl⟩, fun i x hx => by simp at hx, Below.refl _ _⟩
  | some p =>
    have hnews : ∀ j u, (insCells l)[j]? = some u → w.cell? (p.add j) = some u := by
      intro n u hu
      have hn := (List.getElem?_eq_some_iff.1 hu).1
      rw [insCells_len] at hn
      obtain ⟨x, hx⟩ : ∃ x, l[n / 5]? = some x := ⟨_, List.getElem?_eq_getElem (by omega)⟩
      have h := insCells_at l (n / 5) (n % 5) x hx (Nat.mod_lt _ (by decide))
      rw [show n / 5 * 5 + n % 5 = n by omega, hu] at h
      obtain ⟨b, off, e, a0, a1, a2, a3, a4⟩ := hl (n / 5) x hx
      cases e
      rw [add_plain _ rfl]
      show w.cell? ⟨b, off + n, none⟩ = some u
      rcases (by omega : n % 5 = 0 ∨ n % 5 = 1 ∨ n % 5 = 2 ∨ n % 5 = 3 ∨ n % 5 = 4) with e | e | e | e | e <;> rw [e] at h <;> cases h
      · rw [show off + n = off + n / 5 * 5 by omega]; exact a0
      · rw [show off + n = off + n / 5 * 5 + 1 by omega]; exact a1
      · rw [show off + n = off + n / 5 * 5 + 2 by omega]; exact a2
      · rw [show off + n = off + n / 5 * 5 + 3 by omega]; exact a3
      · rw [show off + n = off + n / 5 * 5 + 4 by omega]; exact a4
    have h1 : ∀ u ∈ insCells l, u.oneCell' = true := by
      intro u hu
      obtain ⟨x, _, hx⟩ := List.mem_flatMap.1 hu
      simp at hx
      rcases hx with rfl | rfl | rfl | rfl | rfl <;> rfl
    go_enter Tryz.func8, Tryz.ntmps8
    go_wp2_with (first
      | (at_builtin; refine wpList_append_own_at _ rfl _ _ 22 rfl w.heap.size 25 ri (.agg #[.string ⟨#[]⟩, .int .i64 0, .int .i64 0, .int .i64 0, .string ⟨#[]⟩]) 5 56 Tryz.underlying22 hri hrz hrs hrb rfl (by decide) _ _ _ rfl hown p l.length cap (insCells l) rfl (insCells_len l) hnews h1 ?p3 ?p4 ?p5 ?_))
    case p3 => unfold maxLen; omega
    case p4 => omega
    case p5 => exact Nat.le_refl _
    intro v' w6 hown6 hg6 hnil hloc
    have B6 : Below w.heap.size w w6 := (Below.refl _ _).grown hg6 (Nat.le_refl _) (fun k hk => by cases hk)
    obtain ⟨ad', cap', rfl, HI⟩ : ∃ ad' cap', v' = .slice ad' l.length cap' ∧ insAt ad' l w6 := by
      rcases hown6.2 with ⟨h1, h2⟩ | ⟨g, cap, cur, h1, _⟩
      · exact ⟨none, 0, by rw [h1, h2], fun i x hx => by rw [List.length_eq_zero_iff.1 h2] at hx; simp at hx⟩
      · exact ⟨_, cap, h1, by subst h1; exact insAt_of_row hown6⟩
    clear hown6 hg6 hnil hloc hnews h1 hown hri hrz hrs hrb
    go_wp2_with fail
    go_ret
    exact ⟨ad', cap', rfl, HI, B6⟩
end Go.Proofs.YtcajklfngeafdaaGreatDoor
