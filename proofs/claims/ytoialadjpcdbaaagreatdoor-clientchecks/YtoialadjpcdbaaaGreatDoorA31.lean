import Derived.Test.YtoialadjpcdbaaaGreatDoorA30
import Derived.Test.YtoialadjpcdbaaaGreatDoorA13
import Derived.Test.YtoialadjpcdbaaaGreatDoorA23
import Derived.Test.YtoialadjpcdbaaaGreatDoorA29
import Derived.Laws.IdiomStrings
import Derived.Laws.AppendOwnNone

/- CodeE -/
namespace Go.Proofs.YtoialadjpcdbaaaGreatDoor
open Go.RowKit Go.Extern.Stop Go.Stop Go.Extern
theorem rbare_any (k : Int) (w : World) : Calls Tryz.prog 14 #[.int .i64 k] w fun e w' => e = .returned (.agg #[.int .i64 k, .int .i64 (-1)]) ∧ Below w.heap.size w w' := by
  go_enter Tryz.func14, Tryz.ntmps14
  go_wp2
  refine bodyPost_ret (v := .agg #[.int .i64 k, .int .i64 (-1)]) (by simp only [results, Tryz.results14]; go_simp) rfl ⟨rfl, ?_⟩
  exact (Below.refl _ _).alloc (Nat.le_refl _) _
theorem fine_any (w : World) : Calls Tryz.prog 24 #[] w fun e w' => e = .returned (.agg #[.int .i64 0, .int .i64 (-1)]) ∧ Below w.heap.size w w' := by
  go_enter Tryz.func24, Tryz.ntmps24
  go_wp2
  refine bodyPost_ret (v := .agg #[.int .i64 0, .int .i64 (-1)]) (by simp only [results, Tryz.results24]; go_simp) rfl ⟨rfl, ?_⟩
  exact (Below.refl _ _).alloc (Nat.le_refl _) _

end Go.Proofs.YtoialadjpcdbaaaGreatDoor

/- SpG -/
namespace Go.Proofs.YtoialadjpcdbaaaGreatDoor
open Go.RowKit Go.Extern.Stop Go.Stop Go.Extern Go.Maps Go.WideMaps Go.Sort

theorem insOwn_kept {w w' : World} {base : Nat} {v : Value} {l : List Ins} {ob : Option Nat} (h : insOwn w base v l) (hg : w.grownBy w' ob) (hne : v.ownBlock = none ∨ v.ownBlock ≠ ob) : insOwn w' base v l := World.ownsRow.kept h hg hne

end Go.Proofs.YtoialadjpcdbaaaGreatDoor

/- GdS -/
namespace Go.Proofs.YtoialadjpcdbaaaGreatDoor
open Go.RowKit Go.Extern.Stop Go.Stop Go.Extern Go.Maps Go.WideMaps Go.Sort

theorem run_append_ins {w : World} {base b2 : Nat} {l0 l : List Ins} {v u : Value} (hown : insOwn w base v l0) (hu : insOwn w b2 u l) (h3 : l0.length + l.length ≤ 2000) (hb : base ≤ w.heap.size) (ty : TypeId) :
    ∃ v' w', (Builtin.append_ #[53, 53] ty #[v, u]).run Tryz.prog w = .ok v' w' ∧ insOwn w' base v' (l0 ++ l) ∧ Below base w w' := by
  obtain ⟨ri, hri, hrz, hrs, hrb⟩ := instrInfo
  have hu' := hu
  rcases hu'.2 with ⟨rfl, h0⟩ | ⟨g, cap, cur, rfl, -⟩
  · obtain rfl := List.length_eq_zero_iff.1 h0
    refine ⟨v, w, run_append_owned_none (P := Tryz.prog) (w := w) base 53 ty 113 ri 5 Tryz.underlying53 hri v l0.length (icells l0) hown, ?_, Below.refl _ _⟩
    rw [List.append_nil]; exact hown
  · obtain ⟨v', w', hr, h2, h4, -, -⟩ := run_append_own_at (P := Tryz.prog) (w := w) base 53 ty 113 ri (.agg #[.string ⟨#[]⟩, .int .i64 0, .int .i64 0, .int .i64 0, .string ⟨#[]⟩]) 5 56 Tryz.underlying53 hri hrz hrs hrb rfl (by decide) v l0.length (icells l0) hown ⟨g, 0, none⟩ l.length cap (icells l) (icells_len l) (fun j x hj => by
        have hj5 : j < l.length * 5 := by
          have := (List.getElem?_eq_some_iff.1 hj).1
          rwa [icells_len] at this
        rw [Addr.add_lit, Nat.zero_add]
        exact (World.ownsRow.cellAt hu j hj5).trans hj) icells_one (by unfold maxLen; omega) (by omega) hb
    refine ⟨v', w', hr, ?_, (Below.refl base w).grown h4 hb (fun k hk => (hown.lt k hk).1)⟩
    unfold insOwn
    rw [List.length_append, icells_append]
    exact h2

theorem wpList_append_insO {ops : Array Oper} {rest : List Oper} {o : Oper} {a : Act} (w : World) {Q : Exit → Act → World → Prop} (hgd : o.guard = none) (s x : Operand)
    (ho : o.op = .call { callee := .builtin .append, args := #[s, x], argTypes := #[53, 53] }) (base b2 : Nat) (l0 l : List Ins) (v u : Value)
    (hs : a.eval s = v) (hown : insOwn w base v l0) (hx : a.eval x = u) (hu : insOwn w b2 u l) (h3 : l0.length + l.length ≤ 2000) (hb : base ≤ w.heap.size)
    (h : ∀ v' w', insOwn w' base v' (l0 ++ l) → Below base w w' → wpList Tryz.prog ops Q rest (a.put o.dst v') w') : wpList Tryz.prog ops Q (o :: rest) a w := by
  refine wpList_plain hgd fun K hK => ?_
  obtain ⟨v', w', hr, h4, h5⟩ := run_append_ins hown hu h3 hb o.type
  unfold Oper.wp execOp
  simp only [ho, resolve, invoke, builtin, Sem.run_bind, Sem.run_pure, Result.andThen_ok, List.map_toArray, List.map_cons, List.map_nil, hs, hx, hr]
  exact hK _ _ (h v' w' h4 h5)

end Go.Proofs.YtoialadjpcdbaaaGreatDoor
