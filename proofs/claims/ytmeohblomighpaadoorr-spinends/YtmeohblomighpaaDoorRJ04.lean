import Derived.Test.YtmeohblomighpaaDoorRJ03

/- ArenaC -/
namespace Go.Proofs.YtmeohblomighpaaDoorR
open Go.RowKit Go.Extern.Stop Go.Stop Go.Extern

def Ar.give (s : Ar) (c : Nat) : Ar := { s with words := fun j i => if j = c ∧ i < 4 then 0 else s.words j i, there := fun j => if j = c then true else s.there j, given := fun j => if j = c then s.given c + 1 else s.given j }

def Ar.setGiven (s : Ar) (c : Nat) (g : Nat) : Ar := { s with given := fun j => if j = c then g else s.given j }

theorem ArAt.setGiven {b o : Nat} {s : Ar} {w : World} (h : ArAt b o s w) (c : Nat) (hc : c < 64) (g : Nat) (hg : g < 4611686018427387904) : ArAt b o (s.setGiven c g) (w.setCell ⟨b, o + 321 + c, none⟩ (.int .i64 g)) where
  small := h.small
  size := h.other h.size (by omega)
  words j k hj hk := h.other (h.words j k hj hk) (by omega)
  range := h.range
  there j hj := h.other (h.there j hj) (by omega)
  given j hj := by
    by_cases e : j = c
    · subst e
      simp only [Ar.setGiven, if_true]
      exact World.cell?_setCell_same _ _ _ (h.given j hj)
    · simp only [Ar.setGiven, if_neg e]
      exact h.other (h.given j hj) (by omega)
  bound j := by
    simp only [Ar.setGiven]
    split
    · exact hg
    · exact h.bound j
  frozen k hk := by rw [World.frozen?_setCell]; exact h.frozen k hk

theorem Ar.give_eq (s : Ar) (n : Nat) : (((((s.setWord n 0 0).setWord n 1 0).setWord n 2 0).setWord n 3 0).setThere n true).setGiven n (s.given n + 1) = s.give n := by
  simp only [Ar.setGiven, Ar.setThere, Ar.setWord, Ar.give, Ar.mk.injEq, true_and, and_true]
  funext j i
  by_cases hj : j = n
  · subst hj
    by_cases h4 : i < 4
    · match i, h4 with
      | 0, _ => simp
      | 1, _ => simp
      | 2, _ => simp
      | 3, _ => simp
    · rw [if_neg (fun h => by omega), if_neg (fun h => by omega), if_neg (fun h => by omega), if_neg (fun h => by omega), if_neg (fun h => by omega)]
  · rw [if_neg (fun h => hj h.1), if_neg (fun h => hj h.1), if_neg (fun h => hj h.1), if_neg (fun h => hj h.1), if_neg (fun h => hj h.1)]

end Go.Proofs.YtmeohblomighpaaDoorR

/- RWord -/
namespace Go.Proofs.YtmeohblomighpaaDoorR
open Go.RowKit Go.Extern.Stop Go.Stop Go.Extern

theorem isWordR_any (k : Int) (w : World) :
    Calls Tryd.prog 39 #[.int .i64 k] w fun e w' => e = .returned (.bool (decide (0 ≤ k ∧ k < 4294967296))) ∧ w' = w := by
  by_cases h1 : 0 ≤ k
  · by_cases h2 : k < 4294967296
    · rw [decide_eq_true ⟨h1, h2⟩]
      go_enter Tryd.func39, Tryd.ntmps39
      go_wp2
      go_ret
      exact ⟨rfl, rfl⟩
    · rw [decide_eq_false (fun h => h2 h.2)]
      go_enter Tryd.func39, Tryd.ntmps39
      go_wp2
      go_ret
      exact ⟨rfl, rfl⟩
  · rw [decide_eq_false (fun h => h1 h.1)]
    go_enter Tryd.func39, Tryd.ntmps39
    go_wp2
    go_ret
    exact ⟨rfl, rfl⟩
end Go.Proofs.YtmeohblomighpaaDoorR
