import Derived.Test.YtmeohblomighpaaDoorRJ31
import Derived.Test.YtmeohblomighpaaDoorRJ21
import Derived.Test.YtmeohblomighpaaDoorRJ20

/- RkQ -/
namespace Go.Proofs.YtmeohblomighpaaDoorR
open Go.RowKit Go.Extern.Stop Go.Stop Go.Extern Go.Maps Go.WideMaps Go.Sort

set_option maxRecDepth 20000 in
set_option maxHeartbeats 1000000 in
theorem rturn_any {cs : List (List Ins)} {p : RkPl} {m : Mk} {K : Nat} {w : World} (h : RkX cs p m K w) (n : Int) :
    Calls Tryd.prog 16 #[.pointer (some ⟨p.k, 0, none⟩), .int .i64 n] w fun e w' => e = .returned (.int .i64 (m.turnO cs n).1) ∧ ∃ r v, RkStep cs p m.mem w r v (m.turnO cs n).2 w' := by
  have hp := h.at'.mT
  have h6 := h.at'.few
  have h1 := h.right.some'
  have HM : Hid ((if n.tmod (2 * (cs.length : Int)) < 0 then n.tmod (2 * (cs.length : Int)) + 2 * (cs.length : Int) else n.tmod (2 * (cs.length : Int))) = n % (2 * (cs.length : Int))) := tmod_mod n (by omega)
  have b1 := Int.emod_nonneg n (show (2 * (cs.length : Int)) ≠ 0 by omega)
  have b2 := Int.emod_lt_of_pos n (show 0 < (2 * (cs.length : Int)) by omega)
  have HS : Hid (n % (2 * (cs.length : Int)) < cs.length → Calls Tryd.prog 29 #[.pointer (some ⟨p.k, 0, none⟩), .int .i64 (n % (2 * (cs.length : Int)))] w fun e w' => e = .returned (.int .i64 (m.turnO cs n).1) ∧ Hid (∃ r v, RkStep cs p m.mem w r v (m.turnO cs n).2 w')) := fun hlt => by
    unfold Mk.turnO
    rw [if_pos hlt]
    exact rstepO h _
  have HD : Hid (¬ n % (2 * (cs.length : Int)) < cs.length → Calls Tryd.prog 30 #[.pointer (some ⟨p.k, 0, none⟩), .int .i64 (n % (2 * (cs.length : Int)) - cs.length)] w fun e w' => e = .returned (.int .i64 (m.turnO cs n).1) ∧ Hid (∃ r v, RkStep cs p m.mem w r v (m.turnO cs n).2 w')) := fun hlt => by
    unfold Mk.turnO
    rw [if_neg hlt]
    exact rdrainO h _
  have w2 : IntKind.i64.wrap (2 * (cs.length : Int)) = 2 * (cs.length : Int) := by rw [IntKind.wrap_i64]; omega
  clear h
  generalize (m.turnO cs n).1 = E at *
  generalize (m.turnO cs n).2 = M' at *
  clear HM
  generalize hN : cs.length = N at *
  have HN := hide hN
  clear hN
  obtain ⟨k, hk⟩ : ∃ k : Int, (N : Int) = k := ⟨_, rfl⟩
  have k1 : 1 ≤ k := by omega
  have k2 : k ≤ 6 := by omega
  rw [hk] at HS HD w2 b1 b2
  obtain ⟨r, hr⟩ : ∃ r, n.tmod (2 * k) = r := ⟨_, rfl⟩
  have HMM := tmod_mod n (show 0 < 2 * k by omega)
  rw [hr] at HMM
  obtain ⟨f1, f2, w3, w4⟩ := turn_facts n k (by omega) (by omega) r hr
  have kz : ¬ (2 * k = 0) := by omega
  have k0 : (2 * k == 0) = false := by simp; omega
  have kd : decide (2 * k = 0) = false := by simp; omega
  have kn : ¬ k = 0 := by omega
  clear h6 h1
  by_cases hc : r < 0
  · have hM := HMM
    rw [if_pos hc] at hM
    by_cases hd : n % (2 * k) < k
    · have HS1 := hide (HS.out hd)
      clear HS HD HMM
      rw [← hM] at HS1 hd
      clear hM b1 b2 f1 f2
      go_enter Tryd.func16, Tryd.ntmps16
      go_wp2_with fail
      refine HS1.out.mono ?_
      rintro e w1 ⟨rfl, h2⟩
      go_wp2
      go_ret
      exact ⟨rfl, h2.out⟩
    · have HD1 := hide (HD.out hd)
      clear HS HD HMM
      have w5 : IntKind.i64.wrap (n % (2 * k) - k) = n % (2 * k) - k := by rw [IntKind.wrap_i64]; omega
      rw [← hM] at HD1 hd w5
      clear hM b1 b2 f1 f2
      go_enter Tryd.func16, Tryd.ntmps16
      go_wp2_with fail
      refine HD1.out.mono ?_
      rintro e w1 ⟨rfl, h2⟩
      go_wp2
      go_ret
      exact ⟨rfl, h2.out⟩
  · have hM := HMM
    rw [if_neg hc] at hM
    by_cases hd : n % (2 * k) < k
    · have HS1 := hide (HS.out hd)
      clear HS HD HMM
      rw [← hM] at HS1 hd
      clear hM b1 b2 f1 f2
      go_enter Tryd.func16, Tryd.ntmps16
      go_wp2_with fail
      refine HS1.out.mono ?_
      rintro e w1 ⟨rfl, h2⟩
      go_wp2
      go_ret
      exact ⟨rfl, h2.out⟩
    · have HD1 := hide (HD.out hd)
      clear HS HD HMM
      have w5 : IntKind.i64.wrap (n % (2 * k) - k) = n % (2 * k) - k := by rw [IntKind.wrap_i64]; omega
      rw [← hM] at HD1 hd w5
      clear hM b1 b2 f1 f2
      go_enter Tryd.func16, Tryd.ntmps16
      go_wp2_with fail
      refine HD1.out.mono ?_
      rintro e w1 ⟨rfl, h2⟩
      go_wp2
      go_ret
      exact ⟨rfl, h2.out⟩

def RkRel (cs : List (List Ins)) (p : RkPl) (m : Mk) (K : Nat) (w : World) (ad : Option Addr) (l : List Int) (j : Nat) (wr : World) : Prop :=
  ∃ r v, RkStep cs p m.mem w r v (m.runO cs (l.take j)).2 wr ∧ RkX cs (p.to r v) (m.runO cs (l.take j)).2 (K + j) wr ∧ numsAt ad l wr

theorem RkRel.next {cs : List (List Ins)} {p : RkPl} {m : Mk} {K : Nat} {w : World} {ad : Option Addr} {l : List Int} {j : Nat} {x : Int} {r r' : RmPl} {v v' : Value} {wr w' : World}
    (hx : l[j]? = some x) (k : RkStep cs p m.mem w r v (m.runO cs (l.take j)).2 wr) (h : RkX cs (p.to r v) (m.runO cs (l.take j)).2 (K + j) wr) (hn : numsAt ad l wr)
    (hd : ∀ b off, ad = some ⟨b, off, none⟩ → ¬ (p.to r v).fp cs.length (m.runO cs (l.take j)).2.mem b) (hK : K + l.length ≤ 10000000)
    (k' : RkStep cs (p.to r v) (m.runO cs (l.take j)).2.mem wr r' v' (((m.runO cs (l.take j)).2.turnO cs x)).2 w') : RkRel cs p m K w ad l (j + 1) w' := by
  have hj : j < l.length := (List.getElem?_eq_some_iff.1 hx).1
  have e : l.take (j + 1) = l.take j ++ [x] := by rw [List.take_add_one, hx]; rfl
  unfold RkRel
  rw [e, Mk.runO_snoc]
  exact ⟨r', v', k.trans k', h.of k' (h.ok.turnO h.right x (by omega)) (by omega), hn.turns k'.turns (fun b off o hb => hd b off hb)⟩

end Go.Proofs.YtmeohblomighpaaDoorR

/- StA -/
namespace Go.Proofs.YtmeohblomighpaaDoorR
open Go.RowKit

structure Sta where
  cells : Int
  init : List (List Int)
  regs : List (List Int)

def wordOk (x : Int) : Bool := decide (0 ≤ x ∧ x < 4294967296)
def rowOk (longest : Nat) (row : List Int) : Bool := decide (row.length ≤ longest) && row.all wordOk
def rowsOk (longest : Nat) (R : List (List Int)) : Bool := R.all (rowOk longest)
noncomputable def codesFrom : Nat → List (List Ins) → Nat × Int
  | _, [] => (0, -1)
  | i, L :: cs => if (codeFault L).1 = 0 then codesFrom (i + 1) cs else ((codeFault L).1, i)
def Sta.fits (s : Sta) (n : Nat) : Bool := (decide ((s.init.length : Int) ≤ s.cells) && rowsOk 4 s.init) && (decide (s.regs.length ≤ n) && rowsOk 8 s.regs)
open Classical in
noncomputable def Sta.fault (s : Sta) (cs : List (List Ins)) : Nat × Int :=
  if 1 ≤ s.cells ∧ s.cells ≤ 64 ∧ 1 ≤ cs.length ∧ cs.length ≤ 6 ∧ s.fits cs.length = true then codesFrom 0 cs else (2, -1)

theorem codesFrom_none : ∀ (cs : List (List Ins)) (i : Nat), (∀ (t : Nat) L, cs[t]? = some L → (codeFault L).1 = 0) → codesFrom i cs = (0, -1)
  | [], _, _ => rfl
  | L :: cs, i, h => by
    unfold codesFrom
    rw [if_pos (h 0 L rfl)]
    exact codesFrom_none cs (i + 1) (fun t L' ht => h (t + 1) L' (by simpa using ht))
theorem codesFrom_hit : ∀ (cs : List (List Ins)) (i j : Nat) (L : List Ins), cs[j]? = some L → (codeFault L).1 ≠ 0 → (∀ (t : Nat) L', t < j → cs[t]? = some L' → (codeFault L').1 = 0) → codesFrom i cs = ((codeFault L).1, ((i + j : Nat) : Int))
  | [], _, _, _, h, _, _ => by simp at h
  | M :: cs, i, j, L, hL, h1, h2 => by
    unfold codesFrom
    cases j with
    | zero => simp at hL; subst hL; rw [if_neg h1]; rfl
    | succ j =>
      rw [if_pos (h2 0 M (by omega) rfl), codesFrom_hit cs (i + 1) j L (by simpa using hL) h1 (fun t L' ht hl => h2 (t + 1) L' (by omega) (by simpa using hl))]
      rw [show i + 1 + j = i + (j + 1) by omega]

theorem faultFrom_zero (l : List Ins) : ∀ (r : List Ins) (j : Nat), (faultFrom l j r).1 = 0 → ∀ (k : Nat) x, r[k]? = some x → insFault l (j + k) x = 0
  | [], _, _, k, x, hx => by simp at hx
  | y :: r, j, h, k, x, hx => by
    unfold faultFrom at h
    split at h
    · rename_i h0
      cases k with
      | zero => simp at hx; subst hx; exact h0
      | succ k => rw [show j + (k + 1) = j + 1 + k by omega]; exact faultFrom_zero l r (j + 1) h k x (by simpa using hx)
    · rename_i h0; exact absurd h h0
theorem insOk_of {L : List Ins} {i : Nat} {x : Ins} (h : insFault L i x = 0) : InsOk L x := by
  unfold insFault at h
  split at h
  · rename_i h0; exact absurd h h0
  · rename_i h0
    split at h
    · cases h
    · split at h
      · cases h
      · rename_i h2
        refine ⟨by simpa using h0, fun ht => ?_⟩
        rcases Int.lt_or_le (labelAt L x.to) 0 with h3 | h3
        · exact absurd ⟨ht, h3⟩ h2
        · exact h3
theorem codeFault_right {L : List Ins} (h : (codeFault L).1 = 0) : L.length ≤ 2000 ∧ ∀ (i : Nat) x, L[i]? = some x → InsOk L x := by
  unfold codeFault at h
  split at h
  · cases h
  · rename_i hl
    exact ⟨by omega, fun i x hx => insOk_of (by simpa using faultFrom_zero L L 0 h i x hx)⟩
theorem right_of {cs : List (List Ins)} (h : ∀ (t : Nat) L, cs[t]? = some L → (codeFault L).1 = 0) (h1 : 1 ≤ cs.length) (h6 : cs.length ≤ 6) (hs : ∀ (t : Nat) L, cs[t]? = some L → ∀ (i : Nat) x, L[i]? = some x → x.to.size ≤ maxLen) : Right cs where
  right t L ht := by
    obtain ⟨h2, h3⟩ := codeFault_right (h t L ht)
    exact ⟨h2, fun i x hx => ⟨h3 i x hx, hs t L ht i x hx⟩⟩
  few := h6
  some' := h1

def rowAt (R : List (List Int)) (t r : Nat) : Int := (R.getD t []).getD r 0
def Ar.filled (s : Ar) (R : List (List Int)) : Ar where
  size := s.size
  given c := if c < R.length then 1 else s.given c
  there c := if c < R.length then true else s.there c
  words c k := if c < R.length ∧ k < 4 then rowAt R c k else s.words c k
def Sta.mach (s : Sta) (n : Nat) : Mk where
  mem := { Rm.fresh s.cells.toNat n with ar := (Rm.fresh s.cells.toNat n).ar.filled s.init }
  regs t r := rowAt s.regs t r
  pc _ := 0
  marks := []
  faults := 0
end Go.Proofs.YtmeohblomighpaaDoorR
