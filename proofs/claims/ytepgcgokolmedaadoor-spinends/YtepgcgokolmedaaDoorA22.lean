import Derived.Test.YtepgcgokolmedaaDoorA13
import Derived.Test.YtepgcgokolmedaaDoorA14
import Derived.Laws.AppendOwn
import Derived.Lib.LazyBuf

/- StA -/
namespace Go.Proofs.YtepgcgokolmedaaDoor
open Go.RowKit

structure Sta where
  cells : Int
  init : List (List Int)
  regs : List (List Int)

def wordOk (x : Int) : Bool := decide (0 ≤ x ∧ x < 4294967296)
def rowOk (longest : Nat) (row : List Int) : Bool := decide (row.length ≤ longest) && row.all wordOk
def rowsOk (longest : Nat) (R : List (List Int)) : Bool := R.all (rowOk longest)
noncomputable def codesFrom : Nat → List (List Ins) → Nat × Int
  | _, [] => (0, -1)
  | i, L :: cs => if (codeFault L).1 = 0 then codesFrom (i + 1) cs else ((codeFault L).1, i)
def Sta.fits (s : Sta) (n : Nat) : Bool := (decide ((s.init.length : Int) ≤ s.cells) && rowsOk 4 s.init) && (decide (s.regs.length ≤ n) && rowsOk 8 s.regs)
open Classical in
noncomputable def Sta.fault (s : Sta) (cs : List (List Ins)) : Nat × Int :=
  if 1 ≤ s.cells ∧ s.cells ≤ 64 ∧ 1 ≤ cs.length ∧ cs.length ≤ 6 ∧ s.fits cs.length = true then codesFrom 0 cs else (2, -1)

theorem codesFrom_none : ∀ (cs : List (List Ins)) (i : Nat), (∀ (t : Nat) L, cs[t]? = some L → (codeFault L).1 = 0) → codesFrom i cs = (0, -1)
  | [], _, _ => rfl
  | L :: cs, i, h => by
    unfold codesFrom
    rw [if_pos (h 0 L rfl)]
    exact codesFrom_none cs (i + 1) (fun t L' ht => h (t + 1) L' (by simpa using ht))
theorem codesFrom_hit : ∀ (cs : List (List Ins)) (i j : Nat) (L : List Ins), cs[j]? = some L → (codeFault L).1 ≠ 0 → (∀ (t : Nat) L', t < j → cs[t]? = some L' → (codeFault L').1 = 0) → codesFrom i cs = ((codeFault L).1, ((i + j : Nat) : Int))
  | [], _, _, _, h, _, _ => by simp at h
  | M :: cs, i, j, L, hL, h1, h2 => by
    unfold codesFrom
    cases j with
    | zero => simp at hL; subst hL; rw [if_neg h1]; rfl
    | succ j =>
      rw [if_pos (h2 0 M (by omega) rfl), codesFrom_hit cs (i + 1) j L (by simpa using hL) h1 (fun t L' ht hl => h2 (t + 1) L' (by omega) (by simpa using hl))]
      rw [show i + 1 + j = i + (j + 1) by omega]

theorem faultFrom_zero (l : List Ins) : ∀ (r : List Ins) (j : Nat), (faultFrom l j r).1 = 0 → ∀ (k : Nat) x, r[k]? = some x → insFault l (j + k) x = 0
  | [], _, _, k, x, hx => by simp at hx
  | y :: r, j, h, k, x, hx => by
    unfold faultFrom at h
    split at h
    · rename_i h0
      cases k with
      | zero => simp at hx; subst hx; exact h0
      | succ k => rw [show j + (k + 1) = j + 1 + k by omega]; exact faultFrom_zero l r (j + 1) h k x (by simpa using hx)
    · rename_i h0; exact absurd h h0
theorem insOk_of {L : List Ins} {i : Nat} {x : Ins} (h : insFault L i x = 0) : InsOk L x := by
  unfold insFault at h
  split at h
  · rename_i h0; exact absurd h h0
  · rename_i h0
    split at h
    · cases h
    · split at h
      · cases h
      · rename_i h2
        refine ⟨by simpa using h0, fun ht => ?_⟩
        rcases Int.lt_or_le (labelAt L x.to) 0 with h3 | h3
        · exact absurd ⟨ht, h3⟩ h2
        · exact h3
theorem codeFault_right {L : List Ins} (h : (codeFault L).1 = 0) : L.length ≤ 2000 ∧ ∀ (i : Nat) x, L[i]? = some x → InsOk L x := by
  unfold codeFault at h
  split at h
  · cases h
  · rename_i hl
    exact ⟨by omega, fun i x hx => insOk_of (by simpa using faultFrom_zero L L 0 h i x hx)⟩
theorem right_of {cs : List (List Ins)} (h : ∀ (t : Nat) L, cs[t]? = some L → (codeFault L).1 = 0) (h1 : 1 ≤ cs.length) (h6 : cs.length ≤ 6) (hs : ∀ (t : Nat) L, cs[t]? = some L → ∀ (i : Nat) x, L[i]? = some x → x.to.size ≤ maxLen) : Right cs where
  right t L ht := by
    obtain ⟨h2, h3⟩ := codeFault_right (h t L ht)
    exact ⟨h2, fun i x hx => ⟨h3 i x hx, hs t L ht i x hx⟩⟩
  few := h6
  some' := h1

def rowAt (R : List (List Int)) (t r : Nat) : Int := (R.getD t []).getD r 0
def Ar.filled (s : Ar) (R : List (List Int)) : Ar where
  size := s.size
  given c := if c < R.length then 1 else s.given c
  there c := if c < R.length then true else s.there c
  words c k := if c < R.length ∧ k < 4 then rowAt R c k else s.words c k
def Sta.mach (s : Sta) (n : Nat) : Mk where
  mem := { Rm.fresh s.cells.toNat n with ar := (Rm.fresh s.cells.toNat n).ar.filled s.init }
  regs t r := rowAt s.regs t r
  pc _ := 0
  marks := []
  faults := 0
end Go.Proofs.YtepgcgokolmedaaDoor

/- StB -/
namespace Go.Proofs.YtepgcgokolmedaaDoor
open Go.RowKit Go.Extern.Stop Go.Stop Go.Extern Go.Maps Go.WideMaps Go.Sort

def rowsAt (ad : Option Addr) (R : List (List Int)) (w : World) : Prop := ∀ (i : Nat) row, R[i]? = some row → ∃ b off adr cap, ad = some ⟨b, off, none⟩ ∧ w.cell? ⟨b, off + i, none⟩ = some (.slice adr row.length cap) ∧ row.length ≤ cap ∧ numsAt adr row w
theorem rowsAt.below {ad : Option Addr} {R : List (List Int)} {w w' : World} (h : rowsAt ad R w) (hb : Below w.heap.size w w') : rowsAt ad R w' := fun i row hr => by
  obtain ⟨b, off, adr, cap, h1, h2, h3, h4⟩ := h i row hr
  exact ⟨b, off, adr, cap, h1, keep_cell hb h2, h3, h4.below hb⟩

theorem all_hit {α : Type} {f : α → Bool} {l : List α} {j : Nat} {x : α} (hx : l[j]? = some x) (h : f x = false) : l.all f = false := by
  cases hb : l.all f with
  | false => rfl
  | true => rw [List.all_eq_true] at hb; rw [hb x (List.mem_of_getElem? hx)] at h; cases h
theorem all_done {α : Type} {f : α → Bool} {l : List α} (h : ∀ (k : Nat) x, k < l.length → l[k]? = some x → f x = true) : l.all f = true := by
  rw [List.all_eq_true]
  intro x hx
  obtain ⟨k, hk, rfl⟩ := List.getElem_of_mem hx
  exact h k _ hk (List.getElem?_eq_getElem hk)

structure StaPl where
  ai : Option Addr
  ci : Nat
  ar : Option Addr
  cr : Nat
def Sta.val (s : Sta) (q : StaPl) : Value := .agg #[.int .i64 s.cells, .slice q.ai s.init.length q.ci, .slice q.ar s.regs.length q.cr]
structure StaAt (s : Sta) (q : StaPl) (w : World) : Prop where
  init : rowsAt q.ai s.init w
  regs : rowsAt q.ar s.regs w
  ci : s.init.length ≤ q.ci
  cr : s.regs.length ≤ q.cr
  li : s.init.length ≤ 9223372036854775807
  lr : s.regs.length ≤ 9223372036854775807
  ri : ∀ (i : Nat) row, s.init[i]? = some row → row.length ≤ 9223372036854775807
  rr : ∀ (i : Nat) row, s.regs[i]? = some row → row.length ≤ 9223372036854775807
theorem StaAt.below {s : Sta} {q : StaPl} {w w' : World} (h : StaAt s q w) (hb : Below w.heap.size w w') : StaAt s q w' := ⟨h.init.below hb, h.regs.below hb, h.ci, h.cr, h.li, h.lr, h.ri, h.rr⟩

end Go.Proofs.YtepgcgokolmedaaDoor

/- StC -/
namespace Go.Proofs.YtepgcgokolmedaaDoor
open Go.RowKit Go.Extern.Stop Go.Stop Go.Extern Go.Maps Go.WideMaps Go.Sort

def icell (x : Ins) : List Value := [.string x.op, .int .i64 x.a, .int .i64 x.b, .int .i64 x.c, .string x.to]
def icells (l : List Ins) : List Value := l.flatMap icell
theorem icells_len (l : List Ins) : (icells l).length = l.length * 5 := by
  induction l with
  | nil => rfl
  | cons x l ih =>
    show (icell x ++ icells l).length = _
    rw [List.length_append, ih, List.length_cons]
    show 5 + _ = _
    omega
theorem icells_at : ∀ (l : List Ins) (i j : Nat) (x : Ins), l[i]? = some x → j < 5 → (icells l)[i * 5 + j]? = (icell x)[j]?
  | [], i, j, x, h, _ => by simp at h
  | y :: l, 0, j, x, h, hj => by
    cases h
    show (icell _ ++ icells l)[0 * 5 + j]? = _
    rw [List.getElem?_append_left (by show 0 * 5 + j < 5; omega), Nat.zero_mul, Nat.zero_add]
  | y :: l, i + 1, j, x, h, hj => by
    show (icell y ++ icells l)[(i + 1) * 5 + j]? = _
    rw [List.getElem?_append_right (by show 5 ≤ _; omega), show (i + 1) * 5 + j - (icell y).length = i * 5 + j by show _ - 5 = _; omega]
    exact icells_at l i j x (by simpa using h) hj
theorem icells_one {l : List Ins} : ∀ u ∈ icells l, u.oneCell' = true := fun u hu => by
  obtain ⟨x, -, h⟩ := List.mem_flatMap.1 hu
  simp only [icell, List.mem_cons, List.not_mem_nil, or_false] at h
  rcases h with rfl | rfl | rfl | rfl | rfl <;> rfl
theorem insAt_cells {b off : Nat} {l : List Ins} {w : World} (h : insAt (some ⟨b, off, none⟩) l w) (k : Nat) (u : Value) (hu : (icells l)[k]? = some u) : w.cell? ⟨b, off + k, none⟩ = some u := by
  have hk := (List.getElem?_eq_some_iff.1 hu).1
  rw [icells_len] at hk
  obtain ⟨x, hx⟩ : ∃ x, l[k / 5]? = some x := ⟨_, List.getElem?_eq_getElem (by omega)⟩
  obtain ⟨b', off', e, h0, h1, h2, h3, h4⟩ := h _ x hx
  cases e
  have e := icells_at l (k / 5) (k % 5) x hx (Nat.mod_lt _ (by decide))
  rw [show k / 5 * 5 + k % 5 = k by omega, hu] at e
  have h5 : k % 5 < 5 := Nat.mod_lt _ (by decide)
  rw [show off + k = off + k / 5 * 5 + k % 5 by omega]
  generalize k % 5 = j at *
  match j, h5, e with
  | 0, _, e => cases e; exact h0
  | 1, _, e => cases e; exact h1
  | 2, _, e => cases e; exact h2
  | 3, _, e => cases e; exact h3
  | 4, _, e => cases e; exact h4
theorem insAt_of_icells {w : World} {base : Nat} {e : TypeId} {l : List Ins} {v : Value} (h : w.ownsRow base e 5 v l.length (icells l)) : ∃ ad cap, v = .slice ad l.length cap ∧ l.length ≤ cap ∧ cap ≤ maxLen ∧ insAt ad l w := by
  obtain ⟨g, c, rfl, h1, h2, h3⟩ := ownsRow_shape h
  refine ⟨g, c, rfl, h1, h2, fun i x hx => ?_⟩
  have hi := (List.getElem?_eq_some_iff.1 hx).1
  have key : ∀ j, j < 5 → ∀ u, (icell x)[j]? = some u → ∃ b off, g = some ⟨b, off, none⟩ ∧ w.cell? ⟨b, off + (i * 5 + j), none⟩ = some u := fun j hj u hu => by
    rw [← icells_at l i j x hx hj] at hu
    obtain ⟨gg, e, hc⟩ := h3 _ _ hu
    exact ⟨gg, 0, e, by rw [Nat.zero_add]; exact hc⟩
  obtain ⟨b, off, rfl, k0⟩ := key 0 (by decide) _ rfl
  obtain ⟨_, _, e1, k1⟩ := key 1 (by decide) _ rfl
  obtain ⟨_, _, e2, k2⟩ := key 2 (by decide) _ rfl
  obtain ⟨_, _, e3, k3⟩ := key 3 (by decide) _ rfl
  obtain ⟨_, _, e4, k4⟩ := key 4 (by decide) _ rfl
  cases e1; cases e2; cases e3; cases e4
  exact ⟨b, off, rfl, k0, k1, k2, k3, k4⟩
theorem instrInfo : ∃ i, (Tryd.prog).info? 63 = some i ∧ i.zero = some (.agg #[.string ⟨#[]⟩, .int .i64 0, .int .i64 0, .int .i64 0, .string ⟨#[]⟩]) ∧ i.size = 5 ∧ i.bytes = 56 := info_parts (by kernel_rfl)

end Go.Proofs.YtepgcgokolmedaaDoor
