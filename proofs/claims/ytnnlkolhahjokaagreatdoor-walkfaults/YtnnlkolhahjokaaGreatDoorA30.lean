import Derived.Test.YtnnlkolhahjokaaGreatDoorA12
import Derived.Test.YtnnlkolhahjokaaGreatDoorA04
import Derived.Test.YtnnlkolhahjokaaGreatDoorA05
import Derived.Test.YtnnlkolhahjokaaGreatDoorA24
import Derived.Laws.AppendOwn
import Derived.Maps.AppendAt
import Derived.Test.YtnnlkolhahjokaaGreatDoorA08
import Derived.BigQuiet

/- WkP -/
namespace Go.Proofs.YtnnlkolhahjokaaGreatDoor
open Go.RowKit

def wordNums (s : Ar) (c : Nat) : List Int := if s.there c = true then [4, s.words c 0, s.words c 1, s.words c 2, s.words c 3] else [0]
theorem wordNums_len (s : Ar) (c : Nat) : 0 < (wordNums s c).length ∧ (wordNums s c).length ≤ 5 := by
  unfold wordNums
  split <;> simp
def arNums (s : Ar) : Nat → Nat → List Int
  | 0, _ => []
  | n + 1, c => (s.given c : Int) :: if s.given c = 0 then [] else wordNums s c ++ arNums s n (c + 1)
theorem arNums_len (s : Ar) : ∀ (n c : Nat), (arNums s n c).length ≤ 6 * n
  | 0, _ => Nat.zero_le _
  | n + 1, c => by
    unfold arNums
    rw [List.length_cons]
    split
    · simp; omega
    · have := arNums_len s n (c + 1)
      have := (wordNums_len s c).2
      rw [List.length_append]; omega
def wtNums (x : Wt) : List Int := [x.c, x.g, x.w, x.v]
def lnNums (l : List Wt) : List Int := (l.length : Int) :: l.flatMap wtNums
theorem wts_len (l : List Wt) : (l.flatMap wtNums).length = 4 * l.length := by
  induction l with
  | nil => rfl
  | cons x l ih => rw [List.flatMap_cons, List.length_append, ih, List.length_cons]; show 4 + _ = _; omega
theorem lnNums_len (l : List Wt) : (lnNums l).length = 4 * l.length + 1 := by
  unfold lnNums
  rw [List.length_cons, wts_len]
def linesNums (s : Rm) : Nat → List Int
  | 0 => []
  | n + 1 => linesNums s n ++ lnNums (s.waits n)
def memNums (s : Rm) : List Int := arNums s.ar s.ar.size 0 ++ linesNums s s.threads
def thrNums (m : Mk) (t : Nat) : List Int := [m.regs t 0, m.regs t 1, m.regs t 2, m.regs t 3, m.regs t 4, m.regs t 5, m.regs t 6, m.regs t 7] ++ [(m.pc t : Int)]
def thrsNums (m : Mk) : Nat → List Int
  | 0 => []
  | n + 1 => thrsNums m n ++ thrNums m n
def mkNums (n : Nat) (m : Mk) : List Int := memNums m.mem ++ thrsNums m n

def cellsLike (s s' : Ar) (c : Nat) : Prop := s.given c = s'.given c ∧ s.there c = s'.there c ∧ (s.there c = true → ∀ k, k < 4 → s.words c k = s'.words c k)
theorem wordNums_like {s s' : Ar} {c : Nat} {r r' : List Int} (h : wordNums s c ++ r = wordNums s' c ++ r') : s.there c = s'.there c ∧ (s.there c = true → ∀ k, k < 4 → s.words c k = s'.words c k) ∧ r = r' := by
  unfold wordNums at h
  cases h1 : s.there c <;> cases h2 : s'.there c <;> rw [h1, h2] at h
  · simp at h
    exact ⟨rfl, fun e => (by cases e), h⟩
  · simp at h
  · simp at h
  · simp at h
    obtain ⟨a0, a1, a2, a3, a4⟩ := h
    refine ⟨rfl, fun _ k hk => ?_, a4⟩
    match k, hk with
    | 0, _ => exact a0
    | 1, _ => exact a1
    | 2, _ => exact a2
    | 3, _ => exact a3
def GivenOk (s : Ar) : Prop := ∀ c d, c < s.size → c ≤ d → d < s.size → s.given c = 0 → s.given d = 0 ∧ s.there d = false
theorem arNums_like {s s' : Ar} (hz : s.size = s'.size) (h1 : GivenOk s) (h2 : GivenOk s') : ∀ (n c : Nat) (r r' : List Int), c + n = s.size → arNums s n c ++ r = arNums s' n c ++ r' → (∀ d, c ≤ d → d < s.size → cellsLike s s' d) ∧ r = r'
  | 0, c, r, r', hc, h => ⟨fun d hd hd' => absurd hd' (by omega), h⟩
  | n + 1, c, r, r', hc, h => by
    unfold arNums at h
    rw [List.cons_append, List.cons_append] at h
    have hg : s.given c = s'.given c := by have := (List.cons.inj h).1; omega
    have ht := (List.cons.inj h).2
    by_cases h0 : s.given c = 0
    · rw [if_pos h0, if_pos (by rw [← hg]; exact h0)] at ht
      refine ⟨fun d hd hd' => ?_, by simpa using ht⟩
      obtain ⟨g1, g2⟩ := h1 c d (by omega) hd hd' h0
      obtain ⟨g3, g4⟩ := h2 c d (by omega) hd (by omega) (by rw [← hg]; exact h0)
      exact ⟨by rw [g1, g3], by rw [g2, g4], fun e => by rw [g2] at e; cases e⟩
    · rw [if_neg h0, if_neg (by rw [← hg]; exact h0), List.append_assoc, List.append_assoc] at ht
      obtain ⟨w1, w2, w3⟩ := wordNums_like ht
      obtain ⟨q1, q2⟩ := arNums_like hz h1 h2 n (c + 1) r r' (by omega) w3
      refine ⟨fun d hd hd' => ?_, q2⟩
      by_cases e : d = c
      · subst e; exact ⟨hg, w1, w2⟩
      · exact q1 d (by omega) hd'
theorem wts_like : ∀ (l l' : List Wt) (r r' : List Int), l.length = l'.length → l.flatMap wtNums ++ r = l'.flatMap wtNums ++ r' → l = l' ∧ r = r'
  | [], [], r, r', _, h => ⟨rfl, h⟩
  | [], _ :: _, _, _, e, _ => by cases e
  | _ :: _, [], _, _, e, _ => by cases e
  | x :: l, y :: l', r, r', e, h => by
    rw [List.flatMap_cons, List.flatMap_cons, List.append_assoc, List.append_assoc] at h
    simp [wtNums] at h
    obtain ⟨a0, a1, a2, a3, a4⟩ := h
    obtain ⟨b1, b2⟩ := wts_like l l' r r' (by simpa using e) (by simpa [wtNums] using a4)
    refine ⟨?_, b2⟩
    rw [b1]
    obtain ⟨xc, xg, xw, xv⟩ := x
    obtain ⟨yc, yg, yw, yv⟩ := y
    simp at a0 a1 a2 a3
    rw [a0, a1, a2, a3]
theorem lnNums_like {l l' : List Wt} {r r' : List Int} (h : lnNums l ++ r = lnNums l' ++ r') : l = l' ∧ r = r' := by
  unfold lnNums at h
  rw [List.cons_append, List.cons_append] at h
  have h1 : l.length = l'.length := by have := (List.cons.inj h).1; omega
  exact wts_like l l' r r' h1 (List.cons.inj h).2
theorem linesNums_like {s s' : Rm} : ∀ (n : Nat) (r r' : List Int), linesNums s n ++ r = linesNums s' n ++ r' → (∀ t, t < n → s.waits t = s'.waits t) ∧ r = r' := by
  have key : ∀ (n k : Nat) (r r' : List Int), (List.range' k n).flatMap (fun t => lnNums (s.waits t)) ++ r = (List.range' k n).flatMap (fun t => lnNums (s'.waits t)) ++ r' → (∀ t, k ≤ t → t < k + n → s.waits t = s'.waits t) ∧ r = r' := by
    intro n
    induction n with
    | zero => intro k r r' h; exact ⟨fun t h1 h2 => absurd h2 (by omega), by simpa using h⟩
    | succ n ih =>
      intro k r r' h
      rw [List.range'_succ, List.flatMap_cons, List.flatMap_cons, List.append_assoc, List.append_assoc] at h
      obtain ⟨h1, h2⟩ := lnNums_like h
      obtain ⟨h3, h4⟩ := ih (k + 1) r r' h2
      refine ⟨fun t q1 q2 => ?_, h4⟩
      by_cases e : t = k
      · rw [e]; exact h1
      · exact h3 t (by omega) (by omega)
  have eq : ∀ (s : Rm) (n : Nat), linesNums s n = (List.range' 0 n).flatMap (fun t => lnNums (s.waits t)) := by
    intro s n
    induction n with
    | zero => rfl
    | succ n ih =>
      show linesNums s n ++ lnNums (s.waits n) = _
      rw [ih, List.range'_concat, List.flatMap_append]
      simp
  intro n r r' h
  rw [eq, eq] at h
  obtain ⟨h1, h2⟩ := key n 0 r r' h
  exact ⟨fun t ht => h1 t (Nat.zero_le _) (by omega), h2⟩
theorem thrNums_like {m m' : Mk} {t : Nat} {r r' : List Int} (h : thrNums m t ++ r = thrNums m' t ++ r') : (∀ k, k < 8 → m.regs t k = m'.regs t k) ∧ m.pc t = m'.pc t ∧ r = r' := by
  unfold thrNums at h
  simp at h
  obtain ⟨a0, a1, a2, a3, a4, a5, a6, a7, a8, a9⟩ := h
  refine ⟨fun k hk => ?_, by omega, a9⟩
  match k, hk with
  | 0, _ => exact a0
  | 1, _ => exact a1
  | 2, _ => exact a2
  | 3, _ => exact a3
  | 4, _ => exact a4
  | 5, _ => exact a5
  | 6, _ => exact a6
  | 7, _ => exact a7
theorem thrsNums_like {m m' : Mk} : ∀ (n : Nat), thrsNums m n = thrsNums m' n → ∀ t, t < n → (∀ k, k < 8 → m.regs t k = m'.regs t k) ∧ m.pc t = m'.pc t := by
  intro n
  induction n with
  | zero => intro _ t ht; exact absurd ht (by omega)
  | succ n ih =>
    intro h t ht
    have h' : thrsNums m n ++ thrNums m n = thrsNums m' n ++ thrNums m' n := h
    have hl : (thrNums m n).length = (thrNums m' n).length := rfl
    obtain ⟨h1, h2⟩ := List.append_inj' h' hl
    by_cases e : t = n
    · subst e
      obtain ⟨q1, q2, -⟩ := thrNums_like (r := []) (r' := []) (by simpa using h2)
      exact ⟨q1, q2⟩
    · exact ih h1 t (by omega)

structure Alike (n : Nat) (m m' : Mk) : Prop where
  cells : ∀ c, c < m.mem.ar.size → cellsLike m.mem.ar m'.mem.ar c
  waits : ∀ t, t < n → m.mem.waits t = m'.mem.waits t
  regs : ∀ t, t < n → ∀ k, k < 8 → m.regs t k = m'.regs t k
  pcs : ∀ t, t < n → m.pc t = m'.pc t
theorem mkNums_alike {n : Nat} {m m' : Mk} (hz : m.mem.ar.size = m'.mem.ar.size) (ht : m.mem.threads = n) (ht' : m'.mem.threads = n) (h1 : GivenOk m.mem.ar) (h2 : GivenOk m'.mem.ar) (h : mkNums n m = mkNums n m') : Alike n m m' := by
  unfold mkNums memNums at h
  rw [List.append_assoc, List.append_assoc, ht, ht', ← hz] at h
  obtain ⟨a1, a2⟩ := arNums_like hz h1 h2 m.mem.ar.size 0 _ _ (by omega) h
  obtain ⟨b1, b2⟩ := linesNums_like n _ _ a2
  have c1 := thrsNums_like n b2
  exact ⟨fun c hc => a1 c (Nat.zero_le _) hc, b1, fun t ht => (c1 t ht).1, fun t ht => (c1 t ht).2⟩
end Go.Proofs.YtnnlkolhahjokaaGreatDoor

/- WkA -/
namespace Go.Proofs.YtnnlkolhahjokaaGreatDoor
open Go.RowKit Go.Extern.Stop Go.Stop Go.Extern Go.Maps Go.WideMaps Go.Sort

theorem wkInt : ∃ i, (Tryz.prog).info? 3 = some i ∧ i.zero = some (.int .i64 0) ∧ i.size = 1 ∧ i.bytes = 8 := info_parts (by kernel_rfl)
def ncells (l : List Int) : List Value := l.map (Value.int .i64)
def numsOwn (w : World) (base : Nat) (v : Value) (l : List Int) : Prop := w.ownsRow base 3 1 v l.length (ncells l)
theorem numsOwn_nil (w : World) (base : Nat) : numsOwn w base (.slice none 0 0) [] := World.ownsRow_nil _ _ _ _
theorem ncells_append (a b : List Int) : ncells (a ++ b) = ncells a ++ ncells b := by simp [ncells]
theorem numsOwn_keep {w w' : World} {base : Nat} {v : Value} {l : List Int} (h : numsOwn w base v l) (k : Below w.heap.size w w') : numsOwn w' base v l :=
  ownsRow_block h (fun b hb => k.block b (h.lt b hb).2)
theorem numsOwn_mono {w : World} {base base' : Nat} {v : Value} {l : List Int} (h : numsOwn w base v l) (hb : base' ≤ base) : numsOwn w base' v l := by
  obtain ⟨h1, h2⟩ := h
  refine ⟨h1, ?_⟩
  rcases h2 with h2 | ⟨g, cap, cur, e, hg, r⟩
  · exact .inl h2
  · exact .inr ⟨g, cap, cur, e, Nat.le_trans hb hg, r⟩
theorem numsOwn_at {w : World} {base : Nat} {v : Value} {l : List Int} (h : numsOwn w base v l) : ∃ ad cap, v = .slice ad l.length cap ∧ l.length ≤ cap ∧ numsAt ad l w := by
  obtain ⟨g, c, rfl, h1, h2, h3⟩ := ownsRow_shape h
  refine ⟨g, c, rfl, h1, fun i x hx => ?_⟩
  obtain ⟨gg, e, hc⟩ := h3 i (.int .i64 x) (by unfold ncells; rw [List.getElem?_map, hx]; rfl)
  exact ⟨gg, 0, e, by rw [Nat.zero_add]; exact hc⟩
theorem numsOwn_open {w : World} {base : Nat} {v : Value} {l : List Int} (h : numsOwn w base v l) (h1 : 0 < l.length) : ∃ ad cap, v = .slice (some ad) l.length cap ∧ numsAt (some ad) l w := by
  obtain ⟨ad, cap, rfl, -, h4⟩ := numsOwn_at h
  obtain ⟨y, hy⟩ : ∃ y, l[0]? = some y := ⟨_, List.getElem?_eq_getElem h1⟩
  obtain ⟨b, off, rfl, -⟩ := h4 0 y hy
  exact ⟨_, cap, rfl, h4⟩
theorem numsOwn_new {w : World} {l : List Int} {cs : Array Value} {base : Nat} (h : cs.toList = ncells l) (hb : base ≤ w.heap.size) (hl : l.length ≤ 1000000) : numsOwn (w.alloc (.cells cs 3)) base (.slice (some ⟨w.heap.size, 0, none⟩) l.length l.length) l := by
  have hn : (ncells l).length = l.length := by simp [ncells]
  refine ⟨by rw [hn, Nat.mul_one], .inr ⟨w.heap.size, l.length, cs, rfl, hb, heap_new w _, Nat.le_refl _, by unfold maxLen; omega, ?_, ?_⟩⟩
  · rw [← Array.length_toList, h, hn, Nat.mul_one]
  · rw [h, Nat.mul_one, ← hn, List.take_length]
theorem numsAt_new {w : World} {l : List Int} {cs : Array Value} {t : TypeId} (h : cs.toList = ncells l) : numsAt (some ⟨w.heap.size, 0, none⟩) l (w.alloc (.cells cs t)) := by
  intro i x hx
  refine ⟨w.heap.size, 0, rfl, ?_⟩
  rw [World.cell?_alloc_new, Nat.zero_add, ← Array.getElem?_toList, h]
  unfold ncells
  rw [List.getElem?_map, hx]
  rfl

theorem wpList_append_ints {ops : Array Oper} {rest : List Oper} {o : Oper} {a : Act} (w : World) {Q : Exit → Act → World → Prop} (hgd : o.guard = none) (s x : Operand)
    (ho : o.op = .call { callee := .builtin .append, args := #[s, x], argTypes := #[26, 26] }) (base : Nat) (l0 l : List Int) (v : Value) (ad : Addr) (cap : Nat)
    (hs : a.eval s = v) (hown : numsOwn w base v l0) (hx : a.eval x = .slice (some ad) l.length cap) (hl : numsAt (some ad) l w) (h3 : l0.length + l.length ≤ 1000000) (hb : base ≤ w.heap.size)
    (h : ∀ v' w', numsOwn w' base v' (l0 ++ l) → Below base w w' → w.heap.size ≤ w'.heap.size → w.grownBy w' v.ownBlock → (v'.ownBlock = v.ownBlock ∨ v'.ownBlock = some w.heap.size) → wpList Tryz.prog ops Q rest (a.put o.dst v') w') : wpList Tryz.prog ops Q (o :: rest) a w := by
  obtain ⟨ri, hri, hrz, hrs, hrb⟩ := wkInt
  refine wpList_append_own_at w hgd s x 26 ho base 3 ri (.int .i64 0) 1 8 Tryz.underlying26 hri hrz hrs hrb rfl (by decide) v l0.length (ncells l0) hs hown ad l.length cap (ncells l) hx (by unfold ncells; rw [List.length_map, Nat.mul_one]) (fun j u hj => ?_) (fun u hu => ?_) (by unfold maxLen; omega) (by omega) hb (fun v' w' h2 hg _ hloc => ?_)
  · unfold ncells at hj
    rw [List.getElem?_map] at hj
    cases hxj : l[j]? with
    | none => rw [hxj] at hj; cases hj
    | some y =>
      rw [hxj] at hj; cases hj
      obtain ⟨_, _, e, c⟩ := hl j y hxj
      cases e
      rw [Addr.add_lit]; exact c
  · obtain ⟨y, _, rfl⟩ := List.mem_map.1 hu; rfl
  · have hB : Below base w w' := (Below.refl base w).grown hg hb (fun k hk => (hown.lt k hk).1)
    refine h v' w' ?_ hB hB.size hg hloc
    unfold numsOwn
    rw [List.length_append, ncells_append]
    exact h2

theorem numsOwn_set {w : World} {base g cap n : Nat} {l : List Int} (h : numsOwn w base (.slice (some ⟨g, 0, none⟩) n cap) l) (j : Nat) (x : Int) : numsOwn (w.setCell ⟨g, j, none⟩ (.int .i64 x)) base (.slice (some ⟨g, 0, none⟩) n cap) (l.set j x) := by
  obtain ⟨h1, h2⟩ := h
  rcases h2 with ⟨e, -⟩ | ⟨g', cap', cur, e, hg, hh, hn, hm, hs, hc⟩
  · cases e
  · cases e
    refine ⟨by unfold ncells; simp, .inr ⟨g, cap, cur.setIfInBounds j (.int .i64 x), by rw [List.length_set], hg, heap_setCell_same w g j cur _ _ hh, by rw [List.length_set]; exact hn, hm, by simpa using hs, ?_⟩⟩
    rw [List.length_set, Array.toList_setIfInBounds, List.take_set, hc]
    unfold ncells
    rw [List.map_set]
theorem numsOwn_cell {w : World} {base g cap n : Nat} {l : List Int} (h : numsOwn w base (.slice (some ⟨g, 0, none⟩) n cap) l) {j : Nat} {x : Int} (hx : l[j]? = some x) : w.cell? ⟨g, j, none⟩ = some (.int .i64 x) ∧ w.frozen? ⟨g, j, none⟩ = false := by
  have hl := (List.getElem?_eq_some_iff.1 hx).1
  obtain rfl : n = l.length := by
    obtain ⟨ad, c, e, -⟩ := numsOwn_at h
    cases e; rfl
  refine ⟨?_, ?_⟩
  · unfold numsOwn at h
    rw [World.ownsRow.cellAt h j (by rw [Nat.mul_one]; exact hl)]
    unfold ncells
    rw [List.getElem?_map, hx]; rfl
  · obtain ⟨h1, h2⟩ := h
    rcases h2 with ⟨e, -⟩ | ⟨g', cap', cur, e, hg, hh, hn, hm, hs, hc⟩
    · cases e
    · cases e
      exact frozen_of_row w g j cur _ hh

set_option maxRecDepth 20000 in
set_option maxHeartbeats 1000000 in
theorem wordsOf_any {b o : Nat} {s : Ar} {w : World} (h : ArAt b o s w) {c : Nat} (hc : c < 64) :
    Calls Tryz.prog 108 #[.pointer (some ⟨b, o, none⟩), .int .i64 c] w fun e w' => ∃ v, e = .returned v ∧ numsOwn w' w.heap.size v (wordNums s c) ∧ Below w.heap.size w w' := by
  have ht := h.there c hc
  have ci : (c : Int) < 64 := by omega
  have w0 : w.cell? ⟨b, o + 1 + c * 4, none⟩ = some (.int .u32 (s.words c 0)) := h.words c 0 hc (by decide)
  have w1 := h.words c 1 hc (by decide)
  have w2 := h.words c 2 hc (by decide)
  have w3 := h.words c 3 hc (by decide)
  have r0 := h.range c 0
  have r1 := h.range c 1
  have r2 := h.range c 2
  have r3 := h.range c 3
  have y0 := h.lt
  have HH := hide h
  clear h
  cases hth : s.there c
  · have hw : wordNums s c = [0] := by unfold wordNums; rw [hth]; rfl
    rw [hth] at ht
    rw [hw]
    go_enter Tryz.func108, Tryz.ntmps108
    go_wp2_with fail
    go_ret
    exact ⟨_, rfl, numsOwn_new (l := [0]) rfl (Nat.le_refl _) (by decide), (Below.refl _ _).alloc (Nat.le_refl _) _⟩
  · have hw : wordNums s c = [4, s.words c 0, s.words c 1, s.words c 2, s.words c 3] := by unfold wordNums; rw [hth]; rfl
    rw [hth] at ht
    rw [hw]
    go_enter Tryz.func108, Tryz.ntmps108
    generalize s.words c 0 = x0 at *
    generalize s.words c 1 = x1 at *
    generalize s.words c 2 = x2 at *
    generalize s.words c 3 = x3 at *
    have q0 : IntKind.i64.wrap x0 = x0 := by rw [IntKind.wrap_i64]; omega
    have q1 : IntKind.i64.wrap x1 = x1 := by rw [IntKind.wrap_i64]; omega
    have q2 : IntKind.i64.wrap x2 = x2 := by rw [IntKind.wrap_i64]; omega
    have q3 : IntKind.i64.wrap x3 = x3 := by rw [IntKind.wrap_i64]; omega
    have ix0 : ∀ w, (Instr.index 58 (.agg #[.int .u32 x0, .int .u32 x1, .int .u32 x2, .int .u32 x3]) (.int .i64 0)).run Tryz.prog w = .ok (.int .u32 x0) w := fun _ => rfl
    have ix1 : ∀ w, (Instr.index 58 (.agg #[.int .u32 x0, .int .u32 x1, .int .u32 x2, .int .u32 x3]) (.int .i64 1)).run Tryz.prog w = .ok (.int .u32 x1) w := fun _ => rfl
    have ix2 : ∀ w, (Instr.index 58 (.agg #[.int .u32 x0, .int .u32 x1, .int .u32 x2, .int .u32 x3]) (.int .i64 2)).run Tryz.prog w = .ok (.int .u32 x2) w := fun _ => rfl
    have ix3 : ∀ w, (Instr.index 58 (.agg #[.int .u32 x0, .int .u32 x1, .int .u32 x2, .int .u32 x3]) (.int .i64 3)).run Tryz.prog w = .ok (.int .u32 x3) w := fun _ => rfl
    clear HH hth hw
    go_wp2_with fail
    go_loopw [5, 7, 23] (fun l _ i wr => ∃ j : Nat, j ≤ 4 ∧ i = .int .i64 j ∧ Hid (numsOwn wr w.heap.size l (4 :: [x0, x1, x2, x3].take j)) ∧ Below w.heap.size w wr) (fun _ _ i _ => 4 - (intOf i).toNat)
    case atStart => exact ⟨0, Nat.zero_le _, rfl, numsOwn_new (l := [4]) rfl (Nat.le_refl _) (by decide), (Below.refl _ _).alloc (Nat.le_refl _) _⟩
    case round =>
      obtain ⟨j, hj, rfl, HO, HB⟩ := hrel
      have hc5 : j = 0 ∨ j = 1 ∨ j = 2 ∨ j = 3 ∨ j = 4 := by omega
      rcases hc5 with rfl | rfl | rfl | rfl | rfl
      · rw [show ((0 : Nat) : Int) = 0 from rfl]
        go_wp2_with (at_builtin; refine wpList_append_ints _ rfl _ _ rfl w.heap.size (4 :: [x0, x1, x2, x3].take 0) [x0] _ _ _ rfl ?q1 rfl ?q2 ?q3 ?q4 ?_)
        case q1 => exact numsOwn_keep HO.out ((Below.refl _ _).alloc (Nat.le_refl _) _)
        case q2 => exact numsAt_new rfl
        case q3 => show 1 + 1 ≤ 1000000; omega
        case q4 => have := HB.size; simp; omega
        intro v' w1 ho hb1 hs1 hg1 hloc
        have HO2 : Hid (numsOwn w1 w.heap.size v' (4 :: [x0, x1, x2, x3].take (0 + 1))) := ho
        have HB2 := (HB.alloc HB.size _).trans hb1
        clear ho hb1 hs1 hg1 hloc HO HB
        go_wp2
        go_roundw
        case rel => exact ⟨0 + 1, by omega, by go_num, HO2, HB2⟩
        case measure => simp [intOf]
      · rw [show ((1 : Nat) : Int) = 1 from rfl]
        go_wp2_with (at_builtin; refine wpList_append_ints _ rfl _ _ rfl w.heap.size (4 :: [x0, x1, x2, x3].take 1) [x1] _ _ _ rfl ?q1 rfl ?q2 ?q3 ?q4 ?_)
        case q1 => exact numsOwn_keep HO.out ((Below.refl _ _).alloc (Nat.le_refl _) _)
        case q2 => exact numsAt_new rfl
        case q3 => show 2 + 1 ≤ 1000000; omega
        case q4 => have := HB.size; simp; omega
        intro v' w1 ho hb1 hs1 hg1 hloc
        have HO2 : Hid (numsOwn w1 w.heap.size v' (4 :: [x0, x1, x2, x3].take (1 + 1))) := ho
        have HB2 := (HB.alloc HB.size _).trans hb1
        clear ho hb1 hs1 hg1 hloc HO HB
        go_wp2
        go_roundw
        case rel => exact ⟨1 + 1, by omega, by go_num, HO2, HB2⟩
        case measure => simp [intOf]
      · rw [show ((2 : Nat) : Int) = 2 from rfl]
        go_wp2_with (at_builtin; refine wpList_append_ints _ rfl _ _ rfl w.heap.size (4 :: [x0, x1, x2, x3].take 2) [x2] _ _ _ rfl ?q1 rfl ?q2 ?q3 ?q4 ?_)
        case q1 => exact numsOwn_keep HO.out ((Below.refl _ _).alloc (Nat.le_refl _) _)
        case q2 => exact numsAt_new rfl
        case q3 => show 3 + 1 ≤ 1000000; omega
        case q4 => have := HB.size; simp; omega
        intro v' w1 ho hb1 hs1 hg1 hloc
        have HO2 : Hid (numsOwn w1 w.heap.size v' (4 :: [x0, x1, x2, x3].take (2 + 1))) := ho
        have HB2 := (HB.alloc HB.size _).trans hb1
        clear ho hb1 hs1 hg1 hloc HO HB
        go_wp2
        go_roundw
        case rel => exact ⟨2 + 1, by omega, by go_num, HO2, HB2⟩
        case measure => simp [intOf]
      · rw [show ((3 : Nat) : Int) = 3 from rfl]
        go_wp2_with (at_builtin; refine wpList_append_ints _ rfl _ _ rfl w.heap.size (4 :: [x0, x1, x2, x3].take 3) [x3] _ _ _ rfl ?q1 rfl ?q2 ?q3 ?q4 ?_)
        case q1 => exact numsOwn_keep HO.out ((Below.refl _ _).alloc (Nat.le_refl _) _)
        case q2 => exact numsAt_new rfl
        case q3 => show 4 + 1 ≤ 1000000; omega
        case q4 => have := HB.size; simp; omega
        intro v' w1 ho hb1 hs1 hg1 hloc
        have HO2 : Hid (numsOwn w1 w.heap.size v' (4 :: [x0, x1, x2, x3].take (3 + 1))) := ho
        have HB2 := (HB.alloc HB.size _).trans hb1
        clear ho hb1 hs1 hg1 hloc HO HB
        go_wp2
        go_roundw
        case rel => exact ⟨3 + 1, by omega, by go_num, HO2, HB2⟩
        case measure => simp [intOf]
      · rw [show ((4 : Nat) : Int) = 4 from rfl]
        go_wp2_with fail
        go_ret
        exact ⟨_, rfl, HO.out, HB⟩

theorem arNums_succ {s : Ar} {n c : Nat} (h : ¬ s.given c = 0) : arNums s (n + 1) c = (s.given c : Int) :: (wordNums s c ++ arNums s n (c + 1)) := by
  rw [arNums, if_neg h]
theorem arNums_stop {s : Ar} {n c : Nat} (h : s.given c = 0) : arNums s (n + 1) c = [(s.given c : Int)] := by
  rw [arNums, if_pos h]

set_option maxRecDepth 20000 in
set_option maxHeartbeats 2000000 in
theorem arState_any {b o : Nat} {s : Ar} {w : World} (h : ArAt b o s w) :
    Calls Tryz.prog 100 #[.pointer (some ⟨b, o, none⟩)] w fun e w' => ∃ v, e = .returned v ∧ numsOwn w' w.heap.size v (arNums s s.size 0) ∧ Below w.heap.size w w' := by
  have HC := hide (cells_any b o s w h)
  have hz := h.small
  have HH := hide h
  clear h
  go_enter Tryz.func100, Tryz.ntmps100
  go_wp2_with fail
  refine HC.out.mono ?_
  rintro e w1 ⟨rfl, rfl⟩
  clear HC
  go_wp2_with fail
  go_loopw [3, 4, 7] (fun l _ i wr => ∃ j : Nat, j ≤ s.size ∧ i = .int .i64 j ∧ Hid (∃ pre, numsOwn wr w1.heap.size l pre ∧ pre ++ arNums s (s.size - j) j = arNums s s.size 0 ∧ pre.length ≤ 6 * j) ∧ Below w1.heap.size w1 wr) (fun _ _ i _ => s.size - (intOf i).toNat)
  case atStart => exact ⟨0, Nat.zero_le _, rfl, ⟨[], numsOwn_nil _ _, rfl, Nat.le_refl _⟩, Below.refl _ _⟩
  case round =>
    obtain ⟨j, hj, rfl, HO, HB⟩ := hrel
    by_cases hlt : j < s.size
    · obtain ⟨pre, ho, hp, hpl⟩ := HO.out
      have ji : (j : Int) < s.size := by omega
      have j64 : (j : Int) < 64 := by omega
      have hr := HH.out.turns (Turns.of_below (S := fun _ _ => False) HB) (fun _ _ h => h)
      have hg := hr.given j (by omega)
      have yb := hr.lt
      have HW := hide (fun w' (k : Below wr.heap.size wr w') => wordsOf_any (hr.turns (Turns.of_below (S := fun _ _ => False) k) (fun _ _ h => h)) (c := j) (by omega))
      have HO1 := hide ho
      have HP := hide hp
      have hn : s.size - j = (s.size - (j + 1)) + 1 := by omega
      clear hr ho hp HO
      go_wp2_with (at_builtin; refine wpList_append_ints _ rfl _ _ rfl w1.heap.size pre [(s.given j : Int)] _ _ _ rfl ?q1 rfl ?q2 ?q3 ?q4 ?_)
      case q1 => exact numsOwn_keep HO1.out ((Below.refl _ _).alloc (Nat.le_refl _) _)
      case q2 => exact numsAt_new rfl
      case q3 => show pre.length + 1 ≤ 1000000; omega
      case q4 => have := HB.size; simp; omega
      intro v' w2 ho2 hb2 hs2 hgr hloc
      have HO2 := hide ho2
      have HB2 := (HB.alloc HB.size _).trans hb2
      have hr2 := HH.out.below HB2
      have hg2 := hr2.given j (by omega)
      have yb2 := hr2.lt
      have HW := hide (wordsOf_any hr2 (c := j) (by omega))
      clear ho2 hb2 hs2 hgr hloc hr2 hg yb HO1 HB
      by_cases hz0 : s.given j = 0
      · have z1 : ((s.given j : Nat) : Int) = 0 := by omega
        have HZ : Hid (numsOwn w2 w1.heap.size v' (arNums s s.size 0)) := by
          rw [← HP.out, hn, arNums_stop hz0]; exact HO2.out
        clear HO2 HP HW hn
        generalize ((s.given j : Nat) : Int) = g at *
        subst z1
        go_wp2_with fail
        go_ret
        exact ⟨_, rfl, HZ.out, HB2⟩
      · have z1 : ¬ ((s.given j : Nat) : Int) = 0 := by omega
        have z2 : (((s.given j : Nat) : Int) == 0) = false := beq_eq_false_iff_ne.2 z1
        have HP2 : Hid ((pre ++ [(s.given j : Int)] ++ wordNums s j) ++ arNums s (s.size - (j + 1)) (j + 1) = arNums s s.size 0) := by
          have e := HP.out
          rw [hn, arNums_succ hz0] at e
          show _ = _
          rw [← e]
          simp
        have wl := wordNums_len s j
        clear HP hn hz0
        generalize ((s.given j : Nat) : Int) = g at *
        go_wp2_with fail
        refine HW.out.mono ?_
        rintro e w3 ⟨u, rfl, hu, hb3⟩
        obtain ⟨au, cu, rfl, hua⟩ := numsOwn_open hu wl.1
        have HO3 := hide (numsOwn_keep HO2.out hb3)
        have HU := hide hua
        have HB3 := below_step HB2 hb3
        clear HO2 hu hua hb3 HW HB2 hg2 yb2
        generalize hL : wordNums s j = L at *
        clear hL
        go_wp2_with (at_builtin; refine wpList_append_ints _ rfl _ _ rfl w1.heap.size (pre ++ [g]) L _ _ _ rfl ?q1 rfl ?q2 ?q3 ?q4 ?_)
        case q1 => exact HO3.out
        case q2 => exact HU.out
        case q3 => rw [List.length_append]; show pre.length + 1 + L.length ≤ 1000000; omega
        case q4 => exact HB3.size
        intro v4 w4 ho4 hb4 hs4 hgr4 hloc4
        have HB4 := HB3.trans hb4
        have HZ : Hid (∃ pre, numsOwn w4 w1.heap.size v4 pre ∧ pre ++ arNums s (s.size - (j + 1)) (j + 1) = arNums s s.size 0 ∧ pre.length ≤ 6 * (j + 1)) := ⟨pre ++ [g] ++ L, by simpa using ho4, HP2.out, by simp only [List.length_append]; show pre.length + 1 + L.length ≤ _; omega⟩
        clear ho4 hb4 hs4 hgr4 hloc4 HO3 HB3 HU HP2
        go_wp2
        go_roundw
        case rel => exact ⟨j + 1, by omega, by go_num, HZ, HB4⟩
        case measure => simp [intOf]; omega
    · obtain rfl : j = s.size := by omega
      obtain ⟨pre, ho, hp, -⟩ := HO.out
      rw [Nat.sub_self] at hp
      have HZ : Hid (numsOwn wr w1.heap.size u3 (arNums s s.size 0)) := by
        rw [← hp]
        have : pre ++ arNums s 0 s.size = pre := List.append_nil _
        rw [this]; exact ho
      clear HO ho hp
      go_wp2_with fail
      go_ret
      exact ⟨_, rfl, HZ.out, HB⟩
end Go.Proofs.YtnnlkolhahjokaaGreatDoor

/- WkB -/
namespace Go.Proofs.YtnnlkolhahjokaaGreatDoor
open Go.RowKit Go.Extern.Stop Go.Stop Go.Extern Go.Maps Go.WideMaps Go.Sort

theorem numsAt_new2 {w : World} {l : List Int} {cs : Array Value} {t : TypeId} {ob : Obj} (h : cs.toList = ncells l) : numsAt (some ⟨w.heap.size + 1, 0, none⟩) l ((w.alloc ob).alloc (.cells cs t)) := by
  have := numsAt_new (w := w.alloc ob) (t := t) h
  rwa [World.size_alloc] at this

set_option maxRecDepth 20000 in
set_option maxHeartbeats 2000000 in
theorem lnState_any {b o : Nat} {l : List Wt} {w : World} (h : LnAt b o l w) :
    Calls Tryz.prog 101 #[.pointer (some ⟨b, o, none⟩)] w fun e w' => ∃ v, e = .returned v ∧ numsOwn w' w.heap.size v (lnNums l) ∧ Below w.heap.size w w' := by
  have hle := h.le
  have hln := h.len
  have yb := h.lt
  have HH := hide h
  have li : (l.length : Int) ≤ 8 := by omega
  clear h
  go_enter Tryz.func101, Tryz.ntmps101
  go_wp2_with fail
  go_quiet (fail)
  have B1 : Below w.heap.size w ((w.alloc (.cells #[.int .i64 l.length] 3)).drewN nq) := below_dN ((Below.refl _ _).alloc (Nat.le_refl _) _) nq
  have HO : Hid (numsOwn ((w.alloc (.cells #[.int .i64 l.length] 3)).drewN nq) w.heap.size (.slice (some ⟨w.heap.size, 0, none⟩) 1 1) [(l.length : Int)]) := hide (numsOwn_keep (numsOwn_new (l := [(l.length : Int)]) rfl (Nat.le_refl _) (show 1 ≤ 1000000 by decide)) (Below.drewN' nq))
  generalize (w.alloc (.cells #[.int .i64 l.length] 3)).drewN nq = W1 at *
  go_wp2_with fail
  go_loopw [3, 5, 20] (fun v _ i wr => ∃ j : Nat, j ≤ l.length ∧ i = .int .i64 j ∧ Hid (numsOwn wr w.heap.size v ((l.length : Int) :: (l.take j).flatMap wtNums)) ∧ Below w.heap.size w wr) (fun _ _ i _ => l.length - (intOf i).toNat)
  case atStart => exact ⟨0, Nat.zero_le _, rfl, HO, B1⟩
  case round =>
    clear HO B1
    obtain ⟨j, hj, rfl, HO, HB⟩ := hrel
    by_cases hlt : j < l.length
    · have ji : (j : Int) < l.length := by omega
      obtain ⟨x, hx⟩ : ∃ x, l[j]? = some x := ⟨_, List.getElem?_eq_getElem hlt⟩
      have hr := HH.out.below HB
      have cell : ∀ k, k < 4 → wr.cell? ⟨b, o + j * 4 + k, none⟩ = some (.int .i64 (x.nth k)) := fun k hk => by
        have := hr.row j k (by omega) hk
        rw [this]
        unfold lnCell
        rw [hx]
      have e0 : wr.cell? ⟨b, o + j * 4, none⟩ = some (.int .i64 x.c) := cell 0 (by decide)
      have e1 : wr.cell? ⟨b, o + j * 4 + 1, none⟩ = some (.int .i64 x.g) := cell 1 (by decide)
      have e2 : wr.cell? ⟨b, o + j * 4 + 2, none⟩ = some (.int .i64 x.w) := cell 2 (by decide)
      have e3 : wr.cell? ⟨b, o + j * 4 + 3, none⟩ = some (.int .i64 x.v) := cell 3 (by decide)
      have HS : Hid ((l.length : Int) :: (l.take (j + 1)).flatMap wtNums = ((l.length : Int) :: (l.take j).flatMap wtNums) ++ [x.c, x.g, x.w, x.v]) := hide (by
        rw [List.take_add_one, hx, List.flatMap_append]
        simp [wtNums])
      have hl4 : ((l.length : Int) :: (l.take j).flatMap wtNums).length ≤ 33 := by rw [List.length_cons, wts_len, List.length_take]; omega
      clear hr cell hx
      generalize ((l.length : Int) :: (l.take j).flatMap wtNums) = pre at *
      go_wp2_with (at_builtin; refine wpList_append_ints _ rfl _ _ rfl w.heap.size pre [x.c, x.g, x.w, x.v] _ _ _ rfl ?q1 rfl ?q2 ?q3 ?q4 ?_)
      case q1 => exact numsOwn_keep HO.out (((Below.refl _ _).alloc (Nat.le_refl _) _).alloc (by simp) _)
      case q2 => exact numsAt_new2 rfl
      case q3 => show pre.length + 4 ≤ 1000000; omega
      case q4 => have := HB.size; simp; omega
      intro v' w2 ho2 hb2 hs2 hgr hloc
      have HB2 : Below w.heap.size w w2 := ((HB.alloc HB.size _).alloc (by have := HB.size; simp; omega) _).trans hb2
      have HO2 : Hid (numsOwn w2 w.heap.size v' ((l.length : Int) :: (l.take (j + 1)).flatMap wtNums)) := hide (by rw [HS.out]; exact ho2)
      clear ho2 hb2 hs2 hgr hloc HO HB HS
      go_wp2
      go_roundw
      case rel => exact ⟨j + 1, by omega, by go_num, HO2, HB2⟩
      case measure => simp [intOf]; omega
    · obtain rfl : j = l.length := by omega
      have HZ : Hid (numsOwn wr w.heap.size u3 (lnNums l)) := by
        have := HO.out
        rw [List.take_length] at this
        exact this
      clear HO
      go_wp2_with fail
      go_ret
      exact ⟨_, rfl, HZ.out, HB⟩

set_option maxRecDepth 20000 in
set_option maxHeartbeats 2000000 in
theorem mmState_any {b : Nat} {s : Rm} {w : World} (h : MmAt b s w) :
    Calls Tryz.prog 90 #[.pointer (some ⟨b, 0, none⟩)] w fun e w' => ∃ v, e = .returned v ∧ numsOwn w' w.heap.size v (memNums s) ∧ Below w.heap.size w w' := by
  have HA := hide (arState_any h.ar)
  have h6 := h.few
  have hnt := h.nt
  have HH := hide h
  have la := arNums_len s.ar s.ar.size 0
  have hz := h.ar.small
  clear h
  unfold memNums
  generalize hP : arNums s.ar s.ar.size 0 = P at *
  have lp : P.length ≤ 384 := by omega
  clear hP la hz
  go_enter Tryz.func90, Tryz.ntmps90
  go_wp2_with fail
  refine HA.out.mono ?_
  rintro e w1 ⟨v, rfl, hv, hb1⟩
  have hnt1 := keep_cell hb1 hnt
  have HO := hide hv
  clear HA hnt hv
  go_wp2_with fail
  go_loopw [3, 4, 15] (fun l _ i wr => ∃ j : Nat, j ≤ s.threads ∧ i = .int .i64 j ∧ Hid (∃ pre, numsOwn wr w.heap.size l pre ∧ pre = P ++ linesNums s j ∧ pre.length ≤ 384 + 33 * j) ∧ Below w.heap.size w wr) (fun _ _ i _ => s.threads - (intOf i).toNat)
  case atStart => exact ⟨0, Nat.zero_le _, rfl, ⟨P, HO.out, (List.append_nil _).symm, by omega⟩, hb1⟩
  case round =>
    clear HO hb1 hnt1
    obtain ⟨j, hj, rfl, HO, HB⟩ := hrel
    obtain ⟨pre, ho, hp, hpl⟩ := HO.out
    by_cases hlt : j < s.threads
    · have ji : (j : Int) < s.threads := by omega
      have j6 : (j : Int) < 6 := by omega
      have hr := HH.out.below HB
      have HL := hide (lnState_any (hr.line j hlt))
      have ll : (lnNums (s.waits j)).length ≤ 33 := by
        have := (hr.line j hlt).le
        rw [lnNums_len]; omega
      have l0 : 0 < (lnNums (s.waits j)).length := by rw [lnNums_len]; omega
      have HS : Hid (pre ++ lnNums (s.waits j) = P ++ linesNums s (j + 1)) := hide (by
        rw [hp, List.append_assoc]; rfl)
      have HO1 := hide ho
      clear hr ho hp HO
      generalize lnNums (s.waits j) = LL at *
      go_wp2_with fail
      refine HL.out.mono ?_
      rintro e w2 ⟨u, rfl, hu, hb2⟩
      obtain ⟨au, cu, rfl, hua⟩ := numsOwn_open hu l0
      have HO2 := hide (numsOwn_keep HO1.out hb2)
      have HU := hide hua
      have HB2 := below_step HB hb2
      clear hu hua hb2 HL HB HO1
      go_wp2_with (at_builtin; refine wpList_append_ints _ rfl _ _ rfl w.heap.size pre LL _ _ _ rfl ?q1 rfl ?q2 ?q3 ?q4 ?_)
      case q1 => exact HO2.out
      case q2 => exact HU.out
      case q3 => omega
      case q4 => exact HB2.size
      intro v4 w4 ho4 hb4 hs4 hgr4 hloc4
      have HB4 := HB2.trans hb4
      have HZ : Hid (∃ pre, numsOwn w4 w.heap.size v4 pre ∧ pre = P ++ linesNums s (j + 1) ∧ pre.length ≤ 384 + 33 * (j + 1)) := ⟨pre ++ LL, ho4, HS.out, by rw [List.length_append]; omega⟩
      clear ho4 hb4 hs4 hgr4 hloc4 HO2 HB2 HU HS
      go_wp2
      go_roundw
      case rel => exact ⟨j + 1, by omega, by go_num, HZ, HB4⟩
      case measure => simp [intOf]; omega
    · obtain rfl : j = s.threads := by omega
      have HZ : Hid (numsOwn wr w.heap.size u3 (P ++ linesNums s s.threads)) := by rw [← hp]; exact ho
      clear HO ho hp
      go_wp2_with fail
      go_ret
      exact ⟨_, rfl, HZ.out, HB⟩

set_option maxRecDepth 20000 in
theorem mWaiting_any {b : Nat} {s : Rm} {w : World} (h : MmAt b s w) {t : Nat} (ht : t < s.threads) :
    Calls Tryz.prog 36 #[.pointer (some ⟨b, 0, none⟩), .int .i64 t] w fun e w' => e = .returned (.int .i64 (s.waits t).length) ∧ w' = w := by
  have HH := hide (has_m_yes b s t w h ht)
  have h6 := h.few
  have hl := (h.line t ht).len
  have t6 : (t : Int) < 6 := by omega
  clear h ht
  go_enter Tryz.func36, Tryz.ntmps36
  go_wp2_with fail
  refine HH.out.mono ?_
  rintro e w1 ⟨rfl, rfl⟩
  go_wp2_with fail
  go_ret
  exact ⟨rfl, rfl⟩
end Go.Proofs.YtnnlkolhahjokaaGreatDoor
