import Derived.Test.YtnnlkolhahjokaaGreatDoorB23
import Derived.Test.YtnnlkolhahjokaaGreatDoorB04
import Derived.Test.YtnnlkolhahjokaaGreatDoorB05
import Derived.Laws.AppendOwn
import Derived.Maps.AppendAt

/- MkZ -/
namespace Go.Proofs.YtnnlkolhahjokaaGreatDoor
open Go.RowKit Go.Extern.Stop Go.Stop Go.Extern Go.Maps Go.WideMaps Go.Sort

def numsAt (ad : Option Addr) (l : List Int) (w : World) : Prop := ∀ (i : Nat) x, l[i]? = some x → ∃ b off, ad = some ⟨b, off, none⟩ ∧ w.cell? ⟨b, off + i, none⟩ = some (.int .i64 x)
theorem numsAt.turns {S : Nat → Nat → Prop} {ad : Option Addr} {l : List Int} {w w' : World} (h : numsAt ad l w) (t : Turns S w w') (hS : ∀ b off o, ad = some ⟨b, off, none⟩ → ¬ S b o) : numsAt ad l w' := fun i x hx => by
  obtain ⟨b, off, e, hc⟩ := h i x hx
  exact ⟨b, off, e, t.keep hc (hS b off _ e)⟩
theorem numsAt.below {ad : Option Addr} {l : List Int} {w w' : World} (h : numsAt ad l w) (hb : Below w.heap.size w w') : numsAt ad l w' := h.turns (S := fun _ _ => False) (Turns.of_below hb) (fun _ _ _ _ h => h)

theorem MkPl.fp_marked {a : Nat → Addr} {cs : List (List Ins)} {p : MkPl} {v : Value} {m' : Mk} {w w' : World} (k : MkStep a cs p w v m' w') {i : Nat} (h : (p.marked v).fp i) : p.fp i ∨ w.heap.size ≤ i := by
  rcases h with h | h
  · exact Or.inl (Or.inl h)
  · exact (k.fp i h).imp Or.inr id

theorem kreg_any {a : Nat → Addr} {cs : List (List Ins)} {p : MkPl} {m : Mk} {w : World} (h : MkAt a cs p m w) {t r : Nat} (ht : t < cs.length) (hr : r < 8) :
    Calls Tryz.prog 12 #[.pointer (some ⟨p.b, 0, none⟩), .int .i64 t, .int .i64 r] w fun e w' => e = .returned (.tuple #[.int .i64 (m.regs t r), .nilIface]) ∧ w' = w := by
  have HH := hide (khas_yes ht h)
  have h6 := h.few
  have t6 : (t : Int) < 6 := by omega
  have r8 : (r : Int) < 8 := by omega
  have r0 : decide ((r : Int) < 0) = false := by simp
  have r1 : decide (8 ≤ (r : Int)) = false := by simp; omega
  have hc := h.reg t r (by omega) hr
  clear h ht hr h6
  go_enter Tryz.func12, Tryz.ntmps12
  go_wp2_with fail
  refine HH.out.mono ?_
  rintro e w1 ⟨rfl, rfl⟩
  go_wp2
  refine bodyPost_ret (v := .tuple #[.int .i64 (m.regs t r), .nilIface]) (by simp only [results, Tryz.results12]; go_simp) rfl ⟨rfl, rfl⟩

theorem kfaults_any {a : Nat → Addr} {cs : List (List Ins)} {p : MkPl} {m : Mk} {w : World} (h : MkAt a cs p m w) :
    Calls Tryz.prog 11 #[.pointer (some ⟨p.b, 0, none⟩)] w fun e w' => e = .returned (.int .i64 m.faults) ∧ w' = w := by
  have hc := h.faults
  clear h
  go_enter Tryz.func11, Tryz.ntmps11
  go_wp2
  go_ret
  exact ⟨rfl, rfl⟩


def RunRel (a : Nat → Addr) (cs : List (List Ins)) (p : MkPl) (m : Mk) (K : Nat) (w : World) (ad : Option Addr) (l : List Int) (j : Nat) (wr : World) : Prop :=
  ∃ v, MkStep a cs p w v (m.runO cs (l.take j)).2 wr ∧ RunX a cs (p.marked v) (m.runO cs (l.take j)).2 (K + j) wr ∧ numsAt ad l wr

theorem RunRel.next {a : Nat → Addr} {cs : List (List Ins)} {p : MkPl} {m : Mk} {K : Nat} {w : World} {ad : Option Addr} {l : List Int} {j : Nat} {x : Int} {v v' : Value} {wr w' : World}
    (hx : l[j]? = some x) (k : MkStep a cs p w v (m.runO cs (l.take j)).2 wr) (h : RunX a cs (p.marked v) (m.runO cs (l.take j)).2 (K + j) wr) (hn : numsAt ad l wr)
    (hd : ∀ b off, ad = some ⟨b, off, none⟩ → ¬ (p.marked v).fp b) (hK : K + l.length ≤ 10000000)
    (k' : MkStep a cs (p.marked v) wr v' (((m.runO cs (l.take j)).2.turnO cs x)).2 w') : RunRel a cs p m K w ad l (j + 1) w' := by
  have hj : j < l.length := (List.getElem?_eq_some_iff.1 hx).1
  have e : l.take (j + 1) = l.take j ++ [x] := by rw [List.take_add_one, hx]; rfl
  unfold RunRel
  rw [e, Mk.runO_snoc]
  exact ⟨v', k.trans k', h.of k' (h.ok.turnO h.right x (by omega)) (by omega), hn.turns k'.turns (fun b off o hb => hd b off hb)⟩

theorem runO_count {cs : List (List Ins)} {m : Mk} {l : List Int} {j : Nat} {x : Int} (hx : l[j]? = some x) : (m.runO cs (l.take (j + 1))).1 = (m.runO cs (l.take j)).1 + okN ((m.runO cs (l.take j)).2.turnO cs x).1 := by
  have e : l.take (j + 1) = l.take j ++ [x] := by rw [List.take_add_one, hx]; rfl
  rw [e, Mk.runO_snoc]

set_option maxRecDepth 20000 in
set_option maxHeartbeats 1000000 in
theorem krun_any {a : Nat → Addr} {cs : List (List Ins)} {p : MkPl} {m : Mk} {K : Nat} {w : World} (h : RunX a cs p m K w) {ad : Option Addr} {l : List Int} {cap : Nat} (hl : numsAt ad l w) (hlen : l.length ≤ 20000) (hcap : l.length ≤ cap) (hK : K + l.length ≤ 10000000)
    (hd : ∀ b off, ad = some ⟨b, off, none⟩ → b < w.heap.size ∧ ¬ p.fp b) :
    Calls Tryz.prog 10 #[.pointer (some ⟨p.b, 0, none⟩), .slice ad l.length cap] w fun e w' => e = .returned (.int .i64 (m.runO cs l).1) ∧ ∃ v, MkStep a cs p w v (m.runO cs l).2 w' ∧ RunX a cs (p.marked v) (m.runO cs l).2 (K + l.length) w' := by
  have H0 : Hid (RunRel a cs p m K w ad l 0 w) := hide ⟨p.mv, MkStep.refl h.at', h, hl⟩
  have HD := hide hd
  have i1 : (l.length : Int) ≤ 20000 := by omega
  have i2 : (l.length : Int) ≤ cap := by omega
  have k1 : decide ((l.length : Int) ≤ 20000) = true := by simp; omega
  clear h hl hd
  go_enter Tryz.func10, Tryz.ntmps10
  go_wp2_with fail
  go_loopw [5, 7, 14] (fun c _ i wr => ∃ j : Nat, j ≤ l.length ∧ i = .int .i64 j ∧ c = .int .i64 (m.runO cs (l.take j)).1 ∧ RunRel a cs p m K w ad l j wr) (fun _ _ i _ => l.length - (intOf i).toNat)
  case atStart => exact ⟨0, Nat.zero_le _, rfl, rfl, H0.out⟩
  case round =>
    obtain ⟨j, hj, rfl, rfl, v, hk, hx, hn⟩ := hrel
    have hle := Mk.runO_le cs (l.take j) m
    rw [List.length_take] at hle
    by_cases hlt : j < l.length
    · obtain ⟨x, hxx⟩ : ∃ x, l[j]? = some x := ⟨_, List.getElem?_eq_getElem hlt⟩
      obtain ⟨ab, off, rfl, c0⟩ := hn j x hxx
      have ji : (j : Int) < l.length := by omega
      have HT := hide (kturn_any hx x)
      have HC := runO_count (cs := cs) (m := m) hxx
      have HF : ∀ b off', (some ⟨ab, off, none⟩ : Option Addr) = some ⟨b, off', none⟩ → ¬ (p.marked v).fp b := fun b off' e hb => by
        have := HD.out b off' e
        rcases MkPl.fp_marked hk hb with h1 | h1
        · exact this.2 h1
        · omega
      have HR : Hid (∀ v' w', MkStep a cs (p.marked v) wr v' (((m.runO cs (l.take j)).2.turnO cs x)).2 w' → RunRel a cs p m K w (some ⟨ab, off, none⟩) l (j + 1) w') := hide (fun v' w' k' => RunRel.next hxx hk hx hn HF hK k')
      clear hk hx hn HF H0
      have hh : (m.runO cs (l.take (j + 1))).1 ≤ j + 1 := by have := Mk.runO_le cs (l.take (j + 1)) m; rw [List.length_take] at this; omega
      generalize hC1 : (m.runO cs (l.take (j + 1))).1 = C1 at *
      have HC1 := hide hC1
      clear hC1
      generalize (m.runO cs (l.take j)).1 = C0 at *
      generalize hm : (m.runO cs (l.take j)).2 = M at *
      clear hm
      have HT2 := HT.out
      clear HT
      generalize (M.turnO cs x).2 = M2 at *
      generalize (M.turnO cs x).1 = E1 at *
      clear hxx
      have w1c : IntKind.i64.wrap ((C0 : Int) + 1) = (C0 : Int) + 1 := by rw [IntKind.wrap_i64]; omega
      cases E1 with
      | zero =>
        have e0 : ((C1 : Nat) : Int) = (C0 : Int) + 1 := by rw [HC]; rfl
        clear HC
        rw [show errVal a 0 = Value.nilIface from rfl] at HT2
        go_wp2_with fail
        refine HT2.mono ?_
        rintro e w1 ⟨rfl, v', hk'⟩
        have H1 := HR.out v' w1 hk'
        clear hk' HR
        go_wp2
        go_roundw
        case rel => exact ⟨j + 1, by omega, by go_num, by rw [HC1.out, e0], H1⟩
        case measure => simp [intOf]; omega
      | succ E2 =>
        have e0 : C1 = C0 := by rw [HC]; rfl
        clear HC
        rw [show errVal a (E2 + 1) = errAt (a E2) from rfl] at HT2
        go_wp2_with fail
        refine HT2.mono ?_
        rintro e w1 ⟨rfl, v', hk'⟩
        have H1 := HR.out v' w1 hk'
        clear hk' HR
        go_wp2
        go_roundw
        case rel => exact ⟨j + 1, by omega, by go_num, by rw [HC1.out, e0], H1⟩
        case measure => simp [intOf]; omega
    · obtain rfl : j = l.length := by omega
      rw [List.take_length] at hk hx ⊢
      have H1 := hide hk
      have H2 := hide hx
      clear hk hx hn H0 HD
      go_wp2
      go_ret
      exact ⟨rfl, v, H1.out, H2.out⟩
end Go.Proofs.YtnnlkolhahjokaaGreatDoor

/- WkP -/
namespace Go.Proofs.YtnnlkolhahjokaaGreatDoor
open Go.RowKit

def wordNums (s : Ar) (c : Nat) : List Int := if s.there c = true then [4, s.words c 0, s.words c 1, s.words c 2, s.words c 3] else [0]
theorem wordNums_len (s : Ar) (c : Nat) : 0 < (wordNums s c).length ∧ (wordNums s c).length ≤ 5 := by
  unfold wordNums
  split <;> simp
def arNums (s : Ar) : Nat → Nat → List Int
  | 0, _ => []
  | n + 1, c => (s.given c : Int) :: if s.given c = 0 then [] else wordNums s c ++ arNums s n (c + 1)
theorem arNums_len (s : Ar) : ∀ (n c : Nat), (arNums s n c).length ≤ 6 * n
  | 0, _ => Nat.zero_le _
  | n + 1, c => by
    unfold arNums
    rw [List.length_cons]
    split
    · simp; omega
    · have := arNums_len s n (c + 1)
      have := (wordNums_len s c).2
      rw [List.length_append]; omega
def wtNums (x : Wt) : List Int := [x.c, x.g, x.w, x.v]
def lnNums (l : List Wt) : List Int := (l.length : Int) :: l.flatMap wtNums
theorem wts_len (l : List Wt) : (l.flatMap wtNums).length = 4 * l.length := by
  induction l with
  | nil => rfl
  | cons x l ih => rw [List.flatMap_cons, List.length_append, ih, List.length_cons]; show 4 + _ = _; omega
theorem lnNums_len (l : List Wt) : (lnNums l).length = 4 * l.length + 1 := by
  unfold lnNums
  rw [List.length_cons, wts_len]
def linesNums (s : Rm) : Nat → List Int
  | 0 => []
  | n + 1 => linesNums s n ++ lnNums (s.waits n)
def memNums (s : Rm) : List Int := arNums s.ar s.ar.size 0 ++ linesNums s s.threads
def thrNums (m : Mk) (t : Nat) : List Int := [m.regs t 0, m.regs t 1, m.regs t 2, m.regs t 3, m.regs t 4, m.regs t 5, m.regs t 6, m.regs t 7] ++ [(m.pc t : Int)]
def thrsNums (m : Mk) : Nat → List Int
  | 0 => []
  | n + 1 => thrsNums m n ++ thrNums m n
def mkNums (n : Nat) (m : Mk) : List Int := memNums m.mem ++ thrsNums m n

def cellsLike (s s' : Ar) (c : Nat) : Prop := s.given c = s'.given c ∧ s.there c = s'.there c ∧ (s.there c = true → ∀ k, k < 4 → s.words c k = s'.words c k)
def GivenOk (s : Ar) : Prop := ∀ c d, c < s.size → c ≤ d → d < s.size → s.given c = 0 → s.given d = 0 ∧ s.there d = false
end Go.Proofs.YtnnlkolhahjokaaGreatDoor

/- WkA -/
namespace Go.Proofs.YtnnlkolhahjokaaGreatDoor
open Go.RowKit Go.Extern.Stop Go.Stop Go.Extern Go.Maps Go.WideMaps Go.Sort

theorem wkInt : ∃ i, (Tryz.prog).info? 3 = some i ∧ i.zero = some (.int .i64 0) ∧ i.size = 1 ∧ i.bytes = 8 := info_parts (by kernel_rfl)
def ncells (l : List Int) : List Value := l.map (Value.int .i64)
def numsOwn (w : World) (base : Nat) (v : Value) (l : List Int) : Prop := w.ownsRow base 3 1 v l.length (ncells l)
theorem numsOwn_nil (w : World) (base : Nat) : numsOwn w base (.slice none 0 0) [] := World.ownsRow_nil _ _ _ _
theorem ncells_append (a b : List Int) : ncells (a ++ b) = ncells a ++ ncells b := by simp [ncells]
theorem numsOwn_keep {w w' : World} {base : Nat} {v : Value} {l : List Int} (h : numsOwn w base v l) (k : Below w.heap.size w w') : numsOwn w' base v l :=
  ownsRow_block h (fun b hb => k.block b (h.lt b hb).2)
theorem numsOwn_mono {w : World} {base base' : Nat} {v : Value} {l : List Int} (h : numsOwn w base v l) (hb : base' ≤ base) : numsOwn w base' v l := by
  obtain ⟨h1, h2⟩ := h
  refine ⟨h1, ?_⟩
  rcases h2 with h2 | ⟨g, cap, cur, e, hg, r⟩
  · exact .inl h2
  · exact .inr ⟨g, cap, cur, e, Nat.le_trans hb hg, r⟩
theorem numsOwn_at {w : World} {base : Nat} {v : Value} {l : List Int} (h : numsOwn w base v l) : ∃ ad cap, v = .slice ad l.length cap ∧ l.length ≤ cap ∧ numsAt ad l w := by
  obtain ⟨g, c, rfl, h1, h2, h3⟩ := ownsRow_shape h
  refine ⟨g, c, rfl, h1, fun i x hx => ?_⟩
  obtain ⟨gg, e, hc⟩ := h3 i (.int .i64 x) (by unfold ncells; rw [List.getElem?_map, hx]; rfl)
  exact ⟨gg, 0, e, by rw [Nat.zero_add]; exact hc⟩
theorem numsOwn_open {w : World} {base : Nat} {v : Value} {l : List Int} (h : numsOwn w base v l) (h1 : 0 < l.length) : ∃ ad cap, v = .slice (some ad) l.length cap ∧ numsAt (some ad) l w := by
  obtain ⟨ad, cap, rfl, -, h4⟩ := numsOwn_at h
  obtain ⟨y, hy⟩ : ∃ y, l[0]? = some y := ⟨_, List.getElem?_eq_getElem h1⟩
  obtain ⟨b, off, rfl, -⟩ := h4 0 y hy
  exact ⟨_, cap, rfl, h4⟩
theorem numsOwn_new {w : World} {l : List Int} {cs : Array Value} {base : Nat} (h : cs.toList = ncells l) (hb : base ≤ w.heap.size) (hl : l.length ≤ 1000000) : numsOwn (w.alloc (.cells cs 3)) base (.slice (some ⟨w.heap.size, 0, none⟩) l.length l.length) l := by
  have hn : (ncells l).length = l.length := by simp [ncells]
  refine ⟨by rw [hn, Nat.mul_one], .inr ⟨w.heap.size, l.length, cs, rfl, hb, heap_new w _, Nat.le_refl _, by unfold maxLen; omega, ?_, ?_⟩⟩
  · rw [← Array.length_toList, h, hn, Nat.mul_one]
  · rw [h, Nat.mul_one, ← hn, List.take_length]
theorem numsAt_new {w : World} {l : List Int} {cs : Array Value} {t : TypeId} (h : cs.toList = ncells l) : numsAt (some ⟨w.heap.size, 0, none⟩) l (w.alloc (.cells cs t)) := by
  intro i x hx
  refine ⟨w.heap.size, 0, rfl, ?_⟩
  rw [World.cell?_alloc_new, Nat.zero_add, ← Array.getElem?_toList, h]
  unfold ncells
  rw [List.getElem?_map, hx]
  rfl

theorem wpList_append_ints {ops : Array Oper} {rest : List Oper} {o : Oper} {a : Act} (w : World) {Q : Exit → Act → World → Prop} (hgd : o.guard = none) (s x : Operand)
    (ho : o.op = .call { callee := .builtin .append, args := #[s, x], argTypes := #[26, 26] }) (base : Nat) (l0 l : List Int) (v : Value) (ad : Addr) (cap : Nat)
    (hs : a.eval s = v) (hown : numsOwn w base v l0) (hx : a.eval x = .slice (some ad) l.length cap) (hl : numsAt (some ad) l w) (h3 : l0.length + l.length ≤ 1000000) (hb : base ≤ w.heap.size)
    (h : ∀ v' w', numsOwn w' base v' (l0 ++ l) → Below base w w' → w.heap.size ≤ w'.heap.size → w.grownBy w' v.ownBlock → (v'.ownBlock = v.ownBlock ∨ v'.ownBlock = some w.heap.size) → wpList Tryz.prog ops Q rest (a.put o.dst v') w') : wpList Tryz.prog ops Q (o :: rest) a w := by
  obtain ⟨ri, hri, hrz, hrs, hrb⟩ := wkInt
  refine wpList_append_own_at w hgd s x 26 ho base 3 ri (.int .i64 0) 1 8 Tryz.underlying26 hri hrz hrs hrb rfl (by decide) v l0.length (ncells l0) hs hown ad l.length cap (ncells l) hx (by unfold ncells; rw [List.length_map, Nat.mul_one]) (fun j u hj => ?_) (fun u hu => ?_) (by unfold maxLen; omega) (by omega) hb (fun v' w' h2 hg _ hloc => ?_)
  · unfold ncells at hj
    rw [List.getElem?_map] at hj
    cases hxj : l[j]? with
    | none => rw [hxj] at hj; cases hj
    | some y =>
      rw [hxj] at hj; cases hj
      obtain ⟨_, _, e, c⟩ := hl j y hxj
      cases e
      rw [Addr.add_lit]; exact c
  · obtain ⟨y, _, rfl⟩ := List.mem_map.1 hu; rfl
  · have hB : Below base w w' := (Below.refl base w).grown hg hb (fun k hk => (hown.lt k hk).1)
    refine h v' w' ?_ hB hB.size hg hloc
    unfold numsOwn
    rw [List.length_append, ncells_append]
    exact h2

theorem numsOwn_set {w : World} {base g cap n : Nat} {l : List Int} (h : numsOwn w base (.slice (some ⟨g, 0, none⟩) n cap) l) (j : Nat) (x : Int) : numsOwn (w.setCell ⟨g, j, none⟩ (.int .i64 x)) base (.slice (some ⟨g, 0, none⟩) n cap) (l.set j x) := by
  obtain ⟨h1, h2⟩ := h
  rcases h2 with ⟨e, -⟩ | ⟨g', cap', cur, e, hg, hh, hn, hm, hs, hc⟩
  · cases e
  · cases e
    refine ⟨by unfold ncells; simp, .inr ⟨g, cap, cur.setIfInBounds j (.int .i64 x), by rw [List.length_set], hg, heap_setCell_same w g j cur _ _ hh, by rw [List.length_set]; exact hn, hm, by simpa using hs, ?_⟩⟩
    rw [List.length_set, Array.toList_setIfInBounds, List.take_set, hc]
    unfold ncells
    rw [List.map_set]
theorem numsOwn_cell {w : World} {base g cap n : Nat} {l : List Int} (h : numsOwn w base (.slice (some ⟨g, 0, none⟩) n cap) l) {j : Nat} {x : Int} (hx : l[j]? = some x) : w.cell? ⟨g, j, none⟩ = some (.int .i64 x) ∧ w.frozen? ⟨g, j, none⟩ = false := by
  have hl := (List.getElem?_eq_some_iff.1 hx).1
  obtain rfl : n = l.length := by
    obtain ⟨ad, c, e, -⟩ := numsOwn_at h
    cases e; rfl
  refine ⟨?_, ?_⟩
  · unfold numsOwn at h
    rw [World.ownsRow.cellAt h j (by rw [Nat.mul_one]; exact hl)]
    unfold ncells
    rw [List.getElem?_map, hx]; rfl
  · obtain ⟨h1, h2⟩ := h
    rcases h2 with ⟨e, -⟩ | ⟨g', cap', cur, e, hg, hh, hn, hm, hs, hc⟩
    · cases e
    · cases e
      exact frozen_of_row w g j cur _ hh

set_option maxRecDepth 20000 in
set_option maxHeartbeats 1000000 in
theorem wordsOf_any {b o : Nat} {s : Ar} {w : World} (h : ArAt b o s w) {c : Nat} (hc : c < 64) :
    Calls Tryz.prog 108 #[.pointer (some ⟨b, o, none⟩), .int .i64 c] w fun e w' => ∃ v, e = .returned v ∧ numsOwn w' w.heap.size v (wordNums s c) ∧ Below w.heap.size w w' := by
  have ht := h.there c hc
  have ci : (c : Int) < 64 := by omega
  have w0 : w.cell? ⟨b, o + 1 + c * 4, none⟩ = some (.int .u32 (s.words c 0)) := h.words c 0 hc (by decide)
  have w1 := h.words c 1 hc (by decide)
  have w2 := h.words c 2 hc (by decide)
  have w3 := h.words c 3 hc (by decide)
  have r0 := h.range c 0
  have r1 := h.range c 1
  have r2 := h.range c 2
  have r3 := h.range c 3
  have y0 := h.lt
  have HH := hide h
  clear h
  cases hth : s.there c
  · have hw : wordNums s c = [0] := by unfold wordNums; rw [hth]; rfl
    rw [hth] at ht
    rw [hw]
    go_enter Tryz.func108, Tryz.ntmps108
    go_wp2_with fail
    go_ret
    exact ⟨_, rfl, numsOwn_new (l := [0]) rfl (Nat.le_refl _) (by decide), (Below.refl _ _).alloc (Nat.le_refl _) _⟩
  · have hw : wordNums s c = [4, s.words c 0, s.words c 1, s.words c 2, s.words c 3] := by unfold wordNums; rw [hth]; rfl
    rw [hth] at ht
    rw [hw]
    go_enter Tryz.func108, Tryz.ntmps108
    generalize s.words c 0 = x0 at *
    generalize s.words c 1 = x1 at *
    generalize s.words c 2 = x2 at *
    generalize s.words c 3 = x3 at *
    have q0 : IntKind.i64.wrap x0 = x0 := by rw [IntKind.wrap_i64]; omega
    have q1 : IntKind.i64.wrap x1 = x1 := by rw [IntKind.wrap_i64]; omega
    have q2 : IntKind.i64.wrap x2 = x2 := by rw [IntKind.wrap_i64]; omega
    have q3 : IntKind.i64.wrap x3 = x3 := by rw [IntKind.wrap_i64]; omega
    have ix0 : ∀ w, (Instr.index 58 (.agg #[.int .u32 x0, .int .u32 x1, .int .u32 x2, .int .u32 x3]) (.int .i64 0)).run Tryz.prog w = .ok (.int .u32 x0) w := fun _ => rfl
    have ix1 : ∀ w, (Instr.index 58 (.agg #[.int .u32 x0, .int .u32 x1, .int .u32 x2, .int .u32 x3]) (.int .i64 1)).run Tryz.prog w = .ok (.int .u32 x1) w := fun _ => rfl
    have ix2 : ∀ w, (Instr.index 58 (.agg #[.int .u32 x0, .int .u32 x1, .int .u32 x2, .int .u32 x3]) (.int .i64 2)).run Tryz.prog w = .ok (.int .u32 x2) w := fun _ => rfl
    have ix3 : ∀ w, (Instr.index 58 (.agg #[.int .u32 x0, .int .u32 x1, .int .u32 x2, .int .u32 x3]) (.int .i64 3)).run Tryz.prog w = .ok (.int .u32 x3) w := fun _ => rfl
    clear HH hth hw
    go_wp2_with fail
    go_loopw [5, 7, 23] (fun l _ i wr => ∃ j : Nat, j ≤ 4 ∧ i = .int .i64 j ∧ Hid (numsOwn wr w.heap.size l (4 :: [x0, x1, x2, x3].take j)) ∧ Below w.heap.size w wr) (fun _ _ i _ => 4 - (intOf i).toNat)
    case atStart => exact ⟨0, Nat.zero_le _, rfl, numsOwn_new (l := [4]) rfl (Nat.le_refl _) (by decide), (Below.refl _ _).alloc (Nat.le_refl _) _⟩
    case round =>
      obtain ⟨j, hj, rfl, HO, HB⟩ := hrel
      have hc5 : j = 0 ∨ j = 1 ∨ j = 2 ∨ j = 3 ∨ j = 4 := by omega
      rcases hc5 with rfl | rfl | rfl | rfl | rfl
      · rw [show ((0 : Nat) : Int) = 0 from rfl]
        go_wp2_with (at_builtin; refine wpList_append_ints _ rfl _ _ rfl w.heap.size (4 :: [x0, x1, x2, x3].take 0) [x0] _ _ _ rfl ?q1 rfl ?q2 ?q3 ?q4 ?_)
        case q1 => exact numsOwn_keep HO.out ((Below.refl _ _).alloc (Nat.le_refl _) _)
        case q2 => exact numsAt_new rfl
        case q3 => show 1 + 1 ≤ 1000000; omega
        case q4 => have := HB.size; simp; omega
        intro v' w1 ho hb1 hs1 hg1 hloc
        have HO2 : Hid (numsOwn w1 w.heap.size v' (4 :: [x0, x1, x2, x3].take (0 + 1))) := ho
        have HB2 := (HB.alloc HB.size _).trans hb1
        clear ho hb1 hs1 hg1 hloc HO HB
        go_wp2
        go_roundw
        case rel => exact ⟨0 + 1, by omega, by go_num, HO2, HB2⟩
        case measure => simp [intOf]
      · rw [show ((1 : Nat) : Int) = 1 from rfl]
        go_wp2_with (at_builtin; refine wpList_append_ints _ rfl _ _ rfl w.heap.size (4 :: [x0, x1, x2, x3].take 1) [x1] _ _ _ rfl ?q1 rfl ?q2 ?q3 ?q4 ?_)
        case q1 => exact numsOwn_keep HO.out ((Below.refl _ _).alloc (Nat.le_refl _) _)
        case q2 => exact numsAt_new rfl
        case q3 => show 2 + 1 ≤ 1000000; omega
        case q4 => have := HB.size; simp; omega
        intro v' w1 ho hb1 hs1 hg1 hloc
        have HO2 : Hid (numsOwn w1 w.heap.size v' (4 :: [x0, x1, x2, x3].take (1 + 1))) := ho
        have HB2 := (HB.alloc HB.size _).trans hb1
        clear ho hb1 hs1 hg1 hloc HO HB
        go_wp2
        go_roundw
        case rel => exact ⟨1 + 1, by omega, by go_num, HO2, HB2⟩
        case measure => simp [intOf]
      · rw [show ((2 : Nat) : Int) = 2 from rfl]
        go_wp2_with (at_builtin; refine wpList_append_ints _ rfl _ _ rfl w.heap.size (4 :: [x0, x1, x2, x3].take 2) [x2] _ _ _ rfl ?q1 rfl ?q2 ?q3 ?q4 ?_)
        case q1 => exact numsOwn_keep HO.out ((Below.refl _ _).alloc (Nat.le_refl _) _)
        case q2 => exact numsAt_new rfl
        case q3 => show 3 + 1 ≤ 1000000; omega
        case q4 => have := HB.size; simp; omega
        intro v' w1 ho hb1 hs1 hg1 hloc
        have HO2 : Hid (numsOwn w1 w.heap.size v' (4 :: [x0, x1, x2, x3].take (2 + 1))) := ho
        have HB2 := (HB.alloc HB.size _).trans hb1
        clear ho hb1 hs1 hg1 hloc HO HB
        go_wp2
        go_roundw
        case rel => exact ⟨2 + 1, by omega, by go_num, HO2, HB2⟩
        case measure => simp [intOf]
      · rw [show ((3 : Nat) : Int) = 3 from rfl]
        go_wp2_with (at_builtin; refine wpList_append_ints _ rfl _ _ rfl w.heap.size (4 :: [x0, x1, x2, x3].take 3) [x3] _ _ _ rfl ?q1 rfl ?q2 ?q3 ?q4 ?_)
        case q1 => exact numsOwn_keep HO.out ((Below.refl _ _).alloc (Nat.le_refl _) _)
        case q2 => exact numsAt_new rfl
        case q3 => show 4 + 1 ≤ 1000000; omega
        case q4 => have := HB.size; simp; omega
        intro v' w1 ho hb1 hs1 hg1 hloc
        have HO2 : Hid (numsOwn w1 w.heap.size v' (4 :: [x0, x1, x2, x3].take (3 + 1))) := ho
        have HB2 := (HB.alloc HB.size _).trans hb1
        clear ho hb1 hs1 hg1 hloc HO HB
        go_wp2
        go_roundw
        case rel => exact ⟨3 + 1, by omega, by go_num, HO2, HB2⟩
        case measure => simp [intOf]
      · rw [show ((4 : Nat) : Int) = 4 from rfl]
        go_wp2_with fail
        go_ret
        exact ⟨_, rfl, HO.out, HB⟩

theorem arNums_succ {s : Ar} {n c : Nat} (h : ¬ s.given c = 0) : arNums s (n + 1) c = (s.given c : Int) :: (wordNums s c ++ arNums s n (c + 1)) := by
  rw [arNums, if_neg h]
theorem arNums_stop {s : Ar} {n c : Nat} (h : s.given c = 0) : arNums s (n + 1) c = [(s.given c : Int)] := by
  rw [arNums, if_pos h]

set_option maxRecDepth 20000 in
set_option maxHeartbeats 2000000 in
theorem arState_any {b o : Nat} {s : Ar} {w : World} (h : ArAt b o s w) :
    Calls Tryz.prog 100 #[.pointer (some ⟨b, o, none⟩)] w fun e w' => ∃ v, e = .returned v ∧ numsOwn w' w.heap.size v (arNums s s.size 0) ∧ Below w.heap.size w w' := by
  have HC := hide (cells_any b o s w h)
  have hz := h.small
  have HH := hide h
  clear h
  go_enter Tryz.func100, Tryz.ntmps100
  go_wp2_with fail
  refine HC.out.mono ?_
  rintro e w1 ⟨rfl, rfl⟩
  clear HC
  go_wp2_with fail
  go_loopw [3, 4, 7] (fun l _ i wr => ∃ j : Nat, j ≤ s.size ∧ i = .int .i64 j ∧ Hid (∃ pre, numsOwn wr w1.heap.size l pre ∧ pre ++ arNums s (s.size - j) j = arNums s s.size 0 ∧ pre.length ≤ 6 * j) ∧ Below w1.heap.size w1 wr) (fun _ _ i _ => s.size - (intOf i).toNat)
  case atStart => exact ⟨0, Nat.zero_le _, rfl, ⟨[], numsOwn_nil _ _, rfl, Nat.le_refl _⟩, Below.refl _ _⟩
  case round =>
    obtain ⟨j, hj, rfl, HO, HB⟩ := hrel
    by_cases hlt : j < s.size
    · obtain ⟨pre, ho, hp, hpl⟩ := HO.out
      have ji : (j : Int) < s.size := by omega
      have j64 : (j : Int) < 64 := by omega
      have hr := HH.out.turns (Turns.of_below (S := fun _ _ => False) HB) (fun _ _ h => h)
      have hg := hr.given j (by omega)
      have yb := hr.lt
      have HW := hide (fun w' (k : Below wr.heap.size wr w') => wordsOf_any (hr.turns (Turns.of_below (S := fun _ _ => False) k) (fun _ _ h => h)) (c := j) (by omega))
      have HO1 := hide ho
      have HP := hide hp
      have hn : s.size - j = (s.size - (j + 1)) + 1 := by omega
      clear hr ho hp HO
      go_wp2_with (at_builtin; refine wpList_append_ints _ rfl _ _ rfl w1.heap.size pre [(s.given j : Int)] _ _ _ rfl ?q1 rfl ?q2 ?q3 ?q4 ?_)
      case q1 => exact numsOwn_keep HO1.out ((Below.refl _ _).alloc (Nat.le_refl _) _)
      case q2 => exact numsAt_new rfl
      case q3 => show pre.length + 1 ≤ 1000000; omega
      case q4 => have := HB.size; simp; omega
      intro v' w2 ho2 hb2 hs2 hgr hloc
      have HO2 := hide ho2
      have HB2 := (HB.alloc HB.size _).trans hb2
      have hr2 := HH.out.below HB2
      have hg2 := hr2.given j (by omega)
      have yb2 := hr2.lt
      have HW := hide (wordsOf_any hr2 (c := j) (by omega))
      clear ho2 hb2 hs2 hgr hloc hr2 hg yb HO1 HB
      by_cases hz0 : s.given j = 0
      · have z1 : ((s.given j : Nat) : Int) = 0 := by omega
        have HZ : Hid (numsOwn w2 w1.heap.size v' (arNums s s.size 0)) := by
          rw [← HP.out, hn, arNums_stop hz0]; exact HO2.out
        clear HO2 HP HW hn
        generalize ((s.given j : Nat) : Int) = g at *
        subst z1
        go_wp2_with fail
        go_ret
        exact ⟨_, rfl, HZ.out, HB2⟩
      · have z1 : ¬ ((s.given j : Nat) : Int) = 0 := by omega
        have z2 : (((s.given j : Nat) : Int) == 0) = false := beq_eq_false_iff_ne.2 z1
        have HP2 : Hid ((pre ++ [(s.given j : Int)] ++ wordNums s j) ++ arNums s (s.size - (j + 1)) (j + 1) = arNums s s.size 0) := by
          have e := HP.out
          rw [hn, arNums_succ hz0] at e
          show _ = _
          rw [← e]
          simp
        have wl := wordNums_len s j
        clear HP hn hz0
        generalize ((s.given j : Nat) : Int) = g at *
        go_wp2_with fail
        refine HW.out.mono ?_
        rintro e w3 ⟨u, rfl, hu, hb3⟩
        obtain ⟨au, cu, rfl, hua⟩ := numsOwn_open hu wl.1
        have HO3 := hide (numsOwn_keep HO2.out hb3)
        have HU := hide hua
        have HB3 := below_step HB2 hb3
        clear HO2 hu hua hb3 HW HB2 hg2 yb2
        generalize hL : wordNums s j = L at *
        clear hL
        go_wp2_with (at_builtin; refine wpList_append_ints _ rfl _ _ rfl w1.heap.size (pre ++ [g]) L _ _ _ rfl ?q1 rfl ?q2 ?q3 ?q4 ?_)
        case q1 => exact HO3.out
        case q2 => exact HU.out
        case q3 => rw [List.length_append]; show pre.length + 1 + L.length ≤ 1000000; omega
        case q4 => exact HB3.size
        intro v4 w4 ho4 hb4 hs4 hgr4 hloc4
        have HB4 := HB3.trans hb4
        have HZ : Hid (∃ pre, numsOwn w4 w1.heap.size v4 pre ∧ pre ++ arNums s (s.size - (j + 1)) (j + 1) = arNums s s.size 0 ∧ pre.length ≤ 6 * (j + 1)) := ⟨pre ++ [g] ++ L, by simpa using ho4, HP2.out, by simp only [List.length_append]; show pre.length + 1 + L.length ≤ _; omega⟩
        clear ho4 hb4 hs4 hgr4 hloc4 HO3 HB3 HU HP2
        go_wp2
        go_roundw
        case rel => exact ⟨j + 1, by omega, by go_num, HZ, HB4⟩
        case measure => simp [intOf]; omega
    · obtain rfl : j = s.size := by omega
      obtain ⟨pre, ho, hp, -⟩ := HO.out
      rw [Nat.sub_self] at hp
      have HZ : Hid (numsOwn wr w1.heap.size u3 (arNums s s.size 0)) := by
        rw [← hp]
        have : pre ++ arNums s 0 s.size = pre := List.append_nil _
        rw [this]; exact ho
      clear HO ho hp
      go_wp2_with fail
      go_ret
      exact ⟨_, rfl, HZ.out, HB⟩
end Go.Proofs.YtnnlkolhahjokaaGreatDoor
