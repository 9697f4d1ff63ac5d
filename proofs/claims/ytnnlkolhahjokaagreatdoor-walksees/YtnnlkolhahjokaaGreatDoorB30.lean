import Derived.Test.YtnnlkolhahjokaaGreatDoorB29
import Derived.Laws.Rows
import Derived.Laws.Tables

/- StH -/
namespace Go.Proofs.YtnnlkolhahjokaaGreatDoor
open Go.RowKit Go.Extern.Stop Go.Stop Go.Extern Go.Maps Go.WideMaps Go.Sort

theorem fold_get : ∀ (l : List Value) (n off : Nat) (Z : Array Value) (k : Nat), ((l.zipIdx n).foldl (fun acc (p : Value × Nat) => acc.setIfInBounds (off + p.2) p.1) Z)[k]? = if off + n ≤ k ∧ k < off + n + l.length ∧ k < Z.size then l[k - (off + n)]? else Z[k]?
  | [], n, off, Z, k => by rw [if_neg (by simp; omega)]; rfl
  | x :: l, n, off, Z, k => by
    rw [List.zipIdx_cons, List.foldl_cons, fold_get l (n + 1) off]
    rw [Array.size_setIfInBounds, List.length_cons]
    by_cases h1 : off + (n + 1) ≤ k ∧ k < off + (n + 1) + l.length ∧ k < Z.size
    · rw [if_pos h1, if_pos (by omega), show k - (off + n) = (k - (off + (n + 1))) + 1 by omega, List.getElem?_cons_succ]
    · rw [if_neg h1, Array.getElem?_setIfInBounds]
      by_cases h2 : off + n = k
      · subst h2
        rw [if_pos rfl]
        by_cases h3 : off + n < Z.size
        · rw [if_pos h3, if_pos (by omega), Nat.sub_self]; rfl
        · rw [if_neg h3, if_neg (by omega), Array.getElem?_eq_none (by omega)]
      · rw [if_neg h2, if_neg (by omega)]
theorem fold_size : ∀ (l : List Value) (n off : Nat) (Z : Array Value), ((l.zipIdx n).foldl (fun acc (p : Value × Nat) => acc.setIfInBounds (off + p.2) p.1) Z).size = Z.size
  | [], n, off, Z => rfl
  | x :: l, n, off, Z => by rw [List.zipIdx_cons, List.foldl_cons, fold_size l (n + 1) off, Array.size_setIfInBounds]

theorem built_any (parts : List (Nat × Value)) : Tryz.prog.built 80 parts = Instr.fill ((#[(0, 584), (584, 1), (585, 54), (639, 1), (640, 1)] : Array (Nat × Nat))[·]?) Tryz.zeroCells80 parts := by kernel_rfl
theorem zeroK : Tryz.zeroCells80 = (((.int .i64 0 :: List.replicate 256 (.int .u32 0)) ++ List.replicate 64 (.bool false) ++ List.replicate 263 (.int .i64 0)) ++ (.slice none 0 0 :: List.replicate 54 (.int .i64 0)) ++ [.slice none 0 0, .int .i64 0] : List Value).toArray := by kernel_rfl
theorem tail_len (A : List Value) (x z y u : Value) (n : Nat) : ((A ++ (x :: List.replicate n z)) ++ [y, u]).length = A.length + n + 3 := by
  rw [List.length_append, List.length_append, List.length_cons, List.length_replicate]; simp only [List.length_cons, List.length_nil]; omega
theorem tail_reg (A : List Value) (x z y u : Value) (n k : Nat) (h1 : A.length + 1 ≤ k) (h2 : k < A.length + 1 + n) : ((A ++ (x :: List.replicate n z)) ++ [y, u])[k]? = some z := by
  rw [List.getElem?_append_left (by rw [List.length_append, List.length_cons, List.length_replicate]; omega), List.getElem?_append_right (by omega), show k - A.length = (k - A.length - 1) + 1 by omega, List.getElem?_cons_succ, List.getElem?_replicate, if_pos (by omega)]
theorem tail_one (A : List Value) (x z y u : Value) (n k : Nat) (h1 : k = A.length + 1 + n) : ((A ++ (x :: List.replicate n z)) ++ [y, u])[k]? = some y := by
  have e : (A ++ (x :: List.replicate n z)).length = k := by rw [List.length_append, List.length_cons, List.length_replicate]; omega
  rw [List.getElem?_append_right (by omega), e, Nat.sub_self]; rfl
theorem tail_two (A : List Value) (x z y u : Value) (n k : Nat) (h1 : k = A.length + 1 + n + 1) : ((A ++ (x :: List.replicate n z)) ++ [y, u])[k]? = some u := by
  have e : (A ++ (x :: List.replicate n z)).length + 1 = k := by rw [List.length_append, List.length_cons, List.length_replicate]; omega
  rw [List.getElem?_append_right (by omega), show k - (A ++ (x :: List.replicate n z)).length = 1 by omega]; rfl
theorem zeroK_at : ∃ A : List Value, A.length = 584 ∧ Tryz.zeroCells80 = ((A ++ (.slice none 0 0 :: List.replicate 54 (.int .i64 0))) ++ [.slice none 0 0, .int .i64 0] : List Value).toArray := ⟨_, rows_len _ _ _ _ _ _ _, zeroK⟩
theorem zeroK_size : Tryz.zeroCells80.size = 641 := by
  obtain ⟨A, hA, e⟩ := zeroK_at
  rw [e, List.size_toArray, tail_len, hA]
theorem zeroK_reg (k : Nat) (h1 : 585 ≤ k) (h2 : k < 639) : Tryz.zeroCells80[k]? = some (.int .i64 0) := by
  obtain ⟨A, hA, e⟩ := zeroK_at
  rw [e, List.getElem?_toArray, tail_reg _ _ _ _ _ _ _ (by omega) (by omega)]
theorem zeroK_marks : Tryz.zeroCells80[639]? = some (.slice none 0 0) := by
  obtain ⟨A, hA, e⟩ := zeroK_at
  rw [e, List.getElem?_toArray, tail_one _ _ _ _ _ _ _ (by omega)]
theorem zeroK_faults : Tryz.zeroCells80[640]? = some (.int .i64 0) := by
  obtain ⟨A, hA, e⟩ := zeroK_at
  rw [e, List.getElem?_toArray, tail_two _ _ _ _ _ _ _ (by omega)]

theorem fill_cons (place : Nat → Option (Nat × Nat)) (cells : Array Value) (i : Nat) (v : Value) (rest : List (Nat × Value)) (off size : Nat) (hp : place i = some (off, size)) (h1 : v.cells.size = size) (h2 : off + size ≤ cells.size) :
    Instr.fill place cells ((i, v) :: rest) = Instr.fill place ((v.cells.toList.zipIdx 0).foldl (fun acc (p : Value × Nat) => acc.setIfInBounds (off + p.2) p.1) cells) rest := by
  rw [Instr.fill, hp]
  dsimp only
  rw [if_neg (by simp [h1]; omega), ← Array.foldl_toList, Array.toList_zipIdx]

theorem mach_made (N : Array Value) (hN : N.size = 584) (v : Value) (hv : v.cells = #[v]) : ∃ C : Array Value, Tryz.prog.built 80 [(0, .agg N), (1, v)] = some C ∧ C.size = 641 ∧ (∀ k, k < 584 → C[k]? = N[k]?) ∧ C[584]? = some v ∧ (∀ k, 585 ≤ k → k < 639 → C[k]? = some (.int .i64 0)) ∧ C[639]? = some (.slice none 0 0) ∧ C[640]? = some (.int .i64 0) := by
  have hl : N.toList.length = 584 := by rw [Array.length_toList]; exact hN
  have key : ∀ k, ((N.toList.zipIdx 0).foldl (fun acc (p : Value × Nat) => acc.setIfInBounds (0 + p.2) p.1) Tryz.zeroCells80)[k]? = if k < 584 then N[k]? else Tryz.zeroCells80[k]? := fun k => by
    rw [fold_get, zeroK_size, hl]
    by_cases h : k < 584
    · rw [if_pos (by omega), if_pos h, Nat.add_zero, Nat.sub_zero, Array.getElem?_toList]
    · rw [if_neg (by omega), if_neg h]
  refine ⟨((N.toList.zipIdx 0).foldl (fun acc (p : Value × Nat) => acc.setIfInBounds (0 + p.2) p.1) Tryz.zeroCells80).setIfInBounds 584 v, ?_, ?_, fun k hk => ?_, ?_, fun k h1 h2 => ?_, ?_, ?_⟩
  · rw [built_any]
    refine (fill_cons _ _ 0 (.agg N) [(1, v)] 0 584 ?_ hN ?_).trans ?_
    · rfl
    · rw [zeroK_size]; decide
    refine (fill_cons _ _ 1 v [] 584 1 ?_ ?_ ?_).trans ?_
    · rfl
    · rw [hv]; rfl
    · rw [fold_size, zeroK_size]; decide
    · rw [hv]; rfl
  · rw [Array.size_setIfInBounds, fold_size, zeroK_size]
  · rw [Array.getElem?_setIfInBounds, if_neg (by omega), key, if_pos hk]
  · rw [Array.getElem?_setIfInBounds, if_pos rfl, if_pos (by rw [fold_size, zeroK_size]; decide)]
  · rw [Array.getElem?_setIfInBounds, if_neg (by omega), key, if_neg (by omega), zeroK_reg k h1 h2]
  · rw [Array.getElem?_setIfInBounds, if_neg (by omega), key, if_neg (by omega), zeroK_marks]
  · rw [Array.getElem?_setIfInBounds, if_neg (by omega), key, if_neg (by omega), zeroK_faults]

theorem ArAt.move {b b' o : Nat} {s : Ar} {w w' : World} (h : ArAt b o s w) (hc : ∀ k, k < o + 385 → w'.cell? ⟨b', k, none⟩ = w.cell? ⟨b, k, none⟩) (hf : ∀ k, w'.frozen? ⟨b', k, none⟩ = false) : ArAt b' o s w' where
  small := h.small
  size := by rw [hc _ (by omega)]; exact h.size
  words c k h1 h2 := by rw [hc _ (by omega)]; exact h.words c k h1 h2
  range := h.range
  there c h1 := by rw [hc _ (by omega)]; exact h.there c h1
  given c h1 := by rw [hc _ (by omega)]; exact h.given c h1
  bound := h.bound
  frozen k _ := hf _
theorem LnAt.move {b b' o : Nat} {l : List Wt} {w w' : World} (h : LnAt b o l w) (hc : ∀ k, k < o + 33 → w'.cell? ⟨b', k, none⟩ = w.cell? ⟨b, k, none⟩) (hf : ∀ k, w'.frozen? ⟨b', k, none⟩ = false) : LnAt b' o l w' where
  le := h.le
  len := by rw [hc _ (by omega)]; exact h.len
  row i k h1 h2 := by rw [hc _ (by omega)]; exact h.row i k h1 h2
  frozen k _ := hf _
theorem MmAt.move {b b' : Nat} {s : Rm} {w w' : World} (h : MmAt b s w) (hc : ∀ k, k < 584 → w'.cell? ⟨b', k, none⟩ = w.cell? ⟨b, k, none⟩) (hf : ∀ k, w'.frozen? ⟨b', k, none⟩ = false) : MmAt b' s w' where
  ar := h.ar.move (fun k hk => hc k (by omega)) hf
  few := h.few
  nt := by rw [hc _ (by omega)]; exact h.nt
  line t ht := (h.line t ht).move (fun k hk => hc k (by have := h.few; omega)) hf
  rest o h1 h2 := by rw [hc _ h2]; exact h.rest o h1 h2
end Go.Proofs.YtnnlkolhahjokaaGreatDoor

/- StI -/
namespace Go.Proofs.YtnnlkolhahjokaaGreatDoor
open Go.RowKit Go.Extern.Stop Go.Stop Go.Extern Go.Maps Go.WideMaps Go.Sort

set_option maxRecDepth 100000 in
theorem mnew_row (c t : Nat) (w : World) (h1 : 1 ≤ c) (h2 : c ≤ 64) (t1 : 1 ≤ t) (t2 : t ≤ 6) :
    Calls Tryz.prog 14 #[.int .i64 c, .int .i64 t] w fun e w' => e = .returned (.tuple #[.pointer (some ⟨w.heap.size + 1, 0, none⟩), .nilIface]) ∧ MmAt (w.heap.size + 1) (Rm.fresh c t) w' ∧ (∃ N : Array Value, w'.heap[w.heap.size + 1]? = some (.cells N 73 (0, 0)) ∧ N.size = 584) ∧ Below w.heap.size w w' := by
  have HN := new_exact c w h1 h2
  have i1 : 1 ≤ (t : Int) := by omega
  have i2 : (t : Int) ≤ 6 := by omega
  have hA := arenaSize c
  obtain ⟨N, hB, n0, n385, nk⟩ := new_made c t
  have HM : Hid (∀ w1 : World, w1.heap.size = w.heap.size + 1 → MmAt (w.heap.size + 1) (Rm.fresh c t) (w1.alloc (.cells N 73)) ∧ (w1.alloc (.cells N 73)).heap[w.heap.size + 1]? = some (.cells N 73 (0, 0)) ∧ N.size = 584) := fun w1 e => by
    refine ⟨by rw [← e]; exact MmAt.fresh c t N w1 h2 t2 n0 n385 nk, by rw [← e]; exact heap_alloc_new w1 _, ?_⟩
    have k1 := nk 583 (by decide) (by decide)
    have k2 := nk 584 (by decide) (by decide)
    rw [zeroM_rest 583 (by decide) (by decide)] at k1
    rw [Array.getElem?_eq_none (xs := Tryz.zeroCells73) (by rw [zeroM_size]; exact Nat.le_refl _)] at k2
    have a1 := (Array.getElem?_eq_some_iff.1 k1).1
    have a2 := Array.getElem?_eq_none_iff.1 k2
    omega
  clear n0 n385 nk
  generalize Tryz.zeroCells63.setIfInBounds 0 (.int .i64 c) = A at *
  have hg := heap_new w (.cells A 63)
  have hb1 : Below w.heap.size w (w.alloc (.cells A 63)) := (Below.refl _ _).alloc (Nat.le_refl _) _
  have hs1 : (w.alloc (.cells A 63)).heap.size = w.heap.size + 1 := by simp
  generalize w.alloc (.cells A 63) = w1 at *
  go_enter Tryz.func14, Tryz.ntmps14
  go_wp2_with fail
  refine HN.mono ?_
  rintro e0 w2 ⟨rfl, rfl⟩
  go_wp2_with (first
    | refine wpList_load_row (by rfl) 63 _ (by rfl) w.heap.size (by rfl) 63 A (0, 0) _ hg Tryz.underlying63 (by rfl) hA ?_
    | refine wpList_build_two (by rfl) 73 0 1 _ _ (by rfl) (.agg A) (.int .i64 t) (by rfl) (by rfl) N hB ?_)
  go_ret2
  obtain ⟨q1, q2, q3⟩ := HM.out _ hs1
  exact ⟨rfl, q1, ⟨N, q2, q3⟩, hb1.alloc hb1.size _⟩

theorem cell_of_row {w : World} {b : Nat} {N : Array Value} {ty : TypeId} (h : w.heap[b]? = some (.cells N ty (0, 0))) (k : Nat) : w.cell? ⟨b, k, none⟩ = N[k]? := by
  simp [World.cell?, h]

theorem MkAt.fresh {a : Nat → Addr} {cs : List (List Ins)} {s : Sta} {pb pc mb : Nat} {w : World} {N C : Array Value} (hp : Pg a cs pb pc w) (hm : MmAt mb (Rm.fresh s.cells.toNat cs.length) w) (hr : w.heap[mb]? = some (.cells N 73 (0, 0)))
    (c1 : ∀ k, k < 584 → C[k]? = N[k]?) (c2 : C[584]? = some (.slice (some ⟨pb, 0, none⟩) cs.length pc)) (c3 : ∀ k, 585 ≤ k → k < 639 → C[k]? = some (.int .i64 0)) (c4 : C[639]? = some (.slice none 0 0)) (c5 : C[640]? = some (.int .i64 0)) :
    MkAt a cs ⟨w.heap.size, w.heap.size, pb, pc, .slice none 0 0⟩ (s.at1 cs.length 0 0) (w.alloc (.cells C 80)) where
  pg := ⟨w, hp, rfl, (Below.refl _ _).alloc (Nat.le_refl _) _⟩
  mem := by
    have e : (s.at1 cs.length 0 0).mem = Rm.fresh s.cells.toNat cs.length := by
      show Rm.mk _ _ _ = _
      rw [List.take_zero, Ar.filled_nil]
    rw [e]
    exact hm.move (fun k hk => by rw [World.cell?_alloc_new, cell_of_row hr]; exact c1 k hk) (fun k => World.frozen?_alloc_new _ _ _ _)
  thr := rfl
  prog := by rw [World.cell?_alloc_new]; exact c2
  reg t r ht hr := by
    rw [World.cell?_alloc_new]
    show C[585 + t * 9 + r]? = some (.int .i64 (rowAt (s.regs.take 0) t r))
    rw [rowAt_out (Nat.zero_le _)]
    exact c3 _ (by omega) (by omega)
  pc t ht := by
    rw [World.cell?_alloc_new]
    exact c3 _ (by omega) (by omega)
  marks := by rw [World.cell?_alloc_new]; exact c4
  own := ⟨rfl, .inl ⟨rfl, rfl⟩⟩
  faults := by rw [World.cell?_alloc_new]; exact c5
  frozen o _ _ := World.frozen?_alloc_new _ _ _ _
  ne k hk := by cases hk
  hB := Nat.le_refl _

def NewPost (a : Nat → Addr) (s : Sta) (cs : List (List Ins)) (w : World) (e : Ending) (w' : World) : Prop :=
  Below w.heap.size w w' ∧
  (((s.fault cs).1 = 0 ∧ Right cs ∧ ∃ p, e = .returned (.tuple #[.pointer (some ⟨p.b, 0, none⟩), .nilIface]) ∧ MkAt a cs p (s.mach cs.length) w' ∧ w.heap.size ≤ p.B ∧ p.mv = .slice none 0 0) ∨
   ((s.fault cs).1 ≠ 0 ∧ ∃ v, e = .returned (.tuple #[.pointer none, v]) ∧ errIs a (s.fault cs) v w' w.heap.size))

theorem NewPost.bound {a : Nat → Addr} {s : Sta} {cs : List (List Ins)} {w w' : World} (h : ¬ (1 ≤ s.cells ∧ s.cells ≤ 64 ∧ 1 ≤ cs.length ∧ cs.length ≤ 6 ∧ s.fits cs.length = true)) (hb : Below w.heap.size w w') : NewPost a s cs w (.returned (.tuple #[.pointer none, errAt (a 1)])) w' := by
  have e : s.fault cs = (2, -1) := if_neg h
  exact ⟨hb, Or.inr ⟨by rw [e]; decide, _, rfl, Or.inr (Or.inl ⟨by rw [e]; decide, by rw [e], by rw [e]; rfl⟩)⟩⟩

theorem machSize (C : Array Value) (h : C.size = 641) : (Tryz.prog.info? 80).map (·.size) = some C.size := by rw [h]; kernel_rfl
theorem memSize (N : Array Value) (h : N.size = 584) : (Tryz.prog.info? 73).map (·.size) = some N.size := by rw [h]; kernel_rfl

set_option maxRecDepth 100000 in
set_option maxHeartbeats 2000000 in
theorem new_any {a : Nat → Addr} {s : Sta} {ai ar ad : Option Addr} {ci cr cap : Nat} {cs : List (List Ins)} {w : World} (hE : Env a w) (hs : StaAt s ⟨ai, ci, ar, cr⟩ w) (hl : codesAt ad cs w) (hsz : ∀ (t : Nat) L, cs[t]? = some L → ∀ (i : Nat) x, L[i]? = some x → x.to.size ≤ maxLen) :
    Calls Tryz.prog 9 #[.agg #[.int .i64 s.cells, .slice ai s.init.length ci, .slice ar s.regs.length cr], .slice ad cs.length cap] w fun e w' => Hid (NewPost a s cs w e w') := by
  obtain ⟨w1, hw1⟩ : ∃ w1, w1 = w.alloc (.cells #[.int .i64 s.cells, .slice ai s.init.length ci, .slice ar s.regs.length cr] 35) := ⟨_, rfl⟩
  have b1 : Below w.heap.size w w1 := by rw [hw1]; exact (Below.refl _ _).alloc (Nat.le_refl _) _
  have e0 : w1.cell? ⟨w.heap.size, 0, none⟩ = some (.int .i64 s.cells) := by rw [hw1]; simp
  have e1 : w1.cell? ⟨w.heap.size, 1, none⟩ = some (.slice ai s.init.length ci) := by rw [hw1]; simp
  have e2 : w1.cell? ⟨w.heap.size, 2, none⟩ = some (.slice ar s.regs.length cr) := by rw [hw1]; simp
  have E1 := hE.below b1.block
  have S1 := hs.below b1
  have L1 := hl.below b1
  have HQ : Hid (∀ e w', Below w.heap.size w w' → NewPost a s cs w1 e w' → NewPost a s cs w e w') := hide fun e w' hb h => by
    refine ⟨hb, h.2.imp (fun ⟨h1, h2, p, h3, h4, h5, h6⟩ => ⟨h1, h2, p, h3, h4, Nat.le_trans b1.size h5, h6⟩) (fun ⟨h1, v, h2, h3⟩ => ⟨h1, v, h2, ?_⟩)⟩
    rcases h3 with h3 | h3 | ⟨h4, j, N, h5, h6, h7⟩
    · exact .inl h3
    · exact .inr (.inl h3)
    · exact .inr (.inr ⟨h4, j, N, h5, Nat.le_trans b1.size h6, h7⟩)
  clear hE hs hl
  by_cases hc : 1 ≤ s.cells ∧ s.cells ≤ 64
  · obtain ⟨c, hcc⟩ := Int.eq_ofNat_of_zero_le (show 0 ≤ s.cells by omega)
    by_cases ht : 1 ≤ cs.length ∧ cs.length ≤ 6
    · have HN := hide (mnew_row c cs.length w1 (by omega) (by omega) ht.1 ht.2)
      rw [← hcc] at HN
      have HF := hide (fun w' (h : Below w1.heap.size w1 w') => sfits_any (S1.below h) cs.length)
      have HS : Hid (∀ w', Below w1.heap.size w1 w' → StaAt s ⟨ai, ci, ar, cr⟩ w') := hide fun w' h => S1.below h
      have HP := hide (fun w' (h : Below w1.heap.size w1 w') => programs_any (cap := cap) (E1.below h.block) (L1.below h) ht.2 hsz)
      have HE : Hid (∀ w', Below w1.heap.size w1 w' → Env a w') := hide fun w' h => E1.below h.block
      have hcn : s.cells.toNat = c := by omega
      cases hfit : s.fits cs.length with
      | false =>
        have HB : Hid (∀ w', Below w1.heap.size w1 w' → NewPost a s cs w (.returned (.tuple #[.pointer none, errAt (a 1)])) w') := hide fun w' h => NewPost.bound (fun h => by rw [hfit] at h; exact absurd h.2.2.2.2 (by decide)) (below_step b1 h)
        rw [hfit] at HF
        clear E1 S1 L1 HQ ht hc hcc HS HP hfit
        go_enter Tryz.func9, Tryz.ntmps9
        go_wp2_with fail
        rw [← hw1]
        clear hw1
        refine HN.out.mono ?_
        rintro e w2 ⟨rfl, -, -, hb2⟩
        replace e0 := keep_cell hb2 (by exact e0)
        replace e1 := keep_cell hb2 (by exact e1)
        replace e2 := keep_cell hb2 (by exact e2)
        clear HN
        go_wp2_with fail
        refine (HF.out w2 hb2).mono ?_
        rintro e w3 ⟨rfl, hb3⟩
        have c1 : w3.cell? ⟨0, 0, none⟩ = some (errAt (a 1)) := (HE.out w3 (below_step hb2 hb3)).cell 1 (by decide)
        have B3 := below_step hb2 hb3
        clear HF HE hb3
        go_wp2
        go_quiet (fail)
        go_wp2
        go_ret2
        exact HB.out _ (below_dN B3 _)
      | true =>
        have HG : Hid (1 ≤ s.cells ∧ s.cells ≤ 64 ∧ 1 ≤ cs.length ∧ cs.length ≤ 6 ∧ s.fits cs.length = true) := hide ⟨hc.1, hc.2, ht.1, ht.2, hfit⟩
        rw [hfit] at HF
        have HT := hide ht
        clear E1 S1 L1 ht hc hcc hfit
        go_enter Tryz.func9, Tryz.ntmps9
        go_wp2_with fail
        rw [← hw1]
        clear hw1
        refine HN.out.mono ?_
        rintro e w2 ⟨rfl, hm2, ⟨N, hr2, hN⟩, hb2⟩
        replace e0 := keep_cell hb2 (by exact e0)
        replace e1 := keep_cell hb2 (by exact e1)
        replace e2 := keep_cell hb2 (by exact e2)
        have hml : w1.heap.size + 1 < w2.heap.size := lt_of_block hr2
        clear HN
        go_wp2_with fail
        refine (HF.out w2 hb2).mono ?_
        rintro e w3 ⟨rfl, hb3⟩
        have B3 := below_step hb2 hb3
        replace e0 := keep_cell hb3 e0
        replace e1 := keep_cell hb3 e1
        replace e2 := keep_cell hb3 e2
        replace hm2 := hm2.below hb3
        replace hr2 : w3.heap[w1.heap.size + 1]? = _ := (hb3.block _ hml).trans hr2
        have hml3 := Nat.lt_of_lt_of_le hml hb3.size
        clear HF hb2 hb3 hml
        go_wp2_with fail
        refine (HP.out w3 B3).mono ?_
        rintro e w4 hpp
        obtain ⟨hb4, hpp⟩ := hpp.out
        have B4 := below_step B3 hb4
        rcases hpp with ⟨hz, v, pl, rfl, hpl⟩ | ⟨hz, v, rfl, hv⟩
        · have HR : Right cs := right_of (codesFrom_zero cs 0 hz) HT.out.1 HT.out.2 hsz
          obtain ⟨pb, pc, rfl, hpb, hpg⟩ := hpl.pg (HE.out w4 B4) HR
          replace e0 := keep_cell hb4 e0
          replace e1 := keep_cell hb4 e1
          replace e2 := keep_cell hb4 e2
          have hm4 := hm2.below hb4
          have hr4 : w4.heap[w1.heap.size + 1]? = some (.cells N 73 (0, 0)) := (hb4.block _ hml3).trans hr2
          obtain ⟨C, hC, hCs, c1, c2, c3, c4, c5⟩ := mach_made N hN (.slice (some ⟨pb, 0, none⟩) cs.length pc) rfl
          have hA : MkAt a cs ⟨w4.heap.size, w4.heap.size, pb, pc, .slice none 0 0⟩ (s.at1 cs.length 0 0) (w4.alloc (.cells C 80)) := MkAt.fresh hpg (by rw [hcn]; exact hm4) hr4 c1 c2 c3 c4 c5
          have b5 : Below w4.heap.size w4 (w4.alloc (.cells C 80)) := (Below.refl _ _).alloc (Nat.le_refl _) _
          have hX : FillX a cs ⟨w4.heap.size, w4.heap.size, pb, pc, .slice none 0 0⟩ s ⟨ai, ci, ar, cr⟩ w4 (w4.alloc (.cells C 80)) := ⟨hA, HS.out w4 B4, rfl, b5, HG.out.2.2.2.2, HG.out.2.1, HT.out.1⟩
          have HFl := hide (kfill_any hX)
          have HZ : Hid (∀ w', MkStep a cs ⟨w4.heap.size, w4.heap.size, pb, pc, .slice none 0 0⟩ (w4.alloc (.cells C 80)) (.slice none 0 0) (s.mach cs.length) w' → NewPost a s cs w (.returned (.tuple #[.pointer (some ⟨w4.heap.size, 0, none⟩), .nilIface])) w') := hide fun w' k => by
            have b6 : Below w4.heap.size (w4.alloc (.cells C 80)) w' := k.turns.below (by simp) (fun i o hi hf => by have := hA.fp_ge hf; dsimp only at this; omega)
            have b7 : Below w.heap.size w w' := below_step b1 (B4.trans ((b5.trans b6).mono B4.size))
            have ef : s.fault cs = codesFrom 0 cs := if_pos HG.out
            exact ⟨b7, Or.inl ⟨by rw [ef]; exact hz, HR, _, rfl, k.at', Nat.le_trans b1.size B4.size, rfl⟩⟩
          replace e0 := keep_cell b5 e0
          replace e1 := keep_cell b5 e1
          replace e2 := keep_cell b5 e2
          have hms := memSize N hN
          have hks := machSize C hCs
          clear hm2 hm4 hr2 hX hA hpg hpl HR c1 c2 c3 c4 c5 hz HE HP HS HQ HG hCs hN hpb b5 hb4 B3 B4 hml3
          obtain ⟨W5, hW5⟩ : ∃ W5, W5 = w4.alloc (.cells C 80) := ⟨_, rfl⟩
          rw [← hW5] at HFl HZ
          go_wp2_with (first
            | refine wpList_load_row (by rfl) 73 _ (by rfl) (w1.heap.size + 1) (by rfl) 73 N (0, 0) _ hr4 Tryz.underlying73 (by rfl) hms ?_
            | refine wpList_build_two (by rfl) 80 0 1 _ _ (by rfl) (.agg N) (.slice (some ⟨pb, 0, none⟩) cs.length pc) (by rfl) (by rfl) C hC ?_)
          rw [← hW5]
          clear hW5 hr4
          refine HFl.out.mono ?_
          rintro e w6 ⟨rfl, hk⟩
          have hZ := HZ.out w6 hk.out
          clear HFl HZ hk
          go_wp2
          go_ret2
          exact hZ
        · have ef : s.fault cs = codesFrom 0 cs := if_pos HG.out
          have HZ : Hid (∀ v, errIs a (codesFrom 0 cs) v w4 w3.heap.size → NewPost a s cs w (.returned (.tuple #[.pointer none, v])) w4) := hide fun v hv => by
            refine ⟨below_step b1 B4, Or.inr ⟨by rw [ef]; exact hz, v, rfl, ?_⟩⟩
            rw [ef]
            rcases hv with h3 | h3 | ⟨h4, j, N, h5, h6, h7⟩
            · exact .inl h3
            · exact .inr (.inl h3)
            · exact .inr (.inr ⟨h4, j, N, h5, Nat.le_trans (Nat.le_trans b1.size B3.size) h6, h7⟩)
          have HV := HZ.out v hv
          clear hm2 hr2 HE HP HS HQ HG HZ hN hb4 B3 B4 hml3 e0 e1 e2
          rcases hv with ⟨h, -⟩ | ⟨-, -, rfl⟩ | ⟨-, j2, N2, -, -, rfl, -, -⟩
          · exact absurd h hz
          · obtain ⟨k, hk⟩ : ∃ k, (codesFrom 0 cs).1 = k + 1 := ⟨(codesFrom 0 cs).1 - 1, by omega⟩
            rw [hk] at HV ⊢
            clear hz hk ef
            rw [show xval a (k + 1) = xerr (a k) from rfl] at HV ⊢
            have HV2 := hide HV
            clear HV
            go_wp2
            go_ret2
            exact HV2.out
          · have HV2 := hide HV
            clear HV hz ef
            go_wp2
            go_ret2
            exact HV2.out
    · have HN := hide (mnew_threads a c cs.length w1 E1.toM (by omega) (by omega) (by omega))
      rw [← hcc] at HN
      have HB : Hid (∀ w', Below w1.heap.size w1 w' → NewPost a s cs w (.returned (.tuple #[.pointer none, errAt (a 1)])) w') := hide fun w' h => NewPost.bound (fun h => ht ⟨h.2.2.1, h.2.2.2.1⟩) (below_step b1 h)
      clear E1 S1 L1 HQ ht hc hcc e1 e2
      go_enter Tryz.func9, Tryz.ntmps9
      go_wp2_with fail
      rw [← hw1]
      clear hw1
      refine HN.out.mono ?_
      rintro e w2 ⟨rfl, hb2⟩
      go_wp2
      go_ret2
      exact HB.out _ hb2
  · have HN := hide (mnew_cells a s.cells cs.length w1 E1.toM hc)
    have HB : Hid (∀ w', Below w1.heap.size w1 w' → NewPost a s cs w (.returned (.tuple #[.pointer none, errAt (a 1)])) w') := hide fun w' h => NewPost.bound (fun h => hc ⟨h.1, h.2.1⟩) (below_step b1 h)
    clear E1 S1 L1 HQ hc e1 e2
    go_enter Tryz.func9, Tryz.ntmps9
    go_wp2_with fail
    rw [← hw1]
    clear hw1
    refine HN.out.mono ?_
    rintro e w2 ⟨rfl, hb2⟩
    go_wp2
    go_ret2
    exact HB.out _ hb2
end Go.Proofs.YtnnlkolhahjokaaGreatDoor

/- StJ -/
namespace Go.Proofs.YtnnlkolhahjokaaGreatDoor
open Go.RowKit Go.Extern.Stop Go.Stop Go.Extern Go.Maps Go.WideMaps Go.Sort

theorem MkAt.whole {a : Nat → Addr} {cs : List (List Ins)} {p : MkPl} {m : Mk} {w : World} (h : MkAt a cs p m w) (k : Nat) (hk : k < 641) : ∃ v, w.cell? ⟨p.b, k, none⟩ = some v ∧ v.oneCell' = true := by
  have hm := h.mem
  have h6 := hm.few
  have cast : ∀ {o v}, w.cell? ⟨p.b, o, none⟩ = some v → o = k → v.oneCell' = true → ∃ v, w.cell? ⟨p.b, k, none⟩ = some v ∧ v.oneCell' = true := fun hc e ho => by subst e; exact ⟨_, hc, ho⟩
  by_cases h0 : k = 0
  · exact cast hm.ar.size (by omega) rfl
  by_cases h1 : k < 257
  · exact cast (hm.ar.words ((k - 1) / 4) ((k - 1) % 4) (by omega) (by omega)) (by omega) rfl
  by_cases h2 : k < 321
  · exact cast (hm.ar.there (k - 257) (by omega)) (by omega) rfl
  by_cases h3 : k < 385
  · exact cast (hm.ar.given (k - 321) (by omega)) (by omega) rfl
  by_cases h4 : k = 385
  · exact cast hm.nt (by omega) rfl
  by_cases h5 : k < 386 + m.mem.threads * 33
  · have hl := hm.line ((k - 386) / 33) (by omega)
    by_cases e : (k - 386) % 33 = 32
    · exact cast hl.len (by omega) rfl
    · exact cast (hl.row ((k - 386) % 33 / 4) ((k - 386) % 33 % 4) (by omega) (by omega)) (by omega) rfl
  by_cases h6 : k < 584
  · exact cast (hm.rest k (by omega) h6) rfl rfl
  by_cases h7 : k = 584
  · exact cast h.prog (by omega) rfl
  by_cases h8 : k < 639
  · by_cases e : (k - 585) % 9 = 8
    · exact cast (h.pc ((k - 585) / 9) (by omega)) (by omega) rfl
    · exact cast (h.reg ((k - 585) / 9) ((k - 585) % 9) (by omega) (by omega)) (by omega) rfl
  by_cases h9 : k = 639
  · refine cast h.marks (by omega) ?_
    obtain ⟨g, c, e, _⟩ := ownsRow_shape h.own
    rw [e]; rfl
  · exact cast h.faults (by omega) rfl

theorem MkAt.rowOf {a : Nat → Addr} {cs : List (List Ins)} {p : MkPl} {m : Mk} {w : World} (h : MkAt a cs p m w) : ∃ C : Array Value, C.size = 641 ∧ (∀ k, k < 641 → C[k]? = w.cell? ⟨p.b, k, none⟩) ∧ C.all (·.oneCell') = true := by
  refine ⟨((List.range 641).map fun k => (w.cell? ⟨p.b, k, none⟩).getD undef).toArray, by rw [List.size_toArray, List.length_map, List.length_range], fun k hk => ?_, ?_⟩
  · obtain ⟨v, hv, -⟩ := h.whole k hk
    rw [List.getElem?_toArray, List.getElem?_map, List.getElem?_range hk, hv]
    simp [hv]
  · rw [List.all_toArray, List.all_eq_true]
    intro v hv
    obtain ⟨k, hk, rfl⟩ := List.mem_map.1 hv
    obtain ⟨v, hv, ho⟩ := h.whole k (List.mem_range.1 hk)
    rw [hv]; exact ho

theorem run_loadVar_cells {P : Program} (w : World) (b : Nat) (ty : TypeId) (cs : Array Value) (d : TypeDesc) (hc : ∀ k, k < cs.size → cs[k]? = w.cell? ⟨b, k, none⟩)
    (hu : P.underlying ty = some d) (hd : (match d with | .struct _ | .array _ _ => true | _ => false) = true) (hi : (P.info? ty).map (·.size) = some cs.size) :
    (loadVar ty ⟨b, 0, none⟩).run P w = .ok (.agg cs) w := by
  have hl : (loadCells ⟨b, 0, none⟩ cs.toList.length).run P w = .ok cs.toList.toArray w :=
    run_loadCells_list (P := P) w ⟨b, 0, none⟩ cs.toList (fun j v hv => by
      have hj := (List.getElem?_eq_some_iff.1 hv).1
      rw [Addr.add_lit, Nat.zero_add, ← hc j (by simpa using hj)]
      simpa using hv)
  cases hq : P.info? ty with
  | none => simp [hq] at hi
  | some i =>
    have hs : i.size = cs.size := by simpa [hq] using hi
    have hagg : (isAgg ty).run P w = .ok true w := by
      unfold isAgg
      rw [Sem.run_bind, run_underlying hu w]
      cases d <;> simp_all
    simp only [Array.length_toList, Array.toArray_toList] at hl
    simp [loadVar, Sem.run_bind, hagg, sizeOf, typeInfo, hq, hs, hl]
theorem wpList_load_cells {P : Program} {ops : Array Oper} {rest : List Oper} {o : Oper} {a : Act} {w : World} {Q : Exit → Act → World → Prop} (hgd : o.guard = none) (ty : TypeId) (x : Operand) (ho : o.op = .load ty x)
    (b : Nat) (hx : a.eval x = .pointer (some ⟨b, 0, none⟩)) (cs : Array Value) (d : TypeDesc) (hc : ∀ k, k < cs.size → cs[k]? = w.cell? ⟨b, k, none⟩)
    (hu : P.underlying ty = some d) (hd : (match d with | .struct _ | .array _ _ => true | _ => false) = true) (hi : (P.info? ty).map (·.size) = some cs.size)
    (h : wpList P ops Q rest (a.put o.dst (.agg cs)) w) : wpList P ops Q (o :: rest) a w := by
  refine wpList_plain hgd fun K hK => ?_
  unfold Oper.wp execOp
  simp only [ho, hx, Instr.loadAt, Instr.sureAddr, Sem.run_bind, Sem.run_pure, Result.andThen_ok, run_loadVar_cells w b ty cs d hc hu hd hi]
  exact hK _ _ h

theorem MkAt.move {a : Nat → Addr} {cs : List (List Ins)} {p : MkPl} {m : Mk} {w w' : World} {b' : Nat} {v : Value} (h : MkAt a cs p m w) (hB : Below p.B w w') (hb : p.B ≤ b') (hc : ∀ k, k < 641 → k ≠ 639 → w'.cell? ⟨b', k, none⟩ = w.cell? ⟨p.b, k, none⟩) (hf : ∀ k, w'.frozen? ⟨b', k, none⟩ = false)
    (hv : w'.cell? ⟨b', 639, none⟩ = some v) (hown : w'.ownsRow 0 115 2 v m.marks.length (markCells m.marks)) (hne : ∀ k, v.ownBlock = some k → k ≠ b' ∧ p.B ≤ k) : MkAt a cs ⟨p.B, b', p.pb, p.pc, v⟩ m w' where
  pg := by
    obtain ⟨W, h1, h2, h3⟩ := h.pg.ex
    exact ⟨W, h1, h2, h3.trans hB⟩
  mem := h.mem.move (fun k hk => hc k (by omega) (by omega)) hf
  thr := h.thr
  prog := by rw [hc _ (by omega) (by omega)]; exact h.prog
  reg t r ht hr := by rw [hc _ (by omega) (by omega)]; exact h.reg t r ht hr
  pc t ht := by rw [hc _ (by omega) (by omega)]; exact h.pc t ht
  marks := hv
  own := hown
  faults := by rw [hc _ (by omega) (by omega)]; exact h.faults
  frozen o _ _ := hf o
  ne := hne
  hB := hb

theorem ownsRow_zero {w : World} {base n sz : Nat} {e : TypeId} {v : Value} {xs : List Value} (h : w.ownsRow base e sz v n xs) : w.ownsRow 0 e sz v n xs := by
  rcases h with ⟨hlen, h | ⟨g, cap, cur, h1, -, h2⟩⟩
  · exact ⟨hlen, .inl h⟩
  · exact ⟨hlen, .inr ⟨g, cap, cur, h1, Nat.zero_le _, h2⟩⟩

theorem copy_at {a : Nat → Addr} {cs : List (List Ins)} {p : MkPl} {m : Mk} {w w2 w3 : World} (h : MkAt a cs p m w) {C : Array Value} (hc : ∀ k, k < 641 → C[k]? = w.cell? ⟨p.b, k, none⟩)
    (hs : w2.heap.size = w.heap.size + 1) (hrow : w2.heap[w.heap.size]? = some (.cells C 80 (0, 0))) (hold : Below w.heap.size w w2) {v : Value} (hb : Below w2.heap.size w2 w3) (hown : w3.ownsRow w2.heap.size 115 2 v m.marks.length (markCells m.marks)) :
    MkAt a cs ⟨p.B, w.heap.size, p.pb, p.pc, v⟩ m (w3.setCell ⟨w.heap.size, 639, none⟩ v) ∧ Below w.heap.size w (w3.setCell ⟨w.heap.size, 639, none⟩ v) := by
  have hB := below_step hold hb
  have hBs : p.B ≤ w.heap.size := by have := h.hB; have := h.lt; omega
  have hr3 : w3.heap[w.heap.size]? = some (.cells C 80 (0, 0)) := (hb.block _ (by omega)).trans hrow
  have hne : ∀ k, v.ownBlock = some k → k ≠ w.heap.size ∧ w.heap.size ≤ k := fun k hk => by have := (hown.lt k hk).1; omega
  have hB4 : Below w.heap.size w (w3.setCell ⟨w.heap.size, 639, none⟩ v) := hB.setCell (Nat.le_refl _) _
  have c3 : ∀ k, k < 641 → w3.cell? ⟨w.heap.size, k, none⟩ = w.cell? ⟨p.b, k, none⟩ := fun k hk => by rw [← hc k hk]; exact cell_of_row hr3 k
  refine ⟨h.move (hB4.mono hBs) hBs (fun k hk hn => ?_) (fun k => ?_) ?_ ?_ (fun k hk => ⟨(hne k hk).1, Nat.le_trans hBs (hne k hk).2⟩), hB4⟩
  · obtain ⟨u, hu, -⟩ := h.whole k hk
    rw [hu]
    exact cell_ne ((c3 k hk).trans hu) (Or.inr (by omega))
  · rw [World.frozen?_setCell]
    exact frozen_of_row _ _ _ _ _ hr3
  · obtain ⟨u, hu, -⟩ := h.whole 639 (by decide)
    exact World.cell?_setCell_same _ _ _ ((c3 639 (by decide)).trans hu)
  · exact ownsRow_zero (ownsRow_block hown fun k hk => Below.heap_setCell _ _ _ _ (hne k hk).1)
end Go.Proofs.YtnnlkolhahjokaaGreatDoor
