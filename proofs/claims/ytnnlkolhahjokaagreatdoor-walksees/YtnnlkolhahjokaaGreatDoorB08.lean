import Derived.Test.YtnnlkolhahjokaaGreatDoorB07

/- MemC -/
namespace Go.Proofs.YtnnlkolhahjokaaGreatDoor
open Go.RowKit Go.Extern.Stop Go.Stop Go.Extern

theorem drop_pick (l : List Wt) (j : Nat) (x : Wt) (h : l[j]? = some x) (c g k v : Int) : (l.drop j).foldl (Wt.pick c g k) v = (l.drop (j + 1)).foldl (Wt.pick c g k) (Wt.pick c g k v x) := by
  obtain ⟨hl, rfl⟩ := List.getElem?_eq_some_iff.1 h
  rw [List.drop_eq_getElem_cons hl]; rfl

theorem take_drop_pick (l : List Wt) (j : Nat) (c g k v : Int) : l.foldl (Wt.pick c g k) v = (l.drop j).foldl (Wt.pick c g k) ((l.take j).foldl (Wt.pick c g k) v) := by
  rw [← List.foldl_append, List.take_append_drop]

def LastIs (l : List Wt) (c g k : Int) (e : Ending) : Prop := ∃ v ok, e = .returned (.tuple #[.int .i64 v, .bool ok]) ∧ (ok = false → v = 0) ∧ ∀ v0, l.foldl (Wt.pick c g k) v0 = if ok = true then v else v0

set_option maxRecDepth 20000 in
set_option maxHeartbeats 1000000 in
theorem last_any (b o : Nat) (l : List Wt) (c g k : Int) (w : World) (h : LnAt b o l w) :
    Calls Tryz.prog 103 #[.pointer (some ⟨b, o, none⟩), .agg #[.int .i64 c, .int .i64 g], .int .i64 k] w fun e w' => LastIs l c g k e ∧ Below w.heap.size w w' := by
  have h1 := h.alloc (.cells #[.int .i64 c, .int .i64 g] 65)
  have hba := box_below c g w
  have q0 : (w.alloc (.cells #[.int .i64 c, .int .i64 g] 65)).cell? ⟨w.heap.size, 0, none⟩ = some (.int .i64 c) := by simp
  have q1 : (w.alloc (.cells #[.int .i64 c, .int .i64 g] 65)).cell? ⟨w.heap.size, 1, none⟩ = some (.int .i64 g) := by simp
  generalize hw : w.alloc (.cells #[.int .i64 c, .int .i64 g] 65) = w1 at *
  have hn := h1.len
  have hle := h1.le
  have HL : Hid (LnAt b o l w1) := h1
  clear h h1
  have l8 : (l.length : Int) ≤ 8 := by omega
  go_enter Tryz.func103, Tryz.ntmps103
  go_wp2_with fail
  go_loopw [8, 9] (fun i _ wr => Below w1.heap.size w1 wr ∧ ∃ j : Nat, j ≤ l.length ∧ i = .int .i64 ((j : Int) - 1) ∧ Hid (∀ v0, (l.drop j).foldl (Wt.pick c g k) v0 = v0)) (fun i _ _ => (intOf i + 1).toNat)
  case atStart => exact ⟨Below.refl _ _, l.length, Nat.le_refl _, by go_num, fun v0 => by rw [List.drop_length]; rfl⟩
  case round =>
    obtain ⟨hbr, j, hj, rfl, HD⟩ := hrel
    have r0 := keep_cell hbr q0
    have r1 := keep_cell hbr q1
    have B2 := below_step hba hbr
    have HL2 := HL.out.below hbr
    cases j with
    | zero =>
      have hz : (((0 : Nat) : Int) - 1) = -1 := rfl
      rw [hz]
      clear HL2 HL
      go_wp2
      go_ret2
      exact ⟨⟨0, false, rfl, fun _ => rfl, fun v0 => by have := HD.out v0; rwa [List.drop_zero] at this⟩, B2⟩
    | succ j =>
      have hz : (((j + 1 : Nat) : Int) - 1) = (j : Int) := by omega
      rw [hz]
      obtain ⟨x, hx⟩ : ∃ x, l[j]? = some x := ⟨_, List.getElem?_eq_getElem (by omega)⟩
      have e0 : wr.cell? ⟨b, o + j * 4, none⟩ = some (.int .i64 x.c) := by have := HL2.row j 0 (by omega) (by decide); unfold lnCell at this; rw [hx] at this; exact this
      have e1 : wr.cell? ⟨b, o + j * 4 + 1, none⟩ = some (.int .i64 x.g) := by have := HL2.row j 1 (by omega) (by decide); unfold lnCell at this; rw [hx] at this; exact this
      have e2 : wr.cell? ⟨b, o + j * 4 + 2, none⟩ = some (.int .i64 x.w) := by have := HL2.row j 2 (by omega) (by decide); unfold lnCell at this; rw [hx] at this; exact this
      have e3 : wr.cell? ⟨b, o + j * 4 + 3, none⟩ = some (.int .i64 x.v) := by have := HL2.row j 3 (by omega) (by decide); unfold lnCell at this; rw [hx] at this; exact this
      have HP : Hid (∀ v0, (l.drop j).foldl (Wt.pick c g k) v0 = Wt.pick c g k v0 x) := fun v0 => by rw [drop_pick l j x hx]; exact HD.out _
      have j8 : (j : Int) < 8 := by omega
      have y0 := World.block_lt_of_cell? _ _ r0
      clear HL2 HL HD hx q0 q1
      by_cases b0 : x.c = c
      · have t0 : (x.c == c) = true := beq_iff_eq.2 b0
        by_cases b1 : x.g = g
        · have t1 : (x.g == g) = true := beq_iff_eq.2 b1
          by_cases b2 : x.w = k
          · have t2 : (x.w == k) = true := beq_iff_eq.2 b2
            have HQ : Hid (∀ v0, l.foldl (Wt.pick c g k) v0 = x.v) := fun v0 => by rw [take_drop_pick l j, HP.out]; exact if_pos ⟨b0, b1, b2⟩
            clear b0 b1 b2 HP
            go_wp2
            go_ret2
            exact ⟨⟨x.v, true, rfl, (fun h => Bool.noConfusion h), fun v0 => HQ.out v0⟩, B2.alloc B2.size _⟩
          · have t2 : (x.w == k) = false := beq_eq_false_iff_ne.2 b2
            have HQ : Hid (∀ v0, (l.drop j).foldl (Wt.pick c g k) v0 = v0) := fun v0 => by rw [HP.out]; exact if_neg (fun h => b2 h.2.2)
            clear b0 b1 b2 HP
            go_wp2
            go_roundw
            case rel => exact ⟨hbr.alloc hbr.size _, j, by omega, by go_num, HQ⟩
            case measure => simp [intOf]
        · have t1 : (x.g == g) = false := beq_eq_false_iff_ne.2 b1
          have HQ : Hid (∀ v0, (l.drop j).foldl (Wt.pick c g k) v0 = v0) := fun v0 => by rw [HP.out]; exact if_neg (fun h => b1 h.2.1)
          clear b0 b1 HP
          go_wp2
          go_roundw
          case rel => exact ⟨hbr.alloc hbr.size _, j, by omega, by go_num, HQ⟩
          case measure => simp [intOf]
      · have t0 : (x.c == c) = false := beq_eq_false_iff_ne.2 b0
        have HQ : Hid (∀ v0, (l.drop j).foldl (Wt.pick c g k) v0 = v0) := fun v0 => by rw [HP.out]; exact if_neg (fun h => b0 h.1)
        clear b0 HP
        go_wp2
        go_roundw
        case rel => exact ⟨hbr.alloc hbr.size _, j, by omega, by go_num, HQ⟩
        case measure => simp [intOf]

def waitsFor (l : List Wt) (c g k : Int) : Bool := decide (l.foldl (Wt.pick c g k) 0 = l.foldl (Wt.pick c g k) 1)

theorem lastIs_det {l : List Wt} {c g k : Int} {e : Ending} (h : LastIs l c g k e) : e = .returned (.tuple #[.int .i64 (l.foldl (Wt.pick c g k) 0), .bool (waitsFor l c g k)]) ∧ ∀ v0, l.foldl (Wt.pick c g k) v0 = if waitsFor l c g k = true then l.foldl (Wt.pick c g k) 0 else v0 := by
  obtain ⟨v, ok, rfl, h0, hv⟩ := h
  cases ok
  · have h1 : ∀ v0, l.foldl (Wt.pick c g k) v0 = v0 := fun v0 => by rw [hv]; rfl
    have hw : waitsFor l c g k = false := by unfold waitsFor; rw [h1, h1]; rfl
    rw [hw, h1, h0 rfl]
    exact ⟨rfl, fun v0 => by rw [h1]; rfl⟩
  · have h1 : ∀ v0, l.foldl (Wt.pick c g k) v0 = v := fun v0 => by rw [hv]; rfl
    have hw : waitsFor l c g k = true := by unfold waitsFor; rw [h1, h1]; exact decide_eq_true rfl
    rw [hw, h1]
    exact ⟨rfl, fun v0 => by rw [h1]; rfl⟩

theorem last_det (b o : Nat) (l : List Wt) (c g k : Int) (w : World) (h : LnAt b o l w) :
    Calls Tryz.prog 103 #[.pointer (some ⟨b, o, none⟩), .agg #[.int .i64 c, .int .i64 g], .int .i64 k] w fun e w' => e = .returned (.tuple #[.int .i64 (l.foldl (Wt.pick c g k) 0), .bool (waitsFor l c g k)]) ∧ Below w.heap.size w w' :=
  (last_any b o l c g k w h).mono fun _ _ ⟨h1, h2⟩ => ⟨(lastIs_det h1).1, h2⟩
end Go.Proofs.YtnnlkolhahjokaaGreatDoor

/- MemD -/
namespace Go.Proofs.YtnnlkolhahjokaaGreatDoor
open Go.RowKit Go.Extern.Stop Go.Stop Go.Extern Go.Sort

structure MmAt (b : Nat) (s : Rm) (w : World) : Prop where
  ar : ArAt b 0 s.ar w
  few : s.threads ≤ 6
  nt : w.cell? ⟨b, 385, none⟩ = some (.int .i64 s.threads)
  line : ∀ t, t < s.threads → LnAt b (386 + t * 33) (s.waits t) w
  rest : ∀ o, 386 + s.threads * 33 ≤ o → o < 584 → w.cell? ⟨b, o, none⟩ = some (.int .i64 0)

theorem MmAt.lt {b : Nat} {s : Rm} {w : World} (h : MmAt b s w) : b < w.heap.size := World.block_lt_of_cell? _ _ h.nt
theorem MmAt.turns {S : Nat → Nat → Prop} {b : Nat} {s : Rm} {w w' : World} (h : MmAt b s w) (t : Turns S w w') (hS : ∀ o, o < 584 → ¬ S b o) : MmAt b s w' where
  ar := h.ar.turns t (fun _ _ => hS _ (by omega))
  few := h.few
  nt := t.keep h.nt (hS _ (by omega))
  line u hu := (h.line u hu).turns t (fun _ _ => hS _ (by have := h.few; omega))
  rest o h1 h2 := t.keep (h.rest o h1 h2) (hS o h2)
theorem MmAt.below {b : Nat} {s : Rm} {w w' : World} (h : MmAt b s w) (hb : Below w.heap.size w w') : MmAt b s w' :=
  h.turns (Turns.of_below (S := fun _ _ => False) hb) (fun _ _ h => h)
theorem MmAt.alloc {b : Nat} {s : Rm} {w : World} (h : MmAt b s w) (ob : Obj) : MmAt b s (w.alloc ob) := h.below ((Below.refl _ _).alloc (Nat.le_refl _) _)
theorem MmAt.drewN {b : Nat} {s : Rm} {w : World} (h : MmAt b s w) (n : Nat) : MmAt b s (w.drewN n) := h.below (Below.drewN' n)

structure MmStep (b : Nat) (w : World) (s' : Rm) (w' : World) : Prop where
  at' : MmAt b s' w'
  turns : Turns (fun k o => k = b ∧ o < 584) w w'

theorem MmStep.refl {b : Nat} {s : Rm} {w : World} (h : MmAt b s w) : MmStep b w s w := ⟨h, Turns.refl _ _⟩
theorem MmStep.trans {b : Nat} {s s' : Rm} {w w' w2 : World} (h : MmStep b w s w') (k : MmStep b w' s' w2) : MmStep b w s' w2 := ⟨k.at', h.turns.trans k.turns⟩
theorem MmStep.below {b : Nat} {s : Rm} {w w' w2 : World} (h : MmStep b w s w') (k : Below w'.heap.size w' w2) : MmStep b w s w2 := ⟨h.at'.below k, h.turns.trans (Turns.of_below k)⟩
theorem MmStep.of_below {b : Nat} {s : Rm} {w0 w w' : World} (k : Below w0.heap.size w0 w) (h : MmStep b w s w') : MmStep b w0 s w' := ⟨h.at', (Turns.of_below k).trans h.turns⟩
theorem MmStep.of_below' {b : Nat} {s : Rm} {w w' : World} (h : MmAt b s w) (k : Below w.heap.size w w') : MmStep b w s w' := ⟨h.below k, Turns.of_below k⟩

theorem MmAt.arena {b : Nat} {s : Rm} {w w' : World} (h : MmAt b s w) {r : Ar} (hr : ArAt b 0 r w') (t : Turns (arPl b 0) w w') : MmStep b w { s with ar := r } w' where
  at' := ⟨hr, h.few, t.keep h.nt (fun e => by have := e.2.2; omega), fun u hu => (h.line u hu).turns t (fun k _ e => by have := e.2.2; omega), fun o h1 h2 => t.keep (h.rest o h1 h2) (fun e => by have := e.2.2; omega)⟩
  turns := t.mono fun _ _ _ e => ⟨e.1, by have := e.2.2; omega⟩
theorem MmAt.ofLine {b : Nat} {s : Rm} {w w' : World} (h : MmAt b s w) {t : Nat} (ht : t < s.threads) {l : List Wt} (hl : LnAt b (386 + t * 33) l w') (k : Turns (lnPl b (386 + t * 33)) w w') : MmStep b w (s.setWaits t l) w' where
  at' := ⟨h.ar.turns k (fun i hi e => by have := e.2.1; omega), h.few, k.keep h.nt (fun e => by have := e.2.1; omega), fun u hu => by
    simp only [Rm.setWaits]
    by_cases e : u = t
    · rw [if_pos e, e]; exact hl
    · rw [if_neg e]; exact (h.line u hu).turns k (fun i hi e' => by have := e'.2.1; have := e'.2.2; omega), fun o h1 h2 => k.keep (h.rest o h1 h2) (fun e => by have := e.2.2; have h3 : 386 + s.threads * 33 ≤ o := h1; omega)⟩
  turns := k.mono fun _ _ _ e => ⟨e.1, by have := e.2.2; have := h.few; omega⟩

theorem has_m (b : Nat) (s : Rm) (t : Int) (w : World) (h : MmAt b s w) :
    Calls Tryz.prog 43 #[.pointer (some ⟨b, 0, none⟩), .int .i64 t] w fun e w' => e = .returned (.bool (decide (0 ≤ t ∧ t < s.threads))) ∧ w' = w := by
  have hn := h.nt
  have hf := h.few
  clear h
  by_cases h0 : 0 ≤ t
  · by_cases h1 : t < s.threads
    · rw [decide_eq_true ⟨h0, h1⟩]
      go_enter Tryz.func43, Tryz.ntmps43
      go_wp2
      go_ret
      exact ⟨rfl, rfl⟩
    · rw [decide_eq_false (fun e => h1 e.2)]
      go_enter Tryz.func43, Tryz.ntmps43
      go_wp2
      go_ret
      exact ⟨rfl, rfl⟩
  · rw [decide_eq_false (fun e => h0 e.1)]
    go_enter Tryz.func43, Tryz.ntmps43
    go_wp2
    go_ret
    exact ⟨rfl, rfl⟩

theorem has_m_yes (b : Nat) (s : Rm) (t : Nat) (w : World) (h : MmAt b s w) (ht : t < s.threads) :
    Calls Tryz.prog 43 #[.pointer (some ⟨b, 0, none⟩), .int .i64 t] w fun e w' => e = .returned (.bool true) ∧ w' = w :=
  (has_m b s t w h).mono fun _ _ ⟨h1, h2⟩ => ⟨by rw [h1, decide_eq_true (by omega)], h2⟩
theorem has_m_no (b : Nat) (s : Rm) (t : Int) (w : World) (h : MmAt b s w) (ht : ¬ (0 ≤ t ∧ t < s.threads)) :
    Calls Tryz.prog 43 #[.pointer (some ⟨b, 0, none⟩), .int .i64 t] w fun e w' => e = .returned (.bool false) ∧ w' = w :=
  (has_m b s t w h).mono fun _ _ ⟨h1, h2⟩ => ⟨by rw [h1, decide_eq_false ht], h2⟩

def Rm.waiting (s : Rm) (t : Int) : Nat := if 0 ≤ t ∧ t < s.threads then (s.waits t.toNat).length else 0

theorem waiting_any (b : Nat) (s : Rm) (t : Int) (w : World) (h : MmAt b s w) :
    Calls Tryz.prog 36 #[.pointer (some ⟨b, 0, none⟩), .int .i64 t] w fun e w' => e = .returned (.int .i64 (s.waiting t)) ∧ w' = w := by
  by_cases ht : 0 ≤ t ∧ t < s.threads
  · obtain ⟨n, rfl⟩ := Int.eq_ofNat_of_zero_le ht.1
    have hn : n < s.threads := by omega
    have hf := h.few
    have n6 : (n : Int) < 6 := by omega
    have hl := (h.line n hn).len
    have e : s.waiting n = (s.waits n).length := by unfold Rm.waiting; rw [if_pos ht]; rfl
    rw [e]
    have HH : Hid (Calls Tryz.prog 43 #[.pointer (some ⟨b, 0, none⟩), .int .i64 n] w fun e w' => e = .returned (.bool true) ∧ w' = w) := has_m_yes b s n w h hn
    clear h e ht
    go_enter Tryz.func36, Tryz.ntmps36
    go_wp2_with fail
    refine HH.out.mono ?_
    rintro e0 w1 ⟨rfl, rfl⟩
    go_wp2
    go_ret
    exact ⟨rfl, rfl⟩
  · have e : s.waiting t = 0 := by unfold Rm.waiting; rw [if_neg ht]
    rw [e]
    have HH : Hid (Calls Tryz.prog 43 #[.pointer (some ⟨b, 0, none⟩), .int .i64 t] w fun e w' => e = .returned (.bool false) ∧ w' = w) := has_m_no b s t w h ht
    clear h e ht
    go_enter Tryz.func36, Tryz.ntmps36
    go_wp2_with fail
    refine HH.out.mono ?_
    rintro e0 w1 ⟨rfl, rfl⟩
    go_wp2
    go_ret
    exact ⟨rfl, rfl⟩

theorem allow_no (a : Nat → Addr) (b : Nat) (s : Rm) (t c g k : Int) (vs : Value) (w : World) (hE : EnvM a w) (h : MmAt b s w) (ht : ¬ (0 ≤ t ∧ t < s.threads)) :
    Calls Tryz.prog 64 #[.pointer (some ⟨b, 0, none⟩), .int .i64 t, .agg #[.int .i64 c, .int .i64 g], .int .i64 k, vs] w fun e w' => e = .returned (errAt (a 1)) ∧ Below w.heap.size w w' := by
  have hba := box_below c g w
  have c1 : (w.alloc (.cells #[.int .i64 c, .int .i64 g] 65)).cell? ⟨0, 0, none⟩ = some (errAt (a 1)) := (hE.below hba.block).cell 1 (by decide)
  have HH := has_m_no b s t _ (h.alloc (.cells #[.int .i64 c, .int .i64 g] 65)) ht
  clear h ht
  generalize hw : w.alloc (.cells #[.int .i64 c, .int .i64 g] 65) = w1 at *
  go_enter Tryz.func64, Tryz.ntmps64
  go_wp2_with fail
  refine HH.mono ?_
  rintro e0 w2 ⟨rfl, rfl⟩
  go_wp2
  go_ret
  exact ⟨rfl, hba⟩

theorem allow_yes (b : Nat) (s : Rm) (t : Nat) (c g k : Int) (vs r : Value) (w : World) (h : MmAt b s w) (ht : t < s.threads)
    (HC : ∀ w', Below w.heap.size w w' → Calls Tryz.prog 82 #[.pointer (some ⟨b, 0, none⟩), .agg #[.int .i64 c, .int .i64 g], .int .i64 k, vs] w' fun e w'' => e = .returned r ∧ Below w'.heap.size w' w'') :
    Calls Tryz.prog 64 #[.pointer (some ⟨b, 0, none⟩), .int .i64 t, .agg #[.int .i64 c, .int .i64 g], .int .i64 k, vs] w fun e w' => e = .returned r ∧ Below w.heap.size w w' := by
  have hba := box_below c g w
  have HH := has_m_yes b s t _ (h.alloc (.cells #[.int .i64 c, .int .i64 g] 65)) ht
  have q0 : (w.alloc (.cells #[.int .i64 c, .int .i64 g] 65)).cell? ⟨w.heap.size, 0, none⟩ = some (.int .i64 c) := by simp
  have q1 : (w.alloc (.cells #[.int .i64 c, .int .i64 g] 65)).cell? ⟨w.heap.size, 1, none⟩ = some (.int .i64 g) := by simp
  clear h ht
  generalize hw : w.alloc (.cells #[.int .i64 c, .int .i64 g] 65) = w1 at *
  go_enter Tryz.func64, Tryz.ntmps64
  go_wp2_with fail
  refine HH.mono ?_
  rintro e0 w2 ⟨rfl, rfl⟩
  clear HH hw
  have HCF : Hid (∀ d os, Calls Tryz.prog 82 #[.pointer (some ⟨b, 0, none⟩), .agg #[.int .i64 c, .int .i64 g], .int .i64 k, vs] (grow (redrawn w2 d) os) fun e w'' => e = .returned r ∧ ∃ p : Regrown, w'' = grow (redrawn w2 p.d) p.os) := fun d os =>
    Calls.regrown_of (HC _ (below_step hba (below_regrown w2 d os)))
  have d0 := cell_regrown q0
  have d1 := cell_regrown q1
  clear HC
  go_wp2_with fail
  refine wp_region_quiet_below (by kernel_rfl) (by kernel_rfl) ?_
  repeat (first
    | go_big_quiet_step (exact HCF.out _ _)
    | quiet_step (exact HCF.out _ _))
  refine wpQuiet_nil ?_
  intro _ hw'
  obtain ⟨⟨dq, osq⟩, hw''⟩ := hw'
  subst hw''
  have B8 := below_step hba (below_regrown w2 dq osq)
  clear HCF d0 d1 q0 q1
  generalize grow (redrawn w2 dq) osq = w8 at B8 ⊢
  go_wp2
  go_ret
  exact ⟨rfl, B8⟩
end Go.Proofs.YtnnlkolhahjokaaGreatDoor

/- MemE -/
namespace Go.Proofs.YtnnlkolhahjokaaGreatDoor
open Go.RowKit Go.Extern.Stop Go.Stop Go.Extern Go.Sort

def Rm.may (s : Rm) (t c g k : Int) (L : List Int) : Nat := if 0 ≤ t ∧ t < s.threads then s.ar.chk c g k L else 2

theorem Rm.may_yes {s : Rm} {t : Nat} (h : t < s.threads) (c g k : Int) (L : List Int) : s.may t c g k L = s.ar.chk c g k L := by unfold Rm.may; rw [if_pos (by omega)]
theorem Rm.may_no {s : Rm} {t : Int} (h : ¬ (0 ≤ t ∧ t < s.threads)) (c g k : Int) (L : List Int) : s.may t c g k L = 2 := by unfold Rm.may; rw [if_neg h]

theorem allow_nil (a : Nat → Addr) (b : Nat) (s : Rm) (t c g k : Int) (w : World) (hE : EnvM a w) (h : MmAt b s w) :
    Calls Tryz.prog 64 #[.pointer (some ⟨b, 0, none⟩), .int .i64 t, .agg #[.int .i64 c, .int .i64 g], .int .i64 k, .slice none 0 0] w fun e w' => e = .returned (errVal a (s.may t c g k [])) ∧ Below w.heap.size w w' := by
  by_cases ht : 0 ≤ t ∧ t < s.threads
  · obtain ⟨n, rfl⟩ := Int.eq_ofNat_of_zero_le ht.1
    rw [Rm.may_yes (by omega)]
    exact allow_yes b s n c g k _ _ w h (by omega) (fun w' hb => check_nil a b 0 s.ar c g k w' (hE.below hb.block) (h.ar.below hb))
  · rw [Rm.may_no ht]
    exact allow_no a b s t c g k _ w hE h ht

theorem allow_list (a : Nat → Addr) (b : Nat) (s : Rm) (t c g k : Int) (vb cp : Nat) (L : List Int) (hL : L.length ≤ 1000) (w : World) (hE : EnvM a w) (h : MmAt b s w)
    (hv : ∀ j, j < L.length → w.cell? ⟨vb, j, none⟩ = some (.int .i64 (L.getD j 0))) :
    Calls Tryz.prog 64 #[.pointer (some ⟨b, 0, none⟩), .int .i64 t, .agg #[.int .i64 c, .int .i64 g], .int .i64 k, .slice (some ⟨vb, 0, none⟩) L.length cp] w fun e w' => e = .returned (errVal a (s.may t c g k L)) ∧ Below w.heap.size w w' := by
  by_cases ht : 0 ≤ t ∧ t < s.threads
  · obtain ⟨n, rfl⟩ := Int.eq_ofNat_of_zero_le ht.1
    rw [Rm.may_yes (by omega)]
    exact allow_yes b s n c g k _ _ w h (by omega) (fun w' hb => check_list a b 0 s.ar c g k vb cp L hL w' (hE.below hb.block) (h.ar.below hb) (fun j hj => keep_cell hb (hv j hj)))
  · rw [Rm.may_no ht]
    exact allow_no a b s t c g k _ w hE h ht

set_option maxRecDepth 20000 in
set_option maxHeartbeats 1000000 in
theorem mload_ok (a : Nat → Addr) (b : Nat) (s : Rm) (t n m : Nat) (g : Int) (w : World) (hE : EnvM a w) (h : MmAt b s w) (ht : t < s.threads) (hn : n < 64) (hh : s.ar.has n g = true) (hm : m < 4) :
    Calls Tryz.prog 94 #[.pointer (some ⟨b, 0, none⟩), .int .i64 t, .agg #[.int .i64 n, .int .i64 g], .int .i64 m] w fun e w' => e = .returned (.tuple #[.int .i64 ((s.waits t).foldl (Wt.pick n g m) (s.ar.words n m)), .nilIface]) ∧ Below w.heap.size w w' := by
  have h1 := h.alloc (.cells #[.int .i64 n, .int .i64 g] 65)
  have hba := box_below n g w
  have HC := allow_nil a b s t n g m _ (hE.below hba.block) h1
  rw [Rm.may_yes ht, Ar.chk_nil, Ar.at_ok hh (by omega), show errVal a 0 = .nilIface from rfl] at HC
  have q0 : (w.alloc (.cells #[.int .i64 n, .int .i64 g] 65)).cell? ⟨w.heap.size, 0, none⟩ = some (.int .i64 n) := by simp
  have q1 : (w.alloc (.cells #[.int .i64 n, .int .i64 g] 65)).cell? ⟨w.heap.size, 1, none⟩ = some (.int .i64 g) := by simp
  have hf := h.few
  have t6 : (t : Int) < 6 := by omega
  have HLast : Hid (∀ w', Below w.heap.size w w' → Calls Tryz.prog 103 #[.pointer (some ⟨b, 386 + t * 33, none⟩), .agg #[.int .i64 n, .int .i64 g], .int .i64 m] w' fun e w'' => e = .returned (.tuple #[.int .i64 ((s.waits t).foldl (Wt.pick n g m) 0), .bool (waitsFor (s.waits t) n g m)]) ∧ Below w'.heap.size w' w'') := fun w' hb =>
    last_det b (386 + t * 33) (s.waits t) n g m w' ((h.below hb).line t ht)
  have HLoad : Hid (∀ w', Below w.heap.size w w' → Calls Tryz.prog 66 #[.pointer (some ⟨b, 0, none⟩), .agg #[.int .i64 n, .int .i64 g], .int .i64 m] w' fun e w'' => e = .returned (.tuple #[.int .i64 (s.ar.words n m), .nilIface]) ∧ Below w'.heap.size w' w'') := fun w' hb =>
    load_yes a b 0 s.ar n m g w' (hE.below hb.block) (h.ar.below hb) hn hh hm
  have HV : Hid (∀ v0, (s.waits t).foldl (Wt.pick n g m) v0 = if waitsFor (s.waits t) n g m = true then (s.waits t).foldl (Wt.pick n g m) 0 else v0) := by
    have : ∃ e, LastIs (s.waits t) n g m e := by
      by_cases hw : ∃ v, ∀ v0, (s.waits t).foldl (Wt.pick n g m) v0 = v
      · obtain ⟨v, hv⟩ := hw
        exact ⟨_, v, true, rfl, (fun h => Bool.noConfusion h), fun v0 => by rw [hv]; rfl⟩
      · refine ⟨_, 0, false, rfl, fun _ => rfl, ?_⟩
        have key : ∀ l : List Wt, (∃ v, ∀ v0, l.foldl (Wt.pick n g m) v0 = v) ∨ ∀ v0, l.foldl (Wt.pick n g m) v0 = v0 := fun l => by
          induction l with
          | nil => exact Or.inr fun _ => rfl
          | cons x l ih =>
            rcases ih with ⟨v, hv⟩ | hv
            · exact Or.inl ⟨v, fun v0 => hv _⟩
            · by_cases hx : x.c = (n : Int) ∧ x.g = g ∧ x.w = (m : Int)
              · exact Or.inl ⟨x.v, fun v0 => (hv _).trans (if_pos hx)⟩
              · exact Or.inr fun v0 => (hv _).trans (if_neg hx)
        rcases key (s.waits t) with k | k
        · exact absurd k hw
        · intro v0; rw [k]; rfl
    obtain ⟨e, he⟩ := this
    exact (lastIs_det he).2
  rw [HV.out (s.ar.words n m)]
  clear HV h h1 hE hh
  generalize (s.waits t).foldl (Wt.pick n g m) 0 = v at *
  generalize s.ar.words n m = v0 at *
  generalize hw : w.alloc (.cells #[.int .i64 n, .int .i64 g] 65) = w1 at *
  cases hwf : waitsFor (s.waits t) n g m
  all_goals
    rw [hwf] at HLast
    first
      | rw [if_pos (show true = true from rfl)]
      | rw [if_neg (show ¬ false = true from (fun h => Bool.noConfusion h))]
    go_enter Tryz.func94, Tryz.ntmps94
    go_wp2_with fail
    refine HC.mono ?_
    rintro e0 w2 ⟨rfl, hb2⟩
    have B2 := below_step hba hb2
    replace q0 := keep_cell hb2 q0
    replace q1 := keep_cell hb2 q1
    clear hb2 HC hw hba
    have HCF : Hid (∀ d os, Calls Tryz.prog 103 #[.pointer (some ⟨b, 386 + t * 33, none⟩), .agg #[.int .i64 n, .int .i64 g], .int .i64 m] (grow (redrawn w2 d) os) fun e w'' => e = .returned (.tuple #[.int .i64 v, .bool _]) ∧ ∃ p : Regrown, w'' = grow (redrawn w2 p.d) p.os) := fun d os =>
      Calls.regrown_of (HLast.out _ (below_step B2 (below_regrown w2 d os)))
    have d0 := cell_regrown q0
    have d1 := cell_regrown q1
    clear HLast
    go_wp2_with fail
    refine wp_region_quiet_below (by kernel_rfl) (by kernel_rfl) ?_
    repeat (first
      | go_big_quiet_step (exact HCF.out _ _)
      | quiet_step (exact HCF.out _ _))
    refine wpQuiet_nil ?_
    intro _ hw'
    obtain ⟨⟨dq, osq⟩, hw''⟩ := hw'
    subst hw''
    have B3 := below_step B2 (below_regrown w2 dq osq)
    have e0 := d0 dq osq
    have e1 := d1 dq osq
    clear HCF d0 d1 q0 q1 B2
    generalize grow (redrawn w2 dq) osq = w3 at B3 e0 e1 ⊢
  · have HCF : Hid (∀ d os, Calls Tryz.prog 66 #[.pointer (some ⟨b, 0, none⟩), .agg #[.int .i64 n, .int .i64 g], .int .i64 m] (grow (redrawn w3 d) os) fun e w'' => e = .returned (.tuple #[.int .i64 v0, .nilIface]) ∧ ∃ p : Regrown, w'' = grow (redrawn w3 p.d) p.os) := fun d os =>
      Calls.regrown_of (HLoad.out _ (below_step B3 (below_regrown w3 d os)))
    have d0 := cell_regrown e0
    have d1 := cell_regrown e1
    clear HLoad
    go_wp2_with fail
    refine wp_region_quiet_below (by kernel_rfl) (by kernel_rfl) ?_
    repeat (first
      | go_big_quiet_step (exact HCF.out _ _)
      | quiet_step (exact HCF.out _ _))
    refine wpQuiet_nil ?_
    intro _ hw'
    obtain ⟨⟨dq, osq⟩, hw''⟩ := hw'
    subst hw''
    have B4 := below_step B3 (below_regrown w3 dq osq)
    clear HCF d0 d1 e0 e1 B3
    generalize grow (redrawn w3 dq) osq = w4 at B4 ⊢
    go_wp2
    go_ret2
    exact ⟨rfl, B4⟩
  · go_wp2
    go_ret2
    exact ⟨rfl, B3⟩
end Go.Proofs.YtnnlkolhahjokaaGreatDoor
