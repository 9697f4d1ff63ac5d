import Derived.Test.YtdpmnlbnlnmjbaaGreatDoorK27
import Derived.Laws.Tables

/- StI -/
namespace Go.Proofs.YtdpmnlbnlnmjbaaGreatDoor
open Go.RowKit Go.Extern.Stop Go.Stop Go.Extern Go.Maps Go.WideMaps Go.Sort

set_option maxRecDepth 100000 in
theorem mnew_row (c t : Nat) (w : World) (h1 : 1 ≤ c) (h2 : c ≤ 64) (t1 : 1 ≤ t) (t2 : t ≤ 6) :
    Calls Tryz.prog 35 #[.int .i64 c, .int .i64 t] w fun e w' => e = .returned (.tuple #[.pointer (some ⟨w.heap.size + 1, 0, none⟩), .nilIface]) ∧ MmAt (w.heap.size + 1) (Rm.fresh c t) w' ∧ (∃ N : Array Value, w'.heap[w.heap.size + 1]? = some (.cells N 103 (0, 0)) ∧ N.size = 584) ∧ Below w.heap.size w w' := by
  have HN := new_exact c w h1 h2
  have i1 : 1 ≤ (t : Int) := by omega
  have i2 : (t : Int) ≤ 6 := by omega
  have hA := arenaSize c
  obtain ⟨N, hB, n0, n385, nk⟩ := new_made c t
  have HM : Hid (∀ w1 : World, w1.heap.size = w.heap.size + 1 → MmAt (w.heap.size + 1) (Rm.fresh c t) (w1.alloc (.cells N 103)) ∧ (w1.alloc (.cells N 103)).heap[w.heap.size + 1]? = some (.cells N 103 (0, 0)) ∧ N.size = 584) := fun w1 e => by
    refine ⟨by rw [← e]; exact MmAt.fresh c t N w1 h2 t2 n0 n385 nk, by rw [← e]; exact heap_alloc_new w1 _, ?_⟩
    have k1 := nk 583 (by decide) (by decide)
    have k2 := nk 584 (by decide) (by decide)
    rw [zeroM_rest 583 (by decide) (by decide)] at k1
    rw [Array.getElem?_eq_none (xs := Tryz.zeroCells103) (by rw [zeroM_size]; exact Nat.le_refl _)] at k2
    have a1 := (Array.getElem?_eq_some_iff.1 k1).1
    have a2 := Array.getElem?_eq_none_iff.1 k2
    omega
  clear n0 n385 nk
  generalize Tryz.zeroCells93.setIfInBounds 0 (.int .i64 c) = A at *
  have hg := heap_new w (.cells A 93)
  have hb1 : Below w.heap.size w (w.alloc (.cells A 93)) := (Below.refl _ _).alloc (Nat.le_refl _) _
  have hs1 : (w.alloc (.cells A 93)).heap.size = w.heap.size + 1 := by simp
  generalize w.alloc (.cells A 93) = w1 at *
  go_enter Tryz.func35, Tryz.ntmps35
  go_wp2_with fail
  refine HN.mono ?_
  rintro e0 w2 ⟨rfl, rfl⟩
  go_wp2_with (first
    | refine wpList_load_row (by rfl) 93 _ (by rfl) w.heap.size (by rfl) 93 A (0, 0) _ hg Tryz.underlying93 (by rfl) hA ?_
    | refine wpList_build_two (by rfl) 103 0 1 _ _ (by rfl) (.agg A) (.int .i64 t) (by rfl) (by rfl) N hB ?_)
  go_ret2
  obtain ⟨q1, q2, q3⟩ := HM.out _ hs1
  exact ⟨rfl, q1, ⟨N, q2, q3⟩, hb1.alloc hb1.size _⟩

theorem cell_of_row {w : World} {b : Nat} {N : Array Value} {ty : TypeId} (h : w.heap[b]? = some (.cells N ty (0, 0))) (k : Nat) : w.cell? ⟨b, k, none⟩ = N[k]? := by
  simp [World.cell?, h]

theorem MkAt.fresh {a : Nat → Addr} {cs : List (List Ins)} {s : Sta} {pb pc mb : Nat} {w : World} {N C : Array Value} (hp : Pg a cs pb pc w) (hm : MmAt mb (Rm.fresh s.cells.toNat cs.length) w) (hr : w.heap[mb]? = some (.cells N 103 (0, 0)))
    (c1 : ∀ k, k < 584 → C[k]? = N[k]?) (c2 : C[584]? = some (.slice (some ⟨pb, 0, none⟩) cs.length pc)) (c3 : ∀ k, 585 ≤ k → k < 639 → C[k]? = some (.int .i64 0)) (c4 : C[639]? = some (.slice none 0 0)) (c5 : C[640]? = some (.int .i64 0)) :
    MkAt a cs ⟨w.heap.size, w.heap.size, pb, pc, .slice none 0 0⟩ (s.at1 cs.length 0 0) (w.alloc (.cells C 109)) where
  pg := ⟨w, hp, rfl, (Below.refl _ _).alloc (Nat.le_refl _) _⟩
  mem := by
    have e : (s.at1 cs.length 0 0).mem = Rm.fresh s.cells.toNat cs.length := by
      show Rm.mk _ _ _ = _
      rw [List.take_zero, Ar.filled_nil]
    rw [e]
    exact hm.move (fun k hk => by rw [World.cell?_alloc_new, cell_of_row hr]; exact c1 k hk) (fun k => World.frozen?_alloc_new _ _ _ _)
  thr := rfl
  prog := by rw [World.cell?_alloc_new]; exact c2
  reg t r ht hr := by
    rw [World.cell?_alloc_new]
    show C[585 + t * 9 + r]? = some (.int .i64 (rowAt (s.regs.take 0) t r))
    rw [rowAt_out (Nat.zero_le _)]
    exact c3 _ (by omega) (by omega)
  pc t ht := by
    rw [World.cell?_alloc_new]
    exact c3 _ (by omega) (by omega)
  marks := by rw [World.cell?_alloc_new]; exact c4
  own := ⟨rfl, .inl ⟨rfl, rfl⟩⟩
  faults := by rw [World.cell?_alloc_new]; exact c5
  frozen o _ _ := World.frozen?_alloc_new _ _ _ _
  ne k hk := by cases hk
  hB := Nat.le_refl _

def NewPost (a : Nat → Addr) (s : Sta) (cs : List (List Ins)) (w : World) (e : Ending) (w' : World) : Prop :=
  Below w.heap.size w w' ∧
  (((s.fault cs).1 = 0 ∧ Right cs ∧ ∃ p, e = .returned (.tuple #[.pointer (some ⟨p.b, 0, none⟩), .nilIface]) ∧ MkAt a cs p (s.mach cs.length) w' ∧ w.heap.size ≤ p.B ∧ p.mv = .slice none 0 0) ∨
   ((s.fault cs).1 ≠ 0 ∧ ∃ v, e = .returned (.tuple #[.pointer none, v]) ∧ errIs a (s.fault cs) v w' w.heap.size))

theorem NewPost.bound {a : Nat → Addr} {s : Sta} {cs : List (List Ins)} {w w' : World} (h : ¬ (1 ≤ s.cells ∧ s.cells ≤ 64 ∧ 1 ≤ cs.length ∧ cs.length ≤ 6 ∧ s.fits cs.length = true)) (hb : Below w.heap.size w w') : NewPost a s cs w (.returned (.tuple #[.pointer none, errAt (a 1)])) w' := by
  have e : s.fault cs = (2, -1) := if_neg h
  exact ⟨hb, Or.inr ⟨by rw [e]; decide, _, rfl, Or.inr (Or.inl ⟨by rw [e]; decide, by rw [e], by rw [e]; rfl⟩)⟩⟩

theorem machSize (C : Array Value) (h : C.size = 641) : (Tryz.prog.info? 109).map (·.size) = some C.size := by rw [h]; kernel_rfl
theorem memSize (N : Array Value) (h : N.size = 584) : (Tryz.prog.info? 103).map (·.size) = some N.size := by rw [h]; kernel_rfl

set_option maxRecDepth 100000 in
set_option maxHeartbeats 2000000 in
theorem new_any {a : Nat → Addr} {s : Sta} {ai ar ad : Option Addr} {ci cr cap : Nat} {cs : List (List Ins)} {w : World} (hE : Env a w) (hs : StaAt s ⟨ai, ci, ar, cr⟩ w) (hl : codesAt ad cs w) (hsz : ∀ (t : Nat) L, cs[t]? = some L → ∀ (i : Nat) x, L[i]? = some x → x.to.size ≤ maxLen) :
    Calls Tryz.prog 11 #[.agg #[.int .i64 s.cells, .slice ai s.init.length ci, .slice ar s.regs.length cr], .slice ad cs.length cap] w fun e w' => Hid (NewPost a s cs w e w') := by
  obtain ⟨w1, hw1⟩ : ∃ w1, w1 = w.alloc (.cells #[.int .i64 s.cells, .slice ai s.init.length ci, .slice ar s.regs.length cr] 34) := ⟨_, rfl⟩
  have b1 : Below w.heap.size w w1 := by rw [hw1]; exact (Below.refl _ _).alloc (Nat.le_refl _) _
  have e0 : w1.cell? ⟨w.heap.size, 0, none⟩ = some (.int .i64 s.cells) := by rw [hw1]; simp
  have e1 : w1.cell? ⟨w.heap.size, 1, none⟩ = some (.slice ai s.init.length ci) := by rw [hw1]; simp
  have e2 : w1.cell? ⟨w.heap.size, 2, none⟩ = some (.slice ar s.regs.length cr) := by rw [hw1]; simp
  have E1 := hE.below b1.block
  have S1 := hs.below b1
  have L1 := hl.below b1
  have HQ : Hid (∀ e w', Below w.heap.size w w' → NewPost a s cs w1 e w' → NewPost a s cs w e w') := hide fun e w' hb h => by
    refine ⟨hb, h.2.imp (fun ⟨h1, h2, p, h3, h4, h5, h6⟩ => ⟨h1, h2, p, h3, h4, Nat.le_trans b1.size h5, h6⟩) (fun ⟨h1, v, h2, h3⟩ => ⟨h1, v, h2, ?_⟩)⟩
    rcases h3 with h3 | h3 | ⟨h4, j, N, h5, h6, h7⟩
    · exact .inl h3
    · exact .inr (.inl h3)
    · exact .inr (.inr ⟨h4, j, N, h5, Nat.le_trans b1.size h6, h7⟩)
  clear hE hs hl
  by_cases hc : 1 ≤ s.cells ∧ s.cells ≤ 64
  · obtain ⟨c, hcc⟩ := Int.eq_ofNat_of_zero_le (show 0 ≤ s.cells by omega)
    by_cases ht : 1 ≤ cs.length ∧ cs.length ≤ 6
    · have HN := hide (mnew_row c cs.length w1 (by omega) (by omega) ht.1 ht.2)
      rw [← hcc] at HN
      have HF := hide (fun w' (h : Below w1.heap.size w1 w') => sfits_any (S1.below h) cs.length)
      have HS : Hid (∀ w', Below w1.heap.size w1 w' → StaAt s ⟨ai, ci, ar, cr⟩ w') := hide fun w' h => S1.below h
      have HP := hide (fun w' (h : Below w1.heap.size w1 w') => programs_any (cap := cap) (E1.below h.block) (L1.below h) ht.2 hsz)
      have HE : Hid (∀ w', Below w1.heap.size w1 w' → Env a w') := hide fun w' h => E1.below h.block
      have hcn : s.cells.toNat = c := by omega
      cases hfit : s.fits cs.length with
      | false =>
        have HB : Hid (∀ w', Below w1.heap.size w1 w' → NewPost a s cs w (.returned (.tuple #[.pointer none, errAt (a 1)])) w') := hide fun w' h => NewPost.bound (fun h => by rw [hfit] at h; exact absurd h.2.2.2.2 (by decide)) (below_step b1 h)
        rw [hfit] at HF
        clear E1 S1 L1 HQ ht hc hcc HS HP hfit
        go_enter Tryz.func11, Tryz.ntmps11
        go_wp2_with fail
        rw [← hw1]
        clear hw1
        refine HN.out.mono ?_
        rintro e w2 ⟨rfl, -, -, hb2⟩
        replace e0 := keep_cell hb2 (by exact e0)
        replace e1 := keep_cell hb2 (by exact e1)
        replace e2 := keep_cell hb2 (by exact e2)
        clear HN
        go_wp2_with fail
        refine (HF.out w2 hb2).mono ?_
        rintro e w3 ⟨rfl, hb3⟩
        have c1 : w3.cell? ⟨0, 0, none⟩ = some (errAt (a 1)) := (HE.out w3 (below_step hb2 hb3)).cell 1 (by decide)
        have B3 := below_step hb2 hb3
        clear HF HE hb3
        go_wp2
        go_quiet (fail)
        go_wp2
        go_ret2
        exact HB.out _ (below_dN B3 _)
      | true =>
        have HG : Hid (1 ≤ s.cells ∧ s.cells ≤ 64 ∧ 1 ≤ cs.length ∧ cs.length ≤ 6 ∧ s.fits cs.length = true) := hide ⟨hc.1, hc.2, ht.1, ht.2, hfit⟩
        rw [hfit] at HF
        have HT := hide ht
        clear E1 S1 L1 ht hc hcc hfit
        go_enter Tryz.func11, Tryz.ntmps11
        go_wp2_with fail
        rw [← hw1]
        clear hw1
        refine HN.out.mono ?_
        rintro e w2 ⟨rfl, hm2, ⟨N, hr2, hN⟩, hb2⟩
        replace e0 := keep_cell hb2 (by exact e0)
        replace e1 := keep_cell hb2 (by exact e1)
        replace e2 := keep_cell hb2 (by exact e2)
        have hml : w1.heap.size + 1 < w2.heap.size := lt_of_block hr2
        clear HN
        go_wp2_with fail
        refine (HF.out w2 hb2).mono ?_
        rintro e w3 ⟨rfl, hb3⟩
        have B3 := below_step hb2 hb3
        replace e0 := keep_cell hb3 e0
        replace e1 := keep_cell hb3 e1
        replace e2 := keep_cell hb3 e2
        replace hm2 := hm2.below hb3
        replace hr2 : w3.heap[w1.heap.size + 1]? = _ := (hb3.block _ hml).trans hr2
        have hml3 := Nat.lt_of_lt_of_le hml hb3.size
        clear HF hb2 hb3 hml
        go_wp2_with fail
        refine (HP.out w3 B3).mono ?_
        rintro e w4 hpp
        obtain ⟨hb4, hpp⟩ := hpp.out
        have B4 := below_step B3 hb4
        rcases hpp with ⟨hz, v, pl, rfl, hpl⟩ | ⟨hz, v, rfl, hv⟩
        · have HR : Right cs := right_of (codesFrom_zero cs 0 hz) HT.out.1 HT.out.2 hsz
          obtain ⟨pb, pc, rfl, hpb, hpg⟩ := hpl.pg (HE.out w4 B4) HR
          replace e0 := keep_cell hb4 e0
          replace e1 := keep_cell hb4 e1
          replace e2 := keep_cell hb4 e2
          have hm4 := hm2.below hb4
          have hr4 : w4.heap[w1.heap.size + 1]? = some (.cells N 103 (0, 0)) := (hb4.block _ hml3).trans hr2
          obtain ⟨C, hC, hCs, c1, c2, c3, c4, c5⟩ := mach_made N hN (.slice (some ⟨pb, 0, none⟩) cs.length pc) rfl
          have hA : MkAt a cs ⟨w4.heap.size, w4.heap.size, pb, pc, .slice none 0 0⟩ (s.at1 cs.length 0 0) (w4.alloc (.cells C 109)) := MkAt.fresh hpg (by rw [hcn]; exact hm4) hr4 c1 c2 c3 c4 c5
          have b5 : Below w4.heap.size w4 (w4.alloc (.cells C 109)) := (Below.refl _ _).alloc (Nat.le_refl _) _
          have hX : FillX a cs ⟨w4.heap.size, w4.heap.size, pb, pc, .slice none 0 0⟩ s ⟨ai, ci, ar, cr⟩ w4 (w4.alloc (.cells C 109)) := ⟨hA, HS.out w4 B4, rfl, b5, HG.out.2.2.2.2, HG.out.2.1, HT.out.1⟩
          have HFl := hide (kfill_any hX)
          have HZ : Hid (∀ w', MkStep a cs ⟨w4.heap.size, w4.heap.size, pb, pc, .slice none 0 0⟩ (w4.alloc (.cells C 109)) (.slice none 0 0) (s.mach cs.length) w' → NewPost a s cs w (.returned (.tuple #[.pointer (some ⟨w4.heap.size, 0, none⟩), .nilIface])) w') := hide fun w' k => by
            have b6 : Below w4.heap.size (w4.alloc (.cells C 109)) w' := k.turns.below (by simp) (fun i o hi hf => by have := hA.fp_ge hf; dsimp only at this; omega)
            have b7 : Below w.heap.size w w' := below_step b1 (B4.trans ((b5.trans b6).mono B4.size))
            have ef : s.fault cs = codesFrom 0 cs := if_pos HG.out
            exact ⟨b7, Or.inl ⟨by rw [ef]; exact hz, HR, _, rfl, k.at', Nat.le_trans b1.size B4.size, rfl⟩⟩
          replace e0 := keep_cell b5 e0
          replace e1 := keep_cell b5 e1
          replace e2 := keep_cell b5 e2
          have hms := memSize N hN
          have hks := machSize C hCs
          clear hm2 hm4 hr2 hX hA hpg hpl HR c1 c2 c3 c4 c5 hz HE HP HS HQ HG hCs hN hpb b5 hb4 B3 B4 hml3
          obtain ⟨W5, hW5⟩ : ∃ W5, W5 = w4.alloc (.cells C 109) := ⟨_, rfl⟩
          rw [← hW5] at HFl HZ
          go_wp2_with (first
            | refine wpList_load_row (by rfl) 103 _ (by rfl) (w1.heap.size + 1) (by rfl) 103 N (0, 0) _ hr4 Tryz.underlying103 (by rfl) hms ?_
            | refine wpList_build_two (by rfl) 109 0 1 _ _ (by rfl) (.agg N) (.slice (some ⟨pb, 0, none⟩) cs.length pc) (by rfl) (by rfl) C hC ?_)
          rw [← hW5]
          clear hW5 hr4
          refine HFl.out.mono ?_
          rintro e w6 ⟨rfl, hk⟩
          have hZ := HZ.out w6 hk.out
          clear HFl HZ hk
          go_wp2
          go_ret2
          exact hZ
        · have ef : s.fault cs = codesFrom 0 cs := if_pos HG.out
          have HZ : Hid (∀ v, errIs a (codesFrom 0 cs) v w4 w3.heap.size → NewPost a s cs w (.returned (.tuple #[.pointer none, v])) w4) := hide fun v hv => by
            refine ⟨below_step b1 B4, Or.inr ⟨by rw [ef]; exact hz, v, rfl, ?_⟩⟩
            rw [ef]
            rcases hv with h3 | h3 | ⟨h4, j, N, h5, h6, h7⟩
            · exact .inl h3
            · exact .inr (.inl h3)
            · exact .inr (.inr ⟨h4, j, N, h5, Nat.le_trans (Nat.le_trans b1.size B3.size) h6, h7⟩)
          have HV := HZ.out v hv
          clear hm2 hr2 HE HP HS HQ HG HZ hN hb4 B3 B4 hml3 e0 e1 e2
          rcases hv with ⟨h, -⟩ | ⟨-, -, rfl⟩ | ⟨-, j2, N2, -, -, rfl, -, -⟩
          · exact absurd h hz
          · obtain ⟨k, hk⟩ : ∃ k, (codesFrom 0 cs).1 = k + 1 := ⟨(codesFrom 0 cs).1 - 1, by omega⟩
            rw [hk] at HV ⊢
            clear hz hk ef
            rw [show xval a (k + 1) = xerr (a k) from rfl] at HV ⊢
            have HV2 := hide HV
            clear HV
            go_wp2
            go_ret2
            exact HV2.out
          · have HV2 := hide HV
            clear HV hz ef
            go_wp2
            go_ret2
            exact HV2.out
    · have HN := hide (mnew_threads a c cs.length w1 E1.toM (by omega) (by omega) (by omega))
      rw [← hcc] at HN
      have HB : Hid (∀ w', Below w1.heap.size w1 w' → NewPost a s cs w (.returned (.tuple #[.pointer none, errAt (a 1)])) w') := hide fun w' h => NewPost.bound (fun h => ht ⟨h.2.2.1, h.2.2.2.1⟩) (below_step b1 h)
      clear E1 S1 L1 HQ ht hc hcc e1 e2
      go_enter Tryz.func11, Tryz.ntmps11
      go_wp2_with fail
      rw [← hw1]
      clear hw1
      refine HN.out.mono ?_
      rintro e w2 ⟨rfl, hb2⟩
      go_wp2
      go_ret2
      exact HB.out _ hb2
  · have HN := hide (mnew_cells a s.cells cs.length w1 E1.toM hc)
    have HB : Hid (∀ w', Below w1.heap.size w1 w' → NewPost a s cs w (.returned (.tuple #[.pointer none, errAt (a 1)])) w') := hide fun w' h => NewPost.bound (fun h => hc ⟨h.1, h.2.1⟩) (below_step b1 h)
    clear E1 S1 L1 HQ hc e1 e2
    go_enter Tryz.func11, Tryz.ntmps11
    go_wp2_with fail
    rw [← hw1]
    clear hw1
    refine HN.out.mono ?_
    rintro e w2 ⟨rfl, hb2⟩
    go_wp2
    go_ret2
    exact HB.out _ hb2
end Go.Proofs.YtdpmnlbnlnmjbaaGreatDoor

/- StJ -/
namespace Go.Proofs.YtdpmnlbnlnmjbaaGreatDoor
open Go.RowKit Go.Extern.Stop Go.Stop Go.Extern Go.Maps Go.WideMaps Go.Sort

theorem MkAt.move {a : Nat → Addr} {cs : List (List Ins)} {p : MkPl} {m : Mk} {w w' : World} {b' : Nat} {v : Value} (h : MkAt a cs p m w) (hB : Below p.B w w') (hb : p.B ≤ b') (hc : ∀ k, k < 641 → k ≠ 639 → w'.cell? ⟨b', k, none⟩ = w.cell? ⟨p.b, k, none⟩) (hf : ∀ k, w'.frozen? ⟨b', k, none⟩ = false)
    (hv : w'.cell? ⟨b', 639, none⟩ = some v) (hown : w'.ownsRow 0 80 2 v m.marks.length (markCells m.marks)) (hne : ∀ k, v.ownBlock = some k → k ≠ b' ∧ p.B ≤ k) : MkAt a cs ⟨p.B, b', p.pb, p.pc, v⟩ m w' where
  pg := by
    obtain ⟨W, h1, h2, h3⟩ := h.pg.ex
    exact ⟨W, h1, h2, h3.trans hB⟩
  mem := h.mem.move (fun k hk => hc k (by omega) (by omega)) hf
  thr := h.thr
  prog := by rw [hc _ (by omega) (by omega)]; exact h.prog
  reg t r ht hr := by rw [hc _ (by omega) (by omega)]; exact h.reg t r ht hr
  pc t ht := by rw [hc _ (by omega) (by omega)]; exact h.pc t ht
  marks := hv
  own := hown
  faults := by rw [hc _ (by omega) (by omega)]; exact h.faults
  frozen o _ _ := hf o
  ne := hne
  hB := hb

theorem kmarks_any {a : Nat → Addr} {cs : List (List Ins)} {p : MkPl} {m : Mk} {w : World} (h : MkAt a cs p m w) (h5 : m.marks.length ≤ 500) :
    Calls Tryz.prog 34 #[.pointer (some ⟨p.b, 0, none⟩)] w fun e w' => ∃ ad cap, e = .returned (.slice ad m.marks.length cap) ∧ w'.ownsRow w.heap.size 80 2 (.slice ad m.marks.length cap) m.marks.length (markCells m.marks) ∧ Below w.heap.size w w' := by
  have HC := hide (cloneM_any h.own (by omega))
  have hm := h.marks
  obtain ⟨ad0, cap0, hvs, -⟩ := ownsRow_shape h.own
  rw [hvs] at hm HC
  clear h h5 hvs
  go_enter Tryz.func34, Tryz.ntmps34
  go_wp2_with fail
  refine HC.out.mono ?_
  rintro e w1 ⟨v, rfl, hown, hb⟩
  obtain ⟨ad, cap, rfl, -⟩ := ownsRow_shape hown
  have HO := hide hown
  clear hown HC hm
  go_wp2
  go_ret
  exact ⟨ad, cap, rfl, HO.out, hb⟩

end Go.Proofs.YtdpmnlbnlnmjbaaGreatDoor

/- StL -/
namespace Go.Proofs.YtdpmnlbnlnmjbaaGreatDoor
open Go.RowKit

theorem wd_zero : Wd 0 := ⟨by decide, by decide⟩
theorem rowAt_wd {R : List (List Int)} {n : Nat} (h : rowsOk n R = true) (t r : Nat) : Wd (rowAt R t r) := by
  unfold rowAt
  cases ht : R[t]? with
  | none =>
    have e : R.getD t [] = [] := by rw [List.getD_eq_getElem?_getD, ht]; rfl
    rw [e]; exact wd_zero
  | some row =>
    have e : R.getD t [] = row := by rw [List.getD_eq_getElem?_getD, ht]; rfl
    rw [e]
    cases hr : row[r]? with
    | none => rw [List.getD_eq_getElem?_getD, hr]; exact wd_zero
    | some v => rw [List.getD_eq_getElem?_getD, hr]; exact (rowOk_at h ht).2 r v hr
theorem Sta.mach_ok {s : Sta} {n : Nat} (h : s.fits n = true) (h2 : s.cells ≤ 64) (hn : n ≤ 6) : MkOk n 1 (s.mach n) := by
  obtain ⟨-, f2, -, f4⟩ := Sta.fits_of h
  refine ⟨⟨fun t _ x hx => ?_, fun t _ => ?_, fun c k => ?_, fun c => ?_, ?_, hn⟩, rfl, fun t r => rowAt_wd f4 t r, Nat.zero_le _, Nat.zero_le _, fun _ => Nat.zero_le _⟩
  · exact absurd hx List.not_mem_nil
  · exact Nat.zero_le _
  · show Wd (if _ then rowAt s.init c k else 0)
    split
    · exact rowAt_wd f2 c k
    · exact wd_zero
  · show (if c < s.init.length then 1 else 0) ≤ 1
    split <;> decide
  · show s.cells.toNat ≤ 64
    omega
theorem Sta.fault_fits {s : Sta} {cs : List (List Ins)} (h : (s.fault cs).1 = 0) : s.fits cs.length = true ∧ s.cells ≤ 64 ∧ cs.length ≤ 6 ∧ 1 ≤ s.cells := by
  unfold Sta.fault at h
  split at h
  · rename_i h0; exact ⟨h0.2.2.2.2, h0.2.1, h0.2.2.2.1, h0.1⟩
  · cases h
end Go.Proofs.YtdpmnlbnlnmjbaaGreatDoor
