import Derived.Test.YtlnjghohgoahpaaGreatDoorM40
import Derived.Laws.Tables

/- StJ -/
namespace Go.Proofs.YtlnjghohgoahpaaGreatDoor
open Go.RowKit Go.Extern.Stop Go.Stop Go.Extern Go.Maps Go.WideMaps Go.Sort

theorem MkAt.whole {a : Nat → Addr} {cs : List (List Ins)} {p : MkPl} {m : Mk} {w : World} (h : MkAt a cs p m w) (k : Nat) (hk : k < 641) : ∃ v, w.cell? ⟨p.b, k, none⟩ = some v ∧ v.oneCell' = true := by
  have hm := h.mem
  have h6 := hm.few
  have cast : ∀ {o v}, w.cell? ⟨p.b, o, none⟩ = some v → o = k → v.oneCell' = true → ∃ v, w.cell? ⟨p.b, k, none⟩ = some v ∧ v.oneCell' = true := fun hc e ho => by subst e; exact ⟨_, hc, ho⟩
  by_cases h0 : k = 0
  · exact cast hm.ar.size (by omega) rfl
  by_cases h1 : k < 257
  · exact cast (hm.ar.words ((k - 1) / 4) ((k - 1) % 4) (by omega) (by omega)) (by omega) rfl
  by_cases h2 : k < 321
  · exact cast (hm.ar.there (k - 257) (by omega)) (by omega) rfl
  by_cases h3 : k < 385
  · exact cast (hm.ar.given (k - 321) (by omega)) (by omega) rfl
  by_cases h4 : k = 385
  · exact cast hm.nt (by omega) rfl
  by_cases h5 : k < 386 + m.mem.threads * 33
  · have hl := hm.line ((k - 386) / 33) (by omega)
    by_cases e : (k - 386) % 33 = 32
    · exact cast hl.len (by omega) rfl
    · exact cast (hl.row ((k - 386) % 33 / 4) ((k - 386) % 33 % 4) (by omega) (by omega)) (by omega) rfl
  by_cases h6 : k < 584
  · exact cast (hm.rest k (by omega) h6) rfl rfl
  by_cases h7 : k = 584
  · exact cast h.prog (by omega) rfl
  by_cases h8 : k < 639
  · by_cases e : (k - 585) % 9 = 8
    · exact cast (h.pc ((k - 585) / 9) (by omega)) (by omega) rfl
    · exact cast (h.reg ((k - 585) / 9) ((k - 585) % 9) (by omega) (by omega)) (by omega) rfl
  by_cases h9 : k = 639
  · refine cast h.marks (by omega) ?_
    obtain ⟨g, c, e, _⟩ := ownsRow_shape h.own
    rw [e]; rfl
  · exact cast h.faults (by omega) rfl

theorem MkAt.rowOf {a : Nat → Addr} {cs : List (List Ins)} {p : MkPl} {m : Mk} {w : World} (h : MkAt a cs p m w) : ∃ C : Array Value, C.size = 641 ∧ (∀ k, k < 641 → C[k]? = w.cell? ⟨p.b, k, none⟩) ∧ C.all (·.oneCell') = true := by
  refine ⟨((List.range 641).map fun k => (w.cell? ⟨p.b, k, none⟩).getD undef).toArray, by rw [List.size_toArray, List.length_map, List.length_range], fun k hk => ?_, ?_⟩
  · obtain ⟨v, hv, -⟩ := h.whole k hk
    rw [List.getElem?_toArray, List.getElem?_map, List.getElem?_range hk, hv]
    simp [hv]
  · rw [List.all_toArray, List.all_eq_true]
    intro v hv
    obtain ⟨k, hk, rfl⟩ := List.mem_map.1 hv
    obtain ⟨v, hv, ho⟩ := h.whole k (List.mem_range.1 hk)
    rw [hv]; exact ho

theorem run_loadVar_cells {P : Program} (w : World) (b : Nat) (ty : TypeId) (cs : Array Value) (d : TypeDesc) (hc : ∀ k, k < cs.size → cs[k]? = w.cell? ⟨b, k, none⟩)
    (hu : P.underlying ty = some d) (hd : (match d with | .struct _ | .array _ _ => true | _ => false) = true) (hi : (P.info? ty).map (·.size) = some cs.size) :
    (loadVar ty ⟨b, 0, none⟩).run P w = .ok (.agg cs) w := by
  have hl : (loadCells ⟨b, 0, none⟩ cs.toList.length).run P w = .ok cs.toList.toArray w :=
    run_loadCells_list (P := P) w ⟨b, 0, none⟩ cs.toList (fun j v hv => by
      have hj := (List.getElem?_eq_some_iff.1 hv).1
      rw [Addr.add_lit, Nat.zero_add, ← hc j (by simpa using hj)]
      simpa using hv)
  cases hq : P.info? ty with
  | none => simp [hq] at hi
  | some i =>
    have hs : i.size = cs.size := by simpa [hq] using hi
    have hagg : (isAgg ty).run P w = .ok true w := by
      unfold isAgg
      rw [Sem.run_bind, run_underlying hu w]
      cases d <;> simp_all
    simp only [Array.length_toList, Array.toArray_toList] at hl
    simp [loadVar, Sem.run_bind, hagg, sizeOf, typeInfo, hq, hs, hl]
theorem wpList_load_cells {P : Program} {ops : Array Oper} {rest : List Oper} {o : Oper} {a : Act} {w : World} {Q : Exit → Act → World → Prop} (hgd : o.guard = none) (ty : TypeId) (x : Operand) (ho : o.op = .load ty x)
    (b : Nat) (hx : a.eval x = .pointer (some ⟨b, 0, none⟩)) (cs : Array Value) (d : TypeDesc) (hc : ∀ k, k < cs.size → cs[k]? = w.cell? ⟨b, k, none⟩)
    (hu : P.underlying ty = some d) (hd : (match d with | .struct _ | .array _ _ => true | _ => false) = true) (hi : (P.info? ty).map (·.size) = some cs.size)
    (h : wpList P ops Q rest (a.put o.dst (.agg cs)) w) : wpList P ops Q (o :: rest) a w := by
  refine wpList_plain hgd fun K hK => ?_
  unfold Oper.wp execOp
  simp only [ho, hx, Instr.loadAt, Instr.sureAddr, Sem.run_bind, Sem.run_pure, Result.andThen_ok, run_loadVar_cells w b ty cs d hc hu hd hi]
  exact hK _ _ h

theorem MkAt.move {a : Nat → Addr} {cs : List (List Ins)} {p : MkPl} {m : Mk} {w w' : World} {b' : Nat} {v : Value} (h : MkAt a cs p m w) (hB : Below p.B w w') (hb : p.B ≤ b') (hc : ∀ k, k < 641 → k ≠ 639 → w'.cell? ⟨b', k, none⟩ = w.cell? ⟨p.b, k, none⟩) (hf : ∀ k, w'.frozen? ⟨b', k, none⟩ = false)
    (hv : w'.cell? ⟨b', 639, none⟩ = some v) (hown : w'.ownsRow 0 80 2 v m.marks.length (markCells m.marks)) (hne : ∀ k, v.ownBlock = some k → k ≠ b' ∧ p.B ≤ k) : MkAt a cs ⟨p.B, b', p.pb, p.pc, v⟩ m w' where
  pg := by
    obtain ⟨W, h1, h2, h3⟩ := h.pg.ex
    exact ⟨W, h1, h2, h3.trans hB⟩
  mem := h.mem.move (fun k hk => hc k (by omega) (by omega)) hf
  thr := h.thr
  prog := by rw [hc _ (by omega) (by omega)]; exact h.prog
  reg t r ht hr := by rw [hc _ (by omega) (by omega)]; exact h.reg t r ht hr
  pc t ht := by rw [hc _ (by omega) (by omega)]; exact h.pc t ht
  marks := hv
  own := hown
  faults := by rw [hc _ (by omega) (by omega)]; exact h.faults
  frozen o _ _ := hf o
  ne := hne
  hB := hb

theorem kmarks_any {a : Nat → Addr} {cs : List (List Ins)} {p : MkPl} {m : Mk} {w : World} (h : MkAt a cs p m w) (h5 : m.marks.length ≤ 500) :
    Calls Tryz.prog 34 #[.pointer (some ⟨p.b, 0, none⟩)] w fun e w' => ∃ ad cap, e = .returned (.slice ad m.marks.length cap) ∧ w'.ownsRow w.heap.size 80 2 (.slice ad m.marks.length cap) m.marks.length (markCells m.marks) ∧ Below w.heap.size w w' := by
  have HC := hide (cloneM_any h.own (by omega))
  have hm := h.marks
  obtain ⟨ad0, cap0, hvs, -⟩ := ownsRow_shape h.own
  rw [hvs] at hm HC
  clear h h5 hvs
  go_enter Tryz.func34, Tryz.ntmps34
  go_wp2_with fail
  refine HC.out.mono ?_
  rintro e w1 ⟨v, rfl, hown, hb⟩
  obtain ⟨ad, cap, rfl, -⟩ := ownsRow_shape hown
  have HO := hide hown
  clear hown HC hm
  go_wp2
  go_ret
  exact ⟨ad, cap, rfl, HO.out, hb⟩

theorem ownsRow_zero {w : World} {base n sz : Nat} {e : TypeId} {v : Value} {xs : List Value} (h : w.ownsRow base e sz v n xs) : w.ownsRow 0 e sz v n xs := by
  rcases h with ⟨hlen, h | ⟨g, cap, cur, h1, -, h2⟩⟩
  · exact ⟨hlen, .inl h⟩
  · exact ⟨hlen, .inr ⟨g, cap, cur, h1, Nat.zero_le _, h2⟩⟩

theorem copy_at {a : Nat → Addr} {cs : List (List Ins)} {p : MkPl} {m : Mk} {w w2 w3 : World} (h : MkAt a cs p m w) {C : Array Value} (hc : ∀ k, k < 641 → C[k]? = w.cell? ⟨p.b, k, none⟩)
    (hs : w2.heap.size = w.heap.size + 1) (hrow : w2.heap[w.heap.size]? = some (.cells C 109 (0, 0))) (hold : Below w.heap.size w w2) {v : Value} (hb : Below w2.heap.size w2 w3) (hown : w3.ownsRow w2.heap.size 80 2 v m.marks.length (markCells m.marks)) :
    MkAt a cs ⟨p.B, w.heap.size, p.pb, p.pc, v⟩ m (w3.setCell ⟨w.heap.size, 639, none⟩ v) ∧ Below w.heap.size w (w3.setCell ⟨w.heap.size, 639, none⟩ v) := by
  have hB := below_step hold hb
  have hBs : p.B ≤ w.heap.size := by have := h.hB; have := h.lt; omega
  have hr3 : w3.heap[w.heap.size]? = some (.cells C 109 (0, 0)) := (hb.block _ (by omega)).trans hrow
  have hne : ∀ k, v.ownBlock = some k → k ≠ w.heap.size ∧ w.heap.size ≤ k := fun k hk => by have := (hown.lt k hk).1; omega
  have hB4 : Below w.heap.size w (w3.setCell ⟨w.heap.size, 639, none⟩ v) := hB.setCell (Nat.le_refl _) _
  have c3 : ∀ k, k < 641 → w3.cell? ⟨w.heap.size, k, none⟩ = w.cell? ⟨p.b, k, none⟩ := fun k hk => by rw [← hc k hk]; exact cell_of_row hr3 k
  refine ⟨h.move (hB4.mono hBs) hBs (fun k hk hn => ?_) (fun k => ?_) ?_ ?_ (fun k hk => ⟨(hne k hk).1, Nat.le_trans hBs (hne k hk).2⟩), hB4⟩
  · obtain ⟨u, hu, -⟩ := h.whole k hk
    rw [hu]
    exact cell_ne ((c3 k hk).trans hu) (Or.inr (by omega))
  · rw [World.frozen?_setCell]
    exact frozen_of_row _ _ _ _ _ hr3
  · obtain ⟨u, hu, -⟩ := h.whole 639 (by decide)
    exact World.cell?_setCell_same _ _ _ ((c3 639 (by decide)).trans hu)
  · exact ownsRow_zero (ownsRow_block hown fun k hk => Below.heap_setCell _ _ _ _ (hne k hk).1)
end Go.Proofs.YtlnjghohgoahpaaGreatDoor

/- StN -/
namespace Go.Proofs.YtlnjghohgoahpaaGreatDoor
open Go.RowKit Go.Extern.Stop Go.Stop Go.Extern Go.Maps Go.WideMaps Go.Sort

set_option maxRecDepth 100000 in
set_option maxHeartbeats 2000000 in
theorem kcopy_any {a : Nat → Addr} {cs : List (List Ins)} {p : MkPl} {m : Mk} {w : World} (h : MkAt a cs p m w) (h5 : m.marks.length ≤ 500) :
    Calls Tryz.prog 14 #[.pointer (some ⟨p.b, 0, none⟩)] w fun e w' => ∃ v, e = .returned (.pointer (some ⟨w.heap.size, 0, none⟩)) ∧ Hid (MkAt a cs ⟨p.B, w.heap.size, p.pb, p.pc, v⟩ m w' ∧ Below w.heap.size w w' ∧ ∀ k, v.ownBlock = some k → w.heap.size ≤ k) := by
  obtain ⟨C, hC, hc, h1⟩ := h.rowOf
  have hks := machSize C hC
  have HC : Hid (∀ k, k < C.size → C[k]? = w.cell? ⟨p.b, k, none⟩) := hide fun k hk => hc k (by omega)
  have H := hide h
  have Hc := hide hc
  have H5 := hide h5
  obtain ⟨ad0, cap0, hvs, -⟩ := ownsRow_shape h.own
  have hm := h.marks
  have hl := h.lt
  rw [hvs] at hm
  have HV := hide hvs
  clear h h5 hc hvs
  obtain ⟨W2, hW2⟩ : ∃ W2, W2 = (w.alloc (.cells Tryz.zeroCells109 109)).setRow w.heap.size C := ⟨_, rfl⟩
  have hr1 : (w.alloc (.cells Tryz.zeroCells109 109)).heap[w.heap.size]? = some (.cells Tryz.zeroCells109 109 (0, 0)) := heap_alloc_new w _
  have hrow : W2.heap[w.heap.size]? = some (.cells C 109 (0, 0)) := by rw [hW2]; exact setRow_heap _ _ _ _ _ _ hr1
  have hs2 : W2.heap.size = w.heap.size + 1 := by rw [hW2]; simp [World.setRow]
  have hb2 : Below w.heap.size w W2 := by
    rw [hW2]
    exact ⟨rfl, rfl, rfl, by simp [World.setRow], fun k hk => by rw [setRow_other _ _ _ _ (by omega)]; exact Below.heap_alloc w _ k hk⟩
  have hm2 : W2.cell? ⟨p.b, 639, none⟩ = some (.slice ad0 m.marks.length cap0) := keep_cell hb2 hm
  have HCl := hide (cloneM_any (w := W2) (v := .slice ad0 m.marks.length cap0) (by have := (H.out.below hb2).own; rw [HV.out] at this; exact this) (by have := H5.out; omega))
  have HA : Hid (∀ w3 v, Below W2.heap.size W2 w3 → w3.ownsRow W2.heap.size 80 2 v m.marks.length (markCells m.marks) → MkAt a cs ⟨p.B, w.heap.size, p.pb, p.pc, v⟩ m (w3.setCell ⟨w.heap.size, 639, none⟩ v) ∧ Below w.heap.size w (w3.setCell ⟨w.heap.size, 639, none⟩ v) ∧ ∀ k, v.ownBlock = some k → w.heap.size ≤ k) := hide fun w3 v hb hown => by
    obtain ⟨q1, q2⟩ := copy_at H.out Hc.out hs2 hrow hb2 hb hown
    exact ⟨q1, q2, fun k hk => by have := (hown.lt k hk).1; omega⟩
  have hcell : Hid (∀ w3, Below W2.heap.size W2 w3 → (∃ u, w3.cell? ⟨w.heap.size, 639, none⟩ = some u) ∧ w3.frozen? ⟨w.heap.size, 639, none⟩ = false) := hide fun w3 hb => by
    have hr3 : w3.heap[w.heap.size]? = some (.cells C 109 (0, 0)) := (hb.block _ (by omega)).trans hrow
    obtain ⟨u, hu, -⟩ := H.out.whole 639 (by decide)
    exact ⟨⟨u, by rw [cell_of_row hr3, Hc.out 639 (by decide)]; exact hu⟩, frozen_of_row _ _ _ _ _ hr3⟩
  rw [hW2] at hm2
  clear hrow hs2 hb2 hm H Hc HV H5
  go_enter Tryz.func14, Tryz.ntmps14
  go_wp2_with (first
    | refine wpList_load_cells (by rfl) 109 _ (by rfl) p.b (by rfl) C _ HC.out Tryz.underlying109 (by rfl) hks ?_
    | refine wpList_store_row (by rfl) 109 _ _ (by rfl) w.heap.size C (by rfl) (by rfl) 109 Tryz.zeroCells109 hr1 hks (by rw [zeroK_size, hC]) h1 ?_)
  rw [← hW2]
  refine HCl.out.mono ?_
  rintro e w3 ⟨v, rfl, hown, hb⟩
  obtain ⟨⟨u, hu⟩, hf⟩ := hcell.out w3 hb
  have HZ := hide (HA.out w3 v hb hown)
  obtain ⟨ad, cap, rfl, -⟩ := ownsRow_shape hown
  clear HCl HA hcell hown hb hm2 hr1 HC hks h1 hC
  go_wp2
  go_ret
  exact ⟨_, rfl, HZ.out⟩
end Go.Proofs.YtlnjghohgoahpaaGreatDoor
