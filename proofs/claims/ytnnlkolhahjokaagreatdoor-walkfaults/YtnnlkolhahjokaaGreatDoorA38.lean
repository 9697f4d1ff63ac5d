import Derived.Test.YtnnlkolhahjokaaGreatDoorA37

/- WkZ -/
namespace Go.Proofs.YtnnlkolhahjokaaGreatDoor
open Go.RowKit Go.Extern.Stop Go.Stop Go.Extern Go.Maps Go.WideMaps Go.Sort

set_option maxRecDepth 20000 in
set_option maxHeartbeats 2000000 in
theorem wsee_search {se : Seer} {X0 : Nat → Prop} (hsv : se.v.oneCell' = true) {a : Nat → Addr} {s : Sta} {ai ar ad : Option Addr} {ci cr cap : Nat} {cs : List (List Ins)} {w : World} (mo : Int) (so : SeerOk a cs se) (hX : ∀ k, X0 k → se.bx = some k) (hI : se.I X0 [] w) (hlo : se.lo ≤ w.heap.size) (hE : Env a w) (hs : StaAt s ⟨ai, ci, ar, cr⟩ w) (hl : codesAt ad cs w) (hsz : ∀ (t : Nat) L, cs[t]? = some L → ∀ (i : Nat) x, L[i]? = some x → x.to.size ≤ maxLen) (hgood : (s.fault cs).1 = 0) (hmo : 1 ≤ mo ∧ mo ≤ 60000) :
    Calls Tryz.prog 13 #[.agg #[.int .i64 s.cells, .slice ai s.init.length ci, .slice ar s.regs.length cr], .slice ad cs.length cap, .int .i64 mo, se.v] w fun e w' => Hid (SeePost a cs (s.mach cs.length) mo se X0 w e w') := by
  obtain ⟨sv, hse⟩ : ∃ sv, se.v = sv := ⟨_, rfl⟩
  rw [hse] at hsv ⊢
  have HN := hide (fun w1 (hb : Below w.heap.size w w1) => new_any (cap := cap) (hE.below hb.block) (hs.below hb) (hl.below hb) hsz)
  have HIw := hide hI
  have HSO := hide so
  have HX := hide hX
  have hxl : ∀ k, X0 k → k < w.heap.size := fun k hk => so.fr.lt hI k hk
  clear hE hs hl hI so hX
  have hmf : ∀ (fn : Fn) (first cap : Array Value) (w : World), (Instr.makeFunc fn first cap).run Tryz.prog w = .ok (.func fn first cap) w := fun _ _ _ _ => rfl
  have hn0 : ∀ w : World, (binOp .neq 26 (.slice Option.none 0 0) (.slice Option.none 0 0)).run Tryz.prog w = .ok (.bool false) w := fun w => run_neq_slice_nil_any w _ _ _ _ _ _ _ Tryz.underlying26
  have hn1 : ∀ (w : World) (ad : Addr) (n c : Nat), (binOp .neq 26 (.slice (some ad) n c) (.slice Option.none 0 0)).run Tryz.prog w = .ok (.bool true) w := fun w ad n c => run_neq_slice_nil_any w _ _ _ _ _ _ _ Tryz.underlying26
  go_enter Tryz.func13, Tryz.ntmps13
  go_wp2_with fail
  generalize hw1 : (((w.alloc _).alloc _).alloc _).alloc _ = w1
  have b1 : Below w.heap.size w w1 := by rw [← hw1]; exact ((((Below.refl _ w).alloc (Nat.le_refl _) _).alloc (by simp) _).alloc (by simp; omega) _).alloc (by simp; omega) _
  have hsz3 : w.heap.size + 3 = (((w.alloc (.cells #[.int .i64 s.cells, .slice ai s.init.length ci, .slice ar s.regs.length cr] 35)).alloc (.cells #[.slice ad cs.length cap] 25)).alloc (.cells #[sv] 83)).heap.size := by simp
  have t0 : w1.cell? ⟨w.heap.size + 3, 0, none⟩ = some (.int .i64 0) := by rw [← hw1, hsz3, World.cell?_alloc_new]; rfl
  have t1 : w1.cell? ⟨w.heap.size + 3, 1, none⟩ = some (.int .i64 0) := by rw [← hw1, hsz3, World.cell?_alloc_new]; rfl
  have t2 : w1.cell? ⟨w.heap.size + 3, 2, none⟩ = some (.bool false) := by rw [← hw1, hsz3, World.cell?_alloc_new]; rfl
  have t3 : w1.cell? ⟨w.heap.size + 3, 3, none⟩ = some (.slice none 0 0) := by rw [← hw1, hsz3, World.cell?_alloc_new]; rfl
  have z : ∀ o, w1.frozen? ⟨w.heap.size + 3, o, none⟩ = false := fun o => by rw [← hw1, hsz3]; exact World.frozen?_alloc_new _ _ _ _
  have hlt := World.block_lt_of_cell? _ _ t0
  have q0 : w1.cell? ⟨w.heap.size + 1, 0, none⟩ = some (.slice ad cs.length cap) := by
    rw [← hw1]
    refine keep_cell ((Below.refl _ _).alloc (Nat.le_refl _) _) (keep_cell ((Below.refl _ _).alloc (Nat.le_refl _) _) ?_)
    rw [show w.heap.size + 1 = (w.alloc (.cells #[.int .i64 s.cells, .slice ai s.init.length ci, .slice ar s.regs.length cr] 35)).heap.size by simp, World.cell?_alloc_new]; rfl
  have q1 : w1.cell? ⟨w.heap.size + 1 + 1, 0, none⟩ = some sv := by
    rw [← hw1]
    refine keep_cell ((Below.refl _ _).alloc (Nat.le_refl _) _) ?_
    rw [show w.heap.size + 1 + 1 = ((w.alloc (.cells #[.int .i64 s.cells, .slice ai s.init.length ci, .slice ar s.regs.length cr] 35)).alloc (.cells #[.slice ad cs.length cap] 25)).heap.size by simp, World.cell?_alloc_new]; rfl
  clear hw1 hsz3
  refine (HN.out w1 b1).mono ?_
  rintro e w2 hp
  obtain ⟨hb2, hres⟩ := hp.out
  rcases hres with ⟨-, hR, p, rfl, hm2, hpB, hpv⟩ | ⟨h0, -⟩
  rotate_left
  · exact absurd hgood h0
  replace t0 := keep_cell hb2 t0
  replace t1 := keep_cell hb2 t1
  replace t2 := keep_cell hb2 t2
  replace t3 := keep_cell hb2 t3
  have z0 : w2.frozen? ⟨w.heap.size + 3, 0, none⟩ = false := (hb2.frozen hlt).trans (z 0)
  have z1 : w2.frozen? ⟨w.heap.size + 3, 1, none⟩ = false := (hb2.frozen (p := ⟨w.heap.size + 3, 1, none⟩) hlt).trans (z 1)
  have z2 : w2.frozen? ⟨w.heap.size + 3, 2, none⟩ = false := (hb2.frozen (p := ⟨w.heap.size + 3, 2, none⟩) hlt).trans (z 2)
  have z3 : w2.frozen? ⟨w.heap.size + 3, 3, none⟩ = false := (hb2.frozen (p := ⟨w.heap.size + 3, 3, none⟩) hlt).trans (z 3)
  replace q0 := keep_cell hb2 q0
  replace q1 := keep_cell hb2 q1
  have B2 := below_step b1 hb2
  have hR6 := hR.few
  have hR1 := hR.some'
  have c6 : (cs.length : Int) ≤ 6 := by omega
  have hm1 : ¬ mo < 1 := by omega
  have hm6 : ¬ 60000 < mo := by omega
  have hq : w.heap.size + 1 < w2.heap.size := World.block_lt_of_cell? _ _ q0
  have hw3 : Hid (w2.heap.size < (w2.alloc (.cells #[.int .i64 0, .int .i64 0, .bool false, .slice none 0 0] 30)).heap.size) := hide (by simp)
  have HNS := hide (newSearch_any (2 * (cs.length : Int)) mo (.func (.func 21) #[] #[.pointer (some ⟨w.heap.size + 1, 0, none⟩), .pointer (some ⟨w2.heap.size, 0, none⟩), .pointer (some ⟨w.heap.size + 1 + 1, 0, none⟩)]) (w2.alloc (.cells #[.int .i64 0, .int .i64 0, .bool false, .slice none 0 0] 30)) ⟨_, _, _, rfl⟩)
  clear hp z HN b1
  go_wp2_with fail
  refine HNS.out.mono ?_
  rintro e w4 ⟨rfl, hws, hfo, hb4⟩
  have e3 : (w2.alloc (.cells #[.int .i64 0, .int .i64 0, .bool false, .slice none 0 0] 30)).heap.size = w2.heap.size + 1 := by simp
  rw [e3] at hws hfo
  have b3 : Below w2.heap.size w2 (w2.alloc (.cells #[.int .i64 0, .int .i64 0, .bool false, .slice none 0 0] 30)) := (Below.refl _ _).alloc (Nat.le_refl _) _
  have b4 : Below w2.heap.size w2 w4 := below_step b3 hb4
  have HT0 : ToldAt w2.heap.size 0 0 w4 := ⟨keep_cell hb4 (by rw [World.cell?_alloc_new]; rfl), keep_cell hb4 (by rw [World.cell?_alloc_new]; rfl), fun o _ => (hb4.frozen (p := ⟨w2.heap.size, o, none⟩) (by show w2.heap.size < _; omega)).trans (World.frozen?_alloc_new _ _ _ _), keep_cell hb4 (by rw [World.cell?_alloc_new]; rfl), keep_cell hb4 (by rw [World.cell?_alloc_new]; rfl)⟩
  rw [← hse] at q1
  have HRun := hide (all_run HSO.out (fun k hk => ⟨HX.out k hk, by have := hxl k hk; show k < w.heap.size + 1; omega⟩) (HSO.out.fr.keep HIw.out (Turns.of_below (S := fun _ _ => False) B2) (fun _ _ h => h.elim)) (by show se.lo ≤ w.heap.size + 1; omega) hm2 hR hgood hmo (by omega) q0 q1 b4 HT0 hws hfo)
  have hq3 : w.heap.size + 1 + 1 + 1 < w2.heap.size := World.block_lt_of_cell? _ _ t0
  have hfpb : ∀ k, (⟨w2.heap.size + 1 + 1, w2.heap.size + 1, w2.heap.size, w.heap.size + 1, ad, cap, 2 * (cs.length : Int), mo, se⟩ : SrPl).fp (sq0 X0) k → w2.heap.size ≤ k ∨ X0 k := fun k hk => by
    rcases hk with (e | e | e | e) | e
    · have e : k = w2.heap.size + 1 + 1 := e
      exact .inl (by omega)
    · have e : k = w2.heap.size + 1 := e
      exact .inl (by omega)
    · have e : k = w2.heap.size := e
      exact .inl (by omega)
    · cases e
    · exact .inr e
  have s4 := b4.size
  have hl4 : w2.heap.size < w4.heap.size := HT0.lt
  have hw2 := B2.size
  have HB := hide (fun w5 (t : Turns (fun k _ => (⟨w2.heap.size + 1 + 1, w2.heap.size + 1, w2.heap.size, w.heap.size + 1, ad, cap, 2 * (cs.length : Int), mo, se⟩ : SrPl).fp (sq0 X0) k) w4 w5) => show (∀ (o : Nat) (v : Value), w2.cell? ⟨w.heap.size + 3, o, none⟩ = some v → w5.cell? ⟨w.heap.size + 3, o, none⟩ = some v) ∧ (∀ o : Nat, w2.frozen? ⟨w.heap.size + 3, o, none⟩ = false → w5.frozen? ⟨w.heap.size + 3, o, none⟩ = false) ∧ Turns (fun k _ => X0 k) w w5 from
    have hn : ∀ o : Nat, ¬ (fun k (_ : Nat) => (⟨w2.heap.size + 1 + 1, w2.heap.size + 1, w2.heap.size, w.heap.size + 1, ad, cap, 2 * (cs.length : Int), mo, se⟩ : SrPl).fp (sq0 X0) k) (w.heap.size + 3) o := fun o hf => by
      rcases hfpb _ hf with e | e
      · omega
      · have := hxl _ e
        omega
    ⟨fun o v hc => t.keep (keep_cell b4 hc) (hn o), fun o hz => by rw [t.frozen _ _ (by omega) (hn o), b4.frozen (p := ⟨w.heap.size + 3, o, none⟩) hq3]; exact hz,
      ((Turns.of_below B2).trans (Turns.of_below (below_step (Below.refl _ _) b4))).then t (fun k _ hk hf => (hfpb k hf).elim (fun e => by omega) id)⟩)
  clear HNS hw3 HT0 hws hfo hb4 b3 e3 hm2 hpB hpv q0 q1 b4 hfpb
  go_wp2_with fail
  refine HRun.out.mono ?_
  rintro e w5 hp
  obtain ⟨t5, f, S, ht, ⟨X5, hi5, hx5⟩, hres⟩ := hp.out
  obtain ⟨hc5, hz5, hT5⟩ := HB.out w5 t5
  have u0 := hc5 _ _ t0
  have u1 := hc5 _ _ t1
  have u2 := hc5 _ _ t2
  have u3 := hc5 _ _ t3
  have y0 := hz5 _ z0
  have y1 := hz5 _ z1
  have y2 := hz5 _ z2
  have y3 := hz5 _ z3
  have T5 := hide hT5
  have c0 := ht.states
  have c1 := ht.ends
  have c2 := ht.fault
  have c3 := ht.way
  have x2 := ht.fz 2 (by decide)
  have x3 := ht.fz 3 (by decide)
  have hle : w.heap.size ≤ w.heap.size + 1 + 1 + 1 := by omega
  have hle2 : w.heap.size ≤ w2.heap.size := by omega
  have hle4 : w.heap.size ≤ w4.heap.size := Nat.le_trans hle2 s4
  dsimp only at c0 c1 c2 c3 x2 x3
  have HI5 := hide (fun w' (t : Turns (fun k _ => k = w2.heap.size ∨ k = w.heap.size + 1 + 1 + 1) w5 w') => show ∃ X, se.I X S.L w' ∧ ∀ k, X k → X0 k ∨ w.heap.size ≤ k from
    ⟨X5, HSO.out.fr.keep hi5 t (fun k _ e => ⟨fun hx => by
      rcases hx5 k hx with e2 | e2
      · have := hxl k e2
        omega
      · omega, by omega⟩), fun k hk => (hx5 k hk).imp id (fun e => Nat.le_trans hle4 e)⟩)
  clear t0 t1 t2 t3 z0 z1 z2 z3 HRun HB hp ht t5 hc5 hz5 hT5 B2 hi5 hx5 HSO HX HIw
  rcases hres with ⟨h1, h2, rfl⟩ | ⟨h1, rfl⟩ | ⟨x, l, h1, h2, h3, v, rfl, hv⟩
  · go_wp2_with fail
    refine bodyPost_ret (v := .tuple #[toldV S.s S.e false (.slice none 0 0), .nilIface]) (by simp only [results, Tryz.results13]; go_simp; rfl) rfl ?_
    exact hide ⟨(((((T5.out.setNew _ hle2).setNew _ hle2).setNew _ hle).setNew _ hle).setNew _ hle).setNew _ hle, f, S, HI5.out _ (((((((Turns.refl _ _).setCell _ (.inl rfl)).setCell _ (.inl rfl)).setCell _ (.inr rfl)).setCell _ (.inr rfl)).setCell _ (.inr rfl)).setCell _ (.inr rfl)), .inl ⟨h1, h2, rfl⟩⟩
  · go_wp2_with fail
    refine bodyPost_ret (v := .tuple #[toldV 0 0 false (.slice none 0 0), errAt (a 1)]) (by simp only [results, Tryz.results13]; go_simp; rfl) rfl ?_
    exact hide ⟨(((T5.out.setNew _ hle).setNew _ hle).setNew _ hle).setNew _ hle, f, S, HI5.out _ (((((Turns.refl _ _).setCell _ (.inr rfl)).setCell _ (.inr rfl)).setCell _ (.inr rfl)).setCell _ (.inr rfl)), .inr (.inl ⟨h1, rfl⟩)⟩
  · obtain ⟨av, cv, rfl, -⟩ := numsOwn_open hv (by rw [List.length_reverse]; exact h3)
    have HV := hide hv
    have hob : w4.heap.size ≤ av.block := (World.ownsRow.lt hv av.block rfl).1
    have hob2 : w2.heap.size < av.block ∨ w2.heap.size = av.block := by omega
    clear hv
    go_wp2_with fail
    refine bodyPost_ret (v := .tuple #[toldV S.s S.e true (.slice (some av) l.reverse.length cv), .nilIface]) (by simp only [results, Tryz.results13]; go_simp; rfl) rfl ?_
    refine hide ⟨(((((T5.out.setNew _ hle2).setNew _ hle2).setNew _ hle).setNew _ hle).setNew _ hle).setNew _ hle, f, S, HI5.out _ (((((((Turns.refl _ _).setCell _ (.inl rfl)).setCell _ (.inl rfl)).setCell _ (.inr rfl)).setCell _ (.inr rfl)).setCell _ (.inr rfl)).setCell _ (.inr rfl)), .inr (.inr ⟨x, l, h1, h2, h3, _, rfl, ?_⟩)⟩
    · refine numsOwn_mono (base := w4.heap.size) (ownsRow_block HV.out fun b hb => ?_) hle4
      obtain rfl : av.block = b := by cases hb; rfl
      have n1 : av.block ≠ w2.heap.size := by omega
      have n2 : av.block ≠ w.heap.size + 1 + 1 + 1 := by omega
      rw [Below.heap_setCell _ _ _ _ n2, Below.heap_setCell _ _ _ _ n2, Below.heap_setCell _ _ _ _ n2, Below.heap_setCell _ _ _ _ n2, Below.heap_setCell _ _ _ _ n1, Below.heap_setCell _ _ _ _ n1]
end Go.Proofs.YtnnlkolhahjokaaGreatDoor

/- WkAl -/
namespace Go.Proofs.YtnnlkolhahjokaaGreatDoor
open Go.RowKit Go.Extern.Stop Go.Stop Go.Extern Go.Maps Go.WideMaps Go.Sort

def AllPost (a : Nat → Addr) (cs : List (List Ins)) (m0 : Mk) (mo : Int) (w : World) (e : Ending) (w' : World) : Prop :=
  Below w.heap.size w w' ∧ ∃ f S,
    ((searchO cs mo (2 * cs.length) f (firstS cs m0) = (.go, S) ∧ S.ms = [] ∧ e = .returned (.tuple #[toldV S.s S.e false (.slice none 0 0), .nilIface])) ∨ (searchO cs mo (2 * cs.length) f (firstS cs m0) = (.bound, S) ∧ e = .returned (.tuple #[toldV 0 0 false (.slice none 0 0), errAt (a 1)])) ∨
     (∃ x l, searchO cs mo (2 * cs.length) f (firstS cs m0) = (.fault x, S) ∧ Back S.E x l ∧ 0 < l.length ∧ ∃ v, e = .returned (.tuple #[toldV S.s S.e true v, .nilIface]) ∧ numsOwn w' w.heap.size v l.reverse))

theorem alBox (w : World) (x : Array Value) : ∃ w1, w1 = (w.alloc (.cells x 35)).alloc (.cells #[.int .i64 0, .int .i64 0, .bool false, .slice none 0 0] 30) ∧ Below w.heap.size w w1 ∧ w.heap.size + 1 < w1.heap.size ∧ w1.cell? ⟨w.heap.size + 1, 0, none⟩ = some (.int .i64 0) ∧ w1.cell? ⟨w.heap.size + 1, 1, none⟩ = some (.int .i64 0) ∧ w1.cell? ⟨w.heap.size + 1, 2, none⟩ = some (.bool false) ∧ w1.cell? ⟨w.heap.size + 1, 3, none⟩ = some (.slice none 0 0) ∧ ∀ o, w1.frozen? ⟨w.heap.size + 1, o, none⟩ = false := by
  have e : w.heap.size + 1 = (w.alloc (.cells x 35)).heap.size := by simp
  refine ⟨_, rfl, ((Below.refl _ w).alloc (Nat.le_refl _) _).alloc (by simp) _, by simp, ?_, ?_, ?_, ?_, fun o => ?_⟩
  · rw [e, World.cell?_alloc_new]; rfl
  · rw [e, World.cell?_alloc_new]; rfl
  · rw [e, World.cell?_alloc_new]; rfl
  · rw [e, World.cell?_alloc_new]; rfl
  · rw [e]; exact World.frozen?_alloc_new _ _ _ _

set_option maxRecDepth 20000 in
set_option maxHeartbeats 2000000 in
theorem all_bad {a : Nat → Addr} {s : Sta} {ai ar ad : Option Addr} {ci cr cap : Nat} {cs : List (List Ins)} {w : World} (mo : Int) (hE : Env a w) (hs : StaAt s ⟨ai, ci, ar, cr⟩ w) (hl : codesAt ad cs w) (hsz : ∀ (t : Nat) L, cs[t]? = some L → ∀ (i : Nat) x, L[i]? = some x → x.to.size ≤ maxLen) (hbad : (s.fault cs).1 ≠ 0) :
    Calls Tryz.prog 7 #[.agg #[.int .i64 s.cells, .slice ai s.init.length ci, .slice ar s.regs.length cr], .slice ad cs.length cap, .int .i64 mo] w fun e w' => Below w.heap.size w w' ∧ ∃ v, e = .returned (.tuple #[toldV 0 0 false (.slice none 0 0), v]) ∧ errIs a (s.fault cs) v w' w.heap.size := by
  have HW := hide (fun w1 (hb : Below w.heap.size w w1) => wsee_bad (sv := .nilFunc) rfl (ci := ci) (cr := cr) (cap := cap) mo (hE.below hb.block) (hs.below hb) (hl.below hb) hsz hbad)
  clear hE hs hl
  obtain ⟨w1, hw1, b1, hlt, t0, t1, t2, t3, z⟩ := alBox w #[.int .i64 s.cells, .slice ai s.init.length ci, .slice ar s.regs.length cr]
  go_enter Tryz.func7, Tryz.ntmps7
  go_wp2_with fail
  rw [← hw1]
  clear hw1
  refine (HW.out w1 b1).mono ?_
  rintro e w2 ⟨hb2, v, rfl, herr⟩
  replace t0 := keep_cell hb2 t0
  replace t1 := keep_cell hb2 t1
  replace t2 := keep_cell hb2 t2
  replace t3 := keep_cell hb2 t3
  have z0 : w2.frozen? ⟨w.heap.size + 1, 0, none⟩ = false := (hb2.frozen (p := ⟨w.heap.size + 1, 0, none⟩) hlt).trans (z 0)
  have z1 : w2.frozen? ⟨w.heap.size + 1, 1, none⟩ = false := (hb2.frozen (p := ⟨w.heap.size + 1, 1, none⟩) hlt).trans (z 1)
  have z2 : w2.frozen? ⟨w.heap.size + 1, 2, none⟩ = false := (hb2.frozen (p := ⟨w.heap.size + 1, 2, none⟩) hlt).trans (z 2)
  have z3 : w2.frozen? ⟨w.heap.size + 1, 3, none⟩ = false := (hb2.frozen (p := ⟨w.heap.size + 1, 3, none⟩) hlt).trans (z 3)
  have B2 := below_step b1 hb2
  have hle : w.heap.size ≤ w.heap.size + 1 := by omega
  clear z HW
  obtain ⟨ty, pv, rfl⟩ : ∃ ty pv, v = .iface ty (.pointer (some pv)) := by
    rcases herr with ⟨h0, -⟩ | ⟨h0, -, rfl⟩ | ⟨-, j, M, -, -, rfl, -, -⟩
    · exact absurd h0 hbad
    · obtain ⟨k, hk⟩ := Nat.exists_eq_succ_of_ne_zero h0
      rw [hk]
      exact ⟨_, _, rfl⟩
    · exact ⟨_, _, rfl⟩
  have HR := hide herr
  clear herr b1 hb2
  unfold toldV
  go_wp2_with fail
  refine bodyPost_ret (v := .tuple #[toldV 0 0 false (.slice none 0 0), .iface ty (.pointer (some pv))]) (by simp only [results, Tryz.results7]; go_simp; rfl) rfl ⟨(((B2.setCell hle _).setCell hle _).setCell hle _).setCell hle _, _, rfl, ?_⟩
  rcases HR.out with ⟨h0, e⟩ | ⟨h0, h2, e⟩ | ⟨h0, j, M, e1, e2, e3, e4, e5⟩
  · exact .inl ⟨h0, e⟩
  · exact .inr (.inl ⟨h0, h2, e⟩)
  · have hM : w.heap.size + 1 < M := Nat.lt_of_lt_of_le hlt e2
    exact .inr (.inr ⟨h0, j, M, e1, by omega, e3, cell_ne (cell_ne (cell_ne (cell_ne e4 (.inl (by omega))) (.inl (by omega))) (.inl (by omega))) (.inl (by omega)), cell_ne (cell_ne (cell_ne (cell_ne e5 (.inl (by omega))) (.inl (by omega))) (.inl (by omega))) (.inl (by omega))⟩)

set_option maxRecDepth 20000 in
set_option maxHeartbeats 2000000 in
theorem all_search {a : Nat → Addr} {s : Sta} {ai ar ad : Option Addr} {ci cr cap : Nat} {cs : List (List Ins)} {w : World} (mo : Int) (hE : Env a w) (hs : StaAt s ⟨ai, ci, ar, cr⟩ w) (hl : codesAt ad cs w) (hsz : ∀ (t : Nat) L, cs[t]? = some L → ∀ (i : Nat) x, L[i]? = some x → x.to.size ≤ maxLen) (hgood : (s.fault cs).1 = 0) (hmo : 1 ≤ mo ∧ mo ≤ 60000) :
    Calls Tryz.prog 7 #[.agg #[.int .i64 s.cells, .slice ai s.init.length ci, .slice ar s.regs.length cr], .slice ad cs.length cap, .int .i64 mo] w fun e w' => Hid (AllPost a cs (s.mach cs.length) mo w e w') := by
  have HW := hide (fun w1 (hb : Below w.heap.size w w1) => wsee_search (se := noSeer) (X0 := fun _ => False) rfl (ci := ci) (cr := cr) (cap := cap) mo (noSeer_ok a cs) (fun _ h => h.elim) (fun _ h => h) (Nat.zero_le _) (hE.below hb.block) (hs.below hb) (hl.below hb) hsz hgood hmo)
  clear hE hs hl
  obtain ⟨w1, hw1, b1, hlt, t0, t1, t2, t3, z⟩ := alBox w #[.int .i64 s.cells, .slice ai s.init.length ci, .slice ar s.regs.length cr]
  go_enter Tryz.func7, Tryz.ntmps7
  go_wp2_with fail
  rw [← hw1]
  clear hw1
  refine (HW.out w1 b1).mono ?_
  rintro e w2 hp
  obtain ⟨hT2, f, S, -, hres⟩ := hp.out
  have hb2 : Below w1.heap.size w1 w2 := hT2.below (Nat.le_refl _) (fun _ _ _ h => h)
  replace t0 := keep_cell hb2 t0
  replace t1 := keep_cell hb2 t1
  replace t2 := keep_cell hb2 t2
  replace t3 := keep_cell hb2 t3
  have z0 : w2.frozen? ⟨w.heap.size + 1, 0, none⟩ = false := (hb2.frozen (p := ⟨w.heap.size + 1, 0, none⟩) hlt).trans (z 0)
  have z1 : w2.frozen? ⟨w.heap.size + 1, 1, none⟩ = false := (hb2.frozen (p := ⟨w.heap.size + 1, 1, none⟩) hlt).trans (z 1)
  have z2 : w2.frozen? ⟨w.heap.size + 1, 2, none⟩ = false := (hb2.frozen (p := ⟨w.heap.size + 1, 2, none⟩) hlt).trans (z 2)
  have z3 : w2.frozen? ⟨w.heap.size + 1, 3, none⟩ = false := (hb2.frozen (p := ⟨w.heap.size + 1, 3, none⟩) hlt).trans (z 3)
  have B2 := below_step b1 hb2
  have hle : w.heap.size ≤ w.heap.size + 1 := by omega
  clear z HW
  have hw : w.heap.size ≤ w1.heap.size := by omega
  clear b1 hb2 hp hT2
  rcases hres with ⟨h1, h2, rfl⟩ | ⟨h1, rfl⟩ | ⟨x, l, h1, h2, h3, v, rfl, hv⟩
  · unfold toldV
    go_wp2_with fail
    refine bodyPost_ret (v := .tuple #[toldV S.s S.e false (.slice none 0 0), .nilIface]) (by simp only [results, Tryz.results7]; go_simp; rfl) rfl ?_
    exact hide ⟨(((B2.setCell hle _).setCell hle _).setCell hle _).setCell hle _, f, S, .inl ⟨h1, h2, rfl⟩⟩
  · unfold toldV
    go_wp2_with fail
    refine bodyPost_ret (v := .tuple #[toldV 0 0 false (.slice none 0 0), errAt (a 1)]) (by simp only [results, Tryz.results7]; go_simp; rfl) rfl ?_
    exact hide ⟨(((B2.setCell hle _).setCell hle _).setCell hle _).setCell hle _, f, S, .inr (.inl ⟨h1, rfl⟩)⟩
  · obtain ⟨av, cv, rfl, -⟩ := numsOwn_open hv (by rw [List.length_reverse]; exact h3)
    have HV := hide hv
    have hob : w1.heap.size ≤ av.block := (World.ownsRow.lt hv av.block rfl).1
    clear hv
    unfold toldV
    go_wp2_with fail
    refine bodyPost_ret (v := .tuple #[toldV S.s S.e true (.slice (some av) l.reverse.length cv), .nilIface]) (by simp only [results, Tryz.results7]; go_simp; rfl) rfl ?_
    refine hide ⟨(((B2.setCell hle _).setCell hle _).setCell hle _).setCell hle _, f, S, .inr (.inr ⟨x, l, h1, h2, h3, _, rfl, ?_⟩)⟩
    refine numsOwn_mono (base := w1.heap.size) (ownsRow_block HV.out fun b hb => ?_) hw
    obtain rfl : av.block = b := by cases hb; rfl
    have n2 : av.block ≠ w.heap.size + 1 := by omega
    rw [Below.heap_setCell _ _ _ _ n2, Below.heap_setCell _ _ _ _ n2, Below.heap_setCell _ _ _ _ n2, Below.heap_setCell _ _ _ _ n2]
end Go.Proofs.YtnnlkolhahjokaaGreatDoor

/- WlA -/
namespace Go.Proofs.YtnnlkolhahjokaaGreatDoor
open Go.RowKit

structure SimR (n : Nat) (s s' : Rm) : Prop where
  size : s.ar.size = s'.ar.size
  thr : s.threads = n
  thr' : s'.threads = n
  cells : ∀ c, c < s.ar.size → cellsLike s.ar s'.ar c
  waits : ∀ t, t < n → s.waits t = s'.waits t

section
variable {n : Nat} {s s' : Rm}
theorem SimR.has (h : SimR n s s') (c g : Int) : s.ar.has c g = s'.ar.has c g := by
  unfold Ar.has
  rw [← h.size]
  by_cases hc : 0 ≤ c ∧ c < s.ar.size
  · obtain ⟨g1, g2, -⟩ := h.cells c.toNat (by omega)
    rw [g1, g2]
  · rw [decide_eq_false hc]; rfl
theorem SimR.setWaits (h : SimR n s s') (t : Nat) (l : List Wt) : SimR n (s.setWaits t l) (s'.setWaits t l) :=
  ⟨h.size, h.thr, h.thr', h.cells, fun u hu => by
    show (if u = t then l else s.waits u) = (if u = t then l else s'.waits u)
    rw [h.waits u hu]⟩
theorem SimR.setWord (h : SimR n s s') (c k : Nat) (v : Int) : SimR n (s.setWord c k v) (s'.setWord c k v) :=
  ⟨h.size, h.thr, h.thr', fun d hd => by
    obtain ⟨g1, g2, g3⟩ := h.cells d hd
    refine ⟨g1, g2, fun ht i hi => ?_⟩
    show (if d = c ∧ i = k then v else s.ar.words d i) = (if d = c ∧ i = k then v else s'.ar.words d i)
    rw [g3 ht i hi], h.waits⟩
theorem SimR.gone (h : SimR n s s') (c : Nat) : SimR n (s.setThere c false) (s'.setThere c false) :=
  ⟨h.size, h.thr, h.thr', fun d hd => by
    obtain ⟨g1, g2, g3⟩ := h.cells d hd
    refine ⟨g1, ?_, fun ht i hi => ?_⟩
    · show (if d = c then false else s.ar.there d) = (if d = c then false else s'.ar.there d)
      rw [g2]
    · have ht : (if d = c then false else s.ar.there d) = true := ht
      split at ht
      · cases ht
      · exact g3 ht i hi, h.waits⟩
theorem SimR.give (h : SimR n s s') (c : Nat) : SimR n (s.give c) (s'.give c) :=
  ⟨h.size, h.thr, h.thr', fun d hd => by
    obtain ⟨g1, g2, g3⟩ := h.cells d hd
    by_cases e : d = c
    · subst e
      refine ⟨?_, ?_, fun _ i hi => ?_⟩
      · show (if d = d then s.ar.given d + 1 else s.ar.given d) = (if d = d then s'.ar.given d + 1 else s'.ar.given d)
        rw [if_pos rfl, if_pos rfl, g1]
      · show (if d = d then true else s.ar.there d) = (if d = d then true else s'.ar.there d)
        rw [if_pos rfl, if_pos rfl]
      · show (if d = d ∧ i < 4 then 0 else s.ar.words d i) = (if d = d ∧ i < 4 then 0 else s'.ar.words d i)
        rw [if_pos ⟨rfl, hi⟩, if_pos ⟨rfl, hi⟩]
    · refine ⟨?_, ?_, fun ht i hi => ?_⟩
      · show (if d = c then s.ar.given c + 1 else s.ar.given d) = (if d = c then s'.ar.given c + 1 else s'.ar.given d)
        rw [if_neg e, if_neg e, g1]
      · show (if d = c then true else s.ar.there d) = (if d = c then true else s'.ar.there d)
        rw [if_neg e, if_neg e, g2]
      · have ht : (if d = c then true else s.ar.there d) = true := ht
        rw [if_neg e] at ht
        show (if d = c ∧ i < 4 then 0 else s.ar.words d i) = (if d = c ∧ i < 4 then 0 else s'.ar.words d i)
        rw [if_neg (fun x => e x.1), if_neg (fun x => e x.1), g3 ht i hi], h.waits⟩
theorem SimR.drained (h : SimR n s s') (t : Nat) (x : Wt) (l : List Wt) : SimR n (s.drained t x l) (s'.drained t x l) := by
  unfold Rm.drained
  rw [h.has]
  split
  · exact (h.setWaits t l).setWord _ _ _
  · exact h.setWaits t l
end
theorem SimR.drainAll {n : Nat} : ∀ (l : List Wt) {s s' : Rm} (_ : SimR n s s') (t : Nat), SimR n (s.drainAll t l) (s'.drainAll t l) ∧ s.gone t l = s'.gone t l
  | [], _, _, h, _ => ⟨h, rfl⟩
  | x :: l, s, s', h, t => by
    obtain ⟨h1, h2⟩ := SimR.drainAll l (h.drained t x l) t
    refine ⟨h1, ?_⟩
    show (if s.ar.has x.c x.g = true then 0 else 1) + _ = (if s'.ar.has x.c x.g = true then 0 else 1) + _
    rw [h.has, h2]
theorem SimR.word {n : Nat} {s s' : Rm} (h : SimR n s s') {c g : Int} (hh : s.ar.has c g = true) {w : Int} (hw : w.toNat < 4) : s.ar.words c.toNat w.toNat = s'.ar.words c.toNat w.toNat := by
  unfold Ar.has at hh
  simp only [Bool.and_eq_true, decide_eq_true_eq] at hh
  obtain ⟨⟨h1, h2⟩, -⟩ := hh
  obtain ⟨-, -, g3⟩ := h.cells c.toNat (by omega)
  exact g3 h2 _ hw

structure Sim (n : Nat) (m m' : Mk) : Prop where
  mem : SimR n m.mem m'.mem
  regs : ∀ t, t < n → ∀ k, k < 8 → m.regs t k = m'.regs t k
  pcs : ∀ t, t < n → m.pc t = m'.pc t
  faults : m.faults = m'.faults

section
variable {n : Nat} {m m' : Mk}
theorem Sim.setReg (h : Sim n m m') (t r : Nat) (v : Int) : Sim n (m.setReg t r v) (m'.setReg t r v) :=
  ⟨h.mem, fun u hu k hk => by
    show (if u = t ∧ k = r then v else m.regs u k) = (if u = t ∧ k = r then v else m'.regs u k)
    rw [h.regs u hu k hk], h.pcs, h.faults⟩
theorem Sim.setPc (h : Sim n m m') (t p : Nat) : Sim n (m.setPc t p) (m'.setPc t p) :=
  ⟨h.mem, h.regs, fun u hu => by
    show (if u = t then p else m.pc u) = (if u = t then p else m'.pc u)
    rw [h.pcs u hu], h.faults⟩
theorem Sim.addFault (h : Sim n m m') (k : Nat) : Sim n (m.addFault k) (m'.addFault k) :=
  ⟨h.mem, h.regs, h.pcs, by show m.faults + k = m'.faults + k; rw [h.faults]⟩
theorem Sim.setMem (h : Sim n m m') {s s' : Rm} (k : SimR n s s') : Sim n (m.setMem s) (m'.setMem s') := ⟨k, h.regs, h.pcs, h.faults⟩
theorem Sim.fence (h : Sim n m m') {t : Nat} (ht : t < n) : Sim n (m.fence t) (m'.fence t) := by
  have e := h.mem.waits t ht
  obtain ⟨h1, h2⟩ := SimR.drainAll (m.mem.waits t) h.mem t
  refine ⟨?_, h.regs, h.pcs, ?_⟩
  · show SimR n (m.mem.drainAll t (m.mem.waits t)) (m'.mem.drainAll t (m'.mem.waits t))
    rw [← e]; exact h1
  · show m.faults + m.mem.gone t (m.mem.waits t) = m'.faults + m'.mem.gone t (m'.mem.waits t)
    rw [← e, h2, h.faults]
theorem Sim.drain1 (h : Sim n m m') {t : Nat} (ht : t < n) : Sim n (m.drain1 t) (m'.drain1 t) := by
  unfold Mk.drain1
  rw [← h.mem.waits t ht]
  cases m.mem.waits t with
  | nil => exact h
  | cons x l =>
    refine ⟨h.mem.drained t x l, h.regs, h.pcs, ?_⟩
    show m.faults + (if m.mem.ar.has x.c x.g = true then 0 else 1) = m'.faults + (if m'.mem.ar.has x.c x.g = true then 0 else 1)
    rw [h.mem.has, h.faults]
theorem Sim.names (h : Sim n m m') (v : Int) : m.names v = m'.names v := by
  unfold Mk.names
  rw [h.mem.has]
theorem Sim.room (h : Sim n m m') {t : Nat} (ht : t < n) : Sim n (m.room t) (m'.room t) := by
  unfold Mk.room
  rw [← h.mem.waits t ht]
  split
  · exact h.drain1 ht
  · exact h
theorem Sim.put (h : Sim n m m') {t : Nat} (ht : t < n) (a w v : Int) : Sim n (m.put t a w v) (m'.put t a w v) := by
  unfold Mk.put
  rw [← h.mem.waits t ht]
  exact h.setMem (h.mem.setWaits t _)
theorem has_same {s s' : Ar} (k : SameGiven s s') (c g : Int) : s'.has c g = s.has c g := by
  unfold Ar.has
  rw [k.1, k.2.1, k.2.2]
theorem names_has {m : Mk} {v : Int} (h : m.names v = true) : m.mem.ar.has (cellOf v) (genOf v) = true := by
  unfold Mk.names at h
  simp only [Bool.and_eq_true] at h
  exact h.2
theorem names_fence {m : Mk} {v : Int} (h : m.names v = true) (t : Nat) : (m.fence t).mem.ar.has (cellOf v) (genOf v) = true := by
  rw [has_same (fence_given m t)]; exact names_has h
theorem Sim.loaded (h : Sim n m m') {t : Nat} (ht : t < n) {v w : Int} (hv : m.names v = true) (hw : w.toNat < 4) : m.loaded t v w = m'.loaded t v w := by
  unfold Mk.loaded
  rw [h.mem.waits t ht, h.mem.word (names_has hv) hw]
theorem Sim.load (h : Sim n m m') {t : Nat} (ht : t < n) (a : Nat) (v : Int) {w : Int} (hw : w.toNat < 4) : Sim n (m.load t a v w) (m'.load t a v w) := by
  unfold Mk.load
  rw [← h.names]
  split
  · rename_i hv
    rw [h.loaded ht hv hw]; exact h.setReg _ _ _
  · exact (h.addFault 1).setReg _ _ _
theorem Sim.store (h : Sim n m m') {t : Nat} (ht : t < n) (a w v : Int) : Sim n (m.store t a w v) (m'.store t a w v) := by
  unfold Mk.store
  rw [← h.names]
  split
  · exact (h.room ht).put ht _ _ _
  · exact h.addFault 1
theorem Sim.setWord (h : Sim n m m') (a w v : Int) : Sim n (m.setWord a w v) (m'.setWord a w v) := h.setMem (h.mem.setWord _ _ _)
theorem Sim.word (h : Sim n m m') {t : Nat} (ht : t < n) {a w : Int} (ha : m.names a = true) (hw : w.toNat < 4) : (m.fence t).word a w = (m'.fence t).word a w :=
  (h.fence ht).mem.word (names_fence ha t) hw
theorem Sim.swap (h : Sim n m m') {t : Nat} (ht : t < n) (a : Nat) (c v : Int) {w : Int} (hw : w.toNat < 4) : Sim n (m.swap t a c w v) (m'.swap t a c w v) := by
  unfold Mk.swap
  rw [← h.names]
  split
  · rename_i hv
    rw [h.word ht hv hw]; exact ((h.fence ht).setWord _ _ _).setReg _ _ _
  · exact (h.addFault 1).setReg _ _ _
theorem Sim.cas (h : Sim n m m') {t : Nat} (ht : t < n) (b : Nat) (c o v : Int) {w : Int} (hw : w.toNat < 4) : Sim n (m.cas t b c w o v) (m'.cas t b c w o v) := by
  unfold Mk.cas
  rw [← h.names]
  split
  · rename_i hv
    rw [h.word ht hv hw]; exact ((h.fence ht).setWord _ _ _).setReg _ _ _
  · exact (h.addFault 1).setReg _ _ _
theorem freeFrom_like {f g : Nat → Bool} : ∀ (n j : Nat), (∀ i, j ≤ i → i < j + n → f i = g i) → freeFrom f j n = freeFrom g j n
  | 0, _, _ => rfl
  | n + 1, j, h => by
    unfold freeFrom
    rw [h j (Nat.le_refl _) (by omega), freeFrom_like n (j + 1) (fun i h1 h2 => h i (by omega) (by omega))]
theorem SimR.free {s s' : Rm} (h : SimR n s s') : s.ar.free? = s'.ar.free? := by
  unfold Ar.free?
  rw [← h.size]
  exact freeFrom_like _ _ (fun i _ hi => (h.cells i (by omega)).2.1)
theorem Sim.alloc (h : Sim n m m') (t a : Nat) : Sim n (m.alloc t a) (m'.alloc t a) := by
  unfold Mk.alloc
  rw [← h.mem.free]
  cases hf : m.mem.ar.free? with
  | none => exact h.setReg _ _ _
  | some c =>
    have e := (h.mem.cells c (Ar.free_some hf).1).1
    show Sim n ((m.setMem (m.mem.give c)).setReg t a ((m.mem.ar.given c : Int) * 64 + c + 1)) ((m'.setMem (m'.mem.give c)).setReg t a ((m'.mem.ar.given c : Int) * 64 + c + 1))
    rw [e]; exact (h.setMem (h.mem.give c)).setReg _ _ _
theorem Sim.free (h : Sim n m m') {t : Nat} (ht : t < n) (v : Int) : Sim n (m.free t v) (m'.free t v) := by
  unfold Mk.free
  rw [← h.names]
  split
  · exact (h.fence ht).setMem ((h.fence ht).mem.gone _)
  · exact h.addFault 1
theorem Sim.mark (h : Sim n m m') (t : Nat) (v v' : Int) : Sim n (m.mark t v) (m'.mark t v') := by
  unfold Mk.mark
  split <;> split <;> exact ⟨h.mem, h.regs, h.pcs, h.faults⟩
theorem Sim.need (h : Sim n m m') (v : Int) : Sim n (m.need v) (m'.need v) := by
  unfold Mk.need
  split
  · exact h.addFault 1
  · exact h
end
theorem Sim.fenceFrom {n : Nat} : ∀ (k : Nat) {m m' : Mk} (_ : Sim n m m') (t : Nat), t + k ≤ n → Sim n (m.fenceFrom t k) (m'.fenceFrom t k)
  | 0, _, _, h, _, _ => h
  | k + 1, _, _, h, t, hk => Sim.fenceFrom k (h.fence (show t < n by omega)) (t + 1) (by omega)

theorem ex_nat {x : Int} {b : Nat} (h : ∃ i : Nat, i < b ∧ x = i) : x.toNat < b := by
  obtain ⟨i, h1, h2⟩ := h; omega
theorem Sim.exec {n : Nat} {m m' : Mk} (h : Sim n m m') {L : List Ins} {t : Nat} {x : Ins} (hx : InsOk L x) (ht : t < n) : Sim n (m.exec L t x) (m'.exec L t x) := by
  have g : ∀ {v : Int}, (∃ i : Nat, i < 8 ∧ v = i) → m.regs t v.toNat = m'.regs t v.toNat := fun hv => h.regs t ht _ (ex_nat hv)
  rcases kinds hx with ⟨e, h0, hv⟩ | ⟨e, h0, h1⟩ | ⟨e, h0, h1, h2⟩ | ⟨e, h0, h1, h2⟩ | ⟨e, h0, h1, h2⟩ | ⟨e, h0, h1, h2⟩ | ⟨e, h0, h1, h2⟩ | ⟨e, h0, h1, h2⟩ | ⟨e, h0, h1, h2⟩ | ⟨e, h0, h1, h2⟩ | ⟨e, h0⟩ | ⟨e, h0⟩ | ⟨e, h0⟩ | ⟨e, h0⟩ | e | e | e | ⟨e, h0, h1⟩ | ⟨e, h0, h1, h2⟩ | ⟨e, h0⟩ | ⟨e, h0⟩
  · rw [exec_const m L t e, exec_const m' L t e]; exact h.setReg _ _ _
  · rw [exec_move m L t e, exec_move m' L t e, g h1]; exact h.setReg _ _ _
  · rw [exec_add m L t e, exec_add m' L t e, g h1, g h2]; exact h.setReg _ _ _
  · rw [exec_sub m L t e, exec_sub m' L t e, g h1, g h2]; exact h.setReg _ _ _
  · rw [exec_and m L t e, exec_and m' L t e, g h1, g h2]; exact h.setReg _ _ _
  · rw [exec_xor m L t e, exec_xor m' L t e, g h1, g h2]; exact h.setReg _ _ _
  · rw [exec_load m L t e, exec_load m' L t e, g h1]; exact h.load ht _ _ (ex_nat h2)
  · rw [exec_store m L t e, exec_store m' L t e, g h0, g h1]; exact h.store ht _ _ _
  · rw [exec_swap m L t e, exec_swap m' L t e, g h0, g h1]; exact h.swap ht _ _ _ (ex_nat h2)
  · rw [exec_cas m L t e, exec_cas m' L t e, g h0, h.regs t ht x.b.toNat (by have := ex_nat h1; omega), h.regs t ht (x.b.toNat + 1) (by have := ex_nat h1; omega)]
    exact h.cas ht _ _ _ _ (ex_nat h2)
  · rw [exec_alloc m L t e, exec_alloc m' L t e]; exact h.alloc _ _
  · rw [exec_free m L t e, exec_free m' L t e, g h0]; exact h.free ht _
  · rw [exec_mark m L t e, exec_mark m' L t e]; exact h.mark _ _ _
  · rw [exec_need m L t e, exec_need m' L t e, g h0]; exact h.need _
  · rw [exec_fence m L t e, exec_fence m' L t e]; exact h.fence ht
  · rw [exec_force m L t e, exec_force m' L t e, h.mem.thr, h.mem.thr']; exact Sim.fenceFrom n h 0 (by omega)
  · rw [exec_stop m L t e, exec_stop m' L t e]; exact h
  · rw [exec_zero m L t e, exec_zero m' L t e, g h0]
    split
    · exact h.setPc _ _
    · exact h
  · rw [exec_same m L t e, exec_same m' L t e, g h0, g h1]
    split
    · exact h.setPc _ _
    · exact h
  · rw [exec_goto m L t e, exec_goto m' L t e]; exact h.setPc _ _
  · rw [exec_label m L t e, exec_label m' L t e]; exact h

theorem Sim.step {m m' : Mk} {cs : List (List Ins)} (h : Sim cs.length m m') (hR : Right cs) {t : Nat} {L : List Ins} (hL : cs[t]? = some L) : Sim cs.length (m.step L t) (m'.step L t) := by
  have ht : t < cs.length := (List.getElem?_eq_some_iff.1 hL).1
  unfold Mk.step
  rw [h.pcs t ht]
  cases hx : L[m'.pc t]? with
  | none => exact h
  | some x => exact (h.setPc t _).exec ((hR.right t L hL).2 _ x hx).1 ht
theorem Sim.turnO {m m' : Mk} {cs : List (List Ins)} (h : Sim cs.length m m') (hR : Right cs) (k : Int) : (m.turnO cs k).1 = (m'.turnO cs k).1 ∧ Sim cs.length (m.turnO cs k).2 (m'.turnO cs k).2 := by
  unfold Mk.turnO
  split
  · generalize k % (2 * (cs.length : Int)) = t
    unfold Mk.stepO
    by_cases h1 : 0 ≤ t ∧ t < cs.length
    · rw [if_pos h1, if_pos h1, h.pcs t.toNat (by omega)]
      split
      · exact ⟨rfl, h⟩
      · exact ⟨rfl, h.step hR (getD_some (by omega))⟩
    · rw [if_neg h1, if_neg h1]; exact ⟨rfl, h⟩
  · generalize k % (2 * (cs.length : Int)) - cs.length = t
    unfold Mk.drainO
    by_cases h1 : 0 ≤ t ∧ t < cs.length
    · rw [if_pos h1, if_pos h1, h.mem.waits t.toNat (by omega)]
      split
      · exact ⟨rfl, h⟩
      · exact ⟨rfl, h.drain1 (by omega)⟩
    · rw [if_neg h1, if_neg h1]; exact ⟨rfl, h⟩
theorem Sim.refl {n : Nat} {m : Mk} (h : m.mem.threads = n) : Sim n m m := ⟨⟨rfl, h, h, fun _ _ => ⟨rfl, rfl, fun _ _ _ => rfl⟩, fun _ _ => rfl⟩, fun _ _ _ _ => rfl, fun _ _ => rfl, rfl⟩
theorem Sim.trans {n : Nat} {a b c : Mk} (h : Sim n a b) (k : Sim n b c) : Sim n a c :=
  ⟨⟨h.mem.size.trans k.mem.size, h.mem.thr, k.mem.thr', fun d hd => by
      obtain ⟨a1, a2, a3⟩ := h.mem.cells d hd
      obtain ⟨b1, b2, b3⟩ := k.mem.cells d (by rw [← h.mem.size]; exact hd)
      exact ⟨a1.trans b1, a2.trans b2, fun ht i hi => (a3 ht i hi).trans (b3 (by rw [← a2]; exact ht) i hi)⟩,
    fun t ht => (h.mem.waits t ht).trans (k.mem.waits t ht)⟩, fun t ht r hr => (h.regs t ht r hr).trans (k.regs t ht r hr), fun t ht => (h.pcs t ht).trans (k.pcs t ht), h.faults.trans k.faults⟩
theorem Alike.sim {n : Nat} {m m' : Mk} (h : Alike n m m') (hz : m.mem.ar.size = m'.mem.ar.size) (ht : m.mem.threads = n) (ht' : m'.mem.threads = n) (hf : m.faults = m'.faults) : Sim n m m' := ⟨⟨hz, ht, ht', h.cells, h.waits⟩, h.regs, h.pcs, hf⟩
theorem turnO_stays {m : Mk} {cs : List (List Ins)} {k : Int} (h : (m.turnO cs k).1 ≠ 0) : (m.turnO cs k).2 = m := by
  unfold Mk.turnO at h ⊢
  split
  · rename_i h0
    rw [if_pos h0] at h
    unfold Mk.stepO at h ⊢
    split
    · rename_i h1
      rw [if_pos h1] at h
      split
      · rfl
      · rename_i h2; rw [if_neg h2] at h; exact absurd rfl h
    · rfl
  · rename_i h0
    rw [if_neg h0] at h
    unfold Mk.drainO at h ⊢
    split
    · rename_i h1
      rw [if_pos h1] at h
      split
      · rfl
      · rename_i h2; rw [if_neg h2] at h; exact absurd rfl h
    · rfl
theorem turnO_mod (m : Mk) (cs : List (List Ins)) (k : Int) : m.turnO cs (k % (2 * (cs.length : Int))) = m.turnO cs k := by
  unfold Mk.turnO
  rw [Int.emod_emod]

theorem size_exec (m : Mk) (L : List Ins) (t : Nat) (x : Ins) : (m.exec L t x).mem.ar.size = m.mem.ar.size := by
  unfold Mk.exec
  dsimp only
  split
  any_goals rfl
  · unfold Mk.load; split <;> rfl
  · unfold Mk.store
    split
    · exact (room_given m t).1
    · rfl
  · unfold Mk.swap
    split
    · exact (fence_given m t).1
    · rfl
  · unfold Mk.cas
    split
    · exact (fence_given m t).1
    · rfl
  · unfold Mk.alloc
    split <;> rfl
  · unfold Mk.free
    split
    · exact (fence_given m t).1
    · rfl
  · unfold Mk.mark; split <;> rfl
  · unfold Mk.need; split <;> rfl
  · exact (fence_given m t).1
  · exact (fenceFrom_given _ m 0).1
  · split <;> rfl
  · split <;> rfl
theorem size_turn (m : Mk) (cs : List (List Ins)) (k : Int) : (m.turnO cs k).2.mem.ar.size = m.mem.ar.size := by
  unfold Mk.turnO
  split
  · unfold Mk.stepO
    split
    · split
      · rfl
      · show (m.step _ _).mem.ar.size = _
        unfold Mk.step
        split
        · rfl
        · exact size_exec (m.setPc _ _) _ _ _
    · rfl
  · unfold Mk.drainO
    split
    · split
      · rfl
      · exact (drain1_given m _).1
    · rfl
theorem Rch.size {cs : List (List Ins)} {m0 m : Mk} {d : Nat} (h : Rch cs m0 d m) : m.mem.ar.size = m0.mem.ar.size := by
  induction h with
  | zero => rfl
  | turn n hr ih => rw [size_turn]; exact ih
theorem Rch.given {cs : List (List Ins)} {m0 m : Mk} {d : Nat} (h : Rch cs m0 d m) (h0 : GivenOk m0.mem.ar) : GivenOk m.mem.ar := by
  induction h with
  | zero => exact h0
  | turn n hr ih => exact ih.turnO cs n
theorem Sta.mach_given (s : Sta) (n : Nat) : GivenOk (s.mach n).mem.ar := by
  intro c d hc hcd hd h0
  have e : (if c < s.init.length then 1 else 0) = 0 := h0
  have hc' : ¬ c < s.init.length := fun hlt => by rw [if_pos hlt] at e; cases e
  refine ⟨?_, ?_⟩
  · show (if d < s.init.length then 1 else 0) = 0
    rw [if_neg (by omega)]
  · show (if d < s.init.length then true else false) = false
    rw [if_neg (by omega)]
theorem Rch.sim {cs : List (List Ins)} {m0 m m' : Mk} {K d d' : Nat} (h : Rch cs m0 d m) (h' : Rch cs m0 d' m') (h0 : MkOk cs.length K m0) (hl : LnOk m0.mem) (hg : GivenOk m0.mem.ar) (hR : Right cs) (hK : K + d ≤ 60000000) (hK' : K + d' ≤ 60000000) (hk : keyOf cs.length m = keyOf cs.length m') (hf : m.faults = m'.faults) : Sim cs.length m m' := by
  have hz : m.mem.ar.size = m'.mem.ar.size := by rw [h.size, h'.size]
  have o := h.ok h0 hR hK
  have o' := h'.ok h0 hR hK'
  have r := (h.key h0 hl hR hK).1
  have r' := (h'.key h0 hl hR hK').1
  have e := keyOf_inj (fun x hx => (r.1 x hx).1) (fun x hx => (r'.1 x hx).1) hk
  exact (mkNums_alike hz o.thr o'.thr (h.given hg) (h'.given hg) e).sim hz o.thr o'.thr hf
end Go.Proofs.YtnnlkolhahjokaaGreatDoor
