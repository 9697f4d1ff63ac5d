import Derived.Test.YtilmhhnllelpaaaGreatDoorA37

/- WkZ -/
namespace Go.Proofs.YtilmhhnllelpaaaGreatDoor
open Go.RowKit Go.Extern.Stop Go.Stop Go.Extern Go.Maps Go.WideMaps Go.Sort

set_option maxRecDepth 20000 in
set_option maxHeartbeats 2000000 in
theorem all_search {a : Nat → Addr} {s : Sta} {ai ar ad : Option Addr} {ci cr cap : Nat} {cs : List (List Ins)} {w : World} (mo : Int) (hE : Env a w) (hs : StaAt s ⟨ai, ci, ar, cr⟩ w) (hl : codesAt ad cs w) (hsz : ∀ (t : Nat) L, cs[t]? = some L → ∀ (i : Nat) x, L[i]? = some x → x.to.size ≤ maxLen) (hgood : (s.fault cs).1 = 0) (hmo : 1 ≤ mo ∧ mo ≤ 60000) :
    Calls Tryz.prog 7 #[.agg #[.int .i64 s.cells, .slice ai s.init.length ci, .slice ar s.regs.length cr], .slice ad cs.length cap, .int .i64 mo] w fun e w' => Hid (AllPost a cs (s.mach cs.length) mo w e w') := by
  have HN := hide (fun w1 (hb : Below w.heap.size w w1) => new_any (cap := cap) (hE.below hb.block) (hs.below hb) (hl.below hb) hsz)
  clear hE hs hl
  have hmf : ∀ (fn : Fn) (first cap : Array Value) (w : World), (Instr.makeFunc fn first cap).run Tryz.prog w = .ok (.func fn first cap) w := fun _ _ _ _ => rfl
  have hn0 : ∀ w : World, (binOp .neq 26 (.slice Option.none 0 0) (.slice Option.none 0 0)).run Tryz.prog w = .ok (.bool false) w := fun w => run_neq_slice_nil_any w _ _ _ _ _ _ _ Tryz.underlying26
  have hn1 : ∀ (w : World) (ad : Addr) (n c : Nat), (binOp .neq 26 (.slice (some ad) n c) (.slice Option.none 0 0)).run Tryz.prog w = .ok (.bool true) w := fun w ad n c => run_neq_slice_nil_any w _ _ _ _ _ _ _ Tryz.underlying26
  go_enter Tryz.func7, Tryz.ntmps7
  go_wp2_with fail
  generalize hw1 : ((w.alloc _).alloc _).alloc _ = w1
  have b1 : Below w.heap.size w w1 := by rw [← hw1]; exact (((Below.refl _ w).alloc (Nat.le_refl _) _).alloc (by simp) _).alloc (by simp; omega) _
  have hsz3 : w.heap.size + 2 = ((w.alloc (.cells #[.int .i64 s.cells, .slice ai s.init.length ci, .slice ar s.regs.length cr] 35)).alloc (.cells #[.slice ad cs.length cap] 25)).heap.size := by simp
  have t0 : w1.cell? ⟨w.heap.size + 2, 0, none⟩ = some (.int .i64 0) := by rw [← hw1, hsz3, World.cell?_alloc_new]; rfl
  have t1 : w1.cell? ⟨w.heap.size + 2, 1, none⟩ = some (.int .i64 0) := by rw [← hw1, hsz3, World.cell?_alloc_new]; rfl
  have t2 : w1.cell? ⟨w.heap.size + 2, 2, none⟩ = some (.bool false) := by rw [← hw1, hsz3, World.cell?_alloc_new]; rfl
  have t3 : w1.cell? ⟨w.heap.size + 2, 3, none⟩ = some (.slice none 0 0) := by rw [← hw1, hsz3, World.cell?_alloc_new]; rfl
  have z : ∀ o, w1.frozen? ⟨w.heap.size + 2, o, none⟩ = false := fun o => by rw [← hw1, hsz3]; exact World.frozen?_alloc_new _ _ _ _
  have hlt := World.block_lt_of_cell? _ _ t0
  have q0 : w1.cell? ⟨w.heap.size + 1, 0, none⟩ = some (.slice ad cs.length cap) := by
    rw [← hw1]
    refine keep_cell ((Below.refl _ _).alloc (Nat.le_refl _) _) ?_
    rw [show w.heap.size + 1 = (w.alloc (.cells #[.int .i64 s.cells, .slice ai s.init.length ci, .slice ar s.regs.length cr] 35)).heap.size by simp, World.cell?_alloc_new]; rfl
  clear hw1 hsz3
  refine (HN.out w1 b1).mono ?_
  rintro e w2 hp
  obtain ⟨hb2, hres⟩ := hp.out
  rcases hres with ⟨-, hR, p, rfl, hm2, hpB, hpv⟩ | ⟨h0, -⟩
  rotate_left
  · exact absurd hgood h0
  replace t0 := keep_cell hb2 t0
  replace t1 := keep_cell hb2 t1
  replace t2 := keep_cell hb2 t2
  replace t3 := keep_cell hb2 t3
  have z0 : w2.frozen? ⟨w.heap.size + 2, 0, none⟩ = false := (hb2.frozen hlt).trans (z 0)
  have z1 : w2.frozen? ⟨w.heap.size + 2, 1, none⟩ = false := (hb2.frozen (p := ⟨w.heap.size + 2, 1, none⟩) hlt).trans (z 1)
  have z2 : w2.frozen? ⟨w.heap.size + 2, 2, none⟩ = false := (hb2.frozen (p := ⟨w.heap.size + 2, 2, none⟩) hlt).trans (z 2)
  have z3 : w2.frozen? ⟨w.heap.size + 2, 3, none⟩ = false := (hb2.frozen (p := ⟨w.heap.size + 2, 3, none⟩) hlt).trans (z 3)
  replace q0 := keep_cell hb2 q0
  have B2 := below_step b1 hb2
  have hR6 := hR.few
  have hR1 := hR.some'
  have c6 : (cs.length : Int) ≤ 6 := by omega
  have hm1 : ¬ mo < 1 := by omega
  have hm6 : ¬ 60000 < mo := by omega
  have hq : w.heap.size + 1 < w2.heap.size := World.block_lt_of_cell? _ _ q0
  have hw3 : Hid (w2.heap.size < (w2.alloc (.cells #[.int .i64 0, .int .i64 0, .bool false, .slice none 0 0] 30)).heap.size) := hide (by simp)
  have HNS := hide (newSearch_any (2 * (cs.length : Int)) mo (.func (.func 14) #[] #[.pointer (some ⟨w2.heap.size, 0, none⟩), .pointer (some ⟨w.heap.size + 1, 0, none⟩)]) (w2.alloc (.cells #[.int .i64 0, .int .i64 0, .bool false, .slice none 0 0] 30)) ⟨_, _, _, rfl⟩)
  clear hp z HN b1
  go_wp2_with fail
  refine HNS.out.mono ?_
  rintro e w4 ⟨rfl, hws, hfo, hb4⟩
  have e3 : (w2.alloc (.cells #[.int .i64 0, .int .i64 0, .bool false, .slice none 0 0] 30)).heap.size = w2.heap.size + 1 := by simp
  rw [e3] at hws hfo
  have b3 : Below w2.heap.size w2 (w2.alloc (.cells #[.int .i64 0, .int .i64 0, .bool false, .slice none 0 0] 30)) := (Below.refl _ _).alloc (Nat.le_refl _) _
  have b4 : Below w2.heap.size w2 w4 := below_step b3 hb4
  have HT0 : ToldAt w2.heap.size 0 0 w4 := ⟨keep_cell hb4 (by rw [World.cell?_alloc_new]; rfl), keep_cell hb4 (by rw [World.cell?_alloc_new]; rfl), fun o _ => (hb4.frozen (p := ⟨w2.heap.size, o, none⟩) (by show w2.heap.size < _; omega)).trans (World.frozen?_alloc_new _ _ _ _), keep_cell hb4 (by rw [World.cell?_alloc_new]; rfl), keep_cell hb4 (by rw [World.cell?_alloc_new]; rfl)⟩
  have HRun := hide (all_run hm2 hR hgood hmo (by omega) q0 b4 HT0 hws hfo)
  have hq3 : w.heap.size + 1 + 1 < w2.heap.size := World.block_lt_of_cell? _ _ t0
  have hfpb : ∀ k, (⟨w2.heap.size + 1 + 1, w2.heap.size + 1, w2.heap.size, w.heap.size + 1, ad, cap, 2 * (cs.length : Int), mo⟩ : SrPl).fp (.slice none 0 0) k → w2.heap.size ≤ k := fun k hk => by
    rcases hk with e | e | e | e
    · have e : k = w2.heap.size + 1 + 1 := e
      omega
    · have e : k = w2.heap.size + 1 := e
      omega
    · have e : k = w2.heap.size := e
      omega
    · cases e
  have s4 := b4.size
  have hl4 : w2.heap.size < w4.heap.size := HT0.lt
  have HB := hide (fun w5 (t : Turns (fun k _ => (⟨w2.heap.size + 1 + 1, w2.heap.size + 1, w2.heap.size, w.heap.size + 1, ad, cap, 2 * (cs.length : Int), mo⟩ : SrPl).fp (.slice none 0 0) k) w4 w5) => b4.trans (t.below s4 (fun k o hk e => by have := hfpb k e; omega)))
  clear HNS hw3 HT0 hws hfo hb4 b3 e3 hm2 hpB hpv q0 b4 hfpb
  go_wp2_with fail
  refine HRun.out.mono ?_
  rintro e w5 hp
  obtain ⟨t5, f, S, ht, hres⟩ := hp.out
  have b5 := HB.out w5 t5
  have u0 := keep_cell b5 t0
  have u1 := keep_cell b5 t1
  have u2 := keep_cell b5 t2
  have u3 := keep_cell b5 t3
  have y0 : w5.frozen? ⟨w.heap.size + 2, 0, none⟩ = false := (b5.frozen (p := ⟨w.heap.size + 2, 0, none⟩) hq3).trans z0
  have y1 : w5.frozen? ⟨w.heap.size + 2, 1, none⟩ = false := (b5.frozen (p := ⟨w.heap.size + 2, 1, none⟩) hq3).trans z1
  have y2 : w5.frozen? ⟨w.heap.size + 2, 2, none⟩ = false := (b5.frozen (p := ⟨w.heap.size + 2, 2, none⟩) hq3).trans z2
  have y3 : w5.frozen? ⟨w.heap.size + 2, 3, none⟩ = false := (b5.frozen (p := ⟨w.heap.size + 2, 3, none⟩) hq3).trans z3
  have B5 : Below w.heap.size w w5 := below_step B2 b5
  have c0 := ht.states
  have c1 := ht.ends
  have c2 := ht.fault
  have c3 := ht.way
  have x2 := ht.fz 2 (by decide)
  have x3 := ht.fz 3 (by decide)
  have hle : w.heap.size ≤ w.heap.size + 1 + 1 := by omega
  have hle2 : w.heap.size ≤ w2.heap.size := by omega
  have hle4 : w.heap.size ≤ w4.heap.size := Nat.le_trans hle2 s4
  dsimp only at c0 c1 c2 c3 x2 x3
  clear t0 t1 t2 t3 z0 z1 z2 z3 HRun HB hp ht t5 b5 B2
  rcases hres with ⟨h1, h2, rfl⟩ | ⟨h1, rfl⟩ | ⟨x, l, h1, h2, h3, v, rfl, hv⟩
  · go_wp2_with fail
    refine bodyPost_ret (v := .tuple #[toldV S.s S.e false (.slice none 0 0), .nilIface]) (by simp only [results, Tryz.results7]; go_simp; rfl) rfl ?_
    refine hide ⟨?_, f, S, .inl ⟨h1, h2, rfl⟩⟩
    exact (((((B5.setCell hle2 _).setCell hle2 _).setCell hle _).setCell hle _).setCell hle _).setCell hle _
  · go_wp2_with fail
    refine bodyPost_ret (v := .tuple #[toldV 0 0 false (.slice none 0 0), errAt (a 1)]) (by simp only [results, Tryz.results7]; go_simp; rfl) rfl ?_
    refine hide ⟨?_, f, S, .inr (.inl ⟨h1, rfl⟩)⟩
    exact (((B5.setCell hle _).setCell hle _).setCell hle _).setCell hle _
  · obtain ⟨av, cv, rfl, -⟩ := numsOwn_open hv (by rw [List.length_reverse]; exact h3)
    have HV := hide hv
    have hob : w4.heap.size ≤ av.block := (World.ownsRow.lt hv av.block rfl).1
    have hob2 : w2.heap.size < av.block ∨ w2.heap.size = av.block := by omega
    clear hv
    go_wp2_with fail
    refine bodyPost_ret (v := .tuple #[toldV S.s S.e true (.slice (some av) l.reverse.length cv), .nilIface]) (by simp only [results, Tryz.results7]; go_simp; rfl) rfl ?_
    refine hide ⟨?_, f, S, .inr (.inr ⟨x, l, h1, h2, h3, _, rfl, ?_⟩)⟩
    · exact (((((B5.setCell hle2 _).setCell hle2 _).setCell hle _).setCell hle _).setCell hle _).setCell hle _
    · refine numsOwn_mono (base := w4.heap.size) (ownsRow_block HV.out fun b hb => ?_) hle4
      obtain rfl : av.block = b := by cases hb; rfl
      have n1 : av.block ≠ w2.heap.size := by omega
      have n2 : av.block ≠ w.heap.size + 1 + 1 := by omega
      rw [Below.heap_setCell _ _ _ _ n2, Below.heap_setCell _ _ _ _ n2, Below.heap_setCell _ _ _ _ n2, Below.heap_setCell _ _ _ _ n2, Below.heap_setCell _ _ _ _ n1, Below.heap_setCell _ _ _ _ n1]
end Go.Proofs.YtilmhhnllelpaaaGreatDoor

/- WlA -/
namespace Go.Proofs.YtilmhhnllelpaaaGreatDoor
open Go.RowKit

structure SimR (n : Nat) (s s' : Rm) : Prop where
  size : s.ar.size = s'.ar.size
  thr : s.threads = n
  thr' : s'.threads = n
  cells : ∀ c, c < s.ar.size → cellsLike s.ar s'.ar c
  waits : ∀ t, t < n → s.waits t = s'.waits t

section
variable {n : Nat} {s s' : Rm}
theorem SimR.has (h : SimR n s s') (c g : Int) : s.ar.has c g = s'.ar.has c g := by
  unfold Ar.has
  rw [← h.size]
  by_cases hc : 0 ≤ c ∧ c < s.ar.size
  · obtain ⟨g1, g2, -⟩ := h.cells c.toNat (by omega)
    rw [g1, g2]
  · rw [decide_eq_false hc]; rfl
theorem SimR.setWaits (h : SimR n s s') (t : Nat) (l : List Wt) : SimR n (s.setWaits t l) (s'.setWaits t l) :=
  ⟨h.size, h.thr, h.thr', h.cells, fun u hu => by
    show (if u = t then l else s.waits u) = (if u = t then l else s'.waits u)
    rw [h.waits u hu]⟩
theorem SimR.setWord (h : SimR n s s') (c k : Nat) (v : Int) : SimR n (s.setWord c k v) (s'.setWord c k v) :=
  ⟨h.size, h.thr, h.thr', fun d hd => by
    obtain ⟨g1, g2, g3⟩ := h.cells d hd
    refine ⟨g1, g2, fun ht i hi => ?_⟩
    show (if d = c ∧ i = k then v else s.ar.words d i) = (if d = c ∧ i = k then v else s'.ar.words d i)
    rw [g3 ht i hi], h.waits⟩
theorem SimR.gone (h : SimR n s s') (c : Nat) : SimR n (s.setThere c false) (s'.setThere c false) :=
  ⟨h.size, h.thr, h.thr', fun d hd => by
    obtain ⟨g1, g2, g3⟩ := h.cells d hd
    refine ⟨g1, ?_, fun ht i hi => ?_⟩
    · show (if d = c then false else s.ar.there d) = (if d = c then false else s'.ar.there d)
      rw [g2]
    · have ht : (if d = c then false else s.ar.there d) = true := ht
      split at ht
      · cases ht
      · exact g3 ht i hi, h.waits⟩
theorem SimR.give (h : SimR n s s') (c : Nat) : SimR n (s.give c) (s'.give c) :=
  ⟨h.size, h.thr, h.thr', fun d hd => by
    obtain ⟨g1, g2, g3⟩ := h.cells d hd
    by_cases e : d = c
    · subst e
      refine ⟨?_, ?_, fun _ i hi => ?_⟩
      · show (if d = d then s.ar.given d + 1 else s.ar.given d) = (if d = d then s'.ar.given d + 1 else s'.ar.given d)
        rw [if_pos rfl, if_pos rfl, g1]
      · show (if d = d then true else s.ar.there d) = (if d = d then true else s'.ar.there d)
        rw [if_pos rfl, if_pos rfl]
      · show (if d = d ∧ i < 4 then 0 else s.ar.words d i) = (if d = d ∧ i < 4 then 0 else s'.ar.words d i)
        rw [if_pos ⟨rfl, hi⟩, if_pos ⟨rfl, hi⟩]
    · refine ⟨?_, ?_, fun ht i hi => ?_⟩
      · show (if d = c then s.ar.given c + 1 else s.ar.given d) = (if d = c then s'.ar.given c + 1 else s'.ar.given d)
        rw [if_neg e, if_neg e, g1]
      · show (if d = c then true else s.ar.there d) = (if d = c then true else s'.ar.there d)
        rw [if_neg e, if_neg e, g2]
      · have ht : (if d = c then true else s.ar.there d) = true := ht
        rw [if_neg e] at ht
        show (if d = c ∧ i < 4 then 0 else s.ar.words d i) = (if d = c ∧ i < 4 then 0 else s'.ar.words d i)
        rw [if_neg (fun x => e x.1), if_neg (fun x => e x.1), g3 ht i hi], h.waits⟩
theorem SimR.drained (h : SimR n s s') (t : Nat) (x : Wt) (l : List Wt) : SimR n (s.drained t x l) (s'.drained t x l) := by
  unfold Rm.drained
  rw [h.has]
  split
  · exact (h.setWaits t l).setWord _ _ _
  · exact h.setWaits t l
end
theorem SimR.drainAll {n : Nat} : ∀ (l : List Wt) {s s' : Rm} (_ : SimR n s s') (t : Nat), SimR n (s.drainAll t l) (s'.drainAll t l) ∧ s.gone t l = s'.gone t l
  | [], _, _, h, _ => ⟨h, rfl⟩
  | x :: l, s, s', h, t => by
    obtain ⟨h1, h2⟩ := SimR.drainAll l (h.drained t x l) t
    refine ⟨h1, ?_⟩
    show (if s.ar.has x.c x.g = true then 0 else 1) + _ = (if s'.ar.has x.c x.g = true then 0 else 1) + _
    rw [h.has, h2]
theorem SimR.word {n : Nat} {s s' : Rm} (h : SimR n s s') {c g : Int} (hh : s.ar.has c g = true) {w : Int} (hw : w.toNat < 4) : s.ar.words c.toNat w.toNat = s'.ar.words c.toNat w.toNat := by
  unfold Ar.has at hh
  simp only [Bool.and_eq_true, decide_eq_true_eq] at hh
  obtain ⟨⟨h1, h2⟩, -⟩ := hh
  obtain ⟨-, -, g3⟩ := h.cells c.toNat (by omega)
  exact g3 h2 _ hw

structure Sim (n : Nat) (m m' : Mk) : Prop where
  mem : SimR n m.mem m'.mem
  regs : ∀ t, t < n → ∀ k, k < 8 → m.regs t k = m'.regs t k
  pcs : ∀ t, t < n → m.pc t = m'.pc t
  faults : m.faults = m'.faults

section
variable {n : Nat} {m m' : Mk}
theorem Sim.setReg (h : Sim n m m') (t r : Nat) (v : Int) : Sim n (m.setReg t r v) (m'.setReg t r v) :=
  ⟨h.mem, fun u hu k hk => by
    show (if u = t ∧ k = r then v else m.regs u k) = (if u = t ∧ k = r then v else m'.regs u k)
    rw [h.regs u hu k hk], h.pcs, h.faults⟩
theorem Sim.setPc (h : Sim n m m') (t p : Nat) : Sim n (m.setPc t p) (m'.setPc t p) :=
  ⟨h.mem, h.regs, fun u hu => by
    show (if u = t then p else m.pc u) = (if u = t then p else m'.pc u)
    rw [h.pcs u hu], h.faults⟩
theorem Sim.addFault (h : Sim n m m') (k : Nat) : Sim n (m.addFault k) (m'.addFault k) :=
  ⟨h.mem, h.regs, h.pcs, by show m.faults + k = m'.faults + k; rw [h.faults]⟩
theorem Sim.setMem (h : Sim n m m') {s s' : Rm} (k : SimR n s s') : Sim n (m.setMem s) (m'.setMem s') := ⟨k, h.regs, h.pcs, h.faults⟩
theorem Sim.fence (h : Sim n m m') {t : Nat} (ht : t < n) : Sim n (m.fence t) (m'.fence t) := by
  have e := h.mem.waits t ht
  obtain ⟨h1, h2⟩ := SimR.drainAll (m.mem.waits t) h.mem t
  refine ⟨?_, h.regs, h.pcs, ?_⟩
  · show SimR n (m.mem.drainAll t (m.mem.waits t)) (m'.mem.drainAll t (m'.mem.waits t))
    rw [← e]; exact h1
  · show m.faults + m.mem.gone t (m.mem.waits t) = m'.faults + m'.mem.gone t (m'.mem.waits t)
    rw [← e, h2, h.faults]
theorem Sim.drain1 (h : Sim n m m') {t : Nat} (ht : t < n) : Sim n (m.drain1 t) (m'.drain1 t) := by
  unfold Mk.drain1
  rw [← h.mem.waits t ht]
  cases m.mem.waits t with
  | nil => exact h
  | cons x l =>
    refine ⟨h.mem.drained t x l, h.regs, h.pcs, ?_⟩
    show m.faults + (if m.mem.ar.has x.c x.g = true then 0 else 1) = m'.faults + (if m'.mem.ar.has x.c x.g = true then 0 else 1)
    rw [h.mem.has, h.faults]
theorem Sim.names (h : Sim n m m') (v : Int) : m.names v = m'.names v := by
  unfold Mk.names
  rw [h.mem.has]
theorem Sim.room (h : Sim n m m') {t : Nat} (ht : t < n) : Sim n (m.room t) (m'.room t) := by
  unfold Mk.room
  rw [← h.mem.waits t ht]
  split
  · exact h.drain1 ht
  · exact h
theorem Sim.put (h : Sim n m m') {t : Nat} (ht : t < n) (a w v : Int) : Sim n (m.put t a w v) (m'.put t a w v) := by
  unfold Mk.put
  rw [← h.mem.waits t ht]
  exact h.setMem (h.mem.setWaits t _)
theorem has_same {s s' : Ar} (k : SameGiven s s') (c g : Int) : s'.has c g = s.has c g := by
  unfold Ar.has
  rw [k.1, k.2.1, k.2.2]
theorem names_has {m : Mk} {v : Int} (h : m.names v = true) : m.mem.ar.has (cellOf v) (genOf v) = true := by
  unfold Mk.names at h
  simp only [Bool.and_eq_true] at h
  exact h.2
theorem names_fence {m : Mk} {v : Int} (h : m.names v = true) (t : Nat) : (m.fence t).mem.ar.has (cellOf v) (genOf v) = true := by
  rw [has_same (fence_given m t)]; exact names_has h
theorem Sim.loaded (h : Sim n m m') {t : Nat} (ht : t < n) {v w : Int} (hv : m.names v = true) (hw : w.toNat < 4) : m.loaded t v w = m'.loaded t v w := by
  unfold Mk.loaded
  rw [h.mem.waits t ht, h.mem.word (names_has hv) hw]
theorem Sim.load (h : Sim n m m') {t : Nat} (ht : t < n) (a : Nat) (v : Int) {w : Int} (hw : w.toNat < 4) : Sim n (m.load t a v w) (m'.load t a v w) := by
  unfold Mk.load
  rw [← h.names]
  split
  · rename_i hv
    rw [h.loaded ht hv hw]; exact h.setReg _ _ _
  · exact (h.addFault 1).setReg _ _ _
theorem Sim.store (h : Sim n m m') {t : Nat} (ht : t < n) (a w v : Int) : Sim n (m.store t a w v) (m'.store t a w v) := by
  unfold Mk.store
  rw [← h.names]
  split
  · exact (h.room ht).put ht _ _ _
  · exact h.addFault 1
theorem Sim.setWord (h : Sim n m m') (a w v : Int) : Sim n (m.setWord a w v) (m'.setWord a w v) := h.setMem (h.mem.setWord _ _ _)
theorem Sim.word (h : Sim n m m') {t : Nat} (ht : t < n) {a w : Int} (ha : m.names a = true) (hw : w.toNat < 4) : (m.fence t).word a w = (m'.fence t).word a w :=
  (h.fence ht).mem.word (names_fence ha t) hw
theorem Sim.swap (h : Sim n m m') {t : Nat} (ht : t < n) (a : Nat) (c v : Int) {w : Int} (hw : w.toNat < 4) : Sim n (m.swap t a c w v) (m'.swap t a c w v) := by
  unfold Mk.swap
  rw [← h.names]
  split
  · rename_i hv
    rw [h.word ht hv hw]; exact ((h.fence ht).setWord _ _ _).setReg _ _ _
  · exact (h.addFault 1).setReg _ _ _
theorem Sim.cas (h : Sim n m m') {t : Nat} (ht : t < n) (b : Nat) (c o v : Int) {w : Int} (hw : w.toNat < 4) : Sim n (m.cas t b c w o v) (m'.cas t b c w o v) := by
  unfold Mk.cas
  rw [← h.names]
  split
  · rename_i hv
    rw [h.word ht hv hw]; exact ((h.fence ht).setWord _ _ _).setReg _ _ _
  · exact (h.addFault 1).setReg _ _ _
theorem freeFrom_like {f g : Nat → Bool} : ∀ (n j : Nat), (∀ i, j ≤ i → i < j + n → f i = g i) → freeFrom f j n = freeFrom g j n
  | 0, _, _ => rfl
  | n + 1, j, h => by
    unfold freeFrom
    rw [h j (Nat.le_refl _) (by omega), freeFrom_like n (j + 1) (fun i h1 h2 => h i (by omega) (by omega))]
theorem SimR.free {s s' : Rm} (h : SimR n s s') : s.ar.free? = s'.ar.free? := by
  unfold Ar.free?
  rw [← h.size]
  exact freeFrom_like _ _ (fun i _ hi => (h.cells i (by omega)).2.1)
theorem Sim.alloc (h : Sim n m m') (t a : Nat) : Sim n (m.alloc t a) (m'.alloc t a) := by
  unfold Mk.alloc
  rw [← h.mem.free]
  cases hf : m.mem.ar.free? with
  | none => exact h.setReg _ _ _
  | some c =>
    have e := (h.mem.cells c (Ar.free_some hf).1).1
    show Sim n ((m.setMem (m.mem.give c)).setReg t a ((m.mem.ar.given c : Int) * 64 + c + 1)) ((m'.setMem (m'.mem.give c)).setReg t a ((m'.mem.ar.given c : Int) * 64 + c + 1))
    rw [e]; exact (h.setMem (h.mem.give c)).setReg _ _ _
theorem Sim.free (h : Sim n m m') {t : Nat} (ht : t < n) (v : Int) : Sim n (m.free t v) (m'.free t v) := by
  unfold Mk.free
  rw [← h.names]
  split
  · exact (h.fence ht).setMem ((h.fence ht).mem.gone _)
  · exact h.addFault 1
theorem Sim.mark (h : Sim n m m') (t : Nat) (v v' : Int) : Sim n (m.mark t v) (m'.mark t v') := by
  unfold Mk.mark
  split <;> split <;> exact ⟨h.mem, h.regs, h.pcs, h.faults⟩
theorem Sim.need (h : Sim n m m') (v : Int) : Sim n (m.need v) (m'.need v) := by
  unfold Mk.need
  split
  · exact h.addFault 1
  · exact h
end
theorem Sim.fenceFrom {n : Nat} : ∀ (k : Nat) {m m' : Mk} (_ : Sim n m m') (t : Nat), t + k ≤ n → Sim n (m.fenceFrom t k) (m'.fenceFrom t k)
  | 0, _, _, h, _, _ => h
  | k + 1, _, _, h, t, hk => Sim.fenceFrom k (h.fence (show t < n by omega)) (t + 1) (by omega)

theorem ex_nat {x : Int} {b : Nat} (h : ∃ i : Nat, i < b ∧ x = i) : x.toNat < b := by
  obtain ⟨i, h1, h2⟩ := h; omega
theorem Sim.exec {n : Nat} {m m' : Mk} (h : Sim n m m') {L : List Ins} {t : Nat} {x : Ins} (hx : InsOk L x) (ht : t < n) : Sim n (m.exec L t x) (m'.exec L t x) := by
  have g : ∀ {v : Int}, (∃ i : Nat, i < 8 ∧ v = i) → m.regs t v.toNat = m'.regs t v.toNat := fun hv => h.regs t ht _ (ex_nat hv)
  rcases kinds hx with ⟨e, h0, hv⟩ | ⟨e, h0, h1⟩ | ⟨e, h0, h1, h2⟩ | ⟨e, h0, h1, h2⟩ | ⟨e, h0, h1, h2⟩ | ⟨e, h0, h1, h2⟩ | ⟨e, h0, h1, h2⟩ | ⟨e, h0, h1, h2⟩ | ⟨e, h0, h1, h2⟩ | ⟨e, h0, h1, h2⟩ | ⟨e, h0⟩ | ⟨e, h0⟩ | ⟨e, h0⟩ | ⟨e, h0⟩ | e | e | e | ⟨e, h0, h1⟩ | ⟨e, h0, h1, h2⟩ | ⟨e, h0⟩ | ⟨e, h0⟩
  · rw [exec_const m L t e, exec_const m' L t e]; exact h.setReg _ _ _
  · rw [exec_move m L t e, exec_move m' L t e, g h1]; exact h.setReg _ _ _
  · rw [exec_add m L t e, exec_add m' L t e, g h1, g h2]; exact h.setReg _ _ _
  · rw [exec_sub m L t e, exec_sub m' L t e, g h1, g h2]; exact h.setReg _ _ _
  · rw [exec_and m L t e, exec_and m' L t e, g h1, g h2]; exact h.setReg _ _ _
  · rw [exec_xor m L t e, exec_xor m' L t e, g h1, g h2]; exact h.setReg _ _ _
  · rw [exec_load m L t e, exec_load m' L t e, g h1]; exact h.load ht _ _ (ex_nat h2)
  · rw [exec_store m L t e, exec_store m' L t e, g h0, g h1]; exact h.store ht _ _ _
  · rw [exec_swap m L t e, exec_swap m' L t e, g h0, g h1]; exact h.swap ht _ _ _ (ex_nat h2)
  · rw [exec_cas m L t e, exec_cas m' L t e, g h0, h.regs t ht x.b.toNat (by have := ex_nat h1; omega), h.regs t ht (x.b.toNat + 1) (by have := ex_nat h1; omega)]
    exact h.cas ht _ _ _ _ (ex_nat h2)
  · rw [exec_alloc m L t e, exec_alloc m' L t e]; exact h.alloc _ _
  · rw [exec_free m L t e, exec_free m' L t e, g h0]; exact h.free ht _
  · rw [exec_mark m L t e, exec_mark m' L t e]; exact h.mark _ _ _
  · rw [exec_need m L t e, exec_need m' L t e, g h0]; exact h.need _
  · rw [exec_fence m L t e, exec_fence m' L t e]; exact h.fence ht
  · rw [exec_force m L t e, exec_force m' L t e, h.mem.thr, h.mem.thr']; exact Sim.fenceFrom n h 0 (by omega)
  · rw [exec_stop m L t e, exec_stop m' L t e]; exact h
  · rw [exec_zero m L t e, exec_zero m' L t e, g h0]
    split
    · exact h.setPc _ _
    · exact h
  · rw [exec_same m L t e, exec_same m' L t e, g h0, g h1]
    split
    · exact h.setPc _ _
    · exact h
  · rw [exec_goto m L t e, exec_goto m' L t e]; exact h.setPc _ _
  · rw [exec_label m L t e, exec_label m' L t e]; exact h

theorem Sim.step {m m' : Mk} {cs : List (List Ins)} (h : Sim cs.length m m') (hR : Right cs) {t : Nat} {L : List Ins} (hL : cs[t]? = some L) : Sim cs.length (m.step L t) (m'.step L t) := by
  have ht : t < cs.length := (List.getElem?_eq_some_iff.1 hL).1
  unfold Mk.step
  rw [h.pcs t ht]
  cases hx : L[m'.pc t]? with
  | none => exact h
  | some x => exact (h.setPc t _).exec ((hR.right t L hL).2 _ x hx).1 ht
theorem Sim.turnO {m m' : Mk} {cs : List (List Ins)} (h : Sim cs.length m m') (hR : Right cs) (k : Int) : (m.turnO cs k).1 = (m'.turnO cs k).1 ∧ Sim cs.length (m.turnO cs k).2 (m'.turnO cs k).2 := by
  unfold Mk.turnO
  split
  · generalize k % (2 * (cs.length : Int)) = t
    unfold Mk.stepO
    by_cases h1 : 0 ≤ t ∧ t < cs.length
    · rw [if_pos h1, if_pos h1, h.pcs t.toNat (by omega)]
      split
      · exact ⟨rfl, h⟩
      · exact ⟨rfl, h.step hR (getD_some (by omega))⟩
    · rw [if_neg h1, if_neg h1]; exact ⟨rfl, h⟩
  · generalize k % (2 * (cs.length : Int)) - cs.length = t
    unfold Mk.drainO
    by_cases h1 : 0 ≤ t ∧ t < cs.length
    · rw [if_pos h1, if_pos h1, h.mem.waits t.toNat (by omega)]
      split
      · exact ⟨rfl, h⟩
      · exact ⟨rfl, h.drain1 (by omega)⟩
    · rw [if_neg h1, if_neg h1]; exact ⟨rfl, h⟩
theorem Sim.refl {n : Nat} {m : Mk} (h : m.mem.threads = n) : Sim n m m := ⟨⟨rfl, h, h, fun _ _ => ⟨rfl, rfl, fun _ _ _ => rfl⟩, fun _ _ => rfl⟩, fun _ _ _ _ => rfl, fun _ _ => rfl, rfl⟩
theorem Sim.trans {n : Nat} {a b c : Mk} (h : Sim n a b) (k : Sim n b c) : Sim n a c :=
  ⟨⟨h.mem.size.trans k.mem.size, h.mem.thr, k.mem.thr', fun d hd => by
      obtain ⟨a1, a2, a3⟩ := h.mem.cells d hd
      obtain ⟨b1, b2, b3⟩ := k.mem.cells d (by rw [← h.mem.size]; exact hd)
      exact ⟨a1.trans b1, a2.trans b2, fun ht i hi => (a3 ht i hi).trans (b3 (by rw [← a2]; exact ht) i hi)⟩,
    fun t ht => (h.mem.waits t ht).trans (k.mem.waits t ht)⟩, fun t ht r hr => (h.regs t ht r hr).trans (k.regs t ht r hr), fun t ht => (h.pcs t ht).trans (k.pcs t ht), h.faults.trans k.faults⟩
theorem Alike.sim {n : Nat} {m m' : Mk} (h : Alike n m m') (hz : m.mem.ar.size = m'.mem.ar.size) (ht : m.mem.threads = n) (ht' : m'.mem.threads = n) (hf : m.faults = m'.faults) : Sim n m m' := ⟨⟨hz, ht, ht', h.cells, h.waits⟩, h.regs, h.pcs, hf⟩
theorem turnO_stays {m : Mk} {cs : List (List Ins)} {k : Int} (h : (m.turnO cs k).1 ≠ 0) : (m.turnO cs k).2 = m := by
  unfold Mk.turnO at h ⊢
  split
  · rename_i h0
    rw [if_pos h0] at h
    unfold Mk.stepO at h ⊢
    split
    · rename_i h1
      rw [if_pos h1] at h
      split
      · rfl
      · rename_i h2; rw [if_neg h2] at h; exact absurd rfl h
    · rfl
  · rename_i h0
    rw [if_neg h0] at h
    unfold Mk.drainO at h ⊢
    split
    · rename_i h1
      rw [if_pos h1] at h
      split
      · rfl
      · rename_i h2; rw [if_neg h2] at h; exact absurd rfl h
    · rfl
theorem turnO_mod (m : Mk) (cs : List (List Ins)) (k : Int) : m.turnO cs (k % (2 * (cs.length : Int))) = m.turnO cs k := by
  unfold Mk.turnO
  rw [Int.emod_emod]

theorem size_exec (m : Mk) (L : List Ins) (t : Nat) (x : Ins) : (m.exec L t x).mem.ar.size = m.mem.ar.size := by
  unfold Mk.exec
  dsimp only
  split
  any_goals rfl
  · unfold Mk.load; split <;> rfl
  · unfold Mk.store
    split
    · exact (room_given m t).1
    · rfl
  · unfold Mk.swap
    split
    · exact (fence_given m t).1
    · rfl
  · unfold Mk.cas
    split
    · exact (fence_given m t).1
    · rfl
  · unfold Mk.alloc
    split <;> rfl
  · unfold Mk.free
    split
    · exact (fence_given m t).1
    · rfl
  · unfold Mk.mark; split <;> rfl
  · unfold Mk.need; split <;> rfl
  · exact (fence_given m t).1
  · exact (fenceFrom_given _ m 0).1
  · split <;> rfl
  · split <;> rfl
theorem size_turn (m : Mk) (cs : List (List Ins)) (k : Int) : (m.turnO cs k).2.mem.ar.size = m.mem.ar.size := by
  unfold Mk.turnO
  split
  · unfold Mk.stepO
    split
    · split
      · rfl
      · show (m.step _ _).mem.ar.size = _
        unfold Mk.step
        split
        · rfl
        · exact size_exec (m.setPc _ _) _ _ _
    · rfl
  · unfold Mk.drainO
    split
    · split
      · rfl
      · exact (drain1_given m _).1
    · rfl
theorem Rch.size {cs : List (List Ins)} {m0 m : Mk} {d : Nat} (h : Rch cs m0 d m) : m.mem.ar.size = m0.mem.ar.size := by
  induction h with
  | zero => rfl
  | turn n hr ih => rw [size_turn]; exact ih
theorem Rch.given {cs : List (List Ins)} {m0 m : Mk} {d : Nat} (h : Rch cs m0 d m) (h0 : GivenOk m0.mem.ar) : GivenOk m.mem.ar := by
  induction h with
  | zero => exact h0
  | turn n hr ih => exact ih.turnO cs n
theorem Sta.mach_given (s : Sta) (n : Nat) : GivenOk (s.mach n).mem.ar := by
  intro c d hc hcd hd h0
  have e : (if c < s.init.length then 1 else 0) = 0 := h0
  have hc' : ¬ c < s.init.length := fun hlt => by rw [if_pos hlt] at e; cases e
  refine ⟨?_, ?_⟩
  · show (if d < s.init.length then 1 else 0) = 0
    rw [if_neg (by omega)]
  · show (if d < s.init.length then true else false) = false
    rw [if_neg (by omega)]
theorem Rch.sim {cs : List (List Ins)} {m0 m m' : Mk} {K d d' : Nat} (h : Rch cs m0 d m) (h' : Rch cs m0 d' m') (h0 : MkOk cs.length K m0) (hl : LnOk m0.mem) (hg : GivenOk m0.mem.ar) (hR : Right cs) (hK : K + d ≤ 60000000) (hK' : K + d' ≤ 60000000) (hk : keyOf cs.length m = keyOf cs.length m') (hf : m.faults = m'.faults) : Sim cs.length m m' := by
  have hz : m.mem.ar.size = m'.mem.ar.size := by rw [h.size, h'.size]
  have o := h.ok h0 hR hK
  have o' := h'.ok h0 hR hK'
  have r := (h.key h0 hl hR hK).1
  have r' := (h'.key h0 hl hR hK').1
  have e := keyOf_inj (fun x hx => (r.1 x hx).1) (fun x hx => (r'.1 x hx).1) hk
  exact (mkNums_alike hz o.thr o'.thr (h.given hg) (h'.given hg) e).sim hz o.thr o'.thr hf
end Go.Proofs.YtilmhhnllelpaaaGreatDoor

/- WlB -/
namespace Go.Proofs.YtilmhhnllelpaaaGreatDoor
open Go.RowKit

structure Srch (cs : List (List Ins)) (m0 : Mk) (mo : Int) (S : Sp) (R : List Mk) (c : Nat) : Prop where
  keys : S.E.map (·.1) = R.map (keyOf cs.length)
  ms : S.ms = R.drop c
  cnt : c ≤ R.length
  first : R[0]? = some m0 ∧ S.E[0]? = some (keyOf cs.length m0, (ByteArray.empty, 0))
  once : ∀ (i j : Nat) m m', R[i]? = some m → R[j]? = some m' → keyOf cs.length m = keyOf cs.length m' → i = j
  by' : ∀ (i : Nat), 0 < i → i < R.length → ∃ (j n : Nat) (m m' : Mk), j < i ∧ R[j]? = some m ∧ R[i]? = some m' ∧ S.E[i]? = some (keyOf cs.length m', (keyOf cs.length m, (n : Int))) ∧ m.turnO cs n = (0, m')
  good : ∀ m ∈ R, m.faults = 0
  rch : ∀ (i : Nat) m, R[i]? = some m → ∃ d, d ≤ i ∧ Rch cs m0 d m
  s : S.s = R.length
  le : (R.length : Int) ≤ mo
def Tried (cs : List (List Ins)) (R : List Mk) (m : Mk) (n : Nat) : Prop := (m.turnO cs n).1 ≠ 0 ∨ ((m.turnO cs n).2.faults = 0 ∧ ∃ m' ∈ R, keyOf cs.length m' = keyOf cs.length (m.turnO cs n).2)
theorem Tried.mono {cs : List (List Ins)} {R R' : List Mk} {m : Mk} {n : Nat} (h : Tried cs R m n) (hp : R <+: R') : Tried cs R' m n := by
  rcases h with h | ⟨h1, m', h2, h3⟩
  · exact .inl h
  · exact .inr ⟨h1, m', hp.subset h2, h3⟩
def Closed (cs : List (List Ins)) (R : List Mk) (c N : Nat) : Prop := ∀ (j : Nat) m, j < c → R[j]? = some m → ∀ n, n < N → Tried cs R m n
theorem pre_get {R R' : List Mk} (hp : R <+: R') {j : Nat} (hj : j < R.length) : R'[j]? = R[j]? := by
  obtain ⟨T, rfl⟩ := hp
  exact List.getElem?_append_left hj
theorem Closed.mono {cs : List (List Ins)} {R R' : List Mk} {c N : Nat} (h : Closed cs R c N) (hp : R <+: R') (hc : c ≤ R.length) : Closed cs R' c N := fun j m hj hm n hn => by
  rw [pre_get hp (by omega)] at hm
  exact (h j m hj hm n hn).mono hp

theorem Srch.len {cs : List (List Ins)} {m0 : Mk} {mo : Int} {S : Sp} {R : List Mk} {c : Nat} (h : Srch cs m0 mo S R c) : S.E.length = R.length := by
  have := congrArg List.length h.keys
  simpa using this
theorem Srch.key {cs : List (List Ins)} {m0 : Mk} {mo : Int} {S : Sp} {R : List Mk} {c : Nat} (h : Srch cs m0 mo S R c) {i : Nat} {x : ByteArray × ByteArray × Int} (hx : S.E[i]? = some x) : ∃ m, R[i]? = some m ∧ x.1 = keyOf cs.length m := by
  have h1 : (S.E.map (·.1))[i]? = some x.1 := by rw [List.getElem?_map, hx]; rfl
  rw [h.keys, List.getElem?_map] at h1
  cases hm : R[i]? with
  | none => rw [hm] at h1; cases h1
  | some m => rw [hm] at h1; exact ⟨m, rfl, (Option.some.inj h1).symm⟩
theorem keyIn_srch {cs : List (List Ins)} {m0 : Mk} {mo : Int} {S : Sp} {R : List Mk} {c : Nat} (h : Srch cs m0 mo S R c) (k : ByteArray) : keyIn S.E k = true ↔ ∃ m ∈ R, keyOf cs.length m = k := by
  unfold keyIn
  rw [List.any_eq_true]
  constructor
  · rintro ⟨x, hx, he⟩
    obtain ⟨i, hi⟩ := List.mem_iff_getElem?.1 hx
    obtain ⟨m, hm, hk⟩ := h.key hi
    refine ⟨m, List.mem_of_getElem? hm, ?_⟩
    rw [← hk]
    have := eq_of_beq he
    rw [toList_bl, toList_bl] at this
    exact bl_inj this
  · rintro ⟨m, hm, rfl⟩
    have h1 : keyOf cs.length m ∈ S.E.map (·.1) := by rw [h.keys]; exact List.mem_map_of_mem hm
    obtain ⟨x, hx, he⟩ := List.mem_map.1 h1
    exact ⟨x, hx, by rw [he]; exact beq_self_eq_true _⟩

theorem Srch.add {cs : List (List Ins)} {m0 : Mk} {mo : Int} {S : Sp} {R : List Mk} {c : Nat} (h : Srch cs m0 mo S R c) {j n : Nat} {m m' : Mk} (hm : R[j]? = some m) (ht : m.turnO cs n = (0, m')) (hf : m'.faults = 0) (hin : keyIn S.E (keyOf cs.length m') = false) (hmo : ¬ (S.E.length : Int) = mo) :
    Srch cs m0 mo ⟨S.E ++ [(keyOf cs.length m', (keyOf cs.length m, (n : Int)))], S.ms ++ [m'], S.s + 1, endN S.e (endTo cs m' cs.length)⟩ (R ++ [m']) c := by
  have hnew : ∀ x ∈ R, keyOf cs.length x ≠ keyOf cs.length m' := fun x hx e => by
    rw [(keyIn_srch h _).2 ⟨x, hx, e⟩] at hin; cases hin
  have hjl : j < R.length := (List.getElem?_eq_some_iff.1 hm).1
  have hlen := h.len
  refine ⟨?_, ?_, ?_, ⟨?_, ?_⟩, ?_, ?_, ?_, ?_, ?_, ?_⟩
  · rw [List.map_append, List.map_append, h.keys]; rfl
  · show S.ms ++ [m'] = (R ++ [m']).drop c
    rw [List.drop_append_of_le_length h.cnt, h.ms]
  · have := h.cnt
    rw [List.length_append]; omega
  · rw [List.getElem?_append_left (by omega)]; exact h.first.1
  · show (S.E ++ _)[0]? = _
    rw [List.getElem?_append_left (by omega)]; exact h.first.2
  · intro i i' x x' hx hx' he
    rw [List.getElem?_append] at hx hx'
    split at hx
    · split at hx'
      · exact h.once i i' x x' hx hx' he
      · rename_i h2
        cases hd : i' - R.length with
        | zero =>
          rw [hd] at hx'
          obtain rfl : m' = x' := by simpa using hx'
          exact absurd he (hnew x (List.mem_of_getElem? hx))
        | succ k => rw [hd] at hx'; simp at hx'
    · rename_i h1
      cases hd : i - R.length with
      | succ k => rw [hd] at hx; simp at hx
      | zero =>
        rw [hd] at hx
        obtain rfl : m' = x := by simpa using hx
        split at hx'
        · exact absurd he.symm (hnew x' (List.mem_of_getElem? hx'))
        · cases hd' : i' - R.length with
          | zero => omega
          | succ k => rw [hd'] at hx'; simp at hx'
  · intro i h0 hi
    rw [List.length_append] at hi
    have hi : i < R.length + 1 := hi
    by_cases hlt : i < R.length
    · obtain ⟨j', n', x, x', g1, g2, g3, g4, g5⟩ := h.by' i h0 hlt
      refine ⟨j', n', x, x', g1, ?_, ?_, ?_, g5⟩
      · rw [List.getElem?_append_left (by omega)]; exact g2
      · rw [List.getElem?_append_left hlt]; exact g3
      · show (S.E ++ _)[i]? = _
        rw [List.getElem?_append_left (by omega)]; exact g4
    · obtain rfl : i = R.length := by omega
      refine ⟨j, n, m, m', hjl, ?_, ?_, ?_, ht⟩
      · rw [List.getElem?_append_left hjl]; exact hm
      · simp
      · show (S.E ++ _)[R.length]? = _
        rw [← hlen]; simp
  · intro x hx
    rcases List.mem_append.1 hx with hx | hx
    · exact h.good x hx
    · obtain rfl : x = m' := by simpa using hx
      exact hf
  · intro i x hx
    rw [List.getElem?_append] at hx
    split at hx
    · exact h.rch i x hx
    · rename_i h1
      cases hd : i - R.length with
      | succ k => rw [hd] at hx; simp at hx
      | zero =>
        rw [hd] at hx
        obtain rfl : m' = x := by simpa using hx
        obtain ⟨d, h2, h3⟩ := h.rch j m hm
        refine ⟨d + 1, by omega, ?_⟩
        have := h3.turn n
        rw [ht] at this
        exact this
  · show S.s + 1 = ((R ++ [m']).length : Int)
    rw [h.s, List.length_append]; simp
  · have h1 := h.le
    rw [List.length_append]
    rw [hlen] at hmo
    show ((R.length + 1 : Nat) : Int) ≤ mo
    omega

def SrPost (cs : List (List Ins)) (m0 : Mk) (mo : Int) (R : List Mk) (c : Nat) (P : List Mk → Prop) : SpEnd × Sp → Prop
  | (.go, S') => ∃ R', R <+: R' ∧ Srch cs m0 mo S' R' c ∧ P R'
  | (.fault x, S') => ∃ R' c', R <+: R' ∧ Srch cs m0 mo S' R' c' ∧ ∃ m ∈ R', ∃ n : Nat, x = (keyOf cs.length m, (n : Int)) ∧ (m.turnO cs n).1 = 0 ∧ 0 < (m.turnO cs n).2.faults
  | (.bound, _) => True

theorem okN_zero {k : Nat} (h : okN k = 0) : k ≠ 0 := fun e => by rw [e] at h; cases h
theorem okN_one {k : Nat} (h : ¬ okN k = 0) : k = 0 := by
  unfold okN at h
  split at h
  · assumption
  · exact absurd rfl h
theorem spreadO_srch {cs : List (List Ins)} {m0 : Mk} {mo : Int} {m : Mk} {c : Nat} : ∀ (k n : Nat) {S : Sp} {R : List Mk}, Srch cs m0 mo S R (c + 1) → R[c]? = some m → (∀ i, i < n → Tried cs R m i) →
    SrPost cs m0 mo R (c + 1) (fun R' => ∀ i, i < n + k → Tried cs R' m i) (spreadO cs mo m k n S)
  | 0, n, S, R, h, hm, ht => ⟨R, List.prefix_refl _, h, ht⟩
  | k + 1, n, S, R, h, hm, ht => by
    by_cases ho : okN (m.turnO cs n).1 = 0
    · rw [spreadO_err ho]
      have := spreadO_srch k (n + 1) h hm (fun i hi => by
        by_cases e : i = n
        · subst e; exact .inl (okN_zero ho)
        · exact ht i (by omega))
      rwa [show n + (k + 1) = n + 1 + k by omega]
    · have h0 := okN_one ho
      by_cases hf : 0 < (m.turnO cs n).2.faults
      · rw [spreadO_fault ho hf]
        exact ⟨R, c + 1, List.prefix_refl _, h, m, List.mem_of_getElem? hm, n, rfl, h0, hf⟩
      · rw [spreadO_add ho hf]
        unfold addO
        cases hin : keyIn S.E (keyOf cs.length (m.turnO cs n).2) with
        | true =>
          rw [if_pos rfl]
          have := spreadO_srch k (n + 1) h hm (fun i hi => by
            by_cases e : i = n
            · subst e; exact .inr ⟨by omega, (keyIn_srch h _).1 hin⟩
            · exact ht i (by omega))
          rw [show n + (k + 1) = n + 1 + k by omega]
          exact this
        | false =>
          rw [if_neg (by decide)]
          by_cases hmo : (S.E.length : Int) = mo
          · rw [if_pos hmo]; exact trivial
          · rw [if_neg hmo]
            have hp : R <+: R ++ [(m.turnO cs n).2] := List.prefix_append _ _
            have hlt := (List.getElem?_eq_some_iff.1 hm).1
            have h2 := h.add (j := c) (n := n) (m := m) (m' := (m.turnO cs n).2) hm (by rw [← h0]) (by omega) hin hmo
            have := spreadO_srch k (n + 1) h2 (by rw [pre_get hp hlt]; exact hm) (fun i hi => by
              by_cases e : i = n
              · subst e; exact .inr ⟨by omega, _, List.mem_append_right _ (by simp), rfl⟩
              · exact (ht i (by omega)).mono hp)
            rw [show n + (k + 1) = n + 1 + k by omega]
            show SrPost cs m0 mo R (c + 1) (fun R' => ∀ i, i < n + 1 + k → Tried cs R' m i) (spreadO cs mo m k (n + 1) ⟨S.E ++ [(keyOf cs.length (m.turnO cs n).2, (keyOf cs.length m, (n : Int)))], S.ms ++ [(m.turnO cs n).2], S.s + 1, endN S.e (endTo cs (m.turnO cs n).2 cs.length)⟩)
            revert this
            generalize spreadO cs mo m k (n + 1) _ = r
            obtain ⟨e, S'⟩ := r
            cases e with
            | go => rintro ⟨R', g1, g2, g3⟩; exact ⟨R', hp.trans g1, g2, g3⟩
            | bound => exact fun _ => trivial
            | fault x => rintro ⟨R', c', g1, g2, g3⟩; exact ⟨R', c', hp.trans g1, g2, g3⟩
theorem searchO_srch {cs : List (List Ins)} {m0 : Mk} {mo : Int} {N : Nat} : ∀ (f : Nat) {S : Sp} {R : List Mk} {c : Nat}, Srch cs m0 mo S R c → Closed cs R c N →
    match searchO cs mo N f S with
    | (.go, S') => ∃ R' c', Srch cs m0 mo S' R' c' ∧ Closed cs R' c' N
    | (.fault x, S') => ∃ R' c', Srch cs m0 mo S' R' c' ∧ ∃ m ∈ R', ∃ n : Nat, x = (keyOf cs.length m, (n : Int)) ∧ (m.turnO cs n).1 = 0 ∧ 0 < (m.turnO cs n).2.faults
    | (.bound, _) => True
  | 0, S, R, c, h, hc => ⟨R, c, h, hc⟩
  | f + 1, S, R, c, h, hc => by
    cases hms : S.ms with
    | nil =>
      have e : searchO cs mo N (f + 1) S = (.go, S) := by
        obtain ⟨E, ms, s, e⟩ := S
        dsimp only at hms
        subst hms
        rfl
      rw [e]
      exact ⟨R, c, h, hc⟩
    | cons m l =>
      rw [searchO_cons hms]
      have hd : R.drop c = m :: l := by rw [← h.ms]; exact hms
      have hlt : c < R.length := by
        have := congrArg List.length hd
        rw [List.length_drop, List.length_cons] at this; omega
      have hm : R[c]? = some m := by
        have h1 : (R.drop c)[0]? = some m := by rw [hd]; rfl
        rw [List.getElem?_drop] at h1
        exact h1
      have hl : l = R.drop (c + 1) := by
        have h1 : (R.drop c).drop 1 = l := by rw [hd]; rfl
        rw [← h1, List.drop_drop]
      have h' : Srch cs m0 mo { S with ms := l } R (c + 1) := ⟨h.keys, hl, hlt, h.first, h.once, h.by', h.good, h.rch, h.s, h.le⟩
      have hs := spreadO_srch N 0 h' hm (fun i hi => absurd hi (by omega))
      revert hs
      generalize spreadO cs mo m N 0 { S with ms := l } = r
      obtain ⟨e, S'⟩ := r
      cases e with
      | bound => exact fun _ => trivial
      | fault x => rintro ⟨R', c', g1, g2, g3⟩; exact ⟨R', c', g2, g3⟩
      | go =>
        rintro ⟨R', g1, g2, g3⟩
        refine searchO_srch f g2 (fun j x hj hx n hn => ?_)
        by_cases e : j = c
        · subst e
          rw [pre_get g1 hlt, hm] at hx
          cases hx
          exact g3 n (by omega)
        · exact hc.mono g1 (by omega) j x (by omega) hx n hn
theorem first_srch {cs : List (List Ins)} {m0 : Mk} {mo : Int} (h : 1 ≤ mo) (hf : m0.faults = 0) : Srch cs m0 mo (firstS cs m0) [m0] 0 := by
  refine ⟨rfl, rfl, Nat.zero_le _, ⟨rfl, rfl⟩, fun i j m m' hi hj _ => ?_, fun i h0 hi => ?_, fun m hm => ?_, fun i m hi => ?_, rfl, by show ((1 : Nat) : Int) ≤ mo; omega⟩
  · have := (List.getElem?_eq_some_iff.1 hi).1
    have := (List.getElem?_eq_some_iff.1 hj).1
    simp at *
    omega
  · have hi : i < 1 := hi
    omega
  · obtain rfl : m = m0 := by simpa using hm
    exact hf
  · have h1 := (List.getElem?_eq_some_iff.1 hi).1
    have h1 : i < 1 := h1
    obtain rfl : i = 0 := by omega
    obtain rfl : m0 = m := by simpa using hi
    exact ⟨0, Nat.le_refl _, .zero⟩

theorem back_run {cs : List (List Ins)} {m0 : Mk} {mo : Int} {S : Sp} {R : List Mk} {c : Nat} (h : Srch cs m0 mo S R c) (hne : ∀ m ∈ R, keyOf cs.length m ≠ ByteArray.empty) {y : ByteArray × Int} {l : List Int} (hb : Back S.E y l) :
    ∀ (i : Nat) m k, R[i]? = some m → S.E[i]? = some (k, y) → m0.runO cs l.reverse = (l.length, m) ∧ l.length ≤ i := by
  induction hb with
  | first n =>
    intro i m k hm hE
    by_cases hi : 0 < i
    · obtain ⟨j, n', x, x', g1, g2, g3, g4, -⟩ := h.by' i hi (List.getElem?_eq_some_iff.1 hm).1
      rw [hE] at g4
      have e : ByteArray.empty = keyOf cs.length x := by
        have := Option.some.inj g4
        exact congrArg (fun z : ByteArray × ByteArray × Int => z.2.1) this
      exact absurd e.symm (hne x (List.mem_of_getElem? g2))
    · obtain rfl : i = 0 := by omega
      rw [h.first.1] at hm
      cases hm
      exact ⟨rfl, Nat.le_refl _⟩
  | step n hk hin hb ih =>
    rename_i k0 y0 l0
    intro i m k hm hE
    by_cases hi : 0 < i
    · obtain ⟨j, n', x, x', g1, g2, g3, g4, g5⟩ := h.by' i hi (List.getElem?_eq_some_iff.1 hm).1
      rw [hE] at g4
      rw [hm] at g3
      cases g3
      have hz := Option.some.inj g4
      have e1 : k0 = keyOf cs.length x := congrArg (fun z : ByteArray × ByteArray × Int => z.2.1) hz
      have e2 : n = (n' : Int) := congrArg (fun z : ByteArray × ByteArray × Int => z.2.2) hz
      subst e2
      obtain ⟨j', hj'⟩ := List.mem_iff_getElem?.1 hin
      obtain ⟨x2, hx2, hk2⟩ := h.key hj'
      have ej : j' = j := h.once j' j x2 x hx2 g2 (by rw [← hk2, ← e1])
      subst ej
      obtain ⟨hr, hle⟩ := ih j' x k0 g2 hj'
      refine ⟨?_, by rw [List.length_cons]; omega⟩
      rw [List.reverse_cons, Mk.runO_snoc, hr, g5, List.length_cons]
      rfl
    · obtain rfl : i = 0 := by omega
      rw [h.first.2] at hE
      have e : ByteArray.empty = k0 := by
        have := Option.some.inj hE
        exact congrArg (fun z : ByteArray × ByteArray × Int => z.2.1) this
      exact absurd e.symm hk
theorem back_fault {cs : List (List Ins)} {m0 : Mk} {mo : Int} {S : Sp} {R : List Mk} {c : Nat} (h : Srch cs m0 mo S R c) (hne : ∀ m ∈ R, keyOf cs.length m ≠ ByteArray.empty) {m : Mk} (hm : m ∈ R) {n : Nat} {l : List Int} (hb : Back S.E (keyOf cs.length m, (n : Int)) l) :
    ∃ l0, l = (n : Int) :: l0 ∧ m0.runO cs l0.reverse = (l0.length, m) ∧ l0.length < R.length := by
  have hk := hne m hm
  generalize hy : (keyOf cs.length m, (n : Int)) = y at hb
  cases hb with
  | first n' => exact absurd (congrArg Prod.fst hy) hk
  | step n' h1 h2 h3 =>
    rename_i k0 y0 l0
    cases hy
    obtain ⟨i, hi⟩ := List.mem_iff_getElem?.1 hm
    obtain ⟨j, hj⟩ := List.mem_iff_getElem?.1 h2
    obtain ⟨x, hx, hkx⟩ := h.key hj
    obtain rfl : j = i := h.once j i x m hx hi hkx.symm
    obtain ⟨g1, g2⟩ := back_run h hne h3 j m _ hi hj
    have := (List.getElem?_eq_some_iff.1 hi).1
    exact ⟨l0, rfl, g1, by omega⟩

theorem closed_run {cs : List (List Ins)} {m0 : Mk} {mo : Int} {S : Sp} {R : List Mk} {K : Nat} (h : Srch cs m0 mo S R R.length) (hc : Closed cs R R.length (2 * cs.length)) (h0 : MkOk cs.length K m0) (hl : LnOk m0.mem) (hg : GivenOk m0.mem.ar) (hR : Right cs) (hmo : mo ≤ 60000) (hK : K ≤ 1000) :
    ∀ (l : List Int) (m : Mk), (∃ r ∈ R, Sim cs.length m r) → (m.runO cs l).2.faults = 0
  | [], m, ⟨r, hr, hs⟩ => by
    show m.faults = 0
    rw [hs.faults]; exact h.good r hr
  | k :: l, m, ⟨r, hr, hs⟩ => by
    refine closed_run h hc h0 hl hg hR hmo hK l (m.turnO cs k).2 ?_
    have hn : 0 < cs.length := hR.some'
    have h1 : 0 ≤ k % (2 * (cs.length : Int)) := Int.emod_nonneg _ (by omega)
    have h2 : k % (2 * (cs.length : Int)) < 2 * (cs.length : Int) := Int.emod_lt_of_pos _ (by omega)
    obtain ⟨n, hnk⟩ : ∃ n : Nat, (n : Int) = k % (2 * (cs.length : Int)) := ⟨_, Int.toNat_of_nonneg h1⟩
    have em : m.turnO cs k = m.turnO cs (n : Int) := by rw [hnk, turnO_mod]
    rw [em]
    obtain ⟨i, hi⟩ := List.mem_iff_getElem?.1 hr
    obtain ⟨t1, t2⟩ := hs.turnO hR (n : Int)
    rcases hc i r (List.getElem?_eq_some_iff.1 hi).1 hi n (by omega) with ht | ⟨hf, r', hr', hk'⟩
    · rw [turnO_stays (by rw [t1]; exact ht)]
      exact ⟨r, hr, hs⟩
    · obtain ⟨i', hi'⟩ := List.mem_iff_getElem?.1 hr'
      obtain ⟨d, hd, hrc⟩ := h.rch i r hi
      obtain ⟨d', hd', hrc'⟩ := h.rch i' r' hi'
      have := (List.getElem?_eq_some_iff.1 hi).1
      have := (List.getElem?_eq_some_iff.1 hi').1
      have := h.le
      exact ⟨r', hr', t2.trans ((hrc.turn n).sim hrc' h0 hl hg hR (by omega) (by omega) hk'.symm (by rw [hf, h.good r' hr']))⟩

theorem srch_ne {cs : List (List Ins)} {m0 : Mk} {mo : Int} {S : Sp} {R : List Mk} {c K : Nat} (h : Srch cs m0 mo S R c) (h0 : MkOk cs.length K m0) (hl : LnOk m0.mem) (hR : Right cs) (hmo : mo ≤ 60000) (hK : K ≤ 1000) : ∀ m ∈ R, keyOf cs.length m ≠ ByteArray.empty := fun m hm => by
  obtain ⟨i, hi⟩ := List.mem_iff_getElem?.1 hm
  obtain ⟨d, hd, hr⟩ := h.rch i m hi
  have := (List.getElem?_eq_some_iff.1 hi).1
  have := h.le
  exact (hr.key h0 hl hR (by omega)).2
theorem told_go {cs : List (List Ins)} {m0 : Mk} {mo : Int} {f K : Nat} {S : Sp} (h0 : MkOk cs.length K m0) (hl : LnOk m0.mem) (hg : GivenOk m0.mem.ar) (hR : Right cs) (hf : m0.faults = 0) (hmo : 1 ≤ mo ∧ mo ≤ 60000) (hK : K ≤ 1000)
    (h : searchO cs mo (2 * cs.length) f (firstS cs m0) = (.go, S)) (hm : S.ms = []) (l : List Int) : (m0.runO cs l).2.faults = 0 := by
  have hs := searchO_srch (N := 2 * cs.length) f (first_srch (cs := cs) hmo.1 hf) (c := 0) (fun j _ hj => absurd hj (by omega))
  rw [h] at hs
  obtain ⟨R, c, h1, h2⟩ := hs
  have hc : c = R.length := by
    have e := h1.ms
    rw [hm] at e
    have := congrArg List.length e
    rw [List.length_drop, List.length_nil] at this
    have := h1.cnt
    omega
  subst hc
  exact closed_run h1 h2 h0 hl hg hR hmo.2 hK l m0 ⟨m0, List.mem_of_getElem? h1.first.1, Sim.refl h0.thr⟩
theorem told_fault {cs : List (List Ins)} {m0 : Mk} {mo : Int} {f K : Nat} {S : Sp} {x : ByteArray × Int} {l : List Int} (h0 : MkOk cs.length K m0) (hl : LnOk m0.mem) (hR : Right cs) (hf : m0.faults = 0) (hmo : 1 ≤ mo ∧ mo ≤ 60000) (hK : K ≤ 1000)
    (h : searchO cs mo (2 * cs.length) f (firstS cs m0) = (.fault x, S)) (hb : Back S.E x l) :
    ∃ (n : Int) (L : List Int), l.reverse = L ++ [n] ∧ (L.length : Int) < mo ∧ (m0.runO cs L).1 = L.length ∧ (m0.runO cs L).2.faults = 0 ∧ ((m0.runO cs L).2.runO cs [n]).1 = 1 ∧ 0 < ((m0.runO cs L).2.runO cs [n]).2.faults := by
  have hs := searchO_srch (N := 2 * cs.length) f (first_srch (cs := cs) hmo.1 hf) (c := 0) (fun j _ hj => absurd hj (by omega))
  rw [h] at hs
  obtain ⟨R, c, h1, m, hm, n, rfl, h2, h3⟩ := hs
  obtain ⟨l0, rfl, g1, g2⟩ := back_fault h1 (srch_ne h1 h0 hl hR hmo.2 hK) hm hb
  have := h1.le
  refine ⟨n, l0.reverse, by rw [List.reverse_cons], by rw [List.length_reverse]; omega, by rw [g1, List.length_reverse], by rw [g1]; exact h1.good m hm, ?_, ?_⟩
  · rw [g1]
    show okN (m.turnO cs n).1 + 0 = 1
    rw [h2]; rfl
  · rw [g1]; exact h3
end Go.Proofs.YtilmhhnllelpaaaGreatDoor
