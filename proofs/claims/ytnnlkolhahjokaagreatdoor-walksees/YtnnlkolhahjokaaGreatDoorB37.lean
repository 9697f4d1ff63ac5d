import Derived.Test.YtnnlkolhahjokaaGreatDoorB35
import Derived.Test.YtnnlkolhahjokaaGreatDoorB27

/- WlA -/
namespace Go.Proofs.YtnnlkolhahjokaaGreatDoor
open Go.RowKit

structure SimR (n : Nat) (s s' : Rm) : Prop where
  size : s.ar.size = s'.ar.size
  thr : s.threads = n
  thr' : s'.threads = n
  cells : ∀ c, c < s.ar.size → cellsLike s.ar s'.ar c
  waits : ∀ t, t < n → s.waits t = s'.waits t

section
variable {n : Nat} {s s' : Rm}
theorem SimR.has (h : SimR n s s') (c g : Int) : s.ar.has c g = s'.ar.has c g := by
  unfold Ar.has
  rw [← h.size]
  by_cases hc : 0 ≤ c ∧ c < s.ar.size
  · obtain ⟨g1, g2, -⟩ := h.cells c.toNat (by omega)
    rw [g1, g2]
  · rw [decide_eq_false hc]; rfl
theorem SimR.setWaits (h : SimR n s s') (t : Nat) (l : List Wt) : SimR n (s.setWaits t l) (s'.setWaits t l) :=
  ⟨h.size, h.thr, h.thr', h.cells, fun u hu => by
    show (if u = t then l else s.waits u) = (if u = t then l else s'.waits u)
    rw [h.waits u hu]⟩
theorem SimR.setWord (h : SimR n s s') (c k : Nat) (v : Int) : SimR n (s.setWord c k v) (s'.setWord c k v) :=
  ⟨h.size, h.thr, h.thr', fun d hd => by
    obtain ⟨g1, g2, g3⟩ := h.cells d hd
    refine ⟨g1, g2, fun ht i hi => ?_⟩
    show (if d = c ∧ i = k then v else s.ar.words d i) = (if d = c ∧ i = k then v else s'.ar.words d i)
    rw [g3 ht i hi], h.waits⟩
theorem SimR.gone (h : SimR n s s') (c : Nat) : SimR n (s.setThere c false) (s'.setThere c false) :=
  ⟨h.size, h.thr, h.thr', fun d hd => by
    obtain ⟨g1, g2, g3⟩ := h.cells d hd
    refine ⟨g1, ?_, fun ht i hi => ?_⟩
    · show (if d = c then false else s.ar.there d) = (if d = c then false else s'.ar.there d)
      rw [g2]
    · have ht : (if d = c then false else s.ar.there d) = true := ht
      split at ht
      · cases ht
      · exact g3 ht i hi, h.waits⟩
theorem SimR.give (h : SimR n s s') (c : Nat) : SimR n (s.give c) (s'.give c) :=
  ⟨h.size, h.thr, h.thr', fun d hd => by
    obtain ⟨g1, g2, g3⟩ := h.cells d hd
    by_cases e : d = c
    · subst e
      refine ⟨?_, ?_, fun _ i hi => ?_⟩
      · show (if d = d then s.ar.given d + 1 else s.ar.given d) = (if d = d then s'.ar.given d + 1 else s'.ar.given d)
        rw [if_pos rfl, if_pos rfl, g1]
      · show (if d = d then true else s.ar.there d) = (if d = d then true else s'.ar.there d)
        rw [if_pos rfl, if_pos rfl]
      · show (if d = d ∧ i < 4 then 0 else s.ar.words d i) = (if d = d ∧ i < 4 then 0 else s'.ar.words d i)
        rw [if_pos ⟨rfl, hi⟩, if_pos ⟨rfl, hi⟩]
    · refine ⟨?_, ?_, fun ht i hi => ?_⟩
      · show (if d = c then s.ar.given c + 1 else s.ar.given d) = (if d = c then s'.ar.given c + 1 else s'.ar.given d)
        rw [if_neg e, if_neg e, g1]
      · show (if d = c then true else s.ar.there d) = (if d = c then true else s'.ar.there d)
        rw [if_neg e, if_neg e, g2]
      · have ht : (if d = c then true else s.ar.there d) = true := ht
        rw [if_neg e] at ht
        show (if d = c ∧ i < 4 then 0 else s.ar.words d i) = (if d = c ∧ i < 4 then 0 else s'.ar.words d i)
        rw [if_neg (fun x => e x.1), if_neg (fun x => e x.1), g3 ht i hi], h.waits⟩
theorem SimR.drained (h : SimR n s s') (t : Nat) (x : Wt) (l : List Wt) : SimR n (s.drained t x l) (s'.drained t x l) := by
  unfold Rm.drained
  rw [h.has]
  split
  · exact (h.setWaits t l).setWord _ _ _
  · exact h.setWaits t l
end
theorem SimR.drainAll {n : Nat} : ∀ (l : List Wt) {s s' : Rm} (_ : SimR n s s') (t : Nat), SimR n (s.drainAll t l) (s'.drainAll t l) ∧ s.gone t l = s'.gone t l
  | [], _, _, h, _ => ⟨h, rfl⟩
  | x :: l, s, s', h, t => by
    obtain ⟨h1, h2⟩ := SimR.drainAll l (h.drained t x l) t
    refine ⟨h1, ?_⟩
    show (if s.ar.has x.c x.g = true then 0 else 1) + _ = (if s'.ar.has x.c x.g = true then 0 else 1) + _
    rw [h.has, h2]
theorem SimR.word {n : Nat} {s s' : Rm} (h : SimR n s s') {c g : Int} (hh : s.ar.has c g = true) {w : Int} (hw : w.toNat < 4) : s.ar.words c.toNat w.toNat = s'.ar.words c.toNat w.toNat := by
  unfold Ar.has at hh
  simp only [Bool.and_eq_true, decide_eq_true_eq] at hh
  obtain ⟨⟨h1, h2⟩, -⟩ := hh
  obtain ⟨-, -, g3⟩ := h.cells c.toNat (by omega)
  exact g3 h2 _ hw

structure Sim (n : Nat) (m m' : Mk) : Prop where
  mem : SimR n m.mem m'.mem
  regs : ∀ t, t < n → ∀ k, k < 8 → m.regs t k = m'.regs t k
  pcs : ∀ t, t < n → m.pc t = m'.pc t
  faults : m.faults = m'.faults

section
variable {n : Nat} {m m' : Mk}
theorem Sim.setReg (h : Sim n m m') (t r : Nat) (v : Int) : Sim n (m.setReg t r v) (m'.setReg t r v) :=
  ⟨h.mem, fun u hu k hk => by
    show (if u = t ∧ k = r then v else m.regs u k) = (if u = t ∧ k = r then v else m'.regs u k)
    rw [h.regs u hu k hk], h.pcs, h.faults⟩
theorem Sim.setPc (h : Sim n m m') (t p : Nat) : Sim n (m.setPc t p) (m'.setPc t p) :=
  ⟨h.mem, h.regs, fun u hu => by
    show (if u = t then p else m.pc u) = (if u = t then p else m'.pc u)
    rw [h.pcs u hu], h.faults⟩
theorem Sim.addFault (h : Sim n m m') (k : Nat) : Sim n (m.addFault k) (m'.addFault k) :=
  ⟨h.mem, h.regs, h.pcs, by show m.faults + k = m'.faults + k; rw [h.faults]⟩
theorem Sim.setMem (h : Sim n m m') {s s' : Rm} (k : SimR n s s') : Sim n (m.setMem s) (m'.setMem s') := ⟨k, h.regs, h.pcs, h.faults⟩
theorem Sim.fence (h : Sim n m m') {t : Nat} (ht : t < n) : Sim n (m.fence t) (m'.fence t) := by
  have e := h.mem.waits t ht
  obtain ⟨h1, h2⟩ := SimR.drainAll (m.mem.waits t) h.mem t
  refine ⟨?_, h.regs, h.pcs, ?_⟩
  · show SimR n (m.mem.drainAll t (m.mem.waits t)) (m'.mem.drainAll t (m'.mem.waits t))
    rw [← e]; exact h1
  · show m.faults + m.mem.gone t (m.mem.waits t) = m'.faults + m'.mem.gone t (m'.mem.waits t)
    rw [← e, h2, h.faults]
theorem Sim.drain1 (h : Sim n m m') {t : Nat} (ht : t < n) : Sim n (m.drain1 t) (m'.drain1 t) := by
  unfold Mk.drain1
  rw [← h.mem.waits t ht]
  cases m.mem.waits t with
  | nil => exact h
  | cons x l =>
    refine ⟨h.mem.drained t x l, h.regs, h.pcs, ?_⟩
    show m.faults + (if m.mem.ar.has x.c x.g = true then 0 else 1) = m'.faults + (if m'.mem.ar.has x.c x.g = true then 0 else 1)
    rw [h.mem.has, h.faults]
theorem Sim.names (h : Sim n m m') (v : Int) : m.names v = m'.names v := by
  unfold Mk.names
  rw [h.mem.has]
theorem Sim.room (h : Sim n m m') {t : Nat} (ht : t < n) : Sim n (m.room t) (m'.room t) := by
  unfold Mk.room
  rw [← h.mem.waits t ht]
  split
  · exact h.drain1 ht
  · exact h
theorem Sim.put (h : Sim n m m') {t : Nat} (ht : t < n) (a w v : Int) : Sim n (m.put t a w v) (m'.put t a w v) := by
  unfold Mk.put
  rw [← h.mem.waits t ht]
  exact h.setMem (h.mem.setWaits t _)
theorem has_same {s s' : Ar} (k : SameGiven s s') (c g : Int) : s'.has c g = s.has c g := by
  unfold Ar.has
  rw [k.1, k.2.1, k.2.2]
theorem names_has {m : Mk} {v : Int} (h : m.names v = true) : m.mem.ar.has (cellOf v) (genOf v) = true := by
  unfold Mk.names at h
  simp only [Bool.and_eq_true] at h
  exact h.2
theorem names_fence {m : Mk} {v : Int} (h : m.names v = true) (t : Nat) : (m.fence t).mem.ar.has (cellOf v) (genOf v) = true := by
  rw [has_same (fence_given m t)]; exact names_has h
theorem Sim.loaded (h : Sim n m m') {t : Nat} (ht : t < n) {v w : Int} (hv : m.names v = true) (hw : w.toNat < 4) : m.loaded t v w = m'.loaded t v w := by
  unfold Mk.loaded
  rw [h.mem.waits t ht, h.mem.word (names_has hv) hw]
theorem Sim.load (h : Sim n m m') {t : Nat} (ht : t < n) (a : Nat) (v : Int) {w : Int} (hw : w.toNat < 4) : Sim n (m.load t a v w) (m'.load t a v w) := by
  unfold Mk.load
  rw [← h.names]
  split
  · rename_i hv
    rw [h.loaded ht hv hw]; exact h.setReg _ _ _
  · exact (h.addFault 1).setReg _ _ _
theorem Sim.store (h : Sim n m m') {t : Nat} (ht : t < n) (a w v : Int) : Sim n (m.store t a w v) (m'.store t a w v) := by
  unfold Mk.store
  rw [← h.names]
  split
  · exact (h.room ht).put ht _ _ _
  · exact h.addFault 1
theorem Sim.setWord (h : Sim n m m') (a w v : Int) : Sim n (m.setWord a w v) (m'.setWord a w v) := h.setMem (h.mem.setWord _ _ _)
theorem Sim.word (h : Sim n m m') {t : Nat} (ht : t < n) {a w : Int} (ha : m.names a = true) (hw : w.toNat < 4) : (m.fence t).word a w = (m'.fence t).word a w :=
  (h.fence ht).mem.word (names_fence ha t) hw
theorem Sim.swap (h : Sim n m m') {t : Nat} (ht : t < n) (a : Nat) (c v : Int) {w : Int} (hw : w.toNat < 4) : Sim n (m.swap t a c w v) (m'.swap t a c w v) := by
  unfold Mk.swap
  rw [← h.names]
  split
  · rename_i hv
    rw [h.word ht hv hw]; exact ((h.fence ht).setWord _ _ _).setReg _ _ _
  · exact (h.addFault 1).setReg _ _ _
theorem Sim.cas (h : Sim n m m') {t : Nat} (ht : t < n) (b : Nat) (c o v : Int) {w : Int} (hw : w.toNat < 4) : Sim n (m.cas t b c w o v) (m'.cas t b c w o v) := by
  unfold Mk.cas
  rw [← h.names]
  split
  · rename_i hv
    rw [h.word ht hv hw]; exact ((h.fence ht).setWord _ _ _).setReg _ _ _
  · exact (h.addFault 1).setReg _ _ _
theorem freeFrom_like {f g : Nat → Bool} : ∀ (n j : Nat), (∀ i, j ≤ i → i < j + n → f i = g i) → freeFrom f j n = freeFrom g j n
  | 0, _, _ => rfl
  | n + 1, j, h => by
    unfold freeFrom
    rw [h j (Nat.le_refl _) (by omega), freeFrom_like n (j + 1) (fun i h1 h2 => h i (by omega) (by omega))]
theorem SimR.free {s s' : Rm} (h : SimR n s s') : s.ar.free? = s'.ar.free? := by
  unfold Ar.free?
  rw [← h.size]
  exact freeFrom_like _ _ (fun i _ hi => (h.cells i (by omega)).2.1)
theorem Sim.alloc (h : Sim n m m') (t a : Nat) : Sim n (m.alloc t a) (m'.alloc t a) := by
  unfold Mk.alloc
  rw [← h.mem.free]
  cases hf : m.mem.ar.free? with
  | none => exact h.setReg _ _ _
  | some c =>
    have e := (h.mem.cells c (Ar.free_some hf).1).1
    show Sim n ((m.setMem (m.mem.give c)).setReg t a ((m.mem.ar.given c : Int) * 64 + c + 1)) ((m'.setMem (m'.mem.give c)).setReg t a ((m'.mem.ar.given c : Int) * 64 + c + 1))
    rw [e]; exact (h.setMem (h.mem.give c)).setReg _ _ _
theorem Sim.free (h : Sim n m m') {t : Nat} (ht : t < n) (v : Int) : Sim n (m.free t v) (m'.free t v) := by
  unfold Mk.free
  rw [← h.names]
  split
  · exact (h.fence ht).setMem ((h.fence ht).mem.gone _)
  · exact h.addFault 1
theorem Sim.mark (h : Sim n m m') (t : Nat) (v v' : Int) : Sim n (m.mark t v) (m'.mark t v') := by
  unfold Mk.mark
  split <;> split <;> exact ⟨h.mem, h.regs, h.pcs, h.faults⟩
theorem Sim.need (h : Sim n m m') (v : Int) : Sim n (m.need v) (m'.need v) := by
  unfold Mk.need
  split
  · exact h.addFault 1
  · exact h
end
theorem Sim.fenceFrom {n : Nat} : ∀ (k : Nat) {m m' : Mk} (_ : Sim n m m') (t : Nat), t + k ≤ n → Sim n (m.fenceFrom t k) (m'.fenceFrom t k)
  | 0, _, _, h, _, _ => h
  | k + 1, _, _, h, t, hk => Sim.fenceFrom k (h.fence (show t < n by omega)) (t + 1) (by omega)

theorem ex_nat {x : Int} {b : Nat} (h : ∃ i : Nat, i < b ∧ x = i) : x.toNat < b := by
  obtain ⟨i, h1, h2⟩ := h; omega
theorem Sim.exec {n : Nat} {m m' : Mk} (h : Sim n m m') {L : List Ins} {t : Nat} {x : Ins} (hx : InsOk L x) (ht : t < n) : Sim n (m.exec L t x) (m'.exec L t x) := by
  have g : ∀ {v : Int}, (∃ i : Nat, i < 8 ∧ v = i) → m.regs t v.toNat = m'.regs t v.toNat := fun hv => h.regs t ht _ (ex_nat hv)
  rcases kinds hx with ⟨e, h0, hv⟩ | ⟨e, h0, h1⟩ | ⟨e, h0, h1, h2⟩ | ⟨e, h0, h1, h2⟩ | ⟨e, h0, h1, h2⟩ | ⟨e, h0, h1, h2⟩ | ⟨e, h0, h1, h2⟩ | ⟨e, h0, h1, h2⟩ | ⟨e, h0, h1, h2⟩ | ⟨e, h0, h1, h2⟩ | ⟨e, h0⟩ | ⟨e, h0⟩ | ⟨e, h0⟩ | ⟨e, h0⟩ | e | e | e | ⟨e, h0, h1⟩ | ⟨e, h0, h1, h2⟩ | ⟨e, h0⟩ | ⟨e, h0⟩
  · rw [exec_const m L t e, exec_const m' L t e]; exact h.setReg _ _ _
  · rw [exec_move m L t e, exec_move m' L t e, g h1]; exact h.setReg _ _ _
  · rw [exec_add m L t e, exec_add m' L t e, g h1, g h2]; exact h.setReg _ _ _
  · rw [exec_sub m L t e, exec_sub m' L t e, g h1, g h2]; exact h.setReg _ _ _
  · rw [exec_and m L t e, exec_and m' L t e, g h1, g h2]; exact h.setReg _ _ _
  · rw [exec_xor m L t e, exec_xor m' L t e, g h1, g h2]; exact h.setReg _ _ _
  · rw [exec_load m L t e, exec_load m' L t e, g h1]; exact h.load ht _ _ (ex_nat h2)
  · rw [exec_store m L t e, exec_store m' L t e, g h0, g h1]; exact h.store ht _ _ _
  · rw [exec_swap m L t e, exec_swap m' L t e, g h0, g h1]; exact h.swap ht _ _ _ (ex_nat h2)
  · rw [exec_cas m L t e, exec_cas m' L t e, g h0, h.regs t ht x.b.toNat (by have := ex_nat h1; omega), h.regs t ht (x.b.toNat + 1) (by have := ex_nat h1; omega)]
    exact h.cas ht _ _ _ _ (ex_nat h2)
  · rw [exec_alloc m L t e, exec_alloc m' L t e]; exact h.alloc _ _
  · rw [exec_free m L t e, exec_free m' L t e, g h0]; exact h.free ht _
  · rw [exec_mark m L t e, exec_mark m' L t e]; exact h.mark _ _ _
  · rw [exec_need m L t e, exec_need m' L t e, g h0]; exact h.need _
  · rw [exec_fence m L t e, exec_fence m' L t e]; exact h.fence ht
  · rw [exec_force m L t e, exec_force m' L t e, h.mem.thr, h.mem.thr']; exact Sim.fenceFrom n h 0 (by omega)
  · rw [exec_stop m L t e, exec_stop m' L t e]; exact h
  · rw [exec_zero m L t e, exec_zero m' L t e, g h0]
    split
    · exact h.setPc _ _
    · exact h
  · rw [exec_same m L t e, exec_same m' L t e, g h0, g h1]
    split
    · exact h.setPc _ _
    · exact h
  · rw [exec_goto m L t e, exec_goto m' L t e]; exact h.setPc _ _
  · rw [exec_label m L t e, exec_label m' L t e]; exact h

theorem Sim.step {m m' : Mk} {cs : List (List Ins)} (h : Sim cs.length m m') (hR : Right cs) {t : Nat} {L : List Ins} (hL : cs[t]? = some L) : Sim cs.length (m.step L t) (m'.step L t) := by
  have ht : t < cs.length := (List.getElem?_eq_some_iff.1 hL).1
  unfold Mk.step
  rw [h.pcs t ht]
  cases hx : L[m'.pc t]? with
  | none => exact h
  | some x => exact (h.setPc t _).exec ((hR.right t L hL).2 _ x hx).1 ht
theorem Sim.turnO {m m' : Mk} {cs : List (List Ins)} (h : Sim cs.length m m') (hR : Right cs) (k : Int) : (m.turnO cs k).1 = (m'.turnO cs k).1 ∧ Sim cs.length (m.turnO cs k).2 (m'.turnO cs k).2 := by
  unfold Mk.turnO
  split
  · generalize k % (2 * (cs.length : Int)) = t
    unfold Mk.stepO
    by_cases h1 : 0 ≤ t ∧ t < cs.length
    · rw [if_pos h1, if_pos h1, h.pcs t.toNat (by omega)]
      split
      · exact ⟨rfl, h⟩
      · exact ⟨rfl, h.step hR (getD_some (by omega))⟩
    · rw [if_neg h1, if_neg h1]; exact ⟨rfl, h⟩
  · generalize k % (2 * (cs.length : Int)) - cs.length = t
    unfold Mk.drainO
    by_cases h1 : 0 ≤ t ∧ t < cs.length
    · rw [if_pos h1, if_pos h1, h.mem.waits t.toNat (by omega)]
      split
      · exact ⟨rfl, h⟩
      · exact ⟨rfl, h.drain1 (by omega)⟩
    · rw [if_neg h1, if_neg h1]; exact ⟨rfl, h⟩
theorem Sim.refl {n : Nat} {m : Mk} (h : m.mem.threads = n) : Sim n m m := ⟨⟨rfl, h, h, fun _ _ => ⟨rfl, rfl, fun _ _ _ => rfl⟩, fun _ _ => rfl⟩, fun _ _ _ _ => rfl, fun _ _ => rfl, rfl⟩
theorem Sim.trans {n : Nat} {a b c : Mk} (h : Sim n a b) (k : Sim n b c) : Sim n a c :=
  ⟨⟨h.mem.size.trans k.mem.size, h.mem.thr, k.mem.thr', fun d hd => by
      obtain ⟨a1, a2, a3⟩ := h.mem.cells d hd
      obtain ⟨b1, b2, b3⟩ := k.mem.cells d (by rw [← h.mem.size]; exact hd)
      exact ⟨a1.trans b1, a2.trans b2, fun ht i hi => (a3 ht i hi).trans (b3 (by rw [← a2]; exact ht) i hi)⟩,
    fun t ht => (h.mem.waits t ht).trans (k.mem.waits t ht)⟩, fun t ht r hr => (h.regs t ht r hr).trans (k.regs t ht r hr), fun t ht => (h.pcs t ht).trans (k.pcs t ht), h.faults.trans k.faults⟩
theorem size_exec (m : Mk) (L : List Ins) (t : Nat) (x : Ins) : (m.exec L t x).mem.ar.size = m.mem.ar.size := by
  unfold Mk.exec
  dsimp only
  split
  any_goals rfl
  · unfold Mk.load; split <;> rfl
  · unfold Mk.store
    split
    · exact (room_given m t).1
    · rfl
  · unfold Mk.swap
    split
    · exact (fence_given m t).1
    · rfl
  · unfold Mk.cas
    split
    · exact (fence_given m t).1
    · rfl
  · unfold Mk.alloc
    split <;> rfl
  · unfold Mk.free
    split
    · exact (fence_given m t).1
    · rfl
  · unfold Mk.mark; split <;> rfl
  · unfold Mk.need; split <;> rfl
  · exact (fence_given m t).1
  · exact (fenceFrom_given _ m 0).1
  · split <;> rfl
  · split <;> rfl
theorem size_turn (m : Mk) (cs : List (List Ins)) (k : Int) : (m.turnO cs k).2.mem.ar.size = m.mem.ar.size := by
  unfold Mk.turnO
  split
  · unfold Mk.stepO
    split
    · split
      · rfl
      · show (m.step _ _).mem.ar.size = _
        unfold Mk.step
        split
        · rfl
        · exact size_exec (m.setPc _ _) _ _ _
    · rfl
  · unfold Mk.drainO
    split
    · split
      · rfl
      · exact (drain1_given m _).1
    · rfl
theorem Rch.size {cs : List (List Ins)} {m0 m : Mk} {d : Nat} (h : Rch cs m0 d m) : m.mem.ar.size = m0.mem.ar.size := by
  induction h with
  | zero => rfl
  | turn n hr ih => rw [size_turn]; exact ih
theorem Rch.given {cs : List (List Ins)} {m0 m : Mk} {d : Nat} (h : Rch cs m0 d m) (h0 : GivenOk m0.mem.ar) : GivenOk m.mem.ar := by
  induction h with
  | zero => exact h0
  | turn n hr ih => exact ih.turnO cs n
end Go.Proofs.YtnnlkolhahjokaaGreatDoor

/- WlB -/
namespace Go.Proofs.YtnnlkolhahjokaaGreatDoor
open Go.RowKit

structure Srch (cs : List (List Ins)) (m0 : Mk) (mo : Int) (S : Sp) (R : List Mk) (c : Nat) : Prop where
  keys : S.E.map (·.1) = R.map (keyOf cs.length)
  ms : S.ms = R.drop c
  cnt : c ≤ R.length
  first : R[0]? = some m0 ∧ S.E[0]? = some (keyOf cs.length m0, (ByteArray.empty, 0))
  once : ∀ (i j : Nat) m m', R[i]? = some m → R[j]? = some m' → keyOf cs.length m = keyOf cs.length m' → i = j
  by' : ∀ (i : Nat), 0 < i → i < R.length → ∃ (j n : Nat) (m m' : Mk), j < i ∧ R[j]? = some m ∧ R[i]? = some m' ∧ S.E[i]? = some (keyOf cs.length m', (keyOf cs.length m, (n : Int))) ∧ m.turnO cs n = (0, m')
  good : ∀ m ∈ R, m.faults = 0
  rch : ∀ (i : Nat) m, R[i]? = some m → ∃ d, d ≤ i ∧ Rch cs m0 d m
  s : S.s = R.length
  le : (R.length : Int) ≤ mo
def Tried (cs : List (List Ins)) (R : List Mk) (m : Mk) (n : Nat) : Prop := (m.turnO cs n).1 ≠ 0 ∨ ((m.turnO cs n).2.faults = 0 ∧ ∃ m' ∈ R, keyOf cs.length m' = keyOf cs.length (m.turnO cs n).2)
theorem Tried.mono {cs : List (List Ins)} {R R' : List Mk} {m : Mk} {n : Nat} (h : Tried cs R m n) (hp : R <+: R') : Tried cs R' m n := by
  rcases h with h | ⟨h1, m', h2, h3⟩
  · exact .inl h
  · exact .inr ⟨h1, m', hp.subset h2, h3⟩
def Closed (cs : List (List Ins)) (R : List Mk) (c N : Nat) : Prop := ∀ (j : Nat) m, j < c → R[j]? = some m → ∀ n, n < N → Tried cs R m n
theorem pre_get {R R' : List Mk} (hp : R <+: R') {j : Nat} (hj : j < R.length) : R'[j]? = R[j]? := by
  obtain ⟨T, rfl⟩ := hp
  exact List.getElem?_append_left hj
theorem Closed.mono {cs : List (List Ins)} {R R' : List Mk} {c N : Nat} (h : Closed cs R c N) (hp : R <+: R') (hc : c ≤ R.length) : Closed cs R' c N := fun j m hj hm n hn => by
  rw [pre_get hp (by omega)] at hm
  exact (h j m hj hm n hn).mono hp

theorem Srch.len {cs : List (List Ins)} {m0 : Mk} {mo : Int} {S : Sp} {R : List Mk} {c : Nat} (h : Srch cs m0 mo S R c) : S.E.length = R.length := by
  have := congrArg List.length h.keys
  simpa using this
theorem Srch.key {cs : List (List Ins)} {m0 : Mk} {mo : Int} {S : Sp} {R : List Mk} {c : Nat} (h : Srch cs m0 mo S R c) {i : Nat} {x : ByteArray × ByteArray × Int} (hx : S.E[i]? = some x) : ∃ m, R[i]? = some m ∧ x.1 = keyOf cs.length m := by
  have h1 : (S.E.map (·.1))[i]? = some x.1 := by rw [List.getElem?_map, hx]; rfl
  rw [h.keys, List.getElem?_map] at h1
  cases hm : R[i]? with
  | none => rw [hm] at h1; cases h1
  | some m => rw [hm] at h1; exact ⟨m, rfl, (Option.some.inj h1).symm⟩
theorem keyIn_srch {cs : List (List Ins)} {m0 : Mk} {mo : Int} {S : Sp} {R : List Mk} {c : Nat} (h : Srch cs m0 mo S R c) (k : ByteArray) : keyIn S.E k = true ↔ ∃ m ∈ R, keyOf cs.length m = k := by
  unfold keyIn
  rw [List.any_eq_true]
  constructor
  · rintro ⟨x, hx, he⟩
    obtain ⟨i, hi⟩ := List.mem_iff_getElem?.1 hx
    obtain ⟨m, hm, hk⟩ := h.key hi
    refine ⟨m, List.mem_of_getElem? hm, ?_⟩
    rw [← hk]
    have := eq_of_beq he
    rw [toList_bl, toList_bl] at this
    exact bl_inj this
  · rintro ⟨m, hm, rfl⟩
    have h1 : keyOf cs.length m ∈ S.E.map (·.1) := by rw [h.keys]; exact List.mem_map_of_mem hm
    obtain ⟨x, hx, he⟩ := List.mem_map.1 h1
    exact ⟨x, hx, by rw [he]; exact beq_self_eq_true _⟩

theorem Srch.add {cs : List (List Ins)} {m0 : Mk} {mo : Int} {S : Sp} {R : List Mk} {c : Nat} (h : Srch cs m0 mo S R c) {j n : Nat} {m m' : Mk} (hm : R[j]? = some m) (ht : m.turnO cs n = (0, m')) (hf : m'.faults = 0) (hin : keyIn S.E (keyOf cs.length m') = false) (hmo : ¬ (S.E.length : Int) = mo) :
    Srch cs m0 mo ⟨S.E ++ [(keyOf cs.length m', (keyOf cs.length m, (n : Int)))], S.ms ++ [m'], S.s + 1, endN S.e (endTo cs m' cs.length), S.L ++ [m']⟩ (R ++ [m']) c := by
  have hnew : ∀ x ∈ R, keyOf cs.length x ≠ keyOf cs.length m' := fun x hx e => by
    rw [(keyIn_srch h _).2 ⟨x, hx, e⟩] at hin; cases hin
  have hjl : j < R.length := (List.getElem?_eq_some_iff.1 hm).1
  have hlen := h.len
  refine ⟨?_, ?_, ?_, ⟨?_, ?_⟩, ?_, ?_, ?_, ?_, ?_, ?_⟩
  · rw [List.map_append, List.map_append, h.keys]; rfl
  · show S.ms ++ [m'] = (R ++ [m']).drop c
    rw [List.drop_append_of_le_length h.cnt, h.ms]
  · have := h.cnt
    rw [List.length_append]; omega
  · rw [List.getElem?_append_left (by omega)]; exact h.first.1
  · show (S.E ++ _)[0]? = _
    rw [List.getElem?_append_left (by omega)]; exact h.first.2
  · intro i i' x x' hx hx' he
    rw [List.getElem?_append] at hx hx'
    split at hx
    · split at hx'
      · exact h.once i i' x x' hx hx' he
      · rename_i h2
        cases hd : i' - R.length with
        | zero =>
          rw [hd] at hx'
          obtain rfl : m' = x' := by simpa using hx'
          exact absurd he (hnew x (List.mem_of_getElem? hx))
        | succ k => rw [hd] at hx'; simp at hx'
    · rename_i h1
      cases hd : i - R.length with
      | succ k => rw [hd] at hx; simp at hx
      | zero =>
        rw [hd] at hx
        obtain rfl : m' = x := by simpa using hx
        split at hx'
        · exact absurd he.symm (hnew x' (List.mem_of_getElem? hx'))
        · cases hd' : i' - R.length with
          | zero => omega
          | succ k => rw [hd'] at hx'; simp at hx'
  · intro i h0 hi
    rw [List.length_append] at hi
    have hi : i < R.length + 1 := hi
    by_cases hlt : i < R.length
    · obtain ⟨j', n', x, x', g1, g2, g3, g4, g5⟩ := h.by' i h0 hlt
      refine ⟨j', n', x, x', g1, ?_, ?_, ?_, g5⟩
      · rw [List.getElem?_append_left (by omega)]; exact g2
      · rw [List.getElem?_append_left hlt]; exact g3
      · show (S.E ++ _)[i]? = _
        rw [List.getElem?_append_left (by omega)]; exact g4
    · obtain rfl : i = R.length := by omega
      refine ⟨j, n, m, m', hjl, ?_, ?_, ?_, ht⟩
      · rw [List.getElem?_append_left hjl]; exact hm
      · simp
      · show (S.E ++ _)[R.length]? = _
        rw [← hlen]; simp
  · intro x hx
    rcases List.mem_append.1 hx with hx | hx
    · exact h.good x hx
    · obtain rfl : x = m' := by simpa using hx
      exact hf
  · intro i x hx
    rw [List.getElem?_append] at hx
    split at hx
    · exact h.rch i x hx
    · rename_i h1
      cases hd : i - R.length with
      | succ k => rw [hd] at hx; simp at hx
      | zero =>
        rw [hd] at hx
        obtain rfl : m' = x := by simpa using hx
        obtain ⟨d, h2, h3⟩ := h.rch j m hm
        refine ⟨d + 1, by omega, ?_⟩
        have := h3.turn n
        rw [ht] at this
        exact this
  · show S.s + 1 = ((R ++ [m']).length : Int)
    rw [h.s, List.length_append]; simp
  · have h1 := h.le
    rw [List.length_append]
    rw [hlen] at hmo
    show ((R.length + 1 : Nat) : Int) ≤ mo
    omega

end Go.Proofs.YtnnlkolhahjokaaGreatDoor

/- SpL -/
namespace Go.Proofs.YtnnlkolhahjokaaGreatDoor
open Go.RowKit

def labelAtB (l : List Ins) (to : List UInt8) : Option Nat := l.findIdx? (fun x => (bl x.op == [108, 97, 98, 101, 108]) && (bl x.to == to))
theorem labelAt_B (l : List Ins) (to : ByteArray) : labelAt l to = match labelAtB l (bl to) with
    | some j => (j : Int)
    | none => -1 := by
  unfold labelAt labelAtB
  rw [show (fun x => setsLabel x to) = (fun x => (bl x.op == [108, 97, 98, 101, 108]) && (bl x.to == bl to)) from funext fun x => by unfold setsLabel; rw [toList_bl, toList_bl, toList_bl]]
  rfl
def nameB (l : List UInt8) : Bool := decide (1 ≤ l.length) && (decide (l.length ≤ 12) && (List.range l.length).all fun j => nameOk j (l.getD j 0).toNat)
theorem nameB_is {s : ByteArray} (h : nameB (bl s) = true) : isName s := by
  unfold nameB at h
  simp only [Bool.and_eq_true, decide_eq_true_eq, List.all_eq_true, List.mem_range] at h
  obtain ⟨h1, h2, h3⟩ := h
  have hz : s.size = (bl s).length := size_bl s
  refine ⟨by omega, by omega, fun j hj => ?_⟩
  have := h3 j (by omega)
  rw [List.getD_eq_getElem?_getD, List.getElem?_eq_getElem (by omega)] at this
  exact this
def shapeGood (x : Ins) (l : List UInt8) : Bool :=
  ((lab ⟨l.toArray⟩ l.length || (bl x.to == [])) && (!(lab ⟨l.toArray⟩ l.length) || nameB (bl x.to))) &&
  (List.range 3).all fun k => if k < cnt ⟨l.toArray⟩ l.length then decide (0 ≤ x.n k ∧ x.n k < mostOf (byteAt ⟨l.toArray⟩ k)) else decide (x.n k = 0)
def insGood (L : List Ins) (i : Nat) (x : Ins) : Bool := match shape (bl x.op) with
  | none => false
  | some l => shapeGood x l && ((!(bl x.op == [108, 97, 98, 101, 108]) || labelAtB L (bl x.to) == some i) && ((bl x.to == []) || (labelAtB L (bl x.to)).isSome))
theorem insGood_is {L : List Ins} {i : Nat} {x : Ins} (h : insGood L i x = true) : insFault L i x = 0 := by
  unfold insGood at h
  cases hs : shape (bl x.op) with
  | none => rw [hs] at h; cases h
  | some l =>
    rw [hs] at h
    simp only [Bool.and_eq_true] at h
    obtain ⟨h1, h2, h3⟩ := h
    unfold shapeGood at h1
    simp only [Bool.and_eq_true, List.all_eq_true, List.mem_range] at h1
    obtain ⟨⟨g1, g2⟩, g3⟩ := h1
    have hsz : (⟨l.toArray⟩ : ByteArray).size = l.length := by simp [ByteArray.size]
    have he : insErr x = 0 := by
      unfold insErr
      rw [toList_bl, hs]
      show insBad x ⟨l.toArray⟩ = 0
      unfold insBad
      rw [hsz, if_neg, if_neg, if_neg, if_neg]
      · rintro ⟨e1, e2⟩
        rw [e1] at g2
        exact e2 (nameB_is (by simpa using g2))
      · rintro ⟨k, hk, e⟩
        have := cnt_le ⟨l.toArray⟩ l.length
        have hl := shape_le hs
        have g := g3 k (by omega)
        rw [if_pos hk] at g
        exact e (by simpa using g)
      · rintro ⟨k, hk, hk3, e⟩
        have g := g3 k hk3
        rw [if_neg (by omega)] at g
        exact e (by simpa using g)
      · rintro ⟨e1, e2⟩
        rw [e1, Bool.false_or] at g1
        rw [toList_bl] at e2
        exact e2 (by simpa using g1)
    unfold insFault
    rw [if_neg (by rw [he]; simp), if_neg, if_neg]
    · rintro ⟨e1, e2⟩
      rw [toList_bl] at e1
      rw [e1, Bool.false_or] at h3
      rw [labelAt_B] at e2
      cases hb : labelAtB L (bl x.to) with
      | none => rw [hb] at h3; cases h3
      | some j => rw [hb] at e2; exact absurd e2 (by simp)
    · rintro ⟨e1, e2⟩
      rw [toList_bl] at e1
      rw [e1, Bool.not_true, Bool.false_or] at h2
      rw [labelAt_B, show labelAtB L (bl x.to) = some i by simpa using h2] at e2
      exact e2 rfl
def codeGood (L : List Ins) : Bool := decide (L.length ≤ 2000) && (List.range L.length).all fun i => match L[i]? with
  | none => true
  | some x => insGood L i x
theorem faultFrom_good {L : List Ins} : ∀ (r : List Ins) (j : Nat), (∀ (k : Nat) x, r[k]? = some x → insFault L (j + k) x = 0) → faultFrom L j r = (0, -1)
  | [], _, _ => rfl
  | y :: r, j, h => by
    unfold faultFrom
    rw [if_pos (by simpa using h 0 y rfl)]
    exact faultFrom_good r (j + 1) (fun k x hx => by rw [show j + 1 + k = j + (k + 1) by omega]; exact h (k + 1) x (by simpa using hx))
theorem codeGood_is {L : List Ins} (h : codeGood L = true) : codeFault L = (0, -1) := by
  unfold codeGood at h
  simp only [Bool.and_eq_true, decide_eq_true_eq, List.all_eq_true, List.mem_range] at h
  obtain ⟨h1, h2⟩ := h
  unfold codeFault
  rw [if_neg (by omega)]
  refine faultFrom_good L 0 fun k x hx => insGood_is ?_
  have := h2 k (List.getElem?_eq_some_iff.1 hx).1
  rw [hx] at this
  rw [Nat.zero_add]; exact this
end Go.Proofs.YtnnlkolhahjokaaGreatDoor
