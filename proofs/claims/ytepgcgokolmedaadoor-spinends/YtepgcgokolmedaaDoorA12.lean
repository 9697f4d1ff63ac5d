import Derived.Test.YtepgcgokolmedaaDoorA11
import Derived.Maps.Own
import Derived.Maps.OwnOps
import Derived.Maps.OwnSet
import Derived.StringKeys
import Derived.Lib.LaidTab
import Derived.Test.YtepgcgokolmedaaDoorA10
import Derived.Test.YtepgcgokolmedaaDoorA08
import Derived.Laws.Rows

/- ProgE -/
namespace Go.Proofs.YtepgcgokolmedaaDoor
open Go.RowKit Go.Extern.Stop Go.Stop Go.Extern Go.Maps Go.WideMaps

def xid : Nat → Nat
  | 0 => 1 | 1 => 0 | 2 => 2 | 3 => 3 | _ => 4
abbrev xerr (a : Addr) : Value := .iface 141 (.pointer (some a))
theorem cell_block {w w' : World} (hb : ∀ k, k < w.heap.size → w'.heap[k]? = w.heap[k]?) {p : Addr} {v : Value} (h : w.cell? p = some v) : w'.cell? p = some v := by
  rw [World.cell?_of_block (w := w) (hb _ (World.block_lt_of_cell? w _ h))]; exact h
structure EnvE (a : Nat → Addr) (w : World) : Prop where
  err : ∀ i, 0 < i ∧ i < 5 → w.cell? ⟨xid i, 0, none⟩ = some (xerr (a i))
theorem EnvE.block {a : Nat → Addr} {w w' : World} (h : EnvE a w) (hb : ∀ k, k < w.heap.size → w'.heap[k]? = w.heap[k]?) : EnvE a w' := ⟨fun i hi => cell_block hb (h.err i hi)⟩
theorem EnvE.below {a : Nat → Addr} {w w' : World} (h : EnvE a w) (hb : Below w.heap.size w w') : EnvE a w' := h.block hb.block
end Go.Proofs.YtepgcgokolmedaaDoor

/- MkA -/
namespace Go.Proofs.YtepgcgokolmedaaDoor
open Go.RowKit Go.Maps Go.WideMaps

structure Pg (a : Nat → Addr) (cs : List (List Ins)) (pb pc : Nat) (W : World) : Prop where
  env : Env a W
  cap : cs.length ≤ pc
  code : ∀ (t : Nat) L, cs[t]? = some L → ∃ ad cap lb, W.cell? ⟨pb, t * 2, none⟩ = some (.slice ad L.length cap) ∧ L.length ≤ cap ∧ W.cell? ⟨pb, t * 2 + 1, none⟩ = some (.map (some lb)) ∧ insAt ad L W ∧
    W.ownsMap Tryd.prog 9 (plainElem Tryd.prog 3) lb L.length (setD L L.length)
  right : ∀ (t : Nat) L, cs[t]? = some L → L.length ≤ 2000 ∧ ∀ (i : Nat) x, L[i]? = some x → InsOk L x ∧ x.to.size ≤ maxLen
  few : cs.length ≤ 6

theorem ownsMap_below {H : Type} {P : Program} {k : TypeId} {R : Value → Option (DataW H × List MemPlace)} {w w' : World} {b n : Nat} {D : DataW H} (h : w.ownsMap P k R b n D) (hb : Below w.heap.size w w') : w'.ownsMap P k R b n D := by
  have hl := h.lt
  obtain ⟨es, clock, h1, F, hs, hD⟩ := h
  exact ⟨es, clock, by rw [hb.block b hl]; exact h1, F, hs, hD⟩

theorem Pg.below {a : Nat → Addr} {cs : List (List Ins)} {pb pc : Nat} {W w : World} (h : Pg a cs pb pc W) (hb : Below W.heap.size W w) : Pg a cs pb pc w where
  env := h.env.below hb.block
  cap := h.cap
  code t L ht := by
    obtain ⟨ad, cap, lb, h1, h2, h3, h4, h5⟩ := h.code t L ht
    exact ⟨ad, cap, lb, keep_cell hb h1, h2, keep_cell hb h3, insAt_below h4 hb, ownsMap_below h5 hb⟩
  right := h.right
  few := h.few

structure PgB (a : Nat → Addr) (cs : List (List Ins)) (pb pc B : Nat) (w : World) : Prop where
  ex : ∃ W, Pg a cs pb pc W ∧ W.heap.size = B ∧ Below B W w
theorem PgB.envB {a : Nat → Addr} {cs : List (List Ins)} {pb pc B : Nat} {w : World} (h : PgB a cs pb pc B w) : EnvB a B w := by
  obtain ⟨W, h1, h2, h3⟩ := h.ex
  exact ⟨W, h1.env.toM, h2, h3⟩
theorem PgB.size {a : Nat → Addr} {cs : List (List Ins)} {pb pc B : Nat} {w : World} (h : PgB a cs pb pc B w) : B ≤ w.heap.size := h.envB.size
theorem PgB.turns {S : Nat → Nat → Prop} {a : Nat → Addr} {cs : List (List Ins)} {pb pc B : Nat} {w w' : World} (h : PgB a cs pb pc B w) (t : Turns S w w') (hS : ∀ k o, S k o → B ≤ k) : PgB a cs pb pc B w' := by
  obtain ⟨W, h1, rfl, h3⟩ := h.ex
  exact ⟨W, h1, rfl, h3.trans (t.below h3.size (fun k o hk hs => by have := hS k o hs; omega))⟩

structure MkPl where
  B : Nat
  b : Nat
  pb : Nat
  pc : Nat
  mv : Value
def MkPl.marked (p : MkPl) (v : Value) : MkPl := { p with mv := v }
def MkPl.fp (p : MkPl) (k : Nat) : Prop := k = p.b ∨ p.mv.ownBlock = some k

end Go.Proofs.YtepgcgokolmedaaDoor

/- MkE -/
namespace Go.Proofs.YtepgcgokolmedaaDoor
open Go.RowKit

theorem exec_const (m : Mk) (L : List Ins) (t : Nat) {x : Ins} (h : x.op = ⟨#[99, 111, 110, 115, 116]⟩) : m.exec L t x = m.setReg t x.a.toNat x.b := by
  unfold Mk.exec
  rw [h, toList_bl]
  rfl
theorem exec_move (m : Mk) (L : List Ins) (t : Nat) {x : Ins} (h : x.op = ⟨#[109, 111, 118, 101]⟩) : m.exec L t x = m.setReg t x.a.toNat (m.regs t x.b.toNat) := by
  unfold Mk.exec
  rw [h, toList_bl]
  rfl
theorem exec_add (m : Mk) (L : List Ins) (t : Nat) {x : Ins} (h : x.op = ⟨#[97, 100, 100]⟩) : m.exec L t x = m.setReg t x.a.toNat ((m.regs t x.b.toNat + m.regs t x.c.toNat) % 4294967296) := by
  unfold Mk.exec
  rw [h, toList_bl]
  rfl
theorem exec_sub (m : Mk) (L : List Ins) (t : Nat) {x : Ins} (h : x.op = ⟨#[115, 117, 98]⟩) : m.exec L t x = m.setReg t x.a.toNat ((m.regs t x.b.toNat - m.regs t x.c.toNat) % 4294967296) := by
  unfold Mk.exec
  rw [h, toList_bl]
  rfl
theorem exec_and (m : Mk) (L : List Ins) (t : Nat) {x : Ins} (h : x.op = ⟨#[97, 110, 100]⟩) : m.exec L t x = m.setReg t x.a.toNat (andW (m.regs t x.b.toNat) (m.regs t x.c.toNat)) := by
  unfold Mk.exec
  rw [h, toList_bl]
  rfl
theorem exec_xor (m : Mk) (L : List Ins) (t : Nat) {x : Ins} (h : x.op = ⟨#[120, 111, 114]⟩) : m.exec L t x = m.setReg t x.a.toNat (xorW (m.regs t x.b.toNat) (m.regs t x.c.toNat)) := by
  unfold Mk.exec
  rw [h, toList_bl]
  rfl
theorem exec_load (m : Mk) (L : List Ins) (t : Nat) {x : Ins} (h : x.op = ⟨#[108, 111, 97, 100]⟩) : m.exec L t x = m.load t x.a.toNat (m.regs t x.b.toNat) x.c := by
  unfold Mk.exec
  rw [h, toList_bl]
  rfl
theorem exec_store (m : Mk) (L : List Ins) (t : Nat) {x : Ins} (h : x.op = ⟨#[115, 116, 111, 114, 101]⟩) : m.exec L t x = m.store t (m.regs t x.a.toNat) x.c (m.regs t x.b.toNat) := by
  unfold Mk.exec
  rw [h, toList_bl]
  rfl
theorem exec_swap (m : Mk) (L : List Ins) (t : Nat) {x : Ins} (h : x.op = ⟨#[115, 119, 97, 112]⟩) : m.exec L t x = m.swap t x.a.toNat (m.regs t x.b.toNat) x.c (m.regs t x.a.toNat) := by
  unfold Mk.exec
  rw [h, toList_bl]
  rfl
theorem exec_cas (m : Mk) (L : List Ins) (t : Nat) {x : Ins} (h : x.op = ⟨#[99, 97, 115]⟩) : m.exec L t x = m.cas t x.b.toNat (m.regs t x.a.toNat) x.c (m.regs t x.b.toNat) (m.regs t (x.b.toNat + 1)) := by
  unfold Mk.exec
  rw [h, toList_bl]
  rfl
theorem exec_alloc (m : Mk) (L : List Ins) (t : Nat) {x : Ins} (h : x.op = ⟨#[97, 108, 108, 111, 99]⟩) : m.exec L t x = m.alloc t x.a.toNat := by
  unfold Mk.exec
  rw [h, toList_bl]
  rfl
theorem exec_free (m : Mk) (L : List Ins) (t : Nat) {x : Ins} (h : x.op = ⟨#[102, 114, 101, 101]⟩) : m.exec L t x = m.free t (m.regs t x.a.toNat) := by
  unfold Mk.exec
  rw [h, toList_bl]
  rfl
theorem exec_mark (m : Mk) (L : List Ins) (t : Nat) {x : Ins} (h : x.op = ⟨#[109, 97, 114, 107]⟩) : m.exec L t x = m.mark t (m.regs t x.a.toNat) := by
  unfold Mk.exec
  rw [h, toList_bl]
  rfl
theorem exec_need (m : Mk) (L : List Ins) (t : Nat) {x : Ins} (h : x.op = ⟨#[110, 101, 101, 100]⟩) : m.exec L t x = m.need (m.regs t x.a.toNat) := by
  unfold Mk.exec
  rw [h, toList_bl]
  rfl
theorem exec_fence (m : Mk) (L : List Ins) (t : Nat) {x : Ins} (h : x.op = ⟨#[102, 101, 110, 99, 101]⟩) : m.exec L t x = m.fence t := by
  unfold Mk.exec
  rw [h, toList_bl]
  rfl
theorem exec_force (m : Mk) (L : List Ins) (t : Nat) {x : Ins} (h : x.op = ⟨#[102, 111, 114, 99, 101]⟩) : m.exec L t x = m.fenceFrom 0 m.mem.threads := by
  unfold Mk.exec
  rw [h, toList_bl]
  rfl
theorem exec_stop (m : Mk) (L : List Ins) (t : Nat) {x : Ins} (h : x.op = ⟨#[115, 116, 111, 112]⟩) : m.exec L t x = m := by
  unfold Mk.exec
  rw [h, toList_bl]
  rfl
theorem exec_zero (m : Mk) (L : List Ins) (t : Nat) {x : Ins} (h : x.op = ⟨#[122, 101, 114, 111]⟩) : m.exec L t x = if m.regs t x.a.toNat = 0 then m.jump t L x.to else m := by
  unfold Mk.exec
  rw [h, toList_bl]
  rfl
theorem exec_same (m : Mk) (L : List Ins) (t : Nat) {x : Ins} (h : x.op = ⟨#[115, 97, 109, 101]⟩) : m.exec L t x = if m.regs t x.a.toNat = m.regs t x.b.toNat then m.jump t L x.to else m := by
  unfold Mk.exec
  rw [h, toList_bl]
  rfl
theorem exec_goto (m : Mk) (L : List Ins) (t : Nat) {x : Ins} (h : x.op = ⟨#[103, 111, 116, 111]⟩) : m.exec L t x = m.jump t L x.to := by
  unfold Mk.exec
  rw [h, toList_bl]
  rfl
theorem exec_label (m : Mk) (L : List Ins) (t : Nat) {x : Ins} (h : x.op = ⟨#[108, 97, 98, 101, 108]⟩) : m.exec L t x = m := by
  unfold Mk.exec
  rw [h, toList_bl]
  rfl

theorem MkOk.exec {N K : Nat} {m : Mk} (h0 : MkOk N K m) {L : List Ins} {t : Nat} {x : Ins} (hx : InsOk L x) (ht : t < N) (hL : L.length ≤ 2000) (hK : K ≤ 60000000) : MkOk N (K + 1) (m.exec L t x) := by
  have h := h0.in
  have hN : N ≤ 6 := by have := h.thr; have := h.mem.thr; omega
  have k1 : K ≤ K + 1 := Nat.le_succ _
  rcases kinds hx with ⟨e, ⟨i0, l0, g0⟩, hv⟩ | ⟨e, ⟨i0, l0, g0⟩, ⟨i1, l1, g1⟩⟩ | ⟨e, ⟨i0, l0, g0⟩, ⟨i1, l1, g1⟩, ⟨i2, l2, g2⟩⟩ | ⟨e, ⟨i0, l0, g0⟩, ⟨i1, l1, g1⟩, ⟨i2, l2, g2⟩⟩ | ⟨e, ⟨i0, l0, g0⟩, ⟨i1, l1, g1⟩, ⟨i2, l2, g2⟩⟩ | ⟨e, ⟨i0, l0, g0⟩, ⟨i1, l1, g1⟩, ⟨i2, l2, g2⟩⟩ | ⟨e, ⟨i0, l0, g0⟩, ⟨i1, l1, g1⟩, ⟨i2, l2, g2⟩⟩ | ⟨e, ⟨i0, l0, g0⟩, ⟨i1, l1, g1⟩, ⟨i2, l2, g2⟩⟩ | ⟨e, ⟨i0, l0, g0⟩, ⟨i1, l1, g1⟩, ⟨i2, l2, g2⟩⟩ | ⟨e, ⟨i0, l0, g0⟩, ⟨i1, l1, g1⟩, ⟨i2, l2, g2⟩⟩ | ⟨e, ⟨i0, l0, g0⟩⟩ | ⟨e, ⟨i0, l0, g0⟩⟩ | ⟨e, ⟨i0, l0, g0⟩⟩ | ⟨e, ⟨i0, l0, g0⟩⟩ | e | e | e | ⟨e, ⟨i0, l0, g0⟩, -⟩ | ⟨e, ⟨i0, l0, g0⟩, ⟨i1, l1, g1⟩, -⟩ | ⟨e, -⟩ | ⟨e, -⟩
  · rw [exec_const m L t e]; exact (show MkIn N (K + 1) (64 * K) _ from (h.mono (Nat.le_succ _) (Nat.le_refl _)).setReg _ _ hv).out (Nat.le_refl _) (by omega)
  · rw [exec_move m L t e]; exact (show MkIn N (K + 1) (64 * K) _ from (h.mono (Nat.le_succ _) (Nat.le_refl _)).setReg _ _ (h.regs _ _)).out (Nat.le_refl _) (by omega)
  · rw [exec_add m L t e]; exact (show MkIn N (K + 1) (64 * K) _ from (h.mono (Nat.le_succ _) (Nat.le_refl _)).setReg _ _ (Wd.mod _)).out (Nat.le_refl _) (by omega)
  · rw [exec_sub m L t e]; exact (show MkIn N (K + 1) (64 * K) _ from (h.mono (Nat.le_succ _) (Nat.le_refl _)).setReg _ _ (Wd.mod _)).out (Nat.le_refl _) (by omega)
  · rw [exec_and m L t e]; exact (show MkIn N (K + 1) (64 * K) _ from (h.mono (Nat.le_succ _) (Nat.le_refl _)).setReg _ _ ((h.regs _ _).and (h.regs _ _))).out (Nat.le_refl _) (by omega)
  · rw [exec_xor m L t e]; exact (show MkIn N (K + 1) (64 * K) _ from (h.mono (Nat.le_succ _) (Nat.le_refl _)).setReg _ _ ((h.regs _ _).xor (h.regs _ _))).out (Nat.le_refl _) (by omega)
  · rw [exec_load m L t e]; exact (h.load ht _ _ _).out k1 (by omega)
  · rw [exec_store m L t e]; exact (h.store ht _ (by omega) (h.regs _ _)).out k1 (by omega)
  · rw [exec_swap m L t e]; exact (h.swap ht _ _ _ (h.regs _ _)).out k1 (by omega)
  · rw [exec_cas m L t e]; exact (h.cas ht _ _ _ _ (h.regs _ _)).out k1 (by omega)
  · rw [exec_alloc m L t e]; exact (h.alloc t _ hK).out (Nat.le_refl _) (by omega)
  · rw [exec_free m L t e]; exact (h.free ht _).out k1 (by omega)
  · rw [exec_mark m L t e]; exact (h.mark t _).out k1 (by omega)
  · rw [exec_need m L t e]; exact (h.need _).out k1 (by omega)
  · rw [exec_fence m L t e]; exact (h.fence ht).out k1 (by omega)
  · rw [exec_force m L t e]; exact (MkIn.fenceFrom m.mem.threads (t := 0) h (by have := h.thr; omega)).out k1 (by have := h.thr; omega)
  · rw [exec_stop m L t e]; exact h.out k1 (by omega)
  · rw [exec_zero m L t e]
    split
    · exact (h.jump t x.to hL).out k1 (by omega)
    · exact h.out k1 (by omega)
  · rw [exec_same m L t e]
    split
    · exact (h.jump t x.to hL).out k1 (by omega)
    · exact h.out k1 (by omega)
  · rw [exec_goto m L t e]; exact (h.jump t x.to hL).out k1 (by omega)
  · rw [exec_label m L t e]; exact h.out k1 (by omega)
end Go.Proofs.YtepgcgokolmedaaDoor
