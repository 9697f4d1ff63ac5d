import Derived.Test.YtjmdibkeflefpaaDoorA08
import Derived.Test.YtjmdibkeflefpaaDoorA01
import Derived.WalkKit
import Derived.Test.YtjmdibkeflefpaaDoorA09
import Derived.Laws.Rows
import Derived.Test.YtjmdibkeflefpaaDoorA10
import Derived.Maps.Own
import Derived.Maps.OwnOps
import Derived.Maps.OwnSet
import Derived.StringKeys
import Derived.Lib.LaidTab

/- CodeI -/
namespace Go.Proofs.YtjmdibkeflefpaaDoor
open Go.RowKit Go.Extern.Stop Go.Stop Go.Extern

def insAt (ad : Option Addr) (l : List Ins) (w : World) : Prop := ∀ i x, l[i]? = some x → ∃ b off, ad = some ⟨b, off, none⟩ ∧
  w.cell? ⟨b, off + i * 5, none⟩ = some (.string x.op) ∧ w.cell? ⟨b, off + i * 5 + 1, none⟩ = some (.int .i64 x.a) ∧ w.cell? ⟨b, off + i * 5 + 2, none⟩ = some (.int .i64 x.b) ∧
  w.cell? ⟨b, off + i * 5 + 3, none⟩ = some (.int .i64 x.c) ∧ w.cell? ⟨b, off + i * 5 + 4, none⟩ = some (.string x.to)

theorem insAt_below {ad : Option Addr} {l : List Ins} {w w' : World} (h : insAt ad l w) (k : Below w.heap.size w w') : insAt ad l w' := fun i x hx => by
  obtain ⟨b, off, e, h0, h1, h2, h3, h4⟩ := h i x hx
  exact ⟨b, off, e, keep_cell k h0, keep_cell k h1, keep_cell k h2, keep_cell k h3, keep_cell k h4⟩
end Go.Proofs.YtjmdibkeflefpaaDoor

/- MkA -/
namespace Go.Proofs.YtjmdibkeflefpaaDoor
open Go.RowKit Go.Maps Go.WideMaps

structure MkPl where
  B : Nat
  b : Nat
  pb : Nat
  pc : Nat
  mv : Value
def MkPl.marked (p : MkPl) (v : Value) : MkPl := { p with mv := v }
def MkPl.fp (p : MkPl) (k : Nat) : Prop := k = p.b ∨ p.mv.ownBlock = some k

end Go.Proofs.YtjmdibkeflefpaaDoor

/- MkE -/
namespace Go.Proofs.YtjmdibkeflefpaaDoor
open Go.RowKit

theorem exec_const (m : Mk) (L : List Ins) (t : Nat) {x : Ins} (h : x.op = ⟨#[99, 111, 110, 115, 116]⟩) : m.exec L t x = m.setReg t x.a.toNat x.b := by
  unfold Mk.exec
  rw [h, toList_bl]
  rfl
theorem exec_move (m : Mk) (L : List Ins) (t : Nat) {x : Ins} (h : x.op = ⟨#[109, 111, 118, 101]⟩) : m.exec L t x = m.setReg t x.a.toNat (m.regs t x.b.toNat) := by
  unfold Mk.exec
  rw [h, toList_bl]
  rfl
theorem exec_add (m : Mk) (L : List Ins) (t : Nat) {x : Ins} (h : x.op = ⟨#[97, 100, 100]⟩) : m.exec L t x = m.setReg t x.a.toNat ((m.regs t x.b.toNat + m.regs t x.c.toNat) % 4294967296) := by
  unfold Mk.exec
  rw [h, toList_bl]
  rfl
theorem exec_sub (m : Mk) (L : List Ins) (t : Nat) {x : Ins} (h : x.op = ⟨#[115, 117, 98]⟩) : m.exec L t x = m.setReg t x.a.toNat ((m.regs t x.b.toNat - m.regs t x.c.toNat) % 4294967296) := by
  unfold Mk.exec
  rw [h, toList_bl]
  rfl
theorem exec_and (m : Mk) (L : List Ins) (t : Nat) {x : Ins} (h : x.op = ⟨#[97, 110, 100]⟩) : m.exec L t x = m.setReg t x.a.toNat (andW (m.regs t x.b.toNat) (m.regs t x.c.toNat)) := by
  unfold Mk.exec
  rw [h, toList_bl]
  rfl
theorem exec_xor (m : Mk) (L : List Ins) (t : Nat) {x : Ins} (h : x.op = ⟨#[120, 111, 114]⟩) : m.exec L t x = m.setReg t x.a.toNat (xorW (m.regs t x.b.toNat) (m.regs t x.c.toNat)) := by
  unfold Mk.exec
  rw [h, toList_bl]
  rfl
theorem exec_load (m : Mk) (L : List Ins) (t : Nat) {x : Ins} (h : x.op = ⟨#[108, 111, 97, 100]⟩) : m.exec L t x = m.load t x.a.toNat (m.regs t x.b.toNat) x.c := by
  unfold Mk.exec
  rw [h, toList_bl]
  rfl
theorem exec_store (m : Mk) (L : List Ins) (t : Nat) {x : Ins} (h : x.op = ⟨#[115, 116, 111, 114, 101]⟩) : m.exec L t x = m.store t (m.regs t x.a.toNat) x.c (m.regs t x.b.toNat) := by
  unfold Mk.exec
  rw [h, toList_bl]
  rfl
theorem exec_swap (m : Mk) (L : List Ins) (t : Nat) {x : Ins} (h : x.op = ⟨#[115, 119, 97, 112]⟩) : m.exec L t x = m.swap t x.a.toNat (m.regs t x.b.toNat) x.c (m.regs t x.a.toNat) := by
  unfold Mk.exec
  rw [h, toList_bl]
  rfl
theorem exec_cas (m : Mk) (L : List Ins) (t : Nat) {x : Ins} (h : x.op = ⟨#[99, 97, 115]⟩) : m.exec L t x = m.cas t x.b.toNat (m.regs t x.a.toNat) x.c (m.regs t x.b.toNat) (m.regs t (x.b.toNat + 1)) := by
  unfold Mk.exec
  rw [h, toList_bl]
  rfl
theorem exec_alloc (m : Mk) (L : List Ins) (t : Nat) {x : Ins} (h : x.op = ⟨#[97, 108, 108, 111, 99]⟩) : m.exec L t x = m.alloc t x.a.toNat := by
  unfold Mk.exec
  rw [h, toList_bl]
  rfl
theorem exec_free (m : Mk) (L : List Ins) (t : Nat) {x : Ins} (h : x.op = ⟨#[102, 114, 101, 101]⟩) : m.exec L t x = m.free t (m.regs t x.a.toNat) := by
  unfold Mk.exec
  rw [h, toList_bl]
  rfl
theorem exec_mark (m : Mk) (L : List Ins) (t : Nat) {x : Ins} (h : x.op = ⟨#[109, 97, 114, 107]⟩) : m.exec L t x = m.mark t (m.regs t x.a.toNat) := by
  unfold Mk.exec
  rw [h, toList_bl]
  rfl
theorem exec_need (m : Mk) (L : List Ins) (t : Nat) {x : Ins} (h : x.op = ⟨#[110, 101, 101, 100]⟩) : m.exec L t x = m.need (m.regs t x.a.toNat) := by
  unfold Mk.exec
  rw [h, toList_bl]
  rfl
theorem exec_fence (m : Mk) (L : List Ins) (t : Nat) {x : Ins} (h : x.op = ⟨#[102, 101, 110, 99, 101]⟩) : m.exec L t x = m.fence t := by
  unfold Mk.exec
  rw [h, toList_bl]
  rfl
theorem exec_force (m : Mk) (L : List Ins) (t : Nat) {x : Ins} (h : x.op = ⟨#[102, 111, 114, 99, 101]⟩) : m.exec L t x = m.fenceFrom 0 m.mem.threads := by
  unfold Mk.exec
  rw [h, toList_bl]
  rfl
theorem exec_stop (m : Mk) (L : List Ins) (t : Nat) {x : Ins} (h : x.op = ⟨#[115, 116, 111, 112]⟩) : m.exec L t x = m := by
  unfold Mk.exec
  rw [h, toList_bl]
  rfl
theorem exec_zero (m : Mk) (L : List Ins) (t : Nat) {x : Ins} (h : x.op = ⟨#[122, 101, 114, 111]⟩) : m.exec L t x = if m.regs t x.a.toNat = 0 then m.jump t L x.to else m := by
  unfold Mk.exec
  rw [h, toList_bl]
  rfl
theorem exec_same (m : Mk) (L : List Ins) (t : Nat) {x : Ins} (h : x.op = ⟨#[115, 97, 109, 101]⟩) : m.exec L t x = if m.regs t x.a.toNat = m.regs t x.b.toNat then m.jump t L x.to else m := by
  unfold Mk.exec
  rw [h, toList_bl]
  rfl
theorem exec_goto (m : Mk) (L : List Ins) (t : Nat) {x : Ins} (h : x.op = ⟨#[103, 111, 116, 111]⟩) : m.exec L t x = m.jump t L x.to := by
  unfold Mk.exec
  rw [h, toList_bl]
  rfl
theorem exec_label (m : Mk) (L : List Ins) (t : Nat) {x : Ins} (h : x.op = ⟨#[108, 97, 98, 101, 108]⟩) : m.exec L t x = m := by
  unfold Mk.exec
  rw [h, toList_bl]
  rfl

theorem MkOk.exec {N K : Nat} {m : Mk} (h0 : MkOk N K m) {L : List Ins} {t : Nat} {x : Ins} (hx : InsOk L x) (ht : t < N) (hL : L.length ≤ 2000) (hK : K ≤ 60000000) : MkOk N (K + 1) (m.exec L t x) := by
  have h := h0.in
  have hN : N ≤ 6 := by have := h.thr; have := h.mem.thr; omega
  have k1 : K ≤ K + 1 := Nat.le_succ _
  rcases kinds hx with ⟨e, ⟨i0, l0, g0⟩, hv⟩ | ⟨e, ⟨i0, l0, g0⟩, ⟨i1, l1, g1⟩⟩ | ⟨e, ⟨i0, l0, g0⟩, ⟨i1, l1, g1⟩, ⟨i2, l2, g2⟩⟩ | ⟨e, ⟨i0, l0, g0⟩, ⟨i1, l1, g1⟩, ⟨i2, l2, g2⟩⟩ | ⟨e, ⟨i0, l0, g0⟩, ⟨i1, l1, g1⟩, ⟨i2, l2, g2⟩⟩ | ⟨e, ⟨i0, l0, g0⟩, ⟨i1, l1, g1⟩, ⟨i2, l2, g2⟩⟩ | ⟨e, ⟨i0, l0, g0⟩, ⟨i1, l1, g1⟩, ⟨i2, l2, g2⟩⟩ | ⟨e, ⟨i0, l0, g0⟩, ⟨i1, l1, g1⟩, ⟨i2, l2, g2⟩⟩ | ⟨e, ⟨i0, l0, g0⟩, ⟨i1, l1, g1⟩, ⟨i2, l2, g2⟩⟩ | ⟨e, ⟨i0, l0, g0⟩, ⟨i1, l1, g1⟩, ⟨i2, l2, g2⟩⟩ | ⟨e, ⟨i0, l0, g0⟩⟩ | ⟨e, ⟨i0, l0, g0⟩⟩ | ⟨e, ⟨i0, l0, g0⟩⟩ | ⟨e, ⟨i0, l0, g0⟩⟩ | e | e | e | ⟨e, ⟨i0, l0, g0⟩, -⟩ | ⟨e, ⟨i0, l0, g0⟩, ⟨i1, l1, g1⟩, -⟩ | ⟨e, -⟩ | ⟨e, -⟩
  · rw [exec_const m L t e]; exact (show MkIn N (K + 1) (64 * K) _ from (h.mono (Nat.le_succ _) (Nat.le_refl _)).setReg _ _ hv).out (Nat.le_refl _) (by omega)
  · rw [exec_move m L t e]; exact (show MkIn N (K + 1) (64 * K) _ from (h.mono (Nat.le_succ _) (Nat.le_refl _)).setReg _ _ (h.regs _ _)).out (Nat.le_refl _) (by omega)
  · rw [exec_add m L t e]; exact (show MkIn N (K + 1) (64 * K) _ from (h.mono (Nat.le_succ _) (Nat.le_refl _)).setReg _ _ (Wd.mod _)).out (Nat.le_refl _) (by omega)
  · rw [exec_sub m L t e]; exact (show MkIn N (K + 1) (64 * K) _ from (h.mono (Nat.le_succ _) (Nat.le_refl _)).setReg _ _ (Wd.mod _)).out (Nat.le_refl _) (by omega)
  · rw [exec_and m L t e]; exact (show MkIn N (K + 1) (64 * K) _ from (h.mono (Nat.le_succ _) (Nat.le_refl _)).setReg _ _ ((h.regs _ _).and (h.regs _ _))).out (Nat.le_refl _) (by omega)
  · rw [exec_xor m L t e]; exact (show MkIn N (K + 1) (64 * K) _ from (h.mono (Nat.le_succ _) (Nat.le_refl _)).setReg _ _ ((h.regs _ _).xor (h.regs _ _))).out (Nat.le_refl _) (by omega)
  · rw [exec_load m L t e]; exact (h.load ht _ _ _).out k1 (by omega)
  · rw [exec_store m L t e]; exact (h.store ht _ (by omega) (h.regs _ _)).out k1 (by omega)
  · rw [exec_swap m L t e]; exact (h.swap ht _ _ _ (h.regs _ _)).out k1 (by omega)
  · rw [exec_cas m L t e]; exact (h.cas ht _ _ _ _ (h.regs _ _)).out k1 (by omega)
  · rw [exec_alloc m L t e]; exact (h.alloc t _ hK).out (Nat.le_refl _) (by omega)
  · rw [exec_free m L t e]; exact (h.free ht _).out k1 (by omega)
  · rw [exec_mark m L t e]; exact (h.mark t _).out k1 (by omega)
  · rw [exec_need m L t e]; exact (h.need _).out k1 (by omega)
  · rw [exec_fence m L t e]; exact (h.fence ht).out k1 (by omega)
  · rw [exec_force m L t e]; exact (MkIn.fenceFrom m.mem.threads (t := 0) h (by have := h.thr; omega)).out k1 (by have := h.thr; omega)
  · rw [exec_stop m L t e]; exact h.out k1 (by omega)
  · rw [exec_zero m L t e]
    split
    · exact (h.jump t x.to hL).out k1 (by omega)
    · exact h.out k1 (by omega)
  · rw [exec_same m L t e]
    split
    · exact (h.jump t x.to hL).out k1 (by omega)
    · exact h.out k1 (by omega)
  · rw [exec_goto m L t e]; exact (h.jump t x.to hL).out k1 (by omega)
  · rw [exec_label m L t e]; exact h.out k1 (by omega)
end Go.Proofs.YtjmdibkeflefpaaDoor
