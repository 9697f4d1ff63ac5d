import Derived.Test.YtnngbdoegchlmaaDoorA06
import Derived.Deep.RegionHeld3
import Derived.Deep.AppendLies
import Derived.Deep.RegionLaw
import Derived.Test.YtnngbdoegchlmaaDoorA08
import Derived.Test.YtnngbdoegchlmaaDoorA03

/- MkS -/
namespace Go.Proofs.YtnngbdoegchlmaaDoor
open Go.RowKit

structure Mk where
  mem : Rm
  regs : Nat → Nat → Int
  pc : Nat → Nat
  marks : List (Nat × Int)
  faults : Nat

def Mk.setReg (m : Mk) (t r : Nat) (v : Int) : Mk := { m with regs := fun u k => if u = t ∧ k = r then v else m.regs u k }
def Mk.setMem (m : Mk) (s : Rm) : Mk := { m with mem := s }
def cellOf (n : Int) : Int := (n - 1) % 64
def genOf (n : Int) : Int := (n - 1) / 64
def freeFrom (there : Nat → Bool) (j : Nat) : Nat → Option Nat
  | 0 => none
  | n + 1 => if there j = true then freeFrom there (j + 1) n else some j
def Ar.free? (s : Ar) : Option Nat := freeFrom s.there 0 s.size

theorem freeFrom_some {there : Nat → Bool} : ∀ {n j c : Nat}, freeFrom there j n = some c → j ≤ c ∧ c < j + n ∧ there c = false ∧ ∀ i, j ≤ i → i < c → there i = true
  | 0, _, _, h => by cases h
  | n + 1, j, c, h => by
    unfold freeFrom at h
    by_cases hj : there j = true
    · rw [if_pos hj] at h
      obtain ⟨h1, h2, h3, h4⟩ := freeFrom_some h
      refine ⟨by omega, by omega, h3, fun i h5 h6 => ?_⟩
      by_cases e : i = j
      · rw [e]; exact hj
      · exact h4 i (by omega) h6
    · rw [if_neg hj] at h
      cases h
      exact ⟨Nat.le_refl _, by omega, by simpa using hj, fun i h5 h6 => absurd h5 (by omega)⟩
theorem Ar.free_some {s : Ar} {c : Nat} (h : s.free? = some c) : c < s.size ∧ (∀ j, j < c → s.there j = true) ∧ s.there c = false := by
  obtain ⟨-, h2, h3, h4⟩ := freeFrom_some h
  exact ⟨by omega, fun j hj => h4 j (Nat.zero_le _) hj, h3⟩

def Mk.put (m : Mk) (t : Nat) (n w v : Int) : Mk := m.setMem (m.mem.setWaits t (m.mem.waits t ++ [⟨cellOf n, genOf n, w, v⟩]))
def Mk.setWord (m : Mk) (n w v : Int) : Mk := m.setMem (m.mem.setWord (cellOf n).toNat w.toNat v)
def Mk.alloc (m : Mk) (t a : Nat) : Mk := match m.mem.ar.free? with
  | none => m.setReg t a 0
  | some c => (m.setMem (m.mem.give c)).setReg t a ((m.mem.ar.given c : Int) * 64 + c + 1)
end Go.Proofs.YtnngbdoegchlmaaDoor

/- MkO -/
namespace Go.Proofs.YtnngbdoegchlmaaDoor
open Go.RowKit

def Wd (v : Int) : Prop := 0 ≤ v ∧ v < 4294967296

structure RmOk (K : Nat) (s : Rm) : Prop where
  ok : s.Ok
  few : ∀ t, t < s.threads → (s.waits t).length ≤ 8
  words : ∀ c k, Wd (s.ar.words c k)
  given : ∀ c, s.ar.given c ≤ K
  small : s.ar.size ≤ 64
  thr : s.threads ≤ 6

theorem RmOk.mono {K K' : Nat} {s : Rm} (h : RmOk K s) (hk : K ≤ K') : RmOk K' s := ⟨h.ok, h.few, h.words, fun c => Nat.le_trans (h.given c) hk, h.small, h.thr⟩
theorem RmOk.setWaits {K : Nat} {s : Rm} (h : RmOk K s) (t : Nat) (l : List Wt) (h1 : ∀ x ∈ l, x.Ok) (h2 : l.length ≤ 8) : RmOk K (s.setWaits t l) where
  ok u hu x hx := by
    simp only [Rm.setWaits] at hx
    by_cases e : u = t
    · rw [if_pos e] at hx; exact h1 x hx
    · rw [if_neg e] at hx; exact h.ok u hu x hx
  few u hu := by
    simp only [Rm.setWaits]
    by_cases e : u = t
    · rw [if_pos e]; exact h2
    · rw [if_neg e]; exact h.few u hu
  words := h.words
  given := h.given
  small := h.small
  thr := h.thr
theorem RmOk.setWord {K : Nat} {s : Rm} (h : RmOk K s) (c k : Nat) (v : Int) (hv : Wd v) : RmOk K (s.setWord c k v) where
  ok := h.ok
  few := h.few
  words j i := by
    simp only [Rm.setWord, Ar.setWord]
    by_cases e : j = c ∧ i = k
    · rw [if_pos e]; exact hv
    · rw [if_neg e]; exact h.words j i
  given := h.given
  small := h.small
  thr := h.thr
theorem RmOk.setThere {K : Nat} {s : Rm} (h : RmOk K s) (c : Nat) (b : Bool) : RmOk K (s.setThere c b) := ⟨h.ok, h.few, h.words, h.given, h.small, h.thr⟩
theorem RmOk.give {K : Nat} {s : Rm} (h : RmOk K s) (c : Nat) : RmOk (K + 1) (s.give c) where
  ok := h.ok
  few := h.few
  words j i := by
    rw [← Rm.give_eq]
    simp only [Rm.setThere, Rm.setGiven, Rm.zero, Ar.setThere, Ar.setGiven, Ar.zero]
    by_cases e : j = c ∧ i < 4
    · rw [if_pos e]; exact ⟨by decide, by decide⟩
    · rw [if_neg e]; exact h.words j i
  given j := by
    rw [← Rm.give_eq]
    simp only [Rm.setThere, Rm.setGiven, Rm.zero, Ar.setThere, Ar.setGiven, Ar.zero]
    by_cases e : j = c
    · rw [if_pos e]; have := h.given c; omega
    · rw [if_neg e]; have := h.given j; omega
  small := h.small
  thr := h.thr
structure MkOk (N K : Nat) (m : Mk) : Prop where
  mem : RmOk K m.mem
  thr : m.mem.threads = N
  regs : ∀ t r, Wd (m.regs t r)
  faults : m.faults ≤ 64 * K
  marks : m.marks.length ≤ 500
  pcs : ∀ t, m.pc t ≤ 2000

theorem Wd.zero : Wd 0 := ⟨by decide, by decide⟩
theorem MkOk.mono {N K K' : Nat} {m : Mk} (h : MkOk N K m) (hk : K ≤ K') : MkOk N K' m := ⟨h.mem.mono hk, h.thr, h.regs, by have := h.faults; omega, h.marks, h.pcs⟩
theorem MkOk.setReg {N K : Nat} {m : Mk} (h : MkOk N K m) (t r : Nat) {v : Int} (hv : Wd v) : MkOk N K (m.setReg t r v) :=
  ⟨h.mem, h.thr, fun u k => by
    simp only [Mk.setReg]
    by_cases e : u = t ∧ k = r
    · rw [if_pos e]; exact hv
    · rw [if_neg e]; exact h.regs u k, h.faults, h.marks, h.pcs⟩
theorem MkOk.setMem {N K : Nat} {m : Mk} (h : MkOk N K m) {s : Rm} (hs : RmOk K s) (ht : s.threads = N) : MkOk N K (m.setMem s) := ⟨hs, ht, h.regs, h.faults, h.marks, h.pcs⟩
structure MkIn (N K F : Nat) (m : Mk) : Prop where
  mem : RmOk K m.mem
  thr : m.mem.threads = N
  regs : ∀ t r, Wd (m.regs t r)
  faults : m.faults ≤ F
  marks : m.marks.length ≤ 500
  pcs : ∀ t, m.pc t ≤ 2000
theorem MkIn.out {N K F : Nat} {m : Mk} (h : MkIn N K F m) {K' : Nat} (hk : K ≤ K') (hf : F ≤ 64 * K') : MkOk N K' m := ⟨h.mem.mono hk, h.thr, h.regs, Nat.le_trans h.faults hf, h.marks, h.pcs⟩
theorem MkIn.setReg {N K F : Nat} {m : Mk} (h : MkIn N K F m) (t r : Nat) {v : Int} (hv : Wd v) : MkIn N K F (m.setReg t r v) :=
  ⟨h.mem, h.thr, fun u k => by
    simp only [Mk.setReg]
    by_cases e : u = t ∧ k = r
    · rw [if_pos e]; exact hv
    · rw [if_neg e]; exact h.regs u k, h.faults, h.marks, h.pcs⟩
theorem MkIn.setMem {N K F : Nat} {m : Mk} (h : MkIn N K F m) {s : Rm} (hs : RmOk K s) (ht : s.threads = N) : MkIn N K F (m.setMem s) := ⟨hs, ht, h.regs, h.faults, h.marks, h.pcs⟩
theorem MkIn.mono {N K F : Nat} {m : Mk} (h : MkIn N K F m) {K' F' : Nat} (hk : K ≤ K') (hf : F ≤ F') : MkIn N K' F' m := ⟨h.mem.mono hk, h.thr, h.regs, Nat.le_trans h.faults hf, h.marks, h.pcs⟩
structure InsOk (L : List Ins) (x : Ins) : Prop where
  err : insErr x = 0
  to : (x.to.toList == []) = false → 0 ≤ labelAt L x.to

theorem MkIn.setWord {N K F : Nat} {m : Mk} (h : MkIn N K F m) (n w : Int) {v : Int} (hv : Wd v) : MkIn N K F (m.setWord n w v) := h.setMem (h.mem.setWord _ _ _ hv) h.thr
theorem MkIn.alloc {N K F : Nat} {m : Mk} (h : MkIn N K F m) (t a : Nat) (hK : K ≤ 60000000) : MkIn N (K + 1) F (m.alloc t a) := by
  unfold Mk.alloc
  split
  · exact (h.mono (Nat.le_succ _) (Nat.le_refl _)).setReg _ _ Wd.zero
  · rename_i c e
    obtain ⟨hc, -, -⟩ := Ar.free_some e
    have hs := h.mem.small
    have hg := h.mem.given c
    exact ((h.mono (Nat.le_succ K) (Nat.le_refl F)).setMem (h.mem.give c) h.thr).setReg _ _ ⟨by omega, by omega⟩
end Go.Proofs.YtnngbdoegchlmaaDoor

/- MkP -/
namespace Go.Proofs.YtnngbdoegchlmaaDoor
open Go.RowKit

theorem getD_some {α : Type} {l : List α} {i : Nat} {d : α} (h : i < l.length) : l[i]? = some (l.getD i d) := by
  rw [List.getD_eq_getElem?_getD, List.getElem?_eq_getElem h]; rfl

end Go.Proofs.YtnngbdoegchlmaaDoor
