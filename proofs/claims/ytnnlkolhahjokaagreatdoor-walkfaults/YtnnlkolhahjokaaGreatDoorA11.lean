import Derived.Test.YtnnlkolhahjokaaGreatDoorA07
import Derived.Test.YtnnlkolhahjokaaGreatDoorA10

/- MkS -/
namespace Go.Proofs.YtnnlkolhahjokaaGreatDoor
open Go.RowKit

structure Mk where
  mem : Rm
  regs : Nat → Nat → Int
  pc : Nat → Nat
  marks : List (Nat × Int)
  faults : Nat

def Mk.setReg (m : Mk) (t r : Nat) (v : Int) : Mk := { m with regs := fun u k => if u = t ∧ k = r then v else m.regs u k }
def Mk.setPc (m : Mk) (t p : Nat) : Mk := { m with pc := fun u => if u = t then p else m.pc u }
def Mk.addFault (m : Mk) (n : Nat) : Mk := { m with faults := m.faults + n }
def Mk.setMem (m : Mk) (s : Rm) : Mk := { m with mem := s }
def Mk.fence (m : Mk) (t : Nat) : Mk := { m with mem := m.mem.drainAll t (m.mem.waits t), faults := m.faults + m.mem.gone t (m.mem.waits t) }
def Mk.fenceFrom (m : Mk) (t : Nat) : Nat → Mk
  | 0 => m
  | n + 1 => (m.fence t).fenceFrom (t + 1) n
def Mk.drain1 (m : Mk) (t : Nat) : Mk := match m.mem.waits t with
  | [] => m
  | x :: l => { m with mem := m.mem.drained t x l, faults := m.faults + if m.mem.ar.has x.c x.g = true then 0 else 1 }
def cellOf (n : Int) : Int := (n - 1) % 64
def genOf (n : Int) : Int := (n - 1) / 64
def Mk.names (m : Mk) (n : Int) : Bool := !(n == 0) && m.mem.ar.has (cellOf n) (genOf n)
def andW (a b : Int) : Int := ((a.toNat &&& b.toNat : Nat) : Int)
def xorW (a b : Int) : Int := ((a.toNat ^^^ b.toNat : Nat) : Int)

def opNo (op : List UInt8) : Nat :=
  if (op == [99, 111, 110, 115, 116]) = true then 0
  else if (op == [109, 111, 118, 101]) = true then 1
  else if (op == [97, 100, 100]) = true then 2
  else if (op == [115, 117, 98]) = true then 3
  else if (op == [97, 110, 100]) = true then 4
  else if (op == [120, 111, 114]) = true then 5
  else if (op == [108, 111, 97, 100]) = true then 6
  else if (op == [115, 116, 111, 114, 101]) = true then 7
  else if (op == [115, 119, 97, 112]) = true then 8
  else if (op == [99, 97, 115]) = true then 9
  else if (op == [97, 108, 108, 111, 99]) = true then 10
  else if (op == [102, 114, 101, 101]) = true then 11
  else if (op == [109, 97, 114, 107]) = true then 12
  else if (op == [110, 101, 101, 100]) = true then 13
  else if (op == [102, 101, 110, 99, 101]) = true then 14
  else if (op == [102, 111, 114, 99, 101]) = true then 15
  else if (op == [115, 116, 111, 112]) = true then 16
  else if (op == [122, 101, 114, 111]) = true then 17
  else if (op == [115, 97, 109, 101]) = true then 18
  else if (op == [103, 111, 116, 111]) = true then 19
  else 20

def freeFrom (there : Nat → Bool) (j : Nat) : Nat → Option Nat
  | 0 => none
  | n + 1 => if there j = true then freeFrom there (j + 1) n else some j
def Ar.free? (s : Ar) : Option Nat := freeFrom s.there 0 s.size

theorem freeFrom_none {there : Nat → Bool} : ∀ {n j : Nat}, freeFrom there j n = none → ∀ i, j ≤ i → i < j + n → there i = true
  | 0, _, _, i, h1, h2 => absurd h2 (by omega)
  | n + 1, j, h, i, h1, h2 => by
    unfold freeFrom at h
    by_cases hj : there j = true
    · rw [if_pos hj] at h
      by_cases e : i = j
      · rw [e]; exact hj
      · exact freeFrom_none h i (by omega) (by omega)
    · rw [if_neg hj] at h; cases h
theorem freeFrom_some {there : Nat → Bool} : ∀ {n j c : Nat}, freeFrom there j n = some c → j ≤ c ∧ c < j + n ∧ there c = false ∧ ∀ i, j ≤ i → i < c → there i = true
  | 0, _, _, h => by cases h
  | n + 1, j, c, h => by
    unfold freeFrom at h
    by_cases hj : there j = true
    · rw [if_pos hj] at h
      obtain ⟨h1, h2, h3, h4⟩ := freeFrom_some h
      refine ⟨by omega, by omega, h3, fun i h5 h6 => ?_⟩
      by_cases e : i = j
      · rw [e]; exact hj
      · exact h4 i (by omega) h6
    · rw [if_neg hj] at h
      cases h
      exact ⟨Nat.le_refl _, by omega, by simpa using hj, fun i h5 h6 => absurd h5 (by omega)⟩
theorem Ar.free_none {s : Ar} (h : s.free? = none) : ∀ j, j < s.size → s.there j = true := fun j hj => freeFrom_none h j (Nat.zero_le _) (by omega)
theorem Ar.free_some {s : Ar} {c : Nat} (h : s.free? = some c) : c < s.size ∧ (∀ j, j < c → s.there j = true) ∧ s.there c = false := by
  obtain ⟨-, h2, h3, h4⟩ := freeFrom_some h
  exact ⟨by omega, fun j hj => h4 j (Nat.zero_le _) hj, h3⟩

def Mk.loaded (m : Mk) (t : Nat) (n : Int) (w : Int) : Int := (m.mem.waits t).foldl (Wt.pick (cellOf n) (genOf n) w) (m.mem.ar.words (cellOf n).toNat w.toNat)

def Mk.put (m : Mk) (t : Nat) (n w v : Int) : Mk := m.setMem (m.mem.setWaits t (m.mem.waits t ++ [⟨cellOf n, genOf n, w, v⟩]))
def Mk.room (m : Mk) (t : Nat) : Mk := if 8 ≤ (m.mem.waits t).length then m.drain1 t else m
def Mk.load (m : Mk) (t a : Nat) (n w : Int) : Mk := if m.names n = true then m.setReg t a (m.loaded t n w) else (m.addFault 1).setReg t a 0
def Mk.store (m : Mk) (t : Nat) (n w v : Int) : Mk := if m.names n = true then (m.room t).put t n w v else m.addFault 1
def casV (was old v : Int) : Int := if was = old then v else was
def Mk.word (m : Mk) (n w : Int) : Int := m.mem.ar.words (cellOf n).toNat w.toNat
def Mk.setWord (m : Mk) (n w v : Int) : Mk := m.setMem (m.mem.setWord (cellOf n).toNat w.toNat v)
def Mk.swap (m : Mk) (t a : Nat) (n w v : Int) : Mk := if m.names n = true then ((m.fence t).setWord n w v).setReg t a ((m.fence t).word n w) else (m.addFault 1).setReg t a 0
def Mk.cas (m : Mk) (t b : Nat) (n w old v : Int) : Mk := if m.names n = true then ((m.fence t).setWord n w (casV ((m.fence t).word n w) old v)).setReg t b ((m.fence t).word n w) else (m.addFault 1).setReg t b 0
def Mk.alloc (m : Mk) (t a : Nat) : Mk := match m.mem.ar.free? with
  | none => m.setReg t a 0
  | some c => (m.setMem (m.mem.give c)).setReg t a ((m.mem.ar.given c : Int) * 64 + c + 1)
def Mk.free (m : Mk) (t : Nat) (n : Int) : Mk := if m.names n = true then (m.fence t).setMem ((m.fence t).mem.setThere (cellOf n).toNat false) else m.addFault 1
def Mk.mark (m : Mk) (t : Nat) (v : Int) : Mk := if m.marks.length < 500 then { m with marks := m.marks ++ [(t, v)] } else m
def Mk.need (m : Mk) (v : Int) : Mk := if v = 0 then m.addFault 1 else m
def Mk.jump (m : Mk) (t : Nat) (L : List Ins) (to : ByteArray) : Mk := m.setPc t (labelAt L to).toNat

def Mk.exec (m : Mk) (L : List Ins) (t : Nat) (x : Ins) : Mk :=
  let g := fun k : Int => m.regs t k.toNat
  match opNo x.op.toList with
  | 0 => m.setReg t x.a.toNat x.b
  | 1 => m.setReg t x.a.toNat (g x.b)
  | 2 => m.setReg t x.a.toNat ((g x.b + g x.c) % 4294967296)
  | 3 => m.setReg t x.a.toNat ((g x.b - g x.c) % 4294967296)
  | 4 => m.setReg t x.a.toNat (andW (g x.b) (g x.c))
  | 5 => m.setReg t x.a.toNat (xorW (g x.b) (g x.c))
  | 6 => m.load t x.a.toNat (g x.b) x.c
  | 7 => m.store t (g x.a) x.c (g x.b)
  | 8 => m.swap t x.a.toNat (g x.b) x.c (g x.a)
  | 9 => m.cas t x.b.toNat (g x.a) x.c (g x.b) (m.regs t (x.b.toNat + 1))
  | 10 => m.alloc t x.a.toNat
  | 11 => m.free t (g x.a)
  | 12 => m.mark t (g x.a)
  | 13 => m.need (g x.a)
  | 14 => m.fence t
  | 15 => m.fenceFrom 0 m.mem.threads
  | 17 => if g x.a = 0 then m.jump t L x.to else m
  | 18 => if g x.a = g x.b then m.jump t L x.to else m
  | 19 => m.jump t L x.to
  | _ => m

def doneAt (L : List Ins) (p : Nat) : Bool := match L[p]? with
  | none => true
  | some x => x.op.toList == [115, 116, 111, 112]
def Mk.step (m : Mk) (L : List Ins) (t : Nat) : Mk := match L[m.pc t]? with
  | none => m
  | some x => (m.setPc t (m.pc t + 1)).exec L t x
end Go.Proofs.YtnnlkolhahjokaaGreatDoor

/- MkO -/
namespace Go.Proofs.YtnnlkolhahjokaaGreatDoor
open Go.RowKit

def Wd (v : Int) : Prop := 0 ≤ v ∧ v < 4294967296

structure RmOk (K : Nat) (s : Rm) : Prop where
  ok : s.Ok
  few : ∀ t, t < s.threads → (s.waits t).length ≤ 8
  words : ∀ c k, Wd (s.ar.words c k)
  given : ∀ c, s.ar.given c ≤ K
  small : s.ar.size ≤ 64
  thr : s.threads ≤ 6

theorem RmOk.mono {K K' : Nat} {s : Rm} (h : RmOk K s) (hk : K ≤ K') : RmOk K' s := ⟨h.ok, h.few, h.words, fun c => Nat.le_trans (h.given c) hk, h.small, h.thr⟩
theorem RmOk.setWaits {K : Nat} {s : Rm} (h : RmOk K s) (t : Nat) (l : List Wt) (h1 : ∀ x ∈ l, x.Ok) (h2 : l.length ≤ 8) : RmOk K (s.setWaits t l) where
  ok u hu x hx := by
    simp only [Rm.setWaits] at hx
    by_cases e : u = t
    · rw [if_pos e] at hx; exact h1 x hx
    · rw [if_neg e] at hx; exact h.ok u hu x hx
  few u hu := by
    simp only [Rm.setWaits]
    by_cases e : u = t
    · rw [if_pos e]; exact h2
    · rw [if_neg e]; exact h.few u hu
  words := h.words
  given := h.given
  small := h.small
  thr := h.thr
theorem RmOk.setWord {K : Nat} {s : Rm} (h : RmOk K s) (c k : Nat) (v : Int) (hv : Wd v) : RmOk K (s.setWord c k v) where
  ok := h.ok
  few := h.few
  words j i := by
    simp only [Rm.setWord, Ar.setWord]
    by_cases e : j = c ∧ i = k
    · rw [if_pos e]; exact hv
    · rw [if_neg e]; exact h.words j i
  given := h.given
  small := h.small
  thr := h.thr
theorem RmOk.setThere {K : Nat} {s : Rm} (h : RmOk K s) (c : Nat) (b : Bool) : RmOk K (s.setThere c b) := ⟨h.ok, h.few, h.words, h.given, h.small, h.thr⟩
theorem RmOk.give {K : Nat} {s : Rm} (h : RmOk K s) (c : Nat) : RmOk (K + 1) (s.give c) where
  ok := h.ok
  few := h.few
  words j i := by
    rw [← Rm.give_eq]
    simp only [Rm.setThere, Rm.setGiven, Rm.zero, Ar.setThere, Ar.setGiven, Ar.zero]
    by_cases e : j = c ∧ i < 4
    · rw [if_pos e]; exact ⟨by decide, by decide⟩
    · rw [if_neg e]; exact h.words j i
  given j := by
    rw [← Rm.give_eq]
    simp only [Rm.setThere, Rm.setGiven, Rm.zero, Ar.setThere, Ar.setGiven, Ar.zero]
    by_cases e : j = c
    · rw [if_pos e]; have := h.given c; omega
    · rw [if_neg e]; have := h.given j; omega
  small := h.small
  thr := h.thr
theorem RmOk.drained {K : Nat} {s : Rm} (h : RmOk K s) {t : Nat} (ht : t < s.threads) {x : Wt} {l : List Wt} (e : s.waits t = x :: l) : RmOk K (s.drained t x l) := by
  have h1 : ∀ y ∈ l, y.Ok := fun y hy => h.ok t ht y (by rw [e]; exact List.mem_cons_of_mem _ hy)
  have h2 : l.length ≤ 8 := by have := h.few t ht; rw [e, List.length_cons] at this; omega
  have hx := h.ok t ht x (by rw [e]; exact List.mem_cons_self)
  unfold Rm.drained
  split
  · exact (h.setWaits t l h1 h2).setWord _ _ _ hx.2
  · exact h.setWaits t l h1 h2
theorem RmOk.drainAll {K : Nat} {t : Nat} : ∀ {l : List Wt} {s : Rm}, RmOk K s → t < s.threads → s.waits t = l → RmOk K (s.drainAll t l)
  | [], _, h, _, _ => h
  | x :: l, s, h, ht, e => RmOk.drainAll (l := l) (h.drained ht e) (by rw [Rm.drained_threads]; exact ht) (Rm.drained_waits s t x l)

structure MkOk (N K : Nat) (m : Mk) : Prop where
  mem : RmOk K m.mem
  thr : m.mem.threads = N
  regs : ∀ t r, Wd (m.regs t r)
  faults : m.faults ≤ 64 * K
  marks : m.marks.length ≤ 500
  pcs : ∀ t, m.pc t ≤ 2000

theorem Wd.mod (n : Int) : Wd (n % 4294967296) := ⟨Int.emod_nonneg _ (by decide), Int.emod_lt_of_pos _ (by decide)⟩
theorem Wd.zero : Wd 0 := ⟨by decide, by decide⟩
theorem Wd.and {a b : Int} (_ha : Wd a) (hb : Wd b) : Wd (andW a b) := by
  have : a.toNat &&& b.toNat < 2 ^ 32 := Nat.and_lt_two_pow _ (by have := hb.2; have := hb.1; omega)
  exact ⟨by unfold andW; omega, by unfold andW; omega⟩
theorem Wd.xor {a b : Int} (ha : Wd a) (hb : Wd b) : Wd (xorW a b) := by
  have : a.toNat ^^^ b.toNat < 2 ^ 32 := Nat.xor_lt_two_pow (by have := ha.2; have := ha.1; omega) (by have := hb.2; have := hb.1; omega)
  exact ⟨by unfold xorW; omega, by unfold xorW; omega⟩

theorem MkOk.mono {N K K' : Nat} {m : Mk} (h : MkOk N K m) (hk : K ≤ K') : MkOk N K' m := ⟨h.mem.mono hk, h.thr, h.regs, by have := h.faults; omega, h.marks, h.pcs⟩
theorem MkOk.setReg {N K : Nat} {m : Mk} (h : MkOk N K m) (t r : Nat) {v : Int} (hv : Wd v) : MkOk N K (m.setReg t r v) :=
  ⟨h.mem, h.thr, fun u k => by
    simp only [Mk.setReg]
    by_cases e : u = t ∧ k = r
    · rw [if_pos e]; exact hv
    · rw [if_neg e]; exact h.regs u k, h.faults, h.marks, h.pcs⟩
theorem MkOk.setPc {N K : Nat} {m : Mk} (h : MkOk N K m) (t : Nat) {p : Nat} (hp : p ≤ 2000) : MkOk N K (m.setPc t p) :=
  ⟨h.mem, h.thr, h.regs, h.faults, h.marks, fun u => by
    simp only [Mk.setPc]
    by_cases e : u = t
    · rw [if_pos e]; exact hp
    · rw [if_neg e]; exact h.pcs u⟩
theorem MkOk.setMem {N K : Nat} {m : Mk} (h : MkOk N K m) {s : Rm} (hs : RmOk K s) (ht : s.threads = N) : MkOk N K (m.setMem s) := ⟨hs, ht, h.regs, h.faults, h.marks, h.pcs⟩
theorem MkOk.addFault {N K : Nat} {m : Mk} (h : MkOk N K m) {n : Nat} (hn : m.faults + n ≤ 64 * (K + 1)) : MkOk N (K + 1) (m.addFault n) := ⟨h.mem.mono (Nat.le_succ _), h.thr, h.regs, hn, h.marks, h.pcs⟩

structure MkIn (N K F : Nat) (m : Mk) : Prop where
  mem : RmOk K m.mem
  thr : m.mem.threads = N
  regs : ∀ t r, Wd (m.regs t r)
  faults : m.faults ≤ F
  marks : m.marks.length ≤ 500
  pcs : ∀ t, m.pc t ≤ 2000
theorem MkOk.in {N K : Nat} {m : Mk} (h : MkOk N K m) : MkIn N K (64 * K) m := ⟨h.mem, h.thr, h.regs, h.faults, h.marks, h.pcs⟩
theorem MkIn.out {N K F : Nat} {m : Mk} (h : MkIn N K F m) {K' : Nat} (hk : K ≤ K') (hf : F ≤ 64 * K') : MkOk N K' m := ⟨h.mem.mono hk, h.thr, h.regs, Nat.le_trans h.faults hf, h.marks, h.pcs⟩
theorem MkIn.setReg {N K F : Nat} {m : Mk} (h : MkIn N K F m) (t r : Nat) {v : Int} (hv : Wd v) : MkIn N K F (m.setReg t r v) :=
  ⟨h.mem, h.thr, fun u k => by
    simp only [Mk.setReg]
    by_cases e : u = t ∧ k = r
    · rw [if_pos e]; exact hv
    · rw [if_neg e]; exact h.regs u k, h.faults, h.marks, h.pcs⟩
theorem MkIn.setMem {N K F : Nat} {m : Mk} (h : MkIn N K F m) {s : Rm} (hs : RmOk K s) (ht : s.threads = N) : MkIn N K F (m.setMem s) := ⟨hs, ht, h.regs, h.faults, h.marks, h.pcs⟩
theorem MkIn.setPc {N K F : Nat} {m : Mk} (h : MkIn N K F m) (t : Nat) {p : Nat} (hp : p ≤ 2000) : MkIn N K F (m.setPc t p) :=
  ⟨h.mem, h.thr, h.regs, h.faults, h.marks, fun u => by
    simp only [Mk.setPc]
    by_cases e : u = t
    · rw [if_pos e]; exact hp
    · rw [if_neg e]; exact h.pcs u⟩
theorem MkIn.addFault {N K F : Nat} {m : Mk} (h : MkIn N K F m) (n : Nat) : MkIn N K (F + n) (m.addFault n) := ⟨h.mem, h.thr, h.regs, Nat.add_le_add_right h.faults n, h.marks, h.pcs⟩
theorem MkIn.mono {N K F : Nat} {m : Mk} (h : MkIn N K F m) {K' F' : Nat} (hk : K ≤ K') (hf : F ≤ F') : MkIn N K' F' m := ⟨h.mem.mono hk, h.thr, h.regs, Nat.le_trans h.faults hf, h.marks, h.pcs⟩
theorem MkIn.fence {N K F : Nat} {m : Mk} (h : MkIn N K F m) {t : Nat} (ht : t < N) : MkIn N K (F + 8) (m.fence t) := by
  have h8 := h.mem.few t (by rw [h.thr]; exact ht)
  have hg := Rm.gone_le (m.mem.waits t) t m.mem
  exact ⟨h.mem.drainAll (by rw [h.thr]; exact ht) rfl, by have := (Rm.drainAll_ar (m.mem.waits t) t m.mem).2.2.2; exact this.trans h.thr, h.regs, by have := h.faults; show m.faults + _ ≤ _; omega, h.marks, h.pcs⟩
theorem MkIn.fenceFrom {N K : Nat} : ∀ (n : Nat) {F t : Nat} {m : Mk}, MkIn N K F m → t + n ≤ N → MkIn N K (F + 8 * n) (m.fenceFrom t n)
  | 0, F, _, _, h, _ => h
  | n + 1, F, t, m, h, hn => by
    have := MkIn.fenceFrom n (t := t + 1) (h.fence (t := t) (by omega)) (by omega)
    rw [show F + 8 * (n + 1) = F + 8 + 8 * n by omega]
    exact this
theorem ite01 (c : Prop) [Decidable c] : (if c then 0 else 1) ≤ 1 := by split <;> omega
theorem MkIn.drain1 {N K F : Nat} {m : Mk} (h : MkIn N K F m) {t : Nat} (ht : t < N) : MkIn N K (F + 1) (m.drain1 t) := by
  unfold Mk.drain1
  split
  · exact h.mono (Nat.le_refl _) (Nat.le_succ _)
  · rename_i x l e
    refine ⟨h.mem.drained (by rw [h.thr]; exact ht) e, by rw [Rm.drained_threads]; exact h.thr, h.regs, ?_, h.marks, h.pcs⟩
    exact Nat.add_le_add h.faults (ite01 _)
structure InsOk (L : List Ins) (x : Ins) : Prop where
  err : insErr x = 0
  to : (x.to.toList == []) = false → 0 ≤ labelAt L x.to

theorem labelAt_le (L : List Ins) (to : ByteArray) : labelAt L to ≤ L.length := by
  unfold labelAt
  split
  · rename_i j h
    obtain ⟨hl, -⟩ := List.findIdx?_eq_some_iff_getElem.1 h
    omega
  · omega

theorem pick_wd (l : List Wt) (c g k : Int) : ∀ {v : Int}, Wd v → (∀ x ∈ l, x.Ok) → Wd (l.foldl (Wt.pick c g k) v) := by
  induction l with
  | nil => exact fun h _ => h
  | cons x l ih =>
    intro v h ho
    refine ih ?_ (fun y hy => ho y (List.mem_cons_of_mem _ hy))
    unfold Wt.pick
    split
    · exact (ho x List.mem_cons_self).2
    · exact h
theorem casV_wd {a b c : Int} (ha : Wd a) (hc : Wd c) : Wd (casV a b c) := by unfold casV; split; exact hc; exact ha
theorem MkIn.load {N K F : Nat} {m : Mk} (h : MkIn N K F m) {t : Nat} (ht : t < N) (a : Nat) (n w : Int) : MkIn N K (F + 1) (m.load t a n w) := by
  unfold Mk.load
  split
  · exact (h.mono (Nat.le_refl _) (Nat.le_succ _)).setReg _ _ (pick_wd _ _ _ _ (h.mem.words _ _) (h.mem.ok t (by rw [h.thr]; exact ht)))
  · exact (h.addFault 1).setReg _ _ Wd.zero
theorem room_len {N K F : Nat} {m : Mk} (h : MkIn N K F m) {t : Nat} (ht : t < N) : ((m.room t).mem.waits t).length < 8 := by
  have h8 := h.mem.few t (by rw [h.thr]; exact ht)
  unfold Mk.room
  split
  · unfold Mk.drain1
    split
    · rename_i e; rw [e]; decide
    · rename_i x l e
      rw [e, List.length_cons] at h8
      show ((m.mem.drained t x l).waits t).length < 8
      rw [Rm.drained_waits]; omega
  · omega
theorem MkIn.room {N K F : Nat} {m : Mk} (h : MkIn N K F m) {t : Nat} (ht : t < N) : MkIn N K (F + 1) (m.room t) := by
  unfold Mk.room
  split
  · exact h.drain1 ht
  · exact h.mono (Nat.le_refl _) (Nat.le_succ _)
theorem MkIn.store {N K F : Nat} {m : Mk} (h : MkIn N K F m) {t : Nat} (ht : t < N) (n : Int) {w v : Int} (hw : 0 ≤ w ∧ w < 4) (hv : Wd v) : MkIn N K (F + 1) (m.store t n w v) := by
  unfold Mk.store
  split
  · have h1 := h.room ht
    have h2 := room_len h ht
    refine h1.setMem (h1.mem.setWaits t _ (fun x hx => ?_) (by rw [List.length_append]; exact h2)) h1.thr
    rcases List.mem_append.1 hx with hx | hx
    · exact h1.mem.ok t (by rw [h1.thr]; exact ht) x hx
    · rw [List.mem_singleton.1 hx]; exact ⟨hw, hv⟩
  · exact h.addFault 1
theorem MkIn.word {N K F : Nat} {m : Mk} (h : MkIn N K F m) (n w : Int) : Wd (m.word n w) := h.mem.words _ _
theorem MkIn.setWord {N K F : Nat} {m : Mk} (h : MkIn N K F m) (n w : Int) {v : Int} (hv : Wd v) : MkIn N K F (m.setWord n w v) := h.setMem (h.mem.setWord _ _ _ hv) h.thr
theorem MkIn.swap {N K F : Nat} {m : Mk} (h : MkIn N K F m) {t : Nat} (ht : t < N) (a : Nat) (n w : Int) {v : Int} (hv : Wd v) : MkIn N K (F + 8) (m.swap t a n w v) := by
  unfold Mk.swap
  split
  · have h1 := h.fence ht
    exact (h1.setWord n w hv).setReg _ _ (h1.word n w)
  · exact ((h.addFault 1).mono (Nat.le_refl _) (by omega)).setReg _ _ Wd.zero
theorem MkIn.cas {N K F : Nat} {m : Mk} (h : MkIn N K F m) {t : Nat} (ht : t < N) (b : Nat) (n w old : Int) {v : Int} (hv : Wd v) : MkIn N K (F + 8) (m.cas t b n w old v) := by
  unfold Mk.cas
  split
  · have h1 := h.fence ht
    exact (h1.setWord n w (casV_wd (h1.word n w) hv)).setReg _ _ (h1.word n w)
  · exact ((h.addFault 1).mono (Nat.le_refl _) (by omega)).setReg _ _ Wd.zero
theorem MkIn.alloc {N K F : Nat} {m : Mk} (h : MkIn N K F m) (t a : Nat) (hK : K ≤ 60000000) : MkIn N (K + 1) F (m.alloc t a) := by
  unfold Mk.alloc
  split
  · exact (h.mono (Nat.le_succ _) (Nat.le_refl _)).setReg _ _ Wd.zero
  · rename_i c e
    obtain ⟨hc, -, -⟩ := Ar.free_some e
    have hs := h.mem.small
    have hg := h.mem.given c
    exact ((h.mono (Nat.le_succ K) (Nat.le_refl F)).setMem (h.mem.give c) h.thr).setReg _ _ ⟨by omega, by omega⟩
theorem MkIn.free {N K F : Nat} {m : Mk} (h : MkIn N K F m) {t : Nat} (ht : t < N) (n : Int) : MkIn N K (F + 8) (m.free t n) := by
  unfold Mk.free
  split
  · have h1 := h.fence ht
    exact h1.setMem (h1.mem.setThere _ _) h1.thr
  · exact (h.addFault 1).mono (Nat.le_refl _) (by omega)
theorem MkIn.mark {N K F : Nat} {m : Mk} (h : MkIn N K F m) (t : Nat) (v : Int) : MkIn N K F (m.mark t v) := by
  unfold Mk.mark
  split
  · exact ⟨h.mem, h.thr, h.regs, h.faults, by show (m.marks ++ _).length ≤ _; rw [List.length_append]; simp; omega, h.pcs⟩
  · exact h
theorem MkIn.need {N K F : Nat} {m : Mk} (h : MkIn N K F m) (v : Int) : MkIn N K (F + 1) (m.need v) := by
  unfold Mk.need
  split
  · exact h.addFault 1
  · exact h.mono (Nat.le_refl _) (Nat.le_succ _)
theorem MkIn.jump {N K F : Nat} {m : Mk} (h : MkIn N K F m) (t : Nat) {L : List Ins} (to : ByteArray) (hL : L.length ≤ 2000) : MkIn N K F (m.jump t L to) :=
  h.setPc t (by have := labelAt_le L to; omega)
end Go.Proofs.YtnnlkolhahjokaaGreatDoor

/- MkK -/
namespace Go.Proofs.YtnnlkolhahjokaaGreatDoor
open Go.RowKit

theorem insErr_zero {x : Ins} (h : insErr x = 0) : ∃ S, shape x.op.toList = some S ∧ insBad x ⟨S.toArray⟩ = 0 := by
  unfold insErr at h
  cases hS : shape x.op.toList with
  | none => rw [hS] at h; cases h
  | some S => rw [hS] at h; exact ⟨S, rfl, h⟩
theorem insBad_parts {x : Ins} {S : ByteArray} (h : insBad x S = 0) : (∀ k, k < cnt S S.size → 0 ≤ x.n k ∧ x.n k < mostOf (byteAt S k)) ∧ (lab S S.size = true → isName x.to) := by
  unfold insBad at h
  by_cases h1 : lab S S.size = false ∧ ¬ x.to.toList = []
  · rw [if_pos h1] at h; cases h
  · rw [if_neg h1] at h
    by_cases h2 : ∃ k, cnt S S.size ≤ k ∧ k < 3 ∧ x.n k ≠ 0
    · rw [if_pos h2] at h; cases h
    · rw [if_neg h2] at h
      by_cases h3 : ∃ k, k < cnt S S.size ∧ ¬ (0 ≤ x.n k ∧ x.n k < mostOf (byteAt S k))
      · rw [if_pos h3] at h; cases h
      · rw [if_neg h3] at h
        by_cases h4 : lab S S.size = true ∧ ¬ isName x.to
        · rw [if_pos h4] at h; cases h
        · exact ⟨fun k hk => Decidable.byContradiction fun c => h3 ⟨k, hk, c⟩, fun hl => Classical.byContradiction fun c => h4 ⟨hl, c⟩⟩
theorem insBad_range {x : Ins} {S : ByteArray} (h : insBad x S = 0) : ∀ k, k < cnt S S.size → 0 ≤ x.n k ∧ x.n k < mostOf (byteAt S k) := (insBad_parts h).1
theorem insBad_lab {x : Ins} {S : ByteArray} (h : insBad x S = 0) : lab S S.size = true → isName x.to := (insBad_parts h).2
theorem op_is {s : ByteArray} {l : List UInt8} (h : s.toList = l) : s = ⟨l.toArray⟩ := by
  rw [toList_bl] at h; rw [← h, mk_bl]
theorem nat_of {v : Int} {m : Int} {n : Nat} (h : 0 ≤ v ∧ v < m) (hm : m = n) : ∃ i : Nat, i < n ∧ v = i := ⟨v.toNat, by omega, by omega⟩
theorem lab_of {L : List Ins} {x : Ins} (h : InsOk L x) (hn : isName x.to) : ∃ i : Nat, labelAt L x.to = i := by
  have := h.to (by
    rw [beq_eq_false_iff_ne, toList_bl]
    intro e
    have := hn.1
    rw [size_bl, e] at this
    cases this)
  exact ⟨(labelAt L x.to).toNat, by omega⟩

set_option maxHeartbeats 1000000 in
theorem kinds {L : List Ins} {x : Ins} (h : InsOk L x) :
    (x.op = ⟨#[99, 111, 110, 115, 116]⟩ ∧ (∃ i : Nat, i < 8 ∧ x.a = i) ∧ Wd x.b) ∨
    (x.op = ⟨#[109, 111, 118, 101]⟩ ∧ (∃ i : Nat, i < 8 ∧ x.a = i) ∧ (∃ i : Nat, i < 8 ∧ x.b = i)) ∨
    (x.op = ⟨#[97, 100, 100]⟩ ∧ (∃ i : Nat, i < 8 ∧ x.a = i) ∧ (∃ i : Nat, i < 8 ∧ x.b = i) ∧ (∃ i : Nat, i < 8 ∧ x.c = i)) ∨
    (x.op = ⟨#[115, 117, 98]⟩ ∧ (∃ i : Nat, i < 8 ∧ x.a = i) ∧ (∃ i : Nat, i < 8 ∧ x.b = i) ∧ (∃ i : Nat, i < 8 ∧ x.c = i)) ∨
    (x.op = ⟨#[97, 110, 100]⟩ ∧ (∃ i : Nat, i < 8 ∧ x.a = i) ∧ (∃ i : Nat, i < 8 ∧ x.b = i) ∧ (∃ i : Nat, i < 8 ∧ x.c = i)) ∨
    (x.op = ⟨#[120, 111, 114]⟩ ∧ (∃ i : Nat, i < 8 ∧ x.a = i) ∧ (∃ i : Nat, i < 8 ∧ x.b = i) ∧ (∃ i : Nat, i < 8 ∧ x.c = i)) ∨
    (x.op = ⟨#[108, 111, 97, 100]⟩ ∧ (∃ i : Nat, i < 8 ∧ x.a = i) ∧ (∃ i : Nat, i < 8 ∧ x.b = i) ∧ (∃ i : Nat, i < 4 ∧ x.c = i)) ∨
    (x.op = ⟨#[115, 116, 111, 114, 101]⟩ ∧ (∃ i : Nat, i < 8 ∧ x.a = i) ∧ (∃ i : Nat, i < 8 ∧ x.b = i) ∧ (∃ i : Nat, i < 4 ∧ x.c = i)) ∨
    (x.op = ⟨#[115, 119, 97, 112]⟩ ∧ (∃ i : Nat, i < 8 ∧ x.a = i) ∧ (∃ i : Nat, i < 8 ∧ x.b = i) ∧ (∃ i : Nat, i < 4 ∧ x.c = i)) ∨
    (x.op = ⟨#[99, 97, 115]⟩ ∧ (∃ i : Nat, i < 8 ∧ x.a = i) ∧ (∃ i : Nat, i < 7 ∧ x.b = i) ∧ (∃ i : Nat, i < 4 ∧ x.c = i)) ∨
    (x.op = ⟨#[97, 108, 108, 111, 99]⟩ ∧ (∃ i : Nat, i < 8 ∧ x.a = i)) ∨
    (x.op = ⟨#[102, 114, 101, 101]⟩ ∧ (∃ i : Nat, i < 8 ∧ x.a = i)) ∨
    (x.op = ⟨#[109, 97, 114, 107]⟩ ∧ (∃ i : Nat, i < 8 ∧ x.a = i)) ∨
    (x.op = ⟨#[110, 101, 101, 100]⟩ ∧ (∃ i : Nat, i < 8 ∧ x.a = i)) ∨
    (x.op = ⟨#[102, 101, 110, 99, 101]⟩) ∨
    (x.op = ⟨#[102, 111, 114, 99, 101]⟩) ∨
    (x.op = ⟨#[115, 116, 111, 112]⟩) ∨
    (x.op = ⟨#[122, 101, 114, 111]⟩ ∧ (∃ i : Nat, i < 8 ∧ x.a = i) ∧ (∃ i : Nat, labelAt L x.to = i)) ∨
    (x.op = ⟨#[115, 97, 109, 101]⟩ ∧ (∃ i : Nat, i < 8 ∧ x.a = i) ∧ (∃ i : Nat, i < 8 ∧ x.b = i) ∧ (∃ i : Nat, labelAt L x.to = i)) ∨
    (x.op = ⟨#[103, 111, 116, 111]⟩ ∧ (∃ i : Nat, labelAt L x.to = i)) ∨
    (x.op = ⟨#[108, 97, 98, 101, 108]⟩ ∧ (∃ i : Nat, labelAt L x.to = i)) := by
  obtain ⟨S, hS, hB⟩ := insErr_zero h.err
  have hm := shape_mem hS
  have hr := insBad_range hB
  have hl := insBad_lab hB
  simp only [table, List.mem_cons, Prod.mk.injEq, List.not_mem_nil, or_false] at hm
  rcases hm with ⟨h1, rfl⟩ | ⟨h1, rfl⟩ | ⟨h1, rfl⟩ | ⟨h1, rfl⟩ | ⟨h1, rfl⟩ | ⟨h1, rfl⟩ | ⟨h1, rfl⟩ | ⟨h1, rfl⟩ | ⟨h1, rfl⟩ | ⟨h1, rfl⟩ | ⟨h1, rfl⟩ | ⟨h1, rfl⟩ | ⟨h1, rfl⟩ | ⟨h1, rfl⟩ | ⟨h1, rfl⟩ | ⟨h1, rfl⟩ | ⟨h1, rfl⟩ | ⟨h1, rfl⟩ | ⟨h1, rfl⟩ | ⟨h1, rfl⟩ | ⟨h1, rfl⟩
  · exact Or.inl ⟨op_is h1, nat_of (hr 0 (by decide)) (by decide), hr 1 (by decide)⟩
  · exact Or.inr (Or.inl ⟨op_is h1, nat_of (hr 0 (by decide)) (by decide), nat_of (hr 1 (by decide)) (by decide)⟩)
  · exact Or.inr (Or.inr (Or.inl ⟨op_is h1, nat_of (hr 0 (by decide)) (by decide), nat_of (hr 1 (by decide)) (by decide), nat_of (hr 2 (by decide)) (by decide)⟩))
  · exact Or.inr (Or.inr (Or.inr (Or.inl ⟨op_is h1, nat_of (hr 0 (by decide)) (by decide), nat_of (hr 1 (by decide)) (by decide), nat_of (hr 2 (by decide)) (by decide)⟩)))
  · exact Or.inr (Or.inr (Or.inr (Or.inr (Or.inl ⟨op_is h1, nat_of (hr 0 (by decide)) (by decide), nat_of (hr 1 (by decide)) (by decide), nat_of (hr 2 (by decide)) (by decide)⟩))))
  · exact Or.inr (Or.inr (Or.inr (Or.inr (Or.inr (Or.inl ⟨op_is h1, nat_of (hr 0 (by decide)) (by decide), nat_of (hr 1 (by decide)) (by decide), nat_of (hr 2 (by decide)) (by decide)⟩)))))
  · exact Or.inr (Or.inr (Or.inr (Or.inr (Or.inr (Or.inr (Or.inl ⟨op_is h1, nat_of (hr 0 (by decide)) (by decide), nat_of (hr 1 (by decide)) (by decide), nat_of (hr 2 (by decide)) (by decide)⟩))))))
  · exact Or.inr (Or.inr (Or.inr (Or.inr (Or.inr (Or.inr (Or.inr (Or.inl ⟨op_is h1, nat_of (hr 0 (by decide)) (by decide), nat_of (hr 1 (by decide)) (by decide), nat_of (hr 2 (by decide)) (by decide)⟩)))))))
  · exact Or.inr (Or.inr (Or.inr (Or.inr (Or.inr (Or.inr (Or.inr (Or.inr (Or.inl ⟨op_is h1, nat_of (hr 0 (by decide)) (by decide), nat_of (hr 1 (by decide)) (by decide), nat_of (hr 2 (by decide)) (by decide)⟩))))))))
  · exact Or.inr (Or.inr (Or.inr (Or.inr (Or.inr (Or.inr (Or.inr (Or.inr (Or.inr (Or.inl ⟨op_is h1, nat_of (hr 0 (by decide)) (by decide), nat_of (hr 1 (by decide)) (by decide), nat_of (hr 2 (by decide)) (by decide)⟩)))))))))
  · exact Or.inr (Or.inr (Or.inr (Or.inr (Or.inr (Or.inr (Or.inr (Or.inr (Or.inr (Or.inr (Or.inl ⟨op_is h1, nat_of (hr 0 (by decide)) (by decide)⟩))))))))))
  · exact Or.inr (Or.inr (Or.inr (Or.inr (Or.inr (Or.inr (Or.inr (Or.inr (Or.inr (Or.inr (Or.inr (Or.inl ⟨op_is h1, nat_of (hr 0 (by decide)) (by decide)⟩)))))))))))
  · exact Or.inr (Or.inr (Or.inr (Or.inr (Or.inr (Or.inr (Or.inr (Or.inr (Or.inr (Or.inr (Or.inr (Or.inr (Or.inl ⟨op_is h1, nat_of (hr 0 (by decide)) (by decide)⟩))))))))))))
  · exact Or.inr (Or.inr (Or.inr (Or.inr (Or.inr (Or.inr (Or.inr (Or.inr (Or.inr (Or.inr (Or.inr (Or.inr (Or.inr (Or.inl ⟨op_is h1, nat_of (hr 0 (by decide)) (by decide)⟩)))))))))))))
  · exact Or.inr (Or.inr (Or.inr (Or.inr (Or.inr (Or.inr (Or.inr (Or.inr (Or.inr (Or.inr (Or.inr (Or.inr (Or.inr (Or.inr (Or.inl (op_is h1)))))))))))))))
  · exact Or.inr (Or.inr (Or.inr (Or.inr (Or.inr (Or.inr (Or.inr (Or.inr (Or.inr (Or.inr (Or.inr (Or.inr (Or.inr (Or.inr (Or.inr (Or.inl (op_is h1))))))))))))))))
  · exact Or.inr (Or.inr (Or.inr (Or.inr (Or.inr (Or.inr (Or.inr (Or.inr (Or.inr (Or.inr (Or.inr (Or.inr (Or.inr (Or.inr (Or.inr (Or.inr (Or.inl (op_is h1)))))))))))))))))
  · exact Or.inr (Or.inr (Or.inr (Or.inr (Or.inr (Or.inr (Or.inr (Or.inr (Or.inr (Or.inr (Or.inr (Or.inr (Or.inr (Or.inr (Or.inr (Or.inr (Or.inr (Or.inl ⟨op_is h1, nat_of (hr 0 (by decide)) (by decide), lab_of h (hl (by decide))⟩)))))))))))))))))
  · exact Or.inr (Or.inr (Or.inr (Or.inr (Or.inr (Or.inr (Or.inr (Or.inr (Or.inr (Or.inr (Or.inr (Or.inr (Or.inr (Or.inr (Or.inr (Or.inr (Or.inr (Or.inr (Or.inl ⟨op_is h1, nat_of (hr 0 (by decide)) (by decide), nat_of (hr 1 (by decide)) (by decide), lab_of h (hl (by decide))⟩))))))))))))))))))
  · exact Or.inr (Or.inr (Or.inr (Or.inr (Or.inr (Or.inr (Or.inr (Or.inr (Or.inr (Or.inr (Or.inr (Or.inr (Or.inr (Or.inr (Or.inr (Or.inr (Or.inr (Or.inr (Or.inr (Or.inl ⟨op_is h1, lab_of h (hl (by decide))⟩)))))))))))))))))))
  · exact Or.inr (Or.inr (Or.inr (Or.inr (Or.inr (Or.inr (Or.inr (Or.inr (Or.inr (Or.inr (Or.inr (Or.inr (Or.inr (Or.inr (Or.inr (Or.inr (Or.inr (Or.inr (Or.inr (Or.inr (⟨op_is h1, lab_of h (hl (by decide))⟩))))))))))))))))))))
end Go.Proofs.YtnnlkolhahjokaaGreatDoor
