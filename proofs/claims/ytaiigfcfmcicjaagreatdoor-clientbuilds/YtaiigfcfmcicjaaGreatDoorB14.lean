import Derived.Test.YtaiigfcfmcicjaaGreatDoorB04
import Derived.Test.YtaiigfcfmcicjaaGreatDoorB13
import Derived.Maps.Own
import Derived.Maps.OwnOps
import Derived.Maps.OwnSet
import Derived.StringKeys
import Derived.Lib.LaidTab
import Derived.Test.YtaiigfcfmcicjaaGreatDoorB12
import Derived.Test.YtaiigfcfmcicjaaGreatDoorB11
import Derived.Laws.Rows

/- ProgE -/
namespace Go.Proofs.YtaiigfcfmcicjaaGreatDoor
open Go.RowKit Go.Extern.Stop Go.Stop Go.Extern Go.Maps Go.WideMaps

def xid : Nat → Nat
  | 0 => 0 | 1 => 1 | 2 => 2 | 3 => 3 | _ => 4
abbrev xerr (a : Addr) : Value := .iface 227 (.pointer (some a))
def xval (a : Nat → Addr) : Nat → Value
  | 0 => .nilIface
  | k + 1 => xerr (a k)

theorem cell_block {w w' : World} (hb : ∀ k, k < w.heap.size → w'.heap[k]? = w.heap[k]?) {p : Addr} {v : Value} (h : w.cell? p = some v) : w'.cell? p = some v := by
  rw [World.cell?_of_block (w := w) (hb _ (World.block_lt_of_cell? w _ h))]; exact h
structure EnvE (a : Nat → Addr) (w : World) : Prop where
  err : ∀ i, 0 < i ∧ i < 5 → w.cell? ⟨xid i, 0, none⟩ = some (xerr (a i))
theorem EnvE.block {a : Nat → Addr} {w w' : World} (h : EnvE a w) (hb : ∀ k, k < w.heap.size → w'.heap[k]? = w.heap[k]?) : EnvE a w' := ⟨fun i hi => cell_block hb (h.err i hi)⟩
theorem EnvE.below {a : Nat → Addr} {w w' : World} (h : EnvE a w) (hb : Below w.heap.size w w') : EnvE a w' := h.block hb.block
end Go.Proofs.YtaiigfcfmcicjaaGreatDoor

/- ProgF -/
namespace Go.Proofs.YtaiigfcfmcicjaaGreatDoor
open Go.RowKit Go.Extern.Stop Go.Stop Go.Extern Go.Maps Go.WideMaps

def errIs (a : Nat → Addr) (f : Nat × Int) (v : Value) (w : World) (B : Nat) : Prop :=
  (f.1 = 0 ∧ v = .nilIface) ∨ (f.1 ≠ 0 ∧ f.2 = -1 ∧ v = xval a f.1) ∨
  (f.1 ≠ 0 ∧ ∃ j N : Nat, f.2 = j ∧ B ≤ N ∧ v = .iface 105 (.pointer (some ⟨N, 0, none⟩)) ∧ w.cell? ⟨N, 0, none⟩ = some (.int .i64 j) ∧ w.cell? ⟨N, 1, none⟩ = some (xval a f.1))

end Go.Proofs.YtaiigfcfmcicjaaGreatDoor

/- MkA -/
namespace Go.Proofs.YtaiigfcfmcicjaaGreatDoor
open Go.RowKit Go.Maps Go.WideMaps

structure Pg (a : Nat → Addr) (cs : List (List Ins)) (pb pc : Nat) (W : World) : Prop where
  env : Env a W
  cap : cs.length ≤ pc
  code : ∀ (t : Nat) L, cs[t]? = some L → ∃ ad cap lb, W.cell? ⟨pb, t * 2, none⟩ = some (.slice ad L.length cap) ∧ L.length ≤ cap ∧ W.cell? ⟨pb, t * 2 + 1, none⟩ = some (.map (some lb)) ∧ insAt ad L W ∧
    W.ownsMap Tryz.prog 9 (plainElem Tryz.prog 3) lb L.length (setD L L.length)
  right : ∀ (t : Nat) L, cs[t]? = some L → L.length ≤ 2000 ∧ ∀ (i : Nat) x, L[i]? = some x → InsOk L x ∧ x.to.size ≤ maxLen
  few : cs.length ≤ 6

theorem ownsMap_below {H : Type} {P : Program} {k : TypeId} {R : Value → Option (DataW H × List MemPlace)} {w w' : World} {b n : Nat} {D : DataW H} (h : w.ownsMap P k R b n D) (hb : Below w.heap.size w w') : w'.ownsMap P k R b n D := by
  have hl := h.lt
  obtain ⟨es, clock, h1, F, hs, hD⟩ := h
  exact ⟨es, clock, by rw [hb.block b hl]; exact h1, F, hs, hD⟩

theorem Pg.below {a : Nat → Addr} {cs : List (List Ins)} {pb pc : Nat} {W w : World} (h : Pg a cs pb pc W) (hb : Below W.heap.size W w) : Pg a cs pb pc w where
  env := h.env.below hb.block
  cap := h.cap
  code t L ht := by
    obtain ⟨ad, cap, lb, h1, h2, h3, h4, h5⟩ := h.code t L ht
    exact ⟨ad, cap, lb, keep_cell hb h1, h2, keep_cell hb h3, insAt_below h4 hb, ownsMap_below h5 hb⟩
  right := h.right
  few := h.few

structure PgB (a : Nat → Addr) (cs : List (List Ins)) (pb pc B : Nat) (w : World) : Prop where
  ex : ∃ W, Pg a cs pb pc W ∧ W.heap.size = B ∧ Below B W w
theorem PgB.envB {a : Nat → Addr} {cs : List (List Ins)} {pb pc B : Nat} {w : World} (h : PgB a cs pb pc B w) : EnvB a B w := by
  obtain ⟨W, h1, h2, h3⟩ := h.ex
  exact ⟨W, h1.env.toM, h2, h3⟩
theorem PgB.size {a : Nat → Addr} {cs : List (List Ins)} {pb pc B : Nat} {w : World} (h : PgB a cs pb pc B w) : B ≤ w.heap.size := h.envB.size
theorem PgB.turns {S : Nat → Nat → Prop} {a : Nat → Addr} {cs : List (List Ins)} {pb pc B : Nat} {w w' : World} (h : PgB a cs pb pc B w) (t : Turns S w w') (hS : ∀ k o, S k o → B ≤ k) : PgB a cs pb pc B w' := by
  obtain ⟨W, h1, rfl, h3⟩ := h.ex
  exact ⟨W, h1, rfl, h3.trans (t.below h3.size (fun k o hk hs => by have := hS k o hs; omega))⟩

structure MkPl where
  B : Nat
  b : Nat
  pb : Nat
  pc : Nat
  mv : Value
def MkPl.fp (p : MkPl) (k : Nat) : Prop := k = p.b ∨ p.mv.ownBlock = some k

end Go.Proofs.YtaiigfcfmcicjaaGreatDoor
