import Derived.Test.YtepgcgokolmedaaDoorB03
import Derived.Test.YtepgcgokolmedaaDoorB12
import Derived.Maps.Own
import Derived.Maps.OwnOps
import Derived.Maps.OwnSet
import Derived.StringKeys
import Derived.Lib.LaidTab
import Derived.Test.YtepgcgokolmedaaDoorB11
import Derived.Test.YtepgcgokolmedaaDoorB10
import Derived.Laws.Rows
import Derived.Deep.RegionHeld3
import Derived.StillTail
import Derived.Tactics

/- ProgE -/
namespace Go.Proofs.YtepgcgokolmedaaDoor
open Go.RowKit Go.Extern.Stop Go.Stop Go.Extern Go.Maps Go.WideMaps

def xid : Nat → Nat
  | 0 => 1 | 1 => 0 | 2 => 2 | 3 => 3 | _ => 4
abbrev xerr (a : Addr) : Value := .iface 141 (.pointer (some a))
theorem cell_block {w w' : World} (hb : ∀ k, k < w.heap.size → w'.heap[k]? = w.heap[k]?) {p : Addr} {v : Value} (h : w.cell? p = some v) : w'.cell? p = some v := by
  rw [World.cell?_of_block (w := w) (hb _ (World.block_lt_of_cell? w _ h))]; exact h
structure EnvE (a : Nat → Addr) (w : World) : Prop where
  err : ∀ i, 0 < i ∧ i < 5 → w.cell? ⟨xid i, 0, none⟩ = some (xerr (a i))
theorem EnvE.block {a : Nat → Addr} {w w' : World} (h : EnvE a w) (hb : ∀ k, k < w.heap.size → w'.heap[k]? = w.heap[k]?) : EnvE a w' := ⟨fun i hi => cell_block hb (h.err i hi)⟩
theorem EnvE.below {a : Nat → Addr} {w w' : World} (h : EnvE a w) (hb : Below w.heap.size w w') : EnvE a w' := h.block hb.block
end Go.Proofs.YtepgcgokolmedaaDoor

/- MkA -/
namespace Go.Proofs.YtepgcgokolmedaaDoor
open Go.RowKit Go.Maps Go.WideMaps

structure Pg (a : Nat → Addr) (cs : List (List Ins)) (pb pc : Nat) (W : World) : Prop where
  env : Env a W
  cap : cs.length ≤ pc
  code : ∀ (t : Nat) L, cs[t]? = some L → ∃ ad cap lb, W.cell? ⟨pb, t * 2, none⟩ = some (.slice ad L.length cap) ∧ L.length ≤ cap ∧ W.cell? ⟨pb, t * 2 + 1, none⟩ = some (.map (some lb)) ∧ insAt ad L W ∧
    W.ownsMap Tryd.prog 9 (plainElem Tryd.prog 3) lb L.length (setD L L.length)
  right : ∀ (t : Nat) L, cs[t]? = some L → L.length ≤ 2000 ∧ ∀ (i : Nat) x, L[i]? = some x → InsOk L x ∧ x.to.size ≤ maxLen
  few : cs.length ≤ 6

theorem ownsMap_below {H : Type} {P : Program} {k : TypeId} {R : Value → Option (DataW H × List MemPlace)} {w w' : World} {b n : Nat} {D : DataW H} (h : w.ownsMap P k R b n D) (hb : Below w.heap.size w w') : w'.ownsMap P k R b n D := by
  have hl := h.lt
  obtain ⟨es, clock, h1, F, hs, hD⟩ := h
  exact ⟨es, clock, by rw [hb.block b hl]; exact h1, F, hs, hD⟩

theorem Pg.below {a : Nat → Addr} {cs : List (List Ins)} {pb pc : Nat} {W w : World} (h : Pg a cs pb pc W) (hb : Below W.heap.size W w) : Pg a cs pb pc w where
  env := h.env.below hb.block
  cap := h.cap
  code t L ht := by
    obtain ⟨ad, cap, lb, h1, h2, h3, h4, h5⟩ := h.code t L ht
    exact ⟨ad, cap, lb, keep_cell hb h1, h2, keep_cell hb h3, insAt_below h4 hb, ownsMap_below h5 hb⟩
  right := h.right
  few := h.few

structure PgB (a : Nat → Addr) (cs : List (List Ins)) (pb pc B : Nat) (w : World) : Prop where
  ex : ∃ W, Pg a cs pb pc W ∧ W.heap.size = B ∧ Below B W w
theorem PgB.envB {a : Nat → Addr} {cs : List (List Ins)} {pb pc B : Nat} {w : World} (h : PgB a cs pb pc B w) : EnvB a B w := by
  obtain ⟨W, h1, h2, h3⟩ := h.ex
  exact ⟨W, h1.env.toM, h2, h3⟩
theorem PgB.size {a : Nat → Addr} {cs : List (List Ins)} {pb pc B : Nat} {w : World} (h : PgB a cs pb pc B w) : B ≤ w.heap.size := h.envB.size
theorem PgB.turns {S : Nat → Nat → Prop} {a : Nat → Addr} {cs : List (List Ins)} {pb pc B : Nat} {w w' : World} (h : PgB a cs pb pc B w) (t : Turns S w w') (hS : ∀ k o, S k o → B ≤ k) : PgB a cs pb pc B w' := by
  obtain ⟨W, h1, rfl, h3⟩ := h.ex
  exact ⟨W, h1, rfl, h3.trans (t.below h3.size (fun k o hk hs => by have := hS k o hs; omega))⟩

structure MkPl where
  B : Nat
  b : Nat
  pb : Nat
  pc : Nat
  mv : Value
def MkPl.fp (p : MkPl) (k : Nat) : Prop := k = p.b ∨ p.mv.ownBlock = some k

end Go.Proofs.YtepgcgokolmedaaDoor

/- RegF -/
namespace Go.Proofs.YtepgcgokolmedaaDoor
open Go

section
variable {P : Program} {ops : Array Oper} {Q : Exit → Act → World → Prop} {md : Region.Mode} {S : World → Prop}

structure ShutL (md : Region.Mode) (ops : Array Oper) (listed : Array Bool) : Prop where
  out : ∀ k i, k < ops.size → i < ops.size → Region.waitsFor md ops k i = true → listed.getD k true = true → listed.getD i false = true
theorem getD_set_self {listed : Array Bool} {j k : Nat} (h : (listed.setIfInBounds j true).getD k true = true) (hne : j ≠ k) : listed.getD k true = true := by
  rwa [getD_set_ne true hne] at h
theorem ShutL.set {listed : Array Bool} {j : Nat} (h : ShutL md ops listed) (hj : j ∈ Region.ready md ops listed) : ShutL md ops (listed.setIfInBounds j true) := ⟨fun k i hk hi hw hl => by
  by_cases e : j = k
  · subst e
    obtain ⟨-, o, ho, hall⟩ := mem_ready.1 hj
    obtain ⟨o', ho', e, he, hb, hon⟩ := Region.waitsFor_spec hw
    obtain rfl : o' = o := Option.some.inj (ho'.symm.trans ho)
    have := hall e he hb
    rw [hon] at this
    exact getD_set_true this
  · exact getD_set_true (h.out k i hk hi hw (getD_set_self hl e))⟩

end
end Go.Proofs.YtepgcgokolmedaaDoor
