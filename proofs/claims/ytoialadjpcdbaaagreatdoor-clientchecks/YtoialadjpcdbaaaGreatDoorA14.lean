import Derived.Test.YtoialadjpcdbaaaGreatDoorA13
import Derived.Test.YtoialadjpcdbaaaGreatDoorA11
import Derived.Test.YtoialadjpcdbaaaGreatDoorA10
import Derived.Laws.Rows
import Derived.Test.YtoialadjpcdbaaaGreatDoorA05

/- ProgF -/
namespace Go.Proofs.YtoialadjpcdbaaaGreatDoor
open Go.RowKit Go.Extern.Stop Go.Stop Go.Extern Go.Maps Go.WideMaps

def errIs (a : Nat → Addr) (f : Nat × Int) (v : Value) (w : World) (B : Nat) : Prop :=
  (f.1 = 0 ∧ v = .nilIface) ∨ (f.1 ≠ 0 ∧ f.2 = -1 ∧ v = xval a f.1) ∨
  (f.1 ≠ 0 ∧ ∃ j N : Nat, f.2 = j ∧ B ≤ N ∧ v = .iface 94 (.pointer (some ⟨N, 0, none⟩)) ∧ w.cell? ⟨N, 0, none⟩ = some (.int .i64 j) ∧ w.cell? ⟨N, 1, none⟩ = some (xval a f.1))

end Go.Proofs.YtoialadjpcdbaaaGreatDoor

/- MkA -/
namespace Go.Proofs.YtoialadjpcdbaaaGreatDoor
open Go.RowKit Go.Maps Go.WideMaps

structure Pg (a : Nat → Addr) (cs : List (List Ins)) (pb pc : Nat) (W : World) : Prop where
  env : Env a W
  cap : cs.length ≤ pc
  code : ∀ (t : Nat) L, cs[t]? = some L → ∃ ad cap lb, W.cell? ⟨pb, t * 2, none⟩ = some (.slice ad L.length cap) ∧ L.length ≤ cap ∧ W.cell? ⟨pb, t * 2 + 1, none⟩ = some (.map (some lb)) ∧ insAt ad L W ∧
    W.ownsMap Tryz.prog 9 (plainElem Tryz.prog 3) lb L.length (setD L L.length)
  right : ∀ (t : Nat) L, cs[t]? = some L → L.length ≤ 2000 ∧ ∀ (i : Nat) x, L[i]? = some x → InsOk L x ∧ x.to.size ≤ maxLen
  few : cs.length ≤ 6

theorem ownsMap_below {H : Type} {P : Program} {k : TypeId} {R : Value → Option (DataW H × List MemPlace)} {w w' : World} {b n : Nat} {D : DataW H} (h : w.ownsMap P k R b n D) (hb : Below w.heap.size w w') : w'.ownsMap P k R b n D := by
  have hl := h.lt
  obtain ⟨es, clock, h1, F, hs, hD⟩ := h
  exact ⟨es, clock, by rw [hb.block b hl]; exact h1, F, hs, hD⟩

theorem Pg.below {a : Nat → Addr} {cs : List (List Ins)} {pb pc : Nat} {W w : World} (h : Pg a cs pb pc W) (hb : Below W.heap.size W w) : Pg a cs pb pc w where
  env := h.env.below hb.block
  cap := h.cap
  code t L ht := by
    obtain ⟨ad, cap, lb, h1, h2, h3, h4, h5⟩ := h.code t L ht
    exact ⟨ad, cap, lb, keep_cell hb h1, h2, keep_cell hb h3, insAt_below h4 hb, ownsMap_below h5 hb⟩
  right := h.right
  few := h.few

structure PgB (a : Nat → Addr) (cs : List (List Ins)) (pb pc B : Nat) (w : World) : Prop where
  ex : ∃ W, Pg a cs pb pc W ∧ W.heap.size = B ∧ Below B W w
theorem PgB.envB {a : Nat → Addr} {cs : List (List Ins)} {pb pc B : Nat} {w : World} (h : PgB a cs pb pc B w) : EnvB a B w := by
  obtain ⟨W, h1, h2, h3⟩ := h.ex
  exact ⟨W, h1.env.toM, h2, h3⟩
theorem PgB.size {a : Nat → Addr} {cs : List (List Ins)} {pb pc B : Nat} {w : World} (h : PgB a cs pb pc B w) : B ≤ w.heap.size := h.envB.size
theorem PgB.turns {S : Nat → Nat → Prop} {a : Nat → Addr} {cs : List (List Ins)} {pb pc B : Nat} {w w' : World} (h : PgB a cs pb pc B w) (t : Turns S w w') (hS : ∀ k o, S k o → B ≤ k) : PgB a cs pb pc B w' := by
  obtain ⟨W, h1, rfl, h3⟩ := h.ex
  exact ⟨W, h1, rfl, h3.trans (t.below h3.size (fun k o hk hs => by have := hS k o hs; omega))⟩

structure MkPl where
  B : Nat
  b : Nat
  pb : Nat
  pc : Nat
  mv : Value
def MkPl.fp (p : MkPl) (k : Nat) : Prop := k = p.b ∨ p.mv.ownBlock = some k

end Go.Proofs.YtoialadjpcdbaaaGreatDoor

/- Words -/
namespace Go.Proofs.YtoialadjpcdbaaaGreatDoor
open Go.RowKit Go.Extern.Stop Go.Stop Go.Extern

def Worded (c g : Int) : Prop := 0 ≤ c ∧ c < 64 ∧ 0 ≤ g ∧ g * 64 + c + 1 < 4294967296

theorem word_ok (c g : Int) (w : World) (h : Worded c g) :
    Calls Tryz.prog 41 #[.agg #[.int .i64 c, .int .i64 g]] w fun e w' => e = .returned (.tuple #[.int .i64 (g * 64 + c + 1), .nilIface]) ∧ Below w.heap.size w w' := by
  obtain ⟨h0, h1, h2, h3⟩ := h
  have h4 : ¬ ((4294967294 - c) / 64 < g) := by omega
  have hg : g ≤ 67108863 := by omega
  have hba := box_below c g w
  clear h3
  go_enter Tryz.func41, Tryz.ntmps41
  go_wp2
  go_ret2
  exact ⟨rfl, hba⟩

end Go.Proofs.YtoialadjpcdbaaaGreatDoor
