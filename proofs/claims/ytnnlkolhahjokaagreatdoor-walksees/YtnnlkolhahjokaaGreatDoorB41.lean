import Derived.Test.YtnnlkolhahjokaaGreatDoorB39
import Derived.Test.YtnnlkolhahjokaaGreatDoorB40
import Derived.Test.YtnnlkolhahjokaaGreatDoorB37
import Derived.Test.YtnnlkolhahjokaaGreatDoorB15
import Derived.Laws.IdiomStrings
import Derived.Test.YtnnlkolhahjokaaGreatDoorB31
import Derived.Test.YtnnlkolhahjokaaGreatDoorB35
import Derived.Test.YtnnlkolhahjokaaGreatDoorB02
import Derived.Test.YtnnlkolhahjokaaGreatDoorB30
import Derived.Maps.AppendAt
import Derived.Laws.AppendOwnNone

/- SpG -/
namespace Go.Proofs.YtnnlkolhahjokaaGreatDoor
open Go.RowKit Go.Extern.Stop Go.Stop Go.Extern Go.Maps Go.WideMaps Go.Sort

theorem insOwn_kept {w w' : World} {base : Nat} {v : Value} {l : List Ins} {ob : Option Nat} (h : insOwn w base v l) (hg : w.grownBy w' ob) (hne : v.ownBlock = none ∨ v.ownBlock ≠ ob) : insOwn w' base v l := World.ownsRow.kept h hg hne

end Go.Proofs.YtnnlkolhahjokaaGreatDoor

/- StM -/
namespace Go.Proofs.YtnnlkolhahjokaaGreatDoor
open Go.RowKit Go.Extern.Stop Go.Stop Go.Extern Go.Maps Go.WideMaps Go.Sort

theorem RunX.step {a : Nat → Addr} {cs : List (List Ins)} {p : MkPl} {m : Mk} {K : Nat} {w : World} (h : RunX a cs p m K w) (hK : K + 1 ≤ 10000000) (t : Int) :
    Calls Tryz.prog 33 #[.pointer (some ⟨p.b, 0, none⟩), .int .i64 t] w fun e w' => e = .returned (errVal a (m.stepO cs t).1) ∧ ∃ v, RunX a cs (p.marked v) (m.stepO cs t).2 (K + 1) w' ∧ MkStep a cs p w v (m.stepO cs t).2 w' :=
  (kstepO h t).mono fun e w' ⟨e1, v, e2⟩ => ⟨e1, v, h.of e2 (h.ok.stepO h.right t (by omega)) hK, e2⟩

theorem MkStep.belowB {a : Nat → Addr} {cs : List (List Ins)} {p : MkPl} {v : Value} {m m' : Mk} {w w' : World} (k : MkStep a cs p w v m' w') (h : MkAt a cs p m w) {N : Nat} (hB : N ≤ p.B) (hw : N ≤ w.heap.size) : Below N w w' :=
  k.turns.below hw (fun i o hi hf => by have := h.fp_ge hf; omega)

end Go.Proofs.YtnnlkolhahjokaaGreatDoor

/- StP -/
namespace Go.Proofs.YtnnlkolhahjokaaGreatDoor
open Go.RowKit Go.Extern.Stop Go.Stop Go.Extern Go.Maps Go.WideMaps Go.Sort

structure NumsX (ad : Option Addr) (l : List Int) (cap : Nat) (w : World) : Prop where
  at' : numsAt ad l w
  nil' : ad = none → l = [] ∧ cap = 0
  len : l.length ≤ 9223372036854775807
theorem NumsX.below {ad : Option Addr} {l : List Int} {cap : Nat} {w w' : World} (h : NumsX ad l cap w) (hb : Below w.heap.size w w') : NumsX ad l cap w' := ⟨h.at'.below hb, h.nil', h.len⟩

theorem RunX.run {a : Nat → Addr} {cs : List (List Ins)} {p : MkPl} {m : Mk} {K : Nat} {w0 w : World} (h : RunX a cs p m K w0) {ad : Option Addr} {l : List Int} {cap : Nat} (hb : Below w0.heap.size w0 w) (hl : numsAt ad l w) (hcap : l.length ≤ cap) (hlen : l.length ≤ 300) (hK : K ≤ 1000)
    (hd : ∀ b off, ad = some ⟨b, off, none⟩ → w0.heap.size ≤ b ∧ b < w.heap.size) :
    Calls Tryz.prog 10 #[.pointer (some ⟨p.b, 0, none⟩), .slice ad l.length cap] w fun e w' => e = .returned (.int .i64 (m.runO cs l).1) ∧ ∃ v, MkStep a cs p w v (m.runO cs l).2 w' ∧ RunX a cs (p.marked v) (m.runO cs l).2 (K + 300) w' := by
  refine (krun_any (h.below hb) hl (by omega) hcap (by omega) (fun b off e => ⟨(hd b off e).2, fun hf => ?_⟩)).mono fun e w' ⟨e1, v, e2, e3⟩ => ⟨e1, v, e2, ⟨e3.at', e3.ok.mono (by omega), e3.right, by omega⟩⟩
  have := h.at'.fp_lt hf
  have := (hd b off e).1
  omega

structure Three (a : Nat → Addr) (cs : List (List Ins)) (N : Nat) (p q r : MkPl) (mp mq mr : Mk) (K : Nat) (w : World) : Prop where
  xp : RunX a cs p mp K w
  xq : RunX a cs q mq K w
  xr : RunX a cs r mr K w
  pq : ∀ k, p.fp k → ¬ q.fp k
  pr : ∀ k, p.fp k → ¬ r.fp k
  qr : ∀ k, q.fp k → ¬ r.fp k
  bp : N ≤ p.B
  bq : q.B = p.B
  br : r.B = p.B
theorem Three.below {a : Nat → Addr} {cs : List (List Ins)} {N : Nat} {p q r : MkPl} {mp mq mr : Mk} {K : Nat} {w w' : World} (h : Three a cs N p q r mp mq mr K w) (hb : Below w.heap.size w w') : Three a cs N p q r mp mq mr K w' := ⟨h.xp.below hb, h.xq.below hb, h.xr.below hb, h.pq, h.pr, h.qr, h.bp, h.bq, h.br⟩
end Go.Proofs.YtnnlkolhahjokaaGreatDoor
