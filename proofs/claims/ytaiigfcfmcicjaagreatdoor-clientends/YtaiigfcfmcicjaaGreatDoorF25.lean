import Derived.Test.YtaiigfcfmcicjaaGreatDoorF24
namespace Go.Proofs.YtaiigfcfmcicjaaGreatDoor
set_option maxRecDepth 100000
set_option maxHeartbeats 8000000
section
open Go.RowKit
section
variable {f : Nat} {J : Prop} {t d : Nat} {V : Nat -> Int}
theorem Bq.zero (h : Bq f J t d V) (hf : f ≠ 3) (h0 : V 0 = 0) : d = 0 := by
 rcases Nat.eq_zero_or_pos d with e | e
 ·exact e
 ·exact absurd h0 ((h.2.1 hf).2 e).1
theorem Bq.pos (h : Bq f J t d V) (hf : f ≠ 3) (h0 : V 0 ≠ 0) : 0 < d := by
 rcases Nat.eq_zero_or_pos d with e | e
 ·exact absurd ((h.2.1 hf).1 e).1 h0
 ·exact e
theorem Bq.two (h : Bq f J t d V) (hf : f ≠ 3) (hd : 0 < d) : V 2 = (d : Int) - 1 := ((h.2.1 hf).2 hd).2
theorem Bq.jn (h : Bq f J t d V) (hd : 0 < d) (h4 : f = 4) : J := by
 rcases Classical.em J with e | e
 ·exact e
 ·have := ((h.2.2 h4).2 e).2; omega
theorem Bq.set2 (h : Bq f J t d V) (hf : f ≠ 3) (hd : 0 < d) {e : Nat} {r : Int} (he : 0 < e) (hr : r = (e : Int) - 1) : Bq f J t e (fun j => if j = 2 then r else V j) := by
 refine ⟨fun h3 => absurd h3 hf, fun _ => ⟨fun e0 => by omega, fun _ => ⟨((h.2.1 hf).2 hd).1, hr⟩⟩, fun h4 => ⟨fun hJ => (h.2.2 h4).1 hJ, fun hJ => absurd (h.jn hd h4) hJ⟩⟩
theorem Bq.in' (h : Bq f J t d V) (hf : f ≠ 3) (hd : d = 0) {r : Int} (hr : r ≠ 0) (hJ : f = 4 -> J) : Bq f J t (d + 1) (fun j => if j = 0 then r else V j) := by
 refine ⟨fun h3 => absurd h3 hf, fun _ => ⟨fun e0 => by omega, fun _ => ⟨hr, ?_⟩⟩, fun h4 => ⟨fun hj => (h.2.2 h4).1 hj, fun hj => absurd (hJ h4) hj⟩⟩
 show V 2 = ((d + 1 : Nat) : Int) - 1
 rw [((h.2.1 hf).1 hd).2, hd]; rfl
theorem Bq.out' (h : Bq f J t d V) (hf : f ≠ 3) (hd : d = 1) {r : Int} (hr : r = 0) : Bq f J t (d - 1) (fun j => if j = 0 then r else V j) := by
 refine ⟨fun h3 => absurd h3 hf, fun _ => ⟨fun _ => ⟨hr, ?_⟩, fun e0 => by omega⟩, fun h4 => ⟨fun hj => (h.2.2 h4).1 hj, fun hj => absurd (h.jn (by omega) h4) hj⟩⟩
 show V 2 = 0
 rw [h.two hf (by omega), hd]; rfl
end
theorem qgg_enter : isQ .enter := trivial
theorem qgg_leave : isQ .leave := trivial
theorem qgg_rest : isQ .rest := trivial
theorem qgg_gone : isQ .gone := trivial
theorem qgg_wait : isQ .wait := trivial
section
variable {n : Nat} {G : Gq} {m : Mk} {t : Nat} {q d : Nat} {i : GI}
theorem qown_enter1 (h : QD 1 n G m) (ht : t < n) (hp : G.pt t = some ⟨.enter, q, d⟩) (hd : d <= 100) (hi : (gEnter 1)[q]? = some i) : Sq 1 n G t (some ⟨.enter, gNext (gEnter 1) q (m.regs t) i, d⟩) (gExec m t i) := by
 have L := h.1.la t ht
 rw [hp] at L
 have L := L.2
 have r6 := h.1.r6 t ht
 match q, hp, hi, L with
 | 0, hp, hi, L =>
  have e : GI.load 0 6 0 = i := Option.some.inj hi
  subst e
  exact h.sload ht qgg_enter hp (q' := 1) (by decide) ⟨by decide, L, rfl⟩ (fun e => by cases e)
 | 1, hp, hi, L =>
  have e : GI.zero 0 2 = i := Option.some.inj hi
  subst e
  show Sq 1 n G t (some ⟨.enter, if m.regs t 0 = 0 then gAt 2 (gEnter 1) else 2, d⟩) m
  by_cases hz : m.regs t 0 = 0
  ·rw [if_pos hz]
   exact h.sno ht qgg_enter hp (q' := 7) ⟨by decide, L.1, L.1.zero (by decide) (by rw [<- L.2]; exact hz)⟩ (fun e => by cases e)
  ·rw [if_neg hz]
   exact h.sno ht qgg_enter hp (q' := 2) ⟨by decide, L.1, L.1.pos (by decide) (by rw [<- L.2]; exact hz)⟩ (fun e => by cases e)
 | 2, hp, hi, L =>
  have e : GI.load 0 6 2 = i := Option.some.inj hi
  subst e
  exact h.sload ht qgg_enter hp (q' := 3) (by decide) ⟨by decide, L.1, L.2, rfl⟩ (fun e => by cases e)
 | 3, hp, hi, L =>
  have e : GI.const 1 1 = i := Option.some.inj hi
  subst e
  exact h.sreg ht qgg_enter hp (q' := 4) (by decide) ⟨by decide, L.1, L.2.1, L.2.2, rfl⟩ (fun e => by cases e)
 | 4, hp, hi, L =>
  have e : GI.add 0 0 1 = i := Option.some.inj hi
  subst e
  refine h.sreg ht qgg_enter hp (q' := 5) (by decide) ⟨by decide, L.1, L.2.1, ?_⟩ (fun e => by cases e)
  show (m.regs t 0 + m.regs t 1) % 4294967296 = ovq m t 2 + 1
  rw [L.2.2.1, L.2.2.2, L.1.two (by decide) L.2.1]
  omega
 | 5, hp, hi, L =>
  have e : GI.store 6 0 2 = i := Option.some.inj hi
  subst e
  exact h.sstore ht qgg_enter (by decide) hp (q' := 6) (fun e => absurd e (by decide)) (fun e => absurd e (by decide)) ⟨by decide, L.1.set2 (by decide) L.2.1 (Nat.succ_pos _) (by rw [L.2.2, L.1.two (by decide) L.2.1]; omega)⟩
 | 6, hp, hi, L =>
  have e : GI.goto 1 = i := Option.some.inj hi
  subst e
  exact h.sno ht qgg_enter hp (q' := 10) ⟨by decide, L⟩ (fun e => by cases e)
 | 7, hp, hi, L =>
  have e : GI.label 2 = i := Option.some.inj hi
  subst e
  exact h.sno ht qgg_enter hp (q' := 8) ⟨by decide, L⟩ (fun e => by cases e)
 | 8, hp, hi, L =>
  have e : GI.load 0 7 0 = i := Option.some.inj hi
  subst e
  exact h.shub ht qgg_enter hp (q' := 9) (by decide) ⟨by decide, L.1, L.2, fun e => by have := h.1.hub; have e : m.mem.ar.words 2 0 = 0 := e; omega⟩ (fun e => by cases e)
 | 9, hp, hi, L =>
  have e : GI.swap 0 6 0 = i := Option.some.inj hi
  subst e
  exact h.sswap ht qgg_enter hp (q' := 10) (b := true) (.inl ⟨rfl, rfl⟩) (fun _ => ⟨by decide, L.1.in' (by decide) L.2.1 L.2.2 (fun e => absurd e (by decide))⟩) (fun e => by cases e)
 | 10, hp, hi, L =>
  have e : GI.label 1 = i := Option.some.inj hi
  subst e
  exact h.sno ht qgg_enter hp (q' := 11) ⟨by decide, L⟩ (fun e => by cases e)
 | k + 11, hp, hi, L => exact nomatch (show (none : Option GI) = some i from hi)
theorem qown_enter2 (h : QD 2 n G m) (ht : t < n) (hp : G.pt t = some ⟨.enter, q, d⟩) (hd : d <= 100) (hi : (gEnter 2)[q]? = some i) : Sq 2 n G t (some ⟨.enter, gNext (gEnter 2) q (m.regs t) i, d⟩) (gExec m t i) := by
 have L := h.1.la t ht
 rw [hp] at L
 have L := L.2
 have r6 := h.1.r6 t ht
 match q, hp, hi, L with
 | 0, hp, hi, L =>
  have e : GI.load 0 6 0 = i := Option.some.inj hi
  subst e
  exact h.sload ht qgg_enter hp (q' := 1) (by decide) ⟨by decide, L, rfl⟩ (fun e => by cases e)
 | 1, hp, hi, L =>
  have e : GI.zero 0 2 = i := Option.some.inj hi
  subst e
  show Sq 2 n G t (some ⟨.enter, if m.regs t 0 = 0 then gAt 2 (gEnter 2) else 2, d⟩) m
  by_cases hz : m.regs t 0 = 0
  ·rw [if_pos hz]
   exact h.sno ht qgg_enter hp (q' := 7) ⟨by decide, L.1, L.1.zero (by decide) (by rw [<- L.2]; exact hz)⟩ (fun e => by cases e)
  ·rw [if_neg hz]
   exact h.sno ht qgg_enter hp (q' := 2) ⟨by decide, L.1, L.1.pos (by decide) (by rw [<- L.2]; exact hz)⟩ (fun e => by cases e)
 | 2, hp, hi, L =>
  have e : GI.load 0 6 2 = i := Option.some.inj hi
  subst e
  exact h.sload ht qgg_enter hp (q' := 3) (by decide) ⟨by decide, L.1, L.2, rfl⟩ (fun e => by cases e)
 | 3, hp, hi, L =>
  have e : GI.const 1 1 = i := Option.some.inj hi
  subst e
  exact h.sreg ht qgg_enter hp (q' := 4) (by decide) ⟨by decide, L.1, L.2.1, L.2.2, rfl⟩ (fun e => by cases e)
 | 4, hp, hi, L =>
  have e : GI.add 0 0 1 = i := Option.some.inj hi
  subst e
  refine h.sreg ht qgg_enter hp (q' := 5) (by decide) ⟨by decide, L.1, L.2.1, ?_⟩ (fun e => by cases e)
  show (m.regs t 0 + m.regs t 1) % 4294967296 = ovq m t 2 + 1
  rw [L.2.2.1, L.2.2.2, L.1.two (by decide) L.2.1]
  omega
 | 5, hp, hi, L =>
  have e : GI.store 6 0 2 = i := Option.some.inj hi
  subst e
  exact h.sstore ht qgg_enter (by decide) hp (q' := 6) (fun e => absurd e (by decide)) (fun e => absurd e (by decide)) ⟨by decide, L.1.set2 (by decide) L.2.1 (Nat.succ_pos _) (by rw [L.2.2, L.1.two (by decide) L.2.1]; omega)⟩
 | 6, hp, hi, L =>
  have e : GI.goto 1 = i := Option.some.inj hi
  subst e
  exact h.sno ht qgg_enter hp (q' := 10) ⟨by decide, L⟩ (fun e => by cases e)
 | 7, hp, hi, L =>
  have e : GI.label 2 = i := Option.some.inj hi
  subst e
  exact h.sno ht qgg_enter hp (q' := 8) ⟨by decide, L⟩ (fun e => by cases e)
 | 8, hp, hi, L =>
  have e : GI.load 0 7 0 = i := Option.some.inj hi
  subst e
  exact h.shub ht qgg_enter hp (q' := 9) (by decide) ⟨by decide, L.1, L.2, fun e => by have := h.1.hub; have e : m.mem.ar.words 2 0 = 0 := e; omega⟩ (fun e => by cases e)
 | 9, hp, hi, L =>
  have e : GI.store 6 0 0 = i := Option.some.inj hi
  subst e
  exact h.sstore ht qgg_enter (by decide) hp (q' := 10) (fun _ => rfl) (fun e => absurd e (by decide)) ⟨by decide, L.1.in' (by decide) L.2.1 L.2.2 (fun e => absurd e (by decide))⟩
 | 10, hp, hi, L =>
  have e : GI.label 1 = i := Option.some.inj hi
  subst e
  exact h.sno ht qgg_enter hp (q' := 11) ⟨by decide, L⟩ (fun e => by cases e)
 | k + 11, hp, hi, L => exact nomatch (show (none : Option GI) = some i from hi)
theorem qown_enter4 (h : QD 4 n G m) (ht : t < n) (hp : G.pt t = some ⟨.enter, q, d⟩) (hd : d <= 100) (hi : (gEnter 4)[q]? = some i) : Sq 4 n G t (some ⟨.enter, gNext (gEnter 4) q (m.regs t) i, d⟩) (gExec m t i) := by
 have L := h.1.la t ht
 rw [hp] at L
 have L := L.2
 have r6 := h.1.r6 t ht
 match q, hp, hi, L with
 | 0, hp, hi, L =>
  have e : GI.load 0 6 0 = i := Option.some.inj hi
  subst e
  exact h.sload ht qgg_enter hp (q' := 1) (by decide) ⟨by decide, L, rfl⟩ (fun e => by cases e)
 | 1, hp, hi, L =>
  have e : GI.zero 0 2 = i := Option.some.inj hi
  subst e
  show Sq 4 n G t (some ⟨.enter, if m.regs t 0 = 0 then gAt 2 (gEnter 4) else 2, d⟩) m
  by_cases hz : m.regs t 0 = 0
  ·rw [if_pos hz]
   exact h.sno ht qgg_enter hp (q' := 7) ⟨by decide, L.1, L.1.zero (by decide) (by rw [<- L.2]; exact hz)⟩ (fun e => by cases e)
  ·rw [if_neg hz]
   exact h.sno ht qgg_enter hp (q' := 2) ⟨by decide, L.1, L.1.pos (by decide) (by rw [<- L.2]; exact hz)⟩ (fun e => by cases e)
 | 2, hp, hi, L =>
  have e : GI.load 0 6 2 = i := Option.some.inj hi
  subst e
  exact h.sload ht qgg_enter hp (q' := 3) (by decide) ⟨by decide, L.1, L.2, rfl⟩ (fun e => by cases e)
 | 3, hp, hi, L =>
  have e : GI.const 1 1 = i := Option.some.inj hi
  subst e
  exact h.sreg ht qgg_enter hp (q' := 4) (by decide) ⟨by decide, L.1, L.2.1, L.2.2, rfl⟩ (fun e => by cases e)
 | 4, hp, hi, L =>
  have e : GI.add 0 0 1 = i := Option.some.inj hi
  subst e
  refine h.sreg ht qgg_enter hp (q' := 5) (by decide) ⟨by decide, L.1, L.2.1, ?_⟩ (fun e => by cases e)
  show (m.regs t 0 + m.regs t 1) % 4294967296 = ovq m t 2 + 1
  rw [L.2.2.1, L.2.2.2, L.1.two (by decide) L.2.1]
  omega
 | 5, hp, hi, L =>
  have e : GI.store 6 0 2 = i := Option.some.inj hi
  subst e
  exact h.sstore ht qgg_enter (by decide) hp (q' := 6) (fun e => absurd e (by decide)) (fun e => absurd e (by decide)) ⟨by decide, L.1.set2 (by decide) L.2.1 (Nat.succ_pos _) (by rw [L.2.2, L.1.two (by decide) L.2.1]; omega)⟩
 | 6, hp, hi, L =>
  have e : GI.goto 1 = i := Option.some.inj hi
  subst e
  exact h.sno ht qgg_enter hp (q' := 22) ⟨by decide, L⟩ (fun e => by cases e)
 | 7, hp, hi, L =>
  have e : GI.label 2 = i := Option.some.inj hi
  subst e
  exact h.sno ht qgg_enter hp (q' := 8) ⟨by decide, L⟩ (fun e => by cases e)
 | 8, hp, hi, L =>
  have e : GI.load 0 6 3 = i := Option.some.inj hi
  subst e
  exact h.sload ht qgg_enter hp (q' := 9) (by decide) ⟨by decide, L.1, L.2, rfl⟩ (fun e => by cases e)
 | 9, hp, hi, L =>
  have e : GI.same 0 6 3 = i := Option.some.inj hi
  subst e
  show Sq 4 n G t (some ⟨.enter, if m.regs t 0 = m.regs t 6 then gAt 3 (gEnter 4) else 10, d⟩) m
  by_cases hz : m.regs t 0 = m.regs t 6
  ·rw [if_pos hz]
   refine h.sno ht qgg_enter hp (q' := 19) ⟨by decide, L.1, L.2.1, ?_⟩ (fun e => by cases e)
   rcases Classical.em (t ∈ G.ch) with e | e
   ·exact e
   ·have := ((L.1.2.2 rfl).2 e).1
    rw [<- L.2.2, hz, r6] at this
    omega
  ·rw [if_neg hz]
   refine h.sno ht qgg_enter hp (q' := 10) ⟨by decide, L.2.1, ((L.1.2.1 (by decide)).1 L.2.1).1, ((L.1.2.1 (by decide)).1 L.2.1).2, fun e => hz ?_⟩ (fun e => by cases e)
   rw [L.2.2, (L.1.2.2 rfl).1 e, r6]
 | 10, hp, hi, L =>
  have e : GI.load 0 7 1 = i := Option.some.inj hi
  subst e
  exact h.shub ht qgg_enter hp (q' := 11) (by decide) ⟨by decide, L⟩ (fun e => by cases e)
 | 11, hp, hi, L =>
  have e : GI.label 4 = i := Option.some.inj hi
  subst e
  exact h.sno ht qgg_enter hp (q' := 12) ⟨by decide, L⟩ (fun e => by cases e)
 | 12, hp, hi, L =>
  have e : GI.move 1 6 = i := Option.some.inj hi
  subst e
  exact h.sreg ht qgg_enter hp (q' := 13) (by decide) ⟨by decide, L, r6⟩ (fun e => by cases e)
 | 13, hp, hi, L =>
  have e : GI.store 6 6 3 = i := Option.some.inj hi
  subst e
  exact h.sstore ht qgg_enter (by decide) hp (q' := 14) (fun e => absurd e (by decide)) (fun e => absurd e (by decide)) ⟨by decide, L.1, L.2, r6⟩
 | 14, hp, hi, L =>
  have e : GI.store 6 0 1 = i := Option.some.inj hi
  subst e
  exact h.sstore ht qgg_enter (by decide) hp (q' := 15) (fun e => absurd e (by decide)) (fun _ => ⟨rfl, L.1.2.2.2⟩) ⟨by decide, L.1, L.2.1, L.2.2, rfl⟩
 | 15, hp, hi, L =>
  have e : GI.cas 7 0 1 = i := Option.some.inj hi
  subst e
  exact h.slink ht rfl L.1.2.2.2 hp (q' := 16) L.2.1 L.2.2.2 ⟨by decide, L.1.1, L.1.2.1, L.1.2.2.1, L.2.2.1, .inl ⟨List.mem_append_right _ List.mem_cons_self, L.2.2.2⟩⟩ (fun w0 hw => ⟨by decide, L.1.1, L.1.2.1, L.1.2.2.1, L.2.2.1, .inr ⟨L.1.2.2.2, fun e => hw (by rw [<- L.2.2.2]; exact e.symm)⟩⟩)
 | 16, hp, hi, L =>
  have e : GI.load 1 6 1 = i := Option.some.inj hi
  subst e
  exact h.sload ht qgg_enter hp (q' := 17) (by decide) ⟨by decide, L.1, L.2.1, L.2.2.1, L.2.2.2.1, L.2.2.2.2.imp (fun e => ⟨e.1, e.2.symm⟩) (fun e => ⟨e.1, fun e2 => e.2 e2.symm⟩)⟩ (fun e => by cases e)
 | 17, hp, hi, L =>
  have e : GI.same 0 1 3 = i := Option.some.inj hi
  subst e
  show Sq 4 n G t (some ⟨.enter, if m.regs t 0 = m.regs t 1 then gAt 3 (gEnter 4) else 18, d⟩) m
  by_cases hz : m.regs t 0 = m.regs t 1
  ·rw [if_pos hz]
   have hJ : t ∈ G.ch := by
    rcases L.2.2.2.2 with e | e
    ·exact e.1
    ·exact absurd hz e.2
   exact h.sno ht qgg_enter hp (q' := 19) ⟨by decide, ⟨fun e => absurd e (by decide), fun _ => ⟨fun _ => ⟨L.2.1, L.2.2.1⟩, fun e => absurd L.1 (by omega)⟩, fun _ => ⟨fun _ => L.2.2.2.1, fun e => absurd hJ e⟩⟩, L.1, hJ⟩ (fun e => by cases e)
  ·rw [if_neg hz]
   refine h.sno ht qgg_enter hp (q' := 18) ⟨by decide, L.1, L.2.1, L.2.2.1, ?_⟩ (fun e => by cases e)
   rcases L.2.2.2.2 with e | e
   ·exact absurd e.2 hz
   ·exact e.1
 | 18, hp, hi, L =>
  have e : GI.goto 4 = i := Option.some.inj hi
  subst e
  exact h.sno ht qgg_enter hp (q' := 11) ⟨by decide, L⟩ (fun e => by cases e)
 | 19, hp, hi, L =>
  have e : GI.label 3 = i := Option.some.inj hi
  subst e
  exact h.sno ht qgg_enter hp (q' := 20) ⟨by decide, L⟩ (fun e => by cases e)
 | 20, hp, hi, L =>
  have e : GI.load 0 7 0 = i := Option.some.inj hi
  subst e
  exact h.shub ht qgg_enter hp (q' := 21) (by decide) ⟨by decide, L.1, L.2.1, L.2.2, fun e => by have := h.1.hub; have e : m.mem.ar.words 2 0 = 0 := e; omega⟩ (fun e => by cases e)
 | 21, hp, hi, L =>
  have e : GI.swap 0 6 0 = i := Option.some.inj hi
  subst e
  exact h.sswap ht qgg_enter hp (q' := 22) (b := true) (.inl ⟨rfl, rfl⟩) (fun _ => ⟨by decide, L.1.in' (by decide) L.2.1 L.2.2.2 (fun _ => L.2.2.1)⟩) (fun e => by cases e)
 | 22, hp, hi, L =>
  have e : GI.label 1 = i := Option.some.inj hi
  subst e
  exact h.sno ht qgg_enter hp (q' := 23) ⟨by decide, L⟩ (fun e => by cases e)
 | k + 23, hp, hi, L => exact nomatch (show (none : Option GI) = some i from hi)
theorem qown_leave1 (h : QD 1 n G m) (ht : t < n) (hp : G.pt t = some ⟨.leave, q, d⟩) (hd : d <= 100) (hi : (gLeave 1)[q]? = some i) : Sq 1 n G t (some ⟨.leave, gNext (gLeave 1) q (m.regs t) i, d⟩) (gExec m t i) := by
 have L := h.1.la t ht
 rw [hp] at L
 have L := L.2
 match q, hp, hi, L with
 | 0, hp, hi, L =>
  have e : GI.load 0 6 2 = i := Option.some.inj hi
  subst e
  exact h.sload ht qgg_leave hp (q' := 1) (by decide) ⟨by decide, L.1, L.2, rfl⟩ (fun e => by cases e)
 | 1, hp, hi, L =>
  have e : GI.zero 0 2 = i := Option.some.inj hi
  subst e
  have h2 := L.1.two (by decide) L.2.1
  show Sq 1 n G t (some ⟨.leave, if m.regs t 0 = 0 then gAt 2 (gLeave 1) else 2, d⟩) m
  by_cases hz : m.regs t 0 = 0
  ·rw [if_pos hz]
   exact h.sno ht qgg_leave hp (q' := 7) ⟨by decide, L.1, by rw [L.2.2, h2] at hz; omega, hz⟩ (fun e => by cases e)
  ·rw [if_neg hz]
   exact h.sno ht qgg_leave hp (q' := 2) ⟨by decide, L.1, by rw [L.2.2, h2] at hz; have := L.2.1; omega⟩ (fun e => by cases e)
 | 2, hp, hi, L =>
  have e : GI.load 0 6 2 = i := Option.some.inj hi
  subst e
  exact h.sload ht qgg_leave hp (q' := 3) (by decide) ⟨by decide, L.1, L.2, rfl⟩ (fun e => by cases e)
 | 3, hp, hi, L =>
  have e : GI.const 1 1 = i := Option.some.inj hi
  subst e
  exact h.sreg ht qgg_leave hp (q' := 4) (by decide) ⟨by decide, L.1, L.2.1, L.2.2, rfl⟩ (fun e => by cases e)
 | 4, hp, hi, L =>
  have e : GI.sub 0 0 1 = i := Option.some.inj hi
  subst e
  refine h.sreg ht qgg_leave hp (q' := 5) (by decide) ⟨by decide, L.1, L.2.1, ?_⟩ (fun e => by cases e)
  have h2 := L.1.two (by decide) (by have := L.2.1; omega)
  have h3 := L.2.1
  show (m.regs t 0 - m.regs t 1) % 4294967296 = ovq m t 2 - 1
  rw [L.2.2.1, L.2.2.2, h2]
  omega
 | 5, hp, hi, L =>
  have e : GI.store 6 0 2 = i := Option.some.inj hi
  subst e
  have h3 := L.2.1
  exact h.sstore ht qgg_leave (by decide) hp (q' := 6) (fun e => absurd e (by decide)) (fun e => absurd e (by decide)) ⟨by decide, L.1.set2 (by decide) (by omega) (by omega) (by rw [L.2.2, L.1.two (by decide) (by omega)]; omega), L.2.1⟩
 | 6, hp, hi, L =>
  have e : GI.goto 1 = i := Option.some.inj hi
  subst e
  exact h.sno ht qgg_leave hp (q' := 9) ⟨by decide, L.1⟩ (fun e => by cases e)
 | 7, hp, hi, L =>
  have e : GI.label 2 = i := Option.some.inj hi
  subst e
  exact h.sno ht qgg_leave hp (q' := 8) ⟨by decide, L⟩ (fun e => by cases e)
 | 8, hp, hi, L =>
  have e : GI.swap 0 6 0 = i := Option.some.inj hi
  subst e
  exact h.sswap ht qgg_leave hp (q' := 9) (b := true) (.inl ⟨rfl, rfl⟩) (fun _ => ⟨by decide, L.1.out' (by decide) L.2.1 L.2.2⟩) (fun e => by cases e)
 | 9, hp, hi, L =>
  have e : GI.label 1 = i := Option.some.inj hi
  subst e
  exact h.sno ht qgg_leave hp (q' := 10) ⟨by decide, L⟩ (fun e => by cases e)
 | k + 10, hp, hi, L => exact nomatch (show (none : Option GI) = some i from hi)
theorem qown_leave2 (h : QD 2 n G m) (ht : t < n) (hp : G.pt t = some ⟨.leave, q, d⟩) (hd : d <= 100) (hi : (gLeave 2)[q]? = some i) : Sq 2 n G t (some ⟨.leave, gNext (gLeave 2) q (m.regs t) i, d⟩) (gExec m t i) := by
 have L := h.1.la t ht
 rw [hp] at L
 have L := L.2
 match q, hp, hi, L with
 | 0, hp, hi, L =>
  have e : GI.load 0 6 2 = i := Option.some.inj hi
  subst e
  exact h.sload ht qgg_leave hp (q' := 1) (by decide) ⟨by decide, L.1, L.2, rfl⟩ (fun e => by cases e)
 | 1, hp, hi, L =>
  have e : GI.zero 0 2 = i := Option.some.inj hi
  subst e
  have h2 := L.1.two (by decide) L.2.1
  show Sq 2 n G t (some ⟨.leave, if m.regs t 0 = 0 then gAt 2 (gLeave 2) else 2, d⟩) m
  by_cases hz : m.regs t 0 = 0
  ·rw [if_pos hz]
   exact h.sno ht qgg_leave hp (q' := 7) ⟨by decide, L.1, by rw [L.2.2, h2] at hz; omega, hz⟩ (fun e => by cases e)
  ·rw [if_neg hz]
   exact h.sno ht qgg_leave hp (q' := 2) ⟨by decide, L.1, by rw [L.2.2, h2] at hz; have := L.2.1; omega⟩ (fun e => by cases e)
 | 2, hp, hi, L =>
  have e : GI.load 0 6 2 = i := Option.some.inj hi
  subst e
  exact h.sload ht qgg_leave hp (q' := 3) (by decide) ⟨by decide, L.1, L.2, rfl⟩ (fun e => by cases e)
 | 3, hp, hi, L =>
  have e : GI.const 1 1 = i := Option.some.inj hi
  subst e
  exact h.sreg ht qgg_leave hp (q' := 4) (by decide) ⟨by decide, L.1, L.2.1, L.2.2, rfl⟩ (fun e => by cases e)
 | 4, hp, hi, L =>
  have e : GI.sub 0 0 1 = i := Option.some.inj hi
  subst e
  refine h.sreg ht qgg_leave hp (q' := 5) (by decide) ⟨by decide, L.1, L.2.1, ?_⟩ (fun e => by cases e)
  have h2 := L.1.two (by decide) (by have := L.2.1; omega)
  have h3 := L.2.1
  show (m.regs t 0 - m.regs t 1) % 4294967296 = ovq m t 2 - 1
  rw [L.2.2.1, L.2.2.2, h2]
  omega
 | 5, hp, hi, L =>
  have e : GI.store 6 0 2 = i := Option.some.inj hi
  subst e
  have h3 := L.2.1
  exact h.sstore ht qgg_leave (by decide) hp (q' := 6) (fun e => absurd e (by decide)) (fun e => absurd e (by decide)) ⟨by decide, L.1.set2 (by decide) (by omega) (by omega) (by rw [L.2.2, L.1.two (by decide) (by omega)]; omega), L.2.1⟩
 | 6, hp, hi, L =>
  have e : GI.goto 1 = i := Option.some.inj hi
  subst e
  exact h.sno ht qgg_leave hp (q' := 9) ⟨by decide, L.1⟩ (fun e => by cases e)
 | 7, hp, hi, L =>
  have e : GI.label 2 = i := Option.some.inj hi
  subst e
  exact h.sno ht qgg_leave hp (q' := 8) ⟨by decide, L⟩ (fun e => by cases e)
 | 8, hp, hi, L =>
  have e : GI.store 6 0 0 = i := Option.some.inj hi
  subst e
  exact h.sstore ht qgg_leave (by decide) hp (q' := 9) (fun _ => rfl) (fun e => absurd e (by decide)) ⟨by decide, L.1.out' (by decide) L.2.1 L.2.2⟩
 | 9, hp, hi, L =>
  have e : GI.label 1 = i := Option.some.inj hi
  subst e
  exact h.sno ht qgg_leave hp (q' := 10) ⟨by decide, L⟩ (fun e => by cases e)
 | k + 10, hp, hi, L => exact nomatch (show (none : Option GI) = some i from hi)
theorem qown_leave4 (h : QD 4 n G m) (ht : t < n) (hp : G.pt t = some ⟨.leave, q, d⟩) (hd : d <= 100) (hi : (gLeave 4)[q]? = some i) : Sq 4 n G t (some ⟨.leave, gNext (gLeave 4) q (m.regs t) i, d⟩) (gExec m t i) := by
 have L := h.1.la t ht
 rw [hp] at L
 have L := L.2
 match q, hp, hi, L with
 | 0, hp, hi, L =>
  have e : GI.load 0 6 2 = i := Option.some.inj hi
  subst e
  exact h.sload ht qgg_leave hp (q' := 1) (by decide) ⟨by decide, L.1, L.2, rfl⟩ (fun e => by cases e)
 | 1, hp, hi, L =>
  have e : GI.zero 0 2 = i := Option.some.inj hi
  subst e
  have h2 := L.1.two (by decide) L.2.1
  show Sq 4 n G t (some ⟨.leave, if m.regs t 0 = 0 then gAt 2 (gLeave 4) else 2, d⟩) m
  by_cases hz : m.regs t 0 = 0
  ·rw [if_pos hz]
   exact h.sno ht qgg_leave hp (q' := 7) ⟨by decide, L.1, by rw [L.2.2, h2] at hz; omega, hz⟩ (fun e => by cases e)
  ·rw [if_neg hz]
   exact h.sno ht qgg_leave hp (q' := 2) ⟨by decide, L.1, by rw [L.2.2, h2] at hz; have := L.2.1; omega⟩ (fun e => by cases e)
 | 2, hp, hi, L =>
  have e : GI.load 0 6 2 = i := Option.some.inj hi
  subst e
  exact h.sload ht qgg_leave hp (q' := 3) (by decide) ⟨by decide, L.1, L.2, rfl⟩ (fun e => by cases e)
 | 3, hp, hi, L =>
  have e : GI.const 1 1 = i := Option.some.inj hi
  subst e
  exact h.sreg ht qgg_leave hp (q' := 4) (by decide) ⟨by decide, L.1, L.2.1, L.2.2, rfl⟩ (fun e => by cases e)
 | 4, hp, hi, L =>
  have e : GI.sub 0 0 1 = i := Option.some.inj hi
  subst e
  refine h.sreg ht qgg_leave hp (q' := 5) (by decide) ⟨by decide, L.1, L.2.1, ?_⟩ (fun e => by cases e)
  have h2 := L.1.two (by decide) (by have := L.2.1; omega)
  have h3 := L.2.1
  show (m.regs t 0 - m.regs t 1) % 4294967296 = ovq m t 2 - 1
  rw [L.2.2.1, L.2.2.2, h2]
  omega
 | 5, hp, hi, L =>
  have e : GI.store 6 0 2 = i := Option.some.inj hi
  subst e
  have h3 := L.2.1
  exact h.sstore ht qgg_leave (by decide) hp (q' := 6) (fun e => absurd e (by decide)) (fun e => absurd e (by decide)) ⟨by decide, L.1.set2 (by decide) (by omega) (by omega) (by rw [L.2.2, L.1.two (by decide) (by omega)]; omega), L.2.1⟩
 | 6, hp, hi, L =>
  have e : GI.goto 1 = i := Option.some.inj hi
  subst e
  exact h.sno ht qgg_leave hp (q' := 9) ⟨by decide, L.1⟩ (fun e => by cases e)
 | 7, hp, hi, L =>
  have e : GI.label 2 = i := Option.some.inj hi
  subst e
  exact h.sno ht qgg_leave hp (q' := 8) ⟨by decide, L⟩ (fun e => by cases e)
 | 8, hp, hi, L =>
  have e : GI.swap 0 6 0 = i := Option.some.inj hi
  subst e
  exact h.sswap ht qgg_leave hp (q' := 9) (b := true) (.inl ⟨rfl, rfl⟩) (fun _ => ⟨by decide, L.1.out' (by decide) L.2.1 L.2.2⟩) (fun e => by cases e)
 | 9, hp, hi, L =>
  have e : GI.label 1 = i := Option.some.inj hi
  subst e
  exact h.sno ht qgg_leave hp (q' := 10) ⟨by decide, L⟩ (fun e => by cases e)
 | k + 10, hp, hi, L => exact nomatch (show (none : Option GI) = some i from hi)
theorem qown_rest (h : QD 3 n G m) (ht : t < n) (hp : G.pt t = some ⟨.rest, q, d⟩) (hi : (gRest 3)[q]? = some i) : Sq 3 n G t (some ⟨.rest, gNext (gRest 3) q (m.regs t) i, d⟩) (gExec m t i) := by
 have L := h.1.la t ht
 rw [hp] at L
 have L := L.2
 match q, hp, hi, L with
 | 0, hp, hi, L =>
  have e : GI.zero 6 1 = i := Option.some.inj hi
  subst e
  show Sq 3 n G t (some ⟨.rest, if m.regs t 6 = 0 then gAt 1 (gRest 3) else 1, d⟩) m
  rw [if_neg (by rw [h.1.r6 t ht]; omega)]
  exact h.sno ht qgg_rest hp (q' := 1) ⟨rfl, L⟩ (fun e => by cases e)
 | 1, hp, hi, L =>
  have e : GI.load 0 6 0 = i := Option.some.inj hi
  subst e
  exact h.sload ht qgg_rest hp (q' := 2) (by decide) ⟨rfl, L, rfl⟩ (fun e => by cases e)
 | 2, hp, hi, L =>
  have e : GI.zero 0 1 = i := Option.some.inj hi
  subst e
  show Sq 3 n G t (some ⟨.rest, if m.regs t 0 = 0 then gAt 1 (gRest 3) else 3, d⟩) m
  rw [if_neg (fun e => by have h1 := L.1; rw [<- L.2, e] at h1; cases h1)]
  exact h.sno ht qgg_rest hp (q' := 3) ⟨rfl, L⟩ (fun e => by cases e)
 | 3, hp, hi, L =>
  have e : GI.const 1 2 = i := Option.some.inj hi
  subst e
  exact h.sreg ht qgg_rest hp (q' := 4) (by decide) ⟨rfl, L.1, L.2, rfl⟩ (fun e => by cases e)
 | 4, hp, hi, L =>
  have e : GI.add 0 0 1 = i := Option.some.inj hi
  subst e
  refine h.sreg ht qgg_rest hp (q' := 5) (by decide) ⟨rfl, L.1, ?_⟩ (fun e => by cases e)
  show (m.regs t 0 + m.regs t 1) % 4294967296 % 2 = 1
  have h1 := L.1
  rw [L.2.1, L.2.2]
  omega
 | 5, hp, hi, L =>
  have e : GI.swap 0 6 0 = i := Option.some.inj hi
  subst e
  exact h.sswap ht qgg_rest hp (q' := 6) (b := true) (.inl ⟨rfl, rfl⟩) (fun _ => ⟨rfl, L.2⟩) (fun e => by cases e)
 | 6, hp, hi, L =>
  have e : GI.label 1 = i := Option.some.inj hi
  subst e
  exact h.sno ht qgg_rest hp (q' := 7) ⟨rfl, L⟩ (fun e => by cases e)
 | k + 7, hp, hi, L => exact nomatch (show (none : Option GI) = some i from hi)
theorem qown_gone (h : QD 3 n G m) (ht : t < n) (hp : G.pt t = some ⟨.gone, q, d⟩) (hi : (gGone 3)[q]? = some i) : Sq 3 n G t (some ⟨.gone, gNext (gGone 3) q (m.regs t) i, d⟩) (gExec m t i) := by
 have L := h.1.la t ht
 rw [hp] at L
 have L := L.2
 match q, hp, hi, L with
 | 0, hp, hi, L =>
  have e : GI.zero 6 1 = i := Option.some.inj hi
  subst e
  show Sq 3 n G t (some ⟨.gone, if m.regs t 6 = 0 then gAt 1 (gGone 3) else 1, d⟩) m
  rw [if_neg (by rw [h.1.r6 t ht]; omega)]
  exact h.sno ht qgg_gone hp (q' := 1) ⟨rfl, L⟩ (fun e => by cases e)
 | 1, hp, hi, L =>
  have e : GI.const 0 0 = i := Option.some.inj hi
  subst e
  exact h.sreg ht qgg_gone hp (q' := 2) (by decide) ⟨rfl, L, rfl⟩ (fun e => by cases e)
 | 2, hp, hi, L =>
  have e : GI.swap 0 6 0 = i := Option.some.inj hi
  subst e
  exact h.sswap ht qgg_gone hp (q' := 3) (b := true) (.inl ⟨rfl, rfl⟩) (fun _ => ⟨rfl, L.2⟩) (fun e => by cases e)
 | 3, hp, hi, L =>
  have e : GI.label 1 = i := Option.some.inj hi
  subst e
  exact h.sno ht qgg_gone hp (q' := 4) ⟨rfl, L⟩ (fun e => by cases e)
 | k + 4, hp, hi, L => exact nomatch (show (none : Option GI) = some i from hi)
end
end
section
open Go.RowKit
section
variable {f n : Nat} {G : Gq} {m m' : Mk} {t q q' d : Nat}
theorem Cuq.regs {C : List Nat} {O : Nat -> Prop} {r r' : Nat -> Int} {P P' : Nat -> Prop} (h : Cuq C O r P) (e : r' 2 = r 2) (hP : ∀ u, O u -> P u -> P' u) : Cuq C O r' P' := by
 obtain ⟨i, u, h1, h2, h3, h4⟩ := h
 exact ⟨i, u, h1, e.trans h2, h3, fun hu => hP u hu (h4 hu)⟩
def Wlq (f : Nat) (J : Prop) (t : Nat) (V : Nat -> Int) (q' : Nat) : Prop := ∀ r, (f = 3 -> Lwq V r q') /\ (f ≠ 3 -> Bq f J t 0 V)
theorem QI.old_sh (h : QI f n G m) (ht : t < n) {w u : Nat} (hw : w < n) (hu : Olq G w u) : vw m t (u + 3) 0 0 = shq m u /\ shq m u ≠ 0 := by
 obtain ⟨h1, -, h3, h4⟩ := h.old w u hw hu
 have key : ∀ t, t < n -> vw m t (u + 3) 0 0 = shq m u := fun t ht => by
  unfold vw shq
  refine foldl_none (fun x hx e => ?_)
  obtain ⟨e1, e2, e3⟩ := e
  rcases (h.wts t ht x hx).2 with ⟨h5, -⟩ | h5
  ·have e : u = t := by omega
   subst e
   exact h4 x hx h5 (by omega)
  ·omega
 refine ⟨key t ht, fun e => h3 ?_⟩
 rw [<- key u h1] at e
 exact e
theorem QD.wsee (h : QD f n G m) (ht : t < n) (hp : G.pt t = some ⟨.wait, q, d⟩) (hs' : stageq f q' = 1) (hf : f ≠ 2) (hd : d = 0) (hw : Wlq f (t ∈ G.ch) t (ovq m t) q') : Sq f n G t (some ⟨.wait, q', d⟩) (m.fence t) := by
 have h2 := (h.fence ht).see ht hp (q' := q') hs' (fun e => absurd e hf) ⟨hd, by rw [h.fence_ov ht ht]; exact (hw _).1, by rw [h.fence_ov ht ht]; exact (hw (m.regs t)).2⟩
 exact ⟨_, h2, Gq.at_self _ _ _, fun u hu => Gq.at_ne _ _ hu, .inl rfl, rfl, fun _ _ => rfl, rfl⟩
theorem QD.force_ov (h : QD f n G m) {u : Nat} (hu : u < n) : ovq (m.fenceFrom 0 m.mem.threads) u = ovq m u := by
 rw [h.1.thr]
 exact QD.fenceFrom_ov n 0 (by omega) h hu
theorem QD.wseef (h : QD f n G m) (ht : t < n) (hp : G.pt t = some ⟨.wait, q, d⟩) (hs' : stageq f q' = 1) (hd : d = 0) (hw : Wlq f (t ∈ G.ch) t (ovq m t) q') : Sq f n G t (some ⟨.wait, q', d⟩) (m.fenceFrom 0 m.mem.threads) := by
 have h2 := h.force.see ht hp (q' := q') hs' (fun _ u hu => force_waits _ _ _ _ (.inl ⟨Nat.zero_le _, by rw [h.1.thr]; omega⟩)) ⟨hd, by rw [h.force_ov ht]; exact (hw _).1, by rw [h.force_ov ht]; exact (hw (m.regs t)).2⟩
 exact ⟨_, h2, Gq.at_self _ _ _, fun u hu => Gq.at_ne _ _ hu, .inl rfl, rfl, fun _ _ => rfl, rfl⟩
theorem QD.wno (h : QD f n G m) (ht : t < n) (hp : G.pt t = some ⟨.wait, q, d⟩) (hd : d = 0) (hw : Wlq f (t ∈ G.ch) t (ovq m t) q') (hz : stageq f q = 0 -> stageq f q' = 0) (hS : Scq G.ch (Olq G t) (shq m) (m.regs t) (stageq f q')) : Sq f n G t (some ⟨.wait, q', d⟩) m :=
 h.sno ht qgg_wait hp ⟨hd, (hw _).1, (hw (m.regs t)).2, hS⟩ (fun _ => hz)
theorem QD.wreg (h : QD f n G m) (ht : t < n) (hp : G.pt t = some ⟨.wait, q, d⟩) (hd : d = 0) (hw : Wlq f (t ∈ G.ch) t (ovq m t) q') (hz : stageq f q = 0 -> stageq f q' = 0) {r : Nat} {v : Int} (hr : r <= 2) (hS : Scq G.ch (Olq G t) (shq m) (rgq m t r v) (stageq f q')) : Sq f n G t (some ⟨.wait, q', d⟩) (m.setReg t r v) :=
 h.sreg ht qgg_wait hp hr ⟨hd, (hw _).1, (hw (m.regs t)).2, hS⟩ (fun _ => hz)
theorem QD.wlink (h : QD f n G m) (ht : t < n) (hp : G.pt t = some ⟨.wait, q, d⟩) (hd : d = 0) (hw : Wlq f (t ∈ G.ch) t (ovq m t) q') (e3 : stageq f q = 3) (e4 : stageq f q' = 4) (hS : Scq G.ch (Olq G t) (shq m) (m.regs t) 3) : Sq f n G t (some ⟨.wait, q', d⟩) (m.load t 2 (m.regs t 2) 1) := by
 rcases hS with ⟨h1, h2⟩ | ⟨i, u, h1, h2, h3, h4⟩
 ·refine h.sfar ht qgg_wait hp (c := 2) (k := 1) (by omega) (by omega) (by rw [h1]; rfl) (fun x hx e => ?_) (by decide) ⟨hd, (hw _).1, (hw (m.regs t)).2, ?_⟩ (fun _ => by rw [e3]; intro e; cases e)
  ·rcases (h.1.wts t ht x hx).2 with ⟨h5, -⟩ | h5 <;> (have := e.1; omega)
  ·rw [e4, h.1.chh]
   cases hl : G.ch.getLast? with
   | none =>
    refine .inl ⟨rfl, fun x hx => ?_⟩
    have := h2 x hx
    rw [List.getLast?_eq_none_iff.1 hl] at this
    cases this
   | some u =>
    refine .inr ⟨G.ch.length - 1, u, by rw [<- List.getLast?_eq_getElem?]; exact hl, rfl, fun x hx => ?_, fun _ => trivial⟩
    obtain ⟨j, hj⟩ := List.mem_iff_getElem?.1 (h2 x hx)
    exact ⟨j, by have := (List.getElem?_eq_some_iff.1 hj).1; omega, hj⟩
 ·have hu := List.mem_of_getElem? h1
  have hun := h.1.chl u hu
  refine h.sfar ht qgg_wait hp (c := u + 3) (k := 1) (by omega) (by omega) (by rw [h2]; omega) (fun x hx e => ?_) (by decide) ⟨hd, (hw _).1, (hw (m.regs t)).2, ?_⟩ (fun _ => by rw [e3]; intro e; cases e)
  ·rcases (h.1.wts t ht x hx).2 with ⟨h5, -, -, h6⟩ | h5
   ·have e1 : u = t := by have := e.1; omega
    subst e1
    exact (h6 e.2).2 hu
   ·have := e.1; omega
  ·rw [e4, h.1.chw i u h1]
   cases i with
   | zero =>
    refine .inl ⟨rfl, fun x hx => ?_⟩
    obtain ⟨j, hj, hc⟩ := h3 x hx
    have e : j = 0 := by omega
    subst e
    rw [h1] at hc
    cases hc
    exact h4 hx
   | succ j =>
    obtain ⟨v, hv⟩ : ∃ v, G.ch[j]? = some v := ⟨_, List.getElem?_eq_getElem (by have := (List.getElem?_eq_some_iff.1 h1).1; omega)⟩
    refine .inr ⟨j, v, hv, by show (match G.ch[j]? with | none => 0 | some v => (v : Int) + 4) = _; rw [hv], fun x hx => ?_, fun _ => trivial⟩
    obtain ⟨j', hj, hc⟩ := h3 x hx
    refine ⟨j', ?_, hc⟩
    rcases Nat.lt_or_ge j' (j + 1) with h | h
    ·omega
    ·have e : j' = j + 1 := by omega
     subst e
     rw [h1] at hc
     cases hc
     exact (h4 hx).elim
theorem QD.wlook (h : QD f n G m) (ht : t < n) (hp : G.pt t = some ⟨.wait, q, d⟩) (hd : d = 0) (hw : Wlq f (t ∈ G.ch) t (ovq m t) q') (hz : stageq f q ≠ 0) {P : Nat -> Prop} (hS : Cuq G.ch (Olq G t) (m.regs t) P)
  (hn : ∀ v, (Cuq G.ch (Olq G t) (rgq m t 0 v) (fun u => P u /\ v = shq m u)) -> Scq G.ch (Olq G t) (shq m) (rgq m t 0 v) (stageq f q')) : Sq f n G t (some ⟨.wait, q', d⟩) (m.load t 0 (m.regs t 2) 0) := by
 obtain ⟨i, u, h1, h2, h3, h4⟩ := hS
 have hun := h.1.chl u (List.mem_of_getElem? h1)
 obtain ⟨L, g0, r0⟩ := h.1.own hun
 have e : m.load t 0 (m.regs t 2) 0 = m.setReg t 0 (vw m t (u + 3) 0 0) := by
  have e2 := load_live L t 0 0
  rw [g0] at e2
  rw [h2, <- r0]
  exact e2
 rw [e]
 refine h.wreg ht hp hd hw (fun e => absurd e hz) (by decide) (hn _ ⟨i, u, h1, h2, h3, fun hu => ⟨h4 hu, (h.1.old_sh ht ht hu).1⟩⟩)
end
end
section
open Go.RowKit
section
variable {n : Nat} {G : Gq} {m : Mk} {t : Nat} {q d : Nat} {i : GI}
theorem qown_wait1 (h : QD 1 n G m) (hwd : ∀ c k, Wd (m.mem.ar.words c k)) (ht : t < n) (hp : G.pt t = some ⟨.wait, q, d⟩) (hi : (gWait 1)[q]? = some i) : Sq 1 n G t (some ⟨.wait, gNext (gWait 1) q (m.regs t) i, d⟩) (gExec m t i) := by
 have L := h.1.la t ht
 rw [hp] at L
 obtain ⟨hd, -, B, Sc⟩ := L
 have B := B (by decide)
 have W : ∀ q', Wlq 1 (t ∈ G.ch) t (ovq m t) q' := fun q' r => ⟨fun e => absurd e (by decide), fun _ => B⟩
 have r7 := h.1.r7 t ht
 match q, hp, hi, B, Sc with
 | 0, hp, hi, B, Sc =>
  have e : GI.fence = i := Option.some.inj hi
  subst e
  exact h.wsee ht hp (q' := 1) rfl (by decide) hd (W 1)
 | 1, hp, hi, B, Sc =>
  have e : GI.move 2 7 = i := Option.some.inj hi
  subst e
  exact h.wreg ht hp (q' := 2) hd (W 2) (fun e => by cases e) (by decide) (.inl ⟨r7, Sc⟩)
 | 2, hp, hi, B, Sc =>
  have e : GI.label 2 = i := Option.some.inj hi
  subst e
  exact h.wno ht hp (q' := 3) hd (W 3) (fun e => by cases e) Sc
 | 3, hp, hi, B, Sc =>
  have e : GI.load 2 2 1 = i := Option.some.inj hi
  subst e
  exact h.wlink ht hp (q' := 4) hd (W 4) rfl rfl Sc
 | 4, hp, hi, B, Sc =>
  have e : GI.zero 2 1 = i := Option.some.inj hi
  subst e
  show Sq 1 n G t (some ⟨.wait, if m.regs t 2 = 0 then gAt 1 (gWait 1) else 5, d⟩) m
  by_cases hz : m.regs t 2 = 0
  ·rw [if_pos hz]
   refine h.wno ht hp (q' := 16) hd (W 16) (fun e => by cases e) ?_
   rcases Sc with ⟨-, h2⟩ | ⟨k, u, -, h2, -⟩
   ·exact h2
   ·rw [hz] at h2; omega
  ·rw [if_neg hz]
   refine h.wno ht hp (q' := 5) hd (W 5) (fun e => by cases e) ?_
   rcases Sc with ⟨h1, -⟩ | h2
   ·exact absurd h1 hz
   ·exact h2
 | 5, hp, hi, B, Sc =>
  have e : GI.load 0 2 0 = i := Option.some.inj hi
  subst e
  exact h.wlook ht hp (q' := 6) hd (W 6) (by decide) (show Cuq G.ch (Olq G t) (m.regs t) (fun _ => True) from Sc) (fun _ k => k.regs rfl (fun u _ e => e.2))
 | 6, hp, hi, B, Sc =>
  have e : GI.zero 0 2 = i := Option.some.inj hi
  subst e
  show Sq 1 n G t (some ⟨.wait, if m.regs t 0 = 0 then gAt 2 (gWait 1) else 7, d⟩) m
  by_cases hz : m.regs t 0 = 0
  ·rw [if_pos hz]
   exact h.wno ht hp (q' := 2) hd (W 2) (fun e => by cases e) (.inr (Cuq.regs Sc rfl (fun u hu e => (h.1.old_sh ht ht hu).2 (by rw [<- e]; exact hz))))
  ·rw [if_neg hz]
   exact h.wno ht hp (q' := 7) hd (W 7) (fun e => by cases e) Sc
 | 7, hp, hi, B, Sc =>
  have e : GI.const 1 2 = i := Option.some.inj hi
  subst e
  exact h.wreg ht hp (q' := 8) hd (W 8) (fun e => by cases e) (by decide) ⟨rfl, Cuq.regs Sc rfl (fun _ _ e => e)⟩
 | 8, hp, hi, B, Sc =>
  have e : GI.add 1 1 0 = i := Option.some.inj hi
  subst e
  refine h.wreg ht hp (q' := 9) hd (W 9) (fun e => by cases e) (by decide) ⟨?_, Cuq.regs Sc.2 rfl (fun _ _ e => e)⟩
  show (m.regs t 1 + m.regs t 0) % 4294967296 = (2 + m.regs t 0) % 4294967296
  rw [Sc.1]
 | 9, hp, hi, B, Sc =>
  have e : GI.cas 7 0 0 = i := Option.some.inj hi
  subst e
  have L2 := (h.fence ht).1.la t ht
  rw [hp] at L2
  have S2 : Scq G.ch (Olq G t) (shq (m.fence t)) (m.regs t) 9 := L2.2.2.2
  exact h.snum ht hp (q' := 10) Sc.1 (fun w0 => ⟨hd, ((W 10) _).1, ((W 10) (m.regs t)).2, Cuq.regs S2.2 rfl (fun u _ e => by
   show m.regs t 1 = (2 + shq (m.fence t) u) % 4294967296
   rw [Sc.1, e])⟩) (fun e => by cases e)
 | 10, hp, hi, B, Sc =>
  have e : GI.const 0 2 = i := Option.some.inj hi
  subst e
  exact h.wreg ht hp (q' := 11) hd (W 11) (fun e => by cases e) (by decide) ⟨rfl, Cuq.regs Sc rfl (fun _ _ e => e)⟩
 | 11, hp, hi, B, Sc =>
  have e : GI.sub 1 1 0 = i := Option.some.inj hi
  subst e
  refine h.wreg ht hp (q' := 12) hd (W 12) (fun e => by cases e) (by decide) (Cuq.regs Sc.2 rfl (fun u _ e => ?_))
  show (m.regs t 1 - m.regs t 0) % 4294967296 = shq m u
  rw [e, Sc.1]
  obtain ⟨w1, w2⟩ := hwd (u + 3) 0
  unfold shq
  omega
 | 12, hp, hi, B, Sc =>
  have e : GI.label 3 = i := Option.some.inj hi
  subst e
  exact h.wno ht hp (q' := 13) hd (W 13) (fun e => by cases e) Sc
 | 13, hp, hi, B, Sc =>
  have e : GI.load 0 2 0 = i := Option.some.inj hi
  subst e
  exact h.wlook ht hp (q' := 14) hd (W 14) (by decide) (show Cuq G.ch (Olq G t) (m.regs t) (fun u => m.regs t 1 = shq m u) from Sc) (fun _ k => k.regs rfl (fun u _ e => e))
 | 14, hp, hi, B, Sc =>
  have e : GI.same 0 1 3 = i := Option.some.inj hi
  subst e
  show Sq 1 n G t (some ⟨.wait, if m.regs t 0 = m.regs t 1 then gAt 3 (gWait 1) else 15, d⟩) m
  by_cases hz : m.regs t 0 = m.regs t 1
  ·rw [if_pos hz]
   exact h.wno ht hp (q' := 12) hd (W 12) (fun e => by cases e) (Cuq.regs Sc rfl (fun _ _ e => e.1))
  ·rw [if_neg hz]
   exact h.wno ht hp (q' := 15) hd (W 15) (fun e => by cases e) (Cuq.regs Sc rfl (fun _ _ e => hz (by rw [e.1, e.2])))
 | 15, hp, hi, B, Sc =>
  have e : GI.goto 2 = i := Option.some.inj hi
  subst e
  exact h.wno ht hp (q' := 2) hd (W 2) (fun e => by cases e) (.inr Sc)
 | 16, hp, hi, B, Sc =>
  have e : GI.label 1 = i := Option.some.inj hi
  subst e
  exact h.wno ht hp (q' := 17) hd (W 17) (fun e => by cases e) Sc
 | k + 17, hp, hi, B, Sc => exact nomatch (show (none : Option GI) = some i from hi)
theorem qown_wait2 (h : QD 2 n G m) (hwd : ∀ c k, Wd (m.mem.ar.words c k)) (ht : t < n) (hp : G.pt t = some ⟨.wait, q, d⟩) (hi : (gWait 2)[q]? = some i) : Sq 2 n G t (some ⟨.wait, gNext (gWait 2) q (m.regs t) i, d⟩) (gExec m t i) := by
 have L := h.1.la t ht
 rw [hp] at L
 obtain ⟨hd, -, B, Sc⟩ := L
 have B := B (by decide)
 have W : ∀ q', Wlq 2 (t ∈ G.ch) t (ovq m t) q' := fun q' r => ⟨fun e => absurd e (by decide), fun _ => B⟩
 have r7 := h.1.r7 t ht
 match q, hp, hi, B, Sc with
 | 0, hp, hi, B, Sc =>
  have e : GI.force = i := Option.some.inj hi
  subst e
  exact h.wseef ht hp (q' := 1) rfl hd (W 1)
 | 1, hp, hi, B, Sc =>
  have e : GI.move 2 7 = i := Option.some.inj hi
  subst e
  exact h.wreg ht hp (q' := 2) hd (W 2) (fun e => by cases e) (by decide) (.inl ⟨r7, Sc⟩)
 | 2, hp, hi, B, Sc =>
  have e : GI.label 2 = i := Option.some.inj hi
  subst e
  exact h.wno ht hp (q' := 3) hd (W 3) (fun e => by cases e) Sc
 | 3, hp, hi, B, Sc =>
  have e : GI.load 2 2 1 = i := Option.some.inj hi
  subst e
  exact h.wlink ht hp (q' := 4) hd (W 4) rfl rfl Sc
 | 4, hp, hi, B, Sc =>
  have e : GI.zero 2 1 = i := Option.some.inj hi
  subst e
  show Sq 2 n G t (some ⟨.wait, if m.regs t 2 = 0 then gAt 1 (gWait 2) else 5, d⟩) m
  by_cases hz : m.regs t 2 = 0
  ·rw [if_pos hz]
   refine h.wno ht hp (q' := 17) hd (W 17) (fun e => by cases e) ?_
   rcases Sc with ⟨-, h2⟩ | ⟨k, u, -, h2, -⟩
   ·exact h2
   ·rw [hz] at h2; omega
  ·rw [if_neg hz]
   refine h.wno ht hp (q' := 5) hd (W 5) (fun e => by cases e) ?_
   rcases Sc with ⟨h1, -⟩ | h2
   ·exact absurd h1 hz
   ·exact h2
 | 5, hp, hi, B, Sc =>
  have e : GI.load 0 2 0 = i := Option.some.inj hi
  subst e
  exact h.wlook ht hp (q' := 6) hd (W 6) (by decide) (show Cuq G.ch (Olq G t) (m.regs t) (fun _ => True) from Sc) (fun _ k => k.regs rfl (fun u _ e => e.2))
 | 6, hp, hi, B, Sc =>
  have e : GI.zero 0 2 = i := Option.some.inj hi
  subst e
  show Sq 2 n G t (some ⟨.wait, if m.regs t 0 = 0 then gAt 2 (gWait 2) else 7, d⟩) m
  by_cases hz : m.regs t 0 = 0
  ·rw [if_pos hz]
   exact h.wno ht hp (q' := 2) hd (W 2) (fun e => by cases e) (.inr (Cuq.regs Sc rfl (fun u hu e => (h.1.old_sh ht ht hu).2 (by rw [<- e]; exact hz))))
  ·rw [if_neg hz]
   exact h.wno ht hp (q' := 7) hd (W 7) (fun e => by cases e) Sc
 | 7, hp, hi, B, Sc =>
  have e : GI.const 1 2 = i := Option.some.inj hi
  subst e
  exact h.wreg ht hp (q' := 8) hd (W 8) (fun e => by cases e) (by decide) ⟨rfl, Cuq.regs Sc rfl (fun _ _ e => e)⟩
 | 8, hp, hi, B, Sc =>
  have e : GI.add 1 1 0 = i := Option.some.inj hi
  subst e
  refine h.wreg ht hp (q' := 9) hd (W 9) (fun e => by cases e) (by decide) ⟨?_, Cuq.regs Sc.2 rfl (fun _ _ e => e)⟩
  show (m.regs t 1 + m.regs t 0) % 4294967296 = (2 + m.regs t 0) % 4294967296
  rw [Sc.1]
 | 9, hp, hi, B, Sc =>
  have e : GI.cas 7 0 0 = i := Option.some.inj hi
  subst e
  have L2 := (h.fence ht).1.la t ht
  rw [hp] at L2
  have S2 : Scq G.ch (Olq G t) (shq (m.fence t)) (m.regs t) 9 := L2.2.2.2
  exact h.snum ht hp (q' := 10) Sc.1 (fun w0 => ⟨hd, ((W 10) _).1, ((W 10) (m.regs t)).2, Cuq.regs S2.2 rfl (fun u _ e => by
   show m.regs t 1 = (2 + shq (m.fence t) u) % 4294967296
   rw [Sc.1, e])⟩) (fun e => by cases e)
 | 10, hp, hi, B, Sc =>
  have e : GI.const 0 2 = i := Option.some.inj hi
  subst e
  exact h.wreg ht hp (q' := 11) hd (W 11) (fun e => by cases e) (by decide) ⟨rfl, Cuq.regs Sc rfl (fun _ _ e => e)⟩
 | 11, hp, hi, B, Sc =>
  have e : GI.sub 1 1 0 = i := Option.some.inj hi
  subst e
  refine h.wreg ht hp (q' := 12) hd (W 12) (fun e => by cases e) (by decide) (Cuq.regs Sc.2 rfl (fun u _ e => ?_))
  show (m.regs t 1 - m.regs t 0) % 4294967296 = shq m u
  rw [e, Sc.1]
  obtain ⟨w1, w2⟩ := hwd (u + 3) 0
  unfold shq
  omega
 | 12, hp, hi, B, Sc =>
  have e : GI.label 3 = i := Option.some.inj hi
  subst e
  exact h.wno ht hp (q' := 13) hd (W 13) (fun e => by cases e) Sc
 | 13, hp, hi, B, Sc =>
  have e : GI.force = i := Option.some.inj hi
  subst e
  have L2 := h.force.1.la t ht
  rw [hp] at L2
  obtain ⟨-, -, B2, S2⟩ := L2
  exact h.force.wno ht hp (q' := 14) hd (fun r => ⟨fun e => absurd e (by decide), B2⟩) (fun e => by cases e) S2
 | 14, hp, hi, B, Sc =>
  have e : GI.load 0 2 0 = i := Option.some.inj hi
  subst e
  exact h.wlook ht hp (q' := 15) hd (W 15) (by decide) (show Cuq G.ch (Olq G t) (m.regs t) (fun u => m.regs t 1 = shq m u) from Sc) (fun _ k => k.regs rfl (fun u _ e => e))
 | 15, hp, hi, B, Sc =>
  have e : GI.same 0 1 3 = i := Option.some.inj hi
  subst e
  show Sq 2 n G t (some ⟨.wait, if m.regs t 0 = m.regs t 1 then gAt 3 (gWait 2) else 16, d⟩) m
  by_cases hz : m.regs t 0 = m.regs t 1
  ·rw [if_pos hz]
   exact h.wno ht hp (q' := 12) hd (W 12) (fun e => by cases e) (Cuq.regs Sc rfl (fun _ _ e => e.1))
  ·rw [if_neg hz]
   exact h.wno ht hp (q' := 16) hd (W 16) (fun e => by cases e) (Cuq.regs Sc rfl (fun _ _ e => hz (by rw [e.1, e.2])))
 | 16, hp, hi, B, Sc =>
  have e : GI.goto 2 = i := Option.some.inj hi
  subst e
  exact h.wno ht hp (q' := 2) hd (W 2) (fun e => by cases e) (.inr Sc)
 | 17, hp, hi, B, Sc =>
  have e : GI.label 1 = i := Option.some.inj hi
  subst e
  exact h.wno ht hp (q' := 18) hd (W 18) (fun e => by cases e) Sc
 | k + 18, hp, hi, B, Sc => exact nomatch (show (none : Option GI) = some i from hi)
theorem qown_wait4 (h : QD 4 n G m) (hwd : ∀ c k, Wd (m.mem.ar.words c k)) (ht : t < n) (hp : G.pt t = some ⟨.wait, q, d⟩) (hi : (gWait 4)[q]? = some i) : Sq 4 n G t (some ⟨.wait, gNext (gWait 4) q (m.regs t) i, d⟩) (gExec m t i) := by
 have L := h.1.la t ht
 rw [hp] at L
 obtain ⟨hd, -, B, Sc⟩ := L
 have B := B (by decide)
 have W : ∀ q', Wlq 4 (t ∈ G.ch) t (ovq m t) q' := fun q' r => ⟨fun e => absurd e (by decide), fun _ => B⟩
 have r7 := h.1.r7 t ht
 match q, hp, hi, B, Sc with
 | 0, hp, hi, B, Sc =>
  have e : GI.fence = i := Option.some.inj hi
  subst e
  exact h.wsee ht hp (q' := 1) rfl (by decide) hd (W 1)
 | 1, hp, hi, B, Sc =>
  have e : GI.move 2 7 = i := Option.some.inj hi
  subst e
  exact h.wreg ht hp (q' := 2) hd (W 2) (fun e => by cases e) (by decide) (.inl ⟨r7, Sc⟩)
 | 2, hp, hi, B, Sc =>
  have e : GI.label 2 = i := Option.some.inj hi
  subst e
  exact h.wno ht hp (q' := 3) hd (W 3) (fun e => by cases e) Sc
 | 3, hp, hi, B, Sc =>
  have e : GI.load 2 2 1 = i := Option.some.inj hi
  subst e
  exact h.wlink ht hp (q' := 4) hd (W 4) rfl rfl Sc
 | 4, hp, hi, B, Sc =>
  have e : GI.zero 2 1 = i := Option.some.inj hi
  subst e
  show Sq 4 n G t (some ⟨.wait, if m.regs t 2 = 0 then gAt 1 (gWait 4) else 5, d⟩) m
  by_cases hz : m.regs t 2 = 0
  ·rw [if_pos hz]
   refine h.wno ht hp (q' := 16) hd (W 16) (fun e => by cases e) ?_
   rcases Sc with ⟨-, h2⟩ | ⟨k, u, -, h2, -⟩
   ·exact h2
   ·rw [hz] at h2; omega
  ·rw [if_neg hz]
   refine h.wno ht hp (q' := 5) hd (W 5) (fun e => by cases e) ?_
   rcases Sc with ⟨h1, -⟩ | h2
   ·exact absurd h1 hz
   ·exact h2
 | 5, hp, hi, B, Sc =>
  have e : GI.load 0 2 0 = i := Option.some.inj hi
  subst e
  exact h.wlook ht hp (q' := 6) hd (W 6) (by decide) (show Cuq G.ch (Olq G t) (m.regs t) (fun _ => True) from Sc) (fun _ k => k.regs rfl (fun u _ e => e.2))
 | 6, hp, hi, B, Sc =>
  have e : GI.zero 0 2 = i := Option.some.inj hi
  subst e
  show Sq 4 n G t (some ⟨.wait, if m.regs t 0 = 0 then gAt 2 (gWait 4) else 7, d⟩) m
  by_cases hz : m.regs t 0 = 0
  ·rw [if_pos hz]
   exact h.wno ht hp (q' := 2) hd (W 2) (fun e => by cases e) (.inr (Cuq.regs Sc rfl (fun u hu e => (h.1.old_sh ht ht hu).2 (by rw [<- e]; exact hz))))
  ·rw [if_neg hz]
   exact h.wno ht hp (q' := 7) hd (W 7) (fun e => by cases e) Sc
 | 7, hp, hi, B, Sc =>
  have e : GI.const 1 2 = i := Option.some.inj hi
  subst e
  exact h.wreg ht hp (q' := 8) hd (W 8) (fun e => by cases e) (by decide) ⟨rfl, Cuq.regs Sc rfl (fun _ _ e => e)⟩
 | 8, hp, hi, B, Sc =>
  have e : GI.add 1 1 0 = i := Option.some.inj hi
  subst e
  refine h.wreg ht hp (q' := 9) hd (W 9) (fun e => by cases e) (by decide) ⟨?_, Cuq.regs Sc.2 rfl (fun _ _ e => e)⟩
  show (m.regs t 1 + m.regs t 0) % 4294967296 = (2 + m.regs t 0) % 4294967296
  rw [Sc.1]
 | 9, hp, hi, B, Sc =>
  have e : GI.cas 7 0 0 = i := Option.some.inj hi
  subst e
  have L2 := (h.fence ht).1.la t ht
  rw [hp] at L2
  have S2 : Scq G.ch (Olq G t) (shq (m.fence t)) (m.regs t) 9 := L2.2.2.2
  exact h.snum ht hp (q' := 10) Sc.1 (fun w0 => ⟨hd, ((W 10) _).1, ((W 10) (m.regs t)).2, Cuq.regs S2.2 rfl (fun u _ e => by
   show m.regs t 1 = (2 + shq (m.fence t) u) % 4294967296
   rw [Sc.1, e])⟩) (fun e => by cases e)
 | 10, hp, hi, B, Sc =>
  have e : GI.const 0 2 = i := Option.some.inj hi
  subst e
  exact h.wreg ht hp (q' := 11) hd (W 11) (fun e => by cases e) (by decide) ⟨rfl, Cuq.regs Sc rfl (fun _ _ e => e)⟩
 | 11, hp, hi, B, Sc =>
  have e : GI.sub 1 1 0 = i := Option.some.inj hi
  subst e
  refine h.wreg ht hp (q' := 12) hd (W 12) (fun e => by cases e) (by decide) (Cuq.regs Sc.2 rfl (fun u _ e => ?_))
  show (m.regs t 1 - m.regs t 0) % 4294967296 = shq m u
  rw [e, Sc.1]
  obtain ⟨w1, w2⟩ := hwd (u + 3) 0
  unfold shq
  omega
 | 12, hp, hi, B, Sc =>
  have e : GI.label 3 = i := Option.some.inj hi
  subst e
  exact h.wno ht hp (q' := 13) hd (W 13) (fun e => by cases e) Sc
 | 13, hp, hi, B, Sc =>
  have e : GI.load 0 2 0 = i := Option.some.inj hi
  subst e
  exact h.wlook ht hp (q' := 14) hd (W 14) (by decide) (show Cuq G.ch (Olq G t) (m.regs t) (fun u => m.regs t 1 = shq m u) from Sc) (fun _ k => k.regs rfl (fun u _ e => e))
 | 14, hp, hi, B, Sc =>
  have e : GI.same 0 1 3 = i := Option.some.inj hi
  subst e
  show Sq 4 n G t (some ⟨.wait, if m.regs t 0 = m.regs t 1 then gAt 3 (gWait 4) else 15, d⟩) m
  by_cases hz : m.regs t 0 = m.regs t 1
  ·rw [if_pos hz]
   exact h.wno ht hp (q' := 12) hd (W 12) (fun e => by cases e) (Cuq.regs Sc rfl (fun _ _ e => e.1))
  ·rw [if_neg hz]
   exact h.wno ht hp (q' := 15) hd (W 15) (fun e => by cases e) (Cuq.regs Sc rfl (fun _ _ e => hz (by rw [e.1, e.2])))
 | 15, hp, hi, B, Sc =>
  have e : GI.goto 2 = i := Option.some.inj hi
  subst e
  exact h.wno ht hp (q' := 2) hd (W 2) (fun e => by cases e) (.inr Sc)
 | 16, hp, hi, B, Sc =>
  have e : GI.label 1 = i := Option.some.inj hi
  subst e
  exact h.wno ht hp (q' := 17) hd (W 17) (fun e => by cases e) Sc
 | k + 17, hp, hi, B, Sc => exact nomatch (show (none : Option GI) = some i from hi)
theorem qown_wait3 (h : QD 3 n G m) (ht : t < n) (hp : G.pt t = some ⟨.wait, q, d⟩) (hi : (gWait 3)[q]? = some i) : Sq 3 n G t (some ⟨.wait, gNext (gWait 3) q (m.regs t) i, d⟩) (gExec m t i) := by
 have L := h.1.la t ht
 rw [hp] at L
 obtain ⟨hd, B, -, Sc⟩ := L
 have B := B rfl
 have n3 : (3 : Nat) ≠ 3 -> Bq 3 (t ∈ G.ch) t 0 (ovq m t) := fun e => absurd rfl e
 have r7 := h.1.r7 t ht
 have r6 := h.1.r6 t ht
 match q, hp, hi, B, Sc with
 | 0, hp, hi, B, Sc =>
  have e : GI.zero 6 1 = i := Option.some.inj hi
  subst e
  show Sq 3 n G t (some ⟨.wait, if m.regs t 6 = 0 then gAt 1 (gWait 3) else 1, d⟩) m
  rw [if_neg (by rw [r6]; omega)]
  exact h.wno ht hp (q' := 1) hd (fun r => ⟨fun _ => B, n3⟩) (fun _ => rfl) Sc
 | 1, hp, hi, B, Sc =>
  have e : GI.const 0 0 = i := Option.some.inj hi
  subst e
  exact h.sreg ht qgg_wait hp (q' := 2) (by decide) ⟨hd, fun _ => ⟨B, rfl⟩, n3, Sc⟩ (fun _ _ => rfl)
 | 2, hp, hi, B, Sc =>
  have e : GI.swap 0 6 0 = i := Option.some.inj hi
  subst e
  exact h.sswap ht qgg_wait hp (q' := 3) (b := true) (.inl ⟨rfl, rfl⟩) (fun s => ⟨hd, fun _ => ⟨B.2, B.1⟩, fun e => absurd rfl e, fun x hx => Sc x (Gq.cl_le hx).1⟩) (fun _ _ => rfl)
 | 3, hp, hi, B, Sc =>
  have e : GI.swap 0 6 3 = i := Option.some.inj hi
  subst e
  exact h.sswap ht qgg_wait hp (q' := 4) (b := false) (.inr rfl) (fun s => ⟨hd, fun _ => ⟨B.1, B.2⟩, fun e => absurd rfl e, fun x hx => Sc x (Gq.cl_le hx).1⟩) (fun _ _ => rfl)
 | 4, hp, hi, B, Sc =>
  have e : GI.label 1 = i := Option.some.inj hi
  subst e
  exact h.wno ht hp (q' := 5) hd (fun r => ⟨fun _ => B, n3⟩) (fun _ => rfl) Sc
 | 5, hp, hi, B, Sc =>
  have e : GI.fence = i := Option.some.inj hi
  subst e
  exact h.wsee ht hp (q' := 6) rfl (by decide) hd (fun r => ⟨fun _ => B, n3⟩)
 | 6, hp, hi, B, Sc =>
  have e : GI.move 2 7 = i := Option.some.inj hi
  subst e
  exact h.wreg ht hp (q' := 7) hd (fun r => ⟨fun _ => B, n3⟩) (fun e => by cases e) (by decide) (.inl ⟨r7, Sc⟩)
 | 7, hp, hi, B, Sc =>
  have e : GI.label 3 = i := Option.some.inj hi
  subst e
  exact h.wno ht hp (q' := 8) hd (fun r => ⟨fun _ => B, n3⟩) (fun e => by cases e) Sc
 | 8, hp, hi, B, Sc =>
  have e : GI.load 2 2 1 = i := Option.some.inj hi
  subst e
  exact h.wlink ht hp (q' := 9) hd (fun r => ⟨fun _ => B, n3⟩) rfl rfl Sc
 | 9, hp, hi, B, Sc =>
  have e : GI.zero 2 2 = i := Option.some.inj hi
  subst e
  show Sq 3 n G t (some ⟨.wait, if m.regs t 2 = 0 then gAt 2 (gWait 3) else 10, d⟩) m
  by_cases hz : m.regs t 2 = 0
  ·rw [if_pos hz]
   refine h.wno ht hp (q' := 17) hd (fun r => ⟨fun _ => B, n3⟩) (fun e => by cases e) ?_
   rcases Sc with ⟨-, h2⟩ | ⟨k, u, -, h2, -⟩
   ·exact h2
   ·rw [hz] at h2; omega
  ·rw [if_neg hz]
   refine h.wno ht hp (q' := 10) hd (fun r => ⟨fun _ => B, n3⟩) (fun e => by cases e) ?_
   rcases Sc with ⟨h1, -⟩ | h2
   ·exact absurd h1 hz
   ·exact h2
 | 10, hp, hi, B, Sc =>
  have e : GI.load 0 2 0 = i := Option.some.inj hi
  subst e
  exact h.wlook ht hp (q' := 11) hd (fun r => ⟨fun _ => B, n3⟩) (by decide) (show Cuq G.ch (Olq G t) (m.regs t) (fun _ => True) from Sc) (fun _ k => k.regs rfl (fun u _ e => e.2))
 | 11, hp, hi, B, Sc =>
  have e : GI.zero 0 3 = i := Option.some.inj hi
  subst e
  show Sq 3 n G t (some ⟨.wait, if m.regs t 0 = 0 then gAt 3 (gWait 3) else 12, d⟩) m
  by_cases hz : m.regs t 0 = 0
  ·rw [if_pos hz]
   exact h.wno ht hp (q' := 7) hd (fun r => ⟨fun _ => B, n3⟩) (fun e => by cases e) (.inr (Cuq.regs Sc rfl (fun u hu e => (h.1.old_sh ht ht hu).2 (by rw [<- e]; exact hz))))
  ·rw [if_neg hz]
   exact h.wno ht hp (q' := 12) hd (fun r => ⟨fun _ => B, n3⟩) (fun e => by cases e) Sc
 | 12, hp, hi, B, Sc =>
  have e : GI.move 1 0 = i := Option.some.inj hi
  subst e
  exact h.wreg ht hp (q' := 13) hd (fun r => ⟨fun _ => B, n3⟩) (fun e => by cases e) (by decide) (Cuq.regs Sc rfl (fun _ _ e => e))
 | 13, hp, hi, B, Sc =>
  have e : GI.label 4 = i := Option.some.inj hi
  subst e
  exact h.wno ht hp (q' := 14) hd (fun r => ⟨fun _ => B, n3⟩) (fun e => by cases e) Sc
 | 14, hp, hi, B, Sc =>
  have e : GI.load 0 2 0 = i := Option.some.inj hi
  subst e
  exact h.wlook ht hp (q' := 15) hd (fun r => ⟨fun _ => B, n3⟩) (by decide) (show Cuq G.ch (Olq G t) (m.regs t) (fun u => m.regs t 1 = shq m u) from Sc) (fun _ k => k.regs rfl (fun u _ e => e))
 | 15, hp, hi, B, Sc =>
  have e : GI.same 0 1 4 = i := Option.some.inj hi
  subst e
  show Sq 3 n G t (some ⟨.wait, if m.regs t 0 = m.regs t 1 then gAt 4 (gWait 3) else 16, d⟩) m
  by_cases hz : m.regs t 0 = m.regs t 1
  ·rw [if_pos hz]
   exact h.wno ht hp (q' := 13) hd (fun r => ⟨fun _ => B, n3⟩) (fun e => by cases e) (Cuq.regs Sc rfl (fun _ _ e => e.1))
  ·rw [if_neg hz]
   exact h.wno ht hp (q' := 16) hd (fun r => ⟨fun _ => B, n3⟩) (fun e => by cases e) (Cuq.regs Sc rfl (fun _ _ e => hz (by rw [e.1, e.2])))
 | 16, hp, hi, B, Sc =>
  have e : GI.goto 3 = i := Option.some.inj hi
  subst e
  exact h.wno ht hp (q' := 7) hd (fun r => ⟨fun _ => B, n3⟩) (fun e => by cases e) (.inr Sc)
 | 17, hp, hi, B, Sc =>
  have e : GI.label 2 = i := Option.some.inj hi
  subst e
  exact h.wno ht hp (q' := 18) hd (fun r => ⟨fun _ => B, n3⟩) (fun e => by cases e) Sc
 | 18, hp, hi, B, Sc =>
  have e : GI.zero 6 5 = i := Option.some.inj hi
  subst e
  show Sq 3 n G t (some ⟨.wait, if m.regs t 6 = 0 then gAt 5 (gWait 3) else 19, d⟩) m
  rw [if_neg (by rw [r6]; omega)]
  exact h.wno ht hp (q' := 19) hd (fun r => ⟨fun _ => B, n3⟩) (fun e => by cases e) Sc
 | 19, hp, hi, B, Sc =>
  have e : GI.load 0 6 3 = i := Option.some.inj hi
  subst e
  exact h.sload ht qgg_wait hp (q' := 20) (by decide) ⟨hd, fun _ => ⟨B.1, B.2, rfl⟩, n3, Sc⟩ (fun _ e => by cases e)
 | 20, hp, hi, B, Sc =>
  have e : GI.zero 0 5 = i := Option.some.inj hi
  subst e
  show Sq 3 n G t (some ⟨.wait, if m.regs t 0 = 0 then gAt 5 (gWait 3) else 21, d⟩) m
  rw [if_neg (fun e => by have h1 := B.2.1; rw [<- B.2.2, e] at h1; cases h1)]
  exact h.sno ht qgg_wait hp (q' := 21) ⟨hd, fun _ => B, n3, Sc⟩ (fun _ e => by cases e)
 | 21, hp, hi, B, Sc =>
  have e : GI.const 1 2 = i := Option.some.inj hi
  subst e
  exact h.sreg ht qgg_wait hp (q' := 22) (by decide) ⟨hd, fun _ => ⟨B.1, B.2.1, B.2.2, rfl⟩, n3, Sc⟩ (fun _ e => by cases e)
 | 22, hp, hi, B, Sc =>
  have e : GI.add 0 0 1 = i := Option.some.inj hi
  subst e
  refine h.sreg ht qgg_wait hp (q' := 23) (by decide) ⟨hd, fun _ => ⟨B.1, ?_⟩, n3, Sc⟩ (fun _ e => by cases e)
  show (m.regs t 0 + m.regs t 1) % 4294967296 % 2 = 1
  have h1 := B.2.1
  rw [B.2.2.1, B.2.2.2]
  omega
 | 23, hp, hi, B, Sc =>
  have e : GI.swap 0 6 0 = i := Option.some.inj hi
  subst e
  exact h.sswap ht qgg_wait hp (q' := 24) (b := true) (.inl ⟨rfl, rfl⟩) (fun s => ⟨hd, fun _ => B.2, fun e => absurd rfl e, fun x hx => Sc x (Gq.cl_le hx).1⟩) (fun _ e => by cases e)
 | 24, hp, hi, B, Sc =>
  have e : GI.label 5 = i := Option.some.inj hi
  subst e
  exact h.wno ht hp (q' := 25) hd (fun r => ⟨fun _ => B, n3⟩) (fun e => by cases e) Sc
 | k + 25, hp, hi, B, Sc => exact nomatch (show (none : Option GI) = some i from hi)
end
end
section
open Go.RowKit
def Gq.upd (G : Gq) (t : Nat) (x : Option Nat) (l : List Nat) (k : Fl) (g : Option Pq) : Gq := { G with pt := fun u => if u = t then g else G.pt u, nd := fun u => if u = t then x else G.nd u, ls := fun u => if u = t then l else G.ls u, fl := fun u => if u = t then k else G.fl u }
section
variable {G : Gq} {t : Nat} {x : Option Nat} {l : List Nat} {k : Fl} {g : Option Pq}
theorem Gq.upd_pt : (G.upd t x l k g).pt t = g := if_pos rfl
theorem Gq.upd_nd : (G.upd t x l k g).nd t = x := if_pos rfl
theorem Gq.upd_ls : (G.upd t x l k g).ls t = l := if_pos rfl
theorem Gq.upd_fl : (G.upd t x l k g).fl t = k := if_pos rfl
theorem Gq.upd_ptn {u : Nat} (h : u ≠ t) : (G.upd t x l k g).pt u = G.pt u := if_neg h
theorem Gq.upd_ndn {u : Nat} (h : u ≠ t) : (G.upd t x l k g).nd u = G.nd u := if_neg h
theorem Gq.upd_lsn {u : Nat} (h : u ≠ t) : (G.upd t x l k g).ls u = G.ls u := if_neg h
theorem Gq.upd_fln {u : Nat} (h : u ≠ t) : (G.upd t x l k g).fl u = G.fl u := if_neg h
theorem Gq.upd_ow : ow (G.upd t x l k g) t = x.toList ++ l := by unfold ow; rw [Gq.upd_nd, Gq.upd_ls]
theorem Gq.upd_own {u : Nat} (h : u ≠ t) : ow (G.upd t x l k g) u = ow G u := by unfold ow; rw [Gq.upd_ndn h, Gq.upd_lsn h]
theorem Av.upd (G : Gq) (t : Nat) (x : Option Nat) (l : List Nat) (k : Fl) (g : Option Pq) : Av t g G (G.upd t x l k g) := ⟨rfl, rfl, Gq.upd_pt, fun _ hu => Gq.upd_ptn hu⟩
theorem Ret.upd {c : Nat} : Ret (G.upd t x l k g) t c ↔ c ∈ l ∨ (x = some c /\ rtd g) := by unfold Ret; rw [Gq.upd_ls, Gq.upd_nd, Gq.upd_pt]
theorem Ret.updn {u c : Nat} (h : u ≠ t) : Ret (G.upd t x l k g) u c ↔ Ret G u c := by unfold Ret; rw [Gq.upd_lsn h, Gq.upd_ndn h, Gq.upd_ptn h]
theorem An.updn {f u c : Nat} (h : u ≠ t) : An f (G.upd t x l k g) u c ↔ An f G u c := by unfold An; rw [Gq.upd_lsn h, Gq.upd_fln h, Gq.upd_ptn h]
end
section
variable {f n : Nat} {G G' : Gq} {m m' : Mk} {t q d : Nat} {i : GI}
theorem QD.noold (h : QD f n G m) (ht : t < n) {tg : Tq} (hp : G.pt t = some ⟨tg, q, d⟩) (hne : tg ≠ .wait) : ¬ ∃ u, Olq G t u := fun ⟨u, hu⟩ => by
 obtain ⟨-, ⟨q2, d2, e⟩, -⟩ := h.1.old t u ht hu
 rw [hp] at e
 cases e
 exact hne rfl
theorem QD.regu {x : Option Nat} {l : List Nat} {k : Fl} {g : Option Pq} (h : QD f n G m) (ht : t < n) (hno : ¬ ∃ u, Olq G t u) (e1 : m'.mem = m.mem) (e2 : m'.faults = m.faults) (hmk : ∀ x ∈ m'.marks, G.val x.2) (er : ∀ u, u ≠ t -> m'.regs u = m.regs u) (k5 : m'.regs t 5 = m.regs t 5) (k6 : m'.regs t 6 = m.regs t 6) (k7 : m'.regs t 7 = m.regs t 7)
  (hla : Lq f G.ch (Olq G t) (shq m) t (ovq m t) (m'.regs t) g) (hpe : (x.toList ++ l).Perm (ow G t)) (hlk : Lkq m t l) (hkp : k.k = false -> l = []) (hlc : Lc G.val m' t x l k.r g)
  (hr1 : ∀ c, c ∈ l ∨ (x = some c /\ rtd g) -> Ret G t c) (hr2 : ∀ c, Ret G t c -> (c ∈ l ∨ (x = some c /\ rtd g)) /\ (An f G t c -> An f (G.upd t x l k g) t c)) (hrd : rdq g -> m'.regs t 0 = rf m G.pp) : QD f n (G.upd t x l k g) m' := by
 refine ⟨h.1.reg ht (Av.upd G t x l k g) e1 er k5 k6 k7 hla (fun e => absurd e hno), ?_⟩
 exact h.2.reg ht (Av.upd G t x l k g) rfl rfl (fun u hu => Gq.upd_ndn hu) (fun u hu => Gq.upd_lsn hu) (fun u hu => Gq.upd_fln hu) e1 e2 hmk er (by rw [Gq.upd_ow]; exact hpe) (by rw [Gq.upd_ls]; exact hlk) (by rw [Gq.upd_ls, Gq.upd_fl]; exact hkp) (by rw [Gq.upd_nd, Gq.upd_ls, Gq.upd_fl]; exact hlc) (fun c hc => hr1 c (Ret.upd.1 hc)) (fun c hc => ⟨Ret.upd.2 (hr2 c hc).1, (hr2 c hc).2⟩) hrd
theorem QD.rego {k : Fl} {g : Option Pq} (h : QD f n G m) (ht : t < n) (hno : ¬ ∃ u, Olq G t u) (e1 : m'.mem = m.mem) (e2 : m'.faults = m.faults) (hmk : ∀ x ∈ m'.marks, G.val x.2) (er : ∀ u, u ≠ t -> m'.regs u = m.regs u) (k5 : m'.regs t 5 = m.regs t 5) (k6 : m'.regs t 6 = m.regs t 6) (k7 : m'.regs t 7 = m.regs t 7)
  (hla : Lq f G.ch (Olq G t) (shq m) t (ovq m t) (m'.regs t) g) (hkp : k.k = false -> G.ls t = []) (hlc : Lc G.val m' t (G.nd t) (G.ls t) k.r g)
  (hrt : ∀ c, G.nd t = some c -> (rtd g ↔ rtd (G.pt t))) (han : ∀ c, Ret G t c -> An f G t c -> An f (G.upd t (G.nd t) (G.ls t) k g) t c) (hrd : rdq g -> m'.regs t 0 = rf m G.pp) : QD f n (G.upd t (G.nd t) (G.ls t) k g) m' := by
 refine h.regu ht hno e1 e2 hmk er k5 k6 k7 hla (List.Perm.refl _) (h.2.lst t ht) hkp hlc (fun c hc => ?_) (fun c hc => ⟨?_, han c hc⟩) hrd
 ·rcases hc with hc | ⟨h1, h2⟩
  ·exact .inl hc
  ·exact .inr ⟨h1, (hrt c h1).1 h2⟩
 ·rcases hc with hc | ⟨h1, h2⟩
  ·exact .inl hc
  ·exact .inr ⟨h1, (hrt c h1).2 h2⟩
theorem An.same {x : Option Nat} {l : List Nat} {k : Fl} {g : Option Pq} {c : Nat} (h : An f G t c) (hl : c ∈ G.ls t -> c ∈ l) (hk : (G.fl t).w = k.w) {tg tg' : Tq} {q' d' : Nat} (hp : G.pt t = some ⟨tg, q, d⟩) (hg : g = some ⟨tg', q', d'⟩) (h1 : tg ≠ .wait /\ tg' ≠ .wait) (h2 : tg ≠ .empty /\ tg' ≠ .empty) : An f (G.upd t x l k g) t c := by
 unfold An at h ⊢
 rw [Gq.upd_pt, Gq.upd_ls, Gq.upd_fl, hg]
 rw [hp] at h
 have h' : c ∈ G.ls t ∨ (G.fl t).w = false := by
  cases tg with
  | wait => exact absurd rfl h1.1
  | empty => exact absurd rfl h2.1
  | _ => exact h
 have h'' : c ∈ l ∨ k.w = false := h'.imp hl (fun e => by rw [<- hk]; exact e)
 cases tg' with
 | wait => exact absurd rfl h1.2
 | empty => exact absurd rfl h2.2
 | _ => exact h''
theorem An.any {x : Option Nat} {l : List Nat} {k : Fl} {g : Option Pq} {c : Nat} (hl : c ∈ l ∨ k.w = false) {tg' : Tq} {q' d' : Nat} (hg : g = some ⟨tg', q', d'⟩) (h1 : tg' ≠ .wait) (h2 : tg' ≠ .empty) : An f (G.upd t x l k g) t c := by
 unfold An
 rw [Gq.upd_pt, Gq.upd_ls, Gq.upd_fl, hg]
 cases tg' with
 | wait => exact absurd rfl h1
 | empty => exact absurd rfl h2
 | _ => exact hl
theorem Sq.upd {x : Option Nat} {l : List Nat} {k : Fl} {g : Option Pq} (h : QD f n (G.upd t x l k g) m') (hk : k = flq g (G.fl t)) : Sq f n G t g m' := ⟨_, h, Gq.upd_pt, fun _ hu => Gq.upd_ptn hu, .inl rfl, rfl, fun _ hu => Gq.upd_fln hu, by rw [Gq.upd_fl]; exact hk⟩
theorem vw_val {V : Int -> Prop} {c : Nat} {g : Int} : ∀ {l : List Wt} {v : Int}, V v -> (∀ x ∈ l, x.c = (c : Int) -> x.w = 1 ∨ x.w = 0 /\ V x.v) -> V (l.foldl (Wt.pick c g (0 : Nat)) v)
 | [], _, hv, _ => hv
 | x :: l, v, hv, h => by
  rw [List.foldl_cons]
  refine vw_val ?_ (fun y hy => h y (List.mem_cons_of_mem _ hy))
  unfold Wt.pick
  split
  ·rename_i e
   rcases h x List.mem_cons_self e.1 with h1 | ⟨-, h1⟩
   ·have := e.2.2; omega
   ·exact h1
  ·exact hv
theorem QD.sees (h : QD f n G m) (ht : t < n) {c : Nat} (hc : c = 0 ∨ n + 3 <= c) (hv : G.val (m.mem.ar.words c 0)) (g : Int) : G.val (vw m t c g 0) := by
 refine vw_val hv (fun x hx e => ?_)
 obtain ⟨c', -, k1, -, k2⟩ := h.2.wts t ht x hx (by omega)
 exact k2
theorem loc_at (h : QD f n G m) (ht : t < n) {g : Option Pq} (hp : G.pt t = g) : Lc G.val m t (G.nd t) (G.ls t) (G.fl t).r g := by
 have := h.2.loc t ht
 rw [hp] at this
 exact this
theorem la_at (h : QD f n G m) (ht : t < n) {g : Option Pq} (hp : G.pt t = g) : Lq f G.ch (Olq G t) (shq m) t (ovq m t) (m.regs t) g := by
 have := h.1.la t ht
 rw [hp] at this
 exact this
theorem setq_ne (m : Mk) (t r : Nat) (v : Int) {k : Nat} (h : k ≠ r) : (m.setReg t r v).regs t k = m.regs t k := by rw [setReg_reg, if_neg h]
theorem setq_eq (m : Mk) (t r : Nat) (v : Int) : (m.setReg t r v).regs t r = v := by rw [setReg_reg, if_pos rfl]
theorem Nf.keep {w : Nat} {nd : Option Nat} {r : Bool} (e1 : m'.mem = m.mem) (e3 : m'.regs w 3 = m.regs w 3) (h : Nf m w nd r) : Nf m' w nd r := by
 unfold Nf NR at h ⊢
 rw [e3]
 simp only [qrf_mem e1]
 exact h
theorem NS.keep {w : Nat} {nd : Option Nat} (e1 : m'.mem = m.mem) (e3 : m'.regs w 3 = m.regs w 3) (h : NS m w nd) : NS m' w nd := by
 unfold NS at h ⊢
 rw [e3]
 simp only [qrf_mem e1]
 exact h
theorem qown_read (h : QD f n G m) (ht : t < n) (hp : G.pt t = some ⟨.read, q, d⟩) (hi : (tqCode f .read)[q]? = some i) : Sq f n G t (some ⟨.read, gNext (tqCode f .read) q (m.regs t) i, d⟩) (hExec m t .read q i) := by
 have hno := h.noold ht hp (by decide)
 match q, hp, hi with
 | 0, hp, hi =>
  have L := la_at h ht hp
  have C := loc_at h ht hp
  have e : GI.load 0 5 0 = i := Option.some.inj hi
  subst e
  obtain ⟨Lr, g0, r0⟩ := h.1.cell (show 1 <= 1 by omega) (show 1 <= n + 2 by omega)
  have hv : vw m t 1 (gn m 1) 0 = rf m G.pp := by
   unfold vw
   rw [foldl_none (fun x hx e => ?_)]
   ·exact h.2.pub.2.1
   ·rcases (h.1.wts t ht x hx).2 with ⟨h5, -⟩ | h5 <;> (have := e.1; omega)
  show Sq f n G t (some ⟨.read, 1, d⟩) (m.load t 0 (m.regs t 5) ((0 : Nat) : Int))
  rw [h.1.r5 t ht, show (2 : Int) = rf m 1 by rw [r0]; rfl, load_live Lr, hv]
  exact Sq.upd (h.rego (k := G.fl t) ht hno rfl rfl h.2.mks (fun u hu => reg3q _ _ _ _ hu) (setq_ne _ _ _ _ (by decide)) (setq_ne _ _ _ _ (by decide)) (setq_ne _ _ _ _ (by decide)) L (h.2.kep t ht)
   ⟨⟨by rw [setq_ne _ _ _ _ (by decide), hdn_mem rfl]; exact C.1.1, Nf.keep (m := m) rfl (setq_ne _ _ _ _ (by decide)) C.1.2⟩, fun e => by omega⟩ (fun c _ => by rw [hp]; exact Iff.rfl) (fun c _ ha => ha.same id rfl hp rfl ⟨by decide, by decide⟩ ⟨by decide, by decide⟩) (fun _ => setq_eq _ _ _ _)) rfl
 | 1, hp, hi =>
  have L := la_at h ht hp
  have C := loc_at h ht hp
  have e : GI.load 0 0 0 = i := Option.some.inj hi
  subst e
  have key : ∃ x, (x = 0 ∨ n + 3 <= x) /\ Live m x /\ m.regs t 0 = rf m x /\ G.val (m.mem.ar.words x 0) := by
   rcases h.2.hold t ht (by rw [hp]; rfl) with e | ⟨w, h1, c, h2, h3, -⟩
   ·exact ⟨G.pp, h.2.pub.1.1, h.2.pub.1.2, e, h.2.pub.2.2⟩
   ·obtain ⟨k1, k2, -⟩ := h.2.dc h1 h2.ow
    exact ⟨c, k1, k2, h3, h.2.ret w h1 c h2⟩
  obtain ⟨x, hx, Lx, h3, hv⟩ := key
  have he := h.sees ht hx hv (gn m x)
  show Sq f n G t (some ⟨.read, 2, d⟩) (m.load t 0 (m.regs t 0) ((0 : Nat) : Int))
  rw [h3, load_live Lx]
  exact Sq.upd (h.rego (k := G.fl t) ht hno rfl rfl h.2.mks (fun u hu => reg3q _ _ _ _ hu) (setq_ne _ _ _ _ (by decide)) (setq_ne _ _ _ _ (by decide)) (setq_ne _ _ _ _ (by decide)) L (h.2.kep t ht)
   ⟨⟨by rw [setq_ne _ _ _ _ (by decide), hdn_mem rfl]; exact C.1.1, Nf.keep (m := m) rfl (setq_ne _ _ _ _ (by decide)) C.1.2⟩, fun _ => by rw [setq_eq]; exact he⟩ (fun c _ => by rw [hp]; exact Iff.rfl) (fun c _ ha => ha.same id rfl hp rfl ⟨by decide, by decide⟩ ⟨by decide, by decide⟩) (fun e => by cases e)) rfl
 | 2, hp, hi =>
  have L := la_at h ht hp
  have C := loc_at h ht hp
  have e : GI.need 0 = i := Option.some.inj hi
  subst e
  have hv := C.2 (.inl rfl)
  show Sq f n G t (some ⟨.read, 3, d⟩) (m.need (m.regs t 0))
  unfold Mk.need
  rw [if_neg (fun e => h.2.nz (by rw [<- e]; exact hv))]
  exact Sq.upd (h.rego (k := G.fl t) ht hno rfl rfl h.2.mks (fun u hu => rfl) rfl rfl rfl L (h.2.kep t ht)
   ⟨C.1, fun _ => hv⟩ (fun c _ => by rw [hp]; exact Iff.rfl) (fun c _ ha => ha.same id rfl hp rfl ⟨by decide, by decide⟩ ⟨by decide, by decide⟩) (fun e => by cases e)) rfl
 | 3, hp, hi =>
  have L := la_at h ht hp
  have C := loc_at h ht hp
  have e : GI.label 9 = i := Option.some.inj hi
  subst e
  have hv := C.2 (.inr rfl)
  show Sq f n G t (some ⟨.read, 4, d⟩) (m.mark t (m.regs t 0))
  have hm : (m.mark t (m.regs t 0)).mem = m.mem /\ (m.mark t (m.regs t 0)).regs = m.regs /\ (m.mark t (m.regs t 0)).faults = m.faults /\ ∀ x ∈ (m.mark t (m.regs t 0)).marks, G.val x.2 := by
   unfold Mk.mark
   split
   ·refine ⟨rfl, rfl, rfl, fun x hx => ?_⟩
    rcases List.mem_append.1 hx with hx | hx
    ·exact h.2.mks x hx
    ·obtain rfl := List.mem_singleton.1 hx
     exact hv
   ·exact ⟨rfl, rfl, rfl, h.2.mks⟩
  obtain ⟨m1, m2, m3, m4⟩ := hm
  exact Sq.upd (h.rego (k := G.fl t) ht hno m1 m3 m4 (fun u hu => by rw [m2]) (by rw [m2]) (by rw [m2]) (by rw [m2]) (by rw [m2]; exact L) (h.2.kep t ht)
   ⟨⟨by rw [m2, hdn_mem m1]; exact C.1.1, Nf.keep m1 (by rw [m2]) C.1.2⟩, fun e => by omega⟩ (fun c _ => by rw [hp]; exact Iff.rfl) (fun c _ ha => ha.same id rfl hp rfl ⟨by decide, by decide⟩ ⟨by decide, by decide⟩) (fun e => by cases e)) rfl
 | k + 4, hp, hi => exact nomatch (show (none : Option GI) = some i from hi)
end
end
end Go.Proofs.YtaiigfcfmcicjaaGreatDoor
