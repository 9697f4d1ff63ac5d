import Derived.Test.YtaiigfcfmcicjaaGreatDoorF37
import Derived.Test.YtaiigfcfmcicjaaGreatDoorF08
namespace Go.Proofs.YtaiigfcfmcicjaaGreatDoor
set_option maxRecDepth 100000
set_option maxHeartbeats 8000000
section
open Go.RowKit
theorem wrapNext {n : Nat} (h : n <= 2000) : wrap64 ((n : Int) + 1) = (n : Int) + 1 := by unfold wrap64; omega
theorem wrapNext2 {n : Nat} (h : n <= 2000) : IntKind.i64.wrap ((n : Int) + 1) = (n : Int) + 1 := by rw [IntKind.wrap_i64]; omega
structure RkX (cs : List (List Ins)) (p : RkPl) (m : Mk) (K : Nat) (w : World) : Prop where
 at' : RkAt cs p m w
 ok : MkOk cs.length K m
 right : Right cs
 hK : K <= 10000000
theorem RkX.of {cs : List (List Ins)} {p : RkPl} {m m' : Mk} {K K' : Nat} {r : RmPl} {v : Value} {w w' : World} (h : RkX cs p m K w) (k : RkStep cs p m.mem w r v m' w') (ok : MkOk cs.length K' m') (hK : K' <= 10000000) : RkX cs (p.to r v) m' K' w' := ⟨k.at', ok, h.right, hK⟩
theorem RkX.faults {cs : List (List Ins)} {p : RkPl} {m : Mk} {K : Nat} {w : World} (h : RkX cs p m K w) : m.faults <= 900000000 := by have := h.ok.faults; have := h.hK; omega
theorem RkX.waits {cs : List (List Ins)} {p : RkPl} {m : Mk} {K : Nat} {w : World} (h : RkX cs p m K w) {t : Nat} (ht : t < cs.length) : ∀ x ∈ m.mem.waits t, x.Ok := h.ok.mem.ok t (by rw [h.ok.thr]; exact ht)
theorem RkX.few {cs : List (List Ins)} {p : RkPl} {m : Mk} {K : Nat} {w : World} (h : RkX cs p m K w) {t : Nat} (ht : t < cs.length) : (m.mem.waits t).length <= 8 := h.ok.mem.few t (by rw [h.ok.thr]; exact ht)
structure Stg (cs : List (List Ins)) (p : RkPl) (s : Rm) (w0 : World) (bx : Nat) (r : RmPl) (v : Value) (m : Mk) (W : World) : Prop where
 step : RkStep cs p s w0 r v m W
 ge : w0.heap.size <= bx
 nfp : ¬ (p.to r v).fp cs.length m.mem bx
 lt : bx < W.heap.size
section
variable {cs : List (List Ins)} {p : RkPl} {s : Rm} {w0 : World} {bx : Nat} {r r2 : RmPl} {v v2 : Value} {m m2 : Mk} {W W' : World}
theorem Stg.below (h : Stg cs p s w0 bx r v m W) (k : Below W.heap.size W W') : Stg cs p s w0 bx r v m W' := ⟨h.step.below k, h.ge, h.nfp, Nat.lt_of_lt_of_le h.lt k.size⟩
theorem Stg.trans (h : Stg cs p s w0 bx r v m W) (k : RkStep cs (p.to r v) m.mem W r2 v2 m2 W') : Stg cs p s w0 bx r2 v2 m2 W' := ⟨h.step.trans k, h.ge, fun e => by
 rcases k.fp bx e with e | e
 ·exact h.nfp e
 ·have := h.lt; omega, Nat.lt_of_lt_of_le h.lt k.turns.size⟩
theorem Stg.first (h : RkAt cs p m w0) (k : Below w0.heap.size w0 W) (hb : w0.heap.size <= bx) (hl : bx < W.heap.size) : Stg cs p m.mem w0 bx p.rp p.mv m W := ⟨RkStep.of_below' h k, hb, fun e => by have := h.fp_lt e; omega, hl⟩
theorem Stg.other {bx' : Nat} (h : Stg cs p s w0 bx r v m W) (hl : W.heap.size <= bx') (k : Below W.heap.size W W') (h2 : bx' < W'.heap.size) : Stg cs p s w0 bx' r v m W' := ⟨h.step.below k, by have := h.step.turns.size; omega, fun e => by have := h.step.at'.fp_lt e; omega, h2⟩
theorem Stg.keep (h : Stg cs p s w0 bx r v m W) (k : RkStep cs (p.to r v) m.mem W r2 v2 m2 W') {o : Nat} {u : Value} (hc : W.cell? ⟨bx, o, none⟩ = some u) : W'.cell? ⟨bx, o, none⟩ = some u := k.turns.keep hc h.nfp
theorem Stg.ne (h : Stg cs p s w0 bx r v m W) : bx ≠ p.k /\ bx ≠ p.tb /\ (∀ t, t < cs.length -> bx ≠ p.rb t) := ⟨fun e => h.nfp (.inl e), fun e => h.nfp (.inr (.inl e)), fun t ht e => h.nfp (.inr (.inr (.inl ⟨t, ht, e⟩)))⟩
end
theorem box5d {w W : World} {T : TypeId} {a b c d e : Value} (h : W = (w.alloc (.cells #[a, b, c, d, e] T)).drew) : Below w.heap.size w W /\ W.cell? ⟨w.heap.size, 0, none⟩ = some a /\ W.cell? ⟨w.heap.size, 1, none⟩ = some b /\ W.cell? ⟨w.heap.size, 2, none⟩ = some c /\ W.cell? ⟨w.heap.size, 3, none⟩ = some d /\ W.cell? ⟨w.heap.size, 4, none⟩ = some e /\ w.heap.size < W.heap.size := by
 subst h
 exact ⟨(bRf.alloc nL _).drew, by simp, by simp, by simp, by simp, by simp, by simp⟩
theorem pfx1 {cs : List (List Ins)} {p : RkPl} {m : Mk} {K t : Nat} {w : World} (D : RkX cs p m K w) {L : List Ins} (ht : cs[t]? = some L) {x : Ins} (hx : L[m.pc t]? = some x) : t < cs.length /\ cs.length <= 6 /\ m.pc t < L.length /\ L.length <= 2000 /\ cs.length <= p.tcap /\ L.length <= p.cc t /\ (t : Int) < cs.length /\ (t : Int) < 6 /\ (m.pc t : Int) < L.length /\ m.pc t <= 2000 /\ wrap64 ((m.pc t : Int) + 1) = (m.pc t : Int) + 1 /\ IntKind.i64.wrap ((m.pc t : Int) + 1) = (m.pc t : Int) + 1 /\ 8 <= p.rcap t /\ Hid (insAt (p.ad t) L w) /\ Hid (RkX cs p m K w) /\ Hid (RkAt cs p m w) /\ decide ((t : Int) < 0) = false /\ w.cell? ⟨p.k, 1, none⟩ = some (.slice (some ⟨p.tb, 0, none⟩) cs.length p.tcap) := by
 have htl := lt_of_get ht
 have h6 := D.at'.few
 have hpl := lt_of_get hx
 exact ⟨htl, h6, hpl, (D.right.right t L ht).1, D.at'.tcap, D.at'.ccap t L ht, by omega, by omega, by omega, D.ok.pcs t, wrapNext (D.ok.pcs t), wrapNext2 (D.ok.pcs t), D.at'.rcap t htl, hide (D.at'.rc.code ht), hide D, hide D.at', by simp, D.at'.mT⟩
theorem pfx3a {cs : List (List Ins)} {p : RkPl} {m : Mk} {t : Nat} {w w1 W2 : World} (H : Hid (RkAt cs p m w)) (htl : t < cs.length) (hb1 : Below w.heap.size w w1) (b2 : Below w1.heap.size w1 W2) (lW2 : w1.heap.size < W2.heap.size) : Below w.heap.size w W2 /\ Hid (RkAt cs p m W2) /\ W2.cell? ⟨p.k, 1, none⟩ = some (.slice (some ⟨p.tb, 0, none⟩) cs.length p.tcap) /\ W2.cell? ⟨p.tb, t * 3 + 2, none⟩ = some (.int .i64 (m.pc t)) /\ W2.cell? ⟨p.tb, t * 3 + 1, none⟩ = some (.slice (some ⟨p.rb t, 0, none⟩) 8 (p.rcap t)) /\ W2.frozen? ⟨p.tb, t * 3 + 2, none⟩ = false /\ p.k ≠ p.tb /\ p.rb t ≠ p.k /\ p.rb t ≠ p.tb /\ Hid (Stg cs p m.mem w w1.heap.size p.rp p.mv m W2) /\ w1.heap.size ≠ p.k /\ w1.heap.size ≠ p.tb /\ w1.heap.size ≠ p.rb t /\ p.k < W2.heap.size /\ p.tb < W2.heap.size /\ p.rb t < W2.heap.size := by
 have B2 := below_step hb1 b2
 have H2 := hide (H.out.below B2)
 have G2 : Hid (Stg cs p m.mem w w1.heap.size p.rp p.mv m W2) := hide (Stg.first H.out B2 hb1.size lW2)
 obtain ⟨nk, nt, nr⟩ := G2.out.ne
 exact ⟨B2, H2, H2.out.mT, H2.out.tAt t htl, H2.out.tRegs t htl, H2.out.ft (t * 3 + 2), H2.out.d1, (H2.out.d2 t htl).1, (H2.out.d2 t htl).2, G2, nk, nt, nr t htl, H2.out.lk, H2.out.lt', H2.out.lr htl⟩
theorem pfx3b {cs : List (List Ins)} {p : RkPl} {m : Mk} {K t bx : Nat} {w W2 : World} (HX : Hid (RkX cs p m K w)) (htl : t < cs.length) (hp : m.pc t + 1 <= 2000) (H2 : Hid (RkAt cs p m W2)) (G2 : Hid (Stg cs p m.mem w bx p.rp p.mv m W2)) {v0 v1 v2 v3 v4 : Value} (q0 : W2.cell? ⟨bx, 0, none⟩ = some v0) (q1 : W2.cell? ⟨bx, 1, none⟩ = some v1) (q2 : W2.cell? ⟨bx, 2, none⟩ = some v2) (q3 : W2.cell? ⟨bx, 3, none⟩ = some v3) (q4 : W2.cell? ⟨bx, 4, none⟩ = some v4) : ∃ W3, W3 = W2.setCell ⟨p.tb, t * 3 + 2, none⟩ (.int .i64 ((m.pc t : Int) + 1)) /\ Hid (RkStep cs p m.mem W2 p.rp p.mv (m.setPc t (m.pc t + 1)) W3) /\ Hid (Stg cs p m.mem w bx p.rp p.mv (m.setPc t (m.pc t + 1)) W3) /\ Hid (RkAt cs p (m.setPc t (m.pc t + 1)) W3) /\ Hid (RkX cs p (m.setPc t (m.pc t + 1)) K W3) /\ W3.cell? ⟨bx, 0, none⟩ = some v0 /\ W3.cell? ⟨bx, 1, none⟩ = some v1 /\ W3.cell? ⟨bx, 2, none⟩ = some v2 /\ W3.cell? ⟨bx, 3, none⟩ = some v3 /\ W3.cell? ⟨bx, 4, none⟩ = some v4 /\ W3.cell? ⟨p.k, 1, none⟩ = some (.slice (some ⟨p.tb, 0, none⟩) cs.length p.tcap) /\ W3.cell? ⟨p.tb, t * 3 + 1, none⟩ = some (.slice (some ⟨p.rb t, 0, none⟩) 8 (p.rcap t)) /\ W3.cell? ⟨p.k, 0, none⟩ = some (.pointer (some ⟨p.rp.mb, 0, none⟩)) /\ bx < W3.heap.size /\ Hid (∀ r, r < 8 -> W2.cell? ⟨p.rb t, r, none⟩ = some (.int .i64 (m.regs t r)) /\ W2.frozen? ⟨p.rb t, r, none⟩ = false) := by
 obtain ⟨W3, hW3⟩ : ∃ W3, W3 = W2.setCell ⟨p.tb, t * 3 + 2, none⟩ (.int .i64 ((m.pc t : Int) + 1)) := ⟨_, rfl⟩
 have S3 : Hid (RkStep cs p m.mem W2 p.rp p.mv (m.setPc t (m.pc t + 1)) W3) := hide (by rw [hW3]; exact H2.out.setPc htl (m.pc t + 1))
 have G3 : Hid (Stg cs p m.mem w bx p.rp p.mv (m.setPc t (m.pc t + 1)) W3) := hide (G2.out.trans S3.out)
 have HM3 : Hid (RkAt cs p (m.setPc t (m.pc t + 1)) W3) := hide G3.out.step.at'
 exact ⟨W3, hW3, S3, G3, HM3, hide ⟨HM3.out, HX.out.ok.setPc t hp, HX.out.right, HX.out.hK⟩, G2.out.keep S3.out q0, G2.out.keep S3.out q1, G2.out.keep S3.out q2, G2.out.keep S3.out q3, G2.out.keep S3.out q4, HM3.out.mT, HM3.out.tRegs t htl, HM3.out.mM, G3.out.lt, fun r hr => ⟨H2.out.regs t r htl hr, H2.out.fr t r htl⟩⟩
theorem pfx2 {cs : List (List Ins)} {p : RkPl} {m : Mk} {t : Nat} {w w1 : World} (H : Hid (RkAt cs p m w)) {L : List Ins} (HIN : Hid (insAt (p.ad t) L w)) (htl : t < cs.length) (ht : cs[t]? = some L) {x : Ins} (hx : L[m.pc t]? = some x) (hb1 : Below w.heap.size w w1) : ∃ cb off, Hid (RkAt cs p m w1) /\ w1.cell? ⟨p.k, 1, none⟩ = some (.slice (some ⟨p.tb, 0, none⟩) cs.length p.tcap) /\ w1.cell? ⟨p.tb, t * 3 + 2, none⟩ = some (.int .i64 (m.pc t)) /\ w1.cell? ⟨p.tb, t * 3 + 1, none⟩ = some (.slice (some ⟨p.rb t, 0, none⟩) 8 (p.rcap t)) /\ p.ad t = some ⟨cb, off, none⟩ /\ w1.cell? ⟨cb, off + m.pc t * 5, none⟩ = some (.string x.op) /\ w1.cell? ⟨cb, off + m.pc t * 5 + 1, none⟩ = some (.int .i64 x.a) /\ w1.cell? ⟨cb, off + m.pc t * 5 + 2, none⟩ = some (.int .i64 x.b) /\ w1.cell? ⟨cb, off + m.pc t * 5 + 3, none⟩ = some (.int .i64 x.c) /\ w1.cell? ⟨cb, off + m.pc t * 5 + 4, none⟩ = some (.string x.to) /\ w1.cell? ⟨p.tb, t * 3, none⟩ = some (.slice (some ⟨cb, off, none⟩) L.length (p.cc t)) /\ cb < w1.heap.size /\ p.k < w1.heap.size /\ p.tb < w1.heap.size /\ p.rb t < w1.heap.size /\ w1.frozen? ⟨p.tb, t * 3 + 2, none⟩ = false := by
 have H1 := hide (H.out.below hb1)
 have hC := H1.out.tCode t L ht
 obtain ⟨cb, off, had, c0, c1, c2, c3, c4⟩ := insAt_below HIN.out hb1 _ _ hx
 rw [had] at hC
 exact ⟨cb, off, H1, H1.out.mT, H1.out.tAt t htl, H1.out.tRegs t htl, had, c0, c1, c2, c3, c4, hC, bLt c0, H1.out.lk, H1.out.lt', H1.out.lr htl, H1.out.ft (t * 3 + 2)⟩
end
end Go.Proofs.YtaiigfcfmcicjaaGreatDoor
