import Derived.Test.YtaiigfcfmcicjaaGreatDoorB27

/- GcN -/
namespace Go.Proofs.YtaiigfcfmcicjaaGreatDoor
open Go.RowKit

section
variable {n : Nat} {G : Gh} {m : Mk} {t : Nat} {q d : Nat} {i : GI}

theorem own_wait1 (h : PD 1 n G m) (hwd : ∀ c k, Wd (m.mem.ar.words c k)) (ht : t < n) (hp : G.pt t = some ⟨.wait, q, d⟩) (hi : (gWait 1)[q]? = some i) : Sx 1 n G t (some ⟨.wait, gNext (gWait 1) q (m.regs t) i, d⟩) (gExec m t i) := by
  have L := h.1.la t ht
  rw [hp] at L
  obtain ⟨hd, -, B, Sc⟩ := L
  have B := B (by decide)
  have W : ∀ q', Wl 1 (t ∈ G.ch) t (ov m t) q' := fun q' r => ⟨fun e => absurd e (by decide), fun _ => B⟩
  have r7 := h.1.r7 t ht
  match q, hp, hi, B, Sc with
  | 0, hp, hi, B, Sc =>
    have e : GI.fence = i := Option.some.inj hi
    subst e
    exact h.wsee ht hp (q' := 1) rfl rfl (by decide) hd (W 1)
  | 1, hp, hi, B, Sc =>
    have e : GI.move 2 7 = i := Option.some.inj hi
    subst e
    exact h.wreg ht hp (q' := 2) hd (W 2) (fun e => by cases e) (by decide) (.inl ⟨r7, Sc⟩)
  | 2, hp, hi, B, Sc =>
    have e : GI.label 2 = i := Option.some.inj hi
    subst e
    exact h.wno ht hp (q' := 3) hd (W 3) (fun e => by cases e) Sc
  | 3, hp, hi, B, Sc =>
    have e : GI.load 2 2 1 = i := Option.some.inj hi
    subst e
    exact h.wlink ht hp (q' := 4) hd (W 4) rfl rfl Sc
  | 4, hp, hi, B, Sc =>
    have e : GI.zero 2 1 = i := Option.some.inj hi
    subst e
    show Sx 1 n G t (some ⟨.wait, if m.regs t 2 = 0 then gAt 1 (gWait 1) else 5, d⟩) m
    by_cases hz : m.regs t 2 = 0
    · rw [if_pos hz]
      refine h.wno ht hp (q' := 16) hd (W 16) (fun e => by cases e) ?_
      rcases Sc with ⟨-, h2⟩ | ⟨k, u, -, h2, -⟩
      · exact h2
      · rw [hz] at h2; omega
    · rw [if_neg hz]
      refine h.wno ht hp (q' := 5) hd (W 5) (fun e => by cases e) ?_
      rcases Sc with ⟨h1, -⟩ | h2
      · exact absurd h1 hz
      · exact h2
  | 5, hp, hi, B, Sc =>
    have e : GI.load 0 2 0 = i := Option.some.inj hi
    subst e
    exact h.wlook ht hp (q' := 6) hd (W 6) (by decide) (show Cur G.ch (Ol G t) (m.regs t) (fun _ => True) from Sc) (fun _ k => k.regs rfl (fun u _ e => e.2))
  | 6, hp, hi, B, Sc =>
    have e : GI.zero 0 2 = i := Option.some.inj hi
    subst e
    show Sx 1 n G t (some ⟨.wait, if m.regs t 0 = 0 then gAt 2 (gWait 1) else 7, d⟩) m
    by_cases hz : m.regs t 0 = 0
    · rw [if_pos hz]
      exact h.wno ht hp (q' := 2) hd (W 2) (fun e => by cases e) (.inr (Cur.regs Sc rfl (fun u hu e => (h.1.old_sh ht ht hu).2 (by rw [← e]; exact hz))))
    · rw [if_neg hz]
      exact h.wno ht hp (q' := 7) hd (W 7) (fun e => by cases e) Sc
  | 7, hp, hi, B, Sc =>
    have e : GI.const 1 2 = i := Option.some.inj hi
    subst e
    exact h.wreg ht hp (q' := 8) hd (W 8) (fun e => by cases e) (by decide) ⟨rfl, Cur.regs Sc rfl (fun _ _ e => e)⟩
  | 8, hp, hi, B, Sc =>
    have e : GI.add 1 1 0 = i := Option.some.inj hi
    subst e
    refine h.wreg ht hp (q' := 9) hd (W 9) (fun e => by cases e) (by decide) ⟨?_, Cur.regs Sc.2 rfl (fun _ _ e => e)⟩
    show (m.regs t 1 + m.regs t 0) % 4294967296 = (2 + m.regs t 0) % 4294967296
    rw [Sc.1]
  | 9, hp, hi, B, Sc =>
    have e : GI.cas 7 0 0 = i := Option.some.inj hi
    subst e
    have L2 := (h.fence ht).1.la t ht
    rw [hp] at L2
    have S2 : Scan G.ch (Ol G t) (sh (m.fence t)) (m.regs t) 9 := L2.2.2.2
    exact h.snum ht hp (q' := 10) Sc.1 (fun w0 => ⟨hd, ((W 10) _).1, ((W 10) (m.regs t)).2, Cur.regs S2.2 rfl (fun u _ e => by
      show m.regs t 1 = (2 + sh (m.fence t) u) % 4294967296
      rw [Sc.1, e])⟩) (fun e => by cases e)
  | 10, hp, hi, B, Sc =>
    have e : GI.const 0 2 = i := Option.some.inj hi
    subst e
    exact h.wreg ht hp (q' := 11) hd (W 11) (fun e => by cases e) (by decide) ⟨rfl, Cur.regs Sc rfl (fun _ _ e => e)⟩
  | 11, hp, hi, B, Sc =>
    have e : GI.sub 1 1 0 = i := Option.some.inj hi
    subst e
    refine h.wreg ht hp (q' := 12) hd (W 12) (fun e => by cases e) (by decide) (Cur.regs Sc.2 rfl (fun u _ e => ?_))
    show (m.regs t 1 - m.regs t 0) % 4294967296 = sh m u
    rw [e, Sc.1]
    obtain ⟨w1, w2⟩ := hwd (u + 1) 0
    unfold sh
    omega
  | 12, hp, hi, B, Sc =>
    have e : GI.label 3 = i := Option.some.inj hi
    subst e
    exact h.wno ht hp (q' := 13) hd (W 13) (fun e => by cases e) Sc
  | 13, hp, hi, B, Sc =>
    have e : GI.load 0 2 0 = i := Option.some.inj hi
    subst e
    exact h.wlook ht hp (q' := 14) hd (W 14) (by decide) (show Cur G.ch (Ol G t) (m.regs t) (fun u => m.regs t 1 = sh m u) from Sc) (fun _ k => k.regs rfl (fun u _ e => e))
  | 14, hp, hi, B, Sc =>
    have e : GI.same 0 1 3 = i := Option.some.inj hi
    subst e
    show Sx 1 n G t (some ⟨.wait, if m.regs t 0 = m.regs t 1 then gAt 3 (gWait 1) else 15, d⟩) m
    by_cases hz : m.regs t 0 = m.regs t 1
    · rw [if_pos hz]
      exact h.wno ht hp (q' := 12) hd (W 12) (fun e => by cases e) (Cur.regs Sc rfl (fun _ _ e => e.1))
    · rw [if_neg hz]
      exact h.wno ht hp (q' := 15) hd (W 15) (fun e => by cases e) (Cur.regs Sc rfl (fun _ _ e => hz (by rw [e.1, e.2])))
  | 15, hp, hi, B, Sc =>
    have e : GI.goto 2 = i := Option.some.inj hi
    subst e
    exact h.wno ht hp (q' := 2) hd (W 2) (fun e => by cases e) (.inr Sc)
  | 16, hp, hi, B, Sc =>
    have e : GI.label 1 = i := Option.some.inj hi
    subst e
    exact h.wno ht hp (q' := 17) hd (W 17) (fun e => by cases e) Sc
  | k + 17, hp, hi, B, Sc => exact nomatch (show (none : Option GI) = some i from hi)

theorem own_wait2 (h : PD 2 n G m) (hwd : ∀ c k, Wd (m.mem.ar.words c k)) (ht : t < n) (hp : G.pt t = some ⟨.wait, q, d⟩) (hi : (gWait 2)[q]? = some i) : Sx 2 n G t (some ⟨.wait, gNext (gWait 2) q (m.regs t) i, d⟩) (gExec m t i) := by
  have L := h.1.la t ht
  rw [hp] at L
  obtain ⟨hd, -, B, Sc⟩ := L
  have B := B (by decide)
  have W : ∀ q', Wl 2 (t ∈ G.ch) t (ov m t) q' := fun q' r => ⟨fun e => absurd e (by decide), fun _ => B⟩
  have r7 := h.1.r7 t ht
  match q, hp, hi, B, Sc with
  | 0, hp, hi, B, Sc =>
    have e : GI.force = i := Option.some.inj hi
    subst e
    exact h.wseef ht hp (q' := 1) rfl rfl hd (W 1)
  | 1, hp, hi, B, Sc =>
    have e : GI.move 2 7 = i := Option.some.inj hi
    subst e
    exact h.wreg ht hp (q' := 2) hd (W 2) (fun e => by cases e) (by decide) (.inl ⟨r7, Sc⟩)
  | 2, hp, hi, B, Sc =>
    have e : GI.label 2 = i := Option.some.inj hi
    subst e
    exact h.wno ht hp (q' := 3) hd (W 3) (fun e => by cases e) Sc
  | 3, hp, hi, B, Sc =>
    have e : GI.load 2 2 1 = i := Option.some.inj hi
    subst e
    exact h.wlink ht hp (q' := 4) hd (W 4) rfl rfl Sc
  | 4, hp, hi, B, Sc =>
    have e : GI.zero 2 1 = i := Option.some.inj hi
    subst e
    show Sx 2 n G t (some ⟨.wait, if m.regs t 2 = 0 then gAt 1 (gWait 2) else 5, d⟩) m
    by_cases hz : m.regs t 2 = 0
    · rw [if_pos hz]
      refine h.wno ht hp (q' := 17) hd (W 17) (fun e => by cases e) ?_
      rcases Sc with ⟨-, h2⟩ | ⟨k, u, -, h2, -⟩
      · exact h2
      · rw [hz] at h2; omega
    · rw [if_neg hz]
      refine h.wno ht hp (q' := 5) hd (W 5) (fun e => by cases e) ?_
      rcases Sc with ⟨h1, -⟩ | h2
      · exact absurd h1 hz
      · exact h2
  | 5, hp, hi, B, Sc =>
    have e : GI.load 0 2 0 = i := Option.some.inj hi
    subst e
    exact h.wlook ht hp (q' := 6) hd (W 6) (by decide) (show Cur G.ch (Ol G t) (m.regs t) (fun _ => True) from Sc) (fun _ k => k.regs rfl (fun u _ e => e.2))
  | 6, hp, hi, B, Sc =>
    have e : GI.zero 0 2 = i := Option.some.inj hi
    subst e
    show Sx 2 n G t (some ⟨.wait, if m.regs t 0 = 0 then gAt 2 (gWait 2) else 7, d⟩) m
    by_cases hz : m.regs t 0 = 0
    · rw [if_pos hz]
      exact h.wno ht hp (q' := 2) hd (W 2) (fun e => by cases e) (.inr (Cur.regs Sc rfl (fun u hu e => (h.1.old_sh ht ht hu).2 (by rw [← e]; exact hz))))
    · rw [if_neg hz]
      exact h.wno ht hp (q' := 7) hd (W 7) (fun e => by cases e) Sc
  | 7, hp, hi, B, Sc =>
    have e : GI.const 1 2 = i := Option.some.inj hi
    subst e
    exact h.wreg ht hp (q' := 8) hd (W 8) (fun e => by cases e) (by decide) ⟨rfl, Cur.regs Sc rfl (fun _ _ e => e)⟩
  | 8, hp, hi, B, Sc =>
    have e : GI.add 1 1 0 = i := Option.some.inj hi
    subst e
    refine h.wreg ht hp (q' := 9) hd (W 9) (fun e => by cases e) (by decide) ⟨?_, Cur.regs Sc.2 rfl (fun _ _ e => e)⟩
    show (m.regs t 1 + m.regs t 0) % 4294967296 = (2 + m.regs t 0) % 4294967296
    rw [Sc.1]
  | 9, hp, hi, B, Sc =>
    have e : GI.cas 7 0 0 = i := Option.some.inj hi
    subst e
    have L2 := (h.fence ht).1.la t ht
    rw [hp] at L2
    have S2 : Scan G.ch (Ol G t) (sh (m.fence t)) (m.regs t) 9 := L2.2.2.2
    exact h.snum ht hp (q' := 10) Sc.1 (fun w0 => ⟨hd, ((W 10) _).1, ((W 10) (m.regs t)).2, Cur.regs S2.2 rfl (fun u _ e => by
      show m.regs t 1 = (2 + sh (m.fence t) u) % 4294967296
      rw [Sc.1, e])⟩) (fun e => by cases e)
  | 10, hp, hi, B, Sc =>
    have e : GI.const 0 2 = i := Option.some.inj hi
    subst e
    exact h.wreg ht hp (q' := 11) hd (W 11) (fun e => by cases e) (by decide) ⟨rfl, Cur.regs Sc rfl (fun _ _ e => e)⟩
  | 11, hp, hi, B, Sc =>
    have e : GI.sub 1 1 0 = i := Option.some.inj hi
    subst e
    refine h.wreg ht hp (q' := 12) hd (W 12) (fun e => by cases e) (by decide) (Cur.regs Sc.2 rfl (fun u _ e => ?_))
    show (m.regs t 1 - m.regs t 0) % 4294967296 = sh m u
    rw [e, Sc.1]
    obtain ⟨w1, w2⟩ := hwd (u + 1) 0
    unfold sh
    omega
  | 12, hp, hi, B, Sc =>
    have e : GI.label 3 = i := Option.some.inj hi
    subst e
    exact h.wno ht hp (q' := 13) hd (W 13) (fun e => by cases e) Sc
  | 13, hp, hi, B, Sc =>
    have e : GI.force = i := Option.some.inj hi
    subst e
    have L2 := h.force.1.la t ht
    rw [hp] at L2
    obtain ⟨-, -, B2, S2⟩ := L2
    exact h.force.wno ht hp (q' := 14) hd (fun r => ⟨fun e => absurd e (by decide), B2⟩) (fun e => by cases e) S2
  | 14, hp, hi, B, Sc =>
    have e : GI.load 0 2 0 = i := Option.some.inj hi
    subst e
    exact h.wlook ht hp (q' := 15) hd (W 15) (by decide) (show Cur G.ch (Ol G t) (m.regs t) (fun u => m.regs t 1 = sh m u) from Sc) (fun _ k => k.regs rfl (fun u _ e => e))
  | 15, hp, hi, B, Sc =>
    have e : GI.same 0 1 3 = i := Option.some.inj hi
    subst e
    show Sx 2 n G t (some ⟨.wait, if m.regs t 0 = m.regs t 1 then gAt 3 (gWait 2) else 16, d⟩) m
    by_cases hz : m.regs t 0 = m.regs t 1
    · rw [if_pos hz]
      exact h.wno ht hp (q' := 12) hd (W 12) (fun e => by cases e) (Cur.regs Sc rfl (fun _ _ e => e.1))
    · rw [if_neg hz]
      exact h.wno ht hp (q' := 16) hd (W 16) (fun e => by cases e) (Cur.regs Sc rfl (fun _ _ e => hz (by rw [e.1, e.2])))
  | 16, hp, hi, B, Sc =>
    have e : GI.goto 2 = i := Option.some.inj hi
    subst e
    exact h.wno ht hp (q' := 2) hd (W 2) (fun e => by cases e) (.inr Sc)
  | 17, hp, hi, B, Sc =>
    have e : GI.label 1 = i := Option.some.inj hi
    subst e
    exact h.wno ht hp (q' := 18) hd (W 18) (fun e => by cases e) Sc
  | k + 18, hp, hi, B, Sc => exact nomatch (show (none : Option GI) = some i from hi)

theorem own_wait4 (h : PD 4 n G m) (hwd : ∀ c k, Wd (m.mem.ar.words c k)) (ht : t < n) (hp : G.pt t = some ⟨.wait, q, d⟩) (hi : (gWait 4)[q]? = some i) : Sx 4 n G t (some ⟨.wait, gNext (gWait 4) q (m.regs t) i, d⟩) (gExec m t i) := by
  have L := h.1.la t ht
  rw [hp] at L
  obtain ⟨hd, -, B, Sc⟩ := L
  have B := B (by decide)
  have W : ∀ q', Wl 4 (t ∈ G.ch) t (ov m t) q' := fun q' r => ⟨fun e => absurd e (by decide), fun _ => B⟩
  have r7 := h.1.r7 t ht
  match q, hp, hi, B, Sc with
  | 0, hp, hi, B, Sc =>
    have e : GI.fence = i := Option.some.inj hi
    subst e
    exact h.wsee ht hp (q' := 1) rfl rfl (by decide) hd (W 1)
  | 1, hp, hi, B, Sc =>
    have e : GI.move 2 7 = i := Option.some.inj hi
    subst e
    exact h.wreg ht hp (q' := 2) hd (W 2) (fun e => by cases e) (by decide) (.inl ⟨r7, Sc⟩)
  | 2, hp, hi, B, Sc =>
    have e : GI.label 2 = i := Option.some.inj hi
    subst e
    exact h.wno ht hp (q' := 3) hd (W 3) (fun e => by cases e) Sc
  | 3, hp, hi, B, Sc =>
    have e : GI.load 2 2 1 = i := Option.some.inj hi
    subst e
    exact h.wlink ht hp (q' := 4) hd (W 4) rfl rfl Sc
  | 4, hp, hi, B, Sc =>
    have e : GI.zero 2 1 = i := Option.some.inj hi
    subst e
    show Sx 4 n G t (some ⟨.wait, if m.regs t 2 = 0 then gAt 1 (gWait 4) else 5, d⟩) m
    by_cases hz : m.regs t 2 = 0
    · rw [if_pos hz]
      refine h.wno ht hp (q' := 16) hd (W 16) (fun e => by cases e) ?_
      rcases Sc with ⟨-, h2⟩ | ⟨k, u, -, h2, -⟩
      · exact h2
      · rw [hz] at h2; omega
    · rw [if_neg hz]
      refine h.wno ht hp (q' := 5) hd (W 5) (fun e => by cases e) ?_
      rcases Sc with ⟨h1, -⟩ | h2
      · exact absurd h1 hz
      · exact h2
  | 5, hp, hi, B, Sc =>
    have e : GI.load 0 2 0 = i := Option.some.inj hi
    subst e
    exact h.wlook ht hp (q' := 6) hd (W 6) (by decide) (show Cur G.ch (Ol G t) (m.regs t) (fun _ => True) from Sc) (fun _ k => k.regs rfl (fun u _ e => e.2))
  | 6, hp, hi, B, Sc =>
    have e : GI.zero 0 2 = i := Option.some.inj hi
    subst e
    show Sx 4 n G t (some ⟨.wait, if m.regs t 0 = 0 then gAt 2 (gWait 4) else 7, d⟩) m
    by_cases hz : m.regs t 0 = 0
    · rw [if_pos hz]
      exact h.wno ht hp (q' := 2) hd (W 2) (fun e => by cases e) (.inr (Cur.regs Sc rfl (fun u hu e => (h.1.old_sh ht ht hu).2 (by rw [← e]; exact hz))))
    · rw [if_neg hz]
      exact h.wno ht hp (q' := 7) hd (W 7) (fun e => by cases e) Sc
  | 7, hp, hi, B, Sc =>
    have e : GI.const 1 2 = i := Option.some.inj hi
    subst e
    exact h.wreg ht hp (q' := 8) hd (W 8) (fun e => by cases e) (by decide) ⟨rfl, Cur.regs Sc rfl (fun _ _ e => e)⟩
  | 8, hp, hi, B, Sc =>
    have e : GI.add 1 1 0 = i := Option.some.inj hi
    subst e
    refine h.wreg ht hp (q' := 9) hd (W 9) (fun e => by cases e) (by decide) ⟨?_, Cur.regs Sc.2 rfl (fun _ _ e => e)⟩
    show (m.regs t 1 + m.regs t 0) % 4294967296 = (2 + m.regs t 0) % 4294967296
    rw [Sc.1]
  | 9, hp, hi, B, Sc =>
    have e : GI.cas 7 0 0 = i := Option.some.inj hi
    subst e
    have L2 := (h.fence ht).1.la t ht
    rw [hp] at L2
    have S2 : Scan G.ch (Ol G t) (sh (m.fence t)) (m.regs t) 9 := L2.2.2.2
    exact h.snum ht hp (q' := 10) Sc.1 (fun w0 => ⟨hd, ((W 10) _).1, ((W 10) (m.regs t)).2, Cur.regs S2.2 rfl (fun u _ e => by
      show m.regs t 1 = (2 + sh (m.fence t) u) % 4294967296
      rw [Sc.1, e])⟩) (fun e => by cases e)
  | 10, hp, hi, B, Sc =>
    have e : GI.const 0 2 = i := Option.some.inj hi
    subst e
    exact h.wreg ht hp (q' := 11) hd (W 11) (fun e => by cases e) (by decide) ⟨rfl, Cur.regs Sc rfl (fun _ _ e => e)⟩
  | 11, hp, hi, B, Sc =>
    have e : GI.sub 1 1 0 = i := Option.some.inj hi
    subst e
    refine h.wreg ht hp (q' := 12) hd (W 12) (fun e => by cases e) (by decide) (Cur.regs Sc.2 rfl (fun u _ e => ?_))
    show (m.regs t 1 - m.regs t 0) % 4294967296 = sh m u
    rw [e, Sc.1]
    obtain ⟨w1, w2⟩ := hwd (u + 1) 0
    unfold sh
    omega
  | 12, hp, hi, B, Sc =>
    have e : GI.label 3 = i := Option.some.inj hi
    subst e
    exact h.wno ht hp (q' := 13) hd (W 13) (fun e => by cases e) Sc
  | 13, hp, hi, B, Sc =>
    have e : GI.load 0 2 0 = i := Option.some.inj hi
    subst e
    exact h.wlook ht hp (q' := 14) hd (W 14) (by decide) (show Cur G.ch (Ol G t) (m.regs t) (fun u => m.regs t 1 = sh m u) from Sc) (fun _ k => k.regs rfl (fun u _ e => e))
  | 14, hp, hi, B, Sc =>
    have e : GI.same 0 1 3 = i := Option.some.inj hi
    subst e
    show Sx 4 n G t (some ⟨.wait, if m.regs t 0 = m.regs t 1 then gAt 3 (gWait 4) else 15, d⟩) m
    by_cases hz : m.regs t 0 = m.regs t 1
    · rw [if_pos hz]
      exact h.wno ht hp (q' := 12) hd (W 12) (fun e => by cases e) (Cur.regs Sc rfl (fun _ _ e => e.1))
    · rw [if_neg hz]
      exact h.wno ht hp (q' := 15) hd (W 15) (fun e => by cases e) (Cur.regs Sc rfl (fun _ _ e => hz (by rw [e.1, e.2])))
  | 15, hp, hi, B, Sc =>
    have e : GI.goto 2 = i := Option.some.inj hi
    subst e
    exact h.wno ht hp (q' := 2) hd (W 2) (fun e => by cases e) (.inr Sc)
  | 16, hp, hi, B, Sc =>
    have e : GI.label 1 = i := Option.some.inj hi
    subst e
    exact h.wno ht hp (q' := 17) hd (W 17) (fun e => by cases e) Sc
  | k + 17, hp, hi, B, Sc => exact nomatch (show (none : Option GI) = some i from hi)

theorem own_wait3 (h : PD 3 n G m) (ht : t < n) (hp : G.pt t = some ⟨.wait, q, d⟩) (hi : (gWait 3)[q]? = some i) : Sx 3 n G t (some ⟨.wait, gNext (gWait 3) q (m.regs t) i, d⟩) (gExec m t i) := by
  have L := h.1.la t ht
  rw [hp] at L
  obtain ⟨hd, B, -, Sc⟩ := L
  have B := B rfl
  have n3 : (3 : Nat) ≠ 3 → Bs 3 (t ∈ G.ch) t 0 (ov m t) := fun e => absurd rfl e
  have r7 := h.1.r7 t ht
  have r6 := h.1.r6 t ht
  match q, hp, hi, B, Sc with
  | 0, hp, hi, B, Sc =>
    have e : GI.zero 6 1 = i := Option.some.inj hi
    subst e
    show Sx 3 n G t (some ⟨.wait, if m.regs t 6 = 0 then gAt 1 (gWait 3) else 1, d⟩) m
    rw [if_neg (by rw [r6]; omega)]
    exact h.wno ht hp (q' := 1) hd (fun r => ⟨fun _ => B, n3⟩) (fun _ => rfl) Sc
  | 1, hp, hi, B, Sc =>
    have e : GI.const 0 0 = i := Option.some.inj hi
    subst e
    exact h.sreg ht gg_wait hp (q' := 2) (by decide) ⟨hd, fun _ => ⟨B, rfl⟩, n3, Sc⟩ (fun _ _ => rfl)
  | 2, hp, hi, B, Sc =>
    have e : GI.swap 0 6 0 = i := Option.some.inj hi
    subst e
    exact h.sswap ht gg_wait hp (q' := 3) (b := true) (.inl ⟨rfl, rfl⟩) (fun s => ⟨hd, fun _ => ⟨B.2, B.1⟩, fun e => absurd rfl e, fun x hx => Sc x (Gh.cl_le hx).1⟩) (fun _ _ => rfl)
  | 3, hp, hi, B, Sc =>
    have e : GI.swap 0 6 3 = i := Option.some.inj hi
    subst e
    exact h.sswap ht gg_wait hp (q' := 4) (b := false) (.inr rfl) (fun s => ⟨hd, fun _ => ⟨B.1, B.2⟩, fun e => absurd rfl e, fun x hx => Sc x (Gh.cl_le hx).1⟩) (fun _ _ => rfl)
  | 4, hp, hi, B, Sc =>
    have e : GI.label 1 = i := Option.some.inj hi
    subst e
    exact h.wno ht hp (q' := 5) hd (fun r => ⟨fun _ => B, n3⟩) (fun _ => rfl) Sc
  | 5, hp, hi, B, Sc =>
    have e : GI.fence = i := Option.some.inj hi
    subst e
    exact h.wsee ht hp (q' := 6) rfl rfl (by decide) hd (fun r => ⟨fun _ => B, n3⟩)
  | 6, hp, hi, B, Sc =>
    have e : GI.move 2 7 = i := Option.some.inj hi
    subst e
    exact h.wreg ht hp (q' := 7) hd (fun r => ⟨fun _ => B, n3⟩) (fun e => by cases e) (by decide) (.inl ⟨r7, Sc⟩)
  | 7, hp, hi, B, Sc =>
    have e : GI.label 3 = i := Option.some.inj hi
    subst e
    exact h.wno ht hp (q' := 8) hd (fun r => ⟨fun _ => B, n3⟩) (fun e => by cases e) Sc
  | 8, hp, hi, B, Sc =>
    have e : GI.load 2 2 1 = i := Option.some.inj hi
    subst e
    exact h.wlink ht hp (q' := 9) hd (fun r => ⟨fun _ => B, n3⟩) rfl rfl Sc
  | 9, hp, hi, B, Sc =>
    have e : GI.zero 2 2 = i := Option.some.inj hi
    subst e
    show Sx 3 n G t (some ⟨.wait, if m.regs t 2 = 0 then gAt 2 (gWait 3) else 10, d⟩) m
    by_cases hz : m.regs t 2 = 0
    · rw [if_pos hz]
      refine h.wno ht hp (q' := 17) hd (fun r => ⟨fun _ => B, n3⟩) (fun e => by cases e) ?_
      rcases Sc with ⟨-, h2⟩ | ⟨k, u, -, h2, -⟩
      · exact h2
      · rw [hz] at h2; omega
    · rw [if_neg hz]
      refine h.wno ht hp (q' := 10) hd (fun r => ⟨fun _ => B, n3⟩) (fun e => by cases e) ?_
      rcases Sc with ⟨h1, -⟩ | h2
      · exact absurd h1 hz
      · exact h2
  | 10, hp, hi, B, Sc =>
    have e : GI.load 0 2 0 = i := Option.some.inj hi
    subst e
    exact h.wlook ht hp (q' := 11) hd (fun r => ⟨fun _ => B, n3⟩) (by decide) (show Cur G.ch (Ol G t) (m.regs t) (fun _ => True) from Sc) (fun _ k => k.regs rfl (fun u _ e => e.2))
  | 11, hp, hi, B, Sc =>
    have e : GI.zero 0 3 = i := Option.some.inj hi
    subst e
    show Sx 3 n G t (some ⟨.wait, if m.regs t 0 = 0 then gAt 3 (gWait 3) else 12, d⟩) m
    by_cases hz : m.regs t 0 = 0
    · rw [if_pos hz]
      exact h.wno ht hp (q' := 7) hd (fun r => ⟨fun _ => B, n3⟩) (fun e => by cases e) (.inr (Cur.regs Sc rfl (fun u hu e => (h.1.old_sh ht ht hu).2 (by rw [← e]; exact hz))))
    · rw [if_neg hz]
      exact h.wno ht hp (q' := 12) hd (fun r => ⟨fun _ => B, n3⟩) (fun e => by cases e) Sc
  | 12, hp, hi, B, Sc =>
    have e : GI.move 1 0 = i := Option.some.inj hi
    subst e
    exact h.wreg ht hp (q' := 13) hd (fun r => ⟨fun _ => B, n3⟩) (fun e => by cases e) (by decide) (Cur.regs Sc rfl (fun _ _ e => e))
  | 13, hp, hi, B, Sc =>
    have e : GI.label 4 = i := Option.some.inj hi
    subst e
    exact h.wno ht hp (q' := 14) hd (fun r => ⟨fun _ => B, n3⟩) (fun e => by cases e) Sc
  | 14, hp, hi, B, Sc =>
    have e : GI.load 0 2 0 = i := Option.some.inj hi
    subst e
    exact h.wlook ht hp (q' := 15) hd (fun r => ⟨fun _ => B, n3⟩) (by decide) (show Cur G.ch (Ol G t) (m.regs t) (fun u => m.regs t 1 = sh m u) from Sc) (fun _ k => k.regs rfl (fun u _ e => e))
  | 15, hp, hi, B, Sc =>
    have e : GI.same 0 1 4 = i := Option.some.inj hi
    subst e
    show Sx 3 n G t (some ⟨.wait, if m.regs t 0 = m.regs t 1 then gAt 4 (gWait 3) else 16, d⟩) m
    by_cases hz : m.regs t 0 = m.regs t 1
    · rw [if_pos hz]
      exact h.wno ht hp (q' := 13) hd (fun r => ⟨fun _ => B, n3⟩) (fun e => by cases e) (Cur.regs Sc rfl (fun _ _ e => e.1))
    · rw [if_neg hz]
      exact h.wno ht hp (q' := 16) hd (fun r => ⟨fun _ => B, n3⟩) (fun e => by cases e) (Cur.regs Sc rfl (fun _ _ e => hz (by rw [e.1, e.2])))
  | 16, hp, hi, B, Sc =>
    have e : GI.goto 3 = i := Option.some.inj hi
    subst e
    exact h.wno ht hp (q' := 7) hd (fun r => ⟨fun _ => B, n3⟩) (fun e => by cases e) (.inr Sc)
  | 17, hp, hi, B, Sc =>
    have e : GI.label 2 = i := Option.some.inj hi
    subst e
    exact h.wno ht hp (q' := 18) hd (fun r => ⟨fun _ => B, n3⟩) (fun e => by cases e) Sc
  | 18, hp, hi, B, Sc =>
    have e : GI.zero 6 5 = i := Option.some.inj hi
    subst e
    show Sx 3 n G t (some ⟨.wait, if m.regs t 6 = 0 then gAt 5 (gWait 3) else 19, d⟩) m
    rw [if_neg (by rw [r6]; omega)]
    exact h.wno ht hp (q' := 19) hd (fun r => ⟨fun _ => B, n3⟩) (fun e => by cases e) Sc
  | 19, hp, hi, B, Sc =>
    have e : GI.load 0 6 3 = i := Option.some.inj hi
    subst e
    exact h.sload ht gg_wait hp (q' := 20) (by decide) ⟨hd, fun _ => ⟨B.1, B.2, rfl⟩, n3, Sc⟩ (fun _ e => by cases e)
  | 20, hp, hi, B, Sc =>
    have e : GI.zero 0 5 = i := Option.some.inj hi
    subst e
    show Sx 3 n G t (some ⟨.wait, if m.regs t 0 = 0 then gAt 5 (gWait 3) else 21, d⟩) m
    rw [if_neg (fun e => by have h1 := B.2.1; rw [← B.2.2, e] at h1; cases h1)]
    exact h.sno ht gg_wait hp (q' := 21) ⟨hd, fun _ => B, n3, Sc⟩ (fun _ e => by cases e)
  | 21, hp, hi, B, Sc =>
    have e : GI.const 1 2 = i := Option.some.inj hi
    subst e
    exact h.sreg ht gg_wait hp (q' := 22) (by decide) ⟨hd, fun _ => ⟨B.1, B.2.1, B.2.2, rfl⟩, n3, Sc⟩ (fun _ e => by cases e)
  | 22, hp, hi, B, Sc =>
    have e : GI.add 0 0 1 = i := Option.some.inj hi
    subst e
    refine h.sreg ht gg_wait hp (q' := 23) (by decide) ⟨hd, fun _ => ⟨B.1, ?_⟩, n3, Sc⟩ (fun _ e => by cases e)
    show (m.regs t 0 + m.regs t 1) % 4294967296 % 2 = 1
    have h1 := B.2.1
    rw [B.2.2.1, B.2.2.2]
    omega
  | 23, hp, hi, B, Sc =>
    have e : GI.swap 0 6 0 = i := Option.some.inj hi
    subst e
    exact h.sswap ht gg_wait hp (q' := 24) (b := true) (.inl ⟨rfl, rfl⟩) (fun s => ⟨hd, fun _ => B.2, fun e => absurd rfl e, fun x hx => Sc x (Gh.cl_le hx).1⟩) (fun _ e => by cases e)
  | 24, hp, hi, B, Sc =>
    have e : GI.label 5 = i := Option.some.inj hi
    subst e
    exact h.wno ht hp (q' := 25) hd (fun r => ⟨fun _ => B, n3⟩) (fun e => by cases e) Sc
  | k + 25, hp, hi, B, Sc => exact nomatch (show (none : Option GI) = some i from hi)

end
end Go.Proofs.YtaiigfcfmcicjaaGreatDoor

/- GcO -/
namespace Go.Proofs.YtaiigfcfmcicjaaGreatDoor
open Go.RowKit

section
variable {f n : Nat} {G : Gh} {m m' : Mk} {t : Nat} {q d : Nat} {i : GI}
theorem reg3 {u : Nat} (m : Mk) (t r : Nat) (v : Int) (hu : u ≠ t) : (m.setReg t r v).regs u = m.regs u := setReg_other _ _ _ _ hu
theorem PD.noold (h : PD f n G m) (ht : t < n) {tg : Tg} (hp : G.pt t = some ⟨tg, q, d⟩) (hne : tg ≠ .wait) : ¬ ∃ u, Ol G t u := fun ⟨u, hu⟩ => by
  obtain ⟨-, ⟨q2, d2, e⟩, -⟩ := h.1.old t u ht hu
  rw [hp] at e
  cases e
  exact hne rfl
theorem own_get (h : PD f n G m) (ht : t < n) (hp : G.pt t = some ⟨.get, q, d⟩) (hi : (tgCode f .get)[q]? = some i) : Sx f n G t (some ⟨.get, gNext (tgCode f .get) q (m.regs t) i, d⟩) (gExec m t i) := by
  have L := h.1.la t ht
  rw [hp] at L
  match q, hp, hi, L with
  | 0, hp, hi, L =>
    have e : GI.load 3 5 0 = i := Option.some.inj hi
    subst e
    obtain ⟨Lr, g0, r0⟩ := h.1.cell (Nat.le_refl (n + 1))
    have hv : vw m t (n + 1) (gn m (n + 1)) 0 = rf m G.pp := by
      unfold vw
      rw [foldl_none (fun x hx e => ?_)]
      · exact h.2.pub.2.1
      · rcases (h.1.wts t ht x hx).2 with ⟨h5, -⟩ | h5 <;> (have := e.1; omega)
    show Sx f n G t (some ⟨.get, 1, d⟩) (m.load t 3 (m.regs t 5) ((0 : Nat) : Int))
    rw [h.1.r5 t ht, show (n : Int) + 2 = rf m (n + 1) by rw [r0]; omega, load_live Lr, hv]
    refine Sx.of (h.reg (m' := m.setReg t 3 (rf m G.pp)) ht rfl rfl (fun u hu => reg3 _ _ _ _ hu) (fun e => absurd rfl e) (fun _ => .inr (by rw [setReg_reg, if_pos rfl])) (by rw [setReg_reg, if_neg (by decide)]) (by rw [setReg_reg, if_neg (by decide)]) (by rw [setReg_reg, if_neg (by decide)]) (La_data L 1 _ _ _ (.inr (.inr (.inr (.inl rfl))))) (fun e => absurd e (h.noold ht hp (by decide))) (by rw [hp]; rfl) (fun e => by rw [hp] at e; exact e.elim) (fun _ e => by cases e) (fun _ _ _ e => by cases e))
  | k + 1, hp, hi, L => exact nomatch (show (none : Option GI) = some i from hi)
theorem own_read (h : PD f n G m) (ht : t < n) (hp : G.pt t = some ⟨.read, q, d⟩) (hi : (tgCode f .read)[q]? = some i) : Sx f n G t (some ⟨.read, gNext (tgCode f .read) q (m.regs t) i, d⟩) (gExec m t i) := by
  have L := h.1.la t ht
  rw [hp] at L
  match q, hp, hi, L with
  | 0, hp, hi, L =>
    have e : GI.load 4 3 0 = i := Option.some.inj hi
    subst e
    have key : ∃ x, Live m x ∧ n + 2 ≤ x ∧ m.regs t 3 = rf m x ∧ m.mem.ar.words x 0 ≠ 0 := by
      rcases h.2.hold t ht (by rw [hp]; exact trivial) with e | ⟨w, h1, h2, h3, -⟩
      · exact ⟨G.pp, h.2.pub.1.2, h.2.pub.1.1, e, h.2.pub.2.2⟩
      · obtain ⟨⟨k1, k2⟩, -, -⟩ := h.2.own w h1 (by omega)
        exact ⟨G.dx w, k2, k1, h3, h.2.ret w h1 h2⟩
    obtain ⟨x, Lx, hx, h3, hv⟩ := key
    have he : vw m t x (gn m x) 0 = m.mem.ar.words x 0 := by
      unfold vw
      refine foldl_none (fun y hy e => ?_)
      rcases (h.1.wts t ht y hy).2 with ⟨h5, -⟩ | h5
      · have := e.1; omega
      · have := (h.2.wts t ht y hy h5).1
        rw [hp] at this; cases this
    show Sx f n G t (some ⟨.read, 1, d⟩) (m.load t 4 (m.regs t 3) ((0 : Nat) : Int))
    rw [h3, load_live Lx, he]
    refine Sx.of (h.reg (m' := m.setReg t 4 (m.mem.ar.words x 0)) ht rfl rfl (fun u hu => reg3 _ _ _ _ hu) (fun e => absurd rfl e) (fun _ => .inl ⟨by rw [setReg_reg, if_neg (by decide)], by rw [hp]; exact trivial⟩) (by rw [setReg_reg, if_neg (by decide)]) (by rw [setReg_reg, if_neg (by decide)]) (by rw [setReg_reg, if_neg (by decide)]) (La_data L 1 _ _ _ (.inr (.inr (.inr (.inr rfl))))) (fun e => absurd e (h.noold ht hp (by decide))) (by rw [hp]; rfl) (fun e => by rw [hp] at e; exact e.elim) (fun _ _ => by rw [setReg_reg, if_pos rfl]; exact hv) (fun _ _ _ e => by cases e))
  | 1, hp, hi, L =>
    have e : GI.need 4 = i := Option.some.inj hi
    subst e
    have hv := h.2.r4 t d ht hp
    show Sx f n G t (some ⟨.read, 2, d⟩) (m.need (m.regs t 4))
    unfold Mk.need
    rw [if_neg hv]
    refine Sx.of (h.reg (m' := m) ht rfl rfl (fun _ _ => rfl) (fun e => absurd rfl e) (fun _ => .inl ⟨rfl, by rw [hp]; exact trivial⟩) rfl rfl rfl (La_data L 2 _ _ _ (.inr (.inr (.inr (.inr rfl))))) (fun e => absurd e (h.noold ht hp (by decide))) (by rw [hp]; rfl) (fun e => by rw [hp] at e; exact e.elim) (fun _ e => by cases e) (fun _ _ _ e => by cases e))
  | k + 2, hp, hi, L => exact nomatch (show (none : Option GI) = some i from hi)
theorem own_new {v : Int} (h : PD f n G m) (ht : t < n) (hp : G.pt t = some ⟨.new v, q, d⟩) (hi : (tgCode f (.new v))[q]? = some i) : Sx f n G t (some ⟨.new v, gNext (tgCode f (.new v)) q (m.regs t) i, d⟩) (gExec m t i) := by
  have L := h.1.la t ht
  rw [hp] at L
  match q, hp, hi, L with
  | 0, hp, hi, L =>
    have e : GI.alloc 3 = i := Option.some.inj hi
    subst e
    obtain ⟨c, hc⟩ := h.alloc ht hp
    exact ⟨_, hc, Gh.at_self _ _ _, fun u hu => Gh.at_ne _ _ hu, .inl rfl⟩
  | 1, hp, hi, L =>
    have e : GI.const 4 v = i := Option.some.inj hi
    subst e
    have hv := (h.2.new4 t v 1 d ht hp).1
    refine Sx.of (h.reg (m' := m.setReg t 4 v) ht rfl rfl (fun u hu => reg3 _ _ _ _ hu) (fun _ => by rw [setReg_reg, if_neg (by decide)]) (fun e => e.elim) (by rw [setReg_reg, if_neg (by decide)]) (by rw [setReg_reg, if_neg (by decide)]) (by rw [setReg_reg, if_neg (by decide)]) (La_data L 2 _ _ _ (.inl ⟨v, rfl⟩)) (fun e => absurd e (h.noold ht hp (by intro e; cases e))) (by rw [hp]; rfl) (fun e => by rw [hp] at e; exact e.elim) (fun _ e => by cases e) (fun _ _ _ e => by
      cases e
      exact ⟨hv, fun _ => by rw [setReg_reg, if_pos rfl]⟩))
  | 2, hp, hi, L =>
    have e : GI.store 3 4 0 = i := Option.some.inj hi
    subst e
    have hv := h.2.new4 t v 2 d ht hp
    have hd1 : dst (G.pt t) ≠ 0 := by rw [hp]; exact Nat.one_ne_zero
    obtain ⟨⟨-, Lx⟩, x3, -⟩ := h.2.own t ht hd1
    obtain ⟨-, y3, -⟩ := (h.room ht).2.own t ht hd1
    rw [(room_regs m t).1, x3] at y3
    have h2 := (h.room ht).putd ht hp hv.1
    rw [← y3] at h2
    have e : gExec m t (.store 3 4 0) = (m.room t).put t (rf m (G.dx t)) 0 v := by
      show m.store t (m.regs t 3) ((0 : Nat) : Int) (m.regs t 4) = _
      rw [x3, store_live Lx, hv.2 rfl]; rfl
    rw [e]
    exact Sx.of h2
  | k + 3, hp, hi, L => exact nomatch (show (none : Option GI) = some i from hi)
theorem own_pub (h : PD f n G m) (ht : t < n) (hp : G.pt t = some ⟨.pub, q, d⟩) (hi : (tgCode f .pub)[q]? = some i) : Sx f n G t (some ⟨.pub, gNext (tgCode f .pub) q (m.regs t) i, d⟩) (gExec m t i) := by
  match q, hp, hi with
  | 0, hp, hi =>
    have e : GI.swap 3 5 0 = i := Option.some.inj hi
    subst e
    obtain ⟨Lr, g0, r0⟩ := h.1.cell (Nat.le_refl (n + 1))
    have r1 : rf m (n + 1) = (n : Int) + 2 := by rw [r0]; omega
    have hw : (m.fence t).mem.waits t = [] := Rm.drainAll_waits _ _ _ rfl
    have h2 := (h.fence ht).pubs ht hw hp
    have e : gExec m t (.swap 3 5 0) = ((m.fence t).setWord ((n : Int) + 2) 0 ((m.fence t).regs t 3)).setReg t 3 ((m.fence t).mem.ar.words (n + 1) 0) := by
      show m.swap t 3 (m.regs t 5) ((0 : Nat) : Int) (m.regs t 3) = _
      unfold Mk.swap
      rw [h.1.r5 t ht, ← r1, if_pos Lr.names]
      congr 1
      unfold Mk.word
      rw [(rf_cell Lr).1, Int.toNat_natCast]; rfl
    rw [e]
    exact ⟨_, h2, Gh.at_self _ _ _, fun u hu => Gh.at_ne _ _ hu, .inl rfl⟩
  | k + 1, hp, hi => exact nomatch (show (none : Option GI) = some i from hi)
theorem own_free (h : PD f n G m) (ht : t < n) (hp : G.pt t = some ⟨.free, q, d⟩) (hi : (tgCode f .free)[q]? = some i) : Sx f n G t (some ⟨.free, gNext (tgCode f .free) q (m.regs t) i, d⟩) (gExec m t i) := by
  match q, hp, hi with
  | 0, hp, hi =>
    have e : GI.free 3 = i := Option.some.inj hi
    subst e
    have hd1 : dst (G.pt t) ≠ 0 := by rw [hp]; show 3 ≠ 0; decide
    obtain ⟨⟨-, Lx⟩, x3, -⟩ := h.2.own t ht hd1
    have hw : (m.fence t).mem.waits t = [] := Rm.drainAll_waits _ _ _ rfl
    have h2 := (h.fence ht).frees ht hw hp
    have e : gExec m t (.free 3) = (m.fence t).setMem ((m.fence t).mem.setThere (G.dx t) false) := by
      show m.free t (m.regs t 3) = _
      unfold Mk.free
      rw [x3, if_pos Lx.names, (rf_cell Lx).1, Int.toNat_natCast]
    rw [e]
    exact Sx.of h2
  | k + 1, hp, hi => exact nomatch (show (none : Option GI) = some i from hi)

theorem own_all {tg : Tg} (h : PD f n G m) (hwd : ∀ c k, Wd (m.mem.ar.words c k)) (ht : t < n) (hd : d ≤ 100) (hp : G.pt t = some ⟨tg, q, d⟩) (hi : (tgCode f tg)[q]? = some i) : Sx f n G t (some ⟨tg, gNext (tgCode f tg) q (m.regs t) i, d⟩) (gExec m t i) := by
  have hf : f = 1 ∨ f = 2 ∨ f = 3 ∨ f = 4 := by have := h.1.fl; omega
  cases tg with
  | enter =>
    rcases hf with rfl | rfl | rfl | rfl
    · exact own_enter1 h ht hp hd hi
    · exact own_enter2 h ht hp hd hi
    · exact nomatch (show (none : Option GI) = some i from hi)
    · exact own_enter4 h ht hp hd hi
  | leave =>
    rcases hf with rfl | rfl | rfl | rfl
    · exact own_leave1 h ht hp hd hi
    · exact own_leave2 h ht hp hd hi
    · exact nomatch (show (none : Option GI) = some i from hi)
    · exact own_leave4 h ht hp hd hi
  | rest =>
    rcases hf with rfl | rfl | rfl | rfl
    · exact nomatch (show (none : Option GI) = some i from hi)
    · exact nomatch (show (none : Option GI) = some i from hi)
    · exact own_rest h ht hp hi
    · exact nomatch (show (none : Option GI) = some i from hi)
  | gone =>
    rcases hf with rfl | rfl | rfl | rfl
    · exact nomatch (show (none : Option GI) = some i from hi)
    · exact nomatch (show (none : Option GI) = some i from hi)
    · exact own_gone h ht hp hi
    · exact nomatch (show (none : Option GI) = some i from hi)
  | wait =>
    rcases hf with rfl | rfl | rfl | rfl
    · exact own_wait1 h hwd ht hp hi
    · exact own_wait2 h hwd ht hp hi
    · exact own_wait3 h ht hp hi
    · exact own_wait4 h hwd ht hp hi
  | get => exact own_get h ht hp hi
  | read => exact own_read h ht hp hi
  | new v => exact own_new h ht hp hi
  | pub => exact own_pub h ht hp hi
  | free => exact own_free h ht hp hi
end
end Go.Proofs.YtaiigfcfmcicjaaGreatDoor

/- GcP -/
namespace Go.Proofs.YtaiigfcfmcicjaaGreatDoor
open Go.RowKit

inductive Kd
  | no | hold | set | ret | due | gone
deriving DecidableEq
def kin : Tg → Nat → Kd → Option (Nat × Kd)
  | .enter, d, .no => some (d + 1, .no)
  | .leave, d + 1, .no => some (d, .no)
  | .leave, d + 1, .hold => some (d, .no)
  | .rest, 0, .no => some (0, .no)
  | .gone, 0, .no => some (0, .gone)
  | .wait, 0, .ret => some (0, .due)
  | .get, d + 1, .no => some (d + 1, .hold)
  | .get, d + 1, .hold => some (d + 1, .hold)
  | .read, d + 1, .hold => some (d + 1, .hold)
  | .new v, 0, .no => if v = 0 then none else some (0, .set)
  | .pub, 0, .set => some (0, .ret)
  | .free, 0, .due => some (0, .no)
  | _, _, _ => none
def Disc : Nat → Kd → List Tg → Prop
  | d, k, [] => d = 0 ∧ (k = .no ∨ k = .gone)
  | d, k, tg :: l => d ≤ 100 ∧ ∃ d' k', kin tg d k = some (d', k') ∧ Disc d' k' l
def cd (f : Nat) : List (Tg × ByteArray) → List Ins
  | [] => []
  | x :: l => gCode x.2 (tgCode f x.1) ++ cd f l
def Apart (f : Nat) : List Ins → List (Tg × ByteArray) → Prop
  | _, [] => True
  | A, x :: l => noLab x.2 A ∧ Apart f (A ++ gCode x.2 (tgCode f x.1)) l
def Loc (f : Nat) (L : List Ins) (pc : Nat) : Option Pt → Prop
  | none => pc = L.length
  | some ⟨tg, q, d⟩ => ∃ A P B k d' k', L = A ++ (gCode P (tgCode f tg) ++ cd f B) ∧ pc = A.length + q ∧ q < (tgCode f tg).length ∧ noLab P A ∧ kin tg d k = some (d', k') ∧ d ≤ 100 ∧ Disc d' k' (B.map (·.1)) ∧ Apart f (A ++ gCode P (tgCode f tg)) B

def kd : Kd → Nat
  | .set => 2
  | .ret => 3
  | .due => 3
  | _ => 0
def Bw (f : Nat) (J : Prop) (t d : Nat) (k : Kd) (V : Nat → Int) : Prop := (f = 3 → k ≠ .gone → V 0 % 2 = 1) ∧ (f ≠ 3 → Bs f J t d V)
structure BT (f : Nat) (G : Gh) (m : Mk) (t d : Nat) (k : Kd) : Prop where
  bw : Bw f (t ∈ G.ch) t d k (ov m t)
  none' : ¬ ∃ u, Ol G t u
  dst' : dst (G.pt t) = kd k
  reads' : k = .hold → reads (G.pt t)
  pre' : pre f (G.pt t) → k = .ret

theorem kin_new {v : Int} {d d' : Nat} {k k' : Kd} (h : kin (.new v) d k = some (d', k')) : d = 0 ∧ k = .no ∧ d' = 0 ∧ k' = .set ∧ v ≠ 0 := by
  cases d with
  | zero =>
    cases k with
    | no =>
      have h : (if v = 0 then none else some (0, Kd.set)) = some (d', k') := h
      split at h
      · cases h
      · rename_i hv
        cases h
        exact ⟨rfl, rfl, rfl, rfl, hv⟩
    | _ => exact nomatch h
  | succ d => cases k <;> exact nomatch h
theorem kin_dst {tg : Tg} {d d' : Nat} {k k' : Kd} (h : kin tg d k = some (d', k')) (e : Nat) : dst (some ⟨tg, 0, e⟩) = kd k := by
  cases tg with
  | new v => rw [(kin_new h).2.1]; rfl
  | _ => cases k <;> cases d <;> first | rfl | exact nomatch h
theorem kin_reads {tg : Tg} {d d' : Nat} {k k' : Kd} (h : kin tg d k = some (d', k')) {e : Nat} (hr : reads (some ⟨tg, 0, e⟩)) : k = .hold := by
  cases tg with
  | read => cases k <;> cases d <;> first | rfl | exact nomatch h
  | get => exact absurd hr (Nat.lt_irrefl 0)
  | _ => exact hr.elim
theorem kin_rest {d : Nat} {k : Kd} {x : Nat × Kd} (h : kin .rest d k = some x) : d = 0 ∧ k = .no := by
  cases d <;> cases k <;> first | exact ⟨rfl, rfl⟩ | exact nomatch h
theorem kin_gone {d : Nat} {k : Kd} {x : Nat × Kd} (h : kin .gone d k = some x) : d = 0 ∧ k = .no := by
  cases d <;> cases k <;> first | exact ⟨rfl, rfl⟩ | exact nomatch h
theorem kin_wait {d : Nat} {k : Kd} {x : Nat × Kd} (h : kin .wait d k = some x) : d = 0 ∧ k = .ret := by
  cases d <;> cases k <;> first | exact ⟨rfl, rfl⟩ | exact nomatch h
theorem kin_pub {d : Nat} {k : Kd} {x : Nat × Kd} (h : kin .pub d k = some x) : d = 0 ∧ k = .set := by
  cases d <;> cases k <;> first | exact ⟨rfl, rfl⟩ | exact nomatch h
theorem kin_free {d : Nat} {k : Kd} {x : Nat × Kd} (h : kin .free d k = some x) : d = 0 ∧ k = .due := by
  cases d <;> cases k <;> first | exact ⟨rfl, rfl⟩ | exact nomatch h
theorem kin_read {d : Nat} {k : Kd} {x : Nat × Kd} (h : kin .read d k = some x) : 0 < d ∧ k = .hold := by
  cases d <;> cases k <;> first | exact ⟨Nat.succ_pos _, rfl⟩ | exact nomatch h
theorem kin_get {d : Nat} {k : Kd} {x : Nat × Kd} (h : kin .get d k = some x) : 0 < d ∧ (k = .no ∨ k = .hold) := by
  cases d <;> cases k <;> first | exact ⟨Nat.succ_pos _, .inl rfl⟩ | exact ⟨Nat.succ_pos _, .inr rfl⟩ | exact nomatch h
theorem kin_leave {d : Nat} {k : Kd} {x : Nat × Kd} (h : kin .leave d k = some x) : 0 < d := by
  cases d <;> cases k <;> first | exact Nat.succ_pos _ | exact nomatch h
theorem stage_zero (f : Nat) : stage f 0 = 0 := by
  unfold stage
  by_cases h : f = 3
  · rw [if_pos h]; rfl
  · rw [if_neg h]
    by_cases h2 : f = 2
    · rw [if_pos h2]; rfl
    · rw [if_neg h2]
theorem kin_pre {f : Nat} {tg : Tg} {d d' : Nat} {k k' : Kd} (h : kin tg d k = some (d', k')) (hk : k = .ret) (e : Nat) : pre f (some ⟨tg, 0, e⟩) := by
  subst hk
  cases tg with
  | wait =>
    exact stage_zero f
  | new v => have := (kin_new h).2.1; cases this
  | _ => cases d <;> exact nomatch h
section
variable {f n : Nat} {G : Gh} {m : Mk} {t d d' : Nat} {k k' : Kd} {tg : Tg}
theorem BT.la0 (h : BT f G m t d k) (hk : kin tg d k = some (d', k')) (hne : tgCode f tg ≠ []) : La f G.ch (Ol G t) (sh m) t (ov m t) (m.regs t) (some ⟨tg, 0, d⟩) := by
  obtain ⟨b1, b2⟩ := h.bw
  have n3 : f = 3 ∨ f ≠ 3 := by omega
  have none' : ∀ u, ¬ Ol G t u := fun u hu => h.none' ⟨u, hu⟩
  have hB : (k ≠ .gone) → Bs f (t ∈ G.ch) t d (ov m t) := fun hk => by
    rcases n3 with e | e
    · exact ⟨fun _ => b1 e hk, fun e2 => absurd e e2, fun e2 => by omega⟩
    · exact b2 e
  cases tg with
  | enter =>
    have hf : f ≠ 3 := fun e => hne (by subst e; rfl)
    exact ⟨hf, b2 hf⟩
  | leave =>
    have hf : f ≠ 3 := fun e => hne (by subst e; rfl)
    exact ⟨hf, b2 hf, kin_leave hk⟩
  | rest =>
    have hf : f = 3 := by
      rcases n3 with e | e
      · exact e
      · exact absurd (if_neg e) hne
    exact ⟨hf, b1 hf (by rw [(kin_rest hk).2]; decide)⟩
  | gone =>
    have hf : f = 3 := by
      rcases n3 with e | e
      · exact e
      · exact absurd (if_neg e) hne
    exact ⟨hf, b1 hf (by rw [(kin_gone hk).2]; decide)⟩
  | wait =>
    obtain ⟨rfl, rfl⟩ := kin_wait hk
    refine ⟨rfl, fun e => b1 e (by decide), fun e => b2 e, ?_⟩
    rw [stage_zero]; exact none'
  | get =>
    obtain ⟨h1, h2⟩ := kin_get hk
    exact ⟨hB (by rcases h2 with rfl | rfl <;> decide), h1⟩
  | read =>
    obtain ⟨h1, rfl⟩ := kin_read hk
    exact ⟨hB (by decide), h1⟩
  | new v =>
    obtain ⟨h1, h2, -⟩ := kin_new hk
    exact ⟨hB (by rw [h2]; decide), h1⟩
  | pub =>
    obtain ⟨h1, rfl⟩ := kin_pub hk
    exact ⟨hB (by decide), h1⟩
  | free =>
    obtain ⟨h1, rfl⟩ := kin_free hk
    exact ⟨hB (by decide), h1⟩
theorem PD.begin (h : PD f n G m) (ht : t < n) (hb : BT f G m t d k) (hk : kin tg d k = some (d', k')) (hne : tgCode f tg ≠ []) : PD f n (G.at' t (some ⟨tg, 0, d⟩)) m :=
  h.reg ht rfl rfl (fun _ _ => rfl) (fun _ => rfl) (fun hr => .inl ⟨rfl, hb.reads' (kin_reads hk hr)⟩) rfl rfl rfl (hb.la0 hk hne) (fun e => absurd e hb.none') (by rw [hb.dst']; exact kin_dst hk d) (fun hp => .inl (kin_pre hk (hb.pre' hp) d)) (fun _ e => by cases e) (fun v q d2 e => by
    cases e
    exact ⟨(kin_new hk).2.2.2.2, fun e => by cases e⟩)
theorem PD.finish (h : PD f n G m) (ht : t < n) (hb : BT f G m t 0 k) (hk : k = .no ∨ k = .gone) : PD f n (G.at' t none) m := by
  refine h.reg ht rfl rfl (fun _ _ => rfl) (fun _ => rfl) (fun hr => hr.elim) rfl rfl rfl hb.bw.2 (fun e => absurd e hb.none') (by rw [hb.dst']; rcases hk with rfl | rfl <;> rfl) (fun hp => ?_) (fun _ e => by cases e) (fun _ _ _ e => by cases e)
  have := hb.pre' hp
  rcases hk with rfl | rfl <;> cases this
theorem BT.skip (hb : BT f G m t d k) (hk : kin tg d k = some (d', k')) (he : tgCode f tg = []) (hf : 1 ≤ f ∧ f ≤ 4) : BT f G m t d' k' := by
  obtain ⟨b1, b2⟩ := hb.bw
  have hf4 : f = 1 ∨ f = 2 ∨ f = 3 ∨ f = 4 := by omega
  have key : (tg = .enter ∨ tg = .leave) ∧ f = 3 ∨ (tg = .rest ∨ tg = .gone) ∧ f ≠ 3 := by
    cases tg <;> rcases hf4 with rfl | rfl | rfl | rfl <;> first | exact .inl ⟨.inl rfl, rfl⟩ | exact .inl ⟨.inr rfl, rfl⟩ | exact .inr ⟨.inl rfl, by decide⟩ | exact .inr ⟨.inr rfl, by decide⟩ | (cases he)
  rcases key with ⟨rfl | rfl, rfl⟩ | ⟨rfl | rfl, hf3⟩
  · cases k <;> cases hk
    exact ⟨⟨fun _ _ => b1 rfl (by decide), fun e => absurd rfl e⟩, hb.none', hb.dst', fun e => (nomatch e), fun e => nomatch hb.pre' e⟩
  · cases d <;> cases k <;> cases hk
    · exact ⟨⟨fun _ _ => b1 rfl (by decide), fun e => absurd rfl e⟩, hb.none', hb.dst', fun e => (nomatch e), fun e => nomatch hb.pre' e⟩
    · exact ⟨⟨fun _ _ => b1 rfl (by decide), fun e => absurd rfl e⟩, hb.none', hb.dst', fun e => (nomatch e), fun e => nomatch hb.pre' e⟩
  · cases d <;> cases k <;> cases hk
    exact ⟨⟨fun e => absurd e hf3, b2⟩, hb.none', hb.dst', fun e => (nomatch e), fun e => nomatch hb.pre' e⟩
  · cases d <;> cases k <;> cases hk
    exact ⟨⟨fun e => absurd e hf3, b2⟩, hb.none', hb.dst', fun e => (nomatch e), fun e => nomatch hb.pre' e⟩
theorem PD.behind (h : PD f n G m) (ht : t < n) (hp : G.pt t = some ⟨tg, (tgCode f tg).length, d⟩) (hne : tgCode f tg ≠ []) (hk : kin tg d k = some (d', k')) : BT f G m t d' k' := by
  have L := h.1.la t ht
  have hf := h.1.fl
  rw [hp] at L
  have hf4 : f = 1 ∨ f = 2 ∨ f = 3 ∨ f = 4 := by omega
  have hno : tg ≠ .wait → ¬ ∃ u, Ol G t u := h.noold ht hp
  cases tg with
  | enter =>
    obtain ⟨h3, L⟩ := L
    have hB : Bs f (t ∈ G.ch) t (d + 1) (ov m t) := by
      rcases hf4 with rfl | rfl | rfl | rfl
      · exact L
      · exact L
      · exact absurd rfl h3
      · exact L
    cases k <;> cases hk
    exact ⟨⟨fun e => absurd e h3, fun _ => hB⟩, hno (by decide), by rw [hp]; rfl, fun e => (nomatch e), fun e => by rw [hp] at e; exact e.elim⟩
  | leave =>
    obtain ⟨h3, L⟩ := L
    have hB : Bs f (t ∈ G.ch) t (d - 1) (ov m t) := by
      rcases hf4 with rfl | rfl | rfl | rfl
      · exact L
      · exact L
      · exact absurd rfl h3
      · exact L
    cases d <;> cases k <;> cases hk
    · exact ⟨⟨fun e => absurd e h3, fun _ => hB⟩, hno (by decide), by rw [hp]; rfl, fun e => (nomatch e), fun e => by rw [hp] at e; exact e.elim⟩
    · exact ⟨⟨fun e => absurd e h3, fun _ => hB⟩, hno (by decide), by rw [hp]; rfl, fun e => (nomatch e), fun e => by rw [hp] at e; exact e.elim⟩
  | rest =>
    obtain ⟨rfl, L⟩ := L
    cases d <;> cases k <;> cases hk
    exact ⟨⟨fun _ _ => L, fun e => absurd rfl e⟩, hno (by decide), by rw [hp]; rfl, fun e => (nomatch e), fun e => by rw [hp] at e; exact e.elim⟩
  | gone =>
    obtain ⟨rfl, L⟩ := L
    cases d <;> cases k <;> cases hk
    exact ⟨⟨fun _ e => absurd rfl e, fun e => absurd rfl e⟩, hno (by decide), by rw [hp]; rfl, fun e => (nomatch e), fun e => by rw [hp] at e; exact e.elim⟩
  | wait =>
    obtain ⟨hd, L3, Ln, Sc⟩ := L
    cases d <;> cases k <;> cases hk
    have hS : ∀ u, ¬ Ol G t u := by
      rcases hf4 with rfl | rfl | rfl | rfl
      · exact Sc
      · exact Sc
      · exact Sc
      · exact Sc
    refine ⟨⟨fun e _ => ?_, Ln⟩, fun ⟨u, hu⟩ => hS u hu, by rw [hp]; rfl, fun e => (nomatch e), fun e => ?_⟩
    · subst e; exact L3 rfl
    · rw [hp] at e
      rcases hf4 with rfl | rfl | rfl | rfl <;> cases e
  | get =>
    cases d <;> cases k <;> cases hk
    · exact ⟨⟨fun e _ => L.1.1 e, fun _ => L.1⟩, hno (by decide), by rw [hp]; rfl, fun _ => by rw [hp]; exact Nat.one_pos, fun e => by rw [hp] at e; exact e.elim⟩
    · exact ⟨⟨fun e _ => L.1.1 e, fun _ => L.1⟩, hno (by decide), by rw [hp]; rfl, fun _ => by rw [hp]; exact Nat.one_pos, fun e => by rw [hp] at e; exact e.elim⟩
  | read =>
    cases d <;> cases k <;> cases hk
    exact ⟨⟨fun e _ => L.1.1 e, fun _ => L.1⟩, hno (by decide), by rw [hp]; rfl, fun _ => by rw [hp]; exact trivial, fun e => by rw [hp] at e; exact e.elim⟩
  | new v =>
    obtain ⟨L, -⟩ := (show Bs f (t ∈ G.ch) t d (ov m t) ∧ d = 0 from L)
    obtain ⟨rfl, rfl, rfl, rfl, -⟩ := kin_new hk
    exact ⟨⟨fun e _ => L.1 e, fun _ => L⟩, hno (by intro e; cases e), by rw [hp]; rfl, fun e => (nomatch e), fun e => by rw [hp] at e; exact e.elim⟩
  | pub =>
    obtain ⟨L, hd⟩ := (show Bs f (t ∈ G.ch) t d (ov m t) ∧ d = 0 from L)
    subst hd
    cases k <;> cases hk
    exact ⟨⟨fun e _ => L.1 e, fun _ => L⟩, hno (by decide), by rw [hp]; rfl, fun e => (nomatch e), fun _ => rfl⟩
  | free =>
    obtain ⟨L, hd⟩ := (show Bs f (t ∈ G.ch) t d (ov m t) ∧ d = 0 from L)
    subst hd
    cases k <;> cases hk
    exact ⟨⟨fun e _ => L.1 e, fun _ => L⟩, hno (by decide), by rw [hp]; rfl, fun e => (nomatch e), fun e => by rw [hp] at e; exact e.elim⟩
theorem PD.hops (h : PD f n G m) (ht : t < n) {L : List Ins} : ∀ (B : List (Tg × ByteArray)) (A : List Ins) (d : Nat) (k : Kd), BT f G m t d k → Disc d k (B.map (·.1)) → Apart f A B → L = A ++ cd f B → ∃ g, PD f n (G.at' t g) m ∧ Loc f L A.length g
  | [], A, d, k, hb, hd, _, hL => by
    obtain ⟨rfl, hk⟩ := hd
    refine ⟨none, h.finish ht hb hk, ?_⟩
    show A.length = L.length
    rw [hL]
    show _ = (A ++ []).length
    rw [List.append_nil]
  | (tg, P) :: B, A, d, k, hb, hd, ha, hL => by
    obtain ⟨h100, d', k', hk, hd'⟩ := hd
    by_cases he : tgCode f tg = []
    · have hL' : L = A ++ cd f B := by
        rw [hL]
        show A ++ (gCode P (tgCode f tg) ++ cd f B) = _
        rw [he]; rfl
      have ha' : Apart f A B := by
        have := ha.2
        dsimp only at this
        rw [he] at this
        rwa [show gCode P [] = [] from rfl, List.append_nil] at this
      exact PD.hops h ht B A d' k' (hb.skip hk he h.1.fl) hd' ha' hL'
    · refine ⟨some ⟨tg, 0, d⟩, h.begin ht hb hk he, A, P, B, k, d', k', hL, rfl, List.length_pos_iff.2 he, ha.1, hk, h100, hd', ha.2⟩
end
end Go.Proofs.YtaiigfcfmcicjaaGreatDoor
