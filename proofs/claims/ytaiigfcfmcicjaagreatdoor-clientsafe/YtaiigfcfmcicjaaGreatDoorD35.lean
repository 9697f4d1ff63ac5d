import Derived.Test.YtaiigfcfmcicjaaGreatDoorD34
namespace Go.Proofs.YtaiigfcfmcicjaaGreatDoor
set_option maxRecDepth 100000
set_option maxHeartbeats 8000000
section
open Go.RowKit
section
variable {f n : Nat} {G G' : Gq} {m m' : Mk} {t q d : Nat} {i : GI}
theorem NR.zero {w : Nat} {nd : Option Nat} (h : NR m w nd) (hl : ∀ c, nd = some c -> Live m c) (h0 : m.regs w 3 = 0) : nd = none := by
 rcases h with ⟨h1, -⟩ | ⟨c, h1, h2⟩
 ·exact h1
 ·have := rf_pos (hl c h1)
  omega
theorem NR.nz {w : Nat} {nd : Option Nat} (h : NR m w nd) (h0 : ¬ m.regs w 3 = 0) : NS m w nd := by
 rcases h with ⟨-, h1⟩ | h1
 ·exact absurd h1 h0
 ·exact h1
theorem CI.ndl (D : CI f n G m) (hw : t < n) : ∀ c, G.nd t = some c -> Live m c := fun _ hc => (D.dc hw (mem_nd hc)).2.1
theorem storec {c : Nat} (hc : Live m c) (k : Nat) (v : Int) : m.store t (rf m c) k v = (m.room t).put t (rf (m.room t) c) k v := by
 rw [store_live hc]
 have : rf (m.room t) c = rf m c := by
  unfold Mk.room
  split
  ·cases hw : m.mem.waits t with
   | nil => rw [drain1_nil hw]
   | cons x l => exact (drain1_cons hw).cells.rf c
  ·rfl
 rw [this]
theorem qown_put {v : Int} (h : QD f n G m) (ht : t < n) (hp : G.pt t = some ⟨.put v, q, d⟩) (hi : (tqCode f (.put v))[q]? = some i) : Sq f n G t (some ⟨.put v, gNext (tqCode f (.put v)) q (m.regs t) i, d⟩) (gExec m t i) := by
 have hno := h.noold ht hp (fun e => nomatch e)
 match q, hp, hi with
 | 0, hp, hi =>
  have e : GI.alloc 3 = i := Option.some.inj hi
  subst e
  obtain ⟨x, hx⟩ := h.allocs ht hp
  exact Sq.upd hx rfl
 | 1, hp, hi =>
  have L := la_at h ht hp
  have C := loc_at h ht hp
  have e : GI.zero 3 0 = i := Option.some.inj hi
  subst e
  show Sq f n G t (some ⟨.put v, if m.regs t 3 = 0 then gAt 0 (tqCode f (.put v)) else 2, d⟩) m
  by_cases hz : m.regs t 3 = 0
  ·rw [if_pos hz]
   have hn := NR.zero C.2 (h.2.ndl ht) hz
   exact Sq.upd (h.rego (k := ⟨true, false, (G.fl t).k⟩) (g := some ⟨.put v, 5, d⟩) ht hno rfl rfl h.2.mks (fun u hu => rfl) rfl rfl rfl L (h.2.kep t ht) ⟨C.1, C.2⟩ (fun c hc => by rw [hn] at hc; cases hc) (fun c hc _ => An.any (.inr rfl) rfl (fun e => nomatch e) (fun e => nomatch e)) (fun e => e.elim)) rfl
  ·rw [if_neg hz]
   exact Sq.upd (h.rego (k := G.fl t) (g := some ⟨.put v, 2, d⟩) ht hno rfl rfl h.2.mks (fun u hu => rfl) rfl rfl rfl L (h.2.kep t ht) ⟨C.1, NR.nz C.2 hz⟩ (fun c _ => by rw [hp]; exact Iff.intro (fun e => absurd e (by show ¬ 5 <= 2; decide)) (fun e => absurd e (by show ¬ 5 <= 1; decide))) (fun c _ ha => ha.same id rfl hp rfl ⟨(fun e => nomatch e), fun e => nomatch e⟩ ⟨(fun e => nomatch e), fun e => nomatch e⟩) (fun e => e.elim)) rfl
 | 2, hp, hi =>
  have L := la_at h ht hp
  have C := loc_at h ht hp
  have e : GI.const 0 v = i := Option.some.inj hi
  subst e
  show Sq f n G t (some ⟨.put v, 3, d⟩) (m.setReg t 0 v)
  exact Sq.upd (h.rego (k := G.fl t) (g := some ⟨.put v, 3, d⟩) ht hno rfl rfl h.2.mks (fun u hu => reg3q _ _ _ _ hu) (setq_ne _ _ _ _ (by decide)) (setq_ne _ _ _ _ (by decide)) (setq_ne _ _ _ _ (by decide)) L (h.2.kep t ht) ⟨⟨C.1.1, by rw [setq_ne _ _ _ _ (by decide), hdn_mem rfl]; exact C.1.2⟩, NS.keep (m := m) rfl (setq_ne _ _ _ _ (by decide)) C.2, setq_eq _ _ _ _⟩ (fun c _ => by rw [hp]; exact Iff.intro (fun e => absurd e (by show ¬ 5 <= 3; decide)) (fun e => absurd e (by show ¬ 5 <= 2; decide))) (fun c _ ha => ha.same id rfl hp rfl ⟨(fun e => nomatch e), fun e => nomatch e⟩ ⟨(fun e => nomatch e), fun e => nomatch e⟩) (fun e => e.elim)) rfl
 | 3, hp, hi =>
  have e : GI.store 3 0 0 = i := Option.some.inj hi
  subst e
  have hR := h.room ht
  have L := la_at hR ht hp
  have C := loc_at hR ht hp
  obtain ⟨C1, ⟨c, hc, h3⟩, h0⟩ := C
  have Lx := h.2.ndl ht c hc
  obtain ⟨-, ⟨c', hc', h3'⟩, h0'⟩ := loc_at h ht hp
  rw [hc] at hc'
  cases hc'
  show Sq f n G t (some ⟨.put v, 4, d⟩) (m.store t (m.regs t 3) ((0 : Nat) : Int) (m.regs t 0))
  rw [h3', h0', storec Lx]
  exact Sq.upd (hR.putc (c := c) (k := 0) (v := v) (x := some c) (g := some ⟨.put v, 4, d⟩) ht (hR.noold ht hp (fun e => nomatch e)) hc rfl rfl rfl (.inr ⟨rfl, C1.1⟩) L (fun m' e1 e2 e3 e4 => ⟨⟨C1.1, by rw [e1, hdn_same e2]; exact C1.2⟩, c, rfl, by rw [e1, e2]; exact h3, by rw [e3, e4]; exact C1.1⟩) (by rw [hp]; exact Iff.intro (fun e => absurd e (by show ¬ 5 <= 4; decide)) (fun e => absurd e (by show ¬ 5 <= 3; decide))) (fun e _ ha => ha.same id rfl hp rfl ⟨(fun e => nomatch e), fun e => nomatch e⟩ ⟨(fun e => nomatch e), fun e => nomatch e⟩) (fun e => e.elim)) rfl
 | 4, hp, hi =>
  have e : GI.swap 3 5 0 = i := Option.some.inj hi
  subst e
  have hF := h.fence ht
  obtain ⟨-, c, hc, -, -⟩ := loc_at h ht hp
  obtain ⟨Lr, g0, r0⟩ := h.1.cell (show 1 <= 1 by omega) (show 1 <= n + 2 by omega)
  have r1 : rf m 1 = 2 := by rw [r0]; rfl
  have hw : (m.fence t).mem.waits t = [] := Rm.drainAll_waits _ _ _ rfl
  have h2 := hF.swaps ht hw (k := ⟨true, false, (G.fl t).k⟩) hp hc rfl rfl
  have e : gExec m t (.swap 3 5 0) = ((m.fence t).setWord 2 0 ((m.fence t).regs t 3)).setReg t 3 ((m.fence t).mem.ar.words 1 0) := by
   show m.swap t 3 (m.regs t 5) ((0 : Nat) : Int) (m.regs t 3) = _
   unfold Mk.swap
   rw [h.1.r5 t ht, <- r1, if_pos Lr.names]
   congr 1
   unfold Mk.word
   rw [(rf_cell Lr).1, Int.toNat_natCast]; rfl
  rw [e]
  exact ⟨_, h2, if_pos rfl, fun u hu => if_neg hu, .inl rfl, rfl, fun u hu => if_neg hu, if_pos rfl⟩
 | 5, hp, hi =>
  have L := la_at h ht hp
  have C := loc_at h ht hp
  have e : GI.label 0 = i := Option.some.inj hi
  subst e
  exact Sq.upd (h.rego (k := ⟨true, false, (G.fl t).k⟩) (g := some ⟨.put v, 6, d⟩) ht hno rfl rfl h.2.mks (fun u hu => rfl) rfl rfl rfl L (h.2.kep t ht) ⟨C.1, C.2⟩ (fun c _ => by rw [hp]; exact Iff.intro (fun _ => Nat.le_refl 5) (fun _ => Nat.le_succ 5)) (fun c _ _ => An.any (.inr rfl) rfl (fun e => nomatch e) (fun e => nomatch e)) (fun e => e.elim)) rfl
 | k + 6, hp, hi => exact nomatch (show (none : Option GI) = some i from hi)
theorem qown_drop (h : QD f n G m) (ht : t < n) (hfw : (G.fl t).w = true) (hp : G.pt t = some ⟨.drop, q, d⟩) (hi : (tqCode f .drop)[q]? = some i) : Sq f n G t (some ⟨.drop, gNext (tqCode f .drop) q (m.regs t) i, d⟩) (gExec m t i) := by
 have hno := h.noold ht hp (by decide)
 match q, hp, hi with
 | 0, hp, hi =>
  have L := la_at h ht hp
  have C := loc_at h ht hp
  have e : GI.zero 3 0 = i := Option.some.inj hi
  subst e
  show Sq f n G t (some ⟨.drop, if m.regs t 3 = 0 then gAt 0 (tqCode f .drop) else 1, d⟩) m
  by_cases hz : m.regs t 3 = 0
  ·rw [if_pos hz]
   exact Sq.upd (h.rego (k := G.fl t) (g := some ⟨.drop, 2, d⟩) ht hno rfl rfl h.2.mks (fun u hu => rfl) rfl rfl rfl L (h.2.kep t ht) ⟨C.1, NR.zero C.2 (h.2.ndl ht) hz⟩ (fun c _ => by rw [hp]; exact Iff.rfl) (fun c _ ha => ha.same id rfl hp rfl ⟨by decide, by decide⟩ ⟨by decide, by decide⟩) (fun e => e.elim)) rfl
  ·rw [if_neg hz]
   exact Sq.upd (h.rego (k := G.fl t) (g := some ⟨.drop, 1, d⟩) ht hno rfl rfl h.2.mks (fun u hu => rfl) rfl rfl rfl L (h.2.kep t ht) ⟨C.1, NR.nz C.2 hz⟩ (fun c _ => by rw [hp]; exact Iff.rfl) (fun c _ ha => ha.same id rfl hp rfl ⟨by decide, by decide⟩ ⟨by decide, by decide⟩) (fun e => e.elim)) rfl
 | 1, hp, hi =>
  have e : GI.free 3 = i := Option.some.inj hi
  subst e
  have hF := h.fence ht
  have L := la_at hF ht hp
  obtain ⟨C4, c, hc, h3⟩ := loc_at hF ht hp
  have Lx := h.2.ndl ht c hc
  obtain ⟨-, c', hc', h3'⟩ := loc_at h ht hp
  rw [hc] at hc'
  cases hc'
  have hw : (m.fence t).mem.waits t = [] := Rm.drainAll_waits _ _ _ rfl
  obtain ⟨n1, n2⟩ := nd_ls h.2 ht hc
  have how : ow G t = c :: G.ls t := by unfold ow; rw [hc]; rfl
  have h2 := hF.frees (c := c) (x := none) (l := G.ls t) (k := G.fl t) (g := some ⟨.drop, 2, d⟩) ht hw (mem_nd hc) (fun e => by
   show e ∈ G.ls t ↔ e ∈ ow G t /\ e ≠ c
   rw [how]
   refine ⟨fun he => ⟨List.mem_cons_of_mem _ he, fun e2 => n1 (by rw [<- e2]; exact he)⟩, fun ⟨he, e2⟩ => ?_⟩
   rcases List.mem_cons.1 he with h | h
   ·exact absurd h e2
   ·exact h) n2 (hF.noold ht hp (by decide)) (fun ha => by
   unfold An at ha
   rw [hp] at ha
   rcases ha with ha | ha
   ·exact n1 ha
   ·rw [hfw] at ha; cases ha) L (hF.2.lst t ht) (hF.2.kep t ht) ⟨C4, rfl⟩ (fun e he => by
   rcases he with he | ⟨he, -⟩
   ·exact .inl he
   ·cases he) (fun e he hr => by
   rcases hr with hr | ⟨hr, -⟩
   ·exact ⟨.inl hr, fun ha => ha.same id rfl hp rfl ⟨by decide, by decide⟩ ⟨by decide, by decide⟩⟩
   ·rw [hc] at hr
    cases hr
    exact absurd rfl he) (fun e => e.elim)
  have e : gExec m t (.free 3) = (m.fence t).setMem ((m.fence t).mem.setThere c false) := by
   show m.free t (m.regs t 3) = _
   unfold Mk.free
   rw [h3', if_pos Lx.names, (rf_cell Lx).1, Int.toNat_natCast]
  rw [e]
  exact Sq.upd h2 rfl
 | 2, hp, hi =>
  have L := la_at h ht hp
  have C := loc_at h ht hp
  have e : GI.label 0 = i := Option.some.inj hi
  subst e
  exact Sq.upd (h.rego (k := G.fl t) (g := some ⟨.drop, 3, d⟩) ht hno rfl rfl h.2.mks (fun u hu => rfl) rfl rfl rfl L (h.2.kep t ht) ⟨C.1, C.2⟩ (fun c _ => by rw [hp]; exact Iff.rfl) (fun c _ ha => ha.same id rfl hp rfl ⟨by decide, by decide⟩ ⟨by decide, by decide⟩) (fun e => e.elim)) rfl
 | k + 3, hp, hi => exact nomatch (show (none : Option GI) = some i from hi)
theorem qown_later (h : QD f n G m) (ht : t < n) (hp : G.pt t = some ⟨.later, q, d⟩) (hi : (tqCode f .later)[q]? = some i) : Sq f n G t (some ⟨.later, gNext (tqCode f .later) q (m.regs t) i, d⟩) (gExec m t i) := by
 have hno := h.noold ht hp (by decide)
 match q, hp, hi with
 | 0, hp, hi =>
  have L := la_at h ht hp
  have C := loc_at h ht hp
  have e : GI.zero 3 0 = i := Option.some.inj hi
  subst e
  show Sq f n G t (some ⟨.later, if m.regs t 3 = 0 then gAt 0 (tqCode f .later) else 1, d⟩) m
  by_cases hz : m.regs t 3 = 0
  ·rw [if_pos hz]
   have hn := NR.zero C.2 (h.2.ndl ht) hz
   exact Sq.upd (h.rego (k := ⟨(G.fl t).r, (G.fl t).w, true⟩) (g := some ⟨.later, 3, d⟩) ht hno rfl rfl h.2.mks (fun u hu => rfl) rfl rfl rfl L (fun e => by cases e) ⟨C.1, hn⟩ (fun c _ => by rw [hp]; exact Iff.rfl) (fun c _ ha => ha.same id rfl hp rfl ⟨by decide, by decide⟩ ⟨by decide, by decide⟩) (fun e => e.elim)) rfl
  ·rw [if_neg hz]
   exact Sq.upd (h.rego (k := G.fl t) (g := some ⟨.later, 1, d⟩) ht hno rfl rfl h.2.mks (fun u hu => rfl) rfl rfl rfl L (h.2.kep t ht) ⟨C.1, NR.nz C.2 hz⟩ (fun c _ => by rw [hp]; exact Iff.rfl) (fun c _ ha => ha.same id rfl hp rfl ⟨by decide, by decide⟩ ⟨by decide, by decide⟩) (fun e => e.elim)) rfl
 | 1, hp, hi =>
  have e : GI.store 3 4 1 = i := Option.some.inj hi
  subst e
  have hR := h.room ht
  have L := la_at hR ht hp
  obtain ⟨C1, c, hc, h3⟩ := loc_at hR ht hp
  have Lx := h.2.ndl ht c hc
  obtain ⟨C1', c', hc', h3'⟩ := loc_at h ht hp
  rw [hc] at hc'
  cases hc'
  show Sq f n G t (some ⟨.later, 2, d⟩) (m.store t (m.regs t 3) ((1 : Nat) : Int) (m.regs t 4))
  rw [h3', storec Lx]
  have e4 : m.regs t 4 = (m.room t).regs t 4 := by rw [(room_regs m t).1]
  rw [e4]
  exact Sq.upd (hR.putc (c := c) (k := 1) (v := (m.room t).regs t 4) (x := some c) (g := some ⟨.later, 2, d⟩) ht (hR.noold ht hp (by decide)) hc rfl rfl rfl (.inl rfl) L (fun m' e1 e2 e3 e4 => ⟨by rw [e1, hdn_same e2]; exact C1, c, rfl, by rw [e1, e2]; exact h3, by rw [e3, e4, hdn_same e2]; exact C1⟩) (by rw [hp]; exact Iff.rfl) (fun e _ ha => ha.same id rfl hp rfl ⟨by decide, by decide⟩ ⟨by decide, by decide⟩) (fun e => e.elim)) rfl
 | 2, hp, hi =>
  have L := la_at h ht hp
  obtain ⟨C1, c, hc, h3, hv⟩ := loc_at h ht hp
  have e : GI.move 4 3 = i := Option.some.inj hi
  subst e
  obtain ⟨n1, n2⟩ := nd_ls h.2 ht hc
  show Sq f n G t (some ⟨.later, 3, d⟩) (m.setReg t 4 (m.regs t 3))
  exact Sq.upd (h.regu (x := none) (l := c :: G.ls t) (k := ⟨(G.fl t).r, (G.fl t).w, true⟩) (g := some ⟨.later, 3, d⟩) ht hno rfl rfl h.2.mks (fun u hu => reg3q _ _ _ _ hu) (setq_ne _ _ _ _ (by decide)) (setq_ne _ _ _ _ (by decide)) (setq_ne _ _ _ _ (by decide)) L (by
    show (c :: G.ls t).Perm (ow G t)
    unfold ow
    rw [hc]
    exact List.Perm.refl _) ⟨hv, h.2.lst t ht⟩ (fun e => by cases e) ⟨by rw [setq_eq]; exact h3, rfl⟩ (fun e he => by
    rcases he with he | ⟨he, -⟩
    ·rcases List.mem_cons.1 he with rfl | he
     ·exact .inr ⟨hc, by rw [hp]; exact trivial⟩
     ·exact .inl he
    ·cases he) (fun e he => by
    have hm : e ∈ c :: G.ls t := by
     rcases he with he | ⟨he, -⟩
     ·exact List.mem_cons_of_mem _ he
     ·rw [hc] at he
      cases he
      exact List.mem_cons_self
    exact ⟨.inl hm, fun _ => An.any (.inl hm) rfl (by decide) (by decide)⟩) (fun e => e.elim)) rfl
 | 3, hp, hi =>
  have L := la_at h ht hp
  have C := loc_at h ht hp
  have e : GI.label 0 = i := Option.some.inj hi
  subst e
  exact Sq.upd (h.rego (k := ⟨(G.fl t).r, (G.fl t).w, true⟩) (g := some ⟨.later, 4, d⟩) ht hno rfl rfl h.2.mks (fun u hu => rfl) rfl rfl rfl L (fun e => by cases e) ⟨C.1, C.2⟩ (fun c _ => by rw [hp]; exact Iff.rfl) (fun c _ ha => ha.same id rfl hp rfl ⟨by decide, by decide⟩ ⟨by decide, by decide⟩) (fun e => e.elim)) rfl
 | k + 4, hp, hi => exact nomatch (show (none : Option GI) = some i from hi)
theorem An.emp {c : Nat} (h : An f G t c) (hp : G.pt t = some ⟨.empty, q, d⟩) : False := by
 unfold An at h
 rw [hp] at h
 exact h
theorem qown_empty (h : QD f n G m) (ht : t < n) (hp : G.pt t = some ⟨.empty, q, d⟩) (hi : (tqCode f .empty)[q]? = some i) : Sq f n G t (some ⟨.empty, gNext (tqCode f .empty) q (m.regs t) i, d⟩) (gExec m t i) := by
 have hno := h.noold ht hp (by decide)
 match q, hp, hi with
 | 0, hp, hi =>
  have L := la_at h ht hp
  have C := loc_at h ht hp
  have e : GI.label 1 = i := Option.some.inj hi
  subst e
  exact Sq.upd (h.rego (k := G.fl t) (g := some ⟨.empty, 1, d⟩) ht hno rfl rfl h.2.mks (fun u hu => rfl) rfl rfl rfl L (h.2.kep t ht) ⟨C.1, C.2⟩ (fun c _ => by rw [hp]; exact Iff.rfl) (fun c _ ha => (ha.emp hp).elim) (fun e => e.elim)) rfl
 | 1, hp, hi =>
  have L := la_at h ht hp
  have C := loc_at h ht hp
  have C2 : m.regs t 4 = hdn m (G.ls t) := C.2
  have e : GI.zero 4 0 = i := Option.some.inj hi
  subst e
  show Sq f n G t (some ⟨.empty, if m.regs t 4 = 0 then gAt 0 (tqCode f .empty) else 2, d⟩) m
  by_cases hz : m.regs t 4 = 0
  ·rw [if_pos hz]
   have hn : G.ls t = [] := by
    cases hl : G.ls t with
    | nil => rfl
    | cons c l =>
     rw [hl] at C2
     have := rf_pos (h.2.dc ht (mem_ls (w := t) (x := c) (by rw [hl]; exact List.mem_cons_self))).2.1
     have C2 : m.regs t 4 = rf m c := C2
     omega
   exact Sq.upd (h.rego (k := G.fl t) (g := some ⟨.empty, 6, d⟩) ht hno rfl rfl h.2.mks (fun u hu => rfl) rfl rfl rfl L (h.2.kep t ht) ⟨C.1, C2, hn⟩ (fun c _ => by rw [hp]; exact Iff.rfl) (fun c _ ha => (ha.emp hp).elim) (fun e => e.elim)) rfl
  ·rw [if_neg hz]
   exact Sq.upd (h.rego (k := G.fl t) (g := some ⟨.empty, 2, d⟩) ht hno rfl rfl h.2.mks (fun u hu => rfl) rfl rfl rfl L (h.2.kep t ht) ⟨C.1, C2, fun e => hz (by rw [C2, e]; rfl)⟩ (fun c _ => by rw [hp]; exact Iff.rfl) (fun c _ ha => (ha.emp hp).elim) (fun e => e.elim)) rfl
 | 2, hp, hi =>
  have L := la_at h ht hp
  obtain ⟨C1, C2, C3⟩ := loc_at h ht hp
  have e : GI.load 0 4 1 = i := Option.some.inj hi
  subst e
  obtain ⟨c, l, hl⟩ : ∃ c l, G.ls t = c :: l := by
   cases hl : G.ls t with
   | nil => exact absurd hl C3
   | cons c l => exact ⟨c, l, rfl⟩
  have Lx := (h.2.dc ht (mem_ls (w := t) (x := c) (by rw [hl]; exact List.mem_cons_self))).2.1
  have hk := h.2.lst t ht
  rw [hl] at hk
  have C2' : m.regs t 4 = rf m c := by rw [hl] at C2; exact C2
  show Sq f n G t (some ⟨.empty, 3, d⟩) (m.load t 0 (m.regs t 4) ((1 : Nat) : Int))
  rw [C2', load_live Lx, hk.1]
  exact Sq.upd (h.rego (k := G.fl t) (g := some ⟨.empty, 3, d⟩) ht hno rfl rfl h.2.mks (fun u hu => reg3q _ _ _ _ hu) (setq_ne _ _ _ _ (by decide)) (setq_ne _ _ _ _ (by decide)) (setq_ne _ _ _ _ (by decide)) L (h.2.kep t ht) ⟨Nf.keep (m := m) rfl (setq_ne _ _ _ _ (by decide)) C1, by rw [setq_ne _ _ _ _ (by decide), hdn_mem rfl]; exact C2, c, l, hl, by rw [setq_eq]; exact (hdn_mem (m := m) (m' := m.setReg t 0 (hdn m l)) rfl l).symm⟩ (fun c _ => by rw [hp]; exact Iff.rfl) (fun c _ ha => (ha.emp hp).elim) (fun e => e.elim)) rfl
 | 3, hp, hi =>
  have e : GI.free 4 = i := Option.some.inj hi
  subst e
  have hF := h.fence ht
  have L := la_at hF ht hp
  obtain ⟨C1, C2, c, l, hl, h0⟩ := loc_at hF ht hp
  obtain ⟨-, C2', -⟩ := loc_at h ht hp
  have hcm : c ∈ G.ls t := by rw [hl]; exact List.mem_cons_self
  have Lx := (h.2.dc ht (mem_ls hcm)).2.1
  have hw : (m.fence t).mem.waits t = [] := Rm.drainAll_waits _ _ _ rfl
  have hnd := h.2.nod t ht
  have hk := hF.2.lst t ht
  rw [hl] at hk
  have how : ow G t = (G.nd t).toList ++ c :: l := by unfold ow; rw [hl]
  rw [how] at hnd
  obtain ⟨d1, d2, d3⟩ := List.nodup_append.1 hnd
  obtain ⟨d4, d5⟩ := List.nodup_cons.1 d2
  have h2 := hF.frees (c := c) (x := G.nd t) (l := l) (k := G.fl t) (g := some ⟨.empty, 4, d⟩) ht hw (mem_ls hcm) (fun e => by
   rw [how]
   constructor
   ·intro he
    rcases List.mem_append.1 he with he | he
    ·exact ⟨List.mem_append_left _ he, fun e2 => d3 e he c List.mem_cons_self e2⟩
    ·exact ⟨List.mem_append_right _ (List.mem_cons_of_mem _ he), fun e2 => d4 (by rw [<- e2]; exact he)⟩
   ·rintro ⟨he, e2⟩
    rcases List.mem_append.1 he with he | he
    ·exact List.mem_append_left _ he
    ·rcases List.mem_cons.1 he with he | he
     ·exact absurd he e2
     ·exact List.mem_append_right _ he) (List.nodup_append.2 ⟨d1, d5, fun a ha b hb => d3 a ha b (List.mem_cons_of_mem _ hb)⟩) (hF.noold ht hp (by decide)) (fun ha => ha.emp hp) L hk.2 (fun e => by
   have := h.2.kep t ht e
   rw [hl] at this; cases this) ⟨C1, h0⟩ (fun e he => by
   rcases he with he | ⟨he, -⟩
   ·exact .inl (by rw [hl]; exact List.mem_cons_of_mem _ he)
   ·exact .inr ⟨he, by rw [hp]; exact trivial⟩) (fun e he hr => by
   refine ⟨?_, fun ha => (ha.emp hp).elim⟩
   rcases hr with hr | ⟨hr, -⟩
   ·rw [hl] at hr
    rcases List.mem_cons.1 hr with hr | hr
    ·exact absurd hr he
    ·exact .inl hr
   ·exact .inr ⟨hr, trivial⟩) (fun e => e.elim)
  have C2c : m.regs t 4 = rf m c := by rw [hl] at C2'; exact C2'
  have e : gExec m t (.free 4) = (m.fence t).setMem ((m.fence t).mem.setThere c false) := by
   show m.free t (m.regs t 4) = _
   unfold Mk.free
   rw [C2c, if_pos Lx.names, (rf_cell Lx).1, Int.toNat_natCast]
  rw [e]
  exact Sq.upd h2 rfl
 | 4, hp, hi =>
  have L := la_at h ht hp
  have C := loc_at h ht hp
  have C2 : m.regs t 0 = hdn m (G.ls t) := C.2
  have e : GI.move 4 0 = i := Option.some.inj hi
  subst e
  show Sq f n G t (some ⟨.empty, 5, d⟩) (m.setReg t 4 (m.regs t 0))
  exact Sq.upd (h.rego (k := G.fl t) (g := some ⟨.empty, 5, d⟩) ht hno rfl rfl h.2.mks (fun u hu => reg3q _ _ _ _ hu) (setq_ne _ _ _ _ (by decide)) (setq_ne _ _ _ _ (by decide)) (setq_ne _ _ _ _ (by decide)) L (h.2.kep t ht) ⟨Nf.keep (m := m) rfl (setq_ne _ _ _ _ (by decide)) C.1, by show (m.setReg t 4 (m.regs t 0)).regs t 4 = _; rw [setq_eq, hdn_mem rfl]; exact C2⟩ (fun c _ => by rw [hp]; exact Iff.rfl) (fun c _ ha => (ha.emp hp).elim) (fun e => e.elim)) rfl
 | 5, hp, hi =>
  have L := la_at h ht hp
  have C := loc_at h ht hp
  have e : GI.goto 1 = i := Option.some.inj hi
  subst e
  exact Sq.upd (h.rego (k := G.fl t) (g := some ⟨.empty, 0, d⟩) ht hno rfl rfl h.2.mks (fun u hu => rfl) rfl rfl rfl L (h.2.kep t ht) ⟨C.1, C.2⟩ (fun c _ => by rw [hp]; exact Iff.rfl) (fun c _ ha => (ha.emp hp).elim) (fun e => e.elim)) rfl
 | 6, hp, hi =>
  have L := la_at h ht hp
  have C := loc_at h ht hp
  have e : GI.label 0 = i := Option.some.inj hi
  subst e
  exact Sq.upd (h.rego (k := G.fl t) (g := some ⟨.empty, 7, d⟩) ht hno rfl rfl h.2.mks (fun u hu => rfl) rfl rfl rfl L (h.2.kep t ht) ⟨C.1, C.2⟩ (fun c _ => by rw [hp]; exact Iff.rfl) (fun c _ ha => (ha.emp hp).elim) (fun e => e.elim)) rfl
 | k + 7, hp, hi => exact nomatch (show (none : Option GI) = some i from hi)
theorem qown_all {tg : Tq} (h : QD f n G m) (hwd : ∀ c k, Wd (m.mem.ar.words c k)) (ht : t < n) (hd : d <= 100) (hdr : tg = .drop -> (G.fl t).w = true) (hp : G.pt t = some ⟨tg, q, d⟩) (hi : (tqCode f tg)[q]? = some i) : Sq f n G t (some ⟨tg, gNext (tqCode f tg) q (m.regs t) i, d⟩) (hExec m t tg q i) := by
 have hf : f = 1 ∨ f = 2 ∨ f = 3 ∨ f = 4 := by have := h.1.fl; omega
 have hne : tg ≠ .read -> hExec m t tg q i = gExec m t i := fun e => if_neg (fun e2 => e e2.1)
 cases tg with
 | enter =>
  rw [hne (by decide)]
  rcases hf with rfl | rfl | rfl | rfl
  ·exact qown_enter1 h ht hp hd hi
  ·exact qown_enter2 h ht hp hd hi
  ·exact nomatch (show (none : Option GI) = some i from hi)
  ·exact qown_enter4 h ht hp hd hi
 | leave =>
  rw [hne (by decide)]
  rcases hf with rfl | rfl | rfl | rfl
  ·exact qown_leave1 h ht hp hd hi
  ·exact qown_leave2 h ht hp hd hi
  ·exact nomatch (show (none : Option GI) = some i from hi)
  ·exact qown_leave4 h ht hp hd hi
 | rest =>
  rw [hne (by decide)]
  rcases hf with rfl | rfl | rfl | rfl
  ·exact nomatch (show (none : Option GI) = some i from hi)
  ·exact nomatch (show (none : Option GI) = some i from hi)
  ·exact qown_rest h ht hp hi
  ·exact nomatch (show (none : Option GI) = some i from hi)
 | gone =>
  rw [hne (by decide)]
  rcases hf with rfl | rfl | rfl | rfl
  ·exact nomatch (show (none : Option GI) = some i from hi)
  ·exact nomatch (show (none : Option GI) = some i from hi)
  ·exact qown_gone h ht hp hi
  ·exact nomatch (show (none : Option GI) = some i from hi)
 | wait =>
  rw [hne (by decide)]
  rcases hf with rfl | rfl | rfl | rfl
  ·exact qown_wait1 h hwd ht hp hi
  ·exact qown_wait2 h hwd ht hp hi
  ·exact qown_wait3 h ht hp hi
  ·exact qown_wait4 h hwd ht hp hi
 | read => exact qown_read h ht hp hi
 | put v =>
  rw [hne (fun e => nomatch e)]
  exact qown_put h ht hp hi
 | drop =>
  rw [hne (by decide)]
  exact qown_drop h ht (hdr rfl) hp hi
 | later =>
  rw [hne (by decide)]
  exact qown_later h ht hp hi
 | empty =>
  rw [hne (by decide)]
  exact qown_empty h ht hp hi
end
end
section
open Go.RowKit
structure Bk where
 d : Nat
 fl : Fl
 e : Bool
 g : Bool
def Kq (V : Int -> Prop) : Tq -> Bk -> Bk -> Prop
 | .enter, b, b' => b.g = false /\ b' = ⟨b.d + 1, b.fl, false, false⟩
 | .leave, b, b' => b.g = false /\ 0 < b.d /\ b' = ⟨b.d - 1, b.fl, false, false⟩
 | .rest, b, b' => b.g = false /\ b.d = 0 /\ b' = ⟨0, b.fl, false, false⟩
 | .gone, b, b' => b.g = false /\ b.d = 0 /\ b' = ⟨0, b.fl, false, true⟩
 | .wait, b, b' => b.g = false /\ b.d = 0 /\ b' = ⟨0, ⟨b.fl.r, true, b.fl.k⟩, true, false⟩
 | .read, b, b' => b.g = false /\ 0 < b.d /\ b' = ⟨b.d, b.fl, false, false⟩
 | .put v, b, b' => b.g = false /\ b.d = 0 /\ V v /\ b.fl.r = false /\ b' = ⟨0, ⟨true, false, b.fl.k⟩, false, false⟩
 | .drop, b, b' => b.g = false /\ b.fl.r = true /\ b.fl.w = true /\ b' = ⟨b.d, ⟨false, b.fl.w, b.fl.k⟩, false, false⟩
 | .later, b, b' => b.g = false /\ b.fl.r = true /\ b' = ⟨b.d, ⟨false, b.fl.w, true⟩, false, false⟩
 | .empty, b, b' => b.g = false /\ b.d = 0 /\ b.e = true /\ b' = ⟨0, ⟨b.fl.r, b.fl.w, false⟩, false, false⟩
def DiscQ (V : Int -> Prop) (e : Fl) : Bk -> List Tq -> Prop
 | b, [] => b.d = 0 /\ b.fl = e
 | b, tg :: l => b.d <= 100 /\ ∃ b', Kq V tg b b' /\ DiscQ V e b' l
def PqAt (f : Nat) (L : List Ins) (a : Nat) (tg : Tq) : Prop := ∀ (q : Nat) (i : GI), (tqCode f tg)[q]? = some i -> ∀ (m : Mk) (t : Nat), m.pc t = a + q -> doneAt L (m.pc t) = false /\ m.step L t = hExec (m.setPc t (a + gNext (tqCode f tg) q (m.regs t) i)) t tg q i
def PsAt (f : Nat) (L : List Ins) : Nat -> List Tq -> Prop
 | a, [] => doneAt L a = true
 | a, tg :: l => PqAt f L a tg /\ PsAt f L (a + (tqCode f tg).length) l
def LocQ (f : Nat) (V : Int -> Prop) (e : Fl) (L : List Ins) (pc : Nat) (fl : Fl) : Option Pq -> Prop
 | none => doneAt L pc = true /\ fl = e
 | some ⟨tg, q, d⟩ => ∃ a B b b', PqAt f L a tg /\ pc = a + q /\ q < (tqCode f tg).length /\ Kq V tg b b' /\ b.d = d /\ d <= 100 /\ fl = flq (some ⟨tg, q, d⟩) b.fl /\ DiscQ V e b' B /\ PsAt f L (a + (tqCode f tg).length) B
structure BTq (f : Nat) (G : Gq) (m : Mk) (t : Nat) (b : Bk) : Prop where
 bw3 : f = 3 -> b.g = false -> ovq m t 0 % 2 = 1
 bw : f ≠ 3 -> Bq f (t ∈ G.ch) t b.d (ovq m t)
 none' : ¬ ∃ u, Olq G t u
 r4 : m.regs t 4 = hdn m (G.ls t)
 nf : Nf m t (G.nd t) b.fl.r
 rt : ∀ c, G.nd t = some c -> rtd (G.pt t)
 an : ∀ c, Ret G t c -> An f G t c -> b.e = false /\ (c ∈ G.ls t ∨ b.fl.w = false)
 kp : b.fl.k = false -> G.ls t = []
section
variable {f n : Nat} {G : Gq} {m : Mk} {t : Nat} {b b' : Bk} {tg : Tq} {V : Int -> Prop} {e : Fl}
theorem BTq.bq (h : BTq f G m t b) (hg : b.g = false) : Bq f (t ∈ G.ch) t b.d (ovq m t) := by
 by_cases h3 : f = 3
 ·exact ⟨fun _ => h.bw3 h3 hg, fun e2 => absurd h3 e2, fun e2 => by omega⟩
 ·exact h.bw h3
theorem BTq.la0 (h : BTq f G m t b) (hk : Kq V tg b b') (hne : tqCode f tg ≠ []) : Lq f G.ch (Olq G t) (shq m) t (ovq m t) (m.regs t) (some ⟨tg, 0, b.d⟩) := by
 have none' : ∀ u, ¬ Olq G t u := fun u hu => h.none' ⟨u, hu⟩
 cases tg with
 | enter =>
  have hf : f ≠ 3 := fun e => hne (by subst e; rfl)
  exact ⟨hf, h.bw hf⟩
 | leave =>
  have hf : f ≠ 3 := fun e => hne (by subst e; rfl)
  exact ⟨hf, h.bw hf, hk.2.1⟩
 | rest =>
  have hf : f = 3 := by
   by_cases e : f = 3
   ·exact e
   ·exact absurd (if_neg e) hne
  exact ⟨hf, h.bw3 hf hk.1⟩
 | gone =>
  have hf : f = 3 := by
   by_cases e : f = 3
   ·exact e
   ·exact absurd (if_neg e) hne
  exact ⟨hf, h.bw3 hf hk.1⟩
 | wait =>
  have hd := hk.2.1
  refine ⟨hd, fun e => h.bw3 e hk.1, fun e => by have := h.bw e; rw [hd] at this; exact this, ?_⟩
  rw [stageq_zero]; exact none'
 | read => exact ⟨h.bq hk.1, hk.2.1⟩
 | put v => exact ⟨h.bq hk.1, hk.2.1⟩
 | drop => exact h.bq hk.1
 | later => exact h.bq hk.1
 | empty => exact h.bq hk.1
theorem flq_zero (k : Fl) (d : Nat) : flq (some ⟨tg, 0, d⟩) k = k := by cases tg <;> rfl
theorem QD.begin (h : QD f n G m) (ht : t < n) (hb : BTq f G m t b) (hk : Kq G.val tg b b') (hne : tqCode f tg ≠ []) : QD f n (G.upd t (G.nd t) (G.ls t) b.fl (some ⟨tg, 0, b.d⟩)) m := by
 refine h.rego ht hb.none' rfl rfl h.2.mks (fun _ _ => rfl) rfl rfl rfl (hb.la0 hk hne) hb.kp ?_ (fun c hc => ?_) (fun c hc ha => ?_) (fun hr => ?_)
 ·have h4 := hb.r4
  have hn := hb.nf
  cases tg with
  | put v =>
   obtain ⟨-, -, hv, hr, -⟩ := hk
   exact ⟨⟨hv, h4⟩, hn.2 hr⟩
  | drop => exact ⟨h4, hn.1 hk.2.1⟩
  | later => exact ⟨h4, hn.1 hk.2.1⟩
  | read => exact ⟨⟨h4, hn⟩, fun e => by omega⟩
  | empty => exact ⟨hn, h4⟩
  | _ => exact ⟨h4, hn⟩
 ·refine iff_of_true ?_ (hb.rt c hc)
  cases tg with
  | put v =>
   have := hb.nf.2 hk.2.2.2.1
   rw [this] at hc; cases hc
  | _ => exact trivial
 ·obtain ⟨h1, h2⟩ := hb.an c hc ha
  cases tg with
  | wait =>
   unfold An
   rw [Gq.upd_pt]
   exact stageq_zero f
  | empty =>
   have := hk.2.2.1
   rw [h1] at this; cases this
  | _ => exact An.any h2 rfl (fun e => nomatch e) (fun e => nomatch e)
 ·cases tg with
  | read => cases hr
  | _ => exact hr.elim
theorem QD.finish (h : QD f n G m) (ht : t < n) (hb : BTq f G m t b) (hd : b.d = 0) : QD f n (G.upd t (G.nd t) (G.ls t) b.fl none) m := by
 refine h.rego ht hb.none' rfl rfl h.2.mks (fun _ _ => rfl) rfl rfl rfl (fun e => by have := hb.bw e; rw [hd] at this; exact this) hb.kp ⟨hb.r4, hb.nf⟩ (fun c hc => iff_of_true trivial (hb.rt c hc)) (fun c hc ha => ?_) (fun hr => hr.elim)
 unfold An
 rw [Gq.upd_pt, Gq.upd_ls, Gq.upd_fl]
 exact (hb.an c hc ha).2
theorem BTq.skip (hb : BTq f G m t b) (hk : Kq V tg b b') (he : tqCode f tg = []) (hf : 1 <= f /\ f <= 4) : BTq f G m t b' := by
 have hf4 : f = 1 ∨ f = 2 ∨ f = 3 ∨ f = 4 := by omega
 have key : (tg = .enter ∨ tg = .leave) /\ f = 3 ∨ (tg = .rest ∨ tg = .gone) /\ f ≠ 3 := by
  cases tg <;> rcases hf4 with rfl | rfl | rfl | rfl <;> first | exact .inl ⟨.inl rfl, rfl⟩ | exact .inl ⟨.inr rfl, rfl⟩ | exact .inr ⟨.inl rfl, by decide⟩ | exact .inr ⟨.inr rfl, by decide⟩ | (cases he)
 rcases key with ⟨rfl | rfl, rfl⟩ | ⟨rfl | rfl, hf3⟩
 ·obtain ⟨hg, rfl⟩ := hk
  exact ⟨fun _ _ => hb.bw3 rfl hg, fun e => absurd rfl e, hb.none', hb.r4, hb.nf, hb.rt, fun c h1 h2 => ⟨rfl, (hb.an c h1 h2).2⟩, hb.kp⟩
 ·obtain ⟨hg, -, rfl⟩ := hk
  exact ⟨fun _ _ => hb.bw3 rfl hg, fun e => absurd rfl e, hb.none', hb.r4, hb.nf, hb.rt, fun c h1 h2 => ⟨rfl, (hb.an c h1 h2).2⟩, hb.kp⟩
 ·obtain ⟨hg, hd, rfl⟩ := hk
  exact ⟨fun e => absurd e hf3, fun e => by have := hb.bw e; rw [hd] at this; exact this, hb.none', hb.r4, hb.nf, hb.rt, fun c h1 h2 => ⟨rfl, (hb.an c h1 h2).2⟩, hb.kp⟩
 ·obtain ⟨hg, hd, rfl⟩ := hk
  exact ⟨fun e => absurd e hf3, fun e => by have := hb.bw e; rw [hd] at this; exact this, hb.none', hb.r4, hb.nf, hb.rt, fun c h1 h2 => ⟨rfl, (hb.an c h1 h2).2⟩, hb.kp⟩
theorem QD.behind (h : QD f n G m) (ht : t < n) (hp : G.pt t = some ⟨tg, (tqCode f tg).length, b.d⟩) (hfl : G.fl t = flq (some ⟨tg, (tqCode f tg).length, b.d⟩) b.fl) (hne : tqCode f tg ≠ []) (hk : Kq V tg b b') : BTq f G m t b' := by
 have L := la_at h ht hp
 have C := loc_at h ht hp
 have K := h.2.kep t ht
 have hf := h.1.fl
 have hf4 : f = 1 ∨ f = 2 ∨ f = 3 ∨ f = 4 := by omega
 have hno : tg ≠ .wait -> ¬ ∃ u, Olq G t u := h.noold ht hp
 -- what may have been found, where nothing else is said
 have han : tg ≠ .wait -> tg ≠ .empty -> ∀ c, An f G t c -> c ∈ G.ls t ∨ (G.fl t).w = false := fun e1 e2 c ha => by
  unfold An at ha
  rw [hp] at ha
  cases tg with
  | wait => exact absurd rfl e1
  | empty => exact absurd rfl e2
  | _ => exact ha
 cases tg with
 | enter =>
  obtain ⟨h3, L⟩ := L
  have hB : Bq f (t ∈ G.ch) t (b.d + 1) (ovq m t) := by
   rcases hf4 with rfl | rfl | rfl | rfl
   ·exact L
   ·exact L
   ·exact absurd rfl h3
   ·exact L
  obtain ⟨hg, rfl⟩ := hk
  have hfl : G.fl t = b.fl := hfl
  rw [hfl] at C K
  exact ⟨fun e => absurd e h3, fun _ => hB, hno (by decide), C.1, C.2, fun _ _ => by rw [hp]; exact trivial, fun c _ ha => ⟨rfl, by have := han (by decide) (by decide) c ha; rwa [hfl] at this⟩, K⟩
 | leave =>
  obtain ⟨h3, L⟩ := L
  have hB : Bq f (t ∈ G.ch) t (b.d - 1) (ovq m t) := by
   rcases hf4 with rfl | rfl | rfl | rfl
   ·exact L
   ·exact L
   ·exact absurd rfl h3
   ·exact L
  obtain ⟨hg, -, rfl⟩ := hk
  have hfl : G.fl t = b.fl := hfl
  rw [hfl] at C K
  exact ⟨fun e => absurd e h3, fun _ => hB, hno (by decide), C.1, C.2, fun _ _ => by rw [hp]; exact trivial, fun c _ ha => ⟨rfl, by have := han (by decide) (by decide) c ha; rwa [hfl] at this⟩, K⟩
 | rest =>
  obtain ⟨rfl, L⟩ := L
  obtain ⟨hg, -, rfl⟩ := hk
  have hfl : G.fl t = b.fl := hfl
  rw [hfl] at C K
  exact ⟨fun _ _ => L, fun e => absurd rfl e, hno (by decide), C.1, C.2, fun _ _ => by rw [hp]; exact trivial, fun c _ ha => ⟨rfl, by have := han (by decide) (by decide) c ha; rwa [hfl] at this⟩, K⟩
 | gone =>
  obtain ⟨rfl, L⟩ := L
  obtain ⟨hg, -, rfl⟩ := hk
  have hfl : G.fl t = b.fl := hfl
  rw [hfl] at C K
  exact ⟨fun _ e => (nomatch e), fun e => absurd rfl e, hno (by decide), C.1, C.2, fun _ _ => by rw [hp]; exact trivial, fun c _ ha => ⟨rfl, by have := han (by decide) (by decide) c ha; rwa [hfl] at this⟩, K⟩
 | wait =>
  obtain ⟨hd, L3, Ln, Sc⟩ := L
  obtain ⟨hg, -, rfl⟩ := hk
  have hfl : G.fl t = b.fl := hfl
  rw [hfl] at C K
  have hS : ∀ u, ¬ Olq G t u := by
   rcases hf4 with rfl | rfl | rfl | rfl
   ·exact Sc
   ·exact Sc
   ·exact Sc
   ·exact Sc
  refine ⟨fun e _ => ?_, Ln, fun ⟨u, hu⟩ => hS u hu, C.1, C.2, fun _ _ => by rw [hp]; exact trivial, fun c _ ha => ?_, K⟩
  ·subst e; exact L3 rfl
  ·exfalso
   unfold An at ha
   rw [hp] at ha
   have ha : stageq f (tqCode f .wait).length = 0 := ha
   rcases hf4 with rfl | rfl | rfl | rfl <;> cases ha
 | read =>
  obtain ⟨hg, -, rfl⟩ := hk
  have hfl : G.fl t = b.fl := hfl
  rw [hfl] at C K
  exact ⟨fun e _ => L.1.1 e, fun _ => L.1, hno (by decide), C.1.1, C.1.2, fun _ _ => by rw [hp]; exact trivial, fun c _ ha => ⟨rfl, by have := han (by decide) (by decide) c ha; rwa [hfl] at this⟩, K⟩
 | put v =>
  obtain ⟨L, hd⟩ := (show Bq f (t ∈ G.ch) t b.d (ovq m t) /\ b.d = 0 from L)
  obtain ⟨hg, -, -, -, rfl⟩ := hk
  have hfl : G.fl t = ⟨true, false, b.fl.k⟩ := hfl
  rw [hfl] at K
  rw [hd] at L
  exact ⟨fun e _ => L.1 e, fun _ => L, hno (fun e => nomatch e), C.1.2, ⟨fun _ => C.2, fun e => nomatch e⟩, fun _ _ => by rw [hp]; exact (by decide : 5 <= 6), fun c _ _ => ⟨rfl, .inr rfl⟩, K⟩
 | drop =>
  have L : Bq f (t ∈ G.ch) t b.d (ovq m t) := L
  obtain ⟨hg, -, -, rfl⟩ := hk
  have hfl : G.fl t = b.fl := hfl
  rw [hfl] at K
  have hn : G.nd t = none := C.2
  exact ⟨fun e _ => L.1 e, fun _ => L, hno (by decide), C.1, ⟨fun e => (nomatch e), fun _ => hn⟩, fun _ _ => by rw [hp]; exact trivial, fun c _ ha => ⟨rfl, by have := han (by decide) (by decide) c ha; rwa [hfl] at this⟩, K⟩
 | later =>
  have L : Bq f (t ∈ G.ch) t b.d (ovq m t) := L
  obtain ⟨hg, -, rfl⟩ := hk
  have hfl : G.fl t = ⟨b.fl.r, b.fl.w, true⟩ := hfl
  have hn : G.nd t = none := C.2
  exact ⟨fun e _ => L.1 e, fun _ => L, hno (by decide), C.1, ⟨fun e => (nomatch e), fun _ => hn⟩, fun _ _ => by rw [hp]; exact trivial, fun c _ ha => ⟨rfl, by have := han (by decide) (by decide) c ha; rwa [hfl] at this⟩, fun e => nomatch e⟩
 | empty =>
  have L : Bq f (t ∈ G.ch) t b.d (ovq m t) := L
  obtain ⟨hg, hd, -, rfl⟩ := hk
  have hfl : G.fl t = b.fl := hfl
  rw [hfl] at C
  rw [hd] at L
  obtain ⟨C1, C2, C3⟩ := C
  exact ⟨fun e _ => L.1 e, fun _ => L, hno (by decide), C2, C1, fun _ _ => by rw [hp]; exact trivial, fun c _ ha => (ha.emp hp).elim, fun _ => C3⟩
theorem QD.hops (h : QD f n G m) (ht : t < n) {L : List Ins} : ∀ (B : List Tq) (a : Nat) (b : Bk), BTq f G m t b -> DiscQ G.val e b B -> PsAt f L a B -> ∃ k g, QD f n (G.upd t (G.nd t) (G.ls t) k g) m /\ LocQ f G.val e L a k g
 | [], a, b, hb, hd, hp => ⟨b.fl, none, h.finish ht hb hd.1, hp, hd.2⟩
 | tg :: B, a, b, hb, hd, hp => by
  obtain ⟨h100, b', hk, hd'⟩ := hd
  by_cases he : tqCode f tg = []
  ·have hp' : PsAt f L a B := by
    have := hp.2
    rwa [he] at this
   exact QD.hops h ht B a b' (hb.skip hk he h.1.fl) hd' hp'
  ·exact ⟨b.fl, some ⟨tg, 0, b.d⟩, h.begin ht hb hk he, a, B, b, b', hp.1, rfl, List.length_pos_iff.2 he, hk, rfl, h100, (flq_zero _ _).symm, hd', hp.2⟩
end
end
section
open Go.RowKit
theorem hExec_pc (m : Mk) (t : Nat) (tg : Tq) (q : Nat) (i : GI) : (hExec m t tg q i).pc = m.pc := by
 unfold hExec
 split
 ·unfold Mk.mark; split <;> rfl
 ·exact qExec_pc m t i
theorem tq_ok {f : Nat} (hf : 1 <= f /\ f <= 4) (tg : Tq) : gOk (tqCode f tg) = true := by
 have hf4 : f = 1 ∨ f = 2 ∨ f = 3 ∨ f = 4 := by omega
 rcases hf4 with rfl | rfl | rfl | rfl <;> cases tg <;> rfl
def GoodQ (f n : Nat) (V : Int -> Prop) (ends : Nat -> Fl) (cs : Nat -> List Ins) (m : Mk) : Prop := ∃ G, QD f n G m /\ G.val = V /\ ∀ t, t < n -> LocQ f V (ends t) (cs t) (m.pc t) (G.fl t) (G.pt t)
section
variable {f n : Nat} {V : Int -> Prop} {ends : Nat -> Fl} {cs : Nat -> List Ins} {m : Mk} {t : Nat}
theorem GoodQ.step (h : GoodQ f n V ends cs m) (hwd : ∀ c k, Wd (m.mem.ar.words c k)) (ht : t < n) (hd : doneAt (cs t) (m.pc t) = false) : GoodQ f n V ends cs (m.step (cs t) t) := by
 obtain ⟨G, hP, rfl, hL⟩ := h
 have hl := hL t ht
 cases hg : G.pt t with
 | none =>
  rw [hg] at hl
  rw [hl.1] at hd; cases hd
 | some p =>
  obtain ⟨tg, q, d⟩ := p
  rw [hg] at hl
  obtain ⟨a, B, b, b', hat, hpc, hq, hk, rfl, h100, hfl, hdisc, hps⟩ := hl
  obtain ⟨i, hi⟩ : ∃ i, (tqCode f tg)[q]? = some i := ⟨_, List.getElem?_eq_getElem hq⟩
  have hok := tq_ok hP.1.fl tg
  obtain ⟨-, hst⟩ := hat q i hi m t hpc
  rw [hst]
  generalize hm1 : m.setPc t (a + gNext (tqCode f tg) q (m.regs t) i) = m1
  have hP1 : QD f n G m1 := hP.congr (by rw [<- hm1]; rfl) (by rw [<- hm1]; rfl) (by rw [<- hm1]; rfl) (by rw [<- hm1]; rfl)
  have hr1 : m1.regs t = m.regs t := by rw [<- hm1]; rfl
  have hpc1 : ∀ u, m1.pc u = if u = t then a + gNext (tqCode f tg) q (m.regs t) i else m.pc u := fun u => by rw [<- hm1]; rfl
  obtain ⟨G', hG', hpt, hot, -, hv, hfo, hft⟩ := qown_all hP1 (by rw [<- hm1]; exact hwd) ht h100 (fun e => by subst e; rw [hfl]; exact hk.2.2.1) hg hi
  rw [hr1] at hpt hft
  have hq' := qNext_le (m.regs t) hok hi
  have hpcs : ∀ u, (hExec m1 t tg q i).pc u = if u = t then a + gNext (tqCode f tg) q (m.regs t) i else m.pc u := fun u => by rw [hExec_pc]; exact hpc1 u
  have hfl2 : G'.fl t = flq (some ⟨tg, gNext (tqCode f tg) q (m.regs t) i, b.d⟩) b.fl := by
   rw [hft, hfl]
   generalize hk1 : b.fl = k1
   cases tg with
   | put v =>
    have hq6 : q < 6 := hq
    by_cases h5 : 5 <= q
    ·have : q = 5 := by omega
     subst this
     have e : GI.label 0 = i := Option.some.inj hi
     subst e; rfl
    ·rw [show flq (some ⟨.put v, q, b.d⟩) k1 = k1 from if_neg h5]
   | later =>
    have hq6 : q < 4 := hq
    by_cases h5 : 3 <= q
    ·have : q = 3 := by omega
     subst this
     have e : GI.label 0 = i := Option.some.inj hi
     subst e; rfl
    ·rw [show flq (some ⟨.later, q, b.d⟩) k1 = k1 from if_neg h5]
   | _ => rfl
  generalize gNext (tqCode f tg) q (m.regs t) i = q' at *
  generalize hExec m1 t tg q i = m2 at *
  have hothers : ∀ (G2 : Gq), (∀ u, u ≠ t -> G2.pt u = G'.pt u /\ G2.fl u = G'.fl u) -> ∀ u, u < n -> u ≠ t -> LocQ f G.val (ends u) (cs u) (m2.pc u) (G2.fl u) (G2.pt u) := fun G2 h2 u hu e => by
   rw [(h2 u e).1, (h2 u e).2, hot u e, hfo u e, hpcs u, if_neg e]; exact hL u hu
  by_cases hlt : q' < (tqCode f tg).length
  ·refine ⟨G', hG', hv, fun u hu => ?_⟩
   by_cases e : u = t
   ·subst e
    rw [hpt, hpcs u, if_pos rfl]
    exact ⟨a, B, b, b', hat, rfl, hlt, hk, rfl, h100, hfl2, hdisc, hps⟩
   ·exact hothers G' (fun _ _ => ⟨rfl, rfl⟩) u hu e
  ·have e : q' = (tqCode f tg).length := by omega
   subst e
   have hne : tqCode f tg ≠ [] := fun e => by rw [e] at hq; exact absurd hq (Nat.not_lt_zero _)
   have hb := hG'.behind ht hpt hfl2 hne hk
   obtain ⟨k, g, hg1, hg2⟩ := hG'.hops (e := ends t) ht (L := cs t) B (a + (tqCode f tg).length) b' hb (by rw [hv]; exact hdisc) hps
   refine ⟨_, hg1, hv, fun u hu => ?_⟩
   by_cases e : u = t
   ·subst e
    rw [Gq.upd_pt, Gq.upd_fl, hpcs u, if_pos rfl]
    rw [hv] at hg2
    exact hg2
   ·exact hothers _ (fun u hu => ⟨Gq.upd_ptn hu, Gq.upd_fln hu⟩) u hu e
theorem GoodQ.drain1 (h : GoodQ f n V ends cs m) (ht : t < n) : GoodQ f n V ends cs (m.drain1 t) := by
 obtain ⟨G, hP, hv, hL⟩ := h
 exact ⟨G, hP.drain1 ht, hv, fun u hu => by rw [(drain1_regs m t).2]; exact hL u hu⟩
theorem GoodQ.turnO {Cs : List (List Ins)} {K : Nat} (h : GoodQ f n V ends cs m) (ok : MkOk Cs.length K m) (hn : Cs.length = n) (hcs : ∀ t, t < n -> Cs[t]? = some (cs t)) (k : Int) : GoodQ f n V ends cs (m.turnO Cs k).2 := by
 unfold Mk.turnO
 split
 ·generalize k % (2 * (Cs.length : Int)) = x
  unfold Mk.stepO
  split
  ·rename_i hx
   have ht : x.toNat < n := by omega
   have e : Cs.getD x.toNat [] = cs x.toNat := by rw [List.getD_eq_getElem?_getD, hcs _ ht]; rfl
   rw [e]
   split
   ·exact h
   ·rename_i hd
    exact h.step ok.mem.words ht (by simpa using hd)
  ·exact h
 ·generalize k % (2 * (Cs.length : Int)) - Cs.length = x
  unfold Mk.drainO
  split
  ·rename_i hx
   have ht : x.toNat < n := by omega
   split
   ·exact h
   ·exact h.drain1 ht
  ·exact h
theorem GoodQ.runO {Cs : List (List Ins)} (hR : Right Cs) (hn : Cs.length = n) (hcs : ∀ t, t < n -> Cs[t]? = some (cs t)) : ∀ (l : List Int) {K : Nat} {m : Mk}, GoodQ f n V ends cs m -> MkOk Cs.length K m -> K + l.length <= 60000000 -> GoodQ f n V ends cs (m.runO Cs l).2
 | [], _, _, h, _, _ => h
 | k :: l, K, m, h, ok, hK => by
  rw [List.length_cons] at hK
  exact GoodQ.runO hR hn hcs l (h.turnO ok hn hcs k) (ok.turnO hR k (by omega)) (by omega)
theorem GoodQ.faults (h : GoodQ f n V ends cs m) : m.faults = 0 := by
 obtain ⟨G, hP, -⟩ := h
 exact hP.2.ok
theorem GoodQ.marks (h : GoodQ f n V ends cs m) : ∀ x ∈ m.marks, V x.2 := by
 obtain ⟨G, hP, rfl, -⟩ := h
 exact hP.2.mks
end
end
end Go.Proofs.YtaiigfcfmcicjaaGreatDoor
