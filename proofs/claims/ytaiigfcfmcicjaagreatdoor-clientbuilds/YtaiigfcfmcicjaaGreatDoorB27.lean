import Derived.Test.YtaiigfcfmcicjaaGreatDoorB26

/- GcK -/
namespace Go.Proofs.YtaiigfcfmcicjaaGreatDoor
open Go.RowKit

def Sx (f n : Nat) (G : Gh) (t : Nat) (g : Option Pt) (m' : Mk) : Prop := ∃ G', PD f n G' m' ∧ G'.pt t = g ∧ (∀ u, u ≠ t → G'.pt u = G.pt u) ∧ (G'.ch = G.ch ∨ (G'.ch = G.ch ++ [t] ∧ ∃ q d, g = some ⟨.enter, q, d⟩))
def rg (m : Mk) (t r : Nat) (v : Int) : Nat → Int := fun j => if j = r then v else m.regs t j

section
variable {f n : Nat} {G : Gh} {m m' : Mk} {t : Nat} {tg : Tg} {q d q' : Nat}
theorem Gh.at_same (G : Gh) (t : Nat) : G.at' t (G.pt t) = G := by
  unfold Gh.at'
  have : (fun u => if u = t then G.pt t else G.pt u) = G.pt := by
    funext u
    by_cases e : u = t
    · rw [if_pos e, e]
    · rw [if_neg e]
  rw [this]
theorem PD.congr (h : PD f n G m) (ht : t < n) (e1 : m'.mem = m.mem) (e2 : m'.regs = m.regs) (e3 : m'.faults = m.faults) : PD f n G m' := by
  have := h.reg (m' := m') ht (g := G.pt t) e1 e3 (fun u _ => by rw [e2]) (fun _ => by rw [e2]) (fun hr => .inl ⟨by rw [e2], hr⟩) (by rw [e2]) (by rw [e2]) (by rw [e2]) (by rw [e2]; exact h.1.la t ht)
    (fun ⟨u, hu⟩ => (h.1.old t u ht hu).2.1) rfl .inl (fun d hd => by rw [e2]; exact h.2.r4 t d ht hd) (fun v q d hd => by rw [e2]; exact h.2.new4 t v q d ht hd)
  rwa [Gh.at_same] at this
theorem Sx.of (h : PD f n (G.at' t (some ⟨tg, q', d⟩)) m') : Sx f n G t (some ⟨tg, q', d⟩) m' := ⟨_, h, Gh.at_self _ _ _, fun _ hu => Gh.at_ne _ _ hu, .inl rfl⟩

theorem rg_regs (m : Mk) (t r : Nat) (v : Int) : (m.setReg t r v).regs t = rg m t r v := by
  funext j
  exact setReg_reg m t r v j
theorem PD.sreg (h : PD f n G m) (ht : t < n) (hg : isG tg) (hp : G.pt t = some ⟨tg, q, d⟩) {r : Nat} {v : Int} (hr : r ≤ 2) (hla : La f G.ch (Ol G t) (sh m) t (ov m t) (rg m t r v) (some ⟨tg, q', d⟩)) (hs : tg = .wait → stage f q = 0 → stage f q' = 0) :
    Sx f n G t (some ⟨tg, q', d⟩) (m.setReg t r v) :=
  Sx.of (h.greg ht hg hp rfl rfl (fun u hu => setReg_other _ _ _ _ hu) (fun k hk => by rw [setReg_reg, if_neg (by omega)]) (by rw [rg_regs]; exact hla) hs)
theorem PD.sno (h : PD f n G m) (ht : t < n) (hg : isG tg) (hp : G.pt t = some ⟨tg, q, d⟩) (hla : La f G.ch (Ol G t) (sh m) t (ov m t) (m.regs t) (some ⟨tg, q', d⟩)) (hs : tg = .wait → stage f q = 0 → stage f q' = 0) :
    Sx f n G t (some ⟨tg, q', d⟩) m :=
  Sx.of (h.greg ht hg hp rfl rfl (fun _ _ => rfl) (fun _ _ => rfl) hla hs)
theorem PD.sload (h : PD f n G m) (ht : t < n) (hg : isG tg) (hp : G.pt t = some ⟨tg, q, d⟩) {r k : Nat} (hr : r ≤ 2) (hla : La f G.ch (Ol G t) (sh m) t (ov m t) (rg m t r (ov m t k)) (some ⟨tg, q', d⟩)) (hs : tg = .wait → stage f q = 0 → stage f q' = 0) :
    Sx f n G t (some ⟨tg, q', d⟩) (m.load t r (m.regs t 6) k) := by
  obtain ⟨L, g0, r0⟩ := h.1.own ht
  rw [h.1.r6 t ht, ← r0, load_live L]
  refine h.sreg ht hg hp hr ?_ hs
  rw [g0]; exact hla
theorem PD.sfar (h : PD f n G m) (ht : t < n) (hg : isG tg) (hp : G.pt t = some ⟨tg, q, d⟩) {r c k : Nat} {v : Int} (hc : c ≤ n + 1) (hv : v = (c : Int) + 1) (hw : ∀ x ∈ m.mem.waits t, ¬ (x.c = (c : Int) ∧ x.w = (k : Int))) (hr : r ≤ 2) (hla : La f G.ch (Ol G t) (sh m) t (ov m t) (rg m t r (m.mem.ar.words c k)) (some ⟨tg, q', d⟩)) (hs : tg = .wait → stage f q = 0 → stage f q' = 0) :
    Sx f n G t (some ⟨tg, q', d⟩) (m.load t r v k) := by
  obtain ⟨L, g0, r0⟩ := h.1.cell hc
  rw [hv, ← r0, load_live L]
  refine h.sreg ht hg hp hr ?_ hs
  have : vw m t c (gn m c) k = m.mem.ar.words c k := by
    unfold vw
    exact foldl_none (fun x hx e => hw x hx ⟨e.1, e.2.2⟩)
  rw [this]; exact hla
theorem PD.shub (h : PD f n G m) (ht : t < n) (hg : isG tg) (hp : G.pt t = some ⟨tg, q, d⟩) {r k : Nat} (hr : r ≤ 2) (hla : La f G.ch (Ol G t) (sh m) t (ov m t) (rg m t r (m.mem.ar.words 0 k)) (some ⟨tg, q', d⟩)) (hs : tg = .wait → stage f q = 0 → stage f q' = 0) :
    Sx f n G t (some ⟨tg, q', d⟩) (m.load t r (m.regs t 7) k) := by
  refine h.sfar ht hg hp (c := 0) (by omega) (by rw [h.1.r7 t ht]; rfl) (fun x hx e => ?_) hr hla hs
  rcases (h.1.wts t ht x hx).2 with ⟨h1, -⟩ | h1 <;> (have := e.1; omega)
theorem room_mem_sh {C : List Nat} {O O' : Nat → Prop} {s s' V r : Nat → Int} (hne : tg ≠ .wait) (h : La f C O s t V r (some ⟨tg, q, d⟩)) : La f C O' s' t V r (some ⟨tg, q, d⟩) := by
  cases tg with
  | wait => exact absurd rfl hne
  | _ => exact h
theorem PD.sstore (h : PD f n G m) (ht : t < n) (hg : isG tg) (hne : tg ≠ .wait) (hp : G.pt t = some ⟨tg, q, d⟩) {r k : Nat} (hk0 : k = 0 → f = 2) (hk1 : k = 1 → f = 4 ∧ t ∉ G.ch)
    (hla : La f G.ch (Ol G t) (sh m) t (fun j => if j = k then m.regs t r else ov m t j) (m.regs t) (some ⟨tg, q', d⟩)) : Sx f n G t (some ⟨tg, q', d⟩) (m.store t (m.regs t 6) k (m.regs t r)) := by
  obtain ⟨L, g0, r0⟩ := h.1.own ht
  rw [h.1.r6 t ht, ← r0, store_live L, r0]
  have h2 := (h.room ht).put ht (k := k) (v := m.regs t r) (b := decide (k = 0)) hg hp (fun e => ⟨decide_eq_true e, hk0 e⟩) hk1 (q' := q') (by
    rw [h.room_ov ht ht, (room_regs m t).1]
    exact room_mem_sh hne hla) (fun e => absurd e hne)
  exact ⟨_, h2, Gh.at_self _ _ _, fun u hu => Gh.at_ne _ _ hu, .inl rfl⟩
theorem PD.sswap (h : PD f n G m) (ht : t < n) (hg : isG tg) (hp : G.pt t = some ⟨tg, q, d⟩) {k : Nat} {b : Bool} (hk : k = 0 ∧ b = true ∨ k = 3)
    (hla : ∀ s, La f G.ch (Ol (G.cl b t) t) s t (fun j => if j = k then m.regs t 0 else ov m t j) (rg m t 0 (ov m t k)) (some ⟨tg, q', d⟩)) (hs : tg = .wait → stage f q = 0 → stage f q' = 0) : Sx f n G t (some ⟨tg, q', d⟩) (m.swap t 0 (m.regs t 6) k (m.regs t 0)) := by
  obtain ⟨L, g0, r0⟩ := h.1.own ht
  have hF := h.fence ht
  have hw : (m.fence t).mem.waits t = [] := Rm.drainAll_waits _ _ _ rfl
  have ho := h.fence_ov ht ht
  have e : m.swap t 0 (m.regs t 6) k (m.regs t 0) = ((m.fence t).setWord ((t : Int) + 2) k (m.regs t 0)).setReg t 0 (ov m t k) := by
    unfold Mk.swap
    rw [h.1.r6 t ht, ← r0, if_pos L.names]
    congr 1
    unfold Mk.word
    rw [(rf_cell L).1, Int.toNat_natCast, Int.toNat_natCast, ← ho, ov_none hw]
  rw [e]
  have h2 := hF.setown ht hw (k := k) (v := m.regs t 0) (w0 := ov m t k) (b := b) hg hp (q' := q') hk (by rw [ho]; exact hla _) hs
  exact ⟨_, h2, Gh.at_self _ _ _, fun u hu => Gh.at_ne _ _ hu, .inl rfl⟩
theorem PD.snum (h : PD f n G m) (ht : t < n) (hp : G.pt t = some ⟨.wait, q, d⟩) (hr1 : m.regs t 1 = (2 + m.regs t 0) % 4294967296)
    (hla : ∀ w0, La f G.ch (Ol G t) (sh (m.fence t)) t (ov m t) (rg m t 0 w0) (some ⟨.wait, q', d⟩)) (hs : stage f q = 0 → stage f q' = 0) : Sx f n G t (some ⟨.wait, q', d⟩) (m.cas t 0 (m.regs t 7) 0 (m.regs t 0) (m.regs t 1)) := by
  obtain ⟨L, g0, r0⟩ := h.1.cell (show 0 ≤ n + 1 by omega)
  have hF := h.fence ht
  have ho := h.fence_ov ht ht
  have hb := hF.1.hub
  have r0 : rf m 0 = 1 := by rw [r0]; rfl
  have e : m.cas t 0 (m.regs t 7) 0 (m.regs t 0) (m.regs t 1) = ((m.fence t).setWord 1 0 (casV ((m.fence t).mem.ar.words 0 0) (m.regs t 0) (m.regs t 1))).setReg t 0 ((m.fence t).mem.ar.words 0 0) := by
    unfold Mk.cas
    rw [h.1.r7 t ht, if_pos (by rw [← r0]; exact L.names)]
    rfl
  rw [e]
  refine Sx.of (hF.hub0 ht (v := casV ((m.fence t).mem.ar.words 0 0) (m.regs t 0) (m.regs t 1)) ?_ hp (by rw [ho]; exact hla _) hs)
  unfold casV
  split
  · rename_i h1
    rw [hr1, ← h1]; omega
  · exact hb
theorem PD.slink (h : PD f n G m) (ht : t < n) (hf : f = 4) (hnj : t ∉ G.ch) (hp : G.pt t = some ⟨.enter, q, d⟩) (hr1 : m.regs t 1 = (t : Int) + 2) (hv : ov m t 1 = m.regs t 0)
    (hyes : La f (G.ch ++ [t]) (Ol G t) (sh m) t (ov m t) (rg m t 0 (m.regs t 0)) (some ⟨.enter, q', d⟩)) (hno : ∀ w0, w0 ≠ m.regs t 0 → La f G.ch (Ol G t) (sh m) t (ov m t) (rg m t 0 w0) (some ⟨.enter, q', d⟩)) :
    Sx f n G t (some ⟨.enter, q', d⟩) (m.cas t 0 (m.regs t 7) 1 (m.regs t 0) (m.regs t 1)) := by
  obtain ⟨L, g0, r0⟩ := h.1.cell (show 0 ≤ n + 1 by omega)
  have hF := h.fence ht
  have hw : (m.fence t).mem.waits t = [] := Rm.drainAll_waits _ _ _ rfl
  have ho := h.fence_ov ht ht
  have r0 : rf m 0 = 1 := by rw [r0]; rfl
  have e : m.cas t 0 (m.regs t 7) 1 (m.regs t 0) (m.regs t 1) = ((m.fence t).setWord 1 1 (casV ((m.fence t).mem.ar.words 0 1) (m.regs t 0) (m.regs t 1))).setReg t 0 ((m.fence t).mem.ar.words 0 1) := by
    unfold Mk.cas
    rw [h.1.r7 t ht, if_pos (by rw [← r0]; exact L.names)]
    rfl
  rw [e]
  by_cases hc : (m.fence t).mem.ar.words 0 1 = m.regs t 0
  · have e2 : casV ((m.fence t).mem.ar.words 0 1) (m.regs t 0) (m.regs t 1) = (t : Int) + 2 := by unfold casV; rw [if_pos hc, hr1]
    rw [e2, hc]
    have h2 := hF.link ht hw hf hnj (by rw [hc, ho, hv]) (w0 := m.regs t 0) hp (q' := q') (by rw [ho]; exact room_mem_sh (by decide) hyes)
    exact ⟨_, h2, Gh.at_self _ _ _, fun u hu => Gh.at_ne _ _ hu, .inr ⟨rfl, _, _, rfl⟩⟩
  · have e2 : casV ((m.fence t).mem.ar.words 0 1) (m.regs t 0) (m.regs t 1) = (m.fence t).mem.ar.words 0 1 := by unfold casV; rw [if_neg hc]
    rw [e2]
    have e3 : (m.fence t).setWord 1 1 ((m.fence t).mem.ar.words 0 1) = m.fence t := by
      have : (fun j i => if j = 0 ∧ i = 1 then (m.fence t).mem.ar.words 0 1 else (m.fence t).mem.ar.words j i) = (m.fence t).mem.ar.words := by
        funext j i
        by_cases e : j = 0 ∧ i = 1
        · rw [if_pos e, e.1, e.2]
        · rw [if_neg e]
      show { m.fence t with mem := { (m.fence t).mem with ar := { (m.fence t).mem.ar with words := fun j i => if j = 0 ∧ i = 1 then (m.fence t).mem.ar.words 0 1 else (m.fence t).mem.ar.words j i } } } = m.fence t
      rw [this]
    rw [e3]
    refine hF.sreg ht (tg := .enter) trivial hp (by decide) ?_ (fun e => by cases e)
    rw [ho]
    exact room_mem_sh (by decide) (hno _ hc)
end
end Go.Proofs.YtaiigfcfmcicjaaGreatDoor

/- GcL -/
namespace Go.Proofs.YtaiigfcfmcicjaaGreatDoor
open Go.RowKit

section
variable {f : Nat} {J : Prop} {t d : Nat} {V : Nat → Int}
theorem Bs.zero (h : Bs f J t d V) (hf : f ≠ 3) (h0 : V 0 = 0) : d = 0 := by
  rcases Nat.eq_zero_or_pos d with e | e
  · exact e
  · exact absurd h0 ((h.2.1 hf).2 e).1
theorem Bs.pos (h : Bs f J t d V) (hf : f ≠ 3) (h0 : V 0 ≠ 0) : 0 < d := by
  rcases Nat.eq_zero_or_pos d with e | e
  · exact absurd ((h.2.1 hf).1 e).1 h0
  · exact e
theorem Bs.two (h : Bs f J t d V) (hf : f ≠ 3) (hd : 0 < d) : V 2 = (d : Int) - 1 := ((h.2.1 hf).2 hd).2
theorem Bs.jn (h : Bs f J t d V) (hd : 0 < d) (h4 : f = 4) : J := by
  rcases Classical.em J with e | e
  · exact e
  · have := ((h.2.2 h4).2 e).2; omega
theorem Bs.set2 (h : Bs f J t d V) (hf : f ≠ 3) (hd : 0 < d) {e : Nat} {r : Int} (he : 0 < e) (hr : r = (e : Int) - 1) : Bs f J t e (fun j => if j = 2 then r else V j) := by
  refine ⟨fun h3 => absurd h3 hf, fun _ => ⟨fun e0 => by omega, fun _ => ⟨((h.2.1 hf).2 hd).1, hr⟩⟩, fun h4 => ⟨fun hJ => (h.2.2 h4).1 hJ, fun hJ => absurd (h.jn hd h4) hJ⟩⟩
theorem Bs.in' (h : Bs f J t d V) (hf : f ≠ 3) (hd : d = 0) {r : Int} (hr : r ≠ 0) (hJ : f = 4 → J) : Bs f J t (d + 1) (fun j => if j = 0 then r else V j) := by
  refine ⟨fun h3 => absurd h3 hf, fun _ => ⟨fun e0 => by omega, fun _ => ⟨hr, ?_⟩⟩, fun h4 => ⟨fun hj => (h.2.2 h4).1 hj, fun hj => absurd (hJ h4) hj⟩⟩
  show V 2 = ((d + 1 : Nat) : Int) - 1
  rw [((h.2.1 hf).1 hd).2, hd]; rfl
theorem Bs.out' (h : Bs f J t d V) (hf : f ≠ 3) (hd : d = 1) {r : Int} (hr : r = 0) : Bs f J t (d - 1) (fun j => if j = 0 then r else V j) := by
  refine ⟨fun h3 => absurd h3 hf, fun _ => ⟨fun _ => ⟨hr, ?_⟩, fun e0 => by omega⟩, fun h4 => ⟨fun hj => (h.2.2 h4).1 hj, fun hj => absurd (h.jn (by omega) h4) hj⟩⟩
  show V 2 = 0
  rw [h.two hf (by omega), hd]; rfl
end

theorem gg_enter : isG .enter := trivial
theorem gg_leave : isG .leave := trivial
theorem gg_rest : isG .rest := trivial
theorem gg_gone : isG .gone := trivial
theorem gg_wait : isG .wait := trivial

section
variable {n : Nat} {G : Gh} {m : Mk} {t : Nat} {q d : Nat} {i : GI}

theorem own_enter1 (h : PD 1 n G m) (ht : t < n) (hp : G.pt t = some ⟨.enter, q, d⟩) (hd : d ≤ 100) (hi : (gEnter 1)[q]? = some i) : Sx 1 n G t (some ⟨.enter, gNext (gEnter 1) q (m.regs t) i, d⟩) (gExec m t i) := by
  have L := h.1.la t ht
  rw [hp] at L
  have L := L.2
  have r6 := h.1.r6 t ht
  match q, hp, hi, L with
  | 0, hp, hi, L =>
    have e : GI.load 0 6 0 = i := Option.some.inj hi
    subst e
    exact h.sload ht gg_enter hp (q' := 1) (by decide) ⟨by decide, L, rfl⟩ (fun e => by cases e)
  | 1, hp, hi, L =>
    have e : GI.zero 0 2 = i := Option.some.inj hi
    subst e
    show Sx 1 n G t (some ⟨.enter, if m.regs t 0 = 0 then gAt 2 (gEnter 1) else 2, d⟩) m
    by_cases hz : m.regs t 0 = 0
    · rw [if_pos hz]
      exact h.sno ht gg_enter hp (q' := 7) ⟨by decide, L.1, L.1.zero (by decide) (by rw [← L.2]; exact hz)⟩ (fun e => by cases e)
    · rw [if_neg hz]
      exact h.sno ht gg_enter hp (q' := 2) ⟨by decide, L.1, L.1.pos (by decide) (by rw [← L.2]; exact hz)⟩ (fun e => by cases e)
  | 2, hp, hi, L =>
    have e : GI.load 0 6 2 = i := Option.some.inj hi
    subst e
    exact h.sload ht gg_enter hp (q' := 3) (by decide) ⟨by decide, L.1, L.2, rfl⟩ (fun e => by cases e)
  | 3, hp, hi, L =>
    have e : GI.const 1 1 = i := Option.some.inj hi
    subst e
    exact h.sreg ht gg_enter hp (q' := 4) (by decide) ⟨by decide, L.1, L.2.1, L.2.2, rfl⟩ (fun e => by cases e)
  | 4, hp, hi, L =>
    have e : GI.add 0 0 1 = i := Option.some.inj hi
    subst e
    refine h.sreg ht gg_enter hp (q' := 5) (by decide) ⟨by decide, L.1, L.2.1, ?_⟩ (fun e => by cases e)
    show (m.regs t 0 + m.regs t 1) % 4294967296 = ov m t 2 + 1
    rw [L.2.2.1, L.2.2.2, L.1.two (by decide) L.2.1]
    omega
  | 5, hp, hi, L =>
    have e : GI.store 6 0 2 = i := Option.some.inj hi
    subst e
    exact h.sstore ht gg_enter (by decide) hp (q' := 6) (fun e => absurd e (by decide)) (fun e => absurd e (by decide)) ⟨by decide, L.1.set2 (by decide) L.2.1 (Nat.succ_pos _) (by rw [L.2.2, L.1.two (by decide) L.2.1]; omega)⟩
  | 6, hp, hi, L =>
    have e : GI.goto 1 = i := Option.some.inj hi
    subst e
    exact h.sno ht gg_enter hp (q' := 10) ⟨by decide, L⟩ (fun e => by cases e)
  | 7, hp, hi, L =>
    have e : GI.label 2 = i := Option.some.inj hi
    subst e
    exact h.sno ht gg_enter hp (q' := 8) ⟨by decide, L⟩ (fun e => by cases e)
  | 8, hp, hi, L =>
    have e : GI.load 0 7 0 = i := Option.some.inj hi
    subst e
    exact h.shub ht gg_enter hp (q' := 9) (by decide) ⟨by decide, L.1, L.2, fun e => by have := h.1.hub; have e : m.mem.ar.words 0 0 = 0 := e; omega⟩ (fun e => by cases e)
  | 9, hp, hi, L =>
    have e : GI.swap 0 6 0 = i := Option.some.inj hi
    subst e
    exact h.sswap ht gg_enter hp (q' := 10) (b := true) (.inl ⟨rfl, rfl⟩) (fun _ => ⟨by decide, L.1.in' (by decide) L.2.1 L.2.2 (fun e => absurd e (by decide))⟩) (fun e => by cases e)
  | 10, hp, hi, L =>
    have e : GI.label 1 = i := Option.some.inj hi
    subst e
    exact h.sno ht gg_enter hp (q' := 11) ⟨by decide, L⟩ (fun e => by cases e)
  | k + 11, hp, hi, L => exact nomatch (show (none : Option GI) = some i from hi)

theorem own_enter2 (h : PD 2 n G m) (ht : t < n) (hp : G.pt t = some ⟨.enter, q, d⟩) (hd : d ≤ 100) (hi : (gEnter 2)[q]? = some i) : Sx 2 n G t (some ⟨.enter, gNext (gEnter 2) q (m.regs t) i, d⟩) (gExec m t i) := by
  have L := h.1.la t ht
  rw [hp] at L
  have L := L.2
  have r6 := h.1.r6 t ht
  match q, hp, hi, L with
  | 0, hp, hi, L =>
    have e : GI.load 0 6 0 = i := Option.some.inj hi
    subst e
    exact h.sload ht gg_enter hp (q' := 1) (by decide) ⟨by decide, L, rfl⟩ (fun e => by cases e)
  | 1, hp, hi, L =>
    have e : GI.zero 0 2 = i := Option.some.inj hi
    subst e
    show Sx 2 n G t (some ⟨.enter, if m.regs t 0 = 0 then gAt 2 (gEnter 2) else 2, d⟩) m
    by_cases hz : m.regs t 0 = 0
    · rw [if_pos hz]
      exact h.sno ht gg_enter hp (q' := 7) ⟨by decide, L.1, L.1.zero (by decide) (by rw [← L.2]; exact hz)⟩ (fun e => by cases e)
    · rw [if_neg hz]
      exact h.sno ht gg_enter hp (q' := 2) ⟨by decide, L.1, L.1.pos (by decide) (by rw [← L.2]; exact hz)⟩ (fun e => by cases e)
  | 2, hp, hi, L =>
    have e : GI.load 0 6 2 = i := Option.some.inj hi
    subst e
    exact h.sload ht gg_enter hp (q' := 3) (by decide) ⟨by decide, L.1, L.2, rfl⟩ (fun e => by cases e)
  | 3, hp, hi, L =>
    have e : GI.const 1 1 = i := Option.some.inj hi
    subst e
    exact h.sreg ht gg_enter hp (q' := 4) (by decide) ⟨by decide, L.1, L.2.1, L.2.2, rfl⟩ (fun e => by cases e)
  | 4, hp, hi, L =>
    have e : GI.add 0 0 1 = i := Option.some.inj hi
    subst e
    refine h.sreg ht gg_enter hp (q' := 5) (by decide) ⟨by decide, L.1, L.2.1, ?_⟩ (fun e => by cases e)
    show (m.regs t 0 + m.regs t 1) % 4294967296 = ov m t 2 + 1
    rw [L.2.2.1, L.2.2.2, L.1.two (by decide) L.2.1]
    omega
  | 5, hp, hi, L =>
    have e : GI.store 6 0 2 = i := Option.some.inj hi
    subst e
    exact h.sstore ht gg_enter (by decide) hp (q' := 6) (fun e => absurd e (by decide)) (fun e => absurd e (by decide)) ⟨by decide, L.1.set2 (by decide) L.2.1 (Nat.succ_pos _) (by rw [L.2.2, L.1.two (by decide) L.2.1]; omega)⟩
  | 6, hp, hi, L =>
    have e : GI.goto 1 = i := Option.some.inj hi
    subst e
    exact h.sno ht gg_enter hp (q' := 10) ⟨by decide, L⟩ (fun e => by cases e)
  | 7, hp, hi, L =>
    have e : GI.label 2 = i := Option.some.inj hi
    subst e
    exact h.sno ht gg_enter hp (q' := 8) ⟨by decide, L⟩ (fun e => by cases e)
  | 8, hp, hi, L =>
    have e : GI.load 0 7 0 = i := Option.some.inj hi
    subst e
    exact h.shub ht gg_enter hp (q' := 9) (by decide) ⟨by decide, L.1, L.2, fun e => by have := h.1.hub; have e : m.mem.ar.words 0 0 = 0 := e; omega⟩ (fun e => by cases e)
  | 9, hp, hi, L =>
    have e : GI.store 6 0 0 = i := Option.some.inj hi
    subst e
    exact h.sstore ht gg_enter (by decide) hp (q' := 10) (fun _ => rfl) (fun e => absurd e (by decide)) ⟨by decide, L.1.in' (by decide) L.2.1 L.2.2 (fun e => absurd e (by decide))⟩
  | 10, hp, hi, L =>
    have e : GI.label 1 = i := Option.some.inj hi
    subst e
    exact h.sno ht gg_enter hp (q' := 11) ⟨by decide, L⟩ (fun e => by cases e)
  | k + 11, hp, hi, L => exact nomatch (show (none : Option GI) = some i from hi)

theorem own_enter4 (h : PD 4 n G m) (ht : t < n) (hp : G.pt t = some ⟨.enter, q, d⟩) (hd : d ≤ 100) (hi : (gEnter 4)[q]? = some i) : Sx 4 n G t (some ⟨.enter, gNext (gEnter 4) q (m.regs t) i, d⟩) (gExec m t i) := by
  have L := h.1.la t ht
  rw [hp] at L
  have L := L.2
  have r6 := h.1.r6 t ht
  match q, hp, hi, L with
  | 0, hp, hi, L =>
    have e : GI.load 0 6 0 = i := Option.some.inj hi
    subst e
    exact h.sload ht gg_enter hp (q' := 1) (by decide) ⟨by decide, L, rfl⟩ (fun e => by cases e)
  | 1, hp, hi, L =>
    have e : GI.zero 0 2 = i := Option.some.inj hi
    subst e
    show Sx 4 n G t (some ⟨.enter, if m.regs t 0 = 0 then gAt 2 (gEnter 4) else 2, d⟩) m
    by_cases hz : m.regs t 0 = 0
    · rw [if_pos hz]
      exact h.sno ht gg_enter hp (q' := 7) ⟨by decide, L.1, L.1.zero (by decide) (by rw [← L.2]; exact hz)⟩ (fun e => by cases e)
    · rw [if_neg hz]
      exact h.sno ht gg_enter hp (q' := 2) ⟨by decide, L.1, L.1.pos (by decide) (by rw [← L.2]; exact hz)⟩ (fun e => by cases e)
  | 2, hp, hi, L =>
    have e : GI.load 0 6 2 = i := Option.some.inj hi
    subst e
    exact h.sload ht gg_enter hp (q' := 3) (by decide) ⟨by decide, L.1, L.2, rfl⟩ (fun e => by cases e)
  | 3, hp, hi, L =>
    have e : GI.const 1 1 = i := Option.some.inj hi
    subst e
    exact h.sreg ht gg_enter hp (q' := 4) (by decide) ⟨by decide, L.1, L.2.1, L.2.2, rfl⟩ (fun e => by cases e)
  | 4, hp, hi, L =>
    have e : GI.add 0 0 1 = i := Option.some.inj hi
    subst e
    refine h.sreg ht gg_enter hp (q' := 5) (by decide) ⟨by decide, L.1, L.2.1, ?_⟩ (fun e => by cases e)
    show (m.regs t 0 + m.regs t 1) % 4294967296 = ov m t 2 + 1
    rw [L.2.2.1, L.2.2.2, L.1.two (by decide) L.2.1]
    omega
  | 5, hp, hi, L =>
    have e : GI.store 6 0 2 = i := Option.some.inj hi
    subst e
    exact h.sstore ht gg_enter (by decide) hp (q' := 6) (fun e => absurd e (by decide)) (fun e => absurd e (by decide)) ⟨by decide, L.1.set2 (by decide) L.2.1 (Nat.succ_pos _) (by rw [L.2.2, L.1.two (by decide) L.2.1]; omega)⟩
  | 6, hp, hi, L =>
    have e : GI.goto 1 = i := Option.some.inj hi
    subst e
    exact h.sno ht gg_enter hp (q' := 22) ⟨by decide, L⟩ (fun e => by cases e)
  | 7, hp, hi, L =>
    have e : GI.label 2 = i := Option.some.inj hi
    subst e
    exact h.sno ht gg_enter hp (q' := 8) ⟨by decide, L⟩ (fun e => by cases e)
  | 8, hp, hi, L =>
    have e : GI.load 0 6 3 = i := Option.some.inj hi
    subst e
    exact h.sload ht gg_enter hp (q' := 9) (by decide) ⟨by decide, L.1, L.2, rfl⟩ (fun e => by cases e)
  | 9, hp, hi, L =>
    have e : GI.same 0 6 3 = i := Option.some.inj hi
    subst e
    show Sx 4 n G t (some ⟨.enter, if m.regs t 0 = m.regs t 6 then gAt 3 (gEnter 4) else 10, d⟩) m
    by_cases hz : m.regs t 0 = m.regs t 6
    · rw [if_pos hz]
      refine h.sno ht gg_enter hp (q' := 19) ⟨by decide, L.1, L.2.1, ?_⟩ (fun e => by cases e)
      rcases Classical.em (t ∈ G.ch) with e | e
      · exact e
      · have := ((L.1.2.2 rfl).2 e).1
        rw [← L.2.2, hz, r6] at this
        omega
    · rw [if_neg hz]
      refine h.sno ht gg_enter hp (q' := 10) ⟨by decide, L.2.1, ((L.1.2.1 (by decide)).1 L.2.1).1, ((L.1.2.1 (by decide)).1 L.2.1).2, fun e => hz ?_⟩ (fun e => by cases e)
      rw [L.2.2, (L.1.2.2 rfl).1 e, r6]
  | 10, hp, hi, L =>
    have e : GI.load 0 7 1 = i := Option.some.inj hi
    subst e
    exact h.shub ht gg_enter hp (q' := 11) (by decide) ⟨by decide, L⟩ (fun e => by cases e)
  | 11, hp, hi, L =>
    have e : GI.label 4 = i := Option.some.inj hi
    subst e
    exact h.sno ht gg_enter hp (q' := 12) ⟨by decide, L⟩ (fun e => by cases e)
  | 12, hp, hi, L =>
    have e : GI.move 1 6 = i := Option.some.inj hi
    subst e
    exact h.sreg ht gg_enter hp (q' := 13) (by decide) ⟨by decide, L, r6⟩ (fun e => by cases e)
  | 13, hp, hi, L =>
    have e : GI.store 6 6 3 = i := Option.some.inj hi
    subst e
    exact h.sstore ht gg_enter (by decide) hp (q' := 14) (fun e => absurd e (by decide)) (fun e => absurd e (by decide)) ⟨by decide, L.1, L.2, r6⟩
  | 14, hp, hi, L =>
    have e : GI.store 6 0 1 = i := Option.some.inj hi
    subst e
    exact h.sstore ht gg_enter (by decide) hp (q' := 15) (fun e => absurd e (by decide)) (fun _ => ⟨rfl, L.1.2.2.2⟩) ⟨by decide, L.1, L.2.1, L.2.2, rfl⟩
  | 15, hp, hi, L =>
    have e : GI.cas 7 0 1 = i := Option.some.inj hi
    subst e
    exact h.slink ht rfl L.1.2.2.2 hp (q' := 16) L.2.1 L.2.2.2 ⟨by decide, L.1.1, L.1.2.1, L.1.2.2.1, L.2.2.1, .inl ⟨List.mem_append_right _ List.mem_cons_self, L.2.2.2⟩⟩ (fun w0 hw => ⟨by decide, L.1.1, L.1.2.1, L.1.2.2.1, L.2.2.1, .inr ⟨L.1.2.2.2, fun e => hw (by rw [← L.2.2.2]; exact e.symm)⟩⟩)
  | 16, hp, hi, L =>
    have e : GI.load 1 6 1 = i := Option.some.inj hi
    subst e
    exact h.sload ht gg_enter hp (q' := 17) (by decide) ⟨by decide, L.1, L.2.1, L.2.2.1, L.2.2.2.1, L.2.2.2.2.imp (fun e => ⟨e.1, e.2.symm⟩) (fun e => ⟨e.1, fun e2 => e.2 e2.symm⟩)⟩ (fun e => by cases e)
  | 17, hp, hi, L =>
    have e : GI.same 0 1 3 = i := Option.some.inj hi
    subst e
    show Sx 4 n G t (some ⟨.enter, if m.regs t 0 = m.regs t 1 then gAt 3 (gEnter 4) else 18, d⟩) m
    by_cases hz : m.regs t 0 = m.regs t 1
    · rw [if_pos hz]
      have hJ : t ∈ G.ch := by
        rcases L.2.2.2.2 with e | e
        · exact e.1
        · exact absurd hz e.2
      exact h.sno ht gg_enter hp (q' := 19) ⟨by decide, ⟨fun e => absurd e (by decide), fun _ => ⟨fun _ => ⟨L.2.1, L.2.2.1⟩, fun e => absurd L.1 (by omega)⟩, fun _ => ⟨fun _ => L.2.2.2.1, fun e => absurd hJ e⟩⟩, L.1, hJ⟩ (fun e => by cases e)
    · rw [if_neg hz]
      refine h.sno ht gg_enter hp (q' := 18) ⟨by decide, L.1, L.2.1, L.2.2.1, ?_⟩ (fun e => by cases e)
      rcases L.2.2.2.2 with e | e
      · exact absurd e.2 hz
      · exact e.1
  | 18, hp, hi, L =>
    have e : GI.goto 4 = i := Option.some.inj hi
    subst e
    exact h.sno ht gg_enter hp (q' := 11) ⟨by decide, L⟩ (fun e => by cases e)
  | 19, hp, hi, L =>
    have e : GI.label 3 = i := Option.some.inj hi
    subst e
    exact h.sno ht gg_enter hp (q' := 20) ⟨by decide, L⟩ (fun e => by cases e)
  | 20, hp, hi, L =>
    have e : GI.load 0 7 0 = i := Option.some.inj hi
    subst e
    exact h.shub ht gg_enter hp (q' := 21) (by decide) ⟨by decide, L.1, L.2.1, L.2.2, fun e => by have := h.1.hub; have e : m.mem.ar.words 0 0 = 0 := e; omega⟩ (fun e => by cases e)
  | 21, hp, hi, L =>
    have e : GI.swap 0 6 0 = i := Option.some.inj hi
    subst e
    exact h.sswap ht gg_enter hp (q' := 22) (b := true) (.inl ⟨rfl, rfl⟩) (fun _ => ⟨by decide, L.1.in' (by decide) L.2.1 L.2.2.2 (fun _ => L.2.2.1)⟩) (fun e => by cases e)
  | 22, hp, hi, L =>
    have e : GI.label 1 = i := Option.some.inj hi
    subst e
    exact h.sno ht gg_enter hp (q' := 23) ⟨by decide, L⟩ (fun e => by cases e)
  | k + 23, hp, hi, L => exact nomatch (show (none : Option GI) = some i from hi)

theorem own_leave1 (h : PD 1 n G m) (ht : t < n) (hp : G.pt t = some ⟨.leave, q, d⟩) (hd : d ≤ 100) (hi : (gLeave 1)[q]? = some i) : Sx 1 n G t (some ⟨.leave, gNext (gLeave 1) q (m.regs t) i, d⟩) (gExec m t i) := by
  have L := h.1.la t ht
  rw [hp] at L
  have L := L.2
  match q, hp, hi, L with
  | 0, hp, hi, L =>
    have e : GI.load 0 6 2 = i := Option.some.inj hi
    subst e
    exact h.sload ht gg_leave hp (q' := 1) (by decide) ⟨by decide, L.1, L.2, rfl⟩ (fun e => by cases e)
  | 1, hp, hi, L =>
    have e : GI.zero 0 2 = i := Option.some.inj hi
    subst e
    have h2 := L.1.two (by decide) L.2.1
    show Sx 1 n G t (some ⟨.leave, if m.regs t 0 = 0 then gAt 2 (gLeave 1) else 2, d⟩) m
    by_cases hz : m.regs t 0 = 0
    · rw [if_pos hz]
      exact h.sno ht gg_leave hp (q' := 7) ⟨by decide, L.1, by rw [L.2.2, h2] at hz; omega, hz⟩ (fun e => by cases e)
    · rw [if_neg hz]
      exact h.sno ht gg_leave hp (q' := 2) ⟨by decide, L.1, by rw [L.2.2, h2] at hz; have := L.2.1; omega⟩ (fun e => by cases e)
  | 2, hp, hi, L =>
    have e : GI.load 0 6 2 = i := Option.some.inj hi
    subst e
    exact h.sload ht gg_leave hp (q' := 3) (by decide) ⟨by decide, L.1, L.2, rfl⟩ (fun e => by cases e)
  | 3, hp, hi, L =>
    have e : GI.const 1 1 = i := Option.some.inj hi
    subst e
    exact h.sreg ht gg_leave hp (q' := 4) (by decide) ⟨by decide, L.1, L.2.1, L.2.2, rfl⟩ (fun e => by cases e)
  | 4, hp, hi, L =>
    have e : GI.sub 0 0 1 = i := Option.some.inj hi
    subst e
    refine h.sreg ht gg_leave hp (q' := 5) (by decide) ⟨by decide, L.1, L.2.1, ?_⟩ (fun e => by cases e)
    have h2 := L.1.two (by decide) (by have := L.2.1; omega)
    have h3 := L.2.1
    show (m.regs t 0 - m.regs t 1) % 4294967296 = ov m t 2 - 1
    rw [L.2.2.1, L.2.2.2, h2]
    omega
  | 5, hp, hi, L =>
    have e : GI.store 6 0 2 = i := Option.some.inj hi
    subst e
    have h3 := L.2.1
    exact h.sstore ht gg_leave (by decide) hp (q' := 6) (fun e => absurd e (by decide)) (fun e => absurd e (by decide)) ⟨by decide, L.1.set2 (by decide) (by omega) (by omega) (by rw [L.2.2, L.1.two (by decide) (by omega)]; omega), L.2.1⟩
  | 6, hp, hi, L =>
    have e : GI.goto 1 = i := Option.some.inj hi
    subst e
    exact h.sno ht gg_leave hp (q' := 9) ⟨by decide, L.1⟩ (fun e => by cases e)
  | 7, hp, hi, L =>
    have e : GI.label 2 = i := Option.some.inj hi
    subst e
    exact h.sno ht gg_leave hp (q' := 8) ⟨by decide, L⟩ (fun e => by cases e)
  | 8, hp, hi, L =>
    have e : GI.swap 0 6 0 = i := Option.some.inj hi
    subst e
    exact h.sswap ht gg_leave hp (q' := 9) (b := true) (.inl ⟨rfl, rfl⟩) (fun _ => ⟨by decide, L.1.out' (by decide) L.2.1 L.2.2⟩) (fun e => by cases e)
  | 9, hp, hi, L =>
    have e : GI.label 1 = i := Option.some.inj hi
    subst e
    exact h.sno ht gg_leave hp (q' := 10) ⟨by decide, L⟩ (fun e => by cases e)
  | k + 10, hp, hi, L => exact nomatch (show (none : Option GI) = some i from hi)

theorem own_leave2 (h : PD 2 n G m) (ht : t < n) (hp : G.pt t = some ⟨.leave, q, d⟩) (hd : d ≤ 100) (hi : (gLeave 2)[q]? = some i) : Sx 2 n G t (some ⟨.leave, gNext (gLeave 2) q (m.regs t) i, d⟩) (gExec m t i) := by
  have L := h.1.la t ht
  rw [hp] at L
  have L := L.2
  match q, hp, hi, L with
  | 0, hp, hi, L =>
    have e : GI.load 0 6 2 = i := Option.some.inj hi
    subst e
    exact h.sload ht gg_leave hp (q' := 1) (by decide) ⟨by decide, L.1, L.2, rfl⟩ (fun e => by cases e)
  | 1, hp, hi, L =>
    have e : GI.zero 0 2 = i := Option.some.inj hi
    subst e
    have h2 := L.1.two (by decide) L.2.1
    show Sx 2 n G t (some ⟨.leave, if m.regs t 0 = 0 then gAt 2 (gLeave 2) else 2, d⟩) m
    by_cases hz : m.regs t 0 = 0
    · rw [if_pos hz]
      exact h.sno ht gg_leave hp (q' := 7) ⟨by decide, L.1, by rw [L.2.2, h2] at hz; omega, hz⟩ (fun e => by cases e)
    · rw [if_neg hz]
      exact h.sno ht gg_leave hp (q' := 2) ⟨by decide, L.1, by rw [L.2.2, h2] at hz; have := L.2.1; omega⟩ (fun e => by cases e)
  | 2, hp, hi, L =>
    have e : GI.load 0 6 2 = i := Option.some.inj hi
    subst e
    exact h.sload ht gg_leave hp (q' := 3) (by decide) ⟨by decide, L.1, L.2, rfl⟩ (fun e => by cases e)
  | 3, hp, hi, L =>
    have e : GI.const 1 1 = i := Option.some.inj hi
    subst e
    exact h.sreg ht gg_leave hp (q' := 4) (by decide) ⟨by decide, L.1, L.2.1, L.2.2, rfl⟩ (fun e => by cases e)
  | 4, hp, hi, L =>
    have e : GI.sub 0 0 1 = i := Option.some.inj hi
    subst e
    refine h.sreg ht gg_leave hp (q' := 5) (by decide) ⟨by decide, L.1, L.2.1, ?_⟩ (fun e => by cases e)
    have h2 := L.1.two (by decide) (by have := L.2.1; omega)
    have h3 := L.2.1
    show (m.regs t 0 - m.regs t 1) % 4294967296 = ov m t 2 - 1
    rw [L.2.2.1, L.2.2.2, h2]
    omega
  | 5, hp, hi, L =>
    have e : GI.store 6 0 2 = i := Option.some.inj hi
    subst e
    have h3 := L.2.1
    exact h.sstore ht gg_leave (by decide) hp (q' := 6) (fun e => absurd e (by decide)) (fun e => absurd e (by decide)) ⟨by decide, L.1.set2 (by decide) (by omega) (by omega) (by rw [L.2.2, L.1.two (by decide) (by omega)]; omega), L.2.1⟩
  | 6, hp, hi, L =>
    have e : GI.goto 1 = i := Option.some.inj hi
    subst e
    exact h.sno ht gg_leave hp (q' := 9) ⟨by decide, L.1⟩ (fun e => by cases e)
  | 7, hp, hi, L =>
    have e : GI.label 2 = i := Option.some.inj hi
    subst e
    exact h.sno ht gg_leave hp (q' := 8) ⟨by decide, L⟩ (fun e => by cases e)
  | 8, hp, hi, L =>
    have e : GI.store 6 0 0 = i := Option.some.inj hi
    subst e
    exact h.sstore ht gg_leave (by decide) hp (q' := 9) (fun _ => rfl) (fun e => absurd e (by decide)) ⟨by decide, L.1.out' (by decide) L.2.1 L.2.2⟩
  | 9, hp, hi, L =>
    have e : GI.label 1 = i := Option.some.inj hi
    subst e
    exact h.sno ht gg_leave hp (q' := 10) ⟨by decide, L⟩ (fun e => by cases e)
  | k + 10, hp, hi, L => exact nomatch (show (none : Option GI) = some i from hi)

theorem own_leave4 (h : PD 4 n G m) (ht : t < n) (hp : G.pt t = some ⟨.leave, q, d⟩) (hd : d ≤ 100) (hi : (gLeave 4)[q]? = some i) : Sx 4 n G t (some ⟨.leave, gNext (gLeave 4) q (m.regs t) i, d⟩) (gExec m t i) := by
  have L := h.1.la t ht
  rw [hp] at L
  have L := L.2
  match q, hp, hi, L with
  | 0, hp, hi, L =>
    have e : GI.load 0 6 2 = i := Option.some.inj hi
    subst e
    exact h.sload ht gg_leave hp (q' := 1) (by decide) ⟨by decide, L.1, L.2, rfl⟩ (fun e => by cases e)
  | 1, hp, hi, L =>
    have e : GI.zero 0 2 = i := Option.some.inj hi
    subst e
    have h2 := L.1.two (by decide) L.2.1
    show Sx 4 n G t (some ⟨.leave, if m.regs t 0 = 0 then gAt 2 (gLeave 4) else 2, d⟩) m
    by_cases hz : m.regs t 0 = 0
    · rw [if_pos hz]
      exact h.sno ht gg_leave hp (q' := 7) ⟨by decide, L.1, by rw [L.2.2, h2] at hz; omega, hz⟩ (fun e => by cases e)
    · rw [if_neg hz]
      exact h.sno ht gg_leave hp (q' := 2) ⟨by decide, L.1, by rw [L.2.2, h2] at hz; have := L.2.1; omega⟩ (fun e => by cases e)
  | 2, hp, hi, L =>
    have e : GI.load 0 6 2 = i := Option.some.inj hi
    subst e
    exact h.sload ht gg_leave hp (q' := 3) (by decide) ⟨by decide, L.1, L.2, rfl⟩ (fun e => by cases e)
  | 3, hp, hi, L =>
    have e : GI.const 1 1 = i := Option.some.inj hi
    subst e
    exact h.sreg ht gg_leave hp (q' := 4) (by decide) ⟨by decide, L.1, L.2.1, L.2.2, rfl⟩ (fun e => by cases e)
  | 4, hp, hi, L =>
    have e : GI.sub 0 0 1 = i := Option.some.inj hi
    subst e
    refine h.sreg ht gg_leave hp (q' := 5) (by decide) ⟨by decide, L.1, L.2.1, ?_⟩ (fun e => by cases e)
    have h2 := L.1.two (by decide) (by have := L.2.1; omega)
    have h3 := L.2.1
    show (m.regs t 0 - m.regs t 1) % 4294967296 = ov m t 2 - 1
    rw [L.2.2.1, L.2.2.2, h2]
    omega
  | 5, hp, hi, L =>
    have e : GI.store 6 0 2 = i := Option.some.inj hi
    subst e
    have h3 := L.2.1
    exact h.sstore ht gg_leave (by decide) hp (q' := 6) (fun e => absurd e (by decide)) (fun e => absurd e (by decide)) ⟨by decide, L.1.set2 (by decide) (by omega) (by omega) (by rw [L.2.2, L.1.two (by decide) (by omega)]; omega), L.2.1⟩
  | 6, hp, hi, L =>
    have e : GI.goto 1 = i := Option.some.inj hi
    subst e
    exact h.sno ht gg_leave hp (q' := 9) ⟨by decide, L.1⟩ (fun e => by cases e)
  | 7, hp, hi, L =>
    have e : GI.label 2 = i := Option.some.inj hi
    subst e
    exact h.sno ht gg_leave hp (q' := 8) ⟨by decide, L⟩ (fun e => by cases e)
  | 8, hp, hi, L =>
    have e : GI.swap 0 6 0 = i := Option.some.inj hi
    subst e
    exact h.sswap ht gg_leave hp (q' := 9) (b := true) (.inl ⟨rfl, rfl⟩) (fun _ => ⟨by decide, L.1.out' (by decide) L.2.1 L.2.2⟩) (fun e => by cases e)
  | 9, hp, hi, L =>
    have e : GI.label 1 = i := Option.some.inj hi
    subst e
    exact h.sno ht gg_leave hp (q' := 10) ⟨by decide, L⟩ (fun e => by cases e)
  | k + 10, hp, hi, L => exact nomatch (show (none : Option GI) = some i from hi)

theorem own_rest (h : PD 3 n G m) (ht : t < n) (hp : G.pt t = some ⟨.rest, q, d⟩) (hi : (gRest 3)[q]? = some i) : Sx 3 n G t (some ⟨.rest, gNext (gRest 3) q (m.regs t) i, d⟩) (gExec m t i) := by
  have L := h.1.la t ht
  rw [hp] at L
  have L := L.2
  match q, hp, hi, L with
  | 0, hp, hi, L =>
    have e : GI.zero 6 1 = i := Option.some.inj hi
    subst e
    show Sx 3 n G t (some ⟨.rest, if m.regs t 6 = 0 then gAt 1 (gRest 3) else 1, d⟩) m
    rw [if_neg (by rw [h.1.r6 t ht]; omega)]
    exact h.sno ht gg_rest hp (q' := 1) ⟨rfl, L⟩ (fun e => by cases e)
  | 1, hp, hi, L =>
    have e : GI.load 0 6 0 = i := Option.some.inj hi
    subst e
    exact h.sload ht gg_rest hp (q' := 2) (by decide) ⟨rfl, L, rfl⟩ (fun e => by cases e)
  | 2, hp, hi, L =>
    have e : GI.zero 0 1 = i := Option.some.inj hi
    subst e
    show Sx 3 n G t (some ⟨.rest, if m.regs t 0 = 0 then gAt 1 (gRest 3) else 3, d⟩) m
    rw [if_neg (fun e => by have h1 := L.1; rw [← L.2, e] at h1; cases h1)]
    exact h.sno ht gg_rest hp (q' := 3) ⟨rfl, L⟩ (fun e => by cases e)
  | 3, hp, hi, L =>
    have e : GI.const 1 2 = i := Option.some.inj hi
    subst e
    exact h.sreg ht gg_rest hp (q' := 4) (by decide) ⟨rfl, L.1, L.2, rfl⟩ (fun e => by cases e)
  | 4, hp, hi, L =>
    have e : GI.add 0 0 1 = i := Option.some.inj hi
    subst e
    refine h.sreg ht gg_rest hp (q' := 5) (by decide) ⟨rfl, L.1, ?_⟩ (fun e => by cases e)
    show (m.regs t 0 + m.regs t 1) % 4294967296 % 2 = 1
    have h1 := L.1
    rw [L.2.1, L.2.2]
    omega
  | 5, hp, hi, L =>
    have e : GI.swap 0 6 0 = i := Option.some.inj hi
    subst e
    exact h.sswap ht gg_rest hp (q' := 6) (b := true) (.inl ⟨rfl, rfl⟩) (fun _ => ⟨rfl, L.2⟩) (fun e => by cases e)
  | 6, hp, hi, L =>
    have e : GI.label 1 = i := Option.some.inj hi
    subst e
    exact h.sno ht gg_rest hp (q' := 7) ⟨rfl, L⟩ (fun e => by cases e)
  | k + 7, hp, hi, L => exact nomatch (show (none : Option GI) = some i from hi)

theorem own_gone (h : PD 3 n G m) (ht : t < n) (hp : G.pt t = some ⟨.gone, q, d⟩) (hi : (gGone 3)[q]? = some i) : Sx 3 n G t (some ⟨.gone, gNext (gGone 3) q (m.regs t) i, d⟩) (gExec m t i) := by
  have L := h.1.la t ht
  rw [hp] at L
  have L := L.2
  match q, hp, hi, L with
  | 0, hp, hi, L =>
    have e : GI.zero 6 1 = i := Option.some.inj hi
    subst e
    show Sx 3 n G t (some ⟨.gone, if m.regs t 6 = 0 then gAt 1 (gGone 3) else 1, d⟩) m
    rw [if_neg (by rw [h.1.r6 t ht]; omega)]
    exact h.sno ht gg_gone hp (q' := 1) ⟨rfl, L⟩ (fun e => by cases e)
  | 1, hp, hi, L =>
    have e : GI.const 0 0 = i := Option.some.inj hi
    subst e
    exact h.sreg ht gg_gone hp (q' := 2) (by decide) ⟨rfl, L, rfl⟩ (fun e => by cases e)
  | 2, hp, hi, L =>
    have e : GI.swap 0 6 0 = i := Option.some.inj hi
    subst e
    exact h.sswap ht gg_gone hp (q' := 3) (b := true) (.inl ⟨rfl, rfl⟩) (fun _ => ⟨rfl, L.2⟩) (fun e => by cases e)
  | 3, hp, hi, L =>
    have e : GI.label 1 = i := Option.some.inj hi
    subst e
    exact h.sno ht gg_gone hp (q' := 4) ⟨rfl, L⟩ (fun e => by cases e)
  | k + 4, hp, hi, L => exact nomatch (show (none : Option GI) = some i from hi)

end
end Go.Proofs.YtaiigfcfmcicjaaGreatDoor

/- GcM -/
namespace Go.Proofs.YtaiigfcfmcicjaaGreatDoor
open Go.RowKit

section
variable {f n : Nat} {G : Gh} {m m' : Mk} {t q q' d : Nat}
theorem Cur.regs {C : List Nat} {O : Nat → Prop} {r r' : Nat → Int} {P P' : Nat → Prop} (h : Cur C O r P) (e : r' 2 = r 2) (hP : ∀ u, O u → P u → P' u) : Cur C O r' P' := by
  obtain ⟨i, u, h1, h2, h3, h4⟩ := h
  exact ⟨i, u, h1, e.trans h2, h3, fun hu => hP u hu (h4 hu)⟩
def Wl (f : Nat) (J : Prop) (t : Nat) (V : Nat → Int) (q' : Nat) : Prop := ∀ r, (f = 3 → Lw3 V r q') ∧ (f ≠ 3 → Bs f J t 0 V)
theorem PI.old_sh (h : PI f n G m) (ht : t < n) {w u : Nat} (hw : w < n) (hu : Ol G w u) : vw m t (u + 1) 0 0 = sh m u ∧ sh m u ≠ 0 := by
  obtain ⟨h1, -, h3, h4⟩ := h.old w u hw hu
  have key : ∀ t, t < n → vw m t (u + 1) 0 0 = sh m u := fun t ht => by
    unfold vw sh
    refine foldl_none (fun x hx e => ?_)
    obtain ⟨e1, e2, e3⟩ := e
    rcases (h.wts t ht x hx).2 with ⟨h5, -⟩ | h5
    · have e : u = t := by omega
      subst e
      exact h4 x hx h5 (by omega)
    · omega
  refine ⟨key t ht, fun e => h3 ?_⟩
  rw [← key u h1] at e
  exact e
theorem PD.wsee (h : PD f n G m) (ht : t < n) (hp : G.pt t = some ⟨.wait, q, d⟩) (hs : stage f q = 0) (hs' : stage f q' = 1) (hf : f ≠ 2) (hd : d = 0) (hw : Wl f (t ∈ G.ch) t (ov m t) q') : Sx f n G t (some ⟨.wait, q', d⟩) (m.fence t) := by
  have h2 := (h.fence ht).see ht hp (q' := q') hs hs' (fun e => absurd e hf) ⟨hd, by rw [h.fence_ov ht ht]; exact (hw _).1, by rw [h.fence_ov ht ht]; exact (hw (m.regs t)).2⟩
  exact ⟨_, h2, Gh.at_self _ _ _, fun u hu => Gh.at_ne _ _ hu, .inl rfl⟩
theorem PD.force_ov (h : PD f n G m) {u : Nat} (hu : u < n) : ov (m.fenceFrom 0 m.mem.threads) u = ov m u := by
  rw [h.1.thr]
  exact PD.fenceFrom_ov n 0 (by omega) h hu
theorem PD.wseef (h : PD f n G m) (ht : t < n) (hp : G.pt t = some ⟨.wait, q, d⟩) (hs : stage f q = 0) (hs' : stage f q' = 1) (hd : d = 0) (hw : Wl f (t ∈ G.ch) t (ov m t) q') : Sx f n G t (some ⟨.wait, q', d⟩) (m.fenceFrom 0 m.mem.threads) := by
  have h2 := h.force.see ht hp (q' := q') hs hs' (fun _ u hu => force_waits _ _ _ _ (.inl ⟨Nat.zero_le _, by rw [h.1.thr]; omega⟩)) ⟨hd, by rw [h.force_ov ht]; exact (hw _).1, by rw [h.force_ov ht]; exact (hw (m.regs t)).2⟩
  exact ⟨_, h2, Gh.at_self _ _ _, fun u hu => Gh.at_ne _ _ hu, .inl rfl⟩

theorem PD.wno (h : PD f n G m) (ht : t < n) (hp : G.pt t = some ⟨.wait, q, d⟩) (hd : d = 0) (hw : Wl f (t ∈ G.ch) t (ov m t) q') (hz : stage f q = 0 → stage f q' = 0) (hS : Scan G.ch (Ol G t) (sh m) (m.regs t) (stage f q')) : Sx f n G t (some ⟨.wait, q', d⟩) m :=
  h.sno ht gg_wait hp ⟨hd, (hw _).1, (hw (m.regs t)).2, hS⟩ (fun _ => hz)
theorem PD.wreg (h : PD f n G m) (ht : t < n) (hp : G.pt t = some ⟨.wait, q, d⟩) (hd : d = 0) (hw : Wl f (t ∈ G.ch) t (ov m t) q') (hz : stage f q = 0 → stage f q' = 0) {r : Nat} {v : Int} (hr : r ≤ 2) (hS : Scan G.ch (Ol G t) (sh m) (rg m t r v) (stage f q')) : Sx f n G t (some ⟨.wait, q', d⟩) (m.setReg t r v) :=
  h.sreg ht gg_wait hp hr ⟨hd, (hw _).1, (hw (m.regs t)).2, hS⟩ (fun _ => hz)

theorem PD.wlink (h : PD f n G m) (ht : t < n) (hp : G.pt t = some ⟨.wait, q, d⟩) (hd : d = 0) (hw : Wl f (t ∈ G.ch) t (ov m t) q') (e3 : stage f q = 3) (e4 : stage f q' = 4) (hS : Scan G.ch (Ol G t) (sh m) (m.regs t) 3) : Sx f n G t (some ⟨.wait, q', d⟩) (m.load t 2 (m.regs t 2) 1) := by
  rcases hS with ⟨h1, h2⟩ | ⟨i, u, h1, h2, h3, h4⟩
  · refine h.sfar ht gg_wait hp (c := 0) (k := 1) (by omega) (by rw [h1]; rfl) (fun x hx e => ?_) (by decide) ⟨hd, (hw _).1, (hw (m.regs t)).2, ?_⟩ (fun _ => by rw [e3]; intro e; cases e)
    · rcases (h.1.wts t ht x hx).2 with ⟨h5, -⟩ | h5 <;> (have := e.1; omega)
    · rw [e4, h.1.chh]
      cases hl : G.ch.getLast? with
      | none =>
        refine .inl ⟨rfl, fun x hx => ?_⟩
        have := h2 x hx
        rw [List.getLast?_eq_none_iff.1 hl] at this
        cases this
      | some u =>
        refine .inr ⟨G.ch.length - 1, u, by rw [← List.getLast?_eq_getElem?]; exact hl, rfl, fun x hx => ?_, fun _ => trivial⟩
        obtain ⟨j, hj⟩ := List.mem_iff_getElem?.1 (h2 x hx)
        exact ⟨j, by have := (List.getElem?_eq_some_iff.1 hj).1; omega, hj⟩
  · have hu := List.mem_of_getElem? h1
    have hun := h.1.chl u hu
    refine h.sfar ht gg_wait hp (c := u + 1) (k := 1) (by omega) (by rw [h2]; omega) (fun x hx e => ?_) (by decide) ⟨hd, (hw _).1, (hw (m.regs t)).2, ?_⟩ (fun _ => by rw [e3]; intro e; cases e)
    · rcases (h.1.wts t ht x hx).2 with ⟨h5, -, -, h6⟩ | h5
      · have e1 : u = t := by have := e.1; omega
        subst e1
        exact (h6 e.2).2 hu
      · have := e.1; omega
    · rw [e4, h.1.chw i u h1]
      cases i with
      | zero =>
        refine .inl ⟨rfl, fun x hx => ?_⟩
        obtain ⟨j, hj, hc⟩ := h3 x hx
        have e : j = 0 := by omega
        subst e
        rw [h1] at hc
        cases hc
        exact h4 hx
      | succ j =>
        obtain ⟨v, hv⟩ : ∃ v, G.ch[j]? = some v := ⟨_, List.getElem?_eq_getElem (by have := (List.getElem?_eq_some_iff.1 h1).1; omega)⟩
        refine .inr ⟨j, v, hv, by show (match G.ch[j]? with | none => 0 | some v => (v : Int) + 2) = _; rw [hv], fun x hx => ?_, fun _ => trivial⟩
        obtain ⟨j', hj, hc⟩ := h3 x hx
        refine ⟨j', ?_, hc⟩
        rcases Nat.lt_or_ge j' (j + 1) with h | h
        · omega
        · have e : j' = j + 1 := by omega
          subst e
          rw [h1] at hc
          cases hc
          exact (h4 hx).elim
theorem PD.wlook (h : PD f n G m) (ht : t < n) (hp : G.pt t = some ⟨.wait, q, d⟩) (hd : d = 0) (hw : Wl f (t ∈ G.ch) t (ov m t) q') (hz : stage f q ≠ 0) {P : Nat → Prop} (hS : Cur G.ch (Ol G t) (m.regs t) P)
    (hn : ∀ v, (Cur G.ch (Ol G t) (rg m t 0 v) (fun u => P u ∧ v = sh m u)) → Scan G.ch (Ol G t) (sh m) (rg m t 0 v) (stage f q')) : Sx f n G t (some ⟨.wait, q', d⟩) (m.load t 0 (m.regs t 2) 0) := by
  obtain ⟨i, u, h1, h2, h3, h4⟩ := hS
  have hun := h.1.chl u (List.mem_of_getElem? h1)
  obtain ⟨L, g0, r0⟩ := h.1.own hun
  have e : m.load t 0 (m.regs t 2) 0 = m.setReg t 0 (vw m t (u + 1) 0 0) := by
    have e2 := load_live L t 0 0
    rw [g0] at e2
    rw [h2, ← r0]
    exact e2
  rw [e]
  refine h.wreg ht hp hd hw (fun e => absurd e hz) (by decide) (hn _ ⟨i, u, h1, h2, h3, fun hu => ⟨h4 hu, (h.1.old_sh ht ht hu).1⟩⟩)
end
end Go.Proofs.YtaiigfcfmcicjaaGreatDoor
