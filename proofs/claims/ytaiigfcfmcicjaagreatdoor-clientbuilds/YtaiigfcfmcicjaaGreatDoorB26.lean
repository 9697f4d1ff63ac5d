import Derived.Test.YtaiigfcfmcicjaaGreatDoorB25

/- GcH -/
namespace Go.Proofs.YtaiigfcfmcicjaaGreatDoor
open Go.RowKit

def Gh.see (G : Gh) (n t : Nat) (m : Mk) : Gh := { G with old := fun w u => if w = t then decide (u < n ∧ ov m u 0 ≠ 0) else G.old w u }
def Gh.join (G : Gh) (t : Nat) : Gh := { G with ch := G.ch ++ [t] }

theorem Bs.nj {J : Prop} {t d : Nat} {V : Nat → Int} (h : Bs 4 J t d V) (hn : ¬ J) : d = 0 ∧ V 0 = 0 ∧ V 2 = 0 ∧ V 3 = 0 := by
  obtain ⟨-, h2, h3⟩ := h
  obtain ⟨h4, h5⟩ := (h3 rfl).2 hn
  obtain ⟨h6, h7⟩ := (h2 (by decide)).1 h5
  exact ⟨h5, h6, h7, h4⟩
theorem La.nj {C : List Nat} {O : Nat → Prop} {s : Nat → Int} {u : Nat} {V r : Nat → Int} {g : Option Pt} (h : La 4 C O s u V r g) (hn : u ∉ C) : V 0 = 0 := by
  cases g with
  | none => exact ((show Bs 4 (u ∈ C) u 0 V from h (by decide)).nj hn).2.1
  | some p =>
    obtain ⟨tg, q, d⟩ := p
    cases tg with
    | enter =>
      have h := h.2
      match q, h with
      | 0, h => exact (Bs.nj h hn).2.1
      | 1, h => exact (Bs.nj h.1 hn).2.1
      | 2, h => exact (Bs.nj h.1 hn).2.1
      | 3, h => exact (Bs.nj h.1 hn).2.1
      | 4, h => exact (Bs.nj h.1 hn).2.1
      | 5, h => exact (Bs.nj h.1 hn).2.1
      | 6, h => exact (Bs.nj h hn).2.1
      | 7, h => exact (Bs.nj h.1 hn).2.1
      | 8, h => exact (Bs.nj h.1 hn).2.1
      | 9, h => exact (Bs.nj h.1 hn).2.1
      | 10, h => exact h.2.1
      | 11, h => exact h.2.1
      | 12, h => exact h.2.1
      | 13, h => exact h.1.2.1
      | 14, h => exact h.1.2.1
      | 15, h => exact h.1.2.1
      | 16, h => exact h.2.1
      | 17, h => exact h.2.1
      | 18, h => exact h.2.1
      | 19, h => exact absurd h.2.2 hn
      | 20, h => exact absurd h.2.2 hn
      | 21, h => exact absurd h.2.2.1 hn
      | q + 22, h => exact (Bs.nj h hn).2.1
    | leave =>
      have h := h.2
      match q, h with
      | 0, h => exact (Bs.nj h.1 hn).2.1
      | 1, h => exact (Bs.nj h.1 hn).2.1
      | 2, h => exact (Bs.nj h.1 hn).2.1
      | 3, h => exact (Bs.nj h.1 hn).2.1
      | 4, h => exact (Bs.nj h.1 hn).2.1
      | 5, h => exact (Bs.nj h.1 hn).2.1
      | 6, h => exact (Bs.nj h.1 hn).2.1
      | 7, h => exact (Bs.nj h.1 hn).2.1
      | 8, h => exact (Bs.nj h.1 hn).2.1
      | q + 9, h => exact (Bs.nj h hn).2.1
    | rest => exact absurd h.1 (by decide)
    | gone => exact absurd h.1 (by decide)
    | wait => exact (Bs.nj (h.2.2.1 (by decide)) hn).2.1
    | get => exact (Bs.nj h.1 hn).2.1
    | read => exact (Bs.nj h.1 hn).2.1
    | new v => exact (Bs.nj h.1 hn).2.1
    | pub => exact (Bs.nj h.1 hn).2.1
    | free => exact (Bs.nj h.1 hn).2.1

section
variable {f n : Nat} {G : Gh} {m m' : Mk} {t : Nat}
theorem PD.hub0 (h : PD f n G m) (ht : t < n) {v w0 : Int} (hv : v % 2 = 1) {q d q' : Nat} (hp : G.pt t = some ⟨.wait, q, d⟩)
    (hla : La f G.ch (Ol G t) (sh m) t (ov m t) (fun j => if j = 0 then w0 else m.regs t j) (some ⟨.wait, q', d⟩)) (hs : stage f q = 0 → stage f q' = 0) :
    PD f n (G.at' t (some ⟨.wait, q', d⟩)) ((m.setWord 1 0 v).setReg t 0 w0) := by
  have h1 : PD f n G (m.setWord 1 0 v) := by
    obtain ⟨P, D⟩ := h
    generalize hm' : m.setWord 1 0 v = m'
    have ewords : ∀ c j, m'.mem.ar.words c j = if c = 0 ∧ j = 0 then v else m.mem.ar.words c j := fun c j => by rw [← hm']; rfl
    have S : SameCells m m' := by rw [← hm']; exact ⟨rfl, rfl, rfl⟩
    have ethr : m'.mem.threads = m.mem.threads := by rw [← hm']; rfl
    have er : m'.regs = m.regs := by rw [← hm']; rfl
    have ef : m'.faults = m.faults := by rw [← hm']; rfl
    have ew : m'.mem.waits = m.mem.waits := by rw [← hm']; rfl
    have W : ∀ c j, c ≠ 0 → m'.mem.ar.words c j = m.mem.ar.words c j := fun c j hc => by rw [ewords, if_neg (fun e => hc e.1)]
    have hvn : ∀ u c g j, c ≠ 0 → vw m' u c g j = vw m u c g j := fun u c g j hc => by unfold vw; rw [ew, W c j hc]
    have hon : ∀ u, ov m' u = ov m u := fun u => by funext j; exact hvn u _ _ _ (Nat.succ_ne_zero _)
    have hsh : sh m' = sh m := by funext u; exact W _ _ (Nat.succ_ne_zero _)
    refine ⟨⟨P.fl, P.few, by rw [ethr]; exact P.thr, fun c hc => ⟨S.live (P.here c hc).1, by rw [S.given]; exact (P.here c hc).2⟩, by rw [er]; exact P.r5, by rw [er]; exact P.r6, by rw [er]; exact P.r7, by rw [ewords, if_pos ⟨rfl, rfl⟩]; exact hv, by rw [ew]; exact P.wts, P.chn, P.chl, P.chf, by rw [ewords, if_neg (fun e => by cases e.2)]; exact P.chh, fun i u hi => by rw [W _ _ (Nat.succ_ne_zero _)]; exact P.chw i u hi, fun u hu => by rw [hsh, hon, er]; exact P.la u hu, fun w u hw hu => by rw [hon, ew]; exact P.old w u hw hu⟩,
      ⟨by rw [S.size]; exact D.size, ⟨⟨D.pub.1.1, S.live D.pub.1.2⟩, by rw [W _ _ (Nat.succ_ne_zero _), S.rf]; exact D.pub.2.1, by rw [W _ _ (by have := D.pub.1.1; omega)]; exact D.pub.2.2⟩, by rw [ew]; exact D.pubw, fun w hw' hd' => ?_, D.apart, fun u hu y hy hc => ?_, fun w hw' hd' => ?_, fun w hw' hd' => ?_, fun u hu hrd => ?_, by rw [er]; exact D.r4, by rw [er]; exact D.new4, by rw [S.there]; exact D.live, by rw [ef]; exact D.ok⟩⟩
    · obtain ⟨⟨h1, h2⟩, h3, h4⟩ := D.own w hw' hd'
      exact ⟨⟨h1, S.live h2⟩, by rw [er, S.rf]; exact h3, h4⟩
    · rw [S.gn]; rw [ew] at hy; exact D.wts u hu y hy hc
    · obtain ⟨⟨h1, h2⟩, -, -⟩ := D.own w hw' (by omega)
      rw [S.gn, hvn _ _ _ _ (by omega)]; exact D.set w hw' hd'
    · obtain ⟨⟨h1, h2⟩, -, -⟩ := D.own w hw' (by omega)
      rw [W _ _ (by omega)]; exact D.ret w hw' hd'
    · rw [er, S.rf]
      rcases D.hold u hu hrd with h | ⟨w, h1, h2, h3, h4⟩
      · exact .inl h
      · exact .inr ⟨w, h1, h2, by rw [S.rf]; exact h3, h4⟩
  refine h1.greg (m' := (m.setWord 1 0 v).setReg t 0 w0) ht (tg := .wait) trivial hp rfl rfl (fun u hu => setReg_other _ _ _ _ hu) (fun k hk => by rw [setReg_reg, if_neg (by omega)]) ?_ (fun _ => hs)
  have e1 : ov (m.setWord 1 0 v) t = ov m t := by
    funext j
    unfold ov vw
    show List.foldl _ (if t + 1 = 0 ∧ j = 0 then v else m.mem.ar.words (t + 1) j) _ = _
    rw [if_neg (fun e => absurd e.1 (Nat.succ_ne_zero _))]; rfl
  have e2 : sh (m.setWord 1 0 v) = sh m := by
    funext u
    show (if u + 1 = 0 ∧ (0 : Nat) = 0 then v else m.mem.ar.words (u + 1) 0) = _
    rw [if_neg (fun e => absurd e.1 (Nat.succ_ne_zero _))]; rfl
  rw [e1, e2]
  have e3 : ((m.setWord 1 0 v).setReg t 0 w0).regs t = fun j => if j = 0 then w0 else m.regs t j := by
    funext j
    rw [setReg_reg]; rfl
  rw [e3]; exact hla

theorem PD.link (h : PD f n G m) (ht : t < n) (hwt : m.mem.waits t = []) (hf : f = 4) (hnj : t ∉ G.ch) (hv : m.mem.ar.words 0 1 = ov m t 1) {w0 : Int} {q d q' : Nat} (hp : G.pt t = some ⟨.enter, q, d⟩)
    (hla : La f (G.ch ++ [t]) (Ol G t) (sh m) t (ov m t) (fun j => if j = 0 then w0 else m.regs t j) (some ⟨.enter, q', d⟩)) :
    PD f n ((G.join t).at' t (some ⟨.enter, q', d⟩)) ((m.setWord 1 1 ((t : Int) + 2)).setReg t 0 w0) := by
  obtain ⟨P, D⟩ := h
  generalize hm' : (m.setWord 1 1 ((t : Int) + 2)).setReg t 0 w0 = m'
  have ewords : ∀ c j, m'.mem.ar.words c j = if c = 0 ∧ j = 1 then (t : Int) + 2 else m.mem.ar.words c j := fun c j => by rw [← hm']; rfl
  have S : SameCells m m' := by rw [← hm']; exact ⟨rfl, rfl, rfl⟩
  have ethr : m'.mem.threads = m.mem.threads := by rw [← hm']; rfl
  have erg : ∀ u j, m'.regs u j = if u = t ∧ j = 0 then w0 else m.regs u j := fun u j => by rw [← hm']; rfl
  have ern : ∀ u, u ≠ t → m'.regs u = m.regs u := fun u hu => by funext j; rw [erg, if_neg (fun e => hu e.1)]
  have er3 : ∀ u j, 3 ≤ j → m'.regs u j = m.regs u j := fun u j hj => by rw [erg, if_neg (fun e => by omega)]
  have ert : m'.regs t = fun j => if j = 0 then w0 else m.regs t j := by
    funext j
    rw [erg]
    by_cases e : j = 0
    · rw [if_pos ⟨rfl, e⟩, if_pos e]
    · rw [if_neg (fun h => e h.2), if_neg e]
  have ef : m'.faults = m.faults := by rw [← hm']; rfl
  have ew : m'.mem.waits = m.mem.waits := by rw [← hm']; rfl
  have W : ∀ c j, c ≠ 0 → m'.mem.ar.words c j = m.mem.ar.words c j := fun c j hc => by rw [ewords, if_neg (fun e => hc e.1)]
  have hvn : ∀ u c g j, c ≠ 0 → vw m' u c g j = vw m u c g j := fun u c g j hc => by unfold vw; rw [ew, W c j hc]
  have hon : ∀ u, ov m' u = ov m u := fun u => by funext j; exact hvn u _ _ _ (Nat.succ_ne_zero _)
  have hsh : sh m' = sh m := by funext u; exact W _ _ (Nat.succ_ne_zero _)
  have hg : isG .enter := trivial
  have hd : ∀ u, dst (((G.join t).at' t (some ⟨.enter, q', d⟩)).pt u) = dst (G.pt u) := fun u => by
    by_cases e : u = t
    · subst e; rw [Gh.at_self, hp]; rfl
    · rw [Gh.at_ne _ _ e]; rfl
  have hlast : ∀ {i : Nat}, i = G.ch.length → m.mem.ar.words 0 1 = match i with | 0 => 0 | j + 1 => match (G.ch ++ [t])[j]? with | none => 0 | some v => (v : Int) + 2 := fun {i} hi => by
    rw [P.chh]
    cases hl : G.ch with
    | nil => rw [hl] at hi; subst hi; rfl
    | cons a l =>
      rw [hl] at hi
      subst hi
      show _ = match ((a :: l) ++ [t])[l.length]? with | none => 0 | some v => (v : Int) + 2
      rw [List.getElem?_append_left (by rw [List.length_cons]; omega), List.getLast?_eq_getElem?]
      rfl
  refine ⟨⟨P.fl, P.few, by rw [ethr]; exact P.thr, fun c hc => ⟨S.live (P.here c hc).1, by rw [S.given]; exact (P.here c hc).2⟩, fun u hu => by rw [er3 u 5 (by decide)]; exact P.r5 u hu, fun u hu => by rw [er3 u 6 (by decide)]; exact P.r6 u hu, fun u hu => by rw [er3 u 7 (by decide)]; exact P.r7 u hu, by rw [ewords, if_neg (fun e => by cases e.2)]; exact P.hub, fun u hu y hy => ?_, ?_, fun u hu => ?_, fun h => absurd hf h, ?_, fun i u hi => ?_, fun u hu => ?_, fun w u hw' hu => ?_⟩,
    ⟨by rw [S.size]; exact D.size, ⟨⟨D.pub.1.1, S.live D.pub.1.2⟩, by rw [W _ _ (Nat.succ_ne_zero _), S.rf]; exact D.pub.2.1, by rw [W _ _ (by have := D.pub.1.1; show G.pp ≠ 0; omega)]; exact D.pub.2.2⟩, by rw [ew]; exact D.pubw, fun w hw' hd' => ?_, fun w u h1 h2 h3 h4 h5 => D.apart w u h1 h2 h3 (by rw [← hd]; exact h4) (by rw [← hd]; exact h5), fun u hu y hy hc => ?_, fun w hw' hd' => ?_, fun w hw' hd' => ?_, fun u hu hrd => ?_, fun u d2 hu hp2 => ?_, fun u v2 q2 d2 hu hp2 => ?_, fun c h1 h2 h3 => ?_, by rw [ef]; exact D.ok⟩⟩
  · rw [ew] at hy
    obtain ⟨h1, h2⟩ := P.wts u hu y hy
    refine ⟨h1, h2.imp (fun ⟨a1, a2, a3, a4⟩ => ⟨a1, a2, a3, fun e => ⟨hf, fun hm => ?_⟩⟩) id⟩
    rcases List.mem_append.1 hm with hm | hm
    · exact (a4 e).2 hm
    · obtain rfl : u = t := by simpa using hm
      rw [hwt] at hy; cases hy
  · exact List.nodup_append.2 ⟨P.chn, List.nodup_cons.2 ⟨List.not_mem_nil, List.nodup_nil⟩, fun a ha b hb e => by
      obtain rfl : b = t := by simpa using hb
      exact hnj (e ▸ ha)⟩
  · rcases List.mem_append.1 hu with hu | hu
    · exact P.chl u hu
    · obtain rfl : u = t := by simpa using hu
      exact ht
  · rw [ewords, if_pos ⟨rfl, rfl⟩]
    show _ = match (G.ch ++ [t]).getLast? with | none => 0 | some u => (u : Int) + 2
    rw [List.getLast?_concat]
  · rw [W _ _ (Nat.succ_ne_zero _)]
    have hi : (G.ch ++ [t])[i]? = some u := hi
    by_cases hlt : i < G.ch.length
    · rw [List.getElem?_append_left hlt] at hi
      have h1 := P.chw i u hi
      rw [h1]
      cases i with
      | zero => rfl
      | succ j =>
        show _ = match (G.ch ++ [t])[j]? with | none => 0 | some v => (v : Int) + 2
        rw [List.getElem?_append_left (by omega)]
        rfl
    · have hie : i = G.ch.length := by
        have := (List.getElem?_eq_some_iff.1 hi).1
        rw [List.length_append] at this
        have : i < G.ch.length + 1 := this
        omega
      have hu : u = t := by
        rw [hie] at hi
        simpa using hi.symm
      subst hu
      rw [← ov_none hwt, ← hv]
      exact hlast hie
  · rw [hsh, hon]
    by_cases e : u = t
    · subst e
      rw [Gh.at_self, ert]; exact hla
    · rw [Gh.at_ne _ _ e, ern u e]
      refine (P.la u hu).frame ⟨fun hm => ?_, fun hm => List.mem_append_left _ hm⟩ ⟨[t], rfl⟩ (fun _ h => h) (fun _ _ => rfl)
      rcases List.mem_append.1 hm with hm | hm
      · exact hm
      · exact absurd (by simpa using hm) e
  · obtain ⟨h1, h2, h3, h4⟩ := P.old w u hw' hu
    refine ⟨h1, ?_, by rw [hon]; exact h3, by rw [ew]; exact h4⟩
    by_cases e : w = t
    · subst e; rw [Gh.at_self]; exact pt_wait hp h2
    · rw [Gh.at_ne _ _ e]; exact h2
  · rw [hd] at hd'
    obtain ⟨⟨h1, h2⟩, h3, h4⟩ := D.own w hw' hd'
    exact ⟨⟨h1, S.live h2⟩, by rw [er3 w 3 (by decide), S.rf]; exact h3, h4⟩
  · rw [hd, S.gn]
    rw [ew] at hy
    exact D.wts u hu y hy hc
  · rw [hd] at hd'
    obtain ⟨⟨h1, h2⟩, -, -⟩ := D.own w hw' (by omega)
    show vw m' w (G.dx w) (gn m' (G.dx w)) 0 ≠ 0
    rw [S.gn, hvn _ _ _ _ (by omega)]; exact D.set w hw' hd'
  · rw [hd] at hd'
    obtain ⟨⟨h1, h2⟩, -, -⟩ := D.own w hw' (by omega)
    rw [W _ _ (by show G.dx w ≠ 0; omega)]; exact D.ret w hw' hd'
  · have hne : u ≠ t := fun e => by subst e; rw [Gh.at_self] at hrd; exact reads_g hg hrd
    rw [Gh.at_ne _ _ hne] at hrd
    rw [er3 u 3 (by decide), S.rf]
    rcases D.hold u hu hrd with h | ⟨w, h1, h2, h3, h4⟩
    · exact .inl h
    · refine .inr ⟨w, h1, by rw [hd]; exact h2, by rw [S.rf]; exact h3, ?_⟩
      rcases h4 with h4 | h4
      · by_cases e : w = t
        · subst e
          rw [hp] at h4
          exact h4.elim
        · rw [Gh.at_ne _ _ e]; exact .inl h4
      · exact .inr h4
  · have hne : u ≠ t := fun e => by subst e; rw [Gh.at_self] at hp2; cases hp2
    rw [Gh.at_ne _ _ hne] at hp2
    rw [er3 u 4 (by decide)]; exact D.r4 u d2 hu hp2
  · have hne : u ≠ t := fun e => by subst e; rw [Gh.at_self] at hp2; cases hp2
    rw [Gh.at_ne _ _ hne] at hp2
    rw [er3 u 4 (by decide)]; exact D.new4 u v2 q2 d2 hu hp2
  · rw [S.there] at h3
    rcases D.live c h1 h2 h3 with h | ⟨w, k1, k2, k3⟩
    · exact .inl h
    · exact .inr ⟨w, k1, by rw [hd]; exact k2, k3⟩

theorem PD.see (h : PD f n G m) (ht : t < n) {q d q' : Nat} (hp : G.pt t = some ⟨.wait, q, d⟩) (hs : stage f q = 0) (hs' : stage f q' = 1) (hw : f = 2 → ∀ u, u < n → m.mem.waits u = [])
    (hla : d = 0 ∧ (f = 3 → Lw3 (ov m t) (m.regs t) q') ∧ (f ≠ 3 → Bs f (t ∈ G.ch) t 0 (ov m t))) : PD f n ((G.see n t m).at' t (some ⟨.wait, q', d⟩)) m := by
  obtain ⟨P, D⟩ := h
  have o1 : ∀ w u, w ≠ t → (Ol ((G.see n t m).at' t (some ⟨.wait, q', d⟩)) w u ↔ Ol G w u) := fun w u hw => by
    unfold Ol
    show (if w = t then decide (u < n ∧ ov m u 0 ≠ 0) else G.old w u) = true ↔ _
    rw [if_neg hw]
  have o2 : ∀ u, (Ol ((G.see n t m).at' t (some ⟨.wait, q', d⟩)) t u ↔ u < n ∧ ov m u 0 ≠ 0) := fun u => by
    unfold Ol
    show (if t = t then decide (u < n ∧ ov m u 0 ≠ 0) else G.old t u) = true ↔ _
    rw [if_pos rfl, decide_eq_true_iff]
  have hd : ∀ u, dst (((G.see n t m).at' t (some ⟨.wait, q', d⟩)).pt u) = dst (G.pt u) := fun u => by
    by_cases e : u = t
    · subst e; rw [Gh.at_self, hp]; rfl
    · rw [Gh.at_ne _ _ e]; rfl
  refine ⟨⟨P.fl, P.few, P.thr, P.here, P.r5, P.r6, P.r7, P.hub, P.wts, P.chn, P.chl, P.chf, P.chh, P.chw, fun u hu => ?_, fun w u hw' hu => ?_⟩,
    ⟨D.size, D.pub, D.pubw, fun w hw' hd' => D.own w hw' (by rw [← hd]; exact hd'), fun w u h1 h2 h3 h4 h5 => D.apart w u h1 h2 h3 (by rw [← hd]; exact h4) (by rw [← hd]; exact h5), fun u hu y hy hc => by rw [hd]; exact D.wts u hu y hy hc, fun w hw' hd' => D.set w hw' (by rw [← hd]; exact hd'), fun w hw' hd' => D.ret w hw' (by rw [← hd]; exact hd'), fun u hu hrd => ?_, fun u d2 hu hp2 => ?_, fun u v2 q2 d2 hu hp2 => ?_, fun c h1 h2 h3 => ?_, D.ok⟩⟩
  · by_cases e : u = t
    · subst e
      rw [Gh.at_self]
      refine ⟨hla.1, hla.2.1, hla.2.2, ?_⟩
      rw [hs']
      intro x hx
      obtain ⟨h1, h2⟩ := (o2 x).1 hx
      by_cases hf : f = 4
      · subst hf
        rcases Classical.em (x ∈ G.ch) with h | h
        · exact h
        · exact absurd ((P.la x h1).nj h) h2
      · exact P.chf hf x h1
    · rw [Gh.at_ne _ _ e]
      exact (P.la u hu).frame Iff.rfl ⟨[], (List.append_nil _).symm⟩ (fun x h => (o1 u x e).1 h) (fun _ _ => rfl)
  · by_cases e : w = t
    · subst e
      obtain ⟨h1, h2⟩ := (o2 u).1 hu
      refine ⟨h1, ⟨q', d, by rw [Gh.at_self]⟩, h2, fun x hx hc => ?_⟩
      by_cases hf : f = 2
      · rw [hw hf u h1] at hx; cases hx
      · rcases (P.wts u h1 x hx).2 with ⟨-, -, h3, -⟩ | h3
        · exact h3 hf
        · omega
    · rw [Gh.at_ne _ _ e]
      exact P.old w u hw' ((o1 w u e).1 hu)
  · have hne : u ≠ t := fun e => by subst e; rw [Gh.at_self] at hrd; exact hrd.elim
    rw [Gh.at_ne _ _ hne] at hrd
    rcases D.hold u hu hrd with h | ⟨w, h1, h2, h3, h4⟩
    · exact .inl h
    · refine .inr ⟨w, h1, by rw [hd]; exact h2, h3, ?_⟩
      by_cases e : w = t
      · subst e
        refine .inr ((o2 u).2 ⟨hu, ?_⟩)
        have hL := P.la u hu
        have hrd : reads (G.pt u) := hrd
        cases hg : G.pt u with
        | none => rw [hg] at hrd; exact hrd.elim
        | some p =>
          obtain ⟨tg, q2, d2⟩ := p
          rw [hg] at hrd hL
          have key : Bs f (u ∈ G.ch) u d2 (ov m u) ∧ 0 < d2 := by
            cases tg with
            | get => exact hL
            | read => exact hL
            | _ => exact hrd.elim
          obtain ⟨⟨b1, b2, -⟩, hpos⟩ := key
          by_cases hf : f = 3
          · intro e; have := b1 hf; rw [e] at this; cases this
          · exact ((b2 hf).2 hpos).1
      · rw [Gh.at_ne _ _ e]
        exact h4.imp id (fun h => (o1 w u e).2 h)
  · have hne : u ≠ t := fun e => by subst e; rw [Gh.at_self] at hp2; cases hp2
    rw [Gh.at_ne _ _ hne] at hp2
    exact D.r4 u d2 hu hp2
  · have hne : u ≠ t := fun e => by subst e; rw [Gh.at_self] at hp2; cases hp2
    rw [Gh.at_ne _ _ hne] at hp2
    exact D.new4 u v2 q2 d2 hu hp2
  · rcases D.live c h1 h2 h3 with h | ⟨w, k1, k2, k3⟩
    · exact .inl h
    · exact .inr ⟨w, k1, by rw [hd]; exact k2, k3⟩
end
end Go.Proofs.YtaiigfcfmcicjaaGreatDoor

/- GcI -/
namespace Go.Proofs.YtaiigfcfmcicjaaGreatDoor
open Go.RowKit

theorem fresh_of : ∀ (k : Nat) (l : List Nat) (a : Nat), l.length ≤ k → ∃ c, a ≤ c ∧ c ≤ a + k ∧ c ∉ l
  | 0, l, a, h => ⟨a, Nat.le_refl _, Nat.le_refl _, by
    have : l = [] := List.length_eq_zero_iff.1 (by omega)
    rw [this]; exact List.not_mem_nil⟩
  | k + 1, l, a, h => by
    by_cases ha : a ∈ l
    · have hl : (l.filter (fun x => x != a)).length ≤ k := by
        have h1 : (l.filter (fun x => x != a)).length < l.length := by
          rw [List.length_filter_lt_length_iff_exists]
          exact ⟨a, ha, by simp⟩
        omega
      obtain ⟨c, h1, h2, h3⟩ := fresh_of k _ (a + 1) hl
      refine ⟨c, by omega, by omega, fun hc => h3 (List.mem_filter.2 ⟨hc, ?_⟩)⟩
      have : c ≠ a := by omega
      simpa using this
    · exact ⟨a, Nat.le_refl _, by omega, ha⟩

section
variable {f n : Nat} {G : Gh} {m m' : Mk} {t : Nat}
theorem PD.free? (h : PD f n G m) : ∃ c, m.mem.ar.free? = some c ∧ n + 2 ≤ c ∧ c < 30 ∧ m.mem.ar.there c = false := by
  obtain ⟨P, D⟩ := h
  have hfew := P.few
  cases hf : m.mem.ar.free? with
  | some c =>
    obtain ⟨h1, -, h3⟩ := Ar.free_some hf
    rw [D.size] at h1
    refine ⟨c, rfl, ?_, h1, h3⟩
    rcases Nat.lt_or_ge c (n + 2) with h | h
    · have := (P.here c (by omega)).1.there
      rw [this] at h3; cases h3
    · exact h
  | none =>
    have hall := Ar.free_none hf
    rw [D.size] at hall
    obtain ⟨c, h1, h2, h3⟩ := fresh_of (n + 1) (G.pp :: (List.range n).map G.dx) (n + 2) (by simp)
    have := hall c (by omega)
    rcases D.live c h1 (by omega) this with rfl | ⟨w, k1, -, rfl⟩
    · exact absurd List.mem_cons_self h3
    · exact absurd (List.mem_cons_of_mem _ (List.mem_map.2 ⟨w, List.mem_range.2 k1, rfl⟩)) h3
theorem PD.not_old (h : PD f n G m) (ht : t < n) (hp : ∀ q d, G.pt t ≠ some ⟨.wait, q, d⟩) (u : Nat) : ¬ Ol G t u := fun hu => by
  obtain ⟨-, ⟨q, d, e⟩, -⟩ := h.1.old t u ht hu
  exact hp q d e
theorem La_data {f : Nat} {C : List Nat} {O : Nat → Prop} {s : Nat → Int} {t : Nat} {V r : Nat → Int} {tg : Tg} {q d : Nat} (h : La f C O s t V r (some ⟨tg, q, d⟩)) (q' : Nat) (O' : Nat → Prop) (s' r' : Nat → Int) : (∃ v, tg = .new v) ∨ tg = .pub ∨ tg = .free ∨ tg = .get ∨ tg = .read → La f C O' s' t V r' (some ⟨tg, q', d⟩) := by
  rintro (⟨v, rfl⟩ | rfl | rfl | rfl | rfl) <;> exact h

theorem PD.alloc (h : PD f n G m) (ht : t < n) {v : Int} {d : Nat} (hp : G.pt t = some ⟨.new v, 0, d⟩) : ∃ c, PD f n ({ G with dx := fun w => if w = t then c else G.dx w }.at' t (some ⟨.new v, 1, d⟩)) (m.alloc t 3) := by
  obtain ⟨c, hc, c2, c3, c4⟩ := h.free?
  have hno := h.not_old ht (fun q d e => by rw [hp] at e; cases e)
  obtain ⟨P, D⟩ := h
  refine ⟨c, ?_⟩
  have e0 : m.alloc t 3 = (m.setMem (m.mem.give c)).setReg t 3 ((m.mem.ar.given c : Int) * 64 + c + 1) := by
    unfold Mk.alloc
    rw [hc]
  rw [e0]
  generalize hm' : (m.setMem (m.mem.give c)).setReg t 3 ((m.mem.ar.given c : Int) * 64 + c + 1) = m'
  have ewords : ∀ x j, m'.mem.ar.words x j = if x = c ∧ j < 4 then 0 else m.mem.ar.words x j := fun x j => by rw [← hm']; rfl
  have ethere : ∀ x, m'.mem.ar.there x = if x = c then true else m.mem.ar.there x := fun x => by rw [← hm']; rfl
  have egiven : ∀ x, m'.mem.ar.given x = if x = c then m.mem.ar.given c + 1 else m.mem.ar.given x := fun x => by rw [← hm']; rfl
  have esize : m'.mem.ar.size = m.mem.ar.size := by rw [← hm']; rfl
  have ethr : m'.mem.threads = m.mem.threads := by rw [← hm']; rfl
  have erg : ∀ u j, m'.regs u j = if u = t ∧ j = 3 then (m.mem.ar.given c : Int) * 64 + c + 1 else m.regs u j := fun u j => by rw [← hm']; rfl
  have ern : ∀ u, u ≠ t → m'.regs u = m.regs u := fun u hu => by funext j; rw [erg, if_neg (fun e => hu e.1)]
  have er5 : ∀ u j, j ≠ 3 → m'.regs u j = m.regs u j := fun u j hj => by rw [erg, if_neg (fun e => hj e.2)]
  have ef : m'.faults = m.faults := by rw [← hm']; rfl
  have ew : m'.mem.waits = m.mem.waits := by rw [← hm']; rfl
  have sm : m.mem.ar.size ≤ 64 := (P.here 0 (by omega)).1.small
  have L : ∀ x, x ≠ c → Live m x → Live m' x := fun x hx h => ⟨by rw [esize]; exact h.lt, by rw [ethere, if_neg hx]; exact h.there, by rw [egiven, if_neg hx]; exact h.given, by rw [esize]; exact h.small⟩
  have Lc : Live m' c := ⟨by rw [esize, D.size]; exact c3, by rw [ethere, if_pos rfl], by rw [egiven, if_pos rfl]; omega, by rw [esize]; exact sm⟩
  have R : ∀ x, x ≠ c → rf m' x = rf m x := fun x hx => by unfold rf; rw [egiven, if_neg hx]
  have Gn : ∀ x, x ≠ c → gn m' x = gn m x := fun x hx => by unfold gn; rw [egiven, if_neg hx]
  have Rc : rf m' c = (m.mem.ar.given c : Int) * 64 + c + 1 := by unfold rf; rw [egiven, if_pos rfl]; omega
  have W : ∀ x j, x ≠ c → m'.mem.ar.words x j = m.mem.ar.words x j := fun x j hx => by rw [ewords, if_neg (fun e => hx e.1)]
  have hvn : ∀ u x g j, x ≠ c → vw m' u x g j = vw m u x g j := fun u x g j hx => by unfold vw; rw [ew, W x j hx]
  have nel : ∀ x, Live m x → x ≠ c := fun x hx e => by rw [e] at hx; have := hx.there; rw [c4] at this; cases this
  have hon : ∀ u, u < n → ov m' u = ov m u := fun u hu => by funext j; exact hvn u _ _ _ (by omega)
  have hsh : ∀ u, u < n → sh m' u = sh m u := fun u hu => W _ _ (by omega)
  have hd0 : dst (G.pt t) = 0 := by rw [hp]; rfl
  have hd : ∀ u, u ≠ t → dst (({ G with dx := fun w => if w = t then c else G.dx w }.at' t (some ⟨.new v, 1, d⟩)).pt u) = dst (G.pt u) := fun u hu => by rw [Gh.at_ne _ _ hu]
  have hdt : dst (({ G with dx := fun w => if w = t then c else G.dx w }.at' t (some ⟨.new v, 1, d⟩)).pt t) = 1 := by rw [Gh.at_self]; rfl
  have hxn : ∀ w, w ≠ t → (({ G with dx := fun w => if w = t then c else G.dx w }.at' t (some ⟨.new v, 1, d⟩)).dx w) = G.dx w := fun w hw => if_neg hw
  have hxt : (({ G with dx := fun w => if w = t then c else G.dx w }.at' t (some ⟨.new v, 1, d⟩)).dx t) = c := if_pos rfl
  refine ⟨⟨P.fl, P.few, by rw [ethr]; exact P.thr, fun x hx => ⟨L x (by omega) (P.here x hx).1, by rw [egiven, if_neg (by omega)]; exact (P.here x hx).2⟩, fun u hu => by rw [er5 u 5 (by decide)]; exact P.r5 u hu, fun u hu => by rw [er5 u 6 (by decide)]; exact P.r6 u hu, fun u hu => by rw [er5 u 7 (by decide)]; exact P.r7 u hu, by rw [W 0 0 (by omega)]; exact P.hub, by rw [ew]; exact P.wts, P.chn, P.chl, P.chf, by rw [W 0 1 (by omega)]; exact P.chh, fun i u hi => ?_, fun u hu => ?_, fun w u hw' hu => ?_⟩,
    ⟨by rw [esize]; exact D.size, ⟨⟨D.pub.1.1, L _ (nel _ D.pub.1.2) D.pub.1.2⟩, ?_, ?_⟩, by rw [ew]; exact D.pubw, fun w hw' hd' => ?_, fun w u h1 h2 h3 h4 h5 => ?_, fun u hu y hy hc => ?_, fun w hw' hd' => ?_, fun w hw' hd' => ?_, fun u hu hrd => ?_, fun u d2 hu hp2 => ?_, fun u v2 q2 d2 hu hp2 => ?_, fun x h1 h2 h3 => ?_, by rw [ef]; exact D.ok⟩⟩
  · have := P.chl u (List.mem_of_getElem? hi)
    rw [W _ _ (by omega)]; exact P.chw i u hi
  · rw [hon u hu]
    by_cases e : u = t
    · subst e
      have := P.la u hu
      rw [hp] at this
      rw [Gh.at_self]
      exact La_data this 1 _ _ _ (.inl ⟨v, rfl⟩)
    · rw [Gh.at_ne _ _ e, ern u e]
      exact (P.la u hu).frame Iff.rfl ⟨[], (List.append_nil _).symm⟩ (fun _ h => h) (fun x hx => hsh x (P.old u x hu hx).1)
  · obtain ⟨h1, h2, h3, h4⟩ := P.old w u hw' hu
    refine ⟨h1, ?_, by rw [hon u h1]; exact h3, by rw [ew]; exact h4⟩
    by_cases e : w = t
    · subst e; exact absurd hu (hno u)
    · rw [Gh.at_ne _ _ e]; exact h2
  · show m'.mem.ar.words (n + 1) 0 = rf m' G.pp
    rw [W _ _ (by omega), R _ (nel _ D.pub.1.2)]; exact D.pub.2.1
  · show m'.mem.ar.words G.pp 0 ≠ 0
    rw [W _ _ (nel _ D.pub.1.2)]; exact D.pub.2.2
  · by_cases e : w = t
    · subst e
      rw [hxt]
      refine ⟨⟨c2, Lc⟩, by rw [erg, if_pos ⟨rfl, rfl⟩, Rc], fun e => nel _ D.pub.1.2 e.symm⟩
    · rw [hd w e] at hd'
      obtain ⟨⟨h1, h2⟩, h3, h4⟩ := D.own w hw' hd'
      rw [hxn w e, R _ (nel _ h2), ern w e]
      exact ⟨⟨h1, L _ (nel _ h2) h2⟩, h3, h4⟩
  · by_cases e : w = t
    · subst e
      have hu' : u ≠ w := fun e => h3 e.symm
      rw [hd u hu'] at h5
      rw [hxt, hxn u hu']
      exact fun e => nel _ (D.own u h2 h5).1.2 e.symm
    · by_cases e2 : u = t
      · subst e2
        rw [hd w e] at h4
        rw [hxt, hxn w e]
        exact nel _ (D.own w h1 h4).1.2
      · rw [hd w e] at h4
        rw [hd u e2] at h5
        rw [hxn w e, hxn u e2]; exact D.apart w u h1 h2 h3 h4 h5
  · rw [ew] at hy
    have hD := D.wts u hu y hy hc
    have hne : u ≠ t := fun e => by subst e; rw [hd0] at hD; cases hD.1
    have hL := (D.own u hu (by omega)).1.2
    rw [hd u hne, hxn u hne, Gn _ (nel _ hL)]; exact hD
  · by_cases e : w = t
    · subst e; rw [hdt] at hd'; cases hd'
    · rw [hd w e] at hd'
      have hL := (D.own w hw' (by omega)).1.2
      rw [hxn w e, Gn _ (nel _ hL), hvn _ _ _ _ (nel _ hL)]; exact D.set w hw' hd'
  · by_cases e : w = t
    · subst e; rw [hdt] at hd'; cases hd'
    · rw [hd w e] at hd'
      have hL := (D.own w hw' (by omega)).1.2
      rw [hxn w e, W _ _ (nel _ hL)]; exact D.ret w hw' hd'
  · have hne : u ≠ t := fun e => by subst e; rw [Gh.at_self] at hrd; exact hrd.elim
    rw [Gh.at_ne _ _ hne] at hrd
    rw [ern u hne]
    rcases D.hold u hu hrd with h | ⟨w, h1, h2, h3, h4⟩
    · refine .inl ?_
      show m.regs u 3 = rf m' G.pp
      rw [R _ (nel _ D.pub.1.2)]; exact h
    · have hwt : w ≠ t := fun e => by subst e; rw [hd0] at h2; cases h2
      have hL := (D.own w h1 (by omega)).1.2
      refine .inr ⟨w, h1, by rw [hd w hwt]; exact h2, by rw [hxn w hwt, R _ (nel _ hL)]; exact h3, ?_⟩
      rw [Gh.at_ne _ _ hwt]; exact h4
  · have hne : u ≠ t := fun e => by subst e; rw [Gh.at_self] at hp2; cases hp2
    rw [Gh.at_ne _ _ hne] at hp2
    rw [ern u hne]; exact D.r4 u d2 hu hp2
  · by_cases e : u = t
    · subst e
      rw [Gh.at_self] at hp2
      cases hp2
      exact ⟨(D.new4 u v 0 d hu hp).1, fun e => by cases e⟩
    · rw [Gh.at_ne _ _ e] at hp2
      rw [ern u e]; exact D.new4 u v2 q2 d2 hu hp2
  · rw [ethere] at h3
    by_cases e : x = c
    · exact .inr ⟨t, ht, by rw [hdt]; decide, by rw [hxt]; exact e⟩
    · rw [if_neg e] at h3
      rcases D.live x h1 h2 h3 with h | ⟨w, k1, k2, k3⟩
      · exact .inl h
      · have hwt : w ≠ t := fun e => by subst e; exact k2 hd0
        exact .inr ⟨w, k1, by rw [hd w hwt]; exact k2, by rw [hxn w hwt]; exact k3⟩

theorem PD.putd (h : PD f n G m) (ht : t < n) {v : Int} {d : Nat} (hp : G.pt t = some ⟨.new v, 2, d⟩) (hv : v ≠ 0) : PD f n (G.at' t (some ⟨.new v, 3, d⟩)) (m.put t (rf m (G.dx t)) 0 v) := by
  have hno := h.not_old ht (fun q d e => by rw [hp] at e; cases e)
  obtain ⟨P, D⟩ := h
  have hd1 : dst (G.pt t) = 1 := by rw [hp]; rfl
  obtain ⟨⟨x2, Lx⟩, x3, x4⟩ := D.own t ht (by omega)
  have e0 : m.put t (rf m (G.dx t)) 0 v = m.setMem (m.mem.setWaits t (m.mem.waits t ++ [⟨(G.dx t : Int), gn m (G.dx t), 0, v⟩])) := by
    unfold Mk.put
    rw [(rf_cell Lx).1, (rf_cell Lx).2]
  rw [e0]
  generalize hm' : m.setMem (m.mem.setWaits t (m.mem.waits t ++ [⟨(G.dx t : Int), gn m (G.dx t), 0, v⟩])) = m'
  have ear : m'.mem.ar = m.mem.ar := by rw [← hm']; rfl
  have ethr : m'.mem.threads = m.mem.threads := by rw [← hm']; rfl
  have eregs : m'.regs = m.regs := by rw [← hm']; rfl
  have ef : m'.faults = m.faults := by rw [← hm']; rfl
  have ewt : m'.mem.waits t = m.mem.waits t ++ [⟨(G.dx t : Int), gn m (G.dx t), 0, v⟩] := by rw [← hm']; exact if_pos rfl
  have ewn : ∀ u, u ≠ t → m'.mem.waits u = m.mem.waits u := fun u hu => by rw [← hm']; exact if_neg hu
  have S : SameCells m m' := ⟨by rw [ear], by rw [ear], by rw [ear]⟩
  have hmem : ∀ u, ∀ y ∈ m'.mem.waits u, y ∈ m.mem.waits u ∨ u = t ∧ y = ⟨(G.dx t : Int), gn m (G.dx t), 0, v⟩ := fun u y hy => by
    by_cases e : u = t
    · subst e
      rw [ewt] at hy
      rcases List.mem_append.1 hy with h | h
      · exact .inl h
      · exact .inr ⟨rfl, by simpa using h⟩
    · rw [ewn u e] at hy; exact .inl hy
  have hvn : ∀ u c g j, u ≠ t → vw m' u c g j = vw m u c g j := fun u c g j hu => by unfold vw; rw [ewn u hu, ear]
  have hvt : ∀ c g j, vw m' t c g j = if (G.dx t : Int) = c ∧ gn m (G.dx t) = g ∧ (0 : Int) = j then v else vw m t c g j := fun c g j => by
    unfold vw
    rw [ewt, ear, foldl_snoc]
    rfl
  have hon : ∀ u, u < n → ov m' u = ov m u := fun u hu => by
    funext j
    unfold ov
    by_cases e : u = t
    · subst e; rw [hvt, if_neg (fun h => by omega)]
    · exact hvn u _ _ _ e
  have hsh : sh m' = sh m := by funext u; unfold sh; rw [ear]
  have hd : ∀ u, u ≠ t → dst ((G.at' t (some ⟨.new v, 3, d⟩)).pt u) = dst (G.pt u) := fun u hu => by rw [Gh.at_ne _ _ hu]
  have hdt : dst ((G.at' t (some ⟨.new v, 3, d⟩)).pt t) = 2 := by rw [Gh.at_self]; rfl
  have hdz : ∀ u, u < n → dst ((G.at' t (some ⟨.new v, 3, d⟩)).pt u) ≠ 0 → dst (G.pt u) ≠ 0 := fun u hu h => by
    by_cases e : u = t
    · subst e; omega
    · rwa [hd u e] at h
  refine ⟨⟨P.fl, P.few, by rw [ethr]; exact P.thr, fun c hc => ⟨S.live (P.here c hc).1, by rw [ear]; exact (P.here c hc).2⟩, by rw [eregs]; exact P.r5, by rw [eregs]; exact P.r6, by rw [eregs]; exact P.r7, by rw [ear]; exact P.hub, fun u hu y hy => ?_, P.chn, P.chl, P.chf, by rw [ear]; exact P.chh, fun i u hi => by rw [ear]; exact P.chw i u hi, fun u hu => ?_, fun w u hw' hu => ?_⟩,
    ⟨by rw [ear]; exact D.size, ⟨⟨D.pub.1.1, S.live D.pub.1.2⟩, by rw [ear, S.rf]; exact D.pub.2.1, by rw [ear]; exact D.pub.2.2⟩, fun u hu y hy => ?_, fun w hw' hd' => ?_, fun w u h1 h2 h3 h4 h5 => D.apart w u h1 h2 h3 (hdz w h1 h4) (hdz u h2 h5), fun u hu y hy hc => ?_, fun w hw' hd' => ?_, fun w hw' hd' => ?_, fun u hu hrd => ?_, fun u d2 hu hp2 => ?_, fun u v2 q2 d2 hu hp2 => ?_, fun c h1 h2 h3 => ?_, by rw [ef]; exact D.ok⟩⟩
  · rcases hmem u y hy with h | ⟨rfl, rfl⟩
    · exact P.wts u hu y h
    · exact ⟨⟨by show (0 : Int) ≤ (G.dx u : Int); omega, by show (0 : Int) ≤ 0; omega⟩, .inr (by show (n : Int) + 2 ≤ (G.dx u : Int); omega)⟩
  · rw [hsh, hon u hu, eregs]
    by_cases e : u = t
    · subst e
      have := P.la u hu
      rw [hp] at this
      rw [Gh.at_self]
      exact La_data this 3 _ _ _ (.inl ⟨v, rfl⟩)
    · rw [Gh.at_ne _ _ e]; exact P.la u hu
  · obtain ⟨h1, h2, h3, h4⟩ := P.old w u hw' hu
    refine ⟨h1, ?_, by rw [hon u h1]; exact h3, fun y hy hc => ?_⟩
    · by_cases e : w = t
      · subst e; exact absurd hu (hno u)
      · rw [Gh.at_ne _ _ e]; exact h2
    · rcases hmem u y hy with h | ⟨rfl, rfl⟩
      · exact h4 y h hc
      · have hc : (G.dx u : Int) = (u : Int) + 1 := hc
        omega
  · rcases hmem u y hy with h | ⟨rfl, rfl⟩
    · exact D.pubw u hu y h
    · show (G.dx u : Int) ≠ (G.pp : Int)
      omega
  · obtain ⟨⟨h1, h2⟩, h3, h4⟩ := D.own w hw' (hdz w hw' hd')
    exact ⟨⟨h1, S.live h2⟩, by rw [eregs, S.rf]; exact h3, h4⟩
  · rw [S.gn]
    rcases hmem u y hy with h | ⟨rfl, rfl⟩
    · have hD := D.wts u hu y h hc
      have hne : u ≠ t := fun e => by subst e; omega
      rw [hd u hne]; exact hD
    · exact ⟨hdt, rfl, rfl, rfl, hv⟩
  · by_cases e : w = t
    · subst e
      show vw m' w (G.dx w) (gn m' (G.dx w)) 0 ≠ 0
      rw [hvt, S.gn, if_pos ⟨rfl, rfl, rfl⟩]; exact hv
    · rw [hd w e] at hd'
      show vw m' w (G.dx w) (gn m' (G.dx w)) 0 ≠ 0
      rw [S.gn, hvn _ _ _ _ e]; exact D.set w hw' hd'
  · by_cases e : w = t
    · subst e; omega
    · rw [hd w e] at hd'
      rw [ear]; exact D.ret w hw' hd'
  · have hne : u ≠ t := fun e => by subst e; rw [Gh.at_self] at hrd; exact hrd.elim
    rw [Gh.at_ne _ _ hne] at hrd
    rw [eregs, S.rf]
    rcases D.hold u hu hrd with h | ⟨w, h1, h2, h3, h4⟩
    · exact .inl h
    · have hwt : w ≠ t := fun e => by subst e; omega
      exact .inr ⟨w, h1, by rw [hd w hwt]; exact h2, by rw [S.rf]; exact h3, by rw [Gh.at_ne _ _ hwt]; exact h4⟩
  · have hne : u ≠ t := fun e => by subst e; rw [Gh.at_self] at hp2; cases hp2
    rw [Gh.at_ne _ _ hne] at hp2
    rw [eregs]; exact D.r4 u d2 hu hp2
  · by_cases e : u = t
    · subst e
      rw [Gh.at_self] at hp2
      cases hp2
      exact ⟨hv, fun e => by cases e⟩
    · rw [Gh.at_ne _ _ e] at hp2
      rw [eregs]; exact D.new4 u v2 q2 d2 hu hp2
  · rw [ear] at h3
    rcases D.live c h1 h2 h3 with h | ⟨w, k1, k2, k3⟩
    · exact .inl h
    · refine .inr ⟨w, k1, ?_, k3⟩
      by_cases e : w = t
      · subst e; omega
      · rw [hd w e]; exact k2
end
end Go.Proofs.YtaiigfcfmcicjaaGreatDoor

/- GcJ -/
namespace Go.Proofs.YtaiigfcfmcicjaaGreatDoor
open Go.RowKit

section
variable {f n : Nat} {G : Gh} {m m' : Mk} {t : Nat}
def Gh.swap (G : Gh) (t : Nat) : Gh := { G with pp := G.dx t, dx := fun w => if w = t then G.pp else G.dx w }
theorem PD.pubs (h : PD f n G m) (ht : t < n) (hwt : m.mem.waits t = []) {d : Nat} (hp : G.pt t = some ⟨.pub, 0, d⟩) :
    PD f n ((G.swap t).at' t (some ⟨.pub, 1, d⟩)) ((m.setWord ((n : Int) + 2) 0 (m.regs t 3)).setReg t 3 (m.mem.ar.words (n + 1) 0)) := by
  have hno := h.not_old ht (fun q d e => by rw [hp] at e; cases e)
  obtain ⟨P, D⟩ := h
  have hd2 : dst (G.pt t) = 2 := by rw [hp]; rfl
  obtain ⟨⟨x2, Lx⟩, x3, x4⟩ := D.own t ht (by omega)
  obtain ⟨Lr, -, rr⟩ := P.cell (Nat.le_refl (n + 1))
  have ec : (cellOf ((n : Int) + 2)).toNat = n + 1 := by
    have := (rf_cell Lr).1
    rw [rr, show ((n + 1 : Nat) : Int) + 1 = (n : Int) + 2 by omega] at this
    omega
  generalize hm' : (m.setWord ((n : Int) + 2) 0 (m.regs t 3)).setReg t 3 (m.mem.ar.words (n + 1) 0) = m'
  have ewords : ∀ c j, m'.mem.ar.words c j = if c = n + 1 ∧ j = 0 then m.regs t 3 else m.mem.ar.words c j := fun c j => by
    rw [← hm']
    show (if c = (cellOf ((n : Int) + 2)).toNat ∧ j = (0 : Int).toNat then m.regs t 3 else m.mem.ar.words c j) = _
    rw [ec]; rfl
  have S : SameCells m m' := by rw [← hm']; exact ⟨rfl, rfl, rfl⟩
  have ethr : m'.mem.threads = m.mem.threads := by rw [← hm']; rfl
  have erg : ∀ u j, m'.regs u j = if u = t ∧ j = 3 then m.mem.ar.words (n + 1) 0 else m.regs u j := fun u j => by rw [← hm']; rfl
  have ern : ∀ u, u ≠ t → m'.regs u = m.regs u := fun u hu => by funext j; rw [erg, if_neg (fun e => hu e.1)]
  have er5 : ∀ u j, j ≠ 3 → m'.regs u j = m.regs u j := fun u j hj => by rw [erg, if_neg (fun e => hj e.2)]
  have ef : m'.faults = m.faults := by rw [← hm']; rfl
  have ew : m'.mem.waits = m.mem.waits := by rw [← hm']; rfl
  have W : ∀ c j, c ≠ n + 1 → m'.mem.ar.words c j = m.mem.ar.words c j := fun c j hc => by rw [ewords, if_neg (fun e => hc e.1)]
  have hvn : ∀ u c g j, c ≠ n + 1 → vw m' u c g j = vw m u c g j := fun u c g j hc => by unfold vw; rw [ew, W c j hc]
  have hon : ∀ u, u < n → ov m' u = ov m u := fun u hu => by funext j; exact hvn u _ _ _ (by omega)
  have hsh : ∀ u, u < n → sh m' u = sh m u := fun u hu => W _ _ (by omega)
  have hset : m.mem.ar.words (G.dx t) 0 ≠ 0 := by
    have := D.set t ht hd2
    unfold vw at this
    rw [hwt] at this; exact this
  have hd : ∀ u, u ≠ t → dst (((G.swap t).at' t (some ⟨.pub, 1, d⟩)).pt u) = dst (G.pt u) := fun u hu => by rw [Gh.at_ne _ _ hu]; rfl
  have hdt : dst (((G.swap t).at' t (some ⟨.pub, 1, d⟩)).pt t) = 3 := by rw [Gh.at_self]; rfl
  have hxn : ∀ w, w ≠ t → (((G.swap t).at' t (some ⟨.pub, 1, d⟩)).dx w) = G.dx w := fun w hw => if_neg hw
  have hxt : (((G.swap t).at' t (some ⟨.pub, 1, d⟩)).dx t) = G.pp := if_pos rfl
  have hpp : ((G.swap t).at' t (some ⟨.pub, 1, d⟩)).pp = G.dx t := rfl
  refine ⟨⟨P.fl, P.few, by rw [ethr]; exact P.thr, fun x hx => ⟨S.live (P.here x hx).1, by rw [S.given]; exact (P.here x hx).2⟩, fun u hu => by rw [er5 u 5 (by decide)]; exact P.r5 u hu, fun u hu => by rw [er5 u 6 (by decide)]; exact P.r6 u hu, fun u hu => by rw [er5 u 7 (by decide)]; exact P.r7 u hu, by rw [W 0 0 (by omega)]; exact P.hub, by rw [ew]; exact P.wts, P.chn, P.chl, P.chf, by rw [W 0 1 (by omega)]; exact P.chh, fun i u hi => ?_, fun u hu => ?_, fun w u hw' hu => ?_⟩,
    ⟨by rw [S.size]; exact D.size, ⟨⟨x2, S.live Lx⟩, ?_, ?_⟩, fun u hu y hy => ?_, fun w hw' hd' => ?_, fun w u h1 h2 h3 h4 h5 => ?_, fun u hu y hy hc => ?_, fun w hw' hd' => ?_, fun w hw' hd' => ?_, fun u hu hrd => ?_, fun u d2 hu hp2 => ?_, fun u v2 q2 d2 hu hp2 => ?_, fun x h1 h2 h3 => ?_, by rw [ef]; exact D.ok⟩⟩
  · have := P.chl u (List.mem_of_getElem? hi)
    rw [W _ _ (by omega)]; exact P.chw i u hi
  · rw [hon u hu]
    by_cases e : u = t
    · subst e
      have := P.la u hu
      rw [hp] at this
      rw [Gh.at_self]
      exact La_data this 1 _ _ _ (.inr (.inl rfl))
    · rw [Gh.at_ne _ _ e, ern u e]
      exact (P.la u hu).frame Iff.rfl ⟨[], (List.append_nil _).symm⟩ (fun _ h => h) (fun x hx => hsh x (P.old u x hu hx).1)
  · obtain ⟨h1, h2, h3, h4⟩ := P.old w u hw' hu
    refine ⟨h1, ?_, by rw [hon u h1]; exact h3, by rw [ew]; exact h4⟩
    by_cases e : w = t
    · subst e; exact absurd hu (hno u)
    · rw [Gh.at_ne _ _ e]; exact h2
  · rw [ewords, if_pos ⟨rfl, rfl⟩, hpp, S.rf]; exact x3
  · rw [hpp, W _ _ (by omega)]; exact hset
  · rw [hpp]
    rw [ew] at hy
    rcases (P.wts u hu y hy).2 with ⟨h1, -⟩ | h1
    · omega
    · obtain ⟨k1, k2, -⟩ := D.wts u hu y hy h1
      have hne : u ≠ t := fun e => by subst e; rw [hwt] at hy; cases hy
      have := D.apart u t hu ht hne (by omega) (by omega)
      omega
  · by_cases e : w = t
    · subst e
      rw [hxt, hpp]
      exact ⟨⟨D.pub.1.1, S.live D.pub.1.2⟩, by rw [erg, if_pos ⟨rfl, rfl⟩, S.rf]; exact D.pub.2.1, fun e => x4 e.symm⟩
    · rw [hd w e] at hd'
      obtain ⟨⟨h1, h2⟩, h3, h4⟩ := D.own w hw' hd'
      rw [hxn w e, hpp, ern w e, S.rf]
      exact ⟨⟨h1, S.live h2⟩, h3, D.apart w t hw' ht e hd' (by omega)⟩
  · by_cases e : w = t
    · subst e
      have hu' : u ≠ w := fun e => h3 e.symm
      rw [hd u hu'] at h5
      rw [hxt, hxn u hu']
      exact fun e => (D.own u h2 h5).2.2 e.symm
    · by_cases e2 : u = t
      · subst e2
        rw [hd w e] at h4
        rw [hxt, hxn w e]
        exact (D.own w h1 h4).2.2
      · rw [hd w e] at h4
        rw [hd u e2] at h5
        rw [hxn w e, hxn u e2]; exact D.apart w u h1 h2 h3 h4 h5
  · rw [ew] at hy
    have hD := D.wts u hu y hy hc
    have hne : u ≠ t := fun e => by subst e; rw [hwt] at hy; cases hy
    rw [hd u hne, hxn u hne, S.gn]; exact hD
  · by_cases e : w = t
    · subst e; rw [hdt] at hd'; cases hd'
    · rw [hd w e] at hd'
      have h1 := (D.own w hw' (by omega)).1.1
      rw [hxn w e, S.gn, hvn _ _ _ _ (by omega)]; exact D.set w hw' hd'
  · by_cases e : w = t
    · subst e
      have := D.pub.1.1
      rw [hxt, W _ _ (by omega)]; exact D.pub.2.2
    · rw [hd w e] at hd'
      have h1 := (D.own w hw' (by omega)).1.1
      rw [hxn w e, W _ _ (by omega)]; exact D.ret w hw' hd'
  · have hne : u ≠ t := fun e => by subst e; rw [Gh.at_self] at hrd; exact hrd.elim
    rw [Gh.at_ne _ _ hne] at hrd
    rw [ern u hne]
    refine .inr ?_
    rcases D.hold u hu hrd with h | ⟨w, h1, h2, h3, h4⟩
    · exact ⟨t, ht, hdt, by rw [hxt, S.rf]; exact h, .inl (by rw [Gh.at_self]; exact trivial)⟩
    · have hwt2 : w ≠ t := fun e => by subst e; omega
      exact ⟨w, h1, by rw [hd w hwt2]; exact h2, by rw [hxn w hwt2, S.rf]; exact h3, by rw [Gh.at_ne _ _ hwt2]; exact h4⟩
  · have hne : u ≠ t := fun e => by subst e; rw [Gh.at_self] at hp2; cases hp2
    rw [Gh.at_ne _ _ hne] at hp2
    rw [ern u hne]; exact D.r4 u d2 hu hp2
  · have hne : u ≠ t := fun e => by subst e; rw [Gh.at_self] at hp2; cases hp2
    rw [Gh.at_ne _ _ hne] at hp2
    rw [ern u hne]; exact D.new4 u v2 q2 d2 hu hp2
  · rw [S.there] at h3
    rcases D.live x h1 h2 h3 with h | ⟨w, k1, k2, k3⟩
    · exact .inr ⟨t, ht, by rw [hdt]; decide, by rw [hxt]; exact h⟩
    · by_cases e : w = t
      · subst e; exact .inl k3
      · exact .inr ⟨w, k1, by rw [hd w e]; exact k2, by rw [hxn w e]; exact k3⟩

theorem PD.frees (h : PD f n G m) (ht : t < n) (hwt : m.mem.waits t = []) {d : Nat} (hp : G.pt t = some ⟨.free, 0, d⟩) : PD f n (G.at' t (some ⟨.free, 1, d⟩)) (m.setMem (m.mem.setThere (G.dx t) false)) := by
  have hno := h.not_old ht (fun q d e => by rw [hp] at e; cases e)
  obtain ⟨P, D⟩ := h
  have hd3 : dst (G.pt t) = 3 := by rw [hp]; rfl
  obtain ⟨⟨x2, Lx⟩, x3, x4⟩ := D.own t ht (by omega)
  generalize hm' : m.setMem (m.mem.setThere (G.dx t) false) = m'
  have ewords : m'.mem.ar.words = m.mem.ar.words := by rw [← hm']; rfl
  have ethere : ∀ x, m'.mem.ar.there x = if x = G.dx t then false else m.mem.ar.there x := fun x => by rw [← hm']; rfl
  have egiven : m'.mem.ar.given = m.mem.ar.given := by rw [← hm']; rfl
  have esize : m'.mem.ar.size = m.mem.ar.size := by rw [← hm']; rfl
  have ethr : m'.mem.threads = m.mem.threads := by rw [← hm']; rfl
  have er : m'.regs = m.regs := by rw [← hm']; rfl
  have ef : m'.faults = m.faults := by rw [← hm']; rfl
  have ew : m'.mem.waits = m.mem.waits := by rw [← hm']; rfl
  have L : ∀ x, x ≠ G.dx t → Live m x → Live m' x := fun x hx h => ⟨by rw [esize]; exact h.lt, by rw [ethere, if_neg hx]; exact h.there, by rw [egiven]; exact h.given, by rw [esize]; exact h.small⟩
  have R : ∀ x, rf m' x = rf m x := fun x => by unfold rf; rw [egiven]
  have Gn : ∀ x, gn m' x = gn m x := fun x => by unfold gn; rw [egiven]
  have hvn : ∀ u x g j, vw m' u x g j = vw m u x g j := fun u x g j => by unfold vw; rw [ew, ewords]
  have hon : ∀ u, ov m' u = ov m u := fun u => by funext j; exact hvn u _ _ _
  have hsh : sh m' = sh m := by funext u; unfold sh; rw [ewords]
  have hd : ∀ u, u ≠ t → dst ((G.at' t (some ⟨.free, 1, d⟩)).pt u) = dst (G.pt u) := fun u hu => by rw [Gh.at_ne _ _ hu]
  have hdt : dst ((G.at' t (some ⟨.free, 1, d⟩)).pt t) = 0 := by rw [Gh.at_self]; rfl
  have hdn : ∀ u, dst ((G.at' t (some ⟨.free, 1, d⟩)).pt u) ≠ 0 → u ≠ t := fun u h e => by subst e; exact h hdt
  refine ⟨⟨P.fl, P.few, by rw [ethr]; exact P.thr, fun x hx => ⟨L x (by omega) (P.here x hx).1, by rw [egiven]; exact (P.here x hx).2⟩, by rw [er]; exact P.r5, by rw [er]; exact P.r6, by rw [er]; exact P.r7, by rw [ewords]; exact P.hub, by rw [ew]; exact P.wts, P.chn, P.chl, P.chf, by rw [ewords]; exact P.chh, fun i u hi => by rw [ewords]; exact P.chw i u hi, fun u hu => ?_, fun w u hw' hu => ?_⟩,
    ⟨by rw [esize]; exact D.size, ⟨⟨D.pub.1.1, L _ (fun e => x4 e.symm) D.pub.1.2⟩, by rw [ewords, R]; exact D.pub.2.1, by rw [ewords]; exact D.pub.2.2⟩, by rw [ew]; exact D.pubw, fun w hw' hd' => ?_, fun w u h1 h2 h3 h4 h5 => ?_, fun u hu y hy hc => ?_, fun w hw' hd' => ?_, fun w hw' hd' => ?_, fun u hu hrd => ?_, fun u d2 hu hp2 => ?_, fun u v2 q2 d2 hu hp2 => ?_, fun x h1 h2 h3 => ?_, by rw [ef]; exact D.ok⟩⟩
  · rw [hon, hsh, er]
    by_cases e : u = t
    · subst e
      have := P.la u hu
      rw [hp] at this
      rw [Gh.at_self]
      exact La_data this 1 _ _ _ (.inr (.inr (.inl rfl)))
    · rw [Gh.at_ne _ _ e]; exact P.la u hu
  · obtain ⟨h1, h2, h3, h4⟩ := P.old w u hw' hu
    refine ⟨h1, ?_, by rw [hon]; exact h3, by rw [ew]; exact h4⟩
    by_cases e : w = t
    · subst e; exact absurd hu (hno u)
    · rw [Gh.at_ne _ _ e]; exact h2
  · have hne := hdn w hd'
    rw [hd w hne] at hd'
    obtain ⟨⟨h1, h2⟩, h3, h4⟩ := D.own w hw' hd'
    exact ⟨⟨h1, L _ (D.apart w t hw' ht hne hd' (by omega)) h2⟩, by rw [er, R]; exact h3, h4⟩
  · have n1 := hdn w h4
    have n2 := hdn u h5
    rw [hd w n1] at h4
    rw [hd u n2] at h5
    exact D.apart w u h1 h2 h3 h4 h5
  · rw [ew] at hy
    have hD := D.wts u hu y hy hc
    have hne : u ≠ t := fun e => by subst e; rw [hwt] at hy; cases hy
    rw [hd u hne, Gn]; exact hD
  · have hne := hdn w (by omega)
    rw [hd w hne] at hd'
    show vw m' w (G.dx w) (gn m' (G.dx w)) 0 ≠ 0
    rw [Gn, hvn]; exact D.set w hw' hd'
  · have hne := hdn w (by omega)
    rw [hd w hne] at hd'
    rw [ewords]; exact D.ret w hw' hd'
  · have hne : u ≠ t := fun e => by subst e; rw [Gh.at_self] at hrd; exact hrd.elim
    rw [Gh.at_ne _ _ hne] at hrd
    rw [er, R]
    rcases D.hold u hu hrd with h | ⟨w, h1, h2, h3, h4⟩
    · exact .inl h
    · have hwt2 : w ≠ t := fun e => by
        subst e
        rcases h4 with h4 | h4
        · rw [hp] at h4; exact h4.elim
        · exact hno u h4
      exact .inr ⟨w, h1, by rw [hd w hwt2]; exact h2, by rw [R]; exact h3, by rw [Gh.at_ne _ _ hwt2]; exact h4⟩
  · have hne : u ≠ t := fun e => by subst e; rw [Gh.at_self] at hp2; cases hp2
    rw [Gh.at_ne _ _ hne] at hp2
    rw [er]; exact D.r4 u d2 hu hp2
  · have hne : u ≠ t := fun e => by subst e; rw [Gh.at_self] at hp2; cases hp2
    rw [Gh.at_ne _ _ hne] at hp2
    rw [er]; exact D.new4 u v2 q2 d2 hu hp2
  · rw [ethere] at h3
    split at h3
    · cases h3
    · rename_i hx
      rcases D.live x h1 h2 h3 with h | ⟨w, k1, k2, k3⟩
      · exact .inl h
      · have hne : w ≠ t := fun e => by subst e; exact hx k3
        exact .inr ⟨w, k1, by rw [hd w hne]; exact k2, k3⟩
end
end Go.Proofs.YtaiigfcfmcicjaaGreatDoor
