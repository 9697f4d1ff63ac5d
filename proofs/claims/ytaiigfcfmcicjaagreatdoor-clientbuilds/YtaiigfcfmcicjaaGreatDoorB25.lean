import Derived.Test.YtaiigfcfmcicjaaGreatDoorB24

/- GcE -/
namespace Go.Proofs.YtaiigfcfmcicjaaGreatDoor
open Go.RowKit

theorem pre_at {C D : List Nat} {i u : Nat} (h : C[i]? = some u) : (C ++ D)[i]? = some u := by
  rw [List.getElem?_append_left (List.getElem?_eq_some_iff.1 h).1]; exact h
theorem Cur.frame {C C' : List Nat} {O O' : Nat → Prop} {r : Nat → Int} {P P' : Nat → Prop} (h : Cur C O r P) (hC : ∃ D, C' = C ++ D) (hO : ∀ t, O' t → O t) (hP : ∀ u, O' u → P u → P' u) : Cur C' O' r P' := by
  obtain ⟨i, u, h1, h2, h3, h4⟩ := h
  obtain ⟨D, rfl⟩ := hC
  refine ⟨i, u, pre_at h1, h2, fun t ht => ?_, fun hu => hP u hu (h4 (hO u hu))⟩
  obtain ⟨j, hj, hc⟩ := h3 t (hO t ht)
  exact ⟨j, hj, pre_at hc⟩
theorem Scan.frame {C C' : List Nat} {O O' : Nat → Prop} {s s' r : Nat → Int} (hC : ∃ D, C' = C ++ D) (hO : ∀ t, O' t → O t) (hs : ∀ u, O' u → s' u = s u) : ∀ {k : Nat}, Scan C O s r k → Scan C' O' s' r k := by
  have hm : ∀ t, t ∈ C → t ∈ C' := fun t ht => by obtain ⟨D, rfl⟩ := hC; exact List.mem_append_left _ ht
  intro k
  match k with
  | 0 => exact fun h t ht => h t (hO t ht)
  | 1 => exact fun h t ht => hm t (h t (hO t ht))
  | 2 =>
    rintro (⟨h1, h2⟩ | h)
    · exact .inl ⟨h1, fun t ht => hm t (h2 t (hO t ht))⟩
    · exact .inr (h.frame hC hO (fun _ _ h => h))
  | 3 =>
    rintro (⟨h1, h2⟩ | h)
    · exact .inl ⟨h1, fun t ht => hm t (h2 t (hO t ht))⟩
    · exact .inr (h.frame hC hO (fun _ _ h => h))
  | 4 =>
    rintro (⟨h1, h2⟩ | h)
    · exact .inl ⟨h1, fun t ht => h2 t (hO t ht)⟩
    · exact .inr (h.frame hC hO (fun _ _ h => h))
  | 5 => exact fun h => Cur.frame h hC hO (fun _ _ h => h)
  | 6 => exact fun h => Cur.frame h hC hO (fun u hu h => by rw [hs u hu]; exact h)
  | 7 => exact fun h => Cur.frame h hC hO (fun u hu h => by rw [hs u hu]; exact h)
  | 8 => exact fun h => ⟨h.1, h.2.frame hC hO (fun u hu h => by rw [hs u hu]; exact h)⟩
  | 9 => exact fun h => ⟨h.1, h.2.frame hC hO (fun u hu h => by rw [hs u hu]; exact h)⟩
  | 10 => exact fun h => Cur.frame h hC hO (fun u hu h => by rw [hs u hu]; exact h)
  | 11 => exact fun h => ⟨h.1, h.2.frame hC hO (fun u hu h => by rw [hs u hu]; exact h)⟩
  | 12 => exact fun h => Cur.frame h hC hO (fun u hu h => by rw [hs u hu]; exact h)
  | 13 => exact fun h => Cur.frame h hC hO (fun u hu h => by rw [hs u hu]; exact h)
  | 14 => exact fun h => Cur.frame h hC hO (fun u hu h => by rw [hs u hu]; exact h)
  | 15 => exact fun h => Cur.frame h hC hO (fun _ _ h => h)
  | _ + 16 => exact fun h t ht => h t (hO t ht)
theorem La.frame {f : Nat} {C C' : List Nat} {O O' : Nat → Prop} {s s' : Nat → Int} {t : Nat} {V r : Nat → Int} {g : Option Pt} (h : La f C O s t V r g) (hJ : t ∈ C' ↔ t ∈ C) (hC : ∃ D, C' = C ++ D) (hO : ∀ u, O' u → O u) (hs : ∀ u, O' u → s' u = s u) : La f C' O' s' t V r g := by
  have eJ : (t ∈ C') = (t ∈ C) := propext hJ
  cases g with
  | none => unfold La at h ⊢; rw [eJ]; exact h
  | some p =>
    obtain ⟨tg, q, d⟩ := p
    cases tg with
    | wait => exact ⟨h.1, h.2.1, by rw [eJ]; exact h.2.2.1, Scan.frame hC hO hs h.2.2.2⟩
    | rest => exact h
    | gone => exact h
    | enter => unfold La at h ⊢; rw [eJ]; exact h
    | leave => unfold La at h ⊢; rw [eJ]; exact h
    | get => unfold La at h ⊢; rw [eJ]; exact h
    | read => unfold La at h ⊢; rw [eJ]; exact h
    | new v => unfold La at h ⊢; rw [eJ]; exact h
    | pub => unfold La at h ⊢; rw [eJ]; exact h
    | free => unfold La at h ⊢; rw [eJ]; exact h

def PD (f n : Nat) (G : Gh) (m : Mk) : Prop := PI f n G m ∧ DI f n G m

section
variable {f n : Nat} {G : Gh} {m : Mk}
theorem PI.own (h : PI f n G m) {t : Nat} (ht : t < n) : Live m (t + 1) ∧ gn m (t + 1) = 0 ∧ rf m (t + 1) = (t : Int) + 2 := by
  obtain ⟨h1, h2⟩ := h.here (t + 1) (by omega)
  refine ⟨h1, ?_, ?_⟩
  · unfold gn; rw [h2]; rfl
  · unfold rf; rw [h2]; omega
theorem PI.cell (h : PI f n G m) {c : Nat} (hc : c ≤ n + 1) : Live m c ∧ gn m c = 0 ∧ rf m c = (c : Int) + 1 := by
  obtain ⟨h1, h2⟩ := h.here c hc
  refine ⟨h1, ?_, ?_⟩
  · unfold gn; rw [h2]; rfl
  · unfold rf; rw [h2]; omega

theorem PD.drain1 (h : PD f n G m) {t : Nat} (ht : t < n) : PD f n G (m.drain1 t) := by
  obtain ⟨P, D⟩ := h
  cases hw : m.mem.waits t with
  | nil => rw [drain1_nil hw]; exact ⟨P, D⟩
  | cons x l =>
    have E := drain1_cons hw
    generalize m.drain1 t = m' at E
    have hxm : x ∈ m.mem.waits t := by rw [hw]; exact List.mem_cons_self
    have hsub : ∀ y ∈ m'.mem.waits t, y ∈ m.mem.waits t := fun y hy => by rw [E.own] at hy; rw [hw]; exact List.mem_cons_of_mem _ hy
    have hsub' : ∀ u, ∀ y ∈ m'.mem.waits u, y ∈ m.mem.waits u := fun u y hy => by
      by_cases e : u = t
      · subst e; exact hsub y hy
      · rwa [E.waits u e] at hy
    obtain ⟨⟨x0, x1⟩, hx⟩ := P.wts t ht x hxm
    have hxd : (n : Int) + 2 ≤ x.c → dst (G.pt t) = 2 ∧ x.c = (G.dx t : Int) ∧ x.g = gn m (G.dx t) ∧ x.w = 0 ∧ x.v ≠ 0 := D.wts t ht x hxm
    have W : ∀ c k, (c ≠ x.c.toNat ∨ k ≠ x.w.toNat) → m'.mem.ar.words c k = m.mem.ar.words c k := fun c k hne => by
      rw [E.words, if_neg]
      rintro ⟨e1, e2, -⟩
      rcases hne with h | h
      · exact h e1
      · exact h e2
    have hov : ∀ u, u < n → ov m' u = ov m u := fun u hu => by
      funext k
      unfold ov
      by_cases e : u = t
      · subst e
        obtain ⟨L, e0, -⟩ := P.own hu
        have := E.vw L ⟨x0, x1⟩ k
        rwa [e0] at this
      · refine E.vw_ne e ?_ _ _
        rcases hx with ⟨h1, -⟩ | h1 <;> omega
    have hsh : ∀ w, w < n → ∀ u, Ol G w u → sh m' u = sh m u := fun w hw' u hu => by
      obtain ⟨hun, -, -, h4⟩ := P.old w u hw' hu
      unfold sh
      refine W _ _ ?_
      by_cases e : u = t
      · subst e
        rcases hx with ⟨h1, -⟩ | h1
        · have := h4 x hxm h1
          exact .inr (by omega)
        · exact .inl (by omega)
      · refine .inl ?_
        rcases hx with ⟨h1, -⟩ | h1 <;> omega
    have hrf : ∀ c, rf m' c = rf m c := E.cells.rf
    have hgn : ∀ c, gn m' c = gn m c := E.cells.gn
    have hne1 : ∀ c, c ≤ n + 1 → c ≠ t + 1 → c ≠ x.c.toNat := fun c h1 h2 => by
      rcases hx with ⟨h3, -⟩ | h3 <;> omega
    refine ⟨⟨P.fl, P.few, E.thr.trans P.thr, fun c hc => ⟨E.cells.live (P.here c hc).1, by rw [E.cells.given]; exact (P.here c hc).2⟩, fun u hu => by rw [E.regs]; exact P.r5 u hu, fun u hu => by rw [E.regs]; exact P.r6 u hu, fun u hu => by rw [E.regs]; exact P.r7 u hu, ?_, fun u hu y hy => P.wts u hu y (hsub' u y hy), P.chn, P.chl, P.chf, ?_, fun i u hi => ?_, fun u hu => ?_, fun w u hw' hu => ?_⟩,
      ⟨by rw [E.cells.size]; exact D.size, ⟨⟨D.pub.1.1, E.cells.live D.pub.1.2⟩, ?_, ?_⟩, fun u hu y hy => D.pubw u hu y (hsub' u y hy), fun w hw' hd => ?_, D.apart, fun u hu y hy hc => ?_, fun w hw' hd => ?_, fun w hw' hd => ?_, fun u hu hr => ?_, fun u d hu hp => by rw [E.regs]; exact D.r4 u d hu hp, fun u v q d hu hp => by rw [E.regs]; exact D.new4 u v q d hu hp, fun c h1 h2 h3 => ?_, ?_⟩⟩
    · rw [W 0 0 (.inl (hne1 0 (by omega) (by omega)))]; exact P.hub
    · rw [W 0 1 (.inl (hne1 0 (by omega) (by omega)))]; exact P.chh
    · rw [W (u + 1) 1 ?_]
      · exact P.chw i u hi
      · have hmem := List.mem_of_getElem? hi
        have hun := P.chl u hmem
        by_cases e : u = t
        · subst e
          rcases hx with ⟨h1, h2, h3, h4⟩ | h1
          · refine .inr (fun e => ?_)
            exact (h4 (by omega)).2 hmem
          · exact .inl (by omega)
        · exact .inl (hne1 _ (by omega) (by omega))
    · rw [hov u hu, E.regs]
      exact (P.la u hu).frame Iff.rfl ⟨[], (List.append_nil _).symm⟩ (fun _ h => h) (fun v hv => hsh u hu v hv)
    · obtain ⟨h1, h2, h3, h4⟩ := P.old w u hw' hu
      exact ⟨h1, h2, by rw [hov u h1]; exact h3, fun y hy => h4 y (hsub' u y hy)⟩
    · rw [W (n + 1) 0 (.inl (hne1 _ (Nat.le_refl _) (by omega))), hrf]; exact D.pub.2.1
    · rw [W G.pp 0 (.inl ?_)]
      · exact D.pub.2.2
      · have := D.pubw t ht x hxm
        omega
    · obtain ⟨⟨h1, h2⟩, h3, h4⟩ := D.own w hw' hd
      exact ⟨⟨h1, E.cells.live h2⟩, by rw [E.regs, hrf]; exact h3, h4⟩
    · rw [hgn]; exact D.wts u hu y (hsub' u y hy) hc
    · rw [hgn]
      obtain ⟨⟨h1, h2⟩, -, -⟩ := D.own w hw' (by omega)
      by_cases e : w = t
      · subst e
        rw [E.vw h2 ⟨x0, x1⟩]; exact D.set w hw' hd
      · rw [E.vw_ne e]
        · exact D.set w hw' hd
        · rcases hx with ⟨h3, -⟩ | h3
          · omega
          · obtain ⟨k1, k2, -⟩ := hxd h3
            have := D.apart w t hw' ht e (by omega) (by omega)
            omega
    · obtain ⟨⟨h1, h2⟩, -, -⟩ := D.own w hw' (by omega)
      rw [W (G.dx w) 0 (.inl ?_)]
      · exact D.ret w hw' hd
      · rcases hx with ⟨h3, -⟩ | h3
        · omega
        · obtain ⟨k1, k2, -⟩ := hxd h3
          by_cases e : w = t
          · subst e; omega
          · have := D.apart w t hw' ht e (by omega) (by omega)
            omega
    · rw [E.regs, hrf]
      rcases D.hold u hu hr with h | ⟨w, h1, h2, h3, h4⟩
      · exact .inl h
      · exact .inr ⟨w, h1, h2, by rw [hrf]; exact h3, h4⟩
    · rw [E.cells.there] at h3; exact D.live c h1 h2 h3
    · rw [E.faults, if_pos]
      · exact D.ok
      · rcases hx with ⟨h1, h2, -⟩ | h1
        · obtain ⟨L, e0, -⟩ := P.own ht
          have := L.has
          rw [e0] at this
          rw [h1, h2]; exact this
        · obtain ⟨k1, k2, k3, -⟩ := hxd h1
          obtain ⟨⟨-, L⟩, -, -⟩ := D.own t ht (by omega)
          rw [k2, k3]; exact L.has
theorem PD.fence (h : PD f n G m) {t : Nat} (ht : t < n) : PD f n G (m.fence t) := fence_of (P := PD f n G) (fun _ h => h.drain1 ht) h
theorem PD.force (h : PD f n G m) : PD f n G (m.fenceFrom 0 m.mem.threads) := by
  have key : ∀ (k t : Nat) (m : Mk), t + k ≤ n → PD f n G m → PD f n G (m.fenceFrom t k) := by
    intro k
    induction k with
    | zero => intro t m _ h; exact h
    | succ k ih => intro t m hk h; exact ih (t + 1) _ (by omega) (h.fence (show t < n by omega))
  rw [h.1.thr]
  exact key n 0 m (by omega) h
theorem PD.room (h : PD f n G m) {t : Nat} (ht : t < n) : PD f n G (m.room t) := room_of (P := PD f n G) (fun _ h => h.drain1 ht) h
end
end Go.Proofs.YtaiigfcfmcicjaaGreatDoor

/- GcF -/
namespace Go.Proofs.YtaiigfcfmcicjaaGreatDoor
open Go.RowKit

def Gh.at' (G : Gh) (t : Nat) (g : Option Pt) : Gh := { G with pt := fun u => if u = t then g else G.pt u }
theorem Gh.at_self (G : Gh) (t : Nat) (g : Option Pt) : (G.at' t g).pt t = g := if_pos rfl
theorem Gh.at_ne (G : Gh) {t u : Nat} (g : Option Pt) (h : u ≠ t) : (G.at' t g).pt u = G.pt u := if_neg h

section
variable {f n : Nat} {G : Gh} {m m' : Mk} {t : Nat}
theorem live_mem (e : m'.mem = m.mem) {c : Nat} (h : Live m c) : Live m' c := ⟨by rw [e]; exact h.lt, by rw [e]; exact h.there, by rw [e]; exact h.given, by rw [e]; exact h.small⟩
theorem rf_mem (e : m'.mem = m.mem) (c : Nat) : rf m' c = rf m c := by unfold rf; rw [e]
theorem gn_mem (e : m'.mem = m.mem) (c : Nat) : gn m' c = gn m c := by unfold gn; rw [e]
theorem vw_mem (e : m'.mem = m.mem) (u c : Nat) (g : Int) (k : Nat) : vw m' u c g k = vw m u c g k := by unfold vw; rw [e]
theorem ov_mem (e : m'.mem = m.mem) (u : Nat) : ov m' u = ov m u := by funext k; unfold ov vw; rw [e]
theorem sh_mem (e : m'.mem = m.mem) : sh m' = sh m := by funext u; unfold sh; rw [e]

theorem PD.reg (h : PD f n G m) (ht : t < n) {g : Option Pt} (e1 : m'.mem = m.mem) (e2 : m'.faults = m.faults) (e3 : ∀ u, u ≠ t → m'.regs u = m.regs u) (k3 : dst g ≠ 0 → m'.regs t 3 = m.regs t 3) (k3r : reads g → m'.regs t 3 = m.regs t 3 ∧ reads (G.pt t) ∨ m'.regs t 3 = rf m G.pp) (k5 : m'.regs t 5 = m.regs t 5) (k6 : m'.regs t 6 = m.regs t 6) (k7 : m'.regs t 7 = m.regs t 7)
    (hla : La f G.ch (Ol G t) (sh m) t (ov m t) (m'.regs t) g)
    (hw : (∃ u, Ol G t u) → ∃ q d, g = some ⟨.wait, q, d⟩) (hdst : dst g = dst (G.pt t)) (hpre : pre f (G.pt t) → pre f g ∨ ∀ u, u < n → reads (G.pt u) → ¬ m.regs u 3 = rf m (G.dx t))
    (hr4 : ∀ d, g = some ⟨.read, 1, d⟩ → m'.regs t 4 ≠ 0) (hn4 : ∀ v q d, g = some ⟨.new v, q, d⟩ → v ≠ 0 ∧ (q = 2 → m'.regs t 4 = v)) : PD f n (G.at' t g) m' := by
  obtain ⟨P, D⟩ := h
  have hd : ∀ u, dst ((G.at' t g).pt u) = dst (G.pt u) := fun u => by
    by_cases e : u = t
    · subst e; rw [Gh.at_self]; exact hdst
    · rw [Gh.at_ne G g e]
  have hr : ∀ u k, (k = 5 ∨ k = 6 ∨ k = 7) → m'.regs u k = m.regs u k := fun u k hk => by
    by_cases e : u = t
    · subst e
      rcases hk with rfl | rfl | rfl
      · exact k5
      · exact k6
      · exact k7
    · rw [e3 u e]
  refine ⟨⟨P.fl, P.few, by rw [e1]; exact P.thr, fun c hc => ⟨live_mem e1 (P.here c hc).1, by rw [e1]; exact (P.here c hc).2⟩, fun u hu => by rw [hr u 5 (by omega)]; exact P.r5 u hu, fun u hu => by rw [hr u 6 (by omega)]; exact P.r6 u hu, fun u hu => by rw [hr u 7 (by omega)]; exact P.r7 u hu,
      by rw [e1]; exact P.hub, by rw [e1]; exact P.wts, P.chn, P.chl, P.chf, by rw [e1]; exact P.chh, fun i u hi => by rw [e1]; exact P.chw i u hi, fun u hu => ?_, fun w u hw' hu => ?_⟩,
    ⟨by rw [e1]; exact D.size, ⟨⟨D.pub.1.1, live_mem e1 D.pub.1.2⟩, by rw [e1, rf_mem e1]; exact D.pub.2.1, by rw [e1]; exact D.pub.2.2⟩, by rw [e1]; exact D.pubw, fun w hw' hd' => ?_, fun w u h1 h2 h3 h4 h5 => D.apart w u h1 h2 h3 (by rw [← hd]; exact h4) (by rw [← hd]; exact h5), fun u hu x hx hc => ?_, fun w hw' hd' => ?_, fun w hw' hd' => ?_, fun u hu hrd => ?_, fun u d hu hp => ?_, fun u v q d hu hp => ?_, fun c h1 h2 h3 => ?_, by rw [e2]; exact D.ok⟩⟩
  · rw [ov_mem e1, sh_mem e1]
    by_cases e : u = t
    · subst e
      rw [Gh.at_self]; exact hla
    · rw [Gh.at_ne G g e, e3 u e]; exact P.la u hu
  · obtain ⟨h1, ⟨q, d, h2⟩, h3, h4⟩ := P.old w u hw' hu
    refine ⟨h1, ?_, by rw [ov_mem e1]; exact h3, by rw [e1]; exact h4⟩
    by_cases e : w = t
    · subst e
      rw [Gh.at_self]; exact hw ⟨u, hu⟩
    · rw [Gh.at_ne G g e]; exact ⟨q, d, h2⟩
  · rw [hd] at hd'
    obtain ⟨⟨h1, h2⟩, h3, h4⟩ := D.own w hw' hd'
    have h3' : m'.regs w 3 = m.regs w 3 := by
      by_cases e : w = t
      · subst e; exact k3 (by rw [hdst]; exact hd')
      · rw [e3 w e]
    exact ⟨⟨h1, live_mem e1 h2⟩, by rw [h3', rf_mem e1]; exact h3, h4⟩
  · rw [hd, gn_mem e1]
    exact D.wts u hu x (by rw [← e1]; exact hx) hc
  · rw [hd] at hd'
    rw [vw_mem e1, gn_mem e1]; exact D.set w hw' hd'
  · rw [hd] at hd'
    rw [e1]; exact D.ret w hw' hd'
  · have hcase : m'.regs u 3 = m.regs u 3 ∧ reads (G.pt u) ∨ m'.regs u 3 = rf m G.pp := by
      by_cases e : u = t
      · subst e; rw [Gh.at_self] at hrd; exact k3r hrd
      · rw [Gh.at_ne G g e] at hrd
        exact .inl ⟨by rw [e3 u e], hrd⟩
    rw [rf_mem e1]
    rcases hcase with ⟨h3e, hrd'⟩ | h3e
    rotate_left
    · exact .inl h3e
    rw [h3e]
    rcases D.hold u hu hrd' with h | ⟨w, h1, h2, h3, h4⟩
    · exact .inl h
    · refine .inr ⟨w, h1, by rw [hd]; exact h2, by rw [rf_mem e1]; exact h3, ?_⟩
      rcases h4 with h4 | h4
      · by_cases e : w = t
        · subst e
          rw [Gh.at_self]
          rcases hpre h4 with h5 | h5
          · exact .inl h5
          · exact absurd h3 (h5 u hu hrd')
        · rw [Gh.at_ne G g e]; exact .inl h4
      · exact .inr h4
  · by_cases e : u = t
    · subst e; rw [Gh.at_self] at hp; exact hr4 d hp
    · rw [Gh.at_ne G g e] at hp
      rw [e3 u e]; exact D.r4 u d hu hp
  · by_cases e : u = t
    · subst e; rw [Gh.at_self] at hp; exact hn4 v q d hp
    · rw [Gh.at_ne G g e] at hp
      rw [e3 u e]; exact D.new4 u v q d hu hp
  · rw [e1] at h3
    rcases D.live c h1 h2 h3 with h | ⟨w, k1, k2, k3⟩
    · exact .inl h
    · exact .inr ⟨w, k1, by rw [hd]; exact k2, k3⟩

def isG : Tg → Prop
  | .enter => True
  | .leave => True
  | .rest => True
  | .gone => True
  | .wait => True
  | _ => False
theorem dst_g {tg : Tg} (h : isG tg) (q q' d d' : Nat) : dst (some ⟨tg, q, d⟩) = dst (some ⟨tg, q', d'⟩) := by
  cases tg <;> first | rfl | exact h.elim
theorem PD.greg (h : PD f n G m) (ht : t < n) {tg : Tg} {q d q' : Nat} (hg : isG tg) (hp : G.pt t = some ⟨tg, q, d⟩) (e1 : m'.mem = m.mem) (e2 : m'.faults = m.faults) (e3 : ∀ u, u ≠ t → m'.regs u = m.regs u) (e4 : ∀ k, 3 ≤ k → m'.regs t k = m.regs t k)
    (hla : La f G.ch (Ol G t) (sh m) t (ov m t) (m'.regs t) (some ⟨tg, q', d⟩)) (hs : tg = .wait → stage f q = 0 → stage f q' = 0) : PD f n (G.at' t (some ⟨tg, q', d⟩)) m' := by
  refine h.reg ht e1 e2 e3 (fun _ => e4 3 (by decide)) (fun hr => ?_) (e4 5 (by decide)) (e4 6 (by decide)) (e4 7 (by decide)) hla (fun ⟨u, hu⟩ => ?_) (by rw [hp]; exact dst_g hg _ _ _ _) (fun hpr => .inl ?_) (fun d' e => ?_) (fun v q d' e => ?_)
  · cases tg with
    | get => exact hg.elim
    | read => exact hg.elim
    | _ => exact hr.elim
  · obtain ⟨-, ⟨q2, d2, h2⟩, -⟩ := h.1.old t u ht hu
    rw [hp] at h2
    cases h2
    exact ⟨_, _, rfl⟩
  · rw [hp] at hpr
    cases tg with
    | wait => exact hs rfl hpr
    | pub => exact hg.elim
    | _ => exact hpr.elim
  · cases e; exact hg.elim
  · cases e; exact hg.elim
end
end Go.Proofs.YtaiigfcfmcicjaaGreatDoor

/- GcG -/
namespace Go.Proofs.YtaiigfcfmcicjaaGreatDoor
open Go.RowKit

def Gh.cl (G : Gh) (b : Bool) (t : Nat) : Gh := { G with old := fun w u => if u = t ∧ b = true then false else G.old w u }
theorem Gh.cl_le {G : Gh} {b : Bool} {t w u : Nat} (h : Ol (G.cl b t) w u) : Ol G w u ∧ ¬ (u = t ∧ b = true) := by
  have h : (if u = t ∧ b = true then false else G.old w u) = true := h
  split at h
  · cases h
  · rename_i h2; exact ⟨h, h2⟩
theorem Gh.cl_of {G : Gh} {b : Bool} {t w u : Nat} (h : Ol G w u) (h2 : ¬ (u = t ∧ b = true)) : Ol (G.cl b t) w u := by
  show (if u = t ∧ b = true then false else G.old w u) = true
  rw [if_neg h2]; exact h

section
variable {f n : Nat} {G : Gh} {m m' : Mk} {t : Nat}
theorem PD.drain1_ov (h : PD f n G m) (ht : t < n) {u : Nat} (hu : u < n) : ov (m.drain1 t) u = ov m u := by
  obtain ⟨P, D⟩ := h
  cases hw : m.mem.waits t with
  | nil => rw [drain1_nil hw]
  | cons x l =>
    have E := drain1_cons hw
    generalize m.drain1 t = m' at E
    have hxm : x ∈ m.mem.waits t := by rw [hw]; exact List.mem_cons_self
    obtain ⟨⟨x0, x1⟩, hx⟩ := P.wts t ht x hxm
    funext k
    unfold ov
    by_cases e : u = t
    · subst e
      obtain ⟨L, e0, -⟩ := P.own hu
      have := E.vw L ⟨x0, x1⟩ k
      rwa [e0] at this
    · refine E.vw_ne e ?_ _ _
      rcases hx with ⟨h1, -⟩ | h1 <;> omega
theorem PD.fence_ov (h : PD f n G m) (ht : t < n) {u : Nat} (hu : u < n) : ov (m.fence t) u = ov m u :=
  (fence_of (P := fun m' => PD f n G m' ∧ ov m' u = ov m u) (fun _ ⟨h1, h2⟩ => ⟨h1.drain1 ht, (h1.drain1_ov ht hu).trans h2⟩) ⟨h, rfl⟩).2
theorem PD.room_ov (h : PD f n G m) (ht : t < n) {u : Nat} (hu : u < n) : ov (m.room t) u = ov m u := by
  unfold Mk.room
  split
  · exact h.drain1_ov ht hu
  · rfl
theorem PD.fenceFrom_ov : ∀ (k t : Nat) {m : Mk}, t + k ≤ n → PD f n G m → ∀ {u}, u < n → ov (m.fenceFrom t k) u = ov m u
  | 0, _, _, _, _, _, _ => rfl
  | k + 1, t, m, hk, h, u, hu => (PD.fenceFrom_ov k (t + 1) (m := m.fence t) (by omega) (h.fence (by omega)) hu).trans (h.fence_ov (by omega) hu)
theorem ov_none (h : m.mem.waits t = []) (k : Nat) : ov m t k = m.mem.ar.words (t + 1) k := by
  unfold ov vw
  rw [h]; rfl

theorem pt_wait {g : Option Pt} {tg : Tg} {q d q' : Nat} (hp : g = some ⟨tg, q, d⟩) (h : ∃ q d, g = some ⟨.wait, q, d⟩) : ∃ q2 d2, (some ⟨tg, q', d⟩ : Option Pt) = some ⟨.wait, q2, d2⟩ := by
  obtain ⟨q2, d2, e⟩ := h
  rw [hp] at e
  cases e
  exact ⟨_, _, rfl⟩
theorem reads_g {tg : Tg} (h : isG tg) {q d : Nat} : ¬ reads (some ⟨tg, q, d⟩) := by
  cases tg <;> first | exact fun h => h | exact h.elim
theorem pre_g {tg : Tg} (h : isG tg) {q q' d d' : Nat} (hs : tg = .wait → stage f q = 0 → stage f q' = 0) (hp : pre f (some ⟨tg, q, d⟩)) : pre f (some ⟨tg, q', d'⟩) := by
  cases tg with
  | wait => exact hs rfl hp
  | pub => exact h.elim
  | _ => exact hp.elim

theorem PD.put (h : PD f n G m) (ht : t < n) {k : Nat} {v : Int} {b : Bool} {tg : Tg} {q d q' : Nat} (hg : isG tg) (hp : G.pt t = some ⟨tg, q, d⟩) (hk0 : k = 0 → b = true ∧ f = 2) (hk1 : k = 1 → f = 4 ∧ t ∉ G.ch)
    (hla : La f G.ch (Ol (G.cl b t) t) (sh m) t (fun j => if j = k then v else ov m t j) (m.regs t) (some ⟨tg, q', d⟩)) (hs : tg = .wait → stage f q = 0 → stage f q' = 0) :
    PD f n ((G.cl b t).at' t (some ⟨tg, q', d⟩)) (m.put t ((t : Int) + 2) k v) := by
  obtain ⟨P, D⟩ := h
  obtain ⟨Lt, gt0, rt⟩ := P.own ht
  have ec : cellOf ((t : Int) + 2) = (t : Int) + 1 := by rw [← rt, (rf_cell Lt).1]; omega
  have eg : genOf ((t : Int) + 2) = 0 := by rw [← rt, (rf_cell Lt).2, gt0]
  have e0 : m.put t ((t : Int) + 2) k v = m.setMem (m.mem.setWaits t (m.mem.waits t ++ [⟨(t : Int) + 1, 0, k, v⟩])) := by
    unfold Mk.put
    rw [ec, eg]
  rw [e0]
  generalize hm' : m.setMem (m.mem.setWaits t (m.mem.waits t ++ [⟨(t : Int) + 1, 0, k, v⟩])) = m'
  have ear : m'.mem.ar = m.mem.ar := by rw [← hm']; rfl
  have ethr : m'.mem.threads = m.mem.threads := by rw [← hm']; rfl
  have eregs : m'.regs = m.regs := by rw [← hm']; rfl
  have ef : m'.faults = m.faults := by rw [← hm']; rfl
  have ewt : m'.mem.waits t = m.mem.waits t ++ [⟨(t : Int) + 1, 0, k, v⟩] := by rw [← hm']; exact if_pos rfl
  have ewn : ∀ u, u ≠ t → m'.mem.waits u = m.mem.waits u := fun u hu => by rw [← hm']; exact if_neg hu
  have S : SameCells m m' := ⟨by rw [ear], by rw [ear], by rw [ear]⟩
  have hmem : ∀ u, ∀ y ∈ m'.mem.waits u, y ∈ m.mem.waits u ∨ u = t ∧ y = ⟨(t : Int) + 1, 0, k, v⟩ := fun u y hy => by
    by_cases e : u = t
    · subst e
      rw [ewt] at hy
      rcases List.mem_append.1 hy with h | h
      · exact .inl h
      · exact .inr ⟨rfl, by simpa using h⟩
    · rw [ewn u e] at hy; exact .inl hy
  have hvn : ∀ u c g j, u ≠ t → vw m' u c g j = vw m u c g j := fun u c g j hu => by unfold vw; rw [ewn u hu, ear]
  have hvt : ∀ c g j, vw m' t c g j = if (t : Int) + 1 = c ∧ 0 = g ∧ (k : Int) = j then v else vw m t c g j := fun c g j => by
    unfold vw
    rw [ewt, ear, foldl_snoc]
    rfl
  have hot : ov m' t = fun j => if j = k then v else ov m t j := by
    funext j
    unfold ov
    rw [hvt]
    by_cases e : j = k
    · rw [if_pos e, if_pos ⟨by omega, rfl, by omega⟩]
    · rw [if_neg e, if_neg (fun h => e (by omega))]
  have hon : ∀ u, u ≠ t → ov m' u = ov m u := fun u hu => by funext j; exact hvn u _ _ _ hu
  have hsh : sh m' = sh m := by funext u; unfold sh; rw [ear]
  have hd : ∀ u, dst (((G.cl b t).at' t (some ⟨tg, q', d⟩)).pt u) = dst (G.pt u) := fun u => by
    by_cases e : u = t
    · subst e; rw [Gh.at_self, hp]; exact dst_g hg _ _ _ _
    · rw [Gh.at_ne _ _ e]; rfl
  refine ⟨⟨P.fl, P.few, by rw [ethr]; exact P.thr, fun c hc => ⟨S.live (P.here c hc).1, by rw [ear]; exact (P.here c hc).2⟩, by rw [eregs]; exact P.r5, by rw [eregs]; exact P.r6, by rw [eregs]; exact P.r7, by rw [ear]; exact P.hub, fun u hu y hy => ?_, P.chn, P.chl, P.chf, by rw [ear]; exact P.chh, fun i u hi => by rw [ear]; exact P.chw i u hi, fun u hu => ?_, fun w u hw' hu => ?_⟩,
    ⟨by rw [ear]; exact D.size, ⟨⟨D.pub.1.1, S.live D.pub.1.2⟩, by rw [ear, S.rf]; exact D.pub.2.1, by rw [ear]; exact D.pub.2.2⟩, fun u hu y hy => ?_, fun w hw' hd' => ?_, fun w u h1 h2 h3 h4 h5 => D.apart w u h1 h2 h3 (by rw [← hd]; exact h4) (by rw [← hd]; exact h5), fun u hu y hy hc => ?_, fun w hw' hd' => ?_, fun w hw' hd' => ?_, fun u hu hrd => ?_, fun u d2 hu hp2 => ?_, fun u v2 q2 d2 hu hp2 => ?_, fun c h1 h2 h3 => ?_, by rw [ef]; exact D.ok⟩⟩
  · rcases hmem u y hy with h | ⟨rfl, rfl⟩
    · exact P.wts u hu y h
    · refine ⟨⟨by show (0 : Int) ≤ u + 1; omega, by show (0 : Int) ≤ k; omega⟩, .inl ⟨rfl, rfl, fun h2 e => ?_, fun e => ?_⟩⟩
      · have e : (k : Int) = 0 := e
        exact h2 (hk0 (by omega)).2
      · have e : (k : Int) = 1 := e
        exact hk1 (by omega)
  · rw [hsh]
    by_cases e : u = t
    · subst e
      rw [Gh.at_self, hot, eregs]; exact hla
    · rw [Gh.at_ne _ _ e, hon u e, eregs]
      exact (P.la u hu).frame Iff.rfl ⟨[], (List.append_nil _).symm⟩ (fun _ h => (Gh.cl_le h).1) (fun _ _ => rfl)
  · obtain ⟨hu1, hu2⟩ := Gh.cl_le hu
    obtain ⟨h1, h2, h3, h4⟩ := P.old w u hw' hu1
    refine ⟨h1, ?_, ?_, fun y hy hc => ?_⟩
    · by_cases e : w = t
      · subst e; rw [Gh.at_self]; exact pt_wait hp h2
      · rw [Gh.at_ne _ _ e]; exact h2
    · by_cases e : u = t
      · subst e
        rw [hot]
        by_cases e2 : (0 : Nat) = k
        · exact absurd ⟨rfl, (hk0 e2.symm).1⟩ hu2
        · show (if (0 : Nat) = k then v else ov m u 0) ≠ 0
          rw [if_neg e2]; exact h3
      · rw [hon u e]; exact h3
    · rcases hmem u y hy with h | ⟨rfl, rfl⟩
      · exact h4 y h hc
      · intro e
        have e : (k : Int) = 0 := e
        exact hu2 ⟨rfl, (hk0 (by omega)).1⟩
  · rcases hmem u y hy with h | ⟨rfl, rfl⟩
    · exact D.pubw u hu y h
    · have := D.pub.1.1
      show (u : Int) + 1 ≠ (G.pp : Int)
      omega
  · rw [hd] at hd'
    obtain ⟨⟨h1, h2⟩, h3, h4⟩ := D.own w hw' hd'
    exact ⟨⟨h1, S.live h2⟩, by rw [eregs, S.rf]; exact h3, h4⟩
  · rw [hd, S.gn]
    rcases hmem u y hy with h | ⟨rfl, rfl⟩
    · exact D.wts u hu y h hc
    · have hc : (n : Int) + 2 ≤ u + 1 := hc
      omega
  · rw [hd] at hd'
    obtain ⟨⟨h1, h2⟩, -, -⟩ := D.own w hw' (by omega)
    show vw m' w (G.dx w) (gn m' (G.dx w)) 0 ≠ 0
    rw [S.gn]
    by_cases e : w = t
    · subst e
      rw [hvt, if_neg (fun h => by omega)]; exact D.set w hw' hd'
    · rw [hvn _ _ _ _ e]; exact D.set w hw' hd'
  · rw [hd] at hd'
    rw [ear]; exact D.ret w hw' hd'
  · have hne : u ≠ t := fun e => by subst e; rw [Gh.at_self] at hrd; exact reads_g hg hrd
    rw [Gh.at_ne _ _ hne] at hrd
    rw [eregs, S.rf]
    rcases D.hold u hu hrd with h | ⟨w, h1, h2, h3, h4⟩
    · exact .inl h
    · refine .inr ⟨w, h1, by rw [hd]; exact h2, by rw [S.rf]; exact h3, ?_⟩
      rcases h4 with h4 | h4
      · by_cases e : w = t
        · subst e
          rw [Gh.at_self]
          rw [hp] at h4
          exact .inl (pre_g hg hs h4)
        · rw [Gh.at_ne _ _ e]; exact .inl h4
      · exact .inr (Gh.cl_of h4 (fun e => hne e.1))
  · have hne : u ≠ t := fun e => by subst e; rw [Gh.at_self] at hp2; cases hp2; exact hg
    rw [Gh.at_ne _ _ hne] at hp2
    rw [eregs]; exact D.r4 u d2 hu hp2
  · have hne : u ≠ t := fun e => by subst e; rw [Gh.at_self] at hp2; cases hp2; exact hg
    rw [Gh.at_ne _ _ hne] at hp2
    rw [eregs]; exact D.new4 u v2 q2 d2 hu hp2
  · rw [ear] at h3
    rcases D.live c h1 h2 h3 with h | ⟨w, k1, k2, k3⟩
    · exact .inl h
    · exact .inr ⟨w, k1, by rw [hd]; exact k2, k3⟩

theorem PD.setown (h : PD f n G m) (ht : t < n) (hwt : m.mem.waits t = []) {k : Nat} {v w0 : Int} {b : Bool} {tg : Tg} {q d q' : Nat} (hg : isG tg) (hp : G.pt t = some ⟨tg, q, d⟩) (hk : k = 0 ∧ b = true ∨ k = 3)
    (hla : La f G.ch (Ol (G.cl b t) t) (sh m) t (fun j => if j = k then v else ov m t j) (fun j => if j = 0 then w0 else m.regs t j) (some ⟨tg, q', d⟩)) (hs : tg = .wait → stage f q = 0 → stage f q' = 0) :
    PD f n ((G.cl b t).at' t (some ⟨tg, q', d⟩)) ((m.setWord ((t : Int) + 2) k v).setReg t 0 w0) := by
  obtain ⟨P, D⟩ := h
  obtain ⟨Lt, gt0, rt⟩ := P.own ht
  have ec : (cellOf ((t : Int) + 2)).toNat = t + 1 := by rw [← rt, (rf_cell Lt).1]; omega
  generalize hm' : (m.setWord ((t : Int) + 2) k v).setReg t 0 w0 = m'
  have ewords : ∀ c j, m'.mem.ar.words c j = if c = t + 1 ∧ j = k then v else m.mem.ar.words c j := fun c j => by
    rw [← hm']
    show (if c = (cellOf ((t : Int) + 2)).toNat ∧ j = (k : Int).toNat then v else m.mem.ar.words c j) = _
    rw [ec, Int.toNat_natCast]
  have S : SameCells m m' := by rw [← hm']; exact ⟨rfl, rfl, rfl⟩
  have ethr : m'.mem.threads = m.mem.threads := by rw [← hm']; rfl
  have erg : ∀ u j, m'.regs u j = if u = t ∧ j = 0 then w0 else m.regs u j := fun u j => by rw [← hm']; rfl
  have ern : ∀ u, u ≠ t → m'.regs u = m.regs u := fun u hu => by funext j; rw [erg, if_neg (fun e => hu e.1)]
  have er3 : ∀ u j, 3 ≤ j → m'.regs u j = m.regs u j := fun u j hj => by rw [erg, if_neg (fun e => by omega)]
  have ert : m'.regs t = fun j => if j = 0 then w0 else m.regs t j := by
    funext j
    rw [erg]
    by_cases e : j = 0
    · rw [if_pos ⟨rfl, e⟩, if_pos e]
    · rw [if_neg (fun h => e h.2), if_neg e]
  have ef : m'.faults = m.faults := by rw [← hm']; rfl
  have ew : m'.mem.waits = m.mem.waits := by rw [← hm']; rfl
  have W : ∀ c j, c ≠ t + 1 → m'.mem.ar.words c j = m.mem.ar.words c j := fun c j hc => by rw [ewords, if_neg (fun e => hc e.1)]
  have hvn : ∀ u c g j, c ≠ t + 1 → vw m' u c g j = vw m u c g j := fun u c g j hc => by unfold vw; rw [ew, W c j hc]
  have hot : ov m' t = fun j => if j = k then v else ov m t j := by
    funext j
    rw [ov_none (by rw [ew]; exact hwt), ov_none hwt, ewords]
    by_cases e : j = k
    · rw [if_pos ⟨rfl, e⟩, if_pos e]
    · rw [if_neg (fun h => e h.2), if_neg e]
  have hon : ∀ u, u ≠ t → ov m' u = ov m u := fun u hu => by funext j; exact hvn u _ _ _ (by omega)
  have hsh : ∀ w u, Ol (G.cl b t) w u → sh m' u = sh m u := fun w u hu => by
    unfold sh
    rw [ewords, if_neg]
    rintro ⟨e1, e2⟩
    rcases hk with ⟨-, hb⟩ | hk
    · exact (Gh.cl_le hu).2 ⟨by omega, hb⟩
    · omega
  have hd : ∀ u, dst (((G.cl b t).at' t (some ⟨tg, q', d⟩)).pt u) = dst (G.pt u) := fun u => by
    by_cases e : u = t
    · subst e; rw [Gh.at_self, hp]; exact dst_g hg _ _ _ _
    · rw [Gh.at_ne _ _ e]; rfl
  refine ⟨⟨P.fl, P.few, by rw [ethr]; exact P.thr, fun c hc => ⟨S.live (P.here c hc).1, by rw [S.given]; exact (P.here c hc).2⟩, fun u hu => by rw [er3 u 5 (by decide)]; exact P.r5 u hu, fun u hu => by rw [er3 u 6 (by decide)]; exact P.r6 u hu, fun u hu => by rw [er3 u 7 (by decide)]; exact P.r7 u hu, by rw [W 0 0 (by omega)]; exact P.hub, by rw [ew]; exact P.wts, P.chn, P.chl, P.chf, by rw [W 0 1 (by omega)]; exact P.chh, fun i u hi => ?_, fun u hu => ?_, fun w u hw' hu => ?_⟩,
    ⟨by rw [S.size]; exact D.size, ⟨⟨D.pub.1.1, S.live D.pub.1.2⟩, by rw [W _ _ (by omega), S.rf]; exact D.pub.2.1, by rw [W _ _ (by have := D.pub.1.1; show G.pp ≠ _; omega)]; exact D.pub.2.2⟩, by rw [ew]; exact D.pubw, fun w hw' hd' => ?_, fun w u h1 h2 h3 h4 h5 => D.apart w u h1 h2 h3 (by rw [← hd]; exact h4) (by rw [← hd]; exact h5), fun u hu y hy hc => ?_, fun w hw' hd' => ?_, fun w hw' hd' => ?_, fun u hu hrd => ?_, fun u d2 hu hp2 => ?_, fun u v2 q2 d2 hu hp2 => ?_, fun c h1 h2 h3 => ?_, by rw [ef]; exact D.ok⟩⟩
  · rw [ewords, if_neg (fun e => by rcases hk with ⟨h, -⟩ | h <;> omega)]; exact P.chw i u hi
  · by_cases e : u = t
    · subst e
      rw [Gh.at_self, hot, ert]
      exact hla.frame Iff.rfl ⟨[], (List.append_nil _).symm⟩ (fun _ h => h) (fun x hx => hsh u x hx)
    · rw [Gh.at_ne _ _ e, hon u e, ern u e]
      exact (P.la u hu).frame Iff.rfl ⟨[], (List.append_nil _).symm⟩ (fun _ h => (Gh.cl_le h).1) (fun x hx => hsh u x hx)
  · obtain ⟨hu1, hu2⟩ := Gh.cl_le hu
    obtain ⟨h1, h2, h3, h4⟩ := P.old w u hw' hu1
    refine ⟨h1, ?_, ?_, by rw [ew]; exact h4⟩
    · by_cases e : w = t
      · subst e; rw [Gh.at_self]; exact pt_wait hp h2
      · rw [Gh.at_ne _ _ e]; exact h2
    · by_cases e : u = t
      · subst e
        rw [hot]
        show (if (0 : Nat) = k then v else ov m u 0) ≠ 0
        rcases hk with ⟨-, hb⟩ | hk
        · exact absurd ⟨rfl, hb⟩ hu2
        · rw [if_neg (by omega)]; exact h3
      · rw [hon u e]; exact h3
  · rw [hd] at hd'
    obtain ⟨⟨h1, h2⟩, h3, h4⟩ := D.own w hw' hd'
    exact ⟨⟨h1, S.live h2⟩, by rw [er3 w 3 (by decide), S.rf]; exact h3, h4⟩
  · rw [hd, S.gn]
    rw [ew] at hy
    exact D.wts u hu y hy hc
  · rw [hd] at hd'
    obtain ⟨⟨h1, h2⟩, -, -⟩ := D.own w hw' (by omega)
    show vw m' w (G.dx w) (gn m' (G.dx w)) 0 ≠ 0
    rw [S.gn, hvn _ _ _ _ (by omega)]; exact D.set w hw' hd'
  · rw [hd] at hd'
    obtain ⟨⟨h1, h2⟩, -, -⟩ := D.own w hw' (by omega)
    rw [W _ _ (by show G.dx w ≠ _; omega)]; exact D.ret w hw' hd'
  · have hne : u ≠ t := fun e => by subst e; rw [Gh.at_self] at hrd; exact reads_g hg hrd
    rw [Gh.at_ne _ _ hne] at hrd
    rw [er3 u 3 (by decide), S.rf]
    rcases D.hold u hu hrd with h | ⟨w, h1, h2, h3, h4⟩
    · exact .inl h
    · refine .inr ⟨w, h1, by rw [hd]; exact h2, by rw [S.rf]; exact h3, ?_⟩
      rcases h4 with h4 | h4
      · by_cases e : w = t
        · subst e
          rw [Gh.at_self]
          rw [hp] at h4
          exact .inl (pre_g hg hs h4)
        · rw [Gh.at_ne _ _ e]; exact .inl h4
      · exact .inr (Gh.cl_of h4 (fun e => hne e.1))
  · have hne : u ≠ t := fun e => by subst e; rw [Gh.at_self] at hp2; cases hp2; exact hg
    rw [Gh.at_ne _ _ hne] at hp2
    rw [er3 u 4 (by decide)]; exact D.r4 u d2 hu hp2
  · have hne : u ≠ t := fun e => by subst e; rw [Gh.at_self] at hp2; cases hp2; exact hg
    rw [Gh.at_ne _ _ hne] at hp2
    rw [er3 u 4 (by decide)]; exact D.new4 u v2 q2 d2 hu hp2
  · rw [S.there] at h3
    rcases D.live c h1 h2 h3 with h | ⟨w, k1, k2, k3⟩
    · exact .inl h
    · exact .inr ⟨w, k1, by rw [hd]; exact k2, k3⟩
end
end Go.Proofs.YtaiigfcfmcicjaaGreatDoor
