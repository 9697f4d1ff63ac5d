import Derived.Test.YtaiigfcfmcicjaaGreatDoorF23
namespace Go.Proofs.YtaiigfcfmcicjaaGreatDoor
set_option maxRecDepth 100000
set_option maxHeartbeats 8000000
section
open Go.RowKit
theorem qpre_at {C D : List Nat} {i u : Nat} (h : C[i]? = some u) : (C ++ D)[i]? = some u := by
 rw [List.getElem?_append_left (List.getElem?_eq_some_iff.1 h).1]; exact h
theorem Cuq.frame {C C' : List Nat} {O O' : Nat -> Prop} {r : Nat -> Int} {P P' : Nat -> Prop} (h : Cuq C O r P) (hC : ∃ D, C' = C ++ D) (hO : ∀ t, O' t -> O t) (hP : ∀ u, O' u -> P u -> P' u) : Cuq C' O' r P' := by
 obtain ⟨i, u, h1, h2, h3, h4⟩ := h
 obtain ⟨D, rfl⟩ := hC
 refine ⟨i, u, qpre_at h1, h2, fun t ht => ?_, fun hu => hP u hu (h4 (hO u hu))⟩
 obtain ⟨j, hj, hc⟩ := h3 t (hO t ht)
 exact ⟨j, hj, qpre_at hc⟩
theorem Scq.frame {C C' : List Nat} {O O' : Nat -> Prop} {s s' r : Nat -> Int} (hC : ∃ D, C' = C ++ D) (hO : ∀ t, O' t -> O t) (hs : ∀ u, O' u -> s' u = s u) : ∀ {k : Nat}, Scq C O s r k -> Scq C' O' s' r k := by
 have hm : ∀ t, t ∈ C -> t ∈ C' := fun t ht => by obtain ⟨D, rfl⟩ := hC; exact List.mem_append_left _ ht
 intro k
 match k with
 | 0 => exact fun h t ht => h t (hO t ht)
 | 1 => exact fun h t ht => hm t (h t (hO t ht))
 | 2 =>
  rintro (⟨h1, h2⟩ | h)
  ·exact .inl ⟨h1, fun t ht => hm t (h2 t (hO t ht))⟩
  ·exact .inr (h.frame hC hO (fun _ _ h => h))
 | 3 =>
  rintro (⟨h1, h2⟩ | h)
  ·exact .inl ⟨h1, fun t ht => hm t (h2 t (hO t ht))⟩
  ·exact .inr (h.frame hC hO (fun _ _ h => h))
 | 4 =>
  rintro (⟨h1, h2⟩ | h)
  ·exact .inl ⟨h1, fun t ht => h2 t (hO t ht)⟩
  ·exact .inr (h.frame hC hO (fun _ _ h => h))
 | 5 => exact fun h => Cuq.frame h hC hO (fun _ _ h => h)
 | 6 => exact fun h => Cuq.frame h hC hO (fun u hu h => by rw [hs u hu]; exact h)
 | 7 => exact fun h => Cuq.frame h hC hO (fun u hu h => by rw [hs u hu]; exact h)
 | 8 => exact fun h => ⟨h.1, h.2.frame hC hO (fun u hu h => by rw [hs u hu]; exact h)⟩
 | 9 => exact fun h => ⟨h.1, h.2.frame hC hO (fun u hu h => by rw [hs u hu]; exact h)⟩
 | 10 => exact fun h => Cuq.frame h hC hO (fun u hu h => by rw [hs u hu]; exact h)
 | 11 => exact fun h => ⟨h.1, h.2.frame hC hO (fun u hu h => by rw [hs u hu]; exact h)⟩
 | 12 => exact fun h => Cuq.frame h hC hO (fun u hu h => by rw [hs u hu]; exact h)
 | 13 => exact fun h => Cuq.frame h hC hO (fun u hu h => by rw [hs u hu]; exact h)
 | 14 => exact fun h => Cuq.frame h hC hO (fun u hu h => by rw [hs u hu]; exact h)
 | 15 => exact fun h => Cuq.frame h hC hO (fun _ _ h => h)
 | _ + 16 => exact fun h t ht => h t (hO t ht)
theorem Lq.frame {f : Nat} {C C' : List Nat} {O O' : Nat -> Prop} {s s' : Nat -> Int} {t : Nat} {V r : Nat -> Int} {g : Option Pq} (h : Lq f C O s t V r g) (hJ : t ∈ C' ↔ t ∈ C) (hC : ∃ D, C' = C ++ D) (hO : ∀ u, O' u -> O u) (hs : ∀ u, O' u -> s' u = s u) : Lq f C' O' s' t V r g := by
 have eJ : (t ∈ C') = (t ∈ C) := propext hJ
 cases g with
 | none => unfold Lq at h ⊢; rw [eJ]; exact h
 | some p =>
  obtain ⟨tg, q, d⟩ := p
  cases tg with
  | wait => exact ⟨h.1, h.2.1, by rw [eJ]; exact h.2.2.1, Scq.frame hC hO hs h.2.2.2⟩
  | rest => exact h
  | gone => exact h
  | enter => unfold Lq at h ⊢; rw [eJ]; exact h
  | leave => unfold Lq at h ⊢; rw [eJ]; exact h
  | read => unfold Lq at h ⊢; rw [eJ]; exact h
  | put v => unfold Lq at h ⊢; rw [eJ]; exact h
  | drop => unfold Lq at h ⊢; rw [eJ]; exact h
  | later => unfold Lq at h ⊢; rw [eJ]; exact h
  | empty => unfold Lq at h ⊢; rw [eJ]; exact h
section
variable {f n : Nat} {G : Gq} {m m' : Mk} {t : Nat}
theorem QI.own (h : QI f n G m) {t : Nat} (ht : t < n) : Live m (t + 3) /\ gn m (t + 3) = 0 /\ rf m (t + 3) = (t : Int) + 4 := by
 obtain ⟨h1, h2⟩ := h.here (t + 3) (by omega) (by omega)
 refine ⟨h1, ?_, ?_⟩
 ·unfold gn; rw [h2]; rfl
 ·unfold rf; rw [h2]; omega
theorem QI.cell (h : QI f n G m) {c : Nat} (h1 : 1 <= c) (hc : c <= n + 2) : Live m c /\ gn m c = 0 /\ rf m c = (c : Int) + 1 := by
 obtain ⟨h1, h2⟩ := h.here c h1 hc
 refine ⟨h1, ?_, ?_⟩
 ·unfold gn; rw [h2]; rfl
 ·unfold rf; rw [h2]; omega
theorem CI.dc (h : CI f n G m) {w c : Nat} (hw : w < n) (hc : c ∈ ow G w) : (c = 0 ∨ n + 3 <= c) /\ Live m c /\ c ≠ G.pp := ⟨(h.own w hw c hc).1.1, (h.own w hw c hc).1.2, (h.own w hw c hc).2⟩
theorem Ret.ow {w c : Nat} (h : Ret G w c) : c ∈ ow G w := by
 unfold Go.Proofs.YtaiigfcfmcicjaaGreatDoor.ow
 rcases h with h | ⟨h, -⟩
 ·exact List.mem_append_right _ h
 ·rw [h]; exact List.mem_append_left _ (by simp)
theorem QD.wt_has (h : QD f n G m) (ht : t < n) {x : Wt} (hx : x ∈ m.mem.waits t) : m.mem.ar.has x.c x.g = true := by
 obtain ⟨P, D⟩ := h
 rcases (P.wts t ht x hx).2 with ⟨h1, h2, -⟩ | h1
 ·obtain ⟨L, e0, -⟩ := P.own ht
  have := L.has
  rw [e0] at this
  rw [h1, h2]; exact this
 ·obtain ⟨c, hc, k1, k2, -⟩ := D.wts t ht x hx h1
  have := (D.dc ht hc).2.1.has
  rw [k1, k2]; exact this
theorem hdn_same {l : List Nat} (hr : ∀ c, rf m' c = rf m c) : hdn m' l = hdn m l := by
 cases l with
 | nil => rfl
 | cons c l => exact hr c
theorem Lkq.same {w : Nat} (hr : ∀ c, rf m' c = rf m c) (hg : ∀ c, gn m' c = gn m c) : ∀ {l : List Nat}, (∀ c ∈ l, vw m' w c (gn m c) 1 = vw m w c (gn m c) 1) -> Lkq m w l -> Lkq m' w l
 | [], _, h => h
 | c :: l, hv, h => by
  refine ⟨?_, Lkq.same hr hg (fun c hc => hv c (List.mem_cons_of_mem _ hc)) h.2⟩
  rw [hg, hv c List.mem_cons_self, hdn_same hr]; exact h.1
theorem Lc.same {V : Int -> Prop} {w : Nat} {nd : Option Nat} {ls : List Nat} {r : Bool} {g : Option Pq} (hr : ∀ c, rf m' c = rf m c) (hg : ∀ c, gn m' c = gn m c) (he : m'.regs w = m.regs w) (hv : ∀ c k, nd = some c -> vw m' w c (gn m c) k = vw m w c (gn m c) k) (h : Lc V m w nd ls r g) : Lc V m' w nd ls r g := by
 have eh : ∀ l, hdn m' l = hdn m l := fun l => hdn_same hr
 have e1 : NR m' w nd = NR m w nd := by
  unfold NR
  rw [he]
  simp only [hr]
 have e2 : NS m' w nd = NS m w nd := by
  unfold NS
  rw [he]
  simp only [hr]
 have e3 : Nf m' w nd r = Nf m w nd r := by
  unfold Nf
  rw [e1]
 cases g with
 | none =>
  unfold Lc at h ⊢
  rw [he, eh, e3]; exact h
 | some p =>
  obtain ⟨tg, q, d⟩ := p
  cases tg with
  | put v =>
   unfold Lc at h ⊢
   rw [he, eh]
   refine ⟨h.1, ?_⟩
   have h := h.2
   match q, h with
   | 0, h => exact h
   | 1, h => show NR m' w nd; rw [e1]; exact h
   | 2, h => show NS m' w nd; rw [e2]; exact h
   | 3, h => exact ⟨by rw [e2]; exact h.1, h.2⟩
   | 4, h =>
    obtain ⟨c, h1, h2, h3⟩ := h
    exact ⟨c, h1, by rw [hr]; exact h2, by rw [hg, hv c 0 h1]; exact h3⟩
   | q + 5, h => show NR m' w nd; rw [e1]; exact h
  | drop =>
   unfold Lc at h ⊢
   rw [he, eh]
   refine ⟨h.1, ?_⟩
   have h := h.2
   match q, h with
   | 0, h => show NR m' w nd; rw [e1]; exact h
   | 1, h => show NS m' w nd; rw [e2]; exact h
   | q + 2, h => exact h
  | later =>
   unfold Lc at h ⊢
   rw [he, eh]
   refine ⟨h.1, ?_⟩
   have h := h.2
   match q, h with
   | 0, h => show NR m' w nd; rw [e1]; exact h
   | 1, h => show NS m' w nd; rw [e2]; exact h
   | 2, h =>
    obtain ⟨c, h1, h2, h3⟩ := h
    exact ⟨c, h1, by rw [hr]; exact h2, by rw [hg, hv c 1 h1]; exact h3⟩
   | q + 3, h => exact h
  | read =>
   unfold Lc at h ⊢
   rw [he, eh, e3]; exact h
  | empty =>
   unfold Lc at h ⊢
   rw [he, e3]
   refine ⟨h.1, ?_⟩
   have h := h.2
   simp only [eh]
   exact h
  | _ =>
   unfold Lc at h ⊢
   rw [he, eh, e3]; exact h
theorem QI.drain1 (h : QI f n G m) (hh : ∀ x ∈ m.mem.waits t, m.mem.ar.has x.c x.g = true) (ht : t < n) : QI f n G (m.drain1 t) := by
 have P := h
 cases hw : m.mem.waits t with
 | nil => rw [drain1_nil hw]; exact P
 | cons x l =>
  have E := drain1_cons hw
  generalize m.drain1 t = m' at E
  have hxm : x ∈ m.mem.waits t := by rw [hw]; exact List.mem_cons_self
  have hsub : ∀ y ∈ m'.mem.waits t, y ∈ m.mem.waits t := fun y hy => by rw [E.own] at hy; rw [hw]; exact List.mem_cons_of_mem _ hy
  have hsub' : ∀ u, ∀ y ∈ m'.mem.waits u, y ∈ m.mem.waits u := fun u y hy => by
   by_cases e : u = t
   ·subst e; exact hsub y hy
   ·rwa [E.waits u e] at hy
  obtain ⟨⟨x0, x1⟩, hx⟩ := P.wts t ht x hxm
  have W : ∀ c k, (c ≠ x.c.toNat ∨ k ≠ x.w.toNat) -> m'.mem.ar.words c k = m.mem.ar.words c k := fun c k hne => by
   rw [E.words, if_neg]
   rintro ⟨e1, e2, -⟩
   rcases hne with h | h
   ·exact h e1
   ·exact h e2
  have hov : ∀ u, u < n -> ovq m' u = ovq m u := fun u hu => by
   funext k
   unfold ovq
   by_cases e : u = t
   ·subst e
    obtain ⟨L, e0, -⟩ := P.own hu
    have := E.vw L ⟨x0, x1⟩ k
    rwa [e0] at this
   ·refine E.vw_ne e ?_ _ _
    rcases hx with ⟨h1, -⟩ | h1 <;> omega
  have hsh : ∀ w, w < n -> ∀ u, Olq G w u -> shq m' u = shq m u := fun w hw' u hu => by
   obtain ⟨hun, -, -, h4⟩ := P.old w u hw' hu
   unfold shq
   refine W _ _ ?_
   by_cases e : u = t
   ·subst e
    rcases hx with ⟨h1, -⟩ | h1
    ·have := h4 x hxm h1
     exact .inr (by omega)
    ·exact .inl (by omega)
   ·refine .inl ?_
    rcases hx with ⟨h1, -⟩ | h1 <;> omega
  have hne1 : ∀ c, 1 <= c -> c <= n + 2 -> c ≠ t + 3 -> c ≠ x.c.toNat := fun c h0 h1 h2 => by
   rcases hx with ⟨h3, -⟩ | h3 <;> omega
  refine ⟨P.fl, P.few, E.thr.trans P.thr, fun c h0 hc => ⟨E.cells.live (P.here c h0 hc).1, by rw [E.cells.given]; exact (P.here c h0 hc).2⟩, fun u hu => by rw [E.regs]; exact P.r5 u hu, fun u hu => by rw [E.regs]; exact P.r6 u hu, fun u hu => by rw [E.regs]; exact P.r7 u hu, ?_, fun u hu y hy => P.wts u hu y (hsub' u y hy), P.chn, P.chl, P.chf, ?_, fun i u hi => ?_, fun u hu => ?_, fun w u hw' hu => ?_⟩
  ·rw [W 2 0 (.inl (hne1 2 (by omega) (by omega) (by omega)))]; exact P.hub
  ·rw [W 2 1 (.inl (hne1 2 (by omega) (by omega) (by omega)))]; exact P.chh
  ·rw [W (u + 3) 1 ?_]
   ·exact P.chw i u hi
   ·have hmem := List.mem_of_getElem? hi
    have hun := P.chl u hmem
    by_cases e : u = t
    ·subst e
     rcases hx with ⟨h1, h2, h3, h4⟩ | h1
     ·refine .inr (fun e => ?_)
      exact (h4 (by omega)).2 hmem
     ·exact .inl (by omega)
    ·exact .inl (hne1 _ (by omega) (by omega) (by omega))
  ·rw [hov u hu, E.regs]
   exact (P.la u hu).frame Iff.rfl ⟨[], (List.append_nil _).symm⟩ (fun _ h => h) (fun v hv => hsh u hu v hv)
  ·obtain ⟨h1, h2, h3, h4⟩ := P.old w u hw' hu
   exact ⟨h1, h2, by rw [hov u h1]; exact h3, fun y hy => h4 y (hsub' u y hy)⟩
theorem drain1_marks (m : Mk) (t : Nat) : (m.drain1 t).marks = m.marks := by
 unfold Mk.drain1
 split <;> rfl
theorem CI.drain1 (P : QI f n G m) (h : CI f n G m) (hh : ∀ x ∈ m.mem.waits t, m.mem.ar.has x.c x.g = true) (ht : t < n) : CI f n G (m.drain1 t) := by
 have D := h
 have em := drain1_marks m t
 cases hw : m.mem.waits t with
 | nil => rw [drain1_nil hw]; exact D
 | cons x l =>
  have E := drain1_cons hw
  generalize m.drain1 t = m' at E em
  have hxm : x ∈ m.mem.waits t := by rw [hw]; exact List.mem_cons_self
  have hsub' : ∀ u, ∀ y ∈ m'.mem.waits u, y ∈ m.mem.waits u := fun u y hy => by
   by_cases e : u = t
   ·subst e
    rw [E.own] at hy; rw [hw]; exact List.mem_cons_of_mem _ hy
   ·rwa [E.waits u e] at hy
  obtain ⟨⟨x0, x1⟩, hx⟩ := P.wts t ht x hxm
  have hrf : ∀ c, rf m' c = rf m c := E.cells.rf
  have hgn : ∀ c, gn m' c = gn m c := E.cells.gn
  -- a word of a cell that may be put: as it was, or one that may be read, or a link
  have hwd : ∀ c, (c = 0 ∨ n + 3 <= c) -> m'.mem.ar.words c 0 = m.mem.ar.words c 0 ∨ (c ∈ ow G t /\ G.val (m'.mem.ar.words c 0)) := fun c hc => by
   rw [E.words]
   by_cases e : c = x.c.toNat /\ 0 = x.w.toNat /\ m.mem.ar.has x.c x.g = true
   ·rw [if_pos e]
    rcases hx with ⟨h1, -⟩ | h1
    ·omega
    ·obtain ⟨c', k1, k2, -, k3⟩ := D.wts t ht x hxm h1
     have e2 : c = c' := by omega
     subst e2
     rcases k3 with k3 | ⟨-, k3⟩
     ·omega
     ·exact .inr ⟨k1, k3⟩
   ·rw [if_neg e]; exact .inl rfl
  have hval : ∀ c, (c = 0 ∨ n + 3 <= c) -> G.val (m.mem.ar.words c 0) -> G.val (m'.mem.ar.words c 0) := fun c hc hv => by
   rcases hwd c hc with e | e
   ·rw [e]; exact hv
   ·exact e.2
  have hvw : ∀ u, u < n -> ∀ c ∈ ow G u, ∀ k, vw m' u c (gn m c) k = vw m u c (gn m c) k := fun u hu c hc k => by
   obtain ⟨h1, h2, h3⟩ := D.dc hu hc
   by_cases e : u = t
   ·subst e
    exact E.vw h2 ⟨x0, x1⟩ k
   ·refine E.vw_ne e (fun e2 => ?_) _ _
    rcases hx with ⟨h4, -⟩ | h4
    ·omega
    ·obtain ⟨c', k1, k2, -⟩ := D.wts t ht x hxm h4
     have e3 : c = c' := by omega
     subst e3
     exact D.apart u t hu ht e c hc k1
  refine ⟨by rw [E.cells.size]; exact D.size, ⟨⟨D.pub.1.1, E.cells.live D.pub.1.2⟩, ?_, ?_⟩, fun w hw' c hc => ⟨⟨(D.own w hw' c hc).1.1, E.cells.live (D.own w hw' c hc).1.2⟩, (D.own w hw' c hc).2⟩, D.nod, D.apart, fun u hu y hy hc => ?_, fun w hw' c hr => ?_, fun w hw' => ?_, D.kep, fun w hw' => ?_, fun u hu hr => ?_, by rw [E.cells.there]; exact D.live, ?_, by rw [em]; exact D.mks, D.nz⟩
  ·rw [E.words, if_neg (fun e => by rcases hx with ⟨h1, -⟩ | h1 <;> omega), hrf]; exact D.pub.2.1
  ·exact hval _ D.pub.1.1 D.pub.2.2
  ·obtain ⟨c, k1, k2, k3, k4⟩ := D.wts u hu y (hsub' u y hy) hc
   exact ⟨c, k1, k2, by rw [hgn]; exact k3, k4⟩
  ·exact hval c (D.dc hw' hr.ow).1 (D.ret w hw' c hr)
  ·exact Lkq.same hrf hgn (fun c hc => hvw w hw' c (List.mem_append_right _ hc) 1) (D.lst w hw')
  ·exact Lc.same hrf hgn (by rw [E.regs]) (fun c k hc => hvw w hw' c (List.mem_append_left _ (by rw [hc]; simp)) k) (D.loc w hw')
  ·rw [E.regs, hrf]
   rcases D.hold u hu hr with h | ⟨w, h1, c, h2, h3, h4⟩
   ·exact .inl h
   ·exact .inr ⟨w, h1, c, h2, by rw [hrf]; exact h3, h4⟩
  ·rw [E.faults, if_pos (hh x hxm)]; exact D.ok
theorem QD.drain1 (h : QD f n G m) {t : Nat} (ht : t < n) : QD f n G (m.drain1 t) := ⟨h.1.drain1 (fun _ hx => h.wt_has ht hx) ht, h.2.drain1 h.1 (fun _ hx => h.wt_has ht hx) ht⟩
theorem QD.fence (h : QD f n G m) {t : Nat} (ht : t < n) : QD f n G (m.fence t) := fence_of (P := QD f n G) (fun _ h => h.drain1 ht) h
theorem QD.force (h : QD f n G m) : QD f n G (m.fenceFrom 0 m.mem.threads) := by
 have key : ∀ (k t : Nat) (m : Mk), t + k <= n -> QD f n G m -> QD f n G (m.fenceFrom t k) := by
  intro k
  induction k with
  | zero => intro t m _ h; exact h
  | succ k ih => intro t m hk h; exact ih (t + 1) _ (by omega) (h.fence (show t < n by omega))
 rw [h.1.thr]
 exact key n 0 m (by omega) h
theorem QD.room (h : QD f n G m) {t : Nat} (ht : t < n) : QD f n G (m.room t) := room_of (P := QD f n G) (fun _ h => h.drain1 ht) h
end
end
section
open Go.RowKit
def Gq.at' (G : Gq) (t : Nat) (g : Option Pq) : Gq := { G with pt := fun u => if u = t then g else G.pt u }
theorem Gq.at_self (G : Gq) (t : Nat) (g : Option Pq) : (G.at' t g).pt t = g := if_pos rfl
theorem Gq.at_ne (G : Gq) {t u : Nat} (g : Option Pq) (h : u ≠ t) : (G.at' t g).pt u = G.pt u := if_neg h
def isQ : Tq -> Prop
 | .enter => True
 | .leave => True
 | .rest => True
 | .gone => True
 | .wait => True
 | _ => False
theorem rdq_g {tg : Tq} (h : isQ tg) {q d : Nat} : ¬ rdq (some ⟨tg, q, d⟩) := by
 cases tg <;> first | exact fun h => h | exact h.elim
theorem rtd_g {tg : Tq} (h : isQ tg) {q d : Nat} : rtd (some ⟨tg, q, d⟩) := by
 cases tg <;> first | exact trivial | exact h.elim
theorem Lc_g {tg : Tq} (h : isQ tg) {V : Int -> Prop} {m : Mk} {w : Nat} {nd : Option Nat} {ls : List Nat} {r : Bool} {q d : Nat} : Lc V m w nd ls r (some ⟨tg, q, d⟩) ↔ (m.regs w 4 = hdn m ls /\ Nf m w nd r) := by
 cases tg <;> first | exact Iff.rfl | exact h.elim
theorem An_g {f : Nat} {G : Gq} {t c : Nat} {tg : Tq} {q d : Nat} (hg : isQ tg) (hp : G.pt t = some ⟨tg, q, d⟩) : An f G t c ↔ (tg = .wait /\ stageq f q = 0) ∨ (tg ≠ .wait /\ (c ∈ G.ls t ∨ (G.fl t).w = false)) := by
 unfold An
 rw [hp]
 cases tg <;> first | exact hg.elim | simp
section
variable {f n : Nat} {G G' : Gq} {m m' : Mk} {t : Nat}
theorem ovq_mem (e : m'.mem = m.mem) (u : Nat) : ovq m' u = ovq m u := by funext k; unfold ovq vw; rw [e]
theorem shq_mem (e : m'.mem = m.mem) : shq m' = shq m := by funext u; unfold shq; rw [e]
theorem hdn_mem (e : m'.mem = m.mem) (l : List Nat) : hdn m' l = hdn m l := hdn_same (qrf_mem e)
structure Av (t : Nat) (g : Option Pq) (G G' : Gq) : Prop where
 ch : G'.ch = G.ch
 old : G'.old = G.old
 pt : G'.pt t = g
 ptn : ∀ u, u ≠ t -> G'.pt u = G.pt u
theorem Av.at' (G : Gq) (t : Nat) (g : Option Pq) : Av t g G (G.at' t g) := ⟨rfl, rfl, Gq.at_self _ _ _, fun _ hu => Gq.at_ne _ _ hu⟩
theorem QI.data {g : Option Pq} (h : QI f n G m) (ht : t < n) (hG : Av t g G G') (e1 : ∀ c, 1 <= c -> c <= n + 2 -> Live m' c /\ m'.mem.ar.given c = 1) (e2 : m'.mem.threads = m.mem.threads) (e3 : ∀ c k, 2 <= c -> c <= n + 2 -> m'.mem.ar.words c k = m.mem.ar.words c k)
  (e4 : ∀ u, u < n -> ∀ x ∈ m'.mem.waits u, x ∈ m.mem.waits u ∨ (0 <= x.c /\ 0 <= x.w) /\ (x.c = 0 ∨ (n : Int) + 3 <= x.c)) (e5 : ∀ u, u < n -> ovq m' u = ovq m u) (er : ∀ u, u ≠ t -> m'.regs u = m.regs u) (k5 : m'.regs t 5 = m.regs t 5) (k6 : m'.regs t 6 = m.regs t 6) (k7 : m'.regs t 7 = m.regs t 7)
  (hla : Lq f G.ch (Olq G t) (shq m) t (ovq m t) (m'.regs t) g) (hw : (∃ u, Olq G t u) -> ∃ q d, g = some ⟨.wait, q, d⟩) : QI f n G' m' := by
 have P := h
 have hr : ∀ u k, (k = 5 ∨ k = 6 ∨ k = 7) -> m'.regs u k = m.regs u k := fun u k hk => by
  by_cases e : u = t
  ·subst e
   rcases hk with rfl | rfl | rfl
   ·exact k5
   ·exact k6
   ·exact k7
  ·rw [er u e]
 have ho : ∀ w u, Olq G' w u ↔ Olq G w u := fun w u => by unfold Olq; rw [hG.old]
 have hsh : ∀ u, u < n -> shq m' u = shq m u := fun u hu => e3 _ _ (by omega) (by omega)
 refine ⟨P.fl, P.few, by rw [e2]; exact P.thr, e1, fun u hu => by rw [hr u 5 (by omega)]; exact P.r5 u hu, fun u hu => by rw [hr u 6 (by omega)]; exact P.r6 u hu, fun u hu => by rw [hr u 7 (by omega)]; exact P.r7 u hu, by rw [e3 2 0 (by omega) (by omega)]; exact P.hub, fun u hu x hx => ?_, by rw [hG.ch]; exact P.chn, by rw [hG.ch]; exact P.chl, by rw [hG.ch]; exact P.chf, by rw [hG.ch, e3 2 1 (by omega) (by omega)]; exact P.chh, fun i u hi => ?_, fun u hu => ?_, fun w u hw' hu => ?_⟩
 ·rw [hG.ch]
  rcases e4 u hu x hx with h | ⟨h1, h2⟩
  ·exact P.wts u hu x h
  ·exact ⟨h1, .inr h2⟩
 ·rw [hG.ch] at hi ⊢
  have := P.chl u (List.mem_of_getElem? hi)
  rw [e3 _ _ (by omega) (by omega)]; exact P.chw i u hi
 ·rw [hG.ch, e5 u hu]
  by_cases e : u = t
  ·subst e
   rw [hG.pt]
   exact hla.frame Iff.rfl ⟨[], (List.append_nil _).symm⟩ (fun v h => (ho u v).1 h) (fun v hv => hsh v (P.old u v hu ((ho u v).1 hv)).1)
  ·rw [hG.ptn u e, er u e]
   exact (P.la u hu).frame Iff.rfl ⟨[], (List.append_nil _).symm⟩ (fun v h => (ho u v).1 h) (fun v hv => hsh v (P.old u v hu ((ho u v).1 hv)).1)
 ·obtain ⟨h1, ⟨q, d, h2⟩, h3, h4⟩ := P.old w u hw' ((ho w u).1 hu)
  refine ⟨h1, ?_, by rw [e5 u h1]; exact h3, fun x hx hc => ?_⟩
  ·by_cases e : w = t
   ·subst e
    rw [hG.pt]; exact hw ⟨u, (ho w u).1 hu⟩
   ·rw [hG.ptn w e]; exact ⟨q, d, h2⟩
  ·rcases e4 u h1 x hx with h | ⟨-, h⟩
   ·exact h4 x h hc
   ·omega
theorem QI.reg {g : Option Pq} (h : QI f n G m) (ht : t < n) (hG : Av t g G G') (e1 : m'.mem = m.mem) (er : ∀ u, u ≠ t -> m'.regs u = m.regs u) (k5 : m'.regs t 5 = m.regs t 5) (k6 : m'.regs t 6 = m.regs t 6) (k7 : m'.regs t 7 = m.regs t 7)
  (hla : Lq f G.ch (Olq G t) (shq m) t (ovq m t) (m'.regs t) g) (hw : (∃ u, Olq G t u) -> ∃ q d, g = some ⟨.wait, q, d⟩) : QI f n G' m' :=
 h.data ht hG (fun c h1 h2 => ⟨qlive_mem e1 (h.here c h1 h2).1, by rw [e1]; exact (h.here c h1 h2).2⟩) (by rw [e1]) (fun c k _ _ => by rw [e1]) (fun u _ x hx => .inl (by rw [<- e1]; exact hx)) (fun u _ => ovq_mem e1 u) er k5 k6 k7 hla hw
theorem CI.reg {g : Option Pq} (h : CI f n G m) (ht : t < n) (hG : Av t g G G') (gp : G'.pp = G.pp) (gv : G'.val = G.val) (gnd : ∀ u, u ≠ t -> G'.nd u = G.nd u) (gls : ∀ u, u ≠ t -> G'.ls u = G.ls u) (gfl : ∀ u, u ≠ t -> G'.fl u = G.fl u)
  (e1 : m'.mem = m.mem) (e2 : m'.faults = m.faults) (hmk : ∀ x ∈ m'.marks, G.val x.2) (er : ∀ u, u ≠ t -> m'.regs u = m.regs u) (hpe : (ow G' t).Perm (ow G t)) (hlk : Lkq m t (G'.ls t)) (hkp : (G'.fl t).k = false -> G'.ls t = []) (hlc : Lc G.val m' t (G'.nd t) (G'.ls t) (G'.fl t).r g)
  (hr1 : ∀ c, Ret G' t c -> Ret G t c) (hr2 : ∀ c, Ret G t c -> Ret G' t c /\ (An f G t c -> An f G' t c)) (hrd : rdq g -> m'.regs t 0 = rf m G.pp) : CI f n G' m' := by
 have D := h
 have how : ∀ u c, c ∈ ow G' u ↔ c ∈ ow G u := fun u c => by
  by_cases e : u = t
  ·subst e; exact hpe.mem_iff
  ·unfold ow; rw [gnd u e, gls u e]
 have hre : ∀ u, u ≠ t -> ∀ c, Ret G' u c ↔ Ret G u c := fun u hu c => by unfold Ret; rw [gnd u hu, gls u hu, hG.ptn u hu]
 have han : ∀ u, u ≠ t -> ∀ c, An f G' u c ↔ An f G u c := fun u hu c => by unfold An; rw [gls u hu, gfl u hu, hG.ptn u hu]
 have hrt : ∀ u c, Ret G' u c -> Ret G u c := fun u c hc => by
  by_cases e : u = t
  ·subst e; exact hr1 c hc
  ·exact (hre u e c).1 hc
 have hv : ∀ u c gg k, vw m' u c gg k = vw m u c gg k := fun u c gg k => qvw_mem e1 u c gg k
 refine ⟨by rw [e1]; exact D.size, by rw [gp, gv]; exact ⟨⟨D.pub.1.1, qlive_mem e1 D.pub.1.2⟩, by rw [e1, qrf_mem e1]; exact D.pub.2.1, by rw [e1]; exact D.pub.2.2⟩, fun w hw c hc => ?_, fun w hw => ?_, fun w u h1 h2 h3 c h4 => ?_, fun u hu x hx hc => ?_, fun w hw c hc => ?_, fun w hw => ?_, fun w hw => ?_, fun w hw => ?_, fun u hu hr => ?_, fun c h1 h2 h3 => ?_, by rw [e2]; exact D.ok, by rw [gv]; exact hmk, by rw [gv]; exact D.nz⟩
 ·rw [gp]
  have := D.own w hw c ((how w c).1 hc)
  exact ⟨⟨this.1.1, qlive_mem e1 this.1.2⟩, this.2⟩
 ·by_cases e : w = t
  ·subst e; exact hpe.nodup_iff.2 (D.nod w hw)
  ·unfold ow; rw [gnd w e, gls w e]; exact D.nod w hw
 ·rw [how] at h4 ⊢
  exact D.apart w u h1 h2 h3 c h4
 ·rw [e1] at hx
  obtain ⟨c, k1, k2, k3, k4⟩ := D.wts u hu x hx hc
  exact ⟨c, (how u c).2 k1, k2, by rw [qgn_mem e1]; exact k3, by rw [gv]; exact k4⟩
 ·rw [e1, gv]; exact D.ret w hw c (hrt w c hc)
 ·refine Lkq.same (qrf_mem e1) (qgn_mem e1) (fun c _ => hv _ _ _ _) ?_
  by_cases e : w = t
  ·subst e; exact hlk
  ·rw [gls w e]; exact D.lst w hw
 ·by_cases e : w = t
  ·subst e; exact hkp
  ·rw [gls w e, gfl w e]; exact D.kep w hw
 ·rw [gv]
  by_cases e : w = t
  ·subst e; rw [hG.pt]; exact hlc
  ·rw [gnd w e, gls w e, gfl w e, hG.ptn w e]
   exact Lc.same (qrf_mem e1) (qgn_mem e1) (er w e) (fun c k _ => hv _ _ _ _) (D.loc w hw)
 ·rw [gp, qrf_mem e1]
  by_cases e : u = t
  ·subst e; rw [hG.pt] at hr; exact .inl (hrd hr)
  ·rw [hG.ptn u e] at hr
   rw [er u e]
   rcases D.hold u hu hr with h | ⟨w, h1, c, h2, h3, h4⟩
   ·exact .inl h
   ·right
    refine ⟨w, h1, c, ?_⟩
    rw [qrf_mem e1]
    have ho : Olq G' w u ↔ Olq G w u := by unfold Olq; rw [hG.old]
    by_cases e2 : w = t
    ·subst e2
     exact ⟨(hr2 c h2).1, h3, h4.imp (hr2 c h2).2 ho.2⟩
    ·exact ⟨(hre w e2 c).2 h2, h3, h4.imp (han w e2 c).2 ho.2⟩
 ·rw [e1] at h3
  rw [gp]
  rcases D.live c h1 h2 h3 with h | ⟨w, k1, k2⟩
  ·exact .inl h
  ·exact .inr ⟨w, k1, (how w c).2 k2⟩
theorem QI.congr (h : QI f n G m) (e1 : m'.mem = m.mem) (e2 : m'.regs = m.regs) : QI f n G m' := by
 have e3 : ∀ u, ovq m' u = ovq m u := fun u => ovq_mem e1 u
 refine ⟨h.fl, h.few, by rw [e1]; exact h.thr, fun c h1 h2 => ⟨qlive_mem e1 (h.here c h1 h2).1, by rw [e1]; exact (h.here c h1 h2).2⟩, by rw [e2]; exact h.r5, by rw [e2]; exact h.r6, by rw [e2]; exact h.r7, by rw [e1]; exact h.hub, by rw [e1]; exact h.wts, h.chn, h.chl, h.chf, by rw [e1]; exact h.chh, by rw [e1]; exact h.chw, fun t ht => by rw [e3, shq_mem e1, e2]; exact h.la t ht, fun w t hw ht => by rw [e3, e1]; exact h.old w t hw ht⟩
theorem CI.congr (h : CI f n G m) (e1 : m'.mem = m.mem) (e2 : m'.regs = m.regs) (e3 : m'.faults = m.faults) (e4 : m'.marks = m.marks) : CI f n G m' := by
 refine ⟨by rw [e1]; exact h.size, ⟨⟨h.pub.1.1, qlive_mem e1 h.pub.1.2⟩, by rw [e1, qrf_mem e1]; exact h.pub.2.1, by rw [e1]; exact h.pub.2.2⟩, fun w hw c hc => ⟨⟨(h.own w hw c hc).1.1, qlive_mem e1 (h.own w hw c hc).1.2⟩, (h.own w hw c hc).2⟩, h.nod, h.apart, fun u hu x hx hc => ?_, by rw [e1]; exact h.ret, fun w hw => Lkq.same (qrf_mem e1) (qgn_mem e1) (fun c _ => qvw_mem e1 _ _ _ _) (h.lst w hw), h.kep, fun w hw => Lc.same (qrf_mem e1) (qgn_mem e1) (by rw [e2]) (fun c k _ => qvw_mem e1 _ _ _ _) (h.loc w hw), fun u hu hr => ?_, by rw [e1]; exact h.live, by rw [e3]; exact h.ok, by rw [e4]; exact h.mks, h.nz⟩
 ·rw [e1] at hx
  obtain ⟨c, k1, k2, k3, k4⟩ := h.wts u hu x hx hc
  exact ⟨c, k1, k2, by rw [qgn_mem e1]; exact k3, k4⟩
 ·rw [e2, qrf_mem e1]
  rcases h.hold u hu hr with k | ⟨w, h1, c, h2, h3, h4⟩
  ·exact .inl k
  ·exact .inr ⟨w, h1, c, h2, by rw [qrf_mem e1]; exact h3, h4⟩
theorem QD.congr (h : QD f n G m) (e1 : m'.mem = m.mem) (e2 : m'.regs = m.regs) (e3 : m'.faults = m.faults) (e4 : m'.marks = m.marks) : QD f n G m' := ⟨h.1.congr e1 e2, h.2.congr e1 e2 e3 e4⟩
structure Fr (n t : Nat) (m m' : Mk) : Prop where
 cells : SameCells m m'
 words : ∀ c k, (c = 0 ∨ c = 1 ∨ n + 3 <= c) -> m'.mem.ar.words c k = m.mem.ar.words c k
 wts : ∀ u, ∀ x ∈ m'.mem.waits u, (x.c = 0 ∨ (n : Int) + 3 <= x.c) -> x ∈ m.mem.waits u
 vws : ∀ u c g k, (c = 0 ∨ n + 3 <= c) -> vw m' u c g k = vw m u c g k
 regs : ∀ u, u ≠ t -> m'.regs u = m.regs u
 reg3 : m'.regs t 3 = m.regs t 3
 reg4 : m'.regs t 4 = m.regs t 4
 faults : m'.faults = m.faults
 marks : m'.marks = m.marks
theorem CI.grace (h : CI f n G m) (ht : t < n) (F : Fr n t m m') (gnd : G'.nd = G.nd) (gls : G'.ls = G.ls) (gfl : G'.fl = G.fl) (gp : G'.pp = G.pp) (gv : G'.val = G.val) (gpt : ∀ u, u ≠ t -> G'.pt u = G.pt u) {tg : Tq} {q q' d : Nat} (hg : isQ tg) (hp : G.pt t = some ⟨tg, q, d⟩) (hp' : G'.pt t = some ⟨tg, q', d⟩)
  (ho : ∀ w u, u ≠ t -> Olq G w u -> Olq G' w u) (hs : tg = .wait -> stageq f q = 0 -> stageq f q' = 0 ∨ ∀ u, u ≠ t -> rdq (G.pt u) -> Olq G' t u) : CI f n G' m' := by
 have D := h
 have how : ∀ u, ow G' u = ow G u := fun u => by unfold ow; rw [gnd, gls]
 have hre : ∀ u c, Ret G' u c ↔ Ret G u c := fun u c => by
  unfold Ret
  rw [gnd, gls]
  by_cases e : u = t
  ·subst e
   rw [hp, hp']
   exact or_congr Iff.rfl (and_congr Iff.rfl ⟨fun _ => rtd_g hg, fun _ => rtd_g hg⟩)
  ·rw [gpt u e]
 have hrf : ∀ c, rf m' c = rf m c := F.cells.rf
 have hgn : ∀ c, gn m' c = gn m c := F.cells.gn
 refine ⟨by rw [F.cells.size]; exact D.size, by rw [gp, gv]; exact ⟨⟨D.pub.1.1, F.cells.live D.pub.1.2⟩, by rw [F.words 1 0 (.inr (.inl rfl)), hrf]; exact D.pub.2.1, by rw [F.words _ 0 (D.pub.1.1.imp id .inr)]; exact D.pub.2.2⟩, fun w hw c hc => ?_, fun w hw => by rw [how]; exact D.nod w hw, fun w u h1 h2 h3 c h4 => by rw [how] at h4 ⊢; exact D.apart w u h1 h2 h3 c h4, fun u hu x hx hc => ?_, fun w hw c hc => ?_, fun w hw => ?_, by rw [gls, gfl]; exact D.kep, fun w hw => ?_, fun u hu hr => ?_, fun c h1 h2 h3 => ?_, by rw [F.faults]; exact D.ok, by rw [F.marks, gv]; exact D.mks, by rw [gv]; exact D.nz⟩
 ·rw [how] at hc
  rw [gp]
  have := D.own w hw c hc
  exact ⟨⟨this.1.1, F.cells.live this.1.2⟩, this.2⟩
 ·obtain ⟨c, k1, k2, k3, k4⟩ := D.wts u hu x (F.wts u x hx hc) hc
  exact ⟨c, by rw [how]; exact k1, k2, by rw [hgn]; exact k3, by rw [gv]; exact k4⟩
 ·rw [hre] at hc
  rw [gv, F.words c 0 ((D.dc hw hc.ow).1.imp id .inr)]; exact D.ret w hw c hc
 ·rw [gls]
  exact Lkq.same hrf hgn (fun c hc => F.vws _ _ _ _ (D.dc hw (List.mem_append_right _ hc)).1) (D.lst w hw)
 ·rw [gv, gnd, gls, gfl]
  by_cases e : w = t
  ·subst e
   rw [hp', Lc_g hg]
   have := D.loc w hw
   rw [hp, Lc_g hg] at this
   refine ⟨by rw [F.reg4, hdn_same hrf]; exact this.1, ?_⟩
   have hn := this.2
   unfold Nf NR at hn ⊢
   rw [F.reg3]
   simp only [hrf]
   exact hn
  ·rw [gpt w e]
   exact Lc.same hrf hgn (F.regs w e) (fun c k hc => F.vws _ _ _ _ (D.dc hw (List.mem_append_left _ (by rw [hc]; simp))).1) (D.loc w hw)
 ·have hne : u ≠ t := fun e => by subst e; rw [hp'] at hr; exact rdq_g hg hr
  rw [gpt u hne] at hr
  rw [gp, hrf, F.regs u hne]
  rcases D.hold u hu hr with h | ⟨w, h1, c, h2, h3, h4⟩
  ·exact .inl h
  ·refine .inr ⟨w, h1, c, (hre w c).2 h2, by rw [hrf]; exact h3, ?_⟩
   rcases h4 with h4 | h4
   ·by_cases e : w = t
    ·subst e
     rw [An_g hg hp] at h4
     rcases h4 with ⟨k1, k2⟩ | ⟨k1, k2⟩
     ·rcases hs k1 k2 with k3 | k3
      ·exact .inl ((An_g hg hp').2 (.inl ⟨k1, k3⟩))
      ·exact .inr (k3 u hne hr)
     ·exact .inl ((An_g hg hp').2 (.inr ⟨k1, by rw [gls, gfl]; exact k2⟩))
    ·refine .inl ?_
     unfold An at h4 ⊢
     rw [gls, gfl, gpt w e]; exact h4
   ·exact .inr (ho w u hne h4)
 ·rw [F.cells.there] at h3
  rw [gp]
  rcases D.live c h1 h2 h3 with h | ⟨w, k1, k2⟩
  ·exact .inl h
  ·exact .inr ⟨w, k1, by rw [how]; exact k2⟩
theorem qpt_wait {g : Option Pq} {tg : Tq} {q d q' : Nat} (hp : g = some ⟨tg, q, d⟩) (h : ∃ q d, g = some ⟨.wait, q, d⟩) : ∃ q2 d2, (some ⟨tg, q', d⟩ : Option Pq) = some ⟨.wait, q2, d2⟩ := by
 obtain ⟨q2, d2, e⟩ := h
 rw [hp] at e
 cases e
 exact ⟨_, _, rfl⟩
theorem QD.greg (h : QD f n G m) (ht : t < n) {tg : Tq} {q d q' : Nat} (hg : isQ tg) (hp : G.pt t = some ⟨tg, q, d⟩) (e1 : m'.mem = m.mem) (e2 : m'.faults = m.faults) (e5 : m'.marks = m.marks) (e3 : ∀ u, u ≠ t -> m'.regs u = m.regs u) (e4 : ∀ k, 3 <= k -> m'.regs t k = m.regs t k)
  (hla : Lq f G.ch (Olq G t) (shq m) t (ovq m t) (m'.regs t) (some ⟨tg, q', d⟩)) (hs : tg = .wait -> stageq f q = 0 -> stageq f q' = 0) : QD f n (G.at' t (some ⟨tg, q', d⟩)) m' := by
 refine ⟨h.1.reg ht (Av.at' G t _) e1 e3 (e4 5 (by decide)) (e4 6 (by decide)) (e4 7 (by decide)) hla (fun ⟨u, hu⟩ => qpt_wait hp (h.1.old t u ht hu).2.1), ?_⟩
 exact h.2.grace ht ⟨⟨by rw [e1], by rw [e1], by rw [e1]⟩, fun c k _ => by rw [e1], fun u x hx _ => by rw [<- e1]; exact hx, fun u c g k _ => qvw_mem e1 _ _ _ _, e3, e4 3 (by decide), e4 4 (by decide), e2, e5⟩ rfl rfl rfl rfl rfl (fun u hu => Gq.at_ne _ _ hu) hg hp (Gq.at_self _ _ _) (fun _ _ _ h => h) (fun k1 k2 => .inl (hs k1 k2))
end
end
section
open Go.RowKit
def Gq.cl (G : Gq) (b : Bool) (t : Nat) : Gq := { G with old := fun w u => if u = t /\ b = true then false else G.old w u }
theorem Gq.cl_le {G : Gq} {b : Bool} {t w u : Nat} (h : Olq (G.cl b t) w u) : Olq G w u /\ ¬ (u = t /\ b = true) := by
 have h : (if u = t /\ b = true then false else G.old w u) = true := h
 split at h
 ·cases h
 ·rename_i h2; exact ⟨h, h2⟩
theorem Gq.cl_of {G : Gq} {b : Bool} {t w u : Nat} (h : Olq G w u) (h2 : ¬ (u = t /\ b = true)) : Olq (G.cl b t) w u := by
 show (if u = t /\ b = true then false else G.old w u) = true
 rw [if_neg h2]; exact h
def Gq.see (G : Gq) (n t : Nat) (m : Mk) : Gq := { G with old := fun w u => if w = t then decide (u < n /\ ovq m u 0 ≠ 0) else G.old w u }
def Gq.join (G : Gq) (t : Nat) : Gq := { G with ch := G.ch ++ [t] }
theorem Bq.nj {J : Prop} {t d : Nat} {V : Nat -> Int} (h : Bq 4 J t d V) (hn : ¬ J) : d = 0 /\ V 0 = 0 /\ V 2 = 0 /\ V 3 = 0 := by
 obtain ⟨-, h2, h3⟩ := h
 obtain ⟨h4, h5⟩ := (h3 rfl).2 hn
 obtain ⟨h6, h7⟩ := (h2 (by decide)).1 h5
 exact ⟨h5, h6, h7, h4⟩
theorem Lq.nj {C : List Nat} {O : Nat -> Prop} {s : Nat -> Int} {u : Nat} {V r : Nat -> Int} {g : Option Pq} (h : Lq 4 C O s u V r g) (hn : u ∉ C) : V 0 = 0 := by
 cases g with
 | none => exact ((show Bq 4 (u ∈ C) u 0 V from h (by decide)).nj hn).2.1
 | some p =>
  obtain ⟨tg, q, d⟩ := p
  cases tg with
  | enter =>
   have h := h.2
   match q, h with
   | 0, h => exact (Bq.nj h hn).2.1
   | 1, h => exact (Bq.nj h.1 hn).2.1
   | 2, h => exact (Bq.nj h.1 hn).2.1
   | 3, h => exact (Bq.nj h.1 hn).2.1
   | 4, h => exact (Bq.nj h.1 hn).2.1
   | 5, h => exact (Bq.nj h.1 hn).2.1
   | 6, h => exact (Bq.nj h hn).2.1
   | 7, h => exact (Bq.nj h.1 hn).2.1
   | 8, h => exact (Bq.nj h.1 hn).2.1
   | 9, h => exact (Bq.nj h.1 hn).2.1
   | 10, h => exact h.2.1
   | 11, h => exact h.2.1
   | 12, h => exact h.2.1
   | 13, h => exact h.1.2.1
   | 14, h => exact h.1.2.1
   | 15, h => exact h.1.2.1
   | 16, h => exact h.2.1
   | 17, h => exact h.2.1
   | 18, h => exact h.2.1
   | 19, h => exact absurd h.2.2 hn
   | 20, h => exact absurd h.2.2 hn
   | 21, h => exact absurd h.2.2.1 hn
   | q + 22, h => exact (Bq.nj h hn).2.1
  | leave =>
   have h := h.2
   match q, h with
   | 0, h => exact (Bq.nj h.1 hn).2.1
   | 1, h => exact (Bq.nj h.1 hn).2.1
   | 2, h => exact (Bq.nj h.1 hn).2.1
   | 3, h => exact (Bq.nj h.1 hn).2.1
   | 4, h => exact (Bq.nj h.1 hn).2.1
   | 5, h => exact (Bq.nj h.1 hn).2.1
   | 6, h => exact (Bq.nj h.1 hn).2.1
   | 7, h => exact (Bq.nj h.1 hn).2.1
   | 8, h => exact (Bq.nj h.1 hn).2.1
   | q + 9, h => exact (Bq.nj h hn).2.1
  | rest => exact absurd h.1 (by decide)
  | gone => exact absurd h.1 (by decide)
  | wait => exact (Bq.nj (h.2.2.1 (by decide)) hn).2.1
  | read => exact (Bq.nj h.1 hn).2.1
  | put v => exact (Bq.nj h.1 hn).2.1
  | drop => exact (Bq.nj h hn).2.1
  | later => exact (Bq.nj h hn).2.1
  | empty => exact (Bq.nj h hn).2.1
section
variable {f n : Nat} {G : Gq} {m m' : Mk} {t : Nat}
theorem QD.drain1_ov (h : QD f n G m) (ht : t < n) {u : Nat} (hu : u < n) : ovq (m.drain1 t) u = ovq m u := by
 obtain ⟨P, D⟩ := h
 cases hw : m.mem.waits t with
 | nil => rw [drain1_nil hw]
 | cons x l =>
  have E := drain1_cons hw
  generalize m.drain1 t = m' at E
  have hxm : x ∈ m.mem.waits t := by rw [hw]; exact List.mem_cons_self
  obtain ⟨⟨x0, x1⟩, hx⟩ := P.wts t ht x hxm
  funext k
  unfold ovq
  by_cases e : u = t
  ·subst e
   obtain ⟨L, e0, -⟩ := P.own hu
   have := E.vw L ⟨x0, x1⟩ k
   rwa [e0] at this
  ·refine E.vw_ne e ?_ _ _
   rcases hx with ⟨h1, -⟩ | h1 <;> omega
theorem QD.fence_ov (h : QD f n G m) (ht : t < n) {u : Nat} (hu : u < n) : ovq (m.fence t) u = ovq m u :=
 (fence_of (P := fun m' => QD f n G m' /\ ovq m' u = ovq m u) (fun _ ⟨h1, h2⟩ => ⟨h1.drain1 ht, (h1.drain1_ov ht hu).trans h2⟩) ⟨h, rfl⟩).2
theorem QD.room_ov (h : QD f n G m) (ht : t < n) {u : Nat} (hu : u < n) : ovq (m.room t) u = ovq m u := by
 unfold Mk.room
 split
 ·exact h.drain1_ov ht hu
 ·rfl
theorem QD.fenceFrom_ov : ∀ (k t : Nat) {m : Mk}, t + k <= n -> QD f n G m -> ∀ {u}, u < n -> ovq (m.fenceFrom t k) u = ovq m u
 | 0, _, _, _, _, _, _ => rfl
 | k + 1, t, m, hk, h, u, hu => (QD.fenceFrom_ov k (t + 1) (m := m.fence t) (by omega) (h.fence (by omega)) hu).trans (h.fence_ov (by omega) hu)
theorem ovq_none (h : m.mem.waits t = []) (k : Nat) : ovq m t k = m.mem.ar.words (t + 3) k := by
 unfold ovq vw
 rw [h]; rfl
theorem QD.put (h : QD f n G m) (ht : t < n) {k : Nat} {v : Int} {b : Bool} {tg : Tq} {q d q' : Nat} (hg : isQ tg) (hp : G.pt t = some ⟨tg, q, d⟩) (hk0 : k = 0 -> b = true /\ f = 2) (hk1 : k = 1 -> f = 4 /\ t ∉ G.ch)
  (hla : Lq f G.ch (Olq (G.cl b t) t) (shq m) t (fun j => if j = k then v else ovq m t j) (m.regs t) (some ⟨tg, q', d⟩)) (hs : tg = .wait -> stageq f q = 0 -> stageq f q' = 0) :
  QD f n ((G.cl b t).at' t (some ⟨tg, q', d⟩)) (m.put t ((t : Int) + 4) k v) := by
 obtain ⟨P, D⟩ := h
 obtain ⟨Lt, gt0, rt⟩ := P.own ht
 have ec : cellOf ((t : Int) + 4) = (t : Int) + 3 := by rw [<- rt, (rf_cell Lt).1]; omega
 have eg : genOf ((t : Int) + 4) = 0 := by rw [<- rt, (rf_cell Lt).2, gt0]
 have e0 : m.put t ((t : Int) + 4) k v = m.setMem (m.mem.setWaits t (m.mem.waits t ++ [⟨(t : Int) + 3, 0, k, v⟩])) := by
  unfold Mk.put
  rw [ec, eg]
 rw [e0]
 generalize hm' : m.setMem (m.mem.setWaits t (m.mem.waits t ++ [⟨(t : Int) + 3, 0, k, v⟩])) = m'
 have ear : m'.mem.ar = m.mem.ar := by rw [<- hm']; rfl
 have ethr : m'.mem.threads = m.mem.threads := by rw [<- hm']; rfl
 have eregs : m'.regs = m.regs := by rw [<- hm']; rfl
 have ef : m'.faults = m.faults := by rw [<- hm']; rfl
 have emk : m'.marks = m.marks := by rw [<- hm']; rfl
 have ewt : m'.mem.waits t = m.mem.waits t ++ [⟨(t : Int) + 3, 0, k, v⟩] := by rw [<- hm']; exact if_pos rfl
 have ewn : ∀ u, u ≠ t -> m'.mem.waits u = m.mem.waits u := fun u hu => by rw [<- hm']; exact if_neg hu
 have S : SameCells m m' := ⟨by rw [ear], by rw [ear], by rw [ear]⟩
 have hmem : ∀ u, ∀ y ∈ m'.mem.waits u, y ∈ m.mem.waits u ∨ u = t /\ y = ⟨(t : Int) + 3, 0, k, v⟩ := fun u y hy => by
  by_cases e : u = t
  ·subst e
   rw [ewt] at hy
   rcases List.mem_append.1 hy with h | h
   ·exact .inl h
   ·exact .inr ⟨rfl, by simpa using h⟩
  ·rw [ewn u e] at hy; exact .inl hy
 have hvn : ∀ u c g j, u ≠ t -> vw m' u c g j = vw m u c g j := fun u c g j hu => by unfold vw; rw [ewn u hu, ear]
 have hvt : ∀ c g j, vw m' t c g j = if (t : Int) + 3 = c /\ 0 = g /\ (k : Int) = j then v else vw m t c g j := fun c g j => by
  unfold vw
  rw [ewt, ear, foldl_snoc]
  rfl
 have hot : ovq m' t = fun j => if j = k then v else ovq m t j := by
  funext j
  unfold ovq
  rw [hvt]
  by_cases e : j = k
  ·rw [if_pos e, if_pos ⟨by omega, rfl, by omega⟩]
  ·rw [if_neg e, if_neg (fun h => e (by omega))]
 have hon : ∀ u, u ≠ t -> ovq m' u = ovq m u := fun u hu => by funext j; exact hvn u _ _ _ hu
 have hsh : shq m' = shq m := by funext u; unfold shq; rw [ear]
 refine ⟨⟨P.fl, P.few, by rw [ethr]; exact P.thr, fun c h0 hc => ⟨S.live (P.here c h0 hc).1, by rw [ear]; exact (P.here c h0 hc).2⟩, by rw [eregs]; exact P.r5, by rw [eregs]; exact P.r6, by rw [eregs]; exact P.r7, by rw [ear]; exact P.hub, fun u hu y hy => ?_, P.chn, P.chl, P.chf, by rw [ear]; exact P.chh, fun i u hi => by rw [ear]; exact P.chw i u hi, fun u hu => ?_, fun w u hw' hu => ?_⟩, ?_⟩
 ·rcases hmem u y hy with h | ⟨rfl, rfl⟩
  ·exact P.wts u hu y h
  ·refine ⟨⟨by show (0 : Int) <= u + 3; omega, by show (0 : Int) <= k; omega⟩, .inl ⟨rfl, rfl, fun h2 e => ?_, fun e => ?_⟩⟩
   ·have e : (k : Int) = 0 := e
    exact h2 (hk0 (by omega)).2
   ·have e : (k : Int) = 1 := e
    exact hk1 (by omega)
 ·rw [hsh]
  by_cases e : u = t
  ·subst e
   rw [Gq.at_self, hot, eregs]; exact hla
  ·rw [Gq.at_ne _ _ e, hon u e, eregs]
   exact (P.la u hu).frame Iff.rfl ⟨[], (List.append_nil _).symm⟩ (fun _ h => (Gq.cl_le h).1) (fun _ _ => rfl)
 ·obtain ⟨hu1, hu2⟩ := Gq.cl_le hu
  obtain ⟨h1, h2, h3, h4⟩ := P.old w u hw' hu1
  refine ⟨h1, ?_, ?_, fun y hy hc => ?_⟩
  ·by_cases e : w = t
   ·subst e; rw [Gq.at_self]; exact qpt_wait hp h2
   ·rw [Gq.at_ne _ _ e]; exact h2
  ·by_cases e : u = t
   ·subst e
    rw [hot]
    by_cases e2 : (0 : Nat) = k
    ·exact absurd ⟨rfl, (hk0 e2.symm).1⟩ hu2
    ·show (if (0 : Nat) = k then v else ovq m u 0) ≠ 0
     rw [if_neg e2]; exact h3
   ·rw [hon u e]; exact h3
  ·rcases hmem u y hy with h | ⟨rfl, rfl⟩
   ·exact h4 y h hc
   ·intro e
    have e : (k : Int) = 0 := e
    exact hu2 ⟨rfl, (hk0 (by omega)).1⟩
 ·refine D.grace ht (m' := m') ⟨S, fun c j _ => by rw [ear], fun u x hx hc => ?_, fun u c g j hc => ?_, fun u _ => by rw [eregs], by rw [eregs], by rw [eregs], ef, emk⟩ rfl rfl rfl rfl rfl (fun u hu => Gq.at_ne _ _ hu) hg hp (Gq.at_self _ _ _) (fun w u hu h => Gq.cl_of h (fun e => hu e.1)) (fun k1 k2 => .inl (hs k1 k2))
  ·rcases hmem u x hx with h | ⟨rfl, rfl⟩
   ·exact h
   ·exfalso
    have hc : (u : Int) + 3 = 0 ∨ (n : Int) + 3 <= u + 3 := hc
    omega
  ·by_cases e : u = t
   ·subst e
    rw [hvt, if_neg (fun h => by omega)]
   ·exact hvn u c g j e
theorem QD.setown (h : QD f n G m) (ht : t < n) (hwt : m.mem.waits t = []) {k : Nat} {v w0 : Int} {b : Bool} {tg : Tq} {q d q' : Nat} (hg : isQ tg) (hp : G.pt t = some ⟨tg, q, d⟩) (hk : k = 0 /\ b = true ∨ k = 3)
  (hla : Lq f G.ch (Olq (G.cl b t) t) (shq m) t (fun j => if j = k then v else ovq m t j) (fun j => if j = 0 then w0 else m.regs t j) (some ⟨tg, q', d⟩)) (hs : tg = .wait -> stageq f q = 0 -> stageq f q' = 0) :
  QD f n ((G.cl b t).at' t (some ⟨tg, q', d⟩)) ((m.setWord ((t : Int) + 4) k v).setReg t 0 w0) := by
 obtain ⟨P, D⟩ := h
 obtain ⟨Lt, gt0, rt⟩ := P.own ht
 have ec : (cellOf ((t : Int) + 4)).toNat = t + 3 := by rw [<- rt, (rf_cell Lt).1]; omega
 generalize hm' : (m.setWord ((t : Int) + 4) k v).setReg t 0 w0 = m'
 have ewords : ∀ c j, m'.mem.ar.words c j = if c = t + 3 /\ j = k then v else m.mem.ar.words c j := fun c j => by
  rw [<- hm']
  show (if c = (cellOf ((t : Int) + 4)).toNat /\ j = (k : Int).toNat then v else m.mem.ar.words c j) = _
  rw [ec, Int.toNat_natCast]
 have S : SameCells m m' := by rw [<- hm']; exact ⟨rfl, rfl, rfl⟩
 have ethr : m'.mem.threads = m.mem.threads := by rw [<- hm']; rfl
 have erg : ∀ u j, m'.regs u j = if u = t /\ j = 0 then w0 else m.regs u j := fun u j => by rw [<- hm']; rfl
 have ern : ∀ u, u ≠ t -> m'.regs u = m.regs u := fun u hu => by funext j; rw [erg, if_neg (fun e => hu e.1)]
 have er3 : ∀ u j, 3 <= j -> m'.regs u j = m.regs u j := fun u j hj => by rw [erg, if_neg (fun e => by omega)]
 have ert : m'.regs t = fun j => if j = 0 then w0 else m.regs t j := by
  funext j
  rw [erg]
  by_cases e : j = 0
  ·rw [if_pos ⟨rfl, e⟩, if_pos e]
  ·rw [if_neg (fun h => e h.2), if_neg e]
 have ef : m'.faults = m.faults := by rw [<- hm']; rfl
 have emk : m'.marks = m.marks := by rw [<- hm']; rfl
 have ew : m'.mem.waits = m.mem.waits := by rw [<- hm']; rfl
 have W : ∀ c j, c ≠ t + 3 -> m'.mem.ar.words c j = m.mem.ar.words c j := fun c j hc => by rw [ewords, if_neg (fun e => hc e.1)]
 have hvn : ∀ u c g j, c ≠ t + 3 -> vw m' u c g j = vw m u c g j := fun u c g j hc => by unfold vw; rw [ew, W c j hc]
 have hot : ovq m' t = fun j => if j = k then v else ovq m t j := by
  funext j
  rw [ovq_none (by rw [ew]; exact hwt), ovq_none hwt, ewords]
  by_cases e : j = k
  ·rw [if_pos ⟨rfl, e⟩, if_pos e]
  ·rw [if_neg (fun h => e h.2), if_neg e]
 have hon : ∀ u, u ≠ t -> ovq m' u = ovq m u := fun u hu => by funext j; exact hvn u _ _ _ (by omega)
 have hsh : ∀ w u, Olq (G.cl b t) w u -> shq m' u = shq m u := fun w u hu => by
  unfold shq
  rw [ewords, if_neg]
  rintro ⟨e1, e2⟩
  rcases hk with ⟨-, hb⟩ | hk
  ·exact (Gq.cl_le hu).2 ⟨by omega, hb⟩
  ·omega
 refine ⟨⟨P.fl, P.few, by rw [ethr]; exact P.thr, fun c h0 hc => ⟨S.live (P.here c h0 hc).1, by rw [S.given]; exact (P.here c h0 hc).2⟩, fun u hu => by rw [er3 u 5 (by decide)]; exact P.r5 u hu, fun u hu => by rw [er3 u 6 (by decide)]; exact P.r6 u hu, fun u hu => by rw [er3 u 7 (by decide)]; exact P.r7 u hu, by rw [W 2 0 (by omega)]; exact P.hub, by rw [ew]; exact P.wts, P.chn, P.chl, P.chf, by rw [W 2 1 (by omega)]; exact P.chh, fun i u hi => ?_, fun u hu => ?_, fun w u hw' hu => ?_⟩, ?_⟩
 ·rw [ewords, if_neg (fun e => by rcases hk with ⟨h, -⟩ | h <;> omega)]; exact P.chw i u hi
 ·by_cases e : u = t
  ·subst e
   rw [Gq.at_self, hot, ert]
   exact hla.frame Iff.rfl ⟨[], (List.append_nil _).symm⟩ (fun _ h => h) (fun x hx => hsh u x hx)
  ·rw [Gq.at_ne _ _ e, hon u e, ern u e]
   exact (P.la u hu).frame Iff.rfl ⟨[], (List.append_nil _).symm⟩ (fun _ h => (Gq.cl_le h).1) (fun x hx => hsh u x hx)
 ·obtain ⟨hu1, hu2⟩ := Gq.cl_le hu
  obtain ⟨h1, h2, h3, h4⟩ := P.old w u hw' hu1
  refine ⟨h1, ?_, ?_, by rw [ew]; exact h4⟩
  ·by_cases e : w = t
   ·subst e; rw [Gq.at_self]; exact qpt_wait hp h2
   ·rw [Gq.at_ne _ _ e]; exact h2
  ·by_cases e : u = t
   ·subst e
    rw [hot]
    show (if (0 : Nat) = k then v else ovq m u 0) ≠ 0
    rcases hk with ⟨-, hb⟩ | hk
    ·exact absurd ⟨rfl, hb⟩ hu2
    ·rw [if_neg (by omega)]; exact h3
   ·rw [hon u e]; exact h3
 ·exact D.grace ht (m' := m') ⟨S, fun c j hc => W c j (by omega), fun u x hx _ => by rw [<- ew]; exact hx, fun u c g j hc => hvn u c g j (by omega), ern, er3 t 3 (by decide), er3 t 4 (by decide), ef, emk⟩ rfl rfl rfl rfl rfl (fun u hu => Gq.at_ne _ _ hu) hg hp (Gq.at_self _ _ _) (fun w u hu h => Gq.cl_of h (fun e => hu e.1)) (fun k1 k2 => .inl (hs k1 k2))
theorem QD.hub0 (h : QD f n G m) (ht : t < n) {v w0 : Int} (hv : v % 2 = 1) {q d q' : Nat} (hp : G.pt t = some ⟨.wait, q, d⟩)
  (hla : Lq f G.ch (Olq G t) (shq m) t (ovq m t) (fun j => if j = 0 then w0 else m.regs t j) (some ⟨.wait, q', d⟩)) (hs : stageq f q = 0 -> stageq f q' = 0) :
  QD f n (G.at' t (some ⟨.wait, q', d⟩)) ((m.setWord 3 0 v).setReg t 0 w0) := by
 have h1 : QD f n G (m.setWord 3 0 v) := by
  obtain ⟨P, D⟩ := h
  generalize hm' : m.setWord 3 0 v = m'
  have ewords : ∀ c j, m'.mem.ar.words c j = if c = 2 /\ j = 0 then v else m.mem.ar.words c j := fun c j => by rw [<- hm']; rfl
  have S : SameCells m m' := by rw [<- hm']; exact ⟨rfl, rfl, rfl⟩
  have ethr : m'.mem.threads = m.mem.threads := by rw [<- hm']; rfl
  have er : m'.regs = m.regs := by rw [<- hm']; rfl
  have ef : m'.faults = m.faults := by rw [<- hm']; rfl
  have emk : m'.marks = m.marks := by rw [<- hm']; rfl
  have ew : m'.mem.waits = m.mem.waits := by rw [<- hm']; rfl
  have W : ∀ c j, c ≠ 2 -> m'.mem.ar.words c j = m.mem.ar.words c j := fun c j hc => by rw [ewords, if_neg (fun e => hc e.1)]
  have hvn : ∀ u c g j, c ≠ 2 -> vw m' u c g j = vw m u c g j := fun u c g j hc => by unfold vw; rw [ew, W c j hc]
  have hon : ∀ u, ovq m' u = ovq m u := fun u => by funext j; exact hvn u _ _ _ (by omega)
  have hsh : shq m' = shq m := by funext u; exact W _ _ (by omega)
  refine ⟨⟨P.fl, P.few, by rw [ethr]; exact P.thr, fun c h0 hc => ⟨S.live (P.here c h0 hc).1, by rw [S.given]; exact (P.here c h0 hc).2⟩, by rw [er]; exact P.r5, by rw [er]; exact P.r6, by rw [er]; exact P.r7, by rw [ewords, if_pos ⟨rfl, rfl⟩]; exact hv, by rw [ew]; exact P.wts, P.chn, P.chl, P.chf, by rw [ewords, if_neg (fun e => by cases e.2)]; exact P.chh, fun i u hi => by rw [W _ _ (by omega)]; exact P.chw i u hi, fun u hu => by rw [hsh, hon, er]; exact P.la u hu, fun w u hw hu => by rw [hon, ew]; exact P.old w u hw hu⟩, ?_⟩
  exact D.grace ht (m' := m') (G' := G) ⟨S, fun c j hc => W c j (by omega), fun u x hx _ => by rw [<- ew]; exact hx, fun u c g j hc => hvn u c g j (by omega), fun u _ => by rw [er], by rw [er], by rw [er], ef, emk⟩ rfl rfl rfl rfl rfl (fun u hu => rfl) (tg := .wait) trivial hp hp (fun w u hu h => h) (fun _ k => .inl k)
 refine h1.greg (m' := (m.setWord 3 0 v).setReg t 0 w0) ht (tg := .wait) trivial hp rfl rfl rfl (fun u hu => setReg_other _ _ _ _ hu) (fun k hk => by rw [setReg_reg, if_neg (by omega)]) ?_ (fun _ => hs)
 have e1 : ovq (m.setWord 3 0 v) t = ovq m t := by
  funext j
  unfold ovq vw
  show List.foldl _ (if t + 3 = 2 /\ j = 0 then v else m.mem.ar.words (t + 3) j) _ = _
  rw [if_neg (fun e => absurd e.1 (by omega))]; rfl
 have e2 : shq (m.setWord 3 0 v) = shq m := by
  funext u
  show (if u + 3 = 2 /\ (0 : Nat) = 0 then v else m.mem.ar.words (u + 3) 0) = _
  rw [if_neg (fun e => absurd e.1 (by omega))]; rfl
 rw [e1, e2]
 have e3 : ((m.setWord 3 0 v).setReg t 0 w0).regs t = fun j => if j = 0 then w0 else m.regs t j := by
  funext j
  rw [setReg_reg]; rfl
 rw [e3]; exact hla
theorem QD.link (h : QD f n G m) (ht : t < n) (hwt : m.mem.waits t = []) (hf : f = 4) (hnj : t ∉ G.ch) (hv : m.mem.ar.words 2 1 = ovq m t 1) {w0 : Int} {q d q' : Nat} (hp : G.pt t = some ⟨.enter, q, d⟩)
  (hla : Lq f (G.ch ++ [t]) (Olq G t) (shq m) t (ovq m t) (fun j => if j = 0 then w0 else m.regs t j) (some ⟨.enter, q', d⟩)) :
  QD f n ((G.join t).at' t (some ⟨.enter, q', d⟩)) ((m.setWord 3 1 ((t : Int) + 4)).setReg t 0 w0) := by
 obtain ⟨P, D⟩ := h
 generalize hm' : (m.setWord 3 1 ((t : Int) + 4)).setReg t 0 w0 = m'
 have ewords : ∀ c j, m'.mem.ar.words c j = if c = 2 /\ j = 1 then (t : Int) + 4 else m.mem.ar.words c j := fun c j => by rw [<- hm']; rfl
 have S : SameCells m m' := by rw [<- hm']; exact ⟨rfl, rfl, rfl⟩
 have ethr : m'.mem.threads = m.mem.threads := by rw [<- hm']; rfl
 have erg : ∀ u j, m'.regs u j = if u = t /\ j = 0 then w0 else m.regs u j := fun u j => by rw [<- hm']; rfl
 have ern : ∀ u, u ≠ t -> m'.regs u = m.regs u := fun u hu => by funext j; rw [erg, if_neg (fun e => hu e.1)]
 have er3 : ∀ u j, 3 <= j -> m'.regs u j = m.regs u j := fun u j hj => by rw [erg, if_neg (fun e => by omega)]
 have ert : m'.regs t = fun j => if j = 0 then w0 else m.regs t j := by
  funext j
  rw [erg]
  by_cases e : j = 0
  ·rw [if_pos ⟨rfl, e⟩, if_pos e]
  ·rw [if_neg (fun h => e h.2), if_neg e]
 have ef : m'.faults = m.faults := by rw [<- hm']; rfl
 have emk : m'.marks = m.marks := by rw [<- hm']; rfl
 have ew : m'.mem.waits = m.mem.waits := by rw [<- hm']; rfl
 have W : ∀ c j, c ≠ 2 -> m'.mem.ar.words c j = m.mem.ar.words c j := fun c j hc => by rw [ewords, if_neg (fun e => hc e.1)]
 have hvn : ∀ u c g j, c ≠ 2 -> vw m' u c g j = vw m u c g j := fun u c g j hc => by unfold vw; rw [ew, W c j hc]
 have hon : ∀ u, ovq m' u = ovq m u := fun u => by funext j; exact hvn u _ _ _ (by omega)
 have hsh : shq m' = shq m := by funext u; exact W _ _ (by omega)
 have hlast : ∀ {i : Nat}, i = G.ch.length -> m.mem.ar.words 2 1 = match i with | 0 => 0 | j + 1 => match (G.ch ++ [t])[j]? with | none => 0 | some v => (v : Int) + 4 := fun {i} hi => by
  rw [P.chh]
  cases hl : G.ch with
  | nil => rw [hl] at hi; subst hi; rfl
  | cons a l =>
   rw [hl] at hi
   subst hi
   show _ = match ((a :: l) ++ [t])[l.length]? with | none => 0 | some v => (v : Int) + 4
   rw [List.getElem?_append_left (by rw [List.length_cons]; omega), List.getLast?_eq_getElem?]
   rfl
 refine ⟨⟨P.fl, P.few, by rw [ethr]; exact P.thr, fun c h0 hc => ⟨S.live (P.here c h0 hc).1, by rw [S.given]; exact (P.here c h0 hc).2⟩, fun u hu => by rw [er3 u 5 (by decide)]; exact P.r5 u hu, fun u hu => by rw [er3 u 6 (by decide)]; exact P.r6 u hu, fun u hu => by rw [er3 u 7 (by decide)]; exact P.r7 u hu, by rw [ewords, if_neg (fun e => by cases e.2)]; exact P.hub, fun u hu y hy => ?_, ?_, fun u hu => ?_, fun h => absurd hf h, ?_, fun i u hi => ?_, fun u hu => ?_, fun w u hw' hu => ?_⟩, ?_⟩
 ·rw [ew] at hy
  obtain ⟨h1, h2⟩ := P.wts u hu y hy
  refine ⟨h1, h2.imp (fun ⟨a1, a2, a3, a4⟩ => ⟨a1, a2, a3, fun e => ⟨hf, fun hm => ?_⟩⟩) id⟩
  rcases List.mem_append.1 hm with hm | hm
  ·exact (a4 e).2 hm
  ·obtain rfl : u = t := by simpa using hm
   rw [hwt] at hy; cases hy
 ·exact List.nodup_append.2 ⟨P.chn, List.nodup_cons.2 ⟨List.not_mem_nil, List.nodup_nil⟩, fun a ha b hb e => by
   obtain rfl : b = t := by simpa using hb
   exact hnj (e ▸ ha)⟩
 ·rcases List.mem_append.1 hu with hu | hu
  ·exact P.chl u hu
  ·obtain rfl : u = t := by simpa using hu
   exact ht
 ·rw [ewords, if_pos ⟨rfl, rfl⟩]
  show _ = match (G.ch ++ [t]).getLast? with | none => 0 | some u => (u : Int) + 4
  rw [List.getLast?_concat]
 ·rw [W _ _ (by omega)]
  have hi : (G.ch ++ [t])[i]? = some u := hi
  by_cases hlt : i < G.ch.length
  ·rw [List.getElem?_append_left hlt] at hi
   have h1 := P.chw i u hi
   rw [h1]
   cases i with
   | zero => rfl
   | succ j =>
    show _ = match (G.ch ++ [t])[j]? with | none => 0 | some v => (v : Int) + 4
    rw [List.getElem?_append_left (by omega)]
    rfl
  ·have hie : i = G.ch.length := by
    have := (List.getElem?_eq_some_iff.1 hi).1
    rw [List.length_append] at this
    have : i < G.ch.length + 1 := this
    omega
   have hu : u = t := by
    rw [hie] at hi
    simpa using hi.symm
   subst hu
   rw [<- ovq_none hwt, <- hv]
   exact hlast hie
 ·rw [hsh, hon]
  by_cases e : u = t
  ·subst e
   rw [Gq.at_self, ert]; exact hla
  ·rw [Gq.at_ne _ _ e, ern u e]
   refine (P.la u hu).frame ⟨fun hm => ?_, fun hm => List.mem_append_left _ hm⟩ ⟨[t], rfl⟩ (fun _ h => h) (fun _ _ => rfl)
   rcases List.mem_append.1 hm with hm | hm
   ·exact hm
   ·exact absurd (by simpa using hm) e
 ·obtain ⟨h1, h2, h3, h4⟩ := P.old w u hw' hu
  refine ⟨h1, ?_, by rw [hon]; exact h3, by rw [ew]; exact h4⟩
  by_cases e : w = t
  ·subst e; rw [Gq.at_self]; exact qpt_wait hp h2
  ·rw [Gq.at_ne _ _ e]; exact h2
 ·exact D.grace ht (m' := m') ⟨S, fun c j hc => W c j (by omega), fun u x hx _ => by rw [<- ew]; exact hx, fun u c g j hc => hvn u c g j (by omega), ern, er3 t 3 (by decide), er3 t 4 (by decide), ef, emk⟩ rfl rfl rfl rfl rfl (fun u hu => Gq.at_ne _ _ hu) (tg := .enter) trivial hp (Gq.at_self _ _ _) (fun w u _ h => h) (fun e => by cases e)
theorem QD.see (h : QD f n G m) (ht : t < n) {q d q' : Nat} (hp : G.pt t = some ⟨.wait, q, d⟩) (hs' : stageq f q' = 1) (hw : f = 2 -> ∀ u, u < n -> m.mem.waits u = [])
  (hla : d = 0 /\ (f = 3 -> Lwq (ovq m t) (m.regs t) q') /\ (f ≠ 3 -> Bq f (t ∈ G.ch) t 0 (ovq m t))) : QD f n ((G.see n t m).at' t (some ⟨.wait, q', d⟩)) m := by
 obtain ⟨P, D⟩ := h
 have o1 : ∀ w u, w ≠ t -> (Olq ((G.see n t m).at' t (some ⟨.wait, q', d⟩)) w u ↔ Olq G w u) := fun w u hw => by
  unfold Olq
  show (if w = t then decide (u < n /\ ovq m u 0 ≠ 0) else G.old w u) = true ↔ _
  rw [if_neg hw]
 have o2 : ∀ u, (Olq ((G.see n t m).at' t (some ⟨.wait, q', d⟩)) t u ↔ u < n /\ ovq m u 0 ≠ 0) := fun u => by
  unfold Olq
  show (if t = t then decide (u < n /\ ovq m u 0 ≠ 0) else G.old t u) = true ↔ _
  rw [if_pos rfl, decide_eq_true_iff]
 refine ⟨⟨P.fl, P.few, P.thr, P.here, P.r5, P.r6, P.r7, P.hub, P.wts, P.chn, P.chl, P.chf, P.chh, P.chw, fun u hu => ?_, fun w u hw' hu => ?_⟩, ?_⟩
 ·by_cases e : u = t
  ·subst e
   rw [Gq.at_self]
   refine ⟨hla.1, hla.2.1, hla.2.2, ?_⟩
   rw [hs']
   intro x hx
   obtain ⟨h1, h2⟩ := (o2 x).1 hx
   by_cases hf : f = 4
   ·subst hf
    rcases Classical.em (x ∈ G.ch) with h | h
    ·exact h
    ·exact absurd ((P.la x h1).nj h) h2
   ·exact P.chf hf x h1
  ·rw [Gq.at_ne _ _ e]
   exact (P.la u hu).frame Iff.rfl ⟨[], (List.append_nil _).symm⟩ (fun x h => (o1 u x e).1 h) (fun _ _ => rfl)
 ·by_cases e : w = t
  ·subst e
   obtain ⟨h1, h2⟩ := (o2 u).1 hu
   refine ⟨h1, ⟨q', d, by rw [Gq.at_self]⟩, h2, fun x hx hc => ?_⟩
   by_cases hf : f = 2
   ·rw [hw hf u h1] at hx; cases hx
   ·rcases (P.wts u h1 x hx).2 with ⟨-, -, h3, -⟩ | h3
    ·exact h3 hf
    ·omega
  ·rw [Gq.at_ne _ _ e]
   exact P.old w u hw' ((o1 w u e).1 hu)
 · -- who has found a cell is in a section
  have key : ∀ u, u < n -> rdq (G.pt u) -> ovq m u 0 ≠ 0 := fun u hu hrd => by
   have hL := P.la u hu
   cases hg : G.pt u with
   | none => rw [hg] at hrd; exact hrd.elim
   | some p =>
    obtain ⟨tg, q2, d2⟩ := p
    rw [hg] at hrd hL
    have key : Bq f (u ∈ G.ch) u d2 (ovq m u) /\ 0 < d2 := by
     cases tg with
     | read => exact hL
     | _ => exact hrd.elim
    obtain ⟨⟨b1, b2, -⟩, hpos⟩ := key
    by_cases hf : f = 3
    ·intro e; have := b1 hf; rw [e] at this; cases this
    ·exact ((b2 hf).2 hpos).1
  have hre : ∀ u c, Ret ((G.see n t m).at' t (some ⟨.wait, q', d⟩)) u c ↔ Ret G u c := fun u c => by
   unfold Ret
   by_cases e : u = t
   ·subst e
    rw [Gq.at_self, hp]; exact Iff.rfl
   ·rw [Gq.at_ne _ _ e]; exact Iff.rfl
  refine ⟨D.size, D.pub, D.own, D.nod, D.apart, D.wts, fun w hw c hc => D.ret w hw c ((hre w c).1 hc), D.lst, D.kep, fun w hw => ?_, fun u hu hrd => ?_, D.live, D.ok, D.mks, D.nz⟩
  ·have := D.loc w hw
   by_cases e : w = t
   ·subst e
    rw [Gq.at_self]
    rw [hp] at this
    exact this
   ·rw [Gq.at_ne _ _ e]; exact this
  ·have hne : u ≠ t := fun e => by subst e; rw [Gq.at_self] at hrd; exact hrd.elim
   rw [Gq.at_ne _ _ hne] at hrd
   rcases D.hold u hu hrd with h | ⟨w, h1, c, h2, h3, h4⟩
   ·exact .inl h
   ·refine .inr ⟨w, h1, c, (hre w c).2 h2, h3, ?_⟩
    by_cases e : w = t
    ·subst e
     exact .inr ((o2 u).2 ⟨hu, key u hu hrd⟩)
    ·rcases h4 with h4 | h4
     ·refine .inl ?_
      unfold An at h4 ⊢
      rw [Gq.at_ne _ _ e]; exact h4
     ·exact .inr ((o1 w u e).2 h4)
end
end
section
open Go.RowKit
def flq : Option Pq -> Fl -> Fl
 | some ⟨.put _, q, _⟩, k => if 5 <= q then ⟨true, false, k.k⟩ else k
 | some ⟨.later, q, _⟩, k => if 3 <= q then ⟨k.r, k.w, true⟩ else k
 | _, k => k
theorem flq_g {tg : Tq} (h : isQ tg) {q d : Nat} {k : Fl} : flq (some ⟨tg, q, d⟩) k = k := by
 cases tg <;> first | rfl | exact h.elim
def Sq (f n : Nat) (G : Gq) (t : Nat) (g : Option Pq) (m' : Mk) : Prop := ∃ G', QD f n G' m' /\ G'.pt t = g /\ (∀ u, u ≠ t -> G'.pt u = G.pt u) /\ (G'.ch = G.ch ∨ (G'.ch = G.ch ++ [t] /\ ∃ q d, g = some ⟨.enter, q, d⟩)) /\ G'.val = G.val /\ (∀ u, u ≠ t -> G'.fl u = G.fl u) /\ G'.fl t = flq g (G.fl t)
section
variable {f n : Nat} {G : Gq} {m m' : Mk} {t : Nat} {tg : Tq} {q d q' : Nat}
theorem Sq.of (hg : isQ tg) (h : QD f n (G.at' t (some ⟨tg, q', d⟩)) m') : Sq f n G t (some ⟨tg, q', d⟩) m' := ⟨_, h, Gq.at_self _ _ _, fun _ hu => Gq.at_ne _ _ hu, .inl rfl, rfl, fun _ _ => rfl, (flq_g hg).symm⟩
theorem QD.sreg (h : QD f n G m) (ht : t < n) (hg : isQ tg) (hp : G.pt t = some ⟨tg, q, d⟩) {r : Nat} {v : Int} (hr : r <= 2) (hla : Lq f G.ch (Olq G t) (shq m) t (ovq m t) (rgq m t r v) (some ⟨tg, q', d⟩)) (hs : tg = .wait -> stageq f q = 0 -> stageq f q' = 0) :
  Sq f n G t (some ⟨tg, q', d⟩) (m.setReg t r v) :=
 Sq.of hg (h.greg ht hg hp rfl rfl rfl (fun u hu => setReg_other _ _ _ _ hu) (fun k hk => by rw [setReg_reg, if_neg (by omega)]) (by rw [rgq_regs]; exact hla) hs)
theorem QD.sno (h : QD f n G m) (ht : t < n) (hg : isQ tg) (hp : G.pt t = some ⟨tg, q, d⟩) (hla : Lq f G.ch (Olq G t) (shq m) t (ovq m t) (m.regs t) (some ⟨tg, q', d⟩)) (hs : tg = .wait -> stageq f q = 0 -> stageq f q' = 0) :
  Sq f n G t (some ⟨tg, q', d⟩) m :=
 Sq.of hg (h.greg ht hg hp rfl rfl rfl (fun _ _ => rfl) (fun _ _ => rfl) hla hs)
theorem QD.sload (h : QD f n G m) (ht : t < n) (hg : isQ tg) (hp : G.pt t = some ⟨tg, q, d⟩) {r k : Nat} (hr : r <= 2) (hla : Lq f G.ch (Olq G t) (shq m) t (ovq m t) (rgq m t r (ovq m t k)) (some ⟨tg, q', d⟩)) (hs : tg = .wait -> stageq f q = 0 -> stageq f q' = 0) :
  Sq f n G t (some ⟨tg, q', d⟩) (m.load t r (m.regs t 6) k) := by
 obtain ⟨L, g0, r0⟩ := h.1.own ht
 rw [h.1.r6 t ht, <- r0, load_live L]
 refine h.sreg ht hg hp hr ?_ hs
 rw [g0]; exact hla
theorem QD.sfar (h : QD f n G m) (ht : t < n) (hg : isQ tg) (hp : G.pt t = some ⟨tg, q, d⟩) {r c k : Nat} {v : Int} (h0 : 1 <= c) (hc : c <= n + 2) (hv : v = (c : Int) + 1) (hw : ∀ x ∈ m.mem.waits t, ¬ (x.c = (c : Int) /\ x.w = (k : Int))) (hr : r <= 2) (hla : Lq f G.ch (Olq G t) (shq m) t (ovq m t) (rgq m t r (m.mem.ar.words c k)) (some ⟨tg, q', d⟩)) (hs : tg = .wait -> stageq f q = 0 -> stageq f q' = 0) :
  Sq f n G t (some ⟨tg, q', d⟩) (m.load t r v k) := by
 obtain ⟨L, g0, r0⟩ := h.1.cell h0 hc
 rw [hv, <- r0, load_live L]
 refine h.sreg ht hg hp hr ?_ hs
 have : vw m t c (gn m c) k = m.mem.ar.words c k := by
  unfold vw
  exact foldl_none (fun x hx e => hw x hx ⟨e.1, e.2.2⟩)
 rw [this]; exact hla
theorem QD.shub (h : QD f n G m) (ht : t < n) (hg : isQ tg) (hp : G.pt t = some ⟨tg, q, d⟩) {r k : Nat} (hr : r <= 2) (hla : Lq f G.ch (Olq G t) (shq m) t (ovq m t) (rgq m t r (m.mem.ar.words 2 k)) (some ⟨tg, q', d⟩)) (hs : tg = .wait -> stageq f q = 0 -> stageq f q' = 0) :
  Sq f n G t (some ⟨tg, q', d⟩) (m.load t r (m.regs t 7) k) := by
 refine h.sfar ht hg hp (c := 2) (by omega) (by omega) (by rw [h.1.r7 t ht]; rfl) (fun x hx e => ?_) hr hla hs
 rcases (h.1.wts t ht x hx).2 with ⟨h1, -⟩ | h1 <;> (have := e.1; omega)
theorem qroom_mem_sh {C : List Nat} {O O' : Nat -> Prop} {s s' V r : Nat -> Int} (hne : tg ≠ .wait) (h : Lq f C O s t V r (some ⟨tg, q, d⟩)) : Lq f C O' s' t V r (some ⟨tg, q, d⟩) := by
 cases tg with
 | wait => exact absurd rfl hne
 | _ => exact h
theorem QD.sstore (h : QD f n G m) (ht : t < n) (hg : isQ tg) (hne : tg ≠ .wait) (hp : G.pt t = some ⟨tg, q, d⟩) {r k : Nat} (hk0 : k = 0 -> f = 2) (hk1 : k = 1 -> f = 4 /\ t ∉ G.ch)
  (hla : Lq f G.ch (Olq G t) (shq m) t (fun j => if j = k then m.regs t r else ovq m t j) (m.regs t) (some ⟨tg, q', d⟩)) : Sq f n G t (some ⟨tg, q', d⟩) (m.store t (m.regs t 6) k (m.regs t r)) := by
 obtain ⟨L, g0, r0⟩ := h.1.own ht
 rw [h.1.r6 t ht, <- r0, store_live L, r0]
 have h2 := (h.room ht).put ht (k := k) (v := m.regs t r) (b := decide (k = 0)) hg hp (fun e => ⟨decide_eq_true e, hk0 e⟩) hk1 (q' := q') (by
  rw [h.room_ov ht ht, (room_regs m t).1]
  exact qroom_mem_sh hne hla) (fun e => absurd e hne)
 exact ⟨_, h2, Gq.at_self _ _ _, fun u hu => Gq.at_ne _ _ hu, .inl rfl, rfl, fun _ _ => rfl, (flq_g hg).symm⟩
theorem QD.sswap (h : QD f n G m) (ht : t < n) (hg : isQ tg) (hp : G.pt t = some ⟨tg, q, d⟩) {k : Nat} {b : Bool} (hk : k = 0 /\ b = true ∨ k = 3)
  (hla : ∀ s, Lq f G.ch (Olq (G.cl b t) t) s t (fun j => if j = k then m.regs t 0 else ovq m t j) (rgq m t 0 (ovq m t k)) (some ⟨tg, q', d⟩)) (hs : tg = .wait -> stageq f q = 0 -> stageq f q' = 0) : Sq f n G t (some ⟨tg, q', d⟩) (m.swap t 0 (m.regs t 6) k (m.regs t 0)) := by
 obtain ⟨L, g0, r0⟩ := h.1.own ht
 have hF := h.fence ht
 have hw : (m.fence t).mem.waits t = [] := Rm.drainAll_waits _ _ _ rfl
 have ho := h.fence_ov ht ht
 have e : m.swap t 0 (m.regs t 6) k (m.regs t 0) = ((m.fence t).setWord ((t : Int) + 4) k (m.regs t 0)).setReg t 0 (ovq m t k) := by
  unfold Mk.swap
  rw [h.1.r6 t ht, <- r0, if_pos L.names]
  congr 1
  unfold Mk.word
  rw [(rf_cell L).1, Int.toNat_natCast, Int.toNat_natCast, <- ho, ovq_none hw]
 rw [e]
 have h2 := hF.setown ht hw (k := k) (v := m.regs t 0) (w0 := ovq m t k) (b := b) hg hp (q' := q') hk (by rw [ho]; exact hla _) hs
 exact ⟨_, h2, Gq.at_self _ _ _, fun u hu => Gq.at_ne _ _ hu, .inl rfl, rfl, fun _ _ => rfl, (flq_g hg).symm⟩
theorem QD.snum (h : QD f n G m) (ht : t < n) (hp : G.pt t = some ⟨.wait, q, d⟩) (hr1 : m.regs t 1 = (2 + m.regs t 0) % 4294967296)
  (hla : ∀ w0, Lq f G.ch (Olq G t) (shq (m.fence t)) t (ovq m t) (rgq m t 0 w0) (some ⟨.wait, q', d⟩)) (hs : stageq f q = 0 -> stageq f q' = 0) : Sq f n G t (some ⟨.wait, q', d⟩) (m.cas t 0 (m.regs t 7) 0 (m.regs t 0) (m.regs t 1)) := by
 obtain ⟨L, g0, r0⟩ := h.1.cell (show 1 <= 2 by omega) (show 2 <= n + 2 by omega)
 have hF := h.fence ht
 have ho := h.fence_ov ht ht
 have hb := hF.1.hub
 have r0 : rf m 2 = 3 := by rw [r0]; rfl
 have e : m.cas t 0 (m.regs t 7) 0 (m.regs t 0) (m.regs t 1) = ((m.fence t).setWord 3 0 (casV ((m.fence t).mem.ar.words 2 0) (m.regs t 0) (m.regs t 1))).setReg t 0 ((m.fence t).mem.ar.words 2 0) := by
  unfold Mk.cas
  rw [h.1.r7 t ht, if_pos (by rw [<- r0]; exact L.names)]
  rfl
 rw [e]
 refine Sq.of (tg := .wait) trivial (hF.hub0 ht (v := casV ((m.fence t).mem.ar.words 2 0) (m.regs t 0) (m.regs t 1)) ?_ hp (by rw [ho]; exact hla _) hs)
 unfold casV
 split
 ·rename_i h1
  rw [hr1, <- h1]; omega
 ·exact hb
theorem QD.slink (h : QD f n G m) (ht : t < n) (hf : f = 4) (hnj : t ∉ G.ch) (hp : G.pt t = some ⟨.enter, q, d⟩) (hr1 : m.regs t 1 = (t : Int) + 4) (hv : ovq m t 1 = m.regs t 0)
  (hyes : Lq f (G.ch ++ [t]) (Olq G t) (shq m) t (ovq m t) (rgq m t 0 (m.regs t 0)) (some ⟨.enter, q', d⟩)) (hno : ∀ w0, w0 ≠ m.regs t 0 -> Lq f G.ch (Olq G t) (shq m) t (ovq m t) (rgq m t 0 w0) (some ⟨.enter, q', d⟩)) :
  Sq f n G t (some ⟨.enter, q', d⟩) (m.cas t 0 (m.regs t 7) 1 (m.regs t 0) (m.regs t 1)) := by
 obtain ⟨L, g0, r0⟩ := h.1.cell (show 1 <= 2 by omega) (show 2 <= n + 2 by omega)
 have hF := h.fence ht
 have hw : (m.fence t).mem.waits t = [] := Rm.drainAll_waits _ _ _ rfl
 have ho := h.fence_ov ht ht
 have r0 : rf m 2 = 3 := by rw [r0]; rfl
 have e : m.cas t 0 (m.regs t 7) 1 (m.regs t 0) (m.regs t 1) = ((m.fence t).setWord 3 1 (casV ((m.fence t).mem.ar.words 2 1) (m.regs t 0) (m.regs t 1))).setReg t 0 ((m.fence t).mem.ar.words 2 1) := by
  unfold Mk.cas
  rw [h.1.r7 t ht, if_pos (by rw [<- r0]; exact L.names)]
  rfl
 rw [e]
 by_cases hc : (m.fence t).mem.ar.words 2 1 = m.regs t 0
 ·have e2 : casV ((m.fence t).mem.ar.words 2 1) (m.regs t 0) (m.regs t 1) = (t : Int) + 4 := by unfold casV; rw [if_pos hc, hr1]
  rw [e2, hc]
  have h2 := hF.link ht hw hf hnj (by rw [hc, ho, hv]) (w0 := m.regs t 0) hp (q' := q') (by rw [ho]; exact qroom_mem_sh (by decide) hyes)
  exact ⟨_, h2, Gq.at_self _ _ _, fun u hu => Gq.at_ne _ _ hu, .inr ⟨rfl, _, _, rfl⟩, rfl, fun _ _ => rfl, rfl⟩
 ·have e2 : casV ((m.fence t).mem.ar.words 2 1) (m.regs t 0) (m.regs t 1) = (m.fence t).mem.ar.words 2 1 := by unfold casV; rw [if_neg hc]
  rw [e2]
  have e3 : (m.fence t).setWord 3 1 ((m.fence t).mem.ar.words 2 1) = m.fence t := by
   have : (fun j i => if j = 2 /\ i = 1 then (m.fence t).mem.ar.words 2 1 else (m.fence t).mem.ar.words j i) = (m.fence t).mem.ar.words := by
    funext j i
    by_cases e : j = 2 /\ i = 1
    ·rw [if_pos e, e.1, e.2]
    ·rw [if_neg e]
   show { m.fence t with mem := { (m.fence t).mem with ar := { (m.fence t).mem.ar with words := fun j i => if j = 2 /\ i = 1 then (m.fence t).mem.ar.words 2 1 else (m.fence t).mem.ar.words j i } } } = m.fence t
   rw [this]
  rw [e3]
  refine hF.sreg ht (tg := .enter) trivial hp (by decide) ?_ (fun e => by cases e)
  rw [ho]
  exact qroom_mem_sh (by decide) (hno _ hc)
end
end
end Go.Proofs.YtaiigfcfmcicjaaGreatDoor
