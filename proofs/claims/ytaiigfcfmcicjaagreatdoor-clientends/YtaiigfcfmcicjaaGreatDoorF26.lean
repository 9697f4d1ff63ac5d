import Derived.Test.YtaiigfcfmcicjaaGreatDoorF25
namespace Go.Proofs.YtaiigfcfmcicjaaGreatDoor
set_option maxRecDepth 100000
set_option maxHeartbeats 8000000
section
open Go.RowKit
theorem Lc.keep {m m' : Mk} {V : Int -> Prop} {w : Nat} {nd : Option Nat} {ls : List Nat} {r : Bool} {g : Option Pq} (he : m'.regs w = m.regs w) (hd : ∀ l : List Nat, (∀ x ∈ l, x ∈ ls) -> hdn m' l = hdn m l) (hr : ∀ c, nd = some c -> rf m' c = rf m c) (hg : ∀ c, nd = some c -> gn m' c = gn m c) (hv : ∀ c k, nd = some c -> vw m' w c (gn m c) k = vw m w c (gn m c) k) (h : Lc V m w nd ls r g) : Lc V m' w nd ls r g := by
 have eh : hdn m' ls = hdn m ls := hd ls (fun _ h => h)
 have e1 : NR m w nd -> NR m' w nd := fun h => by
  unfold NR at h ⊢
  rw [he]
  rcases h with h | ⟨c, h1, h2⟩
  ·exact .inl h
  ·exact .inr ⟨c, h1, by rw [hr c h1]; exact h2⟩
 have e2 : NS m w nd -> NS m' w nd := fun h => by
  unfold NS at h ⊢
  rw [he]
  obtain ⟨c, h1, h2⟩ := h
  exact ⟨c, h1, by rw [hr c h1]; exact h2⟩
 have e3 : Nf m w nd r -> Nf m' w nd r := fun h => ⟨fun k => e1 (h.1 k), h.2⟩
 cases g with
 | none =>
  unfold Lc at h ⊢
  rw [he, eh]; exact ⟨h.1, e3 h.2⟩
 | some p =>
  obtain ⟨tg, q, d⟩ := p
  cases tg with
  | put v =>
   unfold Lc at h ⊢
   rw [he, eh]
   refine ⟨h.1, ?_⟩
   have h := h.2
   match q, h with
   | 0, h => exact h
   | 1, h => exact e1 h
   | 2, h => exact e2 h
   | 3, h => exact ⟨e2 h.1, h.2⟩
   | 4, h =>
    obtain ⟨c, h1, h2, h3⟩ := h
    exact ⟨c, h1, by rw [hr c h1]; exact h2, by rw [hg c h1, hv c 0 h1]; exact h3⟩
   | q + 5, h => exact e1 h
  | drop =>
   unfold Lc at h ⊢
   rw [he, eh]
   refine ⟨h.1, ?_⟩
   have h := h.2
   match q, h with
   | 0, h => exact e1 h
   | 1, h => exact e2 h
   | q + 2, h => exact h
  | later =>
   unfold Lc at h ⊢
   rw [he, eh]
   refine ⟨h.1, ?_⟩
   have h := h.2
   match q, h with
   | 0, h => exact e1 h
   | 1, h => exact e2 h
   | 2, h =>
    obtain ⟨c, h1, h2, h3⟩ := h
    exact ⟨c, h1, by rw [hr c h1]; exact h2, by rw [hg c h1, hv c 1 h1]; exact h3⟩
   | q + 3, h => exact h
  | read =>
   unfold Lc at h ⊢
   rw [he, eh]; exact ⟨⟨h.1.1, e3 h.1.2⟩, h.2⟩
  | empty =>
   unfold Lc at h ⊢
   rw [he]
   refine ⟨e3 h.1, ?_⟩
   have h := h.2
   match q, h with
   | 0, h => show _ = hdn m' ls; rw [eh]; exact h
   | 1, h => show _ = hdn m' ls; rw [eh]; exact h
   | 2, h => exact ⟨by rw [eh]; exact h.1, h.2⟩
   | 3, h =>
    obtain ⟨h1, c, l, h2, h3⟩ := h
    exact ⟨by rw [eh]; exact h1, c, l, h2, by rw [hd l (fun x hx => by rw [h2]; exact List.mem_cons_of_mem _ hx)]; exact h3⟩
   | 4, h => show _ = hdn m' ls; rw [eh]; exact h
   | 5, h => show _ = hdn m' ls; rw [eh]; exact h
   | 6, h => exact ⟨by rw [eh]; exact h.1, h.2⟩
   | 7, h => exact ⟨by rw [eh]; exact h.1, h.2⟩
   | q + 8, h => show _ = hdn m' ls; rw [eh]; exact h
  | _ =>
   unfold Lc at h ⊢
   rw [he, eh]; exact ⟨h.1, e3 h.2⟩
section
variable {f n : Nat} {G G' : Gq} {m m' : Mk} {t q d : Nat} {i : GI}
theorem QD.freec (h : QD f n G m) {c : Nat} (hc : m.mem.ar.free? = some c) : (c = 0 ∨ n + 3 <= c) /\ c < 64 /\ m.mem.ar.there c = false := by
 obtain ⟨h1, -, h3⟩ := Ar.free_some hc
 rw [h.2.size] at h1
 refine ⟨?_, h1, h3⟩
 rcases Nat.lt_or_ge c (n + 3) with h4 | h4
 ·rcases Nat.eq_zero_or_pos c with h5 | h5
  ·exact .inl h5
  ·have := (h.1.here c h5 (by omega)).1.there
   rw [this] at h3; cases h3
 ·exact .inr h4
theorem QD.allocs (h : QD f n G m) (ht : t < n) {v : Int} (hp : G.pt t = some ⟨.put v, 0, d⟩) : ∃ x, QD f n (G.upd t x (G.ls t) (G.fl t) (some ⟨.put v, 1, d⟩)) (m.alloc t 3) := by
 have hno := h.noold ht hp (fun e => nomatch e)
 have L := la_at h ht hp
 obtain ⟨⟨hV, hr4⟩, hnd⟩ := loc_at h ht hp
 cases hf : m.mem.ar.free? with
 | none =>
  refine ⟨none, ?_⟩
  have e0 : m.alloc t 3 = m.setReg t 3 0 := by
   unfold Mk.alloc
   rw [hf]
  rw [e0]
  refine h.regu ht hno rfl rfl h.2.mks (fun u hu => reg3q _ _ _ _ hu) (setq_ne _ _ _ _ (by decide)) (setq_ne _ _ _ _ (by decide)) (setq_ne _ _ _ _ (by decide)) L ?_ (h.2.lst t ht) (h.2.kep t ht) ⟨⟨hV, by rw [setq_ne _ _ _ _ (by decide), hdn_mem rfl]; exact hr4⟩, .inl ⟨rfl, setq_eq _ _ _ _⟩⟩ (fun c hc => ?_) (fun c hc => ⟨?_, fun ha => ha.same id rfl hp rfl ⟨(fun e => nomatch e), fun e => nomatch e⟩ ⟨(fun e => nomatch e), fun e => nomatch e⟩⟩) (fun e => e.elim)
  ·unfold ow
   rw [hnd]
  ·rcases hc with hc | ⟨h1, -⟩
   ·exact .inl hc
   ·cases h1
  ·rcases hc with hc | ⟨h1, -⟩
   ·exact .inl hc
   ·rw [hnd] at h1; cases h1
 | some c =>
  obtain ⟨hc1, hc2, hc3⟩ := h.freec hf
  obtain ⟨P, D⟩ := h
  refine ⟨some c, ?_⟩
  have e0 : m.alloc t 3 = (m.setMem (m.mem.give c)).setReg t 3 ((m.mem.ar.given c : Int) * 64 + c + 1) := by
   unfold Mk.alloc
   rw [hf]
  rw [e0]
  generalize hm' : (m.setMem (m.mem.give c)).setReg t 3 ((m.mem.ar.given c : Int) * 64 + c + 1) = m'
  have ewords : ∀ x j, m'.mem.ar.words x j = if x = c /\ j < 4 then 0 else m.mem.ar.words x j := fun x j => by rw [<- hm']; rfl
  have ethere : ∀ x, m'.mem.ar.there x = if x = c then true else m.mem.ar.there x := fun x => by rw [<- hm']; rfl
  have egiven : ∀ x, m'.mem.ar.given x = if x = c then m.mem.ar.given c + 1 else m.mem.ar.given x := fun x => by rw [<- hm']; rfl
  have esize : m'.mem.ar.size = m.mem.ar.size := by rw [<- hm']; rfl
  have ethr : m'.mem.threads = m.mem.threads := by rw [<- hm']; rfl
  have erg : ∀ u j, m'.regs u j = if u = t /\ j = 3 then (m.mem.ar.given c : Int) * 64 + c + 1 else m.regs u j := fun u j => by rw [<- hm']; rfl
  have ern : ∀ u, u ≠ t -> m'.regs u = m.regs u := fun u hu => by funext j; rw [erg, if_neg (fun e => hu e.1)]
  have er5 : ∀ u j, j ≠ 3 -> m'.regs u j = m.regs u j := fun u j hj => by rw [erg, if_neg (fun e => hj e.2)]
  have ef : m'.faults = m.faults := by rw [<- hm']; rfl
  have emk : m'.marks = m.marks := by rw [<- hm']; rfl
  have ew : m'.mem.waits = m.mem.waits := by rw [<- hm']; rfl
  have sm : m.mem.ar.size <= 64 := by rw [D.size]; decide
  have LL : ∀ x, x ≠ c -> Live m x -> Live m' x := fun x hx h => ⟨by rw [esize]; exact h.lt, by rw [ethere, if_neg hx]; exact h.there, by rw [egiven, if_neg hx]; exact h.given, by rw [esize]; exact h.small⟩
  have Lc' : Live m' c := ⟨by rw [esize, D.size]; exact hc2, by rw [ethere, if_pos rfl], by rw [egiven, if_pos rfl]; omega, by rw [esize]; exact sm⟩
  have R : ∀ x, x ≠ c -> rf m' x = rf m x := fun x hx => by unfold rf; rw [egiven, if_neg hx]
  have Gn : ∀ x, x ≠ c -> gn m' x = gn m x := fun x hx => by unfold gn; rw [egiven, if_neg hx]
  have Rc : rf m' c = (m.mem.ar.given c : Int) * 64 + c + 1 := by unfold rf; rw [egiven, if_pos rfl]; omega
  have W : ∀ x j, x ≠ c -> m'.mem.ar.words x j = m.mem.ar.words x j := fun x j hx => by rw [ewords, if_neg (fun e => hx e.1)]
  have hvn : ∀ u x g j, x ≠ c -> vw m' u x g j = vw m u x g j := fun u x g j hx => by unfold vw; rw [ew, W x j hx]
  have nel : ∀ x, Live m x -> x ≠ c := fun x hx e => by rw [e] at hx; have := hx.there; rw [hc3] at this; cases this
  have neo : ∀ w, w < n -> ∀ x ∈ ow G w, x ≠ c := fun w hw x hx => nel x (D.dc hw hx).2.1
  have hdn' : ∀ w, w < n -> ∀ l : List Nat, (∀ x ∈ l, x ∈ ow G w) -> hdn m' l = hdn m l := fun w hw l hl => by
   cases l with
   | nil => rfl
   | cons x l => exact R x (neo w hw x (hl x List.mem_cons_self))
  have hlk : ∀ w, w < n -> ∀ l : List Nat, (∀ x ∈ l, x ∈ ow G w) -> Lkq m w l -> Lkq m' w l := fun w hw l => by
   induction l with
   | nil => intro _ h; exact h
   | cons x l ih =>
    intro hl h
    have hx := neo w hw x (hl x List.mem_cons_self)
    refine ⟨?_, ih (fun y hy => hl y (List.mem_cons_of_mem _ hy)) h.2⟩
    rw [Gn x hx, hvn _ _ _ _ hx, hdn' w hw l (fun y hy => hl y (List.mem_cons_of_mem _ hy))]
    exact h.1
  have hls : ∀ w, ∀ x ∈ G.ls w, x ∈ ow G w := fun w x hx => List.mem_append_right _ hx
  have hnd' : ∀ w x, G.nd w = some x -> x ∈ ow G w := fun w x hx => List.mem_append_left _ (by rw [hx]; simp)
  have o0 : ow G t = G.ls t := by unfold ow; rw [hnd]; rfl
  refine ⟨P.data ht (Av.upd _ _ _ _ _ _) (fun x h1 h2 => ⟨LL x (by omega) (P.here x h1 h2).1, by rw [egiven, if_neg (by omega)]; exact (P.here x h1 h2).2⟩) ethr (fun x k h1 h2 => W x k (by omega)) (fun u _ x hx => .inl (by rw [<- ew]; exact hx)) (fun u hu => by funext j; exact hvn u _ _ _ (by omega)) ern (er5 t 5 (by decide)) (er5 t 6 (by decide)) (er5 t 7 (by decide)) L (fun e => absurd e hno), ?_⟩
  refine ⟨by rw [esize]; exact D.size, ⟨⟨D.pub.1.1, LL _ (nel _ D.pub.1.2) D.pub.1.2⟩, ?_, ?_⟩, fun w hw x hx => ?_, fun w hw => ?_, fun w u h1 h2 h3 x hx => ?_, fun u hu x hx hxc => ?_, fun w hw x hx => ?_, fun w hw => ?_, fun w hw => ?_, fun w hw => ?_, fun u hu hr => ?_, fun x h1 h2 h3 => ?_, by rw [ef]; exact D.ok, by rw [emk]; exact D.mks, D.nz⟩
  ·show m'.mem.ar.words 1 0 = rf m' G.pp
   rw [W _ _ (by omega), R _ (nel _ D.pub.1.2)]; exact D.pub.2.1
  ·show G.val (m'.mem.ar.words G.pp 0)
   rw [W _ _ (nel _ D.pub.1.2)]; exact D.pub.2.2
  ·show ((x = 0 ∨ n + 3 <= x) /\ Live m' x) /\ x ≠ G.pp
   by_cases e : w = t
   ·subst e
    rw [Gq.upd_ow] at hx
    rcases List.mem_append.1 hx with hx | hx
    ·obtain rfl : x = c := by simpa using hx
     exact ⟨⟨hc1, Lc'⟩, fun e => nel _ D.pub.1.2 e.symm⟩
    ·obtain ⟨k1, k2, k3⟩ := D.dc hw (hls w x hx)
     exact ⟨⟨k1, LL x (nel x k2) k2⟩, k3⟩
   ·rw [Gq.upd_own e] at hx
    obtain ⟨k1, k2, k3⟩ := D.dc hw hx
    exact ⟨⟨k1, LL x (nel x k2) k2⟩, k3⟩
  ·by_cases e : w = t
   ·subst e
    rw [Gq.upd_ow]
    refine List.nodup_cons.2 ⟨fun hx => neo w hw c (hls w c hx) rfl, ?_⟩
    have := D.nod w hw
    rwa [o0] at this
   ·rw [Gq.upd_own e]; exact D.nod w hw
  ·by_cases e : w = t
   ·subst e
    have hu : u ≠ w := fun e => h3 e.symm
    rw [Gq.upd_own hu]
    rw [Gq.upd_ow] at hx
    rcases List.mem_append.1 hx with hx | hx
    ·obtain rfl : x = c := by simpa using hx
     exact fun hx => neo u h2 x hx rfl
    ·exact D.apart w u h1 h2 h3 x (hls w x hx)
   ·rw [Gq.upd_own e] at hx
    by_cases e2 : u = t
    ·subst e2
     rw [Gq.upd_ow]
     intro hx2
     rcases List.mem_append.1 hx2 with hx2 | hx2
     ·obtain rfl : x = c := by simpa using hx2
      exact neo w h1 x hx rfl
     ·exact D.apart w u h1 h2 h3 x hx (hls u x hx2)
    ·rw [Gq.upd_own e2]
     exact D.apart w u h1 h2 h3 x hx
  ·rw [ew] at hx
   obtain ⟨c', k1, k2, k3, k4⟩ := D.wts u hu x hx hxc
   refine ⟨c', ?_, k2, by rw [Gn c' (neo u hu c' k1)]; exact k3, k4⟩
   by_cases e : u = t
   ·subst e
    rw [Gq.upd_ow]
    rw [o0] at k1
    exact List.mem_append_right _ k1
   ·rw [Gq.upd_own e]; exact k1
  ·show G.val (m'.mem.ar.words x 0)
   by_cases e : w = t
   ·subst e
    rcases Ret.upd.1 hx with hx | ⟨-, hx⟩
    ·rw [W x 0 (neo w hw x (hls w x hx))]; exact D.ret w hw x (.inl hx)
    ·exact absurd hx (by show ¬ 5 <= 1; decide)
   ·have hx := (Ret.updn e).1 hx
    rw [W x 0 (neo w hw x hx.ow)]; exact D.ret w hw x hx
  ·by_cases e : w = t
   ·subst e
    rw [Gq.upd_ls]; exact hlk w hw _ (hls w) (D.lst w hw)
   ·rw [Gq.upd_lsn e]; exact hlk w hw _ (hls w) (D.lst w hw)
  ·by_cases e : w = t
   ·subst e; rw [Gq.upd_ls, Gq.upd_fl]; exact D.kep w hw
   ·rw [Gq.upd_lsn e, Gq.upd_fln e]; exact D.kep w hw
  ·show Lc G.val m' w _ _ _ _
   by_cases e : w = t
   ·subst e
    rw [Gq.upd_nd, Gq.upd_ls, Gq.upd_fl, Gq.upd_pt]
    refine ⟨⟨hV, ?_⟩, .inr ⟨c, rfl, ?_⟩⟩
    ·rw [er5 w 4 (by decide), hdn' w hw _ (hls w)]; exact hr4
    ·rw [erg, if_pos ⟨rfl, rfl⟩, Rc]
   ·rw [Gq.upd_ndn e, Gq.upd_lsn e, Gq.upd_fln e, Gq.upd_ptn e]
    exact Lc.keep (ern w e) (fun l hl => hdn' w hw l (fun x hx => hls w x (hl x hx))) (fun x hx => R x (neo w hw x (hnd' w x hx))) (fun x hx => Gn x (neo w hw x (hnd' w x hx))) (fun x k hx => hvn _ _ _ _ (neo w hw x (hnd' w x hx))) (D.loc w hw)
  ·have hne : u ≠ t := fun e => by subst e; rw [Gq.upd_pt] at hr; exact hr.elim
   rw [Gq.upd_ptn hne] at hr
   rw [ern u hne]
   rcases D.hold u hu hr with h | ⟨w, h1, x, h2, h3, h4⟩
   ·refine .inl ?_
    show m.regs u 0 = rf m' G.pp
    rw [R _ (nel _ D.pub.1.2)]; exact h
   ·refine .inr ⟨w, h1, x, ?_⟩
    rw [R x (neo w h1 x h2.ow)]
    by_cases e : w = t
    ·subst e
     refine ⟨Ret.upd.2 (.inl ?_), h3, h4.imp (fun ha => ha.same id rfl hp rfl ⟨(fun e => nomatch e), fun e => nomatch e⟩ ⟨(fun e => nomatch e), fun e => nomatch e⟩) id⟩
     rcases h2 with h2 | ⟨h2, -⟩
     ·exact h2
     ·rw [hnd] at h2; cases h2
    ·exact ⟨(Ret.updn e).2 h2, h3, h4.imp (An.updn e).2 id⟩
  ·rw [ethere] at h3
   by_cases e : x = c
   ·exact .inr ⟨t, ht, by rw [Gq.upd_ow, e]; simp⟩
   ·rw [if_neg e] at h3
    rcases D.live x h1 h2 h3 with h | ⟨w, k1, k2⟩
    ·exact .inl h
    ·refine .inr ⟨w, k1, ?_⟩
     by_cases e2 : w = t
     ·subst e2
      rw [Gq.upd_ow]
      rw [o0] at k2
      exact List.mem_append_right _ k2
     ·rw [Gq.upd_own e2]; exact k2
end
end
section
open Go.RowKit
section
variable {f n : Nat} {G G' : Gq} {m m' : Mk} {t q d : Nat} {i : GI}
theorem mem_ls {w x : Nat} (h : x ∈ G.ls w) : x ∈ ow G w := List.mem_append_right _ h
theorem mem_nd {w x : Nat} (h : G.nd w = some x) : x ∈ ow G w := List.mem_append_left _ (by rw [h]; simp)
theorem nd_ls {w c : Nat} (D : CI f n G m) (hw : w < n) (h : G.nd w = some c) : c ∉ G.ls w /\ (G.ls w).Nodup := by
 have := D.nod w hw
 unfold ow at this
 rw [h] at this
 have := List.nodup_cons.1 this
 exact this
theorem QD.putc (h : QD f n G m) (ht : t < n) {c k : Nat} {v : Int} {x : Option Nat} {l : List Nat} {fl' : Fl} {g : Option Pq} (hno : ¬ ∃ u, Olq G t u) (hx : G.nd t = x) (hl : G.ls t = l) (hf : G.fl t = fl') (hc : x = some c) (hk : k = 1 ∨ k = 0 /\ G.val v)
  (hla : Lq f G.ch (Olq G t) (shq m) t (ovq m t) (m.regs t) g) (hlc : ∀ m' : Mk, m'.regs = m.regs -> (∀ c, rf m' c = rf m c) -> (∀ c, gn m' c = gn m c) -> vw m' t c (gn m c) k = v -> Lc G.val m' t x l fl'.r g) (hrt : rtd g ↔ rtd (G.pt t)) (han : ∀ e, Ret G t e -> An f G t e -> An f (G.upd t x l fl' g) t e) (hrd : ¬ rdq g) :
  QD f n (G.upd t x l fl' g) (m.put t (rf m c) k v) := by
 subst hx hl hf
 obtain ⟨P, D⟩ := h
 obtain ⟨c1, Lx, c3⟩ := D.dc ht (mem_nd hc)
 obtain ⟨n1, n2⟩ := nd_ls D ht hc
 have e0 : m.put t (rf m c) k v = m.setMem (m.mem.setWaits t (m.mem.waits t ++ [⟨(c : Int), gn m c, k, v⟩])) := by
  unfold Mk.put
  rw [(rf_cell Lx).1, (rf_cell Lx).2]
 rw [e0]
 generalize hm' : m.setMem (m.mem.setWaits t (m.mem.waits t ++ [⟨(c : Int), gn m c, k, v⟩])) = m'
 have ear : m'.mem.ar = m.mem.ar := by rw [<- hm']; rfl
 have ethr : m'.mem.threads = m.mem.threads := by rw [<- hm']; rfl
 have eregs : m'.regs = m.regs := by rw [<- hm']; rfl
 have ef : m'.faults = m.faults := by rw [<- hm']; rfl
 have emk : m'.marks = m.marks := by rw [<- hm']; rfl
 have ewt : m'.mem.waits t = m.mem.waits t ++ [⟨(c : Int), gn m c, k, v⟩] := by rw [<- hm']; exact if_pos rfl
 have ewn : ∀ u, u ≠ t -> m'.mem.waits u = m.mem.waits u := fun u hu => by rw [<- hm']; exact if_neg hu
 have S : SameCells m m' := ⟨by rw [ear], by rw [ear], by rw [ear]⟩
 have hmem : ∀ u, ∀ y ∈ m'.mem.waits u, y ∈ m.mem.waits u ∨ u = t /\ y = ⟨(c : Int), gn m c, k, v⟩ := fun u y hy => by
  by_cases e : u = t
  ·subst e
   rw [ewt] at hy
   rcases List.mem_append.1 hy with h | h
   ·exact .inl h
   ·exact .inr ⟨rfl, by simpa using h⟩
  ·rw [ewn u e] at hy; exact .inl hy
 have hvn : ∀ u c g j, u ≠ t -> vw m' u c g j = vw m u c g j := fun u c g j hu => by unfold vw; rw [ewn u hu, ear]
 have hvt : ∀ (e : Nat) (g : Int) (j : Nat), vw m' t e g j = if (c : Int) = e /\ gn m c = g /\ (k : Int) = j then v else vw m t e g j := fun e g j => by
  unfold vw
  rw [ewt, ear, foldl_snoc]
  rfl
 have hon : ∀ u, u < n -> ovq m' u = ovq m u := fun u hu => by
  funext j
  unfold ovq
  by_cases e : u = t
  ·subst e; rw [hvt, if_neg (fun h => by omega)]
  ·exact hvn u _ _ _ e
 have how : ∀ u, ow (G.upd t (G.nd t) (G.ls t) (G.fl t) g) u = ow G u := fun u => by
  by_cases e : u = t
  ·subst e; exact Gq.upd_ow
  ·exact Gq.upd_own e
 have hls : ∀ u, (G.upd t (G.nd t) (G.ls t) (G.fl t) g).ls u = G.ls u := fun u => by
  by_cases e : u = t
  ·subst e; exact Gq.upd_ls
  ·exact Gq.upd_lsn e
 have hre : ∀ u e, Ret (G.upd t (G.nd t) (G.ls t) (G.fl t) g) u e ↔ Ret G u e := fun u e => by
  by_cases e2 : u = t
  ·subst e2
   rw [Ret.upd]
   unfold Ret
   rw [hrt]
  ·exact Ret.updn e2
 refine ⟨P.data ht (Av.upd _ _ _ _ _ _) (fun x h1 h2 => ⟨S.live (P.here x h1 h2).1, by rw [ear]; exact (P.here x h1 h2).2⟩) ethr (fun x k _ _ => by rw [ear]) (fun u hu x hx => ?_) hon (fun u _ => by rw [eregs]) (by rw [eregs]) (by rw [eregs]) (by rw [eregs]) (by rw [eregs]; exact hla) (fun e => absurd e hno), ?_⟩
 ·rcases hmem u x hx with h | ⟨rfl, rfl⟩
  ·exact .inl h
  ·exact .inr ⟨⟨by show (0 : Int) <= (c : Int); omega, by show (0 : Int) <= (k : Int); omega⟩, by show (c : Int) = 0 ∨ (n : Int) + 3 <= (c : Int); omega⟩
 refine ⟨by rw [ear]; exact D.size, ⟨⟨D.pub.1.1, S.live D.pub.1.2⟩, by rw [ear, S.rf]; exact D.pub.2.1, by rw [ear]; exact D.pub.2.2⟩, fun w hw x hx => ?_, fun w hw => by rw [how]; exact D.nod w hw, fun w u h1 h2 h3 x hx => by rw [how] at hx ⊢; exact D.apart w u h1 h2 h3 x hx, fun u hu x hx hxc => ?_, fun w hw x hx => by rw [ear]; exact D.ret w hw x ((hre w x).1 hx), fun w hw => ?_, fun w hw => ?_, fun w hw => ?_, fun u hu hr => ?_, fun x h1 h2 h3 => ?_, by rw [ef]; exact D.ok, by rw [emk]; exact D.mks, D.nz⟩
 ·rw [how] at hx
  exact ⟨⟨(D.own w hw x hx).1.1, S.live (D.own w hw x hx).1.2⟩, (D.own w hw x hx).2⟩
 ·rcases hmem u x hx with h | ⟨rfl, rfl⟩
  ·obtain ⟨c', k1, k2, k3, k4⟩ := D.wts u hu x h hxc
   exact ⟨c', by rw [how]; exact k1, k2, by rw [S.gn]; exact k3, k4⟩
  ·refine ⟨c, by rw [how]; exact mem_nd hc, rfl, by rw [S.gn], ?_⟩
   rcases hk with rfl | ⟨rfl, hv⟩
   ·exact .inl rfl
   ·exact .inr ⟨rfl, hv⟩
 ·rw [hls]
  refine Lkq.same S.rf S.gn (fun x hx => ?_) (D.lst w hw)
  by_cases e : w = t
  ·subst e
   rw [hvt, if_neg]
   rintro ⟨e1, -, -⟩
   have : c = x := by omega
   subst this
   exact n1 hx
  ·exact hvn _ _ _ _ e
 ·by_cases e : w = t
  ·subst e; rw [Gq.upd_ls, Gq.upd_fl]; exact D.kep w hw
  ·rw [Gq.upd_lsn e, Gq.upd_fln e]; exact D.kep w hw
 ·show Lc G.val m' w _ _ _ _
  by_cases e : w = t
  ·subst e
   rw [Gq.upd_nd, Gq.upd_ls, Gq.upd_fl, Gq.upd_pt]
   exact hlc m' eregs S.rf S.gn (by rw [hvt, if_pos ⟨rfl, rfl, rfl⟩])
  ·rw [Gq.upd_ndn e, Gq.upd_lsn e, Gq.upd_fln e, Gq.upd_ptn e]
   exact Lc.same S.rf S.gn (by rw [eregs]) (fun c k _ => hvn _ _ _ _ e) (D.loc w hw)
 ·have hne : u ≠ t := fun e => by subst e; rw [Gq.upd_pt] at hr; exact hrd hr
  rw [Gq.upd_ptn hne] at hr
  rw [eregs, S.rf]
  rcases D.hold u hu hr with h | ⟨w, h1, x, h2, h3, h4⟩
  ·exact .inl h
  ·refine .inr ⟨w, h1, x, (hre w x).2 h2, by rw [S.rf]; exact h3, ?_⟩
   by_cases e : w = t
   ·subst e
    exact h4.imp (han x h2) id
   ·exact h4.imp (An.updn e).2 id
 ·rw [ear] at h3
  rcases D.live x h1 h2 h3 with h | ⟨w, k1, k2⟩
  ·exact .inl h
  ·exact .inr ⟨w, k1, by rw [how]; exact k2⟩
def Gq.swp (G : Gq) (t c : Nat) (k : Fl) (g : Option Pq) : Gq := { G.upd t (some G.pp) (G.ls t) k g with pp := c }
theorem QD.swaps (h : QD f n G m) (ht : t < n) (hwt : m.mem.waits t = []) {v : Int} {c : Nat} {k : Fl} (hp : G.pt t = some ⟨.put v, 4, d⟩) (hnx : G.nd t = some c) (hkr : k.w = false) (hkk : k.k = (G.fl t).k) :
  QD f n (G.swp t c k (some ⟨.put v, 5, d⟩)) ((m.setWord 2 0 (m.regs t 3)).setReg t 3 (m.mem.ar.words 1 0)) := by
 have hno := h.noold ht hp (fun e => nomatch e)
 have L := la_at h ht hp
 obtain ⟨⟨hV, hr4⟩, c', hx', hr3, hset⟩ := loc_at h ht hp
 rw [hnx] at hx'
 cases hx'
 obtain ⟨P, D⟩ := h
 obtain ⟨c1, Lx, c3⟩ := D.dc ht (mem_nd hnx)
 obtain ⟨n1, n2⟩ := nd_ls D ht hnx
 have hset : G.val (m.mem.ar.words c 0) := by
  unfold vw at hset
  rw [hwt] at hset; exact hset
 generalize hm' : (m.setWord 2 0 (m.regs t 3)).setReg t 3 (m.mem.ar.words 1 0) = m'
 have ewords : ∀ c j, m'.mem.ar.words c j = if c = 1 /\ j = 0 then m.regs t 3 else m.mem.ar.words c j := fun c j => by rw [<- hm']; rfl
 have S : SameCells m m' := by rw [<- hm']; exact ⟨rfl, rfl, rfl⟩
 have ethr : m'.mem.threads = m.mem.threads := by rw [<- hm']; rfl
 have erg : ∀ u j, m'.regs u j = if u = t /\ j = 3 then m.mem.ar.words 1 0 else m.regs u j := fun u j => by rw [<- hm']; rfl
 have ern : ∀ u, u ≠ t -> m'.regs u = m.regs u := fun u hu => by funext j; rw [erg, if_neg (fun e => hu e.1)]
 have er5 : ∀ u j, j ≠ 3 -> m'.regs u j = m.regs u j := fun u j hj => by rw [erg, if_neg (fun e => hj e.2)]
 have ef : m'.faults = m.faults := by rw [<- hm']; rfl
 have emk : m'.marks = m.marks := by rw [<- hm']; rfl
 have ew : m'.mem.waits = m.mem.waits := by rw [<- hm']; rfl
 have W : ∀ c j, c ≠ 1 -> m'.mem.ar.words c j = m.mem.ar.words c j := fun c j hc => by rw [ewords, if_neg (fun e => hc e.1)]
 have hvn : ∀ u c g j, c ≠ 1 -> vw m' u c g j = vw m u c g j := fun u c g j hc => by unfold vw; rw [ew, W c j hc]
 have hn1 : ∀ w, w < n -> ∀ x ∈ ow G w, x ≠ 1 := fun w hw x hx e => by have := (D.dc hw hx).1; omega
 have o1 : ow (G.swp t c k (some ⟨.put v, 5, d⟩)) t = G.pp :: G.ls t := Gq.upd_ow (G := G) (x := some G.pp) (l := G.ls t) (k := k) (g := some ⟨.put v, 5, d⟩)
 have o2 : ∀ u, u ≠ t -> ow (G.swp t c k (some ⟨.put v, 5, d⟩)) u = ow G u := fun u hu => Gq.upd_own (G := G) (x := some G.pp) (l := G.ls t) (k := k) (g := some ⟨.put v, 5, d⟩) hu
 have hppn : ∀ w, w < n -> ∀ x ∈ ow G w, x ≠ G.pp := fun w hw x hx => (D.own w hw x hx).2
 have r1 : ∀ x, Ret (G.swp t c k (some ⟨.put v, 5, d⟩)) t x ↔ x ∈ G.ls t ∨ x = G.pp := fun x => by
  show Ret (G.upd t (some G.pp) (G.ls t) k (some ⟨.put v, 5, d⟩)) t x ↔ _
  rw [Ret.upd]
  refine or_congr Iff.rfl ⟨fun e => (Option.some.inj e.1).symm, fun e => ⟨by rw [e], Nat.le_refl 5⟩⟩
 have r2 : ∀ u x, u ≠ t -> (Ret (G.swp t c k (some ⟨.put v, 5, d⟩)) u x ↔ Ret G u x) := fun u x hu => by
  show Ret (G.upd t (some G.pp) (G.ls t) k (some ⟨.put v, 5, d⟩)) u x ↔ _
  exact Ret.updn hu
 have a1 : ∀ x, An f (G.swp t c k (some ⟨.put v, 5, d⟩)) t x := fun x => by
  show An f (G.upd t (some G.pp) (G.ls t) k (some ⟨.put v, 5, d⟩)) t x
  exact An.any (.inr hkr) rfl (fun e => nomatch e) (fun e => nomatch e)
 have a2 : ∀ u x, u ≠ t -> An f G u x -> An f (G.swp t c k (some ⟨.put v, 5, d⟩)) u x := fun u x hu h => by
  show An f (G.upd t (some G.pp) (G.ls t) k (some ⟨.put v, 5, d⟩)) u x
  exact (An.updn hu).2 h
 have hav : Av t (some ⟨.put v, 5, d⟩) G (G.swp t c k (some ⟨.put v, 5, d⟩)) := ⟨rfl, rfl, if_pos rfl, fun u hu => if_neg hu⟩
 refine ⟨P.data ht hav (fun x h1 h2 => ⟨S.live (P.here x h1 h2).1, by rw [S.given]; exact (P.here x h1 h2).2⟩) ethr (fun x k h1 h2 => W x k (by omega)) (fun u _ x hx => .inl (by rw [<- ew]; exact hx)) (fun u hu => by funext j; exact hvn u _ _ _ (by omega)) ern (er5 t 5 (by decide)) (er5 t 6 (by decide)) (er5 t 7 (by decide)) L (fun e => absurd e hno), ?_⟩
 refine ⟨by rw [S.size]; exact D.size, ⟨⟨c1, S.live Lx⟩, ?_, ?_⟩, fun w hw x hx => ?_, fun w hw => ?_, fun w u h1 h2 h3 x hx => ?_, fun u hu x hx hxc => ?_, fun w hw x hx => ?_, fun w hw => ?_, fun w hw => ?_, fun w hw => ?_, fun u hu hr => ?_, fun x h1 h2 h3 => ?_, by rw [ef]; exact D.ok, by rw [emk]; exact D.mks, D.nz⟩
 ·show m'.mem.ar.words 1 0 = rf m' c
  rw [ewords, if_pos ⟨rfl, rfl⟩, S.rf]; exact hr3
 ·show G.val (m'.mem.ar.words c 0)
  rw [W c 0 (by omega)]; exact hset
 ·show ((x = 0 ∨ n + 3 <= x) /\ Live m' x) /\ x ≠ c
  by_cases e : w = t
  ·subst e
   rw [o1] at hx
   rcases List.mem_cons.1 hx with rfl | hx
   ·exact ⟨⟨D.pub.1.1, S.live D.pub.1.2⟩, fun e => c3 e.symm⟩
   ·exact ⟨⟨(D.own w hw x (mem_ls hx)).1.1, S.live (D.own w hw x (mem_ls hx)).1.2⟩, fun e => n1 (by rw [<- e]; exact hx)⟩
  ·rw [o2 w e] at hx
   exact ⟨⟨(D.own w hw x hx).1.1, S.live (D.own w hw x hx).1.2⟩, fun e2 => D.apart w t hw ht e x hx (by rw [e2]; exact mem_nd hnx)⟩
 ·by_cases e : w = t
  ·subst e
   rw [o1]
   exact List.nodup_cons.2 ⟨fun hx => hppn w hw _ (mem_ls hx) rfl, n2⟩
  ·rw [o2 w e]; exact D.nod w hw
 ·by_cases e : w = t
  ·subst e
   have hu : u ≠ w := fun e => h3 e.symm
   rw [o2 u hu]
   rw [o1] at hx
   rcases List.mem_cons.1 hx with rfl | hx
   ·exact fun hx => hppn u h2 _ hx rfl
   ·exact D.apart w u h1 h2 h3 x (mem_ls hx)
  ·rw [o2 w e] at hx
   by_cases e2 : u = t
   ·subst e2
    rw [o1]
    intro hx2
    rcases List.mem_cons.1 hx2 with rfl | hx2
    ·exact hppn w h1 _ hx rfl
    ·exact D.apart w u h1 h2 h3 x hx (mem_ls hx2)
   ·rw [o2 u e2]
    exact D.apart w u h1 h2 h3 x hx
 ·have hne : u ≠ t := fun e => by subst e; rw [ew, hwt] at hx; cases hx
  rw [ew] at hx
  obtain ⟨c', k1, k2, k3, k4⟩ := D.wts u hu x hx hxc
  exact ⟨c', by rw [o2 u hne]; exact k1, k2, by rw [S.gn]; exact k3, k4⟩
 ·show G.val (m'.mem.ar.words x 0)
  by_cases e : w = t
  ·subst e
   rcases (r1 x).1 hx with hx | rfl
   ·rw [W x 0 (hn1 w hw x (mem_ls hx))]; exact D.ret w hw x (.inl hx)
   ·rw [W _ 0 (by have := D.pub.1.1; intro e; rcases this with h | h <;> omega)]; exact D.pub.2.2
  ·have hx := (r2 w x e).1 hx
   rw [W x 0 (hn1 w hw x hx.ow)]; exact D.ret w hw x hx
 ·have hl : (G.swp t c k (some ⟨.put v, 5, d⟩)).ls w = G.ls w := by
   show (G.upd t (some G.pp) (G.ls t) k (some ⟨.put v, 5, d⟩)).ls w = _
   by_cases e : w = t
   ·subst e; exact Gq.upd_ls
   ·exact Gq.upd_lsn e
  rw [hl]
  exact Lkq.same S.rf S.gn (fun x hx => hvn _ _ _ _ (hn1 w hw x (mem_ls hx))) (D.lst w hw)
 ·show ((G.upd t (some G.pp) (G.ls t) k (some ⟨.put v, 5, d⟩)).fl w).k = false -> (G.upd t (some G.pp) (G.ls t) k (some ⟨.put v, 5, d⟩)).ls w = []
  by_cases e : w = t
  ·subst e; rw [Gq.upd_ls, Gq.upd_fl, hkk]; exact D.kep w hw
  ·rw [Gq.upd_lsn e, Gq.upd_fln e]; exact D.kep w hw
 ·show Lc G.val m' w ((G.upd t (some G.pp) (G.ls t) k (some ⟨.put v, 5, d⟩)).nd w) ((G.upd t (some G.pp) (G.ls t) k (some ⟨.put v, 5, d⟩)).ls w) ((G.upd t (some G.pp) (G.ls t) k (some ⟨.put v, 5, d⟩)).fl w).r ((G.upd t (some G.pp) (G.ls t) k (some ⟨.put v, 5, d⟩)).pt w)
  by_cases e : w = t
  ·subst e
   rw [Gq.upd_nd, Gq.upd_ls, Gq.upd_fl, Gq.upd_pt]
   exact ⟨⟨hV, by rw [er5 w 4 (by decide), hdn_same S.rf]; exact hr4⟩, .inr ⟨G.pp, rfl, by rw [erg, if_pos ⟨rfl, rfl⟩, S.rf]; exact D.pub.2.1⟩⟩
  ·rw [Gq.upd_ndn e, Gq.upd_lsn e, Gq.upd_fln e, Gq.upd_ptn e]
   exact Lc.same S.rf S.gn (ern w e) (fun x k hx => hvn _ _ _ _ (hn1 w hw x (mem_nd hx))) (D.loc w hw)
 ·have hne : u ≠ t := fun e => by subst e; rw [show (G.swp u c k (some ⟨.put v, 5, d⟩)).pt u = some ⟨.put v, 5, d⟩ from if_pos rfl] at hr; exact hr.elim
  rw [show (G.swp t c k (some ⟨.put v, 5, d⟩)).pt u = G.pt u from if_neg hne] at hr
  rw [ern u hne]
  right
  rcases D.hold u hu hr with h | ⟨w, h1, x, h2, h3', h4'⟩
  ·exact ⟨t, ht, G.pp, (r1 _).2 (.inr rfl), by rw [S.rf]; exact h, .inl (a1 _)⟩
  ·refine ⟨w, h1, x, ?_⟩
   rw [S.rf]
   by_cases e : w = t
   ·subst e
    refine ⟨(r1 x).2 (.inl ?_), h3', .inl (a1 x)⟩
    rcases h2 with h2 | ⟨-, h2⟩
    ·exact h2
    ·rw [hp] at h2
     exact absurd h2 (by show ¬ 5 <= 4; decide)
   ·exact ⟨(r2 w x e).2 h2, h3', h4'.imp (a2 w x e) id⟩
 ·rw [S.there] at h3
  rcases D.live x h1 h2 h3 with h | ⟨w, k1, k2⟩
  ·exact .inr ⟨t, ht, by rw [o1, h]; exact List.mem_cons_self⟩
  ·by_cases e : w = t
   ·subst e
    unfold ow at k2
    rw [hnx] at k2
    rcases List.mem_cons.1 k2 with h | h
    ·exact .inl h
    ·exact .inr ⟨w, k1, by rw [o1]; exact List.mem_cons_of_mem _ h⟩
   ·exact .inr ⟨w, k1, by rw [o2 w e]; exact k2⟩
theorem QD.frees (h : QD f n G m) (ht : t < n) (hwt : m.mem.waits t = []) {c : Nat} {x : Option Nat} {l : List Nat} {k : Fl} {g : Option Pq} (hc : c ∈ ow G t) (how : ∀ e, e ∈ x.toList ++ l ↔ e ∈ ow G t /\ e ≠ c) (hnod : (x.toList ++ l).Nodup) (hno : ¬ ∃ u, Olq G t u) (han : ¬ An f G t c)
  (hla : Lq f G.ch (Olq G t) (shq m) t (ovq m t) (m.regs t) g) (hlk : Lkq m t l) (hkp : k.k = false -> l = []) (hlc : Lc G.val m t x l k.r g) (hr1 : ∀ e, e ∈ l ∨ (x = some e /\ rtd g) -> Ret G t e) (hr2 : ∀ e, e ≠ c -> Ret G t e -> (e ∈ l ∨ (x = some e /\ rtd g)) /\ (An f G t e -> An f (G.upd t x l k g) t e)) (hrd : ¬ rdq g) :
  QD f n (G.upd t x l k g) (m.setMem (m.mem.setThere c false)) := by
 obtain ⟨P, D⟩ := h
 obtain ⟨c1, Lx, c3⟩ := D.dc ht hc
 generalize hm' : m.setMem (m.mem.setThere c false) = m'
 have ewords : m'.mem.ar.words = m.mem.ar.words := by rw [<- hm']; rfl
 have ethere : ∀ x, m'.mem.ar.there x = if x = c then false else m.mem.ar.there x := fun x => by rw [<- hm']; rfl
 have egiven : m'.mem.ar.given = m.mem.ar.given := by rw [<- hm']; rfl
 have esize : m'.mem.ar.size = m.mem.ar.size := by rw [<- hm']; rfl
 have ethr : m'.mem.threads = m.mem.threads := by rw [<- hm']; rfl
 have er : m'.regs = m.regs := by rw [<- hm']; rfl
 have ef : m'.faults = m.faults := by rw [<- hm']; rfl
 have emk : m'.marks = m.marks := by rw [<- hm']; rfl
 have ew : m'.mem.waits = m.mem.waits := by rw [<- hm']; rfl
 have LL : ∀ x, x ≠ c -> Live m x -> Live m' x := fun x hx h => ⟨by rw [esize]; exact h.lt, by rw [ethere, if_neg hx]; exact h.there, by rw [egiven]; exact h.given, by rw [esize]; exact h.small⟩
 have R : ∀ x, rf m' x = rf m x := fun x => by unfold rf; rw [egiven]
 have Gn : ∀ x, gn m' x = gn m x := fun x => by unfold gn; rw [egiven]
 have hvn : ∀ u x g j, vw m' u x g j = vw m u x g j := fun u x g j => by unfold vw; rw [ew, ewords]
 have hon : ∀ u, ovq m' u = ovq m u := fun u => by funext j; exact hvn u _ _ _
 have hne : ∀ w, w < n -> w ≠ t -> ∀ x ∈ ow G w, x ≠ c := fun w hw hwt x hx e => by subst e; exact D.apart w t hw ht hwt x hx hc
 refine ⟨P.data ht (Av.upd _ _ _ _ _ _) (fun x h1 h2 => ⟨LL x (by omega) (P.here x h1 h2).1, by rw [egiven]; exact (P.here x h1 h2).2⟩) ethr (fun x k _ _ => by rw [ewords]) (fun u _ x hx => .inl (by rw [<- ew]; exact hx)) (fun u _ => hon u) (fun u _ => by rw [er]) (by rw [er]) (by rw [er]) (by rw [er]) (by rw [er]; exact hla) (fun e => absurd e hno), ?_⟩
 refine ⟨by rw [esize]; exact D.size, ⟨⟨D.pub.1.1, LL _ (fun e => c3 e.symm) D.pub.1.2⟩, by rw [ewords, R]; exact D.pub.2.1, by rw [ewords]; exact D.pub.2.2⟩, fun w hw y hy => ?_, fun w hw => ?_, fun w u h1 h2 h3 y hy => ?_, fun u hu y hy hyc => ?_, fun w hw y hy => ?_, fun w hw => ?_, fun w hw => ?_, fun w hw => ?_, fun u hu hr => ?_, fun y h1 h2 h3 => ?_, by rw [ef]; exact D.ok, by rw [emk]; exact D.mks, D.nz⟩
 ·show ((y = 0 ∨ n + 3 <= y) /\ Live m' y) /\ y ≠ G.pp
  by_cases e : w = t
  ·subst e
   rw [Gq.upd_ow] at hy
   obtain ⟨k1, k2⟩ := (how y).1 hy
   exact ⟨⟨(D.own w hw y k1).1.1, LL y k2 (D.own w hw y k1).1.2⟩, (D.own w hw y k1).2⟩
  ·rw [Gq.upd_own e] at hy
   exact ⟨⟨(D.own w hw y hy).1.1, LL y (hne w hw e y hy) (D.own w hw y hy).1.2⟩, (D.own w hw y hy).2⟩
 ·by_cases e : w = t
  ·subst e; rw [Gq.upd_ow]; exact hnod
  ·rw [Gq.upd_own e]; exact D.nod w hw
 ·by_cases e : w = t
  ·subst e
   have hu : u ≠ w := fun e => h3 e.symm
   rw [Gq.upd_own hu]
   rw [Gq.upd_ow] at hy
   exact D.apart w u h1 h2 h3 y ((how y).1 hy).1
  ·rw [Gq.upd_own e] at hy
   by_cases e2 : u = t
   ·subst e2
    rw [Gq.upd_ow]
    exact fun hy2 => D.apart w u h1 h2 h3 y hy ((how y).1 hy2).1
   ·rw [Gq.upd_own e2]
    exact D.apart w u h1 h2 h3 y hy
 ·have hne : u ≠ t := fun e => by subst e; rw [ew, hwt] at hy; cases hy
  rw [ew] at hy
  obtain ⟨c', k1, k2, k3, k4⟩ := D.wts u hu y hy hyc
  exact ⟨c', by rw [Gq.upd_own hne]; exact k1, k2, by rw [Gn]; exact k3, k4⟩
 ·show G.val (m'.mem.ar.words y 0)
  rw [ewords]
  by_cases e : w = t
  ·subst e; exact D.ret w hw y (hr1 y (Ret.upd.1 hy))
  ·exact D.ret w hw y ((Ret.updn e).1 hy)
 ·refine Lkq.same R Gn (fun x _ => hvn _ _ _ _) ?_
  by_cases e : w = t
  ·subst e; rw [Gq.upd_ls]; exact hlk
  ·rw [Gq.upd_lsn e]; exact D.lst w hw
 ·by_cases e : w = t
  ·subst e; rw [Gq.upd_ls, Gq.upd_fl]; exact hkp
  ·rw [Gq.upd_lsn e, Gq.upd_fln e]; exact D.kep w hw
 ·show Lc G.val m' w _ _ _ _
  refine Lc.same R Gn (by rw [er]) (fun c k _ => hvn _ _ _ _) ?_
  by_cases e : w = t
  ·subst e
   rw [Gq.upd_nd, Gq.upd_ls, Gq.upd_fl, Gq.upd_pt]; exact hlc
  ·rw [Gq.upd_ndn e, Gq.upd_lsn e, Gq.upd_fln e, Gq.upd_ptn e]; exact D.loc w hw
 ·have hne' : u ≠ t := fun e => by subst e; rw [Gq.upd_pt] at hr; exact hrd hr
  rw [Gq.upd_ptn hne'] at hr
  rw [er, R]
  rcases D.hold u hu hr with h | ⟨w, h1, y, h2, h3, h4⟩
  ·exact .inl h
  ·refine .inr ⟨w, h1, y, ?_⟩
   rw [R]
   by_cases e : w = t
   ·subst e
    have hyc : y ≠ c := fun e => by
     subst e
     rcases h4 with h4 | h4
     ·exact han h4
     ·exact hno ⟨u, h4⟩
    exact ⟨Ret.upd.2 (hr2 y hyc h2).1, h3, h4.imp (hr2 y hyc h2).2 id⟩
   ·exact ⟨(Ret.updn e).2 h2, h3, h4.imp (An.updn e).2 id⟩
 ·rw [ethere] at h3
  by_cases e : y = c
  ·rw [if_pos e] at h3; cases h3
  ·rw [if_neg e] at h3
   rcases D.live y h1 h2 h3 with h | ⟨w, k1, k2⟩
   ·exact .inl h
   ·refine .inr ⟨w, k1, ?_⟩
    by_cases e2 : w = t
    ·subst e2
     rw [Gq.upd_ow]; exact (how y).2 ⟨k2, e⟩
    ·rw [Gq.upd_own e2]; exact k2
end
end
section
open Go.RowKit
section
variable {f n : Nat} {G G' : Gq} {m m' : Mk} {t q d : Nat} {i : GI}
theorem NR.zero {w : Nat} {nd : Option Nat} (h : NR m w nd) (hl : ∀ c, nd = some c -> Live m c) (h0 : m.regs w 3 = 0) : nd = none := by
 rcases h with ⟨h1, -⟩ | ⟨c, h1, h2⟩
 ·exact h1
 ·have := rf_pos (hl c h1)
  omega
theorem NR.nz {w : Nat} {nd : Option Nat} (h : NR m w nd) (h0 : ¬ m.regs w 3 = 0) : NS m w nd := by
 rcases h with ⟨-, h1⟩ | h1
 ·exact absurd h1 h0
 ·exact h1
theorem CI.ndl (D : CI f n G m) (hw : t < n) : ∀ c, G.nd t = some c -> Live m c := fun _ hc => (D.dc hw (mem_nd hc)).2.1
theorem storec {c : Nat} (hc : Live m c) (k : Nat) (v : Int) : m.store t (rf m c) k v = (m.room t).put t (rf (m.room t) c) k v := by
 rw [store_live hc]
 have : rf (m.room t) c = rf m c := by
  unfold Mk.room
  split
  ·cases hw : m.mem.waits t with
   | nil => rw [drain1_nil hw]
   | cons x l => exact (drain1_cons hw).cells.rf c
  ·rfl
 rw [this]
theorem qown_put {v : Int} (h : QD f n G m) (ht : t < n) (hp : G.pt t = some ⟨.put v, q, d⟩) (hi : (tqCode f (.put v))[q]? = some i) : Sq f n G t (some ⟨.put v, gNext (tqCode f (.put v)) q (m.regs t) i, d⟩) (gExec m t i) := by
 have hno := h.noold ht hp (fun e => nomatch e)
 match q, hp, hi with
 | 0, hp, hi =>
  have e : GI.alloc 3 = i := Option.some.inj hi
  subst e
  obtain ⟨x, hx⟩ := h.allocs ht hp
  exact Sq.upd hx rfl
 | 1, hp, hi =>
  have L := la_at h ht hp
  have C := loc_at h ht hp
  have e : GI.zero 3 0 = i := Option.some.inj hi
  subst e
  show Sq f n G t (some ⟨.put v, if m.regs t 3 = 0 then gAt 0 (tqCode f (.put v)) else 2, d⟩) m
  by_cases hz : m.regs t 3 = 0
  ·rw [if_pos hz]
   have hn := NR.zero C.2 (h.2.ndl ht) hz
   exact Sq.upd (h.rego (k := ⟨true, false, (G.fl t).k⟩) (g := some ⟨.put v, 5, d⟩) ht hno rfl rfl h.2.mks (fun u hu => rfl) rfl rfl rfl L (h.2.kep t ht) ⟨C.1, C.2⟩ (fun c hc => by rw [hn] at hc; cases hc) (fun c hc _ => An.any (.inr rfl) rfl (fun e => nomatch e) (fun e => nomatch e)) (fun e => e.elim)) rfl
  ·rw [if_neg hz]
   exact Sq.upd (h.rego (k := G.fl t) (g := some ⟨.put v, 2, d⟩) ht hno rfl rfl h.2.mks (fun u hu => rfl) rfl rfl rfl L (h.2.kep t ht) ⟨C.1, NR.nz C.2 hz⟩ (fun c _ => by rw [hp]; exact Iff.intro (fun e => absurd e (by show ¬ 5 <= 2; decide)) (fun e => absurd e (by show ¬ 5 <= 1; decide))) (fun c _ ha => ha.same id rfl hp rfl ⟨(fun e => nomatch e), fun e => nomatch e⟩ ⟨(fun e => nomatch e), fun e => nomatch e⟩) (fun e => e.elim)) rfl
 | 2, hp, hi =>
  have L := la_at h ht hp
  have C := loc_at h ht hp
  have e : GI.const 0 v = i := Option.some.inj hi
  subst e
  show Sq f n G t (some ⟨.put v, 3, d⟩) (m.setReg t 0 v)
  exact Sq.upd (h.rego (k := G.fl t) (g := some ⟨.put v, 3, d⟩) ht hno rfl rfl h.2.mks (fun u hu => reg3q _ _ _ _ hu) (setq_ne _ _ _ _ (by decide)) (setq_ne _ _ _ _ (by decide)) (setq_ne _ _ _ _ (by decide)) L (h.2.kep t ht) ⟨⟨C.1.1, by rw [setq_ne _ _ _ _ (by decide), hdn_mem rfl]; exact C.1.2⟩, NS.keep (m := m) rfl (setq_ne _ _ _ _ (by decide)) C.2, setq_eq _ _ _ _⟩ (fun c _ => by rw [hp]; exact Iff.intro (fun e => absurd e (by show ¬ 5 <= 3; decide)) (fun e => absurd e (by show ¬ 5 <= 2; decide))) (fun c _ ha => ha.same id rfl hp rfl ⟨(fun e => nomatch e), fun e => nomatch e⟩ ⟨(fun e => nomatch e), fun e => nomatch e⟩) (fun e => e.elim)) rfl
 | 3, hp, hi =>
  have e : GI.store 3 0 0 = i := Option.some.inj hi
  subst e
  have hR := h.room ht
  have L := la_at hR ht hp
  have C := loc_at hR ht hp
  obtain ⟨C1, ⟨c, hc, h3⟩, h0⟩ := C
  have Lx := h.2.ndl ht c hc
  obtain ⟨-, ⟨c', hc', h3'⟩, h0'⟩ := loc_at h ht hp
  rw [hc] at hc'
  cases hc'
  show Sq f n G t (some ⟨.put v, 4, d⟩) (m.store t (m.regs t 3) ((0 : Nat) : Int) (m.regs t 0))
  rw [h3', h0', storec Lx]
  exact Sq.upd (hR.putc (c := c) (k := 0) (v := v) (x := some c) (g := some ⟨.put v, 4, d⟩) ht (hR.noold ht hp (fun e => nomatch e)) hc rfl rfl rfl (.inr ⟨rfl, C1.1⟩) L (fun m' e1 e2 e3 e4 => ⟨⟨C1.1, by rw [e1, hdn_same e2]; exact C1.2⟩, c, rfl, by rw [e1, e2]; exact h3, by rw [e3, e4]; exact C1.1⟩) (by rw [hp]; exact Iff.intro (fun e => absurd e (by show ¬ 5 <= 4; decide)) (fun e => absurd e (by show ¬ 5 <= 3; decide))) (fun e _ ha => ha.same id rfl hp rfl ⟨(fun e => nomatch e), fun e => nomatch e⟩ ⟨(fun e => nomatch e), fun e => nomatch e⟩) (fun e => e.elim)) rfl
 | 4, hp, hi =>
  have e : GI.swap 3 5 0 = i := Option.some.inj hi
  subst e
  have hF := h.fence ht
  obtain ⟨-, c, hc, -, -⟩ := loc_at h ht hp
  obtain ⟨Lr, g0, r0⟩ := h.1.cell (show 1 <= 1 by omega) (show 1 <= n + 2 by omega)
  have r1 : rf m 1 = 2 := by rw [r0]; rfl
  have hw : (m.fence t).mem.waits t = [] := Rm.drainAll_waits _ _ _ rfl
  have h2 := hF.swaps ht hw (k := ⟨true, false, (G.fl t).k⟩) hp hc rfl rfl
  have e : gExec m t (.swap 3 5 0) = ((m.fence t).setWord 2 0 ((m.fence t).regs t 3)).setReg t 3 ((m.fence t).mem.ar.words 1 0) := by
   show m.swap t 3 (m.regs t 5) ((0 : Nat) : Int) (m.regs t 3) = _
   unfold Mk.swap
   rw [h.1.r5 t ht, <- r1, if_pos Lr.names]
   congr 1
   unfold Mk.word
   rw [(rf_cell Lr).1, Int.toNat_natCast]; rfl
  rw [e]
  exact ⟨_, h2, if_pos rfl, fun u hu => if_neg hu, .inl rfl, rfl, fun u hu => if_neg hu, if_pos rfl⟩
 | 5, hp, hi =>
  have L := la_at h ht hp
  have C := loc_at h ht hp
  have e : GI.label 0 = i := Option.some.inj hi
  subst e
  exact Sq.upd (h.rego (k := ⟨true, false, (G.fl t).k⟩) (g := some ⟨.put v, 6, d⟩) ht hno rfl rfl h.2.mks (fun u hu => rfl) rfl rfl rfl L (h.2.kep t ht) ⟨C.1, C.2⟩ (fun c _ => by rw [hp]; exact Iff.intro (fun _ => Nat.le_refl 5) (fun _ => Nat.le_succ 5)) (fun c _ _ => An.any (.inr rfl) rfl (fun e => nomatch e) (fun e => nomatch e)) (fun e => e.elim)) rfl
 | k + 6, hp, hi => exact nomatch (show (none : Option GI) = some i from hi)
theorem qown_drop (h : QD f n G m) (ht : t < n) (hfw : (G.fl t).w = true) (hp : G.pt t = some ⟨.drop, q, d⟩) (hi : (tqCode f .drop)[q]? = some i) : Sq f n G t (some ⟨.drop, gNext (tqCode f .drop) q (m.regs t) i, d⟩) (gExec m t i) := by
 have hno := h.noold ht hp (by decide)
 match q, hp, hi with
 | 0, hp, hi =>
  have L := la_at h ht hp
  have C := loc_at h ht hp
  have e : GI.zero 3 0 = i := Option.some.inj hi
  subst e
  show Sq f n G t (some ⟨.drop, if m.regs t 3 = 0 then gAt 0 (tqCode f .drop) else 1, d⟩) m
  by_cases hz : m.regs t 3 = 0
  ·rw [if_pos hz]
   exact Sq.upd (h.rego (k := G.fl t) (g := some ⟨.drop, 2, d⟩) ht hno rfl rfl h.2.mks (fun u hu => rfl) rfl rfl rfl L (h.2.kep t ht) ⟨C.1, NR.zero C.2 (h.2.ndl ht) hz⟩ (fun c _ => by rw [hp]; exact Iff.rfl) (fun c _ ha => ha.same id rfl hp rfl ⟨by decide, by decide⟩ ⟨by decide, by decide⟩) (fun e => e.elim)) rfl
  ·rw [if_neg hz]
   exact Sq.upd (h.rego (k := G.fl t) (g := some ⟨.drop, 1, d⟩) ht hno rfl rfl h.2.mks (fun u hu => rfl) rfl rfl rfl L (h.2.kep t ht) ⟨C.1, NR.nz C.2 hz⟩ (fun c _ => by rw [hp]; exact Iff.rfl) (fun c _ ha => ha.same id rfl hp rfl ⟨by decide, by decide⟩ ⟨by decide, by decide⟩) (fun e => e.elim)) rfl
 | 1, hp, hi =>
  have e : GI.free 3 = i := Option.some.inj hi
  subst e
  have hF := h.fence ht
  have L := la_at hF ht hp
  obtain ⟨C4, c, hc, h3⟩ := loc_at hF ht hp
  have Lx := h.2.ndl ht c hc
  obtain ⟨-, c', hc', h3'⟩ := loc_at h ht hp
  rw [hc] at hc'
  cases hc'
  have hw : (m.fence t).mem.waits t = [] := Rm.drainAll_waits _ _ _ rfl
  obtain ⟨n1, n2⟩ := nd_ls h.2 ht hc
  have how : ow G t = c :: G.ls t := by unfold ow; rw [hc]; rfl
  have h2 := hF.frees (c := c) (x := none) (l := G.ls t) (k := G.fl t) (g := some ⟨.drop, 2, d⟩) ht hw (mem_nd hc) (fun e => by
   show e ∈ G.ls t ↔ e ∈ ow G t /\ e ≠ c
   rw [how]
   refine ⟨fun he => ⟨List.mem_cons_of_mem _ he, fun e2 => n1 (by rw [<- e2]; exact he)⟩, fun ⟨he, e2⟩ => ?_⟩
   rcases List.mem_cons.1 he with h | h
   ·exact absurd h e2
   ·exact h) n2 (hF.noold ht hp (by decide)) (fun ha => by
   unfold An at ha
   rw [hp] at ha
   rcases ha with ha | ha
   ·exact n1 ha
   ·rw [hfw] at ha; cases ha) L (hF.2.lst t ht) (hF.2.kep t ht) ⟨C4, rfl⟩ (fun e he => by
   rcases he with he | ⟨he, -⟩
   ·exact .inl he
   ·cases he) (fun e he hr => by
   rcases hr with hr | ⟨hr, -⟩
   ·exact ⟨.inl hr, fun ha => ha.same id rfl hp rfl ⟨by decide, by decide⟩ ⟨by decide, by decide⟩⟩
   ·rw [hc] at hr
    cases hr
    exact absurd rfl he) (fun e => e.elim)
  have e : gExec m t (.free 3) = (m.fence t).setMem ((m.fence t).mem.setThere c false) := by
   show m.free t (m.regs t 3) = _
   unfold Mk.free
   rw [h3', if_pos Lx.names, (rf_cell Lx).1, Int.toNat_natCast]
  rw [e]
  exact Sq.upd h2 rfl
 | 2, hp, hi =>
  have L := la_at h ht hp
  have C := loc_at h ht hp
  have e : GI.label 0 = i := Option.some.inj hi
  subst e
  exact Sq.upd (h.rego (k := G.fl t) (g := some ⟨.drop, 3, d⟩) ht hno rfl rfl h.2.mks (fun u hu => rfl) rfl rfl rfl L (h.2.kep t ht) ⟨C.1, C.2⟩ (fun c _ => by rw [hp]; exact Iff.rfl) (fun c _ ha => ha.same id rfl hp rfl ⟨by decide, by decide⟩ ⟨by decide, by decide⟩) (fun e => e.elim)) rfl
 | k + 3, hp, hi => exact nomatch (show (none : Option GI) = some i from hi)
theorem qown_later (h : QD f n G m) (ht : t < n) (hp : G.pt t = some ⟨.later, q, d⟩) (hi : (tqCode f .later)[q]? = some i) : Sq f n G t (some ⟨.later, gNext (tqCode f .later) q (m.regs t) i, d⟩) (gExec m t i) := by
 have hno := h.noold ht hp (by decide)
 match q, hp, hi with
 | 0, hp, hi =>
  have L := la_at h ht hp
  have C := loc_at h ht hp
  have e : GI.zero 3 0 = i := Option.some.inj hi
  subst e
  show Sq f n G t (some ⟨.later, if m.regs t 3 = 0 then gAt 0 (tqCode f .later) else 1, d⟩) m
  by_cases hz : m.regs t 3 = 0
  ·rw [if_pos hz]
   have hn := NR.zero C.2 (h.2.ndl ht) hz
   exact Sq.upd (h.rego (k := ⟨(G.fl t).r, (G.fl t).w, true⟩) (g := some ⟨.later, 3, d⟩) ht hno rfl rfl h.2.mks (fun u hu => rfl) rfl rfl rfl L (fun e => by cases e) ⟨C.1, hn⟩ (fun c _ => by rw [hp]; exact Iff.rfl) (fun c _ ha => ha.same id rfl hp rfl ⟨by decide, by decide⟩ ⟨by decide, by decide⟩) (fun e => e.elim)) rfl
  ·rw [if_neg hz]
   exact Sq.upd (h.rego (k := G.fl t) (g := some ⟨.later, 1, d⟩) ht hno rfl rfl h.2.mks (fun u hu => rfl) rfl rfl rfl L (h.2.kep t ht) ⟨C.1, NR.nz C.2 hz⟩ (fun c _ => by rw [hp]; exact Iff.rfl) (fun c _ ha => ha.same id rfl hp rfl ⟨by decide, by decide⟩ ⟨by decide, by decide⟩) (fun e => e.elim)) rfl
 | 1, hp, hi =>
  have e : GI.store 3 4 1 = i := Option.some.inj hi
  subst e
  have hR := h.room ht
  have L := la_at hR ht hp
  obtain ⟨C1, c, hc, h3⟩ := loc_at hR ht hp
  have Lx := h.2.ndl ht c hc
  obtain ⟨C1', c', hc', h3'⟩ := loc_at h ht hp
  rw [hc] at hc'
  cases hc'
  show Sq f n G t (some ⟨.later, 2, d⟩) (m.store t (m.regs t 3) ((1 : Nat) : Int) (m.regs t 4))
  rw [h3', storec Lx]
  have e4 : m.regs t 4 = (m.room t).regs t 4 := by rw [(room_regs m t).1]
  rw [e4]
  exact Sq.upd (hR.putc (c := c) (k := 1) (v := (m.room t).regs t 4) (x := some c) (g := some ⟨.later, 2, d⟩) ht (hR.noold ht hp (by decide)) hc rfl rfl rfl (.inl rfl) L (fun m' e1 e2 e3 e4 => ⟨by rw [e1, hdn_same e2]; exact C1, c, rfl, by rw [e1, e2]; exact h3, by rw [e3, e4, hdn_same e2]; exact C1⟩) (by rw [hp]; exact Iff.rfl) (fun e _ ha => ha.same id rfl hp rfl ⟨by decide, by decide⟩ ⟨by decide, by decide⟩) (fun e => e.elim)) rfl
 | 2, hp, hi =>
  have L := la_at h ht hp
  obtain ⟨C1, c, hc, h3, hv⟩ := loc_at h ht hp
  have e : GI.move 4 3 = i := Option.some.inj hi
  subst e
  obtain ⟨n1, n2⟩ := nd_ls h.2 ht hc
  show Sq f n G t (some ⟨.later, 3, d⟩) (m.setReg t 4 (m.regs t 3))
  exact Sq.upd (h.regu (x := none) (l := c :: G.ls t) (k := ⟨(G.fl t).r, (G.fl t).w, true⟩) (g := some ⟨.later, 3, d⟩) ht hno rfl rfl h.2.mks (fun u hu => reg3q _ _ _ _ hu) (setq_ne _ _ _ _ (by decide)) (setq_ne _ _ _ _ (by decide)) (setq_ne _ _ _ _ (by decide)) L (by
    show (c :: G.ls t).Perm (ow G t)
    unfold ow
    rw [hc]
    exact List.Perm.refl _) ⟨hv, h.2.lst t ht⟩ (fun e => by cases e) ⟨by rw [setq_eq]; exact h3, rfl⟩ (fun e he => by
    rcases he with he | ⟨he, -⟩
    ·rcases List.mem_cons.1 he with rfl | he
     ·exact .inr ⟨hc, by rw [hp]; exact trivial⟩
     ·exact .inl he
    ·cases he) (fun e he => by
    have hm : e ∈ c :: G.ls t := by
     rcases he with he | ⟨he, -⟩
     ·exact List.mem_cons_of_mem _ he
     ·rw [hc] at he
      cases he
      exact List.mem_cons_self
    exact ⟨.inl hm, fun _ => An.any (.inl hm) rfl (by decide) (by decide)⟩) (fun e => e.elim)) rfl
 | 3, hp, hi =>
  have L := la_at h ht hp
  have C := loc_at h ht hp
  have e : GI.label 0 = i := Option.some.inj hi
  subst e
  exact Sq.upd (h.rego (k := ⟨(G.fl t).r, (G.fl t).w, true⟩) (g := some ⟨.later, 4, d⟩) ht hno rfl rfl h.2.mks (fun u hu => rfl) rfl rfl rfl L (fun e => by cases e) ⟨C.1, C.2⟩ (fun c _ => by rw [hp]; exact Iff.rfl) (fun c _ ha => ha.same id rfl hp rfl ⟨by decide, by decide⟩ ⟨by decide, by decide⟩) (fun e => e.elim)) rfl
 | k + 4, hp, hi => exact nomatch (show (none : Option GI) = some i from hi)
theorem An.emp {c : Nat} (h : An f G t c) (hp : G.pt t = some ⟨.empty, q, d⟩) : False := by
 unfold An at h
 rw [hp] at h
 exact h
theorem qown_empty (h : QD f n G m) (ht : t < n) (hp : G.pt t = some ⟨.empty, q, d⟩) (hi : (tqCode f .empty)[q]? = some i) : Sq f n G t (some ⟨.empty, gNext (tqCode f .empty) q (m.regs t) i, d⟩) (gExec m t i) := by
 have hno := h.noold ht hp (by decide)
 match q, hp, hi with
 | 0, hp, hi =>
  have L := la_at h ht hp
  have C := loc_at h ht hp
  have e : GI.label 1 = i := Option.some.inj hi
  subst e
  exact Sq.upd (h.rego (k := G.fl t) (g := some ⟨.empty, 1, d⟩) ht hno rfl rfl h.2.mks (fun u hu => rfl) rfl rfl rfl L (h.2.kep t ht) ⟨C.1, C.2⟩ (fun c _ => by rw [hp]; exact Iff.rfl) (fun c _ ha => (ha.emp hp).elim) (fun e => e.elim)) rfl
 | 1, hp, hi =>
  have L := la_at h ht hp
  have C := loc_at h ht hp
  have C2 : m.regs t 4 = hdn m (G.ls t) := C.2
  have e : GI.zero 4 0 = i := Option.some.inj hi
  subst e
  show Sq f n G t (some ⟨.empty, if m.regs t 4 = 0 then gAt 0 (tqCode f .empty) else 2, d⟩) m
  by_cases hz : m.regs t 4 = 0
  ·rw [if_pos hz]
   have hn : G.ls t = [] := by
    cases hl : G.ls t with
    | nil => rfl
    | cons c l =>
     rw [hl] at C2
     have := rf_pos (h.2.dc ht (mem_ls (w := t) (x := c) (by rw [hl]; exact List.mem_cons_self))).2.1
     have C2 : m.regs t 4 = rf m c := C2
     omega
   exact Sq.upd (h.rego (k := G.fl t) (g := some ⟨.empty, 6, d⟩) ht hno rfl rfl h.2.mks (fun u hu => rfl) rfl rfl rfl L (h.2.kep t ht) ⟨C.1, C2, hn⟩ (fun c _ => by rw [hp]; exact Iff.rfl) (fun c _ ha => (ha.emp hp).elim) (fun e => e.elim)) rfl
  ·rw [if_neg hz]
   exact Sq.upd (h.rego (k := G.fl t) (g := some ⟨.empty, 2, d⟩) ht hno rfl rfl h.2.mks (fun u hu => rfl) rfl rfl rfl L (h.2.kep t ht) ⟨C.1, C2, fun e => hz (by rw [C2, e]; rfl)⟩ (fun c _ => by rw [hp]; exact Iff.rfl) (fun c _ ha => (ha.emp hp).elim) (fun e => e.elim)) rfl
 | 2, hp, hi =>
  have L := la_at h ht hp
  obtain ⟨C1, C2, C3⟩ := loc_at h ht hp
  have e : GI.load 0 4 1 = i := Option.some.inj hi
  subst e
  obtain ⟨c, l, hl⟩ : ∃ c l, G.ls t = c :: l := by
   cases hl : G.ls t with
   | nil => exact absurd hl C3
   | cons c l => exact ⟨c, l, rfl⟩
  have Lx := (h.2.dc ht (mem_ls (w := t) (x := c) (by rw [hl]; exact List.mem_cons_self))).2.1
  have hk := h.2.lst t ht
  rw [hl] at hk
  have C2' : m.regs t 4 = rf m c := by rw [hl] at C2; exact C2
  show Sq f n G t (some ⟨.empty, 3, d⟩) (m.load t 0 (m.regs t 4) ((1 : Nat) : Int))
  rw [C2', load_live Lx, hk.1]
  exact Sq.upd (h.rego (k := G.fl t) (g := some ⟨.empty, 3, d⟩) ht hno rfl rfl h.2.mks (fun u hu => reg3q _ _ _ _ hu) (setq_ne _ _ _ _ (by decide)) (setq_ne _ _ _ _ (by decide)) (setq_ne _ _ _ _ (by decide)) L (h.2.kep t ht) ⟨Nf.keep (m := m) rfl (setq_ne _ _ _ _ (by decide)) C1, by rw [setq_ne _ _ _ _ (by decide), hdn_mem rfl]; exact C2, c, l, hl, by rw [setq_eq]; exact (hdn_mem (m := m) (m' := m.setReg t 0 (hdn m l)) rfl l).symm⟩ (fun c _ => by rw [hp]; exact Iff.rfl) (fun c _ ha => (ha.emp hp).elim) (fun e => e.elim)) rfl
 | 3, hp, hi =>
  have e : GI.free 4 = i := Option.some.inj hi
  subst e
  have hF := h.fence ht
  have L := la_at hF ht hp
  obtain ⟨C1, C2, c, l, hl, h0⟩ := loc_at hF ht hp
  obtain ⟨-, C2', -⟩ := loc_at h ht hp
  have hcm : c ∈ G.ls t := by rw [hl]; exact List.mem_cons_self
  have Lx := (h.2.dc ht (mem_ls hcm)).2.1
  have hw : (m.fence t).mem.waits t = [] := Rm.drainAll_waits _ _ _ rfl
  have hnd := h.2.nod t ht
  have hk := hF.2.lst t ht
  rw [hl] at hk
  have how : ow G t = (G.nd t).toList ++ c :: l := by unfold ow; rw [hl]
  rw [how] at hnd
  obtain ⟨d1, d2, d3⟩ := List.nodup_append.1 hnd
  obtain ⟨d4, d5⟩ := List.nodup_cons.1 d2
  have h2 := hF.frees (c := c) (x := G.nd t) (l := l) (k := G.fl t) (g := some ⟨.empty, 4, d⟩) ht hw (mem_ls hcm) (fun e => by
   rw [how]
   constructor
   ·intro he
    rcases List.mem_append.1 he with he | he
    ·exact ⟨List.mem_append_left _ he, fun e2 => d3 e he c List.mem_cons_self e2⟩
    ·exact ⟨List.mem_append_right _ (List.mem_cons_of_mem _ he), fun e2 => d4 (by rw [<- e2]; exact he)⟩
   ·rintro ⟨he, e2⟩
    rcases List.mem_append.1 he with he | he
    ·exact List.mem_append_left _ he
    ·rcases List.mem_cons.1 he with he | he
     ·exact absurd he e2
     ·exact List.mem_append_right _ he) (List.nodup_append.2 ⟨d1, d5, fun a ha b hb => d3 a ha b (List.mem_cons_of_mem _ hb)⟩) (hF.noold ht hp (by decide)) (fun ha => ha.emp hp) L hk.2 (fun e => by
   have := h.2.kep t ht e
   rw [hl] at this; cases this) ⟨C1, h0⟩ (fun e he => by
   rcases he with he | ⟨he, -⟩
   ·exact .inl (by rw [hl]; exact List.mem_cons_of_mem _ he)
   ·exact .inr ⟨he, by rw [hp]; exact trivial⟩) (fun e he hr => by
   refine ⟨?_, fun ha => (ha.emp hp).elim⟩
   rcases hr with hr | ⟨hr, -⟩
   ·rw [hl] at hr
    rcases List.mem_cons.1 hr with hr | hr
    ·exact absurd hr he
    ·exact .inl hr
   ·exact .inr ⟨hr, trivial⟩) (fun e => e.elim)
  have C2c : m.regs t 4 = rf m c := by rw [hl] at C2'; exact C2'
  have e : gExec m t (.free 4) = (m.fence t).setMem ((m.fence t).mem.setThere c false) := by
   show m.free t (m.regs t 4) = _
   unfold Mk.free
   rw [C2c, if_pos Lx.names, (rf_cell Lx).1, Int.toNat_natCast]
  rw [e]
  exact Sq.upd h2 rfl
 | 4, hp, hi =>
  have L := la_at h ht hp
  have C := loc_at h ht hp
  have C2 : m.regs t 0 = hdn m (G.ls t) := C.2
  have e : GI.move 4 0 = i := Option.some.inj hi
  subst e
  show Sq f n G t (some ⟨.empty, 5, d⟩) (m.setReg t 4 (m.regs t 0))
  exact Sq.upd (h.rego (k := G.fl t) (g := some ⟨.empty, 5, d⟩) ht hno rfl rfl h.2.mks (fun u hu => reg3q _ _ _ _ hu) (setq_ne _ _ _ _ (by decide)) (setq_ne _ _ _ _ (by decide)) (setq_ne _ _ _ _ (by decide)) L (h.2.kep t ht) ⟨Nf.keep (m := m) rfl (setq_ne _ _ _ _ (by decide)) C.1, by show (m.setReg t 4 (m.regs t 0)).regs t 4 = _; rw [setq_eq, hdn_mem rfl]; exact C2⟩ (fun c _ => by rw [hp]; exact Iff.rfl) (fun c _ ha => (ha.emp hp).elim) (fun e => e.elim)) rfl
 | 5, hp, hi =>
  have L := la_at h ht hp
  have C := loc_at h ht hp
  have e : GI.goto 1 = i := Option.some.inj hi
  subst e
  exact Sq.upd (h.rego (k := G.fl t) (g := some ⟨.empty, 0, d⟩) ht hno rfl rfl h.2.mks (fun u hu => rfl) rfl rfl rfl L (h.2.kep t ht) ⟨C.1, C.2⟩ (fun c _ => by rw [hp]; exact Iff.rfl) (fun c _ ha => (ha.emp hp).elim) (fun e => e.elim)) rfl
 | 6, hp, hi =>
  have L := la_at h ht hp
  have C := loc_at h ht hp
  have e : GI.label 0 = i := Option.some.inj hi
  subst e
  exact Sq.upd (h.rego (k := G.fl t) (g := some ⟨.empty, 7, d⟩) ht hno rfl rfl h.2.mks (fun u hu => rfl) rfl rfl rfl L (h.2.kep t ht) ⟨C.1, C.2⟩ (fun c _ => by rw [hp]; exact Iff.rfl) (fun c _ ha => (ha.emp hp).elim) (fun e => e.elim)) rfl
 | k + 7, hp, hi => exact nomatch (show (none : Option GI) = some i from hi)
theorem qown_all {tg : Tq} (h : QD f n G m) (hwd : ∀ c k, Wd (m.mem.ar.words c k)) (ht : t < n) (hd : d <= 100) (hdr : tg = .drop -> (G.fl t).w = true) (hp : G.pt t = some ⟨tg, q, d⟩) (hi : (tqCode f tg)[q]? = some i) : Sq f n G t (some ⟨tg, gNext (tqCode f tg) q (m.regs t) i, d⟩) (hExec m t tg q i) := by
 have hf : f = 1 ∨ f = 2 ∨ f = 3 ∨ f = 4 := by have := h.1.fl; omega
 have hne : tg ≠ .read -> hExec m t tg q i = gExec m t i := fun e => if_neg (fun e2 => e e2.1)
 cases tg with
 | enter =>
  rw [hne (by decide)]
  rcases hf with rfl | rfl | rfl | rfl
  ·exact qown_enter1 h ht hp hd hi
  ·exact qown_enter2 h ht hp hd hi
  ·exact nomatch (show (none : Option GI) = some i from hi)
  ·exact qown_enter4 h ht hp hd hi
 | leave =>
  rw [hne (by decide)]
  rcases hf with rfl | rfl | rfl | rfl
  ·exact qown_leave1 h ht hp hd hi
  ·exact qown_leave2 h ht hp hd hi
  ·exact nomatch (show (none : Option GI) = some i from hi)
  ·exact qown_leave4 h ht hp hd hi
 | rest =>
  rw [hne (by decide)]
  rcases hf with rfl | rfl | rfl | rfl
  ·exact nomatch (show (none : Option GI) = some i from hi)
  ·exact nomatch (show (none : Option GI) = some i from hi)
  ·exact qown_rest h ht hp hi
  ·exact nomatch (show (none : Option GI) = some i from hi)
 | gone =>
  rw [hne (by decide)]
  rcases hf with rfl | rfl | rfl | rfl
  ·exact nomatch (show (none : Option GI) = some i from hi)
  ·exact nomatch (show (none : Option GI) = some i from hi)
  ·exact qown_gone h ht hp hi
  ·exact nomatch (show (none : Option GI) = some i from hi)
 | wait =>
  rw [hne (by decide)]
  rcases hf with rfl | rfl | rfl | rfl
  ·exact qown_wait1 h hwd ht hp hi
  ·exact qown_wait2 h hwd ht hp hi
  ·exact qown_wait3 h ht hp hi
  ·exact qown_wait4 h hwd ht hp hi
 | read => exact qown_read h ht hp hi
 | put v =>
  rw [hne (fun e => nomatch e)]
  exact qown_put h ht hp hi
 | drop =>
  rw [hne (by decide)]
  exact qown_drop h ht (hdr rfl) hp hi
 | later =>
  rw [hne (by decide)]
  exact qown_later h ht hp hi
 | empty =>
  rw [hne (by decide)]
  exact qown_empty h ht hp hi
end
end
section
open Go.RowKit
structure Bk where
 d : Nat
 fl : Fl
 e : Bool
 g : Bool
def Kq (V : Int -> Prop) : Tq -> Bk -> Bk -> Prop
 | .enter, b, b' => b.g = false /\ b' = ⟨b.d + 1, b.fl, false, false⟩
 | .leave, b, b' => b.g = false /\ 0 < b.d /\ b' = ⟨b.d - 1, b.fl, false, false⟩
 | .rest, b, b' => b.g = false /\ b.d = 0 /\ b' = ⟨0, b.fl, false, false⟩
 | .gone, b, b' => b.g = false /\ b.d = 0 /\ b' = ⟨0, b.fl, false, true⟩
 | .wait, b, b' => b.g = false /\ b.d = 0 /\ b' = ⟨0, ⟨b.fl.r, true, b.fl.k⟩, true, false⟩
 | .read, b, b' => b.g = false /\ 0 < b.d /\ b' = ⟨b.d, b.fl, false, false⟩
 | .put v, b, b' => b.g = false /\ b.d = 0 /\ V v /\ b.fl.r = false /\ b' = ⟨0, ⟨true, false, b.fl.k⟩, false, false⟩
 | .drop, b, b' => b.g = false /\ b.fl.r = true /\ b.fl.w = true /\ b' = ⟨b.d, ⟨false, b.fl.w, b.fl.k⟩, false, false⟩
 | .later, b, b' => b.g = false /\ b.fl.r = true /\ b' = ⟨b.d, ⟨false, b.fl.w, true⟩, false, false⟩
 | .empty, b, b' => b.g = false /\ b.d = 0 /\ b.e = true /\ b' = ⟨0, ⟨b.fl.r, b.fl.w, false⟩, false, false⟩
def DiscQ (V : Int -> Prop) (e : Fl) : Bk -> List Tq -> Prop
 | b, [] => b.d = 0 /\ b.fl = e
 | b, tg :: l => b.d <= 100 /\ ∃ b', Kq V tg b b' /\ DiscQ V e b' l
def PqAt (f : Nat) (L : List Ins) (a : Nat) (tg : Tq) : Prop := ∀ (q : Nat) (i : GI), (tqCode f tg)[q]? = some i -> ∀ (m : Mk) (t : Nat), m.pc t = a + q -> doneAt L (m.pc t) = false /\ m.step L t = hExec (m.setPc t (a + gNext (tqCode f tg) q (m.regs t) i)) t tg q i
def PsAt (f : Nat) (L : List Ins) : Nat -> List Tq -> Prop
 | a, [] => doneAt L a = true
 | a, tg :: l => PqAt f L a tg /\ PsAt f L (a + (tqCode f tg).length) l
structure BTq (f : Nat) (G : Gq) (m : Mk) (t : Nat) (b : Bk) : Prop where
 bw3 : f = 3 -> b.g = false -> ovq m t 0 % 2 = 1
 bw : f ≠ 3 -> Bq f (t ∈ G.ch) t b.d (ovq m t)
 none' : ¬ ∃ u, Olq G t u
 r4 : m.regs t 4 = hdn m (G.ls t)
 nf : Nf m t (G.nd t) b.fl.r
 rt : ∀ c, G.nd t = some c -> rtd (G.pt t)
 an : ∀ c, Ret G t c -> An f G t c -> b.e = false /\ (c ∈ G.ls t ∨ b.fl.w = false)
 kp : b.fl.k = false -> G.ls t = []
section
variable {f n : Nat} {G : Gq} {m : Mk} {t : Nat} {b b' : Bk} {tg : Tq} {V : Int -> Prop} {e : Fl}
theorem BTq.bq (h : BTq f G m t b) (hg : b.g = false) : Bq f (t ∈ G.ch) t b.d (ovq m t) := by
 by_cases h3 : f = 3
 ·exact ⟨fun _ => h.bw3 h3 hg, fun e2 => absurd h3 e2, fun e2 => by omega⟩
 ·exact h.bw h3
theorem BTq.la0 (h : BTq f G m t b) (hk : Kq V tg b b') (hne : tqCode f tg ≠ []) : Lq f G.ch (Olq G t) (shq m) t (ovq m t) (m.regs t) (some ⟨tg, 0, b.d⟩) := by
 have none' : ∀ u, ¬ Olq G t u := fun u hu => h.none' ⟨u, hu⟩
 cases tg with
 | enter =>
  have hf : f ≠ 3 := fun e => hne (by subst e; rfl)
  exact ⟨hf, h.bw hf⟩
 | leave =>
  have hf : f ≠ 3 := fun e => hne (by subst e; rfl)
  exact ⟨hf, h.bw hf, hk.2.1⟩
 | rest =>
  have hf : f = 3 := by
   by_cases e : f = 3
   ·exact e
   ·exact absurd (if_neg e) hne
  exact ⟨hf, h.bw3 hf hk.1⟩
 | gone =>
  have hf : f = 3 := by
   by_cases e : f = 3
   ·exact e
   ·exact absurd (if_neg e) hne
  exact ⟨hf, h.bw3 hf hk.1⟩
 | wait =>
  have hd := hk.2.1
  refine ⟨hd, fun e => h.bw3 e hk.1, fun e => by have := h.bw e; rw [hd] at this; exact this, ?_⟩
  rw [stageq_zero]; exact none'
 | read => exact ⟨h.bq hk.1, hk.2.1⟩
 | put v => exact ⟨h.bq hk.1, hk.2.1⟩
 | drop => exact h.bq hk.1
 | later => exact h.bq hk.1
 | empty => exact h.bq hk.1
theorem flq_zero (k : Fl) (d : Nat) : flq (some ⟨tg, 0, d⟩) k = k := by cases tg <;> rfl
theorem QD.begin (h : QD f n G m) (ht : t < n) (hb : BTq f G m t b) (hk : Kq G.val tg b b') (hne : tqCode f tg ≠ []) : QD f n (G.upd t (G.nd t) (G.ls t) b.fl (some ⟨tg, 0, b.d⟩)) m := by
 refine h.rego ht hb.none' rfl rfl h.2.mks (fun _ _ => rfl) rfl rfl rfl (hb.la0 hk hne) hb.kp ?_ (fun c hc => ?_) (fun c hc ha => ?_) (fun hr => ?_)
 ·have h4 := hb.r4
  have hn := hb.nf
  cases tg with
  | put v =>
   obtain ⟨-, -, hv, hr, -⟩ := hk
   exact ⟨⟨hv, h4⟩, hn.2 hr⟩
  | drop => exact ⟨h4, hn.1 hk.2.1⟩
  | later => exact ⟨h4, hn.1 hk.2.1⟩
  | read => exact ⟨⟨h4, hn⟩, fun e => by omega⟩
  | empty => exact ⟨hn, h4⟩
  | _ => exact ⟨h4, hn⟩
 ·refine iff_of_true ?_ (hb.rt c hc)
  cases tg with
  | put v =>
   have := hb.nf.2 hk.2.2.2.1
   rw [this] at hc; cases hc
  | _ => exact trivial
 ·obtain ⟨h1, h2⟩ := hb.an c hc ha
  cases tg with
  | wait =>
   unfold An
   rw [Gq.upd_pt]
   exact stageq_zero f
  | empty =>
   have := hk.2.2.1
   rw [h1] at this; cases this
  | _ => exact An.any h2 rfl (fun e => nomatch e) (fun e => nomatch e)
 ·cases tg with
  | read => cases hr
  | _ => exact hr.elim
theorem QD.finish (h : QD f n G m) (ht : t < n) (hb : BTq f G m t b) (hd : b.d = 0) : QD f n (G.upd t (G.nd t) (G.ls t) b.fl none) m := by
 refine h.rego ht hb.none' rfl rfl h.2.mks (fun _ _ => rfl) rfl rfl rfl (fun e => by have := hb.bw e; rw [hd] at this; exact this) hb.kp ⟨hb.r4, hb.nf⟩ (fun c hc => iff_of_true trivial (hb.rt c hc)) (fun c hc ha => ?_) (fun hr => hr.elim)
 unfold An
 rw [Gq.upd_pt, Gq.upd_ls, Gq.upd_fl]
 exact (hb.an c hc ha).2
theorem BTq.skip (hb : BTq f G m t b) (hk : Kq V tg b b') (he : tqCode f tg = []) (hf : 1 <= f /\ f <= 4) : BTq f G m t b' := by
 have hf4 : f = 1 ∨ f = 2 ∨ f = 3 ∨ f = 4 := by omega
 have key : (tg = .enter ∨ tg = .leave) /\ f = 3 ∨ (tg = .rest ∨ tg = .gone) /\ f ≠ 3 := by
  cases tg <;> rcases hf4 with rfl | rfl | rfl | rfl <;> first | exact .inl ⟨.inl rfl, rfl⟩ | exact .inl ⟨.inr rfl, rfl⟩ | exact .inr ⟨.inl rfl, by decide⟩ | exact .inr ⟨.inr rfl, by decide⟩ | (cases he)
 rcases key with ⟨rfl | rfl, rfl⟩ | ⟨rfl | rfl, hf3⟩
 ·obtain ⟨hg, rfl⟩ := hk
  exact ⟨fun _ _ => hb.bw3 rfl hg, fun e => absurd rfl e, hb.none', hb.r4, hb.nf, hb.rt, fun c h1 h2 => ⟨rfl, (hb.an c h1 h2).2⟩, hb.kp⟩
 ·obtain ⟨hg, -, rfl⟩ := hk
  exact ⟨fun _ _ => hb.bw3 rfl hg, fun e => absurd rfl e, hb.none', hb.r4, hb.nf, hb.rt, fun c h1 h2 => ⟨rfl, (hb.an c h1 h2).2⟩, hb.kp⟩
 ·obtain ⟨hg, hd, rfl⟩ := hk
  exact ⟨fun e => absurd e hf3, fun e => by have := hb.bw e; rw [hd] at this; exact this, hb.none', hb.r4, hb.nf, hb.rt, fun c h1 h2 => ⟨rfl, (hb.an c h1 h2).2⟩, hb.kp⟩
 ·obtain ⟨hg, hd, rfl⟩ := hk
  exact ⟨fun e => absurd e hf3, fun e => by have := hb.bw e; rw [hd] at this; exact this, hb.none', hb.r4, hb.nf, hb.rt, fun c h1 h2 => ⟨rfl, (hb.an c h1 h2).2⟩, hb.kp⟩
theorem QD.behind (h : QD f n G m) (ht : t < n) (hp : G.pt t = some ⟨tg, (tqCode f tg).length, b.d⟩) (hfl : G.fl t = flq (some ⟨tg, (tqCode f tg).length, b.d⟩) b.fl) (hne : tqCode f tg ≠ []) (hk : Kq V tg b b') : BTq f G m t b' := by
 have L := la_at h ht hp
 have C := loc_at h ht hp
 have K := h.2.kep t ht
 have hf := h.1.fl
 have hf4 : f = 1 ∨ f = 2 ∨ f = 3 ∨ f = 4 := by omega
 have hno : tg ≠ .wait -> ¬ ∃ u, Olq G t u := h.noold ht hp
 -- what may have been found, where nothing else is said
 have han : tg ≠ .wait -> tg ≠ .empty -> ∀ c, An f G t c -> c ∈ G.ls t ∨ (G.fl t).w = false := fun e1 e2 c ha => by
  unfold An at ha
  rw [hp] at ha
  cases tg with
  | wait => exact absurd rfl e1
  | empty => exact absurd rfl e2
  | _ => exact ha
 cases tg with
 | enter =>
  obtain ⟨h3, L⟩ := L
  have hB : Bq f (t ∈ G.ch) t (b.d + 1) (ovq m t) := by
   rcases hf4 with rfl | rfl | rfl | rfl
   ·exact L
   ·exact L
   ·exact absurd rfl h3
   ·exact L
  obtain ⟨hg, rfl⟩ := hk
  have hfl : G.fl t = b.fl := hfl
  rw [hfl] at C K
  exact ⟨fun e => absurd e h3, fun _ => hB, hno (by decide), C.1, C.2, fun _ _ => by rw [hp]; exact trivial, fun c _ ha => ⟨rfl, by have := han (by decide) (by decide) c ha; rwa [hfl] at this⟩, K⟩
 | leave =>
  obtain ⟨h3, L⟩ := L
  have hB : Bq f (t ∈ G.ch) t (b.d - 1) (ovq m t) := by
   rcases hf4 with rfl | rfl | rfl | rfl
   ·exact L
   ·exact L
   ·exact absurd rfl h3
   ·exact L
  obtain ⟨hg, -, rfl⟩ := hk
  have hfl : G.fl t = b.fl := hfl
  rw [hfl] at C K
  exact ⟨fun e => absurd e h3, fun _ => hB, hno (by decide), C.1, C.2, fun _ _ => by rw [hp]; exact trivial, fun c _ ha => ⟨rfl, by have := han (by decide) (by decide) c ha; rwa [hfl] at this⟩, K⟩
 | rest =>
  obtain ⟨rfl, L⟩ := L
  obtain ⟨hg, -, rfl⟩ := hk
  have hfl : G.fl t = b.fl := hfl
  rw [hfl] at C K
  exact ⟨fun _ _ => L, fun e => absurd rfl e, hno (by decide), C.1, C.2, fun _ _ => by rw [hp]; exact trivial, fun c _ ha => ⟨rfl, by have := han (by decide) (by decide) c ha; rwa [hfl] at this⟩, K⟩
 | gone =>
  obtain ⟨rfl, L⟩ := L
  obtain ⟨hg, -, rfl⟩ := hk
  have hfl : G.fl t = b.fl := hfl
  rw [hfl] at C K
  exact ⟨fun _ e => (nomatch e), fun e => absurd rfl e, hno (by decide), C.1, C.2, fun _ _ => by rw [hp]; exact trivial, fun c _ ha => ⟨rfl, by have := han (by decide) (by decide) c ha; rwa [hfl] at this⟩, K⟩
 | wait =>
  obtain ⟨hd, L3, Ln, Sc⟩ := L
  obtain ⟨hg, -, rfl⟩ := hk
  have hfl : G.fl t = b.fl := hfl
  rw [hfl] at C K
  have hS : ∀ u, ¬ Olq G t u := by
   rcases hf4 with rfl | rfl | rfl | rfl
   ·exact Sc
   ·exact Sc
   ·exact Sc
   ·exact Sc
  refine ⟨fun e _ => ?_, Ln, fun ⟨u, hu⟩ => hS u hu, C.1, C.2, fun _ _ => by rw [hp]; exact trivial, fun c _ ha => ?_, K⟩
  ·subst e; exact L3 rfl
  ·exfalso
   unfold An at ha
   rw [hp] at ha
   have ha : stageq f (tqCode f .wait).length = 0 := ha
   rcases hf4 with rfl | rfl | rfl | rfl <;> cases ha
 | read =>
  obtain ⟨hg, -, rfl⟩ := hk
  have hfl : G.fl t = b.fl := hfl
  rw [hfl] at C K
  exact ⟨fun e _ => L.1.1 e, fun _ => L.1, hno (by decide), C.1.1, C.1.2, fun _ _ => by rw [hp]; exact trivial, fun c _ ha => ⟨rfl, by have := han (by decide) (by decide) c ha; rwa [hfl] at this⟩, K⟩
 | put v =>
  obtain ⟨L, hd⟩ := (show Bq f (t ∈ G.ch) t b.d (ovq m t) /\ b.d = 0 from L)
  obtain ⟨hg, -, -, -, rfl⟩ := hk
  have hfl : G.fl t = ⟨true, false, b.fl.k⟩ := hfl
  rw [hfl] at K
  rw [hd] at L
  exact ⟨fun e _ => L.1 e, fun _ => L, hno (fun e => nomatch e), C.1.2, ⟨fun _ => C.2, fun e => nomatch e⟩, fun _ _ => by rw [hp]; exact (by decide : 5 <= 6), fun c _ _ => ⟨rfl, .inr rfl⟩, K⟩
 | drop =>
  have L : Bq f (t ∈ G.ch) t b.d (ovq m t) := L
  obtain ⟨hg, -, -, rfl⟩ := hk
  have hfl : G.fl t = b.fl := hfl
  rw [hfl] at K
  have hn : G.nd t = none := C.2
  exact ⟨fun e _ => L.1 e, fun _ => L, hno (by decide), C.1, ⟨fun e => (nomatch e), fun _ => hn⟩, fun _ _ => by rw [hp]; exact trivial, fun c _ ha => ⟨rfl, by have := han (by decide) (by decide) c ha; rwa [hfl] at this⟩, K⟩
 | later =>
  have L : Bq f (t ∈ G.ch) t b.d (ovq m t) := L
  obtain ⟨hg, -, rfl⟩ := hk
  have hfl : G.fl t = ⟨b.fl.r, b.fl.w, true⟩ := hfl
  have hn : G.nd t = none := C.2
  exact ⟨fun e _ => L.1 e, fun _ => L, hno (by decide), C.1, ⟨fun e => (nomatch e), fun _ => hn⟩, fun _ _ => by rw [hp]; exact trivial, fun c _ ha => ⟨rfl, by have := han (by decide) (by decide) c ha; rwa [hfl] at this⟩, fun e => nomatch e⟩
 | empty =>
  have L : Bq f (t ∈ G.ch) t b.d (ovq m t) := L
  obtain ⟨hg, hd, -, rfl⟩ := hk
  have hfl : G.fl t = b.fl := hfl
  rw [hfl] at C
  rw [hd] at L
  obtain ⟨C1, C2, C3⟩ := C
  exact ⟨fun e _ => L.1 e, fun _ => L, hno (by decide), C2, C1, fun _ _ => by rw [hp]; exact trivial, fun c _ ha => (ha.emp hp).elim, fun _ => C3⟩
end
end
end Go.Proofs.YtaiigfcfmcicjaaGreatDoor
