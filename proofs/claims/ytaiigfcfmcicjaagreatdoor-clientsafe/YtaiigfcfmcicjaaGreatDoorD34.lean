import Derived.Test.YtaiigfcfmcicjaaGreatDoorD33
namespace Go.Proofs.YtaiigfcfmcicjaaGreatDoor
set_option maxRecDepth 100000
set_option maxHeartbeats 8000000
section
open Go.RowKit
def Gq.upd (G : Gq) (t : Nat) (x : Option Nat) (l : List Nat) (k : Fl) (g : Option Pq) : Gq := { G with pt := fun u => if u = t then g else G.pt u, nd := fun u => if u = t then x else G.nd u, ls := fun u => if u = t then l else G.ls u, fl := fun u => if u = t then k else G.fl u }
section
variable {G : Gq} {t : Nat} {x : Option Nat} {l : List Nat} {k : Fl} {g : Option Pq}
theorem Gq.upd_pt : (G.upd t x l k g).pt t = g := if_pos rfl
theorem Gq.upd_nd : (G.upd t x l k g).nd t = x := if_pos rfl
theorem Gq.upd_ls : (G.upd t x l k g).ls t = l := if_pos rfl
theorem Gq.upd_fl : (G.upd t x l k g).fl t = k := if_pos rfl
theorem Gq.upd_ptn {u : Nat} (h : u ≠ t) : (G.upd t x l k g).pt u = G.pt u := if_neg h
theorem Gq.upd_ndn {u : Nat} (h : u ≠ t) : (G.upd t x l k g).nd u = G.nd u := if_neg h
theorem Gq.upd_lsn {u : Nat} (h : u ≠ t) : (G.upd t x l k g).ls u = G.ls u := if_neg h
theorem Gq.upd_fln {u : Nat} (h : u ≠ t) : (G.upd t x l k g).fl u = G.fl u := if_neg h
theorem Gq.upd_ow : ow (G.upd t x l k g) t = x.toList ++ l := by unfold ow; rw [Gq.upd_nd, Gq.upd_ls]
theorem Gq.upd_own {u : Nat} (h : u ≠ t) : ow (G.upd t x l k g) u = ow G u := by unfold ow; rw [Gq.upd_ndn h, Gq.upd_lsn h]
theorem Av.upd (G : Gq) (t : Nat) (x : Option Nat) (l : List Nat) (k : Fl) (g : Option Pq) : Av t g G (G.upd t x l k g) := ⟨rfl, rfl, Gq.upd_pt, fun _ hu => Gq.upd_ptn hu⟩
theorem Ret.upd {c : Nat} : Ret (G.upd t x l k g) t c ↔ c ∈ l ∨ (x = some c /\ rtd g) := by unfold Ret; rw [Gq.upd_ls, Gq.upd_nd, Gq.upd_pt]
theorem Ret.updn {u c : Nat} (h : u ≠ t) : Ret (G.upd t x l k g) u c ↔ Ret G u c := by unfold Ret; rw [Gq.upd_lsn h, Gq.upd_ndn h, Gq.upd_ptn h]
theorem An.updn {f u c : Nat} (h : u ≠ t) : An f (G.upd t x l k g) u c ↔ An f G u c := by unfold An; rw [Gq.upd_lsn h, Gq.upd_fln h, Gq.upd_ptn h]
end
section
variable {f n : Nat} {G G' : Gq} {m m' : Mk} {t q d : Nat} {i : GI}
theorem QD.noold (h : QD f n G m) (ht : t < n) {tg : Tq} (hp : G.pt t = some ⟨tg, q, d⟩) (hne : tg ≠ .wait) : ¬ ∃ u, Olq G t u := fun ⟨u, hu⟩ => by
 obtain ⟨-, ⟨q2, d2, e⟩, -⟩ := h.1.old t u ht hu
 rw [hp] at e
 cases e
 exact hne rfl
theorem QD.regu {x : Option Nat} {l : List Nat} {k : Fl} {g : Option Pq} (h : QD f n G m) (ht : t < n) (hno : ¬ ∃ u, Olq G t u) (e1 : m'.mem = m.mem) (e2 : m'.faults = m.faults) (hmk : ∀ x ∈ m'.marks, G.val x.2) (er : ∀ u, u ≠ t -> m'.regs u = m.regs u) (k5 : m'.regs t 5 = m.regs t 5) (k6 : m'.regs t 6 = m.regs t 6) (k7 : m'.regs t 7 = m.regs t 7)
  (hla : Lq f G.ch (Olq G t) (shq m) t (ovq m t) (m'.regs t) g) (hpe : (x.toList ++ l).Perm (ow G t)) (hlk : Lkq m t l) (hkp : k.k = false -> l = []) (hlc : Lc G.val m' t x l k.r g)
  (hr1 : ∀ c, c ∈ l ∨ (x = some c /\ rtd g) -> Ret G t c) (hr2 : ∀ c, Ret G t c -> (c ∈ l ∨ (x = some c /\ rtd g)) /\ (An f G t c -> An f (G.upd t x l k g) t c)) (hrd : rdq g -> m'.regs t 0 = rf m G.pp) : QD f n (G.upd t x l k g) m' := by
 refine ⟨h.1.reg ht (Av.upd G t x l k g) e1 er k5 k6 k7 hla (fun e => absurd e hno), ?_⟩
 exact h.2.reg ht (Av.upd G t x l k g) rfl rfl (fun u hu => Gq.upd_ndn hu) (fun u hu => Gq.upd_lsn hu) (fun u hu => Gq.upd_fln hu) e1 e2 hmk er (by rw [Gq.upd_ow]; exact hpe) (by rw [Gq.upd_ls]; exact hlk) (by rw [Gq.upd_ls, Gq.upd_fl]; exact hkp) (by rw [Gq.upd_nd, Gq.upd_ls, Gq.upd_fl]; exact hlc) (fun c hc => hr1 c (Ret.upd.1 hc)) (fun c hc => ⟨Ret.upd.2 (hr2 c hc).1, (hr2 c hc).2⟩) hrd
theorem QD.rego {k : Fl} {g : Option Pq} (h : QD f n G m) (ht : t < n) (hno : ¬ ∃ u, Olq G t u) (e1 : m'.mem = m.mem) (e2 : m'.faults = m.faults) (hmk : ∀ x ∈ m'.marks, G.val x.2) (er : ∀ u, u ≠ t -> m'.regs u = m.regs u) (k5 : m'.regs t 5 = m.regs t 5) (k6 : m'.regs t 6 = m.regs t 6) (k7 : m'.regs t 7 = m.regs t 7)
  (hla : Lq f G.ch (Olq G t) (shq m) t (ovq m t) (m'.regs t) g) (hkp : k.k = false -> G.ls t = []) (hlc : Lc G.val m' t (G.nd t) (G.ls t) k.r g)
  (hrt : ∀ c, G.nd t = some c -> (rtd g ↔ rtd (G.pt t))) (han : ∀ c, Ret G t c -> An f G t c -> An f (G.upd t (G.nd t) (G.ls t) k g) t c) (hrd : rdq g -> m'.regs t 0 = rf m G.pp) : QD f n (G.upd t (G.nd t) (G.ls t) k g) m' := by
 refine h.regu ht hno e1 e2 hmk er k5 k6 k7 hla (List.Perm.refl _) (h.2.lst t ht) hkp hlc (fun c hc => ?_) (fun c hc => ⟨?_, han c hc⟩) hrd
 ·rcases hc with hc | ⟨h1, h2⟩
  ·exact .inl hc
  ·exact .inr ⟨h1, (hrt c h1).1 h2⟩
 ·rcases hc with hc | ⟨h1, h2⟩
  ·exact .inl hc
  ·exact .inr ⟨h1, (hrt c h1).2 h2⟩
theorem An.same {x : Option Nat} {l : List Nat} {k : Fl} {g : Option Pq} {c : Nat} (h : An f G t c) (hl : c ∈ G.ls t -> c ∈ l) (hk : (G.fl t).w = k.w) {tg tg' : Tq} {q' d' : Nat} (hp : G.pt t = some ⟨tg, q, d⟩) (hg : g = some ⟨tg', q', d'⟩) (h1 : tg ≠ .wait /\ tg' ≠ .wait) (h2 : tg ≠ .empty /\ tg' ≠ .empty) : An f (G.upd t x l k g) t c := by
 unfold An at h ⊢
 rw [Gq.upd_pt, Gq.upd_ls, Gq.upd_fl, hg]
 rw [hp] at h
 have h' : c ∈ G.ls t ∨ (G.fl t).w = false := by
  cases tg with
  | wait => exact absurd rfl h1.1
  | empty => exact absurd rfl h2.1
  | _ => exact h
 have h'' : c ∈ l ∨ k.w = false := h'.imp hl (fun e => by rw [<- hk]; exact e)
 cases tg' with
 | wait => exact absurd rfl h1.2
 | empty => exact absurd rfl h2.2
 | _ => exact h''
theorem An.any {x : Option Nat} {l : List Nat} {k : Fl} {g : Option Pq} {c : Nat} (hl : c ∈ l ∨ k.w = false) {tg' : Tq} {q' d' : Nat} (hg : g = some ⟨tg', q', d'⟩) (h1 : tg' ≠ .wait) (h2 : tg' ≠ .empty) : An f (G.upd t x l k g) t c := by
 unfold An
 rw [Gq.upd_pt, Gq.upd_ls, Gq.upd_fl, hg]
 cases tg' with
 | wait => exact absurd rfl h1
 | empty => exact absurd rfl h2
 | _ => exact hl
theorem Sq.upd {x : Option Nat} {l : List Nat} {k : Fl} {g : Option Pq} (h : QD f n (G.upd t x l k g) m') (hk : k = flq g (G.fl t)) : Sq f n G t g m' := ⟨_, h, Gq.upd_pt, fun _ hu => Gq.upd_ptn hu, .inl rfl, rfl, fun _ hu => Gq.upd_fln hu, by rw [Gq.upd_fl]; exact hk⟩
theorem vw_val {V : Int -> Prop} {c : Nat} {g : Int} : ∀ {l : List Wt} {v : Int}, V v -> (∀ x ∈ l, x.c = (c : Int) -> x.w = 1 ∨ x.w = 0 /\ V x.v) -> V (l.foldl (Wt.pick c g (0 : Nat)) v)
 | [], _, hv, _ => hv
 | x :: l, v, hv, h => by
  rw [List.foldl_cons]
  refine vw_val ?_ (fun y hy => h y (List.mem_cons_of_mem _ hy))
  unfold Wt.pick
  split
  ·rename_i e
   rcases h x List.mem_cons_self e.1 with h1 | ⟨-, h1⟩
   ·have := e.2.2; omega
   ·exact h1
  ·exact hv
theorem QD.sees (h : QD f n G m) (ht : t < n) {c : Nat} (hc : c = 0 ∨ n + 3 <= c) (hv : G.val (m.mem.ar.words c 0)) (g : Int) : G.val (vw m t c g 0) := by
 refine vw_val hv (fun x hx e => ?_)
 obtain ⟨c', -, k1, -, k2⟩ := h.2.wts t ht x hx (by omega)
 exact k2
theorem loc_at (h : QD f n G m) (ht : t < n) {g : Option Pq} (hp : G.pt t = g) : Lc G.val m t (G.nd t) (G.ls t) (G.fl t).r g := by
 have := h.2.loc t ht
 rw [hp] at this
 exact this
theorem la_at (h : QD f n G m) (ht : t < n) {g : Option Pq} (hp : G.pt t = g) : Lq f G.ch (Olq G t) (shq m) t (ovq m t) (m.regs t) g := by
 have := h.1.la t ht
 rw [hp] at this
 exact this
theorem setq_ne (m : Mk) (t r : Nat) (v : Int) {k : Nat} (h : k ≠ r) : (m.setReg t r v).regs t k = m.regs t k := by rw [setReg_reg, if_neg h]
theorem setq_eq (m : Mk) (t r : Nat) (v : Int) : (m.setReg t r v).regs t r = v := by rw [setReg_reg, if_pos rfl]
theorem Nf.keep {w : Nat} {nd : Option Nat} {r : Bool} (e1 : m'.mem = m.mem) (e3 : m'.regs w 3 = m.regs w 3) (h : Nf m w nd r) : Nf m' w nd r := by
 unfold Nf NR at h ⊢
 rw [e3]
 simp only [qrf_mem e1]
 exact h
theorem NS.keep {w : Nat} {nd : Option Nat} (e1 : m'.mem = m.mem) (e3 : m'.regs w 3 = m.regs w 3) (h : NS m w nd) : NS m' w nd := by
 unfold NS at h ⊢
 rw [e3]
 simp only [qrf_mem e1]
 exact h
theorem qown_read (h : QD f n G m) (ht : t < n) (hp : G.pt t = some ⟨.read, q, d⟩) (hi : (tqCode f .read)[q]? = some i) : Sq f n G t (some ⟨.read, gNext (tqCode f .read) q (m.regs t) i, d⟩) (hExec m t .read q i) := by
 have hno := h.noold ht hp (by decide)
 match q, hp, hi with
 | 0, hp, hi =>
  have L := la_at h ht hp
  have C := loc_at h ht hp
  have e : GI.load 0 5 0 = i := Option.some.inj hi
  subst e
  obtain ⟨Lr, g0, r0⟩ := h.1.cell (show 1 <= 1 by omega) (show 1 <= n + 2 by omega)
  have hv : vw m t 1 (gn m 1) 0 = rf m G.pp := by
   unfold vw
   rw [foldl_none (fun x hx e => ?_)]
   ·exact h.2.pub.2.1
   ·rcases (h.1.wts t ht x hx).2 with ⟨h5, -⟩ | h5 <;> (have := e.1; omega)
  show Sq f n G t (some ⟨.read, 1, d⟩) (m.load t 0 (m.regs t 5) ((0 : Nat) : Int))
  rw [h.1.r5 t ht, show (2 : Int) = rf m 1 by rw [r0]; rfl, load_live Lr, hv]
  exact Sq.upd (h.rego (k := G.fl t) ht hno rfl rfl h.2.mks (fun u hu => reg3q _ _ _ _ hu) (setq_ne _ _ _ _ (by decide)) (setq_ne _ _ _ _ (by decide)) (setq_ne _ _ _ _ (by decide)) L (h.2.kep t ht)
   ⟨⟨by rw [setq_ne _ _ _ _ (by decide), hdn_mem rfl]; exact C.1.1, Nf.keep (m := m) rfl (setq_ne _ _ _ _ (by decide)) C.1.2⟩, fun e => by omega⟩ (fun c _ => by rw [hp]; exact Iff.rfl) (fun c _ ha => ha.same id rfl hp rfl ⟨by decide, by decide⟩ ⟨by decide, by decide⟩) (fun _ => setq_eq _ _ _ _)) rfl
 | 1, hp, hi =>
  have L := la_at h ht hp
  have C := loc_at h ht hp
  have e : GI.load 0 0 0 = i := Option.some.inj hi
  subst e
  have key : ∃ x, (x = 0 ∨ n + 3 <= x) /\ Live m x /\ m.regs t 0 = rf m x /\ G.val (m.mem.ar.words x 0) := by
   rcases h.2.hold t ht (by rw [hp]; rfl) with e | ⟨w, h1, c, h2, h3, -⟩
   ·exact ⟨G.pp, h.2.pub.1.1, h.2.pub.1.2, e, h.2.pub.2.2⟩
   ·obtain ⟨k1, k2, -⟩ := h.2.dc h1 h2.ow
    exact ⟨c, k1, k2, h3, h.2.ret w h1 c h2⟩
  obtain ⟨x, hx, Lx, h3, hv⟩ := key
  have he := h.sees ht hx hv (gn m x)
  show Sq f n G t (some ⟨.read, 2, d⟩) (m.load t 0 (m.regs t 0) ((0 : Nat) : Int))
  rw [h3, load_live Lx]
  exact Sq.upd (h.rego (k := G.fl t) ht hno rfl rfl h.2.mks (fun u hu => reg3q _ _ _ _ hu) (setq_ne _ _ _ _ (by decide)) (setq_ne _ _ _ _ (by decide)) (setq_ne _ _ _ _ (by decide)) L (h.2.kep t ht)
   ⟨⟨by rw [setq_ne _ _ _ _ (by decide), hdn_mem rfl]; exact C.1.1, Nf.keep (m := m) rfl (setq_ne _ _ _ _ (by decide)) C.1.2⟩, fun _ => by rw [setq_eq]; exact he⟩ (fun c _ => by rw [hp]; exact Iff.rfl) (fun c _ ha => ha.same id rfl hp rfl ⟨by decide, by decide⟩ ⟨by decide, by decide⟩) (fun e => by cases e)) rfl
 | 2, hp, hi =>
  have L := la_at h ht hp
  have C := loc_at h ht hp
  have e : GI.need 0 = i := Option.some.inj hi
  subst e
  have hv := C.2 (.inl rfl)
  show Sq f n G t (some ⟨.read, 3, d⟩) (m.need (m.regs t 0))
  unfold Mk.need
  rw [if_neg (fun e => h.2.nz (by rw [<- e]; exact hv))]
  exact Sq.upd (h.rego (k := G.fl t) ht hno rfl rfl h.2.mks (fun u hu => rfl) rfl rfl rfl L (h.2.kep t ht)
   ⟨C.1, fun _ => hv⟩ (fun c _ => by rw [hp]; exact Iff.rfl) (fun c _ ha => ha.same id rfl hp rfl ⟨by decide, by decide⟩ ⟨by decide, by decide⟩) (fun e => by cases e)) rfl
 | 3, hp, hi =>
  have L := la_at h ht hp
  have C := loc_at h ht hp
  have e : GI.label 9 = i := Option.some.inj hi
  subst e
  have hv := C.2 (.inr rfl)
  show Sq f n G t (some ⟨.read, 4, d⟩) (m.mark t (m.regs t 0))
  have hm : (m.mark t (m.regs t 0)).mem = m.mem /\ (m.mark t (m.regs t 0)).regs = m.regs /\ (m.mark t (m.regs t 0)).faults = m.faults /\ ∀ x ∈ (m.mark t (m.regs t 0)).marks, G.val x.2 := by
   unfold Mk.mark
   split
   ·refine ⟨rfl, rfl, rfl, fun x hx => ?_⟩
    rcases List.mem_append.1 hx with hx | hx
    ·exact h.2.mks x hx
    ·obtain rfl := List.mem_singleton.1 hx
     exact hv
   ·exact ⟨rfl, rfl, rfl, h.2.mks⟩
  obtain ⟨m1, m2, m3, m4⟩ := hm
  exact Sq.upd (h.rego (k := G.fl t) ht hno m1 m3 m4 (fun u hu => by rw [m2]) (by rw [m2]) (by rw [m2]) (by rw [m2]) (by rw [m2]; exact L) (h.2.kep t ht)
   ⟨⟨by rw [m2, hdn_mem m1]; exact C.1.1, Nf.keep m1 (by rw [m2]) C.1.2⟩, fun e => by omega⟩ (fun c _ => by rw [hp]; exact Iff.rfl) (fun c _ ha => ha.same id rfl hp rfl ⟨by decide, by decide⟩ ⟨by decide, by decide⟩) (fun e => by cases e)) rfl
 | k + 4, hp, hi => exact nomatch (show (none : Option GI) = some i from hi)
end
end
section
open Go.RowKit
theorem Lc.keep {m m' : Mk} {V : Int -> Prop} {w : Nat} {nd : Option Nat} {ls : List Nat} {r : Bool} {g : Option Pq} (he : m'.regs w = m.regs w) (hd : ∀ l : List Nat, (∀ x ∈ l, x ∈ ls) -> hdn m' l = hdn m l) (hr : ∀ c, nd = some c -> rf m' c = rf m c) (hg : ∀ c, nd = some c -> gn m' c = gn m c) (hv : ∀ c k, nd = some c -> vw m' w c (gn m c) k = vw m w c (gn m c) k) (h : Lc V m w nd ls r g) : Lc V m' w nd ls r g := by
 have eh : hdn m' ls = hdn m ls := hd ls (fun _ h => h)
 have e1 : NR m w nd -> NR m' w nd := fun h => by
  unfold NR at h ⊢
  rw [he]
  rcases h with h | ⟨c, h1, h2⟩
  ·exact .inl h
  ·exact .inr ⟨c, h1, by rw [hr c h1]; exact h2⟩
 have e2 : NS m w nd -> NS m' w nd := fun h => by
  unfold NS at h ⊢
  rw [he]
  obtain ⟨c, h1, h2⟩ := h
  exact ⟨c, h1, by rw [hr c h1]; exact h2⟩
 have e3 : Nf m w nd r -> Nf m' w nd r := fun h => ⟨fun k => e1 (h.1 k), h.2⟩
 cases g with
 | none =>
  unfold Lc at h ⊢
  rw [he, eh]; exact ⟨h.1, e3 h.2⟩
 | some p =>
  obtain ⟨tg, q, d⟩ := p
  cases tg with
  | put v =>
   unfold Lc at h ⊢
   rw [he, eh]
   refine ⟨h.1, ?_⟩
   have h := h.2
   match q, h with
   | 0, h => exact h
   | 1, h => exact e1 h
   | 2, h => exact e2 h
   | 3, h => exact ⟨e2 h.1, h.2⟩
   | 4, h =>
    obtain ⟨c, h1, h2, h3⟩ := h
    exact ⟨c, h1, by rw [hr c h1]; exact h2, by rw [hg c h1, hv c 0 h1]; exact h3⟩
   | q + 5, h => exact e1 h
  | drop =>
   unfold Lc at h ⊢
   rw [he, eh]
   refine ⟨h.1, ?_⟩
   have h := h.2
   match q, h with
   | 0, h => exact e1 h
   | 1, h => exact e2 h
   | q + 2, h => exact h
  | later =>
   unfold Lc at h ⊢
   rw [he, eh]
   refine ⟨h.1, ?_⟩
   have h := h.2
   match q, h with
   | 0, h => exact e1 h
   | 1, h => exact e2 h
   | 2, h =>
    obtain ⟨c, h1, h2, h3⟩ := h
    exact ⟨c, h1, by rw [hr c h1]; exact h2, by rw [hg c h1, hv c 1 h1]; exact h3⟩
   | q + 3, h => exact h
  | read =>
   unfold Lc at h ⊢
   rw [he, eh]; exact ⟨⟨h.1.1, e3 h.1.2⟩, h.2⟩
  | empty =>
   unfold Lc at h ⊢
   rw [he]
   refine ⟨e3 h.1, ?_⟩
   have h := h.2
   match q, h with
   | 0, h => show _ = hdn m' ls; rw [eh]; exact h
   | 1, h => show _ = hdn m' ls; rw [eh]; exact h
   | 2, h => exact ⟨by rw [eh]; exact h.1, h.2⟩
   | 3, h =>
    obtain ⟨h1, c, l, h2, h3⟩ := h
    exact ⟨by rw [eh]; exact h1, c, l, h2, by rw [hd l (fun x hx => by rw [h2]; exact List.mem_cons_of_mem _ hx)]; exact h3⟩
   | 4, h => show _ = hdn m' ls; rw [eh]; exact h
   | 5, h => show _ = hdn m' ls; rw [eh]; exact h
   | 6, h => exact ⟨by rw [eh]; exact h.1, h.2⟩
   | 7, h => exact ⟨by rw [eh]; exact h.1, h.2⟩
   | q + 8, h => show _ = hdn m' ls; rw [eh]; exact h
  | _ =>
   unfold Lc at h ⊢
   rw [he, eh]; exact ⟨h.1, e3 h.2⟩
section
variable {f n : Nat} {G G' : Gq} {m m' : Mk} {t q d : Nat} {i : GI}
theorem QD.freec (h : QD f n G m) {c : Nat} (hc : m.mem.ar.free? = some c) : (c = 0 ∨ n + 3 <= c) /\ c < 64 /\ m.mem.ar.there c = false := by
 obtain ⟨h1, -, h3⟩ := Ar.free_some hc
 rw [h.2.size] at h1
 refine ⟨?_, h1, h3⟩
 rcases Nat.lt_or_ge c (n + 3) with h4 | h4
 ·rcases Nat.eq_zero_or_pos c with h5 | h5
  ·exact .inl h5
  ·have := (h.1.here c h5 (by omega)).1.there
   rw [this] at h3; cases h3
 ·exact .inr h4
theorem QD.allocs (h : QD f n G m) (ht : t < n) {v : Int} (hp : G.pt t = some ⟨.put v, 0, d⟩) : ∃ x, QD f n (G.upd t x (G.ls t) (G.fl t) (some ⟨.put v, 1, d⟩)) (m.alloc t 3) := by
 have hno := h.noold ht hp (fun e => nomatch e)
 have L := la_at h ht hp
 obtain ⟨⟨hV, hr4⟩, hnd⟩ := loc_at h ht hp
 cases hf : m.mem.ar.free? with
 | none =>
  refine ⟨none, ?_⟩
  have e0 : m.alloc t 3 = m.setReg t 3 0 := by
   unfold Mk.alloc
   rw [hf]
  rw [e0]
  refine h.regu ht hno rfl rfl h.2.mks (fun u hu => reg3q _ _ _ _ hu) (setq_ne _ _ _ _ (by decide)) (setq_ne _ _ _ _ (by decide)) (setq_ne _ _ _ _ (by decide)) L ?_ (h.2.lst t ht) (h.2.kep t ht) ⟨⟨hV, by rw [setq_ne _ _ _ _ (by decide), hdn_mem rfl]; exact hr4⟩, .inl ⟨rfl, setq_eq _ _ _ _⟩⟩ (fun c hc => ?_) (fun c hc => ⟨?_, fun ha => ha.same id rfl hp rfl ⟨(fun e => nomatch e), fun e => nomatch e⟩ ⟨(fun e => nomatch e), fun e => nomatch e⟩⟩) (fun e => e.elim)
  ·unfold ow
   rw [hnd]
  ·rcases hc with hc | ⟨h1, -⟩
   ·exact .inl hc
   ·cases h1
  ·rcases hc with hc | ⟨h1, -⟩
   ·exact .inl hc
   ·rw [hnd] at h1; cases h1
 | some c =>
  obtain ⟨hc1, hc2, hc3⟩ := h.freec hf
  obtain ⟨P, D⟩ := h
  refine ⟨some c, ?_⟩
  have e0 : m.alloc t 3 = (m.setMem (m.mem.give c)).setReg t 3 ((m.mem.ar.given c : Int) * 64 + c + 1) := by
   unfold Mk.alloc
   rw [hf]
  rw [e0]
  generalize hm' : (m.setMem (m.mem.give c)).setReg t 3 ((m.mem.ar.given c : Int) * 64 + c + 1) = m'
  have ewords : ∀ x j, m'.mem.ar.words x j = if x = c /\ j < 4 then 0 else m.mem.ar.words x j := fun x j => by rw [<- hm']; rfl
  have ethere : ∀ x, m'.mem.ar.there x = if x = c then true else m.mem.ar.there x := fun x => by rw [<- hm']; rfl
  have egiven : ∀ x, m'.mem.ar.given x = if x = c then m.mem.ar.given c + 1 else m.mem.ar.given x := fun x => by rw [<- hm']; rfl
  have esize : m'.mem.ar.size = m.mem.ar.size := by rw [<- hm']; rfl
  have ethr : m'.mem.threads = m.mem.threads := by rw [<- hm']; rfl
  have erg : ∀ u j, m'.regs u j = if u = t /\ j = 3 then (m.mem.ar.given c : Int) * 64 + c + 1 else m.regs u j := fun u j => by rw [<- hm']; rfl
  have ern : ∀ u, u ≠ t -> m'.regs u = m.regs u := fun u hu => by funext j; rw [erg, if_neg (fun e => hu e.1)]
  have er5 : ∀ u j, j ≠ 3 -> m'.regs u j = m.regs u j := fun u j hj => by rw [erg, if_neg (fun e => hj e.2)]
  have ef : m'.faults = m.faults := by rw [<- hm']; rfl
  have emk : m'.marks = m.marks := by rw [<- hm']; rfl
  have ew : m'.mem.waits = m.mem.waits := by rw [<- hm']; rfl
  have sm : m.mem.ar.size <= 64 := by rw [D.size]; decide
  have LL : ∀ x, x ≠ c -> Live m x -> Live m' x := fun x hx h => ⟨by rw [esize]; exact h.lt, by rw [ethere, if_neg hx]; exact h.there, by rw [egiven, if_neg hx]; exact h.given, by rw [esize]; exact h.small⟩
  have Lc' : Live m' c := ⟨by rw [esize, D.size]; exact hc2, by rw [ethere, if_pos rfl], by rw [egiven, if_pos rfl]; omega, by rw [esize]; exact sm⟩
  have R : ∀ x, x ≠ c -> rf m' x = rf m x := fun x hx => by unfold rf; rw [egiven, if_neg hx]
  have Gn : ∀ x, x ≠ c -> gn m' x = gn m x := fun x hx => by unfold gn; rw [egiven, if_neg hx]
  have Rc : rf m' c = (m.mem.ar.given c : Int) * 64 + c + 1 := by unfold rf; rw [egiven, if_pos rfl]; omega
  have W : ∀ x j, x ≠ c -> m'.mem.ar.words x j = m.mem.ar.words x j := fun x j hx => by rw [ewords, if_neg (fun e => hx e.1)]
  have hvn : ∀ u x g j, x ≠ c -> vw m' u x g j = vw m u x g j := fun u x g j hx => by unfold vw; rw [ew, W x j hx]
  have nel : ∀ x, Live m x -> x ≠ c := fun x hx e => by rw [e] at hx; have := hx.there; rw [hc3] at this; cases this
  have neo : ∀ w, w < n -> ∀ x ∈ ow G w, x ≠ c := fun w hw x hx => nel x (D.dc hw hx).2.1
  have hdn' : ∀ w, w < n -> ∀ l : List Nat, (∀ x ∈ l, x ∈ ow G w) -> hdn m' l = hdn m l := fun w hw l hl => by
   cases l with
   | nil => rfl
   | cons x l => exact R x (neo w hw x (hl x List.mem_cons_self))
  have hlk : ∀ w, w < n -> ∀ l : List Nat, (∀ x ∈ l, x ∈ ow G w) -> Lkq m w l -> Lkq m' w l := fun w hw l => by
   induction l with
   | nil => intro _ h; exact h
   | cons x l ih =>
    intro hl h
    have hx := neo w hw x (hl x List.mem_cons_self)
    refine ⟨?_, ih (fun y hy => hl y (List.mem_cons_of_mem _ hy)) h.2⟩
    rw [Gn x hx, hvn _ _ _ _ hx, hdn' w hw l (fun y hy => hl y (List.mem_cons_of_mem _ hy))]
    exact h.1
  have hls : ∀ w, ∀ x ∈ G.ls w, x ∈ ow G w := fun w x hx => List.mem_append_right _ hx
  have hnd' : ∀ w x, G.nd w = some x -> x ∈ ow G w := fun w x hx => List.mem_append_left _ (by rw [hx]; simp)
  have o0 : ow G t = G.ls t := by unfold ow; rw [hnd]; rfl
  refine ⟨P.data ht (Av.upd _ _ _ _ _ _) (fun x h1 h2 => ⟨LL x (by omega) (P.here x h1 h2).1, by rw [egiven, if_neg (by omega)]; exact (P.here x h1 h2).2⟩) ethr (fun x k h1 h2 => W x k (by omega)) (fun u _ x hx => .inl (by rw [<- ew]; exact hx)) (fun u hu => by funext j; exact hvn u _ _ _ (by omega)) ern (er5 t 5 (by decide)) (er5 t 6 (by decide)) (er5 t 7 (by decide)) L (fun e => absurd e hno), ?_⟩
  refine ⟨by rw [esize]; exact D.size, ⟨⟨D.pub.1.1, LL _ (nel _ D.pub.1.2) D.pub.1.2⟩, ?_, ?_⟩, fun w hw x hx => ?_, fun w hw => ?_, fun w u h1 h2 h3 x hx => ?_, fun u hu x hx hxc => ?_, fun w hw x hx => ?_, fun w hw => ?_, fun w hw => ?_, fun w hw => ?_, fun u hu hr => ?_, fun x h1 h2 h3 => ?_, by rw [ef]; exact D.ok, by rw [emk]; exact D.mks, D.nz⟩
  ·show m'.mem.ar.words 1 0 = rf m' G.pp
   rw [W _ _ (by omega), R _ (nel _ D.pub.1.2)]; exact D.pub.2.1
  ·show G.val (m'.mem.ar.words G.pp 0)
   rw [W _ _ (nel _ D.pub.1.2)]; exact D.pub.2.2
  ·show ((x = 0 ∨ n + 3 <= x) /\ Live m' x) /\ x ≠ G.pp
   by_cases e : w = t
   ·subst e
    rw [Gq.upd_ow] at hx
    rcases List.mem_append.1 hx with hx | hx
    ·obtain rfl : x = c := by simpa using hx
     exact ⟨⟨hc1, Lc'⟩, fun e => nel _ D.pub.1.2 e.symm⟩
    ·obtain ⟨k1, k2, k3⟩ := D.dc hw (hls w x hx)
     exact ⟨⟨k1, LL x (nel x k2) k2⟩, k3⟩
   ·rw [Gq.upd_own e] at hx
    obtain ⟨k1, k2, k3⟩ := D.dc hw hx
    exact ⟨⟨k1, LL x (nel x k2) k2⟩, k3⟩
  ·by_cases e : w = t
   ·subst e
    rw [Gq.upd_ow]
    refine List.nodup_cons.2 ⟨fun hx => neo w hw c (hls w c hx) rfl, ?_⟩
    have := D.nod w hw
    rwa [o0] at this
   ·rw [Gq.upd_own e]; exact D.nod w hw
  ·by_cases e : w = t
   ·subst e
    have hu : u ≠ w := fun e => h3 e.symm
    rw [Gq.upd_own hu]
    rw [Gq.upd_ow] at hx
    rcases List.mem_append.1 hx with hx | hx
    ·obtain rfl : x = c := by simpa using hx
     exact fun hx => neo u h2 x hx rfl
    ·exact D.apart w u h1 h2 h3 x (hls w x hx)
   ·rw [Gq.upd_own e] at hx
    by_cases e2 : u = t
    ·subst e2
     rw [Gq.upd_ow]
     intro hx2
     rcases List.mem_append.1 hx2 with hx2 | hx2
     ·obtain rfl : x = c := by simpa using hx2
      exact neo w h1 x hx rfl
     ·exact D.apart w u h1 h2 h3 x hx (hls u x hx2)
    ·rw [Gq.upd_own e2]
     exact D.apart w u h1 h2 h3 x hx
  ·rw [ew] at hx
   obtain ⟨c', k1, k2, k3, k4⟩ := D.wts u hu x hx hxc
   refine ⟨c', ?_, k2, by rw [Gn c' (neo u hu c' k1)]; exact k3, k4⟩
   by_cases e : u = t
   ·subst e
    rw [Gq.upd_ow]
    rw [o0] at k1
    exact List.mem_append_right _ k1
   ·rw [Gq.upd_own e]; exact k1
  ·show G.val (m'.mem.ar.words x 0)
   by_cases e : w = t
   ·subst e
    rcases Ret.upd.1 hx with hx | ⟨-, hx⟩
    ·rw [W x 0 (neo w hw x (hls w x hx))]; exact D.ret w hw x (.inl hx)
    ·exact absurd hx (by show ¬ 5 <= 1; decide)
   ·have hx := (Ret.updn e).1 hx
    rw [W x 0 (neo w hw x hx.ow)]; exact D.ret w hw x hx
  ·by_cases e : w = t
   ·subst e
    rw [Gq.upd_ls]; exact hlk w hw _ (hls w) (D.lst w hw)
   ·rw [Gq.upd_lsn e]; exact hlk w hw _ (hls w) (D.lst w hw)
  ·by_cases e : w = t
   ·subst e; rw [Gq.upd_ls, Gq.upd_fl]; exact D.kep w hw
   ·rw [Gq.upd_lsn e, Gq.upd_fln e]; exact D.kep w hw
  ·show Lc G.val m' w _ _ _ _
   by_cases e : w = t
   ·subst e
    rw [Gq.upd_nd, Gq.upd_ls, Gq.upd_fl, Gq.upd_pt]
    refine ⟨⟨hV, ?_⟩, .inr ⟨c, rfl, ?_⟩⟩
    ·rw [er5 w 4 (by decide), hdn' w hw _ (hls w)]; exact hr4
    ·rw [erg, if_pos ⟨rfl, rfl⟩, Rc]
   ·rw [Gq.upd_ndn e, Gq.upd_lsn e, Gq.upd_fln e, Gq.upd_ptn e]
    exact Lc.keep (ern w e) (fun l hl => hdn' w hw l (fun x hx => hls w x (hl x hx))) (fun x hx => R x (neo w hw x (hnd' w x hx))) (fun x hx => Gn x (neo w hw x (hnd' w x hx))) (fun x k hx => hvn _ _ _ _ (neo w hw x (hnd' w x hx))) (D.loc w hw)
  ·have hne : u ≠ t := fun e => by subst e; rw [Gq.upd_pt] at hr; exact hr.elim
   rw [Gq.upd_ptn hne] at hr
   rw [ern u hne]
   rcases D.hold u hu hr with h | ⟨w, h1, x, h2, h3, h4⟩
   ·refine .inl ?_
    show m.regs u 0 = rf m' G.pp
    rw [R _ (nel _ D.pub.1.2)]; exact h
   ·refine .inr ⟨w, h1, x, ?_⟩
    rw [R x (neo w h1 x h2.ow)]
    by_cases e : w = t
    ·subst e
     refine ⟨Ret.upd.2 (.inl ?_), h3, h4.imp (fun ha => ha.same id rfl hp rfl ⟨(fun e => nomatch e), fun e => nomatch e⟩ ⟨(fun e => nomatch e), fun e => nomatch e⟩) id⟩
     rcases h2 with h2 | ⟨h2, -⟩
     ·exact h2
     ·rw [hnd] at h2; cases h2
    ·exact ⟨(Ret.updn e).2 h2, h3, h4.imp (An.updn e).2 id⟩
  ·rw [ethere] at h3
   by_cases e : x = c
   ·exact .inr ⟨t, ht, by rw [Gq.upd_ow, e]; simp⟩
   ·rw [if_neg e] at h3
    rcases D.live x h1 h2 h3 with h | ⟨w, k1, k2⟩
    ·exact .inl h
    ·refine .inr ⟨w, k1, ?_⟩
     by_cases e2 : w = t
     ·subst e2
      rw [Gq.upd_ow]
      rw [o0] at k2
      exact List.mem_append_right _ k2
     ·rw [Gq.upd_own e2]; exact k2
end
end
section
open Go.RowKit
section
variable {f n : Nat} {G G' : Gq} {m m' : Mk} {t q d : Nat} {i : GI}
theorem mem_ls {w x : Nat} (h : x ∈ G.ls w) : x ∈ ow G w := List.mem_append_right _ h
theorem mem_nd {w x : Nat} (h : G.nd w = some x) : x ∈ ow G w := List.mem_append_left _ (by rw [h]; simp)
theorem nd_ls {w c : Nat} (D : CI f n G m) (hw : w < n) (h : G.nd w = some c) : c ∉ G.ls w /\ (G.ls w).Nodup := by
 have := D.nod w hw
 unfold ow at this
 rw [h] at this
 have := List.nodup_cons.1 this
 exact this
theorem QD.putc (h : QD f n G m) (ht : t < n) {c k : Nat} {v : Int} {x : Option Nat} {l : List Nat} {fl' : Fl} {g : Option Pq} (hno : ¬ ∃ u, Olq G t u) (hx : G.nd t = x) (hl : G.ls t = l) (hf : G.fl t = fl') (hc : x = some c) (hk : k = 1 ∨ k = 0 /\ G.val v)
  (hla : Lq f G.ch (Olq G t) (shq m) t (ovq m t) (m.regs t) g) (hlc : ∀ m' : Mk, m'.regs = m.regs -> (∀ c, rf m' c = rf m c) -> (∀ c, gn m' c = gn m c) -> vw m' t c (gn m c) k = v -> Lc G.val m' t x l fl'.r g) (hrt : rtd g ↔ rtd (G.pt t)) (han : ∀ e, Ret G t e -> An f G t e -> An f (G.upd t x l fl' g) t e) (hrd : ¬ rdq g) :
  QD f n (G.upd t x l fl' g) (m.put t (rf m c) k v) := by
 subst hx hl hf
 obtain ⟨P, D⟩ := h
 obtain ⟨c1, Lx, c3⟩ := D.dc ht (mem_nd hc)
 obtain ⟨n1, n2⟩ := nd_ls D ht hc
 have e0 : m.put t (rf m c) k v = m.setMem (m.mem.setWaits t (m.mem.waits t ++ [⟨(c : Int), gn m c, k, v⟩])) := by
  unfold Mk.put
  rw [(rf_cell Lx).1, (rf_cell Lx).2]
 rw [e0]
 generalize hm' : m.setMem (m.mem.setWaits t (m.mem.waits t ++ [⟨(c : Int), gn m c, k, v⟩])) = m'
 have ear : m'.mem.ar = m.mem.ar := by rw [<- hm']; rfl
 have ethr : m'.mem.threads = m.mem.threads := by rw [<- hm']; rfl
 have eregs : m'.regs = m.regs := by rw [<- hm']; rfl
 have ef : m'.faults = m.faults := by rw [<- hm']; rfl
 have emk : m'.marks = m.marks := by rw [<- hm']; rfl
 have ewt : m'.mem.waits t = m.mem.waits t ++ [⟨(c : Int), gn m c, k, v⟩] := by rw [<- hm']; exact if_pos rfl
 have ewn : ∀ u, u ≠ t -> m'.mem.waits u = m.mem.waits u := fun u hu => by rw [<- hm']; exact if_neg hu
 have S : SameCells m m' := ⟨by rw [ear], by rw [ear], by rw [ear]⟩
 have hmem : ∀ u, ∀ y ∈ m'.mem.waits u, y ∈ m.mem.waits u ∨ u = t /\ y = ⟨(c : Int), gn m c, k, v⟩ := fun u y hy => by
  by_cases e : u = t
  ·subst e
   rw [ewt] at hy
   rcases List.mem_append.1 hy with h | h
   ·exact .inl h
   ·exact .inr ⟨rfl, by simpa using h⟩
  ·rw [ewn u e] at hy; exact .inl hy
 have hvn : ∀ u c g j, u ≠ t -> vw m' u c g j = vw m u c g j := fun u c g j hu => by unfold vw; rw [ewn u hu, ear]
 have hvt : ∀ (e : Nat) (g : Int) (j : Nat), vw m' t e g j = if (c : Int) = e /\ gn m c = g /\ (k : Int) = j then v else vw m t e g j := fun e g j => by
  unfold vw
  rw [ewt, ear, foldl_snoc]
  rfl
 have hon : ∀ u, u < n -> ovq m' u = ovq m u := fun u hu => by
  funext j
  unfold ovq
  by_cases e : u = t
  ·subst e; rw [hvt, if_neg (fun h => by omega)]
  ·exact hvn u _ _ _ e
 have how : ∀ u, ow (G.upd t (G.nd t) (G.ls t) (G.fl t) g) u = ow G u := fun u => by
  by_cases e : u = t
  ·subst e; exact Gq.upd_ow
  ·exact Gq.upd_own e
 have hls : ∀ u, (G.upd t (G.nd t) (G.ls t) (G.fl t) g).ls u = G.ls u := fun u => by
  by_cases e : u = t
  ·subst e; exact Gq.upd_ls
  ·exact Gq.upd_lsn e
 have hre : ∀ u e, Ret (G.upd t (G.nd t) (G.ls t) (G.fl t) g) u e ↔ Ret G u e := fun u e => by
  by_cases e2 : u = t
  ·subst e2
   rw [Ret.upd]
   unfold Ret
   rw [hrt]
  ·exact Ret.updn e2
 refine ⟨P.data ht (Av.upd _ _ _ _ _ _) (fun x h1 h2 => ⟨S.live (P.here x h1 h2).1, by rw [ear]; exact (P.here x h1 h2).2⟩) ethr (fun x k _ _ => by rw [ear]) (fun u hu x hx => ?_) hon (fun u _ => by rw [eregs]) (by rw [eregs]) (by rw [eregs]) (by rw [eregs]) (by rw [eregs]; exact hla) (fun e => absurd e hno), ?_⟩
 ·rcases hmem u x hx with h | ⟨rfl, rfl⟩
  ·exact .inl h
  ·exact .inr ⟨⟨by show (0 : Int) <= (c : Int); omega, by show (0 : Int) <= (k : Int); omega⟩, by show (c : Int) = 0 ∨ (n : Int) + 3 <= (c : Int); omega⟩
 refine ⟨by rw [ear]; exact D.size, ⟨⟨D.pub.1.1, S.live D.pub.1.2⟩, by rw [ear, S.rf]; exact D.pub.2.1, by rw [ear]; exact D.pub.2.2⟩, fun w hw x hx => ?_, fun w hw => by rw [how]; exact D.nod w hw, fun w u h1 h2 h3 x hx => by rw [how] at hx ⊢; exact D.apart w u h1 h2 h3 x hx, fun u hu x hx hxc => ?_, fun w hw x hx => by rw [ear]; exact D.ret w hw x ((hre w x).1 hx), fun w hw => ?_, fun w hw => ?_, fun w hw => ?_, fun u hu hr => ?_, fun x h1 h2 h3 => ?_, by rw [ef]; exact D.ok, by rw [emk]; exact D.mks, D.nz⟩
 ·rw [how] at hx
  exact ⟨⟨(D.own w hw x hx).1.1, S.live (D.own w hw x hx).1.2⟩, (D.own w hw x hx).2⟩
 ·rcases hmem u x hx with h | ⟨rfl, rfl⟩
  ·obtain ⟨c', k1, k2, k3, k4⟩ := D.wts u hu x h hxc
   exact ⟨c', by rw [how]; exact k1, k2, by rw [S.gn]; exact k3, k4⟩
  ·refine ⟨c, by rw [how]; exact mem_nd hc, rfl, by rw [S.gn], ?_⟩
   rcases hk with rfl | ⟨rfl, hv⟩
   ·exact .inl rfl
   ·exact .inr ⟨rfl, hv⟩
 ·rw [hls]
  refine Lkq.same S.rf S.gn (fun x hx => ?_) (D.lst w hw)
  by_cases e : w = t
  ·subst e
   rw [hvt, if_neg]
   rintro ⟨e1, -, -⟩
   have : c = x := by omega
   subst this
   exact n1 hx
  ·exact hvn _ _ _ _ e
 ·by_cases e : w = t
  ·subst e; rw [Gq.upd_ls, Gq.upd_fl]; exact D.kep w hw
  ·rw [Gq.upd_lsn e, Gq.upd_fln e]; exact D.kep w hw
 ·show Lc G.val m' w _ _ _ _
  by_cases e : w = t
  ·subst e
   rw [Gq.upd_nd, Gq.upd_ls, Gq.upd_fl, Gq.upd_pt]
   exact hlc m' eregs S.rf S.gn (by rw [hvt, if_pos ⟨rfl, rfl, rfl⟩])
  ·rw [Gq.upd_ndn e, Gq.upd_lsn e, Gq.upd_fln e, Gq.upd_ptn e]
   exact Lc.same S.rf S.gn (by rw [eregs]) (fun c k _ => hvn _ _ _ _ e) (D.loc w hw)
 ·have hne : u ≠ t := fun e => by subst e; rw [Gq.upd_pt] at hr; exact hrd hr
  rw [Gq.upd_ptn hne] at hr
  rw [eregs, S.rf]
  rcases D.hold u hu hr with h | ⟨w, h1, x, h2, h3, h4⟩
  ·exact .inl h
  ·refine .inr ⟨w, h1, x, (hre w x).2 h2, by rw [S.rf]; exact h3, ?_⟩
   by_cases e : w = t
   ·subst e
    exact h4.imp (han x h2) id
   ·exact h4.imp (An.updn e).2 id
 ·rw [ear] at h3
  rcases D.live x h1 h2 h3 with h | ⟨w, k1, k2⟩
  ·exact .inl h
  ·exact .inr ⟨w, k1, by rw [how]; exact k2⟩
def Gq.swp (G : Gq) (t c : Nat) (k : Fl) (g : Option Pq) : Gq := { G.upd t (some G.pp) (G.ls t) k g with pp := c }
theorem QD.swaps (h : QD f n G m) (ht : t < n) (hwt : m.mem.waits t = []) {v : Int} {c : Nat} {k : Fl} (hp : G.pt t = some ⟨.put v, 4, d⟩) (hnx : G.nd t = some c) (hkr : k.w = false) (hkk : k.k = (G.fl t).k) :
  QD f n (G.swp t c k (some ⟨.put v, 5, d⟩)) ((m.setWord 2 0 (m.regs t 3)).setReg t 3 (m.mem.ar.words 1 0)) := by
 have hno := h.noold ht hp (fun e => nomatch e)
 have L := la_at h ht hp
 obtain ⟨⟨hV, hr4⟩, c', hx', hr3, hset⟩ := loc_at h ht hp
 rw [hnx] at hx'
 cases hx'
 obtain ⟨P, D⟩ := h
 obtain ⟨c1, Lx, c3⟩ := D.dc ht (mem_nd hnx)
 obtain ⟨n1, n2⟩ := nd_ls D ht hnx
 have hset : G.val (m.mem.ar.words c 0) := by
  unfold vw at hset
  rw [hwt] at hset; exact hset
 generalize hm' : (m.setWord 2 0 (m.regs t 3)).setReg t 3 (m.mem.ar.words 1 0) = m'
 have ewords : ∀ c j, m'.mem.ar.words c j = if c = 1 /\ j = 0 then m.regs t 3 else m.mem.ar.words c j := fun c j => by rw [<- hm']; rfl
 have S : SameCells m m' := by rw [<- hm']; exact ⟨rfl, rfl, rfl⟩
 have ethr : m'.mem.threads = m.mem.threads := by rw [<- hm']; rfl
 have erg : ∀ u j, m'.regs u j = if u = t /\ j = 3 then m.mem.ar.words 1 0 else m.regs u j := fun u j => by rw [<- hm']; rfl
 have ern : ∀ u, u ≠ t -> m'.regs u = m.regs u := fun u hu => by funext j; rw [erg, if_neg (fun e => hu e.1)]
 have er5 : ∀ u j, j ≠ 3 -> m'.regs u j = m.regs u j := fun u j hj => by rw [erg, if_neg (fun e => hj e.2)]
 have ef : m'.faults = m.faults := by rw [<- hm']; rfl
 have emk : m'.marks = m.marks := by rw [<- hm']; rfl
 have ew : m'.mem.waits = m.mem.waits := by rw [<- hm']; rfl
 have W : ∀ c j, c ≠ 1 -> m'.mem.ar.words c j = m.mem.ar.words c j := fun c j hc => by rw [ewords, if_neg (fun e => hc e.1)]
 have hvn : ∀ u c g j, c ≠ 1 -> vw m' u c g j = vw m u c g j := fun u c g j hc => by unfold vw; rw [ew, W c j hc]
 have hn1 : ∀ w, w < n -> ∀ x ∈ ow G w, x ≠ 1 := fun w hw x hx e => by have := (D.dc hw hx).1; omega
 have o1 : ow (G.swp t c k (some ⟨.put v, 5, d⟩)) t = G.pp :: G.ls t := Gq.upd_ow (G := G) (x := some G.pp) (l := G.ls t) (k := k) (g := some ⟨.put v, 5, d⟩)
 have o2 : ∀ u, u ≠ t -> ow (G.swp t c k (some ⟨.put v, 5, d⟩)) u = ow G u := fun u hu => Gq.upd_own (G := G) (x := some G.pp) (l := G.ls t) (k := k) (g := some ⟨.put v, 5, d⟩) hu
 have hppn : ∀ w, w < n -> ∀ x ∈ ow G w, x ≠ G.pp := fun w hw x hx => (D.own w hw x hx).2
 have r1 : ∀ x, Ret (G.swp t c k (some ⟨.put v, 5, d⟩)) t x ↔ x ∈ G.ls t ∨ x = G.pp := fun x => by
  show Ret (G.upd t (some G.pp) (G.ls t) k (some ⟨.put v, 5, d⟩)) t x ↔ _
  rw [Ret.upd]
  refine or_congr Iff.rfl ⟨fun e => (Option.some.inj e.1).symm, fun e => ⟨by rw [e], Nat.le_refl 5⟩⟩
 have r2 : ∀ u x, u ≠ t -> (Ret (G.swp t c k (some ⟨.put v, 5, d⟩)) u x ↔ Ret G u x) := fun u x hu => by
  show Ret (G.upd t (some G.pp) (G.ls t) k (some ⟨.put v, 5, d⟩)) u x ↔ _
  exact Ret.updn hu
 have a1 : ∀ x, An f (G.swp t c k (some ⟨.put v, 5, d⟩)) t x := fun x => by
  show An f (G.upd t (some G.pp) (G.ls t) k (some ⟨.put v, 5, d⟩)) t x
  exact An.any (.inr hkr) rfl (fun e => nomatch e) (fun e => nomatch e)
 have a2 : ∀ u x, u ≠ t -> An f G u x -> An f (G.swp t c k (some ⟨.put v, 5, d⟩)) u x := fun u x hu h => by
  show An f (G.upd t (some G.pp) (G.ls t) k (some ⟨.put v, 5, d⟩)) u x
  exact (An.updn hu).2 h
 have hav : Av t (some ⟨.put v, 5, d⟩) G (G.swp t c k (some ⟨.put v, 5, d⟩)) := ⟨rfl, rfl, if_pos rfl, fun u hu => if_neg hu⟩
 refine ⟨P.data ht hav (fun x h1 h2 => ⟨S.live (P.here x h1 h2).1, by rw [S.given]; exact (P.here x h1 h2).2⟩) ethr (fun x k h1 h2 => W x k (by omega)) (fun u _ x hx => .inl (by rw [<- ew]; exact hx)) (fun u hu => by funext j; exact hvn u _ _ _ (by omega)) ern (er5 t 5 (by decide)) (er5 t 6 (by decide)) (er5 t 7 (by decide)) L (fun e => absurd e hno), ?_⟩
 refine ⟨by rw [S.size]; exact D.size, ⟨⟨c1, S.live Lx⟩, ?_, ?_⟩, fun w hw x hx => ?_, fun w hw => ?_, fun w u h1 h2 h3 x hx => ?_, fun u hu x hx hxc => ?_, fun w hw x hx => ?_, fun w hw => ?_, fun w hw => ?_, fun w hw => ?_, fun u hu hr => ?_, fun x h1 h2 h3 => ?_, by rw [ef]; exact D.ok, by rw [emk]; exact D.mks, D.nz⟩
 ·show m'.mem.ar.words 1 0 = rf m' c
  rw [ewords, if_pos ⟨rfl, rfl⟩, S.rf]; exact hr3
 ·show G.val (m'.mem.ar.words c 0)
  rw [W c 0 (by omega)]; exact hset
 ·show ((x = 0 ∨ n + 3 <= x) /\ Live m' x) /\ x ≠ c
  by_cases e : w = t
  ·subst e
   rw [o1] at hx
   rcases List.mem_cons.1 hx with rfl | hx
   ·exact ⟨⟨D.pub.1.1, S.live D.pub.1.2⟩, fun e => c3 e.symm⟩
   ·exact ⟨⟨(D.own w hw x (mem_ls hx)).1.1, S.live (D.own w hw x (mem_ls hx)).1.2⟩, fun e => n1 (by rw [<- e]; exact hx)⟩
  ·rw [o2 w e] at hx
   exact ⟨⟨(D.own w hw x hx).1.1, S.live (D.own w hw x hx).1.2⟩, fun e2 => D.apart w t hw ht e x hx (by rw [e2]; exact mem_nd hnx)⟩
 ·by_cases e : w = t
  ·subst e
   rw [o1]
   exact List.nodup_cons.2 ⟨fun hx => hppn w hw _ (mem_ls hx) rfl, n2⟩
  ·rw [o2 w e]; exact D.nod w hw
 ·by_cases e : w = t
  ·subst e
   have hu : u ≠ w := fun e => h3 e.symm
   rw [o2 u hu]
   rw [o1] at hx
   rcases List.mem_cons.1 hx with rfl | hx
   ·exact fun hx => hppn u h2 _ hx rfl
   ·exact D.apart w u h1 h2 h3 x (mem_ls hx)
  ·rw [o2 w e] at hx
   by_cases e2 : u = t
   ·subst e2
    rw [o1]
    intro hx2
    rcases List.mem_cons.1 hx2 with rfl | hx2
    ·exact hppn w h1 _ hx rfl
    ·exact D.apart w u h1 h2 h3 x hx (mem_ls hx2)
   ·rw [o2 u e2]
    exact D.apart w u h1 h2 h3 x hx
 ·have hne : u ≠ t := fun e => by subst e; rw [ew, hwt] at hx; cases hx
  rw [ew] at hx
  obtain ⟨c', k1, k2, k3, k4⟩ := D.wts u hu x hx hxc
  exact ⟨c', by rw [o2 u hne]; exact k1, k2, by rw [S.gn]; exact k3, k4⟩
 ·show G.val (m'.mem.ar.words x 0)
  by_cases e : w = t
  ·subst e
   rcases (r1 x).1 hx with hx | rfl
   ·rw [W x 0 (hn1 w hw x (mem_ls hx))]; exact D.ret w hw x (.inl hx)
   ·rw [W _ 0 (by have := D.pub.1.1; intro e; rcases this with h | h <;> omega)]; exact D.pub.2.2
  ·have hx := (r2 w x e).1 hx
   rw [W x 0 (hn1 w hw x hx.ow)]; exact D.ret w hw x hx
 ·have hl : (G.swp t c k (some ⟨.put v, 5, d⟩)).ls w = G.ls w := by
   show (G.upd t (some G.pp) (G.ls t) k (some ⟨.put v, 5, d⟩)).ls w = _
   by_cases e : w = t
   ·subst e; exact Gq.upd_ls
   ·exact Gq.upd_lsn e
  rw [hl]
  exact Lkq.same S.rf S.gn (fun x hx => hvn _ _ _ _ (hn1 w hw x (mem_ls hx))) (D.lst w hw)
 ·show ((G.upd t (some G.pp) (G.ls t) k (some ⟨.put v, 5, d⟩)).fl w).k = false -> (G.upd t (some G.pp) (G.ls t) k (some ⟨.put v, 5, d⟩)).ls w = []
  by_cases e : w = t
  ·subst e; rw [Gq.upd_ls, Gq.upd_fl, hkk]; exact D.kep w hw
  ·rw [Gq.upd_lsn e, Gq.upd_fln e]; exact D.kep w hw
 ·show Lc G.val m' w ((G.upd t (some G.pp) (G.ls t) k (some ⟨.put v, 5, d⟩)).nd w) ((G.upd t (some G.pp) (G.ls t) k (some ⟨.put v, 5, d⟩)).ls w) ((G.upd t (some G.pp) (G.ls t) k (some ⟨.put v, 5, d⟩)).fl w).r ((G.upd t (some G.pp) (G.ls t) k (some ⟨.put v, 5, d⟩)).pt w)
  by_cases e : w = t
  ·subst e
   rw [Gq.upd_nd, Gq.upd_ls, Gq.upd_fl, Gq.upd_pt]
   exact ⟨⟨hV, by rw [er5 w 4 (by decide), hdn_same S.rf]; exact hr4⟩, .inr ⟨G.pp, rfl, by rw [erg, if_pos ⟨rfl, rfl⟩, S.rf]; exact D.pub.2.1⟩⟩
  ·rw [Gq.upd_ndn e, Gq.upd_lsn e, Gq.upd_fln e, Gq.upd_ptn e]
   exact Lc.same S.rf S.gn (ern w e) (fun x k hx => hvn _ _ _ _ (hn1 w hw x (mem_nd hx))) (D.loc w hw)
 ·have hne : u ≠ t := fun e => by subst e; rw [show (G.swp u c k (some ⟨.put v, 5, d⟩)).pt u = some ⟨.put v, 5, d⟩ from if_pos rfl] at hr; exact hr.elim
  rw [show (G.swp t c k (some ⟨.put v, 5, d⟩)).pt u = G.pt u from if_neg hne] at hr
  rw [ern u hne]
  right
  rcases D.hold u hu hr with h | ⟨w, h1, x, h2, h3', h4'⟩
  ·exact ⟨t, ht, G.pp, (r1 _).2 (.inr rfl), by rw [S.rf]; exact h, .inl (a1 _)⟩
  ·refine ⟨w, h1, x, ?_⟩
   rw [S.rf]
   by_cases e : w = t
   ·subst e
    refine ⟨(r1 x).2 (.inl ?_), h3', .inl (a1 x)⟩
    rcases h2 with h2 | ⟨-, h2⟩
    ·exact h2
    ·rw [hp] at h2
     exact absurd h2 (by show ¬ 5 <= 4; decide)
   ·exact ⟨(r2 w x e).2 h2, h3', h4'.imp (a2 w x e) id⟩
 ·rw [S.there] at h3
  rcases D.live x h1 h2 h3 with h | ⟨w, k1, k2⟩
  ·exact .inr ⟨t, ht, by rw [o1, h]; exact List.mem_cons_self⟩
  ·by_cases e : w = t
   ·subst e
    unfold ow at k2
    rw [hnx] at k2
    rcases List.mem_cons.1 k2 with h | h
    ·exact .inl h
    ·exact .inr ⟨w, k1, by rw [o1]; exact List.mem_cons_of_mem _ h⟩
   ·exact .inr ⟨w, k1, by rw [o2 w e]; exact k2⟩
theorem QD.frees (h : QD f n G m) (ht : t < n) (hwt : m.mem.waits t = []) {c : Nat} {x : Option Nat} {l : List Nat} {k : Fl} {g : Option Pq} (hc : c ∈ ow G t) (how : ∀ e, e ∈ x.toList ++ l ↔ e ∈ ow G t /\ e ≠ c) (hnod : (x.toList ++ l).Nodup) (hno : ¬ ∃ u, Olq G t u) (han : ¬ An f G t c)
  (hla : Lq f G.ch (Olq G t) (shq m) t (ovq m t) (m.regs t) g) (hlk : Lkq m t l) (hkp : k.k = false -> l = []) (hlc : Lc G.val m t x l k.r g) (hr1 : ∀ e, e ∈ l ∨ (x = some e /\ rtd g) -> Ret G t e) (hr2 : ∀ e, e ≠ c -> Ret G t e -> (e ∈ l ∨ (x = some e /\ rtd g)) /\ (An f G t e -> An f (G.upd t x l k g) t e)) (hrd : ¬ rdq g) :
  QD f n (G.upd t x l k g) (m.setMem (m.mem.setThere c false)) := by
 obtain ⟨P, D⟩ := h
 obtain ⟨c1, Lx, c3⟩ := D.dc ht hc
 generalize hm' : m.setMem (m.mem.setThere c false) = m'
 have ewords : m'.mem.ar.words = m.mem.ar.words := by rw [<- hm']; rfl
 have ethere : ∀ x, m'.mem.ar.there x = if x = c then false else m.mem.ar.there x := fun x => by rw [<- hm']; rfl
 have egiven : m'.mem.ar.given = m.mem.ar.given := by rw [<- hm']; rfl
 have esize : m'.mem.ar.size = m.mem.ar.size := by rw [<- hm']; rfl
 have ethr : m'.mem.threads = m.mem.threads := by rw [<- hm']; rfl
 have er : m'.regs = m.regs := by rw [<- hm']; rfl
 have ef : m'.faults = m.faults := by rw [<- hm']; rfl
 have emk : m'.marks = m.marks := by rw [<- hm']; rfl
 have ew : m'.mem.waits = m.mem.waits := by rw [<- hm']; rfl
 have LL : ∀ x, x ≠ c -> Live m x -> Live m' x := fun x hx h => ⟨by rw [esize]; exact h.lt, by rw [ethere, if_neg hx]; exact h.there, by rw [egiven]; exact h.given, by rw [esize]; exact h.small⟩
 have R : ∀ x, rf m' x = rf m x := fun x => by unfold rf; rw [egiven]
 have Gn : ∀ x, gn m' x = gn m x := fun x => by unfold gn; rw [egiven]
 have hvn : ∀ u x g j, vw m' u x g j = vw m u x g j := fun u x g j => by unfold vw; rw [ew, ewords]
 have hon : ∀ u, ovq m' u = ovq m u := fun u => by funext j; exact hvn u _ _ _
 have hne : ∀ w, w < n -> w ≠ t -> ∀ x ∈ ow G w, x ≠ c := fun w hw hwt x hx e => by subst e; exact D.apart w t hw ht hwt x hx hc
 refine ⟨P.data ht (Av.upd _ _ _ _ _ _) (fun x h1 h2 => ⟨LL x (by omega) (P.here x h1 h2).1, by rw [egiven]; exact (P.here x h1 h2).2⟩) ethr (fun x k _ _ => by rw [ewords]) (fun u _ x hx => .inl (by rw [<- ew]; exact hx)) (fun u _ => hon u) (fun u _ => by rw [er]) (by rw [er]) (by rw [er]) (by rw [er]) (by rw [er]; exact hla) (fun e => absurd e hno), ?_⟩
 refine ⟨by rw [esize]; exact D.size, ⟨⟨D.pub.1.1, LL _ (fun e => c3 e.symm) D.pub.1.2⟩, by rw [ewords, R]; exact D.pub.2.1, by rw [ewords]; exact D.pub.2.2⟩, fun w hw y hy => ?_, fun w hw => ?_, fun w u h1 h2 h3 y hy => ?_, fun u hu y hy hyc => ?_, fun w hw y hy => ?_, fun w hw => ?_, fun w hw => ?_, fun w hw => ?_, fun u hu hr => ?_, fun y h1 h2 h3 => ?_, by rw [ef]; exact D.ok, by rw [emk]; exact D.mks, D.nz⟩
 ·show ((y = 0 ∨ n + 3 <= y) /\ Live m' y) /\ y ≠ G.pp
  by_cases e : w = t
  ·subst e
   rw [Gq.upd_ow] at hy
   obtain ⟨k1, k2⟩ := (how y).1 hy
   exact ⟨⟨(D.own w hw y k1).1.1, LL y k2 (D.own w hw y k1).1.2⟩, (D.own w hw y k1).2⟩
  ·rw [Gq.upd_own e] at hy
   exact ⟨⟨(D.own w hw y hy).1.1, LL y (hne w hw e y hy) (D.own w hw y hy).1.2⟩, (D.own w hw y hy).2⟩
 ·by_cases e : w = t
  ·subst e; rw [Gq.upd_ow]; exact hnod
  ·rw [Gq.upd_own e]; exact D.nod w hw
 ·by_cases e : w = t
  ·subst e
   have hu : u ≠ w := fun e => h3 e.symm
   rw [Gq.upd_own hu]
   rw [Gq.upd_ow] at hy
   exact D.apart w u h1 h2 h3 y ((how y).1 hy).1
  ·rw [Gq.upd_own e] at hy
   by_cases e2 : u = t
   ·subst e2
    rw [Gq.upd_ow]
    exact fun hy2 => D.apart w u h1 h2 h3 y hy ((how y).1 hy2).1
   ·rw [Gq.upd_own e2]
    exact D.apart w u h1 h2 h3 y hy
 ·have hne : u ≠ t := fun e => by subst e; rw [ew, hwt] at hy; cases hy
  rw [ew] at hy
  obtain ⟨c', k1, k2, k3, k4⟩ := D.wts u hu y hy hyc
  exact ⟨c', by rw [Gq.upd_own hne]; exact k1, k2, by rw [Gn]; exact k3, k4⟩
 ·show G.val (m'.mem.ar.words y 0)
  rw [ewords]
  by_cases e : w = t
  ·subst e; exact D.ret w hw y (hr1 y (Ret.upd.1 hy))
  ·exact D.ret w hw y ((Ret.updn e).1 hy)
 ·refine Lkq.same R Gn (fun x _ => hvn _ _ _ _) ?_
  by_cases e : w = t
  ·subst e; rw [Gq.upd_ls]; exact hlk
  ·rw [Gq.upd_lsn e]; exact D.lst w hw
 ·by_cases e : w = t
  ·subst e; rw [Gq.upd_ls, Gq.upd_fl]; exact hkp
  ·rw [Gq.upd_lsn e, Gq.upd_fln e]; exact D.kep w hw
 ·show Lc G.val m' w _ _ _ _
  refine Lc.same R Gn (by rw [er]) (fun c k _ => hvn _ _ _ _) ?_
  by_cases e : w = t
  ·subst e
   rw [Gq.upd_nd, Gq.upd_ls, Gq.upd_fl, Gq.upd_pt]; exact hlc
  ·rw [Gq.upd_ndn e, Gq.upd_lsn e, Gq.upd_fln e, Gq.upd_ptn e]; exact D.loc w hw
 ·have hne' : u ≠ t := fun e => by subst e; rw [Gq.upd_pt] at hr; exact hrd hr
  rw [Gq.upd_ptn hne'] at hr
  rw [er, R]
  rcases D.hold u hu hr with h | ⟨w, h1, y, h2, h3, h4⟩
  ·exact .inl h
  ·refine .inr ⟨w, h1, y, ?_⟩
   rw [R]
   by_cases e : w = t
   ·subst e
    have hyc : y ≠ c := fun e => by
     subst e
     rcases h4 with h4 | h4
     ·exact han h4
     ·exact hno ⟨u, h4⟩
    exact ⟨Ret.upd.2 (hr2 y hyc h2).1, h3, h4.imp (hr2 y hyc h2).2 id⟩
   ·exact ⟨(Ret.updn e).2 h2, h3, h4.imp (An.updn e).2 id⟩
 ·rw [ethere] at h3
  by_cases e : y = c
  ·rw [if_pos e] at h3; cases h3
  ·rw [if_neg e] at h3
   rcases D.live y h1 h2 h3 with h | ⟨w, k1, k2⟩
   ·exact .inl h
   ·refine .inr ⟨w, k1, ?_⟩
    by_cases e2 : w = t
    ·subst e2
     rw [Gq.upd_ow]; exact (how y).2 ⟨k2, e⟩
    ·rw [Gq.upd_own e2]; exact k2
end
end
end Go.Proofs.YtaiigfcfmcicjaaGreatDoor
