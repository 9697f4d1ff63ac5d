import Derived.Test.YtaiigfcfmcicjaaGreatDoorD36
import Derived.Test.YtaiigfcfmcicjaaGreatDoorD32
namespace Go.Proofs.YtaiigfcfmcicjaaGreatDoor
set_option maxRecDepth 100000
set_option maxHeartbeats 8000000
section
open Go.RowKit
structure Bk where
 d : Nat
 fl : Fl
 e : Bool
 g : Bool
def Kq (V : Int -> Prop) : Tq -> Bk -> Bk -> Prop
 | .enter, b, b' => b.g = false /\ b' = ⟨b.d + 1, b.fl, false, false⟩
 | .leave, b, b' => b.g = false /\ 0 < b.d /\ b' = ⟨b.d - 1, b.fl, false, false⟩
 | .rest, b, b' => b.g = false /\ b.d = 0 /\ b' = ⟨0, b.fl, false, false⟩
 | .gone, b, b' => b.g = false /\ b.d = 0 /\ b' = ⟨0, b.fl, false, true⟩
 | .wait, b, b' => b.g = false /\ b.d = 0 /\ b' = ⟨0, ⟨b.fl.r, true, b.fl.k⟩, true, false⟩
 | .read, b, b' => b.g = false /\ 0 < b.d /\ b' = ⟨b.d, b.fl, false, false⟩
 | .put v, b, b' => b.g = false /\ b.d = 0 /\ V v /\ b.fl.r = false /\ b' = ⟨0, ⟨true, false, b.fl.k⟩, false, false⟩
 | .drop, b, b' => b.g = false /\ b.fl.r = true /\ b.fl.w = true /\ b' = ⟨b.d, ⟨false, b.fl.w, b.fl.k⟩, false, false⟩
 | .later, b, b' => b.g = false /\ b.fl.r = true /\ b' = ⟨b.d, ⟨false, b.fl.w, true⟩, false, false⟩
 | .empty, b, b' => b.g = false /\ b.d = 0 /\ b.e = true /\ b' = ⟨0, ⟨b.fl.r, b.fl.w, false⟩, false, false⟩
def DiscQ (V : Int -> Prop) (e : Fl) : Bk -> List Tq -> Prop
 | b, [] => b.d = 0 /\ b.fl = e
 | b, tg :: l => b.d <= 100 /\ ∃ b', Kq V tg b b' /\ DiscQ V e b' l
def PqAt (f : Nat) (L : List Ins) (a : Nat) (tg : Tq) : Prop := ∀ (q : Nat) (i : GI), (tqCode f tg)[q]? = some i -> ∀ (m : Mk) (t : Nat), m.pc t = a + q -> doneAt L (m.pc t) = false /\ m.step L t = hExec (m.setPc t (a + gNext (tqCode f tg) q (m.regs t) i)) t tg q i
def PsAt (f : Nat) (L : List Ins) : Nat -> List Tq -> Prop
 | a, [] => doneAt L a = true
 | a, tg :: l => PqAt f L a tg /\ PsAt f L (a + (tqCode f tg).length) l
def LocQ (f : Nat) (V : Int -> Prop) (e : Fl) (L : List Ins) (pc : Nat) (fl : Fl) : Option Pq -> Prop
 | none => doneAt L pc = true /\ fl = e
 | some ⟨tg, q, d⟩ => ∃ a B b b', PqAt f L a tg /\ pc = a + q /\ q < (tqCode f tg).length /\ Kq V tg b b' /\ b.d = d /\ d <= 100 /\ fl = flq (some ⟨tg, q, d⟩) b.fl /\ DiscQ V e b' B /\ PsAt f L (a + (tqCode f tg).length) B
structure BTq (f : Nat) (G : Gq) (m : Mk) (t : Nat) (b : Bk) : Prop where
 bw3 : f = 3 -> b.g = false -> ovq m t 0 % 2 = 1
 bw : f ≠ 3 -> Bq f (t ∈ G.ch) t b.d (ovq m t)
 none' : ¬ ∃ u, Olq G t u
 r4 : m.regs t 4 = hdn m (G.ls t)
 nf : Nf m t (G.nd t) b.fl.r
 rt : ∀ c, G.nd t = some c -> rtd (G.pt t)
 an : ∀ c, Ret G t c -> An f G t c -> b.e = false /\ (c ∈ G.ls t ∨ b.fl.w = false)
 kp : b.fl.k = false -> G.ls t = []
section
variable {f n : Nat} {G : Gq} {m : Mk} {t : Nat} {b b' : Bk} {tg : Tq} {V : Int -> Prop} {e : Fl}
theorem BTq.bq (h : BTq f G m t b) (hg : b.g = false) : Bq f (t ∈ G.ch) t b.d (ovq m t) := by
 by_cases h3 : f = 3
 ·exact ⟨fun _ => h.bw3 h3 hg, fun e2 => absurd h3 e2, fun e2 => by omega⟩
 ·exact h.bw h3
theorem BTq.la0 (h : BTq f G m t b) (hk : Kq V tg b b') (hne : tqCode f tg ≠ []) : Lq f G.ch (Olq G t) (shq m) t (ovq m t) (m.regs t) (some ⟨tg, 0, b.d⟩) := by
 have none' : ∀ u, ¬ Olq G t u := fun u hu => h.none' ⟨u, hu⟩
 cases tg with
 | enter =>
  have hf : f ≠ 3 := fun e => hne (by subst e; rfl)
  exact ⟨hf, h.bw hf⟩
 | leave =>
  have hf : f ≠ 3 := fun e => hne (by subst e; rfl)
  exact ⟨hf, h.bw hf, hk.2.1⟩
 | rest =>
  have hf : f = 3 := by
   by_cases e : f = 3
   ·exact e
   ·exact absurd (if_neg e) hne
  exact ⟨hf, h.bw3 hf hk.1⟩
 | gone =>
  have hf : f = 3 := by
   by_cases e : f = 3
   ·exact e
   ·exact absurd (if_neg e) hne
  exact ⟨hf, h.bw3 hf hk.1⟩
 | wait =>
  have hd := hk.2.1
  refine ⟨hd, fun e => h.bw3 e hk.1, fun e => by have := h.bw e; rw [hd] at this; exact this, ?_⟩
  rw [stage_zero]; exact none'
 | read => exact ⟨h.bq hk.1, hk.2.1⟩
 | put v => exact ⟨h.bq hk.1, hk.2.1⟩
 | drop => exact h.bq hk.1
 | later => exact h.bq hk.1
 | empty => exact h.bq hk.1
theorem flq_zero (k : Fl) (d : Nat) : flq (some ⟨tg, 0, d⟩) k = k := by cases tg <;> rfl
theorem QD.begin (h : QD f n G m) (ht : t < n) (hb : BTq f G m t b) (hk : Kq G.val tg b b') (hne : tqCode f tg ≠ []) : QD f n (G.upd t (G.nd t) (G.ls t) b.fl (some ⟨tg, 0, b.d⟩)) m := by
 refine h.rego ht hb.none' rfl rfl h.2.mks (fun _ _ => rfl) rfl rfl rfl (hb.la0 hk hne) hb.kp ?_ (fun c hc => ?_) (fun c hc ha => ?_) (fun hr => ?_)
 ·have h4 := hb.r4
  have hn := hb.nf
  cases tg with
  | put v =>
   obtain ⟨-, -, hv, hr, -⟩ := hk
   exact ⟨⟨hv, h4⟩, hn.2 hr⟩
  | drop => exact ⟨h4, hn.1 hk.2.1⟩
  | later => exact ⟨h4, hn.1 hk.2.1⟩
  | read => exact ⟨⟨h4, hn⟩, fun e => by omega⟩
  | empty => exact ⟨hn, h4⟩
  | _ => exact ⟨h4, hn⟩
 ·refine iff_of_true ?_ (hb.rt c hc)
  cases tg with
  | put v =>
   have := hb.nf.2 hk.2.2.2.1
   rw [this] at hc; cases hc
  | _ => exact trivial
 ·obtain ⟨h1, h2⟩ := hb.an c hc ha
  cases tg with
  | wait =>
   unfold An
   rw [Gq.upd_pt]
   exact stage_zero f
  | empty =>
   have := hk.2.2.1
   rw [h1] at this; cases this
  | _ => exact An.any h2 rfl (fun e => nomatch e) (fun e => nomatch e)
 ·cases tg with
  | read => cases hr
  | _ => exact hr.elim
theorem QD.finish (h : QD f n G m) (ht : t < n) (hb : BTq f G m t b) (hd : b.d = 0) : QD f n (G.upd t (G.nd t) (G.ls t) b.fl none) m := by
 refine h.rego ht hb.none' rfl rfl h.2.mks (fun _ _ => rfl) rfl rfl rfl (fun e => by have := hb.bw e; rw [hd] at this; exact this) hb.kp ⟨hb.r4, hb.nf⟩ (fun c hc => iff_of_true trivial (hb.rt c hc)) (fun c hc ha => ?_) (fun hr => hr.elim)
 unfold An
 rw [Gq.upd_pt, Gq.upd_ls, Gq.upd_fl]
 exact (hb.an c hc ha).2
theorem BTq.skip (hb : BTq f G m t b) (hk : Kq V tg b b') (he : tqCode f tg = []) (hf : 1 <= f /\ f <= 4) : BTq f G m t b' := by
 have hf4 : f = 1 ∨ f = 2 ∨ f = 3 ∨ f = 4 := by omega
 have key : (tg = .enter ∨ tg = .leave) /\ f = 3 ∨ (tg = .rest ∨ tg = .gone) /\ f ≠ 3 := by
  cases tg <;> rcases hf4 with rfl | rfl | rfl | rfl <;> first | exact .inl ⟨.inl rfl, rfl⟩ | exact .inl ⟨.inr rfl, rfl⟩ | exact .inr ⟨.inl rfl, by decide⟩ | exact .inr ⟨.inr rfl, by decide⟩ | (cases he)
 rcases key with ⟨rfl | rfl, rfl⟩ | ⟨rfl | rfl, hf3⟩
 ·obtain ⟨hg, rfl⟩ := hk
  exact ⟨fun _ _ => hb.bw3 rfl hg, fun e => absurd rfl e, hb.none', hb.r4, hb.nf, hb.rt, fun c h1 h2 => ⟨rfl, (hb.an c h1 h2).2⟩, hb.kp⟩
 ·obtain ⟨hg, -, rfl⟩ := hk
  exact ⟨fun _ _ => hb.bw3 rfl hg, fun e => absurd rfl e, hb.none', hb.r4, hb.nf, hb.rt, fun c h1 h2 => ⟨rfl, (hb.an c h1 h2).2⟩, hb.kp⟩
 ·obtain ⟨hg, hd, rfl⟩ := hk
  exact ⟨fun e => absurd e hf3, fun e => by have := hb.bw e; rw [hd] at this; exact this, hb.none', hb.r4, hb.nf, hb.rt, fun c h1 h2 => ⟨rfl, (hb.an c h1 h2).2⟩, hb.kp⟩
 ·obtain ⟨hg, hd, rfl⟩ := hk
  exact ⟨fun e => absurd e hf3, fun e => by have := hb.bw e; rw [hd] at this; exact this, hb.none', hb.r4, hb.nf, hb.rt, fun c h1 h2 => ⟨rfl, (hb.an c h1 h2).2⟩, hb.kp⟩
theorem QD.behind (h : QD f n G m) (ht : t < n) (hp : G.pt t = some ⟨tg, (tqCode f tg).length, b.d⟩) (hfl : G.fl t = flq (some ⟨tg, (tqCode f tg).length, b.d⟩) b.fl) (hne : tqCode f tg ≠ []) (hk : Kq V tg b b') : BTq f G m t b' := by
 have L := la_at h ht hp
 have C := loc_at h ht hp
 have K := h.2.kep t ht
 have hf := h.1.fl
 have hf4 : f = 1 ∨ f = 2 ∨ f = 3 ∨ f = 4 := by omega
 have hno : tg ≠ .wait -> ¬ ∃ u, Olq G t u := h.noold ht hp
 -- what may have been found, where nothing else is said
 have han : tg ≠ .wait -> tg ≠ .empty -> ∀ c, An f G t c -> c ∈ G.ls t ∨ (G.fl t).w = false := fun e1 e2 c ha => by
  unfold An at ha
  rw [hp] at ha
  cases tg with
  | wait => exact absurd rfl e1
  | empty => exact absurd rfl e2
  | _ => exact ha
 cases tg with
 | enter =>
  obtain ⟨h3, L⟩ := L
  have hB : Bq f (t ∈ G.ch) t (b.d + 1) (ovq m t) := by
   rcases hf4 with rfl | rfl | rfl | rfl
   ·exact L
   ·exact L
   ·exact absurd rfl h3
   ·exact L
  obtain ⟨hg, rfl⟩ := hk
  have hfl : G.fl t = b.fl := hfl
  rw [hfl] at C K
  exact ⟨fun e => absurd e h3, fun _ => hB, hno (by decide), C.1, C.2, fun _ _ => by rw [hp]; exact trivial, fun c _ ha => ⟨rfl, by have := han (by decide) (by decide) c ha; rwa [hfl] at this⟩, K⟩
 | leave =>
  obtain ⟨h3, L⟩ := L
  have hB : Bq f (t ∈ G.ch) t (b.d - 1) (ovq m t) := by
   rcases hf4 with rfl | rfl | rfl | rfl
   ·exact L
   ·exact L
   ·exact absurd rfl h3
   ·exact L
  obtain ⟨hg, -, rfl⟩ := hk
  have hfl : G.fl t = b.fl := hfl
  rw [hfl] at C K
  exact ⟨fun e => absurd e h3, fun _ => hB, hno (by decide), C.1, C.2, fun _ _ => by rw [hp]; exact trivial, fun c _ ha => ⟨rfl, by have := han (by decide) (by decide) c ha; rwa [hfl] at this⟩, K⟩
 | rest =>
  obtain ⟨rfl, L⟩ := L
  obtain ⟨hg, -, rfl⟩ := hk
  have hfl : G.fl t = b.fl := hfl
  rw [hfl] at C K
  exact ⟨fun _ _ => L, fun e => absurd rfl e, hno (by decide), C.1, C.2, fun _ _ => by rw [hp]; exact trivial, fun c _ ha => ⟨rfl, by have := han (by decide) (by decide) c ha; rwa [hfl] at this⟩, K⟩
 | gone =>
  obtain ⟨rfl, L⟩ := L
  obtain ⟨hg, -, rfl⟩ := hk
  have hfl : G.fl t = b.fl := hfl
  rw [hfl] at C K
  exact ⟨fun _ e => (nomatch e), fun e => absurd rfl e, hno (by decide), C.1, C.2, fun _ _ => by rw [hp]; exact trivial, fun c _ ha => ⟨rfl, by have := han (by decide) (by decide) c ha; rwa [hfl] at this⟩, K⟩
 | wait =>
  obtain ⟨hd, L3, Ln, Sc⟩ := L
  obtain ⟨hg, -, rfl⟩ := hk
  have hfl : G.fl t = b.fl := hfl
  rw [hfl] at C K
  have hS : ∀ u, ¬ Olq G t u := by
   rcases hf4 with rfl | rfl | rfl | rfl
   ·exact Sc
   ·exact Sc
   ·exact Sc
   ·exact Sc
  refine ⟨fun e _ => ?_, Ln, fun ⟨u, hu⟩ => hS u hu, C.1, C.2, fun _ _ => by rw [hp]; exact trivial, fun c _ ha => ?_, K⟩
  ·subst e; exact L3 rfl
  ·exfalso
   unfold An at ha
   rw [hp] at ha
   have ha : stage f (tqCode f .wait).length = 0 := ha
   rcases hf4 with rfl | rfl | rfl | rfl <;> cases ha
 | read =>
  obtain ⟨hg, -, rfl⟩ := hk
  have hfl : G.fl t = b.fl := hfl
  rw [hfl] at C K
  exact ⟨fun e _ => L.1.1 e, fun _ => L.1, hno (by decide), C.1.1, C.1.2, fun _ _ => by rw [hp]; exact trivial, fun c _ ha => ⟨rfl, by have := han (by decide) (by decide) c ha; rwa [hfl] at this⟩, K⟩
 | put v =>
  obtain ⟨L, hd⟩ := (show Bq f (t ∈ G.ch) t b.d (ovq m t) /\ b.d = 0 from L)
  obtain ⟨hg, -, -, -, rfl⟩ := hk
  have hfl : G.fl t = ⟨true, false, b.fl.k⟩ := hfl
  rw [hfl] at K
  rw [hd] at L
  exact ⟨fun e _ => L.1 e, fun _ => L, hno (fun e => nomatch e), C.1.2, ⟨fun _ => C.2, fun e => nomatch e⟩, fun _ _ => by rw [hp]; exact (by decide : 5 <= 6), fun c _ _ => ⟨rfl, .inr rfl⟩, K⟩
 | drop =>
  have L : Bq f (t ∈ G.ch) t b.d (ovq m t) := L
  obtain ⟨hg, -, -, rfl⟩ := hk
  have hfl : G.fl t = b.fl := hfl
  rw [hfl] at K
  have hn : G.nd t = none := C.2
  exact ⟨fun e _ => L.1 e, fun _ => L, hno (by decide), C.1, ⟨fun e => (nomatch e), fun _ => hn⟩, fun _ _ => by rw [hp]; exact trivial, fun c _ ha => ⟨rfl, by have := han (by decide) (by decide) c ha; rwa [hfl] at this⟩, K⟩
 | later =>
  have L : Bq f (t ∈ G.ch) t b.d (ovq m t) := L
  obtain ⟨hg, -, rfl⟩ := hk
  have hfl : G.fl t = ⟨b.fl.r, b.fl.w, true⟩ := hfl
  have hn : G.nd t = none := C.2
  exact ⟨fun e _ => L.1 e, fun _ => L, hno (by decide), C.1, ⟨fun e => (nomatch e), fun _ => hn⟩, fun _ _ => by rw [hp]; exact trivial, fun c _ ha => ⟨rfl, by have := han (by decide) (by decide) c ha; rwa [hfl] at this⟩, fun e => nomatch e⟩
 | empty =>
  have L : Bq f (t ∈ G.ch) t b.d (ovq m t) := L
  obtain ⟨hg, hd, -, rfl⟩ := hk
  have hfl : G.fl t = b.fl := hfl
  rw [hfl] at C
  rw [hd] at L
  obtain ⟨C1, C2, C3⟩ := C
  exact ⟨fun e _ => L.1 e, fun _ => L, hno (by decide), C2, C1, fun _ _ => by rw [hp]; exact trivial, fun c _ ha => (ha.emp hp).elim, fun _ => C3⟩
theorem QD.hops (h : QD f n G m) (ht : t < n) {L : List Ins} : ∀ (B : List Tq) (a : Nat) (b : Bk), BTq f G m t b -> DiscQ G.val e b B -> PsAt f L a B -> ∃ k g, QD f n (G.upd t (G.nd t) (G.ls t) k g) m /\ LocQ f G.val e L a k g
 | [], a, b, hb, hd, hp => ⟨b.fl, none, h.finish ht hb hd.1, hp, hd.2⟩
 | tg :: B, a, b, hb, hd, hp => by
  obtain ⟨h100, b', hk, hd'⟩ := hd
  by_cases he : tqCode f tg = []
  ·have hp' : PsAt f L a B := by
    have := hp.2
    rwa [he] at this
   exact QD.hops h ht B a b' (hb.skip hk he h.1.fl) hd' hp'
  ·exact ⟨b.fl, some ⟨tg, 0, b.d⟩, h.begin ht hb hk he, a, B, b, b', hp.1, rfl, List.length_pos_iff.2 he, hk, rfl, h100, (flq_zero _ _).symm, hd', hp.2⟩
end
end
section
open Go.RowKit
theorem hExec_pc (m : Mk) (t : Nat) (tg : Tq) (q : Nat) (i : GI) : (hExec m t tg q i).pc = m.pc := by
 unfold hExec
 split
 ·unfold Mk.mark; split <;> rfl
 ·exact gExec_pc m t i
theorem tq_ok {f : Nat} (hf : 1 <= f /\ f <= 4) (tg : Tq) : gOk (tqCode f tg) = true := by
 have hf4 : f = 1 ∨ f = 2 ∨ f = 3 ∨ f = 4 := by omega
 rcases hf4 with rfl | rfl | rfl | rfl <;> cases tg <;> rfl
def GoodQ (f n : Nat) (V : Int -> Prop) (ends : Nat -> Fl) (cs : Nat -> List Ins) (m : Mk) : Prop := ∃ G, QD f n G m /\ G.val = V /\ ∀ t, t < n -> LocQ f V (ends t) (cs t) (m.pc t) (G.fl t) (G.pt t)
section
variable {f n : Nat} {V : Int -> Prop} {ends : Nat -> Fl} {cs : Nat -> List Ins} {m : Mk} {t : Nat}
theorem GoodQ.step (h : GoodQ f n V ends cs m) (hwd : ∀ c k, Wd (m.mem.ar.words c k)) (ht : t < n) (hd : doneAt (cs t) (m.pc t) = false) : GoodQ f n V ends cs (m.step (cs t) t) := by
 obtain ⟨G, hP, rfl, hL⟩ := h
 have hl := hL t ht
 cases hg : G.pt t with
 | none =>
  rw [hg] at hl
  rw [hl.1] at hd; cases hd
 | some p =>
  obtain ⟨tg, q, d⟩ := p
  rw [hg] at hl
  obtain ⟨a, B, b, b', hat, hpc, hq, hk, rfl, h100, hfl, hdisc, hps⟩ := hl
  obtain ⟨i, hi⟩ : ∃ i, (tqCode f tg)[q]? = some i := ⟨_, List.getElem?_eq_getElem hq⟩
  have hok := tq_ok hP.1.fl tg
  obtain ⟨-, hst⟩ := hat q i hi m t hpc
  rw [hst]
  generalize hm1 : m.setPc t (a + gNext (tqCode f tg) q (m.regs t) i) = m1
  have hP1 : QD f n G m1 := hP.congr (by rw [<- hm1]; rfl) (by rw [<- hm1]; rfl) (by rw [<- hm1]; rfl) (by rw [<- hm1]; rfl)
  have hr1 : m1.regs t = m.regs t := by rw [<- hm1]; rfl
  have hpc1 : ∀ u, m1.pc u = if u = t then a + gNext (tqCode f tg) q (m.regs t) i else m.pc u := fun u => by rw [<- hm1]; rfl
  obtain ⟨G', hG', hpt, hot, -, hv, hfo, hft⟩ := qown_all hP1 (by rw [<- hm1]; exact hwd) ht h100 (fun e => by subst e; rw [hfl]; exact hk.2.2.1) hg hi
  rw [hr1] at hpt hft
  have hq' := gNext_le (m.regs t) hok hi
  have hpcs : ∀ u, (hExec m1 t tg q i).pc u = if u = t then a + gNext (tqCode f tg) q (m.regs t) i else m.pc u := fun u => by rw [hExec_pc]; exact hpc1 u
  have hfl2 : G'.fl t = flq (some ⟨tg, gNext (tqCode f tg) q (m.regs t) i, b.d⟩) b.fl := by
   rw [hft, hfl]
   generalize hk1 : b.fl = k1
   cases tg with
   | put v =>
    have hq6 : q < 6 := hq
    by_cases h5 : 5 <= q
    ·have : q = 5 := by omega
     subst this
     have e : GI.label 0 = i := Option.some.inj hi
     subst e; rfl
    ·rw [show flq (some ⟨.put v, q, b.d⟩) k1 = k1 from if_neg h5]
   | later =>
    have hq6 : q < 4 := hq
    by_cases h5 : 3 <= q
    ·have : q = 3 := by omega
     subst this
     have e : GI.label 0 = i := Option.some.inj hi
     subst e; rfl
    ·rw [show flq (some ⟨.later, q, b.d⟩) k1 = k1 from if_neg h5]
   | _ => rfl
  generalize gNext (tqCode f tg) q (m.regs t) i = q' at *
  generalize hExec m1 t tg q i = m2 at *
  have hothers : ∀ (G2 : Gq), (∀ u, u ≠ t -> G2.pt u = G'.pt u /\ G2.fl u = G'.fl u) -> ∀ u, u < n -> u ≠ t -> LocQ f G.val (ends u) (cs u) (m2.pc u) (G2.fl u) (G2.pt u) := fun G2 h2 u hu e => by
   rw [(h2 u e).1, (h2 u e).2, hot u e, hfo u e, hpcs u, if_neg e]; exact hL u hu
  by_cases hlt : q' < (tqCode f tg).length
  ·refine ⟨G', hG', hv, fun u hu => ?_⟩
   by_cases e : u = t
   ·subst e
    rw [hpt, hpcs u, if_pos rfl]
    exact ⟨a, B, b, b', hat, rfl, hlt, hk, rfl, h100, hfl2, hdisc, hps⟩
   ·exact hothers G' (fun _ _ => ⟨rfl, rfl⟩) u hu e
  ·have e : q' = (tqCode f tg).length := by omega
   subst e
   have hne : tqCode f tg ≠ [] := fun e => by rw [e] at hq; exact absurd hq (Nat.not_lt_zero _)
   have hb := hG'.behind ht hpt hfl2 hne hk
   obtain ⟨k, g, hg1, hg2⟩ := hG'.hops (e := ends t) ht (L := cs t) B (a + (tqCode f tg).length) b' hb (by rw [hv]; exact hdisc) hps
   refine ⟨_, hg1, hv, fun u hu => ?_⟩
   by_cases e : u = t
   ·subst e
    rw [Gq.upd_pt, Gq.upd_fl, hpcs u, if_pos rfl]
    rw [hv] at hg2
    exact hg2
   ·exact hothers _ (fun u hu => ⟨Gq.upd_ptn hu, Gq.upd_fln hu⟩) u hu e
theorem GoodQ.drain1 (h : GoodQ f n V ends cs m) (ht : t < n) : GoodQ f n V ends cs (m.drain1 t) := by
 obtain ⟨G, hP, hv, hL⟩ := h
 exact ⟨G, hP.drain1 ht, hv, fun u hu => by rw [(drain1_regs m t).2]; exact hL u hu⟩
theorem GoodQ.turnO {Cs : List (List Ins)} {K : Nat} (h : GoodQ f n V ends cs m) (ok : MkOk Cs.length K m) (hn : Cs.length = n) (hcs : ∀ t, t < n -> Cs[t]? = some (cs t)) (k : Int) : GoodQ f n V ends cs (m.turnO Cs k).2 := by
 unfold Mk.turnO
 split
 ·generalize k % (2 * (Cs.length : Int)) = x
  unfold Mk.stepO
  split
  ·rename_i hx
   have ht : x.toNat < n := by omega
   have e : Cs.getD x.toNat [] = cs x.toNat := by rw [List.getD_eq_getElem?_getD, hcs _ ht]; rfl
   rw [e]
   split
   ·exact h
   ·rename_i hd
    exact h.step ok.mem.words ht (by simpa using hd)
  ·exact h
 ·generalize k % (2 * (Cs.length : Int)) - Cs.length = x
  unfold Mk.drainO
  split
  ·rename_i hx
   have ht : x.toNat < n := by omega
   split
   ·exact h
   ·exact h.drain1 ht
  ·exact h
theorem GoodQ.runO {Cs : List (List Ins)} (hR : Right Cs) (hn : Cs.length = n) (hcs : ∀ t, t < n -> Cs[t]? = some (cs t)) : ∀ (l : List Int) {K : Nat} {m : Mk}, GoodQ f n V ends cs m -> MkOk Cs.length K m -> K + l.length <= 60000000 -> GoodQ f n V ends cs (m.runO Cs l).2
 | [], _, _, h, _, _ => h
 | k :: l, K, m, h, ok, hK => by
  rw [List.length_cons] at hK
  exact GoodQ.runO hR hn hcs l (h.turnO ok hn hcs k) (ok.turnO hR k (by omega)) (by omega)
theorem GoodQ.faults (h : GoodQ f n V ends cs m) : m.faults = 0 := by
 obtain ⟨G, hP, -⟩ := h
 exact hP.2.ok
theorem GoodQ.marks (h : GoodQ f n V ends cs m) : ∀ x ∈ m.marks, V x.2 := by
 obtain ⟨G, hP, rfl, -⟩ := h
 exact hP.2.mks
end
end
section
open Go.RowKit Go.Extern.Stop Go.Stop Go.Extern Go.Maps Go.WideMaps Go.Sort
def clGone : ByteArray := ⟨#[103, 111, 110, 101]⟩
theorem clGone_name : isName clGone := nameB_is (by decide +kernel)
theorem ggone_len (f : Nat) (hf : 1 <= f /\ f <= 4) : (gCode clGone (gGone f)).length <= 100 := by
 unfold gCode
 rw [List.length_map]
 have : f = 1 ∨ f = 2 ∨ f = 3 ∨ f = 4 := by omega
 rcases this with rfl | rfl | rfl | rfl <;> decide
theorem pad4_len : ∀ l : List Int, (pad4 l).length = 4 := fun l => by
 have : ∀ (l : List Int) (o : Nat) (r : List Int), (layTo r o l).length = r.length := fun l => by
  induction l with
  | nil => intro o r; rfl
  | cons x l ih =>
   intro o r
   show (layTo (r.set o x) (o + 1) l).length = _
   rw [ih, List.length_set]
 unfold pad4
 rw [this]
 rfl
def clC (f : Nat) (L : List OpI) : List Ins := thC f (gCode clGone (gGone f)) L
theorem graceI_len (f : Nat) (I : List (List Int)) (n : Nat) : (graceI f I n).length = I.length + 1 + n := by
 unfold graceI
 split
 ·exact graceJ_len _ _ _
 ·rw [linked_length, graceJ_len]
theorem graceI_rows {f n : Nat} {I : List (List Int)} (h : ∀ row ∈ I, row.length = 4) : ∀ row ∈ graceI f I n, row.length = 4 := by
 have hj : ∀ row ∈ graceJ f I n, row.length = 4 := fun row hr => by
  unfold graceJ at hr
  simp only [List.mem_append, List.mem_singleton] at hr
  rcases hr with (hr | rfl) | hr
  ·exact h row hr
  ·rfl
  ·rw [List.eq_of_mem_replicate hr]; rfl
 unfold graceI
 split
 ·exact hj
 ·exact linked_rows hj n
theorem rowsG_rows {m n k : Nat} : ∀ row ∈ rowsG m n k, row.length = 8 := fun row hr => by
 unfold rowsG at hr
 obtain ⟨t, -, rfl⟩ := List.mem_map.1 hr
 split <;> rfl
theorem tbuild_ok {f : Nat} (hf : 1 <= f /\ f <= 4) {ad : Option Addr} {cl : List (List OpI)} {cap : Nat} {w : World} (ho : opRowsAt ad cl w) (hk : kindsOk cl) (hn : cl.length <= 6) {ac : Option Addr} {cells : List (List Int)} {capc : Nat} (hc : cellsAt ac cells w) (h0 : 0 < cells.length) (hl : cells.length <= 20) :
  Calls Tryz.prog 39 #[.int .i64 f, .slice ad cl.length cap, .func (.func 40) #[.int .i64 f] #[], .slice ac cells.length capc] w fun e w' => ∃ base sb iv vs rv rs vc ks B, e = .returned (.tuple #[.agg #[.int .i64 64, iv, rv], vc, .nilIface]) /\ TW base sb w' [] iv vs (graceI f (cells.map pad4) cl.length) rv rs (rowsG cells.length cl.length cl.length) w' /\ KP B w' vc ks (cl.map (clC f)) w' /\ w.heap.size < base /\ w.heap.size < B /\ Below w.heap.size w w' := by
 have HOP := hide ho
 have HB0 : Hid (Below w.heap.size w (w.alloc (.cells #[.int .i64 0, .slice none 0 0, .slice none 0 0] 38))) := hide (bRf.alloc nL _)
 have HRC : Hid ((∀ o, (w.alloc (.cells #[.int .i64 0, .slice none 0 0, .slice none 0 0] 38)).cell? ⟨w.heap.size, o, none⟩ = (#[.int .i64 0, .slice none 0 0, .slice none 0 0] : Array Value)[o]?) /\ (∀ o, (w.alloc (.cells #[.int .i64 0, .slice none 0 0, .slice none 0 0] 38)).frozen? ⟨w.heap.size, o, none⟩ = false) /\ w.heap.size < (w.alloc (.cells #[.int .i64 0, .slice none 0 0, .slice none 0 0] 38)).heap.size) := hide ⟨fun o => World.cell?_alloc_new _ _ _ _, fun o => World.frozen?_alloc_new _ _ _ _, by simp⟩
 have HBE := hide (begin_ok (cap := capc) hn (hc.below HB0.out) h0 hl)
 have HGR := hide (fun (base sb : Nat) (w1 : World) (rv : Value) (rs : List Value) (w : World) (h : TAt base sb w1 rv rs (cells.map pad4) (List.replicate cl.length (regRow cells.length)) w) => grace_ok h hf (List.length_map _) hl hn (fun row hr => by
  obtain ⟨x, -, rfl⟩ := List.mem_map.1 hr
  exact pad4_len x))
 have HGO := hide (fun w => gone_ok hf clGone_name (by decide) w)
 have HWI := hide (fun (base sb : Nat) (w1 : World) (rv : Value) (rs : List Value) (W : World) (h : TAt base sb w1 rv rs (graceI f (cells.map pad4) cl.length) (rowsG cells.length cl.length cl.length) W) (hb : Below w.heap.size w W) (vg : Value) (b3 : Nat) (hg : insOwn W b3 vg (gCode clGone (gGone f))) => with_ok (cap := cap) hf h (ho.below hb) hk hn hg (ggone_len f hf))
 have HIL : Hid ((graceI f (cells.map pad4) cl.length).length <= 100) := hide (by rw [graceI_len, List.length_map]; omega)
 have HIR : Hid (∀ row ∈ graceI f (cells.map pad4) cl.length, row.length <= 100) := hide fun row hr => by
  rw [graceI_rows (fun row hr => by obtain ⟨x, -, rfl⟩ := List.mem_map.1 hr; exact pad4_len x) row hr]; decide
 have HRR : Hid (∀ row ∈ rowsG cells.length cl.length cl.length, row.length <= 100) := hide fun row hr => by
  rw [rowsG_rows row hr]; decide
 have HRL : Hid ((rowsG cells.length cl.length cl.length).length = cl.length) := hide (rowsG_len _ _ _)
 have HMC : Hid ((cl.map (clC f)).length = cl.length) := hide (List.length_map _)
 generalize hII : graceI f (cells.map pad4) cl.length = II at *
 generalize hRR : rowsG cells.length cl.length cl.length = RR at *
 generalize hfi : (f : Int) = fi at *
 clear hfi hf ho hc hk
 go_enter Tryz.func39, Tryz.ntmps39
 go_wp2_with fail
 refine HBE.out.mono ?_
 rintro e w2 ⟨sb, rv, rs, rfl, h2⟩
 have HG2 := hide (HGR.out _ _ _ _ _ _ h2)
 clear h2 HBE HGR
 go_wp2_with fail
 refine HG2.out.mono ?_
 rintro e w3 ⟨rfl, h3⟩
 have H3 := hide h3
 clear h3 HG2
 go_wp2_with fail
 refine (HGO.out _).mono ?_
 rintro e w4 ⟨vg, rfl, hg, hb4⟩
 have H4 := hide (H3.out.below hb4)
 have HBW := hide (below_step HB0.out (H4.out.low))
 have HW4 := hide (HWI.out _ _ _ _ _ _ H4.out HBW.out vg _ hg)
 obtain ⟨xg, cg, eg, -⟩ := ownsRow_shape hg
 subst eg
 clear hg hb4 H3 HWI HGO
 go_wp2_with fail
 refine HW4.out.mono ?_
 rintro e w5 ⟨iv, vs, vc, ks, B, rfl, hT5, hK5, hB5, hb5⟩
 have hlow := below_step H4.out.low hb5
 have HB6 := hide (below_step HBW.out hb5)
 obtain ⟨ai, ci, eiv, -⟩ := ownsRow_shape hT5.oi
 obtain ⟨ar, cr, erv, -⟩ := ownsRow_shape hT5.or'
 rw [HRL.out] at erv
 obtain ⟨ax, cx, evc, hcx⟩ := hK5.codes
 have hmc : (cl.map (thC f (gCode clGone (gGone f)))).length = cl.length := List.length_map _
 rw [hmc] at evc
 subst eiv
 subst erv
 subst evc
 obtain ⟨q1, q2, q3⟩ := HRC.out
 have b0 := keep_cell hlow ((q1 0).trans (show _ = some (.int .i64 0) from rfl))
 have b1 := keep_cell hlow ((q1 1).trans (show _ = some (.slice none 0 0) from rfl))
 have b2 := keep_cell hlow ((q1 2).trans (show _ = some (.slice none 0 0) from rfl))
 have z0 := (hlow.frozen (show (⟨w.heap.size, 0, none⟩ : Addr).block < _ from q3)).trans (q2 0)
 have z1 := (hlow.frozen (show (⟨w.heap.size, 1, none⟩ : Addr).block < _ from q3)).trans (q2 1)
 have z2 := (hlow.frozen (show (⟨w.heap.size, 2, none⟩ : Addr).block < _ from q3)).trans (q2 2)
 have hw4 : w.heap.size < B := by have := HBW.out.size; have := H4.out.low.size; omega
 have HB9 : Hid (Below w.heap.size w (((w5.setCell ⟨w.heap.size, 0, none⟩ (.int .i64 64)).setCell ⟨w.heap.size, 1, none⟩ (.slice ai II.length ci)).setCell ⟨w.heap.size, 2, none⟩ (.slice ar cl.length cr))) := hide (((HB6.out.setCell nL _).setCell nL _).setCell nL _)
 have HS9 : Hid (TW _ sb (((w5.setCell ⟨w.heap.size, 0, none⟩ (.int .i64 64)).setCell ⟨w.heap.size, 1, none⟩ (.slice ai II.length ci)).setCell ⟨w.heap.size, 2, none⟩ (.slice ar cl.length cr)) [] (.slice ai II.length ci) vs II (.slice ar cl.length cr) rs RR (((w5.setCell ⟨w.heap.size, 0, none⟩ (.int .i64 64)).setCell ⟨w.heap.size, 1, none⟩ (.slice ai II.length ci)).setCell ⟨w.heap.size, 2, none⟩ (.slice ar cl.length cr))) := hide
  (((hT5.out q3 0 (.int .i64 64) rfl).out q3 1 (.slice ai II.length ci) rfl).out q3 2 (.slice ar cl.length cr) rfl)
 have HK9 : Hid (KP B (((w5.setCell ⟨w.heap.size, 0, none⟩ (.int .i64 64)).setCell ⟨w.heap.size, 1, none⟩ (.slice ai II.length ci)).setCell ⟨w.heap.size, 2, none⟩ (.slice ar cl.length cr)) (.slice ax cl.length cx) ks (cl.map (clC f)) (((w5.setCell ⟨w.heap.size, 0, none⟩ (.int .i64 64)).setCell ⟨w.heap.size, 1, none⟩ (.slice ai II.length ci)).setCell ⟨w.heap.size, 2, none⟩ (.slice ar cl.length cr))) := hide
  (((hK5.out hw4 0 (.int .i64 64)).out hw4 1 (.slice ai II.length ci)).out hw4 2 (.slice ar cl.length cr))
 have HE9 : Hid ((((w5.setCell ⟨w.heap.size, 0, none⟩ (.int .i64 64)).setCell ⟨w.heap.size, 1, none⟩ (.slice ai II.length ci)).setCell ⟨w.heap.size, 2, none⟩ (.slice ar cl.length cr)).cell? ⟨w.heap.size, 0, none⟩ = some (.int .i64 64) /\ (((w5.setCell ⟨w.heap.size, 0, none⟩ (.int .i64 64)).setCell ⟨w.heap.size, 1, none⟩ (.slice ai II.length ci)).setCell ⟨w.heap.size, 2, none⟩ (.slice ar cl.length cr)).cell? ⟨w.heap.size, 1, none⟩ = some (.slice ai II.length ci) /\ (((w5.setCell ⟨w.heap.size, 0, none⟩ (.int .i64 64)).setCell ⟨w.heap.size, 1, none⟩ (.slice ai II.length ci)).setCell ⟨w.heap.size, 2, none⟩ (.slice ar cl.length cr)).cell? ⟨w.heap.size, 2, none⟩ = some (.slice ar cl.length cr)) := hide (by
  have x0 : (w5.setCell ⟨w.heap.size, 0, none⟩ (.int .i64 64)).cell? ⟨w.heap.size, 0, none⟩ = some (.int .i64 64) := World.cell?_setCell_same _ _ _ b0
  have x1 : ((w5.setCell ⟨w.heap.size, 0, none⟩ (.int .i64 64)).setCell ⟨w.heap.size, 1, none⟩ (.slice ai II.length ci)).cell? ⟨w.heap.size, 1, none⟩ = some (.slice ai II.length ci) := World.cell?_setCell_same _ _ _ (cell_ne b1 (.inr (by decide)))
  have x2 : (((w5.setCell ⟨w.heap.size, 0, none⟩ (.int .i64 64)).setCell ⟨w.heap.size, 1, none⟩ (.slice ai II.length ci)).setCell ⟨w.heap.size, 2, none⟩ (.slice ar cl.length cr)).cell? ⟨w.heap.size, 2, none⟩ = some (.slice ar cl.length cr) := World.cell?_setCell_same _ _ _ (cell_ne (cell_ne b2 (.inr (by decide))) (.inr (by decide)))
  exact ⟨cell_ne (cell_ne x0 (.inr (by decide))) (.inr (by decide)), cell_ne x1 (.inr (by decide)), x2⟩)
 have HQ3 := hide q3
 have HQ4 := hide hw4
 clear hT5 hK5 hb5 hlow H4 HW4 hcx q1 q2 q3 hw4 HRC
 go_wp2_with fail
 obtain ⟨e0, e1, e2⟩ := HE9.out
 have hBf := HB9.out
 have hst := HS9.out
 have hco := HK9.out
 generalize (((w5.setCell ⟨w.heap.size, 0, none⟩ (.int .i64 64)).setCell ⟨w.heap.size, 1, none⟩ (.slice ai II.length ci)).setCell ⟨w.heap.size, 2, none⟩ (.slice ar cl.length cr)) = W9 at *
 refine bodyPost_ret (v := .tuple #[.agg #[.int .i64 64, .slice ai II.length ci, .slice ar cl.length cr], .slice ax cl.length cx, .nilIface]) (by rw [results_cell_tmp2 (show Tryz.f39.results = _ from rfl)]; go_simp) rfl ?_
 exact ⟨_, sb, _, vs, _, rs, _, ks, B, rfl, hst, hco, HQ3.out, HQ4.out, hBf⟩
end
end Go.Proofs.YtaiigfcfmcicjaaGreatDoor
