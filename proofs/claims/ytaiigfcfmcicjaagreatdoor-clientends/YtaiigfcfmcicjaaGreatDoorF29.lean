import Derived.Test.YtaiigfcfmcicjaaGreatDoorF28
namespace Go.Proofs.YtaiigfcfmcicjaaGreatDoor
set_option maxRecDepth 100000
set_option maxHeartbeats 8000000
section
open Go.RowKit
def sm : Nat -> (Nat -> Nat) -> Nat
 | 0, _ => 0
 | n + 1, F => sm n F + F n
theorem sm_same {F H : Nat -> Nat} : ∀ {n : Nat}, (∀ u, u < n -> F u = H u) -> sm n F = sm n H
 | 0, _ => rfl
 | n + 1, h => by
  show sm n F + F n = sm n H + H n
  rw [sm_same fun u hu => h u (Nat.lt_succ_of_lt hu), h n (Nat.lt_succ_self n)]
theorem sm_one {F H : Nat -> Nat} {a b : Nat} : ∀ {n : Nat} (t : Nat), t < n -> (∀ u, u < n -> u ≠ t -> F u = H u) -> F t + a = H t + b -> sm n F + a = sm n H + b
 | 0, _, h, _, _ => absurd h (Nat.not_lt_zero _)
 | n + 1, t, ht, h, h1 => by
  show sm n F + F n + a = sm n H + H n + b
  by_cases e : t = n
  ·subst e
   rw [sm_same (n := t) fun u hu => h u (Nat.lt_succ_of_lt hu) (by omega)]
   omega
  ·have h2 := sm_one (n := n) t (by omega) (fun u hu hut => h u (Nat.lt_succ_of_lt hu) hut) h1
   have h3 := h n (Nat.lt_succ_self n) (fun e2 => e e2.symm)
   omega
def wl : GI -> Nat
 | .store .. => 1
 | _ => 0
def lv : GI -> Nat
 | .alloc _ => 6
 | _ => 0
theorem gw_is (i : GI) : gw i = 1 + wl i + lv i := by cases i <;> rfl
theorem gExec_wlen2 (m : Mk) (t u : Nat) (i : GI) : ((gExec m t i).mem.waits u).length <= (m.mem.waits u).length + (if u = t then wl i else 0) := by
 have h := gExec_wlen m t u i
 have hg := gw_is i
 by_cases e : lv i = 0
 ·split at h <;> rename_i h1
  ·rw [if_pos h1]; omega
  ·rw [if_neg h1]; omega
 ·cases i with
  | alloc r =>
   have h2 : ((gExec m t (.alloc r)).mem.waits u).length <= (m.mem.waits u).length := by
    show ((m.alloc _ _).mem.waits u).length <= _
    unfold Mk.alloc
    split <;> exact Nat.le_refl _
   omega
  | _ => exact absurd rfl e
theorem gExec_liv2 (m : Mk) (t : Nat) (i : GI) : 6 * liv (gExec m t i) <= 6 * liv m + lv i := by
 have hw : wl i = 0 ∨ wl i = 1 /\ lv i = 0 := by cases i <;> first | exact .inl rfl | exact .inr ⟨rfl, rfl⟩
 by_cases hf : ∃ r, i = .free r
 ·obtain ⟨r, rfl⟩ := hf
  have := free_le m t (m.regs t r)
  show 6 * liv (m.free t (m.regs t r)) <= 6 * liv m + 0
  omega
 ·have h := gExec_liv m t i (fun r e => hf ⟨r, e⟩)
  have hg := gw_is i
  omega
theorem hExec_as {f : Nat} {tg : Tq} {q : Nat} {i : GI} (hi : (tqCode f tg)[q]? = some i) (m : Mk) (t : Nat) : (hExec m t tg q i).mem = (gExec m t i).mem /\ (hExec m t tg q i).regs = (gExec m t i).regs := by
 unfold hExec
 split
 ·rename_i e
  obtain ⟨rfl, rfl⟩ := e
  have e : GI.label 9 = i := Option.some.inj hi
  subst e
  unfold Mk.mark
  split <;> exact ⟨rfl, rfl⟩
 ·exact ⟨rfl, rfl⟩
theorem hExec_marks (m : Mk) (t : Nat) (tg : Tq) (q : Nat) (i : GI) (h : m.marks.length < 500) : (hExec m t tg q i).marks.length = m.marks.length + if tg = .read /\ q = 3 then 1 else 0 := by
 unfold hExec
 split
 ·unfold Mk.mark
  rw [if_pos h]
  show (m.marks ++ [_]).length = _
  rw [List.length_append]
  rfl
 ·rw [gExec_marks]; rfl
theorem Lx_zero {f : Nat} {C : List Nat} {r : Nat -> Int} (tg : Tq) (d : Nat) : Lx f C r (some ⟨tg, 0, d⟩) := by
 cases tg with
 | enter => exact fun _ h => absurd h (by decide)
 | wait =>
  show match stageq f 0 with
   | 7 => _
   | 8 => _
   | 9 => _
   | 10 => _
   | 11 => _
   | 12 => _
   | 13 => _
   | 14 => _
   | _ => True
  rw [stageq_zero]
  exact trivial
 | _ => exact trivial
def rdT (tg : Tq) : Nat := if tg = .read then 1 else 0
def rdB : List Tq -> Nat
 | [] => 0
 | tg :: l => rdT tg + rdB l
def rdP : Option Pq -> Nat
 | none => 0
 | some p => rdT p.tg
def LocR (f : Nat) (V : Int -> Prop) (e : Fl) (L : List Ins) (pc : Nat) (fl : Fl) (B : List Tq) : Option Pq -> Prop
 | none => (doneAt L pc = true /\ fl = e) /\ B = []
 | some ⟨tg, q, d⟩ => ∃ a b b', PqAt f L a tg /\ pc = a + q /\ q < (tqCode f tg).length /\ Kq V tg b b' /\ b.d = d /\ d <= 100 /\ fl = flq (some ⟨tg, q, d⟩) b.fl /\ DiscQ V e b' B /\ PsAt f L (a + (tqCode f tg).length) B /\ (f = 3 -> (tg :: B).getLast? = some .gone)
section
variable {f n : Nat} {G : Gq} {m : Mk} {t : Nat} {e : Fl}
theorem QD.hops2 (h : QD f n G m) (ht : t < n) {L : List Ins} : ∀ (B : List Tq) (a : Nat) (b : Bk), BTq f G m t b -> DiscQ G.val e b B -> PsAt f L a B -> (f = 3 -> B ≠ [] -> B.getLast? = some .gone) -> (f = 3 -> B = [] -> shq m t = 0) ->
  ∃ k g B', QD f n (G.upd t (G.nd t) (G.ls t) k g) m /\ LocR f G.val e L a k B' g /\ (f = 3 -> g = none -> shq m t = 0) /\ (∀ C r, Lx f C r g) /\ (∀ C r ph, rkT f n C t r ph g + csts f n B' <= csts f n B) /\ rdP g + rdB B' = rdB B
 | [], a, b, hb, hd, hp, _, h0 => ⟨b.fl, none, [], h.finish ht hb hd.1, ⟨⟨hp, hd.2⟩, rfl⟩, fun h3 _ => h0 h3 rfl, fun _ _ => trivial, fun _ _ _ => Nat.le_refl _, rfl⟩
 | tg :: B, a, b, hb, hd, hp, hl, _ => by
  obtain ⟨h100, b', hk, hd'⟩ := hd
  by_cases he : tqCode f tg = []
  ·have hp' : PsAt f L a B := by
    have := hp.2
    rwa [he] at this
   have hl2 : f = 3 -> B ≠ [] /\ B.getLast? = some .gone := fun h3 => by
    have h5 := hl h3 (by simp)
    cases B with
    | nil =>
     exfalso
     have h5 : tg = .gone := by simpa using h5
     subst h5 h3
     cases he
    | cons y B =>
     refine ⟨by simp, ?_⟩
     rwa [List.getLast?_cons_cons] at h5
   have hr : rdT tg = 0 := by
    unfold rdT
    split
    ·rename_i e2; subst e2; cases he
    ·rfl
   obtain ⟨k, g, B', h1, h2, hz, h3, h4, h5⟩ := QD.hops2 h ht B a b' (hb.skip hk he h.1.fl) hd' hp' (fun e _ => (hl2 e).2) (fun e e2 => absurd e2 (hl2 e).1)
   exact ⟨k, g, B', h1, h2, hz, h3, fun C r ph => Nat.le_trans (h4 C r ph) (Nat.le_add_left _ _), by rw [h5]; show _ = rdT tg + _; omega⟩
  ·exact ⟨b.fl, some ⟨tg, 0, b.d⟩, B, h.begin ht hb hk he, ⟨a, b, b', hp.1, rfl, List.length_pos_iff.2 he, hk, rfl, h100, (flq_zero _ _).symm, hd', hp.2, fun e => hl e (by simp)⟩, fun _ e => (by cases e), fun _ _ => Lx_zero tg b.d, fun C r ph => Nat.add_le_add_right (rk_begin h.1.fl C t r ph tg b.d) _, rfl⟩
theorem empty_rank {q : Nat} {i : GI} (hi : (tqCode f .empty)[q]? = some i) (r : Nat -> Int) : rkM (gNext (tqCode f .empty) q r i) + gw i <= rkM q + if q = 3 then 6 else 0 := by
 match q, hi with
 | 0, hi => have e := Option.some.inj hi; subst e; exact (by decide : 4 + 1 <= 5 + 0)
 | 1, hi =>
  have e := Option.some.inj hi; subst e
  show rkM (if r 4 = 0 then 6 else 2) + 1 <= 4 + 0
  split <;> decide
 | 2, hi => have e := Option.some.inj hi; subst e; exact (by decide : 2 + 1 <= 3 + 0)
 | 3, hi => have e := Option.some.inj hi; subst e; exact (by decide : 7 + 1 <= 2 + 6)
 | 4, hi => have e := Option.some.inj hi; subst e; exact (by decide : 6 + 1 <= 7 + 0)
 | 5, hi => have e := Option.some.inj hi; subst e; exact (by decide : 5 + 1 <= 6 + 0)
 | 6, hi => have e := Option.some.inj hi; subst e; exact (by decide : 0 + 1 <= 1 + 0)
 | k + 7, hi => exact nomatch (show (none : Option GI) = some _ from hi)
theorem QD.empty_liv (h : QD f n G m) (ht : t < n) {d : Nat} {i : GI} (hp : G.pt t = some ⟨.empty, 3, d⟩) (hi : (tqCode f .empty)[3]? = some i) : liv (gExec m t i) + 1 = liv m := by
 have e : GI.free 4 = i := Option.some.inj hi
 subst e
 obtain ⟨-, h4, c, l, hl, -⟩ := loc_at h ht hp
 rw [hl] at h4
 show liv (m.free t (m.regs t 4)) + 1 = liv m
 rw [h4]
 exact free_liv (h.2.dc ht (by unfold ow; rw [hl]; exact List.mem_append_right _ List.mem_cons_self)).2.1
end
end
section
open Go.RowKit
theorem keepU (m : Mk) (t : Nat) (i : GI) {u : Nat} (h : u ≠ t) : (gExec m t i).regs u = m.regs u := by
 have key : ∀ (m : Mk) (r : Nat) (v : Int), (m.setReg t r v).regs u = m.regs u := fun m r v => setReg_other _ _ _ _ h
 cases i with
 | load r a k => show (m.load _ _ _ _).regs u = _; unfold Mk.load; split <;> exact key _ _ _
 | const r v => exact key _ _ _
 | move r a => exact key _ _ _
 | add r a b => exact key _ _ _
 | sub r a b => exact key _ _ _
 | store a r k =>
  show (m.store _ _ _ _).regs u = _
  unfold Mk.store
  split
  ·rw [show ((m.room t).put t (m.regs t a) k (m.regs t r)).regs = (m.room t).regs from rfl, (room_regs m t).1]
  ·rfl
 | swap r a k => show (m.swap _ _ _ _ _).regs u = _; unfold Mk.swap; split <;> exact key _ _ _
 | cas a r k => show (m.cas _ _ _ _ _ _).regs u = _; unfold Mk.cas; split <;> exact key _ _ _
 | force => show (m.fenceFrom _ _).regs u = _; rw [(fenceFrom_regs _ m 0).1]
 | alloc r => show (m.alloc _ _).regs u = _; unfold Mk.alloc; split <;> exact key _ _ _
 | free r => show (m.free _ _).regs u = _; unfold Mk.free; split <;> rfl
 | need r => show (m.need _).regs u = _; unfold Mk.need; split <;> rfl
 | _ => rfl
theorem spin_next {f q : Nat} (hf : 1 <= f /\ f <= 4) {i : GI} (hi : (gWait f)[q]? = some i) (hs : spins f q) (r : Nat -> Int) : gNext (gWait f) q r i < (gWait f).length := by
 rcases spin_at hf hs with ⟨rfl | rfl, rfl | rfl | rfl⟩ | ⟨rfl, rfl | rfl | rfl | rfl⟩ | ⟨rfl, rfl | rfl | rfl⟩
 all_goals
  obtain rfl : _ = i := Option.some.inj (show some _ = some i from hi)
  by_cases e : r 0 = r 1 <;> simp [gNext, gAt, gLab, gWait, gFence, e]
structure Good3 (f n : Nat) (V : Int -> Prop) (ends : Nat -> Fl) (cs : Nat -> List Ins) (R : Nat) (G : Gq) (B : Nat -> List Tq) (m : Mk) : Prop where
 qd : QD f n G m
 val : G.val = V
 loc : ∀ t, t < n -> LocR f V (ends t) (cs t) (m.pc t) (G.fl t) (B t) (G.pt t) /\ Lx f G.ch (m.regs t) (G.pt t)
 shows : f = 3 -> ∀ t, t < n -> G.pt t = none -> shq m t = 0
 few : R <= 400
 rds : m.marks.length + sm n (fun t => rdP (G.pt t) + rdB (B t)) = R
def pot (f n : Nat) (G : Gq) (B : Nat -> List Tq) (m : Mk) (ph t : Nat) : Nat := rkT f n G.ch t (m.regs t) ph (G.pt t) + csts f n (B t)
def spinsAt (f : Nat) : Option Pq -> Prop
 | some ⟨.wait, q, _⟩ => spins f q
 | _ => False
theorem not_spinsAt {f : Nat} {tg : Tq} {q d : Nat} (h : ¬ spinsAt f (some ⟨tg, q, d⟩)) : ¬ (tg = .wait /\ spins f q) := fun ⟨a, b⟩ => by
 subst a
 exact h b
theorem spinsAt_of {f : Nat} {tg : Tq} {q d : Nat} (h : spinsAt f (some ⟨tg, q, d⟩)) : tg = .wait /\ spins f q := by
 cases tg with
 | wait => exact ⟨rfl, h⟩
 | _ => exact h.elim
def Spun (f n : Nat) (G : Gq) (B : Nat -> List Tq) (m : Mk) (t : Nat) (G' : Gq) (B' : Nat -> List Tq) (m' : Mk) : Prop := ∃ q d i, G.pt t = some ⟨.wait, q, d⟩ /\ (gWait f)[q]? = some i /\ spins f q /\
 (¬ spinsAt f (G'.pt t) /\ (stageq f q = 14 /\ m.regs t 0 ≠ m.regs t 1) /\ (∀ ph ph', pot f n G' B' m' ph' t + (5 * n + ph) <= pot f n G B m ph t) ∨
  (∃ q', G'.pt t = some ⟨.wait, q', d⟩ /\ spins f q' /\ (m.mem.waits t = [] -> (∀ u ∈ G.ch, shq m u = 0) -> phW f q' (m'.regs t) + 1 <= phW f q (m.regs t))) /\ ∀ ph ph', pot f n G' B' m' ph' t + ph <= pot f n G B m ph t + ph')
section
variable {f n R : Nat} {V : Int -> Prop} {ends : Nat -> Fl} {cs : Nat -> List Ins} {G : Gq} {B : Nat -> List Tq} {m : Mk} {t : Nat}
theorem Good3.step (h : Good3 f n V ends cs R G B m) (hwd : ∀ c k, Wd (m.mem.ar.words c k)) (hwr : ∀ t j, Wd (m.regs t j)) (ht : t < n) (hd : doneAt (cs t) (m.pc t) = false) : ∃ G' B', Good3 f n V ends cs R G' B' (m.step (cs t) t) /\
  (∀ u, u < n -> u ≠ t -> G'.pt u = G.pt u /\ B' u = B u /\ (m.step (cs t) t).regs u = m.regs u /\ ((m.step (cs t) t).mem.waits u).length <= (m.mem.waits u).length /\ ∀ ph, pot f n G' B' (m.step (cs t) t) ph u = pot f n G B m ph u) /\
  (¬ spinsAt f (G.pt t) -> ∀ ph ph', ph' <= 6 -> pot f n G' B' (m.step (cs t) t) ph' t + ((m.step (cs t) t).mem.waits t).length + 6 * liv (m.step (cs t) t) + 1 <= pot f n G B m ph t + (m.mem.waits t).length + 6 * liv m) /\
  (spinsAt f (G.pt t) -> ((m.step (cs t) t).mem.waits t).length <= (m.mem.waits t).length /\ 6 * liv (m.step (cs t) t) <= 6 * liv m /\ Spun f n G B m t G' B' (m.step (cs t) t)) := by
 obtain ⟨hP, rfl, hL, hZ, hR4, hRd⟩ := h
 obtain ⟨hl, hx⟩ := hL t ht
 cases hg : G.pt t with
 | none =>
  rw [hg] at hl
  rw [hl.1.1] at hd; cases hd
 | some p =>
  obtain ⟨tg, q, d⟩ := p
  rw [hg] at hl
  obtain ⟨a, b, b', hat, hpc, hq, hk, rfl, h100, hfl, hdisc, hps, hlast⟩ := hl
  obtain ⟨i, hi⟩ : ∃ i, (tqCode f tg)[q]? = some i := ⟨_, List.getElem?_eq_getElem hq⟩
  have hf := hP.1.fl
  have hok := tq_ok hf tg
  obtain ⟨-, hst⟩ := hat q i hi m t hpc
  rw [hst]
  generalize hm1 : m.setPc t (a + gNext (tqCode f tg) q (m.regs t) i) = m1
  have hP1 : QD f n G m1 := hP.congr (by rw [<- hm1]; rfl) (by rw [<- hm1]; rfl) (by rw [<- hm1]; rfl) (by rw [<- hm1]; rfl)
  have hr1 : m1.regs = m.regs := by rw [<- hm1]; rfl
  have hw1 : m1.mem = m.mem := by rw [<- hm1]; rfl
  have hmk1 : m1.marks = m.marks := by rw [<- hm1]; rfl
  have hpc1 : ∀ u, m1.pc u = if u = t then a + gNext (tqCode f tg) q (m.regs t) i else m.pc u := fun u => by rw [<- hm1]; rfl
  clear hm1
  obtain ⟨G1, hG1, hpt, hot, hch, hv, hfo, hft⟩ := qown_all hP1 (by rw [hw1]; exact hwd) ht h100 (fun e => by subst e; rw [hfl]; exact hk.2.2.1) hg hi
  have hpcs0 : ∀ u, (hExec m1 t tg q i).pc u = if u = t then a + gNext (tqCode f tg) q (m.regs t) i else m.pc u := fun u => by rw [hExec_pc]; exact hpc1 u
  have hC : G1.ch = G.ch ∨ G1.ch = G.ch ++ [t] := by
   rcases hch with e | ⟨e, -⟩
   ·exact .inl e
   ·exact .inr e
  have hO : ∀ u, u < n -> u ≠ t -> ∀ ph, rkT f n G1.ch u (m.regs u) ph (G.pt u) = rkT f n G.ch u (m.regs u) ph (G.pt u) := fun u hu e ph => hP.other_rank hu e (hL u hu).2 hC ph
  have hsub : ∀ u ∈ G.ch, u ∈ G1.ch := fun u hu => by
   rcases hC with e | e <;> rw [e]
   ·exact hu
   ·exact List.mem_append_left _ hu
  obtain ⟨hAm, hAr⟩ := hExec_as hi m1 t
  have hW : ∀ u, ((hExec m1 t tg q i).mem.waits u).length <= (m.mem.waits u).length + (if u = t then wl i else 0) := fun u => by
   have := gExec_wlen2 m1 t u i
   rwa [hw1, <- hAm] at this
  have hLv0 : liv (hExec m1 t tg q i) = liv (gExec m1 t i) := by unfold liv; rw [hAm]
  have hLm : liv m1 = liv m := by unfold liv; rw [hw1]
  have hLv : 6 * liv (hExec m1 t tg q i) <= 6 * liv m + lv i := by
   have := gExec_liv2 m1 t i
   omega
  have hLe : tg = .empty -> q = 3 -> 6 * liv (hExec m1 t tg q i) + 6 = 6 * liv m := fun e1 e2 => by
   subst e1 e2
   have := hP1.empty_liv ht hg hi
   omega
  have hgw := gw_is i
  have hU : ∀ u, u ≠ t -> (hExec m1 t tg q i).regs u = m.regs u := fun u e => by rw [hAr, keepU m1 t i e, hr1]
  have hRg : ∀ j, dstR i ≠ some j -> (hExec m1 t tg q i).regs t j = m.regs t j := fun j e => by rw [hAr, keepR m1 t i e, hr1]
  have hshU : f = 3 -> ∀ u, u < n -> u ≠ t -> shq (hExec m1 t tg q i) u = shq m u := fun h3 u hu e => by
   rw [shq_mem hAm, hP1.step_sh (by omega) ht e hu hi, shq_mem hw1]
  have hmk : (hExec m1 t tg q i).marks.length = m.marks.length + if tg = .read /\ q = 3 then 1 else 0 := by
   rw [hExec_marks, hmk1]
   rw [hmk1]; omega
  -- the rank of the thread's own piece
  have R : Lx f G1.ch ((hExec m1 t tg q i).regs t) (some ⟨tg, gNext (tqCode f tg) q (m.regs t) i, b.d⟩) /\ (¬ (tg = .wait /\ spins f q) -> ∀ ph ph', ph' <= 6 -> rkT f n G1.ch t ((hExec m1 t tg q i).regs t) ph' (some ⟨tg, gNext (tqCode f tg) q (m.regs t) i, b.d⟩) + wl i + 6 * liv (hExec m1 t tg q i) + 1 <= rkT f n G.ch t (m.regs t) ph (some ⟨tg, q, b.d⟩) + 6 * liv m) := by
   by_cases he : tg = .empty
   ·have h1 := hLe he
    subst he
    refine ⟨trivial, fun _ ph ph' _ => ?_⟩
    have h2 := empty_rank hi (m.regs t)
    show rkM _ + wl i + _ + 1 <= rkM q + _
    by_cases h3 : q = 3
    ·have h1 := h1 h3
     rw [if_pos h3] at h2
     omega
    ·rw [if_neg h3] at h2
     omega
   ·have R := hP1.own_rank (by rw [hr1]; exact hwr t) ht hg hi he (by rw [hr1]; exact hx) hG1 hpt (by rw [hg] at *; exact hch)
    rw [hr1] at R
    refine ⟨R.1, fun hns ph ph' hph => ?_⟩
    have h1 := R.2 hns ph ph' hph
    omega
  rw [hr1] at hpt hft
  have hq' := qNext_le (m.regs t) hok hi
  have hfl2 : G1.fl t = flq (some ⟨tg, gNext (tqCode f tg) q (m.regs t) i, b.d⟩) b.fl := by
   rw [hft, hfl]
   generalize hk1 : b.fl = k1
   cases tg with
   | put v =>
    have hq6 : q < 6 := hq
    by_cases h5 : 5 <= q
    ·have : q = 5 := by omega
     subst this
     have e : GI.label 0 = i := Option.some.inj hi
     subst e; rfl
    ·rw [show flq (some ⟨.put v, q, b.d⟩) k1 = k1 from if_neg h5]
   | later =>
    have hq6 : q < 4 := hq
    by_cases h5 : 3 <= q
    ·have : q = 3 := by omega
     subst this
     have e : GI.label 0 = i := Option.some.inj hi
     subst e; rfl
    ·rw [show flq (some ⟨.later, q, b.d⟩) k1 = k1 from if_neg h5]
   | _ => rfl
  have hpcs := hpcs0
  have hWt := hW t
  rw [if_pos rfl] at hWt
  by_cases hlt : gNext (tqCode f tg) q (m.regs t) i < (tqCode f tg).length
  ·have hnr : ¬ (tg = .read /\ q = 3) := fun ⟨e1, e2⟩ => by
    subst e1 e2
    have e : GI.label 9 = i := Option.some.inj hi
    subst e
    exact absurd hlt (by decide : ¬ 4 < 4)
   rw [if_neg hnr] at hmk
   refine ⟨G1, B, ⟨hG1, hv, fun u hu => ?_, fun h3 u hu e => ?_, hR4, ?_⟩, fun u hu e => ⟨hot u e, rfl, hU u e, ?_, fun ph => ?_⟩, fun hns ph ph' hph => ?_, fun hsp => ?_⟩
   ·by_cases e : u = t
    ·subst e
     rw [hpt, hpcs u, if_pos rfl]
     exact ⟨⟨a, b, b', hat, rfl, hlt, hk, rfl, h100, hfl2, hdisc, hps, hlast⟩, R.1⟩
    ·rw [hot u e, hfo u e, hpcs u, if_neg e, hU u e]; exact ⟨(hL u hu).1, (hL u hu).2.more hsub⟩
   ·by_cases e2 : u = t
    ·subst e2
     rw [hpt] at e
     cases e
    ·rw [hot u e2] at e
     rw [hshU h3 u hu e2]
     exact hZ h3 u hu e
   ·rw [hmk, <- hRd]
    congr 1
    refine sm_same fun u hu => ?_
    by_cases e : u = t
    ·subst e; rw [hpt, hg]; rfl
    ·rw [hot u e]
   ·have h1 := hW u
    rw [if_neg e] at h1
    omega
   ·unfold pot
    rw [hot u e, hU u e, hO u hu e]
   ·have h1 := R.2 (not_spinsAt hns) ph ph' hph
    unfold pot
    rw [hpt, hg]
    omega
   ·obtain ⟨rfl, hsp⟩ := spinsAt_of hsp
    have hC0 : G1.ch = G.ch := by
     rcases hch with e | ⟨-, q2, d2, e⟩
     ·exact e
     ·cases e
    have hx' := R.1
    rw [hg] at hx
    have hgw1 : gw i = 1 := wait_gw hf hi
    obtain ⟨-, -, t2⟩ := wait_tab hf hi
    have h2 : (hExec m1 t .wait q i).regs t 2 = m.regs t 2 := hRg 2 (t2 (by have := hsp.1; omega) (by have := hsp.1; omega))
    refine ⟨by omega, by omega, q, b.d, i, hg, hi, hsp, ?_⟩
    by_cases hlv : stageq f q = 14 /\ m.regs t 0 ≠ m.regs t 1
    ·refine .inl ⟨?_, hlv, fun ph ph' => ?_⟩
     ·rw [hpt]
      show ¬ spins f (gNext (gWait f) q (m.regs t) i)
      rcases spin_at hf hsp with ⟨rfl | rfl, rfl | rfl | rfl⟩ | ⟨rfl, rfl | rfl | rfl | rfl⟩ | ⟨rfl, rfl | rfl | rfl⟩
      all_goals first
       | exact absurd hlv.1 (by decide)
       | (obtain rfl : _ = i := Option.some.inj (show some _ = some i from hi)
          show ¬ spins _ (if m.regs t 0 = m.regs t 1 then _ else _)
          rw [if_neg hlv.2]
          decide)
     ·have h1 := wait_leave (n := n) (ph := ph) (ph' := ph') hf (C := G.ch) hi hlv.1 hlv.2 h2
      unfold pot
      rw [hpt, hg, hC0]
      show rkW f n G.ch ((hExec m1 t .wait q i).regs t) ph' (gNext (gWait f) q (m.regs t) i) + csts f n (B t) + (5 * n + ph) <= rkW f n G.ch (m.regs t) ph q + csts f n (B t)
      omega
    ·have h0 : stageq f q = 14 -> m.regs t 0 = m.regs t 1 := fun e => Classical.byContradiction fun e2 => hlv ⟨e, e2⟩
     have hsy := fun ph ph' => wait_stay (n := n) (ph := ph) (ph' := ph') hf (C := G.ch) hi hsp h0 h2
     refine .inr ⟨⟨_, hpt, (hsy 0 0).1, fun hwt hsh => ?_⟩, fun ph ph' => ?_⟩
     ·have h1 : m.regs t 1 ≠ 0 := by
       have hx : match stageq f q with
        | 7 => _
        | 8 => _
        | 9 => _
        | 10 => _
        | 11 => _
        | 12 => m.regs t 1 ≠ 0
        | 13 => m.regs t 1 ≠ 0
        | 14 => m.regs t 1 ≠ 0
        | _ => True := hx
       have hs3 : stageq f q = 12 ∨ stageq f q = 13 ∨ stageq f q = 14 := by have := hsp.1; have := hsp.2; omega
       rcases hs3 with e | e | e <;> (rw [e] at hx; exact hx)
      have hld : ∀ a b k, i = .load a b k -> (hExec m1 t .wait q i).regs t 0 = 0 := fun a b k e => by
       have hi2 : i = .load 0 2 0 /\ stageq f q = 13 := by
        rcases spin_at hf hsp with ⟨rfl | rfl, rfl | rfl | rfl⟩ | ⟨rfl, rfl | rfl | rfl | rfl⟩ | ⟨rfl, rfl | rfl | rfl⟩
        all_goals first
         | exact ⟨(Option.some.inj (show some _ = some i from hi)).symm, by decide⟩
         | (obtain rfl : _ = i := Option.some.inj (show some _ = some i from hi)
            cases e)
       obtain ⟨rfl, e13⟩ := hi2
       have L := hP.1.la t ht
       rw [hg] at L
       obtain ⟨-, -, -, Sc⟩ := L
       rw [e13] at Sc
       obtain ⟨j, u, c1, c2, -, -⟩ := (show Cuq _ _ _ _ from Sc)
       have hu := List.mem_of_getElem? c1
       obtain ⟨L, g0, r0⟩ := hP1.1.own (hP.1.chl u hu)
       have e2 := load_live L t 0 0
       rw [g0, r0, <- c2, <- hr1] at e2
       rw [hAr]
       show (m1.load t 0 (m1.regs t 2) ((0 : Nat) : Int)).regs t 0 = 0
       rw [e2, setReg_reg, if_pos rfl]
       unfold vw
       rw [hw1, hwt]
       exact hsh u hu
      refine wait_phase hf hi hsp h0 h1 hld (fun e => hRg 0 ?_)
      rcases spin_at hf hsp with ⟨rfl | rfl, rfl | rfl | rfl⟩ | ⟨rfl, rfl | rfl | rfl | rfl⟩ | ⟨rfl, rfl | rfl | rfl⟩
      all_goals first
       | exact absurd rfl e
       | (obtain rfl : _ = i := Option.some.inj (show some _ = some i from hi)
          decide)
     ·have h1 := (hsy ph ph').2
      unfold pot
      rw [hpt, hg, hC0]
      show rkW f n G.ch ((hExec m1 t .wait q i).regs t) ph' (gNext (gWait f) q (m.regs t) i) + csts f n (B t) + ph <= rkW f n G.ch (m.regs t) ph q + csts f n (B t) + ph'
      omega
  ·have e : gNext (tqCode f tg) q (m.regs t) i = (tqCode f tg).length := by omega
   have hns : ¬ (tg = .wait /\ spins f q) := fun ⟨a, b⟩ => by
    subst a
    exact hlt (spin_next hf hi b _)
   rw [e] at hpt hpcs R hfl2
   have hne : tqCode f tg ≠ [] := fun e => by rw [e] at hq; exact absurd hq (Nat.not_lt_zero _)
   have hb := hG1.behind ht hpt hfl2 hne hk
   have hmk2 : (if tg = .read /\ q = 3 then 1 else 0) = rdT tg := by
    unfold rdT
    by_cases e1 : tg = .read
    ·subst e1
     have hq4 : q < 4 := hq
     have h3 : q = 3 := by
      match q, hq4, hi, e with
      | 0, _, hi, e => have e1 : GI.load 0 5 0 = i := Option.some.inj hi; subst e1; exact nomatch e
      | 1, _, hi, e => have e1 : GI.load 0 0 0 = i := Option.some.inj hi; subst e1; exact nomatch e
      | 2, _, hi, e => have e1 : GI.need 0 = i := Option.some.inj hi; subst e1; exact nomatch e
      | 3, _, _, _ => rfl
     rw [if_pos ⟨rfl, h3⟩, if_pos rfl]
    ·rw [if_neg (fun e => e1 e.1), if_neg e1]
   rw [hmk2] at hmk
   have h0 : f = 3 -> B t = [] -> shq (hExec m1 t tg q i) t = 0 := fun h3 hB => by
    have h5 := hlast h3
    rw [hB] at h5
    have h5 : tg = .gone := by simpa using h5
    subst h5 h3
    have L := hG1.1.la t ht
    rw [hpt] at L
    rw [<- hG1.ov_sh2 (by decide) ht]
    exact L.2
   have hl2 : f = 3 -> B t ≠ [] -> (B t).getLast? = some .gone := fun h3 hB => by
    have h5 := hlast h3
    cases hb : B t with
    | nil => exact absurd hb hB
    | cons y l => rwa [hb, List.getLast?_cons_cons] at h5
   obtain ⟨k, g, B', hg1, hg2, hgz, hg3, hg4, hg5⟩ := hG1.hops2 (e := ends t) ht (L := cs t) (B t) (a + (tqCode f tg).length) b' hb (by rw [hv]; exact hdisc) hps hl2 h0
   refine ⟨_, fun u => if u = t then B' else B u, ⟨hg1, hv, fun u hu => ?_, fun h3 u hu e => ?_, hR4, ?_⟩, fun u hu e => ⟨by rw [Gq.upd_ptn e, hot u e], if_neg e, hU u e, ?_, fun ph => ?_⟩, fun _ ph ph' hph => ?_, fun hsp => ?_⟩
   ·by_cases e : u = t
    ·subst e
     rw [Gq.upd_pt, Gq.upd_fl, hpcs u, if_pos rfl, if_pos rfl]
     rw [hv] at hg2
     exact ⟨hg2, hg3 _ _⟩
    ·rw [Gq.upd_ptn e, Gq.upd_fln e, hot u e, hfo u e, hpcs u, if_neg e, hU u e, if_neg e]
     exact ⟨(hL u hu).1, (hL u hu).2.more hsub⟩
   ·by_cases e2 : u = t
    ·subst e2
     rw [Gq.upd_pt] at e
     exact hgz h3 e
    ·rw [Gq.upd_ptn e2, hot u e2] at e
     rw [hshU h3 u hu e2]
     exact hZ h3 u hu e
   ·have h1 : sm n (fun u => rdP ((G1.upd t (G1.nd t) (G1.ls t) k g).pt u) + rdB (if u = t then B' else B u)) + rdT tg = sm n (fun u => rdP (G.pt u) + rdB (B u)) + 0 := sm_one t ht (fun u _ e => by rw [Gq.upd_ptn e, hot u e, if_neg e]) (by
     rw [Gq.upd_pt, if_pos rfl, hg, hg5]
     show rdB (B t) + rdT tg = rdT tg + rdB (B t) + 0
     omega)
    rw [hmk]
    omega
   ·have h1 := hW u
    rw [if_neg e] at h1
    omega
   ·unfold pot
    dsimp only
    rw [Gq.upd_ptn e, hot u e, hU u e, if_neg e]
    show rkT f n G1.ch u _ _ _ + _ = _
    rw [hO u hu e]
   ·have h1 := R.2 hns ph ph' hph
    have h2 := hg4 G1.ch ((hExec m1 t tg q i).regs t) ph'
    unfold pot
    dsimp only
    rw [Gq.upd_pt, if_pos rfl, hg]
    show rkT f n G1.ch t _ _ _ + _ + _ + _ + 1 <= _ + _ + _ + _
    omega
   ·exact absurd (spinsAt_of hsp) hns
end
end
section
open Go.RowKit
section
variable {f n : Nat} {G : Gq} {m : Mk} {t u : Nat}
theorem QD.rest_zero (h : QD f n G m) (hu : u < n) (hw : m.mem.waits u = []) (hz : f = 3 -> G.pt u = none -> shq m u = 0) (hg : G.pt u = none ∨ spinsAt f (G.pt u)) : shq m u = 0 := by
 have L := h.1.la u hu
 rcases hg with e | hs
 ·by_cases h3 : f = 3
  ·exact hz h3 e
  ·rw [e] at L
   rw [<- ov_sh hw]
   exact (((L h3).2.1 h3).1 rfl).1
 ·cases hg : G.pt u with
  | none => rw [hg] at hs; exact hs.elim
  | some p =>
   obtain ⟨tg, q, d⟩ := p
   rw [hg] at hs L
   obtain ⟨rfl, hs⟩ := spinsAt_of hs
   obtain ⟨-, L3, Ln, -⟩ := L
   rw [<- ov_sh hw]
   by_cases h3 : f = 3
   ·subst h3
    have L3 := L3 rfl
    rcases spin_at (by decide) hs with ⟨e, -⟩ | ⟨e, -⟩ | ⟨-, rfl | rfl | rfl⟩
    ·exact absurd e (by decide)
    ·exact absurd e (by decide)
    ·exact L3.1
    ·exact L3.1
    ·exact L3.1
   ·exact (((Ln h3).2.1 h3).1 rfl).1
end
end
section
open Go.RowKit
theorem sm_le {F H : Nat -> Nat} : ∀ {n : Nat}, (∀ t, t < n -> F t <= H t) -> sm n F <= sm n H
 | 0, _ => Nat.le_refl _
 | n + 1, h => Nat.add_le_add (sm_le fun t ht => h t (Nat.lt_succ_of_lt ht)) (h n (Nat.lt_succ_self n))
theorem sm_less {F H : Nat -> Nat} : ∀ {n : Nat} (t : Nat), t < n -> (∀ u, u < n -> F u <= H u) -> F t + 1 <= H t -> sm n F + 1 <= sm n H
 | 0, _, h, _, _ => absurd h (Nat.not_lt_zero _)
 | n + 1, t, ht, h, h1 => by
  show sm n F + F n + 1 <= sm n H + H n
  by_cases e : t = n
  ·subst e
   have := sm_le (n := t) fun u hu => h u (Nat.lt_succ_of_lt hu)
   omega
  ·have h2 := sm_less (n := n) t (by omega) (fun u hu => h u (Nat.lt_succ_of_lt hu)) h1
   have h3 := h n (Nat.lt_succ_self n)
   omega
theorem sm_pay {F H : Nat -> Nat} {c : Nat} : ∀ {n : Nat}, (∀ u, u < n -> F u <= H u + c) -> sm n F <= sm n H + n * c
 | 0, _ => Nat.le_of_eq (by simp [sm])
 | n + 1, h => by
  have h1 := sm_pay (n := n) fun u hu => h u (Nat.lt_succ_of_lt hu)
  have h2 := h n (Nat.lt_succ_self n)
  show sm n F + F n <= sm n H + H n + (n + 1) * c
  rw [Nat.succ_mul]
  omega
theorem sm_pay2 {F H : Nat -> Nat} {c : Nat} : ∀ {n : Nat} (t : Nat), t < n -> (∀ u, u < n -> u ≠ t -> F u <= H u + c) -> F t + n * c + 1 <= H t -> sm n F + c + 1 <= sm n H
 | 0, _, h, _, _ => absurd h (Nat.not_lt_zero _)
 | n + 1, t, ht, h, h1 => by
  show sm n F + F n + c + 1 <= sm n H + H n
  rw [Nat.succ_mul] at h1
  by_cases e : t = n
  ·subst e
   have := sm_pay (n := t) fun u hu => h u (Nat.lt_succ_of_lt hu) (by omega)
   omega
  ·have h2 := sm_pay2 (F := F) (H := fun u => if u = t then H t - c else H u) (c := c) (n := n) t (by omega) (fun u hu hut => by rw [if_neg hut]; exact h u (Nat.lt_succ_of_lt hu) hut) (by rw [if_pos rfl]; omega)
   have h3 := h n (Nat.lt_succ_self n) (fun e2 => e e2.symm)
   have h4 : sm n (fun u => if u = t then H t - c else H u) + c <= sm n H := sm_cut t (by omega) (by omega)
   omega
where
 sm_cut {H : Nat -> Nat} {c : Nat} : ∀ {n : Nat} (t : Nat), t < n -> c <= H t -> sm n (fun u => if u = t then H t - c else H u) + c <= sm n H
  | 0, _, h, _ => absurd h (Nat.not_lt_zero _)
  | n + 1, t, ht, hc => by
   show sm n (fun u => if u = t then H t - c else H u) + (if n = t then H t - c else H n) + c <= sm n H + H n
   by_cases e : n = t
   ·subst e
    rw [if_pos rfl]
    have := sm_le (n := n) (F := fun u => if u = n then H n - c else H u) (H := H) fun u hu => by
     rw [if_neg (by omega)]
     exact Nat.le_refl _
    omega
   ·rw [if_neg e]
    have := sm_cut (H := H) (c := c) (n := n) t (by omega) hc
    omega
theorem sm_less2 {F H : Nat -> Nat} {a b : Nat} : ∀ {n : Nat} (t : Nat), t < n -> (∀ u, u < n -> u ≠ t -> F u <= H u) -> F t + a + 1 <= H t + b -> sm n F + a + 1 <= sm n H + b
 | 0, _, h, _, _ => absurd h (Nat.not_lt_zero _)
 | n + 1, t, ht, h, h1 => by
  show sm n F + F n + a + 1 <= sm n H + H n + b
  by_cases e : t = n
  ·subst e
   have := sm_le (n := t) fun u hu => h u (Nat.lt_succ_of_lt hu) (by omega)
   omega
  ·have h2 := sm_less2 (n := n) t (by omega) (fun u hu hut => h u (Nat.lt_succ_of_lt hu) hut) h1
   have h3 := h n (Nat.lt_succ_self n) (fun e2 => e e2.symm)
   omega
section
variable {f n R : Nat} {V : Int -> Prop} {ends : Nat -> Fl} {cs : Nat -> List Ins} {G : Gq} {B : Nat -> List Tq} {m : Mk} {t : Nat}
theorem Good3.drain1 (h : Good3 f n V ends cs R G B m) (ht : t < n) : Good3 f n V ends cs R G B (m.drain1 t) := ⟨h.qd.drain1 ht, h.val, fun u hu => by rw [(drain1_regs m t).1, (drain1_regs m t).2]; exact h.loc u hu, fun h3 u hu e => by rw [h.qd.drain1_sh ht (.inr (by omega)) hu]; exact h.shows h3 u hu e, h.few, by rw [drain1_marks]; exact h.rds⟩
def Qt (f n : Nat) (G : Gq) (m : Mk) : Prop := ∀ t, t < n -> m.mem.waits t = [] /\ (G.pt t = none ∨ spinsAt f (G.pt t))
def phO (f : Nat) (r : Nat -> Int) : Option Pq -> Nat
 | some ⟨.wait, q, _⟩ => if spins f q then phW f q r else 6
 | _ => 6
theorem phO_le (f : Nat) (r : Nat -> Int) (g : Option Pq) : 1 <= phO f r g /\ phO f r g <= 6 := by
 match g with
 | some ⟨.wait, q, _⟩ =>
  have := phW_le f q r
  show 1 <= (if spins f q then phW f q r else 6) /\ (if spins f q then phW f q r else 6) <= 6
  split <;> omega
 | some ⟨.enter, _, _⟩ => exact ⟨(by decide : 1 <= 6), Nat.le_refl _⟩
 | some ⟨.leave, _, _⟩ => exact ⟨(by decide : 1 <= 6), Nat.le_refl _⟩
 | some ⟨.rest, _, _⟩ => exact ⟨(by decide : 1 <= 6), Nat.le_refl _⟩
 | some ⟨.gone, _, _⟩ => exact ⟨(by decide : 1 <= 6), Nat.le_refl _⟩
 | some ⟨.read, _, _⟩ => exact ⟨(by decide : 1 <= 6), Nat.le_refl _⟩
 | some ⟨.put _, _, _⟩ => exact ⟨(by decide : 1 <= 6), Nat.le_refl _⟩
 | some ⟨.drop, _, _⟩ => exact ⟨(by decide : 1 <= 6), Nat.le_refl _⟩
 | some ⟨.later, _, _⟩ => exact ⟨(by decide : 1 <= 6), Nat.le_refl _⟩
 | some ⟨.empty, _, _⟩ => exact ⟨(by decide : 1 <= 6), Nat.le_refl _⟩
 | none => exact ⟨(by decide : 1 <= 6), Nat.le_refl _⟩
open Classical in
noncomputable def phs (f n : Nat) (G : Gq) (m : Mk) (t : Nat) : Nat := if Qt f n G m then phO f (m.regs t) (G.pt t) else 6
theorem phs_le (f n : Nat) (G : Gq) (m : Mk) (t : Nat) : 1 <= phs f n G m t /\ phs f n G m t <= 6 := by
 unfold phs
 split
 ·exact phO_le _ _ _
 ·exact ⟨(by decide : 1 <= 6), Nat.le_refl _⟩
noncomputable def psi (f n : Nat) (G : Gq) (B : Nat -> List Tq) (m : Mk) : Nat := (sm n fun t => pot f n G B m (phs f n G m t) t + (m.mem.waits t).length) + 6 * liv m
theorem pot_ph {ph ph' : Nat} (h : ph' <= ph) : pot f n G B m ph' t <= pot f n G B m ph t := by
 unfold pot
 refine Nat.add_le_add_right ?_ _
 generalize G.pt t = g
 match g with
 | some ⟨.wait, q, d⟩ =>
  show rkW f n G.ch (m.regs t) ph' q <= rkW f n G.ch (m.regs t) ph q
  unfold rkW
  repeat' split
  all_goals omega
 | some ⟨.enter, _, _⟩ => exact Nat.le_refl _
 | some ⟨.leave, _, _⟩ => exact Nat.le_refl _
 | some ⟨.rest, _, _⟩ => exact Nat.le_refl _
 | some ⟨.gone, _, _⟩ => exact Nat.le_refl _
 | some ⟨.read, _, _⟩ => exact Nat.le_refl _
 | some ⟨.put _, _, _⟩ => exact Nat.le_refl _
 | some ⟨.drop, _, _⟩ => exact Nat.le_refl _
 | some ⟨.later, _, _⟩ => exact Nat.le_refl _
 | some ⟨.empty, _, _⟩ => exact Nat.le_refl _
 | none => exact Nat.le_refl _
theorem Spun.keep {G' : Gq} {B' : Nat -> List Tq} {m' : Mk} (h : Spun f n G B m t G' B' m') {ph ph' : Nat} (h6 : ph = 6) (h' : ph' <= 6) : pot f n G' B' m' ph' t <= pot f n G B m ph t := by
 obtain ⟨q, d, i, -, -, -, ⟨-, -, h2⟩ | ⟨-, h2⟩⟩ := h
 ·have := h2 ph ph'; omega
 ·have := h2 ph ph'; omega
theorem pot_up {ph ph' : Nat} : pot f n G B m ph' t <= pot f n G B m ph t + (ph' - ph) := by
 unfold pot
 generalize G.pt t = g
 match g with
 | some ⟨.wait, q, d⟩ =>
  show rkW f n G.ch (m.regs t) ph' q + _ <= rkW f n G.ch (m.regs t) ph q + _ + (ph' - ph)
  unfold rkW
  repeat' split
  all_goals omega
 | some ⟨.enter, _, _⟩ => exact Nat.le_add_right _ _
 | some ⟨.leave, _, _⟩ => exact Nat.le_add_right _ _
 | some ⟨.rest, _, _⟩ => exact Nat.le_add_right _ _
 | some ⟨.gone, _, _⟩ => exact Nat.le_add_right _ _
 | some ⟨.read, _, _⟩ => exact Nat.le_add_right _ _
 | some ⟨.put _, _, _⟩ => exact Nat.le_add_right _ _
 | some ⟨.drop, _, _⟩ => exact Nat.le_add_right _ _
 | some ⟨.later, _, _⟩ => exact Nat.le_add_right _ _
 | some ⟨.empty, _, _⟩ => exact Nat.le_add_right _ _
 | none => exact Nat.le_add_right _ _
theorem phs_not (h : ¬ Qt f n G m) : phs f n G m t = 6 := if_neg h
theorem phs_yes (h : Qt f n G m) : phs f n G m t = phO f (m.regs t) (G.pt t) := if_pos h
theorem psi_drain (h : m.mem.waits t ≠ []) (ht : t < n) : psi f n G B (m.drain1 t) + 1 <= psi f n G B m := by
 have hQ : ¬ Qt f n G m := fun q => h (q t ht).1
 have hp : ∀ u, pot f n G B (m.drain1 t) (phs f n G (m.drain1 t) u) u <= pot f n G B m (phs f n G m u) u := fun u => by
  rw [phs_not hQ]
  have e : ∀ ph, pot f n G B (m.drain1 t) ph u = pot f n G B m ph u := fun ph => by unfold pot; rw [(drain1_regs m t).1]
  rw [e]
  exact pot_ph (phs_le _ _ _ _ _).2
 unfold psi
 rw [drain1_liv]
 suffices hs : sm n (fun u => pot f n G B (m.drain1 t) (phs f n G (m.drain1 t) u) u + ((m.drain1 t).mem.waits u).length) + 1 <= sm n (fun u => pot f n G B m (phs f n G m u) u + (m.mem.waits u).length) by omega
 refine sm_less t ht (fun u _ => ?_) ?_
 ·have h1 := hp u
  have h2 := drain1_wlen m t u
  omega
 ·have h1 := hp t
  have h2 := drain1_less m t h
  omega
theorem Good3.falls (h : Good3 f n V ends cs R G B m) (hwd : ∀ c k, Wd (m.mem.ar.words c k)) (hwr : ∀ t j, Wd (m.regs t j)) (ht : t < n) (hd : doneAt (cs t) (m.pc t) = false) : ∃ G' B', Good3 f n V ends cs R G' B' (m.step (cs t) t) /\ (∀ u, u < n -> u ≠ t -> G'.pt u = G.pt u) /\
  (psi f n G' B' (m.step (cs t) t) + 1 <= psi f n G B m ∨
    psi f n G' B' (m.step (cs t) t) <= psi f n G B m /\ ¬ Qt f n G m /\ spinsAt f (G.pt t) /\ spinsAt f (G'.pt t) /\ ∀ u, u < n -> ((m.step (cs t) t).mem.waits u).length = (m.mem.waits u).length) := by
 have hz : Qt f n G m -> ∀ u, u < n -> shq m u = 0 := fun q u hu => h.qd.rest_zero hu (q u hu).1 (fun h3 e => h.shows h3 u hu e) (q u hu).2
 obtain ⟨G', B', hG, hO, hN, hS⟩ := h.step hwd hwr ht hd
 generalize m.step (cs t) t = m' at *
 refine ⟨G', B', hG, fun u hu e => (hO u hu e).1, ?_⟩
 by_cases hQ : Qt f n G m
 ·left
  rcases (hQ t ht).2 with e | hsp
  ·exfalso
   have hl := (h.loc t ht).1
   rw [e] at hl
   rw [hl.1.1] at hd
   cases hd
  ·obtain ⟨hw, hv6, q, d, i, hg, hi, hs, hc⟩ := hS hsp
   have hpt : phs f n G m t = phW f q (m.regs t) := by
    rw [phs_yes hQ, hg]
    exact if_pos hs
   rcases hc with ⟨-, -, h1⟩ | ⟨⟨q', hg', hs', h2⟩, h1⟩
   ·unfold Go.Proofs.YtaiigfcfmcicjaaGreatDoor.psi
    have h3 := h1 (phs f n G m t) (phs f n G' m' t)
    have h4 := phs_le f n G m t
    suffices hpay : sm n (fun t => pot f n G' B' m' (phs f n G' m' t) t + (m'.mem.waits t).length) + 5 + 1 <= sm n (fun t => pot f n G B m (phs f n G m t) t + (m.mem.waits t).length) by omega
    refine sm_pay2 t ht (fun u hu e => ?_) ?_
    ·obtain ⟨-, -, -, o1, o2⟩ := hO u hu e
     rw [o2]
     have h5 := pot_up (f := f) (n := n) (G := G) (B := B) (m := m) (t := u) (ph := phs f n G m u) (ph' := phs f n G' m' u)
     have h6 := phs_le f n G m u
     have h7 := phs_le f n G' m' u
     omega
    ·omega
   ·have hQ' : Qt f n G' m' := fun u hu => by
     by_cases e : u = t
     ·subst e
      exact ⟨List.length_eq_zero_iff.1 (by have := (hQ u hu).1; rw [this] at hw; simpa using hw), .inr (by rw [hg']; exact hs')⟩
     ·obtain ⟨o1, -, -, o2, -⟩ := hO u hu e
      rw [o1]
      exact ⟨List.length_eq_zero_iff.1 (by have := (hQ u hu).1; rw [this] at o2; simpa using o2), (hQ u hu).2⟩
    have hpt' : phs f n G' m' t = phW f q' (m'.regs t) := by
     rw [phs_yes hQ', hg']
     exact if_pos hs'
    have h3 := h2 (hQ t ht).1 (fun u hu => hz hQ u (h.qd.1.chl u hu))
    have h4 := h1 (phs f n G m t) (phs f n G' m' t)
    unfold Go.Proofs.YtaiigfcfmcicjaaGreatDoor.psi
    suffices hs6 : sm n (fun t => pot f n G' B' m' (phs f n G' m' t) t + (m'.mem.waits t).length) + 1 <= sm n (fun t => pot f n G B m (phs f n G m t) t + (m.mem.waits t).length) by omega
    refine sm_less t ht (fun u hu => ?_) ?_
    ·by_cases e : u = t
     ·subst e
      rw [hpt, hpt'] at h4 ⊢
      omega
     ·obtain ⟨o0, -, o3, o1, o2⟩ := hO u hu e
      rw [o2]
      have : phs f n G' m' u = phs f n G m u := by rw [phs_yes hQ, phs_yes hQ', o0, o3]
      rw [this]
      omega
    ·rw [hpt, hpt'] at h4 ⊢
     omega
 ·have ho : ∀ u, u < n -> u ≠ t -> pot f n G' B' m' (phs f n G' m' u) u <= pot f n G B m (phs f n G m u) u := fun u hu e => by
   rw [(hO u hu e).2.2.2.2, phs_not hQ]
   exact pot_ph (phs_le _ _ _ _ _).2
  by_cases hsp : spinsAt f (G.pt t)
  ·obtain ⟨hw, hv6, hsn⟩ := hS hsp
   have ht' : pot f n G' B' m' (phs f n G' m' t) t <= pot f n G B m (phs f n G m t) t := by
    rw [phs_not hQ]
    exact hsn.keep rfl (phs_le _ _ _ _ _).2
   have hall : ∀ u, u < n -> pot f n G' B' m' (phs f n G' m' u) u <= pot f n G B m (phs f n G m u) u /\ (m'.mem.waits u).length <= (m.mem.waits u).length := fun u hu => by
    by_cases e : u = t
    ·subst e; exact ⟨ht', hw⟩
    ·exact ⟨ho u hu e, (hO u hu e).2.2.2.1⟩
   obtain ⟨q, d, i, hg, hi, hs, hc⟩ := hsn
   have hle : ∀ u, u < n -> pot f n G' B' m' (phs f n G' m' u) u + (m'.mem.waits u).length <= pot f n G B m (phs f n G m u) u + (m.mem.waits u).length := fun u hu => by
    have := hall u hu; omega
   rcases hc with ⟨-, -, h1⟩ | ⟨⟨q', hg', hs', -⟩, h1⟩
   ·left
    unfold Go.Proofs.YtaiigfcfmcicjaaGreatDoor.psi
    suffices hs6 : sm n (fun t => pot f n G' B' m' (phs f n G' m' t) t + (m'.mem.waits t).length) + 1 <= sm n (fun t => pot f n G B m (phs f n G m t) t + (m.mem.waits t).length) by omega
    refine sm_less t ht hle ?_
    have h3 := h1 (phs f n G m t) (phs f n G' m' t)
    have h4 := phs_le f n G m t
    omega
   ·by_cases hx : ∃ u, u < n /\ (m'.mem.waits u).length < (m.mem.waits u).length
    ·obtain ⟨u, hu, hlt⟩ := hx
     left
     unfold Go.Proofs.YtaiigfcfmcicjaaGreatDoor.psi
     suffices hs6 : sm n (fun t => pot f n G' B' m' (phs f n G' m' t) t + (m'.mem.waits t).length) + 1 <= sm n (fun t => pot f n G B m (phs f n G m t) t + (m.mem.waits t).length) by omega
     refine sm_less u hu hle ?_
     have := hall u hu
     omega
    ·right
     refine ⟨by unfold Go.Proofs.YtaiigfcfmcicjaaGreatDoor.psi; exact Nat.add_le_add (sm_le hle) hv6, hQ, hsp, by rw [hg']; exact hs', fun u hu => ?_⟩
     have h2 := (hall u hu).2
     have h3 : ¬ (m'.mem.waits u).length < (m.mem.waits u).length := fun e => hx ⟨u, hu, e⟩
     omega
  ·left
   unfold Go.Proofs.YtaiigfcfmcicjaaGreatDoor.psi
   have h1 := hN hsp (phs f n G m t) (phs f n G' m' t) (phs_le _ _ _ _ _).2
   have h2 : sm n (fun t => pot f n G' B' m' (phs f n G' m' t) t + (m'.mem.waits t).length) + 6 * liv m' + 1 <= sm n (fun t => pot f n G B m (phs f n G m t) t + (m.mem.waits t).length) + 6 * liv m := sm_less2 t ht (fun u hu e => by
    have h1 := ho u hu e
    have h2 := (hO u hu e).2.2.2.1
    omega) h1
   exact h2
end
end
end Go.Proofs.YtaiigfcfmcicjaaGreatDoor
