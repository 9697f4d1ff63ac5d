import Derived.Test.YtaiigfcfmcicjaaGreatDoorF27
namespace Go.Proofs.YtaiigfcfmcicjaaGreatDoor
set_option maxRecDepth 100000
set_option maxHeartbeats 8000000
section
open Go.RowKit
theorem ixl_get : ∀ {C : List Nat} {u : Nat}, u ∈ C -> C[ixl C u]? = some u
 | [], _, h => absurd h List.not_mem_nil
 | x :: C, u, h => by
  show (x :: C)[if x = u then 0 else ixl C u + 1]? = some u
  by_cases e : x = u
  ·rw [if_pos e, e]; rfl
  ·rw [if_neg e]
   exact ixl_get (C := C) (by
    rcases List.mem_cons.1 h with h | h
    ·exact absurd h.symm e
    ·exact h)
theorem ixl_inj {C : List Nat} {u v : Nat} (hu : u ∈ C) (hv : v ∈ C) (e : ixl C u = ixl C v) : u = v := by
 have h1 := ixl_get hu
 have h2 := ixl_get hv
 rw [e, h2] at h1
 exact (Option.some.inj h1).symm
theorem nodup_len : ∀ (n : Nat) (C : List Nat), C.Nodup -> (∀ u ∈ C, u < n) -> C.length <= n
 | 0, [], _, _ => Nat.le_refl _
 | 0, x :: C, _, h => absurd (h x List.mem_cons_self) (Nat.not_lt_zero _)
 | n + 1, C, hn, h => by
  by_cases hm : n ∈ C
  ·have h1 := nodup_len n (C.erase n) (hn.erase _) (fun u hu => by
    have h2 := h u (List.mem_of_mem_erase hu)
    have h3 : u ≠ n := fun e => by
     subst e
     exact hn.not_mem_erase hu
    omega)
   rw [List.length_erase_of_mem hm] at h1
   omega
  ·exact Nat.le_succ_of_le (nodup_len n C hn (fun u hu => by
    have h2 := h u hu
    have h3 : u ≠ n := fun e => hm (e ▸ hu)
    omega))
def wTest (f : Nat) : Bool := (List.range 25).all fun q => match (gWait f)[q]? with
 | none => true
 | some i => (stageq f q != 1 || i == .move 2 7) && (stageq f q != 3 || i == .load 2 2 1) && (stageq f q == 1 || stageq f q == 3 || dstR i != some 2)
theorem wait_tab {f q : Nat} {i : GI} (hf : 1 <= f /\ f <= 4) (hi : (gWait f)[q]? = some i) : (stageq f q = 1 -> i = .move 2 7) /\ (stageq f q = 3 -> i = .load 2 2 1) /\ (stageq f q ≠ 1 -> stageq f q ≠ 3 -> dstR i ≠ some 2) := by
 have hf4 : f = 1 ∨ f = 2 ∨ f = 3 ∨ f = 4 := by omega
 have hq := (List.getElem?_eq_some_iff.1 hi).1
 have hl : (gWait f).length <= 25 := by rcases hf4 with rfl | rfl | rfl | rfl <;> decide
 have ht : wTest f = true := by rcases hf4 with rfl | rfl | rfl | rfl <;> decide
 have h1 := List.all_eq_true.1 ht q (List.mem_range.2 (by omega))
 simp only [hi, Bool.and_eq_true, Bool.or_eq_true, bne_iff_ne, beq_iff_eq] at h1
 obtain ⟨⟨h1, h2⟩, h3⟩ := h1
 refine ⟨fun e => h1.resolve_left (fun h => h e), fun e => h2.resolve_left (fun h => h e), fun a b => ?_⟩
 rcases h3 with (h3 | h3) | h3
 ·exact absurd h3 a
 ·exact absurd h3 b
 ·exact h3
section
variable {f n : Nat} {G : Gq} {m : Mk} {t q d : Nat} {i : GI}
theorem QI.chain_len (h : QI f n G m) : G.ch.length <= n := nodup_len n G.ch h.chn h.chl
theorem QD.far_val (h : QD f n G m) {r c k : Nat} {v : Int} (h1 : 1 <= c) (hc : c <= n + 2) (hv : v = (c : Int) + 1) (hw : ∀ x ∈ m.mem.waits t, ¬ (x.c = (c : Int) /\ x.w = (k : Int))) : (m.load t r v k).regs t r = m.mem.ar.words c k := by
 obtain ⟨L, g0, r0⟩ := h.1.cell h1 hc
 rw [hv, <- r0, load_live L, setReg_reg, if_pos rfl]
 unfold vw
 exact foldl_none (fun x hx e => hw x hx ⟨e.1, e.2.2⟩)
theorem QD.hub_val (h : QD f n G m) (ht : t < n) {r k : Nat} : (m.load t r (m.regs t 7) k).regs t r = m.mem.ar.words 2 k := by
 refine h.far_val (c := 2) (by omega) (by omega) (by rw [h.1.r7 t ht]; rfl) (fun x hx e => ?_)
 rcases (h.1.wts t ht x hx).2 with ⟨h1, -⟩ | h1 <;> (have := e.1; omega)
theorem QI.head (h : QI f n G m) : (G.ch = [] /\ m.mem.ar.words 2 1 = 0) ∨ ∃ u ∈ G.ch, m.mem.ar.words 2 1 = (u : Int) + 4 /\ ixl G.ch u + 1 = G.ch.length := by
 have hh := h.chh
 cases hl : G.ch.getLast? with
 | none =>
  rw [hl] at hh
  exact .inl ⟨List.getLast?_eq_none_iff.1 hl, hh⟩
 | some u =>
  rw [hl] at hh
  rw [List.getLast?_eq_getElem?] at hl
  have hm := List.mem_of_getElem? hl
  refine .inr ⟨u, hm, hh, ?_⟩
  rw [ixl_at h.chn hl]
  have := List.length_pos_iff.2 (List.ne_nil_of_mem hm)
  omega
theorem cix_of {C : List Nat} (u : Nat) : cix n C ((u : Int) + 4) = ixl C u := by
 unfold cix
 rw [if_neg (by omega)]
 congr 1
 omega
theorem QD.link_val (h : QD f n G m) (ht : t < n) (hS : Scq G.ch (Olq G t) (shq m) (m.regs t) 3) : (m.load t 2 (m.regs t 2) 1).regs t 2 = 0 ∨ ((m.load t 2 (m.regs t 2) 1).regs t 2 ≠ 0 /\ cix n G.ch ((m.load t 2 (m.regs t 2) 1).regs t 2) + 1 <= cix n G.ch (m.regs t 2)) := by
 have hlen := h.1.chain_len
 rcases hS with ⟨h1, -⟩ | ⟨i, u, h1, h2, -, -⟩
 ·have e : (m.load t 2 (m.regs t 2) 1).regs t 2 = m.mem.ar.words 2 1 := by
   refine h.far_val (c := 2) (by omega) (by omega) (by rw [h1]; rfl) (fun x hx e => ?_)
   rcases (h.1.wts t ht x hx).2 with ⟨h5, -⟩ | h5 <;> (have := e.1; omega)
  rw [e, h1]
  rcases h.1.head with ⟨-, e0⟩ | ⟨u, hu, e0, e1⟩
  ·exact .inl e0
  ·refine .inr ⟨by rw [e0]; omega, ?_⟩
   rw [e0, cix_of]
   show ixl G.ch u + 1 <= n
   omega
 ·have hu := List.mem_of_getElem? h1
  have hun := h.1.chl u hu
  have e : (m.load t 2 (m.regs t 2) 1).regs t 2 = m.mem.ar.words (u + 3) 1 := by
   refine h.far_val (c := u + 3) (by omega) (by omega) (by rw [h2]; omega) (fun x hx e => ?_)
   rcases (h.1.wts t ht x hx).2 with ⟨h5, -, -, h6⟩ | h5
   ·have e1 : u = t := by have := e.1; omega
    subst e1
    exact (h6 e.2).2 hu
   ·have := e.1; omega
  rw [e, h2, cix_of, h.1.chw i u h1, ixl_at h.1.chn h1]
  cases i with
  | zero => exact .inl rfl
  | succ j =>
   obtain ⟨v, hv⟩ : ∃ v, G.ch[j]? = some v := ⟨_, List.getElem?_eq_getElem (by have := (List.getElem?_eq_some_iff.1 h1).1; omega)⟩
   right
   show (match G.ch[j]? with | none => 0 | some v => (v : Int) + 4) ≠ 0 /\ cix n G.ch (match G.ch[j]? with | none => 0 | some v => (v : Int) + 4) + 1 <= j + 1
   rw [hv]
   refine ⟨by show (v : Int) + 4 ≠ 0; omega, ?_⟩
   show cix n G.ch ((v : Int) + 4) + 1 <= j + 1
   rw [cix_of, ixl_at h.1.chn hv]
   exact Nat.le_refl _
theorem QD.wait_rank (h : QD f n G m) (ht : t < n) (hp : G.pt t = some ⟨.wait, q, d⟩) (hi : (gWait f)[q]? = some i) (hs : ¬ spins f q) {ph ph' : Nat} (hph : ph' <= 6) :
  rkW f n G.ch ((gExec m t i).regs t) ph' (gNext (gWait f) q (m.regs t) i) + 1 <= rkW f n G.ch (m.regs t) ph q := by
 obtain ⟨t1, t3, t2⟩ := wait_tab h.1.fl hi
 have L := h.1.la t ht
 rw [hp] at L
 obtain ⟨-, -, -, Sc⟩ := L
 refine wait_down h.1.fl hi hs hph (fun e => ?_) (fun e => ?_) (fun a b => keepR m t i (t2 a b))
 ·have e := t1 e
  subst e
  show (m.setReg t 2 (m.regs t 7)).regs t 2 = 3
  rw [setReg_reg, if_pos rfl]
  exact h.1.r7 t ht
 ·rw [e] at Sc
  have e := t3 e
  subst e
  exact h.link_val ht Sc
end
end
section
open Go.RowKit
theorem jof_of {C : List Nat} (u : Nat) : jof C ((u : Int) + 4) = ixl C u + 1 := by
 unfold jof
 rw [if_neg (by omega), show ((u : Int) + 4 - 4).toNat = u by omega]
theorem enter_down2 {n q t : Nat} {C C' : List Nat} {r r' : Nat -> Int} {i : GI} (hi : (gEnter 4)[q]? = some i) (hC : t ∈ C' ∨ C' = C) (hn : (11 <= q /\ q <= 14) ∨ q = 18 -> t ∉ C') (h0 : (11 <= q /\ q <= 14) ∨ (16 <= q /\ q <= 18) -> r' 0 = r 0)
  (h15 : q = 15 -> t ∈ C' ∨ C' = C /\ t ∉ C /\ jof C (r 0) + 1 <= jof C (r' 0) /\ jof C (r' 0) <= n) : rkE n C' t r' (gNext (gEnter 4) q r i) + gw i <= rkE n C t r q := by
 by_cases ht : t ∈ C'
 ·have hq : q < 23 := (List.getElem?_eq_some_iff.1 hi).1
  have hj : ∀ a, (n - a) * 10 <= n * 10 := fun a => Nat.mul_le_mul_right _ (Nat.sub_le _ _)
  have hj2 := hj (jof C' (r' 0))
  by_cases h1 : (11 <= q /\ q <= 14) ∨ q = 18
  ·exact absurd ht (hn h1)
  ·obtain rfl | rfl | rfl | rfl | rfl | rfl | rfl | rfl | rfl | rfl | rfl | rfl | rfl | rfl | rfl | rfl | rfl | rfl : q = 0 ∨ q = 1 ∨ q = 2 ∨ q = 3 ∨ q = 4 ∨ q = 5 ∨ q = 6 ∨ q = 7 ∨ q = 8 ∨ q = 9 ∨ q = 10 ∨ q = 15 ∨ q = 16 ∨ q = 17 ∨ q = 19 ∨ q = 20 ∨ q = 21 ∨ q = 22 := by omega
   all_goals
    obtain rfl : _ = i := Option.some.inj (show some _ = some i from hi)
    clear hC hn h0 h15
    first
    | (simp [gNext, rkE, eTab, gw]; (try omega); done)
    | (simp [gNext, rkE, eTab, gw, ht]; (try omega); done)
    | (by_cases hc : t ∈ C <;> simp [gNext, rkE, eTab, gw, ht, hc] <;> (try omega); done)
    | (by_cases e0 : r 0 = 0 <;> simp [gNext, gAt, gLab, gEnter, gOuter, gJoin, gShow, rkE, eTab, gw, e0] <;> (try omega); done)
    | (by_cases e0 : r 0 = r 6 <;> simp [gNext, gAt, gLab, gEnter, gOuter, gJoin, gShow, rkE, eTab, gw, e0] <;> (try omega); done)
    | (by_cases hc : t ∈ C <;> by_cases e0 : r 0 = r 1 <;> simp [gNext, gAt, gLab, gEnter, gOuter, gJoin, gShow, rkE, gw, e0, ht, hc] <;> (try omega); done)
    | (simp [gNext, gAt, gLab, gEnter, gOuter, gJoin, gShow, rkE, eTab, gw]; (try omega); done)
 ·rcases hC with h | rfl
  ·exact absurd h ht
  ·exact enter_down hi (fun _ => rfl) h0 h15 (fun _ => ht)
def eTest : Bool := (List.range 23).all fun q => match (gEnter 4)[q]? with
 | none => true
 | some i => (!(decide ((11 <= q /\ q <= 14) ∨ (16 <= q /\ q <= 18))) || dstR i != some 0) && (q != 10 || i == .load 0 7 1) && (q != 15 || i == .cas 7 0 1)
theorem enter_tab {q : Nat} {i : GI} (hi : (gEnter 4)[q]? = some i) : ((11 <= q /\ q <= 14) ∨ (16 <= q /\ q <= 18) -> dstR i ≠ some 0) /\ (q = 10 -> i = .load 0 7 1) /\ (q = 15 -> i = .cas 7 0 1) := by
 have hq : q < 23 := (List.getElem?_eq_some_iff.1 hi).1
 have ht : eTest = true := by decide
 have h1 := List.all_eq_true.1 ht q (List.mem_range.2 (by omega))
 simp only [hi, Bool.and_eq_true, Bool.or_eq_true, bne_iff_ne, beq_iff_eq, Bool.not_eq_true', decide_eq_false_iff_not] at h1
 obtain ⟨⟨h1, h2⟩, h3⟩ := h1
 exact ⟨fun e => h1.resolve_left (fun h => h e), fun e => h2.resolve_left (fun h => h e), fun e => h3.resolve_left (fun h => h e)⟩
section
variable {n : Nat} {G G' : Gq} {m : Mk} {t q d : Nat} {i : GI}
theorem QD.cas_val (h : QD 4 n G m) (ht : t < n) : (gExec m t (.cas 7 0 1)).regs t 0 = (m.fence t).mem.ar.words 2 1 /\ (gExec m t (.cas 7 0 1)).mem.ar.words 2 1 = casV ((m.fence t).mem.ar.words 2 1) (m.regs t 0) (m.regs t 1) := by
 obtain ⟨L, g0, r0⟩ := h.1.cell (show 1 <= 2 by decide) (show 2 <= n + 2 by omega)
 have r0 : rf m 2 = 3 := by rw [r0]; rfl
 have e : gExec m t (.cas 7 0 1) = ((m.fence t).setWord 3 1 (casV ((m.fence t).mem.ar.words 2 1) (m.regs t 0) (m.regs t 1))).setReg t 0 ((m.fence t).mem.ar.words 2 1) := by
  show m.cas t 0 (m.regs t 7) 1 (m.regs t 0) (m.regs t 1) = _
  unfold Mk.cas
  rw [h.1.r7 t ht, if_pos (by rw [<- r0]; exact L.names)]
  rfl
 rw [e]
 refine ⟨by rw [setReg_reg, if_pos rfl], ?_⟩
 show (if (2 : Nat) = 2 /\ (1 : Nat) = 1 then casV ((m.fence t).mem.ar.words 2 1) (m.regs t 0) (m.regs t 1) else (m.fence t).mem.ar.words 2 1) = _
 rw [if_pos ⟨rfl, rfl⟩]
theorem QD.enter_rank (h : QD 4 n G m) (ht : t < n) (hp : G.pt t = some ⟨.enter, q, d⟩) (hi : (gEnter 4)[q]? = some i) (hx : Lx 4 G.ch (m.regs t) (G.pt t)) (h' : QD 4 n G' (gExec m t i)) (hpt : G'.pt t = some ⟨.enter, gNext (gEnter 4) q (m.regs t) i, d⟩) (hch : G'.ch = G.ch ∨ G'.ch = G.ch ++ [t]) :
  rkE n G'.ch t ((gExec m t i).regs t) (gNext (gEnter 4) q (m.regs t) i) + gw i <= rkE n G.ch t (m.regs t) q /\ Lx 4 G'.ch ((gExec m t i).regs t) (some ⟨.enter, gNext (gEnter 4) q (m.regs t) i, d⟩) := by
 obtain ⟨t0, t10, t15⟩ := enter_tab hi
 have L := h.1.la t ht
 rw [hp] at L
 have L := L.2
 have L' := h'.1.la t ht
 rw [hpt] at L'
 have L' := L'.2
 rw [hp] at hx
 have hC : ∀ u ∈ G.ch, u ∈ G'.ch := fun u hu => by
  rcases hch with e | e <;> rw [e]
  ·exact hu
  ·exact List.mem_append_left _ hu
 have hC2 : t ∈ G'.ch ∨ G'.ch = G.ch := by
  rcases hch with e | e
  ·exact .inr e
  ·exact .inl (by rw [e]; exact List.mem_append_right _ List.mem_cons_self)
 have hlen := h.1.chain_len
 have hF := (h.fence ht).1.head
 have hd := (h.fence ht).1.chain_len
 constructor
 ·refine enter_down2 hi hC2 (fun e => ?_) (fun e => keepR m t i (t0 e)) (fun e => ?_)
  ·have hq : q = 11 ∨ q = 12 ∨ q = 13 ∨ q = 14 ∨ q = 18 := by omega
   rcases hq with rfl | rfl | rfl | rfl | rfl
   all_goals
    obtain rfl : _ = i := Option.some.inj (show some _ = some i from hi)
   ·exact L'.2.2.2
   ·exact L'.1.2.2.2
   ·exact L'.1.2.2.2
   ·exact L'.1.2.2.2
   ·exact L'.2.2.2
  ·subst e
   have ei := t15 rfl
   subst ei
   rcases hC2 with h1 | h1
   ·exact .inl h1
   ·obtain ⟨v1, v2⟩ := h.cas_val ht
    have hnj : t ∉ G.ch := L.1.2.2.2
    have hr1 : m.regs t 1 = (t : Int) + 4 := L.2.1
    refine .inr ⟨h1, hnj, ?_⟩
    have hh' := h'.1.head
    rw [h1, v2] at hh'
    have hne : (m.fence t).mem.ar.words 2 1 ≠ m.regs t 0 := fun e => by
     unfold casV at hh'
     rw [if_pos e, hr1] at hh'
     rcases hh' with ⟨-, h2⟩ | ⟨u, hu, h2, -⟩
     ·omega
     ·have : u = t := by omega
      subst this
      exact hnj hu
    rw [v1]
    rcases hF with ⟨h2, h3⟩ | ⟨u, hu, h3, h4⟩
    ·exfalso
     rcases hx rfl (by omega) (by omega) with h5 | ⟨w, hw, -⟩
     ·exact hne (by rw [h3, h5])
     ·rw [h2] at hw; cases hw
    ·rw [h3] at hne ⊢
     rw [jof_of]
     refine ⟨?_, by omega⟩
     rcases hx rfl (by omega) (by omega) with h5 | ⟨w, hw, h5⟩
     ·rw [h5]
      show 0 + 1 <= _
      omega
     ·rw [h5, jof_of]
      have h6 := ixl_lt hw
      have h7 : ixl G.ch w ≠ ixl G.ch u := fun e => by
       have := ixl_inj hw hu e
       subst this
       exact hne h5.symm
      omega
 ·refine enter_Lx hi hx hC (fun e => keepR m t i e) (fun e => ?_)
  rcases e with e | e
  ·have ei := t10 e
   subst ei
   have hv : (gExec m t (.load 0 7 1)).regs t 0 = m.mem.ar.words 2 1 := h.hub_val ht
   rw [hv]
   rcases h.1.head with ⟨-, h3⟩ | ⟨u, hu, h3, -⟩
   ·exact .inl h3
   ·exact .inr ⟨u, hC u hu, h3⟩
  ·have ei := t15 e
   subst ei
   rw [(h.cas_val ht).1]
   rcases hF with ⟨-, h3⟩ | ⟨u, hu, h3, -⟩
   ·exact .inl h3
   ·exact .inr ⟨u, hC u hu, h3⟩
end
end
section
open Go.RowKit
def wTest2 (f : Nat) : Bool := (gWait f).all fun i => gw i == 1
theorem wait_gw {f q : Nat} {i : GI} (hf : 1 <= f /\ f <= 4) (hi : (gWait f)[q]? = some i) : gw i = 1 := by
 have hf4 : f = 1 ∨ f = 2 ∨ f = 3 ∨ f = 4 := by omega
 have ht : wTest2 f = true := by rcases hf4 with rfl | rfl | rfl | rfl <;> decide
 exact eq_of_beq (List.all_eq_true.1 ht i (List.mem_of_getElem? hi))
section
variable {f n : Nat} {G G' : Gq} {m : Mk} {t q d : Nat} {i : GI} {tg : Tq}
theorem QD.own_rank (h : QD f n G m) (hwr : ∀ j, Wd (m.regs t j)) (ht : t < n) (hp : G.pt t = some ⟨tg, q, d⟩) (hi : (tqCode f tg)[q]? = some i) (hne : tg ≠ .empty) (hx : Lx f G.ch (m.regs t) (G.pt t)) (h' : QD f n G' (hExec m t tg q i)) (hpt : G'.pt t = some ⟨tg, gNext (tqCode f tg) q (m.regs t) i, d⟩)
  (hch : G'.ch = G.ch ∨ G'.ch = G.ch ++ [t] /\ ∃ q2 d2, some (⟨tg, gNext (tqCode f tg) q (m.regs t) i, d⟩ : Pq) = some ⟨.enter, q2, d2⟩) :
  Lx f G'.ch ((hExec m t tg q i).regs t) (some ⟨tg, gNext (tqCode f tg) q (m.regs t) i, d⟩) /\ (¬ (tg = .wait /\ spins f q) -> ∀ ph ph', ph' <= 6 -> rkT f n G'.ch t ((hExec m t tg q i).regs t) ph' (some ⟨tg, gNext (tqCode f tg) q (m.regs t) i, d⟩) + gw i <= rkT f n G.ch t (m.regs t) ph (some ⟨tg, q, d⟩)) := by
 have hf := h.1.fl
 have plain : tg ≠ .wait -> (tg = .enter -> f ≠ 4) -> sfx (tqCode f tg) (gNext (tqCode f tg) q (m.regs t) i) + gw i <= sfx (tqCode f tg) q := fun a b => fwd_down (tg_fwd hf a b hne) hi _
 cases tg with
 | wait =>
  have hC : G'.ch = G.ch := by
   rcases hch with e | ⟨-, q2, d2, e⟩
   ·exact e
   ·cases e
  have L := h.1.la t ht
  rw [hp] at L
  obtain ⟨-, -, -, Sc⟩ := L
  rw [hp] at hx
  rw [hC]
  have set : ∀ (r : Nat) (v : Int), (m.setReg t r v).regs t r = v := fun r v => by rw [setReg_reg, if_pos rfl]
  refine ⟨wait_Lx hf hi hx hwr (fun e => ?_) (fun e => ?_) (fun j => keepR m t i) (fun a b e => ?_) (fun a b c e => ?_) (fun a b c e => ?_), fun hns ph ph' hph => ?_⟩
  ·rw [e] at Sc; exact Sc.1
  ·rw [e] at Sc; exact Sc.1
  ·subst e; exact set _ _
  ·subst e; exact set _ _
  ·subst e; exact set _ _
  ·rw [wait_gw hf hi]
   exact h.wait_rank ht hp hi (fun e => hns ⟨rfl, e⟩) hph
 | enter =>
  by_cases h4 : f = 4
  ·subst h4
   have hC : G'.ch = G.ch ∨ G'.ch = G.ch ++ [t] := by
    rcases hch with e | ⟨e, -⟩
    ·exact .inl e
    ·exact .inr e
   obtain ⟨h1, h2⟩ := h.enter_rank ht hp hi hx h' hpt hC
   exact ⟨h2, fun _ ph ph' _ => h1⟩
  ·refine ⟨fun e => absurd e h4, fun _ ph ph' _ => ?_⟩
   show (if f = 4 then _ else sfx (gEnter f) _) + gw i <= if f = 4 then _ else sfx (gEnter f) q
   rw [if_neg h4, if_neg h4]
   exact plain (by decide) (fun _ => h4)
 | leave => exact ⟨trivial, fun _ ph ph' _ => plain (by decide) (fun e => by cases e)⟩
 | rest => exact ⟨trivial, fun _ ph ph' _ => plain (by decide) (fun e => by cases e)⟩
 | gone => exact ⟨trivial, fun _ ph ph' _ => plain (by decide) (fun e => by cases e)⟩
 | read => exact ⟨trivial, fun _ ph ph' _ => plain (by decide) (fun e => by cases e)⟩
 | put v => exact ⟨trivial, fun _ ph ph' _ => plain (fun e => by cases e) (fun e => by cases e)⟩
 | drop => exact ⟨trivial, fun _ ph ph' _ => plain (by decide) (fun e => by cases e)⟩
 | later => exact ⟨trivial, fun _ ph ph' _ => plain (by decide) (fun e => by cases e)⟩
 | empty => exact absurd rfl hne
theorem scan_at {C : List Nat} {O : Nat -> Prop} {s r : Nat -> Int} {k : Nat} (h : Scq C O s r k) (h2 : 2 <= k) (h15 : k <= 15) (h4 : ¬ (k = 4 /\ r 2 = 0)) : r 2 = 3 ∨ ∃ u ∈ C, r 2 = (u : Int) + 4 := by
 have cur : ∀ {P : Nat -> Prop}, Cuq C O r P -> r 2 = 3 ∨ ∃ u ∈ C, r 2 = (u : Int) + 4 := fun ⟨i, u, a, b, _⟩ => .inr ⟨u, List.mem_of_getElem? a, b⟩
 have hk : k = 2 ∨ k = 3 ∨ k = 4 ∨ k = 5 ∨ k = 6 ∨ k = 7 ∨ k = 8 ∨ k = 9 ∨ k = 10 ∨ k = 11 ∨ k = 12 ∨ k = 13 ∨ k = 14 ∨ k = 15 := by omega
 rcases hk with rfl | rfl | rfl | rfl | rfl | rfl | rfl | rfl | rfl | rfl | rfl | rfl | rfl | rfl
 ·rcases h with ⟨a, -⟩ | h
  ·exact .inl a
  ·exact cur h
 ·rcases h with ⟨a, -⟩ | h
  ·exact .inl a
  ·exact cur h
 ·rcases h with ⟨a, -⟩ | h
  ·exact absurd ⟨rfl, a⟩ h4
  ·exact cur h
 ·exact cur h
 ·exact cur h
 ·exact cur h
 ·exact cur h.2
 ·exact cur h.2
 ·exact cur h
 ·exact cur h.2
 ·exact cur h
 ·exact cur h
 ·exact cur h
 ·exact cur h
theorem cix_app {C D : List Nat} {r : Int} (h : r = 3 ∨ ∃ u ∈ C, r = (u : Int) + 4) : cix n (C ++ D) r = cix n C r := by
 rcases h with rfl | ⟨u, hu, rfl⟩
 ·rfl
 ·rw [cix_of, cix_of, ixl_app hu]
theorem jof_app {C D : List Nat} {r : Int} (h : r = 0 ∨ ∃ u ∈ C, r = (u : Int) + 4) : jof (C ++ D) r = jof C r := by
 rcases h with rfl | ⟨u, hu, rfl⟩
 ·rfl
 ·rw [jof_of, jof_of, ixl_app hu]
theorem QD.other_rank (h : QD f n G m) {u : Nat} (hu : u < n) (hut : u ≠ t) (hx : Lx f G.ch (m.regs u) (G.pt u)) {C' : List Nat} (hch : C' = G.ch ∨ C' = G.ch ++ [t]) (ph : Nat) : rkT f n C' u (m.regs u) ph (G.pt u) = rkT f n G.ch u (m.regs u) ph (G.pt u) := by
 rcases hch with rfl | rfl
 ·rfl
 ·have L := h.1.la u hu
  generalize G.pt u = g at *
  match g, L, hx with
  | some ⟨.wait, q, d⟩, L, hx =>
   obtain ⟨-, -, -, Sc⟩ := L
   show rkW f n (G.ch ++ [t]) (m.regs u) ph q = rkW f n G.ch (m.regs u) ph q
   unfold rkW
   by_cases h0 : stageq f q = 0
   ·rw [if_pos h0, if_pos h0]
   ·by_cases h1 : stageq f q = 1
    ·rw [if_neg h0, if_pos h1, if_neg h0, if_pos h1]
    ·by_cases h16 : 16 <= stageq f q
     ·rw [if_neg h0, if_neg h1, if_pos h16, if_neg h0, if_neg h1, if_pos h16]
     ·by_cases h4 : stageq f q = 4 /\ m.regs u 2 = 0
      ·rw [if_neg h0, if_neg h1, if_neg h16, if_pos h4, if_neg h0, if_neg h1, if_neg h16, if_pos h4]
      ·rw [cix_app (scan_at Sc (by omega) (by omega) h4)]
  | some ⟨.enter, q, d⟩, L, hx =>
   show (if f = 4 then rkE n (G.ch ++ [t]) u (m.regs u) q else sfx (gEnter f) q) = if f = 4 then rkE n G.ch u (m.regs u) q else sfx (gEnter f) q
   by_cases h4 : f = 4
   ·rw [if_pos h4, if_pos h4]
    unfold rkE
    by_cases h1 : q <= 10
    ·rw [if_pos h1, if_pos h1]
    ·rw [if_neg h1, if_neg h1]
     by_cases h2 : q <= 18
     ·rw [jof_app (hx h4 (by omega) h2)]
      have e : (u ∈ G.ch ++ [t]) = (u ∈ G.ch) := by
       apply propext
       constructor
       ·intro hm
        rcases List.mem_append.1 hm with hm | hm
        ·exact hm
        ·exact absurd (List.mem_singleton.1 hm) hut
       ·exact List.mem_append_left _
      simp only [e]
     ·rw [if_neg (by omega), if_neg h2, if_neg (by omega), if_neg h2]
   ·rw [if_neg h4, if_neg h4]
  | some ⟨.leave, q, d⟩, _, _ => rfl
  | some ⟨.rest, q, d⟩, _, _ => rfl
  | some ⟨.gone, q, d⟩, _, _ => rfl
  | some ⟨.read, q, d⟩, _, _ => rfl
  | some ⟨.put v, q, d⟩, _, _ => rfl
  | some ⟨.drop, q, d⟩, _, _ => rfl
  | some ⟨.later, q, d⟩, _, _ => rfl
  | some ⟨.empty, q, d⟩, _, _ => rfl
  | none, _, _ => rfl
end
end
section
open Go.RowKit
section
variable {f n : Nat} {G : Gq} {m : Mk} {t u : Nat}
theorem QD.drain1_sh (h : QD f n G m) (ht : t < n) (hut : u ≠ t ∨ f ≠ 2) (hu : u < n) : shq (m.drain1 t) u = shq m u := by
 cases hw : m.mem.waits t with
 | nil => rw [drain1_nil hw]
 | cons x l =>
  have E := drain1_cons hw
  have hxm : x ∈ m.mem.waits t := by rw [hw]; exact List.mem_cons_self
  obtain ⟨⟨x0, x1⟩, hx⟩ := h.1.wts t ht x hxm
  unfold shq
  rw [E.words, if_neg]
  rintro ⟨e1, e2, -⟩
  rcases hx with ⟨h1, -, h2, -⟩ | h1
  ·rcases hut with e | e
   ·omega
   ·have := h2 e
    omega
  ·omega
theorem QD.fence_sh (h : QD f n G m) (ht : t < n) (hut : u ≠ t) (hu : u < n) : shq (m.fence t) u = shq m u :=
 (fence_of (P := fun m' => QD f n G m' /\ shq m' u = shq m u) (fun _ h' => ⟨h'.1.drain1 ht, (h'.1.drain1_sh ht (.inl hut) hu).trans h'.2⟩) ⟨h, rfl⟩).2
theorem QD.room_sh (h : QD f n G m) (ht : t < n) (hut : u ≠ t) (hu : u < n) : shq (m.room t) u = shq m u :=
 (room_of (P := fun m' => QD f n G m' /\ shq m' u = shq m u) (fun _ h' => ⟨h'.1.drain1 ht, (h'.1.drain1_sh ht (.inl hut) hu).trans h'.2⟩) ⟨h, rfl⟩).2
def shTest (f : Nat) (s : List GI) : Bool := s.all fun i => match i with
 | .swap _ a _ => a == 5 || a == 6
 | .cas a _ _ => a == 7
 | .force => f == 2
 | _ => true
theorem sh_tab {f : Nat} (hf : 1 <= f /\ f <= 4) (tg : Tq) : shTest f (tqCode f tg) = true := by
 have hf4 : f = 1 ∨ f = 2 ∨ f = 3 ∨ f = 4 := by omega
 rcases hf4 with rfl | rfl | rfl | rfl <;> cases tg <;> rfl
theorem setWord_sh (m : Mk) {c : Nat} (k : Nat) (v : Int) (hc : c ≠ u + 3) (h64 : c < 64) : shq (m.setWord ((c : Int) + 1) k v) u = shq m u := by
 have e : (cellOf ((c : Int) + 1)).toNat = c := by unfold cellOf; omega
 show (if u + 3 = (cellOf ((c : Int) + 1)).toNat /\ 0 = (k : Int).toNat then v else m.mem.ar.words (u + 3) 0) = _
 rw [e, if_neg (fun h => hc h.1.symm)]
 rfl
theorem QD.step_sh (h : QD f n G m) (hf2 : f ≠ 2) (ht : t < n) (hut : u ≠ t) (hu : u < n) {tg : Tq} {q : Nat} {i : GI} (hi : (tqCode f tg)[q]? = some i) : shq (gExec m t i) u = shq m u := by
 have T := List.all_eq_true.1 (sh_tab h.1.fl tg) i (List.mem_of_getElem? hi)
 have hn := h.1.few
 cases i with
 | load r a k => show shq (m.load _ _ _ _) u = _; unfold Mk.load; split <;> rfl
 | store a r k =>
  show shq (m.store _ _ _ _) u = _
  unfold Mk.store
  split
  ·exact h.room_sh ht hut hu
  ·rfl
 | swap r a k =>
  show shq (m.swap _ _ _ _ _) u = _
  unfold Mk.swap
  split
  ·have ha : m.regs t a = ((1 : Nat) : Int) + 1 ∨ m.regs t a = ((t + 3 : Nat) : Int) + 1 := by
    rcases (show (a == 5 || a == 6) = true from T) |> (fun e => by simpa using e : _ -> a = 5 ∨ a = 6) with rfl | rfl
    ·left; rw [h.1.r5 t ht]; rfl
    ·right; rw [h.1.r6 t ht]; omega
   rw [<- h.fence_sh ht hut hu]
   rcases ha with e | e <;> rw [e]
   ·exact setWord_sh (m.fence t) k (m.regs t r) (by omega) (by omega)
   ·exact setWord_sh (m.fence t) k (m.regs t r) (by omega) (by omega)
  ·rfl
 | cas a r k =>
  show shq (m.cas _ _ _ _ _ _) u = _
  unfold Mk.cas
  split
  ·have ha : m.regs t a = ((2 : Nat) : Int) + 1 := by
    obtain rfl : a = 7 := by simpa using (show (a == 7) = true from T)
    rw [h.1.r7 t ht]; rfl
   rw [<- h.fence_sh ht hut hu, ha]
   exact setWord_sh (m.fence t) k _ (by omega) (by omega)
  ·rfl
 | fence => exact h.fence_sh ht hut hu
 | force => exact absurd (by simpa using (show (f == 2) = true from T)) hf2
 | alloc r =>
  show shq (m.alloc _ _) u = _
  unfold Mk.alloc
  cases hc : m.mem.ar.free? with
  | none => rfl
  | some c =>
   obtain ⟨c2, -, -⟩ := h.freec hc
   show (if u + 3 = c /\ _ then _ else m.mem.ar.words (u + 3) 0) = _
   rw [if_neg (fun e => by have := e.1; omega)]
   rfl
 | free r =>
  show shq (m.free _ _) u = _
  unfold Mk.free
  split
  ·exact h.fence_sh ht hut hu
  ·rfl
 | need r => show shq (m.need _) u = _; unfold Mk.need; split <;> rfl
 | _ => rfl
theorem QD.ov_sh2 (h : QD f n G m) (hf2 : f ≠ 2) (hu : u < n) : ovq m u 0 = shq m u := by
 unfold ovq vw shq
 refine foldl_none (fun x hx e => ?_)
 rcases (h.1.wts u hu x hx).2 with ⟨-, -, h2, -⟩ | h1
 ·exact h2 hf2 e.2.2
 ·have := e.1; omega
theorem ov_sh (hw : m.mem.waits u = []) : ovq m u 0 = shq m u := by
 unfold ovq vw shq
 rw [hw]
 rfl
end
section
variable (m : Mk) (t u : Nat)
theorem fence_wlen : ((m.fence t).mem.waits u).length <= (m.mem.waits u).length := by
 by_cases e : u = t
 ·subst e
  rw [show (m.fence u).mem.waits u = [] from Rm.drainAll_waits _ _ _ rfl]
  exact Nat.zero_le _
 ·rw [fence_waits_ne m t e]
  exact Nat.le_refl _
theorem drain1_wlen : ((m.drain1 t).mem.waits u).length <= (m.mem.waits u).length := by
 unfold Mk.drain1
 split
 ·exact Nat.le_refl _
 ·rename_i x l hl
  show ((m.mem.drained t x l).waits u).length <= _
  by_cases e : u = t
  ·subst e
   rw [Rm.drained_waits, hl]
   exact Nat.le_succ _
  ·rw [Rm.drained_waits_ne _ _ _ _ _ e]
   exact Nat.le_refl _
theorem drain1_less (h : m.mem.waits t ≠ []) : ((m.drain1 t).mem.waits t).length + 1 = (m.mem.waits t).length := by
 unfold Mk.drain1
 split
 ·rename_i hl
  exact absurd hl h
 ·rename_i x l hl
  show ((m.mem.drained t x l).waits t).length + 1 = _
  rw [Rm.drained_waits, hl]
  rfl
theorem room_wlen : ((m.room t).mem.waits u).length <= (m.mem.waits u).length := by
 unfold Mk.room
 split
 ·exact drain1_wlen m t u
 ·exact Nat.le_refl _
end
theorem fenceFrom_wlen (u : Nat) : ∀ (k : Nat) (m : Mk) (t : Nat), ((m.fenceFrom t k).mem.waits u).length <= (m.mem.waits u).length
 | 0, _, _ => Nat.le_refl _
 | k + 1, m, t => Nat.le_trans (fenceFrom_wlen u k (m.fence t) (t + 1)) (fence_wlen m t u)
theorem gExec_wlen (m : Mk) (t u : Nat) (i : GI) : ((gExec m t i).mem.waits u).length + 1 <= (m.mem.waits u).length + (if u = t then gw i else 1) := by
 have hg : 1 <= gw i := by cases i <;> first | exact Nat.le_refl _ | exact Nat.succ_le_succ (Nat.zero_le _)
 have fin : ∀ {k : Nat}, k <= (m.mem.waits u).length -> k + 1 <= (m.mem.waits u).length + (if u = t then gw i else 1) := fun h => by split <;> omega
 cases i with
 | store a r k =>
  show ((m.store _ _ _ _).mem.waits u).length + 1 <= _
  unfold Mk.store
  split
  ·have h1 := room_wlen m t u
   by_cases e : u = t
   ·subst e
    rw [if_pos rfl]
    have e2 : (((m.room u).put u (m.regs u a) k (m.regs u r)).mem.waits u) = (m.room u).mem.waits u ++ [⟨cellOf (m.regs u a), genOf (m.regs u a), k, m.regs u r⟩] := by
     show (if u = u then _ else _) = _
     rw [if_pos rfl]
    rw [e2, List.length_append]
    show _ + 1 + 1 <= _ + 2
    omega
   ·rw [if_neg e]
    have e2 : (((m.room t).put t (m.regs t a) k (m.regs t r)).mem.waits u) = (m.room t).mem.waits u := by
     show (if u = t then _ else _) = _
     rw [if_neg e]
    rw [e2]
    omega
  ·exact fin nL
 | load r a k => exact fin (by show ((m.load _ _ _ _).mem.waits u).length <= _; unfold Mk.load; split <;> exact Nat.le_refl _)
 | swap r a k =>
  refine fin ?_
  show ((m.swap _ _ _ _ _).mem.waits u).length <= _
  unfold Mk.swap
  split
  ·exact fence_wlen m t u
  ·exact Nat.le_refl _
 | cas a r k =>
  refine fin ?_
  show ((m.cas _ _ _ _ _ _).mem.waits u).length <= _
  unfold Mk.cas
  split
  ·exact fence_wlen m t u
  ·exact Nat.le_refl _
 | fence => exact fin (fence_wlen m t u)
 | force => exact fin (fenceFrom_wlen u _ m 0)
 | alloc r => exact fin (by show ((m.alloc _ _).mem.waits u).length <= _; unfold Mk.alloc; split <;> exact Nat.le_refl _)
 | free r =>
  refine fin ?_
  show ((m.free _ _).mem.waits u).length <= _
  unfold Mk.free
  split
  ·exact fence_wlen m t u
  ·exact Nat.le_refl _
 | need r => exact fin (by show ((m.need _).mem.waits u).length <= _; unfold Mk.need; split <;> exact Nat.le_refl _)
 | _ => exact fin nL
def liv (m : Mk) : Nat := ((List.range m.mem.ar.size).filter fun c => m.mem.ar.there c).length
theorem liv_same {m m' : Mk} (h1 : m'.mem.ar.size = m.mem.ar.size) (h2 : m'.mem.ar.there = m.mem.ar.there) : liv m' = liv m := by unfold liv; rw [h1, h2]
theorem filter_one (P : Nat -> Bool) (c : Nat) (b : Bool) : ∀ N : Nat, ((List.range N).filter fun j => if j = c then b else P j).length + (if c < N /\ P c = true then 1 else 0) = ((List.range N).filter fun j => P j).length + (if c < N /\ b = true then 1 else 0)
 | 0 => by simp
 | N + 1 => by
  have ih := filter_one P c b N
  rw [List.range_succ, List.filter_append, List.filter_append, List.length_append, List.length_append]
  have hs : ∀ (Q : Nat -> Bool), (List.filter (fun j => Q j) [N]).length = if Q N = true then 1 else 0 := fun Q => by
   by_cases e : Q N = true
   ·rw [List.filter_cons_of_pos e, if_pos e]; rfl
   ·rw [List.filter_cons_of_neg e, if_neg e]; rfl
  rw [hs (fun j => if j = c then b else P j), hs P]
  by_cases e : N = c
  ·subst e
   rw [if_neg (fun e => absurd e.1 (Nat.lt_irrefl N)), if_neg (fun e => absurd e.1 (Nat.lt_irrefl N))] at ih
   rw [if_pos rfl]
   simp only [Nat.lt_succ_self, true_and]
   omega
  ·rw [if_neg e]
   have e1 : (c < N + 1) ↔ (c < N) := ⟨fun h => by omega, fun h => by omega⟩
   simp only [e1]
   omega
theorem drain1_liv (m : Mk) (t : Nat) : liv (m.drain1 t) = liv m := by
 cases hw : m.mem.waits t with
 | nil => rw [drain1_nil hw]
 | cons x l => exact liv_same (drain1_cons hw).cells.size (drain1_cons hw).cells.there
theorem fence_liv (m : Mk) (t : Nat) : liv (m.fence t) = liv m := fence_of (P := fun m' => liv m' = liv m) (fun m' h => (drain1_liv m' t).trans h) rfl
theorem room_liv (m : Mk) (t : Nat) : liv (m.room t) = liv m := room_of (P := fun m' => liv m' = liv m) (fun m' h => (drain1_liv m' t).trans h) rfl
theorem fenceFrom_liv : ∀ (k : Nat) (m : Mk) (t : Nat), liv (m.fenceFrom t k) = liv m
 | 0, _, _ => rfl
 | k + 1, m, t => (fenceFrom_liv k (m.fence t) (t + 1)).trans (fence_liv m t)
theorem gExec_liv (m : Mk) (t : Nat) (i : GI) (hf : ∀ r, i ≠ .free r) : 6 * liv (gExec m t i) + 1 <= 6 * liv m + gw i := by
 have hg : 1 <= gw i := by cases i <;> first | exact Nat.le_refl _ | exact Nat.succ_le_succ (Nat.zero_le _)
 have fin : ∀ {m' : Mk}, liv m' = liv m -> 6 * liv m' + 1 <= 6 * liv m + gw i := fun h => by rw [h]; omega
 cases i with
 | load r a k => exact fin (by show liv (m.load _ _ _ _) = _; unfold Mk.load; split <;> rfl)
 | store a r k =>
  refine fin ?_
  show liv (m.store _ _ _ _) = _
  unfold Mk.store
  split
  ·exact room_liv m t
  ·rfl
 | swap r a k =>
  refine fin ?_
  show liv (m.swap _ _ _ _ _) = _
  unfold Mk.swap
  split
  ·exact fence_liv m t
  ·rfl
 | cas a r k =>
  refine fin ?_
  show liv (m.cas _ _ _ _ _ _) = _
  unfold Mk.cas
  split
  ·exact fence_liv m t
  ·rfl
 | fence => exact fin (fence_liv m t)
 | force => exact fin (fenceFrom_liv _ m 0)
 | alloc r =>
  show 6 * liv (m.alloc _ _) + 1 <= 6 * liv m + 7
  unfold Mk.alloc
  cases hc : m.mem.ar.free? with
  | none => exact Nat.add_le_add_left (by decide : 1 <= 7) _
  | some c =>
   have h1 := filter_one m.mem.ar.there c true m.mem.ar.size
   have h2 : liv ((m.setMem (m.mem.give c)).setReg t r ((m.mem.ar.given c : Int) * 64 + c + 1)) = ((List.range m.mem.ar.size).filter fun j => if j = c then true else m.mem.ar.there j).length := rfl
   show 6 * liv ((m.setMem (m.mem.give c)).setReg t r ((m.mem.ar.given c : Int) * 64 + c + 1)) + 1 <= _
   rw [h2]
   unfold liv
   split at h1 <;> split at h1 <;> omega
 | free r => exact absurd rfl (hf r)
 | need r => exact fin (by show liv (m.need _) = _; unfold Mk.need; split <;> rfl)
 | _ => exact fin rfl
theorem free_liv {m : Mk} {t c : Nat} (h : Live m c) : liv (m.free t (rf m c)) + 1 = liv m := by
 unfold Mk.free
 rw [if_pos h.names, (rf_cell h).1, Int.toNat_natCast]
 have h1 := filter_one (m.fence t).mem.ar.there c false (m.fence t).mem.ar.size
 have h2 : liv ((m.fence t).setMem ((m.fence t).mem.setThere c false)) = ((List.range (m.fence t).mem.ar.size).filter fun j => if j = c then false else (m.fence t).mem.ar.there j).length := rfl
 have hF : SameCells m (m.fence t) := fence_of (P := fun m' => SameCells m m') (fun m' h => h.trans (by
  cases hw : m'.mem.waits t with
  | nil => rw [drain1_nil hw]; exact SameCells.refl _
  | cons x l => exact (drain1_cons hw).cells)) (SameCells.refl m)
 rw [h2, <- fence_liv m t]
 unfold liv
 rw [if_pos ⟨by rw [hF.size]; exact h.lt, by rw [hF.there]; exact h.there⟩] at h1
 simpa using h1
theorem free_le (m : Mk) (t : Nat) (n : Int) : liv (m.free t n) <= liv m := by
 unfold Mk.free
 split
 ·have h1 := filter_one (m.fence t).mem.ar.there (cellOf n).toNat false (m.fence t).mem.ar.size
  have h2 : liv ((m.fence t).setMem ((m.fence t).mem.setThere (cellOf n).toNat false)) = ((List.range (m.fence t).mem.ar.size).filter fun j => if j = (cellOf n).toNat then false else (m.fence t).mem.ar.there j).length := rfl
  rw [h2, <- fence_liv m t]
  unfold liv
  have h3 : ¬ ((cellOf n).toNat < (m.fence t).mem.ar.size /\ false = true) := fun e => nomatch e.2
  rw [if_neg h3] at h1
  omega
 ·exact Nat.le_refl _
theorem gExec_marks (m : Mk) (t : Nat) (i : GI) : (gExec m t i).marks = m.marks := by
 have hff : ∀ (k : Nat) (m : Mk) (t : Nat), (m.fenceFrom t k).marks = m.marks := by
  intro k
  induction k with
  | zero => intro _ _; rfl
  | succ k ih => intro m t; exact ih (m.fence t) (t + 1)
 cases i with
 | load r a k => show (m.load _ _ _ _).marks = _; unfold Mk.load; split <;> rfl
 | store a r k =>
  show (m.store _ _ _ _).marks = _
  unfold Mk.store
  split
  ·show (m.room t).marks = _
   unfold Mk.room
   split
   ·exact drain1_marks m t
   ·rfl
  ·rfl
 | swap r a k => show (m.swap _ _ _ _ _).marks = _; unfold Mk.swap; split <;> rfl
 | cas a r k => show (m.cas _ _ _ _ _ _).marks = _; unfold Mk.cas; split <;> rfl
 | force => exact hff _ m 0
 | alloc r => show (m.alloc _ _).marks = _; unfold Mk.alloc; split <;> rfl
 | free r => show (m.free _ _).marks = _; unfold Mk.free; split <;> rfl
 | need r => show (m.need _).marks = _; unfold Mk.need; split <;> rfl
 | _ => rfl
end
end Go.Proofs.YtaiigfcfmcicjaaGreatDoor
