import Derived.Test.YtaiigfcfmcicjaaGreatDoorD39
import Derived.Test.YtaiigfcfmcicjaaGreatDoorD41
import Derived.Test.YtaiigfcfmcicjaaGreatDoorD10
import Derived.Test.YtaiigfcfmcicjaaGreatDoorD12
import Derived.Laws.BitsLemmas
namespace Go.Proofs.YtaiigfcfmcicjaaGreatDoor
set_option maxRecDepth 100000
set_option maxHeartbeats 8000000
section
open Go.RowKit
def hubQ (f : Nat) : List Int := [1, if f = 4 then 0 else 4, 0, 0]
def ownQ (f n t : Nat) : List Int := [if f = 3 then 1 else 0, if f = 4 then 0 else if t + 1 < n then (t : Int) + 5 else 0, 0, 0]
def initQ (f n : Nat) : List (List Int) := [1, 0, 0, 0] :: [1, 0, 0, 0] :: hubQ f :: (List.range n).map (ownQ f n)
def regQ (t : Nat) : List Int := [0, 0, 0, 0, 0, 2, (t : Int) + 4, 3]
theorem clSta_is {f n : Nat} (hf : 1 <= f /\ f <= 4) (h1 : 1 <= n) (h6 : n <= 6) : clSta f n = ⟨64, initQ f n, (List.range n).map regQ⟩ := by
 have key : ∀ (f : Fin 5) (n : Fin 7), 1 <= f.val -> 1 <= n.val -> graceI f.val (clCells.map pad4) n.val = initQ f.val n.val /\ rowsG 2 n.val n.val = (List.range n.val).map regQ := by decide +kernel
 obtain ⟨h3, h2⟩ := key ⟨f, by omega⟩ ⟨n, by omega⟩ hf.1 h1
 show (⟨64, graceI f (clCells.map pad4) n, rowsG 2 n n⟩ : Sta) = _
 have h3 : graceI f (clCells.map pad4) n = initQ f n := h3
 have h2 : rowsG 2 n n = (List.range n).map regQ := h2
 rw [h3, h2]
def clM (f n : Nat) : Mk := (⟨64, initQ f n, (List.range n).map regQ⟩ : Sta).mach n
theorem clM_is {f n : Nat} (hf : 1 <= f /\ f <= 4) (h1 : 1 <= n) (h6 : n <= 6) : (clSta f n).mach n = clM f n := by rw [clSta_is hf h1 h6]; rfl
def clGh (f n : Nat) (V : Int -> Prop) : Gq := ⟨fun _ => none, fun _ _ => false, if f = 4 then [] else (List.range n).reverse, 0, fun _ => none, fun _ => [], fun _ => ⟨false, false, false⟩, V⟩
theorem initQ_len (f n : Nat) : (initQ f n).length = n + 3 := by simp [initQ]
section
variable {f n : Nat} {V : Int -> Prop}
theorem cl_words (c k : Nat) : (clM f n).mem.ar.words c k = if c < n + 3 /\ k < 4 then rowAt (initQ f n) c k else 0 := by
 show (if c < (initQ f n).length /\ k < 4 then rowAt (initQ f n) c k else 0) = _
 rw [initQ_len]
theorem cl_there (c : Nat) : (clM f n).mem.ar.there c = decide (c < n + 3) := by
 show (if c < (initQ f n).length then true else false) = _
 rw [initQ_len]
 split <;> rename_i h
 ·rw [decide_eq_true h]
 ·rw [decide_eq_false h]
theorem cl_given (c : Nat) : (clM f n).mem.ar.given c = if c < n + 3 then 1 else 0 := by
 show (if c < (initQ f n).length then 1 else 0) = _
 rw [initQ_len]
theorem cl_rowt {t : Nat} (ht : t < n) (k : Nat) : rowAt (initQ f n) (t + 3) k = (ownQ f n t).getD k 0 := by
 unfold rowAt initQ
 rw [List.getD_cons_succ, List.getD_cons_succ, List.getD_cons_succ, List.getD_eq_getElem?_getD (l := (List.range n).map (ownQ f n)), List.getElem?_map, List.getElem?_range ht]
 rfl
theorem cl_regs {t : Nat} (ht : t < n) (k : Nat) : (clM f n).regs t k = (regQ t).getD k 0 := by
 show rowAt ((List.range n).map regQ) t k = _
 unfold rowAt
 rw [List.getD_eq_getElem?_getD (l := (List.range n).map regQ), List.getElem?_map, List.getElem?_range ht]
 rfl
theorem cl_waits (t : Nat) : (clM f n).mem.waits t = [] := rfl
theorem cl_ov {t : Nat} (ht : t < n) {k : Nat} (hk : k < 4) : ovq (clM f n) t k = (ownQ f n t).getD k 0 := by
 rw [ovq_none (cl_waits t), cl_words, if_pos ⟨by omega, hk⟩, cl_rowt ht]
theorem cl_live {c : Nat} (hn : n <= 6) (hc : c < n + 3) : Live (clM f n) c := ⟨by show c < 64; omega, by rw [cl_there]; exact decide_eq_true hc, by rw [cl_given, if_pos hc]; decide, by show 64 <= 64; decide⟩
theorem cl_ch (hf : f ≠ 4) (i u : Nat) (hi : (clGh f n V).ch[i]? = some u) : i < n /\ u = n - 1 - i := by
 have e : (clGh f n V).ch = (List.range n).reverse := if_neg hf
 rw [e] at hi
 have hlt : i < n := by have := (List.getElem?_eq_some_iff.1 hi).1; simpa using this
 rw [List.getElem?_reverse (by simpa using hlt), List.length_range, List.getElem?_range (by omega)] at hi
 exact ⟨hlt, (Option.some.inj hi).symm⟩
theorem cl_QD (hf : 1 <= f /\ f <= 4) (hn : 1 <= n /\ n <= 6) (h1 : V 1) (h0 : ¬ V 0) : QD f n (clGh f n V) (clM f n) := by
 have hch4 : f = 4 -> (clGh f n V).ch = [] := fun e => if_pos e
 have hchn : f ≠ 4 -> (clGh f n V).ch = (List.range n).reverse := fun e => if_neg e
 have hL : ∀ c, c < n + 3 -> Live (clM f n) c := fun c hc => cl_live hn.2 hc
 have w0 : (clM f n).mem.ar.words 0 0 = 1 := by rw [cl_words, if_pos ⟨by omega, by decide⟩]; rfl
 have w1 : (clM f n).mem.ar.words 1 0 = 1 := by rw [cl_words, if_pos ⟨by omega, by decide⟩]; rfl
 have hrf : rf (clM f n) 0 = 1 := by
  unfold rf
  rw [cl_given, if_pos (by omega)]
  rfl
 have now : ∀ w, ow (clGh f n V) w = [] := fun _ => rfl
 refine ⟨⟨hf, hn.2, rfl, fun c _ hc => ⟨hL c (by omega), by rw [cl_given, if_pos (by omega)]⟩, fun t ht => by rw [cl_regs ht]; rfl, fun t ht => by rw [cl_regs ht]; rfl, fun t ht => by rw [cl_regs ht]; rfl, ?_, fun t ht x hx => absurd (show x ∈ ([] : List Wt) from hx) List.not_mem_nil, ?_, fun t ht => ?_, fun h4 t ht => ?_, ?_, fun i u hi => ?_, fun t ht h3 => ?_, fun w t _ hu => ?_⟩,
  ⟨rfl, ⟨⟨.inl rfl, hL _ (by show 0 < n + 3; omega)⟩, by show (clM f n).mem.ar.words 1 0 = rf (clM f n) 0; rw [w1, hrf], by show V ((clM f n).mem.ar.words 0 0); rw [w0]; exact h1⟩, fun w _ c hc => absurd (show c ∈ ([] : List Nat) from hc) List.not_mem_nil, fun w _ => by rw [now]; exact List.nodup_nil, fun w u _ _ _ c hc => absurd (show c ∈ ([] : List Nat) from hc) List.not_mem_nil, fun t ht x hx => absurd (show x ∈ ([] : List Wt) from hx) List.not_mem_nil, fun w _ c hc => ?_, fun w _ => trivial, fun w _ _ => rfl, fun w hw => ⟨by rw [cl_regs hw]; rfl, (fun e => (nomatch e)), fun _ => rfl⟩, fun t _ hr => hr.elim, fun c h2 h3 h4 => ?_, rfl, fun x hx => absurd (show x ∈ ([] : List (Nat × Int)) from hx) List.not_mem_nil, h0⟩⟩
 ·rw [cl_words, if_pos ⟨by omega, by decide⟩]; rfl
 ·by_cases e : f = 4
  ·rw [hch4 e]; exact List.nodup_nil
  ·rw [hchn e]
   exact List.pairwise_reverse.2 (List.Pairwise.imp (fun h => Ne.symm h) List.nodup_range)
 ·by_cases e : f = 4
  ·rw [hch4 e] at ht; cases ht
  ·rw [hchn e] at ht
   simpa using ht
 ·rw [hchn h4]; simpa using ht
 ·rw [cl_words, if_pos ⟨by omega, by decide⟩]
  show (hubQ f).getD 1 0 = _
  by_cases e : f = 4
  ·rw [hch4 e]
   show (if f = 4 then (0 : Int) else 4) = 0
   rw [if_pos e]
  ·rw [hchn e]
   show (if f = 4 then (0 : Int) else 4) = _
   rw [if_neg e]
   obtain ⟨k, hk⟩ : ∃ k, n = k + 1 := ⟨n - 1, by omega⟩
   rw [hk, List.range_succ_eq_map, List.reverse_cons, List.getLast?_concat]
   rfl
 ·have e : f ≠ 4 := fun e => by rw [hch4 e] at hi; cases hi
  obtain ⟨h1, h2⟩ := cl_ch e i u hi
  have hu : u < n := by omega
  rw [cl_words, if_pos ⟨by omega, by decide⟩, cl_rowt hu]
  show (if f = 4 then (0 : Int) else if u + 1 < n then (u : Int) + 5 else 0) = _
  rw [if_neg e]
  cases i with
  | zero => rw [if_neg (by omega)]
  | succ j =>
   rw [if_pos (by omega)]
   show _ = match (clGh f n V).ch[j]? with | none => 0 | some v => (v : Int) + 4
   rw [hchn e, List.getElem?_reverse (by simp; omega), List.length_range, List.getElem?_range (by omega)]
   show (u : Int) + 5 = ((n - 1 - j : Nat) : Int) + 4
   omega
 ·refine ⟨fun e => absurd e h3, fun _ => ⟨fun _ => ⟨?_, ?_⟩, fun e => absurd e (Nat.lt_irrefl 0)⟩, fun e => ⟨fun hm => ?_, fun _ => ⟨?_, rfl⟩⟩⟩
  ·rw [cl_ov ht (by decide)]
   show (if f = 3 then (1 : Int) else 0) = 0
   rw [if_neg h3]
  ·rw [cl_ov ht (by decide)]; rfl
  ·rw [hch4 e] at hm; cases hm
  ·rw [cl_ov ht (by decide)]; rfl
 ·cases (show false = true from hu)
 ·rcases hc with hc | ⟨hc, -⟩
  ·exact absurd (show c ∈ ([] : List Nat) from hc) List.not_mem_nil
  ·cases hc
 ·rw [cl_there, decide_eq_true_iff] at h4
  left
  show c = 0
  rcases h2 with h2 | h2 <;> omega
def Bk0 : Bk := ⟨0, ⟨false, false, false⟩, false, false⟩
theorem cl_Good (hf : 1 <= f /\ f <= 4) (hn : 1 <= n /\ n <= 6) (h1 : V 1) (h0 : ¬ V 0) {pr : Nat -> List Tq} {ends : Nat -> Fl} {cs : Nat -> List Ins} (hpr : ∀ t, t < n -> DiscQ V (ends t) Bk0 (pr t) /\ PsAt f (cs t) 0 (pr t)) : GoodQ f n V ends cs (clM f n) := by
 have key : ∀ j, j <= n -> ∃ G, QD f n G (clM f n) /\ G.val = V /\ (∀ t, t < j -> LocQ f V (ends t) (cs t) 0 (G.fl t) (G.pt t)) /\ (∀ t, j <= t -> G.pt t = none /\ G.nd t = none /\ G.ls t = [] /\ G.fl t = ⟨false, false, false⟩) /\ (∀ w u, ¬ Olq G w u) := by
  intro j
  induction j with
  | zero => intro _; exact ⟨clGh f n V, cl_QD hf hn h1 h0, rfl, fun t ht => absurd ht (Nat.not_lt_zero _), fun _ _ => ⟨rfl, rfl, rfl, rfl⟩, fun w u hu => by cases (show false = true from hu)⟩
  | succ j ih =>
   intro hj
   obtain ⟨G, g1, gv, g2, g3, g4⟩ := ih (by omega)
   have hjn : j < n := by omega
   obtain ⟨p1, p2, p3, p4⟩ := g3 j nL
   have hL := la_at g1 hjn p1
   have hb : BTq f G (clM f n) j Bk0 := by
    refine ⟨fun e _ => ?_, fun e => hL e, fun ⟨u, hu⟩ => g4 j u hu, by rw [p3, cl_regs hjn]; rfl, by rw [p2]; exact ⟨(fun e => (nomatch e)), fun _ => rfl⟩, fun c hc => (by rw [p2] at hc; cases hc), fun c hc _ => ?_, fun _ => p3⟩
    ·rw [cl_ov hjn (by decide)]
     show (if f = 3 then (1 : Int) else 0) % 2 = 1
     rw [if_pos e]; rfl
    ·rcases hc with hc | ⟨hc, -⟩
     ·rw [p3] at hc; cases hc
     ·rw [p2] at hc; cases hc
   obtain ⟨k, g, q1, q2⟩ := g1.hops (e := ends j) hjn (L := cs j) (pr j) 0 Bk0 hb (by rw [gv]; exact (hpr j hjn).1) (hpr j hjn).2
   refine ⟨_, q1, gv, fun t ht => ?_, fun t ht => ?_, g4⟩
   ·by_cases e : t = j
    ·subst e
     rw [Gq.upd_pt, Gq.upd_fl]
     rw [gv] at q2
     exact q2
    ·rw [Gq.upd_ptn e, Gq.upd_fln e]; exact g2 t (by omega)
   ·have e : t ≠ j := by omega
    rw [Gq.upd_ptn e, Gq.upd_ndn e, Gq.upd_lsn e, Gq.upd_fln e]; exact g3 t (by omega)
 obtain ⟨G, k1, k2, k3, -, -⟩ := key n nL
 exact ⟨G, k1, k2, k3⟩
end
def flOp (k : Fl) (x : OpI) : Fl := ⟨psRet (kn x.kind.toList) k.r, psWt (kn x.kind.toList) k.w, if kn x.kind.toList = 8 then true else if kn x.kind.toList = 9 then false else k.k⟩
theorem folS_sf : ∀ {l : List OpI} {s : CrI}, folS s l = true -> s.sf = true
 | [], _, h => h
 | x :: l, s, h => by
  have := folS_sf (l := l) (s := s.pass x) h
  unfold CrI.pass at this
  simp only [Bool.and_eq_true] at this
  exact this.1
theorem disc_of {V : Int -> Prop} : ∀ (l : List OpI) (s : CrI) (b : Bk), (∀ x ∈ l, kn x.kind.toList = 1 -> V x.n) -> folE s l = 0 -> folS s l = true -> s.deep = (b.d : Int) -> s.ret = b.fl.r -> s.wt = b.fl.w -> b.g = false -> b.d + l.length <= 100 -> DiscQ V (l.foldl flOp b.fl) b (opTs l ++ [.gone])
 | [], s, b, _, hE, _, hd, _, _, hg, hl => by
  unfold folE at hE
  have h0 : b.d = 0 := by
   by_cases h : 0 < s.deep
   ·rw [if_pos h] at hE; cases hE
   ·omega
  exact ⟨by omega, ⟨0, b.fl, false, true⟩, ⟨hg, h0, rfl⟩, rfl, rfl⟩
 | x :: l, s, b, hV, hE, hS, hd, hr, hw, hg, hl => by
  have hVl : ∀ y ∈ l, kn y.kind.toList = 1 -> V y.n := fun y hy => hV y (List.mem_cons_of_mem _ hy)
  have hVx := hV x List.mem_cons_self
  rw [List.length_cons] at hl
  unfold folE at hE
  by_cases h0 : shErr (kn x.kind.toList) x.n = 0
  ·rw [if_neg (fun k => k h0)] at hE
   by_cases h1 : ckErr (kn x.kind.toList) s.deep s.ret = 0
   ·rw [if_neg (fun k => k h1)] at hE
    have hS : folS (s.pass x) l = true := hS
    have hsf := folS_sf hS
    unfold CrI.pass at hsf
    simp only [Bool.and_eq_true, Bool.not_eq_true', Bool.and_eq_false_iff] at hsf
    have ih := fun (b' : Bk) (e1 : (s.pass x).deep = (b'.d : Int)) (e2 : (s.pass x).ret = b'.fl.r) (e3 : (s.pass x).wt = b'.fl.w) (e4 : b'.g = false) (e5 : b'.d + l.length <= 100) => disc_of l (s.pass x) b' hVl hE hS e1 e2 e3 e4 e5
    have hT : opTs (x :: l) ++ [.gone] = opT x ++ (opTs l ++ [.gone]) := by
     unfold opTs
     rw [List.flatMap_cons, List.append_assoc]
    have hF : (x :: l).foldl flOp b.fl = l.foldl flOp (flOp b.fl x) := rfl
    rw [hT, hF]
    have hp : s.pass x = ⟨psDeep (kn x.kind.toList) s.deep, psRet (kn x.kind.toList) s.ret, psWt (kn x.kind.toList) s.wt, s.sf && !((kn x.kind.toList == 7) && !s.wt)⟩ := rfl
    rw [hp] at ih
    unfold opT flOp
    rcases kcases x.kind.toList with ⟨-, hk⟩ | ⟨-, hk⟩ | ⟨-, hk⟩ | ⟨-, hk⟩ | ⟨-, hk⟩ | ⟨-, hk⟩ | ⟨-, hk⟩ | ⟨-, hk⟩ | ⟨-, hk⟩ | ⟨-, hk⟩ <;> rw [hk] at h0 h1 ih hsf hVx ⊢
    · -- put
     have h1 : (if 0 < s.deep ∨ s.ret = true then 8 else 0) = 0 := h1
     have h2 : ¬ (0 < s.deep ∨ s.ret = true) := fun e => by rw [if_pos e] at h1; cases h1
     have hd0 : b.d = 0 := by omega
     have hr0 : b.fl.r = false := by
      rw [<- hr]
      cases hq : s.ret
      ·rfl
      ·exact absurd (.inr hq) h2
     refine ⟨by omega, ⟨0, ⟨true, false, b.fl.k⟩, false, false⟩, ⟨hg, hd0, hVx rfl, hr0, rfl⟩, ih ⟨0, ⟨true, false, b.fl.k⟩, false, false⟩ ?_ rfl rfl rfl (by show 0 + l.length <= 100; omega)⟩
     show s.deep = 0
     omega
    · -- enter
     refine ⟨by omega, ⟨b.d + 1, b.fl, false, false⟩, ⟨hg, rfl⟩, ?_⟩
     exact ih ⟨b.d + 1, b.fl, false, false⟩ (by show s.deep + 1 = ((b.d + 1 : Nat) : Int); omega) hr hw rfl (by show b.d + 1 + l.length <= 100; omega)
    · -- leave
     have h1 : (if 0 < s.deep then 0 else 8) = 0 := h1
     have h2 : 0 < s.deep := by
      by_cases e : 0 < s.deep
      ·exact e
      ·rw [if_neg e] at h1; cases h1
     refine ⟨by omega, ⟨b.d - 1, b.fl, false, false⟩, ⟨hg, by omega, rfl⟩, ?_⟩
     exact ih ⟨b.d - 1, b.fl, false, false⟩ (by show s.deep - 1 = ((b.d - 1 : Nat) : Int); omega) hr hw rfl (by show b.d - 1 + l.length <= 100; omega)
    · -- rest
     have h1 : (if 0 < s.deep then 8 else 0) = 0 := h1
     have h2 : ¬ 0 < s.deep := fun e => by rw [if_pos e] at h1; cases h1
     have hd0 : b.d = 0 := by omega
     refine ⟨by omega, ⟨0, b.fl, false, false⟩, ⟨hg, hd0, rfl⟩, ?_⟩
     exact ih ⟨0, b.fl, false, false⟩ (by show s.deep = 0; omega) hr hw rfl (by show 0 + l.length <= 100; omega)
    · -- wait
     have h1 : (if 0 < s.deep then 8 else 0) = 0 := h1
     have h2 : ¬ 0 < s.deep := fun e => by rw [if_pos e] at h1; cases h1
     have hd0 : b.d = 0 := by omega
     refine ⟨by omega, ⟨0, ⟨b.fl.r, true, b.fl.k⟩, true, false⟩, ⟨hg, hd0, rfl⟩, ?_⟩
     exact ih ⟨0, ⟨b.fl.r, true, b.fl.k⟩, true, false⟩ (by show s.deep = 0; omega) hr rfl rfl (by show 0 + l.length <= 100; omega)
    · -- read
     have h1 : (if 0 < s.deep then 0 else 8) = 0 := h1
     have h2 : 0 < s.deep := by
      by_cases e : 0 < s.deep
      ·exact e
      ·rw [if_neg e] at h1; cases h1
     refine ⟨by omega, ⟨b.d, b.fl, false, false⟩, ⟨hg, by omega, rfl⟩, ?_⟩
     exact ih ⟨b.d, b.fl, false, false⟩ hd hr hw rfl (by show b.d + l.length <= 100; omega)
    · -- drop
     have h1 : (if s.ret = true then 0 else 5) = 0 := h1
     have hr0 : s.ret = true := by
      cases hq : s.ret
      ·rw [hq] at h1; cases h1
      ·rfl
     have hw0 : s.wt = true := by
      rcases hsf.2 with h | h
      ·cases h
      ·simpa using h
     refine ⟨by omega, ⟨b.d, ⟨false, b.fl.w, b.fl.k⟩, false, false⟩, ⟨hg, by rw [<- hr]; exact hr0, by rw [<- hw]; exact hw0, rfl⟩, ?_⟩
     exact ih ⟨b.d, ⟨false, b.fl.w, b.fl.k⟩, false, false⟩ hd rfl hw rfl (by show b.d + l.length <= 100; omega)
    · -- later
     have h1 : (if s.ret = true then 0 else 5) = 0 := h1
     have hr0 : s.ret = true := by
      cases hq : s.ret
      ·rw [hq] at h1; cases h1
      ·rfl
     refine ⟨by omega, ⟨b.d, ⟨false, b.fl.w, true⟩, false, false⟩, ⟨hg, by rw [<- hr]; exact hr0, rfl⟩, ?_⟩
     exact ih ⟨b.d, ⟨false, b.fl.w, true⟩, false, false⟩ hd rfl hw rfl (by show b.d + l.length <= 100; omega)
    · -- flush
     have h1 : (if 0 < s.deep then 8 else 0) = 0 := h1
     have h2 : ¬ 0 < s.deep := fun e => by rw [if_pos e] at h1; cases h1
     have hd0 : b.d = 0 := by omega
     refine ⟨by omega, ⟨0, ⟨b.fl.r, true, b.fl.k⟩, true, false⟩, ⟨hg, hd0, rfl⟩, by show 0 <= 100; omega, ⟨0, ⟨b.fl.r, true, false⟩, false, false⟩, ⟨rfl, rfl, rfl, rfl⟩, ?_⟩
     exact ih ⟨0, ⟨b.fl.r, true, false⟩, false, false⟩ (by show s.deep = 0; omega) hr rfl rfl (by show 0 + l.length <= 100; omega)
    ·unfold shErr at h0
     rw [if_neg (by decide)] at h0
     simp at h0
   ·rw [if_pos h1] at hE; exact absurd hE h1
  ·rw [if_pos h0] at hE; exact absurd hE h0
def Vq (cl : List (List OpI)) (v : Int) : Prop := v = 1 ∨ ∃ L ∈ cl, ∃ x ∈ L, kn x.kind.toList = 1 /\ x.n = v
theorem Vq_nz {cl : List (List OpI)} (h : (eachE cl).1 = 0) : ¬ Vq cl 0 := by
 rintro (h0 | ⟨L, hL, x, hx, hk, h0⟩)
 ·cases h0
 ·have := (eachE_sh h L hL).1 x hx
  unfold shErr at this
  rw [if_pos hk] at this
  by_cases hb : x.n < 1 ∨ 1000 < x.n
  ·rw [if_pos hb] at this; cases this
  ·omega
theorem eachE_fol {cl : List (List OpI)} (h : (eachE cl).1 = 0) : ∀ L ∈ cl, folE .first L = 0 := by
 obtain ⟨hf, -, -, -⟩ := eachE_ok h
 unfold eachE at h
 rw [if_pos hf] at h
 exact eachFrom_zero h
theorem cl_right {f : Nat} (hf : 1 <= f /\ f <= 4) {cl : List (List OpI)} (h : (eachE cl).1 = 0) : Right (cl.map (clC f)) := by
 obtain ⟨-, h6, h1, -⟩ := eachE_ok h
 refine right_of (fun t L ht => ?_) (by rw [List.length_map]; exact h1) (by rw [List.length_map]; exact h6) (fun t L ht i x hx => ?_)
 ·rw [List.getElem?_map] at ht
  cases hc : cl[t]? with
  | none => rw [hc] at ht; cases ht
  | some c =>
   rw [hc] at ht
   cases ht
   obtain ⟨k1, k2⟩ := eachE_sh h c (List.mem_of_getElem? hc)
   rw [clC_good hf k1 k2]
 ·rw [List.getElem?_map] at ht
  cases hc : cl[t]? with
  | none => rw [hc] at ht; cases ht
  | some c =>
   rw [hc] at ht
   cases ht
   obtain ⟨k1, k2⟩ := eachE_sh h c (List.mem_of_getElem? hc)
   have hm := List.mem_of_getElem? hx
   have hm : x ∈ opsC f c c.length ++ (gCode clGone (gGone f) ++ [stopI]) := hm
   rcases List.mem_append.1 hm with hm | hm
   ·have key : ∀ k, k <= c.length -> ∀ y ∈ opsC f c k, y.to.size <= maxLen := by
     intro k
     induction k with
     | zero => intro _ y hy; exact absurd (show y ∈ ([] : List Ins) from hy) List.not_mem_nil
     | succ k ih =>
      intro hk y hy
      obtain ⟨z, hz⟩ : ∃ z, c[k]? = some z := ⟨_, List.getElem?_eq_getElem (by omega)⟩
      rw [opsC_succ hz] at hy
      rcases List.mem_append.1 hy with hy | hy
      ·exact ih (by omega) y hy
      ·obtain ⟨u, hu, rfl⟩ := List.mem_map.1 hy
       have hb := clP_blk hf (k1 z (List.mem_of_getElem? hz))
       cases hlb : lbOp u.op
       ·rw [namedI_no hlb]
        have := hb.no u hu hlb
        rw [size_bl, this]
        exact Nat.zero_le _
       ·rw [namedI_yes hlb]
        have h1 := (hb.labs u hu hlb).2
        have h2 : (itB k).size <= 2 := by unfold itB; split <;> (show _ <= 2; simp [ByteArray.size])
        show (u.to ++ thDot ++ itB k).size <= maxLen
        rw [ByteArray.size_append, ByteArray.size_append]
        have h3 : thDot.size = 1 := rfl
        unfold maxLen
        omega
    exact key _ nL x hm
   ·have hg : ∀ g : Fin 4, ((gCode clGone (gGone (g.val + 1)) ++ [stopI]).all fun x => decide (x.to.size <= maxLen)) = true := by decide +kernel
    have := hg ⟨f - 1, by omega⟩
    dsimp only at this
    rw [show f - 1 + 1 = f by omega] at this
    exact of_decide_eq_true (List.all_eq_true.1 this x hm)
def clEnds (cl : List (List OpI)) (t : Nat) : Fl := (cl.getD t []).foldl flOp ⟨false, false, false⟩
def clCs (f : Nat) (cl : List (List OpI)) (t : Nat) : List Ins := clC f (cl.getD t [])
theorem clCs_at (f : Nat) (cl : List (List OpI)) (t : Nat) (ht : t < cl.length) : (cl.map (clC f))[t]? = some (clCs f cl t) := by
 unfold clCs
 rw [List.getElem?_map, List.getD_eq_getElem?_getD, List.getElem?_eq_getElem ht]
 rfl
theorem cl_start {f : Nat} (hf : 1 <= f /\ f <= 4) {cl : List (List OpI)} (h : (eachE cl).1 = 0) (hs : eachS cl = true) : GoodQ f cl.length (Vq cl) (clEnds cl) (clCs f cl) (clM f cl.length) := by
 obtain ⟨-, h6, h1, -⟩ := eachE_ok h
 refine cl_Good hf ⟨h1, h6⟩ (.inl rfl) (Vq_nz h) (pr := fun t => opTs (cl.getD t []) ++ [.gone]) fun t ht => ?_
 have hm : cl.getD t [] ∈ cl := by
  rw [List.getD_eq_getElem?_getD, List.getElem?_eq_getElem ht]
  exact List.getElem_mem ht
 obtain ⟨k1, k2⟩ := eachE_sh h _ hm
 refine ⟨?_, clC_pieces hf k1 k2⟩
 exact disc_of _ .first Bk0 (fun x hx hk => .inr ⟨_, hm, x, hx, hk, rfl⟩) (eachE_fol h _ hm) (List.all_eq_true.1 hs _ hm) rfl rfl rfl rfl (by show 0 + _ <= 100; omega)
theorem cl_safe {f : Nat} (hf : 1 <= f /\ f <= 4) {cl : List (List OpI)} (h : (eachE cl).1 = 0) (hs : eachS cl = true) (l : List Int) (hl : l.length <= 50000000) : GoodQ f cl.length (Vq cl) (clEnds cl) (clCs f cl) (((clSta f cl.length).mach cl.length).runO (cl.map (clC f)) l).2 := by
 obtain ⟨-, h6, h1, -⟩ := eachE_ok h
 have hl' : (cl.map (clC f)).length = cl.length := List.length_map _
 rw [clM_is hf h1 h6]
 refine GoodQ.runO (cl_right hf h) hl' (clCs_at f cl) l (cl_start hf h hs) (K := 1) ?_ (by omega)
 rw [hl', <- clM_is hf h1 h6]
 exact Sta.mach_ok (cl_fits h1 h6 hf) (by show (64 : Int) <= 64; decide) h6
end
section
open Go.RowKit Go.Extern.Stop Go.Stop Go.Extern Go.Sort
theorem lt_of_get {α : Type} {l : List α} {i : Nat} {x : α} (h : l[i]? = some x) : i < l.length := (List.getElem?_eq_some_iff.1 h).1
theorem rdone_end {cs : List (List Ins)} {p : RkPl} {m : Mk} {t : Nat} {L : List Ins} (ht : cs[t]? = some L) (hp : L.length <= m.pc t) {w : World} (h : RkAt cs p m w) :
  Calls Tryz.prog 27 #[.pointer (some ⟨p.k, 0, none⟩), .int .i64 t] w fun e w' => e = .returned (.bool true) /\ Below w.heap.size w w' := by
 have hlt := lt_of_get ht
 have h6 := h.few
 have hT := h.mT
 have hA := h.tAt t hlt
 have hC := h.tCode t L ht
 have hcap := h.tcap
 have hcc := h.ccap t L ht
 have ti : (t : Int) < cs.length := by omega
 have hd : decide ((L.length : Int) <= m.pc t) = true := by simp; omega
 clear h ht
 go_enter Tryz.func27, Tryz.ntmps27
 go_wp2_with fail
 go_quiet (fail)
 go_wp2
 go_ret
 exact ⟨rfl, Below.drewN' _⟩
theorem rdone_at {cs : List (List Ins)} {p : RkPl} {m : Mk} {t : Nat} {L : List Ins} {x : Ins} (ht : cs[t]? = some L) (hp : L[m.pc t]? = some x) {w : World} (h : RkAt cs p m w) :
  Calls Tryz.prog 27 #[.pointer (some ⟨p.k, 0, none⟩), .int .i64 t] w fun e w' => e = .returned (.bool (x.op.toList == [115, 116, 111, 112])) /\ Below w.heap.size w w' := by
 have hlt := lt_of_get ht
 have h6 := h.few
 have hT := h.mT
 have hA := h.tAt t hlt
 have hC := h.tCode t L ht
 have hcap := h.tcap
 have hcc := h.ccap t L ht
 have ti : (t : Int) < cs.length := by omega
 obtain ⟨b, off, had, a0, -, -, -, -⟩ := h.rc.code ht (m.pc t) x hp
 rw [had] at hC
 have hpl := lt_of_get hp
 have hd : decide ((L.length : Int) <= m.pc t) = false := by simp; omega
 have hdn : decide (L.length <= m.pc t) = false := by simp; omega
 have pi : (m.pc t : Int) < L.length := by omega
 clear h ht hp
 go_enter Tryz.func27, Tryz.ntmps27
 go_wp2_with fail
 go_quiet (fail)
 go_wp2
 go_ret
 exact ⟨rfl, Below.drewN' _⟩
theorem RkAt.fault1 {cs : List (List Ins)} {p : RkPl} {m : Mk} {w : World} (h : RkAt cs p m w) : RkStep cs p m.mem w p.rp p.mv (m.addFault 1) (w.setCell ⟨p.k, 3, none⟩ (.int .i64 ((m.faults : Int) + 1))) := h.addFault 1
theorem rnames_yes {cs : List (List Ins)} {p : RkPl} {m : Mk} {n : Int} (hn : Wd n) {w : World} (h : RkAt cs p m w) (hy : m.names n = true) :
  Calls Tryz.prog 71 #[.pointer (some ⟨p.k, 0, none⟩), .int .i64 n] w fun e w' => e = .returned (.tuple #[.agg #[.int .i64 (cellOf n), .int .i64 (genOf n)], .bool true]) /\ Below w.heap.size w w' := by
 obtain ⟨hz, hh⟩ := (Bool.and_eq_true _ _).mp hy
 have hn0 : n ≠ 0 := by simpa using hz
 have h1 : 1 <= n := by have := hn.1; omega
 have HR : Hid (∀ w', Calls Tryz.prog 21 #[.int .i64 n] w' fun e w'' => e = .returned (.tuple #[.agg #[.int .i64 (cellOf n), .int .i64 (genOf n)], .int .i64 0]) /\ Below w'.heap.size w' w'') := fun w' => refOf_ok n w' h1 hn.2
 have HH : Hid (∀ w', Below w.heap.size w w' -> Calls Tryz.prog 46 #[.pointer (some ⟨p.rp.mb, 0, none⟩), .agg #[.int .i64 (cellOf n), .int .i64 (genOf n)]] w' fun e w'' => e = .returned (.bool true) /\ Below w'.heap.size w' w'') := fun w' hb => by
  have := here_any p.rp m.mem (cellOf n) (genOf n) w' (h.below hb).mem
  rwa [hh] at this
 have hM := h.mM
 clear hy hz hh hn h
 generalize cellOf n = c at *
 generalize genOf n = g at *
 have hba : Below w.heap.size w (w.alloc (.cells #[.int .i64 0, .int .i64 0] 50)) := box_below 0 0 w
 obtain ⟨z0, z1⟩ := box2c w 50 (.int .i64 0) (.int .i64 0)
 have y0 : (w.alloc (.cells #[.int .i64 0, .int .i64 0] 50)).frozen? ⟨w.heap.size, 0, none⟩ = false := by simp
 have y1 : (w.alloc (.cells #[.int .i64 0, .int .i64 0] 50)).frozen? ⟨w.heap.size, 1, none⟩ = false := by simp
 have hM1 := keep_cell hba hM
 generalize hw : w.alloc (.cells #[.int .i64 0, .int .i64 0] 50) = w1 at *
 go_enter Tryz.func71, Tryz.ntmps71
 go_wp2_with fail
 refine (HR.out _).mono ?_
 rintro e w2 ⟨rfl, hb2⟩
 have hzl : w.heap.size < w1.heap.size := bLt z0
 obtain ⟨W3, hW3⟩ : ∃ W3, W3 = w2.alloc (.cells #[.int .i64 c, .int .i64 g] 50) := ⟨_, rfl⟩
 have hb3 : Below w1.heap.size w1 W3 := by rw [hW3]; exact hb2.alloc hb2.size _
 have q0 : W3.cell? ⟨w2.heap.size, 0, none⟩ = some (.int .i64 c) := by rw [hW3]; simp
 have q1 : W3.cell? ⟨w2.heap.size, 1, none⟩ = some (.int .i64 g) := by rw [hW3]; simp
 have r0 := keep_cell hb3 z0
 have r1 := keep_cell hb3 z1
 have x0 : W3.frozen? ⟨w.heap.size, 0, none⟩ = false := by rw [hb3.frozen hzl]; exact y0
 have x1 : W3.frozen? ⟨w.heap.size, 1, none⟩ = false := by rw [hb3.frozen hzl]; exact y1
 have hM3 := keep_cell hb3 hM1
 have B3 := below_step hba hb3
 have l3 : w.heap.size < W3.heap.size := bLt r0
 clear z0 z1 y0 y1 hM hM1 hw HR hb3
 go_wp2_with fail
 rw [<- hW3]
 clear hW3 hb2 hzl
 have HCF : Hid (∀ d os, Calls Tryz.prog 46 #[.pointer (some ⟨p.rp.mb, 0, none⟩), .agg #[.int .i64 c, .int .i64 g]] (grow (redrawn W3 d) os) fun e w'' => e = .returned (.bool true) /\ ∃ p : Regrown, w'' = grow (redrawn W3 p.d) p.os) := fun d os =>
  Calls.regrown_of (HH.out _ (below_step B3 (below_regrown W3 d os)))
 have d0 := cell_regrown q0
 have d1 := cell_regrown q1
 have dM := cell_regrown hM3
 clear HH
 go_wp2_with fail
 refine wp_region_quiet_below (by kernel_rfl) (by kernel_rfl) ?_
 repeat (first
  | go_big_quiet_step (exact HCF.out _ _)
  | quiet_step (exact HCF.out _ _))
 refine wpQuiet_nil ?_
 intro _ hw'
 obtain ⟨⟨dq, osq⟩, hw''⟩ := hw'
 subst hw''
 have hb4 := below_regrown W3 dq osq
 have B4 := below_step B3 hb4
 have e0 := d0 dq osq
 have e1 := d1 dq osq
 replace r0 := keep_cell hb4 r0
 replace r1 := keep_cell hb4 r1
 have x0' : (grow (redrawn W3 dq) osq).frozen? ⟨w.heap.size, 0, none⟩ = false := by rw [hb4.frozen l3]; exact x0
 have x1' : (grow (redrawn W3 dq) osq).frozen? ⟨w.heap.size, 1, none⟩ = false := by rw [hb4.frozen l3]; exact x1
 clear HCF d0 d1 dM q0 q1 x0 x1 hM3 B3 hb4 l3
 generalize grow (redrawn W3 dq) osq = w4 at *
 go_wp2
 refine bodyPost_ret (v := .tuple #[.agg #[.int .i64 c, .int .i64 g], .bool true]) (by simp only [results, Tryz.results71]; go_simp) rfl ⟨rfl, ?_⟩
 exact (B4.setCell nL _).setCell nL _
end
section
open Go.RowKit Go.Extern.Stop Go.Stop Go.Extern Go.Sort
theorem rnames_zero {cs : List (List Ins)} {p : RkPl} {m : Mk} {w : World} (h : RkAt cs p m w) (hf : m.faults <= 1000000000) :
  Calls Tryz.prog 71 #[.pointer (some ⟨p.k, 0, none⟩), .int .i64 0] w fun e w' => (∃ c g : Int, e = .returned (.tuple #[.agg #[.int .i64 c, .int .i64 g], .bool false])) /\ RkStep cs p m.mem w p.rp p.mv (m.addFault 1) w' := by
 have hba : Below w.heap.size w (w.alloc (.cells #[.int .i64 0, .int .i64 0] 50)) := box_below 0 0 w
 obtain ⟨z0, z1⟩ := box2c w 50 (.int .i64 0) (.int .i64 0)
 have y0 : (w.alloc (.cells #[.int .i64 0, .int .i64 0] 50)).frozen? ⟨w.heap.size, 0, none⟩ = false := by simp
 have y1 : (w.alloc (.cells #[.int .i64 0, .int .i64 0] 50)).frozen? ⟨w.heap.size, 1, none⟩ = false := by simp
 have hlk := h.lk
 have H := hide h
 clear h
 generalize hw : w.alloc (.cells #[.int .i64 0, .int .i64 0] 50) = w1 at *
 go_enter Tryz.func71, Tryz.ntmps71
 go_wp2_with fail
 refine (refOf_zero _).mono ?_
 rintro e w2 ⟨rfl, hb2⟩
 have hzl : w.heap.size < w1.heap.size := bLt z0
 obtain ⟨W3, hW3⟩ : ∃ W3, W3 = w2.alloc (.cells #[.int .i64 0, .int .i64 0] 50) := ⟨_, rfl⟩
 have hb3 : Below w1.heap.size w1 W3 := by rw [hW3]; exact hb2.alloc hb2.size _
 have q0 : W3.cell? ⟨w2.heap.size, 0, none⟩ = some (.int .i64 0) := by rw [hW3]; simp
 have q1 : W3.cell? ⟨w2.heap.size, 1, none⟩ = some (.int .i64 0) := by rw [hW3]; simp
 have r0 := keep_cell hb3 z0
 have r1 := keep_cell hb3 z1
 have x0 : W3.frozen? ⟨w.heap.size, 0, none⟩ = false := by rw [hb3.frozen hzl]; exact y0
 have x1 : W3.frozen? ⟨w.heap.size, 1, none⟩ = false := by rw [hb3.frozen hzl]; exact y1
 have B3 := below_step hba hb3
 clear z0 z1 y0 y1 hw hb3
 go_wp2_with fail
 rw [<- hW3]
 clear hW3 hb2 hzl
 have d1 : ((5 : Int) == 0) = false := by decide
 go_quiet (fail)
 have B4 := B3.trans ((Below.drewN' (w := W3) nq).mono B3.size)
 have H4 := hide (H.out.below B4)
 have hF := H4.out.mFaults
 have hZ := H4.out.fk 3
 have S4 : Hid (∀ u0 u1, RkStep cs p m.mem w p.rp p.mv (m.addFault 1) ((((W3.drewN nq).setCell ⟨p.k, 3, none⟩ (.int .i64 ((m.faults : Int) + 1))).setCell ⟨w.heap.size, 0, none⟩ u0).setCell ⟨w.heap.size, 1, none⟩ u1)) := fun u0 u1 => by
  have hn : ¬ p.fp cs.length m.mem w.heap.size := fun e => by have := H.out.fp_lt e; omega
  have hB := H.out.rc.size
  exact ((RkStep.of_below B4 H4.out.fault1).setNew u0 nL hn hB).setNew u1 nL hn hB
 replace q0 : (W3.drewN nq).cell? ⟨w2.heap.size, 0, none⟩ = some (.int .i64 0) := q0
 replace q1 : (W3.drewN nq).cell? ⟨w2.heap.size, 1, none⟩ = some (.int .i64 0) := q1
 replace r0 : (W3.drewN nq).cell? ⟨w.heap.size, 0, none⟩ = some (.int .i64 0) := r0
 replace r1 : (W3.drewN nq).cell? ⟨w.heap.size, 1, none⟩ = some (.int .i64 0) := r1
 replace x0 : (W3.drewN nq).frozen? ⟨w.heap.size, 0, none⟩ = false := x0
 replace x1 : (W3.drewN nq).frozen? ⟨w.heap.size, 1, none⟩ = false := x1
 clear B3 H4 H
 generalize W3.drewN nq = w4 at *
 go_wp2
 refine bodyPost_ret (v := .tuple #[.agg #[.int .i64 0, .int .i64 0], .bool false]) (by simp only [results, Tryz.results71]; go_simp) rfl ⟨⟨_, _, rfl⟩, ?_⟩
 exact S4.out _ _
theorem rnames_gone {cs : List (List Ins)} {p : RkPl} {m : Mk} {n : Int} (hn : Wd n) (hn0 : n ≠ 0) {w : World} (h : RkAt cs p m w) (hf : m.faults <= 1000000000) (hh : m.mem.ar.has (cellOf n) (genOf n) = false) :
  Calls Tryz.prog 71 #[.pointer (some ⟨p.k, 0, none⟩), .int .i64 n] w fun e w' => (∃ c g : Int, e = .returned (.tuple #[.agg #[.int .i64 c, .int .i64 g], .bool false])) /\ RkStep cs p m.mem w p.rp p.mv (m.addFault 1) w' := by
 have h1 : 1 <= n := by have := hn.1; omega
 have HR : Hid (∀ w', Calls Tryz.prog 21 #[.int .i64 n] w' fun e w'' => e = .returned (.tuple #[.agg #[.int .i64 (cellOf n), .int .i64 (genOf n)], .int .i64 0]) /\ Below w'.heap.size w' w'') := fun w' => refOf_ok n w' h1 hn.2
 have HH : Hid (∀ w', Below w.heap.size w w' -> Calls Tryz.prog 46 #[.pointer (some ⟨p.rp.mb, 0, none⟩), .agg #[.int .i64 (cellOf n), .int .i64 (genOf n)]] w' fun e w'' => e = .returned (.bool false) /\ Below w'.heap.size w' w'') := fun w' hb => by
  have := here_any p.rp m.mem (cellOf n) (genOf n) w' (h.below hb).mem
  rwa [hh] at this
 have hM := h.mM
 have H := hide h
 clear hh hn h hn0
 generalize cellOf n = c at *
 generalize genOf n = g at *
 have hba : Below w.heap.size w (w.alloc (.cells #[.int .i64 0, .int .i64 0] 50)) := box_below 0 0 w
 obtain ⟨z0, z1⟩ := box2c w 50 (.int .i64 0) (.int .i64 0)
 have y0 : (w.alloc (.cells #[.int .i64 0, .int .i64 0] 50)).frozen? ⟨w.heap.size, 0, none⟩ = false := by simp
 have y1 : (w.alloc (.cells #[.int .i64 0, .int .i64 0] 50)).frozen? ⟨w.heap.size, 1, none⟩ = false := by simp
 have hM1 := keep_cell hba hM
 generalize hw : w.alloc (.cells #[.int .i64 0, .int .i64 0] 50) = w1 at *
 go_enter Tryz.func71, Tryz.ntmps71
 go_wp2_with fail
 refine (HR.out _).mono ?_
 rintro e w2 ⟨rfl, hb2⟩
 have hzl : w.heap.size < w1.heap.size := bLt z0
 obtain ⟨W3, hW3⟩ : ∃ W3, W3 = w2.alloc (.cells #[.int .i64 c, .int .i64 g] 50) := ⟨_, rfl⟩
 have hb3 : Below w1.heap.size w1 W3 := by rw [hW3]; exact hb2.alloc hb2.size _
 have q0 : W3.cell? ⟨w2.heap.size, 0, none⟩ = some (.int .i64 c) := by rw [hW3]; simp
 have q1 : W3.cell? ⟨w2.heap.size, 1, none⟩ = some (.int .i64 g) := by rw [hW3]; simp
 have r0 := keep_cell hb3 z0
 have r1 := keep_cell hb3 z1
 have x0 : W3.frozen? ⟨w.heap.size, 0, none⟩ = false := by rw [hb3.frozen hzl]; exact y0
 have x1 : W3.frozen? ⟨w.heap.size, 1, none⟩ = false := by rw [hb3.frozen hzl]; exact y1
 have hM3 := keep_cell hb3 hM1
 have B3 := below_step hba hb3
 have l3 : w.heap.size < W3.heap.size := bLt r0
 clear z0 z1 y0 y1 hM hM1 hw HR hb3
 go_wp2_with fail
 rw [<- hW3]
 clear hW3 hb2 hzl
 have HCF : Hid (∀ d os, Calls Tryz.prog 46 #[.pointer (some ⟨p.rp.mb, 0, none⟩), .agg #[.int .i64 c, .int .i64 g]] (grow (redrawn W3 d) os) fun e w'' => e = .returned (.bool false) /\ ∃ p : Regrown, w'' = grow (redrawn W3 p.d) p.os) := fun d os =>
  Calls.regrown_of (HH.out _ (below_step B3 (below_regrown W3 d os)))
 have d0 := cell_regrown q0
 have d1 := cell_regrown q1
 have dM := cell_regrown hM3
 clear HH
 go_wp2_with fail
 refine wp_region_quiet_below (by kernel_rfl) (by kernel_rfl) ?_
 repeat (first
  | go_big_quiet_step (exact HCF.out _ _)
  | quiet_step (exact HCF.out _ _))
 refine wpQuiet_nil ?_
 intro _ hw'
 obtain ⟨⟨dq, osq⟩, hw''⟩ := hw'
 subst hw''
 have hb4 := below_regrown W3 dq osq
 have B4 := below_step B3 hb4
 have e0 := d0 dq osq
 have e1 := d1 dq osq
 replace r0 := keep_cell hb4 r0
 replace r1 := keep_cell hb4 r1
 have x0' : (grow (redrawn W3 dq) osq).frozen? ⟨w.heap.size, 0, none⟩ = false := by rw [hb4.frozen l3]; exact x0
 have x1' : (grow (redrawn W3 dq) osq).frozen? ⟨w.heap.size, 1, none⟩ = false := by rw [hb4.frozen l3]; exact x1
 clear HCF d0 d1 dM q0 q1 x0 x1 hM3 B3 hb4 l3
 generalize grow (redrawn W3 dq) osq = w4 at *
 have H4 := hide (H.out.below B4)
 have hF := H4.out.mFaults
 have hZ := H4.out.fk 3
 have hlk := H.out.lk
 have S4 : Hid (∀ u0 u1, RkStep cs p m.mem w p.rp p.mv (m.addFault 1) (((w4.setCell ⟨p.k, 3, none⟩ (.int .i64 ((m.faults : Int) + 1))).setCell ⟨w.heap.size, 0, none⟩ u0).setCell ⟨w.heap.size, 1, none⟩ u1)) := fun u0 u1 => by
  have hn : ¬ p.fp cs.length m.mem w.heap.size := fun e => by have := H.out.fp_lt e; omega
  have hB := H.out.rc.size
  exact ((RkStep.of_below B4 H4.out.fault1).setNew u0 nL hn hB).setNew u1 nL hn hB
 clear H4 H B4
 go_wp2
 refine bodyPost_ret (v := .tuple #[.agg #[.int .i64 c, .int .i64 g], .bool false]) (by simp only [results, Tryz.results71]; go_simp) rfl ⟨⟨_, _, rfl⟩, ?_⟩
 exact S4.out _ _
theorem rnames_no {cs : List (List Ins)} {p : RkPl} {m : Mk} {n : Int} (hn : Wd n) {w : World} (h : RkAt cs p m w) (hf : m.faults <= 1000000000) (hy : m.names n = false) :
  Calls Tryz.prog 71 #[.pointer (some ⟨p.k, 0, none⟩), .int .i64 n] w fun e w' => (∃ c g : Int, e = .returned (.tuple #[.agg #[.int .i64 c, .int .i64 g], .bool false])) /\ RkStep cs p m.mem w p.rp p.mv (m.addFault 1) w' := by
 by_cases h0 : n = 0
 ·subst h0; exact rnames_zero h hf
 ·refine rnames_gone hn h0 h hf ?_
  unfold Mk.names at hy
  have hb : (n == 0) = false := beq_eq_false_iff_ne.2 h0
  rw [hb] at hy
  simpa using hy
theorem rkfence_any {cs : List (List Ins)} {p : RkPl} {m : Mk} {t : Nat} (ht : t < cs.length) {w : World} (h : RkAt cs p m w) (hx : ∀ x ∈ m.mem.waits t, x.Ok) (h8 : (m.mem.waits t).length <= 8) (hf : m.faults <= 1000000000) :
  Calls Tryz.prog 75 #[.pointer (some ⟨p.k, 0, none⟩), .int .i64 t] w fun e w' => e = .returned (.tuple #[]) /\ ∃ r, RkStep cs p m.mem w r p.mv (m.fence t) w' := by
 have hM := h.mM
 have hF := h.mFaults
 have hZ := h.fk 3
 have hlk := h.lk
 have hg := Nat.le_trans (Rm.gone_le (m.mem.waits t) t m.mem) h8
 have HF : Hid (∀ w', RkAt cs p m w' -> Calls Tryz.prog 120 #[.pointer (some ⟨p.rp.mb, 0, none⟩), .int .i64 t] w' fun e w'' => e = .returned (.int .i64 (m.mem.gone t (m.mem.waits t))) /\ w''.cell? ⟨p.k, 3, none⟩ = some (.int .i64 m.faults) /\ w''.frozen? ⟨p.k, 3, none⟩ = false /\ Hid (∃ r, RkStep cs p m.mem w' r p.mv (m.setMem (m.mem.drainAll t (m.mem.waits t))) w'')) := fun w' h' =>
  (rfence_any p.rp m.mem t w' h'.mem (by rw [h'.thr]; exact ht) (fun x hx' => (hx x hx').1) (by omega)).mono fun _ w'' ⟨e1, r, q⟩ => by
    have S := h'.ofMem q (Rm.drainAll_ar _ _ _).2.2.2
    exact ⟨e1, S.at'.mFaults, S.at'.fk 3, r, S⟩
 have HD : Hid (m.fence t = (m.setMem (m.mem.drainAll t (m.mem.waits t))).addFault (m.mem.gone t (m.mem.waits t))) := rfl
 have hfm : Hid ((m.setMem (m.mem.drainAll t (m.mem.waits t))).faults = m.faults) := rfl
 rw [HD.out]
 have H := hide h
 clear h hx h8 HD
 generalize m.mem.gone t (m.mem.waits t) = G at *
 have HW : Hid (IntKind.i64.wrap ((m.faults : Int) + (G : Int)) = ((m.faults + G : Nat) : Int)) := by show _ = _; rw [IntKind.wrap_i64]; omega
 generalize m.setMem (m.mem.drainAll t (m.mem.waits t)) = m' at *
 go_enter Tryz.func75, Tryz.ntmps75
 go_wp2_with fail
 go_region_with (go_at_call 120; refine (HF.out _ (H.out.drewN 1)).mono ?_; rintro e w2 ⟨rfl, f2, z2, S2⟩)
 all_goals
  go_wp2
  go_end0
  obtain ⟨r, S⟩ := S2.out
  refine ⟨rfl, r, ?_⟩
  have S3 := S.trans (S.at'.addFault G)
  rw [hfm.out] at S3
  rw [HW.out]
  exact RkStep.of_below (Below.drewN' 1) S3
end
end Go.Proofs.YtaiigfcfmcicjaaGreatDoor
