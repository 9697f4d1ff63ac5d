import Derived.Test.YtaiigfcfmcicjaaGreatDoorF32
import Derived.Test.YtaiigfcfmcicjaaGreatDoorF34
import Derived.Test.YtaiigfcfmcicjaaGreatDoorF33
import Derived.Test.YtaiigfcfmcicjaaGreatDoorF30
namespace Go.Proofs.YtaiigfcfmcicjaaGreatDoor
set_option maxRecDepth 100000
set_option maxHeartbeats 8000000
section
open Go.RowKit Go.Extern.Stop Go.Stop Go.Extern Go.Maps Go.WideMaps Go.Sort
def clSta (f n : Nat) : Sta := ⟨64, graceI f (clCells.map pad4) n, rowsG 2 n n⟩
theorem cl_fits {f n : Nat} (h1 : 1 <= n) (h6 : n <= 6) (hf : 1 <= f /\ f <= 4) : (clSta f n).fits n = true := by
 have key : ∀ (f : Fin 5) (n : Fin 7), 1 <= f.val -> 1 <= n.val -> (clSta f.val n.val).fits n.val = true := by decide +kernel
 exact key ⟨f, by omega⟩ ⟨n, by omega⟩ hf.1 h1
theorem clFault_none {f : Nat} (hf : 1 <= f /\ f <= 4) {cl : List (List OpI)} (h : (eachE cl).1 = 0) : (clSta f cl.length).fault (cl.map (clC f)) = (0, -1) := by
 obtain ⟨-, h6, h1, -⟩ := eachE_ok h
 unfold Sta.fault
 rw [List.length_map, if_pos ⟨(by show (1 : Int) <= 64; decide), (by show (64 : Int) <= 64; decide), h1, h6, cl_fits h1 h6 hf⟩]
 refine codesFrom_none _ 0 fun t L ht => ?_
 rw [List.getElem?_map] at ht
 cases hc : cl[t]? with
 | none => rw [hc] at ht; cases ht
 | some c =>
  rw [hc] at ht
  cases ht
  obtain ⟨k1, k2⟩ := eachE_sh h c (List.mem_of_getElem? hc)
  rw [clC_good hf k1 k2]
theorem clStart_ok {f : Nat} (hf : 1 <= f /\ f <= 4) {cl : List (List OpI)} (h : (eachE cl).1 = 0) {ai ar ad : Option Addr} {ci cr cap : Nat} {w : World} (hs : StaAt (clSta f cl.length) ⟨ai, ci, ar, cr⟩ w) (hl : codesAt ad (cl.map (clC f)) w) :
  Calls Tryz.prog 18 #[.agg #[.int .i64 64, .slice ai (graceI f (clCells.map pad4) cl.length).length ci, .slice ar (rowsG 2 cl.length cl.length).length cr], .slice ad cl.length cap] w fun e w' => e = .returned (.agg #[.int .i64 0, .int .i64 (-1)]) /\ Below w.heap.size w w' := by
 have h6 := (eachE_ok h).2.1
 have h' := startFault_any (cap := cap) hs hl (by rw [List.length_map]; omega)
 rw [clFault_none hf h, List.length_map] at h'
 exact h'
theorem backStart_any (c : Int) (ai ar : Option Addr) (ni ci nr cr : Nat) (w : World) :
  Calls Tryz.prog 19 #[.agg #[.int .i64 c, .slice ai ni ci, .slice ar nr cr]] w fun e w' => e = .returned (.agg #[.int .i64 c, .slice ai ni ci, .slice ar nr cr]) /\ Below w.heap.size w w' := by
 go_enter Tryz.func19, Tryz.ntmps19
 go_wp2_with fail
 refine bodyPost_ret (v := .agg #[.int .i64 c, .slice ai ni ci, .slice ar nr cr]) (by simp only [results, Tryz.results19]; go_simp) rfl ?_
 exact ⟨rfl, (bRf.alloc nL _).alloc (by simp) _⟩
end
section
open Go.RowKit
theorem wd_zero : Wd 0 := ⟨by decide, by decide⟩
theorem rowAt_wd {R : List (List Int)} {n : Nat} (h : rowsOk n R = true) (t r : Nat) : Wd (rowAt R t r) := by
 unfold rowAt
 cases ht : R[t]? with
 | none =>
  have e : R.getD t [] = [] := by rw [List.getD_eq_getElem?_getD, ht]; rfl
  rw [e]; exact wd_zero
 | some row =>
  have e : R.getD t [] = row := by rw [List.getD_eq_getElem?_getD, ht]; rfl
  rw [e]
  cases hr : row[r]? with
  | none => rw [List.getD_eq_getElem?_getD, hr]; exact wd_zero
  | some v => rw [List.getD_eq_getElem?_getD, hr]; exact (rowOk_at h ht).2 r v hr
theorem Sta.mach_ok {s : Sta} {n : Nat} (h : s.fits n = true) (h2 : s.cells <= 64) (hn : n <= 6) : MkOk n 1 (s.mach n) := by
 obtain ⟨-, f2, -, f4⟩ := Sta.fits_of h
 refine ⟨⟨fun t _ x hx => ?_, fun t _ => ?_, fun c k => ?_, fun c => ?_, ?_, hn⟩, rfl, fun t r => rowAt_wd f4 t r, Nat.zero_le _, Nat.zero_le _, fun _ => Nat.zero_le _⟩
 ·exact absurd hx List.not_mem_nil
 ·exact Nat.zero_le _
 ·show Wd (if _ then rowAt s.init c k else 0)
  split
  ·exact rowAt_wd f2 c k
  ·exact wd_zero
 ·show (if c < s.init.length then 1 else 0) <= 1
  split <;> decide
 ·show s.cells.toNat <= 64
  omega
def hubQ (f : Nat) : List Int := [1, if f = 4 then 0 else 4, 0, 0]
def ownQ (f n t : Nat) : List Int := [if f = 3 then 1 else 0, if f = 4 then 0 else if t + 1 < n then (t : Int) + 5 else 0, 0, 0]
def initQ (f n : Nat) : List (List Int) := [1, 0, 0, 0] :: [1, 0, 0, 0] :: hubQ f :: (List.range n).map (ownQ f n)
def regQ (t : Nat) : List Int := [0, 0, 0, 0, 0, 2, (t : Int) + 4, 3]
theorem clSta_is {f n : Nat} (hf : 1 <= f /\ f <= 4) (h1 : 1 <= n) (h6 : n <= 6) : clSta f n = ⟨64, initQ f n, (List.range n).map regQ⟩ := by
 have key : ∀ (f : Fin 5) (n : Fin 7), 1 <= f.val -> 1 <= n.val -> graceI f.val (clCells.map pad4) n.val = initQ f.val n.val /\ rowsG 2 n.val n.val = (List.range n.val).map regQ := by decide +kernel
 obtain ⟨h3, h2⟩ := key ⟨f, by omega⟩ ⟨n, by omega⟩ hf.1 h1
 show (⟨64, graceI f (clCells.map pad4) n, rowsG 2 n n⟩ : Sta) = _
 have h3 : graceI f (clCells.map pad4) n = initQ f n := h3
 have h2 : rowsG 2 n n = (List.range n).map regQ := h2
 rw [h3, h2]
def clM (f n : Nat) : Mk := (⟨64, initQ f n, (List.range n).map regQ⟩ : Sta).mach n
theorem clM_is {f n : Nat} (hf : 1 <= f /\ f <= 4) (h1 : 1 <= n) (h6 : n <= 6) : (clSta f n).mach n = clM f n := by rw [clSta_is hf h1 h6]; rfl
def clGh (f n : Nat) (V : Int -> Prop) : Gq := ⟨fun _ => none, fun _ _ => false, if f = 4 then [] else (List.range n).reverse, 0, fun _ => none, fun _ => [], fun _ => ⟨false, false, false⟩, V⟩
theorem initQ_len (f n : Nat) : (initQ f n).length = n + 3 := by simp [initQ]
section
variable {f n : Nat} {V : Int -> Prop}
theorem cl_words (c k : Nat) : (clM f n).mem.ar.words c k = if c < n + 3 /\ k < 4 then rowAt (initQ f n) c k else 0 := by
 show (if c < (initQ f n).length /\ k < 4 then rowAt (initQ f n) c k else 0) = _
 rw [initQ_len]
theorem cl_there (c : Nat) : (clM f n).mem.ar.there c = decide (c < n + 3) := by
 show (if c < (initQ f n).length then true else false) = _
 rw [initQ_len]
 split <;> rename_i h
 ·rw [decide_eq_true h]
 ·rw [decide_eq_false h]
theorem cl_given (c : Nat) : (clM f n).mem.ar.given c = if c < n + 3 then 1 else 0 := by
 show (if c < (initQ f n).length then 1 else 0) = _
 rw [initQ_len]
theorem cl_rowt {t : Nat} (ht : t < n) (k : Nat) : rowAt (initQ f n) (t + 3) k = (ownQ f n t).getD k 0 := by
 unfold rowAt initQ
 rw [List.getD_cons_succ, List.getD_cons_succ, List.getD_cons_succ, List.getD_eq_getElem?_getD (l := (List.range n).map (ownQ f n)), List.getElem?_map, List.getElem?_range ht]
 rfl
theorem cl_regs {t : Nat} (ht : t < n) (k : Nat) : (clM f n).regs t k = (regQ t).getD k 0 := by
 show rowAt ((List.range n).map regQ) t k = _
 unfold rowAt
 rw [List.getD_eq_getElem?_getD (l := (List.range n).map regQ), List.getElem?_map, List.getElem?_range ht]
 rfl
theorem cl_waits (t : Nat) : (clM f n).mem.waits t = [] := rfl
theorem cl_ov {t : Nat} (ht : t < n) {k : Nat} (hk : k < 4) : ovq (clM f n) t k = (ownQ f n t).getD k 0 := by
 rw [ovq_none (cl_waits t), cl_words, if_pos ⟨by omega, hk⟩, cl_rowt ht]
theorem cl_live {c : Nat} (hn : n <= 6) (hc : c < n + 3) : Live (clM f n) c := ⟨by show c < 64; omega, by rw [cl_there]; exact decide_eq_true hc, by rw [cl_given, if_pos hc]; decide, by show 64 <= 64; decide⟩
theorem cl_ch (hf : f ≠ 4) (i u : Nat) (hi : (clGh f n V).ch[i]? = some u) : i < n /\ u = n - 1 - i := by
 have e : (clGh f n V).ch = (List.range n).reverse := if_neg hf
 rw [e] at hi
 have hlt : i < n := by have := (List.getElem?_eq_some_iff.1 hi).1; simpa using this
 rw [List.getElem?_reverse (by simpa using hlt), List.length_range, List.getElem?_range (by omega)] at hi
 exact ⟨hlt, (Option.some.inj hi).symm⟩
theorem cl_QD (hf : 1 <= f /\ f <= 4) (hn : 1 <= n /\ n <= 6) (h1 : V 1) (h0 : ¬ V 0) : QD f n (clGh f n V) (clM f n) := by
 have hch4 : f = 4 -> (clGh f n V).ch = [] := fun e => if_pos e
 have hchn : f ≠ 4 -> (clGh f n V).ch = (List.range n).reverse := fun e => if_neg e
 have hL : ∀ c, c < n + 3 -> Live (clM f n) c := fun c hc => cl_live hn.2 hc
 have w0 : (clM f n).mem.ar.words 0 0 = 1 := by rw [cl_words, if_pos ⟨by omega, by decide⟩]; rfl
 have w1 : (clM f n).mem.ar.words 1 0 = 1 := by rw [cl_words, if_pos ⟨by omega, by decide⟩]; rfl
 have hrf : rf (clM f n) 0 = 1 := by
  unfold rf
  rw [cl_given, if_pos (by omega)]
  rfl
 have now : ∀ w, ow (clGh f n V) w = [] := fun _ => rfl
 refine ⟨⟨hf, hn.2, rfl, fun c _ hc => ⟨hL c (by omega), by rw [cl_given, if_pos (by omega)]⟩, fun t ht => by rw [cl_regs ht]; rfl, fun t ht => by rw [cl_regs ht]; rfl, fun t ht => by rw [cl_regs ht]; rfl, ?_, fun t ht x hx => absurd (show x ∈ ([] : List Wt) from hx) List.not_mem_nil, ?_, fun t ht => ?_, fun h4 t ht => ?_, ?_, fun i u hi => ?_, fun t ht h3 => ?_, fun w t _ hu => ?_⟩,
  ⟨rfl, ⟨⟨.inl rfl, hL _ (by show 0 < n + 3; omega)⟩, by show (clM f n).mem.ar.words 1 0 = rf (clM f n) 0; rw [w1, hrf], by show V ((clM f n).mem.ar.words 0 0); rw [w0]; exact h1⟩, fun w _ c hc => absurd (show c ∈ ([] : List Nat) from hc) List.not_mem_nil, fun w _ => by rw [now]; exact List.nodup_nil, fun w u _ _ _ c hc => absurd (show c ∈ ([] : List Nat) from hc) List.not_mem_nil, fun t ht x hx => absurd (show x ∈ ([] : List Wt) from hx) List.not_mem_nil, fun w _ c hc => ?_, fun w _ => trivial, fun w _ _ => rfl, fun w hw => ⟨by rw [cl_regs hw]; rfl, (fun e => (nomatch e)), fun _ => rfl⟩, fun t _ hr => hr.elim, fun c h2 h3 h4 => ?_, rfl, fun x hx => absurd (show x ∈ ([] : List (Nat × Int)) from hx) List.not_mem_nil, h0⟩⟩
 ·rw [cl_words, if_pos ⟨by omega, by decide⟩]; rfl
 ·by_cases e : f = 4
  ·rw [hch4 e]; exact List.nodup_nil
  ·rw [hchn e]
   exact List.pairwise_reverse.2 (List.Pairwise.imp (fun h => Ne.symm h) List.nodup_range)
 ·by_cases e : f = 4
  ·rw [hch4 e] at ht; cases ht
  ·rw [hchn e] at ht
   simpa using ht
 ·rw [hchn h4]; simpa using ht
 ·rw [cl_words, if_pos ⟨by omega, by decide⟩]
  show (hubQ f).getD 1 0 = _
  by_cases e : f = 4
  ·rw [hch4 e]
   show (if f = 4 then (0 : Int) else 4) = 0
   rw [if_pos e]
  ·rw [hchn e]
   show (if f = 4 then (0 : Int) else 4) = _
   rw [if_neg e]
   obtain ⟨k, hk⟩ : ∃ k, n = k + 1 := ⟨n - 1, by omega⟩
   rw [hk, List.range_succ_eq_map, List.reverse_cons, List.getLast?_concat]
   rfl
 ·have e : f ≠ 4 := fun e => by rw [hch4 e] at hi; cases hi
  obtain ⟨h1, h2⟩ := cl_ch e i u hi
  have hu : u < n := by omega
  rw [cl_words, if_pos ⟨by omega, by decide⟩, cl_rowt hu]
  show (if f = 4 then (0 : Int) else if u + 1 < n then (u : Int) + 5 else 0) = _
  rw [if_neg e]
  cases i with
  | zero => rw [if_neg (by omega)]
  | succ j =>
   rw [if_pos (by omega)]
   show _ = match (clGh f n V).ch[j]? with | none => 0 | some v => (v : Int) + 4
   rw [hchn e, List.getElem?_reverse (by simp; omega), List.length_range, List.getElem?_range (by omega)]
   show (u : Int) + 5 = ((n - 1 - j : Nat) : Int) + 4
   omega
 ·refine ⟨fun e => absurd e h3, fun _ => ⟨fun _ => ⟨?_, ?_⟩, fun e => absurd e (Nat.lt_irrefl 0)⟩, fun e => ⟨fun hm => ?_, fun _ => ⟨?_, rfl⟩⟩⟩
  ·rw [cl_ov ht (by decide)]
   show (if f = 3 then (1 : Int) else 0) = 0
   rw [if_neg h3]
  ·rw [cl_ov ht (by decide)]; rfl
  ·rw [hch4 e] at hm; cases hm
  ·rw [cl_ov ht (by decide)]; rfl
 ·cases (show false = true from hu)
 ·rcases hc with hc | ⟨hc, -⟩
  ·exact absurd (show c ∈ ([] : List Nat) from hc) List.not_mem_nil
  ·cases hc
 ·rw [cl_there, decide_eq_true_iff] at h4
  left
  show c = 0
  rcases h2 with h2 | h2 <;> omega
def Bk0 : Bk := ⟨0, ⟨false, false, false⟩, false, false⟩
end
def flOp (k : Fl) (x : OpI) : Fl := ⟨psRet (kn x.kind.toList) k.r, psWt (kn x.kind.toList) k.w, if kn x.kind.toList = 8 then true else if kn x.kind.toList = 9 then false else k.k⟩
theorem folS_sf : ∀ {l : List OpI} {s : CrI}, folS s l = true -> s.sf = true
 | [], _, h => h
 | x :: l, s, h => by
  have := folS_sf (l := l) (s := s.pass x) h
  unfold CrI.pass at this
  simp only [Bool.and_eq_true] at this
  exact this.1
theorem disc_of {V : Int -> Prop} : ∀ (l : List OpI) (s : CrI) (b : Bk), (∀ x ∈ l, kn x.kind.toList = 1 -> V x.n) -> folE s l = 0 -> folS s l = true -> s.deep = (b.d : Int) -> s.ret = b.fl.r -> s.wt = b.fl.w -> b.g = false -> b.d + l.length <= 100 -> DiscQ V (l.foldl flOp b.fl) b (opTs l ++ [.gone])
 | [], s, b, _, hE, _, hd, _, _, hg, hl => by
  unfold folE at hE
  have h0 : b.d = 0 := by
   by_cases h : 0 < s.deep
   ·rw [if_pos h] at hE; cases hE
   ·omega
  exact ⟨by omega, ⟨0, b.fl, false, true⟩, ⟨hg, h0, rfl⟩, rfl, rfl⟩
 | x :: l, s, b, hV, hE, hS, hd, hr, hw, hg, hl => by
  have hVl : ∀ y ∈ l, kn y.kind.toList = 1 -> V y.n := fun y hy => hV y (List.mem_cons_of_mem _ hy)
  have hVx := hV x List.mem_cons_self
  rw [List.length_cons] at hl
  unfold folE at hE
  by_cases h0 : shErr (kn x.kind.toList) x.n = 0
  ·rw [if_neg (fun k => k h0)] at hE
   by_cases h1 : ckErr (kn x.kind.toList) s.deep s.ret = 0
   ·rw [if_neg (fun k => k h1)] at hE
    have hS : folS (s.pass x) l = true := hS
    have hsf := folS_sf hS
    unfold CrI.pass at hsf
    simp only [Bool.and_eq_true, Bool.not_eq_true', Bool.and_eq_false_iff] at hsf
    have ih := fun (b' : Bk) (e1 : (s.pass x).deep = (b'.d : Int)) (e2 : (s.pass x).ret = b'.fl.r) (e3 : (s.pass x).wt = b'.fl.w) (e4 : b'.g = false) (e5 : b'.d + l.length <= 100) => disc_of l (s.pass x) b' hVl hE hS e1 e2 e3 e4 e5
    have hT : opTs (x :: l) ++ [.gone] = opT x ++ (opTs l ++ [.gone]) := by
     unfold opTs
     rw [List.flatMap_cons, List.append_assoc]
    have hF : (x :: l).foldl flOp b.fl = l.foldl flOp (flOp b.fl x) := rfl
    rw [hT, hF]
    have hp : s.pass x = ⟨psDeep (kn x.kind.toList) s.deep, psRet (kn x.kind.toList) s.ret, psWt (kn x.kind.toList) s.wt, s.sf && !((kn x.kind.toList == 7) && !s.wt)⟩ := rfl
    rw [hp] at ih
    unfold opT flOp
    rcases kcases x.kind.toList with ⟨-, hk⟩ | ⟨-, hk⟩ | ⟨-, hk⟩ | ⟨-, hk⟩ | ⟨-, hk⟩ | ⟨-, hk⟩ | ⟨-, hk⟩ | ⟨-, hk⟩ | ⟨-, hk⟩ | ⟨-, hk⟩ <;> rw [hk] at h0 h1 ih hsf hVx ⊢
    · -- put
     have h1 : (if 0 < s.deep ∨ s.ret = true then 8 else 0) = 0 := h1
     have h2 : ¬ (0 < s.deep ∨ s.ret = true) := fun e => by rw [if_pos e] at h1; cases h1
     have hd0 : b.d = 0 := by omega
     have hr0 : b.fl.r = false := by
      rw [<- hr]
      cases hq : s.ret
      ·rfl
      ·exact absurd (.inr hq) h2
     refine ⟨by omega, ⟨0, ⟨true, false, b.fl.k⟩, false, false⟩, ⟨hg, hd0, hVx rfl, hr0, rfl⟩, ih ⟨0, ⟨true, false, b.fl.k⟩, false, false⟩ ?_ rfl rfl rfl (by show 0 + l.length <= 100; omega)⟩
     show s.deep = 0
     omega
    · -- enter
     refine ⟨by omega, ⟨b.d + 1, b.fl, false, false⟩, ⟨hg, rfl⟩, ?_⟩
     exact ih ⟨b.d + 1, b.fl, false, false⟩ (by show s.deep + 1 = ((b.d + 1 : Nat) : Int); omega) hr hw rfl (by show b.d + 1 + l.length <= 100; omega)
    · -- leave
     have h1 : (if 0 < s.deep then 0 else 8) = 0 := h1
     have h2 : 0 < s.deep := by
      by_cases e : 0 < s.deep
      ·exact e
      ·rw [if_neg e] at h1; cases h1
     refine ⟨by omega, ⟨b.d - 1, b.fl, false, false⟩, ⟨hg, by omega, rfl⟩, ?_⟩
     exact ih ⟨b.d - 1, b.fl, false, false⟩ (by show s.deep - 1 = ((b.d - 1 : Nat) : Int); omega) hr hw rfl (by show b.d - 1 + l.length <= 100; omega)
    · -- rest
     have h1 : (if 0 < s.deep then 8 else 0) = 0 := h1
     have h2 : ¬ 0 < s.deep := fun e => by rw [if_pos e] at h1; cases h1
     have hd0 : b.d = 0 := by omega
     refine ⟨by omega, ⟨0, b.fl, false, false⟩, ⟨hg, hd0, rfl⟩, ?_⟩
     exact ih ⟨0, b.fl, false, false⟩ (by show s.deep = 0; omega) hr hw rfl (by show 0 + l.length <= 100; omega)
    · -- wait
     have h1 : (if 0 < s.deep then 8 else 0) = 0 := h1
     have h2 : ¬ 0 < s.deep := fun e => by rw [if_pos e] at h1; cases h1
     have hd0 : b.d = 0 := by omega
     refine ⟨by omega, ⟨0, ⟨b.fl.r, true, b.fl.k⟩, true, false⟩, ⟨hg, hd0, rfl⟩, ?_⟩
     exact ih ⟨0, ⟨b.fl.r, true, b.fl.k⟩, true, false⟩ (by show s.deep = 0; omega) hr rfl rfl (by show 0 + l.length <= 100; omega)
    · -- read
     have h1 : (if 0 < s.deep then 0 else 8) = 0 := h1
     have h2 : 0 < s.deep := by
      by_cases e : 0 < s.deep
      ·exact e
      ·rw [if_neg e] at h1; cases h1
     refine ⟨by omega, ⟨b.d, b.fl, false, false⟩, ⟨hg, by omega, rfl⟩, ?_⟩
     exact ih ⟨b.d, b.fl, false, false⟩ hd hr hw rfl (by show b.d + l.length <= 100; omega)
    · -- drop
     have h1 : (if s.ret = true then 0 else 5) = 0 := h1
     have hr0 : s.ret = true := by
      cases hq : s.ret
      ·rw [hq] at h1; cases h1
      ·rfl
     have hw0 : s.wt = true := by
      rcases hsf.2 with h | h
      ·cases h
      ·simpa using h
     refine ⟨by omega, ⟨b.d, ⟨false, b.fl.w, b.fl.k⟩, false, false⟩, ⟨hg, by rw [<- hr]; exact hr0, by rw [<- hw]; exact hw0, rfl⟩, ?_⟩
     exact ih ⟨b.d, ⟨false, b.fl.w, b.fl.k⟩, false, false⟩ hd rfl hw rfl (by show b.d + l.length <= 100; omega)
    · -- later
     have h1 : (if s.ret = true then 0 else 5) = 0 := h1
     have hr0 : s.ret = true := by
      cases hq : s.ret
      ·rw [hq] at h1; cases h1
      ·rfl
     refine ⟨by omega, ⟨b.d, ⟨false, b.fl.w, true⟩, false, false⟩, ⟨hg, by rw [<- hr]; exact hr0, rfl⟩, ?_⟩
     exact ih ⟨b.d, ⟨false, b.fl.w, true⟩, false, false⟩ hd rfl hw rfl (by show b.d + l.length <= 100; omega)
    · -- flush
     have h1 : (if 0 < s.deep then 8 else 0) = 0 := h1
     have h2 : ¬ 0 < s.deep := fun e => by rw [if_pos e] at h1; cases h1
     have hd0 : b.d = 0 := by omega
     refine ⟨by omega, ⟨0, ⟨b.fl.r, true, b.fl.k⟩, true, false⟩, ⟨hg, hd0, rfl⟩, by show 0 <= 100; omega, ⟨0, ⟨b.fl.r, true, false⟩, false, false⟩, ⟨rfl, rfl, rfl, rfl⟩, ?_⟩
     exact ih ⟨0, ⟨b.fl.r, true, false⟩, false, false⟩ (by show s.deep = 0; omega) hr rfl rfl (by show 0 + l.length <= 100; omega)
    ·unfold shErr at h0
     rw [if_neg (by decide)] at h0
     simp at h0
   ·rw [if_pos h1] at hE; exact absurd hE h1
  ·rw [if_pos h0] at hE; exact absurd hE h0
def Vq (cl : List (List OpI)) (v : Int) : Prop := v = 1 ∨ ∃ L ∈ cl, ∃ x ∈ L, kn x.kind.toList = 1 /\ x.n = v
theorem Vq_nz {cl : List (List OpI)} (h : (eachE cl).1 = 0) : ¬ Vq cl 0 := by
 rintro (h0 | ⟨L, hL, x, hx, hk, h0⟩)
 ·cases h0
 ·have := (eachE_sh h L hL).1 x hx
  unfold shErr at this
  rw [if_pos hk] at this
  by_cases hb : x.n < 1 ∨ 1000 < x.n
  ·rw [if_pos hb] at this; cases this
  ·omega
theorem eachE_fol {cl : List (List OpI)} (h : (eachE cl).1 = 0) : ∀ L ∈ cl, folE .first L = 0 := by
 obtain ⟨hf, -, -, -⟩ := eachE_ok h
 unfold eachE at h
 rw [if_pos hf] at h
 exact eachFrom_zero h
theorem cl_right {f : Nat} (hf : 1 <= f /\ f <= 4) {cl : List (List OpI)} (h : (eachE cl).1 = 0) : Right (cl.map (clC f)) := by
 obtain ⟨-, h6, h1, -⟩ := eachE_ok h
 refine right_of (fun t L ht => ?_) (by rw [List.length_map]; exact h1) (by rw [List.length_map]; exact h6) (fun t L ht i x hx => ?_)
 ·rw [List.getElem?_map] at ht
  cases hc : cl[t]? with
  | none => rw [hc] at ht; cases ht
  | some c =>
   rw [hc] at ht
   cases ht
   obtain ⟨k1, k2⟩ := eachE_sh h c (List.mem_of_getElem? hc)
   rw [clC_good hf k1 k2]
 ·rw [List.getElem?_map] at ht
  cases hc : cl[t]? with
  | none => rw [hc] at ht; cases ht
  | some c =>
   rw [hc] at ht
   cases ht
   obtain ⟨k1, k2⟩ := eachE_sh h c (List.mem_of_getElem? hc)
   have hm := List.mem_of_getElem? hx
   have hm : x ∈ opsC f c c.length ++ (gCode clGone (gGone f) ++ [stopI]) := hm
   rcases List.mem_append.1 hm with hm | hm
   ·have key : ∀ k, k <= c.length -> ∀ y ∈ opsC f c k, y.to.size <= maxLen := by
     intro k
     induction k with
     | zero => intro _ y hy; exact absurd (show y ∈ ([] : List Ins) from hy) List.not_mem_nil
     | succ k ih =>
      intro hk y hy
      obtain ⟨z, hz⟩ : ∃ z, c[k]? = some z := ⟨_, List.getElem?_eq_getElem (by omega)⟩
      rw [opsC_succ hz] at hy
      rcases List.mem_append.1 hy with hy | hy
      ·exact ih (by omega) y hy
      ·obtain ⟨u, hu, rfl⟩ := List.mem_map.1 hy
       have hb := clP_blk hf (k1 z (List.mem_of_getElem? hz))
       cases hlb : lbOp u.op
       ·rw [namedI_no hlb]
        have := hb.no u hu hlb
        rw [size_bl, this]
        exact Nat.zero_le _
       ·rw [namedI_yes hlb]
        have h1 := (hb.labs u hu hlb).2
        have h2 : (itB k).size <= 2 := by unfold itB; split <;> (show _ <= 2; simp [ByteArray.size])
        show (u.to ++ thDot ++ itB k).size <= maxLen
        rw [ByteArray.size_append, ByteArray.size_append]
        have h3 : thDot.size = 1 := rfl
        unfold maxLen
        omega
    exact key _ nL x hm
   ·have hg : ∀ g : Fin 4, ((gCode clGone (gGone (g.val + 1)) ++ [stopI]).all fun x => decide (x.to.size <= maxLen)) = true := by decide +kernel
    have := hg ⟨f - 1, by omega⟩
    dsimp only at this
    rw [show f - 1 + 1 = f by omega] at this
    exact of_decide_eq_true (List.all_eq_true.1 this x hm)
def clEnds (cl : List (List OpI)) (t : Nat) : Fl := (cl.getD t []).foldl flOp ⟨false, false, false⟩
def clCs (f : Nat) (cl : List (List OpI)) (t : Nat) : List Ins := clC f (cl.getD t [])
theorem clCs_at (f : Nat) (cl : List (List OpI)) (t : Nat) (ht : t < cl.length) : (cl.map (clC f))[t]? = some (clCs f cl t) := by
 unfold clCs
 rw [List.getElem?_map, List.getD_eq_getElem?_getD, List.getElem?_eq_getElem ht]
 rfl
end
section
open Go.RowKit
section
variable {f n R : Nat} {V : Int -> Prop} {ends : Nat -> Fl} {css : Nat -> List Ins} {G : Gq} {B : Nat -> List Tq} {m : Mk}
theorem cl_liv (h6 : n <= 6) : liv (clM f n) = n + 3 := by
 have key : ∀ n : Fin 7, ((List.range 64).filter fun c => decide (c < n.val + 3)).length = n.val + 3 := by decide
 have := key ⟨n, by omega⟩
 dsimp only at this
 rw [<- this]
 unfold liv
 rw [show (clM f n).mem.ar.size = 64 from rfl]
 congr 1
 exact List.filter_congr fun c _ => cl_there c
theorem cl_Good3 (hf : 1 <= f /\ f <= 4) (hn : 1 <= n /\ n <= 6) (h1 : V 1) (h0 : ¬ V 0) {pr : Nat -> List Tq} (hpr : ∀ t, t < n -> DiscQ V (ends t) Bk0 (pr t) /\ PsAt f (css t) 0 (pr t)) (hl : f = 3 -> ∀ t, t < n -> (pr t).getLast? = some .gone) (hR : sm n (fun t => rdB (pr t)) <= 400) :
  ∃ G B, Good3 f n V ends css (sm n fun t => rdB (pr t)) G B (clM f n) /\ psi f n G B (clM f n) <= sm n (fun t => csts f n (pr t)) + 6 * (n + 3) := by
 have key : ∀ j, j <= n -> ∃ (G : Gq) (B : Nat -> List Tq), QD f n G (clM f n) /\ G.val = V /\ (∀ t, t < j -> LocR f V (ends t) (css t) 0 (G.fl t) (B t) (G.pt t) /\ (∀ C r, Lx f C r (G.pt t)) /\ (f = 3 -> G.pt t = none -> shq (clM f n) t = 0) /\ (∀ C r ph, rkT f n C t r ph (G.pt t) + csts f n (B t) <= csts f n (pr t)) /\ rdP (G.pt t) + rdB (B t) = rdB (pr t)) /\ (∀ t, j <= t -> G.pt t = none /\ G.nd t = none /\ G.ls t = [] /\ G.fl t = ⟨false, false, false⟩) /\ (∀ w u, ¬ Olq G w u) := by
  intro j
  induction j with
  | zero => intro _; exact ⟨clGh f n V, fun _ => [], cl_QD hf hn h1 h0, rfl, fun t ht => absurd ht (Nat.not_lt_zero _), fun _ _ => ⟨rfl, rfl, rfl, rfl⟩, fun w u hu => by cases (show false = true from hu)⟩
  | succ j ih =>
   intro hj
   obtain ⟨G, B, g1, gv, g2, g3, g4⟩ := ih (by omega)
   have hjn : j < n := by omega
   obtain ⟨p1, p2, p3, p4⟩ := g3 j nL
   have hL := la_at g1 hjn p1
   have hb : BTq f G (clM f n) j Bk0 := by
    refine ⟨fun e _ => ?_, fun e => hL e, fun ⟨u, hu⟩ => g4 j u hu, by rw [p3, cl_regs hjn]; rfl, by rw [p2]; exact ⟨(fun e => (nomatch e)), fun _ => rfl⟩, fun c hc => (by rw [p2] at hc; cases hc), fun c hc _ => ?_, fun _ => p3⟩
    ·rw [cl_ov hjn (by decide)]
     show (if f = 3 then (1 : Int) else 0) % 2 = 1
     rw [if_pos e]; rfl
    ·rcases hc with hc | ⟨hc, -⟩
     ·rw [p3] at hc; cases hc
     ·rw [p2] at hc; cases hc
   obtain ⟨k, g, B', q1, q2, q3, q4, q5, q6⟩ := g1.hops2 (e := ends j) hjn (L := css j) (pr j) 0 Bk0 hb (by rw [gv]; exact (hpr j hjn).1) (hpr j hjn).2 (fun e _ => hl e j hjn) (fun e e2 => by
    have := hl e j hjn
    rw [e2] at this
    cases this)
   refine ⟨_, fun t => if t = j then B' else B t, q1, gv, fun t ht => ?_, fun t ht => ?_, g4⟩
   ·by_cases e : t = j
    ·subst e
     rw [Gq.upd_pt, Gq.upd_fl]
     dsimp only
     rw [if_pos rfl]
     rw [gv] at q2
     exact ⟨q2, q4, q3, q5, q6⟩
    ·rw [Gq.upd_ptn e, Gq.upd_fln e]
     dsimp only
     rw [if_neg e]; exact g2 t (by omega)
   ·have e : t ≠ j := by omega
    rw [Gq.upd_ptn e, Gq.upd_ndn e, Gq.upd_lsn e, Gq.upd_fln e]; exact g3 t (by omega)
 obtain ⟨G, B, k1, k2, k3, -, -⟩ := key n nL
 refine ⟨G, B, ⟨k1, k2, fun t ht => ⟨(k3 t ht).1, (k3 t ht).2.1 _ _⟩, fun h3 t ht => (k3 t ht).2.2.1 h3, hR, ?_⟩, ?_⟩
 ·show 0 + _ = _
  rw [Nat.zero_add]
  exact sm_same fun t ht => (k3 t ht).2.2.2.2
 ·unfold psi
  rw [cl_liv hn.2]
  refine Nat.add_le_add_right (sm_le fun t ht => ?_) _
  have := (k3 t ht).2.2.2.1 G.ch ((clM f n).regs t) (phs f n G (clM f n) t)
  unfold pot
  show _ + _ + ([] : List Wt).length <= _
  exact this
theorem count_mid (a p : Nat) (ha : 1 <= a) (hp : p = 0 ∨ a <= p) : ∀ N : Nat, ((List.range N).filter fun c => decide (1 <= c /\ c < a ∨ c = p)).length = (min a N - 1) + (if p < N then 1 else 0)
 | 0 => by simp
 | N + 1 => by
  rw [List.range_succ, List.filter_append, List.length_append, count_mid a p ha hp N]
  have hs : (List.filter (fun c => decide (1 <= c /\ c < a ∨ c = p)) [N]).length = if 1 <= N /\ N < a ∨ N = p then 1 else 0 := by
   by_cases e : 1 <= N /\ N < a ∨ N = p
   ·rw [List.filter_cons_of_pos (by simpa using e), if_pos e]; rfl
   ·rw [List.filter_cons_of_neg (by simpa using e), if_neg e]; rfl
  rw [hs]
  by_cases e1 : N = p
  ·subst e1
   rw [if_neg (Nat.lt_irrefl N), if_pos (show 1 <= N /\ N < a ∨ N = N from .inr rfl), if_pos (Nat.lt_succ_self N)]
   omega
  ·by_cases e2 : 1 <= N /\ N < a
   ·rw [if_pos (show 1 <= N /\ N < a ∨ N = p from .inl e2)]
    split <;> split <;> omega
   ·rw [if_neg (show ¬ (1 <= N /\ N < a ∨ N = p) from fun e => e.elim e2 e1)]
    split <;> split <;> omega
theorem Good3.count (h : Good3 f n V ends css R G B m) (hr : AtRst n G m) (he : ∀ t, t < n -> (ends t).r = false /\ (ends t).k = false) : liv m = n + 3 := by
 have hD := h.qd.2
 have hn := h.qd.1.few
 have how : ∀ w, w < n -> ow G w = [] := fun w hw => by
  have hl := (h.loc w hw).1
  rw [(hr w hw).1] at hl
  have hf : G.fl w = ends w := hl.1.2
  have h1 := loc_at h.qd hw (hr w hw).1
  have h2 : Nf m w (G.nd w) (G.fl w).r := h1.2
  have h3 := h2.2 (by rw [hf]; exact (he w hw).1)
  have h4 := hD.kep w hw (by rw [hf]; exact (he w hw).2)
  unfold ow
  rw [h3, h4]; rfl
 obtain ⟨⟨p1, p2⟩, -, -⟩ := hD.pub
 have hpl : G.pp < 64 := by have := p2.lt; rw [hD.size] at this; exact this
 unfold liv
 rw [hD.size, List.filter_congr (q := fun c => decide (1 <= c /\ c < n + 3 ∨ c = G.pp)) (fun c hc => ?_), count_mid (n + 3) G.pp (by omega) p1, if_pos hpl]
 ·omega
 ·have hc := List.mem_range.1 hc
  rw [Bool.eq_iff_iff, decide_eq_true_iff]
  constructor
  ·intro ht
   by_cases h1 : 1 <= c /\ c < n + 3
   ·exact .inl h1
   ·rcases hD.live c (by unfold Dc; omega) hc ht with e | ⟨w, hw, hd⟩
    ·exact .inr e
    ·rw [how w hw] at hd; cases hd
  ·rintro (h1 | h1)
   ·exact (h.qd.1.here c h1.1 (by omega)).1.there
   ·rw [h1]; exact p2.there
theorem Good3.marks (h : Good3 f n V ends css R G B m) (hr : AtRst n G m) : m.marks.length = R := by
 have h1 := h.rds
 rw [sm_same (H := fun _ => 0) fun u hu => by
  have hl := (h.loc u hu).1
  rw [(hr u hu).1] at hl
  rw [(hr u hu).1, hl.2]; rfl] at h1
 have h2 : ∀ k, sm k (fun _ => 0) = 0 := fun k => by
  induction k with
  | zero => rfl
  | succ k ih => show sm k _ + 0 = 0; rw [ih]
 rw [h2] at h1
 exact h1
end
def upto (k : Nat) : List Int := (List.range k).map fun (i : Nat) => (i : Int)
def rnd (n i : Nat) : List Int := (List.range (2 * n)).map fun (j : Nat) => ((i * (2 * n) + j : Nat) : Int)
theorem upto_add (a b : Nat) : upto (a + b) = upto a ++ (List.range b).map fun (j : Nat) => ((a + j : Nat) : Int) := by
 unfold upto
 rw [List.range_add, List.map_append, List.map_map]
 rfl
theorem rnd_all (n : Nat) : ∀ N : Nat, ((List.range N).map (rnd n)).flatten = upto (N * (2 * n))
 | 0 => by simp [upto]
 | N + 1 => by
  rw [List.range_succ, List.map_append, List.flatten_append, rnd_all n N, show (N + 1) * (2 * n) = N * (2 * n) + 2 * n from Nat.succ_mul _ _, upto_add]
  simp [rnd]
theorem rnd_covers {n : Nat} (i : Nat) : Covers n (rnd n i) := fun j hj => by
 refine ⟨((i * (2 * n) + j : Nat) : Int), List.mem_map.2 ⟨j, List.mem_range.2 hj, rfl⟩, ?_⟩
 have e : ((i * (2 * n) + j : Nat) : Int) = (j : Int) + (2 * (n : Int)) * (i : Int) := by
  push_cast
  rw [Int.mul_comm (i : Int)]
  omega
 rw [e, Int.add_mul_emod_self_left]
 exact Int.emod_eq_of_lt (by omega) (by omega)
theorem sm_const {F : Nat -> Nat} {c : Nat} : ∀ {n : Nat}, (∀ t, t < n -> F t <= c) -> sm n F <= n * c
 | 0, _ => Nat.zero_le _
 | n + 1, h => by
  have h1 := sm_const (n := n) fun t ht => h t (Nat.lt_succ_of_lt ht)
  have h2 := h n (Nat.lt_succ_self n)
  show sm n F + F n <= (n + 1) * c
  rw [Nat.succ_mul]
  omega
theorem csts_app (f n : Nat) : ∀ l l' : List Tq, csts f n (l ++ l') = csts f n l + csts f n l'
 | [], l' => (Nat.zero_add _).symm
 | x :: l, l' => by
  show cst f n x + csts f n (l ++ l') = cst f n x + csts f n l + csts f n l'
  rw [csts_app f n l l']
  omega
theorem rdB_app : ∀ l l' : List Tq, rdB (l ++ l') = rdB l + rdB l'
 | [], l' => (Nat.zero_add _).symm
 | x :: l, l' => by
  show rdT x + rdB (l ++ l') = rdT x + rdB l + rdB l'
  rw [rdB_app l l']
  omega
theorem cst_le {f n : Nat} (hf : 1 <= f /\ f <= 4) (hn : 1 <= n /\ n <= 3) (tg : Tq) : cst f n tg <= 120 /\ cst f n .empty = 5 := by
 refine ⟨?_, rfl⟩
 have key : ∀ (f : Fin 4) (n : Fin 3), ∀ tg ∈ [Tq.enter, .leave, .rest, .gone, .wait, .read, .put 0, .drop, .later, .empty], cst (f.val + 1) (n.val + 1) tg <= 120 := by decide
 have := key ⟨f - 1, by omega⟩ ⟨n - 1, by omega⟩
 dsimp only at this
 rw [show f - 1 + 1 = f by omega, show n - 1 + 1 = n by omega] at this
 cases tg with
 | put v => exact this (.put 0) (by simp)
 | _ => exact this _ (by simp)
theorem ops_cost {f n : Nat} (hf : 1 <= f /\ f <= 4) (hn : 1 <= n /\ n <= 3) : ∀ l : List OpI, csts f n (opTs l) <= l.length * 125
 | [] => Nat.zero_le _
 | x :: l => by
  have ih := ops_cost hf hn l
  have e : opTs (x :: l) = opT x ++ opTs l := by unfold opTs; rw [List.flatMap_cons]
  have h1 : csts f n (opT x) <= 125 := by
   unfold opT
   split <;> (simp only [csts]; first | (have := (cst_le hf hn .wait).1; have := (cst_le hf hn .wait).2; omega) | (have := (cst_le hf hn (.put x.n)).1; omega) | (have := (cst_le hf hn .enter).1; omega) | (have := (cst_le hf hn .leave).1; omega) | (have := (cst_le hf hn .rest).1; omega) | (have := (cst_le hf hn .read).1; omega) | (have := (cst_le hf hn .drop).1; omega) | (have := (cst_le hf hn .later).1; omega))
  rw [e, csts_app, List.length_cons, Nat.succ_mul]
  omega
end
end Go.Proofs.YtaiigfcfmcicjaaGreatDoor
