import Derived.Test.YtaiigfcfmcicjaaGreatDoorF05
import Derived.Laws.IdiomCopy
import Derived.Deep.RegionHeld3
import Derived.Deep.RegionLaw
import Derived.Deep.RegionWith
namespace Go.Proofs.YtaiigfcfmcicjaaGreatDoor
set_option maxRecDepth 100000
set_option maxHeartbeats 8000000
section
open Go.RowKit Go.Extern.Stop Go.Stop Go.Extern
def Rm.drainAll (s : Rm) (t : Nat) : List Wt -> Rm
 | [] => s
 | x :: l => (s.drained t x l).drainAll t l
def Rm.gone (s : Rm) (t : Nat) : List Wt -> Nat
 | [] => 0
 | x :: l => (if s.ar.has x.c x.g = true then 0 else 1) + (s.drained t x l).gone t l
theorem Rm.drained_waits (s : Rm) (t : Nat) (x : Wt) (l : List Wt) : (s.drained t x l).waits t = l := by
 unfold Rm.drained
 split
 ·simp [Rm.setWord, Rm.setWaits]
 ·simp [Rm.setWaits]
theorem Rm.drained_threads (s : Rm) (t : Nat) (x : Wt) (l : List Wt) : (s.drained t x l).threads = s.threads := by
 unfold Rm.drained
 split <;> rfl
theorem Rm.gone_le (l : List Wt) (t : Nat) : ∀ s : Rm, s.gone t l <= l.length := by
 induction l with
 | nil => intro s; exact Nat.zero_le _
 | cons x l ih =>
  intro s
  have := ih (s.drained t x l)
  rw [Rm.gone, List.length_cons]
  split <;> omega
def waitLen (tb t : Nat) (w : World) : Nat := match w.cell? ⟨tb, t, none⟩ with
 | some (.slice _ n _) => n
 | _ => 0
theorem RmAt.waitLen {p : RmPl} {s : Rm} {w : World} (h : RmAt p s w) {t : Nat} (ht : t < s.threads) : waitLen p.tb t w = (s.waits t).length := by
 obtain ⟨hv, hown⟩ := h.waits t ht
 obtain ⟨ad, cap, hvs, -⟩ := ownsRow_shape hown
 unfold Go.Proofs.YtaiigfcfmcicjaaGreatDoor.waitLen
 rw [hv, hvs]
theorem rfence_any (p : RmPl) (s : Rm) (t : Nat) (w : World) (h : RmAt p s w) (ht : t < s.threads) (hx : ∀ x ∈ s.waits t, 0 <= x.w /\ x.w < 4) (hfew : (s.waits t).length <= 1000) :
  Calls Tryz.prog 120 #[.pointer (some ⟨p.mb, 0, none⟩), .int .i64 t] w fun e w' => e = .returned (.int .i64 (s.gone t (s.waits t))) /\ ∃ p', RmStep p s w p' (s.drainAll t (s.waits t)) w' := by
 have hgl := Rm.gone_le (s.waits t) t s
 generalize hG : s.gone t (s.waits t) = G at *
 generalize hD : s.drainAll t (s.waits t) = D at *
 have H0 : Hid (RmStep p s w p s w) := RmStep.refl h
 have HI : Hid (∃ p1 s1, s1.threads = s.threads /\ (s1.waits t).length <= 1000 /\ (∀ x ∈ s1.waits t, 0 <= x.w /\ x.w < 4) /\ 0 + s1.gone t (s1.waits t) = G /\ s1.drainAll t (s1.waits t) = D /\ RmStep p s w p1 s1 w) := ⟨p, s, rfl, hfew, hx, by omega, hD, RmStep.refl h⟩
 clear h hx hG hD
 go_enter Tryz.func120, Tryz.ntmps120
 go_wp2_with fail
 go_loopw [5, 6] (fun n _ wr => ∃ k : Nat, n = .int .i64 k /\ ∃ p1 s1, s1.threads = s.threads /\ (s1.waits t).length <= 1000 /\ (∀ x ∈ s1.waits t, 0 <= x.w /\ x.w < 4) /\ k + s1.gone t (s1.waits t) = G /\ s1.drainAll t (s1.waits t) = D /\ RmStep p s w p1 s1 wr) (fun _ _ wr => waitLen p.tb t wr)
 case atStart => exact ⟨0, rfl, HI.out⟩
 case round =>
  obtain ⟨k, rfl, p1, s1, h1, h2, h3, h4, h5, h6⟩ := hrel
  have H6 : Hid (RmStep p s w p1 s1 wr) := h6
  have hk : k <= 1000 := by omega
  have A6 := h6.at'
  have htc := A6.tcap
  have t1 : t < s1.threads := by omega
  have ti : (t : Int) < s1.threads := by omega
  have hm1 := A6.mWaits
  have hwl := A6.waitLen t1
  rw [h6.tb] at hwl
  obtain ⟨hv, hown⟩ := A6.waits t t1
  obtain ⟨ad, cap, hvs, hcl, hcm, hcell⟩ := ownsRow_shape hown
  rw [hvs] at hv
  rw [h6.mb] at hm1
  have HA : Hid (RmAt p1 s1 wr) := A6
  clear A6 hown hcell hvs h6
  cases hl : s1.waits t with
  | nil =>
   rw [hl] at hv h4 h5
   rw [List.length_nil] at hv
   have HG : Hid (k = G) := h4
   have HD : Hid (s1 = D) := h5
   clear h4 h5 h3 HI H0 HA
   go_wp2
   go_ret
   exact ⟨by rw [HG.out]; rfl, p1, by rw [<- HD.out]; exact H6.out⟩
  | cons x l =>
   rw [hl] at hv h2 h3 h4 h5 hwl
   have hx := h3 x (List.mem_cons_self ..)
   have hll : l.length <= 1000 := by rw [List.length_cons] at h2; omega
   have l0 : (0 : Int) < (l.length : Int) + 1 := by omega
   rw [List.length_cons] at hv
   have HN : Hid (∀ p2 w2 (j : Nat), (j : Int) = k + (if s1.ar.has x.c x.g = true then 0 else 1) -> RmStep p1 s1 wr p2 (s1.drained t x l) w2 -> (∃ k' : Nat, (Value.int .i64 j) = .int .i64 k' /\ ∃ p1 s1, s1.threads = s.threads /\ (s1.waits t).length <= 1000 /\ (∀ x ∈ s1.waits t, 0 <= x.w /\ x.w < 4) /\ k' + s1.gone t (s1.waits t) = G /\ s1.drainAll t (s1.waits t) = D /\ RmStep p s w p1 s1 w2) /\ waitLen p.tb t w2 < waitLen p.tb t wr) := by
    intro p2 w2 j hj hst
    refine ⟨⟨j, rfl, p2, s1.drained t x l, ?_, ?_, ?_, ?_, ?_, H6.out.trans hst⟩, ?_⟩
    ·rw [Rm.drained_threads]; exact h1
    ·rw [Rm.drained_waits]; exact hll
    ·rw [Rm.drained_waits]; exact fun y hy => h3 y (List.mem_cons_of_mem _ hy)
    ·rw [Rm.drained_waits]
     rw [Rm.gone] at h4
     split at h4 <;> rename_i hh <;> simp only [hh, if_true] at hj <;> simp at hj <;> omega
    ·rw [Rm.drained_waits]; exact h5
    ·rw [hwl, <- H6.out.tb, <- hst.tb, hst.at'.waitLen (by rw [Rm.drained_threads]; exact t1), Rm.drained_waits, List.length_cons]
     omega
   cases hh : s1.ar.has x.c x.g
   ·have HC : Hid (Calls Tryz.prog 73 #[.pointer (some ⟨p.mb, 0, none⟩), .int .i64 t] wr fun e w' => e = .returned (.int .i64 7) /\ ∃ p', RmStep p1 s1 wr p' (s1.drained t x l) w') := by
     have := rdrain_gone p1 s1 t x l wr HA.out t1 hl hx hll hh
     rw [H6.out.mb] at this
     exact this
    rw [hh] at HN
    clear hh HA H6 H0 HI h3 h4 h5 hwl hl
    go_wp2_with fail
    refine HC.out.mono ?_
    rintro e2 w2 ⟨rfl, p2, hst⟩
    have HF := HN.out p2 w2 (k + 1) (by simp) hst
    clear HN HC hst hm1 hv
    go_wp2
    go_roundw
    case rel =>
     obtain ⟨k', e1, e2⟩ := HF.1
     clear HF
     have e3 : ((k + 1 : Nat) : Int) = k' := by injection e1
     exact ⟨k', by go_num, e2⟩
    case measure => exact HF.2
   ·have HC : Hid (Calls Tryz.prog 73 #[.pointer (some ⟨p.mb, 0, none⟩), .int .i64 t] wr fun e w' => e = .returned (.int .i64 0) /\ ∃ p', RmStep p1 s1 wr p' (s1.drained t x l) w') := by
     have := rdrain_done p1 s1 t x l wr HA.out t1 hl hx hll hh
     rw [H6.out.mb] at this
     exact this
    rw [hh] at HN
    clear hh HA H6 H0 HI h3 h4 h5 hwl hl
    go_wp2_with fail
    refine HC.out.mono ?_
    rintro e2 w2 ⟨rfl, p2, hst⟩
    have HF := HN.out p2 w2 k (by simp) hst
    clear HN HC hst hm1 hv
    go_wp2
    go_roundw
    case rel => exact HF.1
    case measure => exact HF.2
variable {w : World}
theorem ralloc_step (p : RmPl) (s : Rm) (c : Nat) (w : World) (h : RmAt p s w) (hc : c < s.ar.size) (hf : ∀ j, j < c -> s.ar.there j = true) (ht : s.ar.there c = false) (hg : s.ar.given c + 1 < 4611686018427387904) :
  Calls Tryz.prog 44 #[.pointer (some ⟨p.mb, 0, none⟩)] w fun e w' => e = .returned (.tuple #[.agg #[.int .i64 c, .int .i64 (s.ar.given c)], .int .i64 0]) /\ ∃ p', RmStep p s w p' (s.give c) w' := by
 refine (ralloc_some p s c w h hc hf ht hg).mono ?_
 rintro e w' ⟨he, hT, b, hb, hA⟩
 refine ⟨he, p.withWords c b 4, rfl, rfl, hA, hT.mono (fun k _ _ e => Or.inr (Or.inl e)), fun k hk => ?_⟩
 rcases RmPl.fp_words p s (s.give c) c b 4 k rfl rfl hk with e | e
 ·exact Or.inl e
 ·exact Or.inr (by omega)
theorem RmStep.setThere {p : RmPl} {s : Rm} (h : RmAt p s w) (c : Nat) (hc : c < s.ar.size) (b : Bool) : RmStep p s w p (s.setThere c b) (w.setCell ⟨p.cb, c * 3 + 2, none⟩ (.bool b)) :=
 ⟨rfl, rfl, h.setThere c hc b, (Turns.refl _ _).setCell _ (Or.inr (Or.inl rfl)), fun _ hk => Or.inl hk⟩
theorem RmStep.setWord {p : RmPl} {s : Rm} (h : RmAt p s w) (c m : Nat) (hc : c < s.ar.size) (hm : m < 4) (v : Int) : RmStep p s w p (s.setWord c m v) (w.setCell ⟨p.wb c, m, none⟩ (.int .i64 v)) :=
 ⟨rfl, rfl, h.setWord c m hc hm v, (Turns.refl _ _).setCell _ (Or.inr (Or.inr (Or.inr (Or.inl ⟨c, hc, rfl⟩)))), fun _ hk => Or.inl hk⟩
theorem Rm.drained_ar (s : Rm) (t : Nat) (x : Wt) (l : List Wt) : (s.drained t x l).ar.size = s.ar.size /\ (s.drained t x l).ar.there = s.ar.there /\ (s.drained t x l).ar.given = s.ar.given := by
 unfold Rm.drained
 split <;> exact ⟨rfl, rfl, rfl⟩
theorem Rm.drainAll_ar (l : List Wt) (t : Nat) : ∀ s : Rm, (s.drainAll t l).ar.size = s.ar.size /\ (s.drainAll t l).ar.there = s.ar.there /\ (s.drainAll t l).ar.given = s.ar.given /\ (s.drainAll t l).threads = s.threads := by
 induction l with
 | nil => intro s; exact ⟨rfl, rfl, rfl, rfl⟩
 | cons x l ih =>
  intro s
  obtain ⟨h1, h2, h3, h4⟩ := ih (s.drained t x l)
  obtain ⟨k1, k2, k3⟩ := s.drained_ar t x l
  exact ⟨h1.trans k1, h2.trans k2, h3.trans k3, h4.trans (s.drained_threads t x l)⟩
theorem Rm.drainAll_waits (l : List Wt) (t : Nat) : ∀ s : Rm, s.waits t = l -> (s.drainAll t l).waits t = [] := by
 induction l with
 | nil => intro s h; exact h
 | cons x l ih => intro s _; exact ih (s.drained t x l) (s.drained_waits t x l)
theorem Rm.drained_waits_ne (s : Rm) (t u : Nat) (x : Wt) (l : List Wt) (h : u ≠ t) : (s.drained t x l).waits u = s.waits u := by
 unfold Rm.drained
 split <;> simp [Rm.setWord, Rm.setWaits, h]
theorem Rm.drainAll_waits_ne (l : List Wt) (t u : Nat) (h : u ≠ t) : ∀ s : Rm, (s.drainAll t l).waits u = s.waits u := by
 induction l with
 | nil => intro s; rfl
 | cons x l ih => intro s; rw [Rm.drainAll, ih, Rm.drained_waits_ne _ _ _ _ _ h]
end
section
open Go.RowKit Go.Extern.Stop Go.Stop Go.Extern
theorem turns_setCells {S : Nat -> Nat -> Prop} {a : World} (b : Nat) : ∀ (vs : List Value) (o : Nat) (w : World), Turns S a w -> (∀ j, j < vs.length -> S b (o + j)) -> Turns S a (w.setCells b o vs)
 | [], _, _, h, _ => h
 | v :: r, o, w, h, hS => turns_setCells b r (o + 1) _ (h.setCell v (by simpa using hS 0 (by simp))) (fun j hj => by have := hS (j + 1) (by simp; omega); rwa [show o + (j + 1) = o + 1 + j by omega] at this)
end
section
open Go.RowKit Go.Extern.Stop Go.Stop Go.Extern Go.Sort
def Wt.Ok (x : Wt) : Prop := (0 <= x.w /\ x.w < 4) /\ (0 <= x.v /\ x.v < 4294967296)
end
end Go.Proofs.YtaiigfcfmcicjaaGreatDoor
