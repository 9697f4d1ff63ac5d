import Derived.Test.YtaiigfcfmcicjaaGreatDoorD48
import Derived.Test.YtaiigfcfmcicjaaGreatDoorD13
import Derived.Test.YtaiigfcfmcicjaaGreatDoorD43
import Derived.Test.YtaiigfcfmcicjaaGreatDoorD40
import Derived.Test.YtaiigfcfmcicjaaGreatDoorD26
import Derived.Test.YtaiigfcfmcicjaaGreatDoorD30
import Derived.Test.YtaiigfcfmcicjaaGreatDoorD20
import Derived.Test.YtaiigfcfmcicjaaGreatDoorD03
import Derived.Test.YtaiigfcfmcicjaaGreatDoorD25
import Derived.Deep.QuietTactic
import Derived.Test.YtaiigfcfmcicjaaGreatDoorD29
namespace Go.Proofs.YtaiigfcfmcicjaaGreatDoor
set_option maxRecDepth 100000
set_option maxHeartbeats 8000000
section
open Go.RowKit Go.Extern.Stop Go.Stop Go.Extern Go.Maps Go.WideMaps Go.Sort
theorem rturn_any {cs : List (List Ins)} {p : RkPl} {m : Mk} {K : Nat} {w : World} (h : RkX cs p m K w) (n : Int) :
  Calls Tryz.prog 25 #[.pointer (some ⟨p.k, 0, none⟩), .int .i64 n] w fun e w' => e = .returned (.int .i64 (m.turnO cs n).1) /\ ∃ r v, RkStep cs p m.mem w r v (m.turnO cs n).2 w' := by
 have hp := h.at'.mT
 have h6 := h.at'.few
 have h1 := h.right.some'
 have HM : Hid ((if n.tmod (2 * (cs.length : Int)) < 0 then n.tmod (2 * (cs.length : Int)) + 2 * (cs.length : Int) else n.tmod (2 * (cs.length : Int))) = n % (2 * (cs.length : Int))) := tmod_mod n (by omega)
 have b1 := Int.emod_nonneg n (show (2 * (cs.length : Int)) ≠ 0 by omega)
 have b2 := Int.emod_lt_of_pos n (show 0 < (2 * (cs.length : Int)) by omega)
 have HS : Hid (n % (2 * (cs.length : Int)) < cs.length -> Calls Tryz.prog 47 #[.pointer (some ⟨p.k, 0, none⟩), .int .i64 (n % (2 * (cs.length : Int)))] w fun e w' => e = .returned (.int .i64 (m.turnO cs n).1) /\ Hid (∃ r v, RkStep cs p m.mem w r v (m.turnO cs n).2 w')) := fun hlt => by
  unfold Mk.turnO
  rw [if_pos hlt]
  exact rstepO h _
 have HD : Hid (¬ n % (2 * (cs.length : Int)) < cs.length -> Calls Tryz.prog 48 #[.pointer (some ⟨p.k, 0, none⟩), .int .i64 (n % (2 * (cs.length : Int)) - cs.length)] w fun e w' => e = .returned (.int .i64 (m.turnO cs n).1) /\ Hid (∃ r v, RkStep cs p m.mem w r v (m.turnO cs n).2 w')) := fun hlt => by
  unfold Mk.turnO
  rw [if_neg hlt]
  exact rdrainO h _
 have w2 : IntKind.i64.wrap (2 * (cs.length : Int)) = 2 * (cs.length : Int) := by rw [IntKind.wrap_i64]; omega
 clear h
 generalize (m.turnO cs n).1 = E at *
 generalize (m.turnO cs n).2 = M' at *
 clear HM
 generalize hN : cs.length = N at *
 have HN := hide hN
 clear hN
 obtain ⟨k, hk⟩ : ∃ k : Int, (N : Int) = k := ⟨_, rfl⟩
 have k1 : 1 <= k := by omega
 have k2 : k <= 6 := by omega
 rw [hk] at HS HD w2 b1 b2
 obtain ⟨r, hr⟩ : ∃ r, n.tmod (2 * k) = r := ⟨_, rfl⟩
 have HMM := tmod_mod n (show 0 < 2 * k by omega)
 rw [hr] at HMM
 obtain ⟨f1, f2, w3, w4⟩ := turn_facts n k (by omega) (by omega) r hr
 have kz : ¬ (2 * k = 0) := by omega
 have k0 : (2 * k == 0) = false := by simp; omega
 have kd : decide (2 * k = 0) = false := by simp; omega
 have kn : ¬ k = 0 := by omega
 clear h6 h1
 by_cases hc : r < 0
 ·have hM := HMM
  rw [if_pos hc] at hM
  by_cases hd : n % (2 * k) < k
  ·have HS1 := hide (HS.out hd)
   clear HS HD HMM
   rw [<- hM] at HS1 hd
   clear hM b1 b2 f1 f2
   go_enter Tryz.func25, Tryz.ntmps25
   go_wp2_with fail
   refine HS1.out.mono ?_
   rintro e w1 ⟨rfl, h2⟩
   go_wp2
   go_ret
   exact ⟨rfl, h2.out⟩
  ·have HD1 := hide (HD.out hd)
   clear HS HD HMM
   have w5 : IntKind.i64.wrap (n % (2 * k) - k) = n % (2 * k) - k := by rw [IntKind.wrap_i64]; omega
   rw [<- hM] at HD1 hd w5
   clear hM b1 b2 f1 f2
   go_enter Tryz.func25, Tryz.ntmps25
   go_wp2_with fail
   refine HD1.out.mono ?_
   rintro e w1 ⟨rfl, h2⟩
   go_wp2
   go_ret
   exact ⟨rfl, h2.out⟩
 ·have hM := HMM
  rw [if_neg hc] at hM
  by_cases hd : n % (2 * k) < k
  ·have HS1 := hide (HS.out hd)
   clear HS HD HMM
   rw [<- hM] at HS1 hd
   clear hM b1 b2 f1 f2
   go_enter Tryz.func25, Tryz.ntmps25
   go_wp2_with fail
   refine HS1.out.mono ?_
   rintro e w1 ⟨rfl, h2⟩
   go_wp2
   go_ret
   exact ⟨rfl, h2.out⟩
  ·have HD1 := hide (HD.out hd)
   clear HS HD HMM
   have w5 : IntKind.i64.wrap (n % (2 * k) - k) = n % (2 * k) - k := by rw [IntKind.wrap_i64]; omega
   rw [<- hM] at HD1 hd w5
   clear hM b1 b2 f1 f2
   go_enter Tryz.func25, Tryz.ntmps25
   go_wp2_with fail
   refine HD1.out.mono ?_
   rintro e w1 ⟨rfl, h2⟩
   go_wp2
   go_ret
   exact ⟨rfl, h2.out⟩
def RkRel (cs : List (List Ins)) (p : RkPl) (m : Mk) (K : Nat) (w : World) (ad : Option Addr) (l : List Int) (j : Nat) (wr : World) : Prop :=
 ∃ r v, RkStep cs p m.mem w r v (m.runO cs (l.take j)).2 wr /\ RkX cs (p.to r v) (m.runO cs (l.take j)).2 (K + j) wr /\ numsAt ad l wr
theorem RkRel.next {cs : List (List Ins)} {p : RkPl} {m : Mk} {K : Nat} {w : World} {ad : Option Addr} {l : List Int} {j : Nat} {x : Int} {r r' : RmPl} {v v' : Value} {wr w' : World}
  (hx : l[j]? = some x) (k : RkStep cs p m.mem w r v (m.runO cs (l.take j)).2 wr) (h : RkX cs (p.to r v) (m.runO cs (l.take j)).2 (K + j) wr) (hn : numsAt ad l wr)
  (hd : ∀ b off, ad = some ⟨b, off, none⟩ -> ¬ (p.to r v).fp cs.length (m.runO cs (l.take j)).2.mem b) (hK : K + l.length <= 10000000)
  (k' : RkStep cs (p.to r v) (m.runO cs (l.take j)).2.mem wr r' v' (((m.runO cs (l.take j)).2.turnO cs x)).2 w') : RkRel cs p m K w ad l (j + 1) w' := by
 have hj : j < l.length := (List.getElem?_eq_some_iff.1 hx).1
 have e : l.take (j + 1) = l.take j ++ [x] := by rw [List.take_add_one, hx]; rfl
 unfold RkRel
 rw [e, Mk.runO_snoc]
 exact ⟨r', v', k.trans k', h.of k' (h.ok.turnO h.right x (by omega)) (by omega), hn.turns k'.turns (fun b off o hb => hd b off hb)⟩
theorem rrun_any {cs : List (List Ins)} {p : RkPl} {m : Mk} {K : Nat} {w : World} (h : RkX cs p m K w) {ad : Option Addr} {l : List Int} {cap : Nat} (hl : numsAt ad l w) (hlen : l.length <= 20000) (hcap : l.length <= cap) (hK : K + l.length <= 10000000)
  (hd : 0 < l.length -> ∀ b off, ad = some ⟨b, off, none⟩ -> b < w.heap.size /\ ¬ p.fp cs.length m.mem b) :
  Calls Tryz.prog 28 #[.pointer (some ⟨p.k, 0, none⟩), .slice ad l.length cap] w fun e w' => e = .returned (.int .i64 (m.runO cs l).1) /\ ∃ r v, RkStep cs p m.mem w r v (m.runO cs l).2 w' /\ RkX cs (p.to r v) (m.runO cs l).2 (K + l.length) w' := by
 have H0 : Hid (RkRel cs p m K w ad l 0 w) := hide ⟨p.rp, p.mv, RkStep.refl h.at', h, hl⟩
 have HD := hide hd
 have i1 : (l.length : Int) <= 20000 := by omega
 have i2 : (l.length : Int) <= cap := by omega
 clear h hl hd
 go_enter Tryz.func28, Tryz.ntmps28
 go_wp2_with fail
 go_loopw [5, 6, 7] (fun c i _ wr => ∃ j : Nat, j <= l.length /\ i = .int .i64 j /\ c = .int .i64 (m.runO cs (l.take j)).1 /\ Hid (RkRel cs p m K w ad l j wr)) (fun _ i _ _ => l.length - (intOf i).toNat)
 case atStart => exact ⟨0, Nat.zero_le _, rfl, rfl, H0⟩
 case round =>
  obtain ⟨j, hj, rfl, rfl, HH⟩ := hrel
  obtain ⟨r, v, hk, hx, hn⟩ := HH.out
  have hle := Mk.runO_le cs (l.take j) m
  rw [List.length_take] at hle
  by_cases hlt : j < l.length
  ·obtain ⟨x, hxx⟩ : ∃ x, l[j]? = some x := ⟨_, List.getElem?_eq_getElem hlt⟩
   obtain ⟨ab, off, rfl, c0⟩ := hn j x hxx
   have ji : (j : Int) < l.length := by omega
   have j2 : (j : Int) < 20000 := by omega
   have HT := hide (rturn_any hx x)
   have HC := runO_count (cs := cs) (m := m) hxx
   have HF : ∀ b off', (some ⟨ab, off, none⟩ : Option Addr) = some ⟨b, off', none⟩ -> ¬ (p.to r v).fp cs.length (m.runO cs (l.take j)).2.mem b := fun b off' e hb => by
    have := HD.out (by omega) b off' e
    rcases hk.fp b hb with h1 | h1
    ·exact this.2 h1
    ·omega
   have HR : Hid (∀ r' v' w', RkStep cs (p.to r v) (m.runO cs (l.take j)).2.mem wr r' v' (((m.runO cs (l.take j)).2.turnO cs x)).2 w' -> RkRel cs p m K w (some ⟨ab, off, none⟩) l (j + 1) w') := hide (fun r' v' w' k' => RkRel.next hxx hk hx hn HF hK k')
   have hp : (p.to r v).k = p.k := rfl
   rw [hp] at HT
   clear hk hx hn HF H0 HH hp
   have hh : (m.runO cs (l.take (j + 1))).1 <= j + 1 := by have := Mk.runO_le cs (l.take (j + 1)) m; rw [List.length_take] at this; omega
   generalize hC1 : (m.runO cs (l.take (j + 1))).1 = C1 at *
   have HC1 := hide hC1
   clear hC1
   generalize (m.runO cs (l.take j)).1 = C0 at *
   generalize hm : (m.runO cs (l.take j)).2 = M at *
   clear hm
   have HT2 := HT.out
   clear HT
   generalize (M.turnO cs x).2 = M2 at *
   generalize (M.turnO cs x).1 = E1 at *
   clear hxx
   have w1c : IntKind.i64.wrap ((C0 : Int) + 1) = (C0 : Int) + 1 := by rw [IntKind.wrap_i64]; omega
   cases E1 with
   | zero =>
    have e0 : ((C1 : Nat) : Int) = (C0 : Int) + 1 := by rw [HC]; rfl
    clear HC
    rw [show (((0 : Nat) : Int)) = 0 from rfl] at HT2
    go_wp2_with fail
    refine HT2.mono ?_
    rintro e w1 ⟨rfl, r', v', hk'⟩
    have H1 := hide (HR.out r' v' w1 hk')
    clear hk' HR
    go_wp2
    go_roundw
    case rel => exact ⟨j + 1, by omega, by go_num, by rw [HC1.out, e0], H1⟩
    case measure => simp [intOf]; omega
   | succ E2 =>
    have e0 : C1 = C0 := by rw [HC]; rfl
    clear HC
    have ne0 : ¬ (((E2 + 1 : Nat) : Int)) = 0 := by omega
    have nb0 : ((((E2 + 1 : Nat) : Int)) == 0) = false := beq_eq_false_iff_ne.2 ne0
    generalize (((E2 + 1 : Nat) : Int)) = EE at *
    go_wp2_with fail
    refine HT2.mono ?_
    rintro e w1 ⟨rfl, r', v', hk'⟩
    have H1 := hide (HR.out r' v' w1 hk')
    clear hk' HR
    go_wp2
    go_roundw
    case rel => exact ⟨j + 1, by omega, by go_num, by rw [HC1.out, e0], H1⟩
    case measure => simp [intOf]; omega
  ·obtain rfl : j = l.length := by omega
   have HZ : Hid (∃ r v, RkStep cs p m.mem w r v (m.runO cs l).2 wr /\ RkX cs (p.to r v) (m.runO cs l).2 (K + l.length) wr) := hide ⟨r, v, by rw [List.take_length] at hk; exact hk, by rw [List.take_length] at hx; exact hx⟩
   have ht : l.take l.length = l := List.take_length
   rw [ht]
   clear hk hx hn H0 ht HH
   go_wp2
   go_ret
   exact ⟨rfl, HZ.out⟩
end
section
open Go.RowKit Go.Extern.Stop Go.Stop Go.Extern Go.Maps Go.WideMaps Go.Sort
theorem clNewX {f : Nat} (hf : 1 <= f /\ f <= 4) {cl : List (List OpI)} (h : (eachE cl).1 = 0) {ai ar ad : Option Addr} {ci cr cap : Nat} {w0 w : World} (h0 : Below w0.heap.size w0 w) (hs : StaAt (clSta f cl.length) ⟨ai, ci, ar, cr⟩ w) (hl : codesAt ad (cl.map (clC f)) w0) :
  Calls Tryz.prog 20 #[.agg #[.int .i64 64, .slice ai (graceI f (clCells.map pad4) cl.length).length ci, .slice ar (rowsG 2 cl.length cl.length).length cr], .slice ad cl.length cap] w fun e w' => ∃ p : RkPl, e = .returned (.pointer (some ⟨p.k, 0, none⟩)) /\ Hid (RkX (cl.map (clC f)) p ((clSta f cl.length).mach cl.length) 1 w' /\ Below w.heap.size w w' /\ ∀ b, p.fp cl.length ((clSta f cl.length).mach cl.length).mem b -> w.heap.size <= b) := by
 obtain ⟨-, h6, h1, -⟩ := eachE_ok h
 have hl' : (cl.map (clC f)).length = cl.length := List.length_map _
 have h' := newMachine_any (cap := cap) h0 hs hl (show (1 : Int) <= 64 by decide) (show (64 : Int) <= 64 by decide) (by rw [hl']; exact h1) (by rw [hl']; exact h6) (by rw [hl']; exact cl_fits h1 h6 hf)
 rw [hl'] at h'
 refine h'.mono ?_
 rintro e w' ⟨p, he, hh⟩
 obtain ⟨g1, -, g3, g4⟩ := hh.out
 exact ⟨p, he, hide ⟨⟨g1, by rw [hl']; exact Sta.mach_ok (cl_fits h1 h6 hf) (by show (64 : Int) <= 64; decide) h6, cl_right hf h, by decide⟩, g3, g4⟩⟩
theorem has2_any {ad : Option Addr} {l : List Int} {cap : Nat} {w : World} (h : numsAt ad l w) (hl : l.length <= 1000) (x : Int) :
  Calls Tryz.prog 30 #[.slice ad l.length cap, .int .i64 x] w fun e w' => e = .returned (.bool (decide (x ∈ l))) /\ w' = w := by
 have HH := hide h
 obtain ⟨n, hn⟩ : ∃ n, Hid (l.length = n) := ⟨_, hide rfl⟩
 have HN : Hid (¬ (∃ j, j < n /\ l[j]? = some x) -> x ∉ l) := hide (fun h hx => by
  obtain ⟨j, hj, e⟩ := List.getElem_of_mem hx
  exact h ⟨j, by rw [<- hn.out]; exact hj, by rw [List.getElem?_eq_getElem hj, e]⟩)
 rw [hn.out] at hl ⊢
 clear h
 go_enter Tryz.func30, Tryz.ntmps30
 go_wp2_with fail
 go_loopw [5] (fun i wr => ∃ j : Nat, j <= n /\ i = .int .i64 j /\ Hid (∀ (t : Nat), t < j -> l[t]? ≠ some x) /\ w = wr) (fun i _ => n - (intOf i).toNat)
 case atStart => exact ⟨0, Nat.zero_le _, rfl, hide (fun t ht => absurd ht (Nat.not_lt_zero _)), (by first | rfl | trivial)⟩
 case round =>
  obtain ⟨j, hj, rfl, HA, rfl⟩ := hrel
  by_cases hlt : j < n
  ·have ji : (j : Int) < n := by omega
   obtain ⟨y, hy⟩ : ∃ y, l[j]? = some y := ⟨_, List.getElem?_eq_getElem (by rw [hn.out]; exact hlt)⟩
   have HY := hide hy
   obtain ⟨b, off, rfl, c0⟩ := HH.out j y hy
   clear hy
   by_cases he : y = x
   ·have HX : Hid (x ∈ l) := hide (by rw [<- he]; exact List.mem_of_getElem? HY.out)
    have hq : (y == x) = true := beq_iff_eq.2 he
    clear he HA
    go_wp2_with fail
    go_ret
    exact ⟨by rw [decide_eq_true HX.out]; rfl, rfl⟩
   ·have hq : (y == x) = false := beq_eq_false_iff_ne.2 he
    have HA2 : Hid (∀ (t : Nat), t < j + 1 -> l[t]? ≠ some x) := hide (fun t ht => by
     by_cases e : t = j
     ·subst e
      rw [HY.out]
      exact fun h => he (Option.some.inj h)
     ·exact HA.out t (by omega))
    clear HA
    go_wp2_with fail
    go_roundw
    case rel => exact ⟨j + 1, by omega, by go_num, HA2, (by first | rfl | trivial)⟩
    case measure => simp [intOf]; omega
  ·obtain rfl : j = n := by omega
   have HX : Hid (x ∉ l) := hide (HN.out (fun ⟨t, ht, h⟩ => HA.out t ht h))
   go_wp2_with fail
   go_ret
   exact ⟨by rw [decide_eq_false HX.out]; rfl, rfl⟩
def putsL (L : List OpI) : List Int := (L.filter fun x => x.kind.toList == [112, 117, 116]).map (·.n)
def putsC (cl : List (List OpI)) : List Int := 1 :: cl.flatMap putsL
theorem putsL_snoc {L : List OpI} {k : Nat} {x : OpI} (h : L[k]? = some x) : putsL (L.take (k + 1)) = putsL (L.take k) ++ (if (x.kind.toList == [112, 117, 116]) = true then [x.n] else []) := by
 unfold putsL
 rw [List.take_add_one, h, List.filter_append, List.map_append]
 congr 1
 show (List.filter _ [x]).map _ = _
 rw [List.filter_cons]
 split <;> rfl
theorem putsC_snoc {cl : List (List OpI)} {j : Nat} {L : List OpI} (h : cl[j]? = some L) : (cl.take (j + 1)).flatMap putsL = (cl.take j).flatMap putsL ++ putsL L := by
 rw [List.take_add_one, h, List.flatMap_append]
 simp
theorem putsL_len (L : List OpI) : (putsL L).length <= L.length := by
 unfold putsL
 rw [List.length_map]
 exact List.length_filter_le _ _
theorem putsC_len {cl : List (List OpI)} (h : ∀ L ∈ cl, L.length <= 30) : (cl.flatMap putsL).length <= cl.length * 30 := by
 induction cl with
 | nil => simp
 | cons L cl ih =>
  rw [List.flatMap_cons, List.length_append, List.length_cons]
  have h1 := putsL_len L
  have h2 := h L List.mem_cons_self
  have h3 := ih (fun L hL => h L (List.mem_cons_of_mem _ hL))
  omega
theorem kn_put (s : List UInt8) : kn s = 1 ↔ (s == [112, 117, 116]) = true := by
 rcases kcases s with ⟨h, hk⟩ | ⟨h, hk⟩ | ⟨h, hk⟩ | ⟨h, hk⟩ | ⟨h, hk⟩ | ⟨h, hk⟩ | ⟨h, hk⟩ | ⟨h, hk⟩ | ⟨h, hk⟩ | ⟨h, hk⟩ <;> rw [hk, h.1] <;> decide
theorem Vq_puts {cl : List (List OpI)} {v : Int} (h : Vq cl v) : v ∈ putsC cl := by
 rcases h with rfl | ⟨L, hL, x, hx, hk, rfl⟩
 ·exact List.mem_cons_self
 ·refine List.mem_cons_of_mem _ (List.mem_flatMap.2 ⟨L, hL, List.mem_map.2 ⟨x, List.mem_filter.2 ⟨hx, (kn_put _).1 hk⟩, rfl⟩⟩)
theorem puts_any {ad : Option Addr} {cl : List (List OpI)} {cap : Nat} {w : World} (h : opRowsAt ad cl w) (h10 : cl.length <= 10) (h30 : ∀ L ∈ cl, L.length <= 30) :
  Calls Tryz.prog 29 #[.slice ad cl.length cap] w fun e w' => ∃ v, e = .returned v /\ numsOwn w' w.heap.size v (putsC cl) /\ Below w.heap.size w w' := by
 have HH := hide h
 obtain ⟨n, hn⟩ : ∃ n, Hid (cl.length = n) := ⟨_, hide rfl⟩
 have HZ : Hid (∀ j, j <= n -> ((cl.take j).flatMap putsL).length <= 300) := hide (fun j hj => by
  have := putsC_len (cl := cl.take j) (fun L hL => h30 L (List.mem_of_mem_take hL))
  rw [List.length_take, hn.out] at this
  have : min j n <= 10 := by have := hn.out; omega
  omega)
 have HM := hide h30
 have HE : Hid ((cl.take n).flatMap putsL = cl.flatMap putsL) := hide (by rw [<- hn.out, List.take_length])
 rw [hn.out] at h10 ⊢
 clear h h30
 have HB0 : Hid (Below w.heap.size w (w.alloc (.cells #[.int .i64 1] 3))) := hide (bRf.alloc nL _)
 have HO0 : Hid (numsOwn (w.alloc (.cells #[.int .i64 1] 3)) w.heap.size (.slice (some ⟨w.heap.size, 0, none⟩) 1 1) (1 :: (cl.take 0).flatMap putsL)) := hide (numsOwn_new (l := [1]) rfl nL (by decide))
 go_enter Tryz.func29, Tryz.ntmps29
 go_wp2_with fail
 go_loopw [3, 4, 5] (fun v i _ wr => ∃ j : Nat, j <= n /\ i = .int .i64 j /\ Hid (numsOwn wr w.heap.size v (1 :: (cl.take j).flatMap putsL)) /\ Hid (Below w.heap.size w wr)) (fun _ i _ _ => n - (intOf i).toNat)
 case atStart => exact ⟨0, Nat.zero_le _, rfl, HO0, HB0⟩
 case round =>
  clear HO0 HB0
  obtain ⟨j, hj, rfl, HO, HB⟩ := hrel
  generalize u3 = v at *
  by_cases hlt : j < n
  ·have ji : (j : Int) < n := by omega
   obtain ⟨L, hL⟩ : ∃ L, cl[j]? = some L := ⟨_, List.getElem?_eq_getElem (by rw [hn.out]; exact hlt)⟩
   have HL := hide hL
   obtain ⟨ln, hln⟩ : ∃ ln, Hid (L.length = ln) := ⟨_, hide rfl⟩
   have hl30 : ln <= 30 := by rw [<- hln.out]; exact HM.out L (List.mem_of_getElem? hL)
   clear hL
   go_wp2_with fail
   go_loopw [3, 5] (fun v i wr => ∃ k : Nat, k <= ln /\ i = .int .i64 k /\ Hid (numsOwn wr w.heap.size v (1 :: ((cl.take j).flatMap putsL ++ putsL (L.take k)))) /\ Hid (Below w.heap.size w wr)) (fun _ i _ => ln - (intOf i).toNat)
   case atStart => exact ⟨0, Nat.zero_le _, rfl, hide (by rw [show putsL (L.take 0) = [] from rfl, List.append_nil]; exact HO.out), HB⟩
   case round =>
    clear HO HB
    obtain ⟨k, hk, rfl, HO, HB⟩ := hrel
    generalize u3 = v at *
    obtain ⟨b, off, adl, capl, rfl, c0, ho⟩ := (HH.out.below HB.out) j L HL.out
    rw [hln.out] at c0
    by_cases hkl : k < ln
    ·have kj : (k : Int) < ln := by omega
     obtain ⟨x, hx⟩ : ∃ x, L[k]? = some x := ⟨_, List.getElem?_eq_getElem (by rw [hln.out]; exact hkl)⟩
     have HX := hide hx
     have HS := hide (putsL_snoc hx)
     obtain ⟨b2, off2, rfl, d0, d1⟩ := ho k x hx
     obtain ⟨xk, xn⟩ := x
     dsimp only at d0 d1 HS
     clear hx ho
     cases hq : (xk.toList == [112, 117, 116])
     ·rw [hq] at HS
      have HO2 : Hid (numsOwn wr w.heap.size v (1 :: ((cl.take j).flatMap putsL ++ putsL (L.take (k + 1))))) := hide (by
       rw [HS.out, if_neg (by decide), List.append_nil]; exact HO.out)
      clear HO HS
      go_wp2_with fail
      go_roundw
      case rel => exact ⟨k + 1, by omega, by go_num, HO2, HB⟩
      case measure => simp [intOf]; omega
     ·rw [hq] at HS
      have HS2 : Hid (putsL (L.take (k + 1)) = putsL (L.take k) ++ [xn]) := hide (by rw [HS.out]; rfl)
      have HLN : Hid ((1 :: ((cl.take j).flatMap putsL ++ putsL (L.take k)) : List Int).length + 1 <= 1000000) := hide (by
       have h1 := HZ.out j hj
       have h2 := putsL_len (L.take k)
       rw [List.length_take] at h2
       have h4 := hln.out
       rw [List.length_cons, List.length_append]
       omega)
      obtain ⟨P, hP⟩ : ∃ P, Hid (P = (1 :: ((cl.take j).flatMap putsL ++ putsL (L.take k)) : List Int)) := ⟨_, hide rfl⟩
      rw [<- hP.out] at HO HLN
      go_wp2_with (at_builtin; refine wpList_append_ints _ rfl _ _ rfl w.heap.size P [xn] _ ⟨wr.heap.size, 0, none⟩ 1 rfl ?q1 rfl ?q2 ?q3 ?q4 ?_)
      case q1 => exact numsOwn_keep HO.out (bRf.alloc nL _)
      case q2 => exact numsAt_new rfl
      case q3 => have := HLN.out; omega
      case q4 => have := HB.out.size; simp; omega
      intro v' w' h1 h2 h3 h4 h5
      have HO2 : Hid (numsOwn w' w.heap.size v' (1 :: ((cl.take j).flatMap putsL ++ putsL (L.take (k + 1))))) := hide (by
       rw [HS2.out, <- List.append_assoc]
       rw [hP.out] at h1
       exact h1)
      have HB2 : Hid (Below w.heap.size w w') := hide ((HB.out.alloc HB.out.size _).trans (h2.mono nL))
      clear h1 h2 h3 h4 h5 HO HB HS HS2 hP HLN d0 d1 c0
      go_wp2_with fail
      go_roundw
      case rel => exact ⟨k + 1, by omega, by go_num, HO2, HB2⟩
      case measure => simp [intOf]; omega
    ·obtain rfl : k = ln := by omega
     have HO2 : Hid (numsOwn wr w.heap.size v (1 :: (cl.take (j + 1)).flatMap putsL)) := hide (by
      rw [putsC_snoc HL.out]
      have := HO.out
      rw [<- hln.out, List.take_length] at this
      exact this)
     clear HO ho
     go_wp2_with fail
     go_roundw
     case rel => exact ⟨j + 1, by omega, by go_num, HO2, HB⟩
     case measure => simp [intOf]; omega
  ·obtain rfl : j = n := by omega
   have HO2 : Hid (numsOwn wr w.heap.size v (putsC cl)) := hide (by
    have := HO.out
    rw [HE.out] at this
    exact this)
   obtain ⟨av, cv, rfl, -⟩ := ownsRow_shape HO2.out
   clear HO
   go_wp2_with fail
   go_ret
   exact ⟨_, rfl, HO2.out, HB.out⟩
end
section
open Go.RowKit Go.Extern.Stop Go.Stop Go.Extern Go.Maps Go.WideMaps Go.Sort
def kbEnter : ByteArray := ⟨#[101, 110, 116, 101, 114]⟩
def kbRead : ByteArray := ⟨#[114, 101, 97, 100]⟩
def kbLeave : ByteArray := ⟨#[108, 101, 97, 118, 101]⟩
theorem kn_enter : kn kbEnter.toList = 2 := by unfold kbEnter; rw [toList_bl]; rfl
theorem kn_read : kn kbRead.toList = 6 := by unfold kbRead; rw [toList_bl]; rfl
theorem kn_leave : kn kbLeave.toList = 3 := by unfold kbLeave; rw [toList_bl]; rfl
def cl0 : List (List OpI) := [[⟨kbEnter, 0⟩, ⟨kbRead, 0⟩, ⟨kbLeave, 0⟩]]
theorem each_cl0 : (eachE cl0).1 = 0 := by
 unfold eachE
 rw [if_pos (show fitB cl0 = true by decide)]
 simp [cl0, eachFrom, folE, kn_enter, kn_read, kn_leave, shErr, ckErr, CrI.pass, CrI.first, psDeep, psRet, psWt]
theorem each_nil1 : (eachE [[]]).1 = 0 := by decide
theorem opsAt_new {w : World} {l : List OpI} {cs : Array Value} {t : TypeId} (h : cs.toList = l.flatMap fun x => [.string x.kind, .int .i64 x.n]) : opsAt (some ⟨w.heap.size, 0, none⟩) l (w.alloc (.cells cs t)) := by
 have hat : ∀ (l : List OpI) (i j : Nat) (x : OpI), l[i]? = some x -> j < 2 -> (l.flatMap fun x => ([.string x.kind, .int .i64 x.n] : List Value))[i * 2 + j]? = ([.string x.kind, .int .i64 x.n] : List Value)[j]? := fun l => by
  induction l with
  | nil => intro i j x h _; simp at h
  | cons y l ih =>
   intro i j x h hj
   cases i with
   | zero =>
    cases h
    show ([.string y.kind, .int .i64 y.n] ++ _ : List Value)[0 * 2 + j]? = _
    rw [List.getElem?_append_left (by show 0 * 2 + j < 2; omega), Nat.zero_mul, Nat.zero_add]
   | succ i =>
    show ([.string y.kind, .int .i64 y.n] ++ _ : List Value)[(i + 1) * 2 + j]? = _
    rw [List.getElem?_append_right (by show 2 <= _; omega), show (i + 1) * 2 + j - ([.string y.kind, .int .i64 y.n] : List Value).length = i * 2 + j by show _ - 2 = _; omega]
    exact ih i j x (by simpa using h) hj
 intro i x hx
 have key : ∀ j, j < 2 -> (w.alloc (.cells cs t)).cell? ⟨w.heap.size, i * 2 + j, none⟩ = ([.string x.kind, .int .i64 x.n] : List Value)[j]? := fun j hj => by
  rw [World.cell?_alloc_new, <- hat l i j x hx hj, <- h]
  simp
 refine ⟨w.heap.size, 0, rfl, ?_, ?_⟩
 ·rw [show 0 + i * 2 = i * 2 + 0 by omega]; exact key 0 (by decide)
 ·rw [show 0 + i * 2 + 1 = i * 2 + 1 by omega]; exact key 1 (by decide)
theorem opRowsAt_one {w : World} {L : List OpI} {adl : Option Addr} {n capl : Nat} {t : TypeId} (hn : L.length = n) (h : opsAt adl L w) : opRowsAt (some ⟨w.heap.size, 0, none⟩) [L] (w.alloc (.cells #[.slice adl n capl] t)) := by
 subst hn
 intro i M hM
 cases i with
 | zero =>
  cases hM
  exact ⟨_, 0, adl, capl, rfl, by rw [World.cell?_alloc_new]; rfl, h.below (bRf.alloc nL _)⟩
 | succ i => simp at hM
theorem built_any {a : Nat -> Addr} {w : World} (hE : EnvL a w) :
  Calls Tryz.prog 8 #[] w fun e w' => e = .returned (.bool true) /\ Below w.heap.size w w' := by
 have hA1 : Below w.heap.size w (w.alloc (.cells #[.string ⟨#[101, 110, 116, 101, 114]⟩, .int .i64 0, .string ⟨#[114, 101, 97, 100]⟩, .int .i64 0, .string ⟨#[108, 101, 97, 118, 101]⟩, .int .i64 0] 72)) := bRf.alloc nL _
 have hA2 : Below w.heap.size w ((w.alloc (.cells #[.string ⟨#[101, 110, 116, 101, 114]⟩, .int .i64 0, .string ⟨#[114, 101, 97, 100]⟩, .int .i64 0, .string ⟨#[108, 101, 97, 118, 101]⟩, .int .i64 0] 72)).alloc (.cells #[.slice (some ⟨w.heap.size, 0, none⟩) 3 3] 70)) := hA1.alloc (by simp) _
 have hr : opRowsAt (some ⟨w.heap.size + 1, 0, none⟩) cl0 ((w.alloc (.cells #[.string ⟨#[101, 110, 116, 101, 114]⟩, .int .i64 0, .string ⟨#[114, 101, 97, 100]⟩, .int .i64 0, .string ⟨#[108, 101, 97, 118, 101]⟩, .int .i64 0] 72)).alloc (.cells #[.slice (some ⟨w.heap.size, 0, none⟩) 3 3] 70)) := by
  have h1 := opsAt_new (w := w) (l := [⟨kbEnter, 0⟩, ⟨kbRead, 0⟩, ⟨kbLeave, 0⟩]) (cs := #[.string ⟨#[101, 110, 116, 101, 114]⟩, .int .i64 0, .string ⟨#[114, 101, 97, 100]⟩, .int .i64 0, .string ⟨#[108, 101, 97, 118, 101]⟩, .int .i64 0]) (t := 72) rfl
  have h2 := opRowsAt_one (n := 3) (capl := 3) (t := 70) rfl h1
  rw [World.size_alloc] at h2
  exact h2
 have HBU := hide (clbuild_ok (f := 1) (cap := 1) (by decide) (hE.below hA2.block) hr each_cl0)
 rw [show cl0.length = 1 from rfl, show ((1 : Nat) : Int) = 1 from rfl] at HBU
 have HA2 := hide hA2
 have HE := hide hE
 have HI := hide (graceI_len 1 (clCells.map pad4) 1)
 clear hA1 hA2 hr hE
 generalize graceI 1 (clCells.map pad4) 1 = II at *
 generalize rowsG 2 1 1 = RR at *
 go_enter Tryz.func8, Tryz.ntmps8
 go_wp2_with fail
 refine HBU.out.mono ?_
 rintro e w2 ⟨base, sb, iv, vs, rv, rs, vc, ks, B, rfl, hT5, hK5, -, -, hbw⟩
 have HB2 := hide (below_step HA2.out hbw)
 obtain ⟨ai, ci, eiv, -⟩ := ownsRow_shape hT5.oi
 obtain ⟨ar, cr, erv, -⟩ := ownsRow_shape hT5.or'
 obtain ⟨ax, cx, evc, hcx⟩ := hK5.codes
 have hl1 : (cl0.map (clC 1)).length = 1 := rfl
 rw [hl1] at evc
 subst eiv
 subst erv
 subst evc
 clear hT5 hK5 hbw hcx hl1 HBU HA2
 generalize hI : II.length = iL at *
 generalize hR : RR.length = rL at *
 have HB4 : Hid (Below w.heap.size w (((w2.alloc (.cells #[.int .i64 64, .slice ai iL ci, .slice ar rL cr] 38)).alloc (.cells #[] 72)).alloc (.cells #[.slice (some ⟨w2.heap.size + 1, 0, none⟩) 0 0] 70))) := hide (((HB2.out.alloc HB2.out.size _).alloc (by have := HB2.out.size; simp; omega) _).alloc (by have := HB2.out.size; simp; omega) _)
 have HR4 : Hid (opRowsAt (some ⟨w2.heap.size + 1 + 1, 0, none⟩) [[]] (((w2.alloc (.cells #[.int .i64 64, .slice ai iL ci, .slice ar rL cr] 38)).alloc (.cells #[] 72)).alloc (.cells #[.slice (some ⟨w2.heap.size + 1, 0, none⟩) 0 0] 70))) := hide (by
  have h2 := opRowsAt_one (w := (w2.alloc (.cells #[.int .i64 64, .slice ai iL ci, .slice ar rL cr] 38)).alloc (.cells #[] 72)) (L := []) (adl := some ⟨w2.heap.size + 1, 0, none⟩) (n := 0) (capl := 0) (t := 70) rfl (fun i x hx => by simp at hx)
  rw [World.size_alloc, World.size_alloc] at h2
  exact h2)
 have HCH := hide (clcheck_ok (cap := 1) (HE.out.below HB4.out.block) HR4.out)
 rw [show ([[]] : List (List OpI)).length = 1 from rfl] at HCH
 go_wp2_with fail
 refine HCH.out.mono ?_
 rintro e w5 ⟨v, rfl, he, hb5⟩
 obtain rfl : v = .nilIface := by
  rcases he with ⟨-, e⟩ | ⟨h, -⟩ | ⟨h, -⟩
  ·exact e
  ·exact absurd each_nil1 h
  ·exact absurd each_nil1 h
 have HB5 := hide (below_step HB4.out hb5)
 clear he hb5 HCH HR4
 go_wp2_with fail
 go_ret
 exact ⟨rfl, HB5.out⟩
end
end Go.Proofs.YtaiigfcfmcicjaaGreatDoor
