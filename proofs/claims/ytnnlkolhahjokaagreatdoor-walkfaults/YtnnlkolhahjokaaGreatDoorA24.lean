import Derived.Test.YtnnlkolhahjokaaGreatDoorA23
import Derived.Test.YtnnlkolhahjokaaGreatDoorA12

/- MkY -/
namespace Go.Proofs.YtnnlkolhahjokaaGreatDoor
open Go.RowKit Go.Extern.Stop Go.Stop Go.Extern Go.Maps Go.WideMaps Go.Sort

structure RunX (a : Nat → Addr) (cs : List (List Ins)) (p : MkPl) (m : Mk) (K : Nat) (w : World) : Prop where
  at' : MkAt a cs p m w
  ok : MkOk cs.length K m
  right : Right cs
  hK : K ≤ 10000000
theorem RunX.below {a : Nat → Addr} {cs : List (List Ins)} {p : MkPl} {m : Mk} {K : Nat} {w w' : World} (h : RunX a cs p m K w) (hb : Below w.heap.size w w') : RunX a cs p m K w' := ⟨h.at'.below hb, h.ok, h.right, h.hK⟩
theorem RunX.doX {a : Nat → Addr} {cs : List (List Ins)} {p : MkPl} {m : Mk} {K : Nat} {w : World} (h : RunX a cs p m K w) {t : Nat} (ht : t < cs.length) : DoX a cs p m K t w := ⟨h.at', h.ok, ht, h.hK⟩
theorem RunX.of {a : Nat → Addr} {cs : List (List Ins)} {p : MkPl} {m m' : Mk} {K K' : Nat} {w w' : World} {v : Value} (h : RunX a cs p m K w) (k : MkStep a cs p w v m' w') (ok : MkOk cs.length K' m') (hK : K' ≤ 10000000) : RunX a cs (p.marked v) m' K' w' := ⟨k.at', ok, h.right, hK⟩

theorem kstepO {a : Nat → Addr} {cs : List (List Ins)} {p : MkPl} {m : Mk} {K : Nat} {w : World} (h : RunX a cs p m K w) (t : Int) :
    Calls Tryz.prog 33 #[.pointer (some ⟨p.b, 0, none⟩), .int .i64 t] w fun e w' => e = .returned (errVal a (m.stepO cs t).1) ∧ ∃ v, MkStep a cs p w v (m.stepO cs t).2 w' := by
  unfold Mk.stepO
  by_cases h1 : 0 ≤ t ∧ t < cs.length
  · rw [if_pos h1]
    obtain ⟨u, rfl⟩ := Int.eq_ofNat_of_zero_le h1.1
    have hu : u < cs.length := by omega
    rw [Int.toNat_natCast]
    cases hd : doneAt (cs.getD u []) (m.pc u)
    · rw [if_neg (by decide)]
      exact kstep_any (h.doX hu) (getD_some hu) hd
    · rw [if_pos rfl]
      exact (kstep_done (getD_some hu) hd h.at').mono fun e w' ⟨e1, e2⟩ => ⟨e1, _, MkStep.of_below' h.at' e2⟩
  · rw [if_neg h1]
    exact (kstep_no h1 h.at').mono fun e w' hh => by obtain ⟨rfl, rfl⟩ := hh; exact ⟨rfl, _, MkStep.refl h.at'⟩

theorem kdrainO {a : Nat → Addr} {cs : List (List Ins)} {p : MkPl} {m : Mk} {K : Nat} {w : World} (h : RunX a cs p m K w) (t : Int) :
    Calls Tryz.prog 34 #[.pointer (some ⟨p.b, 0, none⟩), .int .i64 t] w fun e w' => e = .returned (errVal a (m.drainO cs t).1) ∧ ∃ v, MkStep a cs p w v (m.drainO cs t).2 w' := by
  unfold Mk.drainO
  by_cases h1 : 0 ≤ t ∧ t < cs.length
  · rw [if_pos h1]
    obtain ⟨u, rfl⟩ := Int.eq_ofNat_of_zero_le h1.1
    have hu : u < cs.length := by omega
    rw [Int.toNat_natCast]
    cases hd : m.mem.waits u with
    | nil =>
      rw [if_pos rfl]
      exact (kdrain_none hu h.at' hd).mono fun e w' hh => by obtain ⟨rfl, rfl⟩ := hh; exact ⟨rfl, _, MkStep.refl h.at'⟩
    | cons x l =>
      rw [if_neg (by simp)]
      have hf := h.ok.faults
      have hK := h.hK
      exact (kdrain_some hu h.at' hd (h.ok.mem.ok u (by rw [h.ok.thr]; exact hu) x (by rw [hd]; exact List.mem_cons_self)) (by omega)).mono fun e w' ⟨e1, e2⟩ => ⟨e1, _, e2⟩
  · rw [if_neg h1]
    exact (kdrain_no h1 h.at').mono fun e w' hh => by obtain ⟨rfl, rfl⟩ := hh; exact ⟨rfl, _, MkStep.refl h.at'⟩

theorem turn_facts (n : Int) (k : Int) (k1 : 1 ≤ k) (k6 : k ≤ 6) (r : Int) (hr : n.tmod (2 * k) = r) : -(2 * k) ≤ r ∧ r < 2 * k ∧ IntKind.i64.wrap r = r ∧ IntKind.i64.wrap (r + 2 * k) = r + 2 * k := by
  have hM := tmod_mod n (show 0 < 2 * k by omega)
  have b1 := Int.emod_nonneg n (show (2 * k) ≠ 0 by omega)
  have b2 := Int.emod_lt_of_pos n (show 0 < 2 * k by omega)
  have b5 := Int.tmod_lt_of_pos n (show 0 < 2 * k by omega)
  rw [hr] at b5
  rw [hr] at hM
  generalize n % (2 * k) = q at *
  by_cases hc : r < 0
  · rw [if_pos hc] at hM
    exact ⟨by omega, by omega, by rw [IntKind.wrap_i64]; omega, by rw [IntKind.wrap_i64]; omega⟩
  · rw [if_neg hc] at hM
    exact ⟨by omega, by omega, by rw [IntKind.wrap_i64]; omega, by rw [IntKind.wrap_i64]; omega⟩

set_option maxRecDepth 20000 in
set_option maxHeartbeats 1000000 in
theorem kturn_any {a : Nat → Addr} {cs : List (List Ins)} {p : MkPl} {m : Mk} {K : Nat} {w : World} (h : RunX a cs p m K w) (n : Int) :
    Calls Tryz.prog 18 #[.pointer (some ⟨p.b, 0, none⟩), .int .i64 n] w fun e w' => e = .returned (errVal a (m.turnO cs n).1) ∧ ∃ v, MkStep a cs p w v (m.turnO cs n).2 w' := by
  have hp := h.at'.prog
  have h6 := h.at'.few
  have h1 := h.right.some'
  have HM : Hid ((if n.tmod (2 * (cs.length : Int)) < 0 then n.tmod (2 * (cs.length : Int)) + 2 * (cs.length : Int) else n.tmod (2 * (cs.length : Int))) = n % (2 * (cs.length : Int))) := tmod_mod n (by omega)
  have b1 := Int.emod_nonneg n (show (2 * (cs.length : Int)) ≠ 0 by omega)
  have b2 := Int.emod_lt_of_pos n (show 0 < (2 * (cs.length : Int)) by omega)
  have HS : Hid (n % (2 * (cs.length : Int)) < cs.length → Calls Tryz.prog 33 #[.pointer (some ⟨p.b, 0, none⟩), .int .i64 (n % (2 * (cs.length : Int)))] w fun e w' => e = .returned (errVal a (m.turnO cs n).1) ∧ Hid (∃ v, MkStep a cs p w v (m.turnO cs n).2 w')) := fun hlt => by
    unfold Mk.turnO
    rw [if_pos hlt]
    exact kstepO h _
  have HD : Hid (¬ n % (2 * (cs.length : Int)) < cs.length → Calls Tryz.prog 34 #[.pointer (some ⟨p.b, 0, none⟩), .int .i64 (n % (2 * (cs.length : Int)) - cs.length)] w fun e w' => e = .returned (errVal a (m.turnO cs n).1) ∧ Hid (∃ v, MkStep a cs p w v (m.turnO cs n).2 w')) := fun hlt => by
    unfold Mk.turnO
    rw [if_neg hlt]
    exact kdrainO h _
  have w2 : IntKind.i64.wrap (2 * (cs.length : Int)) = 2 * (cs.length : Int) := by rw [IntKind.wrap_i64]; omega
  clear h
  generalize errVal a (m.turnO cs n).1 = E at *
  generalize (m.turnO cs n).2 = M' at *
  clear HM
  generalize hN : cs.length = N at *
  clear hN
  obtain ⟨k, hk⟩ : ∃ k : Int, (N : Int) = k := ⟨_, rfl⟩
  have k1 : 1 ≤ k := by omega
  have k2 : k ≤ 6 := by omega
  rw [hk] at HS HD w2 b1 b2
  obtain ⟨r, hr⟩ : ∃ r, n.tmod (2 * k) = r := ⟨_, rfl⟩
  have HMM := tmod_mod n (show 0 < 2 * k by omega)
  rw [hr] at HMM
  obtain ⟨f1, f2, w3, w4⟩ := turn_facts n k (by omega) (by omega) r hr
  have kz : ¬ (2 * k = 0) := by omega
  have k0 : (2 * k == 0) = false := by simp; omega
  have kd : decide (2 * k = 0) = false := by simp; omega
  have kn : ¬ k = 0 := by omega
  clear h6 h1
  by_cases hc : r < 0
  · have hM := HMM
    rw [if_pos hc] at hM
    by_cases hd : n % (2 * k) < k
    · have HS1 := hide (HS.out hd)
      clear HS HD HMM
      rw [← hM] at HS1 hd
      clear hM b1 b2 f1 f2
      go_enter Tryz.func18, Tryz.ntmps18
      go_wp2_with fail
      refine HS1.out.mono ?_
      rintro e w1 ⟨rfl, h2⟩
      go_wp2
      go_ret
      exact ⟨rfl, h2.out⟩
    · have HD1 := hide (HD.out hd)
      clear HS HD HMM
      have w5 : IntKind.i64.wrap (n % (2 * k) - k) = n % (2 * k) - k := by rw [IntKind.wrap_i64]; omega
      rw [← hM] at HD1 hd w5
      clear hM b1 b2 f1 f2
      go_enter Tryz.func18, Tryz.ntmps18
      go_wp2_with fail
      refine HD1.out.mono ?_
      rintro e w1 ⟨rfl, h2⟩
      go_wp2
      go_ret
      exact ⟨rfl, h2.out⟩
  · have hM := HMM
    rw [if_neg hc] at hM
    by_cases hd : n % (2 * k) < k
    · have HS1 := hide (HS.out hd)
      clear HS HD HMM
      rw [← hM] at HS1 hd
      clear hM b1 b2 f1 f2
      go_enter Tryz.func18, Tryz.ntmps18
      go_wp2_with fail
      refine HS1.out.mono ?_
      rintro e w1 ⟨rfl, h2⟩
      go_wp2
      go_ret
      exact ⟨rfl, h2.out⟩
    · have HD1 := hide (HD.out hd)
      clear HS HD HMM
      have w5 : IntKind.i64.wrap (n % (2 * k) - k) = n % (2 * k) - k := by rw [IntKind.wrap_i64]; omega
      rw [← hM] at HD1 hd w5
      clear hM b1 b2 f1 f2
      go_enter Tryz.func18, Tryz.ntmps18
      go_wp2_with fail
      refine HD1.out.mono ?_
      rintro e w1 ⟨rfl, h2⟩
      go_wp2
      go_ret
      exact ⟨rfl, h2.out⟩
end Go.Proofs.YtnnlkolhahjokaaGreatDoor

/- MkZ -/
namespace Go.Proofs.YtnnlkolhahjokaaGreatDoor
open Go.RowKit Go.Extern.Stop Go.Stop Go.Extern Go.Maps Go.WideMaps Go.Sort

def numsAt (ad : Option Addr) (l : List Int) (w : World) : Prop := ∀ (i : Nat) x, l[i]? = some x → ∃ b off, ad = some ⟨b, off, none⟩ ∧ w.cell? ⟨b, off + i, none⟩ = some (.int .i64 x)
theorem numsAt.turns {S : Nat → Nat → Prop} {ad : Option Addr} {l : List Int} {w w' : World} (h : numsAt ad l w) (t : Turns S w w') (hS : ∀ b off o, ad = some ⟨b, off, none⟩ → ¬ S b o) : numsAt ad l w' := fun i x hx => by
  obtain ⟨b, off, e, hc⟩ := h i x hx
  exact ⟨b, off, e, t.keep hc (hS b off _ e)⟩
theorem numsAt.below {ad : Option Addr} {l : List Int} {w w' : World} (h : numsAt ad l w) (hb : Below w.heap.size w w') : numsAt ad l w' := h.turns (S := fun _ _ => False) (Turns.of_below hb) (fun _ _ _ _ h => h)

theorem MkPl.fp_marked {a : Nat → Addr} {cs : List (List Ins)} {p : MkPl} {v : Value} {m' : Mk} {w w' : World} (k : MkStep a cs p w v m' w') {i : Nat} (h : (p.marked v).fp i) : p.fp i ∨ w.heap.size ≤ i := by
  rcases h with h | h
  · exact Or.inl (Or.inl h)
  · exact (k.fp i h).imp Or.inr id

theorem kfaults_any {a : Nat → Addr} {cs : List (List Ins)} {p : MkPl} {m : Mk} {w : World} (h : MkAt a cs p m w) :
    Calls Tryz.prog 11 #[.pointer (some ⟨p.b, 0, none⟩)] w fun e w' => e = .returned (.int .i64 m.faults) ∧ w' = w := by
  have hc := h.faults
  clear h
  go_enter Tryz.func11, Tryz.ntmps11
  go_wp2
  go_ret
  exact ⟨rfl, rfl⟩


def RunRel (a : Nat → Addr) (cs : List (List Ins)) (p : MkPl) (m : Mk) (K : Nat) (w : World) (ad : Option Addr) (l : List Int) (j : Nat) (wr : World) : Prop :=
  ∃ v, MkStep a cs p w v (m.runO cs (l.take j)).2 wr ∧ RunX a cs (p.marked v) (m.runO cs (l.take j)).2 (K + j) wr ∧ numsAt ad l wr

theorem RunRel.next {a : Nat → Addr} {cs : List (List Ins)} {p : MkPl} {m : Mk} {K : Nat} {w : World} {ad : Option Addr} {l : List Int} {j : Nat} {x : Int} {v v' : Value} {wr w' : World}
    (hx : l[j]? = some x) (k : MkStep a cs p w v (m.runO cs (l.take j)).2 wr) (h : RunX a cs (p.marked v) (m.runO cs (l.take j)).2 (K + j) wr) (hn : numsAt ad l wr)
    (hd : ∀ b off, ad = some ⟨b, off, none⟩ → ¬ (p.marked v).fp b) (hK : K + l.length ≤ 10000000)
    (k' : MkStep a cs (p.marked v) wr v' (((m.runO cs (l.take j)).2.turnO cs x)).2 w') : RunRel a cs p m K w ad l (j + 1) w' := by
  have hj : j < l.length := (List.getElem?_eq_some_iff.1 hx).1
  have e : l.take (j + 1) = l.take j ++ [x] := by rw [List.take_add_one, hx]; rfl
  unfold RunRel
  rw [e, Mk.runO_snoc]
  exact ⟨v', k.trans k', h.of k' (h.ok.turnO h.right x (by omega)) (by omega), hn.turns k'.turns (fun b off o hb => hd b off hb)⟩

theorem runO_count {cs : List (List Ins)} {m : Mk} {l : List Int} {j : Nat} {x : Int} (hx : l[j]? = some x) : (m.runO cs (l.take (j + 1))).1 = (m.runO cs (l.take j)).1 + okN ((m.runO cs (l.take j)).2.turnO cs x).1 := by
  have e : l.take (j + 1) = l.take j ++ [x] := by rw [List.take_add_one, hx]; rfl
  rw [e, Mk.runO_snoc]

set_option maxRecDepth 20000 in
set_option maxHeartbeats 1000000 in
theorem krun_any {a : Nat → Addr} {cs : List (List Ins)} {p : MkPl} {m : Mk} {K : Nat} {w : World} (h : RunX a cs p m K w) {ad : Option Addr} {l : List Int} {cap : Nat} (hl : numsAt ad l w) (hlen : l.length ≤ 20000) (hcap : l.length ≤ cap) (hK : K + l.length ≤ 10000000)
    (hd : ∀ b off, ad = some ⟨b, off, none⟩ → b < w.heap.size ∧ ¬ p.fp b) :
    Calls Tryz.prog 10 #[.pointer (some ⟨p.b, 0, none⟩), .slice ad l.length cap] w fun e w' => e = .returned (.int .i64 (m.runO cs l).1) ∧ ∃ v, MkStep a cs p w v (m.runO cs l).2 w' ∧ RunX a cs (p.marked v) (m.runO cs l).2 (K + l.length) w' := by
  have H0 : Hid (RunRel a cs p m K w ad l 0 w) := hide ⟨p.mv, MkStep.refl h.at', h, hl⟩
  have HD := hide hd
  have i1 : (l.length : Int) ≤ 20000 := by omega
  have i2 : (l.length : Int) ≤ cap := by omega
  have k1 : decide ((l.length : Int) ≤ 20000) = true := by simp; omega
  clear h hl hd
  go_enter Tryz.func10, Tryz.ntmps10
  go_wp2_with fail
  go_loopw [5, 7, 14] (fun c _ i wr => ∃ j : Nat, j ≤ l.length ∧ i = .int .i64 j ∧ c = .int .i64 (m.runO cs (l.take j)).1 ∧ RunRel a cs p m K w ad l j wr) (fun _ _ i _ => l.length - (intOf i).toNat)
  case atStart => exact ⟨0, Nat.zero_le _, rfl, rfl, H0.out⟩
  case round =>
    obtain ⟨j, hj, rfl, rfl, v, hk, hx, hn⟩ := hrel
    have hle := Mk.runO_le cs (l.take j) m
    rw [List.length_take] at hle
    by_cases hlt : j < l.length
    · obtain ⟨x, hxx⟩ : ∃ x, l[j]? = some x := ⟨_, List.getElem?_eq_getElem hlt⟩
      obtain ⟨ab, off, rfl, c0⟩ := hn j x hxx
      have ji : (j : Int) < l.length := by omega
      have HT := hide (kturn_any hx x)
      have HC := runO_count (cs := cs) (m := m) hxx
      have HF : ∀ b off', (some ⟨ab, off, none⟩ : Option Addr) = some ⟨b, off', none⟩ → ¬ (p.marked v).fp b := fun b off' e hb => by
        have := HD.out b off' e
        rcases MkPl.fp_marked hk hb with h1 | h1
        · exact this.2 h1
        · omega
      have HR : Hid (∀ v' w', MkStep a cs (p.marked v) wr v' (((m.runO cs (l.take j)).2.turnO cs x)).2 w' → RunRel a cs p m K w (some ⟨ab, off, none⟩) l (j + 1) w') := hide (fun v' w' k' => RunRel.next hxx hk hx hn HF hK k')
      clear hk hx hn HF H0
      have hh : (m.runO cs (l.take (j + 1))).1 ≤ j + 1 := by have := Mk.runO_le cs (l.take (j + 1)) m; rw [List.length_take] at this; omega
      generalize hC1 : (m.runO cs (l.take (j + 1))).1 = C1 at *
      have HC1 := hide hC1
      clear hC1
      generalize (m.runO cs (l.take j)).1 = C0 at *
      generalize hm : (m.runO cs (l.take j)).2 = M at *
      clear hm
      have HT2 := HT.out
      clear HT
      generalize (M.turnO cs x).2 = M2 at *
      generalize (M.turnO cs x).1 = E1 at *
      clear hxx
      have w1c : IntKind.i64.wrap ((C0 : Int) + 1) = (C0 : Int) + 1 := by rw [IntKind.wrap_i64]; omega
      cases E1 with
      | zero =>
        have e0 : ((C1 : Nat) : Int) = (C0 : Int) + 1 := by rw [HC]; rfl
        clear HC
        rw [show errVal a 0 = Value.nilIface from rfl] at HT2
        go_wp2_with fail
        refine HT2.mono ?_
        rintro e w1 ⟨rfl, v', hk'⟩
        have H1 := HR.out v' w1 hk'
        clear hk' HR
        go_wp2
        go_roundw
        case rel => exact ⟨j + 1, by omega, by go_num, by rw [HC1.out, e0], H1⟩
        case measure => simp [intOf]; omega
      | succ E2 =>
        have e0 : C1 = C0 := by rw [HC]; rfl
        clear HC
        rw [show errVal a (E2 + 1) = errAt (a E2) from rfl] at HT2
        go_wp2_with fail
        refine HT2.mono ?_
        rintro e w1 ⟨rfl, v', hk'⟩
        have H1 := HR.out v' w1 hk'
        clear hk' HR
        go_wp2
        go_roundw
        case rel => exact ⟨j + 1, by omega, by go_num, by rw [HC1.out, e0], H1⟩
        case measure => simp [intOf]; omega
    · obtain rfl : j = l.length := by omega
      rw [List.take_length] at hk hx ⊢
      have H1 := hide hk
      have H2 := hide hx
      clear hk hx hn H0 HD
      go_wp2
      go_ret
      exact ⟨rfl, v, H1.out, H2.out⟩
end Go.Proofs.YtnnlkolhahjokaaGreatDoor

/- StB -/
namespace Go.Proofs.YtnnlkolhahjokaaGreatDoor
open Go.RowKit Go.Extern.Stop Go.Stop Go.Extern Go.Maps Go.WideMaps Go.Sort

def rowsAt (ad : Option Addr) (R : List (List Int)) (w : World) : Prop := ∀ (i : Nat) row, R[i]? = some row → ∃ b off adr cap, ad = some ⟨b, off, none⟩ ∧ w.cell? ⟨b, off + i, none⟩ = some (.slice adr row.length cap) ∧ row.length ≤ cap ∧ numsAt adr row w
theorem rowsAt.below {ad : Option Addr} {R : List (List Int)} {w w' : World} (h : rowsAt ad R w) (hb : Below w.heap.size w w') : rowsAt ad R w' := fun i row hr => by
  obtain ⟨b, off, adr, cap, h1, h2, h3, h4⟩ := h i row hr
  exact ⟨b, off, adr, cap, h1, keep_cell hb h2, h3, h4.below hb⟩

theorem all_hit {α : Type} {f : α → Bool} {l : List α} {j : Nat} {x : α} (hx : l[j]? = some x) (h : f x = false) : l.all f = false := by
  cases hb : l.all f with
  | false => rfl
  | true => rw [List.all_eq_true] at hb; rw [hb x (List.mem_of_getElem? hx)] at h; cases h
theorem all_done {α : Type} {f : α → Bool} {l : List α} (h : ∀ (k : Nat) x, k < l.length → l[k]? = some x → f x = true) : l.all f = true := by
  rw [List.all_eq_true]
  intro x hx
  obtain ⟨k, hk, rfl⟩ := List.getElem_of_mem hx
  exact h k _ hk (List.getElem?_eq_getElem hk)

set_option maxRecDepth 20000 in
set_option maxHeartbeats 1000000 in
theorem allWords_any {ad : Option Addr} {l : List Int} {cap : Nat} {w : World} (hl : numsAt ad l w) (hlen : l.length ≤ 9223372036854775807) :
    Calls Tryz.prog 40 #[.slice ad l.length cap] w fun e w' => e = .returned (.bool (l.all wordOk)) ∧ w' = w := by
  have HL := hide hl
  clear hl
  go_enter Tryz.func40, Tryz.ntmps40
  go_wp2_with fail
  go_loopw [4, 7] (fun _ i wr => ∃ j : Nat, j ≤ l.length ∧ i = .int .i64 j ∧ wr = w ∧ Hid (∀ (k : Nat) x, k < j → l[k]? = some x → wordOk x = true)) (fun _ i _ => l.length - (intOf i).toNat)
  case atStart => exact ⟨0, Nat.zero_le _, rfl, rfl, fun k x h => absurd h (Nat.not_lt_zero _)⟩
  case round =>
    obtain ⟨j, hj, rfl, rfl, HJ⟩ := hrel
    by_cases hlt : j < l.length
    · obtain ⟨x, hx⟩ : ∃ x, l[j]? = some x := ⟨_, List.getElem?_eq_getElem hlt⟩
      obtain ⟨b, off, rfl, c0⟩ := HL.out j x hx
      have ji : (j : Int) < l.length := by omega
      by_cases h1 : x < 0
      · have HR : Hid (l.all wordOk = false) := all_hit hx (decide_eq_false (by omega))
        clear HL HJ hx
        go_wp2
        go_ret
        exact ⟨by rw [HR.out]; rfl, rfl⟩
      · by_cases h2 : 4294967295 < x
        · have HR : Hid (l.all wordOk = false) := all_hit hx (decide_eq_false (by omega))
          clear HL HJ hx
          go_wp2
          go_ret
          exact ⟨by rw [HR.out]; rfl, rfl⟩
        · have HR : Hid (∀ (k : Nat) x, k < j + 1 → l[k]? = some x → wordOk x = true) := fun k y hk hy => by
            by_cases e : k = j
            · subst e; rw [hx] at hy; cases hy; exact decide_eq_true (by omega)
            · exact HJ.out k y (by omega) hy
          clear HL HJ hx
          go_wp2
          go_roundw
          case rel => exact ⟨j + 1, by omega, by go_num, by first | trivial | rfl, HR⟩
          case measure => simp [intOf]; omega
    · obtain rfl : j = l.length := by omega
      have HR : Hid (l.all wordOk = true) := all_done HJ.out
      clear HL HJ
      go_wp2
      go_ret
      exact ⟨by rw [HR.out]; rfl, rfl⟩

set_option maxRecDepth 20000 in
set_option maxHeartbeats 1000000 in
theorem rowsFit_any {ad : Option Addr} {R : List (List Int)} {cap : Nat} {w : World} (hl : rowsAt ad R w) (hlen : ∀ (i : Nat) row, R[i]? = some row → row.length ≤ 9223372036854775807) (hR : R.length ≤ 9223372036854775807) (most : Int) (longest : Nat) :
    Calls Tryz.prog 26 #[.slice ad R.length cap, .int .i64 most, .int .i64 longest] w fun e w' => e = .returned (.bool (decide ((R.length : Int) ≤ most) && rowsOk longest R)) ∧ w' = w := by
  have HL := hide hl
  have HN := hide hlen
  clear hl hlen
  by_cases hm : (R.length : Int) ≤ most
  · rw [decide_eq_true hm]
    have hm' : decide (most < (R.length : Int)) = false := by simp; omega
    rw [Bool.true_and]
    go_enter Tryz.func26, Tryz.ntmps26
    go_wp2_with fail
    go_loopw [8, 15] (fun _ i wr => ∃ j : Nat, j ≤ R.length ∧ i = .int .i64 j ∧ wr = w ∧ Hid (∀ (k : Nat) x, k < j → R[k]? = some x → rowOk longest x = true)) (fun _ i _ => R.length - (intOf i).toNat)
    case atStart => exact ⟨0, Nat.zero_le _, rfl, rfl, fun k x h => absurd h (Nat.not_lt_zero _)⟩
    case round =>
      obtain ⟨j, hj, rfl, rfl, HJ⟩ := hrel
      by_cases hlt : j < R.length
      · obtain ⟨row, hx⟩ : ∃ x, R[j]? = some x := ⟨_, List.getElem?_eq_getElem hlt⟩
        obtain ⟨b, off, adr, capr, rfl, c0, hcp, hnr⟩ := HL.out j row hx
        have hrl := HN.out j row hx
        have HA := hide (allWords_any (cap := capr) hnr hrl)
        have ji : (j : Int) < R.length := by omega
        by_cases h1 : row.length ≤ longest
        · have h1' : (row.length : Int) ≤ longest := by omega
          have h1d : decide ((longest : Int) < row.length) = false := by simp; omega
          cases hwo : row.all wordOk with
          | false =>
            have HR : Hid (rowsOk longest R = false) := all_hit hx (by unfold rowOk; rw [hwo, Bool.and_false])
            rw [hwo] at HA
            clear HL HN HJ hx hnr
            go_wp2_with fail
            refine HA.out.mono ?_
            rintro e w1 ⟨rfl, rfl⟩
            go_wp2
            go_ret
            exact ⟨by rw [HR.out]; rfl, rfl⟩
          | true =>
            have HR : Hid (∀ (k : Nat) x, k < j + 1 → R[k]? = some x → rowOk longest x = true) := fun k y hk hy => by
              by_cases e : k = j
              · subst e; rw [hx] at hy; cases hy; unfold rowOk; rw [hwo, decide_eq_true h1]; rfl
              · exact HJ.out k y (by omega) hy
            rw [hwo] at HA
            clear HL HN HJ hx hnr
            go_wp2_with fail
            refine HA.out.mono ?_
            rintro e w1 ⟨rfl, rfl⟩
            go_wp2
            go_roundw
            case rel => exact ⟨j + 1, by omega, by go_num, by first | trivial | rfl, HR⟩
            case measure => simp [intOf]; omega
        · have HR : Hid (rowsOk longest R = false) := all_hit hx (by unfold rowOk; rw [decide_eq_false h1, Bool.false_and])
          have h1' : ¬ (row.length : Int) ≤ longest := by omega
          have h1d : decide ((longest : Int) < row.length) = true := by simp; omega
          clear HL HN HJ hx HA hnr
          go_wp2
          go_ret
          exact ⟨by rw [HR.out]; rfl, rfl⟩
      · obtain rfl : j = R.length := by omega
        have HR : Hid (rowsOk longest R = true) := all_done HJ.out
        clear HL HN HJ
        go_wp2
        go_ret
        exact ⟨by rw [HR.out]; rfl, rfl⟩
  · rw [decide_eq_false hm, Bool.false_and]
    have hm2 : most < (R.length : Int) := by omega
    have hm' : decide (most < (R.length : Int)) = true := by simp; omega
    clear HL HN
    go_enter Tryz.func26, Tryz.ntmps26
    go_wp2
    go_ret
    exact ⟨rfl, rfl⟩

structure StaPl where
  ai : Option Addr
  ci : Nat
  ar : Option Addr
  cr : Nat
def Sta.val (s : Sta) (q : StaPl) : Value := .agg #[.int .i64 s.cells, .slice q.ai s.init.length q.ci, .slice q.ar s.regs.length q.cr]
structure StaAt (s : Sta) (q : StaPl) (w : World) : Prop where
  init : rowsAt q.ai s.init w
  regs : rowsAt q.ar s.regs w
  ci : s.init.length ≤ q.ci
  cr : s.regs.length ≤ q.cr
  li : s.init.length ≤ 9223372036854775807
  lr : s.regs.length ≤ 9223372036854775807
  ri : ∀ (i : Nat) row, s.init[i]? = some row → row.length ≤ 9223372036854775807
  rr : ∀ (i : Nat) row, s.regs[i]? = some row → row.length ≤ 9223372036854775807
theorem StaAt.below {s : Sta} {q : StaPl} {w w' : World} (h : StaAt s q w) (hb : Below w.heap.size w w') : StaAt s q w' := ⟨h.init.below hb, h.regs.below hb, h.ci, h.cr, h.li, h.lr, h.ri, h.rr⟩

set_option maxRecDepth 20000 in
set_option maxHeartbeats 1000000 in
theorem sfits_any {s : Sta} {q : StaPl} {w : World} (h : StaAt s q w) (n : Nat) :
    Calls Tryz.prog 15 #[s.val q, .int .i64 n] w fun e w' => e = .returned (.bool (s.fits n)) ∧ Below w.heap.size w w' := by
  have hba : Below w.heap.size w (w.alloc (.cells #[.int .i64 s.cells, .slice q.ai s.init.length q.ci, .slice q.ar s.regs.length q.cr] 35)) := (Below.refl _ _).alloc (Nat.le_refl _) _
  have h' := h.below hba
  have H1 := hide (rowsFit_any (cap := q.ci) h'.init h'.ri h.li s.cells 4)
  have H2 := hide (rowsFit_any (cap := q.cr) h'.regs h'.rr h.lr n 8)
  have e0 : (w.alloc (.cells #[.int .i64 s.cells, .slice q.ai s.init.length q.ci, .slice q.ar s.regs.length q.cr] 35)).cell? ⟨w.heap.size, 0, none⟩ = some (.int .i64 s.cells) := by simp
  have e1 : (w.alloc (.cells #[.int .i64 s.cells, .slice q.ai s.init.length q.ci, .slice q.ar s.regs.length q.cr] 35)).cell? ⟨w.heap.size, 1, none⟩ = some (.slice q.ai s.init.length q.ci) := by simp
  have e2 : (w.alloc (.cells #[.int .i64 s.cells, .slice q.ai s.init.length q.ci, .slice q.ar s.regs.length q.cr] 35)).cell? ⟨w.heap.size, 2, none⟩ = some (.slice q.ar s.regs.length q.cr) := by simp
  have HF : Hid (s.fits n = ((decide ((s.init.length : Int) ≤ s.cells) && rowsOk 4 s.init) && (decide ((s.regs.length : Int) ≤ n) && rowsOk 8 s.regs))) := by
    show _ = _
    unfold Sta.fits
    congr 2
    simp
  rw [HF.out]
  clear h h' HF
  unfold Sta.val
  generalize (decide ((s.init.length : Int) ≤ s.cells) && rowsOk 4 s.init) = c1 at *
  generalize (decide ((s.regs.length : Int) ≤ n) && rowsOk 8 s.regs) = c2 at *
  generalize hw : w.alloc (.cells #[.int .i64 s.cells, .slice q.ai s.init.length q.ci, .slice q.ar s.regs.length q.cr] 35) = W at *
  cases c1 with
  | false =>
    go_enter Tryz.func15, Tryz.ntmps15
    go_wp2_with fail
    clear hw
    refine H1.out.mono ?_
    rintro e w1 ⟨rfl, rfl⟩
    go_wp2
    go_ret
    exact ⟨rfl, hba⟩
  | true =>
    go_enter Tryz.func15, Tryz.ntmps15
    go_wp2_with fail
    clear hw
    refine H1.out.mono ?_
    rintro e w1 ⟨rfl, rfl⟩
    go_wp2_with fail
    refine H2.out.mono ?_
    rintro e w2 ⟨rfl, rfl⟩
    go_wp2
    go_ret
    exact ⟨by simp, hba⟩
end Go.Proofs.YtnnlkolhahjokaaGreatDoor
