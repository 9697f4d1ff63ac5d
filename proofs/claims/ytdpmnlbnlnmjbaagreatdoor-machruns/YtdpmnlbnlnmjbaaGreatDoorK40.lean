/- The law MachRuns answers true for every start, all codes and any script that can be handed in; no condition beside the row's own. -/
import Derived.Test.YtdpmnlbnlnmjbaaGreatDoorK01
import Derived.Test.YtdpmnlbnlnmjbaaGreatDoorK18
import Derived.Test.YtdpmnlbnlnmjbaaGreatDoorK33
import Derived.Test.YtdpmnlbnlnmjbaaGreatDoorK34
import Derived.Test.YtdpmnlbnlnmjbaaGreatDoorK39
import Derived.Test.YtdpmnlbnlnmjbaaGreatDoorK30
import Derived.Test.YtdpmnlbnlnmjbaaGreatDoorTie
import Derived.Test.YtdpmnlbnlnmjbaaGreatDoorCards
import Derived.Carry
import Derived.SevenTiedAt

/- FaultS -/
namespace Go.Proofs.YtdpmnlbnlnmjbaaGreatDoor
open Go.RowKit Go.Extern.Stop Go.Stop Go.Extern Go.Maps Go.WideMaps

theorem faultFrom_le : ∀ (l : List Ins) (r : List Ins) (j : Nat), (faultFrom l j r).1 ≤ 5
  | _, [], _ => Nat.zero_le _
  | l, x :: r, j => by
    unfold faultFrom
    split
    · exact faultFrom_le l r (j + 1)
    · dsimp only
      unfold insFault
      split
      · have := insErr_le x; omega
      · split
        · omega
        · split <;> omega
theorem codeFault_le (l : List Ins) : (codeFault l).1 ≤ 5 := by
  unfold codeFault
  split
  · decide
  · exact faultFrom_le _ _ _
theorem errIs_below {a : Nat → Addr} {f : Nat × Int} {v : Value} {w w' : World} {B : Nat} (h : errIs a f v w B) (hb : Below w.heap.size w w') : errIs a f v w' B := by
  rcases h with h | h | ⟨h0, j, N, h1, h2, h3, h4, h5⟩
  · exact .inl h
  · exact .inr (.inl h)
  · exact .inr (.inr ⟨h0, j, N, h1, h2, h3, keep_cell hb h4, keep_cell hb h5⟩)

theorem faulted_any (a : Nat → Addr) (f : Nat × Int) (v : Value) (B : Nat) (w : World) (hE : Env a w) (hf : f.1 ≤ 5) (h : errIs a f v w B) :
    Calls Tryz.prog 19 #[v, .agg #[.int .i64 f.1, .int .i64 f.2]] w fun e w' => e = .returned (.bool true) ∧ Below w.heap.size w w' := by
  obtain ⟨f1, f2⟩ := f
  dsimp only at *
  obtain ⟨W0, hW0⟩ : ∃ W0, W0 = w.alloc (.cells #[.int .i64 f1, .int .i64 f2] 43) := ⟨_, rfl⟩
  have B0 : Below w.heap.size w W0 := by rw [hW0]; exact (Below.refl _ _).alloc (Nat.le_refl _) _
  have q0 : W0.cell? ⟨w.heap.size, 0, none⟩ = some (.int .i64 f1) := by rw [hW0]; simp
  have q1 : W0.cell? ⟨w.heap.size, 1, none⟩ = some (.int .i64 f2) := by rw [hW0]; simp
  have E0 := hE.below B0.block
  have h := errIs_below h B0
  rcases h with ⟨h0, rfl⟩ | ⟨h0, h1, rfl⟩ | ⟨h0, j, N, h1, h2, rfl, h4, h5⟩
  · dsimp only at h0
    subst h0
    have HC := hide (code_nil W0)
    rw [show ((0 : Nat) : Int) = 0 from rfl] at hW0 q0 ⊢
    go_enter Tryz.func19, Tryz.ntmps19
    go_wp2_with fail
    rw [← hW0]
    refine HC.out.mono ?_
    rintro e w1 ⟨rfl, rfl⟩
    go_wp2_with fail
    refine bodyPost_ret (v := .bool true) (by simp only [results, Tryz.results19]; go_simp) rfl ⟨rfl, hW0 ▸ B0⟩
  · dsimp only at h0 h1
    subst h1
    obtain ⟨k, rfl⟩ : ∃ k, f1 = k + 1 := ⟨f1 - 1, by omega⟩
    have HC := hide (code_sent a k (by omega) W0 E0)
    have hk : ((k + 1 : Nat) : Int) = k + 1 := by omega
    rw [hk] at HC hW0 q0 ⊢
    rw [show xval a (k + 1) = errAt (a k) from rfl]
    go_enter Tryz.func19, Tryz.ntmps19
    go_wp2_with fail
    rw [← hW0]
    refine HC.out.mono ?_
    rintro e w1 ⟨rfl, hb1⟩
    have hk0 : ¬ ((k : Int) + 1 = 0) := by omega
    replace q0 := keep_cell hb1 q0
    replace q1 := keep_cell hb1 q1
    go_wp2_with fail
    refine bodyPost_ret (v := .bool true) (by simp only [results, Tryz.results19]; go_simp) rfl ⟨rfl, below_step B0 hb1⟩
  · dsimp only at h0 h1
    subst h1
    obtain ⟨k, rfl⟩ : ∃ k, f1 = k + 1 := ⟨f1 - 1, by omega⟩
    have HC := hide (code_fault a k (by omega) N 0 j W0 E0 h4 h5)
    have hk : ((k + 1 : Nat) : Int) = k + 1 := by omega
    rw [hk] at HC hW0 q0 ⊢
    go_enter Tryz.func19, Tryz.ntmps19
    go_wp2_with fail
    rw [← hW0]
    refine HC.out.mono ?_
    rintro e w1 ⟨rfl, hb1⟩
    have hk0 : ¬ ((k : Int) + 1 = 0) := by omega
    replace q0 := keep_cell hb1 q0
    replace q1 := keep_cell hb1 q1
    go_wp2_with fail
    refine bodyPost_ret (v := .bool true) (by simp only [results, Tryz.results19]; go_simp) rfl ⟨rfl, below_step B0 hb1⟩
end Go.Proofs.YtdpmnlbnlnmjbaaGreatDoor

/- RsG -/
namespace Go.Proofs.YtdpmnlbnlnmjbaaGreatDoor
open Go.RowKit Go.Extern.Stop Go.Stop Go.Extern Go.Maps Go.WideMaps Go.Sort

theorem RunX.runN {a : Nat → Addr} {cs : List (List Ins)} {p : MkPl} {m : Mk} {K : Nat} {w0 w : World} (h : RunX a cs p m K w0) {ad : Option Addr} {l : List Int} {cap : Nat} (hb : Below w0.heap.size w0 w) (hl : numsAt ad l w) (hcap : l.length ≤ cap) (hlen : l.length ≤ 500) (hK : K ≤ 1000)
    (hd : ∀ b off, ad = some ⟨b, off, none⟩ → w0.heap.size ≤ b ∧ b < w.heap.size) :
    Calls Tryz.prog 13 #[.pointer (some ⟨p.b, 0, none⟩), .slice ad l.length cap] w fun e w' => e = .returned (.int .i64 (m.runO cs l).1) ∧ ∃ v, MkStep a cs p w v (m.runO cs l).2 w' ∧ RunX a cs (p.marked v) (m.runO cs l).2 (K + 500) w' := by
  refine (krun_any (h.below hb) hl (by omega) hcap (by omega) (fun b off e => ⟨(hd b off e).2, fun hf => ?_⟩)).mono fun e w' ⟨e1, v, e2, e3⟩ => ⟨e1, v, e2, ⟨e3.at', e3.ok.mono (by omega), e3.right, by omega⟩⟩
  have := h.at'.fp_lt hf
  have := (hd b off e).1
  omega

theorem codesFrom_le : ∀ (cs : List (List Ins)) (i : Nat), (codesFrom i cs).1 ≤ 5
  | [], _ => Nat.zero_le _
  | L :: cs, i => by
    unfold codesFrom
    split
    · exact codesFrom_le cs (i + 1)
    · exact codeFault_le L
theorem fault_le (s : Sta) (cs : List (List Ins)) : (s.fault cs).1 ≤ 5 := by
  unfold Sta.fault
  split
  · exact codesFrom_le cs 0
  · decide

structure Pair (a : Nat → Addr) (cs : List (List Ins)) (N : Nat) (p : MkPl) (q : RkPl) (m : Mk) (K : Nat) (w : World) : Prop where
  xp : RunX a cs p m K w
  xq : RkX cs q m K w
  ap : ∀ k, p.fp k → ¬ q.fp cs.length m.mem k
  bp : ∀ k, p.fp k → N ≤ k
  bq : q.B = N
  bq2 : N ≤ p.B
  bq3 : ∀ k, q.fp cs.length m.mem k → p.B ≤ k
theorem Pair.below {a : Nat → Addr} {cs : List (List Ins)} {N : Nat} {p : MkPl} {q : RkPl} {m : Mk} {K : Nat} {w w' : World} (h : Pair a cs N p q m K w) (hb : Below w.heap.size w w') : Pair a cs N p q m K w' := ⟨h.xp.below hb, h.xq.below hb, h.ap, h.bp, h.bq, h.bq2, h.bq3⟩

set_option maxRecDepth 100000 in
set_option maxHeartbeats 4000000 in
theorem runs_any {a : Nat → Addr} {s : Sta} {ai ar ad ada : Option Addr} {ci cr cap capa : Nat} {cs : List (List Ins)} {la : List Int} {w : World} (hE : Env a w) (hs : StaAt s ⟨ai, ci, ar, cr⟩ w) (hl : codesAt ad cs w) (hsz : ∀ (t : Nat) L, cs[t]? = some L → ∀ (i : Nat) x, L[i]? = some x → x.to.size ≤ maxLen)
    (hc : cs.length ≤ 9223372036854775807) (hL : ∀ (t : Nat) L, cs[t]? = some L → L.length ≤ 9223372036854775807) (na : NumsX ada la capa w) (hca : la.length ≤ capa) :
    Calls Tryz.prog 4 #[.agg #[.int .i64 s.cells, .slice ai s.init.length ci, .slice ar s.regs.length cr], .slice ad cs.length cap, .slice ada la.length capa] w fun e w' => e = .returned (.bool true) ∧ Below w.heap.size w w' := by
  obtain ⟨w1, hw1⟩ : ∃ w1, w1 = w.alloc (.cells #[.int .i64 s.cells, .slice ai s.init.length ci, .slice ar s.regs.length cr] 24) := ⟨_, rfl⟩
  have b1 : Below w.heap.size w w1 := by rw [hw1]; exact (Below.refl _ _).alloc (Nat.le_refl _) _
  have e0 : w1.cell? ⟨w.heap.size, 0, none⟩ = some (.int .i64 s.cells) := by rw [hw1]; simp
  have e1 : w1.cell? ⟨w.heap.size, 1, none⟩ = some (.slice ai s.init.length ci) := by rw [hw1]; simp
  have e2 : w1.cell? ⟨w.heap.size, 2, none⟩ = some (.slice ar s.regs.length cr) := by rw [hw1]; simp
  have HO := hide (one_any (hE.below b1.block))
  have HV := hide (fun w' (hb : Below w1.heap.size w1 w') => vast_any (cap := cap) ((hs.below b1).below hb) ((hl.below b1).below hb) hc hL)
  have HS := hide (fun (w' : World) => startOf_any (s := s) (ai := ai) (ar := ar) (ci := ci) (cr := cr) w')
  have HN := hide (fun w' (hb : Below w1.heap.size w1 w') => new_any (cap := cap) ((hE.below b1.block).below hb.block) ((hs.below b1).below hb) ((hl.below b1).below hb) hsz)
  have HSF := hide (fun w' (hb : Below w1.heap.size w1 w') => startFault_any (cap := cap) ((hs.below b1).below hb) ((hl.below b1).below hb) hc)
  have HFT := hide (fun w' (hb : Below w1.heap.size w1 w') v B (h5 : (s.fault cs).1 ≤ 5) (h : errIs a (s.fault cs) v w' B) => faulted_any a (s.fault cs) v B w' ((hE.below b1.block).below hb.block) h5 h)
  have HNM := hide (fun w' (hb : Below w1.heap.size w1 w') h1 h64 n1 n6 hfit => newMachine_any (cap := cap) hb ((hs.below b1).below hb) (hl.below b1) h1 h64 n1 n6 hfit)
  have NA := hide (na.below b1)
  have la2 : (la.length : Int) ≤ 9223372036854775807 := by have := na.len; omega
  have lc2 : (cs.length : Int) ≤ 9223372036854775807 := by omega
  clear hE hs hl hsz hL na
  go_enter Tryz.func4, Tryz.ntmps4
  go_wp2_with fail
  rw [← hw1]
  clear hw1
  refine HO.out.mono ?_
  rintro e w2 ⟨rfl, hb2⟩
  replace e0 := keep_cell hb2 e0
  replace e1 := keep_cell hb2 e1
  replace e2 := keep_cell hb2 e2
  have HV2 := hide (HV.out w2 hb2)
  clear HO HV
  go_wp2_with fail
  refine HV2.out.mono ?_
  rintro e w3 ⟨v, hv, rfl, hb3⟩
  have B3 := below_step hb2 hb3
  replace e0 := keep_cell hb3 e0
  replace e1 := keep_cell hb3 e1
  replace e2 := keep_cell hb3 e2
  clear HV2 hb2 hb3
  rcases hv.out with rfl | rfl
  · by_cases ha : (500 : Int) < la.length
    · go_wp2
      go_ret
      exact ⟨rfl, below_step b1 B3⟩
    · go_wp2_with fail
      refine (HS.out w3).mono ?_
      rintro e w4 ⟨rfl, hb4⟩
      have B4 := below_step B3 hb4
      have HN4 := hide (HN.out w4 B4)
      replace e0 := keep_cell hb4 e0
      replace e1 := keep_cell hb4 e1
      replace e2 := keep_cell hb4 e2
      clear HS HN hb4 B3
      go_wp2_with fail
      refine HN4.out.mono ?_
      rintro e w5 hp
      obtain ⟨hb5, hp⟩ := hp.out
      have B5 := below_step B4 hb5
      replace e0 := keep_cell hb5 e0
      replace e1 := keep_cell hb5 e1
      replace e2 := keep_cell hb5 e2
      have HSF5 := hide (HSF.out w5 B5)
      rcases hp with ⟨hf, hR, p, rfl, hA, hpB, hmv⟩ | ⟨hz, v, rfl, hv⟩
      · obtain ⟨g1, g2, g3, g4⟩ := Sta.fault_fits hf
        have r0 : RunX a cs p (s.mach cs.length) 1 w5 := ⟨hA, Sta.mach_ok g1 g2 g3, hR, by decide⟩
        rw [hf] at HSF5
        rw [show ((0 : Nat) : Int) = 0 from rfl] at HSF5
        generalize (s.fault cs).2 = f2 at *
        have h14 := B4.size
        clear HN4 hb5 B4 HSF HFT
        go_wp2_with fail
        refine HSF5.out.mono ?_
        rintro e w6 ⟨rfl, hb6⟩
        obtain ⟨W7, hW7⟩ : ∃ W7, W7 = w6.alloc (.cells #[.int .i64 0, .int .i64 f2] 43) := ⟨_, rfl⟩
        have b7 : Below w6.heap.size w6 W7 := by rw [hW7]; exact (Below.refl _ _).alloc (Nat.le_refl _) _
        have b57 : Below w5.heap.size w5 W7 := hb6.trans (b7.mono hb6.size)
        have B7 := below_step B5 b57
        have HM := hide (HNM.out W7 B7 g4 g2 hR.some' g3 g1)
        replace e0 := keep_cell hb6 e0
        replace e1 := keep_cell hb6 e1
        replace e2 := keep_cell hb6 e2
        have lw6 : w.heap.size < w6.heap.size := World.block_lt_of_cell? _ _ e0
        have r7 := r0.below b57
        have hok := Sta.mach_ok (n := cs.length) g1 g2 g3
        have hN : w1.heap.size ≤ p.B := Nat.le_trans h14 hpB
        have h57 := b57.size
        clear HSF5 hb6 b7 hmv hf
        go_wp2_with fail
        rw [← hW7]
        clear hW7
        refine HM.out.mono ?_
        rintro e w8 ⟨q, rfl, hq⟩
        have P8 := hide (show Pair a cs w1.heap.size p q (s.mach cs.length) 1 w8 from {
          xp := r7.below hq.out.2.2.1
          xq := ⟨hq.out.1, hok, hR, by decide⟩
          ap := fun k h1 h2 => by
            have a1 := hA.fp_lt h1
            have a2 := hq.out.2.2.2 k h2
            omega
          bp := fun k h1 => Nat.le_trans hN (hA.fp_ge h1)
          bq := hq.out.2.1
          bq2 := hN
          bq3 := fun k h2 => by
            have a1 := hA.pg.size
            have a2 := hq.out.2.2.2 k h2
            omega })
        have HB8 := hide (B7.trans (hq.out.2.2.1.mono B7.size))
        have NA8 := NA.out.below HB8.out
        have la3 : la.length ≤ 500 := by omega
        have HB1 := hide b1
        clear HM r7 r0 hq hA hok B7 b57 hpB h57 b1 B5 hR g1 g2 g3 g4 e0 e1 e2 HNM
        generalize s.mach cs.length = M0 at *
        go_wp2_with (at_builtin; refine wpList_append_nums (by rfl) _ _ (by rfl) ada capa la (by rfl) (by rfl) NA8.at' NA8.nil' (by omega) ?_)
        intro ad9 cap9 w9 hc9 hn9 hlo9 hb9
        have HR := hide (P8.out.xp.runN hb9 hn9 hc9 la3 (by decide) hlo9)
        have P9 := hide (P8.out.below hb9)
        have HB9 := hide (HB8.out.trans (hb9.mono HB8.out.size))
        clear NA8 hc9 hn9 hlo9 hb9 P8 HB8
        go_wp2_with fail
        refine HR.out.mono ?_
        rintro e w10 ⟨rfl, v10, k10, r10⟩
        have Q10 : Hid (RkX cs q M0 1 w10) := hide ⟨P9.out.xq.at'.turns k10.turns (fun i o hf hq => P9.out.ap i hf hq) (fun i o hf => by rw [P9.out.bq]; exact P9.out.bp i hf), P9.out.xq.ok, P9.out.xq.right, by decide⟩
        have k10' := hide k10
        have HB10 := hide (HB9.out.trans (k10.belowB P9.out.xp.at' hN HB9.out.size))
        have NA10 := NA.out.below HB10.out
        have HR2 := hide (rrun_any Q10.out NA10.at' (Nat.le_trans la3 (by decide)) hca (Nat.le_trans (Nat.add_le_add_left la3 1) (by decide)) (fun h0 b off hb => by
          obtain ⟨x0, hx0⟩ : ∃ x, la[0]? = some x := ⟨_, List.getElem?_eq_getElem h0⟩
          obtain ⟨b', off', e1, e2⟩ := NA.out.at' 0 x0 hx0
          rw [hb] at e1; cases e1
          have l1 := World.block_lt_of_cell? _ _ e2
          refine ⟨Nat.lt_of_lt_of_le l1 HB10.out.size, fun hf => ?_⟩
          have a1 : w1.heap.size ≤ b := Nat.le_trans P9.out.bq2 (P9.out.bq3 b hf)
          exact absurd l1 (Nat.not_lt.2 a1)))
        clear HR HB9 NA10 k10
        go_wp2_with fail
        refine HR2.out.mono ?_
        rintro e w11 ⟨rfl, r11, v11, k11, x11⟩
        have HB11 := hide (HB10.out.trans (k11.turns.below HB10.out.size (fun i o hi hf => absurd hi (Nat.not_lt.2 (Nat.le_trans P9.out.bq2 (P9.out.bq3 i hf))))))
        have HBo : Hid (Both a cs (p.marked v10) (q.to r11 v11) (M0.runO cs la).2 w11) := hide ⟨r10.at'.turns k11.turns (fun i o hf hp => by
            rcases MkPl.fp_marked k10'.out hp with h1 | h1
            · exact P9.out.ap i h1 hf
            · exact absurd (P9.out.xq.at'.fp_lt hf) (Nat.not_lt.2 h1)) (fun i o hf => P9.out.bq3 i hf), x11.at'⟩
        have HAM := hide (asModel_any HBo.out r10.ok.marks (fun c => Nat.le_trans (r10.ok.mem.given c) (by decide)))
        have HBZ := hide (below_step HB1.out HB11.out)
        clear k11 x11 r10 k10' HR2 HBo HB11 HB10 P9 Q10 HB1 NA
        generalize (M0.runO cs la).1 = N1 at *
        go_wp2_with fail
        refine HAM.out.mono ?_
        rintro e w12 ⟨rfl, hb12⟩
        have HBY := hide (HBZ.out.trans (hb12.mono HBZ.out.size))
        clear HAM hb12 HBZ
        go_wp2
        go_ret
        exact ⟨rfl, HBY.out⟩
      · obtain ⟨k, hk⟩ : ∃ k, (s.fault cs).1 = k + 1 := ⟨(s.fault cs).1 - 1, by omega⟩
        have hk5 : (s.fault cs).1 ≤ 5 := fault_le s cs
        have HF6 := hide (fun w' (hb : Below w5.heap.size w5 w') => HFT.out w' (below_step B5 hb) v w4.heap.size hk5 (errIs_below hv hb))
        have HBW := hide (below_step b1 B5)
        rw [hk] at HSF5 HF6
        have kp : (0 : Int) < ((k + 1 : Nat) : Int) := by omega
        generalize (((k + 1 : Nat) : Int)) = ke at *
        generalize (s.fault cs).2 = f2 at *
        clear hz hv HN4 hb5 B4 B5 HSF HFT hk hk5 HNM NA
        go_wp2_with fail
        refine HSF5.out.mono ?_
        rintro e w6 ⟨rfl, hb6⟩
        obtain ⟨W7, hW7⟩ : ∃ W7, W7 = w6.alloc (.cells #[.int .i64 ke, .int .i64 f2] 43) := ⟨_, rfl⟩
        have b7 : Below w6.heap.size w6 W7 := by rw [hW7]; exact (Below.refl _ _).alloc (Nat.le_refl _) _
        have b57 : Below w5.heap.size w5 W7 := hb6.trans (b7.mono hb6.size)
        have HF7 := hide (HF6.out W7 b57)
        have HB7 := hide (HBW.out.trans (b57.mono HBW.out.size))
        clear HSF5 HF6 hb6 b7 b57 HBW
        go_wp2_with fail
        rw [← hW7]
        clear hW7
        refine HF7.out.mono ?_
        rintro e w8 ⟨rfl, hb8⟩
        have HB8 := hide (HB7.out.trans (hb8.mono HB7.out.size))
        clear HF7 hb8 HB7
        go_wp2
        go_ret
        exact ⟨rfl, HB8.out⟩
  · go_wp2
    go_ret
    exact ⟨rfl, below_step b1 B3⟩
end Go.Proofs.YtdpmnlbnlnmjbaaGreatDoor

/- StT -/
namespace Go.Proofs.YtdpmnlbnlnmjbaaGreatDoor
open Go.ChangeShapes Go.WideShapes Go.ChangeAt Go.RowKit Go.Joins Go.Deep

theorem runs_laid : Rows.machRunsRow.laid = laidAll := rfl
theorem cells_StartR : Tryz.prog.cellsOf 24 = 3 := by kernel_rfl
theorem readableR3 : ∀ t ∈ [24, 25, 26], Tryz.prog.readableRec t = true ∧ t < Tryz.prog.types.size := by
  intro t ht
  simp only [List.mem_cons, List.not_mem_nil, or_false] at ht
  rcases ht with rfl | rfl | rfl
  · exact ⟨by kernel_rfl, of_decide_eq_true (by kernel_rfl)⟩
  · exact ⟨by kernel_rfl, of_decide_eq_true (by kernel_rfl)⟩
  · exact ⟨by kernel_rfl, of_decide_eq_true (by kernel_rfl)⟩

set_option maxRecDepth 100000 in
theorem runs_lifted (os : Os) (started : os.Started) (H : Type) (enc : TypeId × Value → H) :
    ReturnsInHanded {} Tryz.checked os 4 .any (fun w args => (Rows.machRunsSpec.pre enc Tryz.prog Tryz.f4 [] false w args ∧ laidMetH Tryz.prog Rows.machRunsRow.laid w) ∧ sizedMet enc Tryz.prog Tryz.f4 (OpenSpec.ofChange Rows.machRunsSpec) false w args)
      (Rows.machRunsSpec.post enc Tryz.prog Tryz.f4 false true false false) := by
  rw [runs_laid]
  refine returnsInHanded_of_change_and (C := Tryz.checked) (X := fun w _ => laidMetH Tryz.prog laidAll w) (fun _ _ _ hh h => h.of_heap hh) own started (by kernel_rfl) Tryz.func4
    (ChangeSpec.witness_shaped (enc := enc) (C := Tryz.checked) (os := os) (X := fun w _ => laidMetH Tryz.prog laidAll w) false (World.doorLaid Tryz.prog 400 os) #[.agg #[.int .i64 0, .slice none 0 0, .slice none 0 0], .slice none 0 0, .slice none 0 0] 8 rfl (World.shaped_of_RefB (by kernel_rfl) (by kernel_rfl)) (by kernel_rfl) (by kernel_rfl) (by kernel_rfl) (door_met os _)) ?_
  intro W base args ds gs before hval0 hW _ _ hL _
  have hval : ∀ (j : Nat) t v, Tryz.f4.params[j]? = some t → args[j]? = some v → Value.okWide Tryz.prog W .any base t v := hval0
  have hW' := hW
  obtain ⟨p, q, hA0, hV, rfl, hfz, hnd⟩ := hW
  have hA : DataW.TrodAll enc Tryz.prog W 0 (fun _ => true) true Tryz.f4.params.toList args.toList ds p := hA0
  rw [Tryz.params4] at hA hval
  have hA2 := hA
  obtain ⟨v0, v1, v2, d0, d1, d2, p0, p1, p2, rfl, rfl, rfl, h0, h1, h2⟩ := trodAll_three hA
  obtain ⟨rfl, rfl⟩ := trodVars_none hV
  obtain ⟨c0, c1, c2, y0, y1, y2, n, rfl, -, -, k0, k1, k2⟩ := open_agg3 Tryz.underlying24 (by kernel_rfl) cells_StartR (hval 0 24 v0 rfl rfl) h0
  obtain ⟨cells, e0⟩ := kint_of_trod k0
  obtain ⟨ai, ci, R1, e1, r1, l1, m1, n1⟩ := rows_of_trod k1
  obtain ⟨ar, cr, R2, e2, r2, l2, m2, n2⟩ := rows_of_trod k2
  obtain rfl : c0 = .int .i64 cells := by simpa using e0
  obtain rfl : c1 = .slice ai R1.length ci := by simpa using e1
  obtain rfl : c2 = .slice ar R2.length cr := by simpa using e2
  obtain ⟨s1, sl1, sc1, rfl⟩ := okWide_slice Tryz.underlying25 (hval 1 25 v1 rfl rfl)
  obtain ⟨f1, hf1⟩ := h1
  obtain ⟨ad, cap, cl, q1, hcodes, hcl, hcL, hcs⟩ := codes_of_trod hf1
  obtain ⟨rfl, rfl, rfl⟩ : s1 = ad ∧ sl1 = cl.length ∧ sc1 = cap := by simpa [Value.cells] using q1
  obtain ⟨s2, sl2, sc2, rfl⟩ := okWide_slice Tryz.underlying26 (hval 2 26 v2 rfl rfl)
  obtain ⟨f2, hf2⟩ := h2
  obtain ⟨ada, capa, la, q2, hna, hca⟩ := nums_of_trod hf2
  obtain ⟨rfl, rfl, rfl⟩ : s2 = ada ∧ sl2 = la.length ∧ sc2 = capa := by simpa [Value.cells] using q2
  obtain ⟨a, hE⟩ := env_of_laid hL
  clear hA0 hval0
  simp only [List.append_nil] at hW'
  refine (runs_any (s := ⟨cells, R1, R2⟩) hE ⟨r1, r2, l1, l2, m1, m2, n1, n2⟩ hcodes hcs hcl hcL hna hca).mono fun e W' ⟨he, hb⟩ => ?_
  subst he
  refine ⟨_, rfl, _, _, _, [], p0 ++ p1 ++ p2, [], hW', ?_, ?_, ?_, hb.frame _, fun h => by cases h⟩
  · exact trodAll_mk1 (shut_bool Tryz.underlying4 true)
  · exact trodAll_below laidOutA hb _ _ _ _ readableR3 hA2
  · rfl

theorem runs_holds : Rows.MachRunsSaid :=
  OpenClaim.holds_of_wide 4 Tryz.f4 rfl rfl rfl rfl rfl rfl rfl ⟨rfl, rfl, rfl, rfl, rfl⟩ rfl rfl rfl rfl rfl (by kernel_rfl) Tryz.func4 (by kernel_rfl)
    (of_decide_eq_true (by kernel_rfl)) (by unfold Func.isWrapper; rw [if_neg (of_decide_eq_false (by kernel_rfl))]; exact ⟨rfl, rfl⟩)
    (fun os started H enc _ => runs_lifted os started H enc)

theorem runs_card : Rows.MachRunsCardSaid :=
  Claim7.holds_tied_plain_at .later [] [.handle, .sentinel, .sentinel, .sentinel, .sentinel, .sentinel, .sentinel, .sentinel, .sentinel, .sentinel] true (true, "9501355f2512123a200bd46b8cb668dc711361411f025ac1153121af49a39831") true
    runs_holds (fun _ h => absurd h List.not_mem_nil) (by kernel_rfl) (fun _ h => absurd h List.not_mem_nil) machRuns_row_tie rfl ⟨rfl, rfl⟩ (by kernel_rfl) rfl
    (fun f fn hf hfn => by
      obtain rfl : f = 4 := (Option.some.inj ((show Tryz.prog.funcNamed "quiescent/quiescentlaw1.MachRuns" = some 4 by kernel_rfl).symm.trans hf)).symm
      obtain rfl : fn = Tryz.f4 := (Option.some.inj (Tryz.func4.symm.trans hfn)).symm
      exact ⟨by kernel_rfl, fun j t ht => by
        rw [Tryz.params4] at ht
        rcases j with _ | _ | _ | j
        · obtain rfl : t = 24 := by simpa using ht.symm
          exact (show Tryz.prog.wantsStandIn 24 = false by kernel_rfl)
        · obtain rfl : t = 25 := by simpa using ht.symm
          exact (show Tryz.prog.wantsStandIn 25 = false by kernel_rfl)
        · obtain rfl : t = 26 := by simpa using ht.symm
          exact (show Tryz.prog.wantsStandIn 26 = false by kernel_rfl)
        · simp at ht⟩)
    (by kernel_rfl)
#print axioms runs_card
end Go.Proofs.YtdpmnlbnlnmjbaaGreatDoor
