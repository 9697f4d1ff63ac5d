/- The law WalkFaults answers true for every start, all codes and any script that can be handed in; no condition beside the row's own. -/
import Derived.Test.YtnnlkolhahjokaaGreatDoorA39
import Derived.Test.YtnnlkolhahjokaaGreatDoorA28
import Derived.Test.YtnnlkolhahjokaaGreatDoorA29
import Derived.Test.YtnnlkolhahjokaaGreatDoorTie
import Derived.Test.YtnnlkolhahjokaaGreatDoorCards
import Derived.Carry
import Derived.SevenTiedAt

/- WlD -/
namespace Go.Proofs.YtnnlkolhahjokaaGreatDoor
open Go.RowKit Go.Extern.Stop Go.Stop Go.Extern Go.Maps Go.WideMaps Go.Sort

theorem numsAt_front {ad : Option Addr} {l r : List Int} {w : World} (h : numsAt ad (l ++ r) w) : numsAt ad l w := fun i x hx => h i x (by rw [List.getElem?_append_left (List.getElem?_eq_some_iff.1 hx).1]; exact hx)
theorem numsAt_last {b off : Nat} {l : List Int} {n : Int} {w : World} (h : numsAt (some ⟨b, off, none⟩) (l ++ [n]) w) : numsAt (some ⟨b, off + l.length, none⟩) [n] w := fun i x hx => by
  have hi : i = 0 := by
    have := (List.getElem?_eq_some_iff.1 hx).1
    have : i < 1 := this
    omega
  subst hi
  obtain rfl : n = x := by simpa using hx
  obtain ⟨b', off', e, hc⟩ := h l.length n (by simp)
  cases e
  exact ⟨b, off + l.length, rfl, hc⟩

theorem Sta.mach_ln (s : Sta) (n : Nat) : LnOk (s.mach n).mem := fun t x hx => by
  have e : (s.mach n).mem.waits t = [] := rfl
  rw [e] at hx; cases hx

theorem all_go {s : Sta} {cs : List (List Ins)} {f : Nat} {S : Sp} {mo : Int} (hR : Right cs) (hgood : (s.fault cs).1 = 0) (hmo : 1 ≤ mo ∧ mo ≤ 60000) (h : searchO cs mo (2 * cs.length) f (firstS cs (s.mach cs.length)) = (.go, S)) (hm : S.ms = []) (l : List Int) : ((s.mach cs.length).runO cs l).2.faults = 0 := by
  obtain ⟨f1, f2, f3, f4⟩ := Sta.fault_fits hgood
  exact told_go (K := 1) (Sta.mach_ok f1 f2 f3) (Sta.mach_ln _ _) (Sta.mach_given _ _) hR rfl hmo (by decide) h hm l
theorem all_way {s : Sta} {cs : List (List Ins)} {f : Nat} {S : Sp} {mo : Int} {x : ByteArray × Int} {l : List Int} (hR : Right cs) (hgood : (s.fault cs).1 = 0) (hmo : 1 ≤ mo ∧ mo ≤ 60000) (h : searchO cs mo (2 * cs.length) f (firstS cs (s.mach cs.length)) = (.fault x, S)) (hb : Back S.E x l) :
    ∃ (n : Int) (L : List Int), l.reverse = L ++ [n] ∧ (L.length : Int) < mo ∧ ((s.mach cs.length).runO cs L).1 = L.length ∧ ((s.mach cs.length).runO cs L).2.faults = 0 ∧ (((s.mach cs.length).runO cs L).2.runO cs [n]).1 = 1 ∧ 0 < (((s.mach cs.length).runO cs L).2.runO cs [n]).2.faults := by
  obtain ⟨f1, f2, f3, f4⟩ := Sta.fault_fits hgood
  exact told_fault (K := 1) (Sta.mach_ok f1 f2 f3) (Sta.mach_ln _ _) hR rfl hmo (by decide) h hb

set_option maxRecDepth 100000 in
set_option maxHeartbeats 4000000 in
theorem wfaults_any {a : Nat → Addr} {s : Sta} {ai ar ad ada : Option Addr} {ci cr cap capa : Nat} {cs : List (List Ins)} {la : List Int} {w : World} (hE : Env a w) (hs : StaAt s ⟨ai, ci, ar, cr⟩ w) (hl : codesAt ad cs w) (hsz : ∀ (t : Nat) L, cs[t]? = some L → ∀ (i : Nat) x, L[i]? = some x → x.to.size ≤ maxLen)
    (hc : cs.length ≤ 9223372036854775807) (hL : ∀ (t : Nat) L, cs[t]? = some L → L.length ≤ 9223372036854775807) (na : NumsX ada la capa w) :
    Calls Tryz.prog 3 #[.agg #[.int .i64 s.cells, .slice ai s.init.length ci, .slice ar s.regs.length cr], .slice ad cs.length cap, .slice ada la.length capa] w fun e w' => e = .returned (.bool true) ∧ Below w.heap.size w w' := by
  obtain ⟨w1, hw1⟩ : ∃ w1, w1 = w.alloc (.cells #[.int .i64 s.cells, .slice ai s.init.length ci, .slice ar s.regs.length cr] 24) := ⟨_, rfl⟩
  have b1 : Below w.heap.size w w1 := by rw [hw1]; exact (Below.refl _ _).alloc (Nat.le_refl _) _
  have e0 : w1.cell? ⟨w.heap.size, 0, none⟩ = some (.int .i64 s.cells) := by rw [hw1]; simp
  have e1 : w1.cell? ⟨w.heap.size, 1, none⟩ = some (.slice ai s.init.length ci) := by rw [hw1]; simp
  have e2 : w1.cell? ⟨w.heap.size, 2, none⟩ = some (.slice ar s.regs.length cr) := by rw [hw1]; simp
  have HO := hide (ways_any (hE.below b1.block))
  have HV := hide (fun w' (hb : Below w1.heap.size w1 w') => vast_any (cap := cap) ((hs.below b1).below hb) ((hl.below b1).below hb) hc hL)
  have HS := hide (fun (w' : World) => startOf_any (s := s) (ai := ai) (ar := ar) (ci := ci) (cr := cr) w')
  have HN := hide (fun w' (hb : Below w1.heap.size w1 w') => new_any (cap := cap) ((hE.below b1.block).below hb.block) ((hs.below b1).below hb) ((hl.below b1).below hb) hsz)
  have HA := hide (fun w' (hb : Below w1.heap.size w1 w') (hg : (s.fault cs).1 = 0) => all_search (cap := cap) 500 ((hE.below b1.block).below hb.block) ((hs.below b1).below hb) ((hl.below b1).below hb) hsz hg (by decide))
  have HB := hide (fun w' (hb : Below w1.heap.size w1 w') (hg : (s.fault cs).1 ≠ 0) => all_bad (cap := cap) 500 ((hE.below b1.block).below hb.block) ((hs.below b1).below hb) ((hl.below b1).below hb) hsz hg)
  have NA := hide (na.below b1)
  have la2 : (la.length : Int) ≤ 9223372036854775807 := by have := na.len; omega
  clear hE hs hl hsz hL na
  go_enter Tryz.func3, Tryz.ntmps3
  go_wp2_with fail
  rw [← hw1]
  clear hw1
  refine HO.out.mono ?_
  rintro e w2 ⟨rfl, hb2⟩
  replace e0 := keep_cell hb2 e0
  replace e1 := keep_cell hb2 e1
  replace e2 := keep_cell hb2 e2
  have HV2 := hide (HV.out w2 hb2)
  clear HO HV
  go_wp2_with fail
  refine HV2.out.mono ?_
  rintro e w3 ⟨v, hv, rfl, hb3⟩
  have B3 := below_step hb2 hb3
  replace e0 := keep_cell hb3 e0
  replace e1 := keep_cell hb3 e1
  replace e2 := keep_cell hb3 e2
  clear HV2 hb2 hb3
  rcases hv.out with rfl | rfl
  rotate_left
  · go_wp2
    go_ret
    exact ⟨rfl, below_step b1 B3⟩
  by_cases ha : (300 : Int) < la.length
  · go_wp2
    go_ret
    exact ⟨rfl, below_step b1 B3⟩
  go_wp2_with fail
  refine (HS.out w3).mono ?_
  rintro e w4 ⟨rfl, hb4⟩
  have B4 := below_step B3 hb4
  replace e0 := keep_cell hb4 e0
  replace e1 := keep_cell hb4 e1
  replace e2 := keep_cell hb4 e2
  by_cases hgood : (s.fault cs).1 = 0
  rotate_left
  · have HB4 := hide (HB.out w4 B4 hgood)
    clear HA HB HN HS hb4 B3 e0 e1 e2 NA
    go_wp2_with fail
    refine HB4.out.mono ?_
    rintro e w5 ⟨hb5, v, rfl, hv⟩
    have HBW := hide (below_step b1 (below_step B4 hb5))
    clear HB4 hb5 B4 b1
    unfold toldV
    rcases hv with ⟨h, -⟩ | ⟨-, -, rfl⟩ | ⟨-, j2, N2, -, -, rfl, -, -⟩
    · exact absurd h hgood
    · obtain ⟨k, hk⟩ : ∃ k, (s.fault cs).1 = k + 1 := ⟨(s.fault cs).1 - 1, by omega⟩
      rw [hk]
      clear hgood hk
      rw [show xval a (k + 1) = xerr (a k) from rfl]
      go_wp2
      go_ret
      exact ⟨rfl, HBW.out.alloc HBW.out.size _⟩
    · clear hgood
      go_wp2
      go_ret
      exact ⟨rfl, HBW.out.alloc HBW.out.size _⟩
  have HA4 := hide (HA.out w4 B4 hgood)
  clear HA HB hb4 B3
  go_wp2_with fail
  refine HA4.out.mono ?_
  rintro e w5 hp
  obtain ⟨hb5, f, S, hres⟩ := hp.out
  have B5 := below_step B4 hb5
  replace e0 := keep_cell hb5 e0
  replace e1 := keep_cell hb5 e1
  replace e2 := keep_cell hb5 e2
  have hbs : w4.heap.size ≤ w5.heap.size := hb5.size
  have hlt5 : w.heap.size < w5.heap.size := World.block_lt_of_cell? _ _ e0
  clear HA4 hp hb5
  rcases hres with ⟨h1, h2, rfl⟩ | ⟨h1, rfl⟩ | ⟨x, l, h1, h2, h3, v, rfl, hv⟩
  · -- no fault
    have HG := hide (fun (hR : Right cs) => all_go hR hgood (by decide) h1 h2 la)
    clear h1 h2
    unfold toldV
    obtain ⟨W5, hW5⟩ : ∃ W, W = w5.alloc (.cells #[.int .i64 S.s, .int .i64 S.e, .bool false, .slice none 0 0] 30) := ⟨_, rfl⟩
    have c5 : Below w5.heap.size w5 W5 := by rw [hW5]; exact (Below.refl _ _).alloc (Nat.le_refl _) _
    have t2 : W5.cell? ⟨w5.heap.size, 2, none⟩ = some (.bool false) := by rw [hW5, World.cell?_alloc_new]; rfl
    replace B5 := below_step B5 c5
    go_wp2_with fail
    rw [← hW5]
    clear hW5
    refine (HS.out W5).mono ?_
    rintro e w6 ⟨rfl, hb6⟩
    have B6 := below_step B5 hb6
    replace t2 := keep_cell hb6 t2
    have HN6 := hide (HN.out w6 B6)
    clear HS HN hb6 e0 e1 e2 B5 B4
    go_wp2_with fail
    refine HN6.out.mono ?_
    rintro e w7 hp
    obtain ⟨hb7, hp⟩ := hp.out
    rcases hp with ⟨hf, hR, p, rfl, hA, hpB, hmv⟩ | ⟨hz, -⟩
    rotate_left
    · exact absurd hgood hz
    have B7 := below_step B6 hb7
    replace t2 := keep_cell hb7 t2
    obtain ⟨g1, g2, g3, -⟩ := Sta.fault_fits hf
    have r0 : RunX a cs p (s.mach cs.length) 1 w7 := ⟨hA, Sta.mach_ok g1 g2 g3, hR, by decide⟩
    have HFt := hide (HG.out hR)
    have NA7 := NA.out.below B7
    have HBW := hide B7
    have HB1 := hide b1
    have HR0 := hide r0
    have la3 : la.length ≤ 300 := by omega
    have hN : w1.heap.size ≤ p.B := Nat.le_trans B6.size hpB
    clear HN6 hb7 B6 B7 NA b1 hf hR hA hpB hmv g1 g2 g3 r0 HG hgood
    generalize s.mach cs.length = M0 at *
    go_wp2_with (at_builtin; refine wpList_append_nums (by rfl) _ _ (by rfl) ada capa la (by rfl) (by rfl) NA7.at' NA7.nil' (by omega) ?_)
    intro ad8 cap8 w8 hc8 hn8 hlo8 hb8
    have HR := hide (HR0.out.run hb8 hn8 hc8 la3 (by decide) hlo8)
    have HB8 := hide (HBW.out.trans (hb8.mono HBW.out.size))
    have HA8 := hide (HR0.out.below hb8)
    clear NA7 hc8 hn8 hlo8 hb8 HR0 HBW
    go_wp2_with fail
    refine HR.out.mono ?_
    rintro e w9 ⟨rfl, v9, k9, r9⟩
    have HB9 := hide (below_step HB1.out (HB8.out.trans (k9.belowB HA8.out.at' hN HB8.out.size)))
    have HF : Hid (Calls Tryz.prog 11 #[.pointer (some ⟨p.b, 0, none⟩)] w9 fun e w' => e = .returned (.int .i64 ((M0.runO cs la).2.faults)) ∧ w' = w9) := kfaults_any (p := p.marked v9) r9.at'
    rw [HFt.out] at HF
    clear HR HB8 HA8 k9 r9 HFt t2
    go_wp2_with fail
    refine HF.out.mono ?_
    rintro e wq ⟨rfl, rfl⟩
    go_wp2
    go_ret
    exact ⟨rfl, HB9.out⟩
  · -- too many states
    clear h1
    unfold toldV
    go_wp2
    go_ret
    exact ⟨rfl, (below_step b1 B5).alloc (below_step b1 B5).size _⟩
  · -- a fault
    have HG := hide (fun (hR : Right cs) => all_way hR hgood (by decide) h1 h2)
    have hpos : 0 < l.reverse.length := by rw [List.length_reverse]; exact h3
    obtain ⟨av, cv, rfl, hnv⟩ := numsOwn_open hv hpos
    have hown := hv
    clear h1 h2 h3
    have hlow : w4.heap.size ≤ av.block ∧ av.block < w5.heap.size := World.ownsRow.lt hown av.block rfl
    obtain ⟨vb, vo, rfl⟩ : ∃ b o, av = ⟨b, o, none⟩ := by
      obtain ⟨y, hy⟩ : ∃ y, l.reverse[0]? = some y := ⟨_, List.getElem?_eq_getElem hpos⟩
      obtain ⟨b, o, e, -⟩ := hnv 0 y hy
      exact ⟨b, o, Option.some.inj e⟩
    rw [List.length_reverse]
    obtain ⟨_, _, ecap, hcv, -⟩ := numsOwn_at hown
    obtain ⟨rfl, rfl⟩ : _ = _ ∧ cv = _ := by simpa using ecap
    unfold toldV
    have HNV := hide hnv
    clear hv hown hnv
    obtain ⟨W5, hW5⟩ : ∃ W, W = w5.alloc (.cells #[.int .i64 S.s, .int .i64 S.e, .bool true, .slice (some ⟨vb, vo, none⟩) l.length cv] 30) := ⟨_, rfl⟩
    have c5 : Below w5.heap.size w5 W5 := by rw [hW5]; exact (Below.refl _ _).alloc (Nat.le_refl _) _
    have t2 : W5.cell? ⟨w5.heap.size, 2, none⟩ = some (.bool true) := by rw [hW5, World.cell?_alloc_new]; rfl
    have t3 : W5.cell? ⟨w5.heap.size, 3, none⟩ = some (.slice (some ⟨vb, vo, none⟩) l.length cv) := by rw [hW5, World.cell?_alloc_new]; rfl
    replace B5 := below_step B5 c5
    have hs5 : w5.heap.size ≤ W5.heap.size := c5.size
    replace HNV := hide (HNV.out.below c5)
    go_wp2_with fail
    rw [← hW5]
    clear hW5 c5
    refine (HS.out W5).mono ?_
    rintro e w6 ⟨rfl, hb6⟩
    have B6 := below_step B5 hb6
    have HN6 := hide (HN.out w6 B6)
    have HNV6 := hide (HNV.out.below hb6)
    have hs6 : W5.heap.size ≤ w6.heap.size := hb6.size
    replace t2 := keep_cell hb6 t2
    replace t3 := keep_cell hb6 t3
    clear HS HN hb6 e0 e1 e2 B5 B4 HNV
    go_wp2_with fail
    refine HN6.out.mono ?_
    rintro e w7 hp
    obtain ⟨hb7, hp⟩ := hp.out
    rcases hp with ⟨hf, hR, p, rfl, hA, hpB, hmv⟩ | ⟨hz, -⟩
    rotate_left
    · exact absurd hgood hz
    have B7 := below_step B6 hb7
    have t26 := t2
    replace t2 := keep_cell hb7 t2
    replace t3 := keep_cell hb7 t3
    have hs7 : w6.heap.size ≤ w7.heap.size := hb7.size
    obtain ⟨g1, g2, g3, -⟩ := Sta.fault_fits hf
    have r0 : RunX a cs p (s.mach cs.length) 1 w7 := ⟨hA, Sta.mach_ok g1 g2 g3, hR, by decide⟩
    obtain ⟨n, L, hL, hLmo, hc1, hc2, hc3, hc4⟩ := HG.out hR
    have hN7 := HNV6.out.below hb7
    rw [hL] at hN7
    have hLl : l.length = L.length + 1 := by rw [← List.length_reverse, hL]; simp
    rw [List.length_reverse, hLl] at hcv
    have nf : ∀ k, k < w6.heap.size → ¬ p.fp k := fun k hk hp => by
      have := hA.fp_ge hp
      omega
    have hN : w1.heap.size ≤ p.B := Nat.le_trans B6.size hpB
    have hvb : vb < w6.heap.size := by have := hlow.2; have : (⟨vb, vo, none⟩ : Addr).block = vb := rfl; omega
    have hmo : L.length < 500 := by omega
    have HRun1 := hide (krun_any r0 (ad := some ⟨vb, vo, none⟩) (l := L) (cap := cv) (numsAt_front hN7) (by omega) (by omega) (by omega) (fun b off e => by
      cases e
      exact ⟨by omega, nf vb hvb⟩))
    have HL7 := hide (numsAt_last hN7)
    have HNF := hide nf
    have HB7 := hide B7
    have HR0 := hide r0
    have HB1 := hide b1
    have hs7' := hs7
    have hs56 : w5.heap.size < w6.heap.size := World.block_lt_of_cell? _ _ t26
    rw [hLl] at t3
    rw [hc1] at HRun1
    clear HN6 hb7 B6 B7 hR hA hpB hmv g1 g2 g3 r0 HG hgood hN7 HNV6 b1 hf nf hlow hs5 hs6 hs7 hbs hL hLl NA t26
    generalize hk : L.length = k at *
    have hw67 : w6.heap.size ≤ w7.heap.size := hs7'
    have hb56 : w5.heap.size < w6.heap.size := hs56
    have hAt := hide HR0.out.at'
    go_wp2_with fail
    refine HRun1.out.mono ?_
    rintro e w8 ⟨rfl, v8, k8, r8⟩
    have t3' : w8.cell? ⟨w5.heap.size, 3, none⟩ = some (.slice (some ⟨vb, vo, none⟩) (k + 1) cv) := k8.turns.keep t3 (HNF.out _ hb56)
    have hs8 : w7.heap.size ≤ w8.heap.size := k8.turns.size
    have nm8 : ¬ (p.marked v8).fp vb := fun hf => by
      rcases MkPl.fp_marked k8 hf with h | h
      · exact HNF.out vb hvb h
      · omega
    have HL8 := hide (HL7.out.turns k8.turns (fun b off o e hf => by cases e; exact HNF.out vb hvb hf))
    have HF8 : Hid (Calls Tryz.prog 11 #[.pointer (some ⟨p.b, 0, none⟩)] w8 fun e w' => e = .returned (.int .i64 (((s.mach cs.length).runO cs L).2.faults)) ∧ w' = w8) := kfaults_any (p := p.marked v8) r8.at'
    rw [hc2] at HF8
    have HRun2 : Hid (Calls Tryz.prog 10 #[.pointer (some ⟨p.b, 0, none⟩), .slice (some ⟨vb, vo + k, none⟩) 1 (cv - k)] w8 fun e w' => e = .returned (.int .i64 (((s.mach cs.length).runO cs L).2.runO cs [n]).1) ∧ ∃ v, MkStep a cs (p.marked v8) w8 v (((s.mach cs.length).runO cs L).2.runO cs [n]).2 w' ∧ RunX a cs ((p.marked v8).marked v) (((s.mach cs.length).runO cs L).2.runO cs [n]).2 (1 + k + 1) w') := krun_any r8 (ad := some ⟨vb, vo + k, none⟩) (l := [n]) (cap := cv - k) HL8.out (by show 1 ≤ 20000; decide) (by show 1 ≤ cv - k; omega) (by show 1 + k + 1 ≤ 10000000; omega) (fun b off e => by
      cases e
      exact ⟨by omega, nm8⟩)
    rw [hc3] at HRun2
    have HB8 := hide (HB7.out.trans (k8.belowB hAt.out hN HB7.out.size))
    have hs18 := HB8.out.size
    clear HRun1 k8 HL7 HL8 nm8 t3 hc1
    have HAt8 := hide r8.at'
    clear r8
    go_wp2_with fail
    refine HF8.out.mono ?_
    rintro e wq ⟨rfl, rfl⟩
    clear HF8
    go_wp2_with fail
    refine HRun2.out.mono ?_
    rintro e w10 ⟨rfl, v10, k10, r10⟩
    have HB10 := hide (below_step HB1.out (HB8.out.trans (k10.belowB HAt8.out hN hs18)))
    have HF10 : Hid (Calls Tryz.prog 11 #[.pointer (some ⟨p.b, 0, none⟩)] w10 fun e w' => e = .returned (.int .i64 ((((s.mach cs.length).runO cs L).2.runO cs [n]).2.faults)) ∧ w' = w10) := kfaults_any (p := (p.marked v8).marked v10) r10.at'
    obtain ⟨fz, hfz⟩ : ∃ fz, (((s.mach cs.length).runO cs L).2.runO cs [n]).2.faults = fz := ⟨_, rfl⟩
    rw [hfz] at HF10 hc4
    have hc5 := hide hc4
    clear HRun2 k10 r10 HAt8 t3' hfz hc4 hc2 hc3
    go_wp2_with fail
    refine HF10.out.mono ?_
    rintro e wq2 ⟨rfl, rfl⟩
    go_wp2
    go_ret
    refine ⟨?_, HB10.out⟩
    show Ending.returned (.bool (decide (0 < fz))) = _
    rw [decide_eq_true hc5.out]
end Go.Proofs.YtnnlkolhahjokaaGreatDoor

/- WlF -/
namespace Go.Proofs.YtnnlkolhahjokaaGreatDoor
open Go.ChangeShapes Go.WideShapes Go.ChangeAt Go.RowKit Go.Joins Go.Deep

theorem wfaults_laid : Rows.walkFaultsRow.laid = laidAll := rfl
theorem cells_StartF : Tryz.prog.cellsOf 24 = 3 := by kernel_rfl
theorem readableF3 : ∀ t ∈ [24, 25, 26], Tryz.prog.readableRec t = true ∧ t < Tryz.prog.types.size := by
  intro t ht
  simp only [List.mem_cons, List.not_mem_nil, or_false] at ht
  rcases ht with rfl | rfl | rfl
  · exact ⟨by kernel_rfl, of_decide_eq_true (by kernel_rfl)⟩
  · exact ⟨by kernel_rfl, of_decide_eq_true (by kernel_rfl)⟩
  · exact ⟨by kernel_rfl, of_decide_eq_true (by kernel_rfl)⟩

set_option maxRecDepth 100000 in
theorem wfaults_lifted (os : Os) (started : os.Started) (H : Type) (enc : TypeId × Value → H) :
    ReturnsInHanded {} Tryz.checked os 3 .any (fun w args => (Rows.walkFaultsSpec.pre enc Tryz.prog Tryz.f3 [] false w args ∧ laidMetH Tryz.prog Rows.walkFaultsRow.laid w) ∧ sizedMet enc Tryz.prog Tryz.f3 (OpenSpec.ofChange Rows.walkFaultsSpec) false w args)
      (Rows.walkFaultsSpec.post enc Tryz.prog Tryz.f3 false true false false) := by
  rw [wfaults_laid]
  refine returnsInHanded_of_change_and (C := Tryz.checked) (X := fun w _ => laidMetH Tryz.prog laidAll w) (fun _ _ _ hh h => h.of_heap hh) own started (by kernel_rfl) Tryz.func3
    (ChangeSpec.witness_shaped (enc := enc) (C := Tryz.checked) (os := os) (X := fun w _ => laidMetH Tryz.prog laidAll w) false (World.doorLaid Tryz.prog 400 os) #[.agg #[.int .i64 0, .slice none 0 0, .slice none 0 0], .slice none 0 0, .slice none 0 0] 8 rfl (World.shaped_of_RefB (by kernel_rfl) (by kernel_rfl)) (by kernel_rfl) (by kernel_rfl) (by kernel_rfl) (door_met os _)) ?_
  intro W base args ds gs before hval0 hW _ _ hL _
  have hval : ∀ (j : Nat) t v, Tryz.f3.params[j]? = some t → args[j]? = some v → Value.okWide Tryz.prog W .any base t v := hval0
  have hW' := hW
  obtain ⟨p, q, hA0, hV, rfl, hfz, hnd⟩ := hW
  have hA : DataW.TrodAll enc Tryz.prog W 0 (fun _ => true) true Tryz.f3.params.toList args.toList ds p := hA0
  rw [Tryz.params3] at hA hval
  have hA2 := hA
  obtain ⟨v0, v1, v2, d0, d1, d2, p0, p1, p2, rfl, rfl, rfl, h0, h1, h2⟩ := trodAll_three hA
  obtain ⟨rfl, rfl⟩ := trodVars_none hV
  obtain ⟨c0, c1, c2, y0, y1, y2, n, rfl, -, -, k0, k1, k2⟩ := open_agg3 Tryz.underlying24 (by kernel_rfl) cells_StartF (hval 0 24 v0 rfl rfl) h0
  obtain ⟨cells, e0⟩ := kint_of_trod k0
  obtain ⟨ai, ci, R1, e1, r1, l1, m1, n1⟩ := rows_of_trod k1
  obtain ⟨ar, cr, R2, e2, r2, l2, m2, n2⟩ := rows_of_trod k2
  obtain rfl : c0 = .int .i64 cells := by simpa using e0
  obtain rfl : c1 = .slice ai R1.length ci := by simpa using e1
  obtain rfl : c2 = .slice ar R2.length cr := by simpa using e2
  obtain ⟨s1, sl1, sc1, rfl⟩ := okWide_slice Tryz.underlying25 (hval 1 25 v1 rfl rfl)
  obtain ⟨f1, hf1⟩ := h1
  obtain ⟨ad, cap, cl, q1, hcodes, hcl, hcL, hcs⟩ := codes_of_trod hf1
  obtain ⟨rfl, rfl, rfl⟩ : s1 = ad ∧ sl1 = cl.length ∧ sc1 = cap := by simpa [Value.cells] using q1
  obtain ⟨s2, sl2, sc2, rfl⟩ := okWide_slice Tryz.underlying26 (hval 2 26 v2 rfl rfl)
  obtain ⟨f2, hf2⟩ := h2
  obtain ⟨ada, capa, la, q2, hna, hca⟩ := nums_of_trod hf2
  obtain ⟨rfl, rfl, rfl⟩ : s2 = ada ∧ sl2 = la.length ∧ sc2 = capa := by simpa [Value.cells] using q2
  obtain ⟨a, hE⟩ := env_of_laid hL
  clear hA0 hval0
  simp only [List.append_nil] at hW'
  refine (wfaults_any (s := ⟨cells, R1, R2⟩) hE ⟨r1, r2, l1, l2, m1, m2, n1, n2⟩ hcodes hcs hcl hcL hna).mono fun e W' ⟨he, hb⟩ => ?_
  subst he
  refine ⟨_, rfl, _, _, _, [], p0 ++ p1 ++ p2, [], hW', ?_, ?_, ?_, hb.frame _, fun h => by cases h⟩
  · exact trodAll_mk1 (shut_bool Tryz.underlying4 true)
  · exact trodAll_below laidOutA hb _ _ _ _ readableF3 hA2
  · rfl

theorem wfaults_holds : Rows.WalkFaultsSaid :=
  OpenClaim.holds_of_wide 3 Tryz.f3 rfl rfl rfl rfl rfl rfl rfl ⟨rfl, rfl, rfl, rfl, rfl⟩ rfl rfl rfl rfl rfl (by kernel_rfl) Tryz.func3 (by kernel_rfl)
    (of_decide_eq_true (by kernel_rfl)) (by unfold Func.isWrapper; rw [if_neg (of_decide_eq_false (by kernel_rfl))]; exact ⟨rfl, rfl⟩)
    (fun os started H enc _ => wfaults_lifted os started H enc)

theorem wfaults_card : Rows.WalkFaultsCardSaid :=
  Claim7.holds_tied_plain_at .later [] [.handle, .sentinel, .sentinel, .sentinel, .sentinel, .sentinel, .sentinel, .sentinel] true (true, "ab95832b42b8b98b4bac848131bff84f3f680ce4991a79cff598260e17189a18") true
    wfaults_holds (fun _ h => absurd h List.not_mem_nil) (by kernel_rfl) (fun _ h => absurd h List.not_mem_nil) walkFaults_row_tie rfl ⟨rfl, rfl⟩ (by kernel_rfl) rfl
    (fun f fn hf hfn => by
      obtain rfl : f = 3 := (Option.some.inj ((show Tryz.prog.funcNamed "quiescent/quiescentlaw1.WalkFaults" = some 3 by kernel_rfl).symm.trans hf)).symm
      obtain rfl : fn = Tryz.f3 := (Option.some.inj (Tryz.func3.symm.trans hfn)).symm
      exact ⟨by kernel_rfl, fun j t ht => by
        rw [Tryz.params3] at ht
        rcases j with _ | _ | _ | j
        · obtain rfl : t = 24 := by simpa using ht.symm
          exact (show Tryz.prog.wantsStandIn 24 = false by kernel_rfl)
        · obtain rfl : t = 25 := by simpa using ht.symm
          exact (show Tryz.prog.wantsStandIn 25 = false by kernel_rfl)
        · obtain rfl : t = 26 := by simpa using ht.symm
          exact (show Tryz.prog.wantsStandIn 26 = false by kernel_rfl)
        · simp at ht⟩)
    (by kernel_rfl)
#print axioms wfaults_card
end Go.Proofs.YtnnlkolhahjokaaGreatDoor
