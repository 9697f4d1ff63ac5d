/- The law SpinEnds answers true for all numbers that can be handed in; no condition beside the row's own. -/
import Derived.Test.YtepgcgokolmedaaDoorA29
import Derived.Test.YtepgcgokolmedaaDoorA14
import Derived.Test.YtepgcgokolmedaaDoorTie
import Derived.Test.YtepgcgokolmedaaDoorCards
import Derived.Carry
import Derived.SevenTiedAt

/- SpJ -/
namespace Go.Proofs.YtepgcgokolmedaaDoor
open Go.RowKit Go.Extern.Stop Go.Stop Go.Extern Go.Maps Go.WideMaps Go.Sort

theorem rowsInfo : ∃ i, (Tryd.prog).info? 36 = some i ∧ i.zero = some (.slice none 0 0) ∧ i.size = 1 ∧ i.bytes = 24 := info_parts (by kernel_rfl)
theorem codesInfo : ∃ i, (Tryd.prog).info? 23 = some i ∧ i.zero = some (.slice none 0 0) ∧ i.size = 1 ∧ i.bytes = 24 := info_parts (by kernel_rfl)

theorem Prep.first {tm : Nat} {w w1 : World} (hb : Below w.heap.size w w1) : ∃ vs rv rs, Prep tm 0 0 w (w1.heap.size + 1 + 1 + 1) (w1.heap.size + 1 + 1) (w1.heap.size + 1) (.slice none 0 0) vs rv rs (((w1.alloc (.cells #[] 3)).alloc (.cells #[.slice (some ⟨w1.heap.size, 0, none⟩) 0 0] 36)).alloc (.cells #[.int .i64 1, .slice (some ⟨w1.heap.size + 1, 0, none⟩) 1 1, .slice none 0 0] 39)) := by
  have hs := hb.size
  obtain ⟨Wa, hWa⟩ : ∃ Wa, Wa = (w1.alloc (.cells #[] 3)).alloc (.cells #[.slice (some ⟨w1.heap.size, 0, none⟩) 0 0] 36) := ⟨_, rfl⟩
  rw [← hWa]
  have hz : Wa.heap.size = w1.heap.size + 1 + 1 := by rw [hWa]; simp
  have n := World.cell?_alloc_new Wa #[.int .i64 1, .slice (some ⟨w1.heap.size + 1, 0, none⟩) 1 1, .slice none 0 0] 39
  have f := fun o => World.frozen?_alloc_new Wa #[.int .i64 1, .slice (some ⟨w1.heap.size + 1, 0, none⟩) 1 1, .slice none 0 0] 39 o
  rw [hz] at n f
  have ci : Wa.cell? ⟨w1.heap.size + 1, 0, none⟩ = some (.slice (some ⟨w1.heap.size, 0, none⟩) 0 0) := by rw [hWa]; simp
  have hbW : Below w.heap.size w Wa := by rw [hWa]; exact (hb.alloc hs _).alloc (by simp; omega) _
  refine ⟨[], .slice none 0 0, [], ?_⟩
  exact {
    own := World.ownsRow_nil _ _ _ _
    ownr := World.ownsRow_nil _ _ _ _
    codes := fun u hu => (by cases hu)
    rows := fun u hu => (by cases hu)
    nec := fun u hu => (by cases hu)
    ner := fun u hu => (by cases hu)
    ne := fun b e => (by cases e)
    low := hbW.alloc (by omega) _
    b0 := by omega
    sb0 := by omega
    sb1 := by omega
    bi1 := by omega
    bs := by omega
    c0 := (n 0).trans rfl
    c1 := (n 1).trans rfl
    c2 := (n 2).trans rfl
    ci := ⟨_, _, keep_cell ((Below.refl _ _).alloc (Nat.le_refl _) _) ci⟩
    fz := fun o => f o
    sz := by simp; omega }

theorem Prep.box {tm jc jr : Nat} {w0 : World} {base sb bi : Nat} {v : Value} {vs : List Value} {rv : Value} {rs : List Value} {w w' : World} (h : Prep tm jc jr w0 base sb bi v vs rv rs w) (hg : w.grownBy w' rv.ownBlock) : w'.cell? ⟨sb, 2, none⟩ = some rv ∧ w'.frozen? ⟨sb, 2, none⟩ = false := by
  have hB : Below base w w' := (Below.refl base w).grown hg h.sz (fun k hk => (h.ownr.lt k hk).1)
  exact ⟨by rw [World.cell?_of_block (hB.block sb h.sb1)]; exact h.c2, by rw [World.frozen?_of_block (hB.block sb h.sb1)]; exact h.fz 2⟩
theorem rowOwn_new {w : World} {base : Nat} (hb : base ≤ w.heap.size) : rowOwn ((w.alloc (.cells #[.int .i64 0, .int .i64 0, .int .i64 0, .int .i64 0, .int .i64 0, .int .i64 0, .int .i64 0, .int .i64 1] 3)).alloc (.cells #[.slice (some ⟨w.heap.size, 0, none⟩) 8 8] 36)) base (.slice (some ⟨w.heap.size, 0, none⟩) 8 8) := by
  refine ⟨rfl, .inr ⟨w.heap.size, 8, _, rfl, hb, (Below.heap_alloc _ _ _ (by simp)).trans (heap_new w _), Nat.le_refl _, by decide, rfl, rfl⟩⟩

theorem spStart_inv {T tm : Nat} : Inv T tm ⟨List.replicate T 0, none⟩ ((spSta T).mach T) := by
  refine Inv.start (fun _ => rfl) (fun u hu => ?_) (fun _ _ => rfl) (fun j => ?_) ?_ rfl rfl
  · show rowAt (List.replicate T spRegs) u 7 = 1
    unfold rowAt
    rw [getD_rep _ _ _ _ hu]
    rfl
  · show (if 0 < (spSta T).init.length ∧ j < 4 then rowAt (spSta T).init 0 j else 0) = 0
    split
    · show ([] : List Int).getD j 0 = 0
      simp
    · rfl
  · rfl
theorem spRest_pc {T tm : Nat} {m : Mk} (h : restTo (List.replicate T (spCode tm)) m T = true) : ∀ u, u < T → 19 * tm ≤ m.pc u := fun u hu => by
  have := List.all_eq_true.1 h u (List.mem_range.2 hu)
  rw [getD_rep _ _ _ _ hu, spDone] at this
  simp only [Bool.and_eq_true, decide_eq_true_eq] at this
  exact this.1
set_option maxRecDepth 20000 in
theorem field_fault (a b : Int) (w : World) : (Instr.field 44 (.agg #[.int .i64 a, .int .i64 b]) 0).run Tryd.prog w = .ok (.int .i64 a) w := by
  rfl
theorem spFits (T : Nat) : (spSta T).fits T = true := by
  unfold Sta.fits
  have h1 : decide (((spSta T).init.length : Int) ≤ (spSta T).cells) = true := rfl
  have h2 : rowsOk 4 (spSta T).init = true := rfl
  have h3 : decide ((spSta T).regs.length ≤ T) = true := decide_eq_true (by show (List.replicate T spRegs).length ≤ T; rw [List.length_replicate]; exact Nat.le_refl _)
  have h4 : rowsOk 8 (spSta T).regs = true := by
    unfold rowsOk
    rw [List.all_eq_true]
    intro x hx
    obtain ⟨-, rfl⟩ := List.mem_replicate.1 hx
    rfl
  rw [h1, h2, h3, h4]
  rfl
theorem spFault {T tm : Nat} (h4 : tm ≤ 3) (h1 : 1 ≤ T) (h6 : T ≤ 6) : (spSta T).fault (List.replicate T (spCode tm)) = (0, -1) := by
  unfold Sta.fault
  rw [List.length_replicate, if_pos ⟨(by show (1 : Int) ≤ 1; decide), (by show (1 : Int) ≤ 64; decide), h1, h6, spFits T⟩]
  refine codesFrom_none _ 0 fun t L ht => ?_
  rw [List.getElem?_replicate] at ht
  split at ht
  · cases ht; rw [spGood h4]
  · cases ht
theorem spStart_ok {T tm : Nat} (h4 : tm ≤ 3) (h1 : 1 ≤ T) (h6 : T ≤ 6) {ai ar ad : Option Addr} {ci cr cap : Nat} {w : World} (hs : StaAt (spSta T) ⟨ai, ci, ar, cr⟩ w) (hl : codesAt ad (List.replicate T (spCode tm)) w) :
    Calls Tryd.prog 14 #[.agg #[.int .i64 1, .slice ai 1 ci, .slice ar T cr], .slice ad T cap] w fun e w' => e = .returned (.agg #[.int .i64 0, .int .i64 (-1)]) ∧ Below w.heap.size w w' := by
  have h := startFault_any (cap := cap) hs hl (by rw [List.length_replicate]; omega)
  rw [spFault h4 h1 h6, show (spSta T).regs.length = T from List.length_replicate, List.length_replicate] at h
  exact h
theorem spNew {T tm : Nat} (h4 : tm ≤ 3) (h1 : 1 ≤ T) (h6 : T ≤ 6) {ai ar ad : Option Addr} {ci cr cap : Nat} {w0 w : World} (h0 : Below w0.heap.size w0 w) (hs : StaAt (spSta T) ⟨ai, ci, ar, cr⟩ w) (hl : codesAt ad (List.replicate T (spCode tm)) w0) :
    Calls Tryd.prog 15 #[.agg #[.int .i64 1, .slice ai 1 ci, .slice ar T cr], .slice ad T cap] w fun e w' => ∃ p : RkPl, e = .returned (.pointer (some ⟨p.k, 0, none⟩)) ∧ Hid (RkX (List.replicate T (spCode tm)) p ((spSta T).mach T) 1 w' ∧ Below w.heap.size w w' ∧ ∀ b, p.fp T ((spSta T).mach T).mem b → w.heap.size ≤ b) := by
  have h := newMachine_any (cap := cap) h0 hs hl (show (1 : Int) ≤ 1 by decide) (show (1 : Int) ≤ 64 by decide) (by rw [List.length_replicate]; exact h1) (by rw [List.length_replicate]; exact h6) (by rw [List.length_replicate]; exact spFits T)
  rw [show (spSta T).regs.length = T from List.length_replicate, List.length_replicate] at h
  refine h.mono ?_
  rintro e w' ⟨p, he, hh⟩
  obtain ⟨g1, -, g3, g4⟩ := hh.out
  exact ⟨p, he, hide ⟨⟨g1, by rw [List.length_replicate]; exact Sta.mach_ok (spFits T) (by show (1 : Int) ≤ 64; decide) h6, spCodes h4 h1 h6, by decide⟩, g3, g4⟩⟩

end Go.Proofs.YtepgcgokolmedaaDoor

/- SpN -/
namespace Go.Proofs.YtepgcgokolmedaaDoor
open Go.RowKit Go.Extern.Stop Go.Stop Go.Extern Go.Maps Go.WideMaps Go.Sort

def EndsRel (cs : List (List Ins)) (p : RkPl) (m : Mk) (w : World) (k : Nat) (wr : World) : Prop := ∃ r v, RkStep cs p m.mem w r v (m.runO cs (numsTo k)).2 wr ∧ RkX cs (p.to r v) (m.runO cs (numsTo k)).2 (1 + k) wr
theorem EndsRel.next {cs : List (List Ins)} {p : RkPl} {m : Mk} {w : World} {k : Nat} {wr w' : World} {r r' : RmPl} {v v' : Value} (h : RkStep cs p m.mem w r v (m.runO cs (numsTo k)).2 wr) (hx : RkX cs (p.to r v) (m.runO cs (numsTo k)).2 (1 + k) wr)
    (k' : RkStep cs (p.to r v) (m.runO cs (numsTo k)).2.mem wr r' v' ((m.runO cs (numsTo k)).2.turnO cs k).2 w') (hk : k ≤ 5000) : EndsRel cs p m w (k + 1) w' := by
  unfold EndsRel
  rw [numsTo_succ, Mk.runO_snoc]
  exact ⟨r', v', h.trans k', hx.of k' (hx.ok.turnO hx.right k (by omega)) (by omega)⟩
theorem Inv.rest {T tm : Nat} {a : AS} {m : Mk} (h : Inv T tm a m) (hp : a.ps = List.replicate T (19 * tm)) : restTo (List.replicate T (spCode tm)) m T = true := by
  unfold restTo
  rw [List.all_eq_true]
  intro u hu
  rw [List.mem_range] at hu
  have hq : a.ps[u]? = some (19 * tm) := by rw [hp, List.getElem?_replicate, if_pos hu]
  have hpc := (h.pc u _ hq).1
  have tc := h.tc u _ hq
  rw [getD_rep _ _ _ _ hu, spDone, hpc, decide_eq_true (Nat.le_refl _), Bool.true_and]
  cases hb : (a.o == some u)
  · rw [hb] at tc
    have hO : Other (19 * tm % 19) (m.regs u) (m.mem.waits u) := tc
    rw [hO.ws]; rfl
  · rw [hb] at tc
    have hM : Mine (19 * tm % 19) (m.regs u) (m.mem.waits u) (m.mem.ar.words 0 1) (m.mem.ar.words 0 2) (rounds a.ps) := tc
    have := hM.at'
    omega

set_option maxRecDepth 20000 in
set_option maxHeartbeats 1000000 in
theorem ends_out (T tm : Int) (w : World) (h : ¬ (1 ≤ T ∧ T ≤ 3 ∧ 1 ≤ tm ∧ tm ≤ 2)) :
    Calls Tryd.prog 4 #[.int .i64 T, .int .i64 tm] w fun e w' => e = .returned (.bool true) ∧ Below w.heap.size w w' := by
  have HL := hide (locked_any w)
  have hc : T < 1 ∨ ¬ T < 1 ∧ (3 < T ∨ ¬ 3 < T ∧ (tm < 1 ∨ ¬ tm < 1 ∧ 2 < tm)) := by omega
  clear h
  go_enter Tryd.func4, Tryd.ntmps4
  go_wp2_with fail
  refine HL.out.mono ?_
  rintro e w1 ⟨rfl, hb⟩
  clear HL
  rcases hc with h1 | ⟨h1, h2 | ⟨h2, h3 | ⟨h3, h4⟩⟩⟩
  all_goals
    go_wp2_with fail
    go_ret
    exact ⟨rfl, hb⟩

set_option maxRecDepth 20000 in
set_option maxHeartbeats 4000000 in
theorem ends_in (T tm : Nat) (w : World) (h1 : 1 ≤ T) (h2 : T ≤ 3) (h3 : 1 ≤ tm) (h4 : tm ≤ 2) :
    Calls Tryd.prog 4 #[.int .i64 T, .int .i64 tm] w fun e w' => e = .returned (.bool true) ∧ Below w.heap.size w w' := by
  have HL := hide (locked_any w)
  have i1 : ¬ (T : Int) < 1 := by omega
  have i2 : ¬ 3 < (T : Int) := by omega
  have i3 : ¬ (tm : Int) < 1 := by omega
  have i4 : ¬ 2 < (tm : Int) := by omega
  have h43 : tm ≤ 3 := Nat.le_trans h4 (by decide)
  go_enter Tryd.func4, Tryd.ntmps4
  go_wp2_with fail
  refine HL.out.mono ?_
  rintro e w1 ⟨rfl, hb⟩
  clear HL
  have HP0 : Hid (∃ vs rv rs, Prep tm 0 0 w (w1.heap.size + 1 + 1 + 1) (w1.heap.size + 1 + 1) (w1.heap.size + 1) (.slice none 0 0) vs rv rs (((w1.alloc (.cells #[] 3)).alloc (.cells #[.slice (some ⟨w1.heap.size, 0, none⟩) 0 0] 36)).alloc (.cells #[.int .i64 1, .slice (some ⟨w1.heap.size + 1, 0, none⟩) 1 1, .slice none 0 0] 39))) := hide (Prep.first hb)
  go_wp2_with fail
  go_loopw [7, 8, 9, 10] (fun v i _ _ wr => ∃ j : Nat, j ≤ T ∧ i = .int .i64 j ∧ Hid (∃ vs rv rs, Prep tm j j w (w1.heap.size + 1 + 1 + 1) (w1.heap.size + 1 + 1) (w1.heap.size + 1) v vs rv rs wr)) (fun _ i _ _ _ => T - (intOf i).toNat)
  case atStart => exact ⟨0, Nat.zero_le _, rfl, HP0⟩
  case round =>
    clear HP0 hb
    obtain ⟨j, hj, rfl, HP⟩ := hrel
    obtain ⟨vs, rv, rs, hP⟩ := HP.out
    by_cases hlt : j < T
    · have ji : (j : Int) < T := by omega
      have HC := hide (critical_any tm h43 wr)
      have HP1 := hide hP
      clear hP HP
      go_wp2_with fail
      refine HC.out.mono ?_
      rintro e w2 ⟨u, rfl, hu, hb2⟩
      obtain ⟨au, cu, hue, -⟩ := insOwn_open hu (by rw [spCode_length]; omega)
      subst hue
      have hP2 := HP1.out.below hb2
      have HU := hide (insOwn_mono hu HP1.out.sz)
      have HNE : Hid (∀ b, (Value.slice (some au) (spCode tm).length cu).ownBlock = some b → u7.ownBlock ≠ some b ∧ rv.ownBlock ≠ some b) := hide (fun b e => by
        have h1 := (World.ownsRow.lt hu b e).1
        exact ⟨fun e2 => by have := (HP1.out.own.lt b e2).2; omega, fun e2 => by have := (HP1.out.ownr.lt b e2).2; omega⟩)
      have HPP := hide hP2
      clear hP2 hb2 HC HP1 hu
      obtain ⟨ric, hric, hrz, hrs, hrb⟩ := codesInfo
      go_wp2_with (at_builtin; refine wpList_append_own_at _ rfl _ _ 40 rfl (w1.heap.size + 1 + 1 + 1) 23 ric (.slice none 0 0) 1 24 Tryd.underlying40 hric hrz hrs hrb rfl (by decide) _ j vs rfl ?q0 ⟨w2.heap.size, 0, none⟩ 1 1 [.slice (some au) (spCode tm).length cu] rfl rfl ?q1 ?q2 ?q3 ?q4 ?q5 ?_)
      case q0 => exact (HPP.out.below ((Below.refl _ _).alloc (Nat.le_refl _) _)).own
      case q1 =>
        intro k x hk
        cases k with
        | zero => cases hk; rw [Addr.add_lit]; simp
        | succ k => simp at hk
      case q2 =>
        intro x hx
        obtain rfl : x = .slice (some au) (spCode tm).length cu := by simpa using hx
        rfl
      case q3 => unfold maxLen; omega
      case q4 => omega
      case q5 => exact (HPP.out.below ((Below.refl _ _).alloc (Nat.le_refl _) _)).sz
      intro v' w4 ho hg hnil hloc
      have HP4 := hide ((HPP.out.below ((Below.refl _ _).alloc (Nat.le_refl _) _)).code (insOwn_keep HU.out ((Below.refl _ _).alloc (Nat.le_refl _) _)) HNE.out (N := w2.heap.size + 1) (by simp) ho hg hloc)
      clear ho hg hnil hloc HPP HU HNE hric hrz hrs hrb
      have c2 := HP4.out.c2
      have fz := HP4.out.fz 2
      have sz4 := HP4.out.sz
      obtain ⟨rii, hrii, hrz, hrs, hrb⟩ := rowsInfo
      have bel2 : Below w4.heap.size w4 ((w4.alloc (.cells #[.int .i64 0, .int .i64 0, .int .i64 0, .int .i64 0, .int .i64 0, .int .i64 0, .int .i64 0, .int .i64 1] 3)).alloc (.cells #[.slice (some ⟨w4.heap.size, 0, none⟩) 8 8] 36)) := ((Below.refl _ _).alloc (Nat.le_refl _) _).alloc (by simp) _
      go_wp2_with (at_builtin; refine wpList_append_own_at _ rfl _ _ 37 rfl (w1.heap.size + 1 + 1 + 1) 36 rii (.slice none 0 0) 1 24 Tryd.underlying37 hrii hrz hrs hrb rfl (by decide) _ j rs rfl ?q0 ⟨w4.heap.size + 1, 0, none⟩ 1 1 [.slice (some ⟨w4.heap.size, 0, none⟩) 8 8] rfl rfl ?q1 ?q2 ?q3 ?q4 ?q5 ?_)
      case q0 => exact (HP4.out.below bel2).ownr
      case q1 =>
        intro k x hk
        cases k with
        | zero => cases hk; rw [Addr.add_lit]; simp
        | succ k => simp at hk
      case q2 =>
        intro x hx
        obtain rfl : x = .slice (some ⟨w4.heap.size, 0, none⟩) 8 8 := by simpa using hx
        rfl
      case q3 => unfold maxLen; omega
      case q4 => omega
      case q5 => exact (HP4.out.below bel2).sz
      intro rv' w5 ho hg hnil hloc
      have HP5 := hide ((HP4.out.below bel2).row (rowOwn_new sz4) (fun b e => by
        obtain rfl : w4.heap.size = b := Option.some.inj e
        exact ⟨fun e2 => by have := (HP4.out.own.lt _ e2).2; omega, fun e2 => by have := (HP4.out.ownr.lt _ e2).2; omega⟩) (N := w4.heap.size + 1 + 1) (by simp) ho hg hloc)
      obtain ⟨c2', fz'⟩ := (HP4.out.below bel2).box hg
      obtain ⟨ag, cg, rfl, -, -, -⟩ := ownsRow_shape ho
      clear ho hg hnil hloc HP4 hrii hrz hrs hrb c2 fz bel2
      go_wp2_with fail
      go_roundw
      case rel => exact ⟨j + 1, by omega, by go_num, hide ⟨_, _, _, HP5.out⟩⟩
      case measure => simp [intOf]; omega
    · obtain rfl : j = T := by omega
      obtain ⟨ar, cr, adc, capc, hre, hve, hsta, hcod⟩ := hP.sta (by omega)
      subst hre
      subst hve
      have c0 := hP.c0
      have c1 := hP.c1
      have c2 := hP.c2
      have hlow := hP.low
      have HSF := hide (spStart_ok (cap := capc) h43 h1 (Nat.le_trans h2 (by decide)) hsta hcod)
      have HNM := hide (fun w' (hb : Below wr.heap.size wr w') => spNew (cap := capc) h43 h1 (Nat.le_trans h2 (by decide)) hb (hsta.below hb) hcod)
      have hfl := fun w => field_fault 0 (-1) w
      clear hP HP hsta hcod
      go_wp2_with fail
      refine HSF.out.mono ?_
      rintro e w2 ⟨rfl, hb2⟩
      replace c0 := keep_cell hb2 c0
      replace c1 := keep_cell hb2 c1
      replace c2 := keep_cell hb2 c2
      have hlow2 := below_step hlow hb2
      have HNM2 := hide (HNM.out w2 hb2)
      clear HSF HNM hlow hb2
      go_wp2_with fail
      refine HNM2.out.mono ?_
      rintro e w3 ⟨p, rfl, hR⟩
      have hX := hR.out.1
      have hlow3 := below_step hlow2 hR.out.2.1
      have HFP := hide hR.out.2.2
      have hp3 := hlow2.size
      have H0 : Hid (EndsRel (List.replicate j (spCode tm)) p ((spSta j).mach j) w3 0 w3) := hide ⟨p.rp, p.mv, RkStep.refl hX.at', hX⟩
      clear hR hX HNM2 c0 c1 c2 hlow2
      go_wp2_with fail
      go_loopw [12] (fun i wr => ∃ k : Nat, k ≤ 5000 ∧ i = .int .i64 k ∧ Hid (EndsRel (List.replicate j (spCode tm)) p ((spSta j).mach j) w3 k wr)) (fun i _ => 5000 - (intOf i).toNat)
      case atStart => exact ⟨0, Nat.zero_le _, rfl, H0⟩
      case round =>
        obtain ⟨k, hk, rfl, HH⟩ := hrel
        clear H0
        obtain ⟨r, v, hk1, hx1⟩ := HH.out
        by_cases hlt : k < 5000
        · have ki : (k : Int) < 5000 := by omega
          have HT : Hid (Calls Tryd.prog 16 #[.pointer (some ⟨p.k, 0, none⟩), .int .i64 k] wr fun e w' => e = .returned (.int .i64 (((((spSta j).mach j).runO (List.replicate j (spCode tm)) (numsTo k)).2).turnO (List.replicate j (spCode tm)) k).1) ∧ ∃ r' v', RkStep (List.replicate j (spCode tm)) (p.to r v) ((((spSta j).mach j).runO (List.replicate j (spCode tm)) (numsTo k)).2).mem wr r' v' (((((spSta j).mach j).runO (List.replicate j (spCode tm)) (numsTo k)).2).turnO (List.replicate j (spCode tm)) k).2 w') := hide (rturn_any hx1 k)
          have HX := hide (fun r' v' w' k' => EndsRel.next (r' := r') (v' := v') (w' := w') hk1 hx1 k' hk)
          clear hk1 hx1 HH
          go_wp2_with fail
          refine HT.out.mono ?_
          rintro e w5 ⟨rfl, r', v', hk'⟩
          have HN := hide (HX.out r' v' w5 hk')
          clear HT HX hk'
          go_wp2_with fail
          go_roundw
          case rel => exact ⟨k + 1, by omega, by go_num, HN⟩
          case measure => simp [intOf]; omega
        · obtain rfl : k = 5000 := by omega
          have hI := (spStart_inv (T := j) (tm := tm)).run h43 (Nat.le_trans h2 (by decide)) h1 (numsTo 5000)
          have hrt := hI.rest (spEnds h3 h4 h1 h2)
          have hlow4 : Below w.heap.size w wr := hlow3.trans (hk1.turns.below hlow3.size (fun b o hb hf => by
            rw [List.length_replicate] at hf
            have := HFP.out b hf
            omega))
          have hre := rrest_any hk1.at'
          rw [List.length_replicate, hrt] at hre
          have HRE : Hid (Calls Tryd.prog 17 #[.pointer (some ⟨p.k, 0, none⟩)] wr fun e w' => e = .returned (.bool true) ∧ Below wr.heap.size wr w') := hide hre
          have hFa : wr.cell? ⟨p.k, 3, none⟩ = some (.int .i64 0) := by
            have := hk1.at'.mFaults
            rw [hI.faults] at this
            exact this
          have hE := hI.end (spRest_pc hrt)
          have hsz : 0 < (((spSta j).mach j).runO (List.replicate j (spCode tm)) (numsTo 5000)).2.mem.ar.size := by
            have := hI.has
            unfold Ar.has at this
            simp only [Bool.and_eq_true, decide_eq_true_eq] at this
            omega
          have HA := hide hk1.at'
          clear hk1 hx1 HFP hI hre hrt HH
          generalize (((spSta j).mach j).runO (List.replicate j (spCode tm)) (numsTo 5000)).2 = M at *
          go_wp2_with fail
          refine HRE.out.mono ?_
          rintro e w5 ⟨rfl, hb5⟩
          have hlow5 := below_step hlow4 hb5
          replace hFa := keep_cell hb5 hFa
          have hq := HA.out.below hb5
          have hM : w5.cell? ⟨p.k, 0, none⟩ = some (.pointer (some ⟨r.mb, 0, none⟩)) := hq.mM
          have hmem : RmAt r M.mem w5 := hq.mem
          have hC := hmem.mCells
          have hcc := hmem.ccap
          have hW := hmem.cWords 0 hsz
          have hwc := hmem.wcap 0 hsz
          have hV := hmem.words 0 2 hsz (by decide)
          rw [Nat.zero_mul] at hW
          rw [hE] at hV
          have hmul : IntKind.i64.wrap ((j : Int) * (tm : Int)) = (j : Int) * (tm : Int) := by
            have g1 : j * tm ≤ 3 * 2 := Nat.mul_le_mul h2 h4
            have g2 : ((j * tm : Nat) : Int) = (j : Int) * (tm : Int) := by push_cast; rfl
            rw [← g2, IntKind.wrap_i64]
            omega
          have se : ((0 : Nat) : Int) < M.mem.ar.size := by omega
          clear HRE HA hq hmem hlow4 hlow3 hb5 hE
          generalize M.mem.ar.size = sz at *
          go_wp2_with fail
          go_ret
          exact ⟨rfl, hlow5⟩
end Go.Proofs.YtepgcgokolmedaaDoor

/- SpO -/
namespace Go.Proofs.YtepgcgokolmedaaDoor
open Go.ChangeShapes Go.WideShapes Go.ChangeAt Go.RowKit Go.Joins Go.Deep

theorem ends_any (T tm : Int) (w : World) :
    Calls Tryd.prog 4 #[.int .i64 T, .int .i64 tm] w fun e w' => e = .returned (.bool true) ∧ Below w.heap.size w w' := by
  by_cases h : 1 ≤ T ∧ T ≤ 3 ∧ 1 ≤ tm ∧ tm ≤ 2
  · obtain ⟨h1, h2, h3, h4⟩ := h
    obtain ⟨n, rfl⟩ := Int.eq_ofNat_of_zero_le (show 0 ≤ T by omega)
    obtain ⟨k, rfl⟩ := Int.eq_ofNat_of_zero_le (show 0 ≤ tm by omega)
    exact ends_in n k w (by omega) (by omega) (by omega) (by omega)
  · exact ends_out T tm w h

theorem ends_laid : Rows.spinEndsRow.laid = laidTwo := rfl
theorem readableE2 : ∀ t ∈ [3, 3], Tryd.prog.readableRec t = true ∧ t < Tryd.prog.types.size := by
  intro t ht
  simp only [List.mem_cons, List.not_mem_nil, or_false] at ht
  rcases ht with rfl | rfl
  · exact ⟨by kernel_rfl, of_decide_eq_true (by kernel_rfl)⟩
  · exact ⟨by kernel_rfl, of_decide_eq_true (by kernel_rfl)⟩

set_option maxRecDepth 100000 in
theorem ends_lifted (os : Os) (started : os.Started) (H : Type) (enc : TypeId × Value → H) :
    ReturnsInHanded {} Tryd.checked os 4 .any (fun w args => (Rows.spinEndsSpec.pre enc Tryd.prog Tryd.f4 [] false w args ∧ laidMetH Tryd.prog Rows.spinEndsRow.laid w) ∧ sizedMet enc Tryd.prog Tryd.f4 (OpenSpec.ofChange Rows.spinEndsSpec) false w args)
      (Rows.spinEndsSpec.post enc Tryd.prog Tryd.f4 false true false false) := by
  rw [ends_laid]
  refine returnsInHanded_of_change_and (C := Tryd.checked) (X := fun w _ => laidMetH Tryd.prog laidTwo w) (fun _ _ _ hh h => h.of_heap hh) own started (by kernel_rfl) Tryd.func4
    (ChangeSpec.witness_shaped (enc := enc) (C := Tryd.checked) (os := os) (X := fun w _ => laidMetH Tryd.prog laidTwo w) false (World.doorLaid Tryd.prog 400 os) #[.int .i64 0, .int .i64 0] 8 rfl (World.shaped_of_RefB (by kernel_rfl) (by kernel_rfl)) (by kernel_rfl) (by kernel_rfl) (by kernel_rfl) (door_two os _)) ?_
  intro W base args ds gs before hval0 hW _ _ hL _
  have hval : ∀ (j : Nat) t v, Tryd.f4.params[j]? = some t → args[j]? = some v → Value.okWide Tryd.prog W .any base t v := hval0
  have hW' := hW
  obtain ⟨p, q, hA0, hV, rfl, hfz, hnd⟩ := hW
  have hA : DataW.TrodAll enc Tryd.prog W 0 (fun _ => true) true Tryd.f4.params.toList args.toList ds p := hA0
  rw [Tryd.params4] at hA hval
  have hA2 := hA
  obtain ⟨v0, v1, d0, d1, p0, p1, rfl, rfl, rfl, h0, h1⟩ := trodAll_two hA
  obtain ⟨rfl, rfl⟩ := trodVars_none hV
  obtain ⟨n0, rfl⟩ := okWide_int Tryd.underlying3 (hval 0 3 v0 rfl rfl)
  obtain ⟨n1, rfl⟩ := okWide_int Tryd.underlying3 (hval 1 3 v1 rfl rfl)
  clear hA0 hval0
  simp only [List.append_nil] at hW'
  refine (ends_any n0 n1 W).mono fun e W' ⟨he, hb⟩ => ?_
  subst he
  refine ⟨_, rfl, _, _, _, [], p0 ++ p1, [], hW', ?_, ?_, ?_, hb.frame _, fun h => by cases h⟩
  · exact trodAll_mk1 (shut_bool Tryd.underlying4 true)
  · exact trodAll_below laidOutA hb _ _ _ _ readableE2 hA2
  · rfl

theorem ends_holds : Rows.SpinEndsSaid :=
  OpenClaim.holds_of_wide 4 Tryd.f4 rfl rfl rfl rfl rfl rfl rfl ⟨rfl, rfl, rfl, rfl, rfl⟩ rfl rfl rfl rfl rfl (by kernel_rfl) Tryd.func4 (by kernel_rfl)
    (of_decide_eq_true (by kernel_rfl)) (by unfold Func.isWrapper; rw [if_neg (of_decide_eq_false (by kernel_rfl))]; exact ⟨rfl, rfl⟩)
    (fun os started H enc _ => ends_lifted os started H enc)

theorem ends_card : Rows.SpinEndsCardSaid :=
  Claim7.holds_tied_plain_at .later [] [.sentinel, .sentinel] true (true, "fe65be62115d596410600af92d01b4d154fa57679cdc25a9a1673eef678ffbc2") true
    ends_holds (fun _ h => absurd h List.not_mem_nil) (by kernel_rfl) (fun _ h => absurd h List.not_mem_nil) spinEnds_row_tie rfl ⟨rfl, rfl⟩ (by kernel_rfl) rfl
    (fun f fn hf hfn => by
      obtain rfl : f = 4 := (Option.some.inj ((show Tryd.prog.funcNamed "quiescent/quiescentlaw2.SpinEnds" = some 4 by kernel_rfl).symm.trans hf)).symm
      obtain rfl : fn = Tryd.f4 := (Option.some.inj (Tryd.func4.symm.trans hfn)).symm
      exact ⟨by kernel_rfl, fun j t ht => by
        rw [Tryd.params4] at ht
        rcases j with _ | _ | j
        · obtain rfl : t = 3 := by simpa using ht.symm
          exact (show Tryd.prog.wantsStandIn 3 = false by kernel_rfl)
        · obtain rfl : t = 3 := by simpa using ht.symm
          exact (show Tryd.prog.wantsStandIn 3 = false by kernel_rfl)
        · simp at ht⟩)
    (by kernel_rfl)
#print axioms ends_card
end Go.Proofs.YtepgcgokolmedaaDoor
