import Derived.Test.YtnnlkolhahjokaaGreatDoorB24
import Derived.Test.YtnnlkolhahjokaaGreatDoorB08
import Derived.BigQuiet
import Derived.Test.YtnnlkolhahjokaaGreatDoorB17
import Derived.Test.YtnnlkolhahjokaaGreatDoorB06
import Derived.Deep.RegionLaw

/- WkB -/
namespace Go.Proofs.YtnnlkolhahjokaaGreatDoor
open Go.RowKit Go.Extern.Stop Go.Stop Go.Extern Go.Maps Go.WideMaps Go.Sort

theorem numsAt_new2 {w : World} {l : List Int} {cs : Array Value} {t : TypeId} {ob : Obj} (h : cs.toList = ncells l) : numsAt (some ⟨w.heap.size + 1, 0, none⟩) l ((w.alloc ob).alloc (.cells cs t)) := by
  have := numsAt_new (w := w.alloc ob) (t := t) h
  rwa [World.size_alloc] at this

set_option maxRecDepth 20000 in
set_option maxHeartbeats 2000000 in
theorem lnState_any {b o : Nat} {l : List Wt} {w : World} (h : LnAt b o l w) :
    Calls Tryz.prog 101 #[.pointer (some ⟨b, o, none⟩)] w fun e w' => ∃ v, e = .returned v ∧ numsOwn w' w.heap.size v (lnNums l) ∧ Below w.heap.size w w' := by
  have hle := h.le
  have hln := h.len
  have yb := h.lt
  have HH := hide h
  have li : (l.length : Int) ≤ 8 := by omega
  clear h
  go_enter Tryz.func101, Tryz.ntmps101
  go_wp2_with fail
  go_quiet (fail)
  have B1 : Below w.heap.size w ((w.alloc (.cells #[.int .i64 l.length] 3)).drewN nq) := below_dN ((Below.refl _ _).alloc (Nat.le_refl _) _) nq
  have HO : Hid (numsOwn ((w.alloc (.cells #[.int .i64 l.length] 3)).drewN nq) w.heap.size (.slice (some ⟨w.heap.size, 0, none⟩) 1 1) [(l.length : Int)]) := hide (numsOwn_keep (numsOwn_new (l := [(l.length : Int)]) rfl (Nat.le_refl _) (show 1 ≤ 1000000 by decide)) (Below.drewN' nq))
  generalize (w.alloc (.cells #[.int .i64 l.length] 3)).drewN nq = W1 at *
  go_wp2_with fail
  go_loopw [3, 5, 20] (fun v _ i wr => ∃ j : Nat, j ≤ l.length ∧ i = .int .i64 j ∧ Hid (numsOwn wr w.heap.size v ((l.length : Int) :: (l.take j).flatMap wtNums)) ∧ Below w.heap.size w wr) (fun _ _ i _ => l.length - (intOf i).toNat)
  case atStart => exact ⟨0, Nat.zero_le _, rfl, HO, B1⟩
  case round =>
    clear HO B1
    obtain ⟨j, hj, rfl, HO, HB⟩ := hrel
    by_cases hlt : j < l.length
    · have ji : (j : Int) < l.length := by omega
      obtain ⟨x, hx⟩ : ∃ x, l[j]? = some x := ⟨_, List.getElem?_eq_getElem hlt⟩
      have hr := HH.out.below HB
      have cell : ∀ k, k < 4 → wr.cell? ⟨b, o + j * 4 + k, none⟩ = some (.int .i64 (x.nth k)) := fun k hk => by
        have := hr.row j k (by omega) hk
        rw [this]
        unfold lnCell
        rw [hx]
      have e0 : wr.cell? ⟨b, o + j * 4, none⟩ = some (.int .i64 x.c) := cell 0 (by decide)
      have e1 : wr.cell? ⟨b, o + j * 4 + 1, none⟩ = some (.int .i64 x.g) := cell 1 (by decide)
      have e2 : wr.cell? ⟨b, o + j * 4 + 2, none⟩ = some (.int .i64 x.w) := cell 2 (by decide)
      have e3 : wr.cell? ⟨b, o + j * 4 + 3, none⟩ = some (.int .i64 x.v) := cell 3 (by decide)
      have HS : Hid ((l.length : Int) :: (l.take (j + 1)).flatMap wtNums = ((l.length : Int) :: (l.take j).flatMap wtNums) ++ [x.c, x.g, x.w, x.v]) := hide (by
        rw [List.take_add_one, hx, List.flatMap_append]
        simp [wtNums])
      have hl4 : ((l.length : Int) :: (l.take j).flatMap wtNums).length ≤ 33 := by rw [List.length_cons, wts_len, List.length_take]; omega
      clear hr cell hx
      generalize ((l.length : Int) :: (l.take j).flatMap wtNums) = pre at *
      go_wp2_with (at_builtin; refine wpList_append_ints _ rfl _ _ rfl w.heap.size pre [x.c, x.g, x.w, x.v] _ _ _ rfl ?q1 rfl ?q2 ?q3 ?q4 ?_)
      case q1 => exact numsOwn_keep HO.out (((Below.refl _ _).alloc (Nat.le_refl _) _).alloc (by simp) _)
      case q2 => exact numsAt_new2 rfl
      case q3 => show pre.length + 4 ≤ 1000000; omega
      case q4 => have := HB.size; simp; omega
      intro v' w2 ho2 hb2 hs2 hgr hloc
      have HB2 : Below w.heap.size w w2 := ((HB.alloc HB.size _).alloc (by have := HB.size; simp; omega) _).trans hb2
      have HO2 : Hid (numsOwn w2 w.heap.size v' ((l.length : Int) :: (l.take (j + 1)).flatMap wtNums)) := hide (by rw [HS.out]; exact ho2)
      clear ho2 hb2 hs2 hgr hloc HO HB HS
      go_wp2
      go_roundw
      case rel => exact ⟨j + 1, by omega, by go_num, HO2, HB2⟩
      case measure => simp [intOf]; omega
    · obtain rfl : j = l.length := by omega
      have HZ : Hid (numsOwn wr w.heap.size u3 (lnNums l)) := by
        have := HO.out
        rw [List.take_length] at this
        exact this
      clear HO
      go_wp2_with fail
      go_ret
      exact ⟨_, rfl, HZ.out, HB⟩

set_option maxRecDepth 20000 in
set_option maxHeartbeats 2000000 in
theorem mmState_any {b : Nat} {s : Rm} {w : World} (h : MmAt b s w) :
    Calls Tryz.prog 90 #[.pointer (some ⟨b, 0, none⟩)] w fun e w' => ∃ v, e = .returned v ∧ numsOwn w' w.heap.size v (memNums s) ∧ Below w.heap.size w w' := by
  have HA := hide (arState_any h.ar)
  have h6 := h.few
  have hnt := h.nt
  have HH := hide h
  have la := arNums_len s.ar s.ar.size 0
  have hz := h.ar.small
  clear h
  unfold memNums
  generalize hP : arNums s.ar s.ar.size 0 = P at *
  have lp : P.length ≤ 384 := by omega
  clear hP la hz
  go_enter Tryz.func90, Tryz.ntmps90
  go_wp2_with fail
  refine HA.out.mono ?_
  rintro e w1 ⟨v, rfl, hv, hb1⟩
  have hnt1 := keep_cell hb1 hnt
  have HO := hide hv
  clear HA hnt hv
  go_wp2_with fail
  go_loopw [3, 4, 15] (fun l _ i wr => ∃ j : Nat, j ≤ s.threads ∧ i = .int .i64 j ∧ Hid (∃ pre, numsOwn wr w.heap.size l pre ∧ pre = P ++ linesNums s j ∧ pre.length ≤ 384 + 33 * j) ∧ Below w.heap.size w wr) (fun _ _ i _ => s.threads - (intOf i).toNat)
  case atStart => exact ⟨0, Nat.zero_le _, rfl, ⟨P, HO.out, (List.append_nil _).symm, by omega⟩, hb1⟩
  case round =>
    clear HO hb1 hnt1
    obtain ⟨j, hj, rfl, HO, HB⟩ := hrel
    obtain ⟨pre, ho, hp, hpl⟩ := HO.out
    by_cases hlt : j < s.threads
    · have ji : (j : Int) < s.threads := by omega
      have j6 : (j : Int) < 6 := by omega
      have hr := HH.out.below HB
      have HL := hide (lnState_any (hr.line j hlt))
      have ll : (lnNums (s.waits j)).length ≤ 33 := by
        have := (hr.line j hlt).le
        rw [lnNums_len]; omega
      have l0 : 0 < (lnNums (s.waits j)).length := by rw [lnNums_len]; omega
      have HS : Hid (pre ++ lnNums (s.waits j) = P ++ linesNums s (j + 1)) := hide (by
        rw [hp, List.append_assoc]; rfl)
      have HO1 := hide ho
      clear hr ho hp HO
      generalize lnNums (s.waits j) = LL at *
      go_wp2_with fail
      refine HL.out.mono ?_
      rintro e w2 ⟨u, rfl, hu, hb2⟩
      obtain ⟨au, cu, rfl, hua⟩ := numsOwn_open hu l0
      have HO2 := hide (numsOwn_keep HO1.out hb2)
      have HU := hide hua
      have HB2 := below_step HB hb2
      clear hu hua hb2 HL HB HO1
      go_wp2_with (at_builtin; refine wpList_append_ints _ rfl _ _ rfl w.heap.size pre LL _ _ _ rfl ?q1 rfl ?q2 ?q3 ?q4 ?_)
      case q1 => exact HO2.out
      case q2 => exact HU.out
      case q3 => omega
      case q4 => exact HB2.size
      intro v4 w4 ho4 hb4 hs4 hgr4 hloc4
      have HB4 := HB2.trans hb4
      have HZ : Hid (∃ pre, numsOwn w4 w.heap.size v4 pre ∧ pre = P ++ linesNums s (j + 1) ∧ pre.length ≤ 384 + 33 * (j + 1)) := ⟨pre ++ LL, ho4, HS.out, by rw [List.length_append]; omega⟩
      clear ho4 hb4 hs4 hgr4 hloc4 HO2 HB2 HU HS
      go_wp2
      go_roundw
      case rel => exact ⟨j + 1, by omega, by go_num, HZ, HB4⟩
      case measure => simp [intOf]; omega
    · obtain rfl : j = s.threads := by omega
      have HZ : Hid (numsOwn wr w.heap.size u3 (P ++ linesNums s s.threads)) := by rw [← hp]; exact ho
      clear HO ho hp
      go_wp2_with fail
      go_ret
      exact ⟨_, rfl, HZ.out, HB⟩

set_option maxRecDepth 20000 in
theorem mWaiting_any {b : Nat} {s : Rm} {w : World} (h : MmAt b s w) {t : Nat} (ht : t < s.threads) :
    Calls Tryz.prog 36 #[.pointer (some ⟨b, 0, none⟩), .int .i64 t] w fun e w' => e = .returned (.int .i64 (s.waits t).length) ∧ w' = w := by
  have HH := hide (has_m_yes b s t w h ht)
  have h6 := h.few
  have hl := (h.line t ht).len
  have t6 : (t : Int) < 6 := by omega
  clear h ht
  go_enter Tryz.func36, Tryz.ntmps36
  go_wp2_with fail
  refine HH.out.mono ?_
  rintro e w1 ⟨rfl, rfl⟩
  go_wp2_with fail
  go_ret
  exact ⟨rfl, rfl⟩
end Go.Proofs.YtnnlkolhahjokaaGreatDoor

/- WkC -/
namespace Go.Proofs.YtnnlkolhahjokaaGreatDoor
open Go.RowKit Go.Extern.Stop Go.Stop Go.Extern Go.Maps Go.WideMaps Go.Sort

theorem step_append_ints (w : World) {ops : Array Oper} {o : Oper} {a : Act} {K : Act → World → Prop} {Q : Exit → Act → World → Prop} {E : Prop} (hgd : o.guard = none) (s x : Operand)
    (ho : o.op = .call { callee := .builtin .append, args := #[s, x], argTypes := #[26, 26] }) (base : Nat) (l0 l : List Int) (v : Value) (n0 n : Nat) (ad : Addr) (cap : Nat)
    (hs : a.eval s = v) (hown : numsOwn w base v l0) (hx : a.eval x = .slice (some ad) n cap) (hn0 : l0.length = n0) (hn : l.length = n) (hl : numsAt (some ad) l w) (h3 : n0 + n ≤ 1000000) (hb : base ≤ w.heap.size)
    (h : ∀ g cap w', numsOwn w' base (.slice g (n0 + n) cap) (l0 ++ l) → Below base w w' → w.grownBy w' v.ownBlock → K (a.put o.dst (.slice g (n0 + n) cap)) w') :
    if Region.wanted o (yielded ops a.tmps) = true then Oper.wp Tryz.prog o a w K Q else E := by
  obtain ⟨ri, hri, hrz, hrs, hrb⟩ := wkInt
  subst hn0
  subst hn
  refine step_append_at w hgd s x 26 ho base 3 ri (.int .i64 0) 1 8 Tryz.underlying26 hri hrz hrs hrb rfl (by decide) v l0.length (ncells l0) hs hown ad l.length cap (ncells l) hx (by unfold ncells; rw [List.length_map, Nat.mul_one]) (fun j u hj => ?_) (fun u hu => ?_) (by unfold maxLen; omega) (by omega) hb (fun g cap' w' h2 hg _ => ?_)
  · unfold ncells at hj
    rw [List.getElem?_map] at hj
    cases hxj : l[j]? with
    | none => rw [hxj] at hj; cases hj
    | some y =>
      rw [hxj] at hj; cases hj
      obtain ⟨_, _, e, c⟩ := hl j y hxj
      cases e
      rw [Addr.add_lit]; exact c
  · obtain ⟨y, _, rfl⟩ := List.mem_map.1 hu; rfl
  · refine h g cap' w' ?_ ((Below.refl base w).grown hg hb (fun k hk => (hown.lt k hk).1)) hg
    unfold numsOwn
    rw [List.length_append, ncells_append]
    exact h2

theorem numsAt_kept {w w' : World} {b : Nat} {l : List Int} {ob : Option Nat} (h : numsAt (some ⟨b, 0, none⟩) l w) (hg : w.grownBy w' ob) (hne : some b ≠ ob) : numsAt (some ⟨b, 0, none⟩) l w' := fun i x hx => by
  obtain ⟨b', off, e, hc⟩ := h i x hx
  cases e
  exact ⟨b, 0, rfl, hg.cell hc hne⟩

set_option maxRecDepth 20000 in
set_option maxHeartbeats 2000000 in
theorem mkState_any {a : Nat → Addr} {cs : List (List Ins)} {p : MkPl} {m : Mk} {w : World} (h : MkAt a cs p m w) :
    Calls Tryz.prog 76 #[.pointer (some ⟨p.b, 0, none⟩)] w fun e w' => ∃ v, e = .returned v ∧ numsOwn w' w.heap.size v (mkNums cs.length m) ∧ Below w.heap.size w w' := by
  have HM := hide (mmState_any h.mem)
  have h6 := h.few
  have HH := hide h
  have lm : (memNums m.mem).length ≤ 384 + 33 * 6 := by
    have la := arNums_len m.mem.ar m.mem.ar.size 0
    have hz := h.mem.ar.small
    have h7 := h.mem.few
    have hl : ∀ k, k ≤ m.mem.threads → (linesNums m.mem k).length ≤ 33 * k := by
      intro k
      induction k with
      | zero => intro _; exact Nat.le_refl _
      | succ k ih =>
        intro hk
        have := ih (by omega)
        have := (h.mem.line k (by omega)).le
        have e : (linesNums m.mem (k + 1)).length = (linesNums m.mem k).length + (lnNums (m.mem.waits k)).length := List.length_append
        rw [e, lnNums_len]; omega
    have := hl m.mem.threads (Nat.le_refl _)
    unfold memNums
    rw [List.length_append]; omega
  have c6 : (cs.length : Int) ≤ 6 := by omega
  unfold mkNums
  clear h
  generalize memNums m.mem = P at *
  go_enter Tryz.func76, Tryz.ntmps76
  go_wp2_with fail
  refine HM.out.mono ?_
  rintro e w1 ⟨v, rfl, hv, hb1⟩
  have hpr := (HH.out.below hb1).prog
  have HO := hide hv
  clear HM hv
  go_wp2_with fail
  go_quiet (fail)
  have B1 := below_dN hb1 nq
  have HO1 := hide (numsOwn_keep HO.out (Below.drewN' nq))
  clear HO hb1 hpr
  generalize w1.drewN nq = W1 at *
  go_wp2_with fail
  go_loopw [3, 5, 22] (fun l _ i wr => ∃ j : Nat, j ≤ cs.length ∧ i = .int .i64 j ∧ Hid (∃ pre, numsOwn wr w.heap.size l pre ∧ pre = P ++ thrsNums m j ∧ pre.length ≤ 600 + 9 * j) ∧ Below w.heap.size w wr) (fun _ _ i _ => cs.length - (intOf i).toNat)
  case atStart => exact ⟨0, Nat.zero_le _, rfl, ⟨P, HO1.out, (List.append_nil _).symm, by omega⟩, B1⟩
  case round =>
    clear HO1 B1
    obtain ⟨j, hj, rfl, HO, HB⟩ := hrel
    obtain ⟨pre, ho, hp, hpl⟩ := HO.out
    by_cases hlt : j < cs.length
    · have ji : (j : Int) < cs.length := by omega
      have hr := HH.out.below HB
      have r0 := hr.reg j 0 (by omega) (by decide)
      have r1 := hr.reg j 1 (by omega) (by decide)
      have r2 := hr.reg j 2 (by omega) (by decide)
      have r3 := hr.reg j 3 (by omega) (by decide)
      have r4 := hr.reg j 4 (by omega) (by decide)
      have r5 := hr.reg j 5 (by omega) (by decide)
      have r6 := hr.reg j 6 (by omega) (by decide)
      have r7 := hr.reg j 7 (by omega) (by decide)
      have r8 := hr.pc j (by omega)
      rw [Nat.add_zero] at r0
      have yb := hr.lt
      have HS : Hid ((pre ++ [m.regs j 0, m.regs j 1, m.regs j 2, m.regs j 3, m.regs j 4, m.regs j 5, m.regs j 6, m.regs j 7]) ++ [(m.pc j : Int)] = P ++ thrsNums m (j + 1)) := hide (by
        rw [hp]
        show _ = P ++ (thrsNums m j ++ thrNums m j)
        unfold thrNums
        simp only [List.append_assoc])
      have HO1 := hide ho
      clear hr ho hp HO
      obtain ⟨R8, hR8⟩ : ∃ R8, R8 = [m.regs j 0, m.regs j 1, m.regs j 2, m.regs j 3, m.regs j 4, m.regs j 5, m.regs j 6, m.regs j 7] := ⟨_, rfl⟩
      have hR8l : R8.length = 8 := by rw [hR8]; rfl
      have HR : Hid (numsAt (some ⟨wr.heap.size, 0, none⟩) R8 (wr.alloc (.cells #[.int .i64 (m.regs j 0), .int .i64 (m.regs j 1), .int .i64 (m.regs j 2), .int .i64 (m.regs j 3), .int .i64 (m.regs j 4), .int .i64 (m.regs j 5), .int .i64 (m.regs j 6), .int .i64 (m.regs j 7), .int .i64 (m.pc j)] 76))) := hide (fun i x hx => by
        refine ⟨wr.heap.size, 0, rfl, ?_⟩
        rw [World.cell?_alloc_new, Nat.zero_add]
        rw [hR8] at hx
        match i, hx with
        | 0, hx => cases hx; rfl
        | 1, hx => cases hx; rfl
        | 2, hx => cases hx; rfl
        | 3, hx => cases hx; rfl
        | 4, hx => cases hx; rfl
        | 5, hx => cases hx; rfl
        | 6, hx => cases hx; rfl
        | 7, hx => cases hx; rfl)
      rw [← hR8] at HS
      go_wp2_with fail
      have c8 : (wr.alloc (.cells #[.int .i64 (m.regs j 0), .int .i64 (m.regs j 1), .int .i64 (m.regs j 2), .int .i64 (m.regs j 3), .int .i64 (m.regs j 4), .int .i64 (m.regs j 5), .int .i64 (m.regs j 6), .int .i64 (m.regs j 7), .int .i64 (m.pc j)] 76)).cell? ⟨wr.heap.size, 8, none⟩ = some (.int .i64 (m.pc j)) := by rw [World.cell?_alloc_new]; rfl
      have HN := hide (numsOwn_keep HO1.out ((Below.refl _ wr).alloc (Nat.le_refl _) (.cells #[.int .i64 (m.regs j 0), .int .i64 (m.regs j 1), .int .i64 (m.regs j 2), .int .i64 (m.regs j 3), .int .i64 (m.regs j 4), .int .i64 (m.regs j 5), .int .i64 (m.regs j 6), .int .i64 (m.regs j 7), .int .i64 (m.pc j)] 76)))
      have B2 : Below w.heap.size w (wr.alloc (.cells #[.int .i64 (m.regs j 0), .int .i64 (m.regs j 1), .int .i64 (m.regs j 2), .int .i64 (m.regs j 3), .int .i64 (m.regs j 4), .int .i64 (m.regs j 5), .int .i64 (m.regs j 6), .int .i64 (m.regs j 7), .int .i64 (m.pc j)] 76)) := HB.alloc HB.size _
      have sB := World.block_lt_of_cell? _ _ c8
      have hb2 := B2.size
      have hne : some wr.heap.size ≠ u3.ownBlock := fun e => by have := (World.ownsRow.lt HO1.out _ e.symm).2; omega
      have hne2 : some (wr.alloc (.cells #[.int .i64 (m.regs j 0), .int .i64 (m.regs j 1), .int .i64 (m.regs j 2), .int .i64 (m.regs j 3), .int .i64 (m.regs j 4), .int .i64 (m.regs j 5), .int .i64 (m.regs j 6), .int .i64 (m.regs j 7), .int .i64 (m.pc j)] 76)).heap.size ≠ u3.ownBlock := fun e => by
        rw [World.size_alloc] at e
        have := (World.ownsRow.lt HO1.out _ e.symm).2
        omega
      clear hR8 HB HO1 r0 r1 r2 r3 r4 r5 r6 r7 r8 yb
      generalize (wr.alloc (.cells #[.int .i64 (m.regs j 0), .int .i64 (m.regs j 1), .int .i64 (m.regs j 2), .int .i64 (m.regs j 3), .int .i64 (m.regs j 4), .int .i64 (m.regs j 5), .int .i64 (m.regs j 6), .int .i64 (m.regs j 7), .int .i64 (m.pc j)] 76)) = W2 at *
      generalize wr.heap.size = bx at *
      have hn3 : pre.length + 8 ≤ 1000000 := by omega
      have hn4 : pre.length + 8 + 1 ≤ 1000000 := by omega
      have HNp : Hid (numsOwn (W2.alloc (.cells #[.int .i64 (m.pc j)] 3)) w.heap.size u3 pre) := hide (numsOwn_keep HN.out ((Below.refl _ W2).alloc (Nat.le_refl _) _))
      have HRp : Hid (numsAt (some ⟨bx, 0, none⟩) R8 (W2.alloc (.cells #[.int .i64 (m.pc j)] 3))) := hide (HR.out.below ((Below.refl _ W2).alloc (Nat.le_refl _) _))
      have HPp : Hid (numsAt (some ⟨W2.heap.size, 0, none⟩) [(m.pc j : Int)] (W2.alloc (.cells #[.int .i64 (m.pc j)] 3))) := hide (numsAt_new rfl)
      have BBp : Hid (Below w.heap.size w (W2.alloc (.cells #[.int .i64 (m.pc j)] 3))) := hide (B2.alloc hb2 _)
      have BB2 := hide B2
      go_region_law
        (first
          | (refine step_append_ints _ (by rfl) _ _ (by rfl) w.heap.size pre R8 u3 pre.length 8 ⟨bx, 0, none⟩ 8 (by rfl) (by exact HN.out) (by rfl) rfl hR8l (by exact HR.out) hn3 (by exact BB2.out.size) ?_
             intro g6 cap6 w6 ho6 hb6 hg6
             have c86 : w6.cell? ⟨bx, 8, none⟩ = some (.int .i64 (m.pc j)) := hg6.cell c8 hne
             have B6 : Hid (Below w.heap.size w w6) := hide (by refine Below.trans ?_ hb6; exact Below.mk BB2.out.os BB2.out.tape BB2.out.output BB2.out.size BB2.out.block))
          | (refine step_append_ints _ (by rfl) _ _ (by rfl) w.heap.size pre R8 u3 pre.length 8 ⟨bx, 0, none⟩ 8 (by rfl) (by exact HNp.out) (by rfl) rfl hR8l (by exact HRp.out) hn3 (by exact BBp.out.size) ?_
             intro g6 cap6 w6 ho6 hb6 hg6
             have pl6 : Hid (numsAt (some ⟨W2.heap.size, 0, none⟩) [(m.pc j : Int)] w6) := hide (numsAt_kept (by exact HPp.out) hg6 hne2)
             have B6 : Hid (Below w.heap.size w w6) := hide (by refine Below.trans ?_ hb6; exact Below.mk BBp.out.os BBp.out.tape BBp.out.output BBp.out.size BBp.out.block))
          | (refine step_append_ints _ (by rfl) _ _ (by rfl) w.heap.size (pre ++ R8) [(m.pc j : Int)] (.slice g6 (pre.length + 8) cap6) (pre.length + 8) 1 ⟨_, 0, none⟩ 1 (by rfl) (by exact ho6) (by rfl) (by rw [List.length_append, hR8l]) rfl (by exact pl6.out) hn4 (by exact B6.out.size) ?_
             intro g7 cap7 w7 ho7 hb7 hg7
             have B7 : Hid (Below w.heap.size w w7) := hide (by refine Below.trans ?_ hb7; exact Below.mk B6.out.os B6.out.tape B6.out.output B6.out.size B6.out.block))
          | (refine step_append_ints _ (by rfl) _ _ (by rfl) w.heap.size (pre ++ R8) [(m.pc j : Int)] (.slice g6 (pre.length + 8) cap6) (pre.length + 8) 1 ⟨_, 0, none⟩ 1 (by rfl) (by exact numsOwn_keep ho6 ((Below.refl _ w6).alloc (Nat.le_refl _) (.cells #[.int .i64 (m.pc j)] 3))) (by rfl) (by rw [List.length_append, hR8l]) rfl (by exact numsAt_new (w := w6) (cs := #[.int .i64 (m.pc j)]) (t := 3) rfl) hn4 (by exact (B6.out.alloc B6.out.size (.cells #[.int .i64 (m.pc j)] 3)).size) ?_
             intro g7 cap7 w7 ho7 hb7 hg7
             have B7 : Hid (Below w.heap.size w w7) := hide (by refine Below.trans ?_ hb7; exact Below.mk B6.out.os B6.out.tape B6.out.output (B6.out.alloc B6.out.size (.cells #[.int .i64 (m.pc j)] 3)).size (B6.out.alloc B6.out.size (.cells #[.int .i64 (m.pc j)] 3)).block))
          | fail "no law")
      all_goals
        obtain ⟨vz, hvz⟩ : ∃ vz, vz = Value.slice g7 (pre.length + 8 + 1) cap7 := ⟨_, rfl⟩
        have HZ : Hid (∃ pre, numsOwn w7 w.heap.size vz pre ∧ pre = P ++ thrsNums m (j + 1) ∧ pre.length ≤ 600 + 9 * (j + 1)) := ⟨_, by rw [hvz]; exact ho7, HS.out, by rw [List.length_append, List.length_append, hR8l]; show pre.length + 8 + 1 ≤ _; omega⟩
        rw [hvz] at HZ
        clear hvz
        clear ho7 hb7 hg7 ho6 hb6 hg6
        go_wp2_with fail
        go_roundw
        case rel => exact ⟨j + 1, by omega, by go_num, HZ, B7.out⟩
        case measure => simp [intOf]; omega
    · obtain rfl : j = cs.length := by omega
      have HZ : Hid (numsOwn wr w.heap.size u3 (P ++ thrsNums m cs.length)) := by rw [← hp]; exact ho
      clear HO ho hp
      go_wp2_with fail
      go_ret
      exact ⟨_, rfl, HZ.out, HB⟩
end Go.Proofs.YtnnlkolhahjokaaGreatDoor

/- WkQ -/
namespace Go.Proofs.YtnnlkolhahjokaaGreatDoor
open Go.RowKit

def vb (n : Nat) : List UInt8 := if n < 128 then [UInt8.ofNat n] else UInt8.ofNat (128 + n % 128) :: vb (n / 128)
termination_by n
decreasing_by omega
theorem vb_small {n : Nat} (h : n < 128) : vb n = [UInt8.ofNat n] := by unfold vb; rw [if_pos h]
theorem vb_great {n : Nat} (h : ¬ n < 128) : vb n = UInt8.ofNat (128 + n % 128) :: vb (n / 128) := by rw [vb, if_neg h]
theorem u8_nat {n : Nat} (h : n < 256) : (UInt8.ofNat n).toNat = n := by simp; omega
theorem vb_ne (n : Nat) : vb n ≠ [] := by
  by_cases h : n < 128
  · rw [vb_small h]; simp
  · rw [vb_great h]; simp
theorem vb_len : ∀ (k n : Nat), n < 128 ^ k → 0 < k → (vb n).length ≤ k
  | 0, _, _, h => absurd h (by omega)
  | k + 1, n, h, _ => by
    by_cases h1 : n < 128
    · rw [vb_small h1]; simp
    · rw [vb_great h1, List.length_cons]
      have h2 : n / 128 < 128 ^ k := by
        rw [Nat.div_lt_iff_lt_mul (by decide)]
        rw [Nat.pow_succ] at h; exact h
      by_cases hk : 0 < k
      · have := vb_len k (n / 128) h2 hk
        omega
      · have : k = 0 := by omega
        subst this
        simp at h
        omega
theorem vb_inj : ∀ (n m : Nat) (r r' : List UInt8), vb n ++ r = vb m ++ r' → n = m ∧ r = r' := by
  intro n
  induction n using Nat.strongRecOn with
  | _ n ih =>
    intro m r r' h
    by_cases h1 : n < 128
    · by_cases h2 : m < 128
      · rw [vb_small h1, vb_small h2] at h
        have e := (List.cons.inj h).1
        have := congrArg UInt8.toNat e
        rw [u8_nat (by omega), u8_nat (by omega)] at this
        exact ⟨this, (List.cons.inj h).2⟩
      · rw [vb_small h1, vb_great h2] at h
        have e := (List.cons.inj h).1
        have := congrArg UInt8.toNat e
        rw [u8_nat (by omega), u8_nat (by omega)] at this
        omega
    · by_cases h2 : m < 128
      · rw [vb_great h1, vb_small h2] at h
        have e := (List.cons.inj h).1
        have := congrArg UInt8.toNat e
        rw [u8_nat (by omega), u8_nat (by omega)] at this
        omega
      · rw [vb_great h1, vb_great h2] at h
        have e := (List.cons.inj h).1
        have := congrArg UInt8.toNat e
        rw [u8_nat (by omega), u8_nat (by omega)] at this
        obtain ⟨q1, q2⟩ := ih (n / 128) (by omega) (m / 128) r r' (List.cons.inj h).2
        exact ⟨by omega, q2⟩

def vbs (l : List Int) : List UInt8 := l.flatMap fun x => vb x.toNat
theorem vbs_snoc (l : List Int) (x : Int) : vbs (l ++ [x]) = vbs l ++ vb x.toNat := by simp [vbs]
theorem vbs_inj : ∀ (l l' : List Int), (∀ x ∈ l, 0 ≤ x) → (∀ x ∈ l', 0 ≤ x) → vbs l = vbs l' → l = l'
  | [], [], _, _, _ => rfl
  | [], y :: l', _, _, h => by
    have : vb y.toNat ++ vbs l' = [] := h.symm
    exact absurd (List.append_eq_nil_iff.1 this).1 (vb_ne _)
  | x :: l, [], _, _, h => by
    have : vb x.toNat ++ vbs l = [] := h
    exact absurd (List.append_eq_nil_iff.1 this).1 (vb_ne _)
  | x :: l, y :: l', h1, h2, h => by
    obtain ⟨e1, e2⟩ := vb_inj x.toNat y.toNat (vbs l) (vbs l') h
    have := h1 x List.mem_cons_self
    have := h2 y List.mem_cons_self
    rw [vbs_inj l l' (fun z hz => h1 z (List.mem_cons_of_mem _ hz)) (fun z hz => h2 z (List.mem_cons_of_mem _ hz)) e2]
    rw [show x = y by omega]
def keyOf (n : Nat) (m : Mk) : ByteArray := ⟨(vbs (mkNums n m)).toArray⟩
theorem keyOf_inj {n : Nat} {m m' : Mk} (h1 : ∀ x ∈ mkNums n m, 0 ≤ x) (h2 : ∀ x ∈ mkNums n m', 0 ≤ x) (h : keyOf n m = keyOf n m') : mkNums n m = mkNums n m' := by
  refine vbs_inj _ _ h1 h2 ?_
  have := congrArg (fun b : ByteArray => b.data.toList) h
  simpa [keyOf] using this
theorem mkNums_range {n K : Nat} {m : Mk} (h : MkOk n K m) (hw : ∀ c k, 0 ≤ m.mem.ar.words c k ∧ m.mem.ar.words c k < 4294967296) (hg : ∀ c, m.mem.ar.given c < 4611686018427387904) (hn : ∀ t, t < n → ∀ x ∈ m.mem.waits t, (0 ≤ x.c ∧ x.c < 4611686018427387904) ∧ (0 ≤ x.g ∧ x.g < 4611686018427387904) ∧ (0 ≤ x.w ∧ x.w < 4611686018427387904) ∧ (0 ≤ x.v ∧ x.v < 4611686018427387904)) : ∀ x ∈ mkNums n m, 0 ≤ x ∧ x < 4611686018427387904 := by
  have har : ∀ (k c : Nat), ∀ x ∈ arNums m.mem.ar k c, 0 ≤ x ∧ x < 4611686018427387904 := by
    intro k
    induction k with
    | zero => intro c x hx; cases hx
    | succ k ih =>
      intro c x hx
      unfold arNums at hx
      rcases List.mem_cons.1 hx with rfl | hx
      · have := hg c; exact ⟨by omega, by omega⟩
      · split at hx
        · cases hx
        · rcases List.mem_append.1 hx with hx | hx
          · unfold wordNums at hx
            split at hx
            · simp at hx
              rcases hx with rfl | rfl | rfl | rfl | rfl
              · decide
              · have := hw c 0; omega
              · have := hw c 1; omega
              · have := hw c 2; omega
              · have := hw c 3; omega
            · simp at hx; subst hx; decide
          · exact ih (c + 1) x hx
  have hln : ∀ k, k ≤ n → ∀ x ∈ linesNums m.mem k, 0 ≤ x ∧ x < 4611686018427387904 := by
    intro k
    induction k with
    | zero => intro _ x hx; cases hx
    | succ k ih =>
      intro hk x hx
      rcases List.mem_append.1 (show x ∈ linesNums m.mem k ++ lnNums (m.mem.waits k) from hx) with hx | hx
      · exact ih (by omega) x hx
      · unfold lnNums at hx
        rcases List.mem_cons.1 hx with rfl | hx
        · have := h.mem.few k (by rw [h.thr]; omega); exact ⟨by omega, by omega⟩
        · obtain ⟨y, hy, hx⟩ := List.mem_flatMap.1 hx
          have := hn k (by omega) y hy
          simp [wtNums] at hx
          rcases hx with rfl | rfl | rfl | rfl <;> omega
  have hth : ∀ k, ∀ x ∈ thrsNums m k, 0 ≤ x ∧ x < 4611686018427387904 := by
    intro k
    induction k with
    | zero => intro x hx; cases hx
    | succ k ih =>
      intro x hx
      rcases List.mem_append.1 (show x ∈ thrsNums m k ++ thrNums m k from hx) with hx | hx
      · exact ih x hx
      · have hr : ∀ r, 0 ≤ m.regs k r ∧ m.regs k r < 4294967296 := fun r => h.regs k r
        have hp := h.pcs k
        simp [thrNums] at hx
        rcases hx with rfl | rfl | rfl | rfl | rfl | rfl | rfl | rfl | rfl
        · have := hr 0; omega
        · have := hr 1; omega
        · have := hr 2; omega
        · have := hr 3; omega
        · have := hr 4; omega
        · have := hr 5; omega
        · have := hr 6; omega
        · have := hr 7; omega
        · omega
  intro x hx
  unfold mkNums memNums at hx
  rcases List.mem_append.1 hx with hx | hx
  · rcases List.mem_append.1 hx with hx | hx
    · exact har _ _ x hx
    · exact hln _ (by rw [h.thr]; exact Nat.le_refl _) x hx
  · exact hth n x hx
end Go.Proofs.YtnnlkolhahjokaaGreatDoor
