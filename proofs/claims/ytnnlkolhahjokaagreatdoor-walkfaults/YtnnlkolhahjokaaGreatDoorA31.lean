import Derived.Test.YtnnlkolhahjokaaGreatDoorA30
import Derived.Test.YtnnlkolhahjokaaGreatDoorA18
import Derived.Test.YtnnlkolhahjokaaGreatDoorA06
import Derived.Deep.RegionLaw

/- WkC -/
namespace Go.Proofs.YtnnlkolhahjokaaGreatDoor
open Go.RowKit Go.Extern.Stop Go.Stop Go.Extern Go.Maps Go.WideMaps Go.Sort

theorem step_append_ints (w : World) {ops : Array Oper} {o : Oper} {a : Act} {K : Act → World → Prop} {Q : Exit → Act → World → Prop} {E : Prop} (hgd : o.guard = none) (s x : Operand)
    (ho : o.op = .call { callee := .builtin .append, args := #[s, x], argTypes := #[26, 26] }) (base : Nat) (l0 l : List Int) (v : Value) (n0 n : Nat) (ad : Addr) (cap : Nat)
    (hs : a.eval s = v) (hown : numsOwn w base v l0) (hx : a.eval x = .slice (some ad) n cap) (hn0 : l0.length = n0) (hn : l.length = n) (hl : numsAt (some ad) l w) (h3 : n0 + n ≤ 1000000) (hb : base ≤ w.heap.size)
    (h : ∀ g cap w', numsOwn w' base (.slice g (n0 + n) cap) (l0 ++ l) → Below base w w' → w.grownBy w' v.ownBlock → K (a.put o.dst (.slice g (n0 + n) cap)) w') :
    if Region.wanted o (yielded ops a.tmps) = true then Oper.wp Tryz.prog o a w K Q else E := by
  obtain ⟨ri, hri, hrz, hrs, hrb⟩ := wkInt
  subst hn0
  subst hn
  refine step_append_at w hgd s x 26 ho base 3 ri (.int .i64 0) 1 8 Tryz.underlying26 hri hrz hrs hrb rfl (by decide) v l0.length (ncells l0) hs hown ad l.length cap (ncells l) hx (by unfold ncells; rw [List.length_map, Nat.mul_one]) (fun j u hj => ?_) (fun u hu => ?_) (by unfold maxLen; omega) (by omega) hb (fun g cap' w' h2 hg _ => ?_)
  · unfold ncells at hj
    rw [List.getElem?_map] at hj
    cases hxj : l[j]? with
    | none => rw [hxj] at hj; cases hj
    | some y =>
      rw [hxj] at hj; cases hj
      obtain ⟨_, _, e, c⟩ := hl j y hxj
      cases e
      rw [Addr.add_lit]; exact c
  · obtain ⟨y, _, rfl⟩ := List.mem_map.1 hu; rfl
  · refine h g cap' w' ?_ ((Below.refl base w).grown hg hb (fun k hk => (hown.lt k hk).1)) hg
    unfold numsOwn
    rw [List.length_append, ncells_append]
    exact h2

theorem numsAt_kept {w w' : World} {b : Nat} {l : List Int} {ob : Option Nat} (h : numsAt (some ⟨b, 0, none⟩) l w) (hg : w.grownBy w' ob) (hne : some b ≠ ob) : numsAt (some ⟨b, 0, none⟩) l w' := fun i x hx => by
  obtain ⟨b', off, e, hc⟩ := h i x hx
  cases e
  exact ⟨b, 0, rfl, hg.cell hc hne⟩

set_option maxRecDepth 20000 in
set_option maxHeartbeats 2000000 in
theorem mkState_any {a : Nat → Addr} {cs : List (List Ins)} {p : MkPl} {m : Mk} {w : World} (h : MkAt a cs p m w) :
    Calls Tryz.prog 76 #[.pointer (some ⟨p.b, 0, none⟩)] w fun e w' => ∃ v, e = .returned v ∧ numsOwn w' w.heap.size v (mkNums cs.length m) ∧ Below w.heap.size w w' := by
  have HM := hide (mmState_any h.mem)
  have h6 := h.few
  have HH := hide h
  have lm : (memNums m.mem).length ≤ 384 + 33 * 6 := by
    have la := arNums_len m.mem.ar m.mem.ar.size 0
    have hz := h.mem.ar.small
    have h7 := h.mem.few
    have hl : ∀ k, k ≤ m.mem.threads → (linesNums m.mem k).length ≤ 33 * k := by
      intro k
      induction k with
      | zero => intro _; exact Nat.le_refl _
      | succ k ih =>
        intro hk
        have := ih (by omega)
        have := (h.mem.line k (by omega)).le
        have e : (linesNums m.mem (k + 1)).length = (linesNums m.mem k).length + (lnNums (m.mem.waits k)).length := List.length_append
        rw [e, lnNums_len]; omega
    have := hl m.mem.threads (Nat.le_refl _)
    unfold memNums
    rw [List.length_append]; omega
  have c6 : (cs.length : Int) ≤ 6 := by omega
  unfold mkNums
  clear h
  generalize memNums m.mem = P at *
  go_enter Tryz.func76, Tryz.ntmps76
  go_wp2_with fail
  refine HM.out.mono ?_
  rintro e w1 ⟨v, rfl, hv, hb1⟩
  have hpr := (HH.out.below hb1).prog
  have HO := hide hv
  clear HM hv
  go_wp2_with fail
  go_quiet (fail)
  have B1 := below_dN hb1 nq
  have HO1 := hide (numsOwn_keep HO.out (Below.drewN' nq))
  clear HO hb1 hpr
  generalize w1.drewN nq = W1 at *
  go_wp2_with fail
  go_loopw [3, 5, 22] (fun l _ i wr => ∃ j : Nat, j ≤ cs.length ∧ i = .int .i64 j ∧ Hid (∃ pre, numsOwn wr w.heap.size l pre ∧ pre = P ++ thrsNums m j ∧ pre.length ≤ 600 + 9 * j) ∧ Below w.heap.size w wr) (fun _ _ i _ => cs.length - (intOf i).toNat)
  case atStart => exact ⟨0, Nat.zero_le _, rfl, ⟨P, HO1.out, (List.append_nil _).symm, by omega⟩, B1⟩
  case round =>
    clear HO1 B1
    obtain ⟨j, hj, rfl, HO, HB⟩ := hrel
    obtain ⟨pre, ho, hp, hpl⟩ := HO.out
    by_cases hlt : j < cs.length
    · have ji : (j : Int) < cs.length := by omega
      have hr := HH.out.below HB
      have r0 := hr.reg j 0 (by omega) (by decide)
      have r1 := hr.reg j 1 (by omega) (by decide)
      have r2 := hr.reg j 2 (by omega) (by decide)
      have r3 := hr.reg j 3 (by omega) (by decide)
      have r4 := hr.reg j 4 (by omega) (by decide)
      have r5 := hr.reg j 5 (by omega) (by decide)
      have r6 := hr.reg j 6 (by omega) (by decide)
      have r7 := hr.reg j 7 (by omega) (by decide)
      have r8 := hr.pc j (by omega)
      rw [Nat.add_zero] at r0
      have yb := hr.lt
      have HS : Hid ((pre ++ [m.regs j 0, m.regs j 1, m.regs j 2, m.regs j 3, m.regs j 4, m.regs j 5, m.regs j 6, m.regs j 7]) ++ [(m.pc j : Int)] = P ++ thrsNums m (j + 1)) := hide (by
        rw [hp]
        show _ = P ++ (thrsNums m j ++ thrNums m j)
        unfold thrNums
        simp only [List.append_assoc])
      have HO1 := hide ho
      clear hr ho hp HO
      obtain ⟨R8, hR8⟩ : ∃ R8, R8 = [m.regs j 0, m.regs j 1, m.regs j 2, m.regs j 3, m.regs j 4, m.regs j 5, m.regs j 6, m.regs j 7] := ⟨_, rfl⟩
      have hR8l : R8.length = 8 := by rw [hR8]; rfl
      have HR : Hid (numsAt (some ⟨wr.heap.size, 0, none⟩) R8 (wr.alloc (.cells #[.int .i64 (m.regs j 0), .int .i64 (m.regs j 1), .int .i64 (m.regs j 2), .int .i64 (m.regs j 3), .int .i64 (m.regs j 4), .int .i64 (m.regs j 5), .int .i64 (m.regs j 6), .int .i64 (m.regs j 7), .int .i64 (m.pc j)] 76))) := hide (fun i x hx => by
        refine ⟨wr.heap.size, 0, rfl, ?_⟩
        rw [World.cell?_alloc_new, Nat.zero_add]
        rw [hR8] at hx
        match i, hx with
        | 0, hx => cases hx; rfl
        | 1, hx => cases hx; rfl
        | 2, hx => cases hx; rfl
        | 3, hx => cases hx; rfl
        | 4, hx => cases hx; rfl
        | 5, hx => cases hx; rfl
        | 6, hx => cases hx; rfl
        | 7, hx => cases hx; rfl)
      rw [← hR8] at HS
      go_wp2_with fail
      have c8 : (wr.alloc (.cells #[.int .i64 (m.regs j 0), .int .i64 (m.regs j 1), .int .i64 (m.regs j 2), .int .i64 (m.regs j 3), .int .i64 (m.regs j 4), .int .i64 (m.regs j 5), .int .i64 (m.regs j 6), .int .i64 (m.regs j 7), .int .i64 (m.pc j)] 76)).cell? ⟨wr.heap.size, 8, none⟩ = some (.int .i64 (m.pc j)) := by rw [World.cell?_alloc_new]; rfl
      have HN := hide (numsOwn_keep HO1.out ((Below.refl _ wr).alloc (Nat.le_refl _) (.cells #[.int .i64 (m.regs j 0), .int .i64 (m.regs j 1), .int .i64 (m.regs j 2), .int .i64 (m.regs j 3), .int .i64 (m.regs j 4), .int .i64 (m.regs j 5), .int .i64 (m.regs j 6), .int .i64 (m.regs j 7), .int .i64 (m.pc j)] 76)))
      have B2 : Below w.heap.size w (wr.alloc (.cells #[.int .i64 (m.regs j 0), .int .i64 (m.regs j 1), .int .i64 (m.regs j 2), .int .i64 (m.regs j 3), .int .i64 (m.regs j 4), .int .i64 (m.regs j 5), .int .i64 (m.regs j 6), .int .i64 (m.regs j 7), .int .i64 (m.pc j)] 76)) := HB.alloc HB.size _
      have sB := World.block_lt_of_cell? _ _ c8
      have hb2 := B2.size
      have hne : some wr.heap.size ≠ u3.ownBlock := fun e => by have := (World.ownsRow.lt HO1.out _ e.symm).2; omega
      have hne2 : some (wr.alloc (.cells #[.int .i64 (m.regs j 0), .int .i64 (m.regs j 1), .int .i64 (m.regs j 2), .int .i64 (m.regs j 3), .int .i64 (m.regs j 4), .int .i64 (m.regs j 5), .int .i64 (m.regs j 6), .int .i64 (m.regs j 7), .int .i64 (m.pc j)] 76)).heap.size ≠ u3.ownBlock := fun e => by
        rw [World.size_alloc] at e
        have := (World.ownsRow.lt HO1.out _ e.symm).2
        omega
      clear hR8 HB HO1 r0 r1 r2 r3 r4 r5 r6 r7 r8 yb
      generalize (wr.alloc (.cells #[.int .i64 (m.regs j 0), .int .i64 (m.regs j 1), .int .i64 (m.regs j 2), .int .i64 (m.regs j 3), .int .i64 (m.regs j 4), .int .i64 (m.regs j 5), .int .i64 (m.regs j 6), .int .i64 (m.regs j 7), .int .i64 (m.pc j)] 76)) = W2 at *
      generalize wr.heap.size = bx at *
      have hn3 : pre.length + 8 ≤ 1000000 := by omega
      have hn4 : pre.length + 8 + 1 ≤ 1000000 := by omega
      have HNp : Hid (numsOwn (W2.alloc (.cells #[.int .i64 (m.pc j)] 3)) w.heap.size u3 pre) := hide (numsOwn_keep HN.out ((Below.refl _ W2).alloc (Nat.le_refl _) _))
      have HRp : Hid (numsAt (some ⟨bx, 0, none⟩) R8 (W2.alloc (.cells #[.int .i64 (m.pc j)] 3))) := hide (HR.out.below ((Below.refl _ W2).alloc (Nat.le_refl _) _))
      have HPp : Hid (numsAt (some ⟨W2.heap.size, 0, none⟩) [(m.pc j : Int)] (W2.alloc (.cells #[.int .i64 (m.pc j)] 3))) := hide (numsAt_new rfl)
      have BBp : Hid (Below w.heap.size w (W2.alloc (.cells #[.int .i64 (m.pc j)] 3))) := hide (B2.alloc hb2 _)
      have BB2 := hide B2
      go_region_law
        (first
          | (refine step_append_ints _ (by rfl) _ _ (by rfl) w.heap.size pre R8 u3 pre.length 8 ⟨bx, 0, none⟩ 8 (by rfl) (by exact HN.out) (by rfl) rfl hR8l (by exact HR.out) hn3 (by exact BB2.out.size) ?_
             intro g6 cap6 w6 ho6 hb6 hg6
             have c86 : w6.cell? ⟨bx, 8, none⟩ = some (.int .i64 (m.pc j)) := hg6.cell c8 hne
             have B6 : Hid (Below w.heap.size w w6) := hide (by refine Below.trans ?_ hb6; exact Below.mk BB2.out.os BB2.out.tape BB2.out.output BB2.out.size BB2.out.block))
          | (refine step_append_ints _ (by rfl) _ _ (by rfl) w.heap.size pre R8 u3 pre.length 8 ⟨bx, 0, none⟩ 8 (by rfl) (by exact HNp.out) (by rfl) rfl hR8l (by exact HRp.out) hn3 (by exact BBp.out.size) ?_
             intro g6 cap6 w6 ho6 hb6 hg6
             have pl6 : Hid (numsAt (some ⟨W2.heap.size, 0, none⟩) [(m.pc j : Int)] w6) := hide (numsAt_kept (by exact HPp.out) hg6 hne2)
             have B6 : Hid (Below w.heap.size w w6) := hide (by refine Below.trans ?_ hb6; exact Below.mk BBp.out.os BBp.out.tape BBp.out.output BBp.out.size BBp.out.block))
          | (refine step_append_ints _ (by rfl) _ _ (by rfl) w.heap.size (pre ++ R8) [(m.pc j : Int)] (.slice g6 (pre.length + 8) cap6) (pre.length + 8) 1 ⟨_, 0, none⟩ 1 (by rfl) (by exact ho6) (by rfl) (by rw [List.length_append, hR8l]) rfl (by exact pl6.out) hn4 (by exact B6.out.size) ?_
             intro g7 cap7 w7 ho7 hb7 hg7
             have B7 : Hid (Below w.heap.size w w7) := hide (by refine Below.trans ?_ hb7; exact Below.mk B6.out.os B6.out.tape B6.out.output B6.out.size B6.out.block))
          | (refine step_append_ints _ (by rfl) _ _ (by rfl) w.heap.size (pre ++ R8) [(m.pc j : Int)] (.slice g6 (pre.length + 8) cap6) (pre.length + 8) 1 ⟨_, 0, none⟩ 1 (by rfl) (by exact numsOwn_keep ho6 ((Below.refl _ w6).alloc (Nat.le_refl _) (.cells #[.int .i64 (m.pc j)] 3))) (by rfl) (by rw [List.length_append, hR8l]) rfl (by exact numsAt_new (w := w6) (cs := #[.int .i64 (m.pc j)]) (t := 3) rfl) hn4 (by exact (B6.out.alloc B6.out.size (.cells #[.int .i64 (m.pc j)] 3)).size) ?_
             intro g7 cap7 w7 ho7 hb7 hg7
             have B7 : Hid (Below w.heap.size w w7) := hide (by refine Below.trans ?_ hb7; exact Below.mk B6.out.os B6.out.tape B6.out.output (B6.out.alloc B6.out.size (.cells #[.int .i64 (m.pc j)] 3)).size (B6.out.alloc B6.out.size (.cells #[.int .i64 (m.pc j)] 3)).block))
          | fail "no law")
      all_goals
        obtain ⟨vz, hvz⟩ : ∃ vz, vz = Value.slice g7 (pre.length + 8 + 1) cap7 := ⟨_, rfl⟩
        have HZ : Hid (∃ pre, numsOwn w7 w.heap.size vz pre ∧ pre = P ++ thrsNums m (j + 1) ∧ pre.length ≤ 600 + 9 * (j + 1)) := ⟨_, by rw [hvz]; exact ho7, HS.out, by rw [List.length_append, List.length_append, hR8l]; show pre.length + 8 + 1 ≤ _; omega⟩
        rw [hvz] at HZ
        clear hvz
        clear ho7 hb7 hg7 ho6 hb6 hg6
        go_wp2_with fail
        go_roundw
        case rel => exact ⟨j + 1, by omega, by go_num, HZ, B7.out⟩
        case measure => simp [intOf]; omega
    · obtain rfl : j = cs.length := by omega
      have HZ : Hid (numsOwn wr w.heap.size u3 (P ++ thrsNums m cs.length)) := by rw [← hp]; exact ho
      clear HO ho hp
      go_wp2_with fail
      go_ret
      exact ⟨_, rfl, HZ.out, HB⟩
end Go.Proofs.YtnnlkolhahjokaaGreatDoor

/- WkQ -/
namespace Go.Proofs.YtnnlkolhahjokaaGreatDoor
open Go.RowKit

def vb (n : Nat) : List UInt8 := if n < 128 then [UInt8.ofNat n] else UInt8.ofNat (128 + n % 128) :: vb (n / 128)
termination_by n
decreasing_by omega
theorem vb_small {n : Nat} (h : n < 128) : vb n = [UInt8.ofNat n] := by unfold vb; rw [if_pos h]
theorem vb_great {n : Nat} (h : ¬ n < 128) : vb n = UInt8.ofNat (128 + n % 128) :: vb (n / 128) := by rw [vb, if_neg h]
theorem u8_nat {n : Nat} (h : n < 256) : (UInt8.ofNat n).toNat = n := by simp; omega
theorem vb_ne (n : Nat) : vb n ≠ [] := by
  by_cases h : n < 128
  · rw [vb_small h]; simp
  · rw [vb_great h]; simp
theorem vb_len : ∀ (k n : Nat), n < 128 ^ k → 0 < k → (vb n).length ≤ k
  | 0, _, _, h => absurd h (by omega)
  | k + 1, n, h, _ => by
    by_cases h1 : n < 128
    · rw [vb_small h1]; simp
    · rw [vb_great h1, List.length_cons]
      have h2 : n / 128 < 128 ^ k := by
        rw [Nat.div_lt_iff_lt_mul (by decide)]
        rw [Nat.pow_succ] at h; exact h
      by_cases hk : 0 < k
      · have := vb_len k (n / 128) h2 hk
        omega
      · have : k = 0 := by omega
        subst this
        simp at h
        omega
theorem vb_inj : ∀ (n m : Nat) (r r' : List UInt8), vb n ++ r = vb m ++ r' → n = m ∧ r = r' := by
  intro n
  induction n using Nat.strongRecOn with
  | _ n ih =>
    intro m r r' h
    by_cases h1 : n < 128
    · by_cases h2 : m < 128
      · rw [vb_small h1, vb_small h2] at h
        have e := (List.cons.inj h).1
        have := congrArg UInt8.toNat e
        rw [u8_nat (by omega), u8_nat (by omega)] at this
        exact ⟨this, (List.cons.inj h).2⟩
      · rw [vb_small h1, vb_great h2] at h
        have e := (List.cons.inj h).1
        have := congrArg UInt8.toNat e
        rw [u8_nat (by omega), u8_nat (by omega)] at this
        omega
    · by_cases h2 : m < 128
      · rw [vb_great h1, vb_small h2] at h
        have e := (List.cons.inj h).1
        have := congrArg UInt8.toNat e
        rw [u8_nat (by omega), u8_nat (by omega)] at this
        omega
      · rw [vb_great h1, vb_great h2] at h
        have e := (List.cons.inj h).1
        have := congrArg UInt8.toNat e
        rw [u8_nat (by omega), u8_nat (by omega)] at this
        obtain ⟨q1, q2⟩ := ih (n / 128) (by omega) (m / 128) r r' (List.cons.inj h).2
        exact ⟨by omega, q2⟩

def vbs (l : List Int) : List UInt8 := l.flatMap fun x => vb x.toNat
theorem vbs_snoc (l : List Int) (x : Int) : vbs (l ++ [x]) = vbs l ++ vb x.toNat := by simp [vbs]
theorem vbs_inj : ∀ (l l' : List Int), (∀ x ∈ l, 0 ≤ x) → (∀ x ∈ l', 0 ≤ x) → vbs l = vbs l' → l = l'
  | [], [], _, _, _ => rfl
  | [], y :: l', _, _, h => by
    have : vb y.toNat ++ vbs l' = [] := h.symm
    exact absurd (List.append_eq_nil_iff.1 this).1 (vb_ne _)
  | x :: l, [], _, _, h => by
    have : vb x.toNat ++ vbs l = [] := h
    exact absurd (List.append_eq_nil_iff.1 this).1 (vb_ne _)
  | x :: l, y :: l', h1, h2, h => by
    obtain ⟨e1, e2⟩ := vb_inj x.toNat y.toNat (vbs l) (vbs l') h
    have := h1 x List.mem_cons_self
    have := h2 y List.mem_cons_self
    rw [vbs_inj l l' (fun z hz => h1 z (List.mem_cons_of_mem _ hz)) (fun z hz => h2 z (List.mem_cons_of_mem _ hz)) e2]
    rw [show x = y by omega]
def keyOf (n : Nat) (m : Mk) : ByteArray := ⟨(vbs (mkNums n m)).toArray⟩
theorem keyOf_inj {n : Nat} {m m' : Mk} (h1 : ∀ x ∈ mkNums n m, 0 ≤ x) (h2 : ∀ x ∈ mkNums n m', 0 ≤ x) (h : keyOf n m = keyOf n m') : mkNums n m = mkNums n m' := by
  refine vbs_inj _ _ h1 h2 ?_
  have := congrArg (fun b : ByteArray => b.data.toList) h
  simpa [keyOf] using this
theorem mkNums_range {n K : Nat} {m : Mk} (h : MkOk n K m) (hw : ∀ c k, 0 ≤ m.mem.ar.words c k ∧ m.mem.ar.words c k < 4294967296) (hg : ∀ c, m.mem.ar.given c < 4611686018427387904) (hn : ∀ t, t < n → ∀ x ∈ m.mem.waits t, (0 ≤ x.c ∧ x.c < 4611686018427387904) ∧ (0 ≤ x.g ∧ x.g < 4611686018427387904) ∧ (0 ≤ x.w ∧ x.w < 4611686018427387904) ∧ (0 ≤ x.v ∧ x.v < 4611686018427387904)) : ∀ x ∈ mkNums n m, 0 ≤ x ∧ x < 4611686018427387904 := by
  have har : ∀ (k c : Nat), ∀ x ∈ arNums m.mem.ar k c, 0 ≤ x ∧ x < 4611686018427387904 := by
    intro k
    induction k with
    | zero => intro c x hx; cases hx
    | succ k ih =>
      intro c x hx
      unfold arNums at hx
      rcases List.mem_cons.1 hx with rfl | hx
      · have := hg c; exact ⟨by omega, by omega⟩
      · split at hx
        · cases hx
        · rcases List.mem_append.1 hx with hx | hx
          · unfold wordNums at hx
            split at hx
            · simp at hx
              rcases hx with rfl | rfl | rfl | rfl | rfl
              · decide
              · have := hw c 0; omega
              · have := hw c 1; omega
              · have := hw c 2; omega
              · have := hw c 3; omega
            · simp at hx; subst hx; decide
          · exact ih (c + 1) x hx
  have hln : ∀ k, k ≤ n → ∀ x ∈ linesNums m.mem k, 0 ≤ x ∧ x < 4611686018427387904 := by
    intro k
    induction k with
    | zero => intro _ x hx; cases hx
    | succ k ih =>
      intro hk x hx
      rcases List.mem_append.1 (show x ∈ linesNums m.mem k ++ lnNums (m.mem.waits k) from hx) with hx | hx
      · exact ih (by omega) x hx
      · unfold lnNums at hx
        rcases List.mem_cons.1 hx with rfl | hx
        · have := h.mem.few k (by rw [h.thr]; omega); exact ⟨by omega, by omega⟩
        · obtain ⟨y, hy, hx⟩ := List.mem_flatMap.1 hx
          have := hn k (by omega) y hy
          simp [wtNums] at hx
          rcases hx with rfl | rfl | rfl | rfl <;> omega
  have hth : ∀ k, ∀ x ∈ thrsNums m k, 0 ≤ x ∧ x < 4611686018427387904 := by
    intro k
    induction k with
    | zero => intro x hx; cases hx
    | succ k ih =>
      intro x hx
      rcases List.mem_append.1 (show x ∈ thrsNums m k ++ thrNums m k from hx) with hx | hx
      · exact ih x hx
      · have hr : ∀ r, 0 ≤ m.regs k r ∧ m.regs k r < 4294967296 := fun r => h.regs k r
        have hp := h.pcs k
        simp [thrNums] at hx
        rcases hx with rfl | rfl | rfl | rfl | rfl | rfl | rfl | rfl | rfl
        · have := hr 0; omega
        · have := hr 1; omega
        · have := hr 2; omega
        · have := hr 3; omega
        · have := hr 4; omega
        · have := hr 5; omega
        · have := hr 6; omega
        · have := hr 7; omega
        · omega
  intro x hx
  unfold mkNums memNums at hx
  rcases List.mem_append.1 hx with hx | hx
  · rcases List.mem_append.1 hx with hx | hx
    · exact har _ _ x hx
    · exact hln _ (by rw [h.thr]; exact Nat.le_refl _) x hx
  · exact hth n x hx
end Go.Proofs.YtnnlkolhahjokaaGreatDoor

/- WkR -/
namespace Go.Proofs.YtnnlkolhahjokaaGreatDoor
open Go.RowKit

def SameGiven (s s' : Ar) : Prop := s'.size = s.size ∧ s'.given = s.given ∧ s'.there = s.there
theorem SameGiven.refl (s : Ar) : SameGiven s s := ⟨rfl, rfl, rfl⟩
theorem SameGiven.trans {a b c : Ar} (h : SameGiven a b) (k : SameGiven b c) : SameGiven a c := ⟨k.1.trans h.1, k.2.1.trans h.2.1, k.2.2.trans h.2.2⟩
theorem GivenOk.same {s s' : Ar} (h : GivenOk s) (k : SameGiven s s') : GivenOk s' := by
  intro c d hc hd hd' h0
  rw [k.1] at hc hd'
  rw [k.2.1] at h0 ⊢
  rw [k.2.2]
  exact h c d hc hd hd' h0
theorem drainAll_given (s : Rm) (t : Nat) (l : List Wt) : SameGiven s.ar (s.drainAll t l).ar := by
  obtain ⟨h1, h2, h3, -⟩ := s.drainAll_ar l t
  exact ⟨h1, h3, h2⟩
theorem drained_given (s : Rm) (t : Nat) (x : Wt) (l : List Wt) : SameGiven s.ar (s.drained t x l).ar := by
  obtain ⟨h1, h2, h3⟩ := s.drained_ar t x l
  exact ⟨h1, h3, h2⟩
theorem drain1_given (m : Mk) (t : Nat) : SameGiven m.mem.ar (m.drain1 t).mem.ar := by
  unfold Mk.drain1
  cases m.mem.waits t with
  | nil => exact SameGiven.refl _
  | cons x l => exact drained_given _ _ _ _
theorem fence_given (m : Mk) (t : Nat) : SameGiven m.mem.ar (m.fence t).mem.ar := drainAll_given _ _ _
theorem fenceFrom_given : ∀ (n : Nat) (m : Mk) (t : Nat), SameGiven m.mem.ar (m.fenceFrom t n).mem.ar
  | 0, _, _ => SameGiven.refl _
  | n + 1, m, t => (fence_given m t).trans (fenceFrom_given n (m.fence t) (t + 1))
theorem room_given (m : Mk) (t : Nat) : SameGiven m.mem.ar (m.room t).mem.ar := by
  unfold Mk.room
  split
  · exact drain1_given m t
  · exact SameGiven.refl _

theorem GivenOk.give {s : Ar} (h : GivenOk s) {c : Nat} (hf : s.free? = some c) : GivenOk (s.give c) := by
  obtain ⟨h1, h2, -⟩ := Ar.free_some hf
  intro x d hx hd hd' h0
  have hxc : x ≠ c := fun e => by
    have : (if x = c then s.given c + 1 else s.given x) = 0 := h0
    rw [if_pos e] at this; omega
  have h0' : s.given x = 0 := by
    have : (if x = c then s.given c + 1 else s.given x) = 0 := h0
    rwa [if_neg hxc] at this
  have hx2 := (h x x hx (Nat.le_refl _) hx h0').2
  have hcx : c < x := by
    rcases Nat.lt_or_ge x c with hlt | hge
    · rw [h2 x hlt] at hx2; cases hx2
    · omega
  have hdc : d ≠ c := by omega
  obtain ⟨g1, g2⟩ := h x d hx hd hd' h0'
  refine ⟨?_, ?_⟩
  · show (if d = c then s.given c + 1 else s.given d) = 0
    rw [if_neg hdc]; exact g1
  · show (if d = c then true else s.there d) = false
    rw [if_neg hdc]; exact g2
theorem GivenOk.gone {s : Ar} (h : GivenOk s) (c : Nat) : GivenOk (s.setThere c false) := by
  intro x d hx hd hd' h0
  obtain ⟨g1, g2⟩ := h x d hx hd hd' h0
  refine ⟨g1, ?_⟩
  show (if d = c then false else s.there d) = false
  split
  · rfl
  · exact g2

theorem GivenOk.exec {m : Mk} (h : GivenOk m.mem.ar) (L : List Ins) (t : Nat) (x : Ins) : GivenOk (m.exec L t x).mem.ar := by
  unfold Mk.exec
  dsimp only
  split
  any_goals exact h
  · unfold Mk.load; split <;> exact h
  · unfold Mk.store
    split
    · exact h.same (room_given m t)
    · exact h
  · unfold Mk.swap
    split
    · exact (h.same (fence_given m t)).same ⟨rfl, rfl, rfl⟩
    · exact h
  · unfold Mk.cas
    split
    · exact (h.same (fence_given m t)).same ⟨rfl, rfl, rfl⟩
    · exact h
  · unfold Mk.alloc
    split
    · exact h
    · rename_i c hc
      exact h.give hc
  · unfold Mk.free
    split
    · exact (h.same (fence_given m t)).gone _
    · exact h
  · unfold Mk.mark; split <;> exact h
  · unfold Mk.need; split <;> exact h
  · exact h.same (fence_given m t)
  · exact h.same (fenceFrom_given _ m 0)
  · split <;> exact h
  · split <;> exact h
theorem GivenOk.step {m : Mk} (h : GivenOk m.mem.ar) (L : List Ins) (t : Nat) : GivenOk (m.step L t).mem.ar := by
  unfold Mk.step
  split
  · exact h
  · exact GivenOk.exec (m := m.setPc t (m.pc t + 1)) h L t _
theorem GivenOk.turnO {m : Mk} (h : GivenOk m.mem.ar) (cs : List (List Ins)) (n : Int) : GivenOk (m.turnO cs n).2.mem.ar := by
  unfold Mk.turnO
  split
  · unfold Mk.stepO
    split
    · split
      · exact h
      · exact h.step _ _
    · exact h
  · unfold Mk.drainO
    split
    · split
      · exact h
      · exact h.same (drain1_given m _)
    · exact h

end Go.Proofs.YtnnlkolhahjokaaGreatDoor
