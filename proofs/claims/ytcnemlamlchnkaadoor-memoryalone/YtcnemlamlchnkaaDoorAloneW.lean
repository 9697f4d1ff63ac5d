/- The law MemoryAlone, walked: it returns true. -/
import Derived.Test.YtcnemlamlchnkaaDoorAloneA
import Derived.Test.YtcnemlamlchnkaaDoorMactX
import Derived.Laws.BitsLemmas
namespace Go.Proofs.YtcnemlamlchnkaaDoor
open Go.RowKit Go.Extern.Stop Go.Stop Go.Extern

theorem make8 (w : World) : (Instr.makeSlice 22 (.int .i64 8) (.int .i64 8)).run Tryd.prog w = .ok (.slice (some ⟨w.heap.size, 0, none⟩) 8 8) (w.alloc (.cells #[.int .i64 0, .int .i64 0, .int .i64 0, .int .i64 0, .int .i64 0, .int .i64 0, .int .i64 0, .int .i64 0] 3)) := by kernel_rfl

/-- What holds between two acts: the memory at b, the two refs at rb, what the thread reads at nb. -/
structure AloneAt (w : World) (b rb nb : Nat) (N : Nat → Nat → Int) (s : Rm) (wr : World) : Prop where
  al : Alone N s
  mm : MmAt b s wr
  ref0 : ∀ k, k < 2 → wr.cell? ⟨rb, k * 2, none⟩ = some (.int .i64 (k : Nat)) ∧ wr.cell? ⟨rb, k * 2 + 1, none⟩ = some (.int .i64 0)
  now : ∀ k i, k < 2 → i < 4 → wr.cell? ⟨nb, k * 4 + i, none⟩ = some (.int .i64 (N k i))
  fz : ∀ o, wr.frozen? ⟨nb, o, none⟩ = false
  ln : nb < wr.heap.size
  base : Below w.heap.size w wr
  hb : w.heap.size ≤ b
  hr : w.heap.size ≤ rb
  hn : w.heap.size ≤ nb
  d1 : b ≠ rb
  d2 : b ≠ nb
  d3 : rb ≠ nb

theorem AloneAt.below {w : World} {b rb nb : Nat} {N : Nat → Nat → Int} {s : Rm} {wr w' : World} (h : AloneAt w b rb nb N s wr) (k : Below wr.heap.size wr w') : AloneAt w b rb nb N s w' :=
  ⟨h.al, h.mm.below k, fun j hj => ⟨keep_cell k (h.ref0 j hj).1, keep_cell k (h.ref0 j hj).2⟩, fun j i hj hi => keep_cell k (h.now j i hj hi), fun o => by rw [k.frozen h.ln]; exact h.fz o, Nat.lt_of_lt_of_le h.ln k.size, h.base.trans (k.mono h.base.size), h.hb, h.hr, h.hn, h.d1, h.d2, h.d3⟩
theorem AloneAt.step {w : World} {b rb nb : Nat} {N : Nat → Nat → Int} {s s' : Rm} {wr w' : World} (h : AloneAt w b rb nb N s wr) (k : MmStep b wr s' w') (ha : Alone N s') : AloneAt w b rb nb N s' w' :=
  ⟨ha, k.at', fun j hj => ⟨k.turns.keep (h.ref0 j hj).1 (fun e => h.d1 e.symm), k.turns.keep (h.ref0 j hj).2 (fun e => h.d1 e.symm)⟩, fun j i hj hi => k.turns.keep (h.now j i hj hi) (fun e => h.d2 e.symm), fun o => by rw [k.turns.frozen _ _ h.ln (fun e => h.d2 e.symm)]; exact h.fz o, Nat.lt_of_lt_of_le h.ln k.turns.size, h.base.trans (k.turns.below h.base.size (fun i _ hi e => by have := h.hb; omega)), h.hb, h.hr, h.hn, h.d1, h.d2, h.d3⟩

theorem alone_at (w w5 : World) (b rb nb : Nat) (s0 : Rm) (ha : Alone (fun _ _ => 0) s0) (hm : MmAt b s0 w5) (hB : Below w.heap.size w w5) (hwb : w.heap.size ≤ b) (hwr : w.heap.size ≤ rb) (hwn : w.heap.size ≤ nb) (d1 : b ≠ rb) (d2 : b ≠ nb) (d3 : rb ≠ nb)
    (k1 : w5.heap[rb]? = some (.cells #[.int .i64 0, .int .i64 0, .int .i64 1, .int .i64 0] 36)) (k2 : w5.heap[nb]? = some (.cells #[.int .i64 0, .int .i64 0, .int .i64 0, .int .i64 0, .int .i64 0, .int .i64 0, .int .i64 0, .int .i64 0] 3)) :
    AloneAt w b rb nb (fun _ _ => 0) s0 w5 := by
  refine ⟨ha, hm, fun k hk => ?_, fun k i hk hi => ?_, fun o => ?_, lt_of_block k2, hB, hwb, hwr, hwn, d1, d2, d3⟩
  · match k, hk with
    | 0, _ => exact ⟨by simp [World.cell?, k1], by simp [World.cell?, k1]⟩
    | 1, _ => exact ⟨by simp [World.cell?, k1], by simp [World.cell?, k1]⟩
  · match k, hk, i, hi with
    | 0, _, 0, _ => simp [World.cell?, k2]
    | 0, _, 1, _ => simp [World.cell?, k2]
    | 0, _, 2, _ => simp [World.cell?, k2]
    | 0, _, 3, _ => simp [World.cell?, k2]
    | 1, _, 0, _ => simp [World.cell?, k2]
    | 1, _, 1, _ => simp [World.cell?, k2]
    | 1, _, 2, _ => simp [World.cell?, k2]
    | 1, _, 3, _ => simp [World.cell?, k2]
  · simp [World.frozen?, k2]

theorem alone_start (w w3 : World) (b : Nat) (o1 : Obj) (s0 : Rm) (ha : Alone (fun _ _ => 0) s0) (hm : MmAt b s0 (w3.alloc o1)) (hB : Below w.heap.size w (w3.alloc o1)) (hwb : w.heap.size ≤ b) (lb : b < w3.heap.size) :
    AloneAt w b (w3.heap.size + 1) (w3.heap.size + 1 + 1) (fun _ _ => 0) s0 (((w3.alloc o1).alloc (.cells #[.int .i64 0, .int .i64 0, .int .i64 1, .int .i64 0] 36)).alloc (.cells #[.int .i64 0, .int .i64 0, .int .i64 0, .int .i64 0, .int .i64 0, .int .i64 0, .int .i64 0, .int .i64 0] 3)) := by
  obtain ⟨k0, k1, k2⟩ := blk3 w3 o1 (.cells #[.int .i64 0, .int .i64 0, .int .i64 1, .int .i64 0] 36) (.cells #[.int .i64 0, .int .i64 0, .int .i64 0, .int .i64 0, .int .i64 0, .int .i64 0, .int .i64 0, .int .i64 0] 3)
  have hs := hB.size
  rw [World.size_alloc] at hs
  have B2 := hB.alloc hB.size (.cells #[.int .i64 0, .int .i64 0, .int .i64 1, .int .i64 0] 36)
  exact alone_at w _ b _ _ s0 ha ((hm.alloc _).alloc _) (B2.alloc B2.size _) hwb (by omega) (by omega) (by omega) (by omega) (by omega) k1 k2

/-- A number's last bit. -/
theorem and_bit (n : Int) : bits .and .i64 n 1 = n % 2 := by
  have h1 : (BitVec.ofInt 64 1).toNat = 2 ^ 1 - 1 := by decide
  have key : (BitVec.ofInt 64 n &&& BitVec.ofInt 64 1).toNat = (n % ((2 ^ 64 : Nat) : Int)).toNat % 2 ^ 1 := by
    rw [BitVec.toNat_and, BitVec.toNat_ofInt, h1, Nat.and_two_pow_sub_one_eq_mod]
  show IntKind.i64.wrap ((BitVec.ofInt 64 n &&& BitVec.ofInt 64 1).toNat : Nat) = n % 2
  rw [key, IntKind.wrap_i64]
  omega
theorem bit_is (n : Int) : ∃ k : Nat, k < 2 ∧ bits .and .i64 n 1 = (k : Int) := by
  rw [and_bit]
  exact ⟨(n % 2).toNat, by omega, by omega⟩

/-- A store that waits, and the number that the thread reads laid. -/
theorem AloneAt.lay {w : World} {b rb nb : Nat} {N : Nat → Nat → Int} {s s' : Rm} {wr w' : World} (h : AloneAt w b rb nb N s wr) (q : MmStep b wr s' w') (k m : Nat) (v : Int) (hk : k < 2) (hm : m < 4) (ha : Alone (updN N k m v) s') : AloneAt w b rb nb (updN N k m v) s' (w'.setCell ⟨nb, 4 * k + m, none⟩ (.int .i64 v)) := by
  have hT : Turns (fun i _ => i = nb) w' (w'.setCell ⟨nb, 4 * k + m, none⟩ (.int .i64 v)) := (Turns.refl _ _).setCell _ rfl
  have kp : ∀ i o u, wr.cell? ⟨i, o, none⟩ = some u → i ≠ b → w'.cell? ⟨i, o, none⟩ = some u := fun i o u hu e => q.turns.keep hu e
  refine ⟨ha, q.at'.turns hT (fun _ e => h.d2 e), fun j hj => ⟨hT.keep (kp _ _ _ (h.ref0 j hj).1 (fun e => h.d1 e.symm)) (fun e => h.d3 e), hT.keep (kp _ _ _ (h.ref0 j hj).2 (fun e => h.d1 e.symm)) (fun e => h.d3 e)⟩, fun j i hj hi => ?_, fun o => by rw [World.frozen?_setCell, q.turns.frozen _ _ h.ln (fun e => h.d2 e.symm)]; exact h.fz o, by rw [World.size_setCell]; exact Nat.lt_of_lt_of_le h.ln q.turns.size, (h.base.trans (q.turns.below h.base.size (fun i _ hi e => by have := h.hb; omega))).setCell h.hn _, h.hb, h.hr, h.hn, h.d1, h.d2, h.d3⟩
  unfold updN
  by_cases e : j = k ∧ i = m
  · rw [if_pos e, e.1, e.2, Nat.mul_comm k 4]
    refine World.cell?_setCell_same _ _ _ (u := .int .i64 (N k m)) ?_
    rw [Nat.mul_comm 4 k]
    exact kp _ _ _ (h.now k m hk hm) (fun e => h.d2 e.symm)
  · rw [if_neg e]
    exact cell_ne (kp _ _ _ (h.now j i hj hi) (fun e => h.d2 e.symm)) (Or.inr (by omega))

/-- What a drain leaves. -/
def DrainPost (w : World) (b rb nb : Nat) (N : Nat → Nat → Int) (e : Ending) (w'' : World) : Prop := ∃ r s', e = .returned r ∧ AloneAt w b rb nb N s' w''

set_option maxRecDepth 20000 in
set_option maxHeartbeats 4000000 in
theorem alone_any (a : Nat → Addr) (ad : Option Addr) (cap : Nat) (l : List MAct) (w : World) (hE : EnvM a w) (h3 : l.length ≤ 100) (hl : mactsAt ad l w) :
    Calls Tryd.prog 7 #[.slice ad l.length cap] w fun e w' => e = .returned (.bool true) ∧ Below w.heap.size w w' := by
  have i3 : (l.length : Int) ≤ 100 := by omega
  have k4 : decide (100 < (l.length : Int)) = false := by simp; omega
  have HL : Hid (mactsAt ad l w) := hl
  have hmk := make8
  clear hl
  go_enter Tryd.func7, Tryd.ntmps7
  go_wp2_with fail
  refine (waits_any a _ hE).mono ?_
  rintro e0 w0 ⟨rfl, hb0⟩
  go_wp2_with fail
  refine (mnew_ok 2 2 _ (by decide) (by decide) (by decide) (by decide)).mono ?_
  rintro e1 w1 ⟨rfl, hm1, hb1⟩
  have s0 := hb0.size
  have B1 := below_step hb0 hb1
  generalize hb : w0.heap.size + 1 = b at *
  have hwb : w.heap.size ≤ b := by omega
  clear hb hb0 hb1 s0
  have HA0 : Hid (Calls Tryd.prog 33 #[.pointer (some ⟨b, 0, none⟩), .int .i64 0] w1 fun e w'' => e = .returned (.tuple #[.agg #[.int .i64 0, .int .i64 0], .nilIface]) ∧ MmStep b w1 ((Rm.fresh 2 2).give 0) w'') :=
    malloc_some b (Rm.fresh 2 2) 0 0 w1 hm1 (by decide) (by decide) (fun j hj => absurd hj (Nat.not_lt_zero j)) rfl (by show 0 + 1 < 4611686018427387904; decide)
  clear hm1
  go_wp2_with fail
  refine HA0.out.mono ?_
  rintro e2 w2 ⟨rfl, hm2⟩
  have B2 := B1.trans (hm2.turns.below B1.size (fun i _ hi e => by omega))
  have m2 := hm2.at'.alloc (.cells #[.int .i64 0, .int .i64 0] 36)
  have C2 := B2.alloc B2.size (.cells #[.int .i64 0, .int .i64 0] 36)
  have y0 : (w2.alloc (.cells #[.int .i64 0, .int .i64 0] 36)).cell? ⟨w2.heap.size, 0, none⟩ = some (.int .i64 0) := by simp
  have y1 : (w2.alloc (.cells #[.int .i64 0, .int .i64 0] 36)).cell? ⟨w2.heap.size, 1, none⟩ = some (.int .i64 0) := by simp
  have lb := hm2.at'.lt
  clear HA0 hm2 B1
  have HA1 : Hid (∀ w', MmAt b ((Rm.fresh 2 2).give 0) w' → Calls Tryd.prog 33 #[.pointer (some ⟨b, 0, none⟩), .int .i64 0] w' fun e w'' => e = .returned (.tuple #[.agg #[.int .i64 1, .int .i64 0], .nilIface]) ∧ MmStep b w' (((Rm.fresh 2 2).give 0).give 1) w'') := fun w' h =>
    malloc_some b ((Rm.fresh 2 2).give 0) 0 1 w' h (by decide) (by decide) (fun j hj => by obtain rfl : j = 0 := by omega
                                                                                           rfl) rfl (by show 0 + 1 < 4611686018427387904; decide)
  go_wp2_with fail
  refine (HA1.out _ m2).mono ?_
  rintro e3 w3 ⟨rfl, hm3⟩
  have B3 := C2.trans (hm3.turns.below C2.size (fun i _ hi e => by omega))
  replace y0 := cell_new (o := .cells #[.int .i64 1, .int .i64 0] 36) (hm3.turns.keep y0 (by omega))
  replace y1 := cell_new (o := .cells #[.int .i64 1, .int .i64 0] 36) (hm3.turns.keep y1 (by omega))
  have m3 := hm3.at'.alloc (.cells #[.int .i64 1, .int .i64 0] 36)
  have C3 := B3.alloc B3.size (.cells #[.int .i64 1, .int .i64 0] 36)
  have z0 : (w3.alloc (.cells #[.int .i64 1, .int .i64 0] 36)).cell? ⟨w3.heap.size, 0, none⟩ = some (.int .i64 1) := by simp
  have z1 : (w3.alloc (.cells #[.int .i64 1, .int .i64 0] 36)).cell? ⟨w3.heap.size, 1, none⟩ = some (.int .i64 0) := by simp
  have lb3 := hm3.at'.lt
  clear HA1 m2 C2 B2 hm3 B3
  have HStart : Hid (Alone (fun _ _ => 0) (((Rm.fresh 2 2).give 0).give 1)) := Alone.start
  generalize ((Rm.fresh 2 2).give 0).give 1 = s0 at *
  have HSt : Hid _ := hide (alone_start w w3 b _ s0 HStart.out m3 C3 hwb lb3)
  go_wp2_with fail
  clear z0 z1 y0 y1 C3 m3 HStart lb hmk
  generalize ((w3.alloc (.cells #[.int .i64 1, .int .i64 0] 36)).alloc (.cells #[.int .i64 0, .int .i64 0, .int .i64 1, .int .i64 0] 36)).alloc (.cells #[.int .i64 0, .int .i64 0, .int .i64 0, .int .i64 0, .int .i64 0, .int .i64 0, .int .i64 0, .int .i64 0] 3) = w5 at *
  generalize w3.heap.size + 1 + 1 = nb at *
  generalize w3.heap.size + 1 = rb at *
  go_loopw [12, 13, 14, 15, 16, 17] (fun i _ _ _ _ _ wr => ∃ j : Nat, j ≤ l.length ∧ i = .int .i64 j ∧ ∃ N s, AloneAt w b rb nb N s wr) (fun i _ _ _ _ _ _ => l.length - (intOf i).toNat)
  case atStart => exact ⟨0, Nat.zero_le _, rfl, _, _, HSt.out⟩
  case round =>
    obtain ⟨j, hj, rfl, N, s, hA⟩ := hrel
    have HA : Hid (AloneAt w b rb nb N s wr) := hA
    clear HSt
    by_cases hlt : j < l.length
    · obtain ⟨x, hx⟩ : ∃ x, l[j]? = some x := ⟨_, List.getElem?_eq_getElem hlt⟩
      obtain ⟨ab, off, rfl, a0, a1, a2, a3, a4, a5, a6⟩ := HL.out j x hx
      have hB := hA.base
      replace a0 := keep_cell hB a0
      replace a1 := keep_cell hB a1
      replace a2 := keep_cell hB a2
      replace a3 := keep_cell hB a3
      replace a4 := keep_cell hB a4
      replace a5 := keep_cell hB a5
      replace a6 := keep_cell hB a6
      have ji : (j : Int) < l.length := by omega
      clear hA hB hx
      obtain ⟨k, hk2, hbk⟩ := bit_is x.c
      by_cases hk : 0 ≤ x.k ∧ x.k < 4
      · obtain ⟨m, hm⟩ := Int.eq_ofNat_of_zero_le hk.1
        have hm4 : m < 4 := by omega
        have hm4i : (m : Int) < 4 := by omega
        have hk2i : (k : Int) < 2 := by omega
        rw [hm] at a4
        clear hk
        have hAl := HA.out.al
        have hAx : AloneAt w b rb nb N s (wr.alloc (.cells #[.string x.kind, .int .i64 x.t, .int .i64 x.c, .int .i64 x.g, .int .i64 m, .int .i64 x.v, .int .i64 x.old] 77)) := HA.out.below ((Below.refl _ _).alloc (Nat.le_refl _) _)
        have X : ActX wr.heap.size x.kind x.t x.c x.g m x.v x.old (wr.alloc (.cells #[.string x.kind, .int .i64 x.t, .int .i64 x.c, .int .i64 x.g, .int .i64 m, .int .i64 x.v, .int .i64 x.old] 77)) := actX wr x.kind x.t x.c x.g m x.v x.old
        have hth : 0 < s.threads := by rw [hAl.th]; decide
        have hhas := hAl.has k hk2
        cases hks : (x.kind.toList == [115, 116, 111, 114, 101])
        · cases hkd : (x.kind.toList == [100, 114, 97, 105, 110])
          · -- load
            go_wp2_with fail
            obtain ⟨-, -, -, -, x4, -, -⟩ := X
            have HLd : Hid (∀ w', AloneAt w b rb nb N s w' → Calls Tryd.prog 37 #[.pointer (some ⟨b, 0, none⟩), .int .i64 0, .agg #[.int .i64 k, .int .i64 0], .int .i64 m] w' fun e w'' => e = .returned (.tuple #[.int .i64 (N k m), .nilIface]) ∧ Below w'.heap.size w' w'') := fun w' h => by
              have := mload_ok a b s 0 k m 0 w' (hE.below h.base.block) h.mm hth (by omega) hhas hm4
              rw [hAl.val k m hk2 hm4] at this
              exact this
            have H5 : Hid (AloneAt w b rb nb N s (wr.alloc (.cells #[.string x.kind, .int .i64 x.t, .int .i64 x.c, .int .i64 x.g, .int .i64 m, .int .i64 x.v, .int .i64 x.old] 77))) := hAx
            obtain ⟨r0, r1⟩ := hAx.ref0 k hk2
            clear a0 a1 a2 a3 a4 a5 a6 hAx HA hAl hhas hth hbk hks hkd
            generalize wr.alloc (.cells #[.string x.kind, .int .i64 x.t, .int .i64 x.c, .int .i64 x.g, .int .i64 m, .int .i64 x.v, .int .i64 x.old] 77) = w6 at *
            have HCF : Hid (∀ d os, Calls Tryd.prog 37 #[.pointer (some ⟨b, 0, none⟩), .int .i64 0, .agg #[.int .i64 k, .int .i64 0], .int .i64 m] (Go.Sort.grow (redrawn w6 d) os) fun e w'' => e = .returned (.tuple #[.int .i64 (N k m), .nilIface]) ∧ ∃ p : Regrown, w'' = Go.Sort.grow (redrawn w6 p.d) p.os) := fun d os =>
              Calls.regrown_of (HLd.out _ (H5.out.below (below_regrown w6 d os)))
            have d0 := cell_regrown r0
            have d1 := cell_regrown r1
            have d4 := cell_regrown x4
            clear HLd
            refine wp_region_quiet_below (by kernel_rfl) (by kernel_rfl) ?_
            repeat (first
              | go_big_quiet_step (exact HCF.out _ _)
              | quiet_step (exact HCF.out _ _))
            refine wpQuiet_nil ?_
            intro _ hw'
            obtain ⟨⟨dq, osq⟩, hw''⟩ := hw'
            subst hw''
            have H7 : Hid _ := hide (H5.out.below (below_regrown w6 dq osq))
            have y4 := d4 dq osq
            have hnow : (Go.Sort.grow (redrawn w6 dq) osq).cell? ⟨nb, 4 * k + m, none⟩ = some (.int .i64 (N k m)) := by rw [Nat.mul_comm]; exact H7.out.now k m hk2 hm4
            clear HCF d0 d1 d4 r0 r1 x4 H5
            generalize Go.Sort.grow (redrawn w6 dq) osq = w7 at *
            generalize N k m = V at *
            go_wp2
            go_roundw
            case rel => exact ⟨j + 1, by omega, by go_num, N, s, H7.out⟩
            case measure => simp [intOf]; omega
          · -- drain
            have HDr : Hid (∀ w', AloneAt w b rb nb N s w' → Calls Tryd.prog 36 #[.pointer (some ⟨b, 0, none⟩), .int .i64 0] w' fun e w'' => DrainPost w b rb nb N e w'') := fun w' h => by
              cases hws : s.waits 0 with
              | nil =>
                refine (mdrain_none a b s 0 w' (hE.below h.base.block) h.mm hth hws).mono ?_
                rintro e w'' ⟨rfl, rfl⟩
                exact ⟨_, s, rfl, h⟩
              | cons y t =>
                have hd := hAl.drained hws
                refine (mdrain_some a w.heap.size b s 0 y t w' (EnvB.of hE h.base) h.hb h.mm hth hws (hAl.ok 0 hth y (by rw [hws]; exact List.mem_cons_self ..))).mono ?_
                rintro e w'' ⟨rfl, h2⟩
                exact ⟨_, _, rfl, h.step h2 hd.1⟩
            clear hhas hth HA hAl
            go_wp2_with fail
            refine (HDr.out _ hAx).mono ?_
            rintro e6 w6 ⟨r, s', rfl, hA6⟩
            have H6 : Hid _ := hide hA6
            clear HDr hAx hA6 X a0 a1 a2 a3 a4 a5 a6 hbk hks hkd
            go_wp2
            go_roundw
            case rel => exact ⟨j + 1, by omega, by go_num, N, s', H6.out⟩
            case measure => simp [intOf]; omega
        · -- store
          go_wp2_with fail
          obtain ⟨-, -, -, -, x4, x5, -⟩ := X
          obtain ⟨r0, r1⟩ := hAx.ref0 k hk2
          have H5 : Hid (AloneAt w b rb nb N s (wr.alloc (.cells #[.string x.kind, .int .i64 x.t, .int .i64 x.c, .int .i64 x.g, .int .i64 m, .int .i64 x.v, .int .i64 x.old] 77))) := hAx
          have lx : wr.heap.size ≠ b := Nat.ne_of_gt HA.out.mm.lt
          clear a0 a1 a2 a3 a4 a5 a6 hAx HA hbk hks
          generalize wr.alloc (.cells #[.string x.kind, .int .i64 x.t, .int .i64 x.c, .int .i64 x.g, .int .i64 m, .int .i64 x.v, .int .i64 x.old] 77) = w6 at *
          by_cases hv : 0 ≤ x.v ∧ x.v < 4294967296
          · have hmay : s.may 0 k 0 m [x.v] = 0 := by
              have := Rm.may_yes hth (k : Int) 0 (m : Int) [x.v]
              rw [show ((0 : Nat) : Int) = 0 from rfl] at this
              rw [this]
              exact Ar.chk_one_ok hhas (by omega) hv
            by_cases h8 : (s.waits 0).length < 8
            · have HS : Hid (∀ n, Calls Tryd.prog 34 #[.pointer (some ⟨b, 0, none⟩), .int .i64 0, .agg #[.int .i64 k, .int .i64 0], .int .i64 m, .int .i64 x.v] (w6.drewN n) fun e w'' => e = .returned .nilIface ∧ MmStep b (w6.drewN n) (s.setWaits 0 (s.waits 0 ++ [⟨k, 0, m, x.v⟩])) w'') := fun n => by
                have h := H5.out.below (Below.drewN' n)
                exact mstore_ok a b s 0 k 0 m x.v _ (hE.below h.base.block) h.mm hth hmay h8
              have HNew : Hid (Alone (updN N k m x.v) (s.setWaits 0 (s.waits 0 ++ [⟨k, 0, m, x.v⟩]))) := hAl.store k m x.v hk2 hm4 hv
              generalize s.setWaits 0 (s.waits 0 ++ [⟨k, 0, m, x.v⟩]) = s' at *
              clear hmay h8 hhas hth hAl hv
              go_region_with (go_at_call 34; refine (HS.out 1).mono ?_; rintro e7 w7 ⟨rfl, h7⟩)
              all_goals
                have h61 : AloneAt w b rb nb N s (w6.drewN 1) := H5.out.below (Below.drewN' 1)
                have H8 : Hid _ := hide (h61.lay h7 k m x.v hk2 hm4 HNew.out)
                have y4 := h7.turns.keep (o := 4) (v := .int .i64 m) (k := wr.heap.size) x4 lx
                have y5 := h7.turns.keep (o := 5) (v := .int .i64 x.v) (k := wr.heap.size) x5 lx
                have hnow : w7.cell? ⟨nb, 4 * k + m, none⟩ = some (.int .i64 (N k m)) := by
                  rw [Nat.mul_comm]; exact h7.turns.keep (h61.now k m hk2 hm4) (fun e => H5.out.d2 e.symm)
                have hfz : w7.frozen? ⟨nb, 4 * k + m, none⟩ = false := by
                  rw [h7.turns.frozen _ _ h61.ln (fun e => H5.out.d2 e.symm)]; exact h61.fz _
                clear HS HNew h61 h7 r0 r1 x4 x5 H5
                go_wp2
                go_roundw
                case rel => exact ⟨j + 1, by omega, by go_num, _, _, H8.out⟩
                case measure => simp [intOf]; omega
            · have e8 : (s.waits 0).length = 8 := by have := (H5.out.mm.line 0 hth).le; omega
              have HS : Hid (∀ n, Calls Tryd.prog 34 #[.pointer (some ⟨b, 0, none⟩), .int .i64 0, .agg #[.int .i64 k, .int .i64 0], .int .i64 m, .int .i64 x.v] (w6.drewN n) fun e w'' => e = .returned (errAt (a 5)) ∧ Below (w6.drewN n).heap.size (w6.drewN n) w'') := fun n => by
                have h := H5.out.below (Below.drewN' n)
                exact mstore_full a b s 0 k 0 m x.v _ (hE.below h.base.block) h.mm hth hmay (by omega)
              have HI : Hid (∀ w', Calls Tryd.prog 29 #[.int .i64 x.v] w' fun e w'' => e = .returned (.bool true) ∧ w'' = w') := fun w' => (isWordR_any x.v w').mono fun _ _ ⟨q1, q2⟩ => ⟨by rw [q1, decide_eq_true hv], q2⟩
              have HWt : Hid (∀ w', AloneAt w b rb nb N s w' → Calls Tryd.prog 35 #[.pointer (some ⟨b, 0, none⟩), .int .i64 0] w' fun e w'' => e = .returned (.int .i64 8) ∧ w'' = w') := fun w' h => by
                have := waiting_any b s 0 w' h.mm
                rwa [show s.waiting 0 = 8 from (if_pos ⟨by decide, by omega⟩ : _ = (s.waits 0).length).trans e8] at this
              clear hmay h8 hhas hth hAl hv e8
              go_region_with (go_at_call 34; refine (HS.out 1).mono ?_; rintro e7 w7 ⟨rfl, h7⟩)
              all_goals
                have H8 : Hid _ := hide ((H5.out.below (Below.drewN' 1)).below h7)
                have y5 : w7.cell? ⟨wr.heap.size, 5, none⟩ = some (.int .i64 x.v) := keep_cell h7 x5
                clear HS h7 r0 r1 x4 x5 H5
                go_wp2_with fail
                refine (HI.out _).mono ?_
                rintro e8 w8 ⟨rfl, rfl⟩
                go_wp2_with fail
                refine (HWt.out _ H8.out).mono ?_
                rintro e9 w9 ⟨rfl, rfl⟩
                clear HI HWt
                go_wp2
                go_roundw
                case rel => exact ⟨j + 1, by omega, by go_num, N, s, H8.out⟩
                case measure => simp [intOf]; omega
          · have hmay : s.may 0 k 0 m [x.v] = 2 := by
              have := Rm.may_yes hth (k : Int) 0 (m : Int) [x.v]
              rw [show ((0 : Nat) : Int) = 0 from rfl] at this
              rw [this]
              exact Ar.chk_one_bad hhas (fun h => hv h.2)
            have HS : Hid (∀ n, Calls Tryd.prog 34 #[.pointer (some ⟨b, 0, none⟩), .int .i64 0, .agg #[.int .i64 k, .int .i64 0], .int .i64 m, .int .i64 x.v] (w6.drewN n) fun e w'' => e = .returned (errAt (a 1)) ∧ Below (w6.drewN n).heap.size (w6.drewN n) w'') := fun n => by
              have h := H5.out.below (Below.drewN' n)
              have := mstore_err a b s 0 k 0 m x.v (w6.drewN n) (hE.below h.base.block) h.mm (by rw [hmay]; decide)
              rw [hmay] at this
              exact this
            have HI : Hid (∀ w', Calls Tryd.prog 29 #[.int .i64 x.v] w' fun e w'' => e = .returned (.bool false) ∧ w'' = w') := fun w' => (isWordR_any x.v w').mono fun _ _ ⟨q1, q2⟩ => ⟨by rw [q1, decide_eq_false hv], q2⟩
            clear hmay hhas hth hAl hv
            go_region_with (go_at_call 34; refine (HS.out 1).mono ?_; rintro e7 w7 ⟨rfl, h7⟩)
            all_goals
              have H8 : Hid _ := hide ((H5.out.below (Below.drewN' 1)).below h7)
              have y5 : w7.cell? ⟨wr.heap.size, 5, none⟩ = some (.int .i64 x.v) := keep_cell h7 x5
              clear HS h7 r0 r1 x4 x5 H5
              go_wp2_with fail
              refine (HI.out _).mono ?_
              rintro e8 w8 ⟨rfl, rfl⟩
              clear HI
              go_wp2
              go_roundw
              case rel => exact ⟨j + 1, by omega, by go_num, N, s, H8.out⟩
              case measure => simp [intOf]; omega
      · by_cases hk0 : x.k < 0
        · clear hk
          go_wp2_with fail
          exact ⟨⟨j + 1, by omega, by go_num, N, s, HA.out.below ((Below.refl _ _).alloc (Nat.le_refl _) _)⟩, by simp [intOf]; omega⟩
        · have hk4 : 4 ≤ x.k := by omega
          clear hk
          go_wp2_with fail
          exact ⟨⟨j + 1, by omega, by go_num, N, s, HA.out.below ((Below.refl _ _).alloc (Nat.le_refl _) _)⟩, by simp [intOf]; omega⟩
    · obtain rfl : j = l.length := by omega
      have hAl := hA.al
      have hth : 0 < s.threads := by rw [hAl.th]; decide
      obtain ⟨hD, hG⟩ := Alone.fence (s.waits 0) s hAl rfl
      have HF : Hid (Calls Tryd.prog 38 #[.pointer (some ⟨b, 0, none⟩), .int .i64 0] wr fun e w' => e = .returned .nilIface ∧ AloneAt w b rb nb N (s.drainAll 0 (s.waits 0)) w') := by
        have := mfence_any a w.heap.size b s 0 wr (EnvB.of hE hA.base) hA.hb hA.mm hth (hAl.ok 0 hth)
        rw [hG] at this
        exact this.mono fun _ _ ⟨q1, q2⟩ => ⟨q1, hA.step q2 hD⟩
      have hw0 : (s.drainAll 0 (s.waits 0)).waits 1 = [] := hD.w1
      have hw00 : (s.drainAll 0 (s.waits 0)).waits 0 = [] := Rm.drainAll_waits _ _ _ rfl
      generalize s.drainAll 0 (s.waits 0) = D at *
      have HLd : Hid (∀ k m : Nat, k < 2 → m < 4 → ∀ w', AloneAt w b rb nb N D w' → Calls Tryd.prog 37 #[.pointer (some ⟨b, 0, none⟩), .int .i64 1, .agg #[.int .i64 k, .int .i64 0], .int .i64 m] w' fun e w'' => e = .returned (.tuple #[.int .i64 (N k m), .nilIface]) ∧ Below w'.heap.size w' w'') := fun k m hk hm w' h => by
        have := mload_ok a b D 1 k m 0 w' (hE.below h.base.block) h.mm (by rw [hD.th]; decide) (by omega) (hD.has k hk) hm
        rw [hw0] at this
        have hv := hD.val k m hk hm
        rw [hw00] at hv
        rw [← hv]
        exact this
      clear hA hG hAl hth hw0 hw00 HA hD
      go_wp2_with fail
      refine HF.out.mono ?_
      rintro e6 w6 ⟨rfl, hA6⟩
      have H6 : Hid (AloneAt w b rb nb N D w6) := hA6
      clear HF hA6
      go_wp2_with fail
      go_loopw [18, 19, 20, 21] (fun kk _ _ _ wr => ∃ k : Nat, k ≤ 2 ∧ kk = .int .i64 k ∧ AloneAt w b rb nb N D wr) (fun kk _ _ _ _ => 2 - (intOf kk).toNat)
      case atStart => exact ⟨0, by decide, rfl, H6.out⟩
      case round =>
        obtain ⟨k, hk, rfl, hA7⟩ := hrel
        have H7 : Hid (AloneAt w b rb nb N D wr) := hA7
        clear H6 hA7
        by_cases hk2 : k < 2
        · have hk2i : (k : Int) < 2 := by omega
          go_wp2_with fail
          go_loopw [19, 20, 21] (fun mm _ _ wr => ∃ m : Nat, m ≤ 4 ∧ mm = .int .i64 m ∧ AloneAt w b rb nb N D wr) (fun mm _ _ _ => 4 - (intOf mm).toNat)
          case atStart => exact ⟨0, by decide, rfl, H7.out⟩
          case round =>
            obtain ⟨m, hm, rfl, hA8⟩ := hrel
            have H8 : Hid (AloneAt w b rb nb N D wr) := hA8
            clear H7
            by_cases hm4 : m < 4
            · have hm4i : (m : Int) < 4 := by omega
              obtain ⟨r0, r1⟩ := hA8.ref0 k hk2
              have HC := HLd.out k m hk2 hm4 wr hA8
              have HNw : Hid (∀ w', AloneAt w b rb nb N D w' → w'.cell? ⟨nb, 4 * k + m, none⟩ = some (.int .i64 (N k m))) := fun w' h => by
                rw [Nat.mul_comm]; exact h.now k m hk2 hm4
              clear hA8
              generalize N k m = V at HC HNw
              go_wp2_with fail
              refine HC.mono ?_
              rintro e9 w9 ⟨rfl, hb9⟩
              have H9 : Hid _ := hide (H8.out.below hb9)
              have hnow := HNw.out w9 H9.out
              clear HC HNw r0 r1 hb9 H8
              go_wp2
              go_roundw
              case rel => exact ⟨m + 1, by omega, by go_num, H9.out⟩
              case measure => simp [intOf]; omega
            · obtain rfl : m = 4 := by omega
              clear hA8
              go_wp2
              go_roundw
              case rel => exact ⟨k + 1, by omega, by go_num, H8.out⟩
              case measure => simp [intOf]; omega
        · obtain rfl : k = 2 := by omega
          go_wp2
          go_ret
          exact ⟨rfl, H7.out.base⟩
end Go.Proofs.YtcnemlamlchnkaaDoor
