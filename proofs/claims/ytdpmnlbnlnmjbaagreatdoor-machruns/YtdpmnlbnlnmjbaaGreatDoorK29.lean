import Derived.Test.YtdpmnlbnlnmjbaaGreatDoorK28
import Derived.Test.YtdpmnlbnlnmjbaaGreatDoorK17
import Derived.Test.YtdpmnlbnlnmjbaaGreatDoorK02
import Derived.Maps.AppendAt
import Derived.Laws.AppendOwnNone

/- StM -/
namespace Go.Proofs.YtdpmnlbnlnmjbaaGreatDoor
open Go.RowKit Go.Extern.Stop Go.Stop Go.Extern Go.Maps Go.WideMaps Go.Sort

def oneIns : List Ins := [⟨⟨#[99, 111, 110, 115, 116]⟩, 0, 7, 0, ⟨#[]⟩⟩, ⟨⟨#[109, 97, 114, 107]⟩, 0, 0, 0, ⟨#[]⟩⟩]
def oneSta : Sta := ⟨1, [], []⟩
theorem oneShape0 : shape (⟨#[99, 111, 110, 115, 116]⟩ : ByteArray).toList = some [114, 118] := by rw [toList_bl]; decide +kernel
theorem oneShape1 : shape (⟨#[109, 97, 114, 107]⟩ : ByteArray).toList = some [114] := by rw [toList_bl]; decide +kernel
theorem oneFault : codeFault oneIns = (0, -1) := by
  refine codeFault_none (by decide) (fun k y hy => ?_)
  match k, hy with
  | 0, hy =>
    cases hy
    rw [insFault_some oneShape0, if_neg (fun h => h (by unfold fitsP; rw [toList_bl]; decide +kernel)), if_neg (fun h => h (by unfold withinP; decide +kernel)), if_pos (by decide +kernel)]
  | 1, hy =>
    cases hy
    rw [insFault_some oneShape1, if_neg (fun h => h (by unfold fitsP; rw [toList_bl]; decide +kernel)), if_neg (fun h => h (by unfold withinP; decide +kernel)), if_pos (by decide +kernel)]
theorem oneSta_fault : (oneSta.fault [oneIns]).1 = 0 := by
  have h : 1 ≤ oneSta.cells ∧ oneSta.cells ≤ 64 ∧ 1 ≤ [oneIns].length ∧ [oneIns].length ≤ 6 ∧ oneSta.fits [oneIns].length = true := by decide
  unfold Sta.fault
  rw [if_pos h, codesFrom_none _ _ (fun t L ht => ?_)]
  match t, ht with
  | 0, ht => cases ht; rw [oneFault]

def oneA : Mk := oneSta.mach 1
theorem one1 : (oneA.stepO [oneIns] 0).1 = 0 := by kernel_rfl
theorem one2 : ((oneA.stepO [oneIns] 0).2.stepO [oneIns] 0).1 = 0 := by kernel_rfl
theorem one3 : (((oneA.stepO [oneIns] 0).2.stepO [oneIns] 0).2.stepO [oneIns] 0).1 = 9 := by kernel_rfl
theorem one4 : (((oneA.stepO [oneIns] 0).2.stepO [oneIns] 0).2.stepO [oneIns] 0).2.marks = [(0, 7)] := by kernel_rfl
theorem one5 : (((oneA.stepO [oneIns] 0).2.stepO [oneIns] 0).2.stepO [oneIns] 0).2.faults = 0 := by kernel_rfl
theorem one6 : doneAt oneIns ((((oneA.stepO [oneIns] 0).2.stepO [oneIns] 0).2.stepO [oneIns] 0).2.pc 0) = true := by kernel_rfl

theorem oneAt (w : World) : insAt (some ⟨w.heap.size, 0, none⟩) oneIns (w.alloc (.cells #[.string ⟨#[99, 111, 110, 115, 116]⟩, .int .i64 0, .int .i64 7, .int .i64 0, .string ⟨#[]⟩, .string ⟨#[109, 97, 114, 107]⟩, .int .i64 0, .int .i64 0, .int .i64 0, .string ⟨#[]⟩] 75)) := by
  intro i x hx
  refine ⟨w.heap.size, 0, rfl, ?_⟩
  match i, hx with
  | 0, hx => cases hx; exact ⟨(World.cell?_alloc_new _ _ _ _).trans rfl, (World.cell?_alloc_new _ _ _ _).trans rfl, (World.cell?_alloc_new _ _ _ _).trans rfl, (World.cell?_alloc_new _ _ _ _).trans rfl, (World.cell?_alloc_new _ _ _ _).trans rfl⟩
  | 1, hx => cases hx; exact ⟨(World.cell?_alloc_new _ _ _ _).trans rfl, (World.cell?_alloc_new _ _ _ _).trans rfl, (World.cell?_alloc_new _ _ _ _).trans rfl, (World.cell?_alloc_new _ _ _ _).trans rfl, (World.cell?_alloc_new _ _ _ _).trans rfl⟩
  | n + 2, hx => simp [oneIns] at hx

theorem oneCodes (w : World) (B : Obj) (hB : B = .cells #[.slice (some ⟨w.heap.size, 0, none⟩) 2 2] 55) : codesAt (some ⟨w.heap.size + 1, 0, none⟩) [oneIns] ((w.alloc (.cells #[.string ⟨#[99, 111, 110, 115, 116]⟩, .int .i64 0, .int .i64 7, .int .i64 0, .string ⟨#[]⟩, .string ⟨#[109, 97, 114, 107]⟩, .int .i64 0, .int .i64 0, .int .i64 0, .string ⟨#[]⟩] 75)).alloc B) := by
  intro t L ht
  match t, ht with
  | 0, ht =>
    cases ht
    refine ⟨w.heap.size + 1, 0, some ⟨w.heap.size, 0, none⟩, 2, rfl, ?_, by decide, insAt_below (oneAt w) ((Below.refl _ _).alloc (Nat.le_refl _) _), fun e => by cases e⟩
    subst hB
    simp
    rfl

theorem RunX.step {a : Nat → Addr} {cs : List (List Ins)} {p : MkPl} {m : Mk} {K : Nat} {w : World} (h : RunX a cs p m K w) (hK : K + 1 ≤ 10000000) (t : Int) :
    Calls Tryz.prog 24 #[.pointer (some ⟨p.b, 0, none⟩), .int .i64 t] w fun e w' => e = .returned (errVal a (m.stepO cs t).1) ∧ ∃ v, RunX a cs (p.marked v) (m.stepO cs t).2 (K + 1) w' ∧ MkStep a cs p w v (m.stepO cs t).2 w' :=
  (kstepO h t).mono fun e w' ⟨e1, v, e2⟩ => ⟨e1, v, h.of e2 (h.ok.stepO h.right t (by omega)) hK, e2⟩

theorem MkStep.belowB {a : Nat → Addr} {cs : List (List Ins)} {p : MkPl} {v : Value} {m m' : Mk} {w w' : World} (k : MkStep a cs p w v m' w') (h : MkAt a cs p m w) {N : Nat} (hB : N ≤ p.B) (hw : N ≤ w.heap.size) : Below N w w' :=
  k.turns.below hw (fun i o hi hf => by have := h.fp_ge hf; omega)

set_option maxRecDepth 100000 in
set_option maxHeartbeats 2000000 in
theorem one_any {a : Nat → Addr} {w : World} (hE : Env a w) :
    Calls Tryz.prog 9 #[] w fun e w' => e = .returned (.bool true) ∧ Below w.heap.size w w' := by
  obtain ⟨W2, hW2⟩ : ∃ W2, W2 = (w.alloc (.cells #[.string ⟨#[99, 111, 110, 115, 116]⟩, .int .i64 0, .int .i64 7, .int .i64 0, .string ⟨#[]⟩, .string ⟨#[109, 97, 114, 107]⟩, .int .i64 0, .int .i64 0, .int .i64 0, .string ⟨#[]⟩] 75)).alloc (.cells #[.slice (some ⟨w.heap.size, 0, none⟩) 2 2] 55) := ⟨_, rfl⟩
  have b2 : Below w.heap.size w W2 := by rw [hW2]; exact ((Below.refl _ _).alloc (Nat.le_refl _) _).alloc (by simp) _
  have HN := hide (new_any (s := oneSta) (ai := none) (ar := none) (ci := 0) (cr := 0) (ad := some ⟨w.heap.size + 1, 0, none⟩) (cap := 1) (cs := [oneIns]) (w := W2) (hE.below b2.block)
    ⟨fun i row h => by simp [oneSta] at h, fun i row h => by simp [oneSta] at h, Nat.le_refl _, Nat.le_refl _, Nat.zero_le _, Nat.zero_le _, fun i row h => by simp [oneSta] at h, fun i row h => by simp [oneSta] at h⟩
    (by rw [hW2]; exact oneCodes w _ rfl) (fun t L ht i x hx => by
      match t, ht with
      | 0, ht =>
        cases ht
        match i, hx with
        | 0, hx => cases hx; decide
        | 1, hx => cases hx; decide
        | n + 2, hx => simp [oneIns] at hx))
  have HE := hide (hE.below b2.block)
  clear hE
  go_enter Tryz.func9, Tryz.ntmps9
  go_wp2_with fail
  rw [← hW2]
  clear hW2
  refine HN.out.mono ?_
  rintro e w3 hp
  obtain ⟨hb3, hp⟩ := hp.out
  rcases hp with ⟨-, hR, p, rfl, hA, hpB, -⟩ | ⟨h, -⟩
  · have hA' : MkAt a [oneIns] p oneA w3 := hA
    have hok : MkOk [oneIns].length 1 oneA := Sta.mach_ok (s := oneSta) (n := 1) (by decide) (by decide) (by decide)
    have r0 : RunX a [oneIns] p oneA 1 w3 := ⟨hA', hok, hR, by decide⟩
    have R0 := hide (r0.step (by decide) 0)
    rw [one1, show errVal a 0 = Value.nilIface from rfl] at R0
    have hw3 : W2.heap.size ≤ w3.heap.size := hb3.size
    have H0 := hide r0
    have HB3 := hide b2
    clear hA hA' hok r0 HN b2
    go_wp2_with fail
    refine R0.out.mono ?_
    rintro e w4 ⟨rfl, v1, r1, k1⟩
    have hb4 := k1.belowB H0.out.at' hpB hw3
    have hw4 : W2.heap.size ≤ w4.heap.size := Nat.le_trans hw3 hb4.size
    have R1 := hide (r1.step (by decide) 0)
    rw [one2, show errVal a 0 = Value.nilIface from rfl] at R1
    have H1 := hide r1
    have HB4 := hide (hb3.trans hb4)
    clear R0 H0 k1 hb4 r1 hb3
    go_wp2_with fail
    refine R1.out.mono ?_
    rintro e w5 ⟨rfl, v2, r2, k2⟩
    have hb5 := k2.belowB H1.out.at' hpB hw4
    have hw5 : W2.heap.size ≤ w5.heap.size := Nat.le_trans hw4 hb5.size
    have R2 := hide (r2.step (by decide) 0)
    rw [one3, show errVal a 9 = errAt (a 8) from rfl] at R2
    have H2 := hide r2
    have HB5 := hide (HB4.out.trans hb5)
    clear R1 H1 k2 hb5 r2
    go_wp2_with fail
    refine R2.out.mono ?_
    rintro e w6 ⟨rfl, v3, r3, k3⟩
    have hb6 := k3.belowB H2.out.at' hpB hw5
    have HB6 := hide (HB5.out.trans hb6)
    have HC := hide (coded_err a 9 (by decide) 9 w6 (HE.out.below HB6.out.block))
    rw [show errVal a 9 = errAt (a 8) from rfl, show decide (((9 : Nat) : Int) = 9) = true from by decide] at HC
    have HM := hide (fun w' (hb : Below w6.heap.size w6 w') => kmarks_any (r3.at'.below hb) (by rw [one4]; decide))
    have HD := hide (fun w' (hb : Below w6.heap.size w6 w') => kdone_any (t := 0) (L := oneIns) rfl (r3.at'.below hb))
    have HFl := hide (fun w' (hb : Below w6.heap.size w6 w') => kfaults_any (r3.at'.below hb))
    rw [one6] at HD
    rw [one5] at HFl
    rw [one4] at HM
    clear R2 H2 k3 hb6 r3 hw3 hw4 hw5
    go_wp2_with fail
    refine HC.out.mono ?_
    rintro e w7 ⟨rfl, hb7⟩
    have HB7 := hide (HB6.out.trans (hb7.mono HB6.out.size))
    have HM7 := hide (HM.out w7 hb7)
    clear HM HC
    go_wp2_with fail
    refine HM7.out.mono ?_
    rintro e w8 ⟨ad, cap, rfl, hown, hb8⟩
    obtain ⟨g, c, e1, hcl, -, hcell⟩ := ownsRow_shape hown
    obtain ⟨g2, e2, c1⟩ := hcell 1 (.int .i64 7) rfl
    cases e1
    subst e2
    have b78 := below_step hb7 hb8
    have HB8 := hide (HB7.out.trans (hb8.mono HB7.out.size))
    have HD8 := hide (HD.out w8 b78)
    clear HM7 HD hown hcell hb7 hb8
    go_wp2_with fail
    refine HD8.out.mono ?_
    rintro e w9 ⟨rfl, hb9⟩
    have HF9 := hide (HFl.out w9 (below_step b78 hb9))
    have HB9 := hide (HB8.out.trans (hb9.mono HB8.out.size))
    clear HD8 HFl
    go_wp2_with fail
    refine HF9.out.mono ?_
    rintro e w10 ⟨rfl, rfl⟩
    go_wp2
    go_ret
    exact ⟨rfl, HB3.out.trans (HB9.out.mono HB3.out.size)⟩
  · exact absurd oneSta_fault h
end Go.Proofs.YtdpmnlbnlnmjbaaGreatDoor

/- StK -/
namespace Go.Proofs.YtdpmnlbnlnmjbaaGreatDoor
open Go.RowKit Go.Extern.Stop Go.Stop Go.Extern Go.Maps Go.WideMaps Go.Sort

set_option maxRecDepth 20000 in
set_option maxHeartbeats 2000000 in
theorem vast_any {s : Sta} {ai ar ad : Option Addr} {ci cr cap : Nat} {cs : List (List Ins)} {w : World} (hs : StaAt s ⟨ai, ci, ar, cr⟩ w) (hl : codesAt ad cs w) (hc : cs.length ≤ 9223372036854775807) (hL : ∀ (t : Nat) L, cs[t]? = some L → L.length ≤ 9223372036854775807) :
    Calls Tryz.prog 10 #[.agg #[.int .i64 s.cells, .slice ai s.init.length ci, .slice ar s.regs.length cr], .slice ad cs.length cap] w fun e w' => ∃ v : Int, Hid (v = 0 ∨ v = 1) ∧ e = .returned (.int .i64 v) ∧ Below w.heap.size w w' := by
  obtain ⟨w1, hw1⟩ : ∃ w1, w1 = w.alloc (.cells #[.int .i64 s.cells, .slice ai s.init.length ci, .slice ar s.regs.length cr] 24) := ⟨_, rfl⟩
  have b1 : Below w.heap.size w w1 := by rw [hw1]; exact (Below.refl _ _).alloc (Nat.le_refl _) _
  have e1 : w1.cell? ⟨w.heap.size, 1, none⟩ = some (.slice ai s.init.length ci) := by rw [hw1]; simp
  have e2 : w1.cell? ⟨w.heap.size, 2, none⟩ = some (.slice ar s.regs.length cr) := by rw [hw1]; simp
  have HS := hide (hs.below b1)
  have HL := hide (hl.below b1)
  have HLen := hide hL
  have li := hs.li
  have lr := hs.lr
  have lii : (s.init.length : Int) ≤ 9223372036854775807 := by omega
  have lri : (s.regs.length : Int) ≤ 9223372036854775807 := by omega
  have lci : (cs.length : Int) ≤ 9223372036854775807 := by omega
  clear hs hl hL
  go_enter Tryz.func10, Tryz.ntmps10
  go_wp2_with fail
  rw [← hw1]
  clear hw1
  go_loopw [5, 6] (fun c x wr => ∃ j : Nat, j ≤ s.init.length ∧ x = .int .i64 j ∧ (∃ v, c = .int .i64 v) ∧ wr = w1) (fun _ x _ => s.init.length - (intOf x).toNat)
  case atStart => exact ⟨0, Nat.zero_le _, rfl, ⟨_, rfl⟩, rfl⟩
  case round =>
    obtain ⟨j, hj, rfl, ⟨v, rfl⟩, rfl⟩ := hrel
    by_cases hlt : j < s.init.length
    · obtain ⟨row, hrow⟩ : ∃ x, s.init[j]? = some x := ⟨_, List.getElem?_eq_getElem hlt⟩
      obtain ⟨b, off, adr, capr, hq, c0, hcp, -⟩ := HS.out.init j row hrow
      obtain rfl : ai = some ⟨b, off, none⟩ := hq
      have ji : (j : Int) < s.init.length := by omega
      clear hrow
      go_wp2
      go_roundw
      case rel => exact ⟨j + 1, by omega, by go_num, ⟨_, rfl⟩, by first | trivial | rfl⟩
      case measure => simp [intOf]; omega
    · obtain rfl : j = s.init.length := by omega
      go_wp2_with fail
      go_loopw [5, 7] (fun c x wr' => ∃ j : Nat, j ≤ s.regs.length ∧ x = .int .i64 j ∧ (∃ v, c = .int .i64 v) ∧ wr' = wr) (fun _ x _ => s.regs.length - (intOf x).toNat)
      case atStart => exact ⟨0, Nat.zero_le _, rfl, ⟨_, rfl⟩, rfl⟩
      case round =>
        obtain ⟨j, hj, rfl, ⟨v, rfl⟩, rfl⟩ := hrel
        by_cases hlt : j < s.regs.length
        · obtain ⟨row, hrow⟩ : ∃ x, s.regs[j]? = some x := ⟨_, List.getElem?_eq_getElem hlt⟩
          obtain ⟨b, off, adr, capr, hq, c0, hcp, -⟩ := HS.out.regs j row hrow
          obtain rfl : ar = some ⟨b, off, none⟩ := hq
          have ji : (j : Int) < s.regs.length := by omega
          clear hrow
          go_wp2
          go_roundw
          case rel => exact ⟨j + 1, by omega, by go_num, ⟨_, rfl⟩, by first | trivial | rfl⟩
          case measure => simp [intOf]; omega
        · obtain rfl : j = s.regs.length := by omega
          go_wp2_with fail
          clear e1 e2 HS li lr lii lri
          generalize wr = wZ at *
          have H1 := hide (Below.refl wZ.heap.size wZ)
          go_loopw [5, 8, 9] (fun c x _ wr' => ∃ j : Nat, j ≤ cs.length ∧ x = .int .i64 j ∧ (∃ v, c = .int .i64 v) ∧ Below wZ.heap.size wZ wr') (fun _ x _ _ => cs.length - (intOf x).toNat)
          case atStart => exact ⟨0, Nat.zero_le _, rfl, ⟨_, rfl⟩, H1.out⟩
          case round =>
            obtain ⟨j, hj, rfl, ⟨v, rfl⟩, hB⟩ := hrel
            by_cases hlt : j < cs.length
            · obtain ⟨L, hLj⟩ : ∃ x, cs[j]? = some x := ⟨_, List.getElem?_eq_getElem hlt⟩
              obtain ⟨b, off, adl, capl, rfl, cW, hcp, hins, -⟩ := HL.out j L hLj
              have ji : (j : Int) < cs.length := by omega
              have c0 := keep_cell hB cW
              have HI := hide hins
              have hl1 := HLen.out j L hLj
              have hl2 : (L.length : Int) ≤ 9223372036854775807 := by omega
              have HB := hide hB
              clear hLj hins hB
              go_wp2_with fail
              go_loopw [5, 9] (fun c x wr' => ∃ k : Nat, k ≤ L.length ∧ x = .int .i64 k ∧ (∃ v, c = .int .i64 v) ∧ Below wZ.heap.size wZ wr') (fun _ x _ => L.length - (intOf x).toNat)
              case atStart => exact ⟨0, Nat.zero_le _, rfl, ⟨_, rfl⟩, HB.out⟩
              case round =>
                obtain ⟨k, hk, rfl, ⟨v, rfl⟩, hB2⟩ := hrel
                replace c0 := keep_cell hB2 cW
                have HB2 := hide hB2
                by_cases hkl : k < L.length
                · obtain ⟨x, hx⟩ : ∃ x, L[k]? = some x := ⟨_, List.getElem?_eq_getElem hkl⟩
                  obtain ⟨b2, off2, rfl, a0, -, -, -, a4⟩ := insAt_below HI.out hB2 k x hx
                  have ki : (k : Int) < L.length := by omega
                  clear hx hB2
                  go_wp2_with fail
                  go_quiet (fail)
                  have H5 := hide (below_dN HB2.out nq)
                  go_wp2
                  go_roundw
                  case rel => exact ⟨k + 1, by omega, by go_num, ⟨_, rfl⟩, H5.out⟩
                  case measure => simp [intOf]; omega
                · obtain rfl : k = L.length := by omega
                  clear hB2
                  go_wp2
                  go_roundw
                  case rel => exact ⟨j + 1, by omega, by go_num, ⟨_, rfl⟩, HB2.out⟩
                  case measure => simp [intOf]; omega
            · obtain rfl : j = cs.length := by omega
              have HB := hide (below_step b1 hB)
              clear hB HL HLen
              by_cases h6 : 600 < v
              · go_wp2
                go_ret
                exact ⟨1, Or.inr rfl, rfl, HB.out⟩
              · go_wp2
                go_ret
                exact ⟨0, Or.inl rfl, rfl, HB.out⟩
end Go.Proofs.YtdpmnlbnlnmjbaaGreatDoor

/- StO -/
namespace Go.Proofs.YtdpmnlbnlnmjbaaGreatDoor
open Go.RowKit Go.Extern.Stop Go.Stop Go.Extern Go.Maps Go.WideMaps Go.Sort

theorem intInfo : ∃ i, (Tryz.prog).info? 3 = some i ∧ i.zero = some (.int .i64 0) ∧ i.size = 1 ∧ i.bytes = 8 := info_parts (by kernel_rfl)

theorem nums_of_row {w : World} {base n : Nat} {v : Value} {l : List Int} (h : w.ownsRow base 3 1 v n (l.map (Value.int .i64))) (hn : n = l.length) : ∃ ad cap, v = .slice ad l.length cap ∧ l.length ≤ cap ∧ numsAt ad l w ∧ ∀ b off, ad = some ⟨b, off, none⟩ → base ≤ b ∧ b < w.heap.size := by
  subst hn
  obtain ⟨g, c, rfl, h1, -, h3⟩ := ownsRow_shape h
  refine ⟨g, c, rfl, h1, fun i x hx => ?_, fun b off e => h.lt b (by rw [e]; rfl)⟩
  obtain ⟨gg, e, hc⟩ := h3 i (.int .i64 x) (by rw [List.getElem?_map, hx]; rfl)
  exact ⟨gg, 0, e, by rw [Nat.zero_add]; exact hc⟩

theorem wpList_append_nums {ops : Array Oper} {rest : List Oper} {o : Oper} {a : Act} {w : World} {Q : Exit → Act → World → Prop} (hgd : o.guard = none) (s x : Operand)
    (ho : o.op = .call { callee := .builtin .append, args := #[s, x], argTypes := #[26, 26] }) (ad : Option Addr) (cap : Nat) (l : List Int) (hs : a.eval s = .slice none 0 0) (hx : a.eval x = .slice ad l.length cap)
    (hl : numsAt ad l w) (hnil : ad = none → l = [] ∧ cap = 0) (h3 : l.length ≤ 20000)
    (h : ∀ ad' cap' w', l.length ≤ cap' → numsAt ad' l w' → (∀ b off, ad' = some ⟨b, off, none⟩ → w.heap.size ≤ b ∧ b < w'.heap.size) → Below w.heap.size w w' → wpList Tryz.prog ops Q rest (a.put o.dst (.slice ad' l.length cap')) w') : wpList Tryz.prog ops Q (o :: rest) a w := by
  obtain ⟨ri, hri, hrz, hrs, hrb⟩ := intInfo
  cases ad with
  | none =>
    obtain ⟨rfl, rfl⟩ := hnil rfl
    exact wpList_append_own_none hgd s x 26 ho w.heap.size 3 ri 1 Tryz.underlying26 hri (.slice none 0 0) 0 [] hs (World.ownsRow_nil _ _ _ _) hx (h none 0 w (Nat.le_refl _) (fun i x hx => by simp at hx) (fun b off e => nomatch e) (Below.refl _ _))
  | some x' =>
    refine wpList_append_own_at w hgd s x 26 ho w.heap.size 3 ri (.int .i64 0) 1 8 Tryz.underlying26 hri hrz hrs hrb rfl (by decide) (.slice none 0 0) 0 [] hs (World.ownsRow_nil _ _ _ _) x' l.length cap (l.map (Value.int .i64)) hx (by rw [List.length_map, Nat.mul_one]) (fun j u hj => ?_) (fun u hu => ?_) (by unfold maxLen; omega) (by omega) (Nat.le_refl _) (fun v' w' hown hg _ hloc => ?_)
    · rw [List.getElem?_map] at hj
      cases hxj : l[j]? with
      | none => rw [hxj] at hj; cases hj
      | some y =>
        rw [hxj] at hj; cases hj
        obtain ⟨_, _, e, c⟩ := hl j y hxj
        cases e
        rw [Addr.add_lit]; exact c
    · obtain ⟨y, _, rfl⟩ := List.mem_map.1 hu; rfl
    · obtain ⟨ad', cap', rfl, h1, h2, h4⟩ := nums_of_row (l := l) (by simpa using hown) (by simp)
      exact h ad' cap' w' h1 h2 (fun b off e => h4 b off e) ((Below.refl _ w).grown hg (Nat.le_refl _) (fun k hk => by cases hk))

theorem startOf_any {s : Sta} {ai ar : Option Addr} {ci cr : Nat} (w : World) :
    Calls Tryz.prog 12 #[.agg #[.int .i64 s.cells, .slice ai s.init.length ci, .slice ar s.regs.length cr]] w fun e w' => e = .returned (.agg #[.int .i64 s.cells, .slice ai s.init.length ci, .slice ar s.regs.length cr]) ∧ Below w.heap.size w w' := by
  go_enter Tryz.func12, Tryz.ntmps12
  go_wp2
  refine bodyPost_ret (v := .agg #[.int .i64 s.cells, .slice ai s.init.length ci, .slice ar s.regs.length cr]) (by simp only [results, Tryz.results12]; go_simp) rfl ⟨rfl, ?_⟩
  exact ((Below.refl _ _).alloc (Nat.le_refl _) _).alloc (by simp) _
end Go.Proofs.YtdpmnlbnlnmjbaaGreatDoor
