/- The law ClientChecks answers true for every client that can be handed in; no condition beside the row's own. -/
import Derived.Test.YtoialadjpcdbaaaGreatDoorA40
import Derived.Test.YtoialadjpcdbaaaGreatDoorA41
import Derived.Deep.RegionHeld3
import Derived.Test.YtoialadjpcdbaaaGreatDoorA02
import Derived.Test.YtoialadjpcdbaaaGreatDoorA37
import Derived.Test.YtoialadjpcdbaaaGreatDoorCards
import Derived.Carry

/- ClI -/
namespace Go.Proofs.YtoialadjpcdbaaaGreatDoor
open Go.RowKit Go.Extern.Stop Go.Stop Go.Extern Go.Maps Go.WideMaps Go.Sort

theorem folE_le : ∀ (l : List OpI) (s : CrI), folE s l ≤ 8
  | [], s => by unfold folE; split <;> omega
  | x :: l, s => by
    unfold folE
    split
    · unfold shErr; split
      · split <;> omega
      · split <;> omega
    · split
      · unfold ckErr
        split
        · split <;> omega
        split
        · split <;> omega
        split
        · split <;> omega
        split
        · split <;> omega
        · omega
      · exact folE_le l (s.pass x)
theorem eachFrom_le : ∀ (cl : List (List OpI)) (t : Nat), (eachFrom cl t).1 ≤ 8
  | [], _ => Nat.zero_le _
  | L :: r, t => by
    unfold eachFrom
    split
    · exact folE_le L _
    · exact eachFrom_le r (t + 1)
theorem eachE_le (cl : List (List OpI)) : (eachE cl).1 ≤ 8 := by
  unfold eachE
  split
  · exact eachFrom_le _ _
  · show 2 ≤ 8
    decide
theorem faulted2_any (a : Nat → Addr) (f : Nat × Int) (v : Value) (B : Nat) (w : World) (hE : Env a w) (hf : f.1 ≤ 9) (h : errIs a f v w B) :
    Calls Tryz.prog 10 #[v, .agg #[.int .i64 f.1, .int .i64 f.2]] w fun e w' => e = .returned (.bool true) ∧ Below w.heap.size w w' := by
  obtain ⟨f1, f2⟩ := f
  dsimp only at *
  obtain ⟨W0, hW0⟩ : ∃ W0, W0 = w.alloc (.cells #[.int .i64 f1, .int .i64 f2] 31) := ⟨_, rfl⟩
  have B0 : Below w.heap.size w W0 := by rw [hW0]; exact (Below.refl _ _).alloc (Nat.le_refl _) _
  have q0 : W0.cell? ⟨w.heap.size, 0, none⟩ = some (.int .i64 f1) := by rw [hW0]; simp
  have q1 : W0.cell? ⟨w.heap.size, 1, none⟩ = some (.int .i64 f2) := by rw [hW0]; simp
  have E0 := hE.below B0.block
  have h := errIs_below h B0
  rcases h with ⟨h0, rfl⟩ | ⟨h0, h1, rfl⟩ | ⟨h0, j, N, h1, h2, rfl, h4, h5⟩
  · dsimp only at h0
    subst h0
    have HC := hide (code_nil W0)
    rw [show ((0 : Nat) : Int) = 0 from rfl] at hW0 q0 ⊢
    go_enter Tryz.func10, Tryz.ntmps10
    go_wp2_with fail
    rw [← hW0]
    refine HC.out.mono ?_
    rintro e w1 ⟨rfl, rfl⟩
    go_wp2_with fail
    refine bodyPost_ret (v := .bool true) (by simp only [results, Tryz.results10]; go_simp) rfl ⟨rfl, hW0 ▸ B0⟩
  · dsimp only at h0 h1
    subst h1
    obtain ⟨k, rfl⟩ : ∃ k, f1 = k + 1 := ⟨f1 - 1, by omega⟩
    have HC := hide (code_sent a k (by omega) W0 E0)
    have hk : ((k + 1 : Nat) : Int) = k + 1 := by omega
    rw [hk] at HC hW0 q0 ⊢
    rw [show xval a (k + 1) = errAt (a k) from rfl]
    go_enter Tryz.func10, Tryz.ntmps10
    go_wp2_with fail
    rw [← hW0]
    refine HC.out.mono ?_
    rintro e w1 ⟨rfl, hb1⟩
    have hk0 : ¬ ((k : Int) + 1 = 0) := by omega
    replace q0 := keep_cell hb1 q0
    replace q1 := keep_cell hb1 q1
    go_wp2_with fail
    refine bodyPost_ret (v := .bool true) (by simp only [results, Tryz.results10]; go_simp) rfl ⟨rfl, below_step B0 hb1⟩
  · dsimp only at h0 h1
    subst h1
    obtain ⟨k, rfl⟩ : ∃ k, f1 = k + 1 := ⟨f1 - 1, by omega⟩
    have HC := hide (code_fault a k (by omega) N 0 j W0 E0 h4 h5)
    have hk : ((k + 1 : Nat) : Int) = k + 1 := by omega
    rw [hk] at HC hW0 q0 ⊢
    go_enter Tryz.func10, Tryz.ntmps10
    go_wp2_with fail
    rw [← hW0]
    refine HC.out.mono ?_
    rintro e w1 ⟨rfl, hb1⟩
    have hk0 : ¬ ((k : Int) + 1 = 0) := by omega
    replace q0 := keep_cell hb1 q0
    replace q1 := keep_cell hb1 q1
    go_wp2_with fail
    refine bodyPost_ret (v := .bool true) (by simp only [results, Tryz.results10]; go_simp) rfl ⟨rfl, below_step B0 hb1⟩

def lngB (cl : List (List OpI)) : Bool := decide (10 < cl.length) || cl.any fun L => decide (30 < L.length) || L.any fun x => decide (100 < x.kind.size)
theorem lngB_hit {cl : List (List OpI)} {k : Nat} {L : List OpI} (h : cl[k]? = some L) (hL : 30 < L.length) : lngB cl = true := by
  unfold lngB
  rw [Bool.or_eq_true, List.any_eq_true]
  exact .inr ⟨L, List.mem_of_getElem? h, by rw [decide_eq_true hL]; rfl⟩
theorem lngB_hit2 {cl : List (List OpI)} {k j : Nat} {L : List OpI} {x : OpI} (h : cl[k]? = some L) (hx : L[j]? = some x) (hL : 100 < x.kind.size) : lngB cl = true := by
  unfold lngB
  rw [Bool.or_eq_true, List.any_eq_true]
  refine .inr ⟨L, List.mem_of_getElem? h, ?_⟩
  rw [Bool.or_eq_true, List.any_eq_true]
  exact .inr ⟨x, List.mem_of_getElem? hx, decide_eq_true hL⟩
def okTo (cl : List (List OpI)) (k : Nat) : Prop := ∀ (t : Nat) L, t < k → cl[t]? = some L → L.length ≤ 30 ∧ ∀ x ∈ L, x.kind.size ≤ 100
theorem lngB_none {cl : List (List OpI)} (h0 : cl.length ≤ 10) (h : okTo cl cl.length) : lngB cl = false := by
  unfold lngB
  rw [decide_eq_false (by omega), Bool.false_or, List.any_eq_false]
  intro L hL
  obtain ⟨t, ht, rfl⟩ := List.getElem_of_mem hL
  obtain ⟨h1, h2⟩ := h t _ ht (List.getElem?_eq_getElem ht)
  rw [decide_eq_false (by omega), Bool.false_or]
  intro hh
  rw [List.any_eq_true] at hh
  obtain ⟨x, hx, hd⟩ := hh
  have := of_decide_eq_true hd
  have := h2 x hx
  omega
theorem lngB_what {cl : List (List OpI)} (h : lngB cl = false) : cl.length ≤ 10 ∧ ∀ L ∈ cl, L.length ≤ 30 := by
  unfold lngB at h
  rw [Bool.or_eq_false_iff] at h
  refine ⟨by have := of_decide_eq_false h.1; omega, fun L hL => ?_⟩
  have h2 := List.any_eq_false.1 h.2 L hL
  by_cases h3 : 30 < L.length
  · exact absurd (by rw [decide_eq_true h3]; rfl) h2
  · omega
set_option maxRecDepth 20000 in
set_option maxHeartbeats 2000000 in
theorem long_any {ad : Option Addr} {cl : List (List OpI)} {cap : Nat} {w : World} (h : opRowsAt ad cl w) :
    Calls Tryz.prog 6 #[.slice ad cl.length cap] w fun e w' => e = .returned (.bool (lngB cl)) ∧ w' = w := by
  by_cases h10 : 10 < cl.length
  · have hf : lngB cl = true := by unfold lngB; rw [decide_eq_true h10]; rfl
    rw [hf]
    have i1 : 10 < (cl.length : Int) := by omega
    generalize cl.length = n at *
    clear h
    go_enter Tryz.func6, Tryz.ntmps6
    go_wp2_with fail
    go_ret
    exact ⟨rfl, rfl⟩
  · have i1 : ¬ 10 < (cl.length : Int) := by omega
    have HH := hide h
    have HZ := hide (lngB_none (cl := cl) (by omega))
    obtain ⟨n, hn⟩ : ∃ n, Hid (cl.length = n) := ⟨_, hide rfl⟩
    rw [hn.out] at i1 HZ ⊢
    clear h h10
    go_enter Tryz.func6, Tryz.ntmps6
    go_wp2_with fail
    go_loopw [3, 4] (fun i _ wr => ∃ j : Nat, j ≤ n ∧ i = .int .i64 j ∧ Hid (okTo cl j) ∧ w = wr) (fun i _ _ => n - (intOf i).toNat)
    case atStart => exact ⟨0, Nat.zero_le _, rfl, hide (fun t L ht => absurd ht (Nat.not_lt_zero _)), (by first | rfl | trivial)⟩
    case round =>
      obtain ⟨j, hj, rfl, HA, rfl⟩ := hrel
      by_cases hlt : j < n
      · have ji : (j : Int) < n := by omega
        obtain ⟨L, hL⟩ : ∃ L, cl[j]? = some L := ⟨_, List.getElem?_eq_getElem (by rw [hn.out]; exact hlt)⟩
        have HL := hide hL
        obtain ⟨b, off, adl, capl, rfl, c0, ho⟩ := HH.out j L hL
        have HO := hide ho
        obtain ⟨ln, hln⟩ : ∃ ln, Hid (L.length = ln) := ⟨_, hide rfl⟩
        rw [hln.out] at c0
        clear hL ho
        by_cases he : 30 < ln
        · have HA2 : Hid (lngB cl = true) := hide (lngB_hit HL.out (by rw [hln.out]; exact he))
          have hi : 30 < (ln : Int) := by omega
          clear HA he
          go_wp2_with fail
          go_ret
          exact ⟨by rw [HA2.out]; rfl, rfl⟩
        · have hi : ¬ 30 < (ln : Int) := by omega
          go_wp2_with fail
          go_loopw [4] (fun i wr => ∃ k : Nat, k ≤ ln ∧ i = .int .i64 k ∧ Hid (∀ (t : Nat) x, t < k → L[t]? = some x → x.kind.size ≤ 100) ∧ w = wr) (fun i _ => ln - (intOf i).toNat)
          case atStart => exact ⟨0, Nat.zero_le _, rfl, hide (fun t x ht => absurd ht (Nat.not_lt_zero _)), (by first | rfl | trivial)⟩
          case round =>
            obtain ⟨k, hk, rfl, HB, rfl⟩ := hrel
            by_cases hkl : k < ln
            · have kj : (k : Int) < ln := by omega
              obtain ⟨x, hx⟩ : ∃ x, L[k]? = some x := ⟨_, List.getElem?_eq_getElem (by rw [hln.out]; exact hkl)⟩
              have HX := hide hx
              obtain ⟨b2, off2, rfl, d0, -⟩ := HO.out k x hx
              obtain ⟨xk, xn⟩ := x
              dsimp only at d0
              clear hx
              by_cases hs : 100 < xk.size
              · have HA2 : Hid (lngB cl = true) := hide (lngB_hit2 HL.out HX.out hs)
                have si : 100 < (xk.size : Int) := by omega
                go_wp2_with fail
                go_ret
                exact ⟨by rw [HA2.out]; rfl, rfl⟩
              · have si : ¬ 100 < (xk.size : Int) := by omega
                have HB2 : Hid (∀ (t : Nat) x, t < k + 1 → L[t]? = some x → x.kind.size ≤ 100) := hide (fun t x ht hx => by
                  by_cases e : t = k
                  · subst e
                    rw [HX.out] at hx
                    cases hx
                    show xk.size ≤ 100
                    omega
                  · exact HB.out t x (by omega) hx)
                clear HB
                go_wp2_with fail
                go_roundw
                case rel => exact ⟨k + 1, by omega, by go_num, HB2, (by first | rfl | trivial)⟩
                case measure => simp [intOf]; omega
            · obtain rfl : k = ln := by omega
              have HA2 : Hid (okTo cl (j + 1)) := hide (fun t L' ht hL' => by
                by_cases e : t = j
                · subst e
                  rw [HL.out] at hL'
                  cases hL'
                  refine ⟨by rw [hln.out]; omega, fun x hx => ?_⟩
                  obtain ⟨u, hu, rfl⟩ := List.getElem_of_mem hx
                  exact HB.out u _ (by rw [← hln.out]; exact hu) (List.getElem?_eq_getElem hu)
                · exact HA.out t L' (by omega) hL')
              clear HB HA
              go_wp2_with fail
              go_roundw
              case rel => exact ⟨j + 1, by omega, by go_num, HA2, (by first | rfl | trivial)⟩
              case measure => simp [intOf]; omega
      · obtain rfl : j = n := by omega
        have HF := hide (HZ.out HA.out)
        go_wp2_with fail
        go_ret
        exact ⟨by rw [HF.out]; rfl, rfl⟩
end Go.Proofs.YtoialadjpcdbaaaGreatDoor

/- ClO -/
namespace Go.Proofs.YtoialadjpcdbaaaGreatDoor
open Go.RowKit Go.Extern.Stop Go.Stop Go.Extern Go.Maps Go.WideMaps Go.Sort

set_option maxRecDepth 20000 in
set_option maxHeartbeats 4000000 in
theorem clchecks_any {a : Nat → Addr} {w : World} (hE : Env a w) {ad : Option Addr} {cl : List (List OpI)} {cap : Nat} (ho : opRowsAt ad cl w) :
    Calls Tryz.prog 3 #[.slice ad cl.length cap] w fun e w' => e = .returned (.bool true) ∧ Below w.heap.size w w' := by
  have HBT := hide (built_any hE)
  have HE := hide hE
  have HO := hide ho
  have HLG := hide (fun W (hb : Below w.heap.size w W) => long_any (cap := cap) (ho.below hb))
  cases hlg : lngB cl
  · rw [hlg] at HLG
    obtain ⟨h10, h30⟩ := lngB_what hlg
    have HOF := hide (fun W (hb : Below w.heap.size w W) => opsof_any (cap := cap) (ho.below hb) h10 h30)
    have HSF := hide (fun (ad' : Option Addr) (cap' : Nat) W (hb : Below w.heap.size w W) (h : opRowsAt ad' cl W) => clsafe_ok (cap := cap') (hE.below hb.block) h)
    have HCH := hide (fun (ad' : Option Addr) (cap' : Nat) W (hb : Below w.heap.size w W) (h : opRowsAt ad' cl W) => clcheck_ok (cap := cap') (hE.below hb.block) h)
    have HFT := hide (fun W (hb : Below w.heap.size w W) => clfault_any (cap := cap) (ho.below hb))
    have HFA := hide (fun (v : Value) (B : Nat) W (hb : Below w.heap.size w W) (h : errIs a (eachE cl) v W B) => faulted2_any a (eachE cl) v B W (hE.below hb.block) (by have := eachE_le cl; omega) h)
    have HEB : Hid (∀ (v : Value) (B : Nat) (W W' : World), errIs a (eachE cl) v W B → Below W.heap.size W W' → errIs a (eachE cl) v W' B) := hide (fun v B W W' h hb => errIs_below h hb)
    clear hE ho h10 h30 hlg
    generalize (decide ((eachE cl).1 = 0) && eachS cl) = X at *
    generalize eachE cl = F at *
    obtain ⟨f1, f2⟩ := F
    dsimp only at HFT HFA
    generalize cl.length = n at *
    go_enter Tryz.func3, Tryz.ntmps3
    go_wp2_with fail
    refine HBT.out.mono ?_
    rintro e w1 ⟨rfl, hb1⟩
    have HB1 := hide hb1
    clear hb1 HBT
    go_wp2_with fail
    refine (HLG.out _ HB1.out).mono ?_
    rintro e w2 ⟨rfl, e2⟩
    obtain rfl : w1 = w2 := e2.symm
    go_wp2_with fail
    refine (HOF.out _ HB1.out).mono ?_
    rintro e w3 ⟨ad3, cap3, rfl, ho3, hb3⟩
    have HB3 := hide (below_step HB1.out hb3)
    have HO3 := hide ho3
    clear ho3 hb3
    go_wp2_with fail
    refine (HSF.out _ _ _ HB3.out HO3.out).mono ?_
    rintro e w4 ⟨v4, rfl, he4, hb4⟩
    have HB4 := hide (below_step HB3.out hb4)
    have HV4 := hide he4
    clear he4 hb4 HO3
    go_wp2_with fail
    refine (HFT.out _ HB4.out).mono ?_
    rintro e w5 ⟨rfl, hb5⟩
    have HB5 := hide (below_step HB4.out hb5)
    have HV5 := hide (HEB.out _ _ _ _ HV4.out hb5)
    clear hb5 HB4 HV4
    have q0 : (w5.alloc (.cells #[.int .i64 f1, .int .i64 f2] 31)).cell? ⟨w5.heap.size, 0, none⟩ = some (.int .i64 f1) := by simp
    have q1 : (w5.alloc (.cells #[.int .i64 f1, .int .i64 f2] 31)).cell? ⟨w5.heap.size, 1, none⟩ = some (.int .i64 f2) := by simp
    have HB6 : Hid (Below w.heap.size w (w5.alloc (.cells #[.int .i64 f1, .int .i64 f2] 31))) := hide (HB5.out.alloc HB5.out.size _)
    have HV6 := hide (HEB.out _ _ _ _ HV5.out ((Below.refl w5.heap.size w5).alloc (Nat.le_refl _) (.cells #[.int .i64 f1, .int .i64 f2] 31)))
    go_wp2_with fail
    generalize w5.alloc (.cells #[.int .i64 f1, .int .i64 f2] 31) = W6 at *
    generalize w5.heap.size = bx at *
    have r0 := keep_cell (Below.drewN' 1) q0
    have r1 := keep_cell (Below.drewN' 1) q1
    have HBD : Hid (Below w.heap.size w (W6.drewN 1)) := hide (below_step HB6.out (Below.drewN' 1))
    have HVD := hide (HEB.out _ _ _ _ HV6.out (Below.drewN' (w := W6) 1))
    clear HB1 HB3 HB5 HB6 HV5 HV6 r0 r1
    have hXX : (X == X) = true := by cases X <;> rfl
    go_region_held3 (fun w' => w'.cell? ⟨bx, 0, none⟩ = some (.int .i64 f1) ∧ w'.cell? ⟨bx, 1, none⟩ = some (.int .i64 f2))
      (first
        | go_keep
        | (go_split_ands
           refine ⟨?_, ?_⟩
           · (refine keep_cell hbk ?_; assumption)
           · (refine keep_cell hbk ?_; assumption)))
      (first
        | (go_at_call 8; refine (HOF.out _ HBD.out).mono ?_; rintro e7 w7 ⟨ad7, cap7, rfl, ho7, hbk⟩; have HO7 := hide ho7; have HB7 := hide (below_step HBD.out hbk); have HV7 := hide (HEB.out _ _ _ _ HVD.out hbk); clear ho7)
        | (go_at_call 11; clear hbk; refine (HCH.out _ _ _ HB7.out HO7.out).mono ?_; rintro e8 w8 ⟨v8, rfl, hv8, hbk⟩; have HB8 := hide (below_step HB7.out hbk); have HV8 := hide (HEB.out _ _ _ _ HV7.out hbk); have HU8 := hide hv8; clear hv8)
        | (go_at_call 10; clear hbk; refine (HFA.out _ _ _ HB9.out HV9.out).mono ?_; rintro e10 w10 ⟨rfl, hbk⟩; have HB10 := hide (below_step HB9.out hbk))
        | (go_at_call 10; clear hbk; refine (HFA.out _ _ _ HB8.out HU8.out).mono ?_; rintro e9 w9 ⟨rfl, hbk⟩; have HB9 := hide (below_step HB8.out hbk); have HV9 := hide (HEB.out _ _ _ _ HV8.out hbk)))
    all_goals
      go_wp2_with fail
      exact bodyPost_ret (v := .bool true) (by simp only [results, Tryz.results3]; go_simp) rfl ⟨rfl, HB10.out⟩
  · rw [hlg] at HLG
    clear hE ho hlg
    generalize cl.length = n at *
    go_enter Tryz.func3, Tryz.ntmps3
    go_wp2_with fail
    refine HBT.out.mono ?_
    rintro e w1 ⟨rfl, hb1⟩
    have HB1 := hide hb1
    clear hb1
    go_wp2_with fail
    refine (HLG.out _ HB1.out).mono ?_
    rintro e w2 ⟨rfl, e2⟩
    obtain rfl : w1 = w2 := e2.symm
    go_wp2_with fail
    go_ret
    exact ⟨rfl, HB1.out⟩
end Go.Proofs.YtoialadjpcdbaaaGreatDoor

/- ClT -/
namespace Go.Proofs.YtoialadjpcdbaaaGreatDoor
open Go.ChangeShapes Go.WideShapes Go.ChangeAt Go.RowKit Go.Joins Go.Deep

theorem trodAll_oneC {H : Type} {enc : TypeId × Value → H} {P : Program} {w : World} {base : Nat} {spare : Nat → Bool} {held : Bool} {t : TypeId} {args : Array Value} {ds : List (DataW H)} {ps : List MemPlace} (h : DataW.TrodAll enc P w base spare held [t] args.toList ds ps) :
    ∃ v d p, args = #[v] ∧ ds = [d] ∧ ps = p ∧ DataW.Trod enc P w base spare held t v d p := by
  obtain ⟨v, vs, d, ds', p, q, hargs, rfl, rfl, hd, hrest⟩ := trodAll_cons h
  obtain ⟨rfl, rfl, rfl⟩ := trodAll_nil hrest
  exact ⟨v, d, p, by cases args; simp_all, rfl, by simp, hd⟩
theorem readableCC : ∀ t ∈ [22], Tryz.prog.readableRec t = true ∧ t < Tryz.prog.types.size := by
  intro t ht
  obtain rfl := List.mem_singleton.1 ht
  exact ⟨by kernel_rfl, of_decide_eq_true (by kernel_rfl)⟩

set_option maxRecDepth 100000 in
theorem clchecks_lifted (os : Os) (started : os.Started) (H : Type) (enc : TypeId × Value → H) :
    ReturnsInHanded {} Tryz.checked os 3 .any (fun w args => (Rows.clientChecksSpec.pre enc Tryz.prog Tryz.f3 [] false w args ∧ laidMetH Tryz.prog Rows.clientChecksRow.laid w) ∧ sizedMet enc Tryz.prog Tryz.f3 (OpenSpec.ofChange Rows.clientChecksSpec) false w args)
      (Rows.clientChecksSpec.post enc Tryz.prog Tryz.f3 false true false false) := by
  refine lift_shaped (C := Tryz.checked) (X := fun w _ => laidMetH Tryz.prog Rows.clientChecksRow.laid w) (fun _ _ _ hh h => h.of_heap hh) own started (by kernel_rfl) Tryz.func3
    (ChangeSpec.witness_shaped (enc := enc) (C := Tryz.checked) (os := os) (X := fun w _ => laidMetH Tryz.prog Rows.clientChecksRow.laid w) false (cworldZ os) #[.slice none 0 0] 8 (cworldZ_os os)
      (cworldZ_shaped os _) (by kernel_rfl) (by kernel_rfl) (by kernel_rfl) (claid_met os _)) ?_
  intro W base args ds gs before hval0 hW hL hsh
  have hval : ∀ (j : Nat) t v, Tryz.f3.params[j]? = some t → args[j]? = some v → Value.okWide Tryz.prog W .any base t v := hval0
  have hW' := hW
  obtain ⟨p, q, hA0, hV, rfl, hfz, hnd⟩ := hW
  have hA : DataW.TrodAll enc Tryz.prog W 0 (fun _ => true) true Tryz.f3.params.toList args.toList ds p := hA0
  rw [Tryz.params3] at hA hval
  have hA2 := hA
  obtain ⟨v0, d0, p0, rfl, rfl, rfl, h0⟩ := trodAll_oneC hA
  obtain ⟨rfl, rfl⟩ := trodVars_none hV
  obtain ⟨sa, slen, scap, rfl⟩ := okWide_slice Tryz.underlying22 (hval 0 22 v0 rfl rfl)
  obtain ⟨fuel, hf⟩ := h0
  obtain ⟨ad, cap, cl, hcs, hrows⟩ := oprows_of_trod hf
  obtain ⟨rfl, rfl, rfl⟩ : sa = ad ∧ slen = cl.length ∧ scap = cap := by simpa [Value.cells] using hcs
  obtain ⟨a, hE⟩ := env_of_laidC hL
  clear hA0 hval0
  simp only [List.append_nil] at hW'
  refine (clchecks_any hE hrows).mono fun e W' ⟨he, hb⟩ => ?_
  subst he
  refine ⟨_, rfl, _, _, _, [], p, [], hW', ?_, ?_, ?_, hb.frame _, fun h => by cases h⟩
  · exact trodAll_mk1 (shut_bool Tryz.underlying4 true)
  · exact trodAll_below laidOutA hb _ _ _ _ readableCC hA2
  · rfl

theorem clchecks_holds : Rows.ClientChecksSaid :=
  OpenClaim.holds_of_wide 3 Tryz.f3 rfl rfl rfl rfl rfl rfl rfl ⟨rfl, rfl, rfl, rfl, rfl⟩ rfl rfl rfl rfl rfl (by kernel_rfl) Tryz.func3 (by kernel_rfl)
    (of_decide_eq_true (by kernel_rfl)) (by unfold Func.isWrapper; rw [if_neg (of_decide_eq_false (by kernel_rfl))]; exact ⟨rfl, rfl⟩)
    (fun os started H enc _ => clchecks_lifted os started H enc)

theorem clchecks_card : Rows.ClientChecksCardSaid :=
  Claim7.holds_tied_plain_at .later [] [.data, .data, .data, .handle, .sentinel, .sentinel, .sentinel, .sentinel, .sentinel, .sentinel, .sentinel, .sentinel, .sentinel] true (true, "f53b2012455602c0022167af20f3a8fc664f15d827de6b9570f5ed4af721b959") true
    clchecks_holds (fun _ h => absurd h List.not_mem_nil) (by kernel_rfl) (fun _ h => absurd h List.not_mem_nil) clientChecks_row_tie rfl ⟨rfl, rfl⟩ (by kernel_rfl) rfl
    (fun f fn hf hfn => by
      obtain rfl : f = 3 := (Option.some.inj ((show Tryz.prog.funcNamed "quiescent/quiescentlaw2.ClientChecks" = some 3 by kernel_rfl).symm.trans hf)).symm
      obtain rfl : fn = Tryz.f3 := (Option.some.inj (Tryz.func3.symm.trans hfn)).symm
      exact ⟨by kernel_rfl, fun j t ht => by
        rw [Tryz.params3] at ht
        rcases j with _ | j
        · obtain rfl : t = 22 := by simpa using ht.symm
          exact (show Tryz.prog.wantsStandIn 22 = false by kernel_rfl)
        · simp at ht⟩)
    (by kernel_rfl)
#print axioms clchecks_card
end Go.Proofs.YtoialadjpcdbaaaGreatDoor
