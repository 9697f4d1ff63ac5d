/- The law CodeTexts, walked. -/
import Derived.Test.YtcajklfngeafdaaGreatDoorTextsA
import Derived.Test.YtcajklfngeafdaaGreatDoorTextR
namespace Go.Proofs.YtcajklfngeafdaaGreatDoor
open Go.RowKit Go.Extern.Stop Go.Stop Go.Extern Go.Maps Go.WideMaps

theorem textL_len : ∀ (l : List Ins), (∀ x ∈ l, ∃ S, Fits x S ∧ x.op.size + x.to.size ≤ 20) → (textL l).length ≤ 61 * l.length
  | [], _ => by simp [textL]
  | x :: r, h => by
    obtain ⟨S, hF, hs⟩ := h x (by simp)
    have h1 := line_len hF hs
    have h2 := textL_len r (fun y hy => h y (by simp [hy]))
    have : textL (x :: r) = (lineL x ++ [10]) ++ textL r := rfl
    rw [this, List.length_append, List.length_append, List.length_cons]
    simp; omega

set_option maxRecDepth 20000 in
set_option maxHeartbeats 2000000 in
theorem texts_long (a : Nat → Addr) (ad : Option Addr) (cap : Nat) (len : Nat) (w : World) (hE : EnvZ a w) (h1 : 100 < len) (h2 : len ≤ 2000) :
    Calls Tryz.prog 3 #[.slice ad len cap] w fun e w' => e = .returned (.bool true) ∧ Below w.heap.size w w' := by
  have HT : Hid (∀ w', EnvZ a w' → Calls Tryz.prog 5 #[] w' fun e w'' => e = .returned (.bool true) ∧ Below w'.heap.size w' w'') := fun w' h => texted_any a w' h.x
  have i1 : (100 : Int) < len := by omega
  have i2 : (len : Int) ≤ 2000 := by omega
  go_enter Tryz.func3, Tryz.ntmps3
  go_wp2_with fail
  refine (HT.out _ hE).mono ?_
  rintro e w1 ⟨rfl, hb1⟩
  go_wp2_with fail
  exact bodyPost_ret (v := .bool true) (by simp only [results, Tryz.results3]; go_simp) rfl ⟨rfl, hb1⟩

set_option maxRecDepth 20000 in
set_option maxHeartbeats 2000000 in
theorem texts_any (a : Nat → Addr) (ad : Option Addr) (cap : Nat) (l : List Ins) (w : World) (hE : EnvZ a w) (hl : insAt ad l w) (hc : ad = none → cap = 0) (hb : l.length * 56 ≤ 140737488355328) (hsz : ∀ (i : Nat) x, l[i]? = some x → x.to.size ≤ maxLen) (hlen : l.length ≤ 100 ∨ 2000 < l.length) :
    Calls Tryz.prog 3 #[.slice ad l.length cap] w fun e w' => e = .returned (.bool true) ∧ Below w.heap.size w w' := by
  have HT : Hid (∀ w', EnvZ a w' → Calls Tryz.prog 5 #[] w' fun e w'' => e = .returned (.bool true) ∧ Below w'.heap.size w' w'') := fun w' h => texted_any a w' h.x
  have HCF : Hid (∀ w', insAt ad l w' → Calls Tryz.prog 6 #[.slice ad l.length cap] w' fun e w'' => e = .returned (.agg #[.int .i64 (codeFault l).1, .int .i64 (codeFault l).2]) ∧ Below w'.heap.size w' w'') := fun w' h => codeFault_any ad cap l w' h
  have HIn : Hid (∀ w', insAt ad l w' → Calls Tryz.prog 8 #[.slice ad l.length cap] w' fun e w'' => ∃ ad' cap', e = .returned (.slice ad' l.length cap') ∧ insAt ad' l w'' ∧ Below w'.heap.size w' w'') := fun w' h => instrs_any ad cap l w' h hc hb
  have hc1 : (decide ((100 : Int) < l.length) && decide ((l.length : Int) ≤ 2000)) = false := by
    rcases hlen with h | h <;> simp <;> omega
  have HCk : Hid (∀ ad' cap' w', EnvX a w' → insAt ad' l w' → Calls Tryz.prog 10 #[.slice ad' l.length cap'] w' fun e w'' => ∃ v, e = .returned v ∧ errIs a (codeFault l) v w'' w'.heap.size ∧ Below w'.heap.size w' w'') := fun ad' cap' w' h h' => pcheck_any a ad' cap' l w' h.e hsz h'
  have HFa : Hid (∀ v B w', Env a w' → errIs a (codeFault l) v w' B → Calls Tryz.prog 9 #[v, .agg #[.int .i64 (codeFault l).1, .int .i64 (codeFault l).2]] w' fun e w'' => e = .returned (.bool true) ∧ Below w'.heap.size w' w'') := fun v B w' h h' => faulted_any a (codeFault l) v B w' h (codeFault_le l) h'
  have HL := hide hl
  clear hl hc
  have HS := hide hsz
  clear hsz
  go_enter Tryz.func3, Tryz.ntmps3
  go_wp2_with fail
  refine (HT.out _ hE).mono ?_
  rintro e w1 ⟨rfl, hb1⟩
  clear HT
  have hE1 := hE.below hb1
  have HZ : Hid ((codeFault l).1 = 0 → l.length ≤ 100) := fun h => by
    have := (codeFault_zero h).1
    omega
  rcases hlen with hlen | hlen
  all_goals
    first
    | (have i1 : ¬ (100 : Int) < l.length := by omega
       go_wp2_with fail)
    | (have i1 : (100 : Int) < l.length := by omega
       have i2 : ¬ (l.length : Int) ≤ 2000 := by omega
       go_wp2_with fail)
    go_loopw [4] (fun ix wr => Below w.heap.size w wr ∧ ∃ j : Nat, j ≤ l.length ∧ ix = .int .i64 j) (fun i _ => l.length - (intOf i).toNat)
    case atStart => exact ⟨hb1, 0, Nat.zero_le _, rfl⟩
    case round =>
      obtain ⟨hB, j, hj, rfl⟩ := hrel
      by_cases hlt : j < l.length
      · have ji : (j : Int) < l.length := by omega
        obtain ⟨x, hx⟩ : ∃ x, l[j]? = some x := ⟨_, List.getElem?_eq_getElem hlt⟩
        obtain ⟨b, off, rfl, a0, a1, a2, a3, a4⟩ := insAt_below HL.out hB j x hx
        clear HCF HIn HL HS HZ
        by_cases hs : 100 < wrap64 ((x.to.size : Int) + x.op.size)
        · go_wp2_with fail
          go_region
          go_wp2_with fail
          exact bodyPost_ret (v := .bool true) (by simp only [results, Tryz.results3]; go_simp) rfl ⟨rfl, by first | exact hB.drew | exact hB⟩
        · go_wp2_with fail
          go_region
          go_wp2_with fail
          exact ⟨⟨by first | exact hB.drew | exact hB, j + 1, by omega, by go_num⟩, by simp [intOf]; omega⟩
      · obtain rfl : j = l.length := by omega
        have hEr := hE.below hB
        go_wp2_with fail
        refine (HCF.out _ (insAt_below HL.out hB)).mono ?_
        rintro e w2 ⟨rfl, hb2⟩
        have B2 := below_step hB hb2
        obtain ⟨W2, hW2⟩ : ∃ W2, W2 = w2.alloc (.cells #[.int .i64 (codeFault l).1, .int .i64 (codeFault l).2] 27) := ⟨_, rfl⟩
        have hbb : Below w2.heap.size w2 W2 := by rw [hW2]; exact (Below.refl _ _).alloc (Nat.le_refl _) _
        have q0 : W2.cell? ⟨w2.heap.size, 0, none⟩ = some (.int .i64 (codeFault l).1) := by rw [hW2]; simp
        have q1 : W2.cell? ⟨w2.heap.size, 1, none⟩ = some (.int .i64 (codeFault l).2) := by rw [hW2]; simp
        have BW := below_step B2 hbb
        clear hB hb2 B2 hbb hEr HCF
        go_wp2_with fail
        rw [← hW2]
        clear hW2
        refine (HIn.out _ (insAt_below HL.out BW)).mono ?_
        rintro e w3 ⟨ad3, cap3, rfl, hI3, hb3⟩
        have B3 := below_step BW hb3
        have hE3 := hE.below B3
        replace q0 := keep_cell hb3 q0
        replace q1 := keep_cell hb3 q1
        clear hb3 BW
        by_cases h0 : (codeFault l).1 = 0
        · try (exfalso; have := HZ.out h0; omega)
          all_goals
            have hl100 := HZ.out h0
            obtain ⟨-, hz⟩ := codeFault_zero h0
            have hfit : ∀ x ∈ l, ∃ S, Fits x S ∧ x.op.size + x.to.size ≤ 20 := fun x hx => by
              obtain ⟨k, hk, rfl⟩ := List.getElem_of_mem hx
              exact short_of_fault (hz k _ (List.getElem?_eq_getElem hk))
            have hfit2 : ∀ x ∈ l, ∃ S, Fits x S ∧ (hasTo S = true → isName x.to) := fun x hx => by
              obtain ⟨k, hk, rfl⟩ := List.getElem_of_mem hx
              exact fits_of_fault (hz k _ (List.getElem?_eq_getElem hk))
            have htl := textL_len l hfit
            have hts : (⟨(textL l).toArray⟩ : ByteArray).size ≤ 6100 := by rw [size_bl]; show (textL l).toArray.toList.length ≤ _; simp; omega
            have hrt := read_of_text hfit2 (s := ⟨(textL l).toArray⟩) (by simp [bl])
            obtain ⟨hRf, hRc⟩ := read_good hrt
            have HRd : Hid (∀ w', EnvX a w' → Calls Tryz.prog 12 #[.string ⟨(textL l).toArray⟩] w' fun e w'' => (∃ ad' cap', e = .returned (.tuple #[.slice ad' l.length cap', .nilIface]) ∧ insAt ad' l w'') ∧ Below w'.heap.size w' w'') := fun w' h => by
              refine (read_any a _ (by omega) w' h).mono ?_
              rintro e w'' ⟨sv, ev, rfl, hev, hg, -, hb⟩
              rw [hRf] at hev hg
              obtain ⟨ad', cap', rfl, hI⟩ := hg h0
              rw [hRc] at hI ⊢
              rcases hev with ⟨-, rfl⟩ | ⟨h, -⟩ | ⟨h, -⟩
              · exact ⟨⟨ad', cap', rfl, hI⟩, hb⟩
              · exact absurd h0 h
              · exact absurd h0 h
            have HCT : Hid (∀ w', insAt ad l w' → Calls Tryz.prog 11 #[.slice ad l.length cap] w' fun e w'' => e = .returned (.string ⟨(textL l).toArray⟩) ∧ Below w'.heap.size w' w'') := fun w' h => codeText_any ad cap l w' h (fun j x hx => hfit x (List.mem_of_getElem? hx)) (by omega) (by omega)
            have HSC : Hid (∀ ad' cap' w', insAt ad' l w' → insAt ad l w' → Calls Tryz.prog 13 #[.slice ad' l.length cap', .slice ad l.length cap] w' fun e w'' => e = .returned (.bool true) ∧ Below w'.heap.size w' w'') := fun ad' cap' w' h h' => sameCode_any ad' ad cap' cap l w' (by omega) h h'
            have hTx : Hid (Calls Tryz.prog 7 #[.slice ad3 l.length cap3] w3 fun e w'' => e = .returned (.tuple #[.string ⟨(textL l).toArray⟩, .nilIface]) ∧ Below w3.heap.size w3 w'') := (text_any a ad3 cap3 l w3 hE3.x HS.out hI3 (by omega)).mono fun e w'' ⟨h, hb⟩ => by
              rcases h with ⟨h, _⟩ | ⟨_, h⟩
              · exact absurd h0 h
              · exact ⟨h, hb⟩
            clear hI3 hz hfit hfit2 htl hts hrt hRf hRc
            generalize (⟨(textL l).toArray⟩ : ByteArray) = T at *
            rw [h0] at HFa q0
            go_wp2_with fail
            refine hTx.out.mono ?_
            rintro e w4 ⟨rfl, hb4⟩
            have B4 := below_step B3 hb4
            replace q0 := keep_cell hb4 q0
            replace q1 := keep_cell hb4 q1
            clear hb4 hTx B3 hE3
            have B4d : Below w.heap.size w (w4.drewN 1) := below_step B4 (Below.drewN' 1)
            have hLd := hide (insAt_below HL.out B4d)
            have hEd := hide (hE.below B4d)
            have r0 := keep_cell (Below.drewN' 1) q0
            have r1 := keep_cell (Below.drewN' 1) q1
            go_wp2_with fail
            go_region_with (first
              | (go_at_call 8; refine (HIn.out _ hLd.out).mono ?_; rintro e5 w5 ⟨ad5, cap5, rfl, hI5, hb5⟩; have s0 := keep_cell hb5 r0; have s1 := keep_cell hb5 r1; have hE5 := hEd.out.below hb5; have hI5 := hide hI5)
              | (go_at_call 10; refine (HCk.out _ _ _ hE5.x hI5.out).mono ?_; rintro e6 w6 ⟨v6, rfl, hv6, hb6⟩; have t0 := keep_cell hb6 s0; have t1 := keep_cell hb6 s1; have hE6 := hE5.below hb6; have hv6 := hide hv6)
              | (go_at_call 9; refine (HFa.out _ _ _ hE6.env hv6.out).mono ?_; rintro e7 w7 ⟨rfl, hb7⟩))
            all_goals
              have B7 := below_step (below_step (below_step B4d hb5) hb6) hb7
              have q0 := keep_cell hb7 t0
              have q1 := keep_cell hb7 t1
              clear hb5 hb6 hb7 s0 s1 t0 t1 r0 r1 hE5 hE6 hI5 hv6
              have hI7 := insAt_below HL.out B7
              have hI7 := hide hI7
              go_wp2_with fail
              refine (HCT.out _ hI7.out).mono ?_
              rintro e8 w8 ⟨rfl, hb8⟩
              have B8 := below_step B7 hb8
              have hE8 := (hE.below B8).x
              have q0 := keep_cell hb8 q0
              have q1 := keep_cell hb8 q1
              clear hb8
              go_wp2_with fail
              refine (HRd.out _ hE8).mono ?_
              rintro e9 w9 ⟨⟨ad9, cap9, rfl, hI9⟩, hb9⟩
              have B9 := below_step B8 hb9
              have hS9 := hide (HSC.out ad9 cap9 w9 hI9 (insAt_below HL.out B9))
              clear hb9 hI9 hE8 hI7
              go_wp2_with fail
              refine hS9.out.mono ?_
              rintro e10 w10 ⟨rfl, hb10⟩
              go_wp2_with fail
              exact bodyPost_ret (v := .bool true) (by simp only [results, Tryz.results3]; go_simp) rfl ⟨rfl, below_step B9 hb10⟩
        · have hTx := hide (textBad_any a ad3 cap3 l w3 hE3.x HS.out hI3 h0)
          clear hI3
          go_wp2_with fail
          refine hTx.out.mono ?_
          rintro e w4 ⟨⟨v4, rfl, hv4⟩, hb4⟩
          have B4 := below_step B3 hb4
          replace q0 := keep_cell hb4 q0
          replace q1 := keep_cell hb4 q1
          replace hv4 := hide hv4
          clear hb4 hTx B3 hE3
          have B4d : Below w.heap.size w (w4.drewN 1) := below_step B4 (Below.drewN' 1)
          have hLd := hide (insAt_below HL.out B4d)
          have hEd := hide (hE.below B4d)
          have r0 := keep_cell (Below.drewN' 1) q0
          have r1 := keep_cell (Below.drewN' 1) q1
          go_wp2_with fail
          go_region_with (first
            | (go_at_call 8; refine (HIn.out _ hLd.out).mono ?_; rintro e5 w5 ⟨ad5, cap5, rfl, hI5, hb5⟩; have s0 := keep_cell hb5 r0; have s1 := keep_cell hb5 r1; have hE5 := hEd.out.below hb5; have hI5 := hide hI5)
            | (go_at_call 10; refine (HCk.out _ _ _ hE5.x hI5.out).mono ?_; rintro e6 w6 ⟨v6, rfl, hv6, hb6⟩; have t0 := keep_cell hb6 s0; have t1 := keep_cell hb6 s1; have hE6 := hE5.below hb6; have hv6 := hide hv6)
            | (go_at_call 9; refine (HFa.out _ _ _ hE6.env hv6.out).mono ?_; rintro e7 w7 ⟨rfl, hb7⟩))
          all_goals
            have B7 := below_step (below_step (below_step B4d hb5) hb6) hb7
            have q0 := keep_cell hb7 t0
            have q1 := keep_cell hb7 t1
            have hv7 := hide (errIs_below hv4.out (below_step (below_step (below_step (Below.drewN' 1) hb5) hb6) hb7))
            have hpos : (0 : Int) < ((codeFault l).1 : Int) := by omega
            go_wp2_with fail
            have hE7 := hE.below B7
            refine (HFa.out _ _ _ hE7.env hv7.out).mono ?_
            rintro e8 w8 ⟨rfl, hb8⟩
            go_wp2_with fail
            exact bodyPost_ret (v := .bool true) (by simp only [results, Tryz.results3]; go_simp) rfl ⟨rfl, below_step B7 hb8⟩
end Go.Proofs.YtcajklfngeafdaaGreatDoor
