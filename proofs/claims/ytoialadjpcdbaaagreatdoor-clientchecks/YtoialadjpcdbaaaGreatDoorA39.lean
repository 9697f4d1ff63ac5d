import Derived.Test.YtoialadjpcdbaaaGreatDoorA38
import Derived.Test.YtoialadjpcdbaaaGreatDoorA37
import Derived.Test.YtoialadjpcdbaaaGreatDoorA02
import Derived.Test.YtoialadjpcdbaaaGreatDoorA14

/- ClE -/
namespace Go.Proofs.YtoialadjpcdbaaaGreatDoor
open Go.RowKit Go.Extern.Stop Go.Stop Go.Extern Go.Maps Go.WideMaps Go.Sort

def longTo (cl : List (List OpI)) (k : Nat) : Bool := (cl.take k).any fun L => decide (20 < L.length)
theorem longTo_succ {cl : List (List OpI)} {k : Nat} {L : List OpI} (h : cl[k]? = some L) : longTo cl (k + 1) = (longTo cl k || decide (20 < L.length)) := by
  unfold longTo
  rw [List.take_add_one, h, List.any_append]
  simp
theorem longTo_mono {cl : List (List OpI)} {k m : Nat} (hm : k ≤ m) (he : longTo cl k = true) : longTo cl m = true := by
  unfold longTo at he ⊢
  rw [List.any_eq_true] at he ⊢
  obtain ⟨x, hx, hp⟩ := he
  exact ⟨x, (List.take_subset_take_left _ hm) hx, hp⟩
theorem fit1_any (ad : Option Addr) (n c : Nat) (w : World) : Calls Tryz.prog 101 #[.slice ad n c] w fun e w' => e = .returned (.bool (decide (20 < n))) ∧ w' = w := by
  go_enter Tryz.func101, Tryz.ntmps101
  go_wp2_with fail
  go_ret
  refine ⟨?_, rfl⟩
  by_cases h : 20 < n
  · rw [decide_eq_true h]
    show Ending.returned (Value.bool (decide (20 < (n : Int)))) = _
    rw [decide_eq_true (show 20 < (n : Int) by omega)]
  · rw [decide_eq_false h]
    show Ending.returned (Value.bool (decide (20 < (n : Int)))) = _
    rw [decide_eq_false (show ¬ 20 < (n : Int) by omega)]
set_option maxRecDepth 20000 in
set_option maxHeartbeats 1000000 in
theorem indexF_any {ad : Option Addr} {cl : List (List OpI)} {cap : Nat} {w : World} (h : opRowsAt ad cl w) (hl : cl.length ≤ 100) :
    Calls Tryz.prog 126 #[.slice ad cl.length cap, .func (.func 101) #[] #[]] w fun e w' => ∃ r : Int, e = .returned (.int .i64 r) ∧ decide (0 ≤ r) = longTo cl cl.length ∧ w' = w := by
  have HH := hide h
  obtain ⟨n, hn⟩ : ∃ n, Hid (cl.length = n) := ⟨_, hide rfl⟩
  rw [hn.out] at hl ⊢
  clear h
  go_enter Tryz.func126, Tryz.ntmps126
  go_wp2_with fail
  go_loopw [5, 8] (fun _ i wr => ∃ j : Nat, j ≤ n ∧ i = .int .i64 j ∧ Hid (longTo cl j = false) ∧ w = wr) (fun _ i _ => n - (intOf i).toNat)
  case atStart => exact ⟨0, Nat.zero_le _, rfl, hide rfl, (by first | rfl | trivial)⟩
  case round =>
    obtain ⟨j, hj, rfl, HA, rfl⟩ := hrel
    by_cases hlt : j < n
    · have ji : (j : Int) < n := by omega
      obtain ⟨L, hL⟩ : ∃ L, cl[j]? = some L := ⟨_, List.getElem?_eq_getElem (by rw [hn.out]; exact hlt)⟩
      obtain ⟨b, off, adl, capl, rfl, c0, -⟩ := HH.out j L hL
      have HS := hide (longTo_succ hL)
      have HF := hide (fit1_any adl L.length capl w)
      clear hL
      generalize hLn : L.length = ln at *
      cases he : decide (20 < ln)
      · have HA2 : Hid (longTo cl (j + 1) = false) := hide (by rw [HS.out, HA.out, he]; rfl)
        rw [he] at HF
        clear HS HA he
        go_wp2_with fail
        refine HF.out.mono ?_
        rintro e w2 ⟨rfl, rfl⟩
        go_wp2_with fail
        go_roundw
        case rel => exact ⟨j + 1, by omega, by go_num, HA2, (by first | rfl | trivial)⟩
        case measure => simp [intOf]; omega
      · have HA2 : Hid (longTo cl n = true) := hide (longTo_mono (show j + 1 ≤ n by omega) (by rw [HS.out, he, Bool.or_true]))
        rw [he] at HF
        clear HS HA he
        go_wp2_with fail
        refine HF.out.mono ?_
        rintro e w2 ⟨rfl, rfl⟩
        go_wp2_with fail
        go_ret
        exact ⟨j, rfl, by rw [HA2.out]; exact decide_eq_true (by omega), rfl⟩
    · obtain rfl : j = n := by omega
      go_wp2_with fail
      go_ret
      exact ⟨-1, rfl, by rw [HA.out]; rfl, rfl⟩
set_option maxRecDepth 20000 in
theorem containsF_any {ad : Option Addr} {cl : List (List OpI)} {cap : Nat} {w : World} (h : opRowsAt ad cl w) (hl : cl.length ≤ 100) :
    Calls Tryz.prog 100 #[.slice ad cl.length cap, .func (.func 101) #[] #[]] w fun e w' => e = .returned (.bool (longTo cl cl.length)) ∧ w' = w := by
  have HI := hide (indexF_any (cap := cap) h hl)
  clear h
  generalize longTo cl cl.length = B at *
  generalize cl.length = n at *
  go_enter Tryz.func100, Tryz.ntmps100
  go_wp2_with fail
  refine HI.out.mono ?_
  rintro e w2 ⟨r, rfl, hr, rfl⟩
  go_wp2_with fail
  go_ret
  refine ⟨?_, rfl⟩
  rw [← hr]
  rfl
def fitB (cl : List (List OpI)) : Bool := decide (1 ≤ cl.length) && (decide (cl.length ≤ 6) && !(longTo cl cl.length))
set_option maxRecDepth 20000 in
theorem fit_any {ad : Option Addr} {cl : List (List OpI)} {cap : Nat} {w : World} (h : opRowsAt ad cl w) :
    Calls Tryz.prog 57 #[.slice ad cl.length cap] w fun e w' => e = .returned (.bool (fitB cl)) ∧ w' = w := by
  by_cases h1 : cl.length < 1
  · have hf : fitB cl = false := by unfold fitB; rw [decide_eq_false (by omega)]; rfl
    rw [hf]
    have i1 : (cl.length : Int) < 1 := by omega
    generalize cl.length = n at *
    clear h
    go_enter Tryz.func57, Tryz.ntmps57
    go_wp2_with fail
    go_ret
    exact ⟨rfl, rfl⟩
  · have i1 : ¬ (cl.length : Int) < 1 := by omega
    by_cases h6 : 6 < cl.length
    · have hf : fitB cl = false := by unfold fitB; rw [decide_eq_true (by omega), decide_eq_false (by omega)]; rfl
      rw [hf]
      have i2 : 6 < (cl.length : Int) := by omega
      generalize cl.length = n at *
      clear h
      go_enter Tryz.func57, Tryz.ntmps57
      go_wp2_with fail
      go_ret
      exact ⟨rfl, rfl⟩
    · have hf : fitB cl = !(longTo cl cl.length) := by unfold fitB; rw [decide_eq_true (by omega), decide_eq_true (by omega)]; rfl
      rw [hf]
      have i2 : ¬ 6 < (cl.length : Int) := by omega
      have HC := hide (containsF_any (cap := cap) h (by omega))
      clear h hf
      generalize longTo cl cl.length = B at *
      generalize cl.length = n at *
      go_enter Tryz.func57, Tryz.ntmps57
      go_wp2_with fail
      refine HC.out.mono ?_
      rintro e w2 ⟨rfl, rfl⟩
      go_wp2_with fail
      go_ret
      exact ⟨rfl, rfl⟩
end Go.Proofs.YtoialadjpcdbaaaGreatDoor

/- FaultS -/
namespace Go.Proofs.YtoialadjpcdbaaaGreatDoor
open Go.RowKit Go.Extern.Stop Go.Stop Go.Extern Go.Maps Go.WideMaps

theorem errIs_below {a : Nat → Addr} {f : Nat × Int} {v : Value} {w w' : World} {B : Nat} (h : errIs a f v w B) (hb : Below w.heap.size w w') : errIs a f v w' B := by
  rcases h with h | h | ⟨h0, j, N, h1, h2, h3, h4, h5⟩
  · exact .inl h
  · exact .inr (.inl h)
  · exact .inr (.inr ⟨h0, j, N, h1, h2, h3, keep_cell hb h4, keep_cell hb h5⟩)

end Go.Proofs.YtoialadjpcdbaaaGreatDoor

/- ClF -/
namespace Go.Proofs.YtoialadjpcdbaaaGreatDoor
open Go.RowKit Go.Extern.Stop Go.Stop Go.Extern Go.Maps Go.WideMaps Go.Sort

def eachFrom : List (List OpI) → Nat → Nat × Int
  | [], _ => (0, -1)
  | L :: r, t => if folE .first L ≠ 0 then (folE .first L, (t : Int)) else eachFrom r (t + 1)
def eachE (cl : List (List OpI)) : Nat × Int := if fitB cl = true then eachFrom cl 0 else (2, -1)
def eachS (cl : List (List OpI)) : Bool := cl.all fun L => folS .first L
theorem fit_rows {cl : List (List OpI)} (h : fitB cl = true) : ∀ L ∈ cl, L.length ≤ 20 := fun L hL => by
  unfold fitB at h
  simp only [Bool.and_eq_true, Bool.not_eq_true'] at h
  have h3 := h.2.2
  unfold longTo at h3
  rw [List.take_length] at h3
  have := List.any_eq_false.1 h3 L hL
  simpa using this
theorem fit_len {cl : List (List OpI)} (h : fitB cl = true) : cl.length ≤ 6 := by
  unfold fitB at h
  simp only [Bool.and_eq_true, decide_eq_true_eq] at h
  exact h.2.1
theorem all_snoc {cl : List (List OpI)} {k : Nat} {L : List OpI} (h : cl[k]? = some L) : (cl.take (k + 1)).all (fun L => folS .first L) = ((cl.take k).all (fun L => folS .first L) && folS .first L) := by
  rw [List.take_add_one, h, List.all_append]
  simp

theorem fol1_check {a : Nat → Addr} {w00 w : World} (hE : Env a w00) {ad : Option Addr} {l : List OpI} {cap : Nat} (ho : opsAt ad l w00) (hw : Below w00.heap.size w00 w) (hl : l.length ≤ 30) {bx : Nat} (cx : w.cell? ⟨bx, 0, none⟩ = some (.func (.func 26) #[] #[])) :
    Calls Tryz.prog 37 #[.slice ad l.length cap, .pointer (some ⟨bx, 0, none⟩)] w fun e w' => e = .returned (errVal a (folE .first l)) ∧ Below w.heap.size w w' := by
  have HF := hide (followOne_check (cap := cap) hE ho hw hl)
  clear hE ho hw hl
  generalize l.length = n at *
  go_enter Tryz.func37, Tryz.ntmps37
  go_wp2_with fail
  refine HF.out.mono ?_
  rintro e w2 ⟨rfl, h2⟩
  have HP := hide h2
  obtain ⟨ev, hev⟩ : ∃ ev, Hid (errVal a (folE .first l) = ev) := ⟨_, hide rfl⟩
  rw [hev.out]
  clear h2 HF
  go_wp2_with fail
  refine bodyPost_ret (v := ev) (by simp only [results, Tryz.results37]; go_simp) rfl ⟨by rw [hev.out], HP.out⟩
set_option maxRecDepth 20000 in
set_option maxHeartbeats 4000000 in
theorem each_check {a : Nat → Addr} {w00 w : World} (hE : Env a w00) {ad : Option Addr} {cl : List (List OpI)} {cap : Nat} (ho : opRowsAt ad cl w00) (hw : Below w00.heap.size w00 w) {bx : Nat} (cx : w.cell? ⟨bx, 0, none⟩ = some (.func (.func 26) #[] #[])) :
    Calls Tryz.prog 36 #[.slice ad cl.length cap, .func (.func 37) #[] #[.pointer (some ⟨bx, 0, none⟩)]] w fun e w' => ∃ v, e = .returned v ∧ errIs a (eachE cl) v w' w.heap.size ∧ Below w.heap.size w w' := by
  have HE := hide hE
  have HO := hide ho
  have HFI := hide (fit_any (cap := cap) (ho.below hw))
  have HCX := hide cx
  skip
  have H0 : Hid (eachFrom cl 0 = eachFrom (cl.drop 0) 0 ∧ Below w00.heap.size w00 w ∧ Below w.heap.size w w) := hide ⟨rfl, hw, Below.refl _ _⟩
  obtain ⟨n, hn⟩ : ∃ n, Hid (cl.length = n) := ⟨_, hide rfl⟩
  rw [hn.out] at HFI ⊢
  have g1 : w.cell? ⟨1, 0, none⟩ = some (errAt (a 1)) := (hE.below hw.block).cell 1 (by decide)
  clear hE ho hw cx
  cases hfb : fitB cl
  · rw [hfb] at HFI
    have HEE : Hid (eachE cl = (2, -1)) := hide (by unfold eachE; rw [hfb]; rfl)
    clear hfb
    go_enter Tryz.func36, Tryz.ntmps36
    go_wp2_with fail
    refine HFI.out.mono ?_
    rintro e w2 ⟨rfl, rfl⟩
    go_wp2_with fail
    go_ret
    exact ⟨_, rfl, by rw [HEE.out]; exact .inr (.inl ⟨by decide, rfl, rfl⟩), Below.refl _ _⟩
  · rw [hfb] at HFI
    have HEE : Hid (eachE cl = eachFrom cl 0) := hide (by unfold eachE; rw [hfb]; rfl)
    have HL := hide (fit_rows hfb)
    have hn6 : cl.length ≤ 6 := fit_len hfb
    rw [hn.out] at hn6
    clear hfb g1
    go_enter Tryz.func36, Tryz.ntmps36
    go_wp2_with fail
    refine HFI.out.mono ?_
    rintro e w2 ⟨rfl, e2⟩
    obtain rfl : w = w2 := e2.symm
    clear HFI
    go_wp2_with fail
    go_loopw [5, 6, 7, 14] (fun _ _ _ i wr => ∃ k : Nat, k ≤ n ∧ i = .int .i64 k ∧ Hid (eachFrom cl 0 = eachFrom (cl.drop k) k ∧ Below w00.heap.size w00 wr ∧ Below w.heap.size w wr)) (fun _ _ _ i _ => n - (intOf i).toNat)
    case atStart => exact ⟨0, Nat.zero_le _, rfl, H0⟩
    case round =>
      clear H0
      obtain ⟨k, hk, rfl, HR⟩ := hrel
      obtain ⟨hee, hbw, hbb⟩ := HR.out
      by_cases hlt : k < n
      · have ki : (k : Int) < n := by omega
        obtain ⟨L, hL⟩ : ∃ L, cl[k]? = some L := ⟨_, List.getElem?_eq_getElem (by rw [hn.out]; exact hlt)⟩
        have hdr : cl.drop k = L :: cl.drop (k + 1) := by
          have := List.drop_eq_getElem_cons (show k < cl.length by rw [hn.out]; exact hlt)
          rw [this]
          have h2 := List.getElem?_eq_getElem (show k < cl.length by rw [hn.out]; exact hlt)
          rw [hL] at h2
          rw [Option.some.inj h2]
        rw [hdr] at hee
        obtain ⟨b9, off, adl, capl, rfl, c00, hops⟩ := HO.out k L hL
        have c0 := keep_cell hbw c00
        have hl20 := HL.out L (List.mem_of_getElem? hL)
        have HF1 := hide (fol1_check (cap := capl) HE.out hops hbw (by omega) (keep_cell hbb HCX.out))
        have HEE2 := hide hee
        have HBW := hide hbw
        have HBB := hide hbb
        clear hL hdr hee hbw c00 hops hl20 HR hbb
        generalize hLn : L.length = ln at *
        go_wp2_with fail
        refine HF1.out.mono ?_
        rintro e w2 ⟨rfl, hb2⟩
        have HBB2 := hide (below_step HBB.out hb2)
        have HBW2 := hide (below_step HBW.out hb2)
        clear hb2 HBB HBW
        by_cases hz : folE .first L = 0
        · rw [hz, errVal_zero a rfl]
          have HEN : Hid (eachFrom cl 0 = eachFrom (cl.drop (k + 1)) (k + 1)) := hide (by
            rw [HEE2.out]
            show (if folE .first L ≠ 0 then _ else _) = _
            rw [if_neg (fun h => h hz)])
          skip
          clear HF1 HEE2
          go_wp2_with fail
          go_roundw
          case rel => exact ⟨k + 1, by omega, by go_num, hide ⟨HEN.out, HBW2.out, HBB2.out⟩⟩
          case measure => simp [intOf]; omega
        · obtain ⟨j, hj, hv⟩ := errVal_pos (a := a) hz
          rw [hv]
          have HEN : Hid (eachE cl = (j + 1, (k : Int))) := hide (by
            rw [HEE.out, HEE2.out]
            show (if folE .first L ≠ 0 then _ else _) = _
            rw [if_pos hz, hj])
          have hsz : w.heap.size ≤ w2.heap.size := HBB2.out.size
          clear HF1 HEE2
          go_wp2_with fail
          go_ret
          refine ⟨_, rfl, ?_, HBB2.out.alloc hsz _⟩
          rw [HEN.out]
          exact .inr (.inr ⟨by simp, k, w2.heap.size, rfl, hsz, rfl, by rw [World.cell?_alloc_new]; rfl, by rw [World.cell?_alloc_new]; rfl⟩)
      · obtain rfl : k = n := by omega
        have hdl : cl.drop k = [] := by rw [← hn.out, List.drop_length]
        rw [hdl] at hee
        have HEN : Hid (eachE cl = (0, -1)) := hide (by rw [HEE.out, hee]; rfl)
        have HBB := hide hbb
        clear hee hbw HR hdl hbb
        go_wp2_with fail
        go_ret
        exact ⟨_, rfl, by rw [HEN.out]; exact .inl ⟨rfl, rfl⟩, HBB.out⟩

theorem fol1_safe {a : Nat → Addr} {w00 w : World} {sf : Nat} {b : Bool} (hE : Env a w00) {ad : Option Addr} {l : List OpI} {cap : Nat} (ho : opsAt ad l w00) (hw : Below w00.heap.size w00 w) (hsf : w00.heap.size ≤ sf) (hs2 : sf < w.heap.size) (cf : w.cell? ⟨sf, 0, none⟩ = some (.bool b)) (ff : w.frozen? ⟨sf, 0, none⟩ = false) (hl : l.length ≤ 30) {bx : Nat} (cx : w.cell? ⟨bx, 0, none⟩ = some (.func (.func 21) #[] #[.pointer (some ⟨sf, 0, none⟩)])) :
    Calls Tryz.prog 37 #[.slice ad l.length cap, .pointer (some ⟨bx, 0, none⟩)] w fun e w' => e = .returned (errVal a (folE .first l)) ∧ (∃ b', w'.cell? ⟨sf, 0, none⟩ = some (.bool b') ∧ (folE .first l = 0 → b' = (b && folS .first l))) ∧ w'.frozen? ⟨sf, 0, none⟩ = false ∧ Turns (fun q _ => q = sf) w w' := by
  have HF := hide (followOne_safe (cap := cap) hE ho hw hsf hs2 cf ff hl)
  clear hE ho hw hl cf ff hsf hs2
  generalize l.length = n at *
  go_enter Tryz.func37, Tryz.ntmps37
  go_wp2_with fail
  refine HF.out.mono ?_
  rintro e w2 ⟨rfl, h2⟩
  have HP := hide h2
  obtain ⟨ev, hev⟩ : ∃ ev, Hid (errVal a (folE .first l) = ev) := ⟨_, hide rfl⟩
  rw [hev.out]
  clear h2 HF
  go_wp2_with fail
  refine bodyPost_ret (v := ev) (by simp only [results, Tryz.results37]; go_simp) rfl ⟨by rw [hev.out], HP.out⟩
set_option maxRecDepth 20000 in
set_option maxHeartbeats 4000000 in
theorem each_safe {a : Nat → Addr} {w00 w : World} {sf : Nat} {b : Bool} (hE : Env a w00) {ad : Option Addr} {cl : List (List OpI)} {cap : Nat} (ho : opRowsAt ad cl w00) (hw : Below w00.heap.size w00 w) (hsf : w00.heap.size ≤ sf) (hs2 : sf < w.heap.size) (cf : w.cell? ⟨sf, 0, none⟩ = some (.bool b)) (ff : w.frozen? ⟨sf, 0, none⟩ = false) {bx : Nat} (cx : w.cell? ⟨bx, 0, none⟩ = some (.func (.func 21) #[] #[.pointer (some ⟨sf, 0, none⟩)])) (hbx : bx ≠ sf) :
    Calls Tryz.prog 36 #[.slice ad cl.length cap, .func (.func 37) #[] #[.pointer (some ⟨bx, 0, none⟩)]] w fun e w' => ∃ v, e = .returned v ∧ errIs a (eachE cl) v w' w.heap.size ∧ (∃ b', w'.cell? ⟨sf, 0, none⟩ = some (.bool b') ∧ ((eachE cl).1 = 0 → b' = (b && eachS cl))) ∧ w'.frozen? ⟨sf, 0, none⟩ = false ∧ Turns (fun q _ => q = sf) w w' := by
  have HE := hide hE
  have HO := hide ho
  have HFI := hide (fit_any (cap := cap) (ho.below hw))
  have HCX := hide cx
  have HSF := hide hsf
  have HS2 := hide hs2
  have HNE := hide hbx
  have HFF0 := hide (And.intro cf ff)
  have H0 : Hid (eachFrom cl 0 = eachFrom (cl.drop 0) 0 ∧ Below w00.heap.size w00 w ∧ w.cell? ⟨sf, 0, none⟩ = some (.bool (b && ((cl.take 0).all (fun L => folS .first L)))) ∧ w.frozen? ⟨sf, 0, none⟩ = false ∧ Turns (fun q _ => q = sf) w w) := hide ⟨rfl, hw, by rw [show (cl.take 0).all (fun L => folS .first L) = true from rfl, Bool.and_true]; exact cf, ff, Turns.refl _ _⟩
  obtain ⟨n, hn⟩ : ∃ n, Hid (cl.length = n) := ⟨_, hide rfl⟩
  rw [hn.out] at HFI ⊢
  have g1 : w.cell? ⟨1, 0, none⟩ = some (errAt (a 1)) := (hE.below hw.block).cell 1 (by decide)
  clear hE ho hw cx cf ff hsf hs2 hbx
  cases hfb : fitB cl
  · rw [hfb] at HFI
    have HEE : Hid (eachE cl = (2, -1)) := hide (by unfold eachE; rw [hfb]; rfl)
    clear hfb
    go_enter Tryz.func36, Tryz.ntmps36
    go_wp2_with fail
    refine HFI.out.mono ?_
    rintro e w2 ⟨rfl, rfl⟩
    go_wp2_with fail
    go_ret
    exact ⟨_, rfl, by rw [HEE.out]; exact .inr (.inl ⟨by decide, rfl, rfl⟩), ⟨b, HFF0.out.1, fun e0 => by rw [HEE.out] at e0; cases e0⟩, HFF0.out.2, Turns.refl _ _⟩
  · rw [hfb] at HFI
    have HEE : Hid (eachE cl = eachFrom cl 0) := hide (by unfold eachE; rw [hfb]; rfl)
    have HL := hide (fit_rows hfb)
    have hn6 : cl.length ≤ 6 := fit_len hfb
    rw [hn.out] at hn6
    clear hfb g1
    go_enter Tryz.func36, Tryz.ntmps36
    go_wp2_with fail
    refine HFI.out.mono ?_
    rintro e w2 ⟨rfl, e2⟩
    obtain rfl : w = w2 := e2.symm
    clear HFI
    go_wp2_with fail
    go_loopw [5, 6, 7, 14] (fun _ _ _ i wr => ∃ k : Nat, k ≤ n ∧ i = .int .i64 k ∧ Hid (eachFrom cl 0 = eachFrom (cl.drop k) k ∧ Below w00.heap.size w00 wr ∧ wr.cell? ⟨sf, 0, none⟩ = some (.bool (b && ((cl.take k).all (fun L => folS .first L)))) ∧ wr.frozen? ⟨sf, 0, none⟩ = false ∧ Turns (fun q _ => q = sf) w wr)) (fun _ _ _ i _ => n - (intOf i).toNat)
    case atStart => exact ⟨0, Nat.zero_le _, rfl, H0⟩
    case round =>
      clear H0
      obtain ⟨k, hk, rfl, HR⟩ := hrel
      obtain ⟨hee, hbw, hfl, hfz, htu⟩ := HR.out
      by_cases hlt : k < n
      · have ki : (k : Int) < n := by omega
        obtain ⟨L, hL⟩ : ∃ L, cl[k]? = some L := ⟨_, List.getElem?_eq_getElem (by rw [hn.out]; exact hlt)⟩
        have hdr : cl.drop k = L :: cl.drop (k + 1) := by
          have := List.drop_eq_getElem_cons (show k < cl.length by rw [hn.out]; exact hlt)
          rw [this]
          have h2 := List.getElem?_eq_getElem (show k < cl.length by rw [hn.out]; exact hlt)
          rw [hL] at h2
          rw [Option.some.inj h2]
        rw [hdr] at hee
        obtain ⟨b9, off, adl, capl, rfl, c00, hops⟩ := HO.out k L hL
        have c0 := keep_cell hbw c00
        have hl20 := HL.out L (List.mem_of_getElem? hL)
        have HF1 := hide (fol1_safe (cap := capl) HE.out hops hbw HSF.out (Nat.lt_of_lt_of_le HS2.out htu.size) hfl hfz (by omega) (htu.keep HCX.out HNE.out))
        have HEE2 := hide hee
        have HSN := hide (all_snoc hL)
        have HBW := hide hbw
        have HTU := hide htu
        have HFZ := hide (And.intro hfl hfz)
        clear hL hdr hee hbw c00 hops hl20 HR hfl hfz htu
        generalize hLn : L.length = ln at *
        go_wp2_with fail
        refine HF1.out.mono ?_
        rintro e w2 ⟨rfl, ⟨b2, hc2, hi2⟩, hz2, ht2⟩
        have HF2 := hide (And.intro hc2 hz2)
        have HBW2 := hide (HBW.out.trans (ht2.below HBW.out.size (fun q o hq e => by have := HSF.out; omega)))
        have HT2 := hide (HTU.out.trans ht2)
        have HI2 := hide hi2
        have HAS := hide HSN.out
        clear hc2 hz2 ht2 hi2 HBW HTU
        by_cases hz : folE .first L = 0
        · rw [hz, errVal_zero a rfl]
          have HEN : Hid (eachFrom cl 0 = eachFrom (cl.drop (k + 1)) (k + 1)) := hide (by
            rw [HEE2.out]
            show (if folE .first L ≠ 0 then _ else _) = _
            rw [if_neg (fun h => h hz)])
          have HB3 : Hid (b2 = (b && ((cl.take (k + 1)).all (fun L => folS .first L)))) := hide (by rw [HAS.out, HI2.out hz, Bool.and_assoc])
          have HF3 : Hid (w2.cell? ⟨sf, 0, none⟩ = some (.bool (b && ((cl.take (k + 1)).all (fun L => folS .first L)))) ∧ w2.frozen? ⟨sf, 0, none⟩ = false) := hide ⟨by rw [← HB3.out]; exact HF2.out.1, HF2.out.2⟩
          clear HF1 HEE2 HF2 HI2 HAS HFZ HB3
          go_wp2_with fail
          go_roundw
          case rel => exact ⟨k + 1, by omega, by go_num, hide ⟨HEN.out, HBW2.out, HF3.out.1, HF3.out.2, HT2.out⟩⟩
          case measure => simp [intOf]; omega
        · obtain ⟨j, hj, hv⟩ := errVal_pos (a := a) hz
          rw [hv]
          have HEN : Hid (eachE cl = (j + 1, (k : Int))) := hide (by
            rw [HEE.out, HEE2.out]
            show (if folE .first L ≠ 0 then _ else _) = _
            rw [if_pos hz, hj])
          have hsz : w.heap.size ≤ w2.heap.size := HT2.out.size
          clear HF1 HEE2
          go_wp2_with fail
          go_ret
          refine ⟨_, rfl, ?_, ⟨b2, keep_cell ((Below.refl _ _).alloc (Nat.le_refl _) _) HF2.out.1, fun e0 => by rw [HEN.out] at e0; cases e0⟩, (((Below.refl _ _).alloc (Nat.le_refl _) _ : Below w2.heap.size w2 (w2.alloc _)).frozen (show (⟨sf, 0, none⟩ : Addr).block < _ from World.block_lt_of_cell? _ _ HF2.out.1)).trans HF2.out.2, HT2.out.alloc _⟩
          rw [HEN.out]
          exact .inr (.inr ⟨by simp, k, w2.heap.size, rfl, hsz, rfl, by rw [World.cell?_alloc_new]; rfl, by rw [World.cell?_alloc_new]; rfl⟩)
      · obtain rfl : k = n := by omega
        have hdl : cl.drop k = [] := by rw [← hn.out, List.drop_length]
        rw [hdl] at hee
        have HEN : Hid (eachE cl = (0, -1)) := hide (by rw [HEE.out, hee]; rfl)
        have HTU := hide htu
        have HFZ := hide (And.intro hfl hfz)
        clear hee hbw HR hdl hfl hfz htu
        go_wp2_with fail
        go_ret
        exact ⟨_, rfl, by rw [HEN.out]; exact .inl ⟨rfl, rfl⟩, ⟨_, HFZ.out.1, fun _ => by unfold eachS; rw [← hn.out, List.take_length]⟩, HFZ.out.2, HTU.out⟩
end Go.Proofs.YtoialadjpcdbaaaGreatDoor
