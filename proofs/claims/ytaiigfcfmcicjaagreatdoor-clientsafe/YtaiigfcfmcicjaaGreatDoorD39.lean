import Derived.Test.YtaiigfcfmcicjaaGreatDoorD38
import Derived.Test.YtaiigfcfmcicjaaGreatDoorD32
import Derived.Test.YtaiigfcfmcicjaaGreatDoorD03
import Derived.Test.YtaiigfcfmcicjaaGreatDoorD12
namespace Go.Proofs.YtaiigfcfmcicjaaGreatDoor
set_option maxRecDepth 100000
set_option maxHeartbeats 8000000
section
open Go.RowKit Go.Extern.Stop Go.Stop Go.Extern Go.Maps Go.WideMaps Go.Sort
def longTo (cl : List (List OpI)) (k : Nat) : Bool := (cl.take k).any fun L => decide (20 < L.length)
theorem longTo_succ {cl : List (List OpI)} {k : Nat} {L : List OpI} (h : cl[k]? = some L) : longTo cl (k + 1) = (longTo cl k || decide (20 < L.length)) := by
 unfold longTo
 rw [List.take_add_one, h, List.any_append]
 simp
theorem longTo_mono {cl : List (List OpI)} {k m : Nat} (hm : k <= m) (he : longTo cl k = true) : longTo cl m = true := by
 unfold longTo at he ⊢
 rw [List.any_eq_true] at he ⊢
 obtain ⟨x, hx, hp⟩ := he
 exact ⟨x, (List.take_subset_take_left _ hm) hx, hp⟩
theorem fit1_any (ad : Option Addr) (n c : Nat) (w : World) : Calls Tryz.prog 122 #[.slice ad n c] w fun e w' => e = .returned (.bool (decide (20 < n))) /\ w' = w := by
 go_enter Tryz.func122, Tryz.ntmps122
 go_wp2_with fail
 go_ret
 refine ⟨?_, rfl⟩
 by_cases h : 20 < n
 ·rw [decide_eq_true h]
  show Ending.returned (Value.bool (decide (20 < (n : Int)))) = _
  rw [decide_eq_true (show 20 < (n : Int) by omega)]
 ·rw [decide_eq_false h]
  show Ending.returned (Value.bool (decide (20 < (n : Int)))) = _
  rw [decide_eq_false (show ¬ 20 < (n : Int) by omega)]
theorem indexF_any {ad : Option Addr} {cl : List (List OpI)} {cap : Nat} {w : World} (h : opRowsAt ad cl w) (hl : cl.length <= 100) :
  Calls Tryz.prog 147 #[.slice ad cl.length cap, .func (.func 122) #[] #[]] w fun e w' => ∃ r : Int, e = .returned (.int .i64 r) /\ decide (0 <= r) = longTo cl cl.length /\ w' = w := by
 have HH := hide h
 obtain ⟨n, hn⟩ : ∃ n, Hid (cl.length = n) := ⟨_, hide rfl⟩
 rw [hn.out] at hl ⊢
 clear h
 go_enter Tryz.func147, Tryz.ntmps147
 go_wp2_with fail
 go_loopw [5, 8] (fun _ i wr => ∃ j : Nat, j <= n /\ i = .int .i64 j /\ Hid (longTo cl j = false) /\ w = wr) (fun _ i _ => n - (intOf i).toNat)
 case atStart => exact ⟨0, Nat.zero_le _, rfl, hide rfl, (by first | rfl | trivial)⟩
 case round =>
  obtain ⟨j, hj, rfl, HA, rfl⟩ := hrel
  by_cases hlt : j < n
  ·have ji : (j : Int) < n := by omega
   obtain ⟨L, hL⟩ : ∃ L, cl[j]? = some L := ⟨_, List.getElem?_eq_getElem (by rw [hn.out]; exact hlt)⟩
   obtain ⟨b, off, adl, capl, rfl, c0, -⟩ := HH.out j L hL
   have HS := hide (longTo_succ hL)
   have HF := hide (fit1_any adl L.length capl w)
   clear hL
   generalize hLn : L.length = ln at *
   cases he : decide (20 < ln)
   ·have HA2 : Hid (longTo cl (j + 1) = false) := hide (by rw [HS.out, HA.out, he]; rfl)
    rw [he] at HF
    clear HS HA he
    go_wp2_with fail
    refine HF.out.mono ?_
    rintro e w2 ⟨rfl, rfl⟩
    go_wp2_with fail
    go_roundw
    case rel => exact ⟨j + 1, by omega, by go_num, HA2, (by first | rfl | trivial)⟩
    case measure => simp [intOf]; omega
   ·have HA2 : Hid (longTo cl n = true) := hide (longTo_mono (show j + 1 <= n by omega) (by rw [HS.out, he, Bool.or_true]))
    rw [he] at HF
    clear HS HA he
    go_wp2_with fail
    refine HF.out.mono ?_
    rintro e w2 ⟨rfl, rfl⟩
    go_wp2_with fail
    go_ret
    exact ⟨j, rfl, by rw [HA2.out]; exact decide_eq_true (by omega), rfl⟩
  ·obtain rfl : j = n := by omega
   go_wp2_with fail
   go_ret
   exact ⟨-1, rfl, by rw [HA.out]; rfl, rfl⟩
theorem containsF_any {ad : Option Addr} {cl : List (List OpI)} {cap : Nat} {w : World} (h : opRowsAt ad cl w) (hl : cl.length <= 100) :
  Calls Tryz.prog 121 #[.slice ad cl.length cap, .func (.func 122) #[] #[]] w fun e w' => e = .returned (.bool (longTo cl cl.length)) /\ w' = w := by
 have HI := hide (indexF_any (cap := cap) h hl)
 clear h
 generalize longTo cl cl.length = B at *
 generalize cl.length = n at *
 go_enter Tryz.func121, Tryz.ntmps121
 go_wp2_with fail
 refine HI.out.mono ?_
 rintro e w2 ⟨r, rfl, hr, rfl⟩
 go_wp2_with fail
 go_ret
 refine ⟨?_, rfl⟩
 rw [<- hr]
 rfl
def fitB (cl : List (List OpI)) : Bool := decide (1 <= cl.length) && (decide (cl.length <= 6) && !(longTo cl cl.length))
theorem fit_any {ad : Option Addr} {cl : List (List OpI)} {cap : Nat} {w : World} (h : opRowsAt ad cl w) :
  Calls Tryz.prog 77 #[.slice ad cl.length cap] w fun e w' => e = .returned (.bool (fitB cl)) /\ w' = w := by
 by_cases h1 : cl.length < 1
 ·have hf : fitB cl = false := by unfold fitB; rw [decide_eq_false (by omega)]; rfl
  rw [hf]
  have i1 : (cl.length : Int) < 1 := by omega
  generalize cl.length = n at *
  clear h
  go_enter Tryz.func77, Tryz.ntmps77
  go_wp2_with fail
  go_ret
  exact ⟨rfl, rfl⟩
 ·have i1 : ¬ (cl.length : Int) < 1 := by omega
  by_cases h6 : 6 < cl.length
  ·have hf : fitB cl = false := by unfold fitB; rw [decide_eq_true (by omega), decide_eq_false (by omega)]; rfl
   rw [hf]
   have i2 : 6 < (cl.length : Int) := by omega
   generalize cl.length = n at *
   clear h
   go_enter Tryz.func77, Tryz.ntmps77
   go_wp2_with fail
   go_ret
   exact ⟨rfl, rfl⟩
  ·have hf : fitB cl = !(longTo cl cl.length) := by unfold fitB; rw [decide_eq_true (by omega), decide_eq_true (by omega)]; rfl
   rw [hf]
   have i2 : ¬ 6 < (cl.length : Int) := by omega
   have HC := hide (containsF_any (cap := cap) h (by omega))
   clear h hf
   generalize longTo cl cl.length = B at *
   generalize cl.length = n at *
   go_enter Tryz.func77, Tryz.ntmps77
   go_wp2_with fail
   refine HC.out.mono ?_
   rintro e w2 ⟨rfl, rfl⟩
   go_wp2_with fail
   go_ret
   exact ⟨rfl, rfl⟩
end
section
open Go.RowKit Go.Extern.Stop Go.Stop Go.Extern Go.Maps Go.WideMaps Go.Sort
def eachFrom : List (List OpI) -> Nat -> Nat × Int
 | [], _ => (0, -1)
 | L :: r, t => if folE .first L ≠ 0 then (folE .first L, (t : Int)) else eachFrom r (t + 1)
def eachE (cl : List (List OpI)) : Nat × Int := if fitB cl = true then eachFrom cl 0 else (2, -1)
def eachS (cl : List (List OpI)) : Bool := cl.all fun L => folS .first L
theorem fit_rows {cl : List (List OpI)} (h : fitB cl = true) : ∀ L ∈ cl, L.length <= 20 := fun L hL => by
 unfold fitB at h
 simp only [Bool.and_eq_true, Bool.not_eq_true'] at h
 have h3 := h.2.2
 unfold longTo at h3
 rw [List.take_length] at h3
 have := List.any_eq_false.1 h3 L hL
 simpa using this
theorem fit_len {cl : List (List OpI)} (h : fitB cl = true) : cl.length <= 6 := by
 unfold fitB at h
 simp only [Bool.and_eq_true, decide_eq_true_eq] at h
 exact h.2.1
theorem all_snoc {cl : List (List OpI)} {k : Nat} {L : List OpI} (h : cl[k]? = some L) : (cl.take (k + 1)).all (fun L => folS .first L) = ((cl.take k).all (fun L => folS .first L) && folS .first L) := by
 rw [List.take_add_one, h, List.all_append]
 simp
theorem fol1_check {a : Nat -> Addr} {w00 w : World} (hE : EnvL a w00) {ad : Option Addr} {l : List OpI} {cap : Nat} (ho : opsAt ad l w00) (hw : Below w00.heap.size w00 w) (hl : l.length <= 30) {bx : Nat} (cx : w.cell? ⟨bx, 0, none⟩ = some (.func (.func 37) #[] #[])) :
  Calls Tryz.prog 50 #[.slice ad l.length cap, .pointer (some ⟨bx, 0, none⟩)] w fun e w' => e = .returned (errVal a (folE .first l)) /\ Below w.heap.size w w' := by
 have HF := hide (followOne_check (cap := cap) hE ho hw hl)
 clear hE ho hw hl
 generalize l.length = n at *
 go_enter Tryz.func50, Tryz.ntmps50
 go_wp2_with fail
 refine HF.out.mono ?_
 rintro e w2 ⟨rfl, h2⟩
 have HP := hide h2
 obtain ⟨ev, hev⟩ : ∃ ev, Hid (errVal a (folE .first l) = ev) := ⟨_, hide rfl⟩
 rw [hev.out]
 clear h2 HF
 go_wp2_with fail
 refine bodyPost_ret (v := ev) (by simp only [results, Tryz.results50]; go_simp) rfl ⟨by rw [hev.out], HP.out⟩
theorem each_check {a : Nat -> Addr} {w00 w : World} (hE : EnvL a w00) {ad : Option Addr} {cl : List (List OpI)} {cap : Nat} (ho : opRowsAt ad cl w00) (hw : Below w00.heap.size w00 w) {bx : Nat} (cx : w.cell? ⟨bx, 0, none⟩ = some (.func (.func 37) #[] #[])) :
  Calls Tryz.prog 49 #[.slice ad cl.length cap, .func (.func 50) #[] #[.pointer (some ⟨bx, 0, none⟩)]] w fun e w' => ∃ v, e = .returned v /\ errIs a (eachE cl) v w' w.heap.size /\ Below w.heap.size w w' := by
 have HE := hide hE
 have HO := hide ho
 have HFI := hide (fit_any (cap := cap) (ho.below hw))
 have HCX := hide cx
 skip
 have H0 : Hid (eachFrom cl 0 = eachFrom (cl.drop 0) 0 /\ Below w00.heap.size w00 w /\ Below w.heap.size w w) := hide ⟨rfl, hw, Below.refl _ _⟩
 obtain ⟨n, hn⟩ : ∃ n, Hid (cl.length = n) := ⟨_, hide rfl⟩
 rw [hn.out] at HFI ⊢
 have g1 : w.cell? ⟨1, 0, none⟩ = some (errAt (a 1)) := (hE.below hw.block).cell 1 (by decide)
 clear hE ho hw cx
 cases hfb : fitB cl
 ·rw [hfb] at HFI
  have HEE : Hid (eachE cl = (2, -1)) := hide (by unfold eachE; rw [hfb]; rfl)
  clear hfb
  go_enter Tryz.func49, Tryz.ntmps49
  go_wp2_with fail
  refine HFI.out.mono ?_
  rintro e w2 ⟨rfl, rfl⟩
  go_wp2_with fail
  go_ret
  exact ⟨_, rfl, by rw [HEE.out]; exact .inr (.inl ⟨by decide, rfl, rfl⟩), Below.refl _ _⟩
 ·rw [hfb] at HFI
  have HEE : Hid (eachE cl = eachFrom cl 0) := hide (by unfold eachE; rw [hfb]; rfl)
  have HL := hide (fit_rows hfb)
  have hn6 : cl.length <= 6 := fit_len hfb
  rw [hn.out] at hn6
  clear hfb g1
  go_enter Tryz.func49, Tryz.ntmps49
  go_wp2_with fail
  refine HFI.out.mono ?_
  rintro e w2 ⟨rfl, e2⟩
  obtain rfl : w = w2 := e2.symm
  clear HFI
  go_wp2_with fail
  go_loopw [5, 6, 7, 14] (fun _ _ _ i wr => ∃ k : Nat, k <= n /\ i = .int .i64 k /\ Hid (eachFrom cl 0 = eachFrom (cl.drop k) k /\ Below w00.heap.size w00 wr /\ Below w.heap.size w wr)) (fun _ _ _ i _ => n - (intOf i).toNat)
  case atStart => exact ⟨0, Nat.zero_le _, rfl, H0⟩
  case round =>
   clear H0
   obtain ⟨k, hk, rfl, HR⟩ := hrel
   obtain ⟨hee, hbw, hbb⟩ := HR.out
   by_cases hlt : k < n
   ·have ki : (k : Int) < n := by omega
    obtain ⟨L, hL⟩ : ∃ L, cl[k]? = some L := ⟨_, List.getElem?_eq_getElem (by rw [hn.out]; exact hlt)⟩
    have hdr : cl.drop k = L :: cl.drop (k + 1) := by
     have := List.drop_eq_getElem_cons (show k < cl.length by rw [hn.out]; exact hlt)
     rw [this]
     have h2 := List.getElem?_eq_getElem (show k < cl.length by rw [hn.out]; exact hlt)
     rw [hL] at h2
     rw [Option.some.inj h2]
    rw [hdr] at hee
    obtain ⟨b9, off, adl, capl, rfl, c00, hops⟩ := HO.out k L hL
    have c0 := keep_cell hbw c00
    have hl20 := HL.out L (List.mem_of_getElem? hL)
    have HF1 := hide (fol1_check (cap := capl) HE.out hops hbw (by omega) (keep_cell hbb HCX.out))
    have HEE2 := hide hee
    have HBW := hide hbw
    have HBB := hide hbb
    clear hL hdr hee hbw c00 hops hl20 HR hbb
    generalize hLn : L.length = ln at *
    go_wp2_with fail
    refine HF1.out.mono ?_
    rintro e w2 ⟨rfl, hb2⟩
    have HBB2 := hide (below_step HBB.out hb2)
    have HBW2 := hide (below_step HBW.out hb2)
    clear hb2 HBB HBW
    by_cases hz : folE .first L = 0
    ·rw [hz, errVal_zero a rfl]
     have HEN : Hid (eachFrom cl 0 = eachFrom (cl.drop (k + 1)) (k + 1)) := hide (by
      rw [HEE2.out]
      show (if folE .first L ≠ 0 then _ else _) = _
      rw [if_neg (fun h => h hz)])
     skip
     clear HF1 HEE2
     go_wp2_with fail
     go_roundw
     case rel => exact ⟨k + 1, by omega, by go_num, hide ⟨HEN.out, HBW2.out, HBB2.out⟩⟩
     case measure => simp [intOf]; omega
    ·obtain ⟨j, hj, hv⟩ := errVal_pos (a := a) hz
     rw [hv]
     have HEN : Hid (eachE cl = (j + 1, (k : Int))) := hide (by
      rw [HEE.out, HEE2.out]
      show (if folE .first L ≠ 0 then _ else _) = _
      rw [if_pos hz, hj])
     have hsz : w.heap.size <= w2.heap.size := HBB2.out.size
     clear HF1 HEE2
     go_wp2_with fail
     go_ret
     refine ⟨_, rfl, ?_, HBB2.out.alloc hsz _⟩
     rw [HEN.out]
     exact .inr (.inr ⟨by simp, k, w2.heap.size, rfl, hsz, rfl, by rw [World.cell?_alloc_new]; rfl, by rw [World.cell?_alloc_new]; rfl⟩)
   ·obtain rfl : k = n := by omega
    have hdl : cl.drop k = [] := by rw [<- hn.out, List.drop_length]
    rw [hdl] at hee
    have HEN : Hid (eachE cl = (0, -1)) := hide (by rw [HEE.out, hee]; rfl)
    have HBB := hide hbb
    clear hee hbw HR hdl hbb
    go_wp2_with fail
    go_ret
    exact ⟨_, rfl, by rw [HEN.out]; exact .inl ⟨rfl, rfl⟩, HBB.out⟩
end
section
open Go.RowKit Go.Extern.Stop Go.Stop Go.Extern Go.Maps Go.WideMaps Go.Sort
theorem errIs_mono {a : Nat -> Addr} {f : Nat × Int} {v : Value} {w : World} {B B' : Nat} (h : errIs a f v w B) (hb : B' <= B) : errIs a f v w B' := by
 rcases h with h | h | ⟨h0, j, N, h1, h2, h3⟩
 ·exact .inl h
 ·exact .inr (.inl h)
 ·exact .inr (.inr ⟨h0, j, N, h1, Nat.le_trans hb h2, h3⟩)
theorem follow_check {a : Nat -> Addr} {w : World} (hE : EnvL a w) {ad : Option Addr} {cl : List (List OpI)} {cap : Nat} (ho : opRowsAt ad cl w) :
  Calls Tryz.prog 31 #[.slice ad cl.length cap, .func (.func 37) #[] #[]] w fun e w' => ∃ v, e = .returned v /\ errIs a (eachE cl) v w' w.heap.size /\ Below w.heap.size w w' := by
 have hB : ∀ T, Below w.heap.size w (w.alloc (.cells #[.func (.func 37) #[] #[]] T)) := fun T => bRf.alloc nL _
 have HEA := hide (fun T => each_check (cap := cap) hE ho (hB T) (bx := w.heap.size) (by rw [World.cell?_alloc_new]; rfl))
 have HB := hide hB
 clear hE ho hB
 generalize cl.length = n at *
 go_enter Tryz.func31, Tryz.ntmps31
 go_wp2_with fail
 refine (HEA.out _).mono ?_
 rintro e w2 ⟨v, rfl, he, hb⟩
 have HV := hide (And.intro (errIs_mono he (HB.out _).size) (below_step (HB.out _) hb))
 clear he hb HEA HB
 go_wp2_with fail
 refine bodyPost_ret (v := v) (by simp only [results, Tryz.results31]; go_simp) rfl ⟨_, rfl, HV.out.1, HV.out.2⟩
theorem clcheck_ok {a : Nat -> Addr} {w : World} (hE : EnvL a w) {ad : Option Addr} {cl : List (List OpI)} {cap : Nat} (ho : opRowsAt ad cl w) :
  Calls Tryz.prog 14 #[.slice ad cl.length cap] w fun e w' => ∃ v, e = .returned v /\ errIs a (eachE cl) v w' w.heap.size /\ Below w.heap.size w w' := by
 have HF := hide (follow_check (cap := cap) hE ho)
 clear hE ho
 generalize cl.length = n at *
 go_enter Tryz.func14, Tryz.ntmps14
 go_wp2_with fail
 refine HF.out.mono ?_
 rintro e w2 ⟨v, rfl, h2⟩
 have HV := hide h2
 clear h2 HF
 go_wp2_with fail
 refine bodyPost_ret (v := v) (by simp only [results, Tryz.results14]; go_simp) rfl ⟨_, rfl, HV.out.1, HV.out.2⟩
end
end Go.Proofs.YtaiigfcfmcicjaaGreatDoor
