import Derived.Test.YtaiigfcfmcicjaaGreatDoorB41
import Derived.Test.YtaiigfcfmcicjaaGreatDoorB32

/- ClJ -/
namespace Go.Proofs.YtaiigfcfmcicjaaGreatDoor
open Go.RowKit Go.Extern.Stop Go.Stop Go.Extern Go.Maps Go.WideMaps Go.Sort

set_option maxRecDepth 20000 in
set_option maxHeartbeats 1000000 in
theorem many_any {ad : Option Addr} {cl : List (List OpI)} {cap : Nat} {w : World} (h : opRowsAt ad cl w) :
    Calls Tryz.prog 33 #[.slice ad cl.length cap] w fun e w' => e = .returned (.bool (fitB cl)) ∧ w' = w := by
  by_cases h1 : cl.length < 1
  · have hf : fitB cl = false := by unfold fitB; rw [decide_eq_false (by omega)]; rfl
    rw [hf]
    have i1 : (cl.length : Int) < 1 := by omega
    generalize cl.length = n at *
    clear h
    go_enter Tryz.func33, Tryz.ntmps33
    go_wp2_with fail
    go_ret
    exact ⟨rfl, rfl⟩
  · have i1 : ¬ (cl.length : Int) < 1 := by omega
    by_cases h6 : 6 < cl.length
    · have hf : fitB cl = false := by unfold fitB; rw [decide_eq_true (by omega), decide_eq_false (by omega)]; rfl
      rw [hf]
      have i2 : 6 < (cl.length : Int) := by omega
      generalize cl.length = n at *
      clear h
      go_enter Tryz.func33, Tryz.ntmps33
      go_wp2_with fail
      go_ret
      exact ⟨rfl, rfl⟩
    · have hf : fitB cl = !(longTo cl cl.length) := by unfold fitB; rw [decide_eq_true (by omega), decide_eq_true (by omega)]; rfl
      rw [hf]
      have i2 : ¬ 6 < (cl.length : Int) := by omega
      have HH := hide h
      obtain ⟨n, hn⟩ : ∃ n, Hid (cl.length = n) := ⟨_, hide rfl⟩
      rw [hn.out] at i1 i2 ⊢
      clear h hf h1 h6
      go_enter Tryz.func33, Tryz.ntmps33
      go_wp2_with fail
      go_loopw [3] (fun i wr => ∃ j : Nat, j ≤ n ∧ i = .int .i64 j ∧ Hid (longTo cl j = false) ∧ w = wr) (fun i _ => n - (intOf i).toNat)
      case atStart => exact ⟨0, Nat.zero_le _, rfl, hide rfl, (by first | rfl | trivial)⟩
      case round =>
        obtain ⟨j, hj, rfl, HA, rfl⟩ := hrel
        by_cases hlt : j < n
        · have ji : (j : Int) < n := by omega
          obtain ⟨L, hL⟩ : ∃ L, cl[j]? = some L := ⟨_, List.getElem?_eq_getElem (by rw [hn.out]; exact hlt)⟩
          obtain ⟨b, off, adl, capl, rfl, c0, -⟩ := HH.out j L hL
          have HS := hide (longTo_succ hL)
          clear hL
          generalize hLn : L.length = ln at *
          by_cases he : 20 < ln
          · have HA2 : Hid (longTo cl n = true) := hide (longTo_mono (show j + 1 ≤ n by omega) (by rw [HS.out, decide_eq_true he, Bool.or_true]))
            have hi : 20 < (ln : Int) := by omega
            clear HS HA he
            go_wp2_with fail
            go_ret
            exact ⟨by rw [HA2.out]; rfl, rfl⟩
          · have HA2 : Hid (longTo cl (j + 1) = false) := hide (by rw [HS.out, HA.out, decide_eq_false he]; rfl)
            have hi : ¬ 20 < (ln : Int) := by omega
            clear HS HA he
            go_wp2_with fail
            go_roundw
            case rel => exact ⟨j + 1, by omega, by go_num, HA2, (by first | rfl | trivial)⟩
            case measure => simp [intOf]; omega
        · obtain rfl : j = n := by omega
          go_wp2_with fail
          go_ret
          exact ⟨by rw [HA.out]; rfl, rfl⟩

def wtk (s : List UInt8) : Bool := (s == [119, 97, 105, 116]) || (s == [102, 108, 117, 115, 104])
def wtd (l : List OpI) (p j : Nat) : Bool := ((l.take j).drop p).any fun x => wtk x.kind.toList
theorem wtd_self (l : List OpI) (p : Nat) : wtd l p p = false := by
  unfold wtd
  rw [List.drop_eq_nil_of_le (by rw [List.length_take]; omega)]
  rfl
theorem wtd_succ {l : List OpI} {p j : Nat} {x : OpI} (h : l[j]? = some x) (hp : p ≤ j) : wtd l p (j + 1) = (wtd l p j || wtk x.kind.toList) := by
  unfold wtd
  have hj : j < l.length := (List.getElem?_eq_some_iff.1 h).1
  rw [List.take_add_one, h, List.drop_append_of_le_length (by rw [List.length_take]; omega), List.any_append]
  simp
theorem wtk_kn (s : List UInt8) : wtk s = (kn s == 5 || kn s == 9) := by
  unfold wtk
  rcases kcases s with ⟨h, hk⟩ | ⟨h, hk⟩ | ⟨h, hk⟩ | ⟨h, hk⟩ | ⟨h, hk⟩ | ⟨h, hk⟩ | ⟨h, hk⟩ | ⟨h, hk⟩ | ⟨h, hk⟩ | ⟨h, hk⟩
  all_goals
    rw [hk]
    obtain ⟨e1, e2, e3, e4, e5, e6, e7, e8, e9⟩ := h
    rw [e5, e9]
    rfl
structure TeAt (l : List OpI) (k : Nat) (s : CrI) (p : Int) : Prop where
  d0 : 0 ≤ s.deep
  dk : s.deep ≤ k
  put : (p = -1 ∧ s.ret = false) ∨ ∃ q : Nat, p = q ∧ q < k ∧ s.ret = true ∧ s.wt = wtd l q k
  fe : folE .first l = folE s (l.drop k)
  fs : folS .first l = folS s (l.drop k)
theorem te_first (l : List OpI) : TeAt l 0 .first (-1) := ⟨Int.le_refl _, Int.le_refl _, .inl ⟨rfl, rfl⟩, rfl, rfl⟩
theorem te_drop {l : List OpI} {k : Nat} {x : OpI} (hx : l[k]? = some x) : l.drop k = x :: l.drop (k + 1) := by
  have hk : k < l.length := (List.getElem?_eq_some_iff.1 hx).1
  have h2 := List.getElem?_eq_getElem hk
  rw [hx] at h2
  rw [List.drop_eq_getElem_cons hk, Option.some.inj h2]
theorem te_sh {l : List OpI} {k : Nat} {s : CrI} {p : Int} {x : OpI} (h : TeAt l k s p) (hx : l[k]? = some x) (h0 : shErr (kn x.kind.toList) x.n ≠ 0) : folE .first l = shErr (kn x.kind.toList) x.n := by
  rw [h.fe, te_drop hx]
  exact folE_sh h0
theorem te_ck {l : List OpI} {k : Nat} {s : CrI} {p : Int} {x : OpI} (h : TeAt l k s p) (hx : l[k]? = some x) (h0 : shErr (kn x.kind.toList) x.n = 0) (h1 : ckErr (kn x.kind.toList) s.deep s.ret ≠ 0) : folE .first l = ckErr (kn x.kind.toList) s.deep s.ret := by
  rw [h.fe, te_drop hx]
  exact folE_ck h0 h1
theorem te_end {l : List OpI} {s : CrI} {p : Int} (h : TeAt l l.length s p) : folE .first l = (if 0 < s.deep then 8 else 0) ∧ folS .first l = s.sf := by
  have := h.fe
  have h2 := h.fs
  rw [List.drop_length] at this h2
  exact ⟨this, h2⟩
def nxP (i : Nat) (k : Nat) (p : Int) : Int := if i = 1 then (k : Int) else if i = 7 ∨ i = 8 then -1 else p
theorem te_pass {l : List OpI} {k : Nat} {s : CrI} {p : Int} {x : OpI} (h : TeAt l k s p) (hx : l[k]? = some x) (h0 : shErr (kn x.kind.toList) x.n = 0) (h1 : ckErr (kn x.kind.toList) s.deep s.ret = 0) : TeAt l (k + 1) (s.pass x) (nxP (kn x.kind.toList) k p) where
  d0 := by
    have hd := h.d0
    show 0 ≤ psDeep (kn x.kind.toList) s.deep
    unfold psDeep
    split
    · omega
    split
    · next h3 =>
      rw [h3] at h1
      by_cases hz : 0 < s.deep
      · omega
      · exact absurd h1 (by unfold ckErr; rw [if_pos (.inl rfl), if_neg hz]; decide)
    · exact hd
  dk := by
    have hd := h.dk
    have hd0 := h.d0
    exact (psDeep_bound (kn x.kind.toList) s.deep (k := k) ⟨by omega, hd⟩).2
  put := by
    show (_ ∧ psRet (kn x.kind.toList) s.ret = false) ∨ ∃ q : Nat, _ ∧ _ ∧ psRet (kn x.kind.toList) s.ret = true ∧ psWt (kn x.kind.toList) s.wt = _
    have hw := wtk_kn x.kind.toList
    have hp := h.put
    generalize hi : kn x.kind.toList = i at *
    by_cases i1 : i = 1
    · subst i1
      refine .inr ⟨k, rfl, by omega, rfl, ?_⟩
      rw [wtd_succ hx (Nat.le_refl _), wtd_self, hw]
      rfl
    by_cases i7 : i = 7 ∨ i = 8
    · refine .inl ⟨?_, ?_⟩
      · unfold nxP; rw [if_neg i1, if_pos i7]
      · unfold psRet; rw [if_neg i1, if_pos i7]
    · have e1 : nxP i k p = p := by unfold nxP; rw [if_neg i1, if_neg i7]
      have e2 : psRet i s.ret = s.ret := by unfold psRet; rw [if_neg i1, if_neg i7]
      rw [e1, e2]
      rcases hp with hp | ⟨q, q1, q2, q3, q4⟩
      · exact .inl hp
      · refine .inr ⟨q, q1, by omega, q3, ?_⟩
        rw [wtd_succ hx (by omega), hw, ← q4]
        unfold psWt
        by_cases i5 : i = 5 ∨ i = 9
        · rw [if_pos i5]
          rcases i5 with rfl | rfl <;> simp
        · rw [if_neg i5, if_neg i1]
          have a5 : (i == 5) = false := beq_eq_false_iff_ne.2 (fun e => i5 (.inl e))
          have a9 : (i == 9) = false := beq_eq_false_iff_ne.2 (fun e => i5 (.inr e))
          rw [a5, a9]
          simp
  fe := by
    rw [h.fe, te_drop hx]
    exact folE_go h0 h1
  fs := by
    rw [h.fs, te_drop hx]
    rfl

set_option maxRecDepth 20000 in
set_option maxHeartbeats 8000000 in
theorem terror_any {ad : Option Addr} {l : List OpI} {cap : Nat} {w : World} (ho : opsAt ad l w) (hl : l.length ≤ 30) :
    Calls Tryz.prog 34 #[.slice ad l.length cap] w fun e w' => e = .returned (.tuple #[.int .i64 (folE .first l), .bool (decide (folE .first l = 0) && folS .first l)]) ∧ Below w.heap.size w w' := by
  obtain ⟨n, hn⟩ : ∃ n, Hid (l.length = n) := ⟨_, hide rfl⟩
  have HO := hide ho
  have H0 : Hid (TeAt l 0 .first (-1) ∧ Below w.heap.size w w) := hide ⟨te_first l, Below.refl _ _⟩
  rw [hn.out] at hl ⊢
  clear ho
  go_enter Tryz.func34, Tryz.ntmps34
  go_wp2_with fail
  go_loopw [4, 5, 6, 7, 9, 10, 23, 33, 47, 51, 57, 63, 67, 76] (fun d p b i _ _ _ _ _ _ _ _ _ _ wr => ∃ (k : Nat) (s : CrI) (pp : Int), k ≤ n ∧ d = .int .i64 s.deep ∧ p = .int .i64 pp ∧ b = .bool s.sf ∧ i = .int .i64 k ∧ Hid (TeAt l k s pp ∧ Below w.heap.size w wr)) (fun _ _ _ i _ _ _ _ _ _ _ _ _ _ _ => n - (intOf i).toNat)
  case atStart => exact ⟨0, .first, -1, Nat.zero_le _, rfl, rfl, rfl, rfl, H0⟩
  case round =>
    clear H0
    obtain ⟨k, s, pp, hk, rfl, rfl, rfl, rfl, HR⟩ := hrel
    obtain ⟨hte, hbw⟩ := HR.out
    by_cases hlt : k < n
    · have ki : (k : Int) < n := by omega
      obtain ⟨x, hx⟩ : ∃ x, l[k]? = some x := ⟨_, List.getElem?_eq_getElem (by rw [hn.out]; exact hlt)⟩
      have HX := hide hx
      have HOB := hide (HO.out.below hbw)
      obtain ⟨bo, off, rfl, c0, c1⟩ := HOB.out k x hx
      have HSH := hide (te_sh hte hx)
      have HCK := hide (te_ck hte hx)
      have HPA := hide (te_pass hte hx)
      have HPU := hide hte.put
      have HD0 := hide hte.d0
      have HDK := hide hte.dk
      obtain ⟨kd, nn⟩ := x
      obtain ⟨sd, sr, swt, ssf⟩ := s
      dsimp only at c0 c1 HSH HCK HPU HD0 HDK
      have HBX : Hid (Below w.heap.size w (wr.alloc (.cells #[.string kd, .int .i64 nn] 72))) := hide (hbw.alloc hbw.size _)
      have w1 : IntKind.i64.wrap (sd + 1) = sd + 1 := by have := HD0.out; have := HDK.out; rw [IntKind.wrap_i64]; omega
      have w2 : IntKind.i64.wrap (sd - 1) = sd - 1 := by have := HD0.out; have := HDK.out; rw [IntKind.wrap_i64]; omega
      clear hx hte hbw HR
      rcases kcases kd.toList with ⟨h, hkk⟩ | ⟨h, hkk⟩ | ⟨h, hkk⟩ | ⟨h, hkk⟩ | ⟨h, hkk⟩ | ⟨h, hkk⟩ | ⟨h, hkk⟩ | ⟨h, hkk⟩ | ⟨h, hkk⟩ | ⟨h, hkk⟩
      all_goals
        rw [hkk] at HSH HCK HPA
        have HKK := hide hkk
        clear hkk
        obtain ⟨e1, e2, e3, e4, e5, e6, e7, e8, e9⟩ := h
      · by_cases hs1 : nn < 1
        · have HFN : Hid (folE .first l = 2) := hide ((HSH.out (by simp [shErr, hs1])).trans (by simp [shErr, hs1]))
          clear HSH HCK HPA HPU HDK
          go_wp2_with fail
          go_ret2
          exact ⟨by rw [HFN.out]; rfl, HBX.out⟩
        by_cases hs2 : 1000 < nn
        · have HFN : Hid (folE .first l = 2) := hide ((HSH.out (by simp [shErr, hs2])).trans (by simp [shErr, hs2]))
          clear HSH HCK HPA HPU HDK
          go_wp2_with fail
          go_ret2
          exact ⟨by rw [HFN.out]; rfl, HBX.out⟩
        have HS0 : Hid (shErr 1 nn = 0) := hide (by simp [shErr, hs1, hs2])
        by_cases hd : 0 < sd
        · have HFN : Hid (folE .first l = 8) := hide ((HCK.out HS0.out (by simp [ckErr, hd])).trans (by simp [ckErr, hd]))
          clear HSH HCK HPA HPU HDK
          go_wp2_with fail
          go_ret2
          exact ⟨by rw [HFN.out]; rfl, HBX.out⟩
        rcases HPU.out with ⟨rfl, rfl⟩ | ⟨q, rfl, hq, rfl, hw⟩
        · have HP2 := hide (HPA.out HS0.out (by simp [ckErr, hd]))
          clear HSH HCK HPA HPU HDK
          go_wp2_with fail
          go_roundw
          case rel => exact ⟨k + 1, _, _, by omega, by rw [CrI.pass]; dsimp only; rw [HKK.out]; rfl, rfl, by rw [CrI.pass]; dsimp only; rw [HKK.out]; simp, by go_num, hide ⟨HP2.out, HBX.out⟩⟩
          case measure => simp [intOf]; omega
        · have q0 : (0 : Int) ≤ (q : Int) := Int.natCast_nonneg q
          have HFN : Hid (folE .first l = 8) := hide ((HCK.out HS0.out (by simp [ckErr])).trans (by simp [ckErr]))
          clear HSH HCK HPA HPU HDK hw
          go_wp2_with fail
          go_ret2
          exact ⟨by rw [HFN.out]; rfl, HBX.out⟩
      · rcases (show (nn != 0) = true ∧ nn ≠ 0 ∨ nn = 0 by by_cases h : nn = 0; (exact .inr h); (exact .inl ⟨bne_iff_ne.2 h, h⟩)) with ⟨hs, hs1⟩ | rfl
        · have HFN : Hid (folE .first l = 3) := hide ((HSH.out (by simp [shErr, hs1])).trans (by simp [shErr, hs1]))
          clear HSH HCK HPA HPU HDK
          go_wp2_with fail
          go_ret2
          exact ⟨by rw [HFN.out]; rfl, HBX.out⟩
        have HP2 := hide (HPA.out rfl (by simp [ckErr]))
        clear HSH HCK HPA HPU HDK
        go_wp2_with fail
        go_roundw
        case rel => exact ⟨k + 1, _, _, by omega, by rw [CrI.pass]; dsimp only; rw [HKK.out]; rfl, rfl, by rw [CrI.pass]; dsimp only; rw [HKK.out]; simp, by go_num, hide ⟨HP2.out, HBX.out⟩⟩
        case measure => simp [intOf]; omega
      · rcases (show (nn != 0) = true ∧ nn ≠ 0 ∨ nn = 0 by by_cases h : nn = 0; (exact .inr h); (exact .inl ⟨bne_iff_ne.2 h, h⟩)) with ⟨hs, hs1⟩ | rfl
        · have HFN : Hid (folE .first l = 3) := hide ((HSH.out (by simp [shErr, hs1])).trans (by simp [shErr, hs1]))
          clear HSH HCK HPA HPU HDK
          go_wp2_with fail
          go_ret2
          exact ⟨by rw [HFN.out]; rfl, HBX.out⟩
        by_cases hd : 0 < sd
        · have hd2 : ¬ sd - 1 < 0 := by omega
          have HP2 := hide (HPA.out rfl (by simp [ckErr, hd]))
          clear HSH HCK HPA HPU HDK
          go_wp2_with fail
          go_roundw
          case rel => exact ⟨k + 1, _, _, by omega, by rw [CrI.pass]; dsimp only; rw [HKK.out]; rfl, rfl, by rw [CrI.pass]; dsimp only; rw [HKK.out]; simp, by go_num, hide ⟨HP2.out, HBX.out⟩⟩
          case measure => simp [intOf]; omega
        · have hd2 : sd - 1 < 0 := by have := HD0.out; omega
          have HFN : Hid (folE .first l = 8) := hide ((HCK.out rfl (by simp [ckErr, hd])).trans (by simp [ckErr, hd]))
          clear HSH HCK HPA HPU HDK
          go_wp2_with fail
          go_ret2
          exact ⟨by rw [HFN.out]; rfl, HBX.out⟩
      · rcases (show (nn != 0) = true ∧ nn ≠ 0 ∨ nn = 0 by by_cases h : nn = 0; (exact .inr h); (exact .inl ⟨bne_iff_ne.2 h, h⟩)) with ⟨hs, hs1⟩ | rfl
        · have HFN : Hid (folE .first l = 3) := hide ((HSH.out (by simp [shErr, hs1])).trans (by simp [shErr, hs1]))
          clear HSH HCK HPA HPU HDK
          go_wp2_with fail
          go_ret2
          exact ⟨by rw [HFN.out]; rfl, HBX.out⟩
        by_cases hd : 0 < sd
        · have HFN : Hid (folE .first l = 8) := hide ((HCK.out rfl (by simp [ckErr, hd])).trans (by simp [ckErr, hd]))
          clear HSH HCK HPA HPU HDK
          go_wp2_with fail
          go_ret2
          exact ⟨by rw [HFN.out]; rfl, HBX.out⟩
        · have HP2 := hide (HPA.out rfl (by simp [ckErr, hd]))
          clear HSH HCK HPA HPU HDK
          go_wp2_with fail
          go_roundw
          case rel => exact ⟨k + 1, _, _, by omega, by rw [CrI.pass]; dsimp only; rw [HKK.out]; rfl, rfl, by rw [CrI.pass]; dsimp only; rw [HKK.out]; simp, by go_num, hide ⟨HP2.out, HBX.out⟩⟩
          case measure => simp [intOf]; omega
      · rcases (show (nn != 0) = true ∧ nn ≠ 0 ∨ nn = 0 by by_cases h : nn = 0; (exact .inr h); (exact .inl ⟨bne_iff_ne.2 h, h⟩)) with ⟨hs, hs1⟩ | rfl
        · have HFN : Hid (folE .first l = 3) := hide ((HSH.out (by simp [shErr, hs1])).trans (by simp [shErr, hs1]))
          clear HSH HCK HPA HPU HDK
          go_wp2_with fail
          go_ret2
          exact ⟨by rw [HFN.out]; rfl, HBX.out⟩
        by_cases hd : 0 < sd
        · have HFN : Hid (folE .first l = 8) := hide ((HCK.out rfl (by simp [ckErr, hd])).trans (by simp [ckErr, hd]))
          clear HSH HCK HPA HPU HDK
          go_wp2_with fail
          go_ret2
          exact ⟨by rw [HFN.out]; rfl, HBX.out⟩
        · have HP2 := hide (HPA.out rfl (by simp [ckErr, hd]))
          clear HSH HCK HPA HPU HDK
          go_wp2_with fail
          go_roundw
          case rel => exact ⟨k + 1, _, _, by omega, by rw [CrI.pass]; dsimp only; rw [HKK.out]; rfl, rfl, by rw [CrI.pass]; dsimp only; rw [HKK.out]; simp, by go_num, hide ⟨HP2.out, HBX.out⟩⟩
          case measure => simp [intOf]; omega
      · rcases (show (nn != 0) = true ∧ nn ≠ 0 ∨ nn = 0 by by_cases h : nn = 0; (exact .inr h); (exact .inl ⟨bne_iff_ne.2 h, h⟩)) with ⟨hs, hs1⟩ | rfl
        · have HFN : Hid (folE .first l = 3) := hide ((HSH.out (by simp [shErr, hs1])).trans (by simp [shErr, hs1]))
          clear HSH HCK HPA HPU HDK
          go_wp2_with fail
          go_ret2
          exact ⟨by rw [HFN.out]; rfl, HBX.out⟩
        by_cases hd : 0 < sd
        · have hd2 : (sd == 0) = false := beq_eq_false_iff_ne.2 (by omega)
          have HP2 := hide (HPA.out rfl (by simp [ckErr, hd]))
          clear HSH HCK HPA HPU HDK
          go_wp2_with fail
          go_roundw
          case rel => exact ⟨k + 1, _, _, by omega, by rw [CrI.pass]; dsimp only; rw [HKK.out]; rfl, rfl, by rw [CrI.pass]; dsimp only; rw [HKK.out]; simp, by go_num, hide ⟨HP2.out, HBX.out⟩⟩
          case measure => simp [intOf]; omega
        · obtain rfl : sd = 0 := by have := HD0.out; omega
          have HFN : Hid (folE .first l = 8) := hide ((HCK.out rfl (by simp [ckErr])).trans (by simp [ckErr]))
          clear HSH HCK HPA HPU HDK
          go_wp2_with fail
          go_ret2
          exact ⟨by rw [HFN.out]; rfl, HBX.out⟩
      · rcases (show (nn != 0) = true ∧ nn ≠ 0 ∨ nn = 0 by by_cases h : nn = 0; (exact .inr h); (exact .inl ⟨bne_iff_ne.2 h, h⟩)) with ⟨hs, hs1⟩ | rfl
        · have HFN : Hid (folE .first l = 3) := hide ((HSH.out (by simp [shErr, hs1])).trans (by simp [shErr, hs1]))
          clear HSH HCK HPA HPU HDK
          go_wp2_with fail
          go_ret2
          exact ⟨by rw [HFN.out]; rfl, HBX.out⟩
        rcases HPU.out with ⟨rfl, rfl⟩ | ⟨q, rfl, hq, rfl, hw⟩
        · have HFN : Hid (folE .first l = 5) := hide ((HCK.out rfl (by simp [ckErr])).trans (by simp [ckErr]))
          clear HSH HCK HPA HPU HDK
          go_wp2_with fail
          go_ret2
          exact ⟨by rw [HFN.out]; rfl, HBX.out⟩
        · have q0 : ¬ (q : Int) < 0 := by omega
          have HP2 := hide (HPA.out rfl (by simp [ckErr]))
          have HW := hide hw
          clear HSH HCK HPA HPU HDK hw
          go_wp2_with fail
          go_loopw [9, 10] (fun wv kv W => ∃ j : Nat, q ≤ j ∧ j ≤ k ∧ wv = .bool (wtd l q j) ∧ kv = .int .i64 j ∧ (wr.alloc (.cells #[.string kd, .int .i64 0] 72)) = W) (fun _ kv _ => k - (intOf kv).toNat)
          case atStart => exact ⟨q, Nat.le_refl _, by omega, by rw [wtd_self], rfl, (by first | rfl | trivial)⟩
          case round =>
            obtain ⟨j, hqj, hjk, rfl, rfl, rfl⟩ := hrel
            by_cases hjl : j < k
            · have jk : (j : Int) < k := by omega
              have jn : (j : Int) < n := by omega
              obtain ⟨y, hy⟩ : ∃ y, l[j]? = some y := ⟨_, List.getElem?_eq_getElem (by rw [hn.out]; omega)⟩
              obtain ⟨bo2, off2, eb, y0, -⟩ := (HOB.out.below ((Below.refl _ wr).alloc (Nat.le_refl _) (.cells #[.string kd, .int .i64 0] 72))) j y hy
              cases eb
              have HS := hide (wtd_succ hy hqj)
              obtain ⟨yk, yn⟩ := y
              dsimp only at y0 HS
              clear hy
              generalize wtd l q j = wj at *
              cases y5 : (yk.toList == [119, 97, 105, 116])
              · cases y9 : (yk.toList == [102, 108, 117, 115, 104])
                · go_wp2_with fail
                  go_roundw
                  case rel => exact ⟨j + 1, by omega, by omega, by rw [HS.out]; unfold wtk; simp [*], by go_num, (by first | rfl | trivial)⟩
                  case measure => simp [intOf]; omega
                · go_wp2_with fail
                  go_roundw
                  case rel => exact ⟨j + 1, by omega, by omega, by rw [HS.out]; unfold wtk; simp [*], by go_num, (by first | rfl | trivial)⟩
                  case measure => simp [intOf]; omega
              · go_wp2_with fail
                go_roundw
                case rel => exact ⟨j + 1, by omega, by omega, by rw [HS.out]; unfold wtk; simp [*], by go_num, (by first | rfl | trivial)⟩
                case measure => simp [intOf]; omega
            · obtain rfl : j = k := by omega
              have HWJ := hide HW.out.symm
              generalize wtd l q j = wj at *
              obtain rfl := HWJ.out
              cases wj
              · go_wp2_with fail
                go_roundw
                case rel => exact ⟨j + 1, _, _, by omega, by rw [CrI.pass]; dsimp only; rw [HKK.out]; rfl, rfl, by rw [CrI.pass]; dsimp only; rw [HKK.out]; simp, by go_num, hide ⟨HP2.out, HBX.out⟩⟩
                case measure => simp [intOf]; omega
              · go_wp2_with fail
                go_roundw
                case rel => exact ⟨j + 1, _, _, by omega, by rw [CrI.pass]; dsimp only; rw [HKK.out]; rfl, rfl, by rw [CrI.pass]; dsimp only; rw [HKK.out]; simp, by go_num, hide ⟨HP2.out, HBX.out⟩⟩
                case measure => simp [intOf]; omega
      · rcases (show (nn != 0) = true ∧ nn ≠ 0 ∨ nn = 0 by by_cases h : nn = 0; (exact .inr h); (exact .inl ⟨bne_iff_ne.2 h, h⟩)) with ⟨hs, hs1⟩ | rfl
        · have HFN : Hid (folE .first l = 3) := hide ((HSH.out (by simp [shErr, hs1])).trans (by simp [shErr, hs1]))
          clear HSH HCK HPA HPU HDK
          go_wp2_with fail
          go_ret2
          exact ⟨by rw [HFN.out]; rfl, HBX.out⟩
        rcases HPU.out with ⟨rfl, rfl⟩ | ⟨q, rfl, hq, rfl, hw⟩
        · have HFN : Hid (folE .first l = 5) := hide ((HCK.out rfl (by simp [ckErr])).trans (by simp [ckErr]))
          clear HSH HCK HPA HPU HDK
          go_wp2_with fail
          go_ret2
          exact ⟨by rw [HFN.out]; rfl, HBX.out⟩
        · have q0 : ¬ (q : Int) < 0 := by omega
          have HP2 := hide (HPA.out rfl (by simp [ckErr]))
          have HW := hide hw
          clear HSH HCK HPA HPU HDK hw
          go_wp2_with fail
          go_loopw [9, 10] (fun wv kv W => ∃ j : Nat, q ≤ j ∧ j ≤ k ∧ wv = .bool (wtd l q j) ∧ kv = .int .i64 j ∧ (wr.alloc (.cells #[.string kd, .int .i64 0] 72)) = W) (fun _ kv _ => k - (intOf kv).toNat)
          case atStart => exact ⟨q, Nat.le_refl _, by omega, by rw [wtd_self], rfl, (by first | rfl | trivial)⟩
          case round =>
            obtain ⟨j, hqj, hjk, rfl, rfl, rfl⟩ := hrel
            by_cases hjl : j < k
            · have jk : (j : Int) < k := by omega
              have jn : (j : Int) < n := by omega
              obtain ⟨y, hy⟩ : ∃ y, l[j]? = some y := ⟨_, List.getElem?_eq_getElem (by rw [hn.out]; omega)⟩
              obtain ⟨bo2, off2, eb, y0, -⟩ := (HOB.out.below ((Below.refl _ wr).alloc (Nat.le_refl _) (.cells #[.string kd, .int .i64 0] 72))) j y hy
              cases eb
              have HS := hide (wtd_succ hy hqj)
              obtain ⟨yk, yn⟩ := y
              dsimp only at y0 HS
              clear hy
              generalize wtd l q j = wj at *
              cases y5 : (yk.toList == [119, 97, 105, 116])
              · cases y9 : (yk.toList == [102, 108, 117, 115, 104])
                · go_wp2_with fail
                  go_roundw
                  case rel => exact ⟨j + 1, by omega, by omega, by rw [HS.out]; unfold wtk; simp [*], by go_num, (by first | rfl | trivial)⟩
                  case measure => simp [intOf]; omega
                · go_wp2_with fail
                  go_roundw
                  case rel => exact ⟨j + 1, by omega, by omega, by rw [HS.out]; unfold wtk; simp [*], by go_num, (by first | rfl | trivial)⟩
                  case measure => simp [intOf]; omega
              · go_wp2_with fail
                go_roundw
                case rel => exact ⟨j + 1, by omega, by omega, by rw [HS.out]; unfold wtk; simp [*], by go_num, (by first | rfl | trivial)⟩
                case measure => simp [intOf]; omega
            · obtain rfl : j = k := by omega
              have HWJ := hide HW.out.symm
              generalize wtd l q j = wj at *
              obtain rfl := HWJ.out
              go_wp2_with fail
              go_roundw
              case rel => exact ⟨j + 1, _, _, by omega, by rw [CrI.pass]; dsimp only; rw [HKK.out]; rfl, rfl, by rw [CrI.pass]; dsimp only; rw [HKK.out]; simp, by go_num, hide ⟨HP2.out, HBX.out⟩⟩
              case measure => simp [intOf]; omega
      · rcases (show (nn != 0) = true ∧ nn ≠ 0 ∨ nn = 0 by by_cases h : nn = 0; (exact .inr h); (exact .inl ⟨bne_iff_ne.2 h, h⟩)) with ⟨hs, hs1⟩ | rfl
        · have HFN : Hid (folE .first l = 3) := hide ((HSH.out (by simp [shErr, hs1])).trans (by simp [shErr, hs1]))
          clear HSH HCK HPA HPU HDK
          go_wp2_with fail
          go_ret2
          exact ⟨by rw [HFN.out]; rfl, HBX.out⟩
        by_cases hd : 0 < sd
        · have HFN : Hid (folE .first l = 8) := hide ((HCK.out rfl (by simp [ckErr, hd])).trans (by simp [ckErr, hd]))
          clear HSH HCK HPA HPU HDK
          go_wp2_with fail
          go_ret2
          exact ⟨by rw [HFN.out]; rfl, HBX.out⟩
        · have HP2 := hide (HPA.out rfl (by simp [ckErr, hd]))
          clear HSH HCK HPA HPU HDK
          go_wp2_with fail
          go_roundw
          case rel => exact ⟨k + 1, _, _, by omega, by rw [CrI.pass]; dsimp only; rw [HKK.out]; rfl, rfl, by rw [CrI.pass]; dsimp only; rw [HKK.out]; simp, by go_num, hide ⟨HP2.out, HBX.out⟩⟩
          case measure => simp [intOf]; omega
      · have HFN : Hid (folE .first l = 3) := hide ((HSH.out (by simp [shErr])).trans (by simp [shErr]))
        clear HSH HCK HPA HPU HDK
        go_wp2_with fail
        go_ret2
        exact ⟨by rw [HFN.out]; rfl, HBX.out⟩
    · obtain rfl : k = n := by omega
      have HEN : Hid (folE .first l = (if 0 < s.deep then 8 else 0) ∧ folS .first l = s.sf) := hide (te_end (p := pp) (by rw [hn.out]; exact hte))
      have HB := hide hbw
      obtain ⟨sd, sr, swt, ssf⟩ := s
      dsimp only at HEN
      clear hte hbw HR
      by_cases hd : 0 < sd
      · have HFN : Hid (folE .first l = 8) := hide (HEN.out.1.trans (if_pos hd))
        go_wp2_with fail
        go_ret2
        exact ⟨by rw [HFN.out]; rfl, HB.out⟩
      · have HFN : Hid (folE .first l = 0) := hide (HEN.out.1.trans (if_neg hd))
        go_wp2_with fail
        go_ret2
        exact ⟨by rw [HFN.out, HEN.out.2]; rfl, HB.out⟩
end Go.Proofs.YtaiigfcfmcicjaaGreatDoor

/- ClL -/
namespace Go.Proofs.YtaiigfcfmcicjaaGreatDoor
open Go.RowKit Go.Extern.Stop Go.Stop Go.Extern Go.Maps Go.WideMaps Go.Sort

theorem results_cell_tmp1 {fn : Func} {p u : Tmp} {ty : TypeId} (h : fn.results = #[.cell p ty, .tmp u]) (tmps : Array Value) (P : Program) (w : World) :
    (results fn tmps).run P w =
      ((asAddr (tmps.getD p undef)).run P w).andThen fun a w₁ => ((loadVar ty a).run P w₁).andThen fun v w₂ => .ok (.tuple #[v, tmps.getD u undef]) w₂ := by
  simp only [results, h]
  simp [Sem.run_bind, Result.andThen]
set_option maxRecDepth 20000 in
set_option maxHeartbeats 4000000 in
theorem clfault_any {ad : Option Addr} {cl : List (List OpI)} {cap : Nat} {w : World} (ho : opRowsAt ad cl w) :
    Calls Tryz.prog 12 #[.slice ad cl.length cap] w fun e w' => e = .returned (.tuple #[.agg #[.int .i64 (eachE cl).1, .int .i64 (eachE cl).2], .bool (decide ((eachE cl).1 = 0) && eachS cl)]) ∧ Below w.heap.size w w' := by
  have HO := hide ho
  obtain ⟨n, hn⟩ : ∃ n, Hid (cl.length = n) := ⟨_, hide rfl⟩
  have hba : Below w.heap.size w (w.alloc (.cells #[.int .i64 0, .int .i64 0] 31)) := (Below.refl _ _).alloc (Nat.le_refl _) _
  have HM := hide (many_any (cap := cap) (ho.below hba))
  have z0 : (w.alloc (.cells #[.int .i64 0, .int .i64 0] 31)).cell? ⟨w.heap.size, 0, none⟩ = some (.int .i64 0) := by simp
  have z1 : (w.alloc (.cells #[.int .i64 0, .int .i64 0] 31)).cell? ⟨w.heap.size, 1, none⟩ = some (.int .i64 0) := by simp
  have y0 : (w.alloc (.cells #[.int .i64 0, .int .i64 0] 31)).frozen? ⟨w.heap.size, 0, none⟩ = false := by simp
  have y1 : (w.alloc (.cells #[.int .i64 0, .int .i64 0] 31)).frozen? ⟨w.heap.size, 1, none⟩ = false := by simp
  generalize hw : w.alloc (.cells #[.int .i64 0, .int .i64 0] 31) = w1 at *
  have HBA := hide hba
  have HZL : Hid (w.heap.size < w1.heap.size) := hide (World.block_lt_of_cell? _ _ z0)
  rw [hn.out] at HM ⊢
  clear ho hba
  cases hfb : fitB cl
  · rw [hfb] at HM
    have HEE : Hid (eachE cl = (2, -1)) := hide (by unfold eachE; rw [hfb]; rfl)
    clear hfb
    go_enter Tryz.func12, Tryz.ntmps12
    go_wp2_with fail
    refine HM.out.mono ?_
    rintro e w2 ⟨rfl, e2⟩
    obtain rfl : w1 = w2 := e2.symm
    go_wp2_with fail
    refine (rbare_any _ _).mono ?_
    rintro e w2 ⟨rfl, hb3⟩
    clear hw
    have r0 := keep_cell hb3 z0
    have r1 := keep_cell hb3 z1
    have x0 : w2.frozen? ⟨w.heap.size, 0, none⟩ = false := by rw [hb3.frozen HZL.out]; exact y0
    have x1 : w2.frozen? ⟨w.heap.size, 1, none⟩ = false := by rw [hb3.frozen HZL.out]; exact y1
    have HB3 := hide (below_step HBA.out hb3)
    clear z0 z1 y0 y1 hb3
    go_wp2_with fail
    refine bodyPost_ret (v := .tuple #[.agg #[.int .i64 2, .int .i64 (-1)], .bool false]) (by rw [results_cell_tmp1 (show Tryz.f12.results = _ from rfl)]; go_simp) rfl ?_
    exact ⟨by rw [HEE.out]; rfl, (HB3.out.setCell (Nat.le_refl _) _).setCell (Nat.le_refl _) _⟩
  · rw [hfb] at HM
    have HEE : Hid (eachE cl = eachFrom cl 0) := hide (by unfold eachE; rw [hfb]; rfl)
    have HL := hide (fit_rows hfb)
    have hn6 : cl.length ≤ 6 := fit_len hfb
    rw [hn.out] at hn6
    have H0 : Hid (eachFrom cl 0 = eachFrom (cl.drop 0) 0 ∧ Below w1.heap.size w1 w1) := hide ⟨rfl, Below.refl _ _⟩
    clear hfb
    go_enter Tryz.func12, Tryz.ntmps12
    go_wp2_with fail
    refine HM.out.mono ?_
    rintro e w2 ⟨rfl, e2⟩
    obtain rfl : w1 = w2 := e2.symm
    clear hw HM
    go_wp2_with fail
    go_loopw [5, 6, 7, 8] (fun b i _ _ wr => ∃ k : Nat, k ≤ n ∧ b = .bool ((cl.take k).all fun L => folS .first L) ∧ i = .int .i64 k ∧ Hid (eachFrom cl 0 = eachFrom (cl.drop k) k ∧ Below w1.heap.size w1 wr)) (fun _ i _ _ _ => n - (intOf i).toNat)
    case atStart => exact ⟨0, Nat.zero_le _, rfl, rfl, H0⟩
    case round =>
      clear H0
      obtain ⟨k, hk, rfl, rfl, HR⟩ := hrel
      obtain ⟨hee, hbw⟩ := HR.out
      by_cases hlt : k < n
      · have ki : (k : Int) < n := by omega
        obtain ⟨L, hL⟩ : ∃ L, cl[k]? = some L := ⟨_, List.getElem?_eq_getElem (by rw [hn.out]; exact hlt)⟩
        have hdr : cl.drop k = L :: cl.drop (k + 1) := by
          have := List.drop_eq_getElem_cons (show k < cl.length by rw [hn.out]; exact hlt)
          rw [this]
          have h2 := List.getElem?_eq_getElem (show k < cl.length by rw [hn.out]; exact hlt)
          rw [hL] at h2
          rw [Option.some.inj h2]
        rw [hdr] at hee
        obtain ⟨b9, off, adl, capl, rfl, c0, hops⟩ := (HO.out.below (below_step HBA.out hbw)) k L hL
        have hl20 := HL.out L (List.mem_of_getElem? hL)
        have HF1 := hide (terror_any (cap := capl) hops (by omega))
        have HEE2 := hide hee
        have HBW := hide hbw
        have HSN := hide (all_snoc hL)
        clear hL hdr hee hbw hops hl20 HR
        generalize hLn : L.length = ln at *
        generalize (cl.take k).all (fun L => folS .first L) = bk at *
        go_wp2_with fail
        refine HF1.out.mono ?_
        rintro e w2 ⟨rfl, hb2⟩
        have HBW2 := hide (below_step HBW.out hb2)
        clear hb2 HBW
        by_cases hz : folE .first L = 0
        · rw [hz]
          have HEN : Hid (eachFrom cl 0 = eachFrom (cl.drop (k + 1)) (k + 1)) := hide (by
            rw [HEE2.out]
            show (if folE .first L ≠ 0 then _ else _) = _
            rw [if_neg (fun h => h hz)])
          rw [show (decide ((0 : Nat) = 0) && folS .first L) = folS .first L from rfl]
          rw [show ((0 : Nat) : Int) = 0 from rfl]
          generalize folS .first L = sL at *
          clear HF1 HEE2
          cases bk
          · go_wp2_with fail
            go_roundw
            case rel => exact ⟨k + 1, by omega, by rw [HSN.out]; rfl, by go_num, hide ⟨HEN.out, HBW2.out⟩⟩
            case measure => simp [intOf]; omega
          · go_wp2_with fail
            go_roundw
            case rel => exact ⟨k + 1, by omega, by rw [HSN.out]; rfl, by go_num, hide ⟨HEN.out, HBW2.out⟩⟩
            case measure => simp [intOf]; omega
        · have HEN : Hid (eachE cl = (folE .first L, (k : Int))) := hide (by
            rw [HEE.out, HEE2.out]
            show (if folE .first L ≠ 0 then _ else _) = _
            rw [if_pos hz])
          rw [decide_eq_false hz, Bool.false_and]
          obtain ⟨m, hm⟩ : ∃ m, folE .first L = m + 1 := ⟨folE .first L - 1, by omega⟩
          rw [hm] at HEN ⊢
          have mp : (0 : Int) < ((m + 1 : Nat) : Int) := by omega
          have hb3 := HBW2.out
          have r0 := keep_cell hb3 z0
          have r1 := keep_cell hb3 z1
          have x0 : w2.frozen? ⟨w.heap.size, 0, none⟩ = false := by rw [hb3.frozen HZL.out]; exact y0
          have x1 : w2.frozen? ⟨w.heap.size, 1, none⟩ = false := by rw [hb3.frozen HZL.out]; exact y1
          have HB3 := hide (below_step HBA.out hb3)
          clear z0 z1 y0 y1 hb3 HF1 HEE2 hz hm
          go_wp2_with fail
          refine bodyPost_ret (v := .tuple #[.agg #[.int .i64 ((m + 1 : Nat) : Int), .int .i64 k], .bool false]) (by rw [results_cell_tmp1 (show Tryz.f12.results = _ from rfl)]; go_simp) rfl ?_
          exact ⟨by rw [HEN.out]; rfl, (HB3.out.setCell (Nat.le_refl _) _).setCell (Nat.le_refl _) _⟩
      · obtain rfl : k = n := by omega
        have hdl : cl.drop k = [] := by rw [← hn.out, List.drop_length]
        rw [hdl] at hee
        have HEN : Hid (eachE cl = (0, -1)) := hide (by rw [HEE.out, hee]; rfl)
        have HSE : Hid ((cl.take k).all (fun L => folS .first L) = eachS cl) := hide (by rw [← hn.out, List.take_length]; rfl)
        have HBB := hide hbw
        generalize (cl.take k).all (fun L => folS .first L) = bk at *
        clear hee hbw HR hdl
        go_wp2_with fail
        refine (fine_any _).mono ?_
        rintro e w2 ⟨rfl, hb2⟩
        have hb3 := below_step HBB.out hb2
        have r0 := keep_cell hb3 z0
        have r1 := keep_cell hb3 z1
        have x0 : w2.frozen? ⟨w.heap.size, 0, none⟩ = false := by rw [hb3.frozen HZL.out]; exact y0
        have x1 : w2.frozen? ⟨w.heap.size, 1, none⟩ = false := by rw [hb3.frozen HZL.out]; exact y1
        have HB3 := hide (below_step HBA.out hb3)
        clear z0 z1 y0 y1 hb3 hb2
        go_wp2_with fail
        refine bodyPost_ret (v := .tuple #[.agg #[.int .i64 0, .int .i64 (-1)], .bool bk]) (by rw [results_cell_tmp1 (show Tryz.f12.results = _ from rfl)]; go_simp) rfl ?_
        exact ⟨by rw [HEN.out, HSE.out]; rfl, (HB3.out.setCell (Nat.le_refl _) _).setCell (Nat.le_refl _) _⟩
end Go.Proofs.YtaiigfcfmcicjaaGreatDoor

/- ClI -/
namespace Go.Proofs.YtaiigfcfmcicjaaGreatDoor
open Go.RowKit Go.Extern.Stop Go.Stop Go.Extern Go.Maps Go.WideMaps Go.Sort

theorem folE_le : ∀ (l : List OpI) (s : CrI), folE s l ≤ 8
  | [], s => by unfold folE; split <;> omega
  | x :: l, s => by
    unfold folE
    split
    · unfold shErr; split
      · split <;> omega
      · split <;> omega
    · split
      · unfold ckErr
        split
        · split <;> omega
        split
        · split <;> omega
        split
        · split <;> omega
        split
        · split <;> omega
        · omega
      · exact folE_le l (s.pass x)
theorem eachFrom_le : ∀ (cl : List (List OpI)) (t : Nat), (eachFrom cl t).1 ≤ 8
  | [], _ => Nat.zero_le _
  | L :: r, t => by
    unfold eachFrom
    split
    · exact folE_le L _
    · exact eachFrom_le r (t + 1)
theorem eachE_le (cl : List (List OpI)) : (eachE cl).1 ≤ 8 := by
  unfold eachE
  split
  · exact eachFrom_le _ _
  · show 2 ≤ 8
    decide
theorem faulted2_any (a : Nat → Addr) (f : Nat × Int) (v : Value) (B : Nat) (w : World) (hE : Env a w) (hf : f.1 ≤ 9) (h : errIs a f v w B) :
    Calls Tryz.prog 13 #[v, .agg #[.int .i64 f.1, .int .i64 f.2]] w fun e w' => e = .returned (.bool true) ∧ Below w.heap.size w w' := by
  obtain ⟨f1, f2⟩ := f
  dsimp only at *
  obtain ⟨W0, hW0⟩ : ∃ W0, W0 = w.alloc (.cells #[.int .i64 f1, .int .i64 f2] 31) := ⟨_, rfl⟩
  have B0 : Below w.heap.size w W0 := by rw [hW0]; exact (Below.refl _ _).alloc (Nat.le_refl _) _
  have q0 : W0.cell? ⟨w.heap.size, 0, none⟩ = some (.int .i64 f1) := by rw [hW0]; simp
  have q1 : W0.cell? ⟨w.heap.size, 1, none⟩ = some (.int .i64 f2) := by rw [hW0]; simp
  have E0 := hE.below B0.block
  have h := errIs_below h B0
  rcases h with ⟨h0, rfl⟩ | ⟨h0, h1, rfl⟩ | ⟨h0, j, N, h1, h2, rfl, h4, h5⟩
  · dsimp only at h0
    subst h0
    have HC := hide (code_nil W0)
    rw [show ((0 : Nat) : Int) = 0 from rfl] at hW0 q0 ⊢
    go_enter Tryz.func13, Tryz.ntmps13
    go_wp2_with fail
    rw [← hW0]
    refine HC.out.mono ?_
    rintro e w1 ⟨rfl, rfl⟩
    go_wp2_with fail
    refine bodyPost_ret (v := .bool true) (by simp only [results, Tryz.results13]; go_simp) rfl ⟨rfl, hW0 ▸ B0⟩
  · dsimp only at h0 h1
    subst h1
    obtain ⟨k, rfl⟩ : ∃ k, f1 = k + 1 := ⟨f1 - 1, by omega⟩
    have HC := hide (code_sent a k (by omega) W0 E0)
    have hk : ((k + 1 : Nat) : Int) = k + 1 := by omega
    rw [hk] at HC hW0 q0 ⊢
    rw [show xval a (k + 1) = errAt (a k) from rfl]
    go_enter Tryz.func13, Tryz.ntmps13
    go_wp2_with fail
    rw [← hW0]
    refine HC.out.mono ?_
    rintro e w1 ⟨rfl, hb1⟩
    have hk0 : ¬ ((k : Int) + 1 = 0) := by omega
    replace q0 := keep_cell hb1 q0
    replace q1 := keep_cell hb1 q1
    go_wp2_with fail
    refine bodyPost_ret (v := .bool true) (by simp only [results, Tryz.results13]; go_simp) rfl ⟨rfl, below_step B0 hb1⟩
  · dsimp only at h0 h1
    subst h1
    obtain ⟨k, rfl⟩ : ∃ k, f1 = k + 1 := ⟨f1 - 1, by omega⟩
    have HC := hide (code_fault a k (by omega) N 0 j W0 E0 h4 h5)
    have hk : ((k + 1 : Nat) : Int) = k + 1 := by omega
    rw [hk] at HC hW0 q0 ⊢
    go_enter Tryz.func13, Tryz.ntmps13
    go_wp2_with fail
    rw [← hW0]
    refine HC.out.mono ?_
    rintro e w1 ⟨rfl, hb1⟩
    have hk0 : ¬ ((k : Int) + 1 = 0) := by omega
    replace q0 := keep_cell hb1 q0
    replace q1 := keep_cell hb1 q1
    go_wp2_with fail
    refine bodyPost_ret (v := .bool true) (by simp only [results, Tryz.results13]; go_simp) rfl ⟨rfl, below_step B0 hb1⟩

def lngB (cl : List (List OpI)) : Bool := decide (10 < cl.length) || cl.any fun L => decide (30 < L.length) || L.any fun x => decide (100 < x.kind.size)
theorem lngB_hit {cl : List (List OpI)} {k : Nat} {L : List OpI} (h : cl[k]? = some L) (hL : 30 < L.length) : lngB cl = true := by
  unfold lngB
  rw [Bool.or_eq_true, List.any_eq_true]
  exact .inr ⟨L, List.mem_of_getElem? h, by rw [decide_eq_true hL]; rfl⟩
theorem lngB_hit2 {cl : List (List OpI)} {k j : Nat} {L : List OpI} {x : OpI} (h : cl[k]? = some L) (hx : L[j]? = some x) (hL : 100 < x.kind.size) : lngB cl = true := by
  unfold lngB
  rw [Bool.or_eq_true, List.any_eq_true]
  refine .inr ⟨L, List.mem_of_getElem? h, ?_⟩
  rw [Bool.or_eq_true, List.any_eq_true]
  exact .inr ⟨x, List.mem_of_getElem? hx, decide_eq_true hL⟩
def okTo (cl : List (List OpI)) (k : Nat) : Prop := ∀ (t : Nat) L, t < k → cl[t]? = some L → L.length ≤ 30 ∧ ∀ x ∈ L, x.kind.size ≤ 100
theorem lngB_none {cl : List (List OpI)} (h0 : cl.length ≤ 10) (h : okTo cl cl.length) : lngB cl = false := by
  unfold lngB
  rw [decide_eq_false (by omega), Bool.false_or, List.any_eq_false]
  intro L hL
  obtain ⟨t, ht, rfl⟩ := List.getElem_of_mem hL
  obtain ⟨h1, h2⟩ := h t _ ht (List.getElem?_eq_getElem ht)
  rw [decide_eq_false (by omega), Bool.false_or]
  intro hh
  rw [List.any_eq_true] at hh
  obtain ⟨x, hx, hd⟩ := hh
  have := of_decide_eq_true hd
  have := h2 x hx
  omega
theorem lngB_what {cl : List (List OpI)} (h : lngB cl = false) : cl.length ≤ 10 ∧ ∀ L ∈ cl, L.length ≤ 30 := by
  unfold lngB at h
  rw [Bool.or_eq_false_iff] at h
  refine ⟨by have := of_decide_eq_false h.1; omega, fun L hL => ?_⟩
  have h2 := List.any_eq_false.1 h.2 L hL
  by_cases h3 : 30 < L.length
  · exact absurd (by rw [decide_eq_true h3]; rfl) h2
  · omega
set_option maxRecDepth 20000 in
set_option maxHeartbeats 2000000 in
theorem long_any {ad : Option Addr} {cl : List (List OpI)} {cap : Nat} {w : World} (h : opRowsAt ad cl w) :
    Calls Tryz.prog 9 #[.slice ad cl.length cap] w fun e w' => e = .returned (.bool (lngB cl)) ∧ w' = w := by
  by_cases h10 : 10 < cl.length
  · have hf : lngB cl = true := by unfold lngB; rw [decide_eq_true h10]; rfl
    rw [hf]
    have i1 : 10 < (cl.length : Int) := by omega
    generalize cl.length = n at *
    clear h
    go_enter Tryz.func9, Tryz.ntmps9
    go_wp2_with fail
    go_ret
    exact ⟨rfl, rfl⟩
  · have i1 : ¬ 10 < (cl.length : Int) := by omega
    have HH := hide h
    have HZ := hide (lngB_none (cl := cl) (by omega))
    obtain ⟨n, hn⟩ : ∃ n, Hid (cl.length = n) := ⟨_, hide rfl⟩
    rw [hn.out] at i1 HZ ⊢
    clear h h10
    go_enter Tryz.func9, Tryz.ntmps9
    go_wp2_with fail
    go_loopw [3, 4] (fun i _ wr => ∃ j : Nat, j ≤ n ∧ i = .int .i64 j ∧ Hid (okTo cl j) ∧ w = wr) (fun i _ _ => n - (intOf i).toNat)
    case atStart => exact ⟨0, Nat.zero_le _, rfl, hide (fun t L ht => absurd ht (Nat.not_lt_zero _)), (by first | rfl | trivial)⟩
    case round =>
      obtain ⟨j, hj, rfl, HA, rfl⟩ := hrel
      by_cases hlt : j < n
      · have ji : (j : Int) < n := by omega
        obtain ⟨L, hL⟩ : ∃ L, cl[j]? = some L := ⟨_, List.getElem?_eq_getElem (by rw [hn.out]; exact hlt)⟩
        have HL := hide hL
        obtain ⟨b, off, adl, capl, rfl, c0, ho⟩ := HH.out j L hL
        have HO := hide ho
        obtain ⟨ln, hln⟩ : ∃ ln, Hid (L.length = ln) := ⟨_, hide rfl⟩
        rw [hln.out] at c0
        clear hL ho
        by_cases he : 30 < ln
        · have HA2 : Hid (lngB cl = true) := hide (lngB_hit HL.out (by rw [hln.out]; exact he))
          have hi : 30 < (ln : Int) := by omega
          clear HA he
          go_wp2_with fail
          go_ret
          exact ⟨by rw [HA2.out]; rfl, rfl⟩
        · have hi : ¬ 30 < (ln : Int) := by omega
          go_wp2_with fail
          go_loopw [4] (fun i wr => ∃ k : Nat, k ≤ ln ∧ i = .int .i64 k ∧ Hid (∀ (t : Nat) x, t < k → L[t]? = some x → x.kind.size ≤ 100) ∧ w = wr) (fun i _ => ln - (intOf i).toNat)
          case atStart => exact ⟨0, Nat.zero_le _, rfl, hide (fun t x ht => absurd ht (Nat.not_lt_zero _)), (by first | rfl | trivial)⟩
          case round =>
            obtain ⟨k, hk, rfl, HB, rfl⟩ := hrel
            by_cases hkl : k < ln
            · have kj : (k : Int) < ln := by omega
              obtain ⟨x, hx⟩ : ∃ x, L[k]? = some x := ⟨_, List.getElem?_eq_getElem (by rw [hln.out]; exact hkl)⟩
              have HX := hide hx
              obtain ⟨b2, off2, rfl, d0, -⟩ := HO.out k x hx
              obtain ⟨xk, xn⟩ := x
              dsimp only at d0
              clear hx
              by_cases hs : 100 < xk.size
              · have HA2 : Hid (lngB cl = true) := hide (lngB_hit2 HL.out HX.out hs)
                have si : 100 < (xk.size : Int) := by omega
                go_wp2_with fail
                go_ret
                exact ⟨by rw [HA2.out]; rfl, rfl⟩
              · have si : ¬ 100 < (xk.size : Int) := by omega
                have HB2 : Hid (∀ (t : Nat) x, t < k + 1 → L[t]? = some x → x.kind.size ≤ 100) := hide (fun t x ht hx => by
                  by_cases e : t = k
                  · subst e
                    rw [HX.out] at hx
                    cases hx
                    show xk.size ≤ 100
                    omega
                  · exact HB.out t x (by omega) hx)
                clear HB
                go_wp2_with fail
                go_roundw
                case rel => exact ⟨k + 1, by omega, by go_num, HB2, (by first | rfl | trivial)⟩
                case measure => simp [intOf]; omega
            · obtain rfl : k = ln := by omega
              have HA2 : Hid (okTo cl (j + 1)) := hide (fun t L' ht hL' => by
                by_cases e : t = j
                · subst e
                  rw [HL.out] at hL'
                  cases hL'
                  refine ⟨by rw [hln.out]; omega, fun x hx => ?_⟩
                  obtain ⟨u, hu, rfl⟩ := List.getElem_of_mem hx
                  exact HB.out u _ (by rw [← hln.out]; exact hu) (List.getElem?_eq_getElem hu)
                · exact HA.out t L' (by omega) hL')
              clear HB HA
              go_wp2_with fail
              go_roundw
              case rel => exact ⟨j + 1, by omega, by go_num, HA2, (by first | rfl | trivial)⟩
              case measure => simp [intOf]; omega
      · obtain rfl : j = n := by omega
        have HF := hide (HZ.out HA.out)
        go_wp2_with fail
        go_ret
        exact ⟨by rw [HF.out]; rfl, rfl⟩
end Go.Proofs.YtaiigfcfmcicjaaGreatDoor
