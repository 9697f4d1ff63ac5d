/- Package code's labels: a map by a contract. -/
import Derived.Test.YtcajklfngeafdaaDoorProgC
import Derived.Test.YtcajklfngeafdaaDoorPureF
import Derived.Test.YtcajklfngeafdaaDoorCodeI
import Derived.Maps.Own
import Derived.Maps.OwnOps
import Derived.Maps.OwnSet
import Derived.StringKeys
namespace Go.Proofs.YtcajklfngeafdaaDoor
open Go.RowKit Go.Extern.Stop Go.Stop Go.Extern Go.Maps Go.WideMaps

theorem mapLaw : Keyed Tryd.prog 9 := string_keyed Tryd.underlying9
theorem mapZero (w : World) : (zeroValue 3).run Tryd.prog w = .ok (.int .i64 0) w := by kernel_rfl

/-- 'v, ok := set[s]', as an equation. -/
theorem look_eq {w : World} {b n : Nat} {D : DataW Unit} (h : w.ownsMap Tryd.prog 9 (plainElem Tryd.prog 3) b n D) (s : ByteArray) (hs : s.size ≤ maxLen) :
    ∃ c, (Instr.lookup 62 (.map (some b)) (.string s) true).run Tryd.prog w = .ok (.tuple #[.int .i64 c, .bool (Maps.has D (.string (bl s)))]) w ∧ D.atKey (.string (bl s)) (.lit (.int .i64 0)) = .lit (.int .i64 c) := by
  obtain ⟨v, ps, hrun, hv⟩ := h.look_ok (t := 62) mapLaw Tryd.underlying62 (mapZero w) (plainElem_int Tryd.underlying3 (by decide)) (keyOf_string_mk Tryd.underlying9 hs)
  obtain ⟨c, rfl, hc, _⟩ := plainElem_int_inv Tryd.underlying3 hv
  exact ⟨c, hrun, congrArg Prod.fst hc⟩
/-- 'set[s] = i', as an equation. -/
theorem store_eq {w : World} {b n : Nat} {D : DataW Unit} (h : w.ownsMap Tryd.prog 9 (plainElem Tryd.prog 3) b n D) (hn : n < maxLen) (s : ByteArray) (hs : s.size ≤ maxLen) (i : Int) (hi : (Lit.int .i64 i).wf = true) :
    ∃ w', (Instr.mapUpdate 62 (.map (some b)) (.string s) (.int .i64 i)).run Tryd.prog w = .ok () w' ∧ w'.ownsMap Tryd.prog 9 (plainElem Tryd.prog 3) b (n + 1) (D.put (.string (bl s)) (.lit (.int .i64 i))) ∧ w.grownBy w' (some b) :=
  h.update (t := 62) mapLaw Tryd.underlying62 hn (keyOf_string_mk Tryd.underlying9 hs) (plainElem_int Tryd.underlying3 hi)

set_option maxRecDepth 20000 in
set_option maxHeartbeats 1000000 in
theorem labels_any (ad : Option Addr) (cap : Nat) (l : List Ins) (w : World) (hlen : l.length ≤ 1000000) (hto : ∀ (i : Nat) x, l[i]? = some x → x.to.size ≤ maxLen) (hl : insAt ad l w) :
    Calls Tryd.prog 23 #[.slice ad l.length cap] w fun e w' => e = .returned (.map (some w.heap.size)) ∧ w'.ownsMap Tryd.prog 9 (plainElem Tryd.prog 3) w.heap.size l.length (setD l l.length) ∧ Below w.heap.size w w' := by
  have HL := hide hl
  have HT := hide hto
  clear hl hto
  have hmm := @run_makeMap Tryd.prog
  go_enter Tryd.func23, Tryd.ntmps23
  go_wp2_with fail
  go_loopw [4, 5, 6, 7, 11] (fun _ _ _ _ i wr => ∃ j : Nat, j ≤ l.length ∧ i = .int .i64 j ∧ wr.ownsMap Tryd.prog 9 (plainElem Tryd.prog 3) w.heap.size j (setD l j) ∧ Below w.heap.size w wr) (fun _ _ _ _ i _ => l.length - (intOf i).toNat)
  case atStart => exact ⟨0, Nat.zero_le _, rfl, World.ownsMap_made _ _ _ _, (Below.refl _ _).alloc (Nat.le_refl _) _⟩
  case round =>
    obtain ⟨j, hj, rfl, hown, hB⟩ := hrel
    by_cases hlt : j < l.length
    · obtain ⟨x, hx⟩ : ∃ x, l[j]? = some x := ⟨_, List.getElem?_eq_getElem hlt⟩
      obtain ⟨b, off, rfl, a0, a1, a2, a3, a4⟩ := insAt_below HL.out hB j x hx
      have hts := HT.out j x hx
      have HS := hide (setD_succ hx)
      have ji : (j : Int) < l.length := by omega
      clear hx
      obtain ⟨c, hlook, -⟩ := look_eq (hown.alloc (.cells #[.string x.op, .int .i64 x.a, .int .i64 x.b, .int .i64 x.c, .string x.to] 32)) x.to hts
      cases hh : Maps.has (setD l j) (.string (bl x.to))
      · rw [hh] at hlook
        cases k1 : (x.op.toList == [108, 97, 98, 101, 108])
        · have HS' : Hid (setD l (j + 1) = setD l j) := by
            show _ = _
            rw [HS.out, k1, hh]; rfl
          clear HS hh
          go_wp2_with fail
          go_roundw
          case rel => exact ⟨j + 1, by omega, by go_num, by rw [HS'.out]; exact (hown.alloc _).mono (by omega), hB.alloc hB.size _⟩
          case measure => simp [intOf]; omega
        · have HS' : Hid (setD l (j + 1) = (setD l j).put (.string (bl x.to)) (.lit (.int .i64 j))) := by
            show _ = _
            rw [HS.out, k1, hh]; rfl
          obtain ⟨w1, hst, hown1, hgrow1⟩ := store_eq (hown.alloc (.cells #[.string x.op, .int .i64 x.a, .int .i64 x.b, .int .i64 x.c, .string x.to] 32)) (by unfold maxLen; omega) x.to hts j (WalkArith.wf_i64 (by omega))
          have B1 := (hB.alloc hB.size (.cells #[.string x.op, .int .i64 x.a, .int .i64 x.b, .int .i64 x.c, .string x.to] 32)).grown hgrow1 (Nat.le_trans hB.size (by simp)) (fun k hk => by cases hk; exact Nat.le_refl _)
          clear HS hh hown hgrow1
          go_wp2_with fail
          go_roundw
          case rel => exact ⟨j + 1, by omega, by go_num, by rw [HS'.out]; exact hown1, B1⟩
          case measure => simp [intOf]; omega
      · have HS' : Hid (setD l (j + 1) = setD l j) := by
          show _ = _
          rw [HS.out, hh]; simp
        rw [hh] at hlook
        clear HS hh
        cases k1 : (x.op.toList == [108, 97, 98, 101, 108])
        all_goals
          go_wp2_with fail
          go_roundw
          case rel => exact ⟨j + 1, by omega, by go_num, by rw [HS'.out]; exact (hown.alloc _).mono (by omega), hB.alloc hB.size _⟩
          case measure => simp [intOf]; omega
    · obtain rfl : j = l.length := by omega
      go_wp2_with fail
      go_ret
      exact ⟨rfl, hown, hB⟩
end Go.Proofs.YtcajklfngeafdaaDoor
