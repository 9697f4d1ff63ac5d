/- strings.Lines by contracts: the iterator's state lies in a box. -/
import Derived.Test.YtcajklfngeafdaaDoorProgJ
import Derived.Test.YtcajklfngeafdaaDoorRangeBox
import Derived.RangeFuncBound
import Derived.RangeFuncLeaves
import Derived.Shelf.Abstract
import Derived.Shelf.RegionOpen
import Derived.OwnWalkIn
import Derived.TacticsInMore
import Derived.LoopNIn
import Derived.LoopIn
namespace Go.Proofs.YtcajklfngeafdaaDoor
open Go.RowKit Go.Extern.Stop Go.Stop Go.Extern Go.Maps Go.WideMaps Go.Shelf
attribute [local go_sem] Oper.semAt_some

theorem lines_any (s : ByteArray) (w : World) :
    Calls Tryd.prog 7 #[.string s] w fun e w' => e = .returned (.func (.func 15) #[] #[.pointer (some ⟨w.heap.size, 0, none⟩)]) ∧ w' = w.alloc (.cells #[.string s] 9) := by
  go_enter Tryd.func7, Tryd.ntmps7
  go_wp2_with fail
  go_ret
  exact ⟨rfl, rfl⟩

/-- A text's lines, with their ends, as strings.Lines hands them over. -/
def linesB : Nat → ByteArray → List ByteArray
  | 0, _ => []
  | n + 1, s => if s.size = 0 then [] else if Lib.indexByte (bl s) 10 = -1 then [s] else s.extract 0 ((Lib.indexByte (bl s) 10).toNat + 1) :: linesB n (s.extract ((Lib.indexByte (bl s) 10).toNat + 1) s.size)

theorem linesB_empty : ∀ n, linesB n ⟨#[]⟩ = []
  | 0 => rfl
  | n + 1 => by rw [linesB, if_pos (show (⟨#[]⟩ : ByteArray).size = 0 from rfl)]

/-- What is left in the box. -/
def boxLen (bx : Nat) (w : World) : Nat := match w.cell? ⟨bx, 0, none⟩ with
  | some (.string c) => c.size
  | _ => 0
theorem boxLen_eq {bx : Nat} {w : World} {c : ByteArray} (h : w.cell? ⟨bx, 0, none⟩ = some (.string c)) : boxLen bx w = c.size := by unfold boxLen; rw [h]
theorem box_cell {w : World} {bx : Nat} {v : Value} {t : TypeId} (h : w.heap[bx]? = some (.cells #[v] t (0, 0))) : w.cell? ⟨bx, 0, none⟩ = some v := by simp [World.cell?, h]
theorem box_frozen {w : World} {bx : Nat} {v : Value} {t : TypeId} (h : w.heap[bx]? = some (.cells #[v] t (0, 0))) : w.frozen? ⟨bx, 0, none⟩ = false := by simp [World.frozen?, h]
theorem box_set {w : World} {bx : Nat} {v u : Value} {t : TypeId} (h : w.heap[bx]? = some (.cells #[v] t (0, 0))) : (w.setCell ⟨bx, 0, none⟩ u).heap[bx]? = some (.cells #[u] t (0, 0)) := by
  have hl := (Array.getElem?_eq_some_iff.1 h).1
  have h2 := (Array.getElem?_eq_some_iff.1 h).2
  simp [World.setCell, Array.getElem?_modify, h]
theorem box_grown (w : World) (bx : Nat) (u : Value) : w.grownBy (w.setCell ⟨bx, 0, none⟩ u) (some bx) :=
  ⟨rfl, rfl, rfl, by simp [World.setCell], fun k _ hk => Below.heap_setCell _ _ _ _ (fun e => hk (by rw [e]))⟩

set_option maxRecDepth 100000 in
set_option maxHeartbeats 2000000 in
theorem lines_seq (n : Nat) (hn : 1 ≤ n) (s : ByteArray) (hs : s.size ≤ 1000000) (bx B : Nat) :
    SeqBox n Tryd.prog 15 #[.pointer (some ⟨bx, 0, none⟩)] (fun x : ByteArray => #[Value.string x]) (linesB s.size s) bx (.cells #[.string s] 9 (0, 0)) B := by
  intro l J Jx W hBW hbox hJ hY h0
  refine callsIn_of_wp Tryd.func15 rfl trivial ?_ rfl
  simp only [Tryd.ntmps15, List.size_toArray, List.length_cons, List.length_nil, Nat.reduceAdd, Nat.reduceSub, Array.replicate_succ, Array.replicate_zero, List.push_toArray, List.append_toArray, List.nil_append, List.cons_append]
  gi_wp2
  gi_loopw [3, 4] (fun _ _ wr => ∃ (pre : List ByteArray) (cur : ByteArray) (k : Nat), linesB s.size s = pre ++ linesB k cur ∧ cur.size ≤ k ∧ cur.size ≤ 1000000 ∧ wr.heap[bx]? = some (.cells #[.string cur] 9 (0, 0)) ∧ J pre wr ∧ B ≤ wr.heap.size)
    (fun _ _ wr => boxLen bx wr)
  case atStart => exact ⟨[], s, s.size, rfl, Nat.le_refl _, hs, hbox, h0, hBW⟩
  case round =>
    obtain ⟨pre, cur, k, hx, hk, hc6, hb, hj, hBr⟩ := hrel
    have hcell := box_cell hb
    have hfz := box_frozen hb
    by_cases hz : cur.size = 0
    · have hi0 : ¬ 0 < (cur.size : Int) := by omega
      have hx' : Hid (linesB s.size s = pre) := by
        show _ = _
        rw [hx]
        cases k <;> simp [linesB, hz]
      clear hY hJ hx
      gi_wp2
      go_end0
      exact ⟨⟨_, rfl⟩, .inl (by rw [hx'.out]; exact hj)⟩
    · obtain ⟨m, rfl⟩ : ∃ m, k = m + 1 := ⟨k - 1, by omega⟩
      have hi0 : 0 < (cur.size : Int) := by omega
      have HI : Hid (∀ w', Calls Tryd.prog 16 #[.string cur, .int .u8 10] w' fun e w'' => e = .returned (.int .i64 (Lib.indexByte (bl cur) 10)) ∧ w'' = w') := fun w' => Tryd.strings_IndexByte cur 10 w'
      have hge := Lib.indexByte_ge (bl cur) 10
      by_cases hm : Lib.indexByte (bl cur) 10 = -1
      · have hl : linesB (m + 1) cur = [cur] := by rw [linesB, if_neg hz, if_pos hm]
        rw [hl] at hx
        rw [hm] at HI
        obtain ⟨W1, hW1⟩ : ∃ W1, W1 = wr.setCell ⟨bx, 0, none⟩ (.string ⟨#[]⟩) := ⟨_, rfl⟩
        have hg : wr.grownBy W1 (some bx) := by rw [hW1]; exact box_grown _ _ _
        have hK : KeepsOthers wr W1 := by rw [hW1]; exact KeepsOthers.setCell _ _ _
        have hb1 : W1.heap[bx]? = some (.cells #[.string ⟨#[]⟩] 9 (0, 0)) := by rw [hW1]; exact box_set hb
        have hB1 := Nat.le_trans hBr hg.size
        obtain ⟨fn, tmps, assign, body, hy, hR⟩ := hY pre cur W1 (hJ _ _ _ hj hg hK) hB1 ⟨[], by rw [hx]; simp⟩
        have hx' : Hid (linesB s.size s = (pre ++ [cur]) ++ linesB m ⟨#[]⟩) := by
          show _ = _
          rw [hx, linesB_empty, List.append_nil]
        have hRR := hide hR
        clear hY hJ hx hg hK hl hR hge hm hb
        subst hW1
        gi_wp2_with (refine ⟨trivial, ?_⟩; gi_at_call 16; refine (callsIn_wide.2 (HI.out _)).mono ?_; rintro e w2 ⟨rfl, rfl⟩)
        refine hRR.out.mono ?_
        rintro e W3 (⟨rfl, hJ3, hb3, hs3⟩ | ⟨rfl, hJx3⟩)
        · have hb4 := hb3.trans hb1
          have hB4 := Nat.le_trans hB1 hs3
          clear hRR hy hb3 hb1 hs3 hB1
          gi_wp2
          go_roundw
          case rel => exact ⟨pre ++ [cur], ⟨#[]⟩, m, hx'.out, Nat.zero_le _, by decide, hb4, hJ3, hB4⟩
          case measure => rw [boxLen_eq (box_cell hb4), boxLen_eq hcell]; show 0 < _; omega
        · gi_wp2
          refine bodyPost_ret (results_none rfl _ _ _) rfl ?_
          exact ⟨⟨_, rfl⟩, .inr ⟨_, hJx3⟩⟩
      · obtain ⟨i, hi⟩ : ∃ i : Nat, Lib.indexByte (bl cur) 10 = i := ⟨(Lib.indexByte (bl cur) 10).toNat, by omega⟩
        have hlt : i < cur.size := by rw [size_bl]; exact (List.getElem?_eq_some_iff.1 (Lib.indexByte_some hi).1).1
        have hl : linesB (m + 1) cur = cur.extract 0 (i + 1) :: linesB m (cur.extract (i + 1) cur.size) := by
          rw [linesB, if_neg hz, if_neg hm, hi]
          rfl
        rw [hl] at hx
        rw [hi] at HI
        have hii : (0 : Int) ≤ i := by omega
        gi_wp2_with (refine ⟨trivial, ?_⟩; gi_at_call 16; refine (callsIn_wide.2 (HI.out _)).mono ?_; rintro e w2 ⟨rfl, rfl⟩)
        gi_region
        have hg := box_grown w2 bx (.string (cur.extract (i + 1) cur.size))
        have hb1 : (w2.setCell ⟨bx, 0, none⟩ (.string (cur.extract (i + 1) cur.size))).drew.heap[bx]? = some (.cells #[.string (cur.extract (i + 1) cur.size)] 9 (0, 0)) := box_set hb
        have hB1 : B ≤ (w2.setCell ⟨bx, 0, none⟩ (.string (cur.extract (i + 1) cur.size))).drew.heap.size := Nat.le_trans hBr hg.size
        obtain ⟨fn, tmps, assign, body, hy, hR⟩ := hY pre (cur.extract 0 (i + 1)) (w2.setCell ⟨bx, 0, none⟩ (.string (cur.extract (i + 1) cur.size))).drew
          (hJ _ _ _ hj ⟨hg.os, hg.tape, hg.output, hg.size, hg.block⟩ ((KeepsOthers.setCell _ _ _).trans (KeepsOthers.drew _))) hB1 ⟨linesB m (cur.extract (i + 1) cur.size), by rw [hx]; simp⟩
        have hx' : Hid (linesB s.size s = (pre ++ [cur.extract 0 (i + 1)]) ++ linesB m (cur.extract (i + 1) cur.size)) := by
          show _ = _
          rw [hx]; simp
        have hrs : (cur.extract (i + 1) cur.size).size = cur.size - (i + 1) := by rw [ByteArray.size_extract]; omega
        have hRR := hide hR
        clear hY hJ hx hg hl hR hge hm hb hi HI hj
        gi_wp2
        refine hRR.out.mono ?_
        rintro e W3 (⟨rfl, hJ3, hb3, hs3⟩ | ⟨rfl, hJx3⟩)
        · have hb4 := hb3.trans hb1
          have hB4 := Nat.le_trans hB1 hs3
          clear hRR hy hb3 hb1 hs3 hB1
          gi_wp2
          go_roundw
          case rel => exact ⟨pre ++ [cur.extract 0 (i + 1)], cur.extract (i + 1) cur.size, m, hx'.out, by omega, by omega, hb4, hJ3, hB4⟩
          case measure => rw [boxLen_eq (box_cell hb4), boxLen_eq hcell, hrs]; omega
        · gi_wp2
          refine bodyPost_ret (results_none rfl _ _ _) rfl ?_
          exact ⟨⟨_, rfl⟩, .inr ⟨_, hJx3⟩⟩
end Go.Proofs.YtcajklfngeafdaaDoor
