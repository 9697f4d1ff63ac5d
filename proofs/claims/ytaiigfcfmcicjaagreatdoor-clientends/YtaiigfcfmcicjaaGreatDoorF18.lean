import Derived.Test.YtaiigfcfmcicjaaGreatDoorF17
import Derived.Test.YtaiigfcfmcicjaaGreatDoorF15
import Derived.Test.YtaiigfcfmcicjaaGreatDoorF08
import Derived.Test.YtaiigfcfmcicjaaGreatDoorF16
import Derived.Laws.IdiomStrings
import Derived.Laws.AppendOwnNone
import Derived.Lib.AppendZerosOnto
namespace Go.Proofs.YtaiigfcfmcicjaaGreatDoor
set_option maxRecDepth 100000
set_option maxHeartbeats 8000000
section
open Go.RowKit Go.Extern.Stop Go.Stop Go.Extern
theorem rbare_any (k : Int) (w : World) : Calls Tryz.prog 17 #[.int .i64 k] w fun e w' => e = .returned (.agg #[.int .i64 k, .int .i64 (-1)]) /\ Below w.heap.size w w' := by
 go_enter Tryz.func17, Tryz.ntmps17
 go_wp2
 refine bodyPost_ret (v := .agg #[.int .i64 k, .int .i64 (-1)]) (by simp only [results, Tryz.results17]; go_simp) rfl ⟨rfl, ?_⟩
 exact bRf.alloc nL _
theorem fine_any (w : World) : Calls Tryz.prog 35 #[] w fun e w' => e = .returned (.agg #[.int .i64 0, .int .i64 (-1)]) /\ Below w.heap.size w w' := by
 go_enter Tryz.func35, Tryz.ntmps35
 go_wp2
 refine bodyPost_ret (v := .agg #[.int .i64 0, .int .i64 (-1)]) (by simp only [results, Tryz.results35]; go_simp) rfl ⟨rfl, ?_⟩
 exact bRf.alloc nL _
theorem codeFault_any (ad : Option Addr) (cap : Nat) (l : List Ins) (w : World) (hl : insAt ad l w) :
  Calls Tryz.prog 42 #[.slice ad l.length cap] w fun e w' => e = .returned (.agg #[.int .i64 (codeFault l).1, .int .i64 (codeFault l).2]) /\ Below w.heap.size w w' := by
 have HL := hide hl
 clear hl
 have hba : Below w.heap.size w (w.alloc (.cells #[.int .i64 0, .int .i64 0] 31)) := bRf.alloc nL _
 obtain ⟨z0, z1⟩ := box2c w 31 (.int .i64 0) (.int .i64 0)
 have y0 : (w.alloc (.cells #[.int .i64 0, .int .i64 0] 31)).frozen? ⟨w.heap.size, 0, none⟩ = false := by simp
 have y1 : (w.alloc (.cells #[.int .i64 0, .int .i64 0] 31)).frozen? ⟨w.heap.size, 1, none⟩ = false := by simp
 generalize hw : w.alloc (.cells #[.int .i64 0, .int .i64 0] 31) = w1 at *
 by_cases hlen : 2000 < l.length
 ·have hc : codeFault l = (2, -1) := if_pos hlen
  have hi : 2000 < (l.length : Int) := by omega
  rw [hc]
  clear hc
  go_enter Tryz.func42, Tryz.ntmps42
  go_wp2_with fail
  refine (rbare_any _ _).mono ?_
  rintro e w2 ⟨rfl, hb3⟩
  clear hw
  have r0 := keep_cell hb3 z0
  have r1 := keep_cell hb3 z1
  have hzl : w.heap.size < w1.heap.size := bLt z0
  have x0 : w2.frozen? ⟨w.heap.size, 0, none⟩ = false := by rw [hb3.frozen hzl]; exact y0
  have x1 : w2.frozen? ⟨w.heap.size, 1, none⟩ = false := by rw [hb3.frozen hzl]; exact y1
  have B3 := below_step hba hb3
  clear z0 z1 y0 y1 hb3
  go_wp2_with fail
  refine bodyPost_ret (v := .agg #[.int .i64 2, .int .i64 (-1)]) (by simp only [results, Tryz.results42]; go_simp) rfl ⟨rfl, ?_⟩
  exact (B3.setCell nL _).setCell nL _
 ·have hc : codeFault l = faultFrom l 0 l := if_neg hlen
  have hi : ¬ 2000 < (l.length : Int) := by omega
  rw [hc]
  clear hc
  go_enter Tryz.func42, Tryz.ntmps42
  go_wp2_with fail
  clear hw
  go_loopw [3] (fun i wr => Hid (Below w1.heap.size w1 wr) /\ ∃ j : Nat, j <= l.length /\ i = .int .i64 j /\ Hid (∀ k y, k < j -> l[k]? = some y -> insFault l k y = 0)) (fun i _ => l.length - (intOf i).toNat)
  case atStart => exact ⟨Below.refl _ _, 0, Nat.zero_le _, rfl, fun k y h => absurd h (Nat.not_lt_zero _)⟩
  case round =>
   obtain ⟨HB, j, hj, rfl, HJ⟩ := hrel
   by_cases hlt : j < l.length
   ·obtain ⟨x, hx⟩ : ∃ x, l[j]? = some x := ⟨_, List.getElem?_eq_getElem hlt⟩
    have HR := hide (insAt_below (insAt_below HL.out hba) HB.out)
    obtain ⟨b, off, rfl, a0, a1, a2, a3, a4⟩ := HR.out j x hx
    have ji : (j : Int) < l.length := by omega
    have HY : Hid (insFault l j x = 0 -> ∀ k y, k < j + 1 -> l[k]? = some y -> insFault l k y = 0) := fun h k y hk hy => by
     by_cases e : k = j
     ·subst e; rw [hx] at hy; cases hy; exact h
     ·exact HJ.out k y (by omega) hy
    have HX : Hid (insFault l j x ≠ 0 -> faultFrom l 0 l = (insFault l j x, (j : Int))) := fun h => by
     have := faultFrom_hit l l 0 j x hx (by simpa using h) (fun k y hk hy => by simpa using HJ.out k y hk hy)
     simpa using this
    clear HJ hx
    go_wp2_with fail
    refine (instr_any x _).mono ?_
    rintro e2 w2 ⟨rfl, hb2⟩
    have HB2 : Hid (Below w1.heap.size w1 w2) := below_step HB.out hb2
    have HR2 := hide (insAt_below HR.out hb2)
    replace a0 := keep_cell hb2 a0
    replace a4 := keep_cell hb2 a4
    clear HB HR hb2 a1 a2 a3
    by_cases he : insErr x = 0
    ·rw [he]
     rw [show ((0 : Nat) : Int) = 0 from rfl]
     have hlen6 : l.length <= 1000000 := by omega
     cases k1 : (x.op.toList == [108, 97, 98, 101, 108])
     ·cases k2 : (x.to.toList == [])
      ·go_wp2_with fail
       refine (labelAt_any _ _ _ _ _ hlen6 HR2.out).mono ?_
       rintro e3 w3 ⟨rfl, rfl⟩
       by_cases hn : labelAt l x.to < 0
       ·have HZ : Hid (faultFrom l 0 l = (5, (j : Int))) := by
         have hv : insFault l j x = 5 := by unfold insFault; rw [if_neg (fun h => h he)]; rw [if_neg (by simp [k1]), if_pos ⟨k2, hn⟩]
         have := HX.out (by rw [hv]; decide)
         rwa [hv] at this
        clear HX HY
        have hb3 := HB2.out
        have r0 := keep_cell hb3 z0
        have r1 := keep_cell hb3 z1
        have hzl : w.heap.size < w1.heap.size := bLt z0
        have x0 : w3.frozen? ⟨w.heap.size, 0, none⟩ = false := by rw [hb3.frozen hzl]; exact y0
        have x1 : w3.frozen? ⟨w.heap.size, 1, none⟩ = false := by rw [hb3.frozen hzl]; exact y1
        have B3 := below_step hba hb3
        clear z0 z1 y0 y1 hb3
        go_wp2_with fail
        refine bodyPost_ret (v := .agg #[.int .i64 5, .int .i64 j]) (by simp only [results, Tryz.results42]; go_simp) rfl ⟨by rw [HZ.out]; rfl, ?_⟩
        exact (B3.setCell nL _).setCell nL _
       ·have HZ := hide (HY.out (by unfold insFault; rw [if_neg (fun h => h he)]; rw [if_neg (by simp [k1]), if_neg (fun h => hn h.2)]))
        clear HX HY
        go_wp2_with fail
        go_roundw
        case rel => exact ⟨HB2, j + 1, by omega, by go_num, HZ⟩
        case measure => simp [intOf]; omega
      ·have HZ := hide (HY.out (by unfold insFault; rw [if_neg (fun h => h he)]; rw [if_neg (by simp [k1]), if_neg (by simp [k2])]))
       clear HX HY
       go_wp2_with fail
       go_roundw
       case rel => exact ⟨HB2, j + 1, by omega, by go_num, HZ⟩
       case measure => simp [intOf]; omega
     ·go_wp2_with fail
      refine (labelAt_any _ _ _ _ _ hlen6 HR2.out).mono ?_
      rintro e3 w3 ⟨rfl, rfl⟩
      by_cases hn : labelAt l x.to = j
      ·rw [hn]
       cases k2 : (x.to.toList == [])
       ·go_wp2_with fail
        refine (labelAt_any _ _ _ _ _ hlen6 HR2.out).mono ?_
        rintro e3 w4 ⟨rfl, rfl⟩
        rw [hn]
        have hj0 : ¬ (j : Int) < 0 := by omega
        have HZ := hide (HY.out (by unfold insFault; rw [if_neg (fun h => h he)]; rw [if_neg (fun h => h.2 hn), if_neg (fun h => by have := h.2; omega)]))
        clear HX HY
        go_wp2_with fail
        go_roundw
        case rel => exact ⟨HB2, j + 1, by omega, by go_num, HZ⟩
        case measure => simp [intOf]; omega
       ·have HZ := hide (HY.out (by unfold insFault; rw [if_neg (fun h => h he)]; rw [if_neg (fun h => h.2 hn), if_neg (by simp [k2])]))
        clear HX HY
        go_wp2_with fail
        go_roundw
        case rel => exact ⟨HB2, j + 1, by omega, by go_num, HZ⟩
        case measure => simp [intOf]; omega
      ·have hne : (labelAt l x.to == (j : Int)) = false := beq_eq_false_iff_ne.2 hn
       have HZ : Hid (faultFrom l 0 l = (4, (j : Int))) := by
        have hv : insFault l j x = 4 := by unfold insFault; rw [if_neg (fun h => h he)]; rw [if_pos ⟨k1, hn⟩]
        have := HX.out (by rw [hv]; decide)
        rwa [hv] at this
       clear HX HY
       have hb3 := HB2.out
       have r0 := keep_cell hb3 z0
       have r1 := keep_cell hb3 z1
       have hzl : w.heap.size < w1.heap.size := bLt z0
       have x0 : w3.frozen? ⟨w.heap.size, 0, none⟩ = false := by rw [hb3.frozen hzl]; exact y0
       have x1 : w3.frozen? ⟨w.heap.size, 1, none⟩ = false := by rw [hb3.frozen hzl]; exact y1
       have B3 := below_step hba hb3
       clear z0 z1 y0 y1 hb3
       go_wp2_with fail
       refine bodyPost_ret (v := .agg #[.int .i64 4, .int .i64 j]) (by simp only [results, Tryz.results42]; go_simp) rfl ⟨by rw [HZ.out]; rfl, ?_⟩
       exact (B3.setCell nL _).setCell nL _
    ·have HZ : Hid (faultFrom l 0 l = (insErr x, (j : Int))) := by
      have hv : insFault l j x = insErr x := by unfold insFault; rw [if_pos he]
      have := HX.out (by rw [hv]; exact he)
      rwa [hv] at this
     clear HX HY
     have hb3 := HB2.out
     have r0 := keep_cell hb3 z0
     have r1 := keep_cell hb3 z1
     have hzl : w.heap.size < w1.heap.size := bLt z0
     have x0 : w2.frozen? ⟨w.heap.size, 0, none⟩ = false := by rw [hb3.frozen hzl]; exact y0
     have x1 : w2.frozen? ⟨w.heap.size, 1, none⟩ = false := by rw [hb3.frozen hzl]; exact y1
     have B3 := below_step hba hb3
     have he0 : 0 < (insErr x : Int) := by omega
     clear z0 z1 y0 y1 hb3
     generalize insErr x = n at *
     go_wp2_with fail
     refine bodyPost_ret (v := .agg #[.int .i64 n, .int .i64 j]) (by simp only [results, Tryz.results42]; go_simp) rfl ⟨by rw [HZ.out], ?_⟩
     exact (B3.setCell nL _).setCell nL _
   ·have HZ : Hid (faultFrom l 0 l = (0, -1)) := faultFrom_at l l 0 (fun k y hy => by simpa using HJ.out k y (by have := (List.getElem?_eq_some_iff.1 hy).1; omega) hy)
    obtain rfl : j = l.length := by omega
    clear HJ
    go_wp2_with fail
    refine (fine_any _).mono ?_
    rintro e w2 ⟨rfl, hb2⟩
    have hb3 : Below w1.heap.size w1 w2 := below_step HB.out hb2
    have r0 := keep_cell hb3 z0
    have r1 := keep_cell hb3 z1
    have hzl : w.heap.size < w1.heap.size := bLt z0
    have x0 : w2.frozen? ⟨w.heap.size, 0, none⟩ = false := by rw [hb3.frozen hzl]; exact y0
    have x1 : w2.frozen? ⟨w.heap.size, 1, none⟩ = false := by rw [hb3.frozen hzl]; exact y1
    have B3 := below_step hba hb3
    clear z0 z1 y0 y1 hb3 hb2 HB
    go_wp2_with fail
    refine bodyPost_ret (v := .agg #[.int .i64 0, .int .i64 (-1)]) (by simp only [results, Tryz.results42]; go_simp) rfl ⟨by rw [HZ.out]; rfl, ?_⟩
    exact (B3.setCell nL _).setCell nL _
end
section
open Go.RowKit Go.Extern.Stop Go.Stop Go.Extern Go.Maps Go.WideMaps Go.Sort
theorem insOwn_kept {w w' : World} {base : Nat} {v : Value} {l : List Ins} {ob : Option Nat} (h : insOwn w base v l) (hg : w.grownBy w' ob) (hne : v.ownBlock = none ∨ v.ownBlock ≠ ob) : insOwn w' base v l := World.ownsRow.kept h hg hne
theorem run_append_ins {w : World} {base b2 : Nat} {l0 l : List Ins} {v u : Value} (hown : insOwn w base v l0) (hu : insOwn w b2 u l) (h3 : l0.length + l.length <= 2000) (hb : base <= w.heap.size) (ty : TypeId) :
  ∃ v' w', (Builtin.append_ #[53, 53] ty #[v, u]).run Tryz.prog w = .ok v' w' /\ insOwn w' base v' (l0 ++ l) /\ Below base w w' := by
 obtain ⟨ri, hri, hrz, hrs, hrb⟩ := instrInfo
 have hu' := hu
 rcases hu'.2 with ⟨rfl, h0⟩ | ⟨g, cap, cur, rfl, -⟩
 ·obtain rfl := List.length_eq_zero_iff.1 h0
  refine ⟨v, w, run_append_owned_none (P := Tryz.prog) (w := w) base 53 ty 101 ri 5 Tryz.underlying53 hri v l0.length (icells l0) hown, ?_, Below.refl _ _⟩
  rw [List.append_nil]; exact hown
 ·obtain ⟨v', w', hr, h2, h4, -, -⟩ := run_append_own_at (P := Tryz.prog) (w := w) base 53 ty 101 ri (.agg #[.string ⟨#[]⟩, .int .i64 0, .int .i64 0, .int .i64 0, .string ⟨#[]⟩]) 5 56 Tryz.underlying53 hri hrz hrs hrb rfl (by decide) v l0.length (icells l0) hown ⟨g, 0, none⟩ l.length cap (icells l) (icells_len l) (fun j x hj => by
    have hj5 : j < l.length * 5 := by
     have := (List.getElem?_eq_some_iff.1 hj).1
     rwa [icells_len] at this
    rw [Addr.add_lit, Nat.zero_add]
    exact (World.ownsRow.cellAt hu j hj5).trans hj) icells_one (by unfold maxLen; omega) (by omega) hb
  refine ⟨v', w', hr, ?_, (Below.refl base w).grown h4 hb (fun k hk => (hown.lt k hk).1)⟩
  unfold insOwn
  rw [List.length_append, icells_append]
  exact h2
theorem wpList_append_insO {ops : Array Oper} {rest : List Oper} {o : Oper} {a : Act} (w : World) {Q : Exit -> Act -> World -> Prop} (hgd : o.guard = none) (s x : Operand)
  (ho : o.op = .call { callee := .builtin .append, args := #[s, x], argTypes := #[53, 53] }) (base b2 : Nat) (l0 l : List Ins) (v u : Value)
  (hs : a.eval s = v) (hown : insOwn w base v l0) (hx : a.eval x = u) (hu : insOwn w b2 u l) (h3 : l0.length + l.length <= 2000) (hb : base <= w.heap.size)
  (h : ∀ v' w', insOwn w' base v' (l0 ++ l) -> Below base w w' -> wpList Tryz.prog ops Q rest (a.put o.dst v') w') : wpList Tryz.prog ops Q (o :: rest) a w := by
 refine wpList_plain hgd fun K hK => ?_
 obtain ⟨v', w', hr, h4, h5⟩ := run_append_ins hown hu h3 hb o.type
 unfold Oper.wp execOp
 simp only [ho, resolve, invoke, builtin, Sem.run_bind, Sem.run_pure, Result.andThen_ok, List.map_toArray, List.map_cons, List.map_nil, hs, hx, hr]
 exact hK _ _ (h v' w' h4 h5)
theorem growI_nil {n : Nat} (h0 : 0 < n) (hn : n <= 2000) (w : World) :
  Calls Tryz.prog 135 #[.slice none 0 0, .int .i64 n] w fun e w' => ∃ v, e = .returned v /\ insOwn w' w.heap.size v [] /\ Below w.heap.size w w' := by
 obtain ⟨ri, hri, hrz, hrs, hrb⟩ := instrInfo
 have h1 : ¬ ((n : Int) < 0) := by omega
 have h3 : IntKind.i64.wrap ((n : Int) - 0) = (n : Int) := by rw [IntKind.wrap_i64]; omega
 have h4 : 0 < (n : Int) := by omega
 have hold : (Builtin.firstCells ri.size 0 (.slice none 0 0)).run Tryz.prog w.drew = .ok (([] : List Value).toArray) w.drew := run_firstCells_none w.drew ri.size 0 0 0
 have hrz' : ∀ ty, (Builtin.append_ #[53, 3] ty #[.slice none 0 0, .int .i64 (n : Int)]).run Tryz.prog w =
   .ok (.slice (some ⟨w.heap.size, 0, none⟩) n (grownCap w n 0 101)) (w.drew.alloc (.cells (([] : List Value).toArray ++ Builtin.zeroCells (Value.agg #[.string ⟨#[]⟩, .int .i64 0, .int .i64 0, .int .i64 0, .string ⟨#[]⟩]).cells n ++ Builtin.zeroCells (Value.agg #[.string ⟨#[]⟩, .int .i64 0, .int .i64 0, .int .i64 0, .string ⟨#[]⟩]).cells (grownCap w n 0 101 - n)) 101)) := fun ty => by
  have h := Lib.run_append_grow_zeros w 53 3 ty 101 ri _ .i64 .i64 Tryz.underlying53 Tryz.underlying3 hri hrz none 0 0 [] hold n (by omega) (by rw [hrs]; decide) (by omega) (by omega)
   (by rw [hrb]; omega)
   (by rw [Nat.zero_add]; exact growslice_fits (by omega) (by rw [hrb]; omega))
  simpa using h
 have hG := grownCap_ge w n 0 101
 have hGm : grownCap w n 0 101 <= maxLen := grownCap_le_maxLen w n 0 101 (by unfold maxLen; omega)
 generalize grownCap w n 0 101 = G at *
 obtain ⟨C, hC, hCs⟩ : ∃ C : Array Value, (([] : List Value).toArray ++ Builtin.zeroCells (Value.agg #[.string ⟨#[]⟩, .int .i64 0, .int .i64 0, .int .i64 0, .string ⟨#[]⟩]).cells n ++ Builtin.zeroCells (Value.agg #[.string ⟨#[]⟩, .int .i64 0, .int .i64 0, .int .i64 0, .string ⟨#[]⟩]).cells (G - n)) = C /\ C.size = G * 5 := ⟨_, rfl, by
  simp only [Array.size_append, List.size_toArray, size_zeroCells]
  show 0 + n * 5 + (G - n) * 5 = G * 5
  omega⟩
 simp only [hC] at hrz'
 have hO : Hid (insOwn (w.drew.alloc (.cells C 101)) w.heap.size (.slice (some ⟨w.heap.size, 0, none⟩) 0 G) []) := hide ⟨rfl, .inr ⟨w.heap.size, G, C, rfl, Nat.le_refl _, (by show (w.heap.push _)[w.heap.size]? = _; simp), Nat.zero_le _, hGm, hCs, by simp [icells]⟩⟩
 have hB : Below w.heap.size w (w.drew.alloc (.cells C 101)) := bRf.drew.alloc nL _
 clear hC hCs
 have hG63 : G <= 9223372036854775807 := by unfold maxLen at hGm; omega
 clear hold hri hrz hrs hrb
 go_enter Tryz.func135, Tryz.ntmps135
 go_wp2_with (at_builtin; refine Lib.wpList_append_run _ rfl _ _ _ _ rfl _ _ rfl rfl _ _ (hrz' _) ?_)
 all_goals (go_ret; exact ⟨_, rfl, hO.out, hB⟩)
def flatTo (l : List (List Ins)) (k : Nat) : List Ins := (l.take k).flatten
theorem flatTo_succ {l : List (List Ins)} {k : Nat} {L : List Ins} (h : l[k]? = some L) : flatTo l (k + 1) = flatTo l k ++ L := by
 unfold flatTo
 rw [List.take_add_one, h, List.flatten_append]
 simp
theorem flatTo_le (l : List (List Ins)) : ∀ k : Nat, (flatTo l k).length <= l.flatten.length := fun k => by
 have : l.flatten = (l.take k).flatten ++ (l.drop k).flatten := by rw [<- List.flatten_append, List.take_append_drop]
 rw [this, List.length_append]
 exact Nat.le_add_right _ _
theorem flatTo_all (l : List (List Ins)) : flatTo l l.length = l.flatten := by
 unfold flatTo
 rw [List.take_length]
def lbOp (op : ByteArray) : Bool := hasTo ((shape op.toList).getD [])
theorem hasLabel_any (op : ByteArray) (w : World) : Calls Tryz.prog 152 #[.string op] w fun e w' => e = .returned (.bool (lbOp op)) /\ Below w.heap.size w w' := by
 have HK : Hid (∀ w, Calls Tryz.prog 154 #[.string op] w fun e w' => ∃ a b c d, e = .returned (.tuple #[.agg #[.int .i64 a, .int .i64 b, .int .i64 c, .bool (lbOp op)], .bool d]) /\ Below w.heap.size w w') := hide fun w => (kindOf_any op w).mono fun e w' ⟨h1, h2⟩ => by
  subst h1
  unfold lbOp
  cases shape op.toList with
  | none => exact ⟨_, _, _, _, rfl, h2⟩
  | some S => exact ⟨_, _, _, _, rfl, h2⟩
 generalize lbOp op = B at *
 go_enter Tryz.func152, Tryz.ntmps152
 go_wp2_with fail
 refine (HK.out _).mono ?_
 rintro e w1 ⟨a, b, c, d, rfl, hb⟩
 go_wp2_with fail
 go_ret
 exact ⟨rfl, hb.alloc hb.size _⟩
def thDot : ByteArray := ⟨#[46]⟩
def namedI (q : ByteArray) (x : Ins) : Ins := if lbOp x.op = true then ⟨x.op, x.a, x.b, x.c, x.to ++ thDot ++ q⟩ else x
def namedTo (q : ByteArray) (l : List Ins) (k : Nat) : List Ins := l.mapIdx fun i x => if i < k then namedI q x else x
theorem namedTo_get (q : ByteArray) (l : List Ins) (k i : Nat) : (namedTo q l k)[i]? = l[i]?.map fun x => if i < k then namedI q x else x := by
 unfold namedTo
 rw [List.getElem?_mapIdx]
theorem namedTo_zero (q : ByteArray) (l : List Ins) : namedTo q l 0 = l := List.ext_getElem? fun i => by
 rw [namedTo_get]
 cases l[i]? <;> simp
theorem namedTo_all (q : ByteArray) (l : List Ins) : namedTo q l l.length = l.map (namedI q) := List.ext_getElem? fun i => by
 rw [namedTo_get, List.getElem?_map]
 by_cases h : i < l.length
 ·simp only [if_pos h]
 ·rw [List.getElem?_eq_none (by omega)]; rfl
theorem namedTo_skip {q : ByteArray} {l : List Ins} {k : Nat} {x : Ins} (h : l[k]? = some x) (hn : lbOp x.op = false) : namedTo q l (k + 1) = namedTo q l k := List.ext_getElem? fun i => by
 rw [namedTo_get, namedTo_get]
 by_cases e : i = k
 ·subst e
  rw [h]
  have : namedI q x = x := by unfold namedI; rw [hn]; rfl
  simp [this]
 ·have : (i < k + 1) = (i < k) := by simp only [eq_iff_iff]; omega
  simp only [this]
theorem insOwn_deep {w : World} {base : Nat} {v : Value} {l : List Ins} (h : insOwn w base v l) (h0 : 0 < l.length) : ∃ g cap, base <= g /\ v = .slice (some ⟨g, 0, none⟩) l.length cap /\ insAt (some ⟨g, 0, none⟩) l w /\ (∀ o, w.frozen? ⟨g, o, none⟩ = false) /\ g < w.heap.size /\ l.length <= cap := by
 have h' := h
 rcases h with ⟨hlen, ⟨rfl, e⟩ | ⟨g, cap, cur, rfl, hb, hg, h1, h2, h3, h4⟩⟩
 ·omega
 ·obtain ⟨ad, cap', e, hi⟩ := insOwn_open h' h0
  cases e
  exact ⟨g, cap, hb, rfl, hi, fun o => frozen_of_row _ _ _ _ _ hg, (Array.getElem?_eq_some_iff.1 hg).1, h1⟩
end
end Go.Proofs.YtaiigfcfmcicjaaGreatDoor
