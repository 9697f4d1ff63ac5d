import Derived.Test.YtaiigfcfmcicjaaGreatDoorB32
import Derived.Test.YtaiigfcfmcicjaaGreatDoorB15
import Derived.Deep.QuietTactic
import Derived.Test.YtaiigfcfmcicjaaGreatDoorB33
import Derived.Test.YtaiigfcfmcicjaaGreatDoorB36
import Derived.Test.YtaiigfcfmcicjaaGreatDoorB23
import Derived.Test.YtaiigfcfmcicjaaGreatDoorB04
import Derived.Test.YtaiigfcfmcicjaaGreatDoorB42

/- SpR -/
namespace Go.Proofs.YtaiigfcfmcicjaaGreatDoor
open Go.RowKit Go.Extern.Stop Go.Stop Go.Extern

def strsAt (ad : Option Addr) (l : List ByteArray) (w : World) : Prop := ∀ (i : Nat) x, l[i]? = some x → ∃ b off, ad = some ⟨b, off, none⟩ ∧ w.cell? ⟨b, off + i, none⟩ = some (.string x)
theorem strsAt.below {ad : Option Addr} {l : List ByteArray} {w w' : World} (h : strsAt ad l w) (hb : Below w.heap.size w w') : strsAt ad l w' := fun i x hx => by
  obtain ⟨b, off, e, hc⟩ := h i x hx
  exact ⟨b, off, e, keep_cell hb hc⟩

end Go.Proofs.YtaiigfcfmcicjaaGreatDoor

/- GfE -/
namespace Go.Proofs.YtaiigfcfmcicjaaGreatDoor
open Go.RowKit Go.Extern.Stop Go.Stop Go.Extern Go.Maps Go.WideMaps Go.Sort

theorem flavour_is (f : Int) (w : World) : Calls Tryz.prog 16 #[.int .i64 f] w fun e w' => e = .returned (.bool (decide (1 ≤ f ∧ f ≤ 4))) ∧ w' = w := by
  have hc : f < 1 ∨ 1 ≤ f ∧ (¬ f ≤ 4 ∨ f ≤ 4) := by omega
  rcases hc with h1 | ⟨h1, h2 | h2⟩
  · rw [decide_eq_false (by omega)]
    go_enter Tryz.func16, Tryz.ntmps16
    go_wp2
    go_ret
    exact ⟨rfl, rfl⟩
  · rw [decide_eq_false (by omega)]
    have hd : decide (f ≤ 4) = false := decide_eq_false h2
    go_enter Tryz.func16, Tryz.ntmps16
    go_wp2
    go_ret
    exact ⟨rfl, rfl⟩
  · rw [decide_eq_true ⟨h1, h2⟩]
    go_enter Tryz.func16, Tryz.ntmps16
    go_wp2
    go_ret
    exact ⟨rfl, rfl⟩
def BoundIs (ad : Addr) (w : World) : Prop := w.cell? ⟨1, 0, none⟩ = some (errAt ad)
theorem fcheck_bad {f : Int} (hf : ¬ (1 ≤ f ∧ f ≤ 4)) {ad : Addr} {w : World} (hE : BoundIs ad w) : Calls Tryz.prog 126 #[.int .i64 f] w fun e w' => e = .returned (errAt ad) ∧ w' = w := by
  have g1 : w.cell? ⟨1, 0, none⟩ = some (errAt ad) := hE
  have hc : f < 1 ∨ ¬ f < 1 ∧ 4 < f := by omega
  clear hE hf
  rcases hc with h1 | ⟨h1, h2⟩
  all_goals
    go_enter Tryz.func126, Tryz.ntmps126
    go_wp2
    go_ret
    exact ⟨rfl, rfl⟩

theorem hub_bound {f : Int} (hf : ¬ (1 ≤ f ∧ f ≤ 4)) {ad : Addr} {w : World} (hE : BoundIs ad w) :
    Calls Tryz.prog 89 #[.int .i64 f] w fun e w' => e = .returned (.tuple #[.slice none 0 0, errAt ad]) ∧ Below w.heap.size w w' := by
  have HK := hide (fcheck_bad hf hE)
  clear hf hE
  go_enter Tryz.func89, Tryz.ntmps89
  go_wp2_with (go_at_call 126; refine HK.out.mono ?_; rintro e w1 ⟨rfl, e1⟩)
  obtain rfl := e1
  go_ret2
  exact ⟨rfl, Below.refl _ _⟩

end Go.Proofs.YtaiigfcfmcicjaaGreatDoor

/- ClU -/
namespace Go.Proofs.YtaiigfcfmcicjaaGreatDoor
open Go.RowKit Go.Extern.Stop Go.Stop Go.Extern Go.Maps Go.WideMaps Go.Sort

set_option maxRecDepth 20000 in
theorem tgrace_bad {f : Int} (hf : ¬ (1 ≤ f ∧ f ≤ 4)) {sv : Value} {ad : Addr} {w : World} (hE : BoundIs ad w) :
    Calls Tryz.prog 56 #[sv, .int .i64 f] w fun e w' => e = .returned (errAt ad) ∧ Below w.heap.size w w' := by
  have HH := hide (hub_bound hf hE)
  clear hE
  go_enter Tryz.func56, Tryz.ntmps56
  go_wp2_with fail
  refine HH.out.mono ?_
  rintro e w2 ⟨rfl, hb⟩
  have HB := hide hb
  clear hb HH
  go_wp2_with fail
  go_ret
  exact ⟨rfl, HB.out⟩
def zsta : Value := .agg #[.int .i64 0, .slice none 0 0, .slice none 0 0]
set_option maxRecDepth 20000 in
set_option maxHeartbeats 4000000 in
theorem tbuild_bad {f : Int} (hf : ¬ (1 ≤ f ∧ f ≤ 4)) {adE : Addr} {ad : Option Addr} {n cap : Nat} {fv : Value} {w : World} (hE : BoundIs adE w) (hn : n ≤ 6) {ac : Option Addr} {cells : List (List Int)} {capc : Nat} (hc : cellsAt ac cells w) (h0 : 0 < cells.length) (hl : cells.length ≤ 20) :
    Calls Tryz.prog 39 #[.int .i64 f, .slice ad n cap, fv, .slice ac cells.length capc] w fun e w' => e = .returned (.tuple #[zsta, .slice none 0 0, errAt adE]) ∧ Below w.heap.size w w' := by
  have HB0 : Hid (Below w.heap.size w (w.alloc (.cells #[.int .i64 0, .slice none 0 0, .slice none 0 0] 38))) := hide ((Below.refl _ _).alloc (Nat.le_refl _) _)
  have HRC : Hid ((∀ o, (w.alloc (.cells #[.int .i64 0, .slice none 0 0, .slice none 0 0] 38)).cell? ⟨w.heap.size, o, none⟩ = (#[.int .i64 0, .slice none 0 0, .slice none 0 0] : Array Value)[o]?) ∧ (∀ o, (w.alloc (.cells #[.int .i64 0, .slice none 0 0, .slice none 0 0] 38)).frozen? ⟨w.heap.size, o, none⟩ = false) ∧ w.heap.size < (w.alloc (.cells #[.int .i64 0, .slice none 0 0, .slice none 0 0] 38)).heap.size) := hide ⟨fun o => World.cell?_alloc_new _ _ _ _, fun o => World.frozen?_alloc_new _ _ _ _, by simp⟩
  have HBE := hide (begin_ok (cap := capc) hn (hc.below HB0.out) h0 hl)
  have HGR := hide (fun (sv : Value) (W : World) (hb : Below w.heap.size w W) => tgrace_bad (sv := sv) hf (show BoundIs adE W from keep_cell hb hE))
  clear hE hf hc
  go_enter Tryz.func39, Tryz.ntmps39
  go_wp2_with fail
  refine HBE.out.mono ?_
  rintro e w2 ⟨sb, rv, rs, rfl, h2⟩
  have HL2 := hide h2.low
  have HB2 := hide (below_step HB0.out h2.low)
  clear h2 HBE
  go_wp2_with fail
  refine (HGR.out _ _ HB2.out).mono ?_
  rintro e w3 ⟨rfl, hb3⟩
  have hlow := below_step HL2.out hb3
  have HB3 := hide (below_step HB2.out hb3)
  obtain ⟨q1, q2, q3⟩ := HRC.out
  have b0 := keep_cell hlow ((q1 0).trans (show _ = some (.int .i64 0) from rfl))
  have b1 := keep_cell hlow ((q1 1).trans (show _ = some (.slice none 0 0) from rfl))
  have b2 := keep_cell hlow ((q1 2).trans (show _ = some (.slice none 0 0) from rfl))
  have z0 := (hlow.frozen (show (⟨w.heap.size, 0, none⟩ : Addr).block < _ from q3)).trans (q2 0)
  have z1 := (hlow.frozen (show (⟨w.heap.size, 1, none⟩ : Addr).block < _ from q3)).trans (q2 1)
  have z2 := (hlow.frozen (show (⟨w.heap.size, 2, none⟩ : Addr).block < _ from q3)).trans (q2 2)
  clear hlow hb3 q1 q2 q3 HRC HL2 HGR
  go_wp2_with fail
  refine bodyPost_ret (v := .tuple #[.agg #[.int .i64 0, .slice none 0 0, .slice none 0 0], .slice none 0 0, errAt adE]) (by rw [results_cell_tmp2 (show Tryz.f39.results = _ from rfl)]; go_simp) rfl ?_
  exact ⟨rfl, ((HB3.out.setCell (Nat.le_refl _) _).setCell (Nat.le_refl _) _).setCell (Nat.le_refl _) _⟩

set_option maxRecDepth 20000 in
set_option maxHeartbeats 4000000 in
theorem clbuild_err {a : Nat → Addr} {f : Int} {ad : Option Addr} {cl : List (List OpI)} {cap : Nat} {w : World} (hE : Env a w) (ho : opRowsAt ad cl w) (h0 : (eachE cl).1 ≠ 0) :
    Calls Tryz.prog 15 #[.int .i64 f, .slice ad cl.length cap] w fun e w' => ∃ v, e = .returned (.tuple #[zsta, .slice none 0 0, v]) ∧ errIs a (eachE cl) v w' w.heap.size ∧ Below w.heap.size w w' := by
  have hB0 : Below w.heap.size w (w.alloc (.cells #[.int .i64 0, .slice none 0 0, .slice none 0 0] 38)) := (Below.refl _ _).alloc (Nat.le_refl _) _
  have HB0 := hide hB0
  have HRC : Hid ((∀ o, (w.alloc (.cells #[.int .i64 0, .slice none 0 0, .slice none 0 0] 38)).cell? ⟨w.heap.size, o, none⟩ = (#[.int .i64 0, .slice none 0 0, .slice none 0 0] : Array Value)[o]?) ∧ (∀ o, (w.alloc (.cells #[.int .i64 0, .slice none 0 0, .slice none 0 0] 38)).frozen? ⟨w.heap.size, o, none⟩ = false) ∧ w.heap.size < (w.alloc (.cells #[.int .i64 0, .slice none 0 0, .slice none 0 0] 38)).heap.size) := hide ⟨fun o => World.cell?_alloc_new _ _ _ _, fun o => World.frozen?_alloc_new _ _ _ _, by simp⟩
  have HCH := hide (clcheck_ok (cap := cap) (hE.below hB0.block) (ho.below hB0))
  have H0 := hide h0
  clear hE ho hB0 h0
  generalize eachE cl = F at *
  generalize cl.length = n at *
  go_enter Tryz.func15, Tryz.ntmps15
  go_wp2_with fail
  refine HCH.out.mono ?_
  rintro e w3 ⟨v, rfl, he, hb3⟩
  obtain ⟨q1, q2, q3⟩ := HRC.out
  have b0 := keep_cell hb3 ((q1 0).trans (show _ = some (.int .i64 0) from rfl))
  have b1 := keep_cell hb3 ((q1 1).trans (show _ = some (.slice none 0 0) from rfl))
  have b2 := keep_cell hb3 ((q1 2).trans (show _ = some (.slice none 0 0) from rfl))
  have z0 := (hb3.frozen (show (⟨w.heap.size, 0, none⟩ : Addr).block < _ from q3)).trans (q2 0)
  have z1 := (hb3.frozen (show (⟨w.heap.size, 1, none⟩ : Addr).block < _ from q3)).trans (q2 1)
  have z2 := (hb3.frozen (show (⟨w.heap.size, 2, none⟩ : Addr).block < _ from q3)).trans (q2 2)
  have HB9 : Hid (Below w.heap.size w (((w3.setCell ⟨w.heap.size, 0, none⟩ (.int .i64 0)).setCell ⟨w.heap.size, 1, none⟩ (.slice none 0 0)).setCell ⟨w.heap.size, 2, none⟩ (.slice none 0 0))) := hide ((((below_step HB0.out hb3).setCell (Nat.le_refl _) _).setCell (Nat.le_refl _) _).setCell (Nat.le_refl _) _)
  have HE9 : Hid (errIs a F v (((w3.setCell ⟨w.heap.size, 0, none⟩ (.int .i64 0)).setCell ⟨w.heap.size, 1, none⟩ (.slice none 0 0)).setCell ⟨w.heap.size, 2, none⟩ (.slice none 0 0)) w.heap.size) := hide (by
    rcases he with h | h | ⟨g0, j, N, g1, g2, g3, g4, g5⟩
    · exact .inl h
    · exact .inr (.inl h)
    · have hne : N ≠ w.heap.size := by omega
      exact .inr (.inr ⟨g0, j, N, g1, by omega, g3, cell_ne (cell_ne (cell_ne g4 (.inl hne)) (.inl hne)) (.inl hne), cell_ne (cell_ne (cell_ne g5 (.inl hne)) (.inl hne)) (.inl hne)⟩))
  clear hb3 q1 q2 q3 HRC HCH
  rcases he with ⟨h, -⟩ | ⟨-, -, rfl⟩ | ⟨-, j, N, -, -, rfl, -, -⟩
  · exact absurd h H0.out
  · obtain ⟨jj, hj⟩ := xval_is a H0.out
    rw [hj] at HE9 ⊢
    go_wp2_with fail
    refine bodyPost_ret (v := .tuple #[.agg #[.int .i64 0, .slice none 0 0, .slice none 0 0], .slice none 0 0, errAt (a jj)]) (by rw [results_cell_tmp2 (show Tryz.f15.results = _ from rfl)]; go_simp) rfl ?_
    exact ⟨_, rfl, HE9.out, HB9.out⟩
  · go_wp2_with fail
    refine bodyPost_ret (v := .tuple #[.agg #[.int .i64 0, .slice none 0 0, .slice none 0 0], .slice none 0 0, .iface 105 (.pointer (some ⟨N, 0, none⟩))]) (by rw [results_cell_tmp2 (show Tryz.f15.results = _ from rfl)]; go_simp) rfl ?_
    exact ⟨_, rfl, HE9.out, HB9.out⟩

set_option maxRecDepth 20000 in
set_option maxHeartbeats 4000000 in
theorem clbuild_flav {a : Nat → Addr} {f : Int} (hf : ¬ (1 ≤ f ∧ f ≤ 4)) {ad : Option Addr} {cl : List (List OpI)} {cap : Nat} {w : World} (hE : Env a w) (ho : opRowsAt ad cl w) (h0 : (eachE cl).1 = 0) :
    Calls Tryz.prog 15 #[.int .i64 f, .slice ad cl.length cap] w fun e w' => e = .returned (.tuple #[zsta, .slice none 0 0, errAt (a 1)]) ∧ Below w.heap.size w w' := by
  obtain ⟨-, h6, -, -⟩ := eachE_ok h0
  have hB0 : Below w.heap.size w (w.alloc (.cells #[.int .i64 0, .slice none 0 0, .slice none 0 0] 38)) := (Below.refl _ _).alloc (Nat.le_refl _) _
  have HB0 := hide hB0
  have HRC : Hid ((∀ o, (w.alloc (.cells #[.int .i64 0, .slice none 0 0, .slice none 0 0] 38)).cell? ⟨w.heap.size, o, none⟩ = (#[.int .i64 0, .slice none 0 0, .slice none 0 0] : Array Value)[o]?) ∧ (∀ o, (w.alloc (.cells #[.int .i64 0, .slice none 0 0, .slice none 0 0] 38)).frozen? ⟨w.heap.size, o, none⟩ = false) ∧ w.heap.size < (w.alloc (.cells #[.int .i64 0, .slice none 0 0, .slice none 0 0] 38)).heap.size) := hide ⟨fun o => World.cell?_alloc_new _ _ _ _, fun o => World.frozen?_alloc_new _ _ _ _, by simp⟩
  have HCH := hide (clcheck_ok (cap := cap) (hE.below hB0.block) (ho.below hB0))
  have HNA := hide (tname_ok 0 (by decide))
  have HBU := hide (fun (W : World) (hb : Below w.heap.size w W) (ac : Option Addr) (capc : Nat) (fv : Value) (hc : cellsAt ac clCells W) => tbuild_bad (ad := ad) (cap := cap) (capc := capc) (fv := fv) (n := cl.length) hf (show BoundIs (a 1) W from (hE.below hb.block).cell 1 (by decide)) h6 hc (by decide) (by decide))
  rw [show clCells.length = 2 from rfl] at HBU
  rw [show ((0 : Nat) : Int) + 1 = 1 from rfl, show ((0 : Nat) : Int) = 0 from rfl] at HNA
  have hmf : ∀ (fn : Fn) (first cap : Array Value) (w : World), (Instr.makeFunc fn first cap).run Tryz.prog w = .ok (.func fn first cap) w := fun _ _ _ _ => rfl
  clear hE ho hB0
  generalize cl.length = n at *
  clear hf h6
  have H00 := hide h0
  clear h0
  go_enter Tryz.func15, Tryz.ntmps15
  go_wp2_with fail
  refine HCH.out.mono ?_
  rintro e w2 ⟨v, rfl, he, hb2⟩
  obtain rfl : v = .nilIface := by
    rcases he with ⟨-, e⟩ | ⟨h, -⟩ | ⟨h, -⟩
    · exact e
    · exact absurd H00.out h
    · exact absurd H00.out h
  have HB2 := hide hb2
  clear he hb2 HCH H00
  go_wp2_with fail
  refine (HNA.out _).mono ?_
  rintro e w3 ⟨rfl, hb3⟩
  have HB3 := hide hb3
  clear hb3
  go_wp2_with fail
  have hs3 := HB3.out.size
  rw [World.size_alloc] at hs3
  have hal : Below w3.heap.size w3 ((w3.alloc (.cells #[.int .i64 1] 3)).alloc (.cells #[.slice (some ⟨w2.heap.size, 0, none⟩) 1 1, .slice (some ⟨w3.heap.size, 0, none⟩) 1 1] 54)) := ((Below.refl _ _).alloc (Nat.le_refl _) _).alloc (by simp) _
  have hb6 : Below w2.heap.size w2 ((w3.alloc (.cells #[.int .i64 1] 3)).alloc (.cells #[.slice (some ⟨w2.heap.size, 0, none⟩) 1 1, .slice (some ⟨w3.heap.size, 0, none⟩) 1 1] 54)) := below_step (below_step ((Below.refl _ _).alloc (Nat.le_refl _) _) HB3.out) hal
  have HB6 := hide (below_step (below_step HB0.out HB2.out) hb6)
  have HB7 := hide (below_step HB2.out hb6)
  have HCL6 : Hid (cellsAt (some ⟨w3.heap.size + 1, 0, none⟩) clCells ((w3.alloc (.cells #[.int .i64 1] 3)).alloc (.cells #[.slice (some ⟨w2.heap.size, 0, none⟩) 1 1, .slice (some ⟨w3.heap.size, 0, none⟩) 1 1] 54))) := hide (fun i row hr => by
    have hc : ∀ j, ((w3.alloc (.cells #[.int .i64 1] 3)).alloc (.cells #[.slice (some ⟨w2.heap.size, 0, none⟩) 1 1, .slice (some ⟨w3.heap.size, 0, none⟩) 1 1] 54)).cell? ⟨w3.heap.size + 1, 0 + j, none⟩ = (#[.slice (some ⟨w2.heap.size, 0, none⟩) 1 1, .slice (some ⟨w3.heap.size, 0, none⟩) 1 1] : Array Value)[j]? := fun j => by
      have := World.cell?_alloc_new (w3.alloc (.cells #[.int .i64 1] 3)) #[.slice (some ⟨w2.heap.size, 0, none⟩) 1 1, .slice (some ⟨w3.heap.size, 0, none⟩) 1 1] 54 j
      rw [World.size_alloc] at this
      rw [Nat.zero_add]
      exact this
    match i, hr with
    | 0, hr =>
      cases hr
      exact ⟨_, 0, ⟨w2.heap.size, 0, none⟩, 1, rfl, hc 0, ((numsAt_new (w := w2) (l := [1]) (t := 3) rfl).below HB3.out).below hal, by decide, by decide⟩
    | 1, hr =>
      cases hr
      exact ⟨_, 0, ⟨w3.heap.size, 0, none⟩, 1, rfl, hc 1, (numsAt_new (w := w3) (l := [1]) (t := 3) rfl).below ((Below.refl _ _).alloc (Nat.le_refl _) _), by decide, by decide⟩
    | k + 2, hr => cases hr)
  have HT := hide (HBU.out _ HB6.out _ 2 (.func (.func 40) #[.int .i64 f] #[]) HCL6.out)
  clear hs3 hal hb6 HB0 HB2 HB3 HCL6 HBU
  generalize ((w3.alloc (.cells #[.int .i64 1] 3)).alloc (.cells #[.slice (some ⟨w2.heap.size, 0, none⟩) 1 1, .slice (some ⟨w3.heap.size, 0, none⟩) 1 1] 54)) = W6 at *
  refine HT.out.mono ?_
  rintro e w7 ⟨rfl, hbw⟩
  have hlow := below_step HB7.out hbw
  have HBZ := hide (below_step HB6.out hbw)
  obtain ⟨q1, q2, q3⟩ := HRC.out
  have b0 := keep_cell hlow ((q1 0).trans (show _ = some (.int .i64 0) from rfl))
  have b1 := keep_cell hlow ((q1 1).trans (show _ = some (.slice none 0 0) from rfl))
  have b2 := keep_cell hlow ((q1 2).trans (show _ = some (.slice none 0 0) from rfl))
  have z0 := (hlow.frozen (show (⟨w.heap.size, 0, none⟩ : Addr).block < _ from q3)).trans (q2 0)
  have z1 := (hlow.frozen (show (⟨w.heap.size, 1, none⟩ : Addr).block < _ from q3)).trans (q2 1)
  have z2 := (hlow.frozen (show (⟨w.heap.size, 2, none⟩ : Addr).block < _ from q3)).trans (q2 2)
  clear hlow hbw q1 q2 q3 HRC HT HB6 HB7 HNA
  unfold zsta
  go_wp2_with fail
  refine bodyPost_ret (v := .tuple #[.agg #[.int .i64 0, .slice none 0 0, .slice none 0 0], .slice none 0 0, errAt (a 1)]) (by rw [results_cell_tmp2 (show Tryz.f15.results = _ from rfl)]; go_simp) rfl ?_
  exact ⟨rfl, ((HBZ.out.setCell (Nat.le_refl _) _).setCell (Nat.le_refl _) _).setCell (Nat.le_refl _) _⟩
end Go.Proofs.YtaiigfcfmcicjaaGreatDoor
