/- The law MachCopies answers true for every start, all codes and any two scripts that can be handed in; no condition beside the row's own. -/
import Derived.Test.YtdpmnlbnlnmjbaaGreatDoorL02
import Derived.Test.YtdpmnlbnlnmjbaaGreatDoorL29
import Derived.Test.YtdpmnlbnlnmjbaaGreatDoorTie
import Derived.Test.YtdpmnlbnlnmjbaaGreatDoorCards
import Derived.Carry
import Derived.SevenTiedAt

/- StR -/
namespace Go.Proofs.YtdpmnlbnlnmjbaaGreatDoor
open Go.ChangeShapes Go.WideShapes Go.ChangeAt Go.RowKit Go.Joins Go.Deep

theorem kcells_Instr : Tryz.prog.cellsOf 75 = 5 := by kernel_rfl
theorem kcells_s : Tryz.prog.cellsOf 9 = 1 := by kernel_rfl
theorem kcells_n : Tryz.prog.cellsOf 3 = 1 := by kernel_rfl
theorem kcells_ns : Tryz.prog.cellsOf 26 = 1 := by kernel_rfl
theorem kcells_is : Tryz.prog.cellsOf 55 = 1 := by kernel_rfl

set_option maxRecDepth 100000 in
theorem kin_of_trod {H : Type} {enc : TypeId × Value → H} {W : World} {sp : Nat → Bool} {held : Bool} {fuel : Nat} {cs : List Value} {x : DataW H × List MemPlace}
    (h : DataW.trod enc Tryz.prog W 0 sp held fuel 75 cs = some x) : ∃ y : Ins, cs = [.string y.op, .int .i64 y.a, .int .i64 y.b, .int .i64 y.c, .string y.to] ∧ y.to.size ≤ maxLen := by
  obtain ⟨xs, n, _, _, hl, hlen, hf⟩ := DataW.trod_struct Tryz.underlying75 h
  rw [kcells_Instr] at hl
  match cs, hl with
  | [c0, c1, c2, c3, c4], _ =>
    match xs, hlen with
    | [x0, x1, x2, x3, x4], _ =>
      have f0 : DataW.trod enc Tryz.prog W 0 sp held n 9 [c0] = some x0 := by simpa [kcells_s] using hf 0 _ rfl
      have f1 : DataW.trod enc Tryz.prog W 0 sp held n 3 [c1] = some x1 := by simpa [kcells_n] using hf 1 _ rfl
      have f2 : DataW.trod enc Tryz.prog W 0 sp held n 3 [c2] = some x2 := by simpa [kcells_n] using hf 2 _ rfl
      have f3 : DataW.trod enc Tryz.prog W 0 sp held n 3 [c3] = some x3 := by simpa [kcells_n] using hf 3 _ rfl
      have f4 : DataW.trod enc Tryz.prog W 0 sp held n 9 [c4] = some x4 := by simpa [kcells_s] using hf 4 _ rfl
      obtain ⟨s, e0, _, _⟩ := DataW.trod_string Tryz.underlying9 f0
      obtain ⟨r1, e1, _, _⟩ := DataW.trod_int Tryz.underlying3 f1
      obtain ⟨r2, e2, _, _⟩ := DataW.trod_int Tryz.underlying3 f2
      obtain ⟨r3, e3, _, _⟩ := DataW.trod_int Tryz.underlying3 f3
      obtain ⟨s4, e4, _, h4⟩ := DataW.trod_string Tryz.underlying9 f4
      refine ⟨⟨s, r1, r2, r3, s4⟩, ?_, h4⟩
      simp only [List.cons.injEq, and_true] at e0 e1 e2 e3 e4
      rw [e0, e1, e2, e3, e4]

theorem list_of_trod {H : Type} {enc : TypeId × Value → H} {W : World} {fuel : Nat} {sp : Nat → Bool} {held : Bool} {cs : List Value} {x : DataW H × List MemPlace} {t e : TypeId} {α : Type} [Inhabited α] (F : α → List Value) (k : Nat) (hk : 0 < k) (Q : α → Prop)
    (ht : Tryz.prog.underlying t = some (.slice e)) (hc : Tryz.prog.cellsOf e = k) (hF : ∀ y, (F y).length = k)
    (hr : ∀ (n : Nat) (cs : List Value) x, DataW.trod enc Tryz.prog W 0 sp held n e cs = some x → ∃ y, cs = F y ∧ Q y)
    (h : DataW.trod enc Tryz.prog W 0 sp held fuel t cs = some x) :
    ∃ (ad : Option Addr) (cap : Nat) (l : List α), cs = [.slice ad l.length cap] ∧ (∀ (i : Nat) y, l[i]? = some y → ∃ b off, ad = some ⟨b, off, none⟩ ∧ (∀ j, j < k → W.cell? ⟨b, off + i * k + j, none⟩ = (F y)[j]?) ∧ Q y) ∧ (ad = none → l = [] ∧ cap = 0) ∧ l.length ≤ cap ∧ l.length ≤ maxLen := by
  rcases open_slice ht h with ⟨rfl, _⟩ | ⟨a, len, cap, m, n, D, Pl, rfl, _, hl, hl2, hm, hx, hel⟩
  · exact ⟨none, 0, [], rfl, fun i y hy => by simp at hy, fun _ => ⟨rfl, rfl⟩, Nat.zero_le _, Nat.zero_le _⟩
  · have hm' : len ≤ m := by rw [hm]; split <;> omega
    have hex : ∀ i, i < len → ∃ y : α, (∀ j, j < k → W.cell? ((a.add (i * k)).add j) = (F y)[j]?) ∧ Q y := fun i hi => by
      obtain ⟨cs', h1, h2⟩ := hel i (by omega)
      rw [hc] at h1
      obtain ⟨y, rfl, h3⟩ := hr _ _ _ h2
      exact ⟨y, (cells_at h1).2, h3⟩
    obtain ⟨f, hf⟩ := choose_lt (p := fun i (y : α) => (∀ j, j < k → W.cell? ((a.add (i * k)).add j) = (F y)[j]?) ∧ Q y) (h := hex)
    refine ⟨some a, cap, (List.range len).map f, by simp, fun i y hy => ?_, fun h => (by cases h), by simpa using hl, by simp; omega⟩
    have hi : i < len := by
      have := (List.getElem?_eq_some_iff.1 hy).1
      simpa using this
    obtain rfl : y = f i := by
      rw [List.getElem?_map, List.getElem?_range hi] at hy
      simpa using hy.symm
    have h00 := (hf 0 (by omega)).1 0 hk
    obtain ⟨v0, hv0⟩ : ∃ v, (F (f 0))[0]? = some v := ⟨_, List.getElem?_eq_getElem (by rw [hF]; exact hk)⟩
    rw [hv0, Nat.zero_mul] at h00
    have hs : a.spot = none := spot_none (a := a) h00
    have e : ∀ j, (a.add (i * k)).add j = ⟨a.block, a.off + i * k + j, none⟩ := fun j => by
      rw [add_plain a hs, add_plain _ rfl]
    refine ⟨a.block, a.off, by obtain ⟨b, o, sp⟩ := a; simp only at hs; subst hs; rfl, fun j hj => ?_, (hf i hi).2⟩
    have := (hf i hi).1 j hj
    rw [e] at this
    exact this

set_option maxRecDepth 100000 in
theorem kint_of_trod {H : Type} {enc : TypeId × Value → H} {W : World} {sp : Nat → Bool} {held : Bool} {fuel : Nat} {cs : List Value} {x : DataW H × List MemPlace}
    (h : DataW.trod enc Tryz.prog W 0 sp held fuel 3 cs = some x) : ∃ y : Int, cs = [.int .i64 y] := by
  obtain ⟨r, e, _, _⟩ := DataW.trod_int Tryz.underlying3 h
  exact ⟨r, e⟩

theorem nums_of_trod {H : Type} {enc : TypeId × Value → H} {W : World} {fuel : Nat} {sp : Nat → Bool} {held : Bool} {cs : List Value} {x : DataW H × List MemPlace} (h : DataW.trod enc Tryz.prog W 0 sp held fuel 26 cs = some x) :
    ∃ (ad : Option Addr) (cap : Nat) (l : List Int), cs = [.slice ad l.length cap] ∧ NumsX ad l cap W ∧ l.length ≤ cap := by
  obtain ⟨ad, cap, l, h1, h2, h3, h4, h5⟩ := list_of_trod (fun y : Int => [.int .i64 y]) 1 (by decide) (fun _ => True) Tryz.underlying26 kcells_n (fun _ => rfl) (fun n cs x h => by obtain ⟨y, e⟩ := kint_of_trod h; exact ⟨y, e, trivial⟩) h
  refine ⟨ad, cap, l, h1, ⟨fun i y hy => ?_, h3, by have : l.length ≤ 2 ^ 63 - 1 := h5; omega⟩, h4⟩
  obtain ⟨b, off, e, hc, -⟩ := h2 i y hy
  have := hc 0 (by decide)
  rw [Nat.mul_one, Nat.add_zero] at this
  exact ⟨b, off, e, this⟩

structure RowV where
  ad : Option Addr
  cap : Nat
  l : List Int
instance : Inhabited RowV := ⟨⟨none, 0, []⟩⟩
theorem rows_of_trod {H : Type} {enc : TypeId × Value → H} {W : World} {fuel : Nat} {sp : Nat → Bool} {held : Bool} {cs : List Value} {x : DataW H × List MemPlace} (h : DataW.trod enc Tryz.prog W 0 sp held fuel 22 cs = some x) :
    ∃ (ad : Option Addr) (cap : Nat) (R : List (List Int)), cs = [.slice ad R.length cap] ∧ rowsAt ad R W ∧ R.length ≤ cap ∧ R.length ≤ 9223372036854775807 ∧ ∀ (i : Nat) row, R[i]? = some row → row.length ≤ 9223372036854775807 := by
  obtain ⟨ad, cap, l, h1, h2, h3, h4, h5⟩ := list_of_trod (fun y : RowV => [.slice y.ad y.l.length y.cap]) 1 (by decide) (fun y => NumsX y.ad y.l y.cap W ∧ y.l.length ≤ y.cap) Tryz.underlying22 kcells_ns (fun _ => rfl) (fun n cs x h => by obtain ⟨ad, cap, l, e, h1, h2⟩ := nums_of_trod h; exact ⟨⟨ad, cap, l⟩, e, h1, h2⟩) h
  have key : ∀ (i : Nat) row, (l.map RowV.l)[i]? = some row → ∃ y, l[i]? = some y ∧ row = y.l := fun i row hr => by
    rw [List.getElem?_map] at hr
    cases hy : l[i]? with
    | none => rw [hy] at hr; cases hr
    | some y => rw [hy] at hr; cases hr; exact ⟨y, rfl, rfl⟩
  refine ⟨ad, cap, l.map RowV.l, by rw [List.length_map]; exact h1, fun i row hr => ?_, by rw [List.length_map]; exact h4, by rw [List.length_map]; have : l.length ≤ 2 ^ 63 - 1 := h5; omega, fun i row hr => ?_⟩
  · obtain ⟨y, hy, rfl⟩ := key i row hr
    obtain ⟨b, off, e, hc, hn, hl⟩ := h2 i y hy
    have := hc 0 (by decide)
    rw [Nat.mul_one, Nat.add_zero] at this
    exact ⟨b, off, y.ad, y.cap, e, this, hl, hn.at'⟩
  · obtain ⟨y, hy, rfl⟩ := key i row hr
    obtain ⟨_, _, _, _, hn, _⟩ := h2 i y hy
    exact hn.len

structure CodeV where
  ad : Option Addr
  cap : Nat
  l : List Ins
instance : Inhabited CodeV := ⟨⟨none, 0, []⟩⟩
instance : Inhabited Ins := ⟨⟨ByteArray.empty, 0, 0, 0, ByteArray.empty⟩⟩
def CodeV.Ok (y : CodeV) (W : World) : Prop := insAt y.ad y.l W ∧ (y.ad = none → y.l = []) ∧ (∀ (i : Nat) x, y.l[i]? = some x → x.to.size ≤ maxLen) ∧ y.l.length ≤ y.cap ∧ y.l.length ≤ 9223372036854775807
theorem code_of_trod {H : Type} {enc : TypeId × Value → H} {W : World} {fuel : Nat} {sp : Nat → Bool} {held : Bool} {cs : List Value} {x : DataW H × List MemPlace} (h : DataW.trod enc Tryz.prog W 0 sp held fuel 55 cs = some x) :
    ∃ y : CodeV, cs = [.slice y.ad y.l.length y.cap] ∧ y.Ok W := by
  obtain ⟨ad, cap, l, h1, h2, h3, h4, h5⟩ := list_of_trod (fun y : Ins => [.string y.op, .int .i64 y.a, .int .i64 y.b, .int .i64 y.c, .string y.to]) 5 (by decide) (fun y => y.to.size ≤ maxLen) Tryz.underlying55 kcells_Instr (fun _ => rfl) (fun n cs x h => kin_of_trod h) h
  refine ⟨⟨ad, cap, l⟩, h1, fun i x hx => ?_, fun e => (h3 e).1, fun i x hx => ?_, h4, by have : l.length ≤ 2 ^ 63 - 1 := h5; show l.length ≤ _; omega⟩
  · obtain ⟨b, off, e, hc, -⟩ := h2 i x hx
    exact ⟨b, off, e, hc 0 (by decide), hc 1 (by decide), hc 2 (by decide), hc 3 (by decide), hc 4 (by decide)⟩
  · obtain ⟨_, _, _, _, hq⟩ := h2 i x hx
    exact hq
theorem codes_of_trod {H : Type} {enc : TypeId × Value → H} {W : World} {fuel : Nat} {sp : Nat → Bool} {held : Bool} {cs : List Value} {x : DataW H × List MemPlace} (h : DataW.trod enc Tryz.prog W 0 sp held fuel 25 cs = some x) :
    ∃ (ad : Option Addr) (cap : Nat) (cl : List (List Ins)), cs = [.slice ad cl.length cap] ∧ codesAt ad cl W ∧ cl.length ≤ 9223372036854775807 ∧ (∀ (t : Nat) L, cl[t]? = some L → L.length ≤ 9223372036854775807) ∧ ∀ (t : Nat) L, cl[t]? = some L → ∀ (i : Nat) x, L[i]? = some x → x.to.size ≤ maxLen := by
  obtain ⟨ad, cap, l, h1, h2, h3, h4, h5⟩ := list_of_trod (fun y : CodeV => [.slice y.ad y.l.length y.cap]) 1 (by decide) (fun y => y.Ok W) Tryz.underlying25 kcells_is (fun _ => rfl) (fun n cs x h => code_of_trod h) h
  have key : ∀ (i : Nat) row, (l.map CodeV.l)[i]? = some row → ∃ y, l[i]? = some y ∧ row = y.l := fun i row hr => by
    rw [List.getElem?_map] at hr
    cases hy : l[i]? with
    | none => rw [hy] at hr; cases hr
    | some y => rw [hy] at hr; cases hr; exact ⟨y, rfl, rfl⟩
  refine ⟨ad, cap, l.map CodeV.l, by rw [List.length_map]; exact h1, fun i row hr => ?_, by rw [List.length_map]; have : l.length ≤ 2 ^ 63 - 1 := h5; omega, fun i row hr => ?_, fun i row hr => ?_⟩
  · obtain ⟨y, hy, rfl⟩ := key i row hr
    obtain ⟨b, off, e, hc, hq⟩ := h2 i y hy
    have := hc 0 (by decide)
    rw [Nat.mul_one, Nat.add_zero] at this
    exact ⟨b, off, y.ad, y.cap, e, this, hq.2.2.2.1, hq.1, hq.2.1⟩
  · obtain ⟨y, hy, rfl⟩ := key i row hr
    obtain ⟨_, _, _, _, hq⟩ := h2 i y hy
    exact hq.2.2.2.2
  · obtain ⟨y, hy, rfl⟩ := key i row hr
    obtain ⟨_, _, _, _, hq⟩ := h2 i y hy
    exact hq.2.2.1
end Go.Proofs.YtdpmnlbnlnmjbaaGreatDoor

/- StQ -/
namespace Go.Proofs.YtdpmnlbnlnmjbaaGreatDoor
open Go.RowKit Go.Extern.Stop Go.Stop Go.Extern Go.Maps Go.WideMaps Go.Sort

def RegsAre (b n : Nat) (f : Nat → Nat → Int) (w : World) : Prop := ∀ t r : Nat, t < n → r < 8 → Calls Tryz.prog 17 #[.pointer (some ⟨b, 0, none⟩), .int .i64 t, .int .i64 r] w fun e w' => e = .returned (.tuple #[.int .i64 (f t r), .nilIface]) ∧ w' = w

set_option maxRecDepth 100000 in
set_option maxHeartbeats 4000000 in
theorem copies_any {a : Nat → Addr} {s : Sta} {ai ar ad ada adb : Option Addr} {ci cr cap capa capb : Nat} {cs : List (List Ins)} {la lb : List Int} {w : World} (hE : Env a w) (hs : StaAt s ⟨ai, ci, ar, cr⟩ w) (hl : codesAt ad cs w) (hsz : ∀ (t : Nat) L, cs[t]? = some L → ∀ (i : Nat) x, L[i]? = some x → x.to.size ≤ maxLen)
    (hc : cs.length ≤ 9223372036854775807) (hL : ∀ (t : Nat) L, cs[t]? = some L → L.length ≤ 9223372036854775807) (na : NumsX ada la capa w) (nb : NumsX adb lb capb w) :
    Calls Tryz.prog 3 #[.agg #[.int .i64 s.cells, .slice ai s.init.length ci, .slice ar s.regs.length cr], .slice ad cs.length cap, .slice ada la.length capa, .slice adb lb.length capb] w fun e w' => e = .returned (.bool true) ∧ Below w.heap.size w w' := by
  obtain ⟨w1, hw1⟩ : ∃ w1, w1 = w.alloc (.cells #[.int .i64 s.cells, .slice ai s.init.length ci, .slice ar s.regs.length cr] 24) := ⟨_, rfl⟩
  have b1 : Below w.heap.size w w1 := by rw [hw1]; exact (Below.refl _ _).alloc (Nat.le_refl _) _
  have e0 : w1.cell? ⟨w.heap.size, 0, none⟩ = some (.int .i64 s.cells) := by rw [hw1]; simp
  have e1 : w1.cell? ⟨w.heap.size, 1, none⟩ = some (.slice ai s.init.length ci) := by rw [hw1]; simp
  have e2 : w1.cell? ⟨w.heap.size, 2, none⟩ = some (.slice ar s.regs.length cr) := by rw [hw1]; simp
  have HO := hide (one_any (hE.below b1.block))
  have HV := hide (fun w' (hb : Below w1.heap.size w1 w') => vast_any (cap := cap) ((hs.below b1).below hb) ((hl.below b1).below hb) hc hL)
  have HS := hide (fun (w' : World) => startOf_any (s := s) (ai := ai) (ar := ar) (ci := ci) (cr := cr) w')
  have HN := hide (fun w' (hb : Below w1.heap.size w1 w') => new_any (cap := cap) ((hE.below b1.block).below hb.block) ((hs.below b1).below hb) ((hl.below b1).below hb) hsz)
  have NA := hide (na.below b1)
  have NB := hide (nb.below b1)
  have la2 : (la.length : Int) ≤ 9223372036854775807 := by have := na.len; omega
  have lb2 : (lb.length : Int) ≤ 9223372036854775807 := by have := nb.len; omega
  have lc2 : (cs.length : Int) ≤ 9223372036854775807 := by omega
  clear hE hs hl hsz hL na nb
  go_enter Tryz.func3, Tryz.ntmps3
  go_wp2_with fail
  rw [← hw1]
  clear hw1
  refine HO.out.mono ?_
  rintro e w2 ⟨rfl, hb2⟩
  replace e0 := keep_cell hb2 e0
  replace e1 := keep_cell hb2 e1
  replace e2 := keep_cell hb2 e2
  have HV2 := hide (HV.out w2 hb2)
  clear HO HV
  go_wp2_with fail
  refine HV2.out.mono ?_
  rintro e w3 ⟨v, hv, rfl, hb3⟩
  have B3 := below_step hb2 hb3
  replace e0 := keep_cell hb3 e0
  replace e1 := keep_cell hb3 e1
  replace e2 := keep_cell hb3 e2
  clear HV2 hb2 hb3
  rcases hv.out with rfl | rfl
  · by_cases ha : (300 : Int) < la.length
    · go_wp2
      go_ret
      exact ⟨rfl, below_step b1 B3⟩
    · by_cases hb : (300 : Int) < lb.length
      · go_wp2
        go_ret
        exact ⟨rfl, below_step b1 B3⟩
      · go_wp2_with fail
        refine (HS.out w3).mono ?_
        rintro e w4 ⟨rfl, hb4⟩
        have B4 := below_step B3 hb4
        have HN4 := hide (HN.out w4 B4)
        clear HS HN hb4 e0 e1 e2 B3
        go_wp2_with fail
        refine HN4.out.mono ?_
        rintro e w5 hp
        obtain ⟨hb5, hp⟩ := hp.out
        have B5 := below_step B4 hb5
        have BW : Below w.heap.size w w5 := below_step b1 B5
        rcases hp with ⟨hf, hR, p, rfl, hA, hpB, hmv⟩ | ⟨hz, v, rfl, hv⟩
        · obtain ⟨g1, g2, g3, -⟩ := Sta.fault_fits hf
          have r0 : RunX a cs p (s.mach cs.length) 1 w5 := ⟨hA, Sta.mach_ok g1 g2 g3, hR, by decide⟩
          have NA5 := NA.out.below B5
          have HNB := NB
          have HBW := hide B5
          have HB1 := hide b1
          have HR0 := hide r0
          have hN : w1.heap.size ≤ p.B := Nat.le_trans B4.size hpB
          have la3 : la.length ≤ 300 := by omega
          have lb3 : lb.length ≤ 300 := by omega
          clear HN4 hb5 B4 B5 BW NA NB b1 hf hR hA hpB hmv g1 g2 g3 r0
          generalize s.mach cs.length = M0 at *
          go_wp2_with (at_builtin; refine wpList_append_nums (by rfl) _ _ (by rfl) ada capa la (by rfl) (by rfl) NA5.at' NA5.nil' (by omega) ?_)
          intro ad6 cap6 w6 hc6 hn6 hlo6 hb6
          have HR := hide (HR0.out.run hb6 hn6 hc6 la3 (by decide) hlo6)
          have HB6 := hide (HBW.out.trans (hb6.mono HBW.out.size))
          have HA6 := hide (HR0.out.below hb6)
          clear NA5 hc6 hn6 hlo6 hb6 HR0 HBW
          go_wp2_with fail
          refine HR.out.mono ?_
          rintro e w7 ⟨rfl, v7, k7, r7⟩
          have HB7 := hide (HB6.out.trans (k7.belowB HA6.out.at' hN HB6.out.size))
          clear HR HB6 HA6 k7
          generalize (M0.runO cs la).1 = N1 at *
          generalize (M0.runO cs la).2 = M1 at *
          have HC1 : Hid (Calls Tryz.prog 14 #[.pointer (some ⟨p.b, 0, none⟩)] w7 fun e w' => ∃ v, e = .returned (.pointer (some ⟨w7.heap.size, 0, none⟩)) ∧ Hid (MkAt a cs ⟨p.B, w7.heap.size, p.pb, p.pc, v⟩ M1 w' ∧ Below w7.heap.size w7 w' ∧ ∀ k, v.ownBlock = some k → w7.heap.size ≤ k)) := kcopy_any (p := p.marked v7) r7.at' r7.ok.marks
          have HR7 := hide r7
          clear r7
          go_wp2_with fail
          refine HC1.out.mono ?_
          rintro e w8 ⟨v8, rfl, h8⟩
          have HC2 : Hid (Calls Tryz.prog 14 #[.pointer (some ⟨p.b, 0, none⟩)] w8 fun e w' => ∃ v, e = .returned (.pointer (some ⟨w8.heap.size, 0, none⟩)) ∧ Hid (MkAt a cs ⟨p.B, w8.heap.size, p.pb, p.pc, v⟩ M1 w' ∧ Below w8.heap.size w8 w' ∧ ∀ k, v.ownBlock = some k → w8.heap.size ≤ k)) := kcopy_any (p := p.marked v7) (HR7.out.below h8.out.2.1).at' HR7.out.ok.marks
          clear HC1
          go_wp2_with fail
          refine HC2.out.mono ?_
          rintro e w9 ⟨v9, rfl, h9⟩
          have T9 := hide (Three.made HR7.out (N := w1.heap.size) hN h8.out.1 h8.out.2.1 h8.out.2.2 h9.out.1 h9.out.2.1 h9.out.2.2)
          have HB8 := hide (HB7.out.trans (h8.out.2.1.mono HB7.out.size))
          have HB9 := hide (HB8.out.trans (h9.out.2.1.mono HB8.out.size))
          clear HC2 h8 h9 HR7 HB7 HB8
          generalize w7.heap.size = bc at *
          generalize w8.heap.size = bd at *
          have HF9 : Hid (Calls Tryz.prog 15 #[.pointer (some ⟨p.b, 0, none⟩)] w9 fun e w' => e = .returned (.int .i64 M1.faults) ∧ w' = w9) := kfaults_any (p := p.marked v7) T9.out.xp.at'
          have NB9 := HNB.out.below HB9.out
          go_wp2_with fail
          refine HF9.out.mono ?_
          rintro e wq ⟨rfl, rfl⟩
          clear HF9
          go_wp2_with (at_builtin; refine wpList_append_nums (by rfl) _ _ (by rfl) adb capb lb (by rfl) (by rfl) NB9.at' NB9.nil' (by omega) ?_)
          intro ad10 cap10 w10 hc10 hn10 hlo10 hb10
          have HRc : Hid (Calls Tryz.prog 13 #[.pointer (some ⟨bc, 0, none⟩), .slice ad10 lb.length cap10] w10 fun e w' => e = .returned (.int .i64 (M1.runO cs lb).1) ∧ ∃ v, MkStep a cs ⟨p.B, bc, p.pb, p.pc, v8⟩ w10 v (M1.runO cs lb).2 w' ∧ RunX a cs (MkPl.marked ⟨p.B, bc, p.pb, p.pc, v8⟩ v) (M1.runO cs lb).2 (1 + 300 + 300) w') := T9.out.xq.run hb10 hn10 hc10 lb3 (by decide) hlo10
          have T10 := hide (T9.out.below hb10)
          have HB10 := hide (HB9.out.trans (hb10.mono HB9.out.size))
          clear T9 HB9 NB9 hc10 hn10 hlo10 hb10
          go_wp2_with fail
          refine HRc.out.mono ?_
          rintro e w11 ⟨rfl, v11, k11, r11⟩
          have T11 := hide (T10.out.runQ k11 r11)
          have HB11 := hide (HB10.out.trans (k11.belowB T10.out.xq.at' (N := w1.heap.size) hN HB10.out.size))
          clear HRc T10 HB10 k11 r11
          have HF11 : Hid (Calls Tryz.prog 15 #[.pointer (some ⟨p.b, 0, none⟩)] w11 fun e w' => e = .returned (.int .i64 M1.faults) ∧ w' = w11) := kfaults_any (p := p.marked v7) T11.out.xp.at'
          have NB11 := HNB.out.below HB11.out
          go_wp2_with fail
          refine HF11.out.mono ?_
          rintro e wq ⟨rfl, rfl⟩
          clear HF11
          go_wp2_with (at_builtin; refine wpList_append_nums (by rfl) _ _ (by rfl) adb capb lb (by rfl) (by rfl) NB11.at' NB11.nil' (by omega) ?_)
          intro ad12 cap12 w12 hc12 hn12 hlo12 hb12
          have HRd : Hid (Calls Tryz.prog 13 #[.pointer (some ⟨bd, 0, none⟩), .slice ad12 lb.length cap12] w12 fun e w' => e = .returned (.int .i64 (M1.runO cs lb).1) ∧ ∃ v, MkStep a cs ⟨p.B, bd, p.pb, p.pc, v9⟩ w12 v (M1.runO cs lb).2 w' ∧ RunX a cs (MkPl.marked ⟨p.B, bd, p.pb, p.pc, v9⟩ v) (M1.runO cs lb).2 (1 + 300 + 300 + 300) w') := T11.out.xr.run hb12 hn12 hc12 lb3 (by decide) hlo12
          have T12 := hide (T11.out.below hb12)
          have HB12 := hide (HB11.out.trans (hb12.mono HB11.out.size))
          clear T11 HB11 NB11 hc12 hn12 hlo12 hb12
          go_wp2_with fail
          refine HRd.out.mono ?_
          rintro e w13 ⟨rfl, v13, k13, r13⟩
          have T13 := hide (T12.out.runR k13 r13)
          have HB13 := hide (HB12.out.trans (k13.belowB T12.out.xr.at' (N := w1.heap.size) hN HB12.out.size))
          clear HRd T12 HB12 k13 r13
          generalize (M1.runO cs lb).1 = N2 at *
          generalize (M1.runO cs lb).2 = M2 at *
          have Fc : Hid (Calls Tryz.prog 15 #[.pointer (some ⟨bc, 0, none⟩)] w13 fun e w' => e = .returned (.int .i64 M2.faults) ∧ w' = w13) := kfaults_any (p := MkPl.marked ⟨p.B, bc, p.pb, p.pc, v8⟩ v11) T13.out.xq.at'
          have Fd : Hid (Calls Tryz.prog 15 #[.pointer (some ⟨bd, 0, none⟩)] w13 fun e w' => e = .returned (.int .i64 M2.faults) ∧ w' = w13) := kfaults_any (p := MkPl.marked ⟨p.B, bd, p.pb, p.pc, v9⟩ v13) T13.out.xr.at'
          have Cc : Hid (Calls Tryz.prog 16 #[.pointer (some ⟨bc, 0, none⟩)] w13 fun e w' => e = .returned (.int .i64 M2.mem.ar.count) ∧ w' = w13) := kcells_any (p := MkPl.marked ⟨p.B, bc, p.pb, p.pc, v8⟩ v11) T13.out.xq.at'
          have Cd : Hid (Calls Tryz.prog 16 #[.pointer (some ⟨bd, 0, none⟩)] w13 fun e w' => e = .returned (.int .i64 M2.mem.ar.count) ∧ w' = w13) := kcells_any (p := MkPl.marked ⟨p.B, bd, p.pb, p.pc, v9⟩ v13) T13.out.xr.at'
          have Rc : Hid (RegsAre bc cs.length M2.regs w13) := fun t r ht hr => kreg_any (p := MkPl.marked ⟨p.B, bc, p.pb, p.pc, v8⟩ v11) T13.out.xq.at' ht hr
          have Rd : Hid (RegsAre bd cs.length M2.regs w13) := fun t r ht hr => kreg_any (p := MkPl.marked ⟨p.B, bd, p.pb, p.pc, v9⟩ v13) T13.out.xr.at' ht hr
          have HBZ := hide (below_step HB1.out HB13.out)
          clear T13 HNB HB13 hN
          go_wp2_with fail
          refine Fd.out.mono ?_
          rintro e wq ⟨rfl, rfl⟩
          go_wp2_with fail
          refine Fc.out.mono ?_
          rintro e wq2 ⟨rfl, rfl⟩
          go_wp2_with fail
          refine Cd.out.mono ?_
          rintro e wq3 ⟨rfl, rfl⟩
          go_wp2_with fail
          refine Cc.out.mono ?_
          rintro e wq4 ⟨rfl, rfl⟩
          clear Fd Fc Cd Cc
          generalize M2.regs = f at *
          go_wp2_with fail
          go_loopw [19, 20, 21, 22, 23, 24] (fun x _ _ _ _ _ wr => ∃ t : Nat, t ≤ cs.length ∧ x = .int .i64 t ∧ Hid (RegsAre bc cs.length f wr) ∧ Hid (RegsAre bd cs.length f wr) ∧ Hid (Below w.heap.size w wr)) (fun x _ _ _ _ _ _ => cs.length - (intOf x).toNat)
          case atStart => exact ⟨0, Nat.zero_le _, rfl, Rc, Rd, HBZ⟩
          case round =>
            clear Rc Rd HBZ
            obtain ⟨t, ht, rfl, Rc, Rd, HBZ⟩ := hrel
            by_cases htl : t < cs.length
            · have ti : (t : Int) < cs.length := by omega
              go_wp2_with fail
              go_loopw [20, 21, 22, 23, 24] (fun x _ _ _ _ wr => ∃ u : Nat, u ≤ 8 ∧ x = .int .i64 u ∧ Hid (RegsAre bc cs.length f wr) ∧ Hid (RegsAre bd cs.length f wr) ∧ Hid (Below w.heap.size w wr)) (fun x _ _ _ _ _ => 8 - (intOf x).toNat)
              case atStart => exact ⟨0, Nat.zero_le _, rfl, Rc, Rd, HBZ⟩
              case round =>
                clear Rc Rd HBZ
                obtain ⟨u, hu, rfl, Rc, Rd, HBZ⟩ := hrel
                by_cases hul : u < 8
                · have ui : (u : Int) < 8 := by omega
                  have R1 := hide (Rc.out t u htl hul)
                  have R2 := hide (Rd.out t u htl hul)
                  go_wp2_with fail
                  refine R1.out.mono ?_
                  rintro e wa ⟨rfl, rfl⟩
                  go_wp2_with fail
                  refine R2.out.mono ?_
                  rintro e wb ⟨rfl, rfl⟩
                  clear R1 R2
                  go_wp2
                  go_roundw
                  case rel => exact ⟨u + 1, by omega, by go_num, Rc, Rd, HBZ⟩
                  case measure => simp [intOf]; omega
                · obtain rfl : u = 8 := by omega
                  rw [show ((8 : Nat) : Int) = 8 from rfl]
                  go_wp2
                  go_roundw
                  case rel => exact ⟨t + 1, by omega, by go_num, Rc, Rd, HBZ⟩
                  case measure => simp [intOf]; omega
            · obtain rfl : t = cs.length := by omega
              clear Rc Rd
              go_wp2
              go_ret
              exact ⟨rfl, HBZ.out⟩
        · have HBW := hide BW
          clear HN4 hb5 B4 B5 BW NA NB b1
          rcases hv with ⟨h, -⟩ | ⟨-, -, rfl⟩ | ⟨-, j2, N2, -, -, rfl, -, -⟩
          · exact absurd h hz
          · obtain ⟨k, hk⟩ : ∃ k, (s.fault cs).1 = k + 1 := ⟨(s.fault cs).1 - 1, by omega⟩
            rw [hk]
            clear hz hk
            rw [show xval a (k + 1) = xerr (a k) from rfl]
            go_wp2
            go_ret
            exact ⟨rfl, HBW.out⟩
          · clear hz
            go_wp2
            go_ret
            exact ⟨rfl, HBW.out⟩
  · go_wp2
    go_ret
    exact ⟨rfl, below_step b1 B3⟩
end Go.Proofs.YtdpmnlbnlnmjbaaGreatDoor

/- StS -/
namespace Go.Proofs.YtdpmnlbnlnmjbaaGreatDoor
open Go.ChangeShapes Go.WideShapes Go.ChangeAt Go.RowKit Go.Joins Go.Deep

theorem copies_laid : Rows.machCopiesRow.laid = laidAll := rfl
theorem cells_Start : Tryz.prog.cellsOf 24 = 3 := by kernel_rfl
theorem readableC : ∀ t ∈ [24, 25, 26, 26], Tryz.prog.readableRec t = true ∧ t < Tryz.prog.types.size := by
  intro t ht
  simp only [List.mem_cons, List.not_mem_nil, or_false] at ht
  rcases ht with rfl | rfl | rfl | rfl
  · exact ⟨by kernel_rfl, of_decide_eq_true (by kernel_rfl)⟩
  · exact ⟨by kernel_rfl, of_decide_eq_true (by kernel_rfl)⟩
  · exact ⟨by kernel_rfl, of_decide_eq_true (by kernel_rfl)⟩
  · exact ⟨by kernel_rfl, of_decide_eq_true (by kernel_rfl)⟩

set_option maxRecDepth 100000 in
theorem copies_lifted (os : Os) (started : os.Started) (H : Type) (enc : TypeId × Value → H) :
    ReturnsInHanded {} Tryz.checked os 3 .any (fun w args => (Rows.machCopiesSpec.pre enc Tryz.prog Tryz.f3 [] false w args ∧ laidMetH Tryz.prog Rows.machCopiesRow.laid w) ∧ sizedMet enc Tryz.prog Tryz.f3 (OpenSpec.ofChange Rows.machCopiesSpec) false w args)
      (Rows.machCopiesSpec.post enc Tryz.prog Tryz.f3 false true false false) := by
  rw [copies_laid]
  refine returnsInHanded_of_change_and (C := Tryz.checked) (X := fun w _ => laidMetH Tryz.prog laidAll w) (fun _ _ _ hh h => h.of_heap hh) own started (by kernel_rfl) Tryz.func3
    (ChangeSpec.witness_shaped (enc := enc) (C := Tryz.checked) (os := os) (X := fun w _ => laidMetH Tryz.prog laidAll w) false (World.doorLaid Tryz.prog 400 os) #[.agg #[.int .i64 0, .slice none 0 0, .slice none 0 0], .slice none 0 0, .slice none 0 0, .slice none 0 0] 8 rfl (World.shaped_of_RefB (by kernel_rfl) (by kernel_rfl)) (by kernel_rfl) (by kernel_rfl) (by kernel_rfl) (door_met os _)) ?_
  intro W base args ds gs before hval0 hW _ _ hL _
  have hval : ∀ (j : Nat) t v, Tryz.f3.params[j]? = some t → args[j]? = some v → Value.okWide Tryz.prog W .any base t v := hval0
  have hW' := hW
  obtain ⟨p, q, hA0, hV, rfl, hfz, hnd⟩ := hW
  have hA : DataW.TrodAll enc Tryz.prog W 0 (fun _ => true) true Tryz.f3.params.toList args.toList ds p := hA0
  rw [Tryz.params3] at hA hval
  have hA2 := hA
  obtain ⟨v0, v1, v2, v3, d0, d1, d2, d3, p0, p1, p2, p3, rfl, rfl, rfl, h0, h1, h2, h3⟩ := trodAll_four hA
  obtain ⟨rfl, rfl⟩ := trodVars_none hV
  obtain ⟨c0, c1, c2, y0, y1, y2, n, rfl, -, -, k0, k1, k2⟩ := open_agg3 Tryz.underlying24 (by kernel_rfl) cells_Start (hval 0 24 v0 rfl rfl) h0
  obtain ⟨cells, e0⟩ := kint_of_trod k0
  obtain ⟨ai, ci, R1, e1, r1, l1, m1, n1⟩ := rows_of_trod k1
  obtain ⟨ar, cr, R2, e2, r2, l2, m2, n2⟩ := rows_of_trod k2
  obtain rfl : c0 = .int .i64 cells := by simpa using e0
  obtain rfl : c1 = .slice ai R1.length ci := by simpa using e1
  obtain rfl : c2 = .slice ar R2.length cr := by simpa using e2
  obtain ⟨s1, sl1, sc1, rfl⟩ := okWide_slice Tryz.underlying25 (hval 1 25 v1 rfl rfl)
  obtain ⟨f1, hf1⟩ := h1
  obtain ⟨ad, cap, cl, q1, hcodes, hcl, hcL, hcs⟩ := codes_of_trod hf1
  obtain ⟨rfl, rfl, rfl⟩ : s1 = ad ∧ sl1 = cl.length ∧ sc1 = cap := by simpa [Value.cells] using q1
  obtain ⟨s2, sl2, sc2, rfl⟩ := okWide_slice Tryz.underlying26 (hval 2 26 v2 rfl rfl)
  obtain ⟨f2, hf2⟩ := h2
  obtain ⟨ada, capa, la, q2, hna, -⟩ := nums_of_trod hf2
  obtain ⟨rfl, rfl, rfl⟩ : s2 = ada ∧ sl2 = la.length ∧ sc2 = capa := by simpa [Value.cells] using q2
  obtain ⟨s3, sl3, sc3, rfl⟩ := okWide_slice Tryz.underlying26 (hval 3 26 v3 rfl rfl)
  obtain ⟨f3, hf3⟩ := h3
  obtain ⟨adb, capb, lb, q3, hnb, -⟩ := nums_of_trod hf3
  obtain ⟨rfl, rfl, rfl⟩ : s3 = adb ∧ sl3 = lb.length ∧ sc3 = capb := by simpa [Value.cells] using q3
  obtain ⟨a, hE⟩ := env_of_laid hL
  clear hA0 hval0
  simp only [List.append_nil] at hW'
  refine (copies_any (s := ⟨cells, R1, R2⟩) hE ⟨r1, r2, l1, l2, m1, m2, n1, n2⟩ hcodes hcs hcl hcL hna hnb).mono fun e W' ⟨he, hb⟩ => ?_
  subst he
  refine ⟨_, rfl, _, _, _, [], p0 ++ p1 ++ p2 ++ p3, [], hW', ?_, ?_, ?_, hb.frame _, fun h => by cases h⟩
  · exact trodAll_mk1 (shut_bool Tryz.underlying4 true)
  · exact trodAll_below laidOutA hb _ _ _ _ readableC hA2
  · rfl

theorem copies_holds : Rows.MachCopiesSaid :=
  OpenClaim.holds_of_wide 3 Tryz.f3 rfl rfl rfl rfl rfl rfl rfl ⟨rfl, rfl, rfl, rfl, rfl⟩ rfl rfl rfl rfl rfl (by kernel_rfl) Tryz.func3 (by kernel_rfl)
    (of_decide_eq_true (by kernel_rfl)) (by unfold Func.isWrapper; rw [if_neg (of_decide_eq_false (by kernel_rfl))]; exact ⟨rfl, rfl⟩)
    (fun os started H enc _ => copies_lifted os started H enc)

theorem copies_card : Rows.MachCopiesCardSaid :=
  Claim7.holds_tied_plain_at .later [] [.handle, .sentinel, .sentinel, .sentinel, .sentinel, .sentinel, .sentinel, .sentinel, .sentinel, .sentinel] true (true, "9501355f2512123a200bd46b8cb668dc711361411f025ac1153121af49a39831") true
    copies_holds (fun _ h => absurd h List.not_mem_nil) (by kernel_rfl) (fun _ h => absurd h List.not_mem_nil) machCopies_row_tie rfl ⟨rfl, rfl⟩ (by kernel_rfl) rfl
    (fun f fn hf hfn => by
      obtain rfl : f = 3 := (Option.some.inj ((show Tryz.prog.funcNamed "quiescent/quiescentlaw1.MachCopies" = some 3 by kernel_rfl).symm.trans hf)).symm
      obtain rfl : fn = Tryz.f3 := (Option.some.inj (Tryz.func3.symm.trans hfn)).symm
      exact ⟨by kernel_rfl, fun j t ht => by
        rw [Tryz.params3] at ht
        rcases j with _ | _ | _ | _ | j
        · obtain rfl : t = 24 := by simpa using ht.symm
          exact (show Tryz.prog.wantsStandIn 24 = false by kernel_rfl)
        · obtain rfl : t = 25 := by simpa using ht.symm
          exact (show Tryz.prog.wantsStandIn 25 = false by kernel_rfl)
        · obtain rfl : t = 26 := by simpa using ht.symm
          exact (show Tryz.prog.wantsStandIn 26 = false by kernel_rfl)
        · obtain rfl : t = 26 := by simpa using ht.symm
          exact (show Tryz.prog.wantsStandIn 26 = false by kernel_rfl)
        · simp at ht⟩)
    (by kernel_rfl)
#print axioms copies_card
end Go.Proofs.YtdpmnlbnlnmjbaaGreatDoor
