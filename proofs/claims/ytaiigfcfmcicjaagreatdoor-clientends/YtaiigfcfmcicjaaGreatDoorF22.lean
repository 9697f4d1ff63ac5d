import Derived.Test.YtaiigfcfmcicjaaGreatDoorF21
import Derived.Deep.RegionWith
namespace Go.Proofs.YtaiigfcfmcicjaaGreatDoor
set_option maxRecDepth 100000
set_option maxHeartbeats 8000000
section
open Go.RowKit Go.Extern.Stop Go.Stop Go.Extern Go.Maps Go.WideMaps Go.Sort
theorem tname_ok (c : Nat) (hc : c < 64) (w : World) : Calls Tryz.prog 38 #[.int .i64 c] w fun e w' => e = .returned (.int .i64 ((c : Int) + 1)) /\ Below w.heap.size w w' := by
 have HW := hide (word_ok c 0 w ⟨by omega, by omega, by omega, by omega⟩)
 rw [show (0 : Int) * 64 + (c : Int) + 1 = (c : Int) + 1 by omega] at HW
 go_enter Tryz.func38, Tryz.ntmps38
 go_wp2_with fail
 refine HW.out.mono ?_
 rintro e w1 ⟨rfl, hb⟩
 go_wp2_with fail
 go_ret
 exact ⟨rfl, hb⟩
theorem heap_lay (g : Nat) : ∀ (xs : List Value) (o : Nat) (w : World), (w.setCells g o xs).heap.size = w.heap.size
 | [], _, _ => rfl
 | x :: xs, o, w => by
  show ((w.setCell ⟨g, o, none⟩ x).setCells g (o + 1) xs).heap.size = _
  rw [heap_lay g xs]
  simp [World.setCell]
theorem wpList_copy_row {ops : Array Oper} {rest : List Oper} {o : Oper} {a : Act} {w0 : World} {Q : Exit -> Act -> World -> Prop} (hgd : o.guard = none) (s x : Operand)
  (ho : o.op = .call { callee := .builtin .copy, args := #[s, x], argTypes := #[54, 54] }) (ws : List Int) (h0 : 0 < ws.length) (h4 : ws.length <= 4) (ad : Addr) (cap : Nat)
  (hs : a.eval s = .slice (some ⟨w0.heap.size, 0, none⟩) 4 4) (hx : a.eval x = .slice (some ad) ws.length cap) (ha : numsAt (some ad) ws w0)
  (h : ∀ w1, Below w0.heap.size w0 w1 -> w1.heap.size = w0.heap.size + 1 -> numsOwn w1 w0.heap.size (.slice (some ⟨w0.heap.size, 0, none⟩) 4 4) (pad4 ws) -> wpList Tryz.prog ops Q rest (a.put o.dst (goInt ws.length)) w1) :
  wpList Tryz.prog ops Q (o :: rest) a (w0.alloc (.cells #[.int .i64 0, .int .i64 0, .int .i64 0, .int .i64 0] 3)) := by
 have hB : Below w0.heap.size w0 (w0.alloc (.cells #[.int .i64 0, .int .i64 0, .int .i64 0, .int .i64 0] 3)) := bRf.alloc nL _
 have hrow : numsOwn (w0.alloc (.cells #[.int .i64 0, .int .i64 0, .int .i64 0, .int .i64 0] 3)) w0.heap.size (.slice (some ⟨w0.heap.size, 0, none⟩) 4 4) [0, 0, 0, 0] := numsOwn_new rfl nL (by decide)
 have hsz : (w0.alloc (.cells #[.int .i64 0, .int .i64 0, .int .i64 0, .int .i64 0] 3)).heap.size = w0.heap.size + 1 := by simp
 have hf : ∀ j, (w0.alloc (.cells #[.int .i64 0, .int .i64 0, .int .i64 0, .int .i64 0] 3)).frozen? ⟨w0.heap.size, j, none⟩ = false := fun j => World.frozen?_alloc_new _ _ _ j
 have hat := ha.below (w := w0) hB
 obtain ⟨b, off, e0, -⟩ := ha 0 _ (List.getElem?_eq_getElem h0)
 cases e0
 have hl : (ws.map (Value.int .i64)).length = ws.length := List.length_map _
 have key := wpListG_copy_cells (P := Tryz.prog) (w := w0.alloc (.cells #[.int .i64 0, .int .i64 0, .int .i64 0, .int .i64 0] 3)) (Q := Q) (rest := rest) (ops := ops) hgd s x 54 3 ho w0.heap.size 0 4 4 ⟨b, off, none⟩ ws.length cap (ws.map (Value.int .i64)) hs hx Tryz.underlying54 intOne (by rw [hl]; exact (Nat.min_eq_left h4).symm)
  (fun j v hj => by
    rw [List.getElem?_map] at hj
    obtain ⟨y, hy, rfl⟩ := Option.map_eq_some_iff.1 hj
    obtain ⟨b', off', e, hc⟩ := hat j y hy
    cases e
    rw [Addr.add_lit]
    exact hc)
  (fun j hj => by
    rw [hl] at hj
    obtain ⟨x, hx⟩ : ∃ x, ([0, 0, 0, 0] : List Int)[j]? = some x := ⟨_, List.getElem?_eq_getElem (show j < 4 by omega)⟩
    rw [Nat.zero_add, (numsOwn_cell hrow hx).1]
    rfl)
  (fun j hj => hf _)
  (fun v hv => by
    obtain ⟨y, -, rfl⟩ := List.mem_map.1 hv
    rfl)
 rw [hl] at key
 refine key (h _ (below_lay nL _ _ hB) ?_ (numsOwn_lay ws 0 hrow))
 rw [heap_lay, hsz]
theorem rowsInfoT : ∃ i, (Tryz.prog).info? 54 = some i /\ i.zero = some (.slice none 0 0) /\ i.size = 1 /\ i.bytes = 24 := info_parts (by kernel_rfl)
section
variable {base sb : Nat} {w1 : World} {iv : Value} {vs : List Value} {I : List (List Int)} {rv : Value} {rs : List Value} {R : List (List Int)} {w : World}
def TAt (base sb : Nat) (w1 : World) (rv : Value) (rs : List Value) (I R : List (List Int)) (w : World) : Prop := ∃ iv vs, TW base sb w1 [] iv vs I rv rs R w /\ WD vs rs
theorem tlast_ok (h : TAt base sb w1 rv rs I R w) (h0 : 0 < I.length) (h64 : I.length <= 64) : Calls Tryz.prog 88 #[.pointer (some ⟨sb, 0, none⟩)] w fun e w' => e = .returned (.int .i64 I.length) /\ Below w.heap.size w w' := by
 obtain ⟨iv, vs, h, -⟩ := h
 have c1 := h.c1
 obtain ⟨ai, ci, rfl, hci, -, -⟩ := ownsRow_shape h.oi
 have HN := hide (fun w => tname_ok (I.length - 1) (by omega) w)
 have wr : IntKind.i64.wrap ((I.length : Int) - 1) = ((I.length - 1 : Nat) : Int) := by rw [IntKind.wrap_i64]; omega
 have he : (((I.length - 1 : Nat) : Int) + 1) = (I.length : Int) := by omega
 rw [he] at HN
 clear h he
 generalize I.length - 1 = m at *
 generalize I.length = n at *
 go_enter Tryz.func88, Tryz.ntmps88
 go_wp2_with fail
 refine (HN.out _).mono ?_
 rintro e w2 ⟨rfl, hb⟩
 go_wp2_with fail
 go_ret
 exact ⟨rfl, hb⟩
theorem tcell_ok (h : TAt base sb w1 rv rs I R w) {ad : Addr} {ws : List Int} {cap : Nat} (ha : numsAt (some ad) ws w) (h0 : 0 < ws.length) (h4 : ws.length <= 4) (hI : I.length <= 100) :
  Calls Tryz.prog 87 #[.pointer (some ⟨sb, 0, none⟩), .slice (some ad) ws.length cap] w fun e w' => e = .returned (.tuple #[]) /\ TAt base sb w1 rv rs (I ++ [pad4 ws]) R w' := by
 obtain ⟨iv, vs, h, hd⟩ := h
 have hm4 := make4
 have hbz := h.bz
 have HH := hide h
 have HD := hide hd
 have HA := hide ha
 obtain ⟨ai, ci, hiv, hci, -, -⟩ := ownsRow_shape h.oi
 obtain ⟨rii, hrii, hrz, hrs, hrb⟩ := rowsInfoT
 have hsl := h.sl
 clear h hd ha
 go_enter Tryz.func87, Tryz.ntmps87
 go_wp2_with (refine wpList_copy_row (by rfl) _ _ (by rfl) ws h0 h4 ad cap (by rfl) (by rfl) HA.out ?_)
 intro w2 hB2 hs2 hrow
 have HR := hide hrow
 have H2 := hide (HH.out.below hB2)
 have c1 := H2.out.c1
 rw [hiv] at c1
 have f1 := H2.out.fz 1
 clear hrow hB2
 generalize hnb : w.heap.size = nb at *
 go_wp2_with (at_builtin; refine wpList_append_own_at _ rfl _ _ 36 rfl base 54 rii (.slice none 0 0) 1 24 Tryz.underlying36 hrii hrz hrs hrb rfl (by decide) _ I.length vs rfl ?p0 ⟨nb + 1, 0, none⟩ 1 1 [.slice (some ⟨nb, 0, none⟩) 4 4] rfl rfl ?p1 ?p2 ?p3 ?p4 ?p5 ?_)
 case p0 =>
  rw [<- hiv]
  exact (H2.out.below (bRf.alloc nL _)).oi
 case p1 =>
  intro k x hk
  cases k with
  | zero =>
   cases hk
   rw [Addr.add_lit, <- hs2]
   exact World.cell?_alloc_new _ _ _ _
  | succ k => simp at hk
 case p2 =>
  intro x hx
  obtain rfl : x = .slice (some ⟨nb, 0, none⟩) 4 4 := by simpa using hx
  rfl
 case p3 => unfold maxLen; omega
 case p4 => omega
 case p5 => simp; omega
 intro v' w4 ho hg hnil hloc
 rw [<- hiv] at hg hloc
 have HH3 := hide (H2.out.below (bRf.alloc nL (.cells #[.slice (some ⟨nb, 0, none⟩) 4 4] 54)))
 have hAp : Ap sb iv rv (.slice (some ⟨nb, 0, none⟩) 4 4) := fun b e => by
  obtain rfl : nb = b := Option.some.inj e
  refine ⟨by omega, fun e2 => ?_, fun e2 => ?_⟩
  ·have := (HH.out.oi.lt _ e2).2; omega
  ·have := (HH.out.or'.lt _ e2).2; omega
 have HRW : Hid (numsOwn (w2.alloc (.cells #[.slice (some ⟨nb, 0, none⟩) 4 4] 54)) base (.slice (some ⟨nb, 0, none⟩) 4 4) (pad4 ws)) := hide (numsOwn_mono (numsOwn_keep HR.out (bRf.alloc nL _)) hbz)
 have HT : Hid (TW base sb w1 [] v' (vs ++ [.slice (some ⟨nb, 0, none⟩) 4 4]) (I ++ [pad4 ws]) rv rs R (w4.setCell ⟨sb, 1, none⟩ v')) := hide (HH3.out.addI (us := [.slice (some ⟨nb, 0, none⟩) 4 4]) (rws := [pad4 ws]) (fun k row hk => by
  match k, hk with
  | 0, hk => cases hk; exact ⟨_, rfl, HRW.out, hAp⟩) (N := nb + 1 + 1) (by simp; omega) ho hg hloc)
 have HWD : Hid (WD (vs ++ [.slice (some ⟨nb, 0, none⟩) 4 4]) rs) := hide (HD.out.addI (u := .slice (some ⟨nb, 0, none⟩) 4 4) rfl (HH.out.old (show w.heap.size <= nb by omega)).1 (HH.out.old (show w.heap.size <= nb by omega)).2)
 obtain ⟨kc, kf⟩ := HH3.out.box hg HH3.out.ni
 have d1 : w4.cell? ⟨sb, 1, none⟩ = some (.slice ai I.length ci) := by rw [kc 1, <- hiv]; exact HH3.out.c1
 have z1 := kf 1
 obtain ⟨ag, cg, rfl, -, -, -⟩ := ownsRow_shape ho
 clear ho hg hnil hloc hAp HRW kc kf c1 f1 hrii hrz hrs hrb
 go_wp2_with fail
 go_end0
 exact ⟨rfl, _, _, HT.out, HWD.out⟩
end
end
section
open Go.RowKit Go.Extern.Stop Go.Stop Go.Extern Go.Maps Go.WideMaps Go.Sort
theorem makeT8 (w : World) : (Instr.makeSlice 54 (.int .i64 8) (.int .i64 8)).run Tryz.prog w = .ok (.slice (some ⟨w.heap.size, 0, none⟩) 8 8) (w.alloc (.cells #[.int .i64 0, .int .i64 0, .int .i64 0, .int .i64 0, .int .i64 0, .int .i64 0, .int .i64 0, .int .i64 0] 3)) := by kernel_rfl
def cellsAt (ad : Option Addr) (l : List (List Int)) (w : World) : Prop := ∀ (i : Nat) row, l[i]? = some row -> ∃ b off x c, ad = some ⟨b, off, none⟩ /\ w.cell? ⟨b, off + i, none⟩ = some (.slice (some x) row.length c) /\ numsAt (some x) row w /\ 0 < row.length /\ row.length <= 4
theorem cellsAt.below {ad : Option Addr} {l : List (List Int)} {w w' : World} (h : cellsAt ad l w) (hb : Below w.heap.size w w') : cellsAt ad l w' := fun i row hr => by
 obtain ⟨b, off, x, c, e, h1, h2, h3⟩ := h i row hr
 exact ⟨b, off, x, c, e, keep_cell hb h1, h2.below hb, h3⟩
def regRow (k : Int) : List Int := [0, 0, 0, 0, 0, k, 0, 0]
theorem TAt.below {base sb : Nat} {w1 : World} {rv : Value} {rs : List Value} {I R : List (List Int)} {w w' : World} (h : TAt base sb w1 rv rs I R w) (hb : Below w.heap.size w w') : TAt base sb w1 rv rs I R w' := by
 obtain ⟨iv, vs, h1, h2⟩ := h
 exact ⟨iv, vs, h1.below hb, h2⟩
theorem TAt.low {base sb : Nat} {w1 : World} {rv : Value} {rs : List Value} {I R : List (List Int)} {w : World} (h : TAt base sb w1 rv rs I R w) : Below base w1 w := by
 obtain ⟨iv, vs, h1, h2⟩ := h
 exact h1.low
theorem TAt.first (w : World) {T : TypeId} : TAt w.heap.size w.heap.size w (.slice none 0 0) [] [] [] (w.alloc (.cells #[.int .i64 64, .slice none 0 0, .slice none 0 0] T)) := by
 refine ⟨.slice none 0 0, [], ⟨?_, ?_, ?_, fun o => World.frozen?_alloc_new _ _ _ _, World.ownsRow_nil _ _ _ _, World.ownsRow_nil _ _ _ _, fun i row h => by simp at h, fun i row h => by simp at h, fun e => (by cases e), fun e => (by cases e), fun b e => (by cases e), fun x hx => absurd hx List.not_mem_nil, bRf.alloc nL _, Nat.le_refl _, by simp⟩, ⟨fun i j u v b h => by simp at h, fun i j u v b h => by simp at h, fun i j u v b h => by simp at h⟩⟩
 ·rw [World.cell?_alloc_new]; rfl
 ·rw [World.cell?_alloc_new]; rfl
 ·rw [World.cell?_alloc_new]; rfl
theorem take_pad {l : List (List Int)} {k : Nat} {row : List Int} (h : l[k]? = some row) : (l.take (k + 1)).map pad4 = (l.take k).map pad4 ++ [pad4 row] := by
 rw [List.take_add_one, h, List.map_append]
 rfl
theorem begin_ok {n : Nat} (hn : n <= 6) {ad : Option Addr} {l : List (List Int)} {cap : Nat} {w : World} (h : cellsAt ad l w) (h0 : 0 < l.length) (hl : l.length <= 20) :
  Calls Tryz.prog 55 #[.int .i64 n, .slice ad l.length cap] w fun e w' => ∃ sb rv rs, e = .returned (.pointer (some ⟨sb, 0, none⟩)) /\ TAt w.heap.size sb w rv rs (l.map pad4) (List.replicate n (regRow l.length)) w' := by
 have HH := hide h
 have HTF := hide (TAt.first w (T := 150))
 have hm8 := makeT8
 obtain ⟨rii, hrii, hrz, hrs, hrb⟩ := rowsInfoT
 obtain ⟨m, hm⟩ : ∃ m, Hid (l.length = m) := ⟨_, hide rfl⟩
 have HPL : Hid ((l.take m).map pad4 = l.map pad4) := hide (by rw [<- hm.out, List.take_length])
 have HP0 : Hid (((l.take 0).map pad4) = []) := hide rfl
 rw [hm.out] at h0 hl ⊢
 clear h
 go_enter Tryz.func55, Tryz.ntmps55
 go_wp2_with fail
 have HT0 : Hid (TAt w.heap.size w.heap.size w (.slice none 0 0) [] ((l.take 0).map pad4) [] (w.alloc (.cells #[.int .i64 64, .slice none 0 0, .slice none 0 0] 150))) := hide (by rw [HP0.out]; exact HTF.out)
 clear HTF HP0
 go_loopw [7, 14] (fun _ i wr => ∃ k : Nat, k <= m /\ i = .int .i64 k /\ Hid (TAt w.heap.size w.heap.size w (.slice none 0 0) [] ((l.take k).map pad4) [] wr)) (fun _ i _ => m - (intOf i).toNat)
 case atStart => exact ⟨0, Nat.zero_le _, rfl, HT0⟩
 case round =>
  clear HT0
  obtain ⟨k, hk, rfl, HR⟩ := hrel
  by_cases hlt : k < m
  ·have ki : (k : Int) < m := by omega
   obtain ⟨row, hr⟩ : ∃ row, l[k]? = some row := ⟨_, List.getElem?_eq_getElem (by rw [hm.out]; exact hlt)⟩
   obtain ⟨b, off, x, c, rfl, c0, hx, h1, h4⟩ := HH.out.below HR.out.low k row hr
   have HS := hide (take_pad hr)
   have HC := hide (tcell_ok (cap := c) HR.out hx h1 h4 (by rw [List.length_map, List.length_take]; omega))
   clear hx h1 h4 hr HR
   go_wp2_with fail
   refine HC.out.mono ?_
   rintro e w2 ⟨rfl, h2⟩
   have HR2 : Hid (TAt w.heap.size w.heap.size w (.slice none 0 0) [] ((l.take (k + 1)).map pad4) [] w2) := hide (by rw [HS.out]; exact h2)
   clear HC HS h2 c0
   go_wp2_with fail
   go_roundw
   case rel => exact ⟨k + 1, by omega, by go_num, HR2⟩
   case measure => simp [intOf]; omega
  ·obtain rfl : k = m := by omega
   have HQ0 : Hid (∃ rv rs, TAt w.heap.size w.heap.size w rv rs (l.map pad4) (List.replicate 0 (regRow k)) wr) := hide ⟨_, _, by rw [<- HPL.out]; exact HR.out⟩
   have HLI : Hid ((l.map pad4).length = k) := hide (by rw [List.length_map, hm.out])
   clear HR HPL hm HH
   obtain ⟨I, hIe⟩ : ∃ I, Hid (l.map pad4 = I) := ⟨_, hide rfl⟩
   rw [hIe.out] at HQ0 HLI
   obtain ⟨W, rfl⟩ : ∃ W, W = wr := ⟨_, rfl⟩
   go_wp2_with fail
   go_loopw [8, 23] (fun _ i wr => ∃ j : Nat, j <= n /\ i = .int .i64 j /\ Hid (∃ rv rs, TAt w.heap.size w.heap.size w rv rs I (List.replicate j (regRow k)) wr)) (fun _ i _ => n - (intOf i).toNat)
   case atStart => exact ⟨0, Nat.zero_le _, rfl, HQ0⟩
   case round =>
    clear HQ0
    obtain ⟨j, hj, rfl, HR⟩ := hrel
    by_cases hlt2 : j < n
    ·have ji : (j : Int) < n := by omega
     obtain ⟨rv, rs, hT⟩ := HR.out
     have HT := hide hT
     have HLA := hide (fun W (hb : Below wr.heap.size wr W) => tlast_ok (hT.below hb) (by rw [HLI.out]; exact h0) (by rw [HLI.out]; omega))
     rw [HLI.out] at HLA
     have b1 : Below wr.heap.size wr (wr.alloc (.cells #[.int .i64 0, .int .i64 0, .int .i64 0, .int .i64 0, .int .i64 0, .int .i64 0, .int .i64 0, .int .i64 0] 3)) := bRf.alloc nL _
     have HROW : Hid (numsOwn (wr.alloc (.cells #[.int .i64 0, .int .i64 0, .int .i64 0, .int .i64 0, .int .i64 0, .int .i64 0, .int .i64 0, .int .i64 0] 3)) wr.heap.size (.slice (some ⟨wr.heap.size, 0, none⟩) 8 8) [0, 0, 0, 0, 0, 0, 0, 0]) := hide (numsOwn_new rfl nL (by decide))
     have HL1 := hide (HLA.out _ b1)
     have HB1 := hide b1
     clear hT HR HLA b1
     go_wp2_with fail
     refine HL1.out.mono ?_
     rintro e w2 ⟨rfl, hb2⟩
     have HROW2 := hide (numsOwn_keep HROW.out hb2)
     have HB2 := hide (below_step HB1.out hb2)
     have hn2 : wr.heap.size + 1 <= w2.heap.size := by have := hb2.size; simpa using this
     obtain ⟨k5, z5⟩ := numsOwn_cell HROW2.out (j := 5) (x := 0) rfl
     have HROW3 : Hid (numsOwn (w2.setCell ⟨wr.heap.size, 5, none⟩ (.int .i64 k)) wr.heap.size (.slice (some ⟨wr.heap.size, 0, none⟩) 8 8) (regRow k)) := hide (numsOwn_set HROW2.out 5 k)
     have HB3 : Hid (Below wr.heap.size wr (w2.setCell ⟨wr.heap.size, 5, none⟩ (.int .i64 k))) := hide (HB2.out.setCell nL _)
     have hn3 : wr.heap.size + 1 <= (w2.setCell ⟨wr.heap.size, 5, none⟩ (.int .i64 k)).heap.size := by simpa [World.setCell] using hn2
     clear HL1 hb2 HROW HB1 HROW2 HB2
     obtain ⟨iv, vs, hT0, hD⟩ := HT.out
     have H0 := hide hT0
     have hT := hT0.below HB3.out
     obtain ⟨ar, cr, hrv, hcr, -, -⟩ := ownsRow_shape hT.or'
     rw [List.length_replicate] at hrv hcr
     have e2 := hT.c2
     rw [hrv] at e2
     have z2 := hT.fz 2
     have HT3 := hide hT
     have HD3 := hide hD
     clear hT hD hT0
     generalize hW3 : w2.setCell ⟨wr.heap.size, 5, none⟩ (.int .i64 k) = W3 at *
     go_wp2_with (at_builtin; refine wpList_append_own_at _ rfl _ _ 36 rfl w.heap.size 54 rii (.slice none 0 0) 1 24 Tryz.underlying36 hrii hrz hrs hrb rfl (by decide) _ j rs rfl ?p0 ⟨W3.heap.size, 0, none⟩ 1 1 [.slice (some ⟨wr.heap.size, 0, none⟩) 8 8] rfl rfl ?p1 ?p2 ?p3 ?p4 ?p5 ?_)
     case p0 =>
      have := (HT3.out.below (bRf.alloc nL (.cells #[.slice (some ⟨wr.heap.size, 0, none⟩) 8 8] 54))).or'
      rw [List.length_replicate, hrv] at this
      exact this
     case p1 =>
      intro q x hq
      cases q with
      | zero => cases hq; rw [Addr.add_lit]; exact World.cell?_alloc_new _ _ _ _
      | succ q => simp at hq
     case p2 =>
      intro x hx
      obtain rfl : x = .slice (some ⟨wr.heap.size, 0, none⟩) 8 8 := by simpa using hx
      rfl
     case p3 => unfold maxLen; omega
     case p4 => omega
     case p5 => have := HT3.out.bz; simp; omega
     intro v' w4 ho hg hnil hloc
     rw [<- hrv] at hg hloc
     have HH3 := hide (HT3.out.below (bRf.alloc nL (.cells #[.slice (some ⟨wr.heap.size, 0, none⟩) 8 8] 54)))
     have hAp : Ap w.heap.size iv rv (.slice (some ⟨wr.heap.size, 0, none⟩) 8 8) := fun b e => by
      obtain rfl : wr.heap.size = b := Option.some.inj e
      refine ⟨by have := H0.out.sl; omega, fun e2 => ?_, fun e2 => ?_⟩
      ·have := (H0.out.oi.lt _ e2).2; omega
      ·have := (H0.out.or'.lt _ e2).2; omega
     have HRW : Hid (numsOwn (W3.alloc (.cells #[.slice (some ⟨wr.heap.size, 0, none⟩) 8 8] 54)) w.heap.size (.slice (some ⟨wr.heap.size, 0, none⟩) 8 8) (regRow k)) := hide (numsOwn_mono (numsOwn_keep HROW3.out (bRf.alloc nL _)) H0.out.bz)
     have ho' : w4.ownsRow w.heap.size 54 1 v' ((List.replicate j (regRow k)).length + [regRow k].length) (rs ++ [.slice (some ⟨wr.heap.size, 0, none⟩) 8 8]) := by
      rw [List.length_replicate]
      exact ho
     have HT4 : Hid (TAt w.heap.size w.heap.size w v' (rs ++ [.slice (some ⟨wr.heap.size, 0, none⟩) 8 8]) I (List.replicate (j + 1) (regRow k)) (w4.setCell ⟨w.heap.size, 2, none⟩ v')) := hide (by
      refine ⟨iv, vs, ?_, HD3.out.addR (u := .slice (some ⟨wr.heap.size, 0, none⟩) 8 8) rfl (H0.out.old (show wr.heap.size <= wr.heap.size from Nat.le_refl _)).1 (H0.out.old (show wr.heap.size <= wr.heap.size from Nat.le_refl _)).2⟩
      have := HH3.out.addR (us := [.slice (some ⟨wr.heap.size, 0, none⟩) 8 8]) (rws := [regRow k]) (fun q row hq => by
       match q, hq with
       | 0, hq => cases hq; exact ⟨_, rfl, HRW.out, hAp⟩) (N := (W3.alloc (.cells #[.slice (some ⟨wr.heap.size, 0, none⟩) 8 8] 54)).heap.size) nL ho' hg (by simpa using hloc)
      rw [List.replicate_succ']
      exact this)
     obtain ⟨kc, kf⟩ := HH3.out.box hg HH3.out.nr
     have d2 : w4.cell? ⟨w.heap.size, 2, none⟩ = some (.slice ar j cr) := by rw [kc 2, <- hrv]; exact HH3.out.c2
     have z2' := kf 2
     obtain ⟨ag, cg, rfl, -, -, -⟩ := ownsRow_shape ho
     clear ho ho' hg hnil hloc hAp HRW kc kf e2 z2 k5 z5 hrii hrz hrs hrb
     go_wp2_with fail
     go_roundw
     case rel => exact ⟨j + 1, by omega, by go_num, hide ⟨_, _, HT4.out⟩⟩
     case measure => simp [intOf]; omega
    ·obtain rfl : j = n := by omega
     obtain ⟨rv, rs, hT⟩ := HR.out
     have HT := hide hT
     clear hT HR
     go_wp2_with fail
     go_ret
     exact ⟨_, rv, rs, rfl, by rw [hIe.out]; exact HT.out⟩
section
variable {base sb : Nat} {w1 : World} {rv : Value} {rs : List Value} {I R : List (List Int)} {w : World}
theorem TAt.rowI (h : TAt base sb w1 rv rs I R w) {i : Nat} {row : List Int} (hi : I[i]? = some row) (h0 : 0 < row.length) : ∃ ai ci g c, w.cell? ⟨sb, 1, none⟩ = some (.slice (some ⟨ai, 0, none⟩) I.length ci) /\ w.cell? ⟨ai, i, none⟩ = some (.slice (some ⟨g, 0, none⟩) row.length c) /\ (∀ j x, row[j]? = some x -> w.cell? ⟨g, j, none⟩ = some (.int .i64 x)) /\ (∀ o, w.frozen? ⟨g, o, none⟩ = false) /\ ∀ w3, Below w.heap.size w w3 -> ∀ j x, TAt base sb w1 rv rs (I.set i (row.set j x)) R (w3.setCell ⟨g, j, none⟩ (.int .i64 x)) := by
 obtain ⟨iv, vs, hT, hD⟩ := h
 obtain ⟨ai, ci, e, hc, -, h3⟩ := ownsRow_shape hT.oi
 obtain ⟨u, k1, k2, -⟩ := hT.ei i row hi
 obtain ⟨ga, eg, cg⟩ := h3 i u k1
 obtain ⟨g, c, rfl, -, -, -⟩ := numsOwn_form k2 h0
 subst eg
 have k2' := k2
 rcases k2' with ⟨-, ⟨e0, -⟩ | ⟨g', c', cur, e0, -, hg, -⟩⟩
 ·cases e0
 ·cases e0
  exact ⟨ga, ci, g, c, by rw [<- e]; exact hT.c1, cg, fun j x hx => (numsOwn_cell k2 hx).1, fun o => frozen_of_row _ _ _ _ _ hg, fun w3 hb j x => ⟨iv, vs, (hT.below hb).setI hD hi k1 j x, hD⟩⟩
theorem TAt.rowR (h : TAt base sb w1 rv rs I R w) {i : Nat} {row : List Int} (hi : R[i]? = some row) (h0 : 0 < row.length) : ∃ ai ci g c, rv = .slice (some ⟨ai, 0, none⟩) R.length ci /\ w.cell? ⟨ai, i, none⟩ = some (.slice (some ⟨g, 0, none⟩) row.length c) /\ (rs[i]? = some (.slice (some ⟨g, 0, none⟩) row.length c)) /\ (∀ j x, row[j]? = some x -> w.cell? ⟨g, j, none⟩ = some (.int .i64 x)) /\ (∀ o, w.frozen? ⟨g, o, none⟩ = false) /\ ∀ w3, Below w.heap.size w w3 -> ∀ j x, TAt base sb w1 rv rs I (R.set i (row.set j x)) (w3.setCell ⟨g, j, none⟩ (.int .i64 x)) := by
 obtain ⟨iv, vs, hT, hD⟩ := h
 obtain ⟨ai, ci, e, hc, -, h3⟩ := ownsRow_shape hT.or'
 obtain ⟨u, k1, k2, -⟩ := hT.er i row hi
 obtain ⟨ga, eg, cg⟩ := h3 i u k1
 obtain ⟨g, c, rfl, -, -, -⟩ := numsOwn_form k2 h0
 subst eg
 have k2' := k2
 rcases k2' with ⟨-, ⟨e0, -⟩ | ⟨g', c', cur, e0, -, hg, -⟩⟩
 ·cases e0
 ·cases e0
  exact ⟨ga, ci, g, c, e, cg, k1, fun j x hx => (numsOwn_cell k2 hx).1, fun o => frozen_of_row _ _ _ _ _ hg, fun w3 hb j x => ⟨iv, vs, (hT.below hb).setR hD hi k1 j x, hD⟩⟩
theorem TAt.head (h : TAt base sb w1 rv rs I R w) : ∃ ai ci, w.cell? ⟨sb, 1, none⟩ = some (.slice ai I.length ci) := by
 obtain ⟨iv, vs, hT, hD⟩ := h
 obtain ⟨ai, ci, e, hc, -, h3⟩ := ownsRow_shape hT.oi
 exact ⟨ai, ci, by rw [<- e]; exact hT.c1⟩
end
def linked (I : List (List Int)) (b : Nat) : Nat -> List (List Int)
 | 0 => I
 | k + 1 => (linked I b k).set (b + k) (((linked I b k).getD (b + k) []).set 1 ((b + k : Nat) + 2))
theorem linked_length (I : List (List Int)) (b : Nat) : ∀ k : Nat, (linked I b k).length = I.length
 | 0 => rfl
 | k + 1 => by
  show ((linked I b k).set _ _).length = _
  rw [List.length_set, linked_length I b k]
theorem linked_rows {I : List (List Int)} {b : Nat} (h : ∀ row ∈ I, row.length = 4) : ∀ k : Nat, ∀ row ∈ linked I b k, row.length = 4
 | 0, row, hr => h row hr
 | k + 1, row, hr => by
  obtain ⟨i, hi, rfl⟩ := List.getElem_of_mem hr
  have h1 : (linked I b (k + 1))[i]? = some (linked I b (k + 1))[i] := List.getElem?_eq_getElem hi
  rcases get_set h1 with ⟨e, e2⟩ | ⟨-, e2⟩
  ·rw [e2, List.length_set]
   have hl : b + k < (linked I b k).length := by rw [linked_length]; rw [linked_length] at hi; omega
   rw [List.getD_eq_getElem?_getD, List.getElem?_eq_getElem hl]
   exact linked_rows h k _ (List.getElem_mem hl)
  ·exact linked_rows h k _ (List.mem_of_getElem? e2)
theorem chain_yes {base sb : Nat} {w1 : World} {rv : Value} {rs : List Value} {I R : List (List Int)} {w : World} (h : TAt base sb w1 rv rs I R w) {f b n : Nat} (hf : 1 <= f /\ f <= 4) (h4 : f ≠ 4) (hI : I.length = b + 1 + n) (hI2 : I.length <= 60) (hrow : ∀ row ∈ I, row.length = 4) :
  Calls Tryz.prog 91 #[.pointer (some ⟨sb, 0, none⟩), .int .i64 f, .int .i64 ((b + 1 : Nat) : Int)] w fun e w' => e = .returned .nilIface /\ TAt base sb w1 rv rs (linked I b n) R w' := by
 have HK := hide (link_ok hf w)
 rw [show linkX f = 1 from if_neg h4] at HK
 have H0 : Hid (TAt base sb w1 rv rs (linked I b 0) R w) := hide h
 have HLL := hide (linked_length I b)
 have HLR := hide (fun k => linked_rows (b := b) hrow k)
 have HNM := hide (fun (c : Nat) (hc : c < 64) w => tname_ok c hc w)
 clear h hf h4 hrow
 generalize (f : Int) = fi at *
 go_enter Tryz.func91, Tryz.ntmps91
 go_wp2_with fail
 refine HK.out.mono ?_
 rintro e w2 ⟨rfl, rfl⟩
 clear HK
 go_wp2_with fail
 go_loopw [7, 9] (fun l i wr => ∃ k : Nat, k <= n /\ l = .int .i64 1 /\ i = .int .i64 ((b + 1 + k : Nat) : Int) /\ Hid (TAt base sb w1 rv rs (linked I b k) R wr)) (fun _ i _ => b + 1 + n - (intOf i).toNat)
 case atStart => exact ⟨0, Nat.zero_le _, rfl, rfl, H0⟩
 case round =>
  clear H0
  obtain ⟨k, hk, rfl, rfl, HR⟩ := hrel
  have hlen := HLL.out k
  rw [hI] at hlen
  by_cases hlt : k < n
  ·have hb : b + k < (linked I b k).length := by omega
   obtain ⟨row, hr⟩ : ∃ row, (linked I b k)[b + k]? = some row := ⟨_, List.getElem?_eq_getElem hb⟩
   have hr4 := HLR.out k row (List.mem_of_getElem? hr)
   obtain ⟨ai, ci, g, c, c1, c2, c3, c4, c5⟩ := HR.out.rowI hr (by omega)
   rw [hlen] at c1
   rw [hr4] at c2
   have ki : ((b + 1 + k : Nat) : Int) < ((b + 1 + n : Nat) : Int) := by omega
   have wr1 : IntKind.i64.wrap (((b + 1 + k : Nat) : Int) - 1) = ((b + k : Nat) : Int) := by rw [IntKind.wrap_i64]; omega
   have wr2 : IntKind.i64.wrap (((b + 1 + k : Nat) : Int) + 1) = ((b + 1 + (k + 1) : Nat) : Int) := by rw [IntKind.wrap_i64]; omega
   have bi : ((b + k : Nat) : Int) < ((b + 1 + n : Nat) : Int) := by omega
   obtain ⟨x1, hx1⟩ : ∃ x, row[1]? = some x := ⟨_, List.getElem?_eq_getElem (by omega)⟩
   have z1 := c4 1
   have d1 := c3 1 x1 hx1
   have HC := hide (HNM.out (b + 1 + k) (by omega))
   have hx2 : (((b + 1 + k : Nat) : Int) + 1) = ((b + k : Nat) : Int) + 2 := by omega
   rw [hx2] at HC
   have HST : Hid (∀ w3, Below wr.heap.size wr w3 -> TAt base sb w1 rv rs (linked I b (k + 1)) R (w3.setCell ⟨g, 1, none⟩ (.int .i64 (((b + k : Nat) : Int) + 2)))) := hide (fun w3 hb3 => by
    have h6 := c5 w3 hb3 1 (((b + k : Nat) : Int) + 2)
    have e : linked I b (k + 1) = (linked I b k).set (b + k) (row.set 1 (((b + k : Nat) : Int) + 2)) := by
     show (linked I b k).set (b + k) (((linked I b k).getD (b + k) []).set 1 _) = _
     rw [List.getD_eq_getElem?_getD, hr]
     rfl
    rw [e]
    exact h6)
   clear c3 c4 c5 hx2
   obtain ⟨q, hq⟩ : ∃ q, Hid (b + 1 + k = q) := ⟨_, hide rfl⟩
   obtain ⟨p, hp⟩ : ∃ p, Hid (b + k = p) := ⟨_, hide rfl⟩
   obtain ⟨N, hN⟩ : ∃ N, Hid (b + 1 + n = N) := ⟨_, hide rfl⟩
   rw [hq.out] at ki wr1 wr2 HC ⊢
   rw [hp.out] at wr1 bi c2 HC HST
   rw [hN.out] at ki bi c1
   have p0 : ¬ (p : Int) < 0 := by omega
   go_wp2_with fail
   go_region_with (go_at_call 38; refine (HC.out _).mono ?_; rintro e w3 ⟨rfl, hb3⟩; (have c1' := keep_cell hb3 c1); (have c2' := keep_cell hb3 c2); (have d1' := keep_cell hb3 d1); (have z1' := (hb3.frozen (bLt d1)).trans z1))
   all_goals
    have HN3 := hide (HST.out w3 (by first | exact hb3 | exact below_step (bRf.drew) hb3))
    clear HST
    go_wp2_with fail
    go_roundw
    case rel => exact ⟨k + 1, by omega, rfl, (by first | (push_cast; rfl) | (simp; done)), HN3⟩
    case measure => have hq2 := hq.out; simp [intOf]; omega
  ·obtain rfl : k = n := by omega
   obtain ⟨ai, ci, c1⟩ := HR.out.head
   rw [hlen] at c1
   go_wp2_with fail
   go_ret
   exact ⟨rfl, HR.out⟩
end
section
open Go.RowKit Go.Extern.Stop Go.Stop Go.Extern Go.Maps Go.WideMaps Go.Sort
theorem TAt.regs {base sb : Nat} {w1 : World} {rv : Value} {rs : List Value} {I R : List (List Int)} {w : World} (h : TAt base sb w1 rv rs I R w) : w.cell? ⟨sb, 2, none⟩ = some rv /\ ∃ ar cr, rv = .slice ar R.length cr := by
 obtain ⟨iv, vs, hT, hD⟩ := h
 obtain ⟨ar, cr, e, -⟩ := ownsRow_shape hT.or'
 exact ⟨hT.c2, ar, cr, e⟩
theorem chain_no {f : Nat} (hf : f = 4) (sb : Nat) (b : Int) (w : World) :
  Calls Tryz.prog 91 #[.pointer (some ⟨sb, 0, none⟩), .int .i64 f, .int .i64 b] w fun e w' => e = .returned .nilIface /\ w' = w := by
 have HK := hide (link_ok (f := f) (by omega) w)
 rw [show linkX f = -1 from if_pos hf] at HK
 clear hf
 generalize (f : Int) = fi at *
 go_enter Tryz.func91, Tryz.ntmps91
 go_wp2_with fail
 refine HK.out.mono ?_
 rintro e w2 ⟨rfl, rfl⟩
 go_wp2_with fail
 go_ret
 exact ⟨rfl, rfl⟩
def ownRow (f : Nat) : List Int := [ownX f, 0, 0, 0]
def graceJ (f : Nat) (I : List (List Int)) (k : Nat) : List (List Int) := I ++ [[1, 0, 0, 0]] ++ List.replicate k (ownRow f)
theorem graceJ_succ (f : Nat) (I : List (List Int)) (k : Nat) : graceJ f I (k + 1) = graceJ f I k ++ [ownRow f] := by
 unfold graceJ
 rw [List.replicate_succ', <- List.append_assoc]
theorem graceJ_len (f : Nat) (I : List (List Int)) (k : Nat) : (graceJ f I k).length = I.length + 1 + k := by
 unfold graceJ
 simp
 omega
def graceI (f : Nat) (I : List (List Int)) (n : Nat) : List (List Int) := if f = 4 then graceJ f I n else linked (graceJ f I n) I.length n
def regG (m t : Nat) : List Int := [0, 0, 0, 0, 0, (m : Int), (m : Int) + 2 + t, (m : Int) + 1]
def rowsG (m n k : Nat) : List (List Int) := (List.range n).map fun t => if t < k then regG m t else regRow m
theorem rowsG_zero (m n : Nat) : rowsG m n 0 = List.replicate n (regRow m) := by
 unfold rowsG
 rw [List.eq_replicate_iff]
 refine ⟨by simp, fun b hb => ?_⟩
 obtain ⟨t, -, rfl⟩ := List.mem_map.1 hb
 simp
theorem rowsG_len (m n k : Nat) : (rowsG m n k).length = n := by simp [rowsG]
theorem rowsG_get {m n k t : Nat} (ht : t < n) : (rowsG m n k)[t]? = some (if t < k then regG m t else regRow m) := by
 unfold rowsG
 rw [List.getElem?_map, List.getElem?_range ht]
 rfl
theorem rowsG_succ {m n k : Nat} (hk : k < n) {x : List Int} : ((rowsG m n k).set k x).set k (regG m k) = rowsG m n (k + 1) := List.ext_getElem? fun i => by
 by_cases hi : i < n
 ·by_cases e : i = k
  ·subst e
   rw [List.getElem?_set_self (by rw [List.length_set, rowsG_len]; exact hi), rowsG_get hi, if_pos (Nat.lt_succ_self _)]
  ·rw [List.getElem?_set_ne (Ne.symm e), List.getElem?_set_ne (Ne.symm e), rowsG_get hi, rowsG_get hi]
   have : (i < k + 1) = (i < k) := by simp only [eq_iff_iff]; omega
   simp only [this]
 ·rw [List.getElem?_eq_none (by rw [List.length_set, List.length_set, rowsG_len]; omega), List.getElem?_eq_none (by rw [rowsG_len]; omega)]
theorem grace_ok {base sb : Nat} {w1 : World} {rv : Value} {rs : List Value} {I : List (List Int)} {w : World} {f m n : Nat} (h : TAt base sb w1 rv rs I (List.replicate n (regRow m)) w) (hf : 1 <= f /\ f <= 4) (hm : I.length = m) (hm20 : m <= 20) (hn : n <= 6) (hrow : ∀ row ∈ I, row.length = 4) :
  Calls Tryz.prog 56 #[.pointer (some ⟨sb, 0, none⟩), .int .i64 f] w fun e w' => e = .returned .nilIface /\ TAt base sb w1 rv rs (graceI f I n) (rowsG m n n) w' := by
 have HH := hide h
 have HHB := hide (hub_ok hf w)
 have HOW := hide (fun w => own_ok hf w)
 have HNM := hide (fun w => tname_ok m (by omega) w)
 have HCH : Hid (∀ w, TAt base sb w1 rv rs (graceJ f I n) (rowsG m n n) w -> Calls Tryz.prog 91 #[.pointer (some ⟨sb, 0, none⟩), .int .i64 f, .int .i64 ((m + 1 : Nat) : Int)] w fun e w' => e = .returned .nilIface /\ TAt base sb w1 rv rs (graceI f I n) (rowsG m n n) w') := hide fun w ht => by
  by_cases h4 : f = 4
  ·refine (chain_no h4 sb _ w).mono ?_
   rintro e w' ⟨rfl, rfl⟩
   refine ⟨rfl, ?_⟩
   unfold graceI
   rw [if_pos h4]
   exact ht
  ·have := chain_yes ht hf h4 (b := m) (n := n) (by rw [graceJ_len, hm]) (by rw [graceJ_len, hm]; omega) (fun row hr => by
    unfold graceJ at hr
    simp only [List.mem_append, List.mem_singleton] at hr
    rcases hr with (hr | rfl) | hr
    ·exact hrow row hr
    ·rfl
    ·rw [List.eq_of_mem_replicate hr]; rfl)
   unfold graceI
   rw [if_neg h4, hm]
   exact this
 have HJ0 : Hid (graceJ f I 0 = I ++ [pad4 [1, 0, 0, 0]]) := hide (by unfold graceJ; simp; rfl)
 have HJS : Hid (∀ k, graceJ f I k ++ [pad4 [ownX f, 0, 0, 0]] = graceJ f I (k + 1)) := hide fun k => (graceJ_succ f I k).symm
 have HJL : Hid (∀ k, (graceJ f I k).length = m + 1 + k) := hide fun k => by rw [graceJ_len, hm]
 have HR0 := hide (rowsG_zero m n)
 have HGS := hide (fun (k : Nat) (hk : k < n) (x : List Int) => rowsG_succ (m := m) hk (x := x))
 have HGG := hide (fun (k : Nat) (hk : k < n) => rowsG_get (m := m) (k := k) hk)
 have HIL := hide hm
 clear h hrow hm
 generalize ownX f = ox at *
 generalize hfi : (f : Int) = fi at *
 clear hf hfi
 go_enter Tryz.func56, Tryz.ntmps56
 go_wp2_with fail
 refine HHB.out.mono ?_
 rintro e w2 ⟨v, rfl, hv, hb2⟩
 obtain ⟨adh, ch, rfl, hat⟩ := numsOwn_open hv (by decide)
 have HC := hide (tcell_ok (cap := ch) (HH.out.below hb2) hat (by decide) (by decide) (by rw [HIL.out]; omega))
 clear hv hb2 hat HHB HH
 go_wp2_with fail
 refine HC.out.mono ?_
 rintro e w3 ⟨rfl, h3⟩
 rw [<- HJ0.out, <- HR0.out] at h3
 have H3 := hide h3
 obtain ⟨ai, ci, c1⟩ := h3.head
 rw [HJL.out 0, Nat.add_zero] at c1
 obtain ⟨c2, ar, cr, hrv⟩ := h3.regs
 rw [rowsG_len] at hrv
 have HRV := hide hrv
 rw [hrv] at c2
 obtain ⟨q, hq⟩ : ∃ q, Hid (m + 1 = q) := ⟨_, hide rfl⟩
 rw [hq.out] at c1 HCH
 have wr0 : IntKind.i64.wrap ((q : Int) - 1) = (m : Int) := by have := hq.out; rw [IntKind.wrap_i64]; omega
 clear h3 HC HJ0 HR0
 go_wp2_with fail
 go_loopw [5, 6, 9, 33] (fun _ _ _ i wr => ∃ k : Nat, k <= n /\ i = .int .i64 k /\ Hid (TAt base sb w1 rv rs (graceJ f I k) (rowsG m n k) wr)) (fun _ _ _ i _ => n - (intOf i).toNat)
 case atStart => exact ⟨0, Nat.zero_le _, rfl, H3⟩
 case round =>
  clear H3
  obtain ⟨k, hk, rfl, HR⟩ := hrel
  by_cases hlt : k < n
  ·have ki : (k : Int) < n := by omega
   have hg := HGG.out k hlt
   rw [if_neg (Nat.lt_irrefl _)] at hg
   obtain ⟨ga, gc, g, c, e1, d1, rsk, d3, d4, d5⟩ := HR.out.rowR hg (show 0 < 8 by decide)
   rw [HRV.out, rowsG_len] at e1
   cases e1
   have d1' : wr.cell? ⟨ga, k, none⟩ = some (.slice (some ⟨g, 0, none⟩) 8 c) := d1
   have k7 : wr.cell? ⟨g, 7, none⟩ = some (.int .i64 0) := d3 7 0 rfl
   have z7 := d4 7
   have HST := hide d5
   have HRS := hide rsk
   clear d1 d3 d4 d5 rsk hg HR
   go_wp2_with fail
   refine (HNM.out _).mono ?_
   rintro e w4 ⟨rfl, hb4⟩
   replace z7 := (hb4.frozen (show (⟨g, 7, none⟩ : Addr).block < _ from bLt k7)).trans z7
   replace k7 := keep_cell hb4 k7
   have H5 := hide (HST.out w4 hb4 7 ((m : Int) + 1))
   have HOW5 := hide (HOW.out (w4.setCell ⟨g, 7, none⟩ (.int .i64 ((m : Int) + 1))))
   clear HST hb4 d1'
   go_wp2_with fail
   generalize w4.setCell ⟨g, 7, none⟩ (.int .i64 ((m : Int) + 1)) = w5 at *
   refine HOW5.out.mono ?_
   rintro e w6 ⟨v6, rfl, hv6, hb6⟩
   obtain ⟨ad6, c6, rfl, hat6⟩ := numsOwn_open hv6 (show 0 < 4 by decide)
   have HC6 := hide (tcell_ok (cap := c6) (H5.out.below hb6) hat6 (show 0 < 4 by decide) (show 4 <= 4 by decide) (by rw [HJL.out]; omega))
   clear hv6 hb6 hat6 HOW5 H5 k7 z7
   go_wp2_with fail
   refine HC6.out.mono ?_
   rintro e w7 ⟨rfl, h7⟩
   rw [HJS.out] at h7
   have hL := tlast_ok h7 (by rw [HJL.out]; omega) (by rw [HJL.out]; omega)
   rw [HJL.out] at hL
   have HL7 := hide hL
   have hg2 : ((rowsG m n k).set k ((regRow m).set 7 ((m : Int) + 1)))[k]? = some ((regRow m).set 7 ((m : Int) + 1)) := List.getElem?_set_self (by rw [rowsG_len]; exact hlt)
   obtain ⟨ga2, gc2, g2, cc2, -, -, rsk2, d3, d4, d5⟩ := h7.rowR hg2 (show 0 < 8 by decide)
   rw [HRS.out] at rsk2
   obtain ⟨rfl, -, rfl⟩ : g = g2 /\ 8 = 8 /\ c = cc2 := by
    have := Option.some.inj rsk2
    cases this
    exact ⟨rfl, rfl, rfl⟩
   have k6 : w7.cell? ⟨g, 6, none⟩ = some (.int .i64 0) := d3 6 0 rfl
   have z6 := d4 6
   have hvq : (((m + 1 + (k + 1) : Nat)) : Int) = (m : Int) + 2 + k := by omega
   rw [hvq] at HL7
   have HN9 : Hid (∀ w8, Below w7.heap.size w7 w8 -> TAt base sb w1 rv rs (graceJ f I (k + 1)) (rowsG m n (k + 1)) (w8.setCell ⟨g, 6, none⟩ (.int .i64 ((m : Int) + 2 + k)))) := hide fun w8 hb8 => by
    have := d5 w8 hb8 6 ((m : Int) + 2 + k)
    rw [show ((regRow m).set 7 ((m : Int) + 1)).set 6 ((m : Int) + 2 + k) = regG m k from rfl, HGS.out k hlt] at this
    exact this
   clear h7 hL hg2 rsk2 d3 d4 d5 HC6 HRS hvq
   go_wp2_with fail
   refine HL7.out.mono ?_
   rintro e w8 ⟨rfl, hb8⟩
   replace z6 := (hb8.frozen (show (⟨g, 6, none⟩ : Addr).block < _ from bLt k6)).trans z6
   replace k6 := keep_cell hb8 k6
   have HR9 := hide (HN9.out w8 hb8)
   clear HN9 hb8 HL7
   go_wp2_with fail
   go_roundw
   case rel => exact ⟨k + 1, by omega, by go_num, HR9⟩
   case measure => simp [intOf]; omega
  ·obtain rfl : k = n := by omega
   have HC2 := hide (HCH.out wr HR.out)
   clear HR HCH
   go_wp2_with fail
   refine HC2.out.mono ?_
   rintro e w4 ⟨rfl, h4⟩
   go_wp2_with fail
   go_ret
   exact ⟨rfl, h4⟩
end
end Go.Proofs.YtaiigfcfmcicjaaGreatDoor
