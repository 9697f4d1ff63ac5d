import Derived.Test.YtdpmnlbnlnmjbaaGreatDoorK32
import Derived.Deep.RegionLaw
import Derived.Test.YtdpmnlbnlnmjbaaGreatDoorK31
import Derived.Test.YtdpmnlbnlnmjbaaGreatDoorK26
import Derived.Test.YtdpmnlbnlnmjbaaGreatDoorK20

/- RsF -/
namespace Go.Proofs.YtdpmnlbnlnmjbaaGreatDoor
open Go.RowKit Go.Extern.Stop Go.Stop Go.Extern Go.Maps Go.WideMaps Go.Sort

theorem Nm1.start {w0 w : World} {bs k : Nat} {sv : Array Value} {mb : Nat} {s : Sta} {cs : List (List Ins)} {sr : Value} {rp : RmPl} {R : Rm} {W : World} (h : Nm1 w bs k sv #[.pointer (some ⟨mb, 0, none⟩), .slice none 0 0, .slice none 0 0, .int .i64 0] mb rp R W) (hs : sv[2]? = some sr) (hk : k ≠ bs) (h0 : Below w0.heap.size w0 w) : Nm2 w0 w bs k s cs sr rp R [] (.slice none 0 0) W := by
  have ck : ∀ o u, (#[.pointer (some ⟨mb, 0, none⟩), .slice none 0 0, .slice none 0 0, .int .i64 0] : Array Value)[o]? = some u → W.cell? ⟨k, o, none⟩ = some u := fun o u hu => by
    simp [World.cell?, h.bk, hu]
  refine ⟨h.mem, h.fp, h.gk, h.gs, hk, by rw [h.emb]; exact ck 0 _ rfl, ck 1 _ rfl, ck 2 _ rfl, ck 3 _ rfl, fun o => by simp [World.frozen?, h.bk], ?_, h.bw, World.ownsRow_nil _ _ _ _, fun b e => (by cases e), h0, fun t x hx => (by simp at hx), fun t x hx => (by simp at hx), fun t x hx => (by simp at hx), fun t u x y hx => (by simp at hx)⟩
  simp [World.cell?, h.bb, hs]

structure ThrAt (wr : World) (rb bx : Nat) (A : Value) (f : Nat → Int) (W : World) : Prop where
  b : Below wr.heap.size wr W
  gr : wr.heap.size ≤ rb
  gx : wr.heap.size ≤ bx
  ne : bx ≠ rb
  x0 : W.cell? ⟨bx, 0, none⟩ = some A
  x1 : W.cell? ⟨bx, 1, none⟩ = some (.slice (some ⟨rb, 0, none⟩) 8 8)
  x2 : W.cell? ⟨bx, 2, none⟩ = some (.int .i64 0)
  reg : ∀ r, r < 8 → W.cell? ⟨rb, r, none⟩ = some (.int .i64 (f r))
  fz : ∀ o, W.frozen? ⟨rb, o, none⟩ = false
theorem zero8 {r : Nat} (hr : r < 8) : (#[.int .i64 0, .int .i64 0, .int .i64 0, .int .i64 0, .int .i64 0, .int .i64 0, .int .i64 0, .int .i64 0] : Array Value)[r]? = some (.int .i64 0) := by
  match r, hr with
  | 0, _ => rfl
  | 1, _ => rfl
  | 2, _ => rfl
  | 3, _ => rfl
  | 4, _ => rfl
  | 5, _ => rfl
  | 6, _ => rfl
  | 7, _ => rfl
theorem cell_two (w : World) (C D : Array Value) (ty uy : TypeId) (o : Nat) (u : Value) (h : C[o]? = some u) : ((w.alloc (.cells C ty)).alloc (.cells D uy)).cell? ⟨w.heap.size, o, none⟩ = some u := by
  have := (blk3 w (.cells C ty) (.cells D uy) (.cells D uy))
  rw [cell_new (w := w.alloc (.cells C ty)) (v := u)]
  rw [World.cell?_alloc_new]; exact h
theorem cell_two' (w : World) (C D : Array Value) (ty uy : TypeId) (o : Nat) (u : Value) (h : D[o]? = some u) : ((w.alloc (.cells C ty)).alloc (.cells D uy)).cell? ⟨w.heap.size + 1, o, none⟩ = some u := by
  have e : (w.alloc (.cells C ty)).heap.size = w.heap.size + 1 := by simp
  rw [← e, World.cell?_alloc_new]; exact h
theorem fz_two (w : World) (C D : Array Value) (ty uy : TypeId) (o : Nat) : ((w.alloc (.cells C ty)).alloc (.cells D uy)).frozen? ⟨w.heap.size, o, none⟩ = false := by
  have hb := (Below.refl (w.alloc (.cells C ty)).heap.size (w.alloc (.cells C ty))).alloc (Nat.le_refl _) (.cells D uy)
  have e := (hb.block w.heap.size (by simp)).trans (heap_new w (.cells C ty))
  simp [World.frozen?, e]
theorem fz_two' (w : World) (C D : Array Value) (ty uy : TypeId) (o : Nat) : ((w.alloc (.cells C ty)).alloc (.cells D uy)).frozen? ⟨w.heap.size + 1, o, none⟩ = false := by
  have h := heap_new (w.alloc (.cells C ty)) (.cells D uy)
  rw [show (w.alloc (.cells C ty)).heap.size = w.heap.size + 1 by simp] at h
  generalize (w.alloc (.cells C ty)).alloc (.cells D uy) = W at h ⊢
  simp [World.frozen?, h]
theorem ThrAt.of1 (wr : World) (A : Value) : ThrAt wr wr.heap.size (wr.heap.size + 1) A (fun _ => 0) ((wr.alloc (.cells #[.int .i64 0, .int .i64 0, .int .i64 0, .int .i64 0, .int .i64 0, .int .i64 0, .int .i64 0, .int .i64 0] 3)).alloc (.cells #[A, .slice (some ⟨wr.heap.size, 0, none⟩) 8 8, .int .i64 0] 57)).drew where
  b := (((Below.refl _ _).alloc (Nat.le_refl _) _).alloc (by simp) _).drew
  gr := Nat.le_refl _
  gx := Nat.le_succ _
  ne := by omega
  x0 := cell_two' _ _ _ _ _ 0 _ rfl
  x1 := cell_two' _ _ _ _ _ 1 _ rfl
  x2 := cell_two' _ _ _ _ _ 2 _ rfl
  reg r hr := cell_two _ _ _ _ _ r _ (zero8 hr)
  fz o := fz_two _ _ _ _ _ o
theorem ThrAt.of2 (wr : World) (A : Value) : ThrAt wr (wr.heap.size + 1) wr.heap.size A (fun _ => 0) ((wr.alloc (.cells #[A, .slice (some ⟨wr.heap.size + 1, 0, none⟩) 8 8, .int .i64 0] 57)).alloc (.cells #[.int .i64 0, .int .i64 0, .int .i64 0, .int .i64 0, .int .i64 0, .int .i64 0, .int .i64 0, .int .i64 0] 3)).drew where
  b := (((Below.refl _ _).alloc (Nat.le_refl _) _).alloc (by simp) _).drew
  gr := Nat.le_succ _
  gx := Nat.le_refl _
  ne := by omega
  x0 := cell_two _ _ _ _ _ 0 _ rfl
  x1 := cell_two _ _ _ _ _ 1 _ rfl
  x2 := cell_two _ _ _ _ _ 2 _ rfl
  reg r hr := cell_two' _ _ _ _ _ r _ (zero8 hr)
  fz o := fz_two' _ _ _ _ _ o
theorem ThrAt.copy {wr : World} {rb bx : Nat} {A : Value} {W : World} (h : ThrAt wr rb bx A (fun _ => 0) W) (row : List Int) (h8 : row.length ≤ 8) : ThrAt wr rb bx A (fun r => row.getD r 0) (W.setCells rb 0 (row.map (Value.int .i64))) where
  b := h.b.trans ((turns_setCells rb (row.map (Value.int .i64)) 0 W (Turns.refl (fun k _ => k = rb) W) (fun _ _ => rfl)).below h.b.size (fun k _ hk e => by have := h.gr; omega))
  gr := h.gr
  gx := h.gx
  ne := h.ne
  x0 := by rw [World.cell?_setCells_out _ _ _ _ _ (fun e _ => absurd e h.ne)]; exact h.x0
  x1 := by rw [World.cell?_setCells_out _ _ _ _ _ (fun e _ => absurd e h.ne)]; exact h.x1
  x2 := by rw [World.cell?_setCells_out _ _ _ _ _ (fun e _ => absurd e h.ne)]; exact h.x2
  reg r hr := by
    by_cases e : r < row.length
    · have := World.cell?_setCells_in rb (row.map (Value.int .i64)) 0 W (fun j hj => by rw [List.length_map] at hj; rw [Nat.zero_add, h.reg j (by omega)]; rfl) r (by rw [List.length_map]; exact e)
      rw [Nat.zero_add] at this
      rw [this, List.getElem_map, List.getD_eq_getElem?_getD, List.getElem?_eq_getElem e]; rfl
    · rw [World.cell?_setCells_out _ _ _ _ _ (fun _ _ => Or.inr (by rw [List.length_map]; show 0 + row.length ≤ r; omega)), h.reg r hr, List.getD_eq_getElem?_getD, List.getElem?_eq_none (by omega)]; rfl
  fz o := by rw [World.frozen?_setCells]; exact h.fz o
theorem ThrAt.drew {wr : World} {rb bx : Nat} {A : Value} {f : Nat → Int} {W : World} (h : ThrAt wr rb bx A f W) : ThrAt wr rb bx A f W.drew := ⟨h.b.drew, h.gr, h.gx, h.ne, h.x0, h.x1, h.x2, h.reg, h.fz⟩

theorem setCells_drew (b : Nat) : ∀ (l : List Value) (o : Nat) (w : World), w.drew.setCells b o l = (w.setCells b o l).drew
  | [], _, _ => rfl
  | v :: l, o, w => setCells_drew b l (o + 1) (w.setCell ⟨b, o, none⟩ v)

set_option maxRecDepth 100000 in
set_option maxHeartbeats 4000000 in
theorem newMachine_any {s : Sta} {ai ar ad : Option Addr} {ci cr cap : Nat} {cs : List (List Ins)} {w0 w : World} (h0 : Below w0.heap.size w0 w) (hs : StaAt s ⟨ai, ci, ar, cr⟩ w) (hl : codesAt ad cs w0) (h1 : 1 ≤ s.cells) (h64 : s.cells ≤ 64) (n1 : 1 ≤ cs.length) (n6 : cs.length ≤ 6) (hfit : s.fits cs.length = true) :
    Calls Tryz.prog 20 #[.agg #[.int .i64 s.cells, .slice ai s.init.length ci, .slice ar s.regs.length cr], .slice ad cs.length cap] w fun e w' => ∃ p : RkPl, e = .returned (.pointer (some ⟨p.k, 0, none⟩)) ∧ Hid (RkAt cs p (s.mach cs.length) w' ∧ p.B = w0.heap.size ∧ Below w.heap.size w w' ∧ ∀ b, p.fp cs.length (s.mach cs.length).mem b → w.heap.size ≤ b) := by
  obtain ⟨f1, f2, f3, f4⟩ := Sta.fits_of hfit
  obtain ⟨C, hC⟩ := Int.eq_ofNat_of_zero_le (show 0 ≤ s.cells by omega)
  have hCt : s.cells.toNat = C := by omega
  rw [hC]
  obtain ⟨W1, hW1⟩ : ∃ W1, W1 = w.alloc (.cells #[.int .i64 C, .slice ai s.init.length ci, .slice ar s.regs.length cr] 24) := ⟨_, rfl⟩
  have b1 : Below w.heap.size w W1 := by rw [hW1]; exact (Below.refl _ _).alloc (Nat.le_refl _) _
  have hbb : W1.heap[w.heap.size]? = some (.cells #[.int .i64 C, .slice ai s.init.length ci, .slice ar s.regs.length cr] 24) := by rw [hW1]; exact heap_new w _
  have s0 : W1.cell? ⟨w.heap.size, 0, none⟩ = some (.int .i64 C) := by rw [hW1]; simp
  have HN := hide (newMem_any C cs.length W1 (by omega) (by omega))
  have HS := hide hs
  have HL := hide hl
  have i1 := hs.ci
  have i2 := hs.cr
  have i3 : s.init.length ≤ 64 := by omega
  have i4 : s.regs.length ≤ 6 := by omega
  dsimp only at i1 i2
  clear hs hl
  go_enter Tryz.func20, Tryz.ntmps20
  go_wp2_with fail
  rw [← hW1]
  refine HN.out.mono ?_
  rintro e w2 ⟨rp0, rfl, hm2, hb2, hf2⟩
  have l1 : w.heap.size < W1.heap.size := by rw [hW1]; simp
  obtain ⟨W3, hW3⟩ : ∃ W3, W3 = w2.alloc (.cells #[.pointer (some ⟨rp0.mb, 0, none⟩), .slice none 0 0, .slice none 0 0, .int .i64 0] 62) := ⟨_, rfl⟩
  have b3 : Below w2.heap.size w2 W3 := by rw [hW3]; exact (Below.refl _ _).alloc (Nat.le_refl _) _
  have N3 : Hid (Nm1 w w.heap.size w2.heap.size #[.int .i64 C, .slice ai s.init.length ci, .slice ar s.regs.length cr] #[.pointer (some ⟨rp0.mb, 0, none⟩), .slice none 0 0, .slice none 0 0, .int .i64 0] rp0.mb rp0 (s.at1 cs.length 0 0).mem W3) := hide {
    mem := by
      have : (s.at1 cs.length 0 0).mem = Rm.fresh C cs.length := by
        show Rm.mk _ _ _ = _
        rw [hCt, List.take_zero, Ar.filled_nil]
      rw [this]
      exact hm2.below b3
    emb := rfl
    fp := fun b hb => by
      have : (s.at1 cs.length 0 0).mem = Rm.fresh C cs.length := by
        show Rm.mk _ _ _ = _
        rw [hCt, List.take_zero, Ar.filled_nil]
      rw [this] at hb
      have a1 := hf2 b hb
      have a2 := hm2.fp_lt hb
      exact ⟨by omega, by omega, by omega⟩
    gk := by have := hb2.size; omega
    gs := Nat.le_refl _
    bk := by rw [hW3]; exact heap_new w2 _
    bb := by rw [b3.block _ (by have := hb2.size; omega), hb2.block _ l1]; exact hbb
    bw := below_step b1 (hb2.trans (b3.mono hb2.size)) }
  have hks : w2.heap.size ≠ w.heap.size := by have := hb2.size; omega
  clear HN s0 hm2 hb2 hf2 b3 hbb b1 hW1
  go_wp2_with fail
  rw [← hW3]
  clear hW3
  go_loopw [6] (fun i wr => ∃ j : Nat, j ≤ s.init.length ∧ i = .int .i64 j ∧ ∃ rp, Hid (Nm1 w w.heap.size w2.heap.size #[.int .i64 C, .slice ai s.init.length ci, .slice ar s.regs.length cr] #[.pointer (some ⟨rp0.mb, 0, none⟩), .slice none 0 0, .slice none 0 0, .int .i64 0] rp0.mb rp (s.at1 cs.length j 0).mem wr)) (fun i _ => s.init.length - (intOf i).toNat)
  case atStart => exact ⟨0, Nat.zero_le _, rfl, rp0, N3⟩
  case round =>
    clear N3
    obtain ⟨j, hj, rfl, rp, NJ⟩ := hrel
    have kc0 : wr.cell? ⟨w2.heap.size, 0, none⟩ = some (.pointer (some ⟨rp0.mb, 0, none⟩)) := by simp [World.cell?, NJ.out.bk]
    have sc1 : wr.cell? ⟨w.heap.size, 1, none⟩ = some (.slice ai s.init.length ci) := by simp [World.cell?, NJ.out.bb]
    by_cases hlt : j < s.init.length
    · obtain ⟨row, hrow⟩ : ∃ x, s.init[j]? = some x := ⟨_, List.getElem?_eq_getElem hlt⟩
      obtain ⟨b, off, adr, capr, hq, cW, hcp, hnW⟩ := HS.out.init j row hrow
      obtain rfl : ai = some ⟨b, off, none⟩ := hq
      obtain ⟨r4, -⟩ := rowOk_at f2 hrow
      have ji : (j : Int) < s.init.length := by omega
      have hfree := Ar.free_some (Sta.at1_free (s := s) (n := cs.length) (t := 0) hlt f1)
      have HA := hide (ralloc_step rp (s.at1 cs.length j 0).mem j wr NJ.out.mem hfree.1 hfree.2.1 hfree.2.2 (by rw [Sta.at1_given hlt]; decide))
      rw [NJ.out.emb] at HA
      have hE : Hid ((s.at1 cs.length j 0).rowPart j row row.length = s.at1 cs.length (j + 1) 0) := hide (Sta.at1_row hrow r4)
      have hsz : j < (s.at1 cs.length j 0).mem.ar.size := hfree.1
      generalize (s.at1 cs.length j 0).mem.ar.given j = gg at *
      go_wp2_with fail
      refine HA.out.mono ?_
      rintro e w4 ⟨rfl, rp4, q4⟩
      have N4 := hide (NJ.out.step q4)
      clear HA NJ kc0 sc1
      have kc0 : w4.cell? ⟨w2.heap.size, 0, none⟩ = some (.pointer (some ⟨rp0.mb, 0, none⟩)) := by simp [World.cell?, N4.out.bk]
      have sc1 : w4.cell? ⟨w.heap.size, 1, none⟩ = some (.slice (some ⟨b, off, none⟩) s.init.length ci) := by simp [World.cell?, N4.out.bb]
      have hP0 : Hid (((s.at1 cs.length j 0).rowPart j row 0).mem = (s.at1 cs.length j 0).mem.give j) := hide (by rw [Mk.rowPart_zero]; rfl)
      have mC := N4.out.mem.mCells
      have mcc := N4.out.mem.ccap
      have mW := N4.out.mem.cWords j hsz
      have mwc := N4.out.mem.wcap j hsz
      have cW4 := keep_cell N4.out.bw cW
      rw [N4.out.emb] at mC
      have hsz4 : (j : Int) < ((s.at1 cs.length j 0).mem.give j).ar.size := by have : j < ((s.at1 cs.length j 0).mem.give j).ar.size := hsz; omega
      have hu : (Tryz.prog).underlying 26 = some (.slice 3) := Tryz.underlying26
      have hz1 : ((Tryz.prog).info? 3).map (·.size) = some 1 := by kernel_rfl
      have HLY := hide (RmStep.lay (rp := rp4) (M := s.at1 cs.length j 0) (i := j) r4 row 0 (w := w4) rfl (Nat.zero_le _) (by rw [hP0.out]; exact hsz) (by rw [hP0.out]; exact N4.out.mem))
      have hE2 : Hid (((s.at1 cs.length j 0).rowPart j row row.length).mem = (s.at1 cs.length (j + 1) 0).mem) := hide (by rw [hE.out])
      rw [hE2.out, hP0.out] at HLY
      cases hL : row.length with
      | zero =>
        obtain rfl := List.eq_nil_of_length_eq_zero hL
        have N5 : Hid (Nm1 w w.heap.size w2.heap.size #[.int .i64 C, .slice (some ⟨b, off, none⟩) s.init.length ci, .slice ar s.regs.length cr] #[.pointer (some ⟨rp0.mb, 0, none⟩), .slice none 0 0, .slice none 0 0, .int .i64 0] rp0.mb rp4 (s.at1 cs.length (j + 1) 0).mem w4.drew) := hide ((N4.out.step HLY.out).below (Below.refl _ _).drew)
        rw [hL] at cW4
        clear HLY hE hE2 hP0 q4 cW hfree hrow
        generalize ((s.at1 cs.length j 0).mem.give j).ar.size = SZ at *
        go_wp2_with fail
        go_region_law (refine step_copy_none _ (by rfl) _ _ _ 3 (by rfl) _ _ _ _ _ (by rfl) (by rfl) hu hz1 ?_)
        all_goals
          go_wp2
          go_roundw
        all_goals first
          | exact ⟨j + 1, by omega, by go_num, rp4, N5⟩
          | (simp [intOf]; omega)
      | succ n =>
        obtain ⟨x0, hx0⟩ : ∃ x, row[0]? = some x := ⟨_, List.getElem?_eq_getElem (by omega)⟩
        obtain ⟨ab, ao, rfl, -⟩ := hnW 0 x0 hx0
        have HNs : Hid (∀ (i : Nat) u, (row.map (Value.int .i64))[i]? = some u → w4.cell? ((⟨ab, ao, none⟩ : Addr).add i) = some u) := hide fun i u hu => by
          rw [List.getElem?_map] at hu
          cases hr : row[i]? with
          | none => rw [hr] at hu; cases hu
          | some y =>
            rw [hr] at hu; cases hu
            obtain ⟨b', o', e1, e2⟩ := hnW i y hr
            cases e1
            rw [Addr.add_lit]
            exact keep_cell N4.out.bw e2
        have hmin : (row.map (Value.int .i64)).length = Nat.min (n + 1) 4 := by rw [List.length_map, hL]; have : Nat.min (n + 1) 4 = min (n + 1) 4 := rfl; rw [this]; omega
        have HCc : Hid (∀ i, i < (row.map (Value.int .i64)).length → (w4.cell? ⟨rp4.wb j, 0 + i, none⟩).isSome = true) := hide fun i hi => by
          rw [List.length_map] at hi
          rw [Nat.zero_add, N4.out.mem.words j i hsz (by omega)]; rfl
        have HCf : Hid (∀ i, i < (row.map (Value.int .i64)).length → w4.frozen? ⟨rp4.wb j, 0 + i, none⟩ = false) := hide fun i _ => N4.out.mem.fw j _ hsz
        have H1c : ∀ u ∈ row.map (Value.int .i64), u.oneCell' = true := fun u hu => by
          obtain ⟨y, -, rfl⟩ := List.mem_map.1 hu
          rfl
        have N5 : Hid (Nm1 w w.heap.size w2.heap.size #[.int .i64 C, .slice (some ⟨b, off, none⟩) s.init.length ci, .slice ar s.regs.length cr] #[.pointer (some ⟨rp0.mb, 0, none⟩), .slice none 0 0, .slice none 0 0, .int .i64 0] rp0.mb rp4 (s.at1 cs.length (j + 1) 0).mem (w4.setCells (rp4.wb j) 0 (row.map (Value.int .i64))).drew) := hide ((N4.out.step HLY.out).below (Below.refl _ _).drew)
        have N6 : Hid (Nm1 w w.heap.size w2.heap.size #[.int .i64 C, .slice (some ⟨b, off, none⟩) s.init.length ci, .slice ar s.regs.length cr] #[.pointer (some ⟨rp0.mb, 0, none⟩), .slice none 0 0, .slice none 0 0, .int .i64 0] rp0.mb rp4 (s.at1 cs.length (j + 1) 0).mem (w4.drew.setCells (rp4.wb j) 0 (row.map (Value.int .i64)))) := hide (by rw [setCells_drew]; exact N5.out)
        rw [hL] at cW4
        clear HLY hE hE2 hP0 q4 cW hfree hrow hnW hx0
        generalize ((s.at1 cs.length j 0).mem.give j).ar.size = SZ at *
        generalize row.map (Value.int .i64) = RC at *
        go_wp2_with fail
        go_region_law (refine step_copy_cells _ (by rfl) _ _ _ 3 (by rfl) (rp4.wb j) 0 4 (rp4.wcap j) ⟨ab, ao, none⟩ (n + 1) capr RC (by rfl) (by rfl) hu hz1 hmin (fun i u hi => HNs.out i u hi) (fun i hi => HCc.out i hi) (fun i hi => HCf.out i hi) H1c ?_)
        all_goals
          go_wp2
          go_roundw
        all_goals first
          | exact ⟨j + 1, by omega, by go_num, rp4, N5⟩
          | exact ⟨j + 1, by omega, by go_num, rp4, N6⟩
          | (simp [intOf]; omega)
          | trace_state
    · obtain rfl : j = s.init.length := by omega
      have hR : Hid ((s.at1 cs.length s.init.length 0).mem = (s.mach cs.length).mem) := hide (by rw [← Sta.at1_end]; rfl)
      have N2 : Hid (Nm2 w0 w w.heap.size w2.heap.size s cs (.slice ar s.regs.length cr) rp (s.mach cs.length).mem [] (.slice none 0 0) wr) := hide (by have := NJ.out.start (s := s) (cs := cs) (sr := .slice ar s.regs.length cr) (by simp) hks h0; rw [hR.out] at this; exact this)
      clear NJ hR hlt f2 i3
      go_wp2_with fail
      clear kc0 sc1
      generalize wr = w5 at *
      go_loopw [7] (fun i wr => ∃ t : Nat, t ≤ cs.length ∧ i = .int .i64 t ∧ ∃ T v, Hid (T.length = t ∧ Nm2 w0 w w.heap.size w2.heap.size s cs (.slice ar s.regs.length cr) rp (s.mach cs.length).mem T v wr)) (fun i _ => cs.length - (intOf i).toNat)
      case atStart => exact ⟨0, Nat.zero_le _, rfl, [], _, hide ⟨rfl, N2.out⟩⟩
      case round =>
        clear N2
        obtain ⟨t, ht, rfl, T, v, NT⟩ := hrel
        have n6i : (cs.length : Int) ≤ 6 := by omega
        by_cases hlt : t < cs.length
        · obtain ⟨L, hL⟩ : ∃ L, cs[t]? = some L := ⟨_, List.getElem?_eq_getElem hlt⟩
          obtain ⟨cb, co, adl, capl, hq, c0, hcl, hin, -⟩ := HL.out t L hL
          subst hq
          replace c0 := keep_cell NT.out.2.bw (keep_cell h0 c0)
          have ti : (t : Int) < cs.length := by omega
          have m8 := make8
          have lcb : cb < wr.heap.size := World.block_lt_of_cell? _ _ c0
          go_wp2_with fail
          go_region
          · obtain ⟨W7, hW7⟩ : ∃ W7, W7 = ((wr.alloc (.cells #[.int .i64 0, .int .i64 0, .int .i64 0, .int .i64 0, .int .i64 0, .int .i64 0, .int .i64 0, .int .i64 0] 3)).alloc (.cells #[.slice adl L.length capl, .slice (some ⟨wr.heap.size, 0, none⟩) 8 8, .int .i64 0] 57)).drew := ⟨_, rfl⟩
            have TA := ThrAt.of1 wr (.slice adl L.length capl)
            rw [← hW7] at TA ⊢
            clear hW7
            generalize wr.heap.size + 1 = bx at *
            generalize hrb : wr.heap.size = rb at TA ⊢
            have TH := hide TA
            have hTl : T.length = t := NT.out.1
            have HTl := hide hTl
            have hT6 : T.length ≤ 6 := by omega
            have NT7 := hide (NT.out.2.below TA.b)
            have ss := NT7.out.s2
            have z1 := TA.x1
            clear TA
            by_cases htr : t < s.regs.length
            · obtain ⟨row, hrow⟩ : ∃ x, s.regs[t]? = some x := ⟨_, List.getElem?_eq_getElem htr⟩
              obtain ⟨rbk, ro, adr, capr, hq, cW, hcp, hnW⟩ := HS.out.regs t row hrow
              obtain rfl : ar = some ⟨rbk, ro, none⟩ := hq
              obtain ⟨r8, -⟩ := rowOk_at f4 hrow
              have tri : (t : Int) < s.regs.length := by omega
              have hu : (Tryz.prog).underlying 26 = some (.slice 3) := Tryz.underlying26
              have hz1 : ((Tryz.prog).info? 3).map (·.size) = some 1 := by kernel_rfl
              have cR := keep_cell NT7.out.bw cW
              have TB0 : Hid (ThrAt wr rb bx (.slice adl L.length capl) (fun r => rowAt s.regs t r) (W7.setCells rb 0 (row.map (Value.int .i64))).drew) := hide (by
                have h0 : s.regs.getD t [] = row := by rw [List.getD_eq_getElem?_getD, hrow]; rfl
                have e : (fun r => rowAt s.regs t r) = (fun r => row.getD r 0) := by
                  funext r; unfold rowAt; rw [h0]
                rw [e]; exact (TH.out.copy row r8).drew)
              have NT0 := hide (NT.out.2.below TB0.out.b)
              have HXX := hide (And.intro hL hin)
              cases hLn : row.length with
              | zero =>
                obtain rfl := List.eq_nil_of_length_eq_zero hLn
                obtain ⟨W8, hW8⟩ : ∃ W8, W8 = W7.drew := ⟨_, rfl⟩
                have TB : Hid (ThrAt wr rb bx (.slice adl L.length capl) (fun r => rowAt s.regs t r) W8) := by rw [hW8]; exact TB0
                have NT8 : Hid (Nm2 w0 w w.heap.size w2.heap.size s cs (.slice (some ⟨rbk, ro, none⟩) s.regs.length cr) rp (s.mach cs.length).mem T v W8) := by rw [hW8]; exact NT0
                rw [hLn] at cR
                clear TB0 NT0 hrow cW hnW hTl
                go_wp2_with fail
                go_region_law (refine step_copy_none _ (by rfl) _ _ _ 3 (by rfl) _ _ _ _ _ (by rfl) (by rfl) hu hz1 ?_)
                all_goals
                  rw [← hW8]
                  clear hW8
                  have hTl := HTl.out
                  have hL := HXX.out.1
                  have hin := HXX.out.2
                  have k1 := NT8.out.k1
                  have hown := NT8.out.own
                  have fk1 := NT8.out.fk 1
                  have lk8 : w2.heap.size < W8.heap.size := World.block_lt_of_cell? _ _ k1
                  have y0 := TB.out.x0
                  have y1 := TB.out.x1
                  have y2 := TB.out.x2
                  obtain ⟨ti0, hti, htz, hts, htb⟩ := thrInfo
                  have nk : v.ownBlock ≠ some w2.heap.size := fun e => (NT8.out.vb _ e).1 rfl
                  have hml : T.length + 1 ≤ maxLen := Nat.le_trans (Nat.succ_le_succ hT6) (by decide)
                  have hmb : (T.length + 1) * 56 ≤ 140737488355328 := Nat.le_trans (Nat.mul_le_mul_right 56 (Nat.succ_le_succ hT6)) (by decide)
                  have hws : w.heap.size ≤ W8.heap.size := NT8.out.bw.size
                  obtain ⟨W9, hW9⟩ : ∃ W9, W9 = W8.alloc (.cells #[.slice adl L.length capl, .slice (some ⟨rb, 0, none⟩) 8 8, .int .i64 0] 57) := ⟨_, rfl⟩
                  have b9 : Below W8.heap.size W8 W9 := by rw [hW9]; exact (Below.refl _ _).alloc (Nat.le_refl _) _
                  have rlt : rb < W8.heap.size := World.block_lt_of_cell? _ _ (TB.out.reg 0 (by decide))
                  have fzr : ∀ o, W9.frozen? ⟨rb, o, none⟩ = false := fun o => by rw [b9.frozen rlt]; exact TB.out.fz o
                  have NT9 := hide (NT8.out.below b9)
                  have k19 := NT9.out.k1
                  have hown9 := NT9.out.own
                  have fk9 := NT9.out.fk 1
                  have lk9 : w2.heap.size < W9.heap.size := World.block_lt_of_cell? _ _ k19
                  have hws9 : w.heap.size ≤ W9.heap.size := NT9.out.bw.size
                  have nw9 : ∀ j u, ([.slice adl L.length capl, .slice (some ⟨rb, 0, none⟩) 8 8, .int .i64 0] : List Value)[j]? = some u → W9.cell? ((⟨W8.heap.size, 0, none⟩ : Addr).add j) = some u := by rw [hW9]; exact World.news_of_block (cs := #[.slice adl L.length capl, .slice (some ⟨rb, 0, none⟩) 8 8, .int .i64 0]) (t := 57) (fr := (0, 0)) (heap_alloc_new W8 _)
                  clear hTl
                  go_wp2_with fail
                  go_region_law
                    ((try rw [← hW9])
                     refine step_append_at _ (by rfl) _ _ _ (by rfl) w.heap.size 57 ti0 _ 3 56 Tryz.underlying59 hti htz hts htb rfl (by omega) v T.length (thrCells T) (by rfl) hown9
                        ⟨W8.heap.size, 0, none⟩ 1 1 [.slice adl L.length capl, .slice (some ⟨rb, 0, none⟩) 8 8, .int .i64 0] (by rfl) (by rfl) nw9 (by simp [Value.oneCell']) hml hmb hws9 ?_; intro g10 cap10 w10 hown10 hgrow hat
                     have k110 : w10.cell? ⟨w2.heap.size, 1, none⟩ = some v := (World.cell?_of_block (hgrow.block w2.heap.size lk9 (Ne.symm nk))).trans k19
                     have fk10 : w10.frozen? ⟨w2.heap.size, 1, none⟩ = false := (World.frozen?_of_block (hgrow.block w2.heap.size lk9 (Ne.symm nk))).trans fk9)
                  all_goals
                    have NF := hide (Nm2.add (x := ⟨adl, L.length, capl, rb⟩) NT9.out (by rw [HTl.out]; exact hL) rfl hcl hin (W0 := wr) TB.out.gr (fun b e => (NT.out.2.own.lt b e).2) (fun b e => NT.out.2.mem.fp_lt e) (fun t y hy => NT.out.2.rlt hy) (World.block_lt_of_cell? _ _ NT.out.2.k0) (World.block_lt_of_cell? _ _ NT.out.2.s2)
                      (fun r hr => by rw [HTl.out]; exact keep_cell b9 (TB.out.reg r hr)) fzr NT.out.2.bw.size
                      (W9 := w10) (v' := .slice g10 (T.length + 1) cap10) (by rw [thrCells_append]; exact hown10) hgrow.size hgrow.os hgrow.tape hgrow.output (fun b hb hn => hgrow.block b hb (Ne.symm hn)) (fun b e => by
                        rcases hat with e2 | e2
                        · left; rw [← e2]; exact e
                        · right; rw [e2] at e; cases e; exact Nat.le_refl _))
                    clear hown10 hgrow hat hti htz hts htb hown9 hown nw9 NT9 NT8 NT7 TB TH hin hL
                    go_wp2
                    go_roundw
                  all_goals first
                    | exact ⟨t + 1, by omega, by go_num, _, _, hide ⟨by rw [List.length_append, HTl.out]; rfl, NF.out.below (Below.refl _ _).drew⟩⟩
                    | exact ⟨t + 1, by omega, by go_num, _, _, hide ⟨by rw [List.length_append, HTl.out]; rfl, NF.out⟩⟩
                    | (simp [intOf]; omega)
                    | trace_state
              | succ n =>
                obtain ⟨x0, hx0⟩ : ∃ x, row[0]? = some x := ⟨_, List.getElem?_eq_getElem (by rw [hLn]; exact Nat.succ_pos n)⟩
                obtain ⟨ab, ao, rfl, -⟩ := hnW 0 x0 hx0
                have HNs : Hid (∀ (i : Nat) u, (row.map (Value.int .i64))[i]? = some u → W7.cell? ((⟨ab, ao, none⟩ : Addr).add i) = some u) := hide fun i u hu => by
                  rw [List.getElem?_map] at hu
                  cases hr : row[i]? with
                  | none => rw [hr] at hu; cases hu
                  | some y =>
                    rw [hr] at hu; cases hu
                    obtain ⟨b', o', e1, e2⟩ := hnW i y hr
                    cases e1
                    rw [Addr.add_lit]
                    exact keep_cell NT7.out.bw e2
                have hmin : (row.map (Value.int .i64)).length = Nat.min (n + 1) 8 := by rw [List.length_map, hLn]; have : Nat.min (n + 1) 8 = min (n + 1) 8 := rfl; rw [this, Nat.min_eq_left (by rw [hLn] at r8; exact r8)]
                have HCc : Hid (∀ i, i < (row.map (Value.int .i64)).length → (W7.cell? ⟨rb, 0 + i, none⟩).isSome = true) := hide fun i hi => by
                  rw [List.length_map] at hi
                  rw [Nat.zero_add, TH.out.reg i (Nat.lt_of_lt_of_le hi r8)]; rfl
                have HCf : Hid (∀ i, i < (row.map (Value.int .i64)).length → W7.frozen? ⟨rb, 0 + i, none⟩ = false) := hide fun i _ => TH.out.fz _
                have H1c : ∀ u ∈ row.map (Value.int .i64), u.oneCell' = true := fun u hu => by
                  obtain ⟨y, -, rfl⟩ := List.mem_map.1 hu
                  rfl
                rw [hLn] at cR
                clear hrow cW hnW hTl hx0
                generalize row.map (Value.int .i64) = RC at *
                obtain ⟨W8, hW8⟩ : ∃ W8, W8 = (W7.setCells rb 0 RC).drew := ⟨_, rfl⟩
                rw [← hW8] at TB0 NT0
                have TB := TB0
                have NT8 := NT0
                clear TB0 NT0
                go_wp2_with fail
                go_region_law (refine step_copy_cells _ (by rfl) _ _ _ 3 (by rfl) rb 0 8 8 ⟨ab, ao, none⟩ (n + 1) capr RC (by rfl) (by rfl) hu hz1 hmin (fun i u hi => HNs.out i u hi) (fun i hi => HCc.out i hi) (fun i hi => HCf.out i hi) H1c ?_)
                all_goals
                  (try rw [setCells_drew])
                  rw [← hW8]
                  clear hW8
                  have hTl := HTl.out
                  have hL := HXX.out.1
                  have hin := HXX.out.2
                  have k1 := NT8.out.k1
                  have hown := NT8.out.own
                  have fk1 := NT8.out.fk 1
                  have lk8 : w2.heap.size < W8.heap.size := World.block_lt_of_cell? _ _ k1
                  have y0 := TB.out.x0
                  have y1 := TB.out.x1
                  have y2 := TB.out.x2
                  obtain ⟨ti0, hti, htz, hts, htb⟩ := thrInfo
                  have nk : v.ownBlock ≠ some w2.heap.size := fun e => (NT8.out.vb _ e).1 rfl
                  have hml : T.length + 1 ≤ maxLen := Nat.le_trans (Nat.succ_le_succ hT6) (by decide)
                  have hmb : (T.length + 1) * 56 ≤ 140737488355328 := Nat.le_trans (Nat.mul_le_mul_right 56 (Nat.succ_le_succ hT6)) (by decide)
                  have hws : w.heap.size ≤ W8.heap.size := NT8.out.bw.size
                  obtain ⟨W9, hW9⟩ : ∃ W9, W9 = W8.alloc (.cells #[.slice adl L.length capl, .slice (some ⟨rb, 0, none⟩) 8 8, .int .i64 0] 57) := ⟨_, rfl⟩
                  have b9 : Below W8.heap.size W8 W9 := by rw [hW9]; exact (Below.refl _ _).alloc (Nat.le_refl _) _
                  have rlt : rb < W8.heap.size := World.block_lt_of_cell? _ _ (TB.out.reg 0 (by decide))
                  have fzr : ∀ o, W9.frozen? ⟨rb, o, none⟩ = false := fun o => by rw [b9.frozen rlt]; exact TB.out.fz o
                  have NT9 := hide (NT8.out.below b9)
                  have k19 := NT9.out.k1
                  have hown9 := NT9.out.own
                  have fk9 := NT9.out.fk 1
                  have lk9 : w2.heap.size < W9.heap.size := World.block_lt_of_cell? _ _ k19
                  have hws9 : w.heap.size ≤ W9.heap.size := NT9.out.bw.size
                  have nw9 : ∀ j u, ([.slice adl L.length capl, .slice (some ⟨rb, 0, none⟩) 8 8, .int .i64 0] : List Value)[j]? = some u → W9.cell? ((⟨W8.heap.size, 0, none⟩ : Addr).add j) = some u := by rw [hW9]; exact World.news_of_block (cs := #[.slice adl L.length capl, .slice (some ⟨rb, 0, none⟩) 8 8, .int .i64 0]) (t := 57) (fr := (0, 0)) (heap_alloc_new W8 _)
                  clear hTl
                  go_wp2_with fail
                  go_region_law
                    ((try rw [← hW9])
                     refine step_append_at _ (by rfl) _ _ _ (by rfl) w.heap.size 57 ti0 _ 3 56 Tryz.underlying59 hti htz hts htb rfl (by omega) v T.length (thrCells T) (by rfl) hown9
                        ⟨W8.heap.size, 0, none⟩ 1 1 [.slice adl L.length capl, .slice (some ⟨rb, 0, none⟩) 8 8, .int .i64 0] (by rfl) (by rfl) nw9 (by simp [Value.oneCell']) hml hmb hws9 ?_; intro g10 cap10 w10 hown10 hgrow hat
                     have k110 : w10.cell? ⟨w2.heap.size, 1, none⟩ = some v := (World.cell?_of_block (hgrow.block w2.heap.size lk9 (Ne.symm nk))).trans k19
                     have fk10 : w10.frozen? ⟨w2.heap.size, 1, none⟩ = false := (World.frozen?_of_block (hgrow.block w2.heap.size lk9 (Ne.symm nk))).trans fk9)
                  all_goals
                    have NF := hide (Nm2.add (x := ⟨adl, L.length, capl, rb⟩) NT9.out (by rw [HTl.out]; exact hL) rfl hcl hin (W0 := wr) TB.out.gr (fun b e => (NT.out.2.own.lt b e).2) (fun b e => NT.out.2.mem.fp_lt e) (fun t y hy => NT.out.2.rlt hy) (World.block_lt_of_cell? _ _ NT.out.2.k0) (World.block_lt_of_cell? _ _ NT.out.2.s2)
                      (fun r hr => by rw [HTl.out]; exact keep_cell b9 (TB.out.reg r hr)) fzr NT.out.2.bw.size
                      (W9 := w10) (v' := .slice g10 (T.length + 1) cap10) (by rw [thrCells_append]; exact hown10) hgrow.size hgrow.os hgrow.tape hgrow.output (fun b hb hn => hgrow.block b hb (Ne.symm hn)) (fun b e => by
                        rcases hat with e2 | e2
                        · left; rw [← e2]; exact e
                        · right; rw [e2] at e; cases e; exact Nat.le_refl _))
                    clear hown10 hgrow hat hti htz hts htb hown9 hown nw9 NT9 NT8 NT7 TB TH hin hL
                    go_wp2
                    go_roundw
                  all_goals first
                    | exact ⟨t + 1, by omega, by go_num, _, _, hide ⟨by rw [List.length_append, HTl.out]; rfl, NF.out.below (Below.refl _ _).drew⟩⟩
                    | exact ⟨t + 1, by omega, by go_num, _, _, hide ⟨by rw [List.length_append, HTl.out]; rfl, NF.out⟩⟩
                    | (simp [intOf]; omega)
                    | trace_state
            · have tri : ¬ (t : Int) < s.regs.length := by omega
              have TB : Hid (ThrAt wr rb bx (.slice adl L.length capl) (fun r => rowAt s.regs t r) W7) := hide (by
                have e : (fun r => rowAt s.regs t r) = (fun _ => 0) := by
                  have h0 : s.regs.getD t [] = [] := by rw [List.getD_eq_getElem?_getD, List.getElem?_eq_none (Nat.le_of_not_lt htr)]; rfl
                  funext r; unfold rowAt; rw [h0]; rfl
                rw [e]; exact TH.out)
              have NT8 := NT7
              have k1 := NT8.out.k1
              have hown := NT8.out.own
              have fk1 := NT8.out.fk 1
              have lk8 : w2.heap.size < W7.heap.size := World.block_lt_of_cell? _ _ k1
              have y0 := TB.out.x0
              have y1 := TB.out.x1
              have y2 := TB.out.x2
              obtain ⟨ti0, hti, htz, hts, htb⟩ := thrInfo
              have nk : v.ownBlock ≠ some w2.heap.size := fun e => (NT8.out.vb _ e).1 rfl
              have hml : T.length + 1 ≤ maxLen := Nat.le_trans (Nat.succ_le_succ hT6) (by decide)
              have hmb : (T.length + 1) * 56 ≤ 140737488355328 := Nat.le_trans (Nat.mul_le_mul_right 56 (Nat.succ_le_succ hT6)) (by decide)
              have hws : w.heap.size ≤ W7.heap.size := NT8.out.bw.size
              obtain ⟨W9, hW9⟩ : ∃ W9, W9 = W7.alloc (.cells #[.slice adl L.length capl, .slice (some ⟨rb, 0, none⟩) 8 8, .int .i64 0] 57) := ⟨_, rfl⟩
              have b9 : Below W7.heap.size W7 W9 := by rw [hW9]; exact (Below.refl _ _).alloc (Nat.le_refl _) _
              have rlt : rb < W7.heap.size := World.block_lt_of_cell? _ _ (TB.out.reg 0 (by decide))
              have fzr : ∀ o, W9.frozen? ⟨rb, o, none⟩ = false := fun o => by rw [b9.frozen rlt]; exact TB.out.fz o
              have NT9 := hide (NT8.out.below b9)
              have k19 := NT9.out.k1
              have hown9 := NT9.out.own
              have fk9 := NT9.out.fk 1
              have lk9 : w2.heap.size < W9.heap.size := World.block_lt_of_cell? _ _ k19
              have hws9 : w.heap.size ≤ W9.heap.size := NT9.out.bw.size
              have nw9 : ∀ j u, ([.slice adl L.length capl, .slice (some ⟨rb, 0, none⟩) 8 8, .int .i64 0] : List Value)[j]? = some u → W9.cell? ((⟨W7.heap.size, 0, none⟩ : Addr).add j) = some u := by rw [hW9]; exact World.news_of_block (cs := #[.slice adl L.length capl, .slice (some ⟨rb, 0, none⟩) 8 8, .int .i64 0]) (t := 57) (fr := (0, 0)) (heap_alloc_new W7 _)
              clear hTl
              go_wp2_with fail
              go_region_law
                ((try rw [← hW9])
                 refine step_append_at _ (by rfl) _ _ _ (by rfl) w.heap.size 57 ti0 _ 3 56 Tryz.underlying59 hti htz hts htb rfl (by omega) v T.length (thrCells T) (by rfl) hown9
                    ⟨W7.heap.size, 0, none⟩ 1 1 [.slice adl L.length capl, .slice (some ⟨rb, 0, none⟩) 8 8, .int .i64 0] (by rfl) (by rfl) nw9 (by simp [Value.oneCell']) hml hmb hws9 ?_; intro g10 cap10 w10 hown10 hgrow hat
                 have k110 : w10.cell? ⟨w2.heap.size, 1, none⟩ = some v := (World.cell?_of_block (hgrow.block w2.heap.size lk9 (Ne.symm nk))).trans k19
                 have fk10 : w10.frozen? ⟨w2.heap.size, 1, none⟩ = false := (World.frozen?_of_block (hgrow.block w2.heap.size lk9 (Ne.symm nk))).trans fk9)
              all_goals
                have NF := hide (Nm2.add (x := ⟨adl, L.length, capl, rb⟩) NT9.out (by rw [HTl.out]; exact hL) rfl hcl hin (W0 := wr) TB.out.gr (fun b e => (NT.out.2.own.lt b e).2) (fun b e => NT.out.2.mem.fp_lt e) (fun t y hy => NT.out.2.rlt hy) (World.block_lt_of_cell? _ _ NT.out.2.k0) (World.block_lt_of_cell? _ _ NT.out.2.s2)
                  (fun r hr => by rw [HTl.out]; exact keep_cell b9 (TB.out.reg r hr)) fzr NT.out.2.bw.size
                  (W9 := w10) (v' := .slice g10 (T.length + 1) cap10) (by rw [thrCells_append]; exact hown10) hgrow.size hgrow.os hgrow.tape hgrow.output (fun b hb hn => hgrow.block b hb (Ne.symm hn)) (fun b e => by
                    rcases hat with e2 | e2
                    · left; rw [← e2]; exact e
                    · right; rw [e2] at e; cases e; exact Nat.le_refl _))
                clear hown10 hgrow hat hti htz hts htb hown9 hown nw9 NT9 NT8 NT7 TB TH hin hL
                go_wp2
                go_roundw
              all_goals first
                | exact ⟨t + 1, by omega, by go_num, _, _, hide ⟨by rw [List.length_append, HTl.out]; rfl, NF.out.below (Below.refl _ _).drew⟩⟩
                | exact ⟨t + 1, by omega, by go_num, _, _, hide ⟨by rw [List.length_append, HTl.out]; rfl, NF.out⟩⟩
                | (simp [intOf]; omega)
                | trace_state
          · obtain ⟨W7, hW7⟩ : ∃ W7, W7 = ((wr.alloc (.cells #[.slice adl L.length capl, .slice (some ⟨wr.heap.size + 1, 0, none⟩) 8 8, .int .i64 0] 57)).alloc (.cells #[.int .i64 0, .int .i64 0, .int .i64 0, .int .i64 0, .int .i64 0, .int .i64 0, .int .i64 0, .int .i64 0] 3)).drew := ⟨_, rfl⟩
            have TA := ThrAt.of2 wr (.slice adl L.length capl)
            rw [← hW7] at TA ⊢
            clear hW7
            generalize wr.heap.size + 1 = rb at *
            generalize hbx : wr.heap.size = bx at TA ⊢
            have TH := hide TA
            have hTl : T.length = t := NT.out.1
            have HTl := hide hTl
            have hT6 : T.length ≤ 6 := by omega
            have NT7 := hide (NT.out.2.below TA.b)
            have ss := NT7.out.s2
            have z1 := TA.x1
            clear TA
            by_cases htr : t < s.regs.length
            · obtain ⟨row, hrow⟩ : ∃ x, s.regs[t]? = some x := ⟨_, List.getElem?_eq_getElem htr⟩
              obtain ⟨rbk, ro, adr, capr, hq, cW, hcp, hnW⟩ := HS.out.regs t row hrow
              obtain rfl : ar = some ⟨rbk, ro, none⟩ := hq
              obtain ⟨r8, -⟩ := rowOk_at f4 hrow
              have tri : (t : Int) < s.regs.length := by omega
              have hu : (Tryz.prog).underlying 26 = some (.slice 3) := Tryz.underlying26
              have hz1 : ((Tryz.prog).info? 3).map (·.size) = some 1 := by kernel_rfl
              have cR := keep_cell NT7.out.bw cW
              have TB0 : Hid (ThrAt wr rb bx (.slice adl L.length capl) (fun r => rowAt s.regs t r) (W7.setCells rb 0 (row.map (Value.int .i64))).drew) := hide (by
                have h0 : s.regs.getD t [] = row := by rw [List.getD_eq_getElem?_getD, hrow]; rfl
                have e : (fun r => rowAt s.regs t r) = (fun r => row.getD r 0) := by
                  funext r; unfold rowAt; rw [h0]
                rw [e]; exact (TH.out.copy row r8).drew)
              have NT0 := hide (NT.out.2.below TB0.out.b)
              have HXX := hide (And.intro hL hin)
              cases hLn : row.length with
              | zero =>
                obtain rfl := List.eq_nil_of_length_eq_zero hLn
                obtain ⟨W8, hW8⟩ : ∃ W8, W8 = W7.drew := ⟨_, rfl⟩
                have TB : Hid (ThrAt wr rb bx (.slice adl L.length capl) (fun r => rowAt s.regs t r) W8) := by rw [hW8]; exact TB0
                have NT8 : Hid (Nm2 w0 w w.heap.size w2.heap.size s cs (.slice (some ⟨rbk, ro, none⟩) s.regs.length cr) rp (s.mach cs.length).mem T v W8) := by rw [hW8]; exact NT0
                rw [hLn] at cR
                clear TB0 NT0 hrow cW hnW hTl
                go_wp2_with fail
                go_region_law (refine step_copy_none _ (by rfl) _ _ _ 3 (by rfl) _ _ _ _ _ (by rfl) (by rfl) hu hz1 ?_)
                all_goals
                  rw [← hW8]
                  clear hW8
                  have hTl := HTl.out
                  have hL := HXX.out.1
                  have hin := HXX.out.2
                  have k1 := NT8.out.k1
                  have hown := NT8.out.own
                  have fk1 := NT8.out.fk 1
                  have lk8 : w2.heap.size < W8.heap.size := World.block_lt_of_cell? _ _ k1
                  have y0 := TB.out.x0
                  have y1 := TB.out.x1
                  have y2 := TB.out.x2
                  obtain ⟨ti0, hti, htz, hts, htb⟩ := thrInfo
                  have nk : v.ownBlock ≠ some w2.heap.size := fun e => (NT8.out.vb _ e).1 rfl
                  have hml : T.length + 1 ≤ maxLen := Nat.le_trans (Nat.succ_le_succ hT6) (by decide)
                  have hmb : (T.length + 1) * 56 ≤ 140737488355328 := Nat.le_trans (Nat.mul_le_mul_right 56 (Nat.succ_le_succ hT6)) (by decide)
                  have hws : w.heap.size ≤ W8.heap.size := NT8.out.bw.size
                  obtain ⟨W9, hW9⟩ : ∃ W9, W9 = W8.alloc (.cells #[.slice adl L.length capl, .slice (some ⟨rb, 0, none⟩) 8 8, .int .i64 0] 57) := ⟨_, rfl⟩
                  have b9 : Below W8.heap.size W8 W9 := by rw [hW9]; exact (Below.refl _ _).alloc (Nat.le_refl _) _
                  have rlt : rb < W8.heap.size := World.block_lt_of_cell? _ _ (TB.out.reg 0 (by decide))
                  have fzr : ∀ o, W9.frozen? ⟨rb, o, none⟩ = false := fun o => by rw [b9.frozen rlt]; exact TB.out.fz o
                  have NT9 := hide (NT8.out.below b9)
                  have k19 := NT9.out.k1
                  have hown9 := NT9.out.own
                  have fk9 := NT9.out.fk 1
                  have lk9 : w2.heap.size < W9.heap.size := World.block_lt_of_cell? _ _ k19
                  have hws9 : w.heap.size ≤ W9.heap.size := NT9.out.bw.size
                  have nw9 : ∀ j u, ([.slice adl L.length capl, .slice (some ⟨rb, 0, none⟩) 8 8, .int .i64 0] : List Value)[j]? = some u → W9.cell? ((⟨W8.heap.size, 0, none⟩ : Addr).add j) = some u := by rw [hW9]; exact World.news_of_block (cs := #[.slice adl L.length capl, .slice (some ⟨rb, 0, none⟩) 8 8, .int .i64 0]) (t := 57) (fr := (0, 0)) (heap_alloc_new W8 _)
                  clear hTl
                  go_wp2_with fail
                  go_region_law
                    ((try rw [← hW9])
                     refine step_append_at _ (by rfl) _ _ _ (by rfl) w.heap.size 57 ti0 _ 3 56 Tryz.underlying59 hti htz hts htb rfl (by omega) v T.length (thrCells T) (by rfl) hown9
                        ⟨W8.heap.size, 0, none⟩ 1 1 [.slice adl L.length capl, .slice (some ⟨rb, 0, none⟩) 8 8, .int .i64 0] (by rfl) (by rfl) nw9 (by simp [Value.oneCell']) hml hmb hws9 ?_; intro g10 cap10 w10 hown10 hgrow hat
                     have k110 : w10.cell? ⟨w2.heap.size, 1, none⟩ = some v := (World.cell?_of_block (hgrow.block w2.heap.size lk9 (Ne.symm nk))).trans k19
                     have fk10 : w10.frozen? ⟨w2.heap.size, 1, none⟩ = false := (World.frozen?_of_block (hgrow.block w2.heap.size lk9 (Ne.symm nk))).trans fk9)
                  all_goals
                    have NF := hide (Nm2.add (x := ⟨adl, L.length, capl, rb⟩) NT9.out (by rw [HTl.out]; exact hL) rfl hcl hin (W0 := wr) TB.out.gr (fun b e => (NT.out.2.own.lt b e).2) (fun b e => NT.out.2.mem.fp_lt e) (fun t y hy => NT.out.2.rlt hy) (World.block_lt_of_cell? _ _ NT.out.2.k0) (World.block_lt_of_cell? _ _ NT.out.2.s2)
                      (fun r hr => by rw [HTl.out]; exact keep_cell b9 (TB.out.reg r hr)) fzr NT.out.2.bw.size
                      (W9 := w10) (v' := .slice g10 (T.length + 1) cap10) (by rw [thrCells_append]; exact hown10) hgrow.size hgrow.os hgrow.tape hgrow.output (fun b hb hn => hgrow.block b hb (Ne.symm hn)) (fun b e => by
                        rcases hat with e2 | e2
                        · left; rw [← e2]; exact e
                        · right; rw [e2] at e; cases e; exact Nat.le_refl _))
                    clear hown10 hgrow hat hti htz hts htb hown9 hown nw9 NT9 NT8 NT7 TB TH hin hL
                    go_wp2
                    go_roundw
                  all_goals first
                    | exact ⟨t + 1, by omega, by go_num, _, _, hide ⟨by rw [List.length_append, HTl.out]; rfl, NF.out.below (Below.refl _ _).drew⟩⟩
                    | exact ⟨t + 1, by omega, by go_num, _, _, hide ⟨by rw [List.length_append, HTl.out]; rfl, NF.out⟩⟩
                    | (simp [intOf]; omega)
                    | trace_state
              | succ n =>
                obtain ⟨x0, hx0⟩ : ∃ x, row[0]? = some x := ⟨_, List.getElem?_eq_getElem (by rw [hLn]; exact Nat.succ_pos n)⟩
                obtain ⟨ab, ao, rfl, -⟩ := hnW 0 x0 hx0
                have HNs : Hid (∀ (i : Nat) u, (row.map (Value.int .i64))[i]? = some u → W7.cell? ((⟨ab, ao, none⟩ : Addr).add i) = some u) := hide fun i u hu => by
                  rw [List.getElem?_map] at hu
                  cases hr : row[i]? with
                  | none => rw [hr] at hu; cases hu
                  | some y =>
                    rw [hr] at hu; cases hu
                    obtain ⟨b', o', e1, e2⟩ := hnW i y hr
                    cases e1
                    rw [Addr.add_lit]
                    exact keep_cell NT7.out.bw e2
                have hmin : (row.map (Value.int .i64)).length = Nat.min (n + 1) 8 := by rw [List.length_map, hLn]; have : Nat.min (n + 1) 8 = min (n + 1) 8 := rfl; rw [this, Nat.min_eq_left (by rw [hLn] at r8; exact r8)]
                have HCc : Hid (∀ i, i < (row.map (Value.int .i64)).length → (W7.cell? ⟨rb, 0 + i, none⟩).isSome = true) := hide fun i hi => by
                  rw [List.length_map] at hi
                  rw [Nat.zero_add, TH.out.reg i (Nat.lt_of_lt_of_le hi r8)]; rfl
                have HCf : Hid (∀ i, i < (row.map (Value.int .i64)).length → W7.frozen? ⟨rb, 0 + i, none⟩ = false) := hide fun i _ => TH.out.fz _
                have H1c : ∀ u ∈ row.map (Value.int .i64), u.oneCell' = true := fun u hu => by
                  obtain ⟨y, -, rfl⟩ := List.mem_map.1 hu
                  rfl
                rw [hLn] at cR
                clear hrow cW hnW hTl hx0
                generalize row.map (Value.int .i64) = RC at *
                obtain ⟨W8, hW8⟩ : ∃ W8, W8 = (W7.setCells rb 0 RC).drew := ⟨_, rfl⟩
                rw [← hW8] at TB0 NT0
                have TB := TB0
                have NT8 := NT0
                clear TB0 NT0
                go_wp2_with fail
                go_region_law (refine step_copy_cells _ (by rfl) _ _ _ 3 (by rfl) rb 0 8 8 ⟨ab, ao, none⟩ (n + 1) capr RC (by rfl) (by rfl) hu hz1 hmin (fun i u hi => HNs.out i u hi) (fun i hi => HCc.out i hi) (fun i hi => HCf.out i hi) H1c ?_)
                all_goals
                  (try rw [setCells_drew])
                  rw [← hW8]
                  clear hW8
                  have hTl := HTl.out
                  have hL := HXX.out.1
                  have hin := HXX.out.2
                  have k1 := NT8.out.k1
                  have hown := NT8.out.own
                  have fk1 := NT8.out.fk 1
                  have lk8 : w2.heap.size < W8.heap.size := World.block_lt_of_cell? _ _ k1
                  have y0 := TB.out.x0
                  have y1 := TB.out.x1
                  have y2 := TB.out.x2
                  obtain ⟨ti0, hti, htz, hts, htb⟩ := thrInfo
                  have nk : v.ownBlock ≠ some w2.heap.size := fun e => (NT8.out.vb _ e).1 rfl
                  have hml : T.length + 1 ≤ maxLen := Nat.le_trans (Nat.succ_le_succ hT6) (by decide)
                  have hmb : (T.length + 1) * 56 ≤ 140737488355328 := Nat.le_trans (Nat.mul_le_mul_right 56 (Nat.succ_le_succ hT6)) (by decide)
                  have hws : w.heap.size ≤ W8.heap.size := NT8.out.bw.size
                  obtain ⟨W9, hW9⟩ : ∃ W9, W9 = W8.alloc (.cells #[.slice adl L.length capl, .slice (some ⟨rb, 0, none⟩) 8 8, .int .i64 0] 57) := ⟨_, rfl⟩
                  have b9 : Below W8.heap.size W8 W9 := by rw [hW9]; exact (Below.refl _ _).alloc (Nat.le_refl _) _
                  have rlt : rb < W8.heap.size := World.block_lt_of_cell? _ _ (TB.out.reg 0 (by decide))
                  have fzr : ∀ o, W9.frozen? ⟨rb, o, none⟩ = false := fun o => by rw [b9.frozen rlt]; exact TB.out.fz o
                  have NT9 := hide (NT8.out.below b9)
                  have k19 := NT9.out.k1
                  have hown9 := NT9.out.own
                  have fk9 := NT9.out.fk 1
                  have lk9 : w2.heap.size < W9.heap.size := World.block_lt_of_cell? _ _ k19
                  have hws9 : w.heap.size ≤ W9.heap.size := NT9.out.bw.size
                  have nw9 : ∀ j u, ([.slice adl L.length capl, .slice (some ⟨rb, 0, none⟩) 8 8, .int .i64 0] : List Value)[j]? = some u → W9.cell? ((⟨W8.heap.size, 0, none⟩ : Addr).add j) = some u := by rw [hW9]; exact World.news_of_block (cs := #[.slice adl L.length capl, .slice (some ⟨rb, 0, none⟩) 8 8, .int .i64 0]) (t := 57) (fr := (0, 0)) (heap_alloc_new W8 _)
                  clear hTl
                  go_wp2_with fail
                  go_region_law
                    ((try rw [← hW9])
                     refine step_append_at _ (by rfl) _ _ _ (by rfl) w.heap.size 57 ti0 _ 3 56 Tryz.underlying59 hti htz hts htb rfl (by omega) v T.length (thrCells T) (by rfl) hown9
                        ⟨W8.heap.size, 0, none⟩ 1 1 [.slice adl L.length capl, .slice (some ⟨rb, 0, none⟩) 8 8, .int .i64 0] (by rfl) (by rfl) nw9 (by simp [Value.oneCell']) hml hmb hws9 ?_; intro g10 cap10 w10 hown10 hgrow hat
                     have k110 : w10.cell? ⟨w2.heap.size, 1, none⟩ = some v := (World.cell?_of_block (hgrow.block w2.heap.size lk9 (Ne.symm nk))).trans k19
                     have fk10 : w10.frozen? ⟨w2.heap.size, 1, none⟩ = false := (World.frozen?_of_block (hgrow.block w2.heap.size lk9 (Ne.symm nk))).trans fk9)
                  all_goals
                    have NF := hide (Nm2.add (x := ⟨adl, L.length, capl, rb⟩) NT9.out (by rw [HTl.out]; exact hL) rfl hcl hin (W0 := wr) TB.out.gr (fun b e => (NT.out.2.own.lt b e).2) (fun b e => NT.out.2.mem.fp_lt e) (fun t y hy => NT.out.2.rlt hy) (World.block_lt_of_cell? _ _ NT.out.2.k0) (World.block_lt_of_cell? _ _ NT.out.2.s2)
                      (fun r hr => by rw [HTl.out]; exact keep_cell b9 (TB.out.reg r hr)) fzr NT.out.2.bw.size
                      (W9 := w10) (v' := .slice g10 (T.length + 1) cap10) (by rw [thrCells_append]; exact hown10) hgrow.size hgrow.os hgrow.tape hgrow.output (fun b hb hn => hgrow.block b hb (Ne.symm hn)) (fun b e => by
                        rcases hat with e2 | e2
                        · left; rw [← e2]; exact e
                        · right; rw [e2] at e; cases e; exact Nat.le_refl _))
                    clear hown10 hgrow hat hti htz hts htb hown9 hown nw9 NT9 NT8 NT7 TB TH hin hL
                    go_wp2
                    go_roundw
                  all_goals first
                    | exact ⟨t + 1, by omega, by go_num, _, _, hide ⟨by rw [List.length_append, HTl.out]; rfl, NF.out.below (Below.refl _ _).drew⟩⟩
                    | exact ⟨t + 1, by omega, by go_num, _, _, hide ⟨by rw [List.length_append, HTl.out]; rfl, NF.out⟩⟩
                    | (simp [intOf]; omega)
                    | trace_state
            · have tri : ¬ (t : Int) < s.regs.length := by omega
              have TB : Hid (ThrAt wr rb bx (.slice adl L.length capl) (fun r => rowAt s.regs t r) W7) := hide (by
                have e : (fun r => rowAt s.regs t r) = (fun _ => 0) := by
                  have h0 : s.regs.getD t [] = [] := by rw [List.getD_eq_getElem?_getD, List.getElem?_eq_none (Nat.le_of_not_lt htr)]; rfl
                  funext r; unfold rowAt; rw [h0]; rfl
                rw [e]; exact TH.out)
              have NT8 := NT7
              have k1 := NT8.out.k1
              have hown := NT8.out.own
              have fk1 := NT8.out.fk 1
              have lk8 : w2.heap.size < W7.heap.size := World.block_lt_of_cell? _ _ k1
              have y0 := TB.out.x0
              have y1 := TB.out.x1
              have y2 := TB.out.x2
              obtain ⟨ti0, hti, htz, hts, htb⟩ := thrInfo
              have nk : v.ownBlock ≠ some w2.heap.size := fun e => (NT8.out.vb _ e).1 rfl
              have hml : T.length + 1 ≤ maxLen := Nat.le_trans (Nat.succ_le_succ hT6) (by decide)
              have hmb : (T.length + 1) * 56 ≤ 140737488355328 := Nat.le_trans (Nat.mul_le_mul_right 56 (Nat.succ_le_succ hT6)) (by decide)
              have hws : w.heap.size ≤ W7.heap.size := NT8.out.bw.size
              obtain ⟨W9, hW9⟩ : ∃ W9, W9 = W7.alloc (.cells #[.slice adl L.length capl, .slice (some ⟨rb, 0, none⟩) 8 8, .int .i64 0] 57) := ⟨_, rfl⟩
              have b9 : Below W7.heap.size W7 W9 := by rw [hW9]; exact (Below.refl _ _).alloc (Nat.le_refl _) _
              have rlt : rb < W7.heap.size := World.block_lt_of_cell? _ _ (TB.out.reg 0 (by decide))
              have fzr : ∀ o, W9.frozen? ⟨rb, o, none⟩ = false := fun o => by rw [b9.frozen rlt]; exact TB.out.fz o
              have NT9 := hide (NT8.out.below b9)
              have k19 := NT9.out.k1
              have hown9 := NT9.out.own
              have fk9 := NT9.out.fk 1
              have lk9 : w2.heap.size < W9.heap.size := World.block_lt_of_cell? _ _ k19
              have hws9 : w.heap.size ≤ W9.heap.size := NT9.out.bw.size
              have nw9 : ∀ j u, ([.slice adl L.length capl, .slice (some ⟨rb, 0, none⟩) 8 8, .int .i64 0] : List Value)[j]? = some u → W9.cell? ((⟨W7.heap.size, 0, none⟩ : Addr).add j) = some u := by rw [hW9]; exact World.news_of_block (cs := #[.slice adl L.length capl, .slice (some ⟨rb, 0, none⟩) 8 8, .int .i64 0]) (t := 57) (fr := (0, 0)) (heap_alloc_new W7 _)
              clear hTl
              go_wp2_with fail
              go_region_law
                ((try rw [← hW9])
                 refine step_append_at _ (by rfl) _ _ _ (by rfl) w.heap.size 57 ti0 _ 3 56 Tryz.underlying59 hti htz hts htb rfl (by omega) v T.length (thrCells T) (by rfl) hown9
                    ⟨W7.heap.size, 0, none⟩ 1 1 [.slice adl L.length capl, .slice (some ⟨rb, 0, none⟩) 8 8, .int .i64 0] (by rfl) (by rfl) nw9 (by simp [Value.oneCell']) hml hmb hws9 ?_; intro g10 cap10 w10 hown10 hgrow hat
                 have k110 : w10.cell? ⟨w2.heap.size, 1, none⟩ = some v := (World.cell?_of_block (hgrow.block w2.heap.size lk9 (Ne.symm nk))).trans k19
                 have fk10 : w10.frozen? ⟨w2.heap.size, 1, none⟩ = false := (World.frozen?_of_block (hgrow.block w2.heap.size lk9 (Ne.symm nk))).trans fk9)
              all_goals
                have NF := hide (Nm2.add (x := ⟨adl, L.length, capl, rb⟩) NT9.out (by rw [HTl.out]; exact hL) rfl hcl hin (W0 := wr) TB.out.gr (fun b e => (NT.out.2.own.lt b e).2) (fun b e => NT.out.2.mem.fp_lt e) (fun t y hy => NT.out.2.rlt hy) (World.block_lt_of_cell? _ _ NT.out.2.k0) (World.block_lt_of_cell? _ _ NT.out.2.s2)
                  (fun r hr => by rw [HTl.out]; exact keep_cell b9 (TB.out.reg r hr)) fzr NT.out.2.bw.size
                  (W9 := w10) (v' := .slice g10 (T.length + 1) cap10) (by rw [thrCells_append]; exact hown10) hgrow.size hgrow.os hgrow.tape hgrow.output (fun b hb hn => hgrow.block b hb (Ne.symm hn)) (fun b e => by
                    rcases hat with e2 | e2
                    · left; rw [← e2]; exact e
                    · right; rw [e2] at e; cases e; exact Nat.le_refl _))
                clear hown10 hgrow hat hti htz hts htb hown9 hown nw9 NT9 NT8 NT7 TB TH hin hL
                go_wp2
                go_roundw
              all_goals first
                | exact ⟨t + 1, by omega, by go_num, _, _, hide ⟨by rw [List.length_append, HTl.out]; rfl, NF.out.below (Below.refl _ _).drew⟩⟩
                | exact ⟨t + 1, by omega, by go_num, _, _, hide ⟨by rw [List.length_append, HTl.out]; rfl, NF.out⟩⟩
                | (simp [intOf]; omega)
                | trace_state
        · obtain rfl : t = cs.length := by omega
          have HD : Hid (∃ p : RkPl, p.k = w2.heap.size ∧ p.B = w0.heap.size ∧ RkAt cs p (s.mach cs.length) wr ∧ ∀ b, p.fp cs.length (s.mach cs.length).mem b → w.heap.size ≤ b) := hide (NT.out.2.done NT.out.1 n1 n6)
          have HBW := hide NT.out.2.bw
          clear NT
          go_wp2
          go_ret
          obtain ⟨p, e1, e2, e3, e4⟩ := HD.out
          exact ⟨p, by rw [e1]; rfl, hide ⟨e3, e2, HBW.out, e4⟩⟩
end Go.Proofs.YtdpmnlbnlnmjbaaGreatDoor

/- CodeE -/
namespace Go.Proofs.YtdpmnlbnlnmjbaaGreatDoor
open Go.RowKit Go.Extern.Stop Go.Stop Go.Extern
theorem rbare_any (k : Int) (w : World) : Calls Tryz.prog 31 #[.int .i64 k] w fun e w' => e = .returned (.agg #[.int .i64 k, .int .i64 (-1)]) ∧ Below w.heap.size w w' := by
  go_enter Tryz.func31, Tryz.ntmps31
  go_wp2
  refine bodyPost_ret (v := .agg #[.int .i64 k, .int .i64 (-1)]) (by simp only [results, Tryz.results31]; go_simp) rfl ⟨rfl, ?_⟩
  exact (Below.refl _ _).alloc (Nat.le_refl _) _
theorem fine_any (w : World) : Calls Tryz.prog 45 #[] w fun e w' => e = .returned (.agg #[.int .i64 0, .int .i64 (-1)]) ∧ Below w.heap.size w w' := by
  go_enter Tryz.func45, Tryz.ntmps45
  go_wp2
  refine bodyPost_ret (v := .agg #[.int .i64 0, .int .i64 (-1)]) (by simp only [results, Tryz.results45]; go_simp) rfl ⟨rfl, ?_⟩
  exact (Below.refl _ _).alloc (Nat.le_refl _) _

set_option maxRecDepth 20000 in
set_option maxHeartbeats 2000000 in
theorem codeFault_any (ad : Option Addr) (cap : Nat) (l : List Ins) (w : World) (hl : insAt ad l w) :
    Calls Tryz.prog 44 #[.slice ad l.length cap] w fun e w' => e = .returned (.agg #[.int .i64 (codeFault l).1, .int .i64 (codeFault l).2]) ∧ Below w.heap.size w w' := by
  have HL := hide hl
  clear hl
  have hba : Below w.heap.size w (w.alloc (.cells #[.int .i64 0, .int .i64 0] 43)) := (Below.refl _ _).alloc (Nat.le_refl _) _
  have z0 : (w.alloc (.cells #[.int .i64 0, .int .i64 0] 43)).cell? ⟨w.heap.size, 0, none⟩ = some (.int .i64 0) := by simp
  have z1 : (w.alloc (.cells #[.int .i64 0, .int .i64 0] 43)).cell? ⟨w.heap.size, 1, none⟩ = some (.int .i64 0) := by simp
  have y0 : (w.alloc (.cells #[.int .i64 0, .int .i64 0] 43)).frozen? ⟨w.heap.size, 0, none⟩ = false := by simp
  have y1 : (w.alloc (.cells #[.int .i64 0, .int .i64 0] 43)).frozen? ⟨w.heap.size, 1, none⟩ = false := by simp
  generalize hw : w.alloc (.cells #[.int .i64 0, .int .i64 0] 43) = w1 at *
  by_cases hlen : 2000 < l.length
  · have hc : codeFault l = (2, -1) := if_pos hlen
    have hi : 2000 < (l.length : Int) := by omega
    rw [hc]
    clear hc
    go_enter Tryz.func44, Tryz.ntmps44
    go_wp2_with fail
    refine (rbare_any _ _).mono ?_
    rintro e w2 ⟨rfl, hb3⟩
    clear hw
    have r0 := keep_cell hb3 z0
    have r1 := keep_cell hb3 z1
    have hzl : w.heap.size < w1.heap.size := World.block_lt_of_cell? _ _ z0
    have x0 : w2.frozen? ⟨w.heap.size, 0, none⟩ = false := by rw [hb3.frozen hzl]; exact y0
    have x1 : w2.frozen? ⟨w.heap.size, 1, none⟩ = false := by rw [hb3.frozen hzl]; exact y1
    have B3 := below_step hba hb3
    clear z0 z1 y0 y1 hb3
    go_wp2_with fail
    refine bodyPost_ret (v := .agg #[.int .i64 2, .int .i64 (-1)]) (by simp only [results, Tryz.results44]; go_simp) rfl ⟨rfl, ?_⟩
    exact (B3.setCell (Nat.le_refl _) _).setCell (Nat.le_refl _) _
  · have hc : codeFault l = faultFrom l 0 l := if_neg hlen
    have hi : ¬ 2000 < (l.length : Int) := by omega
    rw [hc]
    clear hc
    go_enter Tryz.func44, Tryz.ntmps44
    go_wp2_with fail
    clear hw
    go_loopw [3] (fun i wr => Hid (Below w1.heap.size w1 wr) ∧ ∃ j : Nat, j ≤ l.length ∧ i = .int .i64 j ∧ Hid (∀ k y, k < j → l[k]? = some y → insFault l k y = 0)) (fun i _ => l.length - (intOf i).toNat)
    case atStart => exact ⟨Below.refl _ _, 0, Nat.zero_le _, rfl, fun k y h => absurd h (Nat.not_lt_zero _)⟩
    case round =>
      obtain ⟨HB, j, hj, rfl, HJ⟩ := hrel
      by_cases hlt : j < l.length
      · obtain ⟨x, hx⟩ : ∃ x, l[j]? = some x := ⟨_, List.getElem?_eq_getElem hlt⟩
        have HR := hide (insAt_below (insAt_below HL.out hba) HB.out)
        obtain ⟨b, off, rfl, a0, a1, a2, a3, a4⟩ := HR.out j x hx
        have ji : (j : Int) < l.length := by omega
        have HY : Hid (insFault l j x = 0 → ∀ k y, k < j + 1 → l[k]? = some y → insFault l k y = 0) := fun h k y hk hy => by
          by_cases e : k = j
          · subst e; rw [hx] at hy; cases hy; exact h
          · exact HJ.out k y (by omega) hy
        have HX : Hid (insFault l j x ≠ 0 → faultFrom l 0 l = (insFault l j x, (j : Int))) := fun h => by
          have := faultFrom_hit l l 0 j x hx (by simpa using h) (fun k y hk hy => by simpa using HJ.out k y hk hy)
          simpa using this
        clear HJ hx
        go_wp2_with fail
        refine (instr_any x _).mono ?_
        rintro e2 w2 ⟨rfl, hb2⟩
        have HB2 : Hid (Below w1.heap.size w1 w2) := below_step HB.out hb2
        have HR2 := hide (insAt_below HR.out hb2)
        replace a0 := keep_cell hb2 a0
        replace a4 := keep_cell hb2 a4
        clear HB HR hb2 a1 a2 a3
        by_cases he : insErr x = 0
        · rw [he]
          rw [show ((0 : Nat) : Int) = 0 from rfl]
          have hlen6 : l.length ≤ 1000000 := by omega
          cases k1 : (x.op.toList == [108, 97, 98, 101, 108])
          · cases k2 : (x.to.toList == [])
            · go_wp2_with fail
              refine (labelAt_any _ _ _ _ _ hlen6 HR2.out).mono ?_
              rintro e3 w3 ⟨rfl, rfl⟩
              by_cases hn : labelAt l x.to < 0
              · have HZ : Hid (faultFrom l 0 l = (5, (j : Int))) := by
                  have hv : insFault l j x = 5 := by unfold insFault; rw [if_neg (fun h => h he)]; rw [if_neg (by simp [k1]), if_pos ⟨k2, hn⟩]
                  have := HX.out (by rw [hv]; decide)
                  rwa [hv] at this
                clear HX HY
                have hb3 := HB2.out
                have r0 := keep_cell hb3 z0
                have r1 := keep_cell hb3 z1
                have hzl : w.heap.size < w1.heap.size := World.block_lt_of_cell? _ _ z0
                have x0 : w3.frozen? ⟨w.heap.size, 0, none⟩ = false := by rw [hb3.frozen hzl]; exact y0
                have x1 : w3.frozen? ⟨w.heap.size, 1, none⟩ = false := by rw [hb3.frozen hzl]; exact y1
                have B3 := below_step hba hb3
                clear z0 z1 y0 y1 hb3
                go_wp2_with fail
                refine bodyPost_ret (v := .agg #[.int .i64 5, .int .i64 j]) (by simp only [results, Tryz.results44]; go_simp) rfl ⟨by rw [HZ.out]; rfl, ?_⟩
                exact (B3.setCell (Nat.le_refl _) _).setCell (Nat.le_refl _) _
              · have HZ := hide (HY.out (by unfold insFault; rw [if_neg (fun h => h he)]; rw [if_neg (by simp [k1]), if_neg (fun h => hn h.2)]))
                clear HX HY
                go_wp2_with fail
                go_roundw
                case rel => exact ⟨HB2, j + 1, by omega, by go_num, HZ⟩
                case measure => simp [intOf]; omega
            · have HZ := hide (HY.out (by unfold insFault; rw [if_neg (fun h => h he)]; rw [if_neg (by simp [k1]), if_neg (by simp [k2])]))
              clear HX HY
              go_wp2_with fail
              go_roundw
              case rel => exact ⟨HB2, j + 1, by omega, by go_num, HZ⟩
              case measure => simp [intOf]; omega
          · go_wp2_with fail
            refine (labelAt_any _ _ _ _ _ hlen6 HR2.out).mono ?_
            rintro e3 w3 ⟨rfl, rfl⟩
            by_cases hn : labelAt l x.to = j
            · rw [hn]
              cases k2 : (x.to.toList == [])
              · go_wp2_with fail
                refine (labelAt_any _ _ _ _ _ hlen6 HR2.out).mono ?_
                rintro e3 w4 ⟨rfl, rfl⟩
                rw [hn]
                have hj0 : ¬ (j : Int) < 0 := by omega
                have HZ := hide (HY.out (by unfold insFault; rw [if_neg (fun h => h he)]; rw [if_neg (fun h => h.2 hn), if_neg (fun h => by have := h.2; omega)]))
                clear HX HY
                go_wp2_with fail
                go_roundw
                case rel => exact ⟨HB2, j + 1, by omega, by go_num, HZ⟩
                case measure => simp [intOf]; omega
              · have HZ := hide (HY.out (by unfold insFault; rw [if_neg (fun h => h he)]; rw [if_neg (fun h => h.2 hn), if_neg (by simp [k2])]))
                clear HX HY
                go_wp2_with fail
                go_roundw
                case rel => exact ⟨HB2, j + 1, by omega, by go_num, HZ⟩
                case measure => simp [intOf]; omega
            · have hne : (labelAt l x.to == (j : Int)) = false := beq_eq_false_iff_ne.2 hn
              have HZ : Hid (faultFrom l 0 l = (4, (j : Int))) := by
                have hv : insFault l j x = 4 := by unfold insFault; rw [if_neg (fun h => h he)]; rw [if_pos ⟨k1, hn⟩]
                have := HX.out (by rw [hv]; decide)
                rwa [hv] at this
              clear HX HY
              have hb3 := HB2.out
              have r0 := keep_cell hb3 z0
              have r1 := keep_cell hb3 z1
              have hzl : w.heap.size < w1.heap.size := World.block_lt_of_cell? _ _ z0
              have x0 : w3.frozen? ⟨w.heap.size, 0, none⟩ = false := by rw [hb3.frozen hzl]; exact y0
              have x1 : w3.frozen? ⟨w.heap.size, 1, none⟩ = false := by rw [hb3.frozen hzl]; exact y1
              have B3 := below_step hba hb3
              clear z0 z1 y0 y1 hb3
              go_wp2_with fail
              refine bodyPost_ret (v := .agg #[.int .i64 4, .int .i64 j]) (by simp only [results, Tryz.results44]; go_simp) rfl ⟨by rw [HZ.out]; rfl, ?_⟩
              exact (B3.setCell (Nat.le_refl _) _).setCell (Nat.le_refl _) _
        · have HZ : Hid (faultFrom l 0 l = (insErr x, (j : Int))) := by
            have hv : insFault l j x = insErr x := by unfold insFault; rw [if_pos he]
            have := HX.out (by rw [hv]; exact he)
            rwa [hv] at this
          clear HX HY
          have hb3 := HB2.out
          have r0 := keep_cell hb3 z0
          have r1 := keep_cell hb3 z1
          have hzl : w.heap.size < w1.heap.size := World.block_lt_of_cell? _ _ z0
          have x0 : w2.frozen? ⟨w.heap.size, 0, none⟩ = false := by rw [hb3.frozen hzl]; exact y0
          have x1 : w2.frozen? ⟨w.heap.size, 1, none⟩ = false := by rw [hb3.frozen hzl]; exact y1
          have B3 := below_step hba hb3
          have he0 : 0 < (insErr x : Int) := by omega
          clear z0 z1 y0 y1 hb3
          generalize insErr x = n at *
          go_wp2_with fail
          refine bodyPost_ret (v := .agg #[.int .i64 n, .int .i64 j]) (by simp only [results, Tryz.results44]; go_simp) rfl ⟨by rw [HZ.out], ?_⟩
          exact (B3.setCell (Nat.le_refl _) _).setCell (Nat.le_refl _) _
      · have HZ : Hid (faultFrom l 0 l = (0, -1)) := faultFrom_at l l 0 (fun k y hy => by simpa using HJ.out k y (by have := (List.getElem?_eq_some_iff.1 hy).1; omega) hy)
        obtain rfl : j = l.length := by omega
        clear HJ
        go_wp2_with fail
        refine (fine_any _).mono ?_
        rintro e w2 ⟨rfl, hb2⟩
        have hb3 : Below w1.heap.size w1 w2 := below_step HB.out hb2
        have r0 := keep_cell hb3 z0
        have r1 := keep_cell hb3 z1
        have hzl : w.heap.size < w1.heap.size := World.block_lt_of_cell? _ _ z0
        have x0 : w2.frozen? ⟨w.heap.size, 0, none⟩ = false := by rw [hb3.frozen hzl]; exact y0
        have x1 : w2.frozen? ⟨w.heap.size, 1, none⟩ = false := by rw [hb3.frozen hzl]; exact y1
        have B3 := below_step hba hb3
        clear z0 z1 y0 y1 hb3 hb2 HB
        go_wp2_with fail
        refine bodyPost_ret (v := .agg #[.int .i64 0, .int .i64 (-1)]) (by simp only [results, Tryz.results44]; go_simp) rfl ⟨by rw [HZ.out]; rfl, ?_⟩
        exact (B3.setCell (Nat.le_refl _) _).setCell (Nat.le_refl _) _

end Go.Proofs.YtdpmnlbnlnmjbaaGreatDoor

/- RsA -/
namespace Go.Proofs.YtdpmnlbnlnmjbaaGreatDoor
open Go.RowKit Go.Extern.Stop Go.Stop Go.Extern Go.Maps Go.WideMaps Go.Sort

set_option maxRecDepth 20000 in
set_option maxHeartbeats 1000000 in
theorem rightWords_any {ad : Option Addr} {l : List Int} {cap most : Nat} {w : World} (hl : numsAt ad l w) (hlen : l.length ≤ 9223372036854775807) :
    Calls Tryz.prog 43 #[.slice ad l.length cap, .int .i64 most] w fun e w' => e = .returned (.bool (rowOk most l)) ∧ w' = w := by
  have HL := hide hl
  clear hl
  go_enter Tryz.func43, Tryz.ntmps43
  go_wp2_with fail
  go_loopw [5] (fun i wr => ∃ j : Nat, j ≤ l.length ∧ i = .int .i64 j ∧ wr = w ∧ Hid (∀ (k : Nat) x, k < j → l[k]? = some x → wordOk x = true)) (fun i _ => l.length - (intOf i).toNat)
  case atStart => exact ⟨0, Nat.zero_le _, rfl, rfl, fun k x h => absurd h (Nat.not_lt_zero _)⟩
  case round =>
    obtain ⟨j, hj, rfl, rfl, HJ⟩ := hrel
    by_cases hlt : j < l.length
    · obtain ⟨x, hx⟩ : ∃ x, l[j]? = some x := ⟨_, List.getElem?_eq_getElem hlt⟩
      obtain ⟨b, off, rfl, c0⟩ := HL.out j x hx
      have ji : (j : Int) < l.length := by omega
      have HI := hide (isWordR_any x wr)
      cases hw : wordOk x
      · have HR : Hid (rowOk most l = false) := by
          show _ = _
          unfold rowOk
          rw [all_hit hx hw, Bool.and_false]
        rw [show decide (0 ≤ x ∧ x < 4294967296) = false from hw] at HI
        clear HL HJ hx
        go_wp2_with fail
        refine HI.out.mono ?_
        rintro e w1 ⟨rfl, rfl⟩
        go_wp2
        go_ret
        exact ⟨by rw [HR.out]; rfl, rfl⟩
      · have HR : Hid (∀ (k : Nat) x, k < j + 1 → l[k]? = some x → wordOk x = true) := fun k y hk hy => by
          by_cases e : k = j
          · subst e; rw [hx] at hy; cases hy; exact hw
          · exact HJ.out k y (by omega) hy
        rw [show decide (0 ≤ x ∧ x < 4294967296) = true from hw] at HI
        clear HL HJ hx
        go_wp2_with fail
        refine HI.out.mono ?_
        rintro e w1 ⟨rfl, rfl⟩
        go_wp2
        go_roundw
        case rel => exact ⟨j + 1, by omega, by go_num, by first | trivial | rfl, HR⟩
        case measure => simp [intOf]; omega
    · obtain rfl : j = l.length := by omega
      have HR : Hid (rowOk most l = decide (l.length ≤ most)) := by
        show _ = _
        unfold rowOk
        rw [all_done (fun k x hk hx => HJ.out k x hk hx), Bool.and_true]
      clear HL HJ
      go_wp2
      go_ret
      exact ⟨by rw [HR.out]; rfl, rfl⟩

set_option maxRecDepth 20000 in
set_option maxHeartbeats 2000000 in
theorem startFault_any {s : Sta} {ai ar ad : Option Addr} {ci cr cap : Nat} {cs : List (List Ins)} {w : World} (hs : StaAt s ⟨ai, ci, ar, cr⟩ w) (hl : codesAt ad cs w) (hc : cs.length ≤ 9223372036854775807) :
    Calls Tryz.prog 18 #[.agg #[.int .i64 s.cells, .slice ai s.init.length ci, .slice ar s.regs.length cr], .slice ad cs.length cap] w fun e w' => e = .returned (.agg #[.int .i64 (s.fault cs).1, .int .i64 (s.fault cs).2]) ∧ Below w.heap.size w w' := by
  obtain ⟨W1, hW1⟩ : ∃ W1, W1 = (w.alloc (.cells #[.int .i64 s.cells, .slice ai s.init.length ci, .slice ar s.regs.length cr] 24)).alloc (.cells #[.int .i64 0, .int .i64 0] 43) := ⟨_, rfl⟩
  have hba : Below w.heap.size w W1 := by rw [hW1]; exact ((Below.refl _ _).alloc (Nat.le_refl _) _).alloc (by simp) _
  have s0 : W1.cell? ⟨w.heap.size, 0, none⟩ = some (.int .i64 s.cells) := by rw [hW1]; simp
  have s1 : W1.cell? ⟨w.heap.size, 1, none⟩ = some (.slice ai s.init.length ci) := by rw [hW1]; simp
  have s2 : W1.cell? ⟨w.heap.size, 2, none⟩ = some (.slice ar s.regs.length cr) := by rw [hW1]; simp
  have z0 : W1.cell? ⟨w.heap.size + 1, 0, none⟩ = some (.int .i64 0) := by rw [hW1]; simp
  have z1 : W1.cell? ⟨w.heap.size + 1, 1, none⟩ = some (.int .i64 0) := by rw [hW1]; simp
  have y0 : W1.frozen? ⟨w.heap.size + 1, 0, none⟩ = false := by rw [hW1]; simp
  have y1 : W1.frozen? ⟨w.heap.size + 1, 1, none⟩ = false := by rw [hW1]; simp
  have hzl : w.heap.size + 1 < W1.heap.size := World.block_lt_of_cell? _ _ z0
  have HS : Hid (StaAt s ⟨ai, ci, ar, cr⟩ W1) := hide (hs.below hba)
  have HL : Hid (codesAt ad cs W1) := hide (hl.below hba)
  have i1 := hs.ci
  have i2 := hs.cr
  have i3 := hs.li
  have i4 := hs.lr
  dsimp only at i1 i2
  clear hs hl
  obtain ⟨n, hn⟩ : ∃ n : Nat, n = cs.length := ⟨_, rfl⟩
  by_cases c1 : s.cells < 1
  · have HZ : Hid (s.fault cs = (2, -1)) := by
      show _ = _
      unfold Sta.fault
      exact if_neg (fun h => by obtain ⟨h1, h2, h3, h4, h5⟩ := h; omega)
    rw [HZ.out]
    clear HZ HS HL
    go_enter Tryz.func18, Tryz.ntmps18
    go_wp2_with fail
    rw [← hW1]
    refine (rbare_any _ _).mono ?_
    rintro e w2 ⟨rfl, hb3⟩
    clear hW1
    have r0 := keep_cell hb3 z0
    have r1 := keep_cell hb3 z1
    have x0 : w2.frozen? ⟨w.heap.size + 1, 0, none⟩ = false := by rw [hb3.frozen hzl]; exact y0
    have x1 : w2.frozen? ⟨w.heap.size + 1, 1, none⟩ = false := by rw [hb3.frozen hzl]; exact y1
    have B3 := below_step hba hb3
    clear z0 z1 y0 y1 hb3 s0 s1 s2
    go_wp2_with fail
    refine bodyPost_ret (v := .agg #[.int .i64 2, .int .i64 (-1)]) (by simp only [results, Tryz.results18]; go_simp) rfl ⟨rfl, ?_⟩
    exact (B3.setCell (Nat.le_succ _) _).setCell (Nat.le_succ _) _
  by_cases c2 : 64 < s.cells
  · have HZ : Hid (s.fault cs = (2, -1)) := by
      show _ = _
      unfold Sta.fault
      exact if_neg (fun h => by obtain ⟨h1, h2, h3, h4, h5⟩ := h; omega)
    rw [HZ.out]
    clear HZ HS HL
    go_enter Tryz.func18, Tryz.ntmps18
    go_wp2_with fail
    rw [← hW1]
    refine (rbare_any _ _).mono ?_
    rintro e w2 ⟨rfl, hb3⟩
    clear hW1
    have r0 := keep_cell hb3 z0
    have r1 := keep_cell hb3 z1
    have x0 : w2.frozen? ⟨w.heap.size + 1, 0, none⟩ = false := by rw [hb3.frozen hzl]; exact y0
    have x1 : w2.frozen? ⟨w.heap.size + 1, 1, none⟩ = false := by rw [hb3.frozen hzl]; exact y1
    have B3 := below_step hba hb3
    clear z0 z1 y0 y1 hb3 s0 s1 s2
    go_wp2_with fail
    refine bodyPost_ret (v := .agg #[.int .i64 2, .int .i64 (-1)]) (by simp only [results, Tryz.results18]; go_simp) rfl ⟨rfl, ?_⟩
    exact (B3.setCell (Nat.le_succ _) _).setCell (Nat.le_succ _) _
  by_cases c3 : (cs.length : Int) < 1
  · have HZ : Hid (s.fault cs = (2, -1)) := by
      show _ = _
      unfold Sta.fault
      exact if_neg (fun h => by obtain ⟨h1, h2, h3, h4, h5⟩ := h; omega)
    rw [HZ.out]
    clear HZ HS HL
    go_enter Tryz.func18, Tryz.ntmps18
    go_wp2_with fail
    rw [← hW1]
    refine (rbare_any _ _).mono ?_
    rintro e w2 ⟨rfl, hb3⟩
    clear hW1
    have r0 := keep_cell hb3 z0
    have r1 := keep_cell hb3 z1
    have x0 : w2.frozen? ⟨w.heap.size + 1, 0, none⟩ = false := by rw [hb3.frozen hzl]; exact y0
    have x1 : w2.frozen? ⟨w.heap.size + 1, 1, none⟩ = false := by rw [hb3.frozen hzl]; exact y1
    have B3 := below_step hba hb3
    clear z0 z1 y0 y1 hb3 s0 s1 s2
    go_wp2_with fail
    refine bodyPost_ret (v := .agg #[.int .i64 2, .int .i64 (-1)]) (by simp only [results, Tryz.results18]; go_simp) rfl ⟨rfl, ?_⟩
    exact (B3.setCell (Nat.le_succ _) _).setCell (Nat.le_succ _) _
  by_cases c4 : 6 < (cs.length : Int)
  · have HZ : Hid (s.fault cs = (2, -1)) := by
      show _ = _
      unfold Sta.fault
      exact if_neg (fun h => by obtain ⟨h1, h2, h3, h4, h5⟩ := h; omega)
    rw [HZ.out]
    clear HZ HS HL
    go_enter Tryz.func18, Tryz.ntmps18
    go_wp2_with fail
    rw [← hW1]
    refine (rbare_any _ _).mono ?_
    rintro e w2 ⟨rfl, hb3⟩
    clear hW1
    have r0 := keep_cell hb3 z0
    have r1 := keep_cell hb3 z1
    have x0 : w2.frozen? ⟨w.heap.size + 1, 0, none⟩ = false := by rw [hb3.frozen hzl]; exact y0
    have x1 : w2.frozen? ⟨w.heap.size + 1, 1, none⟩ = false := by rw [hb3.frozen hzl]; exact y1
    have B3 := below_step hba hb3
    clear z0 z1 y0 y1 hb3 s0 s1 s2
    go_wp2_with fail
    refine bodyPost_ret (v := .agg #[.int .i64 2, .int .i64 (-1)]) (by simp only [results, Tryz.results18]; go_simp) rfl ⟨rfl, ?_⟩
    exact (B3.setCell (Nat.le_succ _) _).setCell (Nat.le_succ _) _
  by_cases c5 : s.cells < (s.init.length : Int)
  · have HZ : Hid (s.fault cs = (2, -1)) := by
      show _ = _
      unfold Sta.fault
      exact if_neg (fun h => by obtain ⟨h1, h2, h3, h4, h5⟩ := h; (unfold Sta.fits at h5; rw [Bool.and_eq_true, Bool.and_eq_true, decide_eq_true_eq] at h5; omega))
    rw [HZ.out]
    clear HZ HS HL
    go_enter Tryz.func18, Tryz.ntmps18
    go_wp2_with fail
    rw [← hW1]
    refine (rbare_any _ _).mono ?_
    rintro e w2 ⟨rfl, hb3⟩
    clear hW1
    have r0 := keep_cell hb3 z0
    have r1 := keep_cell hb3 z1
    have x0 : w2.frozen? ⟨w.heap.size + 1, 0, none⟩ = false := by rw [hb3.frozen hzl]; exact y0
    have x1 : w2.frozen? ⟨w.heap.size + 1, 1, none⟩ = false := by rw [hb3.frozen hzl]; exact y1
    have B3 := below_step hba hb3
    clear z0 z1 y0 y1 hb3 s0 s1 s2
    go_wp2_with fail
    refine bodyPost_ret (v := .agg #[.int .i64 2, .int .i64 (-1)]) (by simp only [results, Tryz.results18]; go_simp) rfl ⟨rfl, ?_⟩
    exact (B3.setCell (Nat.le_succ _) _).setCell (Nat.le_succ _) _
  by_cases c6 : (cs.length : Int) < (s.regs.length : Int)
  · have HZ : Hid (s.fault cs = (2, -1)) := by
      show _ = _
      unfold Sta.fault
      exact if_neg (fun h => by obtain ⟨h1, h2, h3, h4, h5⟩ := h; (unfold Sta.fits at h5; rw [Bool.and_eq_true, Bool.and_eq_true, Bool.and_eq_true, decide_eq_true_eq, decide_eq_true_eq] at h5; omega))
    rw [HZ.out]
    clear HZ HS HL
    go_enter Tryz.func18, Tryz.ntmps18
    go_wp2_with fail
    rw [← hW1]
    refine (rbare_any _ _).mono ?_
    rintro e w2 ⟨rfl, hb3⟩
    clear hW1
    have r0 := keep_cell hb3 z0
    have r1 := keep_cell hb3 z1
    have x0 : w2.frozen? ⟨w.heap.size + 1, 0, none⟩ = false := by rw [hb3.frozen hzl]; exact y0
    have x1 : w2.frozen? ⟨w.heap.size + 1, 1, none⟩ = false := by rw [hb3.frozen hzl]; exact y1
    have B3 := below_step hba hb3
    clear z0 z1 y0 y1 hb3 s0 s1 s2
    go_wp2_with fail
    refine bodyPost_ret (v := .agg #[.int .i64 2, .int .i64 (-1)]) (by simp only [results, Tryz.results18]; go_simp) rfl ⟨rfl, ?_⟩
    exact (B3.setCell (Nat.le_succ _) _).setCell (Nat.le_succ _) _
  have FITS : Hid (s.fits cs.length = (rowsOk 4 s.init && rowsOk 8 s.regs)) := by
    show _ = _
    unfold Sta.fits
    rw [decide_eq_true (show (s.init.length : Int) ≤ s.cells by omega), decide_eq_true (show s.regs.length ≤ cs.length by omega), Bool.true_and, Bool.true_and]
  have RNG : 1 ≤ s.cells ∧ s.cells ≤ 64 ∧ 1 ≤ cs.length ∧ cs.length ≤ 6 := ⟨by omega, by omega, by omega, by omega⟩
  have HNO : Hid (s.fits cs.length = false → s.fault cs = (2, -1)) := hide fun h => by
    unfold Sta.fault
    exact if_neg (fun h5 => by rw [h] at h5; exact absurd h5.2.2.2.2 (by decide))
  have HYES : Hid (s.fits cs.length = true → s.fault cs = codesFrom 0 cs) := hide fun h => by
    unfold Sta.fault
    exact if_pos ⟨RNG.1, RNG.2.1, RNG.2.2.1, RNG.2.2.2, h⟩
  obtain ⟨F, HF⟩ : ∃ F, Hid (F = s.fault cs) := ⟨_, hide rfl⟩
  rw [← HF.out]
  clear RNG
  go_enter Tryz.func18, Tryz.ntmps18
  go_wp2_with fail
  rw [← hW1]
  clear hW1
  go_loopw [5, 6] (fun i _ wr => ∃ j : Nat, j ≤ s.init.length ∧ i = .int .i64 j ∧ wr = W1 ∧ Hid (∀ (k : Nat) x, k < j → s.init[k]? = some x → rowOk 4 x = true)) (fun i _ _ => s.init.length - (intOf i).toNat)
  case atStart => exact ⟨0, Nat.zero_le _, rfl, rfl, fun k x h => absurd h (Nat.not_lt_zero _)⟩
  case round =>
    obtain ⟨j, hj, rfl, hwr, HJ⟩ := hrel
    have hwr := hwr.symm
    subst hwr
    by_cases hlt : j < s.init.length
    · obtain ⟨row, hrow⟩ : ∃ row, s.init[j]? = some row := ⟨_, List.getElem?_eq_getElem hlt⟩
      obtain ⟨b, off, adr, capr, hb', c0, hcr, hnr⟩ := HS.out.init j row hrow
      dsimp only at hb'
      subst hb'
      have ji : (j : Int) < s.init.length := by omega
      have HRW := hide (rightWords_any (cap := capr) (most := 4) hnr (HS.out.ri j row hrow))
      cases hw : rowOk 4 row
      · have HR : Hid (F = (2, -1)) := by
          show _ = _
          rw [HF.out]
          exact HNO.out (by rw [FITS.out, show rowsOk 4 s.init = false from all_hit hrow hw, Bool.false_and])
        rw [hw] at HRW
        clear HL HJ hrow HS hnr FITS HNO HYES
        go_wp2_with fail
        refine HRW.out.mono ?_
        rintro e w1 ⟨rfl, rfl⟩
        go_wp2_with fail
        refine (rbare_any _ _).mono ?_
        rintro e w2 ⟨rfl, hb3⟩
        have HB2 := hide hb3
        clear hb3
        have r0 := keep_cell HB2.out z0
        have r1 := keep_cell HB2.out z1
        have x0 : w2.frozen? ⟨w.heap.size + 1, 0, none⟩ = false := by rw [HB2.out.frozen hzl]; exact y0
        have x1 : w2.frozen? ⟨w.heap.size + 1, 1, none⟩ = false := by rw [HB2.out.frozen hzl]; exact y1
        have B3 := below_step hba HB2.out
        clear z0 z1 y0 y1 HB2 s0 s1 s2
        go_wp2_with fail
        refine bodyPost_ret (v := .agg #[.int .i64 2, .int .i64 (-1)]) (by simp only [results, Tryz.results18]; go_simp) rfl ⟨by rw [HR.out]; rfl, ?_⟩
        exact (B3.setCell (Nat.le_succ _) _).setCell (Nat.le_succ _) _
      · have HR : Hid (∀ (k : Nat) x, k < j + 1 → s.init[k]? = some x → rowOk 4 x = true) := fun k y hk hy => by
          by_cases e : k = j
          · subst e; rw [hrow] at hy; cases hy; exact hw
          · exact HJ.out k y (by omega) hy
        rw [hw] at HRW
        clear HL HJ hrow HS hnr
        go_wp2_with fail
        refine HRW.out.mono ?_
        rintro e w1 ⟨rfl, rfl⟩
        go_wp2
        go_roundw
        case rel => exact ⟨j + 1, by omega, by go_num, by first | trivial | rfl, HR⟩
        case measure => simp [intOf]; omega
    · obtain rfl : j = s.init.length := by omega
      have HA : Hid (rowsOk 4 s.init = true) := all_done (fun k x hk hx => HJ.out k x hk hx)
      clear HJ
      go_wp2_with fail
      go_loopw [7, 8] (fun i _ wr => ∃ j : Nat, j ≤ s.regs.length ∧ i = .int .i64 j ∧ wr = W1 ∧ Hid (∀ (k : Nat) x, k < j → s.regs[k]? = some x → rowOk 8 x = true)) (fun i _ _ => s.regs.length - (intOf i).toNat)
      case atStart => exact ⟨0, Nat.zero_le _, rfl, rfl, fun k x h => absurd h (Nat.not_lt_zero _)⟩
      case round =>
        obtain ⟨j, hj, rfl, hwr, HJ⟩ := hrel
        have hwr := hwr.symm
        subst hwr
        by_cases hlt : j < s.regs.length
        · obtain ⟨row, hrow⟩ : ∃ row, s.regs[j]? = some row := ⟨_, List.getElem?_eq_getElem hlt⟩
          obtain ⟨b, off, adr, capr, hb', c0, hcr, hnr⟩ := HS.out.regs j row hrow
          dsimp only at hb'
          subst hb'
          have ji : (j : Int) < s.regs.length := by omega
          have HRW := hide (rightWords_any (cap := capr) (most := 8) hnr (HS.out.rr j row hrow))
          cases hw : rowOk 8 row
          · have HR : Hid (F = (2, -1)) := by
              show _ = _
              rw [HF.out]
              exact HNO.out (by rw [FITS.out, show rowsOk 8 s.regs = false from all_hit hrow hw, Bool.and_false])
            rw [hw] at HRW
            clear HL HJ hrow HS hnr FITS HNO HYES
            go_wp2_with fail
            refine HRW.out.mono ?_
            rintro e w1 ⟨rfl, rfl⟩
            go_wp2_with fail
            refine (rbare_any _ _).mono ?_
            rintro e w2 ⟨rfl, hb3⟩
            have HB2 := hide hb3
            clear hb3
            have r0 := keep_cell HB2.out z0
            have r1 := keep_cell HB2.out z1
            have x0 : w2.frozen? ⟨w.heap.size + 1, 0, none⟩ = false := by rw [HB2.out.frozen hzl]; exact y0
            have x1 : w2.frozen? ⟨w.heap.size + 1, 1, none⟩ = false := by rw [HB2.out.frozen hzl]; exact y1
            have B3 := below_step hba HB2.out
            clear z0 z1 y0 y1 HB2 s0 s1 s2
            go_wp2_with fail
            refine bodyPost_ret (v := .agg #[.int .i64 2, .int .i64 (-1)]) (by simp only [results, Tryz.results18]; go_simp) rfl ⟨by rw [HR.out]; rfl, ?_⟩
            exact (B3.setCell (Nat.le_succ _) _).setCell (Nat.le_succ _) _
          · have HR : Hid (∀ (k : Nat) x, k < j + 1 → s.regs[k]? = some x → rowOk 8 x = true) := fun k y hk hy => by
              by_cases e : k = j
              · subst e; rw [hrow] at hy; cases hy; exact hw
              · exact HJ.out k y (by omega) hy
            rw [hw] at HRW
            clear HL HJ hrow HS hnr
            go_wp2_with fail
            refine HRW.out.mono ?_
            rintro e w1 ⟨rfl, rfl⟩
            go_wp2
            go_roundw
            case rel => exact ⟨j + 1, by omega, by go_num, by first | trivial | rfl, HR⟩
            case measure => simp [intOf]; omega
        · obtain rfl : j = s.regs.length := by omega
          have HFC : Hid (F = codesFrom 0 cs) := by
            show _ = _
            rw [HF.out]
            exact HYES.out (by rw [FITS.out, HA.out, show rowsOk 8 s.regs = true from all_done (fun k x hk hx => HJ.out k x hk hx)]; rfl)
          clear HJ HS HNO HYES FITS HF HA
          go_wp2_with fail
          go_loopw [9] (fun i wr => ∃ j : Nat, j ≤ cs.length ∧ i = .int .i64 j ∧ Hid (Below W1.heap.size W1 wr) ∧ Hid (∀ (t : Nat) L, t < j → cs[t]? = some L → (codeFault L).1 = 0)) (fun i _ => cs.length - (intOf i).toNat)
          case atStart => exact ⟨0, Nat.zero_le _, rfl, Below.refl _ _, fun k x h => absurd h (Nat.not_lt_zero _)⟩
          case round =>
            obtain ⟨j, hj, rfl, HB, HJ⟩ := hrel
            by_cases hlt : j < cs.length
            · obtain ⟨L, hLj⟩ : ∃ L, cs[j]? = some L := ⟨_, List.getElem?_eq_getElem hlt⟩
              obtain ⟨b, off, adl, capl, rfl, c0, hcl, hin, -⟩ := (HL.out.below HB.out) j L hLj
              have ji : (j : Int) < cs.length := by omega
              have HCF := hide (codeFault_any adl capl L wr hin)
              cases hz : (codeFault L).1 with
              | zero =>
                have HR : Hid (∀ (t : Nat) L, t < j + 1 → cs[t]? = some L → (codeFault L).1 = 0) := fun k y hk hy => by
                  by_cases e : k = j
                  · subst e; rw [hLj] at hy; cases hy; exact hz
                  · exact HJ.out k y (by omega) hy
                rw [hz, show ((0 : Nat) : Int) = 0 from rfl] at HCF
                generalize (codeFault L).2 = c2 at *
                clear HJ hLj hin
                go_wp2_with fail
                refine HCF.out.mono ?_
                rintro e w4 ⟨rfl, hb4⟩
                have HB4 := hide ((HB.out.trans (hb4.mono HB.out.size)).alloc (HB.out.trans (hb4.mono HB.out.size)).size (.cells #[.int .i64 0, .int .i64 c2] 43))
                clear HB hb4 HCF
                go_wp2
                go_roundw
                case rel => exact ⟨j + 1, by omega, by go_num, HB4, HR⟩
                case measure => simp [intOf]; omega
              | succ k =>
                have HR : Hid (F = ((k + 1 : Nat), (j : Int))) := by
                  show _ = _
                  rw [HFC.out, codesFrom_hit cs 0 j L hLj (by rw [hz]; exact Nat.succ_ne_zero k) (fun t L' ht hl => HJ.out t L' ht hl), hz, Nat.zero_add]
                rw [hz] at HCF
                have kp : 0 < (((k + 1 : Nat) : Int)) := by omega
                generalize (codeFault L).2 = c2 at *
                clear HJ hLj hin hz
                generalize hke : (((k + 1 : Nat) : Int)) = ke at *
                go_wp2_with fail
                refine HCF.out.mono ?_
                rintro e w4 ⟨rfl, hb4⟩
                have b4 := HB.out.trans (hb4.mono HB.out.size)
                have r0 := keep_cell b4 z0
                have r1 := keep_cell b4 z1
                have x0 : w4.frozen? ⟨w.heap.size + 1, 0, none⟩ = false := by rw [b4.frozen hzl]; exact y0
                have x1 : w4.frozen? ⟨w.heap.size + 1, 1, none⟩ = false := by rw [b4.frozen hzl]; exact y1
                have lz : w.heap.size + 1 < w4.heap.size := World.block_lt_of_cell? _ _ r0
                have B3 := below_step hba b4
                clear z0 z1 y0 y1 s0 s1 s2 HB hb4 b4 HCF HFC
                go_wp2_with fail
                refine bodyPost_ret (v := .agg #[.int .i64 ke, .int .i64 j]) (by simp only [results, Tryz.results18]; go_simp) rfl ⟨by rw [HR.out, ← hke], ?_⟩
                first
                | exact ((B3.setCell (Nat.le_succ _) _).setCell (Nat.le_succ _) _).alloc (by simp; exact B3.size) _
                | exact ((B3.alloc B3.size _).setCell (Nat.le_succ _) _).setCell (Nat.le_succ _) _
            · obtain rfl : j = cs.length := by omega
              have HR : Hid (F = (0, -1)) := by
                show _ = _
                rw [HFC.out]
                exact codesFrom_none cs 0 (fun t L ht => HJ.out t L (List.getElem?_eq_some_iff.1 ht).1 ht)
              clear HJ HFC
              go_wp2_with fail
              refine (fine_any _).mono ?_
              rintro e w4 ⟨rfl, hb4⟩
              have HB2 := hide (HB.out.trans (hb4.mono HB.out.size))
              clear HB hb4
              have r0 := keep_cell HB2.out z0
              have r1 := keep_cell HB2.out z1
              have x0 : w4.frozen? ⟨w.heap.size + 1, 0, none⟩ = false := by rw [HB2.out.frozen hzl]; exact y0
              have x1 : w4.frozen? ⟨w.heap.size + 1, 1, none⟩ = false := by rw [HB2.out.frozen hzl]; exact y1
              have B3 := below_step hba HB2.out
              clear z0 z1 y0 y1 HB2 s0 s1 s2
              go_wp2_with fail
              refine bodyPost_ret (v := .agg #[.int .i64 0, .int .i64 (-1)]) (by simp only [results, Tryz.results18]; go_simp) rfl ⟨by rw [HR.out]; rfl, ?_⟩
              exact (B3.setCell (Nat.le_succ _) _).setCell (Nat.le_succ _) _
end Go.Proofs.YtdpmnlbnlnmjbaaGreatDoor
