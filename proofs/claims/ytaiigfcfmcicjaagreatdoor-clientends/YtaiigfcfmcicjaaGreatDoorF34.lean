import Derived.Test.YtaiigfcfmcicjaaGreatDoorF33
import Derived.Deep.RegionLaw
namespace Go.Proofs.YtaiigfcfmcicjaaGreatDoor
set_option maxRecDepth 100000
set_option maxHeartbeats 8000000
section
open Go.RowKit Go.Extern.Stop Go.Stop Go.Extern Go.Maps Go.WideMaps Go.Sort
variable {W : World} {cs : List (List Ins)} {w0 w : World} {rb bx : Nat} {wr : World} {A : Value}
theorem Nm1.start {bs k : Nat} {sv : Array Value} {mb : Nat} {s : Sta} {sr : Value} {rp : RmPl} {R : Rm} (h : Nm1 w bs k sv #[.pointer (some ⟨mb, 0, none⟩), .slice none 0 0, .slice none 0 0, .int .i64 0] mb rp R W) (hs : sv[2]? = some sr) (hk : k ≠ bs) (h0 : Below w0.heap.size w0 w) : Nm2 w0 w bs k s cs sr rp R [] (.slice none 0 0) W := by
 have ck : ∀ o u, (#[.pointer (some ⟨mb, 0, none⟩), .slice none 0 0, .slice none 0 0, .int .i64 0] : Array Value)[o]? = some u -> W.cell? ⟨k, o, none⟩ = some u := fun o u hu => by
  simp [World.cell?, h.bk, hu]
 refine ⟨h.mem, h.fp, h.gk, h.gs, hk, by rw [h.emb]; exact ck 0 _ rfl, ck 1 _ rfl, ck 2 _ rfl, ck 3 _ rfl, fun o => by simp [World.frozen?, h.bk], ?_, h.bw, World.ownsRow_nil _ _ _ _, fun b e => (by cases e), h0, fun t x hx => (by simp at hx), fun t x hx => (by simp at hx), fun t x hx => (by simp at hx), fun t u x y hx => (by simp at hx)⟩
 simp [World.cell?, h.bb, hs]
structure ThrAt (wr : World) (rb bx : Nat) (A : Value) (f : Nat -> Int) (W : World) : Prop where
 b : Below wr.heap.size wr W
 gr : wr.heap.size <= rb
 gx : wr.heap.size <= bx
 ne : bx ≠ rb
 x0 : W.cell? ⟨bx, 0, none⟩ = some A
 x1 : W.cell? ⟨bx, 1, none⟩ = some (.slice (some ⟨rb, 0, none⟩) 8 8)
 x2 : W.cell? ⟨bx, 2, none⟩ = some (.int .i64 0)
 reg : ∀ r, r < 8 -> W.cell? ⟨rb, r, none⟩ = some (.int .i64 (f r))
 fz : ∀ o, W.frozen? ⟨rb, o, none⟩ = false
theorem zero8 {r : Nat} (hr : r < 8) : (#[.int .i64 0, .int .i64 0, .int .i64 0, .int .i64 0, .int .i64 0, .int .i64 0, .int .i64 0, .int .i64 0] : Array Value)[r]? = some (.int .i64 0) := by
 match r, hr with
 | 0, _ => rfl
 | 1, _ => rfl
 | 2, _ => rfl
 | 3, _ => rfl
 | 4, _ => rfl
 | 5, _ => rfl
 | 6, _ => rfl
 | 7, _ => rfl
theorem cell_two (w : World) (C D : Array Value) (ty uy : TypeId) (o : Nat) (u : Value) (h : C[o]? = some u) : ((w.alloc (.cells C ty)).alloc (.cells D uy)).cell? ⟨w.heap.size, o, none⟩ = some u := by
 have := (blk3 w (.cells C ty) (.cells D uy) (.cells D uy))
 rw [cell_new (w := w.alloc (.cells C ty)) (v := u)]
 rw [World.cell?_alloc_new]; exact h
theorem cell_two' (w : World) (C D : Array Value) (ty uy : TypeId) (o : Nat) (u : Value) (h : D[o]? = some u) : ((w.alloc (.cells C ty)).alloc (.cells D uy)).cell? ⟨w.heap.size + 1, o, none⟩ = some u := by
 have e : (w.alloc (.cells C ty)).heap.size = w.heap.size + 1 := by simp
 rw [<- e, World.cell?_alloc_new]; exact h
theorem fz_two (w : World) (C D : Array Value) (ty uy : TypeId) (o : Nat) : ((w.alloc (.cells C ty)).alloc (.cells D uy)).frozen? ⟨w.heap.size, o, none⟩ = false := by
 have hb := (Below.refl (w.alloc (.cells C ty)).heap.size (w.alloc (.cells C ty))).alloc nL (.cells D uy)
 have e := (hb.block w.heap.size (by simp)).trans (heap_new w (.cells C ty))
 simp [World.frozen?, e]
theorem fz_two' (w : World) (C D : Array Value) (ty uy : TypeId) (o : Nat) : ((w.alloc (.cells C ty)).alloc (.cells D uy)).frozen? ⟨w.heap.size + 1, o, none⟩ = false := by
 have h := heap_new (w.alloc (.cells C ty)) (.cells D uy)
 rw [show (w.alloc (.cells C ty)).heap.size = w.heap.size + 1 by simp] at h
 generalize (w.alloc (.cells C ty)).alloc (.cells D uy) = W at h ⊢
 simp [World.frozen?, h]
theorem ThrAt.of1 (wr : World) (A : Value) : ThrAt wr wr.heap.size (wr.heap.size + 1) A (fun _ => 0) ((wr.alloc (.cells #[.int .i64 0, .int .i64 0, .int .i64 0, .int .i64 0, .int .i64 0, .int .i64 0, .int .i64 0, .int .i64 0] 3)).alloc (.cells #[A, .slice (some ⟨wr.heap.size, 0, none⟩) 8 8, .int .i64 0] 56)).drew where
 b := ((bRf.alloc nL _).alloc (by simp) _).drew
 gr := Nat.le_refl _
 gx := Nat.le_succ _
 ne := by omega
 x0 := cell_two' _ _ _ _ _ 0 _ rfl
 x1 := cell_two' _ _ _ _ _ 1 _ rfl
 x2 := cell_two' _ _ _ _ _ 2 _ rfl
 reg r hr := cell_two _ _ _ _ _ r _ (zero8 hr)
 fz o := fz_two _ _ _ _ _ o
theorem ThrAt.of2 (wr : World) (A : Value) : ThrAt wr (wr.heap.size + 1) wr.heap.size A (fun _ => 0) ((wr.alloc (.cells #[A, .slice (some ⟨wr.heap.size + 1, 0, none⟩) 8 8, .int .i64 0] 56)).alloc (.cells #[.int .i64 0, .int .i64 0, .int .i64 0, .int .i64 0, .int .i64 0, .int .i64 0, .int .i64 0, .int .i64 0] 3)).drew where
 b := ((bRf.alloc nL _).alloc (by simp) _).drew
 gr := Nat.le_succ _
 gx := Nat.le_refl _
 ne := by omega
 x0 := cell_two _ _ _ _ _ 0 _ rfl
 x1 := cell_two _ _ _ _ _ 1 _ rfl
 x2 := cell_two _ _ _ _ _ 2 _ rfl
 reg r hr := cell_two' _ _ _ _ _ r _ (zero8 hr)
 fz o := fz_two' _ _ _ _ _ o
theorem ThrAt.copy (h : ThrAt wr rb bx A (fun _ => 0) W) (row : List Int) (h8 : row.length <= 8) : ThrAt wr rb bx A (fun r => row.getD r 0) (W.setCells rb 0 (row.map (Value.int .i64))) where
 b := h.b.trans ((turns_setCells rb (row.map (Value.int .i64)) 0 W (Turns.refl (fun k _ => k = rb) W) (fun _ _ => rfl)).below h.b.size (fun k _ hk e => by have := h.gr; omega))
 gr := h.gr
 gx := h.gx
 ne := h.ne
 x0 := by rw [World.cell?_setCells_out _ _ _ _ _ (fun e _ => absurd e h.ne)]; exact h.x0
 x1 := by rw [World.cell?_setCells_out _ _ _ _ _ (fun e _ => absurd e h.ne)]; exact h.x1
 x2 := by rw [World.cell?_setCells_out _ _ _ _ _ (fun e _ => absurd e h.ne)]; exact h.x2
 reg r hr := by
  by_cases e : r < row.length
  ·have := World.cell?_setCells_in rb (row.map (Value.int .i64)) 0 W (fun j hj => by rw [List.length_map] at hj; rw [Nat.zero_add, h.reg j (by omega)]; rfl) r (by rw [List.length_map]; exact e)
   rw [Nat.zero_add] at this
   rw [this, List.getElem_map, List.getD_eq_getElem?_getD, List.getElem?_eq_getElem e]; rfl
  ·rw [World.cell?_setCells_out _ _ _ _ _ (fun _ _ => Or.inr (by rw [List.length_map]; show 0 + row.length <= r; omega)), h.reg r hr, List.getD_eq_getElem?_getD, List.getElem?_eq_none (by omega)]; rfl
 fz o := by rw [World.frozen?_setCells]; exact h.fz o
theorem ThrAt.drew {f : Nat -> Int} (h : ThrAt wr rb bx A f W) : ThrAt wr rb bx A f W.drew := ⟨h.b.drew, h.gr, h.gx, h.ne, h.x0, h.x1, h.x2, h.reg, h.fz⟩
theorem setCells_drew (b : Nat) : ∀ (l : List Value) (o : Nat) (w : World), w.drew.setCells b o l = (w.setCells b o l).drew
 | [], _, _ => rfl
 | v :: l, o, w => setCells_drew b l (o + 1) (w.setCell ⟨b, o, none⟩ v)
theorem newMachine_any {s : Sta} {ai ar ad : Option Addr} {ci cr cap : Nat} (h0 : Below w0.heap.size w0 w) (hs : StaAt s ⟨ai, ci, ar, cr⟩ w) (hl : codesAt ad cs w0) (h1 : 1 <= s.cells) (h64 : s.cells <= 64) (n1 : 1 <= cs.length) (n6 : cs.length <= 6) (hfit : s.fits cs.length = true) :
  Calls Tryz.prog 20 #[.agg #[.int .i64 s.cells, .slice ai s.init.length ci, .slice ar s.regs.length cr], .slice ad cs.length cap] w fun e w' => ∃ p : RkPl, e = .returned (.pointer (some ⟨p.k, 0, none⟩)) /\ Hid (RkAt cs p (s.mach cs.length) w' /\ p.B = w0.heap.size /\ Below w.heap.size w w' /\ ∀ b, p.fp cs.length (s.mach cs.length).mem b -> w.heap.size <= b) := by
 obtain ⟨f1, f2, f3, f4⟩ := Sta.fits_of hfit
 obtain ⟨C, hC⟩ := Int.eq_ofNat_of_zero_le (show 0 <= s.cells by omega)
 have hCt : s.cells.toNat = C := by omega
 rw [hC]
 obtain ⟨W1, hW1⟩ : ∃ W1, W1 = w.alloc (.cells #[.int .i64 C, .slice ai s.init.length ci, .slice ar s.regs.length cr] 45) := ⟨_, rfl⟩
 have b1 : Below w.heap.size w W1 := by rw [hW1]; exact bRf.alloc nL _
 have hbb : W1.heap[w.heap.size]? = some (.cells #[.int .i64 C, .slice ai s.init.length ci, .slice ar s.regs.length cr] 45) := by rw [hW1]; exact heap_new w _
 have s0 : W1.cell? ⟨w.heap.size, 0, none⟩ = some (.int .i64 C) := by rw [hW1]; simp
 have HN := hide (newMem_any C cs.length W1 (by omega) (by omega))
 have HS := hide hs
 have HL := hide hl
 have i1 := hs.ci
 have i2 := hs.cr
 have i3 : s.init.length <= 64 := by omega
 have i4 : s.regs.length <= 6 := by omega
 dsimp only at i1 i2
 clear hs hl
 go_enter Tryz.func20, Tryz.ntmps20
 go_wp2_with fail
 rw [<- hW1]
 refine HN.out.mono ?_
 rintro e w2 ⟨rp0, rfl, hm2, hb2, hf2⟩
 have l1 : w.heap.size < W1.heap.size := by rw [hW1]; simp
 obtain ⟨W3, hW3⟩ : ∃ W3, W3 = w2.alloc (.cells #[.pointer (some ⟨rp0.mb, 0, none⟩), .slice none 0 0, .slice none 0 0, .int .i64 0] 61) := ⟨_, rfl⟩
 have b3 : Below w2.heap.size w2 W3 := by rw [hW3]; exact bRf.alloc nL _
 have N3 : Hid (Nm1 w w.heap.size w2.heap.size #[.int .i64 C, .slice ai s.init.length ci, .slice ar s.regs.length cr] #[.pointer (some ⟨rp0.mb, 0, none⟩), .slice none 0 0, .slice none 0 0, .int .i64 0] rp0.mb rp0 (s.at1 cs.length 0 0).mem W3) := hide {
  mem := by
   have : (s.at1 cs.length 0 0).mem = Rm.fresh C cs.length := by
    show Rm.mk _ _ _ = _
    rw [hCt, List.take_zero, Ar.filled_nil]
   rw [this]
   exact hm2.below b3
  emb := rfl
  fp := fun b hb => by
   have : (s.at1 cs.length 0 0).mem = Rm.fresh C cs.length := by
    show Rm.mk _ _ _ = _
    rw [hCt, List.take_zero, Ar.filled_nil]
   rw [this] at hb
   have a1 := hf2 b hb
   have a2 := hm2.fp_lt hb
   exact ⟨by omega, by omega, by omega⟩
  gk := by have := hb2.size; omega
  gs := Nat.le_refl _
  bk := by rw [hW3]; exact heap_new w2 _
  bb := by rw [b3.block _ (by have := hb2.size; omega), hb2.block _ l1]; exact hbb
  bw := below_step b1 (hb2.trans (b3.mono hb2.size)) }
 have hks : w2.heap.size ≠ w.heap.size := by have := hb2.size; omega
 clear HN s0 hm2 hb2 hf2 b3 hbb b1 hW1
 go_wp2_with fail
 rw [<- hW3]
 clear hW3
 go_loopw [6] (fun i wr => ∃ j : Nat, j <= s.init.length /\ i = .int .i64 j /\ ∃ rp, Hid (Nm1 w w.heap.size w2.heap.size #[.int .i64 C, .slice ai s.init.length ci, .slice ar s.regs.length cr] #[.pointer (some ⟨rp0.mb, 0, none⟩), .slice none 0 0, .slice none 0 0, .int .i64 0] rp0.mb rp (s.at1 cs.length j 0).mem wr)) (fun i _ => s.init.length - (intOf i).toNat)
 case atStart => exact ⟨0, Nat.zero_le _, rfl, rp0, N3⟩
 case round =>
  clear N3
  obtain ⟨j, hj, rfl, rp, NJ⟩ := hrel
  have kc0 : wr.cell? ⟨w2.heap.size, 0, none⟩ = some (.pointer (some ⟨rp0.mb, 0, none⟩)) := by simp [World.cell?, NJ.out.bk]
  have sc1 : wr.cell? ⟨w.heap.size, 1, none⟩ = some (.slice ai s.init.length ci) := by simp [World.cell?, NJ.out.bb]
  by_cases hlt : j < s.init.length
  ·obtain ⟨row, hrow⟩ : ∃ x, s.init[j]? = some x := ⟨_, List.getElem?_eq_getElem hlt⟩
   obtain ⟨b, off, adr, capr, hq, cW, hcp, hnW⟩ := HS.out.init j row hrow
   obtain rfl : ai = some ⟨b, off, none⟩ := hq
   obtain ⟨r4, -⟩ := rowOk_at f2 hrow
   have ji : (j : Int) < s.init.length := by omega
   have hfree := Ar.free_some (Sta.at1_free (s := s) (n := cs.length) (t := 0) hlt f1)
   have HA := hide (ralloc_step rp (s.at1 cs.length j 0).mem j wr NJ.out.mem hfree.1 hfree.2.1 hfree.2.2 (by rw [Sta.at1_given hlt]; decide))
   rw [NJ.out.emb] at HA
   have hE : Hid ((s.at1 cs.length j 0).rowPart j row row.length = s.at1 cs.length (j + 1) 0) := hide (Sta.at1_row hrow r4)
   have hsz : j < (s.at1 cs.length j 0).mem.ar.size := hfree.1
   generalize (s.at1 cs.length j 0).mem.ar.given j = gg at *
   go_wp2_with fail
   refine HA.out.mono ?_
   rintro e w4 ⟨rfl, rp4, q4⟩
   have N4 := hide (NJ.out.step q4)
   clear HA NJ kc0 sc1
   have kc0 : w4.cell? ⟨w2.heap.size, 0, none⟩ = some (.pointer (some ⟨rp0.mb, 0, none⟩)) := by simp [World.cell?, N4.out.bk]
   have sc1 : w4.cell? ⟨w.heap.size, 1, none⟩ = some (.slice (some ⟨b, off, none⟩) s.init.length ci) := by simp [World.cell?, N4.out.bb]
   have hP0 : Hid (((s.at1 cs.length j 0).rowPart j row 0).mem = (s.at1 cs.length j 0).mem.give j) := hide (by rw [Mk.rowPart_zero]; rfl)
   have mC := N4.out.mem.mCells
   have mcc := N4.out.mem.ccap
   have mW := N4.out.mem.cWords j hsz
   have mwc := N4.out.mem.wcap j hsz
   have cW4 := keep_cell N4.out.bw cW
   rw [N4.out.emb] at mC
   have hsz4 : (j : Int) < ((s.at1 cs.length j 0).mem.give j).ar.size := by have : j < ((s.at1 cs.length j 0).mem.give j).ar.size := hsz; omega
   have hu : (Tryz.prog).underlying 54 = some (.slice 3) := Tryz.underlying54
   have hz1 : ((Tryz.prog).info? 3).map (·.size) = some 1 := by kernel_rfl
   have HLY := hide (RmStep.lay (rp := rp4) (M := s.at1 cs.length j 0) (i := j) r4 row 0 (w := w4) rfl (Nat.zero_le _) (by rw [hP0.out]; exact hsz) (by rw [hP0.out]; exact N4.out.mem))
   have hE2 : Hid (((s.at1 cs.length j 0).rowPart j row row.length).mem = (s.at1 cs.length (j + 1) 0).mem) := hide (by rw [hE.out])
   rw [hE2.out, hP0.out] at HLY
   cases hL : row.length with
   | zero =>
    obtain rfl := List.eq_nil_of_length_eq_zero hL
    have N5 : Hid (Nm1 w w.heap.size w2.heap.size #[.int .i64 C, .slice (some ⟨b, off, none⟩) s.init.length ci, .slice ar s.regs.length cr] #[.pointer (some ⟨rp0.mb, 0, none⟩), .slice none 0 0, .slice none 0 0, .int .i64 0] rp0.mb rp4 (s.at1 cs.length (j + 1) 0).mem w4.drew) := hide ((N4.out.step HLY.out).below bRf.drew)
    rw [hL] at cW4
    clear HLY hE hE2 hP0 q4 cW hfree hrow
    generalize ((s.at1 cs.length j 0).mem.give j).ar.size = SZ at *
    go_wp2_with fail
    go_region_law (refine step_copy_none _ (by rfl) _ _ _ 3 (by rfl) _ _ _ _ _ (by rfl) (by rfl) hu hz1 ?_)
    all_goals
     go_wp2
     go_roundw
    all_goals first
     | exact ⟨j + 1, by omega, by go_num, rp4, N5⟩
     | (simp [intOf]; omega)
   | succ n =>
    obtain ⟨x0, hx0⟩ : ∃ x, row[0]? = some x := ⟨_, List.getElem?_eq_getElem (by omega)⟩
    obtain ⟨ab, ao, rfl, -⟩ := hnW 0 x0 hx0
    have HNs : Hid (∀ (i : Nat) u, (row.map (Value.int .i64))[i]? = some u -> w4.cell? ((⟨ab, ao, none⟩ : Addr).add i) = some u) := hide fun i u hu => by
     rw [List.getElem?_map] at hu
     cases hr : row[i]? with
     | none => rw [hr] at hu; cases hu
     | some y =>
      rw [hr] at hu; cases hu
      obtain ⟨b', o', e1, e2⟩ := hnW i y hr
      cases e1
      rw [Addr.add_lit]
      exact keep_cell N4.out.bw e2
    have hmin : (row.map (Value.int .i64)).length = Nat.min (n + 1) 4 := by rw [List.length_map, hL]; have : Nat.min (n + 1) 4 = min (n + 1) 4 := rfl; rw [this]; omega
    have HCc : Hid (∀ i, i < (row.map (Value.int .i64)).length -> (w4.cell? ⟨rp4.wb j, 0 + i, none⟩).isSome = true) := hide fun i hi => by
     rw [List.length_map] at hi
     rw [Nat.zero_add, N4.out.mem.words j i hsz (by omega)]; rfl
    have HCf : Hid (∀ i, i < (row.map (Value.int .i64)).length -> w4.frozen? ⟨rp4.wb j, 0 + i, none⟩ = false) := hide fun i _ => N4.out.mem.fw j _ hsz
    have H1c : ∀ u ∈ row.map (Value.int .i64), u.oneCell' = true := fun u hu => by
     obtain ⟨y, -, rfl⟩ := List.mem_map.1 hu
     rfl
    have N5 : Hid (Nm1 w w.heap.size w2.heap.size #[.int .i64 C, .slice (some ⟨b, off, none⟩) s.init.length ci, .slice ar s.regs.length cr] #[.pointer (some ⟨rp0.mb, 0, none⟩), .slice none 0 0, .slice none 0 0, .int .i64 0] rp0.mb rp4 (s.at1 cs.length (j + 1) 0).mem (w4.setCells (rp4.wb j) 0 (row.map (Value.int .i64))).drew) := hide ((N4.out.step HLY.out).below bRf.drew)
    have N6 : Hid (Nm1 w w.heap.size w2.heap.size #[.int .i64 C, .slice (some ⟨b, off, none⟩) s.init.length ci, .slice ar s.regs.length cr] #[.pointer (some ⟨rp0.mb, 0, none⟩), .slice none 0 0, .slice none 0 0, .int .i64 0] rp0.mb rp4 (s.at1 cs.length (j + 1) 0).mem (w4.drew.setCells (rp4.wb j) 0 (row.map (Value.int .i64)))) := hide (by rw [setCells_drew]; exact N5.out)
    rw [hL] at cW4
    clear HLY hE hE2 hP0 q4 cW hfree hrow hnW hx0
    generalize ((s.at1 cs.length j 0).mem.give j).ar.size = SZ at *
    generalize row.map (Value.int .i64) = RC at *
    go_wp2_with fail
    go_region_law (refine step_copy_cells _ (by rfl) _ _ _ 3 (by rfl) (rp4.wb j) 0 4 (rp4.wcap j) ⟨ab, ao, none⟩ (n + 1) capr RC (by rfl) (by rfl) hu hz1 hmin (fun i u hi => HNs.out i u hi) (fun i hi => HCc.out i hi) (fun i hi => HCf.out i hi) H1c ?_)
    all_goals
     go_wp2
     go_roundw
    all_goals first
     | exact ⟨j + 1, by omega, by go_num, rp4, N5⟩
     | exact ⟨j + 1, by omega, by go_num, rp4, N6⟩
     | (simp [intOf]; omega)
     | trace_state
  ·obtain rfl : j = s.init.length := by omega
   have hR : Hid ((s.at1 cs.length s.init.length 0).mem = (s.mach cs.length).mem) := hide (by rw [<- Sta.at1_end]; rfl)
   have N2 : Hid (Nm2 w0 w w.heap.size w2.heap.size s cs (.slice ar s.regs.length cr) rp (s.mach cs.length).mem [] (.slice none 0 0) wr) := hide (by have := NJ.out.start (s := s) (cs := cs) (sr := .slice ar s.regs.length cr) (by simp) hks h0; rw [hR.out] at this; exact this)
   clear NJ hR hlt f2 i3
   go_wp2_with fail
   clear kc0 sc1
   generalize wr = w5 at *
   go_loopw [7] (fun i wr => ∃ t : Nat, t <= cs.length /\ i = .int .i64 t /\ ∃ T v, Hid (T.length = t /\ Nm2 w0 w w.heap.size w2.heap.size s cs (.slice ar s.regs.length cr) rp (s.mach cs.length).mem T v wr)) (fun i _ => cs.length - (intOf i).toNat)
   case atStart => exact ⟨0, Nat.zero_le _, rfl, [], _, hide ⟨rfl, N2.out⟩⟩
   case round =>
    clear N2
    obtain ⟨t, ht, rfl, T, v, NT⟩ := hrel
    have n6i : (cs.length : Int) <= 6 := by omega
    by_cases hlt : t < cs.length
    ·obtain ⟨L, hL⟩ : ∃ L, cs[t]? = some L := ⟨_, List.getElem?_eq_getElem hlt⟩
     obtain ⟨cb, co, adl, capl, hq, c0, hcl, hin, -⟩ := HL.out t L hL
     subst hq
     replace c0 := keep_cell NT.out.2.bw (keep_cell h0 c0)
     have ti : (t : Int) < cs.length := by omega
     have m8 := make8
     have lcb : cb < wr.heap.size := bLt c0
     go_wp2_with fail
     go_region
     ·obtain ⟨W7, hW7⟩ : ∃ W7, W7 = ((wr.alloc (.cells #[.int .i64 0, .int .i64 0, .int .i64 0, .int .i64 0, .int .i64 0, .int .i64 0, .int .i64 0, .int .i64 0] 3)).alloc (.cells #[.slice adl L.length capl, .slice (some ⟨wr.heap.size, 0, none⟩) 8 8, .int .i64 0] 56)).drew := ⟨_, rfl⟩
      have TA := ThrAt.of1 wr (.slice adl L.length capl)
      rw [<- hW7] at TA ⊢
      clear hW7
      generalize wr.heap.size + 1 = bx at *
      generalize hrb : wr.heap.size = rb at TA ⊢
      have TH := hide TA
      have hTl : T.length = t := NT.out.1
      have HTl := hide hTl
      have hT6 : T.length <= 6 := by omega
      have NT7 := hide (NT.out.2.below TA.b)
      have ss := NT7.out.s2
      have z1 := TA.x1
      clear TA
      by_cases htr : t < s.regs.length
      ·obtain ⟨row, hrow⟩ : ∃ x, s.regs[t]? = some x := ⟨_, List.getElem?_eq_getElem htr⟩
       obtain ⟨rbk, ro, adr, capr, hq, cW, hcp, hnW⟩ := HS.out.regs t row hrow
       obtain rfl : ar = some ⟨rbk, ro, none⟩ := hq
       obtain ⟨r8, -⟩ := rowOk_at f4 hrow
       have tri : (t : Int) < s.regs.length := by omega
       have hu : (Tryz.prog).underlying 54 = some (.slice 3) := Tryz.underlying54
       have hz1 : ((Tryz.prog).info? 3).map (·.size) = some 1 := by kernel_rfl
       have cR := keep_cell NT7.out.bw cW
       have TB0 : Hid (ThrAt wr rb bx (.slice adl L.length capl) (fun r => rowAt s.regs t r) (W7.setCells rb 0 (row.map (Value.int .i64))).drew) := hide (by
        have h0 : s.regs.getD t [] = row := by rw [List.getD_eq_getElem?_getD, hrow]; rfl
        have e : (fun r => rowAt s.regs t r) = (fun r => row.getD r 0) := by
         funext r; unfold rowAt; rw [h0]
        rw [e]; exact (TH.out.copy row r8).drew)
       have NT0 := hide (NT.out.2.below TB0.out.b)
       have HXX := hide (And.intro hL hin)
       cases hLn : row.length with
       | zero =>
        obtain rfl := List.eq_nil_of_length_eq_zero hLn
        obtain ⟨W8, hW8⟩ : ∃ W8, W8 = W7.drew := ⟨_, rfl⟩
        have TB : Hid (ThrAt wr rb bx (.slice adl L.length capl) (fun r => rowAt s.regs t r) W8) := by rw [hW8]; exact TB0
        have NT8 : Hid (Nm2 w0 w w.heap.size w2.heap.size s cs (.slice (some ⟨rbk, ro, none⟩) s.regs.length cr) rp (s.mach cs.length).mem T v W8) := by rw [hW8]; exact NT0
        rw [hLn] at cR
        clear TB0 NT0 hrow cW hnW hTl
        go_wp2_with fail
        go_region_law (refine step_copy_none _ (by rfl) _ _ _ 3 (by rfl) _ _ _ _ _ (by rfl) (by rfl) hu hz1 ?_)
        all_goals
         rw [<- hW8]
         clear hW8
         have hTl := HTl.out
         have hL := HXX.out.1
         have hin := HXX.out.2
         have k1 := NT8.out.k1
         have hown := NT8.out.own
         have fk1 := NT8.out.fk 1
         have lk8 : w2.heap.size < W8.heap.size := bLt k1
         have y0 := TB.out.x0
         have y1 := TB.out.x1
         have y2 := TB.out.x2
         obtain ⟨ti0, hti, htz, hts, htb⟩ := thrInfo
         have nk : v.ownBlock ≠ some w2.heap.size := fun e => (NT8.out.vb _ e).1 rfl
         have hml : T.length + 1 <= maxLen := Nat.le_trans (Nat.succ_le_succ hT6) (by decide)
         have hmb : (T.length + 1) * 56 <= 140737488355328 := Nat.le_trans (Nat.mul_le_mul_right 56 (Nat.succ_le_succ hT6)) (by decide)
         have hws : w.heap.size <= W8.heap.size := NT8.out.bw.size
         obtain ⟨W9, hW9⟩ : ∃ W9, W9 = W8.alloc (.cells #[.slice adl L.length capl, .slice (some ⟨rb, 0, none⟩) 8 8, .int .i64 0] 56) := ⟨_, rfl⟩
         have b9 : Below W8.heap.size W8 W9 := by rw [hW9]; exact bRf.alloc nL _
         have rlt : rb < W8.heap.size := bLt (TB.out.reg 0 (by decide))
         have fzr : ∀ o, W9.frozen? ⟨rb, o, none⟩ = false := fun o => by rw [b9.frozen rlt]; exact TB.out.fz o
         have NT9 := hide (NT8.out.below b9)
         have k19 := NT9.out.k1
         have hown9 := NT9.out.own
         have fk9 := NT9.out.fk 1
         have lk9 : w2.heap.size < W9.heap.size := bLt k19
         have hws9 : w.heap.size <= W9.heap.size := NT9.out.bw.size
         have nw9 : ∀ j u, ([.slice adl L.length capl, .slice (some ⟨rb, 0, none⟩) 8 8, .int .i64 0] : List Value)[j]? = some u -> W9.cell? ((⟨W8.heap.size, 0, none⟩ : Addr).add j) = some u := by rw [hW9]; exact World.news_of_block (cs := #[.slice adl L.length capl, .slice (some ⟨rb, 0, none⟩) 8 8, .int .i64 0]) (t := 56) (fr := (0, 0)) (heap_alloc_new W8 _)
         clear hTl
         go_wp2_with fail
         go_region_law
          ((try rw [<- hW9])
           refine step_append_at _ (by rfl) _ _ _ (by rfl) w.heap.size 56 ti0 _ 3 56 Tryz.underlying58 hti htz hts htb rfl (by omega) v T.length (thrCells T) (by rfl) hown9
            ⟨W8.heap.size, 0, none⟩ 1 1 [.slice adl L.length capl, .slice (some ⟨rb, 0, none⟩) 8 8, .int .i64 0] (by rfl) (by rfl) nw9 (by simp [Value.oneCell']) hml hmb hws9 ?_; intro g10 cap10 w10 hown10 hgrow hat
           have k110 : w10.cell? ⟨w2.heap.size, 1, none⟩ = some v := (World.cell?_of_block (hgrow.block w2.heap.size lk9 (Ne.symm nk))).trans k19
           have fk10 : w10.frozen? ⟨w2.heap.size, 1, none⟩ = false := (World.frozen?_of_block (hgrow.block w2.heap.size lk9 (Ne.symm nk))).trans fk9)
         all_goals
          have NF := hide (Nm2.add (x := ⟨adl, L.length, capl, rb⟩) NT9.out (by rw [HTl.out]; exact hL) rfl hcl hin (W0 := wr) TB.out.gr (fun b e => (NT.out.2.own.lt b e).2) (fun b e => NT.out.2.mem.fp_lt e) (fun t y hy => NT.out.2.rlt hy) (bLt NT.out.2.k0) (bLt NT.out.2.s2)
           (fun r hr => by rw [HTl.out]; exact keep_cell b9 (TB.out.reg r hr)) fzr NT.out.2.bw.size
           (W9 := w10) (v' := .slice g10 (T.length + 1) cap10) (by rw [thrCells_append]; exact hown10) hgrow.size hgrow.os hgrow.tape hgrow.output (fun b hb hn => hgrow.block b hb (Ne.symm hn)) (fun b e => by
             rcases hat with e2 | e2
             ·left; rw [<- e2]; exact e
             ·right; rw [e2] at e; cases e; exact Nat.le_refl _))
          clear hown10 hgrow hat hti htz hts htb hown9 hown nw9 NT9 NT8 NT7 TB TH hin hL
          go_wp2
          go_roundw
         all_goals first
          | exact ⟨t + 1, by omega, by go_num, _, _, hide ⟨by rw [List.length_append, HTl.out]; rfl, NF.out.below bRf.drew⟩⟩
          | exact ⟨t + 1, by omega, by go_num, _, _, hide ⟨by rw [List.length_append, HTl.out]; rfl, NF.out⟩⟩
          | (simp [intOf]; omega)
          | trace_state
       | succ n =>
        obtain ⟨x0, hx0⟩ : ∃ x, row[0]? = some x := ⟨_, List.getElem?_eq_getElem (by rw [hLn]; exact Nat.succ_pos n)⟩
        obtain ⟨ab, ao, rfl, -⟩ := hnW 0 x0 hx0
        have HNs : Hid (∀ (i : Nat) u, (row.map (Value.int .i64))[i]? = some u -> W7.cell? ((⟨ab, ao, none⟩ : Addr).add i) = some u) := hide fun i u hu => by
         rw [List.getElem?_map] at hu
         cases hr : row[i]? with
         | none => rw [hr] at hu; cases hu
         | some y =>
          rw [hr] at hu; cases hu
          obtain ⟨b', o', e1, e2⟩ := hnW i y hr
          cases e1
          rw [Addr.add_lit]
          exact keep_cell NT7.out.bw e2
        have hmin : (row.map (Value.int .i64)).length = Nat.min (n + 1) 8 := by rw [List.length_map, hLn]; have : Nat.min (n + 1) 8 = min (n + 1) 8 := rfl; rw [this, Nat.min_eq_left (by rw [hLn] at r8; exact r8)]
        have HCc : Hid (∀ i, i < (row.map (Value.int .i64)).length -> (W7.cell? ⟨rb, 0 + i, none⟩).isSome = true) := hide fun i hi => by
         rw [List.length_map] at hi
         rw [Nat.zero_add, TH.out.reg i (Nat.lt_of_lt_of_le hi r8)]; rfl
        have HCf : Hid (∀ i, i < (row.map (Value.int .i64)).length -> W7.frozen? ⟨rb, 0 + i, none⟩ = false) := hide fun i _ => TH.out.fz _
        have H1c : ∀ u ∈ row.map (Value.int .i64), u.oneCell' = true := fun u hu => by
         obtain ⟨y, -, rfl⟩ := List.mem_map.1 hu
         rfl
        rw [hLn] at cR
        clear hrow cW hnW hTl hx0
        generalize row.map (Value.int .i64) = RC at *
        obtain ⟨W8, hW8⟩ : ∃ W8, W8 = (W7.setCells rb 0 RC).drew := ⟨_, rfl⟩
        rw [<- hW8] at TB0 NT0
        have TB := TB0
        have NT8 := NT0
        clear TB0 NT0
        go_wp2_with fail
        go_region_law (refine step_copy_cells _ (by rfl) _ _ _ 3 (by rfl) rb 0 8 8 ⟨ab, ao, none⟩ (n + 1) capr RC (by rfl) (by rfl) hu hz1 hmin (fun i u hi => HNs.out i u hi) (fun i hi => HCc.out i hi) (fun i hi => HCf.out i hi) H1c ?_)
        all_goals
         (try rw [setCells_drew])
         rw [<- hW8]
         clear hW8
         have hTl := HTl.out
         have hL := HXX.out.1
         have hin := HXX.out.2
         have k1 := NT8.out.k1
         have hown := NT8.out.own
         have fk1 := NT8.out.fk 1
         have lk8 : w2.heap.size < W8.heap.size := bLt k1
         have y0 := TB.out.x0
         have y1 := TB.out.x1
         have y2 := TB.out.x2
         obtain ⟨ti0, hti, htz, hts, htb⟩ := thrInfo
         have nk : v.ownBlock ≠ some w2.heap.size := fun e => (NT8.out.vb _ e).1 rfl
         have hml : T.length + 1 <= maxLen := Nat.le_trans (Nat.succ_le_succ hT6) (by decide)
         have hmb : (T.length + 1) * 56 <= 140737488355328 := Nat.le_trans (Nat.mul_le_mul_right 56 (Nat.succ_le_succ hT6)) (by decide)
         have hws : w.heap.size <= W8.heap.size := NT8.out.bw.size
         obtain ⟨W9, hW9⟩ : ∃ W9, W9 = W8.alloc (.cells #[.slice adl L.length capl, .slice (some ⟨rb, 0, none⟩) 8 8, .int .i64 0] 56) := ⟨_, rfl⟩
         have b9 : Below W8.heap.size W8 W9 := by rw [hW9]; exact bRf.alloc nL _
         have rlt : rb < W8.heap.size := bLt (TB.out.reg 0 (by decide))
         have fzr : ∀ o, W9.frozen? ⟨rb, o, none⟩ = false := fun o => by rw [b9.frozen rlt]; exact TB.out.fz o
         have NT9 := hide (NT8.out.below b9)
         have k19 := NT9.out.k1
         have hown9 := NT9.out.own
         have fk9 := NT9.out.fk 1
         have lk9 : w2.heap.size < W9.heap.size := bLt k19
         have hws9 : w.heap.size <= W9.heap.size := NT9.out.bw.size
         have nw9 : ∀ j u, ([.slice adl L.length capl, .slice (some ⟨rb, 0, none⟩) 8 8, .int .i64 0] : List Value)[j]? = some u -> W9.cell? ((⟨W8.heap.size, 0, none⟩ : Addr).add j) = some u := by rw [hW9]; exact World.news_of_block (cs := #[.slice adl L.length capl, .slice (some ⟨rb, 0, none⟩) 8 8, .int .i64 0]) (t := 56) (fr := (0, 0)) (heap_alloc_new W8 _)
         clear hTl
         go_wp2_with fail
         go_region_law
          ((try rw [<- hW9])
           refine step_append_at _ (by rfl) _ _ _ (by rfl) w.heap.size 56 ti0 _ 3 56 Tryz.underlying58 hti htz hts htb rfl (by omega) v T.length (thrCells T) (by rfl) hown9
            ⟨W8.heap.size, 0, none⟩ 1 1 [.slice adl L.length capl, .slice (some ⟨rb, 0, none⟩) 8 8, .int .i64 0] (by rfl) (by rfl) nw9 (by simp [Value.oneCell']) hml hmb hws9 ?_; intro g10 cap10 w10 hown10 hgrow hat
           have k110 : w10.cell? ⟨w2.heap.size, 1, none⟩ = some v := (World.cell?_of_block (hgrow.block w2.heap.size lk9 (Ne.symm nk))).trans k19
           have fk10 : w10.frozen? ⟨w2.heap.size, 1, none⟩ = false := (World.frozen?_of_block (hgrow.block w2.heap.size lk9 (Ne.symm nk))).trans fk9)
         all_goals
          have NF := hide (Nm2.add (x := ⟨adl, L.length, capl, rb⟩) NT9.out (by rw [HTl.out]; exact hL) rfl hcl hin (W0 := wr) TB.out.gr (fun b e => (NT.out.2.own.lt b e).2) (fun b e => NT.out.2.mem.fp_lt e) (fun t y hy => NT.out.2.rlt hy) (bLt NT.out.2.k0) (bLt NT.out.2.s2)
           (fun r hr => by rw [HTl.out]; exact keep_cell b9 (TB.out.reg r hr)) fzr NT.out.2.bw.size
           (W9 := w10) (v' := .slice g10 (T.length + 1) cap10) (by rw [thrCells_append]; exact hown10) hgrow.size hgrow.os hgrow.tape hgrow.output (fun b hb hn => hgrow.block b hb (Ne.symm hn)) (fun b e => by
             rcases hat with e2 | e2
             ·left; rw [<- e2]; exact e
             ·right; rw [e2] at e; cases e; exact Nat.le_refl _))
          clear hown10 hgrow hat hti htz hts htb hown9 hown nw9 NT9 NT8 NT7 TB TH hin hL
          go_wp2
          go_roundw
         all_goals first
          | exact ⟨t + 1, by omega, by go_num, _, _, hide ⟨by rw [List.length_append, HTl.out]; rfl, NF.out.below bRf.drew⟩⟩
          | exact ⟨t + 1, by omega, by go_num, _, _, hide ⟨by rw [List.length_append, HTl.out]; rfl, NF.out⟩⟩
          | (simp [intOf]; omega)
          | trace_state
      ·have tri : ¬ (t : Int) < s.regs.length := by omega
       have TB : Hid (ThrAt wr rb bx (.slice adl L.length capl) (fun r => rowAt s.regs t r) W7) := hide (by
        have e : (fun r => rowAt s.regs t r) = (fun _ => 0) := by
         have h0 : s.regs.getD t [] = [] := by rw [List.getD_eq_getElem?_getD, List.getElem?_eq_none (Nat.le_of_not_lt htr)]; rfl
         funext r; unfold rowAt; rw [h0]; rfl
        rw [e]; exact TH.out)
       have NT8 := NT7
       have k1 := NT8.out.k1
       have hown := NT8.out.own
       have fk1 := NT8.out.fk 1
       have lk8 : w2.heap.size < W7.heap.size := bLt k1
       have y0 := TB.out.x0
       have y1 := TB.out.x1
       have y2 := TB.out.x2
       obtain ⟨ti0, hti, htz, hts, htb⟩ := thrInfo
       have nk : v.ownBlock ≠ some w2.heap.size := fun e => (NT8.out.vb _ e).1 rfl
       have hml : T.length + 1 <= maxLen := Nat.le_trans (Nat.succ_le_succ hT6) (by decide)
       have hmb : (T.length + 1) * 56 <= 140737488355328 := Nat.le_trans (Nat.mul_le_mul_right 56 (Nat.succ_le_succ hT6)) (by decide)
       have hws : w.heap.size <= W7.heap.size := NT8.out.bw.size
       obtain ⟨W9, hW9⟩ : ∃ W9, W9 = W7.alloc (.cells #[.slice adl L.length capl, .slice (some ⟨rb, 0, none⟩) 8 8, .int .i64 0] 56) := ⟨_, rfl⟩
       have b9 : Below W7.heap.size W7 W9 := by rw [hW9]; exact bRf.alloc nL _
       have rlt : rb < W7.heap.size := bLt (TB.out.reg 0 (by decide))
       have fzr : ∀ o, W9.frozen? ⟨rb, o, none⟩ = false := fun o => by rw [b9.frozen rlt]; exact TB.out.fz o
       have NT9 := hide (NT8.out.below b9)
       have k19 := NT9.out.k1
       have hown9 := NT9.out.own
       have fk9 := NT9.out.fk 1
       have lk9 : w2.heap.size < W9.heap.size := bLt k19
       have hws9 : w.heap.size <= W9.heap.size := NT9.out.bw.size
       have nw9 : ∀ j u, ([.slice adl L.length capl, .slice (some ⟨rb, 0, none⟩) 8 8, .int .i64 0] : List Value)[j]? = some u -> W9.cell? ((⟨W7.heap.size, 0, none⟩ : Addr).add j) = some u := by rw [hW9]; exact World.news_of_block (cs := #[.slice adl L.length capl, .slice (some ⟨rb, 0, none⟩) 8 8, .int .i64 0]) (t := 56) (fr := (0, 0)) (heap_alloc_new W7 _)
       clear hTl
       go_wp2_with fail
       go_region_law
        ((try rw [<- hW9])
         refine step_append_at _ (by rfl) _ _ _ (by rfl) w.heap.size 56 ti0 _ 3 56 Tryz.underlying58 hti htz hts htb rfl (by omega) v T.length (thrCells T) (by rfl) hown9
          ⟨W7.heap.size, 0, none⟩ 1 1 [.slice adl L.length capl, .slice (some ⟨rb, 0, none⟩) 8 8, .int .i64 0] (by rfl) (by rfl) nw9 (by simp [Value.oneCell']) hml hmb hws9 ?_; intro g10 cap10 w10 hown10 hgrow hat
         have k110 : w10.cell? ⟨w2.heap.size, 1, none⟩ = some v := (World.cell?_of_block (hgrow.block w2.heap.size lk9 (Ne.symm nk))).trans k19
         have fk10 : w10.frozen? ⟨w2.heap.size, 1, none⟩ = false := (World.frozen?_of_block (hgrow.block w2.heap.size lk9 (Ne.symm nk))).trans fk9)
       all_goals
        have NF := hide (Nm2.add (x := ⟨adl, L.length, capl, rb⟩) NT9.out (by rw [HTl.out]; exact hL) rfl hcl hin (W0 := wr) TB.out.gr (fun b e => (NT.out.2.own.lt b e).2) (fun b e => NT.out.2.mem.fp_lt e) (fun t y hy => NT.out.2.rlt hy) (bLt NT.out.2.k0) (bLt NT.out.2.s2)
         (fun r hr => by rw [HTl.out]; exact keep_cell b9 (TB.out.reg r hr)) fzr NT.out.2.bw.size
         (W9 := w10) (v' := .slice g10 (T.length + 1) cap10) (by rw [thrCells_append]; exact hown10) hgrow.size hgrow.os hgrow.tape hgrow.output (fun b hb hn => hgrow.block b hb (Ne.symm hn)) (fun b e => by
           rcases hat with e2 | e2
           ·left; rw [<- e2]; exact e
           ·right; rw [e2] at e; cases e; exact Nat.le_refl _))
        clear hown10 hgrow hat hti htz hts htb hown9 hown nw9 NT9 NT8 NT7 TB TH hin hL
        go_wp2
        go_roundw
       all_goals first
        | exact ⟨t + 1, by omega, by go_num, _, _, hide ⟨by rw [List.length_append, HTl.out]; rfl, NF.out.below bRf.drew⟩⟩
        | exact ⟨t + 1, by omega, by go_num, _, _, hide ⟨by rw [List.length_append, HTl.out]; rfl, NF.out⟩⟩
        | (simp [intOf]; omega)
        | trace_state
     ·obtain ⟨W7, hW7⟩ : ∃ W7, W7 = ((wr.alloc (.cells #[.slice adl L.length capl, .slice (some ⟨wr.heap.size + 1, 0, none⟩) 8 8, .int .i64 0] 56)).alloc (.cells #[.int .i64 0, .int .i64 0, .int .i64 0, .int .i64 0, .int .i64 0, .int .i64 0, .int .i64 0, .int .i64 0] 3)).drew := ⟨_, rfl⟩
      have TA := ThrAt.of2 wr (.slice adl L.length capl)
      rw [<- hW7] at TA ⊢
      clear hW7
      generalize wr.heap.size + 1 = rb at *
      generalize hbx : wr.heap.size = bx at TA ⊢
      have TH := hide TA
      have hTl : T.length = t := NT.out.1
      have HTl := hide hTl
      have hT6 : T.length <= 6 := by omega
      have NT7 := hide (NT.out.2.below TA.b)
      have ss := NT7.out.s2
      have z1 := TA.x1
      clear TA
      by_cases htr : t < s.regs.length
      ·obtain ⟨row, hrow⟩ : ∃ x, s.regs[t]? = some x := ⟨_, List.getElem?_eq_getElem htr⟩
       obtain ⟨rbk, ro, adr, capr, hq, cW, hcp, hnW⟩ := HS.out.regs t row hrow
       obtain rfl : ar = some ⟨rbk, ro, none⟩ := hq
       obtain ⟨r8, -⟩ := rowOk_at f4 hrow
       have tri : (t : Int) < s.regs.length := by omega
       have hu : (Tryz.prog).underlying 54 = some (.slice 3) := Tryz.underlying54
       have hz1 : ((Tryz.prog).info? 3).map (·.size) = some 1 := by kernel_rfl
       have cR := keep_cell NT7.out.bw cW
       have TB0 : Hid (ThrAt wr rb bx (.slice adl L.length capl) (fun r => rowAt s.regs t r) (W7.setCells rb 0 (row.map (Value.int .i64))).drew) := hide (by
        have h0 : s.regs.getD t [] = row := by rw [List.getD_eq_getElem?_getD, hrow]; rfl
        have e : (fun r => rowAt s.regs t r) = (fun r => row.getD r 0) := by
         funext r; unfold rowAt; rw [h0]
        rw [e]; exact (TH.out.copy row r8).drew)
       have NT0 := hide (NT.out.2.below TB0.out.b)
       have HXX := hide (And.intro hL hin)
       cases hLn : row.length with
       | zero =>
        obtain rfl := List.eq_nil_of_length_eq_zero hLn
        obtain ⟨W8, hW8⟩ : ∃ W8, W8 = W7.drew := ⟨_, rfl⟩
        have TB : Hid (ThrAt wr rb bx (.slice adl L.length capl) (fun r => rowAt s.regs t r) W8) := by rw [hW8]; exact TB0
        have NT8 : Hid (Nm2 w0 w w.heap.size w2.heap.size s cs (.slice (some ⟨rbk, ro, none⟩) s.regs.length cr) rp (s.mach cs.length).mem T v W8) := by rw [hW8]; exact NT0
        rw [hLn] at cR
        clear TB0 NT0 hrow cW hnW hTl
        go_wp2_with fail
        go_region_law (refine step_copy_none _ (by rfl) _ _ _ 3 (by rfl) _ _ _ _ _ (by rfl) (by rfl) hu hz1 ?_)
        all_goals
         rw [<- hW8]
         clear hW8
         have hTl := HTl.out
         have hL := HXX.out.1
         have hin := HXX.out.2
         have k1 := NT8.out.k1
         have hown := NT8.out.own
         have fk1 := NT8.out.fk 1
         have lk8 : w2.heap.size < W8.heap.size := bLt k1
         have y0 := TB.out.x0
         have y1 := TB.out.x1
         have y2 := TB.out.x2
         obtain ⟨ti0, hti, htz, hts, htb⟩ := thrInfo
         have nk : v.ownBlock ≠ some w2.heap.size := fun e => (NT8.out.vb _ e).1 rfl
         have hml : T.length + 1 <= maxLen := Nat.le_trans (Nat.succ_le_succ hT6) (by decide)
         have hmb : (T.length + 1) * 56 <= 140737488355328 := Nat.le_trans (Nat.mul_le_mul_right 56 (Nat.succ_le_succ hT6)) (by decide)
         have hws : w.heap.size <= W8.heap.size := NT8.out.bw.size
         obtain ⟨W9, hW9⟩ : ∃ W9, W9 = W8.alloc (.cells #[.slice adl L.length capl, .slice (some ⟨rb, 0, none⟩) 8 8, .int .i64 0] 56) := ⟨_, rfl⟩
         have b9 : Below W8.heap.size W8 W9 := by rw [hW9]; exact bRf.alloc nL _
         have rlt : rb < W8.heap.size := bLt (TB.out.reg 0 (by decide))
         have fzr : ∀ o, W9.frozen? ⟨rb, o, none⟩ = false := fun o => by rw [b9.frozen rlt]; exact TB.out.fz o
         have NT9 := hide (NT8.out.below b9)
         have k19 := NT9.out.k1
         have hown9 := NT9.out.own
         have fk9 := NT9.out.fk 1
         have lk9 : w2.heap.size < W9.heap.size := bLt k19
         have hws9 : w.heap.size <= W9.heap.size := NT9.out.bw.size
         have nw9 : ∀ j u, ([.slice adl L.length capl, .slice (some ⟨rb, 0, none⟩) 8 8, .int .i64 0] : List Value)[j]? = some u -> W9.cell? ((⟨W8.heap.size, 0, none⟩ : Addr).add j) = some u := by rw [hW9]; exact World.news_of_block (cs := #[.slice adl L.length capl, .slice (some ⟨rb, 0, none⟩) 8 8, .int .i64 0]) (t := 56) (fr := (0, 0)) (heap_alloc_new W8 _)
         clear hTl
         go_wp2_with fail
         go_region_law
          ((try rw [<- hW9])
           refine step_append_at _ (by rfl) _ _ _ (by rfl) w.heap.size 56 ti0 _ 3 56 Tryz.underlying58 hti htz hts htb rfl (by omega) v T.length (thrCells T) (by rfl) hown9
            ⟨W8.heap.size, 0, none⟩ 1 1 [.slice adl L.length capl, .slice (some ⟨rb, 0, none⟩) 8 8, .int .i64 0] (by rfl) (by rfl) nw9 (by simp [Value.oneCell']) hml hmb hws9 ?_; intro g10 cap10 w10 hown10 hgrow hat
           have k110 : w10.cell? ⟨w2.heap.size, 1, none⟩ = some v := (World.cell?_of_block (hgrow.block w2.heap.size lk9 (Ne.symm nk))).trans k19
           have fk10 : w10.frozen? ⟨w2.heap.size, 1, none⟩ = false := (World.frozen?_of_block (hgrow.block w2.heap.size lk9 (Ne.symm nk))).trans fk9)
         all_goals
          have NF := hide (Nm2.add (x := ⟨adl, L.length, capl, rb⟩) NT9.out (by rw [HTl.out]; exact hL) rfl hcl hin (W0 := wr) TB.out.gr (fun b e => (NT.out.2.own.lt b e).2) (fun b e => NT.out.2.mem.fp_lt e) (fun t y hy => NT.out.2.rlt hy) (bLt NT.out.2.k0) (bLt NT.out.2.s2)
           (fun r hr => by rw [HTl.out]; exact keep_cell b9 (TB.out.reg r hr)) fzr NT.out.2.bw.size
           (W9 := w10) (v' := .slice g10 (T.length + 1) cap10) (by rw [thrCells_append]; exact hown10) hgrow.size hgrow.os hgrow.tape hgrow.output (fun b hb hn => hgrow.block b hb (Ne.symm hn)) (fun b e => by
             rcases hat with e2 | e2
             ·left; rw [<- e2]; exact e
             ·right; rw [e2] at e; cases e; exact Nat.le_refl _))
          clear hown10 hgrow hat hti htz hts htb hown9 hown nw9 NT9 NT8 NT7 TB TH hin hL
          go_wp2
          go_roundw
         all_goals first
          | exact ⟨t + 1, by omega, by go_num, _, _, hide ⟨by rw [List.length_append, HTl.out]; rfl, NF.out.below bRf.drew⟩⟩
          | exact ⟨t + 1, by omega, by go_num, _, _, hide ⟨by rw [List.length_append, HTl.out]; rfl, NF.out⟩⟩
          | (simp [intOf]; omega)
          | trace_state
       | succ n =>
        obtain ⟨x0, hx0⟩ : ∃ x, row[0]? = some x := ⟨_, List.getElem?_eq_getElem (by rw [hLn]; exact Nat.succ_pos n)⟩
        obtain ⟨ab, ao, rfl, -⟩ := hnW 0 x0 hx0
        have HNs : Hid (∀ (i : Nat) u, (row.map (Value.int .i64))[i]? = some u -> W7.cell? ((⟨ab, ao, none⟩ : Addr).add i) = some u) := hide fun i u hu => by
         rw [List.getElem?_map] at hu
         cases hr : row[i]? with
         | none => rw [hr] at hu; cases hu
         | some y =>
          rw [hr] at hu; cases hu
          obtain ⟨b', o', e1, e2⟩ := hnW i y hr
          cases e1
          rw [Addr.add_lit]
          exact keep_cell NT7.out.bw e2
        have hmin : (row.map (Value.int .i64)).length = Nat.min (n + 1) 8 := by rw [List.length_map, hLn]; have : Nat.min (n + 1) 8 = min (n + 1) 8 := rfl; rw [this, Nat.min_eq_left (by rw [hLn] at r8; exact r8)]
        have HCc : Hid (∀ i, i < (row.map (Value.int .i64)).length -> (W7.cell? ⟨rb, 0 + i, none⟩).isSome = true) := hide fun i hi => by
         rw [List.length_map] at hi
         rw [Nat.zero_add, TH.out.reg i (Nat.lt_of_lt_of_le hi r8)]; rfl
        have HCf : Hid (∀ i, i < (row.map (Value.int .i64)).length -> W7.frozen? ⟨rb, 0 + i, none⟩ = false) := hide fun i _ => TH.out.fz _
        have H1c : ∀ u ∈ row.map (Value.int .i64), u.oneCell' = true := fun u hu => by
         obtain ⟨y, -, rfl⟩ := List.mem_map.1 hu
         rfl
        rw [hLn] at cR
        clear hrow cW hnW hTl hx0
        generalize row.map (Value.int .i64) = RC at *
        obtain ⟨W8, hW8⟩ : ∃ W8, W8 = (W7.setCells rb 0 RC).drew := ⟨_, rfl⟩
        rw [<- hW8] at TB0 NT0
        have TB := TB0
        have NT8 := NT0
        clear TB0 NT0
        go_wp2_with fail
        go_region_law (refine step_copy_cells _ (by rfl) _ _ _ 3 (by rfl) rb 0 8 8 ⟨ab, ao, none⟩ (n + 1) capr RC (by rfl) (by rfl) hu hz1 hmin (fun i u hi => HNs.out i u hi) (fun i hi => HCc.out i hi) (fun i hi => HCf.out i hi) H1c ?_)
        all_goals
         (try rw [setCells_drew])
         rw [<- hW8]
         clear hW8
         have hTl := HTl.out
         have hL := HXX.out.1
         have hin := HXX.out.2
         have k1 := NT8.out.k1
         have hown := NT8.out.own
         have fk1 := NT8.out.fk 1
         have lk8 : w2.heap.size < W8.heap.size := bLt k1
         have y0 := TB.out.x0
         have y1 := TB.out.x1
         have y2 := TB.out.x2
         obtain ⟨ti0, hti, htz, hts, htb⟩ := thrInfo
         have nk : v.ownBlock ≠ some w2.heap.size := fun e => (NT8.out.vb _ e).1 rfl
         have hml : T.length + 1 <= maxLen := Nat.le_trans (Nat.succ_le_succ hT6) (by decide)
         have hmb : (T.length + 1) * 56 <= 140737488355328 := Nat.le_trans (Nat.mul_le_mul_right 56 (Nat.succ_le_succ hT6)) (by decide)
         have hws : w.heap.size <= W8.heap.size := NT8.out.bw.size
         obtain ⟨W9, hW9⟩ : ∃ W9, W9 = W8.alloc (.cells #[.slice adl L.length capl, .slice (some ⟨rb, 0, none⟩) 8 8, .int .i64 0] 56) := ⟨_, rfl⟩
         have b9 : Below W8.heap.size W8 W9 := by rw [hW9]; exact bRf.alloc nL _
         have rlt : rb < W8.heap.size := bLt (TB.out.reg 0 (by decide))
         have fzr : ∀ o, W9.frozen? ⟨rb, o, none⟩ = false := fun o => by rw [b9.frozen rlt]; exact TB.out.fz o
         have NT9 := hide (NT8.out.below b9)
         have k19 := NT9.out.k1
         have hown9 := NT9.out.own
         have fk9 := NT9.out.fk 1
         have lk9 : w2.heap.size < W9.heap.size := bLt k19
         have hws9 : w.heap.size <= W9.heap.size := NT9.out.bw.size
         have nw9 : ∀ j u, ([.slice adl L.length capl, .slice (some ⟨rb, 0, none⟩) 8 8, .int .i64 0] : List Value)[j]? = some u -> W9.cell? ((⟨W8.heap.size, 0, none⟩ : Addr).add j) = some u := by rw [hW9]; exact World.news_of_block (cs := #[.slice adl L.length capl, .slice (some ⟨rb, 0, none⟩) 8 8, .int .i64 0]) (t := 56) (fr := (0, 0)) (heap_alloc_new W8 _)
         clear hTl
         go_wp2_with fail
         go_region_law
          ((try rw [<- hW9])
           refine step_append_at _ (by rfl) _ _ _ (by rfl) w.heap.size 56 ti0 _ 3 56 Tryz.underlying58 hti htz hts htb rfl (by omega) v T.length (thrCells T) (by rfl) hown9
            ⟨W8.heap.size, 0, none⟩ 1 1 [.slice adl L.length capl, .slice (some ⟨rb, 0, none⟩) 8 8, .int .i64 0] (by rfl) (by rfl) nw9 (by simp [Value.oneCell']) hml hmb hws9 ?_; intro g10 cap10 w10 hown10 hgrow hat
           have k110 : w10.cell? ⟨w2.heap.size, 1, none⟩ = some v := (World.cell?_of_block (hgrow.block w2.heap.size lk9 (Ne.symm nk))).trans k19
           have fk10 : w10.frozen? ⟨w2.heap.size, 1, none⟩ = false := (World.frozen?_of_block (hgrow.block w2.heap.size lk9 (Ne.symm nk))).trans fk9)
         all_goals
          have NF := hide (Nm2.add (x := ⟨adl, L.length, capl, rb⟩) NT9.out (by rw [HTl.out]; exact hL) rfl hcl hin (W0 := wr) TB.out.gr (fun b e => (NT.out.2.own.lt b e).2) (fun b e => NT.out.2.mem.fp_lt e) (fun t y hy => NT.out.2.rlt hy) (bLt NT.out.2.k0) (bLt NT.out.2.s2)
           (fun r hr => by rw [HTl.out]; exact keep_cell b9 (TB.out.reg r hr)) fzr NT.out.2.bw.size
           (W9 := w10) (v' := .slice g10 (T.length + 1) cap10) (by rw [thrCells_append]; exact hown10) hgrow.size hgrow.os hgrow.tape hgrow.output (fun b hb hn => hgrow.block b hb (Ne.symm hn)) (fun b e => by
             rcases hat with e2 | e2
             ·left; rw [<- e2]; exact e
             ·right; rw [e2] at e; cases e; exact Nat.le_refl _))
          clear hown10 hgrow hat hti htz hts htb hown9 hown nw9 NT9 NT8 NT7 TB TH hin hL
          go_wp2
          go_roundw
         all_goals first
          | exact ⟨t + 1, by omega, by go_num, _, _, hide ⟨by rw [List.length_append, HTl.out]; rfl, NF.out.below bRf.drew⟩⟩
          | exact ⟨t + 1, by omega, by go_num, _, _, hide ⟨by rw [List.length_append, HTl.out]; rfl, NF.out⟩⟩
          | (simp [intOf]; omega)
          | trace_state
      ·have tri : ¬ (t : Int) < s.regs.length := by omega
       have TB : Hid (ThrAt wr rb bx (.slice adl L.length capl) (fun r => rowAt s.regs t r) W7) := hide (by
        have e : (fun r => rowAt s.regs t r) = (fun _ => 0) := by
         have h0 : s.regs.getD t [] = [] := by rw [List.getD_eq_getElem?_getD, List.getElem?_eq_none (Nat.le_of_not_lt htr)]; rfl
         funext r; unfold rowAt; rw [h0]; rfl
        rw [e]; exact TH.out)
       have NT8 := NT7
       have k1 := NT8.out.k1
       have hown := NT8.out.own
       have fk1 := NT8.out.fk 1
       have lk8 : w2.heap.size < W7.heap.size := bLt k1
       have y0 := TB.out.x0
       have y1 := TB.out.x1
       have y2 := TB.out.x2
       obtain ⟨ti0, hti, htz, hts, htb⟩ := thrInfo
       have nk : v.ownBlock ≠ some w2.heap.size := fun e => (NT8.out.vb _ e).1 rfl
       have hml : T.length + 1 <= maxLen := Nat.le_trans (Nat.succ_le_succ hT6) (by decide)
       have hmb : (T.length + 1) * 56 <= 140737488355328 := Nat.le_trans (Nat.mul_le_mul_right 56 (Nat.succ_le_succ hT6)) (by decide)
       have hws : w.heap.size <= W7.heap.size := NT8.out.bw.size
       obtain ⟨W9, hW9⟩ : ∃ W9, W9 = W7.alloc (.cells #[.slice adl L.length capl, .slice (some ⟨rb, 0, none⟩) 8 8, .int .i64 0] 56) := ⟨_, rfl⟩
       have b9 : Below W7.heap.size W7 W9 := by rw [hW9]; exact bRf.alloc nL _
       have rlt : rb < W7.heap.size := bLt (TB.out.reg 0 (by decide))
       have fzr : ∀ o, W9.frozen? ⟨rb, o, none⟩ = false := fun o => by rw [b9.frozen rlt]; exact TB.out.fz o
       have NT9 := hide (NT8.out.below b9)
       have k19 := NT9.out.k1
       have hown9 := NT9.out.own
       have fk9 := NT9.out.fk 1
       have lk9 : w2.heap.size < W9.heap.size := bLt k19
       have hws9 : w.heap.size <= W9.heap.size := NT9.out.bw.size
       have nw9 : ∀ j u, ([.slice adl L.length capl, .slice (some ⟨rb, 0, none⟩) 8 8, .int .i64 0] : List Value)[j]? = some u -> W9.cell? ((⟨W7.heap.size, 0, none⟩ : Addr).add j) = some u := by rw [hW9]; exact World.news_of_block (cs := #[.slice adl L.length capl, .slice (some ⟨rb, 0, none⟩) 8 8, .int .i64 0]) (t := 56) (fr := (0, 0)) (heap_alloc_new W7 _)
       clear hTl
       go_wp2_with fail
       go_region_law
        ((try rw [<- hW9])
         refine step_append_at _ (by rfl) _ _ _ (by rfl) w.heap.size 56 ti0 _ 3 56 Tryz.underlying58 hti htz hts htb rfl (by omega) v T.length (thrCells T) (by rfl) hown9
          ⟨W7.heap.size, 0, none⟩ 1 1 [.slice adl L.length capl, .slice (some ⟨rb, 0, none⟩) 8 8, .int .i64 0] (by rfl) (by rfl) nw9 (by simp [Value.oneCell']) hml hmb hws9 ?_; intro g10 cap10 w10 hown10 hgrow hat
         have k110 : w10.cell? ⟨w2.heap.size, 1, none⟩ = some v := (World.cell?_of_block (hgrow.block w2.heap.size lk9 (Ne.symm nk))).trans k19
         have fk10 : w10.frozen? ⟨w2.heap.size, 1, none⟩ = false := (World.frozen?_of_block (hgrow.block w2.heap.size lk9 (Ne.symm nk))).trans fk9)
       all_goals
        have NF := hide (Nm2.add (x := ⟨adl, L.length, capl, rb⟩) NT9.out (by rw [HTl.out]; exact hL) rfl hcl hin (W0 := wr) TB.out.gr (fun b e => (NT.out.2.own.lt b e).2) (fun b e => NT.out.2.mem.fp_lt e) (fun t y hy => NT.out.2.rlt hy) (bLt NT.out.2.k0) (bLt NT.out.2.s2)
         (fun r hr => by rw [HTl.out]; exact keep_cell b9 (TB.out.reg r hr)) fzr NT.out.2.bw.size
         (W9 := w10) (v' := .slice g10 (T.length + 1) cap10) (by rw [thrCells_append]; exact hown10) hgrow.size hgrow.os hgrow.tape hgrow.output (fun b hb hn => hgrow.block b hb (Ne.symm hn)) (fun b e => by
           rcases hat with e2 | e2
           ·left; rw [<- e2]; exact e
           ·right; rw [e2] at e; cases e; exact Nat.le_refl _))
        clear hown10 hgrow hat hti htz hts htb hown9 hown nw9 NT9 NT8 NT7 TB TH hin hL
        go_wp2
        go_roundw
       all_goals first
        | exact ⟨t + 1, by omega, by go_num, _, _, hide ⟨by rw [List.length_append, HTl.out]; rfl, NF.out.below bRf.drew⟩⟩
        | exact ⟨t + 1, by omega, by go_num, _, _, hide ⟨by rw [List.length_append, HTl.out]; rfl, NF.out⟩⟩
        | (simp [intOf]; omega)
        | trace_state
    ·obtain rfl : t = cs.length := by omega
     have HD : Hid (∃ p : RkPl, p.k = w2.heap.size /\ p.B = w0.heap.size /\ RkAt cs p (s.mach cs.length) wr /\ ∀ b, p.fp cs.length (s.mach cs.length).mem b -> w.heap.size <= b) := hide (NT.out.2.done NT.out.1 n1 n6)
     have HBW := hide NT.out.2.bw
     clear NT
     go_wp2
     go_ret
     obtain ⟨p, e1, e2, e3, e4⟩ := HD.out
     exact ⟨p, by rw [e1]; rfl, hide ⟨e3, e2, HBW.out, e4⟩⟩
end
end Go.Proofs.YtaiigfcfmcicjaaGreatDoor
