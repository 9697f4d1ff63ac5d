import Derived.Test.YtnnlkolhahjokaaGreatDoorB19

/- MkI -/
namespace Go.Proofs.YtnnlkolhahjokaaGreatDoor
open Go.RowKit Go.Extern.Stop Go.Stop Go.Extern Go.Maps Go.WideMaps Go.Sort

theorem Mk.fence_waits (m : Mk) (t : Nat) : (m.fence t).mem.waits t = [] := Rm.drainAll_waits _ _ _ rfl
theorem Mk.fence_has (m : Mk) (t : Nat) (c g : Int) : (m.fence t).mem.ar.has c g = m.mem.ar.has c g := Rm.drainAll_has _ _ _ _ _
theorem Mk.fence_names (m : Mk) (t : Nat) (n : Int) : (m.fence t).names n = m.names n := by
  unfold Mk.names
  rw [Mk.fence_has]
theorem Mk.names_has {m : Mk} {n : Int} (h : m.names n = true) : m.mem.ar.has (cellOf n) (genOf n) = true := ((Bool.and_eq_true _ _).mp h).2

theorem MkAt.cell {a : Nat → Addr} {cs : List (List Ins)} {p : MkPl} {m : Mk} {w : World} (h : MkAt a cs p m w) {n : Int} (hy : m.names n = true) : ∃ k : Nat, cellOf n = k ∧ k < 64 ∧ m.mem.ar.has k (genOf n) = true := by
  have hh := Mk.names_has hy
  obtain ⟨k, hc, hk, -, -⟩ := Ar.has_lt hh
  have h64 := h.mem.ar.small
  exact ⟨k, hc, by omega, by rw [← hc]; exact hh⟩

theorem mem_load {a : Nat → Addr} {cs : List (List Ins)} {p : MkPl} {m : Mk} {w : World} (h : MkAt a cs p m w) {t : Nat} (ht : t < cs.length) {n : Int} (hy : m.names n = true) {wi : Nat} (hw : wi < 4) :
    Calls Tryz.prog 94 #[.pointer (some ⟨p.b, 0, none⟩), .int .i64 t, .agg #[.int .i64 (cellOf n), .int .i64 (genOf n)], .int .i64 wi] w fun e w' => e = .returned (.tuple #[.int .i64 (m.loaded t n wi), .nilIface]) ∧ Below w.heap.size w w' := by
  obtain ⟨k, hc, hk, hh⟩ := h.cell hy
  have := mload_ok a p.b m.mem t k wi (genOf n) w h.env.toM h.mem (by rw [h.thr]; exact ht) hk hh hw
  unfold Mk.loaded
  rw [hc]
  exact this

theorem mem_swap {a : Nat → Addr} {cs : List (List Ins)} {p : MkPl} {m : Mk} {w : World} (h : MkAt a cs p m w) {t : Nat} (ht : t < cs.length) (hws : m.mem.waits t = []) {n : Int} (hy : m.names n = true) {wi : Nat} (hw : wi < 4) {v : Int} (hv : Wd v) :
    Calls Tryz.prog 32 #[.pointer (some ⟨p.b, 0, none⟩), .int .i64 t, .agg #[.int .i64 (cellOf n), .int .i64 (genOf n)], .int .i64 wi, .int .i64 v] w fun e w' => e = .returned (.tuple #[.int .i64 (m.word n wi), .nilIface]) ∧ MkStep a cs p w p.mv (m.setWord n wi v) w' := by
  obtain ⟨k, hc, hk, hh⟩ := h.cell hy
  have := mswap_ok a p.B p.b m.mem t k wi (genOf n) v w h.pg.envB h.hB h.mem (by rw [h.thr]; exact ht) (by rw [hws]; exact fun x hx => absurd hx List.not_mem_nil) hk hw hh hv (by rw [hws]; exact Nat.lt_irrefl _)
  rw [hws] at this
  unfold Mk.word Mk.setWord
  rw [hc]
  exact this.mono fun e w' ⟨e1, e2⟩ => ⟨e1, h.ofMem e2 rfl⟩

theorem mem_cas {a : Nat → Addr} {cs : List (List Ins)} {p : MkPl} {m : Mk} {w : World} (h : MkAt a cs p m w) {t : Nat} (ht : t < cs.length) (hws : m.mem.waits t = []) {n : Int} (hy : m.names n = true) {wi : Nat} (hw : wi < 4) {old v : Int} (ho : Wd old) (hv : Wd v) :
    Calls Tryz.prog 97 #[.pointer (some ⟨p.b, 0, none⟩), .int .i64 t, .agg #[.int .i64 (cellOf n), .int .i64 (genOf n)], .int .i64 wi, .int .i64 old, .int .i64 v] w fun e w' => e = .returned (.tuple #[.int .i64 (m.word n wi), .nilIface]) ∧ MkStep a cs p w p.mv (m.setWord n wi (casV (m.word n wi) old v)) w' := by
  obtain ⟨k, hc, hk, hh⟩ := h.cell hy
  have := mcas_ok a p.B p.b m.mem t k wi (genOf n) old v w h.pg.envB h.hB h.mem (by rw [h.thr]; exact ht) (by rw [hws]; exact fun x hx => absurd hx List.not_mem_nil) hk hw hh ho hv (by rw [hws]; exact Nat.lt_irrefl _)
  rw [hws] at this
  unfold Mk.word Mk.setWord
  rw [hc]
  exact this.mono fun e w' ⟨e1, e2⟩ => ⟨e1, h.ofMem e2 rfl⟩

theorem mem_free {a : Nat → Addr} {cs : List (List Ins)} {p : MkPl} {m : Mk} {w : World} (h : MkAt a cs p m w) {t : Nat} (ht : t < cs.length) (hws : m.mem.waits t = []) {n : Int} (hy : m.names n = true) :
    Calls Tryz.prog 99 #[.pointer (some ⟨p.b, 0, none⟩), .int .i64 t, .agg #[.int .i64 (cellOf n), .int .i64 (genOf n)]] w fun e w' => e = .returned .nilIface ∧ MkStep a cs p w p.mv (m.setMem (m.mem.setThere (cellOf n).toNat false)) w' := by
  obtain ⟨k, hc, hk, hh⟩ := h.cell hy
  have := mfree_ok a p.B p.b m.mem t k (genOf n) w h.pg.envB h.hB h.mem (by rw [h.thr]; exact ht) (by rw [hws]; exact fun x hx => absurd hx List.not_mem_nil) hk hh (by rw [hws]; exact Nat.lt_irrefl _)
  rw [hws] at this
  rw [hc]
  exact this.mono fun e w' ⟨e1, e2⟩ => ⟨e1, h.ofMem e2 rfl⟩

theorem mem_store {a : Nat → Addr} {cs : List (List Ins)} {p : MkPl} {m : Mk} {w : World} (h : MkAt a cs p m w) {t : Nat} (ht : t < cs.length) (h8 : (m.mem.waits t).length < 8) {n : Int} (hy : m.names n = true) {wi : Nat} (hw : wi < 4) {v : Int} (hv : Wd v) :
    Calls Tryz.prog 95 #[.pointer (some ⟨p.b, 0, none⟩), .int .i64 t, .agg #[.int .i64 (cellOf n), .int .i64 (genOf n)], .int .i64 wi, .int .i64 v] w fun e w' => e = .returned .nilIface ∧ MkStep a cs p w p.mv (m.put t n wi v) w' := by
  have ht' : t < m.mem.threads := by rw [h.thr]; exact ht
  have hm : m.mem.may t (cellOf n) (genOf n) wi [v] = 0 := by rw [Rm.may_yes ht']; exact Ar.chk_one_ok (Mk.names_has hy) (by omega) hv
  have := mstore_ok a p.b m.mem t (cellOf n) (genOf n) wi v w h.env.toM h.mem ht' hm h8
  exact this.mono fun e w' ⟨e1, e2⟩ => ⟨e1, h.ofMem e2 rfl⟩

theorem mem_alloc_none {a : Nat → Addr} {cs : List (List Ins)} {p : MkPl} {m : Mk} {w : World} (h : MkAt a cs p m w) {t : Nat} (ht : t < cs.length) (hf : m.mem.ar.free? = none) :
    Calls Tryz.prog 31 #[.pointer (some ⟨p.b, 0, none⟩), .int .i64 t] w fun e w' => e = .returned (.tuple #[.agg #[.int .i64 0, .int .i64 0], errAt (a 5)]) ∧ Below w.heap.size w w' :=
  malloc_full a p.b m.mem t w h.env.toM h.mem (by rw [h.thr]; exact ht) (Ar.free_none hf)

theorem mem_alloc_some {a : Nat → Addr} {cs : List (List Ins)} {p : MkPl} {m : Mk} {w : World} (h : MkAt a cs p m w) {t c : Nat} (ht : t < cs.length) (hf : m.mem.ar.free? = some c) (hg : m.mem.ar.given c ≤ 60000000) :
    Calls Tryz.prog 31 #[.pointer (some ⟨p.b, 0, none⟩), .int .i64 t] w fun e w' => e = .returned (.tuple #[.agg #[.int .i64 c, .int .i64 (m.mem.ar.given c)], .nilIface]) ∧ MkStep a cs p w p.mv (m.setMem (m.mem.give c)) w' := by
  obtain ⟨h1, h2, h3⟩ := Ar.free_some hf
  exact (malloc_some p.b m.mem t c w h.mem (by rw [h.thr]; exact ht) h1 h2 h3 (by omega)).mono fun e w' ⟨e1, e2⟩ => ⟨e1, h.ofMem e2 rfl⟩
end Go.Proofs.YtnnlkolhahjokaaGreatDoor

/- MkJ -/
namespace Go.Proofs.YtnnlkolhahjokaaGreatDoor
open Go.RowKit Go.Extern.Stop Go.Stop Go.Extern Go.Maps Go.WideMaps Go.Sort

theorem box2 (w : World) (x y : Int) : (w.alloc (.cells #[.int .i64 x, .int .i64 y] 65)).cell? ⟨w.heap.size, 0, none⟩ = some (.int .i64 x) ∧ (w.alloc (.cells #[.int .i64 x, .int .i64 y] 65)).cell? ⟨w.heap.size, 1, none⟩ = some (.int .i64 y) := ⟨by simp, by simp⟩

set_option maxRecDepth 20000 in
set_option maxHeartbeats 1000000 in
theorem kload_yes {a : Nat → Addr} {cs : List (List Ins)} {p : MkPl} {m : Mk} {w : World} (h : MkAt a cs p m w) {t : Nat} (ht : t < cs.length) {n : Int} (hn : Wd n) (hy : m.names n = true) {wi : Nat} (hw : wi < 4) :
    Calls Tryz.prog 83 #[.pointer (some ⟨p.b, 0, none⟩), .int .i64 t, .int .i64 n, .int .i64 wi] w fun e w' => e = .returned (.int .i64 (m.loaded t n wi)) ∧ Below w.heap.size w w' := by
  have HN := hide (named_yes hn h hy)
  have HL : Hid (∀ w', Below w.heap.size w w' → Calls Tryz.prog 94 #[.pointer (some ⟨p.b, 0, none⟩), .int .i64 t, .agg #[.int .i64 (cellOf n), .int .i64 (genOf n)], .int .i64 wi] w' fun e w'' => e = .returned (.tuple #[.int .i64 (m.loaded t n wi), .nilIface]) ∧ Below w'.heap.size w' w'') := fun w' hb => mem_load (h.below hb) ht hy hw
  clear h hy hn
  generalize cellOf n = c at *
  generalize genOf n = g at *
  generalize m.loaded t n wi = V at *
  go_enter Tryz.func83, Tryz.ntmps83
  go_wp2_with fail
  refine HN.out.mono ?_
  rintro e w1 ⟨rfl, hb1⟩
  obtain ⟨W3, hW3⟩ : ∃ W3, W3 = w1.alloc (.cells #[.int .i64 c, .int .i64 g] 65) := ⟨_, rfl⟩
  obtain ⟨q0, q1⟩ := box2 w1 c g
  have B3 : Below w.heap.size w W3 := by rw [hW3]; exact hb1.alloc hb1.size _
  rw [← hW3] at q0 q1
  clear HN hb1
  go_wp2_with fail
  rw [← hW3]
  clear hW3
  have B4 := below_dN B3 1
  go_region_with (go_at_call 94; refine (HL.out _ B4).mono ?_; rintro e w4 ⟨rfl, hb4⟩)
  all_goals
    go_wp2
    go_ret
    exact ⟨rfl, below_step B4 hb4⟩

set_option maxRecDepth 20000 in
set_option maxHeartbeats 1000000 in
theorem kload_no {a : Nat → Addr} {cs : List (List Ins)} {p : MkPl} {m : Mk} {w : World} (h : MkAt a cs p m w) {t : Nat} {n : Int} (hn : Wd n) (hf : m.faults ≤ 900000000) (hy : m.names n = false) (wi : Int) :
    Calls Tryz.prog 83 #[.pointer (some ⟨p.b, 0, none⟩), .int .i64 t, .int .i64 n, .int .i64 wi] w fun e w' => e = .returned (.int .i64 0) ∧ MkStep a cs p w p.mv (m.addFault 1) w' := by
  have HN := hide (named_no hn h (by omega) hy)
  clear h hy hn hf
  go_enter Tryz.func83, Tryz.ntmps83
  go_wp2_with fail
  refine HN.out.mono ?_
  rintro e w1 ⟨rfl, h1⟩
  have H1 := hide (h1.below ((Below.refl _ _).alloc (Nat.le_refl _) (.cells #[.int .i64 0, .int .i64 0] 65)))
  clear h1 HN
  go_wp2
  go_ret
  exact ⟨rfl, H1.out⟩

set_option maxRecDepth 20000 in
set_option maxHeartbeats 1000000 in
theorem kswap_yes {a : Nat → Addr} {cs : List (List Ins)} {p : MkPl} {m : Mk} {w : World} (h : MkAt a cs p m w) {t : Nat} (ht : t < cs.length) (hx : ∀ x ∈ m.mem.waits t, x.Ok) (hf : m.faults ≤ 900000000) {n : Int} (hn : Wd n) (hy : m.names n = true) {wi : Nat} (hw : wi < 4) {v : Int} (hv : Wd v) :
    Calls Tryz.prog 85 #[.pointer (some ⟨p.b, 0, none⟩), .int .i64 t, .int .i64 n, .int .i64 wi, .int .i64 v] w fun e w' => e = .returned (.int .i64 ((m.fence t).word n wi)) ∧ MkStep a cs p w p.mv ((m.fence t).setWord n wi v) w' := by
  have HN := hide (ready_yes ht hn h hx hf hy)
  have HL : Hid (∀ w', MkStep a cs p w p.mv (m.fence t) w' → Calls Tryz.prog 32 #[.pointer (some ⟨p.b, 0, none⟩), .int .i64 t, .agg #[.int .i64 (cellOf n), .int .i64 (genOf n)], .int .i64 wi, .int .i64 v] w' fun e w'' => e = .returned (.tuple #[.int .i64 ((m.fence t).word n wi), .nilIface]) ∧ MkStep a cs p w p.mv ((m.fence t).setWord n wi v) w'') := fun w' k => by
    have q := mem_swap k.at' ht (Mk.fence_waits m t) (n := n) (by rw [Mk.fence_names]; exact hy) hw hv
    exact q.mono fun e w'' ⟨e1, e2⟩ => ⟨e1, k.trans e2⟩
  clear h hy hn hx hf hw hv
  generalize (m.fence t).setWord n wi v = m' at *
  generalize (m.fence t).word n wi = V at *
  generalize cellOf n = c at *
  generalize genOf n = g at *
  go_enter Tryz.func85, Tryz.ntmps85
  go_wp2_with fail
  refine HN.out.mono ?_
  rintro e w1 ⟨rfl, h1⟩
  obtain ⟨W3, hW3⟩ : ∃ W3, W3 = w1.alloc (.cells #[.int .i64 c, .int .i64 g] 65) := ⟨_, rfl⟩
  obtain ⟨q0, q1⟩ := box2 w1 c g
  have H3 : Hid (MkStep a cs p w p.mv (m.fence t) W3) := by rw [hW3]; exact hide (h1.below ((Below.refl _ _).alloc (Nat.le_refl _) _))
  rw [← hW3] at q0 q1
  clear HN h1
  go_wp2_with fail
  rw [← hW3]
  clear hW3
  have H4 := hide (H3.out.below (Below.drewN' 1))
  go_region_with (go_at_call 32; refine (HL.out _ H4.out).mono ?_; rintro e w4 ⟨rfl, h4⟩)
  all_goals
    go_wp2
    go_ret
    exact ⟨rfl, h4⟩

set_option maxRecDepth 20000 in
set_option maxHeartbeats 1000000 in
theorem kcas_yes {a : Nat → Addr} {cs : List (List Ins)} {p : MkPl} {m : Mk} {w : World} (h : MkAt a cs p m w) {t : Nat} (ht : t < cs.length) (hx : ∀ x ∈ m.mem.waits t, x.Ok) (hf : m.faults ≤ 900000000) {n : Int} (hn : Wd n) (hy : m.names n = true) {wi : Nat} (hw : wi < 4) {old v : Int} (ho : Wd old) (hv : Wd v) :
    Calls Tryz.prog 86 #[.pointer (some ⟨p.b, 0, none⟩), .int .i64 t, .int .i64 n, .int .i64 wi, .int .i64 old, .int .i64 v] w fun e w' => e = .returned (.int .i64 ((m.fence t).word n wi)) ∧ MkStep a cs p w p.mv ((m.fence t).setWord n wi (casV ((m.fence t).word n wi) old v)) w' := by
  have HN := hide (ready_yes ht hn h hx hf hy)
  have HL : Hid (∀ w', MkStep a cs p w p.mv (m.fence t) w' → Calls Tryz.prog 97 #[.pointer (some ⟨p.b, 0, none⟩), .int .i64 t, .agg #[.int .i64 (cellOf n), .int .i64 (genOf n)], .int .i64 wi, .int .i64 old, .int .i64 v] w' fun e w'' => e = .returned (.tuple #[.int .i64 ((m.fence t).word n wi), .nilIface]) ∧ MkStep a cs p w p.mv ((m.fence t).setWord n wi (casV ((m.fence t).word n wi) old v)) w'') := fun w' k => by
    have q := mem_cas k.at' ht (Mk.fence_waits m t) (n := n) (by rw [Mk.fence_names]; exact hy) hw ho hv
    exact q.mono fun e w'' ⟨e1, e2⟩ => ⟨e1, k.trans e2⟩
  clear h hy hn hx hf hw ho hv
  generalize (m.fence t).setWord n wi (casV ((m.fence t).word n wi) old v) = m' at *
  generalize (m.fence t).word n wi = V at *
  generalize cellOf n = c at *
  generalize genOf n = g at *
  go_enter Tryz.func86, Tryz.ntmps86
  go_wp2_with fail
  refine HN.out.mono ?_
  rintro e w1 ⟨rfl, h1⟩
  obtain ⟨W3, hW3⟩ : ∃ W3, W3 = w1.alloc (.cells #[.int .i64 c, .int .i64 g] 65) := ⟨_, rfl⟩
  obtain ⟨q0, q1⟩ := box2 w1 c g
  have H3 : Hid (MkStep a cs p w p.mv (m.fence t) W3) := by rw [hW3]; exact hide (h1.below ((Below.refl _ _).alloc (Nat.le_refl _) _))
  rw [← hW3] at q0 q1
  clear HN h1
  go_wp2_with fail
  rw [← hW3]
  clear hW3
  have H4 := hide (H3.out.below (Below.drewN' 1))
  go_region_with (go_at_call 97; refine (HL.out _ H4.out).mono ?_; rintro e w4 ⟨rfl, h4⟩)
  all_goals
    go_wp2
    go_ret
    exact ⟨rfl, h4⟩

set_option maxRecDepth 20000 in
set_option maxHeartbeats 1000000 in
theorem kfree_yes {a : Nat → Addr} {cs : List (List Ins)} {p : MkPl} {m : Mk} {w : World} (h : MkAt a cs p m w) {t : Nat} (ht : t < cs.length) (hx : ∀ x ∈ m.mem.waits t, x.Ok) (hf : m.faults ≤ 900000000) {n : Int} (hn : Wd n) (hy : m.names n = true) :
    Calls Tryz.prog 88 #[.pointer (some ⟨p.b, 0, none⟩), .int .i64 t, .int .i64 n] w fun e w' => e = .returned (.tuple #[]) ∧ MkStep a cs p w p.mv ((m.fence t).setMem ((m.fence t).mem.setThere (cellOf n).toNat false)) w' := by
  have HN := hide (ready_yes ht hn h hx hf hy)
  have HL : Hid (∀ w', MkStep a cs p w p.mv (m.fence t) w' → Calls Tryz.prog 99 #[.pointer (some ⟨p.b, 0, none⟩), .int .i64 t, .agg #[.int .i64 (cellOf n), .int .i64 (genOf n)]] w' fun e w'' => e = .returned .nilIface ∧ MkStep a cs p w p.mv ((m.fence t).setMem ((m.fence t).mem.setThere (cellOf n).toNat false)) w'') := fun w' k => by
    have q := mem_free k.at' ht (Mk.fence_waits m t) (n := n) (by rw [Mk.fence_names]; exact hy) 
    exact q.mono fun e w'' ⟨e1, e2⟩ => ⟨e1, k.trans e2⟩
  clear h hy hn hx hf
  generalize (m.fence t).setMem ((m.fence t).mem.setThere (cellOf n).toNat false) = m' at *
  generalize cellOf n = c at *
  generalize genOf n = g at *
  go_enter Tryz.func88, Tryz.ntmps88
  go_wp2_with fail
  refine HN.out.mono ?_
  rintro e w1 ⟨rfl, h1⟩
  obtain ⟨W3, hW3⟩ : ∃ W3, W3 = w1.alloc (.cells #[.int .i64 c, .int .i64 g] 65) := ⟨_, rfl⟩
  obtain ⟨q0, q1⟩ := box2 w1 c g
  have H3 : Hid (MkStep a cs p w p.mv (m.fence t) W3) := by rw [hW3]; exact hide (h1.below ((Below.refl _ _).alloc (Nat.le_refl _) _))
  rw [← hW3] at q0 q1
  clear HN h1
  go_wp2_with fail
  rw [← hW3]
  clear hW3
  have H4 := hide (H3.out.below (Below.drewN' 1))
  go_region_with (go_at_call 99; refine (HL.out _ H4.out).mono ?_; rintro e w4 ⟨rfl, h4⟩)
  all_goals
    go_wp2
    go_end0
    exact ⟨rfl, h4⟩

set_option maxRecDepth 20000 in
set_option maxHeartbeats 1000000 in
theorem kswap_no {a : Nat → Addr} {cs : List (List Ins)} {p : MkPl} {m : Mk} {w : World} (h : MkAt a cs p m w) {t : Nat} {n : Int} (hn : Wd n) (hf : m.faults ≤ 900000000) (hy : m.names n = false) (wi v : Int) :
    Calls Tryz.prog 85 #[.pointer (some ⟨p.b, 0, none⟩), .int .i64 t, .int .i64 n, .int .i64 wi, .int .i64 v] w fun e w' => e = .returned (.int .i64 0) ∧ MkStep a cs p w p.mv (m.addFault 1) w' := by
  have HN := hide (ready_no (t := t) hn h hf hy)
  clear h hy hn hf
  go_enter Tryz.func85, Tryz.ntmps85
  go_wp2_with fail
  refine HN.out.mono ?_
  rintro e w1 ⟨rfl, h1⟩
  have H1 := hide (h1.below ((Below.refl _ _).alloc (Nat.le_refl _) (.cells #[.int .i64 0, .int .i64 0] 65)))
  clear h1 HN
  go_wp2
  go_ret
  exact ⟨rfl, H1.out⟩

set_option maxRecDepth 20000 in
set_option maxHeartbeats 1000000 in
theorem kcas_no {a : Nat → Addr} {cs : List (List Ins)} {p : MkPl} {m : Mk} {w : World} (h : MkAt a cs p m w) {t : Nat} {n : Int} (hn : Wd n) (hf : m.faults ≤ 900000000) (hy : m.names n = false) (wi old v : Int) :
    Calls Tryz.prog 86 #[.pointer (some ⟨p.b, 0, none⟩), .int .i64 t, .int .i64 n, .int .i64 wi, .int .i64 old, .int .i64 v] w fun e w' => e = .returned (.int .i64 0) ∧ MkStep a cs p w p.mv (m.addFault 1) w' := by
  have HN := hide (ready_no (t := t) hn h hf hy)
  clear h hy hn hf
  go_enter Tryz.func86, Tryz.ntmps86
  go_wp2_with fail
  refine HN.out.mono ?_
  rintro e w1 ⟨rfl, h1⟩
  have H1 := hide (h1.below ((Below.refl _ _).alloc (Nat.le_refl _) (.cells #[.int .i64 0, .int .i64 0] 65)))
  clear h1 HN
  go_wp2
  go_ret
  exact ⟨rfl, H1.out⟩

set_option maxRecDepth 20000 in
set_option maxHeartbeats 1000000 in
theorem kfree_no {a : Nat → Addr} {cs : List (List Ins)} {p : MkPl} {m : Mk} {w : World} (h : MkAt a cs p m w) {t : Nat} {n : Int} (hn : Wd n) (hf : m.faults ≤ 900000000) (hy : m.names n = false) :
    Calls Tryz.prog 88 #[.pointer (some ⟨p.b, 0, none⟩), .int .i64 t, .int .i64 n] w fun e w' => e = .returned (.tuple #[]) ∧ MkStep a cs p w p.mv (m.addFault 1) w' := by
  have HN := hide (ready_no (t := t) hn h hf hy)
  clear h hy hn hf
  go_enter Tryz.func88, Tryz.ntmps88
  go_wp2_with fail
  refine HN.out.mono ?_
  rintro e w1 ⟨rfl, h1⟩
  have H1 := hide (h1.below ((Below.refl _ _).alloc (Nat.le_refl _) (.cells #[.int .i64 0, .int .i64 0] 65)))
  clear h1 HN
  go_wp2
  go_end0
  exact ⟨rfl, H1.out⟩

end Go.Proofs.YtnnlkolhahjokaaGreatDoor

/- MkL -/
namespace Go.Proofs.YtnnlkolhahjokaaGreatDoor
open Go.RowKit Go.Extern.Stop Go.Stop Go.Extern Go.Maps Go.WideMaps Go.Sort

theorem Mk.drain1_has (m : Mk) (t : Nat) (c g : Int) : (m.drain1 t).mem.ar.has c g = m.mem.ar.has c g := by
  unfold Mk.drain1
  split
  · rfl
  · obtain ⟨h1, h2, h3⟩ := Rm.drained_ar m.mem t ‹Wt› ‹List Wt›
    show Ar.has (Rm.drained _ _ _ _).ar c g = _
    unfold Ar.has
    rw [h1, h2, h3]
theorem Mk.drain1_names (m : Mk) (t : Nat) (n : Int) : (m.drain1 t).names n = m.names n := by
  unfold Mk.names
  rw [Mk.drain1_has]

set_option maxRecDepth 20000 in
set_option maxHeartbeats 1000000 in
theorem kstore_few {a : Nat → Addr} {cs : List (List Ins)} {p : MkPl} {m : Mk} {w : World} (h : MkAt a cs p m w) {t : Nat} (ht : t < cs.length) (_hx : ∀ x ∈ m.mem.waits t, x.Ok) (_hf : m.faults ≤ 900000000) (h8 : (m.mem.waits t).length < 8) {n : Int} (hn : Wd n) (hy : m.names n = true) {wi : Nat} (hw : wi < 4) {v : Int} (hv : Wd v) :
    Calls Tryz.prog 84 #[.pointer (some ⟨p.b, 0, none⟩), .int .i64 t, .int .i64 n, .int .i64 wi, .int .i64 v] w fun e w' => e = .returned (.tuple #[]) ∧ MkStep a cs p w p.mv (m.put t n wi v) w' := by
  have HN := hide (named_yes hn h hy)
  have HS : Hid (∀ w', Below w.heap.size w w' → Calls Tryz.prog 95 #[.pointer (some ⟨p.b, 0, none⟩), .int .i64 t, .agg #[.int .i64 (cellOf n), .int .i64 (genOf n)], .int .i64 wi, .int .i64 v] w' fun e w'' => e = .returned .nilIface ∧ MkStep a cs p w p.mv (m.put t n wi v) w'') := fun w' hb =>
    (mem_store (h.below hb) ht h8 hy hw hv).mono fun e w'' ⟨e1, e2⟩ => ⟨e1, MkStep.of_below hb e2⟩
  have hwt : m.mem.waiting t = (m.mem.waits t).length := by unfold Rm.waiting; rw [if_pos (by have := h.thr; omega)]; rfl
  have HW : Hid (∀ w', Below w.heap.size w w' → Calls Tryz.prog 36 #[.pointer (some ⟨p.b, 0, none⟩), .int .i64 t] w' fun e w'' => e = .returned (.int .i64 ((m.mem.waits t).length : Nat)) ∧ w'' = w') := fun w' hb => by
    rw [← hwt]; exact waiting_any p.b m.mem t w' (h.below hb).mem
  have hb8 : (((m.mem.waits t).length : Int) == 8) = false := beq_eq_false_iff_ne.2 (by omega)
  clear h hy hn hw hv hwt
  generalize m.put t n wi v = m' at *
  generalize (m.mem.waits t).length = K at *
  generalize cellOf n = c at *
  generalize genOf n = g at *
  go_enter Tryz.func84, Tryz.ntmps84
  go_wp2_with fail
  refine HN.out.mono ?_
  rintro e w1 ⟨rfl, hb1⟩
  obtain ⟨W3, hW3⟩ : ∃ W3, W3 = w1.alloc (.cells #[.int .i64 c, .int .i64 g] 65) := ⟨_, rfl⟩
  obtain ⟨q0, q1⟩ := box2 w1 c g
  have B3 : Below w.heap.size w W3 := by rw [hW3]; exact hb1.alloc hb1.size _
  rw [← hW3] at q0 q1
  clear HN hb1
  go_wp2_with fail
  rw [← hW3]
  clear hW3
  refine (HW.out _ B3).mono ?_
  rintro e w4 ⟨rfl, rfl⟩
  clear HW
  go_wp2_with fail
  have B4 := below_dN B3 1
  go_region_with (go_at_call 95; refine (HS.out _ B4).mono ?_; rintro e w6 ⟨rfl, h6⟩)
  all_goals
    go_wp2
    go_end0
    exact ⟨rfl, h6⟩

set_option maxRecDepth 20000 in
set_option maxHeartbeats 1000000 in
theorem kstore_full {a : Nat → Addr} {cs : List (List Ins)} {p : MkPl} {m : Mk} {w : World} (h : MkAt a cs p m w) {t : Nat} (ht : t < cs.length) (hx : ∀ x ∈ m.mem.waits t, x.Ok) (hf : m.faults ≤ 900000000) (h8 : (m.mem.waits t).length = 8) {n : Int} (hn : Wd n) (hy : m.names n = true) {wi : Nat} (hw : wi < 4) {v : Int} (hv : Wd v) :
    Calls Tryz.prog 84 #[.pointer (some ⟨p.b, 0, none⟩), .int .i64 t, .int .i64 n, .int .i64 wi, .int .i64 v] w fun e w' => e = .returned (.tuple #[]) ∧ MkStep a cs p w p.mv ((m.drain1 t).put t n wi v) w' := by
  have HN := hide (named_yes hn h hy)
  have HD : Hid (∀ w', Below w.heap.size w w' → Calls Tryz.prog 34 #[.pointer (some ⟨p.b, 0, none⟩), .int .i64 t] w' fun e w'' => e = .returned .nilIface ∧ MkStep a cs p w' p.mv (m.drain1 t) w'') := fun w' hb => by
    cases hws : m.mem.waits t with
    | nil => rw [hws] at h8; cases h8
    | cons x l => exact (kdrain_some ht (h.below hb) hws (hx x (by rw [hws]; exact List.mem_cons_self)) (by omega)).mono fun e w'' ⟨e1, e2⟩ => ⟨e1, e2⟩
  have HS : Hid (∀ w', MkStep a cs p w p.mv (m.drain1 t) w' → Calls Tryz.prog 95 #[.pointer (some ⟨p.b, 0, none⟩), .int .i64 t, .agg #[.int .i64 (cellOf n), .int .i64 (genOf n)], .int .i64 wi, .int .i64 v] w' fun e w'' => e = .returned .nilIface ∧ MkStep a cs p w p.mv ((m.drain1 t).put t n wi v) w'') := fun w' k => by
    have hl : ((m.drain1 t).mem.waits t).length < 8 := by
      cases hws : m.mem.waits t with
      | nil => rw [hws] at h8; cases h8
      | cons x l => rw [Mk.drain1_waits hws]; rw [hws, List.length_cons] at h8; omega
    exact (mem_store k.at' ht hl (n := n) (by rw [Mk.drain1_names]; exact hy) hw hv).mono fun e w'' ⟨e1, e2⟩ => ⟨e1, k.trans e2⟩
  have hwt : m.mem.waiting t = (m.mem.waits t).length := by unfold Rm.waiting; rw [if_pos (by have := h.thr; omega)]; rfl
  have HW : Hid (∀ w', Below w.heap.size w w' → Calls Tryz.prog 36 #[.pointer (some ⟨p.b, 0, none⟩), .int .i64 t] w' fun e w'' => e = .returned (.int .i64 ((m.mem.waits t).length : Nat)) ∧ w'' = w') := fun w' hb => by
    rw [← hwt]; exact waiting_any p.b m.mem t w' (h.below hb).mem
  rw [h8] at HW
  have H := hide h
  clear h hy hn hx hf hw hv h8 hwt
  generalize (m.drain1 t).put t n wi v = m' at *
  generalize cellOf n = c at *
  generalize genOf n = g at *
  go_enter Tryz.func84, Tryz.ntmps84
  go_wp2_with fail
  refine HN.out.mono ?_
  rintro e w1 ⟨rfl, hb1⟩
  obtain ⟨W3, hW3⟩ : ∃ W3, W3 = w1.alloc (.cells #[.int .i64 c, .int .i64 g] 65) := ⟨_, rfl⟩
  obtain ⟨q0, q1⟩ := box2 w1 c g
  have B3 : Below w.heap.size w W3 := by rw [hW3]; exact hb1.alloc hb1.size _
  rw [← hW3] at q0 q1
  have n2 : ¬ p.fp w1.heap.size := fun e => by have := H.out.fp_lt e; have := hb1.size; omega
  clear HN hb1
  go_wp2_with fail
  rw [← hW3]
  clear hW3
  refine (HW.out _ B3).mono ?_
  rintro e w4 ⟨rfl, rfl⟩
  clear HW
  go_wp2_with fail
  refine (HD.out _ B3).mono ?_
  rintro e w5 ⟨rfl, h5⟩
  replace q0 : w5.cell? ⟨w1.heap.size, 0, none⟩ = some (.int .i64 c) := h5.keep q0 n2
  replace q1 : w5.cell? ⟨w1.heap.size, 1, none⟩ = some (.int .i64 g) := h5.keep q1 n2
  have H5 := hide ((MkStep.of_below B3 h5).below (Below.drewN' 1))
  clear HD h5 H n2
  go_wp2_with fail
  go_region_with (go_at_call 95; refine (HS.out _ H5.out).mono ?_; rintro e w6 ⟨rfl, h6⟩)
  all_goals
    go_wp2
    go_end0
    exact ⟨rfl, h6⟩

set_option maxRecDepth 20000 in
set_option maxHeartbeats 1000000 in
theorem kstore_no {a : Nat → Addr} {cs : List (List Ins)} {p : MkPl} {m : Mk} {w : World} (h : MkAt a cs p m w) {t : Nat} {n : Int} (hn : Wd n) (hf : m.faults ≤ 900000000) (hy : m.names n = false) (wi v : Int) :
    Calls Tryz.prog 84 #[.pointer (some ⟨p.b, 0, none⟩), .int .i64 t, .int .i64 n, .int .i64 wi, .int .i64 v] w fun e w' => e = .returned (.tuple #[]) ∧ MkStep a cs p w p.mv (m.addFault 1) w' := by
  have HN := hide (named_no hn h (by omega) hy)
  clear h hy hn hf
  go_enter Tryz.func84, Tryz.ntmps84
  go_wp2_with fail
  refine HN.out.mono ?_
  rintro e w1 ⟨rfl, h1⟩
  have H1 := hide (h1.below ((Below.refl _ _).alloc (Nat.le_refl _) (.cells #[.int .i64 0, .int .i64 0] 65)))
  clear h1 HN
  go_wp2
  refine bodyPost_ret (v := .tuple #[]) (by simp only [results, Tryz.results84]; go_simp) rfl ⟨rfl, H1.out⟩

theorem kstore_any {a : Nat → Addr} {cs : List (List Ins)} {p : MkPl} {m : Mk} {w : World} (h : MkAt a cs p m w) {t : Nat} (ht : t < cs.length) (hx : ∀ x ∈ m.mem.waits t, x.Ok) (hf : m.faults ≤ 900000000) {n : Int} (hn : Wd n) {wi : Nat} (hw : wi < 4) {v : Int} (hv : Wd v) :
    Calls Tryz.prog 84 #[.pointer (some ⟨p.b, 0, none⟩), .int .i64 t, .int .i64 n, .int .i64 wi, .int .i64 v] w fun e w' => e = .returned (.tuple #[]) ∧ MkStep a cs p w p.mv (m.store t n wi v) w' := by
  have h8 := (h.mem.line t (by rw [h.thr]; exact ht)).le
  unfold Mk.store
  cases hy : m.names n
  · rw [if_neg (by decide)]; exact kstore_no h hn hf hy wi v
  · rw [if_pos rfl]
    unfold Mk.room
    by_cases he : 8 ≤ (m.mem.waits t).length
    · rw [if_pos he]; exact kstore_full h ht hx hf (by omega) hn hy hw hv
    · rw [if_neg he]; exact kstore_few h ht hx hf (by omega) hn hy hw hv

theorem kalloc_none {a : Nat → Addr} {cs : List (List Ins)} {p : MkPl} {m : Mk} {w : World} (h : MkAt a cs p m w) {t : Nat} (ht : t < cs.length) (hf : m.mem.ar.free? = none) :
    Calls Tryz.prog 87 #[.pointer (some ⟨p.b, 0, none⟩), .int .i64 t] w fun e w' => e = .returned (.int .i64 0) ∧ Below w.heap.size w w' := by
  have HA := hide (mem_alloc_none h ht hf)
  clear h hf
  go_enter Tryz.func87, Tryz.ntmps87
  go_wp2_with fail
  refine HA.out.mono ?_
  rintro e w1 ⟨rfl, hb1⟩
  go_wp2
  go_ret
  exact ⟨rfl, hb1.alloc hb1.size _⟩

theorem kalloc_some {a : Nat → Addr} {cs : List (List Ins)} {p : MkPl} {m : Mk} {w : World} (h : MkAt a cs p m w) {t c : Nat} (ht : t < cs.length) (hf : m.mem.ar.free? = some c) (hg : m.mem.ar.given c ≤ 60000000) :
    Calls Tryz.prog 87 #[.pointer (some ⟨p.b, 0, none⟩), .int .i64 t] w fun e w' => e = .returned (.int .i64 ((m.mem.ar.given c : Int) * 64 + c + 1)) ∧ MkStep a cs p w p.mv (m.setMem (m.mem.give c)) w' := by
  have HA := hide (mem_alloc_some h ht hf hg)
  obtain ⟨h1, -, -⟩ := Ar.free_some hf
  have h64 := h.mem.ar.small
  have HW : Hid (∀ w', Calls Tryz.prog 98 #[.agg #[.int .i64 c, .int .i64 (m.mem.ar.given c)]] w' fun e w'' => e = .returned (.tuple #[.int .i64 ((m.mem.ar.given c : Int) * 64 + c + 1), .nilIface]) ∧ Below w'.heap.size w' w'') := fun w' => word_ok c _ w' ⟨by omega, by omega, by omega, by omega⟩
  clear h hf
  generalize m.setMem (m.mem.give c) = m' at *
  generalize (m.mem.ar.given c : Int) * 64 + c + 1 = V at *
  generalize (m.mem.ar.given c) = G at *
  go_enter Tryz.func87, Tryz.ntmps87
  go_wp2_with fail
  refine HA.out.mono ?_
  rintro e w1 ⟨rfl, k1⟩
  have H3 := hide (k1.below ((Below.refl _ _).alloc (Nat.le_refl _) (.cells #[.int .i64 c, .int .i64 G] 65)))
  clear k1 HA
  go_wp2_with fail
  refine (HW.out _).mono ?_
  rintro e w2 ⟨rfl, hb2⟩
  have H4 := hide (H3.out.below hb2)
  go_wp2
  go_ret
  exact ⟨rfl, H4.out⟩
end Go.Proofs.YtnnlkolhahjokaaGreatDoor
