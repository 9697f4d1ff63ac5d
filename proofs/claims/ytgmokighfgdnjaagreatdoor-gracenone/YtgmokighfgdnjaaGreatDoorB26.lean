import Derived.Test.YtgmokighfgdnjaaGreatDoorB23
import Derived.Test.YtgmokighfgdnjaaGreatDoorB25
import Derived.Test.YtgmokighfgdnjaaGreatDoorB16

/- GdW -/
namespace Go.Proofs.YtgmokighfgdnjaaGreatDoor
open Go.RowKit Go.Extern.Stop Go.Stop Go.Extern Go.Maps Go.WideMaps Go.Sort

theorem numsOwn_kept {w w' : World} {base : Nat} {v : Value} {l : List Int} {ob : Option Nat} (h : numsOwn w base v l) (hg : w.grownBy w' ob) (hne : ∀ b, v.ownBlock = some b → ob ≠ some b) : numsOwn w' base v l := by
  refine World.ownsRow.kept h hg ?_
  cases hr : v.ownBlock with
  | none => exact .inl rfl
  | some b => exact .inr fun e => hne b hr e.symm
theorem numsOwn_form {w : World} {base : Nat} {v : Value} {l : List Int} (h : numsOwn w base v l) (h1 : 0 < l.length) : ∃ g cap, v = .slice (some ⟨g, 0, none⟩) l.length cap ∧ base ≤ g ∧ g < w.heap.size ∧ l.length ≤ cap := by
  obtain ⟨ad, cap, e1, hc, -⟩ := numsOwn_at h
  rcases h.2 with ⟨rfl, e⟩ | ⟨g, cap', cur, rfl, hg, r⟩
  · rw [e] at h1; exact absurd h1 (Nat.lt_irrefl _)
  · cases e1
    exact ⟨g, _, rfl, hg, (World.ownsRow.lt h g rfl).2, hc⟩

def Ap (sb : Nat) (iv rv u : Value) : Prop := ∀ b, u.ownBlock = some b → b ≠ sb ∧ iv.ownBlock ≠ some b ∧ rv.ownBlock ≠ some b
structure WP (base sb : Nat) (w1 : World) (K : List (Value × List Int)) (iv : Value) (vs : List Value) (I : List (List Int)) (rv : Value) (rs : List Value) (R : List (List Int)) (w : World) : Prop where
  c0 : w.cell? ⟨sb, 0, none⟩ = some (.int .i64 30)
  c1 : w.cell? ⟨sb, 1, none⟩ = some iv
  c2 : w.cell? ⟨sb, 2, none⟩ = some rv
  fz : ∀ o, w.frozen? ⟨sb, o, none⟩ = false
  oi : w.ownsRow base 36 1 iv I.length vs
  or' : w.ownsRow base 36 1 rv R.length rs
  ei : ∀ (i : Nat) row, I[i]? = some row → ∃ u, vs[i]? = some u ∧ numsOwn w base u row ∧ Ap sb iv rv u
  er : ∀ (i : Nat) row, R[i]? = some row → ∃ u, rs[i]? = some u ∧ numsOwn w base u row ∧ Ap sb iv rv u
  ni : iv.ownBlock ≠ some sb
  nr : rv.ownBlock ≠ some sb
  ne : ∀ b, iv.ownBlock = some b → rv.ownBlock ≠ some b
  kp : ∀ x ∈ K, numsOwn w base x.1 x.2 ∧ Ap sb iv rv x.1
  low : Below base w1 w
  bs : base ≤ sb
  sl : sb < w.heap.size
section
variable {base sb : Nat} {w1 : World} {K : List (Value × List Int)} {iv : Value} {vs : List Value} {I : List (List Int)} {rv : Value} {rs : List Value} {R : List (List Int)} {w w' : World}
theorem WP.bz (h : WP base sb w1 K iv vs I rv rs R w) : base ≤ w.heap.size := by have := h.sl; have := h.bs; omega
theorem WP.below (h : WP base sb w1 K iv vs I rv rs R w) (k : Below w.heap.size w w') : WP base sb w1 K iv vs I rv rs R w' where
  c0 := keep_cell k h.c0
  c1 := keep_cell k h.c1
  c2 := keep_cell k h.c2
  fz o := by rw [World.frozen?_of_block (k.block sb h.sl)]; exact h.fz o
  oi := ownsRow_block h.oi (fun b hb => k.block b (h.oi.lt b hb).2)
  or' := ownsRow_block h.or' (fun b hb => k.block b (h.or'.lt b hb).2)
  ei i row hr := by obtain ⟨u, h1, h2, h3⟩ := h.ei i row hr; exact ⟨u, h1, numsOwn_keep h2 k, h3⟩
  er i row hr := by obtain ⟨u, h1, h2, h3⟩ := h.er i row hr; exact ⟨u, h1, numsOwn_keep h2 k, h3⟩
  ni := h.ni
  nr := h.nr
  ne := h.ne
  kp x hx := ⟨numsOwn_keep (h.kp x hx).1 k, (h.kp x hx).2⟩
  low := h.low.trans (k.mono h.bz)
  bs := h.bs
  sl := Nat.lt_of_lt_of_le h.sl k.size
theorem WP.out (h : WP base sb w1 K iv vs I rv rs R w) {r : Nat} (hr : r < base) (o : Nat) (x : Value) {w2 : World} (hk : w2 = w.setCell ⟨r, o, none⟩ x) : WP base sb w2 K iv vs I rv rs R w2 := by
  have hb : ∀ b, base ≤ b → w2.heap[b]? = w.heap[b]? := fun b hb => by rw [hk]; exact Below.heap_setCell _ _ _ _ (fun e => by dsimp only at e; omega)
  have C : ∀ o, w2.cell? ⟨sb, o, none⟩ = w.cell? ⟨sb, o, none⟩ := fun o => World.cell?_of_block (hb sb h.bs)
  refine ⟨(C 0).trans h.c0, (C 1).trans h.c1, (C 2).trans h.c2, fun o => (World.frozen?_of_block (hb sb h.bs)).trans (h.fz o), ownsRow_block h.oi (fun b e => hb b (h.oi.lt b e).1), ownsRow_block h.or' (fun b e => hb b (h.or'.lt b e).1), fun i row hr => ?_, fun i row hr => ?_, h.ni, h.nr, h.ne, fun x hx => ⟨ownsRow_block (h.kp x hx).1 (fun b e => hb b (World.ownsRow.lt (h.kp x hx).1 b e).1), (h.kp x hx).2⟩, Below.refl _ _, h.bs, ?_⟩
  · obtain ⟨u, h1, h2, h3⟩ := h.ei i row hr
    exact ⟨u, h1, ownsRow_block h2 (fun b e => hb b (World.ownsRow.lt h2 b e).1), h3⟩
  · obtain ⟨u, h1, h2, h3⟩ := h.er i row hr
    exact ⟨u, h1, ownsRow_block h2 (fun b e => hb b (World.ownsRow.lt h2 b e).1), h3⟩
  · rw [hk]; simp [World.setCell]; exact h.sl

theorem WP.addI (h : WP base sb w1 K iv vs I rv rs R w) {us : List Value} {rws : List (List Int)} (hu : ∀ (k : Nat) row, rws[k]? = some row → ∃ u, us[k]? = some u ∧ numsOwn w base u row ∧ Ap sb iv rv u) {iv' : Value} {N : Nat} (hN : w.heap.size ≤ N) (ho : w'.ownsRow base 36 1 iv' (I.length + rws.length) (vs ++ us)) (hg : w.grownBy w' iv.ownBlock) (hloc : iv'.ownBlock = iv.ownBlock ∨ iv'.ownBlock = some N) :
    WP base sb w1 K iv' (vs ++ us) (I ++ rws) rv rs R (w'.setCell ⟨sb, 1, none⟩ iv') := by
  have hs := h.sl
  have hbz := h.bz
  have hB : Below base w w' := (Below.refl base w).grown hg hbz (fun k hk => (h.oi.lt k hk).1)
  have hsb : w'.heap[sb]? = w.heap[sb]? := hg.block sb hs (fun e => h.ni e.symm)
  have nb : ∀ b, b < w.heap.size → iv.ownBlock ≠ some b → iv'.ownBlock ≠ some b := fun b hb hne e => by
    rcases hloc with h1 | h1
    · rw [h1] at e; exact hne e
    · rw [h1] at e
      have := Option.some.inj e
      omega
  have C : ∀ o, w'.cell? ⟨sb, o, none⟩ = w.cell? ⟨sb, o, none⟩ := fun o => World.cell?_of_block hsb
  have F : ∀ o, w'.frozen? ⟨sb, o, none⟩ = w.frozen? ⟨sb, o, none⟩ := fun o => World.frozen?_of_block hsb
  have blk : ∀ b, b ≠ sb → (w'.setCell ⟨sb, 1, none⟩ iv').heap[b]? = w'.heap[b]? := fun b hb => Below.heap_setCell _ _ _ _ hb
  have kn : ∀ {u : Value} {row : List Int}, numsOwn w base u row → Ap sb iv rv u → numsOwn (w'.setCell ⟨sb, 1, none⟩ iv') base u row ∧ Ap sb iv' rv u := fun {u row} h1 h2 =>
    ⟨ownsRow_block (numsOwn_kept h1 hg (fun b e => (h2 b e).2.1)) (fun b e => blk b (h2 b e).1), fun b e => ⟨(h2 b e).1, nb b (World.ownsRow.lt h1 b e).2 (h2 b e).2.1, (h2 b e).2.2⟩⟩
  have lv : vs.length = I.length := by have := h.oi.1; omega
  refine ⟨cell_ne ((C 0).trans h.c0) (.inr (by decide)), World.cell?_setCell_same _ _ _ ((C 1).trans h.c1), cell_ne ((C 2).trans h.c2) (.inr (by decide)), fun o => by rw [World.frozen?_setCell, F]; exact h.fz o, ownsRow_block (w := w') (by rw [List.length_append]; exact ho) (fun b e => blk b (fun e2 => by rw [e2] at e; exact nb sb hs h.ni e)), ownsRow_block (World.ownsRow.kept h.or' hg (by
    cases hr : rv.ownBlock with
    | none => exact .inl rfl
    | some b => exact .inr fun e => h.ne b e.symm hr)) (fun b e => blk b (fun e2 => by rw [e2] at e; exact h.nr e)), fun i row hr => by
    by_cases hi : i < I.length
    · rw [List.getElem?_append_left hi] at hr
      obtain ⟨u, h1, h2, h3⟩ := h.ei i row hr
      exact ⟨u, by rw [List.getElem?_append_left (by omega)]; exact h1, (kn h2 h3).1, (kn h2 h3).2⟩
    · rw [List.getElem?_append_right (by omega)] at hr
      obtain ⟨u, h1, h2, h3⟩ := hu _ row hr
      exact ⟨u, by rw [List.getElem?_append_right (by omega), lv]; exact h1, (kn h2 h3).1, (kn h2 h3).2⟩, fun i row hr => by
    obtain ⟨u, h1, h2, h3⟩ := h.er i row hr
    exact ⟨u, h1, (kn h2 h3).1, (kn h2 h3).2⟩, nb sb hs h.ni, h.nr, fun b e e2 => nb b (h.or'.lt b e2).2 (fun e3 => h.ne b e3 e2) e, fun x hx => kn (h.kp x hx).1 (h.kp x hx).2, h.low.trans (hB.setCell h.bs _), h.bs, ?_⟩
  have := hB.size
  have e : (w'.setCell ⟨sb, 1, none⟩ iv').heap.size = w'.heap.size := by simp [World.setCell]
  rw [e]
  have := hg.size
  omega

theorem WP.addR (h : WP base sb w1 K iv vs I rv rs R w) {us : List Value} {rws : List (List Int)} (hu : ∀ (k : Nat) row, rws[k]? = some row → ∃ u, us[k]? = some u ∧ numsOwn w base u row ∧ Ap sb iv rv u) {rv' : Value} {N : Nat} (hN : w.heap.size ≤ N) (ho : w'.ownsRow base 36 1 rv' (R.length + rws.length) (rs ++ us)) (hg : w.grownBy w' rv.ownBlock) (hloc : rv'.ownBlock = rv.ownBlock ∨ rv'.ownBlock = some N) :
    WP base sb w1 K iv vs I rv' (rs ++ us) (R ++ rws) (w'.setCell ⟨sb, 2, none⟩ rv') := by
  have hs := h.sl
  have hbz := h.bz
  have hB : Below base w w' := (Below.refl base w).grown hg hbz (fun k hk => (h.or'.lt k hk).1)
  have hsb : w'.heap[sb]? = w.heap[sb]? := hg.block sb hs (fun e => h.nr e.symm)
  have nb : ∀ b, b < w.heap.size → rv.ownBlock ≠ some b → rv'.ownBlock ≠ some b := fun b hb hne e => by
    rcases hloc with h1 | h1
    · rw [h1] at e; exact hne e
    · rw [h1] at e
      have := Option.some.inj e
      omega
  have C : ∀ o, w'.cell? ⟨sb, o, none⟩ = w.cell? ⟨sb, o, none⟩ := fun o => World.cell?_of_block hsb
  have F : ∀ o, w'.frozen? ⟨sb, o, none⟩ = w.frozen? ⟨sb, o, none⟩ := fun o => World.frozen?_of_block hsb
  have blk : ∀ b, b ≠ sb → (w'.setCell ⟨sb, 2, none⟩ rv').heap[b]? = w'.heap[b]? := fun b hb => Below.heap_setCell _ _ _ _ hb
  have kn : ∀ {u : Value} {row : List Int}, numsOwn w base u row → Ap sb iv rv u → numsOwn (w'.setCell ⟨sb, 2, none⟩ rv') base u row ∧ Ap sb iv rv' u := fun {u row} h1 h2 =>
    ⟨ownsRow_block (numsOwn_kept h1 hg (fun b e => (h2 b e).2.2)) (fun b e => blk b (h2 b e).1), fun b e => ⟨(h2 b e).1, (h2 b e).2.1, nb b (World.ownsRow.lt h1 b e).2 (h2 b e).2.2⟩⟩
  have lv : rs.length = R.length := by have := h.or'.1; omega
  refine ⟨cell_ne ((C 0).trans h.c0) (.inr (by decide)), cell_ne ((C 1).trans h.c1) (.inr (by decide)), World.cell?_setCell_same _ _ _ ((C 2).trans h.c2), fun o => by rw [World.frozen?_setCell, F]; exact h.fz o, ownsRow_block (World.ownsRow.kept h.oi hg (by
    cases hr : iv.ownBlock with
    | none => exact .inl rfl
    | some b => exact .inr fun e => h.ne b hr e.symm)) (fun b e => blk b (fun e2 => by rw [e2] at e; exact h.ni e)), ownsRow_block (w := w') (by rw [List.length_append]; exact ho) (fun b e => blk b (fun e2 => by rw [e2] at e; exact nb sb hs h.nr e)), fun i row hr => by
    obtain ⟨u, h1, h2, h3⟩ := h.ei i row hr
    exact ⟨u, h1, (kn h2 h3).1, (kn h2 h3).2⟩, fun i row hr => by
    by_cases hi : i < R.length
    · rw [List.getElem?_append_left hi] at hr
      obtain ⟨u, h1, h2, h3⟩ := h.er i row hr
      exact ⟨u, by rw [List.getElem?_append_left (by omega)]; exact h1, (kn h2 h3).1, (kn h2 h3).2⟩
    · rw [List.getElem?_append_right (by omega)] at hr
      obtain ⟨u, h1, h2, h3⟩ := hu _ row hr
      exact ⟨u, by rw [List.getElem?_append_right (by omega), lv]; exact h1, (kn h2 h3).1, (kn h2 h3).2⟩, h.ni, nb sb hs h.nr, fun b e e2 => nb b (h.oi.lt b e).2 (h.ne b e) e2, fun x hx => kn (h.kp x hx).1 (h.kp x hx).2, h.low.trans (hB.setCell h.bs _), h.bs, ?_⟩
  have := hB.size
  have e : (w'.setCell ⟨sb, 2, none⟩ rv').heap.size = w'.heap.size := by simp [World.setCell]
  rw [e]
  have := hg.size
  omega

theorem WP.box (h : WP base sb w1 K iv vs I rv rs R w) {ob : Option Nat} (hg : w.grownBy w' ob) (ho : ob ≠ some sb) : (∀ o, w'.cell? ⟨sb, o, none⟩ = w.cell? ⟨sb, o, none⟩) ∧ ∀ o, w'.frozen? ⟨sb, o, none⟩ = false := by
  have hsb : w'.heap[sb]? = w.heap[sb]? := hg.block sb h.sl (fun e => ho e.symm)
  exact ⟨fun o => World.cell?_of_block hsb, fun o => by rw [World.frozen?_of_block hsb]; exact h.fz o⟩
theorem WP.sta {c : Int} (h : WP base sb w1 K iv vs I rv rs R w) (hc : c = 30) (hI : I.length ≤ 100) (hR : R.length ≤ 100) (lI : ∀ row ∈ I, row.length ≤ 100) (lR : ∀ row ∈ R, row.length ≤ 100) : ∃ ai ci ar cr, iv = .slice ai I.length ci ∧ rv = .slice ar R.length cr ∧ StaAt ⟨c, I, R⟩ ⟨ai, ci, ar, cr⟩ w := by
  subst hc
  obtain ⟨ai, ci, e1, h1, h2, h3⟩ := ownsRow_shape h.oi
  obtain ⟨ar, cr, e2, g1, g2, g3⟩ := ownsRow_shape h.or'
  refine ⟨ai, ci, ar, cr, e1, e2, fun i row hr => ?_, fun i row hr => ?_, h1, g1, by show I.length ≤ _; omega, by show R.length ≤ _; omega, fun i row hr => ?_, fun i row hr => ?_⟩
  · obtain ⟨u, k1, k2, -⟩ := h.ei i row hr
    obtain ⟨g, eg, cg⟩ := h3 i u k1
    obtain ⟨adr, capr, eu, k3, k4⟩ := numsOwn_at k2
    exact ⟨g, 0, adr, capr, eg, by rw [Nat.zero_add, cg, eu], k3, k4⟩
  · obtain ⟨u, k1, k2, -⟩ := h.er i row hr
    obtain ⟨g, eg, cg⟩ := g3 i u k1
    obtain ⟨adr, capr, eu, k3, k4⟩ := numsOwn_at k2
    exact ⟨g, 0, adr, capr, eg, by rw [Nat.zero_add, cg, eu], k3, k4⟩
  · have := lI row (List.mem_of_getElem? hr); omega
  · have := lR row (List.mem_of_getElem? hr); omega
end

set_option maxRecDepth 20000 in
set_option maxHeartbeats 1000000 in
theorem hub_ok {f : Nat} (hf : 1 ≤ f ∧ f ≤ 4) (w : World) : Calls Tryz.prog 16 #[.int .i64 f] w fun e w' => ∃ v, e = .returned (.tuple #[v, .nilIface]) ∧ numsOwn w' w.heap.size v [1, 0, 0, 0] ∧ Below w.heap.size w w' := by
  have HK := hide (fcheck_ok hf)
  have hm4 := make4
  clear hf
  generalize (f : Int) = fi at *
  go_enter Tryz.func16, Tryz.ntmps16
  go_wp2_with (go_at_call 33; refine (HK.out _).mono ?_; rintro e wq ⟨rfl, rfl⟩)
  go_ret2
  exact ⟨_, rfl, numsOwn_new (cs := #[.int .i64 1, .int .i64 0, .int .i64 0, .int .i64 0]) (l := [1, 0, 0, 0]) rfl (Nat.le_refl _) (by decide), (Below.refl _ _).alloc (Nat.le_refl _) _⟩
def ownX (f : Nat) : Int := if f = 3 then 1 else 0
set_option maxRecDepth 20000 in
set_option maxHeartbeats 1000000 in
theorem own_ok {f : Nat} (hf : 1 ≤ f ∧ f ≤ 4) (w : World) : Calls Tryz.prog 17 #[.int .i64 f] w fun e w' => ∃ v, e = .returned (.tuple #[v, .nilIface]) ∧ numsOwn w' w.heap.size v [ownX f, 0, 0, 0] ∧ Below w.heap.size w w' := by
  have HK := hide (fcheck_ok hf)
  have HJ := hide (counts_any (f : Int))
  have hm4 := make4
  clear hf
  unfold ownX
  by_cases h3 : f = 3
  · rw [if_pos h3]
    rw [show decide ((f : Int) = 3) = true from decide_eq_true (by omega)] at HJ
    clear h3
    generalize (f : Int) = fi at *
    go_enter Tryz.func17, Tryz.ntmps17
    go_wp2_with (first
      | (go_at_call 33; refine (HK.out _).mono ?_; rintro e wq ⟨rfl, rfl⟩)
      | (go_at_call 34; refine (HJ.out _).mono ?_; rintro e wz ⟨rfl, rfl⟩))
    go_ret2
    exact ⟨_, rfl, numsOwn_new (cs := #[.int .i64 1, .int .i64 0, .int .i64 0, .int .i64 0]) (l := [1, 0, 0, 0]) rfl (Nat.le_refl _) (by decide), (Below.refl _ _).alloc (Nat.le_refl _) _⟩
  · rw [if_neg h3]
    rw [show decide ((f : Int) = 3) = false from decide_eq_false (by omega)] at HJ
    clear h3
    generalize (f : Int) = fi at *
    go_enter Tryz.func17, Tryz.ntmps17
    go_wp2_with (first
      | (go_at_call 33; refine (HK.out _).mono ?_; rintro e wq ⟨rfl, rfl⟩)
      | (go_at_call 34; refine (HJ.out _).mono ?_; rintro e wz ⟨rfl, rfl⟩))
    go_ret2
    exact ⟨_, rfl, numsOwn_new (cs := #[.int .i64 0, .int .i64 0, .int .i64 0, .int .i64 0]) (l := [0, 0, 0, 0]) rfl (Nat.le_refl _) (by decide), (Below.refl _ _).alloc (Nat.le_refl _) _⟩
def linkX (f : Nat) : Int := if f = 4 then -1 else 1
set_option maxRecDepth 20000 in
theorem link_ok {f : Nat} (hf : 1 ≤ f ∧ f ≤ 4) (w : World) : Calls Tryz.prog 18 #[.int .i64 f] w fun e w' => e = .returned (.tuple #[.int .i64 (linkX f), .nilIface]) ∧ w' = w := by
  have HK := hide (fcheck_ok hf)
  have HJ := hide (joins_any (f : Int))
  clear hf
  unfold linkX
  by_cases h3 : f = 4
  · rw [if_pos h3]
    rw [show decide ((f : Int) = 4) = true from decide_eq_true (by omega)] at HJ
    clear h3
    generalize (f : Int) = fi at *
    go_enter Tryz.func18, Tryz.ntmps18
    go_wp2_with (first
      | (go_at_call 33; refine (HK.out _).mono ?_; rintro e wq ⟨rfl, rfl⟩)
      | (go_at_call 35; refine (HJ.out _).mono ?_; rintro e wz ⟨rfl, rfl⟩))
    go_ret2
    exact ⟨rfl, rfl⟩
  · rw [if_neg h3]
    rw [show decide ((f : Int) = 4) = false from decide_eq_false (by omega)] at HJ
    clear h3
    generalize (f : Int) = fi at *
    go_enter Tryz.func18, Tryz.ntmps18
    go_wp2_with (first
      | (go_at_call 33; refine (HK.out _).mono ?_; rintro e wq ⟨rfl, rfl⟩)
      | (go_at_call 35; refine (HJ.out _).mono ?_; rintro e wz ⟨rfl, rfl⟩))
    go_ret2
    exact ⟨rfl, rfl⟩
end Go.Proofs.YtgmokighfgdnjaaGreatDoor

/- GcB -/
namespace Go.Proofs.YtgmokighfgdnjaaGreatDoor
open Go.RowKit

theorem u8_digit {k l : Nat} (hk : k ≤ 9) (hl : l ≤ 9) (h : UInt8.ofNat (48 + k) = UInt8.ofNat (48 + l)) : k = l := by
  have := congrArg UInt8.toNat h
  simp at this
  omega
def noLab (p : ByteArray) (A : List Ins) : Prop := ∀ y ∈ A, ∀ l, l ≤ 9 → setsLabel y (lb p l) = false
def gOk (s : List GI) : Bool := s.all fun i => match i with
  | .label k => decide (k ≤ 9)
  | .zero _ l => decide (l ≤ 9) && (gLab l s 0).isSome
  | .same _ _ l => decide (l ≤ 9) && (gLab l s 0).isSome
  | .goto l => decide (l ≤ 9) && (gLab l s 0).isSome
  | _ => true

theorem gLab_at {l : Nat} : ∀ {s : List GI} {i j : Nat}, gLab l s i = some j → i ≤ j ∧ s[j - i]? = some (.label l) ∧ ∀ k, k < j - i → s[k]? ≠ some (.label l)
  | [], _, _, h => by cases h
  | x :: r, i, j, h => by
    by_cases e : x = .label l
    · subst e
      have h' : (if l = l then some i else gLab l r (i + 1)) = some j := h
      rw [if_pos rfl] at h'
      cases h'
      refine ⟨Nat.le_refl _, by rw [Nat.sub_self]; rfl, fun k hk => absurd hk (by omega)⟩
    · have h' : gLab l r (i + 1) = some j := by
        cases x with
        | label k =>
          have h2 : (if k = l then some i else gLab l r (i + 1)) = some j := h
          rwa [if_neg (fun e2 => e (by rw [e2]))] at h2
        | _ => exact h
      obtain ⟨h1, h2, h3⟩ := gLab_at h'
      refine ⟨by omega, ?_, fun k hk => ?_⟩
      · rw [show j - i = (j - (i + 1)) + 1 by omega]
        exact h2
      · cases k with
        | zero => exact fun e2 => e (by simpa using e2)
        | succ k => exact h3 k (by omega)
theorem GI.sets {p : ByteArray} {i : GI} {l : Nat} (h : setsLabel (i.ins p) (lb p l) = true) (hl : l ≤ 9) (hk : ∀ k, i = .label k → k ≤ 9) : i = .label l := by
  unfold setsLabel at h
  simp only [Bool.and_eq_true] at h
  obtain ⟨h1, h2⟩ := h
  rw [toList_bl] at h1
  cases i with
  | label k =>
    have e : lb p k = lb p l := by
      have := eq_of_beq h2
      rw [toList_bl, toList_bl] at this
      exact bl_inj this
    rw [u8_digit (hk k rfl) hl (lb_inj e).2]
  | _ => exact Bool.noConfusion (show false = true from h1)
theorem gLab_labelAt {p : ByteArray} {A B : List Ins} {s : List GI} {l j : Nat} (hA : noLab p A) (hs : gOk s = true) (hl : l ≤ 9) (h : gLab l s 0 = some j) : labelAt (A ++ (gCode p s ++ B)) (lb p l) = ((A.length + j : Nat) : Int) := by
  obtain ⟨-, h2, h3⟩ := gLab_at h
  rw [Nat.sub_zero] at h2 h3
  have hj : j < s.length := (List.getElem?_eq_some_iff.1 h2).1
  have hsl : ∀ k, .label k ∈ s → k ≤ 9 := fun k hk => by
    have := List.all_eq_true.1 hs _ hk
    simpa using this
  have at' : ∀ k, k < s.length → (A ++ (gCode p s ++ B))[A.length + k]? = (s[k]?).map (GI.ins p) := fun k hk => by
    rw [List.getElem?_append_right (Nat.le_add_right _ _), Nat.add_sub_cancel_left, List.getElem?_append_left (by unfold gCode; rw [List.length_map]; exact hk)]
    unfold gCode
    rw [List.getElem?_map]
  refine labelAt_some (x := (GI.label l).ins p) ?_ ?_ ?_
  · rw [at' j hj, h2]; rfl
  · unfold setsLabel
    rw [toList_bl]
    have e1 : (bl ((GI.label l).ins p).op == [108, 97, 98, 101, 108]) = true := rfl
    rw [e1, Bool.true_and]
    exact beq_self_eq_true _
  · intro k y hk hy
    by_cases hkA : k < A.length
    · rw [List.getElem?_append_left hkA] at hy
      exact hA y (List.mem_of_getElem? hy) l hl
    · obtain ⟨k', rfl⟩ : ∃ k', k = A.length + k' := ⟨k - A.length, by omega⟩
      rw [at' k' (by omega)] at hy
      cases hx : s[k']? with
      | none => rw [hx] at hy; cases hy
      | some i =>
        rw [hx] at hy
        have hy : y = i.ins p := (Option.some.inj hy).symm
        subst hy
        cases hb : setsLabel (i.ins p) (lb p l) with
        | false => rfl
        | true =>
          have := GI.sets hb hl (fun k2 e => hsl k2 (by rw [← e]; exact List.mem_of_getElem? hx))
          subst this
          exact absurd hx (h3 k' (by omega))

theorem setPc_setPc (m : Mk) (t a b : Nat) : (m.setPc t a).setPc t b = m.setPc t b := by
  unfold Mk.setPc
  simp only [Mk.mk.injEq, true_and, and_true]
  funext u
  by_cases e : u = t
  · rw [if_pos e, if_pos e]
  · rw [if_neg e, if_neg e, if_neg e]

theorem gstep {m : Mk} {t q : Nat} {L A B : List Ins} {p : ByteArray} {s : List GI} {i : GI} (hL : L = A ++ (gCode p s ++ B)) (hpc : m.pc t = A.length + q) (hq : s[q]? = some i) (hA : noLab p A) (hs : gOk s = true) :
    doneAt L (m.pc t) = false ∧ m.step L t = gExec (m.setPc t (A.length + gNext s q (m.regs t) i)) t i := by
  have hlt : q < s.length := (List.getElem?_eq_some_iff.1 hq).1
  have hx : L[m.pc t]? = some (i.ins p) := by
    rw [hL, hpc, List.getElem?_append_right (Nat.le_add_right _ _), Nat.add_sub_cancel_left, List.getElem?_append_left (by unfold gCode; rw [List.length_map]; exact hlt)]
    unfold gCode
    rw [List.getElem?_map, hq]; rfl
  have hi := List.all_eq_true.1 hs i (List.mem_of_getElem? hq)
  have lab : ∀ l, l ≤ 9 → (gLab l s 0).isSome = true → (labelAt L (lb p l)).toNat = A.length + gAt l s := fun l hl hS => by
    obtain ⟨j, hj⟩ := Option.isSome_iff_exists.1 hS
    rw [hL, gLab_labelAt hA hs hl hj]
    unfold gAt
    rw [hj]
    exact Int.toNat_natCast _
  refine ⟨?_, ?_⟩
  · unfold doneAt
    rw [hx]
    exact i.goes p
  · unfold Mk.step
    rw [hx]
    show (m.setPc t (m.pc t + 1)).exec L t (i.ins p) = _
    rw [hpc]
    cases i with
    | load r a k => rw [exec_load _ _ _ rfl]; rfl
    | const r v => rw [exec_const _ _ _ rfl]; rfl
    | move r a => rw [exec_move _ _ _ rfl]; rfl
    | add r a b => rw [exec_add _ _ _ rfl]; rfl
    | sub r a b => rw [exec_sub _ _ _ rfl]; rfl
    | store a r k => rw [exec_store _ _ _ rfl]; rfl
    | swap r a k => rw [exec_swap _ _ _ rfl]; rfl
    | cas a r k => rw [exec_cas _ _ _ rfl]; rfl
    | fence => rw [exec_fence _ _ _ rfl]; rfl
    | force => rw [exec_force _ _ _ rfl]; rfl
    | alloc r => rw [exec_alloc _ _ _ rfl]; rfl
    | free r => rw [exec_free _ _ _ rfl]; rfl
    | need r => rw [exec_need _ _ _ rfl]; rfl
    | label k => rw [exec_label _ _ _ rfl]; rfl
    | zero r l =>
      rw [exec_zero _ _ _ rfl]
      simp only [Bool.and_eq_true, decide_eq_true_eq] at hi
      show (if m.regs t r = 0 then (m.setPc t (A.length + q + 1)).setPc t (labelAt L (lb p l)).toNat else m.setPc t (A.length + q + 1)) = m.setPc t (A.length + if m.regs t r = 0 then gAt l s else q + 1)
      split
      · rw [setPc_setPc, lab l hi.1 hi.2]
      · rfl
    | same r a l =>
      rw [exec_same _ _ _ rfl]
      simp only [Bool.and_eq_true, decide_eq_true_eq] at hi
      show (if m.regs t r = m.regs t a then (m.setPc t (A.length + q + 1)).setPc t (labelAt L (lb p l)).toNat else m.setPc t (A.length + q + 1)) = m.setPc t (A.length + if m.regs t r = m.regs t a then gAt l s else q + 1)
      split
      · rw [setPc_setPc, lab l hi.1 hi.2]
      · rfl
    | goto l =>
      rw [exec_goto _ _ _ rfl]
      simp only [Bool.and_eq_true, decide_eq_true_eq] at hi
      show (m.setPc t (A.length + q + 1)).setPc t (labelAt L (lb p l)).toNat = m.setPc t (A.length + gAt l s)
      rw [setPc_setPc, lab l hi.1 hi.2]
end Go.Proofs.YtgmokighfgdnjaaGreatDoor

/- GcC -/
namespace Go.Proofs.YtgmokighfgdnjaaGreatDoor
open Go.RowKit

def vw (m : Mk) (t : Nat) (c : Nat) (g : Int) (k : Nat) : Int := (m.mem.waits t).foldl (Wt.pick c g k) (m.mem.ar.words c k)
def rf (m : Mk) (c : Nat) : Int := ((m.mem.ar.given c : Int) - 1) * 64 + c + 1
structure Live (m : Mk) (c : Nat) : Prop where
  lt : c < m.mem.ar.size
  there : m.mem.ar.there c = true
  given : 0 < m.mem.ar.given c
  small : m.mem.ar.size ≤ 64
def gn (m : Mk) (c : Nat) : Int := (m.mem.ar.given c : Int) - 1

theorem rf_cell {m : Mk} {c : Nat} (h : Live m c) : cellOf (rf m c) = c ∧ genOf (rf m c) = gn m c := by
  have h1 := h.lt
  have h2 := h.small
  unfold cellOf genOf rf gn
  constructor <;> omega
theorem rf_pos {m : Mk} {c : Nat} (h : Live m c) : 0 < rf m c := by
  have h1 := h.given
  unfold rf
  omega
theorem has_iff {s : Ar} {c : Nat} {g : Int} (hs : c < s.size) : s.has c g = true ↔ s.there c = true ∧ g = (s.given c : Int) - 1 := by
  unfold Ar.has
  simp only [Bool.and_eq_true, decide_eq_true_eq, beq_iff_eq, Int.toNat_natCast]
  constructor
  · rintro ⟨⟨-, h1⟩, h2⟩; exact ⟨h1, h2⟩
  · rintro ⟨h1, h2⟩; exact ⟨⟨by omega, h1⟩, h2⟩
theorem Live.has {m : Mk} {c : Nat} (h : Live m c) : m.mem.ar.has c (gn m c) = true := (has_iff h.lt).2 ⟨h.there, rfl⟩
theorem Live.names {m : Mk} {c : Nat} (h : Live m c) : m.names (rf m c) = true := by
  unfold Mk.names
  rw [(rf_cell h).1, (rf_cell h).2, h.has]
  have := rf_pos h
  have e : (rf m c == 0) = false := by rw [beq_eq_false_iff_ne]; omega
  rw [e]; rfl
theorem Live.loaded {m : Mk} {c : Nat} (h : Live m c) (t k : Nat) : m.loaded t (rf m c) k = vw m t c (gn m c) k := by
  unfold Mk.loaded vw
  rw [(rf_cell h).1, (rf_cell h).2, Int.toNat_natCast, Int.toNat_natCast]
theorem load_live {m : Mk} {c : Nat} (h : Live m c) (t r k : Nat) : m.load t r (rf m c) k = m.setReg t r (vw m t c (gn m c) k) := by
  unfold Mk.load
  rw [if_pos h.names, h.loaded]

structure SameCells (m m' : Mk) : Prop where
  size : m'.mem.ar.size = m.mem.ar.size
  there : m'.mem.ar.there = m.mem.ar.there
  given : m'.mem.ar.given = m.mem.ar.given
theorem SameCells.refl (m : Mk) : SameCells m m := ⟨rfl, rfl, rfl⟩
theorem SameCells.trans {a b c : Mk} (h : SameCells a b) (k : SameCells b c) : SameCells a c := ⟨k.size.trans h.size, k.there.trans h.there, k.given.trans h.given⟩
theorem SameCells.live {m m' : Mk} (h : SameCells m m') {c : Nat} (k : Live m c) : Live m' c := ⟨by rw [h.size]; exact k.lt, by rw [h.there]; exact k.there, by rw [h.given]; exact k.given, by rw [h.size]; exact k.small⟩
theorem SameCells.rf {m m' : Mk} (h : SameCells m m') (c : Nat) : rf m' c = rf m c := by unfold Go.Proofs.YtgmokighfgdnjaaGreatDoor.rf; rw [h.given]
theorem SameCells.gn {m m' : Mk} (h : SameCells m m') (c : Nat) : gn m' c = gn m c := by unfold Go.Proofs.YtgmokighfgdnjaaGreatDoor.gn; rw [h.given]

theorem foldl_snoc (l : List Wt) (x : Wt) (c g k v : Int) : (l ++ [x]).foldl (Wt.pick c g k) v = Wt.pick c g k (l.foldl (Wt.pick c g k) v) x := by
  rw [List.foldl_append]; rfl
theorem foldl_none {c g k : Int} : ∀ {l : List Wt} {v : Int}, (∀ x ∈ l, ¬ (x.c = c ∧ x.g = g ∧ x.w = k)) → l.foldl (Wt.pick c g k) v = v
  | [], _, _ => rfl
  | x :: l, v, h => by
    rw [List.foldl_cons]
    have : Wt.pick c g k v x = v := if_neg (h x List.mem_cons_self)
    rw [this]
    exact foldl_none (fun y hy => h y (List.mem_cons_of_mem _ hy))

structure Drained (m m' : Mk) (t : Nat) (x : Wt) (l : List Wt) : Prop where
  cells : SameCells m m'
  thr : m'.mem.threads = m.mem.threads
  own : m'.mem.waits t = l
  was : m.mem.waits t = x :: l
  waits : ∀ u, u ≠ t → m'.mem.waits u = m.mem.waits u
  regs : m'.regs = m.regs
  pc : m'.pc = m.pc
  words : ∀ c k, m'.mem.ar.words c k = if c = x.c.toNat ∧ k = x.w.toNat ∧ m.mem.ar.has x.c x.g = true then x.v else m.mem.ar.words c k
  faults : m'.faults = m.faults + if m.mem.ar.has x.c x.g = true then 0 else 1
theorem drain1_cons {m : Mk} {t : Nat} {x : Wt} {l : List Wt} (h : m.mem.waits t = x :: l) : Drained m (m.drain1 t) t x l := by
  have e : m.drain1 t = { m with mem := m.mem.drained t x l, faults := m.faults + if m.mem.ar.has x.c x.g = true then 0 else 1 } := by
    unfold Mk.drain1
    rw [h]
  rw [e]
  refine ⟨⟨(Rm.drained_ar _ _ _ _).1, (Rm.drained_ar _ _ _ _).2.1, (Rm.drained_ar _ _ _ _).2.2⟩, Rm.drained_threads _ _ _ _, Rm.drained_waits _ _ _ _, h, fun u hu => Rm.drained_waits_ne _ _ _ _ _ hu, rfl, rfl, fun c k => ?_, rfl⟩
  show (m.mem.drained t x l).ar.words c k = _
  unfold Rm.drained
  by_cases hh : m.mem.ar.has x.c x.g = true
  · rw [if_pos hh]
    show (if c = x.c.toNat ∧ k = x.w.toNat then x.v else m.mem.ar.words c k) = _
    by_cases e : c = x.c.toNat ∧ k = x.w.toNat
    · rw [if_pos e, if_pos ⟨e.1, e.2, hh⟩]
    · rw [if_neg e, if_neg (fun e2 => e ⟨e2.1, e2.2.1⟩)]
  · rw [if_neg hh, if_neg (fun e2 => hh e2.2.2)]; rfl
theorem drain1_nil {m : Mk} {t : Nat} (h : m.mem.waits t = []) : m.drain1 t = m := by
  unfold Mk.drain1
  rw [h]
theorem Drained.vw {m m' : Mk} {t : Nat} {x : Wt} {l : List Wt} (h : Drained m m' t x l) {c : Nat} (hc : Live m c) (hx : 0 ≤ x.c ∧ 0 ≤ x.w) (k : Nat) : vw m' t c (gn m c) k = vw m t c (gn m c) k := by
  unfold Go.Proofs.YtgmokighfgdnjaaGreatDoor.vw
  rw [h.own, h.was, List.foldl_cons, h.words]
  congr 1
  unfold Wt.pick
  by_cases e : x.c = c ∧ x.g = gn m c ∧ x.w = k
  · rw [if_pos e]
    obtain ⟨e1, e2, e3⟩ := e
    rw [if_pos ⟨by omega, by omega, by rw [e1, e2]; exact hc.has⟩]
  · rw [if_neg e, if_neg]
    rintro ⟨e1, e2, e3⟩
    have ec : x.c = c := by omega
    refine e ⟨ec, ?_, by omega⟩
    rw [ec] at e3
    exact ((has_iff hc.lt).1 e3).2
theorem Drained.vw_ne {m m' : Mk} {t u : Nat} {x : Wt} {l : List Wt} (h : Drained m m' t x l) (hu : u ≠ t) {c : Nat} (hc : c ≠ x.c.toNat) (g : Int) (k : Nat) : Go.Proofs.YtgmokighfgdnjaaGreatDoor.vw m' u c g k = Go.Proofs.YtgmokighfgdnjaaGreatDoor.vw m u c g k := by
  unfold Go.Proofs.YtgmokighfgdnjaaGreatDoor.vw
  rw [h.waits u hu, h.words, if_neg (fun e => hc e.1)]

theorem fence_of {P : Mk → Prop} {t : Nat} (hd : ∀ m, P m → P (m.drain1 t)) : ∀ {m : Mk}, P m → P (m.fence t) := by
  have key : ∀ (l : List Wt) (m : Mk), m.mem.waits t = l → P m → P { m with mem := m.mem.drainAll t l, faults := m.faults + m.mem.gone t l } := by
    intro l
    induction l with
    | nil => intro m _ h; exact h
    | cons x l ih =>
      intro m hm h
      have e : m.drain1 t = { m with mem := m.mem.drained t x l, faults := m.faults + if m.mem.ar.has x.c x.g = true then 0 else 1 } := by
        unfold Mk.drain1
        rw [hm]
      have h1 := hd m h
      rw [e] at h1
      have := ih _ (Rm.drained_waits m.mem t x l) h1
      have e2 : m.faults + (if m.mem.ar.has x.c x.g = true then 0 else 1) + (m.mem.drained t x l).gone t l = m.faults + m.mem.gone t (x :: l) := by
        show _ = m.faults + ((if m.mem.ar.has x.c x.g = true then 0 else 1) + (m.mem.drained t x l).gone t l)
        omega
      dsimp only at this
      rw [e2] at this
      exact this
  intro m h
  exact key _ m rfl h
theorem fence_waits_ne (m : Mk) (t : Nat) {u : Nat} (h : u ≠ t) : (m.fence t).mem.waits u = m.mem.waits u := Rm.drainAll_waits_ne _ _ _ h _
theorem force_waits (k : Nat) : ∀ (m : Mk) (t u : Nat), (t ≤ u ∧ u < t + k ∨ m.mem.waits u = []) → (m.fenceFrom t k).mem.waits u = [] := by
  induction k with
  | zero =>
    intro m t u h
    rcases h with h | h
    · omega
    · exact h
  | succ k ih =>
    intro m t u h
    refine ih (m.fence t) (t + 1) u ?_
    by_cases e : u = t
    · subst e
      exact .inr (Rm.drainAll_waits _ _ _ rfl)
    · rcases h with h | h
      · exact .inl ⟨by omega, by omega⟩
      · exact .inr (by rw [fence_waits_ne m t e]; exact h)

theorem setReg_reg (m : Mk) (t r : Nat) (v : Int) (k : Nat) : (m.setReg t r v).regs t k = if k = r then v else m.regs t k := by
  show (if t = t ∧ k = r then v else m.regs t k) = _
  by_cases e : k = r
  · rw [if_pos ⟨rfl, e⟩, if_pos e]
  · rw [if_neg (fun h => e h.2), if_neg e]
theorem setReg_other (m : Mk) (t r : Nat) (v : Int) {u : Nat} (hu : u ≠ t) : (m.setReg t r v).regs u = m.regs u := by
  funext k
  exact if_neg (fun h => hu h.1)
theorem drain1_regs (m : Mk) (t : Nat) : (m.drain1 t).regs = m.regs ∧ (m.drain1 t).pc = m.pc := by
  unfold Mk.drain1
  split <;> exact ⟨rfl, rfl⟩
theorem fenceFrom_regs : ∀ (k : Nat) (m : Mk) (t : Nat), (m.fenceFrom t k).regs = m.regs ∧ (m.fenceFrom t k).pc = m.pc
  | 0, _, _ => ⟨rfl, rfl⟩
  | k + 1, m, t => fenceFrom_regs k (m.fence t) (t + 1)

theorem store_live {m : Mk} {c : Nat} (h : Live m c) (t k : Nat) (v : Int) : m.store t (rf m c) k v = (m.room t).put t (rf m c) k v := by
  unfold Mk.store
  rw [if_pos h.names]
theorem room_of {P : Mk → Prop} {t : Nat} {m : Mk} (hd : ∀ m, P m → P (m.drain1 t)) (h : P m) : P (m.room t) := by
  unfold Mk.room
  split
  · exact hd m h
  · exact h
theorem room_regs (m : Mk) (t : Nat) : (m.room t).regs = m.regs ∧ (m.room t).pc = m.pc := by
  unfold Mk.room
  split
  · exact drain1_regs m t
  · exact ⟨rfl, rfl⟩
end Go.Proofs.YtgmokighfgdnjaaGreatDoor
