import Derived.Test.YtpjabgdcpogdiaaGreatDoorE27
import Derived.Test.YtpjabgdcpogdiaaGreatDoorE28
import Derived.Test.YtpjabgdcpogdiaaGreatDoorE06
import Derived.Test.YtpjabgdcpogdiaaGreatDoorE07
import Derived.Laws.BitsLemmas

/- GdW -/
namespace Go.Proofs.YtpjabgdcpogdiaaGreatDoor
open Go.RowKit Go.Extern.Stop Go.Stop Go.Extern Go.Maps Go.WideMaps Go.Sort

theorem numsOwn_kept {w w' : World} {base : Nat} {v : Value} {l : List Int} {ob : Option Nat} (h : numsOwn w base v l) (hg : w.grownBy w' ob) (hne : ∀ b, v.ownBlock = some b → ob ≠ some b) : numsOwn w' base v l := by
  refine World.ownsRow.kept h hg ?_
  cases hr : v.ownBlock with
  | none => exact .inl rfl
  | some b => exact .inr fun e => hne b hr e.symm
theorem numsOwn_form {w : World} {base : Nat} {v : Value} {l : List Int} (h : numsOwn w base v l) (h1 : 0 < l.length) : ∃ g cap, v = .slice (some ⟨g, 0, none⟩) l.length cap ∧ base ≤ g ∧ g < w.heap.size ∧ l.length ≤ cap := by
  obtain ⟨ad, cap, e1, hc, -⟩ := numsOwn_at h
  rcases h.2 with ⟨rfl, e⟩ | ⟨g, cap', cur, rfl, hg, r⟩
  · rw [e] at h1; exact absurd h1 (Nat.lt_irrefl _)
  · cases e1
    exact ⟨g, _, rfl, hg, (World.ownsRow.lt h g rfl).2, hc⟩

def Ap (sb : Nat) (iv rv u : Value) : Prop := ∀ b, u.ownBlock = some b → b ≠ sb ∧ iv.ownBlock ≠ some b ∧ rv.ownBlock ≠ some b
structure WP (base sb : Nat) (w1 : World) (K : List (Value × List Int)) (iv : Value) (vs : List Value) (I : List (List Int)) (rv : Value) (rs : List Value) (R : List (List Int)) (w : World) : Prop where
  c0 : w.cell? ⟨sb, 0, none⟩ = some (.int .i64 30)
  c1 : w.cell? ⟨sb, 1, none⟩ = some iv
  c2 : w.cell? ⟨sb, 2, none⟩ = some rv
  fz : ∀ o, w.frozen? ⟨sb, o, none⟩ = false
  oi : w.ownsRow base 61 1 iv I.length vs
  or' : w.ownsRow base 61 1 rv R.length rs
  ei : ∀ (i : Nat) row, I[i]? = some row → ∃ u, vs[i]? = some u ∧ numsOwn w base u row ∧ Ap sb iv rv u
  er : ∀ (i : Nat) row, R[i]? = some row → ∃ u, rs[i]? = some u ∧ numsOwn w base u row ∧ Ap sb iv rv u
  ni : iv.ownBlock ≠ some sb
  nr : rv.ownBlock ≠ some sb
  ne : ∀ b, iv.ownBlock = some b → rv.ownBlock ≠ some b
  kp : ∀ x ∈ K, numsOwn w base x.1 x.2 ∧ Ap sb iv rv x.1
  low : Below base w1 w
  bs : base ≤ sb
  sl : sb < w.heap.size
section
variable {base sb : Nat} {w1 : World} {K : List (Value × List Int)} {iv : Value} {vs : List Value} {I : List (List Int)} {rv : Value} {rs : List Value} {R : List (List Int)} {w w' : World}
theorem WP.bz (h : WP base sb w1 K iv vs I rv rs R w) : base ≤ w.heap.size := by have := h.sl; have := h.bs; omega
theorem WP.below (h : WP base sb w1 K iv vs I rv rs R w) (k : Below w.heap.size w w') : WP base sb w1 K iv vs I rv rs R w' where
  c0 := keep_cell k h.c0
  c1 := keep_cell k h.c1
  c2 := keep_cell k h.c2
  fz o := by rw [World.frozen?_of_block (k.block sb h.sl)]; exact h.fz o
  oi := ownsRow_block h.oi (fun b hb => k.block b (h.oi.lt b hb).2)
  or' := ownsRow_block h.or' (fun b hb => k.block b (h.or'.lt b hb).2)
  ei i row hr := by obtain ⟨u, h1, h2, h3⟩ := h.ei i row hr; exact ⟨u, h1, numsOwn_keep h2 k, h3⟩
  er i row hr := by obtain ⟨u, h1, h2, h3⟩ := h.er i row hr; exact ⟨u, h1, numsOwn_keep h2 k, h3⟩
  ni := h.ni
  nr := h.nr
  ne := h.ne
  kp x hx := ⟨numsOwn_keep (h.kp x hx).1 k, (h.kp x hx).2⟩
  low := h.low.trans (k.mono h.bz)
  bs := h.bs
  sl := Nat.lt_of_lt_of_le h.sl k.size
theorem WP.out (h : WP base sb w1 K iv vs I rv rs R w) {r : Nat} (hr : r < base) (o : Nat) (x : Value) {w2 : World} (hk : w2 = w.setCell ⟨r, o, none⟩ x) : WP base sb w2 K iv vs I rv rs R w2 := by
  have hb : ∀ b, base ≤ b → w2.heap[b]? = w.heap[b]? := fun b hb => by rw [hk]; exact Below.heap_setCell _ _ _ _ (fun e => by dsimp only at e; omega)
  have C : ∀ o, w2.cell? ⟨sb, o, none⟩ = w.cell? ⟨sb, o, none⟩ := fun o => World.cell?_of_block (hb sb h.bs)
  refine ⟨(C 0).trans h.c0, (C 1).trans h.c1, (C 2).trans h.c2, fun o => (World.frozen?_of_block (hb sb h.bs)).trans (h.fz o), ownsRow_block h.oi (fun b e => hb b (h.oi.lt b e).1), ownsRow_block h.or' (fun b e => hb b (h.or'.lt b e).1), fun i row hr => ?_, fun i row hr => ?_, h.ni, h.nr, h.ne, fun x hx => ⟨ownsRow_block (h.kp x hx).1 (fun b e => hb b (World.ownsRow.lt (h.kp x hx).1 b e).1), (h.kp x hx).2⟩, Below.refl _ _, h.bs, ?_⟩
  · obtain ⟨u, h1, h2, h3⟩ := h.ei i row hr
    exact ⟨u, h1, ownsRow_block h2 (fun b e => hb b (World.ownsRow.lt h2 b e).1), h3⟩
  · obtain ⟨u, h1, h2, h3⟩ := h.er i row hr
    exact ⟨u, h1, ownsRow_block h2 (fun b e => hb b (World.ownsRow.lt h2 b e).1), h3⟩
  · rw [hk]; simp [World.setCell]; exact h.sl

theorem WP.addI (h : WP base sb w1 K iv vs I rv rs R w) {us : List Value} {rws : List (List Int)} (hu : ∀ (k : Nat) row, rws[k]? = some row → ∃ u, us[k]? = some u ∧ numsOwn w base u row ∧ Ap sb iv rv u) {iv' : Value} {N : Nat} (hN : w.heap.size ≤ N) (ho : w'.ownsRow base 61 1 iv' (I.length + rws.length) (vs ++ us)) (hg : w.grownBy w' iv.ownBlock) (hloc : iv'.ownBlock = iv.ownBlock ∨ iv'.ownBlock = some N) :
    WP base sb w1 K iv' (vs ++ us) (I ++ rws) rv rs R (w'.setCell ⟨sb, 1, none⟩ iv') := by
  have hs := h.sl
  have hbz := h.bz
  have hB : Below base w w' := (Below.refl base w).grown hg hbz (fun k hk => (h.oi.lt k hk).1)
  have hsb : w'.heap[sb]? = w.heap[sb]? := hg.block sb hs (fun e => h.ni e.symm)
  have nb : ∀ b, b < w.heap.size → iv.ownBlock ≠ some b → iv'.ownBlock ≠ some b := fun b hb hne e => by
    rcases hloc with h1 | h1
    · rw [h1] at e; exact hne e
    · rw [h1] at e
      have := Option.some.inj e
      omega
  have C : ∀ o, w'.cell? ⟨sb, o, none⟩ = w.cell? ⟨sb, o, none⟩ := fun o => World.cell?_of_block hsb
  have F : ∀ o, w'.frozen? ⟨sb, o, none⟩ = w.frozen? ⟨sb, o, none⟩ := fun o => World.frozen?_of_block hsb
  have blk : ∀ b, b ≠ sb → (w'.setCell ⟨sb, 1, none⟩ iv').heap[b]? = w'.heap[b]? := fun b hb => Below.heap_setCell _ _ _ _ hb
  have kn : ∀ {u : Value} {row : List Int}, numsOwn w base u row → Ap sb iv rv u → numsOwn (w'.setCell ⟨sb, 1, none⟩ iv') base u row ∧ Ap sb iv' rv u := fun {u row} h1 h2 =>
    ⟨ownsRow_block (numsOwn_kept h1 hg (fun b e => (h2 b e).2.1)) (fun b e => blk b (h2 b e).1), fun b e => ⟨(h2 b e).1, nb b (World.ownsRow.lt h1 b e).2 (h2 b e).2.1, (h2 b e).2.2⟩⟩
  have lv : vs.length = I.length := by have := h.oi.1; omega
  refine ⟨cell_ne ((C 0).trans h.c0) (.inr (by decide)), World.cell?_setCell_same _ _ _ ((C 1).trans h.c1), cell_ne ((C 2).trans h.c2) (.inr (by decide)), fun o => by rw [World.frozen?_setCell, F]; exact h.fz o, ownsRow_block (w := w') (by rw [List.length_append]; exact ho) (fun b e => blk b (fun e2 => by rw [e2] at e; exact nb sb hs h.ni e)), ownsRow_block (World.ownsRow.kept h.or' hg (by
    cases hr : rv.ownBlock with
    | none => exact .inl rfl
    | some b => exact .inr fun e => h.ne b e.symm hr)) (fun b e => blk b (fun e2 => by rw [e2] at e; exact h.nr e)), fun i row hr => by
    by_cases hi : i < I.length
    · rw [List.getElem?_append_left hi] at hr
      obtain ⟨u, h1, h2, h3⟩ := h.ei i row hr
      exact ⟨u, by rw [List.getElem?_append_left (by omega)]; exact h1, (kn h2 h3).1, (kn h2 h3).2⟩
    · rw [List.getElem?_append_right (by omega)] at hr
      obtain ⟨u, h1, h2, h3⟩ := hu _ row hr
      exact ⟨u, by rw [List.getElem?_append_right (by omega), lv]; exact h1, (kn h2 h3).1, (kn h2 h3).2⟩, fun i row hr => by
    obtain ⟨u, h1, h2, h3⟩ := h.er i row hr
    exact ⟨u, h1, (kn h2 h3).1, (kn h2 h3).2⟩, nb sb hs h.ni, h.nr, fun b e e2 => nb b (h.or'.lt b e2).2 (fun e3 => h.ne b e3 e2) e, fun x hx => kn (h.kp x hx).1 (h.kp x hx).2, h.low.trans (hB.setCell h.bs _), h.bs, ?_⟩
  have := hB.size
  have e : (w'.setCell ⟨sb, 1, none⟩ iv').heap.size = w'.heap.size := by simp [World.setCell]
  rw [e]
  have := hg.size
  omega

theorem WP.addR (h : WP base sb w1 K iv vs I rv rs R w) {us : List Value} {rws : List (List Int)} (hu : ∀ (k : Nat) row, rws[k]? = some row → ∃ u, us[k]? = some u ∧ numsOwn w base u row ∧ Ap sb iv rv u) {rv' : Value} {N : Nat} (hN : w.heap.size ≤ N) (ho : w'.ownsRow base 61 1 rv' (R.length + rws.length) (rs ++ us)) (hg : w.grownBy w' rv.ownBlock) (hloc : rv'.ownBlock = rv.ownBlock ∨ rv'.ownBlock = some N) :
    WP base sb w1 K iv vs I rv' (rs ++ us) (R ++ rws) (w'.setCell ⟨sb, 2, none⟩ rv') := by
  have hs := h.sl
  have hbz := h.bz
  have hB : Below base w w' := (Below.refl base w).grown hg hbz (fun k hk => (h.or'.lt k hk).1)
  have hsb : w'.heap[sb]? = w.heap[sb]? := hg.block sb hs (fun e => h.nr e.symm)
  have nb : ∀ b, b < w.heap.size → rv.ownBlock ≠ some b → rv'.ownBlock ≠ some b := fun b hb hne e => by
    rcases hloc with h1 | h1
    · rw [h1] at e; exact hne e
    · rw [h1] at e
      have := Option.some.inj e
      omega
  have C : ∀ o, w'.cell? ⟨sb, o, none⟩ = w.cell? ⟨sb, o, none⟩ := fun o => World.cell?_of_block hsb
  have F : ∀ o, w'.frozen? ⟨sb, o, none⟩ = w.frozen? ⟨sb, o, none⟩ := fun o => World.frozen?_of_block hsb
  have blk : ∀ b, b ≠ sb → (w'.setCell ⟨sb, 2, none⟩ rv').heap[b]? = w'.heap[b]? := fun b hb => Below.heap_setCell _ _ _ _ hb
  have kn : ∀ {u : Value} {row : List Int}, numsOwn w base u row → Ap sb iv rv u → numsOwn (w'.setCell ⟨sb, 2, none⟩ rv') base u row ∧ Ap sb iv rv' u := fun {u row} h1 h2 =>
    ⟨ownsRow_block (numsOwn_kept h1 hg (fun b e => (h2 b e).2.2)) (fun b e => blk b (h2 b e).1), fun b e => ⟨(h2 b e).1, (h2 b e).2.1, nb b (World.ownsRow.lt h1 b e).2 (h2 b e).2.2⟩⟩
  have lv : rs.length = R.length := by have := h.or'.1; omega
  refine ⟨cell_ne ((C 0).trans h.c0) (.inr (by decide)), cell_ne ((C 1).trans h.c1) (.inr (by decide)), World.cell?_setCell_same _ _ _ ((C 2).trans h.c2), fun o => by rw [World.frozen?_setCell, F]; exact h.fz o, ownsRow_block (World.ownsRow.kept h.oi hg (by
    cases hr : iv.ownBlock with
    | none => exact .inl rfl
    | some b => exact .inr fun e => h.ne b hr e.symm)) (fun b e => blk b (fun e2 => by rw [e2] at e; exact h.ni e)), ownsRow_block (w := w') (by rw [List.length_append]; exact ho) (fun b e => blk b (fun e2 => by rw [e2] at e; exact nb sb hs h.nr e)), fun i row hr => by
    obtain ⟨u, h1, h2, h3⟩ := h.ei i row hr
    exact ⟨u, h1, (kn h2 h3).1, (kn h2 h3).2⟩, fun i row hr => by
    by_cases hi : i < R.length
    · rw [List.getElem?_append_left hi] at hr
      obtain ⟨u, h1, h2, h3⟩ := h.er i row hr
      exact ⟨u, by rw [List.getElem?_append_left (by omega)]; exact h1, (kn h2 h3).1, (kn h2 h3).2⟩
    · rw [List.getElem?_append_right (by omega)] at hr
      obtain ⟨u, h1, h2, h3⟩ := hu _ row hr
      exact ⟨u, by rw [List.getElem?_append_right (by omega), lv]; exact h1, (kn h2 h3).1, (kn h2 h3).2⟩, h.ni, nb sb hs h.nr, fun b e e2 => nb b (h.oi.lt b e).2 (h.ne b e) e2, fun x hx => kn (h.kp x hx).1 (h.kp x hx).2, h.low.trans (hB.setCell h.bs _), h.bs, ?_⟩
  have := hB.size
  have e : (w'.setCell ⟨sb, 2, none⟩ rv').heap.size = w'.heap.size := by simp [World.setCell]
  rw [e]
  have := hg.size
  omega

theorem WP.box (h : WP base sb w1 K iv vs I rv rs R w) {ob : Option Nat} (hg : w.grownBy w' ob) (ho : ob ≠ some sb) : (∀ o, w'.cell? ⟨sb, o, none⟩ = w.cell? ⟨sb, o, none⟩) ∧ ∀ o, w'.frozen? ⟨sb, o, none⟩ = false := by
  have hsb : w'.heap[sb]? = w.heap[sb]? := hg.block sb h.sl (fun e => ho e.symm)
  exact ⟨fun o => World.cell?_of_block hsb, fun o => by rw [World.frozen?_of_block hsb]; exact h.fz o⟩
theorem WP.sta {c : Int} (h : WP base sb w1 K iv vs I rv rs R w) (hc : c = 30) (hI : I.length ≤ 100) (hR : R.length ≤ 100) (lI : ∀ row ∈ I, row.length ≤ 100) (lR : ∀ row ∈ R, row.length ≤ 100) : ∃ ai ci ar cr, iv = .slice ai I.length ci ∧ rv = .slice ar R.length cr ∧ StaAt ⟨c, I, R⟩ ⟨ai, ci, ar, cr⟩ w := by
  subst hc
  obtain ⟨ai, ci, e1, h1, h2, h3⟩ := ownsRow_shape h.oi
  obtain ⟨ar, cr, e2, g1, g2, g3⟩ := ownsRow_shape h.or'
  refine ⟨ai, ci, ar, cr, e1, e2, fun i row hr => ?_, fun i row hr => ?_, h1, g1, by show I.length ≤ _; omega, by show R.length ≤ _; omega, fun i row hr => ?_, fun i row hr => ?_⟩
  · obtain ⟨u, k1, k2, -⟩ := h.ei i row hr
    obtain ⟨g, eg, cg⟩ := h3 i u k1
    obtain ⟨adr, capr, eu, k3, k4⟩ := numsOwn_at k2
    exact ⟨g, 0, adr, capr, eg, by rw [Nat.zero_add, cg, eu], k3, k4⟩
  · obtain ⟨u, k1, k2, -⟩ := h.er i row hr
    obtain ⟨g, eg, cg⟩ := g3 i u k1
    obtain ⟨adr, capr, eu, k3, k4⟩ := numsOwn_at k2
    exact ⟨g, 0, adr, capr, eg, by rw [Nat.zero_add, cg, eu], k3, k4⟩
  · have := lI row (List.mem_of_getElem? hr); omega
  · have := lR row (List.mem_of_getElem? hr); omega
end

set_option maxRecDepth 20000 in
set_option maxHeartbeats 1000000 in
theorem hub_ok {f : Nat} (hf : 1 ≤ f ∧ f ≤ 4) (w : World) : Calls Tryz.prog 27 #[.int .i64 f] w fun e w' => ∃ v, e = .returned (.tuple #[v, .nilIface]) ∧ numsOwn w' w.heap.size v [1, 0, 0, 0] ∧ Below w.heap.size w w' := by
  have HK := hide (fcheck_ok hf)
  have hm4 := make4
  clear hf
  generalize (f : Int) = fi at *
  go_enter Tryz.func27, Tryz.ntmps27
  go_wp2_with (go_at_call 45; refine (HK.out _).mono ?_; rintro e wq ⟨rfl, rfl⟩)
  go_ret2
  exact ⟨_, rfl, numsOwn_new (cs := #[.int .i64 1, .int .i64 0, .int .i64 0, .int .i64 0]) (l := [1, 0, 0, 0]) rfl (Nat.le_refl _) (by decide), (Below.refl _ _).alloc (Nat.le_refl _) _⟩
def ownX (f : Nat) : Int := if f = 3 then 1 else 0
set_option maxRecDepth 20000 in
set_option maxHeartbeats 1000000 in
theorem own_ok {f : Nat} (hf : 1 ≤ f ∧ f ≤ 4) (w : World) : Calls Tryz.prog 28 #[.int .i64 f] w fun e w' => ∃ v, e = .returned (.tuple #[v, .nilIface]) ∧ numsOwn w' w.heap.size v [ownX f, 0, 0, 0] ∧ Below w.heap.size w w' := by
  have HK := hide (fcheck_ok hf)
  have HJ := hide (counts_any (f : Int))
  have hm4 := make4
  clear hf
  unfold ownX
  by_cases h3 : f = 3
  · rw [if_pos h3]
    rw [show decide ((f : Int) = 3) = true from decide_eq_true (by omega)] at HJ
    clear h3
    generalize (f : Int) = fi at *
    go_enter Tryz.func28, Tryz.ntmps28
    go_wp2_with (first
      | (go_at_call 45; refine (HK.out _).mono ?_; rintro e wq ⟨rfl, rfl⟩)
      | (go_at_call 47; refine (HJ.out _).mono ?_; rintro e wz ⟨rfl, rfl⟩))
    go_ret2
    exact ⟨_, rfl, numsOwn_new (cs := #[.int .i64 1, .int .i64 0, .int .i64 0, .int .i64 0]) (l := [1, 0, 0, 0]) rfl (Nat.le_refl _) (by decide), (Below.refl _ _).alloc (Nat.le_refl _) _⟩
  · rw [if_neg h3]
    rw [show decide ((f : Int) = 3) = false from decide_eq_false (by omega)] at HJ
    clear h3
    generalize (f : Int) = fi at *
    go_enter Tryz.func28, Tryz.ntmps28
    go_wp2_with (first
      | (go_at_call 45; refine (HK.out _).mono ?_; rintro e wq ⟨rfl, rfl⟩)
      | (go_at_call 47; refine (HJ.out _).mono ?_; rintro e wz ⟨rfl, rfl⟩))
    go_ret2
    exact ⟨_, rfl, numsOwn_new (cs := #[.int .i64 0, .int .i64 0, .int .i64 0, .int .i64 0]) (l := [0, 0, 0, 0]) rfl (Nat.le_refl _) (by decide), (Below.refl _ _).alloc (Nat.le_refl _) _⟩
def linkX (f : Nat) : Int := if f = 4 then -1 else 1
set_option maxRecDepth 20000 in
theorem link_ok {f : Nat} (hf : 1 ≤ f ∧ f ≤ 4) (w : World) : Calls Tryz.prog 29 #[.int .i64 f] w fun e w' => e = .returned (.tuple #[.int .i64 (linkX f), .nilIface]) ∧ w' = w := by
  have HK := hide (fcheck_ok hf)
  have HJ := hide (joins_any (f : Int))
  clear hf
  unfold linkX
  by_cases h3 : f = 4
  · rw [if_pos h3]
    rw [show decide ((f : Int) = 4) = true from decide_eq_true (by omega)] at HJ
    clear h3
    generalize (f : Int) = fi at *
    go_enter Tryz.func29, Tryz.ntmps29
    go_wp2_with (first
      | (go_at_call 45; refine (HK.out _).mono ?_; rintro e wq ⟨rfl, rfl⟩)
      | (go_at_call 61; refine (HJ.out _).mono ?_; rintro e wz ⟨rfl, rfl⟩))
    go_ret2
    exact ⟨rfl, rfl⟩
  · rw [if_neg h3]
    rw [show decide ((f : Int) = 4) = false from decide_eq_false (by omega)] at HJ
    clear h3
    generalize (f : Int) = fi at *
    go_enter Tryz.func29, Tryz.ntmps29
    go_wp2_with (first
      | (go_at_call 45; refine (HK.out _).mono ?_; rintro e wq ⟨rfl, rfl⟩)
      | (go_at_call 61; refine (HJ.out _).mono ?_; rintro e wz ⟨rfl, rfl⟩))
    go_ret2
    exact ⟨rfl, rfl⟩
end Go.Proofs.YtpjabgdcpogdiaaGreatDoor

/- RkA -/
namespace Go.Proofs.YtpjabgdcpogdiaaGreatDoor
open Go.RowKit

def rmarkCell (x : Nat × Int) : List Value := [.int .i64 x.1, .int .i64 x.2]
def rmarkCells (l : List (Nat × Int)) : List Value := l.flatMap rmarkCell
theorem rmarkCells_append (l : List (Nat × Int)) (x : Nat × Int) : rmarkCells (l ++ [x]) = rmarkCells l ++ rmarkCell x := by simp [rmarkCells]
structure RcB (cs : List (List Ins)) (ad : Nat → Option Addr) (B : Nat) (w : World) : Prop where
  ex : ∃ W, (∀ (t : Nat) L, cs[t]? = some L → insAt (ad t) L W) ∧ W.heap.size = B ∧ Below B W w
theorem RcB.code {cs : List (List Ins)} {ad : Nat → Option Addr} {B : Nat} {w : World} (h : RcB cs ad B w) {t : Nat} {L : List Ins} (ht : cs[t]? = some L) : insAt (ad t) L w := by
  obtain ⟨W, h1, rfl, h3⟩ := h.ex
  exact insAt_below (h1 t L ht) h3
theorem RcB.turns {S : Nat → Nat → Prop} {cs : List (List Ins)} {ad : Nat → Option Addr} {B : Nat} {w w' : World} (h : RcB cs ad B w) (t : Turns S w w') (hS : ∀ k o, S k o → B ≤ k) : RcB cs ad B w' := by
  obtain ⟨W, h1, rfl, h3⟩ := h.ex
  exact ⟨W, h1, rfl, h3.trans (t.below h3.size (fun k o hk hs => by have := hS k o hs; omega))⟩
theorem RcB.size {cs : List (List Ins)} {ad : Nat → Option Addr} {B : Nat} {w : World} (h : RcB cs ad B w) : B ≤ w.heap.size := by
  obtain ⟨W, h1, rfl, h3⟩ := h.ex
  exact h3.size

structure RkPl where
  B : Nat
  rp : RmPl
  k : Nat
  tb : Nat
  tcap : Nat
  ad : Nat → Option Addr
  cc : Nat → Nat
  rb : Nat → Nat
  rcap : Nat → Nat
  mv : Value
def RkPl.to (p : RkPl) (r : RmPl) (v : Value) : RkPl := { p with rp := r, mv := v }
def RkPl.fp (p : RkPl) (n : Nat) (s : Rm) (k : Nat) : Prop := k = p.k ∨ k = p.tb ∨ (∃ t, t < n ∧ k = p.rb t) ∨ p.mv.ownBlock = some k ∨ p.rp.fp s k

structure RkAt (cs : List (List Ins)) (p : RkPl) (m : Mk) (w : World) : Prop where
  rc : RcB cs p.ad p.B w
  mem : RmAt p.rp m.mem w
  thr : m.mem.threads = cs.length
  few : cs.length ≤ 6
  tcap : cs.length ≤ p.tcap
  mM : w.cell? ⟨p.k, 0, none⟩ = some (.pointer (some ⟨p.rp.mb, 0, none⟩))
  mT : w.cell? ⟨p.k, 1, none⟩ = some (.slice (some ⟨p.tb, 0, none⟩) cs.length p.tcap)
  mMarks : w.cell? ⟨p.k, 2, none⟩ = some p.mv
  mFaults : w.cell? ⟨p.k, 3, none⟩ = some (.int .i64 m.faults)
  tCode : ∀ (t : Nat) L, cs[t]? = some L → w.cell? ⟨p.tb, t * 3, none⟩ = some (.slice (p.ad t) L.length (p.cc t))
  ccap : ∀ (t : Nat) L, cs[t]? = some L → L.length ≤ p.cc t
  tRegs : ∀ t, t < cs.length → w.cell? ⟨p.tb, t * 3 + 1, none⟩ = some (.slice (some ⟨p.rb t, 0, none⟩) 8 (p.rcap t))
  tAt : ∀ t, t < cs.length → w.cell? ⟨p.tb, t * 3 + 2, none⟩ = some (.int .i64 (m.pc t))
  rcap : ∀ t, t < cs.length → 8 ≤ p.rcap t
  regs : ∀ t r, t < cs.length → r < 8 → w.cell? ⟨p.rb t, r, none⟩ = some (.int .i64 (m.regs t r))
  own : w.ownsRow 0 105 2 p.mv m.marks.length (rmarkCells m.marks)
  fk : ∀ o, w.frozen? ⟨p.k, o, none⟩ = false
  ft : ∀ o, w.frozen? ⟨p.tb, o, none⟩ = false
  fr : ∀ t o, t < cs.length → w.frozen? ⟨p.rb t, o, none⟩ = false
  lt' : p.tb < w.heap.size
  d1 : p.k ≠ p.tb
  d2 : ∀ t, t < cs.length → p.rb t ≠ p.k ∧ p.rb t ≠ p.tb
  d3 : ∀ t u, t < cs.length → u < cs.length → t ≠ u → p.rb t ≠ p.rb u
  d4 : ∀ k, p.mv.ownBlock = some k → k ≠ p.k ∧ k ≠ p.tb ∧ ∀ t, t < cs.length → k ≠ p.rb t
  d5 : ∀ k, p.rp.fp m.mem k → k ≠ p.k ∧ k ≠ p.tb ∧ (∀ t, t < cs.length → k ≠ p.rb t) ∧ p.mv.ownBlock ≠ some k
  ge : ∀ k, p.fp cs.length m.mem k → p.B ≤ k

theorem RkAt.lk {cs : List (List Ins)} {p : RkPl} {m : Mk} {w : World} (h : RkAt cs p m w) : p.k < w.heap.size := World.block_lt_of_cell? _ _ h.mM
theorem RkAt.lr {cs : List (List Ins)} {p : RkPl} {m : Mk} {w : World} (h : RkAt cs p m w) {t : Nat} (ht : t < cs.length) : p.rb t < w.heap.size := World.block_lt_of_cell? _ _ (h.regs t 0 ht (by decide))
theorem RkAt.fp_lt {cs : List (List Ins)} {p : RkPl} {m : Mk} {w : World} (h : RkAt cs p m w) {k : Nat} (hk : p.fp cs.length m.mem k) : k < w.heap.size := by
  rcases hk with rfl | rfl | ⟨t, ht, rfl⟩ | hk | hk
  · exact h.lk
  · exact h.lt'
  · exact h.lr ht
  · exact (h.own.lt k hk).2
  · exact h.mem.fp_lt hk

theorem RkAt.turns {S : Nat → Nat → Prop} {cs : List (List Ins)} {p : RkPl} {m : Mk} {w w' : World} (h : RkAt cs p m w) (t : Turns S w w') (hS : ∀ k o, S k o → ¬ p.fp cs.length m.mem k) (hB : ∀ k o, S k o → p.B ≤ k) : RkAt cs p m w' where
  rc := h.rc.turns t hB
  mem := h.mem.turns t (fun k o hk hs => hS k o hs (.inr (.inr (.inr (.inr hk)))))
  thr := h.thr
  few := h.few
  tcap := h.tcap
  mM := t.keep h.mM (fun hs => hS _ _ hs (.inl rfl))
  mT := t.keep h.mT (fun hs => hS _ _ hs (.inl rfl))
  mMarks := t.keep h.mMarks (fun hs => hS _ _ hs (.inl rfl))
  mFaults := t.keep h.mFaults (fun hs => hS _ _ hs (.inl rfl))
  tCode i L hi := t.keep (h.tCode i L hi) (fun hs => hS _ _ hs (.inr (.inl rfl)))
  ccap := h.ccap
  tRegs i hi := t.keep (h.tRegs i hi) (fun hs => hS _ _ hs (.inr (.inl rfl)))
  tAt i hi := t.keep (h.tAt i hi) (fun hs => hS _ _ hs (.inr (.inl rfl)))
  rcap := h.rcap
  regs i r hi hr := t.keep (h.regs i r hi hr) (fun hs => hS _ _ hs (.inr (.inr (.inl ⟨i, hi, rfl⟩))))
  own := ownsRow_block h.own fun k hk => t.block k (h.own.lt k hk).2 (fun o hs => hS _ _ hs (.inr (.inr (.inr (.inl hk)))))
  fk o := by rw [t.frozen _ _ h.lk (fun hs => hS _ _ hs (.inl rfl))]; exact h.fk o
  ft o := by rw [t.frozen _ _ h.lt' (fun hs => hS _ _ hs (.inr (.inl rfl)))]; exact h.ft o
  fr i o hi := by rw [t.frozen _ _ (h.lr hi) (fun hs => hS _ _ hs (.inr (.inr (.inl ⟨i, hi, rfl⟩))))]; exact h.fr i o hi
  lt' := Nat.lt_of_lt_of_le h.lt' t.size
  d1 := h.d1
  d2 := h.d2
  d3 := h.d3
  d4 := h.d4
  d5 := h.d5
  ge := h.ge
theorem RkAt.below {cs : List (List Ins)} {p : RkPl} {m : Mk} {w w' : World} (h : RkAt cs p m w) (hb : Below w.heap.size w w') : RkAt cs p m w' :=
  h.turns (Turns.of_below (S := fun _ _ => False) hb) (fun _ _ h => h.elim) (fun _ _ h => h.elim)
theorem RkAt.drewN {cs : List (List Ins)} {p : RkPl} {m : Mk} {w : World} (h : RkAt cs p m w) (n : Nat) : RkAt cs p m (w.drewN n) := h.below (Below.drewN' n)

structure RkStep (cs : List (List Ins)) (p : RkPl) (s : Rm) (w : World) (r : RmPl) (v : Value) (m' : Mk) (w' : World) : Prop where
  at' : RkAt cs (p.to r v) m' w'
  turns : Turns (fun k _ => p.fp cs.length s k) w w'
  fp : ∀ k, (p.to r v).fp cs.length m'.mem k → p.fp cs.length s k ∨ w.heap.size ≤ k
  mb : r.mb = p.rp.mb

theorem RkStep.refl {cs : List (List Ins)} {p : RkPl} {m : Mk} {w : World} (h : RkAt cs p m w) : RkStep cs p m.mem w p.rp p.mv m w := ⟨h, Turns.refl _ _, fun _ h => Or.inl h, rfl⟩
theorem RkStep.of_below' {cs : List (List Ins)} {p : RkPl} {m : Mk} {w w' : World} (h : RkAt cs p m w) (k : Below w.heap.size w w') : RkStep cs p m.mem w p.rp p.mv m w' := ⟨h.below k, Turns.of_below k, fun _ h => Or.inl h, rfl⟩
theorem RkStep.below {cs : List (List Ins)} {p : RkPl} {s : Rm} {r : RmPl} {v : Value} {m : Mk} {w w' w2 : World} (h : RkStep cs p s w r v m w') (k : Below w'.heap.size w' w2) : RkStep cs p s w r v m w2 := ⟨h.at'.below k, h.turns.trans (Turns.of_below k), h.fp, h.mb⟩
theorem RkStep.of_below {cs : List (List Ins)} {p : RkPl} {s : Rm} {r : RmPl} {v : Value} {m : Mk} {w0 w w' : World} (k : Below w0.heap.size w0 w) (h : RkStep cs p s w r v m w') : RkStep cs p s w0 r v m w' :=
  ⟨h.at', (Turns.of_below k).trans h.turns, fun i hi => (h.fp i hi).imp id (fun e => Nat.le_trans k.size e), h.mb⟩
theorem Turns.chain {S S' : Nat → Nat → Prop} {a b c : World} (h : Turns S a b) (k : Turns S' b c) (hs : ∀ i o, S' i o → S i o ∨ a.heap.size ≤ i) : Turns S a c :=
  ⟨k.os.trans h.os, k.tape.trans h.tape, k.output.trans h.output, Nat.le_trans h.size k.size,
    fun i hi ho => (k.block i (Nat.lt_of_lt_of_le hi h.size) (fun o e => by
      rcases hs i o e with e | e
      · exact ho o e
      · omega)).trans (h.block i hi ho),
    fun i o hi ho => (k.cell i o (Nat.lt_of_lt_of_le hi h.size) (fun e => by
      rcases hs i o e with e | e
      · exact ho e
      · omega)).trans (h.cell i o hi ho),
    fun i o hi ho => (k.frozen i o (Nat.lt_of_lt_of_le hi h.size) (fun e => by
      rcases hs i o e with e | e
      · exact ho e
      · omega)).trans (h.frozen i o hi ho)⟩
theorem RkStep.trans {cs : List (List Ins)} {p : RkPl} {s : Rm} {r r2 : RmPl} {v v2 : Value} {m m2 : Mk} {w w' w2 : World} (h : RkStep cs p s w r v m w') (k : RkStep cs (p.to r v) m.mem w' r2 v2 m2 w2) : RkStep cs p s w r2 v2 m2 w2 where
  at' := k.at'
  turns := h.turns.chain k.turns (fun i _ e => h.fp i e)
  fp i hi := by
    rcases k.fp i hi with e | e
    · exact h.fp i e
    · exact Or.inr (Nat.le_trans h.turns.size e)
  mb := k.mb.trans h.mb

theorem RkStep.setNew {cs : List (List Ins)} {p : RkPl} {s : Rm} {r : RmPl} {v : Value} {m : Mk} {w w' : World} (h : RkStep cs p s w r v m w') {b o : Nat} (u : Value) (hb : w.heap.size ≤ b) (hn : ¬ (p.to r v).fp cs.length m.mem b) (hB : p.B ≤ b) : RkStep cs p s w r v m (w'.setCell ⟨b, o, none⟩ u) :=
  ⟨h.at'.turns (S := fun k _ => k = b) ((Turns.refl _ _).setCell _ rfl) (fun k _ e => by rw [e]; exact hn) (fun k _ e => by rw [e]; exact hB), h.turns.setNew _ hb, h.fp, h.mb⟩

theorem RkAt.apart {cs : List (List Ins)} {p : RkPl} {m : Mk} {w : World} (h : RkAt cs p m w) {b o : Nat} {v : Value} (hb : b = p.k ∨ b = p.tb ∨ ∃ t, t < cs.length ∧ b = p.rb t) :
    RcB cs p.ad p.B (w.setCell ⟨b, o, none⟩ v) ∧ RmAt p.rp m.mem (w.setCell ⟨b, o, none⟩ v) ∧ (w.setCell ⟨b, o, none⟩ v).ownsRow 0 105 2 p.mv m.marks.length (rmarkCells m.marks) ∧ Turns (fun k _ => p.fp cs.length m.mem k) w (w.setCell ⟨b, o, none⟩ v) := by
  have hfp : p.fp cs.length m.mem b := by
    rcases hb with e | e | e
    · exact .inl e
    · exact .inr (.inl e)
    · exact .inr (.inr (.inl e))
  have T : Turns (fun k _ => k = b) w (w.setCell ⟨b, o, none⟩ v) := (Turns.refl _ _).setCell _ rfl
  refine ⟨h.rc.turns T (fun k _ e => by rw [e]; exact h.ge b hfp), h.mem.turns T (fun k _ hk e => ?_), ownsRow_block h.own fun k hk => Below.heap_setCell _ _ _ _ (fun e => ?_), (Turns.refl _ _).setCell _ hfp⟩
  · have := h.d5 k hk
    rcases hb with e' | e' | ⟨t, ht, e'⟩
    · exact this.1 (e.trans e')
    · exact this.2.1 (e.trans e')
    · exact this.2.2.1 t ht (e.trans e')
  · have := h.d4 k hk
    rcases hb with e' | e' | ⟨t, ht, e'⟩
    · exact this.1 (e.trans e')
    · exact this.2.1 (e.trans e')
    · exact this.2.2 t ht (e.trans e')

theorem RkAt.setReg {cs : List (List Ins)} {p : RkPl} {m : Mk} {w : World} (h : RkAt cs p m w) {t r : Nat} (ht : t < cs.length) (hr : r < 8) (v : Int) : RkStep cs p m.mem w p.rp p.mv (m.setReg t r v) (w.setCell ⟨p.rb t, r, none⟩ (.int .i64 v)) := by
  obtain ⟨h1, h2, h3, h4⟩ := h.apart (b := p.rb t) (o := r) (v := .int .i64 v) (.inr (.inr ⟨t, ht, rfl⟩))
  have dk := (h.d2 t ht).1
  have dt := (h.d2 t ht).2
  refine ⟨⟨h1, h2, h.thr, h.few, h.tcap, cell_ne h.mM (Or.inl dk.symm), cell_ne h.mT (Or.inl dk.symm), cell_ne h.mMarks (Or.inl dk.symm), cell_ne h.mFaults (Or.inl dk.symm),
    fun i L hi => cell_ne (h.tCode i L hi) (Or.inl dt.symm), h.ccap, fun i hi => cell_ne (h.tRegs i hi) (Or.inl dt.symm), fun i hi => cell_ne (h.tAt i hi) (Or.inl dt.symm), h.rcap, fun i k hi hk => ?_, h3,
    fun o => by rw [World.frozen?_setCell]; exact h.fk o, fun o => by rw [World.frozen?_setCell]; exact h.ft o, fun i o hi => by rw [World.frozen?_setCell]; exact h.fr i o hi, by rw [World.size_setCell]; exact h.lt', h.d1, h.d2, h.d3, h.d4, h.d5, h.ge⟩, h4, fun _ h => Or.inl h, rfl⟩
  simp only [Mk.setReg]
  by_cases e : i = t ∧ k = r
  · rw [if_pos e, e.1, e.2]
    exact World.cell?_setCell_same _ _ _ (h.regs t r ht hr)
  · rw [if_neg e]
    refine cell_ne (h.regs i k hi hk) ?_
    by_cases e1 : i = t
    · exact Or.inr (fun e2 => e ⟨e1, e2⟩)
    · exact Or.inl (h.d3 i t hi ht e1)

theorem RkAt.setPc {cs : List (List Ins)} {p : RkPl} {m : Mk} {w : World} (h : RkAt cs p m w) {t : Nat} (ht : t < cs.length) (n : Nat) : RkStep cs p m.mem w p.rp p.mv (m.setPc t n) (w.setCell ⟨p.tb, t * 3 + 2, none⟩ (.int .i64 n)) := by
  obtain ⟨h1, h2, h3, h4⟩ := h.apart (b := p.tb) (o := t * 3 + 2) (v := .int .i64 n) (.inr (.inl rfl))
  have dk := h.d1
  refine ⟨⟨h1, h2, h.thr, h.few, h.tcap, cell_ne h.mM (Or.inl dk), cell_ne h.mT (Or.inl dk), cell_ne h.mMarks (Or.inl dk), cell_ne h.mFaults (Or.inl dk),
    fun i L hi => cell_ne (h.tCode i L hi) (Or.inr (by omega)), h.ccap, fun i hi => cell_ne (h.tRegs i hi) (Or.inr (by omega)), fun i hi => ?_, h.rcap, fun i k hi hk => cell_ne (h.regs i k hi hk) (Or.inl (h.d2 i hi).2), h3,
    fun o => by rw [World.frozen?_setCell]; exact h.fk o, fun o => by rw [World.frozen?_setCell]; exact h.ft o, fun i o hi => by rw [World.frozen?_setCell]; exact h.fr i o hi, by rw [World.size_setCell]; exact h.lt', h.d1, h.d2, h.d3, h.d4, h.d5, h.ge⟩, h4, fun _ h => Or.inl h, rfl⟩
  simp only [Mk.setPc]
  by_cases e : i = t
  · rw [if_pos e, e]
    exact World.cell?_setCell_same _ _ _ (h.tAt t ht)
  · rw [if_neg e]
    exact cell_ne (h.tAt i hi) (Or.inr (by omega))

theorem RkAt.addFault {cs : List (List Ins)} {p : RkPl} {m : Mk} {w : World} (h : RkAt cs p m w) (n : Nat) : RkStep cs p m.mem w p.rp p.mv (m.addFault n) (w.setCell ⟨p.k, 3, none⟩ (.int .i64 ((m.faults + n : Nat) : Int))) := by
  obtain ⟨h1, h2, h3, h4⟩ := h.apart (b := p.k) (o := 3) (v := .int .i64 ((m.faults + n : Nat) : Int)) (.inl rfl)
  have dk := h.d1
  exact ⟨⟨h1, h2, h.thr, h.few, h.tcap, cell_ne h.mM (Or.inr (by decide)), cell_ne h.mT (Or.inr (by decide)), cell_ne h.mMarks (Or.inr (by decide)), World.cell?_setCell_same _ _ _ h.mFaults,
    fun i L hi => cell_ne (h.tCode i L hi) (Or.inl dk.symm), h.ccap, fun i hi => cell_ne (h.tRegs i hi) (Or.inl dk.symm), fun i hi => cell_ne (h.tAt i hi) (Or.inl dk.symm), h.rcap, fun i k hi hk => cell_ne (h.regs i k hi hk) (Or.inl (h.d2 i hi).1), h3,
    fun o => by rw [World.frozen?_setCell]; exact h.fk o, fun o => by rw [World.frozen?_setCell]; exact h.ft o, fun i o hi => by rw [World.frozen?_setCell]; exact h.fr i o hi, by rw [World.size_setCell]; exact h.lt', h.d1, h.d2, h.d3, h.d4, h.d5, h.ge⟩, h4, fun _ h => Or.inl h, rfl⟩

theorem RkAt.ofMem {cs : List (List Ins)} {p : RkPl} {m : Mk} {s : Rm} {r : RmPl} {w w' : World} (h : RkAt cs p m w) (q : RmStep p.rp m.mem w r s w') (hn : s.threads = m.mem.threads) : RkStep cs p m.mem w r p.mv (m.setMem s) w' := by
  have hmb := q.mb
  have hS : ∀ k, p.rp.fp m.mem k → p.fp cs.length m.mem k := fun k hk => .inr (.inr (.inr (.inr hk)))
  have lk := h.lk
  have ltb := h.lt'
  have nk : ∀ o : Nat, ¬ (fun k (_ : Nat) => p.rp.fp m.mem k) p.k o := fun _ e => (h.d5 _ e).1 rfl
  have nt : ∀ o : Nat, ¬ (fun k (_ : Nat) => p.rp.fp m.mem k) p.tb o := fun _ e => (h.d5 _ e).2.1 rfl
  have nr : ∀ t (o : Nat), t < cs.length → ¬ (fun k (_ : Nat) => p.rp.fp m.mem k) (p.rb t) o := fun t _ ht e => (h.d5 _ e).2.2.1 t ht rfl
  have fz1 : ∀ o, w'.frozen? ⟨p.k, o, none⟩ = false := fun o => by rw [q.turns.frozen _ _ lk (nk o)]; exact h.fk o
  have fz2 : ∀ o, w'.frozen? ⟨p.tb, o, none⟩ = false := fun o => by rw [q.turns.frozen _ _ ltb (nt o)]; exact h.ft o
  have fz3 : ∀ t o, t < cs.length → w'.frozen? ⟨p.rb t, o, none⟩ = false := fun t o ht => by rw [q.turns.frozen _ _ (h.lr ht) (nr t o ht)]; exact h.fr t o ht
  refine ⟨⟨h.rc.turns q.turns (fun k _ e => h.ge k (hS k e)), q.at', hn.trans h.thr, h.few, h.tcap, by have e := q.turns.keep h.mM (nk 0); rw [← hmb] at e; exact e, q.turns.keep h.mT (nk 1), q.turns.keep h.mMarks (nk 2), q.turns.keep h.mFaults (nk 3),
    fun i L hi => q.turns.keep (h.tCode i L hi) (nt (i * 3)), h.ccap, fun i hi => q.turns.keep (h.tRegs i hi) (nt (i * 3 + 1)), fun i hi => q.turns.keep (h.tAt i hi) (nt (i * 3 + 2)), h.rcap, fun i k hi hk => q.turns.keep (h.regs i k hi hk) (nr i k hi),
    ownsRow_block h.own fun k hk => q.turns.block k (h.own.lt k hk).2 (fun _ e => (h.d5 k e).2.2.2 hk),
    fz1, fz2, fz3, Nat.lt_of_lt_of_le ltb q.turns.size, h.d1, h.d2, h.d3, h.d4, fun k hk => ?_, fun k hk => ?_⟩,
    q.turns.mono (fun k _ _ e => hS k e), fun k hk => ?_, hmb⟩
  · rcases q.fp k hk with e | e
    · exact h.d5 k e
    · exact ⟨by show k ≠ p.k; omega, by show k ≠ p.tb; omega, fun t ht => by have := h.lr ht; show k ≠ p.rb t; omega, fun e' => by have := (h.own.lt k e').2; omega⟩
  · rcases hk with e | e | e | e | e
    · exact h.ge k (.inl e)
    · exact h.ge k (.inr (.inl e))
    · exact h.ge k (.inr (.inr (.inl e)))
    · exact h.ge k (.inr (.inr (.inr (.inl e))))
    · rcases q.fp k e with e | e
      · exact h.ge k (hS k e)
      · have := h.rc.size; show p.B ≤ k; omega
  · rcases hk with e | e | e | e | e
    · exact Or.inl (.inl e)
    · exact Or.inl (.inr (.inl e))
    · exact Or.inl (.inr (.inr (.inl e)))
    · exact Or.inl (.inr (.inr (.inr (.inl e))))
    · exact (q.fp k e).imp (hS k) id
end Go.Proofs.YtpjabgdcpogdiaaGreatDoor

/- RkB -/
namespace Go.Proofs.YtpjabgdcpogdiaaGreatDoor
open Go.RowKit Go.Extern.Stop Go.Stop Go.Extern Go.Sort

theorem lt_of_get {α : Type} {l : List α} {i : Nat} {x : α} (h : l[i]? = some x) : i < l.length := (List.getElem?_eq_some_iff.1 h).1

set_option maxRecDepth 20000 in
theorem rdone_end {cs : List (List Ins)} {p : RkPl} {m : Mk} {t : Nat} {L : List Ins} (ht : cs[t]? = some L) (hp : L.length ≤ m.pc t) {w : World} (h : RkAt cs p m w) :
    Calls Tryz.prog 18 #[.pointer (some ⟨p.k, 0, none⟩), .int .i64 t] w fun e w' => e = .returned (.bool true) ∧ Below w.heap.size w w' := by
  have hlt := lt_of_get ht
  have h6 := h.few
  have hT := h.mT
  have hA := h.tAt t hlt
  have hC := h.tCode t L ht
  have hcap := h.tcap
  have hcc := h.ccap t L ht
  have ti : (t : Int) < cs.length := by omega
  have hd : decide ((L.length : Int) ≤ m.pc t) = true := by simp; omega
  clear h ht
  go_enter Tryz.func18, Tryz.ntmps18
  go_wp2_with fail
  go_quiet (fail)
  go_wp2
  go_ret
  exact ⟨rfl, Below.drewN' _⟩

set_option maxRecDepth 20000 in
theorem rdone_at {cs : List (List Ins)} {p : RkPl} {m : Mk} {t : Nat} {L : List Ins} {x : Ins} (ht : cs[t]? = some L) (hp : L[m.pc t]? = some x) {w : World} (h : RkAt cs p m w) :
    Calls Tryz.prog 18 #[.pointer (some ⟨p.k, 0, none⟩), .int .i64 t] w fun e w' => e = .returned (.bool (x.op.toList == [115, 116, 111, 112])) ∧ Below w.heap.size w w' := by
  have hlt := lt_of_get ht
  have h6 := h.few
  have hT := h.mT
  have hA := h.tAt t hlt
  have hC := h.tCode t L ht
  have hcap := h.tcap
  have hcc := h.ccap t L ht
  have ti : (t : Int) < cs.length := by omega
  obtain ⟨b, off, had, a0, -, -, -, -⟩ := h.rc.code ht (m.pc t) x hp
  rw [had] at hC
  have hpl := lt_of_get hp
  have hd : decide ((L.length : Int) ≤ m.pc t) = false := by simp; omega
  have hdn : decide (L.length ≤ m.pc t) = false := by simp; omega
  have pi : (m.pc t : Int) < L.length := by omega
  clear h ht hp
  go_enter Tryz.func18, Tryz.ntmps18
  go_wp2_with fail
  go_quiet (fail)
  go_wp2
  go_ret
  exact ⟨rfl, Below.drewN' _⟩

theorem RkAt.fault1 {cs : List (List Ins)} {p : RkPl} {m : Mk} {w : World} (h : RkAt cs p m w) : RkStep cs p m.mem w p.rp p.mv (m.addFault 1) (w.setCell ⟨p.k, 3, none⟩ (.int .i64 ((m.faults : Int) + 1))) := h.addFault 1

set_option maxRecDepth 20000 in
set_option maxHeartbeats 1000000 in
theorem rnames_yes {cs : List (List Ins)} {p : RkPl} {m : Mk} {n : Int} (hn : Wd n) {w : World} (h : RkAt cs p m w) (hy : m.names n = true) :
    Calls Tryz.prog 38 #[.pointer (some ⟨p.k, 0, none⟩), .int .i64 n] w fun e w' => e = .returned (.tuple #[.agg #[.int .i64 (cellOf n), .int .i64 (genOf n)], .bool true]) ∧ Below w.heap.size w w' := by
  obtain ⟨hz, hh⟩ := (Bool.and_eq_true _ _).mp hy
  have hn0 : n ≠ 0 := by simpa using hz
  have h1 : 1 ≤ n := by have := hn.1; omega
  have HR : Hid (∀ w', Calls Tryz.prog 66 #[.int .i64 n] w' fun e w'' => e = .returned (.tuple #[.agg #[.int .i64 (cellOf n), .int .i64 (genOf n)], .int .i64 0]) ∧ Below w'.heap.size w' w'') := fun w' => refOf_ok n w' h1 hn.2
  have HH : Hid (∀ w', Below w.heap.size w w' → Calls Tryz.prog 67 #[.pointer (some ⟨p.rp.mb, 0, none⟩), .agg #[.int .i64 (cellOf n), .int .i64 (genOf n)]] w' fun e w'' => e = .returned (.bool true) ∧ Below w'.heap.size w' w'') := fun w' hb => by
    have := here_any p.rp m.mem (cellOf n) (genOf n) w' (h.below hb).mem
    rwa [hh] at this
  have hM := h.mM
  clear hy hz hh hn h
  generalize cellOf n = c at *
  generalize genOf n = g at *
  have hba : Below w.heap.size w (w.alloc (.cells #[.int .i64 0, .int .i64 0] 90)) := box_below 0 0 w
  have z0 : (w.alloc (.cells #[.int .i64 0, .int .i64 0] 90)).cell? ⟨w.heap.size, 0, none⟩ = some (.int .i64 0) := by simp
  have z1 : (w.alloc (.cells #[.int .i64 0, .int .i64 0] 90)).cell? ⟨w.heap.size, 1, none⟩ = some (.int .i64 0) := by simp
  have y0 : (w.alloc (.cells #[.int .i64 0, .int .i64 0] 90)).frozen? ⟨w.heap.size, 0, none⟩ = false := by simp
  have y1 : (w.alloc (.cells #[.int .i64 0, .int .i64 0] 90)).frozen? ⟨w.heap.size, 1, none⟩ = false := by simp
  have hM1 := keep_cell hba hM
  generalize hw : w.alloc (.cells #[.int .i64 0, .int .i64 0] 90) = w1 at *
  go_enter Tryz.func38, Tryz.ntmps38
  go_wp2_with fail
  refine (HR.out _).mono ?_
  rintro e w2 ⟨rfl, hb2⟩
  have hzl : w.heap.size < w1.heap.size := World.block_lt_of_cell? _ _ z0
  obtain ⟨W3, hW3⟩ : ∃ W3, W3 = w2.alloc (.cells #[.int .i64 c, .int .i64 g] 90) := ⟨_, rfl⟩
  have hb3 : Below w1.heap.size w1 W3 := by rw [hW3]; exact hb2.alloc hb2.size _
  have q0 : W3.cell? ⟨w2.heap.size, 0, none⟩ = some (.int .i64 c) := by rw [hW3]; simp
  have q1 : W3.cell? ⟨w2.heap.size, 1, none⟩ = some (.int .i64 g) := by rw [hW3]; simp
  have r0 := keep_cell hb3 z0
  have r1 := keep_cell hb3 z1
  have x0 : W3.frozen? ⟨w.heap.size, 0, none⟩ = false := by rw [hb3.frozen hzl]; exact y0
  have x1 : W3.frozen? ⟨w.heap.size, 1, none⟩ = false := by rw [hb3.frozen hzl]; exact y1
  have hM3 := keep_cell hb3 hM1
  have B3 := below_step hba hb3
  have l3 : w.heap.size < W3.heap.size := World.block_lt_of_cell? _ _ r0
  clear z0 z1 y0 y1 hM hM1 hw HR hb3
  go_wp2_with fail
  rw [← hW3]
  clear hW3 hb2 hzl
  have HCF : Hid (∀ d os, Calls Tryz.prog 67 #[.pointer (some ⟨p.rp.mb, 0, none⟩), .agg #[.int .i64 c, .int .i64 g]] (grow (redrawn W3 d) os) fun e w'' => e = .returned (.bool true) ∧ ∃ p : Regrown, w'' = grow (redrawn W3 p.d) p.os) := fun d os =>
    Calls.regrown_of (HH.out _ (below_step B3 (below_regrown W3 d os)))
  have d0 := cell_regrown q0
  have d1 := cell_regrown q1
  have dM := cell_regrown hM3
  clear HH
  go_wp2_with fail
  refine wp_region_quiet_below (by kernel_rfl) (by kernel_rfl) ?_
  repeat (first
    | go_big_quiet_step (exact HCF.out _ _)
    | quiet_step (exact HCF.out _ _))
  refine wpQuiet_nil ?_
  intro _ hw'
  obtain ⟨⟨dq, osq⟩, hw''⟩ := hw'
  subst hw''
  have hb4 := below_regrown W3 dq osq
  have B4 := below_step B3 hb4
  have e0 := d0 dq osq
  have e1 := d1 dq osq
  replace r0 := keep_cell hb4 r0
  replace r1 := keep_cell hb4 r1
  have x0' : (grow (redrawn W3 dq) osq).frozen? ⟨w.heap.size, 0, none⟩ = false := by rw [hb4.frozen l3]; exact x0
  have x1' : (grow (redrawn W3 dq) osq).frozen? ⟨w.heap.size, 1, none⟩ = false := by rw [hb4.frozen l3]; exact x1
  clear HCF d0 d1 dM q0 q1 x0 x1 hM3 B3 hb4 l3
  generalize grow (redrawn W3 dq) osq = w4 at *
  go_wp2
  refine bodyPost_ret (v := .tuple #[.agg #[.int .i64 c, .int .i64 g], .bool true]) (by simp only [results, Tryz.results38]; go_simp) rfl ⟨rfl, ?_⟩
  exact (B4.setCell (Nat.le_refl _) _).setCell (Nat.le_refl _) _
end Go.Proofs.YtpjabgdcpogdiaaGreatDoor

/- RkC -/
namespace Go.Proofs.YtpjabgdcpogdiaaGreatDoor
open Go.RowKit Go.Extern.Stop Go.Stop Go.Extern Go.Sort

set_option maxRecDepth 20000 in
set_option maxHeartbeats 1000000 in
theorem rnames_zero {cs : List (List Ins)} {p : RkPl} {m : Mk} {w : World} (h : RkAt cs p m w) (hf : m.faults ≤ 1000000000) :
    Calls Tryz.prog 38 #[.pointer (some ⟨p.k, 0, none⟩), .int .i64 0] w fun e w' => (∃ c g : Int, e = .returned (.tuple #[.agg #[.int .i64 c, .int .i64 g], .bool false])) ∧ RkStep cs p m.mem w p.rp p.mv (m.addFault 1) w' := by
  have hba : Below w.heap.size w (w.alloc (.cells #[.int .i64 0, .int .i64 0] 90)) := box_below 0 0 w
  have z0 : (w.alloc (.cells #[.int .i64 0, .int .i64 0] 90)).cell? ⟨w.heap.size, 0, none⟩ = some (.int .i64 0) := by simp
  have z1 : (w.alloc (.cells #[.int .i64 0, .int .i64 0] 90)).cell? ⟨w.heap.size, 1, none⟩ = some (.int .i64 0) := by simp
  have y0 : (w.alloc (.cells #[.int .i64 0, .int .i64 0] 90)).frozen? ⟨w.heap.size, 0, none⟩ = false := by simp
  have y1 : (w.alloc (.cells #[.int .i64 0, .int .i64 0] 90)).frozen? ⟨w.heap.size, 1, none⟩ = false := by simp
  have hlk := h.lk
  have H := hide h
  clear h
  generalize hw : w.alloc (.cells #[.int .i64 0, .int .i64 0] 90) = w1 at *
  go_enter Tryz.func38, Tryz.ntmps38
  go_wp2_with fail
  refine (refOf_zero _).mono ?_
  rintro e w2 ⟨rfl, hb2⟩
  have hzl : w.heap.size < w1.heap.size := World.block_lt_of_cell? _ _ z0
  obtain ⟨W3, hW3⟩ : ∃ W3, W3 = w2.alloc (.cells #[.int .i64 0, .int .i64 0] 90) := ⟨_, rfl⟩
  have hb3 : Below w1.heap.size w1 W3 := by rw [hW3]; exact hb2.alloc hb2.size _
  have q0 : W3.cell? ⟨w2.heap.size, 0, none⟩ = some (.int .i64 0) := by rw [hW3]; simp
  have q1 : W3.cell? ⟨w2.heap.size, 1, none⟩ = some (.int .i64 0) := by rw [hW3]; simp
  have r0 := keep_cell hb3 z0
  have r1 := keep_cell hb3 z1
  have x0 : W3.frozen? ⟨w.heap.size, 0, none⟩ = false := by rw [hb3.frozen hzl]; exact y0
  have x1 : W3.frozen? ⟨w.heap.size, 1, none⟩ = false := by rw [hb3.frozen hzl]; exact y1
  have B3 := below_step hba hb3
  clear z0 z1 y0 y1 hw hb3
  go_wp2_with fail
  rw [← hW3]
  clear hW3 hb2 hzl
  have d1 : ((5 : Int) == 0) = false := by decide
  go_quiet (fail)
  have B4 := B3.trans ((Below.drewN' (w := W3) nq).mono B3.size)
  have H4 := hide (H.out.below B4)
  have hF := H4.out.mFaults
  have hZ := H4.out.fk 3
  have S4 : Hid (∀ u0 u1, RkStep cs p m.mem w p.rp p.mv (m.addFault 1) ((((W3.drewN nq).setCell ⟨p.k, 3, none⟩ (.int .i64 ((m.faults : Int) + 1))).setCell ⟨w.heap.size, 0, none⟩ u0).setCell ⟨w.heap.size, 1, none⟩ u1)) := fun u0 u1 => by
    have hn : ¬ p.fp cs.length m.mem w.heap.size := fun e => by have := H.out.fp_lt e; omega
    have hB := H.out.rc.size
    exact ((RkStep.of_below B4 H4.out.fault1).setNew u0 (Nat.le_refl _) hn hB).setNew u1 (Nat.le_refl _) hn hB
  replace q0 : (W3.drewN nq).cell? ⟨w2.heap.size, 0, none⟩ = some (.int .i64 0) := q0
  replace q1 : (W3.drewN nq).cell? ⟨w2.heap.size, 1, none⟩ = some (.int .i64 0) := q1
  replace r0 : (W3.drewN nq).cell? ⟨w.heap.size, 0, none⟩ = some (.int .i64 0) := r0
  replace r1 : (W3.drewN nq).cell? ⟨w.heap.size, 1, none⟩ = some (.int .i64 0) := r1
  replace x0 : (W3.drewN nq).frozen? ⟨w.heap.size, 0, none⟩ = false := x0
  replace x1 : (W3.drewN nq).frozen? ⟨w.heap.size, 1, none⟩ = false := x1
  clear B3 H4 H
  generalize W3.drewN nq = w4 at *
  go_wp2
  refine bodyPost_ret (v := .tuple #[.agg #[.int .i64 0, .int .i64 0], .bool false]) (by simp only [results, Tryz.results38]; go_simp) rfl ⟨⟨_, _, rfl⟩, ?_⟩
  exact S4.out _ _

set_option maxRecDepth 20000 in
set_option maxHeartbeats 1000000 in
theorem rnames_gone {cs : List (List Ins)} {p : RkPl} {m : Mk} {n : Int} (hn : Wd n) (hn0 : n ≠ 0) {w : World} (h : RkAt cs p m w) (hf : m.faults ≤ 1000000000) (hh : m.mem.ar.has (cellOf n) (genOf n) = false) :
    Calls Tryz.prog 38 #[.pointer (some ⟨p.k, 0, none⟩), .int .i64 n] w fun e w' => (∃ c g : Int, e = .returned (.tuple #[.agg #[.int .i64 c, .int .i64 g], .bool false])) ∧ RkStep cs p m.mem w p.rp p.mv (m.addFault 1) w' := by
  have h1 : 1 ≤ n := by have := hn.1; omega
  have HR : Hid (∀ w', Calls Tryz.prog 66 #[.int .i64 n] w' fun e w'' => e = .returned (.tuple #[.agg #[.int .i64 (cellOf n), .int .i64 (genOf n)], .int .i64 0]) ∧ Below w'.heap.size w' w'') := fun w' => refOf_ok n w' h1 hn.2
  have HH : Hid (∀ w', Below w.heap.size w w' → Calls Tryz.prog 67 #[.pointer (some ⟨p.rp.mb, 0, none⟩), .agg #[.int .i64 (cellOf n), .int .i64 (genOf n)]] w' fun e w'' => e = .returned (.bool false) ∧ Below w'.heap.size w' w'') := fun w' hb => by
    have := here_any p.rp m.mem (cellOf n) (genOf n) w' (h.below hb).mem
    rwa [hh] at this
  have hM := h.mM
  have H := hide h
  clear hh hn h hn0
  generalize cellOf n = c at *
  generalize genOf n = g at *
  have hba : Below w.heap.size w (w.alloc (.cells #[.int .i64 0, .int .i64 0] 90)) := box_below 0 0 w
  have z0 : (w.alloc (.cells #[.int .i64 0, .int .i64 0] 90)).cell? ⟨w.heap.size, 0, none⟩ = some (.int .i64 0) := by simp
  have z1 : (w.alloc (.cells #[.int .i64 0, .int .i64 0] 90)).cell? ⟨w.heap.size, 1, none⟩ = some (.int .i64 0) := by simp
  have y0 : (w.alloc (.cells #[.int .i64 0, .int .i64 0] 90)).frozen? ⟨w.heap.size, 0, none⟩ = false := by simp
  have y1 : (w.alloc (.cells #[.int .i64 0, .int .i64 0] 90)).frozen? ⟨w.heap.size, 1, none⟩ = false := by simp
  have hM1 := keep_cell hba hM
  generalize hw : w.alloc (.cells #[.int .i64 0, .int .i64 0] 90) = w1 at *
  go_enter Tryz.func38, Tryz.ntmps38
  go_wp2_with fail
  refine (HR.out _).mono ?_
  rintro e w2 ⟨rfl, hb2⟩
  have hzl : w.heap.size < w1.heap.size := World.block_lt_of_cell? _ _ z0
  obtain ⟨W3, hW3⟩ : ∃ W3, W3 = w2.alloc (.cells #[.int .i64 c, .int .i64 g] 90) := ⟨_, rfl⟩
  have hb3 : Below w1.heap.size w1 W3 := by rw [hW3]; exact hb2.alloc hb2.size _
  have q0 : W3.cell? ⟨w2.heap.size, 0, none⟩ = some (.int .i64 c) := by rw [hW3]; simp
  have q1 : W3.cell? ⟨w2.heap.size, 1, none⟩ = some (.int .i64 g) := by rw [hW3]; simp
  have r0 := keep_cell hb3 z0
  have r1 := keep_cell hb3 z1
  have x0 : W3.frozen? ⟨w.heap.size, 0, none⟩ = false := by rw [hb3.frozen hzl]; exact y0
  have x1 : W3.frozen? ⟨w.heap.size, 1, none⟩ = false := by rw [hb3.frozen hzl]; exact y1
  have hM3 := keep_cell hb3 hM1
  have B3 := below_step hba hb3
  have l3 : w.heap.size < W3.heap.size := World.block_lt_of_cell? _ _ r0
  clear z0 z1 y0 y1 hM hM1 hw HR hb3
  go_wp2_with fail
  rw [← hW3]
  clear hW3 hb2 hzl
  have HCF : Hid (∀ d os, Calls Tryz.prog 67 #[.pointer (some ⟨p.rp.mb, 0, none⟩), .agg #[.int .i64 c, .int .i64 g]] (grow (redrawn W3 d) os) fun e w'' => e = .returned (.bool false) ∧ ∃ p : Regrown, w'' = grow (redrawn W3 p.d) p.os) := fun d os =>
    Calls.regrown_of (HH.out _ (below_step B3 (below_regrown W3 d os)))
  have d0 := cell_regrown q0
  have d1 := cell_regrown q1
  have dM := cell_regrown hM3
  clear HH
  go_wp2_with fail
  refine wp_region_quiet_below (by kernel_rfl) (by kernel_rfl) ?_
  repeat (first
    | go_big_quiet_step (exact HCF.out _ _)
    | quiet_step (exact HCF.out _ _))
  refine wpQuiet_nil ?_
  intro _ hw'
  obtain ⟨⟨dq, osq⟩, hw''⟩ := hw'
  subst hw''
  have hb4 := below_regrown W3 dq osq
  have B4 := below_step B3 hb4
  have e0 := d0 dq osq
  have e1 := d1 dq osq
  replace r0 := keep_cell hb4 r0
  replace r1 := keep_cell hb4 r1
  have x0' : (grow (redrawn W3 dq) osq).frozen? ⟨w.heap.size, 0, none⟩ = false := by rw [hb4.frozen l3]; exact x0
  have x1' : (grow (redrawn W3 dq) osq).frozen? ⟨w.heap.size, 1, none⟩ = false := by rw [hb4.frozen l3]; exact x1
  clear HCF d0 d1 dM q0 q1 x0 x1 hM3 B3 hb4 l3
  generalize grow (redrawn W3 dq) osq = w4 at *
  have H4 := hide (H.out.below B4)
  have hF := H4.out.mFaults
  have hZ := H4.out.fk 3
  have hlk := H.out.lk
  have S4 : Hid (∀ u0 u1, RkStep cs p m.mem w p.rp p.mv (m.addFault 1) (((w4.setCell ⟨p.k, 3, none⟩ (.int .i64 ((m.faults : Int) + 1))).setCell ⟨w.heap.size, 0, none⟩ u0).setCell ⟨w.heap.size, 1, none⟩ u1)) := fun u0 u1 => by
    have hn : ¬ p.fp cs.length m.mem w.heap.size := fun e => by have := H.out.fp_lt e; omega
    have hB := H.out.rc.size
    exact ((RkStep.of_below B4 H4.out.fault1).setNew u0 (Nat.le_refl _) hn hB).setNew u1 (Nat.le_refl _) hn hB
  clear H4 H B4
  go_wp2
  refine bodyPost_ret (v := .tuple #[.agg #[.int .i64 c, .int .i64 g], .bool false]) (by simp only [results, Tryz.results38]; go_simp) rfl ⟨⟨_, _, rfl⟩, ?_⟩
  exact S4.out _ _

theorem rnames_no {cs : List (List Ins)} {p : RkPl} {m : Mk} {n : Int} (hn : Wd n) {w : World} (h : RkAt cs p m w) (hf : m.faults ≤ 1000000000) (hy : m.names n = false) :
    Calls Tryz.prog 38 #[.pointer (some ⟨p.k, 0, none⟩), .int .i64 n] w fun e w' => (∃ c g : Int, e = .returned (.tuple #[.agg #[.int .i64 c, .int .i64 g], .bool false])) ∧ RkStep cs p m.mem w p.rp p.mv (m.addFault 1) w' := by
  by_cases h0 : n = 0
  · subst h0; exact rnames_zero h hf
  · refine rnames_gone hn h0 h hf ?_
    unfold Mk.names at hy
    have hb : (n == 0) = false := beq_eq_false_iff_ne.2 h0
    rw [hb] at hy
    simpa using hy

theorem rkfence_any {cs : List (List Ins)} {p : RkPl} {m : Mk} {t : Nat} (ht : t < cs.length) {w : World} (h : RkAt cs p m w) (hx : ∀ x ∈ m.mem.waits t, x.Ok) (h8 : (m.mem.waits t).length ≤ 8) (hf : m.faults ≤ 1000000000) :
    Calls Tryz.prog 42 #[.pointer (some ⟨p.k, 0, none⟩), .int .i64 t] w fun e w' => e = .returned (.tuple #[]) ∧ ∃ r, RkStep cs p m.mem w r p.mv (m.fence t) w' := by
  have hM := h.mM
  have hF := h.mFaults
  have hZ := h.fk 3
  have hlk := h.lk
  have hg := Nat.le_trans (Rm.gone_le (m.mem.waits t) t m.mem) h8
  have HF : Hid (∀ w', RkAt cs p m w' → Calls Tryz.prog 69 #[.pointer (some ⟨p.rp.mb, 0, none⟩), .int .i64 t] w' fun e w'' => e = .returned (.int .i64 (m.mem.gone t (m.mem.waits t))) ∧ w''.cell? ⟨p.k, 3, none⟩ = some (.int .i64 m.faults) ∧ w''.frozen? ⟨p.k, 3, none⟩ = false ∧ Hid (∃ r, RkStep cs p m.mem w' r p.mv (m.setMem (m.mem.drainAll t (m.mem.waits t))) w'')) := fun w' h' =>
    (rfence_any p.rp m.mem t w' h'.mem (by rw [h'.thr]; exact ht) (fun x hx' => (hx x hx').1) (by omega)).mono fun _ w'' ⟨e1, r, q⟩ => by
      have S := h'.ofMem q (Rm.drainAll_ar _ _ _).2.2.2
      exact ⟨e1, S.at'.mFaults, S.at'.fk 3, r, S⟩
  have HD : Hid (m.fence t = (m.setMem (m.mem.drainAll t (m.mem.waits t))).addFault (m.mem.gone t (m.mem.waits t))) := rfl
  have hfm : Hid ((m.setMem (m.mem.drainAll t (m.mem.waits t))).faults = m.faults) := rfl
  rw [HD.out]
  have H := hide h
  clear h hx h8 HD
  generalize m.mem.gone t (m.mem.waits t) = G at *
  have HW : Hid (IntKind.i64.wrap ((m.faults : Int) + (G : Int)) = ((m.faults + G : Nat) : Int)) := by show _ = _; rw [IntKind.wrap_i64]; omega
  generalize m.setMem (m.mem.drainAll t (m.mem.waits t)) = m' at *
  go_enter Tryz.func42, Tryz.ntmps42
  go_wp2_with fail
  go_region_with (go_at_call 69; refine (HF.out _ (H.out.drewN 1)).mono ?_; rintro e w2 ⟨rfl, f2, z2, S2⟩)
  all_goals
    go_wp2
    go_end0
    obtain ⟨r, S⟩ := S2.out
    refine ⟨rfl, r, ?_⟩
    have S3 := S.trans (S.at'.addFault G)
    rw [hfm.out] at S3
    rw [HW.out]
    exact RkStep.of_below (Below.drewN' 1) S3
end Go.Proofs.YtpjabgdcpogdiaaGreatDoor
