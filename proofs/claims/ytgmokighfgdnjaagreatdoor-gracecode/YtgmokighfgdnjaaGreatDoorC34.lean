import Derived.Test.YtgmokighfgdnjaaGreatDoorC15
import Derived.Test.YtgmokighfgdnjaaGreatDoorC31
import Derived.Test.YtgmokighfgdnjaaGreatDoorC33
import Derived.Test.YtgmokighfgdnjaaGreatDoorC18
import Derived.Test.YtgmokighfgdnjaaGreatDoorC03
import Derived.Test.YtgmokighfgdnjaaGreatDoorC16

/- StD -/
namespace Go.Proofs.YtgmokighfgdnjaaGreatDoor
open Go.RowKit Go.Extern.Stop Go.Stop Go.Extern Go.Maps Go.WideMaps Go.Sort

def codesAt (ad : Option Addr) (cs : List (List Ins)) (w : World) : Prop := ∀ (t : Nat) L, cs[t]? = some L → ∃ b off adl capl, ad = some ⟨b, off, none⟩ ∧ w.cell? ⟨b, off + t, none⟩ = some (.slice adl L.length capl) ∧ L.length ≤ capl ∧ insAt adl L w ∧ (adl = none → L = [])
theorem codesAt.below {ad : Option Addr} {cs : List (List Ins)} {w w' : World} (h : codesAt ad cs w) (hb : Below w.heap.size w w') : codesAt ad cs w' := fun t L ht => by
  obtain ⟨b, off, adl, capl, h1, h2, h3, h4, h5⟩ := h t L ht
  exact ⟨b, off, adl, capl, h1, keep_cell hb h2, h3, insAt_below h4 hb, h5⟩

structure PrX where
  ad : Option Addr
  n : Nat
  cap : Nat
  lb : Nat
def PrX.cells (x : PrX) : List Value := [.slice x.ad x.n x.cap, .map (some x.lb)]
def PrX.uses (x : PrX) (k : Nat) : Prop := (∃ off, x.ad = some ⟨k, off, none⟩) ∨ x.lb = k
structure PrOk (L : List Ins) (x : PrX) (w : World) : Prop where
  n : x.n = L.length
  cap : L.length ≤ x.cap
  ins : insAt x.ad L w
  map : w.ownsMap Tryz.prog 9 (plainElem Tryz.prog 3) x.lb L.length (setD L L.length)
theorem ownsMap_same {H : Type} {P : Program} {k : TypeId} {R : Value → Option (DataW H × List MemPlace)} {w w' : World} {b n : Nat} {D : DataW H} (h : w.ownsMap P k R b n D) (hb : w'.heap[b]? = w.heap[b]?) : w'.ownsMap P k R b n D := by
  obtain ⟨es, clock, h1, F, hs, hD⟩ := h
  exact ⟨es, clock, by rw [hb]; exact h1, F, hs, hD⟩
theorem PrOk.same {L : List Ins} {x : PrX} {w w' : World} (h : PrOk L x w) (hb : ∀ k, k < w.heap.size → x.uses k → w'.heap[k]? = w.heap[k]?) : PrOk L x w' where
  n := h.n
  cap := h.cap
  ins i y hy := by
    obtain ⟨b, off, e, h0, h1, h2, h3, h4⟩ := h.ins i y hy
    have hk : w'.heap[b]? = w.heap[b]? := hb b (World.block_lt_of_cell? _ _ h0) (Or.inl ⟨off, e⟩)
    exact ⟨b, off, e, by rw [World.cell?_of_block (w := w) hk]; exact h0, by rw [World.cell?_of_block (w := w) hk]; exact h1, by rw [World.cell?_of_block (w := w) hk]; exact h2, by rw [World.cell?_of_block (w := w) hk]; exact h3, by rw [World.cell?_of_block (w := w) hk]; exact h4⟩
  map := ownsMap_same h.map (hb _ h.map.lt (Or.inr rfl))
theorem PrOk.below {L : List Ins} {x : PrX} {w w' : World} (h : PrOk L x w) (hb : Below w.heap.size w w') : PrOk L x w' := h.same fun k hk _ => hb.block k hk

end Go.Proofs.YtgmokighfgdnjaaGreatDoor

/- GdW -/
namespace Go.Proofs.YtgmokighfgdnjaaGreatDoor
open Go.RowKit Go.Extern.Stop Go.Stop Go.Extern Go.Maps Go.WideMaps Go.Sort

theorem numsOwn_form {w : World} {base : Nat} {v : Value} {l : List Int} (h : numsOwn w base v l) (h1 : 0 < l.length) : ∃ g cap, v = .slice (some ⟨g, 0, none⟩) l.length cap ∧ base ≤ g ∧ g < w.heap.size ∧ l.length ≤ cap := by
  obtain ⟨ad, cap, e1, hc, -⟩ := numsOwn_at h
  rcases h.2 with ⟨rfl, e⟩ | ⟨g, cap', cur, rfl, hg, r⟩
  · rw [e] at h1; exact absurd h1 (Nat.lt_irrefl _)
  · cases e1
    exact ⟨g, _, rfl, hg, (World.ownsRow.lt h g rfl).2, hc⟩

def Ap (sb : Nat) (iv rv u : Value) : Prop := ∀ b, u.ownBlock = some b → b ≠ sb ∧ iv.ownBlock ≠ some b ∧ rv.ownBlock ≠ some b
structure WP (base sb : Nat) (w1 : World) (K : List (Value × List Int)) (iv : Value) (vs : List Value) (I : List (List Int)) (rv : Value) (rs : List Value) (R : List (List Int)) (w : World) : Prop where
  c0 : w.cell? ⟨sb, 0, none⟩ = some (.int .i64 30)
  c1 : w.cell? ⟨sb, 1, none⟩ = some iv
  c2 : w.cell? ⟨sb, 2, none⟩ = some rv
  fz : ∀ o, w.frozen? ⟨sb, o, none⟩ = false
  oi : w.ownsRow base 36 1 iv I.length vs
  or' : w.ownsRow base 36 1 rv R.length rs
  ei : ∀ (i : Nat) row, I[i]? = some row → ∃ u, vs[i]? = some u ∧ numsOwn w base u row ∧ Ap sb iv rv u
  er : ∀ (i : Nat) row, R[i]? = some row → ∃ u, rs[i]? = some u ∧ numsOwn w base u row ∧ Ap sb iv rv u
  ni : iv.ownBlock ≠ some sb
  nr : rv.ownBlock ≠ some sb
  ne : ∀ b, iv.ownBlock = some b → rv.ownBlock ≠ some b
  kp : ∀ x ∈ K, numsOwn w base x.1 x.2 ∧ Ap sb iv rv x.1
  low : Below base w1 w
  bs : base ≤ sb
  sl : sb < w.heap.size
section
variable {base sb : Nat} {w1 : World} {K : List (Value × List Int)} {iv : Value} {vs : List Value} {I : List (List Int)} {rv : Value} {rs : List Value} {R : List (List Int)} {w w' : World}
theorem WP.bz (h : WP base sb w1 K iv vs I rv rs R w) : base ≤ w.heap.size := by have := h.sl; have := h.bs; omega
theorem WP.below (h : WP base sb w1 K iv vs I rv rs R w) (k : Below w.heap.size w w') : WP base sb w1 K iv vs I rv rs R w' where
  c0 := keep_cell k h.c0
  c1 := keep_cell k h.c1
  c2 := keep_cell k h.c2
  fz o := by rw [World.frozen?_of_block (k.block sb h.sl)]; exact h.fz o
  oi := ownsRow_block h.oi (fun b hb => k.block b (h.oi.lt b hb).2)
  or' := ownsRow_block h.or' (fun b hb => k.block b (h.or'.lt b hb).2)
  ei i row hr := by obtain ⟨u, h1, h2, h3⟩ := h.ei i row hr; exact ⟨u, h1, numsOwn_keep h2 k, h3⟩
  er i row hr := by obtain ⟨u, h1, h2, h3⟩ := h.er i row hr; exact ⟨u, h1, numsOwn_keep h2 k, h3⟩
  ni := h.ni
  nr := h.nr
  ne := h.ne
  kp x hx := ⟨numsOwn_keep (h.kp x hx).1 k, (h.kp x hx).2⟩
  low := h.low.trans (k.mono h.bz)
  bs := h.bs
  sl := Nat.lt_of_lt_of_le h.sl k.size
theorem WP.out (h : WP base sb w1 K iv vs I rv rs R w) {r : Nat} (hr : r < base) (o : Nat) (x : Value) {w2 : World} (hk : w2 = w.setCell ⟨r, o, none⟩ x) : WP base sb w2 K iv vs I rv rs R w2 := by
  have hb : ∀ b, base ≤ b → w2.heap[b]? = w.heap[b]? := fun b hb => by rw [hk]; exact Below.heap_setCell _ _ _ _ (fun e => by dsimp only at e; omega)
  have C : ∀ o, w2.cell? ⟨sb, o, none⟩ = w.cell? ⟨sb, o, none⟩ := fun o => World.cell?_of_block (hb sb h.bs)
  refine ⟨(C 0).trans h.c0, (C 1).trans h.c1, (C 2).trans h.c2, fun o => (World.frozen?_of_block (hb sb h.bs)).trans (h.fz o), ownsRow_block h.oi (fun b e => hb b (h.oi.lt b e).1), ownsRow_block h.or' (fun b e => hb b (h.or'.lt b e).1), fun i row hr => ?_, fun i row hr => ?_, h.ni, h.nr, h.ne, fun x hx => ⟨ownsRow_block (h.kp x hx).1 (fun b e => hb b (World.ownsRow.lt (h.kp x hx).1 b e).1), (h.kp x hx).2⟩, Below.refl _ _, h.bs, ?_⟩
  · obtain ⟨u, h1, h2, h3⟩ := h.ei i row hr
    exact ⟨u, h1, ownsRow_block h2 (fun b e => hb b (World.ownsRow.lt h2 b e).1), h3⟩
  · obtain ⟨u, h1, h2, h3⟩ := h.er i row hr
    exact ⟨u, h1, ownsRow_block h2 (fun b e => hb b (World.ownsRow.lt h2 b e).1), h3⟩
  · rw [hk]; simp [World.setCell]; exact h.sl

theorem WP.box (h : WP base sb w1 K iv vs I rv rs R w) {ob : Option Nat} (hg : w.grownBy w' ob) (ho : ob ≠ some sb) : (∀ o, w'.cell? ⟨sb, o, none⟩ = w.cell? ⟨sb, o, none⟩) ∧ ∀ o, w'.frozen? ⟨sb, o, none⟩ = false := by
  have hsb : w'.heap[sb]? = w.heap[sb]? := hg.block sb h.sl (fun e => ho e.symm)
  exact ⟨fun o => World.cell?_of_block hsb, fun o => by rw [World.frozen?_of_block hsb]; exact h.fz o⟩
end

set_option maxRecDepth 20000 in
set_option maxHeartbeats 1000000 in
theorem hub_ok {f : Nat} (hf : 1 ≤ f ∧ f ≤ 4) (w : World) : Calls Tryz.prog 16 #[.int .i64 f] w fun e w' => ∃ v, e = .returned (.tuple #[v, .nilIface]) ∧ numsOwn w' w.heap.size v [1, 0, 0, 0] ∧ Below w.heap.size w w' := by
  have HK := hide (fcheck_ok hf)
  have hm4 := make4
  clear hf
  generalize (f : Int) = fi at *
  go_enter Tryz.func16, Tryz.ntmps16
  go_wp2_with (go_at_call 33; refine (HK.out _).mono ?_; rintro e wq ⟨rfl, rfl⟩)
  go_ret2
  exact ⟨_, rfl, numsOwn_new (cs := #[.int .i64 1, .int .i64 0, .int .i64 0, .int .i64 0]) (l := [1, 0, 0, 0]) rfl (Nat.le_refl _) (by decide), (Below.refl _ _).alloc (Nat.le_refl _) _⟩
def ownX (f : Nat) : Int := if f = 3 then 1 else 0
set_option maxRecDepth 20000 in
set_option maxHeartbeats 1000000 in
theorem own_ok {f : Nat} (hf : 1 ≤ f ∧ f ≤ 4) (w : World) : Calls Tryz.prog 17 #[.int .i64 f] w fun e w' => ∃ v, e = .returned (.tuple #[v, .nilIface]) ∧ numsOwn w' w.heap.size v [ownX f, 0, 0, 0] ∧ Below w.heap.size w w' := by
  have HK := hide (fcheck_ok hf)
  have HJ := hide (counts_any (f : Int))
  have hm4 := make4
  clear hf
  unfold ownX
  by_cases h3 : f = 3
  · rw [if_pos h3]
    rw [show decide ((f : Int) = 3) = true from decide_eq_true (by omega)] at HJ
    clear h3
    generalize (f : Int) = fi at *
    go_enter Tryz.func17, Tryz.ntmps17
    go_wp2_with (first
      | (go_at_call 33; refine (HK.out _).mono ?_; rintro e wq ⟨rfl, rfl⟩)
      | (go_at_call 34; refine (HJ.out _).mono ?_; rintro e wz ⟨rfl, rfl⟩))
    go_ret2
    exact ⟨_, rfl, numsOwn_new (cs := #[.int .i64 1, .int .i64 0, .int .i64 0, .int .i64 0]) (l := [1, 0, 0, 0]) rfl (Nat.le_refl _) (by decide), (Below.refl _ _).alloc (Nat.le_refl _) _⟩
  · rw [if_neg h3]
    rw [show decide ((f : Int) = 3) = false from decide_eq_false (by omega)] at HJ
    clear h3
    generalize (f : Int) = fi at *
    go_enter Tryz.func17, Tryz.ntmps17
    go_wp2_with (first
      | (go_at_call 33; refine (HK.out _).mono ?_; rintro e wq ⟨rfl, rfl⟩)
      | (go_at_call 34; refine (HJ.out _).mono ?_; rintro e wz ⟨rfl, rfl⟩))
    go_ret2
    exact ⟨_, rfl, numsOwn_new (cs := #[.int .i64 0, .int .i64 0, .int .i64 0, .int .i64 0]) (l := [0, 0, 0, 0]) rfl (Nat.le_refl _) (by decide), (Below.refl _ _).alloc (Nat.le_refl _) _⟩
def linkX (f : Nat) : Int := if f = 4 then -1 else 1
set_option maxRecDepth 20000 in
theorem link_ok {f : Nat} (hf : 1 ≤ f ∧ f ≤ 4) (w : World) : Calls Tryz.prog 18 #[.int .i64 f] w fun e w' => e = .returned (.tuple #[.int .i64 (linkX f), .nilIface]) ∧ w' = w := by
  have HK := hide (fcheck_ok hf)
  have HJ := hide (joins_any (f : Int))
  clear hf
  unfold linkX
  by_cases h3 : f = 4
  · rw [if_pos h3]
    rw [show decide ((f : Int) = 4) = true from decide_eq_true (by omega)] at HJ
    clear h3
    generalize (f : Int) = fi at *
    go_enter Tryz.func18, Tryz.ntmps18
    go_wp2_with (first
      | (go_at_call 33; refine (HK.out _).mono ?_; rintro e wq ⟨rfl, rfl⟩)
      | (go_at_call 35; refine (HJ.out _).mono ?_; rintro e wz ⟨rfl, rfl⟩))
    go_ret2
    exact ⟨rfl, rfl⟩
  · rw [if_neg h3]
    rw [show decide ((f : Int) = 4) = false from decide_eq_false (by omega)] at HJ
    clear h3
    generalize (f : Int) = fi at *
    go_enter Tryz.func18, Tryz.ntmps18
    go_wp2_with (first
      | (go_at_call 33; refine (HK.out _).mono ?_; rintro e wq ⟨rfl, rfl⟩)
      | (go_at_call 35; refine (HJ.out _).mono ?_; rintro e wz ⟨rfl, rfl⟩))
    go_ret2
    exact ⟨rfl, rfl⟩
end Go.Proofs.YtgmokighfgdnjaaGreatDoor

/- GfE -/
namespace Go.Proofs.YtgmokighfgdnjaaGreatDoor
open Go.RowKit Go.Extern.Stop Go.Stop Go.Extern Go.Maps Go.WideMaps Go.Sort

theorem flavour_is (f : Int) (w : World) : Calls Tryz.prog 9 #[.int .i64 f] w fun e w' => e = .returned (.bool (decide (1 ≤ f ∧ f ≤ 4))) ∧ w' = w := by
  have hc : f < 1 ∨ 1 ≤ f ∧ (¬ f ≤ 4 ∨ f ≤ 4) := by omega
  rcases hc with h1 | ⟨h1, h2 | h2⟩
  · rw [decide_eq_false (by omega)]
    go_enter Tryz.func9, Tryz.ntmps9
    go_wp2
    go_ret
    exact ⟨rfl, rfl⟩
  · rw [decide_eq_false (by omega)]
    have hd : decide (f ≤ 4) = false := decide_eq_false h2
    go_enter Tryz.func9, Tryz.ntmps9
    go_wp2
    go_ret
    exact ⟨rfl, rfl⟩
  · rw [decide_eq_true ⟨h1, h2⟩]
    go_enter Tryz.func9, Tryz.ntmps9
    go_wp2
    go_ret
    exact ⟨rfl, rfl⟩
def BoundIs (ad : Addr) (w : World) : Prop := w.cell? ⟨1, 0, none⟩ = some (errAt ad)
def NameIs (ad : Addr) (w : World) : Prop := w.cell? ⟨3, 0, none⟩ = some (errAt ad)
theorem fcheck_bad {f : Int} (hf : ¬ (1 ≤ f ∧ f ≤ 4)) {ad : Addr} {w : World} (hE : BoundIs ad w) : Calls Tryz.prog 33 #[.int .i64 f] w fun e w' => e = .returned (errAt ad) ∧ w' = w := by
  have g1 : w.cell? ⟨1, 0, none⟩ = some (errAt ad) := hE
  have hc : f < 1 ∨ ¬ f < 1 ∧ 4 < f := by omega
  clear hE hf
  rcases hc with h1 | ⟨h1, h2⟩
  all_goals
    go_enter Tryz.func33, Tryz.ntmps33
    go_wp2
    go_ret
    exact ⟨rfl, rfl⟩

set_option maxRecDepth 20000 in
theorem made_bound {f : Int} (hf : ¬ (1 ≤ f ∧ f ≤ 4)) (p : ByteArray) (v : Value) {ad : Addr} {w : World} (hE : BoundIs ad w) :
    Calls Tryz.prog 44 #[.int .i64 f, .string p, v] w fun e w' => e = .returned (.tuple #[.slice none 0 0, errAt ad]) ∧ Below w.heap.size w w' := by
  have HK := hide (fcheck_bad hf hE)
  clear hf hE
  go_enter Tryz.func44, Tryz.ntmps44
  go_wp2_with (go_at_call 33; refine HK.out.mono ?_; rintro e w1 ⟨rfl, e1⟩)
  obtain rfl := e1
  go_ret2
  exact ⟨rfl, Below.refl _ _⟩
open Classical in
set_option maxRecDepth 20000 in
set_option maxHeartbeats 1000000 in
theorem made_name {f : Nat} (hf : 1 ≤ f ∧ f ≤ 4) {p : ByteArray} (hp : ¬ (isName p ∧ p.size ≤ 4)) (v : Value) {ad : Addr} {w : World} (hE : NameIs ad w) :
    Calls Tryz.prog 44 #[.int .i64 f, .string p, v] w fun e w' => e = .returned (.tuple #[.slice none 0 0, errAt ad]) ∧ Below w.heap.size w w' := by
  have HK := hide (fun w => fcheck_ok hf w)
  have HN := hide (pisName_any p w)
  have g3 : w.cell? ⟨3, 0, none⟩ = some (errAt ad) := hE
  clear hE hf
  generalize (f : Int) = fi at *
  by_cases hi : isName p
  · have hs : 4 < (p.size : Int) := by
      have : ¬ p.size ≤ 4 := fun e => hp ⟨hi, e⟩
      omega
    rw [decide_eq_true hi] at HN
    clear hi hp
    go_enter Tryz.func44, Tryz.ntmps44
    go_wp2_with fail
    refine (HK.out _).mono ?_
    rintro e w1 ⟨rfl, e1⟩
    obtain rfl : w = w1 := e1.symm
    go_wp2_with fail
    refine HN.out.mono ?_
    rintro e w1 ⟨rfl, hb⟩
    replace g3 := keep_cell hb g3
    go_wp2_with fail
    go_region
    all_goals
      go_wp2
      go_ret2
      exact ⟨rfl, below_dN hb 1⟩
  · rw [decide_eq_false hi] at HN
    clear hi hp
    go_enter Tryz.func44, Tryz.ntmps44
    go_wp2_with fail
    refine (HK.out _).mono ?_
    rintro e w1 ⟨rfl, e1⟩
    obtain rfl : w = w1 := e1.symm
    go_wp2_with fail
    refine HN.out.mono ?_
    rintro e w1 ⟨rfl, hb⟩
    replace g3 := keep_cell hb g3
    go_wp2_with fail
    go_region
    all_goals
      go_wp2
      go_ret2
      exact ⟨rfl, below_dN hb 1⟩

theorem enter_err {f : Int} {p : ByteArray} {ad : Addr} {w : World} (h : ∀ v, Calls Tryz.prog 44 #[.int .i64 f, .string p, v] w fun e w' => e = .returned (.tuple #[.slice none 0 0, errAt ad]) ∧ Below w.heap.size w w') :
    Calls Tryz.prog 26 #[.int .i64 f, .string p] w fun e w' => e = .returned (.tuple #[.slice none 0 0, errAt ad]) ∧ Below w.heap.size w w' := by
  have hmf : ∀ (fn : Fn) (first cap : Array Value) (w : World), (Instr.makeFunc fn first cap).run Tryz.prog w = .ok (.func fn first cap) w := fun _ _ _ _ => rfl
  have HM := hide h
  clear h
  go_enter Tryz.func26, Tryz.ntmps26
  go_wp2_with (go_at_call 44; refine (HM.out _).mono ?_; rintro e wq ⟨rfl, hv⟩)
  go_ret2
  exact ⟨rfl, hv⟩

theorem leave_err {f : Int} {p : ByteArray} {ad : Addr} {w : World} (h : ∀ v, Calls Tryz.prog 44 #[.int .i64 f, .string p, v] w fun e w' => e = .returned (.tuple #[.slice none 0 0, errAt ad]) ∧ Below w.heap.size w w') :
    Calls Tryz.prog 27 #[.int .i64 f, .string p] w fun e w' => e = .returned (.tuple #[.slice none 0 0, errAt ad]) ∧ Below w.heap.size w w' := by
  have hmf : ∀ (fn : Fn) (first cap : Array Value) (w : World), (Instr.makeFunc fn first cap).run Tryz.prog w = .ok (.func fn first cap) w := fun _ _ _ _ => rfl
  have HM := hide h
  clear h
  go_enter Tryz.func27, Tryz.ntmps27
  go_wp2_with (go_at_call 44; refine (HM.out _).mono ?_; rintro e wq ⟨rfl, hv⟩)
  go_ret2
  exact ⟨rfl, hv⟩

theorem rest_err {f : Int} {p : ByteArray} {ad : Addr} {w : World} (h : ∀ v, Calls Tryz.prog 44 #[.int .i64 f, .string p, v] w fun e w' => e = .returned (.tuple #[.slice none 0 0, errAt ad]) ∧ Below w.heap.size w w') :
    Calls Tryz.prog 28 #[.int .i64 f, .string p] w fun e w' => e = .returned (.tuple #[.slice none 0 0, errAt ad]) ∧ Below w.heap.size w w' := by
  have hmf : ∀ (fn : Fn) (first cap : Array Value) (w : World), (Instr.makeFunc fn first cap).run Tryz.prog w = .ok (.func fn first cap) w := fun _ _ _ _ => rfl
  have HM := hide h
  clear h
  go_enter Tryz.func28, Tryz.ntmps28
  go_wp2_with (go_at_call 44; refine (HM.out _).mono ?_; rintro e wq ⟨rfl, hv⟩)
  go_ret2
  exact ⟨rfl, hv⟩

theorem gone_err {f : Int} {p : ByteArray} {ad : Addr} {w : World} (h : ∀ v, Calls Tryz.prog 44 #[.int .i64 f, .string p, v] w fun e w' => e = .returned (.tuple #[.slice none 0 0, errAt ad]) ∧ Below w.heap.size w w') :
    Calls Tryz.prog 29 #[.int .i64 f, .string p] w fun e w' => e = .returned (.tuple #[.slice none 0 0, errAt ad]) ∧ Below w.heap.size w w' := by
  have hmf : ∀ (fn : Fn) (first cap : Array Value) (w : World), (Instr.makeFunc fn first cap).run Tryz.prog w = .ok (.func fn first cap) w := fun _ _ _ _ => rfl
  have HM := hide h
  clear h
  go_enter Tryz.func29, Tryz.ntmps29
  go_wp2_with (go_at_call 44; refine (HM.out _).mono ?_; rintro e wq ⟨rfl, hv⟩)
  go_ret2
  exact ⟨rfl, hv⟩

theorem wait_err {f : Int} {p : ByteArray} {ad : Addr} {w : World} (h : ∀ v, Calls Tryz.prog 44 #[.int .i64 f, .string p, v] w fun e w' => e = .returned (.tuple #[.slice none 0 0, errAt ad]) ∧ Below w.heap.size w w') :
    Calls Tryz.prog 25 #[.int .i64 f, .string p] w fun e w' => e = .returned (.tuple #[.slice none 0 0, errAt ad]) ∧ Below w.heap.size w w' := by
  have hmf : ∀ (fn : Fn) (first cap : Array Value) (w : World), (Instr.makeFunc fn first cap).run Tryz.prog w = .ok (.func fn first cap) w := fun _ _ _ _ => rfl
  have HM := hide h
  clear h
  go_enter Tryz.func25, Tryz.ntmps25
  go_wp2_with (go_at_call 44; refine (HM.out _).mono ?_; rintro e wq ⟨rfl, hv⟩)
  go_ret2
  exact ⟨rfl, hv⟩

set_option maxRecDepth 20000 in
theorem parts_err {f : Int} {p : ByteArray} {ad : Addr} {w : World} (h : ∀ v, Calls Tryz.prog 44 #[.int .i64 f, .string p, v] w fun e w' => e = .returned (.tuple #[.slice none 0 0, errAt ad]) ∧ Below w.heap.size w w') (k : Nat) (hk : k < 5) :
    Calls Tryz.prog 10 #[.int .i64 f, .string p, .int .i64 k] w fun e w' => e = .returned (.tuple #[.slice none 0 0, errAt ad]) ∧ Below w.heap.size w w' := by
  have H0 := hide (enter_err h)
  have H1 := hide (leave_err h)
  have H2 := hide (rest_err h)
  have H3 := hide (gone_err h)
  have H4 := hide (wait_err h)
  have hc : k = 0 ∨ k = 1 ∨ k = 2 ∨ k = 3 ∨ k = 4 := by omega
  rcases hc with rfl | rfl | rfl | rfl | rfl
  all_goals
    clear h hk
    go_enter Tryz.func10, Tryz.ntmps10
    go_wp2_with (first
      | (go_at_call 26; refine H0.out.mono ?_; rintro e wq ⟨rfl, hv⟩)
      | (go_at_call 27; refine H1.out.mono ?_; rintro e wq ⟨rfl, hv⟩)
      | (go_at_call 28; refine H2.out.mono ?_; rintro e wq ⟨rfl, hv⟩)
      | (go_at_call 29; refine H3.out.mono ?_; rintro e wq ⟨rfl, hv⟩)
      | (go_at_call 25; refine H4.out.mono ?_; rintro e wq ⟨rfl, hv⟩))
    go_ret2
    exact ⟨rfl, hv⟩

theorem hub_bound {f : Int} (hf : ¬ (1 ≤ f ∧ f ≤ 4)) {ad : Addr} {w : World} (hE : BoundIs ad w) :
    Calls Tryz.prog 16 #[.int .i64 f] w fun e w' => e = .returned (.tuple #[.slice none 0 0, errAt ad]) ∧ Below w.heap.size w w' := by
  have HK := hide (fcheck_bad hf hE)
  clear hf hE
  go_enter Tryz.func16, Tryz.ntmps16
  go_wp2_with (go_at_call 33; refine HK.out.mono ?_; rintro e w1 ⟨rfl, e1⟩)
  obtain rfl := e1
  go_ret2
  exact ⟨rfl, Below.refl _ _⟩

theorem own_bound {f : Int} (hf : ¬ (1 ≤ f ∧ f ≤ 4)) {ad : Addr} {w : World} (hE : BoundIs ad w) :
    Calls Tryz.prog 17 #[.int .i64 f] w fun e w' => e = .returned (.tuple #[.slice none 0 0, errAt ad]) ∧ Below w.heap.size w w' := by
  have HK := hide (fcheck_bad hf hE)
  clear hf hE
  go_enter Tryz.func17, Tryz.ntmps17
  go_wp2_with (go_at_call 33; refine HK.out.mono ?_; rintro e w1 ⟨rfl, e1⟩)
  obtain rfl := e1
  go_ret2
  exact ⟨rfl, Below.refl _ _⟩

theorem link_bound {f : Int} (hf : ¬ (1 ≤ f ∧ f ≤ 4)) {ad : Addr} {w : World} (hE : BoundIs ad w) :
    Calls Tryz.prog 18 #[.int .i64 f] w fun e w' => e = .returned (.tuple #[.int .i64 0, errAt ad]) ∧ Below w.heap.size w w' := by
  have HK := hide (fcheck_bad hf hE)
  clear hf hE
  go_enter Tryz.func18, Tryz.ntmps18
  go_wp2_with (go_at_call 33; refine HK.out.mono ?_; rintro e w1 ⟨rfl, e1⟩)
  obtain rfl := e1
  go_ret2
  exact ⟨rfl, Below.refl _ _⟩
end Go.Proofs.YtgmokighfgdnjaaGreatDoor
