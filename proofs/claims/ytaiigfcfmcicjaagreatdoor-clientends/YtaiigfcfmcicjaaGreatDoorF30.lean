import Derived.Test.YtaiigfcfmcicjaaGreatDoorF29
import Derived.Test.YtaiigfcfmcicjaaGreatDoorF23
import Derived.Test.YtaiigfcfmcicjaaGreatDoorF19
import Derived.Test.YtaiigfcfmcicjaaGreatDoorF20
namespace Go.Proofs.YtaiigfcfmcicjaaGreatDoor
set_option maxRecDepth 100000
set_option maxHeartbeats 8000000
section
open Go.RowKit
def Same (f n : Nat) (G : Gq) (m : Mk) (G' : Gq) (m' : Mk) : Prop := ∀ u, u < n -> (G'.pt u = none ↔ G.pt u = none) /\ (spinsAt f (G'.pt u) ↔ spinsAt f (G.pt u)) /\ (m'.mem.waits u = [] ↔ m.mem.waits u = [])
def Idle (f n : Nat) (G : Gq) (m : Mk) (k : Int) : Prop :=
 (k % (2 * (n : Int)) < n -> G.pt (k % (2 * (n : Int))).toNat = none ∨ spinsAt f (G.pt (k % (2 * (n : Int))).toNat) /\ ¬ Qt f n G m) /\ ((n : Int) <= k % (2 * (n : Int)) -> m.mem.waits (k % (2 * (n : Int)) - n).toNat = [])
section
variable {f n : Nat} {R : Nat} {V : Int -> Prop} {ends : Nat -> Fl} {css : Nat -> List Ins} {G G' G2 : Gq} {B : Nat -> List Tq} {m m' m2 : Mk} {t : Nat}
theorem Same.refl (f n : Nat) (G : Gq) (m : Mk) : Same f n G m G m := fun _ _ => ⟨Iff.rfl, Iff.rfl, Iff.rfl⟩
theorem Same.trans (h : Same f n G m G' m') (k : Same f n G' m' G2 m2) : Same f n G m G2 m2 := fun u hu => ⟨(k u hu).1.trans (h u hu).1, (k u hu).2.1.trans (h u hu).2.1, (k u hu).2.2.trans (h u hu).2.2⟩
theorem Same.qt (h : Same f n G m G' m') : Qt f n G m -> Qt f n G' m' := fun q u hu => by
 obtain ⟨h1, h2, h3⟩ := h u hu
 refine ⟨h3.2 (q u hu).1, ?_⟩
 rcases (q u hu).2 with e | e
 ·exact .inl (h1.2 e)
 ·exact .inr (h2.2 e)
theorem Same.idle (h : Same f n G m G' m') (hn : 0 < n) {k : Int} (hi : Idle f n G' m' k) : Idle f n G m k := by
 have hb := Int.emod_lt_of_pos k (show (0 : Int) < 2 * (n : Int) by omega)
 have h0 := Int.emod_nonneg k (show (2 * (n : Int)) ≠ 0 by omega)
 refine ⟨fun e => ?_, fun e => ?_⟩
 ·obtain ⟨h1, h2, -⟩ := h (k % (2 * (n : Int))).toNat (by omega)
  rcases hi.1 e with e1 | ⟨e1, e2⟩
  ·exact .inl (h1.1 e1)
  ·exact .inr ⟨h2.1 e1, fun q => e2 (h.qt q)⟩
 ·exact (h (k % (2 * (n : Int)) - n).toNat (by omega)).2.2.1 (hi.2 e)
theorem Good3.turn (h : Good3 f n V ends css R G B m) {cs : List (List Ins)} {K : Nat} (ok : MkOk cs.length K m) (hn : cs.length = n) (h0 : 0 < n) (hcs : ∀ t, t < n -> cs[t]? = some (css t)) (k : Int) :
  ∃ G' B', Good3 f n V ends css R G' B' (m.turnO cs k).2 /\ (psi f n G' B' (m.turnO cs k).2 + 1 <= psi f n G B m ∨ psi f n G' B' (m.turnO cs k).2 <= psi f n G B m /\ Same f n G m G' (m.turnO cs k).2 /\ Idle f n G m k) := by
 subst hn
 have hb := Int.emod_lt_of_pos k (show (0 : Int) < 2 * (cs.length : Int) by omega)
 have hg0 := Int.emod_nonneg k (show (2 * (cs.length : Int)) ≠ 0 by omega)
 unfold Mk.turnO
 unfold Idle
 generalize k % (2 * (cs.length : Int)) = x at *
 split
 ·rename_i hx
  unfold Mk.stepO
  rw [if_pos ⟨hg0, hx⟩]
  have ht : x.toNat < cs.length := by omega
  have e : cs.getD x.toNat [] = css x.toNat := by rw [List.getD_eq_getElem?_getD, hcs _ ht]; rfl
  rw [e]
  split
  ·rename_i hd
   refine ⟨G, B, h, .inr ⟨Nat.le_refl _, Same.refl _ _ _ _, fun _ => .inl ?_, fun e => by omega⟩⟩
   have hl := (h.loc _ ht).1
   cases hg : G.pt x.toNat with
   | none => rfl
   | some p =>
    exfalso
    obtain ⟨tg, q, d⟩ := p
    rw [hg] at hl
    obtain ⟨a, b, b', hat, hpc, hq, -⟩ := hl
    have := (hat q _ (List.getElem?_eq_getElem hq) m x.toNat hpc).1
    rw [this] at hd
    cases hd
  ·rename_i hd
   obtain ⟨G', B', hG, hO, hc⟩ := h.falls ok.mem.words ok.regs ht (by simpa using hd)
   refine ⟨G', B', hG, ?_⟩
   rcases hc with hc | ⟨hc, hQ, hs, hs', hw⟩
   ·exact .inl hc
   ·refine .inr ⟨hc, fun u hu => ⟨?_, ?_, ?_⟩, fun _ => .inr ⟨hs, hQ⟩, fun e => by omega⟩
    ·by_cases e : u = x.toNat
     ·subst e
      constructor
      ·intro e; rw [e] at hs'; exact hs'.elim
      ·intro e; rw [e] at hs; exact hs.elim
     ·rw [hO u hu e]
    ·by_cases e : u = x.toNat
     ·subst e; exact ⟨fun _ => hs, fun _ => hs'⟩
     ·rw [hO u hu e]
    ·rw [<- List.length_eq_zero_iff, <- List.length_eq_zero_iff, hw u hu]
 ·rename_i hx
  unfold Mk.drainO
  rw [if_pos ⟨by omega, by omega⟩]
  have ht : (x - cs.length).toNat < cs.length := by omega
  split
  ·rename_i hw
   exact ⟨G, B, h, .inr ⟨Nat.le_refl _, Same.refl _ _ _ _, fun e => absurd e hx, fun _ => hw⟩⟩
  ·rename_i hw
   exact ⟨G, B, h.drain1 ht, .inl (psi_drain hw ht)⟩
theorem Good3.run {cs : List (List Ins)} (hR : Right cs) (hn : cs.length = n) (h0 : 0 < n) (hcs : ∀ t, t < n -> cs[t]? = some (css t)) : ∀ (l : List Int) {K : Nat} {G : Gq} {B : Nat -> List Tq} {m : Mk}, Good3 f n V ends css R G B m -> MkOk cs.length K m -> K + l.length <= 60000000 ->
  ∃ G' B', Good3 f n V ends css R G' B' (m.runO cs l).2 /\ (psi f n G' B' (m.runO cs l).2 + 1 <= psi f n G B m ∨ psi f n G' B' (m.runO cs l).2 <= psi f n G B m /\ Same f n G m G' (m.runO cs l).2 /\ ∀ k ∈ l, Idle f n G m k)
 | [], _, G, B, m, h, _, _ => ⟨G, B, h, .inr ⟨Nat.le_refl _, Same.refl _ _ _ _, fun _ e => absurd e List.not_mem_nil⟩⟩
 | k :: l, K, G, B, m, h, ok, hK => by
  rw [List.length_cons] at hK
  obtain ⟨G1, B1, h1, c1⟩ := h.turn ok hn h0 hcs k
  obtain ⟨G2, B2, h2, c2⟩ := Good3.run hR hn h0 hcs l h1 (ok.turnO hR k (by omega)) (by omega)
  refine ⟨G2, B2, h2, ?_⟩
  show psi f n G2 B2 ((m.turnO cs k).2.runO cs l).2 + 1 <= _ ∨ _
  rcases c1 with c1 | ⟨c1, s1, i1⟩
  ·left
   rcases c2 with c2 | ⟨c2, -, -⟩ <;> omega
  ·rcases c2 with c2 | ⟨c2, s2, i2⟩
   ·left; omega
   ·refine .inr ⟨?_, s1.trans s2, fun k' hk' => ?_⟩
    ·show psi f n G2 B2 ((m.turnO cs k).2.runO cs l).2 <= _
     omega
    ·rcases List.mem_cons.1 hk' with rfl | hk'
     ·exact i1
     ·exact s1.idle h0 (i2 k' hk')
def AtRst (n : Nat) (G : Gq) (m : Mk) : Prop := ∀ u, u < n -> G.pt u = none /\ m.mem.waits u = []
theorem idle_rest {l : List Int} (hl : ∀ j : Nat, j < 2 * n -> ∃ k ∈ l, k % (2 * (n : Int)) = j) (hi : ∀ k ∈ l, Idle f n G m k) : AtRst n G m := by
 have hw : ∀ u, u < n -> m.mem.waits u = [] := fun u hu => by
  obtain ⟨k, hk, e⟩ := hl (n + u) (by omega)
  have := (hi k hk).2
  rw [e] at this
  rw [show (((n + u : Nat) : Int) - n).toNat = u by omega] at this
  exact this (by omega)
 have hp : ∀ u, u < n -> G.pt u = none ∨ spinsAt f (G.pt u) /\ ¬ Qt f n G m := fun u hu => by
  obtain ⟨k, hk, e⟩ := hl u (by omega)
  have := (hi k hk).1
  rw [e] at this
  exact this (by omega)
 have hQ : Qt f n G m := fun u hu => ⟨hw u hu, by
  rcases hp u hu with e | ⟨e, -⟩
  ·exact .inl e
  ·exact .inr e⟩
 exact fun u hu => ⟨by
  rcases hp u hu with e | ⟨-, e⟩
  ·exact e
  ·exact absurd hQ e, hw u hu⟩
end
theorem runO_cat (cs : List (List Ins)) : ∀ (l l' : List Int) (m : Mk), (m.runO cs (l ++ l')).2 = ((m.runO cs l).2.runO cs l').2
 | [], _, _ => rfl
 | k :: l, l', m => runO_cat cs l l' (m.turnO cs k).2
def Covers (n : Nat) (l : List Int) : Prop := ∀ j : Nat, j < 2 * n -> ∃ k ∈ l, k % (2 * (n : Int)) = j
section
variable {f n R : Nat} {V : Int -> Prop} {ends : Nat -> Fl} {css : Nat -> List Ins} {G : Gq} {B : Nat -> List Tq} {m : Mk}
theorem Good3.still (h : Good3 f n V ends css R G B m) (hr : AtRst n G m) {cs : List (List Ins)} (hn : cs.length = n) (hcs : ∀ t, t < n -> cs[t]? = some (css t)) (k : Int) : (m.turnO cs k).2 = m := by
 subst hn
 unfold Mk.turnO
 split
 ·generalize k % (2 * (cs.length : Int)) = x
  unfold Mk.stepO
  split
  ·rename_i hx
   have ht : x.toNat < cs.length := by omega
   have e : cs.getD x.toNat [] = css x.toNat := by rw [List.getD_eq_getElem?_getD, hcs _ ht]; rfl
   rw [e]
   have hl := (h.loc _ ht).1
   rw [(hr _ ht).1] at hl
   have hd : doneAt (css x.toNat) (m.pc x.toNat) = true := hl.1.1
   rw [if_pos hd]
  ·rfl
 ·generalize k % (2 * (cs.length : Int)) - cs.length = x
  unfold Mk.drainO
  split
  ·rename_i hx
   have ht : x.toNat < cs.length := by omega
   rw [if_pos (hr _ ht).2]
  ·rfl
theorem Good3.still_run (h : Good3 f n V ends css R G B m) (hr : AtRst n G m) {cs : List (List Ins)} (hn : cs.length = n) (hcs : ∀ t, t < n -> cs[t]? = some (css t)) : ∀ l : List Int, (m.runO cs l).2 = m
 | [] => rfl
 | k :: l => by
  show ((m.turnO cs k).2.runO cs l).2 = m
  rw [h.still hr hn hcs k]
  exact h.still_run hr hn hcs l
theorem Good3.rounds {cs : List (List Ins)} (hR : Right cs) (hn : cs.length = n) (h0 : 0 < n) (hcs : ∀ t, t < n -> cs[t]? = some (css t)) : ∀ (L : List (List Int)) {K : Nat} {G : Gq} {B : Nat -> List Tq} {m : Mk}, Good3 f n V ends css R G B m -> MkOk cs.length K m -> K + L.flatten.length <= 60000000 -> (∀ l ∈ L, Covers n l) -> psi f n G B m < L.length ->
  ∃ G' B', Good3 f n V ends css R G' B' (m.runO cs L.flatten).2 /\ AtRst n G' (m.runO cs L.flatten).2
 | [], _, _, _, _, _, _, _, _, hp => absurd hp (Nat.not_lt_zero _)
 | l :: L, K, G, B, m, h, ok, hK, hc, hp => by
  rw [List.flatten_cons, List.length_append] at hK
  rw [List.length_cons] at hp
  obtain ⟨G1, B1, h1, c1⟩ := h.run hR hn h0 hcs l ok (by omega)
  rcases c1 with c1 | ⟨-, -, c1⟩
  ·rw [List.flatten_cons, runO_cat]
   exact Good3.rounds hR hn h0 hcs L h1 (ok.runO hR l (by omega)) (by omega) (fun l' hl' => hc l' (List.mem_cons_of_mem _ hl')) (by omega)
  ·have hr := idle_rest (hc l List.mem_cons_self) c1
   rw [h.still_run hr hn hcs]
   exact ⟨G, B, h, hr⟩
end
end
section
open Go.RowKit Go.Extern.Stop Go.Stop Go.Extern Go.Maps Go.WideMaps Go.Sort
def clGone : ByteArray := ⟨#[103, 111, 110, 101]⟩
theorem clGone_name : isName clGone := nameB_is (by decide +kernel)
theorem ggone_len (f : Nat) (hf : 1 <= f /\ f <= 4) : (gCode clGone (gGone f)).length <= 100 := by
 unfold gCode
 rw [List.length_map]
 have : f = 1 ∨ f = 2 ∨ f = 3 ∨ f = 4 := by omega
 rcases this with rfl | rfl | rfl | rfl <;> decide
theorem pad4_len : ∀ l : List Int, (pad4 l).length = 4 := fun l => by
 have : ∀ (l : List Int) (o : Nat) (r : List Int), (layTo r o l).length = r.length := fun l => by
  induction l with
  | nil => intro o r; rfl
  | cons x l ih =>
   intro o r
   show (layTo (r.set o x) (o + 1) l).length = _
   rw [ih, List.length_set]
 unfold pad4
 rw [this]
 rfl
def clC (f : Nat) (L : List OpI) : List Ins := thC f (gCode clGone (gGone f)) L
theorem graceI_len (f : Nat) (I : List (List Int)) (n : Nat) : (graceI f I n).length = I.length + 1 + n := by
 unfold graceI
 split
 ·exact graceJ_len _ _ _
 ·rw [linked_length, graceJ_len]
theorem graceI_rows {f n : Nat} {I : List (List Int)} (h : ∀ row ∈ I, row.length = 4) : ∀ row ∈ graceI f I n, row.length = 4 := by
 have hj : ∀ row ∈ graceJ f I n, row.length = 4 := fun row hr => by
  unfold graceJ at hr
  simp only [List.mem_append, List.mem_singleton] at hr
  rcases hr with (hr | rfl) | hr
  ·exact h row hr
  ·rfl
  ·rw [List.eq_of_mem_replicate hr]; rfl
 unfold graceI
 split
 ·exact hj
 ·exact linked_rows hj n
theorem rowsG_rows {m n k : Nat} : ∀ row ∈ rowsG m n k, row.length = 8 := fun row hr => by
 unfold rowsG at hr
 obtain ⟨t, -, rfl⟩ := List.mem_map.1 hr
 split <;> rfl
theorem tbuild_ok {f : Nat} (hf : 1 <= f /\ f <= 4) {ad : Option Addr} {cl : List (List OpI)} {cap : Nat} {w : World} (ho : opRowsAt ad cl w) (hk : kindsOk cl) (hn : cl.length <= 6) {ac : Option Addr} {cells : List (List Int)} {capc : Nat} (hc : cellsAt ac cells w) (h0 : 0 < cells.length) (hl : cells.length <= 20) :
  Calls Tryz.prog 39 #[.int .i64 f, .slice ad cl.length cap, .func (.func 40) #[.int .i64 f] #[], .slice ac cells.length capc] w fun e w' => ∃ base sb iv vs rv rs vc ks B, e = .returned (.tuple #[.agg #[.int .i64 64, iv, rv], vc, .nilIface]) /\ TW base sb w' [] iv vs (graceI f (cells.map pad4) cl.length) rv rs (rowsG cells.length cl.length cl.length) w' /\ KP B w' vc ks (cl.map (clC f)) w' /\ w.heap.size < base /\ w.heap.size < B /\ Below w.heap.size w w' := by
 have HOP := hide ho
 have HB0 : Hid (Below w.heap.size w (w.alloc (.cells #[.int .i64 0, .slice none 0 0, .slice none 0 0] 38))) := hide (bRf.alloc nL _)
 have HRC : Hid ((∀ o, (w.alloc (.cells #[.int .i64 0, .slice none 0 0, .slice none 0 0] 38)).cell? ⟨w.heap.size, o, none⟩ = (#[.int .i64 0, .slice none 0 0, .slice none 0 0] : Array Value)[o]?) /\ (∀ o, (w.alloc (.cells #[.int .i64 0, .slice none 0 0, .slice none 0 0] 38)).frozen? ⟨w.heap.size, o, none⟩ = false) /\ w.heap.size < (w.alloc (.cells #[.int .i64 0, .slice none 0 0, .slice none 0 0] 38)).heap.size) := hide ⟨fun o => World.cell?_alloc_new _ _ _ _, fun o => World.frozen?_alloc_new _ _ _ _, by simp⟩
 have HBE := hide (begin_ok (cap := capc) hn (hc.below HB0.out) h0 hl)
 have HGR := hide (fun (base sb : Nat) (w1 : World) (rv : Value) (rs : List Value) (w : World) (h : TAt base sb w1 rv rs (cells.map pad4) (List.replicate cl.length (regRow cells.length)) w) => grace_ok h hf (List.length_map _) hl hn (fun row hr => by
  obtain ⟨x, -, rfl⟩ := List.mem_map.1 hr
  exact pad4_len x))
 have HGO := hide (fun w => gone_ok hf clGone_name (by decide) w)
 have HWI := hide (fun (base sb : Nat) (w1 : World) (rv : Value) (rs : List Value) (W : World) (h : TAt base sb w1 rv rs (graceI f (cells.map pad4) cl.length) (rowsG cells.length cl.length cl.length) W) (hb : Below w.heap.size w W) (vg : Value) (b3 : Nat) (hg : insOwn W b3 vg (gCode clGone (gGone f))) => with_ok (cap := cap) hf h (ho.below hb) hk hn hg (ggone_len f hf))
 have HIL : Hid ((graceI f (cells.map pad4) cl.length).length <= 100) := hide (by rw [graceI_len, List.length_map]; omega)
 have HIR : Hid (∀ row ∈ graceI f (cells.map pad4) cl.length, row.length <= 100) := hide fun row hr => by
  rw [graceI_rows (fun row hr => by obtain ⟨x, -, rfl⟩ := List.mem_map.1 hr; exact pad4_len x) row hr]; decide
 have HRR : Hid (∀ row ∈ rowsG cells.length cl.length cl.length, row.length <= 100) := hide fun row hr => by
  rw [rowsG_rows row hr]; decide
 have HRL : Hid ((rowsG cells.length cl.length cl.length).length = cl.length) := hide (rowsG_len _ _ _)
 have HMC : Hid ((cl.map (clC f)).length = cl.length) := hide (List.length_map _)
 generalize hII : graceI f (cells.map pad4) cl.length = II at *
 generalize hRR : rowsG cells.length cl.length cl.length = RR at *
 generalize hfi : (f : Int) = fi at *
 clear hfi hf ho hc hk
 go_enter Tryz.func39, Tryz.ntmps39
 go_wp2_with fail
 refine HBE.out.mono ?_
 rintro e w2 ⟨sb, rv, rs, rfl, h2⟩
 have HG2 := hide (HGR.out _ _ _ _ _ _ h2)
 clear h2 HBE HGR
 go_wp2_with fail
 refine HG2.out.mono ?_
 rintro e w3 ⟨rfl, h3⟩
 have H3 := hide h3
 clear h3 HG2
 go_wp2_with fail
 refine (HGO.out _).mono ?_
 rintro e w4 ⟨vg, rfl, hg, hb4⟩
 have H4 := hide (H3.out.below hb4)
 have HBW := hide (below_step HB0.out (H4.out.low))
 have HW4 := hide (HWI.out _ _ _ _ _ _ H4.out HBW.out vg _ hg)
 obtain ⟨xg, cg, eg, -⟩ := ownsRow_shape hg
 subst eg
 clear hg hb4 H3 HWI HGO
 go_wp2_with fail
 refine HW4.out.mono ?_
 rintro e w5 ⟨iv, vs, vc, ks, B, rfl, hT5, hK5, hB5, hb5⟩
 have hlow := below_step H4.out.low hb5
 have HB6 := hide (below_step HBW.out hb5)
 obtain ⟨ai, ci, eiv, -⟩ := ownsRow_shape hT5.oi
 obtain ⟨ar, cr, erv, -⟩ := ownsRow_shape hT5.or'
 rw [HRL.out] at erv
 obtain ⟨ax, cx, evc, hcx⟩ := hK5.codes
 have hmc : (cl.map (thC f (gCode clGone (gGone f)))).length = cl.length := List.length_map _
 rw [hmc] at evc
 subst eiv
 subst erv
 subst evc
 obtain ⟨q1, q2, q3⟩ := HRC.out
 have b0 := keep_cell hlow ((q1 0).trans (show _ = some (.int .i64 0) from rfl))
 have b1 := keep_cell hlow ((q1 1).trans (show _ = some (.slice none 0 0) from rfl))
 have b2 := keep_cell hlow ((q1 2).trans (show _ = some (.slice none 0 0) from rfl))
 have z0 := (hlow.frozen (show (⟨w.heap.size, 0, none⟩ : Addr).block < _ from q3)).trans (q2 0)
 have z1 := (hlow.frozen (show (⟨w.heap.size, 1, none⟩ : Addr).block < _ from q3)).trans (q2 1)
 have z2 := (hlow.frozen (show (⟨w.heap.size, 2, none⟩ : Addr).block < _ from q3)).trans (q2 2)
 have hw4 : w.heap.size < B := by have := HBW.out.size; have := H4.out.low.size; omega
 have HB9 : Hid (Below w.heap.size w (((w5.setCell ⟨w.heap.size, 0, none⟩ (.int .i64 64)).setCell ⟨w.heap.size, 1, none⟩ (.slice ai II.length ci)).setCell ⟨w.heap.size, 2, none⟩ (.slice ar cl.length cr))) := hide (((HB6.out.setCell nL _).setCell nL _).setCell nL _)
 have HS9 : Hid (TW _ sb (((w5.setCell ⟨w.heap.size, 0, none⟩ (.int .i64 64)).setCell ⟨w.heap.size, 1, none⟩ (.slice ai II.length ci)).setCell ⟨w.heap.size, 2, none⟩ (.slice ar cl.length cr)) [] (.slice ai II.length ci) vs II (.slice ar cl.length cr) rs RR (((w5.setCell ⟨w.heap.size, 0, none⟩ (.int .i64 64)).setCell ⟨w.heap.size, 1, none⟩ (.slice ai II.length ci)).setCell ⟨w.heap.size, 2, none⟩ (.slice ar cl.length cr))) := hide
  (((hT5.out q3 0 (.int .i64 64) rfl).out q3 1 (.slice ai II.length ci) rfl).out q3 2 (.slice ar cl.length cr) rfl)
 have HK9 : Hid (KP B (((w5.setCell ⟨w.heap.size, 0, none⟩ (.int .i64 64)).setCell ⟨w.heap.size, 1, none⟩ (.slice ai II.length ci)).setCell ⟨w.heap.size, 2, none⟩ (.slice ar cl.length cr)) (.slice ax cl.length cx) ks (cl.map (clC f)) (((w5.setCell ⟨w.heap.size, 0, none⟩ (.int .i64 64)).setCell ⟨w.heap.size, 1, none⟩ (.slice ai II.length ci)).setCell ⟨w.heap.size, 2, none⟩ (.slice ar cl.length cr))) := hide
  (((hK5.out hw4 0 (.int .i64 64)).out hw4 1 (.slice ai II.length ci)).out hw4 2 (.slice ar cl.length cr))
 have HE9 : Hid ((((w5.setCell ⟨w.heap.size, 0, none⟩ (.int .i64 64)).setCell ⟨w.heap.size, 1, none⟩ (.slice ai II.length ci)).setCell ⟨w.heap.size, 2, none⟩ (.slice ar cl.length cr)).cell? ⟨w.heap.size, 0, none⟩ = some (.int .i64 64) /\ (((w5.setCell ⟨w.heap.size, 0, none⟩ (.int .i64 64)).setCell ⟨w.heap.size, 1, none⟩ (.slice ai II.length ci)).setCell ⟨w.heap.size, 2, none⟩ (.slice ar cl.length cr)).cell? ⟨w.heap.size, 1, none⟩ = some (.slice ai II.length ci) /\ (((w5.setCell ⟨w.heap.size, 0, none⟩ (.int .i64 64)).setCell ⟨w.heap.size, 1, none⟩ (.slice ai II.length ci)).setCell ⟨w.heap.size, 2, none⟩ (.slice ar cl.length cr)).cell? ⟨w.heap.size, 2, none⟩ = some (.slice ar cl.length cr)) := hide (by
  have x0 : (w5.setCell ⟨w.heap.size, 0, none⟩ (.int .i64 64)).cell? ⟨w.heap.size, 0, none⟩ = some (.int .i64 64) := World.cell?_setCell_same _ _ _ b0
  have x1 : ((w5.setCell ⟨w.heap.size, 0, none⟩ (.int .i64 64)).setCell ⟨w.heap.size, 1, none⟩ (.slice ai II.length ci)).cell? ⟨w.heap.size, 1, none⟩ = some (.slice ai II.length ci) := World.cell?_setCell_same _ _ _ (cell_ne b1 (.inr (by decide)))
  have x2 : (((w5.setCell ⟨w.heap.size, 0, none⟩ (.int .i64 64)).setCell ⟨w.heap.size, 1, none⟩ (.slice ai II.length ci)).setCell ⟨w.heap.size, 2, none⟩ (.slice ar cl.length cr)).cell? ⟨w.heap.size, 2, none⟩ = some (.slice ar cl.length cr) := World.cell?_setCell_same _ _ _ (cell_ne (cell_ne b2 (.inr (by decide))) (.inr (by decide)))
  exact ⟨cell_ne (cell_ne x0 (.inr (by decide))) (.inr (by decide)), cell_ne x1 (.inr (by decide)), x2⟩)
 have HQ3 := hide q3
 have HQ4 := hide hw4
 clear hT5 hK5 hb5 hlow H4 HW4 hcx q1 q2 q3 hw4 HRC
 go_wp2_with fail
 obtain ⟨e0, e1, e2⟩ := HE9.out
 have hBf := HB9.out
 have hst := HS9.out
 have hco := HK9.out
 generalize (((w5.setCell ⟨w.heap.size, 0, none⟩ (.int .i64 64)).setCell ⟨w.heap.size, 1, none⟩ (.slice ai II.length ci)).setCell ⟨w.heap.size, 2, none⟩ (.slice ar cl.length cr)) = W9 at *
 refine bodyPost_ret (v := .tuple #[.agg #[.int .i64 64, .slice ai II.length ci, .slice ar cl.length cr], .slice ax cl.length cx, .nilIface]) (by rw [results_cell_tmp2 (show Tryz.f39.results = _ from rfl)]; go_simp) rfl ?_
 exact ⟨_, sb, _, vs, _, rs, _, ks, B, rfl, hst, hco, HQ3.out, HQ4.out, hBf⟩
def txtsAt (ad : Option Addr) (l : List ByteArray) (w : World) : Prop := ∀ (i : Nat) x, l[i]? = some x -> ∃ b off, ad = some ⟨b, off, none⟩ /\ w.cell? ⟨b, off + i, none⟩ = some (.string x)
def anyTo (k : ByteArray) (l : List ByteArray) (j : Nat) : Bool := (l.take j).any fun s => k.toList == s.toList
theorem anyTo_succ {k : ByteArray} {l : List ByteArray} {j : Nat} {s : ByteArray} (h : l[j]? = some s) : anyTo k l (j + 1) = (anyTo k l j || (k.toList == s.toList)) := by
 unfold anyTo
 rw [List.take_add_one, h, List.any_append]
 simp
theorem index_any {ad : Option Addr} {l : List ByteArray} {cap : Nat} (k : ByteArray) {w : World} (h : txtsAt ad l w) (hl : l.length <= 100) :
  Calls Tryz.prog 148 #[.slice ad l.length cap, .string k] w fun e w' => ∃ r : Int, e = .returned (.int .i64 r) /\ decide (0 <= r) = anyTo k l l.length /\ w' = w := by
 have HH := hide h
 obtain ⟨n, hn⟩ : ∃ n, Hid (l.length = n) := ⟨_, hide rfl⟩
 rw [hn.out] at hl ⊢
 clear h
 go_enter Tryz.func148, Tryz.ntmps148
 go_wp2_with fail
 go_loopw [5, 8] (fun _ i wr => ∃ j : Nat, j <= n /\ i = .int .i64 j /\ Hid (anyTo k l j = false) /\ w = wr) (fun _ i _ => n - (intOf i).toNat)
 case atStart => exact ⟨0, Nat.zero_le _, rfl, hide rfl, (by first | rfl | trivial)⟩
 case round =>
  obtain ⟨j, hj, rfl, HA, rfl⟩ := hrel
  by_cases hlt : j < n
  ·have ji : (j : Int) < n := by omega
   obtain ⟨s, hs⟩ : ∃ s, l[j]? = some s := ⟨_, List.getElem?_eq_getElem (by rw [hn.out]; exact hlt)⟩
   obtain ⟨b, off, rfl, c0⟩ := HH.out j s hs
   have HS := hide (anyTo_succ (k := k) hs)
   have hmono : ∀ m, j + 1 <= m -> anyTo k l (j + 1) = true -> anyTo k l m = true := fun m hm he => by
    unfold anyTo at he ⊢
    rw [List.any_eq_true] at he ⊢
    obtain ⟨x, hx, hp⟩ := he
    exact ⟨x, (List.take_subset_take_left _ hm) hx, hp⟩
   have HM := hide hmono
   clear hs hmono
   cases he : (k.toList == s.toList)
   ·have HA2 : Hid (anyTo k l (j + 1) = false) := hide (by rw [HS.out, HA.out, he]; rfl)
    clear HS HA HM
    go_wp2_with fail
    go_roundw
    case rel => exact ⟨j + 1, by omega, by go_num, HA2, (by first | rfl | trivial)⟩
    case measure => simp [intOf]; omega
   ·have HA2 : Hid (anyTo k l n = true) := hide (HM.out n (by omega) (by rw [HS.out, he, Bool.or_true]))
    clear HS HA HM
    go_wp2_with fail
    go_ret
    exact ⟨j, rfl, by rw [HA2.out]; exact decide_eq_true (by omega), rfl⟩
  ·obtain rfl : j = n := by omega
   go_wp2_with fail
   go_ret
   exact ⟨-1, rfl, by rw [HA.out]; rfl, rfl⟩
theorem contains_any {ad : Option Addr} {l : List ByteArray} {cap : Nat} (k : ByteArray) {w : World} (h : txtsAt ad l w) (hl : l.length <= 100) :
  Calls Tryz.prog 123 #[.slice ad l.length cap, .string k] w fun e w' => e = .returned (.bool (anyTo k l l.length)) /\ w' = w := by
 have HI := hide (index_any (cap := cap) k h hl)
 clear h
 generalize anyTo k l l.length = B at *
 go_enter Tryz.func123, Tryz.ntmps123
 go_wp2_with fail
 refine HI.out.mono ?_
 rintro e w2 ⟨r, rfl, hr, rfl⟩
 go_wp2_with fail
 go_ret
 refine ⟨?_, rfl⟩
 rw [<- hr]
 rfl
def clKinds : List ByteArray := [⟨#[101, 110, 116, 101, 114]⟩, ⟨#[108, 101, 97, 118, 101]⟩, ⟨#[114, 101, 115, 116]⟩, ⟨#[119, 97, 105, 116]⟩, ⟨#[114, 101, 97, 100]⟩, ⟨#[100, 114, 111, 112]⟩, ⟨#[108, 97, 116, 101, 114]⟩, ⟨#[102, 108, 117, 115, 104]⟩]
theorem clKinds_any (k : ByteArray) : anyTo k clKinds 8 = decide (2 <= kn k.toList) := by
 have e : anyTo k clKinds 8 = ((k.toList == [101, 110, 116, 101, 114]) || (k.toList == [108, 101, 97, 118, 101]) || (k.toList == [114, 101, 115, 116]) || (k.toList == [119, 97, 105, 116]) || (k.toList == [114, 101, 97, 100]) || (k.toList == [100, 114, 111, 112]) || (k.toList == [108, 97, 116, 101, 114]) || (k.toList == [102, 108, 117, 115, 104])) := by
  unfold anyTo clKinds
  simp only [List.take_succ_cons, List.take_zero, List.any_cons, List.any_nil, Bool.or_false, toList_bl, Bool.or_assoc]
 rw [e]
 clear e
 rcases kcases k.toList with ⟨h, hk⟩ | ⟨h, hk⟩ | ⟨h, hk⟩ | ⟨h, hk⟩ | ⟨h, hk⟩ | ⟨h, hk⟩ | ⟨h, hk⟩ | ⟨h, hk⟩ | ⟨h, hk⟩ | ⟨h, hk⟩
 all_goals
  rw [hk]
  obtain ⟨e1, e2, e3, e4, e5, e6, e7, e8, e9⟩ := h
  simp only [e2, e3, e4, e5, e6, e7, e8, e9]
  try rfl
def shErr (i : Nat) (n : Int) : Nat := if i = 1 then (if n < 1 ∨ 1000 < n then 2 else 0) else (if n ≠ 0 ∨ i = 0 then 3 else 0)
theorem tshape_any {a : Nat -> Addr} (k : ByteArray) (n : Int) {b c : Nat} {w : World} (hE : EnvL a w) (ht : txtsAt (some ⟨b, 0, none⟩) clKinds w) :
  Calls Tryz.prog 78 #[.agg #[.string k, .int .i64 n], .string ⟨#[112, 117, 116]⟩, .slice (some ⟨b, 0, none⟩) 8 c] w fun e w' => e = .returned (errVal a (shErr (kn k.toList) n)) /\ Below w.heap.size w w' := by
 have hB : Below w.heap.size w (w.alloc (.cells #[.string k, .int .i64 n] 72)) := bRf.alloc nL _
 have g1 : (w.alloc (.cells #[.string k, .int .i64 n] 72)).cell? ⟨1, 0, none⟩ = some (errAt (a 1)) := keep_cell hB (hE.cell 1 (by decide))
 have g2 : (w.alloc (.cells #[.string k, .int .i64 n] 72)).cell? ⟨2, 0, none⟩ = some (errAt (a 2)) := keep_cell hB (hE.cell 2 (by decide))
 have htB : txtsAt (some ⟨b, 0, none⟩) clKinds (w.alloc (.cells #[.string k, .int .i64 n] 72)) := fun i x hx => by
  obtain ⟨b', off, e, hc⟩ := ht i x hx
  exact ⟨b', off, e, keep_cell hB hc⟩
 have hct := contains_any (cap := c) k htB (show 8 <= 100 by decide)
 rw [show clKinds.length = 8 from rfl, clKinds_any] at hct
 have HC := hide hct
 have hd : n < 1 ∨ ¬ n < 1 /\ (1000 < n ∨ ¬ 1000 < n) := by omega
 have hz : (n != 0) = true /\ n ≠ 0 ∨ n = 0 := by
  by_cases e : n = 0
  ·exact .inr e
  ·exact .inl ⟨by simpa using e, e⟩
 clear hE ht htB hct
 by_cases h1 : kn k.toList = 1
 ·have hk1 : (k.toList == [112, 117, 116]) = true := by
   rcases kcases k.toList with ⟨h, hk⟩ | ⟨h, hk⟩ | ⟨h, hk⟩ | ⟨h, hk⟩ | ⟨h, hk⟩ | ⟨h, hk⟩ | ⟨h, hk⟩ | ⟨h, hk⟩ | ⟨h, hk⟩ | ⟨h, hk⟩
   ·exact h.1
   all_goals (rw [hk] at h1; exact absurd h1 (by decide))
  rw [h1]
  clear h1 HC
  rcases hd with d1 | ⟨d1, d2 | d2⟩
  all_goals
   go_enter Tryz.func78, Tryz.ntmps78
   go_wp2_with fail
   go_ret
   refine ⟨?_, hB⟩
   first
    | (rw [show shErr 1 n = 2 by unfold shErr; rw [if_pos rfl, if_pos (by omega)]]; rfl)
    | (rw [show shErr 1 n = 0 by unfold shErr; rw [if_pos rfl, if_neg (by omega)]]; rfl)
 ·have hk1 : (k.toList == [112, 117, 116]) = false := by
   rcases kcases k.toList with ⟨h, hk⟩ | ⟨h, hk⟩ | ⟨h, hk⟩ | ⟨h, hk⟩ | ⟨h, hk⟩ | ⟨h, hk⟩ | ⟨h, hk⟩ | ⟨h, hk⟩ | ⟨h, hk⟩ | ⟨h, hk⟩
   ·exact absurd hk h1
   all_goals exact h.1
  rcases hz with ⟨hz, hz2⟩ | rfl
  ·clear HC
   go_enter Tryz.func78, Tryz.ntmps78
   go_wp2_with fail
   go_ret
   refine ⟨?_, hB⟩
   simp [shErr, h1, hz2, errVal]
  ·by_cases h0 : kn k.toList = 0
   ·rw [h0] at HC
    go_enter Tryz.func78, Tryz.ntmps78
    go_wp2_with fail
    refine HC.out.mono ?_
    rintro e w2 ⟨rfl, rfl⟩
    go_wp2_with fail
    go_ret
    refine ⟨?_, hB⟩
    simp [shErr, h0, errVal]
   ·rw [decide_eq_true (show 2 <= kn k.toList by omega)] at HC
    go_enter Tryz.func78, Tryz.ntmps78
    go_wp2_with fail
    refine HC.out.mono ?_
    rintro e w2 ⟨rfl, rfl⟩
    go_wp2_with fail
    go_ret
    refine ⟨?_, hB⟩
    simp [shErr, h0, h1, errVal]
structure CrI where
 deep : Int
 ret : Bool
 wt : Bool
 sf : Bool
def CrI.first : CrI := ⟨0, false, false, true⟩
def CrI.pass (s : CrI) (x : OpI) : CrI := ⟨psDeep (kn x.kind.toList) s.deep, psRet (kn x.kind.toList) s.ret, psWt (kn x.kind.toList) s.wt, s.sf && !((kn x.kind.toList == 7) && !s.wt)⟩
def folE (s : CrI) : List OpI -> Nat
 | [] => if 0 < s.deep then 8 else 0
 | x :: l => if shErr (kn x.kind.toList) x.n ≠ 0 then shErr (kn x.kind.toList) x.n else if ckErr (kn x.kind.toList) s.deep s.ret ≠ 0 then ckErr (kn x.kind.toList) s.deep s.ret else folE (s.pass x) l
def folS (s : CrI) : List OpI -> Bool
 | [] => s.sf
 | x :: l => folS (s.pass x) l
theorem psDeep_bound (i : Nat) (d : Int) {k : Nat} (h : -(k : Int) <= d /\ d <= k) : -((k + 1 : Nat) : Int) <= psDeep i d /\ psDeep i d <= ((k + 1 : Nat) : Int) := by
 unfold psDeep
 split
 ·omega
 split
 ·omega
 ·omega
theorem errVal_pos {a : Nat -> Addr} {k : Nat} (h : k ≠ 0) : ∃ j, k = j + 1 /\ errVal a k = errAt (a j) := by
 cases k with
 | zero => exact absurd rfl h
 | succ j => exact ⟨j, rfl, rfl⟩
theorem errVal_zero (a : Nat -> Addr) {k : Nat} (h : k = 0) : errVal a k = .nilIface := by subst h; rfl
theorem see_check (deep : Int) (ret wt : Bool) (k : ByteArray) (n : Int) (w : World) :
  Calls Tryz.prog 37 #[.agg #[.int .i64 deep, .bool ret, .bool wt], .agg #[.string k, .int .i64 n]] w fun e w' => e = .returned (.tuple #[]) /\ Below w.heap.size w w' := by
 go_enter Tryz.func37, Tryz.ntmps37
 go_wp2_with fail
 go_end0
 exact ⟨rfl, (bRf.alloc nL _).alloc (by simp) _⟩
end
end Go.Proofs.YtaiigfcfmcicjaaGreatDoor
