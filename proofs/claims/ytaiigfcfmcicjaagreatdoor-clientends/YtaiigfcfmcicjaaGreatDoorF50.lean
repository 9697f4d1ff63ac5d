import Derived.Test.YtaiigfcfmcicjaaGreatDoorF35
import Derived.Test.YtaiigfcfmcicjaaGreatDoorF49
import Derived.Test.YtaiigfcfmcicjaaGreatDoorF32
import Derived.Test.YtaiigfcfmcicjaaGreatDoorF18
import Derived.Test.YtaiigfcfmcicjaaGreatDoorF21
import Derived.Test.YtaiigfcfmcicjaaGreatDoorF15
import Derived.Test.YtaiigfcfmcicjaaGreatDoorF02
import Derived.Test.YtaiigfcfmcicjaaGreatDoorF10
import Derived.Deep.QuietTactic
import Derived.Test.YtaiigfcfmcicjaaGreatDoorF20
import Derived.Test.YtaiigfcfmcicjaaGreatDoorF31
namespace Go.Proofs.YtaiigfcfmcicjaaGreatDoor
set_option maxRecDepth 100000
set_option maxHeartbeats 8000000
section
open Go.RowKit Go.Extern.Stop Go.Stop Go.Extern Go.Maps Go.WideMaps Go.Sort
theorem clNewX {f : Nat} (hf : 1 <= f /\ f <= 4) {cl : List (List OpI)} (h : (eachE cl).1 = 0) {ai ar ad : Option Addr} {ci cr cap : Nat} {w0 w : World} (h0 : Below w0.heap.size w0 w) (hs : StaAt (clSta f cl.length) ⟨ai, ci, ar, cr⟩ w) (hl : codesAt ad (cl.map (clC f)) w0) :
  Calls Tryz.prog 20 #[.agg #[.int .i64 64, .slice ai (graceI f (clCells.map pad4) cl.length).length ci, .slice ar (rowsG 2 cl.length cl.length).length cr], .slice ad cl.length cap] w fun e w' => ∃ p : RkPl, e = .returned (.pointer (some ⟨p.k, 0, none⟩)) /\ Hid (RkX (cl.map (clC f)) p ((clSta f cl.length).mach cl.length) 1 w' /\ Below w.heap.size w w' /\ ∀ b, p.fp cl.length ((clSta f cl.length).mach cl.length).mem b -> w.heap.size <= b) := by
 obtain ⟨-, h6, h1, -⟩ := eachE_ok h
 have hl' : (cl.map (clC f)).length = cl.length := List.length_map _
 have h' := newMachine_any (cap := cap) h0 hs hl (show (1 : Int) <= 64 by decide) (show (64 : Int) <= 64 by decide) (by rw [hl']; exact h1) (by rw [hl']; exact h6) (by rw [hl']; exact cl_fits h1 h6 hf)
 rw [hl'] at h'
 refine h'.mono ?_
 rintro e w' ⟨p, he, hh⟩
 obtain ⟨g1, -, g3, g4⟩ := hh.out
 exact ⟨p, he, hide ⟨⟨g1, by rw [hl']; exact Sta.mach_ok (cl_fits h1 h6 hf) (by show (64 : Int) <= 64; decide) h6, cl_right hf h, by decide⟩, g3, g4⟩⟩
def kbEnter : ByteArray := ⟨#[101, 110, 116, 101, 114]⟩
def kbRead : ByteArray := ⟨#[114, 101, 97, 100]⟩
def kbLeave : ByteArray := ⟨#[108, 101, 97, 118, 101]⟩
theorem kn_enter : kn kbEnter.toList = 2 := by unfold kbEnter; rw [toList_bl]; rfl
theorem kn_read : kn kbRead.toList = 6 := by unfold kbRead; rw [toList_bl]; rfl
theorem kn_leave : kn kbLeave.toList = 3 := by unfold kbLeave; rw [toList_bl]; rfl
def cl0 : List (List OpI) := [[⟨kbEnter, 0⟩, ⟨kbRead, 0⟩, ⟨kbLeave, 0⟩]]
theorem each_cl0 : (eachE cl0).1 = 0 := by
 unfold eachE
 rw [if_pos (show fitB cl0 = true by decide)]
 simp [cl0, eachFrom, folE, kn_enter, kn_read, kn_leave, shErr, ckErr, CrI.pass, CrI.first, psDeep, psRet, psWt]
theorem each_nil1 : (eachE [[]]).1 = 0 := by decide
theorem opsAt_new {w : World} {l : List OpI} {cs : Array Value} {t : TypeId} (h : cs.toList = l.flatMap fun x => [.string x.kind, .int .i64 x.n]) : opsAt (some ⟨w.heap.size, 0, none⟩) l (w.alloc (.cells cs t)) := by
 have hat : ∀ (l : List OpI) (i j : Nat) (x : OpI), l[i]? = some x -> j < 2 -> (l.flatMap fun x => ([.string x.kind, .int .i64 x.n] : List Value))[i * 2 + j]? = ([.string x.kind, .int .i64 x.n] : List Value)[j]? := fun l => by
  induction l with
  | nil => intro i j x h _; simp at h
  | cons y l ih =>
   intro i j x h hj
   cases i with
   | zero =>
    cases h
    show ([.string y.kind, .int .i64 y.n] ++ _ : List Value)[0 * 2 + j]? = _
    rw [List.getElem?_append_left (by show 0 * 2 + j < 2; omega), Nat.zero_mul, Nat.zero_add]
   | succ i =>
    show ([.string y.kind, .int .i64 y.n] ++ _ : List Value)[(i + 1) * 2 + j]? = _
    rw [List.getElem?_append_right (by show 2 <= _; omega), show (i + 1) * 2 + j - ([.string y.kind, .int .i64 y.n] : List Value).length = i * 2 + j by show _ - 2 = _; omega]
    exact ih i j x (by simpa using h) hj
 intro i x hx
 have key : ∀ j, j < 2 -> (w.alloc (.cells cs t)).cell? ⟨w.heap.size, i * 2 + j, none⟩ = ([.string x.kind, .int .i64 x.n] : List Value)[j]? := fun j hj => by
  rw [World.cell?_alloc_new, <- hat l i j x hx hj, <- h]
  simp
 refine ⟨w.heap.size, 0, rfl, ?_, ?_⟩
 ·rw [show 0 + i * 2 = i * 2 + 0 by omega]; exact key 0 (by decide)
 ·rw [show 0 + i * 2 + 1 = i * 2 + 1 by omega]; exact key 1 (by decide)
theorem opRowsAt_one {w : World} {L : List OpI} {adl : Option Addr} {n capl : Nat} {t : TypeId} (hn : L.length = n) (h : opsAt adl L w) : opRowsAt (some ⟨w.heap.size, 0, none⟩) [L] (w.alloc (.cells #[.slice adl n capl] t)) := by
 subst hn
 intro i M hM
 cases i with
 | zero =>
  cases hM
  exact ⟨_, 0, adl, capl, rfl, by rw [World.cell?_alloc_new]; rfl, h.below (bRf.alloc nL _)⟩
 | succ i => simp at hM
theorem built_any {a : Nat -> Addr} {w : World} (hE : EnvL a w) :
  Calls Tryz.prog 8 #[] w fun e w' => e = .returned (.bool true) /\ Below w.heap.size w w' := by
 have hA1 : Below w.heap.size w (w.alloc (.cells #[.string ⟨#[101, 110, 116, 101, 114]⟩, .int .i64 0, .string ⟨#[114, 101, 97, 100]⟩, .int .i64 0, .string ⟨#[108, 101, 97, 118, 101]⟩, .int .i64 0] 72)) := bRf.alloc nL _
 have hA2 : Below w.heap.size w ((w.alloc (.cells #[.string ⟨#[101, 110, 116, 101, 114]⟩, .int .i64 0, .string ⟨#[114, 101, 97, 100]⟩, .int .i64 0, .string ⟨#[108, 101, 97, 118, 101]⟩, .int .i64 0] 72)).alloc (.cells #[.slice (some ⟨w.heap.size, 0, none⟩) 3 3] 70)) := hA1.alloc (by simp) _
 have hr : opRowsAt (some ⟨w.heap.size + 1, 0, none⟩) cl0 ((w.alloc (.cells #[.string ⟨#[101, 110, 116, 101, 114]⟩, .int .i64 0, .string ⟨#[114, 101, 97, 100]⟩, .int .i64 0, .string ⟨#[108, 101, 97, 118, 101]⟩, .int .i64 0] 72)).alloc (.cells #[.slice (some ⟨w.heap.size, 0, none⟩) 3 3] 70)) := by
  have h1 := opsAt_new (w := w) (l := [⟨kbEnter, 0⟩, ⟨kbRead, 0⟩, ⟨kbLeave, 0⟩]) (cs := #[.string ⟨#[101, 110, 116, 101, 114]⟩, .int .i64 0, .string ⟨#[114, 101, 97, 100]⟩, .int .i64 0, .string ⟨#[108, 101, 97, 118, 101]⟩, .int .i64 0]) (t := 72) rfl
  have h2 := opRowsAt_one (n := 3) (capl := 3) (t := 70) rfl h1
  rw [World.size_alloc] at h2
  exact h2
 have HBU := hide (clbuild_ok (f := 1) (cap := 1) (by decide) (hE.below hA2.block) hr each_cl0)
 rw [show cl0.length = 1 from rfl, show ((1 : Nat) : Int) = 1 from rfl] at HBU
 have HA2 := hide hA2
 have HE := hide hE
 have HI := hide (graceI_len 1 (clCells.map pad4) 1)
 clear hA1 hA2 hr hE
 generalize graceI 1 (clCells.map pad4) 1 = II at *
 generalize rowsG 2 1 1 = RR at *
 go_enter Tryz.func8, Tryz.ntmps8
 go_wp2_with fail
 refine HBU.out.mono ?_
 rintro e w2 ⟨base, sb, iv, vs, rv, rs, vc, ks, B, rfl, hT5, hK5, -, -, hbw⟩
 have HB2 := hide (below_step HA2.out hbw)
 obtain ⟨ai, ci, eiv, -⟩ := ownsRow_shape hT5.oi
 obtain ⟨ar, cr, erv, -⟩ := ownsRow_shape hT5.or'
 obtain ⟨ax, cx, evc, hcx⟩ := hK5.codes
 have hl1 : (cl0.map (clC 1)).length = 1 := rfl
 rw [hl1] at evc
 subst eiv
 subst erv
 subst evc
 clear hT5 hK5 hbw hcx hl1 HBU HA2
 generalize hI : II.length = iL at *
 generalize hR : RR.length = rL at *
 have HB4 : Hid (Below w.heap.size w (((w2.alloc (.cells #[.int .i64 64, .slice ai iL ci, .slice ar rL cr] 38)).alloc (.cells #[] 72)).alloc (.cells #[.slice (some ⟨w2.heap.size + 1, 0, none⟩) 0 0] 70))) := hide (((HB2.out.alloc HB2.out.size _).alloc (by have := HB2.out.size; simp; omega) _).alloc (by have := HB2.out.size; simp; omega) _)
 have HR4 : Hid (opRowsAt (some ⟨w2.heap.size + 1 + 1, 0, none⟩) [[]] (((w2.alloc (.cells #[.int .i64 64, .slice ai iL ci, .slice ar rL cr] 38)).alloc (.cells #[] 72)).alloc (.cells #[.slice (some ⟨w2.heap.size + 1, 0, none⟩) 0 0] 70))) := hide (by
  have h2 := opRowsAt_one (w := (w2.alloc (.cells #[.int .i64 64, .slice ai iL ci, .slice ar rL cr] 38)).alloc (.cells #[] 72)) (L := []) (adl := some ⟨w2.heap.size + 1, 0, none⟩) (n := 0) (capl := 0) (t := 70) rfl (fun i x hx => by simp at hx)
  rw [World.size_alloc, World.size_alloc] at h2
  exact h2)
 have HCH := hide (clcheck_ok (cap := 1) (HE.out.below HB4.out.block) HR4.out)
 rw [show ([[]] : List (List OpI)).length = 1 from rfl] at HCH
 go_wp2_with fail
 refine HCH.out.mono ?_
 rintro e w5 ⟨v, rfl, he, hb5⟩
 obtain rfl : v = .nilIface := by
  rcases he with ⟨-, e⟩ | ⟨h, -⟩ | ⟨h, -⟩
  ·exact e
  ·exact absurd each_nil1 h
  ·exact absurd each_nil1 h
 have HB5 := hide (below_step HB4.out hb5)
 clear he hb5 HCH HR4
 go_wp2_with fail
 go_ret
 exact ⟨rfl, HB5.out⟩
def ocell (x : OpI) : List Value := [.string x.kind, .int .i64 x.n]
def ocells (l : List OpI) : List Value := l.flatMap ocell
theorem ocells_len (l : List OpI) : (ocells l).length = l.length * 2 := by
 induction l with
 | nil => rfl
 | cons x l ih =>
  show (ocell x ++ ocells l).length = _
  rw [List.length_append, ih, List.length_cons]
  show 2 + _ = _
  omega
theorem ocells_at : ∀ (l : List OpI) (i j : Nat) (x : OpI), l[i]? = some x -> j < 2 -> (ocells l)[i * 2 + j]? = (ocell x)[j]?
 | [], i, j, x, h, _ => by simp at h
 | y :: l, 0, j, x, h, hj => by
  cases h
  show (ocell _ ++ ocells l)[0 * 2 + j]? = _
  rw [List.getElem?_append_left (by show 0 * 2 + j < 2; omega), Nat.zero_mul, Nat.zero_add]
 | y :: l, i + 1, j, x, h, hj => by
  show (ocell y ++ ocells l)[(i + 1) * 2 + j]? = _
  rw [List.getElem?_append_right (by show 2 <= _; omega), show (i + 1) * 2 + j - (ocell y).length = i * 2 + j by show _ - 2 = _; omega]
  exact ocells_at l i j x (by simpa using h) hj
theorem ocells_one {l : List OpI} : ∀ u ∈ ocells l, u.oneCell' = true := fun u hu => by
 obtain ⟨x, -, h⟩ := List.mem_flatMap.1 hu
 simp only [ocell, List.mem_cons, List.not_mem_nil, or_false] at h
 rcases h with rfl | rfl <;> rfl
theorem opsAt_cells {b off : Nat} {l : List OpI} {w : World} (h : opsAt (some ⟨b, off, none⟩) l w) (k : Nat) (u : Value) (hu : (ocells l)[k]? = some u) : w.cell? ⟨b, off + k, none⟩ = some u := by
 have hk := (List.getElem?_eq_some_iff.1 hu).1
 rw [ocells_len] at hk
 obtain ⟨x, hx⟩ : ∃ x, l[k / 2]? = some x := ⟨_, List.getElem?_eq_getElem (by omega)⟩
 obtain ⟨b', off', e, h0, h1⟩ := h _ x hx
 cases e
 have e := ocells_at l (k / 2) (k % 2) x hx (Nat.mod_lt _ (by decide))
 rw [show k / 2 * 2 + k % 2 = k by omega, hu] at e
 have h5 : k % 2 < 2 := Nat.mod_lt _ (by decide)
 rw [show off + k = off + k / 2 * 2 + k % 2 by omega]
 generalize k % 2 = j at *
 match j, h5, e with
 | 0, _, e => cases e; exact h0
 | 1, _, e => cases e; exact h1
theorem opsAt_of_ocells {w : World} {base : Nat} {e : TypeId} {l : List OpI} {v : Value} (h : w.ownsRow base e 2 v l.length (ocells l)) : ∃ ad cap, v = .slice ad l.length cap /\ opsAt ad l w := by
 obtain ⟨g, c, rfl, h1, h2, h3⟩ := ownsRow_shape h
 refine ⟨g, c, rfl, fun i x hx => ?_⟩
 have key : ∀ j, j < 2 -> ∀ u, (ocell x)[j]? = some u -> ∃ b off, g = some ⟨b, off, none⟩ /\ w.cell? ⟨b, off + (i * 2 + j), none⟩ = some u := fun j hj u hu => by
  rw [<- ocells_at l i j x hx hj] at hu
  obtain ⟨gg, e, hc⟩ := h3 _ _ hu
  exact ⟨gg, 0, e, by rw [Nat.zero_add]; exact hc⟩
 obtain ⟨b, off, rfl, k0⟩ := key 0 (by decide) _ rfl
 obtain ⟨_, _, e1, k1⟩ := key 1 (by decide) _ rfl
 cases e1
 exact ⟨b, off, rfl, k0, k1⟩
theorem opInfo : ∃ i, (Tryz.prog).info? 72 = some i /\ i.zero = some (.agg #[.string ⟨#[]⟩, .int .i64 0]) /\ i.size = 2 /\ i.bytes = 24 := info_parts (by kernel_rfl)
theorem opRowInfo : ∃ i, (Tryz.prog).info? 70 = some i /\ i.zero = some (.slice none 0 0) /\ i.size = 1 /\ i.bytes = 24 := info_parts (by kernel_rfl)
def opsOwn (w : World) (base : Nat) (v : Value) (l : List OpI) : Prop := w.ownsRow base 72 2 v l.length (ocells l)
theorem opsOwn_keep {w w' : World} {base : Nat} {v : Value} {l : List OpI} (h : opsOwn w base v l) (k : Below w.heap.size w w') : opsOwn w' base v l :=
 ownsRow_block h (fun b hb => k.block b (h.lt b hb).2)
theorem opsOwn_kept {w w' : World} {base : Nat} {v : Value} {l : List OpI} {ob : Option Nat} (h : opsOwn w base v l) (hg : w.grownBy w' ob) (hne : v.ownBlock = none ∨ v.ownBlock ≠ ob) : opsOwn w' base v l := World.ownsRow.kept h hg hne
theorem opsOwn_mono {w : World} {base base' : Nat} {v : Value} {l : List OpI} (h : opsOwn w base v l) (hb : base' <= base) : opsOwn w base' v l := by
 obtain ⟨h1, h2⟩ := h
 refine ⟨h1, ?_⟩
 rcases h2 with h2 | ⟨g, cap, cur, e, hg, r⟩
 ·exact .inl h2
 ·exact .inr ⟨g, cap, cur, e, Nat.le_trans hb hg, r⟩
structure OpP (base : Nat) (w1 : World) (v : Value) (vs : List Value) (Ls : List (List OpI)) (w : World) : Prop where
 own : w.ownsRow base 70 1 v Ls.length vs
 el : ∀ (i : Nat) L, Ls[i]? = some L -> ∃ u, vs[i]? = some u /\ opsOwn w base u L /\ ∀ b, u.ownBlock = some b -> v.ownBlock ≠ some b
 low : Below base w1 w
 bz : base <= w.heap.size
section
variable {base : Nat} {w1 : World} {v : Value} {vs : List Value} {Ls : List (List OpI)} {w w' : World}
theorem OpP.nil (h : Below base w1 w) (hb : base <= w.heap.size) : OpP base w1 (.slice none 0 0) [] [] w := ⟨World.ownsRow_nil _ _ _ _, fun i L hi => by simp at hi, h, hb⟩
theorem OpP.below (h : OpP base w1 v vs Ls w) (k : Below w.heap.size w w') : OpP base w1 v vs Ls w' :=
 ⟨ownsRow_block h.own (fun b hb => k.block b (h.own.lt b hb).2), fun i L hi => by obtain ⟨u, h1, h2, h3⟩ := h.el i L hi; exact ⟨u, h1, opsOwn_keep h2 k, h3⟩, h.low.trans (k.mono h.bz), Nat.le_trans h.bz k.size⟩
theorem OpP.add (h : OpP base w1 v vs Ls w) {u : Value} {L : List OpI} (hu : opsOwn w base u L) (hne : ∀ b, u.ownBlock = some b -> v.ownBlock ≠ some b) {v' : Value} {N : Nat} (hN : w.heap.size <= N)
  (ho : w'.ownsRow base 70 1 v' (Ls.length + 1) (vs ++ [u])) (hg : w.grownBy w' v.ownBlock) (hloc : v'.ownBlock = v.ownBlock ∨ v'.ownBlock = some N) : OpP base w1 v' (vs ++ [u]) (Ls ++ [L]) w' := by
 have hB : Below base w w' := (Below.refl base w).grown hg h.bz (fun k hk => (h.own.lt k hk).1)
 have nb : ∀ b, b < w.heap.size -> v.ownBlock ≠ some b -> v'.ownBlock ≠ some b := fun b hb hne e => by
  rcases hloc with h1 | h1
  ·rw [h1] at e; exact hne e
  ·rw [h1] at e
   have := Option.some.inj e
   omega
 have kn : ∀ {u : Value} {L : List OpI}, opsOwn w base u L -> (∀ b, u.ownBlock = some b -> v.ownBlock ≠ some b) -> opsOwn w' base u L /\ ∀ b, u.ownBlock = some b -> v'.ownBlock ≠ some b := fun {u L} h1 h2 => by
  refine ⟨opsOwn_kept h1 hg ?_, fun b e => nb b (World.ownsRow.lt h1 b e).2 (h2 b e)⟩
  cases hr : u.ownBlock with
  | none => exact .inl rfl
  | some b => exact .inr fun e => h2 b hr e.symm
 have lv : vs.length = Ls.length := by have := h.own.1; omega
 refine ⟨by rw [List.length_append]; exact ho, fun i M hi => ?_, h.low.trans hB, Nat.le_trans h.bz hB.size⟩
 by_cases hlt : i < Ls.length
 ·rw [List.getElem?_append_left hlt] at hi
  obtain ⟨x, h1, h2, h3⟩ := h.el i M hi
  exact ⟨x, by rw [List.getElem?_append_left (by omega)]; exact h1, (kn h2 h3).1, (kn h2 h3).2⟩
 ·rw [List.getElem?_append_right (by omega)] at hi
  have hi0 : i - Ls.length = 0 := by
   have := (List.getElem?_eq_some_iff.1 hi).1
   simp at this; omega
  rw [hi0] at hi
  cases hi
  exact ⟨u, by rw [List.getElem?_append_right (by omega), lv, hi0]; rfl, (kn hu hne).1, (kn hu hne).2⟩
theorem OpP.rows (h : OpP base w1 v vs Ls w) : ∃ ad cap, v = .slice ad Ls.length cap /\ opRowsAt ad Ls w := by
 obtain ⟨ad, cap, e2, g1, g2, g3⟩ := ownsRow_shape h.own
 refine ⟨ad, cap, e2, fun t L ht => ?_⟩
 obtain ⟨u, h1, h2, -⟩ := h.el t L ht
 obtain ⟨g, eg, cg⟩ := g3 t u h1
 obtain ⟨adl, capl, eu, k1⟩ := opsAt_of_ocells h2
 exact ⟨g, 0, adl, capl, eg, by rw [Nat.zero_add, cg, eu], k1⟩
end
theorem run_append_ops {w : World} {adl : Option Addr} {L : List OpI} {capl : Nat} (h : opsAt adl L w) (hl : L.length <= 100) (ty : TypeId) :
  ∃ v' w', (Builtin.append_ #[70, 70] ty #[.slice none 0 0, .slice adl L.length capl]).run Tryz.prog w = .ok v' w' /\ opsOwn w' w.heap.size v' L /\ Below w.heap.size w w' := by
 obtain ⟨ri, hri, hrz, hrs, hrb⟩ := opInfo
 cases adl with
 | none =>
  have hL : L = [] := by
   cases L with
   | nil => rfl
   | cons x l => obtain ⟨b, off, e, -⟩ := h 0 x rfl; cases e
  subst hL
  refine ⟨.slice none 0 0, w, ?_, World.ownsRow_nil _ _ _ _, Below.refl _ _⟩
  have ht := Tryz.underlying70
  simp [Builtin.append_, run_underlying ht, sizeOf, typeInfo, hri, Builtin.lenOf, Builtin.firstCells]
 | some a =>
  obtain ⟨v', w', hr, h2, h4, -, -⟩ := run_append_own_at (P := Tryz.prog) (w := w) w.heap.size 70 ty 72 ri (.agg #[.string ⟨#[]⟩, .int .i64 0]) 2 24 Tryz.underlying70 hri hrz hrs hrb rfl (by decide) (.slice none 0 0) 0 [] (World.ownsRow_nil _ _ _ _) a L.length capl (ocells L) (ocells_len L) (fun j x hj => by
    have hj5 : j < L.length * 2 := by
     have := (List.getElem?_eq_some_iff.1 hj).1
     rwa [ocells_len] at this
    obtain ⟨y, hy⟩ : ∃ y, L[0]? = some y := ⟨_, List.getElem?_eq_getElem (by omega)⟩
    obtain ⟨b, off, e, -⟩ := h 0 y hy
    cases e
    rw [Addr.add_lit]
    exact opsAt_cells h j x hj) ocells_one (by unfold maxLen; omega) (by omega) nL
  refine ⟨v', w', hr, ?_, (Below.refl w.heap.size w).grown h4 nL (fun k hk => by cases hk)⟩
  unfold opsOwn
  rw [Nat.zero_add] at h2
  exact h2
theorem wpList_append_ops {ops : Array Oper} {rest : List Oper} {o : Oper} {a : Act} (w : World) {Q : Exit -> Act -> World -> Prop} (hgd : o.guard = none) (s x : Operand)
  (ho : o.op = .call { callee := .builtin .append, args := #[s, x], argTypes := #[70, 70] }) {adl : Option Addr} {L : List OpI} {capl : Nat}
  (hs : a.eval s = .slice none 0 0) (hx : a.eval x = .slice adl L.length capl) (hu : opsAt adl L w) (hl : L.length <= 100)
  (h : ∀ v' w', opsOwn w' w.heap.size v' L -> Below w.heap.size w w' -> wpList Tryz.prog ops Q rest (a.put o.dst v') w') : wpList Tryz.prog ops Q (o :: rest) a w := by
 refine wpList_plain hgd fun K hK => ?_
 obtain ⟨v', w', hr, h4, h5⟩ := run_append_ops (capl := capl) hu hl o.type
 unfold Oper.wp execOp
 simp only [ho, resolve, invoke, builtin, Sem.run_bind, Sem.run_pure, Result.andThen_ok, List.map_toArray, List.map_cons, List.map_nil, hs, hx, hr]
 exact hK _ _ (h v' w' h4 h5)
theorem opsof_any {ad : Option Addr} {cl : List (List OpI)} {cap : Nat} {w : World} (ho : opRowsAt ad cl w) (h10 : cl.length <= 10) (h30 : ∀ L ∈ cl, L.length <= 30) :
  Calls Tryz.prog 11 #[.slice ad cl.length cap] w fun e w' => ∃ ad' cap', e = .returned (.slice ad' cl.length cap') /\ opRowsAt ad' cl w' /\ Below w.heap.size w w' := by
 have HO := hide ho
 have H30 := hide h30
 obtain ⟨n, hln⟩ : ∃ n, Hid (cl.length = n) := ⟨_, hide rfl⟩
 rw [hln.out] at h10 ⊢
 clear ho h30
 have HP0 : Hid (OpP w.heap.size w (.slice none 0 0) [] (cl.take 0) w) := hide (OpP.nil bRf nL)
 go_enter Tryz.func11, Tryz.ntmps11
 go_wp2_with fail
 go_loopw [3, 4, 5] (fun v i _ wr => ∃ t : Nat, t <= n /\ i = .int .i64 t /\ Hid (∃ vs, OpP w.heap.size w v vs (cl.take t) wr)) (fun _ i _ _ => n - (intOf i).toNat)
 case atStart => exact ⟨0, Nat.zero_le _, rfl, hide ⟨_, HP0.out⟩⟩
 case round =>
  clear HP0
  obtain ⟨t, ht, rfl, HP⟩ := hrel
  generalize u3 = v at *
  obtain ⟨vs, hP⟩ := HP.out
  by_cases hlt : t < n
  ·have ti : (t : Int) < n := by omega
   obtain ⟨L, hL⟩ : ∃ L, cl[t]? = some L := ⟨_, List.getElem?_eq_getElem (by rw [hln.out]; exact hlt)⟩
   have HBW := hide hP.low
   obtain ⟨b, off, adl, capl, rfl, c0, hops⟩ := (HO.out.below (hP.low.mono nL)) t L hL
   have hkl := H30.out L (List.mem_of_getElem? hL)
   have HSU : Hid (cl.take (t + 1) = cl.take t ++ [L]) := hide (by rw [List.take_add_one, hL]; rfl)
   have HP1 := hide hP
   have HOP := hide hops
   have HLn : Hid (L.length <= 100) := hide (by omega)
   clear hP HP hL hkl hops
   obtain ⟨ric, hric, hrz, hrs, hrb⟩ := opRowInfo
   obtain ⟨LC, HLC, hLC⟩ : ∃ LC, Hid (LC = (cl.take t).length) /\ LC <= 11 := ⟨_, hide rfl, by rw [List.length_take]; omega⟩
   go_wp2_with (at_builtin; refine wpList_append_ops _ rfl _ _ rfl (L := L) (adl := adl) (capl := capl) rfl rfl HOP.out HLn.out ?_)
   intro v2 w2 hv2 hb2
   obtain ⟨au, cu, e3, -⟩ := ownsRow_shape hv2
   subst e3
   have HU : Hid (opsOwn w2 w.heap.size (.slice au L.length cu) L) := hide (opsOwn_mono hv2 HP1.out.bz)
   have HNE : Hid (∀ b, (Value.slice au L.length cu).ownBlock = some b -> v.ownBlock ≠ some b) := hide fun b e e2 => by
    have h1 := (World.ownsRow.lt hv2 b e).1
    have h2 := (HP1.out.own.lt b e2).2
    omega
   have HP3 := hide (HP1.out.below hb2)
   clear hv2 hb2 HP1 HOP HLn
   generalize hLl : L.length = lu at *
   have bel : Below w2.heap.size w2 (w2.alloc (.cells #[.slice au lu cu] 70)) := bRf.alloc nL _
   go_wp2_with (at_builtin; refine wpList_append_own_at _ rfl _ _ 22 rfl w.heap.size 70 ric (.slice none 0 0) 1 24 Tryz.underlying22 hric hrz hrs hrb rfl (by decide) v LC vs rfl ?p0 ⟨w2.heap.size, 0, none⟩ 1 1 [.slice au lu cu] rfl rfl ?p1 ?p2 ?p3 ?p4 ?p5 ?_)
   case p0 => rw [HLC.out]; exact (HP3.out.below bel).own
   case p1 =>
    intro k x hk
    cases k with
    | zero => cases hk; rw [Addr.add_lit]; simp
    | succ k => simp at hk
   case p2 =>
    intro x hx
    obtain rfl : x = .slice au lu cu := by simpa using hx
    rfl
   case p3 => unfold maxLen; omega
   case p4 => omega
   case p5 => have := HP3.out.bz; simp; omega
   intro v' w6 ho hg hnil hloc
   have HP6 : Hid (OpP w.heap.size w v' (vs ++ [.slice au lu cu]) (cl.take (t + 1)) w6) := hide (by
    rw [HSU.out]
    exact (HP3.out.below bel).add (opsOwn_keep HU.out bel) HNE.out (N := w2.heap.size + 1) (by simp) (by rw [<- HLC.out]; exact ho) hg hloc)
   clear ho hg hnil hloc HP3 HU HNE HSU bel HLC hLC hric hrz hrs hrb
   go_wp2_with fail
   go_roundw
   case rel => exact ⟨t + 1, by omega, by go_num, hide ⟨_, HP6.out⟩⟩
   case measure => simp [intOf]; omega
  ·obtain rfl : t = n := by omega
   have HTK : Hid (cl.take t = cl) := hide (by rw [<- hln.out, List.take_length])
   obtain ⟨ad', cap', e, hr⟩ := hP.rows
   rw [HTK.out] at hr
   have hlen : (cl.take t).length = t := by rw [HTK.out, hln.out]
   rw [hlen] at e
   subst e
   have HRR := hide hr
   have HBB := hide hP.low
   clear hP HP hr hlen
   go_wp2_with fail
   go_ret
   exact ⟨ad', cap', rfl, HRR.out, HBB.out⟩
end
section
open Go.RowKit Go.Extern.Stop Go.Stop Go.Extern Go.Maps Go.WideMaps Go.Sort
theorem many_any {ad : Option Addr} {cl : List (List OpI)} {cap : Nat} {w : World} (h : opRowsAt ad cl w) :
  Calls Tryz.prog 33 #[.slice ad cl.length cap] w fun e w' => e = .returned (.bool (fitB cl)) /\ w' = w := by
 by_cases h1 : cl.length < 1
 ·have hf : fitB cl = false := by unfold fitB; rw [decide_eq_false (by omega)]; rfl
  rw [hf]
  have i1 : (cl.length : Int) < 1 := by omega
  generalize cl.length = n at *
  clear h
  go_enter Tryz.func33, Tryz.ntmps33
  go_wp2_with fail
  go_ret
  exact ⟨rfl, rfl⟩
 ·have i1 : ¬ (cl.length : Int) < 1 := by omega
  by_cases h6 : 6 < cl.length
  ·have hf : fitB cl = false := by unfold fitB; rw [decide_eq_true (by omega), decide_eq_false (by omega)]; rfl
   rw [hf]
   have i2 : 6 < (cl.length : Int) := by omega
   generalize cl.length = n at *
   clear h
   go_enter Tryz.func33, Tryz.ntmps33
   go_wp2_with fail
   go_ret
   exact ⟨rfl, rfl⟩
  ·have hf : fitB cl = !(longTo cl cl.length) := by unfold fitB; rw [decide_eq_true (by omega), decide_eq_true (by omega)]; rfl
   rw [hf]
   have i2 : ¬ 6 < (cl.length : Int) := by omega
   have HH := hide h
   obtain ⟨n, hn⟩ : ∃ n, Hid (cl.length = n) := ⟨_, hide rfl⟩
   rw [hn.out] at i1 i2 ⊢
   clear h hf h1 h6
   go_enter Tryz.func33, Tryz.ntmps33
   go_wp2_with fail
   go_loopw [3] (fun i wr => ∃ j : Nat, j <= n /\ i = .int .i64 j /\ Hid (longTo cl j = false) /\ w = wr) (fun i _ => n - (intOf i).toNat)
   case atStart => exact ⟨0, Nat.zero_le _, rfl, hide rfl, (by first | rfl | trivial)⟩
   case round =>
    obtain ⟨j, hj, rfl, HA, rfl⟩ := hrel
    by_cases hlt : j < n
    ·have ji : (j : Int) < n := by omega
     obtain ⟨L, hL⟩ : ∃ L, cl[j]? = some L := ⟨_, List.getElem?_eq_getElem (by rw [hn.out]; exact hlt)⟩
     obtain ⟨b, off, adl, capl, rfl, c0, -⟩ := HH.out j L hL
     have HS := hide (longTo_succ hL)
     clear hL
     generalize hLn : L.length = ln at *
     by_cases he : 20 < ln
     ·have HA2 : Hid (longTo cl n = true) := hide (longTo_mono (show j + 1 <= n by omega) (by rw [HS.out, decide_eq_true he, Bool.or_true]))
      have hi : 20 < (ln : Int) := by omega
      clear HS HA he
      go_wp2_with fail
      go_ret
      exact ⟨by rw [HA2.out]; rfl, rfl⟩
     ·have HA2 : Hid (longTo cl (j + 1) = false) := hide (by rw [HS.out, HA.out, decide_eq_false he]; rfl)
      have hi : ¬ 20 < (ln : Int) := by omega
      clear HS HA he
      go_wp2_with fail
      go_roundw
      case rel => exact ⟨j + 1, by omega, by go_num, HA2, (by first | rfl | trivial)⟩
      case measure => simp [intOf]; omega
    ·obtain rfl : j = n := by omega
     go_wp2_with fail
     go_ret
     exact ⟨by rw [HA.out]; rfl, rfl⟩
def wtk (s : List UInt8) : Bool := (s == [119, 97, 105, 116]) || (s == [102, 108, 117, 115, 104])
def wtd (l : List OpI) (p j : Nat) : Bool := ((l.take j).drop p).any fun x => wtk x.kind.toList
theorem wtd_self (l : List OpI) (p : Nat) : wtd l p p = false := by
 unfold wtd
 rw [List.drop_eq_nil_of_le (by rw [List.length_take]; omega)]
 rfl
theorem wtd_succ {l : List OpI} {p j : Nat} {x : OpI} (h : l[j]? = some x) (hp : p <= j) : wtd l p (j + 1) = (wtd l p j || wtk x.kind.toList) := by
 unfold wtd
 have hj : j < l.length := (List.getElem?_eq_some_iff.1 h).1
 rw [List.take_add_one, h, List.drop_append_of_le_length (by rw [List.length_take]; omega), List.any_append]
 simp
theorem wtk_kn (s : List UInt8) : wtk s = (kn s == 5 || kn s == 9) := by
 unfold wtk
 rcases kcases s with ⟨h, hk⟩ | ⟨h, hk⟩ | ⟨h, hk⟩ | ⟨h, hk⟩ | ⟨h, hk⟩ | ⟨h, hk⟩ | ⟨h, hk⟩ | ⟨h, hk⟩ | ⟨h, hk⟩ | ⟨h, hk⟩
 all_goals
  rw [hk]
  obtain ⟨e1, e2, e3, e4, e5, e6, e7, e8, e9⟩ := h
  rw [e5, e9]
  rfl
structure TeAt (l : List OpI) (k : Nat) (s : CrI) (p : Int) : Prop where
 d0 : 0 <= s.deep
 dk : s.deep <= k
 put : (p = -1 /\ s.ret = false) ∨ ∃ q : Nat, p = q /\ q < k /\ s.ret = true /\ s.wt = wtd l q k
 fe : folE .first l = folE s (l.drop k)
 fs : folS .first l = folS s (l.drop k)
theorem te_first (l : List OpI) : TeAt l 0 .first (-1) := ⟨Int.le_refl _, Int.le_refl _, .inl ⟨rfl, rfl⟩, rfl, rfl⟩
theorem te_drop {l : List OpI} {k : Nat} {x : OpI} (hx : l[k]? = some x) : l.drop k = x :: l.drop (k + 1) := by
 have hk : k < l.length := (List.getElem?_eq_some_iff.1 hx).1
 have h2 := List.getElem?_eq_getElem hk
 rw [hx] at h2
 rw [List.drop_eq_getElem_cons hk, Option.some.inj h2]
theorem te_sh {l : List OpI} {k : Nat} {s : CrI} {p : Int} {x : OpI} (h : TeAt l k s p) (hx : l[k]? = some x) (h0 : shErr (kn x.kind.toList) x.n ≠ 0) : folE .first l = shErr (kn x.kind.toList) x.n := by
 rw [h.fe, te_drop hx]
 exact folE_sh h0
theorem te_ck {l : List OpI} {k : Nat} {s : CrI} {p : Int} {x : OpI} (h : TeAt l k s p) (hx : l[k]? = some x) (h0 : shErr (kn x.kind.toList) x.n = 0) (h1 : ckErr (kn x.kind.toList) s.deep s.ret ≠ 0) : folE .first l = ckErr (kn x.kind.toList) s.deep s.ret := by
 rw [h.fe, te_drop hx]
 exact folE_ck h0 h1
theorem te_end {l : List OpI} {s : CrI} {p : Int} (h : TeAt l l.length s p) : folE .first l = (if 0 < s.deep then 8 else 0) /\ folS .first l = s.sf := by
 have := h.fe
 have h2 := h.fs
 rw [List.drop_length] at this h2
 exact ⟨this, h2⟩
def nxP (i : Nat) (k : Nat) (p : Int) : Int := if i = 1 then (k : Int) else if i = 7 ∨ i = 8 then -1 else p
theorem te_pass {l : List OpI} {k : Nat} {s : CrI} {p : Int} {x : OpI} (h : TeAt l k s p) (hx : l[k]? = some x) (h0 : shErr (kn x.kind.toList) x.n = 0) (h1 : ckErr (kn x.kind.toList) s.deep s.ret = 0) : TeAt l (k + 1) (s.pass x) (nxP (kn x.kind.toList) k p) where
 d0 := by
  have hd := h.d0
  show 0 <= psDeep (kn x.kind.toList) s.deep
  unfold psDeep
  split
  ·omega
  split
  ·next h3 =>
   rw [h3] at h1
   by_cases hz : 0 < s.deep
   ·omega
   ·exact absurd h1 (by unfold ckErr; rw [if_pos (.inl rfl), if_neg hz]; decide)
  ·exact hd
 dk := by
  have hd := h.dk
  have hd0 := h.d0
  exact (psDeep_bound (kn x.kind.toList) s.deep (k := k) ⟨by omega, hd⟩).2
 put := by
  show (_ /\ psRet (kn x.kind.toList) s.ret = false) ∨ ∃ q : Nat, _ /\ _ /\ psRet (kn x.kind.toList) s.ret = true /\ psWt (kn x.kind.toList) s.wt = _
  have hw := wtk_kn x.kind.toList
  have hp := h.put
  generalize hi : kn x.kind.toList = i at *
  by_cases i1 : i = 1
  ·subst i1
   refine .inr ⟨k, rfl, by omega, rfl, ?_⟩
   rw [wtd_succ hx nL, wtd_self, hw]
   rfl
  by_cases i7 : i = 7 ∨ i = 8
  ·refine .inl ⟨?_, ?_⟩
   ·unfold nxP; rw [if_neg i1, if_pos i7]
   ·unfold psRet; rw [if_neg i1, if_pos i7]
  ·have e1 : nxP i k p = p := by unfold nxP; rw [if_neg i1, if_neg i7]
   have e2 : psRet i s.ret = s.ret := by unfold psRet; rw [if_neg i1, if_neg i7]
   rw [e1, e2]
   rcases hp with hp | ⟨q, q1, q2, q3, q4⟩
   ·exact .inl hp
   ·refine .inr ⟨q, q1, by omega, q3, ?_⟩
    rw [wtd_succ hx (by omega), hw, <- q4]
    unfold psWt
    by_cases i5 : i = 5 ∨ i = 9
    ·rw [if_pos i5]
     rcases i5 with rfl | rfl <;> simp
    ·rw [if_neg i5, if_neg i1]
     have a5 : (i == 5) = false := beq_eq_false_iff_ne.2 (fun e => i5 (.inl e))
     have a9 : (i == 9) = false := beq_eq_false_iff_ne.2 (fun e => i5 (.inr e))
     rw [a5, a9]
     simp
 fe := by
  rw [h.fe, te_drop hx]
  exact folE_go h0 h1
 fs := by
  rw [h.fs, te_drop hx]
  rfl
theorem terror_any {ad : Option Addr} {l : List OpI} {cap : Nat} {w : World} (ho : opsAt ad l w) (hl : l.length <= 30) :
  Calls Tryz.prog 34 #[.slice ad l.length cap] w fun e w' => e = .returned (.tuple #[.int .i64 (folE .first l), .bool (decide (folE .first l = 0) && folS .first l)]) /\ Below w.heap.size w w' := by
 obtain ⟨n, hn⟩ : ∃ n, Hid (l.length = n) := ⟨_, hide rfl⟩
 have HO := hide ho
 have H0 : Hid (TeAt l 0 .first (-1) /\ Below w.heap.size w w) := hide ⟨te_first l, Below.refl _ _⟩
 rw [hn.out] at hl ⊢
 clear ho
 go_enter Tryz.func34, Tryz.ntmps34
 go_wp2_with fail
 go_loopw [4, 5, 6, 7, 9, 10, 23, 33, 47, 51, 57, 63, 67, 76] (fun d p b i _ _ _ _ _ _ _ _ _ _ wr => ∃ (k : Nat) (s : CrI) (pp : Int), k <= n /\ d = .int .i64 s.deep /\ p = .int .i64 pp /\ b = .bool s.sf /\ i = .int .i64 k /\ Hid (TeAt l k s pp /\ Below w.heap.size w wr)) (fun _ _ _ i _ _ _ _ _ _ _ _ _ _ _ => n - (intOf i).toNat)
 case atStart => exact ⟨0, .first, -1, Nat.zero_le _, rfl, rfl, rfl, rfl, H0⟩
 case round =>
  clear H0
  obtain ⟨k, s, pp, hk, rfl, rfl, rfl, rfl, HR⟩ := hrel
  obtain ⟨hte, hbw⟩ := HR.out
  by_cases hlt : k < n
  ·have ki : (k : Int) < n := by omega
   obtain ⟨x, hx⟩ : ∃ x, l[k]? = some x := ⟨_, List.getElem?_eq_getElem (by rw [hn.out]; exact hlt)⟩
   have HX := hide hx
   have HOB := hide (HO.out.below hbw)
   obtain ⟨bo, off, rfl, c0, c1⟩ := HOB.out k x hx
   have HSH := hide (te_sh hte hx)
   have HCK := hide (te_ck hte hx)
   have HPA := hide (te_pass hte hx)
   have HPU := hide hte.put
   have HD0 := hide hte.d0
   have HDK := hide hte.dk
   obtain ⟨kd, nn⟩ := x
   obtain ⟨sd, sr, swt, ssf⟩ := s
   dsimp only at c0 c1 HSH HCK HPU HD0 HDK
   have HBX : Hid (Below w.heap.size w (wr.alloc (.cells #[.string kd, .int .i64 nn] 72))) := hide (hbw.alloc hbw.size _)
   have w1 : IntKind.i64.wrap (sd + 1) = sd + 1 := by have := HD0.out; have := HDK.out; rw [IntKind.wrap_i64]; omega
   have w2 : IntKind.i64.wrap (sd - 1) = sd - 1 := by have := HD0.out; have := HDK.out; rw [IntKind.wrap_i64]; omega
   clear hx hte hbw HR
   rcases kcases kd.toList with ⟨h, hkk⟩ | ⟨h, hkk⟩ | ⟨h, hkk⟩ | ⟨h, hkk⟩ | ⟨h, hkk⟩ | ⟨h, hkk⟩ | ⟨h, hkk⟩ | ⟨h, hkk⟩ | ⟨h, hkk⟩ | ⟨h, hkk⟩
   all_goals
    rw [hkk] at HSH HCK HPA
    have HKK := hide hkk
    clear hkk
    obtain ⟨e1, e2, e3, e4, e5, e6, e7, e8, e9⟩ := h
   ·by_cases hs1 : nn < 1
    ·have HFN : Hid (folE .first l = 2) := hide ((HSH.out (by simp [shErr, hs1])).trans (by simp [shErr, hs1]))
     clear HSH HCK HPA HPU HDK
     go_wp2_with fail
     go_ret2
     exact ⟨by rw [HFN.out]; rfl, HBX.out⟩
    by_cases hs2 : 1000 < nn
    ·have HFN : Hid (folE .first l = 2) := hide ((HSH.out (by simp [shErr, hs2])).trans (by simp [shErr, hs2]))
     clear HSH HCK HPA HPU HDK
     go_wp2_with fail
     go_ret2
     exact ⟨by rw [HFN.out]; rfl, HBX.out⟩
    have HS0 : Hid (shErr 1 nn = 0) := hide (by simp [shErr, hs1, hs2])
    by_cases hd : 0 < sd
    ·have HFN : Hid (folE .first l = 8) := hide ((HCK.out HS0.out (by simp [ckErr, hd])).trans (by simp [ckErr, hd]))
     clear HSH HCK HPA HPU HDK
     go_wp2_with fail
     go_ret2
     exact ⟨by rw [HFN.out]; rfl, HBX.out⟩
    rcases HPU.out with ⟨rfl, rfl⟩ | ⟨q, rfl, hq, rfl, hw⟩
    ·have HP2 := hide (HPA.out HS0.out (by simp [ckErr, hd]))
     clear HSH HCK HPA HPU HDK
     go_wp2_with fail
     go_roundw
     case rel => exact ⟨k + 1, _, _, by omega, by rw [CrI.pass]; dsimp only; rw [HKK.out]; rfl, rfl, by rw [CrI.pass]; dsimp only; rw [HKK.out]; simp, by go_num, hide ⟨HP2.out, HBX.out⟩⟩
     case measure => simp [intOf]; omega
    ·have q0 : (0 : Int) <= (q : Int) := Int.natCast_nonneg q
     have HFN : Hid (folE .first l = 8) := hide ((HCK.out HS0.out (by simp [ckErr])).trans (by simp [ckErr]))
     clear HSH HCK HPA HPU HDK hw
     go_wp2_with fail
     go_ret2
     exact ⟨by rw [HFN.out]; rfl, HBX.out⟩
   ·rcases (show (nn != 0) = true /\ nn ≠ 0 ∨ nn = 0 by by_cases h : nn = 0; (exact .inr h); (exact .inl ⟨bne_iff_ne.2 h, h⟩)) with ⟨hs, hs1⟩ | rfl
    ·have HFN : Hid (folE .first l = 3) := hide ((HSH.out (by simp [shErr, hs1])).trans (by simp [shErr, hs1]))
     clear HSH HCK HPA HPU HDK
     go_wp2_with fail
     go_ret2
     exact ⟨by rw [HFN.out]; rfl, HBX.out⟩
    have HP2 := hide (HPA.out rfl (by simp [ckErr]))
    clear HSH HCK HPA HPU HDK
    go_wp2_with fail
    go_roundw
    case rel => exact ⟨k + 1, _, _, by omega, by rw [CrI.pass]; dsimp only; rw [HKK.out]; rfl, rfl, by rw [CrI.pass]; dsimp only; rw [HKK.out]; simp, by go_num, hide ⟨HP2.out, HBX.out⟩⟩
    case measure => simp [intOf]; omega
   ·rcases (show (nn != 0) = true /\ nn ≠ 0 ∨ nn = 0 by by_cases h : nn = 0; (exact .inr h); (exact .inl ⟨bne_iff_ne.2 h, h⟩)) with ⟨hs, hs1⟩ | rfl
    ·have HFN : Hid (folE .first l = 3) := hide ((HSH.out (by simp [shErr, hs1])).trans (by simp [shErr, hs1]))
     clear HSH HCK HPA HPU HDK
     go_wp2_with fail
     go_ret2
     exact ⟨by rw [HFN.out]; rfl, HBX.out⟩
    by_cases hd : 0 < sd
    ·have hd2 : ¬ sd - 1 < 0 := by omega
     have HP2 := hide (HPA.out rfl (by simp [ckErr, hd]))
     clear HSH HCK HPA HPU HDK
     go_wp2_with fail
     go_roundw
     case rel => exact ⟨k + 1, _, _, by omega, by rw [CrI.pass]; dsimp only; rw [HKK.out]; rfl, rfl, by rw [CrI.pass]; dsimp only; rw [HKK.out]; simp, by go_num, hide ⟨HP2.out, HBX.out⟩⟩
     case measure => simp [intOf]; omega
    ·have hd2 : sd - 1 < 0 := by have := HD0.out; omega
     have HFN : Hid (folE .first l = 8) := hide ((HCK.out rfl (by simp [ckErr, hd])).trans (by simp [ckErr, hd]))
     clear HSH HCK HPA HPU HDK
     go_wp2_with fail
     go_ret2
     exact ⟨by rw [HFN.out]; rfl, HBX.out⟩
   ·rcases (show (nn != 0) = true /\ nn ≠ 0 ∨ nn = 0 by by_cases h : nn = 0; (exact .inr h); (exact .inl ⟨bne_iff_ne.2 h, h⟩)) with ⟨hs, hs1⟩ | rfl
    ·have HFN : Hid (folE .first l = 3) := hide ((HSH.out (by simp [shErr, hs1])).trans (by simp [shErr, hs1]))
     clear HSH HCK HPA HPU HDK
     go_wp2_with fail
     go_ret2
     exact ⟨by rw [HFN.out]; rfl, HBX.out⟩
    by_cases hd : 0 < sd
    ·have HFN : Hid (folE .first l = 8) := hide ((HCK.out rfl (by simp [ckErr, hd])).trans (by simp [ckErr, hd]))
     clear HSH HCK HPA HPU HDK
     go_wp2_with fail
     go_ret2
     exact ⟨by rw [HFN.out]; rfl, HBX.out⟩
    ·have HP2 := hide (HPA.out rfl (by simp [ckErr, hd]))
     clear HSH HCK HPA HPU HDK
     go_wp2_with fail
     go_roundw
     case rel => exact ⟨k + 1, _, _, by omega, by rw [CrI.pass]; dsimp only; rw [HKK.out]; rfl, rfl, by rw [CrI.pass]; dsimp only; rw [HKK.out]; simp, by go_num, hide ⟨HP2.out, HBX.out⟩⟩
     case measure => simp [intOf]; omega
   ·rcases (show (nn != 0) = true /\ nn ≠ 0 ∨ nn = 0 by by_cases h : nn = 0; (exact .inr h); (exact .inl ⟨bne_iff_ne.2 h, h⟩)) with ⟨hs, hs1⟩ | rfl
    ·have HFN : Hid (folE .first l = 3) := hide ((HSH.out (by simp [shErr, hs1])).trans (by simp [shErr, hs1]))
     clear HSH HCK HPA HPU HDK
     go_wp2_with fail
     go_ret2
     exact ⟨by rw [HFN.out]; rfl, HBX.out⟩
    by_cases hd : 0 < sd
    ·have HFN : Hid (folE .first l = 8) := hide ((HCK.out rfl (by simp [ckErr, hd])).trans (by simp [ckErr, hd]))
     clear HSH HCK HPA HPU HDK
     go_wp2_with fail
     go_ret2
     exact ⟨by rw [HFN.out]; rfl, HBX.out⟩
    ·have HP2 := hide (HPA.out rfl (by simp [ckErr, hd]))
     clear HSH HCK HPA HPU HDK
     go_wp2_with fail
     go_roundw
     case rel => exact ⟨k + 1, _, _, by omega, by rw [CrI.pass]; dsimp only; rw [HKK.out]; rfl, rfl, by rw [CrI.pass]; dsimp only; rw [HKK.out]; simp, by go_num, hide ⟨HP2.out, HBX.out⟩⟩
     case measure => simp [intOf]; omega
   ·rcases (show (nn != 0) = true /\ nn ≠ 0 ∨ nn = 0 by by_cases h : nn = 0; (exact .inr h); (exact .inl ⟨bne_iff_ne.2 h, h⟩)) with ⟨hs, hs1⟩ | rfl
    ·have HFN : Hid (folE .first l = 3) := hide ((HSH.out (by simp [shErr, hs1])).trans (by simp [shErr, hs1]))
     clear HSH HCK HPA HPU HDK
     go_wp2_with fail
     go_ret2
     exact ⟨by rw [HFN.out]; rfl, HBX.out⟩
    by_cases hd : 0 < sd
    ·have hd2 : (sd == 0) = false := beq_eq_false_iff_ne.2 (by omega)
     have HP2 := hide (HPA.out rfl (by simp [ckErr, hd]))
     clear HSH HCK HPA HPU HDK
     go_wp2_with fail
     go_roundw
     case rel => exact ⟨k + 1, _, _, by omega, by rw [CrI.pass]; dsimp only; rw [HKK.out]; rfl, rfl, by rw [CrI.pass]; dsimp only; rw [HKK.out]; simp, by go_num, hide ⟨HP2.out, HBX.out⟩⟩
     case measure => simp [intOf]; omega
    ·obtain rfl : sd = 0 := by have := HD0.out; omega
     have HFN : Hid (folE .first l = 8) := hide ((HCK.out rfl (by simp [ckErr])).trans (by simp [ckErr]))
     clear HSH HCK HPA HPU HDK
     go_wp2_with fail
     go_ret2
     exact ⟨by rw [HFN.out]; rfl, HBX.out⟩
   ·rcases (show (nn != 0) = true /\ nn ≠ 0 ∨ nn = 0 by by_cases h : nn = 0; (exact .inr h); (exact .inl ⟨bne_iff_ne.2 h, h⟩)) with ⟨hs, hs1⟩ | rfl
    ·have HFN : Hid (folE .first l = 3) := hide ((HSH.out (by simp [shErr, hs1])).trans (by simp [shErr, hs1]))
     clear HSH HCK HPA HPU HDK
     go_wp2_with fail
     go_ret2
     exact ⟨by rw [HFN.out]; rfl, HBX.out⟩
    rcases HPU.out with ⟨rfl, rfl⟩ | ⟨q, rfl, hq, rfl, hw⟩
    ·have HFN : Hid (folE .first l = 5) := hide ((HCK.out rfl (by simp [ckErr])).trans (by simp [ckErr]))
     clear HSH HCK HPA HPU HDK
     go_wp2_with fail
     go_ret2
     exact ⟨by rw [HFN.out]; rfl, HBX.out⟩
    ·have q0 : ¬ (q : Int) < 0 := by omega
     have HP2 := hide (HPA.out rfl (by simp [ckErr]))
     have HW := hide hw
     clear HSH HCK HPA HPU HDK hw
     go_wp2_with fail
     go_loopw [9, 10] (fun wv kv W => ∃ j : Nat, q <= j /\ j <= k /\ wv = .bool (wtd l q j) /\ kv = .int .i64 j /\ (wr.alloc (.cells #[.string kd, .int .i64 0] 72)) = W) (fun _ kv _ => k - (intOf kv).toNat)
     case atStart => exact ⟨q, Nat.le_refl _, by omega, by rw [wtd_self], rfl, (by first | rfl | trivial)⟩
     case round =>
      obtain ⟨j, hqj, hjk, rfl, rfl, rfl⟩ := hrel
      by_cases hjl : j < k
      ·have jk : (j : Int) < k := by omega
       have jn : (j : Int) < n := by omega
       obtain ⟨y, hy⟩ : ∃ y, l[j]? = some y := ⟨_, List.getElem?_eq_getElem (by rw [hn.out]; omega)⟩
       obtain ⟨bo2, off2, eb, y0, -⟩ := (HOB.out.below ((Below.refl _ wr).alloc nL (.cells #[.string kd, .int .i64 0] 72))) j y hy
       cases eb
       have HS := hide (wtd_succ hy hqj)
       obtain ⟨yk, yn⟩ := y
       dsimp only at y0 HS
       clear hy
       generalize wtd l q j = wj at *
       cases y5 : (yk.toList == [119, 97, 105, 116])
       ·cases y9 : (yk.toList == [102, 108, 117, 115, 104])
        ·go_wp2_with fail
         go_roundw
         case rel => exact ⟨j + 1, by omega, by omega, by rw [HS.out]; unfold wtk; simp [*], by go_num, (by first | rfl | trivial)⟩
         case measure => simp [intOf]; omega
        ·go_wp2_with fail
         go_roundw
         case rel => exact ⟨j + 1, by omega, by omega, by rw [HS.out]; unfold wtk; simp [*], by go_num, (by first | rfl | trivial)⟩
         case measure => simp [intOf]; omega
       ·go_wp2_with fail
        go_roundw
        case rel => exact ⟨j + 1, by omega, by omega, by rw [HS.out]; unfold wtk; simp [*], by go_num, (by first | rfl | trivial)⟩
        case measure => simp [intOf]; omega
      ·obtain rfl : j = k := by omega
       have HWJ := hide HW.out.symm
       generalize wtd l q j = wj at *
       obtain rfl := HWJ.out
       cases wj
       ·go_wp2_with fail
        go_roundw
        case rel => exact ⟨j + 1, _, _, by omega, by rw [CrI.pass]; dsimp only; rw [HKK.out]; rfl, rfl, by rw [CrI.pass]; dsimp only; rw [HKK.out]; simp, by go_num, hide ⟨HP2.out, HBX.out⟩⟩
        case measure => simp [intOf]; omega
       ·go_wp2_with fail
        go_roundw
        case rel => exact ⟨j + 1, _, _, by omega, by rw [CrI.pass]; dsimp only; rw [HKK.out]; rfl, rfl, by rw [CrI.pass]; dsimp only; rw [HKK.out]; simp, by go_num, hide ⟨HP2.out, HBX.out⟩⟩
        case measure => simp [intOf]; omega
   ·rcases (show (nn != 0) = true /\ nn ≠ 0 ∨ nn = 0 by by_cases h : nn = 0; (exact .inr h); (exact .inl ⟨bne_iff_ne.2 h, h⟩)) with ⟨hs, hs1⟩ | rfl
    ·have HFN : Hid (folE .first l = 3) := hide ((HSH.out (by simp [shErr, hs1])).trans (by simp [shErr, hs1]))
     clear HSH HCK HPA HPU HDK
     go_wp2_with fail
     go_ret2
     exact ⟨by rw [HFN.out]; rfl, HBX.out⟩
    rcases HPU.out with ⟨rfl, rfl⟩ | ⟨q, rfl, hq, rfl, hw⟩
    ·have HFN : Hid (folE .first l = 5) := hide ((HCK.out rfl (by simp [ckErr])).trans (by simp [ckErr]))
     clear HSH HCK HPA HPU HDK
     go_wp2_with fail
     go_ret2
     exact ⟨by rw [HFN.out]; rfl, HBX.out⟩
    ·have q0 : ¬ (q : Int) < 0 := by omega
     have HP2 := hide (HPA.out rfl (by simp [ckErr]))
     have HW := hide hw
     clear HSH HCK HPA HPU HDK hw
     go_wp2_with fail
     go_loopw [9, 10] (fun wv kv W => ∃ j : Nat, q <= j /\ j <= k /\ wv = .bool (wtd l q j) /\ kv = .int .i64 j /\ (wr.alloc (.cells #[.string kd, .int .i64 0] 72)) = W) (fun _ kv _ => k - (intOf kv).toNat)
     case atStart => exact ⟨q, Nat.le_refl _, by omega, by rw [wtd_self], rfl, (by first | rfl | trivial)⟩
     case round =>
      obtain ⟨j, hqj, hjk, rfl, rfl, rfl⟩ := hrel
      by_cases hjl : j < k
      ·have jk : (j : Int) < k := by omega
       have jn : (j : Int) < n := by omega
       obtain ⟨y, hy⟩ : ∃ y, l[j]? = some y := ⟨_, List.getElem?_eq_getElem (by rw [hn.out]; omega)⟩
       obtain ⟨bo2, off2, eb, y0, -⟩ := (HOB.out.below ((Below.refl _ wr).alloc nL (.cells #[.string kd, .int .i64 0] 72))) j y hy
       cases eb
       have HS := hide (wtd_succ hy hqj)
       obtain ⟨yk, yn⟩ := y
       dsimp only at y0 HS
       clear hy
       generalize wtd l q j = wj at *
       cases y5 : (yk.toList == [119, 97, 105, 116])
       ·cases y9 : (yk.toList == [102, 108, 117, 115, 104])
        ·go_wp2_with fail
         go_roundw
         case rel => exact ⟨j + 1, by omega, by omega, by rw [HS.out]; unfold wtk; simp [*], by go_num, (by first | rfl | trivial)⟩
         case measure => simp [intOf]; omega
        ·go_wp2_with fail
         go_roundw
         case rel => exact ⟨j + 1, by omega, by omega, by rw [HS.out]; unfold wtk; simp [*], by go_num, (by first | rfl | trivial)⟩
         case measure => simp [intOf]; omega
       ·go_wp2_with fail
        go_roundw
        case rel => exact ⟨j + 1, by omega, by omega, by rw [HS.out]; unfold wtk; simp [*], by go_num, (by first | rfl | trivial)⟩
        case measure => simp [intOf]; omega
      ·obtain rfl : j = k := by omega
       have HWJ := hide HW.out.symm
       generalize wtd l q j = wj at *
       obtain rfl := HWJ.out
       go_wp2_with fail
       go_roundw
       case rel => exact ⟨j + 1, _, _, by omega, by rw [CrI.pass]; dsimp only; rw [HKK.out]; rfl, rfl, by rw [CrI.pass]; dsimp only; rw [HKK.out]; simp, by go_num, hide ⟨HP2.out, HBX.out⟩⟩
       case measure => simp [intOf]; omega
   ·rcases (show (nn != 0) = true /\ nn ≠ 0 ∨ nn = 0 by by_cases h : nn = 0; (exact .inr h); (exact .inl ⟨bne_iff_ne.2 h, h⟩)) with ⟨hs, hs1⟩ | rfl
    ·have HFN : Hid (folE .first l = 3) := hide ((HSH.out (by simp [shErr, hs1])).trans (by simp [shErr, hs1]))
     clear HSH HCK HPA HPU HDK
     go_wp2_with fail
     go_ret2
     exact ⟨by rw [HFN.out]; rfl, HBX.out⟩
    by_cases hd : 0 < sd
    ·have HFN : Hid (folE .first l = 8) := hide ((HCK.out rfl (by simp [ckErr, hd])).trans (by simp [ckErr, hd]))
     clear HSH HCK HPA HPU HDK
     go_wp2_with fail
     go_ret2
     exact ⟨by rw [HFN.out]; rfl, HBX.out⟩
    ·have HP2 := hide (HPA.out rfl (by simp [ckErr, hd]))
     clear HSH HCK HPA HPU HDK
     go_wp2_with fail
     go_roundw
     case rel => exact ⟨k + 1, _, _, by omega, by rw [CrI.pass]; dsimp only; rw [HKK.out]; rfl, rfl, by rw [CrI.pass]; dsimp only; rw [HKK.out]; simp, by go_num, hide ⟨HP2.out, HBX.out⟩⟩
     case measure => simp [intOf]; omega
   ·have HFN : Hid (folE .first l = 3) := hide ((HSH.out (by simp [shErr])).trans (by simp [shErr]))
    clear HSH HCK HPA HPU HDK
    go_wp2_with fail
    go_ret2
    exact ⟨by rw [HFN.out]; rfl, HBX.out⟩
  ·obtain rfl : k = n := by omega
   have HEN : Hid (folE .first l = (if 0 < s.deep then 8 else 0) /\ folS .first l = s.sf) := hide (te_end (p := pp) (by rw [hn.out]; exact hte))
   have HB := hide hbw
   obtain ⟨sd, sr, swt, ssf⟩ := s
   dsimp only at HEN
   clear hte hbw HR
   by_cases hd : 0 < sd
   ·have HFN : Hid (folE .first l = 8) := hide (HEN.out.1.trans (if_pos hd))
    go_wp2_with fail
    go_ret2
    exact ⟨by rw [HFN.out]; rfl, HB.out⟩
   ·have HFN : Hid (folE .first l = 0) := hide (HEN.out.1.trans (if_neg hd))
    go_wp2_with fail
    go_ret2
    exact ⟨by rw [HFN.out, HEN.out.2]; rfl, HB.out⟩
end
end Go.Proofs.YtaiigfcfmcicjaaGreatDoor
