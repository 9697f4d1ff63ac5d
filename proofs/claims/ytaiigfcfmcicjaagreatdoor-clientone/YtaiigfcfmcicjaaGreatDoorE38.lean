import Derived.Test.YtaiigfcfmcicjaaGreatDoorE36
import Derived.Test.YtaiigfcfmcicjaaGreatDoorE35
import Derived.Test.YtaiigfcfmcicjaaGreatDoorE37
import Derived.Test.YtaiigfcfmcicjaaGreatDoorE34
namespace Go.Proofs.YtaiigfcfmcicjaaGreatDoor
set_option maxRecDepth 100000
set_option maxHeartbeats 8000000
section
open Go.RowKit
theorem wd_zero : Wd 0 := ⟨by decide, by decide⟩
theorem rowAt_wd {R : List (List Int)} {n : Nat} (h : rowsOk n R = true) (t r : Nat) : Wd (rowAt R t r) := by
 unfold rowAt
 cases ht : R[t]? with
 | none =>
  have e : R.getD t [] = [] := by rw [List.getD_eq_getElem?_getD, ht]; rfl
  rw [e]; exact wd_zero
 | some row =>
  have e : R.getD t [] = row := by rw [List.getD_eq_getElem?_getD, ht]; rfl
  rw [e]
  cases hr : row[r]? with
  | none => rw [List.getD_eq_getElem?_getD, hr]; exact wd_zero
  | some v => rw [List.getD_eq_getElem?_getD, hr]; exact (rowOk_at h ht).2 r v hr
theorem Sta.mach_ok {s : Sta} {n : Nat} (h : s.fits n = true) (h2 : s.cells <= 64) (hn : n <= 6) : MkOk n 1 (s.mach n) := by
 obtain ⟨-, f2, -, f4⟩ := Sta.fits_of h
 refine ⟨⟨fun t _ x hx => ?_, fun t _ => ?_, fun c k => ?_, fun c => ?_, ?_, hn⟩, rfl, fun t r => rowAt_wd f4 t r, Nat.zero_le _, Nat.zero_le _, fun _ => Nat.zero_le _⟩
 ·exact absurd hx List.not_mem_nil
 ·exact Nat.zero_le _
 ·show Wd (if _ then rowAt s.init c k else 0)
  split
  ·exact rowAt_wd f2 c k
  ·exact wd_zero
 ·show (if c < s.init.length then 1 else 0) <= 1
  split <;> decide
 ·show s.cells.toNat <= 64
  omega
end
section
open Go.RowKit
def hubQ (f : Nat) : List Int := [1, if f = 4 then 0 else 4, 0, 0]
def ownQ (f n t : Nat) : List Int := [if f = 3 then 1 else 0, if f = 4 then 0 else if t + 1 < n then (t : Int) + 5 else 0, 0, 0]
def initQ (f n : Nat) : List (List Int) := [1, 0, 0, 0] :: [1, 0, 0, 0] :: hubQ f :: (List.range n).map (ownQ f n)
def regQ (t : Nat) : List Int := [0, 0, 0, 0, 0, 2, (t : Int) + 4, 3]
theorem clSta_is {f n : Nat} (hf : 1 <= f /\ f <= 4) (h1 : 1 <= n) (h6 : n <= 6) : clSta f n = ⟨64, initQ f n, (List.range n).map regQ⟩ := by
 have key : ∀ (f : Fin 5) (n : Fin 7), 1 <= f.val -> 1 <= n.val -> graceI f.val (clCells.map pad4) n.val = initQ f.val n.val /\ rowsG 2 n.val n.val = (List.range n.val).map regQ := by decide +kernel
 obtain ⟨h3, h2⟩ := key ⟨f, by omega⟩ ⟨n, by omega⟩ hf.1 h1
 show (⟨64, graceI f (clCells.map pad4) n, rowsG 2 n n⟩ : Sta) = _
 have h3 : graceI f (clCells.map pad4) n = initQ f n := h3
 have h2 : rowsG 2 n n = (List.range n).map regQ := h2
 rw [h3, h2]
def clM (f n : Nat) : Mk := (⟨64, initQ f n, (List.range n).map regQ⟩ : Sta).mach n
theorem clM_is {f n : Nat} (hf : 1 <= f /\ f <= 4) (h1 : 1 <= n) (h6 : n <= 6) : (clSta f n).mach n = clM f n := by rw [clSta_is hf h1 h6]; rfl
theorem cl_right {f : Nat} (hf : 1 <= f /\ f <= 4) {cl : List (List OpI)} (h : (eachE cl).1 = 0) : Right (cl.map (clC f)) := by
 obtain ⟨-, h6, h1, -⟩ := eachE_ok h
 refine right_of (fun t L ht => ?_) (by rw [List.length_map]; exact h1) (by rw [List.length_map]; exact h6) (fun t L ht i x hx => ?_)
 ·rw [List.getElem?_map] at ht
  cases hc : cl[t]? with
  | none => rw [hc] at ht; cases ht
  | some c =>
   rw [hc] at ht
   cases ht
   obtain ⟨k1, k2⟩ := eachE_sh h c (List.mem_of_getElem? hc)
   rw [clC_good hf k1 k2]
 ·rw [List.getElem?_map] at ht
  cases hc : cl[t]? with
  | none => rw [hc] at ht; cases ht
  | some c =>
   rw [hc] at ht
   cases ht
   obtain ⟨k1, k2⟩ := eachE_sh h c (List.mem_of_getElem? hc)
   have hm := List.mem_of_getElem? hx
   have hm : x ∈ opsC f c c.length ++ (gCode clGone (gGone f) ++ [stopI]) := hm
   rcases List.mem_append.1 hm with hm | hm
   ·have key : ∀ k, k <= c.length -> ∀ y ∈ opsC f c k, y.to.size <= maxLen := by
     intro k
     induction k with
     | zero => intro _ y hy; exact absurd (show y ∈ ([] : List Ins) from hy) List.not_mem_nil
     | succ k ih =>
      intro hk y hy
      obtain ⟨z, hz⟩ : ∃ z, c[k]? = some z := ⟨_, List.getElem?_eq_getElem (by omega)⟩
      rw [opsC_succ hz] at hy
      rcases List.mem_append.1 hy with hy | hy
      ·exact ih (by omega) y hy
      ·obtain ⟨u, hu, rfl⟩ := List.mem_map.1 hy
       have hb := clP_blk hf (k1 z (List.mem_of_getElem? hz))
       cases hlb : lbOp u.op
       ·rw [namedI_no hlb]
        have := hb.no u hu hlb
        rw [size_bl, this]
        exact Nat.zero_le _
       ·rw [namedI_yes hlb]
        have h1 := (hb.labs u hu hlb).2
        have h2 : (itB k).size <= 2 := by unfold itB; split <;> (show _ <= 2; simp [ByteArray.size])
        show (u.to ++ thDot ++ itB k).size <= maxLen
        rw [ByteArray.size_append, ByteArray.size_append]
        have h3 : thDot.size = 1 := rfl
        unfold maxLen
        omega
    exact key _ nL x hm
   ·have hg : ∀ g : Fin 4, ((gCode clGone (gGone (g.val + 1)) ++ [stopI]).all fun x => decide (x.to.size <= maxLen)) = true := by decide +kernel
    have := hg ⟨f - 1, by omega⟩
    dsimp only at this
    rw [show f - 1 + 1 = f by omega] at this
    exact of_decide_eq_true (List.all_eq_true.1 this x hm)
end
section
open Go.RowKit Go.Extern.Stop Go.Stop Go.Extern Go.Maps Go.WideMaps Go.Sort
def kbEnter : ByteArray := ⟨#[101, 110, 116, 101, 114]⟩
def kbRead : ByteArray := ⟨#[114, 101, 97, 100]⟩
def kbLeave : ByteArray := ⟨#[108, 101, 97, 118, 101]⟩
theorem kn_enter : kn kbEnter.toList = 2 := by unfold kbEnter; rw [toList_bl]; rfl
theorem kn_read : kn kbRead.toList = 6 := by unfold kbRead; rw [toList_bl]; rfl
theorem kn_leave : kn kbLeave.toList = 3 := by unfold kbLeave; rw [toList_bl]; rfl
def cl0 : List (List OpI) := [[⟨kbEnter, 0⟩, ⟨kbRead, 0⟩, ⟨kbLeave, 0⟩]]
theorem each_cl0 : (eachE cl0).1 = 0 := by
 unfold eachE
 rw [if_pos (show fitB cl0 = true by decide)]
 simp [cl0, eachFrom, folE, kn_enter, kn_read, kn_leave, shErr, ckErr, CrI.pass, CrI.first, psDeep, psRet, psWt]
theorem each_nil1 : (eachE [[]]).1 = 0 := by decide
theorem opsAt_new {w : World} {l : List OpI} {cs : Array Value} {t : TypeId} (h : cs.toList = l.flatMap fun x => [.string x.kind, .int .i64 x.n]) : opsAt (some ⟨w.heap.size, 0, none⟩) l (w.alloc (.cells cs t)) := by
 have hat : ∀ (l : List OpI) (i j : Nat) (x : OpI), l[i]? = some x -> j < 2 -> (l.flatMap fun x => ([.string x.kind, .int .i64 x.n] : List Value))[i * 2 + j]? = ([.string x.kind, .int .i64 x.n] : List Value)[j]? := fun l => by
  induction l with
  | nil => intro i j x h _; simp at h
  | cons y l ih =>
   intro i j x h hj
   cases i with
   | zero =>
    cases h
    show ([.string y.kind, .int .i64 y.n] ++ _ : List Value)[0 * 2 + j]? = _
    rw [List.getElem?_append_left (by show 0 * 2 + j < 2; omega), Nat.zero_mul, Nat.zero_add]
   | succ i =>
    show ([.string y.kind, .int .i64 y.n] ++ _ : List Value)[(i + 1) * 2 + j]? = _
    rw [List.getElem?_append_right (by show 2 <= _; omega), show (i + 1) * 2 + j - ([.string y.kind, .int .i64 y.n] : List Value).length = i * 2 + j by show _ - 2 = _; omega]
    exact ih i j x (by simpa using h) hj
 intro i x hx
 have key : ∀ j, j < 2 -> (w.alloc (.cells cs t)).cell? ⟨w.heap.size, i * 2 + j, none⟩ = ([.string x.kind, .int .i64 x.n] : List Value)[j]? := fun j hj => by
  rw [World.cell?_alloc_new, <- hat l i j x hx hj, <- h]
  simp
 refine ⟨w.heap.size, 0, rfl, ?_, ?_⟩
 ·rw [show 0 + i * 2 = i * 2 + 0 by omega]; exact key 0 (by decide)
 ·rw [show 0 + i * 2 + 1 = i * 2 + 1 by omega]; exact key 1 (by decide)
theorem opRowsAt_one {w : World} {L : List OpI} {adl : Option Addr} {n capl : Nat} {t : TypeId} (hn : L.length = n) (h : opsAt adl L w) : opRowsAt (some ⟨w.heap.size, 0, none⟩) [L] (w.alloc (.cells #[.slice adl n capl] t)) := by
 subst hn
 intro i M hM
 cases i with
 | zero =>
  cases hM
  exact ⟨_, 0, adl, capl, rfl, by rw [World.cell?_alloc_new]; rfl, h.below (bRf.alloc nL _)⟩
 | succ i => simp at hM
theorem built_any {a : Nat -> Addr} {w : World} (hE : EnvL a w) :
  Calls Tryz.prog 8 #[] w fun e w' => e = .returned (.bool true) /\ Below w.heap.size w w' := by
 have hA1 : Below w.heap.size w (w.alloc (.cells #[.string ⟨#[101, 110, 116, 101, 114]⟩, .int .i64 0, .string ⟨#[114, 101, 97, 100]⟩, .int .i64 0, .string ⟨#[108, 101, 97, 118, 101]⟩, .int .i64 0] 72)) := bRf.alloc nL _
 have hA2 : Below w.heap.size w ((w.alloc (.cells #[.string ⟨#[101, 110, 116, 101, 114]⟩, .int .i64 0, .string ⟨#[114, 101, 97, 100]⟩, .int .i64 0, .string ⟨#[108, 101, 97, 118, 101]⟩, .int .i64 0] 72)).alloc (.cells #[.slice (some ⟨w.heap.size, 0, none⟩) 3 3] 70)) := hA1.alloc (by simp) _
 have hr : opRowsAt (some ⟨w.heap.size + 1, 0, none⟩) cl0 ((w.alloc (.cells #[.string ⟨#[101, 110, 116, 101, 114]⟩, .int .i64 0, .string ⟨#[114, 101, 97, 100]⟩, .int .i64 0, .string ⟨#[108, 101, 97, 118, 101]⟩, .int .i64 0] 72)).alloc (.cells #[.slice (some ⟨w.heap.size, 0, none⟩) 3 3] 70)) := by
  have h1 := opsAt_new (w := w) (l := [⟨kbEnter, 0⟩, ⟨kbRead, 0⟩, ⟨kbLeave, 0⟩]) (cs := #[.string ⟨#[101, 110, 116, 101, 114]⟩, .int .i64 0, .string ⟨#[114, 101, 97, 100]⟩, .int .i64 0, .string ⟨#[108, 101, 97, 118, 101]⟩, .int .i64 0]) (t := 72) rfl
  have h2 := opRowsAt_one (n := 3) (capl := 3) (t := 70) rfl h1
  rw [World.size_alloc] at h2
  exact h2
 have HBU := hide (clbuild_ok (f := 1) (cap := 1) (by decide) (hE.below hA2.block) hr each_cl0)
 rw [show cl0.length = 1 from rfl, show ((1 : Nat) : Int) = 1 from rfl] at HBU
 have HA2 := hide hA2
 have HE := hide hE
 have HI := hide (graceI_len 1 (clCells.map pad4) 1)
 clear hA1 hA2 hr hE
 generalize graceI 1 (clCells.map pad4) 1 = II at *
 generalize rowsG 2 1 1 = RR at *
 go_enter Tryz.func8, Tryz.ntmps8
 go_wp2_with fail
 refine HBU.out.mono ?_
 rintro e w2 ⟨base, sb, iv, vs, rv, rs, vc, ks, B, rfl, hT5, hK5, -, -, hbw⟩
 have HB2 := hide (below_step HA2.out hbw)
 obtain ⟨ai, ci, eiv, -⟩ := ownsRow_shape hT5.oi
 obtain ⟨ar, cr, erv, -⟩ := ownsRow_shape hT5.or'
 obtain ⟨ax, cx, evc, hcx⟩ := hK5.codes
 have hl1 : (cl0.map (clC 1)).length = 1 := rfl
 rw [hl1] at evc
 subst eiv
 subst erv
 subst evc
 clear hT5 hK5 hbw hcx hl1 HBU HA2
 generalize hI : II.length = iL at *
 generalize hR : RR.length = rL at *
 have HB4 : Hid (Below w.heap.size w (((w2.alloc (.cells #[.int .i64 64, .slice ai iL ci, .slice ar rL cr] 38)).alloc (.cells #[] 72)).alloc (.cells #[.slice (some ⟨w2.heap.size + 1, 0, none⟩) 0 0] 70))) := hide (((HB2.out.alloc HB2.out.size _).alloc (by have := HB2.out.size; simp; omega) _).alloc (by have := HB2.out.size; simp; omega) _)
 have HR4 : Hid (opRowsAt (some ⟨w2.heap.size + 1 + 1, 0, none⟩) [[]] (((w2.alloc (.cells #[.int .i64 64, .slice ai iL ci, .slice ar rL cr] 38)).alloc (.cells #[] 72)).alloc (.cells #[.slice (some ⟨w2.heap.size + 1, 0, none⟩) 0 0] 70))) := hide (by
  have h2 := opRowsAt_one (w := (w2.alloc (.cells #[.int .i64 64, .slice ai iL ci, .slice ar rL cr] 38)).alloc (.cells #[] 72)) (L := []) (adl := some ⟨w2.heap.size + 1, 0, none⟩) (n := 0) (capl := 0) (t := 70) rfl (fun i x hx => by simp at hx)
  rw [World.size_alloc, World.size_alloc] at h2
  exact h2)
 have HCH := hide (clcheck_ok (cap := 1) (HE.out.below HB4.out.block) HR4.out)
 rw [show ([[]] : List (List OpI)).length = 1 from rfl] at HCH
 go_wp2_with fail
 refine HCH.out.mono ?_
 rintro e w5 ⟨v, rfl, he, hb5⟩
 obtain rfl : v = .nilIface := by
  rcases he with ⟨-, e⟩ | ⟨h, -⟩ | ⟨h, -⟩
  ·exact e
  ·exact absurd each_nil1 h
  ·exact absurd each_nil1 h
 have HB5 := hide (below_step HB4.out hb5)
 clear he hb5 HCH HR4
 go_wp2_with fail
 go_ret
 exact ⟨rfl, HB5.out⟩
end
end Go.Proofs.YtaiigfcfmcicjaaGreatDoor
