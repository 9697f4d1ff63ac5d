import Derived.Test.YtaiigfcfmcicjaaGreatDoorE34
import Derived.Test.YtaiigfcfmcicjaaGreatDoorE39
import Derived.Test.YtaiigfcfmcicjaaGreatDoorE44
import Derived.Test.YtaiigfcfmcicjaaGreatDoorE38
import Derived.Test.YtaiigfcfmcicjaaGreatDoorE23
import Derived.Deep.RegionHeld3
import Derived.Test.YtaiigfcfmcicjaaGreatDoorE28
import Derived.BigQuiet
import Derived.Test.YtaiigfcfmcicjaaGreatDoorE01
import Derived.Test.YtaiigfcfmcicjaaGreatDoorE13
import Derived.Deep.Slices
import Derived.Lib.SmallJoins
namespace Go.Proofs.YtaiigfcfmcicjaaGreatDoor
set_option maxRecDepth 100000
set_option maxHeartbeats 8000000
section
open Go.RowKit Go.Extern.Stop Go.Stop Go.Extern Go.Maps Go.WideMaps Go.Sort
def ocell (x : OpI) : List Value := [.string x.kind, .int .i64 x.n]
def ocells (l : List OpI) : List Value := l.flatMap ocell
theorem ocells_len (l : List OpI) : (ocells l).length = l.length * 2 := by
 induction l with
 | nil => rfl
 | cons x l ih =>
  show (ocell x ++ ocells l).length = _
  rw [List.length_append, ih, List.length_cons]
  show 2 + _ = _
  omega
theorem ocells_at : ∀ (l : List OpI) (i j : Nat) (x : OpI), l[i]? = some x -> j < 2 -> (ocells l)[i * 2 + j]? = (ocell x)[j]?
 | [], i, j, x, h, _ => by simp at h
 | y :: l, 0, j, x, h, hj => by
  cases h
  show (ocell _ ++ ocells l)[0 * 2 + j]? = _
  rw [List.getElem?_append_left (by show 0 * 2 + j < 2; omega), Nat.zero_mul, Nat.zero_add]
 | y :: l, i + 1, j, x, h, hj => by
  show (ocell y ++ ocells l)[(i + 1) * 2 + j]? = _
  rw [List.getElem?_append_right (by show 2 <= _; omega), show (i + 1) * 2 + j - (ocell y).length = i * 2 + j by show _ - 2 = _; omega]
  exact ocells_at l i j x (by simpa using h) hj
theorem ocells_one {l : List OpI} : ∀ u ∈ ocells l, u.oneCell' = true := fun u hu => by
 obtain ⟨x, -, h⟩ := List.mem_flatMap.1 hu
 simp only [ocell, List.mem_cons, List.not_mem_nil, or_false] at h
 rcases h with rfl | rfl <;> rfl
theorem opsAt_cells {b off : Nat} {l : List OpI} {w : World} (h : opsAt (some ⟨b, off, none⟩) l w) (k : Nat) (u : Value) (hu : (ocells l)[k]? = some u) : w.cell? ⟨b, off + k, none⟩ = some u := by
 have hk := (List.getElem?_eq_some_iff.1 hu).1
 rw [ocells_len] at hk
 obtain ⟨x, hx⟩ : ∃ x, l[k / 2]? = some x := ⟨_, List.getElem?_eq_getElem (by omega)⟩
 obtain ⟨b', off', e, h0, h1⟩ := h _ x hx
 cases e
 have e := ocells_at l (k / 2) (k % 2) x hx (Nat.mod_lt _ (by decide))
 rw [show k / 2 * 2 + k % 2 = k by omega, hu] at e
 have h5 : k % 2 < 2 := Nat.mod_lt _ (by decide)
 rw [show off + k = off + k / 2 * 2 + k % 2 by omega]
 generalize k % 2 = j at *
 match j, h5, e with
 | 0, _, e => cases e; exact h0
 | 1, _, e => cases e; exact h1
theorem opsAt_of_ocells {w : World} {base : Nat} {e : TypeId} {l : List OpI} {v : Value} (h : w.ownsRow base e 2 v l.length (ocells l)) : ∃ ad cap, v = .slice ad l.length cap /\ opsAt ad l w := by
 obtain ⟨g, c, rfl, h1, h2, h3⟩ := ownsRow_shape h
 refine ⟨g, c, rfl, fun i x hx => ?_⟩
 have key : ∀ j, j < 2 -> ∀ u, (ocell x)[j]? = some u -> ∃ b off, g = some ⟨b, off, none⟩ /\ w.cell? ⟨b, off + (i * 2 + j), none⟩ = some u := fun j hj u hu => by
  rw [<- ocells_at l i j x hx hj] at hu
  obtain ⟨gg, e, hc⟩ := h3 _ _ hu
  exact ⟨gg, 0, e, by rw [Nat.zero_add]; exact hc⟩
 obtain ⟨b, off, rfl, k0⟩ := key 0 (by decide) _ rfl
 obtain ⟨_, _, e1, k1⟩ := key 1 (by decide) _ rfl
 cases e1
 exact ⟨b, off, rfl, k0, k1⟩
theorem opInfo : ∃ i, (Tryz.prog).info? 72 = some i /\ i.zero = some (.agg #[.string ⟨#[]⟩, .int .i64 0]) /\ i.size = 2 /\ i.bytes = 24 := info_parts (by kernel_rfl)
def opsOwn (w : World) (base : Nat) (v : Value) (l : List OpI) : Prop := w.ownsRow base 72 2 v l.length (ocells l)
theorem opsOwn_keep {w w' : World} {base : Nat} {v : Value} {l : List OpI} (h : opsOwn w base v l) (k : Below w.heap.size w w') : opsOwn w' base v l :=
 ownsRow_block h (fun b hb => k.block b (h.lt b hb).2)
theorem opsOwn_kept {w w' : World} {base : Nat} {v : Value} {l : List OpI} {ob : Option Nat} (h : opsOwn w base v l) (hg : w.grownBy w' ob) (hne : v.ownBlock = none ∨ v.ownBlock ≠ ob) : opsOwn w' base v l := World.ownsRow.kept h hg hne
end
section
open Go.RowKit Go.Extern.Stop Go.Stop Go.Extern Go.Maps Go.WideMaps Go.Sort
theorem ocells_app (a b : List OpI) : ocells (a ++ b) = ocells a ++ ocells b := by simp [ocells]
theorem wpList_append_opsO {ops : Array Oper} {rest : List Oper} {o : Oper} {a : Act} (w : World) {Q : Exit -> Act -> World -> Prop} (hgd : o.guard = none) (s x : Operand)
  (ho : o.op = .call { callee := .builtin .append, args := #[s, x], argTypes := #[70, 70] }) (base : Nat) (l0 l : List OpI) (v : Value) (ad : Addr) (cap : Nat)
  (hs : a.eval s = v) (hown : opsOwn w base v l0) (hx : a.eval x = .slice (some ad) l.length cap) (hl : opsAt (some ad) l w) (h3 : l0.length + l.length <= 1000000) (hb : base <= w.heap.size)
  (h : ∀ v' w', opsOwn w' base v' (l0 ++ l) -> Below base w w' -> w.grownBy w' v.ownBlock -> (v'.ownBlock = v.ownBlock ∨ v'.ownBlock = some w.heap.size) -> wpList Tryz.prog ops Q rest (a.put o.dst v') w') : wpList Tryz.prog ops Q (o :: rest) a w := by
 obtain ⟨ri, hri, hrz, hrs, hrb⟩ := opInfo
 obtain ⟨b, off, ty⟩ := ad
 refine wpList_append_own_at w hgd s x 70 ho base 72 ri (.agg #[.string ⟨#[]⟩, .int .i64 0]) 2 24 Tryz.underlying70 hri hrz hrs hrb rfl (by decide) v l0.length (ocells l0) hs hown ⟨b, off, ty⟩ l.length cap (ocells l) hx (ocells_len l) (fun j u hj => ?_) ocells_one (by unfold maxLen; omega) (by omega) hb (fun v' w' h2 hg _ hloc => ?_)
 ·have hj5 : j < l.length * 2 := by
   have := (List.getElem?_eq_some_iff.1 hj).1
   rwa [ocells_len] at this
  obtain ⟨y, hy⟩ : ∃ y, l[0]? = some y := ⟨_, List.getElem?_eq_getElem (by omega)⟩
  obtain ⟨b', off', e, -⟩ := hl 0 y hy
  cases e
  rw [Addr.add_lit]
  exact opsAt_cells hl j u hj
 ·refine h v' w' ?_ ((Below.refl base w).grown hg hb (fun k hk => (hown.lt k hk).1)) hg hloc
  unfold opsOwn
  rw [List.length_append, ocells_app]
  exact h2
theorem cl_done {cs : List (List Ins)} {p : RkPl} {m : Mk} {t : Nat} {L : List Ins} (ht : cs[t]? = some L) (hd : doneAt L (m.pc t) = true) {w : World} (h : RkAt cs p m w) :
  Calls Tryz.prog 27 #[.pointer (some ⟨p.k, 0, none⟩), .int .i64 t] w fun e w' => e = .returned (.bool true) /\ Below w.heap.size w w' := by
 unfold doneAt at hd
 cases hx : L[m.pc t]? with
 | none => exact rdone_end ht (List.getElem?_eq_none_iff.1 hx) h
 | some x =>
  rw [hx] at hd
  have := rdone_at ht hx h
  rw [show (x.op.toList == [115, 116, 111, 112]) = true from hd] at this
  exact this
def AtC (cs : List (List Ins)) (p : RkPl) (m0 : Mk) (w : World) (k : Nat) (m : Mk) (wr : World) : Prop := ∃ r v, RkStep cs p m0.mem w r v m wr /\ RkX cs (p.to r v) m (1 + k) wr
theorem AtC.turn {cs : List (List Ins)} {p : RkPl} {m0 : Mk} {w : World} {k : Nat} {m : Mk} {wr : World} (h : AtC cs p m0 w k m wr) (hk : k <= 1000000) (x : Int) :
  Calls Tryz.prog 25 #[.pointer (some ⟨p.k, 0, none⟩), .int .i64 x] wr fun e w' => ∃ c : Int, e = .returned (.int .i64 c) /\ AtC cs p m0 w (k + 1) (m.turnO cs x).2 w' := by
 obtain ⟨r, v, h1, h2⟩ := h
 refine (rturn_any h2 x).mono ?_
 rintro e w' ⟨he, r', v', h3⟩
 exact ⟨_, he, r', v', h1.trans h3, h2.of h3 (h2.ok.turnO h2.right x (by omega)) (by omega)⟩
theorem cone_out {a : Nat -> Addr} {w : World} (hE : EnvL a w) (f : Int) (ac : Option Addr) (len sc : Nat) (h : 4 < len ∨ (len <= 4 /\ (f < 1 ∨ (1 <= f /\ 4 < f)))) :
  Calls Tryz.prog 6 #[.int .i64 f, .slice ac len sc] w fun e w' => e = .returned (.bool true) /\ Below w.heap.size w w' := by
 have HBT := hide (built_any hE)
 clear hE
 rcases h with h2 | ⟨h2, h3 | ⟨h3, h4⟩⟩
 ·have i1 : 4 < (len : Int) := by omega
  clear h2
  go_enter Tryz.func6, Tryz.ntmps6
  go_wp2_with fail
  refine HBT.out.mono ?_
  rintro e w1 ⟨rfl, hb1⟩
  have HB1 := hide hb1
  clear hb1
  go_wp2_with fail
  go_ret
  exact ⟨rfl, HB1.out⟩
 ·have i1 : ¬ 4 < (len : Int) := by omega
  clear h2
  go_enter Tryz.func6, Tryz.ntmps6
  go_wp2_with fail
  refine HBT.out.mono ?_
  rintro e w1 ⟨rfl, hb1⟩
  have HB1 := hide hb1
  clear hb1
  go_wp2_with fail
  go_ret
  exact ⟨rfl, HB1.out⟩
 ·have i1 : ¬ 4 < (len : Int) := by omega
  have i2 : ¬ f < 1 := by omega
  clear h2 h3
  go_enter Tryz.func6, Tryz.ntmps6
  go_wp2_with fail
  refine HBT.out.mono ?_
  rintro e w1 ⟨rfl, hb1⟩
  have HB1 := hide hb1
  clear hb1
  go_wp2_with fail
  go_ret
  exact ⟨rfl, HB1.out⟩
structure OneAt (ns : List Int) (j base : Nat) (w0 : World) (vo vw : Value) (w : World) : Prop where
 ok : ∀ (t : Nat) x, t < j -> ns[t]? = some x -> 1 <= x /\ x <= 1000
 ops : opsOwn w base vo (opsI (ns.take j))
 want : numsOwn w base vw (ns.take j)
 ap : ∀ b, vo.ownBlock = some b -> vw.ownBlock ≠ some b
 low : Below base w0 w
 bz : base <= w.heap.size
theorem opsI_snoc {ns : List Int} {j : Nat} {x : Int} (h : ns[j]? = some x) : opsI (ns.take (j + 1)) = opsI (ns.take j) ++ opsJ x := by
 rw [List.take_add_one, h]
 unfold opsI
 rw [List.flatMap_append]
 simp
theorem take_snoc {ns : List Int} {j : Nat} {x : Int} (h : ns[j]? = some x) : ns.take (j + 1) = ns.take j ++ [x] := by
 rw [List.take_add_one, h]
 rfl
theorem cone_in {a : Nat -> Addr} {w : World} (hE : EnvL a w) {f : Nat} (hf : 1 <= f /\ f <= 4) {ac : Option Addr} {ns : List Int} {sc : Nat} (hls : numsAt ac ns w) (hlen : ns.length <= 4) :
  Calls Tryz.prog 6 #[.int .i64 f, .slice ac ns.length sc] w fun e w' => e = .returned (.bool true) /\ Below w.heap.size w w' := by
 have HBT := hide (built_any hE)
 have HLS := hide hls
 have HE := hide hE
 have HF := hide hf
 have HL4 := hide hlen
 obtain ⟨n, hn⟩ : ∃ n, Hid (ns.length = n) := ⟨_, hide rfl⟩
 rw [hn.out] at hlen ⊢
 have i1 : ¬ 4 < (n : Int) := by omega
 have i2 : ¬ (f : Int) < 1 := by omega
 have i3 : ¬ 4 < (f : Int) := by omega
 clear hE hls hf
 obtain ⟨fi, hfi⟩ : ∃ fi, Hid ((f : Int) = fi) := ⟨_, hide rfl⟩
 rw [hfi.out] at i2 i3 ⊢
 go_enter Tryz.func6, Tryz.ntmps6
 go_wp2_with fail
 refine HBT.out.mono ?_
 rintro e w1 ⟨rfl, hb1⟩
 have HB1 := hide hb1
 have HZ1 : Hid (Below w.heap.size w (w1.alloc (.cells #[] 3))) := hide (hb1.alloc hb1.size _)
 have HO1 : Hid (OneAt ns 0 w.heap.size w (.slice none 0 0) (.slice (some ⟨w1.heap.size, 0, none⟩) 0 0) (w1.alloc (.cells #[] 3))) := hide ⟨fun t x ht => absurd ht (Nat.not_lt_zero _), World.ownsRow_nil _ _ _ _, numsOwn_new (l := []) rfl hb1.size (by decide), fun b e => (by cases e), HZ1.out, HZ1.out.size⟩
 clear hb1 HBT HZ1
 go_wp2_with fail
 go_loopw [6, 7, 8] (fun vo vw i wr => ∃ j : Nat, j <= n /\ i = .int .i64 j /\ Hid (OneAt ns j w.heap.size w vo vw wr)) (fun _ _ i _ => n - (intOf i).toNat)
 case atStart => exact ⟨0, Nat.zero_le _, rfl, HO1⟩
 case round =>
  clear HO1
  obtain ⟨j, hj, rfl, HO⟩ := hrel
  generalize u6 = vo at *
  generalize u7 = vw at *
  by_cases hlt : j < n
  ·have ji : (j : Int) < n := by omega
   obtain ⟨x, hx⟩ : ∃ x, ns[j]? = some x := ⟨_, List.getElem?_eq_getElem (by rw [hn.out]; exact hlt)⟩
   have HX := hide hx
   obtain ⟨b, off, rfl, c0⟩ := (HLS.out.below HO.out.low) j x hx
   clear hx
   by_cases hx1 : x < 1
   ·go_wp2_with fail
    go_ret
    exact ⟨rfl, HO.out.low⟩
   ·by_cases hx2 : 1000 < x
    ·go_wp2_with fail
     go_ret
     exact ⟨rfl, HO.out.low⟩
    ·have HL2 : Hid ((opsI (ns.take j)).length + 5 <= 1000000 /\ (ns.take j).length + 1 <= 1000000) := hide (by
      rw [opsI_len, List.length_take]
      have := HL4.out
      omega)
     have hnew : Below wr.heap.size wr (wr.alloc (.cells #[.string ⟨#[112, 117, 116]⟩, .int .i64 x, .string ⟨#[108, 97, 116, 101, 114]⟩, .int .i64 0, .string ⟨#[101, 110, 116, 101, 114]⟩, .int .i64 0, .string ⟨#[114, 101, 97, 100]⟩, .int .i64 0, .string ⟨#[108, 101, 97, 118, 101]⟩, .int .i64 0] 72)) := bRf.alloc nL _
     have HN1 : Hid (opsAt (some ⟨wr.heap.size, 0, none⟩) (opsJ x) (wr.alloc (.cells #[.string ⟨#[112, 117, 116]⟩, .int .i64 x, .string ⟨#[108, 97, 116, 101, 114]⟩, .int .i64 0, .string ⟨#[101, 110, 116, 101, 114]⟩, .int .i64 0, .string ⟨#[114, 101, 97, 100]⟩, .int .i64 0, .string ⟨#[108, 101, 97, 118, 101]⟩, .int .i64 0] 72))) := hide (opsAt_new (l := opsJ x) rfl)
     have HP1 := hide (opsOwn_keep HO.out.ops hnew)
     have HW1 := hide (numsOwn_keep HO.out.want hnew)
     have HB2 := hide (HO.out.low.trans (hnew.mono HO.out.bz))
     have HZ2 : Hid (w.heap.size <= (wr.alloc (.cells #[.string ⟨#[112, 117, 116]⟩, .int .i64 x, .string ⟨#[108, 97, 116, 101, 114]⟩, .int .i64 0, .string ⟨#[101, 110, 116, 101, 114]⟩, .int .i64 0, .string ⟨#[114, 101, 97, 100]⟩, .int .i64 0, .string ⟨#[108, 101, 97, 118, 101]⟩, .int .i64 0] 72)).heap.size) := hide (Nat.le_trans HO.out.bz hnew.size)
     have HAP := hide HO.out.ap
     have HWL := hide (fun b e => (World.ownsRow.lt HO.out.want b e).2)
     have HOK := hide HO.out.ok
     clear HO hnew
     obtain ⟨P, hP⟩ : ∃ P, Hid (P = opsI (ns.take j)) := ⟨_, hide rfl⟩
     obtain ⟨T, hT⟩ : ∃ T, Hid (T = ns.take j) := ⟨_, hide rfl⟩
     rw [<- hP.out] at HP1 HL2
     rw [<- hT.out] at HW1 HL2
     go_wp2_with (at_builtin; refine wpList_append_opsO _ rfl _ _ rfl w.heap.size P (opsJ x) _ ⟨wr.heap.size, 0, none⟩ 5 rfl ?q1 rfl ?q2 ?q3 ?q4 ?_)
     case q1 => exact HP1.out
     case q2 => exact HN1.out
     case q3 => have := HL2.out.1; show P.length + 5 <= _; omega
     case q4 => have := HZ2.out; first | exact this | (simp at this ⊢; omega)
     intro vo2 w2 h1 h2 h3 h4
     have hwa : Hid ((wr.alloc (.cells #[.string ⟨#[112, 117, 116]⟩, .int .i64 x, .string ⟨#[108, 97, 116, 101, 114]⟩, .int .i64 0, .string ⟨#[101, 110, 116, 101, 114]⟩, .int .i64 0, .string ⟨#[114, 101, 97, 100]⟩, .int .i64 0, .string ⟨#[108, 101, 97, 118, 101]⟩, .int .i64 0] 72)).heap.size = wr.heap.size + 1) := hide (World.size_alloc _ _)
     generalize wr.alloc (.cells #[.string ⟨#[112, 117, 116]⟩, .int .i64 x, .string ⟨#[108, 97, 116, 101, 114]⟩, .int .i64 0, .string ⟨#[101, 110, 116, 101, 114]⟩, .int .i64 0, .string ⟨#[114, 101, 97, 100]⟩, .int .i64 0, .string ⟨#[108, 101, 97, 118, 101]⟩, .int .i64 0] 72) = wa at *
     have HP2 : Hid (opsOwn w2 w.heap.size vo2 (P ++ opsJ x)) := hide h1
     have HW2 : Hid (numsOwn w2 w.heap.size vw T) := hide (numsOwn_kept HW1.out h3 (fun b e e2 => HAP.out b e2 e))
     have HB3 := hide (HB2.out.trans h2)
     have HZ3 : Hid (w.heap.size <= w2.heap.size) := hide (Nat.le_trans HZ2.out h2.size)
     have HAP2 : Hid (∀ b, vo2.ownBlock = some b -> vw.ownBlock ≠ some b) := hide (fun b e e2 => by
      rcases h4 with h4 | h4
      ·rw [h4] at e; exact HAP.out b e e2
      ·rw [h4] at e
       have h5 := Option.some.inj e
       have h6 := HWL.out b e2
       have h7 := hwa.out
       omega)
     obtain ⟨b', off', e', c2⟩ := (HLS.out.below HB3.out) j x HX.out
     cases e'
     clear h1 h2 h3 h4 HP1 HW1 HB2 HZ2 HAP HWL HN1 c0 hwa
     go_wp2_with (at_builtin; refine wpList_append_ints _ rfl _ _ rfl w.heap.size T [x] _ ⟨w2.heap.size, 0, none⟩ 1 rfl ?q1 rfl ?q2 ?q3 ?q4 ?_)
     case q1 => exact numsOwn_keep HW2.out (bRf.alloc nL _)
     case q2 => exact numsAt_new rfl
     case q3 => have := HL2.out.2; omega
     case q4 => have := HZ3.out; simp; omega
     intro vw' w3 h1 h2 h3 h4 h5
     have hal : Below w2.heap.size w2 (w2.alloc (.cells #[.int .i64 x] 3)) := bRf.alloc nL _
     have hsz : (w2.alloc (.cells #[.int .i64 x] 3)).heap.size = w2.heap.size + 1 := World.size_alloc _ _
     have HO3 : Hid (OneAt ns (j + 1) w.heap.size w vo2 vw' w3) := hide (by
      refine ⟨fun t y ht hy => ?_, ?_, ?_, fun b e e2 => ?_, (HB3.out.trans (hal.mono HZ3.out)).trans h2, ?_⟩
      ·by_cases e : t = j
       ·subst e
        rw [HX.out] at hy
        cases hy
        omega
       ·exact HOK.out t y (by omega) hy
      ·rw [opsI_snoc HX.out, <- hP.out]
       refine opsOwn_kept (opsOwn_keep HP2.out hal) h4 ?_
       cases hr : vo2.ownBlock with
       | none => exact .inl rfl
       | some b => exact .inr fun e => HAP2.out b hr e.symm
      ·rw [take_snoc HX.out, <- hT.out]
       exact h1
      ·rcases h5 with h5 | h5
       ·rw [h5] at e2; exact HAP2.out b e e2
       ·rw [h5] at e2
        have h6 := Option.some.inj e2
        have h7 := (World.ownsRow.lt HP2.out b e).2
        omega
      ·have := h2.size
       have := HZ3.out
       omega)
     clear h1 h2 h3 h4 h5 hal hsz HP2 HW2 HB3 HZ3 HAP2 hP hT HL2 HOK c2
     go_wp2_with fail
     go_roundw
     case rel => exact ⟨j + 1, by omega, by go_num, HO3⟩
     case measure => simp [intOf]; omega
  ·obtain rfl : n = j := by omega
   have HTK : Hid (ns.take n = ns) := hide (by rw [<- hn.out, List.take_length])
   have HNS : Hid (∀ x ∈ ns, 1 <= x /\ x <= 1000) := hide (fun x hx => by
    obtain ⟨t, ht, rfl⟩ := List.getElem_of_mem hx
    exact HO.out.ok t _ (by rw [<- hn.out]; exact ht) (List.getElem?_eq_getElem ht))
   have h0 := opsI_each HL4.out HNS.out
   have hf := HF.out
   have hl1 : ([opsI ns].map (clC f)).length = 1 := rfl
   obtain ⟨ado, capo, rfl, hoa⟩ := opsAt_of_ocells (by have := HO.out.ops; rw [HTK.out] at this; exact this)
   obtain ⟨aw, capw, rfl, -, hwa⟩ := numsOwn_at (by have := HO.out.want; rw [HTK.out] at this; exact this)
   have hal : Below wr.heap.size wr (wr.alloc (.cells #[.slice ado (opsI ns).length capo] 70)) := bRf.alloc nL _
   have HB5 : Hid (Below w.heap.size w (wr.alloc (.cells #[.slice ado (opsI ns).length capo] 70))) := hide (below_step HO.out.low hal)
   have HWA := hide (hwa.below hal)
   have HBU := hide (clbuild_ok (cap := 1) hf (HE.out.below HB5.out.block) (opRowsAt_one (capl := capo) (t := 70) rfl hoa) h0)
   have HSF := hide (fun (ai ar ad : Option Addr) (ci cr cap : Nat) (w : World) (hs : StaAt (clSta f [opsI ns].length) ⟨ai, ci, ar, cr⟩ w) (hl : codesAt ad ([opsI ns].map (clC f)) w) => clStart_ok (cap := cap) hf h0 hs hl)
   have HNM := hide (fun (ai ar ad : Option Addr) (ci cr cap : Nat) (w0 w : World) (hb : Below w0.heap.size w0 w) (hs : StaAt (clSta f [opsI ns].length) ⟨ai, ci, ar, cr⟩ w) (hl : codesAt ad ([opsI ns].map (clC f)) w0) => clNewX (cap := cap) hf h0 hb hs hl)
   have HEN := hide (one_end hf HL4.out HNS.out)
   have HIL : Hid ((graceI f (clCells.map pad4) 1).length <= 20) := hide (by rw [graceI_len, List.length_map]; show 2 + 1 + _ <= 20; omega)
   have HIR : Hid (∀ row ∈ graceI f (clCells.map pad4) 1, row.length <= 100) := hide fun row hr => by
    rw [graceI_rows (fun row hr => by obtain ⟨x, -, rfl⟩ := List.mem_map.1 hr; exact pad4_len x) row hr]; decide
   have HRR : Hid (∀ row ∈ rowsG 2 1 1, row.length <= 100) := hide fun row hr => by
    rw [rowsG_rows row hr]; decide
   have HRL : Hid ((rowsG 2 1 1).length <= 6) := hide (by rw [rowsG_len]; decide)
   have HST : Hid (clSta f 1 = ⟨64, graceI f (clCells.map pad4) 1, rowsG 2 1 1⟩) := hide rfl
   have HLO : Hid ((opsI ns).length <= 20) := hide (by rw [opsI_len]; have := HL4.out; omega)
   rw [show [opsI ns].length = 1 from rfl] at HBU HSF HNM
   rw [show [opsI ns].map (clC f) = [clC f (opsI ns)] from rfl] at HBU HSF HNM
   rw [hfi.out] at HBU
   clear HO hoa hwa hal h0 hf HNS HTK HL4 HLS HF hl1 HE HB1
   obtain ⟨ln, hln⟩ : ∃ ln, Hid ((opsI ns).length = ln) := ⟨_, hide rfl⟩
   rw [hln.out] at HLO
   simp only [hln.out, hn.out] at HB5 HWA HBU ⊢
   generalize clSta f 1 = S at *
   generalize graceI f (clCells.map pad4) 1 = II at *
   generalize rowsG 2 1 1 = RR at *
   generalize clC f (opsI ns) = C at *
   go_wp2_with fail
   refine HBU.out.mono ?_
   rintro e w6 ⟨base, sb, iv, vs, rv, rs, vc, ks, B, rfl, hT6, hK6, -, -, hb6⟩
   obtain ⟨ai, ci, ar, cr, eiv, erv, hsta⟩ := TW.sta hT6 rfl (by have := HIL.out; omega) (by have := HRL.out; omega) HIR.out HRR.out
   obtain ⟨ax, cx, evc, hcx⟩ := hK6.codes
   subst eiv
   subst erv
   subst evc
   rw [<- HST.out] at hsta
   have hal : Below w6.heap.size w6 (w6.alloc (.cells #[.int .i64 64, .slice ai II.length ci, .slice ar RR.length cr] 38)) := bRf.alloc nL _
   have HB6 := hide (below_step (below_step HB5.out hb6) hal)
   have HS6 := hide (hsta.below hal)
   have HWA6 := hide ((HWA.out.below hb6).below hal)
   have HC6 := hide (hcx.below hal)
   have z0 : (w6.alloc (.cells #[.int .i64 64, .slice ai II.length ci, .slice ar RR.length cr] 38)).cell? ⟨w6.heap.size, 0, none⟩ = some (.int .i64 64) := by simp
   have z1 : (w6.alloc (.cells #[.int .i64 64, .slice ai II.length ci, .slice ar RR.length cr] 38)).cell? ⟨w6.heap.size, 1, none⟩ = some (.slice ai II.length ci) := by simp
   have z2 : (w6.alloc (.cells #[.int .i64 64, .slice ai II.length ci, .slice ar RR.length cr] 38)).cell? ⟨w6.heap.size, 2, none⟩ = some (.slice ar RR.length cr) := by simp
   have HBK := hide (backStart_any 64 ai ar II.length ci RR.length cr)
   have hfl : ∀ w : World, (Instr.field 31 (.agg #[.int .i64 0, .int .i64 (-1)]) 0).run Tryz.prog w = .ok (.int .i64 0) w := fun _ => rfl
   clear hT6 hK6 hb6 hal hsta hcx HB5 HBU HIL HIR HRR HRL HST
   generalize II.length = iL at *
   generalize RR.length = rL at *
   go_wp2_with fail
   generalize w6.alloc (.cells #[.int .i64 64, .slice ai iL ci, .slice ar rL cr] 38) = w7 at *
   generalize w6.heap.size = bs at *
   refine (HBK.out _).mono ?_
   rintro e w8 ⟨rfl, hb8⟩
   have HB8 := hide (below_step HB6.out hb8)
   have HS8 := hide (HS6.out.below hb8)
   have HWA8 := hide (HWA6.out.below hb8)
   have HC8 := hide (HC6.out.below hb8)
   have HSF8 := hide (HSF.out _ _ _ _ _ cx _ HS8.out HC8.out)
   replace z0 := keep_cell hb8 z0
   replace z1 := keep_cell hb8 z1
   replace z2 := keep_cell hb8 z2
   clear hb8 HB6 HS6 HC6
   go_wp2_with fail
   refine HSF8.out.mono ?_
   rintro e w9 ⟨rfl, hb9⟩
   have HB9 := hide (below_step HB8.out hb9)
   have HS9 := hide (HS8.out.below hb9)
   have HWA9 := hide (HWA8.out.below hb9)
   have HC9 := hide (HC8.out.below hb9)
   replace z0 := keep_cell hb9 z0
   replace z1 := keep_cell hb9 z1
   replace z2 := keep_cell hb9 z2
   clear hb9 HB8 HS8 HC8 HSF8
   go_wp2_with fail
   refine (HBK.out _).mono ?_
   rintro e w10 ⟨rfl, hb10⟩
   have HB10 := hide (below_step HB9.out hb10)
   have HS10 := hide (HS9.out.below hb10)
   have HWA10 := hide (HWA9.out.below hb10)
   have HC10 := hide (HC9.out.below hb10)
   have HNM10 := hide (HNM.out _ _ _ _ _ cx _ _ (Below.refl w10.heap.size w10) HS10.out HC10.out)
   clear hb10 HB9 HS9 HC9 z0 z1 z2
   go_wp2_with fail
   refine HNM10.out.mono ?_
   rintro e w11 ⟨p, rfl, hk⟩
   have HB11 := hide (below_step HB10.out hk.out.2.1)
   generalize hM : S.mach 1 = M at *
   have hk0 := hk.out.1
   have HFP := hide hk.out.2.2
   have HA0 : Hid (AtC [C] p M w11 0 (itT [C] M 0) w11) := hide ⟨p.rp, p.mv, RkStep.refl hk0.at', hk0⟩
   have HK11 := hide hk.out.2.1
   clear hk hk0 HNM10 HS10 HC10 HSF HNM HBK
   go_wp2_with fail
   go_loopw [13] (fun i wr => ∃ j : Nat, j <= 4000 /\ i = .int .i64 j /\ Hid (AtC [C] p M w11 j (itT [C] M j) wr)) (fun i _ => 4000 - (intOf i).toNat)
   case atStart => exact ⟨0, Nat.zero_le _, rfl, HA0⟩
   case round =>
    clear HA0
    obtain ⟨j, hj, rfl, HA⟩ := hrel
    by_cases hlt : j < 4000
    ·have ji : (j : Int) < 4000 := by omega
     have HT := hide (HA.out.turn (by omega) 0)
     clear HA
     go_wp2_with fail
     refine HT.out.mono ?_
     rintro e w12 ⟨c, rfl, h12⟩
     have HA2 : Hid (AtC [C] p M w11 (j + 1) (itT [C] M (j + 1)) w12) := hide h12
     clear h12 HT
     go_wp2_with fail
     go_roundw
     case rel => exact ⟨j + 1, by omega, by go_num, HA2⟩
     case measure => simp [intOf]; omega
    ·obtain rfl : j = 4000 := by omega
     obtain ⟨r, v, hstep, hx⟩ := HA.out
     have HB12 : Hid (Below w.heap.size w wr) := hide (HB11.out.trans (hstep.turns.below HB11.out.size (fun b o hb hf => by
      have := HFP.out b hf
      have := HB10.out.size
      omega)))
     have HWR := hide (HWA10.out.below (HK11.out.trans (hstep.turns.below HK11.out.size (fun b o hb hf => by
      have := HFP.out b hf
      omega))))
     have hX := hx.at'
     have hfz : wr.cell? ⟨p.k, 3, none⟩ = some (.int .i64 0) := by
      have := hX.mFaults
      rw [HEN.out.1] at this
      exact this
     have hmk := hX.own
     have hmm := hX.mMarks
     rw [HEN.out.2.2] at hmk
     obtain ⟨am, cm, emv, -, -, hmc⟩ := ownsRow_shape hmk
     have HMK : Hid (∀ (i : Nat) x, ns[i]? = some x -> ∃ g, am = some ⟨g, 0, none⟩ /\ wr.cell? ⟨g, i * 2 + 1, none⟩ = some (.int .i64 x)) := hide (fun i x hx => by
      obtain ⟨g, e, hc⟩ := hmc (i * 2 + 1) _ (rmarkCells_at (x := (0, x)) (by rw [List.getElem?_map, hx]; rfl)).2
      exact ⟨g, e, hc⟩)
     have hmz : wr.cell? ⟨p.k, 2, none⟩ = some (.slice am n cm) := by
      rw [emv, List.length_map, hn.out] at hmm
      exact hmm
     have HDN := hide (cl_done (t := 0) (L := C) rfl HEN.out.2.1 hX)
     rw [show ((0 : Nat) : Int) = 0 from rfl, show (p.to r v).k = p.k from rfl] at HDN
     have hnn : ((n : Int) != (n : Int)) = false := by simp
     clear hX hmk hmm emv hmc hx hstep HA HEN HFP HK11 HWA10 HB10 HB11
     go_wp2_with fail
     refine HDN.out.mono ?_
     rintro e w13 ⟨rfl, hb13⟩
     have HB13 := hide (below_step HB12.out hb13)
     have HW13 := hide (HWR.out.below hb13)
     have HM13 : Hid (∀ (i : Nat) x, ns[i]? = some x -> ∃ g, am = some ⟨g, 0, none⟩ /\ w13.cell? ⟨g, i * 2 + 1, none⟩ = some (.int .i64 x)) := hide (fun i x hx => by
      obtain ⟨g, e, hc⟩ := HMK.out i x hx
      exact ⟨g, e, keep_cell hb13 hc⟩)
     replace hfz := keep_cell hb13 hfz
     replace hmz := keep_cell hb13 hmz
     clear hb13 HDN HWR HMK HB12
     go_wp2_with fail
     have HZ := hide (And.intro hfz hmz)
     clear hfz hmz
     go_loopw [14] (fun i wq => ∃ j : Nat, j <= n /\ i = .int .i64 j /\ Hid (Below w13.heap.size w13 wq)) (fun i _ => n - (intOf i).toNat)
     case atStart => exact ⟨0, Nat.zero_le _, rfl, hide bRf⟩
     case round =>
      obtain ⟨j, hj, rfl, HQ⟩ := hrel
      by_cases hlt : j < n
      ·have ji : (j : Int) < n := by omega
       obtain ⟨x, hx⟩ : ∃ x, ns[j]? = some x := ⟨_, List.getElem?_eq_getElem (by rw [hn.out]; exact hlt)⟩
       obtain ⟨g, rfl, hc⟩ := HM13.out j x hx
       obtain ⟨b2, off2, rfl, hd⟩ := HW13.out j x hx
       have hmz := keep_cell HQ.out HZ.out.2
       replace hc := keep_cell HQ.out hc
       replace hd := keep_cell HQ.out hd
       have hxx : (x != x) = false := by simp
       have HQ2 : ∀ k, Hid (Below w13.heap.size w13 (wr.drewN k)) := fun k => hide (below_dN HQ.out k)
       clear hx HQ
       go_wp2_with fail
       go_quiet (fail)
       go_wp2_with fail
       go_roundw
       case rel => exact ⟨j + 1, by omega, by go_num, HQ2 _⟩
       case measure => simp [intOf]; omega
      ·obtain rfl : j = n := by omega
       go_wp2_with fail
       go_ret
       exact ⟨rfl, below_step HB13.out HQ.out⟩
theorem cone_any {a : Nat -> Addr} {w : World} (hE : EnvL a w) (f : Int) {ac : Option Addr} {ns : List Int} {sc : Nat} (hls : numsAt ac ns w) :
  Calls Tryz.prog 6 #[.int .i64 f, .slice ac ns.length sc] w fun e w' => e = .returned (.bool true) /\ Below w.heap.size w w' := by
 by_cases hl : ns.length <= 4
 ·by_cases hf : 1 <= f /\ f <= 4
  ·obtain ⟨g, rfl⟩ := Int.eq_ofNat_of_zero_le (show 0 <= f by omega)
   exact cone_in hE (by omega) hls hl
  ·exact cone_out hE f ac _ sc (.inr ⟨hl, by omega⟩)
 ·exact cone_out hE f ac _ sc (.inl (by omega))
end
section
open Go.ChangeShapes Go.WideShapes Go.ChangeAt Go.RowKit Go.Joins Go.Deep
theorem kcellsS_n : Tryz.prog.cellsOf 3 = 1 := by kernel_rfl
theorem listS_of_trod {H : Type} {enc : TypeId × Value -> H} {W : World} {fuel : Nat} {sp : Nat -> Bool} {held : Bool} {cs : List Value} {x : DataW H × List MemPlace} {t e : TypeId} {α : Type} [Inhabited α] (F : α -> List Value) (k : Nat) (hk : 0 < k) (Q : α -> Prop)
  (ht : Tryz.prog.underlying t = some (.slice e)) (hc : Tryz.prog.cellsOf e = k) (hF : ∀ y, (F y).length = k)
  (hr : ∀ (n : Nat) (cs : List Value) x, DataW.trod enc Tryz.prog W 0 sp held n e cs = some x -> ∃ y, cs = F y /\ Q y)
  (h : DataW.trod enc Tryz.prog W 0 sp held fuel t cs = some x) :
  ∃ (ad : Option Addr) (cap : Nat) (l : List α), cs = [.slice ad l.length cap] /\ (∀ (i : Nat) y, l[i]? = some y -> ∃ b off, ad = some ⟨b, off, none⟩ /\ (∀ j, j < k -> W.cell? ⟨b, off + i * k + j, none⟩ = (F y)[j]?) /\ Q y) /\ (ad = none -> l = [] /\ cap = 0) /\ l.length <= cap /\ l.length <= maxLen := by
 rcases open_slice ht h with ⟨rfl, _⟩ | ⟨a, len, cap, m, n, D, Pl, rfl, _, hl, hl2, hm, hx, hel⟩
 ·exact ⟨none, 0, [], rfl, fun i y hy => by simp at hy, fun _ => ⟨rfl, rfl⟩, Nat.zero_le _, Nat.zero_le _⟩
 ·have hm' : len <= m := by rw [hm]; split <;> omega
  have hex : ∀ i, i < len -> ∃ y : α, (∀ j, j < k -> W.cell? ((a.add (i * k)).add j) = (F y)[j]?) /\ Q y := fun i hi => by
   obtain ⟨cs', h1, h2⟩ := hel i (by omega)
   rw [hc] at h1
   obtain ⟨y, rfl, h3⟩ := hr _ _ _ h2
   exact ⟨y, (cells_at h1).2, h3⟩
  obtain ⟨f, hf⟩ := choose_lt (p := fun i (y : α) => (∀ j, j < k -> W.cell? ((a.add (i * k)).add j) = (F y)[j]?) /\ Q y) (h := hex)
  refine ⟨some a, cap, (List.range len).map f, by simp, fun i y hy => ?_, fun h => (by cases h), by simpa using hl, by simp; omega⟩
  have hi : i < len := by
   have := (List.getElem?_eq_some_iff.1 hy).1
   simpa using this
  obtain rfl : y = f i := by
   rw [List.getElem?_map, List.getElem?_range hi] at hy
   simpa using hy.symm
  have h00 := (hf 0 (by omega)).1 0 hk
  obtain ⟨v0, hv0⟩ : ∃ v, (F (f 0))[0]? = some v := ⟨_, List.getElem?_eq_getElem (by rw [hF]; exact hk)⟩
  rw [hv0, Nat.zero_mul] at h00
  have hs : a.spot = none := spot_none (a := a) h00
  have e : ∀ j, (a.add (i * k)).add j = ⟨a.block, a.off + i * k + j, none⟩ := fun j => by
   rw [add_plain a hs, add_plain _ rfl]
  refine ⟨a.block, a.off, by obtain ⟨b, o, sp⟩ := a; simp only at hs; subst hs; rfl, fun j hj => ?_, (hf i hi).2⟩
  have := (hf i hi).1 j hj
  rw [e] at this
  exact this
theorem kintS_of_trod {H : Type} {enc : TypeId × Value -> H} {W : World} {sp : Nat -> Bool} {held : Bool} {fuel : Nat} {cs : List Value} {x : DataW H × List MemPlace}
  (h : DataW.trod enc Tryz.prog W 0 sp held fuel 3 cs = some x) : ∃ y : Int, cs = [.int .i64 y] := by
 obtain ⟨r, e, _, _⟩ := DataW.trod_int Tryz.underlying3 h
 exact ⟨r, e⟩
theorem numsS_of_trod {H : Type} {enc : TypeId × Value -> H} {W : World} {fuel : Nat} {sp : Nat -> Bool} {held : Bool} {cs : List Value} {x : DataW H × List MemPlace} (h : DataW.trod enc Tryz.prog W 0 sp held fuel 54 cs = some x) :
  ∃ (ad : Option Addr) (cap : Nat) (l : List Int), cs = [.slice ad l.length cap] /\ numsAt ad l W /\ l.length <= cap /\ l.length <= maxLen := by
 obtain ⟨ad, cap, l, h1, h2, h3, h4, h5⟩ := listS_of_trod (fun y : Int => [.int .i64 y]) 1 (by decide) (fun _ => True) Tryz.underlying54 kcellsS_n (fun _ => rfl) (fun n cs x h => by obtain ⟨y, e⟩ := kintS_of_trod h; exact ⟨y, e, trivial⟩) h
 refine ⟨ad, cap, l, h1, fun i y hy => ?_, h4, h5⟩
 obtain ⟨b, off, e, hc, -⟩ := h2 i y hy
 have := hc 0 (by decide)
 rw [Nat.mul_one, Nat.add_zero] at this
 exact ⟨b, off, e, this⟩
end
end Go.Proofs.YtaiigfcfmcicjaaGreatDoor
