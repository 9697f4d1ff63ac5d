import Derived.Test.YtaiigfcfmcicjaaGreatDoorE26
import Derived.Test.YtaiigfcfmcicjaaGreatDoorShelf
import Derived.Test.YtaiigfcfmcicjaaGreatDoorE04
import Derived.Test.YtaiigfcfmcicjaaGreatDoorE05
import Derived.Test.YtaiigfcfmcicjaaGreatDoorE13
import Derived.Test.YtaiigfcfmcicjaaGreatDoorE10
import Derived.Laws.AppendOwn
import Derived.Maps.AppendAt
import Derived.Test.YtaiigfcfmcicjaaGreatDoorE14
namespace Go.Proofs.YtaiigfcfmcicjaaGreatDoor
set_option maxRecDepth 100000
set_option maxHeartbeats 8000000
section
open Go.RowKit Go.Extern.Stop Go.Stop Go.Extern Go.Maps Go.WideMaps Go.Sort
def opsAt (ad : Option Addr) (l : List OpI) (w : World) : Prop := ∀ (i : Nat) x, l[i]? = some x -> ∃ b off, ad = some ⟨b, off, none⟩ /\ w.cell? ⟨b, off + i * 2, none⟩ = some (.string x.kind) /\ w.cell? ⟨b, off + i * 2 + 1, none⟩ = some (.int .i64 x.n)
theorem opsAt.below {ad : Option Addr} {l : List OpI} {w w' : World} (h : opsAt ad l w) (hb : Below w.heap.size w w') : opsAt ad l w' := fun i x hx => by
 obtain ⟨b, off, e, h1, h2⟩ := h i x hx
 exact ⟨b, off, e, keep_cell hb h1, keep_cell hb h2⟩
theorem codeOf_ok {f : Nat} (hf : 1 <= f /\ f <= 4) {ad : Option Addr} {l : List OpI} {cap : Nat} {w : World} (h : opsAt ad l w) (hk : ∀ x ∈ l, kn x.kind.toList ≠ 0) (hl : l.length <= 20) :
  Calls Tryz.prog 99 #[.slice ad l.length cap, .func (.func 40) #[.int .i64 f] #[]] w fun e w' => ∃ v, e = .returned (.tuple #[v, .nilIface]) /\ insOwn w' w.heap.size v (opsC f l l.length) /\ Below w.heap.size w w' := by
 have HH := hide h
 have HK := hide hk
 have HOP := hide (fun (x : OpI) (hx : kn x.kind.toList ≠ 0) w => cop_ok hf x.kind x.n hx w)
 have HLA := hide (fun (x : OpI) => clP_labs hf (kn x.kind.toList) x.n)
 have HCL := hide (opsC_len hf l)
 have HCO := hide (fun (i : Nat) (x : OpI) => opC_len hf i x)
 have HIT : Hid (∀ (i : Nat), i < 20 -> ∀ w', Calls Tryz.prog 134 #[.int .i64 (i : Int)] w' fun e w'' => e = .returned (.string (itB i)) /\ w'' = w') := hide fun i hi w' => by
  have := Tryz.strconv_Itoa_small i (by omega) w'
  rwa [dec_is hi] at this
 obtain ⟨n, hn⟩ : ∃ n, Hid (l.length = n) := ⟨_, hide rfl⟩
 rw [hn.out] at hl ⊢
 have H0 : Hid (insOwn w w.heap.size (.slice none 0 0) (opsC f l 0) /\ Below w.heap.size w w) := hide ⟨insOwn_nil _ _, Below.refl _ _⟩
 clear h hk hf
 generalize hfi : (f : Int) = fi at *
 clear hfi
 go_enter Tryz.func99, Tryz.ntmps99
 go_wp2_with fail
 go_loopw [6, 7, 8, 9, 10, 13] (fun v _ _ _ _ i wr => ∃ k : Nat, k <= n /\ i = .int .i64 k /\ Hid (insOwn wr w.heap.size v (opsC f l k) /\ Below w.heap.size w wr)) (fun _ _ _ _ _ i _ => n - (intOf i).toNat)
 case atStart => exact ⟨0, Nat.zero_le _, rfl, H0⟩
 case round =>
  clear H0
  obtain ⟨k, hk, rfl, HR⟩ := hrel
  by_cases hlt : k < n
  ·have ki : (k : Int) < n := by omega
   obtain ⟨x, hx⟩ : ∃ x, l[k]? = some x := ⟨_, List.getElem?_eq_getElem (by rw [hn.out]; exact hlt)⟩
   obtain ⟨b, off, rfl, c0, c1⟩ := HH.out.below HR.out.2 k x hx
   have HX := hide (HOP.out x (HK.out x (List.mem_of_getElem? hx)))
   have HS := hide (opsC_succ (f := f) hx)
   have HLX := hide (HLA.out x)
   have HC1 := hide (HCL.out k)
   have HC2 := hide (HCO.out k x)
   have HI := hide (HIT.out k (by omega))
   obtain ⟨xv, xc, e6, -⟩ := ownsRow_shape HR.out.1
   subst e6
   obtain ⟨kd, nn⟩ := x
   dsimp only at c0 c1
   clear hx HOP HLA HCL HCO HIT HK
   go_wp2_with fail
   refine (HX.out _).mono ?_
   rintro e w2 ⟨v2, rfl, hv2, hb2⟩
   have hBA : Below wr.heap.size wr (wr.alloc (.cells #[.string kd, .int .i64 nn] 72)) := bRf.alloc nL _
   have HO2 := hide (insOwn_keep (insOwn_keep HR.out.1 hBA) hb2)
   have HB2 := hide (below_step (below_step HR.out.2 hBA) hb2)
   have HNM := hide (namedG_any (q := itB k) hv2 (by have := HLX.out.2; omega) (fun y hy hly => name_it (HLX.out.1 y hy hly).1 (HLX.out.1 y hy hly).2 (by omega)))
   obtain ⟨x2, c2, rfl, -⟩ := ownsRow_shape hv2
   clear hv2 hb2 hBA HR HX HLX c0 c1
   go_wp2_with fail
   refine (HI.out _).mono ?_
   rintro e w3 ⟨rfl, rfl⟩
   go_wp2_with fail
   refine HNM.out.mono ?_
   rintro e w4 ⟨v4, rfl, hv4, hb4⟩
   have HO4 := hide (insOwn_keep HO2.out hb4)
   have HB4 := hide (below_step HB2.out hb4)
   have HV4 : Hid (insOwn w4 0 v4 (opC f k ⟨kd, nn⟩)) := hide (insOwn_mono hv4 (Nat.zero_le _))
   obtain ⟨x4, c4, e4, -⟩ := ownsRow_shape hv4
   rw [List.length_map] at e4
   subst e4
   clear hv4 hb4 HO2 HB2 HNM HI
   go_wp2_with (at_builtin; refine wpList_append_insO _ rfl _ _ rfl w.heap.size 0 (opsC f l k) (opC f k ⟨kd, nn⟩) _ _ rfl ?q1 rfl ?q2 ?q3 ?q4 ?_)
   case q1 => exact HO4.out
   case q2 => exact HV4.out
   case q3 =>
    have h1 := HC1.out
    have h2 := HC2.out
    have h3 : 60 * k <= 60 * 19 := Nat.mul_le_mul_left _ (by omega)
    omega
   case q4 => exact HB4.out.size
   intro v5 w5 ho5 hb5
   have HR5 : Hid (insOwn w5 w.heap.size v5 (opsC f l (k + 1)) /\ Below w.heap.size w w5) := hide ⟨by rw [HS.out]; exact ho5, HB4.out.trans hb5⟩
   clear ho5 hb5 HB4 HO4 HV4
   go_wp2_with fail
   go_roundw
   case rel => exact ⟨k + 1, by omega, by go_num, HR5⟩
   case measure => simp [intOf]; omega
  ·obtain rfl : k = n := by omega
   obtain ⟨xv, xc, e6, -⟩ := ownsRow_shape HR.out.1
   have HZ := hide HR.out
   clear HR
   subst e6
   go_wp2_with fail
   go_ret2
   exact ⟨_, rfl, HZ.out.1, HZ.out.2⟩
end
section
open Go.RowKit Go.Extern.Stop Go.Stop Go.Extern Go.Maps Go.WideMaps Go.Sort
theorem wkInt : ∃ i, (Tryz.prog).info? 3 = some i /\ i.zero = some (.int .i64 0) /\ i.size = 1 /\ i.bytes = 8 := info_parts (by kernel_rfl)
def ncells (l : List Int) : List Value := l.map (Value.int .i64)
def numsOwn (w : World) (base : Nat) (v : Value) (l : List Int) : Prop := w.ownsRow base 3 1 v l.length (ncells l)
theorem ncells_append (a b : List Int) : ncells (a ++ b) = ncells a ++ ncells b := by simp [ncells]
theorem numsOwn_keep {w w' : World} {base : Nat} {v : Value} {l : List Int} (h : numsOwn w base v l) (k : Below w.heap.size w w') : numsOwn w' base v l :=
 ownsRow_block h (fun b hb => k.block b (h.lt b hb).2)
theorem numsOwn_mono {w : World} {base base' : Nat} {v : Value} {l : List Int} (h : numsOwn w base v l) (hb : base' <= base) : numsOwn w base' v l := by
 obtain ⟨h1, h2⟩ := h
 refine ⟨h1, ?_⟩
 rcases h2 with h2 | ⟨g, cap, cur, e, hg, r⟩
 ·exact .inl h2
 ·exact .inr ⟨g, cap, cur, e, Nat.le_trans hb hg, r⟩
theorem numsOwn_at {w : World} {base : Nat} {v : Value} {l : List Int} (h : numsOwn w base v l) : ∃ ad cap, v = .slice ad l.length cap /\ l.length <= cap /\ numsAt ad l w := by
 obtain ⟨g, c, rfl, h1, h2, h3⟩ := ownsRow_shape h
 refine ⟨g, c, rfl, h1, fun i x hx => ?_⟩
 obtain ⟨gg, e, hc⟩ := h3 i (.int .i64 x) (by unfold ncells; rw [List.getElem?_map, hx]; rfl)
 exact ⟨gg, 0, e, by rw [Nat.zero_add]; exact hc⟩
theorem numsOwn_open {w : World} {base : Nat} {v : Value} {l : List Int} (h : numsOwn w base v l) (h1 : 0 < l.length) : ∃ ad cap, v = .slice (some ad) l.length cap /\ numsAt (some ad) l w := by
 obtain ⟨ad, cap, rfl, -, h4⟩ := numsOwn_at h
 obtain ⟨y, hy⟩ : ∃ y, l[0]? = some y := ⟨_, List.getElem?_eq_getElem h1⟩
 obtain ⟨b, off, rfl, -⟩ := h4 0 y hy
 exact ⟨_, cap, rfl, h4⟩
theorem numsOwn_new {w : World} {l : List Int} {cs : Array Value} {base : Nat} (h : cs.toList = ncells l) (hb : base <= w.heap.size) (hl : l.length <= 1000000) : numsOwn (w.alloc (.cells cs 3)) base (.slice (some ⟨w.heap.size, 0, none⟩) l.length l.length) l := by
 have hn : (ncells l).length = l.length := by simp [ncells]
 refine ⟨by rw [hn, Nat.mul_one], .inr ⟨w.heap.size, l.length, cs, rfl, hb, heap_new w _, Nat.le_refl _, by unfold maxLen; omega, ?_, ?_⟩⟩
 ·rw [<- Array.length_toList, h, hn, Nat.mul_one]
 ·rw [h, Nat.mul_one, <- hn, List.take_length]
theorem numsAt_new {w : World} {l : List Int} {cs : Array Value} {t : TypeId} (h : cs.toList = ncells l) : numsAt (some ⟨w.heap.size, 0, none⟩) l (w.alloc (.cells cs t)) := by
 intro i x hx
 refine ⟨w.heap.size, 0, rfl, ?_⟩
 rw [World.cell?_alloc_new, Nat.zero_add, <- Array.getElem?_toList, h]
 unfold ncells
 rw [List.getElem?_map, hx]
 rfl
theorem wpList_append_ints {ops : Array Oper} {rest : List Oper} {o : Oper} {a : Act} (w : World) {Q : Exit -> Act -> World -> Prop} (hgd : o.guard = none) (s x : Operand)
  (ho : o.op = .call { callee := .builtin .append, args := #[s, x], argTypes := #[54, 54] }) (base : Nat) (l0 l : List Int) (v : Value) (ad : Addr) (cap : Nat)
  (hs : a.eval s = v) (hown : numsOwn w base v l0) (hx : a.eval x = .slice (some ad) l.length cap) (hl : numsAt (some ad) l w) (h3 : l0.length + l.length <= 1000000) (hb : base <= w.heap.size)
  (h : ∀ v' w', numsOwn w' base v' (l0 ++ l) -> Below base w w' -> w.heap.size <= w'.heap.size -> w.grownBy w' v.ownBlock -> (v'.ownBlock = v.ownBlock ∨ v'.ownBlock = some w.heap.size) -> wpList Tryz.prog ops Q rest (a.put o.dst v') w') : wpList Tryz.prog ops Q (o :: rest) a w := by
 obtain ⟨ri, hri, hrz, hrs, hrb⟩ := wkInt
 refine wpList_append_own_at w hgd s x 54 ho base 3 ri (.int .i64 0) 1 8 Tryz.underlying54 hri hrz hrs hrb rfl (by decide) v l0.length (ncells l0) hs hown ad l.length cap (ncells l) hx (by unfold ncells; rw [List.length_map, Nat.mul_one]) (fun j u hj => ?_) (fun u hu => ?_) (by unfold maxLen; omega) (by omega) hb (fun v' w' h2 hg _ hloc => ?_)
 ·unfold ncells at hj
  rw [List.getElem?_map] at hj
  cases hxj : l[j]? with
  | none => rw [hxj] at hj; cases hj
  | some y =>
   rw [hxj] at hj; cases hj
   obtain ⟨_, _, e, c⟩ := hl j y hxj
   cases e
   rw [Addr.add_lit]; exact c
 ·obtain ⟨y, _, rfl⟩ := List.mem_map.1 hu; rfl
 ·have hB : Below base w w' := (Below.refl base w).grown hg hb (fun k hk => (hown.lt k hk).1)
  refine h v' w' ?_ hB hB.size hg hloc
  unfold numsOwn
  rw [List.length_append, ncells_append]
  exact h2
theorem numsOwn_set {w : World} {base g cap n : Nat} {l : List Int} (h : numsOwn w base (.slice (some ⟨g, 0, none⟩) n cap) l) (j : Nat) (x : Int) : numsOwn (w.setCell ⟨g, j, none⟩ (.int .i64 x)) base (.slice (some ⟨g, 0, none⟩) n cap) (l.set j x) := by
 obtain ⟨h1, h2⟩ := h
 rcases h2 with ⟨e, -⟩ | ⟨g', cap', cur, e, hg, hh, hn, hm, hs, hc⟩
 ·cases e
 ·cases e
  refine ⟨by unfold ncells; simp, .inr ⟨g, cap, cur.setIfInBounds j (.int .i64 x), by rw [List.length_set], hg, heap_setCell_same w g j cur _ _ hh, by rw [List.length_set]; exact hn, hm, by simpa using hs, ?_⟩⟩
  rw [List.length_set, Array.toList_setIfInBounds, List.take_set, hc]
  unfold ncells
  rw [List.map_set]
theorem numsOwn_cell {w : World} {base g cap n : Nat} {l : List Int} (h : numsOwn w base (.slice (some ⟨g, 0, none⟩) n cap) l) {j : Nat} {x : Int} (hx : l[j]? = some x) : w.cell? ⟨g, j, none⟩ = some (.int .i64 x) /\ w.frozen? ⟨g, j, none⟩ = false := by
 have hl := (List.getElem?_eq_some_iff.1 hx).1
 obtain rfl : n = l.length := by
  obtain ⟨ad, c, e, -⟩ := numsOwn_at h
  cases e; rfl
 refine ⟨?_, ?_⟩
 ·unfold numsOwn at h
  rw [World.ownsRow.cellAt h j (by rw [Nat.mul_one]; exact hl)]
  unfold ncells
  rw [List.getElem?_map, hx]; rfl
 ·obtain ⟨h1, h2⟩ := h
  rcases h2 with ⟨e, -⟩ | ⟨g', cap', cur, e, hg, hh, hn, hm, hs, hc⟩
  ·cases e
  ·cases e
   exact frozen_of_row w g j cur _ hh
end
section
open Go.RowKit Go.Extern.Stop Go.Stop Go.Extern Go.Maps Go.WideMaps Go.Sort
def codesAt (ad : Option Addr) (cs : List (List Ins)) (w : World) : Prop := ∀ (t : Nat) L, cs[t]? = some L -> ∃ b off adl capl, ad = some ⟨b, off, none⟩ /\ w.cell? ⟨b, off + t, none⟩ = some (.slice adl L.length capl) /\ L.length <= capl /\ insAt adl L w /\ (adl = none -> L = [])
theorem codesAt.below {ad : Option Addr} {cs : List (List Ins)} {w w' : World} (h : codesAt ad cs w) (hb : Below w.heap.size w w') : codesAt ad cs w' := fun t L ht => by
 obtain ⟨b, off, adl, capl, h1, h2, h3, h4, h5⟩ := h t L ht
 exact ⟨b, off, adl, capl, h1, keep_cell hb h2, h3, insAt_below h4 hb, h5⟩
end
end Go.Proofs.YtaiigfcfmcicjaaGreatDoor
