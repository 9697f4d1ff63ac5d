import Derived.Test.YtaiigfcfmcicjaaGreatDoorB17
import Derived.Test.YtaiigfcfmcicjaaGreatDoorShelf
import Derived.BigQuiet

/- GdB -/
namespace Go.Proofs.YtaiigfcfmcicjaaGreatDoor
open Go.RowKit Go.Extern.Stop Go.Stop Go.Extern Go.Maps Go.WideMaps Go.Sort

def Put (b : Nat) (f : Int) (p : ByteArray) (k' : Nat) (v : Value) (L D : List Ins) (w : World) : Ending → World → Prop := fun e w' => e = .returned (.tuple #[]) ∧ ∃ v', LnsAt b f p k' v' (L ++ D) w' ∧ LStep b w v w' v'

theorem lines_do {b : Nat} {f : Int} {p : ByteArray} {k : Nat} {v : Value} {L : List Ins} {w : World} (h : LnsAt b f p k v L w) (hL : L.length ≤ 1000) (op : ByteArray) (ad : Option Addr) (nums : List Int) (ncap : Nat) (hk : nums.length ≤ 3) (ha : numsAt ad nums w) {x0 x1 x2 : Int} (h0 : nums.getD 0 0 = x0) (h1 : nums.getD 1 0 = x1) (h2 : nums.getD 2 0 = x2) :
    Calls Tryz.prog 97 #[.pointer (some ⟨b, 1, none⟩), .string op, .slice ad nums.length ncap] w (Put b f p k v L [⟨op, x0, x1, x2, no⟩] w) := by
  unfold Put
  go_enter Tryz.func97, Tryz.ntmps97
  go_wp2_with (go_at_call 131; refine (lines_to h hL no op ad nums ncap hk ha h0 h1 h2).mono ?_; rintro e w' ⟨rfl, hp⟩)
  go_end0
  exact ⟨rfl, hp⟩

theorem numsAt_none (w : World) : numsAt none [] w := fun i x h => by simp at h
def Fn.goes (n : Nat) : Prop := ∀ (args : Array Value) (w : World), Sem.run Tryz.prog (callFunc n args) w = .ok (.enter n args) w
def FreshIs (b : Nat) (f : Int) (p : ByteArray) (k : Nat) : Prop := ∀ (v : Value) (L : List Ins) (w : World), LnsAt b f p k v L w → Calls Tryz.prog 150 #[.pointer (some ⟨b, 1, none⟩)] w fun e w' => e = .returned (.string (lb p (k + 1))) ∧ LnsAt b f p (k + 1) v L w' ∧ LStep b w v w' v
def lblI (q : ByteArray) : Ins := ⟨⟨#[108, 97, 98, 101, 108]⟩, 0, 0, 0, q⟩

set_option maxRecDepth 20000 in
set_option maxHeartbeats 1000000 in
theorem lines_block {b : Nat} {f : Int} {p : ByteArray} {k k' : Nat} {v : Value} {L D : List Ins} {w : World} (h : LnsAt b f p k v L w) (hq : FreshIs b f p k)
    (n : Nat) (hn : Fn.goes n) (caps : Array Value) (hL : (L ++ D).length ≤ 1000)
    (hb : ∀ w1, LnsAt b f p (k + 1) v L w1 → LStep b w v w1 v → Calls Tryz.prog n (#[.string (lb p (k + 1))] ++ caps) w1 (Put b f p k' v L D w1)) :
    Calls Tryz.prog 129 #[.pointer (some ⟨b, 1, none⟩), .func (.func n) #[] caps] w (Put b f p k' v L (D ++ [lblI (lb p (k + 1))]) w) := by
  have HQ := hide (hq v L w h)
  have HB := hide hb
  have HN := hide hn
  clear hb hq hn h
  unfold Put
  generalize lb p (k + 1) = q at *
  go_enter Tryz.func129, Tryz.ntmps129
  go_wp2_with (go_at_call 150; refine HQ.out.mono ?_; rintro e w1 ⟨rfl, h1, s1⟩)
  rw [HN.out, Oper.upon_enter]
  refine (HB.out w1 h1 s1).mono ?_
  rintro e w2 ⟨rfl, v2, h2, s2⟩
  dsimp only
  go_wp2_with (go_at_call 131; refine (lines_to h2 hL q ⟨#[108, 97, 98, 101, 108]⟩ none [] 0 (by decide) (numsAt_none _) rfl rfl rfl).mono ?_; rintro e w3 ⟨rfl, v3, h3, s3⟩)
  go_end0
  exact ⟨rfl, v3, by rw [← List.append_assoc]; exact h3, (s1.trans s2).trans s3⟩

set_option maxRecDepth 20000 in
set_option maxHeartbeats 1000000 in
theorem lines_loop {b : Nat} {f : Int} {p : ByteArray} {k k' : Nat} {v : Value} {L D : List Ins} {w : World} (h : LnsAt b f p k v L w) (hq : FreshIs b f p k)
    (n : Nat) (hn : Fn.goes n) (caps : Array Value) (hL : L.length ≤ 1000)
    (hb : ∀ v1 w1, LnsAt b f p (k + 1) v1 (L ++ [lblI (lb p (k + 1))]) w1 → LStep b w v w1 v1 → Calls Tryz.prog n (#[.string (lb p (k + 1))] ++ caps) w1 (Put b f p k' v1 (L ++ [lblI (lb p (k + 1))]) D w1)) :
    Calls Tryz.prog 139 #[.pointer (some ⟨b, 1, none⟩), .func (.func n) #[] caps] w (Put b f p k' v L (lblI (lb p (k + 1)) :: D) w) := by
  have HQ := hide (hq v L w h)
  have HB := hide hb
  have HN := hide hn
  clear hb hq hn h
  unfold Put
  generalize lb p (k + 1) = q at *
  go_enter Tryz.func139, Tryz.ntmps139
  go_wp2_with (first
    | (go_at_call 150; refine HQ.out.mono ?_; rintro e w1 ⟨rfl, h1, s1⟩)
    | (go_at_call 131; refine (lines_to h1 hL q ⟨#[108, 97, 98, 101, 108]⟩ none [] 0 (by decide) (numsAt_none _) rfl rfl rfl).mono ?_; rintro e w2 ⟨rfl, v2, h2, s2⟩))
  rw [HN.out, Oper.upon_enter]
  refine (HB.out v2 w2 h2 (s1.trans s2)).mono ?_
  rintro e w3 ⟨rfl, v3, h3, s3⟩
  dsimp only
  go_wp2
  go_end0
  exact ⟨rfl, v3, by rw [List.append_assoc] at h3; exact h3, (s1.trans s2).trans s3⟩
end Go.Proofs.YtaiigfcfmcicjaaGreatDoor

/- GdC -/
namespace Go.Proofs.YtaiigfcfmcicjaaGreatDoor
open Go.RowKit Go.Extern.Stop Go.Stop Go.Extern Go.Maps Go.WideMaps Go.Sort

theorem dec_one (k : Nat) (h : k + 1 ≤ 9) : (⟨(Lib.decDigits (k + 1)).toArray⟩ : ByteArray) = ⟨#[UInt8.ofNat (48 + (k + 1))]⟩ := by
  have : k = 0 ∨ k = 1 ∨ k = 2 ∨ k = 3 ∨ k = 4 ∨ k = 5 ∨ k = 6 ∨ k = 7 ∨ k = 8 := by omega
  rcases this with rfl | rfl | rfl | rfl | rfl | rfl | rfl | rfl | rfl <;> decide +kernel

set_option maxRecDepth 20000 in
set_option maxHeartbeats 1000000 in
theorem lines_fresh {b : Nat} {f : Int} {p : ByteArray} {k : Nat} (hk : k + 1 ≤ 9) (hp : p.size ≤ 1000) : FreshIs b f p k := by
  intro v L w h
  have h1 := h.c1
  have h2 := h.c2
  have f2 := h.fz 2
  have hb : b < w.heap.size := by have := h.sz; omega
  have HH := hide h
  clear h
  have wr : IntKind.i64.wrap ((k : Int) + 1) = ((k + 1 : Nat) : Int) := by rw [IntKind.wrap_i64]; omega
  have HI : Hid (∀ w', Calls Tryz.prog 134 #[.int .i64 ((k : Int) + 1)] w' fun e w'' => e = .returned (.string ⟨#[UInt8.ofNat (48 + (k + 1))]⟩) ∧ w'' = w') := hide fun w' => by
    have := Tryz.strconv_Itoa_small (k + 1) (by omega) w'
    rw [dec_one k hk] at this
    rwa [show ((k + 1 : Nat) : Int) = (k : Int) + 1 by omega] at this
  have hsz : p.size + (⟨#[UInt8.ofNat (48 + (k + 1))]⟩ : ByteArray).size ≤ 9223372036854775807 := by
    show p.size + 1 ≤ _
    omega
  have HD : Hid (lb p (k + 1) = p ++ (⟨#[UInt8.ofNat (48 + (k + 1))]⟩ : ByteArray)) := hide rfl
  generalize UInt8.ofNat (48 + (k + 1)) = d at *
  go_enter Tryz.func150, Tryz.ntmps150
  go_wp2_with fail
  have HL : Hid (LnsAt b f p (k + 1) v L (w.setCell ⟨b, 2, none⟩ (.int .i64 ((k : Int) + 1)))) := hide (by
    obtain ⟨c0, c1, c2, c3, fz, own, sz⟩ := HH.out
    exact ⟨cell_ne c0 (.inr (by decide)), cell_ne c1 (.inr (by decide)), World.cell?_setCell_same _ _ _ c2, cell_ne c3 (.inr (by decide)), fun o => by rw [World.frozen?_setCell]; exact fz o,
      ownsRow_block own (fun q hq => Below.heap_setCell _ _ _ _ (fun e => by have := (own.lt q hq).1; dsimp only at e; omega)), by
        have e : (w.setCell ⟨b, 2, none⟩ (.int .i64 ((k : Int) + 1))).heap.size = w.heap.size := by simp [World.setCell]
        rw [e]; exact sz⟩)
  have HS : Hid (LStep b w v (w.setCell ⟨b, 2, none⟩ (.int .i64 ((k : Int) + 1))) v) := hide ⟨(Below.refl _ _).setCell (show b ≤ b from Nat.le_refl _) _, fun q hq h3 _ => Below.heap_setCell _ _ _ _ (fun e => h3 (by dsimp only at e; omega)), fun _ _ e => e⟩
  generalize w.setCell ⟨b, 2, none⟩ (.int .i64 ((k : Int) + 1)) = w2 at *
  have c1 := HL.out.c1
  have c2 : w2.cell? ⟨b, 2, none⟩ = some (.int .i64 ((k : Int) + 1)) := HL.out.c2
  clear h1 h2 f2
  go_quiet ((go_at_call 134; exact Calls.quiet_of_same (HI.out _)))
  go_wp2
  go_ret
  exact ⟨by rw [HD.out]; rfl, HL.out.below (below_dN (Below.refl _ _) _), HS.out.trans (LStep.of_below v (below_dN (Below.refl _ _) _) (by have := HL.out.sz; omega))⟩
end Go.Proofs.YtaiigfcfmcicjaaGreatDoor

/- GdD -/
namespace Go.Proofs.YtaiigfcfmcicjaaGreatDoor
open Go.RowKit Go.Extern.Stop Go.Stop Go.Extern Go.Maps Go.WideMaps Go.Sort

def Bx (b : Nat) (w : World) (v : Value) (x : Nat × Value) : Prop := x.1 ≠ b ∧ x.1 < w.heap.size ∧ v.ownBlock ≠ some x.1 ∧ w.cell? ⟨x.1, 0, none⟩ = some x.2
theorem Bx.step {b : Nat} {w w' : World} {v v' : Value} {x : Nat × Value} (h : Bx b w v x) (s : LStep b w v w' v') : Bx b w' v' x := by
  obtain ⟨h1, h2, h3, h4⟩ := h
  refine ⟨h1, by have := s.low.size; omega, fun e => h3 (s.own _ h2 e), ?_⟩
  rw [World.cell?_of_block (s.keep _ h2 h1 h3)]; exact h4
structure MAt (b : Nat) (f : Int) (p : ByteArray) (k : Nat) (B : List (Nat × Value)) (w0 : World) (v0 : Value) (L : List Ins) (w : World) : Prop where
  out : ∃ v, LnsAt b f p k v L w ∧ LStep b w0 v0 w v ∧ ∀ x ∈ B, Bx b w v x
section
variable {b : Nat} {f : Int} {p : ByteArray} {k : Nat} {B : List (Nat × Value)} {w0 : World} {v0 : Value} {L : List Ins} {w : World}
theorem MAt.step (h : ∃ v, LnsAt b f p k v L w ∧ LStep b w0 v0 w v ∧ ∀ x ∈ B, Bx b w v x) {k' : Nat} {L' : List Ins} {w' : World} (g : ∀ v, LnsAt b f p k v L w → ∃ v', LnsAt b f p k' v' L' w' ∧ LStep b w v w' v') : MAt b f p k' B w0 v0 L' w' := by
  obtain ⟨v, h1, h2, h3⟩ := h
  obtain ⟨v', g1, g2⟩ := g v h1
  exact ⟨v', g1, h2.trans g2, fun x hx => (h3 x hx).step g2⟩
theorem MAt.below {w' : World} (h : MAt b f p k B w0 v0 L w) (g : Below w.heap.size w w') : MAt b f p k B w0 v0 L w' :=
  MAt.step h.out fun v hv => ⟨v, hv.below g, LStep.of_below v g (by have := hv.sz; omega)⟩
theorem MAt.c0 (h : MAt b f p k B w0 v0 L w) : w.cell? ⟨b, 0, none⟩ = some (.int .i64 f) := by obtain ⟨v, h1, -⟩ := h.out; exact h1.c0
theorem MAt.bx (h : MAt b f p k B w0 v0 L w) {x : Nat × Value} (hx : x ∈ B) : w.cell? ⟨x.1, 0, none⟩ = some x.2 := by obtain ⟨v, -, -, h1⟩ := h.out; exact (h1 x hx).2.2.2
theorem MAt.box (h : MAt b f p k B w0 v0 L w) (u : Value) (t : TypeId) : MAt b f p k ((w.heap.size, u) :: B) w0 v0 L (w.alloc (.cells #[u] t)) := by
  obtain ⟨v, h1, h2, h3⟩ := (h.below ((Below.refl _ _).alloc (Nat.le_refl _) (.cells #[u] t))).out
  refine ⟨v, h1, h2, fun x hx => ?_⟩
  rcases List.mem_cons.1 hx with rfl | hx
  · obtain ⟨v1, g1, -⟩ := h.out
    have hs := g1.sz
    refine ⟨by show w.heap.size ≠ b; omega, by simp, fun e => ?_, ?_⟩
    · have c1 := g1.below ((Below.refl _ _).alloc (Nat.le_refl _) (.cells #[u] t))
      have e3 : v = v1 := Option.some.inj (h1.c3.symm.trans c1.c3)
      subst e3
      have := (g1.own.lt _ e).2
      exact absurd this (Nat.lt_irrefl _)
    · show (w.alloc (.cells #[u] t)).cell? ⟨w.heap.size, 0, none⟩ = _
      rw [World.cell?_alloc_new]; rfl
  · exact h3 x hx
theorem MAt.drop {B' : List (Nat × Value)} (h : MAt b f p k B w0 v0 L w) (hB : ∀ x ∈ B', x ∈ B) : MAt b f p k B' w0 v0 L w := by
  obtain ⟨v, h1, h2, h3⟩ := h.out
  exact ⟨v, h1, h2, fun x hx => h3 x (hB x hx)⟩
def numsOf (cs : Array Value) : List Int := cs.toList.map intOf
theorem gnumsAt_new {cs : Array Value} {t : TypeId} (h : cs.toList = gcells (numsOf cs)) : numsAt (some ⟨w.heap.size, 0, none⟩) (numsOf cs) (w.alloc (.cells cs t)) := fun i x hx => by
  refine ⟨w.heap.size, 0, rfl, ?_⟩
  rw [World.cell?_alloc_new, Nat.zero_add]
  have : cs.toList[i]? = some (.int .i64 x) := by rw [h]; unfold gcells; rw [List.getElem?_map, hx]; rfl
  simpa using this
theorem MAt.to (h : MAt b f p k B w0 v0 L w) (hL : L.length ≤ 1000) (q op : ByteArray) (cs : Array Value) (t : TypeId) (n c : Nat) (hn : (numsOf cs).length = n) (h3 : n ≤ 3) (hcs : cs.toList = gcells (numsOf cs)) :
    Calls Tryz.prog 131 #[.pointer (some ⟨b, 1, none⟩), .string q, .string op, .slice (some ⟨w.heap.size, 0, none⟩) n c] (w.alloc (.cells cs t)) fun e w' => e = .returned (.tuple #[]) ∧ MAt b f p k B w0 v0 (L ++ [⟨op, (numsOf cs).getD 0 0, (numsOf cs).getD 1 0, (numsOf cs).getD 2 0, q⟩]) w' := by
  subst hn
  have h2 := h.below ((Below.refl _ _).alloc (Nat.le_refl _) (.cells cs t))
  obtain ⟨v, g1, g2, g3⟩ := h2.out
  refine (lines_to g1 hL q op _ _ c h3 (gnumsAt_new hcs) rfl rfl rfl).mono ?_
  rintro e w' ⟨rfl, v', r1, r2⟩
  exact ⟨rfl, v', r1, g2.trans r2, fun x hx => (g3 x hx).step r2⟩
theorem MAt.to_none (h : MAt b f p k B w0 v0 L w) (hL : L.length ≤ 1000) (q op : ByteArray) :
    Calls Tryz.prog 131 #[.pointer (some ⟨b, 1, none⟩), .string q, .string op, .slice none 0 0] w fun e w' => e = .returned (.tuple #[]) ∧ MAt b f p k B w0 v0 (L ++ [⟨op, 0, 0, 0, q⟩]) w' := by
  obtain ⟨v, g1, g2, g3⟩ := h.out
  refine (lines_to g1 hL q op none [] 0 (by decide) (numsAt_none _) rfl rfl rfl).mono ?_
  rintro e w' ⟨rfl, v', r1, r2⟩
  exact ⟨rfl, v', r1, g2.trans r2, fun x hx => (g3 x hx).step r2⟩
theorem MAt.do (h : MAt b f p k B w0 v0 L w) (hL : L.length ≤ 1000) (op : ByteArray) (cs : Array Value) (t : TypeId) (n c : Nat) (hn : (numsOf cs).length = n) (h3 : n ≤ 3) (hcs : cs.toList = gcells (numsOf cs)) :
    Calls Tryz.prog 97 #[.pointer (some ⟨b, 1, none⟩), .string op, .slice (some ⟨w.heap.size, 0, none⟩) n c] (w.alloc (.cells cs t)) fun e w' => e = .returned (.tuple #[]) ∧ MAt b f p k B w0 v0 (L ++ [⟨op, (numsOf cs).getD 0 0, (numsOf cs).getD 1 0, (numsOf cs).getD 2 0, no⟩]) w' := by
  subst hn
  have h2 := h.below ((Below.refl _ _).alloc (Nat.le_refl _) (.cells cs t))
  obtain ⟨v, g1, g2, g3⟩ := h2.out
  refine (lines_do g1 hL op _ _ c h3 (gnumsAt_new hcs) rfl rfl rfl).mono ?_
  rintro e w' ⟨rfl, v', r1, r2⟩
  exact ⟨rfl, v', r1, g2.trans r2, fun x hx => (g3 x hx).step r2⟩
theorem MAt.do_none (h : MAt b f p k B w0 v0 L w) (hL : L.length ≤ 1000) (op : ByteArray) :
    Calls Tryz.prog 97 #[.pointer (some ⟨b, 1, none⟩), .string op, .slice none 0 0] w fun e w' => e = .returned (.tuple #[]) ∧ MAt b f p k B w0 v0 (L ++ [⟨op, 0, 0, 0, no⟩]) w' := by
  obtain ⟨v, g1, g2, g3⟩ := h.out
  refine (lines_do g1 hL op none [] 0 (by decide) (numsAt_none _) rfl rfl rfl).mono ?_
  rintro e w' ⟨rfl, v', r1, r2⟩
  exact ⟨rfl, v', r1, g2.trans r2, fun x hx => (g3 x hx).step r2⟩
theorem MAt.to1 (h : MAt b f p k B w0 v0 L w) (hL : L.length ≤ 1000) (q : ByteArray) (op : ByteArray) (x : Int) (t : TypeId) {s : Nat} (hs : s = w.heap.size) :
    Calls Tryz.prog 131 #[.pointer (some ⟨b, 1, none⟩), .string q, .string op, .slice (some ⟨s, 0, none⟩) 1 1] (w.alloc (.cells #[.int .i64 x] t)) fun e w' => e = .returned (.tuple #[]) ∧ MAt b f p k B w0 v0 (L ++ [⟨op, x, 0, 0, q⟩]) w' := by
  subst hs
  exact MAt.to h hL q op #[.int .i64 x] t 1 1 rfl (by decide) rfl
theorem MAt.to2 (h : MAt b f p k B w0 v0 L w) (hL : L.length ≤ 1000) (q : ByteArray) (op : ByteArray) (x y : Int) (t : TypeId) {s : Nat} (hs : s = w.heap.size) :
    Calls Tryz.prog 131 #[.pointer (some ⟨b, 1, none⟩), .string q, .string op, .slice (some ⟨s, 0, none⟩) 2 2] (w.alloc (.cells #[.int .i64 x, .int .i64 y] t)) fun e w' => e = .returned (.tuple #[]) ∧ MAt b f p k B w0 v0 (L ++ [⟨op, x, y, 0, q⟩]) w' := by
  subst hs
  exact MAt.to h hL q op #[.int .i64 x, .int .i64 y] t 2 2 rfl (by decide) rfl
theorem MAt.to3 (h : MAt b f p k B w0 v0 L w) (hL : L.length ≤ 1000) (q : ByteArray) (op : ByteArray) (x y z : Int) (t : TypeId) {s : Nat} (hs : s = w.heap.size) :
    Calls Tryz.prog 131 #[.pointer (some ⟨b, 1, none⟩), .string q, .string op, .slice (some ⟨s, 0, none⟩) 3 3] (w.alloc (.cells #[.int .i64 x, .int .i64 y, .int .i64 z] t)) fun e w' => e = .returned (.tuple #[]) ∧ MAt b f p k B w0 v0 (L ++ [⟨op, x, y, z, q⟩]) w' := by
  subst hs
  exact MAt.to h hL q op #[.int .i64 x, .int .i64 y, .int .i64 z] t 3 3 rfl (by decide) rfl
theorem MAt.do1 (h : MAt b f p k B w0 v0 L w) (hL : L.length ≤ 1000) (op : ByteArray) (x : Int) (t : TypeId) {s : Nat} (hs : s = w.heap.size) :
    Calls Tryz.prog 97 #[.pointer (some ⟨b, 1, none⟩), .string op, .slice (some ⟨s, 0, none⟩) 1 1] (w.alloc (.cells #[.int .i64 x] t)) fun e w' => e = .returned (.tuple #[]) ∧ MAt b f p k B w0 v0 (L ++ [⟨op, x, 0, 0, no⟩]) w' := by
  subst hs
  exact MAt.do h hL op #[.int .i64 x] t 1 1 rfl (by decide) rfl
theorem MAt.do2 (h : MAt b f p k B w0 v0 L w) (hL : L.length ≤ 1000) (op : ByteArray) (x y : Int) (t : TypeId) {s : Nat} (hs : s = w.heap.size) :
    Calls Tryz.prog 97 #[.pointer (some ⟨b, 1, none⟩), .string op, .slice (some ⟨s, 0, none⟩) 2 2] (w.alloc (.cells #[.int .i64 x, .int .i64 y] t)) fun e w' => e = .returned (.tuple #[]) ∧ MAt b f p k B w0 v0 (L ++ [⟨op, x, y, 0, no⟩]) w' := by
  subst hs
  exact MAt.do h hL op #[.int .i64 x, .int .i64 y] t 2 2 rfl (by decide) rfl
theorem MAt.do3 (h : MAt b f p k B w0 v0 L w) (hL : L.length ≤ 1000) (op : ByteArray) (x y z : Int) (t : TypeId) {s : Nat} (hs : s = w.heap.size) :
    Calls Tryz.prog 97 #[.pointer (some ⟨b, 1, none⟩), .string op, .slice (some ⟨s, 0, none⟩) 3 3] (w.alloc (.cells #[.int .i64 x, .int .i64 y, .int .i64 z] t)) fun e w' => e = .returned (.tuple #[]) ∧ MAt b f p k B w0 v0 (L ++ [⟨op, x, y, z, no⟩]) w' := by
  subst hs
  exact MAt.do h hL op #[.int .i64 x, .int .i64 y, .int .i64 z] t 3 3 rfl (by decide) rfl
theorem MAt.block (h : MAt b f p k B w0 v0 L w) (hk : k + 1 ≤ 9) (hp : p.size ≤ 1000) {k' : Nat} (D : List Ins) (n : Nat) (hn : Fn.goes n) (caps : Array Value) (hL : (L ++ D).length ≤ 1000)
    (hb : ∀ w1 w2 v2, MAt b f p (k + 1) B w2 v2 L w1 → Calls Tryz.prog n (#[.string (lb p (k + 1))] ++ caps) w1 fun e w' => e = .returned (.tuple #[]) ∧ MAt b f p k' B w2 v2 (L ++ D) w') :
    Calls Tryz.prog 129 #[.pointer (some ⟨b, 1, none⟩), .func (.func n) #[] caps] w fun e w' => e = .returned (.tuple #[]) ∧ MAt b f p k' B w0 v0 (L ++ (D ++ [lblI (lb p (k + 1))])) w' := by
  obtain ⟨v, g1, g2, g3⟩ := h.out
  refine (lines_block g1 (lines_fresh hk hp) n hn caps hL (D := D) (k' := k') fun w1 r1 r2 => ?_).mono ?_
  · refine (hb w1 w1 v ⟨v, r1, LStep.refl _ _ _, fun x hx => (g3 x hx).step r2⟩).mono ?_
    rintro e w' ⟨rfl, v', t1, t2, -⟩
    exact ⟨rfl, v', t1, t2⟩
  · rintro e w' ⟨rfl, v', t1, t2⟩
    exact ⟨rfl, v', t1, g2.trans t2, fun x hx => (g3 x hx).step t2⟩
theorem MAt.loop (h : MAt b f p k B w0 v0 L w) (hk : k + 1 ≤ 9) (hp : p.size ≤ 1000) {k' : Nat} (D : List Ins) (n : Nat) (hn : Fn.goes n) (caps : Array Value) (hL : L.length ≤ 1000)
    (hb : ∀ w1 w2 v2, MAt b f p (k + 1) B w2 v2 (L ++ [lblI (lb p (k + 1))]) w1 → Calls Tryz.prog n (#[.string (lb p (k + 1))] ++ caps) w1 fun e w' => e = .returned (.tuple #[]) ∧ MAt b f p k' B w2 v2 (L ++ [lblI (lb p (k + 1))] ++ D) w') :
    Calls Tryz.prog 139 #[.pointer (some ⟨b, 1, none⟩), .func (.func n) #[] caps] w fun e w' => e = .returned (.tuple #[]) ∧ MAt b f p k' B w0 v0 (L ++ (lblI (lb p (k + 1)) :: D)) w' := by
  obtain ⟨v, g1, g2, g3⟩ := h.out
  refine (lines_loop g1 (lines_fresh hk hp) n hn caps hL (D := D) (k' := k') fun v1 w1 r1 r2 => ?_).mono ?_
  · refine (hb w1 w1 v1 ⟨v1, r1, LStep.refl _ _ _, fun x hx => (g3 x hx).step r2⟩).mono ?_
    rintro e w' ⟨rfl, v', t1, t2, -⟩
    exact ⟨rfl, v', t1, t2⟩
  · rintro e w' ⟨rfl, v', t1, t2⟩
    exact ⟨rfl, v', t1, g2.trans t2, fun x hx => (g3 x hx).step t2⟩
end
end Go.Proofs.YtaiigfcfmcicjaaGreatDoor
