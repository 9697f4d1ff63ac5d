import Derived.Test.YtnnlkolhahjokaaGreatDoorB30
import Derived.Test.YtnnlkolhahjokaaGreatDoorB27
import Derived.Deep.RegionLaw

/- StN -/
namespace Go.Proofs.YtnnlkolhahjokaaGreatDoor
open Go.RowKit Go.Extern.Stop Go.Stop Go.Extern Go.Maps Go.WideMaps Go.Sort

set_option maxRecDepth 100000 in
set_option maxHeartbeats 2000000 in
theorem kcopy_any {a : Nat → Addr} {cs : List (List Ins)} {p : MkPl} {m : Mk} {w : World} (h : MkAt a cs p m w) (h5 : m.marks.length ≤ 500) :
    Calls Tryz.prog 23 #[.pointer (some ⟨p.b, 0, none⟩)] w fun e w' => ∃ v, e = .returned (.pointer (some ⟨w.heap.size, 0, none⟩)) ∧ Hid (MkAt a cs ⟨p.B, w.heap.size, p.pb, p.pc, v⟩ m w' ∧ Below w.heap.size w w' ∧ ∀ k, v.ownBlock = some k → w.heap.size ≤ k) := by
  obtain ⟨C, hC, hc, h1⟩ := h.rowOf
  have hks := machSize C hC
  have HC : Hid (∀ k, k < C.size → C[k]? = w.cell? ⟨p.b, k, none⟩) := hide fun k hk => hc k (by omega)
  have H := hide h
  have Hc := hide hc
  have H5 := hide h5
  obtain ⟨ad0, cap0, hvs, -⟩ := ownsRow_shape h.own
  have hm := h.marks
  have hl := h.lt
  rw [hvs] at hm
  have HV := hide hvs
  clear h h5 hc hvs
  obtain ⟨W2, hW2⟩ : ∃ W2, W2 = (w.alloc (.cells Tryz.zeroCells80 80)).setRow w.heap.size C := ⟨_, rfl⟩
  have hr1 : (w.alloc (.cells Tryz.zeroCells80 80)).heap[w.heap.size]? = some (.cells Tryz.zeroCells80 80 (0, 0)) := heap_alloc_new w _
  have hrow : W2.heap[w.heap.size]? = some (.cells C 80 (0, 0)) := by rw [hW2]; exact setRow_heap _ _ _ _ _ _ hr1
  have hs2 : W2.heap.size = w.heap.size + 1 := by rw [hW2]; simp [World.setRow]
  have hb2 : Below w.heap.size w W2 := by
    rw [hW2]
    exact ⟨rfl, rfl, rfl, by simp [World.setRow], fun k hk => by rw [setRow_other _ _ _ _ (by omega)]; exact Below.heap_alloc w _ k hk⟩
  have hm2 : W2.cell? ⟨p.b, 639, none⟩ = some (.slice ad0 m.marks.length cap0) := keep_cell hb2 hm
  have HCl := hide (cloneM_any (w := W2) (v := .slice ad0 m.marks.length cap0) (by have := (H.out.below hb2).own; rw [HV.out] at this; exact this) (by have := H5.out; omega))
  have HA : Hid (∀ w3 v, Below W2.heap.size W2 w3 → w3.ownsRow W2.heap.size 115 2 v m.marks.length (markCells m.marks) → MkAt a cs ⟨p.B, w.heap.size, p.pb, p.pc, v⟩ m (w3.setCell ⟨w.heap.size, 639, none⟩ v) ∧ Below w.heap.size w (w3.setCell ⟨w.heap.size, 639, none⟩ v) ∧ ∀ k, v.ownBlock = some k → w.heap.size ≤ k) := hide fun w3 v hb hown => by
    obtain ⟨q1, q2⟩ := copy_at H.out Hc.out hs2 hrow hb2 hb hown
    exact ⟨q1, q2, fun k hk => by have := (hown.lt k hk).1; omega⟩
  have hcell : Hid (∀ w3, Below W2.heap.size W2 w3 → (∃ u, w3.cell? ⟨w.heap.size, 639, none⟩ = some u) ∧ w3.frozen? ⟨w.heap.size, 639, none⟩ = false) := hide fun w3 hb => by
    have hr3 : w3.heap[w.heap.size]? = some (.cells C 80 (0, 0)) := (hb.block _ (by omega)).trans hrow
    obtain ⟨u, hu, -⟩ := H.out.whole 639 (by decide)
    exact ⟨⟨u, by rw [cell_of_row hr3, Hc.out 639 (by decide)]; exact hu⟩, frozen_of_row _ _ _ _ _ hr3⟩
  rw [hW2] at hm2
  clear hrow hs2 hb2 hm H Hc HV H5
  go_enter Tryz.func23, Tryz.ntmps23
  go_wp2_with (first
    | refine wpList_load_cells (by rfl) 80 _ (by rfl) p.b (by rfl) C _ HC.out Tryz.underlying80 (by rfl) hks ?_
    | refine wpList_store_row (by rfl) 80 _ _ (by rfl) w.heap.size C (by rfl) (by rfl) 80 Tryz.zeroCells80 hr1 hks (by rw [zeroK_size, hC]) h1 ?_)
  rw [← hW2]
  refine HCl.out.mono ?_
  rintro e w3 ⟨v, rfl, hown, hb⟩
  obtain ⟨⟨u, hu⟩, hf⟩ := hcell.out w3 hb
  have HZ := hide (HA.out w3 v hb hown)
  obtain ⟨ad, cap, rfl, -⟩ := ownsRow_shape hown
  clear HCl HA hcell hown hb hm2 hr1 HC hks h1 hC
  go_wp2
  go_ret
  exact ⟨_, rfl, HZ.out⟩
end Go.Proofs.YtnnlkolhahjokaaGreatDoor

/- WkH -/
namespace Go.Proofs.YtnnlkolhahjokaaGreatDoor
open Go.RowKit Go.Extern.Stop Go.Stop Go.Extern Go.Maps Go.WideMaps Go.Sort

structure ToldAt (tb : Nat) (s e : Int) (w : World) : Prop where
  states : w.cell? ⟨tb, 0, none⟩ = some (.int .i64 s)
  ends : w.cell? ⟨tb, 1, none⟩ = some (.int .i64 e)
  fz : ∀ o, o < 4 → w.frozen? ⟨tb, o, none⟩ = false
  fault : w.cell? ⟨tb, 2, none⟩ = some (.bool false)
  way : w.cell? ⟨tb, 3, none⟩ = some (.slice none 0 0)
theorem ToldAt.lt {tb : Nat} {s e : Int} {w : World} (h : ToldAt tb s e w) : tb < w.heap.size := World.block_lt_of_cell? _ _ h.states
theorem ToldAt.turns {S : Nat → Nat → Prop} {tb : Nat} {s e : Int} {w w' : World} (h : ToldAt tb s e w) (t : Turns S w w') (hS : ∀ o, ¬ S tb o) : ToldAt tb s e w' :=
  ⟨t.keep h.states (hS _), t.keep h.ends (hS _), fun o ho => by rw [t.frozen _ _ h.lt (hS _)]; exact h.fz o ho, t.keep h.fault (hS _), t.keep h.way (hS _)⟩
theorem ToldAt.below {tb : Nat} {s e : Int} {w w' : World} (h : ToldAt tb s e w) (k : Below w.heap.size w w') : ToldAt tb s e w' := h.turns (S := fun _ _ => False) (Turns.of_below k) (fun _ h => h)
theorem ToldAt.set0 {tb : Nat} {s e : Int} {w : World} (h : ToldAt tb s e w) (s' : Int) : ToldAt tb s' e (w.setCell ⟨tb, 0, none⟩ (.int .i64 s')) :=
  ⟨World.cell?_setCell_same _ _ _ h.states, cell_ne h.ends (.inr (by omega)), fun o ho => by rw [World.frozen?_setCell]; exact h.fz o ho, cell_ne h.fault (.inr (by omega)), cell_ne h.way (.inr (by omega))⟩
theorem ToldAt.set1 {tb : Nat} {s e : Int} {w : World} (h : ToldAt tb s e w) (e' : Int) : ToldAt tb s e' (w.setCell ⟨tb, 1, none⟩ (.int .i64 e')) :=
  ⟨cell_ne h.states (.inr (by omega)), World.cell?_setCell_same _ _ _ h.ends, fun o ho => by rw [World.frozen?_setCell]; exact h.fz o ho, cell_ne h.fault (.inr (by omega)), cell_ne h.way (.inr (by omega))⟩

def endN (e : Int) : Bool → Int
  | true => e + 1
  | false => e

structure Seer where
  v : Value
  I : (Nat → Prop) → List Mk → World → Prop
  bx : Option Nat
  lo : Nat
structure BoxAt (a : Nat → Addr) (k : Nat) (w : World) : Prop where
  c0 : ∃ s n c, w.cell? ⟨k, 0, none⟩ = some (.slice s n c)
  c1 : ∀ o, 1 ≤ o → w.cell? ⟨k, o, none⟩ = none
  env : ∃ W, Env a W ∧ W.heap.size ≤ k ∧ Below W.heap.size W w
theorem BoxAt.lt {a : Nat → Addr} {k : Nat} {w : World} (h : BoxAt a k w) : k < w.heap.size := by
  obtain ⟨s, n, c, e⟩ := h.c0
  exact World.block_lt_of_cell? _ _ e
structure SeerFr (se : Seer) : Prop where
  lt : ∀ {X : Nat → Prop} {L : List Mk} {w : World}, se.I X L w → ∀ k, X k → k < w.heap.size
  keep : ∀ {X : Nat → Prop} {L : List Mk} {w w' : World} {T : Nat → Nat → Prop}, se.I X L w → Turns T w w' → (∀ k o, T k o → ¬ X k ∧ se.lo ≤ k) → se.I X L w'
structure SeerOk (a : Nat → Addr) (cs : List (List Ins)) (se : Seer) : Prop where
  fr : SeerFr se
  box : ∀ {X : Nat → Prop} {L : List Mk} {w : World}, se.I X L w → ∀ k, se.bx = some k → X k ∧ BoxAt a k w
  call : (se.v = .nilFunc ∧ ∀ (X : Nat → Prop) (L : List Mk) (w : World) (m : Mk), se.I X L w → se.I X (L ++ [m]) w) ∨
    (∃ (n : Nat) (caps : Array Value), se.v = .func (.func n) #[] caps ∧ (∀ (args : Array Value) (w : World), (callFunc n args).run Tryz.prog w = .ok (.enter n args) w) ∧ ∀ (p : MkPl) (m : Mk) (w : World) (X : Nat → Prop) (L : List Mk), MkAt a cs p m w → (∀ k, p.fp k → ¬ X k) → se.I X L w → L.length ≤ 100000 →
      Calls Tryz.prog n (#[.pointer (some ⟨p.b, 0, none⟩), .bool (endTo cs m cs.length)] ++ caps) w fun x w' => x = .returned (.tuple #[]) ∧ ∃ X', se.I X' (L ++ [m]) w' ∧ Turns (fun k _ => X k) w w' ∧ ∀ k, X' k → X k ∨ w.heap.size ≤ k)
def noSeer : Seer := ⟨.nilFunc, fun X _ _ => ∀ k, ¬ X k, none, 0⟩
theorem noSeer_ok (a : Nat → Addr) (cs : List (List Ins)) : SeerOk a cs noSeer := ⟨⟨fun h k hk => absurd hk (h k), fun h _ _ => h⟩, fun _ _ h => (by cases h), .inl ⟨rfl, fun _ _ _ _ h => h⟩⟩

theorem Pg.boxed {a : Nat → Addr} {cs : List (List Ins)} {pb pc k : Nat} {W W' : World} (h : Pg a cs pb pc W) (c0 : ∃ s n c, W.cell? ⟨k, 0, none⟩ = some (.slice s n c)) (c1 : ∀ o, 1 ≤ o → W.cell? ⟨k, o, none⟩ = none) (hb : ∀ j, j ≠ k → W'.heap[j]? = W.heap[j]?) (hE : Env a W') : Pg a cs pb pc W' := by
  obtain ⟨s, n, c, c0⟩ := c0
  refine ⟨hE, h.cap, fun t L ht => ?_, h.right, h.few⟩
  obtain ⟨ad, cap, lb, h1, h2, h3, h4, h5⟩ := h.code t L ht
  have npb : pb ≠ k := fun e => by
    subst e
    rw [c1 _ (by omega)] at h3
    cases h3
  refine ⟨ad, cap, lb, by rw [World.cell?_of_block (w := W) (hb _ npb)]; exact h1, h2, by rw [World.cell?_of_block (w := W) (hb _ npb)]; exact h3, fun i x hx => ?_, ?_⟩
  · obtain ⟨b, off, e, g0, g1, g2, g3, g4⟩ := h4 i x hx
    have nb : b ≠ k := fun e => by
      subst e
      rcases Nat.eq_zero_or_pos (off + i * 5) with e0 | e0
      · rw [e0, c0] at g0; cases g0
      · rw [c1 _ e0] at g0; cases g0
    exact ⟨b, off, e, by rw [World.cell?_of_block (w := W) (hb _ nb)]; exact g0, by rw [World.cell?_of_block (w := W) (hb _ nb)]; exact g1, by rw [World.cell?_of_block (w := W) (hb _ nb)]; exact g2, by rw [World.cell?_of_block (w := W) (hb _ nb)]; exact g3, by rw [World.cell?_of_block (w := W) (hb _ nb)]; exact g4⟩
  · obtain ⟨es, clock, g1, F, hs, hD⟩ := h5
    have nl : lb ≠ k := fun e => by
      subst e
      unfold World.cell? at c0
      rw [g1] at c0
      cases c0
    exact ⟨es, clock, by rw [hb _ nl]; exact g1, F, hs, hD⟩
theorem MkAt.turnsX {S : Nat → Nat → Prop} {a : Nat → Addr} {cs : List (List Ins)} {p : MkPl} {m : Mk} {w w' : World} {bx : Option Nat} (h : MkAt a cs p m w) (t : Turns S w w') (hS : ∀ k o, S k o → ¬ p.fp k) (hB : ∀ k o, S k o → p.B ≤ k ∨ bx = some k) (b : ∀ k, bx = some k → BoxAt a k w) (b' : ∀ k, bx = some k → BoxAt a k w') : MkAt a cs p m w' := by
  have pg : PgB a cs p.pb p.pc p.B w' := by
    obtain ⟨W, h1, h2, h3⟩ := h.pg.ex
    by_cases hk : ∃ k, bx = some k ∧ k < p.B
    · obtain ⟨k, rfl, hk⟩ := hk
      have B0 := b k rfl
      have B1 := b' k rfl
      obtain ⟨W0, hE, hle, hb0⟩ := B1.env
      have hkW : k < W.heap.size := by omega
      have hW : W.heap[k]? = w.heap[k]? := (h3.block k hk).symm
      have hk' : k < w'.heap.size := B1.lt
      have hset : ∀ j, (W.heap.setIfInBounds k w'.heap[k])[j]? = if j = k then some w'.heap[k] else W.heap[j]? := fun j => by
        by_cases e : j = k
        · subst e
          rw [if_pos rfl, Array.getElem?_setIfInBounds_self_of_lt hkW]
        · rw [if_neg e, Array.getElem?_setIfInBounds_ne (fun e2 => e e2.symm)]
      have hlow : ∀ j, j < p.B → (W.heap.setIfInBounds k w'.heap[k])[j]? = w'.heap[j]? := fun j hj => by
        rw [hset]
        by_cases e : j = k
        · subst e
          rw [if_pos rfl, Array.getElem?_eq_getElem hk']
        · rw [if_neg e, ← h3.block j hj]
          exact (t.block j (by have := h.pg.size; omega) (fun o hs => (hB j o hs).elim (fun e2 => by omega) (fun e2 => e (by cases e2; rfl)))).symm
      refine ⟨{ W with heap := W.heap.setIfInBounds k w'.heap[k] }, h1.boxed (k := k) ?_ (fun o ho => ?_) (fun j hj => ?_) ?_, ?_, ?_⟩
      · obtain ⟨s, n, c, e⟩ := B0.c0
        exact ⟨s, n, c, by rw [World.cell?_of_block (w := w) hW]; exact e⟩
      · rw [World.cell?_of_block (w := w) hW]; exact B0.c1 o ho
      · show (W.heap.setIfInBounds k w'.heap[k])[j]? = _
        rw [hset, if_neg hj]
      · exact hE.below fun j hj => (hlow j (by omega)).trans (hb0.block j hj)
      · show (W.heap.setIfInBounds k w'.heap[k]).size = p.B
        rw [Array.size_setIfInBounds]; exact h2
      · refine ⟨t.os.trans h3.os, t.tape.trans h3.tape, t.output.trans h3.output, ?_, fun j hj => (hlow j hj).symm⟩
        show (W.heap.setIfInBounds k w'.heap[k]).size ≤ _
        rw [Array.size_setIfInBounds]
        exact Nat.le_trans h3.size t.size
    · exact h.pg.turns (S := fun k o => S k o ∧ p.B ≤ k) (t.mono fun k o _ hs => ⟨hs, (hB k o hs).elim id (fun e => Nat.le_of_not_lt fun e2 => hk ⟨k, e, e2⟩)⟩) (fun _ _ hs => hs.2)
  exact ⟨pg, h.mem.turns t (fun o _ hs => hS _ _ hs (Or.inl rfl)), h.thr, t.keep h.prog (fun hs => hS _ _ hs (Or.inl rfl)), fun i r hi hr => t.keep (h.reg i r hi hr) (fun hs => hS _ _ hs (Or.inl rfl)), fun i hi => t.keep (h.pc i hi) (fun hs => hS _ _ hs (Or.inl rfl)), t.keep h.marks (fun hs => hS _ _ hs (Or.inl rfl)), ownsRow_block h.own fun k hk => t.block k (h.own.lt k hk).2 (fun o hs => hS _ _ hs (Or.inr hk)), t.keep h.faults (fun hs => hS _ _ hs (Or.inl rfl)), fun o h1 h2 => by rw [t.frozen _ _ h.lt (fun hs => hS _ _ hs (Or.inl rfl))]; exact h.frozen o h1 h2, h.ne, h.hB⟩

set_option maxRecDepth 20000 in
set_option maxHeartbeats 1000000 in
theorem see_nil {a : Nat → Addr} {cs : List (List Ins)} {p : MkPl} {m : Mk} {w : World} (h : MkAt a cs p m w) {tb cb cap : Nat} {s e : Int} {ad : Option Addr} (ht : ToldAt tb s e w) (hc : w.cell? ⟨cb, 0, none⟩ = some (.slice ad cs.length cap)) (hc2 : w.cell? ⟨cb + 1, 0, none⟩ = some .nilFunc) (hcb : cb + 1 < tb) (hs : 0 ≤ s ∧ s ≤ 1000000) (he : 0 ≤ e ∧ e ≤ 1000000) :
    Calls Tryz.prog 21 #[.pointer (some ⟨p.b, 0, none⟩), .pointer (some ⟨cb, 0, none⟩), .pointer (some ⟨tb, 0, none⟩), .pointer (some ⟨cb + 1, 0, none⟩)] w fun x w' => x = .returned (.tuple #[]) ∧ ToldAt tb (s + 1) (endN e (endTo cs m cs.length)) w' ∧ Turns (fun k _ => k = tb) w w' := by
  have HE := hide (ended_any h)
  obtain ⟨hs1, hs2⟩ := hs
  obtain ⟨he1, he2⟩ := he
  have HT := hide ht
  clear ht h
  have hneq : ∀ w : World, (binOp .neq 83 .nilFunc .nilFunc).run Tryz.prog w = .ok (.bool false) w := fun _ => rfl
  go_enter Tryz.func21, Tryz.ntmps21
  go_wp2_with fail
  refine HE.out.mono ?_
  rintro x w2 ⟨rfl, hb2⟩
  have H2 := hide (HT.out.below hb2)
  have T2 : Hid (Turns (fun k _ => k = tb) w (w2.setCell ⟨tb, 0, none⟩ (.int .i64 (s + 1)))) := hide ((Turns.of_below hb2).setCell _ rfl)
  have t0 := H2.out.states
  have z0 := H2.out.fz 0 (by decide)
  have H3 := hide (H2.out.set0 (s + 1))
  have q2 : (w2.setCell ⟨tb, 0, none⟩ (.int .i64 (s + 1))).cell? ⟨cb + 1, 0, none⟩ = some .nilFunc := cell_ne (keep_cell hb2 hc2) (.inl (by omega))
  clear HE hb2 HT hc hc2
  cases hx : endTo cs m cs.length
  · go_wp2_with fail
    go_end0
    exact ⟨rfl, by rw [hx]; exact H3.out, T2.out⟩
  · have t1 := H3.out.ends
    have z1 := H3.out.fz 1 (by decide)
    have q3 : ((w2.setCell ⟨tb, 0, none⟩ (.int .i64 (s + 1))).setCell ⟨tb, 1, none⟩ (.int .i64 (e + 1))).cell? ⟨cb + 1, 0, none⟩ = some .nilFunc := cell_ne q2 (.inl (by omega))
    go_wp2_with fail
    go_end0
    exact ⟨rfl, by rw [hx]; exact H3.out.set1 (e + 1), T2.out.setCell _ rfl⟩


set_option maxRecDepth 20000 in
set_option maxHeartbeats 1000000 in
theorem see_fun {a : Nat → Addr} {cs : List (List Ins)} {p : MkPl} {m : Mk} {w : World} (h : MkAt a cs p m w) {se : Seer} {X : Nat → Prop} {L : List Mk} (fr : SeerFr se) (hI : se.I X L w) {n : Nat} {caps : Array Value} (hn : ∀ (args : Array Value) (w : World), (callFunc n args).run Tryz.prog w = .ok (.enter n args) w)
    (hcall : ∀ (p : MkPl) (m : Mk) (w : World), MkAt a cs p m w → (∀ k, p.fp k → ¬ X k) → se.I X L w → Calls Tryz.prog n (#[.pointer (some ⟨p.b, 0, none⟩), .bool (endTo cs m cs.length)] ++ caps) w fun x w' => x = .returned (.tuple #[]) ∧ ∃ X', se.I X' (L ++ [m]) w' ∧ Turns (fun k _ => X k) w w' ∧ ∀ k, X' k → X k ∨ w.heap.size ≤ k)
    {tb cb cap : Nat} {s e : Int} {ad : Option Addr} (ht : ToldAt tb s e w) (hc : w.cell? ⟨cb, 0, none⟩ = some (.slice ad cs.length cap)) (hc2 : w.cell? ⟨cb + 1, 0, none⟩ = some (.func (.func n) #[] caps)) (hcb : cb + 1 < tb) (hs : 0 ≤ s ∧ s ≤ 1000000) (he : 0 ≤ e ∧ e ≤ 1000000) (hp : ¬ p.fp tb) (hB : p.B ≤ tb) (hX : ¬ X tb) (hlo : se.lo ≤ tb) (h5 : m.marks.length ≤ 500) :
    Calls Tryz.prog 21 #[.pointer (some ⟨p.b, 0, none⟩), .pointer (some ⟨cb, 0, none⟩), .pointer (some ⟨tb, 0, none⟩), .pointer (some ⟨cb + 1, 0, none⟩)] w fun x w' => x = .returned (.tuple #[]) ∧ ToldAt tb (s + 1) (endN e (endTo cs m cs.length)) w' ∧ ∃ X', se.I X' (L ++ [m]) w' ∧ Turns (fun k _ => k = tb ∨ X k) w w' ∧ ∀ k, X' k → X k ∨ w.heap.size ≤ k := by
  have HE := hide (ended_any h)
  obtain ⟨hs1, hs2⟩ := hs
  obtain ⟨he1, he2⟩ := he
  have HT := hide ht
  have HI := hide hI
  have HM := hide h
  have HCL : Hid (∀ (p : MkPl) (m : Mk) (w : World), MkAt a cs p m w → (∀ k, p.fp k → ¬ X k) → se.I X L w → Calls Tryz.prog n (#[.pointer (some ⟨p.b, 0, none⟩), .bool (endTo cs m cs.length)] ++ caps) w fun x w' => x = .returned (.tuple #[]) ∧ ∃ X', se.I X' (L ++ [m]) w' ∧ Turns (fun k _ => X k) w w' ∧ ∀ k, X' k → X k ∨ w.heap.size ≤ k) := hide hcall
  have HFR := hide fr
  have hneq : ∀ w : World, (binOp .neq 83 (.func (.func n) #[] caps) .nilFunc).run Tryz.prog w = .ok (.bool true) w := fun _ => rfl
  clear ht h hI hcall fr
  go_enter Tryz.func21, Tryz.ntmps21
  go_wp2_with fail
  refine HE.out.mono ?_
  rintro x w2 ⟨rfl, hb2⟩
  have H2 := hide (HT.out.below hb2)
  have T2 : Hid (Turns (fun k _ => k = tb) w (w2.setCell ⟨tb, 0, none⟩ (.int .i64 (s + 1)))) := hide ((Turns.of_below hb2).setCell _ rfl)
  have t0 := H2.out.states
  have z0 := H2.out.fz 0 (by decide)
  have H3 := hide (H2.out.set0 (s + 1))
  have q2 : (w2.setCell ⟨tb, 0, none⟩ (.int .i64 (s + 1))).cell? ⟨cb + 1, 0, none⟩ = some (.func (.func n) #[] caps) := cell_ne (keep_cell hb2 hc2) (.inl (by omega))
  clear HE hb2 HT hc hc2
  cases hx : endTo cs m cs.length
  · have HM2 := hide (HM.out.turns T2.out (fun k _ e hf => hp (by rw [← e]; exact hf)) (fun k _ e => by rw [e]; exact hB))
    have HI2 := hide (HFR.out.keep HI.out T2.out (fun k _ e => ⟨fun hk => hX (by rw [← e]; exact hk), by rw [e]; exact hlo⟩))
    go_wp2_with fail
    have HCP := hide (kcopy_any (HM2.out.below (below_dN (Below.refl _ _) 1)) h5)
    rw [show (World.drewN (w2.setCell ⟨tb, 0, none⟩ (.int .i64 (s + 1))) 1).heap.size = w2.heap.size by simp] at HCP
    refine wp_region_F (S := (fun w' => w'.cell? ⟨cb + 1, 0, none⟩ = some (.func (.func n) #[] caps))) (by kernel_rfl) (by (try dsimp only); exact q2) (fun hHeld => ?_)
    refine' wpAnyF_take (i := 0) (n := 4) (v := _) rfl (by kernel_rfl) (fun _ _ _ h => h) (by assumption) (Or.inl ⟨by rfl, ?hy1⟩) ?rest1
    case' hy1 => (intro w' hSw; (try dsimp only at hSw); go_simp; try with_reducible rfl)
    try simp only [Act.put, List.getElem_toArray, List.getElem_cons_zero, List.setIfInBounds_toArray, List.set_cons_zero, List.set_cons_succ]
    refine' wpAnyF_take (i := 1) (n := 4) (v := _) rfl (by kernel_rfl) (fun _ _ _ h => h) (by assumption) (Or.inl ⟨by rfl, ?hy2⟩) ?rest2
    case' hy2 => (intro w' hSw; (try dsimp only at hSw); go_simp; try with_reducible rfl)
    try simp only [Act.put, List.getElem_toArray, List.getElem_cons_zero, List.getElem_cons_succ, List.setIfInBounds_toArray, List.set_cons_zero, List.set_cons_succ]
    refine' wpAnyF_take (i := 3) (n := 4) (v := _) rfl (by kernel_rfl) (fun _ _ _ h => h) (by assumption) (Or.inl ⟨by rfl, ?hy3⟩) ?rest3
    case' hy3 => (intro w' hSw; (try dsimp only at hSw); go_simp; try with_reducible rfl)
    try simp only [Act.put, List.getElem_toArray, List.getElem_cons_zero, List.getElem_cons_succ, List.setIfInBounds_toArray, List.set_cons_zero, List.set_cons_succ]
    refine wpAnyF_only (i := 2) rfl (by kernel_rfl) (fun K hK => ?_)
    go_simp
    go_at_call 23
    refine HCP.out.mono ?_
    rintro e4 w4 ⟨v4, rfl, hq4⟩
    dsimp only
    obtain ⟨hm4, hb4, hv4⟩ := hq4.out
    have B4 : Hid (Below (w2.setCell ⟨tb, 0, none⟩ (.int .i64 (s + 1))).heap.size (w2.setCell ⟨tb, 0, none⟩ (.int .i64 (s + 1))) w4) := hide (by rw [show (w2.setCell ⟨tb, 0, none⟩ (.int .i64 (s + 1))).heap.size = w2.heap.size by simp]; exact (below_dN (Below.refl _ _) 1).trans hb4)
    have hs4 := keep_cell B4.out q2
    refine hK.out _ _ (Or.inr hs4) ?_
    have HI4 := hide (HFR.out.keep HI2.out (Turns.of_below (S := fun _ _ => False) B4.out) (fun _ _ h => h.elim))
    have HC4 := hide (HCL.out _ m w4 hm4 (fun k hk hx => by
      have h1 := HFR.out.lt HI2.out k hx
      have h1 : k < w2.heap.size := by simpa using h1
      have h2 : w2.heap.size ≤ k := by
        rcases hk with e | e
        · exact Nat.le_of_eq e.symm
        · exact hv4 k e
      omega) HI4.out)
    rw [hx] at HC4
    clear hK K hq4 hm4 hb4 hs4 HCP HCL
    try simp only [Act.put, List.getElem_toArray, List.getElem_cons_zero, List.getElem_cons_succ, List.setIfInBounds_toArray, List.set_cons_zero, List.set_cons_succ]
    refine wpAnyF_only (i := 4) rfl (by kernel_rfl) (fun K hK => ?_)
    go_simp
    refine HC4.out.mono ?_
    rintro e5 w5 ⟨rfl, X5, hi5, t5, hx5⟩
    dsimp only
    refine hK.out _ _ (Or.inl (by kernel_rfl)) ?_
    have B2 := hide (B4.out.size)
    have H5 := hide ((H3.out.below B4.out).turns t5 (fun _ e => hX e))
    have T5 := hide (((T2.out.mono fun k _ _ e => Or.inl e).trans (Turns.of_below B4.out)).trans (t5.mono fun k _ _ e => (Or.inr e : k = tb ∨ X k)))
    have HX5 : Hid (∀ k, X5 k → X k ∨ w.heap.size ≤ k) := hide fun k hk => (hx5 k hk).imp id (fun e => by
      have h1 := T2.out.size
      have h2 := B4.out.size
      omega)
    have HI5 := hide hi5
    clear hK K hHeld HC4 hi5 t5 hx5 HI4
    try simp only [Act.put, List.getElem_toArray, List.getElem_cons_zero, List.getElem_cons_succ, List.setIfInBounds_toArray, List.set_cons_zero, List.set_cons_succ]
    refine wpAnyF_done (by kernel_rfl) ?_ _
    go_wp2
    go_end0
    exact ⟨rfl, by rw [hx]; exact H5.out, X5, HI5.out, T5.out, HX5.out⟩
  · have t1 := H3.out.ends
    have z1 := H3.out.fz 1 (by decide)
    have q3 : ((w2.setCell ⟨tb, 0, none⟩ (.int .i64 (s + 1))).setCell ⟨tb, 1, none⟩ (.int .i64 (e + 1))).cell? ⟨cb + 1, 0, none⟩ = some (.func (.func n) #[] caps) := cell_ne q2 (.inl (by omega))
    have T3 : Hid (Turns (fun k _ => k = tb) w ((w2.setCell ⟨tb, 0, none⟩ (.int .i64 (s + 1))).setCell ⟨tb, 1, none⟩ (.int .i64 (e + 1)))) := hide (T2.out.setCell _ rfl)
    have HM3 := hide (HM.out.turns T3.out (fun k _ e hf => hp (by rw [← e]; exact hf)) (fun k _ e => by rw [e]; exact hB))
    have HI3 := hide (HFR.out.keep HI.out T3.out (fun k _ e => ⟨fun hk => hX (by rw [← e]; exact hk), by rw [e]; exact hlo⟩))
    have H4 := hide (H3.out.set1 (e + 1))
    go_wp2_with fail
    have HCP := hide (kcopy_any (HM3.out.below (below_dN (Below.refl _ _) 1)) h5)
    rw [show (World.drewN ((w2.setCell ⟨tb, 0, none⟩ (.int .i64 (s + 1))).setCell ⟨tb, 1, none⟩ (.int .i64 (e + 1))) 1).heap.size = w2.heap.size by simp] at HCP
    refine wp_region_F (S := (fun w' => w'.cell? ⟨cb + 1, 0, none⟩ = some (.func (.func n) #[] caps))) (by kernel_rfl) (by (try dsimp only); exact q3) (fun hHeld => ?_)
    refine' wpAnyF_take (i := 0) (n := 4) (v := _) rfl (by kernel_rfl) (fun _ _ _ h => h) (by assumption) (Or.inl ⟨by rfl, ?hz1⟩) ?sest1
    case' hz1 => (intro w' hSw; (try dsimp only at hSw); go_simp; try with_reducible rfl)
    try simp only [Act.put, List.getElem_toArray, List.getElem_cons_zero, List.setIfInBounds_toArray, List.set_cons_zero, List.set_cons_succ]
    refine' wpAnyF_take (i := 1) (n := 4) (v := _) rfl (by kernel_rfl) (fun _ _ _ h => h) (by assumption) (Or.inl ⟨by rfl, ?hz2⟩) ?sest2
    case' hz2 => (intro w' hSw; (try dsimp only at hSw); go_simp; try with_reducible rfl)
    try simp only [Act.put, List.getElem_toArray, List.getElem_cons_zero, List.getElem_cons_succ, List.setIfInBounds_toArray, List.set_cons_zero, List.set_cons_succ]
    refine' wpAnyF_take (i := 3) (n := 4) (v := _) rfl (by kernel_rfl) (fun _ _ _ h => h) (by assumption) (Or.inl ⟨by rfl, ?hz3⟩) ?sest3
    case' hz3 => (intro w' hSw; (try dsimp only at hSw); go_simp; try with_reducible rfl)
    try simp only [Act.put, List.getElem_toArray, List.getElem_cons_zero, List.getElem_cons_succ, List.setIfInBounds_toArray, List.set_cons_zero, List.set_cons_succ]
    refine wpAnyF_only (i := 2) rfl (by kernel_rfl) (fun K hK => ?_)
    go_simp
    go_at_call 23
    refine HCP.out.mono ?_
    rintro e4 w4 ⟨v4, rfl, hq4⟩
    dsimp only
    obtain ⟨hm4, hb4, hv4⟩ := hq4.out
    have B4 : Hid (Below ((w2.setCell ⟨tb, 0, none⟩ (.int .i64 (s + 1))).setCell ⟨tb, 1, none⟩ (.int .i64 (e + 1))).heap.size ((w2.setCell ⟨tb, 0, none⟩ (.int .i64 (s + 1))).setCell ⟨tb, 1, none⟩ (.int .i64 (e + 1))) w4) := hide (by rw [show ((w2.setCell ⟨tb, 0, none⟩ (.int .i64 (s + 1))).setCell ⟨tb, 1, none⟩ (.int .i64 (e + 1))).heap.size = w2.heap.size by simp]; exact (below_dN (Below.refl _ _) 1).trans hb4)
    have hs4 := keep_cell B4.out q3
    refine hK.out _ _ (Or.inr hs4) ?_
    have HI4 := hide (HFR.out.keep HI3.out (Turns.of_below (S := fun _ _ => False) B4.out) (fun _ _ h => h.elim))
    have HC4 := hide (HCL.out _ m w4 hm4 (fun k hk hx => by
      have h1 := HFR.out.lt HI3.out k hx
      have h1 : k < w2.heap.size := by simpa using h1
      have h2 : w2.heap.size ≤ k := by
        rcases hk with e | e
        · exact Nat.le_of_eq e.symm
        · exact hv4 k e
      omega) HI4.out)
    rw [hx] at HC4
    clear hK K hq4 hm4 hb4 hs4 HCP HCL
    try simp only [Act.put, List.getElem_toArray, List.getElem_cons_zero, List.getElem_cons_succ, List.setIfInBounds_toArray, List.set_cons_zero, List.set_cons_succ]
    refine wpAnyF_only (i := 4) rfl (by kernel_rfl) (fun K hK => ?_)
    go_simp
    refine HC4.out.mono ?_
    rintro e5 w5 ⟨rfl, X5, hi5, t5, hx5⟩
    dsimp only
    refine hK.out _ _ (Or.inl (by kernel_rfl)) ?_
    have B2 := hide (B4.out.size)
    have H5 := hide ((H4.out.below B4.out).turns t5 (fun _ e => hX e))
    have T5 := hide (((T3.out.mono fun k _ _ e => Or.inl e).trans (Turns.of_below B4.out)).trans (t5.mono fun k _ _ e => (Or.inr e : k = tb ∨ X k)))
    have HX5 : Hid (∀ k, X5 k → X k ∨ w.heap.size ≤ k) := hide fun k hk => (hx5 k hk).imp id (fun e => by
      have h1 := T3.out.size
      have h2 := B4.out.size
      omega)
    have HI5 := hide hi5
    clear hK K hHeld HC4 hi5 t5 hx5 HI4
    try simp only [Act.put, List.getElem_toArray, List.getElem_cons_zero, List.getElem_cons_succ, List.setIfInBounds_toArray, List.set_cons_zero, List.set_cons_succ]
    refine wpAnyF_done (by kernel_rfl) ?_ _
    go_wp2
    go_end0
    exact ⟨rfl, by rw [hx]; exact H5.out, X5, HI5.out, T5.out, HX5.out⟩
theorem see_any {a : Nat → Addr} {cs : List (List Ins)} {p : MkPl} {m : Mk} {w : World} {se : Seer} {X : Nat → Prop} {L : List Mk} (so : SeerOk a cs se) (h : MkAt a cs p m w) {tb cb cap : Nat} {s e : Int} {ad : Option Addr} (ht : ToldAt tb s e w) (hc : w.cell? ⟨cb, 0, none⟩ = some (.slice ad cs.length cap)) (hc2 : w.cell? ⟨cb + 1, 0, none⟩ = some se.v) (hcb : cb + 1 < tb) (hp : ¬ p.fp tb) (hB : p.B ≤ tb) (hX : ¬ X tb) (hlo : se.lo ≤ tb) (hI : se.I X L w) (hL : L.length ≤ 100000) (h5 : m.marks.length ≤ 500) (hs : 0 ≤ s ∧ s ≤ 1000000) (he : 0 ≤ e ∧ e ≤ 1000000) :
    Calls Tryz.prog 21 #[.pointer (some ⟨p.b, 0, none⟩), .pointer (some ⟨cb, 0, none⟩), .pointer (some ⟨tb, 0, none⟩), .pointer (some ⟨cb + 1, 0, none⟩)] w fun x w' => x = .returned (.tuple #[]) ∧ ToldAt tb (s + 1) (endN e (endTo cs m cs.length)) w' ∧ ∃ X', se.I X' (L ++ [m]) w' ∧ Turns (fun k _ => k = tb ∨ X k) w w' ∧ ∀ k, X' k → X k ∨ w.heap.size ≤ k := by
  rcases so.call with ⟨hv, hi⟩ | ⟨n, caps, hv, hn, hcall⟩
  · rw [hv] at hc2
    refine (see_nil h ht hc hc2 hcb hs he).mono ?_
    rintro x w' ⟨rfl, h1, h2⟩
    exact ⟨rfl, h1, X, hi _ _ _ _ (so.fr.keep hI h2 (fun k _ e => ⟨fun hx => hX (by rw [← e]; exact hx), by rw [e]; exact hlo⟩)), h2.mono fun _ _ _ e => .inl e, fun _ hk => .inl hk⟩
  · rw [hv] at hc2
    exact see_fun h so.fr hI hn (fun p m w h1 h2 h3 => hcall p m w X L h1 h2 h3 hL) ht hc hc2 hcb hs he hp hB hX hlo h5

structure WsAt (b : Nat) (n mo : Int) (fb : Nat) (qv see : Value) (w : World) : Prop where
  numbers : w.cell? ⟨b, 0, none⟩ = some (.int .i64 n)
  most : w.cell? ⟨b, 1, none⟩ = some (.int .i64 mo)
  found : w.cell? ⟨b, 2, none⟩ = some (.map (some fb))
  ahead : w.cell? ⟨b, 3, none⟩ = some qv
  see : w.cell? ⟨b, 4, none⟩ = some see
  fz : w.frozen? ⟨b, 3, none⟩ = false
theorem WsAt.lt {b fb : Nat} {n mo : Int} {qv see : Value} {w : World} (h : WsAt b n mo fb qv see w) : b < w.heap.size := World.block_lt_of_cell? _ _ h.numbers
theorem WsAt.turns {S : Nat → Nat → Prop} {b fb : Nat} {n mo : Int} {qv see : Value} {w w' : World} (h : WsAt b n mo fb qv see w) (t : Turns S w w') (hS : ∀ o, ¬ S b o) : WsAt b n mo fb qv see w' :=
  ⟨t.keep h.numbers (hS _), t.keep h.most (hS _), t.keep h.found (hS _), t.keep h.ahead (hS _), t.keep h.see (hS _), by rw [t.frozen _ _ h.lt (hS _)]; exact h.fz⟩
theorem WsAt.set {b fb : Nat} {n mo : Int} {qv see : Value} {w : World} (h : WsAt b n mo fb qv see w) (q : Value) : WsAt b n mo fb q see (w.setCell ⟨b, 3, none⟩ q) :=
  ⟨cell_ne h.numbers (.inr (by omega)), cell_ne h.most (.inr (by omega)), cell_ne h.found (.inr (by omega)), World.cell?_setCell_same _ _ _ h.ahead, cell_ne h.see (.inr (by omega)), by rw [World.frozen?_setCell]; exact h.fz⟩

set_option maxRecDepth 20000 in
set_option maxHeartbeats 1000000 in
theorem newSearch_any (n mo : Int) (see : Value) (w : World) (hsee : ∃ fn f c, see = .func fn f c) :
    Calls Tryz.prog 20 #[.int .i64 n, .int .i64 mo, see] w fun x w' => x = .returned (.pointer (some ⟨w.heap.size + 1, 0, none⟩)) ∧ WsAt (w.heap.size + 1) n mo w.heap.size (.slice none 0 0) see w' ∧ FoundAt w' w.heap.size [] ∧ Below w.heap.size w w' := by
  obtain ⟨fn, f, c, rfl⟩ := hsee
  have hmm := @run_makeMap Tryz.prog
  go_enter Tryz.func20, Tryz.ntmps20
  go_wp2_with fail
  go_ret
  have hs : (w.alloc (.map #[] 0)).heap.size = w.heap.size + 1 := by simp
  refine ⟨by simp, ⟨?_, ?_, ?_, ?_, ?_, ?_⟩, ?_, ?_⟩
  · rw [← hs, World.cell?_alloc_new]; rfl
  · rw [← hs, World.cell?_alloc_new]; rfl
  · rw [← hs, World.cell?_alloc_new]; rfl
  · rw [← hs, World.cell?_alloc_new]; rfl
  · rw [← hs, World.cell?_alloc_new]; rfl
  · rw [← hs]; unfold World.frozen?; rw [show ((w.alloc (.map #[] 0)).alloc _).heap[(w.alloc (.map #[] 0)).heap.size]? = some (Obj.cells _ _ _) from heap_alloc_new _ _]; rfl
  · exact ⟨(World.ownsMap_made w _ _ _).alloc _, List.Pairwise.nil⟩
  · exact ((Below.refl _ w).alloc (Nat.le_refl _) _).alloc (by simp) _
end Go.Proofs.YtnnlkolhahjokaaGreatDoor

/- WkI -/
namespace Go.Proofs.YtnnlkolhahjokaaGreatDoor
open Go.RowKit Go.Extern.Stop Go.Stop Go.Extern Go.Maps Go.WideMaps Go.Sort

structure SrPl where
  b : Nat
  fb : Nat
  tb : Nat
  cb : Nat
  ad : Option Addr
  cap : Nat
  n : Int
  mo : Int
  se : Seer
structure Sq where
  v : Value
  X : Nat → Prop
  L : List Mk
def SrPl.see (q : SrPl) : Value := .func (.func 21) #[] #[.pointer (some ⟨q.cb, 0, none⟩), .pointer (some ⟨q.tb, 0, none⟩), .pointer (some ⟨q.cb + 1, 0, none⟩)]
def SrPl.fp0 (q : SrPl) (v : Value) (k : Nat) : Prop := k = q.b ∨ k = q.fb ∨ k = q.tb ∨ v.ownBlock = some k
def SrPl.fp (q : SrPl) (qv : Sq) (k : Nat) : Prop := q.fp0 qv.v k ∨ qv.X k

structure SrAt (B nc : Nat) (q : SrPl) (E : List (ByteArray × ByteArray × Int)) (qv : Sq) (l : List Value) (s e : Int) (w : World) : Prop where
  ws : WsAt q.b q.n q.mo q.fb qv.v q.see w
  found : FoundAt w q.fb E
  que : QAt w B qv.v l
  told : ToldAt q.tb s e w
  codes : w.cell? ⟨q.cb, 0, none⟩ = some (.slice q.ad nc q.cap) ∧ w.cell? ⟨q.cb + 1, 0, none⟩ = some q.se.v
  b_fb : q.b ≠ q.fb
  b_tb : q.b ≠ q.tb
  fb_tb : q.fb ≠ q.tb
  hcb : q.cb + 1 < B
  hb : B ≤ q.b
  hfb : B ≤ q.fb
  htb : B ≤ q.tb
  qo : ∀ k, qv.v.ownBlock = some k → k ≠ q.b ∧ k ≠ q.fb ∧ k ≠ q.tb
  so : SeerFr q.se
  si : q.se.I qv.X qv.L w
  xo : ∀ k, qv.X k → k ≠ q.cb ∧ k ≠ q.cb + 1 ∧ ¬ q.fp0 qv.v k
  xb : ∀ k, qv.X k → B ≤ k ∨ q.se.bx = some k
  lo : q.se.lo ≤ B

theorem SrAt.lt {B nc : Nat} {q : SrPl} {E : List (ByteArray × ByteArray × Int)} {qv : Sq} {l : List Value} {s e : Int} {w : World} (h : SrAt B nc q E qv l s e w) {k : Nat} (hk : q.fp qv k) : k < w.heap.size := by
  rcases hk with (rfl | rfl | rfl | hk) | hk
  · exact h.ws.lt
  · exact h.found.1.lt
  · exact h.told.lt
  · exact (h.que.lt hk).2
  · exact h.so.lt h.si k hk
theorem SrAt.ge {B nc : Nat} {q : SrPl} {E : List (ByteArray × ByteArray × Int)} {qv : Sq} {l : List Value} {s e : Int} {w : World} (h : SrAt B nc q E qv l s e w) {k : Nat} (hk : q.fp0 qv.v k) : B ≤ k := by
  rcases hk with rfl | rfl | rfl | hk
  · exact h.hb
  · exact h.hfb
  · exact h.htb
  · exact (h.que.lt hk).1
theorem SrAt.geX {B nc : Nat} {q : SrPl} {E : List (ByteArray × ByteArray × Int)} {qv : Sq} {l : List Value} {s e : Int} {w : World} (h : SrAt B nc q E qv l s e w) {k : Nat} (hk : q.fp qv k) : B ≤ k ∨ q.se.bx = some k := hk.elim (fun e => .inl (h.ge e)) (h.xb k)
theorem SrAt.turns {S : Nat → Nat → Prop} {B nc : Nat} {q : SrPl} {E : List (ByteArray × ByteArray × Int)} {qv : Sq} {l : List Value} {s e : Int} {w w' : World} (h : SrAt B nc q E qv l s e w) (t : Turns S w w') (hS : ∀ k o, S k o → ¬ q.fp qv k) (hB : ∀ k o, S k o → B ≤ k) : SrAt B nc q E qv l s e w' where
  ws := h.ws.turns t (fun o hs => hS _ _ hs (.inl (.inl rfl)))
  found := h.found.kept (t.block _ h.found.1.lt (fun o hs => hS _ _ hs (.inl (.inr (.inl rfl)))))
  que := h.que.turns t (fun k o hk hs => hS _ _ hs (.inl (.inr (.inr (.inr hk)))))
  told := h.told.turns t (fun o hs => hS _ _ hs (.inl (.inr (.inr (.inl rfl)))))
  so := h.so
  si := h.so.keep h.si t (fun k o hs => ⟨fun hx => hS _ _ hs (.inr hx), Nat.le_trans h.lo (hB _ _ hs)⟩)
  xo := h.xo
  xb := h.xb
  lo := h.lo
  codes := ⟨t.keep h.codes.1 (fun hs => by have := hB _ _ hs; have := h.hcb; omega), t.keep h.codes.2 (fun hs => by have := hB _ _ hs; have := h.hcb; omega)⟩
  b_fb := h.b_fb
  b_tb := h.b_tb
  fb_tb := h.fb_tb
  hcb := h.hcb
  hb := h.hb
  hfb := h.hfb
  htb := h.htb
  qo := h.qo
theorem SrAt.below {B nc : Nat} {q : SrPl} {E : List (ByteArray × ByteArray × Int)} {qv : Sq} {l : List Value} {s e : Int} {w w' : World} (h : SrAt B nc q E qv l s e w) (k : Below w.heap.size w w') : SrAt B nc q E qv l s e w' :=
  h.turns (S := fun _ _ => False) (Turns.of_below k) (fun _ _ h => h.elim) (fun _ _ h => h.elim)

theorem Turns.of_grown {w w' : World} {r : Nat} (h : w.grownBy w' (some r)) : Turns (fun k _ => k = r) w w' :=
  have hg : ∀ k, k < w.heap.size → k ≠ r → w'.heap[k]? = w.heap[k]? := fun k hk hne => h.block k hk (fun e => hne (by cases e; rfl))
  ⟨h.os, h.tape, h.output, h.size, fun k hk ho => hg k hk (fun e => ho 0 e), fun k o hk ho => World.cell?_of_block (hg k hk ho), fun k o hk ho => World.frozen?_of_block (hg k hk ho)⟩

theorem SrAt.pushed {B nc : Nat} {q : SrPl} {E E' : List (ByteArray × ByteArray × Int)} {qv : Sq} {v' : Value} {l l' : List Value} {s e : Int} {w4 w5 w6 w7 : World} (h : SrAt B nc q E qv l s e w4) (T5 : Turns (fun k _ => k = q.fb) w4 w5) (F5 : FoundAt w5 q.fb E') (b6 : Below w5.heap.size w5 w6)
    (T7 : Turns (fun k _ => qv.v.ownBlock = some k) w6 w7) (Q7 : QAt w7 B v' l') (hv : v'.ownBlock = qv.v.ownBlock ∨ ∃ k, v'.ownBlock = some k ∧ w6.heap.size ≤ k) :
    SrAt B nc q E' ⟨v', qv.X, qv.L⟩ l' s e (w7.setCell ⟨q.b, 3, none⟩ v') ∧ Turns (fun k _ => q.fp0 qv.v k) w4 (w7.setCell ⟨q.b, 3, none⟩ v') ∧ (∀ k, v'.ownBlock = some k → qv.v.ownBlock = some k ∨ w4.heap.size ≤ k) := by
  have T57 : Turns (fun k _ => qv.v.ownBlock = some k) w5 w7 := (Turns.of_below b6).trans T7
  have T47 : Turns (fun k _ => k = q.fb ∨ qv.v.ownBlock = some k) w4 w7 := (T5.mono fun _ _ _ e => .inl e).trans (T57.mono fun _ _ _ e => .inr e)
  have T8 : Turns (fun k o => k = q.b ∧ o = 3) w7 (w7.setCell ⟨q.b, 3, none⟩ v') := (Turns.refl _ _).setCell _ ⟨rfl, rfl⟩
  have hb := h.ws.lt
  have hfb := h.found.1.lt
  have htb := h.told.lt
  have hsz : w4.heap.size ≤ w6.heap.size := Nat.le_trans T5.size b6.size
  have hv4 : ∀ k, v'.ownBlock = some k → qv.v.ownBlock = some k ∨ w4.heap.size ≤ k := fun k hk => by
    rcases hv with e | ⟨k', e, h2⟩
    · exact .inl (by rw [← e]; exact hk)
    · rw [hk] at e; cases e; exact .inr (by omega)
  have hqo : ∀ k, v'.ownBlock = some k → k ≠ q.b ∧ k ≠ q.fb ∧ k ≠ q.tb := fun k hk => by
    rcases hv4 k hk with e | e
    · exact h.qo k e
    · exact ⟨by omega, by omega, by omega⟩
  have nb : ∀ o : Nat, ¬ (fun k (_ : Nat) => k = q.fb ∨ qv.v.ownBlock = some k) q.b o := fun _ e => e.elim h.b_fb (fun e => (h.qo _ e).1 rfl)
  have nt : ∀ o : Nat, ¬ (fun k (_ : Nat) => k = q.fb ∨ qv.v.ownBlock = some k) q.tb o := fun _ e => e.elim (fun e => h.fb_tb e.symm) (fun e => (h.qo _ e).2.2 rfl)
  refine ⟨⟨(h.ws.turns T47 nb).set v', ?_, ?_, (h.told.turns T47 nt).turns T8 (fun o e => h.b_tb e.1.symm), ?_, h.b_fb, h.b_tb, h.fb_tb, h.hcb, h.hb, h.hfb, h.htb, hqo, h.so, ?_, fun k hk => ?_, h.xb, h.lo⟩, ?_, hv4⟩
  · refine F5.kept ?_
    rw [Below.heap_setCell _ _ _ _ (show q.fb ≠ q.b from h.b_fb.symm)]
    exact T57.block _ F5.1.lt (fun _ e => (h.qo _ e).2.1 rfl)
  · exact Q7.turns T8 (fun k o hk hs => (hqo k hk).1 hs.1)
  · constructor
    · refine T8.keep (T47.keep h.codes.1 (fun hs => ?_)) (fun hs => ?_)
      · have h1 := h.hcb
        rcases hs with e | e
        · have := h.hfb; omega
        · have := (h.que.lt e).1; omega
      · have h1 := h.hcb
        have := h.hb
        have := hs.1
        omega
    · refine T8.keep (T47.keep h.codes.2 (fun hs => ?_)) (fun hs => ?_)
      · have h1 := h.hcb
        rcases hs with e | e
        · have := h.hfb; omega
        · have := (h.que.lt e).1; omega
      · have h1 := h.hcb
        have := h.hb
        have := hs.1
        omega
  · have hf : ∀ k, (k = q.fb ∨ qv.v.ownBlock = some k) → q.fp0 qv.v k := fun k e => e.elim (fun e => .inr (.inl e)) (fun e => .inr (.inr (.inr e)))
    refine h.so.keep (h.so.keep h.si T47 (fun k _ e => ⟨fun hx => (h.xo k hx).2.2 (hf k e), Nat.le_trans h.lo (h.ge (hf k e))⟩)) T8 (fun k _ e => ⟨fun hx => (h.xo k hx).2.2 (.inl e.1), by rw [e.1]; exact Nat.le_trans h.lo h.hb⟩)
  · obtain ⟨x1, x2, x3⟩ := h.xo k hk
    have hl := h.so.lt h.si k hk
    refine ⟨x1, x2, fun hf => ?_⟩
    rcases hf with e | e | e | e
    · exact x3 (.inl e)
    · exact x3 (.inr (.inl e))
    · exact x3 (.inr (.inr (.inl e)))
    · rcases hv4 k e with e | e
      · exact x3 (.inr (.inr (.inr e)))
      · omega
  · refine (T47.mono fun k _ _ e => ?_).setCell _ (.inl rfl)
    rcases e with e | e
    · exact .inr (.inl e)
    · exact .inr (.inr (.inr e))
theorem SrAt.seen {B nc : Nat} {q : SrPl} {E : List (ByteArray × ByteArray × Int)} {qv : Sq} {l : List Value} {s e s' e' : Int} {w w' : World} {X' : Nat → Prop} {L' : List Mk} (h : SrAt B nc q E qv l s e w) (t : Turns (fun k _ => k = q.tb ∨ qv.X k) w w') (ht : ToldAt q.tb s' e' w') (hi : q.se.I X' L' w') (hx : ∀ k, X' k → qv.X k ∨ w.heap.size ≤ k) : SrAt B nc q E ⟨qv.v, X', L'⟩ l s' e' w' where
  ws := h.ws.turns t (fun _ e => e.elim h.b_tb (fun e => (h.xo _ e).2.2 (.inl rfl)))
  found := h.found.kept (t.block _ h.found.1.lt (fun _ e => e.elim h.fb_tb (fun e => (h.xo _ e).2.2 (.inr (.inl rfl)))))
  que := h.que.turns t (fun k _ hk e => e.elim (h.qo k hk).2.2 (fun e => (h.xo _ e).2.2 (.inr (.inr (.inr hk)))))
  told := ht
  codes := ⟨t.keep h.codes.1 (fun e => e.elim (fun e => by have := h.hcb; have := h.htb; omega) (fun e => (h.xo _ e).1 rfl)), t.keep h.codes.2 (fun e => e.elim (fun e => by have := h.hcb; have := h.htb; omega) (fun e => (h.xo _ e).2.1 rfl))⟩
  b_fb := h.b_fb
  b_tb := h.b_tb
  fb_tb := h.fb_tb
  hcb := h.hcb
  hb := h.hb
  hfb := h.hfb
  htb := h.htb
  qo := h.qo
  so := h.so
  si := hi
  xo k hk := by
    rcases hx k hk with e | e
    · exact h.xo k e
    · have h1 : q.cb < w.heap.size := World.block_lt_of_cell? _ _ h.codes.1
      have h2 : q.cb + 1 < w.heap.size := World.block_lt_of_cell? _ _ h.codes.2
      refine ⟨by omega, by omega, fun hf => ?_⟩
      have := h.lt (k := k) (.inl hf)
      omega
  xb k hk := by
    rcases hx k hk with e | e
    · exact h.xb k e
    · have := h.hb; have := h.ws.lt; exact .inl (by omega)
  lo := h.lo

structure KeyOk (nc : Nat) (m : Mk) : Prop where
  range : ∀ x ∈ mkNums nc m, 0 ≤ x ∧ x < 4611686018427387904
  few : (mkNums nc m).length ≤ 700
theorem KeyOk.size {nc : Nat} {m : Mk} (h : KeyOk nc m) : (keyOf nc m).size ≤ maxLen := by
  have h1 := vbs_len h.range
  have h2 := h.few
  have e : (keyOf nc m).size = (vbs (mkNums nc m)).length := by unfold keyOf; simp [ByteArray.size]
  rw [e]
  unfold maxLen
  omega

set_option maxRecDepth 20000 in
set_option maxHeartbeats 1000000 in
theorem add_old {a : Nat → Addr} {cs : List (List Ins)} {p : MkPl} {m : Mk} {w : World} {q : SrPl} {E : List (ByteArray × ByteArray × Int)} {qv : Sq} {l : List Value} {s e : Int} (h : MkAt a cs p m w) (hs : SrAt p.B cs.length q E qv l s e w) (h1 : 1 ≤ cs.length) (hk : KeyOk cs.length m) (x : ByteArray × Int)
    (hin : keyIn E (keyOf cs.length m) = true) :
    Calls Tryz.prog 38 #[.pointer (some ⟨q.b, 0, none⟩), .pointer (some ⟨p.b, 0, none⟩), .agg #[.string x.1, .int .i64 x.2]] w fun r w' => r = .returned .nilIface ∧ Below w.heap.size w w' := by
  obtain ⟨w1, hw1⟩ : ∃ w1, w1 = w.alloc (.cells #[.string x.1, .int .i64 x.2] 118) := ⟨_, rfl⟩
  have b1 : Below w.heap.size w w1 := by rw [hw1]; exact (Below.refl _ _).alloc (Nat.le_refl _) _
  have HK := hide (key_any (h.below b1) h1 hk.range hk.few)
  have HS := hide (hs.below b1)
  have hsz := hk.size
  clear h hs hk
  generalize keyOf cs.length m = K at *
  go_enter Tryz.func38, Tryz.ntmps38
  go_wp2_with fail
  rw [← hw1]
  clear hw1
  refine HK.out.mono ?_
  rintro r w2 ⟨rfl, hb2⟩
  have S2 := HS.out.below hb2
  have B2 := below_step b1 hb2
  obtain ⟨y, hlook⟩ := S2.found.look K hsz
  rw [hin] at hlook
  unfold stepV at hlook
  have c2 := S2.ws.found
  clear HK HS S2 b1 hb2
  go_wp2_with fail
  go_ret
  exact ⟨rfl, B2.alloc B2.size _⟩

set_option maxRecDepth 20000 in
set_option maxHeartbeats 1000000 in
theorem add_more {a : Nat → Addr} {cs : List (List Ins)} {p : MkPl} {m : Mk} {w : World} {q : SrPl} {E : List (ByteArray × ByteArray × Int)} {qv : Sq} {l : List Value} {s e : Int} (h : MkAt a cs p m w) (hs : SrAt p.B cs.length q E qv l s e w) (h1 : 1 ≤ cs.length) (hk : KeyOk cs.length m) (x : ByteArray × Int)
    (hin : keyIn E (keyOf cs.length m) = false) (hmo : (E.length : Int) = q.mo) :
    Calls Tryz.prog 38 #[.pointer (some ⟨q.b, 0, none⟩), .pointer (some ⟨p.b, 0, none⟩), .agg #[.string x.1, .int .i64 x.2]] w fun r w' => r = .returned (errAt (a 1)) ∧ Below w.heap.size w w' := by
  obtain ⟨w1, hw1⟩ : ∃ w1, w1 = w.alloc (.cells #[.string x.1, .int .i64 x.2] 118) := ⟨_, rfl⟩
  have b1 : Below w.heap.size w w1 := by rw [hw1]; exact (Below.refl _ _).alloc (Nat.le_refl _) _
  have HK := hide (key_any (h.below b1) h1 hk.range hk.few)
  have HS := hide (hs.below b1)
  have HE := hide (h.below b1).pg.envB.env
  have hsz := hk.size
  clear h hs hk
  generalize keyOf cs.length m = K at *
  go_enter Tryz.func38, Tryz.ntmps38
  go_wp2_with fail
  rw [← hw1]
  clear hw1
  refine HK.out.mono ?_
  rintro r w2 ⟨rfl, hb2⟩
  have S2 := HS.out.below hb2
  have B2 := below_step b1 hb2
  obtain ⟨y, hlook⟩ := S2.found.look K hsz
  rw [hin] at hlook
  unfold stepV at hlook
  have c2 := S2.ws.found
  have m2 := S2.ws.most
  rw [← hmo] at m2
  have HL := hide S2.found
  have g2 : w2.cell? ⟨0, 0, none⟩ = some (errAt (a 1)) := (HE.out.below hb2.block).cell 1 (by decide)
  clear HK HS S2 b1 hb2 HE
  go_wp2_with fail
  generalize hw3 : w2.alloc _ = w3
  have b3 : Below w2.heap.size w2 w3 := by rw [← hw3]; exact (Below.refl _ _).alloc (Nat.le_refl _) _
  have c3 := keep_cell b3 c2
  have m3 := keep_cell b3 m2
  have g3 := keep_cell b3 g2
  have hlen := fun n ty => FoundAt.len (HL.out.kept (w' := w3.drewN n) ((by rfl : (w3.drewN n).heap[q.fb]? = w3.heap[q.fb]?).trans (b3.block _ HL.out.1.lt))) ty
  have B3 := below_step B2 b3
  clear c2 m2 g2 HL hlook b3 hw3
  go_quiet (fail)
  go_wp2
  go_ret
  exact ⟨rfl, below_dN B3 _⟩

set_option maxRecDepth 20000 in
set_option maxHeartbeats 1000000 in
theorem add_new {a : Nat → Addr} {cs : List (List Ins)} {p : MkPl} {m : Mk} {w : World} {q : SrPl} {E : List (ByteArray × ByteArray × Int)} {qv : Sq} {l : List Value} {s e : Int} (so : SeerOk a cs q.se) (h5 : m.marks.length ≤ 500) (hL : qv.L.length ≤ 100000) (h : MkAt a cs p m w) (hs : SrAt p.B cs.length q E qv l s e w) (hd : ∀ k, p.fp k → ¬ q.fp qv k) (h1 : 1 ≤ cs.length) (hk : KeyOk cs.length m) (x : ByteArray × Int)
    (hE : E.length ≤ 100000) (hl : l.length ≤ 100000) (hse : (0 ≤ s ∧ s ≤ 1000000) ∧ (0 ≤ e ∧ e ≤ 1000000)) (hin : keyIn E (keyOf cs.length m) = false) (hmo : (E.length : Int) ≠ q.mo) :
    Calls Tryz.prog 38 #[.pointer (some ⟨q.b, 0, none⟩), .pointer (some ⟨p.b, 0, none⟩), .agg #[.string x.1, .int .i64 x.2]] w fun r w' => r = .returned .nilIface ∧
      ∃ qv' : Sq, SrAt p.B cs.length q (E ++ [(keyOf cs.length m, x)]) qv' (l ++ [.pointer (some ⟨p.b, 0, none⟩)]) (s + 1) (endN e (endTo cs m cs.length)) w' ∧ Turns (fun k _ => q.fp qv k) w w' ∧ (∀ k, q.fp qv' k → q.fp qv k ∨ w.heap.size ≤ k) ∧ qv'.L = qv.L ++ [m] := by
  obtain ⟨w1, hw1⟩ : ∃ w1, w1 = w.alloc (.cells #[.string x.1, .int .i64 x.2] 118) := ⟨_, rfl⟩
  have b1 : Below w.heap.size w w1 := by rw [hw1]; exact (Below.refl _ _).alloc (Nat.le_refl _) _
  have e0 : w1.cell? ⟨w.heap.size, 0, none⟩ = some (.string x.1) := by rw [hw1]; simp
  have e1 : w1.cell? ⟨w.heap.size, 1, none⟩ = some (.int .i64 x.2) := by rw [hw1]; simp
  have HK := hide (key_any (h.below b1) h1 hk.range hk.few)
  have HS := hide (hs.below b1)
  have HM := hide (h.below b1)
  have hsz := hk.size
  have hne : ((E.length : Int) == q.mo) = false := beq_eq_false_iff_ne.2 hmo
  clear h hs hk
  generalize keyOf cs.length m = K at *
  go_enter Tryz.func38, Tryz.ntmps38
  go_wp2_with fail
  rw [← hw1]
  clear hw1
  refine HK.out.mono ?_
  rintro r w2 ⟨rfl, hb2⟩
  have S2 := hide (HS.out.below hb2)
  have M2 := hide (HM.out.below hb2)
  have B2 := below_step b1 hb2
  replace e0 := keep_cell hb2 e0
  replace e1 := keep_cell hb2 e1
  obtain ⟨y, hlook⟩ := S2.out.found.look K hsz
  rw [hin] at hlook
  unfold stepV at hlook
  have c2 := S2.out.ws.found
  clear HK HS HM b1 hb2
  go_wp2_with fail
  generalize hw3 : w2.alloc _ = w3
  have b3 : Below w2.heap.size w2 w3 := by rw [← hw3]; exact (Below.refl _ _).alloc (Nat.le_refl _) _
  have S3 := hide (S2.out.below b3)
  have M3 := hide (M2.out.below b3)
  have B3 := below_step B2 b3
  have c3 := S3.out.ws.found
  have m3 := S3.out.ws.most
  replace e0 := keep_cell b3 e0
  replace e1 := keep_cell b3 e1
  have hlen := fun n ty => FoundAt.len (S3.out.found.kept (w' := w3.drewN n) (by rfl)) ty
  clear c2 S2 M2 hlook b3 hw3 B2
  go_quiet (fail)
  clear hlen
  rename_i nq
  generalize hw4 : w3.drewN nq = w4
  have b4 : Below w3.heap.size w3 w4 := by rw [← hw4]; exact Below.drewN' nq
  have S4 := hide (S3.out.below b4)
  have M4 := hide (M3.out.below b4)
  have B4 := below_step B3 b4
  have c4 := S4.out.ws.found
  replace e0 := keep_cell b4 e0
  replace e1 := keep_cell b4 e1
  clear c3 m3 S3 M3 b4 hw4 B3
  obtain ⟨w5, hrun, F5, G5⟩ := (S4.out.found.kept (w' := w4.drew) (by rfl)).store K hsz x (by unfold maxLen; omega) hin
  unfold stepV at hrun
  go_wp2
  go_region
  have T5 : Turns (fun k _ => k = q.fb) w4 w5 := (Turns.of_below (w' := w4.drew) (below_step (Below.refl _ _) (Below.drewN' 1))).trans (Turns.of_grown G5)
  have a5 : w5.cell? ⟨q.b, 3, none⟩ = some qv.v := T5.keep S4.out.ws.ahead S4.out.b_fb
  have z5 : w5.frozen? ⟨q.b, 3, none⟩ = false := by rw [T5.frozen _ _ S4.out.ws.lt S4.out.b_fb]; exact S4.out.ws.fz
  have Q5 : QAt w5 p.B qv.v l := S4.out.que.turns T5 (fun k _ hk => (S4.out.qo k hk).2.1)
  have hq5 : p.B ≤ w5.heap.size := by have := S4.out.hb; have := S4.out.ws.lt; have := T5.size; omega
  have s5 := T5.size
  clear hrun G5 e0 e1 c4
  go_wp2_with (at_builtin; refine wpList_append_q _ rfl _ _ rfl p.B l (.pointer (some ⟨p.b, 0, none⟩)) qv.v ⟨w5.heap.size, 0, none⟩ 1 rfl ?q1 rfl ?q2 rfl ?q3 ?q4 ?_)
  case q1 => exact Q5.below ((Below.refl _ _).alloc (Nat.le_refl _) _)
  case q2 => rw [Addr.add_lit, World.cell?_alloc_new]; rfl
  case q3 => omega
  case q4 => simp; omega
  intro v7 w7 Q7 T7 hv7
  obtain ⟨g7, n7, c7, rfl⟩ : ∃ g n c, v7 = .slice g n c := by
    rcases Q7 with ⟨e, -⟩ | ⟨g, off, cap, e, -⟩
    · exact ⟨_, _, _, e⟩
    · exact ⟨_, _, _, e⟩
  have b6 : Below w5.heap.size w5 (w5.alloc (.cells #[.pointer (some ⟨p.b, 0, none⟩)] 37)) := (Below.refl _ _).alloc (Nat.le_refl _) _
  obtain ⟨S8, T8, hv8⟩ := S4.out.pushed T5 F5 b6 T7 Q7 (by rw [World.size_alloc]; exact hv7)
  have a7 : w7.cell? ⟨q.b, 3, none⟩ = some qv.v := T7.keep (keep_cell b6 a5) (fun e => (S4.out.qo _ e).1 rfl)
  have z7 : w7.frozen? ⟨q.b, 3, none⟩ = false := by
    rw [T7.frozen _ _ (by have := S4.out.ws.lt; have := b6.size; omega) (fun e => (S4.out.qo _ e).1 rfl), b6.frozen (by have := S4.out.ws.lt; show q.b < _; omega)]
    exact z5
  have sc := S8.ws.see
  have M8 := M4.out.turns T8 (fun k _ hk hp => hd k hp (.inl hk)) (fun k _ hk => S4.out.ge hk)
  have HSee := hide (see_any so M8 S8.told S8.codes.1 S8.codes.2 (by have := S4.out.hcb; have := S4.out.htb; omega) (fun hp => hd _ hp (.inl (.inr (.inr (.inl rfl))))) S4.out.htb (fun hx => (S4.out.xo _ hx).2.2 (.inr (.inr (.inl rfl)))) (Nat.le_trans S4.out.lo S4.out.htb) S8.si hL h5 hse.1 hse.2)
  unfold SrPl.see at sc
  have HZ := hide S8
  have HT := hide ((Turns.of_below (S := fun k _ => q.fp qv k) B4).trans (T8.mono fun _ _ _ e => .inl e))
  have HV := hide hv8
  have HLT := hide (fun k (hk : q.fp0 qv.v k) => S4.out.lt (.inl hk))
  have s4 := B4.size
  have s8 := T8.size
  clear S8 T8 hv8 M8 S4 M4 Q5 Q7 T7 hv7 T5 F5 a5 z5 b6 hd hq5 B4 hin hmo hne so
  go_wp2_with fail
  refine HSee.out.mono ?_
  rintro r w9 ⟨rfl, ht9, X9, hi9, T9, hx9⟩
  have S9 := hide (HZ.out.seen T9 ht9 hi9 hx9)
  have TZ := hide (HT.out.trans (T9.mono (fun k _ _ e => e.elim (fun e => .inl (.inr (.inr (.inl e)))) (fun e => .inr e))))
  have HX9 := hide hx9
  clear HSee HZ HT ht9 T9 hi9 hx9
  go_wp2_with fail
  go_ret
  refine ⟨rfl, _, S9.out, TZ.out, fun k hk => ?_, rfl⟩
  rcases hk with (e | e | e | e) | e
  · exact .inl (.inl (.inl e))
  · exact .inl (.inl (.inr (.inl e)))
  · exact .inl (.inl (.inr (.inr (.inl e))))
  · exact (HV.out k e).imp (fun e => .inl (.inr (.inr (.inr e)))) (fun e => Nat.le_trans s4 e)
  · exact (HX9.out k e).imp (fun e => .inr e) (fun e => by omega)
end Go.Proofs.YtnnlkolhahjokaaGreatDoor
