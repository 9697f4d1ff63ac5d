/- memoryAct: what holds between two acts; the kind load. -/
import Derived.Test.YtcnemlamlchnkaaDoorMemO
namespace Go.Proofs.YtcnemlamlchnkaaDoor
open Go.RowKit Go.Extern.Stop Go.Stop Go.Extern

/-- A memory of package memory, of state sm, and one of the document's answer, of state so, apart from each other; of what was there in W nothing has turned. -/
structure Two (a : Nat → Addr) (W : World) (b : Nat) (p : RmPl) (sm so : Rm) (w : World) : Prop where
  m : MmAt b sm w
  o : RmAt p so w
  e : EnvB a W.heap.size w
  v : Env a W
  base : Below W.heap.size W w
  hB : W.heap.size ≤ b
  fp : ∀ k, p.fp so k → k ≠ b ∧ W.heap.size ≤ k

theorem Two.below {a : Nat → Addr} {W : World} {b : Nat} {p : RmPl} {sm so : Rm} {w w' : World} (h : Two a W b p sm so w) (k : Below w.heap.size w w') : Two a W b p sm so w' :=
  ⟨h.m.below k, h.o.below k, h.e.below k, h.v, h.base.trans (k.mono h.base.size), h.hB, h.fp⟩
theorem Two.alloc {a : Nat → Addr} {W : World} {b : Nat} {p : RmPl} {sm so : Rm} {w : World} (h : Two a W b p sm so w) (o : Obj) : Two a W b p sm so (w.alloc o) := h.below ((Below.refl _ _).alloc (Nat.le_refl _) _)
theorem Two.mstep {a : Nat → Addr} {W : World} {b : Nat} {p : RmPl} {sm sm' so : Rm} {w w' : World} (h : Two a W b p sm so w) (k : MmStep b w sm' w') : Two a W b p sm' so w' :=
  ⟨k.at', h.o.turns k.turns (fun i _ hi e => (h.fp i hi).1 e), h.e.step h.hB k, h.v, h.base.trans (k.turns.below h.base.size (fun i _ hi e => by have := h.hB; omega)), h.hB, h.fp⟩
theorem Two.ostep {a : Nat → Addr} {W : World} {b : Nat} {p p' : RmPl} {sm so so' : Rm} {w w' : World} (h : Two a W b p sm so w) (k : RmStep p so w p' so' w') : Two a W b p' sm so' w' :=
  ⟨h.m.turns k.turns (fun _ e => (h.fp _ e).1 rfl), k.at', h.e.turns k.turns (fun _ _ e => (h.fp _ e).2), h.v, h.base.trans (k.turns.below h.base.size (fun i _ hi e => by have := (h.fp i e).2; omega)), h.hB, fun i hi => by
    rcases k.fp i hi with e | e
    · exact h.fp i e
    · have h1 := h.m.lt
      have h2 := h.e.size
      exact ⟨by omega, by omega⟩⟩

/-- What an act leaves: both of one state again. -/
def ActPost (a : Nat → Addr) (B : World) (b mb : Nat) (s : Rm) (w' : World) : Prop := ∃ p' s', p'.mb = mb ∧ s'.threads = s.threads ∧ s'.ar.size = s.ar.size ∧ (∀ c, s'.ar.given c ≤ s.ar.given c + 1) ∧ s'.Ok ∧ Two a B b p' s' s' w'

theorem ActPost.same {a : Nat → Addr} {B : World} {b : Nat} {p : RmPl} {s : Rm} {w : World} (h : Two a B b p s s w) (ho : s.Ok) : ActPost a B b p.mb s w :=
  ⟨p, s, rfl, rfl, rfl, fun _ => Nat.le_succ _, ho, h⟩

/-- The variable that an act is laid in. -/
abbrev actW (w : World) (kd : ByteArray) (t c g k v old : Int) : World := w.alloc (.cells #[.string kd, .int .i64 t, .int .i64 c, .int .i64 g, .int .i64 k, .int .i64 v, .int .i64 old] 77)
structure ActX (i : Nat) (kd : ByteArray) (t c g k v old : Int) (w : World) : Prop where
  x0 : w.cell? ⟨i, 0, none⟩ = some (.string kd)
  x1 : w.cell? ⟨i, 1, none⟩ = some (.int .i64 t)
  x2 : w.cell? ⟨i, 2, none⟩ = some (.int .i64 c)
  x3 : w.cell? ⟨i, 3, none⟩ = some (.int .i64 g)
  x4 : w.cell? ⟨i, 4, none⟩ = some (.int .i64 k)
  x5 : w.cell? ⟨i, 5, none⟩ = some (.int .i64 v)
  x6 : w.cell? ⟨i, 6, none⟩ = some (.int .i64 old)
theorem actX (w : World) (kd : ByteArray) (t c g k v old : Int) : ActX w.heap.size kd t c g k v old (actW w kd t c g k v old) :=
  ⟨(World.cell?_alloc_new _ _ _ _).trans rfl, (World.cell?_alloc_new _ _ _ _).trans rfl, (World.cell?_alloc_new _ _ _ _).trans rfl, (World.cell?_alloc_new _ _ _ _).trans rfl, (World.cell?_alloc_new _ _ _ _).trans rfl, (World.cell?_alloc_new _ _ _ _).trans rfl, (World.cell?_alloc_new _ _ _ _).trans rfl⟩
theorem ActX.turns {S : Nat → Nat → Prop} {i : Nat} {kd : ByteArray} {t c g k v old : Int} {w w' : World} (h : ActX i kd t c g k v old w) (u : Turns S w w') (hS : ∀ o, ¬ S i o) : ActX i kd t c g k v old w' :=
  ⟨u.keep h.x0 (hS _), u.keep h.x1 (hS _), u.keep h.x2 (hS _), u.keep h.x3 (hS _), u.keep h.x4 (hS _), u.keep h.x5 (hS _), u.keep h.x6 (hS _)⟩
theorem ActX.below {i : Nat} {kd : ByteArray} {t c g k v old : Int} {w w' : World} (h : ActX i kd t c g k v old w) (u : Below w.heap.size w w') : ActX i kd t c g k v old w' :=
  h.turns (Turns.of_below (S := fun _ _ => False) u) (fun _ h => h)
theorem ActX.alloc {i : Nat} {kd : ByteArray} {t c g k v old : Int} {w : World} (h : ActX i kd t c g k v old w) (o : Obj) : ActX i kd t c g k v old (w.alloc o) := h.below ((Below.refl _ _).alloc (Nat.le_refl _) _)

theorem Two.thread {a : Nat → Addr} {B : World} {b : Nat} {p : RmPl} {sm so : Rm} {w : World} (h : Two a B b p sm so w) (t : Int) (f : Bool) (hf : decide (0 ≤ t ∧ t < so.threads) = f) :
    Calls Tryd.prog 53 #[.pointer (some ⟨p.mb, 0, none⟩), .int .i64 t] w fun e w' => e = .returned (.bool f) ∧ w' = w := by
  rw [← hf]; exact rthread_any p so t w h.o

theorem Two.coded {a : Nat → Addr} {B : World} {b : Nat} {p : RmPl} {sm so : Rm} {w : World} (h : Two a B b p sm so w) (n : Nat) (hn : n ≤ 9) :
    Calls Tryd.prog 11 #[errVal a n, .int .i64 n] w fun e w' => e = .returned (.bool true) ∧ Below w.heap.size w w' := coded_same a n hn w (h.v.below h.base.block)

theorem Ar.at_le (s : Ar) (c g k : Int) : s.at c g k ≤ 7 := by unfold Ar.at; split; omega; split <;> omega

set_option maxRecDepth 20000 in
set_option maxHeartbeats 2000000 in
/-- A load by what is no thread. -/
theorem act_load_bad (a : Nat → Addr) (B : World) (b : Nat) (p : RmPl) (s : Rm) (t c g k v old : Int) (w : World) (H : Two a B b p s s w) (ho : s.Ok) (ht : ¬ (0 ≤ t ∧ t < s.threads)) :
    Calls Tryd.prog 39 #[.pointer (some ⟨b, 0, none⟩), .pointer (some ⟨p.mb, 0, none⟩), .agg #[.string ⟨#[108, 111, 97, 100]⟩, .int .i64 t, .int .i64 c, .int .i64 g, .int .i64 k, .int .i64 v, .int .i64 old]] w fun e w' => e = .returned (.bool true) ∧ ActPost a B b p.mb s w' := by
  have H1 : Hid (Two a B b p s s (actW w ⟨#[108, 111, 97, 100]⟩ t c g k v old)) := H.alloc _
  have X := actX w ⟨#[108, 111, 97, 100]⟩ t c g k v old
  have HL : Hid (∀ w', Two a B b p s s w' → Calls Tryd.prog 37 #[.pointer (some ⟨b, 0, none⟩), .int .i64 t, .agg #[.int .i64 c, .int .i64 g], .int .i64 k] w' fun e w'' => e = .returned (.tuple #[.int .i64 0, errVal a 2]) ∧ Below w'.heap.size w' w'') := fun w' h => by
    have := mload_err a b s t c g k w' h.e.env h.m (by rw [Rm.may_no ht]; decide)
    rwa [Rm.may_no ht] at this
  have HP : Hid (∀ w', Two a B b p s s w' → ActPost a B b p.mb s w') := fun w' h => ActPost.same h ho
  have HT : Hid (decide (0 ≤ t ∧ t < s.threads) = false) := decide_eq_false ht
  clear H ho ht
  generalize hw : actW w ⟨#[108, 111, 97, 100]⟩ t c g k v old = w1 at *
  obtain ⟨x0, x1, x2, x3, x4, x5, x6⟩ := X
  go_enter Tryd.func39, Tryd.ntmps39
  go_wp2_with fail
  refine (H1.out.thread t false HT.out).mono ?_
  rintro e0 w2 ⟨rfl, rfl⟩
  clear HT hw
  go_wp2_with fail
  refine (HL.out _ H1.out).mono ?_
  rintro e1 w3 ⟨rfl, hb3⟩
  have H3 : Hid (Two a B b p s s w3) := H1.out.below hb3
  clear HL H1 hb3 x0 x1 x2 x3 x4 x5 x6
  go_wp2_with fail
  refine (H3.out.coded 2 (by decide)).mono ?_
  rintro e2 w4 ⟨rfl, hb4⟩
  have H4 : Hid (Two a B b p s s w4) := H3.out.below hb4
  clear H3 hb4
  go_wp2
  go_ret
  exact ⟨rfl, HP.out _ H4.out⟩
end Go.Proofs.YtcnemlamlchnkaaDoor
