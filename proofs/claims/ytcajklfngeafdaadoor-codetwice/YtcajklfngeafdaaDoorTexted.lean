/- The closed fact that code has a text; what Read reads where it finds no fault. -/
import Derived.Test.YtcajklfngeafdaaDoorProgM
namespace Go.Proofs.YtcajklfngeafdaaDoor
open Go.RowKit Go.Extern.Stop Go.Stop Go.Extern Go.Maps Go.WideMaps

/-- const 1 5; stop. -/
def exIns : List Ins := [⟨⟨#[99, 111, 110, 115, 116]⟩, 1, 5, 0, ⟨#[]⟩⟩, ⟨⟨#[115, 116, 111, 112]⟩, 0, 0, 0, ⟨#[]⟩⟩]
theorem exText : textL exIns = [99, 111, 110, 115, 116, 32, 49, 32, 53, 10, 115, 116, 111, 112, 10] := by decide +kernel
theorem exShape0 : shape (⟨#[99, 111, 110, 115, 116]⟩ : ByteArray).toList = some [114, 118] := by rw [toList_bl]; decide +kernel
theorem exShape1 : shape (⟨#[115, 116, 111, 112]⟩ : ByteArray).toList = some [] := by rw [toList_bl]; decide +kernel
theorem exFault : codeFault exIns = (0, -1) := by
  refine codeFault_none (by decide) (fun k y hy => ?_)
  match k, hy with
  | 0, hy =>
    cases hy
    rw [insFault_some exShape0, if_neg (fun h => h (by unfold fitsP; rw [toList_bl]; decide +kernel)), if_neg (fun h => h (by unfold withinP; decide +kernel)), if_pos (by decide +kernel)]
  | 1, hy =>
    cases hy
    rw [insFault_some exShape1, if_neg (fun h => h (by unfold fitsP; rw [toList_bl]; decide +kernel)), if_neg (fun h => h (by unfold withinP; decide +kernel)), if_pos (by decide +kernel)]

theorem read_zero {s : ByteArray} (h : (readFault s).1 = 0) : (linesOf s).map readLine = (readCode s).map some := by
  have hn : (linesOf s).findIdx? (fun ln => (readLine ln).isNone) = none := by
    cases hf : (linesOf s).findIdx? (fun ln => (readLine ln).isNone) with
    | none => rfl
    | some i => unfold readFault at h; rw [hf] at h; simp at h
  unfold readCode
  rw [List.findIdx?_eq_none_iff] at hn
  generalize linesOf s = L at hn
  induction L with
  | nil => rfl
  | cons y ys ih =>
    cases hr : readLine y with
    | none => have := hn y (by simp); rw [hr] at this; simp at this
    | some v =>
      rw [List.filterMap_cons_some hr, List.map_cons, List.map_cons, hr, ih (fun x hx => hn x (by simp [hx]))]

theorem exAt (w : World) (t : TypeId) : insAt (some ⟨w.heap.size, 0, none⟩) exIns (w.alloc (.cells #[.string ⟨#[99, 111, 110, 115, 116]⟩, .int .i64 1, .int .i64 5, .int .i64 0, .string ⟨#[]⟩, .string ⟨#[115, 116, 111, 112]⟩, .int .i64 0, .int .i64 0, .int .i64 0, .string ⟨#[]⟩] t)) := by
  intro i x hx
  refine ⟨w.heap.size, 0, rfl, ?_⟩
  match i, hx with
  | 0, hx => cases hx; exact ⟨(World.cell?_alloc_new _ _ _ _).trans rfl, (World.cell?_alloc_new _ _ _ _).trans rfl, (World.cell?_alloc_new _ _ _ _).trans rfl, (World.cell?_alloc_new _ _ _ _).trans rfl, (World.cell?_alloc_new _ _ _ _).trans rfl⟩
  | 1, hx => cases hx; exact ⟨(World.cell?_alloc_new _ _ _ _).trans rfl, (World.cell?_alloc_new _ _ _ _).trans rfl, (World.cell?_alloc_new _ _ _ _).trans rfl, (World.cell?_alloc_new _ _ _ _).trans rfl, (World.cell?_alloc_new _ _ _ _).trans rfl⟩
  | n + 2, hx => simp [exIns] at hx

set_option maxRecDepth 20000 in
theorem texted_any (a : Nat → Addr) (w : World) (hE : EnvX a w) :
    Calls Tryd.prog 4 #[] w fun e w' => e = .returned (.bool true) ∧ Below w.heap.size w w' := by
  go_enter Tryd.func4, Tryd.ntmps4
  go_wp2_with fail
  refine (text_any a (some ⟨w.heap.size, 0, none⟩) 2 exIns _ (hE.block ((Below.refl _ _).alloc (Nat.le_refl _) _).block) (fun i x hx => ?_) (exAt w _) (by rw [exText]; decide)).mono ?_
  · match i, hx with
    | 0, hx => cases hx; decide
    | 1, hx => cases hx; decide
    | n + 2, hx => simp [exIns] at hx
  · rintro e w1 ⟨hr, hb⟩
    rcases hr with ⟨h0, _⟩ | ⟨_, rfl⟩
    · rw [exFault] at h0; exact absurd rfl h0
    · rw [exText]
      go_wp2_with fail
      refine bodyPost_ret (v := .bool true) (by simp only [results, Tryd.results4]; go_simp) rfl ⟨rfl, ?_⟩
      exact below_step ((Below.refl _ _).alloc (Nat.le_refl _) _) hb
end Go.Proofs.YtcajklfngeafdaaDoor
