import Derived.Test.YtgmokighfgdnjaaGreatDoorC16
import Derived.Test.YtgmokighfgdnjaaGreatDoorC32
import Derived.Test.YtgmokighfgdnjaaGreatDoorC19
import Derived.Test.YtgmokighfgdnjaaGreatDoorC18
import Derived.Laws.IdiomStrings
import Derived.Test.YtgmokighfgdnjaaGreatDoorC31
import Derived.Test.YtgmokighfgdnjaaGreatDoorC25
import Derived.Laws.AppendOwnNone
import Derived.Test.YtgmokighfgdnjaaGreatDoorC03
import Derived.Test.YtgmokighfgdnjaaGreatDoorC04
import Derived.Test.YtgmokighfgdnjaaGreatDoorC13
import Derived.Laws.AppendOwn
import Derived.Maps.AppendAt

/- SpG -/
namespace Go.Proofs.YtgmokighfgdnjaaGreatDoor
open Go.RowKit Go.Extern.Stop Go.Stop Go.Extern Go.Maps Go.WideMaps Go.Sort

theorem insOwn_kept {w w' : World} {base : Nat} {v : Value} {l : List Ins} {ob : Option Nat} (h : insOwn w base v l) (hg : w.grownBy w' ob) (hne : v.ownBlock = none ∨ v.ownBlock ≠ ob) : insOwn w' base v l := World.ownsRow.kept h hg hne

end Go.Proofs.YtgmokighfgdnjaaGreatDoor

/- GdS -/
namespace Go.Proofs.YtgmokighfgdnjaaGreatDoor
open Go.RowKit Go.Extern.Stop Go.Stop Go.Extern Go.Maps Go.WideMaps Go.Sort

def kTg (k : Nat) : Tg := if k = 0 then .enter else if k = 1 then .leave else if k = 2 then .rest else if k = 3 then .gone else .wait
set_option maxRecDepth 20000 in
theorem parts_ok {f : Nat} (hf : 1 ≤ f ∧ f ≤ 4) {p : ByteArray} (hp : isName p) (hs : p.size ≤ 4) (k : Nat) (hk : k < 5) (w : World) :
    Calls Tryz.prog 10 #[.int .i64 f, .string p, .int .i64 k] w fun e w' => ∃ v, e = .returned (.tuple #[v, .nilIface]) ∧ insOwn w' w.heap.size v (gCode p (tgCode f (kTg k))) ∧ Below w.heap.size w w' := by
  have H0 := hide (enter_ok hf hp hs w)
  have H1 := hide (leave_ok hf hp hs w)
  have H2 := hide (rest_ok hf hp hs w)
  have H3 := hide (gone_ok hf hp hs w)
  have H4 := hide (wait_ok hf hp hs w)
  have hc : k = 0 ∨ k = 1 ∨ k = 2 ∨ k = 3 ∨ k = 4 := by omega
  generalize (f : Int) = fi at *
  rcases hc with rfl | rfl | rfl | rfl | rfl
  all_goals
    clear hf hp hs hk
    go_enter Tryz.func10, Tryz.ntmps10
    go_wp2_with (first
      | (go_at_call 26; refine H0.out.mono ?_; rintro e wq ⟨v, rfl, hv⟩)
      | (go_at_call 27; refine H1.out.mono ?_; rintro e wq ⟨v, rfl, hv⟩)
      | (go_at_call 28; refine H2.out.mono ?_; rintro e wq ⟨v, rfl, hv⟩)
      | (go_at_call 29; refine H3.out.mono ?_; rintro e wq ⟨v, rfl, hv⟩)
      | (go_at_call 25; refine H4.out.mono ?_; rintro e wq ⟨v, rfl, hv⟩))
    go_ret2
    exact ⟨v, rfl, hv⟩
end Go.Proofs.YtgmokighfgdnjaaGreatDoor

/- WkA -/
namespace Go.Proofs.YtgmokighfgdnjaaGreatDoor
open Go.RowKit Go.Extern.Stop Go.Stop Go.Extern Go.Maps Go.WideMaps Go.Sort

def ncells (l : List Int) : List Value := l.map (Value.int .i64)
def numsOwn (w : World) (base : Nat) (v : Value) (l : List Int) : Prop := w.ownsRow base 3 1 v l.length (ncells l)
theorem numsOwn_keep {w w' : World} {base : Nat} {v : Value} {l : List Int} (h : numsOwn w base v l) (k : Below w.heap.size w w') : numsOwn w' base v l :=
  ownsRow_block h (fun b hb => k.block b (h.lt b hb).2)
theorem numsOwn_at {w : World} {base : Nat} {v : Value} {l : List Int} (h : numsOwn w base v l) : ∃ ad cap, v = .slice ad l.length cap ∧ l.length ≤ cap ∧ numsAt ad l w := by
  obtain ⟨g, c, rfl, h1, h2, h3⟩ := ownsRow_shape h
  refine ⟨g, c, rfl, h1, fun i x hx => ?_⟩
  obtain ⟨gg, e, hc⟩ := h3 i (.int .i64 x) (by unfold ncells; rw [List.getElem?_map, hx]; rfl)
  exact ⟨gg, 0, e, by rw [Nat.zero_add]; exact hc⟩
theorem numsOwn_new {w : World} {l : List Int} {cs : Array Value} {base : Nat} (h : cs.toList = ncells l) (hb : base ≤ w.heap.size) (hl : l.length ≤ 1000000) : numsOwn (w.alloc (.cells cs 3)) base (.slice (some ⟨w.heap.size, 0, none⟩) l.length l.length) l := by
  have hn : (ncells l).length = l.length := by simp [ncells]
  refine ⟨by rw [hn, Nat.mul_one], .inr ⟨w.heap.size, l.length, cs, rfl, hb, heap_new w _, Nat.le_refl _, by unfold maxLen; omega, ?_, ?_⟩⟩
  · rw [← Array.length_toList, h, hn, Nat.mul_one]
  · rw [h, Nat.mul_one, ← hn, List.take_length]
end Go.Proofs.YtgmokighfgdnjaaGreatDoor
