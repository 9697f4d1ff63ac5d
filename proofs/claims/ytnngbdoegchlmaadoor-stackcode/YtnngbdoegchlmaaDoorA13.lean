import Derived.Test.YtnngbdoegchlmaaDoorA09
import Derived.Test.YtnngbdoegchlmaaDoorA03
import Derived.Test.YtnngbdoegchlmaaDoorA12

/- SpA -/
namespace Go.Proofs.YtnngbdoegchlmaaDoor
open Go.RowKit

def spLabel : ByteArray := ⟨#[108, 97, 98, 101, 108]⟩
def spNo : ByteArray := ⟨#[]⟩

def nSt (q : Nat) : Nat := if q ≤ 11 then 0 else if q ≤ 14 then 1 else if q ≤ 16 then 2 else 3
def sq (c : Int) : List Wt := [⟨0, 0, 1, 1⟩, ⟨0, 0, 2, c + 1⟩, ⟨0, 0, 1, 0⟩]

structure Mine (q : Nat) (r : Nat → Int) (ws : List Wt) (w1 w2 c : Int) : Prop where
  at' : q = 4 ∧ r 0 = 0 ∨ 6 ≤ q
  r7 : r 7 = 1
  r2a : q = 8 ∨ q = 9 → r 2 = 0
  r3 : 9 ≤ q ∧ q ≤ 13 → r 3 = 1
  r4a : q = 10 → r 4 = 1
  r2b : q = 13 → r 2 = c
  r2c : q = 14 → r 2 = c + 1
  r4b : q = 16 → r 4 = 0
  r0 : q = 18 → r 0 = 0
  ws : ∃ d, d ≤ nSt q ∧ ws = ((sq c).take (nSt q)).drop d ∧ w1 = (if d = 1 ∨ d = 2 then 1 else 0) ∧ w2 = (if d < 2 then c else c + 1)
structure Other (q : Nat) (r : Nat → Int) (ws : List Wt) : Prop where
  at' : q ≤ 5
  r7 : r 7 = 1
  r0a : q = 2 ∨ q = 3 → r 0 = 0
  r1 : q = 3 → r 1 = 1
  r0b : q = 4 → r 0 = 1
  ws : ws = []
def TC (mine : Bool) (q : Nat) (r : Nat → Int) (ws : List Wt) (w1 w2 c : Int) : Prop := if mine = true then Mine q r ws w1 w2 c else Other q r ws

theorem TC.other {b : Bool} {q : Nat} {r : Nat → Int} {ws : List Wt} {w1 w2 c w1' w2' c' : Int} (h : TC b q r ws w1 w2 c) (hb : b = true → w1' = w1 ∧ w2' = w2 ∧ c' = c) : TC b q r ws w1' w2' c' := by
  cases b with
  | false => exact h
  | true => obtain ⟨rfl, rfl, rfl⟩ := hb rfl; exact h

end Go.Proofs.YtnngbdoegchlmaaDoor

/- SpE -/
namespace Go.Proofs.YtnngbdoegchlmaaDoor
open Go.RowKit Go.Extern.Stop Go.Stop Go.Extern Go.Maps Go.WideMaps Go.Sort

def insOwn (w : World) (base : Nat) (v : Value) (l : List Ins) : Prop := w.ownsRow base 44 5 v l.length (icells l)
end Go.Proofs.YtnngbdoegchlmaaDoor

/- SpF -/
namespace Go.Proofs.YtnngbdoegchlmaaDoor
open Go.RowKit Go.Extern.Stop Go.Stop Go.Extern Go.Maps Go.WideMaps Go.Sort

theorem insOwn_mono {w : World} {base base' : Nat} {v : Value} {l : List Ins} (h : insOwn w base v l) (hb : base' ≤ base) : insOwn w base' v l := by
  obtain ⟨h1, h2⟩ := h
  refine ⟨h1, ?_⟩
  rcases h2 with h2 | ⟨g, cap, cur, e, hg, r⟩
  · exact .inl h2
  · exact .inr ⟨g, cap, cur, e, Nat.le_trans hb hg, r⟩

theorem insOwn_open {w : World} {base : Nat} {v : Value} {l : List Ins} (h : insOwn w base v l) (h1 : 0 < l.length) : ∃ ad cap, v = .slice (some ad) l.length cap ∧ insAt (some ad) l w := by
  obtain ⟨ad, cap, rfl, h2, h3, h4⟩ := insAt_of_icells h
  obtain ⟨y, hy⟩ : ∃ y, l[0]? = some y := ⟨_, List.getElem?_eq_getElem h1⟩
  obtain ⟨b, off, rfl, -⟩ := h4 0 y hy
  exact ⟨_, cap, rfl, h4⟩
theorem insOwn_new {w : World} {l : List Ins} {cs : Array Value} {base : Nat} (h : cs.toList = icells l) (hb : base ≤ w.heap.size) (hl : l.length ≤ 1000) : insOwn (w.alloc (.cells cs 44)) base (.slice (some ⟨w.heap.size, 0, none⟩) l.length l.length) l := by
  refine ⟨icells_len l, .inr ⟨w.heap.size, l.length, cs, rfl, hb, heap_new w _, Nat.le_refl _, by unfold maxLen; omega, ?_, ?_⟩⟩
  · rw [← Array.length_toList, h, icells_len]
  · rw [h, ← icells_len l, List.take_length]

open Classical in
theorem cname_ok {p : ByteArray} (hn : isName p) (h8 : p.size ≤ 8) (w : World) : Calls Tryd.prog 12 #[.string p] w fun e w' => e = .returned .nilIface ∧ Below w.heap.size w w' := by
  have HN : Hid (∀ w, Calls Tryd.prog 19 #[.string p] w fun e w' => e = .returned (.bool true) ∧ Below w.heap.size w w') := fun w => (pisName_any p w).mono fun _ _ ⟨h1, h2⟩ => ⟨by rw [h1, decide_eq_true hn], h2⟩
  have hs : ¬ 8 < (p.size : Int) := by omega
  clear hn h8
  go_enter Tryd.func12, Tryd.ntmps12
  go_wp2_with fail
  refine (HN.out _).mono ?_
  rintro e w1 ⟨rfl, hb⟩
  go_wp2_with fail
  go_ret
  exact ⟨rfl, hb⟩
def spX : ByteArray := ⟨#[120]⟩
end Go.Proofs.YtnngbdoegchlmaaDoor
