import Derived.Test.YtaiigfcfmcicjaaGreatDoorE13
import Derived.Laws.AppendOwn
import Derived.Lib.LazyBuf
import Derived.Test.YtaiigfcfmcicjaaGreatDoorE02
import Derived.Test.YtaiigfcfmcicjaaGreatDoorE10
namespace Go.Proofs.YtaiigfcfmcicjaaGreatDoor
set_option maxRecDepth 100000
set_option maxHeartbeats 8000000
section
open Go.RowKit Go.Extern.Stop Go.Stop Go.Extern Go.Maps Go.WideMaps Go.Sort
def icell (x : Ins) : List Value := [.string x.op, .int .i64 x.a, .int .i64 x.b, .int .i64 x.c, .string x.to]
def icells (l : List Ins) : List Value := l.flatMap icell
theorem icells_len (l : List Ins) : (icells l).length = l.length * 5 := by
 induction l with
 | nil => rfl
 | cons x l ih =>
  show (icell x ++ icells l).length = _
  rw [List.length_append, ih, List.length_cons]
  show 5 + _ = _
  omega
theorem icells_at : ∀ (l : List Ins) (i j : Nat) (x : Ins), l[i]? = some x -> j < 5 -> (icells l)[i * 5 + j]? = (icell x)[j]?
 | [], i, j, x, h, _ => by simp at h
 | y :: l, 0, j, x, h, hj => by
  cases h
  show (icell _ ++ icells l)[0 * 5 + j]? = _
  rw [List.getElem?_append_left (by show 0 * 5 + j < 5; omega), Nat.zero_mul, Nat.zero_add]
 | y :: l, i + 1, j, x, h, hj => by
  show (icell y ++ icells l)[(i + 1) * 5 + j]? = _
  rw [List.getElem?_append_right (by show 5 <= _; omega), show (i + 1) * 5 + j - (icell y).length = i * 5 + j by show _ - 5 = _; omega]
  exact icells_at l i j x (by simpa using h) hj
theorem icells_one {l : List Ins} : ∀ u ∈ icells l, u.oneCell' = true := fun u hu => by
 obtain ⟨x, -, h⟩ := List.mem_flatMap.1 hu
 simp only [icell, List.mem_cons, List.not_mem_nil, or_false] at h
 rcases h with rfl | rfl | rfl | rfl | rfl <;> rfl
theorem insAt_cells {b off : Nat} {l : List Ins} {w : World} (h : insAt (some ⟨b, off, none⟩) l w) (k : Nat) (u : Value) (hu : (icells l)[k]? = some u) : w.cell? ⟨b, off + k, none⟩ = some u := by
 have hk := (List.getElem?_eq_some_iff.1 hu).1
 rw [icells_len] at hk
 obtain ⟨x, hx⟩ : ∃ x, l[k / 5]? = some x := ⟨_, List.getElem?_eq_getElem (by omega)⟩
 obtain ⟨b', off', e, h0, h1, h2, h3, h4⟩ := h _ x hx
 cases e
 have e := icells_at l (k / 5) (k % 5) x hx (Nat.mod_lt _ (by decide))
 rw [show k / 5 * 5 + k % 5 = k by omega, hu] at e
 have h5 : k % 5 < 5 := Nat.mod_lt _ (by decide)
 rw [show off + k = off + k / 5 * 5 + k % 5 by omega]
 generalize k % 5 = j at *
 match j, h5, e with
 | 0, _, e => cases e; exact h0
 | 1, _, e => cases e; exact h1
 | 2, _, e => cases e; exact h2
 | 3, _, e => cases e; exact h3
 | 4, _, e => cases e; exact h4
theorem insAt_of_icells {w : World} {base : Nat} {e : TypeId} {l : List Ins} {v : Value} (h : w.ownsRow base e 5 v l.length (icells l)) : ∃ ad cap, v = .slice ad l.length cap /\ l.length <= cap /\ cap <= maxLen /\ insAt ad l w := by
 obtain ⟨g, c, rfl, h1, h2, h3⟩ := ownsRow_shape h
 refine ⟨g, c, rfl, h1, h2, fun i x hx => ?_⟩
 have hi := (List.getElem?_eq_some_iff.1 hx).1
 have key : ∀ j, j < 5 -> ∀ u, (icell x)[j]? = some u -> ∃ b off, g = some ⟨b, off, none⟩ /\ w.cell? ⟨b, off + (i * 5 + j), none⟩ = some u := fun j hj u hu => by
  rw [<- icells_at l i j x hx hj] at hu
  obtain ⟨gg, e, hc⟩ := h3 _ _ hu
  exact ⟨gg, 0, e, by rw [Nat.zero_add]; exact hc⟩
 obtain ⟨b, off, rfl, k0⟩ := key 0 (by decide) _ rfl
 obtain ⟨_, _, e1, k1⟩ := key 1 (by decide) _ rfl
 obtain ⟨_, _, e2, k2⟩ := key 2 (by decide) _ rfl
 obtain ⟨_, _, e3, k3⟩ := key 3 (by decide) _ rfl
 obtain ⟨_, _, e4, k4⟩ := key 4 (by decide) _ rfl
 cases e1; cases e2; cases e3; cases e4
 exact ⟨b, off, rfl, k0, k1, k2, k3, k4⟩
theorem instrInfo : ∃ i, (Tryz.prog).info? 101 = some i /\ i.zero = some (.agg #[.string ⟨#[]⟩, .int .i64 0, .int .i64 0, .int .i64 0, .string ⟨#[]⟩]) /\ i.size = 5 /\ i.bytes = 56 := info_parts (by kernel_rfl)
end
section
open Go.RowKit Go.Extern.Stop Go.Stop Go.Extern Go.Maps Go.WideMaps Go.Sort
def insOwn (w : World) (base : Nat) (v : Value) (l : List Ins) : Prop := w.ownsRow base 101 5 v l.length (icells l)
theorem insOwn_nil (w : World) (base : Nat) : insOwn w base (.slice none 0 0) [] := World.ownsRow_nil _ _ _ _
theorem icells_append (a b : List Ins) : icells (a ++ b) = icells a ++ icells b := by simp [icells]
theorem insOwn_keep {w w' : World} {base : Nat} {v : Value} {l : List Ins} (h : insOwn w base v l) (k : Below w.heap.size w w') : insOwn w' base v l :=
 ownsRow_block h (fun b hb => k.block b (h.lt b hb).2)
theorem wpList_append_ins {ops : Array Oper} {rest : List Oper} {o : Oper} {a : Act} (w : World) {Q : Exit -> Act -> World -> Prop} (hgd : o.guard = none) (s x : Operand)
  (ho : o.op = .call { callee := .builtin .append, args := #[s, x], argTypes := #[53, 53] }) (base : Nat) (l0 l : List Ins) (v : Value) (ad : Addr) (cap : Nat)
  (hs : a.eval s = v) (hown : insOwn w base v l0) (hx : a.eval x = .slice (some ad) l.length cap) (hl : insAt (some ad) l w) (h1 : 0 < l.length) (h3 : l0.length + l.length <= 2000) (hb : base <= w.heap.size)
  (h : ∀ v' w', insOwn w' base v' (l0 ++ l) -> Below base w w' -> w.heap.size <= w'.heap.size -> w.grownBy w' v.ownBlock -> (v'.ownBlock = v.ownBlock ∨ v'.ownBlock = some w.heap.size) -> wpList Tryz.prog ops Q rest (a.put o.dst v') w') : wpList Tryz.prog ops Q (o :: rest) a w := by
 obtain ⟨ri, hri, hrz, hrs, hrb⟩ := instrInfo
 refine wpList_append_own_at w hgd s x 53 ho base 101 ri (.agg #[.string ⟨#[]⟩, .int .i64 0, .int .i64 0, .int .i64 0, .string ⟨#[]⟩]) 5 56 Tryz.underlying53 hri hrz hrs hrb rfl (by decide) v l0.length (icells l0) hs hown ad l.length cap (icells l) hx (icells_len l) (fun j u hj => ?_) icells_one (by unfold maxLen; omega) (by omega) hb (fun v' w' h2 hg _ hloc => ?_)
 ·obtain ⟨y, hy⟩ : ∃ y, l[0]? = some y := ⟨_, List.getElem?_eq_getElem h1⟩
  obtain ⟨b, off, e, -⟩ := hl 0 y hy
  cases e
  rw [Addr.add_lit]
  exact insAt_cells hl j u hj
 ·have hB : Below base w w' := (Below.refl base w).grown hg hb (fun k hk => (hown.lt k hk).1)
  refine h v' w' ?_ hB hB.size hg hloc
  unfold insOwn
  rw [List.length_append, icells_append]
  exact h2
end
section
open Go.RowKit
inductive GI
 | load (r a k : Nat)
 | const (r : Nat) (v : Int)
 | move (r a : Nat)
 | add (r a b : Nat)
 | sub (r a b : Nat)
 | store (a r k : Nat)
 | swap (r a k : Nat)
 | cas (a r k : Nat)
 | fence
 | force
 | zero (r l : Nat)
 | same (r a l : Nat)
 | goto (l : Nat)
 | label (l : Nat)
 | alloc (r : Nat)
 | free (r : Nat)
 | need (r : Nat)
deriving DecidableEq
def lb (p : ByteArray) (k : Nat) : ByteArray := p ++ ⟨#[UInt8.ofNat (48 + k)]⟩
def no : ByteArray := ⟨#[]⟩
def GI.ins (p : ByteArray) : GI -> Ins
 | load r a k => ⟨⟨#[108, 111, 97, 100]⟩, r, a, k, no⟩
 | const r v => ⟨⟨#[99, 111, 110, 115, 116]⟩, r, v, 0, no⟩
 | move r a => ⟨⟨#[109, 111, 118, 101]⟩, r, a, 0, no⟩
 | add r a b => ⟨⟨#[97, 100, 100]⟩, r, a, b, no⟩
 | sub r a b => ⟨⟨#[115, 117, 98]⟩, r, a, b, no⟩
 | store a r k => ⟨⟨#[115, 116, 111, 114, 101]⟩, a, r, k, no⟩
 | swap r a k => ⟨⟨#[115, 119, 97, 112]⟩, r, a, k, no⟩
 | cas a r k => ⟨⟨#[99, 97, 115]⟩, a, r, k, no⟩
 | fence => ⟨⟨#[102, 101, 110, 99, 101]⟩, 0, 0, 0, no⟩
 | force => ⟨⟨#[102, 111, 114, 99, 101]⟩, 0, 0, 0, no⟩
 | zero r l => ⟨⟨#[122, 101, 114, 111]⟩, r, 0, 0, lb p l⟩
 | same r a l => ⟨⟨#[115, 97, 109, 101]⟩, r, a, 0, lb p l⟩
 | goto l => ⟨⟨#[103, 111, 116, 111]⟩, 0, 0, 0, lb p l⟩
 | label l => ⟨⟨#[108, 97, 98, 101, 108]⟩, 0, 0, 0, lb p l⟩
 | alloc r => ⟨⟨#[97, 108, 108, 111, 99]⟩, r, 0, 0, no⟩
 | free r => ⟨⟨#[102, 114, 101, 101]⟩, r, 0, 0, no⟩
 | need r => ⟨⟨#[110, 101, 101, 100]⟩, r, 0, 0, no⟩
def gShow (f : Nat) : GI := if f = 2 then .store 6 0 0 else .swap 0 6 0
def gFence (f : Nat) : GI := if f = 2 then .force else .fence
def gJoin : List GI := [.load 0 6 3, .same 0 6 3, .load 0 7 1, .label 4, .move 1 6, .store 6 6 3, .store 6 0 1, .cas 7 0 1, .load 1 6 1, .same 0 1 3, .goto 4, .label 3]
def gOuter (k : Nat) (op : GI) : List GI := [.load 0 6 k, .zero 0 2, .load 0 6 2, .const 1 1, op, .store 6 0 2, .goto 1, .label 2]
def gEnter (f : Nat) : List GI := if f = 3 then [] else gOuter 0 (.add 0 0 1) ++ ((if f = 4 then gJoin else []) ++ [.load 0 7 0, gShow f, .label 1])
def gLeave (f : Nat) : List GI := if f = 3 then [] else gOuter 2 (.sub 0 0 1) ++ [gShow f, .label 1]
def gRest (f : Nat) : List GI := if f = 3 then [.zero 6 1, .load 0 6 0, .zero 0 1, .const 1 2, .add 0 0 1, .swap 0 6 0, .label 1] else []
def gGone (f : Nat) : List GI := if f = 3 then [.zero 6 1, .const 0 0, .swap 0 6 0, .label 1] else []
def gWait (f : Nat) : List GI :=
 if f = 3 then [.zero 6 1, .const 0 0, .swap 0 6 0, .swap 0 6 3, .label 1, .fence, .move 2 7, .label 3, .load 2 2 1, .zero 2 2, .load 0 2 0, .zero 0 3, .move 1 0, .label 4, .load 0 2 0, .same 0 1 4, .goto 3, .label 2, .zero 6 5, .load 0 6 3, .zero 0 5, .const 1 2, .add 0 0 1, .swap 0 6 0, .label 5]
 else [gFence f, .move 2 7, .label 2, .load 2 2 1, .zero 2 1, .load 0 2 0, .zero 0 2, .const 1 2, .add 1 1 0, .cas 7 0 0, .const 0 2, .sub 1 1 0, .label 3] ++ ((if f = 2 then [.force] else []) ++ [.load 0 2 0, .same 0 1 3, .goto 2, .label 1])
def gCode (p : ByteArray) (l : List GI) : List Ins := l.map (GI.ins p)
def gLab (l : Nat) : List GI -> Nat -> Option Nat
 | [], _ => none
 | .label k :: r, i => if k = l then some i else gLab l r (i + 1)
 | _ :: r, i => gLab l r (i + 1)
def gAt (l : Nat) (s : List GI) : Nat := (gLab l s 0).getD 0
def gNext (s : List GI) (q : Nat) (r : Nat -> Int) : GI -> Nat
 | .zero a l => if r a = 0 then gAt l s else q + 1
 | .same a b l => if r a = r b then gAt l s else q + 1
 | .goto l => gAt l s
 | _ => q + 1
def gExec (m : Mk) (t : Nat) : GI -> Mk
 | .load r a k => m.load t r (m.regs t a) k
 | .const r v => m.setReg t r v
 | .move r a => m.setReg t r (m.regs t a)
 | .add r a b => m.setReg t r ((m.regs t a + m.regs t b) % 4294967296)
 | .sub r a b => m.setReg t r ((m.regs t a - m.regs t b) % 4294967296)
 | .store a r k => m.store t (m.regs t a) k (m.regs t r)
 | .swap r a k => m.swap t r (m.regs t a) k (m.regs t r)
 | .cas a r k => m.cas t r (m.regs t a) k (m.regs t r) (m.regs t (r + 1))
 | .fence => m.fence t
 | .force => m.fenceFrom 0 m.mem.threads
 | .alloc r => m.alloc t r
 | .free r => m.free t (m.regs t r)
 | .need r => m.need (m.regs t r)
 | _ => m
theorem GI.goes (p : ByteArray) (i : GI) : ((i.ins p).op.toList == [115, 116, 111, 112]) = false := by
 cases i <;> (rw [toList_bl]; rfl)
end
end Go.Proofs.YtaiigfcfmcicjaaGreatDoor
