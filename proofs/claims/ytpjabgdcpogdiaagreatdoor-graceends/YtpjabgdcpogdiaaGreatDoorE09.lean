import Derived.Test.YtpjabgdcpogdiaaGreatDoorE01
import Derived.Test.YtpjabgdcpogdiaaGreatDoorE08
import Derived.Deep.Slices
import Derived.Lib.SmallJoins

/- SpP -/
namespace Go.Proofs.YtpjabgdcpogdiaaGreatDoor
open Go.ChangeShapes Go.WideShapes Go.ChangeAt Go.RowKit Go.Joins Go.Deep

theorem kcellsS_n : Tryz.prog.cellsOf 3 = 1 := by kernel_rfl
theorem listS_of_trod {H : Type} {enc : TypeId × Value → H} {W : World} {fuel : Nat} {sp : Nat → Bool} {held : Bool} {cs : List Value} {x : DataW H × List MemPlace} {t e : TypeId} {α : Type} [Inhabited α] (F : α → List Value) (k : Nat) (hk : 0 < k) (Q : α → Prop)
    (ht : Tryz.prog.underlying t = some (.slice e)) (hc : Tryz.prog.cellsOf e = k) (hF : ∀ y, (F y).length = k)
    (hr : ∀ (n : Nat) (cs : List Value) x, DataW.trod enc Tryz.prog W 0 sp held n e cs = some x → ∃ y, cs = F y ∧ Q y)
    (h : DataW.trod enc Tryz.prog W 0 sp held fuel t cs = some x) :
    ∃ (ad : Option Addr) (cap : Nat) (l : List α), cs = [.slice ad l.length cap] ∧ (∀ (i : Nat) y, l[i]? = some y → ∃ b off, ad = some ⟨b, off, none⟩ ∧ (∀ j, j < k → W.cell? ⟨b, off + i * k + j, none⟩ = (F y)[j]?) ∧ Q y) ∧ (ad = none → l = [] ∧ cap = 0) ∧ l.length ≤ cap ∧ l.length ≤ maxLen := by
  rcases open_slice ht h with ⟨rfl, _⟩ | ⟨a, len, cap, m, n, D, Pl, rfl, _, hl, hl2, hm, hx, hel⟩
  · exact ⟨none, 0, [], rfl, fun i y hy => by simp at hy, fun _ => ⟨rfl, rfl⟩, Nat.zero_le _, Nat.zero_le _⟩
  · have hm' : len ≤ m := by rw [hm]; split <;> omega
    have hex : ∀ i, i < len → ∃ y : α, (∀ j, j < k → W.cell? ((a.add (i * k)).add j) = (F y)[j]?) ∧ Q y := fun i hi => by
      obtain ⟨cs', h1, h2⟩ := hel i (by omega)
      rw [hc] at h1
      obtain ⟨y, rfl, h3⟩ := hr _ _ _ h2
      exact ⟨y, (cells_at h1).2, h3⟩
    obtain ⟨f, hf⟩ := choose_lt (p := fun i (y : α) => (∀ j, j < k → W.cell? ((a.add (i * k)).add j) = (F y)[j]?) ∧ Q y) (h := hex)
    refine ⟨some a, cap, (List.range len).map f, by simp, fun i y hy => ?_, fun h => (by cases h), by simpa using hl, by simp; omega⟩
    have hi : i < len := by
      have := (List.getElem?_eq_some_iff.1 hy).1
      simpa using this
    obtain rfl : y = f i := by
      rw [List.getElem?_map, List.getElem?_range hi] at hy
      simpa using hy.symm
    have h00 := (hf 0 (by omega)).1 0 hk
    obtain ⟨v0, hv0⟩ : ∃ v, (F (f 0))[0]? = some v := ⟨_, List.getElem?_eq_getElem (by rw [hF]; exact hk)⟩
    rw [hv0, Nat.zero_mul] at h00
    have hs : a.spot = none := spot_none (a := a) h00
    have e : ∀ j, (a.add (i * k)).add j = ⟨a.block, a.off + i * k + j, none⟩ := fun j => by
      rw [add_plain a hs, add_plain _ rfl]
    refine ⟨a.block, a.off, by obtain ⟨b, o, sp⟩ := a; simp only at hs; subst hs; rfl, fun j hj => ?_, (hf i hi).2⟩
    have := (hf i hi).1 j hj
    rw [e] at this
    exact this

end Go.Proofs.YtpjabgdcpogdiaaGreatDoor

/- GcA -/
namespace Go.Proofs.YtpjabgdcpogdiaaGreatDoor
open Go.RowKit

inductive GI
  | load (r a k : Nat)
  | const (r : Nat) (v : Int)
  | move (r a : Nat)
  | add (r a b : Nat)
  | sub (r a b : Nat)
  | store (a r k : Nat)
  | swap (r a k : Nat)
  | cas (a r k : Nat)
  | fence
  | force
  | zero (r l : Nat)
  | same (r a l : Nat)
  | goto (l : Nat)
  | label (l : Nat)
  | alloc (r : Nat)
  | free (r : Nat)
  | need (r : Nat)
deriving DecidableEq

def lb (p : ByteArray) (k : Nat) : ByteArray := p ++ ⟨#[UInt8.ofNat (48 + k)]⟩
def no : ByteArray := ⟨#[]⟩
def GI.ins (p : ByteArray) : GI → Ins
  | load r a k => ⟨⟨#[108, 111, 97, 100]⟩, r, a, k, no⟩
  | const r v => ⟨⟨#[99, 111, 110, 115, 116]⟩, r, v, 0, no⟩
  | move r a => ⟨⟨#[109, 111, 118, 101]⟩, r, a, 0, no⟩
  | add r a b => ⟨⟨#[97, 100, 100]⟩, r, a, b, no⟩
  | sub r a b => ⟨⟨#[115, 117, 98]⟩, r, a, b, no⟩
  | store a r k => ⟨⟨#[115, 116, 111, 114, 101]⟩, a, r, k, no⟩
  | swap r a k => ⟨⟨#[115, 119, 97, 112]⟩, r, a, k, no⟩
  | cas a r k => ⟨⟨#[99, 97, 115]⟩, a, r, k, no⟩
  | fence => ⟨⟨#[102, 101, 110, 99, 101]⟩, 0, 0, 0, no⟩
  | force => ⟨⟨#[102, 111, 114, 99, 101]⟩, 0, 0, 0, no⟩
  | zero r l => ⟨⟨#[122, 101, 114, 111]⟩, r, 0, 0, lb p l⟩
  | same r a l => ⟨⟨#[115, 97, 109, 101]⟩, r, a, 0, lb p l⟩
  | goto l => ⟨⟨#[103, 111, 116, 111]⟩, 0, 0, 0, lb p l⟩
  | label l => ⟨⟨#[108, 97, 98, 101, 108]⟩, 0, 0, 0, lb p l⟩
  | alloc r => ⟨⟨#[97, 108, 108, 111, 99]⟩, r, 0, 0, no⟩
  | free r => ⟨⟨#[102, 114, 101, 101]⟩, r, 0, 0, no⟩
  | need r => ⟨⟨#[110, 101, 101, 100]⟩, r, 0, 0, no⟩

def gShow (f : Nat) : GI := if f = 2 then .store 6 0 0 else .swap 0 6 0
def gFence (f : Nat) : GI := if f = 2 then .force else .fence
def gJoin : List GI := [.load 0 6 3, .same 0 6 3, .load 0 7 1, .label 4, .move 1 6, .store 6 6 3, .store 6 0 1, .cas 7 0 1, .load 1 6 1, .same 0 1 3, .goto 4, .label 3]
def gOuter (k : Nat) (op : GI) : List GI := [.load 0 6 k, .zero 0 2, .load 0 6 2, .const 1 1, op, .store 6 0 2, .goto 1, .label 2]
def gEnter (f : Nat) : List GI := if f = 3 then [] else gOuter 0 (.add 0 0 1) ++ ((if f = 4 then gJoin else []) ++ [.load 0 7 0, gShow f, .label 1])
def gLeave (f : Nat) : List GI := if f = 3 then [] else gOuter 2 (.sub 0 0 1) ++ [gShow f, .label 1]
def gRest (f : Nat) : List GI := if f = 3 then [.zero 6 1, .load 0 6 0, .zero 0 1, .const 1 2, .add 0 0 1, .swap 0 6 0, .label 1] else []
def gGone (f : Nat) : List GI := if f = 3 then [.zero 6 1, .const 0 0, .swap 0 6 0, .label 1] else []
def gWait (f : Nat) : List GI :=
  if f = 3 then [.zero 6 1, .const 0 0, .swap 0 6 0, .swap 0 6 3, .label 1, .fence, .move 2 7, .label 3, .load 2 2 1, .zero 2 2, .load 0 2 0, .zero 0 3, .move 1 0, .label 4, .load 0 2 0, .same 0 1 4, .goto 3, .label 2, .zero 6 5, .load 0 6 3, .zero 0 5, .const 1 2, .add 0 0 1, .swap 0 6 0, .label 5]
  else [gFence f, .move 2 7, .label 2, .load 2 2 1, .zero 2 1, .load 0 2 0, .zero 0 2, .const 1 2, .add 1 1 0, .cas 7 0 0, .const 0 2, .sub 1 1 0, .label 3] ++ ((if f = 2 then [.force] else []) ++ [.load 0 2 0, .same 0 1 3, .goto 2, .label 1])
def gCode (p : ByteArray) (l : List GI) : List Ins := l.map (GI.ins p)

def gLab (l : Nat) : List GI → Nat → Option Nat
  | [], _ => none
  | .label k :: r, i => if k = l then some i else gLab l r (i + 1)
  | _ :: r, i => gLab l r (i + 1)
def gAt (l : Nat) (s : List GI) : Nat := (gLab l s 0).getD 0
def gNext (s : List GI) (q : Nat) (r : Nat → Int) : GI → Nat
  | .zero a l => if r a = 0 then gAt l s else q + 1
  | .same a b l => if r a = r b then gAt l s else q + 1
  | .goto l => gAt l s
  | _ => q + 1
def gExec (m : Mk) (t : Nat) : GI → Mk
  | .load r a k => m.load t r (m.regs t a) k
  | .const r v => m.setReg t r v
  | .move r a => m.setReg t r (m.regs t a)
  | .add r a b => m.setReg t r ((m.regs t a + m.regs t b) % 4294967296)
  | .sub r a b => m.setReg t r ((m.regs t a - m.regs t b) % 4294967296)
  | .store a r k => m.store t (m.regs t a) k (m.regs t r)
  | .swap r a k => m.swap t r (m.regs t a) k (m.regs t r)
  | .cas a r k => m.cas t r (m.regs t a) k (m.regs t r) (m.regs t (r + 1))
  | .fence => m.fence t
  | .force => m.fenceFrom 0 m.mem.threads
  | .alloc r => m.alloc t r
  | .free r => m.free t (m.regs t r)
  | .need r => m.need (m.regs t r)
  | _ => m

theorem GI.goes (p : ByteArray) (i : GI) : ((i.ins p).op.toList == [115, 116, 111, 112]) = false := by
  cases i <;> (rw [toList_bl]; rfl)
theorem lb_bl (p : ByteArray) (k : Nat) : bl (lb p k) = bl p ++ [UInt8.ofNat (48 + k)] := by
  unfold lb bl
  simp
theorem lb_inj {p p' : ByteArray} {k k' : Nat} (h : lb p k = lb p' k') : p = p' ∧ UInt8.ofNat (48 + k) = UInt8.ofNat (48 + k') := by
  have := congrArg bl h
  rw [lb_bl, lb_bl] at this
  obtain ⟨h1, h2⟩ := List.append_inj' this rfl
  exact ⟨bl_inj h1, by simpa using h2⟩
end Go.Proofs.YtpjabgdcpogdiaaGreatDoor

/- GcB -/
namespace Go.Proofs.YtpjabgdcpogdiaaGreatDoor
open Go.RowKit

theorem u8_digit {k l : Nat} (hk : k ≤ 9) (hl : l ≤ 9) (h : UInt8.ofNat (48 + k) = UInt8.ofNat (48 + l)) : k = l := by
  have := congrArg UInt8.toNat h
  simp at this
  omega
def noLab (p : ByteArray) (A : List Ins) : Prop := ∀ y ∈ A, ∀ l, l ≤ 9 → setsLabel y (lb p l) = false
def gOk (s : List GI) : Bool := s.all fun i => match i with
  | .label k => decide (k ≤ 9)
  | .zero _ l => decide (l ≤ 9) && (gLab l s 0).isSome
  | .same _ _ l => decide (l ≤ 9) && (gLab l s 0).isSome
  | .goto l => decide (l ≤ 9) && (gLab l s 0).isSome
  | _ => true

theorem gLab_at {l : Nat} : ∀ {s : List GI} {i j : Nat}, gLab l s i = some j → i ≤ j ∧ s[j - i]? = some (.label l) ∧ ∀ k, k < j - i → s[k]? ≠ some (.label l)
  | [], _, _, h => by cases h
  | x :: r, i, j, h => by
    by_cases e : x = .label l
    · subst e
      have h' : (if l = l then some i else gLab l r (i + 1)) = some j := h
      rw [if_pos rfl] at h'
      cases h'
      refine ⟨Nat.le_refl _, by rw [Nat.sub_self]; rfl, fun k hk => absurd hk (by omega)⟩
    · have h' : gLab l r (i + 1) = some j := by
        cases x with
        | label k =>
          have h2 : (if k = l then some i else gLab l r (i + 1)) = some j := h
          rwa [if_neg (fun e2 => e (by rw [e2]))] at h2
        | _ => exact h
      obtain ⟨h1, h2, h3⟩ := gLab_at h'
      refine ⟨by omega, ?_, fun k hk => ?_⟩
      · rw [show j - i = (j - (i + 1)) + 1 by omega]
        exact h2
      · cases k with
        | zero => exact fun e2 => e (by simpa using e2)
        | succ k => exact h3 k (by omega)
theorem GI.sets {p : ByteArray} {i : GI} {l : Nat} (h : setsLabel (i.ins p) (lb p l) = true) (hl : l ≤ 9) (hk : ∀ k, i = .label k → k ≤ 9) : i = .label l := by
  unfold setsLabel at h
  simp only [Bool.and_eq_true] at h
  obtain ⟨h1, h2⟩ := h
  rw [toList_bl] at h1
  cases i with
  | label k =>
    have e : lb p k = lb p l := by
      have := eq_of_beq h2
      rw [toList_bl, toList_bl] at this
      exact bl_inj this
    rw [u8_digit (hk k rfl) hl (lb_inj e).2]
  | _ => exact Bool.noConfusion (show false = true from h1)
theorem gLab_labelAt {p : ByteArray} {A B : List Ins} {s : List GI} {l j : Nat} (hA : noLab p A) (hs : gOk s = true) (hl : l ≤ 9) (h : gLab l s 0 = some j) : labelAt (A ++ (gCode p s ++ B)) (lb p l) = ((A.length + j : Nat) : Int) := by
  obtain ⟨-, h2, h3⟩ := gLab_at h
  rw [Nat.sub_zero] at h2 h3
  have hj : j < s.length := (List.getElem?_eq_some_iff.1 h2).1
  have hsl : ∀ k, .label k ∈ s → k ≤ 9 := fun k hk => by
    have := List.all_eq_true.1 hs _ hk
    simpa using this
  have at' : ∀ k, k < s.length → (A ++ (gCode p s ++ B))[A.length + k]? = (s[k]?).map (GI.ins p) := fun k hk => by
    rw [List.getElem?_append_right (Nat.le_add_right _ _), Nat.add_sub_cancel_left, List.getElem?_append_left (by unfold gCode; rw [List.length_map]; exact hk)]
    unfold gCode
    rw [List.getElem?_map]
  refine labelAt_some (x := (GI.label l).ins p) ?_ ?_ ?_
  · rw [at' j hj, h2]; rfl
  · unfold setsLabel
    rw [toList_bl]
    have e1 : (bl ((GI.label l).ins p).op == [108, 97, 98, 101, 108]) = true := rfl
    rw [e1, Bool.true_and]
    exact beq_self_eq_true _
  · intro k y hk hy
    by_cases hkA : k < A.length
    · rw [List.getElem?_append_left hkA] at hy
      exact hA y (List.mem_of_getElem? hy) l hl
    · obtain ⟨k', rfl⟩ : ∃ k', k = A.length + k' := ⟨k - A.length, by omega⟩
      rw [at' k' (by omega)] at hy
      cases hx : s[k']? with
      | none => rw [hx] at hy; cases hy
      | some i =>
        rw [hx] at hy
        have hy : y = i.ins p := (Option.some.inj hy).symm
        subst hy
        cases hb : setsLabel (i.ins p) (lb p l) with
        | false => rfl
        | true =>
          have := GI.sets hb hl (fun k2 e => hsl k2 (by rw [← e]; exact List.mem_of_getElem? hx))
          subst this
          exact absurd hx (h3 k' (by omega))

theorem setPc_setPc (m : Mk) (t a b : Nat) : (m.setPc t a).setPc t b = m.setPc t b := by
  unfold Mk.setPc
  simp only [Mk.mk.injEq, true_and, and_true]
  funext u
  by_cases e : u = t
  · rw [if_pos e, if_pos e]
  · rw [if_neg e, if_neg e, if_neg e]

theorem gstep {m : Mk} {t q : Nat} {L A B : List Ins} {p : ByteArray} {s : List GI} {i : GI} (hL : L = A ++ (gCode p s ++ B)) (hpc : m.pc t = A.length + q) (hq : s[q]? = some i) (hA : noLab p A) (hs : gOk s = true) :
    doneAt L (m.pc t) = false ∧ m.step L t = gExec (m.setPc t (A.length + gNext s q (m.regs t) i)) t i := by
  have hlt : q < s.length := (List.getElem?_eq_some_iff.1 hq).1
  have hx : L[m.pc t]? = some (i.ins p) := by
    rw [hL, hpc, List.getElem?_append_right (Nat.le_add_right _ _), Nat.add_sub_cancel_left, List.getElem?_append_left (by unfold gCode; rw [List.length_map]; exact hlt)]
    unfold gCode
    rw [List.getElem?_map, hq]; rfl
  have hi := List.all_eq_true.1 hs i (List.mem_of_getElem? hq)
  have lab : ∀ l, l ≤ 9 → (gLab l s 0).isSome = true → (labelAt L (lb p l)).toNat = A.length + gAt l s := fun l hl hS => by
    obtain ⟨j, hj⟩ := Option.isSome_iff_exists.1 hS
    rw [hL, gLab_labelAt hA hs hl hj]
    unfold gAt
    rw [hj]
    exact Int.toNat_natCast _
  refine ⟨?_, ?_⟩
  · unfold doneAt
    rw [hx]
    exact i.goes p
  · unfold Mk.step
    rw [hx]
    show (m.setPc t (m.pc t + 1)).exec L t (i.ins p) = _
    rw [hpc]
    cases i with
    | load r a k => rw [exec_load _ _ _ rfl]; rfl
    | const r v => rw [exec_const _ _ _ rfl]; rfl
    | move r a => rw [exec_move _ _ _ rfl]; rfl
    | add r a b => rw [exec_add _ _ _ rfl]; rfl
    | sub r a b => rw [exec_sub _ _ _ rfl]; rfl
    | store a r k => rw [exec_store _ _ _ rfl]; rfl
    | swap r a k => rw [exec_swap _ _ _ rfl]; rfl
    | cas a r k => rw [exec_cas _ _ _ rfl]; rfl
    | fence => rw [exec_fence _ _ _ rfl]; rfl
    | force => rw [exec_force _ _ _ rfl]; rfl
    | alloc r => rw [exec_alloc _ _ _ rfl]; rfl
    | free r => rw [exec_free _ _ _ rfl]; rfl
    | need r => rw [exec_need _ _ _ rfl]; rfl
    | label k => rw [exec_label _ _ _ rfl]; rfl
    | zero r l =>
      rw [exec_zero _ _ _ rfl]
      simp only [Bool.and_eq_true, decide_eq_true_eq] at hi
      show (if m.regs t r = 0 then (m.setPc t (A.length + q + 1)).setPc t (labelAt L (lb p l)).toNat else m.setPc t (A.length + q + 1)) = m.setPc t (A.length + if m.regs t r = 0 then gAt l s else q + 1)
      split
      · rw [setPc_setPc, lab l hi.1 hi.2]
      · rfl
    | same r a l =>
      rw [exec_same _ _ _ rfl]
      simp only [Bool.and_eq_true, decide_eq_true_eq] at hi
      show (if m.regs t r = m.regs t a then (m.setPc t (A.length + q + 1)).setPc t (labelAt L (lb p l)).toNat else m.setPc t (A.length + q + 1)) = m.setPc t (A.length + if m.regs t r = m.regs t a then gAt l s else q + 1)
      split
      · rw [setPc_setPc, lab l hi.1 hi.2]
      · rfl
    | goto l =>
      rw [exec_goto _ _ _ rfl]
      simp only [Bool.and_eq_true, decide_eq_true_eq] at hi
      show (m.setPc t (A.length + q + 1)).setPc t (labelAt L (lb p l)).toNat = m.setPc t (A.length + gAt l s)
      rw [setPc_setPc, lab l hi.1 hi.2]
end Go.Proofs.YtpjabgdcpogdiaaGreatDoor

/- GcC -/
namespace Go.Proofs.YtpjabgdcpogdiaaGreatDoor
open Go.RowKit

def vw (m : Mk) (t : Nat) (c : Nat) (g : Int) (k : Nat) : Int := (m.mem.waits t).foldl (Wt.pick c g k) (m.mem.ar.words c k)
def rf (m : Mk) (c : Nat) : Int := ((m.mem.ar.given c : Int) - 1) * 64 + c + 1
structure Live (m : Mk) (c : Nat) : Prop where
  lt : c < m.mem.ar.size
  there : m.mem.ar.there c = true
  given : 0 < m.mem.ar.given c
  small : m.mem.ar.size ≤ 64
def gn (m : Mk) (c : Nat) : Int := (m.mem.ar.given c : Int) - 1

theorem rf_cell {m : Mk} {c : Nat} (h : Live m c) : cellOf (rf m c) = c ∧ genOf (rf m c) = gn m c := by
  have h1 := h.lt
  have h2 := h.small
  unfold cellOf genOf rf gn
  constructor <;> omega
theorem rf_pos {m : Mk} {c : Nat} (h : Live m c) : 0 < rf m c := by
  have h1 := h.given
  unfold rf
  omega
theorem has_iff {s : Ar} {c : Nat} {g : Int} (hs : c < s.size) : s.has c g = true ↔ s.there c = true ∧ g = (s.given c : Int) - 1 := by
  unfold Ar.has
  simp only [Bool.and_eq_true, decide_eq_true_eq, beq_iff_eq, Int.toNat_natCast]
  constructor
  · rintro ⟨⟨-, h1⟩, h2⟩; exact ⟨h1, h2⟩
  · rintro ⟨h1, h2⟩; exact ⟨⟨by omega, h1⟩, h2⟩
theorem Live.has {m : Mk} {c : Nat} (h : Live m c) : m.mem.ar.has c (gn m c) = true := (has_iff h.lt).2 ⟨h.there, rfl⟩
theorem Live.names {m : Mk} {c : Nat} (h : Live m c) : m.names (rf m c) = true := by
  unfold Mk.names
  rw [(rf_cell h).1, (rf_cell h).2, h.has]
  have := rf_pos h
  have e : (rf m c == 0) = false := by rw [beq_eq_false_iff_ne]; omega
  rw [e]; rfl
theorem Live.loaded {m : Mk} {c : Nat} (h : Live m c) (t k : Nat) : m.loaded t (rf m c) k = vw m t c (gn m c) k := by
  unfold Mk.loaded vw
  rw [(rf_cell h).1, (rf_cell h).2, Int.toNat_natCast, Int.toNat_natCast]
theorem load_live {m : Mk} {c : Nat} (h : Live m c) (t r k : Nat) : m.load t r (rf m c) k = m.setReg t r (vw m t c (gn m c) k) := by
  unfold Mk.load
  rw [if_pos h.names, h.loaded]

structure SameCells (m m' : Mk) : Prop where
  size : m'.mem.ar.size = m.mem.ar.size
  there : m'.mem.ar.there = m.mem.ar.there
  given : m'.mem.ar.given = m.mem.ar.given
theorem SameCells.live {m m' : Mk} (h : SameCells m m') {c : Nat} (k : Live m c) : Live m' c := ⟨by rw [h.size]; exact k.lt, by rw [h.there]; exact k.there, by rw [h.given]; exact k.given, by rw [h.size]; exact k.small⟩
theorem SameCells.rf {m m' : Mk} (h : SameCells m m') (c : Nat) : rf m' c = rf m c := by unfold Go.Proofs.YtpjabgdcpogdiaaGreatDoor.rf; rw [h.given]
theorem SameCells.gn {m m' : Mk} (h : SameCells m m') (c : Nat) : gn m' c = gn m c := by unfold Go.Proofs.YtpjabgdcpogdiaaGreatDoor.gn; rw [h.given]

theorem foldl_snoc (l : List Wt) (x : Wt) (c g k v : Int) : (l ++ [x]).foldl (Wt.pick c g k) v = Wt.pick c g k (l.foldl (Wt.pick c g k) v) x := by
  rw [List.foldl_append]; rfl
theorem foldl_none {c g k : Int} : ∀ {l : List Wt} {v : Int}, (∀ x ∈ l, ¬ (x.c = c ∧ x.g = g ∧ x.w = k)) → l.foldl (Wt.pick c g k) v = v
  | [], _, _ => rfl
  | x :: l, v, h => by
    rw [List.foldl_cons]
    have : Wt.pick c g k v x = v := if_neg (h x List.mem_cons_self)
    rw [this]
    exact foldl_none (fun y hy => h y (List.mem_cons_of_mem _ hy))

structure Drained (m m' : Mk) (t : Nat) (x : Wt) (l : List Wt) : Prop where
  cells : SameCells m m'
  thr : m'.mem.threads = m.mem.threads
  own : m'.mem.waits t = l
  was : m.mem.waits t = x :: l
  waits : ∀ u, u ≠ t → m'.mem.waits u = m.mem.waits u
  regs : m'.regs = m.regs
  pc : m'.pc = m.pc
  words : ∀ c k, m'.mem.ar.words c k = if c = x.c.toNat ∧ k = x.w.toNat ∧ m.mem.ar.has x.c x.g = true then x.v else m.mem.ar.words c k
  faults : m'.faults = m.faults + if m.mem.ar.has x.c x.g = true then 0 else 1
theorem drain1_cons {m : Mk} {t : Nat} {x : Wt} {l : List Wt} (h : m.mem.waits t = x :: l) : Drained m (m.drain1 t) t x l := by
  have e : m.drain1 t = { m with mem := m.mem.drained t x l, faults := m.faults + if m.mem.ar.has x.c x.g = true then 0 else 1 } := by
    unfold Mk.drain1
    rw [h]
  rw [e]
  refine ⟨⟨(Rm.drained_ar _ _ _ _).1, (Rm.drained_ar _ _ _ _).2.1, (Rm.drained_ar _ _ _ _).2.2⟩, Rm.drained_threads _ _ _ _, Rm.drained_waits _ _ _ _, h, fun u hu => Rm.drained_waits_ne _ _ _ _ _ hu, rfl, rfl, fun c k => ?_, rfl⟩
  show (m.mem.drained t x l).ar.words c k = _
  unfold Rm.drained
  by_cases hh : m.mem.ar.has x.c x.g = true
  · rw [if_pos hh]
    show (if c = x.c.toNat ∧ k = x.w.toNat then x.v else m.mem.ar.words c k) = _
    by_cases e : c = x.c.toNat ∧ k = x.w.toNat
    · rw [if_pos e, if_pos ⟨e.1, e.2, hh⟩]
    · rw [if_neg e, if_neg (fun e2 => e ⟨e2.1, e2.2.1⟩)]
  · rw [if_neg hh, if_neg (fun e2 => hh e2.2.2)]; rfl
theorem drain1_nil {m : Mk} {t : Nat} (h : m.mem.waits t = []) : m.drain1 t = m := by
  unfold Mk.drain1
  rw [h]
theorem Drained.vw {m m' : Mk} {t : Nat} {x : Wt} {l : List Wt} (h : Drained m m' t x l) {c : Nat} (hc : Live m c) (hx : 0 ≤ x.c ∧ 0 ≤ x.w) (k : Nat) : vw m' t c (gn m c) k = vw m t c (gn m c) k := by
  unfold Go.Proofs.YtpjabgdcpogdiaaGreatDoor.vw
  rw [h.own, h.was, List.foldl_cons, h.words]
  congr 1
  unfold Wt.pick
  by_cases e : x.c = c ∧ x.g = gn m c ∧ x.w = k
  · rw [if_pos e]
    obtain ⟨e1, e2, e3⟩ := e
    rw [if_pos ⟨by omega, by omega, by rw [e1, e2]; exact hc.has⟩]
  · rw [if_neg e, if_neg]
    rintro ⟨e1, e2, e3⟩
    have ec : x.c = c := by omega
    refine e ⟨ec, ?_, by omega⟩
    rw [ec] at e3
    exact ((has_iff hc.lt).1 e3).2
theorem Drained.vw_ne {m m' : Mk} {t u : Nat} {x : Wt} {l : List Wt} (h : Drained m m' t x l) (hu : u ≠ t) {c : Nat} (hc : c ≠ x.c.toNat) (g : Int) (k : Nat) : Go.Proofs.YtpjabgdcpogdiaaGreatDoor.vw m' u c g k = Go.Proofs.YtpjabgdcpogdiaaGreatDoor.vw m u c g k := by
  unfold Go.Proofs.YtpjabgdcpogdiaaGreatDoor.vw
  rw [h.waits u hu, h.words, if_neg (fun e => hc e.1)]

theorem fence_of {P : Mk → Prop} {t : Nat} (hd : ∀ m, P m → P (m.drain1 t)) : ∀ {m : Mk}, P m → P (m.fence t) := by
  have key : ∀ (l : List Wt) (m : Mk), m.mem.waits t = l → P m → P { m with mem := m.mem.drainAll t l, faults := m.faults + m.mem.gone t l } := by
    intro l
    induction l with
    | nil => intro m _ h; exact h
    | cons x l ih =>
      intro m hm h
      have e : m.drain1 t = { m with mem := m.mem.drained t x l, faults := m.faults + if m.mem.ar.has x.c x.g = true then 0 else 1 } := by
        unfold Mk.drain1
        rw [hm]
      have h1 := hd m h
      rw [e] at h1
      have := ih _ (Rm.drained_waits m.mem t x l) h1
      have e2 : m.faults + (if m.mem.ar.has x.c x.g = true then 0 else 1) + (m.mem.drained t x l).gone t l = m.faults + m.mem.gone t (x :: l) := by
        show _ = m.faults + ((if m.mem.ar.has x.c x.g = true then 0 else 1) + (m.mem.drained t x l).gone t l)
        omega
      dsimp only at this
      rw [e2] at this
      exact this
  intro m h
  exact key _ m rfl h
theorem fence_waits_ne (m : Mk) (t : Nat) {u : Nat} (h : u ≠ t) : (m.fence t).mem.waits u = m.mem.waits u := Rm.drainAll_waits_ne _ _ _ h _
theorem force_waits (k : Nat) : ∀ (m : Mk) (t u : Nat), (t ≤ u ∧ u < t + k ∨ m.mem.waits u = []) → (m.fenceFrom t k).mem.waits u = [] := by
  induction k with
  | zero =>
    intro m t u h
    rcases h with h | h
    · omega
    · exact h
  | succ k ih =>
    intro m t u h
    refine ih (m.fence t) (t + 1) u ?_
    by_cases e : u = t
    · subst e
      exact .inr (Rm.drainAll_waits _ _ _ rfl)
    · rcases h with h | h
      · exact .inl ⟨by omega, by omega⟩
      · exact .inr (by rw [fence_waits_ne m t e]; exact h)

theorem setReg_reg (m : Mk) (t r : Nat) (v : Int) (k : Nat) : (m.setReg t r v).regs t k = if k = r then v else m.regs t k := by
  show (if t = t ∧ k = r then v else m.regs t k) = _
  by_cases e : k = r
  · rw [if_pos ⟨rfl, e⟩, if_pos e]
  · rw [if_neg (fun h => e h.2), if_neg e]
theorem setReg_other (m : Mk) (t r : Nat) (v : Int) {u : Nat} (hu : u ≠ t) : (m.setReg t r v).regs u = m.regs u := by
  funext k
  exact if_neg (fun h => hu h.1)
theorem drain1_regs (m : Mk) (t : Nat) : (m.drain1 t).regs = m.regs ∧ (m.drain1 t).pc = m.pc := by
  unfold Mk.drain1
  split <;> exact ⟨rfl, rfl⟩
theorem fenceFrom_regs : ∀ (k : Nat) (m : Mk) (t : Nat), (m.fenceFrom t k).regs = m.regs ∧ (m.fenceFrom t k).pc = m.pc
  | 0, _, _ => ⟨rfl, rfl⟩
  | k + 1, m, t => fenceFrom_regs k (m.fence t) (t + 1)

theorem store_live {m : Mk} {c : Nat} (h : Live m c) (t k : Nat) (v : Int) : m.store t (rf m c) k v = (m.room t).put t (rf m c) k v := by
  unfold Mk.store
  rw [if_pos h.names]
theorem room_of {P : Mk → Prop} {t : Nat} {m : Mk} (hd : ∀ m, P m → P (m.drain1 t)) (h : P m) : P (m.room t) := by
  unfold Mk.room
  split
  · exact hd m h
  · exact h
theorem room_regs (m : Mk) (t : Nat) : (m.room t).regs = m.regs ∧ (m.room t).pc = m.pc := by
  unfold Mk.room
  split
  · exact drain1_regs m t
  · exact ⟨rfl, rfl⟩
end Go.Proofs.YtpjabgdcpogdiaaGreatDoor
