import Derived.Test.YtpjabgdcpogdiaaGreatDoorE17
import Derived.Test.YtpjabgdcpogdiaaGreatDoorE08
import Derived.Test.YtpjabgdcpogdiaaGreatDoorE16

/- GcX -/
namespace Go.Proofs.YtpjabgdcpogdiaaGreatDoor
open Go.RowKit

theorem codes4c : ∀ (rd : Fin 6), codeGood (Cs.code 4 true ⟨false, 2, rd.val, true⟩) = true := by decide +kernel
end Go.Proofs.YtpjabgdcpogdiaaGreatDoor

/- GcY -/
namespace Go.Proofs.YtpjabgdcpogdiaaGreatDoor
open Go.RowKit

theorem codes4d : ∀ (rd : Fin 3), codeGood (Cs.code 4 true ⟨false, 3, rd.val, true⟩) = true := by decide +kernel
theorem codes4e : ∀ (rd : Fin 3), codeGood (Cs.code 4 true ⟨false, 3, rd.val + 3, true⟩) = true := by decide +kernel
end Go.Proofs.YtpjabgdcpogdiaaGreatDoor

/- SpA -/
namespace Go.Proofs.YtpjabgdcpogdiaaGreatDoor
open Go.RowKit

def spConst : ByteArray := ⟨#[99, 111, 110, 115, 116]⟩
def spStore : ByteArray := ⟨#[115, 116, 111, 114, 101]⟩
def spLoad : ByteArray := ⟨#[108, 111, 97, 100]⟩
def spNo : ByteArray := ⟨#[]⟩

end Go.Proofs.YtpjabgdcpogdiaaGreatDoor

/- StB -/
namespace Go.Proofs.YtpjabgdcpogdiaaGreatDoor
open Go.RowKit Go.Extern.Stop Go.Stop Go.Extern Go.Maps Go.WideMaps Go.Sort

def rowsAt (ad : Option Addr) (R : List (List Int)) (w : World) : Prop := ∀ (i : Nat) row, R[i]? = some row → ∃ b off adr cap, ad = some ⟨b, off, none⟩ ∧ w.cell? ⟨b, off + i, none⟩ = some (.slice adr row.length cap) ∧ row.length ≤ cap ∧ numsAt adr row w
theorem rowsAt.below {ad : Option Addr} {R : List (List Int)} {w w' : World} (h : rowsAt ad R w) (hb : Below w.heap.size w w') : rowsAt ad R w' := fun i row hr => by
  obtain ⟨b, off, adr, cap, h1, h2, h3, h4⟩ := h i row hr
  exact ⟨b, off, adr, cap, h1, keep_cell hb h2, h3, h4.below hb⟩

theorem all_hit {α : Type} {f : α → Bool} {l : List α} {j : Nat} {x : α} (hx : l[j]? = some x) (h : f x = false) : l.all f = false := by
  cases hb : l.all f with
  | false => rfl
  | true => rw [List.all_eq_true] at hb; rw [hb x (List.mem_of_getElem? hx)] at h; cases h
theorem all_done {α : Type} {f : α → Bool} {l : List α} (h : ∀ (k : Nat) x, k < l.length → l[k]? = some x → f x = true) : l.all f = true := by
  rw [List.all_eq_true]
  intro x hx
  obtain ⟨k, hk, rfl⟩ := List.getElem_of_mem hx
  exact h k _ hk (List.getElem?_eq_getElem hk)

structure StaPl where
  ai : Option Addr
  ci : Nat
  ar : Option Addr
  cr : Nat
structure StaAt (s : Sta) (q : StaPl) (w : World) : Prop where
  init : rowsAt q.ai s.init w
  regs : rowsAt q.ar s.regs w
  ci : s.init.length ≤ q.ci
  cr : s.regs.length ≤ q.cr
  li : s.init.length ≤ 9223372036854775807
  lr : s.regs.length ≤ 9223372036854775807
  ri : ∀ (i : Nat) row, s.init[i]? = some row → row.length ≤ 9223372036854775807
  rr : ∀ (i : Nat) row, s.regs[i]? = some row → row.length ≤ 9223372036854775807
theorem StaAt.below {s : Sta} {q : StaPl} {w w' : World} (h : StaAt s q w) (hb : Below w.heap.size w w') : StaAt s q w' := ⟨h.init.below hb, h.regs.below hb, h.ci, h.cr, h.li, h.lr, h.ri, h.rr⟩

end Go.Proofs.YtpjabgdcpogdiaaGreatDoor
