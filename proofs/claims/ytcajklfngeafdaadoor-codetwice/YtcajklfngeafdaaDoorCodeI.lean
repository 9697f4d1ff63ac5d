/- Where code lies. -/
import Derived.Test.YtcajklfngeafdaaDoorPureS
import Derived.Test.YtcajklfngeafdaaDoorFrame
import Derived.WalkKit
namespace Go.Proofs.YtcajklfngeafdaaDoor
open Go.RowKit Go.Extern.Stop Go.Stop Go.Extern

/-- Instructions lie at a place. -/
def insAt (ad : Option Addr) (l : List Ins) (w : World) : Prop := ∀ i x, l[i]? = some x → ∃ b off, ad = some ⟨b, off, none⟩ ∧
  w.cell? ⟨b, off + i * 5, none⟩ = some (.string x.op) ∧ w.cell? ⟨b, off + i * 5 + 1, none⟩ = some (.int .i64 x.a) ∧ w.cell? ⟨b, off + i * 5 + 2, none⟩ = some (.int .i64 x.b) ∧
  w.cell? ⟨b, off + i * 5 + 3, none⟩ = some (.int .i64 x.c) ∧ w.cell? ⟨b, off + i * 5 + 4, none⟩ = some (.string x.to)

theorem insAt_below {ad : Option Addr} {l : List Ins} {w w' : World} (h : insAt ad l w) (k : Below w.heap.size w w') : insAt ad l w' := fun i x hx => by
  obtain ⟨b, off, e, h0, h1, h2, h3, h4⟩ := h i x hx
  exact ⟨b, off, e, keep_cell k h0, keep_cell k h1, keep_cell k h2, keep_cell k h3, keep_cell k h4⟩
end Go.Proofs.YtcajklfngeafdaaDoor
