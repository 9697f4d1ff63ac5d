/- An act's list: where it lies. -/
import Derived.Test.YtcnemlamlchnkaaDoorWaitsW
namespace Go.Proofs.YtcnemlamlchnkaaDoor
open Go.RowKit

/-- An act on a memory. -/
structure MAct where
  kind : ByteArray
  t : Int
  c : Int
  g : Int
  k : Int
  v : Int
  old : Int

/-- Acts lie at a place. -/
def mactsAt (ad : Option Addr) (l : List MAct) (w : World) : Prop := ∀ i x, l[i]? = some x → ∃ b off, ad = some ⟨b, off, none⟩ ∧
  w.cell? ⟨b, off + i * 7, none⟩ = some (.string x.kind) ∧ w.cell? ⟨b, off + i * 7 + 1, none⟩ = some (.int .i64 x.t) ∧ w.cell? ⟨b, off + i * 7 + 2, none⟩ = some (.int .i64 x.c) ∧
  w.cell? ⟨b, off + i * 7 + 3, none⟩ = some (.int .i64 x.g) ∧ w.cell? ⟨b, off + i * 7 + 4, none⟩ = some (.int .i64 x.k) ∧ w.cell? ⟨b, off + i * 7 + 5, none⟩ = some (.int .i64 x.v) ∧ w.cell? ⟨b, off + i * 7 + 6, none⟩ = some (.int .i64 x.old)
end Go.Proofs.YtcnemlamlchnkaaDoor
