import Derived.Test.YtlnjghohgoahpaaGreatDoorM02
import Derived.Deep.Slices
import Derived.Lib.SmallJoins
import Derived.Test.YtlnjghohgoahpaaGreatDoorM01
import Derived.Deep.QuietTactic
import Derived.BigQuiet

/- Lift -/
namespace Go.Proofs.YtlnjghohgoahpaaGreatDoor
open Go.ChangeShapes Go.WideShapes Go.ChangeAt Go.RowKit Go.Joins Go.Deep

theorem laidOutA : laidOutB Tryz.prog = true := by kernel_rfl

theorem trodAll_below {H : Type} {enc : TypeId × Value → H} {P : Program} (hl : laidOutB P = true) {W W' : World} (hb : Below W.heap.size W W') :
    ∀ (ts : List TypeId) (vs : List Value) (ds : List (DataW H)) (ps : List MemPlace), (∀ t ∈ ts, P.readableRec t = true ∧ t < P.types.size) → DataW.TrodAll enc P W 0 (fun _ => true) true ts vs ds ps →
      DataW.TrodAll enc P W' 0 (fun b => decide (b < W.heap.size)) true ts vs ds ps
  | [], vs, ds, ps, _, h => by
    obtain ⟨rfl, rfl, rfl⟩ := trodAll_nil h
    exact trodAll_mk0
  | t :: ts, vs, ds, ps, hr, h => by
    have hlt := h.lt
    obtain ⟨v, vs', d, ds', p, q, rfl, rfl, rfl, h0, r0⟩ := trodAll_cons h
    refine trodAll_cons_mk (Below.trod hl (hr t List.mem_cons_self).1 (hr t List.mem_cons_self).2 h0 hb (fun x hx => hlt x (List.mem_append_left _ hx))) (trodAll_below hl hb ts vs' ds' q (fun u hu => hr u (List.mem_cons_of_mem _ hu)) r0)

theorem cells_at {w : World} {a : Addr} {n : Nat} {cs : List Value} (h : w.cells? 0 a n = some cs) : cs.length = n ∧ ∀ j, j < n → w.cell? (a.add j) = cs[j]? := by
  obtain ⟨_, h1, h2⟩ := World.cells?_some h
  exact ⟨h1, h2⟩

theorem spot_none {w : World} {a : Addr} {v : Value} (h : w.cell? a = some v) : a.spot = none := by
  unfold World.cell? at h
  split at h
  · cases hs : a.spot with
    | none => rfl
    | some q => rw [hs] at h; simp at h
  · cases h

theorem add_plain (a : Addr) (hs : a.spot = none) (k : Nat) : a.add k = ⟨a.block, a.off + k, none⟩ := by
  unfold Addr.add
  split
  · rename_i h; subst h; obtain ⟨b, o, sp⟩ := a; simp only at hs; subst hs; rfl
  · rfl
end Go.Proofs.YtlnjghohgoahpaaGreatDoor

/- Ints -/
namespace Go.Proofs.YtlnjghohgoahpaaGreatDoor
open Go.RowKit Go.Extern.Stop Go.Stop Go.Extern

def errVal (a : Nat → Addr) : Nat → Value
  | 0 => .nilIface
  | k + 1 => errAt (a k)

theorem code_err (a : Nat → Addr) (k : Nat) (hk : k ≤ 9) (w : World) (hE : Env a w) :
    Calls Tryz.prog 46 #[errVal a k] w fun ev w' => ev = .returned (.tuple #[.int .i64 k, .int .i64 (-1)]) ∧ Below w.heap.size w w' := by
  cases k with
  | zero => exact (code_nil w).mono fun _ _ ⟨h, h'⟩ => ⟨h, by rw [h']; exact Below.refl _ _⟩
  | succ k => exact code_sent a k (by omega) w hE

theorem coded_err (a : Nat → Addr) (k : Nat) (hk : k ≤ 9) (c : Int) (w : World) (hE : Env a w) :
    Calls Tryz.prog 23 #[errVal a k, .int .i64 c] w fun ev w' => ev = .returned (.bool (decide ((k : Int) = c))) ∧ Below w.heap.size w w' := by
  by_cases h : (k : Int) = c
  · have hb : ((k : Int) == c) = true := beq_iff_eq.2 h
    rw [decide_eq_true h]
    go_enter Tryz.func23, Tryz.ntmps23
    go_wp2_with fail
    refine (code_err a k hk _ hE).mono ?_
    rintro e0 w1 ⟨rfl, hb1⟩
    subst h
    go_wp2
    go_ret
    exact ⟨rfl, hb1⟩
  · have hb : ((k : Int) == c) = false := beq_eq_false_iff_ne.2 h
    rw [decide_eq_false h]
    go_enter Tryz.func23, Tryz.ntmps23
    go_wp2_with fail
    refine (code_err a k hk _ hE).mono ?_
    rintro e0 w1 ⟨rfl, hb1⟩
    go_wp2
    go_ret
    exact ⟨rfl, hb1⟩

end Go.Proofs.YtlnjghohgoahpaaGreatDoor
