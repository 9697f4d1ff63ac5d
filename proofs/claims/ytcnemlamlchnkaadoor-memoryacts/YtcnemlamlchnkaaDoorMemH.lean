/- Package memory by contracts: Fence. -/
import Derived.Test.YtcnemlamlchnkaaDoorMemG
import Derived.Test.YtcnemlamlchnkaaDoorRefJ
namespace Go.Proofs.YtcnemlamlchnkaaDoor
open Go.RowKit Go.Extern.Stop Go.Stop Go.Extern Go.Sort

/-- How many stores of thread t wait, by its line's cell. -/
def lineLen (b t : Nat) (w : World) : Nat := match w.cell? ⟨b, 386 + t * 33 + 32, none⟩ with
  | some (.int _ n) => n.toNat
  | _ => 0

theorem MmAt.lineLen {b : Nat} {s : Rm} {w : World} (h : MmAt b s w) {t : Nat} (ht : t < s.threads) : lineLen b t w = (s.waits t).length := by
  unfold Go.Proofs.YtcnemlamlchnkaaDoor.lineLen
  rw [(h.line t ht).len]
  exact Int.toNat_natCast _

/-- The number that a fence answers. -/
def fenceNum (f : Bool) : Nat := if f = true then 7 else 0

theorem mfence_no (a : Nat → Addr) (b : Nat) (s : Rm) (t : Int) (w : World) (hE : EnvM a w) (h : MmAt b s w) (ht : ¬ (0 ≤ t ∧ t < s.threads)) :
    Calls Tryd.prog 38 #[.pointer (some ⟨b, 0, none⟩), .int .i64 t] w fun e w' => e = .returned (errAt (a 1)) ∧ w' = w := by
  have c1 : w.cell? ⟨1, 0, none⟩ = some (errAt (a 1)) := hE.cell 1 (by decide)
  have HH := has_m_no b s t w h ht
  clear h ht
  go_enter Tryd.func38, Tryd.ntmps38
  go_wp2_with fail
  refine HH.mono ?_
  rintro e0 w1 ⟨rfl, rfl⟩
  go_wp2
  go_ret
  exact ⟨rfl, rfl⟩

set_option maxRecDepth 20000 in
set_option maxHeartbeats 2000000 in
theorem mfence_any (a : Nat → Addr) (B b : Nat) (s : Rm) (t : Nat) (w : World) (hE : EnvB a B w) (hB : B ≤ b) (h : MmAt b s w) (ht : t < s.threads) (hx : ∀ x ∈ s.waits t, x.Ok) :
    Calls Tryd.prog 38 #[.pointer (some ⟨b, 0, none⟩), .int .i64 t] w fun e w' => e = .returned (errVal a (fenceNum (decide (0 < s.gone t (s.waits t))))) ∧ MmStep b w (s.drainAll t (s.waits t)) w' := by
  have HH := has_m_yes b s t w h ht
  have hf := h.few
  have t6 : (t : Int) < 6 := by omega
  have HI : Hid (∃ s1, s1.threads = s.threads ∧ (∀ x ∈ s1.waits t, x.Ok) ∧ (false || decide (0 < s1.gone t (s1.waits t))) = decide (0 < s.gone t (s.waits t)) ∧ s1.drainAll t (s1.waits t) = s.drainAll t (s.waits t) ∧ MmStep b w s1 w) := ⟨s, rfl, hx, by simp, rfl, MmStep.refl h⟩
  generalize decide (0 < s.gone t (s.waits t)) = G at *
  generalize hD : s.drainAll t (s.waits t) = D at *
  clear hD hx h
  go_enter Tryd.func38, Tryd.ntmps38
  go_wp2_with fail
  refine HH.mono ?_
  rintro e0 w1 ⟨rfl, rfl⟩
  clear HH
  go_wp2_with fail
  go_loopw [5, 6] (fun st _ wr => ∃ f : Bool, st = errVal a (fenceNum f) ∧ ∃ s1, s1.threads = s.threads ∧ (∀ x ∈ s1.waits t, x.Ok) ∧ (f || decide (0 < s1.gone t (s1.waits t))) = G ∧ s1.drainAll t (s1.waits t) = D ∧ MmStep b w1 s1 wr) (fun _ _ wr => lineLen b t wr)
  case atStart => exact ⟨false, rfl, HI.out⟩
  case round =>
    obtain ⟨f, rfl, s1, h1, h2, h3, h4, h5⟩ := hrel
    have H5 : Hid (MmStep b w1 s1 wr) := h5
    have t1 : t < s1.threads := by omega
    have hl := (h5.at'.line t t1).len
    have hle := (h5.at'.line t t1).le
    have hwl := h5.at'.lineLen t1
    clear h5
    cases hws : s1.waits t with
    | nil =>
      rw [hws] at hl h3 h4
      have HG : Hid (f = G) := hide (by rw [Rm.gone] at h3; simpa using h3)
      have HD : Hid (s1 = D) := h4
      generalize hv : errVal a (fenceNum f) = V
      have HV : Hid (V = errVal a (fenceNum f)) := hv.symm
      clear h3 h4 h2 HI hv hwl hle
      go_wp2
      go_ret
      exact ⟨by rw [HV.out, HG.out]; rfl, by rw [← HD.out]; exact H5.out⟩
    | cons x l =>
      rw [hws] at hl h2 h3 h4 hwl hle
      have l0 : (0 : Int) < (l.length : Int) + 1 := by omega
      rw [List.length_cons] at hl hle
      have HDr : Hid (Calls Tryd.prog 36 #[.pointer (some ⟨b, 0, none⟩), .int .i64 t] wr fun e w' => e = .returned (errVal a (if s1.ar.has x.c x.g = true then 0 else 7)) ∧ MmStep b wr (s1.drained t x l) w') :=
        mdrain_some a B b s1 t x l wr (hE.step hB H5.out) hB H5.out.at' t1 hws (h2 x (List.mem_cons_self ..))
      have HN : Hid (∀ w2 (f' : Bool), f' = (f || !(s1.ar.has x.c x.g)) → MmStep b wr (s1.drained t x l) w2 → (∃ k : Bool, (errVal a (fenceNum f')) = errVal a (fenceNum k) ∧ ∃ s1, s1.threads = s.threads ∧ (∀ x ∈ s1.waits t, x.Ok) ∧ (k || decide (0 < s1.gone t (s1.waits t))) = G ∧ s1.drainAll t (s1.waits t) = D ∧ MmStep b w1 s1 w2) ∧ lineLen b t w2 < lineLen b t wr) := by
        intro w2 f' hf' hst
        refine ⟨⟨f', rfl, s1.drained t x l, ?_, ?_, ?_, ?_, H5.out.trans hst⟩, ?_⟩
        · rw [Rm.drained_threads]; exact h1
        · rw [Rm.drained_waits]; exact fun y hy => h2 y (List.mem_cons_of_mem _ hy)
        · rw [Rm.drained_waits, ← h3, hf', Rm.gone]
          cases s1.ar.has x.c x.g <;> cases f <;> simp
          omega
        · rw [Rm.drained_waits]; exact h4
        · rw [hwl, hst.at'.lineLen (by rw [Rm.drained_threads]; exact t1), Rm.drained_waits, List.length_cons]
          omega
      clear h2 h3 h4 HI hwl
      cases hh : s1.ar.has x.c x.g
      · rw [hh] at HDr
        replace HDr : Hid (Calls Tryd.prog 36 #[.pointer (some ⟨b, 0, none⟩), .int .i64 t] wr fun e w' => e = .returned (errAt (a 6)) ∧ MmStep b wr (s1.drained t x l) w') := HDr
        generalize hv : errVal a (fenceNum f) = V
        clear H5
        go_wp2_with fail
        refine HDr.out.mono ?_
        rintro e2 w2 ⟨rfl, hst⟩
        have HF : Hid _ := HN.out w2 true (by rw [hh]; simp) hst
        clear HN HDr hst hl hh hv
        go_wp2
        go_roundw
        case rel => exact HF.out.1
        case measure => exact HF.out.2
      · rw [hh] at HDr
        replace HDr : Hid (Calls Tryd.prog 36 #[.pointer (some ⟨b, 0, none⟩), .int .i64 t] wr fun e w' => e = .returned .nilIface ∧ MmStep b wr (s1.drained t x l) w') := HDr
        have HF0 : Hid (∀ w2, MmStep b wr (s1.drained t x l) w2 → (∃ k : Bool, (errVal a (fenceNum f)) = errVal a (fenceNum k) ∧ ∃ s1, s1.threads = s.threads ∧ (∀ x ∈ s1.waits t, x.Ok) ∧ (k || decide (0 < s1.gone t (s1.waits t))) = G ∧ s1.drainAll t (s1.waits t) = D ∧ MmStep b w1 s1 w2) ∧ lineLen b t w2 < lineLen b t wr) := fun w2 hst => HN.out w2 f (by rw [hh]; simp) hst
        generalize hv : errVal a (fenceNum f) = V at HF0 ⊢
        clear H5 HN
        go_wp2_with fail
        refine HDr.out.mono ?_
        rintro e2 w2 ⟨rfl, hst⟩
        have HF : Hid _ := HF0.out w2 hst
        clear HF0 HDr hst hl hh hv
        go_wp2
        go_roundw
        case rel => exact HF.out.1
        case measure => exact HF.out.2
end Go.Proofs.YtcnemlamlchnkaaDoor
