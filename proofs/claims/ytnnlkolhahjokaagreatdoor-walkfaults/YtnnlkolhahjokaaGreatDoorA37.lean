import Derived.Test.YtnnlkolhahjokaaGreatDoorA36
import Derived.Test.YtnnlkolhahjokaaGreatDoorA27
import Derived.Test.YtnnlkolhahjokaaGreatDoorA28

/- WkV -/
namespace Go.Proofs.YtnnlkolhahjokaaGreatDoor
open Go.RowKit

def WtIn (x : Wt) : Prop := (0 ≤ x.c ∧ x.c < 64) ∧ (0 ≤ x.g ∧ x.g < 67108864)
def LnOk (s : Rm) : Prop := ∀ t x, x ∈ s.waits t → WtIn x
theorem LnOk.setWaits {s : Rm} (h : LnOk s) (t : Nat) {l : List Wt} (hl : ∀ x ∈ l, WtIn x) : LnOk (s.setWaits t l) := fun u x hx => by
  simp only [Rm.setWaits] at hx
  split at hx
  · exact hl x hx
  · exact h u x hx
theorem LnOk.drained {s : Rm} (h : LnOk s) (t : Nat) (x : Wt) {l : List Wt} (hl : ∀ x ∈ l, WtIn x) : LnOk (s.drained t x l) := by
  unfold Rm.drained
  split
  · exact h.setWaits t hl
  · exact h.setWaits t hl
theorem LnOk.drainAll : ∀ (l : List Wt) {s : Rm} (_ : LnOk s) (t : Nat), (∀ x ∈ l, WtIn x) → LnOk (s.drainAll t l)
  | [], _, h, _, _ => h
  | x :: l, _, h, t, hl => LnOk.drainAll l (h.drained t x (fun y hy => hl y (List.mem_cons_of_mem _ hy))) t (fun y hy => hl y (List.mem_cons_of_mem _ hy))
theorem LnOk.fence {m : Mk} (h : LnOk m.mem) (t : Nat) : LnOk (m.fence t).mem := LnOk.drainAll _ h t (fun x hx => h t x hx)
theorem LnOk.fenceFrom : ∀ (n : Nat) {m : Mk} (_ : LnOk m.mem) (t : Nat), LnOk (m.fenceFrom t n).mem
  | 0, _, h, _ => h
  | n + 1, _, h, t => LnOk.fenceFrom n (h.fence t) (t + 1)
theorem LnOk.drain1 {m : Mk} (h : LnOk m.mem) (t : Nat) : LnOk (m.drain1 t).mem := by
  unfold Mk.drain1
  cases hl : m.mem.waits t with
  | nil => exact h
  | cons x l => exact h.drained t x (fun y hy => h t y (by rw [hl]; exact List.mem_cons_of_mem _ hy))
theorem LnOk.room {m : Mk} (h : LnOk m.mem) (t : Nat) : LnOk (m.room t).mem := by
  unfold Mk.room
  split
  · exact h.drain1 t
  · exact h
theorem LnOk.store {m : Mk} (h : LnOk m.mem) (t : Nat) (n w v : Int) (hn : Wd n) : LnOk (m.store t n w v).mem := by
  unfold Mk.store
  split
  · rename_i hnm
    have h0 : n ≠ 0 := fun e => by subst e; unfold Mk.names at hnm; simp at hnm
    obtain ⟨n1, n2⟩ := hn
    have hr := h.room t
    refine hr.setWaits t (fun x hx => ?_)
    rcases List.mem_append.1 hx with hx | hx
    · exact hr t x hx
    · obtain rfl : x = ⟨cellOf n, genOf n, w, v⟩ := by simpa using hx
      refine ⟨⟨?_, ?_⟩, ?_, ?_⟩
      · show 0 ≤ cellOf n; unfold cellOf; omega
      · show cellOf n < 64; unfold cellOf; omega
      · show 0 ≤ genOf n; unfold genOf; omega
      · show genOf n < 67108864; unfold genOf; omega
  · exact h
theorem LnOk.exec {m : Mk} (h : LnOk m.mem) (hr : ∀ t r, Wd (m.regs t r)) (L : List Ins) (t : Nat) (x : Ins) : LnOk (m.exec L t x).mem := by
  unfold Mk.exec
  dsimp only
  split
  any_goals exact h
  · unfold Mk.load; split <;> exact h
  · exact h.store t _ _ _ (hr _ _)
  · unfold Mk.swap
    split
    · exact h.fence t
    · exact h
  · unfold Mk.cas
    split
    · exact h.fence t
    · exact h
  · unfold Mk.alloc
    split
    · exact h
    · exact h
  · unfold Mk.free
    split
    · exact h.fence t
    · exact h
  · unfold Mk.mark; split <;> exact h
  · unfold Mk.need; split <;> exact h
  · exact h.fence t
  · exact h.fenceFrom _ 0
  · split <;> exact h
  · split <;> exact h
theorem LnOk.step {m : Mk} (h : LnOk m.mem) (hr : ∀ t r, Wd (m.regs t r)) (L : List Ins) (t : Nat) : LnOk (m.step L t).mem := by
  unfold Mk.step
  split
  · exact h
  · exact LnOk.exec (m := m.setPc t (m.pc t + 1)) h hr L t _
theorem LnOk.turnO {m : Mk} (h : LnOk m.mem) (hr : ∀ t r, Wd (m.regs t r)) (cs : List (List Ins)) (n : Int) : LnOk (m.turnO cs n).2.mem := by
  unfold Mk.turnO
  split
  · unfold Mk.stepO
    split
    · split
      · exact h
      · exact h.step hr _ _
    · exact h
  · unfold Mk.drainO
    split
    · split
      · exact h
      · exact h.drain1 _
    · exact h
theorem Rch.ln {cs : List (List Ins)} {m0 m : Mk} {K d : Nat} (h : Rch cs m0 d m) (h0 : MkOk cs.length K m0) (hl : LnOk m0.mem) (hR : Right cs) (hK : K + d ≤ 60000000) : LnOk m.mem := by
  induction h with
  | zero => exact hl
  | turn n hr ih => exact (ih (by omega)).turnO (hr.ok h0 hR (by omega)).regs cs n

theorem mkNums_len {N K : Nat} {m : Mk} (h : MkOk N K m) (hN : N ≤ 6) : (mkNums N m).length ≤ 700 := by
  have la := arNums_len m.mem.ar m.mem.ar.size 0
  have hz := h.mem.small
  have hl : ∀ k, k ≤ m.mem.threads → (linesNums m.mem k).length ≤ 33 * k := by
    intro k
    induction k with
    | zero => intro _; exact Nat.le_refl _
    | succ k ih =>
      intro hk
      have := ih (by omega)
      have := h.mem.few k (by omega)
      have e : (linesNums m.mem (k + 1)).length = (linesNums m.mem k).length + (lnNums (m.mem.waits k)).length := List.length_append
      rw [e, lnNums_len]; omega
  have h1 := hl m.mem.threads (Nat.le_refl _)
  have ht : ∀ k, (thrsNums m k).length = 9 * k := by
    intro k
    induction k with
    | zero => rfl
    | succ k ih =>
      have e : (thrsNums m (k + 1)).length = (thrsNums m k).length + (thrNums m k).length := List.length_append
      rw [e, ih, show (thrNums m k).length = 9 from rfl]; omega
  have h2 := h.mem.thr
  unfold mkNums memNums
  rw [List.length_append, List.length_append, ht]
  omega
theorem Rch.key {cs : List (List Ins)} {m0 m : Mk} {K d : Nat} (h : Rch cs m0 d m) (h0 : MkOk cs.length K m0) (hl : LnOk m0.mem) (hR : Right cs) (hK : K + d ≤ 60000000) : KeyOk cs.length m ∧ keyOf cs.length m ≠ ByteArray.empty := by
  have ok := h.ok h0 hR hK
  have ln := h.ln h0 hl hR hK
  have hpos : 0 < (mkNums cs.length m).length := by
    unfold mkNums
    rw [List.length_append]
    obtain ⟨n, hn⟩ : ∃ n, cs.length = n + 1 := ⟨cs.length - 1, by have := hR.some'; omega⟩
    rw [hn]
    show 0 < _ + (thrsNums m n ++ thrNums m n).length
    rw [List.length_append, show (thrNums m n).length = 9 from rfl]
    omega
  refine ⟨⟨mkNums_range ok (fun c k => ok.mem.words c k) (fun c => by have := ok.mem.given c; omega) (fun t ht x hx => ?_), mkNums_len ok hR.few⟩, fun e => ?_⟩
  · obtain ⟨⟨a1, a2⟩, a3, a4⟩ := ln t x hx
    obtain ⟨⟨b1, b2⟩, b3, b4⟩ := ok.mem.ok t (by rw [ok.thr]; exact ht) x hx
    exact ⟨⟨a1, by omega⟩, ⟨a3, by omega⟩, ⟨b1, by omega⟩, b3, by omega⟩
  · have e2 : (vbs (mkNums cs.length m)) = [] := by
      have := congrArg (fun b : ByteArray => b.data.toList) e
      simpa [keyOf] using this
    cases hL : mkNums cs.length m with
    | nil => rw [hL] at hpos; cases hpos
    | cons x l =>
      rw [hL] at e2
      have e3 : vbs (x :: l) = vb x.toNat ++ vbs l := rfl
      rw [e3] at e2
      exact vb_ne x.toNat (List.append_eq_nil_iff.1 e2).1
end Go.Proofs.YtnnlkolhahjokaaGreatDoor

/- WkW -/
namespace Go.Proofs.YtnnlkolhahjokaaGreatDoor
open Go.RowKit Go.Extern.Stop Go.Stop Go.Extern Go.Maps Go.WideMaps Go.Sort

def toldV (s e : Int) (f : Bool) (v : Value) : Value := .agg #[.int .i64 s, .int .i64 e, .bool f, v]

set_option maxRecDepth 20000 in
set_option maxHeartbeats 2000000 in
theorem wsee_bad {sv : Value} (hsv : sv.oneCell' = true) {a : Nat → Addr} {s : Sta} {ai ar ad : Option Addr} {ci cr cap : Nat} {cs : List (List Ins)} {w : World} (mo : Int) (hE : Env a w) (hs : StaAt s ⟨ai, ci, ar, cr⟩ w) (hl : codesAt ad cs w) (hsz : ∀ (t : Nat) L, cs[t]? = some L → ∀ (i : Nat) x, L[i]? = some x → x.to.size ≤ maxLen) (hbad : (s.fault cs).1 ≠ 0) :
    Calls Tryz.prog 13 #[.agg #[.int .i64 s.cells, .slice ai s.init.length ci, .slice ar s.regs.length cr], .slice ad cs.length cap, .int .i64 mo, sv] w fun e w' => Below w.heap.size w w' ∧ ∃ v, e = .returned (.tuple #[toldV 0 0 false (.slice none 0 0), v]) ∧ errIs a (s.fault cs) v w' w.heap.size := by
  have HN := hide (fun w1 (hb : Below w.heap.size w w1) => new_any (cap := cap) (hE.below hb.block) (hs.below hb) (hl.below hb) hsz)
  clear hE hs hl
  go_enter Tryz.func13, Tryz.ntmps13
  go_wp2_with fail
  generalize hw1 : (((w.alloc _).alloc _).alloc _).alloc _ = w1
  have b1 : Below w.heap.size w w1 := by rw [← hw1]; exact ((((Below.refl _ w).alloc (Nat.le_refl _) _).alloc (by simp) _).alloc (by simp; omega) _).alloc (by simp; omega) _
  have hsz3 : w.heap.size + 3 = (((w.alloc (.cells #[.int .i64 s.cells, .slice ai s.init.length ci, .slice ar s.regs.length cr] 35)).alloc (.cells #[.slice ad cs.length cap] 25)).alloc (.cells #[sv] 83)).heap.size := by simp
  have t0 : w1.cell? ⟨w.heap.size + 3, 0, none⟩ = some (.int .i64 0) := by rw [← hw1, hsz3, World.cell?_alloc_new]; rfl
  have t1 : w1.cell? ⟨w.heap.size + 3, 1, none⟩ = some (.int .i64 0) := by rw [← hw1, hsz3, World.cell?_alloc_new]; rfl
  have t2 : w1.cell? ⟨w.heap.size + 3, 2, none⟩ = some (.bool false) := by rw [← hw1, hsz3, World.cell?_alloc_new]; rfl
  have t3 : w1.cell? ⟨w.heap.size + 3, 3, none⟩ = some (.slice none 0 0) := by rw [← hw1, hsz3, World.cell?_alloc_new]; rfl
  have z : ∀ o, w1.frozen? ⟨w.heap.size + 3, o, none⟩ = false := fun o => by rw [← hw1, hsz3]; exact World.frozen?_alloc_new _ _ _ _
  have hlt := World.block_lt_of_cell? _ _ t0
  clear hw1 hsz3
  refine (HN.out w1 b1).mono ?_
  rintro e w2 hp
  obtain ⟨hb2, hres⟩ := hp.out
  rcases hres with ⟨h0, -⟩ | ⟨-, v, rfl, herr⟩
  · exact absurd h0 hbad
  replace t0 := keep_cell hb2 t0
  replace t1 := keep_cell hb2 t1
  replace t2 := keep_cell hb2 t2
  replace t3 := keep_cell hb2 t3
  have z0 : w2.frozen? ⟨w.heap.size + 3, 0, none⟩ = false := (hb2.frozen hlt).trans (z 0)
  have z1 : w2.frozen? ⟨w.heap.size + 3, 1, none⟩ = false := (hb2.frozen (p := ⟨w.heap.size + 3, 1, none⟩) hlt).trans (z 1)
  have z2 : w2.frozen? ⟨w.heap.size + 3, 2, none⟩ = false := (hb2.frozen (p := ⟨w.heap.size + 3, 2, none⟩) hlt).trans (z 2)
  have z3 : w2.frozen? ⟨w.heap.size + 3, 3, none⟩ = false := (hb2.frozen (p := ⟨w.heap.size + 3, 3, none⟩) hlt).trans (z 3)
  clear hp z HN
  obtain ⟨ty, pv, rfl⟩ : ∃ ty pv, v = .iface ty (.pointer (some pv)) := by
    rcases herr with ⟨h0, -⟩ | ⟨h0, -, rfl⟩ | ⟨-, j, M, -, -, rfl, -, -⟩
    · exact absurd h0 hbad
    · obtain ⟨k, hk⟩ := Nat.exists_eq_succ_of_ne_zero h0
      rw [hk]
      exact ⟨_, _, rfl⟩
    · exact ⟨_, _, rfl⟩
  have HR := hide herr
  have B2 := below_step b1 hb2
  clear herr b1 hb2
  go_wp2_with fail
  refine bodyPost_ret (v := .tuple #[toldV 0 0 false (.slice none 0 0), .iface ty (.pointer (some pv))]) (by simp only [results, Tryz.results13]; go_simp; rfl) rfl ⟨?_, _, rfl, ?_⟩
  · have hle : w.heap.size ≤ w.heap.size + 1 + 1 + 1 := by omega
    exact (((B2.setCell hle _).setCell hle _).setCell hle _).setCell hle _
  · rcases HR.out with ⟨h0, e⟩ | ⟨h0, h2, e⟩ | ⟨h0, j, M, e1, e2, e3, e4, e5⟩
    · exact .inl ⟨h0, e⟩
    · exact .inr (.inl ⟨h0, h2, e⟩)
    · have hM : w.heap.size + 1 + 1 + 1 < M := Nat.lt_of_lt_of_le hlt e2
      exact .inr (.inr ⟨h0, j, M, e1, by omega, e3, cell_ne (cell_ne (cell_ne (cell_ne e4 (.inl (by omega))) (.inl (by omega))) (.inl (by omega))) (.inl (by omega)), cell_ne (cell_ne (cell_ne (cell_ne e5 (.inl (by omega))) (.inl (by omega))) (.inl (by omega))) (.inl (by omega))⟩)
end Go.Proofs.YtnnlkolhahjokaaGreatDoor

/- WkY -/
namespace Go.Proofs.YtnnlkolhahjokaaGreatDoor
open Go.RowKit Go.Extern.Stop Go.Stop Go.Extern Go.Maps Go.WideMaps Go.Sort

def SeePost (a : Nat → Addr) (cs : List (List Ins)) (m0 : Mk) (mo : Int) (se : Seer) (X0 : Nat → Prop) (w : World) (e : Ending) (w' : World) : Prop :=
  Turns (fun k _ => X0 k) w w' ∧ ∃ f S, (∃ X, se.I X S.L w' ∧ ∀ k, X k → X0 k ∨ w.heap.size ≤ k) ∧
    ((searchO cs mo (2 * cs.length) f (firstS cs m0) = (.go, S) ∧ S.ms = [] ∧ e = .returned (.tuple #[toldV S.s S.e false (.slice none 0 0), .nilIface])) ∨ (searchO cs mo (2 * cs.length) f (firstS cs m0) = (.bound, S) ∧ e = .returned (.tuple #[toldV 0 0 false (.slice none 0 0), errAt (a 1)])) ∨
     (∃ x l, searchO cs mo (2 * cs.length) f (firstS cs m0) = (.fault x, S) ∧ Back S.E x l ∧ 0 < l.length ∧ ∃ v, e = .returned (.tuple #[toldV S.s S.e true v, .nilIface]) ∧ numsOwn w' w.heap.size v l.reverse))

theorem all_run {a : Nat → Addr} {cs : List (List Ins)} {s : Sta} {p : MkPl} {ad : Option Addr} {cap cb : Nat} {mo : Int} {se : Seer} {X0 : Nat → Prop} {w2 w4 : World} (so : SeerOk a cs se) (hX : ∀ k, X0 k → se.bx = some k ∧ k < cb) (hI : se.I X0 [] w2) (hlo : se.lo ≤ cb) (hm : MkAt a cs p (s.mach cs.length) w2) (hR : Right cs) (hgood : (s.fault cs).1 = 0) (hmo : 1 ≤ mo ∧ mo ≤ 60000) (hcb : cb + 1 < p.B) (q0 : w2.cell? ⟨cb, 0, none⟩ = some (.slice ad cs.length cap)) (q1 : w2.cell? ⟨cb + 1, 0, none⟩ = some se.v)
    (b4 : Below w2.heap.size w2 w4) (ht : ToldAt w2.heap.size 0 0 w4) (hws : WsAt (w2.heap.size + 1 + 1) (2 * (cs.length : Int)) mo (w2.heap.size + 1) (.slice none 0 0) (.func (.func 21) #[] #[.pointer (some ⟨cb, 0, none⟩), .pointer (some ⟨w2.heap.size, 0, none⟩), .pointer (some ⟨cb + 1, 0, none⟩)]) w4) (hfo : FoundAt w4 (w2.heap.size + 1) []) :
    Calls Tryz.prog 24 #[.pointer (some ⟨w2.heap.size + 1 + 1, 0, none⟩), .pointer (some ⟨p.b, 0, none⟩)] w4 fun e w' => Hid (RnPost a cs (s.mach cs.length) ⟨w2.heap.size + 1 + 1, w2.heap.size + 1, w2.heap.size, cb, ad, cap, 2 * (cs.length : Int), mo, se⟩ X0 w4 (2 * cs.length) e w') := by
  obtain ⟨f1, f2, f3, f4⟩ := Sta.fault_fits hgood
  have ok := Sta.mach_ok f1 f2 f3
  have hlt := hm.lt
  have hB := hm.hB
  have HXO : ∀ k, (sq0 X0).X k → k ≠ cb ∧ k ≠ cb + 1 ∧ ¬ SrPl.fp0 ⟨w2.heap.size + 1 + 1, w2.heap.size + 1, w2.heap.size, cb, ad, cap, 2 * (cs.length : Int), mo, se⟩ (sq0 X0).v k := fun k hk => by
    have h2 := (hX k hk).2
    refine ⟨by omega, by omega, fun hf => ?_⟩
    rcases hf with e | e | e | e
    · have e : k = w2.heap.size + 1 + 1 := e
      omega
    · have e : k = w2.heap.size + 1 := e
      omega
    · have e : k = w2.heap.size := e
      omega
    · cases e
  have SR : SrAt p.B cs.length ⟨w2.heap.size + 1 + 1, w2.heap.size + 1, w2.heap.size, cb, ad, cap, 2 * (cs.length : Int), mo, se⟩ [] (sq0 X0) [] 0 0 w4 :=
    ⟨hws, hfo, QAt.nil _ _, ht, ⟨keep_cell b4 q0, keep_cell b4 q1⟩, by show w2.heap.size + 1 + 1 ≠ w2.heap.size + 1; omega, by show w2.heap.size + 1 + 1 ≠ w2.heap.size; omega, by show w2.heap.size + 1 ≠ w2.heap.size; omega, hcb, by show p.B ≤ w2.heap.size + 1 + 1; omega, by show p.B ≤ w2.heap.size + 1; omega, by show p.B ≤ w2.heap.size; omega, (fun k hk => by cases hk), so.fr, so.fr.keep hI (Turns.of_below (S := fun _ _ => False) b4) (fun _ _ h => h.elim), HXO, fun k hk => .inr (hX k hk).1, by show se.lo ≤ p.B; omega⟩
  refine wrun_any (K := 1) ⟨hm.below b4, ok, hR, by decide⟩ ⟨SR, rfl, fun x hx => absurd hx List.not_mem_nil, List.Pairwise.nil, so, rfl, rfl⟩ (fun k hp hk => ?_) (by show 2 * (cs.length : Int) = ((2 * cs.length : Nat) : Int); omega) (by omega) hR.some' hmo (by decide) (fun d m' hd hr => hr.key ok (fun t x hx => ?_) hR (by omega))
  · have := hm.fp_lt hp
    rcases hk with (e | e | e | e) | e
    · have e : k = w2.heap.size + 1 + 1 := e
      omega
    · have e : k = w2.heap.size + 1 := e
      omega
    · have e : k = w2.heap.size := e
      omega
    · cases e
    · have := (hX k e).2
      have := hm.fp_ge hp
      omega
  · have e : (s.mach cs.length).mem.waits t = [] := rfl
    rw [e] at hx; cases hx

end Go.Proofs.YtnnlkolhahjokaaGreatDoor
