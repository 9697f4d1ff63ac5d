import Derived.Test.YtnnlkolhahjokaaGreatDoorB33
import Derived.Deep.LoopGhost
import Derived.WalkSpells

/- WkS -/
namespace Go.Proofs.YtnnlkolhahjokaaGreatDoor
open Go.RowKit Go.Extern.Stop Go.Stop Go.Extern Go.Maps Go.WideMaps Go.Sort

theorem QAt.set0 {w : World} {base g off cap : Nat} {u x : Value} {l : List Value} (h : QAt w base (.slice (some ⟨g, off, none⟩) (u :: l).length cap) (u :: l)) : QAt (w.setCell ⟨g, off, none⟩ x) base (.slice (some ⟨g, off, none⟩) (x :: l).length cap) (x :: l) := by
  rcases h with ⟨-, h1⟩ | ⟨g', off', cap', e, h1, h2, h3, h4, h5, h6⟩
  · cases h1
  · cases e
    have h0 := h5 0 u rfl
    rw [Nat.add_zero] at h0
    refine .inr ⟨g, off, cap, rfl, h1, by simp [World.setCell]; exact h2, h3, h4, fun j y hj => ?_, fun j hj => ?_⟩
    · cases j with
      | zero => cases hj; exact World.cell?_setCell_same _ _ _ h0
      | succ j => exact cell_ne (h5 (j + 1) y hj) (.inr (by omega))
    · obtain ⟨k1, k2⟩ := h6 j hj
      refine ⟨?_, by rw [World.frozen?_setCell]; exact k2⟩
      by_cases e : j = 0
      · subst e
        rw [Nat.add_zero, World.cell?_setCell_same _ _ _ h0]; rfl
      · obtain ⟨y, hy⟩ := Option.isSome_iff_exists.1 k1
        rw [cell_ne hy (.inr (by omega))]; rfl

def qCut (g off cap : Nat) : Addr := if cap = 1 then ⟨g, off, none⟩ else ⟨g, off + 1, none⟩

theorem SpAt.popped {a : Nat → Addr} {cs : List (List Ins)} {B : Nat} {q : SrPl} {S : Sp} {g off cap : Nat} {p : MkPl} {m : Mk} {F : List (MkPl × Mk)} {X : Nat → Prop} {L : List Mk} {w : World} (h : SpAt a cs B q S ⟨.slice (some ⟨g, off, none⟩) (F.length + 1) cap, X, L⟩ ((p, m) :: F) w) :
    SpAt a cs B q { S with ms := S.ms.tail } ⟨.slice (some (qCut g off cap)) F.length (cap - 1), X, L⟩ F ((w.setCell ⟨g, off, none⟩ (.pointer none)).setCell ⟨q.b, 3, none⟩ (.slice (some (qCut g off cap)) F.length (cap - 1))) ∧
    Turns (fun k _ => q.fp ⟨.slice (some ⟨g, off, none⟩) (F.length + 1) cap, X, L⟩ k) w ((w.setCell ⟨g, off, none⟩ (.pointer none)).setCell ⟨q.b, 3, none⟩ (.slice (some (qCut g off cap)) F.length (cap - 1))) ∧
    (∀ k, q.fp ⟨.slice (some (qCut g off cap)) F.length (cap - 1), X, L⟩ k → q.fp ⟨.slice (some ⟨g, off, none⟩) (F.length + 1) cap, X, L⟩ k) := by
  have hob : ∀ k, (Value.slice (some (qCut g off cap)) F.length (cap - 1)).ownBlock = some k → k = g := fun k hk => by
    unfold qCut at hk
    split at hk <;> (cases hk; rfl)
  have hq0 := h.sr.qo g rfl
  have T1 : Turns (fun k _ => k = g) w (w.setCell ⟨g, off, none⟩ (.pointer none)) := (Turns.refl _ _).setCell _ rfl
  have T2 : Turns (fun k o => k = q.b ∧ o = 3) (w.setCell ⟨g, off, none⟩ (.pointer none)) ((w.setCell ⟨g, off, none⟩ (.pointer none)).setCell ⟨q.b, 3, none⟩ (.slice (some (qCut g off cap)) F.length (cap - 1))) := (Turns.refl _ _).setCell _ ⟨rfl, rfl⟩
  have hl : (aheadV ((p, m) :: F)).length = F.length + 1 := by unfold aheadV; simp
  have Q0 := h.sr.que
  have Q1 : QAt w B (.slice (some ⟨g, off, none⟩) (Value.pointer (some ⟨p.b, 0, none⟩) :: aheadV F).length cap) (Value.pointer (some ⟨p.b, 0, none⟩) :: aheadV F) := by
    rw [show (Value.pointer (some ⟨p.b, 0, none⟩) :: aheadV F).length = F.length + 1 by simp [aheadV]]
    exact Q0
  have Q2 := (QAt.set0 (x := .pointer none) Q1).tail
  have hgB : B ≤ g := (Q0.lt rfl).1
  rw [show (aheadV F).length = F.length by simp [aheadV]] at Q2
  have W1 := h.sr.ws.turns T1 (fun _ e => hq0.1 e.symm)
  have htur : Turns (fun k _ => q.fp ⟨.slice (some ⟨g, off, none⟩) (F.length + 1) cap, X, L⟩ k) w ((w.setCell ⟨g, off, none⟩ (.pointer none)).setCell ⟨q.b, 3, none⟩ (.slice (some (qCut g off cap)) F.length (cap - 1))) :=
    (T1.mono fun k _ _ e => .inl (.inr (.inr (.inr (by rw [e]; rfl))))).setCell _ (.inl (.inl rfl))
  have hfp : ∀ k, q.fp ⟨.slice (some (qCut g off cap)) F.length (cap - 1), X, L⟩ k → q.fp ⟨.slice (some ⟨g, off, none⟩) (F.length + 1) cap, X, L⟩ k := fun k hk => by
    rcases hk with (e | e | e | e) | e
    · exact .inl (.inl e)
    · exact .inl (.inr (.inl e))
    · exact .inl (.inr (.inr (.inl e)))
    · exact .inl (.inr (.inr (.inr (by rw [hob k e]; rfl))))
    · exact .inr e
  have hxg : ∀ k, X k → k ≠ g ∧ k ≠ q.b := fun k hk => ⟨fun e => (h.sr.xo k hk).2.2 (.inr (.inr (.inr (by rw [e]; rfl)))), fun e => (h.sr.xo k hk).2.2 (.inl e)⟩
  have hsi : q.se.I X L ((w.setCell ⟨g, off, none⟩ (.pointer none)).setCell ⟨q.b, 3, none⟩ (.slice (some (qCut g off cap)) F.length (cap - 1))) := h.sr.so.keep (h.sr.so.keep h.sr.si T1 (fun k _ e => ⟨fun hx => (hxg k hx).1 e, by rw [e]; exact Nat.le_trans h.sr.lo hgB⟩)) T2 (fun k _ e => ⟨fun hx => (hxg k hx).2 e.1, by rw [e.1]; exact Nat.le_trans h.sr.lo h.sr.hb⟩)
  refine ⟨⟨⟨W1.set _, ?_, Q2.turns T2 (fun k o hk hs => hq0.1 (by rw [← hob k hk]; exact hs.1)), (h.sr.told.turns T1 (fun _ e => hq0.2.2 e.symm)).turns T2 (fun _ e => h.sr.b_tb e.1.symm), ?_, h.sr.b_fb, h.sr.b_tb, h.sr.fb_tb, h.sr.hcb, h.sr.hb, h.sr.hfb, h.sr.htb, fun k hk => by rw [hob k hk]; exact hq0, h.sr.so, hsi, fun k hk => ⟨(h.sr.xo k hk).1, (h.sr.xo k hk).2.1, fun hf => ?_⟩, h.sr.xb, h.sr.lo⟩, ?_, fun x hx => ?_, (List.pairwise_cons.1 h.apart).2, h.so, h.keys, h.sl⟩, htur, hfp⟩
  · refine h.sr.found.kept ?_
    rw [Below.heap_setCell _ _ _ _ (show q.fb ≠ q.b from h.sr.b_fb.symm), Below.heap_setCell _ _ _ _ (show q.fb ≠ g from fun e => hq0.2.1 e.symm)]
  · constructor
    · refine T2.keep (T1.keep h.sr.codes.1 (fun e => ?_)) (fun e => ?_)
      · have := h.sr.hcb; omega
      · have := h.sr.hcb; have := h.sr.hb; have := e.1; omega
    · refine T2.keep (T1.keep h.sr.codes.2 (fun e => ?_)) (fun e => ?_)
      · have := h.sr.hcb; omega
      · have := h.sr.hcb; have := h.sr.hb; have := e.1; omega
  · rcases hfp k (.inl hf) with e | e
    · exact (h.sr.xo k hk).2.2 e
    · rcases hf with e2 | e2 | e2 | e2
      · exact (hxg k hk).2 e2
      · exact (h.sr.xo k hk).2.2 (.inr (.inl e2))
      · exact (h.sr.xo k hk).2.2 (.inr (.inr (.inl e2)))
      · exact (hxg k hk).1 (hob k e2)
  · have := h.ms
    show F.map (·.2) = S.ms.tail
    rw [← this]; rfl
  · obtain ⟨g1, g2, g3⟩ := h.at' x (List.mem_cons_of_mem _ hx)
    exact ⟨g1, g2.turnsX htur (fun k _ hk hp => g3 k hp hk) (fun k _ hk => by rw [g1]; exact h.sr.geX hk) (fun k e => (h.so.box h.sr.si k e).2) (fun k e => (h.so.box hsi k e).2), fun k hp hk => g3 k hp (hfp k hk)⟩

inductive Rch (cs : List (List Ins)) (m0 : Mk) : Nat → Mk → Prop
  | zero : Rch cs m0 0 m0
  | turn {d : Nat} {m : Mk} (n : Nat) : Rch cs m0 d m → Rch cs m0 (d + 1) (m.turnO cs n).2
theorem Rch.ok {cs : List (List Ins)} {m0 m : Mk} {K d : Nat} (h : Rch cs m0 d m) (h0 : MkOk cs.length K m0) (hR : Right cs) (hK : K + d ≤ 60000000) : MkOk cs.length (K + d) m := by
  induction h with
  | zero => exact h0
  | turn n _ ih => exact (ih (by omega)).turnO hR n (by omega)
end Go.Proofs.YtnnlkolhahjokaaGreatDoor

/- WkT -/
namespace Go.Proofs.YtnnlkolhahjokaaGreatDoor
open Go.RowKit

def Kn (cs : List (List Ins)) (m0 : Mk) (r : Nat) (E : List (ByteArray × ByteArray × Int)) (m : Mk) : Prop :=
  ∃ d, d ≤ r ∧ Rch cs m0 d m ∧ ∃ y l, (keyOf cs.length m, y) ∈ E ∧ Back E y l ∧ l.length ≤ d
theorem Kn.mono {cs : List (List Ins)} {m0 m : Mk} {r r' : Nat} {E G : List (ByteArray × ByteArray × Int)} (h : Kn cs m0 r E m) (hr : r ≤ r') : Kn cs m0 r' (E ++ G) m := by
  obtain ⟨d, h1, h2, y, l, h3, h4, h5⟩ := h
  exact ⟨d, by omega, h2, y, l, List.mem_append_left _ h3, h4.grow, h5⟩

structure SpOk (cs : List (List Ins)) (m0 : Mk) (mo : Int) (r c : Nat) (S : Sp) : Prop where
  le : (S.E.length : Int) ≤ mo
  s : S.s = S.E.length
  e : 0 ≤ S.e ∧ S.e ≤ S.s
  count : S.E.length = c + S.ms.length
  back : ∀ m ∈ S.ms, Kn cs m0 r S.E m

theorem addO_ok {cs : List (List Ins)} {m0 m m' : Mk} {mo : Int} {r c n : Nat} {S S' : Sp} (h : SpOk cs m0 mo (r + 1) c S) (hk : Kn cs m0 r S.E m) (hne : keyOf cs.length m ≠ ByteArray.empty) (hm : m' = (m.turnO cs n).2) (hadd : addSp cs mo S m' (keyOf cs.length m, (n : Int)) = some S') :
    SpOk cs m0 mo (r + 1) c S' ∧ ∃ G, S'.E = S.E ++ G := by
  unfold addSp at hadd
  split at hadd
  · cases hadd; exact ⟨h, [], by simp⟩
  · rename_i hin
    split at hadd
    · cases hadd
    · rename_i hmo
      cases hadd
      refine ⟨⟨?_, ?_, ⟨?_, ?_⟩, ?_, fun x hx => ?_⟩, _, rfl⟩
      · have := h.le
        show (((S.E ++ _).length : Nat) : Int) ≤ mo
        rw [List.length_append]
        simp
        omega
      · show S.s + 1 = (((S.E ++ _).length : Nat) : Int)
        rw [h.s, List.length_append]; simp
      · have := (endN_range S.e (endTo cs m' cs.length)).1
        have := h.e.1
        show 0 ≤ endN _ _; omega
      · have := (endN_range S.e (endTo cs m' cs.length)).2
        have := h.e.2
        show endN _ _ ≤ S.s + 1; omega
      · show (S.E ++ _).length = c + (S.ms ++ _).length
        rw [List.length_append, List.length_append, h.count]; simp; omega
      · rcases List.mem_append.1 hx with hx | hx
        · exact (h.back x hx).mono (Nat.le_refl _)
        · obtain rfl : x = m' := by simpa using hx
          obtain ⟨d, h1, h2, y, l, h3, h4, h5⟩ := hk
          refine ⟨d + 1, by omega, by rw [hm]; exact h2.turn n, (keyOf cs.length m, (n : Int)), (n : Int) :: l, List.mem_append_right _ (by simp), .step _ hne (List.mem_append_left _ h3) h4.grow, by simp; omega⟩
theorem spreadO_ok {cs : List (List Ins)} {m0 m : Mk} {mo : Int} {r c : Nat} (hne : keyOf cs.length m ≠ ByteArray.empty) : ∀ (k n : Nat) {S : Sp}, SpOk cs m0 mo (r + 1) c S → Kn cs m0 r S.E m → SpOk cs m0 mo (r + 1) c (spreadO cs mo m k n S).2 ∧ ∃ G, (spreadO cs mo m k n S).2.E = S.E ++ G
  | 0, _, S, h, _ => ⟨h, [], by simp [spreadO]⟩
  | k + 1, n, S, h, hk => by
    by_cases ho : okN (m.turnO cs n).1 = 0
    · rw [spreadO_err ho]
      exact spreadO_ok hne k (n + 1) h hk
    · by_cases hf : 0 < (m.turnO cs n).2.faults
      · rw [spreadO_fault ho hf]
        exact ⟨h, [], by simp⟩
      · rw [spreadO_add ho hf]
        cases hA : addSp cs mo S (m.turnO cs n).2 (keyOf cs.length m, (n : Int)) with
        | none => exact ⟨h, [], by simp⟩
        | some S' =>
          obtain ⟨h1, G, hG⟩ := addO_ok h hk hne rfl hA
          obtain ⟨h2, G2, hG2⟩ := spreadO_ok hne k (n + 1) h1 (by rw [hG]; exact hk.mono (Nat.le_refl _))
          exact ⟨h2, G ++ G2, by show (spreadO cs mo m k (n + 1) S').2.E = _; rw [hG2, hG, List.append_assoc]⟩
end Go.Proofs.YtnnlkolhahjokaaGreatDoor

/- WkU -/
namespace Go.Proofs.YtnnlkolhahjokaaGreatDoor
open Go.RowKit Go.Extern.Stop Go.Stop Go.Extern Go.Maps Go.WideMaps Go.Sort

def firstS (cs : List (List Ins)) (m : Mk) : Sp := ⟨[(keyOf cs.length m, (ByteArray.empty, 0))], [m], 1, endN 0 (endTo cs m cs.length), [m]⟩
def Sp.none : Sp := ⟨[], [], 0, 0, []⟩
theorem addO_first {cs : List (List Ins)} {mo : Int} {m : Mk} (h : 1 ≤ mo) : addSp cs mo Sp.none m (ByteArray.empty, 0) = some (firstS cs m) := by
  have e1 : keyIn Sp.none.E (keyOf cs.length m) = false := rfl
  have e2 : ((Sp.none.E.length : Nat) : Int) = 0 := rfl
  unfold addSp
  rw [e1, e2, if_neg (by decide), if_neg (by omega)]
  rfl
theorem first_ok {cs : List (List Ins)} {mo : Int} {m : Mk} (h : 1 ≤ mo) : SpOk cs m mo 0 0 (firstS cs m) := by
  have := endN_range 0 (endTo cs m cs.length)
  refine ⟨by show ((1 : Nat) : Int) ≤ mo; omega, rfl, ⟨this.1, by show endN _ _ ≤ (1 : Int); omega⟩, rfl, fun x hx => ?_⟩
  obtain rfl : x = m := by simpa [firstS] using hx
  exact ⟨0, Nat.le_refl _, .zero, _, [], by simp [firstS], .first 0, Nat.zero_le _⟩

def sq0 (X : Nat → Prop) : Sq := ⟨.slice Option.none 0 0, X, []⟩
structure SnRel (a : Nat → Addr) (cs : List (List Ins)) (B : Nat) (m0 : Mk) (q : SrPl) (X0 : Nat → Prop) (w0 : World) (N r : Nat) (S : Sp) (qv : Sq) (F : List (MkPl × Mk)) (w : World) : Prop where
  sp : SpAt a cs B q S qv F w
  ok : SpOk cs m0 q.mo r r S
  turns : Turns (fun k _ => q.fp (sq0 X0) k) w0 w
  fp : ∀ k, q.fp qv k → q.fp (sq0 X0) k ∨ w0.heap.size ≤ k
  keys : ∀ x ∈ S.E, x.1.size ≤ maxLen
  eq : ∀ f, searchO cs q.mo N (f + r) (firstS cs m0) = searchO cs q.mo N f S

def RnPost (a : Nat → Addr) (cs : List (List Ins)) (m0 : Mk) (q : SrPl) (X0 : Nat → Prop) (w : World) (N : Nat) (e : Ending) (w' : World) : Prop :=
  Turns (fun k _ => q.fp (sq0 X0) k) w w' ∧ ∃ f S, ToldAt q.tb S.s S.e w' ∧ (∃ X, q.se.I X S.L w' ∧ ∀ k, X k → X0 k ∨ w.heap.size ≤ k) ∧
    ((searchO cs q.mo N f (firstS cs m0) = (.go, S) ∧ S.ms = [] ∧ e = .returned (.tuple #[.slice Option.none 0 0, .nilIface])) ∨ (searchO cs q.mo N f (firstS cs m0) = (.bound, S) ∧ e = .returned (.tuple #[.slice Option.none 0 0, errAt (a 1)])) ∨
     (∃ x l, searchO cs q.mo N f (firstS cs m0) = (.fault x, S) ∧ Back S.E x l ∧ 0 < l.length ∧ ∃ v, e = .returned (.tuple #[v, .nilIface]) ∧ numsOwn w' w.heap.size v l.reverse))

theorem searchO_cons {cs : List (List Ins)} {mo : Int} {N f : Nat} {S : Sp} {m : Mk} {l : List Mk} (h : S.ms = m :: l) : searchO cs mo N (f + 1) S = (match spreadO cs mo m N 0 { S with ms := l } with | (.go, S') => searchO cs mo N f S' | r => r) := by
  obtain ⟨E, ms, s, e, L⟩ := S
  dsimp only at h
  subst h
  rfl

def StPost (a : Nat → Addr) (cs : List (List Ins)) (B : Nat) (m0 : Mk) (q : SrPl) (X0 : Nat → Prop) (w0 : World) (N r : Nat) (e : Ending) (w' : World) : Prop :=
  (e = .returned (.tuple #[.slice Option.none 0 0, .nilIface]) ∧ ∃ S1 qv1 F1, SnRel a cs B m0 q X0 w0 N (r + 1) S1 qv1 F1 w') ∨
  (e = .returned (.tuple #[.slice Option.none 0 0, errAt (a 1)]) ∧ RnPost a cs m0 q X0 w0 N e w') ∨
  (∃ ad n cap, e = .returned (.tuple #[.slice (some ad) n cap, .nilIface]) ∧ RnPost a cs m0 q X0 w0 N e w')

theorem spread_step {a : Nat → Addr} {cs : List (List Ins)} {B : Nat} {m0 : Mk} {K : Nat} {q : SrPl} {X0 X : Nat → Prop} {L : List Mk} {w0 : World} {N r : Nat} {S : Sp} {g off cap : Nat} {p1 : MkPl} {m1 : Mk} {F : List (MkPl × Mk)} {w : World} (h : SnRel a cs B m0 q X0 w0 N r S ⟨.slice (some ⟨g, off, Option.none⟩) (F.length + 1) cap, X, L⟩ ((p1, m1) :: F) w)
    (hO : MkOk cs.length K m0) (hR : Right cs) (hN : q.n = (N : Nat)) (hN2 : N ≤ 12) (h1 : 1 ≤ cs.length) (hmo : 1 ≤ q.mo ∧ q.mo ≤ 60000) (hK : K + 60002 ≤ 10000000) (hkey : ∀ d m', d ≤ 60001 → Rch cs m0 d m' → KeyOk cs.length m' ∧ keyOf cs.length m' ≠ ByteArray.empty) :
    r < q.mo.toNat ∧ Calls Tryz.prog 39 #[.pointer (some ⟨q.b, 0, Option.none⟩), .pointer (some ⟨p1.b, 0, Option.none⟩)] ((w.setCell ⟨g, off, Option.none⟩ (.pointer Option.none)).setCell ⟨q.b, 3, Option.none⟩ (.slice (some (qCut g off cap)) F.length (cap - 1))) fun e w' => Hid (StPost a cs B m0 q X0 w0 N r e w') := by
  obtain ⟨hs2, T2, hf2⟩ := h.sp.popped
  have hms : S.ms = m1 :: F.map (·.2) := h.sp.ms.symm
  obtain ⟨g1, g2, g3⟩ := h.sp.at' (p1, m1) List.mem_cons_self
  dsimp only at g1 g2 g3
  obtain ⟨hap, -⟩ := List.pairwise_cons.1 h.sp.apart
  have hKn := h.ok.back m1 (by rw [hms]; exact List.mem_cons_self)
  obtain ⟨d, hd, hrch, y, l, hin, hback, hll⟩ := id hKn
  have hcnt := h.ok.count
  rw [hms, List.length_cons, List.length_map] at hcnt
  have hle := h.ok.le
  have hse := h.ok.e
  have hss := h.ok.s
  have hr : r < q.mo.toNat := by omega
  obtain ⟨hk1, hne1⟩ := hkey d m1 (by omega) hrch
  generalize hW : (w.setCell ⟨g, off, Option.none⟩ (.pointer Option.none)).setCell ⟨q.b, 3, Option.none⟩ (.slice (some (qCut g off cap)) F.length (cap - 1)) = W at *
  have rx1 : RunX a cs p1 m1 (K + d) W := ⟨g2.searched h.sp.so (by rw [g1]; exact h.sp.sr) hs2.sr T2 g3, hrch.ok hO hR (by omega), hR, by omega⟩
  have hok2 : SpOk cs m0 q.mo (r + 1) (r + 1) { S with ms := S.ms.tail } := ⟨hle, hss, hse, by
    show S.E.length = r + 1 + S.ms.tail.length
    rw [hms, List.tail_cons, List.length_map]; omega, fun x hx => by
    have := (h.ok.back x (List.mem_of_mem_tail hx)).mono (r' := r + 1) (G := []) (by omega)
    rwa [List.append_nil] at this⟩
  have HS := spread_any (N := N) (S := { S with ms := S.ms.tail }) rx1 (by rw [g1]; exact hs2) (fun k hp hk => g3 k hp (hf2 k hk)) (fun x hx k hk hp => hap x hx k hp hk) hN hN2 h1 hk1 (fun n hn => (hkey (d + 1) _ (by omega) (hrch.turn n)).1) (by omega)
    (by show S.E.length + N ≤ _; omega) (by omega) ⟨⟨by show 0 ≤ S.s; omega, by show S.s + N ≤ _; omega⟩, by show 0 ≤ S.e; omega, by show S.e + N ≤ _; omega⟩ h.keys hin hback (by omega) hne1
  refine ⟨hr, HS.mono ?_⟩
  rintro e w' ⟨S1, qv1, F1, j, hj, hsp1, hkp1, hres⟩
  rw [g1] at hsp1
  obtain ⟨hok1, G, hG⟩ := spreadO_ok hne1 N 0 hok2 hKn
  have T3 : Turns (fun k _ => q.fp (sq0 X0) k) w0 w' := by
    have hsz := h.turns.size
    refine (h.turns.then T2 (fun k _ hk hq => (h.fp k hq).elim id (fun e => by omega))).then hkp1.turns (fun k _ hk hq => ?_)
    exact (h.fp k (hf2 k hq)).elim id (fun e => by omega)
  have hfp1 : ∀ k, q.fp qv1 k → q.fp (sq0 X0) k ∨ w0.heap.size ≤ k := fun k hk => by
    rcases hkp1.fp k hk with e | e
    · exact h.fp k (hf2 k e)
    · have := h.turns.size; have := T2.size; exact .inr (by omega)
  have hsee : ∃ X, q.se.I X S1.L w' ∧ ∀ k, X k → X0 k ∨ w0.heap.size ≤ k := ⟨qv1.X, by rw [hsp1.sl]; exact hsp1.sr.si, fun k hk => by
    rcases hfp1 k (.inr hk) with ((e | e | e | e) | e) | e
    · exact absurd (.inl e) (hsp1.sr.xo k hk).2.2
    · exact absurd (.inr (.inl e)) (hsp1.sr.xo k hk).2.2
    · exact absurd (.inr (.inr (.inl e))) (hsp1.sr.xo k hk).2.2
    · cases e
    · exact .inl e
    · exact .inr e⟩
  have hwz : w0.heap.size ≤ W.heap.size := Nat.le_trans h.turns.size T2.size
  have hmt : S.ms.tail = F.map (·.2) := by rw [hms]; rfl
  rw [hmt] at hres hok1 hG
  refine hide ?_
  rcases hres with ⟨hr1, rfl⟩ | ⟨hr1, rfl⟩ | ⟨n, hr1, v, rfl, hv⟩
  · rw [hr1] at hok1
    exact .inl ⟨rfl, S1, qv1, F1, hsp1, hok1, T3, hfp1, hkp1.keys, fun f => by
      rw [show f + (r + 1) = f + 1 + r by omega, h.eq (f + 1), searchO_cons hms, hr1]⟩
  · refine .inr (.inl ⟨rfl, T3, 0 + 1 + r, S1, hsp1.sr.told, hsee, .inr (.inl ⟨?_, rfl⟩)⟩)
    rw [h.eq (0 + 1), searchO_cons hms, hr1]
  · obtain ⟨ad, cap', rfl, -⟩ := numsOwn_open hv (by simp)
    refine .inr (.inr ⟨ad, _, cap', rfl, T3, 0 + 1 + r, S1, hsp1.sr.told, hsee, .inr (.inr ⟨(keyOf cs.length m1, (n : Int)), (n : Int) :: l, ?_, ?_, by simp, _, rfl, numsOwn_mono hv hwz⟩)⟩)
    · rw [h.eq (0 + 1), searchO_cons hms, hr1]
    · obtain ⟨G2, hG2⟩ := hkp1.grow
      rw [hG2]
      exact .step _ hne1 (List.mem_append_left _ hin) hback.grow

set_option maxRecDepth 20000 in
set_option maxHeartbeats 2000000 in
theorem wrun_any {a : Nat → Addr} {cs : List (List Ins)} {p : MkPl} {m : Mk} {K : Nat} {q : SrPl} {X0 : Nat → Prop} {w : World} {N : Nat} (rx : RunX a cs p m K w) (hs : SpAt a cs p.B q Sp.none (sq0 X0) [] w) (hd : ∀ k, p.fp k → ¬ q.fp (sq0 X0) k)
    (hN : q.n = (N : Nat)) (hN2 : N ≤ 12) (h1 : 1 ≤ cs.length) (hmo : 1 ≤ q.mo ∧ q.mo ≤ 60000) (hK : K + 60002 ≤ 10000000) (hkey : ∀ d m', d ≤ 60001 → Rch cs m d m' → KeyOk cs.length m' ∧ keyOf cs.length m' ≠ ByteArray.empty) :
    Calls Tryz.prog 24 #[.pointer (some ⟨q.b, 0, none⟩), .pointer (some ⟨p.b, 0, none⟩)] w fun e w' => Hid (RnPost a cs m q X0 w N e w') := by
  have hk0 := hkey 0 m (by omega) .zero
  have HA := hide (wadd_any rx.ok.marks rx.at' hs hd (fun x hx => by cases hx) h1 hk0.1 (ByteArray.empty, 0) (by decide) (by decide) ⟨⟨by decide, by decide⟩, by decide, by decide⟩)
  rw [addO_first hmo.1] at HA
  have HKey := hide hkey
  have HO := hide rx.ok
  have HRt := hide rx.right
  have h0 := hide (first_ok (cs := cs) (m := m) hmo.1)
  have hk1 := hide hk0.1.size
  clear rx hs hd hkey hk0
  have hn0 : ∀ w : World, (binOp .neq 26 (.slice Option.none 0 0) (.slice Option.none 0 0)).run Tryz.prog w = .ok (.bool false) w := fun w => run_neq_slice_nil_any w _ _ _ _ _ _ _ Tryz.underlying26
  have hn1 : ∀ (w : World) (ad : Addr) (n c : Nat), (binOp .neq 26 (.slice (some ad) n c) (.slice Option.none 0 0)).run Tryz.prog w = .ok (.bool true) w := fun w ad n c => run_neq_slice_nil_any w _ _ _ _ _ _ _ Tryz.underlying26
  go_enter Tryz.func24, Tryz.ntmps24
  go_wp2_with fail
  refine HA.out.mono ?_
  rintro e w1 ⟨rfl, qv1, F1, hs1, t1, hf1, hF1⟩
  have R1 : Hid (SnRel a cs p.B m q X0 w N 0 (firstS cs m) qv1 F1 w1) := hide ⟨hs1, h0.out, t1, hf1, fun x hx => by
    obtain rfl : x = (keyOf cs.length m, (ByteArray.empty, 0)) := by simpa [firstS] using hx
    exact hk1.out, fun f => rfl⟩
  clear HA hs1 t1 hf1 hF1 h0 hk1
  go_wp2_with fail
  go_loopg [7] q.mo.toNat (fun k _ wr => ∃ (r : Nat) (S : Sp) (qv : Sq) (F : List (MkPl × Mk)), q.mo.toNat - r ≤ k ∧ Hid (SnRel a cs p.B m q X0 w N r S qv F wr))
  case atStart => exact ⟨0, _, qv1, F1, by omega, R1⟩
  case round =>
    obtain ⟨r, S, ⟨vq, Xq, Lq⟩, F, hgk, HR⟩ := hrel
    clear R1
    have hque := HR.out.sp.sr.que
    have c1 := HR.out.sp.sr.ws.ahead
    have z1 := HR.out.sp.sr.ws.fz
    dsimp only at hque c1
    cases F with
    | nil =>
      obtain ⟨ad, cap, rfl⟩ : ∃ ad cap, vq = .slice ad 0 cap := by
        rcases hque with ⟨e, -⟩ | ⟨g, off, cap, e, -⟩
        · exact ⟨_, _, e⟩
        · exact ⟨_, _, e⟩
      have HZ : Hid (RnPost a cs m q X0 w N (.returned (.tuple #[.slice Option.none 0 0, .nilIface])) wr) := hide ⟨HR.out.turns, r, S, HR.out.sp.sr.told, ⟨Xq, by rw [HR.out.sp.sl]; exact HR.out.sp.sr.si, fun k hk => by
        rcases HR.out.fp k (.inr hk) with ((e | e | e | e) | e) | e
        · exact absurd (.inl e) (HR.out.sp.sr.xo k hk).2.2
        · exact absurd (.inr (.inl e)) (HR.out.sp.sr.xo k hk).2.2
        · exact absurd (.inr (.inr (.inl e))) (HR.out.sp.sr.xo k hk).2.2
        · cases e
        · exact .inl e
        · exact .inr e⟩, .inl ⟨by have := HR.out.eq 0; rw [Nat.zero_add] at this; exact this, HR.out.sp.ms.symm, rfl⟩⟩
      clear HR hque
      go_wp2_with fail
      go_ret2
      exact HZ
    | cons x F2 =>
      obtain ⟨p1, m1⟩ := x
      have hl : (aheadV ((p1, m1) :: F2)).length = F2.length + 1 := by simp [aheadV]
      obtain ⟨g, off, cap, rfl, hcap, d0, y0⟩ : ∃ g off cap, vq = .slice (some ⟨g, off, none⟩) (F2.length + 1) cap ∧ F2.length + 1 ≤ cap ∧ wr.cell? ⟨g, off, none⟩ = some (.pointer (some ⟨p1.b, 0, none⟩)) ∧ wr.frozen? ⟨g, off, none⟩ = false := by
        rcases hque with ⟨-, e⟩ | ⟨g, off, cap, e, q1, q2, q3, q4, q5, q6⟩
        · cases e
        · rw [hl] at e q3
          exact ⟨g, off, cap, e, q3, q5 0 _ rfl, (q6 0 (by omega)).2⟩
      have hgb : g ≠ q.b := (HR.out.sp.sr.qo g rfl).1
      obtain ⟨hrm, hst⟩ := spread_step HR.out HO.out HRt.out hN hN2 h1 hmo hK HKey.out
      have HSt := hide hst
      have hc1 : (1 : Int) ≤ F2.length + 1 := by omega
      have hc0 : (0 : Int) < F2.length + 1 := by omega
      have hc2 : ((F2.length : Int) + 1) ≤ cap := by omega
      clear hque hl hst HR
      by_cases hc : cap = 1
      · rw [show qCut g off cap = ⟨g, off, Option.none⟩ from if_pos hc, show cap - 1 = 0 by omega] at HSt
        go_wp2_with fail
        refine HSt.out.mono ?_
        rintro e2 w2 hp
        clear HSt
        rcases hp.out with ⟨rfl, S1, qv1, F1, hrel⟩ | ⟨rfl, hz⟩ | ⟨ad, n2, cap2, rfl, hz⟩
        · have R2 := hide hrel
          clear hp hrel
          go_wp2_with fail
          go_roundg (q.mo.toNat - (r + 1))
          case rel => exact ⟨r + 1, S1, qv1, F1, Nat.le_refl _, R2⟩
          case measure => omega
        · have HZ := hide hz
          clear hp hz
          go_wp2_with fail
          go_ret2
          exact HZ
        · have HZ := hide hz
          clear hp hz
          go_wp2_with fail
          go_ret2
          exact HZ
      · rw [show qCut g off cap = ⟨g, off + 1, Option.none⟩ from if_neg hc] at HSt
        go_wp2_with fail
        refine HSt.out.mono ?_
        rintro e2 w2 hp
        clear HSt
        rcases hp.out with ⟨rfl, S1, qv1, F1, hrel⟩ | ⟨rfl, hz⟩ | ⟨ad, n2, cap2, rfl, hz⟩
        · have R2 := hide hrel
          clear hp hrel
          go_wp2_with fail
          go_roundg (q.mo.toNat - (r + 1))
          case rel => exact ⟨r + 1, S1, qv1, F1, Nat.le_refl _, R2⟩
          case measure => omega
        · have HZ := hide hz
          clear hp hz
          go_wp2_with fail
          go_ret2
          exact HZ
        · have HZ := hide hz
          clear hp hz
          go_wp2_with fail
          go_ret2
          exact HZ
end Go.Proofs.YtnnlkolhahjokaaGreatDoor
