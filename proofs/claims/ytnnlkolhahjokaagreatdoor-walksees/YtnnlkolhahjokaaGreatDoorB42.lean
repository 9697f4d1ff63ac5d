/- The law WalkSees answers true for either kind of code and every number that can be handed in; no condition beside the row's own. -/
import Derived.Test.YtnnlkolhahjokaaGreatDoorB39
import Derived.Test.YtnnlkolhahjokaaGreatDoorB41
import Derived.Test.YtnnlkolhahjokaaGreatDoorB38
import Derived.Test.YtnnlkolhahjokaaGreatDoorB30
import Derived.Test.YtnnlkolhahjokaaGreatDoorB02
import Derived.Test.YtnnlkolhahjokaaGreatDoorTie
import Derived.Test.YtnnlkolhahjokaaGreatDoorCards
import Derived.Carry
import Derived.SevenTiedAt

/- WlG -/
namespace Go.Proofs.YtnnlkolhahjokaaGreatDoor
open Go.RowKit Go.Extern.Stop Go.Stop Go.Extern Go.Maps Go.WideMaps Go.Sort

theorem codesInfoW : ∃ i, (Tryz.prog).info? 45 = some i ∧ i.zero = some (.slice none 0 0) ∧ i.size = 1 ∧ i.bytes = 24 := info_parts (by kernel_rfl)

structure Sees (fe : Bool) (v : Int) (j : Nat) (w0 : World) (cv : Value) (us : List Value) (w : World) : Prop where
  own : w.ownsRow w0.heap.size 45 1 cv j us
  codes : ∀ u ∈ us, insOwn w w0.heap.size u (seCode fe v)
  ne : ∀ u ∈ us, ∀ b, u.ownBlock = some b → cv.ownBlock ≠ some b
  low : Below w0.heap.size w0 w

section
variable {fe : Bool} {v : Int} {j : Nat} {w0 : World} {cv : Value} {us : List Value} {w w' : World}
theorem Sees.below (h : Sees fe v j w0 cv us w) (k : Below w.heap.size w w') : Sees fe v j w0 cv us w' where
  own := ownsRow_block h.own (fun b hb => k.block b (h.own.lt b hb).2)
  codes u hu := insOwn_keep (h.codes u hu) k
  ne := h.ne
  low := below_step h.low k
theorem Sees.grow (h : Sees fe v j w0 cv us w) {ob : Option Nat} (hg : w.grownBy w' ob) (hb : ∀ b, ob = some b → w0.heap.size ≤ b ∧ cv.ownBlock ≠ some b ∧ ∀ u ∈ us, u.ownBlock ≠ some b) : Sees fe v j w0 cv us w' := by
  have hB : Below w0.heap.size w w' := (Below.refl _ w).grown hg h.low.size (fun k hk => (hb k hk).1)
  refine ⟨World.ownsRow.kept h.own hg ?_, fun u hu => insOwn_kept (h.codes u hu) hg ?_, h.ne, h.low.trans hB⟩
  · cases hr : cv.ownBlock with
    | none => exact .inl rfl
    | some b => exact .inr fun e => (hb b e.symm).2.1 hr
  · cases hr : u.ownBlock with
    | none => exact .inl rfl
    | some b => exact .inr fun e => (hb b e.symm).2.2 u hu hr
theorem Sees.code (h : Sees fe v j w0 cv us w) {u : Value} (hu : insOwn w w0.heap.size u (seCode fe v)) (hne : ∀ b, u.ownBlock = some b → cv.ownBlock ≠ some b) {cv' : Value} {N : Nat} (hN : w.heap.size ≤ N)
    (ho : w'.ownsRow w0.heap.size 45 1 cv' (j + 1) (us ++ [u])) (hg : w.grownBy w' cv.ownBlock) (hloc : cv'.ownBlock = cv.ownBlock ∨ cv'.ownBlock = some N) : Sees fe v (j + 1) w0 cv' (us ++ [u]) w' := by
  have hB : Below w0.heap.size w w' := (Below.refl _ w).grown hg h.low.size (fun k hk => (h.own.lt k hk).1)
  have nb : ∀ b, b < w.heap.size → cv.ownBlock ≠ some b → cv'.ownBlock ≠ some b := fun b hb hne e => by
    rcases hloc with h1 | h1
    · rw [h1] at e; exact hne e
    · rw [h1] at e
      have := Option.some.inj e
      omega
  have all : ∀ x ∈ us ++ [u], insOwn w w0.heap.size x (seCode fe v) ∧ ∀ b, x.ownBlock = some b → cv.ownBlock ≠ some b := fun x hx => by
    rcases List.mem_append.1 hx with hx | hx
    · exact ⟨h.codes x hx, h.ne x hx⟩
    · obtain rfl : x = u := by simpa using hx
      exact ⟨hu, hne⟩
  refine ⟨ho, fun x hx => insOwn_kept (all x hx).1 hg ?_, fun x hx b e => nb b (World.ownsRow.lt (all x hx).1 b e).2 ((all x hx).2 b e), h.low.trans hB⟩
  cases hr : x.ownBlock with
  | none => exact .inl rfl
  | some b => exact .inr fun e => (all x hx).2 b hr e.symm
theorem Sees.at' (h : Sees fe v 2 w0 cv us w) : ∃ ad cap, cv = .slice ad 2 cap ∧ codesAt ad (seCodes fe v) w := by
  obtain ⟨ad, cap, e2, g1, g2, g3⟩ := ownsRow_shape h.own
  have lv : us.length = 2 := by have := h.own.1; omega
  refine ⟨ad, cap, e2, fun t L ht => ?_⟩
  have htl : t < 2 := (List.getElem?_eq_some_iff.1 ht).1
  have hL : L = seCode fe v := by
    match t, htl with
    | 0, _ => cases ht; rfl
    | 1, _ => cases ht; rfl
  subst hL
  obtain ⟨u, hu⟩ : ∃ u, us[t]? = some u := ⟨_, List.getElem?_eq_getElem (by omega)⟩
  obtain ⟨g, eg, cg⟩ := g3 t u hu
  obtain ⟨adl, capl, eu, k1, k2, k3⟩ := insAt_of_icells (h.codes u (List.mem_of_getElem? hu))
  refine ⟨g, 0, adl, capl, eg, by rw [Nat.zero_add, cg, eu], k1, k3, fun en => ?_⟩
  rcases (h.codes u (List.mem_of_getElem? hu)).2 with ⟨e4, e5⟩ | ⟨gg, cc, cur, e4, _⟩
  · exact List.length_eq_zero_iff.1 e5
  · rw [eu] at e4
    cases e4
    cases en
end
theorem seCode_len (fe : Bool) (v : Int) : 0 < (seCode fe v).length ∧ (seCode fe v).length ≤ 4 := by
  cases fe
  · exact ⟨by show 0 < 3; decide, by show 3 ≤ 4; decide⟩
  · exact ⟨by show 0 < 4; decide, by show 4 ≤ 4; decide⟩

theorem insAt_new2 {w : World} {l : List Ins} {cs : Array Value} {t : TypeId} {ob : Obj} (h : cs.toList = icells l) : insAt (some ⟨w.heap.size + 1, 0, none⟩) l ((w.alloc ob).alloc (.cells cs t)) := by
  have := insAt_new (w := w.alloc ob) (t := t) h
  rwa [World.size_alloc] at this
def seW (w : World) : World := ((((((w.alloc (.cells #[.int .i64 0] 3)).alloc (.cells #[.int .i64 0] 3)).alloc (.cells #[.slice (some ⟨w.heap.size, 0, none⟩) 1 1, .slice (some ⟨w.heap.size + 1, 0, none⟩) 1 1] 26)).alloc
  (.cells #[.int .i64 0, .int .i64 0, .int .i64 0, .int .i64 0, .int .i64 0, .int .i64 0, .int .i64 1, .int .i64 2] 3)).alloc (.cells #[.int .i64 0, .int .i64 0, .int .i64 0, .int .i64 0, .int .i64 0, .int .i64 0, .int .i64 2, .int .i64 1] 3)).alloc
  (.cells #[.slice (some ⟨w.heap.size + 1 + 1 + 1, 0, none⟩) 8 8, .slice (some ⟨w.heap.size + 1 + 1 + 1 + 1, 0, none⟩) 8 8] 26)).alloc (.cells #[.int .i64 2, .slice (some ⟨w.heap.size + 1 + 1, 0, none⟩) 2 2, .slice (some ⟨w.heap.size + 1 + 1 + 1 + 1 + 1, 0, none⟩) 2 2] 35)
theorem seW_below (w : World) : Below w.heap.size w (seW w) := by
  unfold seW
  exact ((((((((Below.refl _ w).alloc (Nat.le_refl _) _).alloc (by simp) _).alloc (by simp; omega) _).alloc (by simp; omega) _).alloc (by simp; omega) _).alloc (by simp; omega) _).alloc (by simp; omega) _)
theorem seSta_at (w : World) : StaAt seSta ⟨some ⟨w.heap.size + 1 + 1, 0, none⟩, 2, some ⟨w.heap.size + 1 + 1 + 1 + 1 + 1, 0, none⟩, 2⟩ (seW w) := by
  obtain ⟨W1, h1⟩ : ∃ W, W = w.alloc (.cells #[.int .i64 0] 3) := ⟨_, rfl⟩
  obtain ⟨W2, h2⟩ : ∃ W, W = W1.alloc (.cells #[.int .i64 0] 3) := ⟨_, rfl⟩
  obtain ⟨W3, h3⟩ : ∃ W, W = W2.alloc (.cells #[.slice (some ⟨w.heap.size, 0, none⟩) 1 1, .slice (some ⟨w.heap.size + 1, 0, none⟩) 1 1] 26) := ⟨_, rfl⟩
  obtain ⟨W4, h4⟩ : ∃ W, W = W3.alloc (.cells #[.int .i64 0, .int .i64 0, .int .i64 0, .int .i64 0, .int .i64 0, .int .i64 0, .int .i64 1, .int .i64 2] 3) := ⟨_, rfl⟩
  obtain ⟨W5, h5⟩ : ∃ W, W = W4.alloc (.cells #[.int .i64 0, .int .i64 0, .int .i64 0, .int .i64 0, .int .i64 0, .int .i64 0, .int .i64 2, .int .i64 1] 3) := ⟨_, rfl⟩
  obtain ⟨W6, h6⟩ : ∃ W, W = W5.alloc (.cells #[.slice (some ⟨w.heap.size + 1 + 1 + 1, 0, none⟩) 8 8, .slice (some ⟨w.heap.size + 1 + 1 + 1 + 1, 0, none⟩) 8 8] 26) := ⟨_, rfl⟩
  obtain ⟨W7, h7⟩ : ∃ W, W = W6.alloc (.cells #[.int .i64 2, .slice (some ⟨w.heap.size + 1 + 1, 0, none⟩) 2 2, .slice (some ⟨w.heap.size + 1 + 1 + 1 + 1 + 1, 0, none⟩) 2 2] 35) := ⟨_, rfl⟩
  have e7 : seW w = W7 := by rw [h7, h6, h5, h4, h3, h2, h1]; rfl
  have s1 : W1.heap.size = w.heap.size + 1 := by rw [h1]; simp
  have s2 : W2.heap.size = w.heap.size + 1 + 1 := by rw [h2, World.size_alloc, s1]
  have s3 : W3.heap.size = w.heap.size + 1 + 1 + 1 := by rw [h3, World.size_alloc, s2]
  have s4 : W4.heap.size = w.heap.size + 1 + 1 + 1 + 1 := by rw [h4, World.size_alloc, s3]
  have s5 : W5.heap.size = w.heap.size + 1 + 1 + 1 + 1 + 1 := by rw [h5, World.size_alloc, s4]
  have a6 : Below W6.heap.size W6 W7 := by rw [h7]; exact (Below.refl _ _).alloc (Nat.le_refl _) _
  have a5 : Below W5.heap.size W5 W7 := below_step (by rw [h6]; exact (Below.refl _ _).alloc (Nat.le_refl _) _) a6
  have a4 : Below W4.heap.size W4 W7 := below_step (by rw [h5]; exact (Below.refl _ _).alloc (Nat.le_refl _) _) a5
  have a3 : Below W3.heap.size W3 W7 := below_step (by rw [h4]; exact (Below.refl _ _).alloc (Nat.le_refl _) _) a4
  have a2 : Below W2.heap.size W2 W7 := below_step (by rw [h3]; exact (Below.refl _ _).alloc (Nat.le_refl _) _) a3
  have a1 : Below W1.heap.size W1 W7 := below_step (by rw [h2]; exact (Below.refl _ _).alloc (Nat.le_refl _) _) a2
  rw [e7]
  have z1 : numsAt (some ⟨w.heap.size, 0, none⟩) [0] W7 := (show numsAt (some ⟨w.heap.size, 0, none⟩) [0] W1 from by rw [h1]; exact numsAt_new rfl).below a1
  have z2 : numsAt (some ⟨w.heap.size + 1, 0, none⟩) [0] W7 := (show numsAt (some ⟨w.heap.size + 1, 0, none⟩) [0] W2 from by rw [h2, ← s1]; exact numsAt_new rfl).below a2
  have r1 : numsAt (some ⟨w.heap.size + 1 + 1 + 1, 0, none⟩) [0, 0, 0, 0, 0, 0, 1, 2] W7 := (show numsAt (some ⟨w.heap.size + 1 + 1 + 1, 0, none⟩) [0, 0, 0, 0, 0, 0, 1, 2] W4 from by rw [h4, ← s3]; exact numsAt_new rfl).below a4
  have r2 : numsAt (some ⟨w.heap.size + 1 + 1 + 1 + 1, 0, none⟩) [0, 0, 0, 0, 0, 0, 2, 1] W7 := (show numsAt (some ⟨w.heap.size + 1 + 1 + 1 + 1, 0, none⟩) [0, 0, 0, 0, 0, 0, 2, 1] W5 from by rw [h5, ← s4]; exact numsAt_new rfl).below a5
  have c0 : W7.cell? ⟨w.heap.size + 1 + 1, 0, none⟩ = some (.slice (some ⟨w.heap.size, 0, none⟩) 1 1) := keep_cell a3 (by rw [h3, ← s2, World.cell?_alloc_new]; rfl)
  have c1 : W7.cell? ⟨w.heap.size + 1 + 1, 1, none⟩ = some (.slice (some ⟨w.heap.size + 1, 0, none⟩) 1 1) := keep_cell a3 (by rw [h3, ← s2, World.cell?_alloc_new]; rfl)
  have d0 : W7.cell? ⟨w.heap.size + 1 + 1 + 1 + 1 + 1, 0, none⟩ = some (.slice (some ⟨w.heap.size + 1 + 1 + 1, 0, none⟩) 8 8) := keep_cell a6 (by rw [h6, ← s5, World.cell?_alloc_new]; rfl)
  have d1 : W7.cell? ⟨w.heap.size + 1 + 1 + 1 + 1 + 1, 1, none⟩ = some (.slice (some ⟨w.heap.size + 1 + 1 + 1 + 1, 0, none⟩) 8 8) := keep_cell a6 (by rw [h6, ← s5, World.cell?_alloc_new]; rfl)
  refine ⟨fun i row hr => ?_, fun i row hr => ?_, Nat.le_refl _, Nat.le_refl _, by decide, by decide, fun i row hr => ?_, fun i row hr => ?_⟩
  · match i, hr with
    | 0, hr => cases hr; exact ⟨_, 0, _, 1, rfl, c0, by decide, z1⟩
    | 1, hr => cases hr; exact ⟨_, 0, _, 1, rfl, c1, by decide, z2⟩
  · match i, hr with
    | 0, hr => cases hr; exact ⟨_, 0, _, 8, rfl, d0, by decide, r1⟩
    | 1, hr => cases hr; exact ⟨_, 0, _, 8, rfl, d1, by decide, r2⟩
  · match i, hr with
    | 0, hr => cases hr; decide
    | 1, hr => cases hr; decide
  · match i, hr with
    | 0, hr => cases hr; decide
    | 1, hr => cases hr; decide
def SeRel (a : Nat → Addr) (fe : Bool) (v : Int) (b B : Nat) (w : World) (i : Nat) (wr : World) : Prop := ∃ p : MkPl, p.b = b ∧ p.B = B ∧ RunX a (seCodes fe v) p (seM fe v i) (1 + 2 * i) wr ∧ Below w.heap.size w wr
theorem SeRel.run {a : Nat → Addr} {fe : Bool} {v : Int} {b B : Nat} {w : World} {i : Nat} {wr : World} (h : SeRel a fe v b B w i wr) (hB : w.heap.size ≤ B) (hi : i ≤ 8) :
    Calls Tryz.prog 10 #[.pointer (some ⟨b, 0, none⟩), .slice (some ⟨wr.heap.size, 0, none⟩) 2 2] (wr.alloc (.cells #[.int .i64 0, .int .i64 1] 3)) fun e w' => (∃ k, e = .returned (.int .i64 k)) ∧ SeRel a fe v b B w (i + 1) w' := by
  obtain ⟨p, rfl, rfl, hr, hb⟩ := h
  have hbb : Below wr.heap.size wr (wr.alloc (.cells #[.int .i64 0, .int .i64 1] 3)) := (Below.refl _ _).alloc (Nat.le_refl _) _
  have hl : numsAt (some ⟨wr.heap.size, 0, none⟩) [0, 1] (wr.alloc (.cells #[.int .i64 0, .int .i64 1] 3)) := numsAt_new rfl
  have hx := hr.below hbb
  refine (krun_any (l := [0, 1]) (cap := 2) hx hl (by decide) (by decide) (by show 1 + 2 * i + 2 ≤ _; omega) (fun b off e => ?_)).mono ?_
  · cases e
    exact ⟨by simp, fun hf => by have := hr.at'.fp_lt hf; omega⟩
  · rintro e w' ⟨he, v', k, r⟩
    refine ⟨⟨_, he⟩, p.marked v', rfl, rfl, ?_, ?_⟩
    · have e1 : 1 + 2 * (i + 1) = 1 + 2 * i + [(0 : Int), 1].length := by show _ = 1 + 2 * i + 2; omega
      rw [e1]; exact r
    · exact (below_step hb hbb).trans (k.belowB hx.at' hB (Nat.le_trans hb.size hbb.size))

set_option maxRecDepth 100000 in
set_option maxHeartbeats 4000000 in
theorem sees_in {a : Nat → Addr} (fe : Bool) {v : Int} {w : World} (hE : Env a w) (hv : 1 ≤ v ∧ v < 4294967296) :
    Calls Tryz.prog 4 #[.bool fe, .int .i64 v] w fun e w' => e = .returned (.bool true) ∧ Below w.heap.size w w' := by
  have HO := hide (ways_any hE)
  have HN := hide (fun w' (hb : Below w.heap.size w w') {ai ar ad : Option Addr} {ci cr cap : Nat} (hs : StaAt seSta ⟨ai, ci, ar, cr⟩ w') (hl : codesAt ad (seCodes fe v) w') => new_any (cap := cap) (hE.below hb.block) hs hl (fun t L ht i x hx => by
    have h1 : L = seCode fe v := by
      match t, ht with
      | 0, ht => cases ht; rfl
      | 1, ht => cases ht; rfl
    subst h1
    cases fe
    · match i, hx with
      | 0, hx => cases hx; exact Nat.zero_le _
      | 1, hx => cases hx; exact Nat.zero_le _
      | 2, hx => cases hx; exact Nat.zero_le _
    · match i, hx with
      | 0, hx => cases hx; exact Nat.zero_le _
      | 1, hx => cases hx; exact Nat.zero_le _
      | 2, hx => cases hx; exact Nat.zero_le _
      | 3, hx => cases hx; exact Nat.zero_le _))
  have i1 : ¬ v < 1 := by omega
  have i2 : ¬ 4294967296 ≤ v := by omega
  clear hE
  go_enter Tryz.func4, Tryz.ntmps4
  go_wp2_with fail
  refine HO.out.mono ?_
  rintro e w1 ⟨rfl, hb⟩
  clear HO
  go_wp2_with fail
  go_loopw [6, 7, 8] (fun cv t _ wr => ∃ j : Nat, j ≤ 2 ∧ t = .int .i64 j ∧ Hid (∃ us, Sees fe v j w cv us wr)) (fun _ t _ _ => 2 - (intOf t).toNat)
  case atStart => exact ⟨0, Nat.zero_le _, rfl, hide ⟨[], ⟨World.ownsRow_nil _ _ _ _, fun u hu => absurd hu List.not_mem_nil, fun u hu => absurd hu List.not_mem_nil, hb⟩⟩⟩
  case round =>
    clear hb
    obtain ⟨j, hj, rfl, HS⟩ := hrel
    by_cases hlt : j < 2
    · have ji : (j : Int) < 2 := by omega
      obtain ⟨us, hS⟩ := HS.out
      have HS1 := hide hS
      clear HS hS
      have hsz : w.heap.size ≤ wr.heap.size := HS1.out.low.size
      obtain ⟨W1, hW1⟩ : ∃ W1, W1 = wr.alloc (.cells #[.string ⟨#[99, 111, 110, 115, 116]⟩, .int .i64 1, .int .i64 v, .int .i64 0, .string ⟨#[]⟩, .string ⟨#[115, 116, 111, 114, 101]⟩, .int .i64 6, .int .i64 1, .int .i64 0, .string ⟨#[]⟩] 44) := ⟨_, rfl⟩
      have HO1 : Hid (insOwn W1 wr.heap.size (.slice (some ⟨wr.heap.size, 0, none⟩) 2 2) [seConst v, seStore]) := hide (by rw [hW1]; exact insOwn_new rfl (Nat.le_refl _) (by show 2 ≤ 1000; decide))
      have HB1 : Hid (Below wr.heap.size wr W1) := hide (by rw [hW1]; exact (Below.refl _ _).alloc (Nat.le_refl _) _)
      clear HO1 HB1 hW1
      cases fe with
      | false =>
        go_wp2_with (at_builtin; refine wpList_append_ins _ rfl _ _ rfl wr.heap.size [seConst v, seStore] [seLoad] _ _ _ rfl ?q1 rfl ?q2 (Nat.succ_pos _) ?q3 ?q4 ?_)
        case q1 => exact insOwn_keep (insOwn_new (w := wr) (l := [seConst v, seStore]) rfl (Nat.le_refl _) (by show 2 ≤ 1000; decide)) ((Below.refl _ _).alloc (Nat.le_refl _) _)
        case q2 => exact insAt_new2 rfl
        case q3 => show 2 + 1 ≤ 2000; decide
        case q4 => simp; omega
        intro v4 w4 HO4' hb4 hs4' hg hloc
        have HB4 : Hid (Below wr.heap.size wr w4) := hide ((((Below.refl _ _).alloc (Nat.le_refl _) _).alloc (by simp) _).trans hb4)
        have HO4 : Hid (insOwn w4 wr.heap.size v4 (seCode false v)) := hide HO4'
        clear HO4' hb4 hs4' hg hloc
        obtain ⟨au, cu, hue, -⟩ := insOwn_open HO4.out (seCode_len _ _).1
        subst hue
        have HS4 := hide (HS1.out.below HB4.out)
        have HU4 := hide (insOwn_mono HO4.out hsz)
        have HNE : Hid (∀ b, (Value.slice (some au) (seCode false v).length cu).ownBlock = some b → u6.ownBlock ≠ some b) := hide (fun b e e2 => by
          have h1 := (World.ownsRow.lt HO4.out b e).1
          have h2 := (HS1.out.own.lt b e2).2
          omega)
        have hs4 : w.heap.size ≤ w4.heap.size := HS4.out.low.size
        clear HO4 HB4 HS1
        obtain ⟨ric, hric, hrz, hrs, hrb⟩ := codesInfoW
        go_wp2_with (at_builtin; refine wpList_append_own_at _ rfl _ _ 25 rfl w.heap.size 45 ric (.slice none 0 0) 1 24 Tryz.underlying25 hric hrz hrs hrb rfl (by decide) _ j us rfl ?q0 ⟨w4.heap.size, 0, none⟩ 1 1 [.slice (some au) (seCode false v).length cu] rfl rfl ?q1 ?q2 ?q3 ?q4 ?q5 ?_)
        case q0 => exact (HS4.out.below ((Below.refl _ _).alloc (Nat.le_refl _) _)).own
        case q1 =>
          intro k x hk
          cases k with
          | zero => cases hk; rw [Addr.add_lit]; simp
          | succ k => simp at hk
        case q2 =>
          intro x hx
          obtain rfl : x = .slice (some au) (seCode false v).length cu := by simpa using hx
          rfl
        case q3 => unfold maxLen; omega
        case q4 => omega
        case q5 => exact (HS4.out.below ((Below.refl _ _).alloc (Nat.le_refl _) _)).low.size
        intro cv' w6 ho hg hnil hloc
        have HS6 := hide ((HS4.out.below ((Below.refl _ _).alloc (Nat.le_refl _) _)).code (insOwn_keep HU4.out ((Below.refl _ _).alloc (Nat.le_refl _) _)) HNE.out (N := w4.heap.size + 1) (by simp) ho hg hloc)
        clear ho hg hnil hloc HS4 HU4 HNE hric hrz hrs hrb
        go_wp2_with fail
        go_roundw
        case rel => exact ⟨j + 1, by omega, by go_num, hide ⟨_, HS6.out⟩⟩
        case measure => simp [intOf]; omega
      | true =>
        go_wp2_with (at_builtin; refine wpList_append_ins _ rfl _ _ rfl wr.heap.size [seConst v, seStore] [seFence] _ _ _ rfl ?q1 rfl ?q2 (Nat.succ_pos _) ?q3 ?q4 ?_)
        case q1 => exact insOwn_keep (insOwn_new (w := wr) (l := [seConst v, seStore]) rfl (Nat.le_refl _) (by show 2 ≤ 1000; decide)) ((Below.refl _ _).alloc (Nat.le_refl _) _)
        case q2 => exact insAt_new2 rfl
        case q3 => show 2 + 1 ≤ 2000; decide
        case q4 => simp; omega
        intro v3 w3 HO3' hb3 hs3 hg hloc
        have HB3 : Hid (Below wr.heap.size wr w3) := hide ((((Below.refl _ _).alloc (Nat.le_refl _) _).alloc (by simp) _).trans hb3)
        have HO3 : Hid (insOwn w3 wr.heap.size v3 [seConst v, seStore, seFence]) := hide HO3'
        clear HO3' hb3 hs3 hg hloc
        obtain ⟨a3, c3, hv3, -⟩ := insOwn_open HO3.out (by show 0 < 3; decide)
        subst hv3
        have hs3 : wr.heap.size ≤ w3.heap.size := HB3.out.size
        go_wp2_with (at_builtin; refine wpList_append_ins _ rfl _ _ rfl wr.heap.size [seConst v, seStore, seFence] [seLoad] _ _ _ rfl ?q1 rfl ?q2 (Nat.succ_pos _) ?q3 ?q4 ?_)
        case q1 => exact insOwn_keep HO3.out ((Below.refl _ _).alloc (Nat.le_refl _) _)
        case q2 => exact insAt_new rfl
        case q3 => show 3 + 1 ≤ 2000; decide
        case q4 => simp; omega
        intro v4 w4 HO4' hb4 hs4' hg hloc
        have HB4 : Hid (Below wr.heap.size wr w4) := hide ((HB3.out.alloc hs3 _).trans hb4)
        have HO4 : Hid (insOwn w4 wr.heap.size v4 (seCode true v)) := hide HO4'
        clear HO4' hb4 hs4' hg hloc HO3 HB3 hs3
        obtain ⟨au, cu, hue, -⟩ := insOwn_open HO4.out (seCode_len _ _).1
        subst hue
        have HS4 := hide (HS1.out.below HB4.out)
        have HU4 := hide (insOwn_mono HO4.out hsz)
        have HNE : Hid (∀ b, (Value.slice (some au) (seCode true v).length cu).ownBlock = some b → u6.ownBlock ≠ some b) := hide (fun b e e2 => by
          have h1 := (World.ownsRow.lt HO4.out b e).1
          have h2 := (HS1.out.own.lt b e2).2
          omega)
        have hs4 : w.heap.size ≤ w4.heap.size := HS4.out.low.size
        clear HO4 HB4 HS1
        obtain ⟨ric, hric, hrz, hrs, hrb⟩ := codesInfoW
        go_wp2_with (at_builtin; refine wpList_append_own_at _ rfl _ _ 25 rfl w.heap.size 45 ric (.slice none 0 0) 1 24 Tryz.underlying25 hric hrz hrs hrb rfl (by decide) _ j us rfl ?q0 ⟨w4.heap.size, 0, none⟩ 1 1 [.slice (some au) (seCode true v).length cu] rfl rfl ?q1 ?q2 ?q3 ?q4 ?q5 ?_)
        case q0 => exact (HS4.out.below ((Below.refl _ _).alloc (Nat.le_refl _) _)).own
        case q1 =>
          intro k x hk
          cases k with
          | zero => cases hk; rw [Addr.add_lit]; simp
          | succ k => simp at hk
        case q2 =>
          intro x hx
          obtain rfl : x = .slice (some au) (seCode true v).length cu := by simpa using hx
          rfl
        case q3 => unfold maxLen; omega
        case q4 => omega
        case q5 => exact (HS4.out.below ((Below.refl _ _).alloc (Nat.le_refl _) _)).low.size
        intro cv' w6 ho hg hnil hloc
        have HS6 := hide ((HS4.out.below ((Below.refl _ _).alloc (Nat.le_refl _) _)).code (insOwn_keep HU4.out ((Below.refl _ _).alloc (Nat.le_refl _) _)) HNE.out (N := w4.heap.size + 1) (by simp) ho hg hloc)
        clear ho hg hnil hloc HS4 HU4 HNE hric hrz hrs hrb
        go_wp2_with fail
        go_roundw
        case rel => exact ⟨j + 1, by omega, by go_num, hide ⟨_, HS6.out⟩⟩
        case measure => simp [intOf]; omega
    · obtain rfl : j = 2 := by omega
      rw [show ((2 : Nat) : Int) = 2 from rfl]
      obtain ⟨us, hS⟩ := HS.out
      obtain ⟨ad, cap, rfl, hcod⟩ := hS.at'
      have hlow : Below w.heap.size w (seW wr) := below_step hS.low (seW_below wr)
      have HN2 : Hid (Calls Tryz.prog 9 #[.agg #[.int .i64 2, .slice (some ⟨wr.heap.size + 1 + 1, 0, none⟩) 2 2, .slice (some ⟨wr.heap.size + 1 + 1 + 1 + 1 + 1, 0, none⟩) 2 2], .slice ad 2 cap] (seW wr) fun e w' => Hid (NewPost a seSta (seCodes fe v) (seW wr) e w')) := hide (HN.out (seW wr) hlow (seSta_at wr) (hcod.below (seW_below wr)))
      clear HS hS hcod HN
      go_wp2_with fail
      refine HN2.out.mono ?_
      rintro e w3 hp
      obtain ⟨hb3, hp⟩ := hp.out
      rcases hp with ⟨hf, hR, p, rfl, hA, hpB, hmv⟩ | ⟨hz, -⟩
      rotate_left
      · exact absurd (seFault fe ⟨by omega, hv.2⟩) hz
      obtain ⟨g1, g2, g3, -⟩ := Sta.fault_fits hf
      have hB : w.heap.size ≤ p.B := Nat.le_trans hlow.size hpB
      have H0 : Hid (SeRel a fe v p.b p.B w 0 w3) := hide ⟨p, rfl, rfl, ⟨hA, Sta.mach_ok g1 g2 g3, hR, by decide⟩, below_step hlow hb3⟩
      generalize p.b = pb at *
      generalize p.B = pB at *
      clear HN2 hp hlow hb3 hf hR hA hpB hmv g1 g2 g3
      go_wp2_with fail
      go_loopw [12] (fun i wr => ∃ k : Nat, k ≤ 8 ∧ i = .int .i64 k ∧ Hid (SeRel a fe v pb pB w k wr)) (fun i _ => 8 - (intOf i).toNat)
      case atStart => exact ⟨0, Nat.zero_le _, rfl, H0⟩
      case round =>
        clear H0
        obtain ⟨k, hk, rfl, HK⟩ := hrel
        by_cases hlt2 : k < 8
        · have ki : (k : Int) < 8 := by omega
          have HR := hide (HK.out.run hB hk)
          clear HK
          go_wp2_with fail
          refine HR.out.mono ?_
          rintro e w4 ⟨⟨k2, rfl⟩, hrel2⟩
          have HK2 := hide hrel2
          clear HR hrel2
          go_wp2_with fail
          go_roundw
          case rel => exact ⟨k + 1, by omega, by go_num, HK2⟩
          case measure => simp [intOf]; omega
        · obtain rfl : k = 8 := by omega
          rw [show ((8 : Nat) : Int) = 8 from rfl]
          obtain ⟨p2, rfl, rfl, hr, hbl⟩ := HK.out
          have R0 : Hid (Calls Tryz.prog 12 #[.pointer (some ⟨p2.b, 0, none⟩), .int .i64 0, .int .i64 0] _ fun e w' => e = .returned (.tuple #[.int .i64 ((seM fe v 8).regs 0 0), .nilIface]) ∧ w' = _) := hide (kreg_any (t := 0) (r := 0) hr.at' (by show 0 < 2; decide) (by decide))
          have R1 : Hid (Calls Tryz.prog 12 #[.pointer (some ⟨p2.b, 0, none⟩), .int .i64 1, .int .i64 0] _ fun e w' => e = .returned (.tuple #[.int .i64 ((seM fe v 8).regs 1 0), .nilIface]) ∧ w' = _) := hide (kreg_any (t := 1) (r := 0) hr.at' (by show 1 < 2; decide) (by decide))
          have HBL := hide hbl
          have hes : fe = true ∧ (seM fe v 8).regs 0 0 = v ∧ (seM fe v 8).regs 1 0 = v ∨ fe = false ∧ (seM fe v 8).regs 0 0 = 0 ∧ (seM fe v 8).regs 1 0 = 0 := by
            cases fe with
            | true => exact .inl ⟨rfl, seEnd_yes v⟩
            | false => exact .inr ⟨rfl, seEnd_no v⟩
          clear HK hr hbl
          go_wp2_with fail
          refine R0.out.mono ?_
          rintro e w5 ⟨rfl, rfl⟩
          go_wp2_with fail
          refine R1.out.mono ?_
          rintro e w6 ⟨rfl, rfl⟩
          clear R0 R1
          rcases hes with ⟨rfl, e1, e2⟩ | ⟨rfl, e1, e2⟩
          · rw [e1, e2]
            go_wp2
            go_ret
            exact ⟨rfl, HBL.out⟩
          · rw [e1, e2]
            go_wp2
            go_ret
            exact ⟨rfl, HBL.out⟩
end Go.Proofs.YtnnlkolhahjokaaGreatDoor

/- WlH -/
namespace Go.Proofs.YtnnlkolhahjokaaGreatDoor
open Go.ChangeShapes Go.WideShapes Go.ChangeAt Go.RowKit Go.Joins Go.Deep

set_option maxRecDepth 20000 in
set_option maxHeartbeats 1000000 in
theorem sees_out {a : Nat → Addr} (fe : Bool) {v : Int} {w : World} (hE : Env a w) (hv : ¬ (1 ≤ v ∧ v < 4294967296)) :
    Calls Tryz.prog 4 #[.bool fe, .int .i64 v] w fun e w' => e = .returned (.bool true) ∧ Below w.heap.size w w' := by
  have HO := hide (ways_any hE)
  have hc : v < 1 ∨ ¬ v < 1 ∧ 4294967296 ≤ v := by omega
  clear hE hv
  go_enter Tryz.func4, Tryz.ntmps4
  go_wp2_with fail
  refine HO.out.mono ?_
  rintro e w1 ⟨rfl, hb⟩
  clear HO
  rcases hc with h1 | ⟨h1, h2⟩
  all_goals
    go_wp2_with fail
    go_ret
    exact ⟨rfl, hb⟩
theorem sees_any {a : Nat → Addr} (fe : Bool) (v : Int) {w : World} (hE : Env a w) :
    Calls Tryz.prog 4 #[.bool fe, .int .i64 v] w fun e w' => e = .returned (.bool true) ∧ Below w.heap.size w w' := by
  by_cases h : 1 ≤ v ∧ v < 4294967296
  · exact sees_in fe hE h
  · exact sees_out fe hE h

theorem sees_laid : Rows.walkSeesRow.laid = laidAll := rfl
theorem readableW2 : ∀ t ∈ [4, 3], Tryz.prog.readableRec t = true ∧ t < Tryz.prog.types.size := by
  intro t ht
  simp only [List.mem_cons, List.not_mem_nil, or_false] at ht
  rcases ht with rfl | rfl
  · exact ⟨by kernel_rfl, of_decide_eq_true (by kernel_rfl)⟩
  · exact ⟨by kernel_rfl, of_decide_eq_true (by kernel_rfl)⟩

set_option maxRecDepth 100000 in
theorem sees_lifted (os : Os) (started : os.Started) (H : Type) (enc : TypeId × Value → H) :
    ReturnsInHanded {} Tryz.checked os 4 .any (fun w args => (Rows.walkSeesSpec.pre enc Tryz.prog Tryz.f4 [] false w args ∧ laidMetH Tryz.prog Rows.walkSeesRow.laid w) ∧ sizedMet enc Tryz.prog Tryz.f4 (OpenSpec.ofChange Rows.walkSeesSpec) false w args)
      (Rows.walkSeesSpec.post enc Tryz.prog Tryz.f4 false true false false) := by
  rw [sees_laid]
  refine returnsInHanded_of_change_and (C := Tryz.checked) (X := fun w _ => laidMetH Tryz.prog laidAll w) (fun _ _ _ hh h => h.of_heap hh) own started (by kernel_rfl) Tryz.func4
    (ChangeSpec.witness_shaped (enc := enc) (C := Tryz.checked) (os := os) (X := fun w _ => laidMetH Tryz.prog laidAll w) false (World.doorLaid Tryz.prog 400 os) #[.bool false, .int .i64 0] 8 rfl (World.shaped_of_RefB (by kernel_rfl) (by kernel_rfl)) (by kernel_rfl) (by kernel_rfl) (by kernel_rfl) (door_met os _)) ?_
  intro W base args ds gs before hval0 hW _ _ hL _
  have hval : ∀ (j : Nat) t v, Tryz.f4.params[j]? = some t → args[j]? = some v → Value.okWide Tryz.prog W .any base t v := hval0
  have hW' := hW
  obtain ⟨p, q, hA0, hV, rfl, hfz, hnd⟩ := hW
  have hA : DataW.TrodAll enc Tryz.prog W 0 (fun _ => true) true Tryz.f4.params.toList args.toList ds p := hA0
  rw [Tryz.params4] at hA hval
  have hA2 := hA
  obtain ⟨v0, v1, d0, d1, p0, p1, rfl, rfl, rfl, h0, h1⟩ := trodAll_two hA
  obtain ⟨rfl, rfl⟩ := trodVars_none hV
  obtain ⟨n0, rfl⟩ := okWide_bool Tryz.underlying4 (hval 0 4 v0 rfl rfl)
  obtain ⟨n1, rfl⟩ := okWide_int Tryz.underlying3 (hval 1 3 v1 rfl rfl)
  obtain ⟨a, hE⟩ := env_of_laid hL
  clear hA0 hval0
  simp only [List.append_nil] at hW'
  refine (sees_any n0 n1 hE).mono fun e W' ⟨he, hb⟩ => ?_
  subst he
  refine ⟨_, rfl, _, _, _, [], p0 ++ p1, [], hW', ?_, ?_, ?_, hb.frame _, fun h => by cases h⟩
  · exact trodAll_mk1 (shut_bool Tryz.underlying4 true)
  · exact trodAll_below laidOutA hb _ _ _ _ readableW2 hA2
  · rfl

theorem sees_holds : Rows.WalkSeesSaid :=
  OpenClaim.holds_of_wide 4 Tryz.f4 rfl rfl rfl rfl rfl rfl rfl ⟨rfl, rfl, rfl, rfl, rfl⟩ rfl rfl rfl rfl rfl (by kernel_rfl) Tryz.func4 (by kernel_rfl)
    (of_decide_eq_true (by kernel_rfl)) (by unfold Func.isWrapper; rw [if_neg (of_decide_eq_false (by kernel_rfl))]; exact ⟨rfl, rfl⟩)
    (fun os started H enc _ => sees_lifted os started H enc)

theorem sees_card : Rows.WalkSeesCardSaid :=
  Claim7.holds_tied_plain_at .later [] [.handle, .sentinel, .sentinel, .sentinel, .sentinel, .sentinel, .sentinel, .sentinel] true (true, "ab95832b42b8b98b4bac848131bff84f3f680ce4991a79cff598260e17189a18") true
    sees_holds (fun _ h => absurd h List.not_mem_nil) (by kernel_rfl) (fun _ h => absurd h List.not_mem_nil) walkSees_row_tie rfl ⟨rfl, rfl⟩ (by kernel_rfl) rfl
    (fun f fn hf hfn => by
      obtain rfl : f = 4 := (Option.some.inj ((show Tryz.prog.funcNamed "quiescent/quiescentlaw1.WalkSees" = some 4 by kernel_rfl).symm.trans hf)).symm
      obtain rfl : fn = Tryz.f4 := (Option.some.inj (Tryz.func4.symm.trans hfn)).symm
      exact ⟨by kernel_rfl, fun j t ht => by
        rw [Tryz.params4] at ht
        rcases j with _ | _ | j
        · obtain rfl : t = 4 := by simpa using ht.symm
          exact (show Tryz.prog.wantsStandIn 4 = false by kernel_rfl)
        · obtain rfl : t = 3 := by simpa using ht.symm
          exact (show Tryz.prog.wantsStandIn 3 = false by kernel_rfl)
        · simp at ht⟩)
    (by kernel_rfl)
#print axioms sees_card
end Go.Proofs.YtnnlkolhahjokaaGreatDoor
