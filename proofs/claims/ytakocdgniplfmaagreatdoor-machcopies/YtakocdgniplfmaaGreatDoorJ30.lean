import Derived.Test.YtakocdgniplfmaaGreatDoorJ29
import Derived.Test.YtakocdgniplfmaaGreatDoorJ20
import Derived.RegionTactic
import Derived.BigRegion
import Derived.OwnWalk
import Derived.Maps.AppendAt

/- MkB -/
namespace Go.Proofs.YtakocdgniplfmaaGreatDoor
open Go.RowKit Go.Extern.Stop Go.Stop Go.Extern Go.Maps Go.WideMaps

theorem khas_any {a : Nat → Addr} {cs : List (List Ins)} {p : MkPl} {m : Mk} (t : Int) {w : World} (h : MkAt a cs p m w) :
    Calls Tryz.prog 42 #[.pointer (some ⟨p.b, 0, none⟩), .int .i64 t] w fun e w' => e = .returned (.bool (decide (0 ≤ t ∧ t < cs.length))) ∧ w' = w := by
  have hn := h.prog
  have hf := h.few
  clear h
  by_cases h0 : 0 ≤ t
  · by_cases h1 : t < cs.length
    · rw [decide_eq_true ⟨h0, h1⟩]
      go_enter Tryz.func42, Tryz.ntmps42
      go_wp2
      go_ret
      exact ⟨rfl, rfl⟩
    · rw [decide_eq_false (fun e => h1 e.2)]
      go_enter Tryz.func42, Tryz.ntmps42
      go_wp2
      go_ret
      exact ⟨rfl, rfl⟩
  · rw [decide_eq_false (fun e => h0 e.1)]
    go_enter Tryz.func42, Tryz.ntmps42
    go_wp2
    go_ret
    exact ⟨rfl, rfl⟩
theorem khas_yes {a : Nat → Addr} {cs : List (List Ins)} {p : MkPl} {m : Mk} {t : Nat} (ht : t < cs.length) {w : World} (h : MkAt a cs p m w) :
    Calls Tryz.prog 42 #[.pointer (some ⟨p.b, 0, none⟩), .int .i64 t] w fun e w' => e = .returned (.bool true) ∧ w' = w :=
  (khas_any t h).mono fun _ _ ⟨h1, h2⟩ => ⟨by rw [h1, decide_eq_true (by omega)], h2⟩
theorem khas_no {a : Nat → Addr} {cs : List (List Ins)} {p : MkPl} {m : Mk} {t : Int} (ht : ¬ (0 ≤ t ∧ t < cs.length)) {w : World} (h : MkAt a cs p m w) :
    Calls Tryz.prog 42 #[.pointer (some ⟨p.b, 0, none⟩), .int .i64 t] w fun e w' => e = .returned (.bool false) ∧ w' = w :=
  (khas_any t h).mono fun _ _ ⟨h1, h2⟩ => ⟨by rw [h1, decide_eq_false ht], h2⟩

theorem and_mask (n : Int) : bits .and .i64 n 4294967295 = n % 4294967296 := by
  have h1 : (BitVec.ofInt 64 4294967295).toNat = 2 ^ 32 - 1 := by decide
  have key : (BitVec.ofInt 64 n &&& BitVec.ofInt 64 4294967295).toNat = (n % ((2 ^ 64 : Nat) : Int)).toNat % 2 ^ 32 := by
    rw [BitVec.toNat_and, BitVec.toNat_ofInt, h1, Nat.and_two_pow_sub_one_eq_mod]
  show IntKind.i64.wrap ((BitVec.ofInt 64 n &&& BitVec.ofInt 64 4294967295).toNat : Nat) = n % 4294967296
  rw [key, IntKind.wrap_i64]
  omega
theorem ofInt_word {n : Int} (h : Wd n) : (BitVec.ofInt 64 n).toNat = n.toNat := by
  rw [BitVec.toNat_ofInt]
  have := h.1
  have := h.2
  omega
theorem and_word {a b : Int} (ha : Wd a) (hb : Wd b) : bits .and .i64 a b = andW a b := by
  show IntKind.i64.wrap ((BitVec.ofInt 64 a &&& BitVec.ofInt 64 b).toNat : Nat) = andW a b
  rw [BitVec.toNat_and, ofInt_word ha, ofInt_word hb, IntKind.wrap_i64]
  have h1 := (ha.and hb).1
  have h2 := (ha.and hb).2
  unfold andW at *
  omega
theorem xor_word {a b : Int} (ha : Wd a) (hb : Wd b) : bits .xor .i64 a b = xorW a b := by
  show IntKind.i64.wrap ((BitVec.ofInt 64 a ^^^ BitVec.ofInt 64 b).toNat : Nat) = xorW a b
  rw [BitVec.toNat_xor, ofInt_word ha, ofInt_word hb, IntKind.wrap_i64]
  have h1 := (ha.xor hb).1
  have h2 := (ha.xor hb).2
  unfold xorW at *
  omega

theorem round_any (n : Int) (w : World) :
    Calls Tryz.prog 85 #[.int .i64 n] w fun e w' => e = .returned (.int .i64 (n % 4294967296)) ∧ w' = w := by
  rw [← and_mask]
  go_enter Tryz.func85, Tryz.ntmps85
  go_wp2
  go_ret
  exact ⟨rfl, rfl⟩

/-- A fault counted, as the walk writes it. -/
theorem MkAt.fault1 {a : Nat → Addr} {cs : List (List Ins)} {p : MkPl} {m : Mk} {w : World} (h : MkAt a cs p m w) : MkStep a cs p w p.mv (m.addFault 1) (w.setCell ⟨p.b, 640, none⟩ (.int .i64 ((m.faults : Int) + 1))) := h.addFault 1

theorem need_any {a : Nat → Addr} {cs : List (List Ins)} {p : MkPl} {m : Mk} (v : Int) {w : World} (h : MkAt a cs p m w) (hf : m.faults ≤ 1000000000) :
    Calls Tryz.prog 88 #[.pointer (some ⟨p.b, 0, none⟩), .int .i64 v] w fun e w' => e = .returned (.tuple #[]) ∧ MkStep a cs p w p.mv (m.need v) w' := by
  have hc := h.faults
  have hz := h.frozen 640 (by decide) (by decide)
  unfold Mk.need
  by_cases h0 : v = 0
  · subst h0
    rw [if_pos rfl]
    have HS := hide h.fault1
    clear h
    go_enter Tryz.func88, Tryz.ntmps88
    go_wp2
    go_end0
    exact ⟨rfl, HS.out⟩
  · rw [if_neg h0]
    have hb : (v == 0) = false := beq_eq_false_iff_ne.2 h0
    have HS := hide (MkStep.refl h)
    clear h
    go_enter Tryz.func88, Tryz.ntmps88
    go_wp2
    go_end0
    exact ⟨rfl, HS.out⟩

theorem lt_of_some {α : Type} {l : List α} {i : Nat} {x : α} (h : l[i]? = some x) : i < l.length := (List.getElem?_eq_some_iff.1 h).1

/-- What a thread's program says of a label that is set. -/
theorem look_label {w : World} {b : Nat} {L : List Ins} (h : w.ownsMap Tryz.prog 9 (plainElem Tryz.prog 3) b L.length (setD L L.length)) {to : ByteArray} (hs : to.size ≤ maxLen) {i : Nat} (hi : labelAt L to = i) :
    (Instr.lookup 162 (.map (some b)) (.string to) false).run Tryz.prog w = .ok (.int .i64 i) w := by
  obtain ⟨c, hrun, hat, _⟩ := h.lookup_int (t := 162) (q := .i64) mapLaw Tryz.underlying162 Tryz.underlying3 (mapZero w) (keyOf_string_mk Tryz.underlying9 hs)
  rcases setD_all L to with ⟨_, h2⟩ | ⟨_, j, hj, h2, h3⟩
  · rw [h2] at hi; omega
  · rw [h3] at hat
    have e : (j : Int) = c := by simpa using hat
    rw [hrun, ← e, ← h2, hi]

theorem kjump_yes {a : Nat → Addr} {cs : List (List Ins)} {p : MkPl} {m : Mk} {t i : Nat} {L : List Ins} {to : ByteArray} (ht : cs[t]? = some L) (hs : to.size ≤ maxLen) (hi : labelAt L to = i) {w : World} (h : MkAt a cs p m w) :
    Calls Tryz.prog 86 #[.pointer (some ⟨p.b, 0, none⟩), .int .i64 t, .string to, .bool true] w fun e w' => e = .returned (.tuple #[]) ∧ MkStep a cs p w p.mv (m.jump t L to) w' := by
  have hlt := lt_of_some ht
  have h6 := h.few
  have hj : m.jump t L to = m.setPc t i := by unfold Mk.jump; rw [hi]; rfl
  rw [hj]
  have hp := h.prog
  obtain ⟨ad, cap, lb, -, -, hm, -, hown⟩ := h.pg.pg.code t L ht
  have hlk := look_label hown.drew hs hi
  have hpc := h.pc t (by omega)
  have hz := h.frozen (585 + t * 9 + 8) (by omega) (by omega)
  have hcap := h.pg.pg.cap
  have ti : (t : Int) < cs.length := by omega
  have t6 : (t : Int) < 6 := by omega
  have HS := hide ((h.below (Below.refl _ _).drew).setPc (t := t) (by omega) i)
  have HD := hide (MkStep.of_below' h (Below.refl _ _).drew)
  clear h hown ht hi hj hs
  go_enter Tryz.func86, Tryz.ntmps86
  go_wp2
  go_region
  all_goals
    go_wp2
    go_end0
    exact ⟨rfl, HD.out.trans HS.out⟩

theorem kjump_no {a : Nat → Addr} {cs : List (List Ins)} {p : MkPl} {m : Mk} (t : Int) (to : ByteArray) {w : World} (h : MkAt a cs p m w) :
    Calls Tryz.prog 86 #[.pointer (some ⟨p.b, 0, none⟩), .int .i64 t, .string to, .bool false] w fun e w' => e = .returned (.tuple #[]) ∧ MkStep a cs p w p.mv m w' := by
  have HS := hide (MkStep.refl h)
  clear h
  go_enter Tryz.func86, Tryz.ntmps86
  go_wp2
  go_end0
  exact ⟨rfl, HS.out⟩
end Go.Proofs.YtakocdgniplfmaaGreatDoor

/- MkC -/
namespace Go.Proofs.YtakocdgniplfmaaGreatDoor
open Go.RowKit Go.Extern.Stop Go.Stop Go.Extern Go.Maps Go.WideMaps

theorem markInfo : ∃ i, Tryz.prog.info? 80 = some i ∧ i.zero = some (.agg #[.int .i64 0, .int .i64 0]) ∧ i.size = 2 ∧ i.bytes = 16 := info_parts (by kernel_rfl)

/-- The marks' row grown, and laid in its cell. -/
theorem MkAt.marked {a : Nat → Addr} {cs : List (List Ins)} {p : MkPl} {m : Mk} {w w6 : World} (h : MkAt a cs p m w) (v : Value) (l : List (Nat × Int))
    (hown : w6.ownsRow 0 80 2 v l.length (markCells l)) (hT : Turns (fun k _ => p.mv.ownBlock = some k) w w6) (hk : ∀ k, v.ownBlock = some k → p.mv.ownBlock = some k ∨ w.heap.size ≤ k) :
    MkStep a cs p w v { m with marks := l } (w6.setCell ⟨p.b, 639, none⟩ v) := by
  have nb : ∀ o : Nat, ¬ (fun k (_ : Nat) => p.mv.ownBlock = some k) p.b o := fun _ e => (h.ne _ e).1 rfl
  have nv : ∀ k, v.ownBlock = some k → k ≠ p.b ∧ p.B ≤ k := fun k e => by
    rcases hk k e with e | e
    · exact h.ne k e
    · have := h.lt; have := h.pg.size; exact ⟨by omega, by omega⟩
  have T : Turns (fun k o => k = p.b ∧ o = 639) w6 (w6.setCell ⟨p.b, 639, none⟩ v) := (Turns.refl _ _).setCell _ ⟨rfl, rfl⟩
  have fz : ∀ o, 584 ≤ o → o < 641 → (w6.setCell ⟨p.b, 639, none⟩ v).frozen? ⟨p.b, o, none⟩ = false := fun o h1 h2 => by rw [World.frozen?_setCell, hT.frozen _ _ h.lt (nb o)]; exact h.frozen o h1 h2
  have hm1 : MmAt p.b m.mem w6 := h.mem.turns hT (fun o _ e => nb o e)
  refine ⟨⟨(h.pg.turns hT (fun k _ e => (h.ne k e).2)).turns T (fun k _ e => by rw [e.1]; exact h.hB), hm1.turns T (fun o ho e => by have := e.2; omega), h.thr, cell_ne (hT.keep h.prog (nb 584)) (Or.inr (by omega)),
      fun i k hi hk => cell_ne (hT.keep (h.reg i k hi hk) (nb (585 + i * 9 + k))) (Or.inr (by omega)), fun i hi => cell_ne (hT.keep (h.pc i hi) (nb (585 + i * 9 + 8))) (Or.inr (by omega)), World.cell?_setCell_same _ _ _ (hT.keep h.marks (nb 639)),
      ownsRow_block hown fun k hk => Below.heap_setCell _ _ _ _ (nv k hk).1,
      cell_ne (hT.keep h.faults (nb 640)) (Or.inr (by omega)), fz, nv, h.hB⟩, ?_, hk⟩
  exact (hT.mono fun k _ _ e => Or.inr e).setCell _ (Or.inl rfl)

set_option maxRecDepth 20000 in
set_option maxHeartbeats 1000000 in
theorem kmark_any {a : Nat → Addr} {cs : List (List Ins)} {p : MkPl} {m : Mk} (t : Nat) (v : Int) {w : World} (h : MkAt a cs p m w) (h5 : m.marks.length ≤ 500) :
    Calls Tryz.prog 87 #[.pointer (some ⟨p.b, 0, none⟩), .int .i64 t, .int .i64 v] w fun e w' => e = .returned (.tuple #[]) ∧ ∃ u, MkStep a cs p w u (m.mark t v) w' := by
  have hm := h.marks
  obtain ⟨ad, cap, hvs, hcl, hcm, -⟩ := ownsRow_shape h.own
  have hv := h.own
  rw [hvs] at hm hv
  unfold Mk.mark
  by_cases hl : m.marks.length < 500
  · rw [if_pos hl]
    have hi : (m.marks.length : Int) < 500 := by omega
    obtain ⟨ri, hri, hrz, hrs, hrb⟩ := markInfo
    have hz := h.frozen 639 (by decide) (by decide)
    have lb := h.lt
    have ob : (Value.slice ad m.marks.length cap).ownBlock ≠ some p.b := fun e => (h.ne _ (by rw [hvs]; exact e)).1 rfl
    have HV := hide hvs
    have H := hide h
    clear h hvs hcm hcl h5
    go_enter Tryz.func87, Tryz.ntmps87
    go_wp2_with (first
      | (at_builtin; refine wpList_append_own_at _ rfl _ _ 77 rfl 0 80 ri (.agg #[.int .i64 0, .int .i64 0]) 2 16 Tryz.underlying77 hri hrz hrs hrb rfl (by decide) _ _ _ rfl (hv.alloc _) ⟨w.heap.size, 0, none⟩ 1 1 [.int .i64 t, .int .i64 v] rfl rfl ?c1 ?c2 ?c3 ?c4 ?c5 ?_))
    case c1 => exact World.news_of_block (cs := #[.int .i64 t, .int .i64 v]) (t := 80) (fr := (0, 0)) (heap_alloc_new w _)
    case c2 => intro u hu; simp at hu; rcases hu with rfl | rfl <;> rfl
    case c3 => unfold maxLen; omega
    case c4 => omega
    case c5 => simp
    intro v' w6 hown6 hgrow6 hnil6 hloc6
    obtain ⟨ad6, cap6, rfl⟩ : ∃ ad6 cap6, v' = Value.slice ad6 (m.marks.length + 1) cap6 := by
      obtain ⟨g, c, e, _⟩ := ownsRow_shape hown6
      exact ⟨g, c, e⟩
    have hg : ∀ b, b < w.heap.size → (Value.slice ad m.marks.length cap).ownBlock ≠ some b → w6.heap[b]? = w.heap[b]? := fun b hb hne => by
      rw [hgrow6.block b (by simp; omega) (Ne.symm hne)]
      exact Below.heap_alloc _ _ _ hb
    have HT : Turns (fun k _ => p.mv.ownBlock = some k) w w6 := ⟨hgrow6.os, hgrow6.tape, hgrow6.output, Nat.le_trans (by simp) hgrow6.size, fun k hk ho => hg k hk (fun e => ho 0 (by rw [HV.out]; exact e)),
      fun k o hk ho => World.cell?_of_block (hg k hk (fun e => ho (by rw [HV.out]; exact e))), fun k o hk ho => World.frozen?_of_block (hg k hk (fun e => ho (by rw [HV.out]; exact e)))⟩
    have HS := hide (H.out.marked (.slice ad6 (m.marks.length + 1) cap6) (m.marks ++ [(t, v)]) (by rw [markCells_append, List.length_append]; exact hown6) HT (fun k e => by
      rcases hloc6 with e2 | e2
      · left; rw [HV.out, ← e2]; exact e
      · right; rw [e2] at e; simp at e; omega))
    have hm6 : w6.cell? ⟨p.b, 639, none⟩ = some (.slice ad m.marks.length cap) := by rw [World.cell?_of_block (hg p.b lb ob)]; exact hm
    have hz6 : w6.frozen? ⟨p.b, 639, none⟩ = false := by rw [World.frozen?_of_block (hg p.b lb ob)]; exact hz
    clear hown6 hgrow6 hnil6 hloc6 hg HT H HV hri hrz hrs hrb hv hm hz ob
    go_wp2
    go_end0
    exact ⟨rfl, _, HS.out⟩
  · rw [if_neg hl]
    have hi : ¬ (m.marks.length : Int) < 500 := by omega
    have HS := hide (MkStep.refl h)
    clear h hl h5 hv hvs
    go_enter Tryz.func87, Tryz.ntmps87
    go_wp2
    go_end0
    exact ⟨rfl, _, HS.out⟩
end Go.Proofs.YtakocdgniplfmaaGreatDoor
