import Derived.Test.YtakocdgniplfmaaGreatDoorJ40
import Derived.Maps.AppendAt
import Derived.Laws.IdiomCopy

/- StE -/
namespace Go.Proofs.YtakocdgniplfmaaGreatDoor
open Go.RowKit Go.Extern.Stop Go.Stop Go.Extern Go.Maps Go.WideMaps Go.Sort

/-- What programsOf answers. -/
def PrPost (a : Nat → Addr) (cs : List (List Ins)) (w : World) (e : Ending) (w' : World) : Prop :=
  Below w.heap.size w w' ∧
  (((codesFrom 0 cs).1 = 0 ∧ ∃ v pl, e = .returned (.tuple #[v, .nilIface]) ∧ PrRel cs w.heap.size v cs.length w' pl) ∨
   ((codesFrom 0 cs).1 ≠ 0 ∧ ∃ v, e = .returned (.tuple #[.slice none 0 0, v]) ∧ errIs a (codesFrom 0 cs) v w' w.heap.size))

set_option maxRecDepth 20000 in
set_option maxHeartbeats 2000000 in
theorem programs_any {a : Nat → Addr} {ad : Option Addr} {cs : List (List Ins)} {cap : Nat} {w : World} (hE : Env a w) (hl : codesAt ad cs w) (h6 : cs.length ≤ 6) (hsz : ∀ (t : Nat) L, cs[t]? = some L → ∀ (i : Nat) x, L[i]? = some x → x.to.size ≤ maxLen) :
    Calls Tryz.prog 37 #[.slice ad cs.length cap] w fun e w' => Hid (PrPost a cs w e w') := by
  have HL := hide hl
  have HS := hide hsz
  have HE := hide hE
  have i6 : (cs.length : Int) ≤ 6 := by omega
  clear hl hsz hE
  go_enter Tryz.func37, Tryz.ntmps37
  go_wp2_with fail
  go_loopw [4, 5, 6, 7, 10] (fun v _ _ _ i wr => ∃ j : Nat, j ≤ cs.length ∧ i = .int .i64 j ∧ Below w.heap.size w wr ∧ Hid (∀ (t : Nat) L, t < j → cs[t]? = some L → (codeFault L).1 = 0) ∧ Hid (∃ pl, PrRel cs w.heap.size v j wr pl)) (fun _ _ _ _ i _ => cs.length - (intOf i).toNat)
  case atStart => exact ⟨0, Nat.zero_le _, rfl, Below.refl _ _, fun t L h => absurd h (Nat.not_lt_zero _), [], rfl, ⟨by simp [prCells], Or.inl ⟨rfl, rfl⟩⟩, fun t L x _ h => by simp at h, fun x h => absurd h List.not_mem_nil, fun x h => absurd h List.not_mem_nil⟩
  case round =>
    obtain ⟨j, hj, rfl, hB, HJ, HP⟩ := hrel
    by_cases hlt : j < cs.length
    · obtain ⟨L, hL⟩ : ∃ L, cs[j]? = some L := ⟨_, List.getElem?_eq_getElem hlt⟩
      obtain ⟨b, off, adl, capl, rfl, c0, hcl, hins, hnil⟩ := (HL.out.below hB) j L hL
      have ji : (j : Int) < cs.length := by omega
      have HC := hide (pcheck_any a adl capl L wr (HE.out.e.below hB) (HS.out j L hL) hins)
      have HI := hide hins
      have HLs := hide hL
      have HN := hide hnil
      clear hins hL hnil
      go_wp2_with fail
      refine HC.out.mono ?_
      rintro e w1 ⟨v1, rfl, hv1, hb1⟩
      have B1 := below_step hB hb1
      clear HC
      by_cases hf : (codeFault L).1 = 0
      · obtain rfl : v1 = .nilIface := by
          rcases hv1 with ⟨-, h⟩ | ⟨h, -⟩ | ⟨h, -⟩
          · exact h
          · exact absurd hf h
          · exact absurd hf h
        clear hv1
        obtain ⟨h2000, -⟩ := codeFault_right hf
        have HJ' : Hid (∀ (t : Nat) L, t < j + 1 → cs[t]? = some L → (codeFault L).1 = 0) := fun t M ht hM => by
          by_cases e : t = j
          · subst e; rw [HLs.out] at hM; cases hM; exact hf
          · exact HJ.out t M (by omega) hM
        have HP1 : Hid (∃ pl, PrRel cs w.heap.size u4 j w1 pl) := by obtain ⟨pl, h⟩ := HP.out; exact ⟨pl, h.below hb1⟩
        have HCl := hide (cloneI_any (cap := capl) (insAt_below HI.out hb1) h2000 HN.out)
        clear hf HJ HP
        obtain ⟨adp, capp, rfl⟩ : ∃ adp capp, u4 = .slice adp j capp := by
          obtain ⟨pl, h⟩ := HP1.out
          obtain ⟨g, c, e, _⟩ := ownsRow_shape h.own
          exact ⟨g, c, e⟩
        go_wp2_with fail
        refine HCl.out.mono ?_
        rintro e w2 ⟨adc, capc, rfl, hc1, hc2, hc3, hc4, hb2⟩
        have B2 := below_step B1 hb2
        have hlb := labels_any adl capl L w2 (by omega) (HS.out j L HLs.out) (insAt_below (insAt_below HI.out hb1) hb2)
        have HLa := hide hlb
        clear hlb HCl HI HN
        go_wp2_with fail
        refine HLa.out.mono ?_
        rintro e w3 ⟨rfl, hmap, hb3⟩
        have B3 := below_step B2 hb3
        have s1 := hb1.size
        have s2 := hb2.size
        have s3 := hb3.size
        have sm := hmap.lt
        obtain ⟨pl, hP⟩ := HP1.out
        have hP3 := (hP.below hb2).below hb3
        have hlt1 : ∀ k, (Value.slice adp j capp).ownBlock = some k → k < w1.heap.size := fun k hk => (hP.own.lt k hk).2
        have HX : Hid (PrOk L ⟨adc, L.length, capc, w2.heap.size⟩ w3) := hide ⟨rfl, hc1, insAt_below hc3 hb3, hmap⟩
        have HXn : Hid (∀ k, (PrX.mk adc L.length capc w2.heap.size).uses k → w1.heap.size ≤ k ∧ k < w3.heap.size) := hide fun k hk => by
          rcases hk with ⟨off', e⟩ | e
          · have := hc4 k off' e; omega
          · subst e; exact ⟨s2, sm⟩
        have HP3 := hide hP3
        have hv := hP3.own
        have HLT := hide hlt1
        obtain ⟨ri, hri, hrz, hrs, hrb⟩ := progInfo
        clear hP hP3 hlt1 hmap hc3 hc4 HLa hb1 hb2 hb3 B1 B2 HP1 hB
        generalize w2.heap.size = lb at *
        go_wp2_with (first
          | (at_builtin; refine wpList_append_own_at _ rfl _ _ 84 rfl w.heap.size 165 ri (.agg #[.slice none 0 0, .map none]) 2 32 Tryz.underlying84 hri hrz hrs hrb rfl (by decide) _ _ _ rfl (hv.alloc _) ⟨w3.heap.size, 0, none⟩ 1 1 [.slice adc L.length capc, .map (some lb)] rfl rfl ?c1 ?c2 ?c3 ?c4 ?c5 ?_))
        case c1 => exact World.news_of_block (cs := #[.slice adc L.length capc, .map (some lb)]) (t := 165) (fr := (0, 0)) (heap_alloc_new w3 _)
        case c2 => intro u hu; simp at hu; rcases hu with rfl | rfl <;> rfl
        case c3 => unfold maxLen; omega
        case c4 => omega
        case c5 => have := B3.size; simp; omega
        intro v' w6 hown6 hgrow6 hnil6 hloc6
        have hg : ∀ b, b < w3.heap.size → (Value.slice adp j capp).ownBlock ≠ some b → w6.heap[b]? = w3.heap[b]? := fun b hb hne => by
          rw [hgrow6.block b (by simp; omega) (Ne.symm hne)]
          exact Below.heap_alloc _ _ _ hb
        have HR := hide (HP3.out.snoc HLs.out HX.out (fun k hk => (HXn.out k hk).2) (fun k hk e => by have h1 := HXn.out k hk; have h2 := HLT.out k e; omega) hown6 (Nat.le_trans (by simp) hgrow6.size) hg (fun k e => by
          rcases hloc6 with e2 | e2
          · left; rw [← e2]; exact e
          · right; rw [e2] at e; simp at e; omega))
        have HB6 : Hid (Below w.heap.size w w6) := hide ((B3.alloc B3.size _).grown hgrow6 (by have := B3.size; simp; omega) (fun k hk => (hv.lt k hk).1))
        clear hown6 hgrow6 hnil6 hloc6 hg HP3 HX HXn HLT hv hri hrz hrs hrb B3
        go_wp2
        go_roundw
        case rel => exact ⟨j + 1, by omega, by go_num, HB6.out, HJ', _, HR.out⟩
        case measure => simp [intOf]; omega
      · have hcf := codesFrom_hit cs 0 j L HLs.out hf (fun t M ht hM => HJ.out t M ht hM)
        rw [Nat.zero_add] at hcf
        have HB2 := hide (bare_any (HE.out.below B1.block) hf hv1)
        have HQ : Hid (∀ e w', Below w.heap.size w w' → (∃ v, e = .returned (.tuple #[.slice none 0 0, v]) ∧ errIs a ((codeFault L).1, (j : Int)) v w' w.heap.size) → PrPost a cs w e w') := hide fun e w' h1 ⟨v, h2, h3⟩ => ⟨h1, Or.inr ⟨by rw [hcf]; exact hf, v, h2, by rw [hcf]; exact h3⟩⟩
        have HF := hide hf
        rcases hv1 with ⟨h, -⟩ | ⟨-, -, rfl⟩ | ⟨-, j2, N, -, -, rfl, -, -⟩
        · exact absurd h hf
        · obtain ⟨k, hk⟩ : ∃ k, (codeFault L).1 = k + 1 := ⟨(codeFault L).1 - 1, by omega⟩
          rw [hk] at HB2 HQ ⊢
          clear hcf hf HJ HP HI HLs HN HF hk
          rw [show xval a (k + 1) = xerr (a k) from rfl] at HB2 ⊢
          go_wp2_with fail
          refine HB2.out.mono ?_
          rintro e w2 ⟨rfl, hb2⟩
          have B2 := below_step B1 hb2
          go_wp2
          refine bodyPost_ret (v := .tuple #[.slice none 0 0, .iface 157 (.pointer (some ⟨w2.heap.size, 0, none⟩))]) (by simp only [results, Tryz.results37]; go_simp) rfl ?_
          exact HQ.out _ _ (B2.alloc B2.size _) ⟨_, rfl, .inr (.inr ⟨Nat.succ_ne_zero _, j, w2.heap.size, rfl, B2.size, rfl, by simp, by simp; rfl⟩)⟩
        · obtain ⟨k, hk⟩ : ∃ k, (codeFault L).1 = k + 1 := ⟨(codeFault L).1 - 1, by omega⟩
          rw [hk] at HB2 HQ
          clear hcf hf HJ HP HI HLs HN HF hk
          rw [show xval a (k + 1) = xerr (a k) from rfl] at HB2
          go_wp2_with fail
          refine HB2.out.mono ?_
          rintro e w2 ⟨rfl, hb2⟩
          have B2 := below_step B1 hb2
          go_wp2
          refine bodyPost_ret (v := .tuple #[.slice none 0 0, .iface 157 (.pointer (some ⟨w2.heap.size, 0, none⟩))]) (by simp only [results, Tryz.results37]; go_simp) rfl ?_
          exact HQ.out _ _ (B2.alloc B2.size _) ⟨_, rfl, .inr (.inr ⟨Nat.succ_ne_zero _, j, w2.heap.size, rfl, B2.size, rfl, by simp, by simp; rfl⟩)⟩
    · obtain rfl : j = cs.length := by omega
      have HQ : Hid (∀ v, (∃ pl, PrRel cs w.heap.size v cs.length wr pl) → PrPost a cs w (.returned (.tuple #[v, .nilIface])) wr) := hide fun v ⟨pl, h⟩ => ⟨hB, Or.inl ⟨by rw [codesFrom_none cs 0 (fun t L ht => HJ.out t L (List.getElem?_eq_some_iff.1 ht).1 ht)], v, pl, rfl, h⟩⟩
      clear HJ
      go_wp2
      refine bodyPost_ret (v := .tuple #[u4, .nilIface]) (by simp only [results, Tryz.results37]; go_simp) rfl ?_
      exact HQ.out _ HP.out
end Go.Proofs.YtakocdgniplfmaaGreatDoor

/- StF -/
namespace Go.Proofs.YtakocdgniplfmaaGreatDoor
open Go.RowKit Go.Extern.Stop Go.Stop Go.Extern Go.Maps Go.WideMaps Go.Sort

theorem rowAt_take {R : List (List Int)} {t : Nat} {row : List Int} (h : R[t]? = some row) (u k : Nat) : rowAt (R.take (t + 1)) u k = if u = t then row.getD k 0 else rowAt (R.take t) u k := by
  have ht := (List.getElem?_eq_some_iff.1 h).1
  unfold rowAt
  by_cases e : u = t
  · rw [if_pos e, e]
    congr 1
    rw [List.getD_eq_getElem?_getD, List.getElem?_take, if_pos (by omega), h]; rfl
  · rw [if_neg e]
    congr 1
    rw [List.getD_eq_getElem?_getD, List.getD_eq_getElem?_getD, List.getElem?_take, List.getElem?_take]
    by_cases e2 : u < t
    · rw [if_pos (by omega), if_pos e2]
    · rw [if_neg (by omega), if_neg e2]
theorem rowAt_out {R : List (List Int)} {t u : Nat} (h : t ≤ u) (k : Nat) : rowAt (R.take t) u k = 0 := by
  unfold rowAt
  have : (R.take t).getD u [] = [] := by rw [List.getD_eq_getElem?_getD, List.getElem?_take, if_neg (by omega)]; rfl
  rw [this]; rfl

/-- A machine under way: i cells laid, t threads' registers. -/
def Sta.at1 (s : Sta) (n i t : Nat) : Mk where
  mem := { Rm.fresh s.cells.toNat n with ar := (Rm.fresh s.cells.toNat n).ar.filled (s.init.take i) }
  regs := rowAt (s.regs.take t)
  pc _ := 0
  marks := []
  faults := 0
theorem Sta.at1_end (s : Sta) (n : Nat) : s.at1 n s.init.length s.regs.length = s.mach n := by
  unfold Sta.at1 Sta.mach
  rw [List.take_length, List.take_length]
theorem Ar.filled_nil (s : Ar) : s.filled [] = s := by
  unfold Ar.filled
  simp

def Mk.setRegs (m : Mk) (t r : Nat) : List Int → Mk
  | [] => m
  | v :: l => (m.setReg t r v).setRegs t (r + 1) l
theorem Mk.setRegs_regs : ∀ (l : List Int) (m : Mk) (t r u k : Nat), (m.setRegs t r l).regs u k = if u = t ∧ r ≤ k ∧ k < r + l.length then l.getD (k - r) 0 else m.regs u k
  | [], m, t, r, u, k => by rw [if_neg (by simp)]; rfl
  | v :: l, m, t, r, u, k => by
    show ((m.setReg t r v).setRegs t (r + 1) l).regs u k = _
    rw [Mk.setRegs_regs l]
    simp only [Mk.setReg, List.length_cons]
    by_cases h1 : u = t ∧ r + 1 ≤ k ∧ k < r + 1 + l.length
    · rw [if_pos h1, if_pos (by omega)]
      rw [show k - r = (k - (r + 1)) + 1 by omega]; rfl
    · rw [if_neg h1]
      by_cases h2 : u = t ∧ k = r
      · rw [if_pos h2, if_pos (by omega), h2.2, Nat.sub_self]; rfl
      · rw [if_neg h2, if_neg (by omega)]
theorem Mk.setRegs_other : ∀ (l : List Int) (m : Mk) (t r : Nat), (m.setRegs t r l).mem = m.mem ∧ (m.setRegs t r l).pc = m.pc ∧ (m.setRegs t r l).marks = m.marks ∧ (m.setRegs t r l).faults = m.faults
  | [], _, _, _ => ⟨rfl, rfl, rfl, rfl⟩
  | v :: l, m, t, r => Mk.setRegs_other l (m.setReg t r v) t (r + 1)
theorem Mk.ext' {m m' : Mk} (h1 : m.mem = m'.mem) (h2 : m.regs = m'.regs) (h3 : m.pc = m'.pc) (h4 : m.marks = m'.marks) (h5 : m.faults = m'.faults) : m = m' := by
  cases m; cases m'; simp only at h1 h2 h3 h4 h5; rw [h1, h2, h3, h4, h5]
theorem Sta.at1_regs {s : Sta} {n i t : Nat} {row : List Int} (h : s.regs[t]? = some row) : (s.at1 n i t).setRegs t 0 row = s.at1 n i (t + 1) := by
  obtain ⟨h1, h2, h3, h4⟩ := Mk.setRegs_other row (s.at1 n i t) t 0
  refine Mk.ext' h1 ?_ h2 h3 h4
  funext u k
  rw [Mk.setRegs_regs]
  show _ = rowAt (s.regs.take (t + 1)) u k
  rw [rowAt_take h]
  show (if _ then _ else rowAt (s.regs.take t) u k) = _
  by_cases e : u = t
  · rw [if_pos e]
    by_cases e2 : k < row.length
    · rw [if_pos (by omega), Nat.sub_zero]
    · rw [if_neg (by omega), e, rowAt_out (Nat.le_refl _), List.getD_eq_getElem?_getD, List.getElem?_eq_none (by omega)]; rfl
  · rw [if_neg (fun h => e h.1), if_neg e]

/-- One cell given, and j of its words laid. -/
def Mk.rowPart (m : Mk) (i : Nat) (row : List Int) (j : Nat) : Mk :=
  m.setMem { m.mem.give i with ar := { (m.mem.give i).ar with words := fun c k => if c = i ∧ k < j then row.getD k 0 else (m.mem.give i).ar.words c k } }
theorem Mk.rowPart_zero (m : Mk) (i : Nat) (row : List Int) : m.rowPart i row 0 = m.setMem (m.mem.give i) := by
  unfold Mk.rowPart
  have : (fun c k => if c = i ∧ k < 0 then row.getD k 0 else (m.mem.give i).ar.words c k) = (m.mem.give i).ar.words := by
    funext c k; rw [if_neg (by omega)]
  rw [this]
theorem Mk.rowPart_succ (m : Mk) (i : Nat) (row : List Int) (j : Nat) {v : Int} (hv : row[j]? = some v) : (m.rowPart i row j).setMem ((m.rowPart i row j).mem.setWord i j v) = m.rowPart i row (j + 1) := by
  unfold Mk.rowPart Mk.setMem Rm.setWord Ar.setWord
  simp only
  congr 3
  funext c k
  by_cases h1 : c = i ∧ k = j
  · rw [if_pos h1, if_pos (by omega), h1.2, List.getD_eq_getElem?_getD, hv]; rfl
  · rw [if_neg h1]
    by_cases h2 : c = i ∧ k < j
    · rw [if_pos h2, if_pos (by omega)]
    · rw [if_neg h2, if_neg (by omega)]
theorem Sta.at1_row {s : Sta} {n i t : Nat} {row : List Int} (h : s.init[i]? = some row) (h4 : row.length ≤ 4) : (s.at1 n i t).rowPart i row row.length = s.at1 n (i + 1) t := by
  have hi := (List.getElem?_eq_some_iff.1 h).1
  have hl : (s.init.take i).length = i := by rw [List.length_take]; omega
  have hl2 : (s.init.take (i + 1)).length = i + 1 := by rw [List.length_take]; omega
  refine Mk.ext' ?_ rfl rfl rfl rfl
  show Rm.mk _ _ _ = Rm.mk _ _ _
  congr 1
  show Ar.mk _ _ _ _ = Ar.mk _ _ _ _
  congr 1
  · funext c k
    show (if _ then _ else if c = i ∧ k < 4 then 0 else if c < (s.init.take i).length ∧ k < 4 then rowAt (s.init.take i) c k else _) = (if c < (s.init.take (i + 1)).length ∧ k < 4 then rowAt (s.init.take (i + 1)) c k else _)
    rw [hl, hl2, rowAt_take h]
    by_cases e : c = i
    · by_cases e2 : k < row.length
      · rw [if_pos ⟨e, e2⟩, if_pos (by omega), if_pos e]
      · rw [if_neg (by omega)]
        by_cases e3 : k < 4
        · rw [if_pos ⟨e, e3⟩, if_pos (by omega), if_pos e, List.getD_eq_getElem?_getD, List.getElem?_eq_none (by omega)]; rfl
        · rw [if_neg (by omega), if_neg (by omega), if_neg (by omega)]
    · rw [if_neg (by omega), if_neg (by omega), if_neg e]
      by_cases e2 : c < i ∧ k < 4
      · rw [if_pos e2, if_pos (by omega)]
      · rw [if_neg e2, if_neg (by omega)]
  · funext c
    show (if c = i then true else if c < (s.init.take i).length then true else _) = (if c < (s.init.take (i + 1)).length then true else _)
    rw [hl, hl2]
    by_cases e : c = i
    · rw [if_pos e, if_pos (by omega)]
    · rw [if_neg e]
      by_cases e2 : c < i
      · rw [if_pos e2, if_pos (by omega)]
      · rw [if_neg e2, if_neg (by omega)]
  · funext c
    show (if c = i then (if i < (s.init.take i).length then 1 else _) + 1 else if c < (s.init.take i).length then 1 else _) = (if c < (s.init.take (i + 1)).length then 1 else _)
    rw [hl, hl2]
    by_cases e : c = i
    · rw [if_pos e, if_neg (by omega), if_pos (by omega)]; rfl
    · rw [if_neg e]
      by_cases e2 : c < i
      · rw [if_pos e2, if_pos (by omega)]
      · rw [if_neg e2, if_neg (by omega)]
theorem freeFrom_hit {there : Nat → Bool} : ∀ (n j i : Nat), j ≤ i → i < j + n → there i = false → (∀ k, j ≤ k → k < i → there k = true) → freeFrom there j n = some i
  | 0, j, i, h1, h2, _, _ => by omega
  | n + 1, j, i, h1, h2, h3, h4 => by
    unfold freeFrom
    by_cases e : j = i
    · rw [e, h3, if_neg (by decide)]
    · rw [h4 j (Nat.le_refl _) (by omega), if_pos rfl]
      exact freeFrom_hit n (j + 1) i (by omega) (by omega) h3 (fun k h5 h6 => h4 k (by omega) h6)
theorem Sta.at1_free {s : Sta} {n i t : Nat} (hi : i < s.init.length) (hc : (s.init.length : Int) ≤ s.cells) : (s.at1 n i t).mem.ar.free? = some i := by
  have hl : (s.init.take i).length = i := by rw [List.length_take]; omega
  refine freeFrom_hit _ 0 i (Nat.zero_le _) (by show i < 0 + s.cells.toNat; omega) ?_ (fun k _ hk => ?_)
  · show (if i < (s.init.take i).length then true else false) = false
    rw [hl, if_neg (by omega)]
  · show (if k < (s.init.take i).length then true else false) = true
    rw [hl, if_pos hk]
theorem Sta.at1_given {s : Sta} {n i t : Nat} (hi : i < s.init.length) : (s.at1 n i t).mem.ar.given i = 0 := by
  have hl : (s.init.take i).length = i := by rw [List.length_take]; omega
  show (if i < (s.init.take i).length then 1 else 0) = 0
  rw [hl, if_neg (by omega)]

/-- 'copy' of a row of one-cell elements into a block. -/
theorem wpList_copy_cells {P : Program} {ops : Array Oper} {rest : List Oper} {o : Oper} {a : Act} {w : World} {Q : Exit → Act → World → Prop} (hgd : o.guard = none) (s x : Operand) (t elem : TypeId)
    (ho : o.op = .call { callee := .builtin .copy, args := #[s, x], argTypes := #[t, t] })
    (b off dLen dCap : Nat) (ad : Addr) (sLen sCap : Nat) (cs : List Value) (hs : a.eval s = .slice (some ⟨b, off, none⟩) dLen dCap) (hx : a.eval x = .slice (some ad) sLen sCap)
    (hu : P.underlying t = some (.slice elem)) (hz : (P.info? elem).map (·.size) = some 1) (hn : cs.length = Nat.min sLen dLen)
    (hsrc : ∀ j v, cs[j]? = some v → w.cell? (ad.add j) = some v) (hc : ∀ j, j < cs.length → (w.cell? ⟨b, off + j, none⟩).isSome = true) (hf : ∀ j, j < cs.length → w.frozen? ⟨b, off + j, none⟩ = false) (h1 : ∀ v ∈ cs, v.oneCell' = true)
    (h : wpList P ops Q rest (a.put o.dst (goInt cs.length)) (w.setCells b off cs)) : wpList P ops Q (o :: rest) a w := by
  refine wpList_plain hgd fun K hK => ?_
  have hr := run_copy_cells (P := P) w t t o.type elem b off dLen dCap ad sLen sCap cs hu hz hn hsrc hc hf h1
  unfold Oper.wp execOp
  simp only [ho, resolve, invoke, builtin, Sem.run_bind, Sem.run_pure, Result.andThen_ok, List.map_toArray, List.map_cons, List.map_nil, hs, hx, hr]
  exact hK _ _ h
/-- Nothing to copy. -/
theorem wpList_copy_none {P : Program} {ops : Array Oper} {rest : List Oper} {o : Oper} {a : Act} {w : World} {Q : Exit → Act → World → Prop} (hgd : o.guard = none) (s x : Operand) (t elem : TypeId)
    (ho : o.op = .call { callee := .builtin .copy, args := #[s, x], argTypes := #[t, t] })
    (d : Option Addr) (dLen dCap : Nat) (ad : Option Addr) (sCap : Nat) (hs : a.eval s = .slice d dLen dCap) (hx : a.eval x = .slice ad 0 sCap)
    (hu : P.underlying t = some (.slice elem)) (hz : (P.info? elem).map (·.size) = some 1)
    (h : wpList P ops Q rest (a.put o.dst (goInt 0)) w) : wpList P ops Q (o :: rest) a w := by
  refine wpList_plain hgd fun K hK => ?_
  have hr := run_copy_none (P := P) w t t o.type elem d ad dLen dCap 0 sCap hu hz (by simp)
  unfold Oper.wp execOp
  simp only [ho, resolve, invoke, builtin, Sem.run_bind, Sem.run_pure, Result.andThen_ok, List.map_toArray, List.map_cons, List.map_nil, hs, hx, hr]
  exact hK _ _ h

theorem MkAt.setRegs {a : Nat → Addr} {cs : List (List Ins)} {p : MkPl} {t : Nat} (ht : t < 6) : ∀ (l : List Int) {m : Mk} {w : World} (r : Nat), r + l.length ≤ 8 → MkAt a cs p m w → MkStep a cs p w p.mv (m.setRegs t r l) (w.setCells p.b (585 + t * 9 + r) (l.map (Value.int .i64)))
  | [], m, w, r, _, h => MkStep.refl h
  | v :: l, m, w, r, hr, h => by
    have k1 := h.setReg ht (r := r) (by simp at hr; omega) v
    have k2 := MkAt.setRegs ht l (r + 1) (by simp at hr; omega) k1.at'
    exact k1.trans k2
end Go.Proofs.YtakocdgniplfmaaGreatDoor
