import Derived.Test.YtgmokighfgdnjaaGreatDoorC24
import Derived.Test.YtgmokighfgdnjaaGreatDoorC19

/- GcQ -/
namespace Go.Proofs.YtgmokighfgdnjaaGreatDoor
open Go.RowKit

theorem gExec_pc (m : Mk) (t : Nat) (i : GI) : (gExec m t i).pc = m.pc := by
  cases i with
  | load r a k => show (m.load _ _ _ _).pc = _; unfold Mk.load; split <;> rfl
  | store a r k =>
    show (m.store _ _ _ _).pc = _
    unfold Mk.store
    split
    · exact (room_regs m t).2
    · rfl
  | swap r a k => show (m.swap _ _ _ _ _).pc = _; unfold Mk.swap; split <;> rfl
  | cas a r k => show (m.cas _ _ _ _ _ _).pc = _; unfold Mk.cas; split <;> rfl
  | force => exact (fenceFrom_regs _ m 0).2
  | alloc r => show (m.alloc _ _).pc = _; unfold Mk.alloc; split <;> rfl
  | free r => show (m.free _ _).pc = _; unfold Mk.free; split <;> rfl
  | need r => show (m.need _).pc = _; unfold Mk.need; split <;> rfl
  | _ => rfl
theorem tg_ok {f : Nat} (hf : 1 ≤ f ∧ f ≤ 4) (tg : Tg) : gOk (tgCode f tg) = true := by
  have hf4 : f = 1 ∨ f = 2 ∨ f = 3 ∨ f = 4 := by omega
  rcases hf4 with rfl | rfl | rfl | rfl <;> cases tg <;> rfl
theorem gAt_lt {s : List GI} {l : Nat} (h : (gLab l s 0).isSome = true) : gAt l s < s.length := by
  obtain ⟨j, hj⟩ := Option.isSome_iff_exists.1 h
  unfold gAt
  rw [hj]
  have := (gLab_at hj).2.1
  rw [Nat.sub_zero] at this
  exact (List.getElem?_eq_some_iff.1 this).1
theorem gNext_le {s : List GI} {q : Nat} {i : GI} (r : Nat → Int) (hs : gOk s = true) (hq : s[q]? = some i) : gNext s q r i ≤ s.length := by
  have hlt := (List.getElem?_eq_some_iff.1 hq).1
  have hi := List.all_eq_true.1 hs i (List.mem_of_getElem? hq)
  cases i with
  | zero a l =>
    simp only [Bool.and_eq_true] at hi
    have := gAt_lt hi.2
    show (if r a = 0 then gAt l s else q + 1) ≤ _
    split <;> omega
  | same a b l =>
    simp only [Bool.and_eq_true] at hi
    have := gAt_lt hi.2
    show (if r a = r b then gAt l s else q + 1) ≤ _
    split <;> omega
  | goto l =>
    simp only [Bool.and_eq_true] at hi
    exact Nat.le_of_lt (gAt_lt hi.2)
  | _ => exact hlt

def Good (f n : Nat) (pr : Nat → List (Tg × ByteArray)) (m : Mk) : Prop := ∃ G, PD f n G m ∧ ∀ t, t < n → Loc f (cd f (pr t)) (m.pc t) (G.pt t)

section
variable {f n : Nat} {pr : Nat → List (Tg × ByteArray)} {m : Mk} {t : Nat}
theorem Good.step (h : Good f n pr m) (hwd : ∀ c k, Wd (m.mem.ar.words c k)) (ht : t < n) (hd : doneAt (cd f (pr t)) (m.pc t) = false) : Good f n pr (m.step (cd f (pr t)) t) := by
  obtain ⟨G, hP, hL⟩ := h
  have hl := hL t ht
  cases hg : G.pt t with
  | none =>
    rw [hg] at hl
    have hl : m.pc t = (cd f (pr t)).length := hl
    unfold doneAt at hd
    rw [hl, List.getElem?_eq_none (Nat.le_refl _)] at hd
    cases hd
  | some p =>
    obtain ⟨tg, q, d⟩ := p
    rw [hg] at hl
    obtain ⟨A, P, B, k, d', k', hLe, hpc, hq, hA, hk, h100, hdisc, hap⟩ := hl
    obtain ⟨i, hi⟩ : ∃ i, (tgCode f tg)[q]? = some i := ⟨_, List.getElem?_eq_getElem hq⟩
    have hok := tg_ok hP.1.fl tg
    obtain ⟨-, hst⟩ := gstep hLe hpc hi hA hok
    rw [hst]
    generalize hm1 : m.setPc t (A.length + gNext (tgCode f tg) q (m.regs t) i) = m1
    have hP1 : PD f n G m1 := hP.congr ht (by rw [← hm1]; rfl) (by rw [← hm1]; rfl) (by rw [← hm1]; rfl)
    have hr1 : m1.regs t = m.regs t := by rw [← hm1]; rfl
    have hpc1 : ∀ u, m1.pc u = if u = t then A.length + gNext (tgCode f tg) q (m.regs t) i else m.pc u := fun u => by rw [← hm1]; rfl
    obtain ⟨G', hG', hpt, hot⟩ := own_all hP1 (by rw [← hm1]; exact hwd) ht h100 hg hi
    rw [hr1] at hpt
    have hq' := gNext_le (m.regs t) hok hi
    have hpcs : ∀ u, (gExec m1 t i).pc u = if u = t then A.length + gNext (tgCode f tg) q (m.regs t) i else m.pc u := fun u => by rw [gExec_pc]; exact hpc1 u
    generalize gNext (tgCode f tg) q (m.regs t) i = q' at *
    generalize gExec m1 t i = m2 at *
    by_cases hlt : q' < (tgCode f tg).length
    · refine ⟨G', hG', fun u hu => ?_⟩
      by_cases e : u = t
      · subst e
        rw [hpt, hpcs u, if_pos rfl]
        exact ⟨A, P, B, k, d', k', hLe, rfl, hlt, hA, hk, h100, hdisc, hap⟩
      · rw [hot u e, hpcs u, if_neg e]; exact hL u hu
    · have e : q' = (tgCode f tg).length := by omega
      subst e
      have hne : tgCode f tg ≠ [] := fun e => by rw [e] at hq; exact absurd hq (Nat.not_lt_zero _)
      have hb := hG'.behind ht hpt hne hk
      obtain ⟨g, hg1, hg2⟩ := hG'.hops ht (L := cd f (pr t)) B (A ++ gCode P (tgCode f tg)) d' k' hb hdisc hap (by rw [List.append_assoc]; exact hLe)
      refine ⟨_, hg1, fun u hu => ?_⟩
      by_cases e : u = t
      · subst e
        rw [Gh.at_self, hpcs u, if_pos rfl]
        have e2 : (A ++ gCode P (tgCode f tg)).length = A.length + (tgCode f tg).length := by rw [List.length_append]; unfold gCode; rw [List.length_map]
        rw [← e2]; exact hg2
      · rw [Gh.at_ne _ _ e, hot u e, hpcs u, if_neg e]; exact hL u hu
theorem Good.drain1 (h : Good f n pr m) (ht : t < n) : Good f n pr (m.drain1 t) := by
  obtain ⟨G, hP, hL⟩ := h
  exact ⟨G, hP.drain1 ht, fun u hu => by rw [(drain1_regs m t).2]; exact hL u hu⟩
theorem Good.turnO {cs : List (List Ins)} {K : Nat} (h : Good f n pr m) (ok : MkOk cs.length K m) (hn : cs.length = n) (hcs : ∀ t, t < n → cs[t]? = some (cd f (pr t))) (k : Int) : Good f n pr (m.turnO cs k).2 := by
  unfold Mk.turnO
  split
  · generalize k % (2 * (cs.length : Int)) = x
    unfold Mk.stepO
    split
    · rename_i hx
      have ht : x.toNat < n := by omega
      have e : cs.getD x.toNat [] = cd f (pr x.toNat) := by rw [List.getD_eq_getElem?_getD, hcs _ ht]; rfl
      rw [e]
      split
      · exact h
      · rename_i hd
        exact h.step ok.mem.words ht (by simpa using hd)
    · exact h
  · generalize k % (2 * (cs.length : Int)) - cs.length = x
    unfold Mk.drainO
    split
    · rename_i hx
      have ht : x.toNat < n := by omega
      split
      · exact h
      · exact h.drain1 ht
    · exact h
theorem Good.runO {cs : List (List Ins)} (hR : Right cs) (hn : cs.length = n) (hcs : ∀ t, t < n → cs[t]? = some (cd f (pr t))) : ∀ (l : List Int) {K : Nat} {m : Mk}, Good f n pr m → MkOk cs.length K m → K + l.length ≤ 60000000 → Good f n pr (m.runO cs l).2
  | [], _, _, h, _, _ => h
  | k :: l, K, m, h, ok, hK => by
    rw [List.length_cons] at hK
    exact Good.runO hR hn hcs l (h.turnO ok hn hcs k) (ok.turnO hR k (by omega)) (by omega)
theorem Good.faults (h : Good f n pr m) : m.faults = 0 := by
  obtain ⟨G, hP, -⟩ := h
  exact hP.2.ok
end

theorem noLab_nil (p : ByteArray) : noLab p [] := fun _ h => absurd h List.not_mem_nil
end Go.Proofs.YtgmokighfgdnjaaGreatDoor

/- GcR -/
namespace Go.Proofs.YtgmokighfgdnjaaGreatDoor
open Go.RowKit

structure Cs where
  w : Bool
  tm : Nat
  rd : Nat
  ns : Bool
def Cs.dp (c : Cs) : Nat := if c.ns = true then 3 else 1
def pq (a : Nat) : ByteArray := ⟨#[113, UInt8.ofNat (48 + a / 10), UInt8.ofNat (48 + a % 10)]⟩
def sect (dp rd a : Nat) : List (Tg × Nat) := (List.range dp).map (fun k => (Tg.enter, a + k + 1)) ++ ([(.get, 0)] ++ (List.replicate rd (.read, 0) ++ ((List.range dp).map (fun k => (Tg.leave, a + dp + k + 1)) ++ [(.rest, a + 2 * dp + 1)])))
def rdTo (dp rd i : Nat) : List (Tg × Nat) := (List.range i).flatMap fun j => sect dp rd (j * (2 * dp + 1))
def wrOne (wt : Bool) (j : Nat) : List (Tg × Nat) := if wt = true then [(.new ((j : Int) + 2), 0), (.pub, 0), (.wait, j + 1), (.free, 0)] else [(.new ((j : Int) + 2), 0), (.pub, 0), (.free, 0)]
def wrTo (wt : Bool) (i : Nat) : List (Tg × Nat) := (List.range i).flatMap fun j => wrOne wt j
def Cs.segs (c : Cs) (wt : Bool) : List (Tg × Nat) := if c.w = true then wrTo wt c.tm ++ [(.gone, if wt = true then c.tm + 1 else 1)] else rdTo c.dp c.rd c.tm ++ [(.gone, c.tm * (2 * c.dp + 1) + 1)]
def nm (l : List (Tg × Nat)) : List (Tg × ByteArray) := l.map fun x => (x.1, pq x.2)
def Cs.code (f : Nat) (wt : Bool) (c : Cs) : List Ins := cd f (nm (c.segs wt))

def Cs.ok (c : Cs) : Prop := c.tm ≤ 3 ∧ c.rd ≤ 5
end Go.Proofs.YtgmokighfgdnjaaGreatDoor

/- GfD -/
namespace Go.Proofs.YtgmokighfgdnjaaGreatDoor
open Go.RowKit

def giOk : GI → Bool
  | .load r a k => decide (r < 8) && (decide (a < 8) && decide (k < 4))
  | .const r v => decide (r < 8) && decide (0 ≤ v ∧ v < 1000)
  | .move r a => decide (r < 8) && decide (a < 8)
  | .add r a b => decide (r < 8) && (decide (a < 8) && decide (b < 8))
  | .sub r a b => decide (r < 8) && (decide (a < 8) && decide (b < 8))
  | .store a r k => decide (a < 8) && (decide (r < 8) && decide (k < 4))
  | .swap r a k => decide (r < 8) && (decide (a < 8) && decide (k < 4))
  | .cas a r k => decide (a < 8) && (decide (r < 7) && decide (k < 4))
  | .fence => true
  | .force => true
  | .zero r _ => decide (r < 8)
  | .same r a _ => decide (r < 8) && decide (a < 8)
  | .goto _ => true
  | .label _ => true
  | _ => false
def onceB (s : List GI) : Bool := (List.range s.length).all fun q => match s[q]? with
  | some (.label k) => gLab k s 0 == some q
  | _ => true
def wrB : GI → Bool
  | .load r _ _ => decide (r < 3)
  | .const r _ => decide (r < 3)
  | .move r _ => decide (r < 3)
  | .add r _ _ => decide (r < 3)
  | .sub r _ _ => decide (r < 3)
  | .swap r _ _ => decide (r < 3)
  | .cas _ r _ => decide (r < 3)
  | _ => true
def kTg' (k : Nat) : Tg := if k = 0 then .enter else if k = 1 then .leave else if k = 2 then .rest else if k = 3 then .gone else .wait
def piecesB (s : List GI) : Bool := gOk s && (s.all giOk && (onceB s && (s.all wrB && decide (s.length ≤ 70))))
theorem pieces_all : ∀ (f : Fin 5) (k : Fin 5), piecesB (tgCode f.val (kTg' k.val)) = true := by decide +kernel
theorem lb_name {p : ByteArray} (hn : isName p) (hs : p.size ≤ 4) {k : Nat} (hk : k ≤ 9) : isName (lb p k) := by
  obtain ⟨h1, h2, h3⟩ := hn
  have he : (lb p k).size = p.size + 1 := by unfold lb; rw [ByteArray.size_append]; rfl
  refine ⟨by omega, by omega, fun j hj => ?_⟩
  by_cases hlt : j < p.size
  · have e : (lb p k)[j] = p[j] := by unfold lb; exact ByteArray.getElem_append_left hlt
    rw [e]
    exact h3 j hlt
  · have : j = p.size := by omega
    subst this
    have e : ∀ (u : ByteArray) (h : p.size < u.size), u = p ++ (⟨#[UInt8.ofNat (48 + k)]⟩ : ByteArray) → u[p.size] = UInt8.ofNat (48 + k) := fun u h hu => by
      subst hu
      rw [ByteArray.getElem_append_right (Nat.le_refl _)]
      simp only [Nat.sub_self]
      rfl
    rw [e _ hj rfl]
    have hd : ∀ k : Fin 10, ∀ j : Fin 5, 1 ≤ j.val → nameOk j.val (UInt8.ofNat (48 + k.val)).toNat = true := by decide +kernel
    exact hd ⟨k, by omega⟩ ⟨p.size, by omega⟩ h1
theorem labB_of {L : List Ins} {to : ByteArray} {j : Nat} (h : labelAt L to = (j : Int)) : labelAtB L (bl to) = some j := by
  rw [labelAt_B] at h
  cases hb : labelAtB L (bl to) with
  | none => rw [hb] at h; simp only at h; omega
  | some k =>
    rw [hb] at h
    have : (k : Int) = j := h
    congr 1
    omega
section
variable {p : ByteArray} {s : List GI}
theorem piece_lab (hs : gOk s = true) {l j : Nat} (hl : l ≤ 9) (h : gLab l s 0 = some j) : labelAtB (gCode p s) (bl (lb p l)) = some j := by
  refine labB_of ?_
  have := gLab_labelAt (p := p) (A := []) (B := []) (noLab_nil p) hs hl h
  rw [List.append_nil] at this
  simpa using this
theorem piece_fault (hn : isName p) (hp : p.size ≤ 4) (hs : piecesB s = true) : codeFault (gCode p s) = (0, -1) := by
  unfold piecesB at hs
  simp only [Bool.and_eq_true, decide_eq_true_eq] at hs
  obtain ⟨h1, h2, h3, -, h5⟩ := hs
  have hl : (gCode p s).length = s.length := by unfold gCode; rw [List.length_map]
  unfold codeFault
  rw [if_neg (by rw [hl]; omega)]
  refine faultFrom_good _ 0 fun q x hx => ?_
  rw [Nat.zero_add]
  unfold gCode at hx
  rw [List.getElem?_map] at hx
  cases hq : s[q]? with
  | none => rw [hq] at hx; cases hx
  | some i =>
    rw [hq] at hx
    cases hx
    have k1 := List.all_eq_true.1 h1 i (List.mem_of_getElem? hq)
    have k2 := List.all_eq_true.1 h2 i (List.mem_of_getElem? hq)
    have hqs : q < s.length := (List.getElem?_eq_some_iff.1 hq).1
    have k3 := List.all_eq_true.1 h3 q (List.mem_range.2 hqs)
    rw [hq] at k3
    have jump : ∀ l, l ≤ 9 → (gLab l s 0).isSome = true → ∃ j, labelAtB (gCode p s) (bl (lb p l)) = some j := fun l hl hS => by
      obtain ⟨j, hj⟩ := Option.isSome_iff_exists.1 hS
      exact ⟨j, piece_lab h1 hl hj⟩
    cases i with
    | load r a k =>
      simp only [giOk, Bool.and_eq_true, decide_eq_true_eq] at k2
      refine good_ins (S := [114, 114, 119]) rfl (shape_nums rfl rfl fun k' hk => ?_) (fun e => Bool.noConfusion (show false = true from e)) (.inl rfl)
      match k', hk with
      | 0, _ => exact decide_eq_true ⟨(show (0 : Int) ≤ r by omega), (show (r : Int) < 8 by omega)⟩
      | 1, _ => exact decide_eq_true ⟨(show (0 : Int) ≤ a by omega), (show (a : Int) < 8 by omega)⟩
      | 2, _ => exact decide_eq_true ⟨(show (0 : Int) ≤ k by omega), (show (k : Int) < 4 by omega)⟩
    | const r v =>
      simp only [giOk, Bool.and_eq_true, decide_eq_true_eq] at k2
      refine good_ins (S := [114, 118]) rfl (shape_nums rfl rfl fun k' hk => ?_) (fun e => Bool.noConfusion (show false = true from e)) (.inl rfl)
      match k', hk with
      | 0, _ => exact decide_eq_true ⟨(show (0 : Int) ≤ r by omega), (show (r : Int) < 8 by omega)⟩
      | 1, _ => exact decide_eq_true ⟨(show (0 : Int) ≤ v by omega), (show v < 4294967296 by omega)⟩
      | 2, _ => rfl
    | move r a =>
      simp only [giOk, Bool.and_eq_true, decide_eq_true_eq] at k2
      refine good_ins (S := [114, 114]) rfl (shape_nums rfl rfl fun k' hk => ?_) (fun e => Bool.noConfusion (show false = true from e)) (.inl rfl)
      match k', hk with
      | 0, _ => exact decide_eq_true ⟨(show (0 : Int) ≤ r by omega), (show (r : Int) < 8 by omega)⟩
      | 1, _ => exact decide_eq_true ⟨(show (0 : Int) ≤ a by omega), (show (a : Int) < 8 by omega)⟩
      | 2, _ => rfl
    | add r a b =>
      simp only [giOk, Bool.and_eq_true, decide_eq_true_eq] at k2
      refine good_ins (S := [114, 114, 114]) rfl (shape_nums rfl rfl fun k' hk => ?_) (fun e => Bool.noConfusion (show false = true from e)) (.inl rfl)
      match k', hk with
      | 0, _ => exact decide_eq_true ⟨(show (0 : Int) ≤ r by omega), (show (r : Int) < 8 by omega)⟩
      | 1, _ => exact decide_eq_true ⟨(show (0 : Int) ≤ a by omega), (show (a : Int) < 8 by omega)⟩
      | 2, _ => exact decide_eq_true ⟨(show (0 : Int) ≤ b by omega), (show (b : Int) < 8 by omega)⟩
    | sub r a b =>
      simp only [giOk, Bool.and_eq_true, decide_eq_true_eq] at k2
      refine good_ins (S := [114, 114, 114]) rfl (shape_nums rfl rfl fun k' hk => ?_) (fun e => Bool.noConfusion (show false = true from e)) (.inl rfl)
      match k', hk with
      | 0, _ => exact decide_eq_true ⟨(show (0 : Int) ≤ r by omega), (show (r : Int) < 8 by omega)⟩
      | 1, _ => exact decide_eq_true ⟨(show (0 : Int) ≤ a by omega), (show (a : Int) < 8 by omega)⟩
      | 2, _ => exact decide_eq_true ⟨(show (0 : Int) ≤ b by omega), (show (b : Int) < 8 by omega)⟩
    | store a r k =>
      simp only [giOk, Bool.and_eq_true, decide_eq_true_eq] at k2
      refine good_ins (S := [114, 114, 119]) rfl (shape_nums rfl rfl fun k' hk => ?_) (fun e => Bool.noConfusion (show false = true from e)) (.inl rfl)
      match k', hk with
      | 0, _ => exact decide_eq_true ⟨(show (0 : Int) ≤ a by omega), (show (a : Int) < 8 by omega)⟩
      | 1, _ => exact decide_eq_true ⟨(show (0 : Int) ≤ r by omega), (show (r : Int) < 8 by omega)⟩
      | 2, _ => exact decide_eq_true ⟨(show (0 : Int) ≤ k by omega), (show (k : Int) < 4 by omega)⟩
    | swap r a k =>
      simp only [giOk, Bool.and_eq_true, decide_eq_true_eq] at k2
      refine good_ins (S := [114, 114, 119]) rfl (shape_nums rfl rfl fun k' hk => ?_) (fun e => Bool.noConfusion (show false = true from e)) (.inl rfl)
      match k', hk with
      | 0, _ => exact decide_eq_true ⟨(show (0 : Int) ≤ r by omega), (show (r : Int) < 8 by omega)⟩
      | 1, _ => exact decide_eq_true ⟨(show (0 : Int) ≤ a by omega), (show (a : Int) < 8 by omega)⟩
      | 2, _ => exact decide_eq_true ⟨(show (0 : Int) ≤ k by omega), (show (k : Int) < 4 by omega)⟩
    | cas a r k =>
      simp only [giOk, Bool.and_eq_true, decide_eq_true_eq] at k2
      refine good_ins (S := [114, 115, 119]) rfl (shape_nums rfl rfl fun k' hk => ?_) (fun e => Bool.noConfusion (show false = true from e)) (.inl rfl)
      match k', hk with
      | 0, _ => exact decide_eq_true ⟨(show (0 : Int) ≤ a by omega), (show (a : Int) < 8 by omega)⟩
      | 1, _ => exact decide_eq_true ⟨(show (0 : Int) ≤ r by omega), (show (r : Int) < 7 by omega)⟩
      | 2, _ => exact decide_eq_true ⟨(show (0 : Int) ≤ k by omega), (show (k : Int) < 4 by omega)⟩
    | fence => exact good_ins (S := []) rfl (shape_nums rfl rfl fun k' hk => match k', hk with | 0, _ => rfl | 1, _ => rfl | 2, _ => rfl) (fun e => Bool.noConfusion (show false = true from e)) (.inl rfl)
    | force => exact good_ins (S := []) rfl (shape_nums rfl rfl fun k' hk => match k', hk with | 0, _ => rfl | 1, _ => rfl | 2, _ => rfl) (fun e => Bool.noConfusion (show false = true from e)) (.inl rfl)
    | zero r l =>
      simp only [giOk, decide_eq_true_eq] at k2
      simp only [Bool.and_eq_true, decide_eq_true_eq] at k1
      refine good_ins (S := [114, 108]) rfl (shape_lab rfl (lb_name hn hp k1.1) fun k' hk => ?_) (fun e => Bool.noConfusion (show false = true from e)) (.inr (jump l k1.1 k1.2))
      match k', hk with
      | 0, _ => exact decide_eq_true ⟨(show (0 : Int) ≤ r by omega), (show (r : Int) < 8 by omega)⟩
      | 1, _ => rfl
      | 2, _ => rfl
    | same r a l =>
      simp only [giOk, Bool.and_eq_true, decide_eq_true_eq] at k2
      simp only [Bool.and_eq_true, decide_eq_true_eq] at k1
      refine good_ins (S := [114, 114, 108]) rfl (shape_lab rfl (lb_name hn hp k1.1) fun k' hk => ?_) (fun e => Bool.noConfusion (show false = true from e)) (.inr (jump l k1.1 k1.2))
      match k', hk with
      | 0, _ => exact decide_eq_true ⟨(show (0 : Int) ≤ r by omega), (show (r : Int) < 8 by omega)⟩
      | 1, _ => exact decide_eq_true ⟨(show (0 : Int) ≤ a by omega), (show (a : Int) < 8 by omega)⟩
      | 2, _ => rfl
    | goto l =>
      simp only [Bool.and_eq_true, decide_eq_true_eq] at k1
      exact good_ins (S := [108]) rfl (shape_lab rfl (lb_name hn hp k1.1) (fun k' hk => match k', hk with | 0, _ => rfl | 1, _ => rfl | 2, _ => rfl)) (fun e => Bool.noConfusion (show false = true from e)) (.inr (jump l k1.1 k1.2))
    | label l =>
      simp only [decide_eq_true_eq] at k1
      simp only [beq_iff_eq] at k3
      exact good_ins (S := [108]) rfl (shape_lab rfl (lb_name hn hp k1) (fun k' hk => match k', hk with | 0, _ => rfl | 1, _ => rfl | 2, _ => rfl)) (fun _ => piece_lab h1 k1 k3) (.inr ⟨q, piece_lab h1 k1 k3⟩)
    | alloc r => cases k2
    | free r => cases k2
    | need r => cases k2
theorem pre_lb (p : ByteArray) (k : Nat) : p.size ≤ (lb p k).size ∧ (((lb p k).extract 0 p.size).toList == p.toList) = true := by
  unfold lb
  refine ⟨by rw [ByteArray.size_append]; omega, ?_⟩
  rw [beq_iff_eq]
  congr 1
  exact ByteArray.extract_append_eq_left rfl
theorem piece_plain (hn : isName p) (hp : p.size ≤ 4) (hs : piecesB s = true) : PlainOk (gCode p s) p spBars := by
  have hs' := hs
  unfold piecesB at hs
  simp only [Bool.and_eq_true, decide_eq_true_eq] at hs
  obtain ⟨-, h2, -, -, -⟩ := hs
  refine ⟨by rw [piece_fault hn hp hs'], fun q x hx => ?_, fun q x hx ht => ?_⟩
  all_goals
    unfold gCode at hx
    rw [List.getElem?_map] at hx
    cases hq : s[q]? with
    | none => rw [hq] at hx; cases hx
    | some i =>
      rw [hq] at hx
      cases hx
      have k2 := List.all_eq_true.1 h2 i (List.mem_of_getElem? hq)
      have no' : ((no.toList == []) = false) → False := fun e => by rw [toList_bl] at e; exact Bool.noConfusion (show true = false from e)
      cases i <;> first
        | exact no_bar rfl
        | (cases k2; done)
        | exact (no' ht).elim
        | exact pre_lb p _
theorem piece_wt (hs : piecesB s = true) {q : Nat} {x : Ins} {k : Int} (hx : (gCode p s)[q]? = some x) (hk : wtReg x = some k) : 0 ≤ k ∧ k < 3 := by
  unfold piecesB at hs
  simp only [Bool.and_eq_true, decide_eq_true_eq] at hs
  obtain ⟨-, h2, -, h4, -⟩ := hs
  unfold gCode at hx
  rw [List.getElem?_map] at hx
  cases hq : s[q]? with
  | none => rw [hq] at hx; cases hx
  | some i =>
    rw [hq] at hx
    cases hx
    have k2 := List.all_eq_true.1 h2 i (List.mem_of_getElem? hq)
    have k4 := List.all_eq_true.1 h4 i (List.mem_of_getElem? hq)
    rw [wt_is] at hk
    cases i <;> first
      | (cases k2; done)
      | (cases hk; done)
      | (simp only [wrB, decide_eq_true_eq] at k4
         cases hk
         constructor <;> (simp only [GI.ins]; omega))
theorem piece_len (hs : piecesB s = true) : (gCode p s).length ≤ 70 := by
  unfold piecesB at hs
  simp only [Bool.and_eq_true, decide_eq_true_eq] at hs
  unfold gCode
  rw [List.length_map]
  exact hs.2.2.2.2
theorem piece_no (hs : piecesB s = true) {k : Nat} (hk : 3 ≤ k) : wtTo (gCode p s) (gCode p s).length k = false := by
  unfold wtTo
  rw [List.take_length]
  cases hb : (gCode p s).any fun x => wtReg x == some (k : Int) with
  | false => rfl
  | true =>
    obtain ⟨x, hx, e⟩ := List.any_eq_true.1 hb
    obtain ⟨i, hi, rfl⟩ := List.getElem_of_mem hx
    have := piece_wt (p := p) hs (List.getElem?_eq_getElem hi) (k := k) (by simpa using e)
    omega
end
end Go.Proofs.YtgmokighfgdnjaaGreatDoor
