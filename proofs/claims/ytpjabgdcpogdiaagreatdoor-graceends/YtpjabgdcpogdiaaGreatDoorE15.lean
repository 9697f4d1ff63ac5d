import Derived.Test.YtpjabgdcpogdiaaGreatDoorE14

/- GqA -/
namespace Go.Proofs.YtpjabgdcpogdiaaGreatDoor
open Go.RowKit

section
variable {f n : Nat} {G : Gh} {m : Mk} {t u : Nat}
theorem PD.drain1_sh (h : PD f n G m) (ht : t < n) (hut : u ≠ t ∨ f ≠ 2) (hu : u < n) : sh (m.drain1 t) u = sh m u := by
  cases hw : m.mem.waits t with
  | nil => rw [drain1_nil hw]
  | cons x l =>
    have E := drain1_cons hw
    have hxm : x ∈ m.mem.waits t := by rw [hw]; exact List.mem_cons_self
    obtain ⟨⟨x0, x1⟩, hx⟩ := h.1.wts t ht x hxm
    unfold sh
    rw [E.words, if_neg]
    rintro ⟨e1, e2, -⟩
    rcases hx with ⟨h1, -, h2, -⟩ | h1
    · rcases hut with e | e
      · omega
      · have := h2 e
        omega
    · omega
theorem PD.fence_sh (h : PD f n G m) (ht : t < n) (hut : u ≠ t) (hu : u < n) : sh (m.fence t) u = sh m u :=
  (fence_of (P := fun m' => PD f n G m' ∧ sh m' u = sh m u) (fun _ h' => ⟨h'.1.drain1 ht, (h'.1.drain1_sh ht (.inl hut) hu).trans h'.2⟩) ⟨h, rfl⟩).2
theorem PD.room_sh (h : PD f n G m) (ht : t < n) (hut : u ≠ t) (hu : u < n) : sh (m.room t) u = sh m u :=
  (room_of (P := fun m' => PD f n G m' ∧ sh m' u = sh m u) (fun _ h' => ⟨h'.1.drain1 ht, (h'.1.drain1_sh ht (.inl hut) hu).trans h'.2⟩) ⟨h, rfl⟩).2
def shTest (f : Nat) (s : List GI) : Bool := s.all fun i => match i with
  | .swap _ a _ => a == 5 || a == 6
  | .cas a _ _ => a == 7
  | .force => f == 2
  | _ => true
theorem sh_tab {f : Nat} (hf : 1 ≤ f ∧ f ≤ 4) (tg : Tg) : shTest f (tgCode f tg) = true := by
  have hf4 : f = 1 ∨ f = 2 ∨ f = 3 ∨ f = 4 := by omega
  rcases hf4 with rfl | rfl | rfl | rfl <;> cases tg <;> rfl
theorem setWord_sh (m : Mk) {c : Nat} (k : Nat) (v : Int) (hc : c ≠ u + 1) (h64 : c < 64) : sh (m.setWord ((c : Int) + 1) k v) u = sh m u := by
  have e : (cellOf ((c : Int) + 1)).toNat = c := by unfold cellOf; omega
  show (if u + 1 = (cellOf ((c : Int) + 1)).toNat ∧ 0 = (k : Int).toNat then v else m.mem.ar.words (u + 1) 0) = _
  rw [e, if_neg (fun h => hc h.1.symm)]
  rfl
theorem PD.step_sh (h : PD f n G m) (hf2 : f ≠ 2) (ht : t < n) (hut : u ≠ t) (hu : u < n) {tg : Tg} {q : Nat} {i : GI} (hi : (tgCode f tg)[q]? = some i) : sh (gExec m t i) u = sh m u := by
  have T := List.all_eq_true.1 (sh_tab h.1.fl tg) i (List.mem_of_getElem? hi)
  have hn := h.1.few
  cases i with
  | load r a k => show sh (m.load _ _ _ _) u = _; unfold Mk.load; split <;> rfl
  | store a r k =>
    show sh (m.store _ _ _ _) u = _
    unfold Mk.store
    split
    · exact h.room_sh ht hut hu
    · rfl
  | swap r a k =>
    show sh (m.swap _ _ _ _ _) u = _
    unfold Mk.swap
    split
    · have ha : m.regs t a = ((n + 1 : Nat) : Int) + 1 ∨ m.regs t a = ((t + 1 : Nat) : Int) + 1 := by
        rcases (show (a == 5 || a == 6) = true from T) |> (fun e => by simpa using e : _ → a = 5 ∨ a = 6) with rfl | rfl
        · left; rw [h.1.r5 t ht]; omega
        · right; rw [h.1.r6 t ht]; omega
      rw [← h.fence_sh ht hut hu]
      rcases ha with e | e <;> rw [e]
      · exact setWord_sh (m.fence t) k (m.regs t r) (by omega) (by omega)
      · exact setWord_sh (m.fence t) k (m.regs t r) (by omega) (by omega)
    · rfl
  | cas a r k =>
    show sh (m.cas _ _ _ _ _ _) u = _
    unfold Mk.cas
    split
    · have ha : m.regs t a = ((0 : Nat) : Int) + 1 := by
        obtain rfl : a = 7 := by simpa using (show (a == 7) = true from T)
        rw [h.1.r7 t ht]; rfl
      rw [← h.fence_sh ht hut hu, ha]
      exact setWord_sh (m.fence t) k _ (by omega) (by omega)
    · rfl
  | fence => exact h.fence_sh ht hut hu
  | force => exact absurd (by simpa using (show (f == 2) = true from T)) hf2
  | alloc r =>
    show sh (m.alloc _ _) u = _
    unfold Mk.alloc
    obtain ⟨c, hc, c2, -, -⟩ := h.free?
    rw [hc]
    show (if u + 1 = c ∧ _ then _ else m.mem.ar.words (u + 1) 0) = _
    rw [if_neg (fun e => by have := e.1; omega)]
    rfl
  | free r =>
    show sh (m.free _ _) u = _
    unfold Mk.free
    split
    · exact h.fence_sh ht hut hu
    · rfl
  | need r => show sh (m.need _) u = _; unfold Mk.need; split <;> rfl
  | _ => rfl
theorem PD.ov_sh2 (h : PD f n G m) (hf2 : f ≠ 2) (hu : u < n) : ov m u 0 = sh m u := by
  unfold ov vw sh
  refine foldl_none (fun x hx e => ?_)
  rcases (h.1.wts u hu x hx).2 with ⟨-, -, h2, -⟩ | h1
  · exact h2 hf2 e.2.2
  · have := e.1; omega
theorem ov_sh (hw : m.mem.waits u = []) : ov m u 0 = sh m u := by
  unfold ov vw sh
  rw [hw]
  rfl
end
end Go.Proofs.YtpjabgdcpogdiaaGreatDoor

/- GpG -/
namespace Go.Proofs.YtpjabgdcpogdiaaGreatDoor
open Go.RowKit

section
variable (m : Mk) (t u : Nat)
theorem fence_wlen : ((m.fence t).mem.waits u).length ≤ (m.mem.waits u).length := by
  by_cases e : u = t
  · subst e
    rw [show (m.fence u).mem.waits u = [] from Rm.drainAll_waits _ _ _ rfl]
    exact Nat.zero_le _
  · rw [fence_waits_ne m t e]
    exact Nat.le_refl _
theorem drain1_wlen : ((m.drain1 t).mem.waits u).length ≤ (m.mem.waits u).length := by
  unfold Mk.drain1
  split
  · exact Nat.le_refl _
  · rename_i x l hl
    show ((m.mem.drained t x l).waits u).length ≤ _
    by_cases e : u = t
    · subst e
      rw [Rm.drained_waits, hl]
      exact Nat.le_succ _
    · rw [Rm.drained_waits_ne _ _ _ _ _ e]
      exact Nat.le_refl _
theorem drain1_less (h : m.mem.waits t ≠ []) : ((m.drain1 t).mem.waits t).length + 1 = (m.mem.waits t).length := by
  unfold Mk.drain1
  split
  · rename_i hl
    exact absurd hl h
  · rename_i x l hl
    show ((m.mem.drained t x l).waits t).length + 1 = _
    rw [Rm.drained_waits, hl]
    rfl
theorem room_wlen : ((m.room t).mem.waits u).length ≤ (m.mem.waits u).length := by
  unfold Mk.room
  split
  · exact drain1_wlen m t u
  · exact Nat.le_refl _
end
theorem fenceFrom_wlen (u : Nat) : ∀ (k : Nat) (m : Mk) (t : Nat), ((m.fenceFrom t k).mem.waits u).length ≤ (m.mem.waits u).length
  | 0, _, _ => Nat.le_refl _
  | k + 1, m, t => Nat.le_trans (fenceFrom_wlen u k (m.fence t) (t + 1)) (fence_wlen m t u)
theorem gExec_wlen (m : Mk) (t u : Nat) (i : GI) : ((gExec m t i).mem.waits u).length + 1 ≤ (m.mem.waits u).length + (if u = t then gw i else 1) := by
  have hg : 1 ≤ gw i := by cases i <;> first | exact Nat.le_refl _ | exact Nat.le_succ _
  have fin : ∀ {k : Nat}, k ≤ (m.mem.waits u).length → k + 1 ≤ (m.mem.waits u).length + (if u = t then gw i else 1) := fun h => by split <;> omega
  cases i with
  | store a r k =>
    show ((m.store _ _ _ _).mem.waits u).length + 1 ≤ _
    unfold Mk.store
    split
    · have h1 := room_wlen m t u
      by_cases e : u = t
      · subst e
        rw [if_pos rfl]
        have e2 : (((m.room u).put u (m.regs u a) k (m.regs u r)).mem.waits u) = (m.room u).mem.waits u ++ [⟨cellOf (m.regs u a), genOf (m.regs u a), k, m.regs u r⟩] := by
          show (if u = u then _ else _) = _
          rw [if_pos rfl]
        rw [e2, List.length_append]
        show _ + 1 + 1 ≤ _ + 2
        omega
      · rw [if_neg e]
        have e2 : (((m.room t).put t (m.regs t a) k (m.regs t r)).mem.waits u) = (m.room t).mem.waits u := by
          show (if u = t then _ else _) = _
          rw [if_neg e]
        rw [e2]
        omega
    · exact fin (Nat.le_refl _)
  | load r a k => exact fin (by show ((m.load _ _ _ _).mem.waits u).length ≤ _; unfold Mk.load; split <;> exact Nat.le_refl _)
  | swap r a k =>
    refine fin ?_
    show ((m.swap _ _ _ _ _).mem.waits u).length ≤ _
    unfold Mk.swap
    split
    · exact fence_wlen m t u
    · exact Nat.le_refl _
  | cas a r k =>
    refine fin ?_
    show ((m.cas _ _ _ _ _ _).mem.waits u).length ≤ _
    unfold Mk.cas
    split
    · exact fence_wlen m t u
    · exact Nat.le_refl _
  | fence => exact fin (fence_wlen m t u)
  | force => exact fin (fenceFrom_wlen u _ m 0)
  | alloc r => exact fin (by show ((m.alloc _ _).mem.waits u).length ≤ _; unfold Mk.alloc; split <;> exact Nat.le_refl _)
  | free r =>
    refine fin ?_
    show ((m.free _ _).mem.waits u).length ≤ _
    unfold Mk.free
    split
    · exact fence_wlen m t u
    · exact Nat.le_refl _
  | need r => exact fin (by show ((m.need _).mem.waits u).length ≤ _; unfold Mk.need; split <;> exact Nat.le_refl _)
  | _ => exact fin (Nat.le_refl _)

def LocB (f : Nat) (L : List Ins) (pc : Nat) (B : List (Tg × ByteArray)) : Option Pt → Prop
  | none => pc = L.length ∧ B = []
  | some ⟨tg, q, d⟩ => ∃ A P k d' k', L = A ++ (gCode P (tgCode f tg) ++ cd f B) ∧ pc = A.length + q ∧ q < (tgCode f tg).length ∧ noLab P A ∧ kin tg d k = some (d', k') ∧ d ≤ 100 ∧ Disc d' k' (B.map (·.1)) ∧ Apart f (A ++ gCode P (tgCode f tg)) B ∧ (f = 3 → (tg :: B.map (·.1)).getLast? = some .gone)
theorem Lx_zero {f : Nat} {C : List Nat} {r : Nat → Int} (tg : Tg) (d : Nat) : Lx f C r (some ⟨tg, 0, d⟩) := by
  cases tg with
  | enter => exact fun _ h => absurd h (by decide)
  | wait =>
    show match stage f 0 with
      | 7 => _
      | 8 => _
      | 9 => _
      | 10 => _
      | 11 => _
      | 12 => _
      | 13 => _
      | 14 => _
      | _ => True
    rw [stage_zero]
    exact trivial
  | _ => exact trivial
section
variable {f n : Nat} {G : Gh} {m : Mk} {t d d' : Nat} {k k' : Kd} {tg : Tg}
theorem PD.hops2 (h : PD f n G m) (ht : t < n) {L : List Ins} : ∀ (B : List (Tg × ByteArray)) (A : List Ins) (d : Nat) (k : Kd), BT f G m t d k → Disc d k (B.map (·.1)) → Apart f A B → L = A ++ cd f B → (f = 3 → B ≠ [] → (B.map (·.1)).getLast? = some .gone) → (f = 3 → B = [] → sh m t = 0) → ∃ g B', PD f n (G.at' t g) m ∧ LocB f L A.length B' g ∧ (f = 3 → g = none → sh m t = 0) ∧ (∀ C r, Lx f C r g) ∧ ∀ C r ph, rkT f n C t r ph g + csts f n B' ≤ csts f n B
  | [], A, d, k, hb, hd, _, hL, _, h0 => by
    obtain ⟨rfl, hk⟩ := hd
    refine ⟨none, [], h.finish ht hb hk, ⟨?_, rfl⟩, fun h3 _ => h0 h3 rfl, fun _ _ => trivial, fun _ _ _ => Nat.le_refl _⟩
    rw [hL]
    show _ = (A ++ []).length
    rw [List.append_nil]
  | (tg, P) :: B, A, d, k, hb, hd, ha, hL, hl, _ => by
    obtain ⟨h100, d', k', hk, hd'⟩ := hd
    by_cases he : tgCode f tg = []
    · have hL' : L = A ++ cd f B := by
        rw [hL]
        show A ++ (gCode P (tgCode f tg) ++ cd f B) = _
        rw [he]; rfl
      have ha' : Apart f A B := by
        have := ha.2
        dsimp only at this
        rw [he] at this
        rwa [show gCode P [] = [] from rfl, List.append_nil] at this
      have hl2 : f = 3 → B ≠ [] ∧ (B.map (·.1)).getLast? = some .gone := fun h3 => by
        have h5 := hl h3 (by simp)
        cases B with
        | nil =>
          exfalso
          have h5 : tg = .gone := by simpa using h5
          subst h5 h3
          cases he
        | cons y B =>
          refine ⟨by simp, ?_⟩
          rw [List.map_cons, List.map_cons, List.getLast?_cons_cons] at h5
          rw [List.map_cons]
          exact h5
      obtain ⟨g, B', h1, h2, hz, h3, h4⟩ := PD.hops2 h ht B A d' k' (hb.skip hk he h.1.fl) hd' ha' hL' (fun e _ => (hl2 e).2) (fun e e2 => absurd e2 (hl2 e).1)
      exact ⟨g, B', h1, h2, hz, h3, fun C r ph => Nat.le_trans (h4 C r ph) (Nat.le_add_left _ _)⟩
    · refine ⟨some ⟨tg, 0, d⟩, B, h.begin ht hb hk he, ⟨A, P, k, d', k', hL, rfl, List.length_pos_iff.2 he, ha.1, hk, h100, hd', ha.2, fun e => hl e (by simp)⟩, fun _ e => (by cases e), fun _ _ => Lx_zero tg d, fun C r ph => ?_⟩
      exact Nat.add_le_add_right (rk_begin h.1.fl C t r ph tg d) _
end
end Go.Proofs.YtpjabgdcpogdiaaGreatDoor

/- GpH -/
namespace Go.Proofs.YtpjabgdcpogdiaaGreatDoor
open Go.RowKit

theorem keepU (m : Mk) (t : Nat) (i : GI) {u : Nat} (h : u ≠ t) : (gExec m t i).regs u = m.regs u := by
  have key : ∀ (m : Mk) (r : Nat) (v : Int), (m.setReg t r v).regs u = m.regs u := fun m r v => setReg_other _ _ _ _ h
  cases i with
  | load r a k => show (m.load _ _ _ _).regs u = _; unfold Mk.load; split <;> exact key _ _ _
  | const r v => exact key _ _ _
  | move r a => exact key _ _ _
  | add r a b => exact key _ _ _
  | sub r a b => exact key _ _ _
  | store a r k =>
    show (m.store _ _ _ _).regs u = _
    unfold Mk.store
    split
    · rw [show ((m.room t).put t (m.regs t a) k (m.regs t r)).regs = (m.room t).regs from rfl, (room_regs m t).1]
    · rfl
  | swap r a k => show (m.swap _ _ _ _ _).regs u = _; unfold Mk.swap; split <;> exact key _ _ _
  | cas a r k => show (m.cas _ _ _ _ _ _).regs u = _; unfold Mk.cas; split <;> exact key _ _ _
  | force => show (m.fenceFrom _ _).regs u = _; rw [(fenceFrom_regs _ m 0).1]
  | alloc r => show (m.alloc _ _).regs u = _; unfold Mk.alloc; split <;> exact key _ _ _
  | free r => show (m.free _ _).regs u = _; unfold Mk.free; split <;> rfl
  | need r => show (m.need _).regs u = _; unfold Mk.need; split <;> rfl
  | _ => rfl
theorem spin_next {f q : Nat} (hf : 1 ≤ f ∧ f ≤ 4) {i : GI} (hi : (gWait f)[q]? = some i) (hs : spins f q) (r : Nat → Int) : gNext (gWait f) q r i < (gWait f).length := by
  rcases spin_at hf hs with ⟨rfl | rfl, rfl | rfl | rfl⟩ | ⟨rfl, rfl | rfl | rfl | rfl⟩ | ⟨rfl, rfl | rfl | rfl⟩
  all_goals
    obtain rfl : _ = i := Option.some.inj (show some _ = some i from hi)
    by_cases e : r 0 = r 1 <;> simp [gNext, gAt, gLab, gWait, gFence, e]

def Good2 (f n : Nat) (pr : Nat → List (Tg × ByteArray)) (G : Gh) (B : Nat → List (Tg × ByteArray)) (m : Mk) : Prop := PD f n G m ∧ (∀ t, t < n → LocB f (cd f (pr t)) (m.pc t) (B t) (G.pt t) ∧ Lx f G.ch (m.regs t) (G.pt t)) ∧ (f = 3 → ∀ t, t < n → G.pt t = none → sh m t = 0)
def pot (f n : Nat) (G : Gh) (B : Nat → List (Tg × ByteArray)) (m : Mk) (ph t : Nat) : Nat := rkT f n G.ch t (m.regs t) ph (G.pt t) + csts f n (B t)
def spinsAt (f : Nat) : Option Pt → Prop
  | some ⟨.wait, q, _⟩ => spins f q
  | _ => False
theorem not_spinsAt {f : Nat} {tg : Tg} {q d : Nat} (h : ¬ spinsAt f (some ⟨tg, q, d⟩)) : ¬ (tg = .wait ∧ spins f q) := fun ⟨a, b⟩ => by
  subst a
  exact h b
theorem spinsAt_of {f : Nat} {tg : Tg} {q d : Nat} (h : spinsAt f (some ⟨tg, q, d⟩)) : tg = .wait ∧ spins f q := by
  cases tg with
  | wait => exact ⟨rfl, h⟩
  | _ => exact h.elim
def Spun (f n : Nat) (G : Gh) (B : Nat → List (Tg × ByteArray)) (m : Mk) (t : Nat) (G' : Gh) (B' : Nat → List (Tg × ByteArray)) (m' : Mk) : Prop := ∃ q d i, G.pt t = some ⟨.wait, q, d⟩ ∧ (gWait f)[q]? = some i ∧ spins f q ∧
  (¬ spinsAt f (G'.pt t) ∧ (stage f q = 14 ∧ m.regs t 0 ≠ m.regs t 1) ∧ (∀ ph ph', pot f n G' B' m' ph' t + (5 * n + ph) ≤ pot f n G B m ph t) ∨
   (∃ q', G'.pt t = some ⟨.wait, q', d⟩ ∧ spins f q' ∧ (m.mem.waits t = [] → (∀ u ∈ G.ch, sh m u = 0) → phW f q' (m'.regs t) + 1 ≤ phW f q (m.regs t))) ∧ ∀ ph ph', pot f n G' B' m' ph' t + ph ≤ pot f n G B m ph t + ph')

section
variable {f n : Nat} {pr : Nat → List (Tg × ByteArray)} {G : Gh} {B : Nat → List (Tg × ByteArray)} {m : Mk} {t : Nat}
theorem Good2.step (h : Good2 f n pr G B m) (hwd : ∀ c k, Wd (m.mem.ar.words c k)) (hwr : ∀ t j, Wd (m.regs t j)) (ht : t < n) (hd : doneAt (cd f (pr t)) (m.pc t) = false) : ∃ G' B', Good2 f n pr G' B' (m.step (cd f (pr t)) t) ∧
    (∀ u, u < n → u ≠ t → G'.pt u = G.pt u ∧ B' u = B u ∧ (m.step (cd f (pr t)) t).regs u = m.regs u ∧ ((m.step (cd f (pr t)) t).mem.waits u).length ≤ (m.mem.waits u).length ∧ ∀ ph, pot f n G' B' (m.step (cd f (pr t)) t) ph u = pot f n G B m ph u) ∧
    (¬ spinsAt f (G.pt t) → ∀ ph ph', ph' ≤ 6 → pot f n G' B' (m.step (cd f (pr t)) t) ph' t + ((m.step (cd f (pr t)) t).mem.waits t).length + 1 ≤ pot f n G B m ph t + (m.mem.waits t).length) ∧
    (spinsAt f (G.pt t) → ((m.step (cd f (pr t)) t).mem.waits t).length ≤ (m.mem.waits t).length ∧ Spun f n G B m t G' B' (m.step (cd f (pr t)) t)) := by
  obtain ⟨hP, hL, hZ⟩ := h
  obtain ⟨hl, hx⟩ := hL t ht
  cases hg : G.pt t with
  | none =>
    rw [hg] at hl
    obtain ⟨hl, -⟩ : m.pc t = (cd f (pr t)).length ∧ B t = [] := hl
    unfold doneAt at hd
    rw [hl, List.getElem?_eq_none (Nat.le_refl _)] at hd
    cases hd
  | some p =>
    obtain ⟨tg, q, d⟩ := p
    rw [hg] at hl
    obtain ⟨A, P, k, d', k', hLe, hpc, hq, hA, hk, h100, hdisc, hap, hlast⟩ := hl
    obtain ⟨i, hi⟩ : ∃ i, (tgCode f tg)[q]? = some i := ⟨_, List.getElem?_eq_getElem hq⟩
    have hf := hP.1.fl
    have hok := tg_ok hf tg
    obtain ⟨-, hst⟩ := gstep hLe hpc hi hA hok
    rw [hst]
    generalize hm1 : m.setPc t (A.length + gNext (tgCode f tg) q (m.regs t) i) = m1
    have hP1 : PD f n G m1 := hP.congr ht (by rw [← hm1]; rfl) (by rw [← hm1]; rfl) (by rw [← hm1]; rfl)
    have hr1 : m1.regs = m.regs := by rw [← hm1]; rfl
    have hw1 : m1.mem = m.mem := by rw [← hm1]; rfl
    have hpc1 : ∀ u, m1.pc u = if u = t then A.length + gNext (tgCode f tg) q (m.regs t) i else m.pc u := fun u => by rw [← hm1]; rfl
    clear hm1
    obtain ⟨G1, hG1, hpt, hot, hch⟩ := own_all hP1 (by rw [hw1]; exact hwd) ht h100 hg hi
    have R := hP1.own_rank (by rw [hr1]; exact hwr t) ht hg hi (by rw [hr1]; exact hx) hG1 hpt hch
    have hC : G1.ch = G.ch ∨ G1.ch = G.ch ++ [t] := by
      rcases hch with e | ⟨e, -⟩
      · exact .inl e
      · exact .inr e
    have hO : ∀ u, u < n → u ≠ t → ∀ ph, rkT f n G1.ch u (m.regs u) ph (G.pt u) = rkT f n G.ch u (m.regs u) ph (G.pt u) := fun u hu e ph => hP.other_rank hu e (hL u hu).2 hC ph
    have hsub : ∀ u ∈ G.ch, u ∈ G1.ch := fun u hu => by
      rcases hC with e | e <;> rw [e]
      · exact hu
      · exact List.mem_append_left _ hu
    have hW : ∀ u, ((gExec m1 t i).mem.waits u).length + 1 ≤ (m.mem.waits u).length + (if u = t then gw i else 1) := fun u => by
      have := gExec_wlen m1 t u i
      rwa [hw1] at this
    have hU : ∀ u, u ≠ t → (gExec m1 t i).regs u = m.regs u := fun u e => by rw [keepU m1 t i e, hr1]
    have hR : ∀ j, dstR i ≠ some j → (gExec m1 t i).regs t j = m.regs t j := fun j e => by rw [keepR m1 t i e, hr1]
    have hshU : f = 3 → ∀ u, u < n → u ≠ t → sh (gExec m1 t i) u = sh m u := fun h3 u hu e => by
      rw [hP1.step_sh (by omega) ht e hu hi, sh_mem hw1]
    rw [hr1] at hpt R
    have hq' := gNext_le (m.regs t) hok hi
    have hpcs : ∀ u, (gExec m1 t i).pc u = if u = t then A.length + gNext (tgCode f tg) q (m.regs t) i else m.pc u := fun u => by rw [gExec_pc]; exact hpc1 u
    have hWt := hW t
    rw [if_pos rfl] at hWt
    by_cases hlt : gNext (tgCode f tg) q (m.regs t) i < (tgCode f tg).length
    · refine ⟨G1, B, ⟨hG1, fun u hu => ?_, fun h3 u hu e => ?_⟩, fun u hu e => ⟨hot u e, rfl, hU u e, ?_, fun ph => ?_⟩, fun hns ph ph' hph => ?_, fun hsp => ?_⟩
      · by_cases e : u = t
        · subst e
          rw [hpt, hpcs u, if_pos rfl]
          exact ⟨⟨A, P, k, d', k', hLe, rfl, hlt, hA, hk, h100, hdisc, hap, hlast⟩, R.1⟩
        · rw [hot u e, hpcs u, if_neg e, hU u e]; exact ⟨(hL u hu).1, (hL u hu).2.more hsub⟩
      · by_cases e2 : u = t
        · subst e2
          rw [hpt] at e
          cases e
        · rw [hot u e2] at e
          rw [hshU h3 u hu e2]
          exact hZ h3 u hu e
      · have h1 := hW u
        rw [if_neg e] at h1
        omega
      · unfold pot
        rw [hot u e, hU u e, hO u hu e]
      · have h1 := R.2 (not_spinsAt hns) ph ph' hph
        unfold pot
        rw [hpt, hg]
        omega
      · obtain ⟨rfl, hsp⟩ := spinsAt_of hsp
        have hC0 : G1.ch = G.ch := by
          rcases hch with e | ⟨-, q2, d2, e⟩
          · exact e
          · cases e
        have hx' := R.1
        rw [hg] at hx
        have hgw := wait_gw hf hi
        obtain ⟨-, -, t2⟩ := wait_tab hf hi
        have h2 : (gExec m1 t i).regs t 2 = m.regs t 2 := hR 2 (t2 (by have := hsp.1; omega) (by have := hsp.1; omega))
        refine ⟨by omega, q, d, i, hg, hi, hsp, ?_⟩
        by_cases hlv : stage f q = 14 ∧ m.regs t 0 ≠ m.regs t 1
        · refine .inl ⟨?_, hlv, fun ph ph' => ?_⟩
          · rw [hpt]
            show ¬ spins f (gNext (gWait f) q (m.regs t) i)
            rcases spin_at hf hsp with ⟨rfl | rfl, rfl | rfl | rfl⟩ | ⟨rfl, rfl | rfl | rfl | rfl⟩ | ⟨rfl, rfl | rfl | rfl⟩
            all_goals first
              | exact absurd hlv.1 (by decide)
              | (obtain rfl : _ = i := Option.some.inj (show some _ = some i from hi)
                 show ¬ spins _ (if m.regs t 0 = m.regs t 1 then _ else _)
                 rw [if_neg hlv.2]
                 decide)
          · have h1 := wait_leave (n := n) (ph := ph) (ph' := ph') hf (C := G.ch) hi hlv.1 hlv.2 h2
            unfold pot
            rw [hpt, hg, hC0]
            show rkW f n G.ch ((gExec m1 t i).regs t) ph' (gNext (gWait f) q (m.regs t) i) + csts f n (B t) + (5 * n + ph) ≤ rkW f n G.ch (m.regs t) ph q + csts f n (B t)
            omega
        · have h0 : stage f q = 14 → m.regs t 0 = m.regs t 1 := fun e => Classical.byContradiction fun e2 => hlv ⟨e, e2⟩
          have hsy := fun ph ph' => wait_stay (n := n) (ph := ph) (ph' := ph') hf (C := G.ch) hi hsp h0 h2
          refine .inr ⟨⟨_, hpt, (hsy 0 0).1, fun hwt hsh => ?_⟩, fun ph ph' => ?_⟩
          · have h1 : m.regs t 1 ≠ 0 := by
              have hx : match stage f q with
                | 7 => _
                | 8 => _
                | 9 => _
                | 10 => _
                | 11 => _
                | 12 => m.regs t 1 ≠ 0
                | 13 => m.regs t 1 ≠ 0
                | 14 => m.regs t 1 ≠ 0
                | _ => True := hx
              have hs3 : stage f q = 12 ∨ stage f q = 13 ∨ stage f q = 14 := by have := hsp.1; have := hsp.2; omega
              rcases hs3 with e | e | e <;> (rw [e] at hx; exact hx)
            have hld : ∀ a b k, i = .load a b k → (gExec m1 t i).regs t 0 = 0 := fun a b k e => by
              have hi2 : i = .load 0 2 0 ∧ stage f q = 13 := by
                rcases spin_at hf hsp with ⟨rfl | rfl, rfl | rfl | rfl⟩ | ⟨rfl, rfl | rfl | rfl | rfl⟩ | ⟨rfl, rfl | rfl | rfl⟩
                all_goals first
                  | exact ⟨(Option.some.inj (show some _ = some i from hi)).symm, by decide⟩
                  | (obtain rfl : _ = i := Option.some.inj (show some _ = some i from hi)
                     cases e)
              obtain ⟨rfl, e13⟩ := hi2
              have L := hP.1.la t ht
              rw [hg] at L
              obtain ⟨-, -, -, Sc⟩ := L
              rw [e13] at Sc
              obtain ⟨j, u, c1, c2, -, -⟩ := (show Cur _ _ _ _ from Sc)
              have hu := List.mem_of_getElem? c1
              obtain ⟨L, g0, r0⟩ := hP1.1.own (hP.1.chl u hu)
              have e2 := load_live L t 0 0
              rw [g0, r0, ← c2, ← hr1] at e2
              show (m1.load t 0 (m1.regs t 2) ((0 : Nat) : Int)).regs t 0 = 0
              rw [e2, setReg_reg, if_pos rfl]
              unfold vw
              rw [hw1, hwt]
              exact hsh u hu
            refine wait_phase hf hi hsp h0 h1 hld (fun e => hR 0 ?_)
            rcases spin_at hf hsp with ⟨rfl | rfl, rfl | rfl | rfl⟩ | ⟨rfl, rfl | rfl | rfl | rfl⟩ | ⟨rfl, rfl | rfl | rfl⟩
            all_goals first
              | exact absurd rfl e
              | (obtain rfl : _ = i := Option.some.inj (show some _ = some i from hi)
                 decide)
          · have h1 := (hsy ph ph').2
            unfold pot
            rw [hpt, hg, hC0]
            show rkW f n G.ch ((gExec m1 t i).regs t) ph' (gNext (gWait f) q (m.regs t) i) + csts f n (B t) + ph ≤ rkW f n G.ch (m.regs t) ph q + csts f n (B t) + ph'
            omega
    · have e : gNext (tgCode f tg) q (m.regs t) i = (tgCode f tg).length := by omega
      have hns : ¬ (tg = .wait ∧ spins f q) := fun ⟨a, b⟩ => by
        subst a
        exact hlt (spin_next hf hi b _)
      rw [e] at hpt hpcs R
      have hne : tgCode f tg ≠ [] := fun e => by rw [e] at hq; exact absurd hq (Nat.not_lt_zero _)
      have hb := hG1.behind ht hpt hne hk
      have h0 : f = 3 → B t = [] → sh (gExec m1 t i) t = 0 := fun h3 hB => by
        have h5 := hlast h3
        rw [hB] at h5
        have h5 : tg = .gone := by simpa using h5
        subst h5 h3
        have L := hG1.1.la t ht
        rw [hpt] at L
        rw [← hG1.ov_sh2 (by decide) ht]
        exact L.2
      have hl2 : f = 3 → B t ≠ [] → ((B t).map (·.1)).getLast? = some .gone := fun h3 hB => by
        have h5 := hlast h3
        cases hb : B t with
        | nil => exact absurd hb hB
        | cons y l =>
          rw [hb, List.map_cons, List.getLast?_cons_cons] at h5
          rw [List.map_cons]
          exact h5
      obtain ⟨g, B', hg1, hg2, hgz, hg3, hg4⟩ := hG1.hops2 ht (L := cd f (pr t)) (B t) (A ++ gCode P (tgCode f tg)) d' k' hb hdisc hap (by rw [List.append_assoc]; exact hLe) hl2 h0
      refine ⟨_, fun u => if u = t then B' else B u, ⟨hg1, fun u hu => ?_, fun h3 u hu e => ?_⟩, fun u hu e => ⟨by rw [Gh.at_ne _ _ e, hot u e], if_neg e, hU u e, ?_, fun ph => ?_⟩, fun _ ph ph' hph => ?_, fun hsp => ?_⟩
      · by_cases e : u = t
        · subst e
          rw [Gh.at_self, hpcs u, if_pos rfl]
          dsimp only
          rw [if_pos rfl]
          have e2 : (A ++ gCode P (tgCode f tg)).length = A.length + (tgCode f tg).length := by rw [List.length_append]; unfold gCode; rw [List.length_map]
          rw [← e2]; exact ⟨hg2, hg3 _ _⟩
        · rw [Gh.at_ne _ _ e, hot u e, hpcs u, if_neg e, hU u e]
          dsimp only
          rw [if_neg e]
          exact ⟨(hL u hu).1, (hL u hu).2.more hsub⟩
      · by_cases e2 : u = t
        · subst e2
          rw [Gh.at_self] at e
          exact hgz h3 e
        · rw [Gh.at_ne _ _ e2, hot u e2] at e
          rw [hshU h3 u hu e2]
          exact hZ h3 u hu e
      · have h1 := hW u
        rw [if_neg e] at h1
        omega
      · unfold pot
        dsimp only
        rw [Gh.at_ne _ _ e, hot u e, hU u e, if_neg e]
        show rkT f n G1.ch u _ _ _ + _ = _
        rw [hO u hu e]
      · have h1 := R.2 hns ph ph' hph
        have h2 := hg4 G1.ch ((gExec m1 t i).regs t) ph'
        unfold pot
        dsimp only
        rw [Gh.at_self, if_pos rfl, hg]
        show rkT f n G1.ch t _ _ _ + _ + _ + 1 ≤ _ + _ + _
        omega
      · exact absurd (spinsAt_of hsp) hns
end
end Go.Proofs.YtpjabgdcpogdiaaGreatDoor

/- GpJ -/
namespace Go.Proofs.YtpjabgdcpogdiaaGreatDoor
open Go.RowKit

section
variable {f n : Nat} {G : Gh} {m : Mk} {t u : Nat}
theorem PD.rest_zero (h : PD f n G m) (hu : u < n) (hw : m.mem.waits u = []) (hz : f = 3 → G.pt u = none → sh m u = 0) (hg : G.pt u = none ∨ spinsAt f (G.pt u)) : sh m u = 0 := by
  have L := h.1.la u hu
  rcases hg with e | hs
  · by_cases h3 : f = 3
    · exact hz h3 e
    · rw [e] at L
      rw [← ov_sh hw]
      exact (((L h3).2.1 h3).1 rfl).1
  · cases hg : G.pt u with
    | none => rw [hg] at hs; exact hs.elim
    | some p =>
      obtain ⟨tg, q, d⟩ := p
      rw [hg] at hs L
      obtain ⟨rfl, hs⟩ := spinsAt_of hs
      obtain ⟨-, L3, Ln, -⟩ := L
      rw [← ov_sh hw]
      by_cases h3 : f = 3
      · subst h3
        have L3 := L3 rfl
        rcases spin_at (by decide) hs with ⟨e, -⟩ | ⟨e, -⟩ | ⟨-, rfl | rfl | rfl⟩
        · exact absurd e (by decide)
        · exact absurd e (by decide)
        · exact L3.1
        · exact L3.1
        · exact L3.1
      · exact (((Ln h3).2.1 h3).1 rfl).1
end
end Go.Proofs.YtpjabgdcpogdiaaGreatDoor
