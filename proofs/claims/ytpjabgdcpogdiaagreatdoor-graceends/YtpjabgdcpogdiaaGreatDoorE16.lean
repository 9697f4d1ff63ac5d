import Derived.Test.YtpjabgdcpogdiaaGreatDoorE15
import Derived.Test.YtpjabgdcpogdiaaGreatDoorE08

/- GpI -/
namespace Go.Proofs.YtpjabgdcpogdiaaGreatDoor
open Go.RowKit

def sm : Nat → (Nat → Nat) → Nat
  | 0, _ => 0
  | n + 1, F => sm n F + F n
theorem sm_le {F H : Nat → Nat} : ∀ {n : Nat}, (∀ t, t < n → F t ≤ H t) → sm n F ≤ sm n H
  | 0, _ => Nat.le_refl _
  | n + 1, h => Nat.add_le_add (sm_le fun t ht => h t (Nat.lt_succ_of_lt ht)) (h n (Nat.lt_succ_self n))
theorem sm_less {F H : Nat → Nat} : ∀ {n : Nat} (t : Nat), t < n → (∀ u, u < n → F u ≤ H u) → F t + 1 ≤ H t → sm n F + 1 ≤ sm n H
  | 0, _, h, _, _ => absurd h (Nat.not_lt_zero _)
  | n + 1, t, ht, h, h1 => by
    show sm n F + F n + 1 ≤ sm n H + H n
    by_cases e : t = n
    · subst e
      have := sm_le (n := t) fun u hu => h u (Nat.lt_succ_of_lt hu)
      omega
    · have h2 := sm_less (n := n) t (by omega) (fun u hu => h u (Nat.lt_succ_of_lt hu)) h1
      have h3 := h n (Nat.lt_succ_self n)
      omega
theorem sm_pay {F H : Nat → Nat} {c : Nat} : ∀ {n : Nat}, (∀ u, u < n → F u ≤ H u + c) → sm n F ≤ sm n H + n * c
  | 0, _ => Nat.le_of_eq (by simp [sm])
  | n + 1, h => by
    have h1 := sm_pay (n := n) fun u hu => h u (Nat.lt_succ_of_lt hu)
    have h2 := h n (Nat.lt_succ_self n)
    show sm n F + F n ≤ sm n H + H n + (n + 1) * c
    rw [Nat.succ_mul]
    omega
theorem sm_pay2 {F H : Nat → Nat} {c : Nat} : ∀ {n : Nat} (t : Nat), t < n → (∀ u, u < n → u ≠ t → F u ≤ H u + c) → F t + n * c + 1 ≤ H t → sm n F + c + 1 ≤ sm n H
  | 0, _, h, _, _ => absurd h (Nat.not_lt_zero _)
  | n + 1, t, ht, h, h1 => by
    show sm n F + F n + c + 1 ≤ sm n H + H n
    rw [Nat.succ_mul] at h1
    by_cases e : t = n
    · subst e
      have := sm_pay (n := t) fun u hu => h u (Nat.lt_succ_of_lt hu) (by omega)
      omega
    · have h2 := sm_pay2 (F := F) (H := fun u => if u = t then H t - c else H u) (c := c) (n := n) t (by omega) (fun u hu hut => by rw [if_neg hut]; exact h u (Nat.lt_succ_of_lt hu) hut) (by rw [if_pos rfl]; omega)
      have h3 := h n (Nat.lt_succ_self n) (fun e2 => e e2.symm)
      have h4 : sm n (fun u => if u = t then H t - c else H u) + c ≤ sm n H := sm_cut t (by omega) (by omega)
      omega
where
  sm_cut {H : Nat → Nat} {c : Nat} : ∀ {n : Nat} (t : Nat), t < n → c ≤ H t → sm n (fun u => if u = t then H t - c else H u) + c ≤ sm n H
    | 0, _, h, _ => absurd h (Nat.not_lt_zero _)
    | n + 1, t, ht, hc => by
      show sm n (fun u => if u = t then H t - c else H u) + (if n = t then H t - c else H n) + c ≤ sm n H + H n
      by_cases e : n = t
      · subst e
        rw [if_pos rfl]
        have := sm_le (n := n) (F := fun u => if u = n then H n - c else H u) (H := H) fun u hu => by
          rw [if_neg (by omega)]
          exact Nat.le_refl _
        omega
      · rw [if_neg e]
        have := sm_cut (H := H) (c := c) (n := n) t (by omega) hc
        omega

section
variable {f n : Nat} {pr : Nat → List (Tg × ByteArray)} {G : Gh} {B : Nat → List (Tg × ByteArray)} {m : Mk} {t : Nat}
theorem Good2.drain1 (h : Good2 f n pr G B m) (ht : t < n) : Good2 f n pr G B (m.drain1 t) := ⟨h.1.drain1 ht, fun u hu => by rw [(drain1_regs m t).1, (drain1_regs m t).2]; exact h.2.1 u hu, fun h3 u hu e => by rw [h.1.drain1_sh ht (.inr (by omega)) hu]; exact h.2.2 h3 u hu e⟩
def Qt (f n : Nat) (G : Gh) (m : Mk) : Prop := ∀ t, t < n → m.mem.waits t = [] ∧ (G.pt t = none ∨ spinsAt f (G.pt t))
def phO (f : Nat) (r : Nat → Int) : Option Pt → Nat
  | some ⟨.wait, q, _⟩ => if spins f q then phW f q r else 6
  | _ => 6
theorem phO_le (f : Nat) (r : Nat → Int) (g : Option Pt) : 1 ≤ phO f r g ∧ phO f r g ≤ 6 := by
  match g with
  | some ⟨.wait, q, _⟩ =>
    have := phW_le f q r
    show 1 ≤ (if spins f q then phW f q r else 6) ∧ (if spins f q then phW f q r else 6) ≤ 6
    split <;> omega
  | some ⟨.enter, _, _⟩ => exact ⟨(by decide : 1 ≤ 6), Nat.le_refl _⟩
  | some ⟨.leave, _, _⟩ => exact ⟨(by decide : 1 ≤ 6), Nat.le_refl _⟩
  | some ⟨.rest, _, _⟩ => exact ⟨(by decide : 1 ≤ 6), Nat.le_refl _⟩
  | some ⟨.gone, _, _⟩ => exact ⟨(by decide : 1 ≤ 6), Nat.le_refl _⟩
  | some ⟨.get, _, _⟩ => exact ⟨(by decide : 1 ≤ 6), Nat.le_refl _⟩
  | some ⟨.read, _, _⟩ => exact ⟨(by decide : 1 ≤ 6), Nat.le_refl _⟩
  | some ⟨.new _, _, _⟩ => exact ⟨(by decide : 1 ≤ 6), Nat.le_refl _⟩
  | some ⟨.pub, _, _⟩ => exact ⟨(by decide : 1 ≤ 6), Nat.le_refl _⟩
  | some ⟨.free, _, _⟩ => exact ⟨(by decide : 1 ≤ 6), Nat.le_refl _⟩
  | none => exact ⟨(by decide : 1 ≤ 6), Nat.le_refl _⟩
open Classical in
noncomputable def phs (f n : Nat) (G : Gh) (m : Mk) (t : Nat) : Nat := if Qt f n G m then phO f (m.regs t) (G.pt t) else 6
theorem phs_le (f n : Nat) (G : Gh) (m : Mk) (t : Nat) : 1 ≤ phs f n G m t ∧ phs f n G m t ≤ 6 := by
  unfold phs
  split
  · exact phO_le _ _ _
  · exact ⟨(by decide : 1 ≤ 6), Nat.le_refl _⟩
noncomputable def psi (f n : Nat) (G : Gh) (B : Nat → List (Tg × ByteArray)) (m : Mk) : Nat := sm n fun t => pot f n G B m (phs f n G m t) t + (m.mem.waits t).length
theorem pot_ph {ph ph' : Nat} (h : ph' ≤ ph) : pot f n G B m ph' t ≤ pot f n G B m ph t := by
  unfold pot
  refine Nat.add_le_add_right ?_ _
  generalize G.pt t = g
  match g with
  | some ⟨.wait, q, d⟩ =>
    show rkW f n G.ch (m.regs t) ph' q ≤ rkW f n G.ch (m.regs t) ph q
    unfold rkW
    repeat' split
    all_goals omega
  | some ⟨.enter, _, _⟩ => exact Nat.le_refl _
  | some ⟨.leave, _, _⟩ => exact Nat.le_refl _
  | some ⟨.rest, _, _⟩ => exact Nat.le_refl _
  | some ⟨.gone, _, _⟩ => exact Nat.le_refl _
  | some ⟨.get, _, _⟩ => exact Nat.le_refl _
  | some ⟨.read, _, _⟩ => exact Nat.le_refl _
  | some ⟨.new _, _, _⟩ => exact Nat.le_refl _
  | some ⟨.pub, _, _⟩ => exact Nat.le_refl _
  | some ⟨.free, _, _⟩ => exact Nat.le_refl _
  | none => exact Nat.le_refl _
theorem Spun.keep {G' : Gh} {B' : Nat → List (Tg × ByteArray)} {m' : Mk} (h : Spun f n G B m t G' B' m') {ph ph' : Nat} (h6 : ph = 6) (h' : ph' ≤ 6) : pot f n G' B' m' ph' t ≤ pot f n G B m ph t := by
  obtain ⟨q, d, i, -, -, -, ⟨-, -, h2⟩ | ⟨-, h2⟩⟩ := h
  · have := h2 ph ph'; omega
  · have := h2 ph ph'; omega
theorem pot_up {ph ph' : Nat} : pot f n G B m ph' t ≤ pot f n G B m ph t + (ph' - ph) := by
  unfold pot
  generalize G.pt t = g
  match g with
  | some ⟨.wait, q, d⟩ =>
    show rkW f n G.ch (m.regs t) ph' q + _ ≤ rkW f n G.ch (m.regs t) ph q + _ + (ph' - ph)
    unfold rkW
    repeat' split
    all_goals omega
  | some ⟨.enter, _, _⟩ => exact Nat.le_add_right _ _
  | some ⟨.leave, _, _⟩ => exact Nat.le_add_right _ _
  | some ⟨.rest, _, _⟩ => exact Nat.le_add_right _ _
  | some ⟨.gone, _, _⟩ => exact Nat.le_add_right _ _
  | some ⟨.get, _, _⟩ => exact Nat.le_add_right _ _
  | some ⟨.read, _, _⟩ => exact Nat.le_add_right _ _
  | some ⟨.new _, _, _⟩ => exact Nat.le_add_right _ _
  | some ⟨.pub, _, _⟩ => exact Nat.le_add_right _ _
  | some ⟨.free, _, _⟩ => exact Nat.le_add_right _ _
  | none => exact Nat.le_add_right _ _
theorem phs_not (h : ¬ Qt f n G m) : phs f n G m t = 6 := if_neg h
theorem phs_yes (h : Qt f n G m) : phs f n G m t = phO f (m.regs t) (G.pt t) := if_pos h
theorem psi_drain (h : m.mem.waits t ≠ []) (ht : t < n) : psi f n G B (m.drain1 t) + 1 ≤ psi f n G B m := by
  have hQ : ¬ Qt f n G m := fun q => h (q t ht).1
  have hp : ∀ u, pot f n G B (m.drain1 t) (phs f n G (m.drain1 t) u) u ≤ pot f n G B m (phs f n G m u) u := fun u => by
    rw [phs_not hQ]
    have e : ∀ ph, pot f n G B (m.drain1 t) ph u = pot f n G B m ph u := fun ph => by unfold pot; rw [(drain1_regs m t).1]
    rw [e]
    exact pot_ph (phs_le _ _ _ _ _).2
  unfold psi
  refine sm_less t ht (fun u _ => ?_) ?_
  · have h1 := hp u
    have h2 := drain1_wlen m t u
    omega
  · have h1 := hp t
    have h2 := drain1_less m t h
    omega
theorem Good2.falls (h : Good2 f n pr G B m) (hwd : ∀ c k, Wd (m.mem.ar.words c k)) (hwr : ∀ t j, Wd (m.regs t j)) (ht : t < n) (hd : doneAt (cd f (pr t)) (m.pc t) = false) : ∃ G' B', Good2 f n pr G' B' (m.step (cd f (pr t)) t) ∧ (∀ u, u < n → u ≠ t → G'.pt u = G.pt u) ∧
    (psi f n G' B' (m.step (cd f (pr t)) t) + 1 ≤ psi f n G B m ∨
      psi f n G' B' (m.step (cd f (pr t)) t) ≤ psi f n G B m ∧ ¬ Qt f n G m ∧ spinsAt f (G.pt t) ∧ spinsAt f (G'.pt t) ∧ ∀ u, u < n → ((m.step (cd f (pr t)) t).mem.waits u).length = (m.mem.waits u).length) := by
  have hz : Qt f n G m → ∀ u, u < n → sh m u = 0 := fun q u hu => h.1.rest_zero hu (q u hu).1 (fun h3 e => h.2.2 h3 u hu e) (q u hu).2
  obtain ⟨G', B', hG, hO, hN, hS⟩ := h.step hwd hwr ht hd
  generalize m.step (cd f (pr t)) t = m' at *
  refine ⟨G', B', hG, fun u hu e => (hO u hu e).1, ?_⟩
  by_cases hQ : Qt f n G m
  · left
    rcases (hQ t ht).2 with e | hsp
    · exfalso
      have hl := (h.2.1 t ht).1
      rw [e] at hl
      obtain ⟨hl, -⟩ : m.pc t = (cd f (pr t)).length ∧ B t = [] := hl
      unfold doneAt at hd
      rw [hl, List.getElem?_eq_none (Nat.le_refl _)] at hd
      cases hd
    · obtain ⟨hw, q, d, i, hg, hi, hs, hc⟩ := hS hsp
      have hpt : phs f n G m t = phW f q (m.regs t) := by
        rw [phs_yes hQ, hg]
        exact if_pos hs
      rcases hc with ⟨-, -, h1⟩ | ⟨⟨q', hg', hs', h2⟩, h1⟩
      · unfold Go.Proofs.YtpjabgdcpogdiaaGreatDoor.psi
        have h3 := h1 (phs f n G m t) (phs f n G' m' t)
        have h4 := phs_le f n G m t
        suffices hpay : sm n (fun t => pot f n G' B' m' (phs f n G' m' t) t + (m'.mem.waits t).length) + 5 + 1 ≤ sm n (fun t => pot f n G B m (phs f n G m t) t + (m.mem.waits t).length) by omega
        refine sm_pay2 t ht (fun u hu e => ?_) ?_
        · obtain ⟨-, -, -, o1, o2⟩ := hO u hu e
          rw [o2]
          have h5 := pot_up (f := f) (n := n) (G := G) (B := B) (m := m) (t := u) (ph := phs f n G m u) (ph' := phs f n G' m' u)
          have h6 := phs_le f n G m u
          have h7 := phs_le f n G' m' u
          omega
        · omega
      · have hQ' : Qt f n G' m' := fun u hu => by
          by_cases e : u = t
          · subst e
            exact ⟨List.length_eq_zero_iff.1 (by have := (hQ u hu).1; rw [this] at hw; simpa using hw), .inr (by rw [hg']; exact hs')⟩
          · obtain ⟨o1, -, -, o2, -⟩ := hO u hu e
            rw [o1]
            exact ⟨List.length_eq_zero_iff.1 (by have := (hQ u hu).1; rw [this] at o2; simpa using o2), (hQ u hu).2⟩
        have hpt' : phs f n G' m' t = phW f q' (m'.regs t) := by
          rw [phs_yes hQ', hg']
          exact if_pos hs'
        have h3 := h2 (hQ t ht).1 (fun u hu => hz hQ u (h.1.1.chl u hu))
        have h4 := h1 (phs f n G m t) (phs f n G' m' t)
        unfold Go.Proofs.YtpjabgdcpogdiaaGreatDoor.psi
        refine sm_less t ht (fun u hu => ?_) ?_
        · by_cases e : u = t
          · subst e
            rw [hpt, hpt'] at h4 ⊢
            omega
          · obtain ⟨o0, -, o3, o1, o2⟩ := hO u hu e
            rw [o2]
            have : phs f n G' m' u = phs f n G m u := by rw [phs_yes hQ, phs_yes hQ', o0, o3]
            rw [this]
            omega
        · rw [hpt, hpt'] at h4 ⊢
          omega
  · have ho : ∀ u, u < n → u ≠ t → pot f n G' B' m' (phs f n G' m' u) u ≤ pot f n G B m (phs f n G m u) u := fun u hu e => by
      rw [(hO u hu e).2.2.2.2, phs_not hQ]
      exact pot_ph (phs_le _ _ _ _ _).2
    by_cases hsp : spinsAt f (G.pt t)
    · obtain ⟨hw, hsn⟩ := hS hsp
      have ht' : pot f n G' B' m' (phs f n G' m' t) t ≤ pot f n G B m (phs f n G m t) t := by
        rw [phs_not hQ]
        exact hsn.keep rfl (phs_le _ _ _ _ _).2
      have hall : ∀ u, u < n → pot f n G' B' m' (phs f n G' m' u) u ≤ pot f n G B m (phs f n G m u) u ∧ (m'.mem.waits u).length ≤ (m.mem.waits u).length := fun u hu => by
        by_cases e : u = t
        · subst e; exact ⟨ht', hw⟩
        · exact ⟨ho u hu e, (hO u hu e).2.2.2.1⟩
      obtain ⟨q, d, i, hg, hi, hs, hc⟩ := hsn
      have hle : ∀ u, u < n → pot f n G' B' m' (phs f n G' m' u) u + (m'.mem.waits u).length ≤ pot f n G B m (phs f n G m u) u + (m.mem.waits u).length := fun u hu => by
        have := hall u hu; omega
      rcases hc with ⟨-, -, h1⟩ | ⟨⟨q', hg', hs', -⟩, h1⟩
      · left
        unfold Go.Proofs.YtpjabgdcpogdiaaGreatDoor.psi
        refine sm_less t ht hle ?_
        have h3 := h1 (phs f n G m t) (phs f n G' m' t)
        have h4 := phs_le f n G m t
        omega
      · by_cases hx : ∃ u, u < n ∧ (m'.mem.waits u).length < (m.mem.waits u).length
        · obtain ⟨u, hu, hlt⟩ := hx
          left
          unfold Go.Proofs.YtpjabgdcpogdiaaGreatDoor.psi
          refine sm_less u hu hle ?_
          have := hall u hu
          omega
        · right
          refine ⟨by unfold Go.Proofs.YtpjabgdcpogdiaaGreatDoor.psi; exact sm_le hle, hQ, hsp, by rw [hg']; exact hs', fun u hu => ?_⟩
          have h2 := (hall u hu).2
          have h3 : ¬ (m'.mem.waits u).length < (m.mem.waits u).length := fun e => hx ⟨u, hu, e⟩
          omega
    · left
      unfold Go.Proofs.YtpjabgdcpogdiaaGreatDoor.psi
      refine sm_less t ht (fun u hu => ?_) ?_
      · by_cases e : u = t
        · subst e
          have h1 := hN hsp (phs f n G m u) (phs f n G' m' u) (phs_le _ _ _ _ _).2
          omega
        · have h1 := ho u hu e
          have h2 := (hO u hu e).2.2.2.1
          omega
      · have h1 := hN hsp (phs f n G m t) (phs f n G' m' t) (phs_le _ _ _ _ _).2
        omega
end
end Go.Proofs.YtpjabgdcpogdiaaGreatDoor

/- GpK -/
namespace Go.Proofs.YtpjabgdcpogdiaaGreatDoor
open Go.RowKit

def Same (f n : Nat) (G : Gh) (m : Mk) (G' : Gh) (m' : Mk) : Prop := ∀ u, u < n → (G'.pt u = none ↔ G.pt u = none) ∧ (spinsAt f (G'.pt u) ↔ spinsAt f (G.pt u)) ∧ (m'.mem.waits u = [] ↔ m.mem.waits u = [])
def Idle (f n : Nat) (G : Gh) (m : Mk) (k : Int) : Prop :=
  (k % (2 * (n : Int)) < n → G.pt (k % (2 * (n : Int))).toNat = none ∨ spinsAt f (G.pt (k % (2 * (n : Int))).toNat) ∧ ¬ Qt f n G m) ∧ ((n : Int) ≤ k % (2 * (n : Int)) → m.mem.waits (k % (2 * (n : Int)) - n).toNat = [])
section
variable {f n : Nat} {pr : Nat → List (Tg × ByteArray)} {G G' G2 : Gh} {B : Nat → List (Tg × ByteArray)} {m m' m2 : Mk} {t : Nat}
theorem Same.refl (f n : Nat) (G : Gh) (m : Mk) : Same f n G m G m := fun _ _ => ⟨Iff.rfl, Iff.rfl, Iff.rfl⟩
theorem Same.trans (h : Same f n G m G' m') (k : Same f n G' m' G2 m2) : Same f n G m G2 m2 := fun u hu => ⟨(k u hu).1.trans (h u hu).1, (k u hu).2.1.trans (h u hu).2.1, (k u hu).2.2.trans (h u hu).2.2⟩
theorem Same.qt (h : Same f n G m G' m') : Qt f n G m → Qt f n G' m' := fun q u hu => by
  obtain ⟨h1, h2, h3⟩ := h u hu
  refine ⟨h3.2 (q u hu).1, ?_⟩
  rcases (q u hu).2 with e | e
  · exact .inl (h1.2 e)
  · exact .inr (h2.2 e)
theorem Same.idle (h : Same f n G m G' m') (hn : 0 < n) {k : Int} (hi : Idle f n G' m' k) : Idle f n G m k := by
  have hb := Int.emod_lt_of_pos k (show (0 : Int) < 2 * (n : Int) by omega)
  have h0 := Int.emod_nonneg k (show (2 * (n : Int)) ≠ 0 by omega)
  refine ⟨fun e => ?_, fun e => ?_⟩
  · obtain ⟨h1, h2, -⟩ := h (k % (2 * (n : Int))).toNat (by omega)
    rcases hi.1 e with e1 | ⟨e1, e2⟩
    · exact .inl (h1.1 e1)
    · exact .inr ⟨h2.1 e1, fun q => e2 (h.qt q)⟩
  · exact (h (k % (2 * (n : Int)) - n).toNat (by omega)).2.2.1 (hi.2 e)
theorem Good2.turn (h : Good2 f n pr G B m) {cs : List (List Ins)} {K : Nat} (ok : MkOk cs.length K m) (hn : cs.length = n) (h0 : 0 < n) (hcs : ∀ t, t < n → cs[t]? = some (cd f (pr t))) (k : Int) :
    ∃ G' B', Good2 f n pr G' B' (m.turnO cs k).2 ∧ (psi f n G' B' (m.turnO cs k).2 + 1 ≤ psi f n G B m ∨ psi f n G' B' (m.turnO cs k).2 ≤ psi f n G B m ∧ Same f n G m G' (m.turnO cs k).2 ∧ Idle f n G m k) := by
  subst hn
  have hb := Int.emod_lt_of_pos k (show (0 : Int) < 2 * (cs.length : Int) by omega)
  have hg0 := Int.emod_nonneg k (show (2 * (cs.length : Int)) ≠ 0 by omega)
  unfold Mk.turnO
  unfold Idle
  generalize k % (2 * (cs.length : Int)) = x at *
  split
  · rename_i hx
    unfold Mk.stepO
    rw [if_pos ⟨hg0, hx⟩]
    have ht : x.toNat < cs.length := by omega
    have e : cs.getD x.toNat [] = cd f (pr x.toNat) := by rw [List.getD_eq_getElem?_getD, hcs _ ht]; rfl
    rw [e]
    split
    · rename_i hd
      refine ⟨G, B, h, .inr ⟨Nat.le_refl _, Same.refl _ _ _ _, fun _ => .inl ?_, fun e => by omega⟩⟩
      have hl := (h.2.1 _ ht).1
      cases hg : G.pt x.toNat with
      | none => rfl
      | some p =>
        exfalso
        obtain ⟨tg, q, d⟩ := p
        rw [hg] at hl
        obtain ⟨A, P, k1, d', k', hLe, hpc, hq, hA, -⟩ := hl
        have := (gstep hLe hpc (List.getElem?_eq_getElem hq) hA (tg_ok h.1.1.fl tg)).1
        rw [this] at hd
        cases hd
    · rename_i hd
      obtain ⟨G', B', hG, hO, hc⟩ := h.falls ok.mem.words ok.regs ht (by simpa using hd)
      refine ⟨G', B', hG, ?_⟩
      rcases hc with hc | ⟨hc, hQ, hs, hs', hw⟩
      · exact .inl hc
      · refine .inr ⟨hc, fun u hu => ⟨?_, ?_, ?_⟩, fun _ => .inr ⟨hs, hQ⟩, fun e => by omega⟩
        · by_cases e : u = x.toNat
          · subst e
            constructor
            · intro e; rw [e] at hs'; exact hs'.elim
            · intro e; rw [e] at hs; exact hs.elim
          · rw [hO u hu e]
        · by_cases e : u = x.toNat
          · subst e; exact ⟨fun _ => hs, fun _ => hs'⟩
          · rw [hO u hu e]
        · rw [← List.length_eq_zero_iff, ← List.length_eq_zero_iff, hw u hu]
  · rename_i hx
    unfold Mk.drainO
    rw [if_pos ⟨by omega, by omega⟩]
    have ht : (x - cs.length).toNat < cs.length := by omega
    split
    · rename_i hw
      exact ⟨G, B, h, .inr ⟨Nat.le_refl _, Same.refl _ _ _ _, fun e => absurd e hx, fun _ => hw⟩⟩
    · rename_i hw
      exact ⟨G, B, h.drain1 ht, .inl (psi_drain hw ht)⟩
theorem Good2.run {cs : List (List Ins)} (hR : Right cs) (hn : cs.length = n) (h0 : 0 < n) (hcs : ∀ t, t < n → cs[t]? = some (cd f (pr t))) : ∀ (l : List Int) {K : Nat} {G : Gh} {B : Nat → List (Tg × ByteArray)} {m : Mk}, Good2 f n pr G B m → MkOk cs.length K m → K + l.length ≤ 60000000 →
    ∃ G' B', Good2 f n pr G' B' (m.runO cs l).2 ∧ (psi f n G' B' (m.runO cs l).2 + 1 ≤ psi f n G B m ∨ psi f n G' B' (m.runO cs l).2 ≤ psi f n G B m ∧ Same f n G m G' (m.runO cs l).2 ∧ ∀ k ∈ l, Idle f n G m k)
  | [], _, G, B, m, h, _, _ => ⟨G, B, h, .inr ⟨Nat.le_refl _, Same.refl _ _ _ _, fun _ e => absurd e List.not_mem_nil⟩⟩
  | k :: l, K, G, B, m, h, ok, hK => by
    rw [List.length_cons] at hK
    obtain ⟨G1, B1, h1, c1⟩ := h.turn ok hn h0 hcs k
    obtain ⟨G2, B2, h2, c2⟩ := Good2.run hR hn h0 hcs l h1 (ok.turnO hR k (by omega)) (by omega)
    refine ⟨G2, B2, h2, ?_⟩
    show psi f n G2 B2 ((m.turnO cs k).2.runO cs l).2 + 1 ≤ _ ∨ _
    rcases c1 with c1 | ⟨c1, s1, i1⟩
    · left
      rcases c2 with c2 | ⟨c2, -, -⟩ <;> omega
    · rcases c2 with c2 | ⟨c2, s2, i2⟩
      · left; omega
      · refine .inr ⟨?_, s1.trans s2, fun k' hk' => ?_⟩
        · show psi f n G2 B2 ((m.turnO cs k).2.runO cs l).2 ≤ _
          omega
        · rcases List.mem_cons.1 hk' with rfl | hk'
          · exact i1
          · exact s1.idle h0 (i2 k' hk')
def AtRest (n : Nat) (G : Gh) (m : Mk) : Prop := ∀ u, u < n → G.pt u = none ∧ m.mem.waits u = []
theorem idle_rest {l : List Int} (hl : ∀ j : Nat, j < 2 * n → ∃ k ∈ l, k % (2 * (n : Int)) = j) (hi : ∀ k ∈ l, Idle f n G m k) : AtRest n G m := by
  have hw : ∀ u, u < n → m.mem.waits u = [] := fun u hu => by
    obtain ⟨k, hk, e⟩ := hl (n + u) (by omega)
    have := (hi k hk).2
    rw [e] at this
    rw [show (((n + u : Nat) : Int) - n).toNat = u by omega] at this
    exact this (by omega)
  have hp : ∀ u, u < n → G.pt u = none ∨ spinsAt f (G.pt u) ∧ ¬ Qt f n G m := fun u hu => by
    obtain ⟨k, hk, e⟩ := hl u (by omega)
    have := (hi k hk).1
    rw [e] at this
    exact this (by omega)
  have hQ : Qt f n G m := fun u hu => ⟨hw u hu, by
    rcases hp u hu with e | ⟨e, -⟩
    · exact .inl e
    · exact .inr e⟩
  exact fun u hu => ⟨by
    rcases hp u hu with e | ⟨-, e⟩
    · exact e
    · exact absurd hQ e, hw u hu⟩
end
end Go.Proofs.YtpjabgdcpogdiaaGreatDoor

/- GpL -/
namespace Go.Proofs.YtpjabgdcpogdiaaGreatDoor
open Go.RowKit

theorem runO_cat (cs : List (List Ins)) : ∀ (l l' : List Int) (m : Mk), (m.runO cs (l ++ l')).2 = ((m.runO cs l).2.runO cs l').2
  | [], _, _ => rfl
  | k :: l, l', m => runO_cat cs l l' (m.turnO cs k).2
def Covers (n : Nat) (l : List Int) : Prop := ∀ j : Nat, j < 2 * n → ∃ k ∈ l, k % (2 * (n : Int)) = j
section
variable {f n : Nat} {pr : Nat → List (Tg × ByteArray)} {G : Gh} {B : Nat → List (Tg × ByteArray)} {m : Mk}
theorem Good2.still (h : Good2 f n pr G B m) (hr : AtRest n G m) {cs : List (List Ins)} (hn : cs.length = n) (hcs : ∀ t, t < n → cs[t]? = some (cd f (pr t))) (k : Int) : (m.turnO cs k).2 = m := by
  subst hn
  unfold Mk.turnO
  split
  · generalize k % (2 * (cs.length : Int)) = x
    unfold Mk.stepO
    split
    · rename_i hx
      have ht : x.toNat < cs.length := by omega
      have e : cs.getD x.toNat [] = cd f (pr x.toNat) := by rw [List.getD_eq_getElem?_getD, hcs _ ht]; rfl
      rw [e]
      have hl := (h.2.1 _ ht).1
      rw [(hr _ ht).1] at hl
      obtain ⟨hl, -⟩ : m.pc x.toNat = (cd f (pr x.toNat)).length ∧ B x.toNat = [] := hl
      have hd : doneAt (cd f (pr x.toNat)) (m.pc x.toNat) = true := by
        unfold doneAt
        rw [hl, List.getElem?_eq_none (Nat.le_refl _)]
      rw [if_pos hd]
    · rfl
  · generalize k % (2 * (cs.length : Int)) - cs.length = x
    unfold Mk.drainO
    split
    · rename_i hx
      have ht : x.toNat < cs.length := by omega
      rw [if_pos (hr _ ht).2]
    · rfl
theorem Good2.still_run (h : Good2 f n pr G B m) (hr : AtRest n G m) {cs : List (List Ins)} (hn : cs.length = n) (hcs : ∀ t, t < n → cs[t]? = some (cd f (pr t))) : ∀ l : List Int, (m.runO cs l).2 = m
  | [] => rfl
  | k :: l => by
    show ((m.turnO cs k).2.runO cs l).2 = m
    rw [h.still hr hn hcs k]
    exact h.still_run hr hn hcs l
theorem Good2.rounds {cs : List (List Ins)} (hR : Right cs) (hn : cs.length = n) (h0 : 0 < n) (hcs : ∀ t, t < n → cs[t]? = some (cd f (pr t))) : ∀ (L : List (List Int)) {K : Nat} {G : Gh} {B : Nat → List (Tg × ByteArray)} {m : Mk}, Good2 f n pr G B m → MkOk cs.length K m → K + L.flatten.length ≤ 60000000 → (∀ l ∈ L, Covers n l) → psi f n G B m < L.length →
    ∃ G' B', Good2 f n pr G' B' (m.runO cs L.flatten).2 ∧ AtRest n G' (m.runO cs L.flatten).2
  | [], _, _, _, _, _, _, _, _, hp => absurd hp (Nat.not_lt_zero _)
  | l :: L, K, G, B, m, h, ok, hK, hc, hp => by
    rw [List.flatten_cons, List.length_append] at hK
    rw [List.length_cons] at hp
    obtain ⟨G1, B1, h1, c1⟩ := h.run hR hn h0 hcs l ok (by omega)
    rcases c1 with c1 | ⟨-, -, c1⟩
    · rw [List.flatten_cons, runO_cat]
      exact Good2.rounds hR hn h0 hcs L h1 (ok.runO hR l (by omega)) (by omega) (fun l' hl' => hc l' (List.mem_cons_of_mem _ hl')) (by omega)
    · have hr := idle_rest (hc l List.mem_cons_self) c1
      rw [h.still_run hr hn hcs]
      exact ⟨G, B, h, hr⟩
end
end Go.Proofs.YtpjabgdcpogdiaaGreatDoor

/- StA -/
namespace Go.Proofs.YtpjabgdcpogdiaaGreatDoor
open Go.RowKit

structure Sta where
  cells : Int
  init : List (List Int)
  regs : List (List Int)

def wordOk (x : Int) : Bool := decide (0 ≤ x ∧ x < 4294967296)
def rowOk (longest : Nat) (row : List Int) : Bool := decide (row.length ≤ longest) && row.all wordOk
def rowsOk (longest : Nat) (R : List (List Int)) : Bool := R.all (rowOk longest)
noncomputable def codesFrom : Nat → List (List Ins) → Nat × Int
  | _, [] => (0, -1)
  | i, L :: cs => if (codeFault L).1 = 0 then codesFrom (i + 1) cs else ((codeFault L).1, i)
def Sta.fits (s : Sta) (n : Nat) : Bool := (decide ((s.init.length : Int) ≤ s.cells) && rowsOk 4 s.init) && (decide (s.regs.length ≤ n) && rowsOk 8 s.regs)
open Classical in
noncomputable def Sta.fault (s : Sta) (cs : List (List Ins)) : Nat × Int :=
  if 1 ≤ s.cells ∧ s.cells ≤ 64 ∧ 1 ≤ cs.length ∧ cs.length ≤ 6 ∧ s.fits cs.length = true then codesFrom 0 cs else (2, -1)

theorem codesFrom_none : ∀ (cs : List (List Ins)) (i : Nat), (∀ (t : Nat) L, cs[t]? = some L → (codeFault L).1 = 0) → codesFrom i cs = (0, -1)
  | [], _, _ => rfl
  | L :: cs, i, h => by
    unfold codesFrom
    rw [if_pos (h 0 L rfl)]
    exact codesFrom_none cs (i + 1) (fun t L' ht => h (t + 1) L' (by simpa using ht))
theorem codesFrom_hit : ∀ (cs : List (List Ins)) (i j : Nat) (L : List Ins), cs[j]? = some L → (codeFault L).1 ≠ 0 → (∀ (t : Nat) L', t < j → cs[t]? = some L' → (codeFault L').1 = 0) → codesFrom i cs = ((codeFault L).1, ((i + j : Nat) : Int))
  | [], _, _, _, h, _, _ => by simp at h
  | M :: cs, i, j, L, hL, h1, h2 => by
    unfold codesFrom
    cases j with
    | zero => simp at hL; subst hL; rw [if_neg h1]; rfl
    | succ j =>
      rw [if_pos (h2 0 M (by omega) rfl), codesFrom_hit cs (i + 1) j L (by simpa using hL) h1 (fun t L' ht hl => h2 (t + 1) L' (by omega) (by simpa using hl))]
      rw [show i + 1 + j = i + (j + 1) by omega]

theorem faultFrom_zero (l : List Ins) : ∀ (r : List Ins) (j : Nat), (faultFrom l j r).1 = 0 → ∀ (k : Nat) x, r[k]? = some x → insFault l (j + k) x = 0
  | [], _, _, k, x, hx => by simp at hx
  | y :: r, j, h, k, x, hx => by
    unfold faultFrom at h
    split at h
    · rename_i h0
      cases k with
      | zero => simp at hx; subst hx; exact h0
      | succ k => rw [show j + (k + 1) = j + 1 + k by omega]; exact faultFrom_zero l r (j + 1) h k x (by simpa using hx)
    · rename_i h0; exact absurd h h0
theorem insOk_of {L : List Ins} {i : Nat} {x : Ins} (h : insFault L i x = 0) : InsOk L x := by
  unfold insFault at h
  split at h
  · rename_i h0; exact absurd h h0
  · rename_i h0
    split at h
    · cases h
    · split at h
      · cases h
      · rename_i h2
        refine ⟨by simpa using h0, fun ht => ?_⟩
        rcases Int.lt_or_le (labelAt L x.to) 0 with h3 | h3
        · exact absurd ⟨ht, h3⟩ h2
        · exact h3
theorem codeFault_right {L : List Ins} (h : (codeFault L).1 = 0) : L.length ≤ 2000 ∧ ∀ (i : Nat) x, L[i]? = some x → InsOk L x := by
  unfold codeFault at h
  split at h
  · cases h
  · rename_i hl
    exact ⟨by omega, fun i x hx => insOk_of (by simpa using faultFrom_zero L L 0 h i x hx)⟩
theorem right_of {cs : List (List Ins)} (h : ∀ (t : Nat) L, cs[t]? = some L → (codeFault L).1 = 0) (h1 : 1 ≤ cs.length) (h6 : cs.length ≤ 6) (hs : ∀ (t : Nat) L, cs[t]? = some L → ∀ (i : Nat) x, L[i]? = some x → x.to.size ≤ maxLen) : Right cs where
  right t L ht := by
    obtain ⟨h2, h3⟩ := codeFault_right (h t L ht)
    exact ⟨h2, fun i x hx => ⟨h3 i x hx, hs t L ht i x hx⟩⟩
  few := h6
  some' := h1

def rowAt (R : List (List Int)) (t r : Nat) : Int := (R.getD t []).getD r 0
def Ar.filled (s : Ar) (R : List (List Int)) : Ar where
  size := s.size
  given c := if c < R.length then 1 else s.given c
  there c := if c < R.length then true else s.there c
  words c k := if c < R.length ∧ k < 4 then rowAt R c k else s.words c k
def Sta.mach (s : Sta) (n : Nat) : Mk where
  mem := { Rm.fresh s.cells.toNat n with ar := (Rm.fresh s.cells.toNat n).ar.filled s.init }
  regs t r := rowAt s.regs t r
  pc _ := 0
  marks := []
  faults := 0
end Go.Proofs.YtpjabgdcpogdiaaGreatDoor
