import Derived.Test.YtpjabgdcpogdiaaGreatDoorE13

/- GpC -/
namespace Go.Proofs.YtpjabgdcpogdiaaGreatDoor
open Go.RowKit

def dstR : GI → Option Nat
  | .load r _ _ => some r
  | .const r _ => some r
  | .move r _ => some r
  | .add r _ _ => some r
  | .sub r _ _ => some r
  | .swap r _ _ => some r
  | .cas _ r _ => some r
  | .alloc r => some r
  | _ => none
theorem keepR (m : Mk) (t : Nat) (i : GI) {j : Nat} (h : dstR i ≠ some j) : (gExec m t i).regs t j = m.regs t j := by
  have key : ∀ (m : Mk) (r : Nat) (v : Int), dstR i = some r → (m.setReg t r v).regs t j = m.regs t j := fun m r v e => by
    rw [setReg_reg, if_neg (fun e2 => h (by rw [e, e2]))]
  cases i with
  | load r a k => show (m.load _ _ _ _).regs t j = _; unfold Mk.load; split <;> exact key _ _ _ rfl
  | const r v => exact key _ _ _ rfl
  | move r a => exact key _ _ _ rfl
  | add r a b => exact key _ _ _ rfl
  | sub r a b => exact key _ _ _ rfl
  | store a r k =>
    show (m.store _ _ _ _).regs t j = _
    unfold Mk.store
    split
    · rw [show ((m.room t).put t (m.regs t a) k (m.regs t r)).regs = (m.room t).regs from rfl, (room_regs m t).1]
    · rfl
  | swap r a k => show (m.swap _ _ _ _ _).regs t j = _; unfold Mk.swap; split <;> exact key _ _ _ rfl
  | cas a r k => show (m.cas _ _ _ _ _ _).regs t j = _; unfold Mk.cas; split <;> exact key _ _ _ rfl
  | force => show (m.fenceFrom _ _).regs t j = _; rw [(fenceFrom_regs _ m 0).1]
  | alloc r => show (m.alloc _ _).regs t j = _; unfold Mk.alloc; split <;> exact key _ _ _ rfl
  | free r => show (m.free _ _).regs t j = _; unfold Mk.free; split <;> rfl
  | need r => show (m.need _).regs t j = _; unfold Mk.need; split <;> rfl
  | _ => rfl

def Lx (f : Nat) (C : List Nat) (r : Nat → Int) : Option Pt → Prop
  | some ⟨.enter, q, _⟩ => f = 4 → 11 ≤ q → q ≤ 18 → r 0 = 0 ∨ ∃ u ∈ C, r 0 = (u : Int) + 2
  | some ⟨.wait, q, _⟩ => match stage f q with
    | 7 => r 0 ≠ 0
    | 8 => r 0 ≠ 0
    | 9 => r 0 ≠ 0 ∧ r 1 = (2 + r 0) % 4294967296
    | 10 => ∃ x : Int, x ≠ 0 ∧ Wd x ∧ r 1 = (2 + x) % 4294967296
    | 11 => ∃ x : Int, x ≠ 0 ∧ Wd x ∧ r 1 = (2 + x) % 4294967296
    | 12 => r 1 ≠ 0
    | 13 => r 1 ≠ 0
    | 14 => r 1 ≠ 0
    | _ => True
  | _ => True
theorem Lx.more {f : Nat} {C C' : List Nat} {r : Nat → Int} {g : Option Pt} (h : Lx f C r g) (hs : ∀ u ∈ C, u ∈ C') : Lx f C' r g := by
  match g, h with
  | some ⟨.enter, q, d⟩, h =>
    intro hf h1 h2
    rcases h hf h1 h2 with e | ⟨u, hu, e⟩
    · exact .inl e
    · exact .inr ⟨u, hs u hu, e⟩
  | some ⟨.wait, q, d⟩, h => exact h
  | some ⟨.leave, q, d⟩, h => exact h
  | some ⟨.rest, q, d⟩, h => exact h
  | some ⟨.gone, q, d⟩, h => exact h
  | some ⟨.get, q, d⟩, h => exact h
  | some ⟨.read, q, d⟩, h => exact h
  | some ⟨.new v, q, d⟩, h => exact h
  | some ⟨.pub, q, d⟩, h => exact h
  | some ⟨.free, q, d⟩, h => exact h
  | none, h => exact h
theorem sub_back {x y : Int} (hx : x ≠ 0) (hw : Wd x) (hy : y = (2 + x) % 4294967296) : (y - 2) % 4294967296 ≠ 0 := by
  obtain ⟨h1, h2⟩ := hw
  omega
set_option maxRecDepth 20000 in
set_option maxHeartbeats 4000000 in
theorem wait_Lx {f q d : Nat} (hf : 1 ≤ f ∧ f ≤ 4) {C : List Nat} {r r' : Nat → Int} {i : GI} (hi : (gWait f)[q]? = some i) (h : Lx f C r (some ⟨.wait, q, d⟩)) (hw : ∀ j, Wd (r j)) (h8 : stage f q = 8 → r 1 = 2) (h11 : stage f q = 11 → r 0 = 2)
    (hk : ∀ j, dstR i ≠ some j → r' j = r j) (hm : ∀ a b, i = .move a b → r' a = r b) (ha : ∀ a b c, i = .add a b c → r' a = (r b + r c) % 4294967296) (hs : ∀ a b c, i = .sub a b c → r' a = (r b - r c) % 4294967296) :
    Lx f C r' (some ⟨.wait, gNext (gWait f) q r i, d⟩) := by
  have hf4 : f = 1 ∨ f = 2 ∨ f = 3 ∨ f = 4 := by omega
  have hq := (List.getElem?_eq_some_iff.1 hi).1
  have hl : (gWait f).length ≤ 25 := by rcases hf4 with rfl | rfl | rfl | rfl <;> decide
  rcases hf4 with rfl | rfl | rfl | rfl
  all_goals
    obtain rfl | rfl | rfl | rfl | rfl | rfl | rfl | rfl | rfl | rfl | rfl | rfl | rfl | rfl | rfl | rfl | rfl | rfl | rfl | rfl | rfl | rfl | rfl | rfl | rfl : q = 0 ∨ q = 1 ∨ q = 2 ∨ q = 3 ∨ q = 4 ∨ q = 5 ∨ q = 6 ∨ q = 7 ∨ q = 8 ∨ q = 9 ∨ q = 10 ∨ q = 11 ∨ q = 12 ∨ q = 13 ∨ q = 14 ∨ q = 15 ∨ q = 16 ∨ q = 17 ∨ q = 18 ∨ q = 19 ∨ q = 20 ∨ q = 21 ∨ q = 22 ∨ q = 23 ∨ q = 24 := by omega
  all_goals first
    | (exfalso; exact absurd hq (by decide))
    | (obtain rfl : _ = i := Option.some.inj (show some _ = some i from hi)
       first
       | exact trivial
       | (have h : r 0 ≠ 0 := h; have e : r' 0 = r 0 := hk 0 (by decide); have h8 := h8 rfl; have e1 := ha _ _ _ rfl; exact ⟨by rw [e]; exact h, by rw [e, ← h8]; exact e1⟩)
       | (have h : r 0 ≠ 0 := h; have e : r' 0 = r 0 := hk 0 (by decide); show r' 0 ≠ 0; rw [e]; exact h)
       | (have h : r 0 ≠ 0 := h; have e := hm _ _ rfl; show r' 1 ≠ 0; rw [e]; exact h)
       | (have h : r 0 ≠ 0 ∧ r 1 = (2 + r 0) % 4294967296 := h; have e : r' 1 = r 1 := hk 1 (by decide); exact ⟨r 0, h.1, hw 0, by rw [e]; exact h.2⟩)
       | (obtain ⟨x, h1, h2, h3⟩ : ∃ x : Int, x ≠ 0 ∧ Wd x ∧ r 1 = (2 + x) % 4294967296 := h; have e : r' 1 = r 1 := hk 1 (by decide); exact ⟨x, h1, h2, by rw [e]; exact h3⟩)
       | (obtain ⟨x, h1, h2, h3⟩ : ∃ x : Int, x ≠ 0 ∧ Wd x ∧ r 1 = (2 + x) % 4294967296 := h; have e := hs _ _ _ rfl; have h11 := h11 rfl; show r' 1 ≠ 0; rw [e, h11]; exact sub_back h1 h2 h3)
       | (have h : r 1 ≠ 0 := h; have e : r' 1 = r 1 := hk 1 (by decide); show r' 1 ≠ 0; rw [e]; exact h)
       | (have h : r 1 ≠ 0 := h; have e : r' 1 = r 1 := hk 1 (by decide); by_cases e2 : r 0 = r 1
          · simp [Lx, gNext, gAt, gLab, gWait, gFence, stage, e2, e, h]
          · simp [Lx, gNext, stage, e2])
       | (by_cases e2 : r 2 = 0 <;> simp [Lx, gNext, gAt, gLab, gWait, gFence, stage, e2]; done)
       | (have e : r' 0 = r 0 := hk 0 (by decide); by_cases e2 : r 0 = 0 <;> simp [Lx, gNext, gAt, gLab, gWait, gFence, stage, e2, e]; done)
       | (by_cases e2 : r 6 = 0 <;> simp [Lx, gNext, gAt, gLab, gWait, stage, e2]; done))
theorem enter_Lx {q d : Nat} {C C' : List Nat} {r r' : Nat → Int} {i : GI} (hi : (gEnter 4)[q]? = some i) (h : Lx 4 C r (some ⟨.enter, q, d⟩)) (hC : ∀ u ∈ C, u ∈ C') (hk : dstR i ≠ some 0 → r' 0 = r 0)
    (hn : q = 10 ∨ q = 15 → r' 0 = 0 ∨ ∃ u ∈ C', r' 0 = (u : Int) + 2) : Lx 4 C' r' (some ⟨.enter, gNext (gEnter 4) q r i, d⟩) := by
  intro _ g1 g2
  have hq : q < 23 := (List.getElem?_eq_some_iff.1 hi).1
  by_cases h10 : q = 10 ∨ q = 15
  · exact hn h10
  · have keep : 11 ≤ q → q ≤ 18 → dstR i ≠ some 0 → r' 0 = 0 ∨ ∃ u ∈ C', r' 0 = (u : Int) + 2 := fun a b c => by
      rw [hk c]
      rcases h rfl a b with e | ⟨u, hu, e⟩
      · exact .inl e
      · exact .inr ⟨u, hC u hu, e⟩
    obtain rfl | rfl | rfl | rfl | rfl | rfl | rfl | rfl | rfl | rfl | rfl | rfl | rfl | rfl | rfl | rfl | rfl | rfl | rfl | rfl | rfl | rfl | rfl : q = 0 ∨ q = 1 ∨ q = 2 ∨ q = 3 ∨ q = 4 ∨ q = 5 ∨ q = 6 ∨ q = 7 ∨ q = 8 ∨ q = 9 ∨ q = 10 ∨ q = 11 ∨ q = 12 ∨ q = 13 ∨ q = 14 ∨ q = 15 ∨ q = 16 ∨ q = 17 ∨ q = 18 ∨ q = 19 ∨ q = 20 ∨ q = 21 ∨ q = 22 := by omega
    all_goals
      obtain rfl : _ = i := Option.some.inj (show some _ = some i from hi)
      first
      | exact keep (by decide) (by decide) (by decide)
      | (exfalso; revert g1; decide)
      | (exfalso; revert g2; decide)
      | (exfalso; exact h10 (by decide))
      | (exfalso; revert g1 g2; by_cases e : r 0 = 0 <;> simp [gNext, gAt, gLab, gEnter, gOuter, gJoin, gShow, e]; done)
      | (exfalso; revert g1 g2; by_cases e : r 0 = r 6 <;> simp [gNext, gAt, gLab, gEnter, gOuter, gJoin, gShow, e]; done)
end Go.Proofs.YtpjabgdcpogdiaaGreatDoor

/- GpD -/
namespace Go.Proofs.YtpjabgdcpogdiaaGreatDoor
open Go.RowKit

theorem ixl_get : ∀ {C : List Nat} {u : Nat}, u ∈ C → C[ixl C u]? = some u
  | [], _, h => absurd h List.not_mem_nil
  | x :: C, u, h => by
    show (x :: C)[if x = u then 0 else ixl C u + 1]? = some u
    by_cases e : x = u
    · rw [if_pos e, e]; rfl
    · rw [if_neg e]
      exact ixl_get (C := C) (by
        rcases List.mem_cons.1 h with h | h
        · exact absurd h.symm e
        · exact h)
theorem ixl_inj {C : List Nat} {u v : Nat} (hu : u ∈ C) (hv : v ∈ C) (e : ixl C u = ixl C v) : u = v := by
  have h1 := ixl_get hu
  have h2 := ixl_get hv
  rw [e, h2] at h1
  exact (Option.some.inj h1).symm
theorem nodup_len : ∀ (n : Nat) (C : List Nat), C.Nodup → (∀ u ∈ C, u < n) → C.length ≤ n
  | 0, [], _, _ => Nat.le_refl _
  | 0, x :: C, _, h => absurd (h x List.mem_cons_self) (Nat.not_lt_zero _)
  | n + 1, C, hn, h => by
    by_cases hm : n ∈ C
    · have h1 := nodup_len n (C.erase n) (hn.erase _) (fun u hu => by
        have h2 := h u (List.mem_of_mem_erase hu)
        have h3 : u ≠ n := fun e => by
          subst e
          exact hn.not_mem_erase hu
        omega)
      rw [List.length_erase_of_mem hm] at h1
      omega
    · exact Nat.le_succ_of_le (nodup_len n C hn (fun u hu => by
        have h2 := h u hu
        have h3 : u ≠ n := fun e => hm (e ▸ hu)
        omega))

def wTest (f : Nat) : Bool := (List.range 25).all fun q => match (gWait f)[q]? with
  | none => true
  | some i => (stage f q != 1 || i == .move 2 7) && (stage f q != 3 || i == .load 2 2 1) && (stage f q == 1 || stage f q == 3 || dstR i != some 2)
theorem wait_tab {f q : Nat} {i : GI} (hf : 1 ≤ f ∧ f ≤ 4) (hi : (gWait f)[q]? = some i) : (stage f q = 1 → i = .move 2 7) ∧ (stage f q = 3 → i = .load 2 2 1) ∧ (stage f q ≠ 1 → stage f q ≠ 3 → dstR i ≠ some 2) := by
  have hf4 : f = 1 ∨ f = 2 ∨ f = 3 ∨ f = 4 := by omega
  have hq := (List.getElem?_eq_some_iff.1 hi).1
  have hl : (gWait f).length ≤ 25 := by rcases hf4 with rfl | rfl | rfl | rfl <;> decide
  have ht : wTest f = true := by rcases hf4 with rfl | rfl | rfl | rfl <;> decide
  have h1 := List.all_eq_true.1 ht q (List.mem_range.2 (by omega))
  simp only [hi, Bool.and_eq_true, Bool.or_eq_true, bne_iff_ne, beq_iff_eq] at h1
  obtain ⟨⟨h1, h2⟩, h3⟩ := h1
  refine ⟨fun e => h1.resolve_left (fun h => h e), fun e => h2.resolve_left (fun h => h e), fun a b => ?_⟩
  rcases h3 with (h3 | h3) | h3
  · exact absurd h3 a
  · exact absurd h3 b
  · exact h3

section
variable {f n : Nat} {G : Gh} {m : Mk} {t q d : Nat} {i : GI}
theorem PI.chain_len (h : PI f n G m) : G.ch.length ≤ n := nodup_len n G.ch h.chn h.chl
theorem PD.far_val (h : PD f n G m) {r c k : Nat} {v : Int} (hc : c ≤ n + 1) (hv : v = (c : Int) + 1) (hw : ∀ x ∈ m.mem.waits t, ¬ (x.c = (c : Int) ∧ x.w = (k : Int))) : (m.load t r v k).regs t r = m.mem.ar.words c k := by
  obtain ⟨L, g0, r0⟩ := h.1.cell hc
  rw [hv, ← r0, load_live L, setReg_reg, if_pos rfl]
  unfold vw
  exact foldl_none (fun x hx e => hw x hx ⟨e.1, e.2.2⟩)
theorem PD.hub_val (h : PD f n G m) (ht : t < n) {r k : Nat} : (m.load t r (m.regs t 7) k).regs t r = m.mem.ar.words 0 k := by
  refine h.far_val (c := 0) (by omega) (by rw [h.1.r7 t ht]; rfl) (fun x hx e => ?_)
  rcases (h.1.wts t ht x hx).2 with ⟨h1, -⟩ | h1 <;> (have := e.1; omega)
theorem PI.head (h : PI f n G m) : (G.ch = [] ∧ m.mem.ar.words 0 1 = 0) ∨ ∃ u ∈ G.ch, m.mem.ar.words 0 1 = (u : Int) + 2 ∧ ixl G.ch u + 1 = G.ch.length := by
  have hh := h.chh
  cases hl : G.ch.getLast? with
  | none =>
    rw [hl] at hh
    exact .inl ⟨List.getLast?_eq_none_iff.1 hl, hh⟩
  | some u =>
    rw [hl] at hh
    rw [List.getLast?_eq_getElem?] at hl
    have hm := List.mem_of_getElem? hl
    refine .inr ⟨u, hm, hh, ?_⟩
    rw [ixl_at h.chn hl]
    have := List.length_pos_iff.2 (List.ne_nil_of_mem hm)
    omega
theorem cix_of {C : List Nat} (u : Nat) : cix n C ((u : Int) + 2) = ixl C u := by
  unfold cix
  rw [if_neg (by omega)]
  congr 1
  omega
theorem PD.link_val (h : PD f n G m) (ht : t < n) (hS : Scan G.ch (Ol G t) (sh m) (m.regs t) 3) : (m.load t 2 (m.regs t 2) 1).regs t 2 = 0 ∨ ((m.load t 2 (m.regs t 2) 1).regs t 2 ≠ 0 ∧ cix n G.ch ((m.load t 2 (m.regs t 2) 1).regs t 2) + 1 ≤ cix n G.ch (m.regs t 2)) := by
  have hlen := h.1.chain_len
  rcases hS with ⟨h1, -⟩ | ⟨i, u, h1, h2, -, -⟩
  · have e : (m.load t 2 (m.regs t 2) 1).regs t 2 = m.mem.ar.words 0 1 := by
      refine h.far_val (c := 0) (by omega) (by rw [h1]; rfl) (fun x hx e => ?_)
      rcases (h.1.wts t ht x hx).2 with ⟨h5, -⟩ | h5 <;> (have := e.1; omega)
    rw [e, h1]
    rcases h.1.head with ⟨-, e0⟩ | ⟨u, hu, e0, e1⟩
    · exact .inl e0
    · refine .inr ⟨by rw [e0]; omega, ?_⟩
      rw [e0, cix_of]
      show ixl G.ch u + 1 ≤ n
      omega
  · have hu := List.mem_of_getElem? h1
    have hun := h.1.chl u hu
    have e : (m.load t 2 (m.regs t 2) 1).regs t 2 = m.mem.ar.words (u + 1) 1 := by
      refine h.far_val (c := u + 1) (by omega) (by rw [h2]; omega) (fun x hx e => ?_)
      rcases (h.1.wts t ht x hx).2 with ⟨h5, -, -, h6⟩ | h5
      · have e1 : u = t := by have := e.1; omega
        subst e1
        exact (h6 e.2).2 hu
      · have := e.1; omega
    rw [e, h2, cix_of, h.1.chw i u h1, ixl_at h.1.chn h1]
    cases i with
    | zero => exact .inl rfl
    | succ j =>
      obtain ⟨v, hv⟩ : ∃ v, G.ch[j]? = some v := ⟨_, List.getElem?_eq_getElem (by have := (List.getElem?_eq_some_iff.1 h1).1; omega)⟩
      right
      show (match G.ch[j]? with | none => 0 | some v => (v : Int) + 2) ≠ 0 ∧ cix n G.ch (match G.ch[j]? with | none => 0 | some v => (v : Int) + 2) + 1 ≤ j + 1
      rw [hv]
      refine ⟨by show (v : Int) + 2 ≠ 0; omega, ?_⟩
      show cix n G.ch ((v : Int) + 2) + 1 ≤ j + 1
      rw [cix_of, ixl_at h.1.chn hv]
      exact Nat.le_refl _
theorem PD.wait_rank (h : PD f n G m) (ht : t < n) (hp : G.pt t = some ⟨.wait, q, d⟩) (hi : (gWait f)[q]? = some i) (hs : ¬ spins f q) {ph ph' : Nat} (hph : ph' ≤ 6) :
    rkW f n G.ch ((gExec m t i).regs t) ph' (gNext (gWait f) q (m.regs t) i) + 1 ≤ rkW f n G.ch (m.regs t) ph q := by
  obtain ⟨t1, t3, t2⟩ := wait_tab h.1.fl hi
  have L := h.1.la t ht
  rw [hp] at L
  obtain ⟨-, -, -, Sc⟩ := L
  refine wait_down h.1.fl hi hs hph (fun e => ?_) (fun e => ?_) (fun a b => keepR m t i (t2 a b))
  · have e := t1 e
    subst e
    show (m.setReg t 2 (m.regs t 7)).regs t 2 = 1
    rw [setReg_reg, if_pos rfl]
    exact h.1.r7 t ht
  · rw [e] at Sc
    have e := t3 e
    subst e
    exact h.link_val ht Sc
end
end Go.Proofs.YtpjabgdcpogdiaaGreatDoor

/- GpE -/
namespace Go.Proofs.YtpjabgdcpogdiaaGreatDoor
open Go.RowKit

theorem jof_of {C : List Nat} (u : Nat) : jof C ((u : Int) + 2) = ixl C u + 1 := by
  unfold jof
  rw [if_neg (by omega), show ((u : Int) + 2 - 2).toNat = u by omega]
theorem enter_down2 {n q t : Nat} {C C' : List Nat} {r r' : Nat → Int} {i : GI} (hi : (gEnter 4)[q]? = some i) (hC : t ∈ C' ∨ C' = C) (hn : (11 ≤ q ∧ q ≤ 14) ∨ q = 18 → t ∉ C') (h0 : (11 ≤ q ∧ q ≤ 14) ∨ (16 ≤ q ∧ q ≤ 18) → r' 0 = r 0)
    (h15 : q = 15 → t ∈ C' ∨ C' = C ∧ t ∉ C ∧ jof C (r 0) + 1 ≤ jof C (r' 0) ∧ jof C (r' 0) ≤ n) : rkE n C' t r' (gNext (gEnter 4) q r i) + gw i ≤ rkE n C t r q := by
  by_cases ht : t ∈ C'
  · have hq : q < 23 := (List.getElem?_eq_some_iff.1 hi).1
    have hj : ∀ a, (n - a) * 10 ≤ n * 10 := fun a => Nat.mul_le_mul_right _ (Nat.sub_le _ _)
    have hj2 := hj (jof C' (r' 0))
    by_cases h1 : (11 ≤ q ∧ q ≤ 14) ∨ q = 18
    · exact absurd ht (hn h1)
    · obtain rfl | rfl | rfl | rfl | rfl | rfl | rfl | rfl | rfl | rfl | rfl | rfl | rfl | rfl | rfl | rfl | rfl | rfl : q = 0 ∨ q = 1 ∨ q = 2 ∨ q = 3 ∨ q = 4 ∨ q = 5 ∨ q = 6 ∨ q = 7 ∨ q = 8 ∨ q = 9 ∨ q = 10 ∨ q = 15 ∨ q = 16 ∨ q = 17 ∨ q = 19 ∨ q = 20 ∨ q = 21 ∨ q = 22 := by omega
      all_goals
        obtain rfl : _ = i := Option.some.inj (show some _ = some i from hi)
        clear hC hn h0 h15
        first
        | (simp [gNext, rkE, eTab, gw]; (try omega); done)
        | (simp [gNext, rkE, eTab, gw, ht]; (try omega); done)
        | (by_cases hc : t ∈ C <;> simp [gNext, rkE, eTab, gw, ht, hc] <;> (try omega); done)
        | (by_cases e0 : r 0 = 0 <;> simp [gNext, gAt, gLab, gEnter, gOuter, gJoin, gShow, rkE, eTab, gw, e0] <;> (try omega); done)
        | (by_cases e0 : r 0 = r 6 <;> simp [gNext, gAt, gLab, gEnter, gOuter, gJoin, gShow, rkE, eTab, gw, e0] <;> (try omega); done)
        | (by_cases hc : t ∈ C <;> by_cases e0 : r 0 = r 1 <;> simp [gNext, gAt, gLab, gEnter, gOuter, gJoin, gShow, rkE, gw, e0, ht, hc] <;> (try omega); done)
        | (simp [gNext, gAt, gLab, gEnter, gOuter, gJoin, gShow, rkE, eTab, gw]; (try omega); done)
  · rcases hC with h | rfl
    · exact absurd h ht
    · exact enter_down hi (fun _ => rfl) h0 h15 (fun _ => ht)
def eTest : Bool := (List.range 23).all fun q => match (gEnter 4)[q]? with
  | none => true
  | some i => (!(decide ((11 ≤ q ∧ q ≤ 14) ∨ (16 ≤ q ∧ q ≤ 18))) || dstR i != some 0) && (q != 10 || i == .load 0 7 1) && (q != 15 || i == .cas 7 0 1)
theorem enter_tab {q : Nat} {i : GI} (hi : (gEnter 4)[q]? = some i) : ((11 ≤ q ∧ q ≤ 14) ∨ (16 ≤ q ∧ q ≤ 18) → dstR i ≠ some 0) ∧ (q = 10 → i = .load 0 7 1) ∧ (q = 15 → i = .cas 7 0 1) := by
  have hq : q < 23 := (List.getElem?_eq_some_iff.1 hi).1
  have ht : eTest = true := by decide
  have h1 := List.all_eq_true.1 ht q (List.mem_range.2 (by omega))
  simp only [hi, Bool.and_eq_true, Bool.or_eq_true, bne_iff_ne, beq_iff_eq, Bool.not_eq_true', decide_eq_false_iff_not] at h1
  obtain ⟨⟨h1, h2⟩, h3⟩ := h1
  exact ⟨fun e => h1.resolve_left (fun h => h e), fun e => h2.resolve_left (fun h => h e), fun e => h3.resolve_left (fun h => h e)⟩
section
variable {n : Nat} {G G' : Gh} {m : Mk} {t q d : Nat} {i : GI}
theorem PD.cas_val (h : PD 4 n G m) (ht : t < n) : (gExec m t (.cas 7 0 1)).regs t 0 = (m.fence t).mem.ar.words 0 1 ∧ (gExec m t (.cas 7 0 1)).mem.ar.words 0 1 = casV ((m.fence t).mem.ar.words 0 1) (m.regs t 0) (m.regs t 1) := by
  obtain ⟨L, g0, r0⟩ := h.1.cell (show 0 ≤ n + 1 by omega)
  have r0 : rf m 0 = 1 := by rw [r0]; rfl
  have e : gExec m t (.cas 7 0 1) = ((m.fence t).setWord 1 1 (casV ((m.fence t).mem.ar.words 0 1) (m.regs t 0) (m.regs t 1))).setReg t 0 ((m.fence t).mem.ar.words 0 1) := by
    show m.cas t 0 (m.regs t 7) 1 (m.regs t 0) (m.regs t 1) = _
    unfold Mk.cas
    rw [h.1.r7 t ht, if_pos (by rw [← r0]; exact L.names)]
    rfl
  rw [e]
  refine ⟨by rw [setReg_reg, if_pos rfl], ?_⟩
  show (if (0 : Nat) = 0 ∧ (1 : Nat) = 1 then casV ((m.fence t).mem.ar.words 0 1) (m.regs t 0) (m.regs t 1) else (m.fence t).mem.ar.words 0 1) = _
  rw [if_pos ⟨rfl, rfl⟩]
theorem PD.enter_rank (h : PD 4 n G m) (ht : t < n) (hp : G.pt t = some ⟨.enter, q, d⟩) (hi : (gEnter 4)[q]? = some i) (hx : Lx 4 G.ch (m.regs t) (G.pt t)) (h' : PD 4 n G' (gExec m t i)) (hpt : G'.pt t = some ⟨.enter, gNext (gEnter 4) q (m.regs t) i, d⟩) (hch : G'.ch = G.ch ∨ G'.ch = G.ch ++ [t]) :
    rkE n G'.ch t ((gExec m t i).regs t) (gNext (gEnter 4) q (m.regs t) i) + gw i ≤ rkE n G.ch t (m.regs t) q ∧ Lx 4 G'.ch ((gExec m t i).regs t) (some ⟨.enter, gNext (gEnter 4) q (m.regs t) i, d⟩) := by
  obtain ⟨t0, t10, t15⟩ := enter_tab hi
  have L := h.1.la t ht
  rw [hp] at L
  have L := L.2
  have L' := h'.1.la t ht
  rw [hpt] at L'
  have L' := L'.2
  rw [hp] at hx
  have hC : ∀ u ∈ G.ch, u ∈ G'.ch := fun u hu => by
    rcases hch with e | e <;> rw [e]
    · exact hu
    · exact List.mem_append_left _ hu
  have hC2 : t ∈ G'.ch ∨ G'.ch = G.ch := by
    rcases hch with e | e
    · exact .inr e
    · exact .inl (by rw [e]; exact List.mem_append_right _ List.mem_cons_self)
  have hlen := h.1.chain_len
  have hF := (h.fence ht).1.head
  have hd := (h.fence ht).1.chain_len
  constructor
  · refine enter_down2 hi hC2 (fun e => ?_) (fun e => keepR m t i (t0 e)) (fun e => ?_)
    · have hq : q = 11 ∨ q = 12 ∨ q = 13 ∨ q = 14 ∨ q = 18 := by omega
      rcases hq with rfl | rfl | rfl | rfl | rfl
      all_goals
        obtain rfl : _ = i := Option.some.inj (show some _ = some i from hi)
      · exact L'.2.2.2
      · exact L'.1.2.2.2
      · exact L'.1.2.2.2
      · exact L'.1.2.2.2
      · exact L'.2.2.2
    · subst e
      have ei := t15 rfl
      subst ei
      rcases hC2 with h1 | h1
      · exact .inl h1
      · obtain ⟨v1, v2⟩ := h.cas_val ht
        have hnj : t ∉ G.ch := L.1.2.2.2
        have hr1 : m.regs t 1 = (t : Int) + 2 := L.2.1
        refine .inr ⟨h1, hnj, ?_⟩
        have hh' := h'.1.head
        rw [h1, v2] at hh'
        have hne : (m.fence t).mem.ar.words 0 1 ≠ m.regs t 0 := fun e => by
          unfold casV at hh'
          rw [if_pos e, hr1] at hh'
          rcases hh' with ⟨-, h2⟩ | ⟨u, hu, h2, -⟩
          · omega
          · have : u = t := by omega
            subst this
            exact hnj hu
        rw [v1]
        rcases hF with ⟨h2, h3⟩ | ⟨u, hu, h3, h4⟩
        · exfalso
          rcases hx rfl (by omega) (by omega) with h5 | ⟨w, hw, -⟩
          · exact hne (by rw [h3, h5])
          · rw [h2] at hw; cases hw
        · rw [h3] at hne ⊢
          rw [jof_of]
          refine ⟨?_, by omega⟩
          rcases hx rfl (by omega) (by omega) with h5 | ⟨w, hw, h5⟩
          · rw [h5]
            show 0 + 1 ≤ _
            omega
          · rw [h5, jof_of]
            have h6 := ixl_lt hw
            have h7 : ixl G.ch w ≠ ixl G.ch u := fun e => by
              have := ixl_inj hw hu e
              subst this
              exact hne h5.symm
            omega
  · refine enter_Lx hi hx hC (fun e => keepR m t i e) (fun e => ?_)
    rcases e with e | e
    · have ei := t10 e
      subst ei
      have hv : (gExec m t (.load 0 7 1)).regs t 0 = m.mem.ar.words 0 1 := h.hub_val ht
      rw [hv]
      rcases h.1.head with ⟨-, h3⟩ | ⟨u, hu, h3, -⟩
      · exact .inl h3
      · exact .inr ⟨u, hC u hu, h3⟩
    · have ei := t15 e
      subst ei
      rw [(h.cas_val ht).1]
      rcases hF with ⟨-, h3⟩ | ⟨u, hu, h3, -⟩
      · exact .inl h3
      · exact .inr ⟨u, hC u hu, h3⟩
end
end Go.Proofs.YtpjabgdcpogdiaaGreatDoor

/- GpF -/
namespace Go.Proofs.YtpjabgdcpogdiaaGreatDoor
open Go.RowKit

def wTest2 (f : Nat) : Bool := (gWait f).all fun i => gw i == 1
theorem wait_gw {f q : Nat} {i : GI} (hf : 1 ≤ f ∧ f ≤ 4) (hi : (gWait f)[q]? = some i) : gw i = 1 := by
  have hf4 : f = 1 ∨ f = 2 ∨ f = 3 ∨ f = 4 := by omega
  have ht : wTest2 f = true := by rcases hf4 with rfl | rfl | rfl | rfl <;> decide
  exact eq_of_beq (List.all_eq_true.1 ht i (List.mem_of_getElem? hi))
section
variable {f n : Nat} {G G' : Gh} {m : Mk} {t q d : Nat} {i : GI} {tg : Tg}
theorem PD.own_rank (h : PD f n G m) (hwr : ∀ j, Wd (m.regs t j)) (ht : t < n) (hp : G.pt t = some ⟨tg, q, d⟩) (hi : (tgCode f tg)[q]? = some i) (hx : Lx f G.ch (m.regs t) (G.pt t)) (h' : PD f n G' (gExec m t i)) (hpt : G'.pt t = some ⟨tg, gNext (tgCode f tg) q (m.regs t) i, d⟩)
    (hch : G'.ch = G.ch ∨ G'.ch = G.ch ++ [t] ∧ ∃ q2 d2, some (⟨tg, gNext (tgCode f tg) q (m.regs t) i, d⟩ : Pt) = some ⟨.enter, q2, d2⟩) :
    Lx f G'.ch ((gExec m t i).regs t) (some ⟨tg, gNext (tgCode f tg) q (m.regs t) i, d⟩) ∧ (¬ (tg = .wait ∧ spins f q) → ∀ ph ph', ph' ≤ 6 → rkT f n G'.ch t ((gExec m t i).regs t) ph' (some ⟨tg, gNext (tgCode f tg) q (m.regs t) i, d⟩) + gw i ≤ rkT f n G.ch t (m.regs t) ph (some ⟨tg, q, d⟩)) := by
  have hf := h.1.fl
  have plain : tg ≠ .wait → (tg = .enter → f ≠ 4) → sfx (tgCode f tg) (gNext (tgCode f tg) q (m.regs t) i) + gw i ≤ sfx (tgCode f tg) q := fun a b => fwd_down (tg_fwd hf a b) hi _
  cases tg with
  | wait =>
    have hC : G'.ch = G.ch := by
      rcases hch with e | ⟨-, q2, d2, e⟩
      · exact e
      · cases e
    have L := h.1.la t ht
    rw [hp] at L
    obtain ⟨-, -, -, Sc⟩ := L
    rw [hp] at hx
    rw [hC]
    have set : ∀ (r : Nat) (v : Int), (m.setReg t r v).regs t r = v := fun r v => by rw [setReg_reg, if_pos rfl]
    refine ⟨wait_Lx hf hi hx hwr (fun e => ?_) (fun e => ?_) (fun j => keepR m t i) (fun a b e => ?_) (fun a b c e => ?_) (fun a b c e => ?_), fun hns ph ph' hph => ?_⟩
    · rw [e] at Sc; exact Sc.1
    · rw [e] at Sc; exact Sc.1
    · subst e; exact set _ _
    · subst e; exact set _ _
    · subst e; exact set _ _
    · rw [wait_gw hf hi]
      exact h.wait_rank ht hp hi (fun e => hns ⟨rfl, e⟩) hph
  | enter =>
    by_cases h4 : f = 4
    · subst h4
      have hC : G'.ch = G.ch ∨ G'.ch = G.ch ++ [t] := by
        rcases hch with e | ⟨e, -⟩
        · exact .inl e
        · exact .inr e
      obtain ⟨h1, h2⟩ := h.enter_rank ht hp hi hx h' hpt hC
      exact ⟨h2, fun _ ph ph' _ => h1⟩
    · refine ⟨fun e => absurd e h4, fun _ ph ph' _ => ?_⟩
      show (if f = 4 then _ else sfx (gEnter f) _) + gw i ≤ if f = 4 then _ else sfx (gEnter f) q
      rw [if_neg h4, if_neg h4]
      exact plain (by decide) (fun _ => h4)
  | leave => exact ⟨trivial, fun _ ph ph' _ => plain (by decide) (fun e => by cases e)⟩
  | rest => exact ⟨trivial, fun _ ph ph' _ => plain (by decide) (fun e => by cases e)⟩
  | gone => exact ⟨trivial, fun _ ph ph' _ => plain (by decide) (fun e => by cases e)⟩
  | get => exact ⟨trivial, fun _ ph ph' _ => plain (by decide) (fun e => by cases e)⟩
  | read => exact ⟨trivial, fun _ ph ph' _ => plain (by decide) (fun e => by cases e)⟩
  | new v => exact ⟨trivial, fun _ ph ph' _ => plain (fun e => by cases e) (fun e => by cases e)⟩
  | pub => exact ⟨trivial, fun _ ph ph' _ => plain (by decide) (fun e => by cases e)⟩
  | free => exact ⟨trivial, fun _ ph ph' _ => plain (by decide) (fun e => by cases e)⟩
theorem scan_at {C : List Nat} {O : Nat → Prop} {s r : Nat → Int} {k : Nat} (h : Scan C O s r k) (h2 : 2 ≤ k) (h15 : k ≤ 15) (h4 : ¬ (k = 4 ∧ r 2 = 0)) : r 2 = 1 ∨ ∃ u ∈ C, r 2 = (u : Int) + 2 := by
  have cur : ∀ {P : Nat → Prop}, Cur C O r P → r 2 = 1 ∨ ∃ u ∈ C, r 2 = (u : Int) + 2 := fun ⟨i, u, a, b, _⟩ => .inr ⟨u, List.mem_of_getElem? a, b⟩
  have hk : k = 2 ∨ k = 3 ∨ k = 4 ∨ k = 5 ∨ k = 6 ∨ k = 7 ∨ k = 8 ∨ k = 9 ∨ k = 10 ∨ k = 11 ∨ k = 12 ∨ k = 13 ∨ k = 14 ∨ k = 15 := by omega
  rcases hk with rfl | rfl | rfl | rfl | rfl | rfl | rfl | rfl | rfl | rfl | rfl | rfl | rfl | rfl
  · rcases h with ⟨a, -⟩ | h
    · exact .inl a
    · exact cur h
  · rcases h with ⟨a, -⟩ | h
    · exact .inl a
    · exact cur h
  · rcases h with ⟨a, -⟩ | h
    · exact absurd ⟨rfl, a⟩ h4
    · exact cur h
  · exact cur h
  · exact cur h
  · exact cur h
  · exact cur h.2
  · exact cur h.2
  · exact cur h
  · exact cur h.2
  · exact cur h
  · exact cur h
  · exact cur h
  · exact cur h
theorem cix_app {C D : List Nat} {r : Int} (h : r = 1 ∨ ∃ u ∈ C, r = (u : Int) + 2) : cix n (C ++ D) r = cix n C r := by
  rcases h with rfl | ⟨u, hu, rfl⟩
  · rfl
  · rw [cix_of, cix_of, ixl_app hu]
theorem jof_app {C D : List Nat} {r : Int} (h : r = 0 ∨ ∃ u ∈ C, r = (u : Int) + 2) : jof (C ++ D) r = jof C r := by
  rcases h with rfl | ⟨u, hu, rfl⟩
  · rfl
  · rw [jof_of, jof_of, ixl_app hu]
theorem PD.other_rank (h : PD f n G m) {u : Nat} (hu : u < n) (hut : u ≠ t) (hx : Lx f G.ch (m.regs u) (G.pt u)) {C' : List Nat} (hch : C' = G.ch ∨ C' = G.ch ++ [t]) (ph : Nat) : rkT f n C' u (m.regs u) ph (G.pt u) = rkT f n G.ch u (m.regs u) ph (G.pt u) := by
  rcases hch with rfl | rfl
  · rfl
  · have L := h.1.la u hu
    generalize G.pt u = g at *
    match g, L, hx with
    | some ⟨.wait, q, d⟩, L, hx =>
      obtain ⟨-, -, -, Sc⟩ := L
      show rkW f n (G.ch ++ [t]) (m.regs u) ph q = rkW f n G.ch (m.regs u) ph q
      unfold rkW
      by_cases h0 : stage f q = 0
      · rw [if_pos h0, if_pos h0]
      · by_cases h1 : stage f q = 1
        · rw [if_neg h0, if_pos h1, if_neg h0, if_pos h1]
        · by_cases h16 : 16 ≤ stage f q
          · rw [if_neg h0, if_neg h1, if_pos h16, if_neg h0, if_neg h1, if_pos h16]
          · by_cases h4 : stage f q = 4 ∧ m.regs u 2 = 0
            · rw [if_neg h0, if_neg h1, if_neg h16, if_pos h4, if_neg h0, if_neg h1, if_neg h16, if_pos h4]
            · rw [cix_app (scan_at Sc (by omega) (by omega) h4)]
    | some ⟨.enter, q, d⟩, L, hx =>
      show (if f = 4 then rkE n (G.ch ++ [t]) u (m.regs u) q else sfx (gEnter f) q) = if f = 4 then rkE n G.ch u (m.regs u) q else sfx (gEnter f) q
      by_cases h4 : f = 4
      · rw [if_pos h4, if_pos h4]
        unfold rkE
        by_cases h1 : q ≤ 10
        · rw [if_pos h1, if_pos h1]
        · rw [if_neg h1, if_neg h1]
          by_cases h2 : q ≤ 18
          · rw [jof_app (hx h4 (by omega) h2)]
            have e : (u ∈ G.ch ++ [t]) = (u ∈ G.ch) := by
              apply propext
              constructor
              · intro hm
                rcases List.mem_append.1 hm with hm | hm
                · exact hm
                · exact absurd (List.mem_singleton.1 hm) hut
              · exact List.mem_append_left _
            simp only [e]
          · rw [if_neg (by omega), if_neg h2, if_neg (by omega), if_neg h2]
      · rw [if_neg h4, if_neg h4]
    | some ⟨.leave, q, d⟩, _, _ => rfl
    | some ⟨.rest, q, d⟩, _, _ => rfl
    | some ⟨.gone, q, d⟩, _, _ => rfl
    | some ⟨.get, q, d⟩, _, _ => rfl
    | some ⟨.read, q, d⟩, _, _ => rfl
    | some ⟨.new v, q, d⟩, _, _ => rfl
    | some ⟨.pub, q, d⟩, _, _ => rfl
    | some ⟨.free, q, d⟩, _, _ => rfl
    | none, _, _ => rfl
end
end Go.Proofs.YtpjabgdcpogdiaaGreatDoor
