import Derived.Test.YtpjabgdcpogdiaaGreatDoorE12

/- GcP -/
namespace Go.Proofs.YtpjabgdcpogdiaaGreatDoor
open Go.RowKit

inductive Kd
  | no | hold | set | ret | due | gone
deriving DecidableEq
def kin : Tg → Nat → Kd → Option (Nat × Kd)
  | .enter, d, .no => some (d + 1, .no)
  | .leave, d + 1, .no => some (d, .no)
  | .leave, d + 1, .hold => some (d, .no)
  | .rest, 0, .no => some (0, .no)
  | .gone, 0, .no => some (0, .gone)
  | .wait, 0, .ret => some (0, .due)
  | .get, d + 1, .no => some (d + 1, .hold)
  | .get, d + 1, .hold => some (d + 1, .hold)
  | .read, d + 1, .hold => some (d + 1, .hold)
  | .new v, 0, .no => if v = 0 then none else some (0, .set)
  | .pub, 0, .set => some (0, .ret)
  | .free, 0, .due => some (0, .no)
  | _, _, _ => none
def Disc : Nat → Kd → List Tg → Prop
  | d, k, [] => d = 0 ∧ (k = .no ∨ k = .gone)
  | d, k, tg :: l => d ≤ 100 ∧ ∃ d' k', kin tg d k = some (d', k') ∧ Disc d' k' l
def cd (f : Nat) : List (Tg × ByteArray) → List Ins
  | [] => []
  | x :: l => gCode x.2 (tgCode f x.1) ++ cd f l
def Apart (f : Nat) : List Ins → List (Tg × ByteArray) → Prop
  | _, [] => True
  | A, x :: l => noLab x.2 A ∧ Apart f (A ++ gCode x.2 (tgCode f x.1)) l
def kd : Kd → Nat
  | .set => 2
  | .ret => 3
  | .due => 3
  | _ => 0
def Bw (f : Nat) (J : Prop) (t d : Nat) (k : Kd) (V : Nat → Int) : Prop := (f = 3 → k ≠ .gone → V 0 % 2 = 1) ∧ (f ≠ 3 → Bs f J t d V)
structure BT (f : Nat) (G : Gh) (m : Mk) (t d : Nat) (k : Kd) : Prop where
  bw : Bw f (t ∈ G.ch) t d k (ov m t)
  none' : ¬ ∃ u, Ol G t u
  dst' : dst (G.pt t) = kd k
  reads' : k = .hold → reads (G.pt t)
  pre' : pre f (G.pt t) → k = .ret

theorem kin_new {v : Int} {d d' : Nat} {k k' : Kd} (h : kin (.new v) d k = some (d', k')) : d = 0 ∧ k = .no ∧ d' = 0 ∧ k' = .set ∧ v ≠ 0 := by
  cases d with
  | zero =>
    cases k with
    | no =>
      have h : (if v = 0 then none else some (0, Kd.set)) = some (d', k') := h
      split at h
      · cases h
      · rename_i hv
        cases h
        exact ⟨rfl, rfl, rfl, rfl, hv⟩
    | _ => exact nomatch h
  | succ d => cases k <;> exact nomatch h
theorem kin_dst {tg : Tg} {d d' : Nat} {k k' : Kd} (h : kin tg d k = some (d', k')) (e : Nat) : dst (some ⟨tg, 0, e⟩) = kd k := by
  cases tg with
  | new v => rw [(kin_new h).2.1]; rfl
  | _ => cases k <;> cases d <;> first | rfl | exact nomatch h
theorem kin_reads {tg : Tg} {d d' : Nat} {k k' : Kd} (h : kin tg d k = some (d', k')) {e : Nat} (hr : reads (some ⟨tg, 0, e⟩)) : k = .hold := by
  cases tg with
  | read => cases k <;> cases d <;> first | rfl | exact nomatch h
  | get => exact absurd hr (Nat.lt_irrefl 0)
  | _ => exact hr.elim
theorem kin_rest {d : Nat} {k : Kd} {x : Nat × Kd} (h : kin .rest d k = some x) : d = 0 ∧ k = .no := by
  cases d <;> cases k <;> first | exact ⟨rfl, rfl⟩ | exact nomatch h
theorem kin_gone {d : Nat} {k : Kd} {x : Nat × Kd} (h : kin .gone d k = some x) : d = 0 ∧ k = .no := by
  cases d <;> cases k <;> first | exact ⟨rfl, rfl⟩ | exact nomatch h
theorem kin_wait {d : Nat} {k : Kd} {x : Nat × Kd} (h : kin .wait d k = some x) : d = 0 ∧ k = .ret := by
  cases d <;> cases k <;> first | exact ⟨rfl, rfl⟩ | exact nomatch h
theorem kin_pub {d : Nat} {k : Kd} {x : Nat × Kd} (h : kin .pub d k = some x) : d = 0 ∧ k = .set := by
  cases d <;> cases k <;> first | exact ⟨rfl, rfl⟩ | exact nomatch h
theorem kin_free {d : Nat} {k : Kd} {x : Nat × Kd} (h : kin .free d k = some x) : d = 0 ∧ k = .due := by
  cases d <;> cases k <;> first | exact ⟨rfl, rfl⟩ | exact nomatch h
theorem kin_read {d : Nat} {k : Kd} {x : Nat × Kd} (h : kin .read d k = some x) : 0 < d ∧ k = .hold := by
  cases d <;> cases k <;> first | exact ⟨Nat.succ_pos _, rfl⟩ | exact nomatch h
theorem kin_get {d : Nat} {k : Kd} {x : Nat × Kd} (h : kin .get d k = some x) : 0 < d ∧ (k = .no ∨ k = .hold) := by
  cases d <;> cases k <;> first | exact ⟨Nat.succ_pos _, .inl rfl⟩ | exact ⟨Nat.succ_pos _, .inr rfl⟩ | exact nomatch h
theorem kin_leave {d : Nat} {k : Kd} {x : Nat × Kd} (h : kin .leave d k = some x) : 0 < d := by
  cases d <;> cases k <;> first | exact Nat.succ_pos _ | exact nomatch h
theorem stage_zero (f : Nat) : stage f 0 = 0 := by
  unfold stage
  by_cases h : f = 3
  · rw [if_pos h]; rfl
  · rw [if_neg h]
    by_cases h2 : f = 2
    · rw [if_pos h2]; rfl
    · rw [if_neg h2]
theorem kin_pre {f : Nat} {tg : Tg} {d d' : Nat} {k k' : Kd} (h : kin tg d k = some (d', k')) (hk : k = .ret) (e : Nat) : pre f (some ⟨tg, 0, e⟩) := by
  subst hk
  cases tg with
  | wait =>
    exact stage_zero f
  | new v => have := (kin_new h).2.1; cases this
  | _ => cases d <;> exact nomatch h
section
variable {f n : Nat} {G : Gh} {m : Mk} {t d d' : Nat} {k k' : Kd} {tg : Tg}
theorem BT.la0 (h : BT f G m t d k) (hk : kin tg d k = some (d', k')) (hne : tgCode f tg ≠ []) : La f G.ch (Ol G t) (sh m) t (ov m t) (m.regs t) (some ⟨tg, 0, d⟩) := by
  obtain ⟨b1, b2⟩ := h.bw
  have n3 : f = 3 ∨ f ≠ 3 := by omega
  have none' : ∀ u, ¬ Ol G t u := fun u hu => h.none' ⟨u, hu⟩
  have hB : (k ≠ .gone) → Bs f (t ∈ G.ch) t d (ov m t) := fun hk => by
    rcases n3 with e | e
    · exact ⟨fun _ => b1 e hk, fun e2 => absurd e e2, fun e2 => by omega⟩
    · exact b2 e
  cases tg with
  | enter =>
    have hf : f ≠ 3 := fun e => hne (by subst e; rfl)
    exact ⟨hf, b2 hf⟩
  | leave =>
    have hf : f ≠ 3 := fun e => hne (by subst e; rfl)
    exact ⟨hf, b2 hf, kin_leave hk⟩
  | rest =>
    have hf : f = 3 := by
      rcases n3 with e | e
      · exact e
      · exact absurd (if_neg e) hne
    exact ⟨hf, b1 hf (by rw [(kin_rest hk).2]; decide)⟩
  | gone =>
    have hf : f = 3 := by
      rcases n3 with e | e
      · exact e
      · exact absurd (if_neg e) hne
    exact ⟨hf, b1 hf (by rw [(kin_gone hk).2]; decide)⟩
  | wait =>
    obtain ⟨rfl, rfl⟩ := kin_wait hk
    refine ⟨rfl, fun e => b1 e (by decide), fun e => b2 e, ?_⟩
    rw [stage_zero]; exact none'
  | get =>
    obtain ⟨h1, h2⟩ := kin_get hk
    exact ⟨hB (by rcases h2 with rfl | rfl <;> decide), h1⟩
  | read =>
    obtain ⟨h1, rfl⟩ := kin_read hk
    exact ⟨hB (by decide), h1⟩
  | new v =>
    obtain ⟨h1, h2, -⟩ := kin_new hk
    exact ⟨hB (by rw [h2]; decide), h1⟩
  | pub =>
    obtain ⟨h1, rfl⟩ := kin_pub hk
    exact ⟨hB (by decide), h1⟩
  | free =>
    obtain ⟨h1, rfl⟩ := kin_free hk
    exact ⟨hB (by decide), h1⟩
theorem PD.begin (h : PD f n G m) (ht : t < n) (hb : BT f G m t d k) (hk : kin tg d k = some (d', k')) (hne : tgCode f tg ≠ []) : PD f n (G.at' t (some ⟨tg, 0, d⟩)) m :=
  h.reg ht rfl rfl (fun _ _ => rfl) (fun _ => rfl) (fun hr => .inl ⟨rfl, hb.reads' (kin_reads hk hr)⟩) rfl rfl rfl (hb.la0 hk hne) (fun e => absurd e hb.none') (by rw [hb.dst']; exact kin_dst hk d) (fun hp => .inl (kin_pre hk (hb.pre' hp) d)) (fun _ e => by cases e) (fun v q d2 e => by
    cases e
    exact ⟨(kin_new hk).2.2.2.2, fun e => by cases e⟩)
theorem PD.finish (h : PD f n G m) (ht : t < n) (hb : BT f G m t 0 k) (hk : k = .no ∨ k = .gone) : PD f n (G.at' t none) m := by
  refine h.reg ht rfl rfl (fun _ _ => rfl) (fun _ => rfl) (fun hr => hr.elim) rfl rfl rfl hb.bw.2 (fun e => absurd e hb.none') (by rw [hb.dst']; rcases hk with rfl | rfl <;> rfl) (fun hp => ?_) (fun _ e => by cases e) (fun _ _ _ e => by cases e)
  have := hb.pre' hp
  rcases hk with rfl | rfl <;> cases this
theorem BT.skip (hb : BT f G m t d k) (hk : kin tg d k = some (d', k')) (he : tgCode f tg = []) (hf : 1 ≤ f ∧ f ≤ 4) : BT f G m t d' k' := by
  obtain ⟨b1, b2⟩ := hb.bw
  have hf4 : f = 1 ∨ f = 2 ∨ f = 3 ∨ f = 4 := by omega
  have key : (tg = .enter ∨ tg = .leave) ∧ f = 3 ∨ (tg = .rest ∨ tg = .gone) ∧ f ≠ 3 := by
    cases tg <;> rcases hf4 with rfl | rfl | rfl | rfl <;> first | exact .inl ⟨.inl rfl, rfl⟩ | exact .inl ⟨.inr rfl, rfl⟩ | exact .inr ⟨.inl rfl, by decide⟩ | exact .inr ⟨.inr rfl, by decide⟩ | (cases he)
  rcases key with ⟨rfl | rfl, rfl⟩ | ⟨rfl | rfl, hf3⟩
  · cases k <;> cases hk
    exact ⟨⟨fun _ _ => b1 rfl (by decide), fun e => absurd rfl e⟩, hb.none', hb.dst', fun e => (nomatch e), fun e => nomatch hb.pre' e⟩
  · cases d <;> cases k <;> cases hk
    · exact ⟨⟨fun _ _ => b1 rfl (by decide), fun e => absurd rfl e⟩, hb.none', hb.dst', fun e => (nomatch e), fun e => nomatch hb.pre' e⟩
    · exact ⟨⟨fun _ _ => b1 rfl (by decide), fun e => absurd rfl e⟩, hb.none', hb.dst', fun e => (nomatch e), fun e => nomatch hb.pre' e⟩
  · cases d <;> cases k <;> cases hk
    exact ⟨⟨fun e => absurd e hf3, b2⟩, hb.none', hb.dst', fun e => (nomatch e), fun e => nomatch hb.pre' e⟩
  · cases d <;> cases k <;> cases hk
    exact ⟨⟨fun e => absurd e hf3, b2⟩, hb.none', hb.dst', fun e => (nomatch e), fun e => nomatch hb.pre' e⟩
theorem PD.behind (h : PD f n G m) (ht : t < n) (hp : G.pt t = some ⟨tg, (tgCode f tg).length, d⟩) (hne : tgCode f tg ≠ []) (hk : kin tg d k = some (d', k')) : BT f G m t d' k' := by
  have L := h.1.la t ht
  have hf := h.1.fl
  rw [hp] at L
  have hf4 : f = 1 ∨ f = 2 ∨ f = 3 ∨ f = 4 := by omega
  have hno : tg ≠ .wait → ¬ ∃ u, Ol G t u := h.noold ht hp
  cases tg with
  | enter =>
    obtain ⟨h3, L⟩ := L
    have hB : Bs f (t ∈ G.ch) t (d + 1) (ov m t) := by
      rcases hf4 with rfl | rfl | rfl | rfl
      · exact L
      · exact L
      · exact absurd rfl h3
      · exact L
    cases k <;> cases hk
    exact ⟨⟨fun e => absurd e h3, fun _ => hB⟩, hno (by decide), by rw [hp]; rfl, fun e => (nomatch e), fun e => by rw [hp] at e; exact e.elim⟩
  | leave =>
    obtain ⟨h3, L⟩ := L
    have hB : Bs f (t ∈ G.ch) t (d - 1) (ov m t) := by
      rcases hf4 with rfl | rfl | rfl | rfl
      · exact L
      · exact L
      · exact absurd rfl h3
      · exact L
    cases d <;> cases k <;> cases hk
    · exact ⟨⟨fun e => absurd e h3, fun _ => hB⟩, hno (by decide), by rw [hp]; rfl, fun e => (nomatch e), fun e => by rw [hp] at e; exact e.elim⟩
    · exact ⟨⟨fun e => absurd e h3, fun _ => hB⟩, hno (by decide), by rw [hp]; rfl, fun e => (nomatch e), fun e => by rw [hp] at e; exact e.elim⟩
  | rest =>
    obtain ⟨rfl, L⟩ := L
    cases d <;> cases k <;> cases hk
    exact ⟨⟨fun _ _ => L, fun e => absurd rfl e⟩, hno (by decide), by rw [hp]; rfl, fun e => (nomatch e), fun e => by rw [hp] at e; exact e.elim⟩
  | gone =>
    obtain ⟨rfl, L⟩ := L
    cases d <;> cases k <;> cases hk
    exact ⟨⟨fun _ e => absurd rfl e, fun e => absurd rfl e⟩, hno (by decide), by rw [hp]; rfl, fun e => (nomatch e), fun e => by rw [hp] at e; exact e.elim⟩
  | wait =>
    obtain ⟨hd, L3, Ln, Sc⟩ := L
    cases d <;> cases k <;> cases hk
    have hS : ∀ u, ¬ Ol G t u := by
      rcases hf4 with rfl | rfl | rfl | rfl
      · exact Sc
      · exact Sc
      · exact Sc
      · exact Sc
    refine ⟨⟨fun e _ => ?_, Ln⟩, fun ⟨u, hu⟩ => hS u hu, by rw [hp]; rfl, fun e => (nomatch e), fun e => ?_⟩
    · subst e; exact L3 rfl
    · rw [hp] at e
      rcases hf4 with rfl | rfl | rfl | rfl <;> cases e
  | get =>
    cases d <;> cases k <;> cases hk
    · exact ⟨⟨fun e _ => L.1.1 e, fun _ => L.1⟩, hno (by decide), by rw [hp]; rfl, fun _ => by rw [hp]; exact Nat.one_pos, fun e => by rw [hp] at e; exact e.elim⟩
    · exact ⟨⟨fun e _ => L.1.1 e, fun _ => L.1⟩, hno (by decide), by rw [hp]; rfl, fun _ => by rw [hp]; exact Nat.one_pos, fun e => by rw [hp] at e; exact e.elim⟩
  | read =>
    cases d <;> cases k <;> cases hk
    exact ⟨⟨fun e _ => L.1.1 e, fun _ => L.1⟩, hno (by decide), by rw [hp]; rfl, fun _ => by rw [hp]; exact trivial, fun e => by rw [hp] at e; exact e.elim⟩
  | new v =>
    obtain ⟨L, -⟩ := (show Bs f (t ∈ G.ch) t d (ov m t) ∧ d = 0 from L)
    obtain ⟨rfl, rfl, rfl, rfl, -⟩ := kin_new hk
    exact ⟨⟨fun e _ => L.1 e, fun _ => L⟩, hno (by intro e; cases e), by rw [hp]; rfl, fun e => (nomatch e), fun e => by rw [hp] at e; exact e.elim⟩
  | pub =>
    obtain ⟨L, hd⟩ := (show Bs f (t ∈ G.ch) t d (ov m t) ∧ d = 0 from L)
    subst hd
    cases k <;> cases hk
    exact ⟨⟨fun e _ => L.1 e, fun _ => L⟩, hno (by decide), by rw [hp]; rfl, fun e => (nomatch e), fun _ => rfl⟩
  | free =>
    obtain ⟨L, hd⟩ := (show Bs f (t ∈ G.ch) t d (ov m t) ∧ d = 0 from L)
    subst hd
    cases k <;> cases hk
    exact ⟨⟨fun e _ => L.1 e, fun _ => L⟩, hno (by decide), by rw [hp]; rfl, fun e => (nomatch e), fun e => by rw [hp] at e; exact e.elim⟩
end
end Go.Proofs.YtpjabgdcpogdiaaGreatDoor

/- GcQ -/
namespace Go.Proofs.YtpjabgdcpogdiaaGreatDoor
open Go.RowKit

theorem gExec_pc (m : Mk) (t : Nat) (i : GI) : (gExec m t i).pc = m.pc := by
  cases i with
  | load r a k => show (m.load _ _ _ _).pc = _; unfold Mk.load; split <;> rfl
  | store a r k =>
    show (m.store _ _ _ _).pc = _
    unfold Mk.store
    split
    · exact (room_regs m t).2
    · rfl
  | swap r a k => show (m.swap _ _ _ _ _).pc = _; unfold Mk.swap; split <;> rfl
  | cas a r k => show (m.cas _ _ _ _ _ _).pc = _; unfold Mk.cas; split <;> rfl
  | force => exact (fenceFrom_regs _ m 0).2
  | alloc r => show (m.alloc _ _).pc = _; unfold Mk.alloc; split <;> rfl
  | free r => show (m.free _ _).pc = _; unfold Mk.free; split <;> rfl
  | need r => show (m.need _).pc = _; unfold Mk.need; split <;> rfl
  | _ => rfl
theorem tg_ok {f : Nat} (hf : 1 ≤ f ∧ f ≤ 4) (tg : Tg) : gOk (tgCode f tg) = true := by
  have hf4 : f = 1 ∨ f = 2 ∨ f = 3 ∨ f = 4 := by omega
  rcases hf4 with rfl | rfl | rfl | rfl <;> cases tg <;> rfl
theorem gAt_lt {s : List GI} {l : Nat} (h : (gLab l s 0).isSome = true) : gAt l s < s.length := by
  obtain ⟨j, hj⟩ := Option.isSome_iff_exists.1 h
  unfold gAt
  rw [hj]
  have := (gLab_at hj).2.1
  rw [Nat.sub_zero] at this
  exact (List.getElem?_eq_some_iff.1 this).1
theorem gNext_le {s : List GI} {q : Nat} {i : GI} (r : Nat → Int) (hs : gOk s = true) (hq : s[q]? = some i) : gNext s q r i ≤ s.length := by
  have hlt := (List.getElem?_eq_some_iff.1 hq).1
  have hi := List.all_eq_true.1 hs i (List.mem_of_getElem? hq)
  cases i with
  | zero a l =>
    simp only [Bool.and_eq_true] at hi
    have := gAt_lt hi.2
    show (if r a = 0 then gAt l s else q + 1) ≤ _
    split <;> omega
  | same a b l =>
    simp only [Bool.and_eq_true] at hi
    have := gAt_lt hi.2
    show (if r a = r b then gAt l s else q + 1) ≤ _
    split <;> omega
  | goto l =>
    simp only [Bool.and_eq_true] at hi
    exact Nat.le_of_lt (gAt_lt hi.2)
  | _ => exact hlt

section
variable {f n : Nat} {pr : Nat → List (Tg × ByteArray)} {m : Mk} {t : Nat}
end

theorem noLab_nil (p : ByteArray) : noLab p [] := fun _ h => absurd h List.not_mem_nil
theorem noLab_append {p : ByteArray} {A B : List Ins} (h : noLab p A) (k : noLab p B) : noLab p (A ++ B) := fun y hy => by
  rcases List.mem_append.1 hy with hy | hy
  · exact h y hy
  · exact k y hy
theorem noLab_code {p p' : ByteArray} {s : List GI} (h : p' ≠ p ∨ ∀ l, GI.label l ∉ s) : noLab p (gCode p' s) := by
  intro y hy l hl
  obtain ⟨i, hi, rfl⟩ := List.mem_map.1 hy
  cases hb : setsLabel (i.ins p') (lb p l) with
  | false => rfl
  | true =>
    unfold setsLabel at hb
    simp only [Bool.and_eq_true] at hb
    obtain ⟨h1, h2⟩ := hb
    rw [toList_bl] at h1
    cases i with
    | label k =>
      have e : lb p' k = lb p l := by
        have := eq_of_beq h2
        rw [toList_bl, toList_bl] at this
        exact bl_inj this
      rcases h with h | h
      · exact absurd (lb_inj e).1 h
      · exact absurd hi (h k)
    | _ => exact Bool.noConfusion (show false = true from h1)
end Go.Proofs.YtpjabgdcpogdiaaGreatDoor

/- GpA -/
namespace Go.Proofs.YtpjabgdcpogdiaaGreatDoor
open Go.RowKit

def ixl : List Nat → Nat → Nat
  | [], _ => 0
  | x :: l, u => if x = u then 0 else ixl l u + 1
theorem ixl_at : ∀ {C : List Nat} {i u : Nat}, C.Nodup → C[i]? = some u → ixl C u = i
  | [], i, u, _, h => by simp at h
  | x :: C, 0, u, _, h => by
    obtain rfl : x = u := by simpa using h
    exact if_pos rfl
  | x :: C, i + 1, u, hn, h => by
    have h : C[i]? = some u := by simpa using h
    have hx : x ≠ u := fun e => (List.nodup_cons.1 hn).1 (by rw [e]; exact List.mem_of_getElem? h)
    show (if x = u then 0 else ixl C u + 1) = i + 1
    rw [if_neg hx, ixl_at (List.nodup_cons.1 hn).2 h]
theorem ixl_app : ∀ {C D : List Nat} {u : Nat}, u ∈ C → ixl (C ++ D) u = ixl C u
  | [], _, _, h => absurd h List.not_mem_nil
  | x :: C, D, u, h => by
    show (if x = u then 0 else ixl (C ++ D) u + 1) = (if x = u then 0 else ixl C u + 1)
    by_cases e : x = u
    · rw [if_pos e, if_pos e]
    · rw [if_neg e, if_neg e, ixl_app (by
        rcases List.mem_cons.1 h with h | h
        · exact absurd h.symm e
        · exact h)]
theorem ixl_lt : ∀ {C : List Nat} {u : Nat}, u ∈ C → ixl C u < C.length
  | [], _, h => absurd h List.not_mem_nil
  | x :: C, u, h => by
    show (if x = u then 0 else ixl C u + 1) < C.length + 1
    by_cases e : x = u
    · rw [if_pos e]; omega
    · rw [if_neg e]
      have := ixl_lt (C := C) (u := u) (by
        rcases List.mem_cons.1 h with h | h
        · exact absurd h.symm e
        · exact h)
      omega

def gw : GI → Nat
  | .store .. => 2
  | _ => 1
def sfx : List GI → Nat → Nat
  | [], _ => 0
  | x :: l, 0 => gw x + sfx l 0
  | _ :: l, q + 1 => sfx l q
theorem sfx_at : ∀ {s : List GI} {q : Nat} {i : GI}, s[q]? = some i → sfx s q = gw i + sfx s (q + 1)
  | [], q, i, h => by simp at h
  | x :: l, 0, i, h => by
    obtain rfl : x = i := by simpa using h
    show gw x + sfx l 0 = gw x + sfx l 0
    rfl
  | x :: l, q + 1, i, h => sfx_at (s := l) (by simpa using h)
theorem sfx_end : ∀ {s : List GI} {q : Nat}, s.length ≤ q → sfx s q = 0
  | [], _, _ => rfl
  | x :: l, 0, h => absurd h (by simp)
  | x :: l, q + 1, h => sfx_end (s := l) (by simpa using h)
theorem sfx_mono {s : List GI} {q : Nat} : ∀ {k : Nat}, sfx s (q + k) ≤ sfx s q
  | 0 => Nat.le_refl _
  | k + 1 => by
    refine Nat.le_trans ?_ (sfx_mono (k := k))
    cases h : s[q + k]? with
    | none =>
      have := List.getElem?_eq_none_iff.1 h
      rw [sfx_end (by omega), sfx_end this]
      exact Nat.le_refl _
    | some i => rw [sfx_at h]; exact Nat.le_add_left _ _
def fwd (s : List GI) : Bool := (List.range s.length).all fun q => match s[q]? with
  | some (.zero _ l) => decide (q < gAt l s)
  | some (.same _ _ l) => decide (q < gAt l s)
  | some (.goto l) => decide (q < gAt l s)
  | _ => true
theorem fwd_next {s : List GI} (h : fwd s = true) {q : Nat} {i : GI} (hi : s[q]? = some i) (r : Nat → Int) : q < gNext s q r i := by
  have hq := (List.getElem?_eq_some_iff.1 hi).1
  have h1 := List.all_eq_true.1 h q (List.mem_range.2 hq)
  simp only [hi] at h1
  cases i with
  | zero a l =>
    have h1 : q < gAt l s := of_decide_eq_true h1
    show q < (if r a = 0 then gAt l s else q + 1)
    split <;> omega
  | same a b l =>
    have h1 : q < gAt l s := of_decide_eq_true h1
    show q < (if r a = r b then gAt l s else q + 1)
    split <;> omega
  | goto l => exact of_decide_eq_true h1
  | _ => exact Nat.lt_succ_self q
theorem fwd_down {s : List GI} (h : fwd s = true) {q : Nat} {i : GI} (hi : s[q]? = some i) (r : Nat → Int) : sfx s (gNext s q r i) + gw i ≤ sfx s q := by
  have h1 := fwd_next h hi r
  rw [sfx_at hi]
  obtain ⟨k, hk⟩ : ∃ k, gNext s q r i = q + 1 + k := ⟨gNext s q r i - (q + 1), by omega⟩
  rw [hk]
  have := sfx_mono (s := s) (q := q + 1) (k := k)
  omega

def cix (n : Nat) (C : List Nat) (x : Int) : Nat := if x = 1 then n else ixl C (x - 2).toNat
def wO (f : Nat) : Nat := if f = 3 then 8 else 1
def wIT (n : Nat) : Nat := 5 * n + 17
def wTab (n : Nat) : Nat → Nat
  | 2 => 3
  | 3 => 2
  | 4 => 5 * n + 18
  | 5 => 5 * n + 17
  | 6 => 5 * n + 16
  | 7 => 5 * n + 15
  | 8 => 5 * n + 14
  | 9 => 5 * n + 13
  | 10 => 5 * n + 12
  | 11 => 5 * n + 11
  | _ => 4
def spins (f q : Nat) : Prop := 12 ≤ stage f q ∧ stage f q ≤ 14
instance (f q : Nat) : Decidable (spins f q) := by unfold spins; infer_instance
def rkW (f n : Nat) (C : List Nat) (r : Nat → Int) (ph q : Nat) : Nat :=
  if stage f q = 0 then n * wIT n + wO f + 5 + (if f = 3 then 5 - q else 0)
  else if stage f q = 1 then n * wIT n + wO f + 4
  else if 16 ≤ stage f q then (gWait f).length - q
  else if stage f q = 4 ∧ r 2 = 0 then wO f + 1
  else if spins f q then cix n C (r 2) * wIT n + wO f + 4 + 5 * n + ph
  else cix n C (r 2) * wIT n + wO f + wTab n (stage f q)

def jof (C : List Nat) (x : Int) : Nat := if x = 0 then 0 else ixl C (x - 2).toNat + 1
def eTab : Nat → Nat
  | 0 => 26
  | 1 => 25
  | 2 => 24
  | 3 => 23
  | 4 => 22
  | 5 => 21
  | 6 => 19
  | 7 => 18
  | 8 => 17
  | 9 => 16
  | 10 => 15
  | 11 => 14
  | 12 => 13
  | 13 => 12
  | 14 => 10
  | _ => 8
def rkE (n : Nat) (C : List Nat) (t : Nat) (r : Nat → Int) (q : Nat) : Nat :=
  if q ≤ 10 then n * 10 + eTab q
  else if q ≤ 15 then (n - jof C (r 0)) * 10 + eTab q
  else if q ≤ 18 then (if t ∈ C then 23 - q else (n - jof C (r 0)) * 10 + (33 - q))
  else 23 - q
def rkT (f n : Nat) (C : List Nat) (t : Nat) (r : Nat → Int) (ph : Nat) : Option Pt → Nat
  | none => 0
  | some ⟨.wait, q, _⟩ => rkW f n C r ph q
  | some ⟨.enter, q, _⟩ => if f = 4 then rkE n C t r q else sfx (gEnter f) q
  | some ⟨tg, q, _⟩ => sfx (tgCode f tg) q
def cst (f n : Nat) : Tg → Nat
  | .wait => n * wIT n + wO f + 5 + (if f = 3 then 5 else 0)
  | .enter => if f = 4 then n * 10 + 26 else sfx (gEnter f) 0
  | tg => sfx (tgCode f tg) 0
def csts (f n : Nat) : List (Tg × ByteArray) → Nat
  | [] => 0
  | x :: l => cst f n x.1 + csts f n l
theorem rk_begin {f n : Nat} (hf : 1 ≤ f ∧ f ≤ 4) (C : List Nat) (t : Nat) (r : Nat → Int) (ph : Nat) (tg : Tg) (d : Nat) : rkT f n C t r ph (some ⟨tg, 0, d⟩) ≤ cst f n tg := by
  have hf4 : f = 1 ∨ f = 2 ∨ f = 3 ∨ f = 4 := by omega
  cases tg with
  | wait => rcases hf4 with rfl | rfl | rfl | rfl <;> exact Nat.le_refl _
  | enter => rcases hf4 with rfl | rfl | rfl | rfl <;> exact Nat.le_refl _
  | _ => exact Nat.le_refl _
theorem tg_fwd {f : Nat} (hf : 1 ≤ f ∧ f ≤ 4) {tg : Tg} (h1 : tg ≠ .wait) (h2 : tg = .enter → f ≠ 4) : fwd (tgCode f tg) = true := by
  have hf4 : f = 1 ∨ f = 2 ∨ f = 3 ∨ f = 4 := by omega
  cases tg with
  | wait => exact absurd rfl h1
  | enter => rcases hf4 with rfl | rfl | rfl | rfl <;> first | rfl | exact absurd rfl (h2 rfl)
  | _ => rcases hf4 with rfl | rfl | rfl | rfl <;> rfl
end Go.Proofs.YtpjabgdcpogdiaaGreatDoor

/- GpB -/
namespace Go.Proofs.YtpjabgdcpogdiaaGreatDoor
open Go.RowKit

theorem cix_mul {n a b : Nat} (h : a + 1 ≤ b) : a * wIT n + wIT n ≤ b * wIT n := by
  have := Nat.mul_le_mul_right (wIT n) h
  rwa [Nat.succ_mul] at this
set_option maxRecDepth 20000 in
set_option maxHeartbeats 4000000 in
theorem wait_down {f n q ph ph' : Nat} (hf : 1 ≤ f ∧ f ≤ 4) {C : List Nat} {r r' : Nat → Int} {i : GI} (hi : (gWait f)[q]? = some i) (hs : ¬ spins f q) (hph : ph' ≤ 6)
    (h1 : stage f q = 1 → r' 2 = 1) (h3 : stage f q = 3 → r' 2 = 0 ∨ (r' 2 ≠ 0 ∧ cix n C (r' 2) + 1 ≤ cix n C (r 2))) (h2 : stage f q ≠ 1 → stage f q ≠ 3 → r' 2 = r 2) :
    rkW f n C r' ph' (gNext (gWait f) q r i) + 1 ≤ rkW f n C r ph q := by
  have hf4 : f = 1 ∨ f = 2 ∨ f = 3 ∨ f = 4 := by omega
  have hq := (List.getElem?_eq_some_iff.1 hi).1
  have hcm : ∀ a b, a + 1 ≤ b → a * wIT n + wIT n ≤ b * wIT n := fun a b h => cix_mul h
  have hw : wIT n = 5 * n + 17 := rfl
  have hc1 : cix n C 1 = n := rfl
  rcases hf4 with rfl | rfl | rfl | rfl
  · have hq : q < 17 := hq
    obtain rfl | rfl | rfl | rfl | rfl | rfl | rfl | rfl | rfl | rfl | rfl | rfl | rfl | rfl | rfl | rfl | rfl : q = 0 ∨ q = 1 ∨ q = 2 ∨ q = 3 ∨ q = 4 ∨ q = 5 ∨ q = 6 ∨ q = 7 ∨ q = 8 ∨ q = 9 ∨ q = 10 ∨ q = 11 ∨ q = 12 ∨ q = 13 ∨ q = 14 ∨ q = 15 ∨ q = 16 := by omega
    all_goals first
      | exact absurd (by decide) hs
      | (obtain rfl : _ = i := Option.some.inj (show some _ = some i from hi)
         simp [stage] at h1 h2 h3
         first
         | (simp [gNext, gAt, gLab, gWait, gFence, rkW, stage, spins, wTab, wO] at h1 h2 h3 ⊢ <;> first
             | omega
             | (simp [h1, hc1]; done)
             | (simp only [h2]; omega)
             | (simp [h1, hc1]; omega)
             | (rcases h3 with h | ⟨h, h'⟩ <;> simp [h] <;> (first | omega | (have := hcm _ _ h'; omega))); done)
         | (simp [gNext, gAt, gLab, gWait, gFence, rkW, stage, spins, wTab, wO] <;> first
             | omega
             | (simp [h1, hc1]; done)
             | (simp only [h2]; omega)
             | (simp [h1, hc1]; omega)
             | (rcases h3 with h | ⟨h, h'⟩ <;> simp [h] <;> (first | omega | (have := hcm _ _ h'; omega))); done)
         | (by_cases e0 : r 0 = 0 <;> simp [gNext, gAt, gLab, gWait, gFence, rkW, stage, spins, wTab, wO, e0] <;> first
             | omega
             | (simp [h1, hc1]; done)
             | (simp only [h2]; omega)
             | (simp [h1, hc1]; omega)
             | (rcases h3 with h | ⟨h, h'⟩ <;> simp [h] <;> (first | omega | (have := hcm _ _ h'; omega))); done)
         | (by_cases e1 : r 0 = r 1 <;> simp [gNext, gAt, gLab, gWait, gFence, rkW, stage, spins, wTab, wO] <;> first
             | omega
             | (simp [h1, hc1]; done)
             | (simp only [h2]; omega)
             | (simp [h1, hc1]; omega)
             | (rcases h3 with h | ⟨h, h'⟩ <;> simp [h] <;> (first | omega | (have := hcm _ _ h'; omega))); done)
         | (by_cases e2 : r 2 = 0 <;> simp [gNext, gAt, gLab, gWait, gFence, rkW, stage, spins, wTab, wO, e2] <;> first
             | omega
             | (simp [h1, hc1]; done)
             | (simp only [h2]; omega)
             | (simp [h1, hc1]; omega)
             | (rcases h3 with h | ⟨h, h'⟩ <;> simp [h] <;> (first | omega | (have := hcm _ _ h'; omega))); done)
         | (by_cases e6 : r 6 = 0 <;> simp [gNext, gAt, gLab, gWait, gFence, rkW, stage, spins, wTab, wO, e6] <;> first
             | omega
             | (simp [h1, hc1]; done)
             | (simp only [h2]; omega)
             | (simp [h1, hc1]; omega)
             | (rcases h3 with h | ⟨h, h'⟩ <;> simp [h] <;> (first | omega | (have := hcm _ _ h'; omega))); done))
  · have hq : q < 18 := hq
    obtain rfl | rfl | rfl | rfl | rfl | rfl | rfl | rfl | rfl | rfl | rfl | rfl | rfl | rfl | rfl | rfl | rfl | rfl : q = 0 ∨ q = 1 ∨ q = 2 ∨ q = 3 ∨ q = 4 ∨ q = 5 ∨ q = 6 ∨ q = 7 ∨ q = 8 ∨ q = 9 ∨ q = 10 ∨ q = 11 ∨ q = 12 ∨ q = 13 ∨ q = 14 ∨ q = 15 ∨ q = 16 ∨ q = 17 := by omega
    all_goals first
      | exact absurd (by decide) hs
      | (obtain rfl : _ = i := Option.some.inj (show some _ = some i from hi)
         simp [stage] at h1 h2 h3
         first
         | (simp [gNext, gAt, gLab, gWait, gFence, rkW, stage, spins, wTab, wO] at h1 h2 h3 ⊢ <;> first
             | omega
             | (simp [h1, hc1]; done)
             | (simp only [h2]; omega)
             | (simp [h1, hc1]; omega)
             | (rcases h3 with h | ⟨h, h'⟩ <;> simp [h] <;> (first | omega | (have := hcm _ _ h'; omega))); done)
         | (simp [gNext, gAt, gLab, gWait, gFence, rkW, stage, spins, wTab, wO] <;> first
             | omega
             | (simp [h1, hc1]; done)
             | (simp only [h2]; omega)
             | (simp [h1, hc1]; omega)
             | (rcases h3 with h | ⟨h, h'⟩ <;> simp [h] <;> (first | omega | (have := hcm _ _ h'; omega))); done)
         | (by_cases e0 : r 0 = 0 <;> simp [gNext, gAt, gLab, gWait, gFence, rkW, stage, spins, wTab, wO, e0] <;> first
             | omega
             | (simp [h1, hc1]; done)
             | (simp only [h2]; omega)
             | (simp [h1, hc1]; omega)
             | (rcases h3 with h | ⟨h, h'⟩ <;> simp [h] <;> (first | omega | (have := hcm _ _ h'; omega))); done)
         | (by_cases e1 : r 0 = r 1 <;> simp [gNext, gAt, gLab, gWait, gFence, rkW, stage, spins, wTab, wO] <;> first
             | omega
             | (simp [h1, hc1]; done)
             | (simp only [h2]; omega)
             | (simp [h1, hc1]; omega)
             | (rcases h3 with h | ⟨h, h'⟩ <;> simp [h] <;> (first | omega | (have := hcm _ _ h'; omega))); done)
         | (by_cases e2 : r 2 = 0 <;> simp [gNext, gAt, gLab, gWait, gFence, rkW, stage, spins, wTab, wO, e2] <;> first
             | omega
             | (simp [h1, hc1]; done)
             | (simp only [h2]; omega)
             | (simp [h1, hc1]; omega)
             | (rcases h3 with h | ⟨h, h'⟩ <;> simp [h] <;> (first | omega | (have := hcm _ _ h'; omega))); done)
         | (by_cases e6 : r 6 = 0 <;> simp [gNext, gAt, gLab, gWait, gFence, rkW, stage, spins, wTab, wO, e6] <;> first
             | omega
             | (simp [h1, hc1]; done)
             | (simp only [h2]; omega)
             | (simp [h1, hc1]; omega)
             | (rcases h3 with h | ⟨h, h'⟩ <;> simp [h] <;> (first | omega | (have := hcm _ _ h'; omega))); done))
  · have hq : q < 25 := hq
    obtain rfl | rfl | rfl | rfl | rfl | rfl | rfl | rfl | rfl | rfl | rfl | rfl | rfl | rfl | rfl | rfl | rfl | rfl | rfl | rfl | rfl | rfl | rfl | rfl | rfl : q = 0 ∨ q = 1 ∨ q = 2 ∨ q = 3 ∨ q = 4 ∨ q = 5 ∨ q = 6 ∨ q = 7 ∨ q = 8 ∨ q = 9 ∨ q = 10 ∨ q = 11 ∨ q = 12 ∨ q = 13 ∨ q = 14 ∨ q = 15 ∨ q = 16 ∨ q = 17 ∨ q = 18 ∨ q = 19 ∨ q = 20 ∨ q = 21 ∨ q = 22 ∨ q = 23 ∨ q = 24 := by omega
    all_goals first
      | exact absurd (by decide) hs
      | (obtain rfl : _ = i := Option.some.inj (show some _ = some i from hi)
         simp [stage] at h1 h2 h3
         first
         | (simp [gNext, gAt, gLab, gWait, rkW, stage, spins, wTab, wO] at h1 h2 h3 ⊢ <;> first
             | omega
             | (simp [h1, hc1]; done)
             | (simp only [h2]; omega)
             | (simp [h1, hc1]; omega)
             | (rcases h3 with h | ⟨h, h'⟩ <;> simp [h] <;> (first | omega | (have := hcm _ _ h'; omega))); done)
         | (simp [gNext, gAt, gLab, gWait, rkW, stage, spins, wTab, wO] <;> first
             | omega
             | (simp [h1, hc1]; done)
             | (simp only [h2]; omega)
             | (simp [h1, hc1]; omega)
             | (rcases h3 with h | ⟨h, h'⟩ <;> simp [h] <;> (first | omega | (have := hcm _ _ h'; omega))); done)
         | (by_cases e0 : r 0 = 0 <;> simp [gNext, gAt, gLab, gWait, rkW, stage, spins, wTab, wO, e0] <;> first
             | omega
             | (simp [h1, hc1]; done)
             | (simp only [h2]; omega)
             | (simp [h1, hc1]; omega)
             | (rcases h3 with h | ⟨h, h'⟩ <;> simp [h] <;> (first | omega | (have := hcm _ _ h'; omega))); done)
         | (by_cases e1 : r 0 = r 1 <;> simp [gNext, gAt, gLab, gWait, rkW, stage, spins, wTab, wO] <;> first
             | omega
             | (simp [h1, hc1]; done)
             | (simp only [h2]; omega)
             | (simp [h1, hc1]; omega)
             | (rcases h3 with h | ⟨h, h'⟩ <;> simp [h] <;> (first | omega | (have := hcm _ _ h'; omega))); done)
         | (by_cases e2 : r 2 = 0 <;> simp [gNext, gAt, gLab, gWait, rkW, stage, spins, wTab, wO, e2] <;> first
             | omega
             | (simp [h1, hc1]; done)
             | (simp only [h2]; omega)
             | (simp [h1, hc1]; omega)
             | (rcases h3 with h | ⟨h, h'⟩ <;> simp [h] <;> (first | omega | (have := hcm _ _ h'; omega))); done)
         | (by_cases e6 : r 6 = 0 <;> simp [gNext, gAt, gLab, gWait, rkW, stage, wO, e6] <;> first
             | omega
             | (simp [h1, hc1]; done)
             | (simp only [h2]; omega)
             | (simp [h1, hc1]; omega)
             | (rcases h3 with h | ⟨h, h'⟩ <;> simp [h] <;> (first | omega | (have := hcm _ _ h'; omega))); done))
  · have hq : q < 17 := hq
    obtain rfl | rfl | rfl | rfl | rfl | rfl | rfl | rfl | rfl | rfl | rfl | rfl | rfl | rfl | rfl | rfl | rfl : q = 0 ∨ q = 1 ∨ q = 2 ∨ q = 3 ∨ q = 4 ∨ q = 5 ∨ q = 6 ∨ q = 7 ∨ q = 8 ∨ q = 9 ∨ q = 10 ∨ q = 11 ∨ q = 12 ∨ q = 13 ∨ q = 14 ∨ q = 15 ∨ q = 16 := by omega
    all_goals first
      | exact absurd (by decide) hs
      | (obtain rfl : _ = i := Option.some.inj (show some _ = some i from hi)
         simp [stage] at h1 h2 h3
         first
         | (simp [gNext, gAt, gLab, gWait, gFence, rkW, stage, spins, wTab, wO] at h1 h2 h3 ⊢ <;> first
             | omega
             | (simp [h1, hc1]; done)
             | (simp only [h2]; omega)
             | (simp [h1, hc1]; omega)
             | (rcases h3 with h | ⟨h, h'⟩ <;> simp [h] <;> (first | omega | (have := hcm _ _ h'; omega))); done)
         | (simp [gNext, gAt, gLab, gWait, gFence, rkW, stage, spins, wTab, wO] <;> first
             | omega
             | (simp [h1, hc1]; done)
             | (simp only [h2]; omega)
             | (simp [h1, hc1]; omega)
             | (rcases h3 with h | ⟨h, h'⟩ <;> simp [h] <;> (first | omega | (have := hcm _ _ h'; omega))); done)
         | (by_cases e0 : r 0 = 0 <;> simp [gNext, gAt, gLab, gWait, gFence, rkW, stage, spins, wTab, wO, e0] <;> first
             | omega
             | (simp [h1, hc1]; done)
             | (simp only [h2]; omega)
             | (simp [h1, hc1]; omega)
             | (rcases h3 with h | ⟨h, h'⟩ <;> simp [h] <;> (first | omega | (have := hcm _ _ h'; omega))); done)
         | (by_cases e1 : r 0 = r 1 <;> simp [gNext, gAt, gLab, gWait, gFence, rkW, stage, spins, wTab, wO] <;> first
             | omega
             | (simp [h1, hc1]; done)
             | (simp only [h2]; omega)
             | (simp [h1, hc1]; omega)
             | (rcases h3 with h | ⟨h, h'⟩ <;> simp [h] <;> (first | omega | (have := hcm _ _ h'; omega))); done)
         | (by_cases e2 : r 2 = 0 <;> simp [gNext, gAt, gLab, gWait, gFence, rkW, stage, spins, wTab, wO, e2] <;> first
             | omega
             | (simp [h1, hc1]; done)
             | (simp only [h2]; omega)
             | (simp [h1, hc1]; omega)
             | (rcases h3 with h | ⟨h, h'⟩ <;> simp [h] <;> (first | omega | (have := hcm _ _ h'; omega))); done)
         | (by_cases e6 : r 6 = 0 <;> simp [gNext, gAt, gLab, gWait, gFence, rkW, stage, spins, wTab, wO, e6] <;> first
             | omega
             | (simp [h1, hc1]; done)
             | (simp only [h2]; omega)
             | (simp [h1, hc1]; omega)
             | (rcases h3 with h | ⟨h, h'⟩ <;> simp [h] <;> (first | omega | (have := hcm _ _ h'; omega))); done))

def phW (f q : Nat) (r : Nat → Int) : Nat :=
  if stage f q = 14 then (if r 0 = 0 then 1 else if f = 2 then 5 else 4)
  else if stage f q = 12 then (if f = 2 then 4 else 3)
  else if f = 2 ∧ q = 13 then 3 else 2
theorem spin_at {f q : Nat} (hf : 1 ≤ f ∧ f ≤ 4) (h : spins f q) : (f = 1 ∨ f = 4) ∧ (q = 12 ∨ q = 13 ∨ q = 14) ∨ f = 2 ∧ (q = 12 ∨ q = 13 ∨ q = 14 ∨ q = 15) ∨ f = 3 ∧ (q = 13 ∨ q = 14 ∨ q = 15) := by
  unfold spins at h
  obtain ⟨s, hs⟩ : ∃ s, stage f q = s := ⟨_, rfl⟩
  rw [hs] at h
  have hf4 : f = 1 ∨ f = 2 ∨ f = 3 ∨ f = 4 := by omega
  rcases hf4 with rfl | rfl | rfl | rfl
  · have hs : q = s := hs
    exact .inl ⟨.inl rfl, by omega⟩
  · refine .inr (.inl ⟨rfl, ?_⟩)
    have hs : (if q ≤ 13 then q else q - 1) = s := hs
    split at hs <;> omega
  · refine .inr (.inr ⟨rfl, ?_⟩)
    rcases Nat.lt_or_ge q 17 with hq | hq
    · obtain rfl | rfl | rfl | rfl | rfl | rfl | rfl | rfl | rfl | rfl | rfl | rfl | rfl | rfl | rfl | rfl | rfl : q = 0 ∨ q = 1 ∨ q = 2 ∨ q = 3 ∨ q = 4 ∨ q = 5 ∨ q = 6 ∨ q = 7 ∨ q = 8 ∨ q = 9 ∨ q = 10 ∨ q = 11 ∨ q = 12 ∨ q = 13 ∨ q = 14 ∨ q = 15 ∨ q = 16 := by omega
      all_goals first
        | omega
        | (exfalso; have hs : _ = s := hs; subst hs; exact absurd h (by decide))
    · obtain ⟨k, rfl⟩ : ∃ k, q = 17 + k := ⟨q - 17, by omega⟩
      have : stage 3 (17 + k) = 16 := by
        unfold stage
        rw [if_pos rfl]
        repeat rw [if_neg (by omega)]
      omega
  · have hs : q = s := hs
    exact .inl ⟨.inr rfl, by omega⟩
theorem wait_leave {f n q ph ph' : Nat} (hf : 1 ≤ f ∧ f ≤ 4) {C : List Nat} {r r' : Nat → Int} {i : GI} (hi : (gWait f)[q]? = some i) (hs : stage f q = 14) (h0 : r 0 ≠ r 1) (h2 : r' 2 = r 2) :
    rkW f n C r' ph' (gNext (gWait f) q r i) + (5 * n + ph) ≤ rkW f n C r ph q := by
  rcases spin_at (f := f) (q := q) hf (by unfold spins; omega) with ⟨rfl | rfl, rfl | rfl | rfl⟩ | ⟨rfl, rfl | rfl | rfl | rfl⟩ | ⟨rfl, rfl | rfl | rfl⟩
  all_goals first
    | exact absurd hs (by decide)
    | (obtain rfl : _ = i := Option.some.inj (show some _ = some i from hi)
       simp [gNext, rkW, stage, spins, wTab, wO, h0, h2]; omega)
theorem wait_stay {f n q ph ph' : Nat} (hf : 1 ≤ f ∧ f ≤ 4) {C : List Nat} {r r' : Nat → Int} {i : GI} (hi : (gWait f)[q]? = some i) (hs : spins f q) (h0 : stage f q = 14 → r 0 = r 1) (h2 : r' 2 = r 2) :
    spins f (gNext (gWait f) q r i) ∧ rkW f n C r' ph' (gNext (gWait f) q r i) + ph = rkW f n C r ph q + ph' := by
  rcases spin_at hf hs with ⟨rfl | rfl, rfl | rfl | rfl⟩ | ⟨rfl, rfl | rfl | rfl | rfl⟩ | ⟨rfl, rfl | rfl | rfl⟩
  all_goals
    obtain rfl : _ = i := Option.some.inj (show some _ = some i from hi)
    simp [stage] at h0
    simp [gNext, gAt, gLab, gWait, gFence, rkW, stage, spins, wO, h0, h2]
    try omega
theorem wait_phase {f q : Nat} (hf : 1 ≤ f ∧ f ≤ 4) {r r' : Nat → Int} {i : GI} (hi : (gWait f)[q]? = some i) (hs : spins f q) (h0 : stage f q = 14 → r 0 = r 1) (h1 : r 1 ≠ 0)
    (hl : ∀ a b k, i = .load a b k → r' 0 = 0) (hk : stage f q ≠ 13 → r' 0 = r 0) : phW f (gNext (gWait f) q r i) r' + 1 ≤ phW f q r := by
  rcases spin_at hf hs with ⟨rfl | rfl, rfl | rfl | rfl⟩ | ⟨rfl, rfl | rfl | rfl | rfl⟩ | ⟨rfl, rfl | rfl | rfl⟩
  all_goals
    obtain rfl : _ = i := Option.some.inj (show some _ = some i from hi)
    simp [stage] at h0 hk
    try have hl := hl _ _ _ rfl
    simp [gNext, gAt, gLab, gWait, gFence, phW, stage, h0, h1]
    try simp [hl]
theorem phW_le (f q : Nat) (r : Nat → Int) : 1 ≤ phW f q r ∧ phW f q r ≤ 5 := by
  unfold phW
  repeat' split
  all_goals omega

theorem enter_down {n q t : Nat} {C C' : List Nat} {r r' : Nat → Int} {i : GI} (hi : (gEnter 4)[q]? = some i) (hC : q ≠ 15 → C' = C) (h0 : (11 ≤ q ∧ q ≤ 14) ∨ (16 ≤ q ∧ q ≤ 18) → r' 0 = r 0)
    (h15 : q = 15 → t ∈ C' ∨ C' = C ∧ t ∉ C ∧ jof C (r 0) + 1 ≤ jof C (r' 0) ∧ jof C (r' 0) ≤ n) (h18 : q = 18 → t ∉ C) : rkE n C' t r' (gNext (gEnter 4) q r i) + gw i ≤ rkE n C t r q := by
  have hq : q < 23 := (List.getElem?_eq_some_iff.1 hi).1
  have hj : ∀ a, (n - a) * 10 ≤ n * 10 := fun a => Nat.mul_le_mul_right _ (Nat.sub_le _ _)
  obtain rfl | rfl | rfl | rfl | rfl | rfl | rfl | rfl | rfl | rfl | rfl | rfl | rfl | rfl | rfl | rfl | rfl | rfl | rfl | rfl | rfl | rfl | rfl : q = 0 ∨ q = 1 ∨ q = 2 ∨ q = 3 ∨ q = 4 ∨ q = 5 ∨ q = 6 ∨ q = 7 ∨ q = 8 ∨ q = 9 ∨ q = 10 ∨ q = 11 ∨ q = 12 ∨ q = 13 ∨ q = 14 ∨ q = 15 ∨ q = 16 ∨ q = 17 ∨ q = 18 ∨ q = 19 ∨ q = 20 ∨ q = 21 ∨ q = 22 := by omega
  all_goals
    obtain rfl : _ = i := Option.some.inj (show some _ = some i from hi)
    simp at hC h0 h15 h18
    try subst hC
    have hj1 := hj (jof C' (r 0))
    have hj2 := hj (jof C' (r' 0))
    first
    | (simp [gNext, gAt, gLab, gEnter, gOuter, gJoin, gShow, rkE, eTab, gw]; (try omega); done)
    | (by_cases e0 : r 0 = 0 <;> simp [gNext, gAt, gLab, gEnter, gOuter, gJoin, gShow, rkE, eTab, gw, e0] <;> (try omega); done)
    | (by_cases e6 : r 0 = r 6 <;> simp [gNext, gAt, gLab, gEnter, gOuter, gJoin, gShow, rkE, eTab, gw, e6] <;> (try omega); done)
    | (by_cases ht : t ∈ C' <;> by_cases e6 : r 0 = r 1 <;> simp [gNext, gAt, gLab, gEnter, gOuter, gJoin, gShow, rkE, eTab, gw, ht, e6, h0] <;> (try omega); done)
    | (rcases h15 with h | ⟨rfl, h, h', h''⟩ <;> simp [gNext, rkE, eTab, gw, h] <;> (try omega); done)
    | (simp [gNext, gAt, gLab, gEnter, gOuter, gJoin, gShow, rkE, eTab, gw, h18, h0]; (try omega); done)
end Go.Proofs.YtpjabgdcpogdiaaGreatDoor
