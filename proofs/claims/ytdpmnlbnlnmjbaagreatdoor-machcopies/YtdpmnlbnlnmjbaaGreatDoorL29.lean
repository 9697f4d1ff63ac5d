import Derived.Test.YtdpmnlbnlnmjbaaGreatDoorL27
import Derived.Test.YtdpmnlbnlnmjbaaGreatDoorL28
import Derived.Maps.AppendAt
import Derived.Laws.AppendOwnNone

/- StK -/
namespace Go.Proofs.YtdpmnlbnlnmjbaaGreatDoor
open Go.RowKit Go.Extern.Stop Go.Stop Go.Extern Go.Maps Go.WideMaps Go.Sort

set_option maxRecDepth 20000 in
set_option maxHeartbeats 2000000 in
theorem vast_any {s : Sta} {ai ar ad : Option Addr} {ci cr cap : Nat} {cs : List (List Ins)} {w : World} (hs : StaAt s ⟨ai, ci, ar, cr⟩ w) (hl : codesAt ad cs w) (hc : cs.length ≤ 9223372036854775807) (hL : ∀ (t : Nat) L, cs[t]? = some L → L.length ≤ 9223372036854775807) :
    Calls Tryz.prog 10 #[.agg #[.int .i64 s.cells, .slice ai s.init.length ci, .slice ar s.regs.length cr], .slice ad cs.length cap] w fun e w' => ∃ v : Int, Hid (v = 0 ∨ v = 1) ∧ e = .returned (.int .i64 v) ∧ Below w.heap.size w w' := by
  obtain ⟨w1, hw1⟩ : ∃ w1, w1 = w.alloc (.cells #[.int .i64 s.cells, .slice ai s.init.length ci, .slice ar s.regs.length cr] 24) := ⟨_, rfl⟩
  have b1 : Below w.heap.size w w1 := by rw [hw1]; exact (Below.refl _ _).alloc (Nat.le_refl _) _
  have e1 : w1.cell? ⟨w.heap.size, 1, none⟩ = some (.slice ai s.init.length ci) := by rw [hw1]; simp
  have e2 : w1.cell? ⟨w.heap.size, 2, none⟩ = some (.slice ar s.regs.length cr) := by rw [hw1]; simp
  have HS := hide (hs.below b1)
  have HL := hide (hl.below b1)
  have HLen := hide hL
  have li := hs.li
  have lr := hs.lr
  have lii : (s.init.length : Int) ≤ 9223372036854775807 := by omega
  have lri : (s.regs.length : Int) ≤ 9223372036854775807 := by omega
  have lci : (cs.length : Int) ≤ 9223372036854775807 := by omega
  clear hs hl hL
  go_enter Tryz.func10, Tryz.ntmps10
  go_wp2_with fail
  rw [← hw1]
  clear hw1
  go_loopw [5, 6] (fun c x wr => ∃ j : Nat, j ≤ s.init.length ∧ x = .int .i64 j ∧ (∃ v, c = .int .i64 v) ∧ wr = w1) (fun _ x _ => s.init.length - (intOf x).toNat)
  case atStart => exact ⟨0, Nat.zero_le _, rfl, ⟨_, rfl⟩, rfl⟩
  case round =>
    obtain ⟨j, hj, rfl, ⟨v, rfl⟩, rfl⟩ := hrel
    by_cases hlt : j < s.init.length
    · obtain ⟨row, hrow⟩ : ∃ x, s.init[j]? = some x := ⟨_, List.getElem?_eq_getElem hlt⟩
      obtain ⟨b, off, adr, capr, hq, c0, hcp, -⟩ := HS.out.init j row hrow
      obtain rfl : ai = some ⟨b, off, none⟩ := hq
      have ji : (j : Int) < s.init.length := by omega
      clear hrow
      go_wp2
      go_roundw
      case rel => exact ⟨j + 1, by omega, by go_num, ⟨_, rfl⟩, by first | trivial | rfl⟩
      case measure => simp [intOf]; omega
    · obtain rfl : j = s.init.length := by omega
      go_wp2_with fail
      go_loopw [5, 7] (fun c x wr' => ∃ j : Nat, j ≤ s.regs.length ∧ x = .int .i64 j ∧ (∃ v, c = .int .i64 v) ∧ wr' = wr) (fun _ x _ => s.regs.length - (intOf x).toNat)
      case atStart => exact ⟨0, Nat.zero_le _, rfl, ⟨_, rfl⟩, rfl⟩
      case round =>
        obtain ⟨j, hj, rfl, ⟨v, rfl⟩, rfl⟩ := hrel
        by_cases hlt : j < s.regs.length
        · obtain ⟨row, hrow⟩ : ∃ x, s.regs[j]? = some x := ⟨_, List.getElem?_eq_getElem hlt⟩
          obtain ⟨b, off, adr, capr, hq, c0, hcp, -⟩ := HS.out.regs j row hrow
          obtain rfl : ar = some ⟨b, off, none⟩ := hq
          have ji : (j : Int) < s.regs.length := by omega
          clear hrow
          go_wp2
          go_roundw
          case rel => exact ⟨j + 1, by omega, by go_num, ⟨_, rfl⟩, by first | trivial | rfl⟩
          case measure => simp [intOf]; omega
        · obtain rfl : j = s.regs.length := by omega
          go_wp2_with fail
          clear e1 e2 HS li lr lii lri
          generalize wr = wZ at *
          have H1 := hide (Below.refl wZ.heap.size wZ)
          go_loopw [5, 8, 9] (fun c x _ wr' => ∃ j : Nat, j ≤ cs.length ∧ x = .int .i64 j ∧ (∃ v, c = .int .i64 v) ∧ Below wZ.heap.size wZ wr') (fun _ x _ _ => cs.length - (intOf x).toNat)
          case atStart => exact ⟨0, Nat.zero_le _, rfl, ⟨_, rfl⟩, H1.out⟩
          case round =>
            obtain ⟨j, hj, rfl, ⟨v, rfl⟩, hB⟩ := hrel
            by_cases hlt : j < cs.length
            · obtain ⟨L, hLj⟩ : ∃ x, cs[j]? = some x := ⟨_, List.getElem?_eq_getElem hlt⟩
              obtain ⟨b, off, adl, capl, rfl, cW, hcp, hins, -⟩ := HL.out j L hLj
              have ji : (j : Int) < cs.length := by omega
              have c0 := keep_cell hB cW
              have HI := hide hins
              have hl1 := HLen.out j L hLj
              have hl2 : (L.length : Int) ≤ 9223372036854775807 := by omega
              have HB := hide hB
              clear hLj hins hB
              go_wp2_with fail
              go_loopw [5, 9] (fun c x wr' => ∃ k : Nat, k ≤ L.length ∧ x = .int .i64 k ∧ (∃ v, c = .int .i64 v) ∧ Below wZ.heap.size wZ wr') (fun _ x _ => L.length - (intOf x).toNat)
              case atStart => exact ⟨0, Nat.zero_le _, rfl, ⟨_, rfl⟩, HB.out⟩
              case round =>
                obtain ⟨k, hk, rfl, ⟨v, rfl⟩, hB2⟩ := hrel
                replace c0 := keep_cell hB2 cW
                have HB2 := hide hB2
                by_cases hkl : k < L.length
                · obtain ⟨x, hx⟩ : ∃ x, L[k]? = some x := ⟨_, List.getElem?_eq_getElem hkl⟩
                  obtain ⟨b2, off2, rfl, a0, -, -, -, a4⟩ := insAt_below HI.out hB2 k x hx
                  have ki : (k : Int) < L.length := by omega
                  clear hx hB2
                  go_wp2_with fail
                  go_quiet (fail)
                  have H5 := hide (below_dN HB2.out nq)
                  go_wp2
                  go_roundw
                  case rel => exact ⟨k + 1, by omega, by go_num, ⟨_, rfl⟩, H5.out⟩
                  case measure => simp [intOf]; omega
                · obtain rfl : k = L.length := by omega
                  clear hB2
                  go_wp2
                  go_roundw
                  case rel => exact ⟨j + 1, by omega, by go_num, ⟨_, rfl⟩, HB2.out⟩
                  case measure => simp [intOf]; omega
            · obtain rfl : j = cs.length := by omega
              have HB := hide (below_step b1 hB)
              clear hB HL HLen
              by_cases h6 : 600 < v
              · go_wp2
                go_ret
                exact ⟨1, Or.inr rfl, rfl, HB.out⟩
              · go_wp2
                go_ret
                exact ⟨0, Or.inl rfl, rfl, HB.out⟩
end Go.Proofs.YtdpmnlbnlnmjbaaGreatDoor

/- StO -/
namespace Go.Proofs.YtdpmnlbnlnmjbaaGreatDoor
open Go.RowKit Go.Extern.Stop Go.Stop Go.Extern Go.Maps Go.WideMaps Go.Sort

theorem intInfo : ∃ i, (Tryz.prog).info? 3 = some i ∧ i.zero = some (.int .i64 0) ∧ i.size = 1 ∧ i.bytes = 8 := info_parts (by kernel_rfl)

theorem nums_of_row {w : World} {base n : Nat} {v : Value} {l : List Int} (h : w.ownsRow base 3 1 v n (l.map (Value.int .i64))) (hn : n = l.length) : ∃ ad cap, v = .slice ad l.length cap ∧ l.length ≤ cap ∧ numsAt ad l w ∧ ∀ b off, ad = some ⟨b, off, none⟩ → base ≤ b ∧ b < w.heap.size := by
  subst hn
  obtain ⟨g, c, rfl, h1, -, h3⟩ := ownsRow_shape h
  refine ⟨g, c, rfl, h1, fun i x hx => ?_, fun b off e => h.lt b (by rw [e]; rfl)⟩
  obtain ⟨gg, e, hc⟩ := h3 i (.int .i64 x) (by rw [List.getElem?_map, hx]; rfl)
  exact ⟨gg, 0, e, by rw [Nat.zero_add]; exact hc⟩

theorem wpList_append_nums {ops : Array Oper} {rest : List Oper} {o : Oper} {a : Act} {w : World} {Q : Exit → Act → World → Prop} (hgd : o.guard = none) (s x : Operand)
    (ho : o.op = .call { callee := .builtin .append, args := #[s, x], argTypes := #[26, 26] }) (ad : Option Addr) (cap : Nat) (l : List Int) (hs : a.eval s = .slice none 0 0) (hx : a.eval x = .slice ad l.length cap)
    (hl : numsAt ad l w) (hnil : ad = none → l = [] ∧ cap = 0) (h3 : l.length ≤ 20000)
    (h : ∀ ad' cap' w', l.length ≤ cap' → numsAt ad' l w' → (∀ b off, ad' = some ⟨b, off, none⟩ → w.heap.size ≤ b ∧ b < w'.heap.size) → Below w.heap.size w w' → wpList Tryz.prog ops Q rest (a.put o.dst (.slice ad' l.length cap')) w') : wpList Tryz.prog ops Q (o :: rest) a w := by
  obtain ⟨ri, hri, hrz, hrs, hrb⟩ := intInfo
  cases ad with
  | none =>
    obtain ⟨rfl, rfl⟩ := hnil rfl
    exact wpList_append_own_none hgd s x 26 ho w.heap.size 3 ri 1 Tryz.underlying26 hri (.slice none 0 0) 0 [] hs (World.ownsRow_nil _ _ _ _) hx (h none 0 w (Nat.le_refl _) (fun i x hx => by simp at hx) (fun b off e => nomatch e) (Below.refl _ _))
  | some x' =>
    refine wpList_append_own_at w hgd s x 26 ho w.heap.size 3 ri (.int .i64 0) 1 8 Tryz.underlying26 hri hrz hrs hrb rfl (by decide) (.slice none 0 0) 0 [] hs (World.ownsRow_nil _ _ _ _) x' l.length cap (l.map (Value.int .i64)) hx (by rw [List.length_map, Nat.mul_one]) (fun j u hj => ?_) (fun u hu => ?_) (by unfold maxLen; omega) (by omega) (Nat.le_refl _) (fun v' w' hown hg _ hloc => ?_)
    · rw [List.getElem?_map] at hj
      cases hxj : l[j]? with
      | none => rw [hxj] at hj; cases hj
      | some y =>
        rw [hxj] at hj; cases hj
        obtain ⟨_, _, e, c⟩ := hl j y hxj
        cases e
        rw [Addr.add_lit]; exact c
    · obtain ⟨y, _, rfl⟩ := List.mem_map.1 hu; rfl
    · obtain ⟨ad', cap', rfl, h1, h2, h4⟩ := nums_of_row (l := l) (by simpa using hown) (by simp)
      exact h ad' cap' w' h1 h2 (fun b off e => h4 b off e) ((Below.refl _ w).grown hg (Nat.le_refl _) (fun k hk => by cases hk))

theorem startOf_any {s : Sta} {ai ar : Option Addr} {ci cr : Nat} (w : World) :
    Calls Tryz.prog 12 #[.agg #[.int .i64 s.cells, .slice ai s.init.length ci, .slice ar s.regs.length cr]] w fun e w' => e = .returned (.agg #[.int .i64 s.cells, .slice ai s.init.length ci, .slice ar s.regs.length cr]) ∧ Below w.heap.size w w' := by
  go_enter Tryz.func12, Tryz.ntmps12
  go_wp2
  refine bodyPost_ret (v := .agg #[.int .i64 s.cells, .slice ai s.init.length ci, .slice ar s.regs.length cr]) (by simp only [results, Tryz.results12]; go_simp) rfl ⟨rfl, ?_⟩
  exact ((Below.refl _ _).alloc (Nat.le_refl _) _).alloc (by simp) _
end Go.Proofs.YtdpmnlbnlnmjbaaGreatDoor

/- StP -/
namespace Go.Proofs.YtdpmnlbnlnmjbaaGreatDoor
open Go.RowKit Go.Extern.Stop Go.Stop Go.Extern Go.Maps Go.WideMaps Go.Sort

structure NumsX (ad : Option Addr) (l : List Int) (cap : Nat) (w : World) : Prop where
  at' : numsAt ad l w
  nil' : ad = none → l = [] ∧ cap = 0
  len : l.length ≤ 9223372036854775807
theorem NumsX.below {ad : Option Addr} {l : List Int} {cap : Nat} {w w' : World} (h : NumsX ad l cap w) (hb : Below w.heap.size w w') : NumsX ad l cap w' := ⟨h.at'.below hb, h.nil', h.len⟩

theorem apart_step {a : Nat → Addr} {cs : List (List Ins)} {p q : MkPl} {m mq : Mk} {v : Value} {w w' : World} (hp : MkAt a cs p m w) (hap : ∀ k, p.fp k → ¬ q.fp k) (k : MkStep a cs q w v mq w') (hB : ∀ k, q.fp k → p.B ≤ k) :
    MkAt a cs p m w' ∧ ∀ k, p.fp k → ¬ (q.marked v).fp k :=
  ⟨hp.turns k.turns (fun i o hf hfp => hap i hfp hf) (fun i o hf => hB i hf), fun i hi hq => by
    rcases MkPl.fp_marked k hq with h | h
    · exact hap i hi h
    · have := hp.fp_lt hi; omega⟩

theorem RunX.run {a : Nat → Addr} {cs : List (List Ins)} {p : MkPl} {m : Mk} {K : Nat} {w0 w : World} (h : RunX a cs p m K w0) {ad : Option Addr} {l : List Int} {cap : Nat} (hb : Below w0.heap.size w0 w) (hl : numsAt ad l w) (hcap : l.length ≤ cap) (hlen : l.length ≤ 300) (hK : K ≤ 1000)
    (hd : ∀ b off, ad = some ⟨b, off, none⟩ → w0.heap.size ≤ b ∧ b < w.heap.size) :
    Calls Tryz.prog 13 #[.pointer (some ⟨p.b, 0, none⟩), .slice ad l.length cap] w fun e w' => e = .returned (.int .i64 (m.runO cs l).1) ∧ ∃ v, MkStep a cs p w v (m.runO cs l).2 w' ∧ RunX a cs (p.marked v) (m.runO cs l).2 (K + 300) w' := by
  refine (krun_any (h.below hb) hl (by omega) hcap (by omega) (fun b off e => ⟨(hd b off e).2, fun hf => ?_⟩)).mono fun e w' ⟨e1, v, e2, e3⟩ => ⟨e1, v, e2, ⟨e3.at', e3.ok.mono (by omega), e3.right, by omega⟩⟩
  have := h.at'.fp_lt hf
  have := (hd b off e).1
  omega

structure Three (a : Nat → Addr) (cs : List (List Ins)) (N : Nat) (p q r : MkPl) (mp mq mr : Mk) (K : Nat) (w : World) : Prop where
  xp : RunX a cs p mp K w
  xq : RunX a cs q mq K w
  xr : RunX a cs r mr K w
  pq : ∀ k, p.fp k → ¬ q.fp k
  pr : ∀ k, p.fp k → ¬ r.fp k
  qr : ∀ k, q.fp k → ¬ r.fp k
  bp : N ≤ p.B
  bq : q.B = p.B
  br : r.B = p.B
theorem Three.below {a : Nat → Addr} {cs : List (List Ins)} {N : Nat} {p q r : MkPl} {mp mq mr : Mk} {K : Nat} {w w' : World} (h : Three a cs N p q r mp mq mr K w) (hb : Below w.heap.size w w') : Three a cs N p q r mp mq mr K w' := ⟨h.xp.below hb, h.xq.below hb, h.xr.below hb, h.pq, h.pr, h.qr, h.bp, h.bq, h.br⟩
theorem RunX.up {a : Nat → Addr} {cs : List (List Ins)} {p : MkPl} {m : Mk} {K K' : Nat} {w : World} (h : RunX a cs p m K w) (hk : K ≤ K') (h2 : K' ≤ 10000000) : RunX a cs p m K' w := ⟨h.at', h.ok.mono hk, h.right, h2⟩
theorem Three.runQ {a : Nat → Addr} {cs : List (List Ins)} {N : Nat} {p q r : MkPl} {mp mq mr mq' : Mk} {K : Nat} {w w' : World} {v : Value} (h : Three a cs N p q r mp mq mr K w) (k : MkStep a cs q w v mq' w') (h' : RunX a cs (q.marked v) mq' (K + 300) w') : Three a cs N p (q.marked v) r mp mq' mr (K + 300) w' := by
  have hK := h'.hK
  obtain ⟨x1, x2⟩ := apart_step h.xp.at' h.pq k (fun i hi => by have := h.xq.at'.fp_ge hi; rw [h.bq] at this; exact this)
  obtain ⟨y1, y2⟩ := apart_step h.xr.at' (fun i hi hq => h.qr i hq hi) k (fun i hi => by have := h.xq.at'.fp_ge hi; rw [h.bq, ← h.br] at this; exact this)
  exact ⟨(RunX.mk x1 h.xp.ok h.xp.right h.xp.hK).up (by omega) hK, h', (RunX.mk y1 h.xr.ok h.xr.right h.xr.hK).up (by omega) hK, x2, h.pr, fun i hi hr => y2 i hr hi, h.bp, h.bq, h.br⟩
theorem Three.runR {a : Nat → Addr} {cs : List (List Ins)} {N : Nat} {p q r : MkPl} {mp mq mr mr' : Mk} {K : Nat} {w w' : World} {v : Value} (h : Three a cs N p q r mp mq mr K w) (k : MkStep a cs r w v mr' w') (h' : RunX a cs (r.marked v) mr' (K + 300) w') : Three a cs N p q (r.marked v) mp mq mr' (K + 300) w' := by
  have hK := h'.hK
  obtain ⟨x1, x2⟩ := apart_step h.xp.at' h.pr k (fun i hi => by have := h.xr.at'.fp_ge hi; rw [h.br] at this; exact this)
  obtain ⟨y1, y2⟩ := apart_step h.xq.at' h.qr k (fun i hi => by have := h.xr.at'.fp_ge hi; rw [h.br, ← h.bq] at this; exact this)
  exact ⟨(RunX.mk x1 h.xp.ok h.xp.right h.xp.hK).up (by omega) hK, (RunX.mk y1 h.xq.ok h.xq.right h.xq.hK).up (by omega) hK, h', h.pq, x2, y2, h.bp, h.bq, h.br⟩
theorem Three.made {a : Nat → Addr} {cs : List (List Ins)} {N : Nat} {p : MkPl} {m : Mk} {K : Nat} {w w1 w2 : World} {v1 v2 : Value} (h : RunX a cs p m K w) (hN : N ≤ p.B)
    (h1 : MkAt a cs ⟨p.B, w.heap.size, p.pb, p.pc, v1⟩ m w1) (b1 : Below w.heap.size w w1) (f1 : ∀ k, v1.ownBlock = some k → w.heap.size ≤ k)
    (h2 : MkAt a cs ⟨p.B, w1.heap.size, p.pb, p.pc, v2⟩ m w2) (b2 : Below w1.heap.size w1 w2) (f2 : ∀ k, v2.ownBlock = some k → w1.heap.size ≤ k) :
    Three a cs N p ⟨p.B, w.heap.size, p.pb, p.pc, v1⟩ ⟨p.B, w1.heap.size, p.pb, p.pc, v2⟩ m m m K w2 where
  xp := (h.below b1).below b2
  xq := ⟨h1.below b2, h.ok, h.right, h.hK⟩
  xr := ⟨h2, h.ok, h.right, h.hK⟩
  pq k hk hq := by
    have h3 := h.at'.fp_lt hk
    rcases hq with e | e
    · dsimp only at e; omega
    · have := f1 k e; omega
  pr k hk hq := by
    have h3 := h.at'.fp_lt hk
    have h4 := b1.size
    rcases hq with e | e
    · dsimp only at e; omega
    · have := f2 k e; omega
  qr k hk hq := by
    have h3 := h1.fp_lt hk
    rcases hq with e | e
    · dsimp only at e; omega
    · have := f2 k e; omega
  bp := hN
  bq := rfl
  br := rfl
end Go.Proofs.YtdpmnlbnlnmjbaaGreatDoor
