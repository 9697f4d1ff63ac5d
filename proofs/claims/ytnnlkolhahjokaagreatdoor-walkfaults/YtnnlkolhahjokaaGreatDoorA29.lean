import Derived.Test.YtnnlkolhahjokaaGreatDoorA28
import Derived.Maps.AppendAt
import Derived.Laws.AppendOwnNone
import Derived.Test.YtnnlkolhahjokaaGreatDoorA02

/- StO -/
namespace Go.Proofs.YtnnlkolhahjokaaGreatDoor
open Go.RowKit Go.Extern.Stop Go.Stop Go.Extern Go.Maps Go.WideMaps Go.Sort

theorem intInfo : ∃ i, (Tryz.prog).info? 3 = some i ∧ i.zero = some (.int .i64 0) ∧ i.size = 1 ∧ i.bytes = 8 := info_parts (by kernel_rfl)

theorem nums_of_row {w : World} {base n : Nat} {v : Value} {l : List Int} (h : w.ownsRow base 3 1 v n (l.map (Value.int .i64))) (hn : n = l.length) : ∃ ad cap, v = .slice ad l.length cap ∧ l.length ≤ cap ∧ numsAt ad l w ∧ ∀ b off, ad = some ⟨b, off, none⟩ → base ≤ b ∧ b < w.heap.size := by
  subst hn
  obtain ⟨g, c, rfl, h1, -, h3⟩ := ownsRow_shape h
  refine ⟨g, c, rfl, h1, fun i x hx => ?_, fun b off e => h.lt b (by rw [e]; rfl)⟩
  obtain ⟨gg, e, hc⟩ := h3 i (.int .i64 x) (by rw [List.getElem?_map, hx]; rfl)
  exact ⟨gg, 0, e, by rw [Nat.zero_add]; exact hc⟩

theorem wpList_append_nums {ops : Array Oper} {rest : List Oper} {o : Oper} {a : Act} {w : World} {Q : Exit → Act → World → Prop} (hgd : o.guard = none) (s x : Operand)
    (ho : o.op = .call { callee := .builtin .append, args := #[s, x], argTypes := #[26, 26] }) (ad : Option Addr) (cap : Nat) (l : List Int) (hs : a.eval s = .slice none 0 0) (hx : a.eval x = .slice ad l.length cap)
    (hl : numsAt ad l w) (hnil : ad = none → l = [] ∧ cap = 0) (h3 : l.length ≤ 20000)
    (h : ∀ ad' cap' w', l.length ≤ cap' → numsAt ad' l w' → (∀ b off, ad' = some ⟨b, off, none⟩ → w.heap.size ≤ b ∧ b < w'.heap.size) → Below w.heap.size w w' → wpList Tryz.prog ops Q rest (a.put o.dst (.slice ad' l.length cap')) w') : wpList Tryz.prog ops Q (o :: rest) a w := by
  obtain ⟨ri, hri, hrz, hrs, hrb⟩ := intInfo
  cases ad with
  | none =>
    obtain ⟨rfl, rfl⟩ := hnil rfl
    exact wpList_append_own_none hgd s x 26 ho w.heap.size 3 ri 1 Tryz.underlying26 hri (.slice none 0 0) 0 [] hs (World.ownsRow_nil _ _ _ _) hx (h none 0 w (Nat.le_refl _) (fun i x hx => by simp at hx) (fun b off e => nomatch e) (Below.refl _ _))
  | some x' =>
    refine wpList_append_own_at w hgd s x 26 ho w.heap.size 3 ri (.int .i64 0) 1 8 Tryz.underlying26 hri hrz hrs hrb rfl (by decide) (.slice none 0 0) 0 [] hs (World.ownsRow_nil _ _ _ _) x' l.length cap (l.map (Value.int .i64)) hx (by rw [List.length_map, Nat.mul_one]) (fun j u hj => ?_) (fun u hu => ?_) (by unfold maxLen; omega) (by omega) (Nat.le_refl _) (fun v' w' hown hg _ hloc => ?_)
    · rw [List.getElem?_map] at hj
      cases hxj : l[j]? with
      | none => rw [hxj] at hj; cases hj
      | some y =>
        rw [hxj] at hj; cases hj
        obtain ⟨_, _, e, c⟩ := hl j y hxj
        cases e
        rw [Addr.add_lit]; exact c
    · obtain ⟨y, _, rfl⟩ := List.mem_map.1 hu; rfl
    · obtain ⟨ad', cap', rfl, h1, h2, h4⟩ := nums_of_row (l := l) (by simpa using hown) (by simp)
      exact h ad' cap' w' h1 h2 (fun b off e => h4 b off e) ((Below.refl _ w).grown hg (Nat.le_refl _) (fun k hk => by cases hk))

theorem startOf_any {s : Sta} {ai ar : Option Addr} {ci cr : Nat} (w : World) :
    Calls Tryz.prog 8 #[.agg #[.int .i64 s.cells, .slice ai s.init.length ci, .slice ar s.regs.length cr]] w fun e w' => e = .returned (.agg #[.int .i64 s.cells, .slice ai s.init.length ci, .slice ar s.regs.length cr]) ∧ Below w.heap.size w w' := by
  go_enter Tryz.func8, Tryz.ntmps8
  go_wp2
  refine bodyPost_ret (v := .agg #[.int .i64 s.cells, .slice ai s.init.length ci, .slice ar s.regs.length cr]) (by simp only [results, Tryz.results8]; go_simp) rfl ⟨rfl, ?_⟩
  exact ((Below.refl _ _).alloc (Nat.le_refl _) _).alloc (by simp) _
end Go.Proofs.YtnnlkolhahjokaaGreatDoor

/- StP -/
namespace Go.Proofs.YtnnlkolhahjokaaGreatDoor
open Go.RowKit Go.Extern.Stop Go.Stop Go.Extern Go.Maps Go.WideMaps Go.Sort

structure NumsX (ad : Option Addr) (l : List Int) (cap : Nat) (w : World) : Prop where
  at' : numsAt ad l w
  nil' : ad = none → l = [] ∧ cap = 0
  len : l.length ≤ 9223372036854775807
theorem NumsX.below {ad : Option Addr} {l : List Int} {cap : Nat} {w w' : World} (h : NumsX ad l cap w) (hb : Below w.heap.size w w') : NumsX ad l cap w' := ⟨h.at'.below hb, h.nil', h.len⟩

theorem RunX.run {a : Nat → Addr} {cs : List (List Ins)} {p : MkPl} {m : Mk} {K : Nat} {w0 w : World} (h : RunX a cs p m K w0) {ad : Option Addr} {l : List Int} {cap : Nat} (hb : Below w0.heap.size w0 w) (hl : numsAt ad l w) (hcap : l.length ≤ cap) (hlen : l.length ≤ 300) (hK : K ≤ 1000)
    (hd : ∀ b off, ad = some ⟨b, off, none⟩ → w0.heap.size ≤ b ∧ b < w.heap.size) :
    Calls Tryz.prog 10 #[.pointer (some ⟨p.b, 0, none⟩), .slice ad l.length cap] w fun e w' => e = .returned (.int .i64 (m.runO cs l).1) ∧ ∃ v, MkStep a cs p w v (m.runO cs l).2 w' ∧ RunX a cs (p.marked v) (m.runO cs l).2 (K + 300) w' := by
  refine (krun_any (h.below hb) hl (by omega) hcap (by omega) (fun b off e => ⟨(hd b off e).2, fun hf => ?_⟩)).mono fun e w' ⟨e1, v, e2, e3⟩ => ⟨e1, v, e2, ⟨e3.at', e3.ok.mono (by omega), e3.right, by omega⟩⟩
  have := h.at'.fp_lt hf
  have := (hd b off e).1
  omega

structure Three (a : Nat → Addr) (cs : List (List Ins)) (N : Nat) (p q r : MkPl) (mp mq mr : Mk) (K : Nat) (w : World) : Prop where
  xp : RunX a cs p mp K w
  xq : RunX a cs q mq K w
  xr : RunX a cs r mr K w
  pq : ∀ k, p.fp k → ¬ q.fp k
  pr : ∀ k, p.fp k → ¬ r.fp k
  qr : ∀ k, q.fp k → ¬ r.fp k
  bp : N ≤ p.B
  bq : q.B = p.B
  br : r.B = p.B
theorem Three.below {a : Nat → Addr} {cs : List (List Ins)} {N : Nat} {p q r : MkPl} {mp mq mr : Mk} {K : Nat} {w w' : World} (h : Three a cs N p q r mp mq mr K w) (hb : Below w.heap.size w w') : Three a cs N p q r mp mq mr K w' := ⟨h.xp.below hb, h.xq.below hb, h.xr.below hb, h.pq, h.pr, h.qr, h.bp, h.bq, h.br⟩
end Go.Proofs.YtnnlkolhahjokaaGreatDoor

/- StR -/
namespace Go.Proofs.YtnnlkolhahjokaaGreatDoor
open Go.ChangeShapes Go.WideShapes Go.ChangeAt Go.RowKit Go.Joins Go.Deep

theorem kcells_Instr : Tryz.prog.cellsOf 44 = 5 := by kernel_rfl
theorem kcells_s : Tryz.prog.cellsOf 9 = 1 := by kernel_rfl
theorem kcells_n : Tryz.prog.cellsOf 3 = 1 := by kernel_rfl
theorem kcells_ns : Tryz.prog.cellsOf 26 = 1 := by kernel_rfl
theorem kcells_is : Tryz.prog.cellsOf 45 = 1 := by kernel_rfl

set_option maxRecDepth 100000 in
theorem kin_of_trod {H : Type} {enc : TypeId × Value → H} {W : World} {sp : Nat → Bool} {held : Bool} {fuel : Nat} {cs : List Value} {x : DataW H × List MemPlace}
    (h : DataW.trod enc Tryz.prog W 0 sp held fuel 44 cs = some x) : ∃ y : Ins, cs = [.string y.op, .int .i64 y.a, .int .i64 y.b, .int .i64 y.c, .string y.to] ∧ y.to.size ≤ maxLen := by
  obtain ⟨xs, n, _, _, hl, hlen, hf⟩ := DataW.trod_struct Tryz.underlying44 h
  rw [kcells_Instr] at hl
  match cs, hl with
  | [c0, c1, c2, c3, c4], _ =>
    match xs, hlen with
    | [x0, x1, x2, x3, x4], _ =>
      have f0 : DataW.trod enc Tryz.prog W 0 sp held n 9 [c0] = some x0 := by simpa [kcells_s] using hf 0 _ rfl
      have f1 : DataW.trod enc Tryz.prog W 0 sp held n 3 [c1] = some x1 := by simpa [kcells_n] using hf 1 _ rfl
      have f2 : DataW.trod enc Tryz.prog W 0 sp held n 3 [c2] = some x2 := by simpa [kcells_n] using hf 2 _ rfl
      have f3 : DataW.trod enc Tryz.prog W 0 sp held n 3 [c3] = some x3 := by simpa [kcells_n] using hf 3 _ rfl
      have f4 : DataW.trod enc Tryz.prog W 0 sp held n 9 [c4] = some x4 := by simpa [kcells_s] using hf 4 _ rfl
      obtain ⟨s, e0, _, _⟩ := DataW.trod_string Tryz.underlying9 f0
      obtain ⟨r1, e1, _, _⟩ := DataW.trod_int Tryz.underlying3 f1
      obtain ⟨r2, e2, _, _⟩ := DataW.trod_int Tryz.underlying3 f2
      obtain ⟨r3, e3, _, _⟩ := DataW.trod_int Tryz.underlying3 f3
      obtain ⟨s4, e4, _, h4⟩ := DataW.trod_string Tryz.underlying9 f4
      refine ⟨⟨s, r1, r2, r3, s4⟩, ?_, h4⟩
      simp only [List.cons.injEq, and_true] at e0 e1 e2 e3 e4
      rw [e0, e1, e2, e3, e4]

theorem list_of_trod {H : Type} {enc : TypeId × Value → H} {W : World} {fuel : Nat} {sp : Nat → Bool} {held : Bool} {cs : List Value} {x : DataW H × List MemPlace} {t e : TypeId} {α : Type} [Inhabited α] (F : α → List Value) (k : Nat) (hk : 0 < k) (Q : α → Prop)
    (ht : Tryz.prog.underlying t = some (.slice e)) (hc : Tryz.prog.cellsOf e = k) (hF : ∀ y, (F y).length = k)
    (hr : ∀ (n : Nat) (cs : List Value) x, DataW.trod enc Tryz.prog W 0 sp held n e cs = some x → ∃ y, cs = F y ∧ Q y)
    (h : DataW.trod enc Tryz.prog W 0 sp held fuel t cs = some x) :
    ∃ (ad : Option Addr) (cap : Nat) (l : List α), cs = [.slice ad l.length cap] ∧ (∀ (i : Nat) y, l[i]? = some y → ∃ b off, ad = some ⟨b, off, none⟩ ∧ (∀ j, j < k → W.cell? ⟨b, off + i * k + j, none⟩ = (F y)[j]?) ∧ Q y) ∧ (ad = none → l = [] ∧ cap = 0) ∧ l.length ≤ cap ∧ l.length ≤ maxLen := by
  rcases open_slice ht h with ⟨rfl, _⟩ | ⟨a, len, cap, m, n, D, Pl, rfl, _, hl, hl2, hm, hx, hel⟩
  · exact ⟨none, 0, [], rfl, fun i y hy => by simp at hy, fun _ => ⟨rfl, rfl⟩, Nat.zero_le _, Nat.zero_le _⟩
  · have hm' : len ≤ m := by rw [hm]; split <;> omega
    have hex : ∀ i, i < len → ∃ y : α, (∀ j, j < k → W.cell? ((a.add (i * k)).add j) = (F y)[j]?) ∧ Q y := fun i hi => by
      obtain ⟨cs', h1, h2⟩ := hel i (by omega)
      rw [hc] at h1
      obtain ⟨y, rfl, h3⟩ := hr _ _ _ h2
      exact ⟨y, (cells_at h1).2, h3⟩
    obtain ⟨f, hf⟩ := choose_lt (p := fun i (y : α) => (∀ j, j < k → W.cell? ((a.add (i * k)).add j) = (F y)[j]?) ∧ Q y) (h := hex)
    refine ⟨some a, cap, (List.range len).map f, by simp, fun i y hy => ?_, fun h => (by cases h), by simpa using hl, by simp; omega⟩
    have hi : i < len := by
      have := (List.getElem?_eq_some_iff.1 hy).1
      simpa using this
    obtain rfl : y = f i := by
      rw [List.getElem?_map, List.getElem?_range hi] at hy
      simpa using hy.symm
    have h00 := (hf 0 (by omega)).1 0 hk
    obtain ⟨v0, hv0⟩ : ∃ v, (F (f 0))[0]? = some v := ⟨_, List.getElem?_eq_getElem (by rw [hF]; exact hk)⟩
    rw [hv0, Nat.zero_mul] at h00
    have hs : a.spot = none := spot_none (a := a) h00
    have e : ∀ j, (a.add (i * k)).add j = ⟨a.block, a.off + i * k + j, none⟩ := fun j => by
      rw [add_plain a hs, add_plain _ rfl]
    refine ⟨a.block, a.off, by obtain ⟨b, o, sp⟩ := a; simp only at hs; subst hs; rfl, fun j hj => ?_, (hf i hi).2⟩
    have := (hf i hi).1 j hj
    rw [e] at this
    exact this

set_option maxRecDepth 100000 in
theorem kint_of_trod {H : Type} {enc : TypeId × Value → H} {W : World} {sp : Nat → Bool} {held : Bool} {fuel : Nat} {cs : List Value} {x : DataW H × List MemPlace}
    (h : DataW.trod enc Tryz.prog W 0 sp held fuel 3 cs = some x) : ∃ y : Int, cs = [.int .i64 y] := by
  obtain ⟨r, e, _, _⟩ := DataW.trod_int Tryz.underlying3 h
  exact ⟨r, e⟩

theorem nums_of_trod {H : Type} {enc : TypeId × Value → H} {W : World} {fuel : Nat} {sp : Nat → Bool} {held : Bool} {cs : List Value} {x : DataW H × List MemPlace} (h : DataW.trod enc Tryz.prog W 0 sp held fuel 26 cs = some x) :
    ∃ (ad : Option Addr) (cap : Nat) (l : List Int), cs = [.slice ad l.length cap] ∧ NumsX ad l cap W ∧ l.length ≤ cap := by
  obtain ⟨ad, cap, l, h1, h2, h3, h4, h5⟩ := list_of_trod (fun y : Int => [.int .i64 y]) 1 (by decide) (fun _ => True) Tryz.underlying26 kcells_n (fun _ => rfl) (fun n cs x h => by obtain ⟨y, e⟩ := kint_of_trod h; exact ⟨y, e, trivial⟩) h
  refine ⟨ad, cap, l, h1, ⟨fun i y hy => ?_, h3, by have : l.length ≤ 2 ^ 63 - 1 := h5; omega⟩, h4⟩
  obtain ⟨b, off, e, hc, -⟩ := h2 i y hy
  have := hc 0 (by decide)
  rw [Nat.mul_one, Nat.add_zero] at this
  exact ⟨b, off, e, this⟩

structure RowV where
  ad : Option Addr
  cap : Nat
  l : List Int
instance : Inhabited RowV := ⟨⟨none, 0, []⟩⟩
theorem rows_of_trod {H : Type} {enc : TypeId × Value → H} {W : World} {fuel : Nat} {sp : Nat → Bool} {held : Bool} {cs : List Value} {x : DataW H × List MemPlace} (h : DataW.trod enc Tryz.prog W 0 sp held fuel 22 cs = some x) :
    ∃ (ad : Option Addr) (cap : Nat) (R : List (List Int)), cs = [.slice ad R.length cap] ∧ rowsAt ad R W ∧ R.length ≤ cap ∧ R.length ≤ 9223372036854775807 ∧ ∀ (i : Nat) row, R[i]? = some row → row.length ≤ 9223372036854775807 := by
  obtain ⟨ad, cap, l, h1, h2, h3, h4, h5⟩ := list_of_trod (fun y : RowV => [.slice y.ad y.l.length y.cap]) 1 (by decide) (fun y => NumsX y.ad y.l y.cap W ∧ y.l.length ≤ y.cap) Tryz.underlying22 kcells_ns (fun _ => rfl) (fun n cs x h => by obtain ⟨ad, cap, l, e, h1, h2⟩ := nums_of_trod h; exact ⟨⟨ad, cap, l⟩, e, h1, h2⟩) h
  have key : ∀ (i : Nat) row, (l.map RowV.l)[i]? = some row → ∃ y, l[i]? = some y ∧ row = y.l := fun i row hr => by
    rw [List.getElem?_map] at hr
    cases hy : l[i]? with
    | none => rw [hy] at hr; cases hr
    | some y => rw [hy] at hr; cases hr; exact ⟨y, rfl, rfl⟩
  refine ⟨ad, cap, l.map RowV.l, by rw [List.length_map]; exact h1, fun i row hr => ?_, by rw [List.length_map]; exact h4, by rw [List.length_map]; have : l.length ≤ 2 ^ 63 - 1 := h5; omega, fun i row hr => ?_⟩
  · obtain ⟨y, hy, rfl⟩ := key i row hr
    obtain ⟨b, off, e, hc, hn, hl⟩ := h2 i y hy
    have := hc 0 (by decide)
    rw [Nat.mul_one, Nat.add_zero] at this
    exact ⟨b, off, y.ad, y.cap, e, this, hl, hn.at'⟩
  · obtain ⟨y, hy, rfl⟩ := key i row hr
    obtain ⟨_, _, _, _, hn, _⟩ := h2 i y hy
    exact hn.len

structure CodeV where
  ad : Option Addr
  cap : Nat
  l : List Ins
instance : Inhabited CodeV := ⟨⟨none, 0, []⟩⟩
instance : Inhabited Ins := ⟨⟨ByteArray.empty, 0, 0, 0, ByteArray.empty⟩⟩
def CodeV.Ok (y : CodeV) (W : World) : Prop := insAt y.ad y.l W ∧ (y.ad = none → y.l = []) ∧ (∀ (i : Nat) x, y.l[i]? = some x → x.to.size ≤ maxLen) ∧ y.l.length ≤ y.cap ∧ y.l.length ≤ 9223372036854775807
theorem code_of_trod {H : Type} {enc : TypeId × Value → H} {W : World} {fuel : Nat} {sp : Nat → Bool} {held : Bool} {cs : List Value} {x : DataW H × List MemPlace} (h : DataW.trod enc Tryz.prog W 0 sp held fuel 45 cs = some x) :
    ∃ y : CodeV, cs = [.slice y.ad y.l.length y.cap] ∧ y.Ok W := by
  obtain ⟨ad, cap, l, h1, h2, h3, h4, h5⟩ := list_of_trod (fun y : Ins => [.string y.op, .int .i64 y.a, .int .i64 y.b, .int .i64 y.c, .string y.to]) 5 (by decide) (fun y => y.to.size ≤ maxLen) Tryz.underlying45 kcells_Instr (fun _ => rfl) (fun n cs x h => kin_of_trod h) h
  refine ⟨⟨ad, cap, l⟩, h1, fun i x hx => ?_, fun e => (h3 e).1, fun i x hx => ?_, h4, by have : l.length ≤ 2 ^ 63 - 1 := h5; show l.length ≤ _; omega⟩
  · obtain ⟨b, off, e, hc, -⟩ := h2 i x hx
    exact ⟨b, off, e, hc 0 (by decide), hc 1 (by decide), hc 2 (by decide), hc 3 (by decide), hc 4 (by decide)⟩
  · obtain ⟨_, _, _, _, hq⟩ := h2 i x hx
    exact hq
theorem codes_of_trod {H : Type} {enc : TypeId × Value → H} {W : World} {fuel : Nat} {sp : Nat → Bool} {held : Bool} {cs : List Value} {x : DataW H × List MemPlace} (h : DataW.trod enc Tryz.prog W 0 sp held fuel 25 cs = some x) :
    ∃ (ad : Option Addr) (cap : Nat) (cl : List (List Ins)), cs = [.slice ad cl.length cap] ∧ codesAt ad cl W ∧ cl.length ≤ 9223372036854775807 ∧ (∀ (t : Nat) L, cl[t]? = some L → L.length ≤ 9223372036854775807) ∧ ∀ (t : Nat) L, cl[t]? = some L → ∀ (i : Nat) x, L[i]? = some x → x.to.size ≤ maxLen := by
  obtain ⟨ad, cap, l, h1, h2, h3, h4, h5⟩ := list_of_trod (fun y : CodeV => [.slice y.ad y.l.length y.cap]) 1 (by decide) (fun y => y.Ok W) Tryz.underlying25 kcells_is (fun _ => rfl) (fun n cs x h => code_of_trod h) h
  have key : ∀ (i : Nat) row, (l.map CodeV.l)[i]? = some row → ∃ y, l[i]? = some y ∧ row = y.l := fun i row hr => by
    rw [List.getElem?_map] at hr
    cases hy : l[i]? with
    | none => rw [hy] at hr; cases hr
    | some y => rw [hy] at hr; cases hr; exact ⟨y, rfl, rfl⟩
  refine ⟨ad, cap, l.map CodeV.l, by rw [List.length_map]; exact h1, fun i row hr => ?_, by rw [List.length_map]; have : l.length ≤ 2 ^ 63 - 1 := h5; omega, fun i row hr => ?_, fun i row hr => ?_⟩
  · obtain ⟨y, hy, rfl⟩ := key i row hr
    obtain ⟨b, off, e, hc, hq⟩ := h2 i y hy
    have := hc 0 (by decide)
    rw [Nat.mul_one, Nat.add_zero] at this
    exact ⟨b, off, y.ad, y.cap, e, this, hq.2.2.2.1, hq.1, hq.2.1⟩
  · obtain ⟨y, hy, rfl⟩ := key i row hr
    obtain ⟨_, _, _, _, hq⟩ := h2 i y hy
    exact hq.2.2.2.2
  · obtain ⟨y, hy, rfl⟩ := key i row hr
    obtain ⟨_, _, _, _, hq⟩ := h2 i y hy
    exact hq.2.2.1
end Go.Proofs.YtnnlkolhahjokaaGreatDoor
