/- Package code's Read by a contract. -/
import Derived.Test.YtcajklfngeafdaaDoorProgL
namespace Go.Proofs.YtcajklfngeafdaaDoor
open Go.RowKit Go.Extern.Stop Go.Stop Go.Extern Go.Maps Go.WideMaps Go.Shelf
attribute [local go_sem] Oper.semAt_some

theorem trim_any (x : ByteArray) (hx : x.size ≤ 1000000) (w : World) : Calls Tryd.prog 9 #[.string x, .string ⟨#[10]⟩] w fun e w' => e = .returned (.string (trimB x)) ∧ w' = w := Tryd.strings_TrimSuffix x ⟨#[10]⟩ w (by omega)

theorem linesB_size : ∀ (n : Nat) (s x : ByteArray), x ∈ linesB n s → x.size ≤ s.size
  | 0, _, _, h => by cases h
  | n + 1, s, x, h => by
    unfold linesB at h
    split at h
    · cases h
    · split at h
      · simp at h; rw [h]; exact Nat.le_refl _
      · rcases List.mem_cons.1 h with h | h
        · rw [h, ByteArray.size_extract]; omega
        · have := linesB_size n _ x h
          rw [ByteArray.size_extract] at this
          omega
theorem trimB_le (x : ByteArray) : (trimB x).size ≤ x.size := by
  unfold trimB
  rw [size_mk, size_bl]
  unfold Lib.trimSuffix
  split
  · rw [List.length_take]; omega
  · exact Nat.le_refl _
theorem cutTo_size (s : ByteArray) (c : Nat) : ∀ j p, p ∈ (cutTo s c j).1 → p.size ≤ j
  | 0, p, h => by cases h
  | j + 1, p, h => by
    rw [cutTo] at h
    split at h
    · rcases List.mem_append.1 h with h | h
      · exact Nat.le_succ_of_le (cutTo_size s c j p h)
      · have e : p = (cutTo s c j).2 := by simpa using h
        rw [e]
        exact Nat.le_succ_of_le (cutTo_le s c j).2
    · exact Nat.le_succ_of_le (cutTo_size s c j p h)
theorem cutS_size {s : ByteArray} {c : Nat} {p : ByteArray} (h : p ∈ cutS s c) : p.size ≤ s.size := by
  unfold cutS at h
  rcases List.mem_append.1 h with h | h
  · exact cutTo_size s c _ p h
  · have e : p = (cutTo s c s.size).2 := by simpa using h
    rw [e]
    exact (cutTo_le s c _).2
theorem linesOf_size {s p : ByteArray} (h : p ∈ linesOf s) : p.size ≤ s.size := by
  unfold linesOf at h
  split at h
  · cases h
  · refine Nat.le_trans (cutS_size h) ?_
    unfold stripB
    split
    · rw [ByteArray.size_extract]; omega
    · exact Nat.le_refl _
theorem readLine_size {ln : ByteArray} {x : Ins} (h : readLine ln = some x) : x.to.size ≤ ln.size := by
  unfold readLine at h
  have hin : ∀ p ∈ cutS ln 32, p.size ≤ ln.size := fun p hp => cutS_size hp
  match hc : cutS ln 32, h with
  | op :: r, h =>
    rw [hc] at hin
    rw [readIns_cons] at h
    cases hS : shape op.toList with
    | none => rw [hS] at h; cases h
    | some S =>
      rw [hS] at h
      dsimp only at h
      split at h
      · cases h
        dsimp only
        split
        · rw [List.getD_eq_getElem?_getD]
          cases hg : r[nums S]? with
          | none => exact Nat.zero_le _
          | some y => exact hin y (List.mem_cons_of_mem _ (List.mem_of_getElem? hg))
        · exact Nat.zero_le _
      · cases h
theorem read_short {s : ByteArray} {lst : List Ins} (h : (linesOf s).map readLine = lst.map some) (hs : s.size ≤ 40000) : ∀ (i : Nat) x, lst[i]? = some x → x.to.size ≤ maxLen := fun i x hx => by
  have := congrArg (fun z => z[i]?) h
  simp only [List.getElem?_map, hx, Option.map_some] at this
  cases hl : (linesOf s)[i]? with
  | none => rw [hl] at this; cases this
  | some ln =>
    rw [hl] at this
    have h1 := readLine_size (Option.some.inj this)
    have h2 := linesOf_size (List.mem_of_getElem? hl)
    unfold maxLen
    omega

/-- What lies behind 'return nil, &api.Fault{..}' in a round. -/
theorem rdX_made {a : Nat → Addr} {s : ByteArray} {w W W3 : World} {pre : List ByteArray} {bx len : Nat} {t : TypeId} {act : Act} (hK : KeepsOthers W W3) (hB : Below w.heap.size w W3) (hF : readFault s = (1, (len : Int))) (hlt : w.heap.size < W3.heap.size) {u0 u1 : Value}
    (c0 : W3.cell? ⟨w.heap.size, 0, none⟩ = some u0) (c1 : W3.cell? ⟨w.heap.size + 1, 0, none⟩ = some u1) :
    boxPost bx (rdI w) (rdX a s w) pre W Exit.ret act (((W3.setCell ⟨w.heap.size, 0, none⟩ (.slice none 0 0)).setCell ⟨w.heap.size + 1, 0, none⟩ (.iface 39 (.pointer (some ⟨W3.heap.size, 0, none⟩)))).alloc (.cells #[.int .i64 len, xerr (a 0)] t)).drew := by
  have hs : ((W3.setCell ⟨w.heap.size, 0, none⟩ (.slice none 0 0)).setCell ⟨w.heap.size + 1, 0, none⟩ (.iface 39 (.pointer (some ⟨W3.heap.size, 0, none⟩)))).heap.size = W3.heap.size := by simp [World.setCell]
  have hn := World.cell?_alloc_new ((W3.setCell ⟨w.heap.size, 0, none⟩ (.slice none 0 0)).setCell ⟨w.heap.size + 1, 0, none⟩ (.iface 39 (.pointer (some ⟨W3.heap.size, 0, none⟩)))) #[.int .i64 len, xerr (a 0)] t
  rw [hs] at hn
  refine ⟨(((hK.trans (KeepsOthers.setCell _ _ _)).trans (KeepsOthers.setCell _ _ _)).trans (keeps_below ((Below.refl _ _).alloc (Nat.le_refl _) _))).trans (KeepsOthers.drew _), ?_⟩
  refine ⟨(((hB.setCell (Nat.le_refl _) _).setCell (by show _ ≤ w.heap.size + 1; omega) _).alloc (by rw [hs]; omega) _).drew, len, W3.heap.size, hF, by omega, ?_, ?_, (hn 0).trans rfl, (hn 1).trans rfl⟩
  · exact alloc_cell _ (cell_ne (World.cell?_setCell_same _ _ _ c0) (.inl (by omega)))
  · exact alloc_cell _ (World.cell?_setCell_same _ _ _ (cell_ne c1 (.inl (by omega))))

theorem insInfo : ∃ i, (Tryd.prog).info? 32 = some i ∧ i.zero = some (.agg #[.string ⟨#[]⟩, .int .i64 0, .int .i64 0, .int .i64 0, .string ⟨#[]⟩]) ∧ i.size = 5 ∧ i.bytes = 56 := info_parts (by kernel_rfl)

/-- What Read answers. -/
def readPost (a : Nat → Addr) (s : ByteArray) (w : World) (e : Ending) (w' : World) : Prop := ∃ sv ev, e = .returned (.tuple #[sv, ev]) ∧ errIs a (readFault s) ev w' w.heap.size ∧
  ((readFault s).1 = 0 → ∃ ad cap, sv = .slice ad (readCode s).length cap ∧ insAt ad (readCode s) w') ∧ ((readFault s).1 ≠ 0 → sv = .slice none 0 0) ∧ Below w.heap.size w w'

set_option maxRecDepth 100000 in
set_option maxHeartbeats 2000000 in
theorem read_any (a : Nat → Addr) (s : ByteArray) (hs : s.size ≤ 40000) (w : World) (hE : EnvX a w) :
    Calls Tryd.prog 5 #[.string s] w fun e w' => readPost a s w e w' := by
  have hi : ¬ 40000 < (s.size : Int) := by omega
  refine (callsIn_wide (n := 4)).1 ?_
  refine callsIn_of_wp_marks Tryd.func5 rfl trivial ?_ rfl
  simp only [Tryd.ntmps5, List.size_toArray, List.length_cons, List.length_nil, Nat.reduceAdd, Nat.reduceSub, Array.replicate_succ, Array.replicate_zero, List.push_toArray, List.append_toArray, List.nil_append, List.cons_append]
  gi_wp2_with (refine ⟨trivial, ?_⟩; gi_at_call 7; refine (callsIn_wide.2 (lines_any s _)).mono ?_; rintro e w1 ⟨rfl, hw1⟩)
  have hsz : w1.heap.size = w.heap.size + 1 + 1 + 1 + 1 := by rw [hw1]; simp
  have hbx : w1.heap[w.heap.size + 1 + 1 + 1]? = some (.cells #[.string s] 9 (0, 0)) := by
    rw [hw1]
    have := World.alloc_heap_new (((w.alloc (.cells #[.slice none 0 0] 23)).alloc (.cells #[.nilIface] 25)).alloc (.cells #[.slice none 0 0] 23)) (.cells #[.string s] 9)
    simpa using this
  have e0 : w1.heap[w.heap.size]? = some (.cells #[.slice none 0 0] 23 (0, 0)) := by
    rw [hw1]
    exact (Below.heap_alloc _ _ _ (by simp; omega)).trans ((Below.heap_alloc _ _ _ (by simp; omega)).trans ((Below.heap_alloc _ _ _ (by simp)).trans (World.alloc_heap_new w _)))
  have e1 : w1.heap[w.heap.size + 1]? = some (.cells #[.nilIface] 25 (0, 0)) := by
    rw [hw1]
    refine (Below.heap_alloc _ _ _ (by simp)).trans ((Below.heap_alloc _ _ _ (by simp)).trans ?_)
    have := World.alloc_heap_new (w.alloc (.cells #[.slice none 0 0] 23)) (.cells #[.nilIface] 25)
    rwa [World.size_alloc] at this
  have e2 : w1.heap[w.heap.size + 1 + 1]? = some (.cells #[.slice none 0 0] 23 (0, 0)) := by
    rw [hw1]
    refine (Below.heap_alloc _ _ _ (by simp)).trans ?_
    have := World.alloc_heap_new ((w.alloc (.cells #[.slice none 0 0] 23)).alloc (.cells #[.nilIface] 25)) (.cells #[.slice none 0 0] 23)
    rwa [World.size_alloc, World.size_alloc] at this
  have hI0 : rdI w [] w1 := by
    refine ⟨?_, by omega, ⟨box_cell e0, box_frozen e0⟩, ⟨box_cell e1, box_frozen e1⟩, .slice none 0 0, [], ⟨box_cell e2, box_frozen e2⟩, rfl, ⟨rfl, .inl ⟨rfl, rfl⟩⟩⟩
    rw [hw1]; exact ((((Below.refl _ _).alloc (Nat.le_refl _) _).alloc (by simp) _).alloc (by simp; omega) _).alloc (by simp; omega) _
  clear e0 e1 e2
  rw [← hw1]
  clear hw1
  refine wpIn_rangeFunc_box (gf := 15) (lb := #[.pointer (some ⟨w.heap.size + 1 + 1 + 1, 0, none⟩)]) rfl (enters_of Tryd.func15 (by kernel_rfl) rfl) hbx (lines_seq 3 (by decide) s (by omega) _ _) (fun _ => rfl)
    (rdI w) (rdX a s w) (fun pre A A' row h hg hr => rdI_own w pre A A' row h hg (fun r e => (hr r e).imp id (fun h => ⟨by omega, h.2⟩))) (fun pre A l o' h hl ho => rdX_own a s w pre A l o' h (by omega) ho) hI0
    (fun x => { tmps := #[.string s, undef, .pointer (some ⟨w.heap.size, 0, none⟩), .pointer (some ⟨w.heap.size + 1, 0, none⟩), .pointer (some ⟨w.heap.size + 1 + 1, 0, none⟩), .string x, undef, undef, undef, .string s, .int .i64 s.size, .bool false, undef, .string s, .func (.func 15) #[] #[.pointer (some ⟨w.heap.size + 1 + 1 + 1, 0, none⟩)], .string x, undef, undef, undef, undef, undef, undef, undef, undef, undef, undef, undef, undef, undef, undef, undef, undef, undef, undef, undef, undef, undef, undef, undef, undef], defers := [] }) ?assign ?body ?done ?stop
  case assign =>
    intro l x W K hK
    gi_wp2
    exact hK
  case body =>
    rintro l pre x W ⟨hB, hs4, ⟨c0, f0⟩, ⟨c1, f1⟩, v, lst, ⟨c2, f2⟩, hlst, hrow⟩ hszW hpre
    have hplen : pre.length + 1 ≤ s.size := by
      have := List.IsPrefix.length_le hpre
      have := linesB_len s.size s
      simp at *
      omega
    have hll : lst.length = pre.length := by have := congrArg List.length hlst; simpa using this.symm
    have hxs0 := linesB_size s.size s x (hpre.subset (by simp))
    have hxs : x.size ≤ 1000000 := by omega
    have HT : Hid (∀ w', Calls Tryd.prog 9 #[.string x, .string ⟨#[10]⟩] w' fun e w'' => e = .returned (.string (trimB x)) ∧ w'' = w') := fun w' => trim_any x hxs w'
    have hts : (trimB x).size ≤ 100000 := by have := trimB_le x; omega
    have HN : Hid (∀ w', EnvX a w' → Calls Tryd.prog 8 #[.string (trimB x)] w' fun e w'' => e = .returned (insV (readLine (trimB x))) ∧ Below w'.heap.size w' w'') := fun w' h => instruction_any a (trimB x) hts w' h
    have EW := hide (hE.below hB)
    cases hr : readLine (trimB x) with
    | none =>
      rw [hr, show insV none = .tuple #[.agg #[.string ⟨#[]⟩, .int .i64 0, .int .i64 0, .int .i64 0, .string ⟨#[]⟩], .bool false] from rfl] at HN
      have HB := hide (readFault_bad hpre hlst hr)
      gi_wp2_with (first
        | (refine ⟨trivial, ?_⟩; gi_at_call 9; refine (CallsIn.inRound l (callsIn_wide.2 (HT.out _))).mono ?_; rintro e w2 ⟨rfl, rfl⟩)
        | (refine ⟨trivial, ?_⟩; gi_at_call 8; refine (CallsIn.inRound l (callsIn_wide.2 (HN.out _ EW.out))).mono ?_; rintro e w2 ⟨rfl, hb2⟩))
      obtain ⟨W3, hW3⟩ : ∃ W3, W3 = w2.alloc (.cells #[.string ⟨#[]⟩, .int .i64 0, .int .i64 0, .int .i64 0, .string ⟨#[]⟩] 32) := ⟨_, rfl⟩
      have hbW := below_step hb2 (show Below w2.heap.size w2 W3 by rw [hW3]; exact (Below.refl _ _).alloc (Nat.le_refl _) _)
      rw [← hW3]
      clear hW3 hb2 HN HT
      have hK1 := hide (keeps_below hbW)
      have B3 := below_step hB hbW
      have E := (hE.below B3).err 0 (by decide)
      simp only [xid] at E
      have hlt0 := World.block_lt_of_cell? _ _ c0
      have hlt1 := World.block_lt_of_cell? _ _ c1
      have hlt2 := World.block_lt_of_cell? _ _ c2
      simp only at hlt0 hlt1 hlt2
      replace c0 := keep_cell hbW c0
      replace c1 := keep_cell hbW c1
      replace c2 := keep_cell hbW c2
      have f0' : W3.frozen? ⟨w.heap.size, 0, none⟩ = false := by rw [hbW.frozen hlt0]; exact f0
      have f1' : W3.frozen? ⟨w.heap.size + 1, 0, none⟩ = false := by rw [hbW.frozen hlt1]; exact f1
      have g0 := World.block_lt_of_cell? _ _ c0
      have g1 := World.block_lt_of_cell? _ _ c1
      have g2 := World.block_lt_of_cell? _ _ c2
      have gE := World.block_lt_of_cell? _ _ E
      simp only at g0 g1 g2 gE
      have gW := World.block_lt_of_cell? _ _ (hE.err 0 (by decide))
      simp only [xid] at gW
      have gn0 : w.heap.size ≠ 1 := by omega
      have gn1 : w.heap.size + 1 ≠ 1 := by omega
      clear hlt0 hlt1 hlt2
      have hmx : (Tryd.prog).follows .mixedOrders = true := by kernel_rfl
      have hv : ∃ ad cap, v = .slice ad lst.length cap := by
        rcases hrow.2 with ⟨h1, h2⟩ | ⟨g, cap, cur, h1, _⟩
        · exact ⟨none, 0, by rw [h1, h2]⟩
        · exact ⟨_, cap, h1⟩
      obtain ⟨ad, cap, rfl⟩ := hv
      have hszB := hbW.size
      clear hrow f2 hbW f0 f1 EW
      gi_region_with_o (fail)
      all_goals gi_wp2
      all_goals exact rdX_made hK1.out B3 (by rw [← hll]; exact HB.out) g0 c0 c1
    | some y =>
      rw [hr, show insV (some y) = .tuple #[.agg #[.string y.op, .int .i64 y.a, .int .i64 y.b, .int .i64 y.c, .string y.to], .bool true] from rfl] at HN
      have HL : Hid (∀ ys, ys = insCells lst ++ [.string y.op, .int .i64 y.a, .int .i64 y.b, .int .i64 y.c, .string y.to] → ys = insCells (lst ++ [y])) := fun ys h => by rw [h, insCells_snoc]
      have HM : Hid (((pre ++ [x]).map trimB).map readLine = (lst ++ [y]).map some) := by
        show _ = _
        rw [List.map_append, List.map_append, hlst, List.map_append]
        simp [hr]
      have hl4 : lst.length ≤ 40000 := by omega
      have hvb : ∀ k, v.ownBlock = some k → w.heap.size + 4 ≤ k ∧ k < W.heap.size ∧ ∃ o : Obj, W.heap[k]? = some o ∧ o.isCells = true := fun k hk => by
        rcases hrow.2 with ⟨h1, _⟩ | ⟨g, cap, cur, h1, h2, h3, _⟩
        · rw [h1] at hk; cases hk
        · rw [h1] at hk
          have : g = k := by simpa [Value.ownBlock] using hk
          subst this
          exact ⟨h2, lt_of_block h3, _, h3, rfl⟩
      obtain ⟨ri, hri, hrz, hrs, hrb⟩ := insInfo
      have HEND : Hid (∀ (w2 W3 w6 : World) (v' : Value), Below W.heap.size W w2 → W3 = w2.alloc (.cells #[.string y.op, .int .i64 y.a, .int .i64 y.b, .int .i64 y.c, .string y.to] 32) → W3.heap.size = w2.heap.size + 1 → (W3.alloc (.cells #[.string y.op, .int .i64 y.a, .int .i64 y.b, .int .i64 y.c, .string y.to] 32)).grownBy w6 v.ownBlock → w6.ownsRow (w.heap.size + 4) 32 5 v' (lst.length + 1) (insCells lst ++ [.string y.op, .int .i64 y.a, .int .i64 y.b, .int .i64 y.c, .string y.to]) →
          (w6.cell? ⟨w.heap.size + 1 + 1, 0, none⟩ = some v ∧ w6.frozen? ⟨w.heap.size + 1 + 1, 0, none⟩ = false) ∧
          (KeepsOthers W (w6.setCell ⟨w.heap.size + 1 + 1, 0, none⟩ v') ∧ (w6.setCell ⟨w.heap.size + 1 + 1, 0, none⟩ v').heap[w.heap.size + 1 + 1 + 1]? = W.heap[w.heap.size + 1 + 1 + 1]? ∧ rdI w (pre ++ [x]) (w6.setCell ⟨w.heap.size + 1 + 1, 0, none⟩ v'))) := by
        intro w2 W3 w6 v' hb2 hW3 hs3 hg hown
        have hbW : Below W.heap.size W (W3.alloc (.cells #[.string y.op, .int .i64 y.a, .int .i64 y.b, .int .i64 y.c, .string y.to] 32)) := by
          rw [hW3]
          exact (hb2.alloc hb2.size _).alloc (by simp; have := hb2.size; omega) _
        have lt : ∀ {b o : Nat} {u : Value}, W.cell? ⟨b, o, none⟩ = some u → b < W.heap.size := fun h => World.block_lt_of_cell? _ _ h
        have old : ∀ b, b < w.heap.size + 4 → b < W.heap.size → w6.heap[b]? = W.heap[b]? := fun b hb hbl => (hg.block b (by have := hbW.size; omega) (fun e => by have := (hvb b e.symm).1; omega)).trans (hbW.block b hbl)
        have cel : ∀ {b o : Nat} {u : Value}, b < w.heap.size + 4 → W.cell? ⟨b, o, none⟩ = some u → w6.cell? ⟨b, o, none⟩ = some u := fun hb h => by rw [World.cell?_of_block (w := W) (old _ hb (lt h))]; exact h
        have fro : ∀ {b o : Nat}, b < w.heap.size + 4 → b < W.heap.size → w6.frozen? ⟨b, o, none⟩ = W.frozen? ⟨b, o, none⟩ := fun hb h => World.frozen?_of_block (old _ hb h)
        have hK6 : KeepsOthers W w6 := (keeps_below hbW).trans ⟨hg.size, fun k o hk ho => (hg.block k (Array.getElem?_eq_some_iff.1 hk).1 (fun e => by
          obtain ⟨_, hkl, o', ho', hc'⟩ := hvb k e.symm
          rw [hbW.block k hkl, ho'] at hk
          cases hk
          rw [ho] at hc'
          cases hc')).trans hk⟩
        have d2 := cel (by omega) c2
        refine ⟨⟨d2, by rw [fro (by omega) (lt c2)]; exact f2⟩, hK6.trans (KeepsOthers.setCell _ _ _), ?_, ?_, ?_, ⟨?_, ?_⟩, ⟨?_, ?_⟩, v', lst ++ [y], ⟨?_, ?_⟩, HM.out, ?_⟩
        · exact (Below.heap_setCell _ _ _ _ (by simp)).trans (old _ (by omega) (by omega))
        · refine ((hB.trans (hbW.mono hB.size)).grown hg (Nat.le_trans hB.size hbW.size) (fun k hk => by have := (hvb k hk).1; omega)).setCell (by show _ ≤ w.heap.size + 1 + 1; omega) _
        · have := hbW.size; have := hg.size; simp [World.setCell]; omega
        · exact cell_ne (cel (by omega) c0) (.inl (by omega))
        · rw [World.frozen?_setCell, fro (by omega) (lt c0)]; exact f0
        · exact cell_ne (cel (by omega) c1) (.inl (by omega))
        · rw [World.frozen?_setCell, fro (by omega) (lt c1)]; exact f1
        · exact World.cell?_setCell_same _ _ _ d2
        · rw [World.frozen?_setCell, fro (by omega) (lt c2)]; exact f2
        · rw [← HL.out _ rfl, List.length_append]
          exact ownsRow_block hown (fun k hk => Below.heap_setCell _ _ _ _ (fun e => by
            have hkk := (hown.lt k hk).1
            simp only at e
            omega))
      clear HL HM hlst f0 f1 c0 c1
      gi_wp2_with (first
        | (refine ⟨trivial, ?_⟩; gi_at_call 9; refine (CallsIn.inRound l (callsIn_wide.2 (HT.out _))).mono ?_; rintro e w2 ⟨rfl, rfl⟩)
        | (refine ⟨trivial, ?_⟩; gi_at_call 8; refine (CallsIn.inRound l (callsIn_wide.2 (HN.out _ EW.out))).mono ?_; rintro e w2 ⟨rfl, hb2⟩; have d2 := keep_cell hb2 c2; have g2 := World.block_lt_of_cell? _ _ d2; simp only at g2; have hrow2 := ownsRow_block hrow (fun k hk => hb2.block k (hvb k hk).2.1); have hsw := hb2.size)
        | (gi_at_builtin; refine wpListIn_append_own _ rfl _ _ 23 rfl (w.heap.size + 4) 32 ri (.agg #[.string ⟨#[]⟩, .int .i64 0, .int .i64 0, .int .i64 0, .string ⟨#[]⟩]) 5 56 Tryd.underlying23 hri hrz hrs hrb rfl (by decide) _ _ _ rfl ((hrow2.alloc _).alloc _) ⟨w2.heap.size + 1, 0, none⟩ 1 1 [.string y.op, .int .i64 y.a, .int .i64 y.b, .int .i64 y.c, .string y.to] rfl rfl ?p1 ?p2 ?p3 ?p4 ?p5 ?_))
      case p1 =>
        intro k u hk
        match k, hk with
        | 0, hk => simp at hk; subst hk; simp [Addr.add]
        | 1, hk => simp at hk; subst hk; simp [Addr.add]
        | 2, hk => simp at hk; subst hk; simp [Addr.add]
        | 3, hk => simp at hk; subst hk; simp [Addr.add]
        | 4, hk => simp at hk; subst hk; simp [Addr.add]
      case p2 => first
        | (intro u hu; simp at hu; rcases hu with rfl | rfl | rfl | rfl | rfl <;> rfl)
        | (refine ⟨?_, ?_, ?_, ?_, ?_⟩ <;> rfl)
      case p3 => unfold maxLen; omega
      case p4 => omega
      case p5 => first
        | omega
        | (simp; omega)
      intro v' w6 hown6 hg6 hnil
      obtain ⟨⟨d6, f6⟩, hK, hbb, hI⟩ := HEND.out w2 _ w6 v' hb2 rfl (by simp) hg6 (by rw [hll]; exact hown6)
      obtain ⟨g', cap', rfl⟩ := ownsRow_succ hown6
      clear HEND hown6 hg6 hnil hrow hrow2 hri hrz hrs hrb
      gi_wp2
      exact ⟨hK, hbb, hI⟩
  case stop =>
    rintro pre W ⟨hB, j, N, hf, hN, c0, c1, n0, n1⟩ hD
    gi_wp2
    have hg := grownBy_putObj' W w1.heap.size (.deferred none)
    have hr : ∀ r, some w1.heap.size = some r → ∃ o : Obj, W.heap[r]? = some o ∧ o.isCells = false := fun r e => by cases e; exact ⟨_, hD, rfl⟩
    have c0' := cell_kept c0 hg hr
    have c1' := cell_kept c1 hg hr
    rw [hsz] at c0' c1'
    refine ⟨by simp, .inl ⟨_, _, rfl, run_takeDeferred hD, ?_⟩⟩
    refine ⟨.tuple #[.slice none 0 0, .iface 39 (.pointer (some ⟨N, 0, none⟩))], by simp only [results, Tryd.results5]; go_simp, ?_⟩
    refine ⟨.slice none 0 0, .iface 39 (.pointer (some ⟨N, 0, none⟩)), rfl, ?_, ?_, ?_, hB.grown hg hB.size (fun k hk => by cases hk; omega)⟩
    · rw [hf]
      exact .inr (.inr ⟨Nat.one_ne_zero, j, N, rfl, hN, rfl, cell_kept n0 hg hr, cell_kept n1 hg hr⟩)
    · intro h
      rw [hf] at h
      cases h
    · intro _
      rfl
  case done =>
    rintro W ⟨hB, hs4, ⟨c0, f0⟩, ⟨c1, f1⟩, v, lst, ⟨c2, f2⟩, hlst, hrow⟩ hD
    rw [lines_trim] at hlst
    have hshort := read_short hlst hs
    obtain ⟨hRf, hRc⟩ := read_good hlst
    obtain ⟨ad, cap, rfl, HI⟩ : ∃ ad cap, v = .slice ad lst.length cap ∧ Hid (∀ W', W'.ownsRow (w.heap.size + 4) 32 5 (.slice ad lst.length cap) lst.length (insCells lst) → insAt ad lst W') := by
      rcases hrow.2 with ⟨h1, h2⟩ | ⟨g, cap, cur, h1, _⟩
      · exact ⟨none, 0, by rw [h1, h2], fun W' _ i x hx => by rw [List.length_eq_zero_iff.1 h2] at hx; simp at hx⟩
      · exact ⟨_, cap, h1, fun W' h => insAt_of_row h⟩
    have HC := hide (pcheck_any a ad cap lst W (hE.below hB).e hshort (HI.out W hrow))
    have hvb : ∀ k, (Value.slice ad lst.length cap).ownBlock = some k → k < W.heap.size := fun k hk => (hrow.lt k hk).2
    rw [hsz] at hD
    have lt0 := World.block_lt_of_cell? _ _ c0
    have lt1 := World.block_lt_of_cell? _ _ c1
    simp only at lt0 lt1
    have ltD := (Array.getElem?_eq_some_iff.1 hD).1
    gi_wp2_with fail
    refine ⟨trivial, ?_⟩
    refine (callsIn_wide.2 HC.out).mono ?_
    rintro e w2 ⟨ev, rfl, hev, hb2⟩
    have B2 := below_step hB hb2
    have hD2 : w2.heap[w.heap.size + 1 + 1 + 1 + 1]? = some (.deferred (some [])) := (hb2.block _ ltD).trans hD
    have hrow2 := ownsRow_block hrow (fun k hk => hb2.block k (hvb k hk))
    have d0 := keep_cell hb2 c0
    have d1 := keep_cell hb2 c1
    have d2 := keep_cell hb2 c2
    have g0 : w2.frozen? ⟨w.heap.size, 0, none⟩ = false := by rw [hb2.frozen lt0]; exact f0
    have g1 : w2.frozen? ⟨w.heap.size + 1, 0, none⟩ = false := by rw [hb2.frozen lt1]; exact f1
    have HF : Hid (∀ sv ev, ((w2.setCell ⟨w.heap.size, 0, none⟩ sv).setCell ⟨w.heap.size + 1, 0, none⟩ ev).heap[w.heap.size + 1 + 1 + 1 + 1]? = some (.deferred (some [])) ∧
        (((w2.setCell ⟨w.heap.size, 0, none⟩ sv).setCell ⟨w.heap.size + 1, 0, none⟩ ev).putObj (w.heap.size + 1 + 1 + 1 + 1) (.deferred none)).cell? ⟨w.heap.size, 0, none⟩ = some sv ∧
        (((w2.setCell ⟨w.heap.size, 0, none⟩ sv).setCell ⟨w.heap.size + 1, 0, none⟩ ev).putObj (w.heap.size + 1 + 1 + 1 + 1) (.deferred none)).cell? ⟨w.heap.size + 1, 0, none⟩ = some ev ∧
        Below w.heap.size w (((w2.setCell ⟨w.heap.size, 0, none⟩ sv).setCell ⟨w.heap.size + 1, 0, none⟩ ev).putObj (w.heap.size + 1 + 1 + 1 + 1) (.deferred none)) ∧
        (((w2.setCell ⟨w.heap.size, 0, none⟩ sv).setCell ⟨w.heap.size + 1, 0, none⟩ ev).putObj (w.heap.size + 1 + 1 + 1 + 1) (.deferred none)).ownsRow (w.heap.size + 4) 32 5 (.slice ad lst.length cap) lst.length (insCells lst) ∧
        (∀ N o u, W.heap.size ≤ N → w2.cell? ⟨N, o, none⟩ = some u → (((w2.setCell ⟨w.heap.size, 0, none⟩ sv).setCell ⟨w.heap.size + 1, 0, none⟩ ev).putObj (w.heap.size + 1 + 1 + 1 + 1) (.deferred none)).cell? ⟨N, o, none⟩ = some u)) := fun sv ev => by
      have hD3 : ((w2.setCell ⟨w.heap.size, 0, none⟩ sv).setCell ⟨w.heap.size + 1, 0, none⟩ ev).heap[w.heap.size + 1 + 1 + 1 + 1]? = some (.deferred (some [])) :=
        (Below.heap_setCell _ _ _ _ (by simp; omega)).trans ((Below.heap_setCell _ _ _ _ (by simp; omega)).trans hD2)
      have hg := grownBy_putObj' ((w2.setCell ⟨w.heap.size, 0, none⟩ sv).setCell ⟨w.heap.size + 1, 0, none⟩ ev) (w.heap.size + 1 + 1 + 1 + 1) (.deferred none)
      have hr : ∀ r, some (w.heap.size + 1 + 1 + 1 + 1) = some r → ∃ o : Obj, ((w2.setCell ⟨w.heap.size, 0, none⟩ sv).setCell ⟨w.heap.size + 1, 0, none⟩ ev).heap[r]? = some o ∧ o.isCells = false := fun r e => by cases e; exact ⟨_, hD3, rfl⟩
      have B4 : Below w.heap.size w ((w2.setCell ⟨w.heap.size, 0, none⟩ sv).setCell ⟨w.heap.size + 1, 0, none⟩ ev) := (B2.setCell (Nat.le_refl _) _).setCell (by show _ ≤ w.heap.size + 1; omega) _
      refine ⟨hD3, cell_kept (cell_ne (World.cell?_setCell_same _ _ _ d0) (.inl (by omega))) hg hr, cell_kept (World.cell?_setCell_same _ _ _ (cell_ne d1 (.inl (by omega)))) hg hr, B4.grown hg B4.size (fun k hk => by cases hk; omega), ?_, fun N o u hN hu => cell_kept (cell_ne (cell_ne hu (.inl (by omega))) (.inl (by omega))) hg hr⟩
      refine row_grown (ownsRow_block (ownsRow_block hrow2 (fun k hk => Below.heap_setCell _ _ _ _ (fun e => ?_))) (fun k hk => Below.heap_setCell _ _ _ _ (fun e => ?_))) hg (fun r e => .inr (hr r e))
      · have := (hrow2.lt k hk).1; simp only at e; omega
      · have := (hrow2.lt k hk).1; simp only at e; omega
    clear c0 c1 c2 f0 f1 f2 hD hb2 HC hrow lt0 lt1 ltD
    rcases hev with ⟨h0, rfl⟩ | ⟨h0, h1, rfl⟩ | ⟨h0, j, N, h1, h2, rfl, h3, h4⟩
    · gi_wp2
      obtain ⟨hD3, r0, r1, B4, hrow4, -⟩ := HF.out (.slice ad lst.length cap) .nilIface
      refine ⟨by simp, .inl ⟨_, _, rfl, run_takeDeferred hD3, ?_⟩⟩
      refine ⟨.tuple #[.slice ad lst.length cap, .nilIface], by simp only [results, Tryd.results5]; go_simp, ?_⟩
      refine ⟨.slice ad lst.length cap, .nilIface, rfl, .inl ⟨by rw [hRf]; exact h0, rfl⟩, fun _ => ⟨ad, cap, by rw [hRc], by rw [hRc]; exact HI.out _ hrow4⟩, fun h => absurd (by rw [hRf]; exact h0) h, B4⟩
    · obtain ⟨c, hc⟩ : ∃ c, (codeFault lst).1 = c + 1 := ⟨(codeFault lst).1 - 1, by omega⟩
      rw [hc, show xval a (c + 1) = xerr (a c) from rfl]
      gi_wp2
      obtain ⟨hD3, r0, r1, B4, -, -⟩ := HF.out (.slice none 0 0) (xerr (a c))
      refine ⟨by simp, .inl ⟨_, _, rfl, run_takeDeferred hD3, ?_⟩⟩
      refine ⟨.tuple #[.slice none 0 0, xerr (a c)], by simp only [results, Tryd.results5]; go_simp, ?_⟩
      refine ⟨.slice none 0 0, xerr (a c), rfl, .inr (.inl ⟨by rw [hRf]; exact h0, by rw [hRf]; exact h1, by rw [hRf, hc]; rfl⟩), fun h => absurd (by rw [← hRf]; exact h) h0, fun _ => rfl, B4⟩
    · gi_wp2
      obtain ⟨hD3, r0, r1, B4, -, hN⟩ := HF.out (.slice none 0 0) (.iface 39 (.pointer (some ⟨N, 0, none⟩)))
      refine ⟨by simp, .inl ⟨_, _, rfl, run_takeDeferred hD3, ?_⟩⟩
      refine ⟨.tuple #[.slice none 0 0, .iface 39 (.pointer (some ⟨N, 0, none⟩))], by simp only [results, Tryd.results5]; go_simp, ?_⟩
      refine ⟨.slice none 0 0, .iface 39 (.pointer (some ⟨N, 0, none⟩)), rfl, ?_, fun h => absurd (by rw [← hRf]; exact h) h0, fun _ => rfl, B4⟩
      rw [hRf]
      exact .inr (.inr ⟨h0, j, N, h1, Nat.le_trans hB.size h2, rfl, hN _ _ _ h2 h3, hN _ _ _ h2 h4⟩)
end Go.Proofs.YtcajklfngeafdaaDoor
