import Derived.Test.YtnnlkolhahjokaaGreatDoorB25
import Derived.Laws.IdiomStrings
import Derived.Test.YtnnlkolhahjokaaGreatDoorB22

/- WkR -/
namespace Go.Proofs.YtnnlkolhahjokaaGreatDoor
open Go.RowKit

def SameGiven (s s' : Ar) : Prop := s'.size = s.size ∧ s'.given = s.given ∧ s'.there = s.there
theorem SameGiven.refl (s : Ar) : SameGiven s s := ⟨rfl, rfl, rfl⟩
theorem SameGiven.trans {a b c : Ar} (h : SameGiven a b) (k : SameGiven b c) : SameGiven a c := ⟨k.1.trans h.1, k.2.1.trans h.2.1, k.2.2.trans h.2.2⟩
theorem GivenOk.same {s s' : Ar} (h : GivenOk s) (k : SameGiven s s') : GivenOk s' := by
  intro c d hc hd hd' h0
  rw [k.1] at hc hd'
  rw [k.2.1] at h0 ⊢
  rw [k.2.2]
  exact h c d hc hd hd' h0
theorem drainAll_given (s : Rm) (t : Nat) (l : List Wt) : SameGiven s.ar (s.drainAll t l).ar := by
  obtain ⟨h1, h2, h3, -⟩ := s.drainAll_ar l t
  exact ⟨h1, h3, h2⟩
theorem drained_given (s : Rm) (t : Nat) (x : Wt) (l : List Wt) : SameGiven s.ar (s.drained t x l).ar := by
  obtain ⟨h1, h2, h3⟩ := s.drained_ar t x l
  exact ⟨h1, h3, h2⟩
theorem drain1_given (m : Mk) (t : Nat) : SameGiven m.mem.ar (m.drain1 t).mem.ar := by
  unfold Mk.drain1
  cases m.mem.waits t with
  | nil => exact SameGiven.refl _
  | cons x l => exact drained_given _ _ _ _
theorem fence_given (m : Mk) (t : Nat) : SameGiven m.mem.ar (m.fence t).mem.ar := drainAll_given _ _ _
theorem fenceFrom_given : ∀ (n : Nat) (m : Mk) (t : Nat), SameGiven m.mem.ar (m.fenceFrom t n).mem.ar
  | 0, _, _ => SameGiven.refl _
  | n + 1, m, t => (fence_given m t).trans (fenceFrom_given n (m.fence t) (t + 1))
theorem room_given (m : Mk) (t : Nat) : SameGiven m.mem.ar (m.room t).mem.ar := by
  unfold Mk.room
  split
  · exact drain1_given m t
  · exact SameGiven.refl _

theorem GivenOk.give {s : Ar} (h : GivenOk s) {c : Nat} (hf : s.free? = some c) : GivenOk (s.give c) := by
  obtain ⟨h1, h2, -⟩ := Ar.free_some hf
  intro x d hx hd hd' h0
  have hxc : x ≠ c := fun e => by
    have : (if x = c then s.given c + 1 else s.given x) = 0 := h0
    rw [if_pos e] at this; omega
  have h0' : s.given x = 0 := by
    have : (if x = c then s.given c + 1 else s.given x) = 0 := h0
    rwa [if_neg hxc] at this
  have hx2 := (h x x hx (Nat.le_refl _) hx h0').2
  have hcx : c < x := by
    rcases Nat.lt_or_ge x c with hlt | hge
    · rw [h2 x hlt] at hx2; cases hx2
    · omega
  have hdc : d ≠ c := by omega
  obtain ⟨g1, g2⟩ := h x d hx hd hd' h0'
  refine ⟨?_, ?_⟩
  · show (if d = c then s.given c + 1 else s.given d) = 0
    rw [if_neg hdc]; exact g1
  · show (if d = c then true else s.there d) = false
    rw [if_neg hdc]; exact g2
theorem GivenOk.gone {s : Ar} (h : GivenOk s) (c : Nat) : GivenOk (s.setThere c false) := by
  intro x d hx hd hd' h0
  obtain ⟨g1, g2⟩ := h x d hx hd hd' h0
  refine ⟨g1, ?_⟩
  show (if d = c then false else s.there d) = false
  split
  · rfl
  · exact g2

theorem GivenOk.exec {m : Mk} (h : GivenOk m.mem.ar) (L : List Ins) (t : Nat) (x : Ins) : GivenOk (m.exec L t x).mem.ar := by
  unfold Mk.exec
  dsimp only
  split
  any_goals exact h
  · unfold Mk.load; split <;> exact h
  · unfold Mk.store
    split
    · exact h.same (room_given m t)
    · exact h
  · unfold Mk.swap
    split
    · exact (h.same (fence_given m t)).same ⟨rfl, rfl, rfl⟩
    · exact h
  · unfold Mk.cas
    split
    · exact (h.same (fence_given m t)).same ⟨rfl, rfl, rfl⟩
    · exact h
  · unfold Mk.alloc
    split
    · exact h
    · rename_i c hc
      exact h.give hc
  · unfold Mk.free
    split
    · exact (h.same (fence_given m t)).gone _
    · exact h
  · unfold Mk.mark; split <;> exact h
  · unfold Mk.need; split <;> exact h
  · exact h.same (fence_given m t)
  · exact h.same (fenceFrom_given _ m 0)
  · split <;> exact h
  · split <;> exact h
theorem GivenOk.step {m : Mk} (h : GivenOk m.mem.ar) (L : List Ins) (t : Nat) : GivenOk (m.step L t).mem.ar := by
  unfold Mk.step
  split
  · exact h
  · exact GivenOk.exec (m := m.setPc t (m.pc t + 1)) h L t _
theorem GivenOk.turnO {m : Mk} (h : GivenOk m.mem.ar) (cs : List (List Ins)) (n : Int) : GivenOk (m.turnO cs n).2.mem.ar := by
  unfold Mk.turnO
  split
  · unfold Mk.stepO
    split
    · split
      · exact h
      · exact h.step _ _
    · exact h
  · unfold Mk.drainO
    split
    · split
      · exact h
      · exact h.same (drain1_given m _)
    · exact h

end Go.Proofs.YtnnlkolhahjokaaGreatDoor

/- WkD -/
namespace Go.Proofs.YtnnlkolhahjokaaGreatDoor
open Go.RowKit Go.Extern.Stop Go.Stop Go.Extern Go.Maps Go.WideMaps Go.Sort

theorem wkByte : ∃ i, (Tryz.prog).info? 5 = some i ∧ i.zero = some (.int .u8 0) ∧ i.size = 1 ∧ i.bytes = 1 := info_parts (by kernel_rfl)
def bcells (l : List UInt8) : List Value := l.map fun c => Value.int .u8 c.toNat
def bytesOwn (w : World) (base : Nat) (v : Value) (l : List UInt8) : Prop := w.ownsRow base 5 1 v l.length (bcells l)
theorem bytesOwn_nil (w : World) (base : Nat) : bytesOwn w base (.slice none 0 0) [] := World.ownsRow_nil _ _ _ _
theorem bytesOwn_keep {w w' : World} {base : Nat} {v : Value} {l : List UInt8} (h : bytesOwn w base v l) (k : Below w.heap.size w w') : bytesOwn w' base v l :=
  ownsRow_block h (fun b hb => k.block b (h.lt b hb).2)

theorem bytesOwn_open {w : World} {base : Nat} {v : Value} {l : List UInt8} (h : bytesOwn w base v l) (h1 : 0 < l.length) : ∃ a cap, v = .slice (some a) l.length cap ∧ ∀ j (hj : j < l.length), w.cell? (a.add j) = some (.int .u8 (l[j].toNat : Int)) := by
  obtain ⟨g, c, rfl, -, -, h3⟩ := ownsRow_shape h
  have key : ∀ j (hj : j < l.length), ∃ gg, g = some ⟨gg, 0, none⟩ ∧ w.cell? ⟨gg, j, none⟩ = some (.int .u8 (l[j].toNat : Int)) := fun j hj => h3 j _ (by unfold bcells; rw [List.getElem?_map, List.getElem?_eq_getElem hj]; rfl)
  obtain ⟨gg, rfl, -⟩ := key 0 h1
  refine ⟨_, c, rfl, fun j hj => ?_⟩
  obtain ⟨g2, e, hc⟩ := key j hj
  cases e
  rw [Addr.add_lit, Nat.zero_add]
  exact hc
theorem wpList_append_byte {ops : Array Oper} {rest : List Oper} {o : Oper} {a : Act} (w : World) {Q : Exit → Act → World → Prop} (hgd : o.guard = none) (s x : Operand)
    (ho : o.op = .call { callee := .builtin .append, args := #[s, x], argTypes := #[163, 163] }) (base : Nat) (l0 : List UInt8) (c : UInt8) (v : Value) (ad : Addr) (cap : Nat)
    (hs : a.eval s = v) (hown : bytesOwn w base v l0) (hx : a.eval x = .slice (some ad) 1 cap) (hl : w.cell? (ad.add 0) = some (.int .u8 c.toNat)) (h3 : l0.length ≤ 1000000) (hb : base ≤ w.heap.size)
    (h : ∀ v' w', bytesOwn w' base v' (l0 ++ [c]) → Below base w w' → wpList Tryz.prog ops Q rest (a.put o.dst v') w') : wpList Tryz.prog ops Q (o :: rest) a w := by
  obtain ⟨ri, hri, hrz, hrs, hrb⟩ := wkByte
  refine wpList_append_own_at w hgd s x 163 ho base 5 ri (.int .u8 0) 1 1 Tryz.underlying163 hri hrz hrs hrb rfl (by decide) v l0.length (bcells l0) hs hown ad 1 cap [.int .u8 c.toNat] hx rfl (fun j u hj => ?_) (fun u hu => ?_) (by unfold maxLen; omega) (by omega) hb (fun v' w' h2 hg _ _ => ?_)
  · cases j with
    | zero => cases hj; exact hl
    | succ j => simp at hj
  · obtain rfl : u = .int .u8 c.toNat := by simpa using hu
    rfl
  · refine h v' w' ?_ ((Below.refl base w).grown hg hb (fun k hk => (hown.lt k hk).1))
    unfold bytesOwn bcells
    rw [List.length_append, List.map_append]
    exact h2

theorem vbs_take {l : List Int} {j : Nat} {x : Int} (hx : l[j]? = some x) : vbs (l.take (j + 1)) = vbs (l.take j) ++ vb x.toNat := by
  rw [List.take_add_one, hx]
  exact vbs_snoc _ _

theorem vbs_len : ∀ {l : List Int}, (∀ x ∈ l, 0 ≤ x ∧ x < 4611686018427387904) → (vbs l).length ≤ 9 * l.length
  | [], _ => Nat.zero_le _
  | x :: l, h => by
    have h1 := h x List.mem_cons_self
    have h2 := vbs_len (l := l) (fun y hy => h y (List.mem_cons_of_mem _ hy))
    have e9 : (128 : Nat) ^ 9 = 9223372036854775808 := by decide
    have h3 := vb_len 9 x.toNat (by omega) (by decide)
    have e : (vbs (x :: l)).length = (vb x.toNat).length + (vbs l).length := List.length_append
    rw [e, List.length_cons]; omega
theorem vbs_take_len {l : List Int} (h : ∀ x ∈ l, 0 ≤ x ∧ x < 4611686018427387904) (j : Nat) : (vbs (l.take j)).length ≤ 9 * j := by
  have h1 := vbs_len (l := l.take j) (fun x hx => h x (List.mem_of_mem_take hx))
  rw [List.length_take] at h1
  omega

set_option maxRecDepth 20000 in
set_option maxHeartbeats 2000000 in
theorem key_any {a : Nat → Addr} {cs : List (List Ins)} {p : MkPl} {m : Mk} {w : World} (h : MkAt a cs p m w) (h1 : 1 ≤ cs.length) (hr : ∀ x ∈ mkNums cs.length m, 0 ≤ x ∧ x < 4611686018427387904) (hlen : (mkNums cs.length m).length ≤ 700) :
    Calls Tryz.prog 52 #[.pointer (some ⟨p.b, 0, none⟩)] w fun e w' => e = .returned (.string (keyOf cs.length m)) ∧ Below w.heap.size w w' := by
  have HS := hide (mkState_any h)
  have hpos : 0 < (mkNums cs.length m).length := by
    unfold mkNums
    rw [List.length_append]
    obtain ⟨n, hn⟩ : ∃ n, cs.length = n + 1 := ⟨cs.length - 1, by omega⟩
    rw [hn]
    show 0 < _ + (thrsNums m n ++ thrNums m n).length
    rw [List.length_append]
    have : (thrNums m n).length = 9 := rfl
    omega
  unfold keyOf
  clear h h1
  generalize mkNums cs.length m = L at *
  have HR := hide hr
  clear hr
  go_enter Tryz.func52, Tryz.ntmps52
  go_wp2_with fail
  refine HS.out.mono ?_
  rintro e w1 ⟨v, rfl, hv, hb1⟩
  obtain ⟨al, cl, rfl, hla⟩ := numsOwn_open hv hpos
  have HL := hide hla
  have HB0 : Hid (∀ w', Below w1.heap.size w1 w' → Below w.heap.size w w') := hide (fun w' k => below_step hb1 k)
  clear HS hv hla
  go_wp2_with fail
  go_loopw [3, 5, 9] (fun b _ i wr => ∃ j : Nat, j ≤ L.length ∧ i = .int .i64 j ∧ Hid (bytesOwn wr w1.heap.size b (vbs (L.take j))) ∧ Below w1.heap.size w1 wr) (fun _ _ i _ => L.length - (intOf i).toNat)
  case atStart => exact ⟨0, Nat.zero_le _, rfl, bytesOwn_nil _ _, Below.refl _ _⟩
  case round =>
    obtain ⟨j, hj, rfl, HO, HB⟩ := hrel
    by_cases hlt : j < L.length
    · have ji : (j : Int) < L.length := by omega
      obtain ⟨x, hx⟩ : ∃ x, L[j]? = some x := ⟨_, List.getElem?_eq_getElem hlt⟩
      obtain ⟨x0, x1⟩ := HR.out x (List.mem_of_getElem? hx)
      obtain ⟨n, rfl⟩ := Int.eq_ofNat_of_zero_le x0
      obtain ⟨bb, off, e, c0⟩ := HL.out.below HB j _ hx
      cases e
      have HV : Hid (vbs (L.take j) ++ vb n = vbs (L.take (j + 1))) := hide (vbs_take hx).symm
      have hpl : (vbs (L.take j)).length ≤ 9 * j := vbs_take_len HR.out j
      clear hx
      generalize vbs (L.take j) = pre0 at *
      go_wp2_with fail
      go_loopw [3, 5] (fun b k wr => ∃ q : Nat, k = .int .i64 q ∧ q < 4611686018427387904 ∧ Hid (∃ pre, bytesOwn wr w1.heap.size b pre ∧ pre ++ vb q = vbs (L.take (j + 1)) ∧ pre.length ≤ 9 * j + 20) ∧ Below w1.heap.size w1 wr) (fun _ k _ => (intOf k).toNat)
      case atStart => exact ⟨n, rfl, by omega, ⟨pre0, HO.out, HV.out, by omega⟩, HB⟩
      case round =>
        clear HO HB c0 HV hpl x0 x1
        obtain ⟨q, rfl, hq, HO, HB⟩ := hrel
        obtain ⟨pre, ho, hp, hpl⟩ := HO.out
        have HO1 := hide ho
        have HP := hide hp
        clear HO ho hp
        by_cases h128 : q < 128
        · have i1 : ¬ 128 ≤ (q : Int) := by omega
          have wu : IntKind.u8.wrap (q : Int) = (q : Int) := by unfold IntKind.wrap; simp [IntKind.bits, IntKind.signed]; omega
          have hu : (UInt8.ofNat q).toNat = q := u8_nat (by omega)
          have hP2 : Hid (pre ++ [UInt8.ofNat q] = vbs (L.take (j + 1))) := hide (by rw [← HP.out, vb_small h128])
          go_wp2_with (at_builtin; refine wpList_append_byte _ rfl _ _ rfl w1.heap.size pre (UInt8.ofNat q) _ _ _ rfl ?q1 rfl ?q2 ?q3 ?q4 ?_)
          case q1 => exact bytesOwn_keep HO1.out ((Below.refl _ _).alloc (Nat.le_refl _) _)
          case q3 => omega
          case q4 => have := HB.size; simp; omega
          intro v' w2 ho2 hb2
          have HB2 := (HB.alloc HB.size _).trans hb2
          have HO2 : Hid (bytesOwn w2 w1.heap.size v' (vbs (L.take (j + 1)))) := hide (by rw [← hP2.out]; exact ho2)
          clear ho2 hb2 HO1 HB HP hP2 hu wu h128
          go_wp2
          go_roundw
          case rel => exact ⟨j + 1, by omega, by go_num, HO2, HB2⟩
          case measure => simp [intOf]; omega
        · have i1 : 128 ≤ (q : Int) := by omega
          have hm : ((q : Nat) : Int).tmod 128 = ((q % 128 : Nat) : Int) := (Int.ofNat_tmod q 128).symm
          have hd : ((q : Nat) : Int).tdiv 128 = ((q / 128 : Nat) : Int) := (Int.ofNat_tdiv q 128).symm
          have hu : (UInt8.ofNat (128 + q % 128)).toNat = 128 + q % 128 := u8_nat (by omega)
          have hP2 : Hid ((pre ++ [UInt8.ofNat (128 + q % 128)]) ++ vb (q / 128) = vbs (L.take (j + 1))) := hide (by
            rw [← HP.out, vb_great h128]; simp)
          have w8 : IntKind.u8.wrap (128 + ((q % 128 : Nat) : Int)) = 128 + ((q % 128 : Nat) : Int) := by unfold IntKind.wrap; simp [IntKind.bits, IntKind.signed]; omega
          have w64 : IntKind.i64.wrap (128 + ((q % 128 : Nat) : Int)) = 128 + ((q % 128 : Nat) : Int) := by rw [IntKind.wrap_i64]; omega
          have hui : (((UInt8.ofNat (128 + q % 128)).toNat : Nat) : Int) = 128 + ((q % 128 : Nat) : Int) := by rw [hu]; push_cast; rfl
          have hql : q / 128 < 4611686018427387904 := by omega
          have hmeas : q / 128 < q := by omega
          have hlen2 : (pre ++ [UInt8.ofNat (128 + q % 128)]).length ≤ 9 * (j + 1) := by
            have h1 := vbs_take_len HR.out (j + 1)
            rw [← hP2.out, List.length_append] at h1
            omega
          generalize hc : UInt8.ofNat (128 + q % 128) = c at *
          clear hc hu h128
          generalize hqq : q / 128 = q' at *
          generalize ((q % 128 : Nat) : Int) = r at *
          clear hqq
          go_wp2_with (at_builtin; refine wpList_append_byte _ rfl _ _ rfl w1.heap.size pre c _ _ _ rfl ?r1 rfl ?r2 ?r3 ?r4 ?_)
          case r1 => exact bytesOwn_keep HO1.out ((Below.refl _ _).alloc (Nat.le_refl _) _)
          case r2 => rw [Addr.add_lit, hui]; simp
          case r3 => omega
          case r4 => have := HB.size; simp; omega
          intro v' w2 ho2 hb2
          have HB2 := (HB.alloc HB.size _).trans hb2
          have HZ : Hid (∃ pre, bytesOwn w2 w1.heap.size v' pre ∧ pre ++ vb q' = vbs (L.take (j + 1)) ∧ pre.length ≤ 9 * j + 20) := hide ⟨_, ho2, hP2.out, by omega⟩
          clear ho2 hb2 HO1 HB HP hP2 hui hm w8 w64
          go_wp2
          go_roundw
          case rel => exact ⟨q', by go_num, hql, HZ, HB2⟩
          case measure => simp [intOf]; omega
    · obtain rfl : j = L.length := by omega
      rw [List.take_length] at HO
      have hvl : 0 < (vbs L).length := by
        cases hL : L with
        | nil => rw [hL] at hpos; cases hpos
        | cons x l =>
          have e : (vbs (x :: l)).length = (vb x.toNat).length + (vbs l).length := List.length_append
          have := List.length_pos_iff.2 (vb_ne x.toNat)
          omega
      obtain ⟨ab, cb, hbe, hbc⟩ := bytesOwn_open HO.out hvl
      have hcv := run_convert_bytes_back (P := Tryz.prog) wr 163 9 5 ab cb (vbs L) Tryz.underlying163 Tryz.underlying5 Tryz.underlying9 hbc
      subst hbe
      clear hbc HO
      go_wp2_with fail
      go_ret
      exact ⟨rfl, HB0.out _ HB⟩
end Go.Proofs.YtnnlkolhahjokaaGreatDoor

/- WkE -/
namespace Go.Proofs.YtnnlkolhahjokaaGreatDoor
open Go.RowKit Go.Extern.Stop Go.Stop Go.Extern Go.Maps Go.WideMaps Go.Sort

def endTo (cs : List (List Ins)) (m : Mk) (n : Nat) : Bool := (List.range n).all fun t => doneAt (cs.getD t []) (m.pc t) && (m.mem.waits t).isEmpty
theorem endTo_succ (cs : List (List Ins)) (m : Mk) (n : Nat) : endTo cs m (n + 1) = (endTo cs m n && (doneAt (cs.getD n []) (m.pc n) && (m.mem.waits n).isEmpty)) := by
  unfold endTo
  rw [List.range_succ, List.all_append]
  simp
theorem endTo_no {cs : List (List Ins)} {m : Mk} {n t : Nat} (ht : t < n) (h : (doneAt (cs.getD t []) (m.pc t) && (m.mem.waits t).isEmpty) = false) : endTo cs m n = false := by
  unfold endTo
  cases hb : (List.range n).all fun t => doneAt (cs.getD t []) (m.pc t) && (m.mem.waits t).isEmpty with
  | false => rfl
  | true =>
    have := List.all_eq_true.1 hb t (List.mem_range.2 ht)
    rw [h] at this; cases this

set_option maxRecDepth 20000 in
set_option maxHeartbeats 1000000 in
theorem ended_any {a : Nat → Addr} {cs : List (List Ins)} {p : MkPl} {m : Mk} {w : World} (h : MkAt a cs p m w) :
    Calls Tryz.prog 22 #[.pointer (some ⟨p.b, 0, none⟩), .int .i64 cs.length] w fun e w' => e = .returned (.bool (endTo cs m cs.length)) ∧ Below w.heap.size w w' := by
  have h6 := h.few
  have HH := hide h
  clear h
  go_enter Tryz.func22, Tryz.ntmps22
  go_wp2_with fail
  go_loopw [5, 7] (fun _ i wr => ∃ j : Nat, j ≤ cs.length ∧ i = .int .i64 j ∧ Hid (endTo cs m j = true) ∧ Below w.heap.size w wr) (fun _ i _ => cs.length - (intOf i).toNat)
  case atStart => exact ⟨0, Nat.zero_le _, rfl, rfl, Below.refl _ _⟩
  case round =>
    obtain ⟨j, hj, rfl, HR, HB⟩ := hrel
    by_cases hlt : j < cs.length
    · have ji : (j : Int) < cs.length := by omega
      obtain ⟨L, hL⟩ : ∃ L, cs[j]? = some L := ⟨_, List.getElem?_eq_getElem hlt⟩
      have hd : cs.getD j [] = L := by rw [List.getD_eq_getElem?_getD, hL]; rfl
      have HD := hide (kdone_any hL (HH.out.below HB))
      have HWt := hide (fun w' (k : Below wr.heap.size wr w') => mWaiting_any ((HH.out.below HB).below k).mem (t := j) (by rw [HH.out.thr]; exact hlt))
      have HS := hide (endTo_succ cs m j)
      have HN := hide (fun e => endTo_no (cs := cs) (m := m) hlt e)
      rw [hd] at HS HN
      clear hd hL
      cases hdd : doneAt L (m.pc j)
      · rw [hdd] at HD HN
        have HF := hide (HN.out rfl)
        clear HN HS hdd HWt
        go_wp2_with fail
        refine HD.out.mono ?_
        rintro e w1 ⟨rfl, hb1⟩
        have HB1 := below_step HB hb1
        clear HB hb1 HD
        go_wp2_with fail
        go_ret
        exact ⟨by rw [HF.out]; rfl, HB1⟩
      · rw [hdd] at HD HN HS
        clear hdd
        go_wp2_with fail
        refine HD.out.mono ?_
        rintro e w1 ⟨rfl, hb1⟩
        have HB1 := below_step HB hb1
        have HW1 := hide (HWt.out w1 hb1)
        clear HB hb1 HD HWt
        cases hl : m.mem.waits j with
        | nil =>
          rw [hl] at HS HW1
          have HS2 : Hid (endTo cs m (j + 1) = true) := hide (by rw [HS.out, HR.out]; rfl)
          clear HS HN HR hl
          go_wp2_with fail
          refine HW1.out.mono ?_
          rintro e w2 ⟨rfl, rfl⟩
          go_wp2_with fail
          go_roundw
          case rel => exact ⟨j + 1, by omega, by go_num, HS2, HB1⟩
          case measure => simp [intOf]; omega
        | cons x l =>
          rw [hl] at HN HW1
          have HF := hide (HN.out rfl)
          have hlen : 0 < (((x :: l).length : Nat) : Int) := by rw [List.length_cons]; omega
          generalize (x :: l).length = len at *
          clear HS HN HR hl
          go_wp2_with fail
          refine HW1.out.mono ?_
          rintro e w2 ⟨rfl, rfl⟩
          go_wp2_with fail
          go_ret
          exact ⟨by rw [HF.out]; rfl, HB1⟩
    · obtain rfl : j = cs.length := by omega
      go_wp2
      go_ret
      exact ⟨by rw [HR.out]; rfl, HB⟩
end Go.Proofs.YtnnlkolhahjokaaGreatDoor
