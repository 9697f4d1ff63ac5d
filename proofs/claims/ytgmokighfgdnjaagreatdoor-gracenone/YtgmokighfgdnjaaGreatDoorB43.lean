import Derived.Test.YtgmokighfgdnjaaGreatDoorB42
import Derived.Test.YtgmokighfgdnjaaGreatDoorB23
import Derived.Test.YtgmokighfgdnjaaGreatDoorB32
import Derived.Test.YtgmokighfgdnjaaGreatDoorB39
import Derived.Laws.AppendOwnNone

/- GdY -/
namespace Go.Proofs.YtgmokighfgdnjaaGreatDoor
open Go.RowKit Go.Extern.Stop Go.Stop Go.Extern Go.Maps Go.WideMaps Go.Sort

theorem world_ok {f : Nat} (hf : 1 ≤ f ∧ f ≤ 4) (n : Nat) (h1 : 1 ≤ n) (h6 : n ≤ 6) (w : World) :
    Calls Tryz.prog 36 #[.int .i64 f, .int .i64 n] w fun e w' => ∃ ai ci ar cr, e = .returned (.tuple #[.agg #[.int .i64 30, .slice ai (n + 3) ci, .slice ar n cr], .bool true]) ∧ StaAt (gcSta f n) ⟨ai, ci, ar, cr⟩ w' ∧ Below w.heap.size w w' := by
  by_cases h4 : f = 4
  · exact world_join hf h4 n h1 h6 w
  · exact world_plain hf h4 n h1 h6 w

theorem wName : isName ⟨#[119]⟩ := nameB_is (by decide +kernel)
theorem wait_long {f : Nat} (p : ByteArray) : 1 ≤ (gCode p (gWait f)).length := by
  unfold gCode gWait
  rw [List.length_map]
  split <;> simp
set_option maxRecDepth 20000 in
set_option maxHeartbeats 1000000 in
theorem flavoured_any (w : World) : Calls Tryz.prog 8 #[] w fun e w' => e = .returned (.bool true) ∧ Below w.heap.size w w' := by
  have HW : Hid (∀ (f : Nat), 1 ≤ f ∧ f ≤ 4 → ∀ w, Calls Tryz.prog 25 #[.int .i64 f, .string ⟨#[119]⟩] w fun e w' => ∃ ad n cap, e = .returned (.tuple #[.slice ad n cap, .nilIface]) ∧ 1 ≤ n ∧ Below w.heap.size w w') := hide fun f hf w => (wait_ok hf wName (by decide) w).mono fun e w' ⟨v, h1, h2, h3⟩ => by
    obtain ⟨ad, cap, rfl, -⟩ := insOwn_open h2 (wait_long _)
    exact ⟨_, _, _, h1, wait_long _, h3⟩
  go_enter Tryz.func8, Tryz.ntmps8
  go_wp2_with fail
  go_loopw [1, 2, 3] (fun i _ _ wr => ∃ f : Nat, 1 ≤ f ∧ f ≤ 5 ∧ i = .int .i64 f ∧ Below w.heap.size w wr) (fun i _ _ _ => 5 - (intOf i).toNat)
  case atStart => exact ⟨1, Nat.le_refl _, by decide, rfl, Below.refl _ _⟩
  case round =>
    obtain ⟨f, hf1, hf5, rfl, HB⟩ := hrel
    by_cases h4 : f ≤ 4
    · have fi : (f : Int) ≤ 4 := by omega
      have HC := hide (HW.out f ⟨hf1, h4⟩ wr)
      go_wp2_with fail
      refine HC.out.mono ?_
      rintro e w2 ⟨ad, n, cap, rfl, hn, hb2⟩
      have HB2 := below_step HB hb2
      have n0 : ((n : Int) == 0) = false := beq_eq_false_iff_ne.2 (by omega)
      clear HC HB hb2 hn
      go_wp2
      go_roundw
      case rel => exact ⟨f + 1, by omega, by omega, by go_num, HB2⟩
      case measure => simp [intOf]; omega
    · have fi : ¬ (f : Int) ≤ 4 := by omega
      go_wp2
      go_ret
      exact ⟨rfl, HB⟩

structure CsI where
  w : Bool
  tm : Int
  rd : Int
  ns : Bool
def castsAt (ad : Option Addr) (l : List CsI) (w : World) : Prop := ∀ (i : Nat) c, l[i]? = some c → ∃ b off, ad = some ⟨b, off, none⟩ ∧ w.cell? ⟨b, off + i * 4, none⟩ = some (.bool c.w) ∧ w.cell? ⟨b, off + i * 4 + 1, none⟩ = some (.int .i64 c.tm) ∧ w.cell? ⟨b, off + i * 4 + 2, none⟩ = some (.int .i64 c.rd) ∧ w.cell? ⟨b, off + i * 4 + 3, none⟩ = some (.bool c.ns)
theorem castsAt.below {ad : Option Addr} {l : List CsI} {w w' : World} (h : castsAt ad l w) (hb : Below w.heap.size w w') : castsAt ad l w' := fun i c hc => by
  obtain ⟨b, off, e, h0, h1, h2, h3⟩ := h i c hc
  exact ⟨b, off, e, keep_cell hb h0, keep_cell hb h1, keep_cell hb h2, keep_cell hb h3⟩
def CsI.fit (c : CsI) : Prop := 0 ≤ c.tm ∧ c.tm ≤ 3 ∧ 0 ≤ c.rd ∧ c.rd ≤ 5
def Fit (f : Int) (l : List CsI) : Prop := (1 ≤ f ∧ f ≤ 4) ∧ (1 ≤ l.length ∧ l.length ≤ 4) ∧ ∀ c ∈ l, c.fit

def WrongPost (f : Int) (l : List CsI) (w : World) (e : Ending) (w' : World) : Prop := ∃ b, e = .returned (.bool b) ∧ (b = false ↔ Fit f l) ∧ Below w.heap.size w w'
theorem WrongPost.yes {f : Int} {l : List CsI} {w : World} {e : Ending} {w' : World} (he : e = .returned (.bool true)) (h : ¬ Fit f l) (hb : Below w.heap.size w w') : WrongPost f l w e w' := ⟨true, he, ⟨fun e => (nomatch e), fun e => absurd e h⟩, hb⟩
theorem WrongPost.no {f : Int} {l : List CsI} {w : World} {e : Ending} {w' : World} (he : e = .returned (.bool false)) (h : Fit f l) (hb : Below w.heap.size w w') : WrongPost f l w e w' := ⟨false, he, ⟨fun _ => h, fun _ => rfl⟩, hb⟩
set_option maxRecDepth 20000 in
set_option maxHeartbeats 2000000 in
theorem wrongCast_any (f : Int) (ad : Option Addr) (l : List CsI) (cap : Nat) (w : World) (hl : castsAt ad l w) :
    Calls Tryz.prog 19 #[.int .i64 f, .slice ad l.length cap] w (WrongPost f l w) := by
  have HL := hide hl
  have hc : f < 1 ∨ ¬ f < 1 ∧ (4 < f ∨ ¬ 4 < f ∧ ((l.length : Int) < 1 ∨ ¬ (l.length : Int) < 1 ∧ (4 < (l.length : Int) ∨ ¬ 4 < (l.length : Int)))) := by omega
  clear hl
  rcases hc with h1 | ⟨h1, h2 | ⟨h2, h3 | ⟨h3, h4 | h4⟩⟩⟩
  · go_enter Tryz.func19, Tryz.ntmps19
    go_wp2_with fail
    go_ret
    exact WrongPost.yes rfl (fun e => by have := e.1.1; omega) (Below.refl _ _)
  · go_enter Tryz.func19, Tryz.ntmps19
    go_wp2_with fail
    go_ret
    exact WrongPost.yes rfl (fun e => by have := e.1.2; omega) (Below.refl _ _)
  · have HF : Hid (¬ Fit f l) := hide fun e => by have := e.2.1.1; omega
    go_enter Tryz.func19, Tryz.ntmps19
    go_wp2_with fail
    go_ret
    exact WrongPost.yes rfl HF.out (Below.refl _ _)
  · have HF : Hid (¬ Fit f l) := hide fun e => by have := e.2.1.2; omega
    go_enter Tryz.func19, Tryz.ntmps19
    go_wp2_with fail
    go_ret
    exact WrongPost.yes rfl HF.out (Below.refl _ _)
  · have HF : Hid ((∀ c ∈ l, c.fit) → Fit f l) := hide fun e => ⟨⟨by omega, by omega⟩, ⟨by omega, by omega⟩, e⟩
    obtain ⟨n, hn, hn4⟩ : ∃ n, Hid (l.length = n) ∧ n ≤ 4 := ⟨_, hide rfl, by omega⟩
    rw [hn.out] at h3 h4 ⊢
    go_enter Tryz.func19, Tryz.ntmps19
    go_wp2_with fail
    go_loopw [5, 6] (fun i _ wr => ∃ j : Nat, j ≤ n ∧ i = .int .i64 j ∧ Hid (∀ (k : Nat) c, k < j → l[k]? = some c → c.fit) ∧ Below w.heap.size w wr) (fun i _ _ => n - (intOf i).toNat)
    case atStart => exact ⟨0, Nat.zero_le _, rfl, hide fun k c hk => absurd hk (Nat.not_lt_zero _), Below.refl _ _⟩
    case round =>
      obtain ⟨j, hj, rfl, HA, HB⟩ := hrel
      by_cases hlt : j < n
      · have ji : (j : Int) < n := by omega
        obtain ⟨c, hc⟩ : ∃ c, l[j]? = some c := ⟨_, List.getElem?_eq_getElem (by rw [hn.out]; exact hlt)⟩
        obtain ⟨b, off, rfl, c0, c1, c2, c3⟩ := HL.out.below HB j c hc
        have HC := hide hc
        have HNO : Hid (¬ c.fit → ¬ Fit f l) := hide fun h e => h (e.2.2 c (List.mem_of_getElem? hc))
        have HYES : Hid (c.fit → ∀ (k : Nat) c', k < j + 1 → l[k]? = some c' → c'.fit) := hide fun h k c' hk hk' => by
          by_cases e : k = j
          · subst e; rw [hc] at hk'; cases hk'; exact h
          · exact HA.out k c' (by omega) hk'
        obtain ⟨cw, tm, rd, cn⟩ := c
        dsimp only at c0 c1 c2 c3
        have hd : tm < 0 ∨ ¬ tm < 0 ∧ (3 < tm ∨ ¬ 3 < tm ∧ (rd < 0 ∨ ¬ rd < 0 ∧ (5 < rd ∨ ¬ 5 < rd))) := by omega
        clear hc HA HL
        rcases hd with d1 | ⟨d1, d2 | ⟨d2, d3 | ⟨d3, d4 | d4⟩⟩⟩
        · have HX : Hid (¬ Fit f l) := hide (HNO.out fun e => by have := e.1; simp only at this; omega)
          clear HNO HYES HC
          go_wp2_with fail
          go_ret
          exact WrongPost.yes rfl HX.out (HB.alloc HB.size _)
        · have HX : Hid (¬ Fit f l) := hide (HNO.out fun e => by have := e.2.1; simp only at this; omega)
          clear HNO HYES HC
          go_wp2_with fail
          go_ret
          exact WrongPost.yes rfl HX.out (HB.alloc HB.size _)
        · have HX : Hid (¬ Fit f l) := hide (HNO.out fun e => by have := e.2.2.1; simp only at this; omega)
          clear HNO HYES HC
          go_wp2_with fail
          go_ret
          exact WrongPost.yes rfl HX.out (HB.alloc HB.size _)
        · have HX : Hid (¬ Fit f l) := hide (HNO.out fun e => by have := e.2.2.2; simp only at this; omega)
          clear HNO HYES HC
          go_wp2_with fail
          go_ret
          exact WrongPost.yes rfl HX.out (HB.alloc HB.size _)
        · have HX := hide (HYES.out ⟨by simp only; omega, by simp only; omega, by simp only; omega, by simp only; omega⟩)
          clear HNO HYES HC
          go_wp2_with fail
          go_roundw
          case rel => exact ⟨j + 1, by omega, by go_num, HX, HB.alloc HB.size _⟩
          case measure => simp [intOf]; omega
      · obtain rfl : j = n := by omega
        have HX : Hid (Fit f l) := hide (HF.out fun c hc => by
          obtain ⟨k, hk⟩ := List.mem_iff_getElem?.1 hc
          exact HA.out k c (by rw [← hn.out]; exact (List.getElem?_eq_some_iff.1 hk).1) hk)
        clear HA HF HL
        go_wp2_with fail
        go_ret
        exact WrongPost.no rfl HX.out HB
end Go.Proofs.YtgmokighfgdnjaaGreatDoor

/- GdS -/
namespace Go.Proofs.YtgmokighfgdnjaaGreatDoor
open Go.RowKit Go.Extern.Stop Go.Stop Go.Extern Go.Maps Go.WideMaps Go.Sort

theorem run_append_ins {w : World} {base b2 : Nat} {l0 l : List Ins} {v u : Value} (hown : insOwn w base v l0) (hu : insOwn w b2 u l) (h3 : l0.length + l.length ≤ 2000) (hb : base ≤ w.heap.size) (ty : TypeId) :
    ∃ v' w', (Builtin.append_ #[24, 24] ty #[v, u]).run Tryz.prog w = .ok v' w' ∧ insOwn w' base v' (l0 ++ l) ∧ Below base w w' := by
  obtain ⟨ri, hri, hrz, hrs, hrb⟩ := instrInfo
  have hu' := hu
  rcases hu'.2 with ⟨rfl, h0⟩ | ⟨g, cap, cur, rfl, -⟩
  · obtain rfl := List.length_eq_zero_iff.1 h0
    refine ⟨v, w, run_append_owned_none (P := Tryz.prog) (w := w) base 24 ty 70 ri 5 Tryz.underlying24 hri v l0.length (icells l0) hown, ?_, Below.refl _ _⟩
    rw [List.append_nil]; exact hown
  · obtain ⟨v', w', hr, h2, h4, -, -⟩ := run_append_own_at (P := Tryz.prog) (w := w) base 24 ty 70 ri (.agg #[.string ⟨#[]⟩, .int .i64 0, .int .i64 0, .int .i64 0, .string ⟨#[]⟩]) 5 56 Tryz.underlying24 hri hrz hrs hrb rfl (by decide) v l0.length (icells l0) hown ⟨g, 0, none⟩ l.length cap (icells l) (icells_len l) (fun j x hj => by
        have hj5 : j < l.length * 5 := by
          have := (List.getElem?_eq_some_iff.1 hj).1
          rwa [icells_len] at this
        rw [Addr.add_lit, Nat.zero_add]
        exact (World.ownsRow.cellAt hu j hj5).trans hj) icells_one (by unfold maxLen; omega) (by omega) hb
    refine ⟨v', w', hr, ?_, (Below.refl base w).grown h4 hb (fun k hk => (hown.lt k hk).1)⟩
    unfold insOwn
    rw [List.length_append, icells_append]
    exact h2

theorem step_append_insO (w : World) {ops : Array Oper} {o : Oper} {a : Act} {K : Act → World → Prop} {Q : Exit → Act → World → Prop} {E : Prop} (hgd : o.guard = none) (s x : Operand)
    (ho : o.op = .call { callee := .builtin .append, args := #[s, x], argTypes := #[24, 24] }) (base b2 : Nat) (l0 l : List Ins) (v u : Value)
    (hs : a.eval s = v) (hown : insOwn w base v l0) (hx : a.eval x = u) (hu : insOwn w b2 u l) (h3 : l0.length + l.length ≤ 2000) (hb : base ≤ w.heap.size)
    (h : ∀ v' w', insOwn w' base v' (l0 ++ l) → Below base w w' → K (a.put o.dst v') w') :
    if Region.wanted o (yielded ops a.tmps) = true then Oper.wp Tryz.prog o a w K Q else E := by
  have hw : Region.wanted o (yielded ops a.tmps) = true := by simp [Region.wanted, hgd]
  rw [if_pos hw]
  obtain ⟨v', w', hr, h4, h5⟩ := run_append_ins hown hu h3 hb o.type
  unfold Oper.wp execOp
  simp only [ho, resolve, invoke, builtin, Sem.run_bind, Sem.run_pure, Result.andThen_ok, List.map_toArray, List.map_cons, List.map_nil, hs, hx, hr]
  exact h v' w' h4 h5

def kTg (k : Nat) : Tg := if k = 0 then .enter else if k = 1 then .leave else if k = 2 then .rest else if k = 3 then .gone else .wait
set_option maxRecDepth 20000 in
theorem parts_ok {f : Nat} (hf : 1 ≤ f ∧ f ≤ 4) {p : ByteArray} (hp : isName p) (hs : p.size ≤ 4) (k : Nat) (hk : k < 5) (w : World) :
    Calls Tryz.prog 10 #[.int .i64 f, .string p, .int .i64 k] w fun e w' => ∃ v, e = .returned (.tuple #[v, .nilIface]) ∧ insOwn w' w.heap.size v (gCode p (tgCode f (kTg k))) ∧ Below w.heap.size w w' := by
  have H0 := hide (enter_ok hf hp hs w)
  have H1 := hide (leave_ok hf hp hs w)
  have H2 := hide (rest_ok hf hp hs w)
  have H3 := hide (gone_ok hf hp hs w)
  have H4 := hide (wait_ok hf hp hs w)
  have hc : k = 0 ∨ k = 1 ∨ k = 2 ∨ k = 3 ∨ k = 4 := by omega
  generalize (f : Int) = fi at *
  rcases hc with rfl | rfl | rfl | rfl | rfl
  all_goals
    clear hf hp hs hk
    go_enter Tryz.func10, Tryz.ntmps10
    go_wp2_with (first
      | (go_at_call 26; refine H0.out.mono ?_; rintro e wq ⟨v, rfl, hv⟩)
      | (go_at_call 27; refine H1.out.mono ?_; rintro e wq ⟨v, rfl, hv⟩)
      | (go_at_call 28; refine H2.out.mono ?_; rintro e wq ⟨v, rfl, hv⟩)
      | (go_at_call 29; refine H3.out.mono ?_; rintro e wq ⟨v, rfl, hv⟩)
      | (go_at_call 25; refine H4.out.mono ?_; rintro e wq ⟨v, rfl, hv⟩))
    go_ret2
    exact ⟨v, rfl, hv⟩
theorem tg_len (f : Nat) (k : Nat) : (tgCode f (kTg k)).length ≤ 70 := by
  unfold kTg
  split
  · show (gEnter f).length ≤ 70
    unfold gEnter gOuter gJoin
    split <;> (try split) <;> simp <;> omega
  split
  · show (gLeave f).length ≤ 70
    unfold gLeave gOuter
    split <;> simp
  split
  · show (gRest f).length ≤ 70
    unfold gRest
    split <;> simp
  split
  · show (gGone f).length ≤ 70
    unfold gGone
    split <;> simp
  · show (gWait f).length ≤ 70
    unfold gWait
    split <;> (try split) <;> simp

theorem pq_name {a : Nat} (ha : a ≤ 99) : isName (pq a) := by
  refine nameB_is ?_
  have key : ∀ a : Fin 100, nameB (bl (pq a.val)) = true := by decide +kernel
  exact key ⟨a, by omega⟩

set_option maxRecDepth 20000 in
set_option maxHeartbeats 1000000 in
theorem add_ok {f : Nat} (hf : 1 ≤ f ∧ f ≤ 4) (k : Nat) (hk : k < 5) (a : Nat) (ha : a ≤ 99) (w : World) (base : Nat) (v : Value) (L : List Ins) (hv : insOwn w base v L) (hb : base ≤ w.heap.size) (hL : L.length ≤ 1900) :
    Calls Tryz.prog 70 #[v, .int .i64 f, .int .i64 k, .int .i64 a] w fun e w' => ∃ v', e = .returned (.tuple #[v', .bool true]) ∧ insOwn w' base v' (L ++ gCode (pq a) (tgCode f (kTg k))) ∧ Below base w w' := by
  have HD1 : Hid (∀ w, Calls Tryz.prog 105 #[.int .i64 ((a / 10 : Nat) : Int)] w fun e w' => e = .returned (.string (spDig (a / 10))) ∧ Below w.heap.size w w') := hide fun w => by
    have := decimal_any ((a / 10 : Nat) : Int) (by omega) (by omega) w
    rwa [sp_decimal (a / 10) (by omega)] at this
  have HD2 : Hid (∀ w, Calls Tryz.prog 105 #[.int .i64 ((a % 10 : Nat) : Int)] w fun e w' => e = .returned (.string (spDig (a % 10))) ∧ Below w.heap.size w w') := hide fun w => by
    have := decimal_any ((a % 10 : Nat) : Int) (by omega) (by omega) w
    rwa [sp_decimal (a % 10) (by omega)] at this
  have HP : Hid (∀ w, Calls Tryz.prog 10 #[.int .i64 f, .string ((⟨#[113]⟩ : ByteArray) ++ spDig (a / 10) ++ spDig (a % 10)), .int .i64 k] w fun e w' => ∃ v, e = .returned (.tuple #[v, .nilIface]) ∧ insOwn w' w.heap.size v (gCode (pq a) (tgCode f (kTg k))) ∧ Below w.heap.size w w') := hide fun w => parts_ok hf (pq_name ha) (by show 3 ≤ 4; decide) k hk w
  have z1 : 1 + (spDig (a / 10)).size ≤ 9223372036854775807 := by show 1 + 1 ≤ _; omega
  have z3 : 1 + (spDig (a / 10)).size + (spDig (a % 10)).size ≤ 9223372036854775807 := by show 1 + 1 + 1 ≤ _; omega
  have q1 : Int.tdiv (a : Int) 10 = ((a / 10 : Nat) : Int) := by rw [Int.tdiv_eq_ediv_of_nonneg (by omega)]; omega
  have q2 : Int.tmod (a : Int) 10 = ((a % 10 : Nat) : Int) := by rw [Int.tmod_eq_emod_of_nonneg (by omega)]; omega
  have q3 : wrap64 ((a / 10 : Nat) : Int) = ((a / 10 : Nat) : Int) := by unfold wrap64; omega
  have q4 : wrap64 ((a % 10 : Nat) : Int) = ((a % 10 : Nat) : Int) := by unfold wrap64; omega
  have hln : (gCode (pq a) (tgCode f (kTg k))).length ≤ 70 := by unfold gCode; rw [List.length_map]; exact tg_len f k
  have HV := hide hv
  have HB := hide hb
  generalize gCode (pq a) (tgCode f (kTg k)) = C at *
  generalize spDig (a / 10) = D1 at *
  generalize spDig (a % 10) = D2 at *
  generalize ((a / 10 : Nat) : Int) = i1 at *
  generalize ((a % 10 : Nat) : Int) = i2 at *
  generalize (a : Int) = ai at *
  generalize (f : Int) = fi at *
  generalize (k : Int) = ki at *
  clear hf hk ha hv hb
  go_enter Tryz.func70, Tryz.ntmps70
  go_wp2_with fail
  refine (HD1.out _).mono ?_
  rintro e w1 ⟨rfl, hb1⟩
  go_wp2_with fail
  refine (HD2.out _).mono ?_
  rintro e w2 ⟨rfl, hb2⟩
  go_wp2_with fail
  refine (HP.out _).mono ?_
  rintro e w3 ⟨u, rfl, hu, hb3⟩
  have HW3 : Hid (Below w.heap.size w w3) := hide (below_step (below_step hb1 hb2) hb3)
  have HO3 := hide (insOwn_keep (insOwn_keep (insOwn_keep HV.out hb1) hb2) hb3)
  have HU := hide hu
  have hb3s : base ≤ w3.heap.size := Nat.le_trans HB.out HW3.out.size
  clear hb1 hb2 hb3 hu HV HD1 HD2 HP
  have hBd : Below w3.heap.size w3 w3.drew := below_dN (Below.refl _ _) 1
  have HO4 := hide (insOwn_keep HO3.out hBd)
  have HU4 := hide (insOwn_keep HU.out hBd)
  have HB4 : Hid (Below base w w3.drew) := hide ((HW3.out.mono HB.out).trans (hBd.mono hb3s))
  have hb4 : base ≤ w3.drew.heap.size := Nat.le_trans hb3s hBd.size
  clear hBd HO3 HU HW3
  go_wp2_with fail
  go_region_law ((refine step_append_insO _ (by rfl) _ _ (by rfl) base w2.heap.size L C v u (by rfl) HO4.out (by rfl) HU4.out (by omega) hb4 ?_; intro v6 w6 ho6 hb6))
  all_goals
    go_wp2
    go_ret2
    exact ⟨v6, rfl, ho6, HB4.out.trans hb6⟩
end Go.Proofs.YtgmokighfgdnjaaGreatDoor

/- GdT -/
namespace Go.Proofs.YtgmokighfgdnjaaGreatDoor
open Go.RowKit Go.Extern.Stop Go.Stop Go.Extern Go.Maps Go.WideMaps Go.Sort

theorem cd_append (f : Nat) : ∀ (a b : List (Tg × ByteArray)), cd f (a ++ b) = cd f a ++ cd f b
  | [], _ => rfl
  | x :: a, b => by
    show gCode x.2 (tgCode f x.1) ++ cd f (a ++ b) = _
    rw [cd_append f a b, ← List.append_assoc]; rfl
def cn (f : Nat) (l : List (Tg × Nat)) : List Ins := cd f (nm l)
theorem cn_append (f : Nat) (a b : List (Tg × Nat)) : cn f (a ++ b) = cn f a ++ cn f b := by
  unfold cn nm
  rw [List.map_append, cd_append]
theorem cn_one (f : Nat) (t : Tg) (a : Nat) : cn f [(t, a)] = gCode (pq a) (tgCode f t) := by
  show gCode (pq a) (tgCode f t) ++ [] = _
  rw [List.append_nil]
theorem cn_code (f : Nat) (wt : Bool) (c : Cs) : c.code f wt = cn f (c.segs wt) := rfl
theorem tg_small (f : Nat) (t : Tg) : (tgCode f t).length ≤ 70 := by
  cases t with
  | enter => exact tg_len f 0
  | leave => exact tg_len f 1
  | rest => exact tg_len f 2
  | gone => exact tg_len f 3
  | wait => exact tg_len f 4
  | _ => simp [tgCode]
theorem cn_len (f : Nat) : ∀ l : List (Tg × Nat), (cn f l).length ≤ 70 * l.length
  | [] => Nat.le_refl _
  | x :: l => by
    have h1 := cn_len f l
    have h2 := tg_small f x.1
    show (gCode (pq x.2) (tgCode f x.1) ++ cn f l).length ≤ _
    rw [List.length_append, List.length_cons]
    unfold gCode
    rw [List.length_map]
    omega
theorem wr_succ (f : Nat) (wt : Bool) (j : Nat) : cn f (wrTo wt (j + 1)) = cn f (wrTo wt j) ++ cn f (wrOne wt j) := by
  unfold wrTo
  rw [List.range_succ, List.flatMap_append, cn_append]
  simp
theorem wr_len (f : Nat) (wt : Bool) (j : Nat) : (cn f (wrTo wt j)).length ≤ 280 * j := by
  induction j with
  | zero => exact Nat.le_refl _
  | succ j ih =>
    rw [wr_succ, List.length_append]
    have h := cn_len f (wrOne wt j)
    have h2 : (wrOne wt j).length ≤ 4 := by unfold wrOne; split <;> simp
    omega
theorem add_int {f : Nat} (hf : 1 ≤ f ∧ f ≤ 4) (k : Nat) (hk : k < 5) (ki : Int) (hki : ki = k) (ai : Int) (a : Nat) (hai : ai = a) (ha : a ≤ 99) (w : World) (base : Nat) (v : Value) (L : List Ins) (hv : insOwn w base v L) (hb : base ≤ w.heap.size) (hL : L.length ≤ 1900) :
    Calls Tryz.prog 70 #[v, .int .i64 f, .int .i64 ki, .int .i64 ai] w fun e w' => ∃ v', e = .returned (.tuple #[v', .bool true]) ∧ insOwn w' base v' (L ++ gCode (pq a) (tgCode f (kTg k))) ∧ Below base w w' := by
  subst hki
  subst hai
  exact add_ok hf k hk a ha w base v L hv hb hL

def wMid (j : Nat) : List Ins := [⟨⟨#[97, 108, 108, 111, 99]⟩, 3, 0, 0, spNo⟩, ⟨spConst, 4, (j : Int) + 2, 0, spNo⟩, ⟨spStore, 3, 4, 0, spNo⟩, ⟨⟨#[115, 119, 97, 112]⟩, 3, 5, 0, spNo⟩]
def wFree : List Ins := [⟨⟨#[102, 114, 101, 101]⟩, 3, 0, 0, spNo⟩]
theorem wr_one_t (f j : Nat) : cn f (wrOne true j) = wMid j ++ gCode (pq (j + 1)) (tgCode f .wait) ++ wFree := by
  show cn f ([(.new ((j : Int) + 2), 0), (.pub, 0)] ++ ([(.wait, j + 1)] ++ [(.free, 0)])) = _
  rw [cn_append, cn_append, cn_one, List.append_assoc]
  rfl
theorem wr_one_f (f j : Nat) : cn f (wrOne false j) = wMid j ++ wFree := rfl

set_option maxRecDepth 20000 in
set_option maxHeartbeats 2000000 in
theorem writer_true {f : Nat} (hf : 1 ≤ f ∧ f ≤ 4) (tm : Nat) (htm : tm ≤ 3) (rd : Nat) (ns : Bool) (w : World) :
    Calls Tryz.prog 37 #[.int .i64 f, .int .i64 tm, .bool true] w fun e w' => ∃ v, e = .returned (.tuple #[v, .bool true]) ∧ insOwn w' w.heap.size v (Cs.code f true ⟨true, tm, rd, ns⟩) ∧ Below w.heap.size w w' := by
  have HA := hide (@add_int f hf)
  have HE : Hid (∀ j : Nat, cn f (wrTo true (j + 1)) = cn f (wrTo true j) ++ cn f (wrOne true j)) := hide (wr_succ f true)
  have HLn : Hid (∀ j : Nat, (cn f (wrTo true j)).length ≤ 280 * j) := hide (wr_len f true)
  have HX : Hid (cn f (wrTo true tm) ++ gCode (pq (tm + 1)) (tgCode f .gone) = Cs.code f true ⟨true, tm, rd, ns⟩) := hide (by
    rw [cn_code]
    show _ = cn f (wrTo true tm ++ [(.gone, tm + 1)])
    rw [cn_append, cn_one])
  generalize hfi : (f : Int) = fi at *
  clear hfi hf
  go_enter Tryz.func37, Tryz.ntmps37
  go_wp2_with fail
  go_loopw [8, 9, 10, 11, 12, 13] (fun l g a i _ _ wr => ∃ j : Nat, j ≤ tm ∧ i = .int .i64 j ∧ g = .bool true ∧ a = .int .i64 ((j : Nat) : Int) ∧ Hid (insOwn wr w.heap.size l (cn f (wrTo true j))) ∧ Below w.heap.size w wr) (fun _ _ _ i _ _ _ => tm - (intOf i).toNat)
  case atStart => exact ⟨0, Nat.zero_le _, rfl, rfl, rfl, insOwn_nil _ _, Below.refl _ _⟩
  case round =>
    obtain ⟨j, hj, rfl, rfl, rfl, HO, HB⟩ := hrel
    by_cases hlt : j < tm
    · have ji : (j : Int) < tm := by omega
      have wr2 : IntKind.i64.wrap ((j : Int) + 2) = (j : Int) + 2 := by rw [IntKind.wrap_i64]; omega
      have HS := hide (HE.out j)
      have HL := hide (HLn.out j)
      generalize cn f (wrTo true j) = C at *
      go_wp2_with (at_builtin; refine wpList_append_ins _ rfl _ _ rfl w.heap.size C (wMid j) _ _ _ rfl ?q1 rfl ?q2 (Nat.succ_pos _) ?q3 ?q4 ?_)
      case q1 => exact insOwn_keep HO.out ((Below.refl _ _).alloc (Nat.le_refl _) _)
      case q2 => exact insAt_new rfl
      case q3 => show _ + 4 ≤ 2000; have := HL.out; omega
      case q4 => have := HB.size; simp; omega
      intro v1 w1 ho1 hb1 hs1 hg1 hloc1
      have HO1 := hide ho1
      have HB1 := (HB.alloc HB.size _).trans hb1
      clear ho1 hb1 hs1 hg1 hloc1 HO HB
      go_wp2_with fail
      refine (HA.out 4 (by decide) _ (by rfl) _ (j + 1) (by omega) (by omega) _ w.heap.size _ _ HO1.out HB1.size (by rw [List.length_append]; show _ + 4 ≤ _; have := HL.out; omega)).mono ?_
      rintro e w2 ⟨v2, rfl, ho2, hb2⟩
      have HO2 : Hid (insOwn w2 w.heap.size v2 (C ++ wMid j ++ gCode (pq (j + 1)) (tgCode f .wait))) := hide ho2
      have HB2 := HB1.trans hb2
      have HT : Hid ((gCode (pq (j + 1)) (tgCode f .wait)).length ≤ 70) := hide (by unfold gCode; rw [List.length_map]; exact tg_small f .wait)
      have HS2 : Hid (C ++ wMid j ++ gCode (pq (j + 1)) (tgCode f .wait) ++ wFree = cn f (wrTo true (j + 1))) := hide (by rw [HS.out, wr_one_t]; simp only [List.append_assoc])
      clear ho2 hb2 HO1 HB1 HS
      generalize gCode (pq (j + 1)) (tgCode f .wait) = G at *
      go_wp2_with (at_builtin; refine wpList_append_ins _ rfl _ _ rfl w.heap.size (C ++ wMid j ++ G) wFree _ _ _ rfl ?q1 rfl ?q2 (Nat.succ_pos _) ?q3 ?q4 ?_)
      case q1 => exact insOwn_keep HO2.out ((Below.refl _ _).alloc (Nat.le_refl _) _)
      case q2 => exact insAt_new rfl
      case q3 => rw [List.length_append, List.length_append]; show _ + 4 + _ + 1 ≤ 2000; have := HL.out; have := HT.out; omega
      case q4 => have := HB2.size; simp; omega
      intro v3 w3 ho3 hb3 hs3 hg3 hloc3
      have HO3 : Hid (insOwn w3 w.heap.size v3 (cn f (wrTo true (j + 1)))) := hide (by rw [← HS2.out]; simp only [List.append_assoc] at ho3 ⊢; exact ho3)
      have HB3 := (HB2.alloc HB2.size _).trans hb3
      clear ho3 hb3 hs3 hg3 hloc3 HO2 HB2 HS2
      go_wp2
      go_roundw
      case rel => exact ⟨j + 1, by omega, by go_num, rfl, by go_num, HO3, HB3⟩
      case measure => simp [intOf]; omega
    · obtain rfl : j = tm := by omega
      have HL := hide (HLn.out j)
      go_wp2_with fail
      refine (HA.out 3 (by decide) _ (by rfl) _ (j + 1) (by omega) (by omega) _ w.heap.size _ _ HO.out HB.size (by have := HL.out; omega)).mono ?_
      rintro e w2 ⟨v2, rfl, ho2, hb2⟩
      have HO2 : Hid (insOwn w2 w.heap.size v2 (Cs.code f true ⟨true, j, rd, ns⟩)) := hide (by rw [← HX.out]; exact ho2)
      have HB2 := HB.trans hb2
      clear ho2 hb2 HO HB HX HL
      go_wp2
      go_ret2
      exact ⟨v2, rfl, HO2.out, HB2⟩

set_option maxRecDepth 20000 in
set_option maxHeartbeats 2000000 in
theorem writer_false {f : Nat} (hf : 1 ≤ f ∧ f ≤ 4) (tm : Nat) (htm : tm ≤ 3) (rd : Nat) (ns : Bool) (w : World) :
    Calls Tryz.prog 37 #[.int .i64 f, .int .i64 tm, .bool false] w fun e w' => ∃ v, e = .returned (.tuple #[v, .bool true]) ∧ insOwn w' w.heap.size v (Cs.code f false ⟨true, tm, rd, ns⟩) ∧ Below w.heap.size w w' := by
  have HA := hide (@add_int f hf)
  have HE : Hid (∀ j : Nat, cn f (wrTo false (j + 1)) = cn f (wrTo false j) ++ cn f (wrOne false j)) := hide (wr_succ f false)
  have HLn : Hid (∀ j : Nat, (cn f (wrTo false j)).length ≤ 280 * j) := hide (wr_len f false)
  have HX : Hid (cn f (wrTo false tm) ++ gCode (pq (0 + 1)) (tgCode f .gone) = Cs.code f false ⟨true, tm, rd, ns⟩) := hide (by
    rw [cn_code]
    show _ = cn f (wrTo false tm ++ [(.gone, 1)])
    rw [cn_append, cn_one])
  generalize hfi : (f : Int) = fi at *
  clear hfi hf
  go_enter Tryz.func37, Tryz.ntmps37
  go_wp2_with fail
  go_loopw [8, 9, 10, 11, 12, 13] (fun l g a i _ _ wr => ∃ j : Nat, j ≤ tm ∧ i = .int .i64 j ∧ g = .bool true ∧ a = .int .i64 ((0 : Nat) : Int) ∧ Hid (insOwn wr w.heap.size l (cn f (wrTo false j))) ∧ Below w.heap.size w wr) (fun _ _ _ i _ _ _ => tm - (intOf i).toNat)
  case atStart => exact ⟨0, Nat.zero_le _, rfl, rfl, rfl, insOwn_nil _ _, Below.refl _ _⟩
  case round =>
    obtain ⟨j, hj, rfl, rfl, rfl, HO, HB⟩ := hrel
    by_cases hlt : j < tm
    · have ji : (j : Int) < tm := by omega
      have wr2 : IntKind.i64.wrap ((j : Int) + 2) = (j : Int) + 2 := by rw [IntKind.wrap_i64]; omega
      have HS := hide (HE.out j)
      have HL := hide (HLn.out j)
      generalize cn f (wrTo false j) = C at *
      go_wp2_with (at_builtin; refine wpList_append_ins _ rfl _ _ rfl w.heap.size C (wMid j) _ _ _ rfl ?q1 rfl ?q2 (Nat.succ_pos _) ?q3 ?q4 ?_)
      case q1 => exact insOwn_keep HO.out ((Below.refl _ _).alloc (Nat.le_refl _) _)
      case q2 => exact insAt_new rfl
      case q3 => show _ + 4 ≤ 2000; have := HL.out; omega
      case q4 => have := HB.size; simp; omega
      intro v1 w1 ho1 hb1 hs1 hg1 hloc1
      have HO1 := hide ho1
      have HB1 := (HB.alloc HB.size _).trans hb1
      clear ho1 hb1 hs1 hg1 hloc1 HO HB
      have HS2 : Hid (C ++ wMid j ++ wFree = cn f (wrTo false (j + 1))) := hide (by rw [HS.out, wr_one_f]; simp only [List.append_assoc])
      clear HS
      go_wp2_with (at_builtin; refine wpList_append_ins _ rfl _ _ rfl w.heap.size (C ++ wMid j) wFree _ _ _ rfl ?q1 rfl ?q2 (Nat.succ_pos _) ?q3 ?q4 ?_)
      case q1 => exact insOwn_keep HO1.out ((Below.refl _ _).alloc (Nat.le_refl _) _)
      case q2 => exact insAt_new rfl
      case q3 => rw [List.length_append]; show _ + 4 + 1 ≤ 2000; have := HL.out; omega
      case q4 => have := HB1.size; simp; omega
      intro v3 w3 ho3 hb3 hs3 hg3 hloc3
      have HO3 : Hid (insOwn w3 w.heap.size v3 (cn f (wrTo false (j + 1)))) := hide (by rw [← HS2.out]; simp only [List.append_assoc] at ho3 ⊢; exact ho3)
      have HB3 := (HB1.alloc HB1.size _).trans hb3
      clear ho3 hb3 hs3 hg3 hloc3 HO1 HB1 HS2
      go_wp2
      go_roundw
      case rel => exact ⟨j + 1, by omega, by go_num, rfl, by go_num, HO3, HB3⟩
      case measure => simp [intOf]; omega
    · obtain rfl : j = tm := by omega
      have HL := hide (HLn.out j)
      go_wp2_with fail
      refine (HA.out 3 (by decide) _ (by rfl) _ (0 + 1) (by omega) (by omega) _ w.heap.size _ _ HO.out HB.size (by have := HL.out; omega)).mono ?_
      rintro e w2 ⟨v2, rfl, ho2, hb2⟩
      have HO2 : Hid (insOwn w2 w.heap.size v2 (Cs.code f false ⟨true, j, rd, ns⟩)) := hide (by rw [← HX.out]; exact ho2)
      have HB2 := HB.trans hb2
      clear ho2 hb2 HO HB HX HL
      go_wp2
      go_ret2
      exact ⟨v2, rfl, HO2.out, HB2⟩
end Go.Proofs.YtgmokighfgdnjaaGreatDoor
