import Derived.Test.YtnnlkolhahjokaaGreatDoorA33
import Derived.Test.YtnnlkolhahjokaaGreatDoorA24

/- WkJ -/
namespace Go.Proofs.YtnnlkolhahjokaaGreatDoor
open Go.RowKit Go.Extern.Stop Go.Stop Go.Extern Go.Maps Go.WideMaps Go.Sort

inductive Back (E : List (ByteArray × ByteArray × Int)) : ByteArray × Int → List Int → Prop
  | first (n : Int) : Back E (ByteArray.empty, n) []
  | step {k : ByteArray} {y : ByteArray × Int} {l : List Int} (n : Int) : k ≠ ByteArray.empty → (k, y) ∈ E → Back E y l → Back E (k, n) (n :: l)

def sliceN : Value → Nat
  | .slice _ n _ => n
  | _ => 0

theorem sliceN_own {w : World} {base : Nat} {v : Value} {l : List Int} (h : numsOwn w base v l) : sliceN v = l.length := by
  obtain ⟨_, _, rfl, -, -⟩ := numsOwn_at h
  rfl

set_option maxRecDepth 20000 in
set_option maxHeartbeats 1000000 in
theorem way_loop {w : World} {q : SrPl} {E : List (ByteArray × ByteArray × Int)} {qv : Value} (hw : WsAt q.b q.n q.mo q.fb qv q.see w) (hf : FoundAt w q.fb E) (hk : ∀ x ∈ E, x.1.size ≤ maxLen) (x : ByteArray × Int) (L : List Int) (hb : Back E x L) (hL : L.length ≤ 100000)
    (HR : ∀ (v : Value) (w1 : World), numsOwn w1 w.heap.size v L → Below w.heap.size w w1 → Calls Tryz.prog 77 #[v] w1 fun r w' => r = .returned (.tuple #[]) ∧ numsOwn w' w.heap.size v L.reverse ∧ Below w.heap.size w w') :
    Calls Tryz.prog 53 #[.pointer (some ⟨q.b, 0, none⟩), .agg #[.string x.1, .int .i64 x.2]] w fun r w' => ∃ v, r = .returned v ∧ numsOwn w' w.heap.size v L.reverse ∧ Below w.heap.size w w' := by
  have HW := hide hw
  have HF := hide hf
  have HK := hide hk
  have HB := hide hb
  have HR' := hide HR
  clear hw hf hk hb HR
  go_enter Tryz.func53, Tryz.ntmps53
  go_wp2_with fail
  go_loopw [5, 6] (fun v p wr => ∃ pre rest y bx, Hid (numsOwn wr w.heap.size v pre) ∧ p = .pointer (some ⟨bx, 0, none⟩) ∧ wr.cell? ⟨bx, 0, none⟩ = some (.string y.1) ∧ wr.cell? ⟨bx, 1, none⟩ = some (.int .i64 y.2) ∧ w.heap.size ≤ bx ∧ v.ownBlock ≠ some bx ∧ Hid (Back E y rest) ∧ Hid (L = pre ++ rest) ∧ Below w.heap.size w wr) (fun v _ _ => L.length - sliceN v)
  case atStart => exact ⟨[], L, x, w.heap.size + 1, hide (numsOwn_nil _ _), rfl, by rw [show w.heap.size + 1 = (w.alloc (.cells #[.string x.1, .int .i64 x.2] 118)).heap.size by simp, World.cell?_alloc_new]; rfl, by rw [show w.heap.size + 1 = (w.alloc (.cells #[.string x.1, .int .i64 x.2] 118)).heap.size by simp, World.cell?_alloc_new]; rfl, by omega, by simp [Value.ownBlock], HB, hide rfl, ((Below.refl _ w).alloc (Nat.le_refl _) _).alloc (by simp) _⟩
  case round =>
    obtain ⟨pre, rest, y, bx, HO, rfl, e0, e1, hbx, hob, HBk, HLp, HBl⟩ := hrel
    have hyc := HBk.out
    clear HBk HB
    cases hyc with
    | first n =>
      have HO' : Hid (numsOwn wr w.heap.size u5 L) := hide (by rw [HLp.out, List.append_nil]; exact HO.out)
      have HRc := hide (HR'.out _ _ HO'.out HBl)
      clear HO HO' HLp HF HW HK HR' hob
      dsimp only at e0 e1
      go_wp2_with fail
      refine HRc.out.mono ?_
      rintro r w2 ⟨rfl, h1, h2⟩
      have HZ := hide h1
      clear HRc h1 e0 e1 HBl
      go_wp2_with fail
      go_ret
      exact ⟨_, rfl, HZ.out, h2⟩
    | step n hne hmem hy =>
      rename_i k y' rest'
      dsimp only at e0 e1
      have hkt : (k.toList == []) = false := by
        rw [beq_eq_false_iff_ne, toList_bl]
        exact fun e => hne (bl_inj (by rw [e]; rfl))
      have hpL : pre.length + 1 ≤ L.length := by
        have h1 := congrArg List.length HLp.out
        rw [List.length_append, List.length_cons] at h1
        omega
      have hpl : pre.length + 1 ≤ 100000 := by omega
      have hbs := HBl.size
      go_wp2_with (at_builtin; refine wpList_append_ints _ rfl _ _ rfl w.heap.size pre [n] _ ⟨wr.heap.size, 0, none⟩ 1 rfl ?r1 rfl ?r2 ?r3 ?r4 ?_)
      case r1 => exact numsOwn_keep HO.out ((Below.refl _ _).alloc (Nat.le_refl _) _)
      case r2 => exact numsAt_new rfl
      case r3 => show pre.length + 1 ≤ _; omega
      case r4 => simp; omega
      intro v' w2 ho2 hb2 hs2 hg2 hl2
      have bl := World.block_lt_of_cell? _ _ e0
      have f0 : w2.cell? ⟨bx, 0, none⟩ = some (.string k) := hg2.cell (keep_cell ((Below.refl _ wr).alloc (Nat.le_refl _) _) e0) (fun e => hob e.symm)
      have f1 : w2.cell? ⟨bx, 1, none⟩ = some (.int .i64 n) := hg2.cell (keep_cell ((Below.refl _ wr).alloc (Nat.le_refl _) _) e1) (fun e => hob e.symm)
      have B2 : Below w.heap.size w w2 := (HBl.alloc hbs _).trans hb2
      have HO2 := hide ho2
      have hn6 := sliceN_own ho2
      have hn5 := sliceN_own HO.out
      rw [List.length_append, List.length_singleton] at hn6
      have hvn : v'.ownBlock ≠ some w2.heap.size := fun e => by have := (ho2.lt _ e).2; omega
      have hbs2 := B2.size
      clear e0 e1 hg2 hl2 hs2 hb2 ho2 HO hob HBl hbs
      go_wp2_with fail
      generalize hW3 : w2.alloc (.cells #[.string k, .int .i64 n] 118) = W3
      have b3 : Below w2.heap.size w2 W3 := by rw [← hW3]; exact (Below.refl _ _).alloc (Nat.le_refl _) _
      have d0 : W3.cell? ⟨w2.heap.size, 0, none⟩ = some (.string k) := by rw [← hW3, World.cell?_alloc_new]; rfl
      have d1 : W3.cell? ⟨w2.heap.size, 1, none⟩ = some (.int .i64 n) := by rw [← hW3, World.cell?_alloc_new]; rfl
      have z0 : W3.frozen? ⟨w2.heap.size, 0, none⟩ = false := by rw [← hW3]; exact World.frozen?_alloc_new _ _ _ _
      have z1 : W3.frozen? ⟨w2.heap.size, 1, none⟩ = false := by rw [← hW3]; exact World.frozen?_alloc_new _ _ _ _
      have B3 : Below w.heap.size w W3 := below_step B2 b3
      have HO3 := hide (numsOwn_keep HO2.out b3)
      have c3 : W3.cell? ⟨q.b, 2, none⟩ = some (.map (some q.fb)) := keep_cell B3 HW.out.found
      have hlk := (HF.out.kept (w' := W3.drew) (B3.block _ HF.out.1.lt)).at hmem (HK.out _ hmem)
      unfold stepV at hlk
      dsimp only at hlk
      clear hW3 b3 B2 HO2 f0 f1
      go_region
      go_wp2_with fail
      go_roundw
      case rel =>
        refine ⟨pre ++ [n], rest', y', w2.heap.size, hide ?_, rfl, ?_, ?_, hbs2, hvn, hide hy, hide (by rw [HLp.out]; simp), ?_⟩
        · refine ownsRow_block HO3.out fun b hb => ?_
          have hne : b ≠ w2.heap.size := fun e => hvn (by rw [← e]; exact hb)
          exact (Below.heap_setCell _ _ _ _ hne).trans (Below.heap_setCell _ _ _ _ hne)
        · exact cell_ne (World.cell?_setCell_same _ _ _ d0) (.inr (by omega))
        · exact World.cell?_setCell_same _ _ _ (cell_ne d1 (.inr (by omega)))
        · exact ((((Turns.of_below (S := fun _ _ => False) B3).setNew (p := ⟨w2.heap.size, 0, none⟩) _ hbs2).setNew (p := ⟨w2.heap.size, 1, none⟩) _ hbs2).drew).below (Nat.le_refl _) (fun _ _ _ h => h)
      case measure => rw [hn5, hn6]; omega
end Go.Proofs.YtnnlkolhahjokaaGreatDoor

/- WkK -/
namespace Go.Proofs.YtnnlkolhahjokaaGreatDoor
open Go.RowKit Go.Extern.Stop Go.Stop Go.Extern Go.Maps Go.WideMaps Go.Sort

def RevTo (L : List Int) (i : Nat) (l : List Int) : Prop := l.length = L.length ∧ ∀ p, p < L.length → l[p]? = if p < i ∨ L.length ≤ p + i then L[L.length - 1 - p]? else L[p]?
theorem RevTo.zero (L : List Int) : RevTo L 0 L := ⟨rfl, fun p hp => by rw [if_neg (by omega)]⟩
theorem RevTo.step {L l : List Int} {i j : Nat} (h : RevTo L i l) (hij : i < j) (hj : i + j + 1 = L.length) {x y : Int} (hx : l[i]? = some x) (hy : l[j]? = some y) : RevTo L (i + 1) ((l.set i y).set j x) := by
  obtain ⟨h1, h2⟩ := h
  refine ⟨by simpa using h1, fun p hp => ?_⟩
  have hi := h2 i (by omega)
  have hjj := h2 j (by omega)
  rw [if_neg (by omega)] at hi hjj
  rw [List.getElem?_set, List.getElem?_set]
  by_cases e1 : j = p
  · subst e1
    rw [if_pos rfl, if_pos (by simp; omega), if_pos (by omega), show L.length - 1 - j = i by omega, ← hi, hx]
  · rw [if_neg e1]
    by_cases e2 : i = p
    · subst e2
      rw [if_pos rfl, if_pos (by omega), if_pos (by omega), show L.length - 1 - i = j by omega, ← hjj, hy]
    · rw [if_neg e2, h2 p hp]
      by_cases e3 : p < i ∨ L.length ≤ p + i
      · rw [if_pos e3, if_pos (by omega)]
      · rw [if_neg e3, if_neg (by omega)]
theorem RevTo.done {L l : List Int} {i : Nat} (h : RevTo L i l) (hi : L.length ≤ i + i + 1) : l = L.reverse := by
  obtain ⟨h1, h2⟩ := h
  refine List.ext_getElem? fun p => ?_
  by_cases hp : p < L.length
  · rw [h2 p hp, List.getElem?_reverse hp]
    by_cases e : p < i ∨ L.length ≤ p + i
    · rw [if_pos e]
    · rw [if_neg e, show L.length - 1 - p = p by omega]
  · rw [List.getElem?_eq_none (by omega), List.getElem?_eq_none (by simp; omega)]

set_option maxRecDepth 20000 in
set_option maxHeartbeats 1000000 in
theorem rev_any {w : World} {base g cap : Nat} {L : List Int} (h : numsOwn w base (.slice (some ⟨g, 0, none⟩) L.length cap) L) (hL : L.length ≤ 100000) (hc : L.length ≤ cap) :
    Calls Tryz.prog 77 #[.slice (some ⟨g, 0, none⟩) L.length cap] w fun r w' => r = .returned (.tuple #[]) ∧ numsOwn w' base (.slice (some ⟨g, 0, none⟩) L.length cap) L.reverse ∧ Turns (fun k _ => k = g) w w' := by
  have HH := hide h
  clear h
  have hcc : (L.length : Int) ≤ cap := by omega
  go_enter Tryz.func77, Tryz.ntmps77
  go_wp2_with fail
  go_loopw [2, 3] (fun u v wr => ∃ (i : Nat) (jz : Int) (l : List Int), u = .int .i64 i ∧ v = .int .i64 jz ∧ jz = (L.length : Int) - 1 - i ∧ i ≤ L.length ∧ Hid (RevTo L i l) ∧ Hid (numsOwn wr base (.slice (some ⟨g, 0, none⟩) L.length cap) l) ∧ Hid (Turns (fun k _ => k = g) w wr)) (fun u _ _ => L.length - (intOf u).toNat)
  case atStart => exact ⟨0, (L.length : Int) - 1, L, rfl, rfl, by omega, Nat.zero_le _, hide (RevTo.zero L), HH, hide (Turns.refl _ _)⟩
  case round =>
    obtain ⟨i, jz, l, rfl, rfl, hjz, hi, HR, HO, HT⟩ := hrel
    by_cases hlt : (i : Int) < jz
    · obtain ⟨j, rfl⟩ := Int.eq_ofNat_of_zero_le (show 0 ≤ jz by omega)
      have hij : i < j := by omega
      have hj : i + j + 1 = L.length := by omega
      have hl := HR.out.1
      obtain ⟨x, hx⟩ : ∃ x, l[i]? = some x := ⟨_, List.getElem?_eq_getElem (by omega)⟩
      obtain ⟨y, hy⟩ : ∃ y, l[j]? = some y := ⟨_, List.getElem?_eq_getElem (by omega)⟩
      obtain ⟨ci, zi⟩ := numsOwn_cell HO.out hx
      obtain ⟨cj, zj⟩ := numsOwn_cell HO.out hy
      have HR2 := hide (HR.out.step hij hj hx hy)
      have HO2 := hide (numsOwn_set (numsOwn_set HO.out i y) j x)
      have HT2 := hide (((HT.out.setCell (b := g) (o := i) (.int .i64 y) rfl).setCell (b := g) (o := j) (.int .i64 x) rfl).drew)
      have il : (i : Int) < L.length := by omega
      have jl : (j : Int) < L.length := by omega
      clear HR HO HT hx hy hjz
      go_wp2_with fail
      go_region
      all_goals
        go_wp2_with fail
        go_roundw
        case rel => exact ⟨i + 1, (j : Int) - 1, _, by go_num, by go_num, by omega, by omega, HR2, hide HO2.out, HT2⟩
        case measure => simp [intOf]; omega
    · have HZ := hide (HR.out.done (by omega))
      go_wp2_with fail
      go_end0
      exact ⟨rfl, by rw [← HZ.out]; exact HO.out, HT.out⟩

theorem way_any {w : World} {q : SrPl} {E : List (ByteArray × ByteArray × Int)} {qv : Value} (hw : WsAt q.b q.n q.mo q.fb qv q.see w) (hf : FoundAt w q.fb E) (hk : ∀ x ∈ E, x.1.size ≤ maxLen) (x : ByteArray × Int) (L : List Int) (hb : Back E x L) (hL : L.length ≤ 100000) (h0 : 0 < L.length) :
    Calls Tryz.prog 53 #[.pointer (some ⟨q.b, 0, none⟩), .agg #[.string x.1, .int .i64 x.2]] w fun r w' => ∃ v, r = .returned v ∧ numsOwn w' w.heap.size v L.reverse ∧ Below w.heap.size w w' :=
  way_loop hw hf hk x L hb hL fun v w1 ho hb1 => by
    rcases ho.2 with ⟨-, e0⟩ | ⟨g, cap, cur, rfl, hg, hh, hn, hm, hs, hc⟩
    · omega
    · refine (rev_any ho hL hn).mono ?_
      rintro r w' ⟨rfl, q1, q2⟩
      refine ⟨rfl, ?_, hb1.trans (q2.below hb1.size (fun k o hk e => by omega))⟩
      exact q1

theorem Back.grow {E F : List (ByteArray × ByteArray × Int)} {x : ByteArray × Int} {L : List Int} (h : Back E x L) : Back (E ++ F) x L := by
  induction h with
  | first n => exact .first n
  | step n h1 h2 _ ih => exact .step n h1 (List.mem_append_left _ h2) ih
end Go.Proofs.YtnnlkolhahjokaaGreatDoor

/- WkL -/
namespace Go.Proofs.YtnnlkolhahjokaaGreatDoor
open Go.RowKit Go.Extern.Stop Go.Stop Go.Extern Go.Maps Go.WideMaps Go.Sort

structure Sp where
  E : List (ByteArray × ByteArray × Int)
  ms : List Mk
  s : Int
  e : Int
  L : List Mk
def addSp (cs : List (List Ins)) (mo : Int) (S : Sp) (m : Mk) (x : ByteArray × Int) : Option Sp :=
  if keyIn S.E (keyOf cs.length m) = true then some S
  else if (S.E.length : Int) = mo then none
  else some ⟨S.E ++ [(keyOf cs.length m, x)], S.ms ++ [m], S.s + 1, endN S.e (endTo cs m cs.length), S.L ++ [m]⟩
inductive SpEnd
  | fault (x : ByteArray × Int)
  | bound
  | go
def spreadO (cs : List (List Ins)) (mo : Int) (m : Mk) : Nat → Nat → Sp → SpEnd × Sp
  | 0, _, S => (.go, S)
  | k + 1, n, S =>
    if okN (m.turnO cs n).1 = 0 then spreadO cs mo m k (n + 1) S
    else if 0 < (m.turnO cs n).2.faults then (.fault (keyOf cs.length m, n), S)
    else match addSp cs mo S (m.turnO cs n).2 (keyOf cs.length m, n) with
      | none => (.bound, S)
      | some S' => spreadO cs mo m k (n + 1) S'
def searchO (cs : List (List Ins)) (mo : Int) (N : Nat) : Nat → Sp → SpEnd × Sp
  | 0, S => (.go, S)
  | f + 1, S => match S.ms with
    | [] => (.go, S)
    | m :: l => match spreadO cs mo m N 0 { S with ms := l } with
      | (.go, S') => searchO cs mo N f S'
      | r => r

def aheadV (F : List (MkPl × Mk)) : List Value := F.map fun x => .pointer (some ⟨x.1.b, 0, none⟩)

structure SpAt (a : Nat → Addr) (cs : List (List Ins)) (B : Nat) (q : SrPl) (S : Sp) (qv : Sq) (F : List (MkPl × Mk)) (w : World) : Prop where
  sr : SrAt B cs.length q S.E qv (aheadV F) S.s S.e w
  ms : F.map (·.2) = S.ms
  at' : ∀ x ∈ F, x.1.B = B ∧ MkAt a cs x.1 x.2 w ∧ ∀ k, x.1.fp k → ¬ q.fp qv k
  apart : F.Pairwise fun x y => ∀ k, x.1.fp k → ¬ y.1.fp k
  so : SeerOk a cs q.se
  keys : S.E.map (·.1) = qv.L.map (keyOf cs.length)
  sl : S.L = qv.L

theorem SpAt.turns {a : Nat → Addr} {cs : List (List Ins)} {B : Nat} {q : SrPl} {S : Sp} {qv : Sq} {F : List (MkPl × Mk)} {w w' : World} {T : Nat → Nat → Prop} (h : SpAt a cs B q S qv F w) (t : Turns T w w') (hq : ∀ k o, T k o → ¬ q.fp qv k) (hF : ∀ x ∈ F, ∀ k o, T k o → ¬ x.1.fp k) (hB : ∀ k o, T k o → B ≤ k) : SpAt a cs B q S qv F w' where
  sr := h.sr.turns t hq hB
  ms := h.ms
  at' x hx := by
    obtain ⟨h1, h2, h3⟩ := h.at' x hx
    exact ⟨h1, h2.turns t (hF x hx) (by rw [h1]; exact hB), h3⟩
  apart := h.apart
  so := h.so
  keys := h.keys
  sl := h.sl
theorem SpAt.below {a : Nat → Addr} {cs : List (List Ins)} {B : Nat} {q : SrPl} {S : Sp} {qv : Sq} {F : List (MkPl × Mk)} {w w' : World} (h : SpAt a cs B q S qv F w) (k : Below w.heap.size w w') : SpAt a cs B q S qv F w' :=
  h.turns (T := fun _ _ => False) (Turns.of_below k) (fun _ _ h => h.elim) (fun _ _ _ _ h => h.elim) (fun _ _ h => h.elim)

theorem MkAt.searched {a : Nat → Addr} {cs : List (List Ins)} {p : MkPl} {m : Mk} {nc B' : Nat} {q : SrPl} {E E' : List (ByteArray × ByteArray × Int)} {qv qv' : Sq} {l l' : List Value} {s e s' e' : Int} {w w' : World} (h : MkAt a cs p m w) (so : SeerOk a cs q.se) (hs : SrAt p.B nc q E qv l s e w) (hs' : SrAt B' nc q E' qv' l' s' e' w') (t : Turns (fun k _ => q.fp qv k) w w') (hd : ∀ k, p.fp k → ¬ q.fp qv k) : MkAt a cs p m w' :=
  h.turnsX t (fun k _ hk hp => hd k hp hk) (fun _ _ hk => hs.geX hk) (fun k e => (so.box hs.si k e).2) (fun k e => (so.box hs'.si k e).2)

def AddPost (a : Nat → Addr) (cs : List (List Ins)) (B : Nat) (q : SrPl) (qv : Sq) (F : List (MkPl × Mk)) (p : MkPl) (m : Mk) (w : World) (r : Ending) (w' : World) : Option Sp → Prop
  | none => r = .returned (errAt (a 1)) ∧ Below w.heap.size w w'
  | some S' => r = .returned .nilIface ∧ ∃ (qv' : Sq) (F' : List (MkPl × Mk)), SpAt a cs B q S' qv' F' w' ∧ Turns (fun k _ => q.fp qv k) w w' ∧ (∀ k, q.fp qv' k → q.fp qv k ∨ w.heap.size ≤ k) ∧ (F' = F ∨ F' = F ++ [(p, m)])

theorem wadd_any {a : Nat → Addr} {cs : List (List Ins)} {p : MkPl} {m : Mk} {w : World} {q : SrPl} {S : Sp} {qv : Sq} {F : List (MkPl × Mk)} (h5 : m.marks.length ≤ 500) (h : MkAt a cs p m w) (hs : SpAt a cs p.B q S qv F w) (hd : ∀ k, p.fp k → ¬ q.fp qv k) (hF : ∀ x ∈ F, ∀ k, x.1.fp k → ¬ p.fp k) (h1 : 1 ≤ cs.length) (hk : KeyOk cs.length m) (x : ByteArray × Int)
    (hE : S.E.length ≤ 100000) (hl : F.length ≤ 100000) (hse : (0 ≤ S.s ∧ S.s ≤ 1000000) ∧ (0 ≤ S.e ∧ S.e ≤ 1000000)) :
    Calls Tryz.prog 38 #[.pointer (some ⟨q.b, 0, none⟩), .pointer (some ⟨p.b, 0, none⟩), .agg #[.string x.1, .int .i64 x.2]] w fun r w' => AddPost a cs p.B q qv F p m w r w' (addSp cs q.mo S m x) := by
  unfold addSp
  cases hin : keyIn S.E (keyOf cs.length m) with
  | true =>
    rw [if_pos rfl]
    refine (add_old h hs.sr h1 hk x hin).mono ?_
    rintro r w' ⟨rfl, hb⟩
    exact ⟨rfl, qv, F, hs.below hb, Turns.of_below hb, fun k hk => .inl hk, .inl rfl⟩
  | false =>
    rw [if_neg (by decide)]
    by_cases hmo : (S.E.length : Int) = q.mo
    · rw [if_pos hmo]
      exact add_more h hs.sr h1 hk x hin hmo
    · rw [if_neg hmo]
      refine (add_new hs.so h5 (by have := congrArg List.length hs.keys; rw [List.length_map, List.length_map] at this; omega) h hs.sr hd h1 hk x hE (by unfold aheadV; rw [List.length_map]; exact hl) hse hin hmo).mono ?_
      rintro r w' ⟨rfl, qv', hs', ht, hfp, hqL⟩
      refine ⟨rfl, qv', F ++ [(p, m)], ⟨?_, ?_, fun y hy => ?_, ?_, hs.so, ?_, ?_⟩, ht, hfp, .inr rfl⟩
      · unfold aheadV at hs' ⊢
        rw [List.map_append]
        exact hs'
      · rw [List.map_append, hs.ms]; rfl
      · rcases List.mem_append.1 hy with hy | hy
        · obtain ⟨g1, g2, g3⟩ := hs.at' y hy
          refine ⟨g1, g2.searched hs.so (by rw [g1]; exact hs.sr) hs' ht g3, fun k hp hk => ?_⟩
          rcases hfp k hk with e | e
          · exact g3 k hp e
          · have := g2.fp_lt hp; omega
        · obtain rfl : y = (p, m) := by simpa using hy
          refine ⟨rfl, h.searched hs.so hs.sr hs' ht hd, fun k hp hk => ?_⟩
          rcases hfp k hk with e | e
          · exact hd k hp e
          · have := h.fp_lt hp; omega
      · refine List.pairwise_append.2 ⟨hs.apart, List.pairwise_singleton _ _, fun y hy z hz => ?_⟩
        obtain rfl : z = (p, m) := by simpa using hz
        exact hF y hy
      · show (S.E ++ [(keyOf cs.length m, x)]).map (·.1) = _
        rw [hqL, List.map_append, List.map_append, hs.keys]; rfl
      · rw [hqL, ← hs.sl]
end Go.Proofs.YtnnlkolhahjokaaGreatDoor
