import Derived.Test.YtilmhhnllelpaaaGreatDoorB28
import Derived.Test.YtilmhhnllelpaaaGreatDoorB23
import Derived.Test.YtilmhhnllelpaaaGreatDoorB24

/- WkL -/
namespace Go.Proofs.YtilmhhnllelpaaaGreatDoor
open Go.RowKit Go.Extern.Stop Go.Stop Go.Extern Go.Maps Go.WideMaps Go.Sort

structure Sp where
  E : List (ByteArray × ByteArray × Int)
  ms : List Mk
  s : Int
  e : Int
def addO (cs : List (List Ins)) (mo : Int) (S : Sp) (m : Mk) (x : ByteArray × Int) : Option Sp :=
  if keyIn S.E (keyOf cs.length m) = true then some S
  else if (S.E.length : Int) = mo then none
  else some ⟨S.E ++ [(keyOf cs.length m, x)], S.ms ++ [m], S.s + 1, endN S.e (endTo cs m cs.length)⟩
inductive SpEnd
  | fault (x : ByteArray × Int)
  | bound
  | go
def spreadO (cs : List (List Ins)) (mo : Int) (m : Mk) : Nat → Nat → Sp → SpEnd × Sp
  | 0, _, S => (.go, S)
  | k + 1, n, S =>
    if okN (m.turnO cs n).1 = 0 then spreadO cs mo m k (n + 1) S
    else if 0 < (m.turnO cs n).2.faults then (.fault (keyOf cs.length m, n), S)
    else match addO cs mo S (m.turnO cs n).2 (keyOf cs.length m, n) with
      | none => (.bound, S)
      | some S' => spreadO cs mo m k (n + 1) S'
def searchO (cs : List (List Ins)) (mo : Int) (N : Nat) : Nat → Sp → SpEnd × Sp
  | 0, S => (.go, S)
  | f + 1, S => match S.ms with
    | [] => (.go, S)
    | m :: l => match spreadO cs mo m N 0 { S with ms := l } with
      | (.go, S') => searchO cs mo N f S'
      | r => r

def aheadV (F : List (MkPl × Mk)) : List Value := F.map fun x => .pointer (some ⟨x.1.b, 0, none⟩)

structure SpAt (a : Nat → Addr) (cs : List (List Ins)) (B : Nat) (q : SrPl) (S : Sp) (qv : Value) (F : List (MkPl × Mk)) (w : World) : Prop where
  sr : SrAt B cs.length q S.E qv (aheadV F) S.s S.e w
  ms : F.map (·.2) = S.ms
  at' : ∀ x ∈ F, x.1.B = B ∧ MkAt a cs x.1 x.2 w ∧ ∀ k, x.1.fp k → ¬ q.fp qv k
  apart : F.Pairwise fun x y => ∀ k, x.1.fp k → ¬ y.1.fp k

theorem SpAt.turns {a : Nat → Addr} {cs : List (List Ins)} {B : Nat} {q : SrPl} {S : Sp} {qv : Value} {F : List (MkPl × Mk)} {w w' : World} {T : Nat → Nat → Prop} (h : SpAt a cs B q S qv F w) (t : Turns T w w') (hq : ∀ k o, T k o → ¬ q.fp qv k) (hF : ∀ x ∈ F, ∀ k o, T k o → ¬ x.1.fp k) (hB : ∀ k o, T k o → B ≤ k) : SpAt a cs B q S qv F w' where
  sr := h.sr.turns t hq hB
  ms := h.ms
  at' x hx := by
    obtain ⟨h1, h2, h3⟩ := h.at' x hx
    exact ⟨h1, h2.turns t (hF x hx) (by rw [h1]; exact hB), h3⟩
  apart := h.apart
theorem SpAt.below {a : Nat → Addr} {cs : List (List Ins)} {B : Nat} {q : SrPl} {S : Sp} {qv : Value} {F : List (MkPl × Mk)} {w w' : World} (h : SpAt a cs B q S qv F w) (k : Below w.heap.size w w') : SpAt a cs B q S qv F w' :=
  h.turns (T := fun _ _ => False) (Turns.of_below k) (fun _ _ h => h.elim) (fun _ _ _ _ h => h.elim) (fun _ _ h => h.elim)

def AddPost (a : Nat → Addr) (cs : List (List Ins)) (B : Nat) (q : SrPl) (qv : Value) (F : List (MkPl × Mk)) (p : MkPl) (m : Mk) (w : World) (r : Ending) (w' : World) : Option Sp → Prop
  | none => r = .returned (errAt (a 1)) ∧ Below w.heap.size w w'
  | some S' => r = .returned .nilIface ∧ ∃ qv' F', SpAt a cs B q S' qv' F' w' ∧ Turns (fun k _ => q.fp qv k) w w' ∧ (∀ k, q.fp qv' k → q.fp qv k ∨ w.heap.size ≤ k) ∧ (F' = F ∨ F' = F ++ [(p, m)])

theorem wadd_any {a : Nat → Addr} {cs : List (List Ins)} {p : MkPl} {m : Mk} {w : World} {q : SrPl} {S : Sp} {qv : Value} {F : List (MkPl × Mk)} (h : MkAt a cs p m w) (hs : SpAt a cs p.B q S qv F w) (hd : ∀ k, p.fp k → ¬ q.fp qv k) (hF : ∀ x ∈ F, ∀ k, x.1.fp k → ¬ p.fp k) (h1 : 1 ≤ cs.length) (hk : KeyOk cs.length m) (x : ByteArray × Int)
    (hE : S.E.length ≤ 100000) (hl : F.length ≤ 100000) (hse : (0 ≤ S.s ∧ S.s ≤ 1000000) ∧ (0 ≤ S.e ∧ S.e ≤ 1000000)) :
    Calls Tryz.prog 25 #[.pointer (some ⟨q.b, 0, none⟩), .pointer (some ⟨p.b, 0, none⟩), .agg #[.string x.1, .int .i64 x.2]] w fun r w' => AddPost a cs p.B q qv F p m w r w' (addO cs q.mo S m x) := by
  unfold addO
  cases hin : keyIn S.E (keyOf cs.length m) with
  | true =>
    rw [if_pos rfl]
    refine (add_old h hs.sr h1 hk x hin).mono ?_
    rintro r w' ⟨rfl, hb⟩
    exact ⟨rfl, qv, F, hs.below hb, Turns.of_below hb, fun k hk => .inl hk, .inl rfl⟩
  | false =>
    rw [if_neg (by decide)]
    by_cases hmo : (S.E.length : Int) = q.mo
    · rw [if_pos hmo]
      exact add_more h hs.sr h1 hk x hin hmo
    · rw [if_neg hmo]
      refine (add_new h hs.sr hd h1 hk x hE (by unfold aheadV; rw [List.length_map]; exact hl) hse hin hmo).mono ?_
      rintro r w' ⟨rfl, qv', hs', ht, hv⟩
      have hfp : ∀ k, q.fp qv' k → q.fp qv k ∨ w.heap.size ≤ k := fun k hk => by
        rcases hk with e | e | e | e
        · exact .inl (.inl e)
        · exact .inl (.inr (.inl e))
        · exact .inl (.inr (.inr (.inl e)))
        · exact (hv k e).imp (fun e => .inr (.inr (.inr e))) id
      refine ⟨rfl, qv', F ++ [(p, m)], ⟨?_, ?_, fun y hy => ?_, ?_⟩, ht, hfp, .inr rfl⟩
      · unfold aheadV at hs' ⊢
        rw [List.map_append]
        exact hs'
      · rw [List.map_append, hs.ms]; rfl
      · rcases List.mem_append.1 hy with hy | hy
        · obtain ⟨g1, g2, g3⟩ := hs.at' y hy
          refine ⟨g1, g2.turns ht (fun k _ hk hp => g3 k hp hk) (fun k _ hk => by rw [g1]; exact hs.sr.ge hk), fun k hp hk => ?_⟩
          rcases hfp k hk with e | e
          · exact g3 k hp e
          · have := g2.fp_lt hp; omega
        · obtain rfl : y = (p, m) := by simpa using hy
          refine ⟨rfl, h.turns ht (fun k _ hk hp => hd k hp hk) (fun k _ hk => hs.sr.ge hk), fun k hp hk => ?_⟩
          rcases hfp k hk with e | e
          · exact hd k hp e
          · have := h.fp_lt hp; omega
      · refine List.pairwise_append.2 ⟨hs.apart, List.pairwise_singleton _ _, fun y hy z hz => ?_⟩
        obtain rfl : z = (p, m) := by simpa using hz
        exact hF y hy
end Go.Proofs.YtilmhhnllelpaaaGreatDoor

/- StA -/
namespace Go.Proofs.YtilmhhnllelpaaaGreatDoor
open Go.RowKit

structure Sta where
  cells : Int
  init : List (List Int)
  regs : List (List Int)

def wordOk (x : Int) : Bool := decide (0 ≤ x ∧ x < 4294967296)
def rowOk (longest : Nat) (row : List Int) : Bool := decide (row.length ≤ longest) && row.all wordOk
def rowsOk (longest : Nat) (R : List (List Int)) : Bool := R.all (rowOk longest)
noncomputable def codesFrom : Nat → List (List Ins) → Nat × Int
  | _, [] => (0, -1)
  | i, L :: cs => if (codeFault L).1 = 0 then codesFrom (i + 1) cs else ((codeFault L).1, i)
def Sta.fits (s : Sta) (n : Nat) : Bool := (decide ((s.init.length : Int) ≤ s.cells) && rowsOk 4 s.init) && (decide (s.regs.length ≤ n) && rowsOk 8 s.regs)
open Classical in
noncomputable def Sta.fault (s : Sta) (cs : List (List Ins)) : Nat × Int :=
  if 1 ≤ s.cells ∧ s.cells ≤ 64 ∧ 1 ≤ cs.length ∧ cs.length ≤ 6 ∧ s.fits cs.length = true then codesFrom 0 cs else (2, -1)

theorem codesFrom_none : ∀ (cs : List (List Ins)) (i : Nat), (∀ (t : Nat) L, cs[t]? = some L → (codeFault L).1 = 0) → codesFrom i cs = (0, -1)
  | [], _, _ => rfl
  | L :: cs, i, h => by
    unfold codesFrom
    rw [if_pos (h 0 L rfl)]
    exact codesFrom_none cs (i + 1) (fun t L' ht => h (t + 1) L' (by simpa using ht))
theorem codesFrom_hit : ∀ (cs : List (List Ins)) (i j : Nat) (L : List Ins), cs[j]? = some L → (codeFault L).1 ≠ 0 → (∀ (t : Nat) L', t < j → cs[t]? = some L' → (codeFault L').1 = 0) → codesFrom i cs = ((codeFault L).1, ((i + j : Nat) : Int))
  | [], _, _, _, h, _, _ => by simp at h
  | M :: cs, i, j, L, hL, h1, h2 => by
    unfold codesFrom
    cases j with
    | zero => simp at hL; subst hL; rw [if_neg h1]; rfl
    | succ j =>
      rw [if_pos (h2 0 M (by omega) rfl), codesFrom_hit cs (i + 1) j L (by simpa using hL) h1 (fun t L' ht hl => h2 (t + 1) L' (by omega) (by simpa using hl))]
      rw [show i + 1 + j = i + (j + 1) by omega]

theorem faultFrom_zero (l : List Ins) : ∀ (r : List Ins) (j : Nat), (faultFrom l j r).1 = 0 → ∀ (k : Nat) x, r[k]? = some x → insFault l (j + k) x = 0
  | [], _, _, k, x, hx => by simp at hx
  | y :: r, j, h, k, x, hx => by
    unfold faultFrom at h
    split at h
    · rename_i h0
      cases k with
      | zero => simp at hx; subst hx; exact h0
      | succ k => rw [show j + (k + 1) = j + 1 + k by omega]; exact faultFrom_zero l r (j + 1) h k x (by simpa using hx)
    · rename_i h0; exact absurd h h0
theorem insOk_of {L : List Ins} {i : Nat} {x : Ins} (h : insFault L i x = 0) : InsOk L x := by
  unfold insFault at h
  split at h
  · rename_i h0; exact absurd h h0
  · rename_i h0
    split at h
    · cases h
    · split at h
      · cases h
      · rename_i h2
        refine ⟨by simpa using h0, fun ht => ?_⟩
        rcases Int.lt_or_le (labelAt L x.to) 0 with h3 | h3
        · exact absurd ⟨ht, h3⟩ h2
        · exact h3
theorem codeFault_right {L : List Ins} (h : (codeFault L).1 = 0) : L.length ≤ 2000 ∧ ∀ (i : Nat) x, L[i]? = some x → InsOk L x := by
  unfold codeFault at h
  split at h
  · cases h
  · rename_i hl
    exact ⟨by omega, fun i x hx => insOk_of (by simpa using faultFrom_zero L L 0 h i x hx)⟩
theorem codesFrom_zero : ∀ (cs : List (List Ins)) (i : Nat), (codesFrom i cs).1 = 0 → ∀ (t : Nat) L, cs[t]? = some L → (codeFault L).1 = 0
  | [], _, _, t, L, h => by simp at h
  | M :: cs, i, h, t, L, ht => by
    unfold codesFrom at h
    split at h
    · rename_i h0
      cases t with
      | zero => simp at ht; subst ht; exact h0
      | succ t => exact codesFrom_zero cs (i + 1) h t L (by simpa using ht)
    · rename_i h0; exact absurd h h0
theorem right_of {cs : List (List Ins)} (h : ∀ (t : Nat) L, cs[t]? = some L → (codeFault L).1 = 0) (h1 : 1 ≤ cs.length) (h6 : cs.length ≤ 6) (hs : ∀ (t : Nat) L, cs[t]? = some L → ∀ (i : Nat) x, L[i]? = some x → x.to.size ≤ maxLen) : Right cs where
  right t L ht := by
    obtain ⟨h2, h3⟩ := codeFault_right (h t L ht)
    exact ⟨h2, fun i x hx => ⟨h3 i x hx, hs t L ht i x hx⟩⟩
  few := h6
  some' := h1

def rowAt (R : List (List Int)) (t r : Nat) : Int := (R.getD t []).getD r 0
def Ar.filled (s : Ar) (R : List (List Int)) : Ar where
  size := s.size
  given c := if c < R.length then 1 else s.given c
  there c := if c < R.length then true else s.there c
  words c k := if c < R.length ∧ k < 4 then rowAt R c k else s.words c k
def Sta.mach (s : Sta) (n : Nat) : Mk where
  mem := { Rm.fresh s.cells.toNat n with ar := (Rm.fresh s.cells.toNat n).ar.filled s.init }
  regs t r := rowAt s.regs t r
  pc _ := 0
  marks := []
  faults := 0
end Go.Proofs.YtilmhhnllelpaaaGreatDoor

/- StB -/
namespace Go.Proofs.YtilmhhnllelpaaaGreatDoor
open Go.RowKit Go.Extern.Stop Go.Stop Go.Extern Go.Maps Go.WideMaps Go.Sort

def rowsAt (ad : Option Addr) (R : List (List Int)) (w : World) : Prop := ∀ (i : Nat) row, R[i]? = some row → ∃ b off adr cap, ad = some ⟨b, off, none⟩ ∧ w.cell? ⟨b, off + i, none⟩ = some (.slice adr row.length cap) ∧ row.length ≤ cap ∧ numsAt adr row w
theorem rowsAt.below {ad : Option Addr} {R : List (List Int)} {w w' : World} (h : rowsAt ad R w) (hb : Below w.heap.size w w') : rowsAt ad R w' := fun i row hr => by
  obtain ⟨b, off, adr, cap, h1, h2, h3, h4⟩ := h i row hr
  exact ⟨b, off, adr, cap, h1, keep_cell hb h2, h3, h4.below hb⟩

theorem all_hit {α : Type} {f : α → Bool} {l : List α} {j : Nat} {x : α} (hx : l[j]? = some x) (h : f x = false) : l.all f = false := by
  cases hb : l.all f with
  | false => rfl
  | true => rw [List.all_eq_true] at hb; rw [hb x (List.mem_of_getElem? hx)] at h; cases h
theorem all_done {α : Type} {f : α → Bool} {l : List α} (h : ∀ (k : Nat) x, k < l.length → l[k]? = some x → f x = true) : l.all f = true := by
  rw [List.all_eq_true]
  intro x hx
  obtain ⟨k, hk, rfl⟩ := List.getElem_of_mem hx
  exact h k _ hk (List.getElem?_eq_getElem hk)

set_option maxRecDepth 20000 in
set_option maxHeartbeats 1000000 in
theorem allWords_any {ad : Option Addr} {l : List Int} {cap : Nat} {w : World} (hl : numsAt ad l w) (hlen : l.length ≤ 9223372036854775807) :
    Calls Tryz.prog 42 #[.slice ad l.length cap] w fun e w' => e = .returned (.bool (l.all wordOk)) ∧ w' = w := by
  have HL := hide hl
  clear hl
  go_enter Tryz.func42, Tryz.ntmps42
  go_wp2_with fail
  go_loopw [4, 7] (fun _ i wr => ∃ j : Nat, j ≤ l.length ∧ i = .int .i64 j ∧ wr = w ∧ Hid (∀ (k : Nat) x, k < j → l[k]? = some x → wordOk x = true)) (fun _ i _ => l.length - (intOf i).toNat)
  case atStart => exact ⟨0, Nat.zero_le _, rfl, rfl, fun k x h => absurd h (Nat.not_lt_zero _)⟩
  case round =>
    obtain ⟨j, hj, rfl, rfl, HJ⟩ := hrel
    by_cases hlt : j < l.length
    · obtain ⟨x, hx⟩ : ∃ x, l[j]? = some x := ⟨_, List.getElem?_eq_getElem hlt⟩
      obtain ⟨b, off, rfl, c0⟩ := HL.out j x hx
      have ji : (j : Int) < l.length := by omega
      by_cases h1 : x < 0
      · have HR : Hid (l.all wordOk = false) := all_hit hx (decide_eq_false (by omega))
        clear HL HJ hx
        go_wp2
        go_ret
        exact ⟨by rw [HR.out]; rfl, rfl⟩
      · by_cases h2 : 4294967295 < x
        · have HR : Hid (l.all wordOk = false) := all_hit hx (decide_eq_false (by omega))
          clear HL HJ hx
          go_wp2
          go_ret
          exact ⟨by rw [HR.out]; rfl, rfl⟩
        · have HR : Hid (∀ (k : Nat) x, k < j + 1 → l[k]? = some x → wordOk x = true) := fun k y hk hy => by
            by_cases e : k = j
            · subst e; rw [hx] at hy; cases hy; exact decide_eq_true (by omega)
            · exact HJ.out k y (by omega) hy
          clear HL HJ hx
          go_wp2
          go_roundw
          case rel => exact ⟨j + 1, by omega, by go_num, by first | trivial | rfl, HR⟩
          case measure => simp [intOf]; omega
    · obtain rfl : j = l.length := by omega
      have HR : Hid (l.all wordOk = true) := all_done HJ.out
      clear HL HJ
      go_wp2
      go_ret
      exact ⟨by rw [HR.out]; rfl, rfl⟩

set_option maxRecDepth 20000 in
set_option maxHeartbeats 1000000 in
theorem rowsFit_any {ad : Option Addr} {R : List (List Int)} {cap : Nat} {w : World} (hl : rowsAt ad R w) (hlen : ∀ (i : Nat) row, R[i]? = some row → row.length ≤ 9223372036854775807) (hR : R.length ≤ 9223372036854775807) (most : Int) (longest : Nat) :
    Calls Tryz.prog 28 #[.slice ad R.length cap, .int .i64 most, .int .i64 longest] w fun e w' => e = .returned (.bool (decide ((R.length : Int) ≤ most) && rowsOk longest R)) ∧ w' = w := by
  have HL := hide hl
  have HN := hide hlen
  clear hl hlen
  by_cases hm : (R.length : Int) ≤ most
  · rw [decide_eq_true hm]
    have hm' : decide (most < (R.length : Int)) = false := by simp; omega
    rw [Bool.true_and]
    go_enter Tryz.func28, Tryz.ntmps28
    go_wp2_with fail
    go_loopw [8, 15] (fun _ i wr => ∃ j : Nat, j ≤ R.length ∧ i = .int .i64 j ∧ wr = w ∧ Hid (∀ (k : Nat) x, k < j → R[k]? = some x → rowOk longest x = true)) (fun _ i _ => R.length - (intOf i).toNat)
    case atStart => exact ⟨0, Nat.zero_le _, rfl, rfl, fun k x h => absurd h (Nat.not_lt_zero _)⟩
    case round =>
      obtain ⟨j, hj, rfl, rfl, HJ⟩ := hrel
      by_cases hlt : j < R.length
      · obtain ⟨row, hx⟩ : ∃ x, R[j]? = some x := ⟨_, List.getElem?_eq_getElem hlt⟩
        obtain ⟨b, off, adr, capr, rfl, c0, hcp, hnr⟩ := HL.out j row hx
        have hrl := HN.out j row hx
        have HA := hide (allWords_any (cap := capr) hnr hrl)
        have ji : (j : Int) < R.length := by omega
        by_cases h1 : row.length ≤ longest
        · have h1' : (row.length : Int) ≤ longest := by omega
          have h1d : decide ((longest : Int) < row.length) = false := by simp; omega
          cases hwo : row.all wordOk with
          | false =>
            have HR : Hid (rowsOk longest R = false) := all_hit hx (by unfold rowOk; rw [hwo, Bool.and_false])
            rw [hwo] at HA
            clear HL HN HJ hx hnr
            go_wp2_with fail
            refine HA.out.mono ?_
            rintro e w1 ⟨rfl, rfl⟩
            go_wp2
            go_ret
            exact ⟨by rw [HR.out]; rfl, rfl⟩
          | true =>
            have HR : Hid (∀ (k : Nat) x, k < j + 1 → R[k]? = some x → rowOk longest x = true) := fun k y hk hy => by
              by_cases e : k = j
              · subst e; rw [hx] at hy; cases hy; unfold rowOk; rw [hwo, decide_eq_true h1]; rfl
              · exact HJ.out k y (by omega) hy
            rw [hwo] at HA
            clear HL HN HJ hx hnr
            go_wp2_with fail
            refine HA.out.mono ?_
            rintro e w1 ⟨rfl, rfl⟩
            go_wp2
            go_roundw
            case rel => exact ⟨j + 1, by omega, by go_num, by first | trivial | rfl, HR⟩
            case measure => simp [intOf]; omega
        · have HR : Hid (rowsOk longest R = false) := all_hit hx (by unfold rowOk; rw [decide_eq_false h1, Bool.false_and])
          have h1' : ¬ (row.length : Int) ≤ longest := by omega
          have h1d : decide ((longest : Int) < row.length) = true := by simp; omega
          clear HL HN HJ hx HA hnr
          go_wp2
          go_ret
          exact ⟨by rw [HR.out]; rfl, rfl⟩
      · obtain rfl : j = R.length := by omega
        have HR : Hid (rowsOk longest R = true) := all_done HJ.out
        clear HL HN HJ
        go_wp2
        go_ret
        exact ⟨by rw [HR.out]; rfl, rfl⟩
  · rw [decide_eq_false hm, Bool.false_and]
    have hm2 : most < (R.length : Int) := by omega
    have hm' : decide (most < (R.length : Int)) = true := by simp; omega
    clear HL HN
    go_enter Tryz.func28, Tryz.ntmps28
    go_wp2
    go_ret
    exact ⟨rfl, rfl⟩

structure StaPl where
  ai : Option Addr
  ci : Nat
  ar : Option Addr
  cr : Nat
def Sta.val (s : Sta) (q : StaPl) : Value := .agg #[.int .i64 s.cells, .slice q.ai s.init.length q.ci, .slice q.ar s.regs.length q.cr]
structure StaAt (s : Sta) (q : StaPl) (w : World) : Prop where
  init : rowsAt q.ai s.init w
  regs : rowsAt q.ar s.regs w
  ci : s.init.length ≤ q.ci
  cr : s.regs.length ≤ q.cr
  li : s.init.length ≤ 9223372036854775807
  lr : s.regs.length ≤ 9223372036854775807
  ri : ∀ (i : Nat) row, s.init[i]? = some row → row.length ≤ 9223372036854775807
  rr : ∀ (i : Nat) row, s.regs[i]? = some row → row.length ≤ 9223372036854775807
theorem StaAt.below {s : Sta} {q : StaPl} {w w' : World} (h : StaAt s q w) (hb : Below w.heap.size w w') : StaAt s q w' := ⟨h.init.below hb, h.regs.below hb, h.ci, h.cr, h.li, h.lr, h.ri, h.rr⟩

set_option maxRecDepth 20000 in
set_option maxHeartbeats 1000000 in
theorem sfits_any {s : Sta} {q : StaPl} {w : World} (h : StaAt s q w) (n : Nat) :
    Calls Tryz.prog 18 #[s.val q, .int .i64 n] w fun e w' => e = .returned (.bool (s.fits n)) ∧ Below w.heap.size w w' := by
  have hba : Below w.heap.size w (w.alloc (.cells #[.int .i64 s.cells, .slice q.ai s.init.length q.ci, .slice q.ar s.regs.length q.cr] 35)) := (Below.refl _ _).alloc (Nat.le_refl _) _
  have h' := h.below hba
  have H1 := hide (rowsFit_any (cap := q.ci) h'.init h'.ri h.li s.cells 4)
  have H2 := hide (rowsFit_any (cap := q.cr) h'.regs h'.rr h.lr n 8)
  have e0 : (w.alloc (.cells #[.int .i64 s.cells, .slice q.ai s.init.length q.ci, .slice q.ar s.regs.length q.cr] 35)).cell? ⟨w.heap.size, 0, none⟩ = some (.int .i64 s.cells) := by simp
  have e1 : (w.alloc (.cells #[.int .i64 s.cells, .slice q.ai s.init.length q.ci, .slice q.ar s.regs.length q.cr] 35)).cell? ⟨w.heap.size, 1, none⟩ = some (.slice q.ai s.init.length q.ci) := by simp
  have e2 : (w.alloc (.cells #[.int .i64 s.cells, .slice q.ai s.init.length q.ci, .slice q.ar s.regs.length q.cr] 35)).cell? ⟨w.heap.size, 2, none⟩ = some (.slice q.ar s.regs.length q.cr) := by simp
  have HF : Hid (s.fits n = ((decide ((s.init.length : Int) ≤ s.cells) && rowsOk 4 s.init) && (decide ((s.regs.length : Int) ≤ n) && rowsOk 8 s.regs))) := by
    show _ = _
    unfold Sta.fits
    congr 2
    simp
  rw [HF.out]
  clear h h' HF
  unfold Sta.val
  generalize (decide ((s.init.length : Int) ≤ s.cells) && rowsOk 4 s.init) = c1 at *
  generalize (decide ((s.regs.length : Int) ≤ n) && rowsOk 8 s.regs) = c2 at *
  generalize hw : w.alloc (.cells #[.int .i64 s.cells, .slice q.ai s.init.length q.ci, .slice q.ar s.regs.length q.cr] 35) = W at *
  cases c1 with
  | false =>
    go_enter Tryz.func18, Tryz.ntmps18
    go_wp2_with fail
    clear hw
    refine H1.out.mono ?_
    rintro e w1 ⟨rfl, rfl⟩
    go_wp2
    go_ret
    exact ⟨rfl, hba⟩
  | true =>
    go_enter Tryz.func18, Tryz.ntmps18
    go_wp2_with fail
    clear hw
    refine H1.out.mono ?_
    rintro e w1 ⟨rfl, rfl⟩
    go_wp2_with fail
    refine H2.out.mono ?_
    rintro e w2 ⟨rfl, rfl⟩
    go_wp2
    go_ret
    exact ⟨by simp, hba⟩
end Go.Proofs.YtilmhhnllelpaaaGreatDoor
