import Derived.Test.YtgmokighfgdnjaaGreatDoorB31
import Derived.Test.YtgmokighfgdnjaaGreatDoorB10
import Derived.Test.YtgmokighfgdnjaaGreatDoorB25

/- GcR -/
namespace Go.Proofs.YtgmokighfgdnjaaGreatDoor
open Go.RowKit

structure Cs where
  w : Bool
  tm : Nat
  rd : Nat
  ns : Bool
def Cs.dp (c : Cs) : Nat := if c.ns = true then 3 else 1
def pq (a : Nat) : ByteArray := ⟨#[113, UInt8.ofNat (48 + a / 10), UInt8.ofNat (48 + a % 10)]⟩
def sect (dp rd a : Nat) : List (Tg × Nat) := (List.range dp).map (fun k => (Tg.enter, a + k + 1)) ++ ([(.get, 0)] ++ (List.replicate rd (.read, 0) ++ ((List.range dp).map (fun k => (Tg.leave, a + dp + k + 1)) ++ [(.rest, a + 2 * dp + 1)])))
def rdTo (dp rd i : Nat) : List (Tg × Nat) := (List.range i).flatMap fun j => sect dp rd (j * (2 * dp + 1))
def wrOne (wt : Bool) (j : Nat) : List (Tg × Nat) := if wt = true then [(.new ((j : Int) + 2), 0), (.pub, 0), (.wait, j + 1), (.free, 0)] else [(.new ((j : Int) + 2), 0), (.pub, 0), (.free, 0)]
def wrTo (wt : Bool) (i : Nat) : List (Tg × Nat) := (List.range i).flatMap fun j => wrOne wt j
def Cs.segs (c : Cs) (wt : Bool) : List (Tg × Nat) := if c.w = true then wrTo wt c.tm ++ [(.gone, if wt = true then c.tm + 1 else 1)] else rdTo c.dp c.rd c.tm ++ [(.gone, c.tm * (2 * c.dp + 1) + 1)]
def nm (l : List (Tg × Nat)) : List (Tg × ByteArray) := l.map fun x => (x.1, pq x.2)
def Cs.pr (c : Cs) : List (Tg × ByteArray) := nm (c.segs true)
def Cs.code (f : Nat) (wt : Bool) (c : Cs) : List Ins := cd f (nm (c.segs wt))

def discB : Nat → Kd → List Tg → Bool
  | d, k, [] => decide (d = 0) && (decide (k = .no) || decide (k = .gone))
  | d, k, tg :: l => decide (d ≤ 100) && match kin tg d k with
    | none => false
    | some (d', k') => discB d' k' l
theorem discB_is : ∀ (l : List Tg) (d : Nat) (k : Kd), discB d k l = true → Disc d k l
  | [], d, k, h => by
    unfold discB at h
    simp only [Bool.and_eq_true, Bool.or_eq_true, decide_eq_true_eq] at h
    exact h
  | tg :: l, d, k, h => by
    unfold discB at h
    simp only [Bool.and_eq_true, decide_eq_true_eq] at h
    obtain ⟨h1, h2⟩ := h
    cases hk : kin tg d k with
    | none => rw [hk] at h2; cases h2
    | some x =>
      obtain ⟨d', k'⟩ := x
      rw [hk] at h2
      exact ⟨h1, d', k', hk, discB_is l d' k' h2⟩
def isD : Tg → Bool
  | .get => true
  | .read => true
  | .new _ => true
  | .pub => true
  | .free => true
  | _ => false
theorem isD_no {f : Nat} {tg : Tg} (h : isD tg = true) : ∀ l, GI.label l ∉ tgCode f tg := by
  intro l
  cases tg <;> first | (cases h; done) | (simp [tgCode])
def ordB : Nat → List (Tg × Nat) → Bool
  | _, [] => true
  | a, x :: l => if x.2 = 0 then isD x.1 && ordB a l else decide (a < x.2) && (decide (x.2 ≤ 99) && ordB x.2 l)
theorem pq_inj {a b : Nat} (ha : a ≤ 99) (hb : b ≤ 99) (h : pq a = pq b) : a = b := by
  have h1 := congrArg bl h
  have h2 : [113, UInt8.ofNat (48 + a / 10), UInt8.ofNat (48 + a % 10)] = [113, UInt8.ofNat (48 + b / 10), UInt8.ofNat (48 + b % 10)] := h1
  simp only [List.cons.injEq, true_and, and_true] at h2
  obtain ⟨h3, h4⟩ := h2
  have := u8_digit (show a / 10 ≤ 9 by omega) (show b / 10 ≤ 9 by omega) h3
  have := u8_digit (show a % 10 ≤ 9 by omega) (show b % 10 ≤ 9 by omega) h4
  omega
theorem ordB_is {f : Nat} : ∀ (l : List (Tg × Nat)) (a : Nat) (A : List Ins), ordB a l = true → (∀ b, a < b → b ≤ 99 → noLab (pq b) A) → noLab (pq 0) A → Apart f A (nm l)
  | [], _, _, _, _, _ => trivial
  | (tg, 0) :: l, a, A, h, h1, h2 => by
    have h : (isD tg && ordB a l) = true := h
    simp only [Bool.and_eq_true] at h
    obtain ⟨h3, h4⟩ := h
    have hc : ∀ p, noLab p (gCode (pq 0) (tgCode f tg)) := fun p => noLab_code (.inr (isD_no h3))
    exact ⟨h2, ordB_is l a _ h4 (fun b hb hb' => noLab_append (h1 b hb hb') (hc _)) (noLab_append h2 (hc _))⟩
  | (tg, c + 1) :: l, a, A, h, h1, h2 => by
    have h : (decide (a < c + 1) && (decide (c + 1 ≤ 99) && ordB (c + 1) l)) = true := h
    simp only [Bool.and_eq_true, decide_eq_true_eq] at h
    obtain ⟨h3, h4, h5⟩ := h
    exact ⟨h1 _ h3 h4, ordB_is l (c + 1) _ h5 (fun b hb hb' => noLab_append (h1 b (by omega) hb') (noLab_code (.inl (fun e => by have := pq_inj h4 hb' e; omega)))) (noLab_append h2 (noLab_code (.inl (fun e => by have := pq_inj h4 (by decide) e; omega))))⟩
def Cs.ok (c : Cs) : Prop := c.tm ≤ 3 ∧ c.rd ≤ 5
theorem cast_all : ∀ (w : Bool) (tm : Fin 4) (rd : Fin 6) (ns : Bool), (discB 0 .no (((⟨w, tm.val, rd.val, ns⟩ : Cs).segs true).map (·.1)) && ordB 0 ((⟨w, tm.val, rd.val, ns⟩ : Cs).segs true)) = true := by decide +kernel
theorem Cs.disc {f : Nat} {c : Cs} (h : c.ok) : Disc 0 .no (c.pr.map (·.1)) ∧ Apart f [] c.pr := by
  obtain ⟨w, tm, rd, ns⟩ := c
  have h2 := cast_all w ⟨tm, by have := h.1; simp only at this; omega⟩ ⟨rd, by have := h.2; simp only at this; omega⟩ ns
  simp only [Bool.and_eq_true] at h2
  refine ⟨?_, ordB_is _ 0 [] h2.2 (fun _ _ _ => noLab_nil _) (noLab_nil _)⟩
  have e : (Cs.pr ⟨w, tm, rd, ns⟩).map (·.1) = ((⟨w, tm, rd, ns⟩ : Cs).segs true).map (·.1) := by
    unfold Cs.pr nm
    rw [List.map_map]; rfl
  rw [e]
  exact discB_is _ _ _ h2.1
end Go.Proofs.YtgmokighfgdnjaaGreatDoor

/- GcW -/
namespace Go.Proofs.YtgmokighfgdnjaaGreatDoor
open Go.RowKit

def hubW (f : Nat) : List Int := [1, if f = 4 then 0 else 2, 0, 0]
def ownW (f n t : Nat) : List Int := [if f = 3 then 1 else 0, if f = 4 then 0 else if t + 1 < n then (t : Int) + 3 else 0, 0, 0]
def gcRegs (n t : Nat) : List Int := [0, 0, 0, 0, 0, (n : Int) + 2, (t : Int) + 2, 1]
def gcInit (f n : Nat) : List (List Int) := hubW f :: ((List.range n).map (ownW f n) ++ [[(n : Int) + 3], [1]])
def gcSta (f n : Nat) : Sta := ⟨30, gcInit f n, (List.range n).map (gcRegs n)⟩
def gcM (f n : Nat) : Mk := (gcSta f n).mach n
def gcG (f n : Nat) : Gh := ⟨fun _ => none, fun _ _ => false, if f = 4 then [] else (List.range n).reverse, n + 2, fun _ => 0⟩

theorem gcInit_len (f n : Nat) : (gcInit f n).length = n + 3 := by simp [gcInit]
section
variable {f n : Nat}
theorem gc_words (c k : Nat) : (gcM f n).mem.ar.words c k = if c < n + 3 ∧ k < 4 then rowAt (gcInit f n) c k else 0 := by
  show (if c < (gcInit f n).length ∧ k < 4 then rowAt (gcInit f n) c k else 0) = _
  rw [gcInit_len]
theorem gc_there (c : Nat) : (gcM f n).mem.ar.there c = decide (c < n + 3) := by
  show (if c < (gcInit f n).length then true else false) = _
  rw [gcInit_len]
  split <;> rename_i h
  · rw [decide_eq_true h]
  · rw [decide_eq_false h]
theorem gc_given (c : Nat) : (gcM f n).mem.ar.given c = if c < n + 3 then 1 else 0 := by
  show (if c < (gcInit f n).length then 1 else 0) = _
  rw [gcInit_len]
theorem gc_row0 (k : Nat) : rowAt (gcInit f n) 0 k = (hubW f).getD k 0 := rfl
theorem gc_rowt {t : Nat} (ht : t < n) (k : Nat) : rowAt (gcInit f n) (t + 1) k = (ownW f n t).getD k 0 := by
  unfold rowAt gcInit
  rw [List.getD_cons_succ, List.getD_eq_getElem?_getD (l := (List.range n).map (ownW f n) ++ [[(n : Int) + 3], [1]]), List.getElem?_append_left (by simp; omega), List.getElem?_map, List.getElem?_range ht]
  rfl
theorem gc_rowr (k : Nat) : rowAt (gcInit f n) (n + 1) k = ([(n : Int) + 3] : List Int).getD k 0 := by
  unfold rowAt gcInit
  rw [List.getD_cons_succ, List.getD_eq_getElem?_getD (l := (List.range n).map (ownW f n) ++ [[(n : Int) + 3], [1]]), List.getElem?_append_right (by simp)]
  simp
theorem gc_rowd (k : Nat) : rowAt (gcInit f n) (n + 2) k = ([1] : List Int).getD k 0 := by
  unfold rowAt gcInit
  rw [List.getD_cons_succ, List.getD_eq_getElem?_getD (l := (List.range n).map (ownW f n) ++ [[(n : Int) + 3], [1]]), List.getElem?_append_right (by simp)]
  simp
theorem gc_regs {t : Nat} (ht : t < n) (k : Nat) : (gcM f n).regs t k = (gcRegs n t).getD k 0 := by
  show rowAt ((List.range n).map (gcRegs n)) t k = _
  unfold rowAt
  rw [List.getD_eq_getElem?_getD (l := (List.range n).map (gcRegs n)), List.getElem?_map, List.getElem?_range ht]
  rfl
theorem gc_waits (t : Nat) : (gcM f n).mem.waits t = [] := rfl
theorem gc_ov {t : Nat} (ht : t < n) {k : Nat} (hk : k < 4) : ov (gcM f n) t k = (ownW f n t).getD k 0 := by
  rw [ov_none (gc_waits t), gc_words, if_pos ⟨by omega, hk⟩, gc_rowt ht]
theorem gc_live {c : Nat} (hn : n ≤ 6) (hc : c < n + 3) : Live (gcM f n) c := ⟨by show c < 30; omega, by rw [gc_there]; exact decide_eq_true hc, by rw [gc_given, if_pos hc]; decide, by show 30 ≤ 64; decide⟩
theorem gc_ch (hf : f ≠ 4) (i u : Nat) (hi : (gcG f n).ch[i]? = some u) : i < n ∧ u = n - 1 - i := by
  have e : (gcG f n).ch = (List.range n).reverse := if_neg hf
  rw [e] at hi
  have hlt : i < n := by have := (List.getElem?_eq_some_iff.1 hi).1; simpa using this
  rw [List.getElem?_reverse (by simpa using hlt), List.length_range, List.getElem?_range (by omega)] at hi
  exact ⟨hlt, (Option.some.inj hi).symm⟩
theorem gc_PD (hf : 1 ≤ f ∧ f ≤ 4) (hn : 1 ≤ n ∧ n ≤ 6) : PD f n (gcG f n) (gcM f n) := by
  have hch4 : f = 4 → (gcG f n).ch = [] := fun e => if_pos e
  have hchn : f ≠ 4 → (gcG f n).ch = (List.range n).reverse := fun e => if_neg e
  have hL : ∀ c, c < n + 3 → Live (gcM f n) c := fun c hc => gc_live hn.2 hc
  refine ⟨⟨hf, hn.2, rfl, fun c hc => ⟨hL c (by omega), by rw [gc_given, if_pos (by omega)]⟩, fun t ht => by rw [gc_regs ht]; rfl, fun t ht => by rw [gc_regs ht]; rfl, fun t ht => by rw [gc_regs ht]; rfl, ?_, fun t ht x hx => absurd (show x ∈ ([] : List Wt) from hx) List.not_mem_nil, ?_, fun t ht => ?_, fun h4 t ht => ?_, ?_, fun i u hi => ?_, fun t ht h3 => ?_, fun w t _ hu => ?_⟩,
    ⟨rfl, ⟨⟨Nat.le_refl _, hL _ (by show n + 2 < n + 3; omega)⟩, ?_, ?_⟩, fun t ht x hx => absurd (show x ∈ ([] : List Wt) from hx) List.not_mem_nil, fun w _ hd => absurd rfl hd, fun w u _ _ _ hd _ => absurd rfl hd, fun t ht x hx => absurd (show x ∈ ([] : List Wt) from hx) List.not_mem_nil, fun w _ hd => (by cases hd), fun w _ hd => (by cases hd), fun t _ hr => hr.elim, fun t d _ hp => (by cases hp), fun t v q d _ hp => (by cases hp), fun c h1 h2 h3 => ?_, rfl⟩⟩
  · rw [gc_words, if_pos ⟨by omega, by decide⟩, gc_row0]; rfl
  · by_cases e : f = 4
    · rw [hch4 e]; exact List.nodup_nil
    · rw [hchn e]
      exact List.pairwise_reverse.2 (List.Pairwise.imp (fun h => Ne.symm h) List.nodup_range)
  · by_cases e : f = 4
    · rw [hch4 e] at ht; cases ht
    · rw [hchn e] at ht
      simpa using ht
  · rw [hchn h4]; simpa using ht
  · rw [gc_words, if_pos ⟨by omega, by decide⟩, gc_row0]
    by_cases e : f = 4
    · rw [hch4 e]
      show (if f = 4 then (0 : Int) else 2) = 0
      rw [if_pos e]
    · rw [hchn e]
      show (if f = 4 then (0 : Int) else 2) = _
      rw [if_neg e]
      obtain ⟨k, hk⟩ : ∃ k, n = k + 1 := ⟨n - 1, by omega⟩
      rw [hk, List.range_succ_eq_map, List.reverse_cons, List.getLast?_concat]
      rfl
  · have e : f ≠ 4 := fun e => by rw [hch4 e] at hi; cases hi
    obtain ⟨h1, h2⟩ := gc_ch e i u hi
    have hu : u < n := by omega
    rw [gc_words, if_pos ⟨by omega, by decide⟩, gc_rowt hu]
    show (if f = 4 then (0 : Int) else if u + 1 < n then (u : Int) + 3 else 0) = _
    rw [if_neg e]
    cases i with
    | zero => rw [if_neg (by omega)]
    | succ j =>
      rw [if_pos (by omega)]
      show _ = match (gcG f n).ch[j]? with | none => 0 | some v => (v : Int) + 2
      rw [hchn e, List.getElem?_reverse (by simp; omega), List.length_range, List.getElem?_range (by omega)]
      show (u : Int) + 3 = ((n - 1 - j : Nat) : Int) + 2
      omega
  · refine ⟨fun e => absurd e h3, fun _ => ⟨fun _ => ⟨?_, ?_⟩, fun e => absurd e (Nat.lt_irrefl 0)⟩, fun e => ⟨fun hm => ?_, fun _ => ⟨?_, rfl⟩⟩⟩
    · rw [gc_ov ht (by decide)]
      show (if f = 3 then (1 : Int) else 0) = 0
      rw [if_neg h3]
    · rw [gc_ov ht (by decide)]; rfl
    · rw [hch4 e] at hm; cases hm
    · rw [gc_ov ht (by decide)]; rfl
  · cases (show false = true from hu)
  · rw [gc_words, if_pos ⟨by omega, by decide⟩, gc_rowr]
    show (n : Int) + 3 = rf (gcM f n) (n + 2)
    unfold rf
    rw [gc_given, if_pos (by omega)]
    omega
  · show (gcM f n).mem.ar.words (n + 2) 0 ≠ 0
    rw [gc_words, if_pos ⟨by omega, by decide⟩, gc_rowd]
    decide
  · rw [gc_there, decide_eq_true_iff] at h3
    exact .inl (by show c = n + 2; omega)

theorem gc_Good (hf : 1 ≤ f ∧ f ≤ 4) (hn : 1 ≤ n ∧ n ≤ 6) {pr : Nat → List (Tg × ByteArray)} (hpr : ∀ t, t < n → Disc 0 .no ((pr t).map (·.1)) ∧ Apart f [] (pr t)) : Good f n pr (gcM f n) := by
  have key : ∀ j, j ≤ n → ∃ G, PD f n G (gcM f n) ∧ (∀ t, t < j → Loc f (cd f (pr t)) 0 (G.pt t)) ∧ (∀ t, j ≤ t → G.pt t = none) ∧ (∀ w u, ¬ Ol G w u) := by
    intro j
    induction j with
    | zero => intro _; exact ⟨gcG f n, gc_PD hf hn, fun t ht => absurd ht (Nat.not_lt_zero _), fun _ _ => rfl, fun w u hu => by cases (show false = true from hu)⟩
    | succ j ih =>
      intro hj
      obtain ⟨G, h1, h2, h3, h4⟩ := ih (by omega)
      have hjn : j < n := by omega
      have hL := h1.1.la j hjn
      rw [h3 j (Nat.le_refl _)] at hL
      have hb : BT f G (gcM f n) j 0 .no := ⟨⟨fun e _ => by
          rw [gc_ov hjn (by decide)]
          show (if f = 3 then (1 : Int) else 0) % 2 = 1
          rw [if_pos e]; rfl, hL⟩, fun ⟨u, hu⟩ => h4 j u hu, by rw [h3 j (Nat.le_refl _)]; rfl, fun e => (nomatch e), fun e => by rw [h3 j (Nat.le_refl _)] at e; exact e.elim⟩
      obtain ⟨g, g1, g2⟩ := h1.hops hjn (L := cd f (pr j)) (pr j) [] 0 .no hb (hpr j hjn).1 (hpr j hjn).2 rfl
      refine ⟨G.at' j g, g1, fun t ht => ?_, fun t ht => ?_, h4⟩
      · by_cases e : t = j
        · subst e; rw [Gh.at_self]; exact g2
        · rw [Gh.at_ne _ _ e]; exact h2 t (by omega)
      · rw [Gh.at_ne _ _ (by omega)]; exact h3 t (by omega)
  obtain ⟨G, h1, h2, -, -⟩ := key n (Nat.le_refl _)
  exact ⟨G, h1, h2⟩
end
end Go.Proofs.YtgmokighfgdnjaaGreatDoor

/- RkA -/
namespace Go.Proofs.YtgmokighfgdnjaaGreatDoor
open Go.RowKit

def rmarkCell (x : Nat × Int) : List Value := [.int .i64 x.1, .int .i64 x.2]
def rmarkCells (l : List (Nat × Int)) : List Value := l.flatMap rmarkCell
theorem rmarkCells_append (l : List (Nat × Int)) (x : Nat × Int) : rmarkCells (l ++ [x]) = rmarkCells l ++ rmarkCell x := by simp [rmarkCells]
structure RcB (cs : List (List Ins)) (ad : Nat → Option Addr) (B : Nat) (w : World) : Prop where
  ex : ∃ W, (∀ (t : Nat) L, cs[t]? = some L → insAt (ad t) L W) ∧ W.heap.size = B ∧ Below B W w
theorem RcB.code {cs : List (List Ins)} {ad : Nat → Option Addr} {B : Nat} {w : World} (h : RcB cs ad B w) {t : Nat} {L : List Ins} (ht : cs[t]? = some L) : insAt (ad t) L w := by
  obtain ⟨W, h1, rfl, h3⟩ := h.ex
  exact insAt_below (h1 t L ht) h3
theorem RcB.turns {S : Nat → Nat → Prop} {cs : List (List Ins)} {ad : Nat → Option Addr} {B : Nat} {w w' : World} (h : RcB cs ad B w) (t : Turns S w w') (hS : ∀ k o, S k o → B ≤ k) : RcB cs ad B w' := by
  obtain ⟨W, h1, rfl, h3⟩ := h.ex
  exact ⟨W, h1, rfl, h3.trans (t.below h3.size (fun k o hk hs => by have := hS k o hs; omega))⟩
theorem RcB.size {cs : List (List Ins)} {ad : Nat → Option Addr} {B : Nat} {w : World} (h : RcB cs ad B w) : B ≤ w.heap.size := by
  obtain ⟨W, h1, rfl, h3⟩ := h.ex
  exact h3.size

structure RkPl where
  B : Nat
  rp : RmPl
  k : Nat
  tb : Nat
  tcap : Nat
  ad : Nat → Option Addr
  cc : Nat → Nat
  rb : Nat → Nat
  rcap : Nat → Nat
  mv : Value
def RkPl.to (p : RkPl) (r : RmPl) (v : Value) : RkPl := { p with rp := r, mv := v }
def RkPl.fp (p : RkPl) (n : Nat) (s : Rm) (k : Nat) : Prop := k = p.k ∨ k = p.tb ∨ (∃ t, t < n ∧ k = p.rb t) ∨ p.mv.ownBlock = some k ∨ p.rp.fp s k

structure RkAt (cs : List (List Ins)) (p : RkPl) (m : Mk) (w : World) : Prop where
  rc : RcB cs p.ad p.B w
  mem : RmAt p.rp m.mem w
  thr : m.mem.threads = cs.length
  few : cs.length ≤ 6
  tcap : cs.length ≤ p.tcap
  mM : w.cell? ⟨p.k, 0, none⟩ = some (.pointer (some ⟨p.rp.mb, 0, none⟩))
  mT : w.cell? ⟨p.k, 1, none⟩ = some (.slice (some ⟨p.tb, 0, none⟩) cs.length p.tcap)
  mMarks : w.cell? ⟨p.k, 2, none⟩ = some p.mv
  mFaults : w.cell? ⟨p.k, 3, none⟩ = some (.int .i64 m.faults)
  tCode : ∀ (t : Nat) L, cs[t]? = some L → w.cell? ⟨p.tb, t * 3, none⟩ = some (.slice (p.ad t) L.length (p.cc t))
  ccap : ∀ (t : Nat) L, cs[t]? = some L → L.length ≤ p.cc t
  tRegs : ∀ t, t < cs.length → w.cell? ⟨p.tb, t * 3 + 1, none⟩ = some (.slice (some ⟨p.rb t, 0, none⟩) 8 (p.rcap t))
  tAt : ∀ t, t < cs.length → w.cell? ⟨p.tb, t * 3 + 2, none⟩ = some (.int .i64 (m.pc t))
  rcap : ∀ t, t < cs.length → 8 ≤ p.rcap t
  regs : ∀ t r, t < cs.length → r < 8 → w.cell? ⟨p.rb t, r, none⟩ = some (.int .i64 (m.regs t r))
  own : w.ownsRow 0 130 2 p.mv m.marks.length (rmarkCells m.marks)
  fk : ∀ o, w.frozen? ⟨p.k, o, none⟩ = false
  ft : ∀ o, w.frozen? ⟨p.tb, o, none⟩ = false
  fr : ∀ t o, t < cs.length → w.frozen? ⟨p.rb t, o, none⟩ = false
  lt' : p.tb < w.heap.size
  d1 : p.k ≠ p.tb
  d2 : ∀ t, t < cs.length → p.rb t ≠ p.k ∧ p.rb t ≠ p.tb
  d3 : ∀ t u, t < cs.length → u < cs.length → t ≠ u → p.rb t ≠ p.rb u
  d4 : ∀ k, p.mv.ownBlock = some k → k ≠ p.k ∧ k ≠ p.tb ∧ ∀ t, t < cs.length → k ≠ p.rb t
  d5 : ∀ k, p.rp.fp m.mem k → k ≠ p.k ∧ k ≠ p.tb ∧ (∀ t, t < cs.length → k ≠ p.rb t) ∧ p.mv.ownBlock ≠ some k
  ge : ∀ k, p.fp cs.length m.mem k → p.B ≤ k

theorem RkAt.lk {cs : List (List Ins)} {p : RkPl} {m : Mk} {w : World} (h : RkAt cs p m w) : p.k < w.heap.size := World.block_lt_of_cell? _ _ h.mM
theorem RkAt.lr {cs : List (List Ins)} {p : RkPl} {m : Mk} {w : World} (h : RkAt cs p m w) {t : Nat} (ht : t < cs.length) : p.rb t < w.heap.size := World.block_lt_of_cell? _ _ (h.regs t 0 ht (by decide))
theorem RkAt.fp_lt {cs : List (List Ins)} {p : RkPl} {m : Mk} {w : World} (h : RkAt cs p m w) {k : Nat} (hk : p.fp cs.length m.mem k) : k < w.heap.size := by
  rcases hk with rfl | rfl | ⟨t, ht, rfl⟩ | hk | hk
  · exact h.lk
  · exact h.lt'
  · exact h.lr ht
  · exact (h.own.lt k hk).2
  · exact h.mem.fp_lt hk

theorem RkAt.turns {S : Nat → Nat → Prop} {cs : List (List Ins)} {p : RkPl} {m : Mk} {w w' : World} (h : RkAt cs p m w) (t : Turns S w w') (hS : ∀ k o, S k o → ¬ p.fp cs.length m.mem k) (hB : ∀ k o, S k o → p.B ≤ k) : RkAt cs p m w' where
  rc := h.rc.turns t hB
  mem := h.mem.turns t (fun k o hk hs => hS k o hs (.inr (.inr (.inr (.inr hk)))))
  thr := h.thr
  few := h.few
  tcap := h.tcap
  mM := t.keep h.mM (fun hs => hS _ _ hs (.inl rfl))
  mT := t.keep h.mT (fun hs => hS _ _ hs (.inl rfl))
  mMarks := t.keep h.mMarks (fun hs => hS _ _ hs (.inl rfl))
  mFaults := t.keep h.mFaults (fun hs => hS _ _ hs (.inl rfl))
  tCode i L hi := t.keep (h.tCode i L hi) (fun hs => hS _ _ hs (.inr (.inl rfl)))
  ccap := h.ccap
  tRegs i hi := t.keep (h.tRegs i hi) (fun hs => hS _ _ hs (.inr (.inl rfl)))
  tAt i hi := t.keep (h.tAt i hi) (fun hs => hS _ _ hs (.inr (.inl rfl)))
  rcap := h.rcap
  regs i r hi hr := t.keep (h.regs i r hi hr) (fun hs => hS _ _ hs (.inr (.inr (.inl ⟨i, hi, rfl⟩))))
  own := ownsRow_block h.own fun k hk => t.block k (h.own.lt k hk).2 (fun o hs => hS _ _ hs (.inr (.inr (.inr (.inl hk)))))
  fk o := by rw [t.frozen _ _ h.lk (fun hs => hS _ _ hs (.inl rfl))]; exact h.fk o
  ft o := by rw [t.frozen _ _ h.lt' (fun hs => hS _ _ hs (.inr (.inl rfl)))]; exact h.ft o
  fr i o hi := by rw [t.frozen _ _ (h.lr hi) (fun hs => hS _ _ hs (.inr (.inr (.inl ⟨i, hi, rfl⟩))))]; exact h.fr i o hi
  lt' := Nat.lt_of_lt_of_le h.lt' t.size
  d1 := h.d1
  d2 := h.d2
  d3 := h.d3
  d4 := h.d4
  d5 := h.d5
  ge := h.ge
theorem RkAt.below {cs : List (List Ins)} {p : RkPl} {m : Mk} {w w' : World} (h : RkAt cs p m w) (hb : Below w.heap.size w w') : RkAt cs p m w' :=
  h.turns (Turns.of_below (S := fun _ _ => False) hb) (fun _ _ h => h.elim) (fun _ _ h => h.elim)
theorem RkAt.alloc {cs : List (List Ins)} {p : RkPl} {m : Mk} {w : World} (h : RkAt cs p m w) (o : Obj) : RkAt cs p m (w.alloc o) := h.below ((Below.refl _ _).alloc (Nat.le_refl _) _)
theorem RkAt.drewN {cs : List (List Ins)} {p : RkPl} {m : Mk} {w : World} (h : RkAt cs p m w) (n : Nat) : RkAt cs p m (w.drewN n) := h.below (Below.drewN' n)

structure RkStep (cs : List (List Ins)) (p : RkPl) (s : Rm) (w : World) (r : RmPl) (v : Value) (m' : Mk) (w' : World) : Prop where
  at' : RkAt cs (p.to r v) m' w'
  turns : Turns (fun k _ => p.fp cs.length s k) w w'
  fp : ∀ k, (p.to r v).fp cs.length m'.mem k → p.fp cs.length s k ∨ w.heap.size ≤ k
  mb : r.mb = p.rp.mb

theorem RkStep.refl {cs : List (List Ins)} {p : RkPl} {m : Mk} {w : World} (h : RkAt cs p m w) : RkStep cs p m.mem w p.rp p.mv m w := ⟨h, Turns.refl _ _, fun _ h => Or.inl h, rfl⟩
theorem RkStep.of_below' {cs : List (List Ins)} {p : RkPl} {m : Mk} {w w' : World} (h : RkAt cs p m w) (k : Below w.heap.size w w') : RkStep cs p m.mem w p.rp p.mv m w' := ⟨h.below k, Turns.of_below k, fun _ h => Or.inl h, rfl⟩
theorem RkStep.below {cs : List (List Ins)} {p : RkPl} {s : Rm} {r : RmPl} {v : Value} {m : Mk} {w w' w2 : World} (h : RkStep cs p s w r v m w') (k : Below w'.heap.size w' w2) : RkStep cs p s w r v m w2 := ⟨h.at'.below k, h.turns.trans (Turns.of_below k), h.fp, h.mb⟩
theorem RkStep.of_below {cs : List (List Ins)} {p : RkPl} {s : Rm} {r : RmPl} {v : Value} {m : Mk} {w0 w w' : World} (k : Below w0.heap.size w0 w) (h : RkStep cs p s w r v m w') : RkStep cs p s w0 r v m w' :=
  ⟨h.at', (Turns.of_below k).trans h.turns, fun i hi => (h.fp i hi).imp id (fun e => Nat.le_trans k.size e), h.mb⟩
theorem Turns.chain {S S' : Nat → Nat → Prop} {a b c : World} (h : Turns S a b) (k : Turns S' b c) (hs : ∀ i o, S' i o → S i o ∨ a.heap.size ≤ i) : Turns S a c :=
  ⟨k.os.trans h.os, k.tape.trans h.tape, k.output.trans h.output, Nat.le_trans h.size k.size,
    fun i hi ho => (k.block i (Nat.lt_of_lt_of_le hi h.size) (fun o e => by
      rcases hs i o e with e | e
      · exact ho o e
      · omega)).trans (h.block i hi ho),
    fun i o hi ho => (k.cell i o (Nat.lt_of_lt_of_le hi h.size) (fun e => by
      rcases hs i o e with e | e
      · exact ho e
      · omega)).trans (h.cell i o hi ho),
    fun i o hi ho => (k.frozen i o (Nat.lt_of_lt_of_le hi h.size) (fun e => by
      rcases hs i o e with e | e
      · exact ho e
      · omega)).trans (h.frozen i o hi ho)⟩
theorem RkStep.trans {cs : List (List Ins)} {p : RkPl} {s : Rm} {r r2 : RmPl} {v v2 : Value} {m m2 : Mk} {w w' w2 : World} (h : RkStep cs p s w r v m w') (k : RkStep cs (p.to r v) m.mem w' r2 v2 m2 w2) : RkStep cs p s w r2 v2 m2 w2 where
  at' := k.at'
  turns := h.turns.chain k.turns (fun i _ e => h.fp i e)
  fp i hi := by
    rcases k.fp i hi with e | e
    · exact h.fp i e
    · exact Or.inr (Nat.le_trans h.turns.size e)
  mb := k.mb.trans h.mb

theorem RkStep.setNew {cs : List (List Ins)} {p : RkPl} {s : Rm} {r : RmPl} {v : Value} {m : Mk} {w w' : World} (h : RkStep cs p s w r v m w') {b o : Nat} (u : Value) (hb : w.heap.size ≤ b) (hn : ¬ (p.to r v).fp cs.length m.mem b) (hB : p.B ≤ b) : RkStep cs p s w r v m (w'.setCell ⟨b, o, none⟩ u) :=
  ⟨h.at'.turns (S := fun k _ => k = b) ((Turns.refl _ _).setCell _ rfl) (fun k _ e => by rw [e]; exact hn) (fun k _ e => by rw [e]; exact hB), h.turns.setNew _ hb, h.fp, h.mb⟩

theorem RkAt.apart {cs : List (List Ins)} {p : RkPl} {m : Mk} {w : World} (h : RkAt cs p m w) {b o : Nat} {v : Value} (hb : b = p.k ∨ b = p.tb ∨ ∃ t, t < cs.length ∧ b = p.rb t) :
    RcB cs p.ad p.B (w.setCell ⟨b, o, none⟩ v) ∧ RmAt p.rp m.mem (w.setCell ⟨b, o, none⟩ v) ∧ (w.setCell ⟨b, o, none⟩ v).ownsRow 0 130 2 p.mv m.marks.length (rmarkCells m.marks) ∧ Turns (fun k _ => p.fp cs.length m.mem k) w (w.setCell ⟨b, o, none⟩ v) := by
  have hfp : p.fp cs.length m.mem b := by
    rcases hb with e | e | e
    · exact .inl e
    · exact .inr (.inl e)
    · exact .inr (.inr (.inl e))
  have T : Turns (fun k _ => k = b) w (w.setCell ⟨b, o, none⟩ v) := (Turns.refl _ _).setCell _ rfl
  refine ⟨h.rc.turns T (fun k _ e => by rw [e]; exact h.ge b hfp), h.mem.turns T (fun k _ hk e => ?_), ownsRow_block h.own fun k hk => Below.heap_setCell _ _ _ _ (fun e => ?_), (Turns.refl _ _).setCell _ hfp⟩
  · have := h.d5 k hk
    rcases hb with e' | e' | ⟨t, ht, e'⟩
    · exact this.1 (e.trans e')
    · exact this.2.1 (e.trans e')
    · exact this.2.2.1 t ht (e.trans e')
  · have := h.d4 k hk
    rcases hb with e' | e' | ⟨t, ht, e'⟩
    · exact this.1 (e.trans e')
    · exact this.2.1 (e.trans e')
    · exact this.2.2 t ht (e.trans e')

theorem RkAt.setReg {cs : List (List Ins)} {p : RkPl} {m : Mk} {w : World} (h : RkAt cs p m w) {t r : Nat} (ht : t < cs.length) (hr : r < 8) (v : Int) : RkStep cs p m.mem w p.rp p.mv (m.setReg t r v) (w.setCell ⟨p.rb t, r, none⟩ (.int .i64 v)) := by
  obtain ⟨h1, h2, h3, h4⟩ := h.apart (b := p.rb t) (o := r) (v := .int .i64 v) (.inr (.inr ⟨t, ht, rfl⟩))
  have dk := (h.d2 t ht).1
  have dt := (h.d2 t ht).2
  refine ⟨⟨h1, h2, h.thr, h.few, h.tcap, cell_ne h.mM (Or.inl dk.symm), cell_ne h.mT (Or.inl dk.symm), cell_ne h.mMarks (Or.inl dk.symm), cell_ne h.mFaults (Or.inl dk.symm),
    fun i L hi => cell_ne (h.tCode i L hi) (Or.inl dt.symm), h.ccap, fun i hi => cell_ne (h.tRegs i hi) (Or.inl dt.symm), fun i hi => cell_ne (h.tAt i hi) (Or.inl dt.symm), h.rcap, fun i k hi hk => ?_, h3,
    fun o => by rw [World.frozen?_setCell]; exact h.fk o, fun o => by rw [World.frozen?_setCell]; exact h.ft o, fun i o hi => by rw [World.frozen?_setCell]; exact h.fr i o hi, by rw [World.size_setCell]; exact h.lt', h.d1, h.d2, h.d3, h.d4, h.d5, h.ge⟩, h4, fun _ h => Or.inl h, rfl⟩
  simp only [Mk.setReg]
  by_cases e : i = t ∧ k = r
  · rw [if_pos e, e.1, e.2]
    exact World.cell?_setCell_same _ _ _ (h.regs t r ht hr)
  · rw [if_neg e]
    refine cell_ne (h.regs i k hi hk) ?_
    by_cases e1 : i = t
    · exact Or.inr (fun e2 => e ⟨e1, e2⟩)
    · exact Or.inl (h.d3 i t hi ht e1)

theorem RkAt.setPc {cs : List (List Ins)} {p : RkPl} {m : Mk} {w : World} (h : RkAt cs p m w) {t : Nat} (ht : t < cs.length) (n : Nat) : RkStep cs p m.mem w p.rp p.mv (m.setPc t n) (w.setCell ⟨p.tb, t * 3 + 2, none⟩ (.int .i64 n)) := by
  obtain ⟨h1, h2, h3, h4⟩ := h.apart (b := p.tb) (o := t * 3 + 2) (v := .int .i64 n) (.inr (.inl rfl))
  have dk := h.d1
  refine ⟨⟨h1, h2, h.thr, h.few, h.tcap, cell_ne h.mM (Or.inl dk), cell_ne h.mT (Or.inl dk), cell_ne h.mMarks (Or.inl dk), cell_ne h.mFaults (Or.inl dk),
    fun i L hi => cell_ne (h.tCode i L hi) (Or.inr (by omega)), h.ccap, fun i hi => cell_ne (h.tRegs i hi) (Or.inr (by omega)), fun i hi => ?_, h.rcap, fun i k hi hk => cell_ne (h.regs i k hi hk) (Or.inl (h.d2 i hi).2), h3,
    fun o => by rw [World.frozen?_setCell]; exact h.fk o, fun o => by rw [World.frozen?_setCell]; exact h.ft o, fun i o hi => by rw [World.frozen?_setCell]; exact h.fr i o hi, by rw [World.size_setCell]; exact h.lt', h.d1, h.d2, h.d3, h.d4, h.d5, h.ge⟩, h4, fun _ h => Or.inl h, rfl⟩
  simp only [Mk.setPc]
  by_cases e : i = t
  · rw [if_pos e, e]
    exact World.cell?_setCell_same _ _ _ (h.tAt t ht)
  · rw [if_neg e]
    exact cell_ne (h.tAt i hi) (Or.inr (by omega))

theorem RkAt.addFault {cs : List (List Ins)} {p : RkPl} {m : Mk} {w : World} (h : RkAt cs p m w) (n : Nat) : RkStep cs p m.mem w p.rp p.mv (m.addFault n) (w.setCell ⟨p.k, 3, none⟩ (.int .i64 ((m.faults + n : Nat) : Int))) := by
  obtain ⟨h1, h2, h3, h4⟩ := h.apart (b := p.k) (o := 3) (v := .int .i64 ((m.faults + n : Nat) : Int)) (.inl rfl)
  have dk := h.d1
  exact ⟨⟨h1, h2, h.thr, h.few, h.tcap, cell_ne h.mM (Or.inr (by decide)), cell_ne h.mT (Or.inr (by decide)), cell_ne h.mMarks (Or.inr (by decide)), World.cell?_setCell_same _ _ _ h.mFaults,
    fun i L hi => cell_ne (h.tCode i L hi) (Or.inl dk.symm), h.ccap, fun i hi => cell_ne (h.tRegs i hi) (Or.inl dk.symm), fun i hi => cell_ne (h.tAt i hi) (Or.inl dk.symm), h.rcap, fun i k hi hk => cell_ne (h.regs i k hi hk) (Or.inl (h.d2 i hi).1), h3,
    fun o => by rw [World.frozen?_setCell]; exact h.fk o, fun o => by rw [World.frozen?_setCell]; exact h.ft o, fun i o hi => by rw [World.frozen?_setCell]; exact h.fr i o hi, by rw [World.size_setCell]; exact h.lt', h.d1, h.d2, h.d3, h.d4, h.d5, h.ge⟩, h4, fun _ h => Or.inl h, rfl⟩

theorem RkAt.ofMem {cs : List (List Ins)} {p : RkPl} {m : Mk} {s : Rm} {r : RmPl} {w w' : World} (h : RkAt cs p m w) (q : RmStep p.rp m.mem w r s w') (hn : s.threads = m.mem.threads) : RkStep cs p m.mem w r p.mv (m.setMem s) w' := by
  have hmb := q.mb
  have hS : ∀ k, p.rp.fp m.mem k → p.fp cs.length m.mem k := fun k hk => .inr (.inr (.inr (.inr hk)))
  have lk := h.lk
  have ltb := h.lt'
  have nk : ∀ o : Nat, ¬ (fun k (_ : Nat) => p.rp.fp m.mem k) p.k o := fun _ e => (h.d5 _ e).1 rfl
  have nt : ∀ o : Nat, ¬ (fun k (_ : Nat) => p.rp.fp m.mem k) p.tb o := fun _ e => (h.d5 _ e).2.1 rfl
  have nr : ∀ t (o : Nat), t < cs.length → ¬ (fun k (_ : Nat) => p.rp.fp m.mem k) (p.rb t) o := fun t _ ht e => (h.d5 _ e).2.2.1 t ht rfl
  have fz1 : ∀ o, w'.frozen? ⟨p.k, o, none⟩ = false := fun o => by rw [q.turns.frozen _ _ lk (nk o)]; exact h.fk o
  have fz2 : ∀ o, w'.frozen? ⟨p.tb, o, none⟩ = false := fun o => by rw [q.turns.frozen _ _ ltb (nt o)]; exact h.ft o
  have fz3 : ∀ t o, t < cs.length → w'.frozen? ⟨p.rb t, o, none⟩ = false := fun t o ht => by rw [q.turns.frozen _ _ (h.lr ht) (nr t o ht)]; exact h.fr t o ht
  refine ⟨⟨h.rc.turns q.turns (fun k _ e => h.ge k (hS k e)), q.at', hn.trans h.thr, h.few, h.tcap, by have e := q.turns.keep h.mM (nk 0); rw [← hmb] at e; exact e, q.turns.keep h.mT (nk 1), q.turns.keep h.mMarks (nk 2), q.turns.keep h.mFaults (nk 3),
    fun i L hi => q.turns.keep (h.tCode i L hi) (nt (i * 3)), h.ccap, fun i hi => q.turns.keep (h.tRegs i hi) (nt (i * 3 + 1)), fun i hi => q.turns.keep (h.tAt i hi) (nt (i * 3 + 2)), h.rcap, fun i k hi hk => q.turns.keep (h.regs i k hi hk) (nr i k hi),
    ownsRow_block h.own fun k hk => q.turns.block k (h.own.lt k hk).2 (fun _ e => (h.d5 k e).2.2.2 hk),
    fz1, fz2, fz3, Nat.lt_of_lt_of_le ltb q.turns.size, h.d1, h.d2, h.d3, h.d4, fun k hk => ?_, fun k hk => ?_⟩,
    q.turns.mono (fun k _ _ e => hS k e), fun k hk => ?_, hmb⟩
  · rcases q.fp k hk with e | e
    · exact h.d5 k e
    · exact ⟨by show k ≠ p.k; omega, by show k ≠ p.tb; omega, fun t ht => by have := h.lr ht; show k ≠ p.rb t; omega, fun e' => by have := (h.own.lt k e').2; omega⟩
  · rcases hk with e | e | e | e | e
    · exact h.ge k (.inl e)
    · exact h.ge k (.inr (.inl e))
    · exact h.ge k (.inr (.inr (.inl e)))
    · exact h.ge k (.inr (.inr (.inr (.inl e))))
    · rcases q.fp k e with e | e
      · exact h.ge k (hS k e)
      · have := h.rc.size; show p.B ≤ k; omega
  · rcases hk with e | e | e | e | e
    · exact Or.inl (.inl e)
    · exact Or.inl (.inr (.inl e))
    · exact Or.inl (.inr (.inr (.inl e)))
    · exact Or.inl (.inr (.inr (.inr (.inl e))))
    · exact (q.fp k e).imp (hS k) id
end Go.Proofs.YtgmokighfgdnjaaGreatDoor
