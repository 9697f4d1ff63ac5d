import Derived.Test.YtpjabgdcpogdiaaGreatDoorE16
import Derived.Test.YtpjabgdcpogdiaaGreatDoorE13

/- SpL -/
namespace Go.Proofs.YtpjabgdcpogdiaaGreatDoor
open Go.RowKit

def labelAtB (l : List Ins) (to : List UInt8) : Option Nat := l.findIdx? (fun x => (bl x.op == [108, 97, 98, 101, 108]) && (bl x.to == to))
theorem labelAt_B (l : List Ins) (to : ByteArray) : labelAt l to = match labelAtB l (bl to) with
    | some j => (j : Int)
    | none => -1 := by
  unfold labelAt labelAtB
  rw [show (fun x => setsLabel x to) = (fun x => (bl x.op == [108, 97, 98, 101, 108]) && (bl x.to == bl to)) from funext fun x => by unfold setsLabel; rw [toList_bl, toList_bl, toList_bl]]
  rfl
def nameB (l : List UInt8) : Bool := decide (1 ≤ l.length) && (decide (l.length ≤ 12) && (List.range l.length).all fun j => nameOk j (l.getD j 0).toNat)
theorem nameB_is {s : ByteArray} (h : nameB (bl s) = true) : isName s := by
  unfold nameB at h
  simp only [Bool.and_eq_true, decide_eq_true_eq, List.all_eq_true, List.mem_range] at h
  obtain ⟨h1, h2, h3⟩ := h
  have hz : s.size = (bl s).length := size_bl s
  refine ⟨by omega, by omega, fun j hj => ?_⟩
  have := h3 j (by omega)
  rw [List.getD_eq_getElem?_getD, List.getElem?_eq_getElem (by omega)] at this
  exact this
def shapeGood (x : Ins) (l : List UInt8) : Bool :=
  ((lab ⟨l.toArray⟩ l.length || (bl x.to == [])) && (!(lab ⟨l.toArray⟩ l.length) || nameB (bl x.to))) &&
  (List.range 3).all fun k => if k < cnt ⟨l.toArray⟩ l.length then decide (0 ≤ x.n k ∧ x.n k < mostOf (byteAt ⟨l.toArray⟩ k)) else decide (x.n k = 0)
def insGood (L : List Ins) (i : Nat) (x : Ins) : Bool := match shape (bl x.op) with
  | none => false
  | some l => shapeGood x l && ((!(bl x.op == [108, 97, 98, 101, 108]) || labelAtB L (bl x.to) == some i) && ((bl x.to == []) || (labelAtB L (bl x.to)).isSome))
theorem insGood_is {L : List Ins} {i : Nat} {x : Ins} (h : insGood L i x = true) : insFault L i x = 0 := by
  unfold insGood at h
  cases hs : shape (bl x.op) with
  | none => rw [hs] at h; cases h
  | some l =>
    rw [hs] at h
    simp only [Bool.and_eq_true] at h
    obtain ⟨h1, h2, h3⟩ := h
    unfold shapeGood at h1
    simp only [Bool.and_eq_true, List.all_eq_true, List.mem_range] at h1
    obtain ⟨⟨g1, g2⟩, g3⟩ := h1
    have hsz : (⟨l.toArray⟩ : ByteArray).size = l.length := by simp [ByteArray.size]
    have he : insErr x = 0 := by
      unfold insErr
      rw [toList_bl, hs]
      show insBad x ⟨l.toArray⟩ = 0
      unfold insBad
      rw [hsz, if_neg, if_neg, if_neg, if_neg]
      · rintro ⟨e1, e2⟩
        rw [e1] at g2
        exact e2 (nameB_is (by simpa using g2))
      · rintro ⟨k, hk, e⟩
        have := cnt_le ⟨l.toArray⟩ l.length
        have hl := shape_le hs
        have g := g3 k (by omega)
        rw [if_pos hk] at g
        exact e (by simpa using g)
      · rintro ⟨k, hk, hk3, e⟩
        have g := g3 k hk3
        rw [if_neg (by omega)] at g
        exact e (by simpa using g)
      · rintro ⟨e1, e2⟩
        rw [e1, Bool.false_or] at g1
        rw [toList_bl] at e2
        exact e2 (by simpa using g1)
    unfold insFault
    rw [if_neg (by rw [he]; simp), if_neg, if_neg]
    · rintro ⟨e1, e2⟩
      rw [toList_bl] at e1
      rw [e1, Bool.false_or] at h3
      rw [labelAt_B] at e2
      cases hb : labelAtB L (bl x.to) with
      | none => rw [hb] at h3; cases h3
      | some j => rw [hb] at e2; exact absurd e2 (by simp)
    · rintro ⟨e1, e2⟩
      rw [toList_bl] at e1
      rw [e1, Bool.not_true, Bool.false_or] at h2
      rw [labelAt_B, show labelAtB L (bl x.to) = some i by simpa using h2] at e2
      exact e2 rfl
def codeGood (L : List Ins) : Bool := decide (L.length ≤ 2000) && (List.range L.length).all fun i => match L[i]? with
  | none => true
  | some x => insGood L i x
theorem faultFrom_good {L : List Ins} : ∀ (r : List Ins) (j : Nat), (∀ (k : Nat) x, r[k]? = some x → insFault L (j + k) x = 0) → faultFrom L j r = (0, -1)
  | [], _, _ => rfl
  | y :: r, j, h => by
    unfold faultFrom
    rw [if_pos (by simpa using h 0 y rfl)]
    exact faultFrom_good r (j + 1) (fun k x hx => by rw [show j + 1 + k = j + (k + 1) by omega]; exact h (k + 1) x (by simpa using hx))
theorem codeGood_is {L : List Ins} (h : codeGood L = true) : codeFault L = (0, -1) := by
  unfold codeGood at h
  simp only [Bool.and_eq_true, decide_eq_true_eq, List.all_eq_true, List.mem_range] at h
  obtain ⟨h1, h2⟩ := h
  unfold codeFault
  rw [if_neg (by omega)]
  refine faultFrom_good L 0 fun k x hx => insGood_is ?_
  have := h2 k (List.getElem?_eq_some_iff.1 hx).1
  rw [hx] at this
  rw [Nat.zero_add]; exact this
end Go.Proofs.YtpjabgdcpogdiaaGreatDoor

/- GcR -/
namespace Go.Proofs.YtpjabgdcpogdiaaGreatDoor
open Go.RowKit

structure Cs where
  w : Bool
  tm : Nat
  rd : Nat
  ns : Bool
def Cs.dp (c : Cs) : Nat := if c.ns = true then 3 else 1
def pq (a : Nat) : ByteArray := ⟨#[113, UInt8.ofNat (48 + a / 10), UInt8.ofNat (48 + a % 10)]⟩
def sect (dp rd a : Nat) : List (Tg × Nat) := (List.range dp).map (fun k => (Tg.enter, a + k + 1)) ++ ([(.get, 0)] ++ (List.replicate rd (.read, 0) ++ ((List.range dp).map (fun k => (Tg.leave, a + dp + k + 1)) ++ [(.rest, a + 2 * dp + 1)])))
def rdTo (dp rd i : Nat) : List (Tg × Nat) := (List.range i).flatMap fun j => sect dp rd (j * (2 * dp + 1))
def wrOne (wt : Bool) (j : Nat) : List (Tg × Nat) := if wt = true then [(.new ((j : Int) + 2), 0), (.pub, 0), (.wait, j + 1), (.free, 0)] else [(.new ((j : Int) + 2), 0), (.pub, 0), (.free, 0)]
def wrTo (wt : Bool) (i : Nat) : List (Tg × Nat) := (List.range i).flatMap fun j => wrOne wt j
def Cs.segs (c : Cs) (wt : Bool) : List (Tg × Nat) := if c.w = true then wrTo wt c.tm ++ [(.gone, if wt = true then c.tm + 1 else 1)] else rdTo c.dp c.rd c.tm ++ [(.gone, c.tm * (2 * c.dp + 1) + 1)]
def nm (l : List (Tg × Nat)) : List (Tg × ByteArray) := l.map fun x => (x.1, pq x.2)
def Cs.pr (c : Cs) : List (Tg × ByteArray) := nm (c.segs true)
def Cs.code (f : Nat) (wt : Bool) (c : Cs) : List Ins := cd f (nm (c.segs wt))

def discB : Nat → Kd → List Tg → Bool
  | d, k, [] => decide (d = 0) && (decide (k = .no) || decide (k = .gone))
  | d, k, tg :: l => decide (d ≤ 100) && match kin tg d k with
    | none => false
    | some (d', k') => discB d' k' l
theorem discB_is : ∀ (l : List Tg) (d : Nat) (k : Kd), discB d k l = true → Disc d k l
  | [], d, k, h => by
    unfold discB at h
    simp only [Bool.and_eq_true, Bool.or_eq_true, decide_eq_true_eq] at h
    exact h
  | tg :: l, d, k, h => by
    unfold discB at h
    simp only [Bool.and_eq_true, decide_eq_true_eq] at h
    obtain ⟨h1, h2⟩ := h
    cases hk : kin tg d k with
    | none => rw [hk] at h2; cases h2
    | some x =>
      obtain ⟨d', k'⟩ := x
      rw [hk] at h2
      exact ⟨h1, d', k', hk, discB_is l d' k' h2⟩
def isD : Tg → Bool
  | .get => true
  | .read => true
  | .new _ => true
  | .pub => true
  | .free => true
  | _ => false
theorem isD_no {f : Nat} {tg : Tg} (h : isD tg = true) : ∀ l, GI.label l ∉ tgCode f tg := by
  intro l
  cases tg <;> first | (cases h; done) | (simp [tgCode])
def ordB : Nat → List (Tg × Nat) → Bool
  | _, [] => true
  | a, x :: l => if x.2 = 0 then isD x.1 && ordB a l else decide (a < x.2) && (decide (x.2 ≤ 99) && ordB x.2 l)
theorem pq_inj {a b : Nat} (ha : a ≤ 99) (hb : b ≤ 99) (h : pq a = pq b) : a = b := by
  have h1 := congrArg bl h
  have h2 : [113, UInt8.ofNat (48 + a / 10), UInt8.ofNat (48 + a % 10)] = [113, UInt8.ofNat (48 + b / 10), UInt8.ofNat (48 + b % 10)] := h1
  simp only [List.cons.injEq, true_and, and_true] at h2
  obtain ⟨h3, h4⟩ := h2
  have := u8_digit (show a / 10 ≤ 9 by omega) (show b / 10 ≤ 9 by omega) h3
  have := u8_digit (show a % 10 ≤ 9 by omega) (show b % 10 ≤ 9 by omega) h4
  omega
theorem ordB_is {f : Nat} : ∀ (l : List (Tg × Nat)) (a : Nat) (A : List Ins), ordB a l = true → (∀ b, a < b → b ≤ 99 → noLab (pq b) A) → noLab (pq 0) A → Apart f A (nm l)
  | [], _, _, _, _, _ => trivial
  | (tg, 0) :: l, a, A, h, h1, h2 => by
    have h : (isD tg && ordB a l) = true := h
    simp only [Bool.and_eq_true] at h
    obtain ⟨h3, h4⟩ := h
    have hc : ∀ p, noLab p (gCode (pq 0) (tgCode f tg)) := fun p => noLab_code (.inr (isD_no h3))
    exact ⟨h2, ordB_is l a _ h4 (fun b hb hb' => noLab_append (h1 b hb hb') (hc _)) (noLab_append h2 (hc _))⟩
  | (tg, c + 1) :: l, a, A, h, h1, h2 => by
    have h : (decide (a < c + 1) && (decide (c + 1 ≤ 99) && ordB (c + 1) l)) = true := h
    simp only [Bool.and_eq_true, decide_eq_true_eq] at h
    obtain ⟨h3, h4, h5⟩ := h
    exact ⟨h1 _ h3 h4, ordB_is l (c + 1) _ h5 (fun b hb hb' => noLab_append (h1 b (by omega) hb') (noLab_code (.inl (fun e => by have := pq_inj h4 hb' e; omega)))) (noLab_append h2 (noLab_code (.inl (fun e => by have := pq_inj h4 (by decide) e; omega))))⟩
def Cs.ok (c : Cs) : Prop := c.tm ≤ 3 ∧ c.rd ≤ 5
theorem cast_all : ∀ (w : Bool) (tm : Fin 4) (rd : Fin 6) (ns : Bool), (discB 0 .no (((⟨w, tm.val, rd.val, ns⟩ : Cs).segs true).map (·.1)) && ordB 0 ((⟨w, tm.val, rd.val, ns⟩ : Cs).segs true)) = true := by decide +kernel
theorem Cs.disc {f : Nat} {c : Cs} (h : c.ok) : Disc 0 .no (c.pr.map (·.1)) ∧ Apart f [] c.pr := by
  obtain ⟨w, tm, rd, ns⟩ := c
  have h2 := cast_all w ⟨tm, by have := h.1; simp only at this; omega⟩ ⟨rd, by have := h.2; simp only at this; omega⟩ ns
  simp only [Bool.and_eq_true] at h2
  refine ⟨?_, ordB_is _ 0 [] h2.2 (fun _ _ _ => noLab_nil _) (noLab_nil _)⟩
  have e : (Cs.pr ⟨w, tm, rd, ns⟩).map (·.1) = ((⟨w, tm, rd, ns⟩ : Cs).segs true).map (·.1) := by
    unfold Cs.pr nm
    rw [List.map_map]; rfl
  rw [e]
  exact discB_is _ _ _ h2.1
end Go.Proofs.YtpjabgdcpogdiaaGreatDoor

/- GcW -/
namespace Go.Proofs.YtpjabgdcpogdiaaGreatDoor
open Go.RowKit

def hubW (f : Nat) : List Int := [1, if f = 4 then 0 else 2, 0, 0]
def ownW (f n t : Nat) : List Int := [if f = 3 then 1 else 0, if f = 4 then 0 else if t + 1 < n then (t : Int) + 3 else 0, 0, 0]
def gcRegs (n t : Nat) : List Int := [0, 0, 0, 0, 0, (n : Int) + 2, (t : Int) + 2, 1]
def gcInit (f n : Nat) : List (List Int) := hubW f :: ((List.range n).map (ownW f n) ++ [[(n : Int) + 3], [1]])
def gcSta (f n : Nat) : Sta := ⟨30, gcInit f n, (List.range n).map (gcRegs n)⟩
def gcM (f n : Nat) : Mk := (gcSta f n).mach n
def gcG (f n : Nat) : Gh := ⟨fun _ => none, fun _ _ => false, if f = 4 then [] else (List.range n).reverse, n + 2, fun _ => 0⟩

theorem gcInit_len (f n : Nat) : (gcInit f n).length = n + 3 := by simp [gcInit]
section
variable {f n : Nat}
theorem gc_words (c k : Nat) : (gcM f n).mem.ar.words c k = if c < n + 3 ∧ k < 4 then rowAt (gcInit f n) c k else 0 := by
  show (if c < (gcInit f n).length ∧ k < 4 then rowAt (gcInit f n) c k else 0) = _
  rw [gcInit_len]
theorem gc_there (c : Nat) : (gcM f n).mem.ar.there c = decide (c < n + 3) := by
  show (if c < (gcInit f n).length then true else false) = _
  rw [gcInit_len]
  split <;> rename_i h
  · rw [decide_eq_true h]
  · rw [decide_eq_false h]
theorem gc_given (c : Nat) : (gcM f n).mem.ar.given c = if c < n + 3 then 1 else 0 := by
  show (if c < (gcInit f n).length then 1 else 0) = _
  rw [gcInit_len]
theorem gc_row0 (k : Nat) : rowAt (gcInit f n) 0 k = (hubW f).getD k 0 := rfl
theorem gc_rowt {t : Nat} (ht : t < n) (k : Nat) : rowAt (gcInit f n) (t + 1) k = (ownW f n t).getD k 0 := by
  unfold rowAt gcInit
  rw [List.getD_cons_succ, List.getD_eq_getElem?_getD (l := (List.range n).map (ownW f n) ++ [[(n : Int) + 3], [1]]), List.getElem?_append_left (by simp; omega), List.getElem?_map, List.getElem?_range ht]
  rfl
theorem gc_rowr (k : Nat) : rowAt (gcInit f n) (n + 1) k = ([(n : Int) + 3] : List Int).getD k 0 := by
  unfold rowAt gcInit
  rw [List.getD_cons_succ, List.getD_eq_getElem?_getD (l := (List.range n).map (ownW f n) ++ [[(n : Int) + 3], [1]]), List.getElem?_append_right (by simp)]
  simp
theorem gc_rowd (k : Nat) : rowAt (gcInit f n) (n + 2) k = ([1] : List Int).getD k 0 := by
  unfold rowAt gcInit
  rw [List.getD_cons_succ, List.getD_eq_getElem?_getD (l := (List.range n).map (ownW f n) ++ [[(n : Int) + 3], [1]]), List.getElem?_append_right (by simp)]
  simp
theorem gc_regs {t : Nat} (ht : t < n) (k : Nat) : (gcM f n).regs t k = (gcRegs n t).getD k 0 := by
  show rowAt ((List.range n).map (gcRegs n)) t k = _
  unfold rowAt
  rw [List.getD_eq_getElem?_getD (l := (List.range n).map (gcRegs n)), List.getElem?_map, List.getElem?_range ht]
  rfl
theorem gc_waits (t : Nat) : (gcM f n).mem.waits t = [] := rfl
theorem gc_ov {t : Nat} (ht : t < n) {k : Nat} (hk : k < 4) : ov (gcM f n) t k = (ownW f n t).getD k 0 := by
  rw [ov_none (gc_waits t), gc_words, if_pos ⟨by omega, hk⟩, gc_rowt ht]
theorem gc_live {c : Nat} (hn : n ≤ 6) (hc : c < n + 3) : Live (gcM f n) c := ⟨by show c < 30; omega, by rw [gc_there]; exact decide_eq_true hc, by rw [gc_given, if_pos hc]; decide, by show 30 ≤ 64; decide⟩
theorem gc_ch (hf : f ≠ 4) (i u : Nat) (hi : (gcG f n).ch[i]? = some u) : i < n ∧ u = n - 1 - i := by
  have e : (gcG f n).ch = (List.range n).reverse := if_neg hf
  rw [e] at hi
  have hlt : i < n := by have := (List.getElem?_eq_some_iff.1 hi).1; simpa using this
  rw [List.getElem?_reverse (by simpa using hlt), List.length_range, List.getElem?_range (by omega)] at hi
  exact ⟨hlt, (Option.some.inj hi).symm⟩
theorem gc_PD (hf : 1 ≤ f ∧ f ≤ 4) (hn : 1 ≤ n ∧ n ≤ 6) : PD f n (gcG f n) (gcM f n) := by
  have hch4 : f = 4 → (gcG f n).ch = [] := fun e => if_pos e
  have hchn : f ≠ 4 → (gcG f n).ch = (List.range n).reverse := fun e => if_neg e
  have hL : ∀ c, c < n + 3 → Live (gcM f n) c := fun c hc => gc_live hn.2 hc
  refine ⟨⟨hf, hn.2, rfl, fun c hc => ⟨hL c (by omega), by rw [gc_given, if_pos (by omega)]⟩, fun t ht => by rw [gc_regs ht]; rfl, fun t ht => by rw [gc_regs ht]; rfl, fun t ht => by rw [gc_regs ht]; rfl, ?_, fun t ht x hx => absurd (show x ∈ ([] : List Wt) from hx) List.not_mem_nil, ?_, fun t ht => ?_, fun h4 t ht => ?_, ?_, fun i u hi => ?_, fun t ht h3 => ?_, fun w t _ hu => ?_⟩,
    ⟨rfl, ⟨⟨Nat.le_refl _, hL _ (by show n + 2 < n + 3; omega)⟩, ?_, ?_⟩, fun t ht x hx => absurd (show x ∈ ([] : List Wt) from hx) List.not_mem_nil, fun w _ hd => absurd rfl hd, fun w u _ _ _ hd _ => absurd rfl hd, fun t ht x hx => absurd (show x ∈ ([] : List Wt) from hx) List.not_mem_nil, fun w _ hd => (by cases hd), fun w _ hd => (by cases hd), fun t _ hr => hr.elim, fun t d _ hp => (by cases hp), fun t v q d _ hp => (by cases hp), fun c h1 h2 h3 => ?_, rfl⟩⟩
  · rw [gc_words, if_pos ⟨by omega, by decide⟩, gc_row0]; rfl
  · by_cases e : f = 4
    · rw [hch4 e]; exact List.nodup_nil
    · rw [hchn e]
      exact List.pairwise_reverse.2 (List.Pairwise.imp (fun h => Ne.symm h) List.nodup_range)
  · by_cases e : f = 4
    · rw [hch4 e] at ht; cases ht
    · rw [hchn e] at ht
      simpa using ht
  · rw [hchn h4]; simpa using ht
  · rw [gc_words, if_pos ⟨by omega, by decide⟩, gc_row0]
    by_cases e : f = 4
    · rw [hch4 e]
      show (if f = 4 then (0 : Int) else 2) = 0
      rw [if_pos e]
    · rw [hchn e]
      show (if f = 4 then (0 : Int) else 2) = _
      rw [if_neg e]
      obtain ⟨k, hk⟩ : ∃ k, n = k + 1 := ⟨n - 1, by omega⟩
      rw [hk, List.range_succ_eq_map, List.reverse_cons, List.getLast?_concat]
      rfl
  · have e : f ≠ 4 := fun e => by rw [hch4 e] at hi; cases hi
    obtain ⟨h1, h2⟩ := gc_ch e i u hi
    have hu : u < n := by omega
    rw [gc_words, if_pos ⟨by omega, by decide⟩, gc_rowt hu]
    show (if f = 4 then (0 : Int) else if u + 1 < n then (u : Int) + 3 else 0) = _
    rw [if_neg e]
    cases i with
    | zero => rw [if_neg (by omega)]
    | succ j =>
      rw [if_pos (by omega)]
      show _ = match (gcG f n).ch[j]? with | none => 0 | some v => (v : Int) + 2
      rw [hchn e, List.getElem?_reverse (by simp; omega), List.length_range, List.getElem?_range (by omega)]
      show (u : Int) + 3 = ((n - 1 - j : Nat) : Int) + 2
      omega
  · refine ⟨fun e => absurd e h3, fun _ => ⟨fun _ => ⟨?_, ?_⟩, fun e => absurd e (Nat.lt_irrefl 0)⟩, fun e => ⟨fun hm => ?_, fun _ => ⟨?_, rfl⟩⟩⟩
    · rw [gc_ov ht (by decide)]
      show (if f = 3 then (1 : Int) else 0) = 0
      rw [if_neg h3]
    · rw [gc_ov ht (by decide)]; rfl
    · rw [hch4 e] at hm; cases hm
    · rw [gc_ov ht (by decide)]; rfl
  · cases (show false = true from hu)
  · rw [gc_words, if_pos ⟨by omega, by decide⟩, gc_rowr]
    show (n : Int) + 3 = rf (gcM f n) (n + 2)
    unfold rf
    rw [gc_given, if_pos (by omega)]
    omega
  · show (gcM f n).mem.ar.words (n + 2) 0 ≠ 0
    rw [gc_words, if_pos ⟨by omega, by decide⟩, gc_rowd]
    decide
  · rw [gc_there, decide_eq_true_iff] at h3
    exact .inl (by show c = n + 2; omega)

end
end Go.Proofs.YtpjabgdcpogdiaaGreatDoor

/- GpM -/
namespace Go.Proofs.YtpjabgdcpogdiaaGreatDoor
open Go.RowKit

section
variable {f n : Nat}
theorem gc_Good2 (hf : 1 ≤ f ∧ f ≤ 4) (hn : 1 ≤ n ∧ n ≤ 6) {pr : Nat → List (Tg × ByteArray)} (hpr : ∀ t, t < n → Disc 0 .no ((pr t).map (·.1)) ∧ Apart f [] (pr t)) (hl : f = 3 → ∀ t, t < n → ((pr t).map (·.1)).getLast? = some .gone) :
    ∃ G B, Good2 f n pr G B (gcM f n) ∧ psi f n G B (gcM f n) ≤ sm n (fun t => csts f n (pr t)) := by
  have key : ∀ j, j ≤ n → ∃ (G : Gh) (B : Nat → List (Tg × ByteArray)), PD f n G (gcM f n) ∧ (∀ t, t < j → LocB f (cd f (pr t)) 0 (B t) (G.pt t) ∧ (∀ C r, Lx f C r (G.pt t)) ∧ (f = 3 → G.pt t = none → sh (gcM f n) t = 0) ∧ ∀ C r ph, rkT f n C t r ph (G.pt t) + csts f n (B t) ≤ csts f n (pr t)) ∧ (∀ t, j ≤ t → G.pt t = none) ∧ (∀ w u, ¬ Ol G w u) := by
    intro j
    induction j with
    | zero => intro _; exact ⟨gcG f n, fun _ => [], gc_PD hf hn, fun t ht => absurd ht (Nat.not_lt_zero _), fun _ _ => rfl, fun w u hu => by cases (show false = true from hu)⟩
    | succ j ih =>
      intro hj
      obtain ⟨G, B, h1, h2, h3, h4⟩ := ih (by omega)
      have hjn : j < n := by omega
      have hL := h1.1.la j hjn
      rw [h3 j (Nat.le_refl _)] at hL
      have hb : BT f G (gcM f n) j 0 .no := ⟨⟨fun e _ => by
          rw [gc_ov hjn (by decide)]
          show (if f = 3 then (1 : Int) else 0) % 2 = 1
          rw [if_pos e]; rfl, hL⟩, fun ⟨u, hu⟩ => h4 j u hu, by rw [h3 j (Nat.le_refl _)]; rfl, fun e => (nomatch e), fun e => by rw [h3 j (Nat.le_refl _)] at e; exact e.elim⟩
      obtain ⟨g, B', g1, g2, g3, g4, g5⟩ := h1.hops2 hjn (L := cd f (pr j)) (pr j) [] 0 .no hb (hpr j hjn).1 (hpr j hjn).2 rfl (fun e _ => hl e j hjn) (fun e e2 => by
        have := hl e j hjn
        rw [e2] at this
        cases this)
      refine ⟨G.at' j g, fun t => if t = j then B' else B t, g1, fun t ht => ?_, fun t ht => ?_, h4⟩
      · by_cases e : t = j
        · subst e; rw [Gh.at_self]; dsimp only; rw [if_pos rfl]; exact ⟨g2, g4, g3, g5⟩
        · rw [Gh.at_ne _ _ e]; dsimp only; rw [if_neg e]; exact h2 t (by omega)
      · rw [Gh.at_ne _ _ (by omega)]; exact h3 t (by omega)
  obtain ⟨G, B, h1, h2, -, -⟩ := key n (Nat.le_refl _)
  refine ⟨G, B, ⟨h1, fun t ht => ⟨(h2 t ht).1, (h2 t ht).2.1 _ _⟩, fun h3 t ht => (h2 t ht).2.2.1 h3⟩, ?_⟩
  unfold psi
  refine sm_le fun t ht => ?_
  have := (h2 t ht).2.2.2 G.ch ((gcM f n).regs t) (phs f n G (gcM f n) t)
  unfold pot
  show _ + _ + ([] : List Wt).length ≤ _
  exact this
theorem gc_rounds (hf : 1 ≤ f ∧ f ≤ 4) (hn : 1 ≤ n ∧ n ≤ 6) {pr : Nat → List (Tg × ByteArray)} (hpr : ∀ t, t < n → Disc 0 .no ((pr t).map (·.1)) ∧ Apart f [] (pr t)) (hl : f = 3 → ∀ t, t < n → ((pr t).map (·.1)).getLast? = some .gone) {cs : List (List Ins)} (hR : Right cs) (hc : cs.length = n) (hcs : ∀ t, t < n → cs[t]? = some (cd f (pr t))) (ok : MkOk n 1 (gcM f n))
    {L : List (List Int)} (hL : ∀ l ∈ L, Covers n l) (hlen : L.flatten.length ≤ 50000000) (hp : sm n (fun t => csts f n (pr t)) < L.length) : ∃ G B, Good2 f n pr G B ((gcM f n).runO cs L.flatten).2 ∧ AtRest n G ((gcM f n).runO cs L.flatten).2 := by
  obtain ⟨G, B, h1, h2⟩ := gc_Good2 hf hn hpr hl
  exact h1.rounds hR hc (by omega) hcs L (by rw [hc]; exact ok) (by omega) hL (by omega)
end
end Go.Proofs.YtpjabgdcpogdiaaGreatDoor
