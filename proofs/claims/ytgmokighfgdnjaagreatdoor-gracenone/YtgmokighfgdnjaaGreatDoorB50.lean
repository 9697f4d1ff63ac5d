import Derived.Test.YtgmokighfgdnjaaGreatDoorB46
import Derived.Test.YtgmokighfgdnjaaGreatDoorB47
import Derived.Test.YtgmokighfgdnjaaGreatDoorB48

/- GfA -/
namespace Go.Proofs.YtgmokighfgdnjaaGreatDoor
open Go.RowKit

def GI.rel (s : List GI) (a : Nat) : GI → GI
  | .zero r l => .zero r (a + gAt l s)
  | .same r b l => .same r b (a + gAt l s)
  | .goto l => .goto (a + gAt l s)
  | i => i
def rcd (f : Nat) : List Tg → Nat → List GI
  | [], _ => []
  | tg :: l, a => (tgCode f tg).map (GI.rel (tgCode f tg) a) ++ rcd f l (a + (tgCode f tg).length)
def rNext (q : Nat) (r : Nat → Int) : GI → Nat
  | .zero a l => if r a = 0 then l else q + 1
  | .same a b l => if r a = r b then l else q + 1
  | .goto l => l
  | _ => q + 1
def rStep (m : Mk) (L : List GI) (t : Nat) : Mk := match L[m.pc t]? with
  | none => m
  | some i => gExec (m.setPc t (rNext (m.pc t) (m.regs t) i)) t i
def rTurn (m : Mk) (Ls : List (List GI)) (k : Nat) : Mk := if k % (2 * Ls.length) < Ls.length then rStep m (Ls.getD (k % (2 * Ls.length)) []) (k % (2 * Ls.length)) else m.drain1 (k % (2 * Ls.length) - Ls.length)
def rRun (m : Mk) (Ls : List (List GI)) : List Nat → Mk
  | [] => m
  | k :: l => rRun (rTurn m Ls k) Ls l
theorem rRun_append (Ls : List (List GI)) : ∀ (a b : List Nat) (m : Mk), rRun m Ls (a ++ b) = rRun (rRun m Ls a) Ls b
  | [], _, _ => rfl
  | k :: a, b, m => rRun_append Ls a b (rTurn m Ls k)
theorem rExec_rel (m : Mk) (t : Nat) (s : List GI) (a : Nat) (i : GI) : gExec m t (i.rel s a) = gExec m t i := by cases i <;> rfl
theorem rNext_rel (s : List GI) (a q : Nat) (r : Nat → Int) (i : GI) : rNext (a + q) r (i.rel s a) = a + gNext s q r i := by
  cases i with
  | zero x l =>
    show (if r x = 0 then a + gAt l s else a + q + 1) = a + (if r x = 0 then gAt l s else q + 1)
    split <;> rfl
  | same x y l =>
    show (if r x = r y then a + gAt l s else a + q + 1) = a + (if r x = r y then gAt l s else q + 1)
    split <;> rfl
  | _ => rfl
theorem rcd_len (f : Nat) : ∀ (B : List (Tg × ByteArray)) (a : Nat), (rcd f (B.map (·.1)) a).length = (cd f B).length
  | [], _ => rfl
  | x :: B, a => by
    show (List.map (GI.rel (tgCode f x.1) a) (tgCode f x.1) ++ rcd f (B.map fun y : Tg × ByteArray => y.1) (a + (tgCode f x.1).length)).length = (gCode x.2 (tgCode f x.1) ++ cd f B).length
    rw [List.length_append, List.length_append, rcd_len f B]
    unfold gCode
    rw [List.length_map, List.length_map]
theorem rcd_at {f : Nat} (hf : 1 ≤ f ∧ f ≤ 4) {L : List Ins} {m : Mk} {t : Nat} : ∀ (B : List (Tg × ByteArray)) (A : List Ins), Apart f A B → L = A ++ cd f B → A.length ≤ m.pc t → m.pc t < L.length →
    ∃ i, (rcd f (B.map (·.1)) A.length)[m.pc t - A.length]? = some i ∧ doneAt L (m.pc t) = false ∧ m.step L t = gExec (m.setPc t (rNext (m.pc t) (m.regs t) i)) t i
  | [], A, _, hL, h1, h2 => by
    rw [hL] at h2
    simp [cd] at h2
    omega
  | x :: B, A, hA, hL, h1, h2 => by
    have hL' : L = A ++ (gCode x.2 (tgCode f x.1) ++ cd f B) := hL
    by_cases hq : m.pc t - A.length < (tgCode f x.1).length
    · obtain ⟨i, hi⟩ : ∃ i, (tgCode f x.1)[m.pc t - A.length]? = some i := ⟨_, List.getElem?_eq_getElem hq⟩
      have hpc : m.pc t = A.length + (m.pc t - A.length) := by omega
      obtain ⟨g1, g2⟩ := gstep hL' hpc hi hA.1 (tg_ok hf x.1)
      refine ⟨i.rel (tgCode f x.1) A.length, ?_, g1, ?_⟩
      · show ((tgCode f x.1).map (GI.rel (tgCode f x.1) A.length) ++ _)[_]? = _
        rw [List.getElem?_append_left (by rw [List.length_map]; exact hq), List.getElem?_map, hi]
        rfl
      · have e := rNext_rel (tgCode f x.1) A.length (m.pc t - A.length) (m.regs t) i
        rw [show A.length + (m.pc t - A.length) = m.pc t by omega] at e
        rw [g2, rExec_rel, e]
    · have hl : (A ++ gCode x.2 (tgCode f x.1)).length = A.length + (tgCode f x.1).length := by
        rw [List.length_append]
        unfold gCode
        rw [List.length_map]
      obtain ⟨i, k1, k2, k3⟩ := rcd_at hf B (A ++ gCode x.2 (tgCode f x.1)) hA.2 (by rw [hL', List.append_assoc]) (by rw [hl]; omega) h2
      rw [hl] at k1
      refine ⟨i, ?_, k2, k3⟩
      show ((tgCode f x.1).map (GI.rel (tgCode f x.1) A.length) ++ rcd f (B.map (·.1)) (A.length + (tgCode f x.1).length))[_]? = _
      rw [List.getElem?_append_right (by rw [List.length_map]; omega), List.length_map, ← k1]
      congr 1
      omega

structure Told' (f n : Nat) (cs : List (List Ins)) (Ls : List (List GI)) : Prop where
  hf : 1 ≤ f ∧ f ≤ 4
  lc : cs.length = n
  ll : Ls.length = n
  at' : ∀ t, t < n → ∃ B, cs[t]? = some (cd f B) ∧ Ls[t]? = some (rcd f (B.map (·.1)) 0) ∧ Apart f [] B
section
variable {f n : Nat} {cs : List (List Ins)} {Ls : List (List GI)}
theorem Told'.code (h : Told' f n cs Ls) {t : Nat} (ht : t < n) (m : Mk) : (doneAt (cs.getD t []) (m.pc t) = true ∧ (Ls.getD t []).length ≤ m.pc t ∧ rStep m (Ls.getD t []) t = m) ∨ (doneAt (cs.getD t []) (m.pc t) = false ∧ m.pc t < (Ls.getD t []).length ∧ m.step (cs.getD t []) t = rStep m (Ls.getD t []) t) := by
  obtain ⟨B, h1, h2, h3⟩ := h.at' t ht
  have e1 : cs.getD t [] = cd f B := by rw [List.getD_eq_getElem?_getD, h1]; rfl
  have e2 : Ls.getD t [] = rcd f (B.map (·.1)) 0 := by rw [List.getD_eq_getElem?_getD, h2]; rfl
  have hl := rcd_len f B 0
  rw [e1, e2]
  by_cases hp : m.pc t < (cd f B).length
  · obtain ⟨i, k1, k2, k3⟩ := rcd_at h.hf (L := cd f B) (m := m) (t := t) B [] h3 rfl (Nat.zero_le _) hp
    rw [show m.pc t - ([] : List Ins).length = m.pc t from rfl] at k1
    refine .inr ⟨k2, by rw [hl]; exact hp, ?_⟩
    rw [k3]
    unfold rStep
    rw [show (rcd f (B.map (·.1)) 0)[m.pc t]? = some i from k1]
  · refine .inl ⟨?_, by rw [hl]; omega, ?_⟩
    · unfold doneAt
      rw [List.getElem?_eq_none (by omega)]
    · unfold rStep
      rw [List.getElem?_eq_none (by rw [hl]; omega)]
theorem Told'.stepO (h : Told' f n cs Ls) {t : Nat} (ht : t < n) (m : Mk) : (m.stepO cs (t : Int)).2 = rStep m (Ls.getD t []) t := by
  unfold Mk.stepO
  rw [if_pos ⟨by omega, by rw [h.lc]; omega⟩, show ((t : Int)).toNat = t from rfl]
  rcases h.code ht m with ⟨h1, -, h3⟩ | ⟨h1, -, h3⟩
  · rw [if_pos h1, h3]
  · rw [h1, if_neg (by decide)]
    exact h3
theorem Told'.turn (h : Told' f n cs Ls) (hn : 1 ≤ n) (m : Mk) (k : Nat) : (m.turnO cs (k : Int)).2 = rTurn m Ls k := by
  have e : ((k : Int) % (2 * (cs.length : Int))) = ((k % (2 * n) : Nat) : Int) := by
    rw [h.lc, show (2 * (n : Int)) = ((2 * n : Nat) : Int) by push_cast; rfl, ← Int.natCast_emod]
  have hlt : k % (2 * n) < 2 * n := Nat.mod_lt _ (by omega)
  unfold Mk.turnO rTurn
  rw [e, h.ll, h.lc]
  by_cases hk : k % (2 * n) < n
  · rw [if_pos (by omega), if_pos hk]
    exact h.stepO hk m
  · rw [if_neg (by omega), if_neg hk]
    unfold Mk.drainO
    rw [if_pos ⟨by omega, by rw [h.lc]; omega⟩, show (((k % (2 * n) : Nat) : Int) - (n : Int)).toNat = k % (2 * n) - n by omega]
    split
    · rename_i hw
      rw [drain1_nil hw]
    · rfl
end
theorem map_nm (l : List (Tg × Nat)) : (nm l).map (·.1) = l.map (·.1) := by
  unfold nm
  rw [List.map_map]; rfl
def Cs.rc (f : Nat) (wt : Bool) (c : Cs) : List GI := rcd f ((c.segs wt).map (·.1)) 0
theorem ord_false : ∀ (w : Bool) (tm : Fin 4) (rd : Fin 6) (ns : Bool), ordB 0 ((⟨w, tm.val, rd.val, ns⟩ : Cs).segs false) = true := by decide +kernel
theorem Cs.apart (f : Nat) (wt : Bool) {c : Cs} (h : c.ok) : Apart f [] (nm (c.segs wt)) := by
  obtain ⟨w, tm, rd, ns⟩ := c
  have h1 : tm ≤ 3 := h.1
  have h2 : rd ≤ 5 := h.2
  refine ordB_is _ 0 [] ?_ (fun _ _ _ => noLab_nil _) (noLab_nil _)
  cases wt
  · exact ord_false w ⟨tm, by omega⟩ ⟨rd, by omega⟩ ns
  · have h3 := cast_all w ⟨tm, by omega⟩ ⟨rd, by omega⟩ ns
    simp only [Bool.and_eq_true] at h3
    exact h3.2
theorem casts_told {f : Nat} (hf : 1 ≤ f ∧ f ≤ 4) (wt : Bool) {cast : List Cs} (h : ∀ c ∈ cast, c.ok) : Told' f cast.length (cast.map (Cs.code f wt)) (cast.map (Cs.rc f wt)) := by
  refine ⟨hf, by rw [List.length_map], by rw [List.length_map], fun t ht => ?_⟩
  have hc : cast[t]? = some cast[t] := List.getElem?_eq_getElem ht
  refine ⟨nm (cast[t].segs wt), ?_, ?_, Cs.apart f wt (h _ (List.getElem_mem ht))⟩
  · rw [List.getElem?_map, hc]; rfl
  · rw [List.getElem?_map, hc, map_nm]; rfl

def nonCast (R : Nat) : List Cs := [⟨false, 1, R, false⟩, ⟨true, 1, 0, false⟩]
def nonC (f R : Nat) : List (List GI) := (nonCast R).map (Cs.rc f false)
def rFind (Ls : List (List GI)) : Nat → Mk → Option Mk
  | 0, _ => none
  | k + 1, m => if m.regs 0 3 = 0 then rFind Ls k (rTurn m Ls 0) else some m
def reps (a b j : Nat) : List Nat := (List.replicate j [a, b]).flatten
def noneB (f R : Nat) : Bool := match rFind (nonC f R) 40 (gcM f 2) with
  | none => false
  | some m1 =>
    decide (((nonC f R).getD 1 []).length ≤ (rRun m1 (nonC f R) (reps 1 3 40)).pc 1) && (((rRun m1 (nonC f R) (reps 1 3 40)).mem.waits 1).isEmpty &&
    (decide (((nonC f R).getD 0 []).length ≤ (rRun (rRun m1 (nonC f R) (reps 1 3 40)) (nonC f R) (reps 0 2 80)).pc 0) && (((rRun (rRun m1 (nonC f R) (reps 1 3 40)) (nonC f R) (reps 0 2 80)).mem.waits 0).isEmpty && decide (0 < (rRun (rRun m1 (nonC f R) (reps 1 3 40)) (nonC f R) (reps 0 2 80)).faults))))
theorem noneB_all : ∀ (f : Fin 4) (R : Fin 5), noneB (f.val + 1) (R.val + 1) = true := by decide +kernel
theorem reps_add (a b j k : Nat) : reps a b (j + k) = reps a b j ++ reps a b k := by
  unfold reps
  rw [← List.flatten_append, List.replicate_append_replicate]
theorem reps_succ (a b j : Nat) : reps a b (j + 1) = reps a b j ++ [a, b] := by rw [reps_add]; rfl
theorem rest_turn {Ls : List (List GI)} {m : Mk} {a b : Nat} (ha : rTurn m Ls a = m) (hb : rTurn m Ls b = m) : ∀ j, rRun m Ls (reps a b j) = m
  | 0 => rfl
  | j + 1 => by
    rw [Nat.add_comm, reps_add, rRun_append]
    show rRun (rTurn (rTurn m Ls a) Ls b) Ls (reps a b j) = m
    rw [ha, hb]
    exact rest_turn ha hb j
theorem rStep_done {m : Mk} {L : List GI} {t : Nat} (h : L.length ≤ m.pc t) : rStep m L t = m := by
  unfold rStep
  rw [List.getElem?_eq_none h]
theorem rTurn_two {Ls : List (List GI)} (h : Ls.length = 2) (m : Mk) : rTurn m Ls 0 = rStep m (Ls.getD 0 []) 0 ∧ rTurn m Ls 1 = rStep m (Ls.getD 1 []) 1 ∧ rTurn m Ls 2 = m.drain1 0 ∧ rTurn m Ls 3 = m.drain1 1 := by
  unfold rTurn
  rw [h]
  exact ⟨rfl, rfl, rfl, rfl⟩
theorem none_plain {f R : Nat} (hf : 1 ≤ f ∧ f ≤ 4) (hR : 1 ≤ R ∧ R ≤ 5) : ∃ m1, rFind (nonC f R) 40 (gcM f 2) = some m1 ∧ 0 < (rRun (rRun m1 (nonC f R) (reps 1 3 2000)) (nonC f R) (reps 0 2 2000)).faults := by
  have h := noneB_all ⟨f - 1, by omega⟩ ⟨R - 1, by omega⟩
  simp only [show f - 1 + 1 = f by omega, show R - 1 + 1 = R by omega] at h
  unfold noneB at h
  cases h1 : rFind (nonC f R) 40 (gcM f 2) with
  | none => rw [h1] at h; cases h
  | some m1 =>
    rw [h1] at h
    simp only [Bool.and_eq_true, decide_eq_true_eq, List.isEmpty_iff] at h
    obtain ⟨k1, k2, k3, k4, k5⟩ := h
    refine ⟨m1, rfl, ?_⟩
    have e1 : rRun m1 (nonC f R) (reps 1 3 2000) = rRun m1 (nonC f R) (reps 1 3 40) := by
      rw [show 2000 = 40 + 1960 from rfl, reps_add, rRun_append]
      refine rest_turn ?_ ?_ 1960
      · rw [(rTurn_two rfl _).2.1]; exact rStep_done k1
      · rw [(rTurn_two rfl _).2.2.2]; exact drain1_nil k2
    rw [e1]
    generalize rRun m1 (nonC f R) (reps 1 3 40) = m2 at *
    have e2 : rRun m2 (nonC f R) (reps 0 2 2000) = rRun m2 (nonC f R) (reps 0 2 80) := by
      rw [show 2000 = 80 + 1920 from rfl, reps_add, rRun_append]
      refine rest_turn ?_ ?_ 1920
      · rw [(rTurn_two rfl _).1]; exact rStep_done k3
      · rw [(rTurn_two rfl _).2.2.1]; exact drain1_nil k4
    rw [e2]
    exact k5
end Go.Proofs.YtgmokighfgdnjaaGreatDoor

/- GfB -/
namespace Go.Proofs.YtgmokighfgdnjaaGreatDoor
open Go.RowKit Go.Extern.Stop Go.Stop Go.Extern Go.Maps Go.WideMaps Go.Sort

def AtRel (cs : List (List Ins)) (p : RkPl) (m0 : Mk) (w : World) (k : Nat) (m : Mk) (wr : World) : Prop := ∃ r v, RkStep cs p m0.mem w r v m wr ∧ RkX cs (p.to r v) m (1 + k) wr
theorem AtRel.turn {cs : List (List Ins)} {p : RkPl} {m0 : Mk} {w : World} {k : Nat} {m : Mk} {wr : World} (h : AtRel cs p m0 w k m wr) (hk : k ≤ 1000000) (x : Int) :
    Calls Tryz.prog 21 #[.pointer (some ⟨p.k, 0, none⟩), .int .i64 x] wr fun e w' => ∃ c : Int, e = .returned (.int .i64 c) ∧ AtRel cs p m0 w (k + 1) (m.turnO cs x).2 w' := by
  obtain ⟨r, v, h1, h2⟩ := h
  refine (rturn_any h2 x).mono ?_
  rintro e w' ⟨he, r', v', h3⟩
  exact ⟨_, he, r', v', h1.trans h3, h2.of h3 (h2.ok.turnO h2.right x (by omega)) (by omega)⟩

set_option maxRecDepth 20000 in
set_option maxHeartbeats 1000000 in
theorem gnone_out (f R : Int) (w : World) (h : ¬ ((1 ≤ f ∧ f ≤ 4) ∧ (1 ≤ R ∧ R ≤ 5))) :
    Calls Tryz.prog 6 #[.int .i64 f, .int .i64 R] w fun e w' => e = .returned (.bool true) ∧ Below w.heap.size w w' := by
  have HF := hide (flavoured_any w)
  have hc : f < 1 ∨ ¬ f < 1 ∧ (4 < f ∨ ¬ 4 < f ∧ (R < 1 ∨ ¬ R < 1 ∧ 5 < R)) := by omega
  clear h
  go_enter Tryz.func6, Tryz.ntmps6
  go_wp2_with fail
  refine HF.out.mono ?_
  rintro e w1 ⟨rfl, hb⟩
  clear HF
  rcases hc with h1 | ⟨h1, h2 | ⟨h2, h3 | ⟨h3, h4⟩⟩⟩
  all_goals
    go_wp2_with fail
    go_ret
    exact ⟨rfl, hb⟩

set_option maxRecDepth 20000 in
set_option maxHeartbeats 4000000 in
theorem gnone_in {f R : Nat} (hf : 1 ≤ f ∧ f ≤ 4) (hR : 1 ≤ R ∧ R ≤ 5) (w : World) :
    Calls Tryz.prog 6 #[.int .i64 f, .int .i64 R] w fun e w' => e = .returned (.bool true) ∧ Below w.heap.size w w' := by
  have HF := hide (flavoured_any w)
  have hok : ∀ c ∈ nonCast R, c.ok := fun c hc => by
    simp only [nonCast, List.mem_cons, List.not_mem_nil, or_false] at hc
    rcases hc with rfl | rfl
    · exact ⟨by show 1 ≤ 3; decide, by show R ≤ 5; omega⟩
    · exact ⟨by show 1 ≤ 3; decide, by show 0 ≤ 5; decide⟩
  have hT : Told' f 2 ((nonCast R).map (Cs.code f false)) (nonC f R) := casts_told hf false hok
  obtain ⟨m1, hm1, hm3⟩ := none_plain hf hR
  have HPL : Hid (∀ w' , Below w.heap.size w w' → Calls Tryz.prog 20 #[.int .i64 f, .slice (some ⟨w'.heap.size, 0, none⟩) 2 2, .bool false] (w'.alloc (.cells #[.bool false, .int .i64 1, .int .i64 R, .bool false, .bool true, .int .i64 1, .int .i64 0, .bool false] 55)) fun e w'' => ∃ p : RkPl, e = .returned (.tuple #[.pointer (some ⟨p.k, 0, none⟩), .bool true]) ∧ Hid (RkX ((nonCast R).map (Cs.code f false)) p (gcM f 2) 1 w'' ∧ Below w.heap.size w w'' ∧ ∀ b, p.fp 2 (gcM f 2).mem b → w.heap.size ≤ b)) := hide fun w' hb => by
    have hb2 : Below w.heap.size w (w'.alloc (.cells #[.bool false, .int .i64 1, .int .i64 R, .bool false, .bool true, .int .i64 1, .int .i64 0, .bool false] 55)) := hb.alloc hb.size _
    have hl : castsAt (some ⟨w'.heap.size, 0, none⟩) ((nonCast R).map Cs.toI) (w'.alloc (.cells #[.bool false, .int .i64 1, .int .i64 R, .bool false, .bool true, .int .i64 1, .int .i64 0, .bool false] 55)) := fun i c hc => by
      have n := World.cell?_alloc_new w' #[.bool false, .int .i64 1, .int .i64 R, .bool false, .bool true, .int .i64 1, .int .i64 0, .bool false] 55
      rcases i with _ | _ | i
      · cases hc
        exact ⟨_, 0, rfl, n 0, n 1, n 2, n 3⟩
      · cases hc
        exact ⟨_, 0, rfl, n 4, n 5, n 6, n 7⟩
      · simp [nonCast] at hc
    refine (played_ok hf false (nonCast R) hok 2 rfl (by decide) (by decide) _ 2 _ hl).mono ?_
    rintro e w'' ⟨p, he, hh⟩
    obtain ⟨h1, h2, h3⟩ := hh.out
    exact ⟨p, he, hide ⟨h1, below_step hb2 h2, fun b hb' => Nat.le_trans hb2.size (h3 b hb')⟩⟩
  have HT := hide (fun m k => hT.turn (by decide) m k)
  have HCL : Hid (((nonCast R).map (Cs.code f false)).length = 2) := hide rfl
  have HM1 := hide hm1
  have HM3 := hide hm3
  have i1 : ¬ (f : Int) < 1 := by omega
  have i2 : ¬ 4 < (f : Int) := by omega
  have i3 : ¬ (R : Int) < 1 := by omega
  have i4 : ¬ 5 < (R : Int) := by omega
  clear hok hT hf hR hm1 hm3
  generalize (nonCast R).map (Cs.code f false) = cs at *
  generalize nonC f R = Ls at *
  generalize gcM f 2 = m0 at *
  generalize (f : Int) = fi at *
  generalize (R : Int) = Ri at *
  go_enter Tryz.func6, Tryz.ntmps6
  go_wp2_with fail
  refine HF.out.mono ?_
  rintro e w1 ⟨rfl, hb1⟩
  have HP1 := hide (HPL.out w1 hb1)
  clear HF HPL hb1
  go_wp2_with fail
  refine HP1.out.mono ?_
  rintro e w3 ⟨p, rfl, hR⟩
  have H0 : Hid (AtRel cs p m0 w3 0 m0 w3) := hide ⟨p.rp, p.mv, RkStep.refl hR.out.1.at', hR.out.1⟩
  have HB3 := hide hR.out.2.1
  have HBL : Hid (∀ k m wr, AtRel cs p m0 w3 k m wr → Below w.heap.size w wr) := hide (fun k m wr ⟨r, v, hk, _⟩ => HB3.out.trans (hk.turns.below HB3.out.size (fun b o hb hf => by
    rw [HCL.out] at hf
    have := hR.out.2.2 b hf
    omega)))
  have HFA : Hid (∀ k m wr, AtRel cs p m0 w3 k m wr → wr.cell? ⟨p.k, 3, none⟩ = some (.int .i64 m.faults)) := hide (fun k m wr ⟨r, v, hk, _⟩ => hk.at'.mFaults)
  have HRG : Hid (∀ k m wr, AtRel cs p m0 w3 k m wr → wr.cell? ⟨p.k, 1, none⟩ = some (.slice (some ⟨p.tb, 0, none⟩) 2 p.tcap) ∧ wr.cell? ⟨p.tb, 1, none⟩ = some (.slice (some ⟨p.rb 0, 0, none⟩) 8 (p.rcap 0)) ∧ wr.cell? ⟨p.rb 0, 3, none⟩ = some (.int .i64 (m.regs 0 3))) := hide (fun k m wr ⟨r, v, hk, _⟩ => by
    have g1 := hk.at'.mT
    have g2 := hk.at'.tRegs 0 (by rw [HCL.out]; decide)
    have g3 := hk.at'.regs 0 3 (by rw [HCL.out]; decide) (by decide)
    rw [HCL.out] at g1
    exact ⟨g1, g2, g3⟩)
  have HTU : Hid (∀ k m wr (x : Nat), k ≤ 1000000 → AtRel cs p m0 w3 k m wr → Calls Tryz.prog 21 #[.pointer (some ⟨p.k, 0, none⟩), .int .i64 (x : Int)] wr fun e w' => ∃ c : Int, e = .returned (.int .i64 c) ∧ AtRel cs p m0 w3 (k + 1) (rTurn m Ls x) w') := hide (fun k m wr x hk h => by
    rw [← HT.out m x]
    exact h.turn hk x)
  clear hR HP1 HT HCL HB3
  go_wp2_with fail
  go_loopw [8] (fun i wr => ∃ j : Nat, j ≤ 40 ∧ i = .int .i64 j ∧ Hid (∃ m, rFind Ls (40 - j) m = some m1 ∧ AtRel cs p m0 w3 j m wr)) (fun i _ => 40 - (intOf i).toNat)
  case atStart => exact ⟨0, Nat.zero_le _, rfl, hide ⟨m0, HM1.out, H0.out⟩⟩
  case round =>
    clear H0
    obtain ⟨j, hj, rfl, HH⟩ := hrel
    obtain ⟨m, hfind, hat⟩ := HH.out
    obtain ⟨c1, c2, c3⟩ := HRG.out j m wr hat
    have ji : (j : Int) < 2000 := by omega
    obtain ⟨d, hd⟩ : ∃ d, 40 - j = d + 1 := by
      cases h : 40 - j with
      | zero => rw [h] at hfind; cases hfind
      | succ d => exact ⟨d, rfl⟩
    rw [hd] at hfind
    by_cases h0 : m.regs 0 3 = 0
    · rw [show rFind Ls (d + 1) m = rFind Ls d (rTurn m Ls 0) from if_pos h0] at hfind
      rw [h0] at c3
      have HC := hide (HTU.out j m wr 0 (by omega) hat)
      have HFI := hide hfind
      clear h0 hat HH hfind
      go_wp2_with fail
      refine HC.out.mono ?_
      rintro e w5 ⟨c, rfl, h5⟩
      have HN : Hid (∃ m, rFind Ls (40 - (j + 1)) m = some m1 ∧ AtRel cs p m0 w3 (j + 1) m w5) := hide ⟨_, by rw [show 40 - (j + 1) = d by omega]; exact HFI.out, h5⟩
      clear h5 HC HFI c1 c2 c3
      go_wp2_with fail
      go_roundw
      case rel => exact ⟨j + 1, by omega, by go_num, HN⟩
      case measure => simp [intOf]; omega
    · rw [show rFind Ls (d + 1) m = some m from if_neg h0] at hfind
      obtain rfl : m = m1 := Option.some.inj hfind
      have r0 : (m.regs 0 3 == 0) = false := beq_eq_false_iff_ne.2 h0
      have HG1 : Hid (∃ k, k ≤ 40 ∧ AtRel cs p m0 w3 k m wr) := hide ⟨j, hj, hat⟩
      generalize hx : m.regs 0 3 = x at *
      clear hx h0 hat HH hfind hd HRG HM1
      go_wp2_with fail
      clear r0 c1 c2 c3
      go_loopw [9] (fun i wr => ∃ j : Nat, j ≤ 2000 ∧ i = .int .i64 j ∧ Hid (∃ k, k ≤ 40 + 2 * j ∧ AtRel cs p m0 w3 k (rRun m Ls (reps 1 3 j)) wr)) (fun i _ => 2000 - (intOf i).toNat)
      case atStart => exact ⟨0, Nat.zero_le _, rfl, HG1⟩
      case round =>
        clear HG1
        obtain ⟨j2, hj2, rfl, HH⟩ := hrel
        obtain ⟨k, hk, hat⟩ := HH.out
        by_cases hlt : j2 < 2000
        · have jj : (j2 : Int) < 2000 := by omega
          have HC := hide (HTU.out k _ wr 1 (by omega) hat)
          have HS : Hid (rRun m Ls (reps 1 3 (j2 + 1)) = rTurn (rTurn (rRun m Ls (reps 1 3 j2)) Ls 1) Ls 3) := hide (by rw [reps_succ, rRun_append]; rfl)
          have hk3 : k + 1 ≤ 1000000 := by omega
          have HK : Hid (k + 1 + 1 ≤ 40 + 2 * (j2 + 1)) := hide (by omega)
          clear hat HH hk
          generalize rRun m Ls (reps 1 3 j2) = M at *
          go_wp2_with fail
          refine HC.out.mono ?_
          rintro e w5 ⟨c, rfl, h5⟩
          have HC2 := hide (HTU.out (k + 1) _ w5 3 hk3 h5)
          clear h5 HC
          go_wp2_with fail
          refine HC2.out.mono ?_
          rintro e w6 ⟨c', rfl, h6⟩
          have HN : Hid (∃ k, k ≤ 40 + 2 * (j2 + 1) ∧ AtRel cs p m0 w3 k (rRun m Ls (reps 1 3 (j2 + 1))) w6) := hide ⟨_, HK.out, by rw [HS.out]; exact h6⟩
          clear h6 HC2 HK HS hk3
          go_wp2_with fail
          go_roundw
          case rel => exact ⟨j2 + 1, by omega, by go_num, HN⟩
          case measure => simp [intOf]; omega
        · obtain rfl : j2 = 2000 := by omega
          have HG2 : Hid (∃ k, k ≤ 4040 + 2 * 0 ∧ AtRel cs p m0 w3 k (rRun (rRun m Ls (reps 1 3 2000)) Ls (reps 0 2 0)) wr) := hide ⟨k, by omega, hat⟩
          clear hat HH hk
          generalize rRun m Ls (reps 1 3 2000) = M2 at *
          rw [show ((2000 : Nat) : Int) = 2000 from rfl]
          go_wp2_with fail
          go_loopw [10] (fun i wr => ∃ j : Nat, j ≤ 2000 ∧ i = .int .i64 j ∧ Hid (∃ k, k ≤ 4040 + 2 * j ∧ AtRel cs p m0 w3 k (rRun M2 Ls (reps 0 2 j)) wr)) (fun i _ => 2000 - (intOf i).toNat)
          case atStart => exact ⟨0, Nat.zero_le _, rfl, HG2⟩
          case round =>
            clear HG2
            obtain ⟨j3, hj3, rfl, HH⟩ := hrel
            obtain ⟨k, hk, hat⟩ := HH.out
            by_cases hlt3 : j3 < 2000
            · have jj : (j3 : Int) < 2000 := by omega
              have HC := hide (HTU.out k _ wr 0 (by omega) hat)
              have HS : Hid (rRun M2 Ls (reps 0 2 (j3 + 1)) = rTurn (rTurn (rRun M2 Ls (reps 0 2 j3)) Ls 0) Ls 2) := hide (by rw [reps_succ, rRun_append]; rfl)
              have hk3 : k + 1 ≤ 1000000 := by omega
              have HK : Hid (k + 1 + 1 ≤ 4040 + 2 * (j3 + 1)) := hide (by omega)
              clear hat HH hk HM3
              generalize rRun M2 Ls (reps 0 2 j3) = M at *
              go_wp2_with fail
              refine HC.out.mono ?_
              rintro e w5 ⟨c, rfl, h5⟩
              have HC2 := hide (HTU.out (k + 1) _ w5 2 hk3 h5)
              clear h5 HC
              go_wp2_with fail
              refine HC2.out.mono ?_
              rintro e w6 ⟨c', rfl, h6⟩
              have HN : Hid (∃ k, k ≤ 4040 + 2 * (j3 + 1) ∧ AtRel cs p m0 w3 k (rRun M2 Ls (reps 0 2 (j3 + 1))) w6) := hide ⟨_, HK.out, by rw [HS.out]; exact h6⟩
              clear h6 HC2 HK HS hk3
              go_wp2_with fail
              go_roundw
              case rel => exact ⟨j3 + 1, by omega, by go_num, HN⟩
              case measure => simp [intOf]; omega
            · obtain rfl : j3 = 2000 := by omega
              have hFa := HFA.out _ _ _ hat
              have hB := HBL.out _ _ _ hat
              have hpos := HM3.out
              generalize (rRun M2 Ls (reps 0 2 2000)).faults = F at *
              have HPOS : Hid (0 < F) := hide hpos
              clear hat HH hk hpos HM3 HFA HBL HTU
              rw [show ((2000 : Nat) : Int) = 2000 from rfl]
              go_wp2_with fail
              go_ret
              refine ⟨?_, hB⟩
              show Ending.returned (Value.bool (decide (0 < F))) = _
              rw [decide_eq_true HPOS.out]
theorem gnone_any (f R : Int) (w : World) : Calls Tryz.prog 6 #[.int .i64 f, .int .i64 R] w fun e w' => e = .returned (.bool true) ∧ Below w.heap.size w w' := by
  by_cases h : (1 ≤ f ∧ f ≤ 4) ∧ (1 ≤ R ∧ R ≤ 5)
  · obtain ⟨⟨f1, f2⟩, r1, r2⟩ := h
    obtain ⟨n, rfl⟩ := Int.eq_ofNat_of_zero_le (show 0 ≤ f by omega)
    obtain ⟨k, rfl⟩ := Int.eq_ofNat_of_zero_le (show 0 ≤ R by omega)
    exact gnone_in ⟨by omega, by omega⟩ ⟨by omega, by omega⟩ w
  · exact gnone_out f R w h
end Go.Proofs.YtgmokighfgdnjaaGreatDoor

/- GfC -/
namespace Go.Proofs.YtgmokighfgdnjaaGreatDoor
open Go.ChangeShapes Go.WideShapes Go.ChangeAt Go.RowKit Go.Joins Go.Deep

theorem five_metN (os : Os) (args : Array Value) : laidMetH Tryz.prog Rows.graceNoneRow.laid ((World.laidAll Tryz.prog os Rows.graceNoneRow.laid).forCall (fun _ _ => 0) ⟨#[], args, []⟩).memory := five_met os args
theorem readableGN : ∀ t ∈ [3, 3], Tryz.prog.readableRec t = true ∧ t < Tryz.prog.types.size := by
  intro t ht
  simp only [List.mem_cons, List.not_mem_nil, or_false] at ht
  rcases ht with rfl | rfl
  · exact ⟨by kernel_rfl, of_decide_eq_true (by kernel_rfl)⟩
  · exact ⟨by kernel_rfl, of_decide_eq_true (by kernel_rfl)⟩

set_option maxRecDepth 100000 in
theorem gnone_lifted (os : Os) (started : os.Started) (H : Type) (enc : TypeId × Value → H) :
    ReturnsInHanded {} Tryz.checked os 6 .any (fun w args => (Rows.graceNoneSpec.pre enc Tryz.prog Tryz.f6 [] false w args ∧ laidMetH Tryz.prog Rows.graceNoneRow.laid w) ∧ sizedMet enc Tryz.prog Tryz.f6 (OpenSpec.ofChange Rows.graceNoneSpec) false w args)
      (Rows.graceNoneSpec.post enc Tryz.prog Tryz.f6 false true false false) := by
  refine lift_shaped (C := Tryz.checked) (X := fun w _ => laidMetH Tryz.prog Rows.graceNoneRow.laid w) (fun _ _ _ hh h => h.of_heap hh) own started (by kernel_rfl) Tryz.func6
    (ChangeSpec.witness_shaped (enc := enc) (C := Tryz.checked) (os := os) (X := fun w _ => laidMetH Tryz.prog Rows.graceNoneRow.laid w) false (World.laidAll Tryz.prog os Rows.graceNoneRow.laid) #[.int .i64 0, .int .i64 0] 8 (World.laidAll_os _ _ _)
      (World.shaped_of_ZipB (by kernel_rfl) (by kernel_rfl)) (by kernel_rfl) (by kernel_rfl) (by kernel_rfl) (five_metN os _)) ?_
  intro W base args ds gs before hval0 hW hL hsh
  have hval : ∀ (j : Nat) t v, Tryz.f6.params[j]? = some t → args[j]? = some v → Value.okWide Tryz.prog W .any base t v := hval0
  have hW' := hW
  obtain ⟨p, q, hA0, hV, rfl, hfz, hnd⟩ := hW
  have hA : DataW.TrodAll enc Tryz.prog W 0 (fun _ => true) true Tryz.f6.params.toList args.toList ds p := hA0
  rw [Tryz.params6] at hA hval
  have hA2 := hA
  obtain ⟨v0, v1, d0, d1, p0, p1, rfl, rfl, rfl, h0, h1⟩ := trodAll_two hA
  obtain ⟨rfl, rfl⟩ := trodVars_none hV
  obtain ⟨n0, rfl⟩ := okWide_int Tryz.underlying3 (hval 0 3 v0 rfl rfl)
  obtain ⟨n1, rfl⟩ := okWide_int Tryz.underlying3 (hval 1 3 v1 rfl rfl)
  clear hA0 hval0
  simp only [List.append_nil] at hW'
  refine (gnone_any n0 n1 W).mono fun e W' ⟨he, hb⟩ => ?_
  subst he
  refine ⟨_, rfl, _, _, _, [], p0 ++ p1, [], hW', ?_, ?_, ?_, hb.frame _, fun h => by cases h⟩
  · exact trodAll_mk1 (shut_bool Tryz.underlying4 true)
  · exact trodAll_below laidOutA hb _ _ _ _ readableGN hA2
  · rfl

theorem gnone_holds : Rows.GraceNoneSaid :=
  OpenClaim.holds_of_wide 6 Tryz.f6 rfl rfl rfl rfl rfl rfl rfl ⟨rfl, rfl, rfl, rfl, rfl⟩ rfl rfl rfl rfl rfl (by kernel_rfl) Tryz.func6 (by kernel_rfl)
    (of_decide_eq_true (by kernel_rfl)) (by unfold Func.isWrapper; rw [if_neg (of_decide_eq_false (by kernel_rfl))]; exact ⟨rfl, rfl⟩)
    (fun os started H enc _ => gnone_lifted os started H enc)

theorem gnone_card : Rows.GraceNoneCardSaid :=
  Claim7.holds_tied_plain_at .later [] [.data, .data, .data, .sentinel, .sentinel] true (true, "d96b3fadc349f2ad41dda712b7207807a68f691cda14d3f42f35beb17e21310f") true
    gnone_holds (fun _ h => absurd h List.not_mem_nil) (by kernel_rfl) (fun _ h => absurd h List.not_mem_nil) graceNone_row_tie rfl ⟨rfl, rfl⟩ (by kernel_rfl) rfl
    (fun f fn hf hfn => by
      obtain rfl : f = 6 := (Option.some.inj ((show Tryz.prog.funcNamed "quiescent/quiescentlaw2.GraceNone" = some 6 by kernel_rfl).symm.trans hf)).symm
      obtain rfl : fn = Tryz.f6 := (Option.some.inj (Tryz.func6.symm.trans hfn)).symm
      exact ⟨by kernel_rfl, fun j t ht => by
        rw [Tryz.params6] at ht
        rcases j with _ | _ | j
        · obtain rfl : t = 3 := by simpa using ht.symm
          exact (show Tryz.prog.wantsStandIn 3 = false by kernel_rfl)
        · obtain rfl : t = 3 := by simpa using ht.symm
          exact (show Tryz.prog.wantsStandIn 3 = false by kernel_rfl)
        · simp at ht⟩)
    (by kernel_rfl)
#print axioms gnone_card
end Go.Proofs.YtgmokighfgdnjaaGreatDoor
