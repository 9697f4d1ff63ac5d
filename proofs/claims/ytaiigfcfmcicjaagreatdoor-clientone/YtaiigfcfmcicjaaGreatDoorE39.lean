import Derived.Test.YtaiigfcfmcicjaaGreatDoorE38
import Derived.Test.YtaiigfcfmcicjaaGreatDoorE35
import Derived.Test.YtaiigfcfmcicjaaGreatDoorE10
import Derived.Test.YtaiigfcfmcicjaaGreatDoorE12
import Derived.Laws.BitsLemmas
namespace Go.Proofs.YtaiigfcfmcicjaaGreatDoor
set_option maxRecDepth 100000
set_option maxHeartbeats 8000000
section
open Go.RowKit
def relq (s : List GI) (a : Nat) : GI -> GI
 | .zero r l => .zero r (a + gAt l s)
 | .same r b l => .same r b (a + gAt l s)
 | .goto l => .goto (a + gAt l s)
 | i => i
def nextq (q : Nat) (r : Nat -> Int) : GI -> Nat
 | .zero a l => if r a = 0 then l else q + 1
 | .same a b l => if r a = r b then l else q + 1
 | .goto l => l
 | _ => q + 1
theorem exec_relq (m : Mk) (t : Nat) (tg : Tq) (q : Nat) (s : List GI) (a : Nat) (i : GI) : hExec m t tg q (relq s a i) = hExec m t tg q i := by
 unfold hExec
 split
 ·rfl
 ·cases i <;> rfl
theorem next_relq (s : List GI) (a q : Nat) (r : Nat -> Int) (i : GI) : nextq (a + q) r (relq s a i) = a + gNext s q r i := by
 cases i with
 | zero x l =>
  show (if r x = 0 then a + gAt l s else a + q + 1) = a + (if r x = 0 then gAt l s else q + 1)
  split <;> rfl
 | same x y l =>
  show (if r x = r y then a + gAt l s else a + q + 1) = a + (if r x = r y then gAt l s else q + 1)
  split <;> rfl
 | _ => rfl
def hrc (f : Nat) : List Tq -> Nat -> List (Tq × Nat × GI)
 | [], _ => []
 | tg :: l, a => ((tqCode f tg).zipIdx.map fun x => (tg, x.2, relq (tqCode f tg) a x.1)) ++ hrc f l (a + (tqCode f tg).length)
def oStep (L : List (Tq × Nat × GI)) (m : Mk) : Mk := match L[m.pc 0]? with
 | none => m
 | some x => hExec (m.setPc 0 (nextq (m.pc 0) (m.regs 0) x.2.2)) 0 x.1 x.2.1 x.2.2
def oRun (L : List (Tq × Nat × GI)) : Nat -> Mk -> Mk
 | 0, m => m
 | k + 1, m => oRun L k (oStep L m)
theorem oRun_succ (L : List (Tq × Nat × GI)) : ∀ (k : Nat) (m : Mk), oRun L (k + 1) m = oStep L (oRun L k m)
 | 0, _ => rfl
 | k + 1, m => oRun_succ L k (oStep L m)
theorem hrc_at {f : Nat} (hf : 1 <= f /\ f <= 4) {C : List Ins} : ∀ (B : List Tq) (a : Nat), PsAt f C a B -> ∀ m : Mk, a <= m.pc 0 -> m.pc 0 < a + (hrc f B a).length ->
  ∃ x, (hrc f B a)[m.pc 0 - a]? = some x /\ doneAt C (m.pc 0) = false /\ m.step C 0 = hExec (m.setPc 0 (nextq (m.pc 0) (m.regs 0) x.2.2)) 0 x.1 x.2.1 x.2.2 /\ nextq (m.pc 0) (m.regs 0) x.2.2 <= a + (hrc f B a).length
 | [], a, _, m, h1, h2 => by
  have h2 : m.pc 0 < a + 0 := h2
  omega
 | tg :: B, a, h, m, h1, h2 => by
  have hl : (hrc f (tg :: B) a).length = (tqCode f tg).length + (hrc f B (a + (tqCode f tg).length)).length := by
   show (_ ++ _ : List _).length = _
   rw [List.length_append, List.length_map, List.length_zipIdx]
  by_cases hq : m.pc 0 - a < (tqCode f tg).length
  ·obtain ⟨i, hi⟩ : ∃ i, (tqCode f tg)[m.pc 0 - a]? = some i := ⟨_, List.getElem?_eq_getElem hq⟩
   have hpc : m.pc 0 = a + (m.pc 0 - a) := by omega
   obtain ⟨g1, g2⟩ := h.1 _ i hi m 0 hpc
   have e := next_relq (tqCode f tg) a (m.pc 0 - a) (m.regs 0) i
   rw [<- hpc] at e
   refine ⟨(tg, m.pc 0 - a, relq (tqCode f tg) a i), ?_, g1, ?_, ?_⟩
   ·show (((tqCode f tg).zipIdx.map fun x => (tg, x.2, relq (tqCode f tg) a x.1)) ++ _)[_]? = _
    rw [List.getElem?_append_left (by rw [List.length_map, List.length_zipIdx]; exact hq), List.getElem?_map, List.getElem?_zipIdx, hi]
    show some (tg, 0 + (m.pc 0 - a), _) = _
    rw [Nat.zero_add]
   ·rw [g2, exec_relq, e]
   ·dsimp only
    rw [e, hl]
    have := qNext_le (m.regs 0) (tq_ok hf tg) hi
    omega
  ·rw [hl] at h2
   obtain ⟨x, k1, k2, k3, k4⟩ := hrc_at hf B (a + (tqCode f tg).length) h.2 m (by omega) (by omega)
   refine ⟨x, ?_, k2, k3, by rw [hl, <- Nat.add_assoc]; exact k4⟩
   show (((tqCode f tg).zipIdx.map fun x => (tg, x.2, relq (tqCode f tg) a x.1)) ++ _)[_]? = _
   rw [List.getElem?_append_right (by rw [List.length_map, List.length_zipIdx]; omega), List.length_map, List.length_zipIdx, <- k1]
   congr 1
   omega
theorem hrc_end {f : Nat} {C : List Ins} : ∀ (B : List Tq) (a : Nat), PsAt f C a B -> doneAt C (a + (hrc f B a).length) = true
 | [], _, h => h
 | tg :: B, a, h => by
  have hl : (hrc f (tg :: B) a).length = (tqCode f tg).length + (hrc f B (a + (tqCode f tg).length)).length := by
   show (_ ++ _ : List _).length = _
   rw [List.length_append, List.length_map, List.length_zipIdx]
  rw [hl, <- Nat.add_assoc]
  exact hrc_end B _ h.2
def itT (cs : List (List Ins)) (m : Mk) : Nat -> Mk
 | 0 => m
 | k + 1 => ((itT cs m k).turnO cs 0).2
theorem turn_one {C : List Ins} (m : Mk) : (m.turnO [C] 0).2 = if doneAt C (m.pc 0) = true then m else m.step C 0 := by
 unfold Mk.turnO
 rw [if_pos (by show (0 : Int) % (2 * ((1 : Nat) : Int)) < ((1 : Nat) : Int); decide)]
 unfold Mk.stepO
 rw [if_pos (by show (0 : Int) <= 0 % (2 * ((1 : Nat) : Int)) /\ (0 : Int) % (2 * ((1 : Nat) : Int)) < ((1 : Nat) : Int); decide)]
 show (if doneAt C (m.pc 0) = true then ((9 : Nat), m) else (0, m.step C 0)).2 = _
 split <;> rfl
theorem itT_is {f : Nat} (hf : 1 <= f /\ f <= 4) {C : List Ins} {B : List Tq} (h : PsAt f C 0 B) {m : Mk} (h0 : m.pc 0 = 0) : ∀ k, itT [C] m k = oRun (hrc f B 0) k m /\ (oRun (hrc f B 0) k m).pc 0 <= (hrc f B 0).length
 | 0 => ⟨rfl, by show m.pc 0 <= _; rw [h0]; exact Nat.zero_le _⟩
 | k + 1 => by
  obtain ⟨h1, h2⟩ := itT_is hf h h0 k
  rw [oRun_succ]
  show ((itT [C] m k).turnO [C] 0).2 = _ /\ _
  rw [h1, turn_one]
  generalize oRun (hrc f B 0) k m = M at *
  by_cases hlt : M.pc 0 < (hrc f B 0).length
  ·obtain ⟨x, k1, k2, k3, k4⟩ := hrc_at hf B 0 h M (Nat.zero_le _) (by omega)
   rw [Nat.sub_zero] at k1
   have e : oStep (hrc f B 0) M = hExec (M.setPc 0 (nextq (M.pc 0) (M.regs 0) x.2.2)) 0 x.1 x.2.1 x.2.2 := by
    unfold oStep
    rw [k1]
   rw [k2, if_neg (by decide), k3, e, hExec_pc]
   refine ⟨rfl, ?_⟩
   have : (M.setPc 0 (nextq (M.pc 0) (M.regs 0) x.2.2)).pc 0 = nextq (M.pc 0) (M.regs 0) x.2.2 := rfl
   rw [this]
   omega
  ·have hp : M.pc 0 = 0 + (hrc f B 0).length := by omega
   have hd := hrc_end B 0 h
   rw [<- hp] at hd
   have e : oStep (hrc f B 0) M = M := by
    unfold oStep
    rw [List.getElem?_eq_none (by omega)]
   rw [hd, if_pos rfl, e]
   exact ⟨rfl, h2⟩
theorem oRun_end {L : List (Tq × Nat × GI)} {m : Mk} {k : Nat} (h : (oRun L k m).pc 0 = L.length) : ∀ j, oRun L (k + j) m = oRun L k m
 | 0 => rfl
 | j + 1 => by
  rw [<- Nat.add_assoc, oRun_succ, oRun_end h j]
  unfold oStep
  rw [List.getElem?_eq_none (by omega)]
def opsOne (ns : List Int) : List Tq := ns.flatMap fun n => [.put n, .later, .enter, .read, .leave]
def oneM (f : Nat) (ns : List Int) : Mk := oRun (hrc f (opsOne ns ++ [.gone]) 0) 300 (clM f 1)
theorem one10 : ((oneM 1 []).pc 0, (oneM 1 []).faults, (hrc 1 (opsOne [] ++ [.gone]) 0).length) = ((hrc 1 (opsOne [] ++ [.gone]) 0).length, 0, (hrc 1 (opsOne [] ++ [.gone]) 0).length) := by kernel_rfl
theorem onem10 : (oneM 1 []).marks = [] := by kernel_rfl
theorem one11 (k0 : Nat) : ((oneM 1 [Int.ofNat (k0 + 1)]).pc 0, (oneM 1 [Int.ofNat (k0 + 1)]).faults, (hrc 1 (opsOne [Int.ofNat (k0 + 1)] ++ [.gone]) 0).length) = ((hrc 1 (opsOne [Int.ofNat (k0 + 1)] ++ [.gone]) 0).length, 0, (hrc 1 (opsOne [Int.ofNat (k0 + 1)] ++ [.gone]) 0).length) := by kernel_rfl
theorem onem11 (k0 : Nat) : (oneM 1 [Int.ofNat (k0 + 1)]).marks = [(0, Int.ofNat (k0 + 1))] := by kernel_rfl
theorem one12 (k0 k1 : Nat) : ((oneM 1 [Int.ofNat (k0 + 1), Int.ofNat (k1 + 1)]).pc 0, (oneM 1 [Int.ofNat (k0 + 1), Int.ofNat (k1 + 1)]).faults, (hrc 1 (opsOne [Int.ofNat (k0 + 1), Int.ofNat (k1 + 1)] ++ [.gone]) 0).length) = ((hrc 1 (opsOne [Int.ofNat (k0 + 1), Int.ofNat (k1 + 1)] ++ [.gone]) 0).length, 0, (hrc 1 (opsOne [Int.ofNat (k0 + 1), Int.ofNat (k1 + 1)] ++ [.gone]) 0).length) := by kernel_rfl
theorem onem12 (k0 k1 : Nat) : (oneM 1 [Int.ofNat (k0 + 1), Int.ofNat (k1 + 1)]).marks = [(0, Int.ofNat (k0 + 1)), (0, Int.ofNat (k1 + 1))] := by kernel_rfl
theorem one13 (k0 k1 k2 : Nat) : ((oneM 1 [Int.ofNat (k0 + 1), Int.ofNat (k1 + 1), Int.ofNat (k2 + 1)]).pc 0, (oneM 1 [Int.ofNat (k0 + 1), Int.ofNat (k1 + 1), Int.ofNat (k2 + 1)]).faults, (hrc 1 (opsOne [Int.ofNat (k0 + 1), Int.ofNat (k1 + 1), Int.ofNat (k2 + 1)] ++ [.gone]) 0).length) = ((hrc 1 (opsOne [Int.ofNat (k0 + 1), Int.ofNat (k1 + 1), Int.ofNat (k2 + 1)] ++ [.gone]) 0).length, 0, (hrc 1 (opsOne [Int.ofNat (k0 + 1), Int.ofNat (k1 + 1), Int.ofNat (k2 + 1)] ++ [.gone]) 0).length) := by kernel_rfl
theorem onem13 (k0 k1 k2 : Nat) : (oneM 1 [Int.ofNat (k0 + 1), Int.ofNat (k1 + 1), Int.ofNat (k2 + 1)]).marks = [(0, Int.ofNat (k0 + 1)), (0, Int.ofNat (k1 + 1)), (0, Int.ofNat (k2 + 1))] := by kernel_rfl
theorem one14 (k0 k1 k2 k3 : Nat) : ((oneM 1 [Int.ofNat (k0 + 1), Int.ofNat (k1 + 1), Int.ofNat (k2 + 1), Int.ofNat (k3 + 1)]).pc 0, (oneM 1 [Int.ofNat (k0 + 1), Int.ofNat (k1 + 1), Int.ofNat (k2 + 1), Int.ofNat (k3 + 1)]).faults, (hrc 1 (opsOne [Int.ofNat (k0 + 1), Int.ofNat (k1 + 1), Int.ofNat (k2 + 1), Int.ofNat (k3 + 1)] ++ [.gone]) 0).length) = ((hrc 1 (opsOne [Int.ofNat (k0 + 1), Int.ofNat (k1 + 1), Int.ofNat (k2 + 1), Int.ofNat (k3 + 1)] ++ [.gone]) 0).length, 0, (hrc 1 (opsOne [Int.ofNat (k0 + 1), Int.ofNat (k1 + 1), Int.ofNat (k2 + 1), Int.ofNat (k3 + 1)] ++ [.gone]) 0).length) := by kernel_rfl
theorem onem14 (k0 k1 k2 k3 : Nat) : (oneM 1 [Int.ofNat (k0 + 1), Int.ofNat (k1 + 1), Int.ofNat (k2 + 1), Int.ofNat (k3 + 1)]).marks = [(0, Int.ofNat (k0 + 1)), (0, Int.ofNat (k1 + 1)), (0, Int.ofNat (k2 + 1)), (0, Int.ofNat (k3 + 1))] := by kernel_rfl
theorem one20 : ((oneM 2 []).pc 0, (oneM 2 []).faults, (hrc 2 (opsOne [] ++ [.gone]) 0).length) = ((hrc 2 (opsOne [] ++ [.gone]) 0).length, 0, (hrc 2 (opsOne [] ++ [.gone]) 0).length) := by kernel_rfl
theorem onem20 : (oneM 2 []).marks = [] := by kernel_rfl
theorem one21 (k0 : Nat) : ((oneM 2 [Int.ofNat (k0 + 1)]).pc 0, (oneM 2 [Int.ofNat (k0 + 1)]).faults, (hrc 2 (opsOne [Int.ofNat (k0 + 1)] ++ [.gone]) 0).length) = ((hrc 2 (opsOne [Int.ofNat (k0 + 1)] ++ [.gone]) 0).length, 0, (hrc 2 (opsOne [Int.ofNat (k0 + 1)] ++ [.gone]) 0).length) := by kernel_rfl
theorem onem21 (k0 : Nat) : (oneM 2 [Int.ofNat (k0 + 1)]).marks = [(0, Int.ofNat (k0 + 1))] := by kernel_rfl
theorem one22 (k0 k1 : Nat) : ((oneM 2 [Int.ofNat (k0 + 1), Int.ofNat (k1 + 1)]).pc 0, (oneM 2 [Int.ofNat (k0 + 1), Int.ofNat (k1 + 1)]).faults, (hrc 2 (opsOne [Int.ofNat (k0 + 1), Int.ofNat (k1 + 1)] ++ [.gone]) 0).length) = ((hrc 2 (opsOne [Int.ofNat (k0 + 1), Int.ofNat (k1 + 1)] ++ [.gone]) 0).length, 0, (hrc 2 (opsOne [Int.ofNat (k0 + 1), Int.ofNat (k1 + 1)] ++ [.gone]) 0).length) := by kernel_rfl
theorem onem22 (k0 k1 : Nat) : (oneM 2 [Int.ofNat (k0 + 1), Int.ofNat (k1 + 1)]).marks = [(0, Int.ofNat (k0 + 1)), (0, Int.ofNat (k1 + 1))] := by kernel_rfl
theorem one23 (k0 k1 k2 : Nat) : ((oneM 2 [Int.ofNat (k0 + 1), Int.ofNat (k1 + 1), Int.ofNat (k2 + 1)]).pc 0, (oneM 2 [Int.ofNat (k0 + 1), Int.ofNat (k1 + 1), Int.ofNat (k2 + 1)]).faults, (hrc 2 (opsOne [Int.ofNat (k0 + 1), Int.ofNat (k1 + 1), Int.ofNat (k2 + 1)] ++ [.gone]) 0).length) = ((hrc 2 (opsOne [Int.ofNat (k0 + 1), Int.ofNat (k1 + 1), Int.ofNat (k2 + 1)] ++ [.gone]) 0).length, 0, (hrc 2 (opsOne [Int.ofNat (k0 + 1), Int.ofNat (k1 + 1), Int.ofNat (k2 + 1)] ++ [.gone]) 0).length) := by kernel_rfl
theorem onem23 (k0 k1 k2 : Nat) : (oneM 2 [Int.ofNat (k0 + 1), Int.ofNat (k1 + 1), Int.ofNat (k2 + 1)]).marks = [(0, Int.ofNat (k0 + 1)), (0, Int.ofNat (k1 + 1)), (0, Int.ofNat (k2 + 1))] := by kernel_rfl
theorem one24 (k0 k1 k2 k3 : Nat) : ((oneM 2 [Int.ofNat (k0 + 1), Int.ofNat (k1 + 1), Int.ofNat (k2 + 1), Int.ofNat (k3 + 1)]).pc 0, (oneM 2 [Int.ofNat (k0 + 1), Int.ofNat (k1 + 1), Int.ofNat (k2 + 1), Int.ofNat (k3 + 1)]).faults, (hrc 2 (opsOne [Int.ofNat (k0 + 1), Int.ofNat (k1 + 1), Int.ofNat (k2 + 1), Int.ofNat (k3 + 1)] ++ [.gone]) 0).length) = ((hrc 2 (opsOne [Int.ofNat (k0 + 1), Int.ofNat (k1 + 1), Int.ofNat (k2 + 1), Int.ofNat (k3 + 1)] ++ [.gone]) 0).length, 0, (hrc 2 (opsOne [Int.ofNat (k0 + 1), Int.ofNat (k1 + 1), Int.ofNat (k2 + 1), Int.ofNat (k3 + 1)] ++ [.gone]) 0).length) := by kernel_rfl
theorem onem24 (k0 k1 k2 k3 : Nat) : (oneM 2 [Int.ofNat (k0 + 1), Int.ofNat (k1 + 1), Int.ofNat (k2 + 1), Int.ofNat (k3 + 1)]).marks = [(0, Int.ofNat (k0 + 1)), (0, Int.ofNat (k1 + 1)), (0, Int.ofNat (k2 + 1)), (0, Int.ofNat (k3 + 1))] := by kernel_rfl
theorem one30 : ((oneM 3 []).pc 0, (oneM 3 []).faults, (hrc 3 (opsOne [] ++ [.gone]) 0).length) = ((hrc 3 (opsOne [] ++ [.gone]) 0).length, 0, (hrc 3 (opsOne [] ++ [.gone]) 0).length) := by kernel_rfl
theorem onem30 : (oneM 3 []).marks = [] := by kernel_rfl
theorem one31 (k0 : Nat) : ((oneM 3 [Int.ofNat (k0 + 1)]).pc 0, (oneM 3 [Int.ofNat (k0 + 1)]).faults, (hrc 3 (opsOne [Int.ofNat (k0 + 1)] ++ [.gone]) 0).length) = ((hrc 3 (opsOne [Int.ofNat (k0 + 1)] ++ [.gone]) 0).length, 0, (hrc 3 (opsOne [Int.ofNat (k0 + 1)] ++ [.gone]) 0).length) := by kernel_rfl
theorem onem31 (k0 : Nat) : (oneM 3 [Int.ofNat (k0 + 1)]).marks = [(0, Int.ofNat (k0 + 1))] := by kernel_rfl
theorem one32 (k0 k1 : Nat) : ((oneM 3 [Int.ofNat (k0 + 1), Int.ofNat (k1 + 1)]).pc 0, (oneM 3 [Int.ofNat (k0 + 1), Int.ofNat (k1 + 1)]).faults, (hrc 3 (opsOne [Int.ofNat (k0 + 1), Int.ofNat (k1 + 1)] ++ [.gone]) 0).length) = ((hrc 3 (opsOne [Int.ofNat (k0 + 1), Int.ofNat (k1 + 1)] ++ [.gone]) 0).length, 0, (hrc 3 (opsOne [Int.ofNat (k0 + 1), Int.ofNat (k1 + 1)] ++ [.gone]) 0).length) := by kernel_rfl
theorem onem32 (k0 k1 : Nat) : (oneM 3 [Int.ofNat (k0 + 1), Int.ofNat (k1 + 1)]).marks = [(0, Int.ofNat (k0 + 1)), (0, Int.ofNat (k1 + 1))] := by kernel_rfl
theorem one33 (k0 k1 k2 : Nat) : ((oneM 3 [Int.ofNat (k0 + 1), Int.ofNat (k1 + 1), Int.ofNat (k2 + 1)]).pc 0, (oneM 3 [Int.ofNat (k0 + 1), Int.ofNat (k1 + 1), Int.ofNat (k2 + 1)]).faults, (hrc 3 (opsOne [Int.ofNat (k0 + 1), Int.ofNat (k1 + 1), Int.ofNat (k2 + 1)] ++ [.gone]) 0).length) = ((hrc 3 (opsOne [Int.ofNat (k0 + 1), Int.ofNat (k1 + 1), Int.ofNat (k2 + 1)] ++ [.gone]) 0).length, 0, (hrc 3 (opsOne [Int.ofNat (k0 + 1), Int.ofNat (k1 + 1), Int.ofNat (k2 + 1)] ++ [.gone]) 0).length) := by kernel_rfl
theorem onem33 (k0 k1 k2 : Nat) : (oneM 3 [Int.ofNat (k0 + 1), Int.ofNat (k1 + 1), Int.ofNat (k2 + 1)]).marks = [(0, Int.ofNat (k0 + 1)), (0, Int.ofNat (k1 + 1)), (0, Int.ofNat (k2 + 1))] := by kernel_rfl
theorem one34 (k0 k1 k2 k3 : Nat) : ((oneM 3 [Int.ofNat (k0 + 1), Int.ofNat (k1 + 1), Int.ofNat (k2 + 1), Int.ofNat (k3 + 1)]).pc 0, (oneM 3 [Int.ofNat (k0 + 1), Int.ofNat (k1 + 1), Int.ofNat (k2 + 1), Int.ofNat (k3 + 1)]).faults, (hrc 3 (opsOne [Int.ofNat (k0 + 1), Int.ofNat (k1 + 1), Int.ofNat (k2 + 1), Int.ofNat (k3 + 1)] ++ [.gone]) 0).length) = ((hrc 3 (opsOne [Int.ofNat (k0 + 1), Int.ofNat (k1 + 1), Int.ofNat (k2 + 1), Int.ofNat (k3 + 1)] ++ [.gone]) 0).length, 0, (hrc 3 (opsOne [Int.ofNat (k0 + 1), Int.ofNat (k1 + 1), Int.ofNat (k2 + 1), Int.ofNat (k3 + 1)] ++ [.gone]) 0).length) := by kernel_rfl
theorem onem34 (k0 k1 k2 k3 : Nat) : (oneM 3 [Int.ofNat (k0 + 1), Int.ofNat (k1 + 1), Int.ofNat (k2 + 1), Int.ofNat (k3 + 1)]).marks = [(0, Int.ofNat (k0 + 1)), (0, Int.ofNat (k1 + 1)), (0, Int.ofNat (k2 + 1)), (0, Int.ofNat (k3 + 1))] := by kernel_rfl
theorem one40 : ((oneM 4 []).pc 0, (oneM 4 []).faults, (hrc 4 (opsOne [] ++ [.gone]) 0).length) = ((hrc 4 (opsOne [] ++ [.gone]) 0).length, 0, (hrc 4 (opsOne [] ++ [.gone]) 0).length) := by kernel_rfl
theorem onem40 : (oneM 4 []).marks = [] := by kernel_rfl
theorem one41 (k0 : Nat) : ((oneM 4 [Int.ofNat (k0 + 1)]).pc 0, (oneM 4 [Int.ofNat (k0 + 1)]).faults, (hrc 4 (opsOne [Int.ofNat (k0 + 1)] ++ [.gone]) 0).length) = ((hrc 4 (opsOne [Int.ofNat (k0 + 1)] ++ [.gone]) 0).length, 0, (hrc 4 (opsOne [Int.ofNat (k0 + 1)] ++ [.gone]) 0).length) := by kernel_rfl
theorem onem41 (k0 : Nat) : (oneM 4 [Int.ofNat (k0 + 1)]).marks = [(0, Int.ofNat (k0 + 1))] := by kernel_rfl
theorem one42 (k0 k1 : Nat) : ((oneM 4 [Int.ofNat (k0 + 1), Int.ofNat (k1 + 1)]).pc 0, (oneM 4 [Int.ofNat (k0 + 1), Int.ofNat (k1 + 1)]).faults, (hrc 4 (opsOne [Int.ofNat (k0 + 1), Int.ofNat (k1 + 1)] ++ [.gone]) 0).length) = ((hrc 4 (opsOne [Int.ofNat (k0 + 1), Int.ofNat (k1 + 1)] ++ [.gone]) 0).length, 0, (hrc 4 (opsOne [Int.ofNat (k0 + 1), Int.ofNat (k1 + 1)] ++ [.gone]) 0).length) := by kernel_rfl
theorem onem42 (k0 k1 : Nat) : (oneM 4 [Int.ofNat (k0 + 1), Int.ofNat (k1 + 1)]).marks = [(0, Int.ofNat (k0 + 1)), (0, Int.ofNat (k1 + 1))] := by kernel_rfl
theorem one43 (k0 k1 k2 : Nat) : ((oneM 4 [Int.ofNat (k0 + 1), Int.ofNat (k1 + 1), Int.ofNat (k2 + 1)]).pc 0, (oneM 4 [Int.ofNat (k0 + 1), Int.ofNat (k1 + 1), Int.ofNat (k2 + 1)]).faults, (hrc 4 (opsOne [Int.ofNat (k0 + 1), Int.ofNat (k1 + 1), Int.ofNat (k2 + 1)] ++ [.gone]) 0).length) = ((hrc 4 (opsOne [Int.ofNat (k0 + 1), Int.ofNat (k1 + 1), Int.ofNat (k2 + 1)] ++ [.gone]) 0).length, 0, (hrc 4 (opsOne [Int.ofNat (k0 + 1), Int.ofNat (k1 + 1), Int.ofNat (k2 + 1)] ++ [.gone]) 0).length) := by kernel_rfl
theorem onem43 (k0 k1 k2 : Nat) : (oneM 4 [Int.ofNat (k0 + 1), Int.ofNat (k1 + 1), Int.ofNat (k2 + 1)]).marks = [(0, Int.ofNat (k0 + 1)), (0, Int.ofNat (k1 + 1)), (0, Int.ofNat (k2 + 1))] := by kernel_rfl
theorem one44 (k0 k1 k2 k3 : Nat) : ((oneM 4 [Int.ofNat (k0 + 1), Int.ofNat (k1 + 1), Int.ofNat (k2 + 1), Int.ofNat (k3 + 1)]).pc 0, (oneM 4 [Int.ofNat (k0 + 1), Int.ofNat (k1 + 1), Int.ofNat (k2 + 1), Int.ofNat (k3 + 1)]).faults, (hrc 4 (opsOne [Int.ofNat (k0 + 1), Int.ofNat (k1 + 1), Int.ofNat (k2 + 1), Int.ofNat (k3 + 1)] ++ [.gone]) 0).length) = ((hrc 4 (opsOne [Int.ofNat (k0 + 1), Int.ofNat (k1 + 1), Int.ofNat (k2 + 1), Int.ofNat (k3 + 1)] ++ [.gone]) 0).length, 0, (hrc 4 (opsOne [Int.ofNat (k0 + 1), Int.ofNat (k1 + 1), Int.ofNat (k2 + 1), Int.ofNat (k3 + 1)] ++ [.gone]) 0).length) := by kernel_rfl
theorem onem44 (k0 k1 k2 k3 : Nat) : (oneM 4 [Int.ofNat (k0 + 1), Int.ofNat (k1 + 1), Int.ofNat (k2 + 1), Int.ofNat (k3 + 1)]).marks = [(0, Int.ofNat (k0 + 1)), (0, Int.ofNat (k1 + 1)), (0, Int.ofNat (k2 + 1)), (0, Int.ofNat (k3 + 1))] := by kernel_rfl
theorem one_all {f : Nat} (hf : 1 <= f /\ f <= 4) {ns : List Int} (h4 : ns.length <= 4) (hn : ∀ n ∈ ns, 1 <= n) : (oneM f ns).pc 0 = (hrc f (opsOne ns ++ [.gone]) 0).length /\ (oneM f ns).faults = 0 /\ (oneM f ns).marks = ns.map fun n => (0, n) := by
 have ofn : ∀ n : Int, 1 <= n -> ∃ k : Nat, n = Int.ofNat (k + 1) := fun n h => ⟨(n - 1).toNat, by show n = (((n - 1).toNat + 1 : Nat) : Int); omega⟩
 have hf4 : f = 1 ∨ f = 2 ∨ f = 3 ∨ f = 4 := by omega
 match ns, h4, hn with
 | [], _, _ =>
  rcases hf4 with rfl | rfl | rfl | rfl
  ·exact (by have := one10 ; simp only [Prod.mk.injEq] at this; exact ⟨this.1, this.2.1, onem10 ⟩)
  ·exact (by have := one20 ; simp only [Prod.mk.injEq] at this; exact ⟨this.1, this.2.1, onem20 ⟩)
  ·exact (by have := one30 ; simp only [Prod.mk.injEq] at this; exact ⟨this.1, this.2.1, onem30 ⟩)
  ·exact (by have := one40 ; simp only [Prod.mk.injEq] at this; exact ⟨this.1, this.2.1, onem40 ⟩)
 | [n0], _, hn =>
  obtain ⟨k0, rfl⟩ := ofn n0 (hn _ (by simp))
  rcases hf4 with rfl | rfl | rfl | rfl
  ·exact (by have := one11 k0; simp only [Prod.mk.injEq] at this; exact ⟨this.1, this.2.1, onem11 k0⟩)
  ·exact (by have := one21 k0; simp only [Prod.mk.injEq] at this; exact ⟨this.1, this.2.1, onem21 k0⟩)
  ·exact (by have := one31 k0; simp only [Prod.mk.injEq] at this; exact ⟨this.1, this.2.1, onem31 k0⟩)
  ·exact (by have := one41 k0; simp only [Prod.mk.injEq] at this; exact ⟨this.1, this.2.1, onem41 k0⟩)
 | [n0, n1], _, hn =>
  obtain ⟨k0, rfl⟩ := ofn n0 (hn _ (by simp))
  obtain ⟨k1, rfl⟩ := ofn n1 (hn _ (by simp))
  rcases hf4 with rfl | rfl | rfl | rfl
  ·exact (by have := one12 k0 k1; simp only [Prod.mk.injEq] at this; exact ⟨this.1, this.2.1, onem12 k0 k1⟩)
  ·exact (by have := one22 k0 k1; simp only [Prod.mk.injEq] at this; exact ⟨this.1, this.2.1, onem22 k0 k1⟩)
  ·exact (by have := one32 k0 k1; simp only [Prod.mk.injEq] at this; exact ⟨this.1, this.2.1, onem32 k0 k1⟩)
  ·exact (by have := one42 k0 k1; simp only [Prod.mk.injEq] at this; exact ⟨this.1, this.2.1, onem42 k0 k1⟩)
 | [n0, n1, n2], _, hn =>
  obtain ⟨k0, rfl⟩ := ofn n0 (hn _ (by simp))
  obtain ⟨k1, rfl⟩ := ofn n1 (hn _ (by simp))
  obtain ⟨k2, rfl⟩ := ofn n2 (hn _ (by simp))
  rcases hf4 with rfl | rfl | rfl | rfl
  ·exact (by have := one13 k0 k1 k2; simp only [Prod.mk.injEq] at this; exact ⟨this.1, this.2.1, onem13 k0 k1 k2⟩)
  ·exact (by have := one23 k0 k1 k2; simp only [Prod.mk.injEq] at this; exact ⟨this.1, this.2.1, onem23 k0 k1 k2⟩)
  ·exact (by have := one33 k0 k1 k2; simp only [Prod.mk.injEq] at this; exact ⟨this.1, this.2.1, onem33 k0 k1 k2⟩)
  ·exact (by have := one43 k0 k1 k2; simp only [Prod.mk.injEq] at this; exact ⟨this.1, this.2.1, onem43 k0 k1 k2⟩)
 | [n0, n1, n2, n3], _, hn =>
  obtain ⟨k0, rfl⟩ := ofn n0 (hn _ (by simp))
  obtain ⟨k1, rfl⟩ := ofn n1 (hn _ (by simp))
  obtain ⟨k2, rfl⟩ := ofn n2 (hn _ (by simp))
  obtain ⟨k3, rfl⟩ := ofn n3 (hn _ (by simp))
  rcases hf4 with rfl | rfl | rfl | rfl
  ·exact (by have := one14 k0 k1 k2 k3; simp only [Prod.mk.injEq] at this; exact ⟨this.1, this.2.1, onem14 k0 k1 k2 k3⟩)
  ·exact (by have := one24 k0 k1 k2 k3; simp only [Prod.mk.injEq] at this; exact ⟨this.1, this.2.1, onem24 k0 k1 k2 k3⟩)
  ·exact (by have := one34 k0 k1 k2 k3; simp only [Prod.mk.injEq] at this; exact ⟨this.1, this.2.1, onem34 k0 k1 k2 k3⟩)
  ·exact (by have := one44 k0 k1 k2 k3; simp only [Prod.mk.injEq] at this; exact ⟨this.1, this.2.1, onem44 k0 k1 k2 k3⟩)
 | _ :: _ :: _ :: _ :: _ :: _, h4, _ => simp at h4
def kbPut : ByteArray := ⟨#[112, 117, 116]⟩
def kbLater : ByteArray := ⟨#[108, 97, 116, 101, 114]⟩
theorem kn_putB : kn kbPut.toList = 1 := by unfold kbPut; rw [toList_bl]; rfl
theorem kn_later : kn kbLater.toList = 8 := by unfold kbLater; rw [toList_bl]; rfl
def opsJ (n : Int) : List OpI := [⟨kbPut, n⟩, ⟨kbLater, 0⟩, ⟨kbEnter, 0⟩, ⟨kbRead, 0⟩, ⟨kbLeave, 0⟩]
def opsI (ns : List Int) : List OpI := ns.flatMap opsJ
theorem opsI_T (ns : List Int) : opTs (opsI ns) = opsOne ns := by
 induction ns with
 | nil => rfl
 | cons n ns ih =>
  have e : opTs (opsJ n) = [.put n, .later, .enter, .read, .leave] := by
   unfold opTs opsJ
   simp only [List.flatMap_cons, List.flatMap_nil, opT, kn_putB, kn_later, kn_enter, kn_read, kn_leave]
   rfl
  have e2 : opTs (opsI (n :: ns)) = opTs (opsJ n) ++ opTs (opsI ns) := by
   unfold opTs opsI
   rw [List.flatMap_cons, List.flatMap_append]
  rw [e2, ih, e]
  rfl
theorem opsI_fol {ns : List Int} (hn : ∀ n ∈ ns, 1 <= n /\ n <= 1000) : ∀ (wt sf : Bool), folE ⟨0, false, wt, sf⟩ (opsI ns) = 0 := by
 induction ns with
 | nil => intro _ _; rfl
 | cons n ns ih =>
  intro wt sf
  have h1 := hn n List.mem_cons_self
  have ih' := ih (fun m hm => hn m (List.mem_cons_of_mem _ hm))
  have hb : ¬ (n < 1 ∨ 1000 < n) := by omega
  show folE _ (opsJ n ++ opsI ns) = 0
  unfold opsJ
  simp [folE, kn_putB, kn_later, kn_enter, kn_read, kn_leave, shErr, hb, ckErr, CrI.pass, psDeep, psRet, psWt, ih']
theorem opsI_len (ns : List Int) : (opsI ns).length = 5 * ns.length := by
 induction ns with
 | nil => rfl
 | cons n ns ih =>
  show (opsJ n ++ opsI ns).length = _
  rw [List.length_append, ih, List.length_cons]
  show 5 + _ = _
  omega
theorem opsI_each {ns : List Int} (h4 : ns.length <= 4) (hn : ∀ n ∈ ns, 1 <= n /\ n <= 1000) : (eachE [opsI ns]).1 = 0 := by
 have hfit : fitB [opsI ns] = true := by
  have hl : longTo [opsI ns] 1 = false := by
   have := opsI_len ns
   unfold longTo
   simp
   omega
  unfold fitB
  rw [show [opsI ns].length = 1 from rfl, hl]
  rfl
 unfold eachE
 rw [if_pos hfit]
 show (eachFrom [opsI ns] 0).1 = 0
 unfold eachFrom
 rw [show folE .first (opsI ns) = 0 from opsI_fol hn false true]
 rfl
theorem one_end {f : Nat} (hf : 1 <= f /\ f <= 4) {ns : List Int} (h4 : ns.length <= 4) (hn : ∀ n ∈ ns, 1 <= n /\ n <= 1000) :
  (itT [clC f (opsI ns)] ((clSta f 1).mach 1) 4000).faults = 0 /\ doneAt (clC f (opsI ns)) ((itT [clC f (opsI ns)] ((clSta f 1).mach 1) 4000).pc 0) = true /\ (itT [clC f (opsI ns)] ((clSta f 1).mach 1) 4000).marks = ns.map fun n => (0, n) := by
 have he := opsI_each h4 hn
 obtain ⟨k1, k2⟩ := eachE_sh he (opsI ns) List.mem_cons_self
 have hp := clC_pieces hf k1 k2
 rw [opsI_T] at hp
 rw [clM_is hf (by omega) (by omega)]
 obtain ⟨e, -⟩ := itT_is hf hp (m := clM f 1) rfl 4000
 obtain ⟨a1, a2, a3⟩ := one_all hf h4 (fun n h => (hn n h).1)
 have e2 : oRun (hrc f (opsOne ns ++ [.gone]) 0) 4000 (clM f 1) = oneM f ns := by
  rw [show 4000 = 300 + 3700 from rfl]
  exact oRun_end a1 3700
 rw [e, e2]
 refine ⟨a2, ?_, a3⟩
 have := hrc_end (opsOne ns ++ [.gone]) 0 hp
 rw [Nat.zero_add] at this
 rw [a1]; exact this
end
section
open Go.RowKit Go.Extern.Stop Go.Stop Go.Extern Go.Sort
theorem lt_of_get {α : Type} {l : List α} {i : Nat} {x : α} (h : l[i]? = some x) : i < l.length := (List.getElem?_eq_some_iff.1 h).1
theorem rdone_end {cs : List (List Ins)} {p : RkPl} {m : Mk} {t : Nat} {L : List Ins} (ht : cs[t]? = some L) (hp : L.length <= m.pc t) {w : World} (h : RkAt cs p m w) :
  Calls Tryz.prog 27 #[.pointer (some ⟨p.k, 0, none⟩), .int .i64 t] w fun e w' => e = .returned (.bool true) /\ Below w.heap.size w w' := by
 have hlt := lt_of_get ht
 have h6 := h.few
 have hT := h.mT
 have hA := h.tAt t hlt
 have hC := h.tCode t L ht
 have hcap := h.tcap
 have hcc := h.ccap t L ht
 have ti : (t : Int) < cs.length := by omega
 have hd : decide ((L.length : Int) <= m.pc t) = true := by simp; omega
 clear h ht
 go_enter Tryz.func27, Tryz.ntmps27
 go_wp2_with fail
 go_quiet (fail)
 go_wp2
 go_ret
 exact ⟨rfl, Below.drewN' _⟩
theorem rdone_at {cs : List (List Ins)} {p : RkPl} {m : Mk} {t : Nat} {L : List Ins} {x : Ins} (ht : cs[t]? = some L) (hp : L[m.pc t]? = some x) {w : World} (h : RkAt cs p m w) :
  Calls Tryz.prog 27 #[.pointer (some ⟨p.k, 0, none⟩), .int .i64 t] w fun e w' => e = .returned (.bool (x.op.toList == [115, 116, 111, 112])) /\ Below w.heap.size w w' := by
 have hlt := lt_of_get ht
 have h6 := h.few
 have hT := h.mT
 have hA := h.tAt t hlt
 have hC := h.tCode t L ht
 have hcap := h.tcap
 have hcc := h.ccap t L ht
 have ti : (t : Int) < cs.length := by omega
 obtain ⟨b, off, had, a0, -, -, -, -⟩ := h.rc.code ht (m.pc t) x hp
 rw [had] at hC
 have hpl := lt_of_get hp
 have hd : decide ((L.length : Int) <= m.pc t) = false := by simp; omega
 have hdn : decide (L.length <= m.pc t) = false := by simp; omega
 have pi : (m.pc t : Int) < L.length := by omega
 clear h ht hp
 go_enter Tryz.func27, Tryz.ntmps27
 go_wp2_with fail
 go_quiet (fail)
 go_wp2
 go_ret
 exact ⟨rfl, Below.drewN' _⟩
theorem RkAt.fault1 {cs : List (List Ins)} {p : RkPl} {m : Mk} {w : World} (h : RkAt cs p m w) : RkStep cs p m.mem w p.rp p.mv (m.addFault 1) (w.setCell ⟨p.k, 3, none⟩ (.int .i64 ((m.faults : Int) + 1))) := h.addFault 1
theorem rnames_yes {cs : List (List Ins)} {p : RkPl} {m : Mk} {n : Int} (hn : Wd n) {w : World} (h : RkAt cs p m w) (hy : m.names n = true) :
  Calls Tryz.prog 71 #[.pointer (some ⟨p.k, 0, none⟩), .int .i64 n] w fun e w' => e = .returned (.tuple #[.agg #[.int .i64 (cellOf n), .int .i64 (genOf n)], .bool true]) /\ Below w.heap.size w w' := by
 obtain ⟨hz, hh⟩ := (Bool.and_eq_true _ _).mp hy
 have hn0 : n ≠ 0 := by simpa using hz
 have h1 : 1 <= n := by have := hn.1; omega
 have HR : Hid (∀ w', Calls Tryz.prog 21 #[.int .i64 n] w' fun e w'' => e = .returned (.tuple #[.agg #[.int .i64 (cellOf n), .int .i64 (genOf n)], .int .i64 0]) /\ Below w'.heap.size w' w'') := fun w' => refOf_ok n w' h1 hn.2
 have HH : Hid (∀ w', Below w.heap.size w w' -> Calls Tryz.prog 46 #[.pointer (some ⟨p.rp.mb, 0, none⟩), .agg #[.int .i64 (cellOf n), .int .i64 (genOf n)]] w' fun e w'' => e = .returned (.bool true) /\ Below w'.heap.size w' w'') := fun w' hb => by
  have := here_any p.rp m.mem (cellOf n) (genOf n) w' (h.below hb).mem
  rwa [hh] at this
 have hM := h.mM
 clear hy hz hh hn h
 generalize cellOf n = c at *
 generalize genOf n = g at *
 have hba : Below w.heap.size w (w.alloc (.cells #[.int .i64 0, .int .i64 0] 50)) := box_below 0 0 w
 obtain ⟨z0, z1⟩ := box2c w 50 (.int .i64 0) (.int .i64 0)
 have y0 : (w.alloc (.cells #[.int .i64 0, .int .i64 0] 50)).frozen? ⟨w.heap.size, 0, none⟩ = false := by simp
 have y1 : (w.alloc (.cells #[.int .i64 0, .int .i64 0] 50)).frozen? ⟨w.heap.size, 1, none⟩ = false := by simp
 have hM1 := keep_cell hba hM
 generalize hw : w.alloc (.cells #[.int .i64 0, .int .i64 0] 50) = w1 at *
 go_enter Tryz.func71, Tryz.ntmps71
 go_wp2_with fail
 refine (HR.out _).mono ?_
 rintro e w2 ⟨rfl, hb2⟩
 have hzl : w.heap.size < w1.heap.size := bLt z0
 obtain ⟨W3, hW3⟩ : ∃ W3, W3 = w2.alloc (.cells #[.int .i64 c, .int .i64 g] 50) := ⟨_, rfl⟩
 have hb3 : Below w1.heap.size w1 W3 := by rw [hW3]; exact hb2.alloc hb2.size _
 have q0 : W3.cell? ⟨w2.heap.size, 0, none⟩ = some (.int .i64 c) := by rw [hW3]; simp
 have q1 : W3.cell? ⟨w2.heap.size, 1, none⟩ = some (.int .i64 g) := by rw [hW3]; simp
 have r0 := keep_cell hb3 z0
 have r1 := keep_cell hb3 z1
 have x0 : W3.frozen? ⟨w.heap.size, 0, none⟩ = false := by rw [hb3.frozen hzl]; exact y0
 have x1 : W3.frozen? ⟨w.heap.size, 1, none⟩ = false := by rw [hb3.frozen hzl]; exact y1
 have hM3 := keep_cell hb3 hM1
 have B3 := below_step hba hb3
 have l3 : w.heap.size < W3.heap.size := bLt r0
 clear z0 z1 y0 y1 hM hM1 hw HR hb3
 go_wp2_with fail
 rw [<- hW3]
 clear hW3 hb2 hzl
 have HCF : Hid (∀ d os, Calls Tryz.prog 46 #[.pointer (some ⟨p.rp.mb, 0, none⟩), .agg #[.int .i64 c, .int .i64 g]] (grow (redrawn W3 d) os) fun e w'' => e = .returned (.bool true) /\ ∃ p : Regrown, w'' = grow (redrawn W3 p.d) p.os) := fun d os =>
  Calls.regrown_of (HH.out _ (below_step B3 (below_regrown W3 d os)))
 have d0 := cell_regrown q0
 have d1 := cell_regrown q1
 have dM := cell_regrown hM3
 clear HH
 go_wp2_with fail
 refine wp_region_quiet_below (by kernel_rfl) (by kernel_rfl) ?_
 repeat (first
  | go_big_quiet_step (exact HCF.out _ _)
  | quiet_step (exact HCF.out _ _))
 refine wpQuiet_nil ?_
 intro _ hw'
 obtain ⟨⟨dq, osq⟩, hw''⟩ := hw'
 subst hw''
 have hb4 := below_regrown W3 dq osq
 have B4 := below_step B3 hb4
 have e0 := d0 dq osq
 have e1 := d1 dq osq
 replace r0 := keep_cell hb4 r0
 replace r1 := keep_cell hb4 r1
 have x0' : (grow (redrawn W3 dq) osq).frozen? ⟨w.heap.size, 0, none⟩ = false := by rw [hb4.frozen l3]; exact x0
 have x1' : (grow (redrawn W3 dq) osq).frozen? ⟨w.heap.size, 1, none⟩ = false := by rw [hb4.frozen l3]; exact x1
 clear HCF d0 d1 dM q0 q1 x0 x1 hM3 B3 hb4 l3
 generalize grow (redrawn W3 dq) osq = w4 at *
 go_wp2
 refine bodyPost_ret (v := .tuple #[.agg #[.int .i64 c, .int .i64 g], .bool true]) (by simp only [results, Tryz.results71]; go_simp) rfl ⟨rfl, ?_⟩
 exact (B4.setCell nL _).setCell nL _
end
section
open Go.RowKit Go.Extern.Stop Go.Stop Go.Extern Go.Sort
theorem rnames_zero {cs : List (List Ins)} {p : RkPl} {m : Mk} {w : World} (h : RkAt cs p m w) (hf : m.faults <= 1000000000) :
  Calls Tryz.prog 71 #[.pointer (some ⟨p.k, 0, none⟩), .int .i64 0] w fun e w' => (∃ c g : Int, e = .returned (.tuple #[.agg #[.int .i64 c, .int .i64 g], .bool false])) /\ RkStep cs p m.mem w p.rp p.mv (m.addFault 1) w' := by
 have hba : Below w.heap.size w (w.alloc (.cells #[.int .i64 0, .int .i64 0] 50)) := box_below 0 0 w
 obtain ⟨z0, z1⟩ := box2c w 50 (.int .i64 0) (.int .i64 0)
 have y0 : (w.alloc (.cells #[.int .i64 0, .int .i64 0] 50)).frozen? ⟨w.heap.size, 0, none⟩ = false := by simp
 have y1 : (w.alloc (.cells #[.int .i64 0, .int .i64 0] 50)).frozen? ⟨w.heap.size, 1, none⟩ = false := by simp
 have hlk := h.lk
 have H := hide h
 clear h
 generalize hw : w.alloc (.cells #[.int .i64 0, .int .i64 0] 50) = w1 at *
 go_enter Tryz.func71, Tryz.ntmps71
 go_wp2_with fail
 refine (refOf_zero _).mono ?_
 rintro e w2 ⟨rfl, hb2⟩
 have hzl : w.heap.size < w1.heap.size := bLt z0
 obtain ⟨W3, hW3⟩ : ∃ W3, W3 = w2.alloc (.cells #[.int .i64 0, .int .i64 0] 50) := ⟨_, rfl⟩
 have hb3 : Below w1.heap.size w1 W3 := by rw [hW3]; exact hb2.alloc hb2.size _
 have q0 : W3.cell? ⟨w2.heap.size, 0, none⟩ = some (.int .i64 0) := by rw [hW3]; simp
 have q1 : W3.cell? ⟨w2.heap.size, 1, none⟩ = some (.int .i64 0) := by rw [hW3]; simp
 have r0 := keep_cell hb3 z0
 have r1 := keep_cell hb3 z1
 have x0 : W3.frozen? ⟨w.heap.size, 0, none⟩ = false := by rw [hb3.frozen hzl]; exact y0
 have x1 : W3.frozen? ⟨w.heap.size, 1, none⟩ = false := by rw [hb3.frozen hzl]; exact y1
 have B3 := below_step hba hb3
 clear z0 z1 y0 y1 hw hb3
 go_wp2_with fail
 rw [<- hW3]
 clear hW3 hb2 hzl
 have d1 : ((5 : Int) == 0) = false := by decide
 go_quiet (fail)
 have B4 := B3.trans ((Below.drewN' (w := W3) nq).mono B3.size)
 have H4 := hide (H.out.below B4)
 have hF := H4.out.mFaults
 have hZ := H4.out.fk 3
 have S4 : Hid (∀ u0 u1, RkStep cs p m.mem w p.rp p.mv (m.addFault 1) ((((W3.drewN nq).setCell ⟨p.k, 3, none⟩ (.int .i64 ((m.faults : Int) + 1))).setCell ⟨w.heap.size, 0, none⟩ u0).setCell ⟨w.heap.size, 1, none⟩ u1)) := fun u0 u1 => by
  have hn : ¬ p.fp cs.length m.mem w.heap.size := fun e => by have := H.out.fp_lt e; omega
  have hB := H.out.rc.size
  exact ((RkStep.of_below B4 H4.out.fault1).setNew u0 nL hn hB).setNew u1 nL hn hB
 replace q0 : (W3.drewN nq).cell? ⟨w2.heap.size, 0, none⟩ = some (.int .i64 0) := q0
 replace q1 : (W3.drewN nq).cell? ⟨w2.heap.size, 1, none⟩ = some (.int .i64 0) := q1
 replace r0 : (W3.drewN nq).cell? ⟨w.heap.size, 0, none⟩ = some (.int .i64 0) := r0
 replace r1 : (W3.drewN nq).cell? ⟨w.heap.size, 1, none⟩ = some (.int .i64 0) := r1
 replace x0 : (W3.drewN nq).frozen? ⟨w.heap.size, 0, none⟩ = false := x0
 replace x1 : (W3.drewN nq).frozen? ⟨w.heap.size, 1, none⟩ = false := x1
 clear B3 H4 H
 generalize W3.drewN nq = w4 at *
 go_wp2
 refine bodyPost_ret (v := .tuple #[.agg #[.int .i64 0, .int .i64 0], .bool false]) (by simp only [results, Tryz.results71]; go_simp) rfl ⟨⟨_, _, rfl⟩, ?_⟩
 exact S4.out _ _
theorem rnames_gone {cs : List (List Ins)} {p : RkPl} {m : Mk} {n : Int} (hn : Wd n) (hn0 : n ≠ 0) {w : World} (h : RkAt cs p m w) (hf : m.faults <= 1000000000) (hh : m.mem.ar.has (cellOf n) (genOf n) = false) :
  Calls Tryz.prog 71 #[.pointer (some ⟨p.k, 0, none⟩), .int .i64 n] w fun e w' => (∃ c g : Int, e = .returned (.tuple #[.agg #[.int .i64 c, .int .i64 g], .bool false])) /\ RkStep cs p m.mem w p.rp p.mv (m.addFault 1) w' := by
 have h1 : 1 <= n := by have := hn.1; omega
 have HR : Hid (∀ w', Calls Tryz.prog 21 #[.int .i64 n] w' fun e w'' => e = .returned (.tuple #[.agg #[.int .i64 (cellOf n), .int .i64 (genOf n)], .int .i64 0]) /\ Below w'.heap.size w' w'') := fun w' => refOf_ok n w' h1 hn.2
 have HH : Hid (∀ w', Below w.heap.size w w' -> Calls Tryz.prog 46 #[.pointer (some ⟨p.rp.mb, 0, none⟩), .agg #[.int .i64 (cellOf n), .int .i64 (genOf n)]] w' fun e w'' => e = .returned (.bool false) /\ Below w'.heap.size w' w'') := fun w' hb => by
  have := here_any p.rp m.mem (cellOf n) (genOf n) w' (h.below hb).mem
  rwa [hh] at this
 have hM := h.mM
 have H := hide h
 clear hh hn h hn0
 generalize cellOf n = c at *
 generalize genOf n = g at *
 have hba : Below w.heap.size w (w.alloc (.cells #[.int .i64 0, .int .i64 0] 50)) := box_below 0 0 w
 obtain ⟨z0, z1⟩ := box2c w 50 (.int .i64 0) (.int .i64 0)
 have y0 : (w.alloc (.cells #[.int .i64 0, .int .i64 0] 50)).frozen? ⟨w.heap.size, 0, none⟩ = false := by simp
 have y1 : (w.alloc (.cells #[.int .i64 0, .int .i64 0] 50)).frozen? ⟨w.heap.size, 1, none⟩ = false := by simp
 have hM1 := keep_cell hba hM
 generalize hw : w.alloc (.cells #[.int .i64 0, .int .i64 0] 50) = w1 at *
 go_enter Tryz.func71, Tryz.ntmps71
 go_wp2_with fail
 refine (HR.out _).mono ?_
 rintro e w2 ⟨rfl, hb2⟩
 have hzl : w.heap.size < w1.heap.size := bLt z0
 obtain ⟨W3, hW3⟩ : ∃ W3, W3 = w2.alloc (.cells #[.int .i64 c, .int .i64 g] 50) := ⟨_, rfl⟩
 have hb3 : Below w1.heap.size w1 W3 := by rw [hW3]; exact hb2.alloc hb2.size _
 have q0 : W3.cell? ⟨w2.heap.size, 0, none⟩ = some (.int .i64 c) := by rw [hW3]; simp
 have q1 : W3.cell? ⟨w2.heap.size, 1, none⟩ = some (.int .i64 g) := by rw [hW3]; simp
 have r0 := keep_cell hb3 z0
 have r1 := keep_cell hb3 z1
 have x0 : W3.frozen? ⟨w.heap.size, 0, none⟩ = false := by rw [hb3.frozen hzl]; exact y0
 have x1 : W3.frozen? ⟨w.heap.size, 1, none⟩ = false := by rw [hb3.frozen hzl]; exact y1
 have hM3 := keep_cell hb3 hM1
 have B3 := below_step hba hb3
 have l3 : w.heap.size < W3.heap.size := bLt r0
 clear z0 z1 y0 y1 hM hM1 hw HR hb3
 go_wp2_with fail
 rw [<- hW3]
 clear hW3 hb2 hzl
 have HCF : Hid (∀ d os, Calls Tryz.prog 46 #[.pointer (some ⟨p.rp.mb, 0, none⟩), .agg #[.int .i64 c, .int .i64 g]] (grow (redrawn W3 d) os) fun e w'' => e = .returned (.bool false) /\ ∃ p : Regrown, w'' = grow (redrawn W3 p.d) p.os) := fun d os =>
  Calls.regrown_of (HH.out _ (below_step B3 (below_regrown W3 d os)))
 have d0 := cell_regrown q0
 have d1 := cell_regrown q1
 have dM := cell_regrown hM3
 clear HH
 go_wp2_with fail
 refine wp_region_quiet_below (by kernel_rfl) (by kernel_rfl) ?_
 repeat (first
  | go_big_quiet_step (exact HCF.out _ _)
  | quiet_step (exact HCF.out _ _))
 refine wpQuiet_nil ?_
 intro _ hw'
 obtain ⟨⟨dq, osq⟩, hw''⟩ := hw'
 subst hw''
 have hb4 := below_regrown W3 dq osq
 have B4 := below_step B3 hb4
 have e0 := d0 dq osq
 have e1 := d1 dq osq
 replace r0 := keep_cell hb4 r0
 replace r1 := keep_cell hb4 r1
 have x0' : (grow (redrawn W3 dq) osq).frozen? ⟨w.heap.size, 0, none⟩ = false := by rw [hb4.frozen l3]; exact x0
 have x1' : (grow (redrawn W3 dq) osq).frozen? ⟨w.heap.size, 1, none⟩ = false := by rw [hb4.frozen l3]; exact x1
 clear HCF d0 d1 dM q0 q1 x0 x1 hM3 B3 hb4 l3
 generalize grow (redrawn W3 dq) osq = w4 at *
 have H4 := hide (H.out.below B4)
 have hF := H4.out.mFaults
 have hZ := H4.out.fk 3
 have hlk := H.out.lk
 have S4 : Hid (∀ u0 u1, RkStep cs p m.mem w p.rp p.mv (m.addFault 1) (((w4.setCell ⟨p.k, 3, none⟩ (.int .i64 ((m.faults : Int) + 1))).setCell ⟨w.heap.size, 0, none⟩ u0).setCell ⟨w.heap.size, 1, none⟩ u1)) := fun u0 u1 => by
  have hn : ¬ p.fp cs.length m.mem w.heap.size := fun e => by have := H.out.fp_lt e; omega
  have hB := H.out.rc.size
  exact ((RkStep.of_below B4 H4.out.fault1).setNew u0 nL hn hB).setNew u1 nL hn hB
 clear H4 H B4
 go_wp2
 refine bodyPost_ret (v := .tuple #[.agg #[.int .i64 c, .int .i64 g], .bool false]) (by simp only [results, Tryz.results71]; go_simp) rfl ⟨⟨_, _, rfl⟩, ?_⟩
 exact S4.out _ _
theorem rnames_no {cs : List (List Ins)} {p : RkPl} {m : Mk} {n : Int} (hn : Wd n) {w : World} (h : RkAt cs p m w) (hf : m.faults <= 1000000000) (hy : m.names n = false) :
  Calls Tryz.prog 71 #[.pointer (some ⟨p.k, 0, none⟩), .int .i64 n] w fun e w' => (∃ c g : Int, e = .returned (.tuple #[.agg #[.int .i64 c, .int .i64 g], .bool false])) /\ RkStep cs p m.mem w p.rp p.mv (m.addFault 1) w' := by
 by_cases h0 : n = 0
 ·subst h0; exact rnames_zero h hf
 ·refine rnames_gone hn h0 h hf ?_
  unfold Mk.names at hy
  have hb : (n == 0) = false := beq_eq_false_iff_ne.2 h0
  rw [hb] at hy
  simpa using hy
theorem rkfence_any {cs : List (List Ins)} {p : RkPl} {m : Mk} {t : Nat} (ht : t < cs.length) {w : World} (h : RkAt cs p m w) (hx : ∀ x ∈ m.mem.waits t, x.Ok) (h8 : (m.mem.waits t).length <= 8) (hf : m.faults <= 1000000000) :
  Calls Tryz.prog 75 #[.pointer (some ⟨p.k, 0, none⟩), .int .i64 t] w fun e w' => e = .returned (.tuple #[]) /\ ∃ r, RkStep cs p m.mem w r p.mv (m.fence t) w' := by
 have hM := h.mM
 have hF := h.mFaults
 have hZ := h.fk 3
 have hlk := h.lk
 have hg := Nat.le_trans (Rm.gone_le (m.mem.waits t) t m.mem) h8
 have HF : Hid (∀ w', RkAt cs p m w' -> Calls Tryz.prog 120 #[.pointer (some ⟨p.rp.mb, 0, none⟩), .int .i64 t] w' fun e w'' => e = .returned (.int .i64 (m.mem.gone t (m.mem.waits t))) /\ w''.cell? ⟨p.k, 3, none⟩ = some (.int .i64 m.faults) /\ w''.frozen? ⟨p.k, 3, none⟩ = false /\ Hid (∃ r, RkStep cs p m.mem w' r p.mv (m.setMem (m.mem.drainAll t (m.mem.waits t))) w'')) := fun w' h' =>
  (rfence_any p.rp m.mem t w' h'.mem (by rw [h'.thr]; exact ht) (fun x hx' => (hx x hx').1) (by omega)).mono fun _ w'' ⟨e1, r, q⟩ => by
    have S := h'.ofMem q (Rm.drainAll_ar _ _ _).2.2.2
    exact ⟨e1, S.at'.mFaults, S.at'.fk 3, r, S⟩
 have HD : Hid (m.fence t = (m.setMem (m.mem.drainAll t (m.mem.waits t))).addFault (m.mem.gone t (m.mem.waits t))) := rfl
 have hfm : Hid ((m.setMem (m.mem.drainAll t (m.mem.waits t))).faults = m.faults) := rfl
 rw [HD.out]
 have H := hide h
 clear h hx h8 HD
 generalize m.mem.gone t (m.mem.waits t) = G at *
 have HW : Hid (IntKind.i64.wrap ((m.faults : Int) + (G : Int)) = ((m.faults + G : Nat) : Int)) := by show _ = _; rw [IntKind.wrap_i64]; omega
 generalize m.setMem (m.mem.drainAll t (m.mem.waits t)) = m' at *
 go_enter Tryz.func75, Tryz.ntmps75
 go_wp2_with fail
 go_region_with (go_at_call 120; refine (HF.out _ (H.out.drewN 1)).mono ?_; rintro e w2 ⟨rfl, f2, z2, S2⟩)
 all_goals
  go_wp2
  go_end0
  obtain ⟨r, S⟩ := S2.out
  refine ⟨rfl, r, ?_⟩
  have S3 := S.trans (S.at'.addFault G)
  rw [hfm.out] at S3
  rw [HW.out]
  exact RkStep.of_below (Below.drewN' 1) S3
end
end Go.Proofs.YtaiigfcfmcicjaaGreatDoor
