import Derived.Test.YtpjabgdcpogdiaaGreatDoorProg
import Derived.Test.YtpjabgdcpogdiaaGreatDoorE06
import Derived.WalkKit
import Derived.Test.YtpjabgdcpogdiaaGreatDoorE01
import Derived.Deep.QuietTactic
import Derived.Lib.ConvBytes
import Derived.Lib.AtoiErrMem
import Derived.Test.YtpjabgdcpogdiaaGreatDoorE05
import Derived.Test.YtpjabgdcpogdiaaGreatDoorE02

/- ProgC -/
namespace Go.Proofs.YtpjabgdcpogdiaaGreatDoor
open Go.RowKit Go.Extern.Stop Go.Stop Go.Extern

theorem isSmall_any (c : Nat) (w : World) :
    Calls Tryz.prog 70 #[.int .u8 c] w fun e w' => e = .returned (.bool (decide (97 ≤ c ∧ c ≤ 122))) ∧ w' = w := by
  have i1 : (97 : Int) ≤ c ↔ 97 ≤ c := by omega
  by_cases h1 : (97 : Int) ≤ c
  · by_cases h2 : (c : Int) ≤ 122
    · rw [decide_eq_true (show 97 ≤ c ∧ c ≤ 122 by omega)]
      go_enter Tryz.func70, Tryz.ntmps70
      go_wp2
      go_ret
      exact ⟨rfl, rfl⟩
    · rw [decide_eq_false (show ¬ (97 ≤ c ∧ c ≤ 122) by omega)]
      go_enter Tryz.func70, Tryz.ntmps70
      go_wp2
      go_ret
      exact ⟨rfl, rfl⟩
  · rw [decide_eq_false (show ¬ (97 ≤ c ∧ c ≤ 122) by omega)]
    go_enter Tryz.func70, Tryz.ntmps70
    go_wp2
    go_ret
    exact ⟨rfl, rfl⟩

open Classical in
set_option maxRecDepth 20000 in
theorem pisName_any (s : ByteArray) (w : World) :
    Calls Tryz.prog 46 #[.string s] w fun e w' => e = .returned (.bool (decide (isName s))) ∧ Below w.heap.size w w' := by
  by_cases h0 : s.size = 0
  · have HZ : decide (isName s) = false := decide_eq_false (fun h => by have := h.1; omega)
    have hb : (s.toList == []) = true := by rw [beq_iff_eq, toList_bl, ← List.length_eq_zero_iff, ← size_bl]; exact h0
    rw [HZ]
    go_enter Tryz.func46, Tryz.ntmps46
    go_wp2_with fail
    go_ret
    exact ⟨rfl, Below.refl _ _⟩
  have hb : (s.toList == []) = false := by rw [beq_eq_false_iff_ne, toList_bl]; intro e; apply h0; rw [size_bl, e]; rfl
  have hs0 : 0 < s.size := by omega
  by_cases h12 : 12 < s.size
  · have HZ : decide (isName s) = false := decide_eq_false (fun h => by have := h.2.1; omega)
    have i12 : 12 < (s.size : Int) := by omega
    rw [HZ]
    go_enter Tryz.func46, Tryz.ntmps46
    go_wp2_with fail
    go_ret
    exact ⟨rfl, Below.refl _ _⟩
  have i12 : ¬ 12 < (s.size : Int) := by omega
  have HS : Hid (∀ w', Calls Tryz.prog 70 #[.int .u8 (s[0]'hs0).toNat] w' fun e w'' => e = .returned (.bool (decide (97 ≤ (s[0]'hs0).toNat ∧ (s[0]'hs0).toNat ≤ 122))) ∧ w'' = w') := fun w' => isSmall_any _ w'
  by_cases hc : 97 ≤ (s[0]'hs0).toNat ∧ (s[0]'hs0).toNat ≤ 122
  rotate_left
  · have HZ : decide (isName s) = false := decide_eq_false (fun h => by
      have := h.2.2 0 hs0
      unfold nameOk at this
      have := of_decide_eq_true this
      omega)
    rw [HZ]
    rw [decide_eq_false hc] at HS
    clear hc
    go_enter Tryz.func46, Tryz.ntmps46
    go_wp2_with fail
    refine (HS.out _).mono ?_
    rintro e w1 ⟨rfl, rfl⟩
    go_wp2_with fail
    go_ret
    exact ⟨rfl, Below.refl _ _⟩
  have hc' := hide hc
  rw [decide_eq_true hc] at HS
  clear hc
  have hcv : ∀ w', (convert 9 120 (.string s)).run Tryz.prog w' = .ok (.slice (some ⟨w'.heap.size, 0, none⟩) s.size (grownCap w' s.size 0 5)) (Lib.bytesWorld w' 5 s) := fun w' => Lib.run_convert_string_bytes w' 9 120 5 s Tryz.underlying9 Tryz.underlying120 Tryz.underlying5
  have HD : Hid (∀ f : Bool, (f = true ↔ ∀ j, j < s.size → nameOk j (byteAt s j) = true) → decide (isName s) = f) := fun f hf => by
    cases f with
    | true => exact decide_eq_true ⟨by omega, by omega, fun j h => by have := hf.1 rfl j h; rwa [byteAt_lt h] at this⟩
    | false => exact decide_eq_false (fun h => by have := hf.2 (fun j hj => by rw [byteAt_lt hj]; exact h.2.2 j hj); cases this)
  generalize decide (isName s) = F at *
  go_enter Tryz.func46, Tryz.ntmps46
  go_wp2_with fail
  refine (HS.out _).mono ?_
  rintro e w1 ⟨rfl, rfl⟩
  obtain ⟨W, hW⟩ : ∃ W, W = Lib.bytesWorld w1 5 s := ⟨_, rfl⟩
  have hcell : Hid (∀ j, j < s.size → W.cell? ⟨w1.heap.size, j, none⟩ = some (.int .u8 (byteAt s j))) := fun j hj => by
    rw [hW, Lib.bytesWorld_cell _ _ _ _ hj]
    obtain ⟨h', e⟩ := byteAt_bl s j hj
    rw [e, List.getD_eq_getElem?_getD, List.getElem?_eq_getElem h']; rfl
  have HB : Hid (Below w1.heap.size w1 W) := by rw [hW]; exact Lib.bytesWorld_below _ _ _
  go_wp2_with fail
  rw [← hW]
  clear hW hcv HS
  go_loopw [4, 21] (fun _ i wr => wr = W ∧ ∃ j : Nat, j ≤ s.size ∧ i = .int .i64 j ∧ Hid (∀ k, k < j → nameOk k (byteAt s k) = true)) (fun _ i _ => s.size - (intOf i).toNat)
  case atStart => exact ⟨rfl, 0, Nat.zero_le _, rfl, fun k h => absurd h (Nat.not_lt_zero _)⟩
  case round =>
    obtain ⟨rfl, j, hj, rfl, HJ⟩ := hrel
    by_cases hlt : j < s.size
    · have hcj := hcell.out j hlt
      have ji : (j : Int) < s.size := by omega
      have HY : Hid (nameOk j (byteAt s j) = true → ∀ k, k < j + 1 → nameOk k (byteAt s k) = true) := fun hy k hk => by
        by_cases e : k = j
        · subst e; exact hy
        · exact HJ.out k (by omega)
      have HX : Hid (nameOk j (byteAt s j) = false → F = false) := fun hx => HD.out false ⟨(fun h => Bool.noConfusion h), (fun h => by rw [h j hlt] at hx; cases hx)⟩
      have H0 : Hid (j = 0 → 97 ≤ byteAt s j ∧ byteAt s j ≤ 122) := fun h => by subst h; rw [byteAt_lt hs0]; exact hc'.out
      generalize byteAt s j = c at *
      have HC : Hid (∀ w', Calls Tryz.prog 70 #[.int .u8 c] w' fun e w'' => e = .returned (.bool (decide (97 ≤ c ∧ c ≤ 122))) ∧ w'' = w') := fun w' => isSmall_any c w'
      have hor : (97 ≤ c ∧ c ≤ 122) ∨ (¬ (97 ≤ c ∧ c ≤ 122) ∧ 48 ≤ c ∧ c ≤ 57) ∨ (¬ (97 ≤ c ∧ c ≤ 122) ∧ c < 48 ∧ c = 46) ∨ (¬ (97 ≤ c ∧ c ≤ 122) ∧ c < 48 ∧ c ≠ 46) ∨ (¬ (97 ≤ c ∧ c ≤ 122) ∧ ¬ c < 48 ∧ 57 < c) := by omega
      rcases hor with q1 | ⟨q1, q2, q3⟩ | ⟨q1, q2, q3⟩ | ⟨q1, q2, q3⟩ | ⟨q1, q2, q3⟩
      · have HZ := hide (HY.out (decide_eq_true (by omega)))
        rw [decide_eq_true q1] at HC
        clear HX HY H0 q1 HJ
        go_wp2_with fail
        refine (HC.out _).mono ?_
        rintro e w1 ⟨rfl, rfl⟩
        go_wp2_with fail
        go_roundw
        case rel => exact ⟨trivial, j + 1, by omega, by go_num, HZ⟩
        case measure => simp [intOf]; omega
      · have HZ := hide (HY.out (decide_eq_true (by have := H0.out; omega)))
        rw [decide_eq_false q1] at HC
        have z1 : ¬ (c : Int) < 48 := by omega
        have z2 : ¬ 57 < (c : Int) := by omega
        clear HX HY H0 q1 q2 q3 HJ
        go_wp2_with fail
        refine (HC.out _).mono ?_
        rintro e w1 ⟨rfl, rfl⟩
        go_wp2_with fail
        go_roundw
        case rel => exact ⟨trivial, j + 1, by omega, by go_num, HZ⟩
        case measure => simp [intOf]; omega
      · have HZ := hide (HY.out (decide_eq_true (by have := H0.out; omega)))
        rw [decide_eq_false q1] at HC
        have z1 : (c : Int) < 48 := by omega
        have z2 : ((c : Int) != 46) = false := by rw [bne_eq_false_iff_eq]; omega
        clear HX HY H0 q1 q2 q3 HJ
        go_wp2_with fail
        refine (HC.out _).mono ?_
        rintro e w1 ⟨rfl, rfl⟩
        go_wp2_with fail
        go_roundw
        case rel => exact ⟨trivial, j + 1, by omega, by go_num, HZ⟩
        case measure => simp [intOf]; omega
      · have HZ := hide (HX.out (decide_eq_false (by omega)))
        rw [decide_eq_false q1] at HC
        have z1 : (c : Int) < 48 := by omega
        have z2 : ((c : Int) != 46) = true := by rw [bne_iff_ne]; omega
        clear HX HY H0 q1 q2 q3 HJ
        go_wp2_with fail
        refine (HC.out _).mono ?_
        rintro e w1 ⟨rfl, rfl⟩
        go_wp2_with fail
        go_ret
        exact ⟨by rw [HZ.out]; rfl, HB.out⟩
      · have HZ := hide (HX.out (decide_eq_false (by omega)))
        rw [decide_eq_false q1] at HC
        have z1 : ¬ (c : Int) < 48 := by omega
        have z2 : 57 < (c : Int) := by omega
        have z3 : ((c : Int) != 46) = true := by rw [bne_iff_ne]; omega
        clear HX HY H0 q1 q2 q3 HJ
        go_wp2_with fail
        refine (HC.out _).mono ?_
        rintro e w1 ⟨rfl, rfl⟩
        go_wp2_with fail
        go_ret
        exact ⟨by rw [HZ.out]; rfl, HB.out⟩
    · have HZ : Hid (F = true) := HD.out true ⟨fun _ k hk => HJ.out k (by omega), fun _ => rfl⟩
      obtain rfl : j = s.size := by omega
      clear HJ HD
      go_wp2_with fail
      go_ret
      exact ⟨by rw [HZ.out]; rfl, HB.out⟩
end Go.Proofs.YtpjabgdcpogdiaaGreatDoor

/- CodeI -/
namespace Go.Proofs.YtpjabgdcpogdiaaGreatDoor
open Go.RowKit Go.Extern.Stop Go.Stop Go.Extern

def insAt (ad : Option Addr) (l : List Ins) (w : World) : Prop := ∀ i x, l[i]? = some x → ∃ b off, ad = some ⟨b, off, none⟩ ∧
  w.cell? ⟨b, off + i * 5, none⟩ = some (.string x.op) ∧ w.cell? ⟨b, off + i * 5 + 1, none⟩ = some (.int .i64 x.a) ∧ w.cell? ⟨b, off + i * 5 + 2, none⟩ = some (.int .i64 x.b) ∧
  w.cell? ⟨b, off + i * 5 + 3, none⟩ = some (.int .i64 x.c) ∧ w.cell? ⟨b, off + i * 5 + 4, none⟩ = some (.string x.to)

theorem insAt_below {ad : Option Addr} {l : List Ins} {w w' : World} (h : insAt ad l w) (k : Below w.heap.size w w') : insAt ad l w' := fun i x hx => by
  obtain ⟨b, off, e, h0, h1, h2, h3, h4⟩ := h i x hx
  exact ⟨b, off, e, keep_cell k h0, keep_cell k h1, keep_cell k h2, keep_cell k h3, keep_cell k h4⟩
end Go.Proofs.YtpjabgdcpogdiaaGreatDoor

/- MkE -/
namespace Go.Proofs.YtpjabgdcpogdiaaGreatDoor
open Go.RowKit

theorem exec_const (m : Mk) (L : List Ins) (t : Nat) {x : Ins} (h : x.op = ⟨#[99, 111, 110, 115, 116]⟩) : m.exec L t x = m.setReg t x.a.toNat x.b := by
  unfold Mk.exec
  rw [h, toList_bl]
  rfl
theorem exec_move (m : Mk) (L : List Ins) (t : Nat) {x : Ins} (h : x.op = ⟨#[109, 111, 118, 101]⟩) : m.exec L t x = m.setReg t x.a.toNat (m.regs t x.b.toNat) := by
  unfold Mk.exec
  rw [h, toList_bl]
  rfl
theorem exec_add (m : Mk) (L : List Ins) (t : Nat) {x : Ins} (h : x.op = ⟨#[97, 100, 100]⟩) : m.exec L t x = m.setReg t x.a.toNat ((m.regs t x.b.toNat + m.regs t x.c.toNat) % 4294967296) := by
  unfold Mk.exec
  rw [h, toList_bl]
  rfl
theorem exec_sub (m : Mk) (L : List Ins) (t : Nat) {x : Ins} (h : x.op = ⟨#[115, 117, 98]⟩) : m.exec L t x = m.setReg t x.a.toNat ((m.regs t x.b.toNat - m.regs t x.c.toNat) % 4294967296) := by
  unfold Mk.exec
  rw [h, toList_bl]
  rfl
theorem exec_and (m : Mk) (L : List Ins) (t : Nat) {x : Ins} (h : x.op = ⟨#[97, 110, 100]⟩) : m.exec L t x = m.setReg t x.a.toNat (andW (m.regs t x.b.toNat) (m.regs t x.c.toNat)) := by
  unfold Mk.exec
  rw [h, toList_bl]
  rfl
theorem exec_xor (m : Mk) (L : List Ins) (t : Nat) {x : Ins} (h : x.op = ⟨#[120, 111, 114]⟩) : m.exec L t x = m.setReg t x.a.toNat (xorW (m.regs t x.b.toNat) (m.regs t x.c.toNat)) := by
  unfold Mk.exec
  rw [h, toList_bl]
  rfl
theorem exec_load (m : Mk) (L : List Ins) (t : Nat) {x : Ins} (h : x.op = ⟨#[108, 111, 97, 100]⟩) : m.exec L t x = m.load t x.a.toNat (m.regs t x.b.toNat) x.c := by
  unfold Mk.exec
  rw [h, toList_bl]
  rfl
theorem exec_store (m : Mk) (L : List Ins) (t : Nat) {x : Ins} (h : x.op = ⟨#[115, 116, 111, 114, 101]⟩) : m.exec L t x = m.store t (m.regs t x.a.toNat) x.c (m.regs t x.b.toNat) := by
  unfold Mk.exec
  rw [h, toList_bl]
  rfl
theorem exec_swap (m : Mk) (L : List Ins) (t : Nat) {x : Ins} (h : x.op = ⟨#[115, 119, 97, 112]⟩) : m.exec L t x = m.swap t x.a.toNat (m.regs t x.b.toNat) x.c (m.regs t x.a.toNat) := by
  unfold Mk.exec
  rw [h, toList_bl]
  rfl
theorem exec_cas (m : Mk) (L : List Ins) (t : Nat) {x : Ins} (h : x.op = ⟨#[99, 97, 115]⟩) : m.exec L t x = m.cas t x.b.toNat (m.regs t x.a.toNat) x.c (m.regs t x.b.toNat) (m.regs t (x.b.toNat + 1)) := by
  unfold Mk.exec
  rw [h, toList_bl]
  rfl
theorem exec_alloc (m : Mk) (L : List Ins) (t : Nat) {x : Ins} (h : x.op = ⟨#[97, 108, 108, 111, 99]⟩) : m.exec L t x = m.alloc t x.a.toNat := by
  unfold Mk.exec
  rw [h, toList_bl]
  rfl
theorem exec_free (m : Mk) (L : List Ins) (t : Nat) {x : Ins} (h : x.op = ⟨#[102, 114, 101, 101]⟩) : m.exec L t x = m.free t (m.regs t x.a.toNat) := by
  unfold Mk.exec
  rw [h, toList_bl]
  rfl
theorem exec_mark (m : Mk) (L : List Ins) (t : Nat) {x : Ins} (h : x.op = ⟨#[109, 97, 114, 107]⟩) : m.exec L t x = m.mark t (m.regs t x.a.toNat) := by
  unfold Mk.exec
  rw [h, toList_bl]
  rfl
theorem exec_need (m : Mk) (L : List Ins) (t : Nat) {x : Ins} (h : x.op = ⟨#[110, 101, 101, 100]⟩) : m.exec L t x = m.need (m.regs t x.a.toNat) := by
  unfold Mk.exec
  rw [h, toList_bl]
  rfl
theorem exec_fence (m : Mk) (L : List Ins) (t : Nat) {x : Ins} (h : x.op = ⟨#[102, 101, 110, 99, 101]⟩) : m.exec L t x = m.fence t := by
  unfold Mk.exec
  rw [h, toList_bl]
  rfl
theorem exec_force (m : Mk) (L : List Ins) (t : Nat) {x : Ins} (h : x.op = ⟨#[102, 111, 114, 99, 101]⟩) : m.exec L t x = m.fenceFrom 0 m.mem.threads := by
  unfold Mk.exec
  rw [h, toList_bl]
  rfl
theorem exec_stop (m : Mk) (L : List Ins) (t : Nat) {x : Ins} (h : x.op = ⟨#[115, 116, 111, 112]⟩) : m.exec L t x = m := by
  unfold Mk.exec
  rw [h, toList_bl]
  rfl
theorem exec_zero (m : Mk) (L : List Ins) (t : Nat) {x : Ins} (h : x.op = ⟨#[122, 101, 114, 111]⟩) : m.exec L t x = if m.regs t x.a.toNat = 0 then m.jump t L x.to else m := by
  unfold Mk.exec
  rw [h, toList_bl]
  rfl
theorem exec_same (m : Mk) (L : List Ins) (t : Nat) {x : Ins} (h : x.op = ⟨#[115, 97, 109, 101]⟩) : m.exec L t x = if m.regs t x.a.toNat = m.regs t x.b.toNat then m.jump t L x.to else m := by
  unfold Mk.exec
  rw [h, toList_bl]
  rfl
theorem exec_goto (m : Mk) (L : List Ins) (t : Nat) {x : Ins} (h : x.op = ⟨#[103, 111, 116, 111]⟩) : m.exec L t x = m.jump t L x.to := by
  unfold Mk.exec
  rw [h, toList_bl]
  rfl
theorem exec_label (m : Mk) (L : List Ins) (t : Nat) {x : Ins} (h : x.op = ⟨#[108, 97, 98, 101, 108]⟩) : m.exec L t x = m := by
  unfold Mk.exec
  rw [h, toList_bl]
  rfl

theorem MkOk.exec {N K : Nat} {m : Mk} (h0 : MkOk N K m) {L : List Ins} {t : Nat} {x : Ins} (hx : InsOk L x) (ht : t < N) (hL : L.length ≤ 2000) (hK : K ≤ 60000000) : MkOk N (K + 1) (m.exec L t x) := by
  have h := h0.in
  have hN : N ≤ 6 := by have := h.thr; have := h.mem.thr; omega
  have k1 : K ≤ K + 1 := Nat.le_succ _
  rcases kinds hx with ⟨e, ⟨i0, l0, g0⟩, hv⟩ | ⟨e, ⟨i0, l0, g0⟩, ⟨i1, l1, g1⟩⟩ | ⟨e, ⟨i0, l0, g0⟩, ⟨i1, l1, g1⟩, ⟨i2, l2, g2⟩⟩ | ⟨e, ⟨i0, l0, g0⟩, ⟨i1, l1, g1⟩, ⟨i2, l2, g2⟩⟩ | ⟨e, ⟨i0, l0, g0⟩, ⟨i1, l1, g1⟩, ⟨i2, l2, g2⟩⟩ | ⟨e, ⟨i0, l0, g0⟩, ⟨i1, l1, g1⟩, ⟨i2, l2, g2⟩⟩ | ⟨e, ⟨i0, l0, g0⟩, ⟨i1, l1, g1⟩, ⟨i2, l2, g2⟩⟩ | ⟨e, ⟨i0, l0, g0⟩, ⟨i1, l1, g1⟩, ⟨i2, l2, g2⟩⟩ | ⟨e, ⟨i0, l0, g0⟩, ⟨i1, l1, g1⟩, ⟨i2, l2, g2⟩⟩ | ⟨e, ⟨i0, l0, g0⟩, ⟨i1, l1, g1⟩, ⟨i2, l2, g2⟩⟩ | ⟨e, ⟨i0, l0, g0⟩⟩ | ⟨e, ⟨i0, l0, g0⟩⟩ | ⟨e, ⟨i0, l0, g0⟩⟩ | ⟨e, ⟨i0, l0, g0⟩⟩ | e | e | e | ⟨e, ⟨i0, l0, g0⟩, -⟩ | ⟨e, ⟨i0, l0, g0⟩, ⟨i1, l1, g1⟩, -⟩ | ⟨e, -⟩ | ⟨e, -⟩
  · rw [exec_const m L t e]; exact (show MkIn N (K + 1) (64 * K) _ from (h.mono (Nat.le_succ _) (Nat.le_refl _)).setReg _ _ hv).out (Nat.le_refl _) (by omega)
  · rw [exec_move m L t e]; exact (show MkIn N (K + 1) (64 * K) _ from (h.mono (Nat.le_succ _) (Nat.le_refl _)).setReg _ _ (h.regs _ _)).out (Nat.le_refl _) (by omega)
  · rw [exec_add m L t e]; exact (show MkIn N (K + 1) (64 * K) _ from (h.mono (Nat.le_succ _) (Nat.le_refl _)).setReg _ _ (Wd.mod _)).out (Nat.le_refl _) (by omega)
  · rw [exec_sub m L t e]; exact (show MkIn N (K + 1) (64 * K) _ from (h.mono (Nat.le_succ _) (Nat.le_refl _)).setReg _ _ (Wd.mod _)).out (Nat.le_refl _) (by omega)
  · rw [exec_and m L t e]; exact (show MkIn N (K + 1) (64 * K) _ from (h.mono (Nat.le_succ _) (Nat.le_refl _)).setReg _ _ ((h.regs _ _).and (h.regs _ _))).out (Nat.le_refl _) (by omega)
  · rw [exec_xor m L t e]; exact (show MkIn N (K + 1) (64 * K) _ from (h.mono (Nat.le_succ _) (Nat.le_refl _)).setReg _ _ ((h.regs _ _).xor (h.regs _ _))).out (Nat.le_refl _) (by omega)
  · rw [exec_load m L t e]; exact (h.load ht _ _ _).out k1 (by omega)
  · rw [exec_store m L t e]; exact (h.store ht _ (by omega) (h.regs _ _)).out k1 (by omega)
  · rw [exec_swap m L t e]; exact (h.swap ht _ _ _ (h.regs _ _)).out k1 (by omega)
  · rw [exec_cas m L t e]; exact (h.cas ht _ _ _ _ (h.regs _ _)).out k1 (by omega)
  · rw [exec_alloc m L t e]; exact (h.alloc t _ hK).out (Nat.le_refl _) (by omega)
  · rw [exec_free m L t e]; exact (h.free ht _).out k1 (by omega)
  · rw [exec_mark m L t e]; exact (h.mark t _).out k1 (by omega)
  · rw [exec_need m L t e]; exact (h.need _).out k1 (by omega)
  · rw [exec_fence m L t e]; exact (h.fence ht).out k1 (by omega)
  · rw [exec_force m L t e]; exact (MkIn.fenceFrom m.mem.threads (t := 0) h (by have := h.thr; omega)).out k1 (by have := h.thr; omega)
  · rw [exec_stop m L t e]; exact h.out k1 (by omega)
  · rw [exec_zero m L t e]
    split
    · exact (h.jump t x.to hL).out k1 (by omega)
    · exact h.out k1 (by omega)
  · rw [exec_same m L t e]
    split
    · exact (h.jump t x.to hL).out k1 (by omega)
    · exact h.out k1 (by omega)
  · rw [exec_goto m L t e]; exact (h.jump t x.to hL).out k1 (by omega)
  · rw [exec_label m L t e]; exact h.out k1 (by omega)
end Go.Proofs.YtpjabgdcpogdiaaGreatDoor

/- Words -/
namespace Go.Proofs.YtpjabgdcpogdiaaGreatDoor
open Go.RowKit Go.Extern.Stop Go.Stop Go.Extern

def Worded (c g : Int) : Prop := 0 ≤ c ∧ c < 64 ∧ 0 ≤ g ∧ g * 64 + c + 1 < 4294967296

theorem wordOf_ok (c g : Int) (w : World) (h : Worded c g) :
    Calls Tryz.prog 43 #[.agg #[.int .i64 c, .int .i64 g]] w fun e w' => e = .returned (.tuple #[.int .i64 (g * 64 + c + 1), .int .i64 0]) ∧ Below w.heap.size w w' := by
  have HI : Hid (∀ w, Calls Tryz.prog 64 #[.int .i64 (g * 64 + c + 1)] w fun e w' => e = .returned (.bool true) ∧ w' = w) := fun w => (isWordR_any _ w).mono fun _ _ ⟨h1, h2⟩ => ⟨by rw [h1, decide_eq_true (by unfold Worded at h; omega)], h2⟩
  obtain ⟨h0, h1, h2, h3⟩ := h
  have hg : g ≤ 67108863 := by omega
  have hba := box_below c g w
  clear h3
  go_enter Tryz.func43, Tryz.ntmps43
  go_wp2_with fail
  refine (HI.out _).mono ?_
  rintro e1 w1 ⟨rfl, rfl⟩
  go_wp2
  go_ret2
  exact ⟨rfl, hba⟩

theorem refOf_zero (w : World) :
    Calls Tryz.prog 66 #[.int .i64 0] w fun e w' => e = .returned (.tuple #[.agg #[.int .i64 0, .int .i64 0], .int .i64 5]) ∧ Below w.heap.size w w' := by
  have z0 : (w.alloc (.cells #[.int .i64 0, .int .i64 0] 90)).cell? ⟨w.heap.size, 0, none⟩ = some (.int .i64 0) := by simp
  have z1 : (w.alloc (.cells #[.int .i64 0, .int .i64 0] 90)).cell? ⟨w.heap.size, 1, none⟩ = some (.int .i64 0) := by simp
  have y0 : (w.alloc (.cells #[.int .i64 0, .int .i64 0] 90)).frozen? ⟨w.heap.size, 0, none⟩ = false := by simp
  have y1 : (w.alloc (.cells #[.int .i64 0, .int .i64 0] 90)).frozen? ⟨w.heap.size, 1, none⟩ = false := by simp
  have hba := box_below 0 0 w
  generalize hw : w.alloc (.cells #[.int .i64 0, .int .i64 0] 90) = w1 at *
  go_enter Tryz.func66, Tryz.ntmps66
  go_wp2
  refine bodyPost_ret (v := .tuple #[.agg #[.int .i64 0, .int .i64 0], .int .i64 5]) (by simp only [results, Tryz.results66]; go_simp) rfl ⟨rfl, ?_⟩
  exact ((hba.setCell (Nat.le_refl _) _).setCell (Nat.le_refl _) _)

theorem refOf_ok (n : Int) (w : World) (h1 : 1 ≤ n) (h2 : n < 4294967296) :
    Calls Tryz.prog 66 #[.int .i64 n] w fun e w' => e = .returned (.tuple #[.agg #[.int .i64 ((n - 1) % 64), .int .i64 ((n - 1) / 64)], .int .i64 0]) ∧ Below w.heap.size w w' := by
  have HI : Hid (∀ w, Calls Tryz.prog 64 #[.int .i64 n] w fun e w' => e = .returned (.bool true) ∧ w' = w) := fun w => (isWordR_any _ w).mono fun _ _ ⟨h3, h4⟩ => ⟨by rw [h3, decide_eq_true (by omega)], h4⟩
  have hb : (n == 0) = false := beq_eq_false_iff_ne.2 (by omega)
  have z0 : (w.alloc (.cells #[.int .i64 0, .int .i64 0] 90)).cell? ⟨w.heap.size, 0, none⟩ = some (.int .i64 0) := by simp
  have z1 : (w.alloc (.cells #[.int .i64 0, .int .i64 0] 90)).cell? ⟨w.heap.size, 1, none⟩ = some (.int .i64 0) := by simp
  have y0 : (w.alloc (.cells #[.int .i64 0, .int .i64 0] 90)).frozen? ⟨w.heap.size, 0, none⟩ = false := by simp
  have y1 : (w.alloc (.cells #[.int .i64 0, .int .i64 0] 90)).frozen? ⟨w.heap.size, 1, none⟩ = false := by simp
  have hba := box_below 0 0 w
  generalize hw : w.alloc (.cells #[.int .i64 0, .int .i64 0] 90) = w1 at *
  go_enter Tryz.func66, Tryz.ntmps66
  go_wp2_with fail
  refine (HI.out _).mono ?_
  rintro e1 w2 ⟨rfl, rfl⟩
  go_wp2
  refine bodyPost_ret (v := .tuple #[.agg #[.int .i64 ((n - 1) % 64), .int .i64 ((n - 1) / 64)], .int .i64 0]) (by simp only [results, Tryz.results66]; go_simp) rfl ⟨rfl, ?_⟩
  exact (hba.setCell (Nat.le_refl _) _).setCell (Nat.le_refl _) _
end Go.Proofs.YtpjabgdcpogdiaaGreatDoor
