import Derived.Test.YtdpmnlbnlnmjbaaGreatDoorL09
import Derived.Test.YtdpmnlbnlnmjbaaGreatDoorL07
import Derived.WalkKit

/- MemH -/
namespace Go.Proofs.YtdpmnlbnlnmjbaaGreatDoor
open Go.RowKit Go.Extern.Stop Go.Stop Go.Extern Go.Sort

def lineLen (b t : Nat) (w : World) : Nat := match w.cell? ⟨b, 386 + t * 33 + 32, none⟩ with
  | some (.int _ n) => n.toNat
  | _ => 0

theorem MmAt.lineLen {b : Nat} {s : Rm} {w : World} (h : MmAt b s w) {t : Nat} (ht : t < s.threads) : lineLen b t w = (s.waits t).length := by
  unfold Go.Proofs.YtdpmnlbnlnmjbaaGreatDoor.lineLen
  rw [(h.line t ht).len]
  exact Int.toNat_natCast _

def fenceNum (f : Bool) : Nat := if f = true then 7 else 0

set_option maxRecDepth 20000 in
set_option maxHeartbeats 2000000 in
theorem mfence_any (a : Nat → Addr) (B b : Nat) (s : Rm) (t : Nat) (w : World) (hE : EnvB a B w) (hB : B ≤ b) (h : MmAt b s w) (ht : t < s.threads) (hx : ∀ x ∈ s.waits t, x.Ok) :
    Calls Tryz.prog 132 #[.pointer (some ⟨b, 0, none⟩), .int .i64 t] w fun e w' => e = .returned (errVal a (fenceNum (decide (0 < s.gone t (s.waits t))))) ∧ MmStep b w (s.drainAll t (s.waits t)) w' := by
  have HH := has_m_yes b s t w h ht
  have hf := h.few
  have t6 : (t : Int) < 6 := by omega
  have HI : Hid (∃ s1, s1.threads = s.threads ∧ (∀ x ∈ s1.waits t, x.Ok) ∧ (false || decide (0 < s1.gone t (s1.waits t))) = decide (0 < s.gone t (s.waits t)) ∧ s1.drainAll t (s1.waits t) = s.drainAll t (s.waits t) ∧ MmStep b w s1 w) := ⟨s, rfl, hx, by simp, rfl, MmStep.refl h⟩
  generalize decide (0 < s.gone t (s.waits t)) = G at *
  generalize hD : s.drainAll t (s.waits t) = D at *
  clear hD hx h
  go_enter Tryz.func132, Tryz.ntmps132
  go_wp2_with fail
  refine HH.mono ?_
  rintro e0 w1 ⟨rfl, rfl⟩
  clear HH
  go_wp2_with fail
  go_loopw [5, 6] (fun st _ wr => ∃ f : Bool, st = errVal a (fenceNum f) ∧ ∃ s1, s1.threads = s.threads ∧ (∀ x ∈ s1.waits t, x.Ok) ∧ (f || decide (0 < s1.gone t (s1.waits t))) = G ∧ s1.drainAll t (s1.waits t) = D ∧ MmStep b w1 s1 wr) (fun _ _ wr => lineLen b t wr)
  case atStart => exact ⟨false, rfl, HI.out⟩
  case round =>
    obtain ⟨f, rfl, s1, h1, h2, h3, h4, h5⟩ := hrel
    have H5 : Hid (MmStep b w1 s1 wr) := h5
    have t1 : t < s1.threads := by omega
    have hl := (h5.at'.line t t1).len
    have hle := (h5.at'.line t t1).le
    have hwl := h5.at'.lineLen t1
    clear h5
    cases hws : s1.waits t with
    | nil =>
      rw [hws] at hl h3 h4
      have HG : Hid (f = G) := hide (by rw [Rm.gone] at h3; simpa using h3)
      have HD : Hid (s1 = D) := h4
      generalize hv : errVal a (fenceNum f) = V
      have HV : Hid (V = errVal a (fenceNum f)) := hv.symm
      clear h3 h4 h2 HI hv hwl hle
      go_wp2
      go_ret
      exact ⟨by rw [HV.out, HG.out]; rfl, by rw [← HD.out]; exact H5.out⟩
    | cons x l =>
      rw [hws] at hl h2 h3 h4 hwl hle
      have l0 : (0 : Int) < (l.length : Int) + 1 := by omega
      rw [List.length_cons] at hl hle
      have HDr : Hid (Calls Tryz.prog 63 #[.pointer (some ⟨b, 0, none⟩), .int .i64 t] wr fun e w' => e = .returned (errVal a (if s1.ar.has x.c x.g = true then 0 else 7)) ∧ MmStep b wr (s1.drained t x l) w') :=
        mdrain_some a B b s1 t x l wr (hE.step hB H5.out) hB H5.out.at' t1 hws (h2 x (List.mem_cons_self ..))
      have HN : Hid (∀ w2 (f' : Bool), f' = (f || !(s1.ar.has x.c x.g)) → MmStep b wr (s1.drained t x l) w2 → (∃ k : Bool, (errVal a (fenceNum f')) = errVal a (fenceNum k) ∧ ∃ s1, s1.threads = s.threads ∧ (∀ x ∈ s1.waits t, x.Ok) ∧ (k || decide (0 < s1.gone t (s1.waits t))) = G ∧ s1.drainAll t (s1.waits t) = D ∧ MmStep b w1 s1 w2) ∧ lineLen b t w2 < lineLen b t wr) := by
        intro w2 f' hf' hst
        refine ⟨⟨f', rfl, s1.drained t x l, ?_, ?_, ?_, ?_, H5.out.trans hst⟩, ?_⟩
        · rw [Rm.drained_threads]; exact h1
        · rw [Rm.drained_waits]; exact fun y hy => h2 y (List.mem_cons_of_mem _ hy)
        · rw [Rm.drained_waits, ← h3, hf', Rm.gone]
          cases s1.ar.has x.c x.g <;> cases f <;> simp
          omega
        · rw [Rm.drained_waits]; exact h4
        · rw [hwl, hst.at'.lineLen (by rw [Rm.drained_threads]; exact t1), Rm.drained_waits, List.length_cons]
          omega
      clear h2 h3 h4 HI hwl
      cases hh : s1.ar.has x.c x.g
      · rw [hh] at HDr
        replace HDr : Hid (Calls Tryz.prog 63 #[.pointer (some ⟨b, 0, none⟩), .int .i64 t] wr fun e w' => e = .returned (errAt (a 6)) ∧ MmStep b wr (s1.drained t x l) w') := HDr
        generalize hv : errVal a (fenceNum f) = V
        clear H5
        go_wp2_with fail
        refine HDr.out.mono ?_
        rintro e2 w2 ⟨rfl, hst⟩
        have HF : Hid _ := HN.out w2 true (by rw [hh]; simp) hst
        clear HN HDr hst hl hh hv
        go_wp2
        go_roundw
        case rel => exact HF.out.1
        case measure => exact HF.out.2
      · rw [hh] at HDr
        replace HDr : Hid (Calls Tryz.prog 63 #[.pointer (some ⟨b, 0, none⟩), .int .i64 t] wr fun e w' => e = .returned .nilIface ∧ MmStep b wr (s1.drained t x l) w') := HDr
        have HF0 : Hid (∀ w2, MmStep b wr (s1.drained t x l) w2 → (∃ k : Bool, (errVal a (fenceNum f)) = errVal a (fenceNum k) ∧ ∃ s1, s1.threads = s.threads ∧ (∀ x ∈ s1.waits t, x.Ok) ∧ (k || decide (0 < s1.gone t (s1.waits t))) = G ∧ s1.drainAll t (s1.waits t) = D ∧ MmStep b w1 s1 w2) ∧ lineLen b t w2 < lineLen b t wr) := fun w2 hst => HN.out w2 f (by rw [hh]; simp) hst
        generalize hv : errVal a (fenceNum f) = V at HF0 ⊢
        clear H5 HN
        go_wp2_with fail
        refine HDr.out.mono ?_
        rintro e2 w2 ⟨rfl, hst⟩
        have HF : Hid _ := HF0.out w2 hst
        clear HF0 HDr hst hl hh hv
        go_wp2
        go_roundw
        case rel => exact HF.out.1
        case measure => exact HF.out.2
end Go.Proofs.YtdpmnlbnlnmjbaaGreatDoor

/- MemI -/
namespace Go.Proofs.YtdpmnlbnlnmjbaaGreatDoor
open Go.RowKit Go.Extern.Stop Go.Stop Go.Extern Go.Sort

def Rm.Ok (s : Rm) : Prop := ∀ t, t < s.threads → ∀ x ∈ s.waits t, x.Ok

theorem Rm.Ok.drainAll {s : Rm} (h : s.Ok) (t : Nat) : (s.drainAll t (s.waits t)).Ok := by
  intro u hu x hx
  obtain ⟨-, -, -, h4⟩ := s.drainAll_ar (s.waits t) t
  rw [h4] at hu
  by_cases e : u = t
  · subst e
    rw [Rm.drainAll_waits _ _ _ rfl] at hx
    cases hx
  · rw [Rm.drainAll_waits_ne _ _ _ e] at hx
    exact h u hu x hx

end Go.Proofs.YtdpmnlbnlnmjbaaGreatDoor

/- PureS -/
namespace Go.Proofs.YtdpmnlbnlnmjbaaGreatDoor
open Go.RowKit

def shape (op : List UInt8) : Option (List UInt8) :=
  if (op == [99, 111, 110, 115, 116]) = true then some [114, 118]
  else if (op == [109, 111, 118, 101]) = true then some [114, 114]
  else if (op == [97, 100, 100]) = true then some [114, 114, 114]
  else if (op == [115, 117, 98]) = true then some [114, 114, 114]
  else if (op == [97, 110, 100]) = true then some [114, 114, 114]
  else if (op == [120, 111, 114]) = true then some [114, 114, 114]
  else if (op == [108, 111, 97, 100]) = true then some [114, 114, 119]
  else if (op == [115, 116, 111, 114, 101]) = true then some [114, 114, 119]
  else if (op == [115, 119, 97, 112]) = true then some [114, 114, 119]
  else if (op == [99, 97, 115]) = true then some [114, 115, 119]
  else if (op == [97, 108, 108, 111, 99]) = true then some [114]
  else if (op == [102, 114, 101, 101]) = true then some [114]
  else if (op == [109, 97, 114, 107]) = true then some [114]
  else if (op == [110, 101, 101, 100]) = true then some [114]
  else if (op == [102, 101, 110, 99, 101]) = true then some []
  else if (op == [102, 111, 114, 99, 101]) = true then some []
  else if (op == [115, 116, 111, 112]) = true then some []
  else if (op == [122, 101, 114, 111]) = true then some [114, 108]
  else if (op == [115, 97, 109, 101]) = true then some [114, 114, 108]
  else if (op == [103, 111, 116, 111]) = true then some [108]
  else if (op == [108, 97, 98, 101, 108]) = true then some [108]
  else none

def nameOk (i c : Nat) : Bool := decide ((97 ≤ c ∧ c ≤ 122) ∨ (i ≠ 0 ∧ ((48 ≤ c ∧ c ≤ 57) ∨ c = 46)))

def isName (s : ByteArray) : Prop := 1 ≤ s.size ∧ s.size ≤ 12 ∧ ∀ j (h : j < s.size), nameOk j (s[j]'h).toNat = true


structure Ins where
  op : ByteArray
  a : Int
  b : Int
  c : Int
  to : ByteArray

def Ins.n (x : Ins) : Nat → Int
  | 0 => x.a
  | 1 => x.b
  | _ => x.c

def byteAt (S : ByteArray) (i : Nat) : Nat := if h : i < S.size then (S[i]'h).toNat else 0
theorem byteAt_lt {S : ByteArray} {i : Nat} (h : i < S.size) : byteAt S i = (S[i]'h).toNat := dif_pos h

def cnt (S : ByteArray) : Nat → Nat
  | 0 => 0
  | j + 1 => cnt S j + if byteAt S j = 108 then 0 else 1
def lab (S : ByteArray) : Nat → Bool
  | 0 => false
  | j + 1 => lab S j || byteAt S j == 108
def mostOf (c : Nat) : Int := if c = 114 then 8 else if c = 115 then 7 else if c = 119 then 4 else 4294967296

open Classical in
noncomputable def insBad (x : Ins) (S : ByteArray) : Nat :=
  if lab S S.size = false ∧ ¬ x.to.toList = [] then 3
  else if ∃ k, cnt S S.size ≤ k ∧ k < 3 ∧ x.n k ≠ 0 then 3
  else if ∃ k, k < cnt S S.size ∧ ¬ (0 ≤ x.n k ∧ x.n k < mostOf (byteAt S k)) then 2
  else if lab S S.size = true ∧ ¬ isName x.to then 4 else 0

noncomputable def insErr (x : Ins) : Nat := match shape x.op.toList with
  | none => 3
  | some l => insBad x ⟨l.toArray⟩

def setsLabel (x : Ins) (to : ByteArray) : Bool := (x.op.toList == [108, 97, 98, 101, 108]) && (x.to.toList == to.toList)
def labelAt (l : List Ins) (to : ByteArray) : Int := match l.findIdx? (fun x => setsLabel x to) with
  | some j => (j : Int)
  | none => -1

theorem labelAt_some {l : List Ins} {to : ByteArray} {j : Nat} {x : Ins} (hx : l[j]? = some x) (h1 : setsLabel x to = true) (h2 : ∀ (k : Nat) (y : Ins), k < j → l[k]? = some y → setsLabel y to = false) : labelAt l to = j := by
  unfold labelAt
  have : l.findIdx? (fun x => setsLabel x to) = some j := by
    rw [List.findIdx?_eq_some_iff_getElem]
    obtain ⟨hl, rfl⟩ := List.getElem?_eq_some_iff.1 hx
    exact ⟨hl, h1, fun k hk => by rw [h2 k _ hk (List.getElem?_eq_getElem (by omega))]; decide⟩
  rw [this]
theorem labelAt_none {l : List Ins} {to : ByteArray} (h : ∀ (k : Nat) (y : Ins), l[k]? = some y → setsLabel y to = false) : labelAt l to = -1 := by
  unfold labelAt
  have : l.findIdx? (fun x => setsLabel x to) = none := by
    rw [List.findIdx?_eq_none_iff]
    intro x hx
    obtain ⟨k, hk, rfl⟩ := List.getElem_of_mem hx
    rw [h k _ (List.getElem?_eq_getElem hk)]
  rw [this]


open Classical in
noncomputable def insFault (l : List Ins) (i : Nat) (x : Ins) : Nat :=
  if insErr x ≠ 0 then insErr x
  else if (x.op.toList == [108, 97, 98, 101, 108]) = true ∧ labelAt l x.to ≠ i then 4
  else if (x.to.toList == []) = false ∧ labelAt l x.to < 0 then 5 else 0

noncomputable def faultFrom (l : List Ins) : Nat → List Ins → Nat × Int
  | _, [] => (0, -1)
  | j, x :: r => if insFault l j x = 0 then faultFrom l (j + 1) r else (insFault l j x, j)
noncomputable def codeFault (l : List Ins) : Nat × Int := if 2000 < l.length then (2, -1) else faultFrom l 0 l

theorem insErr_le (x : Ins) : insErr x ≤ 4 := by
  unfold insErr
  split
  · omega
  · unfold insBad
    split
    · omega
    · split
      · omega
      · split
        · omega
        · split <;> omega

theorem faultFrom_at (l : List Ins) : ∀ (r : List Ins) (j : Nat), (∀ k y, r[k]? = some y → insFault l (j + k) y = 0) → faultFrom l j r = (0, -1)
  | [], _, _ => rfl
  | x :: r, j, h => by
    unfold faultFrom
    rw [if_pos (show insFault l j x = 0 from h 0 x rfl)]
    exact faultFrom_at l r (j + 1) (fun k y hy => by have := h (k + 1) y hy; rwa [show j + (k + 1) = j + 1 + k by omega] at this)
theorem faultFrom_hit (l : List Ins) : ∀ (r : List Ins) (j n : Nat) (x : Ins), r[n]? = some x → insFault l (j + n) x ≠ 0 → (∀ k y, k < n → r[k]? = some y → insFault l (j + k) y = 0) → faultFrom l j r = (insFault l (j + n) x, ((j + n : Nat) : Int))
  | [], _, _, _, hx, _, _ => by cases hx
  | z :: r, j, 0, x, hx, h0, _ => by
    cases hx
    unfold faultFrom
    rw [if_neg (show ¬ insFault l j z = 0 from h0)]
    rfl
  | z :: r, j, n + 1, x, hx, h0, h => by
    unfold faultFrom
    rw [if_pos (show insFault l j z = 0 from h 0 z (Nat.succ_pos _) rfl)]
    have := faultFrom_hit l r (j + 1) n x hx (by rwa [show j + 1 + n = j + (n + 1) by omega]) (fun k y hk hy => by have := h (k + 1) y (by omega) hy; rwa [show j + (k + 1) = j + 1 + k by omega] at this)
    rw [this, show j + 1 + n = j + (n + 1) by omega]


end Go.Proofs.YtdpmnlbnlnmjbaaGreatDoor
