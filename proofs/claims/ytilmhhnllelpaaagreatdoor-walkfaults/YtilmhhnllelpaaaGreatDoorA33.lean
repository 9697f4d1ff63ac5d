import Derived.Test.YtilmhhnllelpaaaGreatDoorA32
import Derived.Maps.Own
import Derived.Maps.OwnOps
import Derived.Maps.OwnSet
import Derived.Maps.Views
import Derived.StringKeys
import Derived.Deep.RegionLaw

/- WkG -/
namespace Go.Proofs.YtilmhhnllelpaaaGreatDoor
open Go.RowKit Go.Extern.Stop Go.Stop Go.Extern Go.Maps Go.WideMaps Go.Sort

def stepV (x : ByteArray × Int) : Value := .agg #[.string x.1, .int .i64 x.2]
def stepD (x : ByteArray × Int) : DataW Unit := .agg [.lit (.string x.1.data.toList), .lit (.int .i64 x.2)]
def stepElem : Value → Option (DataW Unit × List MemPlace)
  | .agg cs => match cs.toList with
    | [.string s, .int .i64 n] => some (stepD (s, n), [])
    | _ => none
  | _ => none
theorem stepElem_mk (x : ByteArray × Int) : stepElem (stepV x) = some (stepD x, []) := rfl
theorem stepD_inj {x y : ByteArray × Int} (h : stepD x = stepD y) : x = y := by
  obtain ⟨a, b⟩ := x
  obtain ⟨c, d⟩ := y
  unfold stepD at h
  simp only [DataW.agg.injEq, List.cons.injEq, DataW.lit.injEq, Lit.string.injEq, Lit.int.injEq, true_and, and_true] at h
  obtain ⟨h1, h2⟩ := h
  rw [bl_inj (show bl a = bl c from h1), h2]
theorem stepElem_inv {v : Value} {z : DataW Unit × List MemPlace} (h : stepElem v = some z) : ∃ x, v = stepV x ∧ z = (stepD x, []) := by
  unfold stepElem at h
  split at h
  · rename_i cs
    split at h
    · rename_i s n e
      cases h
      exact ⟨(s, n), by unfold stepV; rw [← Array.toList_inj.1 (show cs.toList = #[Value.string s, .int .i64 n].toList from e)], rfl⟩
    · cases h
  · cases h

def stD (E : List (ByteArray × ByteArray × Int)) : DataW Unit := E.foldl (fun D x => D.put (.string (bl x.1)) (stepD x.2)) (.map [])
theorem stD_snoc (E : List (ByteArray × ByteArray × Int)) (x : ByteArray × ByteArray × Int) : stD (E ++ [x]) = (stD E).put (.string (bl x.1)) (stepD x.2) := by
  unfold stD
  rw [List.foldl_append]; rfl
theorem snocInd {α : Type} {p : List α → Prop} (h0 : p []) (h1 : ∀ l x, p l → p (l ++ [x])) (l : List α) : p l := by
  rw [← List.reverse_reverse l]
  induction l.reverse with
  | nil => exact h0
  | cons x r ih => rw [List.reverse_cons]; exact h1 _ _ ih
theorem stD_tidy : ∀ E, Tidy (stD E) := snocInd tidy_empty fun E x ih => by
  rw [stD_snoc]
  exact ih.put (by trivial) _
def keyIn (E : List (ByteArray × ByteArray × Int)) (k : ByteArray) : Bool := E.any fun x => x.1.toList == k.toList
theorem keyIn_snoc (E : List (ByteArray × ByteArray × Int)) (x : ByteArray × ByteArray × Int) (k : ByteArray) : keyIn (E ++ [x]) k = (keyIn E k || (x.1.toList == k.toList)) := by
  unfold keyIn
  rw [List.any_append]
  simp
theorem stD_has (k : ByteArray) : ∀ E, Maps.has (stD E) (.string (bl k)) = keyIn E k := snocInd rfl fun E x ih => by
  rw [stD_snoc, keyIn_snoc, ← ih]
  by_cases e : x.1 = k
  · subst e
    rw [has_put_same (stD_tidy E).isMap (by trivial)]
    simp
  · rw [has_put_other (fun e' => e (bl_inj (by injection e' with e'; exact e'.symm)))]
    have : (x.1.toList == k.toList) = false := by
      rw [beq_eq_false_iff_ne, toList_bl, toList_bl]
      exact fun e' => e (bl_inj e')
    rw [this, Bool.or_false]
theorem keyIn_iff {E : List (ByteArray × ByteArray × Int)} {k : ByteArray} : keyIn E k = true ↔ ∃ x ∈ E, x.1 = k := by
  unfold keyIn
  rw [List.any_eq_true]
  refine exists_congr fun x => and_congr_right fun _ => ?_
  rw [beq_iff_eq, toList_bl, toList_bl]
  exact ⟨fun e => bl_inj e, fun e => by rw [e]⟩
def Once (E : List (ByteArray × ByteArray × Int)) : Prop := E.Pairwise fun x y => x.1 ≠ y.1
theorem Once.snoc {E : List (ByteArray × ByteArray × Int)} (h : Once E) {x : ByteArray × ByteArray × Int} (hx : keyIn E x.1 = false) : Once (E ++ [x]) := by
  refine List.pairwise_append.2 ⟨h, List.pairwise_singleton _ _, fun y hy z hz e => ?_⟩
  obtain rfl : z = x := by simpa using hz
  have : keyIn E z.1 = true := keyIn_iff.2 ⟨y, hy, e⟩
  rw [hx] at this; cases this
theorem Once.left {E F : List (ByteArray × ByteArray × Int)} (h : Once (E ++ F)) : Once E := (List.pairwise_append.1 h).1
theorem Once.last {E : List (ByteArray × ByteArray × Int)} {x : ByteArray × ByteArray × Int} (h : Once (E ++ [x])) : keyIn E x.1 = false := by
  cases hk : keyIn E x.1 with
  | false => rfl
  | true =>
    obtain ⟨y, hy, e⟩ := keyIn_iff.1 hk
    exact absurd e ((List.pairwise_append.1 h).2.2 y hy x (by simp))
theorem stD_size : ∀ E, Once E → Maps.size (stD E) = E.length := snocInd (fun _ => rfl) fun E x ih h => by
  rw [stD_snoc, size_put (stD_tidy E), stD_has, h.last, ih h.left]
  simp
theorem stD_at (d : DataW Unit) : ∀ E, Once E → ∀ x ∈ E, (stD E).atKey (.string (bl x.1)) d = stepD x.2 := snocInd (fun _ x hx => by cases hx) fun E y ih h x hx => by
  rw [stD_snoc]
  rcases List.mem_append.1 hx with hx | hx
  · have hne : x.1 ≠ y.1 := (List.pairwise_append.1 h).2.2 x hx y (by simp)
    rw [atKey_put_other (fun e' => hne (bl_inj (by injection e')))]
    exact ih h.left x hx
  · obtain rfl : x = y := by simpa using hx
    exact atKey_put_same (stD_tidy E).isMap (by trivial) _ _

theorem stepLaw : Keyed Tryz.prog 9 := string_keyed Tryz.underlying9
theorem stepZero (w : World) : (zeroValue 95).run Tryz.prog w = .ok (stepV (ByteArray.empty, 0)) w := by kernel_rfl

def FoundAt (w : World) (b : Nat) (E : List (ByteArray × ByteArray × Int)) : Prop := w.ownsMap Tryz.prog 9 stepElem b E.length (stD E) ∧ Once E
theorem FoundAt.size {w : World} {b : Nat} {E : List (ByteArray × ByteArray × Int)} (h : FoundAt w b E) : Maps.size (stD E) = E.length := stD_size E h.2
theorem FoundAt.look {w : World} {b : Nat} {E : List (ByteArray × ByteArray × Int)} (h : FoundAt w b E) (k : ByteArray) (hk : k.size ≤ maxLen) : ∃ x, (Instr.lookup 88 (.map (some b)) (.string k) true).run Tryz.prog w = .ok (.tuple #[stepV x, .bool (keyIn E k)]) w := by
  obtain ⟨v, ps, hrun, hv⟩ := h.1.look_ok (t := 88) stepLaw Tryz.underlying88 (stepZero w) (stepElem_mk _) (keyOf_string_mk Tryz.underlying9 hk)
  obtain ⟨x, rfl, -⟩ := stepElem_inv hv
  rw [stD_has] at hrun
  exact ⟨x, hrun⟩
theorem FoundAt.at {w : World} {b : Nat} {E : List (ByteArray × ByteArray × Int)} (h : FoundAt w b E) {x : ByteArray × ByteArray × Int} (hx : x ∈ E) (hk : x.1.size ≤ maxLen) : (Instr.lookup 88 (.map (some b)) (.string x.1) false).run Tryz.prog w = .ok (stepV x.2) w := by
  obtain ⟨v, ps, hrun, hv⟩ := h.1.lookup (t := 88) stepLaw Tryz.underlying88 (stepZero w) (stepElem_mk _) (keyOf_string_mk Tryz.underlying9 hk)
  obtain ⟨y, rfl, hy⟩ := stepElem_inv hv
  rw [stD_at _ E h.2 x hx] at hy
  rw [stepD_inj (congrArg Prod.fst hy)]
  exact hrun
theorem FoundAt.store {w : World} {b : Nat} {E : List (ByteArray × ByteArray × Int)} (h : FoundAt w b E) (k : ByteArray) (hk : k.size ≤ maxLen) (x : ByteArray × Int) (hn : E.length < maxLen) (hnew : keyIn E k = false) :
    ∃ w', (Instr.mapUpdate 88 (.map (some b)) (.string k) (stepV x)).run Tryz.prog w = .ok () w' ∧ FoundAt w' b (E ++ [(k, x)]) ∧ w.grownBy w' (some b) := by
  obtain ⟨w', h1, h2, h3⟩ := h.1.update (t := 88) stepLaw Tryz.underlying88 hn (keyOf_string_mk Tryz.underlying9 hk) (stepElem_mk x)
  refine ⟨w', h1, ⟨?_, h.2.snoc hnew⟩, h3⟩
  rw [stD_snoc, List.length_append]
  exact h2
theorem FoundAt.len {w : World} {b : Nat} {E : List (ByteArray × ByteArray × Int)} (h : FoundAt w b E) (ty : TypeId) : (Builtin.len_ #[88] ty #[.map (some b)]).run Tryz.prog w = .ok (.int .i64 E.length) w := by
  rw [h.1.len Tryz.underlying88 ty, h.size]
theorem FoundAt.kept {w w' : World} {b : Nat} {E : List (ByteArray × ByteArray × Int)} (h : FoundAt w b E) (e : w'.heap[b]? = w.heap[b]?) : FoundAt w' b E := by
  obtain ⟨⟨es, clock, hb, r⟩, h2⟩ := h
  exact ⟨⟨es, clock, e.trans hb, r⟩, h2⟩
end Go.Proofs.YtilmhhnllelpaaaGreatDoor

/- WkH -/
namespace Go.Proofs.YtilmhhnllelpaaaGreatDoor
open Go.RowKit Go.Extern.Stop Go.Stop Go.Extern Go.Maps Go.WideMaps Go.Sort

structure ToldAt (tb : Nat) (s e : Int) (w : World) : Prop where
  states : w.cell? ⟨tb, 0, none⟩ = some (.int .i64 s)
  ends : w.cell? ⟨tb, 1, none⟩ = some (.int .i64 e)
  fz : ∀ o, o < 4 → w.frozen? ⟨tb, o, none⟩ = false
  fault : w.cell? ⟨tb, 2, none⟩ = some (.bool false)
  way : w.cell? ⟨tb, 3, none⟩ = some (.slice none 0 0)
theorem ToldAt.lt {tb : Nat} {s e : Int} {w : World} (h : ToldAt tb s e w) : tb < w.heap.size := World.block_lt_of_cell? _ _ h.states
theorem ToldAt.turns {S : Nat → Nat → Prop} {tb : Nat} {s e : Int} {w w' : World} (h : ToldAt tb s e w) (t : Turns S w w') (hS : ∀ o, ¬ S tb o) : ToldAt tb s e w' :=
  ⟨t.keep h.states (hS _), t.keep h.ends (hS _), fun o ho => by rw [t.frozen _ _ h.lt (hS _)]; exact h.fz o ho, t.keep h.fault (hS _), t.keep h.way (hS _)⟩
theorem ToldAt.below {tb : Nat} {s e : Int} {w w' : World} (h : ToldAt tb s e w) (k : Below w.heap.size w w') : ToldAt tb s e w' := h.turns (S := fun _ _ => False) (Turns.of_below k) (fun _ h => h)
theorem ToldAt.set0 {tb : Nat} {s e : Int} {w : World} (h : ToldAt tb s e w) (s' : Int) : ToldAt tb s' e (w.setCell ⟨tb, 0, none⟩ (.int .i64 s')) :=
  ⟨World.cell?_setCell_same _ _ _ h.states, cell_ne h.ends (.inr (by omega)), fun o ho => by rw [World.frozen?_setCell]; exact h.fz o ho, cell_ne h.fault (.inr (by omega)), cell_ne h.way (.inr (by omega))⟩
theorem ToldAt.set1 {tb : Nat} {s e : Int} {w : World} (h : ToldAt tb s e w) (e' : Int) : ToldAt tb s e' (w.setCell ⟨tb, 1, none⟩ (.int .i64 e')) :=
  ⟨cell_ne h.states (.inr (by omega)), World.cell?_setCell_same _ _ _ h.ends, fun o ho => by rw [World.frozen?_setCell]; exact h.fz o ho, cell_ne h.fault (.inr (by omega)), cell_ne h.way (.inr (by omega))⟩

def endN (e : Int) : Bool → Int
  | true => e + 1
  | false => e

set_option maxRecDepth 20000 in
set_option maxHeartbeats 1000000 in
theorem see_any {a : Nat → Addr} {cs : List (List Ins)} {p : MkPl} {m : Mk} {w : World} (h : MkAt a cs p m w) {tb cb cap : Nat} {s e : Int} {ad : Option Addr} (ht : ToldAt tb s e w) (hc : w.cell? ⟨cb, 0, none⟩ = some (.slice ad cs.length cap)) (hcb : cb ≠ tb) (hp : ¬ p.fp tb) (hB : p.B ≤ tb) (hs : 0 ≤ s ∧ s ≤ 1000000) (he : 0 ≤ e ∧ e ≤ 1000000) :
    Calls Tryz.prog 14 #[.pointer (some ⟨p.b, 0, none⟩), .pointer (some ⟨tb, 0, none⟩), .pointer (some ⟨cb, 0, none⟩)] w fun x w' => x = .returned (.tuple #[]) ∧ ToldAt tb (s + 1) (endN e (endTo cs m cs.length)) w' ∧ Turns (fun k _ => k = tb) w w' := by
  have t0 := ht.states
  have z0 := ht.fz 0 (by decide)
  have H1 := hide (ht.set0 (s + 1))
  have T1 : Turns (fun k _ => k = tb) w (w.setCell ⟨tb, 0, none⟩ (.int .i64 (s + 1))) := (Turns.refl _ _).setCell _ rfl
  have HM := hide (h.turns T1 (fun k _ e => by rw [e]; exact hp) (fun k _ e => by rw [e]; exact hB))
  have hc1 := T1.keep hc (fun e => hcb e)
  have HE := hide (ended_any HM.out)
  have HT1 := hide T1
  obtain ⟨hs1, hs2⟩ := hs
  obtain ⟨he1, he2⟩ := he
  clear ht T1 h hc hp hB HM
  go_enter Tryz.func14, Tryz.ntmps14
  go_wp2_with fail
  generalize w.setCell ⟨tb, 0, none⟩ (.int .i64 (s + 1)) = w1 at *
  refine HE.out.mono ?_
  rintro x w2 ⟨rfl, hb2⟩
  have H2 := hide (H1.out.below hb2)
  have T2 := hide (HT1.out.trans (Turns.of_below hb2))
  clear H1 HT1 HE hb2 hc1
  cases hx : endTo cs m cs.length
  · go_wp2_with fail
    go_end0
    exact ⟨rfl, by rw [hx]; exact H2.out, T2.out⟩
  · have t1 := H2.out.ends
    have z1 := H2.out.fz 1 (by decide)
    go_wp2_with fail
    go_end0
    exact ⟨rfl, by rw [hx]; exact H2.out.set1 (e + 1), T2.out.setCell _ rfl⟩

structure WsAt (b : Nat) (n mo : Int) (fb : Nat) (qv see : Value) (w : World) : Prop where
  numbers : w.cell? ⟨b, 0, none⟩ = some (.int .i64 n)
  most : w.cell? ⟨b, 1, none⟩ = some (.int .i64 mo)
  found : w.cell? ⟨b, 2, none⟩ = some (.map (some fb))
  ahead : w.cell? ⟨b, 3, none⟩ = some qv
  see : w.cell? ⟨b, 4, none⟩ = some see
  fz : w.frozen? ⟨b, 3, none⟩ = false
theorem WsAt.lt {b fb : Nat} {n mo : Int} {qv see : Value} {w : World} (h : WsAt b n mo fb qv see w) : b < w.heap.size := World.block_lt_of_cell? _ _ h.numbers
theorem WsAt.turns {S : Nat → Nat → Prop} {b fb : Nat} {n mo : Int} {qv see : Value} {w w' : World} (h : WsAt b n mo fb qv see w) (t : Turns S w w') (hS : ∀ o, ¬ S b o) : WsAt b n mo fb qv see w' :=
  ⟨t.keep h.numbers (hS _), t.keep h.most (hS _), t.keep h.found (hS _), t.keep h.ahead (hS _), t.keep h.see (hS _), by rw [t.frozen _ _ h.lt (hS _)]; exact h.fz⟩
theorem WsAt.set {b fb : Nat} {n mo : Int} {qv see : Value} {w : World} (h : WsAt b n mo fb qv see w) (q : Value) : WsAt b n mo fb q see (w.setCell ⟨b, 3, none⟩ q) :=
  ⟨cell_ne h.numbers (.inr (by omega)), cell_ne h.most (.inr (by omega)), cell_ne h.found (.inr (by omega)), World.cell?_setCell_same _ _ _ h.ahead, cell_ne h.see (.inr (by omega)), by rw [World.frozen?_setCell]; exact h.fz⟩

set_option maxRecDepth 20000 in
set_option maxHeartbeats 1000000 in
theorem newSearch_any (n mo : Int) (see : Value) (w : World) (hsee : ∃ fn f c, see = .func fn f c) :
    Calls Tryz.prog 13 #[.int .i64 n, .int .i64 mo, see] w fun x w' => x = .returned (.pointer (some ⟨w.heap.size + 1, 0, none⟩)) ∧ WsAt (w.heap.size + 1) n mo w.heap.size (.slice none 0 0) see w' ∧ FoundAt w' w.heap.size [] ∧ Below w.heap.size w w' := by
  obtain ⟨fn, f, c, rfl⟩ := hsee
  have hmm := @run_makeMap Tryz.prog
  go_enter Tryz.func13, Tryz.ntmps13
  go_wp2_with fail
  go_ret
  have hs : (w.alloc (.map #[] 0)).heap.size = w.heap.size + 1 := by simp
  refine ⟨by simp, ⟨?_, ?_, ?_, ?_, ?_, ?_⟩, ?_, ?_⟩
  · rw [← hs, World.cell?_alloc_new]; rfl
  · rw [← hs, World.cell?_alloc_new]; rfl
  · rw [← hs, World.cell?_alloc_new]; rfl
  · rw [← hs, World.cell?_alloc_new]; rfl
  · rw [← hs, World.cell?_alloc_new]; rfl
  · rw [← hs]; unfold World.frozen?; rw [show ((w.alloc (.map #[] 0)).alloc _).heap[(w.alloc (.map #[] 0)).heap.size]? = some (Obj.cells _ _ _) from heap_alloc_new _ _]; rfl
  · exact ⟨(World.ownsMap_made w _ _ _).alloc _, List.Pairwise.nil⟩
  · exact ((Below.refl _ w).alloc (Nat.le_refl _) _).alloc (by simp) _
end Go.Proofs.YtilmhhnllelpaaaGreatDoor

/- WkI -/
namespace Go.Proofs.YtilmhhnllelpaaaGreatDoor
open Go.RowKit Go.Extern.Stop Go.Stop Go.Extern Go.Maps Go.WideMaps Go.Sort

structure SrPl where
  b : Nat
  fb : Nat
  tb : Nat
  cb : Nat
  ad : Option Addr
  cap : Nat
  n : Int
  mo : Int
def SrPl.see (q : SrPl) : Value := .func (.func 14) #[] #[.pointer (some ⟨q.tb, 0, none⟩), .pointer (some ⟨q.cb, 0, none⟩)]
def SrPl.fp (q : SrPl) (qv : Value) (k : Nat) : Prop := k = q.b ∨ k = q.fb ∨ k = q.tb ∨ qv.ownBlock = some k

structure SrAt (B nc : Nat) (q : SrPl) (E : List (ByteArray × ByteArray × Int)) (qv : Value) (l : List Value) (s e : Int) (w : World) : Prop where
  ws : WsAt q.b q.n q.mo q.fb qv q.see w
  found : FoundAt w q.fb E
  que : QAt w B qv l
  told : ToldAt q.tb s e w
  codes : w.cell? ⟨q.cb, 0, none⟩ = some (.slice q.ad nc q.cap)
  b_fb : q.b ≠ q.fb
  b_tb : q.b ≠ q.tb
  fb_tb : q.fb ≠ q.tb
  hcb : q.cb < B
  hb : B ≤ q.b
  hfb : B ≤ q.fb
  htb : B ≤ q.tb
  qo : ∀ k, qv.ownBlock = some k → k ≠ q.b ∧ k ≠ q.fb ∧ k ≠ q.tb

theorem SrAt.lt {B nc : Nat} {q : SrPl} {E : List (ByteArray × ByteArray × Int)} {qv : Value} {l : List Value} {s e : Int} {w : World} (h : SrAt B nc q E qv l s e w) {k : Nat} (hk : q.fp qv k) : k < w.heap.size := by
  rcases hk with rfl | rfl | rfl | hk
  · exact h.ws.lt
  · exact h.found.1.lt
  · exact h.told.lt
  · exact (h.que.lt hk).2
theorem SrAt.ge {B nc : Nat} {q : SrPl} {E : List (ByteArray × ByteArray × Int)} {qv : Value} {l : List Value} {s e : Int} {w : World} (h : SrAt B nc q E qv l s e w) {k : Nat} (hk : q.fp qv k) : B ≤ k := by
  rcases hk with rfl | rfl | rfl | hk
  · exact h.hb
  · exact h.hfb
  · exact h.htb
  · exact (h.que.lt hk).1
theorem SrAt.turns {S : Nat → Nat → Prop} {B nc : Nat} {q : SrPl} {E : List (ByteArray × ByteArray × Int)} {qv : Value} {l : List Value} {s e : Int} {w w' : World} (h : SrAt B nc q E qv l s e w) (t : Turns S w w') (hS : ∀ k o, S k o → ¬ q.fp qv k) (hB : ∀ k o, S k o → B ≤ k) : SrAt B nc q E qv l s e w' where
  ws := h.ws.turns t (fun o hs => hS _ _ hs (.inl rfl))
  found := h.found.kept (t.block _ h.found.1.lt (fun o hs => hS _ _ hs (.inr (.inl rfl))))
  que := h.que.turns t (fun k o hk hs => hS _ _ hs (.inr (.inr (.inr hk))))
  told := h.told.turns t (fun o hs => hS _ _ hs (.inr (.inr (.inl rfl))))
  codes := t.keep h.codes (fun hs => by have := hB _ _ hs; have := h.hcb; omega)
  b_fb := h.b_fb
  b_tb := h.b_tb
  fb_tb := h.fb_tb
  hcb := h.hcb
  hb := h.hb
  hfb := h.hfb
  htb := h.htb
  qo := h.qo
theorem SrAt.below {B nc : Nat} {q : SrPl} {E : List (ByteArray × ByteArray × Int)} {qv : Value} {l : List Value} {s e : Int} {w w' : World} (h : SrAt B nc q E qv l s e w) (k : Below w.heap.size w w') : SrAt B nc q E qv l s e w' :=
  h.turns (S := fun _ _ => False) (Turns.of_below k) (fun _ _ h => h.elim) (fun _ _ h => h.elim)

theorem Turns.of_grown {w w' : World} {r : Nat} (h : w.grownBy w' (some r)) : Turns (fun k _ => k = r) w w' :=
  have hg : ∀ k, k < w.heap.size → k ≠ r → w'.heap[k]? = w.heap[k]? := fun k hk hne => h.block k hk (fun e => hne (by cases e; rfl))
  ⟨h.os, h.tape, h.output, h.size, fun k hk ho => hg k hk (fun e => ho 0 e), fun k o hk ho => World.cell?_of_block (hg k hk ho), fun k o hk ho => World.frozen?_of_block (hg k hk ho)⟩

theorem SrAt.pushed {B nc : Nat} {q : SrPl} {E E' : List (ByteArray × ByteArray × Int)} {qv v' : Value} {l l' : List Value} {s e : Int} {w4 w5 w6 w7 : World} (h : SrAt B nc q E qv l s e w4) (T5 : Turns (fun k _ => k = q.fb) w4 w5) (F5 : FoundAt w5 q.fb E') (b6 : Below w5.heap.size w5 w6)
    (T7 : Turns (fun k _ => qv.ownBlock = some k) w6 w7) (Q7 : QAt w7 B v' l') (hv : v'.ownBlock = qv.ownBlock ∨ ∃ k, v'.ownBlock = some k ∧ w6.heap.size ≤ k) :
    SrAt B nc q E' v' l' s e (w7.setCell ⟨q.b, 3, none⟩ v') ∧ Turns (fun k _ => q.fp qv k) w4 (w7.setCell ⟨q.b, 3, none⟩ v') ∧ (∀ k, v'.ownBlock = some k → qv.ownBlock = some k ∨ w4.heap.size ≤ k) := by
  have T57 : Turns (fun k _ => qv.ownBlock = some k) w5 w7 := (Turns.of_below b6).trans T7
  have T47 : Turns (fun k _ => k = q.fb ∨ qv.ownBlock = some k) w4 w7 := (T5.mono fun _ _ _ e => .inl e).trans (T57.mono fun _ _ _ e => .inr e)
  have T8 : Turns (fun k o => k = q.b ∧ o = 3) w7 (w7.setCell ⟨q.b, 3, none⟩ v') := (Turns.refl _ _).setCell _ ⟨rfl, rfl⟩
  have hb := h.ws.lt
  have hfb := h.found.1.lt
  have htb := h.told.lt
  have hsz : w4.heap.size ≤ w6.heap.size := Nat.le_trans T5.size b6.size
  have hv4 : ∀ k, v'.ownBlock = some k → qv.ownBlock = some k ∨ w4.heap.size ≤ k := fun k hk => by
    rcases hv with e | ⟨k', e, h2⟩
    · exact .inl (by rw [← e]; exact hk)
    · rw [hk] at e; cases e; exact .inr (by omega)
  have hqo : ∀ k, v'.ownBlock = some k → k ≠ q.b ∧ k ≠ q.fb ∧ k ≠ q.tb := fun k hk => by
    rcases hv4 k hk with e | e
    · exact h.qo k e
    · exact ⟨by omega, by omega, by omega⟩
  have nb : ∀ o : Nat, ¬ (fun k (_ : Nat) => k = q.fb ∨ qv.ownBlock = some k) q.b o := fun _ e => e.elim h.b_fb (fun e => (h.qo _ e).1 rfl)
  have nt : ∀ o : Nat, ¬ (fun k (_ : Nat) => k = q.fb ∨ qv.ownBlock = some k) q.tb o := fun _ e => e.elim (fun e => h.fb_tb e.symm) (fun e => (h.qo _ e).2.2 rfl)
  refine ⟨⟨(h.ws.turns T47 nb).set v', ?_, ?_, (h.told.turns T47 nt).turns T8 (fun o e => h.b_tb e.1.symm), ?_, h.b_fb, h.b_tb, h.fb_tb, h.hcb, h.hb, h.hfb, h.htb, hqo⟩, ?_, hv4⟩
  · refine F5.kept ?_
    rw [Below.heap_setCell _ _ _ _ (show q.fb ≠ q.b from h.b_fb.symm)]
    exact T57.block _ F5.1.lt (fun _ e => (h.qo _ e).2.1 rfl)
  · exact Q7.turns T8 (fun k o hk hs => (hqo k hk).1 hs.1)
  · refine T8.keep (T47.keep h.codes (fun hs => ?_)) (fun hs => ?_)
    · have h1 := h.hcb
      rcases hs with e | e
      · have := h.hfb; omega
      · have := (h.que.lt e).1; omega
    · have h1 := h.hcb
      have := h.hb
      have := hs.1
      omega
  · refine (T47.mono fun k _ _ e => ?_).setCell _ (.inl rfl)
    rcases e with e | e
    · exact .inr (.inl e)
    · exact .inr (.inr (.inr e))
theorem SrAt.seen {B nc : Nat} {q : SrPl} {E : List (ByteArray × ByteArray × Int)} {qv : Value} {l : List Value} {s e s' e' : Int} {w w' : World} (h : SrAt B nc q E qv l s e w) (t : Turns (fun k _ => k = q.tb) w w') (ht : ToldAt q.tb s' e' w') : SrAt B nc q E qv l s' e' w' where
  ws := h.ws.turns t (fun _ e => h.b_tb e)
  found := h.found.kept (t.block _ h.found.1.lt (fun _ e => h.fb_tb e))
  que := h.que.turns t (fun k _ hk e => (h.qo k hk).2.2 e)
  told := ht
  codes := t.keep h.codes (fun e => by have := h.hcb; have := h.htb; omega)
  b_fb := h.b_fb
  b_tb := h.b_tb
  fb_tb := h.fb_tb
  hcb := h.hcb
  hb := h.hb
  hfb := h.hfb
  htb := h.htb
  qo := h.qo

structure KeyOk (nc : Nat) (m : Mk) : Prop where
  range : ∀ x ∈ mkNums nc m, 0 ≤ x ∧ x < 4611686018427387904
  few : (mkNums nc m).length ≤ 700
theorem KeyOk.size {nc : Nat} {m : Mk} (h : KeyOk nc m) : (keyOf nc m).size ≤ maxLen := by
  have h1 := vbs_len h.range
  have h2 := h.few
  have e : (keyOf nc m).size = (vbs (mkNums nc m)).length := by unfold keyOf; simp [ByteArray.size]
  rw [e]
  unfold maxLen
  omega

set_option maxRecDepth 20000 in
set_option maxHeartbeats 1000000 in
theorem add_old {a : Nat → Addr} {cs : List (List Ins)} {p : MkPl} {m : Mk} {w : World} {q : SrPl} {E : List (ByteArray × ByteArray × Int)} {qv : Value} {l : List Value} {s e : Int} (h : MkAt a cs p m w) (hs : SrAt p.B cs.length q E qv l s e w) (h1 : 1 ≤ cs.length) (hk : KeyOk cs.length m) (x : ByteArray × Int)
    (hin : keyIn E (keyOf cs.length m) = true) :
    Calls Tryz.prog 25 #[.pointer (some ⟨q.b, 0, none⟩), .pointer (some ⟨p.b, 0, none⟩), .agg #[.string x.1, .int .i64 x.2]] w fun r w' => r = .returned .nilIface ∧ Below w.heap.size w w' := by
  obtain ⟨w1, hw1⟩ : ∃ w1, w1 = w.alloc (.cells #[.string x.1, .int .i64 x.2] 95) := ⟨_, rfl⟩
  have b1 : Below w.heap.size w w1 := by rw [hw1]; exact (Below.refl _ _).alloc (Nat.le_refl _) _
  have HK := hide (key_any (h.below b1) h1 hk.range hk.few)
  have HS := hide (hs.below b1)
  have hsz := hk.size
  clear h hs hk
  generalize keyOf cs.length m = K at *
  go_enter Tryz.func25, Tryz.ntmps25
  go_wp2_with fail
  rw [← hw1]
  clear hw1
  refine HK.out.mono ?_
  rintro r w2 ⟨rfl, hb2⟩
  have S2 := HS.out.below hb2
  have B2 := below_step b1 hb2
  obtain ⟨y, hlook⟩ := S2.found.look K hsz
  rw [hin] at hlook
  unfold stepV at hlook
  have c2 := S2.ws.found
  clear HK HS S2 b1 hb2
  go_wp2_with fail
  go_ret
  exact ⟨rfl, B2.alloc B2.size _⟩

set_option maxRecDepth 20000 in
set_option maxHeartbeats 1000000 in
theorem add_more {a : Nat → Addr} {cs : List (List Ins)} {p : MkPl} {m : Mk} {w : World} {q : SrPl} {E : List (ByteArray × ByteArray × Int)} {qv : Value} {l : List Value} {s e : Int} (h : MkAt a cs p m w) (hs : SrAt p.B cs.length q E qv l s e w) (h1 : 1 ≤ cs.length) (hk : KeyOk cs.length m) (x : ByteArray × Int)
    (hin : keyIn E (keyOf cs.length m) = false) (hmo : (E.length : Int) = q.mo) :
    Calls Tryz.prog 25 #[.pointer (some ⟨q.b, 0, none⟩), .pointer (some ⟨p.b, 0, none⟩), .agg #[.string x.1, .int .i64 x.2]] w fun r w' => r = .returned (errAt (a 1)) ∧ Below w.heap.size w w' := by
  obtain ⟨w1, hw1⟩ : ∃ w1, w1 = w.alloc (.cells #[.string x.1, .int .i64 x.2] 95) := ⟨_, rfl⟩
  have b1 : Below w.heap.size w w1 := by rw [hw1]; exact (Below.refl _ _).alloc (Nat.le_refl _) _
  have HK := hide (key_any (h.below b1) h1 hk.range hk.few)
  have HS := hide (hs.below b1)
  have HE := hide (h.below b1).pg.envB.env
  have hsz := hk.size
  clear h hs hk
  generalize keyOf cs.length m = K at *
  go_enter Tryz.func25, Tryz.ntmps25
  go_wp2_with fail
  rw [← hw1]
  clear hw1
  refine HK.out.mono ?_
  rintro r w2 ⟨rfl, hb2⟩
  have S2 := HS.out.below hb2
  have B2 := below_step b1 hb2
  obtain ⟨y, hlook⟩ := S2.found.look K hsz
  rw [hin] at hlook
  unfold stepV at hlook
  have c2 := S2.ws.found
  have m2 := S2.ws.most
  rw [← hmo] at m2
  have HL := hide S2.found
  have g2 : w2.cell? ⟨0, 0, none⟩ = some (errAt (a 1)) := (HE.out.below hb2.block).cell 1 (by decide)
  clear HK HS S2 b1 hb2 HE
  go_wp2_with fail
  generalize hw3 : w2.alloc _ = w3
  have b3 : Below w2.heap.size w2 w3 := by rw [← hw3]; exact (Below.refl _ _).alloc (Nat.le_refl _) _
  have c3 := keep_cell b3 c2
  have m3 := keep_cell b3 m2
  have g3 := keep_cell b3 g2
  have hlen := fun n ty => FoundAt.len (HL.out.kept (w' := w3.drewN n) ((by rfl : (w3.drewN n).heap[q.fb]? = w3.heap[q.fb]?).trans (b3.block _ HL.out.1.lt))) ty
  have B3 := below_step B2 b3
  clear c2 m2 g2 HL hlook b3 hw3
  go_quiet (fail)
  go_wp2
  go_ret
  exact ⟨rfl, below_dN B3 _⟩

set_option maxRecDepth 20000 in
set_option maxHeartbeats 1000000 in
theorem add_new {a : Nat → Addr} {cs : List (List Ins)} {p : MkPl} {m : Mk} {w : World} {q : SrPl} {E : List (ByteArray × ByteArray × Int)} {qv : Value} {l : List Value} {s e : Int} (h : MkAt a cs p m w) (hs : SrAt p.B cs.length q E qv l s e w) (hd : ∀ k, p.fp k → ¬ q.fp qv k) (h1 : 1 ≤ cs.length) (hk : KeyOk cs.length m) (x : ByteArray × Int)
    (hE : E.length ≤ 100000) (hl : l.length ≤ 100000) (hse : (0 ≤ s ∧ s ≤ 1000000) ∧ (0 ≤ e ∧ e ≤ 1000000)) (hin : keyIn E (keyOf cs.length m) = false) (hmo : (E.length : Int) ≠ q.mo) :
    Calls Tryz.prog 25 #[.pointer (some ⟨q.b, 0, none⟩), .pointer (some ⟨p.b, 0, none⟩), .agg #[.string x.1, .int .i64 x.2]] w fun r w' => r = .returned .nilIface ∧
      ∃ qv', SrAt p.B cs.length q (E ++ [(keyOf cs.length m, x)]) qv' (l ++ [.pointer (some ⟨p.b, 0, none⟩)]) (s + 1) (endN e (endTo cs m cs.length)) w' ∧ Turns (fun k _ => q.fp qv k) w w' ∧ ∀ k, qv'.ownBlock = some k → qv.ownBlock = some k ∨ w.heap.size ≤ k := by
  obtain ⟨w1, hw1⟩ : ∃ w1, w1 = w.alloc (.cells #[.string x.1, .int .i64 x.2] 95) := ⟨_, rfl⟩
  have b1 : Below w.heap.size w w1 := by rw [hw1]; exact (Below.refl _ _).alloc (Nat.le_refl _) _
  have e0 : w1.cell? ⟨w.heap.size, 0, none⟩ = some (.string x.1) := by rw [hw1]; simp
  have e1 : w1.cell? ⟨w.heap.size, 1, none⟩ = some (.int .i64 x.2) := by rw [hw1]; simp
  have HK := hide (key_any (h.below b1) h1 hk.range hk.few)
  have HS := hide (hs.below b1)
  have HM := hide (h.below b1)
  have hsz := hk.size
  have hne : ((E.length : Int) == q.mo) = false := beq_eq_false_iff_ne.2 hmo
  clear h hs hk
  generalize keyOf cs.length m = K at *
  go_enter Tryz.func25, Tryz.ntmps25
  go_wp2_with fail
  rw [← hw1]
  clear hw1
  refine HK.out.mono ?_
  rintro r w2 ⟨rfl, hb2⟩
  have S2 := hide (HS.out.below hb2)
  have M2 := hide (HM.out.below hb2)
  have B2 := below_step b1 hb2
  replace e0 := keep_cell hb2 e0
  replace e1 := keep_cell hb2 e1
  obtain ⟨y, hlook⟩ := S2.out.found.look K hsz
  rw [hin] at hlook
  unfold stepV at hlook
  have c2 := S2.out.ws.found
  clear HK HS HM b1 hb2
  go_wp2_with fail
  generalize hw3 : w2.alloc _ = w3
  have b3 : Below w2.heap.size w2 w3 := by rw [← hw3]; exact (Below.refl _ _).alloc (Nat.le_refl _) _
  have S3 := hide (S2.out.below b3)
  have M3 := hide (M2.out.below b3)
  have B3 := below_step B2 b3
  have c3 := S3.out.ws.found
  have m3 := S3.out.ws.most
  replace e0 := keep_cell b3 e0
  replace e1 := keep_cell b3 e1
  have hlen := fun n ty => FoundAt.len (S3.out.found.kept (w' := w3.drewN n) (by rfl)) ty
  clear c2 S2 M2 hlook b3 hw3 B2
  go_quiet (fail)
  clear hlen
  rename_i nq
  generalize hw4 : w3.drewN nq = w4
  have b4 : Below w3.heap.size w3 w4 := by rw [← hw4]; exact Below.drewN' nq
  have S4 := hide (S3.out.below b4)
  have M4 := hide (M3.out.below b4)
  have B4 := below_step B3 b4
  have c4 := S4.out.ws.found
  replace e0 := keep_cell b4 e0
  replace e1 := keep_cell b4 e1
  clear c3 m3 S3 M3 b4 hw4 B3
  obtain ⟨w5, hrun, F5, G5⟩ := (S4.out.found.kept (w' := w4.drew) (by rfl)).store K hsz x (by unfold maxLen; omega) hin
  unfold stepV at hrun
  go_wp2
  go_region
  have T5 : Turns (fun k _ => k = q.fb) w4 w5 := (Turns.of_below (w' := w4.drew) (below_step (Below.refl _ _) (Below.drewN' 1))).trans (Turns.of_grown G5)
  have a5 : w5.cell? ⟨q.b, 3, none⟩ = some qv := T5.keep S4.out.ws.ahead S4.out.b_fb
  have z5 : w5.frozen? ⟨q.b, 3, none⟩ = false := by rw [T5.frozen _ _ S4.out.ws.lt S4.out.b_fb]; exact S4.out.ws.fz
  have Q5 : QAt w5 p.B qv l := S4.out.que.turns T5 (fun k _ hk => (S4.out.qo k hk).2.1)
  have hq5 : p.B ≤ w5.heap.size := by have := S4.out.hb; have := S4.out.ws.lt; have := T5.size; omega
  have s5 := T5.size
  clear hrun G5 e0 e1 c4
  go_wp2_with (at_builtin; refine wpList_append_q _ rfl _ _ rfl p.B l (.pointer (some ⟨p.b, 0, none⟩)) qv ⟨w5.heap.size, 0, none⟩ 1 rfl ?q1 rfl ?q2 rfl ?q3 ?q4 ?_)
  case q1 => exact Q5.below ((Below.refl _ _).alloc (Nat.le_refl _) _)
  case q2 => rw [Addr.add_lit, World.cell?_alloc_new]; rfl
  case q3 => omega
  case q4 => simp; omega
  intro v7 w7 Q7 T7 hv7
  obtain ⟨g7, n7, c7, rfl⟩ : ∃ g n c, v7 = .slice g n c := by
    rcases Q7 with ⟨e, -⟩ | ⟨g, off, cap, e, -⟩
    · exact ⟨_, _, _, e⟩
    · exact ⟨_, _, _, e⟩
  have b6 : Below w5.heap.size w5 (w5.alloc (.cells #[.pointer (some ⟨p.b, 0, none⟩)] 37)) := (Below.refl _ _).alloc (Nat.le_refl _) _
  obtain ⟨S8, T8, hv8⟩ := S4.out.pushed T5 F5 b6 T7 Q7 (by rw [World.size_alloc]; exact hv7)
  have a7 : w7.cell? ⟨q.b, 3, none⟩ = some qv := T7.keep (keep_cell b6 a5) (fun e => (S4.out.qo _ e).1 rfl)
  have z7 : w7.frozen? ⟨q.b, 3, none⟩ = false := by
    rw [T7.frozen _ _ (by have := S4.out.ws.lt; have := b6.size; omega) (fun e => (S4.out.qo _ e).1 rfl), b6.frozen (by have := S4.out.ws.lt; show q.b < _; omega)]
    exact z5
  have sc := S8.ws.see
  have M8 := M4.out.turns T8 (fun k _ hk hp => hd k hp hk) (fun k _ hk => S4.out.ge hk)
  have HSee := hide (see_any M8 S8.told S8.codes (by have := S4.out.hcb; have := S4.out.htb; omega) (fun hp => hd _ hp (.inr (.inr (.inl rfl)))) S4.out.htb hse.1 hse.2)
  unfold SrPl.see at sc
  have HZ := hide S8
  have HT := hide ((Turns.of_below (S := fun k _ => q.fp qv k) B4).trans T8)
  have HV := hide hv8
  have s4 := B4.size
  clear S8 T8 hv8 M8 S4 M4 Q5 Q7 T7 hv7 T5 F5 a5 z5 b6 hd hq5 B4 hin hmo hne
  go_wp2_with fail
  refine HSee.out.mono ?_
  rintro r w9 ⟨rfl, ht9, T9⟩
  have S9 := hide (HZ.out.seen T9 ht9)
  have TZ := hide (HT.out.trans (T9.mono (fun k _ _ e => .inr (.inr (.inl e)))))
  clear HSee HZ HT ht9 T9
  go_wp2_with fail
  go_ret
  exact ⟨rfl, _, S9.out, TZ.out, fun k hk => (HV.out k hk).imp id (fun e => Nat.le_trans s4 e)⟩
end Go.Proofs.YtilmhhnllelpaaaGreatDoor
