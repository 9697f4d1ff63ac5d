import Derived.Test.YtaiigfcfmcicjaaGreatDoorE19
import Derived.Test.YtaiigfcfmcicjaaGreatDoorE14
namespace Go.Proofs.YtaiigfcfmcicjaaGreatDoor
set_option maxRecDepth 100000
set_option maxHeartbeats 8000000
section
open Go.RowKit Go.Extern.Stop Go.Stop Go.Extern Go.Maps Go.WideMaps Go.Sort
def fenceO (f : Nat) : ByteArray := if f = 2 then ⟨#[102, 111, 114, 99, 101]⟩ else ⟨#[102, 101, 110, 99, 101]⟩
theorem fence_any (f : Nat) (w : World) : Calls Tryz.prog 113 #[.int .i64 f] w fun e w' => e = .returned (.string (fenceO f)) /\ w' = w := by
 have HF := hide (forces_any (f : Int) w)
 unfold fenceO
 by_cases hf : f = 2
 ·rw [if_pos hf]
  rw [show decide ((f : Int) = 2) = true from decide_eq_true (by omega)] at HF
  clear hf
  generalize (f : Int) = fi at *
  go_enter Tryz.func113, Tryz.ntmps113
  go_wp2_with (go_at_call 132; refine HF.out.mono ?_; rintro e wq ⟨rfl, rfl⟩)
  go_ret
  exact ⟨rfl, rfl⟩
 ·rw [if_neg hf]
  rw [show decide ((f : Int) = 2) = false from decide_eq_false (by omega)] at HF
  clear hf
  generalize (f : Int) = fi at *
  go_enter Tryz.func113, Tryz.ntmps113
  go_wp2_with (go_at_call 132; refine HF.out.mono ?_; rintro e wq ⟨rfl, rfl⟩)
  go_ret
  exact ⟨rfl, rfl⟩
def waitD (f : Nat) (p : ByteArray) (k : Nat) : List Ins := ⟨fenceO f, 0, 0, 0, no⟩ :: ((⟨⟨#[109, 111, 118, 101]⟩, 2, 7, 0, no⟩ :: lblI (lb p (k + 2)) :: eachD (lb p (k + 2)) (lb p (k + 1)) (outD f p (k + 2) (lb p (k + 2)))) ++ [lblI (lb p (k + 1))])
theorem wait11_any {b f : Nat} {p : ByteArray} {k : Nat} (hk : k + 3 <= 9) (hp : p.size <= 1000) (x1 : Nat) :
  Adds 112 #[.pointer (some ⟨x1, 0, none⟩)] b f p k (k + 3) [(x1, mptr b)] (waitD f p k) 350 := by
 intro B w0 v0 L w hq hB hL
 have hmf : ∀ (fn : Fn) (first cap : Array Value) (w : World), (Instr.makeFunc fn first cap).run Tryz.prog w = .ok (.func fn first cap) w := fun _ _ _ _ => rfl
 have HB := hide hB
 have HE : Hid (Adds 114 #[.pointer (some ⟨b, 0, none⟩), .func (.func 115) #[.pointer (some ⟨b, 0, none⟩)] #[]] b f p k (k + 3) [] ((⟨⟨#[109, 111, 118, 101]⟩, 2, 7, 0, no⟩ :: lblI (lb p (k + 2)) :: eachD (lb p (k + 2)) (lb p (k + 1)) (outD f p (k + 2) (lb p (k + 2)))) ++ [lblI (lb p (k + 1))]) 400) := hide (each_any (k' := k + 3) (by omega) hp (by
   unfold outD renD outlD gCode
   split <;> split <;> simp only [List.length_append, List.length_cons, List.length_nil, List.length_map] <;> omega) (fun _ _ => rfl) (outlast_any (k := k + 2) (by omega) hp (lb p (k + 2))))
 have HF := hide (fence_any f)
 unfold waitD
 clear hB
 generalize fenceO f = fo at *
 generalize (⟨⟨#[109, 111, 118, 101]⟩, 2, 7, 0, no⟩ :: lblI (lb p (k + 2)) :: eachD (lb p (k + 2)) (lb p (k + 1)) (outD f p (k + 2) (lb p (k + 2)))) ++ [lblI (lb p (k + 1))] = DD at *
 generalize (f : Int) = fi at *
 go_enter Tryz.func112, Tryz.ntmps112
 go_wp2_with fail
 have hq := hq.below (below_dN bRf 1)
 refine wp_region_F (S := (fun w' => w'.cell? ⟨x1, 0, none⟩ = some (.pointer (some ⟨b, 0, none⟩)) /\ w'.cell? ⟨b, 0, none⟩ = some (.int .i64 fi))) (by kernel_rfl) ⟨hq.bx (HB.out _ (.head _)), hq.c0⟩ (fun hHeld => ?_)
 change MAt _ _ _ _ _ _ _ _ (World.drew w) at hq
 generalize World.drew w = wd at *
 iterate 7
  refine' wpAnyF_next (sz := 9) (n := 8) (v := _) rfl (by kernel_rfl) (fun _ _ _ h => h) (by assumption) (Or.inl ⟨by rfl, ?_⟩) ?_
  case' refine'_2 => (intro w' hSw; (try dsimp only at hSw); go_simp; try with_reducible rfl)
  try simp only [Act.put, fxs]
 refine wpAnyF_only (i := 7) rfl (by kernel_rfl) (fun K hK => ?_)
 go_simp
 go_at_call 113
 refine (HF.out _).mono ?_
 rintro e wz ⟨rfl, rfl⟩
 dsimp only
 refine hK.out _ _ (Or.inr hHeld) ?_
 clear hK K
 try simp only [Act.put, fxs]
 refine wpAnyF_only (i := 8) rfl (by kernel_rfl) (fun K hK => ?_)
 go_simp
 go_at_call 97
 (first | ((with_reducible show Calls _ _ #[_, _, Value.slice _ 3 _] _ _); refine (MAt.do3 (by first | exact hq | exact h) (by (try simp only [List.length_append]); (try simp only [List.length_cons]); (try simp only [List.length_nil]); omega) _ _ _ _ _ (by first | rfl | simp)).mono ?_) | ((with_reducible show Calls _ _ #[_, _, Value.slice _ 2 _] _ _); refine (MAt.do2 (by first | exact hq | exact h) (by (try simp only [List.length_append]); (try simp only [List.length_cons]); (try simp only [List.length_nil]); omega) _ _ _ _ (by first | rfl | simp)).mono ?_) | ((with_reducible show Calls _ _ #[_, _, Value.slice _ 1 _] _ _); refine (MAt.do1 (by first | exact hq | exact h) (by (try simp only [List.length_append]); (try simp only [List.length_cons]); (try simp only [List.length_nil]); omega) _ _ _ (by first | rfl | simp)).mono ?_) | ((with_reducible show Calls _ _ #[_, _, Value.slice _ 0 _] _ _); refine (MAt.do_none (by first | exact hq | exact h) (by (try simp only [List.length_append]); (try simp only [List.length_cons]); (try simp only [List.length_nil]); omega) _).mono ?_))
 rintro e wq ⟨rfl, hq⟩
 dsimp only
 refine hK.out _ _ (Or.inl (by kernel_rfl)) ?_
 clear hK K hHeld
 try simp only [Act.put, fxs]
 refine wpAnyF_done (by kernel_rfl) ?_ _
 have b1 : wq.cell? ⟨x1, 0, none⟩ = some (.pointer (some ⟨b, 0, none⟩)) := hq.bx (HB.out _ (.head _))
 go_wp2_with (go_at_call 114; refine (HE.out _ w0 v0 _ _ hq (fun x hx => absurd hx List.not_mem_nil) (by (try simp only [List.length_append]); (try simp only [List.length_cons]); (try simp only [List.length_nil]); omega)).mono ?_; rintro e wq ⟨rfl, hq⟩)
 go_end0
 refine ⟨rfl, ?_⟩
 simp only [List.append_assoc, List.cons_append, List.nil_append] at hq
 exact hq
end
section
open Go.RowKit Go.Extern.Stop Go.Stop Go.Extern Go.Maps Go.WideMaps Go.Sort
theorem wait1_by {b f : Nat} {p : ByteArray} {k k' : Nat} {D : List Ins} {N : Nat} (ha : ∀ x1, Adds 111 #[.pointer (some ⟨b, 0, none⟩), .func (.func 112) #[] #[.pointer (some ⟨x1, 0, none⟩)]] b f p k k' [(x1, mptr b)] D N) :
  Adds 110 #[.pointer (some ⟨b, 0, none⟩)] b f p k k' [] D N := by
 intro B w0 v0 L w h hB hL
 have hmf : ∀ (fn : Fn) (first cap : Array Value) (w : World), (Instr.makeFunc fn first cap).run Tryz.prog w = .ok (.func fn first cap) w := fun _ _ _ _ => rfl
 have HO := hide ha
 have HH := hide (h.box (mptr b) 156)
 clear ha h hB
 generalize (f : Int) = fi at *
 go_enter Tryz.func110, Tryz.ntmps110
 go_wp2_with (go_at_call 111; refine (HO.out w.heap.size _ w0 v0 _ _ HH.out (fun x hx => by
    simp only [List.mem_cons, List.not_mem_nil, or_false] at hx
    subst hx
    exact .head _) hL).mono ?_; rintro e wq ⟨rfl, hq⟩)
 go_end0
 exact ⟨rfl, hq.drop fun x hx => .tail _ hx⟩
theorem wait1_plain {b f : Nat} {p : ByteArray} {k : Nat} (hf : f ≠ 3) (hk : k + 3 <= 9) (hp : p.size <= 1000) : Adds 110 #[.pointer (some ⟨b, 0, none⟩)] b f p k (k + 3) [] (waitD f p k) 350 :=
 wait1_by fun x1 => away_plain hf (fun _ _ => rfl) (wait11_any hk hp x1)
theorem waitD_len (f : Nat) (p : ByteArray) (k : Nat) : (waitD f p k).length <= 100 := by
 unfold waitD eachD outD renD outlD gCode
 split <;> split <;> simp only [List.length_append, List.length_cons, List.length_nil, List.length_map] <;> omega
theorem wait1_counts {b f : Nat} {p : ByteArray} {k : Nat} (hf : f = 3) (hk : k + 5 <= 9) (hp : p.size <= 1000) : Adds 110 #[.pointer (some ⟨b, 0, none⟩)] b f p k (k + 5) [] ((⟨⟨#[122, 101, 114, 111]⟩, 6, 0, 0, lb p (k + 1)⟩ :: (away1D ++ [lblI (lb p (k + 1))])) ++ waitD f p (k + 1) ++ (⟨⟨#[122, 101, 114, 111]⟩, 6, 0, 0, lb p (k + 5)⟩ :: (away2D (lb p (k + 5)) ++ [lblI (lb p (k + 5))]))) 300 :=
 wait1_by fun x1 => away_counts (k' := k + 4) hf (by omega) (by omega) hp (waitD_len f p (k + 1)) (fun _ _ => rfl) (wait11_any (k := k + 1) (by omega) hp x1)
end
section
open Go.RowKit Go.Extern.Stop Go.Stop Go.Extern Go.Maps Go.WideMaps Go.Sort
theorem insOwn_mono {w : World} {base base' : Nat} {v : Value} {l : List Ins} (h : insOwn w base v l) (hb : base' <= base) : insOwn w base' v l := by
 obtain ⟨h1, h2⟩ := h
 refine ⟨h1, ?_⟩
 rcases h2 with h2 | ⟨g, cap, cur, e, hg, r⟩
 ·exact .inl h2
 ·exact .inr ⟨g, cap, cur, e, Nat.le_trans hb hg, r⟩
theorem insOwn_open {w : World} {base : Nat} {v : Value} {l : List Ins} (h : insOwn w base v l) (h1 : 0 < l.length) : ∃ ad cap, v = .slice (some ad) l.length cap /\ insAt (some ad) l w := by
 obtain ⟨ad, cap, rfl, h2, h3, h4⟩ := insAt_of_icells h
 obtain ⟨y, hy⟩ : ∃ y, l[0]? = some y := ⟨_, List.getElem?_eq_getElem h1⟩
 obtain ⟨b, off, rfl, -⟩ := h4 0 y hy
 exact ⟨_, cap, rfl, h4⟩
theorem insOwn_new {w : World} {l : List Ins} {cs : Array Value} {base : Nat} (h : cs.toList = icells l) (hb : base <= w.heap.size) (hl : l.length <= 1000) : insOwn (w.alloc (.cells cs 101)) base (.slice (some ⟨w.heap.size, 0, none⟩) l.length l.length) l := by
 refine ⟨icells_len l, .inr ⟨w.heap.size, l.length, cs, rfl, hb, heap_new w _, Nat.le_refl _, by unfold maxLen; omega, ?_, ?_⟩⟩
 ·rw [<- Array.length_toList, h, icells_len]
 ·rw [h, <- icells_len l, List.take_length]
end
end Go.Proofs.YtaiigfcfmcicjaaGreatDoor
