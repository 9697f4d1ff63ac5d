import Derived.Test.YtaiigfcfmcicjaaGreatDoorE17
namespace Go.Proofs.YtaiigfcfmcicjaaGreatDoor
set_option maxRecDepth 100000
set_option maxHeartbeats 8000000
section
open Go.RowKit Go.Extern.Stop Go.Stop Go.Extern Go.Maps Go.WideMaps Go.Sort
def joinD (p : ByteArray) (k : Nat) : List Ins := [⟨⟨#[108, 111, 97, 100]⟩, 0, 6, 3, no⟩, ⟨⟨#[115, 97, 109, 101]⟩, 0, 6, 0, lb p (k + 1)⟩, ⟨⟨#[108, 111, 97, 100]⟩, 0, 7, 1, no⟩] ++ (lblI (lb p (k + 2)) :: join11D (lb p (k + 2)) (lb p (k + 1))) ++ [lblI (lb p (k + 1))]
def showI (f : Nat) : Ins := (gShow f).ins no
theorem show_adds {b f : Nat} {p : ByteArray} {k : Nat} : Adds 98 #[.pointer (some ⟨b, 0, none⟩)] b f p k k [] [showI f] 900 := by
 intro B w0 v0 L w h _ hL
 have e : gCode p [gShow f] = [showI f] := by
  unfold showI gShow
  split <;> rfl
 rw [<- e]
 exact show_any h hL
theorem enter11_plain {b f : Nat} {p : ByteArray} {k : Nat} (hf : f ≠ 4) (x1 : Nat) :
  Adds 103 #[.pointer (some ⟨x1, 0, none⟩)] b f p k k [(x1, mptr b)] [⟨⟨#[108, 111, 97, 100]⟩, 0, 7, 0, no⟩, showI f] 850 := by
 intro B w0 v0 L w h hB hL
 have b1 : w.cell? ⟨x1, 0, none⟩ = some (.pointer (some ⟨b, 0, none⟩)) := h.bx (hB _ (.head _))
 have c0 := h.c0
 have HB := hide hB
 have HJ := hide (joins_any (f : Int) w)
 rw [show decide ((f : Int) = 4) = false from decide_eq_false (by omega)] at HJ
 have HS := hide (@show_adds b f p k)
 clear hB hf
 generalize showI f = si at *
 generalize (f : Int) = fi at *
 go_enter Tryz.func103, Tryz.ntmps103
 go_wp2_with (first
  | (go_at_call 104; refine HJ.out.mono ?_; rintro e wq ⟨rfl, rfl⟩)
  | (go_at_call 97; (first | ((with_reducible show Calls _ _ #[_, _, Value.slice _ 3 _] _ _); refine (MAt.do3 (by first | exact hq | exact h) (by (try simp only [List.length_append]); (try simp only [List.length_cons]); (try simp only [List.length_nil]); omega) _ _ _ _ _ (by first | rfl | simp)).mono ?_) | ((with_reducible show Calls _ _ #[_, _, Value.slice _ 2 _] _ _); refine (MAt.do2 (by first | exact hq | exact h) (by (try simp only [List.length_append]); (try simp only [List.length_cons]); (try simp only [List.length_nil]); omega) _ _ _ _ (by first | rfl | simp)).mono ?_) | ((with_reducible show Calls _ _ #[_, _, Value.slice _ 1 _] _ _); refine (MAt.do1 (by first | exact hq | exact h) (by (try simp only [List.length_append]); (try simp only [List.length_cons]); (try simp only [List.length_nil]); omega) _ _ _ (by first | rfl | simp)).mono ?_) | ((with_reducible show Calls _ _ #[_, _, Value.slice _ 0 _] _ _); refine (MAt.do_none (by first | exact hq | exact h) (by (try simp only [List.length_append]); (try simp only [List.length_cons]); (try simp only [List.length_nil]); omega) _).mono ?_)); rintro e wq ⟨rfl, hq⟩; have b1 : wq.cell? ⟨x1, 0, none⟩ = some (.pointer (some ⟨b, 0, none⟩)) := hq.bx (HB.out _ (.head _)))
  | (go_at_call 98; refine (HS.out B w0 v0 _ _ hq (fun x hx => absurd hx List.not_mem_nil) (by (try simp only [List.length_append]); (try simp only [List.length_cons]); (try simp only [List.length_nil]); omega)).mono ?_; rintro e wq ⟨rfl, hq⟩))
 go_end0
 refine ⟨rfl, ?_⟩
 simp only [List.append_assoc, List.cons_append, List.nil_append] at hq
 exact hq
theorem enter11_joins {b f : Nat} {p : ByteArray} {k : Nat} (hf : f = 4) (hk : k + 2 <= 9) (hp : p.size <= 1000) (x1 : Nat) :
  Adds 103 #[.pointer (some ⟨x1, 0, none⟩)] b f p k (k + 2) [(x1, mptr b)] (joinD p k ++ [⟨⟨#[108, 111, 97, 100]⟩, 0, 7, 0, no⟩, showI f]) 600 := by
 intro B w0 v0 L w h hB hL
 have b1 : w.cell? ⟨x1, 0, none⟩ = some (.pointer (some ⟨b, 0, none⟩)) := h.bx (hB _ (.head _))
 have c0 := h.c0
 have HB := hide hB
 have HJ := hide (joins_any (f : Int) w)
 rw [show decide ((f : Int) = 4) = true from decide_eq_true (by omega)] at HJ
 have HS := hide (@show_adds b f p (k + 2))
 have HN : Hid (Adds 105 #[.pointer (some ⟨b, 0, none⟩)] b f p k (k + 2) [] (joinD p k) 650) := hide (join_any hk hp)
 have hJl : (joinD p k).length = 12 := rfl
 clear hB hf
 generalize showI f = si at *
 generalize (f : Int) = fi at *
 generalize joinD p k = JD at *
 go_enter Tryz.func103, Tryz.ntmps103
 go_wp2_with (first
  | (go_at_call 104; refine HJ.out.mono ?_; rintro e wq ⟨rfl, rfl⟩)
  | (go_at_call 105; refine (HN.out B w0 v0 _ _ h (fun x hx => absurd hx List.not_mem_nil) (by (try simp only [List.length_append]); (try simp only [List.length_cons]); (try simp only [List.length_nil]); omega)).mono ?_; rintro e wq ⟨rfl, hq⟩; have b1 : wq.cell? ⟨x1, 0, none⟩ = some (.pointer (some ⟨b, 0, none⟩)) := hq.bx (HB.out _ (.head _)))
  | (go_at_call 97; (first | ((with_reducible show Calls _ _ #[_, _, Value.slice _ 3 _] _ _); refine (MAt.do3 (by first | exact hq | exact h) (by (try simp only [List.length_append]); (try simp only [List.length_cons]); (try simp only [List.length_nil]); omega) _ _ _ _ _ (by first | rfl | simp)).mono ?_) | ((with_reducible show Calls _ _ #[_, _, Value.slice _ 2 _] _ _); refine (MAt.do2 (by first | exact hq | exact h) (by (try simp only [List.length_append]); (try simp only [List.length_cons]); (try simp only [List.length_nil]); omega) _ _ _ _ (by first | rfl | simp)).mono ?_) | ((with_reducible show Calls _ _ #[_, _, Value.slice _ 1 _] _ _); refine (MAt.do1 (by first | exact hq | exact h) (by (try simp only [List.length_append]); (try simp only [List.length_cons]); (try simp only [List.length_nil]); omega) _ _ _ (by first | rfl | simp)).mono ?_) | ((with_reducible show Calls _ _ #[_, _, Value.slice _ 0 _] _ _); refine (MAt.do_none (by first | exact hq | exact h) (by (try simp only [List.length_append]); (try simp only [List.length_cons]); (try simp only [List.length_nil]); omega) _).mono ?_)); rintro e wq ⟨rfl, hq⟩; have b1 : wq.cell? ⟨x1, 0, none⟩ = some (.pointer (some ⟨b, 0, none⟩)) := hq.bx (HB.out _ (.head _)))
  | (go_at_call 98; refine (HS.out B w0 v0 _ _ hq (fun x hx => absurd hx List.not_mem_nil) (by (try simp only [List.length_append]); (try simp only [List.length_cons]); (try simp only [List.length_nil]); omega)).mono ?_; rintro e wq ⟨rfl, hq⟩))
 go_end0
 refine ⟨rfl, ?_⟩
 simp only [List.append_assoc, List.cons_append, List.nil_append] at hq
 exact hq
end
section
open Go.RowKit Go.Extern.Stop Go.Stop Go.Extern Go.Maps Go.WideMaps Go.Sort
theorem Adds.mono {n : Nat} {args : Array Value} {b : Nat} {f : Int} {p : ByteArray} {k k' : Nat} {S : List (Nat × Value)} {D : List Ins} {N N' : Nat} (h : Adds n args b f p k k' S D N) (hN : N' <= N) : Adds n args b f p k k' S D N' := fun B w0 v0 L w h1 h2 h3 => h B w0 v0 L w h1 h2 (by omega)
def addO : ByteArray := ⟨#[97, 100, 100]⟩
def subO : ByteArray := ⟨#[115, 117, 98]⟩
theorem enter1_any {b f : Nat} {p : ByteArray} {k k' : Nat} (hf : f ≠ 3) (hk : k + 2 <= 9) (hp : p.size <= 1000) {D : List Ins} (hD : D.length <= 50) (hc : ∀ x1, Adds 103 #[.pointer (some ⟨x1, 0, none⟩)] b f p (k + 2) k' [(x1, mptr b)] D 600) :
  Adds 101 #[.pointer (some ⟨b, 0, none⟩)] b f p k k' [] (outerD addO 0 (lb p (k + 2)) (lb p (k + 1)) ++ [lblI (lb p (k + 2))] ++ D ++ [lblI (lb p (k + 1))]) 350 := by
 intro B w0 v0 L w h hB hL
 have hmf : ∀ (fn : Fn) (first cap : Array Value) (w : World), (Instr.makeFunc fn first cap).run Tryz.prog w = .ok (.func fn first cap) w := fun _ _ _ _ => rfl
 have HJ : Hid (∀ w, Calls Tryz.prog 94 #[.int .i64 (f : Int)] w fun e w' => e = .returned (.bool false) /\ w' = w) := hide fun w => by
  have := counts_any (f : Int) w
  rwa [show decide ((f : Int) = 3) = false from decide_eq_false (by omega)] at this
 have HO : Hid (∀ x1, Adds 102 #[.pointer (some ⟨b, 0, none⟩), .int .i64 0, .string ⟨#[97, 100, 100]⟩, .func (.func 103) #[] #[.pointer (some ⟨x1, 0, none⟩)]] b f p k k' [(x1, mptr b)] (outerD addO 0 (lb p (k + 2)) (lb p (k + 1)) ++ [lblI (lb p (k + 2))] ++ D ++ [lblI (lb p (k + 1))]) 400) := hide fun x1 => outermost_any (word := 0) (op := addO) hk hp hD (fun _ _ => rfl) (hc x1)
 have hq := h.box (mptr b) 156
 have c0 : (w.alloc (.cells #[.pointer (some ⟨b, 0, none⟩)] 156)).cell? ⟨b, 0, none⟩ = some (.int .i64 f) := hq.c0
 have HH := hide hq
 clear hc hf h hq hB
 generalize (f : Int) = fi at *
 generalize outerD addO 0 (lb p (k + 2)) (lb p (k + 1)) ++ [lblI (lb p (k + 2))] ++ D ++ [lblI (lb p (k + 1))] = DD at *
 go_enter Tryz.func101, Tryz.ntmps101
 go_wp2_with (first
  | (go_at_call 94; refine (HJ.out _).mono ?_; rintro e wq ⟨rfl, rfl⟩)
  | (go_at_call 102; refine (HO.out w.heap.size _ w0 v0 _ _ HH.out (fun x hx => by
      simp only [List.mem_cons, List.not_mem_nil, or_false] at hx
      subst hx
      exact .head _) (by omega)).mono ?_; rintro e wq ⟨rfl, hq⟩))
 go_end0
 exact ⟨rfl, hq.drop fun x hx => .tail _ hx⟩
theorem leave1_any {b f : Nat} {p : ByteArray} {k : Nat} (hf : f ≠ 3) (hk : k + 2 <= 9) (hp : p.size <= 1000) :
  Adds 106 #[.pointer (some ⟨b, 0, none⟩)] b f p k (k + 2) [] (outerD subO 2 (lb p (k + 2)) (lb p (k + 1)) ++ [lblI (lb p (k + 2))] ++ [showI f] ++ [lblI (lb p (k + 1))]) 350 := by
 intro B w0 v0 L w h hB hL
 have hmf : ∀ (fn : Fn) (first cap : Array Value) (w : World), (Instr.makeFunc fn first cap).run Tryz.prog w = .ok (.func fn first cap) w := fun _ _ _ _ => rfl
 have HJ : Hid (∀ w, Calls Tryz.prog 94 #[.int .i64 (f : Int)] w fun e w' => e = .returned (.bool false) /\ w' = w) := hide fun w => by
  have := counts_any (f : Int) w
  rwa [show decide ((f : Int) = 3) = false from decide_eq_false (by omega)] at this
 have HO : Hid (Adds 102 #[.pointer (some ⟨b, 0, none⟩), .int .i64 2, .string ⟨#[115, 117, 98]⟩, .func (.func 98) #[.pointer (some ⟨b, 0, none⟩)] #[]] b f p k (k + 2) [] (outerD subO 2 (lb p (k + 2)) (lb p (k + 1)) ++ [lblI (lb p (k + 2))] ++ [showI f] ++ [lblI (lb p (k + 1))]) 400) := hide (outermost_any (word := 2) (op := subO) (k' := k + 2) hk hp (show 1 <= 50 by decide) (fun _ _ => rfl) ((show_adds (k := k + 2)).mono (by decide)))
 have c0 := h.c0
 have HH := hide h
 clear hf h hB
 generalize (f : Int) = fi at *
 generalize outerD subO 2 (lb p (k + 2)) (lb p (k + 1)) ++ [lblI (lb p (k + 2))] ++ [showI f] ++ [lblI (lb p (k + 1))] = DD at *
 go_enter Tryz.func106, Tryz.ntmps106
 go_wp2_with (first
  | (go_at_call 94; refine (HJ.out _).mono ?_; rintro e wq ⟨rfl, rfl⟩)
  | (go_at_call 102; refine (HO.out _ w0 v0 _ _ HH.out (fun x hx => absurd hx List.not_mem_nil) (by omega)).mono ?_; rintro e wq ⟨rfl, hq⟩))
 go_end0
 exact ⟨rfl, hq⟩
end
section
open Go.RowKit Go.Extern.Stop Go.Stop Go.Extern Go.Maps Go.WideMaps Go.Sort
theorem enter1_none {b f : Nat} {p : ByteArray} {k : Nat} (hf : f = 3) : Adds 101 #[.pointer (some ⟨b, 0, none⟩)] b f p k k [] [] 350 := by
 intro B w0 v0 L w h hB hL
 have HJ : Hid (∀ w, Calls Tryz.prog 94 #[.int .i64 (f : Int)] w fun e w' => e = .returned (.bool true) /\ w' = w) := hide fun w => by
  have := counts_any (f : Int) w
  rwa [show decide ((f : Int) = 3) = true from decide_eq_true (by omega)] at this
 have hq := h.box (mptr b) 156
 have c0 : (w.alloc (.cells #[.pointer (some ⟨b, 0, none⟩)] 156)).cell? ⟨b, 0, none⟩ = some (.int .i64 f) := hq.c0
 have HH := hide (hq.drop fun x hx => .tail _ hx)
 clear hf h hq hB
 rw [List.append_nil]
 generalize (f : Int) = fi at *
 go_enter Tryz.func101, Tryz.ntmps101
 go_wp2_with (go_at_call 94; refine (HJ.out _).mono ?_; rintro e wq ⟨rfl, rfl⟩)
 exact bodyPost_ret (results_none (by kernel_rfl) _ _ _) rfl ⟨rfl, HH.out⟩
theorem leave1_none {b f : Nat} {p : ByteArray} {k : Nat} (hf : f = 3) : Adds 106 #[.pointer (some ⟨b, 0, none⟩)] b f p k k [] [] 350 := by
 intro B w0 v0 L w h hB hL
 have HJ : Hid (∀ w, Calls Tryz.prog 94 #[.int .i64 (f : Int)] w fun e w' => e = .returned (.bool true) /\ w' = w) := hide fun w => by
  have := counts_any (f : Int) w
  rwa [show decide ((f : Int) = 3) = true from decide_eq_true (by omega)] at this
 have hq := h
 have c0 := hq.c0
 have HH := hide (hq)
 clear hf h hq hB
 rw [List.append_nil]
 generalize (f : Int) = fi at *
 go_enter Tryz.func106, Tryz.ntmps106
 go_wp2_with (go_at_call 94; refine (HJ.out _).mono ?_; rintro e wq ⟨rfl, rfl⟩)
 exact bodyPost_ret (results_none (by kernel_rfl) _ _ _) rfl ⟨rfl, HH.out⟩
theorem rest1_none {b f : Nat} {p : ByteArray} {k : Nat} (hf : f ≠ 3) : Adds 107 #[.pointer (some ⟨b, 0, none⟩)] b f p k k [] [] 350 := by
 intro B w0 v0 L w h hB hL
 have HJ : Hid (∀ w, Calls Tryz.prog 94 #[.int .i64 (f : Int)] w fun e w' => e = .returned (.bool false) /\ w' = w) := hide fun w => by
  have := counts_any (f : Int) w
  rwa [show decide ((f : Int) = 3) = false from decide_eq_false (by omega)] at this
 have hq := h.box (mptr b) 156
 have c0 : (w.alloc (.cells #[.pointer (some ⟨b, 0, none⟩)] 156)).cell? ⟨b, 0, none⟩ = some (.int .i64 f) := hq.c0
 have HH := hide (hq.drop fun x hx => .tail _ hx)
 clear hf h hq hB
 rw [List.append_nil]
 generalize (f : Int) = fi at *
 go_enter Tryz.func107, Tryz.ntmps107
 go_wp2_with (go_at_call 94; refine (HJ.out _).mono ?_; rintro e wq ⟨rfl, rfl⟩)
 exact bodyPost_ret (results_none (by kernel_rfl) _ _ _) rfl ⟨rfl, HH.out⟩
theorem gone1_none {b f : Nat} {p : ByteArray} {k : Nat} (hf : f ≠ 3) : Adds 93 #[.pointer (some ⟨b, 0, none⟩)] b f p k k [] [] 350 := by
 intro B w0 v0 L w h hB hL
 have HJ : Hid (∀ w, Calls Tryz.prog 94 #[.int .i64 (f : Int)] w fun e w' => e = .returned (.bool false) /\ w' = w) := hide fun w => by
  have := counts_any (f : Int) w
  rwa [show decide ((f : Int) = 3) = false from decide_eq_false (by omega)] at this
 have hq := h.box (mptr b) 156
 have c0 : (w.alloc (.cells #[.pointer (some ⟨b, 0, none⟩)] 156)).cell? ⟨b, 0, none⟩ = some (.int .i64 f) := hq.c0
 have HH := hide (hq.drop fun x hx => .tail _ hx)
 clear hf h hq hB
 rw [List.append_nil]
 generalize (f : Int) = fi at *
 go_enter Tryz.func93, Tryz.ntmps93
 go_wp2_with (go_at_call 94; refine (HJ.out _).mono ?_; rintro e wq ⟨rfl, rfl⟩)
 exact bodyPost_ret (results_none (by kernel_rfl) _ _ _) rfl ⟨rfl, HH.out⟩
def restD (q : ByteArray) : List Ins := [⟨⟨#[108, 111, 97, 100]⟩, 0, 6, 0, no⟩, ⟨⟨#[122, 101, 114, 111]⟩, 0, 0, 0, q⟩, ⟨⟨#[99, 111, 110, 115, 116]⟩, 1, 2, 0, no⟩, ⟨⟨#[97, 100, 100]⟩, 0, 0, 1, no⟩, ⟨⟨#[115, 119, 97, 112]⟩, 0, 6, 0, no⟩]
theorem rest11_any {b f : Nat} {p : ByteArray} {k : Nat} (hf : f = 3) (q : ByteArray) (x1 : Nat) : Adds 108 #[.string q, .pointer (some ⟨x1, 0, none⟩)] b f p k k [(x1, mptr b)] (restD q) 700 := by
 intro B w0 v0 L w h hB hL
 have b1 : w.cell? ⟨x1, 0, none⟩ = some (.pointer (some ⟨b, 0, none⟩)) := h.bx (hB _ (.head _))
 have HB := hide hB
 have HR := hide (rested_any (b := b) (p := p) (k := k) hf q)
 clear hf hB
 generalize (f : Int) = fi at *
 go_enter Tryz.func108, Tryz.ntmps108
 go_wp2_with (first
  | (go_at_call 97; (first | ((with_reducible show Calls _ _ #[_, _, Value.slice _ 3 _] _ _); refine (MAt.do3 (by first | exact hq | exact h) (by (try simp only [List.length_append]); (try simp only [List.length_cons]); (try simp only [List.length_nil]); omega) _ _ _ _ _ (by first | rfl | simp)).mono ?_) | ((with_reducible show Calls _ _ #[_, _, Value.slice _ 2 _] _ _); refine (MAt.do2 (by first | exact hq | exact h) (by (try simp only [List.length_append]); (try simp only [List.length_cons]); (try simp only [List.length_nil]); omega) _ _ _ _ (by first | rfl | simp)).mono ?_) | ((with_reducible show Calls _ _ #[_, _, Value.slice _ 1 _] _ _); refine (MAt.do1 (by first | exact hq | exact h) (by (try simp only [List.length_append]); (try simp only [List.length_cons]); (try simp only [List.length_nil]); omega) _ _ _ (by first | rfl | simp)).mono ?_) | ((with_reducible show Calls _ _ #[_, _, Value.slice _ 0 _] _ _); refine (MAt.do_none (by first | exact hq | exact h) (by (try simp only [List.length_append]); (try simp only [List.length_cons]); (try simp only [List.length_nil]); omega) _).mono ?_)); rintro e wq ⟨rfl, hq⟩; have b1 : wq.cell? ⟨x1, 0, none⟩ = some (.pointer (some ⟨b, 0, none⟩)) := hq.bx (HB.out _ (.head _)))
  | (go_at_call 109; refine (HR.out B w0 v0 _ _ hq (fun x hx => absurd hx List.not_mem_nil) (by (try simp only [List.length_append]); (try simp only [List.length_cons]); (try simp only [List.length_nil]); omega)).mono ?_; rintro e wq ⟨rfl, hq⟩))
 go_end0
 refine ⟨rfl, ?_⟩
 simp only [List.append_assoc, List.cons_append, List.nil_append] at hq
 exact hq
def goneD : List Ins := [⟨⟨#[99, 111, 110, 115, 116]⟩, 0, 0, 0, no⟩, ⟨⟨#[115, 119, 97, 112]⟩, 0, 6, 0, no⟩]
theorem gone11_any {b f : Nat} {p : ByteArray} {k : Nat} (hf : f = 3) (q : ByteArray) (x1 : Nat) : Adds 96 #[.string q, .pointer (some ⟨x1, 0, none⟩)] b f p k k [(x1, mptr b)] goneD 700 := by
 intro B w0 v0 L w h hB hL
 have b1 : w.cell? ⟨x1, 0, none⟩ = some (.pointer (some ⟨b, 0, none⟩)) := h.bx (hB _ (.head _))
 have HB := hide hB
 have HS : Hid (Adds 98 #[.pointer (some ⟨b, 0, none⟩)] b f p k k [] [⟨⟨#[115, 119, 97, 112]⟩, 0, 6, 0, no⟩] 900) := hide (by
  have := @show_adds b f p k
  rwa [show showI f = ⟨⟨#[115, 119, 97, 112]⟩, 0, 6, 0, no⟩ by rw [hf]; rfl] at this)
 clear hf hB
 generalize (f : Int) = fi at *
 go_enter Tryz.func96, Tryz.ntmps96
 go_wp2_with (first
  | (go_at_call 97; (first | ((with_reducible show Calls _ _ #[_, _, Value.slice _ 3 _] _ _); refine (MAt.do3 (by first | exact hq | exact h) (by (try simp only [List.length_append]); (try simp only [List.length_cons]); (try simp only [List.length_nil]); omega) _ _ _ _ _ (by first | rfl | simp)).mono ?_) | ((with_reducible show Calls _ _ #[_, _, Value.slice _ 2 _] _ _); refine (MAt.do2 (by first | exact hq | exact h) (by (try simp only [List.length_append]); (try simp only [List.length_cons]); (try simp only [List.length_nil]); omega) _ _ _ _ (by first | rfl | simp)).mono ?_) | ((with_reducible show Calls _ _ #[_, _, Value.slice _ 1 _] _ _); refine (MAt.do1 (by first | exact hq | exact h) (by (try simp only [List.length_append]); (try simp only [List.length_cons]); (try simp only [List.length_nil]); omega) _ _ _ (by first | rfl | simp)).mono ?_) | ((with_reducible show Calls _ _ #[_, _, Value.slice _ 0 _] _ _); refine (MAt.do_none (by first | exact hq | exact h) (by (try simp only [List.length_append]); (try simp only [List.length_cons]); (try simp only [List.length_nil]); omega) _).mono ?_)); rintro e wq ⟨rfl, hq⟩; have b1 : wq.cell? ⟨x1, 0, none⟩ = some (.pointer (some ⟨b, 0, none⟩)) := hq.bx (HB.out _ (.head _)))
  | (go_at_call 98; refine (HS.out B w0 v0 _ _ hq (fun x hx => absurd hx List.not_mem_nil) (by (try simp only [List.length_append]); (try simp only [List.length_cons]); (try simp only [List.length_nil]); omega)).mono ?_; rintro e wq ⟨rfl, hq⟩))
 go_end0
 refine ⟨rfl, ?_⟩
 simp only [List.append_assoc, List.cons_append, List.nil_append] at hq
 exact hq
theorem rest1_any {b f : Nat} {p : ByteArray} {k : Nat} (hf : f = 3) (hk : k + 1 <= 9) (hp : p.size <= 1000) : Adds 107 #[.pointer (some ⟨b, 0, none⟩)] b f p k (k + 1) [] (⟨⟨#[122, 101, 114, 111]⟩, 6, 0, 0, lb p (k + 1)⟩ :: (restD (lb p (k + 1)) ++ [lblI (lb p (k + 1))])) 350 := by
 intro B w0 v0 L w h hB hL
 have hmf : ∀ (fn : Fn) (first cap : Array Value) (w : World), (Instr.makeFunc fn first cap).run Tryz.prog w = .ok (.func fn first cap) w := fun _ _ _ _ => rfl
 have HJ : Hid (∀ w, Calls Tryz.prog 94 #[.int .i64 (f : Int)] w fun e w' => e = .returned (.bool true) /\ w' = w) := hide fun w => by
  have := counts_any (f : Int) w
  rwa [show decide ((f : Int) = 3) = true from decide_eq_true (by omega)] at this
 have HO : Hid (∀ x1, Adds 95 #[.pointer (some ⟨b, 0, none⟩), .func (.func 108) #[] #[.pointer (some ⟨x1, 0, none⟩)]] b f p k (k + 1) [(x1, mptr b)] (⟨⟨#[122, 101, 114, 111]⟩, 6, 0, 0, lb p (k + 1)⟩ :: (restD (lb p (k + 1)) ++ [lblI (lb p (k + 1))])) 600) := hide fun x1 => withOwn_any hk hp (Nat.le_of_ble_eq_true rfl) (fun _ _ => rfl) (rest11_any (k := k + 1) hf (lb p (k + 1)) x1)
 have hq := h.box (mptr b) 156
 have c0 : (w.alloc (.cells #[.pointer (some ⟨b, 0, none⟩)] 156)).cell? ⟨b, 0, none⟩ = some (.int .i64 f) := hq.c0
 have HH := hide hq
 clear hf h hq hB
 generalize (f : Int) = fi at *
 generalize (⟨⟨#[122, 101, 114, 111]⟩, 6, 0, 0, lb p (k + 1)⟩ :: (restD (lb p (k + 1)) ++ [lblI (lb p (k + 1))]) : List Ins) = DD at *
 go_enter Tryz.func107, Tryz.ntmps107
 go_wp2_with (first
  | (go_at_call 94; refine (HJ.out _).mono ?_; rintro e wq ⟨rfl, rfl⟩)
  | (go_at_call 95; refine (HO.out w.heap.size _ w0 v0 _ _ HH.out (fun x hx => by
      simp only [List.mem_cons, List.not_mem_nil, or_false] at hx
      subst hx
      exact .head _) (by omega)).mono ?_; rintro e wq ⟨rfl, hq⟩))
 go_end0
 exact ⟨rfl, hq.drop fun x hx => .tail _ hx⟩
theorem gone1_any {b f : Nat} {p : ByteArray} {k : Nat} (hf : f = 3) (hk : k + 1 <= 9) (hp : p.size <= 1000) : Adds 93 #[.pointer (some ⟨b, 0, none⟩)] b f p k (k + 1) [] (⟨⟨#[122, 101, 114, 111]⟩, 6, 0, 0, lb p (k + 1)⟩ :: (goneD ++ [lblI (lb p (k + 1))])) 350 := by
 intro B w0 v0 L w h hB hL
 have hmf : ∀ (fn : Fn) (first cap : Array Value) (w : World), (Instr.makeFunc fn first cap).run Tryz.prog w = .ok (.func fn first cap) w := fun _ _ _ _ => rfl
 have HJ : Hid (∀ w, Calls Tryz.prog 94 #[.int .i64 (f : Int)] w fun e w' => e = .returned (.bool true) /\ w' = w) := hide fun w => by
  have := counts_any (f : Int) w
  rwa [show decide ((f : Int) = 3) = true from decide_eq_true (by omega)] at this
 have HO : Hid (∀ x1, Adds 95 #[.pointer (some ⟨b, 0, none⟩), .func (.func 96) #[] #[.pointer (some ⟨x1, 0, none⟩)]] b f p k (k + 1) [(x1, mptr b)] (⟨⟨#[122, 101, 114, 111]⟩, 6, 0, 0, lb p (k + 1)⟩ :: (goneD ++ [lblI (lb p (k + 1))])) 600) := hide fun x1 => withOwn_any hk hp (Nat.le_of_ble_eq_true rfl) (fun _ _ => rfl) (gone11_any (k := k + 1) hf (lb p (k + 1)) x1)
 have hq := h.box (mptr b) 156
 have c0 : (w.alloc (.cells #[.pointer (some ⟨b, 0, none⟩)] 156)).cell? ⟨b, 0, none⟩ = some (.int .i64 f) := hq.c0
 have HH := hide hq
 clear hf h hq hB
 generalize (f : Int) = fi at *
 generalize (⟨⟨#[122, 101, 114, 111]⟩, 6, 0, 0, lb p (k + 1)⟩ :: (goneD ++ [lblI (lb p (k + 1))]) : List Ins) = DD at *
 go_enter Tryz.func93, Tryz.ntmps93
 go_wp2_with (first
  | (go_at_call 94; refine (HJ.out _).mono ?_; rintro e wq ⟨rfl, rfl⟩)
  | (go_at_call 95; refine (HO.out w.heap.size _ w0 v0 _ _ HH.out (fun x hx => by
      simp only [List.mem_cons, List.not_mem_nil, or_false] at hx
      subst hx
      exact .head _) (by omega)).mono ?_; rintro e wq ⟨rfl, hq⟩))
 go_end0
 exact ⟨rfl, hq.drop fun x hx => .tail _ hx⟩
end
end Go.Proofs.YtaiigfcfmcicjaaGreatDoor
