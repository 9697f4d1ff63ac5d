import Derived.Test.YtaiigfcfmcicjaaGreatDoorE18
namespace Go.Proofs.YtaiigfcfmcicjaaGreatDoor
set_option maxRecDepth 100000
set_option maxHeartbeats 8000000
section
open Go.RowKit Go.Extern.Stop Go.Stop Go.Extern Go.Maps Go.WideMaps Go.Sort
def away1D : List Ins := [⟨⟨#[99, 111, 110, 115, 116]⟩, 0, 0, 0, no⟩, ⟨⟨#[115, 119, 97, 112]⟩, 0, 6, 0, no⟩, ⟨⟨#[115, 119, 97, 112]⟩, 0, 6, 3, no⟩]
def away2D (q : ByteArray) : List Ins := [⟨⟨#[108, 111, 97, 100]⟩, 0, 6, 3, no⟩, ⟨⟨#[122, 101, 114, 111]⟩, 0, 0, 0, q⟩, ⟨⟨#[99, 111, 110, 115, 116]⟩, 1, 2, 0, no⟩, ⟨⟨#[97, 100, 100]⟩, 0, 0, 1, no⟩, ⟨⟨#[115, 119, 97, 112]⟩, 0, 6, 0, no⟩]
theorem away1_any {b f : Nat} {p : ByteArray} {k : Nat} (hf : f = 3) (q : ByteArray) (x1 : Nat) : Adds 141 #[.string q, .pointer (some ⟨x1, 0, none⟩)] b f p k k [(x1, mptr b)] away1D 700 := by
 intro B w0 v0 L w h hB hL
 have b1 : w.cell? ⟨x1, 0, none⟩ = some (.pointer (some ⟨b, 0, none⟩)) := h.bx (hB _ (.head _))
 have HB := hide hB
 have HS : Hid (Adds 98 #[.pointer (some ⟨b, 0, none⟩)] b f p k k [] [⟨⟨#[115, 119, 97, 112]⟩, 0, 6, 0, no⟩] 900) := hide (by
  have := @show_adds b f p k
  rwa [show showI f = ⟨⟨#[115, 119, 97, 112]⟩, 0, 6, 0, no⟩ by rw [hf]; rfl] at this)
 clear hf hB
 generalize (f : Int) = fi at *
 go_enter Tryz.func141, Tryz.ntmps141
 go_wp2_with (first
  | (go_at_call 97; (first | ((with_reducible show Calls _ _ #[_, _, Value.slice _ 3 _] _ _); refine (MAt.do3 (by first | exact hq | exact h) (by (try simp only [List.length_append]); (try simp only [List.length_cons]); (try simp only [List.length_nil]); omega) _ _ _ _ _ (by first | rfl | simp)).mono ?_) | ((with_reducible show Calls _ _ #[_, _, Value.slice _ 2 _] _ _); refine (MAt.do2 (by first | exact hq | exact h) (by (try simp only [List.length_append]); (try simp only [List.length_cons]); (try simp only [List.length_nil]); omega) _ _ _ _ (by first | rfl | simp)).mono ?_) | ((with_reducible show Calls _ _ #[_, _, Value.slice _ 1 _] _ _); refine (MAt.do1 (by first | exact hq | exact h) (by (try simp only [List.length_append]); (try simp only [List.length_cons]); (try simp only [List.length_nil]); omega) _ _ _ (by first | rfl | simp)).mono ?_) | ((with_reducible show Calls _ _ #[_, _, Value.slice _ 0 _] _ _); refine (MAt.do_none (by first | exact hq | exact h) (by (try simp only [List.length_append]); (try simp only [List.length_cons]); (try simp only [List.length_nil]); omega) _).mono ?_)); rintro e wq ⟨rfl, hq⟩; have b1 : wq.cell? ⟨x1, 0, none⟩ = some (.pointer (some ⟨b, 0, none⟩)) := hq.bx (HB.out _ (.head _)))
  | (go_at_call 98; refine (HS.out B w0 v0 _ _ hq (fun x hx => absurd hx List.not_mem_nil) (by (try simp only [List.length_append]); (try simp only [List.length_cons]); (try simp only [List.length_nil]); omega)).mono ?_; rintro e wq ⟨rfl, hq⟩; have b1 : wq.cell? ⟨x1, 0, none⟩ = some (.pointer (some ⟨b, 0, none⟩)) := hq.bx (HB.out _ (.head _))))
 go_end0
 refine ⟨rfl, ?_⟩
 simp only [List.append_assoc, List.cons_append, List.nil_append] at hq
 exact hq
theorem away2_any {b f : Nat} {p : ByteArray} {k : Nat} (hf : f = 3) (q : ByteArray) (x1 : Nat) : Adds 142 #[.string q, .pointer (some ⟨x1, 0, none⟩)] b f p k k [(x1, mptr b)] (away2D q) 700 := by
 intro B w0 v0 L w h hB hL
 have b1 : w.cell? ⟨x1, 0, none⟩ = some (.pointer (some ⟨b, 0, none⟩)) := h.bx (hB _ (.head _))
 have HB := hide hB
 have HR := hide (rested_any (b := b) (p := p) (k := k) hf q)
 clear hf hB
 generalize (f : Int) = fi at *
 go_enter Tryz.func142, Tryz.ntmps142
 go_wp2_with (first
  | (go_at_call 97; (first | ((with_reducible show Calls _ _ #[_, _, Value.slice _ 3 _] _ _); refine (MAt.do3 (by first | exact hq | exact h) (by (try simp only [List.length_append]); (try simp only [List.length_cons]); (try simp only [List.length_nil]); omega) _ _ _ _ _ (by first | rfl | simp)).mono ?_) | ((with_reducible show Calls _ _ #[_, _, Value.slice _ 2 _] _ _); refine (MAt.do2 (by first | exact hq | exact h) (by (try simp only [List.length_append]); (try simp only [List.length_cons]); (try simp only [List.length_nil]); omega) _ _ _ _ (by first | rfl | simp)).mono ?_) | ((with_reducible show Calls _ _ #[_, _, Value.slice _ 1 _] _ _); refine (MAt.do1 (by first | exact hq | exact h) (by (try simp only [List.length_append]); (try simp only [List.length_cons]); (try simp only [List.length_nil]); omega) _ _ _ (by first | rfl | simp)).mono ?_) | ((with_reducible show Calls _ _ #[_, _, Value.slice _ 0 _] _ _); refine (MAt.do_none (by first | exact hq | exact h) (by (try simp only [List.length_append]); (try simp only [List.length_cons]); (try simp only [List.length_nil]); omega) _).mono ?_)); rintro e wq ⟨rfl, hq⟩; have b1 : wq.cell? ⟨x1, 0, none⟩ = some (.pointer (some ⟨b, 0, none⟩)) := hq.bx (HB.out _ (.head _)))
  | (go_at_call 109; refine (HR.out B w0 v0 _ _ hq (fun x hx => absurd hx List.not_mem_nil) (by (try simp only [List.length_append]); (try simp only [List.length_cons]); (try simp only [List.length_nil]); omega)).mono ?_; rintro e wq ⟨rfl, hq⟩))
 go_end0
 refine ⟨rfl, ?_⟩
 simp only [List.append_assoc, List.cons_append, List.nil_append] at hq
 exact hq
theorem away_plain {b f : Nat} {p : ByteArray} {k k' : Nat} (hf : f ≠ 3) {n : Nat} {fs caps : Array Value} {S : List (Nat × Value)} {D : List Ins} (hn : Fn.goes n) (hc : Adds n (fs ++ caps) b f p k k' S D 350) :
  Adds 111 #[.pointer (some ⟨b, 0, none⟩), .func (.func n) fs caps] b f p k k' S D 350 := by
 intro B w0 v0 L w h hB hL
 have HJ : Hid (∀ w, Calls Tryz.prog 94 #[.int .i64 (f : Int)] w fun e w' => e = .returned (.bool false) /\ w' = w) := hide fun w => by
  have := counts_any (f : Int) w
  rwa [show decide ((f : Int) = 3) = false from decide_eq_false (by omega)] at this
 have hq := h.box (mptr b) 156
 have c0 : (w.alloc (.cells #[.pointer (some ⟨b, 0, none⟩)] 156)).cell? ⟨b, 0, none⟩ = some (.int .i64 f) := hq.c0
 have HH := hide hq
 have HC := hide hc
 have HN := hide hn
 have HB := hide hB
 clear hf h hq hB hc hn
 generalize (f : Int) = fi at *
 go_enter Tryz.func111, Tryz.ntmps111
 go_wp2_with (go_at_call 94; refine (HJ.out _).mono ?_; rintro e wq ⟨rfl, rfl⟩)
 rw [HN.out, Oper.upon_enter]
 refine (HC.out _ w0 v0 _ _ HH.out (fun x hx => .tail _ (HB.out x hx)) hL).mono ?_
 rintro e w2 ⟨rfl, h2⟩
 dsimp only
 go_wp2
 exact bodyPost_ret (results_none (by kernel_rfl) _ _ _) rfl ⟨rfl, h2.drop fun x hx => .tail _ hx⟩
theorem away_counts {b f : Nat} {p : ByteArray} {k k' : Nat} (hf : f = 3) (hk : k + 1 <= 9) (hk' : k' + 1 <= 9) (hp : p.size <= 1000) {n : Nat} {fs caps : Array Value} {S : List (Nat × Value)} {D : List Ins} (hD : D.length <= 100) (hn : Fn.goes n) (hc : Adds n (fs ++ caps) b f p (k + 1) k' S D 350) :
  Adds 111 #[.pointer (some ⟨b, 0, none⟩), .func (.func n) fs caps] b f p k (k' + 1) S ((⟨⟨#[122, 101, 114, 111]⟩, 6, 0, 0, lb p (k + 1)⟩ :: (away1D ++ [lblI (lb p (k + 1))])) ++ D ++ (⟨⟨#[122, 101, 114, 111]⟩, 6, 0, 0, lb p (k' + 1)⟩ :: (away2D (lb p (k' + 1)) ++ [lblI (lb p (k' + 1))]))) 300 := by
 intro B w0 v0 L w h hB hL
 have hmf : ∀ (fn : Fn) (first cap : Array Value) (w : World), (Instr.makeFunc fn first cap).run Tryz.prog w = .ok (.func fn first cap) w := fun _ _ _ _ => rfl
 have HJ : Hid (∀ w, Calls Tryz.prog 94 #[.int .i64 (f : Int)] w fun e w' => e = .returned (.bool true) /\ w' = w) := hide fun w => by
  have := counts_any (f : Int) w
  rwa [show decide ((f : Int) = 3) = true from decide_eq_true (by omega)] at this
 have HO1 : Hid (∀ x1, Adds 95 #[.pointer (some ⟨b, 0, none⟩), .func (.func 141) #[] #[.pointer (some ⟨x1, 0, none⟩)]] b f p k (k + 1) [(x1, mptr b)] (⟨⟨#[122, 101, 114, 111]⟩, 6, 0, 0, lb p (k + 1)⟩ :: (away1D ++ [lblI (lb p (k + 1))])) 600) := hide fun x1 => withOwn_any hk hp (Nat.le_of_ble_eq_true rfl) (fun _ _ => rfl) (away1_any (k := k + 1) hf (lb p (k + 1)) x1)
 have HO2 : Hid (∀ x1, Adds 95 #[.pointer (some ⟨b, 0, none⟩), .func (.func 142) #[] #[.pointer (some ⟨x1, 0, none⟩)]] b f p k' (k' + 1) [(x1, mptr b)] (⟨⟨#[122, 101, 114, 111]⟩, 6, 0, 0, lb p (k' + 1)⟩ :: (away2D (lb p (k' + 1)) ++ [lblI (lb p (k' + 1))])) 600) := hide fun x1 => withOwn_any hk' hp (Nat.le_of_ble_eq_true rfl) (fun _ _ => rfl) (away2_any (k := k' + 1) hf (lb p (k' + 1)) x1)
 have hq := h.box (mptr b) 156
 have c0 : (w.alloc (.cells #[.pointer (some ⟨b, 0, none⟩)] 156)).cell? ⟨b, 0, none⟩ = some (.int .i64 f) := hq.c0
 have HH := hide hq
 have HC := hide hc
 have HN := hide hn
 have HB := hide hB
 clear hf h hq hB hc hn
 generalize (f : Int) = fi at *
 generalize hD1 : (⟨⟨#[122, 101, 114, 111]⟩, 6, 0, 0, lb p (k + 1)⟩ :: (away1D ++ [lblI (lb p (k + 1))]) : List Ins) = D1 at *
 generalize (⟨⟨#[122, 101, 114, 111]⟩, 6, 0, 0, lb p (k' + 1)⟩ :: (away2D (lb p (k' + 1)) ++ [lblI (lb p (k' + 1))]) : List Ins) = D2 at *
 have hl1 : D1.length = 5 := by rw [<- hD1]; rfl
 go_enter Tryz.func111, Tryz.ntmps111
 go_wp2_with (first
  | (go_at_call 94; refine (HJ.out _).mono ?_; rintro e wq ⟨rfl, rfl⟩)
  | (go_at_call 95; refine (HO1.out w.heap.size _ w0 v0 _ _ HH.out (fun x hx => by
      simp only [List.mem_cons, List.not_mem_nil, or_false] at hx
      subst hx
      exact .head _) (by omega)).mono ?_; rintro e wq ⟨rfl, hq⟩))
 rw [HN.out, Oper.upon_enter]
 refine (HC.out _ w0 v0 _ _ hq (fun x hx => .tail _ (HB.out x hx)) (by (try simp only [List.length_append]); (try simp only [List.length_cons]); (try simp only [List.length_nil]); omega)).mono ?_
 rintro e w2 ⟨rfl, h2⟩
 have b2 : w2.cell? ⟨w.heap.size, 0, none⟩ = some (.pointer (some ⟨b, 0, none⟩)) := h2.bx (.head _)
 dsimp only
 go_wp2_with (go_at_call 95; refine (HO2.out w.heap.size _ w0 v0 _ _ h2 (fun x hx => by
    simp only [List.mem_cons, List.not_mem_nil, or_false] at hx
    subst hx
    exact .head _) (by (try simp only [List.length_append]); (try simp only [List.length_cons]); (try simp only [List.length_nil]); omega)).mono ?_; rintro e w3 ⟨rfl, h3⟩)
 go_end0
 refine ⟨rfl, ?_⟩
 have h4 := h3.drop (B' := B) fun x hx => .tail _ hx
 simp only [List.append_assoc] at h4 ⊢
 exact h4
end
section
open Go.RowKit Go.Extern.Stop Go.Stop Go.Extern Go.Maps Go.WideMaps Go.Sort
def outlD (f : Nat) (q : ByteArray) : List Ins := (if f = 2 then [⟨⟨#[102, 111, 114, 99, 101]⟩, 0, 0, 0, no⟩] else []) ++ [⟨⟨#[108, 111, 97, 100]⟩, 0, 2, 0, no⟩, ⟨⟨#[115, 97, 109, 101]⟩, 0, 1, 0, q⟩]
theorem outl1_forces {b f : Nat} {p : ByteArray} {k : Nat} (hf : f = 2) (q : ByteArray) (x1 : Nat) : Adds 146 #[.string q, .pointer (some ⟨x1, 0, none⟩)] b f p k k [(x1, mptr b)] (outlD f q) 700 := by
 intro B w0 v0 L w h hB hL
 have b1 : w.cell? ⟨x1, 0, none⟩ = some (.pointer (some ⟨b, 0, none⟩)) := h.bx (hB _ (.head _))
 have c0 := h.c0
 have HB := hide hB
 have HJ := hide (forces_any (f : Int) w)
 rw [show decide ((f : Int) = 2) = true from decide_eq_true (by omega)] at HJ
 have e : outlD f q = ⟨⟨#[102, 111, 114, 99, 101]⟩, 0, 0, 0, no⟩ :: [⟨⟨#[108, 111, 97, 100]⟩, 0, 2, 0, no⟩, ⟨⟨#[115, 97, 109, 101]⟩, 0, 1, 0, q⟩] := by unfold outlD; rw [if_pos hf]; rfl
 rw [e]
 clear hB hf e
 generalize (f : Int) = fi at *
 go_enter Tryz.func146, Tryz.ntmps146
 go_wp2_with (first
  | (go_at_call 132; refine HJ.out.mono ?_; rintro e wq ⟨rfl, rfl⟩)
  | (go_at_call 97; (first | ((with_reducible show Calls _ _ #[_, _, Value.slice _ 3 _] _ _); refine (MAt.do3 (by first | exact hq | exact h) (by (try simp only [List.length_append]); (try simp only [List.length_cons]); (try simp only [List.length_nil]); omega) _ _ _ _ _ (by first | rfl | simp)).mono ?_) | ((with_reducible show Calls _ _ #[_, _, Value.slice _ 2 _] _ _); refine (MAt.do2 (by first | exact hq | exact h) (by (try simp only [List.length_append]); (try simp only [List.length_cons]); (try simp only [List.length_nil]); omega) _ _ _ _ (by first | rfl | simp)).mono ?_) | ((with_reducible show Calls _ _ #[_, _, Value.slice _ 1 _] _ _); refine (MAt.do1 (by first | exact hq | exact h) (by (try simp only [List.length_append]); (try simp only [List.length_cons]); (try simp only [List.length_nil]); omega) _ _ _ (by first | rfl | simp)).mono ?_) | ((with_reducible show Calls _ _ #[_, _, Value.slice _ 0 _] _ _); refine (MAt.do_none (by first | exact hq | exact h) (by (try simp only [List.length_append]); (try simp only [List.length_cons]); (try simp only [List.length_nil]); omega) _).mono ?_)); rintro e wq ⟨rfl, hq⟩; have b1 : wq.cell? ⟨x1, 0, none⟩ = some (.pointer (some ⟨b, 0, none⟩)) := hq.bx (HB.out _ (.head _)))
  | (go_at_call 131; (first | ((with_reducible show Calls _ _ #[_, _, _, Value.slice _ 3 _] _ _); refine (MAt.to3 (by first | exact hq | exact h) (by (try simp only [List.length_append]); (try simp only [List.length_cons]); (try simp only [List.length_nil]); omega) _ _ _ _ _ _ (by first | rfl | simp)).mono ?_) | ((with_reducible show Calls _ _ #[_, _, _, Value.slice _ 2 _] _ _); refine (MAt.to2 (by first | exact hq | exact h) (by (try simp only [List.length_append]); (try simp only [List.length_cons]); (try simp only [List.length_nil]); omega) _ _ _ _ _ (by first | rfl | simp)).mono ?_) | ((with_reducible show Calls _ _ #[_, _, _, Value.slice _ 1 _] _ _); refine (MAt.to1 (by first | exact hq | exact h) (by (try simp only [List.length_append]); (try simp only [List.length_cons]); (try simp only [List.length_nil]); omega) _ _ _ _ (by first | rfl | simp)).mono ?_) | ((with_reducible show Calls _ _ #[_, _, _, Value.slice _ 0 _] _ _); refine (MAt.to_none (by first | exact hq | exact h) (by (try simp only [List.length_append]); (try simp only [List.length_cons]); (try simp only [List.length_nil]); omega) _ _).mono ?_)); rintro e wq ⟨rfl, hq⟩))
 go_end0
 refine ⟨rfl, ?_⟩
 simp only [List.append_assoc, List.cons_append, List.nil_append] at hq
 exact hq
theorem outl1_plain {b f : Nat} {p : ByteArray} {k : Nat} (hf : f ≠ 2) (q : ByteArray) (x1 : Nat) : Adds 146 #[.string q, .pointer (some ⟨x1, 0, none⟩)] b f p k k [(x1, mptr b)] (outlD f q) 700 := by
 intro B w0 v0 L w h hB hL
 have b1 : w.cell? ⟨x1, 0, none⟩ = some (.pointer (some ⟨b, 0, none⟩)) := h.bx (hB _ (.head _))
 have c0 := h.c0
 have HB := hide hB
 have HJ := hide (forces_any (f : Int) w)
 rw [show decide ((f : Int) = 2) = false from decide_eq_false (by omega)] at HJ
 have e : outlD f q = [⟨⟨#[108, 111, 97, 100]⟩, 0, 2, 0, no⟩, ⟨⟨#[115, 97, 109, 101]⟩, 0, 1, 0, q⟩] := by unfold outlD; rw [if_neg hf]; rfl
 rw [e]
 clear hB hf e
 generalize (f : Int) = fi at *
 go_enter Tryz.func146, Tryz.ntmps146
 go_wp2_with (first
  | (go_at_call 132; refine HJ.out.mono ?_; rintro e wq ⟨rfl, rfl⟩)
  | (go_at_call 97; (first | ((with_reducible show Calls _ _ #[_, _, Value.slice _ 3 _] _ _); refine (MAt.do3 (by first | exact hq | exact h) (by (try simp only [List.length_append]); (try simp only [List.length_cons]); (try simp only [List.length_nil]); omega) _ _ _ _ _ (by first | rfl | simp)).mono ?_) | ((with_reducible show Calls _ _ #[_, _, Value.slice _ 2 _] _ _); refine (MAt.do2 (by first | exact hq | exact h) (by (try simp only [List.length_append]); (try simp only [List.length_cons]); (try simp only [List.length_nil]); omega) _ _ _ _ (by first | rfl | simp)).mono ?_) | ((with_reducible show Calls _ _ #[_, _, Value.slice _ 1 _] _ _); refine (MAt.do1 (by first | exact hq | exact h) (by (try simp only [List.length_append]); (try simp only [List.length_cons]); (try simp only [List.length_nil]); omega) _ _ _ (by first | rfl | simp)).mono ?_) | ((with_reducible show Calls _ _ #[_, _, Value.slice _ 0 _] _ _); refine (MAt.do_none (by first | exact hq | exact h) (by (try simp only [List.length_append]); (try simp only [List.length_cons]); (try simp only [List.length_nil]); omega) _).mono ?_)); rintro e wq ⟨rfl, hq⟩; have b1 : wq.cell? ⟨x1, 0, none⟩ = some (.pointer (some ⟨b, 0, none⟩)) := hq.bx (HB.out _ (.head _)))
  | (go_at_call 131; (first | ((with_reducible show Calls _ _ #[_, _, _, Value.slice _ 3 _] _ _); refine (MAt.to3 (by first | exact hq | exact h) (by (try simp only [List.length_append]); (try simp only [List.length_cons]); (try simp only [List.length_nil]); omega) _ _ _ _ _ _ (by first | rfl | simp)).mono ?_) | ((with_reducible show Calls _ _ #[_, _, _, Value.slice _ 2 _] _ _); refine (MAt.to2 (by first | exact hq | exact h) (by (try simp only [List.length_append]); (try simp only [List.length_cons]); (try simp only [List.length_nil]); omega) _ _ _ _ _ (by first | rfl | simp)).mono ?_) | ((with_reducible show Calls _ _ #[_, _, _, Value.slice _ 1 _] _ _); refine (MAt.to1 (by first | exact hq | exact h) (by (try simp only [List.length_append]); (try simp only [List.length_cons]); (try simp only [List.length_nil]); omega) _ _ _ _ (by first | rfl | simp)).mono ?_) | ((with_reducible show Calls _ _ #[_, _, _, Value.slice _ 0 _] _ _); refine (MAt.to_none (by first | exact hq | exact h) (by (try simp only [List.length_append]); (try simp only [List.length_cons]); (try simp only [List.length_nil]); omega) _ _).mono ?_)); rintro e wq ⟨rfl, hq⟩))
 go_end0
 refine ⟨rfl, ?_⟩
 simp only [List.append_assoc, List.cons_append, List.nil_append] at hq
 exact hq
theorem outl1_any {b f : Nat} {p : ByteArray} {k : Nat} (q : ByteArray) (x1 : Nat) : Adds 146 #[.string q, .pointer (some ⟨x1, 0, none⟩)] b f p k k [(x1, mptr b)] (outlD f q) 700 := by
 by_cases h : f = 2
 ·exact outl1_forces h q x1
 ·exact outl1_plain h q x1
def renD (f : Nat) : List Ins := if f = 3 then [⟨⟨#[109, 111, 118, 101]⟩, 1, 0, 0, no⟩] else gCode no [.const 1 2, .add 1 1 0, .cas 7 0 0, .const 0 2, .sub 1 1 0]
def outD (f : Nat) (p : ByteArray) (k : Nat) (q : ByteArray) : List Ins := [⟨⟨#[108, 111, 97, 100]⟩, 0, 2, 0, no⟩, ⟨⟨#[122, 101, 114, 111]⟩, 0, 0, 0, q⟩] ++ renD f ++ (lblI (lb p (k + 1)) :: outlD f (lb p (k + 1)))
theorem outlast_counts {b f : Nat} {p : ByteArray} {k : Nat} (hf : f = 3) (hk : k + 1 <= 9) (hp : p.size <= 1000) (q : ByteArray) : Adds 115 #[.pointer (some ⟨b, 0, none⟩), .string q] b f p k (k + 1) [] (outD f p k q) 600 := by
 intro B w0 v0 L w h hB hL
 have hmf : ∀ (fn : Fn) (first cap : Array Value) (w : World), (Instr.makeFunc fn first cap).run Tryz.prog w = .ok (.func fn first cap) w := fun _ _ _ _ => rfl
 have HG : Hid (Fn.goes 146) := hide fun _ _ => rfl
 have HJ : Hid (∀ w, Calls Tryz.prog 94 #[.int .i64 (f : Int)] w fun e w' => e = .returned (.bool true) /\ w' = w) := hide fun w => by
  have := counts_any (f : Int) w
  rwa [show decide ((f : Int) = 3) = true from decide_eq_true (by omega)] at this
 have HI : Hid (∀ x1, Adds 146 (#[.string (lb p (k + 1))] ++ #[.pointer (some ⟨x1, 0, none⟩)]) b f p (k + 1) (k + 1) [(x1, mptr b)] (outlD f (lb p (k + 1))) 700) := hide fun x1 => outl1_any (lb p (k + 1)) x1
 have hq := h.box (mptr b) 156
 have b1 : (w.alloc (.cells #[.pointer (some ⟨b, 0, none⟩)] 156)).cell? ⟨w.heap.size, 0, none⟩ = some (.pointer (some ⟨b, 0, none⟩)) := hq.bx (.head _)
 have e : outD f p k q = [⟨⟨#[108, 111, 97, 100]⟩, 0, 2, 0, no⟩, ⟨⟨#[122, 101, 114, 111]⟩, 0, 0, 0, q⟩] ++ [⟨⟨#[109, 111, 118, 101]⟩, 1, 0, 0, no⟩] ++ (lblI (lb p (k + 1)) :: outlD f (lb p (k + 1))) := by unfold outD renD; rw [if_pos hf]
 rw [e]
 clear h hB hf e
 generalize outlD f (lb p (k + 1)) = DD at *
 generalize (f : Int) = fi at *
 go_enter Tryz.func115, Tryz.ntmps115
 go_wp2_with (first
  | (go_at_call 97; (first | ((with_reducible show Calls _ _ #[_, _, Value.slice _ 3 _] _ _); refine (MAt.do3 (by first | exact hq | exact h) (by (try simp only [List.length_append]); (try simp only [List.length_cons]); (try simp only [List.length_nil]); omega) _ _ _ _ _ (by first | rfl | simp)).mono ?_) | ((with_reducible show Calls _ _ #[_, _, Value.slice _ 2 _] _ _); refine (MAt.do2 (by first | exact hq | exact h) (by (try simp only [List.length_append]); (try simp only [List.length_cons]); (try simp only [List.length_nil]); omega) _ _ _ _ (by first | rfl | simp)).mono ?_) | ((with_reducible show Calls _ _ #[_, _, Value.slice _ 1 _] _ _); refine (MAt.do1 (by first | exact hq | exact h) (by (try simp only [List.length_append]); (try simp only [List.length_cons]); (try simp only [List.length_nil]); omega) _ _ _ (by first | rfl | simp)).mono ?_) | ((with_reducible show Calls _ _ #[_, _, Value.slice _ 0 _] _ _); refine (MAt.do_none (by first | exact hq | exact h) (by (try simp only [List.length_append]); (try simp only [List.length_cons]); (try simp only [List.length_nil]); omega) _).mono ?_)); rintro e wq ⟨rfl, hq⟩; have b1 : wq.cell? ⟨w.heap.size, 0, none⟩ = some (.pointer (some ⟨b, 0, none⟩)) := hq.bx (.head _))
  | (go_at_call 131; (first | ((with_reducible show Calls _ _ #[_, _, _, Value.slice _ 3 _] _ _); refine (MAt.to3 (by first | exact hq | exact h) (by (try simp only [List.length_append]); (try simp only [List.length_cons]); (try simp only [List.length_nil]); omega) _ _ _ _ _ _ (by first | rfl | simp)).mono ?_) | ((with_reducible show Calls _ _ #[_, _, _, Value.slice _ 2 _] _ _); refine (MAt.to2 (by first | exact hq | exact h) (by (try simp only [List.length_append]); (try simp only [List.length_cons]); (try simp only [List.length_nil]); omega) _ _ _ _ _ (by first | rfl | simp)).mono ?_) | ((with_reducible show Calls _ _ #[_, _, _, Value.slice _ 1 _] _ _); refine (MAt.to1 (by first | exact hq | exact h) (by (try simp only [List.length_append]); (try simp only [List.length_cons]); (try simp only [List.length_nil]); omega) _ _ _ _ (by first | rfl | simp)).mono ?_) | ((with_reducible show Calls _ _ #[_, _, _, Value.slice _ 0 _] _ _); refine (MAt.to_none (by first | exact hq | exact h) (by (try simp only [List.length_append]); (try simp only [List.length_cons]); (try simp only [List.length_nil]); omega) _ _).mono ?_)); rintro e wq ⟨rfl, hq⟩; have b1 : wq.cell? ⟨w.heap.size, 0, none⟩ = some (.pointer (some ⟨b, 0, none⟩)) := hq.bx (.head _); have c0 := hq.c0)
  | (go_at_call 94; refine (HJ.out _).mono ?_; rintro e wz ⟨rfl, rfl⟩)
  | (go_at_call 139; refine (MAt.loop (k' := k + 1) hq hk hp DD _ HG.out _ (by (try simp only [List.length_append]); (try simp only [List.length_cons]); (try simp only [List.length_nil]); omega) (fun w1 w2 v2 h1 => HI.out _ _ w2 v2 _ w1 h1 (fun x hx => by
      simp only [List.mem_cons, List.not_mem_nil, or_false] at hx
      subst hx
      exact .head _) (by (try simp only [List.length_append]); (try simp only [List.length_cons]); (try simp only [List.length_nil]); omega))).mono ?_; rintro e wq ⟨rfl, hq⟩))
 go_end0
 refine ⟨rfl, ?_⟩
 have h4 := hq.drop (B' := B) fun x hx => .tail _ hx
 simp only [List.append_assoc, List.cons_append, List.nil_append] at h4 ⊢
 exact h4
theorem outlast_plain {b f : Nat} {p : ByteArray} {k : Nat} (hf : f ≠ 3) (hk : k + 1 <= 9) (hp : p.size <= 1000) (q : ByteArray) : Adds 115 #[.pointer (some ⟨b, 0, none⟩), .string q] b f p k (k + 1) [] (outD f p k q) 600 := by
 intro B w0 v0 L w h hB hL
 have hmf : ∀ (fn : Fn) (first cap : Array Value) (w : World), (Instr.makeFunc fn first cap).run Tryz.prog w = .ok (.func fn first cap) w := fun _ _ _ _ => rfl
 have HG : Hid (Fn.goes 146) := hide fun _ _ => rfl
 have HJ : Hid (∀ w, Calls Tryz.prog 94 #[.int .i64 (f : Int)] w fun e w' => e = .returned (.bool false) /\ w' = w) := hide fun w => by
  have := counts_any (f : Int) w
  rwa [show decide ((f : Int) = 3) = false from decide_eq_false (by omega)] at this
 have HI : Hid (∀ x1, Adds 146 (#[.string (lb p (k + 1))] ++ #[.pointer (some ⟨x1, 0, none⟩)]) b f p (k + 1) (k + 1) [(x1, mptr b)] (outlD f (lb p (k + 1))) 700) := hide fun x1 => outl1_any (lb p (k + 1)) x1
 have HR : Hid (∀ B L w, MAt b f p k B w0 v0 L w -> L.length <= 900 -> Calls Tryz.prog 145 #[.pointer (some ⟨b, 0, none⟩)] w fun e w' => e = .returned (.tuple #[]) /\ MAt b f p k B w0 v0 (L ++ (gCode no [.const 1 2, .add 1 1 0, .cas 7 0 0, .const 0 2, .sub 1 1 0])) w') := hide fun B L w h hL => renumber_any h hL
 have hRl : (gCode no [.const 1 2, .add 1 1 0, .cas 7 0 0, .const 0 2, .sub 1 1 0]).length = 5 := rfl
 have hq := h.box (mptr b) 156
 have b1 : (w.alloc (.cells #[.pointer (some ⟨b, 0, none⟩)] 156)).cell? ⟨w.heap.size, 0, none⟩ = some (.pointer (some ⟨b, 0, none⟩)) := hq.bx (.head _)
 have e : outD f p k q = [⟨⟨#[108, 111, 97, 100]⟩, 0, 2, 0, no⟩, ⟨⟨#[122, 101, 114, 111]⟩, 0, 0, 0, q⟩] ++ (gCode no [.const 1 2, .add 1 1 0, .cas 7 0 0, .const 0 2, .sub 1 1 0]) ++ (lblI (lb p (k + 1)) :: outlD f (lb p (k + 1))) := by unfold outD renD; rw [if_neg hf]
 rw [e]
 clear h hB hf e
 generalize outlD f (lb p (k + 1)) = DD at *
 generalize (gCode no [.const 1 2, .add 1 1 0, .cas 7 0 0, .const 0 2, .sub 1 1 0]) = RD at *
 generalize (f : Int) = fi at *
 go_enter Tryz.func115, Tryz.ntmps115
 go_wp2_with (first
  | (go_at_call 97; (first | ((with_reducible show Calls _ _ #[_, _, Value.slice _ 3 _] _ _); refine (MAt.do3 (by first | exact hq | exact h) (by (try simp only [List.length_append]); (try simp only [List.length_cons]); (try simp only [List.length_nil]); omega) _ _ _ _ _ (by first | rfl | simp)).mono ?_) | ((with_reducible show Calls _ _ #[_, _, Value.slice _ 2 _] _ _); refine (MAt.do2 (by first | exact hq | exact h) (by (try simp only [List.length_append]); (try simp only [List.length_cons]); (try simp only [List.length_nil]); omega) _ _ _ _ (by first | rfl | simp)).mono ?_) | ((with_reducible show Calls _ _ #[_, _, Value.slice _ 1 _] _ _); refine (MAt.do1 (by first | exact hq | exact h) (by (try simp only [List.length_append]); (try simp only [List.length_cons]); (try simp only [List.length_nil]); omega) _ _ _ (by first | rfl | simp)).mono ?_) | ((with_reducible show Calls _ _ #[_, _, Value.slice _ 0 _] _ _); refine (MAt.do_none (by first | exact hq | exact h) (by (try simp only [List.length_append]); (try simp only [List.length_cons]); (try simp only [List.length_nil]); omega) _).mono ?_)); rintro e wq ⟨rfl, hq⟩; have b1 : wq.cell? ⟨w.heap.size, 0, none⟩ = some (.pointer (some ⟨b, 0, none⟩)) := hq.bx (.head _))
  | (go_at_call 131; (first | ((with_reducible show Calls _ _ #[_, _, _, Value.slice _ 3 _] _ _); refine (MAt.to3 (by first | exact hq | exact h) (by (try simp only [List.length_append]); (try simp only [List.length_cons]); (try simp only [List.length_nil]); omega) _ _ _ _ _ _ (by first | rfl | simp)).mono ?_) | ((with_reducible show Calls _ _ #[_, _, _, Value.slice _ 2 _] _ _); refine (MAt.to2 (by first | exact hq | exact h) (by (try simp only [List.length_append]); (try simp only [List.length_cons]); (try simp only [List.length_nil]); omega) _ _ _ _ _ (by first | rfl | simp)).mono ?_) | ((with_reducible show Calls _ _ #[_, _, _, Value.slice _ 1 _] _ _); refine (MAt.to1 (by first | exact hq | exact h) (by (try simp only [List.length_append]); (try simp only [List.length_cons]); (try simp only [List.length_nil]); omega) _ _ _ _ (by first | rfl | simp)).mono ?_) | ((with_reducible show Calls _ _ #[_, _, _, Value.slice _ 0 _] _ _); refine (MAt.to_none (by first | exact hq | exact h) (by (try simp only [List.length_append]); (try simp only [List.length_cons]); (try simp only [List.length_nil]); omega) _ _).mono ?_)); rintro e wq ⟨rfl, hq⟩; have b1 : wq.cell? ⟨w.heap.size, 0, none⟩ = some (.pointer (some ⟨b, 0, none⟩)) := hq.bx (.head _); have c0 := hq.c0)
  | (go_at_call 94; refine (HJ.out _).mono ?_; rintro e wz ⟨rfl, rfl⟩)
  | (go_at_call 145; refine (HR.out _ _ _ hq (by (try simp only [List.length_append]); (try simp only [List.length_cons]); (try simp only [List.length_nil]); omega)).mono ?_; rintro e wq ⟨rfl, hq⟩; have b1 : wq.cell? ⟨w.heap.size, 0, none⟩ = some (.pointer (some ⟨b, 0, none⟩)) := hq.bx (.head _))
  | (go_at_call 139; refine (MAt.loop (k' := k + 1) hq hk hp DD _ HG.out _ (by (try simp only [List.length_append]); (try simp only [List.length_cons]); (try simp only [List.length_nil]); omega) (fun w1 w2 v2 h1 => HI.out _ _ w2 v2 _ w1 h1 (fun x hx => by
      simp only [List.mem_cons, List.not_mem_nil, or_false] at hx
      subst hx
      exact .head _) (by (try simp only [List.length_append]); (try simp only [List.length_cons]); (try simp only [List.length_nil]); omega))).mono ?_; rintro e wq ⟨rfl, hq⟩))
 go_end0
 refine ⟨rfl, ?_⟩
 have h4 := hq.drop (B' := B) fun x hx => .tail _ hx
 simp only [List.append_assoc, List.cons_append, List.nil_append] at h4 ⊢
 exact h4
theorem outlast_any {b f : Nat} {p : ByteArray} {k : Nat} (hk : k + 1 <= 9) (hp : p.size <= 1000) (q : ByteArray) : Adds 115 #[.pointer (some ⟨b, 0, none⟩), .string q] b f p k (k + 1) [] (outD f p k q) 600 := by
 by_cases h : f = 3
 ·exact outlast_counts h hk hp q
 ·exact outlast_plain h hk hp q
end
section
open Go.RowKit Go.Extern.Stop Go.Stop Go.Extern Go.Maps Go.WideMaps Go.Sort
def goI (q : ByteArray) : Ins := ⟨⟨#[103, 111, 116, 111]⟩, 0, 0, 0, q⟩
def eachD (q qe : ByteArray) (D : List Ins) : List Ins := [⟨⟨#[108, 111, 97, 100]⟩, 2, 2, 1, no⟩, ⟨⟨#[122, 101, 114, 111]⟩, 2, 0, 0, qe⟩] ++ D ++ [goI q]
theorem each11_any {b f : Nat} {p : ByteArray} {k k' : Nat} (q qe : ByteArray) {n : Nat} {fs caps : Array Value} {S : List (Nat × Value)} {D : List Ins} (hD : D.length <= 50) (hn : Fn.goes n) (hc : Adds n (fs ++ #[.string q] ++ caps) b f p k k' S D 600) (x1 x2 x3 : Nat) :
  Adds 144 #[.string q, .pointer (some ⟨x1, 0, none⟩), .pointer (some ⟨x2, 0, none⟩), .pointer (some ⟨x3, 0, none⟩)] b f p k k' ((x1, mptr b) :: (x2, .string qe) :: (x3, .func (.func n) fs caps) :: S) (eachD q qe D) 500 := by
 intro B w0 v0 L w hq hB hL
 have HB := hide hB
 have HC := hide hc
 have HN := hide hn
 clear hB hc hn
 unfold eachD goI
 generalize (f : Int) = fi at *
 have b1 : w.cell? ⟨x1, 0, none⟩ = some (.pointer (some ⟨b, 0, none⟩)) := hq.bx (HB.out _ (.head _))
 go_enter Tryz.func144, Tryz.ntmps144
 go_wp2_with (go_at_call 97; (first | ((with_reducible show Calls _ _ #[_, _, Value.slice _ 3 _] _ _); refine (MAt.do3 (by first | exact hq | exact h) (by (try simp only [List.length_append]); (try simp only [List.length_cons]); (try simp only [List.length_nil]); omega) _ _ _ _ _ (by first | rfl | simp)).mono ?_) | ((with_reducible show Calls _ _ #[_, _, Value.slice _ 2 _] _ _); refine (MAt.do2 (by first | exact hq | exact h) (by (try simp only [List.length_append]); (try simp only [List.length_cons]); (try simp only [List.length_nil]); omega) _ _ _ _ (by first | rfl | simp)).mono ?_) | ((with_reducible show Calls _ _ #[_, _, Value.slice _ 1 _] _ _); refine (MAt.do1 (by first | exact hq | exact h) (by (try simp only [List.length_append]); (try simp only [List.length_cons]); (try simp only [List.length_nil]); omega) _ _ _ (by first | rfl | simp)).mono ?_) | ((with_reducible show Calls _ _ #[_, _, Value.slice _ 0 _] _ _); refine (MAt.do_none (by first | exact hq | exact h) (by (try simp only [List.length_append]); (try simp only [List.length_cons]); (try simp only [List.length_nil]); omega) _).mono ?_)); rintro e wq ⟨rfl, hq⟩)
 have hq := hq.below (below_dN bRf 1)
 refine wp_region_F (S := (fun w' => w'.cell? ⟨x1, 0, none⟩ = some (.pointer (some ⟨b, 0, none⟩)) /\ w'.cell? ⟨x2, 0, none⟩ = some (.string qe))) (by kernel_rfl) ⟨hq.bx (HB.out _ (.head _)), hq.bx (HB.out _ (.tail _ (.head _)))⟩ (fun hHeld => ?_)
 change MAt _ _ _ _ _ _ _ _ (World.drew wq) at hq
 generalize World.drew wq = wd at *
 iterate 4
  refine' wpAnyF_next (sz := 6) (n := 5) (v := _) rfl (by kernel_rfl) (fun _ _ _ h => h) (by assumption) (Or.inl ⟨by rfl, ?_⟩) ?_
  case' refine'_2 => (intro w' hSw; (try dsimp only at hSw); go_simp; try with_reducible rfl)
  try simp only [Act.put, fxs]
 refine wpAnyF_only (i := 4) rfl (by kernel_rfl) (fun K hK => ?_)
 go_simp
 refine hK.out _ _ (Or.inr ⟨keep_cell (bRf.alloc nL _) hHeld.1, keep_cell (bRf.alloc nL _) hHeld.2⟩) ?_
 clear hK K
 try simp only [Act.put, fxs]
 refine wpAnyF_only (i := 5) rfl (by kernel_rfl) (fun K hK => ?_)
 go_simp
 go_at_call 131
 (first | ((with_reducible show Calls _ _ #[_, _, _, Value.slice _ 3 _] _ _); refine (MAt.to3 (by first | exact hq | exact h) (by (try simp only [List.length_append]); (try simp only [List.length_cons]); (try simp only [List.length_nil]); omega) _ _ _ _ _ _ (by first | rfl | simp)).mono ?_) | ((with_reducible show Calls _ _ #[_, _, _, Value.slice _ 2 _] _ _); refine (MAt.to2 (by first | exact hq | exact h) (by (try simp only [List.length_append]); (try simp only [List.length_cons]); (try simp only [List.length_nil]); omega) _ _ _ _ _ (by first | rfl | simp)).mono ?_) | ((with_reducible show Calls _ _ #[_, _, _, Value.slice _ 1 _] _ _); refine (MAt.to1 (by first | exact hq | exact h) (by (try simp only [List.length_append]); (try simp only [List.length_cons]); (try simp only [List.length_nil]); omega) _ _ _ _ (by first | rfl | simp)).mono ?_) | ((with_reducible show Calls _ _ #[_, _, _, Value.slice _ 0 _] _ _); refine (MAt.to_none (by first | exact hq | exact h) (by (try simp only [List.length_append]); (try simp only [List.length_cons]); (try simp only [List.length_nil]); omega) _ _).mono ?_))
 rintro e wq ⟨rfl, hq⟩
 dsimp only
 refine hK.out _ _ (Or.inl (by kernel_rfl)) ?_
 clear hK K hHeld
 try simp only [Act.put, fxs]
 refine wpAnyF_done (by kernel_rfl) ?_ _
 have b3 : wq.cell? ⟨x3, 0, none⟩ = some (.func (.func n) fs caps) := hq.bx (HB.out _ (.tail _ (.tail _ (.head _))))
 go_wp2_with fail
 rw [HN.out, Oper.upon_enter]
 refine (HC.out _ w0 v0 _ _ hq (fun x hx => HB.out x (.tail _ (.tail _ (.tail _ hx)))) (by (try simp only [List.length_append]); (try simp only [List.length_cons]); (try simp only [List.length_nil]); omega)).mono ?_
 rintro e wq ⟨rfl, hq⟩
 have b1 : wq.cell? ⟨x1, 0, none⟩ = some (.pointer (some ⟨b, 0, none⟩)) := hq.bx (HB.out _ (.head _))
 dsimp only
 go_wp2_with (go_at_call 131; (first | ((with_reducible show Calls _ _ #[_, _, _, Value.slice _ 3 _] _ _); refine (MAt.to3 (by first | exact hq | exact h) (by (try simp only [List.length_append]); (try simp only [List.length_cons]); (try simp only [List.length_nil]); omega) _ _ _ _ _ _ (by first | rfl | simp)).mono ?_) | ((with_reducible show Calls _ _ #[_, _, _, Value.slice _ 2 _] _ _); refine (MAt.to2 (by first | exact hq | exact h) (by (try simp only [List.length_append]); (try simp only [List.length_cons]); (try simp only [List.length_nil]); omega) _ _ _ _ _ (by first | rfl | simp)).mono ?_) | ((with_reducible show Calls _ _ #[_, _, _, Value.slice _ 1 _] _ _); refine (MAt.to1 (by first | exact hq | exact h) (by (try simp only [List.length_append]); (try simp only [List.length_cons]); (try simp only [List.length_nil]); omega) _ _ _ _ (by first | rfl | simp)).mono ?_) | ((with_reducible show Calls _ _ #[_, _, _, Value.slice _ 0 _] _ _); refine (MAt.to_none (by first | exact hq | exact h) (by (try simp only [List.length_append]); (try simp only [List.length_cons]); (try simp only [List.length_nil]); omega) _ _).mono ?_)); rintro e wq ⟨rfl, hq⟩)
 go_end0
 refine ⟨rfl, ?_⟩
 simp only [List.append_assoc, List.cons_append, List.nil_append] at hq ⊢
 exact hq
theorem each1_any {b f : Nat} {p : ByteArray} {k k' : Nat} (hk : k + 1 <= 9) (hp : p.size <= 1000) (q : ByteArray) {n : Nat} {fs caps : Array Value} {S : List (Nat × Value)} {D : List Ins} (hD : D.length <= 50) (hn : Fn.goes n) (hc : Adds n (fs ++ #[.string (lb p (k + 1))] ++ caps) b f p (k + 1) k' S D 600) (x1 x2 : Nat) :
  Adds 143 #[.string q, .pointer (some ⟨x1, 0, none⟩), .pointer (some ⟨x2, 0, none⟩)] b f p k k' ((x1, mptr b) :: (x2, .func (.func n) fs caps) :: S) (⟨⟨#[109, 111, 118, 101]⟩, 2, 7, 0, no⟩ :: lblI (lb p (k + 1)) :: eachD (lb p (k + 1)) q D) 450 := by
 intro B w0 v0 L w h hB hL
 have hmf : ∀ (fn : Fn) (first cap : Array Value) (w : World), (Instr.makeFunc fn first cap).run Tryz.prog w = .ok (.func fn first cap) w := fun _ _ _ _ => rfl
 have HG : Hid (Fn.goes 144) := hide fun _ _ => rfl
 have HI : Hid (∀ x3, Adds 144 (#[.string (lb p (k + 1))] ++ #[.pointer (some ⟨x1, 0, none⟩), .pointer (some ⟨x3, 0, none⟩), .pointer (some ⟨x2, 0, none⟩)]) b f p (k + 1) k' ((x1, mptr b) :: (x3, .string q) :: (x2, .func (.func n) fs caps) :: S) (eachD (lb p (k + 1)) q D) 500) := hide fun x3 => each11_any _ _ hD hn hc x1 x3 x2
 have hq := h.box (.string q) 9
 have HB : Hid (∀ x ∈ (x1, mptr b) :: (w.heap.size, Value.string q) :: (x2, .func (.func n) fs caps) :: S, x ∈ (w.heap.size, Value.string q) :: B) := hide fun x hx => by
  rcases List.mem_cons.1 hx with rfl | hx
  ·exact .tail _ (hB _ (.head _))
  rcases List.mem_cons.1 hx with rfl | hx
  ·exact .head _
  ·exact .tail _ (hB x (.tail _ hx))
 have b1 : (w.alloc (.cells #[.string q] 9)).cell? ⟨x1, 0, none⟩ = some (.pointer (some ⟨b, 0, none⟩)) := hq.bx (HB.out _ (.head _))
 clear h hB hc hn
 generalize eachD (lb p (k + 1)) q D = DD at *
 generalize (f : Int) = fi at *
 go_enter Tryz.func143, Tryz.ntmps143
 go_wp2_with (first
  | (go_at_call 97; (first | ((with_reducible show Calls _ _ #[_, _, Value.slice _ 3 _] _ _); refine (MAt.do3 (by first | exact hq | exact h) (by (try simp only [List.length_append]); (try simp only [List.length_cons]); (try simp only [List.length_nil]); omega) _ _ _ _ _ (by first | rfl | simp)).mono ?_) | ((with_reducible show Calls _ _ #[_, _, Value.slice _ 2 _] _ _); refine (MAt.do2 (by first | exact hq | exact h) (by (try simp only [List.length_append]); (try simp only [List.length_cons]); (try simp only [List.length_nil]); omega) _ _ _ _ (by first | rfl | simp)).mono ?_) | ((with_reducible show Calls _ _ #[_, _, Value.slice _ 1 _] _ _); refine (MAt.do1 (by first | exact hq | exact h) (by (try simp only [List.length_append]); (try simp only [List.length_cons]); (try simp only [List.length_nil]); omega) _ _ _ (by first | rfl | simp)).mono ?_) | ((with_reducible show Calls _ _ #[_, _, Value.slice _ 0 _] _ _); refine (MAt.do_none (by first | exact hq | exact h) (by (try simp only [List.length_append]); (try simp only [List.length_cons]); (try simp only [List.length_nil]); omega) _).mono ?_)); rintro e wq ⟨rfl, hq⟩; have b1 : wq.cell? ⟨x1, 0, none⟩ = some (.pointer (some ⟨b, 0, none⟩)) := hq.bx (HB.out _ (.head _)))
  | (go_at_call 139; refine (MAt.loop (k' := k') hq hk hp DD _ HG.out _ (by (try simp only [List.length_append]); (try simp only [List.length_cons]); (try simp only [List.length_nil]); omega) (fun w1 w2 v2 h1 => HI.out _ _ w2 v2 _ w1 h1 HB.out (by (try simp only [List.length_append]); (try simp only [List.length_cons]); (try simp only [List.length_nil]); omega))).mono ?_; rintro e wq ⟨rfl, hq⟩))
 go_end0
 refine ⟨rfl, ?_⟩
 have h4 := hq.drop (B' := B) fun x hx => .tail _ hx
 simp only [List.append_assoc, List.cons_append, List.nil_append] at h4 ⊢
 exact h4
theorem each_any {b f : Nat} {p : ByteArray} {k k' : Nat} (hk : k + 2 <= 9) (hp : p.size <= 1000) {n : Nat} {fs caps : Array Value} {S : List (Nat × Value)} {D : List Ins} (hD : D.length <= 50) (hn : Fn.goes n) (hc : Adds n (fs ++ #[.string (lb p (k + 2))] ++ caps) b f p (k + 2) k' S D 600) :
  Adds 114 #[.pointer (some ⟨b, 0, none⟩), .func (.func n) fs caps] b f p k k' S ((⟨⟨#[109, 111, 118, 101]⟩, 2, 7, 0, no⟩ :: lblI (lb p (k + 2)) :: eachD (lb p (k + 2)) (lb p (k + 1)) D) ++ [lblI (lb p (k + 1))]) 400 := by
 intro B w0 v0 L w h hB hL
 have hmf : ∀ (fn : Fn) (first cap : Array Value) (w : World), (Instr.makeFunc fn first cap).run Tryz.prog w = .ok (.func fn first cap) w := fun _ _ _ _ => rfl
 have HG : Hid (Fn.goes 143) := hide fun _ _ => rfl
 have HI : Hid (∀ x1 x2, Adds 143 (#[.string (lb p (k + 1))] ++ #[.pointer (some ⟨x1, 0, none⟩), .pointer (some ⟨x2, 0, none⟩)]) b f p (k + 1) k' ((x1, mptr b) :: (x2, .func (.func n) fs caps) :: S) (⟨⟨#[109, 111, 118, 101]⟩, 2, 7, 0, no⟩ :: lblI (lb p (k + 2)) :: eachD (lb p (k + 2)) (lb p (k + 1)) D) 450) := hide fun x1 x2 => each1_any hk hp _ hD hn hc x1 x2
 have h1 := h.box (mptr b) 156
 have h2 := h1.box (.func (.func n) fs caps) 134
 simp only [World.size_alloc] at h2
 have HH := hide h2
 have HB := hide hB
 have hl : (⟨⟨#[109, 111, 118, 101]⟩, 2, 7, 0, no⟩ :: lblI (lb p (k + 2)) :: eachD (lb p (k + 2)) (lb p (k + 1)) D : List Ins).length <= 60 := by
  unfold eachD
  simp only [List.length_append, List.length_cons, List.length_nil]
  omega
 clear hc hn h h1 h2 hB
 generalize (⟨⟨#[109, 111, 118, 101]⟩, 2, 7, 0, no⟩ :: lblI (lb p (k + 2)) :: eachD (lb p (k + 2)) (lb p (k + 1)) D : List Ins) = DD at *
 generalize (f : Int) = fi at *
 go_enter Tryz.func114, Tryz.ntmps114
 go_wp2_with (go_at_call 129; refine (MAt.block (k' := k') HH.out (by omega) hp DD _ HG.out _ (by (try simp only [List.length_append]); (try simp only [List.length_cons]); (try simp only [List.length_nil]); omega) (fun w1 w2 v2 h1 => HI.out _ _ _ w2 v2 _ w1 h1 (fun x hx => by
   rcases List.mem_cons.1 hx with rfl | hx
   ·exact .tail _ (.head _)
   rcases List.mem_cons.1 hx with rfl | hx
   ·exact .head _
   ·exact .tail _ (.tail _ (HB.out x hx))) (by (try simp only [List.length_append]); (try simp only [List.length_cons]); (try simp only [List.length_nil]); omega))).mono ?_; rintro e wq ⟨rfl, hq⟩)
 go_end0
 exact ⟨rfl, hq.drop fun x hx => .tail _ (.tail _ hx)⟩
end
end Go.Proofs.YtaiigfcfmcicjaaGreatDoor
