import Derived.Test.YtaiigfcfmcicjaaGreatDoorB18

/- GdE -/
namespace Go.Proofs.YtaiigfcfmcicjaaGreatDoor
open Go.RowKit Go.Extern.Stop Go.Stop Go.Extern Go.Maps Go.WideMaps Go.Sort

theorem forces_any (f : Int) (w : World) : Calls Tryz.prog 132 #[.int .i64 f] w fun e w' => e = .returned (.bool (decide (f = 2))) ∧ w' = w := by
  by_cases h : f = 2
  · subst h
    go_enter Tryz.func132, Tryz.ntmps132
    go_wp2
    go_ret
    exact ⟨rfl, rfl⟩
  · have h1 : (f == 2) = false := by simpa using h
    rw [decide_eq_false h]
    go_enter Tryz.func132, Tryz.ntmps132
    go_wp2
    go_ret
    exact ⟨rfl, rfl⟩
theorem counts_any (f : Int) (w : World) : Calls Tryz.prog 94 #[.int .i64 f] w fun e w' => e = .returned (.bool (decide (f = 3))) ∧ w' = w := by
  by_cases h : f = 3
  · subst h
    go_enter Tryz.func94, Tryz.ntmps94
    go_wp2
    go_ret
    exact ⟨rfl, rfl⟩
  · have h1 : (f == 3) = false := by simpa using h
    rw [decide_eq_false h]
    go_enter Tryz.func94, Tryz.ntmps94
    go_wp2
    go_ret
    exact ⟨rfl, rfl⟩
theorem joins_any (f : Int) (w : World) : Calls Tryz.prog 104 #[.int .i64 f] w fun e w' => e = .returned (.bool (decide (f = 4))) ∧ w' = w := by
  by_cases h : f = 4
  · subst h
    go_enter Tryz.func104, Tryz.ntmps104
    go_wp2
    go_ret
    exact ⟨rfl, rfl⟩
  · have h1 : (f == 4) = false := by simpa using h
    rw [decide_eq_false h]
    go_enter Tryz.func104, Tryz.ntmps104
    go_wp2
    go_ret
    exact ⟨rfl, rfl⟩

set_option maxRecDepth 20000 in
set_option maxHeartbeats 1000000 in
theorem renumber_any {b : Nat} {f : Int} {p : ByteArray} {k : Nat} {B : List (Nat × Value)} {w0 : World} {v0 : Value} {L : List Ins} {w : World} (h : MAt b f p k B w0 v0 L w) (hL : L.length ≤ 900) :
    Calls Tryz.prog 145 #[.pointer (some ⟨b, 0, none⟩)] w fun e w' => e = .returned (.tuple #[]) ∧ MAt b f p k B w0 v0 (L ++ gCode p [.const 1 2, .add 1 1 0, .cas 7 0 0, .const 0 2, .sub 1 1 0]) w' := by
  go_enter Tryz.func145, Tryz.ntmps145
  go_wp2_with (go_at_call 97; (first | ((with_reducible show Calls _ _ #[_, _, Value.slice _ 3 _] _ _); refine (MAt.do3 (by first | exact hq | exact h) (by (try simp only [List.length_append]); (try simp only [List.length_cons]); (try simp only [List.length_nil]); omega) _ _ _ _ _ (by first | rfl | simp)).mono ?_) | ((with_reducible show Calls _ _ #[_, _, Value.slice _ 2 _] _ _); refine (MAt.do2 (by first | exact hq | exact h) (by (try simp only [List.length_append]); (try simp only [List.length_cons]); (try simp only [List.length_nil]); omega) _ _ _ _ (by first | rfl | simp)).mono ?_) | ((with_reducible show Calls _ _ #[_, _, Value.slice _ 1 _] _ _); refine (MAt.do1 (by first | exact hq | exact h) (by (try simp only [List.length_append]); (try simp only [List.length_cons]); (try simp only [List.length_nil]); omega) _ _ _ (by first | rfl | simp)).mono ?_) | ((with_reducible show Calls _ _ #[_, _, Value.slice _ 0 _] _ _); refine (MAt.do_none (by first | exact hq | exact h) (by (try simp only [List.length_append]); (try simp only [List.length_cons]); (try simp only [List.length_nil]); omega) _).mono ?_)); rintro e wq ⟨rfl, hq⟩)
  go_end0
  refine ⟨rfl, ?_⟩
  simp only [List.append_assoc, List.cons_append, List.nil_append] at hq
  exact hq

set_option maxRecDepth 20000 in
set_option maxHeartbeats 1000000 in
theorem show_any {b : Nat} {f : Nat} {p : ByteArray} {k : Nat} {B : List (Nat × Value)} {w0 : World} {v0 : Value} {L : List Ins} {w : World} (h : MAt b f p k B w0 v0 L w) (hL : L.length ≤ 900) :
    Calls Tryz.prog 98 #[.pointer (some ⟨b, 0, none⟩)] w fun e w' => e = .returned (.tuple #[]) ∧ MAt b f p k B w0 v0 (L ++ gCode p [gShow f]) w' := by
  have c0 := h.c0
  have HF := hide (forces_any (f : Int) w)
  unfold gShow
  by_cases hf : f = 2
  · rw [if_pos hf]
    have hd : decide ((f : Int) = 2) = true := by subst hf; rfl
    rw [hd] at HF
    clear hd hf
    generalize (f : Int) = fi at *
    go_enter Tryz.func98, Tryz.ntmps98
    go_wp2_with (first
      | (go_at_call 132; refine HF.out.mono ?_; rintro e wq ⟨rfl, rfl⟩)
      | (go_at_call 97; (first | ((with_reducible show Calls _ _ #[_, _, Value.slice _ 3 _] _ _); refine (MAt.do3 (by first | exact hq | exact h) (by (try simp only [List.length_append]); (try simp only [List.length_cons]); (try simp only [List.length_nil]); omega) _ _ _ _ _ (by first | rfl | simp)).mono ?_) | ((with_reducible show Calls _ _ #[_, _, Value.slice _ 2 _] _ _); refine (MAt.do2 (by first | exact hq | exact h) (by (try simp only [List.length_append]); (try simp only [List.length_cons]); (try simp only [List.length_nil]); omega) _ _ _ _ (by first | rfl | simp)).mono ?_) | ((with_reducible show Calls _ _ #[_, _, Value.slice _ 1 _] _ _); refine (MAt.do1 (by first | exact hq | exact h) (by (try simp only [List.length_append]); (try simp only [List.length_cons]); (try simp only [List.length_nil]); omega) _ _ _ (by first | rfl | simp)).mono ?_) | ((with_reducible show Calls _ _ #[_, _, Value.slice _ 0 _] _ _); refine (MAt.do_none (by first | exact hq | exact h) (by (try simp only [List.length_append]); (try simp only [List.length_cons]); (try simp only [List.length_nil]); omega) _).mono ?_)); rintro e wq ⟨rfl, hq⟩))
    exact bodyPost_ret (results_none (by kernel_rfl) _ _ _) rfl ⟨rfl, hq⟩
  · rw [if_neg hf]
    have hd : decide ((f : Int) = 2) = false := decide_eq_false (by omega)
    rw [hd] at HF
    clear hd hf
    generalize (f : Int) = fi at *
    go_enter Tryz.func98, Tryz.ntmps98
    go_wp2_with (first
      | (go_at_call 132; refine HF.out.mono ?_; rintro e wq ⟨rfl, rfl⟩)
      | (go_at_call 97; (first | ((with_reducible show Calls _ _ #[_, _, Value.slice _ 3 _] _ _); refine (MAt.do3 (by first | exact hq | exact h) (by (try simp only [List.length_append]); (try simp only [List.length_cons]); (try simp only [List.length_nil]); omega) _ _ _ _ _ (by first | rfl | simp)).mono ?_) | ((with_reducible show Calls _ _ #[_, _, Value.slice _ 2 _] _ _); refine (MAt.do2 (by first | exact hq | exact h) (by (try simp only [List.length_append]); (try simp only [List.length_cons]); (try simp only [List.length_nil]); omega) _ _ _ _ (by first | rfl | simp)).mono ?_) | ((with_reducible show Calls _ _ #[_, _, Value.slice _ 1 _] _ _); refine (MAt.do1 (by first | exact hq | exact h) (by (try simp only [List.length_append]); (try simp only [List.length_cons]); (try simp only [List.length_nil]); omega) _ _ _ (by first | rfl | simp)).mono ?_) | ((with_reducible show Calls _ _ #[_, _, Value.slice _ 0 _] _ _); refine (MAt.do_none (by first | exact hq | exact h) (by (try simp only [List.length_append]); (try simp only [List.length_cons]); (try simp only [List.length_nil]); omega) _).mono ?_)); rintro e wq ⟨rfl, hq⟩))
    go_end0
    exact ⟨rfl, hq⟩
end Go.Proofs.YtaiigfcfmcicjaaGreatDoor

/- GdF -/
namespace Go.Proofs.YtaiigfcfmcicjaaGreatDoor
open Go.RowKit Go.Extern.Stop Go.Stop Go.Extern Go.Maps Go.WideMaps Go.Sort

def Adds (n : Nat) (args : Array Value) (b : Nat) (f : Int) (p : ByteArray) (k k' : Nat) (S : List (Nat × Value)) (D : List Ins) (N : Nat) : Prop :=
  ∀ (B : List (Nat × Value)) (w0 : World) (v0 : Value) (L : List Ins) (w : World), MAt b f p k B w0 v0 L w → (∀ x ∈ S, x ∈ B) → L.length ≤ N → Calls Tryz.prog n args w fun e w' => e = .returned (.tuple #[]) ∧ MAt b f p k' B w0 v0 (L ++ D) w'
def mptr (b : Nat) : Value := .pointer (some ⟨b, 0, none⟩)

set_option maxRecDepth 20000 in
set_option maxHeartbeats 1000000 in
theorem rested_any {b f : Nat} {p : ByteArray} {k : Nat} (hf : f = 3) (q : ByteArray) :
    Adds 109 #[.pointer (some ⟨b, 0, none⟩), .string q] b f p k k [] [⟨⟨#[122, 101, 114, 111]⟩, 0, 0, 0, q⟩, ⟨⟨#[99, 111, 110, 115, 116]⟩, 1, 2, 0, no⟩, ⟨⟨#[97, 100, 100]⟩, 0, 0, 1, no⟩, ⟨⟨#[115, 119, 97, 112]⟩, 0, 6, 0, no⟩] 800 := by
  intro B w0 v0 L w h _ hL
  have HS : Hid (∀ L w, MAt b f p k B w0 v0 L w → L.length ≤ 900 → Calls Tryz.prog 98 #[.pointer (some ⟨b, 0, none⟩)] w fun e w' => e = .returned (.tuple #[]) ∧ MAt b f p k B w0 v0 (L ++ [⟨⟨#[115, 119, 97, 112]⟩, 0, 6, 0, no⟩]) w') := hide fun L w h hL => by
    have := show_any h hL
    rw [hf] at this ⊢
    exact this
  clear hf
  generalize (f : Int) = fi at *
  go_enter Tryz.func109, Tryz.ntmps109
  go_wp2_with (first
    | (go_at_call 131; (first | ((with_reducible show Calls _ _ #[_, _, _, Value.slice _ 3 _] _ _); refine (MAt.to3 (by first | exact hq | exact h) (by (try simp only [List.length_append]); (try simp only [List.length_cons]); (try simp only [List.length_nil]); omega) _ _ _ _ _ _ (by first | rfl | simp)).mono ?_) | ((with_reducible show Calls _ _ #[_, _, _, Value.slice _ 2 _] _ _); refine (MAt.to2 (by first | exact hq | exact h) (by (try simp only [List.length_append]); (try simp only [List.length_cons]); (try simp only [List.length_nil]); omega) _ _ _ _ _ (by first | rfl | simp)).mono ?_) | ((with_reducible show Calls _ _ #[_, _, _, Value.slice _ 1 _] _ _); refine (MAt.to1 (by first | exact hq | exact h) (by (try simp only [List.length_append]); (try simp only [List.length_cons]); (try simp only [List.length_nil]); omega) _ _ _ _ (by first | rfl | simp)).mono ?_) | ((with_reducible show Calls _ _ #[_, _, _, Value.slice _ 0 _] _ _); refine (MAt.to_none (by first | exact hq | exact h) (by (try simp only [List.length_append]); (try simp only [List.length_cons]); (try simp only [List.length_nil]); omega) _ _).mono ?_)); rintro e wq ⟨rfl, hq⟩)
    | (go_at_call 97; (first | ((with_reducible show Calls _ _ #[_, _, Value.slice _ 3 _] _ _); refine (MAt.do3 (by first | exact hq | exact h) (by (try simp only [List.length_append]); (try simp only [List.length_cons]); (try simp only [List.length_nil]); omega) _ _ _ _ _ (by first | rfl | simp)).mono ?_) | ((with_reducible show Calls _ _ #[_, _, Value.slice _ 2 _] _ _); refine (MAt.do2 (by first | exact hq | exact h) (by (try simp only [List.length_append]); (try simp only [List.length_cons]); (try simp only [List.length_nil]); omega) _ _ _ _ (by first | rfl | simp)).mono ?_) | ((with_reducible show Calls _ _ #[_, _, Value.slice _ 1 _] _ _); refine (MAt.do1 (by first | exact hq | exact h) (by (try simp only [List.length_append]); (try simp only [List.length_cons]); (try simp only [List.length_nil]); omega) _ _ _ (by first | rfl | simp)).mono ?_) | ((with_reducible show Calls _ _ #[_, _, Value.slice _ 0 _] _ _); refine (MAt.do_none (by first | exact hq | exact h) (by (try simp only [List.length_append]); (try simp only [List.length_cons]); (try simp only [List.length_nil]); omega) _).mono ?_)); rintro e wq ⟨rfl, hq⟩)
    | (go_at_call 98; refine (HS.out _ _ (by first | exact hq | exact h) (by (try simp only [List.length_append]); (try simp only [List.length_cons]); (try simp only [List.length_nil]); omega)).mono ?_; rintro e wq ⟨rfl, hq⟩))
  go_end0
  refine ⟨rfl, ?_⟩
  simp only [List.append_assoc, List.cons_append, List.nil_append] at hq
  exact hq

set_option maxRecDepth 20000 in
set_option maxHeartbeats 1000000 in
theorem withOwn1_any {b f : Nat} {p : ByteArray} {k k' : Nat} {q : ByteArray} {n : Nat} {caps : Array Value} {S : List (Nat × Value)} {D : List Ins} (hn : Fn.goes n) (hc : Adds n (#[.string q] ++ caps) b f p k k' S D 700) (x1 x2 : Nat) :
    Adds 130 #[.string q, .pointer (some ⟨x1, 0, none⟩), .pointer (some ⟨x2, 0, none⟩)] b f p k k' ((x1, mptr b) :: (x2, .func (.func n) #[] caps) :: S) (⟨⟨#[122, 101, 114, 111]⟩, 6, 0, 0, q⟩ :: D) 650 := by
  intro B w0 v0 L w h hB hL
  have b1 : w.cell? ⟨x1, 0, none⟩ = some (.pointer (some ⟨b, 0, none⟩)) := h.bx (hB _ (List.mem_cons_self ..))
  have HC := hide hc
  have HN := hide hn
  have HB := hide hB
  clear hc hn hB
  generalize (f : Int) = fi at *
  go_enter Tryz.func130, Tryz.ntmps130
  go_wp2_with (go_at_call 131; (first | ((with_reducible show Calls _ _ #[_, _, _, Value.slice _ 3 _] _ _); refine (MAt.to3 (by first | exact hq | exact h) (by (try simp only [List.length_append]); (try simp only [List.length_cons]); (try simp only [List.length_nil]); omega) _ _ _ _ _ _ (by first | rfl | simp)).mono ?_) | ((with_reducible show Calls _ _ #[_, _, _, Value.slice _ 2 _] _ _); refine (MAt.to2 (by first | exact hq | exact h) (by (try simp only [List.length_append]); (try simp only [List.length_cons]); (try simp only [List.length_nil]); omega) _ _ _ _ _ (by first | rfl | simp)).mono ?_) | ((with_reducible show Calls _ _ #[_, _, _, Value.slice _ 1 _] _ _); refine (MAt.to1 (by first | exact hq | exact h) (by (try simp only [List.length_append]); (try simp only [List.length_cons]); (try simp only [List.length_nil]); omega) _ _ _ _ (by first | rfl | simp)).mono ?_) | ((with_reducible show Calls _ _ #[_, _, _, Value.slice _ 0 _] _ _); refine (MAt.to_none (by first | exact hq | exact h) (by (try simp only [List.length_append]); (try simp only [List.length_cons]); (try simp only [List.length_nil]); omega) _ _).mono ?_)); rintro e wq ⟨rfl, hq⟩; have b2 : wq.cell? ⟨x2, 0, none⟩ = some (.func (.func n) #[] caps) := hq.bx (HB.out _ (List.mem_cons_of_mem _ (List.mem_cons_self ..))))
  rw [HN.out, Oper.upon_enter]
  refine (HC.out B w0 v0 _ wq hq (fun x hx => HB.out x (List.mem_cons_of_mem _ (List.mem_cons_of_mem _ hx))) (by (try simp only [List.length_append]); (try simp only [List.length_cons]); (try simp only [List.length_nil]); omega)).mono ?_
  rintro e w2 ⟨rfl, h2⟩
  dsimp only
  go_wp2
  go_end0
  refine ⟨rfl, ?_⟩
  rw [List.append_assoc] at h2
  exact h2

set_option maxRecDepth 20000 in
set_option maxHeartbeats 1000000 in
theorem withOwn_any {b f : Nat} {p : ByteArray} {k k' : Nat} (hk : k + 1 ≤ 9) (hp : p.size ≤ 1000) {n : Nat} {caps : Array Value} {S : List (Nat × Value)} {D : List Ins} (hD : D.length ≤ 50) (hn : Fn.goes n) (hc : Adds n (#[.string (lb p (k + 1))] ++ caps) b f p (k + 1) k' S D 700) :
    Adds 95 #[.pointer (some ⟨b, 0, none⟩), .func (.func n) #[] caps] b f p k k' S (⟨⟨#[122, 101, 114, 111]⟩, 6, 0, 0, lb p (k + 1)⟩ :: (D ++ [lblI (lb p (k + 1))])) 600 := by
  intro B w0 v0 L w h hB hL
  have hmf : ∀ (fn : Fn) (first cap : Array Value) (w : World), (Instr.makeFunc fn first cap).run Tryz.prog w = .ok (.func fn first cap) w := fun _ _ _ _ => rfl
  have HC : Hid (∀ x1 x2, Adds 130 (#[.string (lb p (k + 1))] ++ #[.pointer (some ⟨x1, 0, none⟩), .pointer (some ⟨x2, 0, none⟩)]) b f p (k + 1) k' ((x1, mptr b) :: (x2, .func (.func n) #[] caps) :: S) (⟨⟨#[122, 101, 114, 111]⟩, 6, 0, 0, lb p (k + 1)⟩ :: D) 650) := hide fun x1 x2 => withOwn1_any hn hc x1 x2
  have HG : Hid (Fn.goes 130) := hide fun _ _ => rfl
  have h1 := h.box (mptr b) 156
  have h2 := h1.box (.func (.func n) #[] caps) 134
  rw [show (w.alloc (.cells #[mptr b] 156)).heap.size = w.heap.size + 1 by simp] at h2
  have HH := hide h2
  have HBB : Hid (∀ x ∈ (w.heap.size, mptr b) :: (w.heap.size + 1, Value.func (.func n) #[] caps) :: S, x ∈ (w.heap.size + 1, Value.func (.func n) #[] caps) :: (w.heap.size, mptr b) :: B) := hide fun x hx => by
    rcases List.mem_cons.1 hx with rfl | hx
    · exact .tail _ (.head _)
    · rcases List.mem_cons.1 hx with rfl | hx
      · exact .head _
      · exact .tail _ (.tail _ (hB x hx))
  clear hc hn h h1 h2 hB
  generalize (f : Int) = fi at *
  go_enter Tryz.func95, Tryz.ntmps95
  go_wp2_with (go_at_call 129; refine (MAt.block (k' := k') HH.out hk hp (⟨⟨#[122, 101, 114, 111]⟩, 6, 0, 0, lb p (k + 1)⟩ :: D) _ HG.out _ (by (try simp only [List.length_append]); (try simp only [List.length_cons]); (try simp only [List.length_nil]); omega) (fun w1 w2 v2 h1 => HC.out _ _ _ w2 v2 _ w1 h1 HBB.out (by (try simp only [List.length_append]); (try simp only [List.length_cons]); (try simp only [List.length_nil]); omega))).mono ?_; rintro e wq ⟨rfl, hq⟩)
  go_end0
  exact ⟨rfl, hq.drop fun x hx => .tail _ (.tail _ hx)⟩
end Go.Proofs.YtaiigfcfmcicjaaGreatDoor

/- GdG -/
namespace Go.Proofs.YtaiigfcfmcicjaaGreatDoor
open Go.RowKit Go.Extern.Stop Go.Stop Go.Extern Go.Maps Go.WideMaps Go.Sort

set_option maxRecDepth 20000 in
set_option maxHeartbeats 2000000 in
theorem outer11_any {b f : Nat} {p : ByteArray} {k : Nat} (q q2 op : ByteArray) (word : Nat) (x1 x2 x3 x4 : Nat) :
    Adds 137 #[.string q, .pointer (some ⟨x1, 0, none⟩), .pointer (some ⟨x2, 0, none⟩), .pointer (some ⟨x3, 0, none⟩), .pointer (some ⟨x4, 0, none⟩)] b f p k k [(x1, mptr b), (x2, .int .i64 word), (x3, .string op), (x4, .string q2)]
      [⟨⟨#[108, 111, 97, 100]⟩, 0, 6, word, no⟩, ⟨⟨#[122, 101, 114, 111]⟩, 0, 0, 0, q⟩, ⟨⟨#[108, 111, 97, 100]⟩, 0, 6, 2, no⟩, ⟨⟨#[99, 111, 110, 115, 116]⟩, 1, 1, 0, no⟩, ⟨op, 0, 0, 1, no⟩, ⟨⟨#[115, 116, 111, 114, 101]⟩, 6, 0, 2, no⟩, ⟨⟨#[103, 111, 116, 111]⟩, 0, 0, 0, q2⟩] 800 := by
  intro B w0 v0 L w hq hB hL
  have HB := hide hB
  clear hB
  generalize (f : Int) = fi at *
  generalize (word : Int) = wi at *
  go_enter Tryz.func137, Tryz.ntmps137
  go_wp2_with fail
  have hq := hq.below (below_dN (Below.refl _ _) 1)
  refine wp_region_F (S := (fun w' => w'.cell? ⟨x1, 0, none⟩ = some (.pointer (some ⟨b, 0, none⟩)) ∧ w'.cell? ⟨x2, 0, none⟩ = some (.int .i64 wi))) (by kernel_rfl) ⟨hq.bx (HB.out _ (.head _)), hq.bx (HB.out _ (.tail _ (.head _)))⟩ (fun hHeld => ?_)
  change MAt _ _ _ _ _ _ _ _ (World.drew w) at hq
  generalize World.drew w = wd at *
  refine' wpAnyF_take (i := 0) (n := 5) (v := _) rfl (by kernel_rfl) (fun _ _ _ h => h) (by assumption) (Or.inl ⟨by rfl, ?hy1⟩) ?rest1
  case' hy1 => (intro w' hSw; (try dsimp only at hSw); go_simp; try with_reducible rfl)
  try simp only [Act.put, List.getElem_toArray, List.getElem_cons_zero, List.setIfInBounds_toArray, List.set_cons_zero, List.set_cons_succ]
  refine' wpAnyF_take (i := 1) (n := 5) (v := _) rfl (by kernel_rfl) (fun _ _ _ h => h) (by assumption) (Or.inl ⟨by rfl, ?hy2⟩) ?rest2
  case' hy2 => (intro w' hSw; (try dsimp only at hSw); go_simp; try with_reducible rfl)
  try simp only [Act.put, List.getElem_toArray, List.getElem_cons_zero, List.getElem_cons_succ, List.setIfInBounds_toArray, List.set_cons_zero, List.set_cons_succ]
  refine' wpAnyF_take (i := 2) (n := 5) (v := _) rfl (by kernel_rfl) (fun _ _ _ h => h) (by assumption) (Or.inl ⟨by rfl, ?hy3⟩) ?rest3
  case' hy3 => (intro w' hSw; (try dsimp only at hSw); go_simp; try with_reducible rfl)
  try simp only [Act.put, List.getElem_toArray, List.getElem_cons_zero, List.getElem_cons_succ, List.setIfInBounds_toArray, List.set_cons_zero, List.set_cons_succ]
  refine' wpAnyF_take (i := 3) (n := 5) (v := _) rfl (by kernel_rfl) (fun _ _ _ h => h) (by assumption) (Or.inl ⟨by rfl, ?hy4⟩) ?rest4
  case' hy4 => (intro w' hSw; (try dsimp only at hSw); go_simp; try with_reducible rfl)
  try simp only [Act.put, List.getElem_toArray, List.getElem_cons_zero, List.getElem_cons_succ, List.setIfInBounds_toArray, List.set_cons_zero, List.set_cons_succ]
  refine wpAnyF_only (i := 4) rfl (by kernel_rfl) (fun K hK => ?_)
  go_simp
  refine hK.out _ _ (Or.inr ⟨keep_cell ((Below.refl _ _).alloc (Nat.le_refl _) _) hHeld.1, keep_cell ((Below.refl _ _).alloc (Nat.le_refl _) _) hHeld.2⟩) ?_
  clear hK K
  try simp only [Act.put, List.getElem_toArray, List.getElem_cons_zero, List.getElem_cons_succ, List.setIfInBounds_toArray, List.set_cons_zero, List.set_cons_succ]
  refine wpAnyF_only (i := 5) rfl (by kernel_rfl) (fun K hK => ?_)
  go_simp
  go_at_call 97
  (first | ((with_reducible show Calls _ _ #[_, _, Value.slice _ 3 _] _ _); refine (MAt.do3 (by first | exact hq | exact h) (by (try simp only [List.length_append]); (try simp only [List.length_cons]); (try simp only [List.length_nil]); omega) _ _ _ _ _ (by first | rfl | simp)).mono ?_) | ((with_reducible show Calls _ _ #[_, _, Value.slice _ 2 _] _ _); refine (MAt.do2 (by first | exact hq | exact h) (by (try simp only [List.length_append]); (try simp only [List.length_cons]); (try simp only [List.length_nil]); omega) _ _ _ _ (by first | rfl | simp)).mono ?_) | ((with_reducible show Calls _ _ #[_, _, Value.slice _ 1 _] _ _); refine (MAt.do1 (by first | exact hq | exact h) (by (try simp only [List.length_append]); (try simp only [List.length_cons]); (try simp only [List.length_nil]); omega) _ _ _ (by first | rfl | simp)).mono ?_) | ((with_reducible show Calls _ _ #[_, _, Value.slice _ 0 _] _ _); refine (MAt.do_none (by first | exact hq | exact h) (by (try simp only [List.length_append]); (try simp only [List.length_cons]); (try simp only [List.length_nil]); omega) _).mono ?_))
  rintro e wq ⟨rfl, hq⟩
  dsimp only
  refine hK.out _ _ (Or.inl (by kernel_rfl)) ?_
  clear hK K hHeld
  try simp only [Act.put, List.getElem_toArray, List.getElem_cons_zero, List.getElem_cons_succ, List.setIfInBounds_toArray, List.set_cons_zero, List.set_cons_succ]
  refine wpAnyF_done (by kernel_rfl) ?_ _
  have b1 : wq.cell? ⟨x1, 0, none⟩ = some (.pointer (some ⟨b, 0, none⟩)) := hq.bx (HB.out _ (.head _))
  go_wp2_with (first
    | (go_at_call 131; (first | ((with_reducible show Calls _ _ #[_, _, _, Value.slice _ 3 _] _ _); refine (MAt.to3 (by first | exact hq | exact h) (by (try simp only [List.length_append]); (try simp only [List.length_cons]); (try simp only [List.length_nil]); omega) _ _ _ _ _ _ (by first | rfl | simp)).mono ?_) | ((with_reducible show Calls _ _ #[_, _, _, Value.slice _ 2 _] _ _); refine (MAt.to2 (by first | exact hq | exact h) (by (try simp only [List.length_append]); (try simp only [List.length_cons]); (try simp only [List.length_nil]); omega) _ _ _ _ _ (by first | rfl | simp)).mono ?_) | ((with_reducible show Calls _ _ #[_, _, _, Value.slice _ 1 _] _ _); refine (MAt.to1 (by first | exact hq | exact h) (by (try simp only [List.length_append]); (try simp only [List.length_cons]); (try simp only [List.length_nil]); omega) _ _ _ _ (by first | rfl | simp)).mono ?_) | ((with_reducible show Calls _ _ #[_, _, _, Value.slice _ 0 _] _ _); refine (MAt.to_none (by first | exact hq | exact h) (by (try simp only [List.length_append]); (try simp only [List.length_cons]); (try simp only [List.length_nil]); omega) _ _).mono ?_)); rintro e wq ⟨rfl, hq⟩; have b1 : wq.cell? ⟨x1, 0, none⟩ = some (.pointer (some ⟨b, 0, none⟩)) := hq.bx (HB.out _ (.head _)))
    | (go_at_call 97; (first | ((with_reducible show Calls _ _ #[_, _, Value.slice _ 3 _] _ _); refine (MAt.do3 (by first | exact hq | exact h) (by (try simp only [List.length_append]); (try simp only [List.length_cons]); (try simp only [List.length_nil]); omega) _ _ _ _ _ (by first | rfl | simp)).mono ?_) | ((with_reducible show Calls _ _ #[_, _, Value.slice _ 2 _] _ _); refine (MAt.do2 (by first | exact hq | exact h) (by (try simp only [List.length_append]); (try simp only [List.length_cons]); (try simp only [List.length_nil]); omega) _ _ _ _ (by first | rfl | simp)).mono ?_) | ((with_reducible show Calls _ _ #[_, _, Value.slice _ 1 _] _ _); refine (MAt.do1 (by first | exact hq | exact h) (by (try simp only [List.length_append]); (try simp only [List.length_cons]); (try simp only [List.length_nil]); omega) _ _ _ (by first | rfl | simp)).mono ?_) | ((with_reducible show Calls _ _ #[_, _, Value.slice _ 0 _] _ _); refine (MAt.do_none (by first | exact hq | exact h) (by (try simp only [List.length_append]); (try simp only [List.length_cons]); (try simp only [List.length_nil]); omega) _).mono ?_)); rintro e wq ⟨rfl, hq⟩; have b1 : wq.cell? ⟨x1, 0, none⟩ = some (.pointer (some ⟨b, 0, none⟩)) := hq.bx (HB.out _ (.head _))))
  have hq := hq.below (below_dN (Below.refl _ _) 1)
  refine wp_region_F (S := (fun w' => w'.cell? ⟨x1, 0, none⟩ = some (.pointer (some ⟨b, 0, none⟩)) ∧ w'.cell? ⟨x3, 0, none⟩ = some (.string op))) (by kernel_rfl) ⟨hq.bx (HB.out _ (.head _)), hq.bx (HB.out _ (.tail _ (.tail _ (.head _))))⟩ (fun hHeld => ?_)
  change MAt _ _ _ _ _ _ _ _ (World.drew wq) at hq
  generalize World.drew wq = wd at *
  refine' wpAnyF_take (i := 0) (n := 5) (v := _) rfl (by kernel_rfl) (fun _ _ _ h => h) (by assumption) (Or.inl ⟨by rfl, ?hy5⟩) ?rest5
  case' hy5 => (intro w' hSw; (try dsimp only at hSw); go_simp; try with_reducible rfl)
  try simp only [Act.put, List.getElem_toArray, List.getElem_cons_zero, List.setIfInBounds_toArray, List.set_cons_zero, List.set_cons_succ]
  refine' wpAnyF_take (i := 1) (n := 5) (v := _) rfl (by kernel_rfl) (fun _ _ _ h => h) (by assumption) (Or.inl ⟨by rfl, ?hy6⟩) ?rest6
  case' hy6 => (intro w' hSw; (try dsimp only at hSw); go_simp; try with_reducible rfl)
  try simp only [Act.put, List.getElem_toArray, List.getElem_cons_zero, List.getElem_cons_succ, List.setIfInBounds_toArray, List.set_cons_zero, List.set_cons_succ]
  refine' wpAnyF_take (i := 2) (n := 5) (v := _) rfl (by kernel_rfl) (fun _ _ _ h => h) (by assumption) (Or.inl ⟨by rfl, ?hy7⟩) ?rest7
  case' hy7 => (intro w' hSw; (try dsimp only at hSw); go_simp; try with_reducible rfl)
  try simp only [Act.put, List.getElem_toArray, List.getElem_cons_zero, List.getElem_cons_succ, List.setIfInBounds_toArray, List.set_cons_zero, List.set_cons_succ]
  refine' wpAnyF_take (i := 3) (n := 5) (v := _) rfl (by kernel_rfl) (fun _ _ _ h => h) (by assumption) (Or.inl ⟨by rfl, ?hy8⟩) ?rest8
  case' hy8 => (intro w' hSw; (try dsimp only at hSw); go_simp; try with_reducible rfl)
  try simp only [Act.put, List.getElem_toArray, List.getElem_cons_zero, List.getElem_cons_succ, List.setIfInBounds_toArray, List.set_cons_zero, List.set_cons_succ]
  refine wpAnyF_only (i := 4) rfl (by kernel_rfl) (fun K hK => ?_)
  go_simp
  refine hK.out _ _ (Or.inr ⟨keep_cell ((Below.refl _ _).alloc (Nat.le_refl _) _) hHeld.1, keep_cell ((Below.refl _ _).alloc (Nat.le_refl _) _) hHeld.2⟩) ?_
  clear hK K
  try simp only [Act.put, List.getElem_toArray, List.getElem_cons_zero, List.getElem_cons_succ, List.setIfInBounds_toArray, List.set_cons_zero, List.set_cons_succ]
  refine wpAnyF_only (i := 5) rfl (by kernel_rfl) (fun K hK => ?_)
  go_simp
  go_at_call 97
  (first | ((with_reducible show Calls _ _ #[_, _, Value.slice _ 3 _] _ _); refine (MAt.do3 (by first | exact hq | exact h) (by (try simp only [List.length_append]); (try simp only [List.length_cons]); (try simp only [List.length_nil]); omega) _ _ _ _ _ (by first | rfl | simp)).mono ?_) | ((with_reducible show Calls _ _ #[_, _, Value.slice _ 2 _] _ _); refine (MAt.do2 (by first | exact hq | exact h) (by (try simp only [List.length_append]); (try simp only [List.length_cons]); (try simp only [List.length_nil]); omega) _ _ _ _ (by first | rfl | simp)).mono ?_) | ((with_reducible show Calls _ _ #[_, _, Value.slice _ 1 _] _ _); refine (MAt.do1 (by first | exact hq | exact h) (by (try simp only [List.length_append]); (try simp only [List.length_cons]); (try simp only [List.length_nil]); omega) _ _ _ (by first | rfl | simp)).mono ?_) | ((with_reducible show Calls _ _ #[_, _, Value.slice _ 0 _] _ _); refine (MAt.do_none (by first | exact hq | exact h) (by (try simp only [List.length_append]); (try simp only [List.length_cons]); (try simp only [List.length_nil]); omega) _).mono ?_))
  rintro e wq ⟨rfl, hq⟩
  dsimp only
  refine hK.out _ _ (Or.inl (by kernel_rfl)) ?_
  clear hK K hHeld
  try simp only [Act.put, List.getElem_toArray, List.getElem_cons_zero, List.getElem_cons_succ, List.setIfInBounds_toArray, List.set_cons_zero, List.set_cons_succ]
  refine wpAnyF_done (by kernel_rfl) ?_ _
  have b1 : wq.cell? ⟨x1, 0, none⟩ = some (.pointer (some ⟨b, 0, none⟩)) := hq.bx (HB.out _ (.head _))
  go_wp2_with (first
    | (go_at_call 131; (first | ((with_reducible show Calls _ _ #[_, _, _, Value.slice _ 3 _] _ _); refine (MAt.to3 (by first | exact hq | exact h) (by (try simp only [List.length_append]); (try simp only [List.length_cons]); (try simp only [List.length_nil]); omega) _ _ _ _ _ _ (by first | rfl | simp)).mono ?_) | ((with_reducible show Calls _ _ #[_, _, _, Value.slice _ 2 _] _ _); refine (MAt.to2 (by first | exact hq | exact h) (by (try simp only [List.length_append]); (try simp only [List.length_cons]); (try simp only [List.length_nil]); omega) _ _ _ _ _ (by first | rfl | simp)).mono ?_) | ((with_reducible show Calls _ _ #[_, _, _, Value.slice _ 1 _] _ _); refine (MAt.to1 (by first | exact hq | exact h) (by (try simp only [List.length_append]); (try simp only [List.length_cons]); (try simp only [List.length_nil]); omega) _ _ _ _ (by first | rfl | simp)).mono ?_) | ((with_reducible show Calls _ _ #[_, _, _, Value.slice _ 0 _] _ _); refine (MAt.to_none (by first | exact hq | exact h) (by (try simp only [List.length_append]); (try simp only [List.length_cons]); (try simp only [List.length_nil]); omega) _ _).mono ?_)); rintro e wq ⟨rfl, hq⟩; have b1 : wq.cell? ⟨x1, 0, none⟩ = some (.pointer (some ⟨b, 0, none⟩)) := hq.bx (HB.out _ (.head _)))
    | (go_at_call 97; (first | ((with_reducible show Calls _ _ #[_, _, Value.slice _ 3 _] _ _); refine (MAt.do3 (by first | exact hq | exact h) (by (try simp only [List.length_append]); (try simp only [List.length_cons]); (try simp only [List.length_nil]); omega) _ _ _ _ _ (by first | rfl | simp)).mono ?_) | ((with_reducible show Calls _ _ #[_, _, Value.slice _ 2 _] _ _); refine (MAt.do2 (by first | exact hq | exact h) (by (try simp only [List.length_append]); (try simp only [List.length_cons]); (try simp only [List.length_nil]); omega) _ _ _ _ (by first | rfl | simp)).mono ?_) | ((with_reducible show Calls _ _ #[_, _, Value.slice _ 1 _] _ _); refine (MAt.do1 (by first | exact hq | exact h) (by (try simp only [List.length_append]); (try simp only [List.length_cons]); (try simp only [List.length_nil]); omega) _ _ _ (by first | rfl | simp)).mono ?_) | ((with_reducible show Calls _ _ #[_, _, Value.slice _ 0 _] _ _); refine (MAt.do_none (by first | exact hq | exact h) (by (try simp only [List.length_append]); (try simp only [List.length_cons]); (try simp only [List.length_nil]); omega) _).mono ?_)); rintro e wq ⟨rfl, hq⟩; have b1 : wq.cell? ⟨x1, 0, none⟩ = some (.pointer (some ⟨b, 0, none⟩)) := hq.bx (HB.out _ (.head _))))
  have hq := hq.below (below_dN (Below.refl _ _) 1)
  refine wp_region_F (S := (fun w' => w'.cell? ⟨x1, 0, none⟩ = some (.pointer (some ⟨b, 0, none⟩)) ∧ w'.cell? ⟨x4, 0, none⟩ = some (.string q2))) (by kernel_rfl) ⟨hq.bx (HB.out _ (.head _)), hq.bx (HB.out _ (.tail _ (.tail _ (.tail _ (.head _)))))⟩ (fun hHeld => ?_)
  change MAt _ _ _ _ _ _ _ _ (World.drew wq) at hq
  generalize World.drew wq = wd at *
  refine' wpAnyF_take (i := 0) (n := 4) (v := _) rfl (by kernel_rfl) (fun _ _ _ h => h) (by assumption) (Or.inl ⟨by rfl, ?hy9⟩) ?rest9
  case' hy9 => (intro w' hSw; (try dsimp only at hSw); go_simp; try with_reducible rfl)
  try simp only [Act.put, List.getElem_toArray, List.getElem_cons_zero, List.setIfInBounds_toArray, List.set_cons_zero, List.set_cons_succ]
  refine' wpAnyF_take (i := 1) (n := 4) (v := _) rfl (by kernel_rfl) (fun _ _ _ h => h) (by assumption) (Or.inl ⟨by rfl, ?hy10⟩) ?rest10
  case' hy10 => (intro w' hSw; (try dsimp only at hSw); go_simp; try with_reducible rfl)
  try simp only [Act.put, List.getElem_toArray, List.getElem_cons_zero, List.getElem_cons_succ, List.setIfInBounds_toArray, List.set_cons_zero, List.set_cons_succ]
  refine' wpAnyF_take (i := 2) (n := 4) (v := _) rfl (by kernel_rfl) (fun _ _ _ h => h) (by assumption) (Or.inl ⟨by rfl, ?hy11⟩) ?rest11
  case' hy11 => (intro w' hSw; (try dsimp only at hSw); go_simp; try with_reducible rfl)
  try simp only [Act.put, List.getElem_toArray, List.getElem_cons_zero, List.getElem_cons_succ, List.setIfInBounds_toArray, List.set_cons_zero, List.set_cons_succ]
  refine' wpAnyF_take (i := 3) (n := 4) (v := _) rfl (by kernel_rfl) (fun _ _ _ h => h) (by assumption) (Or.inl ⟨by rfl, ?hy12⟩) ?rest12
  case' hy12 => (intro w' hSw; (try dsimp only at hSw); go_simp; try with_reducible rfl)
  try simp only [Act.put, List.getElem_toArray, List.getElem_cons_zero, List.getElem_cons_succ, List.setIfInBounds_toArray, List.set_cons_zero, List.set_cons_succ]
  refine wpAnyF_only (i := 4) rfl (by kernel_rfl) (fun K hK => ?_)
  go_simp
  go_at_call 131
  (first | ((with_reducible show Calls _ _ #[_, _, _, Value.slice _ 3 _] _ _); refine (MAt.to3 (by first | exact hq | exact h) (by (try simp only [List.length_append]); (try simp only [List.length_cons]); (try simp only [List.length_nil]); omega) _ _ _ _ _ _ (by first | rfl | simp)).mono ?_) | ((with_reducible show Calls _ _ #[_, _, _, Value.slice _ 2 _] _ _); refine (MAt.to2 (by first | exact hq | exact h) (by (try simp only [List.length_append]); (try simp only [List.length_cons]); (try simp only [List.length_nil]); omega) _ _ _ _ _ (by first | rfl | simp)).mono ?_) | ((with_reducible show Calls _ _ #[_, _, _, Value.slice _ 1 _] _ _); refine (MAt.to1 (by first | exact hq | exact h) (by (try simp only [List.length_append]); (try simp only [List.length_cons]); (try simp only [List.length_nil]); omega) _ _ _ _ (by first | rfl | simp)).mono ?_) | ((with_reducible show Calls _ _ #[_, _, _, Value.slice _ 0 _] _ _); refine (MAt.to_none (by first | exact hq | exact h) (by (try simp only [List.length_append]); (try simp only [List.length_cons]); (try simp only [List.length_nil]); omega) _ _).mono ?_))
  rintro e wq ⟨rfl, hq⟩
  dsimp only
  refine hK.out _ _ (Or.inl (by kernel_rfl)) ?_
  clear hK K hHeld
  try simp only [Act.put, List.getElem_toArray, List.getElem_cons_zero, List.getElem_cons_succ, List.setIfInBounds_toArray, List.set_cons_zero, List.set_cons_succ]
  refine wpAnyF_done (by kernel_rfl) ?_ _
  go_wp2
  go_end0
  refine ⟨rfl, ?_⟩
  simp only [List.append_assoc, List.cons_append, List.nil_append] at hq
  exact hq
end Go.Proofs.YtaiigfcfmcicjaaGreatDoor
