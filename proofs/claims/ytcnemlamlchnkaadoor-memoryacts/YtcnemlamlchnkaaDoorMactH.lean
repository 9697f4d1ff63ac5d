/- memoryAct: whatever kind. -/
import Derived.Test.YtcnemlamlchnkaaDoorMactF
import Derived.Test.YtcnemlamlchnkaaDoorMactG
namespace Go.Proofs.YtcnemlamlchnkaaDoor
open Go.RowKit Go.Extern.Stop Go.Stop Go.Extern Go.Sort

theorem free_first (f : Nat → Bool) (n : Nat) (h : ¬ ∀ i, i < n → f i = true) : ∃ c, c < n ∧ f c = false ∧ ∀ i, i < c → f i = true := by
  induction n with
  | zero => exact absurd (fun i hi => absurd hi (Nat.not_lt_zero i)) h
  | succ n ih =>
    by_cases h' : ∀ i, i < n → f i = true
    · refine ⟨n, Nat.lt_succ_self n, ?_, h'⟩
      cases e : f n with
      | false => rfl
      | true =>
        refine absurd (fun i hi => ?_) h
        rcases Nat.lt_or_ge i n with h1 | h1
        · exact h' i h1
        · obtain rfl : i = n := by omega
          exact e
    · obtain ⟨c, hc, h1, h2⟩ := ih h'
      exact ⟨c, by omega, h1, h2⟩

theorem kind_ne (kd : ByteArray) (L : List UInt8) (h : ¬ kd = ⟨L.toArray⟩) : (kd.toList == L) = false := by
  refine beq_eq_false_iff_ne.2 (fun e => h ?_)
  rw [ByteArray.toList_eq] at e
  obtain ⟨d⟩ := kd
  have e' : d.toList = L := e
  rw [← e']

/-- Any act: both answer the same. -/
theorem act_any (a : Nat → Addr) (B : World) (b : Nat) (p : RmPl) (s : Rm) (t c g k v old : Int) (kd : ByteArray) (w : World) (H : Two a B b p s s w) (ho : s.Ok) (hgv : ∀ c, s.ar.given c ≤ 1000) :
    Calls Tryd.prog 39 #[.pointer (some ⟨b, 0, none⟩), .pointer (some ⟨p.mb, 0, none⟩), .agg #[.string kd, .int .i64 t, .int .i64 c, .int .i64 g, .int .i64 k, .int .i64 v, .int .i64 old]] w fun e w' => e = .returned (.bool true) ∧ ActPost a B b p.mb s w' := by
  by_cases k0 : kd = ⟨#[102, 111, 114, 99, 101]⟩
  · subst k0
    by_cases hg : 0 < s.goneFrom 0 s.threads
    · exact act_force_gone a B b p s t c g k v old w H ho hg _ rfl
    · exact act_force_ok a B b p s t c g k v old w H ho hg _ rfl
  by_cases k1 : kd = ⟨#[112, 101, 101, 107]⟩
  · subst k1
    by_cases he : s.ar.at c g k = 0
    · obtain ⟨n, m, rfl, rfl, hn, hm, hh⟩ := Ar.at_zero he
      exact act_peek_ok a B b p s n m t g v old w H ho hn hm hh _ rfl
    · exact act_peek_err a B b p s t c g k v old w H ho he _ rfl
  by_cases k2 : kd = ⟨#[108, 111, 97, 100]⟩
  · subst k2
    by_cases ht : 0 ≤ t ∧ t < s.threads
    · obtain ⟨i, rfl⟩ := Int.eq_ofNat_of_zero_le ht.1
      have hi : i < s.threads := by omega
      exact act_load_yes a B b p s i c g k v old w H ho hi
    · exact act_load_bad a B b p s t c g k v old w H ho ht
  by_cases k3 : kd = ⟨#[115, 116, 111, 114, 101]⟩
  · subst k3
    by_cases ht : 0 ≤ t ∧ t < s.threads
    · obtain ⟨i, rfl⟩ := Int.eq_ofNat_of_zero_le ht.1
      have hi : i < s.threads := by omega
      by_cases he : s.storeErr i c g k v = 0
      · exact act_store_ok a B b p s i c g k v old w H ho hi he
      · exact act_store_no a B b p s i c g k v old w H ho hi he
    · exact act_store_bad a B b p s t c g k v old w H ho ht
  by_cases k4 : kd = ⟨#[100, 114, 97, 105, 110]⟩
  · subst k4
    by_cases ht : 0 ≤ t ∧ t < s.threads
    · obtain ⟨i, rfl⟩ := Int.eq_ofNat_of_zero_le ht.1
      have hi : i < s.threads := by omega
      cases he : s.waits i with
      | nil => exact act_drain_none a B b p s i c g k v old w H ho hi he
      | cons x l => exact act_drain_some a B b p s i c g k v old w H ho hi x l he
    · exact act_drain_bad a B b p s t c g k v old w H ho ht
  by_cases k5 : kd = ⟨#[102, 101, 110, 99, 101]⟩
  · subst k5
    by_cases ht : 0 ≤ t ∧ t < s.threads
    · obtain ⟨i, rfl⟩ := Int.eq_ofNat_of_zero_le ht.1
      have hi : i < s.threads := by omega
      by_cases hg : 0 < s.gone i (s.waits i)
      · exact act_fence_gone a B b p s i c g k v old w H ho hi hg
      · exact act_fence_ok a B b p s i c g k v old w H ho hi hg
    · exact act_fence_bad a B b p s t c g k v old w H ho ht
  by_cases k6 : kd = ⟨#[97, 108, 108, 111, 99]⟩
  · subst k6
    by_cases ht : 0 ≤ t ∧ t < s.threads
    · obtain ⟨i, rfl⟩ := Int.eq_ofNat_of_zero_le ht.1
      have hi : i < s.threads := by omega
      by_cases hf : ∀ j, j < s.ar.size → s.ar.there j = true
      · exact act_alloc_full a B b p s i c g k v old w H ho hi hf
      · obtain ⟨j, hj, hth, hfr⟩ := free_first _ _ hf
        exact act_alloc_some a B b p s i c g k v old w H ho hgv hi j hj hfr hth
    · exact act_alloc_bad a B b p s t c g k v old w H ho ht
  by_cases k7 : kd = ⟨#[102, 114, 101, 101]⟩
  · subst k7
    by_cases ht : 0 ≤ t ∧ t < s.threads
    · obtain ⟨i, rfl⟩ := Int.eq_ofNat_of_zero_le ht.1
      have hi : i < s.threads := by omega
      by_cases he : s.ar.at c g 0 = 0
      · obtain ⟨n, m, rfl, -, hn, -, hh⟩ := Ar.at_zero he
        by_cases hg : 0 < s.gone i (s.waits i)
        · exact act_free_gone a B b p s i n g k v old w H ho hi hh hg
        · exact act_free_ok a B b p s i n g k v old w H ho hi hn hh hg
      · exact act_free_err a B b p s i c g k v old w H ho hi he
    · exact act_free_bad a B b p s t c g k v old w H ho ht
  by_cases k8 : kd = ⟨#[115, 119, 97, 112]⟩
  · subst k8
    by_cases ht : 0 ≤ t ∧ t < s.threads
    · obtain ⟨i, rfl⟩ := Int.eq_ofNat_of_zero_le ht.1
      have hi : i < s.threads := by omega
      by_cases he : s.ar.at c g k = 0
      · by_cases hv : 0 ≤ v ∧ v < 4294967296
        · obtain ⟨n, m, rfl, rfl, hn, hm, hh⟩ := Ar.at_zero he
          by_cases hg : 0 < s.gone i (s.waits i)
          · exact act_swap_gone a B b p s i n m g v old w H ho hi hh hm hv hg
          · exact act_swap_ok a B b p s i n m g v old w H ho hi hn hh hm hv hg
        · exact act_swap_word a B b p s i c g k v old w H ho hi he hv
      · exact act_swap_err a B b p s i c g k v old w H ho hi he
    · exact act_swap_bad a B b p s t c g k v old w H ho ht
  by_cases ht : 0 ≤ t ∧ t < s.threads
  · obtain ⟨i, rfl⟩ := Int.eq_ofNat_of_zero_le ht.1
    have hi : i < s.threads := by omega
    by_cases he : s.ar.at c g k = 0
    · by_cases hv : 0 ≤ v ∧ v < 4294967296
      · by_cases hd : 0 ≤ old ∧ old < 4294967296
        · obtain ⟨n, m, rfl, rfl, hn, hm, hh⟩ := Ar.at_zero he
          by_cases hg : 0 < s.gone i (s.waits i)
          · exact act_cas_gone a B b p s i n m g v old kd w H ho (kind_ne kd [102, 111, 114, 99, 101] k0) (kind_ne kd [112, 101, 101, 107] k1) (kind_ne kd [108, 111, 97, 100] k2) (kind_ne kd [115, 116, 111, 114, 101] k3) (kind_ne kd [100, 114, 97, 105, 110] k4) (kind_ne kd [102, 101, 110, 99, 101] k5) (kind_ne kd [97, 108, 108, 111, 99] k6) (kind_ne kd [102, 114, 101, 101] k7) (kind_ne kd [115, 119, 97, 112] k8) hi hh hm hv hd hg
          · by_cases hq : (s.drainAll i (s.waits i)).ar.words n m = old
            · exact act_cas_eq a B b p s i n m g v old kd w H ho (kind_ne kd [102, 111, 114, 99, 101] k0) (kind_ne kd [112, 101, 101, 107] k1) (kind_ne kd [108, 111, 97, 100] k2) (kind_ne kd [115, 116, 111, 114, 101] k3) (kind_ne kd [100, 114, 97, 105, 110] k4) (kind_ne kd [102, 101, 110, 99, 101] k5) (kind_ne kd [97, 108, 108, 111, 99] k6) (kind_ne kd [102, 114, 101, 101] k7) (kind_ne kd [115, 119, 97, 112] k8) hi hn hh hm hv hd hg hq
            · exact act_cas_ne a B b p s i n m g v old kd w H ho (kind_ne kd [102, 111, 114, 99, 101] k0) (kind_ne kd [112, 101, 101, 107] k1) (kind_ne kd [108, 111, 97, 100] k2) (kind_ne kd [115, 116, 111, 114, 101] k3) (kind_ne kd [100, 114, 97, 105, 110] k4) (kind_ne kd [102, 101, 110, 99, 101] k5) (kind_ne kd [97, 108, 108, 111, 99] k6) (kind_ne kd [102, 114, 101, 101] k7) (kind_ne kd [115, 119, 97, 112] k8) hi hn hh hm hv hd hg hq
        · exact act_cas_old a B b p s i c g k v old kd w H ho (kind_ne kd [102, 111, 114, 99, 101] k0) (kind_ne kd [112, 101, 101, 107] k1) (kind_ne kd [108, 111, 97, 100] k2) (kind_ne kd [115, 116, 111, 114, 101] k3) (kind_ne kd [100, 114, 97, 105, 110] k4) (kind_ne kd [102, 101, 110, 99, 101] k5) (kind_ne kd [97, 108, 108, 111, 99] k6) (kind_ne kd [102, 114, 101, 101] k7) (kind_ne kd [115, 119, 97, 112] k8) hi he hv hd
      · exact act_cas_word a B b p s i c g k v old kd w H ho (kind_ne kd [102, 111, 114, 99, 101] k0) (kind_ne kd [112, 101, 101, 107] k1) (kind_ne kd [108, 111, 97, 100] k2) (kind_ne kd [115, 116, 111, 114, 101] k3) (kind_ne kd [100, 114, 97, 105, 110] k4) (kind_ne kd [102, 101, 110, 99, 101] k5) (kind_ne kd [97, 108, 108, 111, 99] k6) (kind_ne kd [102, 114, 101, 101] k7) (kind_ne kd [115, 119, 97, 112] k8) hi he hv
    · exact act_cas_err a B b p s i c g k v old kd w H ho (kind_ne kd [102, 111, 114, 99, 101] k0) (kind_ne kd [112, 101, 101, 107] k1) (kind_ne kd [108, 111, 97, 100] k2) (kind_ne kd [115, 116, 111, 114, 101] k3) (kind_ne kd [100, 114, 97, 105, 110] k4) (kind_ne kd [102, 101, 110, 99, 101] k5) (kind_ne kd [97, 108, 108, 111, 99] k6) (kind_ne kd [102, 114, 101, 101] k7) (kind_ne kd [115, 119, 97, 112] k8) hi he
  · exact act_cas_bad a B b p s t c g k v old kd w H ho (kind_ne kd [102, 111, 114, 99, 101] k0) (kind_ne kd [112, 101, 101, 107] k1) (kind_ne kd [108, 111, 97, 100] k2) (kind_ne kd [115, 116, 111, 114, 101] k3) (kind_ne kd [100, 114, 97, 105, 110] k4) (kind_ne kd [102, 101, 110, 99, 101] k5) (kind_ne kd [97, 108, 108, 111, 99] k6) (kind_ne kd [102, 114, 101, 101] k7) (kind_ne kd [115, 119, 97, 112] k8) ht
end Go.Proofs.YtcnemlamlchnkaaDoor
