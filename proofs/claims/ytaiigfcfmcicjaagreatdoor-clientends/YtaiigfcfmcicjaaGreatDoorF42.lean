import Derived.Test.YtaiigfcfmcicjaaGreatDoorF38
namespace Go.Proofs.YtaiigfcfmcicjaaGreatDoor
set_option maxRecDepth 100000
set_option maxHeartbeats 8000000
section
open Go.RowKit Go.Extern.Stop Go.Stop Go.Extern Go.Sort
theorem rnames_has {m : Mk} {n : Int} (h : m.names n = true) : m.mem.ar.has (cellOf n) (genOf n) = true := ((Bool.and_eq_true _ _).mp h).2
theorem boxAfter0 (w : World) (a : Addr) (v : Value) (x y : Int) : ((w.setCell a v).alloc (.cells #[.int .i64 x, .int .i64 y] 50)).cell? ⟨w.heap.size, 0, none⟩ = some (.int .i64 x) := by
 have h := World.size_setCell w a v
 generalize w.setCell a v = W at *
 rw [<- h]; simp
theorem boxAfter1 (w : World) (a : Addr) (v : Value) (x y : Int) : ((w.setCell a v).alloc (.cells #[.int .i64 x, .int .i64 y] 50)).cell? ⟨w.heap.size, 1, none⟩ = some (.int .i64 y) := by
 have h := World.size_setCell w a v
 generalize w.setCell a v = W at *
 rw [<- h]; simp
theorem Mk.setWord_self (m : Mk) (c k : Nat) : m.setMem (m.mem.setWord c k (m.mem.ar.words c k)) = m := by
 have : m.mem.setWord c k (m.mem.ar.words c k) = m.mem := by
  simp only [Rm.setWord, Ar.setWord]
  congr 2
  funext a b
  by_cases h : a = c /\ b = k
  ·rw [if_pos h, h.1, h.2]
  ·rw [if_neg h]
 rw [this]; rfl
theorem Ar.has_drained (s : Rm) (t : Nat) (x : Wt) (l : List Wt) (c g : Int) : (s.drained t x l).ar.has c g = s.ar.has c g := by
 obtain ⟨h1, h2, h3⟩ := Rm.drained_ar s t x l
 unfold Ar.has
 rw [h1, h2, h3]
theorem Mk.setReg_twice (m : Mk) (t r : Nat) (u v : Int) : (m.setReg t r u).setReg t r v = m.setReg t r v := by
 simp only [Mk.setReg]
 congr 1
 funext a b
 by_cases h : a = t /\ b = r
 ·rw [if_pos h, if_pos h]
 ·rw [if_neg h, if_neg h, if_neg h]
section
variable {cs : List (List Ins)} {p : RkPl} {m : Mk} {w : World}
theorem RkAt.cellAt (_h : RkAt cs p m w) {n : Int} (hy : m.names n = true) : ∃ k : Nat, cellOf n = k /\ k < m.mem.ar.size /\ m.mem.ar.has k (genOf n) = true := by
 have hh := rnames_has hy
 obtain ⟨k, hc, hk, -, -⟩ := Ar.has_lt hh
 exact ⟨k, hc, hk, by rw [<- hc]; exact hh⟩
theorem rk_load (h : RkAt cs p m w) {t : Nat} (ht : t < cs.length) (h8 : (m.mem.waits t).length <= 8) {n : Int} (hy : m.names n = true) {wi : Nat} (hw : wi < 4) :
  Calls Tryz.prog 72 #[.pointer (some ⟨p.rp.mb, 0, none⟩), .int .i64 t, .agg #[.int .i64 (cellOf n), .int .i64 (genOf n)], .int .i64 wi] w fun e w' => e = .returned (.tuple #[.int .i64 (m.loaded t n wi), .int .i64 0]) /\ Below w.heap.size w w' := by
 obtain ⟨k, hc, hk, hh⟩ := h.cellAt hy
 have := rload_ok p.rp m.mem t k wi (genOf n) w h.mem (by rw [h.thr]; exact ht) (Ar.at_ok hh (by omega)) hk hw (by omega)
 unfold Mk.loaded
 rw [hc]
 exact this
theorem rk_store (h : RkAt cs p m w) {t : Nat} (ht : t < cs.length) (h8 : (m.mem.waits t).length < 8) {n : Int} (hy : m.names n = true) {wi : Nat} (hw : wi < 4) {v : Int} (hv : Wd v) :
  Calls Tryz.prog 74 #[.pointer (some ⟨p.rp.mb, 0, none⟩), .int .i64 t, .agg #[.int .i64 (cellOf n), .int .i64 (genOf n)], .int .i64 wi, .int .i64 v] w fun e w' => e = .returned (.int .i64 0) /\ ∃ r, RkStep cs p m.mem w r p.mv (m.put t n wi v) w' := by
 have he : m.mem.storeErr t (cellOf n) (genOf n) wi v = 0 := by
  unfold Rm.storeErr
  rw [if_pos (Ar.at_ok (rnames_has hy) (by omega)), if_pos (show 0 <= v /\ v < 4294967296 from hv), if_neg (by omega)]
 exact (rstore_ok p.rp m.mem t (cellOf n) (genOf n) wi v w h.mem (by rw [h.thr]; exact ht) he).mono fun e w' ⟨e1, r, q⟩ => ⟨e1, r, h.ofMem q rfl⟩
theorem rk_drain (h : RkAt cs p m w) {t : Nat} (ht : t < cs.length) {x : Wt} {l : List Wt} (he : m.mem.waits t = x :: l) (hx : x.Ok) (h8 : (m.mem.waits t).length <= 8) :
  Calls Tryz.prog 73 #[.pointer (some ⟨p.rp.mb, 0, none⟩), .int .i64 t] w fun e w' => e = .returned (.int .i64 (if m.mem.ar.has x.c x.g = true then 0 else 7)) /\ ∃ r, RkStep cs p m.mem w r p.mv (m.setMem (m.mem.drained t x l)) w' := by
 rw [he, List.length_cons] at h8
 exact (rdrain_walk (if m.mem.ar.has x.c x.g = true then 0 else 7) p.rp m.mem t x l w h.mem (by rw [h.thr]; exact ht) he hx.1 (by omega) (hide rfl)).mono fun e w' ⟨e1, r, q⟩ => ⟨e1, r, h.ofMem q (Rm.drained_threads _ _ _ _)⟩
theorem rk_drain_none (h : RkAt cs p m w) {t : Nat} (ht : t < cs.length) (he : m.mem.waits t = []) :
  Calls Tryz.prog 73 #[.pointer (some ⟨p.rp.mb, 0, none⟩), .int .i64 t] w fun e w' => e = .returned (.int .i64 5) /\ Below w.heap.size w w' :=
 rdrain_none p.rp m.mem t w h.mem (by rw [h.thr]; exact ht) he
theorem rk_alloc_none (h : RkAt cs p m w) (hf : m.mem.ar.free? = none) :
  Calls Tryz.prog 44 #[.pointer (some ⟨p.rp.mb, 0, none⟩)] w fun e w' => e = .returned (.tuple #[.agg #[.int .i64 0, .int .i64 0], .int .i64 6]) /\ Below w.heap.size w w' :=
 ralloc_full p.rp m.mem w h.mem (Ar.free_none hf)
theorem rk_alloc_some (h : RkAt cs p m w) {c : Nat} (hf : m.mem.ar.free? = some c) (hg : m.mem.ar.given c <= 60000000) :
  Calls Tryz.prog 44 #[.pointer (some ⟨p.rp.mb, 0, none⟩)] w fun e w' => e = .returned (.tuple #[.agg #[.int .i64 c, .int .i64 (m.mem.ar.given c)], .int .i64 0]) /\ ∃ r, RkStep cs p m.mem w r p.mv (m.setMem (m.mem.give c)) w' := by
 obtain ⟨h1, h2, h3⟩ := Ar.free_some hf
 exact (ralloc_step p.rp m.mem c w h.mem h1 h2 h3 (by omega)).mono fun e w' ⟨e1, r, q⟩ => ⟨e1, r, h.ofMem q rfl⟩
theorem RkAt.setWordM (h : RkAt cs p m w) {k wi : Nat} (hk : k < m.mem.ar.size) (hw : wi < 4) (v : Int) : RkStep cs p m.mem w p.rp p.mv (m.setMem (m.mem.setWord k wi v)) (w.setCell ⟨p.rp.wb k, wi, none⟩ (.int .i64 v)) :=
 h.ofMem (RmStep.setWord h.mem k wi hk hw v) rfl
theorem RkAt.setThereM (h : RkAt cs p m w) {k : Nat} (hk : k < m.mem.ar.size) (b : Bool) : RkStep cs p m.mem w p.rp p.mv (m.setMem (m.mem.setThere k b)) (w.setCell ⟨p.rp.cb, k * 3 + 2, none⟩ (.bool b)) :=
 h.ofMem (RmStep.setThere h.mem k hk b) rfl
end
end
end Go.Proofs.YtaiigfcfmcicjaaGreatDoor
