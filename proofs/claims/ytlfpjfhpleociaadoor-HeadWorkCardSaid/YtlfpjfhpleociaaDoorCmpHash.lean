/-
  A Reader's Hash answers the next 32 bytes, or no digest, and leaves what the chapter says. Conditions: the Reader stands as it should; the three errors are there.
-/
import Derived.Deep.RegionLaw
import Derived.Test.YtlfpjfhpleociaaDoorCmpRead2
namespace Go.Proofs.YtlfpjfhpleociaaDoor.Sha
open Go Go.RowKit
/-- Bytes filled up to a digest's 32. -/
def padH (x : List UInt8) : List UInt8 := x ++ List.replicate (32 - x.length) 0
theorem padH_length {x : List UInt8} (h : x.length ≤ 32) : (padH x).length = 32 := by simp [padH]; omega
theorem splice_zero (x : List UInt8) (_ : x.length ≤ 32) : splice (List.replicate 32 (bV 0)) 0 (x.map bV) = (padH x).map bV := by
  have e : List.drop x.length (List.replicate 32 (bV 0)) = List.replicate (32 - x.length) (bV 0) := List.drop_replicate ..
  unfold splice padH
  rw [List.length_map, Nat.zero_add, e, List.take_zero, List.nil_append, List.map_append, List.map_replicate]
def HashPost (E : Nat → Addr) (m : Nat) (x b : List UInt8) (d r : Nat) (w : World) (e : Ending) (w' : World) : Prop :=
  e = .returned (.agg ((padH x).map bV).toArray) ∧ RdI E m w' r b d ∧ w.grownBy w' (some r)
theorem hash_end {w w1 w2 : World} {r : Nat} {o : Obj} (_ : r < w.heap.size) (g1 : (w.alloc o).drew.grownBy w1 (some r)) (h : Below w.heap.size w1 w2) : w.grownBy w2 (some r) := by
  refine ⟨h.os.trans g1.os, h.tape.trans g1.tape, h.output.trans g1.output, ?_, fun k hk hne => ?_⟩
  · have h1 := g1.size
    have h2 := h.size
    have h3 : (w.alloc o).drew.heap.size = w.heap.size + 1 := by simp [World.drew]
    omega
  · rw [h.block k hk, g1.block k (by simp [World.drew]; omega) hne]
    exact ((Below.refl w.heap.size w).alloc (Nat.le_refl _) o).drew.block k hk
theorem grown_then {w w2 w3 : World} {r : Nat} (h : w.grownBy w2 (some r)) (hb : Below w.heap.size w2 w3) : w.grownBy w3 (some r) :=
  ⟨hb.os.trans h.os, hb.tape.trans h.tape, hb.output.trans h.output, Nat.le_trans h.size hb.size, fun k hk hne => by rw [hb.block k hk]; exact h.block k hk hne⟩
theorem hash_row {w w1 : World} {r : Nat} {o : Obj} (hr : r < w.heap.size) (g1 : (w.alloc o).drew.grownBy w1 (some r)) : w1.heap[w.heap.size]? = some o := by
  rw [g1.block w.heap.size (by simp [World.drew]) (fun e => by have := Option.some.inj e; omega)]
  exact heap_alloc_new _ _
theorem src_cells {w : World} {sp : Option Addr} {n cap : Nat} {bs : List UInt8} (h : SrcB w (.slice sp n cap) bs) (g off : Nat) (h0 : 0 < (bs.map bV).length) : (some ⟨g, off, none⟩ : Option Addr) = some ⟨g, off, none⟩ ∧ ∃ ad, sp = some ad ∧ ∀ j v, (bs.map bV)[j]? = some v → w.cell? (ad.add j) = some v := by
  refine ⟨rfl, ?_⟩
  rcases h with ⟨sp', cap', hv, rfl⟩ | ⟨h1, bb, o, cap', hv, _, hc⟩
  · simp at h0
  · cases hv
    refine ⟨_, rfl, fun j v hj => ?_⟩
    rw [List.getElem?_map] at hj
    obtain ⟨b, hb, rfl⟩ := Option.map_eq_some_iff.1 hj
    have hlt := (List.getElem?_eq_some_iff.1 hb).1
    rw [Addr.add_mid, hc j hlt]
    simp [bV, List.getD, hb]
theorem copy_fact {w1 : World} {g n cap : Nat} {sp : Option Addr} {x : List UInt8} {T : TypeId} (hs : SrcB w1 (.slice sp n cap) x) (hn : n = x.length) (hx : x.length ≤ 32) (hg : w1.heap[g]? = some (.cells (List.replicate 32 (bV 0)).toArray T (0, 0))) :
    ∃ w2, (∀ ty, (Builtin.copy_ #[28, 28] ty #[.slice (some ⟨g, 0, none⟩) 32 32, .slice sp n cap]).run Tryd.prog w1 = .ok (goInt n) w2) ∧ w2.heap[g]? = some (.cells ((padH x).map bV).toArray T (0, 0)) ∧ Below g w1 w2 := by
  have hsz : (Tryd.prog.info? 5).map (·.size) = some 1 := by kernel_rfl
  have hmin : Nat.min n 32 = n := Nat.min_eq_left (by omega)
  by_cases h0 : n = 0
  · have hx0 : x = [] := List.eq_nil_of_length_eq_zero (by omega)
    refine ⟨w1, fun ty => ?_, ?_, Below.refl _ _⟩
    · rw [h0]
      exact run_copy_none w1 28 28 ty 5 (some ⟨g, 0, none⟩) sp 32 32 0 cap Tryd.underlying28 hsz rfl
    · rw [hx0, hg]
      simp [padH]
  · obtain ⟨-, ad, rfl, hc⟩ := src_cells hs g 0 (by simp; omega)
    refine ⟨_, fun ty => ?_, setRow_heap w1 g _ _ _ _ hg, below_setRow (Below.refl _ _) (Nat.le_refl _) _⟩
    have h := run_copy_row (P := Tryd.prog) w1 28 28 ty 5 g 0 32 32 ad n cap _ T (x.map bV) Tryd.underlying28 hsz hg (by rw [List.length_map, hmin, hn]) hc (by simp; omega) (bV_one' _)
    have e := splice_zero x hx
    unfold splice at e
    rw [List.length_map] at e h
    rw [← hn] at h e
    rw [← List.append_assoc] at e
    simp only [] at h
    rw [e] at h
    exact h
set_option maxHeartbeats 1000000 in
set_option maxRecDepth 100000 in
theorem hash_is (E : Nat → Addr) (m : Nat) (bs x b : List UInt8) (c d r : Nat) (w : World) (hE : ErR w E r) (hr : RdI E m w r bs c) (ht : takeL 32 bs c = (x, b, d)) :
    Calls Tryd.prog 29 #[.pointer (some ⟨r, 0, none⟩)] w (HashPost E m x b d r w) := by
  have hb0 : ∀ o, Below w.heap.size w (w.alloc o).drew := fun o => ((Below.refl _ _).alloc (Nat.le_refl _) o).drew
  have HE : Hid (∀ o, ErR (w.alloc o).drew E r) := fun o => hE.below (hb0 o)
  have HR : Hid (∀ o, RdI E m (w.alloc o).drew r bs c) := fun o => hr.below (hb0 o)
  have HT := Lib.hid ht
  have HRW := Lib.hid hr.lt
  have HM : Hid (b ≠ [] → m < w.heap.size) := fun h => hr.m_lt (fun e => h (by
    unfold takeL at ht
    rw [e] at ht
    split at ht
    · cases ht; rfl
    · split at ht
      · cases ht; rfl
      · cases ht; simp))
  have hx : x.length ≤ 32 := by have := takeL_le 32 bs c; rw [ht] at this; exact this
  have HX := Lib.hid hx
  have HPL : Hid (((padH x).map bV).toArray.size = 32) := by show _ = _; simp [padH_length hx]
  clear hE hr ht hb0 hx
  go_enter Tryd.func29, Tryd.ntmps29
  go_wp2_with fail
  go_region_with (go_at_call 34; refine (take_is E m 32 32 rfl bs x b c d r _ (HE.out _) (HR.out _) (by omega) HT.out).mono ?_; rintro e w1 ⟨v1, rfl, s1, a1, i1, g1⟩; obtain ⟨sp1, n1, cap1, rfl, hn1, -⟩ := s1.shape'; obtain ⟨w2, hrun, hg2, hb2⟩ := copy_fact s1 hn1 HX.out (hash_row HRW.out g1); have I2 := Lib.hid (i1.at hb2 HRW.out HM.out); have F2 := Lib.hid hg2; have G2 := Lib.hid (hash_end HRW.out g1 hb2); clear s1 a1 i1 g1 hn1 hg2 hb2)
  all_goals
    go_wp2_with ((with_reducible show wpList _ _ _ _ _ _); first | (refine wpList_load_row rfl 24 (.tmp 2) rfl w.heap.size rfl 24 ((padH x).map bV).toArray (0, 0) (.array 32 5) F2.out Tryd.underlying24 rfl (by rw [HPL.out]; kernel_rfl) ?_; go_frame) | (refine wpList_store_row rfl 24 (.tmp 2) (.tmp 7) rfl w.heap.size ((padH x).map bV).toArray rfl rfl 24 _ F2.out (by rw [HPL.out]; kernel_rfl) rfl (bV_one _) ?_; go_frame))
    refine bodyPost_ret (results_cell_row rfl _ _ w.heap.size 24 ((padH x).map bV).toArray (0, 0) (.array 32 5) rfl (setRow_heap _ _ _ _ _ _ F2.out) Tryd.underlying24 rfl (by rw [HPL.out]; kernel_rfl)) rfl ⟨rfl, I2.out.at (below_setRow (Below.refl _ _) (Nat.le_refl _) _) HRW.out HM.out, grown_then G2.out (below_setRow (Below.refl _ _) (Nat.le_refl _) _)⟩
end Go.Proofs.YtlfpjfhpleociaaDoor.Sha
