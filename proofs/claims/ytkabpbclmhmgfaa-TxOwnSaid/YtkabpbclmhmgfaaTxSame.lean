/-
  The statements' own SameIn, SameOut tell whether two inputs, two outputs are the same. Nothing that was there turns. Conditions: digests of 32 bytes, keys that lie in memory, fewer than 2^46 bytes.
-/
import Derived.Test.YtkabpbclmhmgfaaTxData
import Derived.Test.YtkabpbclmhmgfaaPtSame
import Derived.Test.YtkabpbclmhmgfaaRefSameB
namespace Go.Proofs.Ytkabpbclmhmgfaa.Sha
open Go Go.RowKit

theorem range_of_box {w : World} {g : Nat} {cs : List Value} {T : TypeId} {fr : Nat × Nat} (h : w.heap[g]? = some (.cells cs.toArray T fr)) : w.rangeAt g 0 cs := fun j v hj => by
  rw [Nat.zero_add, cell_of_row _ _ _ _ _ _ h, List.getElem?_toArray]
  exact hj
/-- Two boxes: what lies where. -/
theorem boxes2 (w : World) (x y : List Value) (T : TypeId) :
    Below w.heap.size w ((w.alloc (.cells x.toArray T (0, 0))).alloc (.cells y.toArray T (0, 0)))
    ∧ ((w.alloc (.cells x.toArray T (0, 0))).alloc (.cells y.toArray T (0, 0))).heap[w.heap.size]? = some (.cells x.toArray T (0, 0))
    ∧ ((w.alloc (.cells x.toArray T (0, 0))).alloc (.cells y.toArray T (0, 0))).heap[w.heap.size + 1]? = some (.cells y.toArray T (0, 0)) :=
  ⟨((Below.refl _ _).alloc (Nat.le_refl _) _).alloc (by simp) _, heap_alloc2_old _ _ _, heap_alloc2_new _ _ _⟩
/-- Are two inputs the same? -/
def sameIn (x y : TIn) : Bool := (decide (x.h = y.h) && decide (x.n = y.n)) && (decide (x.key = y.key) && decide (x.seq = y.seq))
def sameOut (x y : TOut) : Bool := decide (x.val = y.val) && decide (x.lock = y.lock)
theorem sameIn_iff (x y : TIn) : sameIn x y = true ↔ x = y := by
  obtain ⟨a, b, c, d⟩ := x
  obtain ⟨a', b', c', d'⟩ := y
  simp [sameIn, and_assoc]
theorem sameOut_iff (x y : TOut) : sameOut x y = true ↔ x = y := by
  obtain ⟨a, b⟩ := x
  obtain ⟨a', b'⟩ := y
  simp [sameOut]
set_option maxRecDepth 100000 in
theorem samein_any (x y : TIn) (kx ky : Value) (hx : InOk x) (hy : InOk y) (w : World) (k1 : KeyAt w kx x.key) (k2 : KeyAt w ky y.key) (hl : x.key.length ≤ 70368744177664) (b : Bool) (hb : b = sameIn x y) :
    Calls Try.prog 13 #[.agg (inL x kx).toArray, .agg (inL y ky).toArray] w fun e w' => e = .returned (.bool b) ∧ Below w.heap.size w w' := by
  obtain ⟨sx, cx, hkx⟩ := k1.2
  obtain ⟨sy, cy, hky⟩ := k2.2
  have hm : (ptL x.h x.n).length = 33 := by rw [ptL_length, hx.1]
  have hm' : (ptL y.h y.n).length = 33 := by rw [ptL_length, hy.1]
  have HM := Lib.hid hm
  have HM' := Lib.hid hm'
  have HX := Lib.hid hx
  have HY := Lib.hid hy
  have HB := Lib.hid hb
  have HKX := Lib.hid hkx
  have HKY := Lib.hid hky
  have K1 := Lib.hid k1
  have K2 := Lib.hid k2
  have HLN : Hid (x.key.length ≤ 70368744177680) := by show _ ≤ _; omega
  clear hx hy hb hm hm' hkx hky k1 k2 hl
  go_enter Try.func13, Try.ntmps13
  go_upto_region 1 with fail
  obtain ⟨B, F, F'⟩ := boxes2 w (inL x kx) (inL y ky) 36
  generalize hw1 : World.alloc _ _ = w1
  rw [hw1] at B F F'
  have B := Lib.hid B
  have F := Lib.hid F
  have F' := Lib.hid F'
  clear hw1
  go_wp2_with ((with_reducible show wpList _ _ _ _ _ _); first | (refine wpList_load_mid rfl 33 (.tmp 5) rfl w.heap.size 0 rfl (ptL x.h x.n) _ (in_pt (range_of_box F.out)) Try.underlying33 rfl (by rw [HM.out]; kernel_rfl) ?_; go_frame) | (refine wpList_load_mid rfl 33 (.tmp 7) rfl (w.heap.size + 1) 0 rfl (ptL y.h y.n) _ (in_pt (range_of_box F'.out)) Try.underlying33 rfl (by rw [HM'.out]; kernel_rfl) ?_; go_frame))
  refine (samept_any x.h y.h x.n y.n HX.out.1 HY.out.1 _ rfl _).mono ?_
  rintro e w2 ⟨rfl, hb2⟩
  have c1 : w2.cell? ⟨w.heap.size, 33, none⟩ = some (.slice sx x.key.length cx) := by have := in_key HX.out.1 (range_of_box (row_below F.out hb2)); rw [HKX.out, Nat.zero_add] at this; exact this
  have c2 : w2.cell? ⟨w.heap.size + 1, 33, none⟩ = some (.slice sy y.key.length cy) := by have := in_key HY.out.1 (range_of_box (row_below F'.out hb2)); rw [HKY.out, Nat.zero_add] at this; exact this
  have B2 := Lib.hid (B.out.trans (hb2.mono B.out.size))
  have F2 := Lib.hid (row_below F.out hb2)
  have F2' := Lib.hid (row_below F'.out hb2)
  clear hb2 F F' B
  obtain ⟨p, hp⟩ : ∃ p, p = (decide (x.h = y.h) && decide (x.n = y.n)) := ⟨_, rfl⟩
  rw [← hp]
  have HP := Lib.hid hp
  clear hp
  cases p
  · clear c1 c2
    go_wp2_with fail
    go_ret
    exact ⟨by rw [HB.out, sameIn, ← HP.out]; rfl, B2.out⟩
  · go_wp2_with fail
    have hs1 : SrcB w2 (.slice sx x.key.length cx) x.key := by rw [← HKX.out]; exact K1.out.1.below B2.out
    have hs2 : SrcB w2 (.slice sy y.key.length cy) y.key := by rw [← HKY.out]; exact K2.out.1.below B2.out
    refine (same_bytes_v x.key y.key _ _ _ w2 hs1 hs2 rfl HLN.out).mono ?_
    rintro e w3 ⟨rfl, hb3⟩
    have d1 : w3.cell? ⟨w.heap.size, 34, none⟩ = some (.int .u32 (x.seq : Int)) := by have := in_seq HX.out.1 (range_of_box (row_below F2.out hb3)); rw [Nat.zero_add] at this; exact this
    have d2 : w3.cell? ⟨w.heap.size + 1, 34, none⟩ = some (.int .u32 (y.seq : Int)) := by have := in_seq HY.out.1 (range_of_box (row_below F2'.out hb3)); rw [Nat.zero_add] at this; exact this
    have B3 := Lib.hid (B2.out.trans (hb3.mono B2.out.size))
    clear hb3 c1 c2 hs1 hs2
    obtain ⟨q, hq⟩ : ∃ q, q = decide (x.key = y.key) := ⟨_, rfl⟩
    rw [← hq]
    have HQ := Lib.hid hq
    clear hq
    cases q
    · clear d1 d2
      go_wp2_with fail
      go_ret
      exact ⟨by rw [HB.out, sameIn, ← HP.out, ← HQ.out]; rfl, B3.out⟩
    · go_wp2_with fail
      go_ret
      refine ⟨?_, B3.out⟩
      rw [HB.out, sameIn, ← HP.out, ← HQ.out]
      show Ending.returned (Value.bool ((x.seq : Int) == (y.seq : Int))) = _
      congr 2
      rw [Bool.eq_iff_iff]
      simp
      omega
set_option maxRecDepth 100000 in
theorem sameout_any (x y : TOut) (hx : OutOk x) (hy : OutOk y) (w : World) (b : Bool) (hb : b = sameOut x y) :
    Calls Try.prog 14 #[.agg (outL x).toArray, .agg (outL y).toArray] w fun e w' => e = .returned (.bool b) ∧ Below w.heap.size w w' := by
  have hm : (x.lock.map bV).length = 32 := by rw [List.length_map, hx.1]
  have hm' : (y.lock.map bV).length = 32 := by rw [List.length_map, hy.1]
  have HM := Lib.hid hm
  have HM' := Lib.hid hm'
  have HX := Lib.hid hx
  have HY := Lib.hid hy
  have HB := Lib.hid hb
  clear hx hy hb hm hm'
  go_enter Try.func14, Try.ntmps14
  go_upto_region 1 with fail
  obtain ⟨B, F, F'⟩ := boxes2 w (outL x) (outL y) 39
  generalize hw1 : World.alloc _ _ = w1
  rw [hw1] at B F F'
  have c1 : w1.cell? ⟨w.heap.size, 0, none⟩ = some (.int .u64 (x.val : Int)) := out_val (range_of_box F)
  have c2 : w1.cell? ⟨w.heap.size + 1, 0, none⟩ = some (.int .u64 (y.val : Int)) := out_val (range_of_box F')
  have B := Lib.hid B
  have F := Lib.hid F
  have F' := Lib.hid F'
  clear hw1
  by_cases hv : x.val = y.val
  · have ht : ((x.val : Int) == (y.val : Int)) = true := by rw [beq_iff_eq]; omega
    have HV := Lib.hid hv
    clear hv
    go_wp2_with ((with_reducible show wpList _ _ _ _ _ _); first | (refine wpList_load_midG 31 (.tmp 11) rfl w.heap.size 1 rfl (x.lock.map bV) _ (by have := out_lock (range_of_box F.out); rw [Nat.zero_add] at this; exact this) Try.underlying31 rfl (by rw [HM.out]; kernel_rfl) rfl ?_; go_frame) | (refine wpList_load_midG 31 (.tmp 13) rfl (w.heap.size + 1) 1 rfl (y.lock.map bV) _ (by have := out_lock (range_of_box F'.out); rw [Nat.zero_add] at this; exact this) Try.underlying31 rfl (by rw [HM'.out]; kernel_rfl) rfl ?_; go_frame))
    refine (same_b x.lock y.lock HX.out.1 HY.out.1 _ rfl _).mono ?_
    rintro e w2 ⟨rfl, hb2⟩
    have B2 := Lib.hid (B.out.trans (hb2.mono B.out.size))
    clear hb2 c1 c2
    go_wp2_with fail
    go_ret
    exact ⟨by rw [HB.out, sameOut, decide_eq_true HV.out, Bool.true_and]; rfl, B2.out⟩
  · have ht : ((x.val : Int) == (y.val : Int)) = false := by rw [beq_eq_false_iff_ne]; omega
    have HV := Lib.hid hv
    clear hv
    go_wp2_with fail
    go_ret
    exact ⟨by rw [HB.out, sameOut, decide_eq_false HV.out]; rfl, B.out⟩
end Go.Proofs.Ytkabpbclmhmgfaa.Sha
