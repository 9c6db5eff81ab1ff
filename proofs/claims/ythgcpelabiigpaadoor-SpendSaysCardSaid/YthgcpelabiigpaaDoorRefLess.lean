/-
  The statements' own order of digests, LessHash. Nothing that was there turns. Condition: digests of 32 bytes.
-/
import Derived.Test.YthgcpelabiigpaaDoorShaCmp
namespace Go.Proofs.YthgcpelabiigpaaDoor.Sha
open Go Go.RowKit

theorem lessL_at : ∀ (k : Nat) (l m : List UInt8), (∀ j, j < k → l.getD j 0 = m.getD j 0) → k < l.length → k < m.length → l.getD k 0 ≠ m.getD k 0 → lessL l m = decide (l.getD k 0 < m.getD k 0)
  | 0, x :: l, y :: m, _, _, _, h => by
    have h' : x ≠ y := h
    rw [less_cons, decide_eq_false h']
    simp
  | k + 1, x :: l, y :: m, hp, hl, hm, h => by
    have h0 : x = y := hp 0 (by omega)
    subst h0
    rw [less_cons, lessL_at k l m (fun j hj => hp (j + 1) (by omega)) (by simpa using hl) (by simpa using hm) h]
    simp
def LsInv (x y : List UInt8) (w : World) (i : Value) (wr : World) : Prop :=
  ∃ k : Nat, k ≤ 32 ∧ i = .int .i64 k ∧ (∀ j, j < k → x.getD j 0 = y.getD j 0) ∧ wr.heap[w.heap.size]? = some (.cells (x.map bV).toArray 24 (0, 0)) ∧ wr.heap[w.heap.size + 1]? = some (.cells (y.map bV).toArray 24 (0, 0)) ∧ Below w.heap.size w wr
theorem bv_lt (x y : UInt8) : decide (bv x < bv y) = decide (x < y) := by
  unfold bv
  by_cases h : x < y
  · rw [decide_eq_true h, decide_eq_true (by rw [UInt8.lt_iff_toNat_lt] at h; omega)]
  · rw [decide_eq_false h, decide_eq_false (by rw [UInt8.lt_iff_toNat_lt] at h; omega)]
set_option maxRecDepth 100000 in
theorem ref_less (x y : List UInt8) (hx : x.length = 32) (hy : y.length = 32) (w : World) :
    Calls Tryd.prog 25 #[.agg (x.map bV).toArray, .agg (y.map bV).toArray] w (SmPost (lessL x y) w) := by
  have HX := Lib.hid hx
  have HY := Lib.hid hy
  clear hx hy
  go_enter Tryd.func25, Tryd.ntmps25
  go_wp2_with fail
  go_loopw [5] (fun i wr => LsInv x y w i wr) (fun i _ => 32 - (intOf i).toNat)
  case atStart => exact ⟨0, by omega, rfl, fun j hj => by omega, heap_alloc2_old _ _ _, heap_alloc2_new _ _ _, ((Below.refl _ _).alloc (Nat.le_refl _) _).alloc (by simp) _⟩
  case round =>
    obtain ⟨k, hk, rfl, he, h1, h2, hb⟩ := hrel
    have H1 := Lib.hid h1
    have H2 := Lib.hid h2
    have HE := Lib.hid he
    have HB := Lib.hid hb
    by_cases hlt : k < 32
    · obtain ⟨a, ha⟩ : ∃ a, a = x.getD k 0 := ⟨_, rfl⟩
      obtain ⟨b, hb2⟩ : ∃ b, b = y.getD k 0 := ⟨_, rfl⟩
      have c1 : wr.cell? ⟨w.heap.size, k, none⟩ = some (.int .u8 (bv a)) := by rw [cell_of_row _ _ _ _ _ _ h1, bV_get _ _ (by rw [HX.out]; exact hlt), ha]
      have c2 : wr.cell? ⟨w.heap.size + 1, k, none⟩ = some (.int .u8 (bv b)) := by rw [cell_of_row _ _ _ _ _ _ h2, bV_get _ _ (by rw [HY.out]; exact hlt), hb2]
      have p0 : 0 ≤ (k : Int) := by omega
      have q0 : (k : Int) < 32 := by omega
      have HA := Lib.hid ha
      have HB2 := Lib.hid hb2
      clear h1 h2 he hb ha hb2
      by_cases hab : a = b
      · have ht : (bv a == bv b) = true := by rw [bv_beq, decide_eq_true hab]
        have ht' : (bv a != bv b) = false := by simp [bne, ht]
        have HAB := Lib.hid hab
        clear hab
        go_wp2_with fail
        go_quiet (fail)
        go_wp2_with fail
        go_roundw
        case rel =>
          refine ⟨k + 1, by omega, by go_num, fun j hj => ?_, H1.out, H2.out, below_drewN HB.out _⟩
          by_cases hj2 : j < k
          · exact HE.out j hj2
          · obtain rfl : j = k := by omega
            rw [← HA.out, ← HB2.out, HAB.out]
        case measure => simp [intOf]; omega
      · have ht : (bv a == bv b) = false := by rw [bv_beq, decide_eq_false hab]
        have ht' : (bv a != bv b) = true := by simp [bne, ht]
        have hless : lessL x y = decide (a < b) := by
          have h := lessL_at k x y HE.out (by rw [HX.out]; exact hlt) (by rw [HY.out]; exact hlt) (by rw [← HA.out, ← HB2.out]; exact hab)
          rw [← HA.out, ← HB2.out] at h
          exact h
        have HLS := Lib.hid hless
        clear hab hless
        go_wp2_with fail
        go_quiet (fail)
        go_wp2_with fail
        generalize hwk : World.drewN _ _ = wk
        have d1 : wk.cell? ⟨w.heap.size, k, none⟩ = some (.int .u8 (bv a)) := by rw [← hwk]; exact c1
        have d2 : wk.cell? ⟨w.heap.size + 1, k, none⟩ = some (.int .u8 (bv b)) := by rw [← hwk]; exact c2
        have HW := Lib.hid (show Below w.heap.size w wk by rw [← hwk]; exact below_drewN HB.out _)
        clear hwk c1 c2
        go_quiet (fail)
        go_wp2_with fail
        go_ret
        exact ⟨by rw [HLS.out, ← bv_lt]; rfl, below_drewN HW.out _⟩
    · have hge : ¬ (k : Int) < 32 := by omega
      have hxy : x = y := list_eq_of HX.out HY.out (fun j hj => he j (by omega))
      have HXY := Lib.hid hxy
      clear h1 h2 he hb hxy
      go_wp2_with fail
      go_ret
      exact ⟨by rw [HXY.out, less_self]; rfl, HB.out⟩
end Go.Proofs.YthgcpelabiigpaaDoor.Sha
