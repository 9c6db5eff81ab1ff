/-
  The statements' own SameHash tells whether two digests are the same; Number brings any number into its bound; nothing that was there turns. Conditions: digests of 32 bytes; a bound from 1 on.
-/
import Derived.Test.YtlfpjfhpleociaaDoorBase
namespace Go.Proofs.YtlfpjfhpleociaaDoor.Sha
open Go Go.RowKit
theorem list_eq_of {x y : List UInt8} (hx : x.length = 32) (hy : y.length = 32) (h : ∀ j, j < 32 → x.getD j 0 = y.getD j 0) : x = y := by
  apply List.ext_getElem (by omega)
  intro i h1 h2
  have := h i (by omega)
  simpa [List.getD, List.getElem?_eq_getElem h1, List.getElem?_eq_getElem h2] using this
def SmInv (x y : List UInt8) (w : World) (i : Value) (wr : World) : Prop :=
  ∃ k : Nat, k ≤ 32 ∧ i = .int .i64 k ∧ (∀ j, j < k → x.getD j 0 = y.getD j 0) ∧ wr.heap[w.heap.size]? = some (.cells (x.map bV).toArray 24 (0, 0)) ∧ wr.heap[w.heap.size + 1]? = some (.cells (y.map bV).toArray 24 (0, 0)) ∧ Below w.heap.size w wr
def SmPost (b : Bool) (w : World) (e : Ending) (w' : World) : Prop := e = .returned (.bool b) ∧ Below w.heap.size w w'
set_option maxRecDepth 100000 in
theorem same_any (x y : List UInt8) (hx : x.length = 32) (hy : y.length = 32) (w : World) :
    Calls Tryd.prog 15 #[.agg (x.map bV).toArray, .agg (y.map bV).toArray] w (SmPost (decide (x = y)) w) := by
  have HX := Lib.hid hx
  have HY := Lib.hid hy
  clear hx hy
  go_enter Tryd.func15, Tryd.ntmps15
  go_wp2_with fail
  go_loopw [5] (fun i wr => SmInv x y w i wr) (fun i _ => 32 - (intOf i).toNat)
  case atStart => exact ⟨0, by omega, rfl, fun j hj => by omega, heap_alloc2_old _ _ _, heap_alloc2_new _ _ _, ((Below.refl _ _).alloc (Nat.le_refl _) _).alloc (by simp) _⟩
  case round =>
    obtain ⟨k, hk, rfl, he, h1, h2, hb⟩ := hrel
    have H1 := Lib.hid h1
    have H2 := Lib.hid h2
    have HE := Lib.hid he
    have HB := Lib.hid hb
    by_cases hlt : k < 32
    · obtain ⟨a, ha⟩ : ∃ a, a = x.getD k 0 := ⟨_, rfl⟩
      obtain ⟨b, hb2⟩ : ∃ b, b = y.getD k 0 := ⟨_, rfl⟩
      have c1 : wr.cell? ⟨w.heap.size, k, none⟩ = some (.int .u8 (bv a)) := by rw [cell_of_row _ _ _ _ _ _ h1, bV_get _ _ (by rw [HX.out]; exact hlt), ha]
      have c2 : wr.cell? ⟨w.heap.size + 1, k, none⟩ = some (.int .u8 (bv b)) := by rw [cell_of_row _ _ _ _ _ _ h2, bV_get _ _ (by rw [HY.out]; exact hlt), hb2]
      have p0 : 0 ≤ (k : Int) := by omega
      have q0 : (k : Int) < 32 := by omega
      have HA := Lib.hid ha
      have HB2 := Lib.hid hb2
      clear h1 h2 he hb ha hb2
      by_cases hab : a = b
      · have ht : (bv a == bv b) = true := by rw [bv_beq, decide_eq_true hab]
        have ht' : (bv a != bv b) = false := by simp [bne, ht]
        have HAB := Lib.hid hab
        clear hab
        go_wp2_with fail
        go_quiet (fail)
        go_wp2_with fail
        go_roundw
        case rel =>
          refine ⟨k + 1, by omega, by go_num, fun j hj => ?_, H1.out, H2.out, below_drewN HB.out _⟩
          by_cases hj2 : j < k
          · exact HE.out j hj2
          · obtain rfl : j = k := by omega
            rw [← HA.out, ← HB2.out, HAB.out]
        case measure => simp [intOf]; omega
      · have ht : (bv a == bv b) = false := by rw [bv_beq, decide_eq_false hab]
        have ht' : (bv a != bv b) = true := by simp [bne, ht]
        have HAB := Lib.hid hab
        clear hab
        go_wp2_with fail
        go_quiet (fail)
        go_wp2_with fail
        go_ret
        have hne : x ≠ y := fun e => HAB.out (by rw [HA.out, HB2.out, e])
        exact ⟨by rw [decide_eq_false hne]; rfl, below_drewN HB.out _⟩
    · have hge : ¬ (k : Int) < 32 := by omega
      have hxy : x = y := list_eq_of HX.out HY.out (fun j hj => he j (by omega))
      have HXY := Lib.hid hxy
      clear h1 h2 he hb hxy
      go_wp2_with fail
      go_ret
      exact ⟨by rw [decide_eq_true HXY.out]; rfl, HB.out⟩
end Go.Proofs.YtlfpjfhpleociaaDoor.Sha
