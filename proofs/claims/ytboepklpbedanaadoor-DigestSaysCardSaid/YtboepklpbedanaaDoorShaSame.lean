/-
  The statements' own SameHash tells whether two digests are the same; Number brings any number into its bound; nothing that was there turns. Conditions: digests of 32 bytes; a bound from 1 on.
-/
import Derived.Test.YtboepklpbedanaaDoorShaFirst
namespace Go.Proofs.YtboepklpbedanaaDoor.Sha
open Go Go.RowKit

theorem bv_inj {x y : UInt8} (h : bv x = bv y) : x = y := by
  unfold bv at h
  exact UInt8.toNat_inj.1 (by omega)
theorem bv_beq (x y : UInt8) : (bv x == bv y) = decide (x = y) := by
  by_cases h : x = y
  · subst h; simp
  · rw [decide_eq_false h, beq_eq_false_iff_ne]
    exact fun e => h (bv_inj e)
theorem bV_get (l : List UInt8) (j : Nat) (h : j < l.length) : (l.map bV).toArray[j]? = some (.int .u8 (bv (l.getD j 0))) := by
  simp [bV, List.getD, List.getElem?_eq_getElem h]
theorem list_eq_of {x y : List UInt8} (hx : x.length = 32) (hy : y.length = 32) (h : ∀ j, j < 32 → x.getD j 0 = y.getD j 0) : x = y := by
  apply List.ext_getElem (by omega)
  intro i h1 h2
  have := h i (by omega)
  simpa [List.getD, List.getElem?_eq_getElem h1, List.getElem?_eq_getElem h2] using this

def SmInv (x y : List UInt8) (w : World) (i : Value) (wr : World) : Prop :=
  ∃ k : Nat, k ≤ 32 ∧ i = .int .i64 k ∧ (∀ j, j < k → x.getD j 0 = y.getD j 0) ∧ wr.heap[w.heap.size]? = some (.cells (x.map bV).toArray 25 (0, 0)) ∧ wr.heap[w.heap.size + 1]? = some (.cells (y.map bV).toArray 25 (0, 0)) ∧ Below w.heap.size w wr
def SmPost (b : Bool) (w : World) (e : Ending) (w' : World) : Prop := e = .returned (.bool b) ∧ Below w.heap.size w w'
set_option maxRecDepth 100000 in
theorem same_any (x y : List UInt8) (hx : x.length = 32) (hy : y.length = 32) (w : World) :
    Calls Tryd.prog 11 #[.agg (x.map bV).toArray, .agg (y.map bV).toArray] w (SmPost (decide (x = y)) w) := by
  have HX := Lib.hid hx
  have HY := Lib.hid hy
  clear hx hy
  go_enter Tryd.func11, Tryd.ntmps11
  go_wp2_with fail
  go_loopw [5] (fun i wr => SmInv x y w i wr) (fun i _ => 32 - (intOf i).toNat)
  case atStart => exact ⟨0, by omega, rfl, fun j hj => by omega, heap_alloc2_old _ _ _, heap_alloc2_new _ _ _, ((Below.refl _ _).alloc (Nat.le_refl _) _).alloc (by simp) _⟩
  case round =>
    obtain ⟨k, hk, rfl, he, h1, h2, hb⟩ := hrel
    have H1 := Lib.hid h1
    have H2 := Lib.hid h2
    have HE := Lib.hid he
    have HB := Lib.hid hb
    by_cases hlt : k < 32
    · obtain ⟨a, ha⟩ : ∃ a, a = x.getD k 0 := ⟨_, rfl⟩
      obtain ⟨b, hb2⟩ : ∃ b, b = y.getD k 0 := ⟨_, rfl⟩
      have c1 : wr.cell? ⟨w.heap.size, k, none⟩ = some (.int .u8 (bv a)) := by rw [cell_of_row _ _ _ _ _ _ h1, bV_get _ _ (by rw [HX.out]; exact hlt), ha]
      have c2 : wr.cell? ⟨w.heap.size + 1, k, none⟩ = some (.int .u8 (bv b)) := by rw [cell_of_row _ _ _ _ _ _ h2, bV_get _ _ (by rw [HY.out]; exact hlt), hb2]
      have p0 : 0 ≤ (k : Int) := by omega
      have q0 : (k : Int) < 32 := by omega
      have HA := Lib.hid ha
      have HB2 := Lib.hid hb2
      clear h1 h2 he hb ha hb2
      by_cases hab : a = b
      · have ht : (bv a == bv b) = true := by rw [bv_beq, decide_eq_true hab]
        have ht' : (bv a != bv b) = false := by simp [bne, ht]
        have HAB := Lib.hid hab
        clear hab
        go_wp2_with fail
        go_quiet (fail)
        go_wp2_with fail
        go_roundw
        case rel =>
          refine ⟨k + 1, by omega, by go_num, fun j hj => ?_, H1.out, H2.out, below_drewN HB.out _⟩
          by_cases hj2 : j < k
          · exact HE.out j hj2
          · obtain rfl : j = k := by omega
            rw [← HA.out, ← HB2.out, HAB.out]
        case measure => simp [intOf]; omega
      · have ht : (bv a == bv b) = false := by rw [bv_beq, decide_eq_false hab]
        have ht' : (bv a != bv b) = true := by simp [bne, ht]
        have HAB := Lib.hid hab
        clear hab
        go_wp2_with fail
        go_quiet (fail)
        go_wp2_with fail
        go_ret
        have hne : x ≠ y := fun e => HAB.out (by rw [HA.out, HB2.out, e])
        exact ⟨by rw [decide_eq_false hne]; rfl, below_drewN HB.out _⟩
    · have hge : ¬ (k : Int) < 32 := by omega
      have hxy : x = y := list_eq_of HX.out HY.out (fun j hj => he j (by omega))
      have HXY := Lib.hid hxy
      clear h1 h2 he hb hxy
      go_wp2_with fail
      go_ret
      exact ⟨by rw [decide_eq_true HXY.out]; rfl, HB.out⟩

/-- A number brought into its bound. -/
def numb (x n : Int) : Int := if x.tmod n < 0 then x.tmod n + n else x.tmod n
theorem tmod_bd (x n : Int) (h : 1 ≤ n) : -n < x.tmod n ∧ x.tmod n < n := by
  have h1 := Int.tmod_lt_of_pos x (show 0 < n by omega)
  refine ⟨?_, h1⟩
  by_cases hx : 0 ≤ x
  · have := Int.tmod_nonneg n hx
    omega
  · have h2 := Int.tmod_lt_of_pos (-x) (show 0 < n by omega)
    rw [Int.neg_tmod] at h2
    omega
theorem numb_bd (x n : Int) (h : 1 ≤ n) : 0 ≤ numb x n ∧ numb x n < n := by
  have := tmod_bd x n h
  unfold numb
  split <;> omega
theorem numb_any (x n : Int) (hn : 1 ≤ n) (hn2 : n ≤ 4611686018427387904) (hx : -9223372036854775808 ≤ x ∧ x ≤ 9223372036854775807) (w : World) :
    Calls Tryd.prog 19 #[.int .i64 x, .int .i64 n] w fun e w' => e = .returned (.int .i64 (numb x n)) ∧ w = w' := by
  have hb := tmod_bd x n hn
  obtain ⟨hb1, hb2⟩ := hb
  have hnz : (n == 0) = false := by rw [beq_eq_false_iff_ne]; omega
  have hnz' : ¬ n = 0 := by omega
  obtain ⟨hx1, hx2⟩ := hx
  obtain ⟨m, hm⟩ : ∃ m, x.tmod n = m := ⟨_, rfl⟩
  have hq : numb x n = if m < 0 then m + n else m := by unfold numb; rw [hm]
  rw [hm] at hb1 hb2
  have HQ := Lib.hid hq
  clear hq
  by_cases h : m < 0
  · go_enter Tryd.func19, Tryd.ntmps19
    go_wp2
    go_ret
    exact ⟨by rw [HQ.out, if_pos h]; rfl, rfl⟩
  · go_enter Tryd.func19, Tryd.ntmps19
    go_wp2
    go_ret
    exact ⟨by rw [HQ.out, if_neg (by omega)]; rfl, rfl⟩
end Go.Proofs.YtboepklpbedanaaDoor.Sha
