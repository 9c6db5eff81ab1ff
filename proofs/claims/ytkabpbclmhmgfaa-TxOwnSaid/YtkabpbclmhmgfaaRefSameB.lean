/-
  The statements' own SameBytes tells whether two texts are the same; nothing that was there turns. Condition: the bytes lie where the slices say.
-/
import Derived.Test.YtkabpbclmhmgfaaBase
namespace Go.Proofs.Ytkabpbclmhmgfaa.Sha
open Go Go.RowKit

theorem bytes_eq_of {x y : List UInt8} (hl : x.length = y.length) (h : ∀ j, j < x.length → x.getD j 0 = y.getD j 0) : x = y := by
  apply List.ext_getElem hl
  intro i h1 h2
  have := h i h1
  simpa [List.getD, List.getElem?_eq_getElem h1, List.getElem?_eq_getElem h2] using this
def SbInv (x y : List UInt8) (n : Nat) (w : World) (i : Value) (wr : World) : Prop :=
  ∃ k : Nat, k ≤ n ∧ i = .int .i64 k ∧ (∀ j, j < k → x.getD j 0 = y.getD j 0) ∧ Below w.heap.size w wr
def BoolPost (b : Bool) (w : World) (e : Ending) (w' : World) : Prop := e = .returned (.bool b) ∧ Below w.heap.size w w'
set_option maxRecDepth 100000 in
theorem same_bytes (x y : List UInt8) (s1 s2 : Option Addr) (n m c1 c2 : Nat) (w : World) (h1 : SrcB w (.slice s1 n c1) x) (h2 : SrcB w (.slice s2 m c2) y) (hn : n ≤ 70368744177680) :
    Calls Try.prog 21 #[.slice s1 n c1, .slice s2 m c2] w (BoolPost (decide (x = y)) w) := by
  have hx := h1.le.1
  have hy := h2.le.1
  by_cases hnm : n = m
  · subst hnm
    by_cases h0 : n = 0
    · subst h0
      obtain rfl : x = [] := List.eq_nil_of_length_eq_zero hx.symm
      obtain rfl : y = [] := List.eq_nil_of_length_eq_zero hy.symm
      clear h1 h2 hx hy
      go_enter Try.func21, Try.ntmps21
      go_wp2_with fail
      refine wp_loop_rounds 1 ?_
      rw [rounds_succ]
      go_wp2_with fail
      go_ret
      exact ⟨rfl, Below.refl _ _⟩
    · rcases h1 with ⟨_, _, hv, rfl⟩ | ⟨hx0, b1, o1, k1, hv, _, hc1⟩
      · cases hv; exact absurd rfl h0
      cases hv
      rcases h2 with ⟨_, _, hv, rfl⟩ | ⟨hy0, b2, o2, k2, hv, _, hc2⟩
      · exact absurd hy h0
      have hb1 := SrcB.block hx0 hc1
      have hb2 := SrcB.block hy0 hc2
      obtain ⟨n, hnx⟩ : ∃ n, n = x.length := ⟨_, rfl⟩
      rw [← hnx] at hn hy hc1 hx0 h0 ⊢
      have hv2 : s2 = some ⟨b2, o2, none⟩ := by simp at hv; exact hv.1
      have hv3 : c2 = k2 := by simp at hv; exact hv.2.2
      subst hv2
      subst hv3
      clear hv
      rw [← hy] at hc2 hy0
      have HX := Lib.hid hnx
      have HY := Lib.hid hy
      have HC1 := Lib.hid hc1
      have HC2 := Lib.hid hc2
      clear hnx hy hc1 hc2 hx
      go_enter Try.func21, Try.ntmps21
      go_wp2_with fail
      go_loopw [5] (fun i wr => SbInv x y n w i wr) (fun i _ => n - (intOf i).toNat)
      case atStart => exact ⟨0, by omega, rfl, fun j hj => by omega, Below.refl _ _⟩
      case round =>
        obtain ⟨k, hk, rfl, he, hb⟩ := hrel
        have HE := Lib.hid he
        have HB := Lib.hid hb
        clear he hb
        by_cases hlt : k < n
        · obtain ⟨a, ha⟩ : ∃ a, a = x.getD k 0 := ⟨_, rfl⟩
          obtain ⟨b, hb⟩ : ∃ b, b = y.getD k 0 := ⟨_, rfl⟩
          have t1 : wr.cell? ⟨b1, o1 + k, none⟩ = some (.int .u8 (bv a)) := by rw [HB.out.cell (p := ⟨b1, o1 + k, none⟩) hb1, ha]; exact HC1.out k hlt
          have t2 : wr.cell? ⟨b2, o2 + k, none⟩ = some (.int .u8 (bv b)) := by rw [HB.out.cell (p := ⟨b2, o2 + k, none⟩) hb2, hb]; exact HC2.out k hlt
          have p0 : 0 ≤ (k : Int) := by omega
          have q0 : (k : Int) < n := by omega
          have HA := Lib.hid ha
          have HB2 := Lib.hid hb
          clear ha hb
          by_cases hab : a = b
          · have ht : (bv a == bv b) = true := by rw [bv_beq, decide_eq_true hab]
            have HAB := Lib.hid hab
            clear hab
            go_wp2_with fail
            go_quiet (fail)
            go_wp2_with fail
            go_roundw
            case rel =>
              refine ⟨k + 1, by omega, by go_num, fun j hj => ?_, below_drewN HB.out _⟩
              by_cases hj2 : j < k
              · exact HE.out j hj2
              · obtain rfl : j = k := by omega
                rw [← HA.out, ← HB2.out, HAB.out]
            case measure => simp [intOf]; omega
          · have ht : (bv a == bv b) = false := by rw [bv_beq, decide_eq_false hab]
            have HAB := Lib.hid hab
            clear hab
            go_wp2_with fail
            go_quiet (fail)
            go_wp2_with fail
            go_ret
            have hne : x ≠ y := fun e => HAB.out (by rw [HA.out, HB2.out, e])
            exact ⟨by rw [decide_eq_false hne]; rfl, below_drewN HB.out _⟩
        · have hge : ¬ (k : Int) < n := by omega
          have hxy : x = y := bytes_eq_of (by rw [← HX.out, ← HY.out]) (fun j hj => HE.out j (by rw [← HX.out] at hj; omega))
          have HXY := Lib.hid hxy
          clear hxy
          go_wp2_with fail
          go_ret
          exact ⟨by rw [decide_eq_true HXY.out]; rfl, HB.out⟩
  · have hne : x ≠ y := fun e => hnm (by rw [hx, hy, e])
    have ht : ((n : Int) == (m : Int)) = false := by rw [beq_eq_false_iff_ne]; omega
    have ht' : ((n : Int) != (m : Int)) = true := by simp [bne, ht]
    have HNE := Lib.hid hne
    clear hne hx hy h1 h2 hnm
    go_enter Try.func21, Try.ntmps21
    go_wp2_with fail
    go_ret
    exact ⟨by rw [decide_eq_false HNE.out]; rfl, Below.refl _ _⟩
theorem same_bytes_v (x y : List UInt8) (v1 v2 : Value) (b : Bool) (w : World) (h1 : SrcB w v1 x) (h2 : SrcB w v2 y) (hb : b = decide (x = y)) (hn : x.length ≤ 70368744177680) :
    Calls Try.prog 21 #[v1, v2] w fun e w' => e = .returned (.bool b) ∧ Below w.heap.size w w' := by
  obtain ⟨s1, c1, rfl⟩ := h1.shape
  obtain ⟨s2, c2, rfl⟩ := h2.shape
  rw [hb]
  exact same_bytes x y s1 s2 _ _ c1 c2 w h1 h2 hn
theorem same_bytes_t (x : List UInt8) (v1 v2 : Value) (w : World) (h1 : SrcB w v1 x) (h2 : SrcB w v2 x) (hn : x.length ≤ 70368744177680) :
    Calls Try.prog 21 #[v1, v2] w fun e w' => e = .returned (.bool true) ∧ Below w.heap.size w w' :=
  same_bytes_v x x v1 v2 true w h1 h2 (decide_eq_true rfl).symm hn
end Go.Proofs.Ytkabpbclmhmgfaa.Sha
