/-
  The statement on sums of amounts answers true. No conditions.
-/
import Derived.Test.YtdgejdecahdjkaaCmpFirst
import Derived.Test.YtdgejdecahdjkaaCmpSum
namespace Go.Proofs.Ytdgejdecahdjkaa.Sha
open Go Go.RowKit

theorem sum_yes (l : List Nat) (s : Int) (v : Value) (w : World) (hs : SrcU w v l) (hl : l.length ≤ 100) (hm : l.sum ≤ most) (he : ((l.sum : Nat) : Int) = s) :
    Calls Try.prog 6 #[v] w fun e w' => e = .returned (.tuple #[.int .u64 s, .bool true]) ∧ w = w' := by
  have := sum_c l v w hs (by omega)
  rw [sumV_yes hm, he] at this
  exact this
theorem sum_no (l : List Nat) (v : Value) (w : World) (hs : SrcU w v l) (hl : l.length ≤ 100) (hm : ¬ l.sum ≤ most) :
    Calls Try.prog 6 #[v] w fun e w' => e = .returned (.tuple #[.int .u64 0, .bool false]) ∧ w = w' := by
  have := sum_c l v w hs (by omega)
  rw [sumV_no hm] at this
  exact this
theorem src_two (w : World) (T : TypeId) (x y g : Nat) (X Y : Int) (hx : X = (x : Int)) (hy : Y = (y : Int)) (hg : g = w.heap.size) : SrcU (w.alloc (.cells #[.int .u64 X, .int .u64 Y] T)) (.slice (some ⟨g, 0, none⟩) 2 2) [x, y] := by
  subst hg
  subst hx
  subst hy
  refine .inr ⟨by simp, w.heap.size, 0, 2, rfl, by simp, fun j hj => ?_⟩
  rw [cell_of_row _ _ _ _ _ _ (heap_alloc_new w _), Nat.zero_add]
  match j, hj with
  | 0, _ => rfl
  | 1, _ => rfl
theorem src_three (w : World) (T : TypeId) (x y z g : Nat) (X Y Z : Int) (hx : X = (x : Int)) (hy : Y = (y : Int)) (hz : Z = (z : Int)) (hg : g = w.heap.size) : SrcU (w.alloc (.cells #[.int .u64 X, .int .u64 Y, .int .u64 Z] T)) (.slice (some ⟨g, 0, none⟩) 3 3) [x, y, z] := by
  subst hg
  subst hx
  subst hy
  subst hz
  refine .inr ⟨by simp, w.heap.size, 0, 3, rfl, by simp, fun j hj => ?_⟩
  rw [cell_of_row _ _ _ _ _ _ (heap_alloc_new w _), Nat.zero_add]
  match j, hj with
  | 0, _ => rfl
  | 1, _ => rfl
  | 2, _ => rfl

set_option maxHeartbeats 1000000 in
set_option maxRecDepth 100000 in
theorem sums_main (a b : Nat) (w : World) :
    Calls Try.prog 4 #[.int .u64 a, .int .u64 b] w fun e w' => e = .returned (.bool true) ∧ Below w.heap.size w w' := by
  obtain ⟨p, hp⟩ : ∃ p, p = a % 2100000000000001 := ⟨_, rfl⟩
  obtain ⟨q, hq⟩ : ∃ q, q = b % 2100000000000001 := ⟨_, rfl⟩
  obtain ⟨r, hr⟩ : ∃ r, r = 2100000000000000 - p := ⟨_, rfl⟩
  have hpi : (a : Int) % 2100000000000001 = (p : Int) := by omega
  have hqi : (b : Int) % 2100000000000001 = (q : Int) := by omega
  have hpi' : (a : Int).tmod 2100000000000001 = (p : Int) := by rw [Int.tmod_eq_emod_of_nonneg (by omega)]; exact hpi
  have hqi' : (b : Int).tmod 2100000000000001 = (q : Int) := by rw [Int.tmod_eq_emod_of_nonneg (by omega)]; exact hqi
  have hp2 : p ≤ 2100000000000000 := by omega
  have hq2 : q ≤ 2100000000000000 := by omega
  have hri : 2100000000000000 - (p : Int) = (r : Int) := by omega
  have HR : Hid ([p, r].sum = 2100000000000000) := by show _ = _; simp; omega
  have HR3 : Hid (¬ [p, r, 1].sum ≤ most) := by show ¬ _; rw [most_eq]; simp; omega
  have HB : Hid (¬ [9223372036854775808, 9223372036854775808].sum ≤ most) := by show ¬ _; rw [most_eq]; simp
  clear hp hq hr
  by_cases hs : p + q ≤ 2100000000000000
  · have hc : (p : Int) + (q : Int) ≤ 2100000000000000 := by omega
    obtain ⟨s, hse⟩ : ∃ s : Int, s = (p : Int) + (q : Int) := ⟨_, rfl⟩
    have H1 : Hid ([p, q].sum ≤ most ∧ (([p, q].sum : Nat) : Int) = s) := by show _ ∧ _; rw [most_eq]; simp; omega
    have H2 : Hid ([q, p].sum ≤ most ∧ (([q, p].sum : Nat) : Int) = s) := by show _ ∧ _; rw [most_eq]; simp; omega
    have hse2 : (p : Int) + (q : Int) = s := hse.symm
    clear hse
    have hs2 : s ≤ 2100000000000000 := by omega
    clear hc hs
    go_enter Try.func4, Try.ntmps4
    go_wp2_with fail
    refine (first2_any _).mono ?_
    rintro e w1 ⟨rfl, hb1⟩
    have HB1 := Lib.hid hb1
    clear hb1
    go_wp2_with fail
    refine (sum_yes [p, q] s _ _ (src_two _ _ _ _ _ _ _ rfl rfl (by simp)) (by simp) H1.out.1 H1.out.2).mono ?_
    rintro e w' ⟨rfl, rfl⟩
    go_wp2_with fail
    refine (sum_yes [q, p] s _ _ (src_two _ _ _ _ _ _ _ rfl rfl (by simp)) (by simp) H2.out.1 H2.out.2).mono ?_
    rintro e w' ⟨rfl, rfl⟩
    go_wp2_with fail
    refine (sum_yes [p, r] 2100000000000000 _ _ (src_two _ _ _ _ _ _ _ rfl rfl (by simp)) (by simp) (by rw [HR.out, most_eq]; omega) (by rw [HR.out]; rfl)).mono ?_
    rintro e w' ⟨rfl, rfl⟩
    go_wp2_with fail
    refine (sum_no [p, r, 1] _ _ (src_three _ _ _ _ _ _ _ _ _ rfl rfl rfl (by simp)) (by simp) HR3.out).mono ?_
    rintro e w' ⟨rfl, rfl⟩
    go_wp2_with fail
    refine (sum_no [9223372036854775808, 9223372036854775808] _ _ (src_two _ _ _ _ _ _ _ rfl rfl (by simp)) (by simp) HB.out).mono ?_
    rintro e w' ⟨rfl, rfl⟩
    go_wp2_with fail
    refine (sum_yes [] 0 _ _ (.inl ⟨_, _, rfl, rfl⟩) (by simp) (by simp) rfl).mono ?_
    rintro e w' ⟨rfl, rfl⟩
    go_wp2_with fail
    go_ret
    exact ⟨rfl, ((((HB1.out.alloc HB1.out.size _).alloc (by have := HB1.out.size; simp; omega) _).alloc (by have := HB1.out.size; simp; omega) _).alloc (by have := HB1.out.size; simp; omega) _).alloc (by have := HB1.out.size; simp; omega) _⟩
  · have hc : ¬ (p : Int) + (q : Int) ≤ 2100000000000000 := by omega
    have hc' : decide ((p : Int) + (q : Int) ≤ 2100000000000000) = false := by simp; omega
    have H1 : Hid (¬ [p, q].sum ≤ most) := by show ¬ _; rw [most_eq]; simp; omega
    have H2 : Hid (¬ [q, p].sum ≤ most) := by show ¬ _; rw [most_eq]; simp; omega
    clear hs
    go_enter Try.func4, Try.ntmps4
    go_wp2_with fail
    refine (first2_any _).mono ?_
    rintro e w1 ⟨rfl, hb1⟩
    have HB1 := Lib.hid hb1
    clear hb1
    go_wp2_with fail
    refine (sum_no [p, q] _ _ (src_two _ _ _ _ _ _ _ rfl rfl (by simp)) (by simp) H1.out).mono ?_
    rintro e w' ⟨rfl, rfl⟩
    go_wp2_with fail
    refine (sum_no [q, p] _ _ (src_two _ _ _ _ _ _ _ rfl rfl (by simp)) (by simp) H2.out).mono ?_
    rintro e w' ⟨rfl, rfl⟩
    go_wp2_with fail
    refine (sum_yes [p, r] 2100000000000000 _ _ (src_two _ _ _ _ _ _ _ rfl rfl (by simp)) (by simp) (by rw [HR.out, most_eq]; omega) (by rw [HR.out]; rfl)).mono ?_
    rintro e w' ⟨rfl, rfl⟩
    go_wp2_with fail
    refine (sum_no [p, r, 1] _ _ (src_three _ _ _ _ _ _ _ _ _ rfl rfl rfl (by simp)) (by simp) HR3.out).mono ?_
    rintro e w' ⟨rfl, rfl⟩
    go_wp2_with fail
    refine (sum_no [9223372036854775808, 9223372036854775808] _ _ (src_two _ _ _ _ _ _ _ rfl rfl (by simp)) (by simp) HB.out).mono ?_
    rintro e w' ⟨rfl, rfl⟩
    go_wp2_with fail
    refine (sum_yes [] 0 _ _ (.inl ⟨_, _, rfl, rfl⟩) (by simp) (by simp) rfl).mono ?_
    rintro e w' ⟨rfl, rfl⟩
    go_wp2_with fail
    go_ret
    exact ⟨rfl, ((((HB1.out.alloc HB1.out.size _).alloc (by have := HB1.out.size; simp; omega) _).alloc (by have := HB1.out.size; simp; omega) _).alloc (by have := HB1.out.size; simp; omega) _).alloc (by have := HB1.out.size; simp; omega) _⟩
end Go.Proofs.Ytdgejdecahdjkaa.Sha
