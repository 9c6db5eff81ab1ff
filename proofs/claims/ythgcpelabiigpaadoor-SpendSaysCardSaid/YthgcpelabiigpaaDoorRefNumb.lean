/-
  The statements' own Number brings any number into its bound; nothing that was there turns. Condition: a bound from 1 on.
-/
import Derived.Test.YthgcpelabiigpaaDoorBase
namespace Go.Proofs.YthgcpelabiigpaaDoor.Sha
open Go Go.RowKit

theorem numb_any (x n : Int) (hn : 1 ≤ n) (hn2 : n ≤ 4611686018427387904) (hx : -9223372036854775808 ≤ x ∧ x ≤ 9223372036854775807) (w : World) :
    Calls Tryd.prog 20 #[.int .i64 x, .int .i64 n] w fun e w' => e = .returned (.int .i64 (numb x n)) ∧ w = w' := by
  have hb := tmod_bd x n hn
  obtain ⟨hb1, hb2⟩ := hb
  have hnz : (n == 0) = false := by rw [beq_eq_false_iff_ne]; omega
  have hnz' : ¬ n = 0 := by omega
  obtain ⟨hx1, hx2⟩ := hx
  obtain ⟨m, hm⟩ : ∃ m, x.tmod n = m := ⟨_, rfl⟩
  have hq : numb x n = if m < 0 then m + n else m := by unfold numb; rw [hm]
  rw [hm] at hb1 hb2
  have HQ := Lib.hid hq
  clear hq
  by_cases h : m < 0
  · go_enter Tryd.func20, Tryd.ntmps20
    go_wp2
    go_ret
    exact ⟨by rw [HQ.out, if_pos h]; rfl, rfl⟩
  · go_enter Tryd.func20, Tryd.ntmps20
    go_wp2
    go_ret
    exact ⟨by rw [HQ.out, if_neg (by omega)]; rfl, rfl⟩
end Go.Proofs.YthgcpelabiigpaaDoor.Sha
