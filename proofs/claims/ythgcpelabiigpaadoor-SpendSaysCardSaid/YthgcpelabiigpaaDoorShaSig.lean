/-
  The small turning functions of package digest answer what the chapter says of them, for every word. No conditions.
-/
import Derived.WalkKit
import Derived.Deep.Light
import Derived.Test.YthgcpelabiigpaaDoorShaMath
import Derived.Test.YthgcpelabiigpaaDoorProg
namespace Go.Proofs.YthgcpelabiigpaaDoor.Sha
open Go Go.RowKit

theorem rot_any (x : UInt32) (n : Nat) (k : Int) (hk : k = -(n : Int)) (h1 : 1 ≤ n) (h2 : n ≤ 31) (w : World) :
    Calls Tryd.prog 41 #[.int .u32 (wv x), .int .i64 k] w fun e w' => e = .returned (.int .u32 (wv (rotr x n))) ∧ w = w' := by
  subst hk
  have hl := low5 n h1 h2
  go_enter Tryd.func41, Tryd.ntmps41
  go_wp2
  go_ret
  exact ⟨ret_int (rot_fact x n h1 h2), rfl⟩
theorem turn_any (x : UInt32) (n : Nat) (k : Int) (hk : k = (n : Int)) (h1 : 1 ≤ n) (h2 : n ≤ 31) (w : World) :
    Calls Tryd.prog 40 #[.int .u32 (wv x), .int .i64 k] w fun e w' => e = .returned (.int .u32 (wv (rotr x n))) ∧ w = w' := by
  subst hk
  go_enter Tryd.func40, Tryd.ntmps40
  go_wp2_with fail
  refine (rot_any x n _ rfl h1 h2 _).mono ?_
  rintro e w' ⟨rfl, rfl⟩
  go_wp2_with fail
  go_ret
  exact ⟨rfl, rfl⟩
section
attribute [local go_sem] wv_xor wv_shr3 wv_shr10
theorem sS0_any (x : UInt32) (w : World) :
    Calls Tryd.prog 39 #[.int .u32 (wv x)] w fun e w' => e = .returned (.int .u32 (wv (sS0 x))) ∧ w = w' := by
  go_enter Tryd.func39, Tryd.ntmps39
  go_wp2_with fail
  refine (turn_any x 7 _ rfl (by omega) (by omega) _).mono ?_
  rintro e w' ⟨rfl, rfl⟩
  go_wp2_with fail
  refine (turn_any x 18 _ rfl (by omega) (by omega) _).mono ?_
  rintro e w' ⟨rfl, rfl⟩
  go_wp2_with fail
  go_ret
  exact ⟨rfl, rfl⟩
theorem sS1_any (x : UInt32) (w : World) :
    Calls Tryd.prog 38 #[.int .u32 (wv x)] w fun e w' => e = .returned (.int .u32 (wv (sS1 x))) ∧ w = w' := by
  go_enter Tryd.func38, Tryd.ntmps38
  go_wp2_with fail
  refine (turn_any x 17 _ rfl (by omega) (by omega) _).mono ?_
  rintro e w' ⟨rfl, rfl⟩
  go_wp2_with fail
  refine (turn_any x 19 _ rfl (by omega) (by omega) _).mono ?_
  rintro e w' ⟨rfl, rfl⟩
  go_wp2_with fail
  go_ret
  exact ⟨rfl, rfl⟩
theorem bS0_any (x : UInt32) (w : World) :
    Calls Tryd.prog 37 #[.int .u32 (wv x)] w fun e w' => e = .returned (.int .u32 (wv (bS0 x))) ∧ w = w' := by
  go_enter Tryd.func37, Tryd.ntmps37
  go_wp2_with fail
  refine (turn_any x 2 _ rfl (by omega) (by omega) _).mono ?_
  rintro e w' ⟨rfl, rfl⟩
  go_wp2_with fail
  refine (turn_any x 13 _ rfl (by omega) (by omega) _).mono ?_
  rintro e w' ⟨rfl, rfl⟩
  go_wp2_with fail
  refine (turn_any x 22 _ rfl (by omega) (by omega) _).mono ?_
  rintro e w' ⟨rfl, rfl⟩
  go_wp2_with fail
  go_ret
  exact ⟨rfl, rfl⟩
theorem bS1_any (x : UInt32) (w : World) :
    Calls Tryd.prog 36 #[.int .u32 (wv x)] w fun e w' => e = .returned (.int .u32 (wv (bS1 x))) ∧ w = w' := by
  go_enter Tryd.func36, Tryd.ntmps36
  go_wp2_with fail
  refine (turn_any x 6 _ rfl (by omega) (by omega) _).mono ?_
  rintro e w' ⟨rfl, rfl⟩
  go_wp2_with fail
  refine (turn_any x 11 _ rfl (by omega) (by omega) _).mono ?_
  rintro e w' ⟨rfl, rfl⟩
  go_wp2_with fail
  refine (turn_any x 25 _ rfl (by omega) (by omega) _).mono ?_
  rintro e w' ⟨rfl, rfl⟩
  go_wp2_with fail
  go_ret
  exact ⟨rfl, rfl⟩
end
end Go.Proofs.YthgcpelabiigpaaDoor.Sha
