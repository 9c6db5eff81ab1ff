/-
  Small functions of the statements' own SHA-256: a word turned right, the table of the rounds' words, as the chapter gives them. No conditions.
-/
import Derived.Test.YthgcpelabiigpaaDoorShaCopy
import Derived.Test.YthgcpelabiigpaaDoorShaSum
namespace Go.Proofs.YthgcpelabiigpaaDoor.Sha
open Go Go.RowKit

theorem right_fact (x : UInt32) (n : Nat) (h1 : 1 ≤ n) (h2 : n ≤ 31) : bits .or .u32 (wv x / 2 ^ n) (wv x * 2 ^ (32 - n) % 4294967296) = wv (rotr x n) := by
  rw [← IntKind.wrap_u32', wv_shl x _ (by omega), wv_shr x n (by omega), wv_or]
  rfl
theorem right_any (x : UInt32) (n : Nat) (k : Int) (hk : k = (n : Int)) (h1 : 1 ≤ n) (h2 : n ≤ 31) (w : World) :
    Calls Tryd.prog 22 #[.int .u32 (wv x), .int .u64 k] w fun e w' => e = .returned (.int .u32 (wv (rotr x n))) ∧ w = w' := by
  subst hk
  go_enter Tryd.func22, Tryd.ntmps22
  go_wp2
  go_ret
  exact ⟨ret_int (right_fact x n h1 h2), rfl⟩
theorem right_z (x : UInt32) (k : Int) (h1 : 1 ≤ k) (h2 : k ≤ 31) (w : World) :
    Calls Tryd.prog 22 #[.int .u32 (wv x), .int .u64 k] w fun e w' => e = .returned (.int .u32 (wv (rotr x k.toNat))) ∧ w = w' :=
  right_any x k.toNat k (by omega) (by omega) (by omega) w
theorem wv_sum3 (a b c : UInt32) : (wv a + wv b + wv c) % 4294967296 = wv (a + b + c) := by rw [← wv_sum, ← wv_sum]; omega
theorem wv_sum4 (a b c d : UInt32) : (wv a + wv b + wv c + wv d) % 4294967296 = wv (a + b + c + d) := by rw [← wv_sum, ← wv_sum3]; omega
theorem wv_not (x : UInt32) : bits .xor .u32 IntKind.u32.max (wv x) = wv (~~~x) := by
  rw [show IntKind.u32.max = wv 4294967295 from rfl, wv_xor, show (4294967295 : UInt32) = -1 from rfl, UInt32.neg_one_xor]
set_option maxRecDepth 100000 in
theorem k_any (w : World) : Calls Tryd.prog 21 #[] w fun e w' => e = .returned (.slice (some ⟨w.heap.size, 0, none⟩) 64 64) ∧ w'.heap[w.heap.size]? = some (.cells (kList.map wV).toArray 25 (0, 0)) ∧ Below w.heap.size w w' := by
  go_enter Tryd.func21, Tryd.ntmps21
  go_wp2
  go_ret
  exact ⟨rfl, by rw [heap_alloc_new]; rfl, (Below.refl _ _).alloc (Nat.le_refl _) _⟩
end Go.Proofs.YthgcpelabiigpaaDoor.Sha
