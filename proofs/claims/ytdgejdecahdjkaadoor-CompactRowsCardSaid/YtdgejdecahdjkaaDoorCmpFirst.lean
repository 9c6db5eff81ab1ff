/-
  The chapter's example holds: the statements' own function 'first' (chapter 2) answers true. No conditions.
-/
import Derived.Test.YtdgejdecahdjkaaDoorCmpPut2
namespace Go.Proofs.YtdgejdecahdjkaaDoor.Sha
open Go Go.RowKit

theorem put_first (w : World) : Calls Tryd.prog 8 #[.slice none 0 0, .int .u64 253] w fun e w' => e = .returned (.slice (some ⟨w.heap.size, 0, none⟩) 3 3) ∧ NewB w w' 3 3 [253, 253, 0] :=
  put_2 [] none 0 0 253 w (.inl ⟨_, _, rfl, rfl⟩) (by omega) (by decide)
set_option maxRecDepth 100000 in
theorem first2_any (w : World) :
    Calls Tryd.prog 7 #[] w fun e w' => e = .returned (.bool true) ∧ Below w.heap.size w w' := by
  have HL : Hid (((lenN 1 : Nat) : Int) = 1) := by show _ = _; decide
  go_enter Tryd.func7, Tryd.ntmps7
  go_wp2_with fail
  refine (put_first _).mono ?_
  rintro e w1 ⟨rfl, h1⟩
  have c0 : w1.cell? ⟨w.heap.size, 0, none⟩ = some (.int .u8 253) := by rw [h1.1.cellAt 0 (by omega)]; rfl
  have c1 : w1.cell? ⟨w.heap.size, 1, none⟩ = some (.int .u8 253) := by rw [h1.1.cellAt 1 (by omega)]; rfl
  have c2 : w1.cell? ⟨w.heap.size, 2, none⟩ = some (.int .u8 0) := by rw [h1.1.cellAt 2 (by omega)]; rfl
  have H1 := Lib.hid h1
  clear h1
  go_wp2_with (go_at_call 9; refine (len_is 1 1 _ HL.out).mono ?_; rintro e w' ⟨rfl, rfl⟩)
  go_ret
  exact ⟨rfl, H1.out.2⟩
end Go.Proofs.YtdgejdecahdjkaaDoor.Sha
