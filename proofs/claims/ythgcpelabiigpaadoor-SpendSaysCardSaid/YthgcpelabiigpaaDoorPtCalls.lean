/-
  The place that is none, spend.Null and the statements' own, is 32 bytes of 0 and the number 0xffffffff; IsNull tells it. Nothing that was there turns. Condition: a digest of 32 bytes.
-/
import Derived.Great.BuildSlice
import Derived.Test.YthgcpelabiigpaaDoorPt
namespace Go.Proofs.YthgcpelabiigpaaDoor.Sha
open Go Go.RowKit

set_option maxRecDepth 100000 in
theorem null_any (w : World) :
    Calls Tryd.prog 16 #[] w fun e w' => e = .returned (.agg nullL.toArray) ∧ Below w.heap.size w w' := by
  go_enter Tryd.func16, Tryd.ntmps16
  go_wp2_with ((with_reducible show wpList _ _ _ _ _ _); first | (refine wpList_buildTo rfl 27 _ rfl _ rfl nullL.toArray (by kernel_rfl) ?_; go_frame) | (refine wpList_store_row rfl 27 (.tmp 0) (.tmp 1) rfl w.heap.size nullL.toArray rfl rfl 27 _ (heap_alloc_new _ _) (by kernel_rfl) (by kernel_rfl) (ptL_one _ _) ?_; go_frame))
  refine bodyPost_ret (results_cell_row rfl _ _ w.heap.size 27 nullL.toArray (0, 0) _ rfl (setRow_heap _ _ _ _ _ _ (heap_alloc_new _ _)) Tryd.underlying27 rfl (by kernel_rfl)) rfl ⟨rfl, below_setRow ((Below.refl _ _).alloc (Nat.le_refl _) _) (Nat.le_refl _) _⟩
set_option maxRecDepth 100000 in
theorem rnull_any (w : World) :
    Calls Tryd.prog 15 #[] w fun e w' => e = .returned (.agg nullL.toArray) ∧ Below w.heap.size w w' := by
  go_enter Tryd.func15, Tryd.ntmps15
  go_wp2_with ((with_reducible show wpList _ _ _ _ _ _); first | (refine wpList_buildTo rfl 27 _ rfl _ rfl nullL.toArray (by kernel_rfl) ?_; go_frame) | (refine wpList_store_row rfl 27 (.tmp 0) (.tmp 1) rfl w.heap.size nullL.toArray rfl rfl 27 _ (heap_alloc_new _ _) (by kernel_rfl) (by kernel_rfl) (ptL_one _ _) ?_; go_frame))
  refine bodyPost_ret (results_cell_row rfl _ _ w.heap.size 27 nullL.toArray (0, 0) _ rfl (setRow_heap _ _ _ _ _ _ (heap_alloc_new _ _)) Tryd.underlying27 rfl (by kernel_rfl)) rfl ⟨rfl, below_setRow ((Below.refl _ _).alloc (Nat.le_refl _) _) (Nat.le_refl _) _⟩
set_option maxRecDepth 100000 in
theorem isnull_any (h : List UInt8) (n : Nat) (hh : h.length = 32) (b : Bool) (hb : b = (decide (h = List.replicate 32 0) && decide (n = 4294967295))) (w : World) :
    Calls Tryd.prog 13 #[.agg (ptL h n).toArray] w fun e w' => e = .returned (.bool b) ∧ Below w.heap.size w w' := by
  have hs := ptL_size h n hh
  have HS := Lib.hid hs
  have HH := Lib.hid hh
  have HB := Lib.hid hb
  clear hs hh hb
  go_enter Tryd.func13, Tryd.ntmps13
  go_upto_region 1 with fail
  have F := Lib.hid (heap_alloc_new w (.cells (ptL h n).toArray 27 (0, 0)))
  have B := Lib.hid ((Below.refl w.heap.size w).alloc (Nat.le_refl _) (.cells (ptL h n).toArray 27 (0, 0)))
  generalize hw1 : World.alloc _ _ = w1
  rw [hw1] at F B
  clear hw1
  refine wp_region_below (by kernel_rfl) (by kernel_rfl) w1 (Below.refl _ _) ?_
  go_big_quiet_want
  refine quiet_load_row 27 (.tmp 1) rfl w.heap.size rfl 27 (ptL h n).toArray (0, 0) _ (fun w' hw' => row_below F.out hw') Tryd.underlying27 rfl (by rw [HS.out]; kernel_rfl) ?_
  go_frame
  go_big_quiet_on
  go_big_quiet_step ((intro hw'; exact cls hw' (null_any _)))
  go_big_quiet_want
  refine quiet_eql_pt (.tmp 3) (.tmp 4) _ rfl h (List.replicate 32 0) n 4294967295 HH.out rfl rfl rfl b HB.out ?_
  go_frame
  go_big_quiet_on
  repeat (go_big_quiet_step ((intro _; rfl)))
  refine wpQuiet_nil ?_
  intro w7 hw7
  have HW7 := Lib.hid (B.out.trans (hw7.mono B.out.size))
  clear hw7
  go_wp2_with fail
  go_ret
  exact ⟨rfl, HW7.out⟩
end Go.Proofs.YthgcpelabiigpaaDoor.Sha
