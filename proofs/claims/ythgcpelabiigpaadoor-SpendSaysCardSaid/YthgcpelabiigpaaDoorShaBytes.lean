/-
  digest.bytesOf writes the eight words down, the highest byte of each first; nothing that was there turns. No conditions.
-/
import Derived.Test.YthgcpelabiigpaaDoorShaSmall
namespace Go.Proofs.YthgcpelabiigpaaDoor.Sha
open Go Go.RowKit

theorem set4 {w : World} {g T n : Nat} {A Z : List Value} (z0 z1 z2 z3 a b c d : Value) (hA : A.length = n) (h : w.heap[g]? = some (.cells (A ++ (z0 :: z1 :: z2 :: z3 :: Z)).toArray T (0, 0))) :
    ((((w.setCell ⟨g, n, none⟩ a).setCell ⟨g, n + 1, none⟩ b).setCell ⟨g, n + 2, none⟩ c).setCell ⟨g, n + 3, none⟩ d).heap[g]? = some (.cells (A ++ ([a, b, c, d] ++ Z)).toArray T (0, 0)) := by
  have h1 := heap_setCell_same w g n _ _ a h
  have e0 := set_mid A n 0 (z0 :: z1 :: z2 :: z3 :: Z) a hA
  rw [Nat.add_zero] at e0
  rw [List.setIfInBounds_toArray, e0] at h1
  have h2 := heap_setCell_same _ g (n + 1) _ _ b h1
  rw [List.setIfInBounds_toArray, set_mid A n 1 _ _ hA] at h2
  have h3 := heap_setCell_same _ g (n + 2) _ _ c h2
  rw [List.setIfInBounds_toArray, set_mid A n 2 _ _ hA] at h3
  have h4 := heap_setCell_same _ g (n + 3) _ _ d h3
  rw [List.setIfInBounds_toArray, set_mid A n 3 _ _ hA] at h4
  exact h4

def ByInv (s : St) (w : World) (i : Value) (wr : World) : Prop :=
  ∃ k : Nat, k ≤ 8 ∧ i = .int .i64 k ∧ wr.heap[w.heap.size + 1]? = some (.cells (outV s k).toArray 24 (0, 0)) ∧ Below w.heap.size w wr
attribute [local go_sem] wv_shr24 wv_shr16 wv_shr8 bv_wv bv_wv'
set_option maxRecDepth 100000 in
theorem bytes_any (s : St) (w : World) : Calls Tryd.prog 33 #[.agg s.cells.toArray] w fun e w' => e = .returned (.agg (s.bytes.map bV).toArray) ∧ Below w.heap.size w w' := by
  go_enter Tryd.func33, Tryd.ntmps33
  go_wp2_with (refine wpList_load_row rfl 46 (.tmp 1) rfl w.heap.size rfl 46 s.cells.toArray (0, 0) (.array 8 25) (heap_alloc2_old w _ _) Tryd.underlying46 rfl (by kernel_rfl) ?_; go_frame)
  go_loopw [6] (fun i wr => ByInv s w i wr) (fun i _ => 8 - (intOf i).toNat)
  case atStart => exact ⟨0, by omega, rfl, by rw [heap_alloc2_new]; rfl, ((Below.refl _ _).alloc (Nat.le_refl _) _).alloc (by simp) _⟩
  case round =>
    obtain ⟨k, hk, rfl, hrow, hbel⟩ := hrel
    by_cases hlt : k < 8
    · obtain ⟨x, hx⟩ : ∃ x, s.list.getD k 0 = x := ⟨_, rfl⟩
      have hn := outV_next s k hlt x hx
      have hix : ∀ W, (Instr.index 46 (.agg s.cells.toArray) (.int .i64 k)).run Tryd.prog W = .ok (.int .u32 (wv x)) W := fun W =>
        run_index_array 46 25 8 .u32 _ k _ Tryd.underlying46 Tryd.underlying25 (by kernel_rfl) hlt (by rw [St.cells_list, wV_get _ _ (by rw [St.list_length]; exact hlt), hx])
      rw [outV_split s k hlt] at hrow
      have hl : ((bytesTo s k).map bV).length = 4 * k := by rw [List.length_map, bytesTo_length s k hk]
      have g0 : wr.cell? ⟨w.heap.size + 1, 4 * k, none⟩ = some (bV 0) := by rw [cell_of_row _ _ _ _ _ _ hrow]; exact get_mid _ _ 0 _ hl
      have g1 : wr.cell? ⟨w.heap.size + 1, 4 * k + 1, none⟩ = some (bV 0) := by rw [cell_of_row _ _ _ _ _ _ hrow]; exact get_mid _ _ 1 _ hl
      have g2 : wr.cell? ⟨w.heap.size + 1, 4 * k + 2, none⟩ = some (bV 0) := by rw [cell_of_row _ _ _ _ _ _ hrow]; exact get_mid _ _ 2 _ hl
      have g3 : wr.cell? ⟨w.heap.size + 1, 4 * k + 3, none⟩ = some (bV 0) := by rw [cell_of_row _ _ _ _ _ _ hrow]; exact get_mid _ _ 3 _ hl
      have f0 := frozen_of_row wr (w.heap.size + 1) (4 * k) _ _ hrow
      have f1 := frozen_of_row wr (w.heap.size + 1) (4 * k + 1) _ _ hrow
      have f2 := frozen_of_row wr (w.heap.size + 1) (4 * k + 2) _ _ hrow
      have f3 := frozen_of_row wr (w.heap.size + 1) (4 * k + 3) _ _ hrow
      have HR := Lib.hid hrow
      have HW := Lib.hid hbel
      have HN := Lib.hid hn
      have HL := Lib.hid hl
      clear hrow hbel hn hl hx
      go_wp2_with fail
      go_roundw
      case rel =>
        refine ⟨k + 1, by omega, by go_num, ?_, ?_⟩
        · rw [← HN.out]
          exact set4 _ _ _ _ _ _ _ _ HL.out HR.out
        · exact (((HW.out.setCell (Nat.le_succ _) _).setCell (Nat.le_succ _) _).setCell (Nat.le_succ _) _).setCell (Nat.le_succ _) _
      case measure => simp [intOf]; omega
    · have hk8 : k = 8 := by omega
      rw [hk8, outV_all] at hrow
      have hge : ¬ (k : Int) < 8 := by omega
      have HR := Lib.hid hrow
      have HW := Lib.hid hbel
      have hl : (s.bytes.map bV).toArray.size = 32 := by simp [bytes_length]
      have HL := Lib.hid hl
      clear hrow hbel hk8 hk hlt hl
      go_wp2_with (first | (refine wpList_load_row rfl 24 (.tmp 2) rfl (w.heap.size + 1) rfl 24 (s.bytes.map bV).toArray (0, 0) (.array 32 5) HR.out Tryd.underlying24 rfl (by rw [HL.out]; kernel_rfl) ?_; go_frame) | (refine wpList_store_row rfl 24 (.tmp 2) (.tmp 37) rfl (w.heap.size + 1) (s.bytes.map bV).toArray rfl rfl 24 (s.bytes.map bV).toArray HR.out (by rw [HL.out]; kernel_rfl) rfl (bV_one _) ?_; go_frame))
      refine bodyPost_ret (results_cell_row rfl _ _ (w.heap.size + 1) 24 (s.bytes.map bV).toArray (0, 0) (.array 32 5) rfl (setRow_heap _ _ _ _ _ _ HR.out) Tryd.underlying24 rfl (by rw [HL.out]; kernel_rfl)) rfl ⟨rfl, below_setRow HW.out (Nat.le_succ _) _⟩
end Go.Proofs.YthgcpelabiigpaaDoor.Sha
