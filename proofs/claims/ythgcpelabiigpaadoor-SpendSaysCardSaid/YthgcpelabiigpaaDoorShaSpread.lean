/-
  digest.spread makes the schedule of a block of 64 bytes, as the chapter gives it; nothing that was there turns. Conditions: the 64 bytes lie where the slice says.
-/
import Derived.WalkKit
import Derived.Deep.Light
import Derived.StillTailTactics
import Derived.LoopTactic
import Derived.Laws.CopyOwn
import Derived.Test.YthgcpelabiigpaaDoorShaSig
namespace Go.Proofs.YthgcpelabiigpaaDoor.Sha
open Go Go.RowKit

/-- What stands at the head of each round: k words of the schedule. -/
def SpInv (b : Nat → UInt8) (B : Nat) (w : World) (top : Nat) (i : Value) (wr : World) : Prop :=
  ∃ k : Nat, k ≤ top ∧ i = .int .i64 k ∧ wr.heap[B]? = some (.cells (rowV b k).toArray 60 (0, 0)) ∧ Below B w wr
def SpInv2 (b : Nat → UInt8) (B : Nat) (w : World) (i : Value) (wr : World) : Prop :=
  ∃ k : Nat, 16 ≤ k ∧ k ≤ 64 ∧ i = .int .i64 k ∧ wr.heap[B]? = some (.cells (rowV b k).toArray 60 (0, 0)) ∧ Below B w wr
theorem sp_step {b : Nat → UInt8} {B k : Nat} {w wr : World} (hr : wr.heap[B]? = some (.cells (rowV b k).toArray 60 (0, 0))) (hb : Below B w wr) (hk : k < 64) (x : UInt32) (hx : nextW b k (row b k) = x) :
    (wr.setCell ⟨B, k, none⟩ (.int .u32 (wv x))).drew.heap[B]? = some (.cells (rowV b (k + 1)).toArray 60 (0, 0)) ∧ Below B w (wr.setCell ⟨B, k, none⟩ (.int .u32 (wv x))).drew := by
  subst hx
  refine ⟨?_, (hb.setCell (Nat.le_refl _) _).drew⟩
  rw [heap_drew, heap_setCell_same wr B k _ _ _ hr, ← rowV_set b k hk]
  rfl
attribute [local go_sem] bv_u32 bv_u32' wv_shl24 wv_shl16 wv_shl8 wr_shl24 wr_shl16 wr_shl8 wv_or wv_sum wv_add
set_option maxRecDepth 100000 in
theorem spread_any (b : Nat → UInt8) (bb boff cap : Nat) (w : World) (hb : ∀ j, j < 64 → w.cell? ⟨bb, boff + j, none⟩ = some (.int .u8 (bv (b j)))) :
    Calls Tryd.prog 35 #[.slice (some ⟨bb, boff, none⟩) 64 cap] w fun e w' => e = .returned (.agg ((row b 64).map wV).toArray) ∧ Below w.heap.size w w' := by
  have HB : Hid _ := hb
  have hbb : bb < w.heap.size := World.block_lt_of_cell? w _ (hb 0 (by omega))
  clear hb
  go_enter Tryd.func35, Tryd.ntmps35
  go_wp2_with fail
  go_loopw [5] (fun i wr => SpInv b w.heap.size w 16 i wr) (fun i _ => 16 - (intOf i).toNat)
  case atStart => exact ⟨0, by omega, rfl, by rw [heap_alloc_new]; rfl, (Below.refl _ _).alloc (Nat.le_refl _) _⟩
  case round =>
    obtain ⟨k, hk, rfl, hrow, hbel⟩ := hrel
    by_cases hlt : k < 16
    · have c0 : wr.cell? ⟨bb, boff + 4 * k, none⟩ = some (.int .u8 (bv (b (4 * k)))) := by rw [hbel.cell hbb]; exact HB.out _ (by omega)
      have c1 : wr.cell? ⟨bb, boff + (4 * k + 1), none⟩ = some (.int .u8 (bv (b (4 * k + 1)))) := by rw [hbel.cell hbb]; exact HB.out _ (by omega)
      have c2 : wr.cell? ⟨bb, boff + (4 * k + 2), none⟩ = some (.int .u8 (bv (b (4 * k + 2)))) := by rw [hbel.cell hbb]; exact HB.out _ (by omega)
      have c3 : wr.cell? ⟨bb, boff + (4 * k + 3), none⟩ = some (.int .u8 (bv (b (4 * k + 3)))) := by rw [hbel.cell hbb]; exact HB.out _ (by omega)
      have HR : Hid _ := hrow
      have HW : Hid _ := hbel
      clear hrow hbel
      go_wp2_with fail
      have g0 : IntKind.i64.wrap (4 * (k : Int)) = 4 * (k : Int) := IntWalk.i64_in _ (by omega)
      have g1 : IntKind.i64.wrap (4 * (k : Int) + 1) = 4 * (k : Int) + 1 := IntWalk.i64_in _ (by omega)
      have g2 : IntKind.i64.wrap (4 * (k : Int) + 2) = 4 * (k : Int) + 2 := IntWalk.i64_in _ (by omega)
      have g3 : IntKind.i64.wrap (4 * (k : Int) + 3) = 4 * (k : Int) + 3 := IntWalk.i64_in _ (by omega)
      have p0 : 0 ≤ 4 * (k : Int) := by omega
      have p1 : 0 ≤ 4 * (k : Int) + 1 := by omega
      have p2 : 0 ≤ 4 * (k : Int) + 2 := by omega
      have p3 : 0 ≤ 4 * (k : Int) + 3 := by omega
      have q0 : 4 * (k : Int) < 64 := by omega
      have q1 : 4 * (k : Int) + 1 < 64 := by omega
      have q2 : 4 * (k : Int) + 2 < 64 := by omega
      have q3 : 4 * (k : Int) + 3 < 64 := by omega
      have n0 : (4 * (k : Int)).toNat = 4 * k := by omega
      have n1 : (4 * (k : Int) + 1).toNat = 4 * k + 1 := by omega
      have n2 : (4 * (k : Int) + 2).toNat = 4 * k + 2 := by omega
      have n3 : (4 * (k : Int) + 3).toNat = 4 * k + 3 := by omega
      have q4 : (k : Int) < 64 := by omega
      have p4 : 0 ≤ (k : Int) := by omega
      go_still_tail 35, (by kernel_rfl)
      change wpList _ _ _ _ _ wr.drew
      clear g0 g1 g2 g3 n0 n1 n2 n3 q0 q1 q2 q3 p0 p1 p2 p3 c0 c1 c2 c3
      have s0 : wr.cell? ⟨w.heap.size, k, none⟩ = some (wV 0) := by rw [cell_of_row wr _ k _ _ _ HR.out]; exact rowV_zero b k k (Nat.le_refl _) (by omega)
      have s1 : wr.frozen? ⟨w.heap.size, k, none⟩ = false := frozen_of_row wr _ k _ _ HR.out
      go_wp2
      go_roundw
      case rel =>
        obtain ⟨r1, r2⟩ := sp_step HR.out HW.out (by omega) _ (nextW_low b k _ hlt)
        exact ⟨k + 1, by omega, by go_num, r1, r2⟩
      case measure => simp [intOf]; omega
    · have hk16 : k = 16 := by omega
      rw [hk16] at hrow
      have hge : ¬ (k : Int) < 16 := by omega
      clear hk16
      have HR : Hid _ := hrow
      have HW : Hid _ := hbel
      clear hrow hbel HB hk hlt
      obtain ⟨wo, rfl⟩ : ∃ wo : World, wo = wr := ⟨_, rfl⟩
      go_wp2_with fail
      go_loopw [4] (fun i wr => SpInv2 b w.heap.size w i wr) (fun i _ => 64 - (intOf i).toNat)
      case atStart => exact ⟨16, by omega, by omega, rfl, HR.out, HW.out⟩
      case round =>
        clear HR HW
        clear hge
        obtain ⟨k, hk1, hk, rfl, hrow, hbel⟩ := hrel
        by_cases hlt : k < 64
        · obtain ⟨x2, hx2⟩ : ∃ x : UInt32, (row b k).getD (k - 2) 0 = x := ⟨_, rfl⟩
          obtain ⟨x7, hx7⟩ : ∃ x : UInt32, (row b k).getD (k - 7) 0 = x := ⟨_, rfl⟩
          obtain ⟨x15, hx15⟩ : ∃ x : UInt32, (row b k).getD (k - 15) 0 = x := ⟨_, rfl⟩
          obtain ⟨x16, hx16⟩ : ∃ x : UInt32, (row b k).getD (k - 16) 0 = x := ⟨_, rfl⟩
          have HX : Hid (nextW b k (row b k) = sS1 x2 + x7 + sS0 x15 + x16) := by
            show _ = _
            rw [nextW_high b k _ hk1, hx2, hx7, hx15, hx16]
          have c2 : wr.cell? ⟨w.heap.size, k - 2, none⟩ = some (.int .u32 (wv x2)) := by rw [cell_of_row wr _ _ _ _ _ hrow, rowV_get b k _ (by omega), hx2]
          have c7 : wr.cell? ⟨w.heap.size, k - 7, none⟩ = some (.int .u32 (wv x7)) := by rw [cell_of_row wr _ _ _ _ _ hrow, rowV_get b k _ (by omega), hx7]
          have c15 : wr.cell? ⟨w.heap.size, k - 15, none⟩ = some (.int .u32 (wv x15)) := by rw [cell_of_row wr _ _ _ _ _ hrow, rowV_get b k _ (by omega), hx15]
          have c16 : wr.cell? ⟨w.heap.size, k - 16, none⟩ = some (.int .u32 (wv x16)) := by rw [cell_of_row wr _ _ _ _ _ hrow, rowV_get b k _ (by omega), hx16]
          clear hx2 hx7 hx15 hx16
          have HR : Hid _ := hrow
          have HW : Hid _ := hbel
          clear hrow hbel
          go_wp2_with fail
          have g2 : IntKind.i64.wrap ((k : Int) - 2) = (k : Int) - 2 := IntWalk.i64_in _ (by omega)
          have g7 : IntKind.i64.wrap ((k : Int) - 7) = (k : Int) - 7 := IntWalk.i64_in _ (by omega)
          have g15 : IntKind.i64.wrap ((k : Int) - 15) = (k : Int) - 15 := IntWalk.i64_in _ (by omega)
          have g16 : IntKind.i64.wrap ((k : Int) - 16) = (k : Int) - 16 := IntWalk.i64_in _ (by omega)
          have p2 : 0 ≤ (k : Int) - 2 := by omega
          have p7 : 0 ≤ (k : Int) - 7 := by omega
          have p15 : 0 ≤ (k : Int) - 15 := by omega
          have p16 : 0 ≤ (k : Int) - 16 := by omega
          have r2 : 2 ≤ (k : Int) := by omega
          have r7 : 7 ≤ (k : Int) := by omega
          have r15 : 15 ≤ (k : Int) := by omega
          have r16 : 16 ≤ (k : Int) := by omega
          have q2 : (k : Int) - 2 < 64 := by omega
          have q7 : (k : Int) - 7 < 64 := by omega
          have q15 : (k : Int) - 15 < 64 := by omega
          have q16 : (k : Int) - 16 < 64 := by omega
          have n2 : ((k : Int) - 2).toNat = k - 2 := by omega
          have n7 : ((k : Int) - 7).toNat = k - 7 := by omega
          have n15 : ((k : Int) - 15).toNat = k - 15 := by omega
          have n16 : ((k : Int) - 16).toNat = k - 16 := by omega
          have q0 : (k : Int) < 64 := by omega
          have p0 : 0 ≤ (k : Int) := by omega
          refine wp_region_still_tail 23 (by kernel_rfl) (by kernel_rfl) ?_
          simp only [List.take_succ_cons, List.take_zero, List.drop_succ_cons, List.drop_zero]
          repeat still_step
          still_call (same_of (sS1_any _ _))
          repeat still_step
          still_call (same_of (sS0_any _ _))
          repeat still_step
          refine wpStill_nil ?_
          change wpList _ _ _ _ _ wr.drew
          clear g2 g7 g15 g16 p2 p7 p15 p16 r2 r7 r15 r16 q2 q7 q15 q16 n2 n7 n15 n16 c2 c7 c15 c16
          have s0 : wr.cell? ⟨w.heap.size, k, none⟩ = some (wV 0) := by rw [cell_of_row wr _ k _ _ _ HR.out]; exact rowV_zero b k k (Nat.le_refl _) (by omega)
          have s1 : wr.frozen? ⟨w.heap.size, k, none⟩ = false := frozen_of_row wr _ k _ _ HR.out
          go_wp2
          go_roundw
          case rel =>
            obtain ⟨t1, t2⟩ := sp_step HR.out HW.out hlt _ HX.out
            exact ⟨k + 1, by omega, by omega, by go_num, t1, t2⟩
          case measure => simp [intOf]; omega
        · have hk64 : k = 64 := by omega
          rw [hk64, rowV_all] at hrow
          have hge : ¬ (k : Int) < 64 := by omega
          clear hk64
          have HR : Hid _ := hrow
          have HW : Hid _ := hbel
          clear hrow hbel hk hk1 hlt
          have hl : ((row b 64).map wV).toArray.size = 64 := by simp [row_length]
          have HL : Hid _ := hl
          clear hl
          go_wp2_with (first | (refine wpList_load_row rfl 60 (.tmp 2) rfl w.heap.size rfl 60 ((row b 64).map wV).toArray (0, 0) (.array 64 25) HR.out Tryd.underlying60 rfl (by rw [HL.out]; kernel_rfl) ?_) | (refine wpList_store_row rfl 60 (.tmp 2) (.tmp 71) rfl w.heap.size ((row b 64).map wV).toArray rfl rfl 60 ((row b 64).map wV).toArray HR.out (by rw [HL.out]; kernel_rfl) rfl (wV_one _) ?_))
          refine bodyPost_ret (results_cell_row rfl _ _ w.heap.size 60 ((row b 64).map wV).toArray (0, 0) (.array 64 25) rfl (setRow_heap _ _ _ _ _ _ HR.out) Tryd.underlying60 rfl (by rw [HL.out]; kernel_rfl)) rfl ⟨rfl, below_setRow HW.out (Nat.le_refl _) _⟩
end Go.Proofs.YthgcpelabiigpaaDoor.Sha
