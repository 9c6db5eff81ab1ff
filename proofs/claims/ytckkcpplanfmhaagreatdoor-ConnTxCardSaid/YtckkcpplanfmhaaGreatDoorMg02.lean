/-
  Texts of this proof joined into one file: ShaSpread, ShaMix, ShaMath2, ShaSmall, ShaBytes, ShaWrite, ShaNone. What each holds, and under which conditions, its own first sentence tells.
-/
import Derived.WalkKit
import Derived.Deep.Light
import Derived.StillTailTactics
import Derived.LoopTactic
import Derived.Laws.CopyOwn
import Derived.RegionTactic
import Derived.Deep.QuietTactic
import Derived.BigQuiet
import Derived.Lib.Hide
import Derived.WalkSmall
import Derived.Maps.RangeWalk
import Derived.Deep.DeepFit
import Derived.Maps.AppendAt
import Derived.Deep.DeepCutAuto
import Derived.LoopN
import Derived.Test.YtckkcpplanfmhaaGreatDoorMg01
/-
  digest.spread makes the schedule of a block of 64 bytes, as the chapter gives it; nothing that was there turns. Conditions: the 64 bytes lie where the slice says.
-/
namespace Go.Proofs.YtckkcpplanfmhaaGreatDoor.Sha
open Go Go.RowKit
/-- What stands at the head of each round: k words of the schedule. -/
def SpInv (b : Nat → UInt8) (B : Nat) (w : World) (top : Nat) (i : Value) (wr : World) : Prop :=
  ∃ k : Nat, k ≤ top ∧ i = .int .i64 k ∧ wr.heap[B]? = some (.cells (rowV b k).toArray 206 (0, 0)) ∧ Below B w wr
def SpInv2 (b : Nat → UInt8) (B : Nat) (w : World) (i : Value) (wr : World) : Prop :=
  ∃ k : Nat, 16 ≤ k ∧ k ≤ 64 ∧ i = .int .i64 k ∧ wr.heap[B]? = some (.cells (rowV b k).toArray 206 (0, 0)) ∧ Below B w wr
theorem sp_step {b : Nat → UInt8} {B k : Nat} {w wr : World} (hr : wr.heap[B]? = some (.cells (rowV b k).toArray 206 (0, 0))) (hb : Below B w wr) (hk : k < 64) (x : UInt32) (hx : nextW b k (row b k) = x) :
    (wr.setCell ⟨B, k, none⟩ (.int .u32 (wv x))).drew.heap[B]? = some (.cells (rowV b (k + 1)).toArray 206 (0, 0)) ∧ Below B w (wr.setCell ⟨B, k, none⟩ (.int .u32 (wv x))).drew := by
  subst hx
  refine ⟨?_, (hb.setCell (Nat.le_refl _) _).drew⟩
  rw [heap_drew, heap_setCell_same wr B k _ _ _ hr, ← rowV_set b k hk]
  rfl
attribute [local go_sem] bv_u32 bv_u32' wv_shl24 wv_shl16 wv_shl8 wr_shl24 wr_shl16 wr_shl8 wv_or wv_sum wv_add
set_option maxRecDepth 100000 in
theorem spread_any (b : Nat → UInt8) (bb boff cap : Nat) (w : World) (hb : ∀ j, j < 64 → w.cell? ⟨bb, boff + j, none⟩ = some (.int .u8 (bv (b j)))) :
    Calls Tryz.prog 127 #[.slice (some ⟨bb, boff, none⟩) 64 cap] w fun e w' => e = .returned (.agg ((row b 64).map wV).toArray) ∧ Below w.heap.size w w' := by
  have HB : Hid _ := hb
  have hbb : bb < w.heap.size := World.block_lt_of_cell? w _ (hb 0 (by omega))
  clear hb
  go_enter Tryz.func127, Tryz.ntmps127
  go_wp2_with fail
  go_loopw [5] (fun i wr => SpInv b w.heap.size w 16 i wr) (fun i _ => 16 - (intOf i).toNat)
  case atStart => exact ⟨0, by omega, rfl, by rw [heap_alloc_new]; rfl, (Below.refl _ _).alloc (Nat.le_refl _) _⟩
  case round =>
    obtain ⟨k, hk, rfl, hrow, hbel⟩ := hrel
    by_cases hlt : k < 16
    · have c0 : wr.cell? ⟨bb, boff + 4 * k, none⟩ = some (.int .u8 (bv (b (4 * k)))) := by rw [hbel.cell hbb]; exact HB.out _ (by omega)
      have c1 : wr.cell? ⟨bb, boff + (4 * k + 1), none⟩ = some (.int .u8 (bv (b (4 * k + 1)))) := by rw [hbel.cell hbb]; exact HB.out _ (by omega)
      have c2 : wr.cell? ⟨bb, boff + (4 * k + 2), none⟩ = some (.int .u8 (bv (b (4 * k + 2)))) := by rw [hbel.cell hbb]; exact HB.out _ (by omega)
      have c3 : wr.cell? ⟨bb, boff + (4 * k + 3), none⟩ = some (.int .u8 (bv (b (4 * k + 3)))) := by rw [hbel.cell hbb]; exact HB.out _ (by omega)
      have HR : Hid _ := hrow
      have HW : Hid _ := hbel
      clear hrow hbel
      go_wp2_with fail
      have g0 : IntKind.i64.wrap (4 * (k : Int)) = 4 * (k : Int) := IntWalk.i64_in _ (by omega)
      have g1 : IntKind.i64.wrap (4 * (k : Int) + 1) = 4 * (k : Int) + 1 := IntWalk.i64_in _ (by omega)
      have g2 : IntKind.i64.wrap (4 * (k : Int) + 2) = 4 * (k : Int) + 2 := IntWalk.i64_in _ (by omega)
      have g3 : IntKind.i64.wrap (4 * (k : Int) + 3) = 4 * (k : Int) + 3 := IntWalk.i64_in _ (by omega)
      have p0 : 0 ≤ 4 * (k : Int) := by omega
      have p1 : 0 ≤ 4 * (k : Int) + 1 := by omega
      have p2 : 0 ≤ 4 * (k : Int) + 2 := by omega
      have p3 : 0 ≤ 4 * (k : Int) + 3 := by omega
      have q0 : 4 * (k : Int) < 64 := by omega
      have q1 : 4 * (k : Int) + 1 < 64 := by omega
      have q2 : 4 * (k : Int) + 2 < 64 := by omega
      have q3 : 4 * (k : Int) + 3 < 64 := by omega
      have n0 : (4 * (k : Int)).toNat = 4 * k := by omega
      have n1 : (4 * (k : Int) + 1).toNat = 4 * k + 1 := by omega
      have n2 : (4 * (k : Int) + 2).toNat = 4 * k + 2 := by omega
      have n3 : (4 * (k : Int) + 3).toNat = 4 * k + 3 := by omega
      have q4 : (k : Int) < 64 := by omega
      have p4 : 0 ≤ (k : Int) := by omega
      go_still_tail 35, (by kernel_rfl)
      change wpList _ _ _ _ _ wr.drew
      clear g0 g1 g2 g3 n0 n1 n2 n3 q0 q1 q2 q3 p0 p1 p2 p3 c0 c1 c2 c3
      have s0 : wr.cell? ⟨w.heap.size, k, none⟩ = some (wV 0) := by rw [cell_of_row wr _ k _ _ _ HR.out]; exact rowV_zero b k k (Nat.le_refl _) (by omega)
      have s1 : wr.frozen? ⟨w.heap.size, k, none⟩ = false := frozen_of_row wr _ k _ _ HR.out
      go_wp2
      go_roundw
      case rel =>
        obtain ⟨r1, r2⟩ := sp_step HR.out HW.out (by omega) _ (nextW_low b k _ hlt)
        exact ⟨k + 1, by omega, by go_num, r1, r2⟩
      case measure => simp [intOf]; omega
    · have hk16 : k = 16 := by omega
      rw [hk16] at hrow
      have hge : ¬ (k : Int) < 16 := by omega
      clear hk16
      have HR : Hid _ := hrow
      have HW : Hid _ := hbel
      clear hrow hbel HB hk hlt
      obtain ⟨wo, rfl⟩ : ∃ wo : World, wo = wr := ⟨_, rfl⟩
      go_wp2_with fail
      go_loopw [4] (fun i wr => SpInv2 b w.heap.size w i wr) (fun i _ => 64 - (intOf i).toNat)
      case atStart => exact ⟨16, by omega, by omega, rfl, HR.out, HW.out⟩
      case round =>
        clear HR HW
        clear hge
        obtain ⟨k, hk1, hk, rfl, hrow, hbel⟩ := hrel
        by_cases hlt : k < 64
        · obtain ⟨x2, hx2⟩ : ∃ x : UInt32, (row b k).getD (k - 2) 0 = x := ⟨_, rfl⟩
          obtain ⟨x7, hx7⟩ : ∃ x : UInt32, (row b k).getD (k - 7) 0 = x := ⟨_, rfl⟩
          obtain ⟨x15, hx15⟩ : ∃ x : UInt32, (row b k).getD (k - 15) 0 = x := ⟨_, rfl⟩
          obtain ⟨x16, hx16⟩ : ∃ x : UInt32, (row b k).getD (k - 16) 0 = x := ⟨_, rfl⟩
          have HX : Hid (nextW b k (row b k) = sS1 x2 + x7 + sS0 x15 + x16) := by
            show _ = _
            rw [nextW_high b k _ hk1, hx2, hx7, hx15, hx16]
          have c2 : wr.cell? ⟨w.heap.size, k - 2, none⟩ = some (.int .u32 (wv x2)) := by rw [cell_of_row wr _ _ _ _ _ hrow, rowV_get b k _ (by omega), hx2]
          have c7 : wr.cell? ⟨w.heap.size, k - 7, none⟩ = some (.int .u32 (wv x7)) := by rw [cell_of_row wr _ _ _ _ _ hrow, rowV_get b k _ (by omega), hx7]
          have c15 : wr.cell? ⟨w.heap.size, k - 15, none⟩ = some (.int .u32 (wv x15)) := by rw [cell_of_row wr _ _ _ _ _ hrow, rowV_get b k _ (by omega), hx15]
          have c16 : wr.cell? ⟨w.heap.size, k - 16, none⟩ = some (.int .u32 (wv x16)) := by rw [cell_of_row wr _ _ _ _ _ hrow, rowV_get b k _ (by omega), hx16]
          clear hx2 hx7 hx15 hx16
          have HR : Hid _ := hrow
          have HW : Hid _ := hbel
          clear hrow hbel
          go_wp2_with fail
          have g2 : IntKind.i64.wrap ((k : Int) - 2) = (k : Int) - 2 := IntWalk.i64_in _ (by omega)
          have g7 : IntKind.i64.wrap ((k : Int) - 7) = (k : Int) - 7 := IntWalk.i64_in _ (by omega)
          have g15 : IntKind.i64.wrap ((k : Int) - 15) = (k : Int) - 15 := IntWalk.i64_in _ (by omega)
          have g16 : IntKind.i64.wrap ((k : Int) - 16) = (k : Int) - 16 := IntWalk.i64_in _ (by omega)
          have p2 : 0 ≤ (k : Int) - 2 := by omega
          have p7 : 0 ≤ (k : Int) - 7 := by omega
          have p15 : 0 ≤ (k : Int) - 15 := by omega
          have p16 : 0 ≤ (k : Int) - 16 := by omega
          have r2 : 2 ≤ (k : Int) := by omega
          have r7 : 7 ≤ (k : Int) := by omega
          have r15 : 15 ≤ (k : Int) := by omega
          have r16 : 16 ≤ (k : Int) := by omega
          have q2 : (k : Int) - 2 < 64 := by omega
          have q7 : (k : Int) - 7 < 64 := by omega
          have q15 : (k : Int) - 15 < 64 := by omega
          have q16 : (k : Int) - 16 < 64 := by omega
          have n2 : ((k : Int) - 2).toNat = k - 2 := by omega
          have n7 : ((k : Int) - 7).toNat = k - 7 := by omega
          have n15 : ((k : Int) - 15).toNat = k - 15 := by omega
          have n16 : ((k : Int) - 16).toNat = k - 16 := by omega
          have q0 : (k : Int) < 64 := by omega
          have p0 : 0 ≤ (k : Int) := by omega
          refine wp_region_still_tail 23 (by kernel_rfl) (by kernel_rfl) ?_
          simp only [List.take_succ_cons, List.take_zero, List.drop_succ_cons, List.drop_zero]
          repeat still_step
          still_call (same_of (sS1_any _ _))
          repeat still_step
          still_call (same_of (sS0_any _ _))
          repeat still_step
          refine wpStill_nil ?_
          change wpList _ _ _ _ _ wr.drew
          clear g2 g7 g15 g16 p2 p7 p15 p16 r2 r7 r15 r16 q2 q7 q15 q16 n2 n7 n15 n16 c2 c7 c15 c16
          have s0 : wr.cell? ⟨w.heap.size, k, none⟩ = some (wV 0) := by rw [cell_of_row wr _ k _ _ _ HR.out]; exact rowV_zero b k k (Nat.le_refl _) (by omega)
          have s1 : wr.frozen? ⟨w.heap.size, k, none⟩ = false := frozen_of_row wr _ k _ _ HR.out
          go_wp2
          go_roundw
          case rel =>
            obtain ⟨t1, t2⟩ := sp_step HR.out HW.out hlt _ HX.out
            exact ⟨k + 1, by omega, by omega, by go_num, t1, t2⟩
          case measure => simp [intOf]; omega
        · have hk64 : k = 64 := by omega
          rw [hk64, rowV_all] at hrow
          have hge : ¬ (k : Int) < 64 := by omega
          clear hk64
          have HR : Hid _ := hrow
          have HW : Hid _ := hbel
          clear hrow hbel hk hk1 hlt
          have hl : ((row b 64).map wV).toArray.size = 64 := by simp [row_length]
          have HL : Hid _ := hl
          clear hl
          go_wp2_with (first | (refine wpList_load_row rfl 206 (.tmp 2) rfl w.heap.size rfl 206 ((row b 64).map wV).toArray (0, 0) (.array 64 23) HR.out Tryz.underlying206 rfl (by rw [HL.out]; kernel_rfl) ?_) | (refine wpList_store_row rfl 206 (.tmp 2) (.tmp 71) rfl w.heap.size ((row b 64).map wV).toArray rfl rfl 206 ((row b 64).map wV).toArray HR.out (by rw [HL.out]; kernel_rfl) rfl (wV_one _) ?_))
          refine bodyPost_ret (results_cell_row rfl _ _ w.heap.size 206 ((row b 64).map wV).toArray (0, 0) (.array 64 23) rfl (setRow_heap _ _ _ _ _ _ HR.out) Tryz.underlying206 rfl (by rw [HL.out]; kernel_rfl)) rfl ⟨rfl, below_setRow HW.out (Nat.le_refl _) _⟩
end Go.Proofs.YtckkcpplanfmhaaGreatDoor.Sha

/-
  digest.startWords answers the eight words that the chapter gives; digest.mix works one block of 64 bytes into eight words that lie at the head of a block of memory, as the chapter gives it; nothing else that was there turns. Conditions: the bytes, the words and the table lie where they should.
-/
namespace Go.Proofs.YtckkcpplanfmhaaGreatDoor.Sha
open Go Go.RowKit
set_option maxRecDepth 100000 in
theorem start_any (w : World) : Calls Tryz.prog 91 #[] w fun e w' => e = .returned (.agg start.cells.toArray) ∧ Below w.heap.size w w' := by
  go_enter Tryz.func91, Tryz.ntmps91
  go_wp2
  refine bodyPost_ret (results_cell_row rfl _ _ w.heap.size 131 start.cells.toArray (0, 0) (.array 8 23) rfl (by rw [heap_alloc_new]; rfl) Tryz.underlying131 rfl (by kernel_rfl)) rfl ⟨rfl, (Below.refl _ _).alloc (Nat.le_refl _) _⟩
/-- What stands at the head of each round: t rounds are done. -/
def MxInv (l : List UInt32) (s : St) (w : World) (va vb vc vd ve vf vg vh i : Value) (wr : World) : Prop :=
  ∃ t : Nat, t ≤ 64 ∧ i = .int .i64 t ∧ va = .int .u32 (wv (rounds l s t).a) ∧ vb = .int .u32 (wv (rounds l s t).b) ∧ vc = .int .u32 (wv (rounds l s t).c) ∧ vd = .int .u32 (wv (rounds l s t).d)
    ∧ ve = .int .u32 (wv (rounds l s t).e) ∧ vf = .int .u32 (wv (rounds l s t).f) ∧ vg = .int .u32 (wv (rounds l s t).g) ∧ vh = .int .u32 (wv (rounds l s t).h) ∧ Below w.heap.size w wr
/-- The table of the rounds' words. -/
def KTab (w : World) : Prop := ∀ t, t < 64 → w.cell? ⟨14, t, none⟩ = some (.int .u32 (wv (kW t)))
theorem after_spread {w w1 : World} (hb1 : Below w.heap.size w w1) (o : Obj) (cs old : Array Value) (T : TypeId) (ho : o = .cells old T (0, 0)) :
    Below w.heap.size w ((w1.alloc o).setRow w1.heap.size cs) ∧ ((w1.alloc o).setRow w1.heap.size cs).heap[w1.heap.size]? = some (.cells cs T (0, 0)) := by
  subst ho
  exact ⟨below_setRow (hb1.alloc hb1.size _) hb1.size _, setRow_heap _ _ _ _ _ _ (heap_alloc_new _ _)⟩
theorem grownBy_setCell_drew {w wr : World} {B : Nat} (h : w.grownBy wr (some B)) (i : Nat) (v : Value) : w.grownBy (wr.setCell ⟨B, i, none⟩ v).drew (some B) :=
  ⟨h.os, h.tape, h.output, by have := h.size; simp [World.drew, World.setCell]; omega, fun k hk hne => by
    rw [heap_drew, heap_setCell_other _ _ _ _ (fun e => hne (by rw [e]))]
    exact h.block k hk hne⟩
theorem store_step {w wr : World} {B T : Nat} {cs : List Value} (hB : wr.heap[B]? = some (.cells cs.toArray T (0, 0))) (hG : w.grownBy wr (some B)) (i : Nat) (v : Value) (cs' : List Value) (hs : cs.set i v = cs') :
    (wr.setCell ⟨B, i, none⟩ v).drew.heap[B]? = some (.cells cs'.toArray T (0, 0)) ∧ w.grownBy (wr.setCell ⟨B, i, none⟩ v).drew (some B) := by
  refine ⟨?_, grownBy_setCell_drew hG i v⟩
  rw [heap_drew, heap_setCell_same wr B i _ _ _ hB, List.setIfInBounds_toArray, hs]
attribute [local go_sem] wv_add wv_sum wv_xor wv_and wv_andNot
set_option maxHeartbeats 1000000 in
set_option maxRecDepth 100000 in
theorem mix_any (s : St) (b : Nat → UInt8) (bb boff cap B T : Nat) (rest : List Value) (w : World) (hk : KTab w)
    (hB : w.heap[B]? = some (.cells (s.cells ++ rest).toArray T (0, 0))) (hb : ∀ j, j < 64 → w.cell? ⟨bb, boff + j, none⟩ = some (.int .u8 (bv (b j)))) :
    Calls Tryz.prog 92 #[.pointer (some ⟨B, 0, none⟩), .slice (some ⟨bb, boff, none⟩) 64 cap] w fun e w' =>
      e = .returned (.tuple #[]) ∧ w'.heap[B]? = some (.cells ((compress s b).cells ++ rest).toArray T (0, 0)) ∧ w.grownBy w' (some B) := by
  have HK := Lib.hid hk
  have HB := Lib.hid hB
  have hl : ((row b 64).map wV).toArray.size = 64 := by simp [row_length]
  have HL := Lib.hid hl
  clear hk hB hl
  go_enter Tryz.func92, Tryz.ntmps92
  go_wp2_with fail
  refine (spread_any b bb boff cap _ hb).mono ?_
  rintro e w1 ⟨rfl, hb1⟩
  have HB1 := Lib.hid hb1
  clear hb1 hb
  have hBw : B < w.heap.size := (Array.getElem?_eq_some_iff.1 HB.out).1
  go_wp2_with (refine wpList_store_row rfl 206 (.tmp 4) (.tmp 18) rfl w1.heap.size ((row b 64).map wV).toArray rfl rfl 206 _ (heap_alloc_new _ _) (by rw [HL.out]; kernel_rfl) (by rw [HL.out]; rfl) (wV_one _) ?_; go_frame)
  obtain ⟨f1, f2⟩ := after_spread HB1.out _ ((row b 64).map wV).toArray _ 206 rfl
  generalize hw2 : World.setRow _ _ _ = w2
  rw [hw2] at f1 f2
  clear hw2
  have hB2 : w2.heap[B]? = some (.cells (s.cells ++ rest).toArray T (0, 0)) := by rw [f1.block B hBw]; exact HB.out
  have HB2 := Lib.hid hB2
  have F1 := Lib.hid f1
  have F2 := Lib.hid f2
  have c0 : w2.cell? ⟨B, 0, none⟩ = some (.int .u32 (wv s.a)) := by rw [cell_of_row _ _ _ _ _ _ hB2]; rfl
  have c1 : w2.cell? ⟨B, 1, none⟩ = some (.int .u32 (wv s.b)) := by rw [cell_of_row _ _ _ _ _ _ hB2]; rfl
  have c2 : w2.cell? ⟨B, 2, none⟩ = some (.int .u32 (wv s.c)) := by rw [cell_of_row _ _ _ _ _ _ hB2]; rfl
  have c3 : w2.cell? ⟨B, 3, none⟩ = some (.int .u32 (wv s.d)) := by rw [cell_of_row _ _ _ _ _ _ hB2]; rfl
  have c4 : w2.cell? ⟨B, 4, none⟩ = some (.int .u32 (wv s.e)) := by rw [cell_of_row _ _ _ _ _ _ hB2]; rfl
  have c5 : w2.cell? ⟨B, 5, none⟩ = some (.int .u32 (wv s.f)) := by rw [cell_of_row _ _ _ _ _ _ hB2]; rfl
  have c6 : w2.cell? ⟨B, 6, none⟩ = some (.int .u32 (wv s.g)) := by rw [cell_of_row _ _ _ _ _ _ hB2]; rfl
  have c7 : w2.cell? ⟨B, 7, none⟩ = some (.int .u32 (wv s.h)) := by rw [cell_of_row _ _ _ _ _ _ hB2]; rfl
  clear f1 f2 hB2
  go_quiet (fail)
  go_wp2_with fail
  go_quiet (fail)
  clear c0 c1 c2 c3 c4 c5 c6 c7
  go_wp2_with (refine wpList_load_row rfl 206 (.tmp 4) rfl w1.heap.size rfl 206 ((row b 64).map wV).toArray (0, 0) (.array 64 23) F2.out Tryz.underlying206 rfl (by rw [HL.out]; kernel_rfl) ?_; go_frame)
  generalize hw3 : World.drewN _ _ = w3
  have HB3 : w3.heap[B]? = some (.cells (s.cells ++ rest).toArray T (0, 0)) := by rw [← hw3]; exact HB2.out
  have F3 : Below w.heap.size w w3 := by rw [← hw3]; exact below_drewN (below_drewN F1.out _) _
  have HB3 := Lib.hid HB3
  have F3 := Lib.hid F3
  clear hw3 HB2 F1 F2 HB1
  go_loopw [5, 6, 7, 8, 9, 10, 11, 12, 52] (fun va vb vc vd ve vf vg vh i wr => MxInv (row b 64) s w3 va vb vc vd ve vf vg vh i wr) (fun _ _ _ _ _ _ _ _ i _ => 64 - (intOf i).toNat)
  case atStart => exact ⟨0, by omega, rfl, rfl, rfl, rfl, rfl, rfl, rfl, rfl, rfl, Below.refl _ _⟩
  case round =>
    obtain ⟨t, ht, rfl, rfl, rfl, rfl, rfl, rfl, rfl, rfl, rfl, hbel⟩ := hrel
    obtain ⟨r, hr⟩ : ∃ r, rounds (row b 64) s t = r := ⟨_, rfl⟩
    rw [hr]
    by_cases hlt : t < 64
    · obtain ⟨x, hx⟩ : ∃ x, (row b 64).getD t 0 = x := ⟨_, rfl⟩
      have hix : ∀ W, (Instr.index 206 (.agg ((row b 64).map wV).toArray) (.int .i64 t)).run Tryz.prog W = .ok (.int .u32 (wv x)) W := fun W =>
        run_index_array 206 23 64 .u32 _ t _ Tryz.underlying206 Tryz.underlying23 (by kernel_rfl) hlt (by rw [wV_get _ _ (by rw [row_length]; exact hlt), hx])
      have ck : wr.cell? ⟨14, t, none⟩ = some (.int .u32 (wv (kW t))) := by
        have h0 := World.block_lt_of_cell? w _ (HK.out 0 (by omega))
        rw [hbel.cell (p := ⟨14, t, none⟩) (Nat.lt_of_lt_of_le h0 F3.out.size), F3.out.cell (p := ⟨14, t, none⟩) h0]
        exact HK.out t hlt
      have HE : Hid (rounds (row b 64) s (t + 1) = r.round (kW t) x) := by
        show (rounds (row b 64) s t).round (kW t) ((row b 64).getD t 0) = _
        rw [hr, hx]
      have HW := Lib.hid hbel
      clear hbel hr hx
      obtain ⟨kt, hkt⟩ : ∃ kt, kW t = kt := ⟨_, rfl⟩
      rw [hkt] at ck HE
      clear hkt
      have p0 : 0 ≤ (t : Int) := by omega
      have q0 : (t : Int) < 64 := by omega
      go_wp2_with fail
      go_quiet ((go_at_call 128; refine Calls.quiet_of_same (same_of (bS1_any _ _))))
      go_wp2_with (go_at_call 129; refine (bS0_any _ _).mono ?_; rintro e w' ⟨rfl, rfl⟩)
      go_roundw
      case rel =>
        refine ⟨t + 1, by omega, by go_num, ?_, ?_, ?_, ?_, ?_, ?_, ?_, ?_, below_drewN HW.out _⟩ <;> (rw [HE.out]; rfl)
      case measure => simp [intOf]; omega
    · have e64 : t = 64 := by omega
      have hge : ¬ (t : Int) < 64 := by omega
      have HR : Hid (rounds (row b 64) s 64 = r) := by rw [e64] at hr; exact hr
      have hBr : wr.heap[B]? = some (.cells (s.cells ++ rest).toArray T (0, 0)) := by
        rw [hbel.block B (Nat.lt_of_lt_of_le hBw F3.out.size)]
        exact HB3.out
      have hG : w.grownBy wr (some B) := grownBy_of_below (F3.out.trans (hbel.mono F3.out.size)) _
      have HW := Lib.hid hbel
      clear hbel hr e64 ht hlt
      have c : wr.cell? ⟨B, 0, none⟩ = some (.int .u32 (wv s.a)) := by rw [cell_of_row _ _ _ _ _ _ hBr]; rfl
      have z : wr.frozen? ⟨B, 0, none⟩ = false := frozen_of_row _ _ _ _ _ hBr
      have HB' := Lib.hid hBr
      have HG := Lib.hid hG
      clear hBr hG
      go_wp2_with fail
      go_still_tail 8, (by kernel_rfl)
      change wpList _ _ _ _ _ (World.drew _)
      go_wp2_with fail
      clear c z
      obtain ⟨hBr, hG⟩ := store_step HB'.out HG.out 0 (.int .u32 (wv (s.a + r.a))) ([wV (s.a + r.a), wV s.b, wV s.c, wV s.d, wV s.e, wV s.f, wV s.g, wV s.h] ++ rest) rfl
      clear HB' HG
      generalize hwk : (World.setCell _ _ _).drew = wk
      rw [hwk] at hBr hG
      clear hwk
      have c : wk.cell? ⟨B, 1, none⟩ = some (.int .u32 (wv s.b)) := by rw [cell_of_row _ _ _ _ _ _ hBr]; rfl
      have z : wk.frozen? ⟨B, 1, none⟩ = false := frozen_of_row _ _ _ _ _ hBr
      have HB' := Lib.hid hBr
      have HG := Lib.hid hG
      clear hBr hG
      go_still_tail 8, (by kernel_rfl)
      change wpList _ _ _ _ _ (World.drew _)
      go_wp2_with fail
      clear c z
      obtain ⟨hBr, hG⟩ := store_step HB'.out HG.out 1 (.int .u32 (wv (s.b + r.b))) ([wV (s.a + r.a), wV (s.b + r.b), wV s.c, wV s.d, wV s.e, wV s.f, wV s.g, wV s.h] ++ rest) rfl
      clear HB' HG
      generalize hwk : (World.setCell _ _ _).drew = wk
      rw [hwk] at hBr hG
      clear hwk
      have c : wk.cell? ⟨B, 2, none⟩ = some (.int .u32 (wv s.c)) := by rw [cell_of_row _ _ _ _ _ _ hBr]; rfl
      have z : wk.frozen? ⟨B, 2, none⟩ = false := frozen_of_row _ _ _ _ _ hBr
      have HB' := Lib.hid hBr
      have HG := Lib.hid hG
      clear hBr hG
      go_still_tail 8, (by kernel_rfl)
      change wpList _ _ _ _ _ (World.drew _)
      go_wp2_with fail
      clear c z
      obtain ⟨hBr, hG⟩ := store_step HB'.out HG.out 2 (.int .u32 (wv (s.c + r.c))) ([wV (s.a + r.a), wV (s.b + r.b), wV (s.c + r.c), wV s.d, wV s.e, wV s.f, wV s.g, wV s.h] ++ rest) rfl
      clear HB' HG
      generalize hwk : (World.setCell _ _ _).drew = wk
      rw [hwk] at hBr hG
      clear hwk
      have c : wk.cell? ⟨B, 3, none⟩ = some (.int .u32 (wv s.d)) := by rw [cell_of_row _ _ _ _ _ _ hBr]; rfl
      have z : wk.frozen? ⟨B, 3, none⟩ = false := frozen_of_row _ _ _ _ _ hBr
      have HB' := Lib.hid hBr
      have HG := Lib.hid hG
      clear hBr hG
      go_still_tail 8, (by kernel_rfl)
      change wpList _ _ _ _ _ (World.drew _)
      go_wp2_with fail
      clear c z
      obtain ⟨hBr, hG⟩ := store_step HB'.out HG.out 3 (.int .u32 (wv (s.d + r.d))) ([wV (s.a + r.a), wV (s.b + r.b), wV (s.c + r.c), wV (s.d + r.d), wV s.e, wV s.f, wV s.g, wV s.h] ++ rest) rfl
      clear HB' HG
      generalize hwk : (World.setCell _ _ _).drew = wk
      rw [hwk] at hBr hG
      clear hwk
      have c : wk.cell? ⟨B, 4, none⟩ = some (.int .u32 (wv s.e)) := by rw [cell_of_row _ _ _ _ _ _ hBr]; rfl
      have z : wk.frozen? ⟨B, 4, none⟩ = false := frozen_of_row _ _ _ _ _ hBr
      have HB' := Lib.hid hBr
      have HG := Lib.hid hG
      clear hBr hG
      go_still_tail 8, (by kernel_rfl)
      change wpList _ _ _ _ _ (World.drew _)
      go_wp2_with fail
      clear c z
      obtain ⟨hBr, hG⟩ := store_step HB'.out HG.out 4 (.int .u32 (wv (s.e + r.e))) ([wV (s.a + r.a), wV (s.b + r.b), wV (s.c + r.c), wV (s.d + r.d), wV (s.e + r.e), wV s.f, wV s.g, wV s.h] ++ rest) rfl
      clear HB' HG
      generalize hwk : (World.setCell _ _ _).drew = wk
      rw [hwk] at hBr hG
      clear hwk
      have c : wk.cell? ⟨B, 5, none⟩ = some (.int .u32 (wv s.f)) := by rw [cell_of_row _ _ _ _ _ _ hBr]; rfl
      have z : wk.frozen? ⟨B, 5, none⟩ = false := frozen_of_row _ _ _ _ _ hBr
      have HB' := Lib.hid hBr
      have HG := Lib.hid hG
      clear hBr hG
      go_still_tail 8, (by kernel_rfl)
      change wpList _ _ _ _ _ (World.drew _)
      go_wp2_with fail
      clear c z
      obtain ⟨hBr, hG⟩ := store_step HB'.out HG.out 5 (.int .u32 (wv (s.f + r.f))) ([wV (s.a + r.a), wV (s.b + r.b), wV (s.c + r.c), wV (s.d + r.d), wV (s.e + r.e), wV (s.f + r.f), wV s.g, wV s.h] ++ rest) rfl
      clear HB' HG
      generalize hwk : (World.setCell _ _ _).drew = wk
      rw [hwk] at hBr hG
      clear hwk
      have c : wk.cell? ⟨B, 6, none⟩ = some (.int .u32 (wv s.g)) := by rw [cell_of_row _ _ _ _ _ _ hBr]; rfl
      have z : wk.frozen? ⟨B, 6, none⟩ = false := frozen_of_row _ _ _ _ _ hBr
      have HB' := Lib.hid hBr
      have HG := Lib.hid hG
      clear hBr hG
      go_still_tail 8, (by kernel_rfl)
      change wpList _ _ _ _ _ (World.drew _)
      go_wp2_with fail
      clear c z
      obtain ⟨hBr, hG⟩ := store_step HB'.out HG.out 6 (.int .u32 (wv (s.g + r.g))) ([wV (s.a + r.a), wV (s.b + r.b), wV (s.c + r.c), wV (s.d + r.d), wV (s.e + r.e), wV (s.f + r.f), wV (s.g + r.g), wV s.h] ++ rest) rfl
      clear HB' HG
      generalize hwk : (World.setCell _ _ _).drew = wk
      rw [hwk] at hBr hG
      clear hwk
      have c : wk.cell? ⟨B, 7, none⟩ = some (.int .u32 (wv s.h)) := by rw [cell_of_row _ _ _ _ _ _ hBr]; rfl
      have z : wk.frozen? ⟨B, 7, none⟩ = false := frozen_of_row _ _ _ _ _ hBr
      have HB' := Lib.hid hBr
      have HG := Lib.hid hG
      clear hBr hG
      go_still_tail 8, (by kernel_rfl)
      change wpList _ _ _ _ _ (World.drew _)
      go_wp2_with fail
      clear c z
      obtain ⟨hBr, hG⟩ := store_step HB'.out HG.out 7 (.int .u32 (wv (s.h + r.h))) ([wV (s.a + r.a), wV (s.b + r.b), wV (s.c + r.c), wV (s.d + r.d), wV (s.e + r.e), wV (s.f + r.f), wV (s.g + r.g), wV (s.h + r.h)] ++ rest) rfl
      clear HB' HG
      generalize hwk : (World.setCell _ _ _).drew = wk
      rw [hwk] at hBr hG
      clear hwk
      have HB' := Lib.hid hBr
      have HG := Lib.hid hG
      clear hBr hG
      go_end0
      refine ⟨rfl, ?_, HG.out⟩
      have e : compress s b = s.plus r := by unfold compress; rw [HR.out]
      rw [e]
      exact HB'.out
end Go.Proofs.YtckkcpplanfmhaaGreatDoor.Sha

/-
  Plain mathematics: a message as a list of bytes, padded, cut into blocks, and its digest. No program is imported. No conditions.
-/
namespace Go.Proofs.YtckkcpplanfmhaaGreatDoor.Sha
open Go
/-- Block number i of a message. -/
def blk (l : List UInt8) (i : Nat) : Nat → UInt8 := fun j => l.getD (64 * i + j) 0
/-- What the first n blocks come to. -/
def blocks (l : List UInt8) : Nat → St
  | 0 => start
  | n + 1 => compress (blocks l n) (blk l n)
def padLen (n : Nat) : Nat := if n % 64 < 56 then 56 - n % 64 else 120 - n % 64
theorem padLen_bd (n : Nat) : 1 ≤ padLen n ∧ padLen n ≤ 64 ∧ (n + padLen n + 8) % 64 = 0 := by unfold padLen; split <;> omega
def pad (n : Nat) : List UInt8 := 0x80 :: List.replicate (padLen n - 1) 0
theorem pad_length (n : Nat) : (pad n).length = padLen n := by have := padLen_bd n; simp [pad]; omega
def lenByte (n k : Nat) : UInt8 := UInt8.ofNat (8 * n / 2 ^ (56 - 8 * k))
def len8 (n : Nat) : List UInt8 := [lenByte n 0, lenByte n 1, lenByte n 2, lenByte n 3, lenByte n 4, lenByte n 5, lenByte n 6, lenByte n 7]
theorem len8_length (n : Nat) : (len8 n).length = 8 := rfl
def wordBytes (x : UInt32) : List UInt8 := [(x >>> UInt32.ofNat 24).toUInt8, (x >>> UInt32.ofNat 16).toUInt8, (x >>> UInt32.ofNat 8).toUInt8, x.toUInt8]
def St.list (s : St) : List UInt32 := [s.a, s.b, s.c, s.d, s.e, s.f, s.g, s.h]
def St.bytes (s : St) : List UInt8 := s.list.flatMap wordBytes
/-- A message with all that stands behind it. -/
def padded (l : List UInt8) : List UInt8 := l ++ pad l.length ++ len8 l.length
theorem padded_length (l : List UInt8) : (padded l).length = l.length + padLen l.length + 8 := by simp [padded, pad_length, len8_length]; omega
/-- SHA-256. -/
def sha (l : List UInt8) : List UInt8 := (blocks (padded l) ((padded l).length / 64)).bytes
theorem St.list_length (s : St) : s.list.length = 8 := rfl
theorem St.cells_list (s : St) : s.cells = s.list.map wV := rfl
theorem bytes_length (s : St) : s.bytes.length = 32 := rfl
theorem sha_length (l : List UInt8) : (sha l).length = 32 := rfl
theorem rd_congr {b b' : Nat → UInt8} (h : ∀ j, j < 64 → b j = b' j) {t : Nat} (ht : t < 16) : rd b t = rd b' t := by
  unfold rd
  rw [h (4 * t) (by omega), h (4 * t + 1) (by omega), h (4 * t + 2) (by omega), h (4 * t + 3) (by omega)]
theorem row_congr {b b' : Nat → UInt8} (h : ∀ j, j < 64 → b j = b' j) : ∀ t, row b t = row b' t
  | 0 => rfl
  | t + 1 => by
    have ih := row_congr h t
    show row b t ++ [nextW b t (row b t)] = row b' t ++ [nextW b' t (row b' t)]
    rw [ih]
    unfold nextW
    split
    · rename_i ht; rw [rd_congr h ht]
    · rfl
theorem compress_congr {b b' : Nat → UInt8} (h : ∀ j, j < 64 → b j = b' j) (s : St) : compress s b = compress s b' := by
  unfold compress
  rw [row_congr h]
theorem blk_append (l r : List UInt8) (i j : Nat) (h : 64 * i + j < l.length) : blk (l ++ r) i j = blk l i j := by
  simp [blk, List.getD, List.getElem?_append_left h]
theorem blocks_append (l r : List UInt8) : ∀ n, 64 * n ≤ l.length → blocks (l ++ r) n = blocks l n
  | 0, _ => rfl
  | n + 1, h => by
    show compress (blocks (l ++ r) n) (blk (l ++ r) n) = compress (blocks l n) (blk l n)
    rw [blocks_append l r n (by omega), compress_congr (fun j hj => blk_append l r n j (by omega))]
/-- The next block, wherever its 64 bytes stand. -/
theorem blocks_next (l : List UInt8) (n : Nat) (b : Nat → UInt8) (h : ∀ j, j < 64 → b j = l.getD (64 * n + j) 0) : compress (blocks l n) b = blocks l (n + 1) :=
  compress_congr h _
theorem bv_wv (x : UInt32) : IntKind.u8.wrap (wv x) = bv x.toUInt8 := by
  unfold bv wv
  rw [IntKind.wrap_u8', UInt32.toNat_toUInt8]
  simp
theorem bv_wv' (x : UInt32) : wv x % 256 = bv x.toUInt8 := by rw [← bv_wv, IntKind.wrap_u8']
theorem wv_shr24 (x : UInt32) : wv x / 16777216 = wv (x >>> UInt32.ofNat 24) := wv_shr x 24 (by omega)
theorem wv_shr16 (x : UInt32) : wv x / 65536 = wv (x >>> UInt32.ofNat 16) := wv_shr x 16 (by omega)
theorem wv_shr8 (x : UInt32) : wv x / 256 = wv (x >>> UInt32.ofNat 8) := wv_shr x 8 (by omega)
/-- The bytes of the first k words. -/
def bytesTo (s : St) (k : Nat) : List UInt8 := (s.list.take k).flatMap wordBytes
theorem bytesTo_length (s : St) (k : Nat) (h : k ≤ 8) : (bytesTo s k).length = 4 * k := by
  match k, h with
  | 0, _ => rfl
  | 1, _ => rfl
  | 2, _ => rfl
  | 3, _ => rfl
  | 4, _ => rfl
  | 5, _ => rfl
  | 6, _ => rfl
  | 7, _ => rfl
  | 8, _ => rfl
theorem bytesTo_succ (s : St) (k : Nat) (h : k < 8) : bytesTo s (k + 1) = bytesTo s k ++ wordBytes (s.list.getD k 0) := by
  match k, h with
  | 0, _ => rfl
  | 1, _ => rfl
  | 2, _ => rfl
  | 3, _ => rfl
  | 4, _ => rfl
  | 5, _ => rfl
  | 6, _ => rfl
  | 7, _ => rfl
def outV (s : St) (k : Nat) : List Value := (bytesTo s k).map bV ++ List.replicate (32 - 4 * k) (bV 0)
theorem outV_split (s : St) (k : Nat) (h : k < 8) : outV s k = (bytesTo s k).map bV ++ (bV 0 :: bV 0 :: bV 0 :: bV 0 :: List.replicate (32 - 4 * (k + 1)) (bV 0)) := by
  unfold outV
  rw [show 32 - 4 * k = (32 - 4 * (k + 1)) + 4 by omega]
  rfl
theorem outV_next (s : St) (k : Nat) (h : k < 8) (x : UInt32) (hx : s.list.getD k 0 = x) : (bytesTo s k).map bV ++ ((wordBytes x).map bV ++ List.replicate (32 - 4 * (k + 1)) (bV 0)) = outV s (k + 1) := by
  unfold outV
  rw [bytesTo_succ s k h, hx, List.map_append, List.append_assoc]
theorem outV_all (s : St) : outV s 8 = s.bytes.map bV := by
  unfold outV
  simp
  rfl
end Go.Proofs.YtckkcpplanfmhaaGreatDoor.Sha

/-
  The small functions of digest's Writer: how long the padding is, the length in eight bytes, the words written down, how much was written. Conditions: sizes of messages that lie in memory.
-/
namespace Go.Proofs.YtckkcpplanfmhaaGreatDoor.Sha
open Go Go.RowKit
set_option maxRecDepth 100000 in
theorem pad_any (n : Nat) (w : World) (h : n ≤ 1152921504606846975) :
    Calls Tryz.prog 95 #[.int .i64 n] w fun e w' => e = .returned (.int .i64 (padLen n)) ∧ w = w' := by
  have hp : ((padLen n : Nat) : Int) = if (n : Int) % 64 < 56 then 56 - (n : Int) % 64 else 120 - (n : Int) % 64 := by
    unfold padLen
    split <;> split <;> omega
  by_cases hc : (n : Int) % 64 < 56
  · rw [if_pos hc] at hp
    have HP := Lib.hid hp
    clear hp
    go_enter Tryz.func95, Tryz.ntmps95
    go_wp2
    go_ret
    exact ⟨ret_int HP.out.symm, rfl⟩
  · rw [if_neg hc] at hp
    have HP := Lib.hid hp
    clear hp
    go_enter Tryz.func95, Tryz.ntmps95
    go_wp2
    go_ret
    exact ⟨ret_int HP.out.symm, rfl⟩
/-- k bytes of the length stand. -/
def LbInv (n B g : Nat) (w : World) (v i : Value) (wr : World) : Prop :=
  ∃ k : Nat, k ≤ 8 ∧ i = .int .i64 (56 - 8 * (k : Int)) ∧ v = .slice (some ⟨g, 0, none⟩) k 8 ∧ wr.ownsRow B 5 1 v k (((len8 n).take k).map bV) ∧ Below B w wr
theorem len8_snoc (n k : Nat) (h : k < 8) : (len8 n).take (k + 1) = (len8 n).take k ++ [lenByte n k] := by
  match k, h with
  | 0, _ => rfl
  | 1, _ => rfl
  | 2, _ => rfl
  | 3, _ => rfl
  | 4, _ => rfl
  | 5, _ => rfl
  | 6, _ => rfl
  | 7, _ => rfl
theorem lb_value (n k : Nat) : IntKind.u8.wrap (((n : Int) * 8) / 2 ^ (56 - 8 * k)) = bv (lenByte n k) := by
  unfold lenByte
  rw [← bv_of, Nat.mul_comm 8 n]
  congr 1
set_option maxRecDepth 100000 in
theorem bits_any (n : Nat) (w : World) (h : n ≤ 1152921504606846975) :
    Calls Tryz.prog 96 #[.int .i64 n] w fun e w' =>
      e = .returned (.slice (some ⟨w.heap.size, 0, none⟩) 8 8) ∧ w'.ownsRow w.heap.size 5 1 (.slice (some ⟨w.heap.size, 0, none⟩) 8 8) 8 ((len8 n).map bV) ∧ Below w.heap.size w w' := by
  obtain ⟨i0, hi, hz0, hz1, hz2⟩ := info_parts info_u8
  have hmk : ∀ w, (Instr.makeSlice 51 (.int .i64 0) (.int .i64 8)).run Tryz.prog w = .ok (.slice (some ⟨w.heap.size, 0, none⟩) 0 8) (w.alloc (.cells #[.int .u8 0, .int .u8 0, .int .u8 0, .int .u8 0, .int .u8 0, .int .u8 0, .int .u8 0, .int .u8 0] 5)) := fun _ => by kernel_rfl
  go_enter Tryz.func96, Tryz.ntmps96
  go_wp2_with fail
  clear hmk
  go_loopw [4, 5] (fun v i wr => LbInv n w.heap.size w.heap.size w v i wr) (fun _ i _ => (8 + intOf i).toNat)
  case atStart => exact ⟨0, by omega, rfl, rfl, World.ownsRow_made w _ 8 (Nat.le_refl _) (by decide) rfl, (Below.refl _ _).alloc (Nat.le_refl _) _⟩
  case round =>
    obtain ⟨k, hk, rfl, rfl, hown, hbel⟩ := hrel
    by_cases hlt : k < 8
    · have hv := lb_value n k
      have hv' : ((n : Int) * 8) / 2 ^ (56 - 8 * k) % 256 = bv (lenByte n k) := by rw [← hv, IntKind.wrap_u8']
      have hown1 := Lib.hid hown
      have hbel1 := Lib.hid hbel
      clear hown hbel
      go_wp2_with (at_builtin; refine wpList_append_fits _ rfl _ _ 51 rfl w.heap.size 5 i0 1 Tryz.underlying51 hi hz1 w.heap.size k 8 _ rfl (hown1.out.alloc _) ⟨wr.heap.size, 0, none⟩ 1 1 [.int .u8 (bv (lenByte n k))] rfl rfl (cell_one_new _ _ _) (one_u8 _) (by omega) ?_; intro w2 hown2 hgrow; have hown3 := Lib.hid hown2; have hgrow3 := Lib.hid hgrow; clear hown2 hgrow)
      go_roundw
      case rel =>
        refine ⟨k + 1, by omega, ?_, rfl, ?_, ?_⟩
        · exact congrArg (Value.int .i64) (by omega)
        · rw [len8_snoc n k hlt, List.map_append]
          exact hown3.out
        · have h1 : w.heap.size ≤ wr.heap.size := hbel1.out.size
          exact (hbel1.out.alloc h1 _).grown hgrow3.out (by simp; omega) (fun j hj => by cases hj; exact Nat.le_refl _)
      case measure => simp [intOf]; omega
    · have hk8 : k = 8 := by omega
      subst hk8
      have hown1 := Lib.hid hown
      have hbel1 := Lib.hid hbel
      clear hown hbel hk hlt
      go_wp2_with fail
      go_ret
      exact ⟨rfl, hown1.out, hbel1.out⟩
end Go.Proofs.YtckkcpplanfmhaaGreatDoor.Sha

/-
  digest.bytesOf writes the eight words down, the highest byte of each first; nothing that was there turns. No conditions.
-/
namespace Go.Proofs.YtckkcpplanfmhaaGreatDoor.Sha
open Go Go.RowKit
theorem set4 {w : World} {g T n : Nat} {A Z : List Value} (z0 z1 z2 z3 a b c d : Value) (hA : A.length = n) (h : w.heap[g]? = some (.cells (A ++ (z0 :: z1 :: z2 :: z3 :: Z)).toArray T (0, 0))) :
    ((((w.setCell ⟨g, n, none⟩ a).setCell ⟨g, n + 1, none⟩ b).setCell ⟨g, n + 2, none⟩ c).setCell ⟨g, n + 3, none⟩ d).heap[g]? = some (.cells (A ++ ([a, b, c, d] ++ Z)).toArray T (0, 0)) := by
  have h1 := heap_setCell_same w g n _ _ a h
  have e0 := set_mid A n 0 (z0 :: z1 :: z2 :: z3 :: Z) a hA
  rw [Nat.add_zero] at e0
  rw [List.setIfInBounds_toArray, e0] at h1
  have h2 := heap_setCell_same _ g (n + 1) _ _ b h1
  rw [List.setIfInBounds_toArray, set_mid A n 1 _ _ hA] at h2
  have h3 := heap_setCell_same _ g (n + 2) _ _ c h2
  rw [List.setIfInBounds_toArray, set_mid A n 2 _ _ hA] at h3
  have h4 := heap_setCell_same _ g (n + 3) _ _ d h3
  rw [List.setIfInBounds_toArray, set_mid A n 3 _ _ hA] at h4
  exact h4
def ByInv (s : St) (w : World) (i : Value) (wr : World) : Prop :=
  ∃ k : Nat, k ≤ 8 ∧ i = .int .i64 k ∧ wr.heap[w.heap.size + 1]? = some (.cells (outV s k).toArray 44 (0, 0)) ∧ Below w.heap.size w wr
attribute [local go_sem] wv_shr24 wv_shr16 wv_shr8 bv_wv bv_wv'
set_option maxRecDepth 100000 in
theorem bytes_any (s : St) (w : World) : Calls Tryz.prog 97 #[.agg s.cells.toArray] w fun e w' => e = .returned (.agg (s.bytes.map bV).toArray) ∧ Below w.heap.size w w' := by
  go_enter Tryz.func97, Tryz.ntmps97
  go_wp2_with (refine wpList_load_row rfl 131 (.tmp 1) rfl w.heap.size rfl 131 s.cells.toArray (0, 0) (.array 8 23) (heap_alloc2_old w _ _) Tryz.underlying131 rfl (by kernel_rfl) ?_; go_frame)
  go_loopw [6] (fun i wr => ByInv s w i wr) (fun i _ => 8 - (intOf i).toNat)
  case atStart => exact ⟨0, by omega, rfl, by rw [heap_alloc2_new]; rfl, ((Below.refl _ _).alloc (Nat.le_refl _) _).alloc (by simp) _⟩
  case round =>
    obtain ⟨k, hk, rfl, hrow, hbel⟩ := hrel
    by_cases hlt : k < 8
    · obtain ⟨x, hx⟩ : ∃ x, s.list.getD k 0 = x := ⟨_, rfl⟩
      have hn := outV_next s k hlt x hx
      have hix : ∀ W, (Instr.index 131 (.agg s.cells.toArray) (.int .i64 k)).run Tryz.prog W = .ok (.int .u32 (wv x)) W := fun W =>
        run_index_array 131 23 8 .u32 _ k _ Tryz.underlying131 Tryz.underlying23 (by kernel_rfl) hlt (by rw [St.cells_list, wV_get _ _ (by rw [St.list_length]; exact hlt), hx])
      rw [outV_split s k hlt] at hrow
      have hl : ((bytesTo s k).map bV).length = 4 * k := by rw [List.length_map, bytesTo_length s k hk]
      have g0 : wr.cell? ⟨w.heap.size + 1, 4 * k, none⟩ = some (bV 0) := by rw [cell_of_row _ _ _ _ _ _ hrow]; exact get_mid _ _ 0 _ hl
      have g1 : wr.cell? ⟨w.heap.size + 1, 4 * k + 1, none⟩ = some (bV 0) := by rw [cell_of_row _ _ _ _ _ _ hrow]; exact get_mid _ _ 1 _ hl
      have g2 : wr.cell? ⟨w.heap.size + 1, 4 * k + 2, none⟩ = some (bV 0) := by rw [cell_of_row _ _ _ _ _ _ hrow]; exact get_mid _ _ 2 _ hl
      have g3 : wr.cell? ⟨w.heap.size + 1, 4 * k + 3, none⟩ = some (bV 0) := by rw [cell_of_row _ _ _ _ _ _ hrow]; exact get_mid _ _ 3 _ hl
      have f0 := frozen_of_row wr (w.heap.size + 1) (4 * k) _ _ hrow
      have f1 := frozen_of_row wr (w.heap.size + 1) (4 * k + 1) _ _ hrow
      have f2 := frozen_of_row wr (w.heap.size + 1) (4 * k + 2) _ _ hrow
      have f3 := frozen_of_row wr (w.heap.size + 1) (4 * k + 3) _ _ hrow
      have HR := Lib.hid hrow
      have HW := Lib.hid hbel
      have HN := Lib.hid hn
      have HL := Lib.hid hl
      clear hrow hbel hn hl hx
      go_wp2_with fail
      go_roundw
      case rel =>
        refine ⟨k + 1, by omega, by go_num, ?_, ?_⟩
        · rw [← HN.out]
          exact set4 _ _ _ _ _ _ _ _ HL.out HR.out
        · exact (((HW.out.setCell (Nat.le_succ _) _).setCell (Nat.le_succ _) _).setCell (Nat.le_succ _) _).setCell (Nat.le_succ _) _
      case measure => simp [intOf]; omega
    · have hk8 : k = 8 := by omega
      rw [hk8, outV_all] at hrow
      have hge : ¬ (k : Int) < 8 := by omega
      have HR := Lib.hid hrow
      have HW := Lib.hid hbel
      have hl : (s.bytes.map bV).toArray.size = 32 := by simp [bytes_length]
      have HL := Lib.hid hl
      clear hrow hbel hk8 hk hlt hl
      go_wp2_with (first | (refine wpList_load_row rfl 44 (.tmp 2) rfl (w.heap.size + 1) rfl 44 (s.bytes.map bV).toArray (0, 0) (.array 32 5) HR.out Tryz.underlying44 rfl (by rw [HL.out]; kernel_rfl) ?_; go_frame) | (refine wpList_store_row rfl 44 (.tmp 2) (.tmp 37) rfl (w.heap.size + 1) (s.bytes.map bV).toArray rfl rfl 44 (s.bytes.map bV).toArray HR.out (by rw [HL.out]; kernel_rfl) rfl (bV_one _) ?_; go_frame))
      refine bodyPost_ret (results_cell_row rfl _ _ (w.heap.size + 1) 44 (s.bytes.map bV).toArray (0, 0) (.array 32 5) rfl (setRow_heap _ _ _ _ _ _ HR.out) Tryz.underlying44 rfl (by rw [HL.out]; kernel_rfl)) rfl ⟨rfl, below_setRow HW.out (Nat.le_succ _) _⟩
end Go.Proofs.YtckkcpplanfmhaaGreatDoor.Sha

/-
  digest's Writer.Write takes bytes behind those that came before: what the whole blocks came to, what is left over and how much was written stand as they should; nothing else that was there turns. Conditions: the bytes lie where the slice says, in another block of memory than the Writer; the table is there; all bytes together are fewer than 2^60.
-/
namespace Go.Proofs.YtckkcpplanfmhaaGreatDoor.Sha
open Go Go.RowKit
/-- A Writer's cells: eight words, 64 bytes, how much was written. -/
def WCells (w : World) (B : Nat) (s : St) (p : List UInt8) (n : Nat) : Prop :=
  p.length = 64 ∧ w.heap[B]? = some (.cells (s.cells ++ (p.map bV ++ [Value.int .i64 n])).toArray 134 (0, 0))
/-- A Writer that took the bytes l. -/
def WInv (w : World) (B : Nat) (l : List UInt8) : Prop :=
  ∃ s p, WCells w B s p l.length ∧ (l ≠ [] → s = blocks l (l.length / 64)) ∧ p.take (l.length % 64) = l.drop (64 * (l.length / 64))
theorem WCells.size {w : World} {B : Nat} {s : St} {p : List UInt8} {n : Nat} (h : WCells w B s p n) : w.cell? ⟨B, 72, none⟩ = some (.int .i64 n) := by
  rw [cell_of_row _ _ _ _ _ _ h.2, List.getElem?_toArray, List.getElem?_append_right (by rw [St.cells_length]; omega), List.getElem?_append_right (by rw [St.cells_length, List.length_map, h.1]; omega), St.cells_length, List.length_map, h.1]
  rfl
theorem WCells.byte {w : World} {B : Nat} {s : St} {p : List UInt8} {n : Nat} (h : WCells w B s p n) (j : Nat) (hj : j < 64) : w.cell? ⟨B, 8 + j, none⟩ = some (.int .u8 (bv (p.getD j 0))) := by
  rw [cell_of_row _ _ _ _ _ _ h.2, List.getElem?_toArray, List.getElem?_append_right (by rw [St.cells_length]; omega), St.cells_length, List.getElem?_append_left (by rw [List.length_map, h.1]; omega), List.getElem?_map, show 8 + j - 8 = j by omega,
    List.getElem?_eq_getElem (by rw [h.1]; exact hj)]
  simp [bV, List.getD, List.getElem?_eq_getElem (show j < p.length by rw [h.1]; exact hj)]
theorem WCells.frozen {w : World} {B : Nat} {s : St} {p : List UInt8} {n : Nat} (h : WCells w B s p n) (j : Nat) : w.frozen? ⟨B, j, none⟩ = false := frozen_of_row _ _ _ _ _ h.2
theorem WCells.there {w : World} {B : Nat} {s : St} {p : List UInt8} {n : Nat} (h : WCells w B s p n) : w.there B 0 8 := fun j hj =>
  ⟨by rw [cell_of_row _ _ _ _ _ _ h.2, List.getElem?_toArray, List.getElem?_append_left (by rw [St.cells_length]; omega), List.getElem?_eq_getElem (by rw [St.cells_length]; omega)]; rfl, h.frozen _⟩
theorem WCells.setSize {w : World} {B : Nat} {s : St} {p : List UInt8} {n : Nat} (h : WCells w B s p n) (m : Nat) : WCells (w.setCell ⟨B, 72, none⟩ (.int .i64 m)) B s p m := by
  refine ⟨h.1, ?_⟩
  rw [heap_setCell_same _ _ _ _ _ _ h.2, List.setIfInBounds_toArray, set_mid s.cells 8 64 _ _ (St.cells_length s), set_mid (p.map bV) 64 0 _ _ (by rw [List.length_map, h.1])]
  rfl
theorem WCells.words {w : World} {B : Nat} {s : St} {p : List UInt8} {n : Nat} (h : WCells w B s p n) (s' : St) : WCells (w.setCells B 0 s'.cells) B s' p n := by
  refine ⟨h.1, ?_⟩
  rw [setCells_heap B _ _ 0 _ _ h.2 (by simp [St.cells_length])]
  simp [splice, St.cells_length]
  rfl
theorem WCells.kept {w w' : World} {B : Nat} {s : St} {p : List UInt8} {n : Nat} (h : WCells w B s p n) (hb : Below w.heap.size w w') : WCells w' B s p n :=
  ⟨h.1, by rw [hb.block B (Array.getElem?_eq_some_iff.1 h.2).1]; exact h.2⟩
theorem splice_part (s : St) (p : List UInt8) (x : Value) (o : Nat) (cs : List UInt8) (hp : p.length = 64) (h : o + cs.length ≤ 64) :
    splice (s.cells ++ (p.map bV ++ [x])) (8 + o) (cs.map bV) = s.cells ++ ((splice p o cs).map bV ++ [x]) := by
  have e1 : (s.cells ++ (p.map bV ++ [x])).take (8 + o) = s.cells ++ (p.take o).map bV := by
    rw [List.take_append, List.take_of_length_le (by rw [St.cells_length]; omega), St.cells_length, show 8 + o - 8 = o by omega, List.take_append, List.length_map, hp, show o - 64 = 0 by omega]
    simp
  have e2 : (s.cells ++ (p.map bV ++ [x])).drop (8 + o + (cs.map bV).length) = (p.drop (o + cs.length)).map bV ++ [x] := by
    rw [List.length_map, List.drop_append, List.drop_of_length_le (by rw [St.cells_length]; omega), St.cells_length, show 8 + o + cs.length - 8 = o + cs.length by omega, List.drop_append, List.length_map, hp, show o + cs.length - 64 = 0 by omega]
    simp
  unfold splice
  rw [e1, e2]
  simp
theorem splice_take {p cs : List UInt8} {o : Nat} (h : o + cs.length ≤ p.length) : (splice p o cs).take (o + cs.length) = p.take o ++ cs := by
  have hl : (p.take o).length = o := by rw [List.length_take]; omega
  unfold splice
  rw [← List.append_assoc, List.take_append_of_le_length (by rw [List.length_append, hl]; omega), List.take_of_length_le (by rw [List.length_append, hl]; omega)]
theorem winv_short {w : World} {B : Nat} {s : St} {p l bs : List UInt8} (hs : s = blocks l (l.length / 64)) (hp : p.take (l.length % 64) = l.drop (64 * (l.length / 64))) (h : l.length % 64 + bs.length < 64)
    (hw : WCells w B s (splice p (l.length % 64) bs) (l.length + bs.length)) (h64 : p.length = 64) : WInv w B (l ++ bs) := by
  have e1 : (l ++ bs).length / 64 = l.length / 64 := by rw [List.length_append]; omega
  have e2 : (l ++ bs).length % 64 = l.length % 64 + bs.length := by rw [List.length_append]; omega
  refine ⟨s, _, by rw [List.length_append]; exact hw, fun _ => ?_, ?_⟩
  · rw [e1, blocks_append l bs _ (by omega)]; exact hs
  · rw [e2, e1, splice_take (by omega), hp, List.drop_append_of_le_length (by omega)]
theorem full_get {p l bs : List UInt8} (hp : p.take (l.length % 64) = l.drop (64 * (l.length / 64))) (h64 : p.length = 64) (h : 64 ≤ l.length % 64 + bs.length) (j : Nat) (hj : j < 64) :
    (splice p (l.length % 64) (bs.take (64 - l.length % 64))).getD j 0 = (l ++ bs).getD (64 * (l.length / 64) + j) 0 := by
  have hl : (bs.take (64 - l.length % 64)).length = 64 - l.length % 64 := by rw [List.length_take]; omega
  have e : splice p (l.length % 64) (bs.take (64 - l.length % 64)) = l.drop (64 * (l.length / 64)) ++ bs.take (64 - l.length % 64) := by
    have e0 := splice_take (p := p) (cs := bs.take (64 - l.length % 64)) (o := l.length % 64) (by rw [hl]; omega)
    rw [hl, List.take_of_length_le (by rw [length_splice _ _ _ (by rw [hl]; omega)]; omega)] at e0
    rw [e0, hp]
  have hd : (l.drop (64 * (l.length / 64))).length = l.length % 64 := by rw [List.length_drop]; omega
  rw [e]
  simp only [List.getD, List.getElem?_append, hd]
  by_cases h1 : j < l.length % 64
  · rw [if_pos h1, if_pos (by omega), List.getElem?_drop]
  · rw [if_neg h1, if_neg (by omega), List.getElem?_take_of_lt (by omega)]
    congr 2
    omega
theorem winv_end {w : World} {B m : Nat} {p L rem : List UInt8} (hm : m = L.length / 64) (hr : rem = L.drop (64 * m)) (h64 : p.length = 64) (hw : WCells w B (blocks L m) (splice p 0 rem) L.length) : WInv w B L := by
  subst hm hr
  have hl : (L.drop (64 * (L.length / 64))).length = L.length % 64 := by rw [List.length_drop]; omega
  refine ⟨_, _, hw, fun _ => rfl, ?_⟩
  have := splice_take (p := p) (cs := L.drop (64 * (L.length / 64))) (o := 0) (by omega)
  rw [Nat.zero_add, hl] at this
  rw [this]
  simp
theorem KTab.kept {w w' : World} {B : Nat} (h : KTab w) (hg : w.grownBy w' (some B)) (hB : B ≠ 14) : KTab w' := fun t ht =>
  hg.cell (h t ht) (fun e => hB (Option.some.inj e).symm)
/-- What stands when c bytes of bs are worked in, at a block's end. -/
def WrInv (l bs : List UInt8) (bb off cap B N : Nat) (w : World) (v : Value) (wr : World) : Prop :=
  ∃ c ad p', c ≤ bs.length ∧ (l.length + c) % 64 = 0 ∧ v = .slice (some ad) (bs.length - c) (cap - c) ∧ (c < bs.length → ad = ⟨bb, off + c, none⟩) ∧ WCells wr B (blocks (l ++ bs) ((l.length + c) / 64)) p' N ∧ w.grownBy wr (some B)
theorem WCells.mk' {w' : World} {B : Nat} {s' : St} {p' : List UInt8} {n : Nat} (hp : p'.length = 64)
    (h : w'.heap[B]? = some (.cells (s'.cells ++ (p'.map bV ++ [Value.int .i64 n])).toArray 134 (0, 0))) : WCells w' B s' p' n := ⟨hp, h⟩
/-- Behind the copy into what is left over. -/
theorem part_cells {w : World} {B u N : Nat} {s : St} {p X : List UInt8} (hp : p.length = 64) (hl : u + X.length ≤ 64)
    (h : w.heap[B]? = some (.cells (splice (s.cells ++ (p.map bV ++ [Value.int .i64 N])) (8 + u) (X.map bV)).toArray 134 (0, 0))) : WCells w B s (splice p u X) N := by
  refine ⟨by rw [length_splice _ _ _ (by omega)]; exact hp, ?_⟩
  rw [h, splice_part s p _ u X hp hl]
theorem short_end {w : World} {B u n0 n1 N : Nat} {s : St} {p l bs X : List UInt8} (h0 : n0 = l.length) (h1 : n1 = bs.length) (hu : u = n0 % 64) (hN : N = n0 + n1) (hX : X = bs.take (64 - u)) (hsh : u + n1 < 64)
    (hs : s = blocks l (n0 / 64)) (hp : p.take (l.length % 64) = l.drop (64 * (l.length / 64))) (h64 : p.length = 64) (hw : WCells w B s (splice p u X) N) : WInv w B (l ++ bs) := by
  subst h0 h1 hu hN
  rw [List.take_of_length_le (by omega)] at hX
  subst hX
  exact winv_short hs hp hsh hw h64
theorem full_step {u n0 n1 tk : Nat} {s : St} {p l bs X : List UInt8} (h0 : n0 = l.length) (h1 : n1 = bs.length) (hu : u = n0 % 64) (hX : X = bs.take (64 - u)) (htk : tk = 64 - u) (hge : 64 ≤ u + n1) (hu0 : 0 < u)
    (hs : s = blocks l (n0 / 64)) (hp : p.take (l.length % 64) = l.drop (64 * (l.length / 64))) (h64 : p.length = 64) :
    compress s (fun j => (splice p u X).getD j 0) = blocks (l ++ bs) ((l.length + tk) / 64) := by
  subst h0 h1 hu hX htk hs
  rw [show (l.length + (64 - l.length % 64)) / 64 = l.length / 64 + 1 by omega, ← blocks_append l bs _ (by omega)]
  exact blocks_next _ _ _ (fun j hj => full_get hp h64 hge j hj)
theorem grownBy_of_drew {a w w' : World} {row : Option Nat} (h : a.grownBy w row) (k : w.drew.grownBy w' row) : a.grownBy w' row := grownBy_trans h ⟨k.os, k.tape, k.output, k.size, k.block⟩
def lenOf : Value → Nat
  | .slice _ n _ => n
  | _ => 0
theorem round_src {l bs : List UInt8} {c m j : Nat} (hm : m = (l.length + c) / 64) (h64 : (l.length + c) % 64 = 0) (_h : c + j < bs.length) : (l ++ bs).getD (64 * m + j) 0 = bs.getD (c + j) 0 := by
  simp only [List.getD]
  rw [List.getElem?_append_right (by omega)]
  congr 2
  omega
set_option maxHeartbeats 1000000 in
set_option maxRecDepth 100000 in
theorem write_some (l bs : List UInt8) (bb off cap B : Nat) (w : World) (hk : KTab w) (hB0 : B ≠ 14) (hbb : bb ≠ B) (hcap : bs.length ≤ cap) (hlen : l.length + bs.length ≤ 1152921504606846975)
    (hinv : WInv w B l) (hsrc : ∀ j, j < bs.length → w.cell? ⟨bb, off + j, none⟩ = some (.int .u8 (bv (bs.getD j 0)))) :
    Calls Tryz.prog 59 #[.pointer (some ⟨B, 0, none⟩), .slice (some ⟨bb, off, none⟩) bs.length cap] w fun e w' =>
      e = .returned (.tuple #[]) ∧ WInv w' B (l ++ bs) ∧ w.grownBy w' (some B) := by
  obtain ⟨s, p, hc, hs, hp⟩ := hinv
  have c72 := hc.size
  have HK := Lib.hid hk
  have HC := Lib.hid hc
  have HS := Lib.hid hs
  have HP := Lib.hid hp
  have HSRC := Lib.hid hsrc
  clear hk hc hs hp hsrc
  obtain ⟨n0, hn0⟩ : ∃ n0, n0 = l.length := ⟨_, rfl⟩
  obtain ⟨n1, hn1⟩ : ∃ n1, n1 = bs.length := ⟨_, rfl⟩
  rw [← hn0] at hlen c72
  rw [← hn1] at hlen hcap ⊢
  have HN0 := Lib.hid hn0
  have HN1 := Lib.hid hn1
  clear hn0 hn1
  go_enter Tryz.func59, Tryz.ntmps59
  go_upto_if 10 with (fail)
  go_cut [] (fun wc => ∃ s', WCells wc B s' p n0 ∧ s' = blocks l (n0 / 64) ∧ w.grownBy wc (some B))
  case first =>
    by_cases h0 : n0 = 0
    · have hz : ((n0 : Int) == 0) = true := by rw [beq_iff_eq]; omega
      clear h0
      go_wp2_with fail
      refine (start_any _).mono ?_
      rintro e w1 ⟨rfl, hb1⟩
      have HC1 : Hid (WCells w1 B s p n0) := by rw [HN0.out]; exact HC.out.kept hb1
      have HB1 := Lib.hid hb1
      clear hb1 c72
      go_wp2_with (refine wpList_store_mid rfl 131 (.tmp 14) (.tmp 12) rfl B 0 start.cells.toArray rfl rfl HC1.out.there (by kernel_rfl) (by kernel_rfl) ?_; go_frame)
      go_meet
      refine ⟨start, HC1.out.words start, ?_, grownBy_trans (grownBy_of_below HB1.out _) (grownBy_setCells B _ 0 w1)⟩
      have : n0 / 64 = 0 := by have := beq_iff_eq.1 hz; omega
      rw [this]
      rfl
    · have hz : ((n0 : Int) == 0) = false := by rw [beq_eq_false_iff_ne]; omega
      go_wp2_with fail
      go_meet
      refine ⟨s, by rw [HN0.out]; exact HC.out, ?_, grownBy_refl _ _⟩
      rw [HN0.out]
      exact HS.out (fun e => h0 (by rw [HN0.out, e]; rfl))
  case rest =>
    obtain ⟨s', hc, hs', hg⟩ := hcut
    obtain ⟨u, hu⟩ : ∃ u, u = n0 % 64 := ⟨_, rfl⟩
    obtain ⟨N, hN⟩ : ∃ N, N = n0 + n1 := ⟨_, rfl⟩
    have hmod : (n0 : Int).tmod 64 = (u : Int) := by rw [Int.tmod_eq_emod_of_nonneg (by omega)]; omega
    have hsum : (n0 : Int) + (n1 : Int) = (N : Int) := by omega
    have hu64 : u < 64 := by omega
    have c72' := hc.size
    have z72 := hc.frozen 72
    have HC1 := Lib.hid hc
    have HS1 := Lib.hid hs'
    have HG := Lib.hid hg
    have HU := Lib.hid hu
    have HN := Lib.hid hN
    clear hc hs' hg hu hN c72
    go_upto_if 30 with (fail)
    clear c72' z72
    go_cut [1] (fun v wx => WrInv l bs bb off cap B N w v wx)
    case first =>
      have HC2 : Hid (WCells (wc.setCell ⟨B, 72, none⟩ (.int .i64 N)) B s' p N) := HC1.out.setSize N
      have HG2 : Hid (w.grownBy (wc.setCell ⟨B, 72, none⟩ (.int .i64 N)) (some B)) := grownBy_trans HG.out (grownBy_setCells B [.int .i64 N] 72 wc)
      generalize wc.setCell ⟨B, 72, none⟩ (.int .i64 N) = w2 at HC2 HG2 ⊢
      clear HC1 HG hmod hsum
      by_cases h0 : u = 0
      · have hz : ¬ (0 : Int) < u := by omega
        clear h0
        go_wp2_with fail
        go_meet
        have hn0 := HN0.out
        have hn1 := HN1.out
        have hu1 := HU.out
        refine ⟨0, ⟨bb, off, none⟩, p, by omega, by omega, by rw [← hn1]; rfl, fun _ => rfl, ?_, HG2.out⟩
        rw [Nat.add_zero, ← hn0, blocks_append l bs _ (by omega), ← HS1.out]
        exact HC2.out
      · have hz : (0 : Int) < u := by omega
        clear h0
        obtain ⟨tk, htk⟩ : ∃ tk, tk = Nat.min n1 (64 - u) := ⟨_, rfl⟩
        obtain ⟨X, hX⟩ : ∃ X, X = bs.take (64 - u) := ⟨_, rfl⟩
        have hXl : (X.map bV).length = tk := by
          rw [hX, htk, HN1.out, List.length_map, List.length_take, Nat.min_comm]
        have HX := Lib.hid hX
        have HXL := Lib.hid hXl
        have HTK := Lib.hid htk
        have htk1 : tk ≤ n1 := by rw [htk]; exact Nat.min_le_left _ _
        have htk2 : tk ≤ 64 - u := by rw [htk]; exact Nat.min_le_right _ _
        have HSRC2 : Hid (∀ j v, (X.map bV)[j]? = some v → w2.cell? ((⟨bb, off, none⟩ : Addr).add j) = some v) := by
          intro j v hj
          have hj1 : j < (X.map bV).length := (List.getElem?_eq_some_iff.1 hj).1
          have hj2 : j < bs.length := by rw [hXl] at hj1; have := HN1.out; omega
          have hj3 : j < (bs.take (64 - u)).length := by rw [← hX]; rw [List.length_map] at hj1; exact hj1
          rw [Addr.add_mid, HG2.out.cell (HSRC.out j hj2) (fun e => hbb (Option.some.inj e)), ← hj, hX, List.getElem?_map, List.getElem?_eq_getElem hj3]
          simp [bV, List.getD, List.getElem?_eq_getElem hj2]
        have HFIT : Hid (8 + u + (X.map bV).length ≤ (s'.cells ++ (p.map bV ++ [Value.int .i64 N])).length) := by
          show _ ≤ _
          rw [hXl, List.length_append, List.length_append, List.length_map, HC2.out.1, St.cells_length]
          simp
          omega
        clear hX hXl htk
        by_cases hsh : u + n1 < 64
        · go_wp2_with ((with_reducible show wpList _ _ _ _ _ _); first | (refine wpList_slice_arr rfl 132 (.tmp 33) (.tmp 34) rfl 5 64 Tryz.underlying132 (by kernel_rfl) ⟨B, 8, none⟩ u rfl rfl hu64 ?_; rw [Addr.add_mid]; go_frame) | (refine wpList_copy_into rfl (.tmp 35) (.tmp 36) 51 51 rfl 5 Tryz.underlying51 (by kernel_rfl) (some ⟨B, 8 + u, none⟩) (some ⟨bb, off, none⟩) (64 - u) (64 - u) n1 cap rfl rfl B (8 + u) _ 134 HC2.out.2 (X.map bV) (HXL.out.trans HTK.out) (fun _ => ⟨rfl, _, rfl, HSRC2.out⟩) HFIT.out (bV_one' X) ?_; rw [HXL.out]; intro w3 hrow hgrow; go_frame))
          refine bodyPost_ret (results_none rfl _ _ _) rfl ?_
          have hXb : u + X.length ≤ 64 := by have := HXL.out; rw [List.length_map] at this; omega
          exact ⟨rfl, short_end HN0.out HN1.out HU.out HN.out HX.out hsh HS1.out HP.out HC2.out.1 (part_cells HC2.out.1 hXb hrow.out), grownBy_trans HG2.out hgrow.out⟩
        · have htk3 : tk = 64 - u := by
            have e := HTK.out
            rw [e]
            exact Nat.min_eq_right (by omega)
          have hge : ¬ (u : Int) + (tk : Int) < 64 := by omega
          have HTK3 := Lib.hid htk3
          clear hsh htk3
          go_upto_region 7 with ((with_reducible show wpList _ _ _ _ _ _); first | (refine wpList_slice_arr rfl 132 (.tmp 33) (.tmp 34) rfl 5 64 Tryz.underlying132 (by kernel_rfl) ⟨B, 8, none⟩ u rfl rfl hu64 ?_; rw [Addr.add_mid]; go_frame) | (refine wpList_copy_into rfl (.tmp 35) (.tmp 36) 51 51 rfl 5 Tryz.underlying51 (by kernel_rfl) (some ⟨B, 8 + u, none⟩) (some ⟨bb, off, none⟩) (64 - u) (64 - u) n1 cap rfl rfl B (8 + u) _ 134 HC2.out.2 (X.map bV) (HXL.out.trans HTK.out) (fun _ => ⟨rfl, _, rfl, HSRC2.out⟩) HFIT.out (bV_one' X) ?_; rw [HXL.out]; intro w3 hrow hgrow; go_frame))
          have hXb : u + X.length ≤ 64 := by have := HXL.out; rw [List.length_map] at this; omega
          have HC3 := Lib.hid (part_cells HC2.out.1 hXb hrow.out)
          have HG3 := Lib.hid (grownBy_trans HG2.out hgrow.out)
          have hK3 : KTab w3 := HK.out.kept HG3.out hB0
          have HK3 : Hid (KTab w3.drew) := hK3
          clear hK3
          have HC4 : Hid (WCells w3.drew B s' (splice p u X) N) := HC3.out
          clear hrow hgrow
          go_still_tail 7, (by kernel_rfl)
          change wpList _ _ _ _ _ (World.drew _)
          go_wp2_with fail
          refine (mix_any s' (fun j => (splice p u X).getD j 0) B 8 _ B 134 _ w3.drew HK3.out HC4.out.2 (fun j hj => HC4.out.byte j hj)).mono ?_
          rintro e w4 ⟨rfl, hB4, hg4⟩
          have HB4 := Lib.hid hB4
          have HG4 := Lib.hid hg4
          clear hB4 hg4
          go_wp2_with ((with_reducible show wpList _ _ _ _ _ _); refine wpList_slice_lo rfl 51 (.tmp 50) (.tmp 51) rfl 5 Tryz.underlying51 (by kernel_rfl) ⟨bb, off, none⟩ n1 cap tk rfl rfl htk1 ?_; intro ad had; go_frame)
          go_meet
          have e := full_step HN0.out HN1.out HU.out HX.out HTK3.out (by have := HTK3.out; omega) (by omega) HS1.out HP.out HC2.out.1
          have hn0 := HN0.out
          have hn1 := HN1.out
          have hu1 := HU.out
          have htk3 := HTK3.out
          refine ⟨tk, ad, splice p u X, by omega, by omega, by rw [← hn1], fun hlt => ?_, ?_, grownBy_of_drew HG3.out HG4.out⟩
          · rw [had.out (by omega), Addr.add_mid]
          · rw [← e]
            exact WCells.mk' HC3.out.1 HB4.out
    case rest =>
      have HCUT := Lib.hid hcut
      clear hcut HC1 HG HS1 HC HS HP HU hmod hsum hu64
      go_wp2_with fail
      go_loopw [1] (fun v wr => WrInv l bs bb off cap B N w v wr) (fun v _ => lenOf v)
      case atStart => exact HCUT.out
      case round =>
        clear HCUT
        obtain ⟨c, ad, p', hc1, hc2, rfl, hc3, hc4, hc5⟩ := hrel
        obtain ⟨r, hr⟩ : ∃ r, r = bs.length - c := ⟨_, rfl⟩
        obtain ⟨cp, hcp⟩ : ∃ cp, cp = cap - c := ⟨_, rfl⟩
        obtain ⟨m, hm⟩ : ∃ m, m = (l.length + c) / 64 := ⟨_, rfl⟩
        rw [← hr, ← hcp]
        rw [← hm] at hc4
        have hcp' : r ≤ cp := by have := HN1.out; omega
        have HR := Lib.hid hr
        have HCP := Lib.hid hcp
        have HM := Lib.hid hm
        have HC64 := Lib.hid hc2
        have HAD := Lib.hid hc3
        have HC := Lib.hid hc4
        have HG := Lib.hid hc5
        clear hr hcp hm hc2 hc3 hc4 hc5
        by_cases hlt : 64 ≤ r
        · have hcb : c < bs.length := by have := HR.out; omega
          obtain rfl := HAD.out hcb
          have hcp0 : ¬ cp = 0 := by omega
          have hcp64 : (64 : Int) ≤ cp := by omega
          have hlt' : (64 : Int) ≤ r := by omega
          go_wp2_with fail
          go_still_tail 5, (by kernel_rfl)
          change wpList _ _ _ _ _ (World.drew _)
          go_wp2_with fail
          have hK : KTab wr := HK.out.kept HG.out hB0
          have HKr : Hid (KTab wr.drew) := hK
          have HCr : Hid (WCells wr.drew B (blocks (l ++ bs) m) p' N) := HC.out
          have hS : ∀ j, j < 64 → wr.cell? ⟨bb, off + c + j, none⟩ = some (.int .u8 (bv ((l ++ bs).getD (64 * m + j) 0))) := fun j hj => by
            have hr := HR.out
            rw [round_src HM.out HC64.out (by omega), Nat.add_assoc]
            exact HG.out.cell (HSRC.out (c + j) (by omega)) (fun e => hbb (Option.some.inj e))
          have HS : Hid (∀ j, j < 64 → wr.drew.cell? ⟨bb, off + c + j, none⟩ = some (.int .u8 (bv ((l ++ bs).getD (64 * m + j) 0)))) := hS
          clear hK hS
          refine (mix_any (blocks (l ++ bs) m) (fun j => (l ++ bs).getD (64 * m + j) 0) bb (off + c) _ B 134 _ wr.drew HKr.out HCr.out.2 HS.out).mono ?_
          rintro e w4 ⟨rfl, hB4, hg4⟩
          have HB4 := Lib.hid hB4
          have HG4 := Lib.hid hg4
          clear hB4 hg4
          go_wp2_with ((with_reducible show wpList _ _ _ _ _ _); refine wpList_slice_lo rfl 51 (.tmp 62) (.const (.int .i64 64)) rfl 5 Tryz.underlying51 (by kernel_rfl) ⟨bb, off + c, none⟩ r cp 64 rfl rfl hlt ?_; intro ad had; go_frame)
          go_roundw
          case rel =>
            have hr := HR.out
            have hcp := HCP.out
            have hm := HM.out
            have h64 := HC64.out
            refine ⟨c + 64, ad, p', by omega, by omega, by rw [hr, hcp, Nat.sub_sub, Nat.sub_sub], fun hlt2 => ?_, ?_, grownBy_of_drew HG.out HG4.out⟩
            · rw [had.out (by omega), Addr.add_mid, Nat.add_assoc]
            · have e : (l.length + (c + 64)) / 64 = m + 1 := by omega
              rw [e, ← blocks_next (l ++ bs) m _ (fun j _ => rfl)]
              exact WCells.mk' HC.out.1 HB4.out
          case measure => simp [lenOf]; omega
        · have hge : ¬ (64 : Int) ≤ r := by omega
          obtain ⟨X, hX⟩ : ∃ X, X = bs.drop c := ⟨_, rfl⟩
          have hXl : (X.map bV).length = r := by rw [hX, HR.out, List.length_map, List.length_drop]
          have HX := Lib.hid hX
          have HXL := Lib.hid hXl
          have HSRC2 : Hid (0 < (X.map bV).length → ∃ a2, some ad = some a2 ∧ ∀ j v, (X.map bV)[j]? = some v → wr.cell? (a2.add j) = some v) := by
            intro h0
            have hr := HR.out
            obtain rfl := HAD.out (by omega)
            refine ⟨_, rfl, fun j v hj => ?_⟩
            have hj1 : j < (X.map bV).length := (List.getElem?_eq_some_iff.1 hj).1
            have hj2 : c + j < bs.length := by omega
            rw [Addr.add_mid, Nat.add_assoc, HG.out.cell (HSRC.out (c + j) hj2) (fun e => hbb (Option.some.inj e)), ← hj, hX, List.getElem?_map, List.getElem?_drop, List.getElem?_eq_getElem hj2]
            simp [bV, List.getD, List.getElem?_eq_getElem hj2]
          have HFIT : Hid (8 + (X.map bV).length ≤ ((blocks (l ++ bs) m).cells ++ (p'.map bV ++ [Value.int .i64 N])).length) := by
            show _ ≤ _
            rw [hXl, List.length_append, List.length_append, List.length_map, HC.out.1, St.cells_length]
            simp
            omega
          have HMIN : Hid (r = Nat.min r 64) := (Nat.min_eq_left (by omega)).symm
          clear hX hXl
          go_wp2_with ((with_reducible show wpList _ _ _ _ _ _); refine wpList_copy_into rfl (.tmp 67) (.tmp 68) 51 51 rfl 5 Tryz.underlying51 (by kernel_rfl) (some ⟨B, 8, none⟩) (some ad) 64 64 r cp rfl rfl B 8 _ 134 HC.out.2 (X.map bV) (HXL.out.trans HMIN.out) (fun h => ⟨rfl, HSRC2.out h⟩) HFIT.out (bV_one' X) ?_; rw [HXL.out]; intro w3 hrow hgrow; go_frame)
          go_end0
          have hr := HR.out
          have hm := HM.out
          have h64 := HC64.out
          have hn0 := HN0.out
          have hn1 := HN1.out
          have hN := HN.out
          have hXb : 0 + X.length ≤ 64 := by have := HXL.out; rw [List.length_map] at this; omega
          have hW := part_cells (u := 0) HC.out.1 hXb hrow.out
          have hL : (l ++ bs).length = N := by rw [List.length_append]; omega
          rw [← hL] at hW
          refine ⟨rfl, winv_end (m := m) (by rw [hL]; omega) ?_ HC.out.1 hW, grownBy_trans HG.out hgrow.out⟩
          have e1 : l.drop (64 * m) = [] := List.drop_of_length_le (by omega)
          rw [HX.out, List.drop_append, e1, List.nil_append]
          congr 1
          omega
end Go.Proofs.YtckkcpplanfmhaaGreatDoor.Sha

/-
  digest's Writer.Write of no bytes leaves what was taken as it is. Conditions: the Writer stands as it should; fewer than 2^60 bytes were taken.
-/
namespace Go.Proofs.YtckkcpplanfmhaaGreatDoor.Sha
open Go Go.RowKit
theorem write_nil_end {w wc : World} {B n0 u : Nat} {s' : St} {p l : List UInt8} (h0 : n0 = l.length) (hs : s' = blocks l (n0 / 64)) (hp : p.take (l.length % 64) = l.drop (64 * (l.length / 64))) (_hu : u = n0 % 64)
    (hw : WCells wc B s' p n0) (hg : w.grownBy wc (some B)) : WInv (wc.setCell ⟨B, 72, none⟩ (.int .i64 n0)) B l ∧ w.grownBy (wc.setCell ⟨B, 72, none⟩ (.int .i64 n0)) (some B) := by
  subst h0
  exact ⟨⟨s', p, hw.setSize _, fun _ => hs, hp⟩, grownBy_trans hg (grownBy_setCells B [.int .i64 l.length] 72 wc)⟩
set_option maxHeartbeats 1000000 in
set_option maxRecDepth 100000 in
theorem write_none (l : List UInt8) (sp : Option Addr) (cap B : Nat) (w : World) (hlen : l.length ≤ 1152921504606846975) (hinv : WInv w B l) :
    Calls Tryz.prog 59 #[.pointer (some ⟨B, 0, none⟩), .slice sp 0 cap] w fun e w' =>
      e = .returned (.tuple #[]) ∧ WInv w' B l ∧ w.grownBy w' (some B) := by
  obtain ⟨s, p, hc, hs, hp⟩ := hinv
  have c72 := hc.size
  have HC := Lib.hid hc
  have HS := Lib.hid hs
  have HP := Lib.hid hp
  clear hc hs hp
  obtain ⟨n0, hn0⟩ : ∃ n0, n0 = l.length := ⟨_, rfl⟩
  rw [← hn0] at hlen c72
  have HN0 := Lib.hid hn0
  clear hn0
  go_enter Tryz.func59, Tryz.ntmps59
  go_upto_if 10 with (fail)
  go_cut [] (fun wc => ∃ s', WCells wc B s' p n0 ∧ s' = blocks l (n0 / 64) ∧ w.grownBy wc (some B))
  case first =>
    by_cases h0 : n0 = 0
    · have hz : ((n0 : Int) == 0) = true := by rw [beq_iff_eq]; omega
      clear h0
      go_wp2_with fail
      refine (start_any _).mono ?_
      rintro e w1 ⟨rfl, hb1⟩
      have HC1 : Hid (WCells w1 B s p n0) := by rw [HN0.out]; exact HC.out.kept hb1
      have HB1 := Lib.hid hb1
      clear hb1 c72
      go_wp2_with ((with_reducible show wpList _ _ _ _ _ _); refine wpList_store_mid rfl 131 (.tmp 14) (.tmp 12) rfl B 0 start.cells.toArray rfl rfl HC1.out.there (by kernel_rfl) (by kernel_rfl) ?_; go_frame)
      go_meet
      refine ⟨start, HC1.out.words start, ?_, grownBy_trans (grownBy_of_below HB1.out _) (grownBy_setCells B _ 0 w1)⟩
      have : n0 / 64 = 0 := by have := beq_iff_eq.1 hz; omega
      rw [this]
      rfl
    · have hz : ((n0 : Int) == 0) = false := by rw [beq_eq_false_iff_ne]; omega
      go_wp2_with fail
      go_meet
      refine ⟨s, by rw [HN0.out]; exact HC.out, ?_, grownBy_refl _ _⟩
      rw [HN0.out]
      exact HS.out (fun e => h0 (by rw [HN0.out, e]; rfl))
  case rest =>
    obtain ⟨s', hc, hs', hg⟩ := hcut
    obtain ⟨u, hu⟩ : ∃ u, u = n0 % 64 := ⟨_, rfl⟩
    have hmod : (n0 : Int).tmod 64 = (u : Int) := by rw [Int.tmod_eq_emod_of_nonneg (by omega)]; omega
    have hu64 : u < 64 := by omega
    have c72' := hc.size
    have z72 := hc.frozen 72
    have HE := Lib.hid (write_nil_end HN0.out hs' HP.out hu hc hg)
    clear hc hs' hg hu c72
    go_upto_if 30 with (fail)
    clear c72' z72
    by_cases h0 : u = 0
    · have hz : ¬ (0 : Int) < u := by omega
      clear h0
      go_wp2_with fail
      refine wp_loop_rounds 1 ?_
      rw [rounds_succ]
      go_wp2_with ((with_reducible show wpList _ _ _ _ _ _); refine wpList_copy_nothing rfl (.tmp 67) (.tmp 68) 51 51 rfl 5 Tryz.underlying51 (by kernel_rfl) (some ⟨B, 8, none⟩) sp 64 64 0 cap rfl rfl (Nat.zero_min _) ?_; go_frame)
      go_end0
      exact ⟨rfl, HE.out⟩
    · have hz : (0 : Int) < u := by omega
      clear h0
      go_wp2_with ((with_reducible show wpList _ _ _ _ _ _); first | (refine wpList_slice_arr rfl 132 (.tmp 33) (.tmp 34) rfl 5 64 Tryz.underlying132 (by kernel_rfl) ⟨B, 8, none⟩ u rfl rfl hu64 ?_; rw [Addr.add_mid]; go_frame) | (refine wpList_copy_nothing rfl (.tmp 35) (.tmp 36) 51 51 rfl 5 Tryz.underlying51 (by kernel_rfl) (some ⟨B, 8 + u, none⟩) sp (64 - u) (64 - u) 0 cap rfl rfl (Nat.zero_min _) ?_; go_frame))
      refine bodyPost_ret (results_none rfl _ _ _) rfl ?_
      exact ⟨rfl, HE.out⟩
end Go.Proofs.YtckkcpplanfmhaaGreatDoor.Sha
