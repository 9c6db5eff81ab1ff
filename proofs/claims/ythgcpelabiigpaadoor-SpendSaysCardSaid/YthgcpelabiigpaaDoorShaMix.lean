/-
  digest.startWords answers the eight words that the chapter gives; digest.mix works one block of 64 bytes into eight words that lie at the head of a block of memory, as the chapter gives it; nothing else that was there turns. Conditions: the bytes, the words and the table lie where they should.
-/
import Derived.WalkKit
import Derived.Deep.Light
import Derived.StillTailTactics
import Derived.LoopTactic
import Derived.RegionTactic
import Derived.Deep.QuietTactic
import Derived.BigQuiet
import Derived.Laws.CopyOwn
import Derived.Lib.Hide
import Derived.WalkSmall
import Derived.Maps.RangeWalk
import Derived.Deep.DeepFit
import Derived.Test.YthgcpelabiigpaaDoorShaSpread
namespace Go.Proofs.YthgcpelabiigpaaDoor.Sha
open Go Go.RowKit

theorem start_any (w : World) : Calls Tryd.prog 29 #[] w fun e w' => e = .returned (.agg start.cells.toArray) ∧ Below w.heap.size w w' := by
  go_enter Tryd.func29, Tryd.ntmps29
  go_wp2
  refine bodyPost_ret (results_cell_row rfl _ _ w.heap.size 46 start.cells.toArray (0, 0) (.array 8 25) rfl (by rw [heap_alloc_new]; rfl) Tryd.underlying46 rfl (by kernel_rfl)) rfl ⟨rfl, (Below.refl _ _).alloc (Nat.le_refl _) _⟩

/-- What stands at the head of each round: t rounds are done. -/
def MxInv (l : List UInt32) (s : St) (w : World) (va vb vc vd ve vf vg vh i : Value) (wr : World) : Prop :=
  ∃ t : Nat, t ≤ 64 ∧ i = .int .i64 t ∧ va = .int .u32 (wv (rounds l s t).a) ∧ vb = .int .u32 (wv (rounds l s t).b) ∧ vc = .int .u32 (wv (rounds l s t).c) ∧ vd = .int .u32 (wv (rounds l s t).d)
    ∧ ve = .int .u32 (wv (rounds l s t).e) ∧ vf = .int .u32 (wv (rounds l s t).f) ∧ vg = .int .u32 (wv (rounds l s t).g) ∧ vh = .int .u32 (wv (rounds l s t).h) ∧ Below w.heap.size w wr
/-- The table of the rounds' words. -/
def KTab (w : World) : Prop := ∀ t, t < 64 → w.cell? ⟨0, t, none⟩ = some (.int .u32 (wv (kW t)))

theorem after_spread {w w1 : World} (hb1 : Below w.heap.size w w1) (o : Obj) (cs old : Array Value) (T : TypeId) (ho : o = .cells old T (0, 0)) :
    Below w.heap.size w ((w1.alloc o).setRow w1.heap.size cs) ∧ ((w1.alloc o).setRow w1.heap.size cs).heap[w1.heap.size]? = some (.cells cs T (0, 0)) := by
  subst ho
  exact ⟨below_setRow (hb1.alloc hb1.size _) hb1.size _, setRow_heap _ _ _ _ _ _ (heap_alloc_new _ _)⟩

theorem grownBy_setCell_drew {w wr : World} {B : Nat} (h : w.grownBy wr (some B)) (i : Nat) (v : Value) : w.grownBy (wr.setCell ⟨B, i, none⟩ v).drew (some B) :=
  ⟨h.os, h.tape, h.output, by have := h.size; simp [World.drew, World.setCell]; omega, fun k hk hne => by
    rw [heap_drew, heap_setCell_other _ _ _ _ (fun e => hne (by rw [e]))]
    exact h.block k hk hne⟩
theorem store_step {w wr : World} {B T : Nat} {cs : List Value} (hB : wr.heap[B]? = some (.cells cs.toArray T (0, 0))) (hG : w.grownBy wr (some B)) (i : Nat) (v : Value) (cs' : List Value) (hs : cs.set i v = cs') :
    (wr.setCell ⟨B, i, none⟩ v).drew.heap[B]? = some (.cells cs'.toArray T (0, 0)) ∧ w.grownBy (wr.setCell ⟨B, i, none⟩ v).drew (some B) := by
  refine ⟨?_, grownBy_setCell_drew hG i v⟩
  rw [heap_drew, heap_setCell_same wr B i _ _ _ hB, List.setIfInBounds_toArray, hs]
attribute [local go_sem] wv_add wv_sum wv_xor wv_and wv_andNot
set_option maxHeartbeats 1000000 in
set_option maxRecDepth 100000 in
theorem mix_any (s : St) (b : Nat → UInt8) (bb boff cap B T : Nat) (rest : List Value) (w : World) (hk : KTab w)
    (hB : w.heap[B]? = some (.cells (s.cells ++ rest).toArray T (0, 0))) (hb : ∀ j, j < 64 → w.cell? ⟨bb, boff + j, none⟩ = some (.int .u8 (bv (b j)))) :
    Calls Tryd.prog 30 #[.pointer (some ⟨B, 0, none⟩), .slice (some ⟨bb, boff, none⟩) 64 cap] w fun e w' =>
      e = .returned (.tuple #[]) ∧ w'.heap[B]? = some (.cells ((compress s b).cells ++ rest).toArray T (0, 0)) ∧ w.grownBy w' (some B) := by
  have HK := Lib.hid hk
  have HB := Lib.hid hB
  have hl : ((row b 64).map wV).toArray.size = 64 := by simp [row_length]
  have HL := Lib.hid hl
  clear hk hB hl
  go_enter Tryd.func30, Tryd.ntmps30
  go_wp2_with fail
  refine (spread_any b bb boff cap _ hb).mono ?_
  rintro e w1 ⟨rfl, hb1⟩
  have HB1 := Lib.hid hb1
  clear hb1 hb
  have hBw : B < w.heap.size := (Array.getElem?_eq_some_iff.1 HB.out).1
  go_wp2_with (refine wpList_store_row rfl 60 (.tmp 4) (.tmp 18) rfl w1.heap.size ((row b 64).map wV).toArray rfl rfl 60 _ (heap_alloc_new _ _) (by rw [HL.out]; kernel_rfl) (by rw [HL.out]; rfl) (wV_one _) ?_; go_frame)
  obtain ⟨f1, f2⟩ := after_spread HB1.out _ ((row b 64).map wV).toArray _ 60 rfl
  generalize hw2 : World.setRow _ _ _ = w2
  rw [hw2] at f1 f2
  clear hw2
  have hB2 : w2.heap[B]? = some (.cells (s.cells ++ rest).toArray T (0, 0)) := by rw [f1.block B hBw]; exact HB.out
  have HB2 := Lib.hid hB2
  have F1 := Lib.hid f1
  have F2 := Lib.hid f2
  have c0 : w2.cell? ⟨B, 0, none⟩ = some (.int .u32 (wv s.a)) := by rw [cell_of_row _ _ _ _ _ _ hB2]; rfl
  have c1 : w2.cell? ⟨B, 1, none⟩ = some (.int .u32 (wv s.b)) := by rw [cell_of_row _ _ _ _ _ _ hB2]; rfl
  have c2 : w2.cell? ⟨B, 2, none⟩ = some (.int .u32 (wv s.c)) := by rw [cell_of_row _ _ _ _ _ _ hB2]; rfl
  have c3 : w2.cell? ⟨B, 3, none⟩ = some (.int .u32 (wv s.d)) := by rw [cell_of_row _ _ _ _ _ _ hB2]; rfl
  have c4 : w2.cell? ⟨B, 4, none⟩ = some (.int .u32 (wv s.e)) := by rw [cell_of_row _ _ _ _ _ _ hB2]; rfl
  have c5 : w2.cell? ⟨B, 5, none⟩ = some (.int .u32 (wv s.f)) := by rw [cell_of_row _ _ _ _ _ _ hB2]; rfl
  have c6 : w2.cell? ⟨B, 6, none⟩ = some (.int .u32 (wv s.g)) := by rw [cell_of_row _ _ _ _ _ _ hB2]; rfl
  have c7 : w2.cell? ⟨B, 7, none⟩ = some (.int .u32 (wv s.h)) := by rw [cell_of_row _ _ _ _ _ _ hB2]; rfl
  clear f1 f2 hB2
  go_quiet (fail)
  go_wp2_with fail
  go_quiet (fail)
  clear c0 c1 c2 c3 c4 c5 c6 c7
  go_wp2_with (refine wpList_load_row rfl 60 (.tmp 4) rfl w1.heap.size rfl 60 ((row b 64).map wV).toArray (0, 0) (.array 64 25) F2.out Tryd.underlying60 rfl (by rw [HL.out]; kernel_rfl) ?_; go_frame)
  generalize hw3 : World.drewN _ _ = w3
  have HB3 : w3.heap[B]? = some (.cells (s.cells ++ rest).toArray T (0, 0)) := by rw [← hw3]; exact HB2.out
  have F3 : Below w.heap.size w w3 := by rw [← hw3]; exact below_drewN (below_drewN F1.out _) _
  have HB3 := Lib.hid HB3
  have F3 := Lib.hid F3
  clear hw3 HB2 F1 F2 HB1
  go_loopw [5, 6, 7, 8, 9, 10, 11, 12, 52] (fun va vb vc vd ve vf vg vh i wr => MxInv (row b 64) s w3 va vb vc vd ve vf vg vh i wr) (fun _ _ _ _ _ _ _ _ i _ => 64 - (intOf i).toNat)
  case atStart => exact ⟨0, by omega, rfl, rfl, rfl, rfl, rfl, rfl, rfl, rfl, rfl, Below.refl _ _⟩
  case round =>
    obtain ⟨t, ht, rfl, rfl, rfl, rfl, rfl, rfl, rfl, rfl, rfl, hbel⟩ := hrel
    obtain ⟨r, hr⟩ : ∃ r, rounds (row b 64) s t = r := ⟨_, rfl⟩
    rw [hr]
    by_cases hlt : t < 64
    · obtain ⟨x, hx⟩ : ∃ x, (row b 64).getD t 0 = x := ⟨_, rfl⟩
      have hix : ∀ W, (Instr.index 60 (.agg ((row b 64).map wV).toArray) (.int .i64 t)).run Tryd.prog W = .ok (.int .u32 (wv x)) W := fun W =>
        run_index_array 60 25 64 .u32 _ t _ Tryd.underlying60 Tryd.underlying25 (by kernel_rfl) hlt (by rw [wV_get _ _ (by rw [row_length]; exact hlt), hx])
      have ck : wr.cell? ⟨0, t, none⟩ = some (.int .u32 (wv (kW t))) := by
        have h0 := World.block_lt_of_cell? w _ (HK.out 0 (by omega))
        rw [hbel.cell (p := ⟨0, t, none⟩) (Nat.lt_of_lt_of_le h0 F3.out.size), F3.out.cell (p := ⟨0, t, none⟩) h0]
        exact HK.out t hlt
      have HE : Hid (rounds (row b 64) s (t + 1) = r.round (kW t) x) := by
        show (rounds (row b 64) s t).round (kW t) ((row b 64).getD t 0) = _
        rw [hr, hx]
      have HW := Lib.hid hbel
      clear hbel hr hx
      obtain ⟨kt, hkt⟩ : ∃ kt, kW t = kt := ⟨_, rfl⟩
      rw [hkt] at ck HE
      clear hkt
      have p0 : 0 ≤ (t : Int) := by omega
      have q0 : (t : Int) < 64 := by omega
      go_wp2_with fail
      go_quiet ((go_at_call 36; refine Calls.quiet_of_same (same_of (bS1_any _ _))))
      go_wp2_with (go_at_call 37; refine (bS0_any _ _).mono ?_; rintro e w' ⟨rfl, rfl⟩)
      go_roundw
      case rel =>
        refine ⟨t + 1, by omega, by go_num, ?_, ?_, ?_, ?_, ?_, ?_, ?_, ?_, below_drewN HW.out _⟩ <;> (rw [HE.out]; rfl)
      case measure => simp [intOf]; omega
    · have e64 : t = 64 := by omega
      have hge : ¬ (t : Int) < 64 := by omega
      have HR : Hid (rounds (row b 64) s 64 = r) := by rw [e64] at hr; exact hr
      have hBr : wr.heap[B]? = some (.cells (s.cells ++ rest).toArray T (0, 0)) := by
        rw [hbel.block B (Nat.lt_of_lt_of_le hBw F3.out.size)]
        exact HB3.out
      have hG : w.grownBy wr (some B) := grownBy_of_below (F3.out.trans (hbel.mono F3.out.size)) _
      have HW := Lib.hid hbel
      clear hbel hr e64 ht hlt
      have c : wr.cell? ⟨B, 0, none⟩ = some (.int .u32 (wv s.a)) := by rw [cell_of_row _ _ _ _ _ _ hBr]; rfl
      have z : wr.frozen? ⟨B, 0, none⟩ = false := frozen_of_row _ _ _ _ _ hBr
      have HB' := Lib.hid hBr
      have HG := Lib.hid hG
      clear hBr hG
      go_wp2_with fail
      go_still_tail 8, (by kernel_rfl)
      change wpList _ _ _ _ _ (World.drew _)
      go_wp2_with fail
      clear c z
      obtain ⟨hBr, hG⟩ := store_step HB'.out HG.out 0 (.int .u32 (wv (s.a + r.a))) ([wV (s.a + r.a), wV s.b, wV s.c, wV s.d, wV s.e, wV s.f, wV s.g, wV s.h] ++ rest) rfl
      clear HB' HG
      generalize hwk : (World.setCell _ _ _).drew = wk
      rw [hwk] at hBr hG
      clear hwk
      have c : wk.cell? ⟨B, 1, none⟩ = some (.int .u32 (wv s.b)) := by rw [cell_of_row _ _ _ _ _ _ hBr]; rfl
      have z : wk.frozen? ⟨B, 1, none⟩ = false := frozen_of_row _ _ _ _ _ hBr
      have HB' := Lib.hid hBr
      have HG := Lib.hid hG
      clear hBr hG
      go_still_tail 8, (by kernel_rfl)
      change wpList _ _ _ _ _ (World.drew _)
      go_wp2_with fail
      clear c z
      obtain ⟨hBr, hG⟩ := store_step HB'.out HG.out 1 (.int .u32 (wv (s.b + r.b))) ([wV (s.a + r.a), wV (s.b + r.b), wV s.c, wV s.d, wV s.e, wV s.f, wV s.g, wV s.h] ++ rest) rfl
      clear HB' HG
      generalize hwk : (World.setCell _ _ _).drew = wk
      rw [hwk] at hBr hG
      clear hwk
      have c : wk.cell? ⟨B, 2, none⟩ = some (.int .u32 (wv s.c)) := by rw [cell_of_row _ _ _ _ _ _ hBr]; rfl
      have z : wk.frozen? ⟨B, 2, none⟩ = false := frozen_of_row _ _ _ _ _ hBr
      have HB' := Lib.hid hBr
      have HG := Lib.hid hG
      clear hBr hG
      go_still_tail 8, (by kernel_rfl)
      change wpList _ _ _ _ _ (World.drew _)
      go_wp2_with fail
      clear c z
      obtain ⟨hBr, hG⟩ := store_step HB'.out HG.out 2 (.int .u32 (wv (s.c + r.c))) ([wV (s.a + r.a), wV (s.b + r.b), wV (s.c + r.c), wV s.d, wV s.e, wV s.f, wV s.g, wV s.h] ++ rest) rfl
      clear HB' HG
      generalize hwk : (World.setCell _ _ _).drew = wk
      rw [hwk] at hBr hG
      clear hwk
      have c : wk.cell? ⟨B, 3, none⟩ = some (.int .u32 (wv s.d)) := by rw [cell_of_row _ _ _ _ _ _ hBr]; rfl
      have z : wk.frozen? ⟨B, 3, none⟩ = false := frozen_of_row _ _ _ _ _ hBr
      have HB' := Lib.hid hBr
      have HG := Lib.hid hG
      clear hBr hG
      go_still_tail 8, (by kernel_rfl)
      change wpList _ _ _ _ _ (World.drew _)
      go_wp2_with fail
      clear c z
      obtain ⟨hBr, hG⟩ := store_step HB'.out HG.out 3 (.int .u32 (wv (s.d + r.d))) ([wV (s.a + r.a), wV (s.b + r.b), wV (s.c + r.c), wV (s.d + r.d), wV s.e, wV s.f, wV s.g, wV s.h] ++ rest) rfl
      clear HB' HG
      generalize hwk : (World.setCell _ _ _).drew = wk
      rw [hwk] at hBr hG
      clear hwk
      have c : wk.cell? ⟨B, 4, none⟩ = some (.int .u32 (wv s.e)) := by rw [cell_of_row _ _ _ _ _ _ hBr]; rfl
      have z : wk.frozen? ⟨B, 4, none⟩ = false := frozen_of_row _ _ _ _ _ hBr
      have HB' := Lib.hid hBr
      have HG := Lib.hid hG
      clear hBr hG
      go_still_tail 8, (by kernel_rfl)
      change wpList _ _ _ _ _ (World.drew _)
      go_wp2_with fail
      clear c z
      obtain ⟨hBr, hG⟩ := store_step HB'.out HG.out 4 (.int .u32 (wv (s.e + r.e))) ([wV (s.a + r.a), wV (s.b + r.b), wV (s.c + r.c), wV (s.d + r.d), wV (s.e + r.e), wV s.f, wV s.g, wV s.h] ++ rest) rfl
      clear HB' HG
      generalize hwk : (World.setCell _ _ _).drew = wk
      rw [hwk] at hBr hG
      clear hwk
      have c : wk.cell? ⟨B, 5, none⟩ = some (.int .u32 (wv s.f)) := by rw [cell_of_row _ _ _ _ _ _ hBr]; rfl
      have z : wk.frozen? ⟨B, 5, none⟩ = false := frozen_of_row _ _ _ _ _ hBr
      have HB' := Lib.hid hBr
      have HG := Lib.hid hG
      clear hBr hG
      go_still_tail 8, (by kernel_rfl)
      change wpList _ _ _ _ _ (World.drew _)
      go_wp2_with fail
      clear c z
      obtain ⟨hBr, hG⟩ := store_step HB'.out HG.out 5 (.int .u32 (wv (s.f + r.f))) ([wV (s.a + r.a), wV (s.b + r.b), wV (s.c + r.c), wV (s.d + r.d), wV (s.e + r.e), wV (s.f + r.f), wV s.g, wV s.h] ++ rest) rfl
      clear HB' HG
      generalize hwk : (World.setCell _ _ _).drew = wk
      rw [hwk] at hBr hG
      clear hwk
      have c : wk.cell? ⟨B, 6, none⟩ = some (.int .u32 (wv s.g)) := by rw [cell_of_row _ _ _ _ _ _ hBr]; rfl
      have z : wk.frozen? ⟨B, 6, none⟩ = false := frozen_of_row _ _ _ _ _ hBr
      have HB' := Lib.hid hBr
      have HG := Lib.hid hG
      clear hBr hG
      go_still_tail 8, (by kernel_rfl)
      change wpList _ _ _ _ _ (World.drew _)
      go_wp2_with fail
      clear c z
      obtain ⟨hBr, hG⟩ := store_step HB'.out HG.out 6 (.int .u32 (wv (s.g + r.g))) ([wV (s.a + r.a), wV (s.b + r.b), wV (s.c + r.c), wV (s.d + r.d), wV (s.e + r.e), wV (s.f + r.f), wV (s.g + r.g), wV s.h] ++ rest) rfl
      clear HB' HG
      generalize hwk : (World.setCell _ _ _).drew = wk
      rw [hwk] at hBr hG
      clear hwk
      have c : wk.cell? ⟨B, 7, none⟩ = some (.int .u32 (wv s.h)) := by rw [cell_of_row _ _ _ _ _ _ hBr]; rfl
      have z : wk.frozen? ⟨B, 7, none⟩ = false := frozen_of_row _ _ _ _ _ hBr
      have HB' := Lib.hid hBr
      have HG := Lib.hid hG
      clear hBr hG
      go_still_tail 8, (by kernel_rfl)
      change wpList _ _ _ _ _ (World.drew _)
      go_wp2_with fail
      clear c z
      obtain ⟨hBr, hG⟩ := store_step HB'.out HG.out 7 (.int .u32 (wv (s.h + r.h))) ([wV (s.a + r.a), wV (s.b + r.b), wV (s.c + r.c), wV (s.d + r.d), wV (s.e + r.e), wV (s.f + r.f), wV (s.g + r.g), wV (s.h + r.h)] ++ rest) rfl
      clear HB' HG
      generalize hwk : (World.setCell _ _ _).drew = wk
      rw [hwk] at hBr hG
      clear hwk
      have HB' := Lib.hid hBr
      have HG := Lib.hid hG
      clear hBr hG
      go_end0
      refine ⟨rfl, ?_, HG.out⟩
      have e : compress s b = s.plus r := by unfold compress; rw [HR.out]
      rw [e]
      exact HB'.out
end Go.Proofs.YthgcpelabiigpaaDoor.Sha
