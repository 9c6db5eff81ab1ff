/-
  The statement on lengths round a block's end answers true. Condition: the table is there.
-/
import Derived.Laws.OwnMore
import Derived.Test.YtboepklpbedanaaDoorPartsWalk
import Derived.Test.YtboepklpbedanaaDoorTurnedWalk
import Derived.Test.YtboepklpbedanaaDoorRefTwice
namespace Go.Proofs.YtboepklpbedanaaDoor.Sha
open Go Go.RowKit

/-- k of m bytes are c, the others none. -/
def fillL (c : UInt8) (m k : Nat) : List UInt8 := List.replicate k c ++ List.replicate (m - k) 0
theorem fillL_set (c : UInt8) (m k : Nat) (h : k < m) : (fillL c m k).set k c = fillL c m (k + 1) := by
  unfold fillL
  rw [List.set_append_right _ _ (by simp), List.length_replicate, Nat.sub_self, show m - k = (m - (k + 1)) + 1 by omega, List.replicate_succ, List.set_cons_zero, List.replicate_succ', List.append_assoc]
  rfl
theorem fillL_length (c : UInt8) (m k : Nat) (h : k ≤ m) : (fillL c m k).length = m := by simp [fillL]; omega
def FlInv (c : UInt8) (m B : Nat) (w : World) (i : Value) (wr : World) : Prop :=
  ∃ k : Nat, k ≤ m ∧ i = .int .i64 k ∧ wr.heap[B]? = some (.cells ((fillL c m k).map bV).toArray 5 (0, 0)) ∧ Below w.heap.size w wr
theorem made_row (m : Nat) : madeCells (Value.int .u8 0).cells (m * 1) = ((fillL 0 m 0).map bV).toArray := by
  apply Array.ext (by simp [madeCells, fillL])
  intro i h1 h2
  simp [madeCells, fillL, Value.cells, bV, Nat.mod_one]
  rfl
theorem fill_store {c : UInt8} {m k B : Nat} {w wr : World} (h : wr.heap[B]? = some (.cells ((fillL c m k).map bV).toArray 5 (0, 0))) (hb : Below w.heap.size w wr) (hB : w.heap.size ≤ B) (hk : k < m) :
    (wr.setCell ⟨B, k, none⟩ (.int .u8 (bv c))).heap[B]? = some (.cells ((fillL c m (k + 1)).map bV).toArray 5 (0, 0)) ∧ Below w.heap.size w (wr.setCell ⟨B, k, none⟩ (.int .u8 (bv c))) := by
  refine ⟨?_, hb.setCell hB _⟩
  rw [heap_setCell_same _ _ _ _ _ _ h, List.setIfInBounds_toArray, ← fillL_set c m k hk, List.map_set]
  rfl
theorem src_row {w : World} {B m : Nat} {l : List UInt8} {T : TypeId} (hm : m = l.length) (h0 : 0 < m) (h : w.heap[B]? = some (.cells (l.map bV).toArray T (0, 0))) : SrcB w (.slice (some ⟨B, 0, none⟩) m m) l :=
  .inr ⟨by omega, B, 0, m, by rw [hm], by omega, fun j hj => by rw [Nat.zero_add, cell_of_row _ _ _ _ _ _ h, bV_get _ _ hj]⟩

set_option maxHeartbeats 1000000 in
set_option maxRecDepth 100000 in
theorem edges_main (x : Int) (c : UInt8) (w : World) (hk : KTab w) (hx : -9223372036854775808 ≤ x ∧ x ≤ 9223372036854775807) :
    Calls Tryd.prog 5 #[.int .i64 x, .int .u8 (bv c)] w fun e w' => e = .returned (.bool true) ∧ Below w.heap.size w w' := by
  obtain ⟨i0, hi, hz0, hz1, hz2⟩ := info_parts info_u8
  have HK := Lib.hid hk
  have hl : ∀ l : List UInt8, l.length = 32 → (l.map bV).toArray.size = 32 := fun l h => by simp [h]
  have HL := Lib.hid hl
  obtain ⟨r, hr, hrn⟩ := numb_nat x 90 (by omega)
  have hnum := fun W => numb_any x 90 (by omega) (by omega) hx W
  have hr' : numb x 90 = (r : Int) := hr
  rw [hr'] at hnum
  have HNUM := Lib.hid hnum
  obtain ⟨m, hm⟩ : ∃ m, m = r + 40 := ⟨_, rfl⟩
  have hsum : (r : Int) + 40 = (m : Int) := by omega
  have hm1 : 40 ≤ m := by omega
  have hm2 : m ≤ 130 := by omega
  have HM := Lib.hid hm
  clear hk hl hr hr' hnum hx hm
  go_enter Tryd.func5, Tryd.ntmps5
  go_upto_region 4 with (go_at_call 8; refine (first_any _ HK.out).mono ?_; rintro e w1 ⟨rfl, hb1⟩; have HB1 := Lib.hid hb1; clear hb1)
  go_upto_region 5 with (go_at_call 19; refine (HNUM.out _).mono ?_; rintro e w' ⟨rfl, rfl⟩)
  have hmk := fun W => run_make (P := Tryd.prog) W 22 5 i0 (.int .u8 0) Tryd.underlying22 hi hz0 .i64 .i64 (m : Int) (m : Int) (by omega) (by omega) (by rw [hz2]; omega) (by omega)
  rw [hz1] at hmk
  simp only [Int.toNat_natCast, made_row] at hmk
  go_upto_region 6 with fail
  clear hmk
  obtain ⟨B, hB⟩ : ∃ B, B = w1.heap.size := ⟨_, rfl⟩
  have hBw : w.heap.size ≤ B := by rw [hB]; exact HB1.out.size
  have g1 : (w1.alloc (.cells ((fillL 0 m 0).map bV).toArray 5)).heap[B]? = some (.cells ((fillL c m 0).map bV).toArray 5 (0, 0)) := by rw [hB]; exact heap_alloc_new _ _
  have g2 : Below w.heap.size w (w1.alloc (.cells ((fillL 0 m 0).map bV).toArray 5)) := HB1.out.alloc HB1.out.size _
  rw [← hB]
  generalize hw2 : World.alloc _ _ = w2
  rw [hw2] at g1 g2
  have G1 := Lib.hid g1
  have G2 := Lib.hid g2
  clear hw2 g1 g2 hB HB1
  go_wp2_with fail
  go_loopw [7] (fun i wr => FlInv c m B w i wr) (fun i _ => m - (intOf i).toNat)
  case atStart => exact ⟨0, by omega, rfl, G1.out, G2.out⟩
  case round =>
    clear G1 G2
    obtain ⟨k, hk, rfl, h1, hb⟩ := hrel
    by_cases hlt : k < m
    · have hsz : ((fillL c m k).map bV).length = m := by rw [List.length_map, fillL_length c m k hk]
      obtain ⟨v0, hv0⟩ : ∃ v0, ((fillL c m k).map bV).toArray[k]? = some v0 := by
        rw [List.getElem?_toArray, List.getElem?_eq_getElem (by rw [hsz]; exact hlt)]
        exact ⟨_, rfl⟩
      have c0 : wr.cell? ⟨B, k, none⟩ = some v0 := by rw [cell_of_row _ _ _ _ _ _ h1]; exact hv0
      have z0 : wr.frozen? ⟨B, k, none⟩ = false := frozen_of_row _ _ _ _ _ h1
      have H1 := Lib.hid h1
      have HB := Lib.hid hb
      clear h1 hb hsz hv0
      go_wp2_with fail
      go_roundw
      case rel =>
        obtain ⟨t1, t2⟩ := fill_store (k := k) H1.out HB.out hBw hlt
        exact ⟨k + 1, by omega, by go_num, t1, t2⟩
      case measure => simp [intOf]; omega
    · have hge : ¬ (k : Int) < (m : Int) := by omega
      have hkm : k = m := by omega
      have e1 : fillL c m k = List.replicate m c := by rw [hkm]; simp [fillL]
      rw [e1] at h1
      obtain ⟨bs, hbs⟩ : ∃ bs, bs = List.replicate m c := ⟨_, rfl⟩
      rw [← hbs] at h1
      have hbl : m = bs.length := by rw [hbs, List.length_replicate]
      have hS := src_row hbl (by omega) h1
      have HS := Lib.hid hS
      have HB := Lib.hid hb
      have HBL := Lib.hid hbl
      have HK1 := Lib.hid (HK.out.below hb)
      clear h1 hb hkm e1 hbs hbl hS hlt
      obtain ⟨w3, rfl⟩ : ∃ w3 : World, w3 = wr := ⟨_, rfl⟩
      obtain ⟨v, hv⟩ : ∃ v, v = Value.slice (some ⟨B, 0, none⟩) m m := ⟨_, rfl⟩
      go_upto_region 11 with (first | (go_at_call 9; refine (sha_any bs _ _ HK1.out HS.out (by have := HBL.out; omega)).mono ?_; rintro e w4 ⟨rfl, hb4⟩; have HB4 := Lib.hid hb4; clear hb4) | ((with_reducible show wpList _ _ _ _ _ _); refine wpList_store_row rfl 25 (.tmp 8) (.tmp 28) rfl w4.heap.size ((sha bs).map bV).toArray rfl rfl 25 _ (heap_alloc_new _ _) (by rw [HL.out _ (sha_length _)]; kernel_rfl) (by rw [HL.out _ (sha_length _)]; rfl) (bV_one _) ?_; go_frame))
      obtain ⟨f1, f2, f3, f4⟩ := fill_setup (HB.out.trans (HB4.out.mono HB.out.size)) (List.replicate 32 (bV 0)).toArray ((sha bs).map bV).toArray 25
      obtain ⟨g, hg⟩ : ∃ g, g = w4.heap.size := ⟨_, rfl⟩
      generalize hw5 : World.setRow _ _ _ = w5
      have e5 : ((w4.alloc (.cells (List.replicate 32 (bV 0)).toArray 25)).setRow w4.heap.size ((sha bs).map bV).toArray) = w5 := hw5
      rw [e5] at f1 f2 f3 f4
      rw [← hg] at f2 f3 ⊢
      have F1 := Lib.hid f1
      have F2 := Lib.hid f2
      have HK5 := Lib.hid (HK1.out.below (HB4.out.trans (f4.mono HB4.out.size)))
      have HS5 := Lib.hid ((HS.out.below HB4.out).below f4)
      clear hw5 e5 f1 f2 f4 HK1 HS HB HB4 hg
      go_upto_region 12 with (first | (go_at_call 10; refine (twice_any bs _ _ HK5.out HS5.out (by have := HBL.out; omega)).mono ?_; rintro e w6 ⟨rfl, hb6⟩; have HB6 := Lib.hid hb6; clear hb6) | ((with_reducible show wpList _ _ _ _ _ _); refine wpList_store_row rfl 25 (.tmp 9) (.tmp 30) rfl w6.heap.size ((sha (sha bs)).map bV).toArray rfl rfl 25 _ (heap_alloc_new _ _) (by rw [HL.out _ (sha_length _)]; kernel_rfl) (by rw [HL.out _ (sha_length _)]; rfl) (bV_one _) ?_; go_frame))
      obtain ⟨f1, f2, f3', f4⟩ := fill_setup (F1.out.trans (HB6.out.mono F1.out.size)) (List.replicate 32 (bV 0)).toArray ((sha (sha bs)).map bV).toArray 25
      obtain ⟨g2, hg2⟩ : ∃ g2, g2 = w6.heap.size := ⟨_, rfl⟩
      generalize hw7 : World.setRow _ _ _ = w7
      have e7 : ((w6.alloc (.cells (List.replicate 32 (bV 0)).toArray 25)).setRow w6.heap.size ((sha (sha bs)).map bV).toArray) = w7 := hw7
      rw [e7] at f1 f2 f3' f4
      rw [← hg2] at f2 f3' ⊢
      have B57 := HB6.out.trans (f4.mono HB6.out.size)
      have A8 := Lib.hid (row_below F2.out B57)
      have A9 := Lib.hid f2
      have HK7 := Lib.hid (HK5.out.below B57)
      have HS7 := Lib.hid (HS5.out.below B57)
      have G7 := Lib.hid f1
      clear hw7 e7 f1 f2 f3 f3' f4 B57 HK5 HS5 F1 F2 HB6 hg2 hge hv
      refine wp_region_below (by kernel_rfl) (by kernel_rfl) w7 (Below.refl _ _) ?_
      go_big_quiet_step ((intro _; rfl))
      go_big_quiet_step ((intro _; rfl))
      go_big_quiet_want
      refine quiet_load_row 25 (.tmp 8) rfl g rfl 25 ((sha bs).map bV).toArray (0, 0) (.array 32 5) (fun w' hw' => row_below A8.out hw') Tryd.underlying25 rfl (by rw [HL.out _ (sha_length _)]; kernel_rfl) ?_
      go_frame
      go_big_quiet_on
      go_big_quiet_step ((intro _; rfl))
      go_big_quiet_step ((intro hw'; exact cls hw' (ref_any bs _ _ _ _ (HS7.out.below hw') (by omega))))
      go_big_quiet_step ((intro hw'; exact cls hw' (same_true _ _ rfl (sha_length _) _)))
      go_big_quiet_step ((intro _; rfl))
      go_big_quiet_step ((intro _; rfl))
      go_big_quiet_want
      refine quiet_load_row 25 (.tmp 9) rfl g2 rfl 25 ((sha (sha bs)).map bV).toArray (0, 0) (.array 32 5) (fun w' hw' => row_below A9.out hw') Tryd.underlying25 rfl (by rw [HL.out _ (sha_length _)]; kernel_rfl) ?_
      go_frame
      go_big_quiet_on
      go_big_quiet_step ((intro _; rfl))
      go_big_quiet_step ((intro hw'; exact cls hw' (sha_any (sha bs) _ _ (HK7.out.below hw') (src_block (sha_length _) (row_below A8.out hw')) (by rw [sha_length]; omega))))
      go_big_quiet_step ((intro hw'; exact cls hw' (same_true _ _ rfl (sha_length _) _)))
      repeat (go_big_quiet_step ((intro _; rfl)))
      refine wpQuiet_nil ?_
      intro w8 hw8
      have HW8 := Lib.hid (G7.out.trans (hw8.mono G7.out.size))
      clear hw8
      go_wp2_with fail
      go_ret
      exact ⟨rfl, HW8.out⟩
end Go.Proofs.YtboepklpbedanaaDoor.Sha
