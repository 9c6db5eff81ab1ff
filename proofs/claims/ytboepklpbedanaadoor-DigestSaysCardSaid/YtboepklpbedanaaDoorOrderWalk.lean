/-
  The statement on the order of digests and of their texts answers true. Conditions: digests of 32 bytes, the table is there.
-/
import Derived.Test.YtboepklpbedanaaDoorShaLess
import Derived.Test.YtboepklpbedanaaDoorTurnedWalk
namespace Go.Proofs.YtboepklpbedanaaDoor.Sha
open Go Go.RowKit

theorem less_is (l m : List UInt8) (b : Bool) (hb : b = lessL l m) (hl : l.length = 32) (hm : m.length = 32) (w : World) :
    Calls Tryd.prog 14 #[.agg (l.map bV).toArray, .agg (m.map bV).toArray] w fun e w' => e = .returned (.bool b) ∧ Below w.heap.size w w' := by
  rw [hb]
  exact less_any l m hl hm w
theorem less_text (l m : List UInt8) (h : l.length = m.length) : Op.bytesLess (hexS l).toList (hexS m).toList = lessL l m := by
  rw [ByteArray.toList_eq, ByteArray.toList_eq]
  exact hex_less l m h
theorem order_setup {w w1 : World} (x y : Array Value) (T : TypeId) (hb1 : Below ((w.alloc (.cells x T)).alloc (.cells y T)).heap.size ((w.alloc (.cells x T)).alloc (.cells y T)) w1) :
    Below w.heap.size w w1 ∧ w1.heap[w.heap.size]? = some (.cells x T (0, 0)) ∧ w1.heap[w.heap.size + 1]? = some (.cells y T (0, 0)) ∧ w.heap.size + 2 ≤ w1.heap.size := by
  have hz : ((w.alloc (.cells x T)).alloc (.cells y T)).heap.size = w.heap.size + 2 := by simp
  refine ⟨(((Below.refl _ _).alloc (Nat.le_refl _) _).alloc (by simp) _).trans (hb1.mono (by omega)), ?_, ?_, by have := hb1.size; omega⟩
  · rw [hb1.block _ (by omega)]; exact heap_alloc2_old _ _ _
  · rw [hb1.block _ (by omega)]; exact heap_alloc2_new _ _ _

set_option maxHeartbeats 1000000 in
set_option maxRecDepth 100000 in
theorem order_main (a b : List UInt8) (k : Int) (x : UInt8) (w : World) (hk : KTab w) (ha : a.length = 32) (hb : b.length = 32) (hkb : -9223372036854775808 ≤ k ∧ k ≤ 9223372036854775807) :
    Calls Tryd.prog 6 #[.agg (a.map bV).toArray, .agg (b.map bV).toArray, .int .i64 k, .int .u8 (bv x)] w fun e w' => e = .returned (.bool true) ∧ Below w.heap.size w w' := by
  have HK := Lib.hid hk
  have HA := Lib.hid ha
  have HB := Lib.hid hb
  have hl32 : ∀ l : List UInt8, l.length = 32 → (l.map bV).toArray.size = 32 := fun l h => by simp [h]
  have HL := Lib.hid hl32
  obtain ⟨r, hr, hrn⟩ := numb_nat k 32 (by omega)
  have hq0 : ((r : Nat) : Int) < 32 := by omega
  clear hk ha hb hl32
  go_enter Tryd.func6, Tryd.ntmps6
  have HK0 : Hid (KTab ((w.alloc (.cells (a.map bV).toArray 25)).alloc (.cells (b.map bV).toArray 25))) := HK.out.below (((Below.refl _ _).alloc (Nat.le_refl _) _).alloc (by simp) _)
  go_upto_region 4 with (go_at_call 8; refine (first_any _ HK0.out).mono ?_; rintro e w1 ⟨rfl, hb1⟩; have HB1 := Lib.hid hb1; clear hb1)
  obtain ⟨f1, f2, f3, f4⟩ := order_setup _ _ _ HB1.out
  have F1 := Lib.hid f1
  have F2 := Lib.hid f2
  have F3 := Lib.hid f3
  clear f1 f2 f3 HB1 HK0
  go_upto_region 5 with ((with_reducible show wpList _ _ _ _ _ _); first | (refine wpList_load_row rfl 25 (.tmp 4) rfl w.heap.size rfl 25 (a.map bV).toArray (0, 0) (.array 32 5) F2.out Tryd.underlying25 rfl (by rw [HL.out _ HA.out]; kernel_rfl) ?_; go_frame) | (refine wpList_store_row rfl 25 (.tmp 10) (.tmp 17) rfl w1.heap.size (a.map bV).toArray rfl rfl 25 _ (heap_alloc_new _ _) (by rw [HL.out _ HA.out]; kernel_rfl) (by rw [HL.out _ HA.out]; rfl) (bV_one _) ?_; go_frame))
  obtain ⟨_, g2, g3, g4⟩ := fill_setup (Below.refl w1.heap.size w1) (List.replicate 32 (bV 0)).toArray (a.map bV).toArray 25
  obtain ⟨gc, hgc⟩ : ∃ gc, gc = w1.heap.size := ⟨_, rfl⟩
  have hgc2 : w.heap.size + 2 ≤ gc := by omega
  rw [← hgc] at g2 ⊢
  generalize hw2 : World.setRow _ _ _ = w2
  have e2 : World.setRow (w1.alloc (.cells (List.replicate 32 (bV 0)).toArray 25)) gc (a.map bV).toArray = w2 := hw2
  rw [← hgc, e2] at g4
  rw [e2] at g2
  rw [hgc] at g4
  have HA2 := Lib.hid (row_below F2.out g4)
  have HB2 := Lib.hid (row_below F3.out g4)
  have HW2 := Lib.hid (F1.out.trans (g4.mono F1.out.size))
  have HC2 := Lib.hid g2
  have cr : w2.cell? ⟨gc, r, none⟩ = some (.int .u8 (bv (a.getD r 0))) := by rw [cell_of_row _ _ _ _ _ _ g2, bV_get _ _ (by rw [HA.out]; omega)]
  have zr := frozen_of_row w2 gc r _ _ g2
  have hnum := numb_any k 32 (by omega) (by omega) hkb w2
  have hr' : numb k 32 = (r : Int) := hr
  rw [hr'] at hnum
  have HNUM := Lib.hid hnum
  clear hw2 e2 g2 g3 g4 hgc F1 F2 F3 hnum hr hr' hkb f4
  go_upto_region 6 with (go_at_call 19; refine HNUM.out.mono ?_; rintro e w' ⟨rfl, rfl⟩)
  clear cr zr HNUM
  obtain ⟨c, hc⟩ : ∃ c, c = a.set r x := ⟨_, rfl⟩
  have hcl : c.length = 32 := by rw [hc, List.length_set]; exact HA.out
  have h3 : (w2.setCell ⟨gc, r, none⟩ (.int .u8 (bv x))).heap[gc]? = some (.cells (c.map bV).toArray 25 (0, 0)) := by
    rw [heap_setCell_same _ _ _ _ _ _ HC2.out, List.setIfInBounds_toArray, hc, List.map_set]
    rfl
  have h4 : (w2.setCell ⟨gc, r, none⟩ (.int .u8 (bv x))).heap[w.heap.size]? = some (.cells (a.map bV).toArray 25 (0, 0)) := by rw [heap_setCell_other _ _ _ _ (by show w.heap.size ≠ gc; omega)]; exact HA2.out
  have h5 : (w2.setCell ⟨gc, r, none⟩ (.int .u8 (bv x))).heap[w.heap.size + 1]? = some (.cells (b.map bV).toArray 25 (0, 0)) := by rw [heap_setCell_other _ _ _ _ (by show w.heap.size + 1 ≠ gc; omega)]; exact HB2.out
  have h6 : Below w.heap.size w (w2.setCell ⟨gc, r, none⟩ (.int .u8 (bv x))) := HW2.out.setCell (by show w.heap.size ≤ gc; omega) _
  generalize hw3 : World.setCell _ _ _ = w3
  rw [hw3] at h3 h4 h5 h6
  have HC3 := Lib.hid h3
  have HA3 := Lib.hid h4
  have HB3 := Lib.hid h5
  have HW3 := Lib.hid h6
  have HCL := Lib.hid hcl
  clear hw3 h3 h4 h5 h6 hc hcl HA2 HB2 HW2 HC2 hrn hq0
  have hsa := hexS_size a HA.out
  have hsb := hexS_size b HB.out
  have hsc := hexS_size c HCL.out
  go_upto_region 7 with (first | (go_at_call 16; refine (hex_any a HA.out _).mono ?_; rintro e w4 ⟨rfl, hb4⟩; have HW4 := Lib.hid hb4; clear hb4) | ((with_reducible show wpList _ _ _ _ _ _); (refine wpList_load_row rfl 25 (.tmp 4) rfl w.heap.size rfl 25 (a.map bV).toArray (0, 0) (.array 32 5) HA3.out Tryd.underlying25 rfl (by rw [HL.out _ HA.out]; kernel_rfl) ?_; go_frame)))
  have HA4 := Lib.hid (row_below HA3.out HW4.out)
  have HB4 := Lib.hid (row_below HB3.out HW4.out)
  have HC4 := Lib.hid (row_below HC3.out HW4.out)
  have HG4 := Lib.hid (HW3.out.trans (HW4.out.mono HW3.out.size))
  clear HA3 HB3 HC3 HW3 HW4
  go_upto_region 8 with (first | (go_at_call 16; refine (hex_any b HB.out _).mono ?_; rintro e w5 ⟨rfl, hb5⟩; have HW5 := Lib.hid hb5; clear hb5) | ((with_reducible show wpList _ _ _ _ _ _); (refine wpList_load_row rfl 25 (.tmp 5) rfl (w.heap.size + 1) rfl 25 (b.map bV).toArray (0, 0) (.array 32 5) HB4.out Tryd.underlying25 rfl (by rw [HL.out _ HB.out]; kernel_rfl) ?_; go_frame)))
  have HA5 := Lib.hid (row_below HA4.out HW5.out)
  have HB5 := Lib.hid (row_below HB4.out HW5.out)
  have HC5 := Lib.hid (row_below HC4.out HW5.out)
  have HG5 := Lib.hid (HG4.out.trans (HW5.out.mono HG4.out.size))
  clear HA4 HB4 HC4 HG4 HW5
  go_upto_region 9 with (first | (go_at_call 16; refine (hex_any c HCL.out _).mono ?_; rintro e w6 ⟨rfl, hb6⟩; have HW6 := Lib.hid hb6; clear hb6) | ((with_reducible show wpList _ _ _ _ _ _); (refine wpList_load_row rfl 25 (.tmp 10) rfl gc rfl 25 (c.map bV).toArray (0, 0) (.array 32 5) HC5.out Tryd.underlying25 rfl (by rw [HL.out _ HCL.out]; kernel_rfl) ?_; go_frame)))
  have HA6 := Lib.hid (row_below HA5.out HW6.out)
  have HB6 := Lib.hid (row_below HB5.out HW6.out)
  have HC6 := Lib.hid (row_below HC5.out HW6.out)
  have HG6 := Lib.hid (HG5.out.trans (HW6.out.mono HG5.out.size))
  clear HA5 HB5 HC5 HG5 HW6
  obtain ⟨b1, hb1⟩ : ∃ b1, b1 = lessL a b := ⟨_, rfl⟩
  obtain ⟨b2, hb2⟩ : ∃ b2, b2 = lessL b a := ⟨_, rfl⟩
  obtain ⟨b3, hb3⟩ : ∃ b3, b3 = lessL a c := ⟨_, rfl⟩
  have E1 := Lib.hid hb1
  have E2 := Lib.hid hb2
  have E3 := Lib.hid hb3
  have E4 : Hid (false = lessL a a) := (less_self a).symm
  have V1 : Hid (Value.bool (Op.bytesLess (hexS a).toList (hexS b).toList) = Value.bool b1) := by show _ = _; rw [less_text _ _ (HA.out.trans HB.out.symm), E1.out]
  have V2 : Hid (Value.bool (Op.bytesLess (hexS b).toList (hexS a).toList) = Value.bool b2) := by show _ = _; rw [less_text _ _ (HB.out.trans HA.out.symm), E2.out]
  have V3 : Hid (Value.bool (Op.bytesLess (hexS a).toList (hexS c).toList) = Value.bool b3) := by show _ = _; rw [less_text _ _ (HA.out.trans HCL.out.symm), E3.out]
  clear hb1 hb2 hb3
  refine wp_region_below (by kernel_rfl) (by kernel_rfl) w6 (Below.refl _ _) ?_
  go_big_quiet_step ((intro _; rfl))
  go_big_quiet_step ((intro _; rfl))
  go_big_quiet_step ((intro _; rfl))
  go_big_quiet_step ((intro _; rfl))
  go_big_quiet_step ((intro _; rfl))
  go_big_quiet_step ((intro _; rfl))
  go_big_quiet_step ((intro _; rfl))
  go_big_quiet_want
  refine quiet_load_row 25 (.tmp 4) rfl w.heap.size rfl 25 (a.map bV).toArray (0, 0) (.array 32 5) (fun w' hw' => row_below HA6.out hw') Tryd.underlying25 rfl (by rw [HL.out _ HA.out]; kernel_rfl) ?_
  go_frame
  go_big_quiet_on
  go_big_quiet_want
  refine quiet_load_row 25 (.tmp 5) rfl (w.heap.size + 1) rfl 25 (b.map bV).toArray (0, 0) (.array 32 5) (fun w' hw' => row_below HB6.out hw') Tryd.underlying25 rfl (by rw [HL.out _ HB.out]; kernel_rfl) ?_
  go_frame
  go_big_quiet_on
  go_big_quiet_step ((intro hw'; exact cls hw' (less_is a b b1 E1.out HA.out HB.out _)))
  go_big_quiet_step ((intro _; rfl))
  go_big_quiet_step ((intro _; rfl))
  go_big_quiet_step ((intro _; exact V1.out))
  go_big_quiet_step ((intro _; rfl))
  go_big_quiet_step ((intro _; rfl))
  go_big_quiet_step ((intro _; rfl))
  go_big_quiet_want
  refine quiet_load_row 25 (.tmp 5) rfl (w.heap.size + 1) rfl 25 (b.map bV).toArray (0, 0) (.array 32 5) (fun w' hw' => row_below HB6.out hw') Tryd.underlying25 rfl (by rw [HL.out _ HB.out]; kernel_rfl) ?_
  go_frame
  go_big_quiet_on
  go_big_quiet_want
  refine quiet_load_row 25 (.tmp 4) rfl w.heap.size rfl 25 (a.map bV).toArray (0, 0) (.array 32 5) (fun w' hw' => row_below HA6.out hw') Tryd.underlying25 rfl (by rw [HL.out _ HA.out]; kernel_rfl) ?_
  go_frame
  go_big_quiet_on
  go_big_quiet_step ((intro hw'; exact cls hw' (less_is b a b2 E2.out HB.out HA.out _)))
  go_big_quiet_step ((intro _; rfl))
  go_big_quiet_step ((intro _; rfl))
  go_big_quiet_step ((intro _; exact V2.out))
  go_big_quiet_step ((intro _; rfl))
  go_big_quiet_step ((intro _; rfl))
  go_big_quiet_step ((intro _; rfl))
  go_big_quiet_want
  refine quiet_load_row 25 (.tmp 4) rfl w.heap.size rfl 25 (a.map bV).toArray (0, 0) (.array 32 5) (fun w' hw' => row_below HA6.out hw') Tryd.underlying25 rfl (by rw [HL.out _ HA.out]; kernel_rfl) ?_
  go_frame
  go_big_quiet_on
  go_big_quiet_want
  refine quiet_load_row 25 (.tmp 10) rfl gc rfl 25 (c.map bV).toArray (0, 0) (.array 32 5) (fun w' hw' => row_below HC6.out hw') Tryd.underlying25 rfl (by rw [HL.out _ HCL.out]; kernel_rfl) ?_
  go_frame
  go_big_quiet_on
  go_big_quiet_step ((intro hw'; exact cls hw' (less_is a c b3 E3.out HA.out HCL.out _)))
  go_big_quiet_step ((intro _; rfl))
  go_big_quiet_step ((intro _; rfl))
  go_big_quiet_step ((intro _; exact V3.out))
  go_big_quiet_step ((intro _; rfl))
  go_big_quiet_step ((intro _; rfl))
  go_big_quiet_step ((intro _; rfl))
  go_big_quiet_want
  refine quiet_load_row 25 (.tmp 4) rfl w.heap.size rfl 25 (a.map bV).toArray (0, 0) (.array 32 5) (fun w' hw' => row_below HA6.out hw') Tryd.underlying25 rfl (by rw [HL.out _ HA.out]; kernel_rfl) ?_
  go_frame
  go_big_quiet_on
  go_big_quiet_want
  refine quiet_load_row 25 (.tmp 4) rfl w.heap.size rfl 25 (a.map bV).toArray (0, 0) (.array 32 5) (fun w' hw' => row_below HA6.out hw') Tryd.underlying25 rfl (by rw [HL.out _ HA.out]; kernel_rfl) ?_
  go_frame
  go_big_quiet_on
  go_big_quiet_step ((intro hw'; exact cls hw' (less_is a a false E4.out HA.out HA.out _)))
  go_big_quiet_step ((intro _; rfl))
  go_big_quiet_step ((intro _; rfl))
  go_big_quiet_step ((intro _; rfl))
  go_big_quiet_want
  refine quiet_load_row 25 (.tmp 5) rfl (w.heap.size + 1) rfl 25 (b.map bV).toArray (0, 0) (.array 32 5) (fun w' hw' => row_below HB6.out hw') Tryd.underlying25 rfl (by rw [HL.out _ HB.out]; kernel_rfl) ?_
  go_frame
  go_big_quiet_on
  go_big_quiet_step ((intro hw'; exact cls hw' (short_any b HB.out _)))
  repeat (go_big_quiet_step ((intro _; rfl)))
  refine wpQuiet_nil ?_
  intro w7 hw7
  have HW7 := Lib.hid (HG6.out.trans (hw7.mono HG6.out.size))
  clear hw7
  go_wp2_with fail
  go_ret
  exact ⟨rfl, HW7.out⟩
end Go.Proofs.YtboepklpbedanaaDoor.Sha
