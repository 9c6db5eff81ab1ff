/-
  The statement on what the chapter says of digests answers true. Conditions: the bytes lie where the slices say, the table is there.
-/
import Derived.Test.YtboepklpbedanaaDoorRefTwice
import Derived.Test.YtboepklpbedanaaDoorRefText
import Derived.Test.YtboepklpbedanaaDoorOrderWalk
import Derived.Test.YtboepklpbedanaaDoorShaArgs
namespace Go.Proofs.YtboepklpbedanaaDoor.Sha
open Go Go.RowKit

theorem ref_less_is (l m : List UInt8) (b : Bool) (hb : b = lessL l m) (hl : l.length = 32) (hm : m.length = 32) (w : World) :
    Calls Tryd.prog 15 #[.agg (l.map bV).toArray, .agg (m.map bV).toArray] w fun e w' => e = .returned (.bool b) ∧ Below w.heap.size w w' := by
  rw [hb]
  exact ref_less l m hl hm w
set_option maxHeartbeats 1000000 in
set_option maxRecDepth 100000 in
theorem says_main (la lb : List UInt8) (sp tp : Option Addr) (n m cap dap : Nat) (w : World) (hk : KTab w) (ha : SrcB w (.slice sp n cap) la) (hb : SrcB w (.slice tp m dap) lb) (hn : n ≤ 300) (hm : m ≤ 300) :
    Calls Tryd.prog 3 #[.slice sp n cap, .slice tp m dap] w fun e w' => e = .returned (.bool true) ∧ Below w.heap.size w w' := by
  have HNA := Lib.hid ha.le.1
  have HNB := Lib.hid hb.le.1
  have HK := Lib.hid hk
  have HA := Lib.hid ha
  have HB := Lib.hid hb
  have hl : ∀ l : List UInt8, l.length = 32 → (l.map bV).toArray.size = 32 := fun l h => by simp [h]
  have HL := Lib.hid hl
  clear hk ha hb hl
  go_enter Tryd.func3, Tryd.ntmps3
  go_upto_region 6 with (go_at_call 8; refine (first_any _ HK.out).mono ?_; rintro e w1 ⟨rfl, hb1⟩; have HB1 := Lib.hid hb1; clear hb1)
  have HK1 := Lib.hid (HK.out.below HB1.out)
  have HA1 := Lib.hid (HA.out.below HB1.out)
  have HBB1 := Lib.hid (HB.out.below HB1.out)
  clear HK HA HB
  go_upto_region 7 with (first | (go_at_call 9; refine (sha_any la _ _ HK1.out HA1.out (by have := HNA.out; omega)).mono ?_; rintro e w4 ⟨rfl, hb4⟩; have HB4 := Lib.hid hb4; clear hb4) | ((with_reducible show wpList _ _ _ _ _ _); refine wpList_store_row rfl 25 (.tmp 6) (.tmp 21) rfl w4.heap.size ((sha la).map bV).toArray rfl rfl 25 _ (heap_alloc_new _ _) (by rw [HL.out _ (sha_length _)]; kernel_rfl) (by rw [HL.out _ (sha_length _)]; rfl) (bV_one _) ?_; go_frame))
  obtain ⟨f1, f2, f3, f4⟩ := fill_setup (HB1.out.trans (HB4.out.mono HB1.out.size)) (List.replicate 32 (bV 0)).toArray ((sha la).map bV).toArray 25
  obtain ⟨g, hg⟩ : ∃ g, g = w4.heap.size := ⟨_, rfl⟩
  generalize hw5 : World.setRow _ _ _ = w5
  have e5 : ((w4.alloc (.cells (List.replicate 32 (bV 0)).toArray 25)).setRow w4.heap.size ((sha la).map bV).toArray) = w5 := hw5
  rw [e5] at f1 f2 f3 f4
  rw [← hg] at f2 f3 ⊢
  have F1 := Lib.hid f1
  have F2 := Lib.hid f2
  have B15 := HB4.out.trans (f4.mono HB4.out.size)
  have HK5 := Lib.hid (HK1.out.below B15)
  have HA5 := Lib.hid (HA1.out.below B15)
  have HBB5 := Lib.hid (HBB1.out.below B15)
  clear hw5 e5 f1 f2 f3 f4 B15 HK1 HA1 HBB1 HB1 HB4 hg
  go_upto_region 8 with (first | (go_at_call 10; refine (twice_any lb _ _ HK5.out HBB5.out (by have := HNB.out; omega)).mono ?_; rintro e w6 ⟨rfl, hb6⟩; have HB6 := Lib.hid hb6; clear hb6) | ((with_reducible show wpList _ _ _ _ _ _); refine wpList_store_row rfl 25 (.tmp 7) (.tmp 23) rfl w6.heap.size ((sha (sha lb)).map bV).toArray rfl rfl 25 _ (heap_alloc_new _ _) (by rw [HL.out _ (sha_length _)]; kernel_rfl) (by rw [HL.out _ (sha_length _)]; rfl) (bV_one _) ?_; go_frame))
  obtain ⟨f1, f2, f3, f4⟩ := fill_setup (F1.out.trans (HB6.out.mono F1.out.size)) (List.replicate 32 (bV 0)).toArray ((sha (sha lb)).map bV).toArray 25
  obtain ⟨g2, hg2⟩ : ∃ g2, g2 = w6.heap.size := ⟨_, rfl⟩
  generalize hw7 : World.setRow _ _ _ = w7
  have e7 : ((w6.alloc (.cells (List.replicate 32 (bV 0)).toArray 25)).setRow w6.heap.size ((sha (sha lb)).map bV).toArray) = w7 := hw7
  rw [e7] at f1 f2 f3 f4
  rw [← hg2] at f2 f3 ⊢
  have B57 := HB6.out.trans (f4.mono HB6.out.size)
  have A6 := Lib.hid (row_below F2.out B57)
  have A7 := Lib.hid f2
  have HA7 := Lib.hid (HA5.out.below B57)
  have HBB7 := Lib.hid (HBB5.out.below B57)
  have G7 := Lib.hid f1
  clear hw7 e7 f1 f2 f3 f4 B57 HK5 HA5 HBB5 F1 F2 HB6 hg2
  obtain ⟨x, hx⟩ : ∃ x, x = sha la := ⟨_, rfl⟩
  obtain ⟨y, hy⟩ : ∃ y, y = sha (sha lb) := ⟨_, rfl⟩
  have hxl : x.length = 32 := by rw [hx, sha_length]
  have hyl : y.length = 32 := by rw [hy, sha_length]
  rw [← hx] at A6
  rw [← hy] at A7
  have HX := Lib.hid hx
  have HY := Lib.hid hy
  have HXL := Lib.hid hxl
  have HYL := Lib.hid hyl
  obtain ⟨b1, hb1⟩ : ∃ b1, b1 = lessL x y := ⟨_, rfl⟩
  have E1 := Lib.hid hb1
  have hsz := hexS_size y hyl
  clear hx hy hxl hyl hb1
  refine wp_region_below (by kernel_rfl) (by kernel_rfl) w7 (Below.refl _ _) ?_
  go_big_quiet_step ((intro _; rfl))
  go_big_quiet_step ((intro _; rfl))
  go_big_quiet_want
  refine quiet_load_row 25 (.tmp 6) rfl g rfl 25 (x.map bV).toArray (0, 0) (.array 32 5) (fun w' hw' => row_below A6.out hw') Tryd.underlying25 rfl (by rw [HL.out _ HXL.out]; kernel_rfl) ?_
  go_frame
  go_big_quiet_on
  go_big_quiet_step ((intro _; rfl))
  go_big_quiet_step ((intro hw'; exact cls hw' (ref_any la _ _ _ _ (HA7.out.below hw') (by omega))))
  go_big_quiet_step ((intro hw'; exact cls hw' (same_true _ _ HX.out HXL.out _)))
  go_big_quiet_step ((intro _; rfl))
  go_big_quiet_step ((intro _; rfl))
  go_big_quiet_want
  refine quiet_load_row 25 (.tmp 7) rfl g2 rfl 25 (y.map bV).toArray (0, 0) (.array 32 5) (fun w' hw' => row_below A7.out hw') Tryd.underlying25 rfl (by rw [HL.out _ HYL.out]; kernel_rfl) ?_
  go_frame
  go_big_quiet_on
  go_big_quiet_step ((intro _; rfl))
  go_big_quiet_step ((intro hw'; exact cls hw' (ref_twice lb _ _ _ _ (HBB7.out.below hw') (by omega))))
  go_big_quiet_step ((intro hw'; exact cls hw' (same_true _ _ HY.out HYL.out _)))
  go_big_quiet_step ((intro _; rfl))
  go_big_quiet_step ((intro _; rfl))
  go_big_quiet_want
  refine quiet_load_row 25 (.tmp 6) rfl g rfl 25 (x.map bV).toArray (0, 0) (.array 32 5) (fun w' hw' => row_below A6.out hw') Tryd.underlying25 rfl (by rw [HL.out _ HXL.out]; kernel_rfl) ?_
  go_frame
  go_big_quiet_on
  go_big_quiet_want
  refine quiet_load_row 25 (.tmp 7) rfl g2 rfl 25 (y.map bV).toArray (0, 0) (.array 32 5) (fun w' hw' => row_below A7.out hw') Tryd.underlying25 rfl (by rw [HL.out _ HYL.out]; kernel_rfl) ?_
  go_frame
  go_big_quiet_on
  go_big_quiet_step ((intro hw'; exact cls hw' (less_is x y b1 E1.out HXL.out HYL.out _)))
  go_big_quiet_want
  refine quiet_load_row 25 (.tmp 6) rfl g rfl 25 (x.map bV).toArray (0, 0) (.array 32 5) (fun w' hw' => row_below A6.out hw') Tryd.underlying25 rfl (by rw [HL.out _ HXL.out]; kernel_rfl) ?_
  go_frame
  go_big_quiet_on
  go_big_quiet_want
  refine quiet_load_row 25 (.tmp 7) rfl g2 rfl 25 (y.map bV).toArray (0, 0) (.array 32 5) (fun w' hw' => row_below A7.out hw') Tryd.underlying25 rfl (by rw [HL.out _ HYL.out]; kernel_rfl) ?_
  go_frame
  go_big_quiet_on
  go_big_quiet_step ((intro hw'; exact cls hw' (ref_less_is x y b1 E1.out HXL.out HYL.out _)))
  go_big_quiet_step ((intro _; rfl))
  go_big_quiet_step ((intro _; rfl))
  go_big_quiet_step ((intro _; rfl))
  go_big_quiet_want
  refine quiet_load_row 25 (.tmp 6) rfl g rfl 25 (x.map bV).toArray (0, 0) (.array 32 5) (fun w' hw' => row_below A6.out hw') Tryd.underlying25 rfl (by rw [HL.out _ HXL.out]; kernel_rfl) ?_
  go_frame
  go_big_quiet_on
  go_big_quiet_step ((intro hw'; exact cls hw' (hex_any x HXL.out _)))
  go_big_quiet_want
  refine quiet_load_row 25 (.tmp 6) rfl g rfl 25 (x.map bV).toArray (0, 0) (.array 32 5) (fun w' hw' => row_below A6.out hw') Tryd.underlying25 rfl (by rw [HL.out _ HXL.out]; kernel_rfl) ?_
  go_frame
  go_big_quiet_on
  go_big_quiet_step ((intro hw'; exact cls hw' (ref_hex x HXL.out _)))
  go_big_quiet_step ((intro _; rfl))
  go_big_quiet_step ((intro _; rfl))
  go_big_quiet_step ((intro _; rfl))
  go_big_quiet_want
  refine quiet_load_row 25 (.tmp 7) rfl g2 rfl 25 (y.map bV).toArray (0, 0) (.array 32 5) (fun w' hw' => row_below A7.out hw') Tryd.underlying25 rfl (by rw [HL.out _ HYL.out]; kernel_rfl) ?_
  go_frame
  go_big_quiet_on
  go_big_quiet_step ((intro hw'; exact cls hw' (short_any y HYL.out _)))
  go_big_quiet_want
  refine quiet_load_row 25 (.tmp 7) rfl g2 rfl 25 (y.map bV).toArray (0, 0) (.array 32 5) (fun w' hw' => row_below A7.out hw') Tryd.underlying25 rfl (by rw [HL.out _ HYL.out]; kernel_rfl) ?_
  go_frame
  go_big_quiet_on
  go_big_quiet_step ((intro hw'; exact cls hw' (ref_hex y HYL.out _)))
  repeat (go_big_quiet_step ((intro _; rfl)))
  refine wpQuiet_nil ?_
  intro w8 hw8
  have HW8 := Lib.hid (G7.out.trans (hw8.mono G7.out.size))
  clear hw8
  go_wp2_with fail
  go_ret
  exact ⟨rfl, HW8.out⟩

set_option maxRecDepth 100000 in
theorem says_long (sp cp : Option Addr) (n cap m ccap : Nat) (w : World) (hk : KTab w) (hn0 : n ≤ 9223372036854775807) (hm0 : m ≤ 9223372036854775807) (h : 300 < n ∨ 300 < m) :
    Calls Tryd.prog 3 #[.slice sp n cap, .slice cp m ccap] w fun e w' => e = .returned (.bool true) ∧ Below w.heap.size w w' := by
  have HK := Lib.hid hk
  clear hk
  by_cases h1 : 300 < n
  · have h1' : (300 : Int) < n := by omega
    go_enter Tryd.func3, Tryd.ntmps3
    go_wp2_with (go_at_call 8; refine (first_any _ HK.out).mono ?_; rintro e w1 ⟨rfl, hb1⟩; have HB1 := Lib.hid hb1; clear hb1)
    go_ret
    exact ⟨rfl, HB1.out⟩
  · have h2 : 300 < m := by omega
    have h1' : ¬ (300 : Int) < n := by omega
    have h2' : (300 : Int) < m := by omega
    clear h
    go_enter Tryd.func3, Tryd.ntmps3
    go_wp2_with (go_at_call 8; refine (first_any _ HK.out).mono ?_; rintro e w1 ⟨rfl, hb1⟩; have HB1 := Lib.hid hb1; clear hb1)
    go_ret
    exact ⟨rfl, HB1.out⟩
theorem says_any (sp cp : Option Addr) (n cap m ccap : Nat) (z0 z1 : List Int) (w : World) (hk : KTab w) (h0 : IsRow .u8 w sp n cap z0) (h1 : IsRow .u8 w cp m ccap z1) :
    Calls Tryd.prog 3 #[.slice sp n cap, .slice cp m ccap] w fun e w' => e = .returned (.bool true) ∧ Below w.heap.size w w' := by
  by_cases h : n ≤ 300 ∧ m ≤ 300
  · obtain ⟨la, ha⟩ := src_of_row h0
    obtain ⟨lb, hb⟩ := src_of_row h1
    exact says_main la lb sp cp n m cap ccap w hk ha hb h.1 h.2
  · exact says_long sp cp n cap m ccap w hk h0.len h1.len (by omega)
end Go.Proofs.YtboepklpbedanaaDoor.Sha
