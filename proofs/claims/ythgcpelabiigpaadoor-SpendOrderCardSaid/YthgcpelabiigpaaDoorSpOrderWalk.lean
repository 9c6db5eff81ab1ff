/-
  The statement on the order of places answers true. Conditions: digests of 32 bytes, the table is there.
-/
import Derived.Test.YthgcpelabiigpaaDoorPtOrd
import Derived.Test.YthgcpelabiigpaaDoorSpFirst
import Derived.Test.YthgcpelabiigpaaDoorFill
namespace Go.Proofs.YthgcpelabiigpaaDoor.Sha
open Go Go.RowKit

/-- Three boxes. -/
theorem three_boxes (w : World) (x y z : Array Value) (T : TypeId) :
    Below w.heap.size w (((w.alloc (.cells x T (0, 0))).alloc (.cells y T (0, 0))).alloc (.cells z T (0, 0)))
    ∧ (((w.alloc (.cells x T (0, 0))).alloc (.cells y T (0, 0))).alloc (.cells z T (0, 0))).heap[w.heap.size]? = some (.cells x T (0, 0))
    ∧ (((w.alloc (.cells x T (0, 0))).alloc (.cells y T (0, 0))).alloc (.cells z T (0, 0))).heap[w.heap.size + 1]? = some (.cells y T (0, 0))
    ∧ (((w.alloc (.cells x T (0, 0))).alloc (.cells y T (0, 0))).alloc (.cells z T (0, 0))).heap[w.heap.size + 2]? = some (.cells z T (0, 0)) := by
  have z1 : ((w.alloc (.cells x T (0, 0))).alloc (.cells y T (0, 0))).heap.size = w.heap.size + 2 := by simp
  have h3 := heap_alloc_new ((w.alloc (.cells x T (0, 0))).alloc (.cells y T (0, 0))) (.cells z T (0, 0))
  rw [z1] at h3
  refine ⟨(((Below.refl _ _).alloc (Nat.le_refl _) _).alloc (by simp) _).alloc (by simp; omega) _, ?_, ?_, h3⟩
  · rw [heap_alloc_old _ _ (by omega)]; exact heap_alloc2_old _ _ _
  · rw [heap_alloc_old _ _ (by omega)]; exact heap_alloc2_new _ _ _

set_option maxHeartbeats 2000000 in
set_option maxRecDepth 100000 in
theorem sporder_main (a b c : List UInt8) (na nb nc : Nat) (w : World) (hk : KTab w) (ha : a.length = 32) (hb : b.length = 32) (hc : c.length = 32) :
    Calls Tryd.prog 5 #[.agg (ptL a na).toArray, .agg (ptL b nb).toArray, .agg (ptL c nc).toArray] w fun e w' => e = .returned (.bool true) ∧ Below w.heap.size w w' := by
  have HK := Lib.hid hk
  have HA := Lib.hid ha
  have HB := Lib.hid hb
  have HC := Lib.hid hc
  have hmap : ∀ l : List UInt8, l.length = 32 → (l.map bV).length = 32 := fun l h => by simp [h]
  have HM := Lib.hid hmap
  have hsz : ∀ (l : List UInt8) (n : Nat), l.length = 32 → (ptL l n).toArray.size = 33 := fun l n h => ptL_size l n h
  have HZ := Lib.hid hsz
  clear hk ha hb hc hmap hsz
  go_enter Tryd.func5, Tryd.ntmps5
  go_upto_region 1 with fail
  obtain ⟨b1, f1, f2, f3⟩ := three_boxes w (ptL a na).toArray (ptL b nb).toArray (ptL c nc).toArray 27
  generalize hw1 : World.alloc _ _ = w1
  rw [hw1] at b1 f1 f2 f3
  have B := Lib.hid b1
  have FA := Lib.hid f1
  have FB := Lib.hid f2
  have FC := Lib.hid f3
  clear hw1 b1 f1 f2 f3
  go_upto_region 4 with (go_at_call 7; refine (sfirst_any _ (HK.out.below B.out)).mono ?_; rintro e w2 ⟨rfl, hb2⟩; have FA := Lib.hid (row_below FA.out hb2); have FB := Lib.hid (row_below FB.out hb2); have FC := Lib.hid (row_below FC.out hb2); have B := Lib.hid (B.out.trans (hb2.mono B.out.size)); clear hb2)
  obtain ⟨gx, hgx⟩ : ∃ gx, gx = w2.heap.size := ⟨_, rfl⟩
  have cb : w2.cell? ⟨w.heap.size + 1, 32, none⟩ = some (.int .u32 (nb : Int)) := pt_num HB.out FB.out
  go_upto_region 5 with ((with_reducible show wpList _ _ _ _ _ _); first | (refine wpList_load_mid rfl 24 (.tmp 13) rfl w.heap.size 0 rfl (a.map bV) _ (pt_hash FA.out) Tryd.underlying24 rfl (by rw [HM.out _ HA.out]; kernel_rfl) ?_; go_frame) | (refine wpList_buildTo rfl 27 _ rfl _ rfl (ptL a nb).toArray (Eq.trans (b := Tryd.prog.built 27 [(0, .agg (a.map bV).toArray), (1, .int .u32 (nb : Int))]) (by kernel_rfl) (built_pt a nb HA.out)) ?_; go_frame) | (refine wpList_store_row rfl 27 (.tmp 8) (.tmp 17) rfl w2.heap.size (ptL a nb).toArray rfl rfl 27 _ (heap_alloc_new _ _) (by rw [HZ.out _ _ HA.out]; kernel_rfl) (by rw [HZ.out _ _ HA.out]; rfl) (ptL_one _ _) ?_; go_frame))
  obtain ⟨_, g2, g3, g4⟩ := fill_setup (Below.refl w2.heap.size w2) (List.replicate 32 (bV 0) ++ [nV 0]).toArray (ptL a nb).toArray 27
  rw [← hgx] at g2 g3 g4 ⊢
  generalize hw3 : World.setRow _ _ _ = w3
  have e3 : World.setRow (w2.alloc (.cells (List.replicate 32 (bV 0) ++ [nV 0]).toArray 27)) gx (ptL a nb).toArray = w3 := hw3
  rw [e3] at g2 g4
  rw [hgx] at g4
  have FX := Lib.hid g2
  have FA := Lib.hid (row_below FA.out g4)
  have FB := Lib.hid (row_below FB.out g4)
  have FC := Lib.hid (row_below FC.out g4)
  have B := Lib.hid (B.out.trans (g4.mono B.out.size))
  clear hw3 e3 g2 g3 g4 hgx cb
  obtain ⟨sm, hsm⟩ : ∃ sm, sm = (decide (a = b) && decide (na = nb)) := ⟨_, rfl⟩
  obtain ⟨x1, hx1⟩ : ∃ x1, x1 = lessPt a na b nb := ⟨_, rfl⟩
  obtain ⟨x2, hx2⟩ : ∃ x2, x2 = lessPt b nb c nc := ⟨_, rfl⟩
  obtain ⟨x3, hx3⟩ : ∃ x3, x3 = lessPt a na c nc := ⟨_, rfl⟩
  obtain ⟨x4, hx4⟩ : ∃ x4, x4 = lessPt b nb a na := ⟨_, rfl⟩
  obtain ⟨x5, hx5⟩ : ∃ x5, x5 = lessPt a na a nb := ⟨_, rfl⟩
  have hcase : (x1 = true ∧ x4 = false ∧ sm = false ∧ x2 = false) ∨ (x1 = true ∧ x4 = false ∧ sm = false ∧ x2 = true ∧ x3 = true) ∨ (x1 = false ∧ x4 = true ∧ sm = false) ∨ (x1 = false ∧ x4 = false ∧ sm = true) := by
    cases h1 : x1
    · rw [h1] at hx1
      cases hs : sm
      · rw [hs] at hsm
        exact .inr (.inr (.inl ⟨rfl, by rw [hx4]; exact lessPt_total (HA.out.trans HB.out.symm) hsm.symm hx1.symm, rfl⟩))
      · rw [hs] at hsm
        have hs2 := hsm.symm
        simp only [Bool.and_eq_true, decide_eq_true_eq] at hs2
        exact .inr (.inr (.inr ⟨rfl, by rw [hx4, hs2.1, hs2.2, lessPt_self], rfl⟩))
    · rw [h1] at hx1
      have k1 : x4 = false := by rw [hx4]; exact lessPt_asym (HA.out.trans HB.out.symm) hx1.symm
      have k2 : sm = false := by rw [hsm]; exact lessPt_ne hx1.symm
      cases h2 : x2
      · exact .inl ⟨rfl, k1, k2, rfl⟩
      · rw [h2] at hx2
        exact .inr (.inl ⟨rfl, k1, k2, rfl, by rw [hx3]; exact lessPt_trans (HA.out.trans HB.out.symm) (HB.out.trans HC.out.symm) hx1.symm hx2.symm⟩)
  have ES := Lib.hid hsm
  have E1 := Lib.hid hx1
  have E2 := Lib.hid hx2
  have E3 := Lib.hid hx3
  have E4 := Lib.hid hx4
  have E5 := Lib.hid hx5
  clear hsm hx1 hx2 hx3 hx4 hx5
  go_upto_region 6 with (first | (go_at_call 14; refine (samept_any a b na nb HA.out HB.out sm ES.out _).mono ?_; rintro e w4 ⟨rfl, hb3⟩; have FA := Lib.hid (row_below FA.out hb3); have FB := Lib.hid (row_below FB.out hb3); have FC := Lib.hid (row_below FC.out hb3); have FX := Lib.hid (row_below FX.out hb3); have B := Lib.hid (B.out.trans (hb3.mono B.out.size)); clear hb3) | ((with_reducible show wpList _ _ _ _ _ _); first | (refine wpList_load_rowG 27 (.tmp 3) rfl w.heap.size rfl 27 (ptL a na).toArray (0, 0) _ FA.out Tryd.underlying27 rfl (by rw [HZ.out _ _ HA.out]; kernel_rfl) rfl ?_; go_frame) | (refine wpList_load_rowG 27 (.tmp 4) rfl (w.heap.size + 1) rfl 27 (ptL b nb).toArray (0, 0) _ FB.out Tryd.underlying27 rfl (by rw [HZ.out _ _ HB.out]; kernel_rfl) rfl ?_; go_frame) | (refine wpList_load_rowG 27 (.tmp 5) rfl (w.heap.size + 2) rfl 27 (ptL c nc).toArray (0, 0) _ FC.out Tryd.underlying27 rfl (by rw [HZ.out _ _ HC.out]; kernel_rfl) rfl ?_; go_frame)))
  rcases hcase with ⟨rfl, rfl, rfl, rfl⟩ | ⟨rfl, rfl, rfl, rfl, rfl⟩ | ⟨rfl, rfl, rfl⟩ | ⟨rfl, rfl, rfl⟩
  all_goals
    go_upto_region 8 with (first | (go_at_call 17; refine (lesspt_any _ _ _ _ ?_ ?_ ?_ ?_ _).mono ?_; (first | exact HA.out | exact HB.out | exact HC.out); (first | exact HA.out | exact HB.out | exact HC.out); rotate_left; (first | exact E1.out | exact E2.out | exact E3.out | exact E4.out | exact E5.out); rintro e w5 ⟨rfl, hb3⟩; have FA := Lib.hid (row_below FA.out hb3); have FB := Lib.hid (row_below FB.out hb3); have FC := Lib.hid (row_below FC.out hb3); have FX := Lib.hid (row_below FX.out hb3); have B := Lib.hid (B.out.trans (hb3.mono B.out.size)); clear hb3) | ((with_reducible show wpList _ _ _ _ _ _); first | (refine wpList_load_rowG 27 (.tmp 3) rfl w.heap.size rfl 27 (ptL a na).toArray (0, 0) _ FA.out Tryd.underlying27 rfl (by rw [HZ.out _ _ HA.out]; kernel_rfl) rfl ?_; go_frame) | (refine wpList_load_rowG 27 (.tmp 4) rfl (w.heap.size + 1) rfl 27 (ptL b nb).toArray (0, 0) _ FB.out Tryd.underlying27 rfl (by rw [HZ.out _ _ HB.out]; kernel_rfl) rfl ?_; go_frame) | (refine wpList_load_rowG 27 (.tmp 5) rfl (w.heap.size + 2) rfl 27 (ptL c nc).toArray (0, 0) _ FC.out Tryd.underlying27 rfl (by rw [HZ.out _ _ HC.out]; kernel_rfl) rfl ?_; go_frame)))
    refine wp_region_below (by kernel_rfl) (by kernel_rfl) _ (Below.refl _ _) ?_
    repeat (first | (go_big_quiet_want; refine quiet_load_row 27 (.tmp 3) rfl w.heap.size rfl 27 (ptL a na).toArray (0, 0) _ (fun w' hw' => row_below FA.out hw') Tryd.underlying27 rfl (by rw [HZ.out _ _ HA.out]; kernel_rfl) ?_; go_frame; go_big_quiet_on) | (go_big_quiet_want; refine quiet_load_row 27 (.tmp 4) rfl (w.heap.size + 1) rfl 27 (ptL b nb).toArray (0, 0) _ (fun w' hw' => row_below FB.out hw') Tryd.underlying27 rfl (by rw [HZ.out _ _ HB.out]; kernel_rfl) ?_; go_frame; go_big_quiet_on) | (go_big_quiet_want; refine quiet_load_row 27 (.tmp 8) rfl gx rfl 27 (ptL a nb).toArray (0, 0) _ (fun w' hw' => row_below FX.out hw') Tryd.underlying27 rfl (by rw [HZ.out _ _ HA.out]; kernel_rfl) ?_; go_frame; go_big_quiet_on) | (go_big_quiet_want; refine quiet_load_cell 25 (.tmp 63) rfl w.heap.size 32 rfl .u32 (.int .u32 (na : Int)) (fun w' hw' => pt_num HA.out (row_below FA.out hw')) Tryd.underlying25 ?_; go_frame; go_big_quiet_on) | (go_big_quiet_want; refine quiet_load_cell 25 (.tmp 65) rfl (w.heap.size + 1) 32 rfl .u32 (.int .u32 (nb : Int)) (fun w' hw' => pt_num HB.out (row_below FB.out hw')) Tryd.underlying25 ?_; go_frame; go_big_quiet_on) | go_big_quiet_step ((intro hw'; first | with_reducible exact cls hw' (lesspt_any a b na nb HA.out HB.out _ E1.out _) | with_reducible exact cls hw' (lesspt_any b a nb na HB.out HA.out _ E4.out _) | with_reducible exact cls hw' (lesspt_any a a na nb HA.out HA.out _ E5.out _) | rfl)))
    refine wpQuiet_nil ?_
    intro w7 hw7
    have HW7 := Lib.hid (B.out.trans (hw7.mono B.out.size))
    clear hw7
    go_wp2_with fail
    go_ret
    refine ⟨?_, HW7.out⟩
    show Ending.returned (Value.bool (x5 == decide (na < nb))) = _
    rw [show decide (na < nb) = x5 by rw [E5.out, lessPt, if_pos rfl], beq_self_eq_true]
end Go.Proofs.YthgcpelabiigpaaDoor.Sha
