/-
  The statement on the place that is none answers true. Condition: the table is there.
-/
import Derived.Test.YthgcpelabiigpaaDoorSpFirst
import Derived.Test.YthgcpelabiigpaaDoorFill
import Derived.Test.YthgcpelabiigpaaDoorRefLess
import Derived.Test.YthgcpelabiigpaaDoorPtOrd
import Derived.Test.YthgcpelabiigpaaDoorRefNumb
namespace Go.Proofs.YthgcpelabiigpaaDoor.Sha
open Go Go.RowKit

theorem xor_none (y : UInt32) : (4294967295 ^^^ y : UInt32) = 4294967295 ↔ y = 0 := by
  constructor
  · intro h
    have e : (4294967295 : UInt32) ^^^ (4294967295 ^^^ y) = y := by rw [← UInt32.xor_assoc, UInt32.xor_self, UInt32.zero_xor]
    rw [h, UInt32.xor_self] at e
    exact e.symm
  · rintro rfl
    exact UInt32.xor_zero
theorem pt_set_hash (h : List UInt8) (n r : Nat) (x : UInt8) (hr : r < h.length) : (ptL h n).toArray.setIfInBounds r (.int .u8 (bv x)) = (ptL (h.set r x) n).toArray := by
  rw [List.setIfInBounds_toArray, ptL, List.set_append_left _ _ (by simpa using hr), ptL, List.map_set]
  rfl
theorem pt_set_num (h : List UInt8) (n m : Nat) (hh : h.length = 32) : (ptL h n).toArray.setIfInBounds 32 (.int .u32 (m : Int)) = (ptL h m).toArray := by
  rw [List.setIfInBounds_toArray, ptL, List.set_append_right _ _ (by simp [hh]), ptL, List.length_map, hh]
  rfl
theorem built_zero : Tryd.prog.built 27 [] = some (ptL (List.replicate 32 0) 0).toArray := by kernel_rfl
/-- In a quiet walk: a value is built. -/
theorem quiet_build {P : Program} {C : World → Prop} {a : Act} {o : Oper} {K : Act → Prop} (t : TypeId) (parts : Array (Nat × Operand)) (ho : o.op = .build t parts) (cells : Array Value)
    (hf : P.built t (parts.map fun (i, x) => (i, a.eval x)).toList = some cells) (hk : K (a.put o.dst (.agg cells))) : o.quiet P a C K := by
  refine quiet_run _ (fun w => ?_) hk
  simp only [execOp, ho]
  have := run_build (P := P) w t (parts.map fun (i, x) => (i, a.eval x)) cells hf
  simp only [Sem.run_bind, this, Result.andThen_ok, Sem.run_pure]
/-- Zeros with one byte turned. -/
theorem less_zeros (r : Nat) (x : UInt8) (hr : r < 32) (hx : x ≠ 0) : lessL (List.replicate 32 0) ((List.replicate 32 0).set r x) = true := by
  have hg : ∀ j, j < 32 → (List.replicate 32 (0 : UInt8)).getD j 0 = 0 := fun j hj => by rw [List.getD, List.getElem?_replicate, if_pos hj]; rfl
  have hs : ((List.replicate 32 (0 : UInt8)).set r x).getD r 0 = x := by rw [List.getD, List.getElem?_set_self (by rw [List.length_replicate]; exact hr)]; rfl
  have h := lessL_at r (List.replicate 32 0) ((List.replicate 32 0).set r x) (fun j hj => by
    rw [hg j (by omega)]
    simp only [List.getD]
    rw [List.getElem?_set_ne (by omega), List.getElem?_replicate, if_pos (by omega)]
    rfl) (by simpa using hr) (by simpa using hr) (by rw [hg r hr, hs]; exact fun e => hx e.symm)
  rw [h, hg r hr, hs]
  exact decide_eq_true (UInt8.pos_iff_ne_zero.2 hx)

set_option maxHeartbeats 2000000 in
set_option maxRecDepth 100000 in
theorem spnulls_main (k : Int) (x : UInt8) (y : UInt32) (w : World) (hk : KTab w) (hkb : -9223372036854775808 ≤ k ∧ k ≤ 9223372036854775807) :
    Calls Tryd.prog 6 #[.int .i64 k, .int .u8 (bv x), .int .u32 (y.toNat : Int)] w fun e w' => e = .returned (.bool true) ∧ Below w.heap.size w w' := by
  obtain ⟨r, hr, hrn⟩ := numb_nat k 32 (by omega)
  obtain ⟨Z, hZ⟩ : ∃ Z : List UInt8, Z = List.replicate 32 0 := ⟨_, rfl⟩
  obtain ⟨M, hM⟩ : ∃ M : Nat, M = 4294967295 := ⟨_, rfl⟩
  obtain ⟨q, hq⟩ : ∃ q : List UInt8, q = Z.set r x := ⟨_, rfl⟩
  obtain ⟨m, hm⟩ : ∃ m : Nat, m = (4294967295 ^^^ y : UInt32).toNat := ⟨_, rfl⟩
  obtain ⟨n, hn⟩ : ∃ n : Nat, n = y.toNat := ⟨_, rfl⟩
  have hZl : Z.length = 32 := by rw [hZ]; rfl
  have hql : q.length = 32 := by rw [hq, List.length_set, hZl]
  have HZL := Lib.hid hZl
  have HQL := Lib.hid hql
  have hsz : ∀ (l : List UInt8) (n : Nat), l.length = 32 → (ptL l n).toArray.size = 33 := fun l n h => ptL_size l n h
  have HZ := Lib.hid hsz
  have NP : Hid (∀ w, Calls Tryd.prog 16 #[] w fun e w' => e = .returned (.agg (ptL Z M).toArray) ∧ Below w.heap.size w w') := fun w => by rw [hZ, hM]; exact null_any w
  have NR : Hid (∀ w, Calls Tryd.prog 15 #[] w fun e w' => e = .returned (.agg (ptL Z M).toArray) ∧ Below w.heap.size w w') := fun w => by rw [hZ, hM]; exact rnull_any w
  have HB0 : Hid (Tryd.prog.built 27 [] = some (ptL Z 0).toArray) := by rw [hZ]; exact built_zero
  have hx1 : bits .xor .u8 0 (bv x) = bv x := by
    have e := u8_xor_nat 0 x.toNat (by omega) x.toNat_lt
    rw [Nat.zero_xor] at e
    exact e
  have hy1 : bits .xor .u32 (M : Int) (n : Int) = (m : Int) := by
    have e := wv_xor 4294967295 y
    rw [hM, hn, hm]
    exact e
  have hm2 : m ≤ 4294967295 := by rw [hm]; have := (4294967295 ^^^ y : UInt32).toNat_lt; omega
  have hmy : (n = 0 ∧ m = M) ∨ (n ≠ 0 ∧ m < M) := by
    by_cases e : y = 0
    · subst e
      exact .inl ⟨by rw [hn]; rfl, by rw [hm, hM]; rfl⟩
    · refine .inr ⟨fun h => e (UInt32.toNat_inj.1 (by rw [← hn, h]; rfl)), ?_⟩
      have h2 : m ≠ M := fun h => e ((xor_none y).1 (UInt32.toNat_inj.1 (by rw [← hm, h, hM]; rfl)))
      omega
  obtain ⟨bq, nq, hbq, hqx, hqn, hqI, hqL⟩ : ∃ bq nq : Bool, (bq = true ∧ nq = false ∨ bq = false ∧ nq = true) ∧ (bv x == 0) = bq ∧ (bv x != 0) = nq ∧ bq = (decide (q = List.replicate 32 0) && decide (M = 4294967295)) ∧ nq = lessPt Z M q M := by
    by_cases e : x = 0
    · subst e
      have hqZ : q = Z := by
        rw [hq]
        apply List.ext_getElem (by simp)
        intro i h1 h2
        have hz : Z[i] = 0 := by subst hZ; exact List.getElem_replicate _
        rw [List.getElem_set, hz]
        split <;> rfl
      exact ⟨true, false, .inl ⟨rfl, rfl⟩, rfl, rfl, by rw [hqZ, hZ, hM]; simp, by rw [hqZ, lessPt_self]⟩
    · have hne : Z ≠ q := fun h => by
        have := less_zeros r x hrn e
        rw [← hZ, ← hq, ← h, less_self] at this
        cases this
      have e1 : (bv x == 0) = false := by rw [beq_eq_false_iff_ne]; intro h; exact e (bv_inj (y := 0) h)
      refine ⟨false, true, .inr ⟨rfl, rfl⟩, e1, by simp [bne, e1], ?_, ?_⟩
      · rw [decide_eq_false (by rw [← hZ]; exact fun h => hne h.symm)]; rfl
      · rw [lessPt, if_neg hne, hq, hZ]; exact (less_zeros r x hrn e).symm
  obtain ⟨br, nr, hbr, hrx, hrn2, hrI, hrL⟩ : ∃ br nr : Bool, (br = true ∧ nr = false ∨ br = false ∧ nr = true) ∧ ((n : Int) == 0) = br ∧ ((n : Int) != 0) = nr ∧ br = (decide (Z = List.replicate 32 0) && decide (m = 4294967295)) ∧ nr = lessPt Z m Z M := by
    rcases hmy with ⟨h1, h2⟩ | ⟨h1, h2⟩
    · exact ⟨true, false, .inl ⟨rfl, rfl⟩, by rw [h1]; rfl, by rw [h1]; rfl, by rw [h2, hZ, hM]; simp, by rw [h2, lessPt_self]⟩
    · have e1 : ((n : Int) == 0) = false := by rw [beq_eq_false_iff_ne]; omega
      exact ⟨false, true, .inr ⟨rfl, rfl⟩, e1, by simp [bne, e1], by rw [decide_eq_false (show ¬ m = 4294967295 by omega), Bool.and_false], by rw [lessPt, if_pos rfl, decide_eq_true h2]⟩
  have I1 : Hid (true = (decide (Z = List.replicate 32 0) && decide (M = 4294967295))) := by show _ = _; rw [hZ, hM]; simp
  have I2 := Lib.hid hqI
  have I3 := Lib.hid hrI
  have I4 : Hid (false = (decide (Z = List.replicate 32 0) && decide (0 = 4294967295))) := by show _ = _; simp
  have L1 := Lib.hid hrL
  have L2 := Lib.hid hqL
  have SP : Hid (∀ w, Calls Tryd.prog 14 #[.agg (ptL Z M).toArray, .agg (ptL Z M).toArray] w fun e w' => e = .returned (.bool true) ∧ Below w.heap.size w w') := fun w => samept_any Z Z M M hZl hZl true (by simp) w
  have HQ := Lib.hid hq
  have HK := Lib.hid hk
  have HX := Lib.hid hqx
  have HXN := Lib.hid hqn
  have HY := Lib.hid hrx
  have HYN := Lib.hid hrn2
  rw [← hn]
  have HMB : Hid (M = 4294967295) := hM
  have HZE := Lib.hid hZ
  have hq0 : ((r : Nat) : Int) < 32 := by omega
  clear hk hZ hM hq hm hn hZl hql hsz hqI hqL hrI hrL hqx hqn hrx hrn2 hmy hm2
  go_enter Tryd.func6, Tryd.ntmps6
  go_upto_region 4 with (go_at_call 7; refine (sfirst_any _ HK.out).mono ?_; rintro e w1 ⟨rfl, hb1⟩; have B := Lib.hid hb1; clear hb1)
  go_wp2_with fail
  refine (NP.out _).mono ?_
  rintro e w2 ⟨rfl, hb2⟩
  have B2 := Lib.hid (B.out.trans (hb2.mono B.out.size))
  clear hb2 B
  obtain ⟨gp, hgp⟩ : ∃ gp, gp = w2.heap.size := ⟨_, rfl⟩
  obtain ⟨_, g2, g3, g4⟩ := fill_setup (Below.refl w2.heap.size w2) (List.replicate 32 (bV 0) ++ [nV 0]).toArray (ptL Z M).toArray 27
  go_upto_region 5 with ((with_reducible show wpList _ _ _ _ _ _); (refine wpList_store_row rfl 27 (.tmp 8) (.tmp 14) rfl w2.heap.size (ptL Z M).toArray rfl rfl 27 _ (heap_alloc_new _ _) (by rw [HZ.out _ _ HZL.out]; kernel_rfl) (by rw [HZ.out _ _ HZL.out]; rfl) (ptL_one _ _) ?_; go_frame))
  rw [← hgp] at g2 g3 g4 ⊢
  generalize hw3 : World.setRow _ _ _ = w3
  have e3 : World.setRow (w2.alloc (.cells (List.replicate 32 (bV 0) ++ [nV 0]).toArray 27)) gp (ptL Z M).toArray = w3 := hw3
  rw [e3] at g2 g4
  rw [hgp] at g4
  have zp : gp < w3.heap.size := (Array.getElem?_eq_some_iff.1 g2).1
  have FP := Lib.hid g2
  have B3 := Lib.hid (B2.out.trans (g4.mono B2.out.size))
  clear hw3 e3 g2 g3 g4 hgp B2
  obtain ⟨gq, hgq⟩ : ∃ gq, gq = w3.heap.size := ⟨_, rfl⟩
  obtain ⟨_, g2, g3, g4⟩ := fill_setup (Below.refl w3.heap.size w3) (List.replicate 32 (bV 0) ++ [nV 0]).toArray (ptL Z M).toArray 27
  go_upto_region 6 with ((with_reducible show wpList _ _ _ _ _ _); first | (refine wpList_load_row rfl 27 (.tmp 8) rfl gp rfl 27 (ptL Z M).toArray (0, 0) _ FP.out Tryd.underlying27 rfl (by rw [HZ.out _ _ HZL.out]; kernel_rfl) ?_; go_frame) | (refine wpList_store_row rfl 27 (.tmp 9) (.tmp 15) rfl w3.heap.size (ptL Z M).toArray rfl rfl 27 _ (heap_alloc_new _ _) (by rw [HZ.out _ _ HZL.out]; kernel_rfl) (by rw [HZ.out _ _ HZL.out]; rfl) (ptL_one _ _) ?_; go_frame))
  rw [← hgq] at g2 g3 g4 ⊢
  generalize hw4 : World.setRow _ _ _ = w4
  have e4 : World.setRow (w3.alloc (.cells (List.replicate 32 (bV 0) ++ [nV 0]).toArray 27)) gq (ptL Z M).toArray = w4 := hw4
  rw [e4] at g2 g4
  rw [hgq] at g4
  have hpq : gp < gq := by rw [hgq]; exact zp
  have zq : gq < w4.heap.size := (Array.getElem?_eq_some_iff.1 g2).1
  have hwq : w.heap.size ≤ gq := by rw [hgq]; exact B3.out.size
  have FQ := Lib.hid g2
  have FP := Lib.hid (row_below FP.out g4)
  have B4 := Lib.hid (B3.out.trans (g4.mono B3.out.size))
  clear hw4 e4 g2 g3 g4 hgq B3
  have hnum := numb_any k 32 (by omega) (by omega) hkb w4
  have hr' : numb k 32 = (r : Int) := hr
  rw [hr'] at hnum
  have HNUM := Lib.hid hnum
  clear hnum hr hr' hkb
  go_upto_region 7 with (go_at_call 20; refine HNUM.out.mono ?_; rintro e w' ⟨rfl, rfl⟩)
  have cr : w4.cell? ⟨gq, r, none⟩ = some (.int .u8 0) := by
    rw [cell_of_row _ _ _ _ _ _ FQ.out, List.getElem?_toArray, ptL, List.getElem?_append_left (by rw [List.length_map, HZL.out]; exact hrn), HZE.out, List.getElem?_map, List.getElem?_replicate, if_pos hrn]
    rfl
  have zr := frozen_of_row w4 gq r _ _ FQ.out
  go_upto_region 8 with fail
  clear cr zr HNUM
  have h5 : (w4.setCell ⟨gq, r, none⟩ (.int .u8 (bv x))).heap[gq]? = some (.cells (ptL q M).toArray 27 (0, 0)) := by
    rw [heap_setCell_same _ _ _ _ _ _ FQ.out, pt_set_hash _ _ _ _ (by rw [HZL.out]; exact hrn), HQ.out]
  have h6 : (w4.setCell ⟨gq, r, none⟩ (.int .u8 (bv x))).heap[gp]? = some (.cells (ptL Z M).toArray 27 (0, 0)) := by rw [heap_setCell_other _ _ _ _ (by show gp ≠ gq; omega)]; exact FP.out
  have h7 : Below w.heap.size w (w4.setCell ⟨gq, r, none⟩ (.int .u8 (bv x))) := B4.out.setCell (by show w.heap.size ≤ gq; omega) _
  generalize hw5 : World.setCell _ _ _ = w5
  rw [hw5] at h5 h6 h7
  have FQ := Lib.hid h5
  have FP := Lib.hid h6
  have B5 := Lib.hid h7
  have zq5 : gq < w5.heap.size := (Array.getElem?_eq_some_iff.1 h5).1
  clear hw5 h5 h6 h7 B4 hrn hq0
  obtain ⟨gr, hgr⟩ : ∃ gr, gr = w5.heap.size := ⟨_, rfl⟩
  obtain ⟨_, g2, g3, g4⟩ := fill_setup (Below.refl w5.heap.size w5) (List.replicate 32 (bV 0) ++ [nV 0]).toArray (ptL Z M).toArray 27
  go_upto_region 9 with ((with_reducible show wpList _ _ _ _ _ _); first | (refine wpList_load_row rfl 27 (.tmp 8) rfl gp rfl 27 (ptL Z M).toArray (0, 0) _ FP.out Tryd.underlying27 rfl (by rw [HZ.out _ _ HZL.out]; kernel_rfl) ?_; go_frame) | (refine wpList_store_row rfl 27 (.tmp 10) (.tmp 27) rfl w5.heap.size (ptL Z M).toArray rfl rfl 27 _ (heap_alloc_new _ _) (by rw [HZ.out _ _ HZL.out]; kernel_rfl) (by rw [HZ.out _ _ HZL.out]; rfl) (ptL_one _ _) ?_; go_frame))
  rw [← hgr] at g2 g3 g4 ⊢
  generalize hw6 : World.setRow _ _ _ = w6
  have e6 : World.setRow (w5.alloc (.cells (List.replicate 32 (bV 0) ++ [nV 0]).toArray 27)) gr (ptL Z M).toArray = w6 := hw6
  rw [e6] at g2 g4
  rw [hgr] at g4
  have hqr : gq < gr := by rw [hgr]; exact zq5
  have hwr : w.heap.size ≤ gr := by rw [hgr]; exact B5.out.size
  have FR := Lib.hid g2
  have FQ := Lib.hid (row_below FQ.out g4)
  have FP := Lib.hid (row_below FP.out g4)
  have B6 := Lib.hid (B5.out.trans (g4.mono B5.out.size))
  clear hw6 e6 g2 g3 g4 hgr B5
  have cr : w6.cell? ⟨gr, 32, none⟩ = some (.int .u32 (M : Int)) := pt_num HZL.out FR.out
  have zr := frozen_of_row w6 gr 32 _ _ FR.out
  go_upto_region 10 with fail
  clear cr zr
  have h5 : (w6.setCell ⟨gr, 32, none⟩ (.int .u32 (m : Int))).heap[gr]? = some (.cells (ptL Z m).toArray 27 (0, 0)) := by
    rw [heap_setCell_same _ _ _ _ _ _ FR.out, pt_set_num _ _ _ HZL.out]
  have h6 : (w6.setCell ⟨gr, 32, none⟩ (.int .u32 (m : Int))).heap[gp]? = some (.cells (ptL Z M).toArray 27 (0, 0)) := by rw [heap_setCell_other _ _ _ _ (by show gp ≠ gr; omega)]; exact FP.out
  have h8 : (w6.setCell ⟨gr, 32, none⟩ (.int .u32 (m : Int))).heap[gq]? = some (.cells (ptL q M).toArray 27 (0, 0)) := by rw [heap_setCell_other _ _ _ _ (by show gq ≠ gr; omega)]; exact FQ.out
  have h7 : Below w.heap.size w (w6.setCell ⟨gr, 32, none⟩ (.int .u32 (m : Int))) := B6.out.setCell (by show w.heap.size ≤ gr; omega) _
  generalize hw7 : World.setCell _ _ _ = w7
  rw [hw7] at h5 h6 h7 h8
  have FQ := Lib.hid h8
  have FP := Lib.hid h6
  have FR := Lib.hid h5
  have B := Lib.hid h7
  clear hw7 h5 h6 h7 h8 B6 hx1 hy1
  rcases hbq with ⟨rfl, rfl⟩ | ⟨rfl, rfl⟩ <;> rcases hbr with ⟨rfl, rfl⟩ | ⟨rfl, rfl⟩
  all_goals
    have hx1 := HX.out
    have hx2 := HXN.out
    have hy1 := HY.out
    have hy2 := HYN.out
    refine wp_region_below (by kernel_rfl) (by kernel_rfl) _ (Below.refl _ _) ?_
    repeat (first | (go_big_quiet_want; refine quiet_load_row 27 (.tmp 8) rfl gp rfl 27 (ptL Z M).toArray (0, 0) _ (fun w' hw' => row_below FP.out hw') Tryd.underlying27 rfl (by rw [HZ.out _ _ HZL.out]; kernel_rfl) ?_; go_frame; go_big_quiet_on) | (go_big_quiet_want; refine quiet_load_row 27 (.tmp 9) rfl gq rfl 27 (ptL q M).toArray (0, 0) _ (fun w' hw' => row_below FQ.out hw') Tryd.underlying27 rfl (by rw [HZ.out _ _ HQL.out]; kernel_rfl) ?_; go_frame; go_big_quiet_on) | (go_big_quiet_want; refine quiet_load_row 27 (.tmp 10) rfl gr rfl 27 (ptL Z m).toArray (0, 0) _ (fun w' hw' => row_below FR.out hw') Tryd.underlying27 rfl (by rw [HZ.out _ _ HZL.out]; kernel_rfl) ?_; go_frame; go_big_quiet_on) | (go_big_quiet_want; refine quiet_build 27 _ rfl (ptL Z 0).toArray (Eq.trans (b := Tryd.prog.built 27 []) (by kernel_rfl) HB0.out) ?_; go_frame; go_big_quiet_on) | go_big_quiet_step ((intro hw'; first | with_reducible exact cls hw' (isnull_any Z M HZL.out _ I1.out _) | with_reducible exact cls hw' (isnull_any q M HQL.out _ I2.out _) | with_reducible exact cls hw' (isnull_any Z m HZL.out _ I3.out _) | with_reducible exact cls hw' (isnull_any Z 0 HZL.out _ I4.out _) | with_reducible exact cls hw' (lesspt_any Z Z m M HZL.out HZL.out _ L1.out _) | with_reducible exact cls hw' (lesspt_any Z q M M HZL.out HQL.out _ L2.out _) | with_reducible exact cls hw' (NR.out _) | with_reducible exact cls hw' (SP.out _) | rfl)))
    refine wpQuiet_nil ?_
    intro w8 hw8
    have HW8 := Lib.hid (B.out.trans (hw8.mono B.out.size))
    clear hw8
    go_wp2_with fail
    go_ret
    exact ⟨rfl, HW8.out⟩
end Go.Proofs.YthgcpelabiigpaaDoor.Sha
